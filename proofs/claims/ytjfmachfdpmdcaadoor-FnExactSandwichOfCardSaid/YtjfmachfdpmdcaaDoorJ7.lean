/- What functions of the program return, as walks over their operations; no statement of the seat is proved here. -/
import Derived.Test.YtjfmachfdpmdcaaDoorJ6
import Derived.Test.YtjfmachfdpmdcaaDoorSw10
set_option linter.unusedVariables false
set_option linter.unusedSimpArgs false
namespace Go.Proofs.YtjfmachfdpmdcaaDoor
open Go Go.RowKit Go.Sw Go.Ech
open Classical
def RVq (p n : Nat) (x : Nat → Nat) : Prop := (∀ c, x c < p) ∧ ∀ c, n ≤ c → x c = 0
theorem RVq.eq {p n : Nat} {x y : Nat → Nat} (hx : RVq p n x) (hy : RVq p n y) (h : EqP p n (ci x) (ci y)) : x = y := funext fun c => by
  by_cases hc : c < n
  · exact eq_of_dvd (hx.1 c) (hy.1 c) (h c hc)
  · rw [hx.2 c (by omega), hy.2 c (by omega)]
theorem sandClo (p n : Nat) (T : Nat → Nat → Nat → Nat) (f : Nat → Nat) (m : Nat) (U : Nat → Nat → Nat → Nat) (fu : Nat → Nat) (Z : Nat → Nat → Nat) (G H : Nat → Nat → Nat) (x : Nat → Nat) (bp bx : Nat) (w : World) (hp : primeN p) (hn0 : 0 < n) (hn : n ≤ 6) (hTp : ∀ i j k, T i j k < p) (hT0 : ∀ i j k, n ≤ k → T i j k = 0) (hf : ∀ i, f i ≤ 255) (hm0 : 0 < m) (hm : m ≤ 6) (hUp : ∀ i j k, U i j k < p) (hU0 : ∀ i j k, m ≤ k → U i j k = 0) (hfu : ∀ i, fu i ≤ 255) (hZ : ∀ i c, Z i c ≤ 255) (hfr : FrobN p n T f) (hG : IsCop p n (formM p n T f) G) (hfrU : FrobN p m U fu) (hH : IsCop p m (formM p m U fu) H) (hcom : comP T) (hvx : ∀ c, x c ≤ 255) (hbp : Blk w bp (pairC (p : Int) (n : Int) T f (p : Int) (m : Int) U fu Z)) (hbx : Blk w bx (vecC x)) :
    CallsR Tryd.prog 40 #[ptr bp (0), ptr bx (0)] w (fun res _ => res = .agg (vecC (klV p m U H (exV p m U x) m))) := by
  refine calls_fr [ptr bp (0), ptr bx (0)] Tryd.func40 rfl Tryd.ntmps40 rfl fun a hF => ?_;have hM : Mem w w [none] [(bp, pairC (p : Int) (n : Int) T f (p : Int) (m : Int) U fu Z), (bx, vecC x)] := MemX.startD w 1 _ (startD2 hbp hbx);change Fr 6 a [(0, ptr bp (0)), (1, ptr bx (0))] at hF;have hp2 := hp.two;have hp13 := hp.le;have hT : ∀ i j k, T i j k ≤ 255 := fun i j k => by have := hTp i j k; omega
  have hU : ∀ i j k, U i j k ≤ 255 := fun i j k => by have := hUp i j k; omega
  refine sr <| stR hF (d_alloc 0 hM ty_ze_29) rfl ?_;rintro _ w' a ⟨b1, rfl, hM, -⟩ hF;change Mem w w' [some (b1, fnC 6 (fun _ => .int .u8 (0)))] [(bp, pairC (p : Int) (n : Int) T f (p : Int) (m : Int) U fu Z), (bx, vecC x)] at hM;refine ns <| st hF (g_loadAgg ty_ag_36 hF rfl (hM.fz 0 rfl) (by simp only [sz0, mrk_size, pairC_size] <;> omega) (whole (by simp only [sz0, mrk_size, pairC_size]))) rfl fun a hF => st hF (g_loadAgg ty_ag_29 hF rfl (hM.fz 1 rfl) (by simp only [sz0, mrk_size, pairC_size] <;> omega) (whole (by simp only [sz0, mrk_size, pairC_size]))) rfl fun a hF => stR hF (d_call Tryd.call41 hF (.cons rfl (.cons rfl .nil)) (sandwich_ok p n T f m U fu Z H x _ hp hn0 hn hTp hT0 hf hm0 hm hUp hU0 hfu hZ hfrU hH hvx)) rfl ?_;rintro _ w' a ⟨hx, rfl⟩ hF;have hM := hM.ext hx;refine stN hF (d_storeAgg 0 hM rfl ty_sz_29 hF rfl rfl (by first | exact vecC_one | exact cells_one | (refine fnC_one fun _ _ => ?_; first | rfl | (split <;> rfl))) (by simp only [sz0, mrk_size, pairC_size]) (by simp only [sz0, mrk_size, pairC_size] <;> omega) (splice_whole _ _ (by simp only [sz0, mrk_size, pairC_size]))) ?_;intro _ w' a hM hF;change Mem w w' [some (b1, vecC (klV p m U H (exV p m U x) m))] [(bp, pairC (p : Int) (n : Int) T f (p : Int) (m : Int) U fu Z), (bx, vecC x)] at hM;refine nt <| wp_ret <| fin1 rfl hF.defers (res_agg ty_ag_29 hF rfl (hM.row 0 rfl) (by simp only [sz0, mrk_size, pairC_size])) ⟨_, rfl, hM.below, ?_⟩
  show _ = _
  rfl
def CardyP (p n m : Nat) (U : Nat → Nat → Nat → Nat) (fu : Nat → Nat) (Z G H : Nat → Nat → Nat) : Prop := ∀ i, i < m → eqV 6 (apV p Z (apV p G (fzV p m U fu Z (fun c => if c = i then 1 else 0)) n) n) (klV p m U H (exV p m U (fun c => if c = i then 1 else 0)) m)

end Go.Proofs.YtjfmachfdpmdcaaDoor
