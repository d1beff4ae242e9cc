/- What functions of the program return, as walks over their operations; no statement of the seat is proved here. -/
import Derived.Test.YtjfmachfdpmdcaaDoorJ6
import Derived.Test.YtjfmachfdpmdcaaDoorSw10
set_option linter.unusedVariables false
set_option linter.unusedSimpArgs false
namespace Go.Proofs.YtjfmachfdpmdcaaDoor
open Go Go.RowKit Go.Sw Go.Ech
open Classical
theorem apG_out {p n : Nat} {F f : Nat → Nat} {T : Nat → Nat → Nat → Nat} {G : Nat → Nat → Nat} (hG : IsCop p n (formM p n T f) G) {c : Nat} (h : n ≤ c) : apV p G F n c = 0 := by
  unfold apV
  have e : ∀ k, sumTo (fun i => F i * G i c) k = 0 := fun k => by
    induction k with
    | zero => rfl
    | succ k ih => simp only [sumTo]; rw [ih, hG.out k c (.inr h)]; simp
  rw [e]; exact Nat.zero_mod p
def RVq (p n : Nat) (x : Nat → Nat) : Prop := (∀ c, x c < p) ∧ ∀ c, n ≤ c → x c = 0
theorem RVq.eq {p n : Nat} {x y : Nat → Nat} (hx : RVq p n x) (hy : RVq p n y) (h : EqP p n (ci x) (ci y)) : x = y := funext fun c => by
  by_cases hc : c < n
  · exact eq_of_dvd (hx.1 c) (hy.1 c) (h c hc)
  · rw [hx.2 c (by omega), hy.2 c (by omega)]
theorem timesV_RVq {p n : Nat} {T : Nat → Nat → Nat → Nat} {v u : Nat → Nat} (hp : 0 < p) (hT0 : ∀ i j k, n ≤ k → T i j k = 0) : RVq p n (timesV p n T v u) := ⟨fun c => Nat.mod_lt _ hp, fun c hc => by
  unfold timesV prodI
  rw [sumTo_zero fun i _ => sumTo_zero fun j _ => by rw [hT0 i j c hc, Nat.mul_zero]]
  exact Nat.zero_mod p⟩
theorem timesV_eqQ {p n : Nat} {T : Nat → Nat → Nat → Nat} (v u : Nat → Nat) : EqP p n (ci (timesV p n T v u)) (Pr n T (ci v) (ci u)) := fun c _ => timesV_dvd
theorem powW_RVq {p n : Nat} {T : Nat → Nat → Nat → Nat} {s v : Nat → Nat} (hp : 0 < p) (hT0 : ∀ i j k, n ≤ k → T i j k = 0) (hs : RVq p n s) : ∀ k, RVq p n (powW (timesV p n T) s v k)
  | 0 => hs
  | k + 1 => timesV_RVq hp hT0
theorem pow_start {p n : Nat} {T : Nat → Nat → Nat → Nat} {uu s t : Nat → Nat} (hp : 0 < p) (hT0 : ∀ i j k, n ≤ k → T i j k = 0) (ha : AssI p n T) (hu : UnitI p n T uu) (hs : RVq p n s) : ∀ h, timesV p n T s (powW (timesV p n T) uu t h) = powW (timesV p n T) s t h := fun h =>
  (timesV_RVq hp hT0).eq (powW_RVq hp hT0 hs h) (by
    induction h with
    | zero => exact (timesV_eqQ _ _).trans (fun c hc => Pr_unit_right hu _ hc)
    | succ h ih =>
      refine (timesV_eqQ _ _).trans ?_
      refine (EqP.mul (EqP.refl _) (timesV_eqQ _ _)).trans ?_
      refine EqP.trans (EqP.symm (fun c hc => Pr_assoc ha _ _ _ hc)) ?_
      refine EqP.trans (EqP.mul ((timesV_eqQ _ _).symm.trans ih) (EqP.refl _)) ?_
      exact (timesV_eqQ _ _).symm)
theorem boundary_ok (p n : Nat) (T : Nat → Nat → Nat → Nat) (f : Nat → Nat) (m : Nat) (U : Nat → Nat → Nat → Nat) (fu : Nat → Nat) (Z : Nat → Nat → Nat) (G H : Nat → Nat → Nat) (uu vv : Nat → Nat) (w : World) (hp : primeN p) (hn0 : 0 < n) (hn : n ≤ 6) (hTp : ∀ i j k, T i j k < p) (hT0 : ∀ i j k, n ≤ k → T i j k = 0) (hf : ∀ i, f i ≤ 255) (hm0 : 0 < m) (hm : m ≤ 6) (hUp : ∀ i j k, U i j k < p) (hU0 : ∀ i j k, m ≤ k → U i j k = 0) (hfu : ∀ i, fu i ≤ 255) (hZ : ∀ i c, Z i c ≤ 255) (hfr : FrobN p n T f) (hG : IsCop p n (formM p n T f) G) (hfrU : FrobN p m U fu) (hH : IsCop p m (formM p m U fu) H) (hcom : comP T) (huu : UnitI p n T uu) (hvv : UnitI p m U vv) :
    CallsR Tryd.prog 52 #[.agg (pairC (p : Int) (n : Int) T f (p : Int) (m : Int) U fu Z)] w (fun res _ => res = .agg (vecC (apV p G (fzV p m U fu Z vv) n))) := by
  refine calls_fr [.agg (pairC (p : Int) (n : Int) T f (p : Int) (m : Int) U fu Z)] Tryd.func52 rfl Tryd.ntmps52 rfl fun a hF => ?_;have hM : Mem w w [none, none, none] [] := MemX.start w 3;change Fr 14 a [(0, .agg (pairC (p : Int) (n : Int) T f (p : Int) (m : Int) U fu Z))] at hF;have hp2 := hp.two;have hp13 := hp.le;have hT : ∀ i j k, T i j k ≤ 255 := fun i j k => by have := hTp i j k; omega
  have hU : ∀ i j k, U i j k ≤ 255 := fun i j k => by have := hUp i j k; omega
  have hub : ∀ c, uu c ≤ 255 := fun c => by have := huu.small c; omega
  have hvb : ∀ c, vv c ≤ 255 := fun c => by have := hvv.small c; omega
  refine sr <| stR hF (d_box 0 hM hF rfl) rfl ?_;rintro _ w' a ⟨b1, rfl, hM, -⟩ hF;refine stR hF (d_alloc 1 hM ty_ze_29) rfl ?_;rintro _ w' a ⟨b2, rfl, hM, -⟩ hF;change Mem w w' [some (b1, pairC (p : Int) (n : Int) T f (p : Int) (m : Int) U fu Z), some (b2, fnC 6 (fun _ => .int .u8 (0))), none] [] at hM;refine ns <| st hF (g_fieldAddr ty_fo_36_1 hF rfl) rfl fun a hF => st hF (g_loadAgg ty_ag_33 hF rfl (hM.row 0 rfl) (by simp only [sz0, mrk_size, pairC_size] <;> omega) (pairC_open (by omega) (by omega))) rfl fun a hF => stR hF (d_call Tryd.call76 hF (.cons rfl .nil) (findUnit_u p m U fu vv _ hp hm0 hm hUp hvv)) rfl ?_;rintro _ w' a ⟨hx, rfl⟩ hF;have hM := hM.ext hx;refine mv hF rfl rfl fun a hF => st hF (g_extract hF rfl rfl) rfl fun a hF => st hF (g_extract hF rfl rfl) rfl fun a hF => stR hF (d_alloc 2 hM ty_ze_29) rfl ?_;rintro _ w' a ⟨b3, rfl, hM, -⟩ hF;change Mem w w' [some (b1, pairC (p : Int) (n : Int) T f (p : Int) (m : Int) U fu Z), some (b2, fnC 6 (fun _ => .int .u8 (0))), some (b3, fnC 6 (fun _ => .int .u8 (0)))] [] at hM;refine stN hF (d_storeAgg 2 hM rfl ty_sz_29 hF rfl rfl (by first | exact vecC_one | exact cells_one | (refine fnC_one fun _ _ => ?_; first | rfl | (split <;> rfl))) (by simp only [sz0, mrk_size, pairC_size]) (by simp only [sz0, mrk_size, pairC_size] <;> omega) (splice_whole _ _ (by simp only [sz0, mrk_size, pairC_size]))) ?_;intro _ w' a hM hF;change Mem w w' [some (b1, pairC (p : Int) (n : Int) T f (p : Int) (m : Int) U fu Z), some (b2, fnC 6 (fun _ => .int .u8 (0))), some (b3, vecC vv)] [] at hM;refine ag hF rfl rfl fun a hF => ns <| st hF (g_loadAgg ty_ag_36 hF rfl (hM.row 0 rfl) (by simp only [sz0, mrk_size, pairC_size] <;> omega) (whole (by simp only [sz0, mrk_size, pairC_size]))) rfl fun a hF => st hF (g_loadAgg ty_ag_29 hF rfl (hM.row 2 rfl) (by simp only [sz0, mrk_size, pairC_size] <;> omega) (whole (by simp only [sz0, mrk_size, pairC_size]))) rfl fun a hF => stR hF (d_call Tryd.call38 hF (.cons rfl (.cons rfl .nil)) ((CallsR.val (unzip_ok p n T f m U fu Z G vv _ hp hn0 hn hTp hT0 hf hm0 hm hUp hU0 hfu hZ hfr hG (fun c => by have := hvv.small c; omega)) (congrArg (fun q : Nat → Nat → Nat => Value.agg (vecC (apV p q (fzV p m U fu Z vv) n))) (cop_sym hp hn0 hn hcom hfr hG))))) rfl ?_;rintro _ w' a ⟨hx, rfl⟩ hF;have hM := hM.ext hx;refine stN hF (d_storeAgg 1 hM rfl ty_sz_29 hF rfl rfl (by first | exact vecC_one | exact cells_one | (refine fnC_one fun _ _ => ?_; first | rfl | (split <;> rfl))) (by simp only [sz0, mrk_size, pairC_size]) (by simp only [sz0, mrk_size, pairC_size] <;> omega) (splice_whole _ _ (by simp only [sz0, mrk_size, pairC_size]))) ?_;intro _ w' a hM hF;change Mem w w' [some (b1, pairC (p : Int) (n : Int) T f (p : Int) (m : Int) U fu Z), some (b2, vecC (apV p G (fzV p m U fu Z vv) n)), some (b3, vecC vv)] [] at hM;refine nt <| wp_ret <| fin1 rfl hF.defers (res_agg ty_ag_29 hF rfl (hM.row 1 rfl) (by simp only [sz0, mrk_size, pairC_size])) ⟨_, rfl, hM.below, ?_⟩
  show _ = _
  rfl
def CardyP (p n m : Nat) (U : Nat → Nat → Nat → Nat) (fu : Nat → Nat) (Z G H : Nat → Nat → Nat) : Prop := ∀ i, i < m → eqV 6 (apV p Z (apV p G (fzV p m U fu Z (fun c => if c = i then 1 else 0)) n) n) (klV p m U H (exV p m U (fun c => if c = i then 1 else 0)) m)

end Go.Proofs.YtjfmachfdpmdcaaDoor
