/- What functions of the program return, as walks over their operations; no statement of the seat is proved here. -/
import Derived.Test.YtjfmachfdpmdcaaDoorP8
import Derived.Test.YtjfmachfdpmdcaaDoorSw46
import Derived.Test.YtjfmachfdpmdcaaDoorSw69
set_option linter.unusedVariables false
set_option linter.unusedSimpArgs false
namespace Go.Proofs.YtjfmachfdpmdcaaDoor
open Go Go.RowKit Go.Sw Go.Ech
open Classical
theorem ty_um_114 : Tryd.prog.underlying 114 = some (.map 33 4) := by kernel_rfl
theorem ty_ze_4 : zeroP Tryd.prog 4 = some (.bool (false)) := by kernel_rfl
theorem keyAlg : WideMaps.KeyLaw Tryd.prog 33 := deep_law (m := 8) (by decide) (by kernel_rfl) (by kernel_rfl) (by kernel_rfl)
theorem keyLeafs : leafs Tryd.prog (Tryd.prog.types.size + 1) 33 (.i64 :: .i64 :: List.replicate 222 .u8) = true := by kernel_rfl
theorem keyType32 : Tryd.prog.keyType 33 = true := by kernel_rfl
theorem keyCells : Tryd.prog.cellsOf 33 = 224 := by kernel_rfl
theorem keyWide : wideB Tryd.prog 33 = true := by kernel_rfl
theorem keyLit {p n : Nat} {T : Nat → Nat → Nat → Nat} {f : Nat → Nat} (hp : p < 1000) (hn : n < 1000) (hT : ∀ i j k, T i j k ≤ 255) (hf : ∀ i, f i ≤ 255) : ∃ l, keyOf Tryd.prog 33 (.agg (algC (p : Int) (n : Int) T f)) = some l :=
  keyOf_leafs keyWide keyType32 keyLeafs (by rw [keyCells, List.length_cons, List.length_cons, List.length_replicate]) (leafy_alg (by omega) (by omega) hT hf)
theorem keyEq {p n : Int} {T : Nat → Nat → Nat → Nat} {f : Nat → Nat} : Value.agg (algC p n T f) = Value.agg (algC p n (trT T) f) ↔ eqT T (trT T) := by
  constructor
  · intro h i hi j hj k hk
    have h1 := congrArg (fun v : Value => match v with | .agg c => c[2 + i * 36 + j * 6 + k]? | _ => none) h
    dsimp only at h1
    rw [algC_T i j k rfl hi hj hk, algC_T i j k rfl hi hj hk] at h1;have h2 := Option.some.inj h1
    injection h2 with _ h3
    exact Int.ofNat.inj h3
  · intro h
    exact congrArg Value.agg (algC_congr fun i hi j hj k hk => h i hi j hj k hk)
theorem gives_ite {P : Program} {q : Prop} [Decidable q] {o : Oper} {a : Act} {w : World} (h : Gives P o a w (if q then .bool true else .bool false)) : Gives P o a w (.bool (decide q)) := by
  by_cases e : q
  · rw [if_pos e] at h; rw [decide_eq_true e]; exact h
  · rw [if_neg e] at h; rw [decide_eq_false e]; exact h
def foldW (mul : (Nat → Nat) → (Nat → Nat) → Nat → Nat) (u : Nat → Nat) (V : Nat → Nat → Nat) : Nat → Nat → Nat
  | 0 => u
  | k + 1 => mul (foldW mul u V k) (V k)
theorem isOwnOpposite_ok (p n : Nat) (T : Nat → Nat → Nat → Nat) (f : Nat → Nat) (w : World) (hp2 : p < 1000) (hn2 : n < 1000) (hT : ∀ i j k, T i j k ≤ 255) (hf : ∀ i, f i ≤ 255) :
    CallsR Tryd.prog 108 #[.agg (algC (p : Int) (n : Int) T f)] w (fun res _ => res = .bool (decide (eqT T (trT T)))) := by
  refine calls_fr [.agg (algC (p : Int) (n : Int) T f)] Tryd.func108 rfl Tryd.ntmps108 rfl fun a hF => ?_;have hM : Mem w w [none] [] := MemX.start w 1;change Fr 11 a [(0, .agg (algC (p : Int) (n : Int) T f))] at hF;refine sr <| stR hF (d_box 0 hM hF rfl) rfl ?_;rintro _ w' a ⟨b1, rfl, hM, -⟩ hF;refine ag hF rfl rfl fun a hF => ns <| stR hF (d_makeMap hM) rfl ?_;rintro _ w' a ⟨bm2, rfl, hM, hgebm2, hisbm2⟩ hF;change Mem w w' [some (b1, algC (p : Int) (n : Int) T f)] [] at hM;refine st hF (g_loadAgg ty_ag_33 hF rfl (hM.row 0 rfl) (by simp only [sz0, mrk_size] <;> omega) (whole cells_size)) rfl fun a hF => ?_;obtain ⟨lkbm2, hlkbm2⟩ := keyLit (p := p) (n := n) (T := T) (f := f) (by omega) (by omega) hT hf;refine stN hF (d_insert keyAlg ty_um_114 hM hisbm2 hgebm2 hF rfl rfl rfl hlkbm2) ?_;rintro _ w' a ⟨hM, hisbm2⟩ hF;change Mem w w' [some (b1, algC (p : Int) (n : Int) T f)] [] at hM;refine mv hF rfl rfl fun a hF => ag hF rfl rfl fun a hF => ns <| mv hF rfl rfl fun a hF => st hF (g_loadAgg ty_ag_33 hF rfl (hM.row 0 rfl) (by simp only [sz0, mrk_size] <;> omega) (whole cells_size)) rfl fun a hF => stR hF (d_call Tryd.call88 hF (.cons rfl .nil) (oppositeTo_ok (p : Int) (n : Int) T f _)) rfl ?_;rintro _ w' a ⟨hx, rfl⟩ hF;have hM := hM.ext hx;have hisbm2 := hisbm2.ext hx;refine st hF (gives_ite (g_lookup1 (p := eqT T (trT T)) (z0 := .bool (false)) keyAlg ty_um_114 ty_ze_4 hisbm2 hF rfl rfl (keyLit (by omega) (by omega) (fun i j k => hT j i k) hf).choose_spec hlkbm2 keyEq)) rfl fun a hF => ag hF rfl rfl fun a hF => nt <| wp_ret <| fin1 rfl hF.defers (res_tmp hF rfl) ⟨_, rfl, hM.below, ?_⟩
  show _ = _
  rfl
theorem form_comm {p : Nat} {f v : Nat → Nat} : sumTo (fun i => f i * v i) 6 % p = sumTo (fun i => v i * f i) 6 % p := by
  rw [show (fun i => f i * v i) = (fun i => v i * f i) from funext fun i => Nat.mul_comm _ _]
theorem sumTo_0 : ∀ m, sumTo (fun _ => 0) m = 0
  | 0 => rfl
  | m + 1 => by rw [sumTo, sumTo_0 m]
theorem hdl_out {p n : Nat} {T : Nat → Nat → Nat → Nat} {G : Nat → Nat → Nat} {k l c : Nat} (hT0 : ∀ i j k, n ≤ k → T i j k = 0) (hc : n ≤ c) : hdl p n T G k l c = 0 := by
  unfold hdl
  simp only [hT0 _ _ c hc, Nat.mul_zero, sumTo_0, Nat.add_zero, Nat.zero_mod]
theorem l02Power_ok (p n : Nat) (T : Nat → Nat → Nat → Nat) (f : Nat → Nat) (G : Nat → Nat → Nat) (x : Nat) (w : World) (hp : primeN p) (hn0 : 0 < n) (hn : n ≤ 6) (hTp : ∀ i j k, T i j k < p) (hT0 : ∀ i j k, n ≤ k → T i j k = 0) (hf : ∀ i, f i ≤ 255) (hfr : FrobN p n T f) (hG : IsCop p n (formM p n T f) G) (uu : Nat → Nat) (huu : UnitI p n T uu) (hk : x ≤ 30) :
    CallsR Tryd.prog 54 #[.agg (algC (p : Int) (n : Int) T f), .int .i64 (x : Int)] w (fun res _ => res = .agg (vecC (powW (timesV p n T) uu (hdl p n T G n 0) x))) := by
  refine calls_fr [.agg (algC (p : Int) (n : Int) T f), .int .i64 (x : Int)] Tryd.func54 rfl Tryd.ntmps54 rfl fun a hF => ?_;have hM : Mem w w [none, none, none, none] [] := MemX.start w 4;change Fr 20 a [(0, .agg (algC (p : Int) (n : Int) T f)), (1, .int .i64 (x : Int))] at hF;have hp2 := hp.two;have hp13 := hp.le;have hT : ∀ i j k, T i j k ≤ 255 := fun i j k => by have := hTp i j k; omega
  have hGp := hG.lt;have hG5 : ∀ i c, G i c ≤ 255 := fun i c => by have := hGp i c; omega
  have hhd : ∀ c, hdl p n T G n 0 c ≤ 255 := fun c => by have := hdl_lt (p := p) (n := n) (T := T) (G := G) (k := n) (l := 0) (c := c) (by omega); omega
  have hvp : ∀ k c, powW (timesV p n T) uu (hdl p n T G n 0) k c ≤ 255 := powW_le (fun c => by have := huu.small c; omega) (fun x c => timesV_le (by omega) (by omega) x _ c);refine sr <| stR hF (d_box 0 hM hF rfl) rfl ?_;rintro _ w' a ⟨b1, rfl, hM, -⟩ hF;refine stR hF (d_alloc 1 hM ty_ze_29) rfl ?_;rintro _ w' a ⟨b2, rfl, hM, -⟩ hF;change Mem w w' [some (b1, algC (p : Int) (n : Int) T f), some (b2, fnC 6 (fun _ => .int .u8 (0))), none, none] [] at hM;refine nt <| sq <| c_par 6 [2, 3] [.val (.agg (algC (p : Int) (n : Int) T f)), .val (.agg (vecC uu)), .val (.agg (algC (p : Int) (n : Int) T f)), .val (.agg (vecC (hdl p n T G n 0))), .own 2 (fnC 6 (fun _ => .int .u8 (0))) (fun b => ptr b 0), .own 3 (fnC 6 (fun _ => .int .u8 (0))) (fun b => ptr b 0)] hmix rfl hF rfl hM ⟨fun a w gG hF hS hd => by have hM := hS.mem rfl; exact par_val hS rfl (g_loadAgg ty_ag_33 hF rfl (hM.row 0 rfl) (by simp only [sz0, mrk_size] <;> omega) (whole cells_size)), fun a w gG hF hS hd => by have hF := hF.ext1 7 (hd 0 rfl rfl); exact par_call (by repeat constructor) hS rfl (d_call Tryd.call51 hF (.cons rfl .nil) (l01Unit_ok p n T f _ hp hn0 hn hTp uu huu)), fun a w gG hF hS hd => by have hM := hS.mem rfl; exact par_val hS rfl (g_loadAgg ty_ag_33 hF rfl (hM.row 0 rfl) (by simp only [sz0, mrk_size] <;> omega) (whole cells_size)), fun a w gG hF hS hd => by have hF := hF.ext1 9 (hd 2 rfl rfl); exact par_call (by repeat constructor) hS rfl (d_call Tryd.call77 hF (.cons rfl .nil) (l02Handle_ok p n T f G _ hp hn0 hn hTp hT0 hf hfr hG)), fun a w gG hF hS hd => by exact par_own (by repeat constructor) hS rfl rfl rfl rfl (d_alloc 2 hS.1 ty_ze_29), fun a w gG hF hS hd => by exact par_own (by repeat constructor) hS rfl rfl rfl rfl (d_alloc 3 hS.1 ty_ze_29), trivial⟩ ?_;intro a w' L hF hS hq;have hF := hF.ext1 7 (hq 0 rfl rfl);have hF := hF.ext1 8 (hq 1 rfl rfl);have hF := hF.ext1 9 (hq 2 rfl rfl);have hF := hF.ext1 10 (hq 3 rfl rfl);obtain ⟨hM, hL⟩ := hS;obtain ⟨b3, hptr, hkk⟩ := hq 4 rfl rfl;have hF := hF.ext1 5 hptr;have hL := hL.take hkk;obtain ⟨b4, hptr, hkk⟩ := hq 5 rfl rfl;have hF := hF.ext1 6 hptr;have hL := hL.take hkk;obtain rfl := hL.eq;change Mem w w' [some (b1, algC (p : Int) (n : Int) T f), some (b2, fnC 6 (fun _ => .int .u8 (0))), some (b3, fnC 6 (fun _ => .int .u8 (0))), some (b4, fnC 6 (fun _ => .int .u8 (0)))] [] at hM;change wpList Tryd.prog _ _ [_, _] _ _;refine stN hF (d_storeAgg 2 hM rfl ty_sz_29 hF rfl rfl (by first | exact vecC_one | exact cells_one | (refine fnC_one fun _ _ => ?_; first | rfl | (split <;> rfl))) (by simp only [sz0, mrk_size]) (by simp only [sz0, mrk_size] <;> omega) (splice_whole _ _ (by simp only [sz0, mrk_size]))) ?_;intro _ w' a hM hF;change Mem w w' [some (b1, algC (p : Int) (n : Int) T f), some (b2, fnC 6 (fun _ => .int .u8 (0))), some (b3, vecC uu), some (b4, fnC 6 (fun _ => .int .u8 (0)))] [] at hM;refine stN hF (d_storeAgg 3 hM rfl ty_sz_29 hF rfl rfl (by first | exact vecC_one | exact cells_one | (refine fnC_one fun _ _ => ?_; first | rfl | (split <;> rfl))) (by simp only [sz0, mrk_size]) (by simp only [sz0, mrk_size] <;> omega) (splice_whole _ _ (by simp only [sz0, mrk_size]))) ?_;intro _ w' a hM hF;refine nt <| sq <| wp_block ?_;change Mem w _ [some (b1, algC (p : Int) (n : Int) T f), some (b2, fnC 6 (fun _ => .int .u8 (0))), some (b3, vecC uu), some (b4, vecC (hdl p n T G n 0))] [] at hM;refine c_loop (fun (kk : Nat) a w' => kk ≤ x ∧ (True) ∧ Fr 20 a [(6, ptr b4 (0)), (5, ptr b3 (0)), (2, ptr b1 (0)), (4, ptr b2 (0)), (1, .int .i64 (((x - kk : Nat) : Int)))] ∧ Mem w w' [some (b1, algC (p : Int) (n : Int) T f), some (b2, fnC 6 (fun _ => .int .u8 (0))), some (b3, vecC (powW (timesV p n T) uu (hdl p n T G n 0) kk)), some (b4, vecC (hdl p n T G n 0))] []) (fun kk => x - kk) 0 ?_ ?_
  · refine ⟨by omega, trivial, hF.sub _ (by repeat' constructor), ?_⟩
    exact hM
  clear hF hM;rintro gi a w' ⟨hgi, hinv1, hF, hM⟩;have hvt := hvp gi;have hvs : ∀ c, hdl p n T G n 0 c ≤ 255 := hhd;refine sq <| sr <| mv hF rfl rfl fun a hF => st hF (g_gtr hF rfl rfl) rfl fun a hF => nt <| c_cond hF rfl (fun h5 => ?_) (fun h5 => ?_)
  · refine wp_skip ?_
    refine tN <| sq <| wp_block <| wp_region_lit <| st hF (g_loadAgg ty_ag_33 hF rfl (hM.row 0 rfl) (by simp only [sz0, mrk_size] <;> omega) (whole cells_size)) rfl fun a hF => st hF (g_loadAgg ty_ag_29 hF rfl (hM.row 2 rfl) (by simp only [sz0, mrk_size] <;> omega) (whole (by simp only [sz0, mrk_size]))) rfl fun a hF => st hF (g_loadAgg ty_ag_29 hF rfl (hM.row 3 rfl) (by simp only [sz0, mrk_size] <;> omega) (whole (by simp only [sz0, mrk_size]))) rfl fun a hF => stR hF (d_call Tryd.call46 hF (.cons rfl (.cons rfl (.cons rfl .nil))) ((CallsR.val (l01Times_ok p n T f ((powW (timesV p n T) uu (hdl p n T G n 0) gi)) ((hdl p n T G n 0)) _ (by omega) (by omega) (by omega) (fun _ _ _ => hT _ _ _) (fun _ => by first | exact hv _ | exact hvt _ | exact hvs _ | exact hu _ | exact hT _ _ _ | exact hf _ | omega | (split <;> omega) | (dsimp only; split <;> omega) | assumption) (fun _ => by first | exact hv _ | exact hvt _ | exact hvs _ | exact hu _ | exact hT _ _ _ | exact hf _ | omega | (split <;> omega) | (dsimp only; split <;> omega) | assumption)) (congrArg (fun v => Value.agg (vecC v)) (times_eq hT0 ((powW (timesV p n T) uu (hdl p n T G n 0) gi)) ((hdl p n T G n 0))).symm)))) rfl ?_;rintro _ w' a ⟨hx, rfl⟩ hF;have hM := hM.ext hx;refine stN hF (d_storeAgg 2 hM rfl ty_sz_29 hF rfl rfl (by first | exact vecC_one | exact cells_one | (refine fnC_one fun _ _ => ?_; first | rfl | (split <;> rfl))) (by simp only [sz0, mrk_size]) (by simp only [sz0, mrk_size] <;> omega) (splice_whole _ _ (by simp only [sz0, mrk_size]))) ?_;intro _ w' a hM hF;change Mem w w' [some (b1, algC (p : Int) (n : Int) T f), some (b2, fnC 6 (fun _ => .int .u8 (0))), some (b3, vecC (timesV p n T ((powW (timesV p n T) uu (hdl p n T G n 0) gi)) ((hdl p n T G n 0)))), some (b4, vecC (hdl p n T G n 0))] [] at hM;refine wpList_nil <| iN <| tN <| wp_region_lit <| mv hF rfl rfl fun a hF => st hF (g_sub hF rfl rfl (show _ = ((x - (gi + 1) : Nat) : Int) from (by rw [wrap_i64] <;> omega))) rfl fun a hF => ag hF rfl rfl fun a hF => nt <| ⟨gi + 1, ⟨by omega, trivial, hF.sub _ (by repeat' constructor), ?_⟩, by omega⟩;exact hM
  obtain rfl : x = gi := by omega
  refine wp_exit <| tX <| tX <| ib_same <| tN <| sr <| st hF (g_loadAgg ty_ag_29 hF rfl (hM.row 2 rfl) (by simp only [sz0, mrk_size] <;> omega) (whole (by simp only [sz0, mrk_size]))) rfl fun a hF => stN hF (d_storeAgg 1 hM rfl ty_sz_29 hF rfl rfl (by first | exact vecC_one | exact cells_one | (refine fnC_one fun _ _ => ?_; first | rfl | (split <;> rfl))) (by simp only [sz0, mrk_size]) (by simp only [sz0, mrk_size] <;> omega) (splice_whole _ _ (by simp only [sz0, mrk_size]))) ?_;intro _ w' a hM hF;change Mem w w' [some (b1, algC (p : Int) (n : Int) T f), some (b2, vecC (powW (timesV p n T) uu (hdl p n T G n 0) x)), some (b3, vecC (powW (timesV p n T) uu (hdl p n T G n 0) x)), some (b4, vecC (hdl p n T G n 0))] [] at hM;refine nt <| wp_ret <| fin1 rfl hF.defers (res_agg ty_ag_29 hF rfl (hM.row 1 rfl) (by simp only [sz0, mrk_size])) ⟨_, rfl, hM.below, ?_⟩
  show _ = _
  rfl
end Go.Proofs.YtjfmachfdpmdcaaDoor

namespace Go.Proofs.YtjfmachfdpmdcaaDoor
open Go Go.RowKit Go.Sw Go.Ech
open Classical

end Go.Proofs.YtjfmachfdpmdcaaDoor

namespace Go.Proofs.YtjfmachfdpmdcaaDoor
open Go Go.RowKit Go.Sw Go.Ech
open Classical



def ListP (p n : Int) (m : Nat) (Z : Nat → Nat → Nat) : Prop := (m : Int) = n ∧ ∀ i, i < m → okV p n (Z i)













end Go.Proofs.YtjfmachfdpmdcaaDoor

namespace Go.Proofs.YtjfmachfdpmdcaaDoor
open Go Go.RowKit Go.Sw Go.Ech
open Classical
def starS (p n : Nat) (T : Nat → Nat → Nat → Nat) (f : Nat → Nat) (Z : Nat → Nat → Nat) (i : Nat) : Prop := eqV 6 (apV p Z (Z i) n) (fun c => if c = i then 1 else 0) ∧ sumTo (fun c => (Z i) c * f c) 6 % p = f i ∧ ∀ j, j < n → eqV 6 (apV p Z (T i j) n) (timesV p n T (Z j) (Z i))
def StarP (p n : Nat) (T : Nat → Nat → Nat → Nat) (f : Nat → Nat) (Z : Nat → Nat → Nat) : Prop := ∀ i, i < n → starS p n T f Z i



end Go.Proofs.YtjfmachfdpmdcaaDoor

namespace Go.Proofs.YtjfmachfdpmdcaaDoor
open Go Go.RowKit Go.Sw Go.Ech
open Classical
def XT (p n : Nat) (T : Nat → Nat → Nat → Nat) (Z : Nat → Nat → Nat) (a b c : Nat) : Nat := timesV p n T (Z a) (fun c => if c = b then 1 else 0) c
def CrossP (p n : Nat) (T : Nat → Nat → Nat → Nat) (Z : Nat → Nat → Nat) (t kl : Nat → Nat) : Prop := eqV 6 (timesV p n T t t) kl ∧ ∀ i, i < n → eqV 6 (apV p Z (timesV p n T t (fun c => if c = i then 1 else 0)) n) (timesV p n T t (fun c => if c = i then 1 else 0))


















end Go.Proofs.YtjfmachfdpmdcaaDoor
