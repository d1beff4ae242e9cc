/- What functions of the program return, as walks over their operations; no statement of the seat is proved here. -/
import Derived.Test.YtockjnhdllcfpaaB1
import Derived.Test.YtockjnhdllcfpaaSw86
import Derived.Test.YtockjnhdllcfpaaSw10
set_option linter.unusedVariables false
set_option linter.unusedSimpArgs false
namespace Go.Proofs.Ytockjnhdllcfpaa
open Go Go.RowKit Go.Sw Go.Ech
open Classical
theorem ty_ag_52 : aggP Try.prog 52 = some 2 := by kernel_rfl
theorem ty_bs1_22 : ∀ (x : Int) (w : World), (Instr.buildSlice 22 1 #[(0, .int .i64 x)]).run Try.prog w = .ok (.slice (some ⟨w.heap.size, 0, none⟩) 1 1) (w.alloc (.cells #[.int .i64 x] 2)) := by intros; kernel_rfl
def PolP (p : Int) (m : Nat) (F : Nat → Int) : Prop := primeP p ∧ (1 ≤ m ∧ m ≤ 6) ∧ ∀ i, i < m → 0 ≤ F i ∧ F i ≤ p - 1
instance instPolP (p : Int) (m : Nat) (F : Nat → Int) : Decidable (PolP p m F) := by unfold PolP; infer_instance
theorem polP_num {p : Int} {m : Nat} {F : Nat → Int} : PolP p m F ↔ primeP p ∧ (1 ≤ m ∧ m ≤ 6) ∧ NumP (m : Int) 0 (p - 1) m F := by
  unfold PolP NumP
  constructor
  · rintro ⟨h1, h2, h3⟩; exact ⟨h1, h2, rfl, h3⟩
  · rintro ⟨h1, h2, _, h3⟩; exact ⟨h1, h2, h3⟩
def rtN (c : Nat → Nat) (m p : Nat) : Nat := cnt (rtB c m p) p
def rtA (c : Nat → Nat) (m p : Nat) : Nat → Nat := asc (rtB c m p) p
def rtV (c : Nat → Nat) (m p : Nat) (k : Nat) : Value := .int .i64 (rtA c m p k : Int)
theorem primeP_nat {p : Nat} (h : primeP (p : Int)) : primeN p := by unfold primeP at h; unfold primeN; omega
theorem rt_put {c : Nat → Nat} {m p r : Nat} (hr : r < p) (h : rtB c m p r = true) : .int .i64 (r : Int) = rtV c m p (cnt (rtB c m p) r) := by
  unfold rtV rtA; rw [asc_at h hr]
def trm (p s : Nat) : Nat → Nat
  | 0 => invN s p
  | k + 1 => trm p s k * s % p
theorem numI_argB {w : World} {b m : Nat} {F : Nat → Int} (h : Blk w b (numI m F)) : ArgSl w (.slice (some ⟨b, 0, none⟩) m m) m F :=
  ⟨⟨_, _, rfl⟩, fun _ => ⟨b, 0, m, rfl, fun i hi => Blk.cellAt h (numI_get (by omega) hi)⟩⟩

theorem hasResidues_ok (p : Int) (b m : Nat) (F : Nat → Int) (w : World) (hm : m < 10000000) (hb : Blk w b (numI m F)) :
    CallsR Try.prog 34 #[.int .i64 (p), .slice (some ⟨b, 0, none⟩) m m, .int .i64 (6)] w (fun res _ => res = .bool (decide (PolP p m F))) := by
  refine calls_fr [.int .i64 (p), .slice (some ⟨b, 0, none⟩) m m, .int .i64 (6)] Try.func34 rfl Try.ntmps34 rfl fun a hF => ?_;have hM : Mem w w [] [(b, numI m F)] := MemX.startD w 0 _ (startD1 hb);change Fr 27 a [(0, .int .i64 (p)), (1, .slice (some ⟨b, 0, none⟩) m m), (2, .int .i64 (6))] at hF;have hpw : primeP p → 2 ≤ p ∧ p ≤ 13 := fun h => primeP_pos2 h;refine sr <| ag hF rfl rfl fun a hF => nt <| sq <| sr <| mv hF rfl rfl fun a hF => stR hF (d_call Try.call51 hF (.cons rfl .nil) (isPrime_ok (p) _)) rfl ?_;rintro _ w' a ⟨hx, rfl⟩ hF;have hM := hM.ext hx;refine st hF (g_notP hF rfl) rfl fun a hF => mv hF rfl rfl fun a hF => ?_
  by_cases g1 : ¬ (primeP (p))
  · first | rw [decide_eq_true g1] at hF | simp only [decide_eq_true g1] at hF
    refine stS hF rfl rfl rfl rfl rfl fun a hF => stS hF rfl rfl rfl rfl rfl fun a hF => stS hF rfl rfl rfl rfl rfl fun a hF => st hF (g_pickT hF rfl rfl) rfl fun a hF => mv hF rfl rfl fun a hF => stS hF rfl rfl rfl rfl rfl fun a hF => stS hF rfl rfl rfl rfl rfl fun a hF => stS hF rfl rfl rfl rfl rfl fun a hF => stS hF rfl rfl rfl rfl rfl fun a hF => st hF (g_pickT hF rfl rfl) rfl fun a hF => nt <| c_T hF rfl <| sr <| ag hF rfl rfl fun a hF => nt <| wp_ret <| tR <| fin1 rfl hF.defers (res_tmp hF rfl) ⟨_, rfl, hM.below, ?_⟩
    show _ = _
    first | exact bool_f (fun hq => by have z1 := hq.1; have z2 := hq.2.1; first | contradiction | (exfalso; omega)) | exact congrArg Value.bool (decide_eq_decide.2 ⟨fun q => polP_num.2 ⟨Decidable.not_not.1 (by assumption), by omega, q⟩, fun q => (polP_num.1 q).2.2⟩) | (exact congrArg Value.bool (decide_eq_decide.2 ⟨fun q => polP_num.2 ⟨by assumption, by omega, q⟩, fun q => (polP_num.1 q).2.2⟩))
  first | rw [decide_eq_false g1] at hF | simp only [decide_eq_false g1] at hF
  refine stY hF rfl rfl rfl (g_move hF rfl) rfl fun a hF => stY hF rfl rfl rfl (g_len ty_us_22 hF rfl) rfl fun a hF => stY hF rfl rfl rfl (g_lss hF rfl rfl) rfl fun a hF => st hF (g_pickF hF rfl rfl) rfl fun a hF => mv hF rfl rfl fun a hF => ?_
  by_cases g3 : ((m : Int) : Int) < 1
  · first | rw [decide_eq_true g3] at hF | simp only [decide_eq_true g3] at hF
    refine stS hF rfl rfl rfl rfl rfl fun a hF => stS hF rfl rfl rfl rfl rfl fun a hF => stS hF rfl rfl rfl rfl rfl fun a hF => stS hF rfl rfl rfl rfl rfl fun a hF => st hF (g_pickT hF rfl rfl) rfl fun a hF => nt <| c_T hF rfl <| sr <| ag hF rfl rfl fun a hF => nt <| wp_ret <| tR <| fin1 rfl hF.defers (res_tmp hF rfl) ⟨_, rfl, hM.below, ?_⟩
    show _ = _
    first | exact bool_f (fun hq => by have z1 := hq.1; have z2 := hq.2.1; first | contradiction | (exfalso; omega)) | exact congrArg Value.bool (decide_eq_decide.2 ⟨fun q => polP_num.2 ⟨Decidable.not_not.1 (by assumption), by omega, q⟩, fun q => (polP_num.1 q).2.2⟩) | (exact congrArg Value.bool (decide_eq_decide.2 ⟨fun q => polP_num.2 ⟨by assumption, by omega, q⟩, fun q => (polP_num.1 q).2.2⟩))
  first | rw [decide_eq_false g3] at hF | simp only [decide_eq_false g3] at hF
  refine stY hF rfl rfl rfl (g_move hF rfl) rfl fun a hF => stY hF rfl rfl rfl (g_len ty_us_22 hF rfl) rfl fun a hF => stY hF rfl rfl rfl (g_move hF rfl) rfl fun a hF => stY hF rfl rfl rfl (g_gtr hF rfl rfl) rfl fun a hF => st hF (g_pickF hF rfl rfl) rfl fun a hF => nt <| c_cond hF rfl (fun h5 => ?_) (fun h5 => ?_)
  · refine sq ?_
    refine wp_region_lit <| ag hF rfl rfl fun a hF => nt <| wp_ret <| tR <| fin1 rfl hF.defers (res_tmp hF rfl) ⟨_, rfl, hM.below, ?_⟩
    show _ = _
    first | exact bool_f (fun hq => by have z1 := hq.1; have z2 := hq.2.1; first | contradiction | (exfalso; omega)) | exact congrArg Value.bool (decide_eq_decide.2 ⟨fun q => polP_num.2 ⟨Decidable.not_not.1 (by assumption), by omega, q⟩, fun q => (polP_num.1 q).2.2⟩) | (exact congrArg Value.bool (decide_eq_decide.2 ⟨fun q => polP_num.2 ⟨by assumption, by omega, q⟩, fun q => (polP_num.1 q).2.2⟩))
  refine wp_skip <| tN <| sr <| mv hF rfl rfl fun a hF => mv hF rfl rfl fun a hF => st hF (g_len ty_us_22 hF rfl) rfl fun a hF => mv hF rfl rfl fun a hF => st hF (g_sub hF rfl rfl (wrap_i64 (by have z := (by first | exact hpw hP.1 | exact hpw (Decidable.not_not.1 (by assumption)) : 2 ≤ p ∧ p ≤ 13); omega) (by have z := (by first | exact hpw hP.1 | exact hpw (Decidable.not_not.1 (by assumption)) : 2 ≤ p ∧ p ≤ 13); omega))) rfl fun a hF => stR hF (d_call Try.call56 hF (.cons rfl (.cons rfl (.cons rfl (.cons rfl .nil)))) (hasNumbers_ok _ m F (m : Int) (0) (p - 1) _ (numI_argB (hM.fzm (b := b) (cs := numI m F) (by simp))) hm)) rfl ?_;rintro _ w' a ⟨hx, rfl⟩ hF;have hM := hM.ext hx;refine ag hF rfl rfl fun a hF => nt <| wp_ret <| fin1 rfl hF.defers (res_tmp hF rfl) ⟨_, rfl, hM.below, ?_⟩
  show _ = _
  first | exact bool_f (fun hq => by have z1 := hq.1; have z2 := hq.2.1; first | contradiction | (exfalso; omega)) | exact congrArg Value.bool (decide_eq_decide.2 ⟨fun q => polP_num.2 ⟨Decidable.not_not.1 (by assumption), by omega, q⟩, fun q => (polP_num.1 q).2.2⟩) | (exact congrArg Value.bool (decide_eq_decide.2 ⟨fun q => polP_num.2 ⟨by assumption, by omega, q⟩, fun q => (polP_num.1 q).2.2⟩))
theorem l09Poly_R (p : Int) (b m : Nat) (F : Nat → Int) (w : World) (hm : m < 10000000) (hb : Blk w b (numI m F)) (hpi : -1000 < p → True) (hP : ¬ PolP p m F) :
    CallsR Try.prog 32 #[.int .i64 (p), .slice (some ⟨b, 0, none⟩) m m] w (fun res _ => res = .int .i64 2) := by
  refine calls_fr [.int .i64 (p), .slice (some ⟨b, 0, none⟩) m m] Try.func32 rfl Try.ntmps32 rfl fun a hF => ?_;have hM : Mem w w [] [(b, numI m F)] := MemX.startD w 0 _ (startD1 hb);change Fr 29 a [(0, .int .i64 (p)), (1, .slice (some ⟨b, 0, none⟩) m m)] at hF;have hpw : primeP p → 2 ≤ p ∧ p ≤ 13 := fun h => primeP_pos2 h;refine sr <| ag hF rfl rfl fun a hF => nt <| sq <| sr <| mv hF rfl rfl fun a hF => stR hF (d_call Try.call48 hF (.cons rfl .nil) (l01Prime_ok (p) _)) rfl ?_;rintro _ w' a ⟨hx, rfl⟩ hF;have hM := hM.ext hx;refine st hF (g_notP hF rfl) rfl fun a hF => mv hF rfl rfl fun a hF => ?_
  by_cases g1 : ¬ (primeP (p))
  · first | rw [decide_eq_true g1] at hF | simp only [decide_eq_true g1] at hF
    refine stS hF rfl rfl rfl rfl rfl fun a hF => stS hF rfl rfl rfl rfl rfl fun a hF => stS hF rfl rfl rfl rfl rfl fun a hF => stS hF rfl rfl rfl rfl rfl fun a hF => st hF (g_pickT hF rfl rfl) rfl fun a hF => nt <| c_T hF rfl <| sr <| ag hF rfl rfl fun a hF => nt <| wp_ret <| tR <| fin1 rfl hF.defers (res_tmp hF rfl) ⟨_, rfl, hM.below, ?_⟩
    show _ = _
    rfl
  first | rw [decide_eq_false g1] at hF | simp only [decide_eq_false g1] at hF
  refine stY hF rfl rfl rfl (g_move hF rfl) rfl fun a hF => stY hF rfl rfl rfl (g_len ty_us_22 hF rfl) rfl fun a hF => stYR hF rfl rfl rfl (d_call Try.call40 hF (.cons rfl (.cons rfl (.cons rfl .nil))) (l01In_ok (m : Int) (1) (6) _)) rfl ?_;rintro _ w' a ⟨hx, rfl⟩ hF;have hM := hM.ext hx;refine stY hF rfl rfl rfl (g_notP hF rfl) rfl fun a hF => st hF (g_pickF hF rfl rfl) rfl fun a hF => nt <| c_cond hF rfl (fun h3 => ?_) (fun h3 => ?_)
  · refine sq ?_
    refine wp_region_lit <| ag hF rfl rfl fun a hF => nt <| wp_ret <| tR <| fin1 rfl hF.defers (res_tmp hF rfl) ⟨_, rfl, hM.below, ?_⟩
    show _ = _
    rfl
  refine wp_skip <| tN <| sq <| sr <| ag hF rfl rfl fun a hF => nt <| wp_block ?_;change Mem w _ [] [(b, numI m F)] at hM;refine c_loop (fun (kk : Nat) a w' => kk ≤ m ∧ (∀ i, i < kk → 0 ≤ F i ∧ F i ≤ p - 1) ∧ Fr 29 a [(0, .int .i64 (p)), (1, .slice (some ⟨b, 0, none⟩) m m), (14, .bool (decide (¬ ((1 : Int) ≤ (m : Int) ∧ (m : Int) ≤ 6)))), (5, .int .i64 (kk : Int))] ∧ Mem w w' [] [(b, numI m F)]) (fun kk => m - kk) 0 ?_ ?_
  · refine ⟨by omega, fun i hi => absurd hi (by omega), hF.sub _ (by repeat' constructor), ?_⟩
    exact hM
  clear hF hM;rintro gk a w' ⟨hgk, hinv1, hF, hM⟩;refine sq <| sr <| mv hF rfl rfl fun a hF => mv hF rfl rfl fun a hF => st hF (g_len ty_us_22 hF rfl) rfl fun a hF => st hF (g_lss hF rfl rfl) rfl fun a hF => nt <| c_cond hF rfl (fun h4 => ?_) (fun h4 => ?_)
  · refine wp_skip ?_
    refine tN <| sq <| wp_block <| sr <| mv hF rfl rfl fun a hF => mv hF rfl rfl fun a hF => st hF (g_indexSl (i := gk) ty_sl_22 hF rfl rfl rfl (by omega)) rfl fun a hF => st hF (g_load ty_on_2 hF rfl (hM.fzm (b := b) (cs := numI m F) (by simp)) (numI_get (k := gk) (by omega) (by omega))) rfl fun a hF => mv hF rfl rfl fun a hF => st hF (g_sub hF rfl rfl (wrap_i64 (by have z := (by first | exact hpw hP.1 | exact hpw (Decidable.not_not.1 (by assumption)) : 2 ≤ p ∧ p ≤ 13); omega) (by have z := (by first | exact hpw hP.1 | exact hpw (Decidable.not_not.1 (by assumption)) : 2 ≤ p ∧ p ≤ 13); omega))) rfl fun a hF => stR hF (d_call Try.call40 hF (.cons rfl (.cons rfl (.cons rfl .nil))) (l01In_ok (F (gk)) (0) (p - 1) _)) rfl ?_;rintro _ w' a ⟨hx, rfl⟩ hF;have hM := hM.ext hx;refine st hF (g_notP hF rfl) rfl fun a hF => nt <| c_cond hF rfl (fun h5 => ?_) (fun h5 => ?_)
    · refine sq ?_
      refine wp_region_lit <| ag hF rfl rfl fun a hF => nt <| wp_ret <| iR <| tR <| tR <| iR <| tR <| fin1 rfl hF.defers (res_tmp hF rfl) ⟨_, rfl, hM.below, ?_⟩
      show _ = _
      rfl
    refine wp_skip <| iN <| tN <| wp_region_lit <| mv hF rfl rfl fun a hF => st hF (g_add hF rfl rfl (add_nat (gk) (1) (by omega))) rfl fun a hF => ag hF rfl rfl fun a hF => nt <| ⟨gk + 1, ⟨by omega, allS hinv1 (Decidable.not_not.1 (by assumption)), hF.sub _ (by repeat' constructor), ?_⟩, by omega⟩;exact hM
  obtain rfl : m = gk := by omega
  refine wp_exit <| tX <| tX <| ib_same <| tN <| sr <| ag hF rfl rfl fun a hF => nt <| wp_ret <| fin1 rfl hF.defers (res_tmp hF rfl) ⟨_, rfl, hM.below, ?_⟩
  show _ = _
  exact absurd ⟨Decidable.not_not.1 (by assumption), by omega, hinv1⟩ hP
theorem l09Poly_V (p : Int) (b m : Nat) (F : Nat → Int) (w : World) (hm : m < 10000000) (hb : Blk w b (numI m F)) (hpi : -1000 < p → True) (hP : PolP p m F) :
    CallsR Try.prog 32 #[.int .i64 (p), .slice (some ⟨b, 0, none⟩) m m] w (fun res _ => res = .int .i64 0) := by
  refine calls_fr [.int .i64 (p), .slice (some ⟨b, 0, none⟩) m m] Try.func32 rfl Try.ntmps32 rfl fun a hF => ?_;have hM : Mem w w [] [(b, numI m F)] := MemX.startD w 0 _ (startD1 hb);change Fr 29 a [(0, .int .i64 (p)), (1, .slice (some ⟨b, 0, none⟩) m m)] at hF;have hpw : primeP p → 2 ≤ p ∧ p ≤ 13 := fun h => primeP_pos2 h;refine sr <| ag hF rfl rfl fun a hF => nt <| sq <| sr <| mv hF rfl rfl fun a hF => stR hF (d_call Try.call48 hF (.cons rfl .nil) (l01Prime_ok (p) _)) rfl ?_;rintro _ w' a ⟨hx, rfl⟩ hF;have hM := hM.ext hx;refine st hF (g_notP hF rfl) rfl fun a hF => mv hF rfl rfl fun a hF => ?_
  by_cases g1 : ¬ (primeP (p))
  · first | rw [decide_eq_true g1] at hF | simp only [decide_eq_true g1] at hF
    first | exact absurd hP.1 g1 | (have z := hP.2.1; exfalso; omega)
  first | rw [decide_eq_false g1] at hF | simp only [decide_eq_false g1] at hF
  refine stY hF rfl rfl rfl (g_move hF rfl) rfl fun a hF => stY hF rfl rfl rfl (g_len ty_us_22 hF rfl) rfl fun a hF => stYR hF rfl rfl rfl (d_call Try.call40 hF (.cons rfl (.cons rfl (.cons rfl .nil))) (l01In_ok (m : Int) (1) (6) _)) rfl ?_;rintro _ w' a ⟨hx, rfl⟩ hF;have hM := hM.ext hx;refine stY hF rfl rfl rfl (g_notP hF rfl) rfl fun a hF => st hF (g_pickF hF rfl rfl) rfl fun a hF => nt <| c_cond hF rfl (fun h2 => ?_) (fun h2 => ?_)
  · first | exact absurd hP.1 h2 | exact absurd (hP.2.2 gk (by omega)) h2 | (have z := hP.2.1; exfalso; omega) | exact absurd hP.1 (by assumption)
  refine wp_skip <| tN <| sq <| sr <| ag hF rfl rfl fun a hF => nt <| wp_block ?_;change Mem w _ [] [(b, numI m F)] at hM;refine c_loop (fun (kk : Nat) a w' => kk ≤ m ∧ (∀ i, i < kk → 0 ≤ F i ∧ F i ≤ p - 1) ∧ Fr 29 a [(0, .int .i64 (p)), (1, .slice (some ⟨b, 0, none⟩) m m), (14, .bool (decide (¬ ((1 : Int) ≤ (m : Int) ∧ (m : Int) ≤ 6)))), (5, .int .i64 (kk : Int))] ∧ Mem w w' [] [(b, numI m F)]) (fun kk => m - kk) 0 ?_ ?_
  · refine ⟨by omega, fun i hi => absurd hi (by omega), hF.sub _ (by repeat' constructor), ?_⟩
    exact hM
  clear hF hM;rintro gk a w' ⟨hgk, hinv1, hF, hM⟩;refine sq <| sr <| mv hF rfl rfl fun a hF => mv hF rfl rfl fun a hF => st hF (g_len ty_us_22 hF rfl) rfl fun a hF => st hF (g_lss hF rfl rfl) rfl fun a hF => nt <| c_cond hF rfl (fun h3 => ?_) (fun h3 => ?_)
  · refine wp_skip ?_
    refine tN <| sq <| wp_block <| sr <| mv hF rfl rfl fun a hF => mv hF rfl rfl fun a hF => st hF (g_indexSl (i := gk) ty_sl_22 hF rfl rfl rfl (by omega)) rfl fun a hF => st hF (g_load ty_on_2 hF rfl (hM.fzm (b := b) (cs := numI m F) (by simp)) (numI_get (k := gk) (by omega) (by omega))) rfl fun a hF => mv hF rfl rfl fun a hF => st hF (g_sub hF rfl rfl (wrap_i64 (by have z := (by first | exact hpw hP.1 | exact hpw (Decidable.not_not.1 (by assumption)) : 2 ≤ p ∧ p ≤ 13); omega) (by have z := (by first | exact hpw hP.1 | exact hpw (Decidable.not_not.1 (by assumption)) : 2 ≤ p ∧ p ≤ 13); omega))) rfl fun a hF => stR hF (d_call Try.call40 hF (.cons rfl (.cons rfl (.cons rfl .nil))) (l01In_ok (F (gk)) (0) (p - 1) _)) rfl ?_;rintro _ w' a ⟨hx, rfl⟩ hF;have hM := hM.ext hx;refine st hF (g_notP hF rfl) rfl fun a hF => nt <| c_cond hF rfl (fun h4 => ?_) (fun h4 => ?_)
    · first | exact absurd hP.1 h4 | exact absurd (hP.2.2 gk (by omega)) h4 | (have z := hP.2.1; exfalso; omega) | exact absurd hP.1 (by assumption)
    refine wp_skip <| iN <| tN <| wp_region_lit <| mv hF rfl rfl fun a hF => st hF (g_add hF rfl rfl (add_nat (gk) (1) (by omega))) rfl fun a hF => ag hF rfl rfl fun a hF => nt <| ⟨gk + 1, ⟨by omega, allS hinv1 (Decidable.not_not.1 (by assumption)), hF.sub _ (by repeat' constructor), ?_⟩, by omega⟩;exact hM
  obtain rfl : m = gk := by omega
  refine wp_exit <| tX <| tX <| ib_same <| tN <| sr <| ag hF rfl rfl fun a hF => nt <| wp_ret <| fin1 rfl hF.defers (res_tmp hF rfl) ⟨_, rfl, hM.below, ?_⟩
  show _ = _
  rfl
theorem l09At_ok (p b m r : Nat) (c : Nat → Nat) (w : World) (hp1 : 1 < p) (hp2 : p ≤ 13) (hr2 : r ≤ 255) (hc : ∀ i, c i ≤ 255) (hm0 : 0 < m) (hm : m ≤ 6) (hb : Blk w b (numC m c)) :
    CallsR Try.prog 59 #[.int .i64 (p : Int), .slice (some ⟨b, 0, none⟩) m m, .int .i64 (r : Int)] w (fun res _ => res = .int .i64 ((valN c m r m % p : Nat) : Int)) := by
  refine calls_fr [.int .i64 (p : Int), .slice (some ⟨b, 0, none⟩) m m, .int .i64 (r : Int)] Try.func59 rfl Try.ntmps59 rfl fun a hF => ?_;have hM : Mem w w [] [(b, numC m c)] := MemX.startD w 0 _ (startD1 hb);change Fr 27 a [(0, .int .i64 (p : Int)), (1, .slice (some ⟨b, 0, none⟩) m m), (2, .int .i64 (r : Int))] at hF;have hp0 : 0 < p := by omega
  refine sr <| ag hF rfl rfl fun a hF => ns <| ag hF rfl rfl fun a hF => nt <| sq <| sr <| mv hF rfl rfl fun a hF => st hF (g_len ty_us_22 hF rfl) rfl fun a hF => st hF (g_sub hF rfl rfl (wrap_i64 (by omega) (by omega))) rfl fun a hF => ag hF rfl rfl fun a hF => nt <| wp_block ?_;change Mem w _ [] [(b, numC m c)] at hM;refine c_loop (fun (kk : Nat) a w' => kk ≤ m ∧ ∃ (vv : Nat), ∃ (ll : Int), (vv = valN c m r kk % p ∧ ll = (m : Int) - 1 - (kk : Int)) ∧ Fr 27 a [(0, .int .i64 (p : Int)), (1, .slice (some ⟨b, 0, none⟩) m m), (2, .int .i64 (r : Int)), (6, .int .i64 (0)), (7, .int .i64 (vv : Int)), (8, .int .i64 (ll))] ∧ Mem w w' [] [(b, numC m c)]) (fun kk => m - kk) 0 ?_ ?_
  · refine ⟨by omega, 1, ((m : Int) - 1), ⟨(Nat.mod_eq_of_lt hp1).symm, by omega⟩, hF.sub _ (by repeat' constructor), ?_⟩
    exact hM
  clear hF hM;rintro gk a w' ⟨hgk, vv, ll, ⟨hvv, hll⟩, hF, hM⟩;have hm1 : vv * r ≤ 13 * 255 := by rw [hvv]; exact mul_bd p hp0 hp2 hr2
  have hck := hc (m - 1 - gk);refine sq <| sr <| mv hF rfl rfl fun a hF => st hF (g_geq hF rfl rfl) rfl fun a hF => nt <| c_cond hF rfl (fun h1 => ?_) (fun h1 => ?_)
  · refine wp_skip ?_
    refine tN <| sq <| wp_block ?_;obtain rfl : ll = ((m - 1 - gk : Nat) : Int) := by omega
    refine wp_region_lit <| mv hF rfl rfl fun a hF => mv hF rfl rfl fun a hF => st hF (g_mul hF rfl rfl (mul_nat (vv) (r) (by omega))) rfl fun a hF => mv hF rfl rfl fun a hF => mv hF rfl rfl fun a hF => st hF (g_indexSl (i := m - 1 - gk) ty_sl_22 hF rfl rfl rfl (by omega)) rfl fun a hF => st hF (g_load ty_on_2 hF rfl (hM.fzm (b := b) (cs := numC m c) (by simp)) (numC_get (k := m - 1 - gk) (by omega) (by omega))) rfl fun a hF => st hF (g_add hF rfl rfl (add_nat ((vv) * (r)) (c (m - 1 - gk)) (by omega))) rfl fun a hF => mv hF rfl rfl fun a hF => st hF (g_rem hF rfl rfl (by omega) (rem_nat ((vv) * (r) + c (m - 1 - gk)) (p))) rfl fun a hF => ag hF rfl rfl fun a hF => wpList_nil <| iN <| tN <| wp_region_lit <| mv hF rfl rfl fun a hF => st hF (g_sub hF rfl rfl (wrap_i64 (by omega) (by omega))) rfl fun a hF => ag hF rfl rfl fun a hF => nt <| ⟨gk + 1, ⟨by omega, (((vv) * (r) + c (m - 1 - gk)) % (p)), (((m - 1 - gk : Nat) : Int) - 1), ⟨by rw [hvv, mod_step]; rfl, by omega⟩, hF.sub _ (by repeat' constructor), ?_⟩, by omega⟩;exact hM
  obtain rfl : m = gk := by omega
  refine wp_exit <| tX <| tX <| ib_same <| tN <| sr <| mv hF rfl rfl fun a hF => ag hF rfl rfl fun a hF => nt <| wp_ret <| fin1 rfl hF.defers (res_tmp hF rfl) ⟨_, rfl, hM.below, ?_⟩
  show _ = _
  exact congrArg (fun y : Nat => Value.int .i64 (y : Int)) hvv
theorem roots_ok (p b m : Nat) (c : Nat → Nat) (w : World) (hp1 : 1 < p) (hp2 : p ≤ 13) (hc : ∀ i, c i ≤ 255) (hm0 : 0 < m) (hm : m ≤ 6) (hb : Blk w b (numC m c)) :
    CallsR Try.prog 39 #[.agg (smC (p : Int) (.slice (some ⟨b, 0, none⟩) m m))] w (fun u w' => LstS w w' (rtN c m p) (rtV c m p) u) := by
  refine calls_fr [.agg (smC (p : Int) (.slice (some ⟨b, 0, none⟩) m m))] Try.func39 rfl Try.ntmps39 rfl fun a hF => ?_;have hM : Mem w w [none, none, none] [(b, numC m c)] := MemX.startD w 3 _ (startD1 hb);change Fr 26 a [(0, .agg (smC (p : Int) (.slice (some ⟨b, 0, none⟩) m m)))] at hF;refine sr <| stR hF (d_box 0 hM hF rfl) rfl ?_;rintro _ w' a ⟨b1, rfl, hM, -⟩ hF;change Mem w w' [some (b1, smC (p : Int) (.slice (some ⟨b, 0, none⟩) m m)), none, none] [(b, numC m c)] at hM;refine ag hF rfl rfl fun a hF => ns <| ag hF rfl rfl fun a hF => nt <| sq <| sr <| st hF (g_fieldAddr ty_fo_52_0 hF rfl) rfl fun a hF => st hF (g_load ty_on_2 hF rfl (hM.row 0 rfl) rfl) rfl fun a hF => mv hF rfl rfl fun a hF => nt <| wp_block ?_;change Mem w _ [some (b1, smC (p : Int) (.slice (some ⟨b, 0, none⟩) m m)), none, none] [(b, numC m c)] at hM;refine c_loop (fun (kk : Nat) a w' => kk ≤ p ∧ (True) ∧ ∃ (u3_1 : Value) (e3_1 : Option (Nat × Array Value)), Sl 1 u3_1 e3_1 (cnt (rtB c m p) kk) (rtV c m p) ∧ Fr 26 a [(1, ptr b1 (0)), (2, .slice none 0 0), (8, .int .i64 (p : Int)), (9, .int .i64 (kk : Int)), (3, u3_1)] ∧ Mem w w' [some (b1, smC (p : Int) (.slice (some ⟨b, 0, none⟩) m m)), none, e3_1] [(b, numC m c)]) (fun kk => p - kk) 0 ?_ ?_
  · refine ⟨by omega, trivial, (.slice none 0 0), (none), (Sl.nil 1 _), hF.sub _ (by repeat' constructor), ?_⟩
    exact hM
  clear hF hM;rintro gr a w' ⟨hgr, hinv1, u3_1, e3_1, hsl, hF, hM⟩;have hcl := cnt_le (S := rtB c m p) gr;refine sr <| st hF (g_lss hF rfl rfl) rfl fun a hF => nt <| sq <| c_cond hF rfl (fun h2 => ?_) (fun h2 => ?_)
  · refine wp_skip ?_
    refine tN <| sq <| wp_block <| sr <| mv hF rfl rfl fun a hF => ag hF rfl rfl fun a hF => ns <| st hF (g_loadAgg ty_ag_52 hF rfl (hM.row 0 rfl) (by simp only [sz0, grpC_size, numI_size, smC_size, numC_size] <;> omega) (whole smC_size)) rfl fun a hF => mv hF rfl rfl fun a hF => stR hF (d_call Try.call42 hF (.cons rfl (.cons rfl .nil)) (at_ok p b m (gr) c _ (by omega) (by omega) (by first | omega | exact hr2) hc (by omega) (by omega) (hM.fzm (b := b) (cs := numC m c) (by simp)))) rfl ?_;rintro _ w' a ⟨hx, rfl⟩ hF;have hM := hM.ext hx;refine mv hF rfl rfl fun a hF => st hF (g_extract hF rfl rfl) rfl fun a hF => st hF (g_extract hF rfl rfl) rfl fun a hF => ag hF rfl rfl fun a hF => ag hF rfl rfl fun a hF => ns <| mv hF rfl rfl fun a hF => st hF (g_eql hF rfl rfl) rfl fun a hF => nt <| c_cond hF rfl (fun h3 => ?_) (fun h3 => ?_)
    · refine wp_region_lit ?_
      refine mv hF rfl rfl fun a hF => mv hF rfl rfl fun a hF => stR hF (d_buildC 1 hM hF (build1 hF rfl) (ty_bs1_22 _)) rfl ?_;rintro _ w' a ⟨b4, rfl, hM, -⟩ hF;change Mem w w' [some (b1, smC (p : Int) (.slice (some ⟨b, 0, none⟩) m m)), some (b4, #[.int .i64 (gr : Int)]), e3_1] [(b, numC m c)] at hM;refine stR hF (d_append (k := 2) (m := 1) (g := fun _ => .int .i64 (gr : Int)) ty_si_22 rfl (by decide) hM rfl hF rfl rfl hsl (fun i hi => by rw [show i = 0 by omega]; exact (hM.row 1 rfl).cell 0) (fun _ _ => rfl) (by decide) (by unfold maxLen; omega) (by omega)) rfl ?_;rintro u5 w' a ⟨e6, hM, hs7⟩ hF;change Mem w w' [some (b1, smC (p : Int) (.slice (some ⟨b, 0, none⟩) m m)), some (b4, #[.int .i64 (gr : Int)]), e6] [(b, numC m c)] at hM;refine ag hF rfl rfl fun a hF => wpList_nil <| iN <| tN <| wp_region_lit <| st hF (g_add hF rfl rfl (add_nat (gr) (1) (by omega))) rfl fun a hF => mv hF rfl rfl fun a hF => wpList_nil <| tN ?_;have hin := rtB_yes (c := c) (m := m) (p := p) (r := gr) (by omega);have hM := hM.drop 1;refine ⟨gr + 1, ⟨by omega, trivial, (u5), (e6), (by first | (rw [cnt_yes hin]; exact Sl.snoc hs7 (rt_put (by omega) hin)) | (rw [cnt_no hin]; exact hs7)), hF.sub _ (by repeat' constructor), ?_⟩, by omega⟩;exact hM
    refine wp_skip <| iN <| tN <| wp_region_lit <| st hF (g_add hF rfl rfl (add_nat (gr) (1) (by omega))) rfl fun a hF => mv hF rfl rfl fun a hF => wpList_nil <| tN ?_;have hin := rtB_no (c := c) (m := m) (p := p) (r := gr) (by omega);refine ⟨gr + 1, ⟨by omega, trivial, (u3_1), (e3_1), (by first | (rw [cnt_yes hin]; exact Sl.snoc hsl (rt_put (by omega) hin)) | (rw [cnt_no hin]; exact hsl)), hF.sub _ (by repeat' constructor), ?_⟩, by omega⟩;exact hM
  obtain rfl : p = gr := by omega
  refine wp_exit <| tX <| tX <| ib_same <| tN <| sr <| mv hF rfl rfl fun a hF => ag hF rfl rfl fun a hF => nt <| wp_ret <| fin1 rfl hF.defers (res_tmp hF rfl) ⟨_, rfl, hM.below, ?_⟩;exact ⟨_, hsl, fun b cs e => by subst e; exact ⟨hM.ge 2 rfl, hM.row 2 rfl⟩⟩
theorem l09Roots_ok (p b m : Nat) (c : Nat → Nat) (w : World) (hp1 : 1 < p) (hp2 : p ≤ 13) (hc : ∀ i, c i ≤ 255) (hm0 : 0 < m) (hm : m ≤ 6) (hb : Blk w b (numC m c)) :
    CallsR Try.prog 38 #[.int .i64 (p : Int), .slice (some ⟨b, 0, none⟩) m m] w (fun u w' => LstS w w' (rtN c m p) (rtV c m p) u) := by
  refine calls_fr [.int .i64 (p : Int), .slice (some ⟨b, 0, none⟩) m m] Try.func38 rfl Try.ntmps38 rfl fun a hF => ?_;have hM : Mem w w [none, none] [(b, numC m c)] := MemX.startD w 2 _ (startD1 hb);change Fr 23 a [(0, .int .i64 (p : Int)), (1, .slice (some ⟨b, 0, none⟩) m m)] at hF;refine sr <| ag hF rfl rfl fun a hF => ns <| stR hF (d_buildC 0 hM hF rfl ty_bs0_22) rfl ?_;rintro _ w' a ⟨b1, rfl, hM, -⟩ hF;refine ag hF rfl rfl fun a hF => nt <| sq <| sr <| ag hF rfl rfl fun a hF => nt <| wp_block ?_;change Mem w _ [some (b1, #[]), none] [(b, numC m c)] at hM;refine c_loop (fun (kk : Nat) a w' => kk ≤ p ∧ (True) ∧ ∃ (u5_1 : Value) (e5_1 : Option (Nat × Array Value)), Sl 1 u5_1 e5_1 (cnt (rtB c m p) kk) (rtV c m p) ∧ Fr 23 a [(0, .int .i64 (p : Int)), (1, .slice (some ⟨b, 0, none⟩) m m), (4, .slice none 0 0), (6, .int .i64 (kk : Int)), (5, u5_1)] ∧ Mem w w' [e5_1, none] [(b, numC m c)]) (fun kk => p - kk) 0 ?_ ?_
  · refine ⟨by omega, trivial, (.slice (some ⟨b1, 0, none⟩) 0 0), (some (b1, #[])), (Sl.empty 1 _ _), hF.sub _ (by repeat' constructor), ?_⟩
    exact hM
  clear hF hM;rintro gr a w' ⟨hgr, hinv1, u5_1, e5_1, hsl, hF, hM⟩;have hcl := cnt_le (S := rtB c m p) gr;refine sq <| sr <| mv hF rfl rfl fun a hF => mv hF rfl rfl fun a hF => st hF (g_lss hF rfl rfl) rfl fun a hF => nt <| c_cond hF rfl (fun h2 => ?_) (fun h2 => ?_)
  · refine wp_skip ?_
    refine tN <| sq <| wp_block <| sr <| mv hF rfl rfl fun a hF => mv hF rfl rfl fun a hF => mv hF rfl rfl fun a hF => stR hF (d_call Try.call59 hF (.cons rfl (.cons rfl (.cons rfl .nil))) (l09At_ok (p) b m (gr) c _ (by omega) (by omega) (by omega) hc (by omega) (by omega) (hM.fzm (b := b) (cs := numC m c) (by simp)))) rfl ?_;rintro _ w' a ⟨hx, rfl⟩ hF;have hM := hM.ext hx;refine st hF (g_eql hF rfl rfl) rfl fun a hF => nt <| c_cond hF rfl (fun h3 => ?_) (fun h3 => ?_)
    · refine wp_region_lit ?_
      refine mv hF rfl rfl fun a hF => mv hF rfl rfl fun a hF => stR hF (d_buildC 1 hM hF (build1 hF rfl) (ty_bs1_22 _)) rfl ?_;rintro _ w' a ⟨b4, rfl, hM, -⟩ hF;change Mem w w' [e5_1, some (b4, #[.int .i64 (gr : Int)])] [(b, numC m c)] at hM;refine stR hF (d_append (k := 0) (m := 1) (g := fun _ => .int .i64 (gr : Int)) ty_si_22 rfl (by decide) hM rfl hF rfl rfl hsl (fun i hi => by rw [show i = 0 by omega]; exact (hM.row 1 rfl).cell 0) (fun _ _ => rfl) (by decide) (by unfold maxLen; omega) (by omega)) rfl ?_;rintro u5 w' a ⟨e6, hM, hs7⟩ hF;change Mem w w' [e6, some (b4, #[.int .i64 (gr : Int)])] [(b, numC m c)] at hM;refine ag hF rfl rfl fun a hF => wpList_nil <| iN <| tN <| wp_region_lit <| mv hF rfl rfl fun a hF => st hF (g_add hF rfl rfl (add_nat (gr) (1) (by omega))) rfl fun a hF => ag hF rfl rfl fun a hF => wpList_nil <| tN ?_;have hin := rtB_yes (c := c) (m := m) (p := p) (r := gr) (by omega);have hM := hM.drop 1;refine ⟨gr + 1, ⟨by omega, trivial, (u5), (e6), (by first | (rw [cnt_yes hin]; exact Sl.snoc hs7 (rt_put (by omega) hin)) | (rw [cnt_no hin]; exact hs7)), hF.sub _ (by repeat' constructor), ?_⟩, by omega⟩;exact hM
    refine wp_skip <| iN <| tN <| wp_region_lit <| mv hF rfl rfl fun a hF => st hF (g_add hF rfl rfl (add_nat (gr) (1) (by omega))) rfl fun a hF => ag hF rfl rfl fun a hF => wpList_nil <| tN ?_;have hin := rtB_no (c := c) (m := m) (p := p) (r := gr) (by omega);refine ⟨gr + 1, ⟨by omega, trivial, (u5_1), (e5_1), (by first | (rw [cnt_yes hin]; exact Sl.snoc hsl (rt_put (by omega) hin)) | (rw [cnt_no hin]; exact hsl)), hF.sub _ (by repeat' constructor), ?_⟩, by omega⟩;exact hM
  obtain rfl : p = gr := by omega
  refine wp_exit <| tX <| tX <| ib_same <| tN <| sr <| mv hF rfl rfl fun a hF => ag hF rfl rfl fun a hF => nt <| wp_ret <| fin1 rfl hF.defers (res_tmp hF rfl) ⟨_, rfl, hM.below, ?_⟩;exact ⟨_, hsl, fun b cs e => by subst e; exact ⟨hM.ge 0 rfl, hM.row 0 rfl⟩⟩
end Go.Proofs.Ytockjnhdllcfpaa
