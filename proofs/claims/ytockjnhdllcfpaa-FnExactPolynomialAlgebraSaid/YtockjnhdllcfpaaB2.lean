/- What functions of the program return, as walks over their operations; no statement of the seat is proved here. -/
import Derived.Test.YtockjnhdllcfpaaB1
import Derived.Test.YtockjnhdllcfpaaSw86
import Derived.Test.YtockjnhdllcfpaaSw10
set_option linter.unusedVariables false
set_option linter.unusedSimpArgs false
namespace Go.Proofs.Ytockjnhdllcfpaa
open Go Go.RowKit Go.Sw Go.Ech
open Classical
theorem ty_ag_52 : aggP Try.prog 52 = some 2 := by kernel_rfl
def PolP (p : Int) (m : Nat) (F : Nat → Int) : Prop := primeP p ∧ (1 ≤ m ∧ m ≤ 6) ∧ ∀ i, i < m → 0 ≤ F i ∧ F i ≤ p - 1
instance instPolP (p : Int) (m : Nat) (F : Nat → Int) : Decidable (PolP p m F) := by unfold PolP; infer_instance
theorem polP_num {p : Int} {m : Nat} {F : Nat → Int} : PolP p m F ↔ primeP p ∧ (1 ≤ m ∧ m ≤ 6) ∧ NumP (m : Int) 0 (p - 1) m F := by
  unfold PolP NumP
  constructor
  · rintro ⟨h1, h2, h3⟩; exact ⟨h1, h2, rfl, h3⟩
  · rintro ⟨h1, h2, _, h3⟩; exact ⟨h1, h2, h3⟩
def rtN (c : Nat → Nat) (m p : Nat) : Nat := cnt (rtB c m p) p
def rtA (c : Nat → Nat) (m p : Nat) : Nat → Nat := asc (rtB c m p) p
def rtV (c : Nat → Nat) (m p : Nat) (k : Nat) : Value := .int .i64 (rtA c m p k : Int)
theorem primeP_nat {p : Nat} (h : primeP (p : Int)) : primeN p := by unfold primeP at h; unfold primeN; omega
def trm (p s : Nat) : Nat → Nat
  | 0 => invN s p
  | k + 1 => trm p s k * s % p
theorem numI_argB {w : World} {b m : Nat} {F : Nat → Int} (h : Blk w b (numI m F)) : ArgSl w (.slice (some ⟨b, 0, none⟩) m m) m F :=
  ⟨⟨_, _, rfl⟩, fun _ => ⟨b, 0, m, rfl, fun i hi => Blk.cellAt h (numI_get (by omega) hi)⟩⟩

theorem hasResidues_ok (p : Int) (b m : Nat) (F : Nat → Int) (w : World) (hm : m < 10000000) (hb : Blk w b (numI m F)) :
    CallsR Try.prog 34 #[.int .i64 (p), .slice (some ⟨b, 0, none⟩) m m, .int .i64 (6)] w (fun res _ => res = .bool (decide (PolP p m F))) := by
  refine calls_fr [.int .i64 (p), .slice (some ⟨b, 0, none⟩) m m, .int .i64 (6)] Try.func34 rfl Try.ntmps34 rfl fun a hF => ?_;have hM : Mem w w [] [(b, numI m F)] := MemX.startD w 0 _ (startD1 hb);change Fr 27 a [(0, .int .i64 (p)), (1, .slice (some ⟨b, 0, none⟩) m m), (2, .int .i64 (6))] at hF;have hpw : primeP p → 2 ≤ p ∧ p ≤ 13 := fun h => primeP_pos2 h;refine sr <| ag hF rfl rfl fun a hF => nt <| sq <| sr <| mv hF rfl rfl fun a hF => stR hF (d_call Try.call51 hF (.cons rfl .nil) (isPrime_ok (p) _)) rfl ?_;rintro _ w' a ⟨hx, rfl⟩ hF;have hM := hM.ext hx;refine st hF (g_notP hF rfl) rfl fun a hF => mv hF rfl rfl fun a hF => ?_
  by_cases g1 : ¬ (primeP (p))
  · first | rw [decide_eq_true g1] at hF | simp only [decide_eq_true g1] at hF
    refine stS hF rfl rfl rfl rfl rfl fun a hF => stS hF rfl rfl rfl rfl rfl fun a hF => stS hF rfl rfl rfl rfl rfl fun a hF => st hF (g_pickT hF rfl rfl) rfl fun a hF => mv hF rfl rfl fun a hF => stS hF rfl rfl rfl rfl rfl fun a hF => stS hF rfl rfl rfl rfl rfl fun a hF => stS hF rfl rfl rfl rfl rfl fun a hF => stS hF rfl rfl rfl rfl rfl fun a hF => st hF (g_pickT hF rfl rfl) rfl fun a hF => nt <| c_T hF rfl <| sr <| ag hF rfl rfl fun a hF => nt <| wp_ret <| tR <| fin1 rfl hF.defers (res_tmp hF rfl) ⟨_, rfl, hM.below, ?_⟩
    show _ = _
    first | exact bool_f (fun hq => by have z1 := hq.1; have z2 := hq.2.1; first | contradiction | (exfalso; omega)) | exact congrArg Value.bool (decide_eq_decide.2 ⟨fun q => polP_num.2 ⟨Decidable.not_not.1 (by assumption), by omega, q⟩, fun q => (polP_num.1 q).2.2⟩) | (exact congrArg Value.bool (decide_eq_decide.2 ⟨fun q => polP_num.2 ⟨by assumption, by omega, q⟩, fun q => (polP_num.1 q).2.2⟩))
  first | rw [decide_eq_false g1] at hF | simp only [decide_eq_false g1] at hF
  refine stY hF rfl rfl rfl (g_move hF rfl) rfl fun a hF => stY hF rfl rfl rfl (g_len ty_us_22 hF rfl) rfl fun a hF => stY hF rfl rfl rfl (g_lss hF rfl rfl) rfl fun a hF => st hF (g_pickF hF rfl rfl) rfl fun a hF => mv hF rfl rfl fun a hF => ?_
  by_cases g3 : ((m : Int) : Int) < 1
  · first | rw [decide_eq_true g3] at hF | simp only [decide_eq_true g3] at hF
    refine stS hF rfl rfl rfl rfl rfl fun a hF => stS hF rfl rfl rfl rfl rfl fun a hF => stS hF rfl rfl rfl rfl rfl fun a hF => stS hF rfl rfl rfl rfl rfl fun a hF => st hF (g_pickT hF rfl rfl) rfl fun a hF => nt <| c_T hF rfl <| sr <| ag hF rfl rfl fun a hF => nt <| wp_ret <| tR <| fin1 rfl hF.defers (res_tmp hF rfl) ⟨_, rfl, hM.below, ?_⟩
    show _ = _
    first | exact bool_f (fun hq => by have z1 := hq.1; have z2 := hq.2.1; first | contradiction | (exfalso; omega)) | exact congrArg Value.bool (decide_eq_decide.2 ⟨fun q => polP_num.2 ⟨Decidable.not_not.1 (by assumption), by omega, q⟩, fun q => (polP_num.1 q).2.2⟩) | (exact congrArg Value.bool (decide_eq_decide.2 ⟨fun q => polP_num.2 ⟨by assumption, by omega, q⟩, fun q => (polP_num.1 q).2.2⟩))
  first | rw [decide_eq_false g3] at hF | simp only [decide_eq_false g3] at hF
  refine stY hF rfl rfl rfl (g_move hF rfl) rfl fun a hF => stY hF rfl rfl rfl (g_len ty_us_22 hF rfl) rfl fun a hF => stY hF rfl rfl rfl (g_move hF rfl) rfl fun a hF => stY hF rfl rfl rfl (g_gtr hF rfl rfl) rfl fun a hF => st hF (g_pickF hF rfl rfl) rfl fun a hF => nt <| c_cond hF rfl (fun h5 => ?_) (fun h5 => ?_)
  · refine sq ?_
    refine wp_region_lit <| ag hF rfl rfl fun a hF => nt <| wp_ret <| tR <| fin1 rfl hF.defers (res_tmp hF rfl) ⟨_, rfl, hM.below, ?_⟩
    show _ = _
    first | exact bool_f (fun hq => by have z1 := hq.1; have z2 := hq.2.1; first | contradiction | (exfalso; omega)) | exact congrArg Value.bool (decide_eq_decide.2 ⟨fun q => polP_num.2 ⟨Decidable.not_not.1 (by assumption), by omega, q⟩, fun q => (polP_num.1 q).2.2⟩) | (exact congrArg Value.bool (decide_eq_decide.2 ⟨fun q => polP_num.2 ⟨by assumption, by omega, q⟩, fun q => (polP_num.1 q).2.2⟩))
  refine wp_skip <| tN <| sr <| mv hF rfl rfl fun a hF => mv hF rfl rfl fun a hF => st hF (g_len ty_us_22 hF rfl) rfl fun a hF => mv hF rfl rfl fun a hF => st hF (g_sub hF rfl rfl (wrap_i64 (by have z := (by first | exact hpw hP.1 | exact hpw (Decidable.not_not.1 (by assumption)) : 2 ≤ p ∧ p ≤ 13); omega) (by have z := (by first | exact hpw hP.1 | exact hpw (Decidable.not_not.1 (by assumption)) : 2 ≤ p ∧ p ≤ 13); omega))) rfl fun a hF => stR hF (d_call Try.call56 hF (.cons rfl (.cons rfl (.cons rfl (.cons rfl .nil)))) (hasNumbers_ok _ m F (m : Int) (0) (p - 1) _ (numI_argB (hM.fzm (b := b) (cs := numI m F) (by simp))) hm)) rfl ?_;rintro _ w' a ⟨hx, rfl⟩ hF;have hM := hM.ext hx;refine ag hF rfl rfl fun a hF => nt <| wp_ret <| fin1 rfl hF.defers (res_tmp hF rfl) ⟨_, rfl, hM.below, ?_⟩
  show _ = _
  first | exact bool_f (fun hq => by have z1 := hq.1; have z2 := hq.2.1; first | contradiction | (exfalso; omega)) | exact congrArg Value.bool (decide_eq_decide.2 ⟨fun q => polP_num.2 ⟨Decidable.not_not.1 (by assumption), by omega, q⟩, fun q => (polP_num.1 q).2.2⟩) | (exact congrArg Value.bool (decide_eq_decide.2 ⟨fun q => polP_num.2 ⟨by assumption, by omega, q⟩, fun q => (polP_num.1 q).2.2⟩))
theorem l09Poly_R (p : Int) (b m : Nat) (F : Nat → Int) (w : World) (hm : m < 10000000) (hb : Blk w b (numI m F)) (hpi : -1000 < p → True) (hP : ¬ PolP p m F) :
    CallsR Try.prog 32 #[.int .i64 (p), .slice (some ⟨b, 0, none⟩) m m] w (fun res _ => res = .int .i64 2) := by
  refine calls_fr [.int .i64 (p), .slice (some ⟨b, 0, none⟩) m m] Try.func32 rfl Try.ntmps32 rfl fun a hF => ?_;have hM : Mem w w [] [(b, numI m F)] := MemX.startD w 0 _ (startD1 hb);change Fr 29 a [(0, .int .i64 (p)), (1, .slice (some ⟨b, 0, none⟩) m m)] at hF;have hpw : primeP p → 2 ≤ p ∧ p ≤ 13 := fun h => primeP_pos2 h;refine sr <| ag hF rfl rfl fun a hF => nt <| sq <| sr <| mv hF rfl rfl fun a hF => stR hF (d_call Try.call48 hF (.cons rfl .nil) (l01Prime_ok (p) _)) rfl ?_;rintro _ w' a ⟨hx, rfl⟩ hF;have hM := hM.ext hx;refine st hF (g_notP hF rfl) rfl fun a hF => mv hF rfl rfl fun a hF => ?_
  by_cases g1 : ¬ (primeP (p))
  · first | rw [decide_eq_true g1] at hF | simp only [decide_eq_true g1] at hF
    refine stS hF rfl rfl rfl rfl rfl fun a hF => stS hF rfl rfl rfl rfl rfl fun a hF => stS hF rfl rfl rfl rfl rfl fun a hF => stS hF rfl rfl rfl rfl rfl fun a hF => st hF (g_pickT hF rfl rfl) rfl fun a hF => nt <| c_T hF rfl <| sr <| ag hF rfl rfl fun a hF => nt <| wp_ret <| tR <| fin1 rfl hF.defers (res_tmp hF rfl) ⟨_, rfl, hM.below, ?_⟩
    show _ = _
    rfl
  first | rw [decide_eq_false g1] at hF | simp only [decide_eq_false g1] at hF
  refine stY hF rfl rfl rfl (g_move hF rfl) rfl fun a hF => stY hF rfl rfl rfl (g_len ty_us_22 hF rfl) rfl fun a hF => stYR hF rfl rfl rfl (d_call Try.call40 hF (.cons rfl (.cons rfl (.cons rfl .nil))) (l01In_ok (m : Int) (1) (6) _)) rfl ?_;rintro _ w' a ⟨hx, rfl⟩ hF;have hM := hM.ext hx;refine stY hF rfl rfl rfl (g_notP hF rfl) rfl fun a hF => st hF (g_pickF hF rfl rfl) rfl fun a hF => nt <| c_cond hF rfl (fun h3 => ?_) (fun h3 => ?_)
  · refine sq ?_
    refine wp_region_lit <| ag hF rfl rfl fun a hF => nt <| wp_ret <| tR <| fin1 rfl hF.defers (res_tmp hF rfl) ⟨_, rfl, hM.below, ?_⟩
    show _ = _
    rfl
  refine wp_skip <| tN <| sq <| sr <| ag hF rfl rfl fun a hF => nt <| wp_block ?_;change Mem w _ [] [(b, numI m F)] at hM;refine c_loop (fun (kk : Nat) a w' => kk ≤ m ∧ (∀ i, i < kk → 0 ≤ F i ∧ F i ≤ p - 1) ∧ Fr 29 a [(0, .int .i64 (p)), (1, .slice (some ⟨b, 0, none⟩) m m), (14, .bool (decide (¬ ((1 : Int) ≤ (m : Int) ∧ (m : Int) ≤ 6)))), (5, .int .i64 (kk : Int))] ∧ Mem w w' [] [(b, numI m F)]) (fun kk => m - kk) 0 ?_ ?_
  · refine ⟨by omega, fun i hi => absurd hi (by omega), hF.sub _ (by repeat' constructor), ?_⟩
    exact hM
  clear hF hM;rintro gk a w' ⟨hgk, hinv1, hF, hM⟩;refine sq <| sr <| mv hF rfl rfl fun a hF => mv hF rfl rfl fun a hF => st hF (g_len ty_us_22 hF rfl) rfl fun a hF => st hF (g_lss hF rfl rfl) rfl fun a hF => nt <| c_cond hF rfl (fun h4 => ?_) (fun h4 => ?_)
  · refine wp_skip ?_
    refine tN <| sq <| wp_block <| sr <| mv hF rfl rfl fun a hF => mv hF rfl rfl fun a hF => st hF (g_indexSl (i := gk) ty_sl_22 hF rfl rfl rfl (by omega)) rfl fun a hF => st hF (g_load ty_on_2 hF rfl (hM.fzm (b := b) (cs := numI m F) (by simp)) (numI_get (k := gk) (by omega) (by omega))) rfl fun a hF => mv hF rfl rfl fun a hF => st hF (g_sub hF rfl rfl (wrap_i64 (by have z := (by first | exact hpw hP.1 | exact hpw (Decidable.not_not.1 (by assumption)) : 2 ≤ p ∧ p ≤ 13); omega) (by have z := (by first | exact hpw hP.1 | exact hpw (Decidable.not_not.1 (by assumption)) : 2 ≤ p ∧ p ≤ 13); omega))) rfl fun a hF => stR hF (d_call Try.call40 hF (.cons rfl (.cons rfl (.cons rfl .nil))) (l01In_ok (F (gk)) (0) (p - 1) _)) rfl ?_;rintro _ w' a ⟨hx, rfl⟩ hF;have hM := hM.ext hx;refine st hF (g_notP hF rfl) rfl fun a hF => nt <| c_cond hF rfl (fun h5 => ?_) (fun h5 => ?_)
    · refine sq ?_
      refine wp_region_lit <| ag hF rfl rfl fun a hF => nt <| wp_ret <| iR <| tR <| tR <| iR <| tR <| fin1 rfl hF.defers (res_tmp hF rfl) ⟨_, rfl, hM.below, ?_⟩
      show _ = _
      rfl
    refine wp_skip <| iN <| tN <| wp_region_lit <| mv hF rfl rfl fun a hF => st hF (g_add hF rfl rfl (add_nat (gk) (1) (by omega))) rfl fun a hF => ag hF rfl rfl fun a hF => nt <| ⟨gk + 1, ⟨by omega, allS hinv1 (Decidable.not_not.1 (by assumption)), hF.sub _ (by repeat' constructor), ?_⟩, by omega⟩;exact hM
  obtain rfl : m = gk := by omega
  refine wp_exit <| tX <| tX <| ib_same <| tN <| sr <| ag hF rfl rfl fun a hF => nt <| wp_ret <| fin1 rfl hF.defers (res_tmp hF rfl) ⟨_, rfl, hM.below, ?_⟩
  show _ = _
  exact absurd ⟨Decidable.not_not.1 (by assumption), by omega, hinv1⟩ hP
theorem l09Poly_V (p : Int) (b m : Nat) (F : Nat → Int) (w : World) (hm : m < 10000000) (hb : Blk w b (numI m F)) (hpi : -1000 < p → True) (hP : PolP p m F) :
    CallsR Try.prog 32 #[.int .i64 (p), .slice (some ⟨b, 0, none⟩) m m] w (fun res _ => res = .int .i64 0) := by
  refine calls_fr [.int .i64 (p), .slice (some ⟨b, 0, none⟩) m m] Try.func32 rfl Try.ntmps32 rfl fun a hF => ?_;have hM : Mem w w [] [(b, numI m F)] := MemX.startD w 0 _ (startD1 hb);change Fr 29 a [(0, .int .i64 (p)), (1, .slice (some ⟨b, 0, none⟩) m m)] at hF;have hpw : primeP p → 2 ≤ p ∧ p ≤ 13 := fun h => primeP_pos2 h;refine sr <| ag hF rfl rfl fun a hF => nt <| sq <| sr <| mv hF rfl rfl fun a hF => stR hF (d_call Try.call48 hF (.cons rfl .nil) (l01Prime_ok (p) _)) rfl ?_;rintro _ w' a ⟨hx, rfl⟩ hF;have hM := hM.ext hx;refine st hF (g_notP hF rfl) rfl fun a hF => mv hF rfl rfl fun a hF => ?_
  by_cases g1 : ¬ (primeP (p))
  · first | rw [decide_eq_true g1] at hF | simp only [decide_eq_true g1] at hF
    first | exact absurd hP.1 g1 | (have z := hP.2.1; exfalso; omega)
  first | rw [decide_eq_false g1] at hF | simp only [decide_eq_false g1] at hF
  refine stY hF rfl rfl rfl (g_move hF rfl) rfl fun a hF => stY hF rfl rfl rfl (g_len ty_us_22 hF rfl) rfl fun a hF => stYR hF rfl rfl rfl (d_call Try.call40 hF (.cons rfl (.cons rfl (.cons rfl .nil))) (l01In_ok (m : Int) (1) (6) _)) rfl ?_;rintro _ w' a ⟨hx, rfl⟩ hF;have hM := hM.ext hx;refine stY hF rfl rfl rfl (g_notP hF rfl) rfl fun a hF => st hF (g_pickF hF rfl rfl) rfl fun a hF => nt <| c_cond hF rfl (fun h2 => ?_) (fun h2 => ?_)
  · first | exact absurd hP.1 h2 | exact absurd (hP.2.2 gk (by omega)) h2 | (have z := hP.2.1; exfalso; omega) | exact absurd hP.1 (by assumption)
  refine wp_skip <| tN <| sq <| sr <| ag hF rfl rfl fun a hF => nt <| wp_block ?_;change Mem w _ [] [(b, numI m F)] at hM;refine c_loop (fun (kk : Nat) a w' => kk ≤ m ∧ (∀ i, i < kk → 0 ≤ F i ∧ F i ≤ p - 1) ∧ Fr 29 a [(0, .int .i64 (p)), (1, .slice (some ⟨b, 0, none⟩) m m), (14, .bool (decide (¬ ((1 : Int) ≤ (m : Int) ∧ (m : Int) ≤ 6)))), (5, .int .i64 (kk : Int))] ∧ Mem w w' [] [(b, numI m F)]) (fun kk => m - kk) 0 ?_ ?_
  · refine ⟨by omega, fun i hi => absurd hi (by omega), hF.sub _ (by repeat' constructor), ?_⟩
    exact hM
  clear hF hM;rintro gk a w' ⟨hgk, hinv1, hF, hM⟩;refine sq <| sr <| mv hF rfl rfl fun a hF => mv hF rfl rfl fun a hF => st hF (g_len ty_us_22 hF rfl) rfl fun a hF => st hF (g_lss hF rfl rfl) rfl fun a hF => nt <| c_cond hF rfl (fun h3 => ?_) (fun h3 => ?_)
  · refine wp_skip ?_
    refine tN <| sq <| wp_block <| sr <| mv hF rfl rfl fun a hF => mv hF rfl rfl fun a hF => st hF (g_indexSl (i := gk) ty_sl_22 hF rfl rfl rfl (by omega)) rfl fun a hF => st hF (g_load ty_on_2 hF rfl (hM.fzm (b := b) (cs := numI m F) (by simp)) (numI_get (k := gk) (by omega) (by omega))) rfl fun a hF => mv hF rfl rfl fun a hF => st hF (g_sub hF rfl rfl (wrap_i64 (by have z := (by first | exact hpw hP.1 | exact hpw (Decidable.not_not.1 (by assumption)) : 2 ≤ p ∧ p ≤ 13); omega) (by have z := (by first | exact hpw hP.1 | exact hpw (Decidable.not_not.1 (by assumption)) : 2 ≤ p ∧ p ≤ 13); omega))) rfl fun a hF => stR hF (d_call Try.call40 hF (.cons rfl (.cons rfl (.cons rfl .nil))) (l01In_ok (F (gk)) (0) (p - 1) _)) rfl ?_;rintro _ w' a ⟨hx, rfl⟩ hF;have hM := hM.ext hx;refine st hF (g_notP hF rfl) rfl fun a hF => nt <| c_cond hF rfl (fun h4 => ?_) (fun h4 => ?_)
    · first | exact absurd hP.1 h4 | exact absurd (hP.2.2 gk (by omega)) h4 | (have z := hP.2.1; exfalso; omega) | exact absurd hP.1 (by assumption)
    refine wp_skip <| iN <| tN <| wp_region_lit <| mv hF rfl rfl fun a hF => st hF (g_add hF rfl rfl (add_nat (gk) (1) (by omega))) rfl fun a hF => ag hF rfl rfl fun a hF => nt <| ⟨gk + 1, ⟨by omega, allS hinv1 (Decidable.not_not.1 (by assumption)), hF.sub _ (by repeat' constructor), ?_⟩, by omega⟩;exact hM
  obtain rfl : m = gk := by omega
  refine wp_exit <| tX <| tX <| ib_same <| tN <| sr <| ag hF rfl rfl fun a hF => nt <| wp_ret <| fin1 rfl hF.defers (res_tmp hF rfl) ⟨_, rfl, hM.below, ?_⟩
  show _ = _
  rfl
end Go.Proofs.Ytockjnhdllcfpaa
