/- What functions of the program return, as walks over their operations; no statement of the seat is proved here. -/
import Derived.Test.YthliekalhgafcaaTF
import Derived.Test.YthliekalhgafcaaT4
import Derived.Test.YthliekalhgafcaaG12
import Derived.Test.YthliekalhgafcaaSw14
import Derived.Test.YthliekalhgafcaaEch2
import Derived.Test.YthliekalhgafcaaSw15
import Derived.Test.YthliekalhgafcaaEch3
import Derived.Test.YthliekalhgafcaaSw17
import Derived.Test.YthliekalhgafcaaSw18
import Derived.Test.YthliekalhgafcaaSw19
import Derived.Test.YthliekalhgafcaaSw20
import Derived.Test.YthliekalhgafcaaSw23
import Derived.Test.YthliekalhgafcaaSw24
set_option linter.unusedVariables false
set_option linter.unusedSimpArgs false
namespace Go.Proofs.Ythliekalhgafcaa
open Go Go.RowKit Go.Sw Go.Ech
open Classical
theorem ty_ag_24 : aggP Try.prog 24 = some 5 := by kernel_rfl
theorem ty_ub_4 : Try.prog.underlying 4 = some .bool := by kernel_rfl
def tenH (p n i o : Int) : Prop := primeP p ∧ (1 ≤ n ∧ n ≤ 6) ∧ (0 ≤ i ∧ i ≤ 8) ∧ (0 ≤ o ∧ o ≤ 8)
/-- What a tensor is. -/
def TenP (p n i o : Int) (m : Nat) (g : Nat → Int) : Prop := tenH p n i o ∧ n.toNat ^ (i.toNat + o.toNat) ≤ 1296 ∧ m = n.toNat ^ (i.toNat + o.toNat) ∧ ∀ c, c < m → 0 ≤ g c ∧ g c < p
instance (p n i o : Int) (m : Nat) (g : Nat → Int) : Decidable (TenP p n i o m g) := by unfold TenP tenH; infer_instance
def NumP (p : Int) (m : Nat) (g : Nat → Int) : Prop := ∀ c, c < m → 0 ≤ g c ∧ g c < p
instance (p : Int) (m : Nat) (g : Nat → Int) : Decidable (NumP p m g) := by unfold NumP; infer_instance

theorem IsTensor_1 (p n i o : Int) (b m : Nat) (g : Nat → Int) (w : World) (hb : Blk w b (numI m g)) (hm : m < 10000000) (hA : ¬ (primeP p ∧ 1 ≤ n ∧ n ≤ 6 ∧ 0 ≤ i ∧ 0 ≤ o)) :
    CallsR Try.prog 16 #[.agg (tenC p n i o (.slice (some ⟨b, 0, none⟩) m m))] w (fun res _ => res = .bool false) := by
  refine calls_fr [.agg (tenC p n i o (.slice (some ⟨b, 0, none⟩) m m))] Try.func16 rfl Try.ntmps16 rfl fun a hF => ?_
  have hM : Mem w w [none] [(b, numI m g)] := MemX.startD w 1 _ (startD1 hb)
  change Fr 65 a [(0, .agg (tenC p n i o (.slice (some ⟨b, 0, none⟩) m m)))] at hF
  refine sq ?_
  refine wp_region_lit ?_
  refine stR hF (d_box 0 hM hF rfl) rfl ?_
  rintro _ w' a ⟨b1, rfl, hM, -⟩ hF
  change Mem w w' [some (b1, tenC p n i o (.slice (some ⟨b, 0, none⟩) m m))] [(b, numI m g)] at hM
  refine st hF (g_assign hF rfl) rfl fun a hF => ?_
  refine wpList_nil ?_
  refine tN ?_
  refine sq ?_
  refine sq ?_
  refine wp_region_lit ?_
  refine st hF (g_fieldAddr ty_fo_27_0 hF rfl) rfl fun a hF => st hF (g_load ty_on_2 hF rfl (hM.row 0 rfl) (tenC_0 (by omega))) rfl fun a hF => ?_
  refine stR hF (d_call Try.call42 hF (.cons rfl .nil) (isPrime_ok (p) _)) rfl ?_
  rintro _ w' a ⟨hx, rfl⟩ hF
  have hM := hM.ext hx
  refine st hF (g_notP hF rfl) rfl fun a hF => st hF (g_move hF rfl) rfl fun a hF => ?_
  by_cases g2 : ¬ (primeP (p))
  ·
    first | rw [decide_eq_true g2] at hF | simp only [decide_eq_true g2] at hF
    refine stS hF rfl rfl rfl rfl rfl fun a hF => stS hF rfl rfl rfl rfl rfl fun a hF => stS hF rfl rfl rfl rfl rfl fun a hF => st hF (g_pickT hF rfl rfl) rfl fun a hF => st hF (g_move hF rfl) rfl fun a hF => stS hF rfl rfl rfl rfl rfl fun a hF => stS hF rfl rfl rfl rfl rfl fun a hF => stS hF rfl rfl rfl rfl rfl fun a hF => st hF (g_pickT hF rfl rfl) rfl fun a hF => ?_
    refine wpList_nil ?_
    refine tN ?_
    refine c_T hF rfl ?_
    refine sq ?_
    refine wp_region_lit ?_
    refine st hF (g_assign hF rfl) rfl fun a hF => ?_
    refine wpList_nil ?_
    refine tN ?_
    refine wp_ret ?_
    refine tR ?_
    refine fin1 rfl hF.defers (res_tmp hF rfl) ⟨_, rfl, hM.below, ?_⟩
    show _ = _
    rfl
  ·
    first | rw [decide_eq_false g2] at hF | simp only [decide_eq_false g2] at hF
    refine stY hF rfl rfl rfl (g_fieldAddr ty_fo_27_1 hF rfl) rfl fun a hF => stY hF rfl rfl rfl (g_load ty_on_2 hF rfl (hM.row 0 rfl) (tenC_1 (by omega))) rfl fun a hF => stY hF rfl rfl rfl (g_lss hF rfl rfl) rfl fun a hF => st hF (g_pickF hF rfl rfl) rfl fun a hF => st hF (g_move hF rfl) rfl fun a hF => ?_
    by_cases g4 : (n : Int) < 1
    ·
      first | rw [decide_eq_true g4] at hF | simp only [decide_eq_true g4] at hF
      refine stS hF rfl rfl rfl rfl rfl fun a hF => stS hF rfl rfl rfl rfl rfl fun a hF => stS hF rfl rfl rfl rfl rfl fun a hF => st hF (g_pickT hF rfl rfl) rfl fun a hF => ?_
      refine wpList_nil ?_
      refine tN ?_
      refine c_T hF rfl ?_
      refine sq ?_
      refine wp_region_lit ?_
      refine st hF (g_assign hF rfl) rfl fun a hF => ?_
      refine wpList_nil ?_
      refine tN ?_
      refine wp_ret ?_
      refine tR ?_
      refine fin1 rfl hF.defers (res_tmp hF rfl) ⟨_, rfl, hM.below, ?_⟩
      show _ = _
      rfl
    ·
      first | rw [decide_eq_false g4] at hF | simp only [decide_eq_false g4] at hF
      refine stY hF rfl rfl rfl (g_fieldAddr ty_fo_27_1 hF rfl) rfl fun a hF => stY hF rfl rfl rfl (g_load ty_on_2 hF rfl (hM.row 0 rfl) (tenC_1 (by omega))) rfl fun a hF => stY hF rfl rfl rfl (g_gtr hF rfl rfl) rfl fun a hF => st hF (g_pickF hF rfl rfl) rfl fun a hF => ?_
      refine wpList_nil ?_
      refine tN ?_
      refine c_cond hF rfl (fun h6 => ?_) (fun h6 => ?_)
      ·
        refine sq ?_
        refine wp_region_lit ?_
        refine st hF (g_assign hF rfl) rfl fun a hF => ?_
        refine wpList_nil ?_
        refine tN ?_
        refine wp_ret ?_
        refine tR ?_
        refine fin1 rfl hF.defers (res_tmp hF rfl) ⟨_, rfl, hM.below, ?_⟩
        show _ = _
        rfl
      ·
        refine wp_skip ?_
        refine tN ?_
        refine sq ?_
        refine sq ?_
        refine wp_region_lit ?_
        refine st hF (g_fieldAddr ty_fo_27_2 hF rfl) rfl fun a hF => st hF (g_load ty_on_2 hF rfl (hM.row 0 rfl) (tenC_2 (by omega))) rfl fun a hF => st hF (g_lss hF rfl rfl) rfl fun a hF => st hF (g_move hF rfl) rfl fun a hF => ?_
        by_cases g7 : (i : Int) < 0
        ·
          first | rw [decide_eq_true g7] at hF | simp only [decide_eq_true g7] at hF
          refine stS hF rfl rfl rfl rfl rfl fun a hF => stS hF rfl rfl rfl rfl rfl fun a hF => stS hF rfl rfl rfl rfl rfl fun a hF => st hF (g_pickT hF rfl rfl) rfl fun a hF => st hF (g_move hF rfl) rfl fun a hF => stS hF rfl rfl rfl rfl rfl fun a hF => stS hF rfl rfl rfl rfl rfl fun a hF => stS hF rfl rfl rfl rfl rfl fun a hF => stS hF rfl rfl rfl rfl rfl fun a hF => stS hF rfl rfl rfl rfl rfl fun a hF => stS hF rfl rfl rfl rfl rfl fun a hF => stS hF rfl rfl rfl rfl rfl fun a hF => stS hF rfl rfl rfl rfl rfl fun a hF => st hF (g_pickT hF rfl rfl) rfl fun a hF => ?_
          refine wpList_nil ?_
          refine tN ?_
          refine c_T hF rfl ?_
          refine sq ?_
          refine wp_region_lit ?_
          refine st hF (g_assign hF rfl) rfl fun a hF => ?_
          refine wpList_nil ?_
          refine tN ?_
          refine wp_ret ?_
          refine tR ?_
          refine fin1 rfl hF.defers (res_tmp hF rfl) ⟨_, rfl, hM.below, ?_⟩
          show _ = _
          rfl
        ·
          first | rw [decide_eq_false g7] at hF | simp only [decide_eq_false g7] at hF
          refine stY hF rfl rfl rfl (g_fieldAddr ty_fo_27_3 hF rfl) rfl fun a hF => stY hF rfl rfl rfl (g_load ty_on_2 hF rfl (hM.row 0 rfl) (tenC_3 (by omega))) rfl fun a hF => stY hF rfl rfl rfl (g_lss hF rfl rfl) rfl fun a hF => st hF (g_pickF hF rfl rfl) rfl fun a hF => st hF (g_move hF rfl) rfl fun a hF => ?_
          by_cases g9 : (o : Int) < 0
          ·
            first | rw [decide_eq_true g9] at hF | simp only [decide_eq_true g9] at hF
            refine stS hF rfl rfl rfl rfl rfl fun a hF => stS hF rfl rfl rfl rfl rfl fun a hF => stS hF rfl rfl rfl rfl rfl fun a hF => stS hF rfl rfl rfl rfl rfl fun a hF => stS hF rfl rfl rfl rfl rfl fun a hF => stS hF rfl rfl rfl rfl rfl fun a hF => stS hF rfl rfl rfl rfl rfl fun a hF => stS hF rfl rfl rfl rfl rfl fun a hF => st hF (g_pickT hF rfl rfl) rfl fun a hF => ?_
            refine wpList_nil ?_
            refine tN ?_
            refine c_T hF rfl ?_
            refine sq ?_
            refine wp_region_lit ?_
            refine st hF (g_assign hF rfl) rfl fun a hF => ?_
            refine wpList_nil ?_
            refine tN ?_
            refine wp_ret ?_
            refine tR ?_
            refine fin1 rfl hF.defers (res_tmp hF rfl) ⟨_, rfl, hM.below, ?_⟩
            show _ = _
            rfl
          ·
            first | rw [decide_eq_false g9] at hF | simp only [decide_eq_false g9] at hF
            exact absurd ⟨Decidable.not_not.1 (by assumption), by omega, by omega, by omega, by omega⟩ hA

theorem IsTensor_2 (p n i o b m : Nat) (g : Nat → Int) (w : World) (hb : Blk w b (numI m g)) (hm : m < 10000000) (hpP : primeP (p : Int)) (hn0 : 0 < n) (hn : n ≤ 6) :
    CallsR Try.prog 16 #[.agg (tenC (p : Int) (n : Int) (i : Int) (o : Int) (.slice (some ⟨b, 0, none⟩) m m))] w (fun res _ => res = .bool (decide (wl n i o ∧ m = n ^ (i + o) ∧ NumP p m g))) := by
  refine calls_fr [.agg (tenC (p : Int) (n : Int) (i : Int) (o : Int) (.slice (some ⟨b, 0, none⟩) m m))] Try.func16 rfl Try.ntmps16 rfl fun a hF => ?_
  have hM : Mem w w [none] [(b, numI m g)] := MemX.startD w 1 _ (startD1 hb)
  change Fr 65 a [(0, .agg (tenC (p : Int) (n : Int) (i : Int) (o : Int) (.slice (some ⟨b, 0, none⟩) m m)))] at hF
  have hp0 : 0 < p := by have h := hpP; unfold primeP at h; omega
  have hp2 : p < 100 := by have h := hpP; unfold primeP at h; omega
  refine sq ?_
  refine wp_region_lit ?_
  refine stR hF (d_box 0 hM hF rfl) rfl ?_
  rintro _ w' a ⟨b1, rfl, hM, -⟩ hF
  change Mem w w' [some (b1, tenC (p : Int) (n : Int) (i : Int) (o : Int) (.slice (some ⟨b, 0, none⟩) m m))] [(b, numI m g)] at hM
  refine st hF (g_assign hF rfl) rfl fun a hF => ?_
  refine wpList_nil ?_
  refine tN ?_
  refine sq ?_
  refine sq ?_
  refine wp_region_lit ?_
  refine st hF (g_fieldAddr ty_fo_27_0 hF rfl) rfl fun a hF => st hF (g_load ty_on_2 hF rfl (hM.row 0 rfl) (tenC_0 (by omega))) rfl fun a hF => ?_
  refine stR hF (d_call Try.call42 hF (.cons rfl .nil) (isPrime_ok (((p : Nat) : Int)) _)) rfl ?_
  rintro _ w' a ⟨hx, rfl⟩ hF
  have hM := hM.ext hx
  refine st hF (g_notP hF rfl) rfl fun a hF => st hF (g_move hF rfl) rfl fun a hF => ?_
  by_cases g2 : ¬ (primeP (((p : Nat) : Int)))
  ·
    first | rw [decide_eq_true g2] at hF | simp only [decide_eq_true g2] at hF
    first | exact absurd hpP g2 | (exfalso; omega)
  ·
    first | rw [decide_eq_false g2] at hF | simp only [decide_eq_false g2] at hF
    refine stY hF rfl rfl rfl (g_fieldAddr ty_fo_27_1 hF rfl) rfl fun a hF => stY hF rfl rfl rfl (g_load ty_on_2 hF rfl (hM.row 0 rfl) (tenC_1 (by omega))) rfl fun a hF => stY hF rfl rfl rfl (g_lss hF rfl rfl) rfl fun a hF => st hF (g_pickF hF rfl rfl) rfl fun a hF => st hF (g_move hF rfl) rfl fun a hF => ?_
    by_cases g3 : (((n : Nat) : Int) : Int) < 1
    ·
      first | rw [decide_eq_true g3] at hF | simp only [decide_eq_true g3] at hF
      first | exact absurd hpP g3 | (exfalso; omega)
    ·
      first | rw [decide_eq_false g3] at hF | simp only [decide_eq_false g3] at hF
      refine stY hF rfl rfl rfl (g_fieldAddr ty_fo_27_1 hF rfl) rfl fun a hF => stY hF rfl rfl rfl (g_load ty_on_2 hF rfl (hM.row 0 rfl) (tenC_1 (by omega))) rfl fun a hF => stY hF rfl rfl rfl (g_gtr hF rfl rfl) rfl fun a hF => st hF (g_pickF hF rfl rfl) rfl fun a hF => ?_
      refine wpList_nil ?_
      refine tN ?_
      refine c_cond hF rfl (fun h4 => ?_) (fun h4 => ?_)
      ·
        exfalso; omega
      ·
        refine wp_skip ?_
        refine tN ?_
        refine sq ?_
        refine sq ?_
        refine wp_region_lit ?_
        refine st hF (g_fieldAddr ty_fo_27_2 hF rfl) rfl fun a hF => st hF (g_load ty_on_2 hF rfl (hM.row 0 rfl) (tenC_2 (by omega))) rfl fun a hF => st hF (g_lss hF rfl rfl) rfl fun a hF => st hF (g_move hF rfl) rfl fun a hF => ?_
        by_cases g5 : (((i : Nat) : Int) : Int) < 0
        ·
          first | rw [decide_eq_true g5] at hF | simp only [decide_eq_true g5] at hF
          first | exact absurd hpP g5 | (exfalso; omega)
        ·
          first | rw [decide_eq_false g5] at hF | simp only [decide_eq_false g5] at hF
          refine stY hF rfl rfl rfl (g_fieldAddr ty_fo_27_3 hF rfl) rfl fun a hF => stY hF rfl rfl rfl (g_load ty_on_2 hF rfl (hM.row 0 rfl) (tenC_3 (by omega))) rfl fun a hF => stY hF rfl rfl rfl (g_lss hF rfl rfl) rfl fun a hF => st hF (g_pickF hF rfl rfl) rfl fun a hF => st hF (g_move hF rfl) rfl fun a hF => ?_
          by_cases g6 : (((o : Nat) : Int) : Int) < 0
          ·
            first | rw [decide_eq_true g6] at hF | simp only [decide_eq_true g6] at hF
            first | exact absurd hpP g6 | (exfalso; omega)
          ·
            first | rw [decide_eq_false g6] at hF | simp only [decide_eq_false g6] at hF
            refine stY hF rfl rfl rfl (g_fieldAddr ty_fo_27_1 hF rfl) rfl fun a hF => stY hF rfl rfl rfl (g_load ty_on_2 hF rfl (hM.row 0 rfl) (tenC_1 (by omega))) rfl fun a hF => stY hF rfl rfl rfl (g_fieldAddr ty_fo_27_2 hF rfl) rfl fun a hF => stY hF rfl rfl rfl (g_load ty_on_2 hF rfl (hM.row 0 rfl) (tenC_2 (by omega))) rfl fun a hF => stY hF rfl rfl rfl (g_fieldAddr ty_fo_27_3 hF rfl) rfl fun a hF => stY hF rfl rfl rfl (g_load ty_on_2 hF rfl (hM.row 0 rfl) (tenC_3 (by omega))) rfl fun a hF => ?_
            refine stYR hF rfl rfl rfl (d_call Try.call43 hF (.cons rfl (.cons rfl (.cons rfl .nil))) (isWithinLimits_ok (n) (i) (o) _ (by omega))) rfl ?_
            rintro _ w' a ⟨hx, rfl⟩ hF
            have hM := hM.ext hx
            refine stY hF rfl rfl rfl (g_notP hF rfl) rfl fun a hF => st hF (g_pickF hF rfl rfl) rfl fun a hF => ?_
            refine wpList_nil ?_
            refine tN ?_
            refine c_cond hF rfl (fun h7 => ?_) (fun h7 => ?_)
            ·
              refine sq ?_
              refine wp_region_lit ?_
              refine st hF (g_assign hF rfl) rfl fun a hF => ?_
              refine wpList_nil ?_
              refine tN ?_
              refine wp_ret ?_
              refine tR ?_
              refine fin1 rfl hF.defers (res_tmp hF rfl) ⟨_, rfl, hM.below, ?_⟩
              show _ = _
              exact bool_f (fun hq => absurd hq.1 (by assumption))
            ·
              have hwl := Decidable.not_not.1 h7
              have hwl1 := hwl.1
              have hwl2 := hwl.2.1
              have hwl3 := hwl.2.2
              refine wp_skip ?_
              refine tN ?_
              refine sq ?_
              refine sq ?_
              refine c_par 11 [] [.val (ptr b1 (0 + 4)), .val (.slice (some ⟨b, 0, none⟩) (m) (m)), .val (.int .i64 (((m : Nat) : Int))), .val (ptr b1 (0 + 1)), .val (.int .i64 (((n : Nat) : Int))), .val (ptr b1 (0 + 2)), .val (.int .i64 (((i : Nat) : Int))), .val (ptr b1 (0 + 3)), .val (.int .i64 (((o : Nat) : Int))), .val (.int .i64 (((i + o : Nat) : Int))), .val (.int .i64 ((((n) ^ (i + o) : Nat) : Int)))] hmix rfl hF rfl hM ⟨fun a w gG hF hS hd => by exact par_val hS rfl (g_fieldAddr ty_fo_27_4 hF rfl), fun a w gG hF hS hd => by have hF := hF.ext1 37 (hd 0 rfl rfl); have hM := hS.mem rfl; exact par_val hS rfl (g_load ty_on_22 hF rfl (hM.row 0 rfl) (tenC_4 (by omega))), fun a w gG hF hS hd => by have hF := hF.ext1 38 (hd 1 rfl rfl); exact par_val hS rfl (g_len ty_us_22 hF rfl), fun a w gG hF hS hd => by exact par_val hS rfl (g_fieldAddr ty_fo_27_1 hF rfl), fun a w gG hF hS hd => by have hF := hF.ext1 40 (hd 3 rfl rfl); have hM := hS.mem rfl; exact par_val hS rfl (g_load ty_on_2 hF rfl (hM.row 0 rfl) (tenC_1 (by omega))), fun a w gG hF hS hd => by exact par_val hS rfl (g_fieldAddr ty_fo_27_2 hF rfl), fun a w gG hF hS hd => by have hF := hF.ext1 42 (hd 5 rfl rfl); have hM := hS.mem rfl; exact par_val hS rfl (g_load ty_on_2 hF rfl (hM.row 0 rfl) (tenC_2 (by omega))), fun a w gG hF hS hd => by exact par_val hS rfl (g_fieldAddr ty_fo_27_3 hF rfl), fun a w gG hF hS hd => by have hF := hF.ext1 44 (hd 7 rfl rfl); have hM := hS.mem rfl; exact par_val hS rfl (g_load ty_on_2 hF rfl (hM.row 0 rfl) (tenC_3 (by omega))), fun a w gG hF hS hd => by have hF := hF.ext1 43 (hd 6 rfl rfl); have hF := hF.ext1 45 (hd 8 rfl rfl); exact par_val hS rfl (g_add hF rfl rfl (add_nat (i) (o) (by omega))), fun a w gG hF hS hd => by have hF := hF.ext1 41 (hd 4 rfl rfl); have hF := hF.ext1 46 (hd 9 rfl rfl); exact par_call (by repeat constructor) hS rfl (d_call Try.call44 hF (.cons rfl (.cons rfl .nil)) (countChoices_ok (n) (i + o) _ (by omega) (by omega))), trivial⟩ ?_
              intro a w' L hF hS hq
              have hF := hF.ext1 37 (hq 0 rfl rfl)
              have hF := hF.ext1 38 (hq 1 rfl rfl)
              have hF := hF.ext1 39 (hq 2 rfl rfl)
              have hF := hF.ext1 40 (hq 3 rfl rfl)
              have hF := hF.ext1 41 (hq 4 rfl rfl)
              have hF := hF.ext1 42 (hq 5 rfl rfl)
              have hF := hF.ext1 43 (hq 6 rfl rfl)
              have hF := hF.ext1 44 (hq 7 rfl rfl)
              have hF := hF.ext1 45 (hq 8 rfl rfl)
              have hF := hF.ext1 46 (hq 9 rfl rfl)
              have hF := hF.ext1 47 (hq 10 rfl rfl)
              have hM := hS.mem rfl
              change wpList Try.prog _ _ [_] _ _
              refine st hF (g_neq hF rfl rfl) rfl fun a hF => ?_
              refine wpList_nil ?_
              refine tN ?_
              refine c_cond hF rfl (fun h8 => ?_) (fun h8 => ?_)
              ·
                refine sq ?_
                refine wp_region_lit ?_
                refine st hF (g_assign hF rfl) rfl fun a hF => ?_
                refine wpList_nil ?_
                refine tN ?_
                refine wp_ret ?_
                refine tR ?_
                refine fin1 rfl hF.defers (res_tmp hF rfl) ⟨_, rfl, hM.below, ?_⟩
                show _ = _
                exact bool_f (fun hq => by have := hq.2.1; omega)
              ·
                refine wp_skip ?_
                refine tN ?_
                refine sq ?_
                refine sq ?_
                refine wp_region_lit ?_
                refine st hF (g_fieldAddr ty_fo_27_4 hF rfl) rfl fun a hF => st hF (g_load ty_on_22 hF rfl (hM.row 0 rfl) (tenC_4 (by omega))) rfl fun a hF => st hF (g_len ty_us_22 hF rfl) rfl fun a hF => st hF (g_move hF rfl) rfl fun a hF => ?_
                refine wpList_nil ?_
                refine tN ?_
                refine wp_block ?_
                change Mem w _ [some (b1, tenC (p : Int) (n : Int) (i : Int) (o : Int) (.slice (some ⟨b, 0, none⟩) m m))] [(b, numI m g)] at hM
                refine c_loop (fun (kk : Nat) a w' => kk ≤ m ∧ (∀ c, c < kk → 0 ≤ g c ∧ g c < (p : Int)) ∧ Fr 65 a [(47, .int .i64 ((((n) ^ (i + o) : Nat) : Int))), (46, .int .i64 (((i + o : Nat) : Int))), (45, .int .i64 (((o : Nat) : Int))), (44, ptr b1 (0 + 3)), (43, .int .i64 (((i : Nat) : Int))), (42, ptr b1 (0 + 2)), (41, .int .i64 (((n : Nat) : Int))), (40, ptr b1 (0 + 1)), (39, .int .i64 (((m : Nat) : Int))), (38, .slice (some ⟨b, 0, none⟩) (m) (m)), (37, ptr b1 (0 + 4)), (0, .agg (tenC (p : Int) (n : Int) (i : Int) (o : Int) (.slice (some ⟨b, 0, none⟩) m m))), (1, ptr b1 (0)), (5, ptr b1 (0 + 0)), (6, .int .i64 (((p : Nat) : Int))), (7, .bool (decide (primeP (((p : Nat) : Int))))), (8, .bool (false)), (9, .bool (false)), (10, ptr b1 (0 + 1)), (11, .int .i64 (((n : Nat) : Int))), (12, .bool (false)), (13, .bool (false)), (14, .bool (false)), (15, ptr b1 (0 + 1)), (16, .int .i64 (((n : Nat) : Int))), (17, .bool (decide (6 < (((n : Nat) : Int) : Int)))), (18, .bool (decide (6 < (((n : Nat) : Int) : Int)))), (19, ptr b1 (0 + 2)), (20, .int .i64 (((i : Nat) : Int))), (21, .bool (false)), (22, .bool (false)), (23, ptr b1 (0 + 3)), (24, .int .i64 (((o : Nat) : Int))), (25, .bool (false)), (26, .bool (false)), (27, .bool (false)), (28, ptr b1 (0 + 1)), (29, .int .i64 (((n : Nat) : Int))), (30, ptr b1 (0 + 2)), (31, .int .i64 (((i : Nat) : Int))), (32, ptr b1 (0 + 3)), (33, .int .i64 (((o : Nat) : Int))), (34, .bool (decide (wl (n) (i) (o)))), (35, .bool (decide (¬ (wl (n) (i) (o))))), (36, .bool (decide (¬ (wl (n) (i) (o))))), (48, .bool (decide ((((m : Nat) : Int) : Int) ≠ (((n) ^ (i + o) : Nat) : Int)))), (49, ptr b1 (0 + 4)), (50, .slice (some ⟨b, 0, none⟩) (m) (m)), (51, .int .i64 (((m : Nat) : Int))), (52, .int .i64 (((kk : Nat) : Int)))] ∧ Mem w w' [some (b1, tenC (p : Int) (n : Int) (i : Int) (o : Int) (.slice (some ⟨b, 0, none⟩) m m))] [(b, numI m g)]) (fun kk => m - kk) 0 ?_ ?_
                ·
                  refine ⟨by omega, fun c hc => absurd hc (by omega), hF.sub _ (by repeat' constructor), ?_⟩
                  exact hM
                ·
                  clear hF hM
                  rintro gk a w' ⟨hgk, hinv1, hF, hM⟩
                  refine sq ?_
                  refine wp_region_lit ?_
                  refine st hF (g_lss hF rfl rfl) rfl fun a hF => ?_
                  refine wpList_nil ?_
                  refine tN ?_
                  refine sq ?_
                  refine c_cond hF rfl (fun h9 => ?_) (fun h9 => ?_)
                  ·
                    refine wp_skip ?_
                    refine tN ?_
                    refine sq ?_
                    refine wp_block ?_
                    refine sq ?_
                    refine wp_region_lit ?_
                    refine st hF (g_indexSl (i := gk) ty_sl_22 hF rfl rfl rfl (by omega)) rfl fun a hF => st hF (g_load ty_on_2 hF rfl (hM.fz 0 rfl) (numI_get (k := gk) (by omega) (by omega))) rfl fun a hF => st hF (g_assign hF rfl) rfl fun a hF => ?_
                    refine wpList_nil ?_
                    refine tN ?_
                    refine sq ?_
                    refine wp_region_lit ?_
                    refine st hF (g_move hF rfl) rfl fun a hF => st hF (g_lss hF rfl rfl) rfl fun a hF => st hF (g_move hF rfl) rfl fun a hF => ?_
                    by_cases g10 : (g (gk) : Int) < 0
                    ·
                      first | rw [decide_eq_true g10] at hF | simp only [decide_eq_true g10] at hF
                      refine stS hF rfl rfl rfl rfl rfl fun a hF => stS hF rfl rfl rfl rfl rfl fun a hF => stS hF rfl rfl rfl rfl rfl fun a hF => stS hF rfl rfl rfl rfl rfl fun a hF => st hF (g_pickT hF rfl rfl) rfl fun a hF => ?_
                      refine wpList_nil ?_
                      refine tN ?_
                      refine c_T hF rfl ?_
                      refine sq ?_
                      refine wp_region_lit ?_
                      refine st hF (g_assign hF rfl) rfl fun a hF => ?_
                      refine wpList_nil ?_
                      refine tN ?_
                      refine wp_ret ?_
                      refine iR ?_
                      refine tR ?_
                      refine tR ?_
                      refine iR ?_
                      refine tR ?_
                      refine fin1 rfl hF.defers (res_tmp hF rfl) ⟨_, rfl, hM.below, ?_⟩
                      show _ = _
                      exact bool_f (fun hq => by have := hq.2.2 gk (by omega); omega)
                    ·
                      first | rw [decide_eq_false g10] at hF | simp only [decide_eq_false g10] at hF
                      refine stY hF rfl rfl rfl (g_move hF rfl) rfl fun a hF => stY hF rfl rfl rfl (g_fieldAddr ty_fo_27_0 hF rfl) rfl fun a hF => stY hF rfl rfl rfl (g_load ty_on_2 hF rfl (hM.row 0 rfl) (tenC_0 (by omega))) rfl fun a hF => stY hF rfl rfl rfl (g_geq hF rfl rfl) rfl fun a hF => st hF (g_pickF hF rfl rfl) rfl fun a hF => ?_
                      refine wpList_nil ?_
                      refine tN ?_
                      refine c_cond hF rfl (fun h12 => ?_) (fun h12 => ?_)
                      ·
                        refine sq ?_
                        refine wp_region_lit ?_
                        refine st hF (g_assign hF rfl) rfl fun a hF => ?_
                        refine wpList_nil ?_
                        refine tN ?_
                        refine wp_ret ?_
                        refine iR ?_
                        refine tR ?_
                        refine tR ?_
                        refine iR ?_
                        refine tR ?_
                        refine fin1 rfl hF.defers (res_tmp hF rfl) ⟨_, rfl, hM.below, ?_⟩
                        show _ = _
                        exact bool_f (fun hq => by have := hq.2.2 gk (by omega); omega)
                      ·
                        refine wp_skip ?_
                        refine iN ?_
                        refine tN ?_
                        refine wp_region_lit ?_
                        refine st hF (g_add hF rfl rfl (add_nat (gk) (1) (by omega))) rfl fun a hF => st hF (g_move hF rfl) rfl fun a hF => ?_
                        refine wpList_nil ?_
                        refine tN ?_
                        refine ⟨gk + 1, ⟨by omega, allS hinv1 (by omega), hF.sub _ (by repeat' constructor), ?_⟩, by omega⟩
                        exact hM
                  ·
                    obtain rfl : m = gk := by omega
                    refine wp_exit ?_
                    refine tX ?_
                    refine tX ?_
                    refine ib_same ?_
                    refine tN ?_
                    refine sq ?_
                    refine wp_region_lit ?_
                    refine st hF (g_assign hF rfl) rfl fun a hF => ?_
                    refine wpList_nil ?_
                    refine tN ?_
                    refine wp_ret ?_
                    refine fin1 rfl hF.defers (res_tmp hF rfl) ⟨_, rfl, hM.below, ?_⟩
                    show _ = _
                    exact bool_t ⟨Decidable.not_not.1 (by assumption), by omega, hinv1⟩

theorem l03Is_1 (p n i o : Int) (b m : Nat) (g : Nat → Int) (w : World) (hb : Blk w b (numI m g)) (hm : m < 10000000) (hA : ¬ tenH p n i o) :
    CallsR Try.prog 40 #[.agg (tenC p n i o (.slice (some ⟨b, 0, none⟩) m m))] w (fun res _ => res = .bool false) := by
  refine calls_fr [.agg (tenC p n i o (.slice (some ⟨b, 0, none⟩) m m))] Try.func40 rfl Try.ntmps40 rfl fun a hF => ?_
  have hM : Mem w w [none] [(b, numI m g)] := MemX.startD w 1 _ (startD1 hb)
  change Fr 61 a [(0, .agg (tenC p n i o (.slice (some ⟨b, 0, none⟩) m m)))] at hF
  refine sq ?_
  refine wp_region_lit ?_
  refine stR hF (d_box 0 hM hF rfl) rfl ?_
  rintro _ w' a ⟨b1, rfl, hM, -⟩ hF
  change Mem w w' [some (b1, tenC p n i o (.slice (some ⟨b, 0, none⟩) m m))] [(b, numI m g)] at hM
  refine st hF (g_assign hF rfl) rfl fun a hF => ?_
  refine wpList_nil ?_
  refine tN ?_
  refine sq ?_
  refine sq ?_
  refine wp_region_lit ?_
  refine st hF (g_fieldAddr ty_fo_27_0 hF rfl) rfl fun a hF => st hF (g_load ty_on_2 hF rfl (hM.row 0 rfl) (tenC_0 (by omega))) rfl fun a hF => ?_
  refine stR hF (d_call Try.call76 hF (.cons rfl .nil) (l01Prime_ok (p) _)) rfl ?_
  rintro _ w' a ⟨hx, rfl⟩ hF
  have hM := hM.ext hx
  refine st hF (g_notP hF rfl) rfl fun a hF => st hF (g_move hF rfl) rfl fun a hF => ?_
  by_cases g2 : ¬ (primeP (p))
  ·
    first | rw [decide_eq_true g2] at hF | simp only [decide_eq_true g2] at hF
    refine stS hF rfl rfl rfl rfl rfl fun a hF => stS hF rfl rfl rfl rfl rfl fun a hF => stS hF rfl rfl rfl rfl rfl fun a hF => stS hF rfl rfl rfl rfl rfl fun a hF => st hF (g_pickT hF rfl rfl) rfl fun a hF => st hF (g_move hF rfl) rfl fun a hF => stS hF rfl rfl rfl rfl rfl fun a hF => stS hF rfl rfl rfl rfl rfl fun a hF => stS hF rfl rfl rfl rfl rfl fun a hF => stS hF rfl rfl rfl rfl rfl fun a hF => st hF (g_pickT hF rfl rfl) rfl fun a hF => st hF (g_move hF rfl) rfl fun a hF => stS hF rfl rfl rfl rfl rfl fun a hF => stS hF rfl rfl rfl rfl rfl fun a hF => stS hF rfl rfl rfl rfl rfl fun a hF => stS hF rfl rfl rfl rfl rfl fun a hF => st hF (g_pickT hF rfl rfl) rfl fun a hF => ?_
    refine wpList_nil ?_
    refine tN ?_
    refine c_T hF rfl ?_
    refine sq ?_
    refine wp_region_lit ?_
    refine st hF (g_assign hF rfl) rfl fun a hF => ?_
    refine wpList_nil ?_
    refine tN ?_
    refine wp_ret ?_
    refine tR ?_
    refine fin1 rfl hF.defers (res_tmp hF rfl) ⟨_, rfl, hM.below, ?_⟩
    show _ = _
    rfl
  ·
    first | rw [decide_eq_false g2] at hF | simp only [decide_eq_false g2] at hF
    refine stY hF rfl rfl rfl (g_fieldAddr ty_fo_27_1 hF rfl) rfl fun a hF => stY hF rfl rfl rfl (g_load ty_on_2 hF rfl (hM.row 0 rfl) (tenC_1 (by omega))) rfl fun a hF => ?_
    refine stYR hF rfl rfl rfl (d_call Try.call46 hF (.cons rfl (.cons rfl (.cons rfl .nil))) (l01In_ok (n) (1) (6) _)) rfl ?_
    rintro _ w' a ⟨hx, rfl⟩ hF
    have hM := hM.ext hx
    refine stY hF rfl rfl rfl (g_notP hF rfl) rfl fun a hF => st hF (g_pickF hF rfl rfl) rfl fun a hF => st hF (g_move hF rfl) rfl fun a hF => ?_
    by_cases g4 : ¬ ((1 : Int) ≤ n ∧ n ≤ 6)
    ·
      first | rw [decide_eq_true g4] at hF | simp only [decide_eq_true g4] at hF
      refine stS hF rfl rfl rfl rfl rfl fun a hF => stS hF rfl rfl rfl rfl rfl fun a hF => stS hF rfl rfl rfl rfl rfl fun a hF => stS hF rfl rfl rfl rfl rfl fun a hF => st hF (g_pickT hF rfl rfl) rfl fun a hF => st hF (g_move hF rfl) rfl fun a hF => stS hF rfl rfl rfl rfl rfl fun a hF => stS hF rfl rfl rfl rfl rfl fun a hF => stS hF rfl rfl rfl rfl rfl fun a hF => stS hF rfl rfl rfl rfl rfl fun a hF => st hF (g_pickT hF rfl rfl) rfl fun a hF => ?_
      refine wpList_nil ?_
      refine tN ?_
      refine c_T hF rfl ?_
      refine sq ?_
      refine wp_region_lit ?_
      refine st hF (g_assign hF rfl) rfl fun a hF => ?_
      refine wpList_nil ?_
      refine tN ?_
      refine wp_ret ?_
      refine tR ?_
      refine fin1 rfl hF.defers (res_tmp hF rfl) ⟨_, rfl, hM.below, ?_⟩
      show _ = _
      rfl
    ·
      first | rw [decide_eq_false g4] at hF | simp only [decide_eq_false g4] at hF
      refine stY hF rfl rfl rfl (g_fieldAddr ty_fo_27_2 hF rfl) rfl fun a hF => stY hF rfl rfl rfl (g_load ty_on_2 hF rfl (hM.row 0 rfl) (tenC_2 (by omega))) rfl fun a hF => ?_
      refine stYR hF rfl rfl rfl (d_call Try.call46 hF (.cons rfl (.cons rfl (.cons rfl .nil))) (l01In_ok (i) (0) (8) _)) rfl ?_
      rintro _ w' a ⟨hx, rfl⟩ hF
      have hM := hM.ext hx
      refine stY hF rfl rfl rfl (g_notP hF rfl) rfl fun a hF => st hF (g_pickF hF rfl rfl) rfl fun a hF => st hF (g_move hF rfl) rfl fun a hF => ?_
      by_cases g6 : ¬ ((0 : Int) ≤ i ∧ i ≤ 8)
      ·
        first | rw [decide_eq_true g6] at hF | simp only [decide_eq_true g6] at hF
        refine stS hF rfl rfl rfl rfl rfl fun a hF => stS hF rfl rfl rfl rfl rfl fun a hF => stS hF rfl rfl rfl rfl rfl fun a hF => stS hF rfl rfl rfl rfl rfl fun a hF => st hF (g_pickT hF rfl rfl) rfl fun a hF => ?_
        refine wpList_nil ?_
        refine tN ?_
        refine c_T hF rfl ?_
        refine sq ?_
        refine wp_region_lit ?_
        refine st hF (g_assign hF rfl) rfl fun a hF => ?_
        refine wpList_nil ?_
        refine tN ?_
        refine wp_ret ?_
        refine tR ?_
        refine fin1 rfl hF.defers (res_tmp hF rfl) ⟨_, rfl, hM.below, ?_⟩
        show _ = _
        rfl
      ·
        first | rw [decide_eq_false g6] at hF | simp only [decide_eq_false g6] at hF
        refine stY hF rfl rfl rfl (g_fieldAddr ty_fo_27_3 hF rfl) rfl fun a hF => stY hF rfl rfl rfl (g_load ty_on_2 hF rfl (hM.row 0 rfl) (tenC_3 (by omega))) rfl fun a hF => ?_
        refine stYR hF rfl rfl rfl (d_call Try.call46 hF (.cons rfl (.cons rfl (.cons rfl .nil))) (l01In_ok (o) (0) (8) _)) rfl ?_
        rintro _ w' a ⟨hx, rfl⟩ hF
        have hM := hM.ext hx
        refine stY hF rfl rfl rfl (g_notP hF rfl) rfl fun a hF => st hF (g_pickF hF rfl rfl) rfl fun a hF => ?_
        refine wpList_nil ?_
        refine tN ?_
        refine c_cond hF rfl (fun h8 => ?_) (fun h8 => ?_)
        ·
          refine sq ?_
          refine wp_region_lit ?_
          refine st hF (g_assign hF rfl) rfl fun a hF => ?_
          refine wpList_nil ?_
          refine tN ?_
          refine wp_ret ?_
          refine tR ?_
          refine fin1 rfl hF.defers (res_tmp hF rfl) ⟨_, rfl, hM.below, ?_⟩
          show _ = _
          rfl
        ·
          exact absurd ⟨Decidable.not_not.1 (by assumption), by omega, by omega, by omega⟩ hA

theorem l03Is_2 (p n i o b m : Nat) (g : Nat → Int) (w : World) (hb : Blk w b (numI m g)) (hm : m < 10000000) (hpP : primeP (p : Int)) (hn0 : 0 < n) (hn : n ≤ 6) (hi : i ≤ 8) (ho : o ≤ 8) :
    CallsR Try.prog 40 #[.agg (tenC (p : Int) (n : Int) (i : Int) (o : Int) (.slice (some ⟨b, 0, none⟩) m m))] w (fun res _ => res = .bool (decide (n ^ (i + o) ≤ 1296 ∧ m = n ^ (i + o) ∧ NumP p m g))) := by
  refine calls_fr [.agg (tenC (p : Int) (n : Int) (i : Int) (o : Int) (.slice (some ⟨b, 0, none⟩) m m))] Try.func40 rfl Try.ntmps40 rfl fun a hF => ?_
  have hM : Mem w w [none] [(b, numI m g)] := MemX.startD w 1 _ (startD1 hb)
  change Fr 61 a [(0, .agg (tenC (p : Int) (n : Int) (i : Int) (o : Int) (.slice (some ⟨b, 0, none⟩) m m)))] at hF
  have hpw := pwr_iff (n := n) (k := i + o) hn0
  have hpe : n ^ (i + o) ≤ 1296 → pwr n (i + o) 1 = n ^ (i + o) := pwr_le hn0
  have hp0 : 0 < p := by have h := hpP; unfold primeP at h; omega
  have hp2 : p < 100 := by have h := hpP; unfold primeP at h; omega
  refine sq ?_
  refine wp_region_lit ?_
  refine stR hF (d_box 0 hM hF rfl) rfl ?_
  rintro _ w' a ⟨b1, rfl, hM, -⟩ hF
  change Mem w w' [some (b1, tenC (p : Int) (n : Int) (i : Int) (o : Int) (.slice (some ⟨b, 0, none⟩) m m))] [(b, numI m g)] at hM
  refine st hF (g_assign hF rfl) rfl fun a hF => ?_
  refine wpList_nil ?_
  refine tN ?_
  refine sq ?_
  refine sq ?_
  refine wp_region_lit ?_
  refine st hF (g_fieldAddr ty_fo_27_0 hF rfl) rfl fun a hF => st hF (g_load ty_on_2 hF rfl (hM.row 0 rfl) (tenC_0 (by omega))) rfl fun a hF => ?_
  refine stR hF (d_call Try.call76 hF (.cons rfl .nil) (l01Prime_ok (((p : Nat) : Int)) _)) rfl ?_
  rintro _ w' a ⟨hx, rfl⟩ hF
  have hM := hM.ext hx
  refine st hF (g_notP hF rfl) rfl fun a hF => st hF (g_move hF rfl) rfl fun a hF => ?_
  by_cases g2 : ¬ (primeP (((p : Nat) : Int)))
  ·
    first | rw [decide_eq_true g2] at hF | simp only [decide_eq_true g2] at hF
    first | exact absurd hpP g2 | (exfalso; omega)
  ·
    first | rw [decide_eq_false g2] at hF | simp only [decide_eq_false g2] at hF
    refine stY hF rfl rfl rfl (g_fieldAddr ty_fo_27_1 hF rfl) rfl fun a hF => stY hF rfl rfl rfl (g_load ty_on_2 hF rfl (hM.row 0 rfl) (tenC_1 (by omega))) rfl fun a hF => ?_
    refine stYR hF rfl rfl rfl (d_call Try.call46 hF (.cons rfl (.cons rfl (.cons rfl .nil))) (l01In_ok (((n : Nat) : Int)) (1) (6) _)) rfl ?_
    rintro _ w' a ⟨hx, rfl⟩ hF
    have hM := hM.ext hx
    refine stY hF rfl rfl rfl (g_notP hF rfl) rfl fun a hF => st hF (g_pickF hF rfl rfl) rfl fun a hF => st hF (g_move hF rfl) rfl fun a hF => ?_
    by_cases g3 : ¬ ((1 : Int) ≤ ((n : Nat) : Int) ∧ ((n : Nat) : Int) ≤ 6)
    ·
      first | rw [decide_eq_true g3] at hF | simp only [decide_eq_true g3] at hF
      first | exact absurd hpP g3 | (exfalso; omega)
    ·
      first | rw [decide_eq_false g3] at hF | simp only [decide_eq_false g3] at hF
      refine stY hF rfl rfl rfl (g_fieldAddr ty_fo_27_2 hF rfl) rfl fun a hF => stY hF rfl rfl rfl (g_load ty_on_2 hF rfl (hM.row 0 rfl) (tenC_2 (by omega))) rfl fun a hF => ?_
      refine stYR hF rfl rfl rfl (d_call Try.call46 hF (.cons rfl (.cons rfl (.cons rfl .nil))) (l01In_ok (((i : Nat) : Int)) (0) (8) _)) rfl ?_
      rintro _ w' a ⟨hx, rfl⟩ hF
      have hM := hM.ext hx
      refine stY hF rfl rfl rfl (g_notP hF rfl) rfl fun a hF => st hF (g_pickF hF rfl rfl) rfl fun a hF => st hF (g_move hF rfl) rfl fun a hF => ?_
      by_cases g4 : ¬ ((0 : Int) ≤ ((i : Nat) : Int) ∧ ((i : Nat) : Int) ≤ 8)
      ·
        first | rw [decide_eq_true g4] at hF | simp only [decide_eq_true g4] at hF
        first | exact absurd hpP g4 | (exfalso; omega)
      ·
        first | rw [decide_eq_false g4] at hF | simp only [decide_eq_false g4] at hF
        refine stY hF rfl rfl rfl (g_fieldAddr ty_fo_27_3 hF rfl) rfl fun a hF => stY hF rfl rfl rfl (g_load ty_on_2 hF rfl (hM.row 0 rfl) (tenC_3 (by omega))) rfl fun a hF => ?_
        refine stYR hF rfl rfl rfl (d_call Try.call46 hF (.cons rfl (.cons rfl (.cons rfl .nil))) (l01In_ok (((o : Nat) : Int)) (0) (8) _)) rfl ?_
        rintro _ w' a ⟨hx, rfl⟩ hF
        have hM := hM.ext hx
        refine stY hF rfl rfl rfl (g_notP hF rfl) rfl fun a hF => st hF (g_pickF hF rfl rfl) rfl fun a hF => ?_
        refine wpList_nil ?_
        refine tN ?_
        refine c_cond hF rfl (fun h5 => ?_) (fun h5 => ?_)
        ·
          exfalso; omega
        ·
          refine wp_skip ?_
          refine tN ?_
          refine sq ?_
          refine wp_region_lit ?_
          refine st hF (g_fieldAddr ty_fo_27_1 hF rfl) rfl fun a hF => st hF (g_load ty_on_2 hF rfl (hM.row 0 rfl) (tenC_1 (by omega))) rfl fun a hF => st hF (g_fieldAddr ty_fo_27_2 hF rfl) rfl fun a hF => st hF (g_load ty_on_2 hF rfl (hM.row 0 rfl) (tenC_2 (by omega))) rfl fun a hF => st hF (g_fieldAddr ty_fo_27_3 hF rfl) rfl fun a hF => st hF (g_load ty_on_2 hF rfl (hM.row 0 rfl) (tenC_3 (by omega))) rfl fun a hF => st hF (g_add hF rfl rfl (add_nat (i) (o) (by omega))) rfl fun a hF => ?_
          refine stR hF (d_call Try.call68 hF (.cons rfl (.cons rfl .nil)) (l03Power_ok (n) (i + o) _ (by omega) (by omega) (by omega))) rfl ?_
          rintro _ w' a ⟨hx, rfl⟩ hF
          have hM := hM.ext hx
          refine st hF (g_assign hF rfl) rfl fun a hF => ?_
          refine wpList_nil ?_
          refine tN ?_
          refine sq ?_
          refine sq ?_
          refine wp_region_lit ?_
          refine st hF (g_move hF rfl) rfl fun a hF => st hF (g_gtr hF rfl rfl) rfl fun a hF => st hF (g_move hF rfl) rfl fun a hF => ?_
          by_cases g6 : 1296 < (((pwr (n) (i + o) 1 : Nat) : Int) : Int)
          ·
            first | rw [decide_eq_true g6] at hF | simp only [decide_eq_true g6] at hF
            refine stS hF rfl rfl rfl rfl rfl fun a hF => stS hF rfl rfl rfl rfl rfl fun a hF => stS hF rfl rfl rfl rfl rfl fun a hF => stS hF rfl rfl rfl rfl rfl fun a hF => stS hF rfl rfl rfl rfl rfl fun a hF => st hF (g_pickT hF rfl rfl) rfl fun a hF => ?_
            refine wpList_nil ?_
            refine tN ?_
            refine c_T hF rfl ?_
            refine sq ?_
            refine wp_region_lit ?_
            refine st hF (g_assign hF rfl) rfl fun a hF => ?_
            refine wpList_nil ?_
            refine tN ?_
            refine wp_ret ?_
            refine tR ?_
            refine fin1 rfl hF.defers (res_tmp hF rfl) ⟨_, rfl, hM.below, ?_⟩
            show _ = _
            exact bool_f (fun hq => by have h1 := hq.1; omega)
          ·
            first | rw [decide_eq_false g6] at hF | simp only [decide_eq_false g6] at hF
            refine stY hF rfl rfl rfl (g_fieldAddr ty_fo_27_4 hF rfl) rfl fun a hF => stY hF rfl rfl rfl (g_load ty_on_22 hF rfl (hM.row 0 rfl) (tenC_4 (by omega))) rfl fun a hF => stY hF rfl rfl rfl (g_len ty_us_22 hF rfl) rfl fun a hF => stY hF rfl rfl rfl (g_move hF rfl) rfl fun a hF => stY hF rfl rfl rfl (g_neq hF rfl rfl) rfl fun a hF => st hF (g_pickF hF rfl rfl) rfl fun a hF => ?_
            refine wpList_nil ?_
            refine tN ?_
            refine c_cond hF rfl (fun h8 => ?_) (fun h8 => ?_)
            ·
              refine sq ?_
              refine wp_region_lit ?_
              refine st hF (g_assign hF rfl) rfl fun a hF => ?_
              refine wpList_nil ?_
              refine tN ?_
              refine wp_ret ?_
              refine tR ?_
              refine fin1 rfl hF.defers (res_tmp hF rfl) ⟨_, rfl, hM.below, ?_⟩
              show _ = _
              exact bool_f (fun hq => by have h1 := hq.1; have h2 := hq.2.1; omega)
            ·
              refine wp_skip ?_
              refine tN ?_
              refine sq ?_
              refine sq ?_
              refine wp_region_lit ?_
              refine st hF (g_assign hF rfl) rfl fun a hF => ?_
              refine wpList_nil ?_
              refine tN ?_
              refine wp_block ?_
              change Mem w _ [some (b1, tenC (p : Int) (n : Int) (i : Int) (o : Int) (.slice (some ⟨b, 0, none⟩) m m))] [(b, numI m g)] at hM
              refine c_loop (fun (kk : Nat) a w' => kk ≤ m ∧ (∀ c, c < kk → 0 ≤ g c ∧ g c < (p : Int)) ∧ Fr 61 a [(0, .agg (tenC (p : Int) (n : Int) (i : Int) (o : Int) (.slice (some ⟨b, 0, none⟩) m m))), (1, ptr b1 (0)), (5, ptr b1 (0 + 0)), (6, .int .i64 (((p : Nat) : Int))), (7, .bool (decide (primeP (((p : Nat) : Int))))), (8, .bool (false)), (9, .bool (false)), (10, ptr b1 (0 + 1)), (11, .int .i64 (((n : Nat) : Int))), (12, .bool (decide ((1 : Int) ≤ ((n : Nat) : Int) ∧ ((n : Nat) : Int) ≤ 6))), (13, .bool (false)), (14, .bool (false)), (15, .bool (false)), (16, ptr b1 (0 + 2)), (17, .int .i64 (((i : Nat) : Int))), (18, .bool (decide ((0 : Int) ≤ ((i : Nat) : Int) ∧ ((i : Nat) : Int) ≤ 8))), (19, .bool (false)), (20, .bool (false)), (21, .bool (false)), (22, ptr b1 (0 + 3)), (23, .int .i64 (((o : Nat) : Int))), (24, .bool (decide ((0 : Int) ≤ ((o : Nat) : Int) ∧ ((o : Nat) : Int) ≤ 8))), (25, .bool (decide (¬ ((0 : Int) ≤ ((o : Nat) : Int) ∧ ((o : Nat) : Int) ≤ 8)))), (26, .bool (decide (¬ ((0 : Int) ≤ ((o : Nat) : Int) ∧ ((o : Nat) : Int) ≤ 8)))), (27, ptr b1 (0 + 1)), (28, .int .i64 (((n : Nat) : Int))), (29, ptr b1 (0 + 2)), (30, .int .i64 (((i : Nat) : Int))), (31, ptr b1 (0 + 3)), (32, .int .i64 (((o : Nat) : Int))), (33, .int .i64 (((i + o : Nat) : Int))), (34, .int .i64 (((pwr (n) (i + o) 1 : Nat) : Int))), (3, .int .i64 (((pwr (n) (i + o) 1 : Nat) : Int))), (35, .int .i64 (((pwr (n) (i + o) 1 : Nat) : Int))), (36, .bool (false)), (37, .bool (false)), (38, ptr b1 (0 + 4)), (39, .slice (some ⟨b, 0, none⟩) (m) (m)), (40, .int .i64 (((m : Nat) : Int))), (41, .int .i64 (((pwr (n) (i + o) 1 : Nat) : Int))), (42, .bool (decide ((((m : Nat) : Int) : Int) ≠ ((pwr (n) (i + o) 1 : Nat) : Int)))), (43, .bool (decide ((((m : Nat) : Int) : Int) ≠ ((pwr (n) (i + o) 1 : Nat) : Int)))), (4, .int .i64 (((kk : Nat) : Int)))] ∧ Mem w w' [some (b1, tenC (p : Int) (n : Int) (i : Int) (o : Int) (.slice (some ⟨b, 0, none⟩) m m))] [(b, numI m g)]) (fun kk => m - kk) 0 ?_ ?_
              ·
                refine ⟨by omega, fun c hc => absurd hc (by omega), hF.sub _ (by repeat' constructor), ?_⟩
                exact hM
              ·
                clear hF hM
                rintro gk a w' ⟨hgk, hinv1, hF, hM⟩
                refine sq ?_
                refine sq ?_
                refine wp_region_lit ?_
                refine st hF (g_move hF rfl) rfl fun a hF => st hF (g_fieldAddr ty_fo_27_4 hF rfl) rfl fun a hF => st hF (g_load ty_on_22 hF rfl (hM.row 0 rfl) (tenC_4 (by omega))) rfl fun a hF => st hF (g_len ty_us_22 hF rfl) rfl fun a hF => st hF (g_lss hF rfl rfl) rfl fun a hF => ?_
                refine wpList_nil ?_
                refine tN ?_
                refine c_cond hF rfl (fun h9 => ?_) (fun h9 => ?_)
                ·
                  refine wp_skip ?_
                  refine tN ?_
                  refine sq ?_
                  refine wp_block ?_
                  refine sq ?_
                  refine c_par 8 [] [.val (ptr b1 (0 + 4)), .val (.slice (some ⟨b, 0, none⟩) (m) (m)), .val (.int .i64 (((gk : Nat) : Int))), .val (ptr b (0 + (gk) * 1)), .val (.int .i64 (g (gk))), .val (ptr b1 (0 + 0)), .val (.int .i64 (((p : Nat) : Int))), .val (.int .i64 (((p : Nat) : Int) - 1))] hmix rfl hF rfl hM ⟨fun a w gG hF hS hd => by exact par_val hS rfl (g_fieldAddr ty_fo_27_4 hF rfl), fun a w gG hF hS hd => by have hF := hF.ext1 51 (hd 0 rfl rfl); have hM := hS.mem rfl; exact par_val hS rfl (g_load ty_on_22 hF rfl (hM.row 0 rfl) (tenC_4 (by omega))), fun a w gG hF hS hd => by exact par_val hS rfl (g_move hF rfl), fun a w gG hF hS hd => by have hF := hF.ext1 52 (hd 1 rfl rfl); have hF := hF.ext1 53 (hd 2 rfl rfl); exact par_val hS rfl (g_indexSl (i := gk) ty_sl_22 hF rfl rfl rfl (by omega)), fun a w gG hF hS hd => by have hF := hF.ext1 54 (hd 3 rfl rfl); have hM := hS.mem rfl; exact par_val hS rfl (g_load ty_on_2 hF rfl (hM.fz 0 rfl) (numI_get (k := gk) (by omega) (by omega))), fun a w gG hF hS hd => by exact par_val hS rfl (g_fieldAddr ty_fo_27_0 hF rfl), fun a w gG hF hS hd => by have hF := hF.ext1 56 (hd 5 rfl rfl); have hM := hS.mem rfl; exact par_val hS rfl (g_load ty_on_2 hF rfl (hM.row 0 rfl) (tenC_0 (by omega))), fun a w gG hF hS hd => by have hF := hF.ext1 57 (hd 6 rfl rfl); exact par_val hS rfl (g_sub hF rfl rfl (wrap_i64 (by omega) (by omega))), trivial⟩ ?_
                  intro a w' L hF hS hq
                  have hF := hF.ext1 51 (hq 0 rfl rfl)
                  have hF := hF.ext1 52 (hq 1 rfl rfl)
                  have hF := hF.ext1 53 (hq 2 rfl rfl)
                  have hF := hF.ext1 54 (hq 3 rfl rfl)
                  have hF := hF.ext1 55 (hq 4 rfl rfl)
                  have hF := hF.ext1 56 (hq 5 rfl rfl)
                  have hF := hF.ext1 57 (hq 6 rfl rfl)
                  have hF := hF.ext1 58 (hq 7 rfl rfl)
                  have hM := hS.mem rfl
                  change wpList Try.prog _ _ [_, _] _ _
                  refine stR hF (d_call Try.call46 hF (.cons rfl (.cons rfl (.cons rfl .nil))) (l01In_ok (g (gk)) (0) (((p : Nat) : Int) - 1) _)) rfl ?_
                  rintro _ w' a ⟨hx, rfl⟩ hF
                  have hM := hM.ext hx
                  refine st hF (g_notP hF rfl) rfl fun a hF => ?_
                  refine wpList_nil ?_
                  refine tN ?_
                  refine c_cond hF rfl (fun h10 => ?_) (fun h10 => ?_)
                  ·
                    refine sq ?_
                    refine wp_region_lit ?_
                    refine st hF (g_assign hF rfl) rfl fun a hF => ?_
                    refine wpList_nil ?_
                    refine tN ?_
                    refine wp_ret ?_
                    refine iR ?_
                    refine tR ?_
                    refine tR ?_
                    refine iR ?_
                    refine tR ?_
                    refine fin1 rfl hF.defers (res_tmp hF rfl) ⟨_, rfl, hM.below, ?_⟩
                    show _ = _
                    exact bool_f (fun hq => by have := hq.2.2 gk (by omega); omega)
                  ·
                    refine wp_skip ?_
                    refine iN ?_
                    refine tN ?_
                    refine wp_region_lit ?_
                    refine st hF (g_move hF rfl) rfl fun a hF => st hF (g_add hF rfl rfl (add_nat (gk) (1) (by omega))) rfl fun a hF => st hF (g_assign hF rfl) rfl fun a hF => ?_
                    refine wpList_nil ?_
                    refine tN ?_
                    refine ⟨gk + 1, ⟨by omega, allS hinv1 (by omega), hF.sub _ (by repeat' constructor), ?_⟩, by omega⟩
                    exact hM
                ·
                  obtain rfl : m = gk := by omega
                  refine wp_exit ?_
                  refine tX ?_
                  refine tX ?_
                  refine ib_same ?_
                  refine tN ?_
                  refine sq ?_
                  refine wp_region_lit ?_
                  refine st hF (g_assign hF rfl) rfl fun a hF => ?_
                  refine wpList_nil ?_
                  refine tN ?_
                  refine wp_ret ?_
                  refine fin1 rfl hF.defers (res_tmp hF rfl) ⟨_, rfl, hM.below, ?_⟩
                  show _ = _
                  exact bool_t ⟨by omega, by omega, hinv1⟩

theorem IsTensor_ok (p n i o : Int) (b m : Nat) (g : Nat → Int) (w : World) (hb : Blk w b (numI m g)) (hm : m < 10000000) : CallsV Try.prog 16 #[.agg (tenC p n i o (.slice (some ⟨b, 0, none⟩) m m))] w (.bool (decide (TenP p n i o m g))) := by
  by_cases hA : primeP p ∧ 1 ≤ n ∧ n ≤ 6 ∧ 0 ≤ i ∧ 0 ≤ o
  · obtain ⟨hpP, h1, h2, h3, h4⟩ := hA
    obtain ⟨p', rfl⟩ : ∃ q : Nat, p = q := ⟨p.toNat, by have := primeP_pos hpP; omega⟩
    obtain ⟨n', rfl⟩ : ∃ q : Nat, n = q := ⟨n.toNat, by omega⟩
    obtain ⟨i', rfl⟩ : ∃ q : Nat, i = q := ⟨i.toNat, by omega⟩
    obtain ⟨o', rfl⟩ : ∃ q : Nat, o = q := ⟨o.toNat, by omega⟩
    refine CallsR.val (IsTensor_2 p' n' i' o' b m g w hb hm hpP (by omega) (by omega)) (congrArg Value.bool (decide_eq_decide.2 ?_))
    first | unfold TenP tenH NumP wl | unfold TenP tenH NumP
    simp only [Int.toNat_natCast]
    constructor
    · intro h; first | exact ⟨⟨hpP, ⟨by omega, by omega⟩, ⟨by omega, by omega⟩, ⟨by omega, by omega⟩⟩, h.1.2.2, h.2.1, h.2.2⟩ | exact ⟨⟨hpP, ⟨by omega, by omega⟩, ⟨by omega, by omega⟩, ⟨by omega, by omega⟩⟩, h.1, h.2.1, h.2.2⟩
    · intro h; first | exact ⟨⟨by have := h.1.2.2.1; omega, by have := h.1.2.2.2; omega, h.2.1⟩, h.2.2.1, h.2.2.2⟩ | exact ⟨h.2.1, h.2.2.1, h.2.2.2⟩
  · refine CallsR.val (IsTensor_1 p n i o b m g w hb hm hA) (congrArg Value.bool (decide_eq_false (fun h => hA ?_)).symm)
    exact ⟨h.1.1, h.1.2.1.1, h.1.2.1.2, h.1.2.2.1.1, h.1.2.2.2.1⟩

theorem l03Is_ok (p n i o : Int) (b m : Nat) (g : Nat → Int) (w : World) (hb : Blk w b (numI m g)) (hm : m < 10000000) : CallsV Try.prog 40 #[.agg (tenC p n i o (.slice (some ⟨b, 0, none⟩) m m))] w (.bool (decide (TenP p n i o m g))) := by
  by_cases hA : tenH p n i o
  · obtain ⟨hpP, ⟨h1, h2⟩, ⟨h3, h4⟩, h5, h6⟩ := hA
    obtain ⟨p', rfl⟩ : ∃ q : Nat, p = q := ⟨p.toNat, by have := primeP_pos hpP; omega⟩
    obtain ⟨n', rfl⟩ : ∃ q : Nat, n = q := ⟨n.toNat, by omega⟩
    obtain ⟨i', rfl⟩ : ∃ q : Nat, i = q := ⟨i.toNat, by omega⟩
    obtain ⟨o', rfl⟩ : ∃ q : Nat, o = q := ⟨o.toNat, by omega⟩
    refine CallsR.val (l03Is_2 p' n' i' o' b m g w hb hm hpP (by omega) (by omega) (by omega) (by omega)) (congrArg Value.bool (decide_eq_decide.2 ?_))
    first | unfold TenP tenH NumP wl | unfold TenP tenH NumP
    simp only [Int.toNat_natCast]
    constructor
    · intro h; first | exact ⟨⟨hpP, ⟨by omega, by omega⟩, ⟨by omega, by omega⟩, ⟨by omega, by omega⟩⟩, h.1.2.2, h.2.1, h.2.2⟩ | exact ⟨⟨hpP, ⟨by omega, by omega⟩, ⟨by omega, by omega⟩, ⟨by omega, by omega⟩⟩, h.1, h.2.1, h.2.2⟩
    · intro h; first | exact ⟨⟨by have := h.1.2.2.1; omega, by have := h.1.2.2.2; omega, h.2.1⟩, h.2.2.1, h.2.2.2⟩ | exact ⟨h.2.1, h.2.2.1, h.2.2.2⟩
  · refine CallsR.val (l03Is_1 p n i o b m g w hb hm (fun h => hA h)) (congrArg Value.bool (decide_eq_false (fun h => hA ?_)).symm)
    exact h.1

end Go.Proofs.Ythliekalhgafcaa
