/- What functions of the program return, as walks over their operations; no statement of the seat is proved here. -/
import Derived.Test.YthliekalhgafcaaT6
set_option linter.unusedVariables false
set_option linter.unusedSimpArgs false
namespace Go.Proofs.Ythliekalhgafcaa
open Go Go.RowKit Go.Sw Go.Ech
open Classical
theorem ty_ag_24 : aggP Try.prog 24 = some 5 := by kernel_rfl
theorem ty_ub_4 : Try.prog.underlying 4 = some .bool := by kernel_rfl
def tenH (p n i o : Int) : Prop := primeP p ∧ (1 ≤ n ∧ n ≤ 6) ∧ (0 ≤ i ∧ i ≤ 8) ∧ (0 ≤ o ∧ o ≤ 8)
/-- What a tensor is. -/
def TenP (p n i o : Int) (m : Nat) (g : Nat → Int) : Prop := tenH p n i o ∧ n.toNat ^ (i.toNat + o.toNat) ≤ 1296 ∧ m = n.toNat ^ (i.toNat + o.toNat) ∧ ∀ c, c < m → 0 ≤ g c ∧ g c < p
instance (p n i o : Int) (m : Nat) (g : Nat → Int) : Decidable (TenP p n i o m g) := by unfold TenP tenH; infer_instance
def NumP (p : Int) (m : Nat) (g : Nat → Int) : Prop := ∀ c, c < m → 0 ≤ g c ∧ g c < p
instance (p : Int) (m : Nat) (g : Nat → Int) : Decidable (NumP p m g) := by unfold NumP; infer_instance

theorem IsTensor_1 (p n i o : Int) (b m : Nat) (g : Nat → Int) (w : World) (hb : Blk w b (numI m g)) (hm : m < 10000000) (hA : ¬ (primeP p ∧ 1 ≤ n ∧ n ≤ 6 ∧ 0 ≤ i ∧ 0 ≤ o)) :
    CallsR Try.prog 16 #[.agg (tenC p n i o (.slice (some ⟨b, 0, none⟩) m m))] w (fun res _ => res = .bool false) := by
  refine calls_fr [.agg (tenC p n i o (.slice (some ⟨b, 0, none⟩) m m))] Try.func16 rfl Try.ntmps16 rfl fun a hF => ?_
  have hM : Mem w w [none] [(b, numI m g)] := MemX.startD w 1 _ (startD1 hb)
  change Fr 65 a [(0, .agg (tenC p n i o (.slice (some ⟨b, 0, none⟩) m m)))] at hF
  refine sq ?_
  refine wp_region_lit ?_
  refine stR hF (d_box 0 hM hF rfl) rfl ?_
  rintro _ w' a ⟨b1, rfl, hM, -⟩ hF
  change Mem w w' [some (b1, tenC p n i o (.slice (some ⟨b, 0, none⟩) m m))] [(b, numI m g)] at hM
  refine st hF (g_assign hF rfl) rfl fun a hF => ?_
  refine wpList_nil ?_
  refine tN ?_
  refine sq ?_
  refine sq ?_
  refine wp_region_lit ?_
  refine st hF (g_fieldAddr ty_fo_27_0 hF rfl) rfl fun a hF => st hF (g_load ty_on_2 hF rfl (hM.row 0 rfl) (tenC_0 (by omega))) rfl fun a hF => ?_
  refine stR hF (d_call Try.call42 hF (.cons rfl .nil) (isPrime_ok (p) _)) rfl ?_
  rintro _ w' a ⟨hx, rfl⟩ hF
  have hM := hM.ext hx
  refine st hF (g_notP hF rfl) rfl fun a hF => st hF (g_move hF rfl) rfl fun a hF => ?_
  by_cases g2 : ¬ (primeP (p))
  ·
    first | rw [decide_eq_true g2] at hF | simp only [decide_eq_true g2] at hF
    refine stS hF rfl rfl rfl rfl rfl fun a hF => stS hF rfl rfl rfl rfl rfl fun a hF => stS hF rfl rfl rfl rfl rfl fun a hF => st hF (g_pickT hF rfl rfl) rfl fun a hF => st hF (g_move hF rfl) rfl fun a hF => stS hF rfl rfl rfl rfl rfl fun a hF => stS hF rfl rfl rfl rfl rfl fun a hF => stS hF rfl rfl rfl rfl rfl fun a hF => st hF (g_pickT hF rfl rfl) rfl fun a hF => ?_
    refine wpList_nil ?_
    refine tN ?_
    refine c_T hF rfl ?_
    refine sq ?_
    refine wp_region_lit ?_
    refine st hF (g_assign hF rfl) rfl fun a hF => ?_
    refine wpList_nil ?_
    refine tN ?_
    refine wp_ret ?_
    refine tR ?_
    refine fin1 rfl hF.defers (res_tmp hF rfl) ⟨_, rfl, hM.below, ?_⟩
    show _ = _
    rfl
  ·
    first | rw [decide_eq_false g2] at hF | simp only [decide_eq_false g2] at hF
    refine stY hF rfl rfl rfl (g_fieldAddr ty_fo_27_1 hF rfl) rfl fun a hF => stY hF rfl rfl rfl (g_load ty_on_2 hF rfl (hM.row 0 rfl) (tenC_1 (by omega))) rfl fun a hF => stY hF rfl rfl rfl (g_lss hF rfl rfl) rfl fun a hF => st hF (g_pickF hF rfl rfl) rfl fun a hF => st hF (g_move hF rfl) rfl fun a hF => ?_
    by_cases g4 : (n : Int) < 1
    ·
      first | rw [decide_eq_true g4] at hF | simp only [decide_eq_true g4] at hF
      refine stS hF rfl rfl rfl rfl rfl fun a hF => stS hF rfl rfl rfl rfl rfl fun a hF => stS hF rfl rfl rfl rfl rfl fun a hF => st hF (g_pickT hF rfl rfl) rfl fun a hF => ?_
      refine wpList_nil ?_
      refine tN ?_
      refine c_T hF rfl ?_
      refine sq ?_
      refine wp_region_lit ?_
      refine st hF (g_assign hF rfl) rfl fun a hF => ?_
      refine wpList_nil ?_
      refine tN ?_
      refine wp_ret ?_
      refine tR ?_
      refine fin1 rfl hF.defers (res_tmp hF rfl) ⟨_, rfl, hM.below, ?_⟩
      show _ = _
      rfl
    ·
      first | rw [decide_eq_false g4] at hF | simp only [decide_eq_false g4] at hF
      refine stY hF rfl rfl rfl (g_fieldAddr ty_fo_27_1 hF rfl) rfl fun a hF => stY hF rfl rfl rfl (g_load ty_on_2 hF rfl (hM.row 0 rfl) (tenC_1 (by omega))) rfl fun a hF => stY hF rfl rfl rfl (g_gtr hF rfl rfl) rfl fun a hF => st hF (g_pickF hF rfl rfl) rfl fun a hF => ?_
      refine wpList_nil ?_
      refine tN ?_
      refine c_cond hF rfl (fun h6 => ?_) (fun h6 => ?_)
      ·
        refine sq ?_
        refine wp_region_lit ?_
        refine st hF (g_assign hF rfl) rfl fun a hF => ?_
        refine wpList_nil ?_
        refine tN ?_
        refine wp_ret ?_
        refine tR ?_
        refine fin1 rfl hF.defers (res_tmp hF rfl) ⟨_, rfl, hM.below, ?_⟩
        show _ = _
        rfl
      ·
        refine wp_skip ?_
        refine tN ?_
        refine sq ?_
        refine sq ?_
        refine wp_region_lit ?_
        refine st hF (g_fieldAddr ty_fo_27_2 hF rfl) rfl fun a hF => st hF (g_load ty_on_2 hF rfl (hM.row 0 rfl) (tenC_2 (by omega))) rfl fun a hF => st hF (g_lss hF rfl rfl) rfl fun a hF => st hF (g_move hF rfl) rfl fun a hF => ?_
        by_cases g7 : (i : Int) < 0
        ·
          first | rw [decide_eq_true g7] at hF | simp only [decide_eq_true g7] at hF
          refine stS hF rfl rfl rfl rfl rfl fun a hF => stS hF rfl rfl rfl rfl rfl fun a hF => stS hF rfl rfl rfl rfl rfl fun a hF => st hF (g_pickT hF rfl rfl) rfl fun a hF => st hF (g_move hF rfl) rfl fun a hF => stS hF rfl rfl rfl rfl rfl fun a hF => stS hF rfl rfl rfl rfl rfl fun a hF => stS hF rfl rfl rfl rfl rfl fun a hF => stS hF rfl rfl rfl rfl rfl fun a hF => stS hF rfl rfl rfl rfl rfl fun a hF => stS hF rfl rfl rfl rfl rfl fun a hF => stS hF rfl rfl rfl rfl rfl fun a hF => stS hF rfl rfl rfl rfl rfl fun a hF => st hF (g_pickT hF rfl rfl) rfl fun a hF => ?_
          refine wpList_nil ?_
          refine tN ?_
          refine c_T hF rfl ?_
          refine sq ?_
          refine wp_region_lit ?_
          refine st hF (g_assign hF rfl) rfl fun a hF => ?_
          refine wpList_nil ?_
          refine tN ?_
          refine wp_ret ?_
          refine tR ?_
          refine fin1 rfl hF.defers (res_tmp hF rfl) ⟨_, rfl, hM.below, ?_⟩
          show _ = _
          rfl
        ·
          first | rw [decide_eq_false g7] at hF | simp only [decide_eq_false g7] at hF
          refine stY hF rfl rfl rfl (g_fieldAddr ty_fo_27_3 hF rfl) rfl fun a hF => stY hF rfl rfl rfl (g_load ty_on_2 hF rfl (hM.row 0 rfl) (tenC_3 (by omega))) rfl fun a hF => stY hF rfl rfl rfl (g_lss hF rfl rfl) rfl fun a hF => st hF (g_pickF hF rfl rfl) rfl fun a hF => st hF (g_move hF rfl) rfl fun a hF => ?_
          by_cases g9 : (o : Int) < 0
          ·
            first | rw [decide_eq_true g9] at hF | simp only [decide_eq_true g9] at hF
            refine stS hF rfl rfl rfl rfl rfl fun a hF => stS hF rfl rfl rfl rfl rfl fun a hF => stS hF rfl rfl rfl rfl rfl fun a hF => stS hF rfl rfl rfl rfl rfl fun a hF => stS hF rfl rfl rfl rfl rfl fun a hF => stS hF rfl rfl rfl rfl rfl fun a hF => stS hF rfl rfl rfl rfl rfl fun a hF => stS hF rfl rfl rfl rfl rfl fun a hF => st hF (g_pickT hF rfl rfl) rfl fun a hF => ?_
            refine wpList_nil ?_
            refine tN ?_
            refine c_T hF rfl ?_
            refine sq ?_
            refine wp_region_lit ?_
            refine st hF (g_assign hF rfl) rfl fun a hF => ?_
            refine wpList_nil ?_
            refine tN ?_
            refine wp_ret ?_
            refine tR ?_
            refine fin1 rfl hF.defers (res_tmp hF rfl) ⟨_, rfl, hM.below, ?_⟩
            show _ = _
            rfl
          ·
            first | rw [decide_eq_false g9] at hF | simp only [decide_eq_false g9] at hF
            exact absurd ⟨Decidable.not_not.1 (by assumption), by omega, by omega, by omega, by omega⟩ hA

theorem IsTensor_2 (p n i o b m : Nat) (g : Nat → Int) (w : World) (hb : Blk w b (numI m g)) (hm : m < 10000000) (hpP : primeP (p : Int)) (hn0 : 0 < n) (hn : n ≤ 6) :
    CallsR Try.prog 16 #[.agg (tenC (p : Int) (n : Int) (i : Int) (o : Int) (.slice (some ⟨b, 0, none⟩) m m))] w (fun res _ => res = .bool (decide (wl n i o ∧ m = n ^ (i + o) ∧ NumP p m g))) := by
  refine calls_fr [.agg (tenC (p : Int) (n : Int) (i : Int) (o : Int) (.slice (some ⟨b, 0, none⟩) m m))] Try.func16 rfl Try.ntmps16 rfl fun a hF => ?_
  have hM : Mem w w [none] [(b, numI m g)] := MemX.startD w 1 _ (startD1 hb)
  change Fr 65 a [(0, .agg (tenC (p : Int) (n : Int) (i : Int) (o : Int) (.slice (some ⟨b, 0, none⟩) m m)))] at hF
  have hp0 : 0 < p := by have h := hpP; unfold primeP at h; omega
  have hp2 : p < 100 := by have h := hpP; unfold primeP at h; omega
  refine sq ?_
  refine wp_region_lit ?_
  refine stR hF (d_box 0 hM hF rfl) rfl ?_
  rintro _ w' a ⟨b1, rfl, hM, -⟩ hF
  change Mem w w' [some (b1, tenC (p : Int) (n : Int) (i : Int) (o : Int) (.slice (some ⟨b, 0, none⟩) m m))] [(b, numI m g)] at hM
  refine st hF (g_assign hF rfl) rfl fun a hF => ?_
  refine wpList_nil ?_
  refine tN ?_
  refine sq ?_
  refine sq ?_
  refine wp_region_lit ?_
  refine st hF (g_fieldAddr ty_fo_27_0 hF rfl) rfl fun a hF => st hF (g_load ty_on_2 hF rfl (hM.row 0 rfl) (tenC_0 (by omega))) rfl fun a hF => ?_
  refine stR hF (d_call Try.call42 hF (.cons rfl .nil) (isPrime_ok (((p : Nat) : Int)) _)) rfl ?_
  rintro _ w' a ⟨hx, rfl⟩ hF
  have hM := hM.ext hx
  refine st hF (g_notP hF rfl) rfl fun a hF => st hF (g_move hF rfl) rfl fun a hF => ?_
  by_cases g2 : ¬ (primeP (((p : Nat) : Int)))
  ·
    first | rw [decide_eq_true g2] at hF | simp only [decide_eq_true g2] at hF
    first | exact absurd hpP g2 | (exfalso; omega)
  ·
    first | rw [decide_eq_false g2] at hF | simp only [decide_eq_false g2] at hF
    refine stY hF rfl rfl rfl (g_fieldAddr ty_fo_27_1 hF rfl) rfl fun a hF => stY hF rfl rfl rfl (g_load ty_on_2 hF rfl (hM.row 0 rfl) (tenC_1 (by omega))) rfl fun a hF => stY hF rfl rfl rfl (g_lss hF rfl rfl) rfl fun a hF => st hF (g_pickF hF rfl rfl) rfl fun a hF => st hF (g_move hF rfl) rfl fun a hF => ?_
    by_cases g3 : (((n : Nat) : Int) : Int) < 1
    ·
      first | rw [decide_eq_true g3] at hF | simp only [decide_eq_true g3] at hF
      first | exact absurd hpP g3 | (exfalso; omega)
    ·
      first | rw [decide_eq_false g3] at hF | simp only [decide_eq_false g3] at hF
      refine stY hF rfl rfl rfl (g_fieldAddr ty_fo_27_1 hF rfl) rfl fun a hF => stY hF rfl rfl rfl (g_load ty_on_2 hF rfl (hM.row 0 rfl) (tenC_1 (by omega))) rfl fun a hF => stY hF rfl rfl rfl (g_gtr hF rfl rfl) rfl fun a hF => st hF (g_pickF hF rfl rfl) rfl fun a hF => ?_
      refine wpList_nil ?_
      refine tN ?_
      refine c_cond hF rfl (fun h4 => ?_) (fun h4 => ?_)
      ·
        exfalso; omega
      ·
        refine wp_skip ?_
        refine tN ?_
        refine sq ?_
        refine sq ?_
        refine wp_region_lit ?_
        refine st hF (g_fieldAddr ty_fo_27_2 hF rfl) rfl fun a hF => st hF (g_load ty_on_2 hF rfl (hM.row 0 rfl) (tenC_2 (by omega))) rfl fun a hF => st hF (g_lss hF rfl rfl) rfl fun a hF => st hF (g_move hF rfl) rfl fun a hF => ?_
        by_cases g5 : (((i : Nat) : Int) : Int) < 0
        ·
          first | rw [decide_eq_true g5] at hF | simp only [decide_eq_true g5] at hF
          first | exact absurd hpP g5 | (exfalso; omega)
        ·
          first | rw [decide_eq_false g5] at hF | simp only [decide_eq_false g5] at hF
          refine stY hF rfl rfl rfl (g_fieldAddr ty_fo_27_3 hF rfl) rfl fun a hF => stY hF rfl rfl rfl (g_load ty_on_2 hF rfl (hM.row 0 rfl) (tenC_3 (by omega))) rfl fun a hF => stY hF rfl rfl rfl (g_lss hF rfl rfl) rfl fun a hF => st hF (g_pickF hF rfl rfl) rfl fun a hF => st hF (g_move hF rfl) rfl fun a hF => ?_
          by_cases g6 : (((o : Nat) : Int) : Int) < 0
          ·
            first | rw [decide_eq_true g6] at hF | simp only [decide_eq_true g6] at hF
            first | exact absurd hpP g6 | (exfalso; omega)
          ·
            first | rw [decide_eq_false g6] at hF | simp only [decide_eq_false g6] at hF
            refine stY hF rfl rfl rfl (g_fieldAddr ty_fo_27_1 hF rfl) rfl fun a hF => stY hF rfl rfl rfl (g_load ty_on_2 hF rfl (hM.row 0 rfl) (tenC_1 (by omega))) rfl fun a hF => stY hF rfl rfl rfl (g_fieldAddr ty_fo_27_2 hF rfl) rfl fun a hF => stY hF rfl rfl rfl (g_load ty_on_2 hF rfl (hM.row 0 rfl) (tenC_2 (by omega))) rfl fun a hF => stY hF rfl rfl rfl (g_fieldAddr ty_fo_27_3 hF rfl) rfl fun a hF => stY hF rfl rfl rfl (g_load ty_on_2 hF rfl (hM.row 0 rfl) (tenC_3 (by omega))) rfl fun a hF => ?_
            refine stYR hF rfl rfl rfl (d_call Try.call43 hF (.cons rfl (.cons rfl (.cons rfl .nil))) (isWithinLimits_ok (n) (i) (o) _ (by omega))) rfl ?_
            rintro _ w' a ⟨hx, rfl⟩ hF
            have hM := hM.ext hx
            refine stY hF rfl rfl rfl (g_notP hF rfl) rfl fun a hF => st hF (g_pickF hF rfl rfl) rfl fun a hF => ?_
            refine wpList_nil ?_
            refine tN ?_
            refine c_cond hF rfl (fun h7 => ?_) (fun h7 => ?_)
            ·
              refine sq ?_
              refine wp_region_lit ?_
              refine st hF (g_assign hF rfl) rfl fun a hF => ?_
              refine wpList_nil ?_
              refine tN ?_
              refine wp_ret ?_
              refine tR ?_
              refine fin1 rfl hF.defers (res_tmp hF rfl) ⟨_, rfl, hM.below, ?_⟩
              show _ = _
              exact bool_f (fun hq => absurd hq.1 (by assumption))
            ·
              have hwl := Decidable.not_not.1 h7
              have hwl1 := hwl.1
              have hwl2 := hwl.2.1
              have hwl3 := hwl.2.2
              refine wp_skip ?_
              refine tN ?_
              refine sq ?_
              refine sq ?_
              refine c_par 11 [] [.val (ptr b1 (0 + 4)), .val (.slice (some ⟨b, 0, none⟩) (m) (m)), .val (.int .i64 (((m : Nat) : Int))), .val (ptr b1 (0 + 1)), .val (.int .i64 (((n : Nat) : Int))), .val (ptr b1 (0 + 2)), .val (.int .i64 (((i : Nat) : Int))), .val (ptr b1 (0 + 3)), .val (.int .i64 (((o : Nat) : Int))), .val (.int .i64 (((i + o : Nat) : Int))), .val (.int .i64 ((((n) ^ (i + o) : Nat) : Int)))] hmix rfl hF rfl hM ⟨fun a w gG hF hS hd => by exact par_val hS rfl (g_fieldAddr ty_fo_27_4 hF rfl), fun a w gG hF hS hd => by have hF := hF.ext1 37 (hd 0 rfl rfl); have hM := hS.mem rfl; exact par_val hS rfl (g_load ty_on_22 hF rfl (hM.row 0 rfl) (tenC_4 (by omega))), fun a w gG hF hS hd => by have hF := hF.ext1 38 (hd 1 rfl rfl); exact par_val hS rfl (g_len ty_us_22 hF rfl), fun a w gG hF hS hd => by exact par_val hS rfl (g_fieldAddr ty_fo_27_1 hF rfl), fun a w gG hF hS hd => by have hF := hF.ext1 40 (hd 3 rfl rfl); have hM := hS.mem rfl; exact par_val hS rfl (g_load ty_on_2 hF rfl (hM.row 0 rfl) (tenC_1 (by omega))), fun a w gG hF hS hd => by exact par_val hS rfl (g_fieldAddr ty_fo_27_2 hF rfl), fun a w gG hF hS hd => by have hF := hF.ext1 42 (hd 5 rfl rfl); have hM := hS.mem rfl; exact par_val hS rfl (g_load ty_on_2 hF rfl (hM.row 0 rfl) (tenC_2 (by omega))), fun a w gG hF hS hd => by exact par_val hS rfl (g_fieldAddr ty_fo_27_3 hF rfl), fun a w gG hF hS hd => by have hF := hF.ext1 44 (hd 7 rfl rfl); have hM := hS.mem rfl; exact par_val hS rfl (g_load ty_on_2 hF rfl (hM.row 0 rfl) (tenC_3 (by omega))), fun a w gG hF hS hd => by have hF := hF.ext1 43 (hd 6 rfl rfl); have hF := hF.ext1 45 (hd 8 rfl rfl); exact par_val hS rfl (g_add hF rfl rfl (add_nat (i) (o) (by omega))), fun a w gG hF hS hd => by have hF := hF.ext1 41 (hd 4 rfl rfl); have hF := hF.ext1 46 (hd 9 rfl rfl); exact par_call (by repeat constructor) hS rfl (d_call Try.call44 hF (.cons rfl (.cons rfl .nil)) (countChoices_ok (n) (i + o) _ (by omega) (by omega))), trivial⟩ ?_
              intro a w' L hF hS hq
              have hF := hF.ext1 37 (hq 0 rfl rfl)
              have hF := hF.ext1 38 (hq 1 rfl rfl)
              have hF := hF.ext1 39 (hq 2 rfl rfl)
              have hF := hF.ext1 40 (hq 3 rfl rfl)
              have hF := hF.ext1 41 (hq 4 rfl rfl)
              have hF := hF.ext1 42 (hq 5 rfl rfl)
              have hF := hF.ext1 43 (hq 6 rfl rfl)
              have hF := hF.ext1 44 (hq 7 rfl rfl)
              have hF := hF.ext1 45 (hq 8 rfl rfl)
              have hF := hF.ext1 46 (hq 9 rfl rfl)
              have hF := hF.ext1 47 (hq 10 rfl rfl)
              have hM := hS.mem rfl
              change wpList Try.prog _ _ [_] _ _
              refine st hF (g_neq hF rfl rfl) rfl fun a hF => ?_
              refine wpList_nil ?_
              refine tN ?_
              refine c_cond hF rfl (fun h8 => ?_) (fun h8 => ?_)
              ·
                refine sq ?_
                refine wp_region_lit ?_
                refine st hF (g_assign hF rfl) rfl fun a hF => ?_
                refine wpList_nil ?_
                refine tN ?_
                refine wp_ret ?_
                refine tR ?_
                refine fin1 rfl hF.defers (res_tmp hF rfl) ⟨_, rfl, hM.below, ?_⟩
                show _ = _
                exact bool_f (fun hq => by have := hq.2.1; omega)
              ·
                refine wp_skip ?_
                refine tN ?_
                refine sq ?_
                refine sq ?_
                refine wp_region_lit ?_
                refine st hF (g_fieldAddr ty_fo_27_4 hF rfl) rfl fun a hF => st hF (g_load ty_on_22 hF rfl (hM.row 0 rfl) (tenC_4 (by omega))) rfl fun a hF => st hF (g_len ty_us_22 hF rfl) rfl fun a hF => st hF (g_move hF rfl) rfl fun a hF => ?_
                refine wpList_nil ?_
                refine tN ?_
                refine wp_block ?_
                change Mem w _ [some (b1, tenC (p : Int) (n : Int) (i : Int) (o : Int) (.slice (some ⟨b, 0, none⟩) m m))] [(b, numI m g)] at hM
                refine c_loop (fun (kk : Nat) a w' => kk ≤ m ∧ (∀ c, c < kk → 0 ≤ g c ∧ g c < (p : Int)) ∧ Fr 65 a [(47, .int .i64 ((((n) ^ (i + o) : Nat) : Int))), (46, .int .i64 (((i + o : Nat) : Int))), (45, .int .i64 (((o : Nat) : Int))), (44, ptr b1 (0 + 3)), (43, .int .i64 (((i : Nat) : Int))), (42, ptr b1 (0 + 2)), (41, .int .i64 (((n : Nat) : Int))), (40, ptr b1 (0 + 1)), (39, .int .i64 (((m : Nat) : Int))), (38, .slice (some ⟨b, 0, none⟩) (m) (m)), (37, ptr b1 (0 + 4)), (0, .agg (tenC (p : Int) (n : Int) (i : Int) (o : Int) (.slice (some ⟨b, 0, none⟩) m m))), (1, ptr b1 (0)), (5, ptr b1 (0 + 0)), (6, .int .i64 (((p : Nat) : Int))), (7, .bool (decide (primeP (((p : Nat) : Int))))), (8, .bool (false)), (9, .bool (false)), (10, ptr b1 (0 + 1)), (11, .int .i64 (((n : Nat) : Int))), (12, .bool (false)), (13, .bool (false)), (14, .bool (false)), (15, ptr b1 (0 + 1)), (16, .int .i64 (((n : Nat) : Int))), (17, .bool (decide (6 < (((n : Nat) : Int) : Int)))), (18, .bool (decide (6 < (((n : Nat) : Int) : Int)))), (19, ptr b1 (0 + 2)), (20, .int .i64 (((i : Nat) : Int))), (21, .bool (false)), (22, .bool (false)), (23, ptr b1 (0 + 3)), (24, .int .i64 (((o : Nat) : Int))), (25, .bool (false)), (26, .bool (false)), (27, .bool (false)), (28, ptr b1 (0 + 1)), (29, .int .i64 (((n : Nat) : Int))), (30, ptr b1 (0 + 2)), (31, .int .i64 (((i : Nat) : Int))), (32, ptr b1 (0 + 3)), (33, .int .i64 (((o : Nat) : Int))), (34, .bool (decide (wl (n) (i) (o)))), (35, .bool (decide (¬ (wl (n) (i) (o))))), (36, .bool (decide (¬ (wl (n) (i) (o))))), (48, .bool (decide ((((m : Nat) : Int) : Int) ≠ (((n) ^ (i + o) : Nat) : Int)))), (49, ptr b1 (0 + 4)), (50, .slice (some ⟨b, 0, none⟩) (m) (m)), (51, .int .i64 (((m : Nat) : Int))), (52, .int .i64 (((kk : Nat) : Int)))] ∧ Mem w w' [some (b1, tenC (p : Int) (n : Int) (i : Int) (o : Int) (.slice (some ⟨b, 0, none⟩) m m))] [(b, numI m g)]) (fun kk => m - kk) 0 ?_ ?_
                ·
                  refine ⟨by omega, fun c hc => absurd hc (by omega), hF.sub _ (by repeat' constructor), ?_⟩
                  exact hM
                ·
                  clear hF hM
                  rintro gk a w' ⟨hgk, hinv1, hF, hM⟩
                  refine sq ?_
                  refine wp_region_lit ?_
                  refine st hF (g_lss hF rfl rfl) rfl fun a hF => ?_
                  refine wpList_nil ?_
                  refine tN ?_
                  refine sq ?_
                  refine c_cond hF rfl (fun h9 => ?_) (fun h9 => ?_)
                  ·
                    refine wp_skip ?_
                    refine tN ?_
                    refine sq ?_
                    refine wp_block ?_
                    refine sq ?_
                    refine wp_region_lit ?_
                    refine st hF (g_indexSl (i := gk) ty_sl_22 hF rfl rfl rfl (by omega)) rfl fun a hF => st hF (g_load ty_on_2 hF rfl (hM.fz 0 rfl) (numI_get (k := gk) (by omega) (by omega))) rfl fun a hF => st hF (g_assign hF rfl) rfl fun a hF => ?_
                    refine wpList_nil ?_
                    refine tN ?_
                    refine sq ?_
                    refine wp_region_lit ?_
                    refine st hF (g_move hF rfl) rfl fun a hF => st hF (g_lss hF rfl rfl) rfl fun a hF => st hF (g_move hF rfl) rfl fun a hF => ?_
                    by_cases g10 : (g (gk) : Int) < 0
                    ·
                      first | rw [decide_eq_true g10] at hF | simp only [decide_eq_true g10] at hF
                      refine stS hF rfl rfl rfl rfl rfl fun a hF => stS hF rfl rfl rfl rfl rfl fun a hF => stS hF rfl rfl rfl rfl rfl fun a hF => stS hF rfl rfl rfl rfl rfl fun a hF => st hF (g_pickT hF rfl rfl) rfl fun a hF => ?_
                      refine wpList_nil ?_
                      refine tN ?_
                      refine c_T hF rfl ?_
                      refine sq ?_
                      refine wp_region_lit ?_
                      refine st hF (g_assign hF rfl) rfl fun a hF => ?_
                      refine wpList_nil ?_
                      refine tN ?_
                      refine wp_ret ?_
                      refine iR ?_
                      refine tR ?_
                      refine tR ?_
                      refine iR ?_
                      refine tR ?_
                      refine fin1 rfl hF.defers (res_tmp hF rfl) ⟨_, rfl, hM.below, ?_⟩
                      show _ = _
                      exact bool_f (fun hq => by have := hq.2.2 gk (by omega); omega)
                    ·
                      first | rw [decide_eq_false g10] at hF | simp only [decide_eq_false g10] at hF
                      refine stY hF rfl rfl rfl (g_move hF rfl) rfl fun a hF => stY hF rfl rfl rfl (g_fieldAddr ty_fo_27_0 hF rfl) rfl fun a hF => stY hF rfl rfl rfl (g_load ty_on_2 hF rfl (hM.row 0 rfl) (tenC_0 (by omega))) rfl fun a hF => stY hF rfl rfl rfl (g_geq hF rfl rfl) rfl fun a hF => st hF (g_pickF hF rfl rfl) rfl fun a hF => ?_
                      refine wpList_nil ?_
                      refine tN ?_
                      refine c_cond hF rfl (fun h12 => ?_) (fun h12 => ?_)
                      ·
                        refine sq ?_
                        refine wp_region_lit ?_
                        refine st hF (g_assign hF rfl) rfl fun a hF => ?_
                        refine wpList_nil ?_
                        refine tN ?_
                        refine wp_ret ?_
                        refine iR ?_
                        refine tR ?_
                        refine tR ?_
                        refine iR ?_
                        refine tR ?_
                        refine fin1 rfl hF.defers (res_tmp hF rfl) ⟨_, rfl, hM.below, ?_⟩
                        show _ = _
                        exact bool_f (fun hq => by have := hq.2.2 gk (by omega); omega)
                      ·
                        refine wp_skip ?_
                        refine iN ?_
                        refine tN ?_
                        refine wp_region_lit ?_
                        refine st hF (g_add hF rfl rfl (add_nat (gk) (1) (by omega))) rfl fun a hF => st hF (g_move hF rfl) rfl fun a hF => ?_
                        refine wpList_nil ?_
                        refine tN ?_
                        refine ⟨gk + 1, ⟨by omega, allS hinv1 (by omega), hF.sub _ (by repeat' constructor), ?_⟩, by omega⟩
                        exact hM
                  ·
                    obtain rfl : m = gk := by omega
                    refine wp_exit ?_
                    refine tX ?_
                    refine tX ?_
                    refine ib_same ?_
                    refine tN ?_
                    refine sq ?_
                    refine wp_region_lit ?_
                    refine st hF (g_assign hF rfl) rfl fun a hF => ?_
                    refine wpList_nil ?_
                    refine tN ?_
                    refine wp_ret ?_
                    refine fin1 rfl hF.defers (res_tmp hF rfl) ⟨_, rfl, hM.below, ?_⟩
                    show _ = _
                    exact bool_t ⟨Decidable.not_not.1 (by assumption), by omega, hinv1⟩

theorem l03Is_1 (p n i o : Int) (b m : Nat) (g : Nat → Int) (w : World) (hb : Blk w b (numI m g)) (hm : m < 10000000) (hA : ¬ tenH p n i o) :
    CallsR Try.prog 40 #[.agg (tenC p n i o (.slice (some ⟨b, 0, none⟩) m m))] w (fun res _ => res = .bool false) := by
  refine calls_fr [.agg (tenC p n i o (.slice (some ⟨b, 0, none⟩) m m))] Try.func40 rfl Try.ntmps40 rfl fun a hF => ?_
  have hM : Mem w w [none] [(b, numI m g)] := MemX.startD w 1 _ (startD1 hb)
  change Fr 61 a [(0, .agg (tenC p n i o (.slice (some ⟨b, 0, none⟩) m m)))] at hF
  refine sq ?_
  refine wp_region_lit ?_
  refine stR hF (d_box 0 hM hF rfl) rfl ?_
  rintro _ w' a ⟨b1, rfl, hM, -⟩ hF
  change Mem w w' [some (b1, tenC p n i o (.slice (some ⟨b, 0, none⟩) m m))] [(b, numI m g)] at hM
  refine st hF (g_assign hF rfl) rfl fun a hF => ?_
  refine wpList_nil ?_
  refine tN ?_
  refine sq ?_
  refine sq ?_
  refine wp_region_lit ?_
  refine st hF (g_fieldAddr ty_fo_27_0 hF rfl) rfl fun a hF => st hF (g_load ty_on_2 hF rfl (hM.row 0 rfl) (tenC_0 (by omega))) rfl fun a hF => ?_
  refine stR hF (d_call Try.call76 hF (.cons rfl .nil) (l01Prime_ok (p) _)) rfl ?_
  rintro _ w' a ⟨hx, rfl⟩ hF
  have hM := hM.ext hx
  refine st hF (g_notP hF rfl) rfl fun a hF => st hF (g_move hF rfl) rfl fun a hF => ?_
  by_cases g2 : ¬ (primeP (p))
  ·
    first | rw [decide_eq_true g2] at hF | simp only [decide_eq_true g2] at hF
    refine stS hF rfl rfl rfl rfl rfl fun a hF => stS hF rfl rfl rfl rfl rfl fun a hF => stS hF rfl rfl rfl rfl rfl fun a hF => stS hF rfl rfl rfl rfl rfl fun a hF => st hF (g_pickT hF rfl rfl) rfl fun a hF => st hF (g_move hF rfl) rfl fun a hF => stS hF rfl rfl rfl rfl rfl fun a hF => stS hF rfl rfl rfl rfl rfl fun a hF => stS hF rfl rfl rfl rfl rfl fun a hF => stS hF rfl rfl rfl rfl rfl fun a hF => st hF (g_pickT hF rfl rfl) rfl fun a hF => st hF (g_move hF rfl) rfl fun a hF => stS hF rfl rfl rfl rfl rfl fun a hF => stS hF rfl rfl rfl rfl rfl fun a hF => stS hF rfl rfl rfl rfl rfl fun a hF => stS hF rfl rfl rfl rfl rfl fun a hF => st hF (g_pickT hF rfl rfl) rfl fun a hF => ?_
    refine wpList_nil ?_
    refine tN ?_
    refine c_T hF rfl ?_
    refine sq ?_
    refine wp_region_lit ?_
    refine st hF (g_assign hF rfl) rfl fun a hF => ?_
    refine wpList_nil ?_
    refine tN ?_
    refine wp_ret ?_
    refine tR ?_
    refine fin1 rfl hF.defers (res_tmp hF rfl) ⟨_, rfl, hM.below, ?_⟩
    show _ = _
    rfl
  ·
    first | rw [decide_eq_false g2] at hF | simp only [decide_eq_false g2] at hF
    refine stY hF rfl rfl rfl (g_fieldAddr ty_fo_27_1 hF rfl) rfl fun a hF => stY hF rfl rfl rfl (g_load ty_on_2 hF rfl (hM.row 0 rfl) (tenC_1 (by omega))) rfl fun a hF => ?_
    refine stYR hF rfl rfl rfl (d_call Try.call46 hF (.cons rfl (.cons rfl (.cons rfl .nil))) (l01In_ok (n) (1) (6) _)) rfl ?_
    rintro _ w' a ⟨hx, rfl⟩ hF
    have hM := hM.ext hx
    refine stY hF rfl rfl rfl (g_notP hF rfl) rfl fun a hF => st hF (g_pickF hF rfl rfl) rfl fun a hF => st hF (g_move hF rfl) rfl fun a hF => ?_
    by_cases g4 : ¬ ((1 : Int) ≤ n ∧ n ≤ 6)
    ·
      first | rw [decide_eq_true g4] at hF | simp only [decide_eq_true g4] at hF
      refine stS hF rfl rfl rfl rfl rfl fun a hF => stS hF rfl rfl rfl rfl rfl fun a hF => stS hF rfl rfl rfl rfl rfl fun a hF => stS hF rfl rfl rfl rfl rfl fun a hF => st hF (g_pickT hF rfl rfl) rfl fun a hF => st hF (g_move hF rfl) rfl fun a hF => stS hF rfl rfl rfl rfl rfl fun a hF => stS hF rfl rfl rfl rfl rfl fun a hF => stS hF rfl rfl rfl rfl rfl fun a hF => stS hF rfl rfl rfl rfl rfl fun a hF => st hF (g_pickT hF rfl rfl) rfl fun a hF => ?_
      refine wpList_nil ?_
      refine tN ?_
      refine c_T hF rfl ?_
      refine sq ?_
      refine wp_region_lit ?_
      refine st hF (g_assign hF rfl) rfl fun a hF => ?_
      refine wpList_nil ?_
      refine tN ?_
      refine wp_ret ?_
      refine tR ?_
      refine fin1 rfl hF.defers (res_tmp hF rfl) ⟨_, rfl, hM.below, ?_⟩
      show _ = _
      rfl
    ·
      first | rw [decide_eq_false g4] at hF | simp only [decide_eq_false g4] at hF
      refine stY hF rfl rfl rfl (g_fieldAddr ty_fo_27_2 hF rfl) rfl fun a hF => stY hF rfl rfl rfl (g_load ty_on_2 hF rfl (hM.row 0 rfl) (tenC_2 (by omega))) rfl fun a hF => ?_
      refine stYR hF rfl rfl rfl (d_call Try.call46 hF (.cons rfl (.cons rfl (.cons rfl .nil))) (l01In_ok (i) (0) (8) _)) rfl ?_
      rintro _ w' a ⟨hx, rfl⟩ hF
      have hM := hM.ext hx
      refine stY hF rfl rfl rfl (g_notP hF rfl) rfl fun a hF => st hF (g_pickF hF rfl rfl) rfl fun a hF => st hF (g_move hF rfl) rfl fun a hF => ?_
      by_cases g6 : ¬ ((0 : Int) ≤ i ∧ i ≤ 8)
      ·
        first | rw [decide_eq_true g6] at hF | simp only [decide_eq_true g6] at hF
        refine stS hF rfl rfl rfl rfl rfl fun a hF => stS hF rfl rfl rfl rfl rfl fun a hF => stS hF rfl rfl rfl rfl rfl fun a hF => stS hF rfl rfl rfl rfl rfl fun a hF => st hF (g_pickT hF rfl rfl) rfl fun a hF => ?_
        refine wpList_nil ?_
        refine tN ?_
        refine c_T hF rfl ?_
        refine sq ?_
        refine wp_region_lit ?_
        refine st hF (g_assign hF rfl) rfl fun a hF => ?_
        refine wpList_nil ?_
        refine tN ?_
        refine wp_ret ?_
        refine tR ?_
        refine fin1 rfl hF.defers (res_tmp hF rfl) ⟨_, rfl, hM.below, ?_⟩
        show _ = _
        rfl
      ·
        first | rw [decide_eq_false g6] at hF | simp only [decide_eq_false g6] at hF
        refine stY hF rfl rfl rfl (g_fieldAddr ty_fo_27_3 hF rfl) rfl fun a hF => stY hF rfl rfl rfl (g_load ty_on_2 hF rfl (hM.row 0 rfl) (tenC_3 (by omega))) rfl fun a hF => ?_
        refine stYR hF rfl rfl rfl (d_call Try.call46 hF (.cons rfl (.cons rfl (.cons rfl .nil))) (l01In_ok (o) (0) (8) _)) rfl ?_
        rintro _ w' a ⟨hx, rfl⟩ hF
        have hM := hM.ext hx
        refine stY hF rfl rfl rfl (g_notP hF rfl) rfl fun a hF => st hF (g_pickF hF rfl rfl) rfl fun a hF => ?_
        refine wpList_nil ?_
        refine tN ?_
        refine c_cond hF rfl (fun h8 => ?_) (fun h8 => ?_)
        ·
          refine sq ?_
          refine wp_region_lit ?_
          refine st hF (g_assign hF rfl) rfl fun a hF => ?_
          refine wpList_nil ?_
          refine tN ?_
          refine wp_ret ?_
          refine tR ?_
          refine fin1 rfl hF.defers (res_tmp hF rfl) ⟨_, rfl, hM.below, ?_⟩
          show _ = _
          rfl
        ·
          exact absurd ⟨Decidable.not_not.1 (by assumption), by omega, by omega, by omega⟩ hA

theorem l03Is_2 (p n i o b m : Nat) (g : Nat → Int) (w : World) (hb : Blk w b (numI m g)) (hm : m < 10000000) (hpP : primeP (p : Int)) (hn0 : 0 < n) (hn : n ≤ 6) (hi : i ≤ 8) (ho : o ≤ 8) :
    CallsR Try.prog 40 #[.agg (tenC (p : Int) (n : Int) (i : Int) (o : Int) (.slice (some ⟨b, 0, none⟩) m m))] w (fun res _ => res = .bool (decide (n ^ (i + o) ≤ 1296 ∧ m = n ^ (i + o) ∧ NumP p m g))) := by
  refine calls_fr [.agg (tenC (p : Int) (n : Int) (i : Int) (o : Int) (.slice (some ⟨b, 0, none⟩) m m))] Try.func40 rfl Try.ntmps40 rfl fun a hF => ?_
  have hM : Mem w w [none] [(b, numI m g)] := MemX.startD w 1 _ (startD1 hb)
  change Fr 61 a [(0, .agg (tenC (p : Int) (n : Int) (i : Int) (o : Int) (.slice (some ⟨b, 0, none⟩) m m)))] at hF
  have hpw := pwr_iff (n := n) (k := i + o) hn0
  have hpe : n ^ (i + o) ≤ 1296 → pwr n (i + o) 1 = n ^ (i + o) := pwr_le hn0
  have hp0 : 0 < p := by have h := hpP; unfold primeP at h; omega
  have hp2 : p < 100 := by have h := hpP; unfold primeP at h; omega
  refine sq ?_
  refine wp_region_lit ?_
  refine stR hF (d_box 0 hM hF rfl) rfl ?_
  rintro _ w' a ⟨b1, rfl, hM, -⟩ hF
  change Mem w w' [some (b1, tenC (p : Int) (n : Int) (i : Int) (o : Int) (.slice (some ⟨b, 0, none⟩) m m))] [(b, numI m g)] at hM
  refine st hF (g_assign hF rfl) rfl fun a hF => ?_
  refine wpList_nil ?_
  refine tN ?_
  refine sq ?_
  refine sq ?_
  refine wp_region_lit ?_
  refine st hF (g_fieldAddr ty_fo_27_0 hF rfl) rfl fun a hF => st hF (g_load ty_on_2 hF rfl (hM.row 0 rfl) (tenC_0 (by omega))) rfl fun a hF => ?_
  refine stR hF (d_call Try.call76 hF (.cons rfl .nil) (l01Prime_ok (((p : Nat) : Int)) _)) rfl ?_
  rintro _ w' a ⟨hx, rfl⟩ hF
  have hM := hM.ext hx
  refine st hF (g_notP hF rfl) rfl fun a hF => st hF (g_move hF rfl) rfl fun a hF => ?_
  by_cases g2 : ¬ (primeP (((p : Nat) : Int)))
  ·
    first | rw [decide_eq_true g2] at hF | simp only [decide_eq_true g2] at hF
    first | exact absurd hpP g2 | (exfalso; omega)
  ·
    first | rw [decide_eq_false g2] at hF | simp only [decide_eq_false g2] at hF
    refine stY hF rfl rfl rfl (g_fieldAddr ty_fo_27_1 hF rfl) rfl fun a hF => stY hF rfl rfl rfl (g_load ty_on_2 hF rfl (hM.row 0 rfl) (tenC_1 (by omega))) rfl fun a hF => ?_
    refine stYR hF rfl rfl rfl (d_call Try.call46 hF (.cons rfl (.cons rfl (.cons rfl .nil))) (l01In_ok (((n : Nat) : Int)) (1) (6) _)) rfl ?_
    rintro _ w' a ⟨hx, rfl⟩ hF
    have hM := hM.ext hx
    refine stY hF rfl rfl rfl (g_notP hF rfl) rfl fun a hF => st hF (g_pickF hF rfl rfl) rfl fun a hF => st hF (g_move hF rfl) rfl fun a hF => ?_
    by_cases g3 : ¬ ((1 : Int) ≤ ((n : Nat) : Int) ∧ ((n : Nat) : Int) ≤ 6)
    ·
      first | rw [decide_eq_true g3] at hF | simp only [decide_eq_true g3] at hF
      first | exact absurd hpP g3 | (exfalso; omega)
    ·
      first | rw [decide_eq_false g3] at hF | simp only [decide_eq_false g3] at hF
      refine stY hF rfl rfl rfl (g_fieldAddr ty_fo_27_2 hF rfl) rfl fun a hF => stY hF rfl rfl rfl (g_load ty_on_2 hF rfl (hM.row 0 rfl) (tenC_2 (by omega))) rfl fun a hF => ?_
      refine stYR hF rfl rfl rfl (d_call Try.call46 hF (.cons rfl (.cons rfl (.cons rfl .nil))) (l01In_ok (((i : Nat) : Int)) (0) (8) _)) rfl ?_
      rintro _ w' a ⟨hx, rfl⟩ hF
      have hM := hM.ext hx
      refine stY hF rfl rfl rfl (g_notP hF rfl) rfl fun a hF => st hF (g_pickF hF rfl rfl) rfl fun a hF => st hF (g_move hF rfl) rfl fun a hF => ?_
      by_cases g4 : ¬ ((0 : Int) ≤ ((i : Nat) : Int) ∧ ((i : Nat) : Int) ≤ 8)
      ·
        first | rw [decide_eq_true g4] at hF | simp only [decide_eq_true g4] at hF
        first | exact absurd hpP g4 | (exfalso; omega)
      ·
        first | rw [decide_eq_false g4] at hF | simp only [decide_eq_false g4] at hF
        refine stY hF rfl rfl rfl (g_fieldAddr ty_fo_27_3 hF rfl) rfl fun a hF => stY hF rfl rfl rfl (g_load ty_on_2 hF rfl (hM.row 0 rfl) (tenC_3 (by omega))) rfl fun a hF => ?_
        refine stYR hF rfl rfl rfl (d_call Try.call46 hF (.cons rfl (.cons rfl (.cons rfl .nil))) (l01In_ok (((o : Nat) : Int)) (0) (8) _)) rfl ?_
        rintro _ w' a ⟨hx, rfl⟩ hF
        have hM := hM.ext hx
        refine stY hF rfl rfl rfl (g_notP hF rfl) rfl fun a hF => st hF (g_pickF hF rfl rfl) rfl fun a hF => ?_
        refine wpList_nil ?_
        refine tN ?_
        refine c_cond hF rfl (fun h5 => ?_) (fun h5 => ?_)
        ·
          exfalso; omega
        ·
          refine wp_skip ?_
          refine tN ?_
          refine sq ?_
          refine wp_region_lit ?_
          refine st hF (g_fieldAddr ty_fo_27_1 hF rfl) rfl fun a hF => st hF (g_load ty_on_2 hF rfl (hM.row 0 rfl) (tenC_1 (by omega))) rfl fun a hF => st hF (g_fieldAddr ty_fo_27_2 hF rfl) rfl fun a hF => st hF (g_load ty_on_2 hF rfl (hM.row 0 rfl) (tenC_2 (by omega))) rfl fun a hF => st hF (g_fieldAddr ty_fo_27_3 hF rfl) rfl fun a hF => st hF (g_load ty_on_2 hF rfl (hM.row 0 rfl) (tenC_3 (by omega))) rfl fun a hF => st hF (g_add hF rfl rfl (add_nat (i) (o) (by omega))) rfl fun a hF => ?_
          refine stR hF (d_call Try.call68 hF (.cons rfl (.cons rfl .nil)) (l03Power_ok (n) (i + o) _ (by omega) (by omega) (by omega))) rfl ?_
          rintro _ w' a ⟨hx, rfl⟩ hF
          have hM := hM.ext hx
          refine st hF (g_assign hF rfl) rfl fun a hF => ?_
          refine wpList_nil ?_
          refine tN ?_
          refine sq ?_
          refine sq ?_
          refine wp_region_lit ?_
          refine st hF (g_move hF rfl) rfl fun a hF => st hF (g_gtr hF rfl rfl) rfl fun a hF => st hF (g_move hF rfl) rfl fun a hF => ?_
          by_cases g6 : 1296 < (((pwr (n) (i + o) 1 : Nat) : Int) : Int)
          ·
            first | rw [decide_eq_true g6] at hF | simp only [decide_eq_true g6] at hF
            refine stS hF rfl rfl rfl rfl rfl fun a hF => stS hF rfl rfl rfl rfl rfl fun a hF => stS hF rfl rfl rfl rfl rfl fun a hF => stS hF rfl rfl rfl rfl rfl fun a hF => stS hF rfl rfl rfl rfl rfl fun a hF => st hF (g_pickT hF rfl rfl) rfl fun a hF => ?_
            refine wpList_nil ?_
            refine tN ?_
            refine c_T hF rfl ?_
            refine sq ?_
            refine wp_region_lit ?_
            refine st hF (g_assign hF rfl) rfl fun a hF => ?_
            refine wpList_nil ?_
            refine tN ?_
            refine wp_ret ?_
            refine tR ?_
            refine fin1 rfl hF.defers (res_tmp hF rfl) ⟨_, rfl, hM.below, ?_⟩
            show _ = _
            exact bool_f (fun hq => by have h1 := hq.1; omega)
          ·
            first | rw [decide_eq_false g6] at hF | simp only [decide_eq_false g6] at hF
            refine stY hF rfl rfl rfl (g_fieldAddr ty_fo_27_4 hF rfl) rfl fun a hF => stY hF rfl rfl rfl (g_load ty_on_22 hF rfl (hM.row 0 rfl) (tenC_4 (by omega))) rfl fun a hF => stY hF rfl rfl rfl (g_len ty_us_22 hF rfl) rfl fun a hF => stY hF rfl rfl rfl (g_move hF rfl) rfl fun a hF => stY hF rfl rfl rfl (g_neq hF rfl rfl) rfl fun a hF => st hF (g_pickF hF rfl rfl) rfl fun a hF => ?_
            refine wpList_nil ?_
            refine tN ?_
            refine c_cond hF rfl (fun h8 => ?_) (fun h8 => ?_)
            ·
              refine sq ?_
              refine wp_region_lit ?_
              refine st hF (g_assign hF rfl) rfl fun a hF => ?_
              refine wpList_nil ?_
              refine tN ?_
              refine wp_ret ?_
              refine tR ?_
              refine fin1 rfl hF.defers (res_tmp hF rfl) ⟨_, rfl, hM.below, ?_⟩
              show _ = _
              exact bool_f (fun hq => by have h1 := hq.1; have h2 := hq.2.1; omega)
            ·
              refine wp_skip ?_
              refine tN ?_
              refine sq ?_
              refine sq ?_
              refine wp_region_lit ?_
              refine st hF (g_assign hF rfl) rfl fun a hF => ?_
              refine wpList_nil ?_
              refine tN ?_
              refine wp_block ?_
              change Mem w _ [some (b1, tenC (p : Int) (n : Int) (i : Int) (o : Int) (.slice (some ⟨b, 0, none⟩) m m))] [(b, numI m g)] at hM
              refine c_loop (fun (kk : Nat) a w' => kk ≤ m ∧ (∀ c, c < kk → 0 ≤ g c ∧ g c < (p : Int)) ∧ Fr 61 a [(0, .agg (tenC (p : Int) (n : Int) (i : Int) (o : Int) (.slice (some ⟨b, 0, none⟩) m m))), (1, ptr b1 (0)), (5, ptr b1 (0 + 0)), (6, .int .i64 (((p : Nat) : Int))), (7, .bool (decide (primeP (((p : Nat) : Int))))), (8, .bool (false)), (9, .bool (false)), (10, ptr b1 (0 + 1)), (11, .int .i64 (((n : Nat) : Int))), (12, .bool (decide ((1 : Int) ≤ ((n : Nat) : Int) ∧ ((n : Nat) : Int) ≤ 6))), (13, .bool (false)), (14, .bool (false)), (15, .bool (false)), (16, ptr b1 (0 + 2)), (17, .int .i64 (((i : Nat) : Int))), (18, .bool (decide ((0 : Int) ≤ ((i : Nat) : Int) ∧ ((i : Nat) : Int) ≤ 8))), (19, .bool (false)), (20, .bool (false)), (21, .bool (false)), (22, ptr b1 (0 + 3)), (23, .int .i64 (((o : Nat) : Int))), (24, .bool (decide ((0 : Int) ≤ ((o : Nat) : Int) ∧ ((o : Nat) : Int) ≤ 8))), (25, .bool (decide (¬ ((0 : Int) ≤ ((o : Nat) : Int) ∧ ((o : Nat) : Int) ≤ 8)))), (26, .bool (decide (¬ ((0 : Int) ≤ ((o : Nat) : Int) ∧ ((o : Nat) : Int) ≤ 8)))), (27, ptr b1 (0 + 1)), (28, .int .i64 (((n : Nat) : Int))), (29, ptr b1 (0 + 2)), (30, .int .i64 (((i : Nat) : Int))), (31, ptr b1 (0 + 3)), (32, .int .i64 (((o : Nat) : Int))), (33, .int .i64 (((i + o : Nat) : Int))), (34, .int .i64 (((pwr (n) (i + o) 1 : Nat) : Int))), (3, .int .i64 (((pwr (n) (i + o) 1 : Nat) : Int))), (35, .int .i64 (((pwr (n) (i + o) 1 : Nat) : Int))), (36, .bool (false)), (37, .bool (false)), (38, ptr b1 (0 + 4)), (39, .slice (some ⟨b, 0, none⟩) (m) (m)), (40, .int .i64 (((m : Nat) : Int))), (41, .int .i64 (((pwr (n) (i + o) 1 : Nat) : Int))), (42, .bool (decide ((((m : Nat) : Int) : Int) ≠ ((pwr (n) (i + o) 1 : Nat) : Int)))), (43, .bool (decide ((((m : Nat) : Int) : Int) ≠ ((pwr (n) (i + o) 1 : Nat) : Int)))), (4, .int .i64 (((kk : Nat) : Int)))] ∧ Mem w w' [some (b1, tenC (p : Int) (n : Int) (i : Int) (o : Int) (.slice (some ⟨b, 0, none⟩) m m))] [(b, numI m g)]) (fun kk => m - kk) 0 ?_ ?_
              ·
                refine ⟨by omega, fun c hc => absurd hc (by omega), hF.sub _ (by repeat' constructor), ?_⟩
                exact hM
              ·
                clear hF hM
                rintro gk a w' ⟨hgk, hinv1, hF, hM⟩
                refine sq ?_
                refine sq ?_
                refine wp_region_lit ?_
                refine st hF (g_move hF rfl) rfl fun a hF => st hF (g_fieldAddr ty_fo_27_4 hF rfl) rfl fun a hF => st hF (g_load ty_on_22 hF rfl (hM.row 0 rfl) (tenC_4 (by omega))) rfl fun a hF => st hF (g_len ty_us_22 hF rfl) rfl fun a hF => st hF (g_lss hF rfl rfl) rfl fun a hF => ?_
                refine wpList_nil ?_
                refine tN ?_
                refine c_cond hF rfl (fun h9 => ?_) (fun h9 => ?_)
                ·
                  refine wp_skip ?_
                  refine tN ?_
                  refine sq ?_
                  refine wp_block ?_
                  refine sq ?_
                  refine c_par 8 [] [.val (ptr b1 (0 + 4)), .val (.slice (some ⟨b, 0, none⟩) (m) (m)), .val (.int .i64 (((gk : Nat) : Int))), .val (ptr b (0 + (gk) * 1)), .val (.int .i64 (g (gk))), .val (ptr b1 (0 + 0)), .val (.int .i64 (((p : Nat) : Int))), .val (.int .i64 (((p : Nat) : Int) - 1))] hmix rfl hF rfl hM ⟨fun a w gG hF hS hd => by exact par_val hS rfl (g_fieldAddr ty_fo_27_4 hF rfl), fun a w gG hF hS hd => by have hF := hF.ext1 51 (hd 0 rfl rfl); have hM := hS.mem rfl; exact par_val hS rfl (g_load ty_on_22 hF rfl (hM.row 0 rfl) (tenC_4 (by omega))), fun a w gG hF hS hd => by exact par_val hS rfl (g_move hF rfl), fun a w gG hF hS hd => by have hF := hF.ext1 52 (hd 1 rfl rfl); have hF := hF.ext1 53 (hd 2 rfl rfl); exact par_val hS rfl (g_indexSl (i := gk) ty_sl_22 hF rfl rfl rfl (by omega)), fun a w gG hF hS hd => by have hF := hF.ext1 54 (hd 3 rfl rfl); have hM := hS.mem rfl; exact par_val hS rfl (g_load ty_on_2 hF rfl (hM.fz 0 rfl) (numI_get (k := gk) (by omega) (by omega))), fun a w gG hF hS hd => by exact par_val hS rfl (g_fieldAddr ty_fo_27_0 hF rfl), fun a w gG hF hS hd => by have hF := hF.ext1 56 (hd 5 rfl rfl); have hM := hS.mem rfl; exact par_val hS rfl (g_load ty_on_2 hF rfl (hM.row 0 rfl) (tenC_0 (by omega))), fun a w gG hF hS hd => by have hF := hF.ext1 57 (hd 6 rfl rfl); exact par_val hS rfl (g_sub hF rfl rfl (wrap_i64 (by omega) (by omega))), trivial⟩ ?_
                  intro a w' L hF hS hq
                  have hF := hF.ext1 51 (hq 0 rfl rfl)
                  have hF := hF.ext1 52 (hq 1 rfl rfl)
                  have hF := hF.ext1 53 (hq 2 rfl rfl)
                  have hF := hF.ext1 54 (hq 3 rfl rfl)
                  have hF := hF.ext1 55 (hq 4 rfl rfl)
                  have hF := hF.ext1 56 (hq 5 rfl rfl)
                  have hF := hF.ext1 57 (hq 6 rfl rfl)
                  have hF := hF.ext1 58 (hq 7 rfl rfl)
                  have hM := hS.mem rfl
                  change wpList Try.prog _ _ [_, _] _ _
                  refine stR hF (d_call Try.call46 hF (.cons rfl (.cons rfl (.cons rfl .nil))) (l01In_ok (g (gk)) (0) (((p : Nat) : Int) - 1) _)) rfl ?_
                  rintro _ w' a ⟨hx, rfl⟩ hF
                  have hM := hM.ext hx
                  refine st hF (g_notP hF rfl) rfl fun a hF => ?_
                  refine wpList_nil ?_
                  refine tN ?_
                  refine c_cond hF rfl (fun h10 => ?_) (fun h10 => ?_)
                  ·
                    refine sq ?_
                    refine wp_region_lit ?_
                    refine st hF (g_assign hF rfl) rfl fun a hF => ?_
                    refine wpList_nil ?_
                    refine tN ?_
                    refine wp_ret ?_
                    refine iR ?_
                    refine tR ?_
                    refine tR ?_
                    refine iR ?_
                    refine tR ?_
                    refine fin1 rfl hF.defers (res_tmp hF rfl) ⟨_, rfl, hM.below, ?_⟩
                    show _ = _
                    exact bool_f (fun hq => by have := hq.2.2 gk (by omega); omega)
                  ·
                    refine wp_skip ?_
                    refine iN ?_
                    refine tN ?_
                    refine wp_region_lit ?_
                    refine st hF (g_move hF rfl) rfl fun a hF => st hF (g_add hF rfl rfl (add_nat (gk) (1) (by omega))) rfl fun a hF => st hF (g_assign hF rfl) rfl fun a hF => ?_
                    refine wpList_nil ?_
                    refine tN ?_
                    refine ⟨gk + 1, ⟨by omega, allS hinv1 (by omega), hF.sub _ (by repeat' constructor), ?_⟩, by omega⟩
                    exact hM
                ·
                  obtain rfl : m = gk := by omega
                  refine wp_exit ?_
                  refine tX ?_
                  refine tX ?_
                  refine ib_same ?_
                  refine tN ?_
                  refine sq ?_
                  refine wp_region_lit ?_
                  refine st hF (g_assign hF rfl) rfl fun a hF => ?_
                  refine wpList_nil ?_
                  refine tN ?_
                  refine wp_ret ?_
                  refine fin1 rfl hF.defers (res_tmp hF rfl) ⟨_, rfl, hM.below, ?_⟩
                  show _ = _
                  exact bool_t ⟨by omega, by omega, hinv1⟩

theorem IsTensor_ok (p n i o : Int) (b m : Nat) (g : Nat → Int) (w : World) (hb : Blk w b (numI m g)) (hm : m < 10000000) : CallsV Try.prog 16 #[.agg (tenC p n i o (.slice (some ⟨b, 0, none⟩) m m))] w (.bool (decide (TenP p n i o m g))) := by
  by_cases hA : primeP p ∧ 1 ≤ n ∧ n ≤ 6 ∧ 0 ≤ i ∧ 0 ≤ o
  · obtain ⟨hpP, h1, h2, h3, h4⟩ := hA
    obtain ⟨p', rfl⟩ : ∃ q : Nat, p = q := ⟨p.toNat, by have := primeP_pos hpP; omega⟩
    obtain ⟨n', rfl⟩ : ∃ q : Nat, n = q := ⟨n.toNat, by omega⟩
    obtain ⟨i', rfl⟩ : ∃ q : Nat, i = q := ⟨i.toNat, by omega⟩
    obtain ⟨o', rfl⟩ : ∃ q : Nat, o = q := ⟨o.toNat, by omega⟩
    refine CallsR.val (IsTensor_2 p' n' i' o' b m g w hb hm hpP (by omega) (by omega)) (congrArg Value.bool (decide_eq_decide.2 ?_))
    first | unfold TenP tenH NumP wl | unfold TenP tenH NumP
    simp only [Int.toNat_natCast]
    constructor
    · intro h; first | exact ⟨⟨hpP, ⟨by omega, by omega⟩, ⟨by omega, by omega⟩, ⟨by omega, by omega⟩⟩, h.1.2.2, h.2.1, h.2.2⟩ | exact ⟨⟨hpP, ⟨by omega, by omega⟩, ⟨by omega, by omega⟩, ⟨by omega, by omega⟩⟩, h.1, h.2.1, h.2.2⟩
    · intro h; first | exact ⟨⟨by have := h.1.2.2.1; omega, by have := h.1.2.2.2; omega, h.2.1⟩, h.2.2.1, h.2.2.2⟩ | exact ⟨h.2.1, h.2.2.1, h.2.2.2⟩
  · refine CallsR.val (IsTensor_1 p n i o b m g w hb hm hA) (congrArg Value.bool (decide_eq_false (fun h => hA ?_)).symm)
    exact ⟨h.1.1, h.1.2.1.1, h.1.2.1.2, h.1.2.2.1.1, h.1.2.2.2.1⟩

theorem l03Is_ok (p n i o : Int) (b m : Nat) (g : Nat → Int) (w : World) (hb : Blk w b (numI m g)) (hm : m < 10000000) : CallsV Try.prog 40 #[.agg (tenC p n i o (.slice (some ⟨b, 0, none⟩) m m))] w (.bool (decide (TenP p n i o m g))) := by
  by_cases hA : tenH p n i o
  · obtain ⟨hpP, ⟨h1, h2⟩, ⟨h3, h4⟩, h5, h6⟩ := hA
    obtain ⟨p', rfl⟩ : ∃ q : Nat, p = q := ⟨p.toNat, by have := primeP_pos hpP; omega⟩
    obtain ⟨n', rfl⟩ : ∃ q : Nat, n = q := ⟨n.toNat, by omega⟩
    obtain ⟨i', rfl⟩ : ∃ q : Nat, i = q := ⟨i.toNat, by omega⟩
    obtain ⟨o', rfl⟩ : ∃ q : Nat, o = q := ⟨o.toNat, by omega⟩
    refine CallsR.val (l03Is_2 p' n' i' o' b m g w hb hm hpP (by omega) (by omega) (by omega) (by omega)) (congrArg Value.bool (decide_eq_decide.2 ?_))
    first | unfold TenP tenH NumP wl | unfold TenP tenH NumP
    simp only [Int.toNat_natCast]
    constructor
    · intro h; first | exact ⟨⟨hpP, ⟨by omega, by omega⟩, ⟨by omega, by omega⟩, ⟨by omega, by omega⟩⟩, h.1.2.2, h.2.1, h.2.2⟩ | exact ⟨⟨hpP, ⟨by omega, by omega⟩, ⟨by omega, by omega⟩, ⟨by omega, by omega⟩⟩, h.1, h.2.1, h.2.2⟩
    · intro h; first | exact ⟨⟨by have := h.1.2.2.1; omega, by have := h.1.2.2.2; omega, h.2.1⟩, h.2.2.1, h.2.2.2⟩ | exact ⟨h.2.1, h.2.2.1, h.2.2.2⟩
  · refine CallsR.val (l03Is_1 p n i o b m g w hb hm (fun h => hA h)) (congrArg Value.bool (decide_eq_false (fun h => hA ?_)).symm)
    exact h.1

end Go.Proofs.Ythliekalhgafcaa

namespace Go.Proofs.Ythliekalhgafcaa
open Go Go.RowKit Go.Sw Go.Ech
open Classical
theorem ty_bs_74 : ∀ (p : Int) (b : Option Addr) (l c : Nat) w, (Instr.build 74 #[(0, .int .i64 p), (1, .slice b l c)]).run Try.prog w = .ok (.agg (smC p (.slice b l c))) w := by intros; kernel_rfl
theorem ty_ze_74 : zeroP Try.prog 74 = some (.agg (smC 0 (.slice none 0 0))) := by kernel_rfl
theorem ty_sz_74 : sizeP Try.prog 74 = some 2 := by kernel_rfl
theorem ty_ag_74 : aggP Try.prog 74 = some 2 := by kernel_rfl
theorem TenP.nat {p n i o : Int} {m : Nat} {g : Nat → Int} (h : TenP p n i o m g) : ∃ (p' n' i' o' : Nat) (f : Nat → Nat), p = p' ∧ n = n' ∧ i = i' ∧ o = o' ∧ primeP (p' : Int) ∧ 0 < n' ∧ n' ≤ 6 ∧ wl n' i' o' ∧ m = n' ^ (i' + o') ∧ (∀ c, f c < p') ∧ ∀ c, c < m → g c = ((f c : Nat) : Int) := by
  obtain ⟨⟨hp, ⟨h1, h2⟩, ⟨h3, h4⟩, h5, h6⟩, h7, h8, h9⟩ := h
  have hp0 := primeP_pos hp
  have ep : ((p.toNat : Nat) : Int) = p := by omega
  refine ⟨p.toNat, n.toNat, i.toNat, o.toNat, fun c => if c < m then (g c).toNat else 0, by omega, by omega, by omega, by omega, by rw [ep]; exact hp, by omega, by omega, ⟨by omega, by omega, h7⟩, h8, fun c => ?_, fun c hc => ?_⟩
  · dsimp only; split
    · rename_i hc; have := h9 c hc; omega
    · omega
  · dsimp only; rw [if_pos hc]; have := h9 c hc; omega
theorem TenP.of_nat {p n i o m : Nat} {f : Nat → Nat} (hpP : primeP (p : Int)) (hn0 : 0 < n) (hn : n ≤ 6) (hw : wl n i o) (hm : m = n ^ (i + o)) (hf : ∀ c, f c < p) : TenP (p : Int) (n : Int) (i : Int) (o : Int) m (fun c => ((f c : Nat) : Int)) :=
  ⟨⟨hpP, ⟨by omega, by omega⟩, ⟨by omega, by have := hw.1; omega⟩, ⟨by omega, by have := hw.2.1; omega⟩⟩, by simp only [Int.toNat_natCast]; exact hw.2.2, by simp only [Int.toNat_natCast]; exact hm, fun c _ => ⟨by show (0 : Int) ≤ ((f c : Nat) : Int); omega, by have := hf c; show ((f c : Nat) : Int) < (p : Int); omega⟩⟩

theorem pairFault_A (p n i o p2 n2 i2 o2 : Int) (b bz m m2 : Nat) (g g2 : Nat → Int) (fit : Bool) (w : World) (hb : Blk w b (numI m g)) (hbz : Blk w bz (numI m2 g2)) (hm : m < 10000000) (hm2 : m2 < 10000000) (hA : ¬ (TenP p n i o m g ∧ TenP p2 n2 i2 o2 m2 g2)) :
    CallsR Try.prog 64 #[.agg (tenC p n i o (.slice (some ⟨b, 0, none⟩) m m)), .agg (tenC p2 n2 i2 o2 (.slice (some ⟨bz, 0, none⟩) m2 m2)), .bool (fit)] w (fun res _ => res = .int .i64 1) := by
  refine calls_fr [.agg (tenC p n i o (.slice (some ⟨b, 0, none⟩) m m)), .agg (tenC p2 n2 i2 o2 (.slice (some ⟨bz, 0, none⟩) m2 m2)), .bool (fit)] Try.func64 rfl Try.ntmps64 rfl fun a hF => ?_
  have hM : Mem w w [none, none] [(b, numI m g), (bz, numI m2 g2)] := MemX.startD w 2 _ (startD2 hb hbz)
  change Fr 31 a [(0, .agg (tenC p n i o (.slice (some ⟨b, 0, none⟩) m m))), (1, .agg (tenC p2 n2 i2 o2 (.slice (some ⟨bz, 0, none⟩) m2 m2))), (2, .bool (fit))] at hF
  refine sq ?_
  refine wp_region_lit ?_
  refine stR hF (d_box 0 hM hF rfl) rfl ?_
  rintro _ w' a ⟨b1, rfl, hM, -⟩ hF
  change Mem w w' [some (b1, tenC p n i o (.slice (some ⟨b, 0, none⟩) m m)), none] [(b, numI m g), (bz, numI m2 g2)] at hM
  refine stR hF (d_box 1 hM hF rfl) rfl ?_
  rintro _ w' a ⟨b2, rfl, hM, -⟩ hF
  change Mem w w' [some (b1, tenC p n i o (.slice (some ⟨b, 0, none⟩) m m)), some (b2, tenC p2 n2 i2 o2 (.slice (some ⟨bz, 0, none⟩) m2 m2))] [(b, numI m g), (bz, numI m2 g2)] at hM
  refine st hF (g_assign hF rfl) rfl fun a hF => ?_
  refine wpList_nil ?_
  refine tN ?_
  refine sq ?_
  refine sq ?_
  refine wp_region_lit ?_
  refine st hF (g_loadAgg ty_ag_27 hF rfl (hM.row 0 rfl) (by simp only [fnC_size, cells_size, vecC_size, tabC_size, planeC_size, tenC_size, smC_size, numC_size, numI_size] <;> omega) (whole rfl)) rfl fun a hF => ?_
  refine stR hF (d_call Try.call16 hF (.cons rfl .nil) (IsTensor_ok p n i o b m g _ (hM.fz 0 rfl) (by omega))) rfl ?_
  rintro _ w' a ⟨hx, rfl⟩ hF
  have hM := hM.ext hx
  refine st hF (g_notP hF rfl) rfl fun a hF => st hF (g_move hF rfl) rfl fun a hF => ?_
  by_cases g3 : ¬ (TenP p n i o m g)
  ·
    first | rw [decide_eq_true g3] at hF | simp only [decide_eq_true g3] at hF
    refine stS hF rfl rfl rfl rfl rfl fun a hF => stS hF rfl rfl rfl rfl rfl fun a hF => stS hF rfl rfl rfl rfl rfl fun a hF => st hF (g_pickT hF rfl rfl) rfl fun a hF => ?_
    refine wpList_nil ?_
    refine tN ?_
    refine c_T hF rfl ?_
    refine sq ?_
    refine wp_region_lit ?_
    refine st hF (g_assign hF rfl) rfl fun a hF => ?_
    refine wpList_nil ?_
    refine tN ?_
    refine wp_ret ?_
    refine tR ?_
    refine fin1 rfl hF.defers (res_tmp hF rfl) ⟨_, rfl, hM.below, ?_⟩
    show _ = _
    rfl
  ·
    first | rw [decide_eq_false g3] at hF | simp only [decide_eq_false g3] at hF
    refine stY hF rfl rfl rfl (g_loadAgg ty_ag_27 hF rfl (hM.row 1 rfl) (by simp only [fnC_size, cells_size, vecC_size, tabC_size, planeC_size, tenC_size, smC_size, numC_size, numI_size] <;> omega) (whole rfl)) rfl fun a hF => ?_
    refine stYR hF rfl rfl rfl (d_call Try.call16 hF (.cons rfl .nil) (IsTensor_ok p2 n2 i2 o2 bz m2 g2 _ (hM.fz 1 rfl) (by omega))) rfl ?_
    rintro _ w' a ⟨hx, rfl⟩ hF
    have hM := hM.ext hx
    refine stY hF rfl rfl rfl (g_notP hF rfl) rfl fun a hF => st hF (g_pickF hF rfl rfl) rfl fun a hF => ?_
    refine wpList_nil ?_
    refine tN ?_
    refine c_cond hF rfl (fun h5 => ?_) (fun h5 => ?_)
    ·
      refine sq ?_
      refine wp_region_lit ?_
      refine st hF (g_assign hF rfl) rfl fun a hF => ?_
      refine wpList_nil ?_
      refine tN ?_
      refine wp_ret ?_
      refine tR ?_
      refine fin1 rfl hF.defers (res_tmp hF rfl) ⟨_, rfl, hM.below, ?_⟩
      show _ = _
      rfl
    ·
      exact absurd ⟨Decidable.not_not.1 (by assumption), Decidable.not_not.1 (by assumption)⟩ hA

theorem pairFault_R (p n i o p2 n2 i2 o2 : Int) (b bz m m2 : Nat) (g g2 : Nat → Int) (fit : Bool) (w : World) (hb : Blk w b (numI m g)) (hbz : Blk w bz (numI m2 g2)) (hm : m < 10000000) (hm2 : m2 < 10000000) (h1 : TenP p n i o m g) (h2 : TenP p2 n2 i2 o2 m2 g2) (hR : ¬ (p = p2 ∧ n = n2 ∧ fit = true)) :
    CallsR Try.prog 64 #[.agg (tenC p n i o (.slice (some ⟨b, 0, none⟩) m m)), .agg (tenC p2 n2 i2 o2 (.slice (some ⟨bz, 0, none⟩) m2 m2)), .bool (fit)] w (fun res _ => res = .int .i64 2) := by
  refine calls_fr [.agg (tenC p n i o (.slice (some ⟨b, 0, none⟩) m m)), .agg (tenC p2 n2 i2 o2 (.slice (some ⟨bz, 0, none⟩) m2 m2)), .bool (fit)] Try.func64 rfl Try.ntmps64 rfl fun a hF => ?_
  have hM : Mem w w [none, none] [(b, numI m g), (bz, numI m2 g2)] := MemX.startD w 2 _ (startD2 hb hbz)
  change Fr 31 a [(0, .agg (tenC p n i o (.slice (some ⟨b, 0, none⟩) m m))), (1, .agg (tenC p2 n2 i2 o2 (.slice (some ⟨bz, 0, none⟩) m2 m2))), (2, .bool (fit))] at hF
  refine sq ?_
  refine wp_region_lit ?_
  refine stR hF (d_box 0 hM hF rfl) rfl ?_
  rintro _ w' a ⟨b1, rfl, hM, -⟩ hF
  change Mem w w' [some (b1, tenC p n i o (.slice (some ⟨b, 0, none⟩) m m)), none] [(b, numI m g), (bz, numI m2 g2)] at hM
  refine stR hF (d_box 1 hM hF rfl) rfl ?_
  rintro _ w' a ⟨b2, rfl, hM, -⟩ hF
  change Mem w w' [some (b1, tenC p n i o (.slice (some ⟨b, 0, none⟩) m m)), some (b2, tenC p2 n2 i2 o2 (.slice (some ⟨bz, 0, none⟩) m2 m2))] [(b, numI m g), (bz, numI m2 g2)] at hM
  refine st hF (g_assign hF rfl) rfl fun a hF => ?_
  refine wpList_nil ?_
  refine tN ?_
  refine sq ?_
  refine sq ?_
  refine wp_region_lit ?_
  refine st hF (g_loadAgg ty_ag_27 hF rfl (hM.row 0 rfl) (by simp only [fnC_size, cells_size, vecC_size, tabC_size, planeC_size, tenC_size, smC_size, numC_size, numI_size] <;> omega) (whole rfl)) rfl fun a hF => ?_
  refine stR hF (d_call Try.call16 hF (.cons rfl .nil) ((CallsR.val (IsTensor_ok p n i o b m g _ (hM.fz 0 rfl) (by omega)) (congrArg Value.bool (decide_eq_true h1))))) rfl ?_
  rintro _ w' a ⟨hx, rfl⟩ hF
  have hM := hM.ext hx
  refine st hF (g_not hF rfl) rfl fun a hF => st hF (g_move hF rfl) rfl fun a hF => stY hF rfl rfl rfl (g_loadAgg ty_ag_27 hF rfl (hM.row 1 rfl) (by simp only [fnC_size, cells_size, vecC_size, tabC_size, planeC_size, tenC_size, smC_size, numC_size, numI_size] <;> omega) (whole rfl)) rfl fun a hF => ?_
  refine stYR hF rfl rfl rfl (d_call Try.call16 hF (.cons rfl .nil) ((CallsR.val (IsTensor_ok p2 n2 i2 o2 bz m2 g2 _ (hM.fz 1 rfl) (by omega)) (congrArg Value.bool (decide_eq_true h2))))) rfl ?_
  rintro _ w' a ⟨hx, rfl⟩ hF
  have hM := hM.ext hx
  refine stY hF rfl rfl rfl (g_not hF rfl) rfl fun a hF => st hF (g_pickF hF rfl rfl) rfl fun a hF => ?_
  refine wpList_nil ?_
  refine tN ?_
  refine c_Fl hF rfl ?_
  refine wp_skip ?_
  refine tN ?_
  refine sq ?_
  refine sq ?_
  refine wp_region_lit ?_
  refine st hF (g_fieldAddr ty_fo_27_0 hF rfl) rfl fun a hF => st hF (g_load ty_on_2 hF rfl (hM.row 0 rfl) (tenC_0 (by omega))) rfl fun a hF => st hF (g_fieldAddr ty_fo_27_0 hF rfl) rfl fun a hF => st hF (g_load ty_on_2 hF rfl (hM.row 1 rfl) (tenC_0 (by omega))) rfl fun a hF => st hF (g_neq hF rfl rfl) rfl fun a hF => st hF (g_move hF rfl) rfl fun a hF => ?_
  by_cases g4 : (p : Int) ≠ p2
  ·
    first | rw [decide_eq_true g4] at hF | simp only [decide_eq_true g4] at hF
    refine stS hF rfl rfl rfl rfl rfl fun a hF => stS hF rfl rfl rfl rfl rfl fun a hF => stS hF rfl rfl rfl rfl rfl fun a hF => stS hF rfl rfl rfl rfl rfl fun a hF => stS hF rfl rfl rfl rfl rfl fun a hF => st hF (g_pickT hF rfl rfl) rfl fun a hF => st hF (g_move hF rfl) rfl fun a hF => stS hF rfl rfl rfl rfl rfl fun a hF => stS hF rfl rfl rfl rfl rfl fun a hF => st hF (g_pickT hF rfl rfl) rfl fun a hF => ?_
    refine wpList_nil ?_
    refine tN ?_
    refine c_T hF rfl ?_
    refine sq ?_
    refine wp_region_lit ?_
    refine st hF (g_assign hF rfl) rfl fun a hF => ?_
    refine wpList_nil ?_
    refine tN ?_
    refine wp_ret ?_
    refine tR ?_
    refine fin1 rfl hF.defers (res_tmp hF rfl) ⟨_, rfl, hM.below, ?_⟩
    show _ = _
    rfl
  ·
    first | rw [decide_eq_false g4] at hF | simp only [decide_eq_false g4] at hF
    refine stY hF rfl rfl rfl (g_fieldAddr ty_fo_27_1 hF rfl) rfl fun a hF => stY hF rfl rfl rfl (g_load ty_on_2 hF rfl (hM.row 0 rfl) (tenC_1 (by omega))) rfl fun a hF => stY hF rfl rfl rfl (g_fieldAddr ty_fo_27_1 hF rfl) rfl fun a hF => stY hF rfl rfl rfl (g_load ty_on_2 hF rfl (hM.row 1 rfl) (tenC_1 (by omega))) rfl fun a hF => stY hF rfl rfl rfl (g_neq hF rfl rfl) rfl fun a hF => st hF (g_pickF hF rfl rfl) rfl fun a hF => st hF (g_move hF rfl) rfl fun a hF => ?_
    by_cases g6 : (n : Int) ≠ n2
    ·
      first | rw [decide_eq_true g6] at hF | simp only [decide_eq_true g6] at hF
      refine stS hF rfl rfl rfl rfl rfl fun a hF => stS hF rfl rfl rfl rfl rfl fun a hF => st hF (g_pickT hF rfl rfl) rfl fun a hF => ?_
      refine wpList_nil ?_
      refine tN ?_
      refine c_T hF rfl ?_
      refine sq ?_
      refine wp_region_lit ?_
      refine st hF (g_assign hF rfl) rfl fun a hF => ?_
      refine wpList_nil ?_
      refine tN ?_
      refine wp_ret ?_
      refine tR ?_
      refine fin1 rfl hF.defers (res_tmp hF rfl) ⟨_, rfl, hM.below, ?_⟩
      show _ = _
      rfl
    ·
      first | rw [decide_eq_false g6] at hF | simp only [decide_eq_false g6] at hF
      refine stY hF rfl rfl rfl (g_move hF rfl) rfl fun a hF => stY hF rfl rfl rfl (g_not hF rfl) rfl fun a hF => st hF (g_pickF hF rfl rfl) rfl fun a hF => ?_
      refine wpList_nil ?_
      refine tN ?_
      refine c_condB hF rfl (fun h8 => ?_) (fun h8 => ?_)
      ·
        refine sq ?_
        refine wp_region_lit ?_
        refine st hF (g_assign hF rfl) rfl fun a hF => ?_
        refine wpList_nil ?_
        refine tN ?_
        refine wp_ret ?_
        refine tR ?_
        refine fin1 rfl hF.defers (res_tmp hF rfl) ⟨_, rfl, hM.below, ?_⟩
        show _ = _
        rfl
      ·
        exact absurd ⟨by omega, by omega, by simpa using h8⟩ hR

theorem pairFault_ok (p n i o i2 o2 : Int) (b bz m m2 : Nat) (g g2 : Nat → Int) (fit : Bool) (w : World) (hb : Blk w b (numI m g)) (hbz : Blk w bz (numI m2 g2)) (hm : m < 10000000) (hm2 : m2 < 10000000) (h1 : TenP p n i o m g) (h2 : TenP p n i2 o2 m2 g2) (hfit : fit = true) :
    CallsR Try.prog 64 #[.agg (tenC p n i o (.slice (some ⟨b, 0, none⟩) m m)), .agg (tenC p n i2 o2 (.slice (some ⟨bz, 0, none⟩) m2 m2)), .bool (fit)] w (fun res _ => res = .int .i64 0) := by
  refine calls_fr [.agg (tenC p n i o (.slice (some ⟨b, 0, none⟩) m m)), .agg (tenC p n i2 o2 (.slice (some ⟨bz, 0, none⟩) m2 m2)), .bool (fit)] Try.func64 rfl Try.ntmps64 rfl fun a hF => ?_
  have hM : Mem w w [none, none] [(b, numI m g), (bz, numI m2 g2)] := MemX.startD w 2 _ (startD2 hb hbz)
  change Fr 31 a [(0, .agg (tenC p n i o (.slice (some ⟨b, 0, none⟩) m m))), (1, .agg (tenC p n i2 o2 (.slice (some ⟨bz, 0, none⟩) m2 m2))), (2, .bool (fit))] at hF
  refine sq ?_
  refine wp_region_lit ?_
  refine stR hF (d_box 0 hM hF rfl) rfl ?_
  rintro _ w' a ⟨b1, rfl, hM, -⟩ hF
  change Mem w w' [some (b1, tenC p n i o (.slice (some ⟨b, 0, none⟩) m m)), none] [(b, numI m g), (bz, numI m2 g2)] at hM
  refine stR hF (d_box 1 hM hF rfl) rfl ?_
  rintro _ w' a ⟨b2, rfl, hM, -⟩ hF
  change Mem w w' [some (b1, tenC p n i o (.slice (some ⟨b, 0, none⟩) m m)), some (b2, tenC p n i2 o2 (.slice (some ⟨bz, 0, none⟩) m2 m2))] [(b, numI m g), (bz, numI m2 g2)] at hM
  refine st hF (g_assign hF rfl) rfl fun a hF => ?_
  refine wpList_nil ?_
  refine tN ?_
  refine sq ?_
  refine sq ?_
  refine wp_region_lit ?_
  refine st hF (g_loadAgg ty_ag_27 hF rfl (hM.row 0 rfl) (by simp only [fnC_size, cells_size, vecC_size, tabC_size, planeC_size, tenC_size, smC_size, numC_size, numI_size] <;> omega) (whole rfl)) rfl fun a hF => ?_
  refine stR hF (d_call Try.call16 hF (.cons rfl .nil) ((CallsR.val (IsTensor_ok p n i o b m g _ (hM.fz 0 rfl) (by omega)) (congrArg Value.bool (decide_eq_true h1))))) rfl ?_
  rintro _ w' a ⟨hx, rfl⟩ hF
  have hM := hM.ext hx
  refine st hF (g_not hF rfl) rfl fun a hF => st hF (g_move hF rfl) rfl fun a hF => stY hF rfl rfl rfl (g_loadAgg ty_ag_27 hF rfl (hM.row 1 rfl) (by simp only [fnC_size, cells_size, vecC_size, tabC_size, planeC_size, tenC_size, smC_size, numC_size, numI_size] <;> omega) (whole rfl)) rfl fun a hF => ?_
  refine stYR hF rfl rfl rfl (d_call Try.call16 hF (.cons rfl .nil) ((CallsR.val (IsTensor_ok p n i2 o2 bz m2 g2 _ (hM.fz 1 rfl) (by omega)) (congrArg Value.bool (decide_eq_true h2))))) rfl ?_
  rintro _ w' a ⟨hx, rfl⟩ hF
  have hM := hM.ext hx
  refine stY hF rfl rfl rfl (g_not hF rfl) rfl fun a hF => st hF (g_pickF hF rfl rfl) rfl fun a hF => ?_
  refine wpList_nil ?_
  refine tN ?_
  refine c_Fl hF rfl ?_
  refine wp_skip ?_
  refine tN ?_
  refine sq ?_
  refine sq ?_
  refine wp_region_lit ?_
  refine st hF (g_fieldAddr ty_fo_27_0 hF rfl) rfl fun a hF => st hF (g_load ty_on_2 hF rfl (hM.row 0 rfl) (tenC_0 (by omega))) rfl fun a hF => st hF (g_fieldAddr ty_fo_27_0 hF rfl) rfl fun a hF => st hF (g_load ty_on_2 hF rfl (hM.row 1 rfl) (tenC_0 (by omega))) rfl fun a hF => st hF (g_neq hF rfl rfl) rfl fun a hF => st hF (g_move hF rfl) rfl fun a hF => ?_
  by_cases g4 : (p : Int) ≠ p
  ·
    first | rw [decide_eq_true g4] at hF | simp only [decide_eq_true g4] at hF
    first | exact absurd rfl g4 | (exfalso; omega)
  ·
    first | rw [decide_eq_false g4] at hF | simp only [decide_eq_false g4] at hF
    refine stY hF rfl rfl rfl (g_fieldAddr ty_fo_27_1 hF rfl) rfl fun a hF => stY hF rfl rfl rfl (g_load ty_on_2 hF rfl (hM.row 0 rfl) (tenC_1 (by omega))) rfl fun a hF => stY hF rfl rfl rfl (g_fieldAddr ty_fo_27_1 hF rfl) rfl fun a hF => stY hF rfl rfl rfl (g_load ty_on_2 hF rfl (hM.row 1 rfl) (tenC_1 (by omega))) rfl fun a hF => stY hF rfl rfl rfl (g_neq hF rfl rfl) rfl fun a hF => st hF (g_pickF hF rfl rfl) rfl fun a hF => st hF (g_move hF rfl) rfl fun a hF => ?_
    by_cases g5 : (n : Int) ≠ n
    ·
      first | rw [decide_eq_true g5] at hF | simp only [decide_eq_true g5] at hF
      first | exact absurd rfl g5 | (exfalso; omega)
    ·
      first | rw [decide_eq_false g5] at hF | simp only [decide_eq_false g5] at hF
      refine stY hF rfl rfl rfl (g_move hF rfl) rfl fun a hF => stY hF rfl rfl rfl (g_not hF rfl) rfl fun a hF => st hF (g_pickF hF rfl rfl) rfl fun a hF => ?_
      refine wpList_nil ?_
      refine tN ?_
      refine c_condB hF rfl (fun h6 => ?_) (fun h6 => ?_)
      ·
        first | exact absurd rfl h6 | (exfalso; simp_all; done) | (exfalso; omega)
      ·
        refine wp_skip ?_
        refine tN ?_
        refine sq ?_
        refine wp_region_lit ?_
        refine st hF (g_assign hF rfl) rfl fun a hF => ?_
        refine wpList_nil ?_
        refine tN ?_
        refine wp_ret ?_
        refine fin1 rfl hF.defers (res_tmp hF rfl) ⟨_, rfl, hM.below, ?_⟩
        show _ = _
        rfl

theorem l03Two_A (p n i o p2 n2 i2 o2 : Int) (b bz m m2 : Nat) (g g2 : Nat → Int) (w : World) (hb : Blk w b (numI m g)) (hbz : Blk w bz (numI m2 g2)) (hm : m < 10000000) (hm2 : m2 < 10000000) (hA : ¬ (TenP p n i o m g ∧ TenP p2 n2 i2 o2 m2 g2)) :
    CallsR Try.prog 62 #[.agg (tenC p n i o (.slice (some ⟨b, 0, none⟩) m m)), .agg (tenC p2 n2 i2 o2 (.slice (some ⟨bz, 0, none⟩) m2 m2))] w (fun res _ => res = .int .i64 1) := by
  refine calls_fr [.agg (tenC p n i o (.slice (some ⟨b, 0, none⟩) m m)), .agg (tenC p2 n2 i2 o2 (.slice (some ⟨bz, 0, none⟩) m2 m2))] Try.func62 rfl Try.ntmps62 rfl fun a hF => ?_
  have hM : Mem w w [none, none] [(b, numI m g), (bz, numI m2 g2)] := MemX.startD w 2 _ (startD2 hb hbz)
  change Fr 27 a [(0, .agg (tenC p n i o (.slice (some ⟨b, 0, none⟩) m m))), (1, .agg (tenC p2 n2 i2 o2 (.slice (some ⟨bz, 0, none⟩) m2 m2)))] at hF
  refine sq ?_
  refine wp_region_lit ?_
  refine stR hF (d_box 0 hM hF rfl) rfl ?_
  rintro _ w' a ⟨b1, rfl, hM, -⟩ hF
  change Mem w w' [some (b1, tenC p n i o (.slice (some ⟨b, 0, none⟩) m m)), none] [(b, numI m g), (bz, numI m2 g2)] at hM
  refine stR hF (d_box 1 hM hF rfl) rfl ?_
  rintro _ w' a ⟨b2, rfl, hM, -⟩ hF
  change Mem w w' [some (b1, tenC p n i o (.slice (some ⟨b, 0, none⟩) m m)), some (b2, tenC p2 n2 i2 o2 (.slice (some ⟨bz, 0, none⟩) m2 m2))] [(b, numI m g), (bz, numI m2 g2)] at hM
  refine st hF (g_assign hF rfl) rfl fun a hF => ?_
  refine wpList_nil ?_
  refine tN ?_
  refine sq ?_
  refine wp_block ?_
  refine sq ?_
  refine wp_region_lit ?_
  refine st hF (g_loadAgg ty_ag_27 hF rfl (hM.row 0 rfl) (by simp only [fnC_size, cells_size, vecC_size, tabC_size, planeC_size, tenC_size, smC_size, numC_size, numI_size] <;> omega) (whole rfl)) rfl fun a hF => ?_
  refine stR hF (d_call Try.call40 hF (.cons rfl .nil) (l03Is_ok p n i o b m g _ (hM.fz 0 rfl) (by omega))) rfl ?_
  rintro _ w' a ⟨hx, rfl⟩ hF
  have hM := hM.ext hx
  refine st hF (g_notP hF rfl) rfl fun a hF => st hF (g_move hF rfl) rfl fun a hF => ?_
  by_cases g3 : ¬ (TenP p n i o m g)
  ·
    first | rw [decide_eq_true g3] at hF | simp only [decide_eq_true g3] at hF
    refine stS hF rfl rfl rfl rfl rfl fun a hF => stS hF rfl rfl rfl rfl rfl fun a hF => stS hF rfl rfl rfl rfl rfl fun a hF => st hF (g_pickT hF rfl rfl) rfl fun a hF => st hF (g_assign hF rfl) rfl fun a hF => ?_
    refine wpList_nil ?_
    refine tN ?_
    refine c_T hF rfl ?_
    refine sq ?_
    refine wp_region_lit ?_
    refine st hF (g_assign hF rfl) rfl fun a hF => ?_
    refine wpList_nil ?_
    refine tN ?_
    refine wp_ret ?_
    refine iR ?_
    refine tR ?_
    refine fin1 rfl hF.defers (res_tmp hF rfl) ⟨_, rfl, hM.below, ?_⟩
    show _ = _
    rfl
  ·
    first | rw [decide_eq_false g3] at hF | simp only [decide_eq_false g3] at hF
    refine stY hF rfl rfl rfl (g_loadAgg ty_ag_27 hF rfl (hM.row 1 rfl) (by simp only [fnC_size, cells_size, vecC_size, tabC_size, planeC_size, tenC_size, smC_size, numC_size, numI_size] <;> omega) (whole rfl)) rfl fun a hF => ?_
    refine stYR hF rfl rfl rfl (d_call Try.call40 hF (.cons rfl .nil) (l03Is_ok p2 n2 i2 o2 bz m2 g2 _ (hM.fz 1 rfl) (by omega))) rfl ?_
    rintro _ w' a ⟨hx, rfl⟩ hF
    have hM := hM.ext hx
    refine stY hF rfl rfl rfl (g_notP hF rfl) rfl fun a hF => st hF (g_pickF hF rfl rfl) rfl fun a hF => st hF (g_assign hF rfl) rfl fun a hF => ?_
    refine wpList_nil ?_
    refine tN ?_
    refine c_cond hF rfl (fun h5 => ?_) (fun h5 => ?_)
    ·
      refine sq ?_
      refine wp_region_lit ?_
      refine st hF (g_assign hF rfl) rfl fun a hF => ?_
      refine wpList_nil ?_
      refine tN ?_
      refine wp_ret ?_
      refine iR ?_
      refine tR ?_
      refine fin1 rfl hF.defers (res_tmp hF rfl) ⟨_, rfl, hM.below, ?_⟩
      show _ = _
      rfl
    ·
      exact absurd ⟨Decidable.not_not.1 (by assumption), Decidable.not_not.1 (by assumption)⟩ hA

theorem l03Two_R (p n i o p2 n2 i2 o2 : Int) (b bz m m2 : Nat) (g g2 : Nat → Int) (w : World) (hb : Blk w b (numI m g)) (hbz : Blk w bz (numI m2 g2)) (hm : m < 10000000) (hm2 : m2 < 10000000) (h1 : TenP p n i o m g) (h2 : TenP p2 n2 i2 o2 m2 g2) (hR : ¬ (p = p2 ∧ n = n2)) :
    CallsR Try.prog 62 #[.agg (tenC p n i o (.slice (some ⟨b, 0, none⟩) m m)), .agg (tenC p2 n2 i2 o2 (.slice (some ⟨bz, 0, none⟩) m2 m2))] w (fun res _ => res = .int .i64 2) := by
  refine calls_fr [.agg (tenC p n i o (.slice (some ⟨b, 0, none⟩) m m)), .agg (tenC p2 n2 i2 o2 (.slice (some ⟨bz, 0, none⟩) m2 m2))] Try.func62 rfl Try.ntmps62 rfl fun a hF => ?_
  have hM : Mem w w [none, none] [(b, numI m g), (bz, numI m2 g2)] := MemX.startD w 2 _ (startD2 hb hbz)
  change Fr 27 a [(0, .agg (tenC p n i o (.slice (some ⟨b, 0, none⟩) m m))), (1, .agg (tenC p2 n2 i2 o2 (.slice (some ⟨bz, 0, none⟩) m2 m2)))] at hF
  refine sq ?_
  refine wp_region_lit ?_
  refine stR hF (d_box 0 hM hF rfl) rfl ?_
  rintro _ w' a ⟨b1, rfl, hM, -⟩ hF
  change Mem w w' [some (b1, tenC p n i o (.slice (some ⟨b, 0, none⟩) m m)), none] [(b, numI m g), (bz, numI m2 g2)] at hM
  refine stR hF (d_box 1 hM hF rfl) rfl ?_
  rintro _ w' a ⟨b2, rfl, hM, -⟩ hF
  change Mem w w' [some (b1, tenC p n i o (.slice (some ⟨b, 0, none⟩) m m)), some (b2, tenC p2 n2 i2 o2 (.slice (some ⟨bz, 0, none⟩) m2 m2))] [(b, numI m g), (bz, numI m2 g2)] at hM
  refine st hF (g_assign hF rfl) rfl fun a hF => ?_
  refine wpList_nil ?_
  refine tN ?_
  refine sq ?_
  refine wp_block ?_
  refine sq ?_
  refine wp_region_lit ?_
  refine st hF (g_loadAgg ty_ag_27 hF rfl (hM.row 0 rfl) (by simp only [fnC_size, cells_size, vecC_size, tabC_size, planeC_size, tenC_size, smC_size, numC_size, numI_size] <;> omega) (whole rfl)) rfl fun a hF => ?_
  refine stR hF (d_call Try.call40 hF (.cons rfl .nil) ((CallsR.val (l03Is_ok p n i o b m g _ (hM.fz 0 rfl) (by omega)) (congrArg Value.bool (decide_eq_true h1))))) rfl ?_
  rintro _ w' a ⟨hx, rfl⟩ hF
  have hM := hM.ext hx
  refine st hF (g_not hF rfl) rfl fun a hF => st hF (g_move hF rfl) rfl fun a hF => stY hF rfl rfl rfl (g_loadAgg ty_ag_27 hF rfl (hM.row 1 rfl) (by simp only [fnC_size, cells_size, vecC_size, tabC_size, planeC_size, tenC_size, smC_size, numC_size, numI_size] <;> omega) (whole rfl)) rfl fun a hF => ?_
  refine stYR hF rfl rfl rfl (d_call Try.call40 hF (.cons rfl .nil) ((CallsR.val (l03Is_ok p2 n2 i2 o2 bz m2 g2 _ (hM.fz 1 rfl) (by omega)) (congrArg Value.bool (decide_eq_true h2))))) rfl ?_
  rintro _ w' a ⟨hx, rfl⟩ hF
  have hM := hM.ext hx
  refine stY hF rfl rfl rfl (g_not hF rfl) rfl fun a hF => st hF (g_pickF hF rfl rfl) rfl fun a hF => st hF (g_assign hF rfl) rfl fun a hF => ?_
  refine wpList_nil ?_
  refine tN ?_
  refine c_Fl hF rfl ?_
  refine sq ?_
  refine wp_region_lit ?_
  refine st hF (g_fieldAddr ty_fo_27_0 hF rfl) rfl fun a hF => st hF (g_load ty_on_2 hF rfl (hM.row 0 rfl) (tenC_0 (by omega))) rfl fun a hF => st hF (g_fieldAddr ty_fo_27_0 hF rfl) rfl fun a hF => st hF (g_load ty_on_2 hF rfl (hM.row 1 rfl) (tenC_0 (by omega))) rfl fun a hF => st hF (g_neq hF rfl rfl) rfl fun a hF => st hF (g_move hF rfl) rfl fun a hF => ?_
  by_cases g4 : (p : Int) ≠ p2
  ·
    first | rw [decide_eq_true g4] at hF | simp only [decide_eq_true g4] at hF
    refine stS hF rfl rfl rfl rfl rfl fun a hF => stS hF rfl rfl rfl rfl rfl fun a hF => stS hF rfl rfl rfl rfl rfl fun a hF => stS hF rfl rfl rfl rfl rfl fun a hF => stS hF rfl rfl rfl rfl rfl fun a hF => st hF (g_pickT hF rfl rfl) rfl fun a hF => st hF (g_assign hF rfl) rfl fun a hF => ?_
    refine wpList_nil ?_
    refine tN ?_
    refine c_T hF rfl ?_
    refine sq ?_
    refine wp_region_lit ?_
    refine st hF (g_assign hF rfl) rfl fun a hF => ?_
    refine wpList_nil ?_
    refine tN ?_
    refine wp_ret ?_
    refine iR ?_
    refine tR ?_
    refine fin1 rfl hF.defers (res_tmp hF rfl) ⟨_, rfl, hM.below, ?_⟩
    show _ = _
    rfl
  ·
    first | rw [decide_eq_false g4] at hF | simp only [decide_eq_false g4] at hF
    refine stY hF rfl rfl rfl (g_fieldAddr ty_fo_27_1 hF rfl) rfl fun a hF => stY hF rfl rfl rfl (g_load ty_on_2 hF rfl (hM.row 0 rfl) (tenC_1 (by omega))) rfl fun a hF => stY hF rfl rfl rfl (g_fieldAddr ty_fo_27_1 hF rfl) rfl fun a hF => stY hF rfl rfl rfl (g_load ty_on_2 hF rfl (hM.row 1 rfl) (tenC_1 (by omega))) rfl fun a hF => stY hF rfl rfl rfl (g_neq hF rfl rfl) rfl fun a hF => st hF (g_pickF hF rfl rfl) rfl fun a hF => st hF (g_assign hF rfl) rfl fun a hF => ?_
    refine wpList_nil ?_
    refine tN ?_
    refine c_cond hF rfl (fun h6 => ?_) (fun h6 => ?_)
    ·
      refine sq ?_
      refine wp_region_lit ?_
      refine st hF (g_assign hF rfl) rfl fun a hF => ?_
      refine wpList_nil ?_
      refine tN ?_
      refine wp_ret ?_
      refine iR ?_
      refine tR ?_
      refine fin1 rfl hF.defers (res_tmp hF rfl) ⟨_, rfl, hM.below, ?_⟩
      show _ = _
      rfl
    ·
      exfalso; omega

theorem l03Two_ok (p n i o i2 o2 : Int) (b bz m m2 : Nat) (g g2 : Nat → Int) (w : World) (hb : Blk w b (numI m g)) (hbz : Blk w bz (numI m2 g2)) (hm : m < 10000000) (hm2 : m2 < 10000000) (h1 : TenP p n i o m g) (h2 : TenP p n i2 o2 m2 g2) :
    CallsR Try.prog 62 #[.agg (tenC p n i o (.slice (some ⟨b, 0, none⟩) m m)), .agg (tenC p n i2 o2 (.slice (some ⟨bz, 0, none⟩) m2 m2))] w (fun res _ => res = .int .i64 0) := by
  refine calls_fr [.agg (tenC p n i o (.slice (some ⟨b, 0, none⟩) m m)), .agg (tenC p n i2 o2 (.slice (some ⟨bz, 0, none⟩) m2 m2))] Try.func62 rfl Try.ntmps62 rfl fun a hF => ?_
  have hM : Mem w w [none, none] [(b, numI m g), (bz, numI m2 g2)] := MemX.startD w 2 _ (startD2 hb hbz)
  change Fr 27 a [(0, .agg (tenC p n i o (.slice (some ⟨b, 0, none⟩) m m))), (1, .agg (tenC p n i2 o2 (.slice (some ⟨bz, 0, none⟩) m2 m2)))] at hF
  refine sq ?_
  refine wp_region_lit ?_
  refine stR hF (d_box 0 hM hF rfl) rfl ?_
  rintro _ w' a ⟨b1, rfl, hM, -⟩ hF
  change Mem w w' [some (b1, tenC p n i o (.slice (some ⟨b, 0, none⟩) m m)), none] [(b, numI m g), (bz, numI m2 g2)] at hM
  refine stR hF (d_box 1 hM hF rfl) rfl ?_
  rintro _ w' a ⟨b2, rfl, hM, -⟩ hF
  change Mem w w' [some (b1, tenC p n i o (.slice (some ⟨b, 0, none⟩) m m)), some (b2, tenC p n i2 o2 (.slice (some ⟨bz, 0, none⟩) m2 m2))] [(b, numI m g), (bz, numI m2 g2)] at hM
  refine st hF (g_assign hF rfl) rfl fun a hF => ?_
  refine wpList_nil ?_
  refine tN ?_
  refine sq ?_
  refine wp_block ?_
  refine sq ?_
  refine wp_region_lit ?_
  refine st hF (g_loadAgg ty_ag_27 hF rfl (hM.row 0 rfl) (by simp only [fnC_size, cells_size, vecC_size, tabC_size, planeC_size, tenC_size, smC_size, numC_size, numI_size] <;> omega) (whole rfl)) rfl fun a hF => ?_
  refine stR hF (d_call Try.call40 hF (.cons rfl .nil) ((CallsR.val (l03Is_ok p n i o b m g _ (hM.fz 0 rfl) (by omega)) (congrArg Value.bool (decide_eq_true h1))))) rfl ?_
  rintro _ w' a ⟨hx, rfl⟩ hF
  have hM := hM.ext hx
  refine st hF (g_not hF rfl) rfl fun a hF => st hF (g_move hF rfl) rfl fun a hF => stY hF rfl rfl rfl (g_loadAgg ty_ag_27 hF rfl (hM.row 1 rfl) (by simp only [fnC_size, cells_size, vecC_size, tabC_size, planeC_size, tenC_size, smC_size, numC_size, numI_size] <;> omega) (whole rfl)) rfl fun a hF => ?_
  refine stYR hF rfl rfl rfl (d_call Try.call40 hF (.cons rfl .nil) ((CallsR.val (l03Is_ok p n i2 o2 bz m2 g2 _ (hM.fz 1 rfl) (by omega)) (congrArg Value.bool (decide_eq_true h2))))) rfl ?_
  rintro _ w' a ⟨hx, rfl⟩ hF
  have hM := hM.ext hx
  refine stY hF rfl rfl rfl (g_not hF rfl) rfl fun a hF => st hF (g_pickF hF rfl rfl) rfl fun a hF => st hF (g_assign hF rfl) rfl fun a hF => ?_
  refine wpList_nil ?_
  refine tN ?_
  refine c_Fl hF rfl ?_
  refine sq ?_
  refine wp_region_lit ?_
  refine st hF (g_fieldAddr ty_fo_27_0 hF rfl) rfl fun a hF => st hF (g_load ty_on_2 hF rfl (hM.row 0 rfl) (tenC_0 (by omega))) rfl fun a hF => st hF (g_fieldAddr ty_fo_27_0 hF rfl) rfl fun a hF => st hF (g_load ty_on_2 hF rfl (hM.row 1 rfl) (tenC_0 (by omega))) rfl fun a hF => st hF (g_neq hF rfl rfl) rfl fun a hF => st hF (g_move hF rfl) rfl fun a hF => ?_
  by_cases g4 : (p : Int) ≠ p
  ·
    first | rw [decide_eq_true g4] at hF | simp only [decide_eq_true g4] at hF
    first | exact absurd rfl g4 | (exfalso; omega)
  ·
    first | rw [decide_eq_false g4] at hF | simp only [decide_eq_false g4] at hF
    refine stY hF rfl rfl rfl (g_fieldAddr ty_fo_27_1 hF rfl) rfl fun a hF => stY hF rfl rfl rfl (g_load ty_on_2 hF rfl (hM.row 0 rfl) (tenC_1 (by omega))) rfl fun a hF => stY hF rfl rfl rfl (g_fieldAddr ty_fo_27_1 hF rfl) rfl fun a hF => stY hF rfl rfl rfl (g_load ty_on_2 hF rfl (hM.row 1 rfl) (tenC_1 (by omega))) rfl fun a hF => stY hF rfl rfl rfl (g_neq hF rfl rfl) rfl fun a hF => st hF (g_pickF hF rfl rfl) rfl fun a hF => st hF (g_assign hF rfl) rfl fun a hF => ?_
    refine wpList_nil ?_
    refine tN ?_
    refine c_cond hF rfl (fun h5 => ?_) (fun h5 => ?_)
    ·
      first | exact absurd rfl h5 | (exfalso; simp_all; done) | (exfalso; omega)
    ·
      refine wp_skip ?_
      refine iN ?_
      refine tN ?_
      refine sq ?_
      refine wp_region_lit ?_
      refine st hF (g_assign hF rfl) rfl fun a hF => ?_
      refine wpList_nil ?_
      refine tN ?_
      refine wp_ret ?_
      refine fin1 rfl hF.defers (res_tmp hF rfl) ⟨_, rfl, hM.below, ?_⟩
      show _ = _
      rfl

theorem AddTensorsIA (p n i o p2 n2 i2 o2 : Int) (b bz m m2 : Nat) (g g2 : Nat → Int) (k : Int) (w : World) (hb : Blk w b (numI m g)) (hbz : Blk w bz (numI m2 g2)) (hm : m < 10000000) (hm2 : m2 < 10000000) (hA : ¬ (TenP p n i o m g ∧ TenP p2 n2 i2 o2 m2 g2)) :
    CallsR Try.prog 36 #[.agg (tenC p n i o (.slice (some ⟨b, 0, none⟩) m m)), .agg (tenC p2 n2 i2 o2 (.slice (some ⟨bz, 0, none⟩) m2 m2)), .int .i64 (k)] w (fun res _ => res = .tuple #[.agg (tenC 0 0 0 0 (.slice none 0 0)), .int .i64 1]) := by
  refine calls_fr [.agg (tenC p n i o (.slice (some ⟨b, 0, none⟩) m m)), .agg (tenC p2 n2 i2 o2 (.slice (some ⟨bz, 0, none⟩) m2 m2)), .int .i64 (k)] Try.func36 rfl Try.ntmps36 rfl fun a hF => ?_
  have hM : Mem w w [none, none, none, none, none, none] [(b, numI m g), (bz, numI m2 g2)] := MemX.startD w 6 _ (startD2 hb hbz)
  change Fr 64 a [(0, .agg (tenC p n i o (.slice (some ⟨b, 0, none⟩) m m))), (1, .agg (tenC p2 n2 i2 o2 (.slice (some ⟨bz, 0, none⟩) m2 m2))), (2, .int .i64 (k))] at hF
  refine sq ?_
  refine wp_region_lit ?_
  refine stR hF (d_box 0 hM hF rfl) rfl ?_
  rintro _ w' a ⟨b1, rfl, hM, -⟩ hF
  change Mem w w' [some (b1, tenC p n i o (.slice (some ⟨b, 0, none⟩) m m)), none, none, none, none, none] [(b, numI m g), (bz, numI m2 g2)] at hM
  refine stR hF (d_box 1 hM hF rfl) rfl ?_
  rintro _ w' a ⟨b2, rfl, hM, -⟩ hF
  change Mem w w' [some (b1, tenC p n i o (.slice (some ⟨b, 0, none⟩) m m)), some (b2, tenC p2 n2 i2 o2 (.slice (some ⟨bz, 0, none⟩) m2 m2)), none, none, none, none] [(b, numI m g), (bz, numI m2 g2)] at hM
  refine stR hF (d_alloc 2 hM ty_ze_27) rfl ?_
  rintro _ w' a ⟨b3, rfl, hM, -⟩ hF
  change Mem w w' [some (b1, tenC p n i o (.slice (some ⟨b, 0, none⟩) m m)), some (b2, tenC p2 n2 i2 o2 (.slice (some ⟨bz, 0, none⟩) m2 m2)), some (b3, tenC 0 0 0 0 (.slice none 0 0)), none, none, none] [(b, numI m g), (bz, numI m2 g2)] at hM
  refine st hF (g_assign hF rfl) rfl fun a hF => ?_
  refine wpList_nil ?_
  refine tN ?_
  refine sq ?_
  refine wp_region_lit ?_
  refine st hF (g_loadAgg ty_ag_27 hF rfl (hM.row 0 rfl) (by simp only [fnC_size, cells_size, vecC_size, tabC_size, planeC_size, tenC_size, smC_size, numC_size, numI_size] <;> omega) (whole rfl)) rfl fun a hF => st hF (g_loadAgg ty_ag_27 hF rfl (hM.row 1 rfl) (by simp only [fnC_size, cells_size, vecC_size, tabC_size, planeC_size, tenC_size, smC_size, numC_size, numI_size] <;> omega) (whole rfl)) rfl fun a hF => st hF (g_fieldAddr ty_fo_27_2 hF rfl) rfl fun a hF => st hF (g_load ty_on_2 hF rfl (hM.row 0 rfl) (tenC_2 (by omega))) rfl fun a hF => st hF (g_fieldAddr ty_fo_27_2 hF rfl) rfl fun a hF => st hF (g_load ty_on_2 hF rfl (hM.row 1 rfl) (tenC_2 (by omega))) rfl fun a hF => st hF (g_eql hF rfl rfl) rfl fun a hF => st hF (g_move hF rfl) rfl fun a hF => ?_
  by_cases g4 : (i : Int) = i2
  ·
    first | rw [decide_eq_true g4] at hF | simp only [decide_eq_true g4] at hF
    refine stY hF rfl rfl rfl (g_fieldAddr ty_fo_27_3 hF rfl) rfl fun a hF => stY hF rfl rfl rfl (g_load ty_on_2 hF rfl (hM.row 0 rfl) (tenC_3 (by omega))) rfl fun a hF => stY hF rfl rfl rfl (g_fieldAddr ty_fo_27_3 hF rfl) rfl fun a hF => stY hF rfl rfl rfl (g_load ty_on_2 hF rfl (hM.row 1 rfl) (tenC_3 (by omega))) rfl fun a hF => stY hF rfl rfl rfl (g_eql hF rfl rfl) rfl fun a hF => st hF (g_pickT hF rfl rfl) rfl fun a hF => st hF (g_move hF rfl) rfl fun a hF => ?_
    by_cases g5 : (o : Int) = o2
    ·
      first | rw [decide_eq_true g5] at hF | simp only [decide_eq_true g5] at hF
      refine stY hF rfl rfl rfl (g_move hF rfl) rfl fun a hF => stY hF rfl rfl rfl (g_geq hF rfl rfl) rfl fun a hF => st hF (g_pickT hF rfl rfl) rfl fun a hF => st hF (g_move hF rfl) rfl fun a hF => ?_
      by_cases g6 : 0 ≤ (k : Int)
      ·
        first | rw [decide_eq_true g6] at hF | simp only [decide_eq_true g6] at hF
        refine stY hF rfl rfl rfl (g_move hF rfl) rfl fun a hF => stY hF rfl rfl rfl (g_fieldAddr ty_fo_27_0 hF rfl) rfl fun a hF => stY hF rfl rfl rfl (g_load ty_on_2 hF rfl (hM.row 0 rfl) (tenC_0 (by omega))) rfl fun a hF => stY hF rfl rfl rfl (g_lss hF rfl rfl) rfl fun a hF => st hF (g_pickT hF rfl rfl) rfl fun a hF => ?_
        refine stR hF (d_call Try.call64 hF (.cons rfl (.cons rfl (.cons rfl .nil))) (pairFault_A p n i o p2 n2 i2 o2 b bz m m2 g g2 ((decide ((k : Int) < p))) _ (hM.fz 0 rfl) (hM.fz 1 rfl) (by omega) (by omega) hA)) rfl ?_
        rintro _ w' a ⟨hx, rfl⟩ hF
        have hM := hM.ext hx
        refine st hF (g_assign hF rfl) rfl fun a hF => ?_
        refine wpList_nil ?_
        refine tN ?_
        refine sq ?_
        refine sq ?_
        refine wp_region_lit ?_
        refine st hF (g_move hF rfl) rfl fun a hF => st hF (g_neq hF rfl rfl) rfl fun a hF => ?_
        refine wpList_nil ?_
        refine tN ?_
        refine c_kT hF rfl (by decide) ?_
        refine sq ?_
        refine wp_region_lit ?_
        refine st hF (g_build0 ty_bu_27) rfl fun a hF => st hF (g_move hF rfl) rfl fun a hF => ?_
        refine stN hF (d_storeAgg 2 hM rfl ty_sz_27 hF rfl rfl (tenC_one rfl) (by simp only [fnC_size, cells_size, vecC_size, tabC_size, planeC_size, tenC_size, smC_size, numC_size, numI_size]) (by simp only [fnC_size, cells_size, vecC_size, tabC_size, planeC_size, tenC_size, smC_size, numC_size, numI_size] <;> omega) (splice_whole _ _ rfl)) ?_
        intro _ w' a hM hF
        change Mem w w' [some (b1, tenC p n i o (.slice (some ⟨b, 0, none⟩) m m)), some (b2, tenC p2 n2 i2 o2 (.slice (some ⟨bz, 0, none⟩) m2 m2)), some (b3, tenC 0 0 0 0 (.slice none 0 0)), none, none, none] [(b, numI m g), (bz, numI m2 g2)] at hM
        refine st hF (g_assign hF rfl) rfl fun a hF => ?_
        refine wpList_nil ?_
        refine tN ?_
        refine wp_ret ?_
        refine tR ?_
        refine fin2 rfl hF.defers (res_agg ty_ag_27 hF rfl (hM.row 2 rfl) (by simp only [fnC_size, cells_size, vecC_size, tabC_size, planeC_size, tenC_size, smC_size, numC_size, numI_size])) (res_tmp hF rfl) ⟨_, rfl, hM.below, ?_⟩
        show _ = _
        rfl
      ·
        first | rw [decide_eq_false g6] at hF | simp only [decide_eq_false g6] at hF
        refine stS hF rfl rfl rfl rfl rfl fun a hF => stS hF rfl rfl rfl rfl rfl fun a hF => stS hF rfl rfl rfl rfl rfl fun a hF => stS hF rfl rfl rfl rfl rfl fun a hF => st hF (g_pickF hF rfl rfl) rfl fun a hF => ?_
        refine stR hF (d_call Try.call64 hF (.cons rfl (.cons rfl (.cons rfl .nil))) (pairFault_A p n i o p2 n2 i2 o2 b bz m m2 g g2 ((false)) _ (hM.fz 0 rfl) (hM.fz 1 rfl) (by omega) (by omega) hA)) rfl ?_
        rintro _ w' a ⟨hx, rfl⟩ hF
        have hM := hM.ext hx
        refine st hF (g_assign hF rfl) rfl fun a hF => ?_
        refine wpList_nil ?_
        refine tN ?_
        refine sq ?_
        refine sq ?_
        refine wp_region_lit ?_
        refine st hF (g_move hF rfl) rfl fun a hF => st hF (g_neq hF rfl rfl) rfl fun a hF => ?_
        refine wpList_nil ?_
        refine tN ?_
        refine c_kT hF rfl (by decide) ?_
        refine sq ?_
        refine wp_region_lit ?_
        refine st hF (g_build0 ty_bu_27) rfl fun a hF => st hF (g_move hF rfl) rfl fun a hF => ?_
        refine stN hF (d_storeAgg 2 hM rfl ty_sz_27 hF rfl rfl (tenC_one rfl) (by simp only [fnC_size, cells_size, vecC_size, tabC_size, planeC_size, tenC_size, smC_size, numC_size, numI_size]) (by simp only [fnC_size, cells_size, vecC_size, tabC_size, planeC_size, tenC_size, smC_size, numC_size, numI_size] <;> omega) (splice_whole _ _ rfl)) ?_
        intro _ w' a hM hF
        change Mem w w' [some (b1, tenC p n i o (.slice (some ⟨b, 0, none⟩) m m)), some (b2, tenC p2 n2 i2 o2 (.slice (some ⟨bz, 0, none⟩) m2 m2)), some (b3, tenC 0 0 0 0 (.slice none 0 0)), none, none, none] [(b, numI m g), (bz, numI m2 g2)] at hM
        refine st hF (g_assign hF rfl) rfl fun a hF => ?_
        refine wpList_nil ?_
        refine tN ?_
        refine wp_ret ?_
        refine tR ?_
        refine fin2 rfl hF.defers (res_agg ty_ag_27 hF rfl (hM.row 2 rfl) (by simp only [fnC_size, cells_size, vecC_size, tabC_size, planeC_size, tenC_size, smC_size, numC_size, numI_size])) (res_tmp hF rfl) ⟨_, rfl, hM.below, ?_⟩
        show _ = _
        rfl
    ·
      first | rw [decide_eq_false g5] at hF | simp only [decide_eq_false g5] at hF
      refine stS hF rfl rfl rfl rfl rfl fun a hF => stS hF rfl rfl rfl rfl rfl fun a hF => st hF (g_pickF hF rfl rfl) rfl fun a hF => st hF (g_move hF rfl) rfl fun a hF => stS hF rfl rfl rfl rfl rfl fun a hF => stS hF rfl rfl rfl rfl rfl fun a hF => stS hF rfl rfl rfl rfl rfl fun a hF => stS hF rfl rfl rfl rfl rfl fun a hF => st hF (g_pickF hF rfl rfl) rfl fun a hF => ?_
      refine stR hF (d_call Try.call64 hF (.cons rfl (.cons rfl (.cons rfl .nil))) (pairFault_A p n i o p2 n2 i2 o2 b bz m m2 g g2 ((false)) _ (hM.fz 0 rfl) (hM.fz 1 rfl) (by omega) (by omega) hA)) rfl ?_
      rintro _ w' a ⟨hx, rfl⟩ hF
      have hM := hM.ext hx
      refine st hF (g_assign hF rfl) rfl fun a hF => ?_
      refine wpList_nil ?_
      refine tN ?_
      refine sq ?_
      refine sq ?_
      refine wp_region_lit ?_
      refine st hF (g_move hF rfl) rfl fun a hF => st hF (g_neq hF rfl rfl) rfl fun a hF => ?_
      refine wpList_nil ?_
      refine tN ?_
      refine c_kT hF rfl (by decide) ?_
      refine sq ?_
      refine wp_region_lit ?_
      refine st hF (g_build0 ty_bu_27) rfl fun a hF => st hF (g_move hF rfl) rfl fun a hF => ?_
      refine stN hF (d_storeAgg 2 hM rfl ty_sz_27 hF rfl rfl (tenC_one rfl) (by simp only [fnC_size, cells_size, vecC_size, tabC_size, planeC_size, tenC_size, smC_size, numC_size, numI_size]) (by simp only [fnC_size, cells_size, vecC_size, tabC_size, planeC_size, tenC_size, smC_size, numC_size, numI_size] <;> omega) (splice_whole _ _ rfl)) ?_
      intro _ w' a hM hF
      change Mem w w' [some (b1, tenC p n i o (.slice (some ⟨b, 0, none⟩) m m)), some (b2, tenC p2 n2 i2 o2 (.slice (some ⟨bz, 0, none⟩) m2 m2)), some (b3, tenC 0 0 0 0 (.slice none 0 0)), none, none, none] [(b, numI m g), (bz, numI m2 g2)] at hM
      refine st hF (g_assign hF rfl) rfl fun a hF => ?_
      refine wpList_nil ?_
      refine tN ?_
      refine wp_ret ?_
      refine tR ?_
      refine fin2 rfl hF.defers (res_agg ty_ag_27 hF rfl (hM.row 2 rfl) (by simp only [fnC_size, cells_size, vecC_size, tabC_size, planeC_size, tenC_size, smC_size, numC_size, numI_size])) (res_tmp hF rfl) ⟨_, rfl, hM.below, ?_⟩
      show _ = _
      rfl
  ·
    first | rw [decide_eq_false g4] at hF | simp only [decide_eq_false g4] at hF
    refine stS hF rfl rfl rfl rfl rfl fun a hF => stS hF rfl rfl rfl rfl rfl fun a hF => stS hF rfl rfl rfl rfl rfl fun a hF => stS hF rfl rfl rfl rfl rfl fun a hF => stS hF rfl rfl rfl rfl rfl fun a hF => st hF (g_pickF hF rfl rfl) rfl fun a hF => st hF (g_move hF rfl) rfl fun a hF => stS hF rfl rfl rfl rfl rfl fun a hF => stS hF rfl rfl rfl rfl rfl fun a hF => st hF (g_pickF hF rfl rfl) rfl fun a hF => st hF (g_move hF rfl) rfl fun a hF => stS hF rfl rfl rfl rfl rfl fun a hF => stS hF rfl rfl rfl rfl rfl fun a hF => stS hF rfl rfl rfl rfl rfl fun a hF => stS hF rfl rfl rfl rfl rfl fun a hF => st hF (g_pickF hF rfl rfl) rfl fun a hF => ?_
    refine stR hF (d_call Try.call64 hF (.cons rfl (.cons rfl (.cons rfl .nil))) (pairFault_A p n i o p2 n2 i2 o2 b bz m m2 g g2 ((false)) _ (hM.fz 0 rfl) (hM.fz 1 rfl) (by omega) (by omega) hA)) rfl ?_
    rintro _ w' a ⟨hx, rfl⟩ hF
    have hM := hM.ext hx
    refine st hF (g_assign hF rfl) rfl fun a hF => ?_
    refine wpList_nil ?_
    refine tN ?_
    refine sq ?_
    refine sq ?_
    refine wp_region_lit ?_
    refine st hF (g_move hF rfl) rfl fun a hF => st hF (g_neq hF rfl rfl) rfl fun a hF => ?_
    refine wpList_nil ?_
    refine tN ?_
    refine c_kT hF rfl (by decide) ?_
    refine sq ?_
    refine wp_region_lit ?_
    refine st hF (g_build0 ty_bu_27) rfl fun a hF => st hF (g_move hF rfl) rfl fun a hF => ?_
    refine stN hF (d_storeAgg 2 hM rfl ty_sz_27 hF rfl rfl (tenC_one rfl) (by simp only [fnC_size, cells_size, vecC_size, tabC_size, planeC_size, tenC_size, smC_size, numC_size, numI_size]) (by simp only [fnC_size, cells_size, vecC_size, tabC_size, planeC_size, tenC_size, smC_size, numC_size, numI_size] <;> omega) (splice_whole _ _ rfl)) ?_
    intro _ w' a hM hF
    change Mem w w' [some (b1, tenC p n i o (.slice (some ⟨b, 0, none⟩) m m)), some (b2, tenC p2 n2 i2 o2 (.slice (some ⟨bz, 0, none⟩) m2 m2)), some (b3, tenC 0 0 0 0 (.slice none 0 0)), none, none, none] [(b, numI m g), (bz, numI m2 g2)] at hM
    refine st hF (g_assign hF rfl) rfl fun a hF => ?_
    refine wpList_nil ?_
    refine tN ?_
    refine wp_ret ?_
    refine tR ?_
    refine fin2 rfl hF.defers (res_agg ty_ag_27 hF rfl (hM.row 2 rfl) (by simp only [fnC_size, cells_size, vecC_size, tabC_size, planeC_size, tenC_size, smC_size, numC_size, numI_size])) (res_tmp hF rfl) ⟨_, rfl, hM.below, ?_⟩
    show _ = _
    rfl

theorem AddTensorsSA (p n i o p2 n2 i2 o2 : Int) (b bz m m2 : Nat) (g g2 : Nat → Int) (k : Int) (w : World) (hb : Blk w b (numI m g)) (hbz : Blk w bz (numI m2 g2)) (hm : m < 10000000) (hm2 : m2 < 10000000) (hA : ¬ (TenP p n i o m g ∧ TenP p2 n2 i2 o2 m2 g2)) :
    CallsR Try.prog 35 #[.agg (tenC p n i o (.slice (some ⟨b, 0, none⟩) m m)), .agg (tenC p2 n2 i2 o2 (.slice (some ⟨bz, 0, none⟩) m2 m2)), .int .i64 (k)] w (fun res _ => res = .tuple #[.agg (tenC 0 0 0 0 (.slice none 0 0)), .int .i64 1]) := by
  refine calls_fr [.agg (tenC p n i o (.slice (some ⟨b, 0, none⟩) m m)), .agg (tenC p2 n2 i2 o2 (.slice (some ⟨bz, 0, none⟩) m2 m2)), .int .i64 (k)] Try.func35 rfl Try.ntmps35 rfl fun a hF => ?_
  have hM : Mem w w [none, none, none, none, none] [(b, numI m g), (bz, numI m2 g2)] := MemX.startD w 5 _ (startD2 hb hbz)
  change Fr 79 a [(0, .agg (tenC p n i o (.slice (some ⟨b, 0, none⟩) m m))), (1, .agg (tenC p2 n2 i2 o2 (.slice (some ⟨bz, 0, none⟩) m2 m2))), (2, .int .i64 (k))] at hF
  refine sq ?_
  refine wp_region_lit ?_
  refine stR hF (d_box 0 hM hF rfl) rfl ?_
  rintro _ w' a ⟨b1, rfl, hM, -⟩ hF
  change Mem w w' [some (b1, tenC p n i o (.slice (some ⟨b, 0, none⟩) m m)), none, none, none, none] [(b, numI m g), (bz, numI m2 g2)] at hM
  refine stR hF (d_box 1 hM hF rfl) rfl ?_
  rintro _ w' a ⟨b2, rfl, hM, -⟩ hF
  change Mem w w' [some (b1, tenC p n i o (.slice (some ⟨b, 0, none⟩) m m)), some (b2, tenC p2 n2 i2 o2 (.slice (some ⟨bz, 0, none⟩) m2 m2)), none, none, none] [(b, numI m g), (bz, numI m2 g2)] at hM
  refine stR hF (d_alloc 2 hM ty_ze_27) rfl ?_
  rintro _ w' a ⟨b3, rfl, hM, -⟩ hF
  change Mem w w' [some (b1, tenC p n i o (.slice (some ⟨b, 0, none⟩) m m)), some (b2, tenC p2 n2 i2 o2 (.slice (some ⟨bz, 0, none⟩) m2 m2)), some (b3, tenC 0 0 0 0 (.slice none 0 0)), none, none] [(b, numI m g), (bz, numI m2 g2)] at hM
  refine st hF (g_assign hF rfl) rfl fun a hF => ?_
  refine wpList_nil ?_
  refine tN ?_
  refine sq ?_
  refine wp_region_lit ?_
  refine st hF (g_loadAgg ty_ag_27 hF rfl (hM.row 0 rfl) (by simp only [fnC_size, cells_size, vecC_size, tabC_size, planeC_size, tenC_size, smC_size, numC_size, numI_size] <;> omega) (whole rfl)) rfl fun a hF => st hF (g_loadAgg ty_ag_27 hF rfl (hM.row 1 rfl) (by simp only [fnC_size, cells_size, vecC_size, tabC_size, planeC_size, tenC_size, smC_size, numC_size, numI_size] <;> omega) (whole rfl)) rfl fun a hF => ?_
  refine stR hF (d_call Try.call62 hF (.cons rfl (.cons rfl .nil)) (l03Two_A p n i o p2 n2 i2 o2 b bz m m2 g g2 _ (hM.fz 0 rfl) (hM.fz 1 rfl) (by omega) (by omega) hA)) rfl ?_
  rintro _ w' a ⟨hx, rfl⟩ hF
  have hM := hM.ext hx
  refine st hF (g_assign hF rfl) rfl fun a hF => ?_
  refine wpList_nil ?_
  refine tN ?_
  refine sq ?_
  refine sq ?_
  refine wp_region_lit ?_
  refine st hF (g_move hF rfl) rfl fun a hF => st hF (g_eql hF rfl rfl) rfl fun a hF => st hF (g_move hF rfl) rfl fun a hF => ?_
  rw [show decide ((1 : Int) = 0) = false from by decide] at hF
  refine stS hF rfl rfl rfl rfl rfl fun a hF => stS hF rfl rfl rfl rfl rfl fun a hF => stS hF rfl rfl rfl rfl rfl fun a hF => stS hF rfl rfl rfl rfl rfl fun a hF => stS hF rfl rfl rfl rfl rfl fun a hF => stS hF rfl rfl rfl rfl rfl fun a hF => stU hF rfl rfl rfl rfl fun a hF => stU hF rfl rfl rfl rfl fun a hF => stU hF rfl rfl rfl rfl fun a hF => stU hF rfl rfl rfl rfl fun a hF => stU hF rfl rfl rfl rfl fun a hF => stS hF rfl rfl rfl rfl rfl fun a hF => stS hF rfl rfl rfl rfl rfl fun a hF => stU hF rfl rfl rfl rfl fun a hF => stU hF rfl rfl rfl rfl fun a hF => stU hF rfl rfl rfl rfl fun a hF => stU hF rfl rfl rfl rfl fun a hF => stU hF rfl rfl rfl rfl fun a hF => stU hF rfl rfl rfl rfl fun a hF => stS hF rfl rfl rfl rfl rfl fun a hF => st hF (g_pickF hF rfl rfl) rfl fun a hF => ?_
  refine wpList_nil ?_
  refine tN ?_
  refine c_Fl hF rfl ?_
  refine wp_skip ?_
  refine tN ?_
  refine sq ?_
  refine sq ?_
  refine wp_region_lit ?_
  refine st hF (g_move hF rfl) rfl fun a hF => st hF (g_neq hF rfl rfl) rfl fun a hF => ?_
  refine wpList_nil ?_
  refine tN ?_
  refine c_kT hF rfl (by decide) ?_
  refine sq ?_
  refine wp_region_lit ?_
  refine st hF (g_build0 ty_bu_27) rfl fun a hF => st hF (g_move hF rfl) rfl fun a hF => ?_
  refine stN hF (d_storeAgg 2 hM rfl ty_sz_27 hF rfl rfl (tenC_one rfl) (by simp only [fnC_size, cells_size, vecC_size, tabC_size, planeC_size, tenC_size, smC_size, numC_size, numI_size]) (by simp only [fnC_size, cells_size, vecC_size, tabC_size, planeC_size, tenC_size, smC_size, numC_size, numI_size] <;> omega) (splice_whole _ _ rfl)) ?_
  intro _ w' a hM hF
  change Mem w w' [some (b1, tenC p n i o (.slice (some ⟨b, 0, none⟩) m m)), some (b2, tenC p2 n2 i2 o2 (.slice (some ⟨bz, 0, none⟩) m2 m2)), some (b3, tenC 0 0 0 0 (.slice none 0 0)), none, none] [(b, numI m g), (bz, numI m2 g2)] at hM
  refine st hF (g_assign hF rfl) rfl fun a hF => ?_
  refine wpList_nil ?_
  refine tN ?_
  refine wp_ret ?_
  refine tR ?_
  refine fin2 rfl hF.defers (res_agg ty_ag_27 hF rfl (hM.row 2 rfl) (by simp only [fnC_size, cells_size, vecC_size, tabC_size, planeC_size, tenC_size, smC_size, numC_size, numI_size])) (res_tmp hF rfl) ⟨_, rfl, hM.below, ?_⟩
  show _ = _
  rfl

theorem AddTensorsIR1 (p n i o p2 n2 i2 o2 : Int) (b bz m m2 : Nat) (g g2 : Nat → Int) (k : Int) (w : World) (hb : Blk w b (numI m g)) (hbz : Blk w bz (numI m2 g2)) (hm : m < 10000000) (hm2 : m2 < 10000000) (h1 : TenP p n i o m g) (h2 : TenP p2 n2 i2 o2 m2 g2) (hR : ¬ (p = p2 ∧ n = n2)) :
    CallsR Try.prog 36 #[.agg (tenC p n i o (.slice (some ⟨b, 0, none⟩) m m)), .agg (tenC p2 n2 i2 o2 (.slice (some ⟨bz, 0, none⟩) m2 m2)), .int .i64 (k)] w (fun res _ => res = .tuple #[.agg (tenC 0 0 0 0 (.slice none 0 0)), .int .i64 2]) := by
  refine calls_fr [.agg (tenC p n i o (.slice (some ⟨b, 0, none⟩) m m)), .agg (tenC p2 n2 i2 o2 (.slice (some ⟨bz, 0, none⟩) m2 m2)), .int .i64 (k)] Try.func36 rfl Try.ntmps36 rfl fun a hF => ?_
  have hM : Mem w w [none, none, none, none, none, none] [(b, numI m g), (bz, numI m2 g2)] := MemX.startD w 6 _ (startD2 hb hbz)
  change Fr 64 a [(0, .agg (tenC p n i o (.slice (some ⟨b, 0, none⟩) m m))), (1, .agg (tenC p2 n2 i2 o2 (.slice (some ⟨bz, 0, none⟩) m2 m2))), (2, .int .i64 (k))] at hF
  refine sq ?_
  refine wp_region_lit ?_
  refine stR hF (d_box 0 hM hF rfl) rfl ?_
  rintro _ w' a ⟨b1, rfl, hM, -⟩ hF
  change Mem w w' [some (b1, tenC p n i o (.slice (some ⟨b, 0, none⟩) m m)), none, none, none, none, none] [(b, numI m g), (bz, numI m2 g2)] at hM
  refine stR hF (d_box 1 hM hF rfl) rfl ?_
  rintro _ w' a ⟨b2, rfl, hM, -⟩ hF
  change Mem w w' [some (b1, tenC p n i o (.slice (some ⟨b, 0, none⟩) m m)), some (b2, tenC p2 n2 i2 o2 (.slice (some ⟨bz, 0, none⟩) m2 m2)), none, none, none, none] [(b, numI m g), (bz, numI m2 g2)] at hM
  refine stR hF (d_alloc 2 hM ty_ze_27) rfl ?_
  rintro _ w' a ⟨b3, rfl, hM, -⟩ hF
  change Mem w w' [some (b1, tenC p n i o (.slice (some ⟨b, 0, none⟩) m m)), some (b2, tenC p2 n2 i2 o2 (.slice (some ⟨bz, 0, none⟩) m2 m2)), some (b3, tenC 0 0 0 0 (.slice none 0 0)), none, none, none] [(b, numI m g), (bz, numI m2 g2)] at hM
  refine st hF (g_assign hF rfl) rfl fun a hF => ?_
  refine wpList_nil ?_
  refine tN ?_
  refine sq ?_
  refine wp_region_lit ?_
  refine st hF (g_loadAgg ty_ag_27 hF rfl (hM.row 0 rfl) (by simp only [fnC_size, cells_size, vecC_size, tabC_size, planeC_size, tenC_size, smC_size, numC_size, numI_size] <;> omega) (whole rfl)) rfl fun a hF => st hF (g_loadAgg ty_ag_27 hF rfl (hM.row 1 rfl) (by simp only [fnC_size, cells_size, vecC_size, tabC_size, planeC_size, tenC_size, smC_size, numC_size, numI_size] <;> omega) (whole rfl)) rfl fun a hF => st hF (g_fieldAddr ty_fo_27_2 hF rfl) rfl fun a hF => st hF (g_load ty_on_2 hF rfl (hM.row 0 rfl) (tenC_2 (by omega))) rfl fun a hF => st hF (g_fieldAddr ty_fo_27_2 hF rfl) rfl fun a hF => st hF (g_load ty_on_2 hF rfl (hM.row 1 rfl) (tenC_2 (by omega))) rfl fun a hF => st hF (g_eql hF rfl rfl) rfl fun a hF => st hF (g_move hF rfl) rfl fun a hF => ?_
  by_cases g4 : (i : Int) = i2
  ·
    first | rw [decide_eq_true g4] at hF | simp only [decide_eq_true g4] at hF
    refine stY hF rfl rfl rfl (g_fieldAddr ty_fo_27_3 hF rfl) rfl fun a hF => stY hF rfl rfl rfl (g_load ty_on_2 hF rfl (hM.row 0 rfl) (tenC_3 (by omega))) rfl fun a hF => stY hF rfl rfl rfl (g_fieldAddr ty_fo_27_3 hF rfl) rfl fun a hF => stY hF rfl rfl rfl (g_load ty_on_2 hF rfl (hM.row 1 rfl) (tenC_3 (by omega))) rfl fun a hF => stY hF rfl rfl rfl (g_eql hF rfl rfl) rfl fun a hF => st hF (g_pickT hF rfl rfl) rfl fun a hF => st hF (g_move hF rfl) rfl fun a hF => ?_
    by_cases g5 : (o : Int) = o2
    ·
      first | rw [decide_eq_true g5] at hF | simp only [decide_eq_true g5] at hF
      refine stY hF rfl rfl rfl (g_move hF rfl) rfl fun a hF => stY hF rfl rfl rfl (g_geq hF rfl rfl) rfl fun a hF => st hF (g_pickT hF rfl rfl) rfl fun a hF => st hF (g_move hF rfl) rfl fun a hF => ?_
      by_cases g6 : 0 ≤ (k : Int)
      ·
        first | rw [decide_eq_true g6] at hF | simp only [decide_eq_true g6] at hF
        refine stY hF rfl rfl rfl (g_move hF rfl) rfl fun a hF => stY hF rfl rfl rfl (g_fieldAddr ty_fo_27_0 hF rfl) rfl fun a hF => stY hF rfl rfl rfl (g_load ty_on_2 hF rfl (hM.row 0 rfl) (tenC_0 (by omega))) rfl fun a hF => stY hF rfl rfl rfl (g_lss hF rfl rfl) rfl fun a hF => st hF (g_pickT hF rfl rfl) rfl fun a hF => ?_
        refine stR hF (d_call Try.call64 hF (.cons rfl (.cons rfl (.cons rfl .nil))) (pairFault_R p n i o p2 n2 i2 o2 b bz m m2 g g2 ((decide ((k : Int) < p))) _ (hM.fz 0 rfl) (hM.fz 1 rfl) (by omega) (by omega) h1 h2 (fun q => hR ⟨q.1, q.2.1⟩))) rfl ?_
        rintro _ w' a ⟨hx, rfl⟩ hF
        have hM := hM.ext hx
        refine st hF (g_assign hF rfl) rfl fun a hF => ?_
        refine wpList_nil ?_
        refine tN ?_
        refine sq ?_
        refine sq ?_
        refine wp_region_lit ?_
        refine st hF (g_move hF rfl) rfl fun a hF => st hF (g_neq hF rfl rfl) rfl fun a hF => ?_
        refine wpList_nil ?_
        refine tN ?_
        refine c_kT hF rfl (by decide) ?_
        refine sq ?_
        refine wp_region_lit ?_
        refine st hF (g_build0 ty_bu_27) rfl fun a hF => st hF (g_move hF rfl) rfl fun a hF => ?_
        refine stN hF (d_storeAgg 2 hM rfl ty_sz_27 hF rfl rfl (tenC_one rfl) (by simp only [fnC_size, cells_size, vecC_size, tabC_size, planeC_size, tenC_size, smC_size, numC_size, numI_size]) (by simp only [fnC_size, cells_size, vecC_size, tabC_size, planeC_size, tenC_size, smC_size, numC_size, numI_size] <;> omega) (splice_whole _ _ rfl)) ?_
        intro _ w' a hM hF
        change Mem w w' [some (b1, tenC p n i o (.slice (some ⟨b, 0, none⟩) m m)), some (b2, tenC p2 n2 i2 o2 (.slice (some ⟨bz, 0, none⟩) m2 m2)), some (b3, tenC 0 0 0 0 (.slice none 0 0)), none, none, none] [(b, numI m g), (bz, numI m2 g2)] at hM
        refine st hF (g_assign hF rfl) rfl fun a hF => ?_
        refine wpList_nil ?_
        refine tN ?_
        refine wp_ret ?_
        refine tR ?_
        refine fin2 rfl hF.defers (res_agg ty_ag_27 hF rfl (hM.row 2 rfl) (by simp only [fnC_size, cells_size, vecC_size, tabC_size, planeC_size, tenC_size, smC_size, numC_size, numI_size])) (res_tmp hF rfl) ⟨_, rfl, hM.below, ?_⟩
        show _ = _
        rfl
      ·
        first | rw [decide_eq_false g6] at hF | simp only [decide_eq_false g6] at hF
        refine stS hF rfl rfl rfl rfl rfl fun a hF => stS hF rfl rfl rfl rfl rfl fun a hF => stS hF rfl rfl rfl rfl rfl fun a hF => stS hF rfl rfl rfl rfl rfl fun a hF => st hF (g_pickF hF rfl rfl) rfl fun a hF => ?_
        refine stR hF (d_call Try.call64 hF (.cons rfl (.cons rfl (.cons rfl .nil))) (pairFault_R p n i o p2 n2 i2 o2 b bz m m2 g g2 ((false)) _ (hM.fz 0 rfl) (hM.fz 1 rfl) (by omega) (by omega) h1 h2 (fun q => hR ⟨q.1, q.2.1⟩))) rfl ?_
        rintro _ w' a ⟨hx, rfl⟩ hF
        have hM := hM.ext hx
        refine st hF (g_assign hF rfl) rfl fun a hF => ?_
        refine wpList_nil ?_
        refine tN ?_
        refine sq ?_
        refine sq ?_
        refine wp_region_lit ?_
        refine st hF (g_move hF rfl) rfl fun a hF => st hF (g_neq hF rfl rfl) rfl fun a hF => ?_
        refine wpList_nil ?_
        refine tN ?_
        refine c_kT hF rfl (by decide) ?_
        refine sq ?_
        refine wp_region_lit ?_
        refine st hF (g_build0 ty_bu_27) rfl fun a hF => st hF (g_move hF rfl) rfl fun a hF => ?_
        refine stN hF (d_storeAgg 2 hM rfl ty_sz_27 hF rfl rfl (tenC_one rfl) (by simp only [fnC_size, cells_size, vecC_size, tabC_size, planeC_size, tenC_size, smC_size, numC_size, numI_size]) (by simp only [fnC_size, cells_size, vecC_size, tabC_size, planeC_size, tenC_size, smC_size, numC_size, numI_size] <;> omega) (splice_whole _ _ rfl)) ?_
        intro _ w' a hM hF
        change Mem w w' [some (b1, tenC p n i o (.slice (some ⟨b, 0, none⟩) m m)), some (b2, tenC p2 n2 i2 o2 (.slice (some ⟨bz, 0, none⟩) m2 m2)), some (b3, tenC 0 0 0 0 (.slice none 0 0)), none, none, none] [(b, numI m g), (bz, numI m2 g2)] at hM
        refine st hF (g_assign hF rfl) rfl fun a hF => ?_
        refine wpList_nil ?_
        refine tN ?_
        refine wp_ret ?_
        refine tR ?_
        refine fin2 rfl hF.defers (res_agg ty_ag_27 hF rfl (hM.row 2 rfl) (by simp only [fnC_size, cells_size, vecC_size, tabC_size, planeC_size, tenC_size, smC_size, numC_size, numI_size])) (res_tmp hF rfl) ⟨_, rfl, hM.below, ?_⟩
        show _ = _
        rfl
    ·
      first | rw [decide_eq_false g5] at hF | simp only [decide_eq_false g5] at hF
      refine stS hF rfl rfl rfl rfl rfl fun a hF => stS hF rfl rfl rfl rfl rfl fun a hF => st hF (g_pickF hF rfl rfl) rfl fun a hF => st hF (g_move hF rfl) rfl fun a hF => stS hF rfl rfl rfl rfl rfl fun a hF => stS hF rfl rfl rfl rfl rfl fun a hF => stS hF rfl rfl rfl rfl rfl fun a hF => stS hF rfl rfl rfl rfl rfl fun a hF => st hF (g_pickF hF rfl rfl) rfl fun a hF => ?_
      refine stR hF (d_call Try.call64 hF (.cons rfl (.cons rfl (.cons rfl .nil))) (pairFault_R p n i o p2 n2 i2 o2 b bz m m2 g g2 ((false)) _ (hM.fz 0 rfl) (hM.fz 1 rfl) (by omega) (by omega) h1 h2 (fun q => hR ⟨q.1, q.2.1⟩))) rfl ?_
      rintro _ w' a ⟨hx, rfl⟩ hF
      have hM := hM.ext hx
      refine st hF (g_assign hF rfl) rfl fun a hF => ?_
      refine wpList_nil ?_
      refine tN ?_
      refine sq ?_
      refine sq ?_
      refine wp_region_lit ?_
      refine st hF (g_move hF rfl) rfl fun a hF => st hF (g_neq hF rfl rfl) rfl fun a hF => ?_
      refine wpList_nil ?_
      refine tN ?_
      refine c_kT hF rfl (by decide) ?_
      refine sq ?_
      refine wp_region_lit ?_
      refine st hF (g_build0 ty_bu_27) rfl fun a hF => st hF (g_move hF rfl) rfl fun a hF => ?_
      refine stN hF (d_storeAgg 2 hM rfl ty_sz_27 hF rfl rfl (tenC_one rfl) (by simp only [fnC_size, cells_size, vecC_size, tabC_size, planeC_size, tenC_size, smC_size, numC_size, numI_size]) (by simp only [fnC_size, cells_size, vecC_size, tabC_size, planeC_size, tenC_size, smC_size, numC_size, numI_size] <;> omega) (splice_whole _ _ rfl)) ?_
      intro _ w' a hM hF
      change Mem w w' [some (b1, tenC p n i o (.slice (some ⟨b, 0, none⟩) m m)), some (b2, tenC p2 n2 i2 o2 (.slice (some ⟨bz, 0, none⟩) m2 m2)), some (b3, tenC 0 0 0 0 (.slice none 0 0)), none, none, none] [(b, numI m g), (bz, numI m2 g2)] at hM
      refine st hF (g_assign hF rfl) rfl fun a hF => ?_
      refine wpList_nil ?_
      refine tN ?_
      refine wp_ret ?_
      refine tR ?_
      refine fin2 rfl hF.defers (res_agg ty_ag_27 hF rfl (hM.row 2 rfl) (by simp only [fnC_size, cells_size, vecC_size, tabC_size, planeC_size, tenC_size, smC_size, numC_size, numI_size])) (res_tmp hF rfl) ⟨_, rfl, hM.below, ?_⟩
      show _ = _
      rfl
  ·
    first | rw [decide_eq_false g4] at hF | simp only [decide_eq_false g4] at hF
    refine stS hF rfl rfl rfl rfl rfl fun a hF => stS hF rfl rfl rfl rfl rfl fun a hF => stS hF rfl rfl rfl rfl rfl fun a hF => stS hF rfl rfl rfl rfl rfl fun a hF => stS hF rfl rfl rfl rfl rfl fun a hF => st hF (g_pickF hF rfl rfl) rfl fun a hF => st hF (g_move hF rfl) rfl fun a hF => stS hF rfl rfl rfl rfl rfl fun a hF => stS hF rfl rfl rfl rfl rfl fun a hF => st hF (g_pickF hF rfl rfl) rfl fun a hF => st hF (g_move hF rfl) rfl fun a hF => stS hF rfl rfl rfl rfl rfl fun a hF => stS hF rfl rfl rfl rfl rfl fun a hF => stS hF rfl rfl rfl rfl rfl fun a hF => stS hF rfl rfl rfl rfl rfl fun a hF => st hF (g_pickF hF rfl rfl) rfl fun a hF => ?_
    refine stR hF (d_call Try.call64 hF (.cons rfl (.cons rfl (.cons rfl .nil))) (pairFault_R p n i o p2 n2 i2 o2 b bz m m2 g g2 ((false)) _ (hM.fz 0 rfl) (hM.fz 1 rfl) (by omega) (by omega) h1 h2 (fun q => hR ⟨q.1, q.2.1⟩))) rfl ?_
    rintro _ w' a ⟨hx, rfl⟩ hF
    have hM := hM.ext hx
    refine st hF (g_assign hF rfl) rfl fun a hF => ?_
    refine wpList_nil ?_
    refine tN ?_
    refine sq ?_
    refine sq ?_
    refine wp_region_lit ?_
    refine st hF (g_move hF rfl) rfl fun a hF => st hF (g_neq hF rfl rfl) rfl fun a hF => ?_
    refine wpList_nil ?_
    refine tN ?_
    refine c_kT hF rfl (by decide) ?_
    refine sq ?_
    refine wp_region_lit ?_
    refine st hF (g_build0 ty_bu_27) rfl fun a hF => st hF (g_move hF rfl) rfl fun a hF => ?_
    refine stN hF (d_storeAgg 2 hM rfl ty_sz_27 hF rfl rfl (tenC_one rfl) (by simp only [fnC_size, cells_size, vecC_size, tabC_size, planeC_size, tenC_size, smC_size, numC_size, numI_size]) (by simp only [fnC_size, cells_size, vecC_size, tabC_size, planeC_size, tenC_size, smC_size, numC_size, numI_size] <;> omega) (splice_whole _ _ rfl)) ?_
    intro _ w' a hM hF
    change Mem w w' [some (b1, tenC p n i o (.slice (some ⟨b, 0, none⟩) m m)), some (b2, tenC p2 n2 i2 o2 (.slice (some ⟨bz, 0, none⟩) m2 m2)), some (b3, tenC 0 0 0 0 (.slice none 0 0)), none, none, none] [(b, numI m g), (bz, numI m2 g2)] at hM
    refine st hF (g_assign hF rfl) rfl fun a hF => ?_
    refine wpList_nil ?_
    refine tN ?_
    refine wp_ret ?_
    refine tR ?_
    refine fin2 rfl hF.defers (res_agg ty_ag_27 hF rfl (hM.row 2 rfl) (by simp only [fnC_size, cells_size, vecC_size, tabC_size, planeC_size, tenC_size, smC_size, numC_size, numI_size])) (res_tmp hF rfl) ⟨_, rfl, hM.below, ?_⟩
    show _ = _
    rfl

theorem AddTensorsSR1 (p n i o p2 n2 i2 o2 : Int) (b bz m m2 : Nat) (g g2 : Nat → Int) (k : Int) (w : World) (hb : Blk w b (numI m g)) (hbz : Blk w bz (numI m2 g2)) (hm : m < 10000000) (hm2 : m2 < 10000000) (h1 : TenP p n i o m g) (h2 : TenP p2 n2 i2 o2 m2 g2) (hR : ¬ (p = p2 ∧ n = n2)) :
    CallsR Try.prog 35 #[.agg (tenC p n i o (.slice (some ⟨b, 0, none⟩) m m)), .agg (tenC p2 n2 i2 o2 (.slice (some ⟨bz, 0, none⟩) m2 m2)), .int .i64 (k)] w (fun res _ => res = .tuple #[.agg (tenC 0 0 0 0 (.slice none 0 0)), .int .i64 2]) := by
  refine calls_fr [.agg (tenC p n i o (.slice (some ⟨b, 0, none⟩) m m)), .agg (tenC p2 n2 i2 o2 (.slice (some ⟨bz, 0, none⟩) m2 m2)), .int .i64 (k)] Try.func35 rfl Try.ntmps35 rfl fun a hF => ?_
  have hM : Mem w w [none, none, none, none, none] [(b, numI m g), (bz, numI m2 g2)] := MemX.startD w 5 _ (startD2 hb hbz)
  change Fr 79 a [(0, .agg (tenC p n i o (.slice (some ⟨b, 0, none⟩) m m))), (1, .agg (tenC p2 n2 i2 o2 (.slice (some ⟨bz, 0, none⟩) m2 m2))), (2, .int .i64 (k))] at hF
  refine sq ?_
  refine wp_region_lit ?_
  refine stR hF (d_box 0 hM hF rfl) rfl ?_
  rintro _ w' a ⟨b1, rfl, hM, -⟩ hF
  change Mem w w' [some (b1, tenC p n i o (.slice (some ⟨b, 0, none⟩) m m)), none, none, none, none] [(b, numI m g), (bz, numI m2 g2)] at hM
  refine stR hF (d_box 1 hM hF rfl) rfl ?_
  rintro _ w' a ⟨b2, rfl, hM, -⟩ hF
  change Mem w w' [some (b1, tenC p n i o (.slice (some ⟨b, 0, none⟩) m m)), some (b2, tenC p2 n2 i2 o2 (.slice (some ⟨bz, 0, none⟩) m2 m2)), none, none, none] [(b, numI m g), (bz, numI m2 g2)] at hM
  refine stR hF (d_alloc 2 hM ty_ze_27) rfl ?_
  rintro _ w' a ⟨b3, rfl, hM, -⟩ hF
  change Mem w w' [some (b1, tenC p n i o (.slice (some ⟨b, 0, none⟩) m m)), some (b2, tenC p2 n2 i2 o2 (.slice (some ⟨bz, 0, none⟩) m2 m2)), some (b3, tenC 0 0 0 0 (.slice none 0 0)), none, none] [(b, numI m g), (bz, numI m2 g2)] at hM
  refine st hF (g_assign hF rfl) rfl fun a hF => ?_
  refine wpList_nil ?_
  refine tN ?_
  refine sq ?_
  refine wp_region_lit ?_
  refine st hF (g_loadAgg ty_ag_27 hF rfl (hM.row 0 rfl) (by simp only [fnC_size, cells_size, vecC_size, tabC_size, planeC_size, tenC_size, smC_size, numC_size, numI_size] <;> omega) (whole rfl)) rfl fun a hF => st hF (g_loadAgg ty_ag_27 hF rfl (hM.row 1 rfl) (by simp only [fnC_size, cells_size, vecC_size, tabC_size, planeC_size, tenC_size, smC_size, numC_size, numI_size] <;> omega) (whole rfl)) rfl fun a hF => ?_
  refine stR hF (d_call Try.call62 hF (.cons rfl (.cons rfl .nil)) (l03Two_R p n i o p2 n2 i2 o2 b bz m m2 g g2 _ (hM.fz 0 rfl) (hM.fz 1 rfl) (by omega) (by omega) h1 h2 hR)) rfl ?_
  rintro _ w' a ⟨hx, rfl⟩ hF
  have hM := hM.ext hx
  refine st hF (g_assign hF rfl) rfl fun a hF => ?_
  refine wpList_nil ?_
  refine tN ?_
  refine sq ?_
  refine sq ?_
  refine wp_region_lit ?_
  refine st hF (g_move hF rfl) rfl fun a hF => st hF (g_eql hF rfl rfl) rfl fun a hF => st hF (g_move hF rfl) rfl fun a hF => ?_
  rw [show decide ((2 : Int) = 0) = false from by decide] at hF
  refine stS hF rfl rfl rfl rfl rfl fun a hF => stS hF rfl rfl rfl rfl rfl fun a hF => stS hF rfl rfl rfl rfl rfl fun a hF => stS hF rfl rfl rfl rfl rfl fun a hF => stS hF rfl rfl rfl rfl rfl fun a hF => stS hF rfl rfl rfl rfl rfl fun a hF => stU hF rfl rfl rfl rfl fun a hF => stU hF rfl rfl rfl rfl fun a hF => stU hF rfl rfl rfl rfl fun a hF => stU hF rfl rfl rfl rfl fun a hF => stU hF rfl rfl rfl rfl fun a hF => stS hF rfl rfl rfl rfl rfl fun a hF => stS hF rfl rfl rfl rfl rfl fun a hF => stU hF rfl rfl rfl rfl fun a hF => stU hF rfl rfl rfl rfl fun a hF => stU hF rfl rfl rfl rfl fun a hF => stU hF rfl rfl rfl rfl fun a hF => stU hF rfl rfl rfl rfl fun a hF => stU hF rfl rfl rfl rfl fun a hF => stS hF rfl rfl rfl rfl rfl fun a hF => st hF (g_pickF hF rfl rfl) rfl fun a hF => ?_
  refine wpList_nil ?_
  refine tN ?_
  refine c_Fl hF rfl ?_
  refine wp_skip ?_
  refine tN ?_
  refine sq ?_
  refine sq ?_
  refine wp_region_lit ?_
  refine st hF (g_move hF rfl) rfl fun a hF => st hF (g_neq hF rfl rfl) rfl fun a hF => ?_
  refine wpList_nil ?_
  refine tN ?_
  refine c_kT hF rfl (by decide) ?_
  refine sq ?_
  refine wp_region_lit ?_
  refine st hF (g_build0 ty_bu_27) rfl fun a hF => st hF (g_move hF rfl) rfl fun a hF => ?_
  refine stN hF (d_storeAgg 2 hM rfl ty_sz_27 hF rfl rfl (tenC_one rfl) (by simp only [fnC_size, cells_size, vecC_size, tabC_size, planeC_size, tenC_size, smC_size, numC_size, numI_size]) (by simp only [fnC_size, cells_size, vecC_size, tabC_size, planeC_size, tenC_size, smC_size, numC_size, numI_size] <;> omega) (splice_whole _ _ rfl)) ?_
  intro _ w' a hM hF
  change Mem w w' [some (b1, tenC p n i o (.slice (some ⟨b, 0, none⟩) m m)), some (b2, tenC p2 n2 i2 o2 (.slice (some ⟨bz, 0, none⟩) m2 m2)), some (b3, tenC 0 0 0 0 (.slice none 0 0)), none, none] [(b, numI m g), (bz, numI m2 g2)] at hM
  refine st hF (g_assign hF rfl) rfl fun a hF => ?_
  refine wpList_nil ?_
  refine tN ?_
  refine wp_ret ?_
  refine tR ?_
  refine fin2 rfl hF.defers (res_agg ty_ag_27 hF rfl (hM.row 2 rfl) (by simp only [fnC_size, cells_size, vecC_size, tabC_size, planeC_size, tenC_size, smC_size, numC_size, numI_size])) (res_tmp hF rfl) ⟨_, rfl, hM.below, ?_⟩
  show _ = _
  rfl

theorem AddTensorsIR2 (p n i o i2 o2 : Int) (b bz m m2 : Nat) (g g2 : Nat → Int) (k : Int) (w : World) (hb : Blk w b (numI m g)) (hbz : Blk w bz (numI m2 g2)) (hm : m < 10000000) (hm2 : m2 < 10000000) (h1 : TenP p n i o m g) (h2 : TenP p n i2 o2 m2 g2) (hR2 : ¬ (i = i2 ∧ o = o2 ∧ 0 ≤ k ∧ k < p)) :
    CallsR Try.prog 36 #[.agg (tenC p n i o (.slice (some ⟨b, 0, none⟩) m m)), .agg (tenC p n i2 o2 (.slice (some ⟨bz, 0, none⟩) m2 m2)), .int .i64 (k)] w (fun res _ => res = .tuple #[.agg (tenC 0 0 0 0 (.slice none 0 0)), .int .i64 2]) := by
  refine calls_fr [.agg (tenC p n i o (.slice (some ⟨b, 0, none⟩) m m)), .agg (tenC p n i2 o2 (.slice (some ⟨bz, 0, none⟩) m2 m2)), .int .i64 (k)] Try.func36 rfl Try.ntmps36 rfl fun a hF => ?_
  have hM : Mem w w [none, none, none, none, none, none] [(b, numI m g), (bz, numI m2 g2)] := MemX.startD w 6 _ (startD2 hb hbz)
  change Fr 64 a [(0, .agg (tenC p n i o (.slice (some ⟨b, 0, none⟩) m m))), (1, .agg (tenC p n i2 o2 (.slice (some ⟨bz, 0, none⟩) m2 m2))), (2, .int .i64 (k))] at hF
  refine sq ?_
  refine wp_region_lit ?_
  refine stR hF (d_box 0 hM hF rfl) rfl ?_
  rintro _ w' a ⟨b1, rfl, hM, -⟩ hF
  change Mem w w' [some (b1, tenC p n i o (.slice (some ⟨b, 0, none⟩) m m)), none, none, none, none, none] [(b, numI m g), (bz, numI m2 g2)] at hM
  refine stR hF (d_box 1 hM hF rfl) rfl ?_
  rintro _ w' a ⟨b2, rfl, hM, -⟩ hF
  change Mem w w' [some (b1, tenC p n i o (.slice (some ⟨b, 0, none⟩) m m)), some (b2, tenC p n i2 o2 (.slice (some ⟨bz, 0, none⟩) m2 m2)), none, none, none, none] [(b, numI m g), (bz, numI m2 g2)] at hM
  refine stR hF (d_alloc 2 hM ty_ze_27) rfl ?_
  rintro _ w' a ⟨b3, rfl, hM, -⟩ hF
  change Mem w w' [some (b1, tenC p n i o (.slice (some ⟨b, 0, none⟩) m m)), some (b2, tenC p n i2 o2 (.slice (some ⟨bz, 0, none⟩) m2 m2)), some (b3, tenC 0 0 0 0 (.slice none 0 0)), none, none, none] [(b, numI m g), (bz, numI m2 g2)] at hM
  refine st hF (g_assign hF rfl) rfl fun a hF => ?_
  refine wpList_nil ?_
  refine tN ?_
  refine sq ?_
  refine wp_region_lit ?_
  refine st hF (g_loadAgg ty_ag_27 hF rfl (hM.row 0 rfl) (by simp only [fnC_size, cells_size, vecC_size, tabC_size, planeC_size, tenC_size, smC_size, numC_size, numI_size] <;> omega) (whole rfl)) rfl fun a hF => st hF (g_loadAgg ty_ag_27 hF rfl (hM.row 1 rfl) (by simp only [fnC_size, cells_size, vecC_size, tabC_size, planeC_size, tenC_size, smC_size, numC_size, numI_size] <;> omega) (whole rfl)) rfl fun a hF => st hF (g_fieldAddr ty_fo_27_2 hF rfl) rfl fun a hF => st hF (g_load ty_on_2 hF rfl (hM.row 0 rfl) (tenC_2 (by omega))) rfl fun a hF => st hF (g_fieldAddr ty_fo_27_2 hF rfl) rfl fun a hF => st hF (g_load ty_on_2 hF rfl (hM.row 1 rfl) (tenC_2 (by omega))) rfl fun a hF => st hF (g_eql hF rfl rfl) rfl fun a hF => st hF (g_move hF rfl) rfl fun a hF => ?_
  by_cases g4 : (i : Int) = i2
  ·
    first | rw [decide_eq_true g4] at hF | simp only [decide_eq_true g4] at hF
    refine stY hF rfl rfl rfl (g_fieldAddr ty_fo_27_3 hF rfl) rfl fun a hF => stY hF rfl rfl rfl (g_load ty_on_2 hF rfl (hM.row 0 rfl) (tenC_3 (by omega))) rfl fun a hF => stY hF rfl rfl rfl (g_fieldAddr ty_fo_27_3 hF rfl) rfl fun a hF => stY hF rfl rfl rfl (g_load ty_on_2 hF rfl (hM.row 1 rfl) (tenC_3 (by omega))) rfl fun a hF => stY hF rfl rfl rfl (g_eql hF rfl rfl) rfl fun a hF => st hF (g_pickT hF rfl rfl) rfl fun a hF => st hF (g_move hF rfl) rfl fun a hF => ?_
    by_cases g5 : (o : Int) = o2
    ·
      first | rw [decide_eq_true g5] at hF | simp only [decide_eq_true g5] at hF
      refine stY hF rfl rfl rfl (g_move hF rfl) rfl fun a hF => stY hF rfl rfl rfl (g_geq hF rfl rfl) rfl fun a hF => st hF (g_pickT hF rfl rfl) rfl fun a hF => st hF (g_move hF rfl) rfl fun a hF => ?_
      by_cases g6 : 0 ≤ (k : Int)
      ·
        first | rw [decide_eq_true g6] at hF | simp only [decide_eq_true g6] at hF
        refine stY hF rfl rfl rfl (g_move hF rfl) rfl fun a hF => stY hF rfl rfl rfl (g_fieldAddr ty_fo_27_0 hF rfl) rfl fun a hF => stY hF rfl rfl rfl (g_load ty_on_2 hF rfl (hM.row 0 rfl) (tenC_0 (by omega))) rfl fun a hF => stY hF rfl rfl rfl (g_lss hF rfl rfl) rfl fun a hF => st hF (g_pickT hF rfl rfl) rfl fun a hF => ?_
        refine stR hF (d_call Try.call64 hF (.cons rfl (.cons rfl (.cons rfl .nil))) (pairFault_R p n i o p n i2 o2 b bz m m2 g g2 ((decide ((k : Int) < p))) _ (hM.fz 0 rfl) (hM.fz 1 rfl) (by omega) (by omega) h1 h2 (by rintro ⟨-, -, q⟩; first | (cases q; done) | (have q := of_decide_eq_true q; omega)))) rfl ?_
        rintro _ w' a ⟨hx, rfl⟩ hF
        have hM := hM.ext hx
        refine st hF (g_assign hF rfl) rfl fun a hF => ?_
        refine wpList_nil ?_
        refine tN ?_
        refine sq ?_
        refine sq ?_
        refine wp_region_lit ?_
        refine st hF (g_move hF rfl) rfl fun a hF => st hF (g_neq hF rfl rfl) rfl fun a hF => ?_
        refine wpList_nil ?_
        refine tN ?_
        refine c_kT hF rfl (by decide) ?_
        refine sq ?_
        refine wp_region_lit ?_
        refine st hF (g_build0 ty_bu_27) rfl fun a hF => st hF (g_move hF rfl) rfl fun a hF => ?_
        refine stN hF (d_storeAgg 2 hM rfl ty_sz_27 hF rfl rfl (tenC_one rfl) (by simp only [fnC_size, cells_size, vecC_size, tabC_size, planeC_size, tenC_size, smC_size, numC_size, numI_size]) (by simp only [fnC_size, cells_size, vecC_size, tabC_size, planeC_size, tenC_size, smC_size, numC_size, numI_size] <;> omega) (splice_whole _ _ rfl)) ?_
        intro _ w' a hM hF
        change Mem w w' [some (b1, tenC p n i o (.slice (some ⟨b, 0, none⟩) m m)), some (b2, tenC p n i2 o2 (.slice (some ⟨bz, 0, none⟩) m2 m2)), some (b3, tenC 0 0 0 0 (.slice none 0 0)), none, none, none] [(b, numI m g), (bz, numI m2 g2)] at hM
        refine st hF (g_assign hF rfl) rfl fun a hF => ?_
        refine wpList_nil ?_
        refine tN ?_
        refine wp_ret ?_
        refine tR ?_
        refine fin2 rfl hF.defers (res_agg ty_ag_27 hF rfl (hM.row 2 rfl) (by simp only [fnC_size, cells_size, vecC_size, tabC_size, planeC_size, tenC_size, smC_size, numC_size, numI_size])) (res_tmp hF rfl) ⟨_, rfl, hM.below, ?_⟩
        show _ = _
        rfl
      ·
        first | rw [decide_eq_false g6] at hF | simp only [decide_eq_false g6] at hF
        refine stS hF rfl rfl rfl rfl rfl fun a hF => stS hF rfl rfl rfl rfl rfl fun a hF => stS hF rfl rfl rfl rfl rfl fun a hF => stS hF rfl rfl rfl rfl rfl fun a hF => st hF (g_pickF hF rfl rfl) rfl fun a hF => ?_
        refine stR hF (d_call Try.call64 hF (.cons rfl (.cons rfl (.cons rfl .nil))) (pairFault_R p n i o p n i2 o2 b bz m m2 g g2 ((false)) _ (hM.fz 0 rfl) (hM.fz 1 rfl) (by omega) (by omega) h1 h2 (by rintro ⟨-, -, q⟩; first | (cases q; done) | (have q := of_decide_eq_true q; omega)))) rfl ?_
        rintro _ w' a ⟨hx, rfl⟩ hF
        have hM := hM.ext hx
        refine st hF (g_assign hF rfl) rfl fun a hF => ?_
        refine wpList_nil ?_
        refine tN ?_
        refine sq ?_
        refine sq ?_
        refine wp_region_lit ?_
        refine st hF (g_move hF rfl) rfl fun a hF => st hF (g_neq hF rfl rfl) rfl fun a hF => ?_
        refine wpList_nil ?_
        refine tN ?_
        refine c_kT hF rfl (by decide) ?_
        refine sq ?_
        refine wp_region_lit ?_
        refine st hF (g_build0 ty_bu_27) rfl fun a hF => st hF (g_move hF rfl) rfl fun a hF => ?_
        refine stN hF (d_storeAgg 2 hM rfl ty_sz_27 hF rfl rfl (tenC_one rfl) (by simp only [fnC_size, cells_size, vecC_size, tabC_size, planeC_size, tenC_size, smC_size, numC_size, numI_size]) (by simp only [fnC_size, cells_size, vecC_size, tabC_size, planeC_size, tenC_size, smC_size, numC_size, numI_size] <;> omega) (splice_whole _ _ rfl)) ?_
        intro _ w' a hM hF
        change Mem w w' [some (b1, tenC p n i o (.slice (some ⟨b, 0, none⟩) m m)), some (b2, tenC p n i2 o2 (.slice (some ⟨bz, 0, none⟩) m2 m2)), some (b3, tenC 0 0 0 0 (.slice none 0 0)), none, none, none] [(b, numI m g), (bz, numI m2 g2)] at hM
        refine st hF (g_assign hF rfl) rfl fun a hF => ?_
        refine wpList_nil ?_
        refine tN ?_
        refine wp_ret ?_
        refine tR ?_
        refine fin2 rfl hF.defers (res_agg ty_ag_27 hF rfl (hM.row 2 rfl) (by simp only [fnC_size, cells_size, vecC_size, tabC_size, planeC_size, tenC_size, smC_size, numC_size, numI_size])) (res_tmp hF rfl) ⟨_, rfl, hM.below, ?_⟩
        show _ = _
        rfl
    ·
      first | rw [decide_eq_false g5] at hF | simp only [decide_eq_false g5] at hF
      refine stS hF rfl rfl rfl rfl rfl fun a hF => stS hF rfl rfl rfl rfl rfl fun a hF => st hF (g_pickF hF rfl rfl) rfl fun a hF => st hF (g_move hF rfl) rfl fun a hF => stS hF rfl rfl rfl rfl rfl fun a hF => stS hF rfl rfl rfl rfl rfl fun a hF => stS hF rfl rfl rfl rfl rfl fun a hF => stS hF rfl rfl rfl rfl rfl fun a hF => st hF (g_pickF hF rfl rfl) rfl fun a hF => ?_
      refine stR hF (d_call Try.call64 hF (.cons rfl (.cons rfl (.cons rfl .nil))) (pairFault_R p n i o p n i2 o2 b bz m m2 g g2 ((false)) _ (hM.fz 0 rfl) (hM.fz 1 rfl) (by omega) (by omega) h1 h2 (by rintro ⟨-, -, q⟩; first | (cases q; done) | (have q := of_decide_eq_true q; omega)))) rfl ?_
      rintro _ w' a ⟨hx, rfl⟩ hF
      have hM := hM.ext hx
      refine st hF (g_assign hF rfl) rfl fun a hF => ?_
      refine wpList_nil ?_
      refine tN ?_
      refine sq ?_
      refine sq ?_
      refine wp_region_lit ?_
      refine st hF (g_move hF rfl) rfl fun a hF => st hF (g_neq hF rfl rfl) rfl fun a hF => ?_
      refine wpList_nil ?_
      refine tN ?_
      refine c_kT hF rfl (by decide) ?_
      refine sq ?_
      refine wp_region_lit ?_
      refine st hF (g_build0 ty_bu_27) rfl fun a hF => st hF (g_move hF rfl) rfl fun a hF => ?_
      refine stN hF (d_storeAgg 2 hM rfl ty_sz_27 hF rfl rfl (tenC_one rfl) (by simp only [fnC_size, cells_size, vecC_size, tabC_size, planeC_size, tenC_size, smC_size, numC_size, numI_size]) (by simp only [fnC_size, cells_size, vecC_size, tabC_size, planeC_size, tenC_size, smC_size, numC_size, numI_size] <;> omega) (splice_whole _ _ rfl)) ?_
      intro _ w' a hM hF
      change Mem w w' [some (b1, tenC p n i o (.slice (some ⟨b, 0, none⟩) m m)), some (b2, tenC p n i2 o2 (.slice (some ⟨bz, 0, none⟩) m2 m2)), some (b3, tenC 0 0 0 0 (.slice none 0 0)), none, none, none] [(b, numI m g), (bz, numI m2 g2)] at hM
      refine st hF (g_assign hF rfl) rfl fun a hF => ?_
      refine wpList_nil ?_
      refine tN ?_
      refine wp_ret ?_
      refine tR ?_
      refine fin2 rfl hF.defers (res_agg ty_ag_27 hF rfl (hM.row 2 rfl) (by simp only [fnC_size, cells_size, vecC_size, tabC_size, planeC_size, tenC_size, smC_size, numC_size, numI_size])) (res_tmp hF rfl) ⟨_, rfl, hM.below, ?_⟩
      show _ = _
      rfl
  ·
    first | rw [decide_eq_false g4] at hF | simp only [decide_eq_false g4] at hF
    refine stS hF rfl rfl rfl rfl rfl fun a hF => stS hF rfl rfl rfl rfl rfl fun a hF => stS hF rfl rfl rfl rfl rfl fun a hF => stS hF rfl rfl rfl rfl rfl fun a hF => stS hF rfl rfl rfl rfl rfl fun a hF => st hF (g_pickF hF rfl rfl) rfl fun a hF => st hF (g_move hF rfl) rfl fun a hF => stS hF rfl rfl rfl rfl rfl fun a hF => stS hF rfl rfl rfl rfl rfl fun a hF => st hF (g_pickF hF rfl rfl) rfl fun a hF => st hF (g_move hF rfl) rfl fun a hF => stS hF rfl rfl rfl rfl rfl fun a hF => stS hF rfl rfl rfl rfl rfl fun a hF => stS hF rfl rfl rfl rfl rfl fun a hF => stS hF rfl rfl rfl rfl rfl fun a hF => st hF (g_pickF hF rfl rfl) rfl fun a hF => ?_
    refine stR hF (d_call Try.call64 hF (.cons rfl (.cons rfl (.cons rfl .nil))) (pairFault_R p n i o p n i2 o2 b bz m m2 g g2 ((false)) _ (hM.fz 0 rfl) (hM.fz 1 rfl) (by omega) (by omega) h1 h2 (by rintro ⟨-, -, q⟩; first | (cases q; done) | (have q := of_decide_eq_true q; omega)))) rfl ?_
    rintro _ w' a ⟨hx, rfl⟩ hF
    have hM := hM.ext hx
    refine st hF (g_assign hF rfl) rfl fun a hF => ?_
    refine wpList_nil ?_
    refine tN ?_
    refine sq ?_
    refine sq ?_
    refine wp_region_lit ?_
    refine st hF (g_move hF rfl) rfl fun a hF => st hF (g_neq hF rfl rfl) rfl fun a hF => ?_
    refine wpList_nil ?_
    refine tN ?_
    refine c_kT hF rfl (by decide) ?_
    refine sq ?_
    refine wp_region_lit ?_
    refine st hF (g_build0 ty_bu_27) rfl fun a hF => st hF (g_move hF rfl) rfl fun a hF => ?_
    refine stN hF (d_storeAgg 2 hM rfl ty_sz_27 hF rfl rfl (tenC_one rfl) (by simp only [fnC_size, cells_size, vecC_size, tabC_size, planeC_size, tenC_size, smC_size, numC_size, numI_size]) (by simp only [fnC_size, cells_size, vecC_size, tabC_size, planeC_size, tenC_size, smC_size, numC_size, numI_size] <;> omega) (splice_whole _ _ rfl)) ?_
    intro _ w' a hM hF
    change Mem w w' [some (b1, tenC p n i o (.slice (some ⟨b, 0, none⟩) m m)), some (b2, tenC p n i2 o2 (.slice (some ⟨bz, 0, none⟩) m2 m2)), some (b3, tenC 0 0 0 0 (.slice none 0 0)), none, none, none] [(b, numI m g), (bz, numI m2 g2)] at hM
    refine st hF (g_assign hF rfl) rfl fun a hF => ?_
    refine wpList_nil ?_
    refine tN ?_
    refine wp_ret ?_
    refine tR ?_
    refine fin2 rfl hF.defers (res_agg ty_ag_27 hF rfl (hM.row 2 rfl) (by simp only [fnC_size, cells_size, vecC_size, tabC_size, planeC_size, tenC_size, smC_size, numC_size, numI_size])) (res_tmp hF rfl) ⟨_, rfl, hM.below, ?_⟩
    show _ = _
    rfl

theorem AddTensorsSR2 (p n i o i2 o2 : Int) (b bz m m2 : Nat) (g g2 : Nat → Int) (k : Int) (w : World) (hb : Blk w b (numI m g)) (hbz : Blk w bz (numI m2 g2)) (hm : m < 10000000) (hm2 : m2 < 10000000) (h1 : TenP p n i o m g) (h2 : TenP p n i2 o2 m2 g2) (hR2 : ¬ (i = i2 ∧ o = o2 ∧ 0 ≤ k ∧ k < p)) :
    CallsR Try.prog 35 #[.agg (tenC p n i o (.slice (some ⟨b, 0, none⟩) m m)), .agg (tenC p n i2 o2 (.slice (some ⟨bz, 0, none⟩) m2 m2)), .int .i64 (k)] w (fun res _ => res = .tuple #[.agg (tenC 0 0 0 0 (.slice none 0 0)), .int .i64 2]) := by
  refine calls_fr [.agg (tenC p n i o (.slice (some ⟨b, 0, none⟩) m m)), .agg (tenC p n i2 o2 (.slice (some ⟨bz, 0, none⟩) m2 m2)), .int .i64 (k)] Try.func35 rfl Try.ntmps35 rfl fun a hF => ?_
  have hM : Mem w w [none, none, none, none, none] [(b, numI m g), (bz, numI m2 g2)] := MemX.startD w 5 _ (startD2 hb hbz)
  change Fr 79 a [(0, .agg (tenC p n i o (.slice (some ⟨b, 0, none⟩) m m))), (1, .agg (tenC p n i2 o2 (.slice (some ⟨bz, 0, none⟩) m2 m2))), (2, .int .i64 (k))] at hF
  have hpP := h1.1.1
  have hp0 : 0 < p ∧ p < 100 := by have h := hpP; unfold primeP at h; omega
  refine sq ?_
  refine wp_region_lit ?_
  refine stR hF (d_box 0 hM hF rfl) rfl ?_
  rintro _ w' a ⟨b1, rfl, hM, -⟩ hF
  change Mem w w' [some (b1, tenC p n i o (.slice (some ⟨b, 0, none⟩) m m)), none, none, none, none] [(b, numI m g), (bz, numI m2 g2)] at hM
  refine stR hF (d_box 1 hM hF rfl) rfl ?_
  rintro _ w' a ⟨b2, rfl, hM, -⟩ hF
  change Mem w w' [some (b1, tenC p n i o (.slice (some ⟨b, 0, none⟩) m m)), some (b2, tenC p n i2 o2 (.slice (some ⟨bz, 0, none⟩) m2 m2)), none, none, none] [(b, numI m g), (bz, numI m2 g2)] at hM
  refine stR hF (d_alloc 2 hM ty_ze_27) rfl ?_
  rintro _ w' a ⟨b3, rfl, hM, -⟩ hF
  change Mem w w' [some (b1, tenC p n i o (.slice (some ⟨b, 0, none⟩) m m)), some (b2, tenC p n i2 o2 (.slice (some ⟨bz, 0, none⟩) m2 m2)), some (b3, tenC 0 0 0 0 (.slice none 0 0)), none, none] [(b, numI m g), (bz, numI m2 g2)] at hM
  refine st hF (g_assign hF rfl) rfl fun a hF => ?_
  refine wpList_nil ?_
  refine tN ?_
  refine sq ?_
  refine wp_region_lit ?_
  refine st hF (g_loadAgg ty_ag_27 hF rfl (hM.row 0 rfl) (by simp only [fnC_size, cells_size, vecC_size, tabC_size, planeC_size, tenC_size, smC_size, numC_size, numI_size] <;> omega) (whole rfl)) rfl fun a hF => st hF (g_loadAgg ty_ag_27 hF rfl (hM.row 1 rfl) (by simp only [fnC_size, cells_size, vecC_size, tabC_size, planeC_size, tenC_size, smC_size, numC_size, numI_size] <;> omega) (whole rfl)) rfl fun a hF => ?_
  refine stR hF (d_call Try.call62 hF (.cons rfl (.cons rfl .nil)) (l03Two_ok p n i o i2 o2 b bz m m2 g g2 _ (hM.fz 0 rfl) (hM.fz 1 rfl) (by omega) (by omega) h1 h2)) rfl ?_
  rintro _ w' a ⟨hx, rfl⟩ hF
  have hM := hM.ext hx
  refine st hF (g_assign hF rfl) rfl fun a hF => ?_
  refine wpList_nil ?_
  refine tN ?_
  refine sq ?_
  refine sq ?_
  refine wp_region_lit ?_
  refine st hF (g_move hF rfl) rfl fun a hF => st hF (g_eql hF rfl rfl) rfl fun a hF => st hF (g_move hF rfl) rfl fun a hF => ?_
  rw [show decide ((0 : Int) = 0) = true from by decide] at hF
  refine stY hF rfl rfl rfl (g_fieldAddr ty_fo_27_2 hF rfl) rfl fun a hF => stY hF rfl rfl rfl (g_load ty_on_2 hF rfl (hM.row 0 rfl) (tenC_2 (by omega))) rfl fun a hF => stY hF rfl rfl rfl (g_fieldAddr ty_fo_27_2 hF rfl) rfl fun a hF => stY hF rfl rfl rfl (g_load ty_on_2 hF rfl (hM.row 1 rfl) (tenC_2 (by omega))) rfl fun a hF => stY hF rfl rfl rfl (g_neq hF rfl rfl) rfl fun a hF => stY hF rfl rfl rfl (g_move hF rfl) rfl fun a hF => ?_
  by_cases g4 : (i : Int) ≠ i2
  ·
    first | rw [decide_eq_true g4] at hF | simp only [decide_eq_true g4] at hF
    refine stS hF rfl rfl rfl rfl rfl fun a hF => stS hF rfl rfl rfl rfl rfl fun a hF => stS hF rfl rfl rfl rfl rfl fun a hF => stS hF rfl rfl rfl rfl rfl fun a hF => stS hF rfl rfl rfl rfl rfl fun a hF => stY hF rfl rfl rfl (g_pickT hF rfl rfl) rfl fun a hF => stY hF rfl rfl rfl (g_move hF rfl) rfl fun a hF => stS hF rfl rfl rfl rfl rfl fun a hF => stS hF rfl rfl rfl rfl rfl fun a hF => stS hF rfl rfl rfl rfl rfl fun a hF => stS hF rfl rfl rfl rfl rfl fun a hF => stS hF rfl rfl rfl rfl rfl fun a hF => stS hF rfl rfl rfl rfl rfl fun a hF => stY hF rfl rfl rfl (g_pickT hF rfl rfl) rfl fun a hF => st hF (g_pickT hF rfl rfl) rfl fun a hF => ?_
    refine wpList_nil ?_
    refine tN ?_
    refine c_T hF rfl ?_
    refine wp_region_lit ?_
    refine st hF (g_assign hF rfl) rfl fun a hF => ?_
    refine wpList_nil ?_
    refine tN ?_
    refine sq ?_
    refine sq ?_
    refine wp_region_lit ?_
    refine st hF (g_move hF rfl) rfl fun a hF => st hF (g_neq hF rfl rfl) rfl fun a hF => ?_
    refine wpList_nil ?_
    refine tN ?_
    refine c_kT hF rfl (by decide) ?_
    refine sq ?_
    refine wp_region_lit ?_
    refine st hF (g_build0 ty_bu_27) rfl fun a hF => st hF (g_move hF rfl) rfl fun a hF => ?_
    refine stN hF (d_storeAgg 2 hM rfl ty_sz_27 hF rfl rfl (tenC_one rfl) (by simp only [fnC_size, cells_size, vecC_size, tabC_size, planeC_size, tenC_size, smC_size, numC_size, numI_size]) (by simp only [fnC_size, cells_size, vecC_size, tabC_size, planeC_size, tenC_size, smC_size, numC_size, numI_size] <;> omega) (splice_whole _ _ rfl)) ?_
    intro _ w' a hM hF
    change Mem w w' [some (b1, tenC p n i o (.slice (some ⟨b, 0, none⟩) m m)), some (b2, tenC p n i2 o2 (.slice (some ⟨bz, 0, none⟩) m2 m2)), some (b3, tenC 0 0 0 0 (.slice none 0 0)), none, none] [(b, numI m g), (bz, numI m2 g2)] at hM
    refine st hF (g_assign hF rfl) rfl fun a hF => ?_
    refine wpList_nil ?_
    refine tN ?_
    refine wp_ret ?_
    refine tR ?_
    refine fin2 rfl hF.defers (res_agg ty_ag_27 hF rfl (hM.row 2 rfl) (by simp only [fnC_size, cells_size, vecC_size, tabC_size, planeC_size, tenC_size, smC_size, numC_size, numI_size])) (res_tmp hF rfl) ⟨_, rfl, hM.below, ?_⟩
    show _ = _
    rfl
  ·
    first | rw [decide_eq_false g4] at hF | simp only [decide_eq_false g4] at hF
    refine stY hF rfl rfl rfl (g_fieldAddr ty_fo_27_3 hF rfl) rfl fun a hF => stY hF rfl rfl rfl (g_load ty_on_2 hF rfl (hM.row 0 rfl) (tenC_3 (by omega))) rfl fun a hF => stY hF rfl rfl rfl (g_fieldAddr ty_fo_27_3 hF rfl) rfl fun a hF => stY hF rfl rfl rfl (g_load ty_on_2 hF rfl (hM.row 1 rfl) (tenC_3 (by omega))) rfl fun a hF => stY hF rfl rfl rfl (g_neq hF rfl rfl) rfl fun a hF => stY hF rfl rfl rfl (g_pickF hF rfl rfl) rfl fun a hF => stY hF rfl rfl rfl (g_move hF rfl) rfl fun a hF => ?_
    by_cases g7 : (o : Int) ≠ o2
    ·
      first | rw [decide_eq_true g7] at hF | simp only [decide_eq_true g7] at hF
      refine stS hF rfl rfl rfl rfl rfl fun a hF => stS hF rfl rfl rfl rfl rfl fun a hF => stS hF rfl rfl rfl rfl rfl fun a hF => stS hF rfl rfl rfl rfl rfl fun a hF => stS hF rfl rfl rfl rfl rfl fun a hF => stS hF rfl rfl rfl rfl rfl fun a hF => stY hF rfl rfl rfl (g_pickT hF rfl rfl) rfl fun a hF => st hF (g_pickT hF rfl rfl) rfl fun a hF => ?_
      refine wpList_nil ?_
      refine tN ?_
      refine c_T hF rfl ?_
      refine wp_region_lit ?_
      refine st hF (g_assign hF rfl) rfl fun a hF => ?_
      refine wpList_nil ?_
      refine tN ?_
      refine sq ?_
      refine sq ?_
      refine wp_region_lit ?_
      refine st hF (g_move hF rfl) rfl fun a hF => st hF (g_neq hF rfl rfl) rfl fun a hF => ?_
      refine wpList_nil ?_
      refine tN ?_
      refine c_kT hF rfl (by decide) ?_
      refine sq ?_
      refine wp_region_lit ?_
      refine st hF (g_build0 ty_bu_27) rfl fun a hF => st hF (g_move hF rfl) rfl fun a hF => ?_
      refine stN hF (d_storeAgg 2 hM rfl ty_sz_27 hF rfl rfl (tenC_one rfl) (by simp only [fnC_size, cells_size, vecC_size, tabC_size, planeC_size, tenC_size, smC_size, numC_size, numI_size]) (by simp only [fnC_size, cells_size, vecC_size, tabC_size, planeC_size, tenC_size, smC_size, numC_size, numI_size] <;> omega) (splice_whole _ _ rfl)) ?_
      intro _ w' a hM hF
      change Mem w w' [some (b1, tenC p n i o (.slice (some ⟨b, 0, none⟩) m m)), some (b2, tenC p n i2 o2 (.slice (some ⟨bz, 0, none⟩) m2 m2)), some (b3, tenC 0 0 0 0 (.slice none 0 0)), none, none] [(b, numI m g), (bz, numI m2 g2)] at hM
      refine st hF (g_assign hF rfl) rfl fun a hF => ?_
      refine wpList_nil ?_
      refine tN ?_
      refine wp_ret ?_
      refine tR ?_
      refine fin2 rfl hF.defers (res_agg ty_ag_27 hF rfl (hM.row 2 rfl) (by simp only [fnC_size, cells_size, vecC_size, tabC_size, planeC_size, tenC_size, smC_size, numC_size, numI_size])) (res_tmp hF rfl) ⟨_, rfl, hM.below, ?_⟩
      show _ = _
      rfl
    ·
      first | rw [decide_eq_false g7] at hF | simp only [decide_eq_false g7] at hF
      refine stY hF rfl rfl rfl (g_move hF rfl) rfl fun a hF => stY hF rfl rfl rfl (g_fieldAddr ty_fo_27_0 hF rfl) rfl fun a hF => stY hF rfl rfl rfl (g_load ty_on_2 hF rfl (hM.row 0 rfl) (tenC_0 (by omega))) rfl fun a hF => stY hF rfl rfl rfl (g_sub hF rfl rfl (wrap_i64 (by omega) (by omega))) rfl fun a hF => ?_
      refine stYR hF rfl rfl rfl (d_call Try.call46 hF (.cons rfl (.cons rfl (.cons rfl .nil))) (l01In_ok (k) (0) (p - 1) _)) rfl ?_
      rintro _ w' a ⟨hx, rfl⟩ hF
      have hM := hM.ext hx
      refine stY hF rfl rfl rfl (g_notP hF rfl) rfl fun a hF => stY hF rfl rfl rfl (g_pickF hF rfl rfl) rfl fun a hF => st hF (g_pickT hF rfl rfl) rfl fun a hF => ?_
      refine wpList_nil ?_
      refine tN ?_
      refine c_cond hF rfl (fun h10 => ?_) (fun h10 => ?_)
      ·
        refine wp_region_lit ?_
        refine st hF (g_assign hF rfl) rfl fun a hF => ?_
        refine wpList_nil ?_
        refine tN ?_
        refine sq ?_
        refine sq ?_
        refine wp_region_lit ?_
        refine st hF (g_move hF rfl) rfl fun a hF => st hF (g_neq hF rfl rfl) rfl fun a hF => ?_
        refine wpList_nil ?_
        refine tN ?_
        refine c_kT hF rfl (by decide) ?_
        refine sq ?_
        refine wp_region_lit ?_
        refine st hF (g_build0 ty_bu_27) rfl fun a hF => st hF (g_move hF rfl) rfl fun a hF => ?_
        refine stN hF (d_storeAgg 2 hM rfl ty_sz_27 hF rfl rfl (tenC_one rfl) (by simp only [fnC_size, cells_size, vecC_size, tabC_size, planeC_size, tenC_size, smC_size, numC_size, numI_size]) (by simp only [fnC_size, cells_size, vecC_size, tabC_size, planeC_size, tenC_size, smC_size, numC_size, numI_size] <;> omega) (splice_whole _ _ rfl)) ?_
        intro _ w' a hM hF
        change Mem w w' [some (b1, tenC p n i o (.slice (some ⟨b, 0, none⟩) m m)), some (b2, tenC p n i2 o2 (.slice (some ⟨bz, 0, none⟩) m2 m2)), some (b3, tenC 0 0 0 0 (.slice none 0 0)), none, none] [(b, numI m g), (bz, numI m2 g2)] at hM
        refine st hF (g_assign hF rfl) rfl fun a hF => ?_
        refine wpList_nil ?_
        refine tN ?_
        refine wp_ret ?_
        refine tR ?_
        refine fin2 rfl hF.defers (res_agg ty_ag_27 hF rfl (hM.row 2 rfl) (by simp only [fnC_size, cells_size, vecC_size, tabC_size, planeC_size, tenC_size, smC_size, numC_size, numI_size])) (res_tmp hF rfl) ⟨_, rfl, hM.below, ?_⟩
        show _ = _
        rfl
      ·
        exfalso; omega

/-- Numbers and k times other numbers together. -/
def adF (p k : Nat) (f h : Nat → Nat) (c : Nat) : Nat := (f c + k * h c) % p

theorem AddTensorsIB (p n i o k b bz : Nat) (f h : Nat → Nat) (w : World) (hpP : primeP (p : Int)) (hn0 : 0 < n) (hn : n ≤ 6) (hw : wl n i o) (hfp : ∀ c, f c < p) (hhp : ∀ c, h c < p) (hk : k < p) (hb : Blk w b (numC (n ^ (i + o)) f)) (hbz : Blk w bz (numC (n ^ (i + o)) h)) :
    CallsR Try.prog 36 #[.agg (tenC (p : Int) (n : Int) (i : Int) (o : Int) (.slice (some ⟨b, 0, none⟩) (n ^ (i + o)) (n ^ (i + o)))), .agg (tenC (p : Int) (n : Int) (i : Int) (o : Int) (.slice (some ⟨bz, 0, none⟩) (n ^ (i + o)) (n ^ (i + o)))), .int .i64 (((k : Nat) : Int))] w (fun v w' => TenOut0 w w' (p : Int) (n : Int) (i : Int) (o : Int) (n ^ (i + o)) (adF p k f h) v) := by
  refine calls_fr [.agg (tenC (p : Int) (n : Int) (i : Int) (o : Int) (.slice (some ⟨b, 0, none⟩) (n ^ (i + o)) (n ^ (i + o)))), .agg (tenC (p : Int) (n : Int) (i : Int) (o : Int) (.slice (some ⟨bz, 0, none⟩) (n ^ (i + o)) (n ^ (i + o)))), .int .i64 (((k : Nat) : Int))] Try.func36 rfl Try.ntmps36 rfl fun a hF => ?_
  have hM : Mem w w [none, none, none, none, none, none] [(b, numC (n ^ (i + o)) f), (bz, numC (n ^ (i + o)) h)] := MemX.startD w 6 _ (startD2 hb hbz)
  change Fr 64 a [(0, .agg (tenC (p : Int) (n : Int) (i : Int) (o : Int) (.slice (some ⟨b, 0, none⟩) (n ^ (i + o)) (n ^ (i + o))))), (1, .agg (tenC (p : Int) (n : Int) (i : Int) (o : Int) (.slice (some ⟨bz, 0, none⟩) (n ^ (i + o)) (n ^ (i + o))))), (2, .int .i64 (((k : Nat) : Int)))] at hF
  have hp0 : 0 < p := by have h := hpP; unfold primeP at h; omega
  have hp2 : p < 100 := by have h := hpP; unfold primeP at h; omega
  have hw3 := hw.2.2
  have hw1 := hw.1
  have hw2 := hw.2.1
  have h1 := TenP.of_nat hpP hn0 hn hw rfl hfp
  have h2 := TenP.of_nat hpP hn0 hn hw rfl hhp
  refine sq ?_
  refine wp_region_lit ?_
  refine stR hF (d_box 0 hM hF rfl) rfl ?_
  rintro _ w' a ⟨b1, rfl, hM, -⟩ hF
  change Mem w w' [some (b1, tenC (p : Int) (n : Int) (i : Int) (o : Int) (.slice (some ⟨b, 0, none⟩) (n ^ (i + o)) (n ^ (i + o)))), none, none, none, none, none] [(b, numC (n ^ (i + o)) f), (bz, numC (n ^ (i + o)) h)] at hM
  refine stR hF (d_box 1 hM hF rfl) rfl ?_
  rintro _ w' a ⟨b2, rfl, hM, -⟩ hF
  change Mem w w' [some (b1, tenC (p : Int) (n : Int) (i : Int) (o : Int) (.slice (some ⟨b, 0, none⟩) (n ^ (i + o)) (n ^ (i + o)))), some (b2, tenC (p : Int) (n : Int) (i : Int) (o : Int) (.slice (some ⟨bz, 0, none⟩) (n ^ (i + o)) (n ^ (i + o)))), none, none, none, none] [(b, numC (n ^ (i + o)) f), (bz, numC (n ^ (i + o)) h)] at hM
  refine stR hF (d_alloc 2 hM ty_ze_27) rfl ?_
  rintro _ w' a ⟨b3, rfl, hM, -⟩ hF
  change Mem w w' [some (b1, tenC (p : Int) (n : Int) (i : Int) (o : Int) (.slice (some ⟨b, 0, none⟩) (n ^ (i + o)) (n ^ (i + o)))), some (b2, tenC (p : Int) (n : Int) (i : Int) (o : Int) (.slice (some ⟨bz, 0, none⟩) (n ^ (i + o)) (n ^ (i + o)))), some (b3, tenC 0 0 0 0 (.slice none 0 0)), none, none, none] [(b, numC (n ^ (i + o)) f), (bz, numC (n ^ (i + o)) h)] at hM
  refine st hF (g_assign hF rfl) rfl fun a hF => ?_
  refine wpList_nil ?_
  refine tN ?_
  refine sq ?_
  refine wp_region_lit ?_
  refine st hF (g_loadAgg ty_ag_27 hF rfl (hM.row 0 rfl) (by simp only [fnC_size, cells_size, vecC_size, tabC_size, planeC_size, tenC_size, smC_size, numC_size, numI_size] <;> omega) (whole rfl)) rfl fun a hF => st hF (g_loadAgg ty_ag_27 hF rfl (hM.row 1 rfl) (by simp only [fnC_size, cells_size, vecC_size, tabC_size, planeC_size, tenC_size, smC_size, numC_size, numI_size] <;> omega) (whole rfl)) rfl fun a hF => st hF (g_fieldAddr ty_fo_27_2 hF rfl) rfl fun a hF => st hF (g_load ty_on_2 hF rfl (hM.row 0 rfl) (tenC_2 (by omega))) rfl fun a hF => st hF (g_fieldAddr ty_fo_27_2 hF rfl) rfl fun a hF => st hF (g_load ty_on_2 hF rfl (hM.row 1 rfl) (tenC_2 (by omega))) rfl fun a hF => st hF (g_eql hF rfl rfl) rfl fun a hF => st hF (g_move hF rfl) rfl fun a hF => ?_
  by_cases g4 : (((i : Nat) : Int) : Int) = ((i : Nat) : Int)
  ·
    first | rw [decide_eq_true g4] at hF | simp only [decide_eq_true g4] at hF
    refine stY hF rfl rfl rfl (g_fieldAddr ty_fo_27_3 hF rfl) rfl fun a hF => stY hF rfl rfl rfl (g_load ty_on_2 hF rfl (hM.row 0 rfl) (tenC_3 (by omega))) rfl fun a hF => stY hF rfl rfl rfl (g_fieldAddr ty_fo_27_3 hF rfl) rfl fun a hF => stY hF rfl rfl rfl (g_load ty_on_2 hF rfl (hM.row 1 rfl) (tenC_3 (by omega))) rfl fun a hF => stY hF rfl rfl rfl (g_eql hF rfl rfl) rfl fun a hF => st hF (g_pickT hF rfl rfl) rfl fun a hF => st hF (g_move hF rfl) rfl fun a hF => ?_
    by_cases g5 : (((o : Nat) : Int) : Int) = ((o : Nat) : Int)
    ·
      first | rw [decide_eq_true g5] at hF | simp only [decide_eq_true g5] at hF
      refine stY hF rfl rfl rfl (g_move hF rfl) rfl fun a hF => stY hF rfl rfl rfl (g_geq hF rfl rfl) rfl fun a hF => st hF (g_pickT hF rfl rfl) rfl fun a hF => st hF (g_move hF rfl) rfl fun a hF => ?_
      by_cases g6 : 0 ≤ (((k : Nat) : Int) : Int)
      ·
        first | rw [decide_eq_true g6] at hF | simp only [decide_eq_true g6] at hF
        refine stY hF rfl rfl rfl (g_move hF rfl) rfl fun a hF => stY hF rfl rfl rfl (g_fieldAddr ty_fo_27_0 hF rfl) rfl fun a hF => stY hF rfl rfl rfl (g_load ty_on_2 hF rfl (hM.row 0 rfl) (tenC_0 (by omega))) rfl fun a hF => stY hF rfl rfl rfl (g_lss hF rfl rfl) rfl fun a hF => st hF (g_pickT hF rfl rfl) rfl fun a hF => ?_
        refine stR hF (d_call Try.call64 hF (.cons rfl (.cons rfl (.cons rfl .nil))) (pairFault_ok (p : Int) (n : Int) (i : Int) (o : Int) (i : Int) (o : Int) b bz (n ^ (i + o)) (n ^ (i + o)) (fun c => ((f c : Nat) : Int)) (fun c => ((h c : Nat) : Int)) ((decide ((((k : Nat) : Int) : Int) < ((p : Nat) : Int)))) _ (hM.fz 0 rfl) (hM.fz 1 rfl) (by omega) (by omega) h1 h2 (by first | rfl | exact decide_eq_true (by omega)))) rfl ?_
        rintro _ w' a ⟨hx, rfl⟩ hF
        have hM := hM.ext hx
        refine st hF (g_assign hF rfl) rfl fun a hF => ?_
        refine wpList_nil ?_
        refine tN ?_
        refine sq ?_
        refine sq ?_
        refine wp_region_lit ?_
        refine st hF (g_move hF rfl) rfl fun a hF => st hF (g_neq hF rfl rfl) rfl fun a hF => ?_
        refine wpList_nil ?_
        refine tN ?_
        refine c_kF hF rfl (by decide) ?_
        refine wp_skip ?_
        refine tN ?_
        refine sq ?_
        refine wp_region_lit ?_
        refine st hF (g_fieldAddr ty_fo_27_0 hF rfl) rfl fun a hF => st hF (g_load ty_on_2 hF rfl (hM.row 0 rfl) (tenC_0 (by omega))) rfl fun a hF => st hF (g_fieldAddr ty_fo_27_1 hF rfl) rfl fun a hF => st hF (g_load ty_on_2 hF rfl (hM.row 0 rfl) (tenC_1 (by omega))) rfl fun a hF => st hF (g_fieldAddr ty_fo_27_2 hF rfl) rfl fun a hF => st hF (g_load ty_on_2 hF rfl (hM.row 0 rfl) (tenC_2 (by omega))) rfl fun a hF => st hF (g_fieldAddr ty_fo_27_3 hF rfl) rfl fun a hF => st hF (g_load ty_on_2 hF rfl (hM.row 0 rfl) (tenC_3 (by omega))) rfl fun a hF => ?_
        refine stR hF (d_call Try.call49 hF (.cons rfl (.cons rfl (.cons rfl (.cons rfl .nil)))) (zeroTensor_ok (p) (n) (i) (o) _ (by omega) (by omega) hw)) rfl ?_
        rintro _ w' a ⟨hx, b8, rfl, hge, hbk⟩ hF
        have hM := hM.fill hx 3 hbk hge
        change Mem w w' [some (b1, tenC (p : Int) (n : Int) (i : Int) (o : Int) (.slice (some ⟨b, 0, none⟩) (n ^ (i + o)) (n ^ (i + o)))), some (b2, tenC (p : Int) (n : Int) (i : Int) (o : Int) (.slice (some ⟨bz, 0, none⟩) (n ^ (i + o)) (n ^ (i + o)))), some (b3, tenC 0 0 0 0 (.slice none 0 0)), some (b8, numC ((n) ^ ((i) + (o))) (fun _ => 0)), none, none] [(b, numC (n ^ (i + o)) f), (bz, numC (n ^ (i + o)) h)] at hM
        refine stR hF (d_alloc 4 hM ty_ze_27) rfl ?_
        rintro _ w' a ⟨b9, rfl, hM, -⟩ hF
        change Mem w w' [some (b1, tenC (p : Int) (n : Int) (i : Int) (o : Int) (.slice (some ⟨b, 0, none⟩) (n ^ (i + o)) (n ^ (i + o)))), some (b2, tenC (p : Int) (n : Int) (i : Int) (o : Int) (.slice (some ⟨bz, 0, none⟩) (n ^ (i + o)) (n ^ (i + o)))), some (b3, tenC 0 0 0 0 (.slice none 0 0)), some (b8, numC ((n) ^ ((i) + (o))) (fun _ => 0)), some (b9, tenC 0 0 0 0 (.slice none 0 0)), none] [(b, numC (n ^ (i + o)) f), (bz, numC (n ^ (i + o)) h)] at hM
        refine stN hF (d_storeAgg 4 hM rfl ty_sz_27 hF rfl rfl (tenC_one rfl) (by simp only [fnC_size, cells_size, vecC_size, tabC_size, planeC_size, tenC_size, smC_size, numC_size, numI_size]) (by simp only [fnC_size, cells_size, vecC_size, tabC_size, planeC_size, tenC_size, smC_size, numC_size, numI_size] <;> omega) (splice_whole _ _ rfl)) ?_
        intro _ w' a hM hF
        change Mem w w' [some (b1, tenC (p : Int) (n : Int) (i : Int) (o : Int) (.slice (some ⟨b, 0, none⟩) (n ^ (i + o)) (n ^ (i + o)))), some (b2, tenC (p : Int) (n : Int) (i : Int) (o : Int) (.slice (some ⟨bz, 0, none⟩) (n ^ (i + o)) (n ^ (i + o)))), some (b3, tenC 0 0 0 0 (.slice none 0 0)), some (b8, numC ((n) ^ ((i) + (o))) (fun _ => 0)), some (b9, tenC ((p : Nat) : Int) ((n : Nat) : Int) ((i : Nat) : Int) ((o : Nat) : Int) (.slice (some ⟨b8, 0, none⟩) ((n) ^ ((i) + (o))) ((n) ^ ((i) + (o))))), none] [(b, numC (n ^ (i + o)) f), (bz, numC (n ^ (i + o)) h)] at hM
        refine wpList_nil ?_
        refine tN ?_
        refine sq ?_
        refine wp_region_lit ?_
        refine st hF (g_fieldAddr ty_fo_27_0 hF rfl) rfl fun a hF => st hF (g_load ty_on_2 hF rfl (hM.row 0 rfl) (tenC_0 (by omega))) rfl fun a hF => st hF (g_fieldAddr ty_fo_27_4 hF rfl) rfl fun a hF => st hF (g_load ty_on_22 hF rfl (hM.row 4 rfl) (tenC_4 (by omega))) rfl fun a hF => st hF (g_buildP hF (build2 hF rfl rfl) (fun w => ty_bs_74 _ _ _ _ w)) rfl fun a hF => ?_
        refine stR hF (d_alloc 5 hM ty_ze_74) rfl ?_
        rintro _ w' a ⟨b10, rfl, hM, -⟩ hF
        change Mem w w' [some (b1, tenC (p : Int) (n : Int) (i : Int) (o : Int) (.slice (some ⟨b, 0, none⟩) (n ^ (i + o)) (n ^ (i + o)))), some (b2, tenC (p : Int) (n : Int) (i : Int) (o : Int) (.slice (some ⟨bz, 0, none⟩) (n ^ (i + o)) (n ^ (i + o)))), some (b3, tenC 0 0 0 0 (.slice none 0 0)), some (b8, numC ((n) ^ ((i) + (o))) (fun _ => 0)), some (b9, tenC ((p : Nat) : Int) ((n : Nat) : Int) ((i : Nat) : Int) ((o : Nat) : Int) (.slice (some ⟨b8, 0, none⟩) ((n) ^ ((i) + (o))) ((n) ^ ((i) + (o))))), some (b10, smC 0 (.slice none 0 0))] [(b, numC (n ^ (i + o)) f), (bz, numC (n ^ (i + o)) h)] at hM
        refine stN hF (d_storeAgg 5 hM rfl ty_sz_74 hF rfl rfl (smC_one rfl) (by simp only [fnC_size, cells_size, vecC_size, tabC_size, planeC_size, tenC_size, smC_size, numC_size, numI_size]) (by simp only [fnC_size, cells_size, vecC_size, tabC_size, planeC_size, tenC_size, smC_size, numC_size, numI_size] <;> omega) (splice_whole _ _ (by simp only [fnC_size, cells_size, vecC_size, tabC_size, planeC_size, tenC_size, smC_size, numC_size, numI_size]))) ?_
        intro _ w' a hM hF
        change Mem w w' [some (b1, tenC (p : Int) (n : Int) (i : Int) (o : Int) (.slice (some ⟨b, 0, none⟩) (n ^ (i + o)) (n ^ (i + o)))), some (b2, tenC (p : Int) (n : Int) (i : Int) (o : Int) (.slice (some ⟨bz, 0, none⟩) (n ^ (i + o)) (n ^ (i + o)))), some (b3, tenC 0 0 0 0 (.slice none 0 0)), some (b8, numC ((n) ^ ((i) + (o))) (fun _ => 0)), some (b9, tenC ((p : Nat) : Int) ((n : Nat) : Int) ((i : Nat) : Int) ((o : Nat) : Int) (.slice (some ⟨b8, 0, none⟩) ((n) ^ ((i) + (o))) ((n) ^ ((i) + (o))))), some (b10, smC (((p : Nat) : Int) : Int) (.slice (some ⟨b8, 0, none⟩) ((n) ^ ((i) + (o))) ((n) ^ ((i) + (o)))))] [(b, numC (n ^ (i + o)) f), (bz, numC (n ^ (i + o)) h)] at hM
        refine wpList_nil ?_
        refine tN ?_
        refine sq ?_
        refine wp_region_lit ?_
        refine st hF (g_loadAgg ty_ag_74 hF rfl (hM.row 5 rfl) (by simp only [fnC_size, cells_size, vecC_size, tabC_size, planeC_size, tenC_size, smC_size, numC_size, numI_size] <;> omega) (whole rfl)) rfl fun a hF => st hF (g_fieldAddr ty_fo_27_4 hF rfl) rfl fun a hF => st hF (g_load ty_on_22 hF rfl (hM.row 0 rfl) (tenC_4 (by omega))) rfl fun a hF => ?_
        refine stR hF (d_callX Try.call65 hF (.cons rfl (.cons rfl (.cons rfl .nil))) (addSumsI_ok (p) b8 (0) ((n) ^ ((i) + (o))) (((n) ^ ((i) + (o)))) b (0) (n ^ (i + o)) (n ^ (i + o)) (1) _ (fun _ => 0) f _ (by omega) (by omega) (by omega) (fun c => by have hml := Nat.mod_lt (0 + 1 * f (c - 0)) hp0; first | omega | (split <;> omega) | (dsimp only; first | omega | (split <;> omega))) (fun c => by first | (have := hfp c; omega) | (have := hhp c; omega)) (by omega) (by omega) (by omega) (hM.row 3 rfl) (hM.fz 0 rfl) ((hM.froz _ _ (List.mem_of_getElem? (i := 0) rfl)).2 3 _ _ rfl).symm (fun q hq => numC_get (k := q) (by omega) (by omega)))) rfl ?_
        rintro _ w' a ⟨hx, rfl, hbk⟩ hF
        have hM := hM.upd 3 rfl hx hbk
        change Mem w w' [some (b1, tenC (p : Int) (n : Int) (i : Int) (o : Int) (.slice (some ⟨b, 0, none⟩) (n ^ (i + o)) (n ^ (i + o)))), some (b2, tenC (p : Int) (n : Int) (i : Int) (o : Int) (.slice (some ⟨bz, 0, none⟩) (n ^ (i + o)) (n ^ (i + o)))), some (b3, tenC 0 0 0 0 (.slice none 0 0)), some (b8, numC ((n) ^ ((i) + (o))) (fun c => if 0 ≤ c ∧ c < 0 + (n ^ (i + o)) then ((fun _ => 0) c + 1 * f (c - (0))) % (p) else (fun _ => 0) c)), some (b9, tenC ((p : Nat) : Int) ((n : Nat) : Int) ((i : Nat) : Int) ((o : Nat) : Int) (.slice (some ⟨b8, 0, none⟩) ((n) ^ ((i) + (o))) ((n) ^ ((i) + (o))))), some (b10, smC (((p : Nat) : Int) : Int) (.slice (some ⟨b8, 0, none⟩) ((n) ^ ((i) + (o))) ((n) ^ ((i) + (o)))))] [(b, numC (n ^ (i + o)) f), (bz, numC (n ^ (i + o)) h)] at hM
        refine wpList_nil ?_
        refine tN ?_
        refine sq ?_
        refine wp_region_lit ?_
        refine st hF (g_loadAgg ty_ag_74 hF rfl (hM.row 5 rfl) (by simp only [fnC_size, cells_size, vecC_size, tabC_size, planeC_size, tenC_size, smC_size, numC_size, numI_size] <;> omega) (whole rfl)) rfl fun a hF => st hF (g_fieldAddr ty_fo_27_4 hF rfl) rfl fun a hF => st hF (g_load ty_on_22 hF rfl (hM.row 1 rfl) (tenC_4 (by omega))) rfl fun a hF => st hF (g_move hF rfl) rfl fun a hF => ?_
        refine stR hF (d_callX Try.call65 hF (.cons rfl (.cons rfl (.cons rfl .nil))) (addSumsI_ok (p) b8 (0) ((n) ^ ((i) + (o))) (((n) ^ ((i) + (o)))) bz (0) (n ^ (i + o)) (n ^ (i + o)) (k) _ (fun c => if 0 ≤ c ∧ c < 0 + (n ^ (i + o)) then ((fun _ => 0) c + 1 * f (c - (0))) % (p) else (fun _ => 0) c) h _ (by omega) (by omega) (by omega) (fun c => by have hml := Nat.mod_lt (0 + 1 * f (c - 0)) hp0; first | omega | (split <;> omega) | (dsimp only; first | omega | (split <;> omega))) (fun c => by first | (have := hfp c; omega) | (have := hhp c; omega)) (by omega) (by omega) (by omega) (hM.row 3 rfl) (hM.fz 1 rfl) ((hM.froz _ _ (List.mem_of_getElem? (i := 1) rfl)).2 3 _ _ rfl).symm (fun q hq => numC_get (k := q) (by omega) (by omega)))) rfl ?_
        rintro _ w' a ⟨hx, rfl, hbk⟩ hF
        have hM := hM.upd 3 rfl hx hbk
        change Mem w w' [some (b1, tenC (p : Int) (n : Int) (i : Int) (o : Int) (.slice (some ⟨b, 0, none⟩) (n ^ (i + o)) (n ^ (i + o)))), some (b2, tenC (p : Int) (n : Int) (i : Int) (o : Int) (.slice (some ⟨bz, 0, none⟩) (n ^ (i + o)) (n ^ (i + o)))), some (b3, tenC 0 0 0 0 (.slice none 0 0)), some (b8, numC ((n) ^ ((i) + (o))) (fun c => if 0 ≤ c ∧ c < 0 + (n ^ (i + o)) then ((fun c => if 0 ≤ c ∧ c < 0 + (n ^ (i + o)) then ((fun _ => 0) c + 1 * f (c - (0))) % (p) else (fun _ => 0) c) c + k * h (c - (0))) % (p) else (fun c => if 0 ≤ c ∧ c < 0 + (n ^ (i + o)) then ((fun _ => 0) c + 1 * f (c - (0))) % (p) else (fun _ => 0) c) c)), some (b9, tenC ((p : Nat) : Int) ((n : Nat) : Int) ((i : Nat) : Int) ((o : Nat) : Int) (.slice (some ⟨b8, 0, none⟩) ((n) ^ ((i) + (o))) ((n) ^ ((i) + (o))))), some (b10, smC (((p : Nat) : Int) : Int) (.slice (some ⟨b8, 0, none⟩) ((n) ^ ((i) + (o))) ((n) ^ ((i) + (o)))))] [(b, numC (n ^ (i + o)) f), (bz, numC (n ^ (i + o)) h)] at hM
        refine wpList_nil ?_
        refine tN ?_
        refine sq ?_
        refine wp_region_lit ?_
        refine st hF (g_loadAgg ty_ag_27 hF rfl (hM.row 4 rfl) (by simp only [fnC_size, cells_size, vecC_size, tabC_size, planeC_size, tenC_size, smC_size, numC_size, numI_size] <;> omega) (whole rfl)) rfl fun a hF => ?_
        refine stN hF (d_storeAgg 2 hM rfl ty_sz_27 hF rfl rfl (tenC_one rfl) (by simp only [fnC_size, cells_size, vecC_size, tabC_size, planeC_size, tenC_size, smC_size, numC_size, numI_size]) (by simp only [fnC_size, cells_size, vecC_size, tabC_size, planeC_size, tenC_size, smC_size, numC_size, numI_size] <;> omega) (splice_whole _ _ rfl)) ?_
        intro _ w' a hM hF
        change Mem w w' [some (b1, tenC (p : Int) (n : Int) (i : Int) (o : Int) (.slice (some ⟨b, 0, none⟩) (n ^ (i + o)) (n ^ (i + o)))), some (b2, tenC (p : Int) (n : Int) (i : Int) (o : Int) (.slice (some ⟨bz, 0, none⟩) (n ^ (i + o)) (n ^ (i + o)))), some (b3, tenC ((p : Nat) : Int) ((n : Nat) : Int) ((i : Nat) : Int) ((o : Nat) : Int) (.slice (some ⟨b8, 0, none⟩) ((n) ^ ((i) + (o))) ((n) ^ ((i) + (o))))), some (b8, numC ((n) ^ ((i) + (o))) (fun c => if 0 ≤ c ∧ c < 0 + (n ^ (i + o)) then ((fun c => if 0 ≤ c ∧ c < 0 + (n ^ (i + o)) then ((fun _ => 0) c + 1 * f (c - (0))) % (p) else (fun _ => 0) c) c + k * h (c - (0))) % (p) else (fun c => if 0 ≤ c ∧ c < 0 + (n ^ (i + o)) then ((fun _ => 0) c + 1 * f (c - (0))) % (p) else (fun _ => 0) c) c)), some (b9, tenC ((p : Nat) : Int) ((n : Nat) : Int) ((i : Nat) : Int) ((o : Nat) : Int) (.slice (some ⟨b8, 0, none⟩) ((n) ^ ((i) + (o))) ((n) ^ ((i) + (o))))), some (b10, smC (((p : Nat) : Int) : Int) (.slice (some ⟨b8, 0, none⟩) ((n) ^ ((i) + (o))) ((n) ^ ((i) + (o)))))] [(b, numC (n ^ (i + o)) f), (bz, numC (n ^ (i + o)) h)] at hM
        refine st hF (g_assign hF rfl) rfl fun a hF => ?_
        refine wpList_nil ?_
        refine tN ?_
        refine wp_ret ?_
        refine fin2 rfl hF.defers (res_agg ty_ag_27 hF rfl (hM.row 2 rfl) (by simp only [fnC_size, cells_size, vecC_size, tabC_size, planeC_size, tenC_size, smC_size, numC_size, numI_size])) (res_tmp hF rfl) ⟨_, rfl, hM.below, ?_⟩
        exact ⟨_, rfl, hM.ge 3 rfl, (hM.rowc (cs' := numC (n ^ (i + o)) (adF p k f h)) 3 rfl (numC_congr fun c hc => by simp only [Nat.sub_zero, Nat.zero_add, Nat.one_mul]; rw [if_pos ⟨by omega, by omega⟩, if_pos ⟨by omega, by omega⟩, Nat.mod_eq_of_lt (hfp c)]; rfl)).row 3 rfl⟩
      ·
        first | rw [decide_eq_false g6] at hF | simp only [decide_eq_false g6] at hF
        first | exact absurd rfl g6 | (exfalso; omega)
    ·
      first | rw [decide_eq_false g5] at hF | simp only [decide_eq_false g5] at hF
      first | exact absurd rfl g5 | (exfalso; omega)
  ·
    first | rw [decide_eq_false g4] at hF | simp only [decide_eq_false g4] at hF
    first | exact absurd rfl g4 | (exfalso; omega)

theorem AddTensorsSB (p n i o k b bz : Nat) (f h : Nat → Nat) (w : World) (hpP : primeP (p : Int)) (hn0 : 0 < n) (hn : n ≤ 6) (hw : wl n i o) (hfp : ∀ c, f c < p) (hhp : ∀ c, h c < p) (hk : k < p) (hb : Blk w b (numC (n ^ (i + o)) f)) (hbz : Blk w bz (numC (n ^ (i + o)) h)) :
    CallsR Try.prog 35 #[.agg (tenC (p : Int) (n : Int) (i : Int) (o : Int) (.slice (some ⟨b, 0, none⟩) (n ^ (i + o)) (n ^ (i + o)))), .agg (tenC (p : Int) (n : Int) (i : Int) (o : Int) (.slice (some ⟨bz, 0, none⟩) (n ^ (i + o)) (n ^ (i + o)))), .int .i64 (((k : Nat) : Int))] w (fun v w' => TenOut0 w w' (p : Int) (n : Int) (i : Int) (o : Int) (n ^ (i + o)) (adF p k f h) v) := by
  refine calls_fr [.agg (tenC (p : Int) (n : Int) (i : Int) (o : Int) (.slice (some ⟨b, 0, none⟩) (n ^ (i + o)) (n ^ (i + o)))), .agg (tenC (p : Int) (n : Int) (i : Int) (o : Int) (.slice (some ⟨bz, 0, none⟩) (n ^ (i + o)) (n ^ (i + o)))), .int .i64 (((k : Nat) : Int))] Try.func35 rfl Try.ntmps35 rfl fun a hF => ?_
  have hM : Mem w w [none, none, none, none, none] [(b, numC (n ^ (i + o)) f), (bz, numC (n ^ (i + o)) h)] := MemX.startD w 5 _ (startD2 hb hbz)
  change Fr 79 a [(0, .agg (tenC (p : Int) (n : Int) (i : Int) (o : Int) (.slice (some ⟨b, 0, none⟩) (n ^ (i + o)) (n ^ (i + o))))), (1, .agg (tenC (p : Int) (n : Int) (i : Int) (o : Int) (.slice (some ⟨bz, 0, none⟩) (n ^ (i + o)) (n ^ (i + o))))), (2, .int .i64 (((k : Nat) : Int)))] at hF
  have hp0 : 0 < p := by have h := hpP; unfold primeP at h; omega
  have hp2 : p < 100 := by have h := hpP; unfold primeP at h; omega
  have hw3 := hw.2.2
  have hw1 := hw.1
  have hw2 := hw.2.1
  have h1 := TenP.of_nat hpP hn0 hn hw rfl hfp
  have h2 := TenP.of_nat hpP hn0 hn hw rfl hhp
  refine sq ?_
  refine wp_region_lit ?_
  refine stR hF (d_box 0 hM hF rfl) rfl ?_
  rintro _ w' a ⟨b1, rfl, hM, -⟩ hF
  change Mem w w' [some (b1, tenC (p : Int) (n : Int) (i : Int) (o : Int) (.slice (some ⟨b, 0, none⟩) (n ^ (i + o)) (n ^ (i + o)))), none, none, none, none] [(b, numC (n ^ (i + o)) f), (bz, numC (n ^ (i + o)) h)] at hM
  refine stR hF (d_box 1 hM hF rfl) rfl ?_
  rintro _ w' a ⟨b2, rfl, hM, -⟩ hF
  change Mem w w' [some (b1, tenC (p : Int) (n : Int) (i : Int) (o : Int) (.slice (some ⟨b, 0, none⟩) (n ^ (i + o)) (n ^ (i + o)))), some (b2, tenC (p : Int) (n : Int) (i : Int) (o : Int) (.slice (some ⟨bz, 0, none⟩) (n ^ (i + o)) (n ^ (i + o)))), none, none, none] [(b, numC (n ^ (i + o)) f), (bz, numC (n ^ (i + o)) h)] at hM
  refine stR hF (d_alloc 2 hM ty_ze_27) rfl ?_
  rintro _ w' a ⟨b3, rfl, hM, -⟩ hF
  change Mem w w' [some (b1, tenC (p : Int) (n : Int) (i : Int) (o : Int) (.slice (some ⟨b, 0, none⟩) (n ^ (i + o)) (n ^ (i + o)))), some (b2, tenC (p : Int) (n : Int) (i : Int) (o : Int) (.slice (some ⟨bz, 0, none⟩) (n ^ (i + o)) (n ^ (i + o)))), some (b3, tenC 0 0 0 0 (.slice none 0 0)), none, none] [(b, numC (n ^ (i + o)) f), (bz, numC (n ^ (i + o)) h)] at hM
  refine st hF (g_assign hF rfl) rfl fun a hF => ?_
  refine wpList_nil ?_
  refine tN ?_
  refine sq ?_
  refine wp_region_lit ?_
  refine st hF (g_loadAgg ty_ag_27 hF rfl (hM.row 0 rfl) (by simp only [fnC_size, cells_size, vecC_size, tabC_size, planeC_size, tenC_size, smC_size, numC_size, numI_size] <;> omega) (whole rfl)) rfl fun a hF => st hF (g_loadAgg ty_ag_27 hF rfl (hM.row 1 rfl) (by simp only [fnC_size, cells_size, vecC_size, tabC_size, planeC_size, tenC_size, smC_size, numC_size, numI_size] <;> omega) (whole rfl)) rfl fun a hF => ?_
  refine stR hF (d_call Try.call62 hF (.cons rfl (.cons rfl .nil)) (l03Two_ok (p : Int) (n : Int) (i : Int) (o : Int) (i : Int) (o : Int) b bz (n ^ (i + o)) (n ^ (i + o)) (fun c => ((f c : Nat) : Int)) (fun c => ((h c : Nat) : Int)) _ (hM.fz 0 rfl) (hM.fz 1 rfl) (by omega) (by omega) h1 h2)) rfl ?_
  rintro _ w' a ⟨hx, rfl⟩ hF
  have hM := hM.ext hx
  refine st hF (g_assign hF rfl) rfl fun a hF => ?_
  refine wpList_nil ?_
  refine tN ?_
  refine sq ?_
  refine sq ?_
  refine wp_region_lit ?_
  refine st hF (g_move hF rfl) rfl fun a hF => st hF (g_eql hF rfl rfl) rfl fun a hF => st hF (g_move hF rfl) rfl fun a hF => ?_
  rw [show decide ((0 : Int) = 0) = true from by decide] at hF
  refine stY hF rfl rfl rfl (g_fieldAddr ty_fo_27_2 hF rfl) rfl fun a hF => stY hF rfl rfl rfl (g_load ty_on_2 hF rfl (hM.row 0 rfl) (tenC_2 (by omega))) rfl fun a hF => stY hF rfl rfl rfl (g_fieldAddr ty_fo_27_2 hF rfl) rfl fun a hF => stY hF rfl rfl rfl (g_load ty_on_2 hF rfl (hM.row 1 rfl) (tenC_2 (by omega))) rfl fun a hF => stY hF rfl rfl rfl (g_neq hF rfl rfl) rfl fun a hF => stY hF rfl rfl rfl (g_move hF rfl) rfl fun a hF => ?_
  by_cases g4 : (((i : Nat) : Int) : Int) ≠ ((i : Nat) : Int)
  ·
    first | rw [decide_eq_true g4] at hF | simp only [decide_eq_true g4] at hF
    first | exact absurd rfl g4 | (exfalso; omega)
  ·
    first | rw [decide_eq_false g4] at hF | simp only [decide_eq_false g4] at hF
    refine stY hF rfl rfl rfl (g_fieldAddr ty_fo_27_3 hF rfl) rfl fun a hF => stY hF rfl rfl rfl (g_load ty_on_2 hF rfl (hM.row 0 rfl) (tenC_3 (by omega))) rfl fun a hF => stY hF rfl rfl rfl (g_fieldAddr ty_fo_27_3 hF rfl) rfl fun a hF => stY hF rfl rfl rfl (g_load ty_on_2 hF rfl (hM.row 1 rfl) (tenC_3 (by omega))) rfl fun a hF => stY hF rfl rfl rfl (g_neq hF rfl rfl) rfl fun a hF => stY hF rfl rfl rfl (g_pickF hF rfl rfl) rfl fun a hF => stY hF rfl rfl rfl (g_move hF rfl) rfl fun a hF => ?_
    by_cases g5 : (((o : Nat) : Int) : Int) ≠ ((o : Nat) : Int)
    ·
      first | rw [decide_eq_true g5] at hF | simp only [decide_eq_true g5] at hF
      first | exact absurd rfl g5 | (exfalso; omega)
    ·
      first | rw [decide_eq_false g5] at hF | simp only [decide_eq_false g5] at hF
      refine stY hF rfl rfl rfl (g_move hF rfl) rfl fun a hF => stY hF rfl rfl rfl (g_fieldAddr ty_fo_27_0 hF rfl) rfl fun a hF => stY hF rfl rfl rfl (g_load ty_on_2 hF rfl (hM.row 0 rfl) (tenC_0 (by omega))) rfl fun a hF => stY hF rfl rfl rfl (g_sub hF rfl rfl (wrap_i64 (by omega) (by omega))) rfl fun a hF => ?_
      refine stYR hF rfl rfl rfl (d_call Try.call46 hF (.cons rfl (.cons rfl (.cons rfl .nil))) (l01In_ok (((k : Nat) : Int)) (0) (((p : Nat) : Int) - 1) _)) rfl ?_
      rintro _ w' a ⟨hx, rfl⟩ hF
      have hM := hM.ext hx
      refine stY hF rfl rfl rfl (g_notP hF rfl) rfl fun a hF => stY hF rfl rfl rfl (g_pickF hF rfl rfl) rfl fun a hF => st hF (g_pickT hF rfl rfl) rfl fun a hF => ?_
      refine wpList_nil ?_
      refine tN ?_
      refine c_cond hF rfl (fun h6 => ?_) (fun h6 => ?_)
      ·
        first | exact absurd rfl h6 | (exfalso; omega)
      ·
        refine wp_skip ?_
        refine tN ?_
        refine sq ?_
        refine sq ?_
        refine wp_region_lit ?_
        refine st hF (g_move hF rfl) rfl fun a hF => st hF (g_neq hF rfl rfl) rfl fun a hF => ?_
        refine wpList_nil ?_
        refine tN ?_
        refine c_kF hF rfl (by decide) ?_
        refine wp_skip ?_
        refine tN ?_
        refine sq ?_
        refine wp_region_lit ?_
        refine st hF (g_fieldAddr ty_fo_27_0 hF rfl) rfl fun a hF => st hF (g_load ty_on_2 hF rfl (hM.row 0 rfl) (tenC_0 (by omega))) rfl fun a hF => st hF (g_fieldAddr ty_fo_27_1 hF rfl) rfl fun a hF => st hF (g_load ty_on_2 hF rfl (hM.row 0 rfl) (tenC_1 (by omega))) rfl fun a hF => st hF (g_fieldAddr ty_fo_27_2 hF rfl) rfl fun a hF => st hF (g_load ty_on_2 hF rfl (hM.row 0 rfl) (tenC_2 (by omega))) rfl fun a hF => st hF (g_fieldAddr ty_fo_27_3 hF rfl) rfl fun a hF => st hF (g_load ty_on_2 hF rfl (hM.row 0 rfl) (tenC_3 (by omega))) rfl fun a hF => ?_
        refine stR hF (d_call Try.call54 hF (.cons rfl (.cons rfl (.cons rfl (.cons rfl .nil)))) (l03Empty_ok (p) (n) (i) (o) _ (by omega) (by omega) hw)) rfl ?_
        rintro _ w' a ⟨hx, b8, rfl, hge, hbk⟩ hF
        have hM := hM.fill hx 3 hbk hge
        change Mem w w' [some (b1, tenC (p : Int) (n : Int) (i : Int) (o : Int) (.slice (some ⟨b, 0, none⟩) (n ^ (i + o)) (n ^ (i + o)))), some (b2, tenC (p : Int) (n : Int) (i : Int) (o : Int) (.slice (some ⟨bz, 0, none⟩) (n ^ (i + o)) (n ^ (i + o)))), some (b3, tenC 0 0 0 0 (.slice none 0 0)), some (b8, numC ((n) ^ ((i) + (o))) (fun _ => 0)), none] [(b, numC (n ^ (i + o)) f), (bz, numC (n ^ (i + o)) h)] at hM
        refine stR hF (d_alloc 4 hM ty_ze_27) rfl ?_
        rintro _ w' a ⟨b9, rfl, hM, -⟩ hF
        change Mem w w' [some (b1, tenC (p : Int) (n : Int) (i : Int) (o : Int) (.slice (some ⟨b, 0, none⟩) (n ^ (i + o)) (n ^ (i + o)))), some (b2, tenC (p : Int) (n : Int) (i : Int) (o : Int) (.slice (some ⟨bz, 0, none⟩) (n ^ (i + o)) (n ^ (i + o)))), some (b3, tenC 0 0 0 0 (.slice none 0 0)), some (b8, numC ((n) ^ ((i) + (o))) (fun _ => 0)), some (b9, tenC 0 0 0 0 (.slice none 0 0))] [(b, numC (n ^ (i + o)) f), (bz, numC (n ^ (i + o)) h)] at hM
        refine stN hF (d_storeAgg 4 hM rfl ty_sz_27 hF rfl rfl (tenC_one rfl) (by simp only [fnC_size, cells_size, vecC_size, tabC_size, planeC_size, tenC_size, smC_size, numC_size, numI_size]) (by simp only [fnC_size, cells_size, vecC_size, tabC_size, planeC_size, tenC_size, smC_size, numC_size, numI_size] <;> omega) (splice_whole _ _ rfl)) ?_
        intro _ w' a hM hF
        change Mem w w' [some (b1, tenC (p : Int) (n : Int) (i : Int) (o : Int) (.slice (some ⟨b, 0, none⟩) (n ^ (i + o)) (n ^ (i + o)))), some (b2, tenC (p : Int) (n : Int) (i : Int) (o : Int) (.slice (some ⟨bz, 0, none⟩) (n ^ (i + o)) (n ^ (i + o)))), some (b3, tenC 0 0 0 0 (.slice none 0 0)), some (b8, numC ((n) ^ ((i) + (o))) (fun _ => 0)), some (b9, tenC ((p : Nat) : Int) ((n : Nat) : Int) ((i : Nat) : Int) ((o : Nat) : Int) (.slice (some ⟨b8, 0, none⟩) ((n) ^ ((i) + (o))) ((n) ^ ((i) + (o)))))] [(b, numC (n ^ (i + o)) f), (bz, numC (n ^ (i + o)) h)] at hM
        refine wpList_nil ?_
        refine tN ?_
        refine sq ?_
        refine sq ?_
        refine wp_region_lit ?_
        refine st hF (g_assign hF rfl) rfl fun a hF => ?_
        refine wpList_nil ?_
        refine tN ?_
        refine wp_block ?_
        change Mem w _ [some (b1, tenC (p : Int) (n : Int) (i : Int) (o : Int) (.slice (some ⟨b, 0, none⟩) (n ^ (i + o)) (n ^ (i + o)))), some (b2, tenC (p : Int) (n : Int) (i : Int) (o : Int) (.slice (some ⟨bz, 0, none⟩) (n ^ (i + o)) (n ^ (i + o)))), some (b3, tenC 0 0 0 0 (.slice none 0 0)), some (b8, numC ((n) ^ ((i) + (o))) (fun _ => 0)), some (b9, tenC ((p : Nat) : Int) ((n : Nat) : Int) ((i : Nat) : Int) ((o : Nat) : Int) (.slice (some ⟨b8, 0, none⟩) ((n) ^ ((i) + (o))) ((n) ^ ((i) + (o)))))] [(b, numC (n ^ (i + o)) f), (bz, numC (n ^ (i + o)) h)] at hM
        refine c_loop (fun (kk : Nat) a w' => kk ≤ (n ^ (i + o)) ∧ (True) ∧ Fr 79 a [(0, .agg (tenC (p : Int) (n : Int) (i : Int) (o : Int) (.slice (some ⟨b, 0, none⟩) (n ^ (i + o)) (n ^ (i + o))))), (1, .agg (tenC (p : Int) (n : Int) (i : Int) (o : Int) (.slice (some ⟨bz, 0, none⟩) (n ^ (i + o)) (n ^ (i + o))))), (2, .int .i64 (((k : Nat) : Int))), (3, ptr b1 (0)), (4, ptr b2 (0)), (6, ptr b3 (0)), (7, .int .i64 (0)), (11, .agg (tenC (p : Int) (n : Int) (i : Int) (o : Int) (.slice (some ⟨b, 0, none⟩) (n ^ (i + o)) (n ^ (i + o))))), (12, .agg (tenC (p : Int) (n : Int) (i : Int) (o : Int) (.slice (some ⟨bz, 0, none⟩) (n ^ (i + o)) (n ^ (i + o))))), (13, .int .i64 (0)), (8, .int .i64 (0)), (14, .int .i64 (0)), (15, .bool (true)), (16, .bool (true)), (17, ptr b1 (0 + 2)), (18, .int .i64 (((i : Nat) : Int))), (19, ptr b2 (0 + 2)), (20, .int .i64 (((i : Nat) : Int))), (21, .bool (false)), (22, .bool (false)), (23, ptr b1 (0 + 3)), (24, .int .i64 (((o : Nat) : Int))), (25, ptr b2 (0 + 3)), (26, .int .i64 (((o : Nat) : Int))), (27, .bool (false)), (28, .bool (false)), (29, .bool (false)), (30, .int .i64 (((k : Nat) : Int))), (31, ptr b1 (0 + 0)), (32, .int .i64 (((p : Nat) : Int))), (33, .int .i64 (((p : Nat) : Int) - 1)), (34, .bool (decide ((0 : Int) ≤ ((k : Nat) : Int) ∧ ((k : Nat) : Int) ≤ ((p : Nat) : Int) - 1))), (35, .bool (decide (¬ ((0 : Int) ≤ ((k : Nat) : Int) ∧ ((k : Nat) : Int) ≤ ((p : Nat) : Int) - 1)))), (36, .bool (decide (¬ ((0 : Int) ≤ ((k : Nat) : Int) ∧ ((k : Nat) : Int) ≤ ((p : Nat) : Int) - 1)))), (37, .bool (decide (¬ ((0 : Int) ≤ ((k : Nat) : Int) ∧ ((k : Nat) : Int) ≤ ((p : Nat) : Int) - 1)))), (38, .int .i64 (0)), (39, .bool (decide ((0 : Int) ≠ 0))), (42, ptr b1 (0 + 0)), (43, .int .i64 (((p : Nat) : Int))), (44, ptr b1 (0 + 1)), (45, .int .i64 (((n : Nat) : Int))), (46, ptr b1 (0 + 2)), (47, .int .i64 (((i : Nat) : Int))), (48, ptr b1 (0 + 3)), (49, .int .i64 (((o : Nat) : Int))), (50, .agg (tenC ((p : Nat) : Int) ((n : Nat) : Int) ((i : Nat) : Int) ((o : Nat) : Int) (.slice (some ⟨b8, 0, none⟩) ((n) ^ ((i) + (o))) ((n) ^ ((i) + (o)))))), (9, ptr b9 (0)), (10, .int .i64 (((kk : Nat) : Int)))] ∧ Mem w w' [some (b1, tenC (p : Int) (n : Int) (i : Int) (o : Int) (.slice (some ⟨b, 0, none⟩) (n ^ (i + o)) (n ^ (i + o)))), some (b2, tenC (p : Int) (n : Int) (i : Int) (o : Int) (.slice (some ⟨bz, 0, none⟩) (n ^ (i + o)) (n ^ (i + o)))), some (b3, tenC 0 0 0 0 (.slice none 0 0)), some (b8, numC (n ^ (i + o)) (fun c => if c < kk then adF p k f h c else 0)), some (b9, tenC ((p : Nat) : Int) ((n : Nat) : Int) ((i : Nat) : Int) ((o : Nat) : Int) (.slice (some ⟨b8, 0, none⟩) ((n) ^ ((i) + (o))) ((n) ^ ((i) + (o)))))] [(b, numC (n ^ (i + o)) f), (bz, numC (n ^ (i + o)) h)]) (fun kk => (n ^ (i + o)) - kk) 0 ?_ ?_
        ·
          refine ⟨by omega, trivial, hF.sub _ (by repeat' constructor), ?_⟩
          refine hM.rowc 3 rfl (numC_congr fun c hc => by simp)
        ·
          clear hF hM
          rintro gk a w' ⟨hgk, hinv1, hF, hM⟩
          refine sq ?_
          refine sq ?_
          refine wp_region_lit ?_
          refine st hF (g_move hF rfl) rfl fun a hF => st hF (g_fieldAddr ty_fo_27_4 hF rfl) rfl fun a hF => st hF (g_load ty_on_22 hF rfl (hM.row 0 rfl) (tenC_4 (by omega))) rfl fun a hF => st hF (g_len ty_us_22 hF rfl) rfl fun a hF => st hF (g_lss hF rfl rfl) rfl fun a hF => ?_
          refine wpList_nil ?_
          refine tN ?_
          refine c_cond hF rfl (fun h10 => ?_) (fun h10 => ?_)
          ·
            refine wp_skip ?_
            refine tN ?_
            refine sq ?_
            refine wp_block ?_
            refine c_par 19 [] [.val (ptr b9 (0 + 4)), .val (.slice (some ⟨b8, 0, none⟩) ((n) ^ ((i) + (o))) ((n) ^ ((i) + (o)))), .val (.int .i64 (((gk : Nat) : Int))), .val (ptr b1 (0 + 4)), .val (.slice (some ⟨b, 0, none⟩) (n ^ (i + o)) (n ^ (i + o))), .val (.int .i64 (((gk : Nat) : Int))), .val (ptr b (0 + (gk) * 1)), .val (.int .i64 (((f (gk) : Nat) : Int))), .val (.int .i64 (((k : Nat) : Int))), .val (ptr b2 (0 + 4)), .val (.slice (some ⟨bz, 0, none⟩) (n ^ (i + o)) (n ^ (i + o))), .val (.int .i64 (((gk : Nat) : Int))), .val (ptr bz (0 + (gk) * 1)), .val (.int .i64 (((h (gk) : Nat) : Int))), .val (.int .i64 ((((k) * (h (gk)) : Nat) : Int))), .val (.int .i64 (((f (gk) + (k) * (h (gk)) : Nat) : Int))), .val (ptr b1 (0 + 0)), .val (.int .i64 (((p : Nat) : Int))), .val (.int .i64 ((((f (gk) + (k) * (h (gk))) % (p) : Nat) : Int)))] hmix rfl hF rfl hM ⟨fun a w gG hF hS hd => by exact par_val hS rfl (g_fieldAddr ty_fo_27_4 hF rfl), fun a w gG hF hS hd => by have hF := hF.ext1 58 (hd 0 rfl rfl); have hM := hS.mem rfl; exact par_val hS rfl (g_load ty_on_22 hF rfl (hM.row 4 rfl) (tenC_4 (by omega))), fun a w gG hF hS hd => by exact par_val hS rfl (g_move hF rfl), fun a w gG hF hS hd => by exact par_val hS rfl (g_fieldAddr ty_fo_27_4 hF rfl), fun a w gG hF hS hd => by have hF := hF.ext1 61 (hd 3 rfl rfl); have hM := hS.mem rfl; exact par_val hS rfl (g_load ty_on_22 hF rfl (hM.row 0 rfl) (tenC_4 (by omega))), fun a w gG hF hS hd => by exact par_val hS rfl (g_move hF rfl), fun a w gG hF hS hd => by have hF := hF.ext1 62 (hd 4 rfl rfl); have hF := hF.ext1 63 (hd 5 rfl rfl); exact par_val hS rfl (g_indexSl (i := gk) ty_sl_22 hF rfl rfl rfl (by omega)), fun a w gG hF hS hd => by have hF := hF.ext1 64 (hd 6 rfl rfl); have hM := hS.mem rfl; exact par_val hS rfl (g_load ty_on_2 hF rfl (hM.fz 0 rfl) (numC_get (k := gk) (by omega) (by omega))), fun a w gG hF hS hd => by exact par_val hS rfl (g_move hF rfl), fun a w gG hF hS hd => by exact par_val hS rfl (g_fieldAddr ty_fo_27_4 hF rfl), fun a w gG hF hS hd => by have hF := hF.ext1 67 (hd 9 rfl rfl); have hM := hS.mem rfl; exact par_val hS rfl (g_load ty_on_22 hF rfl (hM.row 1 rfl) (tenC_4 (by omega))), fun a w gG hF hS hd => by exact par_val hS rfl (g_move hF rfl), fun a w gG hF hS hd => by have hF := hF.ext1 68 (hd 10 rfl rfl); have hF := hF.ext1 69 (hd 11 rfl rfl); exact par_val hS rfl (g_indexSl (i := gk) ty_sl_22 hF rfl rfl rfl (by omega)), fun a w gG hF hS hd => by have hF := hF.ext1 70 (hd 12 rfl rfl); have hM := hS.mem rfl; exact par_val hS rfl (g_load ty_on_2 hF rfl (hM.fz 1 rfl) (numC_get (k := gk) (by omega) (by omega))), fun a w gG hF hS hd => by have hF := hF.ext1 66 (hd 8 rfl rfl); have hF := hF.ext1 71 (hd 13 rfl rfl); exact par_val hS rfl (g_mul hF rfl rfl (mul_nat k (h gk) (by have := hhp gk; have : k * h gk ≤ 100 * 100 := Nat.mul_le_mul (by omega) (by omega); omega))), fun a w gG hF hS hd => by have hF := hF.ext1 65 (hd 7 rfl rfl); have hF := hF.ext1 72 (hd 14 rfl rfl); exact par_val hS rfl (g_add hF rfl rfl (add_nat (f gk) (k * h gk) (by have := hhp gk; have := hfp gk; have : k * h gk ≤ 100 * 100 := Nat.mul_le_mul (by omega) (by omega); omega))), fun a w gG hF hS hd => by exact par_val hS rfl (g_fieldAddr ty_fo_27_0 hF rfl), fun a w gG hF hS hd => by have hF := hF.ext1 74 (hd 16 rfl rfl); have hM := hS.mem rfl; exact par_val hS rfl (g_load ty_on_2 hF rfl (hM.row 0 rfl) (tenC_0 (by omega))), fun a w gG hF hS hd => by have hF := hF.ext1 73 (hd 15 rfl rfl); have hF := hF.ext1 75 (hd 17 rfl rfl); exact par_val hS rfl (g_rem hF rfl rfl (by omega) (rem_nat (f (gk) + (k) * (h (gk))) (p))), trivial⟩ ?_
            intro a w' L hF hS hq
            have hF := hF.ext1 58 (hq 0 rfl rfl)
            have hF := hF.ext1 59 (hq 1 rfl rfl)
            have hF := hF.ext1 60 (hq 2 rfl rfl)
            have hF := hF.ext1 61 (hq 3 rfl rfl)
            have hF := hF.ext1 62 (hq 4 rfl rfl)
            have hF := hF.ext1 63 (hq 5 rfl rfl)
            have hF := hF.ext1 64 (hq 6 rfl rfl)
            have hF := hF.ext1 65 (hq 7 rfl rfl)
            have hF := hF.ext1 66 (hq 8 rfl rfl)
            have hF := hF.ext1 67 (hq 9 rfl rfl)
            have hF := hF.ext1 68 (hq 10 rfl rfl)
            have hF := hF.ext1 69 (hq 11 rfl rfl)
            have hF := hF.ext1 70 (hq 12 rfl rfl)
            have hF := hF.ext1 71 (hq 13 rfl rfl)
            have hF := hF.ext1 72 (hq 14 rfl rfl)
            have hF := hF.ext1 73 (hq 15 rfl rfl)
            have hF := hF.ext1 74 (hq 16 rfl rfl)
            have hF := hF.ext1 75 (hq 17 rfl rfl)
            have hF := hF.ext1 76 (hq 18 rfl rfl)
            have hM := hS.mem rfl
            change wpList Try.prog _ _ [_, _] _ _
            refine st hF (g_indexSl (i := gk) ty_sl_22 hF rfl rfl rfl (by omega)) rfl fun a hF => ?_
            refine stN hF (d_store 3 hM rfl ty_on_2 hF rfl rfl rfl (by first | omega | (simp only [fnC_size, cells_size, vecC_size, tabC_size, planeC_size, tenC_size, smC_size, numC_size, numI_size] <;> omega))) ?_
            intro _ w' a hM hF
            rw [show (numC (n ^ (i + o)) (fun c => if c < gk then adF p k f h c else 0)).setIfInBounds (0 + (gk) * 1) (.int .i64 ((((f (gk) + (k) * (h (gk))) % (p) : Nat) : Int))) = numC (n ^ (i + o)) (fun c => if c = (gk) then (f (gk) + (k) * (h (gk))) % (p) else (fun c => if c < gk then adF p k f h c else 0) c) from numC_set (k := (gk)) (by omega) (fun c _ => rfl)] at hM
            change Mem w w' [some (b1, tenC (p : Int) (n : Int) (i : Int) (o : Int) (.slice (some ⟨b, 0, none⟩) (n ^ (i + o)) (n ^ (i + o)))), some (b2, tenC (p : Int) (n : Int) (i : Int) (o : Int) (.slice (some ⟨bz, 0, none⟩) (n ^ (i + o)) (n ^ (i + o)))), some (b3, tenC 0 0 0 0 (.slice none 0 0)), some (b8, numC (n ^ (i + o)) (fun c => if c = (gk) then (f (gk) + (k) * (h (gk))) % (p) else (fun c => if c < gk then adF p k f h c else 0) c)), some (b9, tenC ((p : Nat) : Int) ((n : Nat) : Int) ((i : Nat) : Int) ((o : Nat) : Int) (.slice (some ⟨b8, 0, none⟩) ((n) ^ ((i) + (o))) ((n) ^ ((i) + (o)))))] [(b, numC (n ^ (i + o)) f), (bz, numC (n ^ (i + o)) h)] at hM
            refine wpList_nil ?_
            refine iN ?_
            refine tN ?_
            refine wp_region_lit ?_
            refine st hF (g_move hF rfl) rfl fun a hF => st hF (g_add hF rfl rfl (add_nat (gk) (1) (by omega))) rfl fun a hF => st hF (g_assign hF rfl) rfl fun a hF => ?_
            refine wpList_nil ?_
            refine tN ?_
            refine ⟨gk + 1, ⟨by omega, trivial, hF.sub _ (by repeat' constructor), ?_⟩, by omega⟩
            refine hM.rowc 3 rfl (numC_congr fun c hc => ?_)
            by_cases e1 : c = gk
            · subst e1; simp [adF]
            · have e0 : (c < gk + 1) = (c < gk) := by apply propext; omega
              simp [e0, e1]
          ·
            obtain rfl : (n ^ (i + o)) = gk := by omega
            have hM := hM.rowc (cs' := numC (n ^ (i + o)) (adF p k f h)) 3 rfl (numC_congr fun c hc => by rw [if_pos hc])
            refine wp_exit ?_
            refine tX ?_
            refine tX ?_
            refine ib_same ?_
            refine tN ?_
            refine sq ?_
            refine wp_region_lit ?_
            refine st hF (g_loadAgg ty_ag_27 hF rfl (hM.row 4 rfl) (by simp only [fnC_size, cells_size, vecC_size, tabC_size, planeC_size, tenC_size, smC_size, numC_size, numI_size] <;> omega) (whole rfl)) rfl fun a hF => ?_
            refine stN hF (d_storeAgg 2 hM rfl ty_sz_27 hF rfl rfl (tenC_one rfl) (by simp only [fnC_size, cells_size, vecC_size, tabC_size, planeC_size, tenC_size, smC_size, numC_size, numI_size]) (by simp only [fnC_size, cells_size, vecC_size, tabC_size, planeC_size, tenC_size, smC_size, numC_size, numI_size] <;> omega) (splice_whole _ _ rfl)) ?_
            intro _ w' a hM hF
            change Mem w w' [some (b1, tenC (p : Int) (n : Int) (i : Int) (o : Int) (.slice (some ⟨b, 0, none⟩) (n ^ (i + o)) (n ^ (i + o)))), some (b2, tenC (p : Int) (n : Int) (i : Int) (o : Int) (.slice (some ⟨bz, 0, none⟩) (n ^ (i + o)) (n ^ (i + o)))), some (b3, tenC ((p : Nat) : Int) ((n : Nat) : Int) ((i : Nat) : Int) ((o : Nat) : Int) (.slice (some ⟨b8, 0, none⟩) ((n) ^ ((i) + (o))) ((n) ^ ((i) + (o))))), some (b8, numC (n ^ (i + o)) (adF p k f h)), some (b9, tenC ((p : Nat) : Int) ((n : Nat) : Int) ((i : Nat) : Int) ((o : Nat) : Int) (.slice (some ⟨b8, 0, none⟩) ((n) ^ ((i) + (o))) ((n) ^ ((i) + (o)))))] [(b, numC (n ^ (i + o)) f), (bz, numC (n ^ (i + o)) h)] at hM
            refine st hF (g_assign hF rfl) rfl fun a hF => ?_
            refine wpList_nil ?_
            refine tN ?_
            refine wp_ret ?_
            refine fin2 rfl hF.defers (res_agg ty_ag_27 hF rfl (hM.row 2 rfl) (by simp only [fnC_size, cells_size, vecC_size, tabC_size, planeC_size, tenC_size, smC_size, numC_size, numI_size])) (res_tmp hF rfl) ⟨_, rfl, hM.below, ?_⟩
            exact ⟨_, rfl, hM.ge 3 rfl, hM.row 3 rfl⟩

end Go.Proofs.Ythliekalhgafcaa
