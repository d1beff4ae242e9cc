/- What functions of the program return, as walks over their operations; no statement of the seat is proved here. -/
import Derived.Test.YtclfbjfgmocbhaaK17
import Derived.Test.YtclfbjfgmocbhaaSw25
set_option linter.unusedVariables false
set_option linter.unusedSimpArgs false
namespace Go.Proofs.Ytclfbjfgmocbhaa
open Go Go.RowKit Go.Sw Go.Ech
open Classical
theorem joinFault_ok (p n q m s : Int) (T U : Nat → Nat → Nat → Nat) (f h : Nat → Nat) (w : World) (hT : ∀ i j k, T i j k ≤ 255) (hf : ∀ i, f i ≤ 255) (hU : ∀ i j k, U i j k ≤ 255) (hh : ∀ i, h i ≤ 255) :
    CallsR Try.prog 62 #[.agg (algC p n T f), .agg (algC q m U h), .int .i64 (s)] w (fun res _ => res = .int .i64 (if AlgP p n T f ∧ AlgP q m U h then (if p = q then (if s ≤ 6 then 0 else 3) else 2) else 1)) := by
  refine calls_fr [.agg (algC p n T f), .agg (algC q m U h), .int .i64 (s)] Try.func62 rfl Try.ntmps62 rfl fun a hF => ?_
  have hM : Mem w w [none, none] [] := MemX.start w 2
  change Fr 25 a [(0, .agg (algC p n T f)), (1, .agg (algC q m U h)), (2, .int .i64 (s))] at hF
  refine sq ?_
  refine wp_region_lit ?_
  refine stR hF (d_box 0 hM hF rfl) rfl ?_
  rintro _ w' a ⟨b1, rfl, hM, -⟩ hF
  change Mem w w' [some (b1, algC p n T f), none] [] at hM
  refine stR hF (d_box 1 hM hF rfl) rfl ?_
  rintro _ w' a ⟨b2, rfl, hM, -⟩ hF
  change Mem w w' [some (b1, algC p n T f), some (b2, algC q m U h)] [] at hM
  refine st hF (g_assign hF rfl) rfl fun a hF => ?_
  refine wpList_nil ?_
  refine tN ?_
  refine sq ?_
  refine wp_block ?_
  refine sq ?_
  refine wp_region_lit ?_
  refine st hF (g_loadAgg ty_ag_32 hF rfl (hM.row 0 rfl) (by simp only [fnC_size, cells_size, vecC_size, tabC_size, planeC_size] <;> omega) (whole cells_size)) rfl fun a hF => ?_
  refine stR hF (d_call Try.call57 hF (.cons rfl .nil) (IsAlgebraI_ok p n T f _ hT hf)) rfl ?_
  rintro _ w' a ⟨hx, rfl⟩ hF
  have hM := hM.ext hx
  refine st hF (g_notP hF rfl) rfl fun a hF => st hF (g_move hF rfl) rfl fun a hF => ?_
  by_cases g3 : ¬ (AlgP p n T f)
  ·
    first | rw [decide_eq_true g3] at hF | simp only [decide_eq_true g3] at hF
    refine stS hF rfl rfl rfl rfl rfl fun a hF => stS hF rfl rfl rfl rfl rfl fun a hF => stS hF rfl rfl rfl rfl rfl fun a hF => st hF (g_pickT hF rfl rfl) rfl fun a hF => st hF (g_assign hF rfl) rfl fun a hF => ?_
    refine wpList_nil ?_
    refine tN ?_
    refine c_T hF rfl ?_
    refine sq ?_
    refine wp_region_lit ?_
    refine st hF (g_assign hF rfl) rfl fun a hF => ?_
    refine wpList_nil ?_
    refine tN ?_
    refine wp_ret ?_
    refine iR ?_
    refine tR ?_
    refine fin1 rfl hF.defers (res_tmp hF rfl) ⟨_, rfl, hM.below, ?_⟩
    show _ = _
    first | rw [if_neg (fun hq => absurd hq.1 (by assumption))] | rw [if_neg (fun hq => absurd hq.2 (by assumption))]
  ·
    first | rw [decide_eq_false g3] at hF | simp only [decide_eq_false g3] at hF
    refine stY hF rfl rfl rfl (g_loadAgg ty_ag_32 hF rfl (hM.row 1 rfl) (by simp only [fnC_size, cells_size, vecC_size, tabC_size, planeC_size] <;> omega) (whole cells_size)) rfl fun a hF => ?_
    refine stYR hF rfl rfl rfl (d_call Try.call57 hF (.cons rfl .nil) (IsAlgebraI_ok q m U h _ hU hh)) rfl ?_
    rintro _ w' a ⟨hx, rfl⟩ hF
    have hM := hM.ext hx
    refine stY hF rfl rfl rfl (g_notP hF rfl) rfl fun a hF => st hF (g_pickF hF rfl rfl) rfl fun a hF => st hF (g_assign hF rfl) rfl fun a hF => ?_
    refine wpList_nil ?_
    refine tN ?_
    refine c_cond hF rfl (fun h5 => ?_) (fun h5 => ?_)
    ·
      refine sq ?_
      refine wp_region_lit ?_
      refine st hF (g_assign hF rfl) rfl fun a hF => ?_
      refine wpList_nil ?_
      refine tN ?_
      refine wp_ret ?_
      refine iR ?_
      refine tR ?_
      refine fin1 rfl hF.defers (res_tmp hF rfl) ⟨_, rfl, hM.below, ?_⟩
      show _ = _
      first | rw [if_neg (fun hq => absurd hq.1 (by assumption))] | rw [if_neg (fun hq => absurd hq.2 (by assumption))]
    ·
      refine sq ?_
      refine wp_region_lit ?_
      refine st hF (g_fieldAddr ty_fo_32_0 hF rfl) rfl fun a hF => st hF (g_load ty_on_2 hF rfl (hM.row 0 rfl) (algC_p (by omega))) rfl fun a hF => st hF (g_fieldAddr ty_fo_32_0 hF rfl) rfl fun a hF => st hF (g_load ty_on_2 hF rfl (hM.row 1 rfl) (algC_p (by omega))) rfl fun a hF => st hF (g_neq hF rfl rfl) rfl fun a hF => st hF (g_assign hF rfl) rfl fun a hF => ?_
      refine wpList_nil ?_
      refine tN ?_
      refine c_cond hF rfl (fun h6 => ?_) (fun h6 => ?_)
      ·
        refine sq ?_
        refine wp_region_lit ?_
        refine st hF (g_assign hF rfl) rfl fun a hF => ?_
        refine wpList_nil ?_
        refine tN ?_
        refine wp_ret ?_
        refine iR ?_
        refine tR ?_
        refine fin1 rfl hF.defers (res_tmp hF rfl) ⟨_, rfl, hM.below, ?_⟩
        show _ = _
        rw [if_pos ⟨(by first | assumption | exact Decidable.not_not.1 (by assumption)), (by first | assumption | exact Decidable.not_not.1 (by assumption))⟩, if_neg (by omega)]
      ·
        refine sq ?_
        refine wp_region_lit ?_
        refine st hF (g_move hF rfl) rfl fun a hF => st hF (g_gtr hF rfl rfl) rfl fun a hF => st hF (g_assign hF rfl) rfl fun a hF => ?_
        refine wpList_nil ?_
        refine tN ?_
        refine c_cond hF rfl (fun h7 => ?_) (fun h7 => ?_)
        ·
          refine sq ?_
          refine wp_region_lit ?_
          refine st hF (g_assign hF rfl) rfl fun a hF => ?_
          refine wpList_nil ?_
          refine tN ?_
          refine wp_ret ?_
          refine iR ?_
          refine tR ?_
          refine fin1 rfl hF.defers (res_tmp hF rfl) ⟨_, rfl, hM.below, ?_⟩
          show _ = _
          rw [if_pos ⟨(by first | assumption | exact Decidable.not_not.1 (by assumption)), (by first | assumption | exact Decidable.not_not.1 (by assumption))⟩, if_pos (by omega), if_neg (by omega)]
        ·
          refine wp_skip ?_
          refine iN ?_
          refine tN ?_
          refine sq ?_
          refine wp_region_lit ?_
          refine st hF (g_assign hF rfl) rfl fun a hF => ?_
          refine wpList_nil ?_
          refine tN ?_
          refine wp_ret ?_
          refine fin1 rfl hF.defers (res_tmp hF rfl) ⟨_, rfl, hM.below, ?_⟩
          show _ = _
          rw [if_pos ⟨(by first | assumption | exact Decidable.not_not.1 (by assumption)), (by first | assumption | exact Decidable.not_not.1 (by assumption))⟩, if_pos (by omega), if_pos (by omega)]

theorem l01Two_ok (p n q m s : Int) (T U : Nat → Nat → Nat → Nat) (f h : Nat → Nat) (w : World) (hT : ∀ i j k, T i j k ≤ 255) (hf : ∀ i, f i ≤ 255) (hU : ∀ i j k, U i j k ≤ 255) (hh : ∀ i, h i ≤ 255) :
    CallsR Try.prog 60 #[.agg (algC p n T f), .agg (algC q m U h), .int .i64 (s)] w (fun res _ => res = .int .i64 (if AlgP p n T f ∧ AlgP q m U h then (if p = q then (if s ≤ 6 then 0 else 3) else 2) else 1)) := by
  refine calls_fr [.agg (algC p n T f), .agg (algC q m U h), .int .i64 (s)] Try.func60 rfl Try.ntmps60 rfl fun a hF => ?_
  have hM : Mem w w [none, none] [] := MemX.start w 2
  change Fr 25 a [(0, .agg (algC p n T f)), (1, .agg (algC q m U h)), (2, .int .i64 (s))] at hF
  refine sq ?_
  refine wp_region_lit ?_
  refine stR hF (d_box 0 hM hF rfl) rfl ?_
  rintro _ w' a ⟨b1, rfl, hM, -⟩ hF
  change Mem w w' [some (b1, algC p n T f), none] [] at hM
  refine stR hF (d_box 1 hM hF rfl) rfl ?_
  rintro _ w' a ⟨b2, rfl, hM, -⟩ hF
  change Mem w w' [some (b1, algC p n T f), some (b2, algC q m U h)] [] at hM
  refine st hF (g_assign hF rfl) rfl fun a hF => ?_
  refine wpList_nil ?_
  refine tN ?_
  refine sq ?_
  refine wp_block ?_
  refine sq ?_
  refine wp_region_lit ?_
  refine st hF (g_loadAgg ty_ag_32 hF rfl (hM.row 0 rfl) (by simp only [fnC_size, cells_size, vecC_size, tabC_size, planeC_size] <;> omega) (whole cells_size)) rfl fun a hF => ?_
  refine stR hF (d_call Try.call67 hF (.cons rfl .nil) (l01Algebra_ok p n T f _ hT hf)) rfl ?_
  rintro _ w' a ⟨hx, rfl⟩ hF
  have hM := hM.ext hx
  refine st hF (g_notP hF rfl) rfl fun a hF => st hF (g_move hF rfl) rfl fun a hF => ?_
  by_cases g3 : ¬ (AlgP p n T f)
  ·
    first | rw [decide_eq_true g3] at hF | simp only [decide_eq_true g3] at hF
    refine stS hF rfl rfl rfl rfl rfl fun a hF => stS hF rfl rfl rfl rfl rfl fun a hF => stS hF rfl rfl rfl rfl rfl fun a hF => st hF (g_pickT hF rfl rfl) rfl fun a hF => st hF (g_assign hF rfl) rfl fun a hF => ?_
    refine wpList_nil ?_
    refine tN ?_
    refine c_T hF rfl ?_
    refine sq ?_
    refine wp_region_lit ?_
    refine st hF (g_assign hF rfl) rfl fun a hF => ?_
    refine wpList_nil ?_
    refine tN ?_
    refine wp_ret ?_
    refine iR ?_
    refine tR ?_
    refine fin1 rfl hF.defers (res_tmp hF rfl) ⟨_, rfl, hM.below, ?_⟩
    show _ = _
    first | rw [if_neg (fun hq => absurd hq.1 (by assumption))] | rw [if_neg (fun hq => absurd hq.2 (by assumption))]
  ·
    first | rw [decide_eq_false g3] at hF | simp only [decide_eq_false g3] at hF
    refine stY hF rfl rfl rfl (g_loadAgg ty_ag_32 hF rfl (hM.row 1 rfl) (by simp only [fnC_size, cells_size, vecC_size, tabC_size, planeC_size] <;> omega) (whole cells_size)) rfl fun a hF => ?_
    refine stYR hF rfl rfl rfl (d_call Try.call67 hF (.cons rfl .nil) (l01Algebra_ok q m U h _ hU hh)) rfl ?_
    rintro _ w' a ⟨hx, rfl⟩ hF
    have hM := hM.ext hx
    refine stY hF rfl rfl rfl (g_notP hF rfl) rfl fun a hF => st hF (g_pickF hF rfl rfl) rfl fun a hF => st hF (g_assign hF rfl) rfl fun a hF => ?_
    refine wpList_nil ?_
    refine tN ?_
    refine c_cond hF rfl (fun h5 => ?_) (fun h5 => ?_)
    ·
      refine sq ?_
      refine wp_region_lit ?_
      refine st hF (g_assign hF rfl) rfl fun a hF => ?_
      refine wpList_nil ?_
      refine tN ?_
      refine wp_ret ?_
      refine iR ?_
      refine tR ?_
      refine fin1 rfl hF.defers (res_tmp hF rfl) ⟨_, rfl, hM.below, ?_⟩
      show _ = _
      first | rw [if_neg (fun hq => absurd hq.1 (by assumption))] | rw [if_neg (fun hq => absurd hq.2 (by assumption))]
    ·
      refine sq ?_
      refine wp_region_lit ?_
      refine st hF (g_fieldAddr ty_fo_32_0 hF rfl) rfl fun a hF => st hF (g_load ty_on_2 hF rfl (hM.row 0 rfl) (algC_p (by omega))) rfl fun a hF => st hF (g_fieldAddr ty_fo_32_0 hF rfl) rfl fun a hF => st hF (g_load ty_on_2 hF rfl (hM.row 1 rfl) (algC_p (by omega))) rfl fun a hF => st hF (g_neq hF rfl rfl) rfl fun a hF => st hF (g_assign hF rfl) rfl fun a hF => ?_
      refine wpList_nil ?_
      refine tN ?_
      refine c_cond hF rfl (fun h6 => ?_) (fun h6 => ?_)
      ·
        refine sq ?_
        refine wp_region_lit ?_
        refine st hF (g_assign hF rfl) rfl fun a hF => ?_
        refine wpList_nil ?_
        refine tN ?_
        refine wp_ret ?_
        refine iR ?_
        refine tR ?_
        refine fin1 rfl hF.defers (res_tmp hF rfl) ⟨_, rfl, hM.below, ?_⟩
        show _ = _
        rw [if_pos ⟨(by first | assumption | exact Decidable.not_not.1 (by assumption)), (by first | assumption | exact Decidable.not_not.1 (by assumption))⟩, if_neg (by omega)]
      ·
        refine sq ?_
        refine wp_region_lit ?_
        refine st hF (g_move hF rfl) rfl fun a hF => st hF (g_gtr hF rfl rfl) rfl fun a hF => st hF (g_assign hF rfl) rfl fun a hF => ?_
        refine wpList_nil ?_
        refine tN ?_
        refine c_cond hF rfl (fun h7 => ?_) (fun h7 => ?_)
        ·
          refine sq ?_
          refine wp_region_lit ?_
          refine st hF (g_assign hF rfl) rfl fun a hF => ?_
          refine wpList_nil ?_
          refine tN ?_
          refine wp_ret ?_
          refine iR ?_
          refine tR ?_
          refine fin1 rfl hF.defers (res_tmp hF rfl) ⟨_, rfl, hM.below, ?_⟩
          show _ = _
          rw [if_pos ⟨(by first | assumption | exact Decidable.not_not.1 (by assumption)), (by first | assumption | exact Decidable.not_not.1 (by assumption))⟩, if_pos (by omega), if_neg (by omega)]
        ·
          refine wp_skip ?_
          refine iN ?_
          refine tN ?_
          refine sq ?_
          refine wp_region_lit ?_
          refine st hF (g_assign hF rfl) rfl fun a hF => ?_
          refine wpList_nil ?_
          refine tN ?_
          refine wp_ret ?_
          refine fin1 rfl hF.defers (res_tmp hF rfl) ⟨_, rfl, hM.below, ?_⟩
          show _ = _
          rw [if_pos ⟨(by first | assumption | exact Decidable.not_not.1 (by assumption)), (by first | assumption | exact Decidable.not_not.1 (by assumption))⟩, if_pos (by omega), if_pos (by omega)]

theorem algC_setT {p n : Int} {T T' : Nat → Nat → Nat → Nat} {f : Nat → Nat} {o x : Nat} (i j k : Nat) (h : o = 2 + i * 36 + j * 6 + k) (hi : i < 6) (hj : j < 6) (hk : k < 6) (hg : ∀ a, a < 6 → ∀ b, b < 6 → ∀ c, c < 6 → T' a b c = if a = i ∧ b = j ∧ c = k then x else T a b c) : (algC p n T f).setIfInBounds o (.int .u8 ((x : Nat) : Int)) = algC p n T' f := by
  subst h
  unfold algC
  refine fnC_set fun y hy => ?_
  by_cases h0 : y = 0
  · rw [if_pos h0, if_neg (by omega), if_pos h0]
  · by_cases h1 : y = 1
    · rw [if_neg h0, if_pos h1, if_neg (by omega), if_neg h0, if_pos h1]
    · by_cases h2 : y < 218
      · rw [if_neg h0, if_neg h1, if_pos h2, hg _ (by omega) _ (by omega) _ (by omega)]
        by_cases e : y = 2 + i * 36 + j * 6 + k
        · rw [if_pos e, if_pos (by omega)]
        · rw [if_neg e, if_neg (by omega), if_neg h0, if_neg h1, if_pos h2]
      · rw [if_neg h0, if_neg h1, if_neg h2, if_neg (by omega), if_neg h0, if_neg h1, if_neg h2]
def sumF (n : Nat) (f h : Nat → Nat) (g i : Nat) : Nat := if n ≤ i ∧ i < n + g then h (i - n) else f i
def sumT (n m : Nat) (T U : Nat → Nat → Nat → Nat) (a b c i j k : Nat) : Nat := if n ≤ i ∧ n ≤ j ∧ n ≤ k ∧ i < n + m ∧ j < n + m ∧ k < n + m ∧ (i < n + a ∨ i = n + a ∧ (j < n + b ∨ j = n + b ∧ k < n + c)) then U (i - n) (j - n) (k - n) else T i j k
theorem sumF_zero {n : Nat} {f h : Nat → Nat} : sumF n f h 0 = f := funext fun i => by unfold sumF; rw [if_neg (by omega)]
theorem sumF_succ {n g j : Nat} {f h : Nat → Nat} : sumF n f h (g + 1) j = if j = n + g then h g else sumF n f h g j := by
  unfold sumF
  by_cases e : j = n + g
  · subst e; rw [if_pos (by omega), if_pos rfl, show n + g - n = g by omega]
  · rw [if_neg e]
    by_cases e2 : n ≤ j ∧ j < n + g
    · rw [if_pos (by omega), if_pos e2]
    · rw [if_neg (by omega), if_neg e2]
theorem sumT_zero {n m : Nat} {T U : Nat → Nat → Nat → Nat} : sumT n m T U 0 0 0 = T := funext fun i => funext fun j => funext fun k => by unfold sumT; rw [if_neg (by omega)]
theorem sumT_k {n m a b c i j k : Nat} {T U : Nat → Nat → Nat → Nat} (ha : a < m) (hb : b < m) (hc : c < m) : sumT n m T U a b (c + 1) i j k = if i = n + a ∧ j = n + b ∧ k = n + c then U a b c else sumT n m T U a b c i j k := by
  unfold sumT
  by_cases e : i = n + a ∧ j = n + b ∧ k = n + c
  · obtain ⟨rfl, rfl, rfl⟩ := e
    rw [if_pos (by omega), if_pos ⟨rfl, rfl, rfl⟩, show n + a - n = a by omega, show n + b - n = b by omega, show n + c - n = c by omega]
  · rw [if_neg e]
    by_cases e2 : n ≤ i ∧ n ≤ j ∧ n ≤ k ∧ i < n + m ∧ j < n + m ∧ k < n + m ∧ (i < n + a ∨ i = n + a ∧ (j < n + b ∨ j = n + b ∧ k < n + c))
    · rw [if_pos (by omega), if_pos e2]
    · rw [if_neg (by omega), if_neg e2]
theorem sumT_j {n m a b : Nat} {T U : Nat → Nat → Nat → Nat} : sumT n m T U a b m = sumT n m T U a (b + 1) 0 := funext fun i => funext fun j => funext fun k => by
  unfold sumT
  by_cases e2 : n ≤ i ∧ n ≤ j ∧ n ≤ k ∧ i < n + m ∧ j < n + m ∧ k < n + m ∧ (i < n + a ∨ i = n + a ∧ (j < n + b ∨ j = n + b ∧ k < n + m))
  · rw [if_pos e2, if_pos (by omega)]
  · rw [if_neg e2, if_neg (by omega)]
theorem sumT_i {n m a : Nat} {T U : Nat → Nat → Nat → Nat} : sumT n m T U a m 0 = sumT n m T U (a + 1) 0 0 := funext fun i => funext fun j => funext fun k => by
  unfold sumT
  by_cases e2 : n ≤ i ∧ n ≤ j ∧ n ≤ k ∧ i < n + m ∧ j < n + m ∧ k < n + m ∧ (i < n + a ∨ i = n + a ∧ (j < n + m ∨ j = n + m ∧ k < n + 0))
  · rw [if_pos e2, if_pos (by omega)]
  · rw [if_neg e2, if_neg (by omega)]

theorem l01Sum_ok (p : Int) (n m : Nat) (T U : Nat → Nat → Nat → Nat) (f h : Nat → Nat) (w : World) (hn0 : 0 < n) (hm0 : 0 < m) (hnm : n + m ≤ 6) (hT : ∀ i j k, T i j k ≤ 255) (hf : ∀ i, f i ≤ 255) (hU : ∀ i j k, U i j k ≤ 255) (hh : ∀ i, h i ≤ 255) :
    CallsR Try.prog 61 #[.agg (algC p (n : Int) T f), .agg (algC p (m : Int) U h)] w (fun res _ => res = .agg (algC p ((n + m : Nat) : Int) (sumT n m T U m 0 0) (sumF n f h m))) := by
  refine calls_fr [.agg (algC p (n : Int) T f), .agg (algC p (m : Int) U h)] Try.func61 rfl Try.ntmps61 rfl fun a hF => ?_
  have hM : Mem w w [none, none, none, none] [] := MemX.start w 4
  change Fr 69 a [(0, .agg (algC p (n : Int) T f)), (1, .agg (algC p (m : Int) U h))] at hF
  refine sq ?_
  refine wp_region_lit ?_
  refine stR hF (d_box 0 hM hF rfl) rfl ?_
  rintro _ w' a ⟨b1, rfl, hM, -⟩ hF
  change Mem w w' [some (b1, algC p (n : Int) T f), none, none, none] [] at hM
  refine stR hF (d_box 1 hM hF rfl) rfl ?_
  rintro _ w' a ⟨b2, rfl, hM, -⟩ hF
  change Mem w w' [some (b1, algC p (n : Int) T f), some (b2, algC p (m : Int) U h), none, none] [] at hM
  refine stR hF (d_alloc 2 hM ty_ze_32) rfl ?_
  rintro _ w' a ⟨b3, rfl, hM, -⟩ hF
  change Mem w w' [some (b1, algC p (n : Int) T f), some (b2, algC p (m : Int) U h), some (b3, algC 0 0 (fun _ _ _ => 0) (fun _ => 0)), none] [] at hM
  refine wpList_nil ?_
  refine tN ?_
  refine sq ?_
  refine wp_region_lit ?_
  refine st hF (g_loadAgg ty_ag_32 hF rfl (hM.row 0 rfl) (by simp only [fnC_size, cells_size, vecC_size, tabC_size, planeC_size] <;> omega) (whole cells_size)) rfl fun a hF => ?_
  refine stR hF (d_alloc 3 hM ty_ze_32) rfl ?_
  rintro _ w' a ⟨b4, rfl, hM, -⟩ hF
  change Mem w w' [some (b1, algC p (n : Int) T f), some (b2, algC p (m : Int) U h), some (b3, algC 0 0 (fun _ _ _ => 0) (fun _ => 0)), some (b4, algC 0 0 (fun _ _ _ => 0) (fun _ => 0))] [] at hM
  refine stN hF (d_storeAgg 3 hM rfl ty_sz_32 hF rfl rfl (by first | exact vecC_one | exact cells_one | (refine fnC_one fun _ _ => ?_; first | rfl | (split <;> rfl))) (by simp only [fnC_size, cells_size, vecC_size, tabC_size, planeC_size]) (by simp only [fnC_size, cells_size, vecC_size, tabC_size, planeC_size] <;> omega) (splice_whole _ _ (by simp only [fnC_size, cells_size, vecC_size, tabC_size, planeC_size]))) ?_
  intro _ w' a hM hF
  change Mem w w' [some (b1, algC p (n : Int) T f), some (b2, algC p (m : Int) U h), some (b3, algC 0 0 (fun _ _ _ => 0) (fun _ => 0)), some (b4, algC p (n : Int) T f)] [] at hM
  refine wpList_nil ?_
  refine tN ?_
  refine sq ?_
  refine wp_region_lit ?_
  refine st hF (g_fieldAddr ty_fo_32_1 hF rfl) rfl fun a hF => st hF (g_load ty_on_2 hF rfl (hM.row 0 rfl) (algC_n (by omega))) rfl fun a hF => st hF (g_fieldAddr ty_fo_32_1 hF rfl) rfl fun a hF => st hF (g_load ty_on_2 hF rfl (hM.row 1 rfl) (algC_n (by omega))) rfl fun a hF => st hF (g_add hF rfl rfl (add_nat (n) (m) (by omega))) rfl fun a hF => st hF (g_fieldAddr ty_fo_32_1 hF rfl) rfl fun a hF => ?_
  refine stN hF (d_store 3 hM rfl ty_on_2 hF rfl rfl rfl (by first | omega | (simp only [fnC_size, cells_size, vecC_size, tabC_size, planeC_size] <;> omega))) ?_
  intro _ w' a hM hF
  rw [algC_setn (by omega)] at hM
  change Mem w w' [some (b1, algC p (n : Int) T f), some (b2, algC p (m : Int) U h), some (b3, algC 0 0 (fun _ _ _ => 0) (fun _ => 0)), some (b4, algC p ((n + m : Nat) : Int) T f)] [] at hM
  refine wpList_nil ?_
  refine tN ?_
  refine sq ?_
  refine sq ?_
  refine wp_region_lit ?_
  refine st hF (g_assign hF rfl) rfl fun a hF => ?_
  refine wpList_nil ?_
  refine tN ?_
  refine wp_block ?_
  change Mem w _ [some (b1, algC p (n : Int) T f), some (b2, algC p (m : Int) U h), some (b3, algC 0 0 (fun _ _ _ => 0) (fun _ => 0)), some (b4, algC p ((n + m : Nat) : Int) T f)] [] at hM
  refine c_loop (fun (kk : Nat) a w' => kk ≤ m ∧ (True) ∧ Fr 69 a [(0, .agg (algC p (n : Int) T f)), (1, .agg (algC p (m : Int) U h)), (2, ptr b1 (0)), (3, ptr b2 (0)), (4, ptr b3 (0)), (9, .agg (algC p (n : Int) T f)), (5, ptr b4 (0)), (10, ptr b1 (0 + 1)), (11, .int .i64 (((n : Nat) : Int))), (12, ptr b2 (0 + 1)), (13, .int .i64 (((m : Nat) : Int))), (14, .int .i64 (((n + m : Nat) : Int))), (15, ptr b4 (0 + 1)), (6, .int .i64 (((kk : Nat) : Int)))] ∧ Mem w w' [some (b1, algC p (n : Int) T f), some (b2, algC p (m : Int) U h), some (b3, algC 0 0 (fun _ _ _ => 0) (fun _ => 0)), some (b4, algC p ((n + m : Nat) : Int) (sumT n m T U (kk) (0) (0)) (sumF n f h (kk)))] []) (fun kk => m - kk) 0 ?_ ?_
  ·
    refine ⟨by omega, trivial, hF.sub _ (by repeat' constructor), ?_⟩
    exact hM.cast (by rw [sumT_zero, sumF_zero])
  ·
    clear hF hM
    rintro gi a w' ⟨hgi, hinv1, hF, hM⟩
    refine sq ?_
    refine sq ?_
    refine wp_region_lit ?_
    refine st hF (g_move hF rfl) rfl fun a hF => st hF (g_fieldAddr ty_fo_32_1 hF rfl) rfl fun a hF => st hF (g_load ty_on_2 hF rfl (hM.row 1 rfl) (algC_n (by omega))) rfl fun a hF => st hF (g_lss hF rfl rfl) rfl fun a hF => ?_
    refine wpList_nil ?_
    refine tN ?_
    refine c_cond hF rfl (fun h5 => ?_) (fun h5 => ?_)
    ·
      refine wp_skip ?_
      refine tN ?_
      refine sq ?_
      refine wp_block ?_
      refine sq ?_
      refine c_par 9 [] [.val (ptr b1 (0 + 1)), .val (.int .i64 (((n : Nat) : Int))), .val (.int .i64 (((gi : Nat) : Int))), .val (.int .i64 (((n + gi : Nat) : Int))), .val (.int .i64 (((gi : Nat) : Int))), .val (ptr b2 (0 + 218)), .val (ptr b2 (0 + 218 + (gi) * 1)), .val (.int .u8 (((h (gi) : Nat) : Int))), .val (ptr b4 (0 + 218))] hmix rfl hF rfl hM ⟨fun a w g hF hS hd => by exact par_val hS rfl (g_fieldAddr ty_fo_32_1 hF rfl), fun a w g hF hS hd => by have hF := hF.ext1 22 (hd 0 rfl rfl); have hM := hS.mem rfl; exact par_val hS rfl (g_load ty_on_2 hF rfl (hM.row 0 rfl) (algC_n (by omega))), fun a w g hF hS hd => by exact par_val hS rfl (g_move hF rfl), fun a w g hF hS hd => by have hF := hF.ext1 23 (hd 1 rfl rfl); have hF := hF.ext1 24 (hd 2 rfl rfl); exact par_val hS rfl (g_add hF rfl rfl (add_nat (n) (gi) (by omega))), fun a w g hF hS hd => by exact par_val hS rfl (g_move hF rfl), fun a w g hF hS hd => by exact par_val hS rfl (g_fieldAddr ty_fo_32_3 hF rfl), fun a w g hF hS hd => by have hF := hF.ext1 26 (hd 4 rfl rfl); have hF := hF.ext1 27 (hd 5 rfl rfl); exact par_val hS rfl (g_indexAddr ty_ar_30 hF rfl rfl rfl (by omega)), fun a w g hF hS hd => by have hF := hF.ext1 28 (hd 6 rfl rfl); have hM := hS.mem rfl; exact par_val hS rfl (g_load ty_on_5 hF rfl (hM.row 1 rfl) (algC_f (gi) (by omega) (by omega))), fun a w g hF hS hd => by exact par_val hS rfl (g_fieldAddr ty_fo_32_3 hF rfl), trivial⟩ ?_
      intro a w' L hF hS hq
      have hF := hF.ext1 22 (hq 0 rfl rfl)
      have hF := hF.ext1 23 (hq 1 rfl rfl)
      have hF := hF.ext1 24 (hq 2 rfl rfl)
      have hF := hF.ext1 25 (hq 3 rfl rfl)
      have hF := hF.ext1 26 (hq 4 rfl rfl)
      have hF := hF.ext1 27 (hq 5 rfl rfl)
      have hF := hF.ext1 28 (hq 6 rfl rfl)
      have hF := hF.ext1 29 (hq 7 rfl rfl)
      have hF := hF.ext1 30 (hq 8 rfl rfl)
      have hM := hS.mem rfl
      change wpList Try.prog _ _ [_, _] _ _
      refine st hF (g_indexAddr ty_ar_30 hF rfl rfl rfl (by omega)) rfl fun a hF => ?_
      refine stN hF (d_store 3 hM rfl ty_on_5 hF rfl rfl rfl (by first | omega | (simp only [fnC_size, cells_size, vecC_size, tabC_size, planeC_size] <;> omega))) ?_
      intro _ w' a hM hF
      change Mem w w' [some (b1, algC p (n : Int) T f), some (b2, algC p (m : Int) U h), some (b3, algC 0 0 (fun _ _ _ => 0) (fun _ => 0)), some (b4, (algC p ((n + m : Nat) : Int) (sumT n m T U (gi) (0) (0)) (sumF n f h (gi))).setIfInBounds (0 + 218 + (n + gi) * 1) (.int .u8 (((h (gi) : Nat) : Int))))] [] at hM
      refine wpList_nil ?_
      refine tN ?_
      refine sq ?_
      refine wp_region_lit ?_
      refine st hF (g_assign hF rfl) rfl fun a hF => ?_
      refine wpList_nil ?_
      refine tN ?_
      refine wp_block ?_
      change Mem w _ [some (b1, algC p (n : Int) T f), some (b2, algC p (m : Int) U h), some (b3, algC 0 0 (fun _ _ _ => 0) (fun _ => 0)), some (b4, (algC p ((n + m : Nat) : Int) (sumT n m T U (gi) (0) (0)) (sumF n f h (gi))).setIfInBounds (0 + 218 + (n + gi) * 1) (.int .u8 (((h (gi) : Nat) : Int))))] [] at hM
      refine c_loop (fun (kk : Nat) a w' => kk ≤ m ∧ (True) ∧ Fr 69 a [(30, ptr b4 (0 + 218)), (29, .int .u8 (((h (gi) : Nat) : Int))), (28, ptr b2 (0 + 218 + (gi) * 1)), (27, ptr b2 (0 + 218)), (26, .int .i64 (((gi : Nat) : Int))), (25, .int .i64 (((n + gi : Nat) : Int))), (24, .int .i64 (((gi : Nat) : Int))), (23, .int .i64 (((n : Nat) : Int))), (22, ptr b1 (0 + 1)), (0, .agg (algC p (n : Int) T f)), (1, .agg (algC p (m : Int) U h)), (2, ptr b1 (0)), (3, ptr b2 (0)), (4, ptr b3 (0)), (9, .agg (algC p (n : Int) T f)), (5, ptr b4 (0)), (10, ptr b1 (0 + 1)), (11, .int .i64 (((n : Nat) : Int))), (12, ptr b2 (0 + 1)), (13, .int .i64 (((m : Nat) : Int))), (14, .int .i64 (((n + m : Nat) : Int))), (15, ptr b4 (0 + 1)), (6, .int .i64 (((gi : Nat) : Int))), (16, .int .i64 (((gi : Nat) : Int))), (17, ptr b2 (0 + 1)), (18, .int .i64 (((m : Nat) : Int))), (19, .bool (decide ((((gi : Nat) : Int) : Int) < ((m : Nat) : Int)))), (31, ptr b4 (0 + 218 + (n + gi) * 1)), (7, .int .i64 (((kk : Nat) : Int)))] ∧ Mem w w' [some (b1, algC p (n : Int) T f), some (b2, algC p (m : Int) U h), some (b3, algC 0 0 (fun _ _ _ => 0) (fun _ => 0)), some (b4, algC p ((n + m : Nat) : Int) (sumT n m T U (gi) (kk) (0)) (sumF n f h (gi + 1)))] []) (fun kk => m - kk) 0 ?_ ?_
      ·
        refine ⟨by omega, trivial, hF.sub _ (by repeat' constructor), ?_⟩
        exact hM.rowc 3 rfl (algC_setf (i := n + gi) (by omega) (by omega) (fun j hj => sumF_succ))
      ·
        clear hF hM
        rintro gj a w' ⟨hgj, hinv2, hF, hM⟩
        refine sq ?_
        refine sq ?_
        refine wp_region_lit ?_
        refine st hF (g_move hF rfl) rfl fun a hF => st hF (g_fieldAddr ty_fo_32_1 hF rfl) rfl fun a hF => st hF (g_load ty_on_2 hF rfl (hM.row 1 rfl) (algC_n (by omega))) rfl fun a hF => st hF (g_lss hF rfl rfl) rfl fun a hF => ?_
        refine wpList_nil ?_
        refine tN ?_
        refine c_cond hF rfl (fun h6 => ?_) (fun h6 => ?_)
        ·
          refine wp_skip ?_
          refine tN ?_
          refine sq ?_
          refine wp_block ?_
          refine sq ?_
          refine wp_region_lit ?_
          refine st hF (g_assign hF rfl) rfl fun a hF => ?_
          refine wpList_nil ?_
          refine tN ?_
          refine wp_block ?_
          change Mem w _ [some (b1, algC p (n : Int) T f), some (b2, algC p (m : Int) U h), some (b3, algC 0 0 (fun _ _ _ => 0) (fun _ => 0)), some (b4, algC p ((n + m : Nat) : Int) (sumT n m T U (gi) (gj) (0)) (sumF n f h (gi + 1)))] [] at hM
          refine c_loop (fun (kk : Nat) a w' => kk ≤ m ∧ (True) ∧ Fr 69 a [(30, ptr b4 (0 + 218)), (29, .int .u8 (((h (gi) : Nat) : Int))), (28, ptr b2 (0 + 218 + (gi) * 1)), (27, ptr b2 (0 + 218)), (26, .int .i64 (((gi : Nat) : Int))), (25, .int .i64 (((n + gi : Nat) : Int))), (24, .int .i64 (((gi : Nat) : Int))), (23, .int .i64 (((n : Nat) : Int))), (22, ptr b1 (0 + 1)), (0, .agg (algC p (n : Int) T f)), (1, .agg (algC p (m : Int) U h)), (2, ptr b1 (0)), (3, ptr b2 (0)), (4, ptr b3 (0)), (9, .agg (algC p (n : Int) T f)), (5, ptr b4 (0)), (10, ptr b1 (0 + 1)), (11, .int .i64 (((n : Nat) : Int))), (12, ptr b2 (0 + 1)), (13, .int .i64 (((m : Nat) : Int))), (14, .int .i64 (((n + m : Nat) : Int))), (15, ptr b4 (0 + 1)), (6, .int .i64 (((gi : Nat) : Int))), (16, .int .i64 (((gi : Nat) : Int))), (17, ptr b2 (0 + 1)), (18, .int .i64 (((m : Nat) : Int))), (19, .bool (decide ((((gi : Nat) : Int) : Int) < ((m : Nat) : Int)))), (31, ptr b4 (0 + 218 + (n + gi) * 1)), (7, .int .i64 (((gj : Nat) : Int))), (32, .int .i64 (((gj : Nat) : Int))), (33, ptr b2 (0 + 1)), (34, .int .i64 (((m : Nat) : Int))), (35, .bool (decide ((((gj : Nat) : Int) : Int) < ((m : Nat) : Int)))), (8, .int .i64 (((kk : Nat) : Int)))] ∧ Mem w w' [some (b1, algC p (n : Int) T f), some (b2, algC p (m : Int) U h), some (b3, algC 0 0 (fun _ _ _ => 0) (fun _ => 0)), some (b4, algC p ((n + m : Nat) : Int) (sumT n m T U (gi) (gj) (kk)) (sumF n f h (gi + 1)))] []) (fun kk => m - kk) 0 ?_ ?_
          ·
            refine ⟨by omega, trivial, hF.sub _ (by repeat' constructor), ?_⟩
            exact hM
          ·
            clear hF hM
            rintro gk a w' ⟨hgk, hinv3, hF, hM⟩
            refine sq ?_
            refine sq ?_
            refine wp_region_lit ?_
            refine st hF (g_move hF rfl) rfl fun a hF => st hF (g_fieldAddr ty_fo_32_1 hF rfl) rfl fun a hF => st hF (g_load ty_on_2 hF rfl (hM.row 1 rfl) (algC_n (by omega))) rfl fun a hF => st hF (g_lss hF rfl rfl) rfl fun a hF => ?_
            refine wpList_nil ?_
            refine tN ?_
            refine c_cond hF rfl (fun h7 => ?_) (fun h7 => ?_)
            ·
              refine wp_skip ?_
              refine tN ?_
              refine sq ?_
              refine wp_block ?_
              refine c_par 23 [] [.val (ptr b1 (0 + 1)), .val (.int .i64 (((n : Nat) : Int))), .val (.int .i64 (((gi : Nat) : Int))), .val (.int .i64 (((n + gi : Nat) : Int))), .val (ptr b1 (0 + 1)), .val (.int .i64 (((n : Nat) : Int))), .val (.int .i64 (((gj : Nat) : Int))), .val (.int .i64 (((n + gj : Nat) : Int))), .val (ptr b1 (0 + 1)), .val (.int .i64 (((n : Nat) : Int))), .val (.int .i64 (((gk : Nat) : Int))), .val (.int .i64 (((n + gk : Nat) : Int))), .val (.int .i64 (((gi : Nat) : Int))), .val (.int .i64 (((gj : Nat) : Int))), .val (.int .i64 (((gk : Nat) : Int))), .val (ptr b2 (0 + 2)), .val (ptr b2 (0 + 2 + (gi) * 36)), .val (ptr b2 (0 + 2 + (gi) * 36 + (gj) * 6)), .val (ptr b2 (0 + 2 + (gi) * 36 + (gj) * 6 + (gk) * 1)), .val (.int .u8 (((U (gi) (gj) (gk) : Nat) : Int))), .val (ptr b4 (0 + 2)), .val (ptr b4 (0 + 2 + (n + gi) * 36)), .val (ptr b4 (0 + 2 + (n + gi) * 36 + (n + gj) * 6))] hmix rfl hF rfl hM ⟨fun a w g hF hS hd => by exact par_val hS rfl (g_fieldAddr ty_fo_32_1 hF rfl), fun a w g hF hS hd => by have hF := hF.ext1 44 (hd 0 rfl rfl); have hM := hS.mem rfl; exact par_val hS rfl (g_load ty_on_2 hF rfl (hM.row 0 rfl) (algC_n (by omega))), fun a w g hF hS hd => by exact par_val hS rfl (g_move hF rfl), fun a w g hF hS hd => by have hF := hF.ext1 45 (hd 1 rfl rfl); have hF := hF.ext1 46 (hd 2 rfl rfl); exact par_val hS rfl (g_add hF rfl rfl (add_nat (n) (gi) (by omega))), fun a w g hF hS hd => by exact par_val hS rfl (g_fieldAddr ty_fo_32_1 hF rfl), fun a w g hF hS hd => by have hF := hF.ext1 48 (hd 4 rfl rfl); have hM := hS.mem rfl; exact par_val hS rfl (g_load ty_on_2 hF rfl (hM.row 0 rfl) (algC_n (by omega))), fun a w g hF hS hd => by exact par_val hS rfl (g_move hF rfl), fun a w g hF hS hd => by have hF := hF.ext1 49 (hd 5 rfl rfl); have hF := hF.ext1 50 (hd 6 rfl rfl); exact par_val hS rfl (g_add hF rfl rfl (add_nat (n) (gj) (by omega))), fun a w g hF hS hd => by exact par_val hS rfl (g_fieldAddr ty_fo_32_1 hF rfl), fun a w g hF hS hd => by have hF := hF.ext1 52 (hd 8 rfl rfl); have hM := hS.mem rfl; exact par_val hS rfl (g_load ty_on_2 hF rfl (hM.row 0 rfl) (algC_n (by omega))), fun a w g hF hS hd => by exact par_val hS rfl (g_move hF rfl), fun a w g hF hS hd => by have hF := hF.ext1 53 (hd 9 rfl rfl); have hF := hF.ext1 54 (hd 10 rfl rfl); exact par_val hS rfl (g_add hF rfl rfl (add_nat (n) (gk) (by omega))), fun a w g hF hS hd => by exact par_val hS rfl (g_move hF rfl), fun a w g hF hS hd => by exact par_val hS rfl (g_move hF rfl), fun a w g hF hS hd => by exact par_val hS rfl (g_move hF rfl), fun a w g hF hS hd => by exact par_val hS rfl (g_fieldAddr ty_fo_32_2 hF rfl), fun a w g hF hS hd => by have hF := hF.ext1 56 (hd 12 rfl rfl); have hF := hF.ext1 59 (hd 15 rfl rfl); exact par_val hS rfl (g_indexAddr ty_ar_24 hF rfl rfl rfl (by omega)), fun a w g hF hS hd => by have hF := hF.ext1 57 (hd 13 rfl rfl); have hF := hF.ext1 60 (hd 16 rfl rfl); exact par_val hS rfl (g_indexAddr ty_ar_23 hF rfl rfl rfl (by omega)), fun a w g hF hS hd => by have hF := hF.ext1 58 (hd 14 rfl rfl); have hF := hF.ext1 61 (hd 17 rfl rfl); exact par_val hS rfl (g_indexAddr ty_ar_22 hF rfl rfl rfl (by omega)), fun a w g hF hS hd => by have hF := hF.ext1 62 (hd 18 rfl rfl); have hM := hS.mem rfl; exact par_val hS rfl (g_load ty_on_5 hF rfl (hM.row 1 rfl) (algC_T (gi) (gj) (gk) (by omega) (by omega) (by omega) (by omega))), fun a w g hF hS hd => by exact par_val hS rfl (g_fieldAddr ty_fo_32_2 hF rfl), fun a w g hF hS hd => by have hF := hF.ext1 47 (hd 3 rfl rfl); have hF := hF.ext1 64 (hd 20 rfl rfl); exact par_val hS rfl (g_indexAddr ty_ar_24 hF rfl rfl rfl (by omega)), fun a w g hF hS hd => by have hF := hF.ext1 51 (hd 7 rfl rfl); have hF := hF.ext1 65 (hd 21 rfl rfl); exact par_val hS rfl (g_indexAddr ty_ar_23 hF rfl rfl rfl (by omega)), trivial⟩ ?_
              intro a w' L hF hS hq
              have hF := hF.ext1 44 (hq 0 rfl rfl)
              have hF := hF.ext1 45 (hq 1 rfl rfl)
              have hF := hF.ext1 46 (hq 2 rfl rfl)
              have hF := hF.ext1 47 (hq 3 rfl rfl)
              have hF := hF.ext1 48 (hq 4 rfl rfl)
              have hF := hF.ext1 49 (hq 5 rfl rfl)
              have hF := hF.ext1 50 (hq 6 rfl rfl)
              have hF := hF.ext1 51 (hq 7 rfl rfl)
              have hF := hF.ext1 52 (hq 8 rfl rfl)
              have hF := hF.ext1 53 (hq 9 rfl rfl)
              have hF := hF.ext1 54 (hq 10 rfl rfl)
              have hF := hF.ext1 55 (hq 11 rfl rfl)
              have hF := hF.ext1 56 (hq 12 rfl rfl)
              have hF := hF.ext1 57 (hq 13 rfl rfl)
              have hF := hF.ext1 58 (hq 14 rfl rfl)
              have hF := hF.ext1 59 (hq 15 rfl rfl)
              have hF := hF.ext1 60 (hq 16 rfl rfl)
              have hF := hF.ext1 61 (hq 17 rfl rfl)
              have hF := hF.ext1 62 (hq 18 rfl rfl)
              have hF := hF.ext1 63 (hq 19 rfl rfl)
              have hF := hF.ext1 64 (hq 20 rfl rfl)
              have hF := hF.ext1 65 (hq 21 rfl rfl)
              have hF := hF.ext1 66 (hq 22 rfl rfl)
              have hM := hS.mem rfl
              change wpList Try.prog _ _ [_, _] _ _
              refine st hF (g_indexAddr ty_ar_22 hF rfl rfl rfl (by omega)) rfl fun a hF => ?_
              refine stN hF (d_store 3 hM rfl ty_on_5 hF rfl rfl rfl (by first | omega | (simp only [fnC_size, cells_size, vecC_size, tabC_size, planeC_size] <;> omega))) ?_
              intro _ w' a hM hF
              change Mem w w' [some (b1, algC p (n : Int) T f), some (b2, algC p (m : Int) U h), some (b3, algC 0 0 (fun _ _ _ => 0) (fun _ => 0)), some (b4, (algC p ((n + m : Nat) : Int) (sumT n m T U (gi) (gj) (gk)) (sumF n f h (gi + 1))).setIfInBounds (0 + 2 + (n + gi) * 36 + (n + gj) * 6 + (n + gk) * 1) (.int .u8 (((U (gi) (gj) (gk) : Nat) : Int))))] [] at hM
              refine wpList_nil ?_
              refine iN ?_
              refine tN ?_
              refine wp_region_lit ?_
              refine st hF (g_move hF rfl) rfl fun a hF => st hF (g_add hF rfl rfl (add_nat (gk) (1) (by omega))) rfl fun a hF => st hF (g_assign hF rfl) rfl fun a hF => ?_
              refine wpList_nil ?_
              refine tN ?_
              refine ⟨gk + 1, ⟨by omega, trivial, hF.sub _ (by repeat' constructor), ?_⟩, by omega⟩
              exact hM.rowc 3 rfl (algC_setT (n + gi) (n + gj) (n + gk) (by omega) (by omega) (by omega) (by omega) (fun a _ b _ c _ => sumT_k (by omega) (by omega) (by omega)))
            ·
              obtain rfl : m = gk := by omega
              refine wp_exit ?_
              refine tX ?_
              refine tX ?_
              refine ib_same ?_
              refine iN ?_
              refine tN ?_
              refine wp_region_lit ?_
              refine st hF (g_move hF rfl) rfl fun a hF => st hF (g_add hF rfl rfl (add_nat (gj) (1) (by omega))) rfl fun a hF => st hF (g_assign hF rfl) rfl fun a hF => ?_
              refine wpList_nil ?_
              refine tN ?_
              refine ⟨gj + 1, ⟨by omega, trivial, hF.sub _ (by repeat' constructor), ?_⟩, by omega⟩
              exact hM.cast (by rw [sumT_j])
        ·
          obtain rfl : m = gj := by omega
          refine wp_exit ?_
          refine tX ?_
          refine tX ?_
          refine ib_same ?_
          refine iN ?_
          refine tN ?_
          refine wp_region_lit ?_
          refine st hF (g_move hF rfl) rfl fun a hF => st hF (g_add hF rfl rfl (add_nat (gi) (1) (by omega))) rfl fun a hF => st hF (g_assign hF rfl) rfl fun a hF => ?_
          refine wpList_nil ?_
          refine tN ?_
          refine ⟨gi + 1, ⟨by omega, trivial, hF.sub _ (by repeat' constructor), ?_⟩, by omega⟩
          exact hM.cast (by rw [sumT_i])
    ·
      obtain rfl : m = gi := by omega
      refine wp_exit ?_
      refine tX ?_
      refine tX ?_
      refine ib_same ?_
      refine tN ?_
      refine sq ?_
      refine wp_region_lit ?_
      refine st hF (g_loadAgg ty_ag_32 hF rfl (hM.row 3 rfl) (by simp only [fnC_size, cells_size, vecC_size, tabC_size, planeC_size] <;> omega) (whole cells_size)) rfl fun a hF => ?_
      refine stN hF (d_storeAgg 2 hM rfl ty_sz_32 hF rfl rfl (by first | exact vecC_one | exact cells_one | (refine fnC_one fun _ _ => ?_; first | rfl | (split <;> rfl))) (by simp only [fnC_size, cells_size, vecC_size, tabC_size, planeC_size]) (by simp only [fnC_size, cells_size, vecC_size, tabC_size, planeC_size] <;> omega) (splice_whole _ _ (by simp only [fnC_size, cells_size, vecC_size, tabC_size, planeC_size]))) ?_
      intro _ w' a hM hF
      change Mem w w' [some (b1, algC p (n : Int) T f), some (b2, algC p (m : Int) U h), some (b3, algC p ((n + m : Nat) : Int) (sumT n m T U (m) (0) (0)) (sumF n f h (m))), some (b4, algC p ((n + m : Nat) : Int) (sumT n m T U (m) (0) (0)) (sumF n f h (m)))] [] at hM
      refine wpList_nil ?_
      refine tN ?_
      refine wp_ret ?_
      refine fin1 rfl hF.defers (res_agg ty_ag_32 hF rfl (hM.row 2 rfl) (by simp only [fnC_size, cells_size, vecC_size, tabC_size, planeC_size])) ⟨_, rfl, hM.below, ?_⟩
      show _ = _
      rfl

end Go.Proofs.Ytclfbjfgmocbhaa

namespace Go.Proofs.Ytclfbjfgmocbhaa
open Go Go.RowKit Go.Sw Go.Ech
open Classical
theorem ty_sz_5 : sizeP Try.prog 5 = some 1 := by kernel_rfl
theorem algC_copyF {p N : Int} {T : Nat → Nat → Nat → Nat} {f h : Nat → Nat} {n m o : Nat} (ho : o = 218 + n) (hnm : n + m ≤ 6) : splice (algC p N T f) o (fnC m (fun j => .int .u8 ((h j : Nat) : Int))) = algC p N T (sumF n f h m) := by
  subst ho
  have hz : 218 + n + (fnC m (fun j => Value.int .u8 ((h j : Nat) : Int))).size ≤ (algC p N T f).size := by rw [fnC_size, cells_size]; omega
  refine algC_eq (by rw [splice_size _ _ _ hz, cells_size]) ?_ ?_ ?_ ?_
  · rw [splice_get _ _ _ _ hz, if_neg (by omega)]; exact algC_p rfl
  · rw [splice_get _ _ _ _ hz, if_neg (by omega)]; exact algC_n rfl
  · intro i j k hi hj hk; rw [splice_get _ _ _ _ hz, if_neg (by omega)]; exact algC_T i j k rfl hi hj hk
  · intro i hi
    rw [splice_get _ _ _ _ hz, fnC_size]
    unfold sumF
    by_cases e : n ≤ i ∧ i < n + m
    · rw [if_pos (by omega), if_pos e, fnC_get (by omega), show 218 + i - (218 + n) = i - n by omega]
    · rw [if_neg (by omega), if_neg e]; exact algC_f i rfl hi
theorem algC_copyT {p N : Int} {T U : Nat → Nat → Nat → Nat} {f : Nat → Nat} {n m a b o : Nat} (ho : o = 2 + (n + a) * 36 + (n + b) * 6 + n) (hnm : n + m ≤ 6) (ha : a < m) (hb : b < m) : splice (algC p N (sumT n m T U a b 0) f) o (fnC m (fun j => .int .u8 ((U a b j : Nat) : Int))) = algC p N (sumT n m T U a (b + 1) 0) f := by
  subst ho
  have hz : 2 + (n + a) * 36 + (n + b) * 6 + n + (fnC m (fun j => Value.int .u8 ((U a b j : Nat) : Int))).size ≤ (algC p N (sumT n m T U a b 0) f).size := by rw [fnC_size, cells_size]; omega
  refine algC_eq (by rw [splice_size _ _ _ hz, cells_size]) ?_ ?_ ?_ ?_
  · rw [splice_get _ _ _ _ hz, if_neg (by omega)]; exact algC_p rfl
  · rw [splice_get _ _ _ _ hz, if_neg (by omega)]; exact algC_n rfl
  · intro i j k hi hj hk
    rw [splice_get _ _ _ _ hz, fnC_size]
    by_cases e : i = n + a ∧ j = n + b ∧ n ≤ k ∧ k < n + m
    · obtain ⟨rfl, rfl, e1, e2⟩ := e
      rw [if_pos (by omega), fnC_get (by omega), show 2 + (n + a) * 36 + (n + b) * 6 + k - (2 + (n + a) * 36 + (n + b) * 6 + n) = k - n by omega]
      unfold sumT
      rw [if_pos (by omega), show n + a - n = a by omega, show n + b - n = b by omega]
    · rw [if_neg (by omega), algC_T i j k rfl hi hj hk]
      have : sumT n m T U a b 0 i j k = sumT n m T U a (b + 1) 0 i j k := by
        unfold sumT
        by_cases e2 : n ≤ i ∧ n ≤ j ∧ n ≤ k ∧ i < n + m ∧ j < n + m ∧ k < n + m ∧ (i < n + a ∨ i = n + a ∧ (j < n + b ∨ j = n + b ∧ k < n + 0))
        · rw [if_pos e2, if_pos (by omega)]
        · rw [if_neg e2, if_neg (by omega)]
      rw [this]
  · intro i hi; rw [splice_get _ _ _ _ hz, if_neg (by rw [fnC_size]; omega)]; exact algC_f i rfl hi

end Go.Proofs.Ytclfbjfgmocbhaa
