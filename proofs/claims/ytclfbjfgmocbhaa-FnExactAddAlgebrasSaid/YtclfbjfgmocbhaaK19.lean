/- What functions of the program return, as walks over their operations; no statement of the seat is proved here. -/
import Derived.Test.YtclfbjfgmocbhaaK18
import Derived.Test.YtclfbjfgmocbhaaSw25
set_option linter.unusedVariables false
set_option linter.unusedSimpArgs false
namespace Go.Proofs.Ytclfbjfgmocbhaa
open Go Go.RowKit Go.Sw Go.Ech
open Classical
theorem ty_sz_5 : sizeP Try.prog 5 = some 1 := by kernel_rfl
theorem algC_copyF {p N : Int} {T : Nat → Nat → Nat → Nat} {f h : Nat → Nat} {n m o : Nat} (ho : o = 218 + n) (hnm : n + m ≤ 6) : splice (algC p N T f) o (fnC m (fun j => .int .u8 ((h j : Nat) : Int))) = algC p N T (sumF n f h m) := by
  subst ho
  have hz : 218 + n + (fnC m (fun j => Value.int .u8 ((h j : Nat) : Int))).size ≤ (algC p N T f).size := by rw [fnC_size, cells_size]; omega
  refine algC_eq (by rw [splice_size _ _ _ hz, cells_size]) ?_ ?_ ?_ ?_
  · rw [splice_get _ _ _ _ hz, if_neg (by omega)]; exact algC_p rfl
  · rw [splice_get _ _ _ _ hz, if_neg (by omega)]; exact algC_n rfl
  · intro i j k hi hj hk; rw [splice_get _ _ _ _ hz, if_neg (by omega)]; exact algC_T i j k rfl hi hj hk
  · intro i hi
    rw [splice_get _ _ _ _ hz, fnC_size]
    unfold sumF
    by_cases e : n ≤ i ∧ i < n + m
    · rw [if_pos (by omega), if_pos e, fnC_get (by omega), show 218 + i - (218 + n) = i - n by omega]
    · rw [if_neg (by omega), if_neg e]; exact algC_f i rfl hi
theorem algC_copyT {p N : Int} {T U : Nat → Nat → Nat → Nat} {f : Nat → Nat} {n m a b o : Nat} (ho : o = 2 + (n + a) * 36 + (n + b) * 6 + n) (hnm : n + m ≤ 6) (ha : a < m) (hb : b < m) : splice (algC p N (sumT n m T U a b 0) f) o (fnC m (fun j => .int .u8 ((U a b j : Nat) : Int))) = algC p N (sumT n m T U a (b + 1) 0) f := by
  subst ho
  have hz : 2 + (n + a) * 36 + (n + b) * 6 + n + (fnC m (fun j => Value.int .u8 ((U a b j : Nat) : Int))).size ≤ (algC p N (sumT n m T U a b 0) f).size := by rw [fnC_size, cells_size]; omega
  refine algC_eq (by rw [splice_size _ _ _ hz, cells_size]) ?_ ?_ ?_ ?_
  · rw [splice_get _ _ _ _ hz, if_neg (by omega)]; exact algC_p rfl
  · rw [splice_get _ _ _ _ hz, if_neg (by omega)]; exact algC_n rfl
  · intro i j k hi hj hk
    rw [splice_get _ _ _ _ hz, fnC_size]
    by_cases e : i = n + a ∧ j = n + b ∧ n ≤ k ∧ k < n + m
    · obtain ⟨rfl, rfl, e1, e2⟩ := e
      rw [if_pos (by omega), fnC_get (by omega), show 2 + (n + a) * 36 + (n + b) * 6 + k - (2 + (n + a) * 36 + (n + b) * 6 + n) = k - n by omega]
      unfold sumT
      rw [if_pos (by omega), show n + a - n = a by omega, show n + b - n = b by omega]
    · rw [if_neg (by omega), algC_T i j k rfl hi hj hk]
      have : sumT n m T U a b 0 i j k = sumT n m T U a (b + 1) 0 i j k := by
        unfold sumT
        by_cases e2 : n ≤ i ∧ n ≤ j ∧ n ≤ k ∧ i < n + m ∧ j < n + m ∧ k < n + m ∧ (i < n + a ∨ i = n + a ∧ (j < n + b ∨ j = n + b ∧ k < n + 0))
        · rw [if_pos e2, if_pos (by omega)]
        · rw [if_neg e2, if_neg (by omega)]
      rw [this]
  · intro i hi; rw [splice_get _ _ _ _ hz, if_neg (by rw [fnC_size]; omega)]; exact algC_f i rfl hi

theorem AddAlgebrasSE (p n q m : Int) (T U : Nat → Nat → Nat → Nat) (f h : Nat → Nat) (w : World) (hT : ∀ i j k, T i j k ≤ 255) (hf : ∀ i, f i ≤ 255) (hU : ∀ i j k, U i j k ≤ 255) (hh : ∀ i, h i ≤ 255) (hco : (if AlgP p n T f ∧ AlgP q m U h then (if p = q then (if (IntKind.i64.wrap (n + m)) ≤ 6 then (0 : Int) else 3) else 2) else 1) ≠ 0) :
    CallsR Try.prog 22 #[.agg (algC p n T f), .agg (algC q m U h)] w (fun res _ => res = .tuple #[.agg (algC 0 0 (fun _ _ _ => 0) (fun _ => 0)), .int .i64 (if AlgP p n T f ∧ AlgP q m U h then (if p = q then (if (IntKind.i64.wrap (n + m)) ≤ 6 then (0 : Int) else 3) else 2) else 1)]) := by
  refine calls_fr [.agg (algC p n T f), .agg (algC q m U h)] Try.func22 rfl Try.ntmps22 rfl fun a hF => ?_
  have hM : Mem w w [none, none, none] [] := MemX.start w 3
  change Fr 22 a [(0, .agg (algC p n T f)), (1, .agg (algC q m U h))] at hF
  refine sq ?_
  refine wp_region_lit ?_
  refine stR hF (d_box 0 hM hF rfl) rfl ?_
  rintro _ w' a ⟨b1, rfl, hM, -⟩ hF
  change Mem w w' [some (b1, algC p n T f), none, none] [] at hM
  refine stR hF (d_box 1 hM hF rfl) rfl ?_
  rintro _ w' a ⟨b2, rfl, hM, -⟩ hF
  change Mem w w' [some (b1, algC p n T f), some (b2, algC q m U h), none] [] at hM
  refine stR hF (d_alloc 2 hM ty_ze_32) rfl ?_
  rintro _ w' a ⟨b3, rfl, hM, -⟩ hF
  change Mem w w' [some (b1, algC p n T f), some (b2, algC q m U h), some (b3, algC 0 0 (fun _ _ _ => 0) (fun _ => 0))] [] at hM
  refine st hF (g_assign hF rfl) rfl fun a hF => ?_
  refine wpList_nil ?_
  refine tN ?_
  refine sq ?_
  refine sq ?_
  refine wp_region_lit ?_
  refine st hF (g_loadAgg ty_ag_32 hF rfl (hM.row 0 rfl) (by simp only [fnC_size, cells_size, vecC_size, tabC_size, planeC_size] <;> omega) (whole cells_size)) rfl fun a hF => st hF (g_loadAgg ty_ag_32 hF rfl (hM.row 1 rfl) (by simp only [fnC_size, cells_size, vecC_size, tabC_size, planeC_size] <;> omega) (whole cells_size)) rfl fun a hF => st hF (g_fieldAddr ty_fo_32_1 hF rfl) rfl fun a hF => st hF (g_load ty_on_2 hF rfl (hM.row 0 rfl) (algC_n (by omega))) rfl fun a hF => st hF (g_fieldAddr ty_fo_32_1 hF rfl) rfl fun a hF => st hF (g_load ty_on_2 hF rfl (hM.row 1 rfl) (algC_n (by omega))) rfl fun a hF => st hF (g_add hF rfl rfl (show _ = (IntKind.i64.wrap (n + m) : Int) from rfl)) rfl fun a hF => ?_
  refine stR hF (d_call Try.call60 hF (.cons rfl (.cons rfl (.cons rfl .nil))) (l01Two_ok p n q m (IntKind.i64.wrap (n + m)) T U f h _ hT hf hU hh)) rfl ?_
  rintro _ w' a ⟨hx, rfl⟩ hF
  have hM := hM.ext hx
  refine st hF (g_assign hF rfl) rfl fun a hF => ?_
  refine wpList_nil ?_
  refine tN ?_
  refine sq ?_
  refine wp_region_lit ?_
  refine st hF (g_move hF rfl) rfl fun a hF => st hF (g_neq hF rfl rfl) rfl fun a hF => ?_
  refine wpList_nil ?_
  refine tN ?_
  refine c_cond hF rfl (fun h4 => ?_) (fun h4 => ?_)
  ·
    refine sq ?_
    refine wp_region_lit ?_
    refine st hF (g_build0 ty_bu_32) rfl fun a hF => st hF (g_move hF rfl) rfl fun a hF => ?_
    refine stN hF (d_storeAgg 2 hM rfl ty_sz_32 hF rfl rfl (by first | exact vecC_one | exact cells_one | (refine fnC_one fun _ _ => ?_; first | rfl | (split <;> rfl))) (by simp only [fnC_size, cells_size, vecC_size, tabC_size, planeC_size]) (by simp only [fnC_size, cells_size, vecC_size, tabC_size, planeC_size] <;> omega) (splice_whole _ _ (by simp only [fnC_size, cells_size, vecC_size, tabC_size, planeC_size]))) ?_
    intro _ w' a hM hF
    change Mem w w' [some (b1, algC p n T f), some (b2, algC q m U h), some (b3, algC 0 0 (fun _ _ _ => 0) (fun _ => 0))] [] at hM
    refine st hF (g_assign hF rfl) rfl fun a hF => ?_
    refine wpList_nil ?_
    refine tN ?_
    refine wp_ret ?_
    refine tR ?_
    refine fin2 rfl hF.defers (res_agg ty_ag_32 hF rfl (hM.row 2 rfl) (by simp only [fnC_size, cells_size, vecC_size, tabC_size, planeC_size])) (res_tmp hF rfl) ⟨_, rfl, hM.below, ?_⟩
    show _ = _
    rfl
  ·
    exact absurd hco h4

theorem AddAlgebrasSY (p n m : Nat) (T U : Nat → Nat → Nat → Nat) (f h : Nat → Nat) (w : World) (hT : ∀ i j k, T i j k ≤ 255) (hf : ∀ i, f i ≤ 255) (hU : ∀ i j k, U i j k ≤ 255) (hh : ∀ i, h i ≤ 255) (hn0 : 0 < n) (hm0 : 0 < m) (hnm : n + m ≤ 6) (h1 : AlgP (p : Int) (n : Int) T f) (h2 : AlgP (p : Int) (m : Int) U h) :
    CallsR Try.prog 22 #[.agg (algC (p : Int) (n : Int) T f), .agg (algC (p : Int) (m : Int) U h)] w (fun res _ => res = .tuple #[.agg (algC (p : Int) ((n + m : Nat) : Int) (sumT n m T U m 0 0) (sumF n f h m)), .int .i64 0]) := by
  refine calls_fr [.agg (algC (p : Int) (n : Int) T f), .agg (algC (p : Int) (m : Int) U h)] Try.func22 rfl Try.ntmps22 rfl fun a hF => ?_
  have hM : Mem w w [none, none, none] [] := MemX.start w 3
  change Fr 22 a [(0, .agg (algC (p : Int) (n : Int) T f)), (1, .agg (algC (p : Int) (m : Int) U h))] at hF
  refine sq ?_
  refine wp_region_lit ?_
  refine stR hF (d_box 0 hM hF rfl) rfl ?_
  rintro _ w' a ⟨b1, rfl, hM, -⟩ hF
  change Mem w w' [some (b1, algC (p : Int) (n : Int) T f), none, none] [] at hM
  refine stR hF (d_box 1 hM hF rfl) rfl ?_
  rintro _ w' a ⟨b2, rfl, hM, -⟩ hF
  change Mem w w' [some (b1, algC (p : Int) (n : Int) T f), some (b2, algC (p : Int) (m : Int) U h), none] [] at hM
  refine stR hF (d_alloc 2 hM ty_ze_32) rfl ?_
  rintro _ w' a ⟨b3, rfl, hM, -⟩ hF
  change Mem w w' [some (b1, algC (p : Int) (n : Int) T f), some (b2, algC (p : Int) (m : Int) U h), some (b3, algC 0 0 (fun _ _ _ => 0) (fun _ => 0))] [] at hM
  refine st hF (g_assign hF rfl) rfl fun a hF => ?_
  refine wpList_nil ?_
  refine tN ?_
  refine sq ?_
  refine sq ?_
  refine wp_region_lit ?_
  refine st hF (g_loadAgg ty_ag_32 hF rfl (hM.row 0 rfl) (by simp only [fnC_size, cells_size, vecC_size, tabC_size, planeC_size] <;> omega) (whole cells_size)) rfl fun a hF => st hF (g_loadAgg ty_ag_32 hF rfl (hM.row 1 rfl) (by simp only [fnC_size, cells_size, vecC_size, tabC_size, planeC_size] <;> omega) (whole cells_size)) rfl fun a hF => st hF (g_fieldAddr ty_fo_32_1 hF rfl) rfl fun a hF => st hF (g_load ty_on_2 hF rfl (hM.row 0 rfl) (algC_n (by omega))) rfl fun a hF => st hF (g_fieldAddr ty_fo_32_1 hF rfl) rfl fun a hF => st hF (g_load ty_on_2 hF rfl (hM.row 1 rfl) (algC_n (by omega))) rfl fun a hF => st hF (g_add hF rfl rfl (add_nat (n) (m) (by omega))) rfl fun a hF => ?_
  refine stR hF (d_call Try.call60 hF (.cons rfl (.cons rfl (.cons rfl .nil))) ((CallsR.val (l01Two_ok (p : Int) (n : Int) (p : Int) (m : Int) (((n + m : Nat) : Int)) T U f h _ hT hf hU hh) (congrArg (Value.int .i64) (by rw [if_pos ⟨h1, h2⟩, if_pos rfl, if_pos (by omega)]))))) rfl ?_
  rintro _ w' a ⟨hx, rfl⟩ hF
  have hM := hM.ext hx
  refine st hF (g_assign hF rfl) rfl fun a hF => ?_
  refine wpList_nil ?_
  refine tN ?_
  refine sq ?_
  refine wp_region_lit ?_
  refine st hF (g_move hF rfl) rfl fun a hF => st hF (g_neq hF rfl rfl) rfl fun a hF => ?_
  refine wpList_nil ?_
  refine tN ?_
  refine c_kF hF rfl (by decide) ?_
  refine wp_skip ?_
  refine tN ?_
  refine sq ?_
  refine wp_region_lit ?_
  refine st hF (g_loadAgg ty_ag_32 hF rfl (hM.row 0 rfl) (by simp only [fnC_size, cells_size, vecC_size, tabC_size, planeC_size] <;> omega) (whole cells_size)) rfl fun a hF => st hF (g_loadAgg ty_ag_32 hF rfl (hM.row 1 rfl) (by simp only [fnC_size, cells_size, vecC_size, tabC_size, planeC_size] <;> omega) (whole cells_size)) rfl fun a hF => ?_
  refine stR hF (d_call Try.call61 hF (.cons rfl (.cons rfl .nil)) (l01Sum_ok p n m T U f h _ hn0 hm0 hnm hT hf hU hh)) rfl ?_
  rintro _ w' a ⟨hx, rfl⟩ hF
  have hM := hM.ext hx
  refine stN hF (d_storeAgg 2 hM rfl ty_sz_32 hF rfl rfl (by first | exact vecC_one | exact cells_one | (refine fnC_one fun _ _ => ?_; first | rfl | (split <;> rfl))) (by simp only [fnC_size, cells_size, vecC_size, tabC_size, planeC_size]) (by simp only [fnC_size, cells_size, vecC_size, tabC_size, planeC_size] <;> omega) (splice_whole _ _ (by simp only [fnC_size, cells_size, vecC_size, tabC_size, planeC_size]))) ?_
  intro _ w' a hM hF
  change Mem w w' [some (b1, algC (p : Int) (n : Int) T f), some (b2, algC (p : Int) (m : Int) U h), some (b3, algC (p : Int) ((n + m : Nat) : Int) (sumT n m T U m 0 0) (sumF n f h m))] [] at hM
  refine st hF (g_assign hF rfl) rfl fun a hF => ?_
  refine wpList_nil ?_
  refine tN ?_
  refine wp_ret ?_
  refine fin2 rfl hF.defers (res_agg ty_ag_32 hF rfl (hM.row 2 rfl) (by simp only [fnC_size, cells_size, vecC_size, tabC_size, planeC_size])) (res_tmp hF rfl) ⟨_, rfl, hM.below, ?_⟩
  show _ = _
  rfl

theorem AddAlgebrasIE (p n q m : Int) (T U : Nat → Nat → Nat → Nat) (f h : Nat → Nat) (w : World) (hT : ∀ i j k, T i j k ≤ 255) (hf : ∀ i, f i ≤ 255) (hU : ∀ i j k, U i j k ≤ 255) (hh : ∀ i, h i ≤ 255) (hco : (if AlgP p n T f ∧ AlgP q m U h then (if p = q then (if (IntKind.i64.wrap (n + m)) ≤ 6 then (0 : Int) else 3) else 2) else 1) ≠ 0) :
    CallsR Try.prog 23 #[.agg (algC p n T f), .agg (algC q m U h)] w (fun res _ => res = .tuple #[.agg (algC 0 0 (fun _ _ _ => 0) (fun _ => 0)), .int .i64 (if AlgP p n T f ∧ AlgP q m U h then (if p = q then (if (IntKind.i64.wrap (n + m)) ≤ 6 then (0 : Int) else 3) else 2) else 1)]) := by
  refine calls_fr [.agg (algC p n T f), .agg (algC q m U h)] Try.func23 rfl Try.ntmps23 rfl fun a hF => ?_
  have hM : Mem w w [none, none, none, none] [] := MemX.start w 4
  change Fr 74 a [(0, .agg (algC p n T f)), (1, .agg (algC q m U h))] at hF
  refine sq ?_
  refine wp_region_lit ?_
  refine stR hF (d_box 0 hM hF rfl) rfl ?_
  rintro _ w' a ⟨b1, rfl, hM, -⟩ hF
  change Mem w w' [some (b1, algC p n T f), none, none, none] [] at hM
  refine stR hF (d_box 1 hM hF rfl) rfl ?_
  rintro _ w' a ⟨b2, rfl, hM, -⟩ hF
  change Mem w w' [some (b1, algC p n T f), some (b2, algC q m U h), none, none] [] at hM
  refine stR hF (d_alloc 2 hM ty_ze_32) rfl ?_
  rintro _ w' a ⟨b3, rfl, hM, -⟩ hF
  change Mem w w' [some (b1, algC p n T f), some (b2, algC q m U h), some (b3, algC 0 0 (fun _ _ _ => 0) (fun _ => 0)), none] [] at hM
  refine st hF (g_assign hF rfl) rfl fun a hF => ?_
  refine wpList_nil ?_
  refine tN ?_
  refine sq ?_
  refine wp_region_lit ?_
  refine st hF (g_loadAgg ty_ag_32 hF rfl (hM.row 0 rfl) (by simp only [fnC_size, cells_size, vecC_size, tabC_size, planeC_size] <;> omega) (whole cells_size)) rfl fun a hF => st hF (g_loadAgg ty_ag_32 hF rfl (hM.row 1 rfl) (by simp only [fnC_size, cells_size, vecC_size, tabC_size, planeC_size] <;> omega) (whole cells_size)) rfl fun a hF => st hF (g_fieldAddr ty_fo_32_1 hF rfl) rfl fun a hF => st hF (g_load ty_on_2 hF rfl (hM.row 0 rfl) (algC_n (by omega))) rfl fun a hF => st hF (g_fieldAddr ty_fo_32_1 hF rfl) rfl fun a hF => st hF (g_load ty_on_2 hF rfl (hM.row 1 rfl) (algC_n (by omega))) rfl fun a hF => st hF (g_add hF rfl rfl (show _ = (IntKind.i64.wrap (n + m) : Int) from rfl)) rfl fun a hF => ?_
  refine stR hF (d_call Try.call62 hF (.cons rfl (.cons rfl (.cons rfl .nil))) (joinFault_ok p n q m (IntKind.i64.wrap (n + m)) T U f h _ hT hf hU hh)) rfl ?_
  rintro _ w' a ⟨hx, rfl⟩ hF
  have hM := hM.ext hx
  refine st hF (g_assign hF rfl) rfl fun a hF => ?_
  refine wpList_nil ?_
  refine tN ?_
  refine sq ?_
  refine sq ?_
  refine wp_region_lit ?_
  refine st hF (g_move hF rfl) rfl fun a hF => st hF (g_neq hF rfl rfl) rfl fun a hF => ?_
  refine wpList_nil ?_
  refine tN ?_
  refine c_cond hF rfl (fun h4 => ?_) (fun h4 => ?_)
  ·
    refine sq ?_
    refine wp_region_lit ?_
    refine st hF (g_build0 ty_bu_32) rfl fun a hF => st hF (g_move hF rfl) rfl fun a hF => ?_
    refine stN hF (d_storeAgg 2 hM rfl ty_sz_32 hF rfl rfl (by first | exact vecC_one | exact cells_one | (refine fnC_one fun _ _ => ?_; first | rfl | (split <;> rfl))) (by simp only [fnC_size, cells_size, vecC_size, tabC_size, planeC_size]) (by simp only [fnC_size, cells_size, vecC_size, tabC_size, planeC_size] <;> omega) (splice_whole _ _ (by simp only [fnC_size, cells_size, vecC_size, tabC_size, planeC_size]))) ?_
    intro _ w' a hM hF
    change Mem w w' [some (b1, algC p n T f), some (b2, algC q m U h), some (b3, algC 0 0 (fun _ _ _ => 0) (fun _ => 0)), none] [] at hM
    refine st hF (g_assign hF rfl) rfl fun a hF => ?_
    refine wpList_nil ?_
    refine tN ?_
    refine wp_ret ?_
    refine tR ?_
    refine fin2 rfl hF.defers (res_agg ty_ag_32 hF rfl (hM.row 2 rfl) (by simp only [fnC_size, cells_size, vecC_size, tabC_size, planeC_size])) (res_tmp hF rfl) ⟨_, rfl, hM.below, ?_⟩
    show _ = _
    rfl
  ·
    exact absurd hco h4

theorem AddAlgebrasIY (p n m : Nat) (T U : Nat → Nat → Nat → Nat) (f h : Nat → Nat) (w : World) (hT : ∀ i j k, T i j k ≤ 255) (hf : ∀ i, f i ≤ 255) (hU : ∀ i j k, U i j k ≤ 255) (hh : ∀ i, h i ≤ 255) (hn0 : 0 < n) (hm0 : 0 < m) (hnm : n + m ≤ 6) (h1 : AlgP (p : Int) (n : Int) T f) (h2 : AlgP (p : Int) (m : Int) U h) :
    CallsR Try.prog 23 #[.agg (algC (p : Int) (n : Int) T f), .agg (algC (p : Int) (m : Int) U h)] w (fun res _ => res = .tuple #[.agg (algC (p : Int) ((n + m : Nat) : Int) (sumT n m T U m 0 0) (sumF n f h m)), .int .i64 0]) := by
  refine calls_fr [.agg (algC (p : Int) (n : Int) T f), .agg (algC (p : Int) (m : Int) U h)] Try.func23 rfl Try.ntmps23 rfl fun a hF => ?_
  have hM : Mem w w [none, none, none, none] [] := MemX.start w 4
  change Fr 74 a [(0, .agg (algC (p : Int) (n : Int) T f)), (1, .agg (algC (p : Int) (m : Int) U h))] at hF
  refine sq ?_
  refine wp_region_lit ?_
  refine stR hF (d_box 0 hM hF rfl) rfl ?_
  rintro _ w' a ⟨b1, rfl, hM, -⟩ hF
  change Mem w w' [some (b1, algC (p : Int) (n : Int) T f), none, none, none] [] at hM
  refine stR hF (d_box 1 hM hF rfl) rfl ?_
  rintro _ w' a ⟨b2, rfl, hM, -⟩ hF
  change Mem w w' [some (b1, algC (p : Int) (n : Int) T f), some (b2, algC (p : Int) (m : Int) U h), none, none] [] at hM
  refine stR hF (d_alloc 2 hM ty_ze_32) rfl ?_
  rintro _ w' a ⟨b3, rfl, hM, -⟩ hF
  change Mem w w' [some (b1, algC (p : Int) (n : Int) T f), some (b2, algC (p : Int) (m : Int) U h), some (b3, algC 0 0 (fun _ _ _ => 0) (fun _ => 0)), none] [] at hM
  refine st hF (g_assign hF rfl) rfl fun a hF => ?_
  refine wpList_nil ?_
  refine tN ?_
  refine sq ?_
  refine wp_region_lit ?_
  refine st hF (g_loadAgg ty_ag_32 hF rfl (hM.row 0 rfl) (by simp only [fnC_size, cells_size, vecC_size, tabC_size, planeC_size] <;> omega) (whole cells_size)) rfl fun a hF => st hF (g_loadAgg ty_ag_32 hF rfl (hM.row 1 rfl) (by simp only [fnC_size, cells_size, vecC_size, tabC_size, planeC_size] <;> omega) (whole cells_size)) rfl fun a hF => st hF (g_fieldAddr ty_fo_32_1 hF rfl) rfl fun a hF => st hF (g_load ty_on_2 hF rfl (hM.row 0 rfl) (algC_n (by omega))) rfl fun a hF => st hF (g_fieldAddr ty_fo_32_1 hF rfl) rfl fun a hF => st hF (g_load ty_on_2 hF rfl (hM.row 1 rfl) (algC_n (by omega))) rfl fun a hF => st hF (g_add hF rfl rfl (add_nat (n) (m) (by omega))) rfl fun a hF => ?_
  refine stR hF (d_call Try.call62 hF (.cons rfl (.cons rfl (.cons rfl .nil))) ((CallsR.val (joinFault_ok (p : Int) (n : Int) (p : Int) (m : Int) (((n + m : Nat) : Int)) T U f h _ hT hf hU hh) (congrArg (Value.int .i64) (by rw [if_pos ⟨h1, h2⟩, if_pos rfl, if_pos (by omega)]))))) rfl ?_
  rintro _ w' a ⟨hx, rfl⟩ hF
  have hM := hM.ext hx
  refine st hF (g_assign hF rfl) rfl fun a hF => ?_
  refine wpList_nil ?_
  refine tN ?_
  refine sq ?_
  refine sq ?_
  refine wp_region_lit ?_
  refine st hF (g_move hF rfl) rfl fun a hF => st hF (g_neq hF rfl rfl) rfl fun a hF => ?_
  refine wpList_nil ?_
  refine tN ?_
  refine c_kF hF rfl (by decide) ?_
  refine wp_skip ?_
  refine tN ?_
  refine sq ?_
  refine wp_region_lit ?_
  refine st hF (g_loadAgg ty_ag_32 hF rfl (hM.row 0 rfl) (by simp only [fnC_size, cells_size, vecC_size, tabC_size, planeC_size] <;> omega) (whole cells_size)) rfl fun a hF => ?_
  refine stR hF (d_alloc 3 hM ty_ze_32) rfl ?_
  rintro _ w' a ⟨b5, rfl, hM, -⟩ hF
  change Mem w w' [some (b1, algC (p : Int) (n : Int) T f), some (b2, algC (p : Int) (m : Int) U h), some (b3, algC 0 0 (fun _ _ _ => 0) (fun _ => 0)), some (b5, algC 0 0 (fun _ _ _ => 0) (fun _ => 0))] [] at hM
  refine stN hF (d_storeAgg 3 hM rfl ty_sz_32 hF rfl rfl (by first | exact vecC_one | exact cells_one | (refine fnC_one fun _ _ => ?_; first | rfl | (split <;> rfl))) (by simp only [fnC_size, cells_size, vecC_size, tabC_size, planeC_size]) (by simp only [fnC_size, cells_size, vecC_size, tabC_size, planeC_size] <;> omega) (splice_whole _ _ (by simp only [fnC_size, cells_size, vecC_size, tabC_size, planeC_size]))) ?_
  intro _ w' a hM hF
  change Mem w w' [some (b1, algC (p : Int) (n : Int) T f), some (b2, algC (p : Int) (m : Int) U h), some (b3, algC 0 0 (fun _ _ _ => 0) (fun _ => 0)), some (b5, algC (p : Int) (n : Int) T f)] [] at hM
  refine wpList_nil ?_
  refine tN ?_
  refine sq ?_
  refine wp_region_lit ?_
  refine st hF (g_fieldAddr ty_fo_32_1 hF rfl) rfl fun a hF => st hF (g_load ty_on_2 hF rfl (hM.row 0 rfl) (algC_n (by omega))) rfl fun a hF => st hF (g_fieldAddr ty_fo_32_1 hF rfl) rfl fun a hF => st hF (g_load ty_on_2 hF rfl (hM.row 1 rfl) (algC_n (by omega))) rfl fun a hF => st hF (g_add hF rfl rfl (add_nat (n) (m) (by omega))) rfl fun a hF => st hF (g_fieldAddr ty_fo_32_1 hF rfl) rfl fun a hF => ?_
  refine stN hF (d_store 3 hM rfl ty_on_2 hF rfl rfl rfl (by first | omega | (simp only [fnC_size, cells_size, vecC_size, tabC_size, planeC_size] <;> omega))) ?_
  intro _ w' a hM hF
  rw [algC_setn (by omega)] at hM
  change Mem w w' [some (b1, algC (p : Int) (n : Int) T f), some (b2, algC (p : Int) (m : Int) U h), some (b3, algC 0 0 (fun _ _ _ => 0) (fun _ => 0)), some (b5, algC (p : Int) ((n + m : Nat) : Int) T f)] [] at hM
  refine wpList_nil ?_
  refine tN ?_
  refine sq ?_
  refine c_par 8 [] [.val (ptr b5 (0 + 218)), .val (ptr b1 (0 + 1)), .val (.int .i64 (((n : Nat) : Int))), .val (.slice (some ⟨b5, 0 + 218 + (n) * 1, none⟩) (6 - n) ((6 - n))), .val (ptr b2 (0 + 218)), .val (ptr b2 (0 + 1)), .val (.int .i64 (((m : Nat) : Int))), .val (.slice (some ⟨b2, 0 + 218, none⟩) (m) (6))] hmix rfl hF rfl hM ⟨fun a w g hF hS hd => by exact par_val hS rfl (g_fieldAddr ty_fo_32_3 hF rfl), fun a w g hF hS hd => by exact par_val hS rfl (g_fieldAddr ty_fo_32_1 hF rfl), fun a w g hF hS hd => by have hF := hF.ext1 30 (hd 1 rfl rfl); have hM := hS.mem rfl; exact par_val hS rfl (g_load ty_on_2 hF rfl (hM.row 0 rfl) (algC_n (by omega))), fun a w g hF hS hd => by have hF := hF.ext1 29 (hd 0 rfl rfl); have hF := hF.ext1 31 (hd 2 rfl rfl); exact par_val hS rfl (g_sliceArrLo (i := n) ty_ua_30 ty_sz_5 hF rfl rfl rfl (by omega)), fun a w g hF hS hd => by exact par_val hS rfl (g_fieldAddr ty_fo_32_3 hF rfl), fun a w g hF hS hd => by exact par_val hS rfl (g_fieldAddr ty_fo_32_1 hF rfl), fun a w g hF hS hd => by have hF := hF.ext1 34 (hd 5 rfl rfl); have hM := hS.mem rfl; exact par_val hS rfl (g_load ty_on_2 hF rfl (hM.row 1 rfl) (algC_n (by omega))), fun a w g hF hS hd => by have hF := hF.ext1 33 (hd 4 rfl rfl); have hF := hF.ext1 35 (hd 6 rfl rfl); exact par_val hS rfl (g_sliceArrHi (i := m) ty_ua_30 ty_sz_5 (by decide) hF rfl rfl rfl (by omega)), trivial⟩ ?_
  intro a w' L hF hS hq
  have hF := hF.ext1 29 (hq 0 rfl rfl)
  have hF := hF.ext1 30 (hq 1 rfl rfl)
  have hF := hF.ext1 31 (hq 2 rfl rfl)
  have hF := hF.ext1 32 (hq 3 rfl rfl)
  have hF := hF.ext1 33 (hq 4 rfl rfl)
  have hF := hF.ext1 34 (hq 5 rfl rfl)
  have hF := hF.ext1 35 (hq 6 rfl rfl)
  have hF := hF.ext1 36 (hq 7 rfl rfl)
  have hM := hS.mem rfl
  change wpList Try.prog _ _ [_] _ _
  refine stR hF (d_copy (N := m) (g := (fun j => .int .u8 ((h j : Nat) : Int))) 3 ty_us_68 ty_sz_5 hM rfl hF rfl rfl (Nat.min_eq_left (by omega)).symm (fun j hj => ((hM.row 1 rfl).cell _).trans (algC_f j (by omega) (by omega))) (by simp only [cells_size]; omega) (fun _ _ => rfl) (algC_copyF (by omega) hnm)) rfl ?_
  rintro _ w' a ⟨rfl, hM⟩ hF
  change Mem w w' [some (b1, algC (p : Int) (n : Int) T f), some (b2, algC (p : Int) (m : Int) U h), some (b3, algC 0 0 (fun _ _ _ => 0) (fun _ => 0)), some (b5, algC (p : Int) ((n + m : Nat) : Int) T (sumF n f h m))] [] at hM
  refine wpList_nil ?_
  refine tN ?_
  refine sq ?_
  refine sq ?_
  refine wp_region_lit ?_
  refine st hF (g_fieldAddr ty_fo_32_1 hF rfl) rfl fun a hF => st hF (g_load ty_on_2 hF rfl (hM.row 1 rfl) (algC_n (by omega))) rfl fun a hF => st hF (g_move hF rfl) rfl fun a hF => ?_
  refine wpList_nil ?_
  refine tN ?_
  refine wp_block ?_
  change Mem w _ [some (b1, algC (p : Int) (n : Int) T f), some (b2, algC (p : Int) (m : Int) U h), some (b3, algC 0 0 (fun _ _ _ => 0) (fun _ => 0)), some (b5, algC (p : Int) ((n + m : Nat) : Int) T (sumF n f h m))] [] at hM
  refine c_loop (fun (kk : Nat) a w' => kk ≤ m ∧ (True) ∧ Fr 74 a [(36, .slice (some ⟨b2, 0 + 218, none⟩) (m) (6)), (35, .int .i64 (((m : Nat) : Int))), (34, ptr b2 (0 + 1)), (33, ptr b2 (0 + 218)), (32, .slice (some ⟨b5, 0 + 218 + (n) * 1, none⟩) (6 - n) ((6 - n))), (31, .int .i64 (((n : Nat) : Int))), (30, ptr b1 (0 + 1)), (29, ptr b5 (0 + 218)), (0, .agg (algC (p : Int) (n : Int) T f)), (1, .agg (algC (p : Int) (m : Int) U h)), (2, ptr b1 (0)), (3, ptr b2 (0)), (4, ptr b3 (0)), (5, .int .i64 (0)), (10, .agg (algC (p : Int) (n : Int) T f)), (11, .agg (algC (p : Int) (m : Int) U h)), (12, ptr b1 (0 + 1)), (13, .int .i64 (((n : Nat) : Int))), (14, ptr b2 (0 + 1)), (15, .int .i64 (((m : Nat) : Int))), (16, .int .i64 (((n + m : Nat) : Int))), (17, .int .i64 (0)), (6, .int .i64 (0)), (18, .int .i64 (0)), (19, .bool (decide ((0 : Int) ≠ 0))), (22, .agg (algC (p : Int) (n : Int) T f)), (7, ptr b5 (0)), (23, ptr b1 (0 + 1)), (24, .int .i64 (((n : Nat) : Int))), (25, ptr b2 (0 + 1)), (26, .int .i64 (((m : Nat) : Int))), (27, .int .i64 (((n + m : Nat) : Int))), (28, ptr b5 (0 + 1)), (37, .int .i64 (((m : Nat) : Int))), (38, ptr b2 (0 + 1)), (39, .int .i64 (((m : Nat) : Int))), (40, .int .i64 (((kk : Nat) : Int)))] ∧ Mem w w' [some (b1, algC (p : Int) (n : Int) T f), some (b2, algC (p : Int) (m : Int) U h), some (b3, algC 0 0 (fun _ _ _ => 0) (fun _ => 0)), some (b5, algC (p : Int) ((n + m : Nat) : Int) (sumT n m T U (kk) (0) (0)) (sumF n f h (m)))] []) (fun kk => m - kk) 0 ?_ ?_
  ·
    refine ⟨by omega, trivial, hF.sub _ (by repeat' constructor), ?_⟩
    exact hM.cast (by rw [sumT_zero])
  ·
    clear hF hM
    rintro gi a w' ⟨hgi, hinv1, hF, hM⟩
    refine sq ?_
    refine wp_region_lit ?_
    refine st hF (g_lss hF rfl rfl) rfl fun a hF => ?_
    refine wpList_nil ?_
    refine tN ?_
    refine sq ?_
    refine c_cond hF rfl (fun h6 => ?_) (fun h6 => ?_)
    ·
      refine wp_skip ?_
      refine tN ?_
      refine sq ?_
      refine wp_block ?_
      refine sq ?_
      refine wp_region_lit ?_
      refine st hF (g_move hF rfl) rfl fun a hF => st hF (g_assign hF rfl) rfl fun a hF => ?_
      refine wpList_nil ?_
      refine tN ?_
      refine sq ?_
      refine wp_region_lit ?_
      refine st hF (g_fieldAddr ty_fo_32_1 hF rfl) rfl fun a hF => st hF (g_load ty_on_2 hF rfl (hM.row 1 rfl) (algC_n (by omega))) rfl fun a hF => st hF (g_move hF rfl) rfl fun a hF => ?_
      refine wpList_nil ?_
      refine tN ?_
      refine wp_block ?_
      change Mem w _ [some (b1, algC (p : Int) (n : Int) T f), some (b2, algC (p : Int) (m : Int) U h), some (b3, algC 0 0 (fun _ _ _ => 0) (fun _ => 0)), some (b5, algC (p : Int) ((n + m : Nat) : Int) (sumT n m T U (gi) (0) (0)) (sumF n f h (m)))] [] at hM
      refine c_loop (fun (kk : Nat) a w' => kk ≤ m ∧ (True) ∧ Fr 74 a [(36, .slice (some ⟨b2, 0 + 218, none⟩) (m) (6)), (35, .int .i64 (((m : Nat) : Int))), (34, ptr b2 (0 + 1)), (33, ptr b2 (0 + 218)), (32, .slice (some ⟨b5, 0 + 218 + (n) * 1, none⟩) (6 - n) ((6 - n))), (31, .int .i64 (((n : Nat) : Int))), (30, ptr b1 (0 + 1)), (29, ptr b5 (0 + 218)), (0, .agg (algC (p : Int) (n : Int) T f)), (1, .agg (algC (p : Int) (m : Int) U h)), (2, ptr b1 (0)), (3, ptr b2 (0)), (4, ptr b3 (0)), (5, .int .i64 (0)), (10, .agg (algC (p : Int) (n : Int) T f)), (11, .agg (algC (p : Int) (m : Int) U h)), (12, ptr b1 (0 + 1)), (13, .int .i64 (((n : Nat) : Int))), (14, ptr b2 (0 + 1)), (15, .int .i64 (((m : Nat) : Int))), (16, .int .i64 (((n + m : Nat) : Int))), (17, .int .i64 (0)), (6, .int .i64 (0)), (18, .int .i64 (0)), (19, .bool (decide ((0 : Int) ≠ 0))), (22, .agg (algC (p : Int) (n : Int) T f)), (7, ptr b5 (0)), (23, ptr b1 (0 + 1)), (24, .int .i64 (((n : Nat) : Int))), (25, ptr b2 (0 + 1)), (26, .int .i64 (((m : Nat) : Int))), (27, .int .i64 (((n + m : Nat) : Int))), (28, ptr b5 (0 + 1)), (37, .int .i64 (((m : Nat) : Int))), (38, ptr b2 (0 + 1)), (39, .int .i64 (((m : Nat) : Int))), (40, .int .i64 (((gi : Nat) : Int))), (41, .bool (decide ((((gi : Nat) : Int) : Int) < ((m : Nat) : Int)))), (42, .int .i64 (((gi : Nat) : Int))), (8, .int .i64 (((gi : Nat) : Int))), (43, ptr b2 (0 + 1)), (44, .int .i64 (((m : Nat) : Int))), (45, .int .i64 (((kk : Nat) : Int)))] ∧ Mem w w' [some (b1, algC (p : Int) (n : Int) T f), some (b2, algC (p : Int) (m : Int) U h), some (b3, algC 0 0 (fun _ _ _ => 0) (fun _ => 0)), some (b5, algC (p : Int) ((n + m : Nat) : Int) (sumT n m T U (gi) (kk) (0)) (sumF n f h (m)))] []) (fun kk => m - kk) 0 ?_ ?_
      ·
        refine ⟨by omega, trivial, hF.sub _ (by repeat' constructor), ?_⟩
        exact hM
      ·
        clear hF hM
        rintro gj a w' ⟨hgj, hinv2, hF, hM⟩
        refine sq ?_
        refine wp_region_lit ?_
        refine st hF (g_lss hF rfl rfl) rfl fun a hF => ?_
        refine wpList_nil ?_
        refine tN ?_
        refine sq ?_
        refine c_cond hF rfl (fun h7 => ?_) (fun h7 => ?_)
        ·
          refine wp_skip ?_
          refine tN ?_
          refine sq ?_
          refine wp_block ?_
          refine sq ?_
          refine wp_region_lit ?_
          refine st hF (g_move hF rfl) rfl fun a hF => st hF (g_assign hF rfl) rfl fun a hF => ?_
          refine wpList_nil ?_
          refine tN ?_
          refine c_par 22 [] [.val (ptr b1 (0 + 1)), .val (.int .i64 (((n : Nat) : Int))), .val (.int .i64 (((gi : Nat) : Int))), .val (.int .i64 (((n + gi : Nat) : Int))), .val (ptr b1 (0 + 1)), .val (.int .i64 (((n : Nat) : Int))), .val (.int .i64 (((gj : Nat) : Int))), .val (.int .i64 (((n + gj : Nat) : Int))), .val (ptr b5 (0 + 2)), .val (ptr b5 (0 + 2 + (n + gi) * 36)), .val (ptr b5 (0 + 2 + (n + gi) * 36 + (n + gj) * 6)), .val (ptr b1 (0 + 1)), .val (.int .i64 (((n : Nat) : Int))), .val (.slice (some ⟨b5, 0 + 2 + (n + gi) * 36 + (n + gj) * 6 + (n) * 1, none⟩) (6 - n) ((6 - n))), .val (.int .i64 (((gi : Nat) : Int))), .val (.int .i64 (((gj : Nat) : Int))), .val (ptr b2 (0 + 2)), .val (ptr b2 (0 + 2 + (gi) * 36)), .val (ptr b2 (0 + 2 + (gi) * 36 + (gj) * 6)), .val (ptr b2 (0 + 1)), .val (.int .i64 (((m : Nat) : Int))), .val (.slice (some ⟨b2, 0 + 2 + (gi) * 36 + (gj) * 6, none⟩) (m) (6))] hmix rfl hF rfl hM ⟨fun a w g hF hS hd => by exact par_val hS rfl (g_fieldAddr ty_fo_32_1 hF rfl), fun a w g hF hS hd => by have hF := hF.ext1 48 (hd 0 rfl rfl); have hM := hS.mem rfl; exact par_val hS rfl (g_load ty_on_2 hF rfl (hM.row 0 rfl) (algC_n (by omega))), fun a w g hF hS hd => by exact par_val hS rfl (g_move hF rfl), fun a w g hF hS hd => by have hF := hF.ext1 49 (hd 1 rfl rfl); have hF := hF.ext1 50 (hd 2 rfl rfl); exact par_val hS rfl (g_add hF rfl rfl (add_nat (n) (gi) (by omega))), fun a w g hF hS hd => by exact par_val hS rfl (g_fieldAddr ty_fo_32_1 hF rfl), fun a w g hF hS hd => by have hF := hF.ext1 52 (hd 4 rfl rfl); have hM := hS.mem rfl; exact par_val hS rfl (g_load ty_on_2 hF rfl (hM.row 0 rfl) (algC_n (by omega))), fun a w g hF hS hd => by exact par_val hS rfl (g_move hF rfl), fun a w g hF hS hd => by have hF := hF.ext1 53 (hd 5 rfl rfl); have hF := hF.ext1 54 (hd 6 rfl rfl); exact par_val hS rfl (g_add hF rfl rfl (add_nat (n) (gj) (by omega))), fun a w g hF hS hd => by exact par_val hS rfl (g_fieldAddr ty_fo_32_2 hF rfl), fun a w g hF hS hd => by have hF := hF.ext1 51 (hd 3 rfl rfl); have hF := hF.ext1 56 (hd 8 rfl rfl); exact par_val hS rfl (g_indexAddr ty_ar_24 hF rfl rfl rfl (by omega)), fun a w g hF hS hd => by have hF := hF.ext1 55 (hd 7 rfl rfl); have hF := hF.ext1 57 (hd 9 rfl rfl); exact par_val hS rfl (g_indexAddr ty_ar_23 hF rfl rfl rfl (by omega)), fun a w g hF hS hd => by exact par_val hS rfl (g_fieldAddr ty_fo_32_1 hF rfl), fun a w g hF hS hd => by have hF := hF.ext1 59 (hd 11 rfl rfl); have hM := hS.mem rfl; exact par_val hS rfl (g_load ty_on_2 hF rfl (hM.row 0 rfl) (algC_n (by omega))), fun a w g hF hS hd => by have hF := hF.ext1 58 (hd 10 rfl rfl); have hF := hF.ext1 60 (hd 12 rfl rfl); exact par_val hS rfl (g_sliceArrLo (i := n) ty_ua_22 ty_sz_5 hF rfl rfl rfl (by omega)), fun a w g hF hS hd => by exact par_val hS rfl (g_move hF rfl), fun a w g hF hS hd => by exact par_val hS rfl (g_move hF rfl), fun a w g hF hS hd => by exact par_val hS rfl (g_fieldAddr ty_fo_32_2 hF rfl), fun a w g hF hS hd => by have hF := hF.ext1 62 (hd 14 rfl rfl); have hF := hF.ext1 64 (hd 16 rfl rfl); exact par_val hS rfl (g_indexAddr ty_ar_24 hF rfl rfl rfl (by omega)), fun a w g hF hS hd => by have hF := hF.ext1 63 (hd 15 rfl rfl); have hF := hF.ext1 65 (hd 17 rfl rfl); exact par_val hS rfl (g_indexAddr ty_ar_23 hF rfl rfl rfl (by omega)), fun a w g hF hS hd => by exact par_val hS rfl (g_fieldAddr ty_fo_32_1 hF rfl), fun a w g hF hS hd => by have hF := hF.ext1 67 (hd 19 rfl rfl); have hM := hS.mem rfl; exact par_val hS rfl (g_load ty_on_2 hF rfl (hM.row 1 rfl) (algC_n (by omega))), fun a w g hF hS hd => by have hF := hF.ext1 66 (hd 18 rfl rfl); have hF := hF.ext1 68 (hd 20 rfl rfl); exact par_val hS rfl (g_sliceArrHi (i := m) ty_ua_22 ty_sz_5 (by decide) hF rfl rfl rfl (by omega)), trivial⟩ ?_
          intro a w' L hF hS hq
          have hF := hF.ext1 48 (hq 0 rfl rfl)
          have hF := hF.ext1 49 (hq 1 rfl rfl)
          have hF := hF.ext1 50 (hq 2 rfl rfl)
          have hF := hF.ext1 51 (hq 3 rfl rfl)
          have hF := hF.ext1 52 (hq 4 rfl rfl)
          have hF := hF.ext1 53 (hq 5 rfl rfl)
          have hF := hF.ext1 54 (hq 6 rfl rfl)
          have hF := hF.ext1 55 (hq 7 rfl rfl)
          have hF := hF.ext1 56 (hq 8 rfl rfl)
          have hF := hF.ext1 57 (hq 9 rfl rfl)
          have hF := hF.ext1 58 (hq 10 rfl rfl)
          have hF := hF.ext1 59 (hq 11 rfl rfl)
          have hF := hF.ext1 60 (hq 12 rfl rfl)
          have hF := hF.ext1 61 (hq 13 rfl rfl)
          have hF := hF.ext1 62 (hq 14 rfl rfl)
          have hF := hF.ext1 63 (hq 15 rfl rfl)
          have hF := hF.ext1 64 (hq 16 rfl rfl)
          have hF := hF.ext1 65 (hq 17 rfl rfl)
          have hF := hF.ext1 66 (hq 18 rfl rfl)
          have hF := hF.ext1 67 (hq 19 rfl rfl)
          have hF := hF.ext1 68 (hq 20 rfl rfl)
          have hF := hF.ext1 69 (hq 21 rfl rfl)
          have hM := hS.mem rfl
          change wpList Try.prog _ _ [_] _ _
          refine stR hF (d_copy (N := m) (g := (fun j => .int .u8 ((U gi gj j : Nat) : Int))) 3 ty_us_68 ty_sz_5 hM rfl hF rfl rfl (Nat.min_eq_left (by omega)).symm (fun j hj => ((hM.row 1 rfl).cell _).trans (algC_T gi gj j (by omega) (by omega) (by omega) (by omega))) (by simp only [cells_size]; omega) (fun _ _ => rfl) (algC_copyT (by omega) hnm (by omega) (by omega))) rfl ?_
          rintro _ w' a ⟨rfl, hM⟩ hF
          change Mem w w' [some (b1, algC (p : Int) (n : Int) T f), some (b2, algC (p : Int) (m : Int) U h), some (b3, algC 0 0 (fun _ _ _ => 0) (fun _ => 0)), some (b5, algC (p : Int) ((n + m : Nat) : Int) (sumT n m T U (gi) (gj + 1) (0)) (sumF n f h (m)))] [] at hM
          refine wpList_nil ?_
          refine iN ?_
          refine tN ?_
          refine wp_region_lit ?_
          refine st hF (g_add hF rfl rfl (add_nat (gj) (1) (by omega))) rfl fun a hF => st hF (g_move hF rfl) rfl fun a hF => ?_
          refine wpList_nil ?_
          refine tN ?_
          refine ⟨gj + 1, ⟨by omega, trivial, hF.sub _ (by repeat' constructor), ?_⟩, by omega⟩
          exact hM
        ·
          obtain rfl : m = gj := by omega
          refine wp_exit ?_
          refine tX ?_
          refine tX ?_
          refine ib_same ?_
          refine iN ?_
          refine tN ?_
          refine wp_region_lit ?_
          refine st hF (g_add hF rfl rfl (add_nat (gi) (1) (by omega))) rfl fun a hF => st hF (g_move hF rfl) rfl fun a hF => ?_
          refine wpList_nil ?_
          refine tN ?_
          refine ⟨gi + 1, ⟨by omega, trivial, hF.sub _ (by repeat' constructor), ?_⟩, by omega⟩
          exact hM.cast (by rw [sumT_i])
    ·
      obtain rfl : m = gi := by omega
      refine wp_exit ?_
      refine tX ?_
      refine tX ?_
      refine ib_same ?_
      refine tN ?_
      refine sq ?_
      refine wp_region_lit ?_
      refine st hF (g_loadAgg ty_ag_32 hF rfl (hM.row 3 rfl) (by simp only [fnC_size, cells_size, vecC_size, tabC_size, planeC_size] <;> omega) (whole cells_size)) rfl fun a hF => ?_
      refine stN hF (d_storeAgg 2 hM rfl ty_sz_32 hF rfl rfl (by first | exact vecC_one | exact cells_one | (refine fnC_one fun _ _ => ?_; first | rfl | (split <;> rfl))) (by simp only [fnC_size, cells_size, vecC_size, tabC_size, planeC_size]) (by simp only [fnC_size, cells_size, vecC_size, tabC_size, planeC_size] <;> omega) (splice_whole _ _ (by simp only [fnC_size, cells_size, vecC_size, tabC_size, planeC_size]))) ?_
      intro _ w' a hM hF
      change Mem w w' [some (b1, algC (p : Int) (n : Int) T f), some (b2, algC (p : Int) (m : Int) U h), some (b3, algC (p : Int) ((n + m : Nat) : Int) (sumT n m T U (m) (0) (0)) (sumF n f h (m))), some (b5, algC (p : Int) ((n + m : Nat) : Int) (sumT n m T U (m) (0) (0)) (sumF n f h (m)))] [] at hM
      refine st hF (g_assign hF rfl) rfl fun a hF => ?_
      refine wpList_nil ?_
      refine tN ?_
      refine wp_ret ?_
      refine fin2 rfl hF.defers (res_agg ty_ag_32 hF rfl (hM.row 2 rfl) (by simp only [fnC_size, cells_size, vecC_size, tabC_size, planeC_size])) (res_tmp hF rfl) ⟨_, rfl, hM.below, ?_⟩
      show _ = _
      rfl

theorem law_AddAlgebrasE (p n q m : Int) (T U : Nat → Nat → Nat → Nat) (f h : Nat → Nat) (w : World) (hT : ∀ i j k, T i j k ≤ 255) (hf : ∀ i, f i ≤ 255) (hU : ∀ i j k, U i j k ≤ 255) (hh : ∀ i, h i ≤ 255) (hco : (if AlgP p n T f ∧ AlgP q m U h then (if p = q then (if (IntKind.i64.wrap (n + m)) ≤ 6 then (0 : Int) else 3) else 2) else 1) ≠ 0) :
    CallsR Try.prog 4 #[.agg (algC p n T f), .agg (algC q m U h)] w (fun res _ => res = .bool true) := by
  refine calls_fr [.agg (algC p n T f), .agg (algC q m U h)] Try.func4 rfl Try.ntmps4 rfl fun a hF => ?_
  have hM : Mem w w [none, none, none, none] [] := MemX.start w 4
  change Fr 34 a [(0, .agg (algC p n T f)), (1, .agg (algC q m U h))] at hF
  have eqlaw : (0 : Int) = (0 : Int) ∧ (0 : Int) = (0 : Int) ∧ eqT (fun _ _ _ => 0) (fun _ _ _ => 0) ∧ eqV 6 (fun _ => 0) (fun _ => 0) := ⟨rfl, rfl, fun _ _ _ _ _ _ => rfl, fun _ _ => rfl⟩
  refine sq ?_
  refine wp_region_lit ?_
  refine stR hF (d_box 0 hM hF rfl) rfl ?_
  rintro _ w' a ⟨b1, rfl, hM, -⟩ hF
  change Mem w w' [some (b1, algC p n T f), none, none, none] [] at hM
  refine stR hF (d_box 1 hM hF rfl) rfl ?_
  rintro _ w' a ⟨b2, rfl, hM, -⟩ hF
  change Mem w w' [some (b1, algC p n T f), some (b2, algC q m U h), none, none] [] at hM
  refine st hF (g_assign hF rfl) rfl fun a hF => ?_
  refine wpList_nil ?_
  refine tN ?_
  refine sq ?_
  refine c_drawG (S := ParG [] w [] [2] [some (b1, algC p n T f), some (b2, algC q m U h), none, none] 2 (algC 0 0 (fun _ _ _ => 0) (fun _ => 0)) (algC 0 0 (fun _ _ _ => 0) (fun _ => 0))) 10 9 hmix rfl rfl rfl hF rfl (fun j o hj hne => dstAll_spec (s := 9) (i := 0) rfl j o hj (by omega)) [some (b1, algC p n T f), some (b2, algC q m U h), none, none] ⟨⟨hM, Same.refl _ _⟩, fun b cs h => by simp at h⟩ (fun b g w h => ⟨⟨h.1.1.ext (Below.drew (Below.refl _ _)), h.1.2⟩, h.2⟩) (factsG 2 [.val (.agg (algC p n T f)), .val (.agg (algC p n T f)), .val (.agg (algC q m U h)), .val (.agg (algC q m U h)), .val (.tuple #[.agg (algC 0 0 (fun _ _ _ => 0) (fun _ => 0)), .int .i64 ((if AlgP p n T f ∧ AlgP q m U h then (if p = q then (if (IntKind.i64.wrap (n + m)) ≤ 6 then (0 : Int) else 3) else 2) else 1))]), .val (.tuple #[.agg (algC 0 0 (fun _ _ _ => 0) (fun _ => 0)), .int .i64 ((if AlgP p n T f ∧ AlgP q m U h then (if p = q then (if (IntKind.i64.wrap (n + m)) ≤ 6 then (0 : Int) else 3) else 2) else 1))]), .val (.agg (algC 0 0 (fun _ _ _ => 0) (fun _ => 0))), .val (.int .i64 ((if AlgP p n T f ∧ AlgP q m U h then (if p = q then (if (IntKind.i64.wrap (n + m)) ≤ 6 then (0 : Int) else 3) else 2) else 1))), .own 2 (algC 0 0 (fun _ _ _ => 0) (fun _ => 0)) (fun b => ptr b 0), .val undef]) ⟨fun a w2 b g hF hS hb hd => by have hM := hS.1.mem rfl; exact pg_val hS rfl (g_loadAgg ty_ag_26 hF rfl (hM.row 0 rfl) (by simp only [fnC_size, cells_size, vecC_size, tabC_size, planeC_size] <;> omega) (whole cells_size)), fun a w2 b g hF hS hb hd => by have hF := hF.ext1 10 (hd 0 rfl rfl rfl); exact pg_call hS rfl (d_call Try.call17 hF (.cons rfl .nil) (toAlgebra_ok p n T f _)), fun a w2 b g hF hS hb hd => by have hM := hS.1.mem rfl; exact pg_val hS rfl (g_loadAgg ty_ag_26 hF rfl (hM.row 1 rfl) (by simp only [fnC_size, cells_size, vecC_size, tabC_size, planeC_size] <;> omega) (whole cells_size)), fun a w2 b g hF hS hb hd => by have hF := hF.ext1 12 (hd 2 rfl rfl rfl); exact pg_call hS rfl (d_call Try.call17 hF (.cons rfl .nil) (toAlgebra_ok q m U h _)), fun a w2 b g hF hS hb hd => by have hF := hF.ext1 11 (hd 1 rfl rfl rfl); have hF := hF.ext1 13 (hd 3 rfl rfl rfl); exact pg_call hS rfl (d_call Try.call22 hF (.cons rfl (.cons rfl .nil)) (AddAlgebrasSE p n q m T U f h _ hT hf hU hh hco)), fun a w2 b g hF hS hb hd => by have hF := hF.ext1 14 (hd 4 rfl rfl rfl); exact pg_val hS rfl (g_move hF rfl), fun a w2 b g hF hS hb hd => by have hF := hF.ext1 9 (hd 5 rfl rfl rfl); exact pg_val hS rfl (g_extract hF rfl rfl), fun a w2 b g hF hS hb hd => by have hF := hF.ext1 9 (hd 5 rfl rfl rfl); exact pg_val hS rfl (g_extract hF rfl rfl), fun a w2 b g hF hS hb hd => by obtain rfl := hb rfl; exact pg_own hS rfl rfl rfl rfl (d_alloc 2 hS.1.1 ty_ze_32), fun a w2 g hF hS hd => by have hF := hF.ext1 15 (hd 6 rfl rfl rfl); exact pg_store (ia := 8) hS rfl rfl rfl (hd 8 rfl rfl rfl) (fun b hptr hM hL => by have hF := hF.ext1 5 hptr; exact d_storeAgg 2 hM hL ty_sz_32 hF rfl rfl (by first | exact vecC_one | exact cells_one | (refine fnC_one fun _ _ => ?_; first | rfl | (split <;> rfl))) (by simp only [fnC_size, cells_size, vecC_size, tabC_size, planeC_size]) (by simp only [fnC_size, cells_size, vecC_size, tabC_size, planeC_size] <;> omega) (splice_whole _ _ (by simp only [fnC_size, cells_size, vecC_size, tabC_size, planeC_size]))), trivial⟩ ?_
  intro a w' L hF hS hq
  have hF := hF.ext1 10 (hq 0 rfl rfl rfl)
  have hF := hF.ext1 11 (hq 1 rfl rfl rfl)
  have hF := hF.ext1 12 (hq 2 rfl rfl rfl)
  have hF := hF.ext1 13 (hq 3 rfl rfl rfl)
  have hF := hF.ext1 14 (hq 4 rfl rfl rfl)
  have hF := hF.ext1 9 (hq 5 rfl rfl rfl)
  have hF := hF.ext1 15 (hq 6 rfl rfl rfl)
  have hF := hF.ext1 16 (hq 7 rfl rfl rfl)
  obtain ⟨b3, cs4, hptr, hkk⟩ := hq 8 rfl rfl rfl
  obtain rfl : cs4 = algC 0 0 (fun _ _ _ => 0) (fun _ => 0) := hS.2 _ _ hkk
  have hF := hF.ext1 5 hptr
  obtain ⟨⟨hM, hL⟩, -⟩ := hS
  have hL := hL.take hkk
  obtain rfl := hL.eq
  change Mem w w' [some (b1, algC p n T f), some (b2, algC q m U h), some (b3, algC 0 0 (fun _ _ _ => 0) (fun _ => 0)), none] [] at hM
  change wpList Try.prog _ _ [_] _ _
  refine st hF (g_assign hF rfl) rfl fun a hF => ?_
  refine wpList_nil ?_
  refine tN ?_
  refine sq ?_
  refine c_drawG (S := ParG [] w [] [3] [some (b1, algC p n T f), some (b2, algC q m U h), some (b3, algC 0 0 (fun _ _ _ => 0) (fun _ => 0)), none] 3 (algC 0 0 (fun _ _ _ => 0) (fun _ => 0)) (algC 0 0 (fun _ _ _ => 0) (fun _ => 0))) 10 9 hmix rfl rfl rfl hF rfl (fun j o hj hne => dstAll_spec (s := 9) (i := 0) rfl j o hj (by omega)) [some (b1, algC p n T f), some (b2, algC q m U h), some (b3, algC 0 0 (fun _ _ _ => 0) (fun _ => 0)), none] ⟨⟨hM, Same.refl _ _⟩, fun b cs h => by simp at h⟩ (fun b g w h => ⟨⟨h.1.1.ext (Below.drew (Below.refl _ _)), h.1.2⟩, h.2⟩) (factsG 3 [.val (.agg (algC p n T f)), .val (.agg (algC p n T f)), .val (.agg (algC q m U h)), .val (.agg (algC q m U h)), .val (.tuple #[.agg (algC 0 0 (fun _ _ _ => 0) (fun _ => 0)), .int .i64 ((if AlgP p n T f ∧ AlgP q m U h then (if p = q then (if (IntKind.i64.wrap (n + m)) ≤ 6 then (0 : Int) else 3) else 2) else 1))]), .val (.tuple #[.agg (algC 0 0 (fun _ _ _ => 0) (fun _ => 0)), .int .i64 ((if AlgP p n T f ∧ AlgP q m U h then (if p = q then (if (IntKind.i64.wrap (n + m)) ≤ 6 then (0 : Int) else 3) else 2) else 1))]), .val (.agg (algC 0 0 (fun _ _ _ => 0) (fun _ => 0))), .val (.int .i64 ((if AlgP p n T f ∧ AlgP q m U h then (if p = q then (if (IntKind.i64.wrap (n + m)) ≤ 6 then (0 : Int) else 3) else 2) else 1))), .own 3 (algC 0 0 (fun _ _ _ => 0) (fun _ => 0)) (fun b => ptr b 0), .val undef]) ⟨fun a w2 b g hF hS hb hd => by have hM := hS.1.mem rfl; exact pg_val hS rfl (g_loadAgg ty_ag_26 hF rfl (hM.row 0 rfl) (by simp only [fnC_size, cells_size, vecC_size, tabC_size, planeC_size] <;> omega) (whole cells_size)), fun a w2 b g hF hS hb hd => by have hF := hF.ext1 18 (hd 0 rfl rfl rfl); exact pg_call hS rfl (d_call Try.call17 hF (.cons rfl .nil) (toAlgebra_ok p n T f _)), fun a w2 b g hF hS hb hd => by have hM := hS.1.mem rfl; exact pg_val hS rfl (g_loadAgg ty_ag_26 hF rfl (hM.row 1 rfl) (by simp only [fnC_size, cells_size, vecC_size, tabC_size, planeC_size] <;> omega) (whole cells_size)), fun a w2 b g hF hS hb hd => by have hF := hF.ext1 20 (hd 2 rfl rfl rfl); exact pg_call hS rfl (d_call Try.call17 hF (.cons rfl .nil) (toAlgebra_ok q m U h _)), fun a w2 b g hF hS hb hd => by have hF := hF.ext1 19 (hd 1 rfl rfl rfl); have hF := hF.ext1 21 (hd 3 rfl rfl rfl); exact pg_call hS rfl (d_call Try.call23 hF (.cons rfl (.cons rfl .nil)) (AddAlgebrasIE p n q m T U f h _ hT hf hU hh hco)), fun a w2 b g hF hS hb hd => by have hF := hF.ext1 22 (hd 4 rfl rfl rfl); exact pg_val hS rfl (g_move hF rfl), fun a w2 b g hF hS hb hd => by have hF := hF.ext1 17 (hd 5 rfl rfl rfl); exact pg_val hS rfl (g_extract hF rfl rfl), fun a w2 b g hF hS hb hd => by have hF := hF.ext1 17 (hd 5 rfl rfl rfl); exact pg_val hS rfl (g_extract hF rfl rfl), fun a w2 b g hF hS hb hd => by obtain rfl := hb rfl; exact pg_own hS rfl rfl rfl rfl (d_alloc 3 hS.1.1 ty_ze_32), fun a w2 g hF hS hd => by have hF := hF.ext1 23 (hd 6 rfl rfl rfl); exact pg_store (ia := 8) hS rfl rfl rfl (hd 8 rfl rfl rfl) (fun b hptr hM hL => by have hF := hF.ext1 7 hptr; exact d_storeAgg 3 hM hL ty_sz_32 hF rfl rfl (by first | exact vecC_one | exact cells_one | (refine fnC_one fun _ _ => ?_; first | rfl | (split <;> rfl))) (by simp only [fnC_size, cells_size, vecC_size, tabC_size, planeC_size]) (by simp only [fnC_size, cells_size, vecC_size, tabC_size, planeC_size] <;> omega) (splice_whole _ _ (by simp only [fnC_size, cells_size, vecC_size, tabC_size, planeC_size]))), trivial⟩ ?_
  intro a w' L hF hS hq
  have hF := hF.ext1 18 (hq 0 rfl rfl rfl)
  have hF := hF.ext1 19 (hq 1 rfl rfl rfl)
  have hF := hF.ext1 20 (hq 2 rfl rfl rfl)
  have hF := hF.ext1 21 (hq 3 rfl rfl rfl)
  have hF := hF.ext1 22 (hq 4 rfl rfl rfl)
  have hF := hF.ext1 17 (hq 5 rfl rfl rfl)
  have hF := hF.ext1 23 (hq 6 rfl rfl rfl)
  have hF := hF.ext1 24 (hq 7 rfl rfl rfl)
  obtain ⟨b5, cs6, hptr, hkk⟩ := hq 8 rfl rfl rfl
  obtain rfl : cs6 = algC 0 0 (fun _ _ _ => 0) (fun _ => 0) := hS.2 _ _ hkk
  have hF := hF.ext1 7 hptr
  obtain ⟨⟨hM, hL⟩, -⟩ := hS
  have hL := hL.take hkk
  obtain rfl := hL.eq
  change Mem w w' [some (b1, algC p n T f), some (b2, algC q m U h), some (b3, algC 0 0 (fun _ _ _ => 0) (fun _ => 0)), some (b5, algC 0 0 (fun _ _ _ => 0) (fun _ => 0))] [] at hM
  change wpList Try.prog _ _ [_] _ _
  refine st hF (g_assign hF rfl) rfl fun a hF => ?_
  refine wpList_nil ?_
  refine tN ?_
  refine sq ?_
  refine sq ?_
  refine wp_region_lit ?_
  refine st hF (g_loadAgg ty_ag_32 hF rfl (hM.row 3 rfl) (by simp only [fnC_size, cells_size, vecC_size, tabC_size, planeC_size] <;> omega) (whole cells_size)) rfl fun a hF => st hF (g_loadAgg ty_ag_32 hF rfl (hM.row 2 rfl) (by simp only [fnC_size, cells_size, vecC_size, tabC_size, planeC_size] <;> omega) (whole cells_size)) rfl fun a hF => ?_
  refine stR hF (d_call Try.call24 hF (.cons rfl (.cons rfl .nil)) (eqAlgebra_ok 0 0 0 0 (fun _ _ _ => 0) (fun _ _ _ => 0) (fun _ => 0) (fun _ => 0) _)) rfl ?_
  rintro _ w' a ⟨hx, rfl⟩ hF
  have hM := hM.ext hx
  refine st hF (g_notP hF rfl) rfl fun a hF => st hF (g_move hF rfl) rfl fun a hF => ?_
  by_cases g7 : ¬ ((0 : Int) = (0 : Int) ∧ (0 : Int) = (0 : Int) ∧ eqT (fun _ _ _ => 0) (fun _ _ _ => 0) ∧ eqV 6 (fun _ => 0) (fun _ => 0))
  ·
    first | rw [decide_eq_true g7] at hF | simp only [decide_eq_true g7] at hF
    first | exact absurd rfl g7 | exact absurd eqlaw g7 | (exfalso; omega)
  ·
    first | rw [decide_eq_false g7] at hF | simp only [decide_eq_false g7] at hF
    refine stY hF rfl rfl rfl (g_move hF rfl) rfl fun a hF => stY hF rfl rfl rfl (g_move hF rfl) rfl fun a hF => stY hF rfl rfl rfl (g_neq hF rfl rfl) rfl fun a hF => st hF (g_pickF hF rfl rfl) rfl fun a hF => ?_
    refine wpList_nil ?_
    refine tN ?_
    refine c_cond hF rfl (fun h8 => ?_) (fun h8 => ?_)
    ·
      first | exact absurd rfl h8 | exact absurd eqlaw h8 | (exfalso; omega)
    ·
      refine wp_skip ?_
      refine tN ?_
      refine sq ?_
      refine wp_region_lit ?_
      refine st hF (g_assign hF rfl) rfl fun a hF => ?_
      refine wpList_nil ?_
      refine tN ?_
      refine wp_ret ?_
      refine fin1 rfl hF.defers (res_tmp hF rfl) ⟨_, rfl, hM.below, ?_⟩
      show _ = _
      rfl

theorem law_AddAlgebrasY (p n m : Nat) (T U : Nat → Nat → Nat → Nat) (f h : Nat → Nat) (w : World) (hT : ∀ i j k, T i j k ≤ 255) (hf : ∀ i, f i ≤ 255) (hU : ∀ i j k, U i j k ≤ 255) (hh : ∀ i, h i ≤ 255) (hn0 : 0 < n) (hm0 : 0 < m) (hnm : n + m ≤ 6) (h1 : AlgP (p : Int) (n : Int) T f) (h2 : AlgP (p : Int) (m : Int) U h) :
    CallsR Try.prog 4 #[.agg (algC (p : Int) (n : Int) T f), .agg (algC (p : Int) (m : Int) U h)] w (fun res _ => res = .bool true) := by
  refine calls_fr [.agg (algC (p : Int) (n : Int) T f), .agg (algC (p : Int) (m : Int) U h)] Try.func4 rfl Try.ntmps4 rfl fun a hF => ?_
  have hM : Mem w w [none, none, none, none] [] := MemX.start w 4
  change Fr 34 a [(0, .agg (algC (p : Int) (n : Int) T f)), (1, .agg (algC (p : Int) (m : Int) U h))] at hF
  have eqlaw : ((p : Int) : Int) = ((p : Int) : Int) ∧ (((n + m : Nat) : Int) : Int) = (((n + m : Nat) : Int) : Int) ∧ eqT (sumT n m T U m 0 0) (sumT n m T U m 0 0) ∧ eqV 6 (sumF n f h m) (sumF n f h m) := ⟨rfl, rfl, fun _ _ _ _ _ _ => rfl, fun _ _ => rfl⟩
  refine sq ?_
  refine wp_region_lit ?_
  refine stR hF (d_box 0 hM hF rfl) rfl ?_
  rintro _ w' a ⟨b1, rfl, hM, -⟩ hF
  change Mem w w' [some (b1, algC (p : Int) (n : Int) T f), none, none, none] [] at hM
  refine stR hF (d_box 1 hM hF rfl) rfl ?_
  rintro _ w' a ⟨b2, rfl, hM, -⟩ hF
  change Mem w w' [some (b1, algC (p : Int) (n : Int) T f), some (b2, algC (p : Int) (m : Int) U h), none, none] [] at hM
  refine st hF (g_assign hF rfl) rfl fun a hF => ?_
  refine wpList_nil ?_
  refine tN ?_
  refine sq ?_
  refine c_drawG (S := ParG [] w [] [2] [some (b1, algC (p : Int) (n : Int) T f), some (b2, algC (p : Int) (m : Int) U h), none, none] 2 (algC 0 0 (fun _ _ _ => 0) (fun _ => 0)) (algC (p : Int) ((n + m : Nat) : Int) (sumT n m T U m 0 0) (sumF n f h m))) 10 9 hmix rfl rfl rfl hF rfl (fun j o hj hne => dstAll_spec (s := 9) (i := 0) rfl j o hj (by omega)) [some (b1, algC (p : Int) (n : Int) T f), some (b2, algC (p : Int) (m : Int) U h), none, none] ⟨⟨hM, Same.refl _ _⟩, fun b cs h => by simp at h⟩ (fun b g w h => ⟨⟨h.1.1.ext (Below.drew (Below.refl _ _)), h.1.2⟩, h.2⟩) (factsG 2 [.val (.agg (algC (p : Int) (n : Int) T f)), .val (.agg (algC (p : Int) (n : Int) T f)), .val (.agg (algC (p : Int) (m : Int) U h)), .val (.agg (algC (p : Int) (m : Int) U h)), .val (.tuple #[.agg (algC (p : Int) ((n + m : Nat) : Int) (sumT n m T U m 0 0) (sumF n f h m)), .int .i64 (0)]), .val (.tuple #[.agg (algC (p : Int) ((n + m : Nat) : Int) (sumT n m T U m 0 0) (sumF n f h m)), .int .i64 (0)]), .val (.agg (algC (p : Int) ((n + m : Nat) : Int) (sumT n m T U m 0 0) (sumF n f h m))), .val (.int .i64 (0)), .own 2 (algC 0 0 (fun _ _ _ => 0) (fun _ => 0)) (fun b => ptr b 0), .val undef]) ⟨fun a w2 b g hF hS hb hd => by have hM := hS.1.mem rfl; exact pg_val hS rfl (g_loadAgg ty_ag_26 hF rfl (hM.row 0 rfl) (by simp only [fnC_size, cells_size, vecC_size, tabC_size, planeC_size] <;> omega) (whole cells_size)), fun a w2 b g hF hS hb hd => by have hF := hF.ext1 10 (hd 0 rfl rfl rfl); exact pg_call hS rfl (d_call Try.call17 hF (.cons rfl .nil) (toAlgebra_ok (p : Int) (n : Int) T f _)), fun a w2 b g hF hS hb hd => by have hM := hS.1.mem rfl; exact pg_val hS rfl (g_loadAgg ty_ag_26 hF rfl (hM.row 1 rfl) (by simp only [fnC_size, cells_size, vecC_size, tabC_size, planeC_size] <;> omega) (whole cells_size)), fun a w2 b g hF hS hb hd => by have hF := hF.ext1 12 (hd 2 rfl rfl rfl); exact pg_call hS rfl (d_call Try.call17 hF (.cons rfl .nil) (toAlgebra_ok (p : Int) (m : Int) U h _)), fun a w2 b g hF hS hb hd => by have hF := hF.ext1 11 (hd 1 rfl rfl rfl); have hF := hF.ext1 13 (hd 3 rfl rfl rfl); exact pg_call hS rfl (d_call Try.call22 hF (.cons rfl (.cons rfl .nil)) (AddAlgebrasSY p n m T U f h _ hT hf hU hh hn0 hm0 hnm h1 h2)), fun a w2 b g hF hS hb hd => by have hF := hF.ext1 14 (hd 4 rfl rfl rfl); exact pg_val hS rfl (g_move hF rfl), fun a w2 b g hF hS hb hd => by have hF := hF.ext1 9 (hd 5 rfl rfl rfl); exact pg_val hS rfl (g_extract hF rfl rfl), fun a w2 b g hF hS hb hd => by have hF := hF.ext1 9 (hd 5 rfl rfl rfl); exact pg_val hS rfl (g_extract hF rfl rfl), fun a w2 b g hF hS hb hd => by obtain rfl := hb rfl; exact pg_own hS rfl rfl rfl rfl (d_alloc 2 hS.1.1 ty_ze_32), fun a w2 g hF hS hd => by have hF := hF.ext1 15 (hd 6 rfl rfl rfl); exact pg_store (ia := 8) hS rfl rfl rfl (hd 8 rfl rfl rfl) (fun b hptr hM hL => by have hF := hF.ext1 5 hptr; exact d_storeAgg 2 hM hL ty_sz_32 hF rfl rfl (by first | exact vecC_one | exact cells_one | (refine fnC_one fun _ _ => ?_; first | rfl | (split <;> rfl))) (by simp only [fnC_size, cells_size, vecC_size, tabC_size, planeC_size]) (by simp only [fnC_size, cells_size, vecC_size, tabC_size, planeC_size] <;> omega) (splice_whole _ _ (by simp only [fnC_size, cells_size, vecC_size, tabC_size, planeC_size]))), trivial⟩ ?_
  intro a w' L hF hS hq
  have hF := hF.ext1 10 (hq 0 rfl rfl rfl)
  have hF := hF.ext1 11 (hq 1 rfl rfl rfl)
  have hF := hF.ext1 12 (hq 2 rfl rfl rfl)
  have hF := hF.ext1 13 (hq 3 rfl rfl rfl)
  have hF := hF.ext1 14 (hq 4 rfl rfl rfl)
  have hF := hF.ext1 9 (hq 5 rfl rfl rfl)
  have hF := hF.ext1 15 (hq 6 rfl rfl rfl)
  have hF := hF.ext1 16 (hq 7 rfl rfl rfl)
  obtain ⟨b3, cs4, hptr, hkk⟩ := hq 8 rfl rfl rfl
  obtain rfl : cs4 = algC (p : Int) ((n + m : Nat) : Int) (sumT n m T U m 0 0) (sumF n f h m) := hS.2 _ _ hkk
  have hF := hF.ext1 5 hptr
  obtain ⟨⟨hM, hL⟩, -⟩ := hS
  have hL := hL.take hkk
  obtain rfl := hL.eq
  change Mem w w' [some (b1, algC (p : Int) (n : Int) T f), some (b2, algC (p : Int) (m : Int) U h), some (b3, algC (p : Int) ((n + m : Nat) : Int) (sumT n m T U m 0 0) (sumF n f h m)), none] [] at hM
  change wpList Try.prog _ _ [_] _ _
  refine st hF (g_assign hF rfl) rfl fun a hF => ?_
  refine wpList_nil ?_
  refine tN ?_
  refine sq ?_
  refine c_drawG (S := ParG [] w [] [3] [some (b1, algC (p : Int) (n : Int) T f), some (b2, algC (p : Int) (m : Int) U h), some (b3, algC (p : Int) ((n + m : Nat) : Int) (sumT n m T U m 0 0) (sumF n f h m)), none] 3 (algC 0 0 (fun _ _ _ => 0) (fun _ => 0)) (algC (p : Int) ((n + m : Nat) : Int) (sumT n m T U m 0 0) (sumF n f h m))) 10 9 hmix rfl rfl rfl hF rfl (fun j o hj hne => dstAll_spec (s := 9) (i := 0) rfl j o hj (by omega)) [some (b1, algC (p : Int) (n : Int) T f), some (b2, algC (p : Int) (m : Int) U h), some (b3, algC (p : Int) ((n + m : Nat) : Int) (sumT n m T U m 0 0) (sumF n f h m)), none] ⟨⟨hM, Same.refl _ _⟩, fun b cs h => by simp at h⟩ (fun b g w h => ⟨⟨h.1.1.ext (Below.drew (Below.refl _ _)), h.1.2⟩, h.2⟩) (factsG 3 [.val (.agg (algC (p : Int) (n : Int) T f)), .val (.agg (algC (p : Int) (n : Int) T f)), .val (.agg (algC (p : Int) (m : Int) U h)), .val (.agg (algC (p : Int) (m : Int) U h)), .val (.tuple #[.agg (algC (p : Int) ((n + m : Nat) : Int) (sumT n m T U m 0 0) (sumF n f h m)), .int .i64 (0)]), .val (.tuple #[.agg (algC (p : Int) ((n + m : Nat) : Int) (sumT n m T U m 0 0) (sumF n f h m)), .int .i64 (0)]), .val (.agg (algC (p : Int) ((n + m : Nat) : Int) (sumT n m T U m 0 0) (sumF n f h m))), .val (.int .i64 (0)), .own 3 (algC 0 0 (fun _ _ _ => 0) (fun _ => 0)) (fun b => ptr b 0), .val undef]) ⟨fun a w2 b g hF hS hb hd => by have hM := hS.1.mem rfl; exact pg_val hS rfl (g_loadAgg ty_ag_26 hF rfl (hM.row 0 rfl) (by simp only [fnC_size, cells_size, vecC_size, tabC_size, planeC_size] <;> omega) (whole cells_size)), fun a w2 b g hF hS hb hd => by have hF := hF.ext1 18 (hd 0 rfl rfl rfl); exact pg_call hS rfl (d_call Try.call17 hF (.cons rfl .nil) (toAlgebra_ok (p : Int) (n : Int) T f _)), fun a w2 b g hF hS hb hd => by have hM := hS.1.mem rfl; exact pg_val hS rfl (g_loadAgg ty_ag_26 hF rfl (hM.row 1 rfl) (by simp only [fnC_size, cells_size, vecC_size, tabC_size, planeC_size] <;> omega) (whole cells_size)), fun a w2 b g hF hS hb hd => by have hF := hF.ext1 20 (hd 2 rfl rfl rfl); exact pg_call hS rfl (d_call Try.call17 hF (.cons rfl .nil) (toAlgebra_ok (p : Int) (m : Int) U h _)), fun a w2 b g hF hS hb hd => by have hF := hF.ext1 19 (hd 1 rfl rfl rfl); have hF := hF.ext1 21 (hd 3 rfl rfl rfl); exact pg_call hS rfl (d_call Try.call23 hF (.cons rfl (.cons rfl .nil)) (AddAlgebrasIY p n m T U f h _ hT hf hU hh hn0 hm0 hnm h1 h2)), fun a w2 b g hF hS hb hd => by have hF := hF.ext1 22 (hd 4 rfl rfl rfl); exact pg_val hS rfl (g_move hF rfl), fun a w2 b g hF hS hb hd => by have hF := hF.ext1 17 (hd 5 rfl rfl rfl); exact pg_val hS rfl (g_extract hF rfl rfl), fun a w2 b g hF hS hb hd => by have hF := hF.ext1 17 (hd 5 rfl rfl rfl); exact pg_val hS rfl (g_extract hF rfl rfl), fun a w2 b g hF hS hb hd => by obtain rfl := hb rfl; exact pg_own hS rfl rfl rfl rfl (d_alloc 3 hS.1.1 ty_ze_32), fun a w2 g hF hS hd => by have hF := hF.ext1 23 (hd 6 rfl rfl rfl); exact pg_store (ia := 8) hS rfl rfl rfl (hd 8 rfl rfl rfl) (fun b hptr hM hL => by have hF := hF.ext1 7 hptr; exact d_storeAgg 3 hM hL ty_sz_32 hF rfl rfl (by first | exact vecC_one | exact cells_one | (refine fnC_one fun _ _ => ?_; first | rfl | (split <;> rfl))) (by simp only [fnC_size, cells_size, vecC_size, tabC_size, planeC_size]) (by simp only [fnC_size, cells_size, vecC_size, tabC_size, planeC_size] <;> omega) (splice_whole _ _ (by simp only [fnC_size, cells_size, vecC_size, tabC_size, planeC_size]))), trivial⟩ ?_
  intro a w' L hF hS hq
  have hF := hF.ext1 18 (hq 0 rfl rfl rfl)
  have hF := hF.ext1 19 (hq 1 rfl rfl rfl)
  have hF := hF.ext1 20 (hq 2 rfl rfl rfl)
  have hF := hF.ext1 21 (hq 3 rfl rfl rfl)
  have hF := hF.ext1 22 (hq 4 rfl rfl rfl)
  have hF := hF.ext1 17 (hq 5 rfl rfl rfl)
  have hF := hF.ext1 23 (hq 6 rfl rfl rfl)
  have hF := hF.ext1 24 (hq 7 rfl rfl rfl)
  obtain ⟨b5, cs6, hptr, hkk⟩ := hq 8 rfl rfl rfl
  obtain rfl : cs6 = algC (p : Int) ((n + m : Nat) : Int) (sumT n m T U m 0 0) (sumF n f h m) := hS.2 _ _ hkk
  have hF := hF.ext1 7 hptr
  obtain ⟨⟨hM, hL⟩, -⟩ := hS
  have hL := hL.take hkk
  obtain rfl := hL.eq
  change Mem w w' [some (b1, algC (p : Int) (n : Int) T f), some (b2, algC (p : Int) (m : Int) U h), some (b3, algC (p : Int) ((n + m : Nat) : Int) (sumT n m T U m 0 0) (sumF n f h m)), some (b5, algC (p : Int) ((n + m : Nat) : Int) (sumT n m T U m 0 0) (sumF n f h m))] [] at hM
  change wpList Try.prog _ _ [_] _ _
  refine st hF (g_assign hF rfl) rfl fun a hF => ?_
  refine wpList_nil ?_
  refine tN ?_
  refine sq ?_
  refine sq ?_
  refine wp_region_lit ?_
  refine st hF (g_loadAgg ty_ag_32 hF rfl (hM.row 3 rfl) (by simp only [fnC_size, cells_size, vecC_size, tabC_size, planeC_size] <;> omega) (whole cells_size)) rfl fun a hF => st hF (g_loadAgg ty_ag_32 hF rfl (hM.row 2 rfl) (by simp only [fnC_size, cells_size, vecC_size, tabC_size, planeC_size] <;> omega) (whole cells_size)) rfl fun a hF => ?_
  refine stR hF (d_call Try.call24 hF (.cons rfl (.cons rfl .nil)) (eqAlgebra_ok (p : Int) ((n + m : Nat) : Int) (p : Int) ((n + m : Nat) : Int) (sumT n m T U m 0 0) (sumT n m T U m 0 0) (sumF n f h m) (sumF n f h m) _)) rfl ?_
  rintro _ w' a ⟨hx, rfl⟩ hF
  have hM := hM.ext hx
  refine st hF (g_notP hF rfl) rfl fun a hF => st hF (g_move hF rfl) rfl fun a hF => ?_
  by_cases g7 : ¬ (((p : Int) : Int) = ((p : Int) : Int) ∧ (((n + m : Nat) : Int) : Int) = (((n + m : Nat) : Int) : Int) ∧ eqT (sumT n m T U m 0 0) (sumT n m T U m 0 0) ∧ eqV 6 (sumF n f h m) (sumF n f h m))
  ·
    first | rw [decide_eq_true g7] at hF | simp only [decide_eq_true g7] at hF
    first | exact absurd rfl g7 | exact absurd eqlaw g7 | (exfalso; omega)
  ·
    first | rw [decide_eq_false g7] at hF | simp only [decide_eq_false g7] at hF
    refine stY hF rfl rfl rfl (g_move hF rfl) rfl fun a hF => stY hF rfl rfl rfl (g_move hF rfl) rfl fun a hF => stY hF rfl rfl rfl (g_neq hF rfl rfl) rfl fun a hF => st hF (g_pickF hF rfl rfl) rfl fun a hF => ?_
    refine wpList_nil ?_
    refine tN ?_
    refine c_kF hF rfl (by decide) ?_
    refine wp_skip ?_
    refine tN ?_
    refine sq ?_
    refine wp_region_lit ?_
    refine st hF (g_assign hF rfl) rfl fun a hF => ?_
    refine wpList_nil ?_
    refine tN ?_
    refine wp_ret ?_
    refine fin1 rfl hF.defers (res_tmp hF rfl) ⟨_, rfl, hM.below, ?_⟩
    show _ = _
    rfl

theorem law_AddAlgebras (p n : Int) (T : Nat → Nat → Nat → Nat) (f : Nat → Nat) (q m : Int) (U : Nat → Nat → Nat → Nat) (h : Nat → Nat) (w : World) (hT : ∀ i j k, T i j k ≤ 255) (hf : ∀ i, f i ≤ 255) (hU : ∀ i j k, U i j k ≤ 255) (hh : ∀ i, h i ≤ 255) : CallsV Try.prog 4 #[.agg (algC p n T f), .agg (algC q m U h)] w (.bool true) := by
  by_cases hA : AlgP p n T f ∧ AlgP q m U h
  · by_cases hq : p = q
    · by_cases hz : IntKind.i64.wrap (n + m) ≤ 6
      · subst hq
        have hs := hA.1.1
        have hs2 := hA.2.1
        have hp0 := primeP_pos hs.1
        have hn := hs.2.1
        have hm := hs2.2.1
        have e1 : ((p.toNat : Nat) : Int) = p := by omega
        have e2 : ((n.toNat : Nat) : Int) = n := by omega
        have e3 : ((m.toNat : Nat) : Int) = m := by omega
        rw [wrap_i64 (by omega) (by omega)] at hz
        have hy := law_AddAlgebrasY p.toNat n.toNat m.toNat (trunc n.toNat T) (trunc m.toNat U) f h w (fun i j k => Nat.le_of_lt (Nat.lt_of_lt_of_le (trunc_lt hs i j k) (by have := (primeN_of hs.1).le; omega))) hf (fun i j k => Nat.le_of_lt (Nat.lt_of_lt_of_le (trunc_lt hs2 i j k) (by have := (primeN_of hs.1).le; omega))) hh (by omega) (by omega) (by omega) (by rw [e1, e2]; exact ⟨shape_trunc hs, by rw [trunc_idem]; exact hA.1.2⟩) (by rw [e1, e3]; exact ⟨shape_trunc hs2, by rw [trunc_idem]; exact hA.2.2⟩)
        rw [e1, e2, e3, ← algC_trunc hs, ← algC_trunc hs2] at hy
        exact hy
      · exact law_AddAlgebrasE p n q m T U f h w hT hf hU hh (by rw [if_pos hA, if_pos hq, if_neg hz]; decide)
    · exact law_AddAlgebrasE p n q m T U f h w hT hf hU hh (by rw [if_pos hA, if_neg hq]; decide)
  · exact law_AddAlgebrasE p n q m T U f h w hT hf hU hh (by rw [if_neg hA]; decide)

end Go.Proofs.Ytclfbjfgmocbhaa
