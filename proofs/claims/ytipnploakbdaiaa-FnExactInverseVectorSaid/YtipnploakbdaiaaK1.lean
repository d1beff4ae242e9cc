/- What functions of the program return, as walks over their operations; no statement of the seat is proved here. -/
import Derived.Test.YtipnploakbdaiaaH8
import Derived.Test.YtipnploakbdaiaaSw23
set_option linter.unusedVariables false
set_option linter.unusedSimpArgs false
namespace Go.Proofs.Ytipnploakbdaiaa
open Go Go.RowKit Go.Sw Go.Ech
open Classical
theorem ty_us_76 : Try.prog.underlying 76 = some (.slice 28) := by kernel_rfl
theorem ty_sl_76 : sliceOf Try.prog 76 = some 6 := by kernel_rfl
theorem ty_bsg_76_1 : ∀ (v0 : Nat → Nat) (w : World), (Instr.buildSlice 76 1 #[(0, .agg (vecC v0))]).run Try.prog w = .ok (.slice (some ⟨w.heap.size, 0, none⟩) 1 1) (w.alloc (.cells (vecsC 1 (vAtL [v0])) 28)) := by intros; kernel_rfl
theorem ty_bsg_76_2 : ∀ (v0 v1 : Nat → Nat) (w : World), (Instr.buildSlice 76 2 #[(0, .agg (vecC v0)), (1, .agg (vecC v1))]).run Try.prog w = .ok (.slice (some ⟨w.heap.size, 0, none⟩) 2 2) (w.alloc (.cells (vecsC 2 (vAtL [v0, v1])) 28)) := by intros; kernel_rfl
def CodeP (p n : Int) (T : Nat → Nat → Nat → Nat) (f : Nat → Nat) (m : Nat) (V : Nat → Nat → Nat) : Prop := AlgP p n T f ∧ ∀ i, i < m → okV p n (V i)
theorem vAtL_le {l : List (Nat → Nat)} (h : ∀ v ∈ l, ∀ c, v c ≤ 255) : ∀ i c, vAtL l i c ≤ 255 := fun i c => by
  unfold vAtL
  rw [List.getD_eq_getElem?_getD]
  cases e : l[i]? with
  | none => simp
  | some v => exact h v (List.mem_of_getElem? e) c

theorem l01Vector_ok (p n : Int) (T : Nat → Nat → Nat → Nat) (f v : Nat → Nat) (w : World) (hv : ∀ i, v i ≤ 255) :
    CallsR Try.prog 76 #[.agg (algC p n T f), .agg (vecC v)] w (fun res _ => res = .bool (decide (okV p n v))) := by
  refine calls_fr [.agg (algC p n T f), .agg (vecC v)] Try.func76 rfl Try.ntmps76 rfl fun a hF => ?_
  have hM : Mem w w [none, none] [] := MemX.start w 2
  change Fr 11 a [(0, .agg (algC p n T f)), (1, .agg (vecC v))] at hF
  refine sq ?_
  refine wp_region_lit ?_
  refine stR hF (d_box 0 hM hF rfl) rfl ?_
  rintro _ w' a ⟨b1, rfl, hM, -⟩ hF
  change Mem w w' [some (b1, algC p n T f), none] [] at hM
  refine stR hF (d_box 1 hM hF rfl) rfl ?_
  rintro _ w' a ⟨b2, rfl, hM, -⟩ hF
  change Mem w w' [some (b1, algC p n T f), some (b2, vecC v)] [] at hM
  refine st hF (g_assign hF rfl) rfl fun a hF => ?_
  refine wpList_nil ?_
  refine tN ?_
  refine sq ?_
  refine wp_region_lit ?_
  refine st hF (g_fieldAddr ty_fo_30_0 hF rfl) rfl fun a hF => st hF (g_load ty_on_2 hF rfl (hM.row 0 rfl) (algC_p (by omega))) rfl fun a hF => st hF (g_fieldAddr ty_fo_30_1 hF rfl) rfl fun a hF => st hF (g_load ty_on_2 hF rfl (hM.row 0 rfl) (algC_n (by omega))) rfl fun a hF => st hF (g_loadAgg ty_ag_28 hF rfl (hM.row 1 rfl) (by simp only [fnC_size, cells_size, vecC_size, tabC_size, planeC_size] <;> omega) (whole (by simp only [fnC_size, cells_size, vecC_size, tabC_size, planeC_size]))) rfl fun a hF => ?_
  refine stR hF (d_call Try.call85 hF (.cons rfl (.cons rfl (.cons rfl .nil))) (l01Small_ok (p) (n) (v) _ (fun _ => by first | exact hv _ | exact hu _ | exact hT _ _ _ | exact hf _ | omega | (split <;> omega) | (dsimp only; split <;> omega) | assumption))) rfl ?_
  rintro _ w' a ⟨hx, rfl⟩ hF
  have hM := hM.ext hx
  refine st hF (g_assign hF rfl) rfl fun a hF => ?_
  refine wpList_nil ?_
  refine tN ?_
  refine wp_ret ?_
  refine fin1 rfl hF.defers (res_tmp hF rfl) ⟨_, rfl, hM.below, ?_⟩
  show _ = _
  rfl

theorem l01Code_ok (p n : Int) (T : Nat → Nat → Nat → Nat) (f : Nat → Nat) (b c m : Nat) (V : Nat → Nat → Nat) (w : World) (hT : ∀ i j k, T i j k ≤ 255) (hf : ∀ i, f i ≤ 255) (hV : ∀ i c, V i c ≤ 255) (hm : m < 1000) (hb : Blk w b (vecsC m V)) :
    CallsR Try.prog 50 #[.agg (algC p n T f), .slice (some ⟨b, 0, none⟩) (m) (c)] w (fun res _ => res = .int .i64 (if CodeP p n T f m V then 0 else 1)) := by
  refine calls_fr [.agg (algC p n T f), .slice (some ⟨b, 0, none⟩) (m) (c)] Try.func50 rfl Try.ntmps50 rfl fun a hF => ?_
  have hM : Mem w w [none] [(b, vecsC m V)] := MemX.startD w 1 _ (startD1 hb)
  change Fr 22 a [(0, .agg (algC p n T f)), (1, .slice (some ⟨b, 0, none⟩) (m) (c))] at hF
  refine sq ?_
  refine wp_region_lit ?_
  refine stR hF (d_box 0 hM hF rfl) rfl ?_
  rintro _ w' a ⟨b1, rfl, hM, -⟩ hF
  change Mem w w' [some (b1, algC p n T f)] [(b, vecsC m V)] at hM
  refine st hF (g_assign hF rfl) rfl fun a hF => ?_
  refine wpList_nil ?_
  refine tN ?_
  refine sq ?_
  refine sq ?_
  refine wp_region_lit ?_
  refine st hF (g_loadAgg ty_ag_30 hF rfl (hM.row 0 rfl) (by simp only [fnC_size, cells_size, vecC_size, tabC_size, planeC_size] <;> omega) (whole cells_size)) rfl fun a hF => ?_
  refine stR hF (d_call Try.call43 hF (.cons rfl .nil) (l01Algebra_ok p n T f _ (fun _ _ _ => hT _ _ _) (fun _ => hf _))) rfl ?_
  rintro _ w' a ⟨hx, rfl⟩ hF
  have hM := hM.ext hx
  refine st hF (g_notP hF rfl) rfl fun a hF => ?_
  refine wpList_nil ?_
  refine tN ?_
  refine c_cond hF rfl (fun h2 => ?_) (fun h2 => ?_)
  ·
    refine sq ?_
    refine wp_region_lit ?_
    refine st hF (g_assign hF rfl) rfl fun a hF => ?_
    refine wpList_nil ?_
    refine tN ?_
    refine wp_ret ?_
    refine tR ?_
    refine fin1 rfl hF.defers (res_tmp hF rfl) ⟨_, rfl, hM.below, ?_⟩
    show _ = _
    rw [if_neg (fun hq => (by assumption : ¬ AlgP _ _ _ _) hq.1)]
  ·
    refine wp_skip ?_
    refine tN ?_
    refine sq ?_
    refine sq ?_
    refine wp_region_lit ?_
    refine st hF (g_assign hF rfl) rfl fun a hF => ?_
    refine wpList_nil ?_
    refine tN ?_
    refine wp_block ?_
    change Mem w _ [some (b1, algC p n T f)] [(b, vecsC m V)] at hM
    refine c_loop (fun (kk : Nat) a w' => kk ≤ m ∧ (∀ i, i < kk → okV p n (V i)) ∧ Fr 22 a [(0, .agg (algC p n T f)), (1, .slice (some ⟨b, 0, none⟩) (m) (c)), (2, ptr b1 (0)), (6, .agg (algC p n T f)), (7, .bool (decide (AlgP p n T f))), (8, .bool (decide (¬ (AlgP p n T f)))), (5, .int .i64 (((kk : Nat) : Int)))] ∧ Mem w w' [some (b1, algC p n T f)] [(b, vecsC m V)]) (fun kk => m - kk) 0 ?_ ?_
    ·
      refine ⟨by omega, fun i hi => absurd hi (by omega), hF.sub _ (by repeat' constructor), ?_⟩
      exact hM
    ·
      clear hF hM
      rintro gi a w' ⟨hgi, hinv1, hF, hM⟩
      have hv : ∀ c, V gi c ≤ 255 := hV gi
      refine sq ?_
      refine sq ?_
      refine wp_region_lit ?_
      refine st hF (g_move hF rfl) rfl fun a hF => st hF (g_move hF rfl) rfl fun a hF => st hF (g_len ty_us_76 hF rfl) rfl fun a hF => st hF (g_lss hF rfl rfl) rfl fun a hF => ?_
      refine wpList_nil ?_
      refine tN ?_
      refine c_cond hF rfl (fun h3 => ?_) (fun h3 => ?_)
      ·
        refine wp_skip ?_
        refine tN ?_
        refine sq ?_
        refine wp_block ?_
        refine sq ?_
        refine c_par 5 [] [.val (.agg (algC p n T f)), .val (.slice (some ⟨b, 0, none⟩) (m) (c)), .val (.int .i64 (((gi : Nat) : Int))), .val (ptr b (0 + (gi) * 6)), .val (.agg (vecC (V (gi))))] hmix rfl hF rfl hM ⟨fun a w g hF hS hd => by have hM := hS.mem rfl; exact par_val hS rfl (g_loadAgg ty_ag_30 hF rfl (hM.row 0 rfl) (by simp only [fnC_size, cells_size, vecC_size, tabC_size, planeC_size] <;> omega) (whole cells_size)), fun a w g hF hS hd => by exact par_val hS rfl (g_move hF rfl), fun a w g hF hS hd => by exact par_val hS rfl (g_move hF rfl), fun a w g hF hS hd => by have hF := hF.ext1 16 (hd 1 rfl rfl); have hF := hF.ext1 17 (hd 2 rfl rfl); exact par_val hS rfl (g_indexSl (i := gi) ty_sl_76 hF rfl rfl rfl (by omega)), fun a w g hF hS hd => by have hF := hF.ext1 18 (hd 3 rfl rfl); have hM := hS.mem rfl; exact par_val hS rfl (g_loadAgg ty_ag_28 hF rfl (hM.fz 0 rfl) (by rw [vecsC_size]; omega) (vecsC_row (gi) (by omega) (by omega) (by omega))), trivial⟩ ?_
        intro a w' L hF hS hq
        have hF := hF.ext1 15 (hq 0 rfl rfl)
        have hF := hF.ext1 16 (hq 1 rfl rfl)
        have hF := hF.ext1 17 (hq 2 rfl rfl)
        have hF := hF.ext1 18 (hq 3 rfl rfl)
        have hF := hF.ext1 19 (hq 4 rfl rfl)
        have hM := hS.mem rfl
        change wpList Try.prog _ _ [_, _] _ _
        refine stR hF (d_call Try.call76 hF (.cons rfl (.cons rfl .nil)) (l01Vector_ok p n T f (V (gi)) _ (fun _ => by first | exact hv _ | exact hu _ | exact hT _ _ _ | exact hf _ | omega | (split <;> omega) | (dsimp only; split <;> omega) | assumption))) rfl ?_
        rintro _ w' a ⟨hx, rfl⟩ hF
        have hM := hM.ext hx
        refine st hF (g_notP hF rfl) rfl fun a hF => ?_
        refine wpList_nil ?_
        refine tN ?_
        refine c_cond hF rfl (fun h4 => ?_) (fun h4 => ?_)
        ·
          refine sq ?_
          refine wp_region_lit ?_
          refine st hF (g_assign hF rfl) rfl fun a hF => ?_
          refine wpList_nil ?_
          refine tN ?_
          refine wp_ret ?_
          refine iR ?_
          refine tR ?_
          refine tR ?_
          refine iR ?_
          refine tR ?_
          refine fin1 rfl hF.defers (res_tmp hF rfl) ⟨_, rfl, hM.below, ?_⟩
          show _ = _
          rw [if_neg (fun hq => (by assumption : ¬ okV _ _ _) (hq.2 gi (by omega)))]
        ·
          refine wp_skip ?_
          refine iN ?_
          refine tN ?_
          refine wp_region_lit ?_
          refine st hF (g_move hF rfl) rfl fun a hF => st hF (g_add hF rfl rfl (add_nat (gi) (1) (by omega))) rfl fun a hF => st hF (g_assign hF rfl) rfl fun a hF => ?_
          refine wpList_nil ?_
          refine tN ?_
          refine ⟨gi + 1, ⟨by omega, allS hinv1 (Decidable.not_not.1 (by assumption)), hF.sub _ (by repeat' constructor), ?_⟩, by omega⟩
          exact hM
      ·
        obtain rfl : m = gi := by omega
        refine wp_exit ?_
        refine tX ?_
        refine tX ?_
        refine ib_same ?_
        refine tN ?_
        refine sq ?_
        refine wp_region_lit ?_
        refine st hF (g_assign hF rfl) rfl fun a hF => ?_
        refine wpList_nil ?_
        refine tN ?_
        refine wp_ret ?_
        refine fin1 rfl hF.defers (res_tmp hF rfl) ⟨_, rfl, hM.below, ?_⟩
        show _ = _
        rw [if_pos ⟨Decidable.not_not.1 (by assumption), hinv1⟩]

theorem l01Code_0 (p n : Int) (T : Nat → Nat → Nat → Nat) (f : Nat → Nat) (V : Nat → Nat → Nat) (w : World) (hT : ∀ i j k, T i j k ≤ 255) (hf : ∀ i, f i ≤ 255) :
    CallsR Try.prog 50 #[.agg (algC p n T f), .slice none 0 0] w (fun res _ => res = .int .i64 (if CodeP p n T f 0 V then 0 else 1)) := by
  refine calls_fr [.agg (algC p n T f), .slice none 0 0] Try.func50 rfl Try.ntmps50 rfl fun a hF => ?_
  have hM : Mem w w [none] [] := MemX.start w 1
  change Fr 22 a [(0, .agg (algC p n T f)), (1, .slice none 0 0)] at hF
  refine sq ?_
  refine wp_region_lit ?_
  refine stR hF (d_box 0 hM hF rfl) rfl ?_
  rintro _ w' a ⟨b1, rfl, hM, -⟩ hF
  change Mem w w' [some (b1, algC p n T f)] [] at hM
  refine st hF (g_assign hF rfl) rfl fun a hF => ?_
  refine wpList_nil ?_
  refine tN ?_
  refine sq ?_
  refine sq ?_
  refine wp_region_lit ?_
  refine st hF (g_loadAgg ty_ag_30 hF rfl (hM.row 0 rfl) (by simp only [fnC_size, cells_size, vecC_size, tabC_size, planeC_size] <;> omega) (whole cells_size)) rfl fun a hF => ?_
  refine stR hF (d_call Try.call43 hF (.cons rfl .nil) (l01Algebra_ok p n T f _ (fun _ _ _ => hT _ _ _) (fun _ => hf _))) rfl ?_
  rintro _ w' a ⟨hx, rfl⟩ hF
  have hM := hM.ext hx
  refine st hF (g_notP hF rfl) rfl fun a hF => ?_
  refine wpList_nil ?_
  refine tN ?_
  refine c_cond hF rfl (fun h2 => ?_) (fun h2 => ?_)
  ·
    refine sq ?_
    refine wp_region_lit ?_
    refine st hF (g_assign hF rfl) rfl fun a hF => ?_
    refine wpList_nil ?_
    refine tN ?_
    refine wp_ret ?_
    refine tR ?_
    refine fin1 rfl hF.defers (res_tmp hF rfl) ⟨_, rfl, hM.below, ?_⟩
    show _ = _
    rw [if_neg (fun hq => (by assumption : ¬ AlgP _ _ _ _) hq.1)]
  ·
    refine wp_skip ?_
    refine tN ?_
    refine sq ?_
    refine sq ?_
    refine wp_region_lit ?_
    refine st hF (g_assign hF rfl) rfl fun a hF => ?_
    refine wpList_nil ?_
    refine tN ?_
    refine wp_block ?_
    change Mem w _ [some (b1, algC p n T f)] [] at hM
    refine c_loop (fun (kk : Nat) a w' => kk ≤ 0 ∧ (True) ∧ Fr 22 a [(0, .agg (algC p n T f)), (1, .slice none 0 0), (2, ptr b1 (0)), (6, .agg (algC p n T f)), (7, .bool (decide (AlgP p n T f))), (8, .bool (decide (¬ (AlgP p n T f)))), (5, .int .i64 (((kk : Nat) : Int)))] ∧ Mem w w' [some (b1, algC p n T f)] []) (fun kk => 0 - kk) 0 ?_ ?_
    ·
      refine ⟨by omega, trivial, hF.sub _ (by repeat' constructor), ?_⟩
      exact hM
    ·
      clear hF hM
      rintro gi a w' ⟨hgi, hinv1, hF, hM⟩
      refine sq ?_
      refine sq ?_
      refine wp_region_lit ?_
      refine st hF (g_move hF rfl) rfl fun a hF => st hF (g_move hF rfl) rfl fun a hF => st hF (g_len0 ty_us_76 hF rfl) rfl fun a hF => st hF (g_lss hF rfl rfl) rfl fun a hF => ?_
      refine wpList_nil ?_
      refine tN ?_
      refine c_cond hF rfl (fun h3 => ?_) (fun h3 => ?_)
      ·
        exfalso; omega
      ·
        obtain rfl : 0 = gi := by omega
        refine wp_exit ?_
        refine tX ?_
        refine tX ?_
        refine ib_same ?_
        refine tN ?_
        refine sq ?_
        refine wp_region_lit ?_
        refine st hF (g_assign hF rfl) rfl fun a hF => ?_
        refine wpList_nil ?_
        refine tN ?_
        refine wp_ret ?_
        refine fin1 rfl hF.defers (res_tmp hF rfl) ⟨_, rfl, hM.below, ?_⟩
        show _ = _
        rw [if_pos ⟨Decidable.not_not.1 (by assumption), fun i hi => absurd hi (by omega)⟩]

theorem areVectors_ok (p n : Int) (T : Nat → Nat → Nat → Nat) (f : Nat → Nat) (b c m : Nat) (V : Nat → Nat → Nat) (w : World) (hT : ∀ i j k, T i j k ≤ 255) (hf : ∀ i, f i ≤ 255) (hV : ∀ i c, V i c ≤ 255) (hm : m < 1000) (hb : Blk w b (vecsC m V)) :
    CallsR Try.prog 56 #[.agg (algC p n T f), .slice (some ⟨b, 0, none⟩) (m) (c)] w (fun res _ => res = .bool (decide (CodeP p n T f m V))) := by
  refine calls_fr [.agg (algC p n T f), .slice (some ⟨b, 0, none⟩) (m) (c)] Try.func56 rfl Try.ntmps56 rfl fun a hF => ?_
  have hM : Mem w w [none, none] [(b, vecsC m V)] := MemX.startD w 2 _ (startD1 hb)
  change Fr 20 a [(0, .agg (algC p n T f)), (1, .slice (some ⟨b, 0, none⟩) (m) (c))] at hF
  refine sq ?_
  refine wp_region_lit ?_
  refine stR hF (d_box 0 hM hF rfl) rfl ?_
  rintro _ w' a ⟨b1, rfl, hM, -⟩ hF
  change Mem w w' [some (b1, algC p n T f), none] [(b, vecsC m V)] at hM
  refine st hF (g_assign hF rfl) rfl fun a hF => ?_
  refine wpList_nil ?_
  refine tN ?_
  refine sq ?_
  refine sq ?_
  refine wp_region_lit ?_
  refine st hF (g_move hF rfl) rfl fun a hF => st hF (g_len ty_us_76 hF rfl) rfl fun a hF => st hF (g_move hF rfl) rfl fun a hF => ?_
  refine wpList_nil ?_
  refine tN ?_
  refine wp_block ?_
  change Mem w _ [some (b1, algC p n T f), none] [(b, vecsC m V)] at hM
  refine c_loop (fun (kk : Nat) a w' => kk ≤ m ∧ (∀ i, i < kk → okV p n (V i)) ∧ Fr 20 a [(0, .agg (algC p n T f)), (1, .slice (some ⟨b, 0, none⟩) (m) (c)), (2, ptr b1 (0)), (7, .slice (some ⟨b, 0, none⟩) (m) (c)), (8, .int .i64 (((m : Nat) : Int))), (9, .int .i64 (((kk : Nat) : Int)))] ∧ Mem w w' [some (b1, algC p n T f), none] [(b, vecsC m V)]) (fun kk => m - kk) 0 ?_ ?_
  ·
    refine ⟨by omega, fun i hi => absurd hi (by omega), hF.sub _ (by repeat' constructor), ?_⟩
    exact hM
  ·
    clear hF hM
    rintro gi a w' ⟨hgi, hinv1, hF, hM⟩
    have hv : ∀ c, V gi c ≤ 255 := hV gi
    refine sq ?_
    refine wp_region_lit ?_
    refine st hF (g_lss hF rfl rfl) rfl fun a hF => ?_
    refine wpList_nil ?_
    refine tN ?_
    refine sq ?_
    refine c_cond hF rfl (fun h2 => ?_) (fun h2 => ?_)
    ·
      refine wp_skip ?_
      refine tN ?_
      refine sq ?_
      refine wp_block ?_
      refine sq ?_
      refine wp_region_lit ?_
      refine st hF (g_indexSl (i := gi) ty_sl_76 hF rfl rfl rfl (by omega)) rfl fun a hF => st hF (g_loadAgg ty_ag_28 hF rfl (hM.fz 0 rfl) (by rw [vecsC_size]; omega) (vecsC_row (gi) (by omega) (by omega) (by omega))) rfl fun a hF => ?_
      refine stR hF (d_alloc 1 hM ty_ze_28) rfl ?_
      rintro _ w' a ⟨b3, rfl, hM, -⟩ hF
      change Mem w w' [some (b1, algC p n T f), some (b3, fnC 6 (fun _ => .int .u8 (0)))] [(b, vecsC m V)] at hM
      refine stN hF (d_storeAgg 1 hM rfl ty_sz_28 hF rfl rfl (by first | exact vecC_one | exact cells_one | (refine fnC_one fun _ _ => ?_; first | rfl | (split <;> rfl))) (by simp only [fnC_size, cells_size, vecC_size, tabC_size, planeC_size]) (by simp only [fnC_size, cells_size, vecC_size, tabC_size, planeC_size] <;> omega) (splice_whole _ _ (by simp only [fnC_size, cells_size, vecC_size, tabC_size, planeC_size]))) ?_
      intro _ w' a hM hF
      change Mem w w' [some (b1, algC p n T f), some (b3, vecC (V (gi)))] [(b, vecsC m V)] at hM
      refine wpList_nil ?_
      refine tN ?_
      refine sq ?_
      refine wp_region_lit ?_
      refine st hF (g_loadAgg ty_ag_30 hF rfl (hM.row 0 rfl) (by simp only [fnC_size, cells_size, vecC_size, tabC_size, planeC_size] <;> omega) (whole cells_size)) rfl fun a hF => st hF (g_loadAgg ty_ag_28 hF rfl (hM.row 1 rfl) (by simp only [fnC_size, cells_size, vecC_size, tabC_size, planeC_size] <;> omega) (whole (by simp only [fnC_size, cells_size, vecC_size, tabC_size, planeC_size]))) rfl fun a hF => ?_
      refine stR hF (d_call Try.call46 hF (.cons rfl (.cons rfl .nil)) (isVector_ok p n T f ((V (gi))) _ (fun _ => by first | exact hv _ | exact hu _ | exact hT _ _ _ | exact hf _ | omega | (split <;> omega) | (dsimp only; split <;> omega) | assumption))) rfl ?_
      rintro _ w' a ⟨hx, rfl⟩ hF
      have hM := hM.ext hx
      refine st hF (g_notP hF rfl) rfl fun a hF => ?_
      refine wpList_nil ?_
      refine tN ?_
      refine c_cond hF rfl (fun h4 => ?_) (fun h4 => ?_)
      ·
        refine sq ?_
        refine wp_region_lit ?_
        refine st hF (g_assign hF rfl) rfl fun a hF => ?_
        refine wpList_nil ?_
        refine tN ?_
        refine wp_ret ?_
        refine iR ?_
        refine tR ?_
        refine tR ?_
        refine iR ?_
        refine tR ?_
        refine fin1 rfl hF.defers (res_tmp hF rfl) ⟨_, rfl, hM.below, ?_⟩
        show _ = _
        exact bool_f (fun hq => (by assumption : ¬ okV _ _ _) (hq.2 gi (by omega)))
      ·
        refine wp_skip ?_
        refine iN ?_
        refine tN ?_
        refine wp_region_lit ?_
        refine st hF (g_add hF rfl rfl (add_nat (gi) (1) (by omega))) rfl fun a hF => st hF (g_move hF rfl) rfl fun a hF => ?_
        refine wpList_nil ?_
        refine tN ?_
        have hM := hM.drop 1
        refine ⟨gi + 1, ⟨by omega, allS hinv1 (Decidable.not_not.1 (by assumption)), hF.sub _ (by repeat' constructor), ?_⟩, by omega⟩
        exact hM
    ·
      obtain rfl : m = gi := by omega
      refine wp_exit ?_
      refine tX ?_
      refine tX ?_
      refine ib_same ?_
      refine tN ?_
      refine sq ?_
      refine wp_region_lit ?_
      refine st hF (g_loadAgg ty_ag_30 hF rfl (hM.row 0 rfl) (by simp only [fnC_size, cells_size, vecC_size, tabC_size, planeC_size] <;> omega) (whole cells_size)) rfl fun a hF => ?_
      refine stR hF (d_call Try.call17 hF (.cons rfl .nil) (IsAlgebraI_ok p n T f _ (fun _ _ _ => hT _ _ _) (fun _ => hf _))) rfl ?_
      rintro _ w' a ⟨hx, rfl⟩ hF
      have hM := hM.ext hx
      refine st hF (g_assign hF rfl) rfl fun a hF => ?_
      refine wpList_nil ?_
      refine tN ?_
      refine wp_ret ?_
      refine fin1 rfl hF.defers (res_tmp hF rfl) ⟨_, rfl, hM.below, ?_⟩
      show _ = _
      exact congrArg Value.bool (decide_eq_decide.2 ⟨fun h => ⟨h, hinv1⟩, fun h => h.1⟩)

theorem areVectors_0 (p n : Int) (T : Nat → Nat → Nat → Nat) (f : Nat → Nat) (V : Nat → Nat → Nat) (w : World) (hT : ∀ i j k, T i j k ≤ 255) (hf : ∀ i, f i ≤ 255) :
    CallsR Try.prog 56 #[.agg (algC p n T f), .slice none 0 0] w (fun res _ => res = .bool (decide (CodeP p n T f 0 V))) := by
  refine calls_fr [.agg (algC p n T f), .slice none 0 0] Try.func56 rfl Try.ntmps56 rfl fun a hF => ?_
  have hM : Mem w w [none, none] [] := MemX.start w 2
  change Fr 20 a [(0, .agg (algC p n T f)), (1, .slice none 0 0)] at hF
  refine sq ?_
  refine wp_region_lit ?_
  refine stR hF (d_box 0 hM hF rfl) rfl ?_
  rintro _ w' a ⟨b1, rfl, hM, -⟩ hF
  change Mem w w' [some (b1, algC p n T f), none] [] at hM
  refine st hF (g_assign hF rfl) rfl fun a hF => ?_
  refine wpList_nil ?_
  refine tN ?_
  refine sq ?_
  refine sq ?_
  refine wp_region_lit ?_
  refine st hF (g_move hF rfl) rfl fun a hF => st hF (g_len0 ty_us_76 hF rfl) rfl fun a hF => st hF (g_move hF rfl) rfl fun a hF => ?_
  refine wpList_nil ?_
  refine tN ?_
  refine wp_block ?_
  change Mem w _ [some (b1, algC p n T f), none] [] at hM
  refine c_loop (fun (kk : Nat) a w' => kk ≤ 0 ∧ (True) ∧ Fr 20 a [(0, .agg (algC p n T f)), (1, .slice none 0 0), (2, ptr b1 (0)), (7, .slice none 0 0), (8, .int .i64 (0)), (9, .int .i64 (((kk : Nat) : Int)))] ∧ Mem w w' [some (b1, algC p n T f), none] []) (fun kk => 0 - kk) 0 ?_ ?_
  ·
    refine ⟨by omega, trivial, hF.sub _ (by repeat' constructor), ?_⟩
    exact hM
  ·
    clear hF hM
    rintro gi a w' ⟨hgi, hinv1, hF, hM⟩
    refine sq ?_
    refine wp_region_lit ?_
    refine st hF (g_lss hF rfl rfl) rfl fun a hF => ?_
    refine wpList_nil ?_
    refine tN ?_
    refine sq ?_
    refine c_cond hF rfl (fun h2 => ?_) (fun h2 => ?_)
    ·
      exfalso; omega
    ·
      obtain rfl : 0 = gi := by omega
      refine wp_exit ?_
      refine tX ?_
      refine tX ?_
      refine ib_same ?_
      refine tN ?_
      refine sq ?_
      refine wp_region_lit ?_
      refine st hF (g_loadAgg ty_ag_30 hF rfl (hM.row 0 rfl) (by simp only [fnC_size, cells_size, vecC_size, tabC_size, planeC_size] <;> omega) (whole cells_size)) rfl fun a hF => ?_
      refine stR hF (d_call Try.call17 hF (.cons rfl .nil) (IsAlgebraI_ok p n T f _ (fun _ _ _ => hT _ _ _) (fun _ => hf _))) rfl ?_
      rintro _ w' a ⟨hx, rfl⟩ hF
      have hM := hM.ext hx
      refine st hF (g_assign hF rfl) rfl fun a hF => ?_
      refine wpList_nil ?_
      refine tN ?_
      refine wp_ret ?_
      refine fin1 rfl hF.defers (res_tmp hF rfl) ⟨_, rfl, hM.below, ?_⟩
      show _ = _
      exact congrArg Value.bool (decide_eq_decide.2 ⟨fun h => ⟨h, fun i hi => absurd hi (by omega)⟩, fun h => h.1⟩)

theorem FormOfSA (p n : Int) (T : Nat → Nat → Nat → Nat) (f : Nat → Nat) (v : Nat → Nat) (w : World) (hT : ∀ i j k, T i j k ≤ 255) (hf : ∀ i, f i ≤ 255) (hv : ∀ i, v i ≤ 255) (hc : ¬ CodeP p n T f 1 (vAtL [v])) :
    CallsR Try.prog 32 #[.agg (algC p n T f), .agg (vecC v)] w (fun res _ => res = .tuple #[.int .i64 0, .int .i64 1]) := by
  refine calls_fr [.agg (algC p n T f), .agg (vecC v)] Try.func32 rfl Try.ntmps32 rfl fun a hF => ?_
  have hM : Mem w w [none, none, none] [] := MemX.start w 3
  change Fr 17 a [(0, .agg (algC p n T f)), (1, .agg (vecC v))] at hF
  have hVb : ∀ i c, vAtL [v] i c ≤ 255 := vAtL_le (fun x hx => by simp at hx; subst hx <;> assumption)
  refine sq ?_
  refine wp_region_lit ?_
  refine stR hF (d_box 0 hM hF rfl) rfl ?_
  rintro _ w' a ⟨b1, rfl, hM, -⟩ hF
  change Mem w w' [some (b1, algC p n T f), none, none] [] at hM
  refine stR hF (d_box 1 hM hF rfl) rfl ?_
  rintro _ w' a ⟨b2, rfl, hM, -⟩ hF
  change Mem w w' [some (b1, algC p n T f), some (b2, vecC v), none] [] at hM
  refine st hF (g_assign hF rfl) rfl fun a hF => st hF (g_assign hF rfl) rfl fun a hF => ?_
  refine wpList_nil ?_
  refine tN ?_
  refine sq ?_
  refine sq ?_
  refine wp_region_lit ?_
  refine st hF (g_loadAgg ty_ag_30 hF rfl (hM.row 0 rfl) (by simp only [fnC_size, cells_size, vecC_size, tabC_size, planeC_size] <;> omega) (whole cells_size)) rfl fun a hF => st hF (g_loadAgg ty_ag_28 hF rfl (hM.row 1 rfl) (by simp only [fnC_size, cells_size, vecC_size, tabC_size, planeC_size] <;> omega) (whole (by simp only [fnC_size, cells_size, vecC_size, tabC_size, planeC_size]))) rfl fun a hF => ?_
  refine stR hF (d_buildC (vs := [(0, .agg (vecC v))]) 2 hM hF (build1 hF rfl) (fun w => ty_bsg_76_1 v w)) rfl ?_
  rintro _ w' a ⟨b3, rfl, hM, -⟩ hF
  change Mem w w' [some (b1, algC p n T f), some (b2, vecC v), some (b3, vecsC 1 (vAtL [v]))] [] at hM
  refine stR hF (d_call Try.call50 hF (.cons rfl (.cons rfl .nil)) ((CallsR.val (l01Code_ok p n T f b3 1 1 (vAtL [v]) _ (fun _ _ _ => hT _ _ _) (fun _ => hf _) hVb (by omega) (hM.row 2 rfl)) (congrArg (Value.int .i64) (if_neg hc))))) rfl ?_
  rintro _ w' a ⟨hx, rfl⟩ hF
  have hM := hM.ext hx
  refine st hF (g_assign hF rfl) rfl fun a hF => ?_
  refine wpList_nil ?_
  refine tN ?_
  refine sq ?_
  refine wp_region_lit ?_
  refine st hF (g_move hF rfl) rfl fun a hF => st hF (g_neq hF rfl rfl) rfl fun a hF => ?_
  refine wpList_nil ?_
  refine tN ?_
  refine c_kT hF rfl (by decide) ?_
  refine sq ?_
  refine wp_region_lit ?_
  refine st hF (g_move hF rfl) rfl fun a hF => st hF (g_assign hF rfl) rfl fun a hF => st hF (g_assign hF rfl) rfl fun a hF => ?_
  refine wpList_nil ?_
  refine tN ?_
  refine wp_ret ?_
  refine tR ?_
  refine fin2 rfl hF.defers (res_tmp hF rfl) (res_tmp hF rfl) ⟨_, rfl, hM.below, ?_⟩
  show _ = _
  rfl

theorem FormOfSB (p n : Nat) (T : Nat → Nat → Nat → Nat) (f : Nat → Nat) (v : Nat → Nat) (w : World) (hp : primeN p) (hn0 : 0 < n) (hn : n ≤ 6) (hTp : ∀ i j k, T i j k < p) (hT0 : ∀ i j k, n ≤ k → T i j k = 0) (hf : ∀ i, f i ≤ 255) (hv : ∀ i, v i ≤ 255) (hc : CodeP (p : Int) (n : Int) T f 1 (vAtL [v])) :
    CallsR Try.prog 32 #[.agg (algC (p : Int) (n : Int) T f), .agg (vecC v)] w (fun res _ => res = .tuple #[.int .i64 ((sumTo (fun i => f i * v i) 6 % p : Nat) : Int), .int .i64 0]) := by
  refine calls_fr [.agg (algC (p : Int) (n : Int) T f), .agg (vecC v)] Try.func32 rfl Try.ntmps32 rfl fun a hF => ?_
  have hM : Mem w w [none, none, none] [] := MemX.start w 3
  change Fr 17 a [(0, .agg (algC (p : Int) (n : Int) T f)), (1, .agg (vecC v))] at hF
  have hp2 := hp.two
  have hp13 := hp.le
  have hT : ∀ i j k, T i j k ≤ 255 := fun i j k => by have := hTp i j k; omega
  have hVb : ∀ i c, vAtL [v] i c ≤ 255 := vAtL_le (fun x hx => by simp at hx; subst hx <;> assumption)
  refine sq ?_
  refine wp_region_lit ?_
  refine stR hF (d_box 0 hM hF rfl) rfl ?_
  rintro _ w' a ⟨b1, rfl, hM, -⟩ hF
  change Mem w w' [some (b1, algC (p : Int) (n : Int) T f), none, none] [] at hM
  refine stR hF (d_box 1 hM hF rfl) rfl ?_
  rintro _ w' a ⟨b2, rfl, hM, -⟩ hF
  change Mem w w' [some (b1, algC (p : Int) (n : Int) T f), some (b2, vecC v), none] [] at hM
  refine st hF (g_assign hF rfl) rfl fun a hF => st hF (g_assign hF rfl) rfl fun a hF => ?_
  refine wpList_nil ?_
  refine tN ?_
  refine sq ?_
  refine sq ?_
  refine wp_region_lit ?_
  refine st hF (g_loadAgg ty_ag_30 hF rfl (hM.row 0 rfl) (by simp only [fnC_size, cells_size, vecC_size, tabC_size, planeC_size] <;> omega) (whole cells_size)) rfl fun a hF => st hF (g_loadAgg ty_ag_28 hF rfl (hM.row 1 rfl) (by simp only [fnC_size, cells_size, vecC_size, tabC_size, planeC_size] <;> omega) (whole (by simp only [fnC_size, cells_size, vecC_size, tabC_size, planeC_size]))) rfl fun a hF => ?_
  refine stR hF (d_buildC (vs := [(0, .agg (vecC v))]) 2 hM hF (build1 hF rfl) (fun w => ty_bsg_76_1 v w)) rfl ?_
  rintro _ w' a ⟨b3, rfl, hM, -⟩ hF
  change Mem w w' [some (b1, algC (p : Int) (n : Int) T f), some (b2, vecC v), some (b3, vecsC 1 (vAtL [v]))] [] at hM
  refine stR hF (d_call Try.call50 hF (.cons rfl (.cons rfl .nil)) ((CallsR.val (l01Code_ok (p : Int) (n : Int) T f b3 1 1 (vAtL [v]) _ (fun _ _ _ => hT _ _ _) (fun _ => hf _) hVb (by omega) (hM.row 2 rfl)) (congrArg (Value.int .i64) (if_pos hc))))) rfl ?_
  rintro _ w' a ⟨hx, rfl⟩ hF
  have hM := hM.ext hx
  refine st hF (g_assign hF rfl) rfl fun a hF => ?_
  refine wpList_nil ?_
  refine tN ?_
  refine sq ?_
  refine wp_region_lit ?_
  refine st hF (g_move hF rfl) rfl fun a hF => st hF (g_neq hF rfl rfl) rfl fun a hF => ?_
  refine wpList_nil ?_
  refine tN ?_
  refine c_kF hF rfl (by decide) ?_
  refine wp_skip ?_
  refine tN ?_
  refine sq ?_
  refine wp_region_lit ?_
  refine st hF (g_loadAgg ty_ag_30 hF rfl (hM.row 0 rfl) (by simp only [fnC_size, cells_size, vecC_size, tabC_size, planeC_size] <;> omega) (whole cells_size)) rfl fun a hF => st hF (g_loadAgg ty_ag_28 hF rfl (hM.row 1 rfl) (by simp only [fnC_size, cells_size, vecC_size, tabC_size, planeC_size] <;> omega) (whole (by simp only [fnC_size, cells_size, vecC_size, tabC_size, planeC_size]))) rfl fun a hF => ?_
  refine stR hF (d_call Try.call63 hF (.cons rfl (.cons rfl .nil)) (l01Form_ok p n T f (v) _ (by omega) (fun _ => by first | exact hv _ | exact hu _ | exact hT _ _ _ | exact hf _ | omega | (split <;> omega) | (dsimp only; split <;> omega) | assumption) (fun _ => by first | exact hv _ | exact hu _ | exact hT _ _ _ | exact hf _ | omega | (split <;> omega) | (dsimp only; split <;> omega) | assumption))) rfl ?_
  rintro _ w' a ⟨hx, rfl⟩ hF
  have hM := hM.ext hx
  refine st hF (g_assign hF rfl) rfl fun a hF => st hF (g_assign hF rfl) rfl fun a hF => ?_
  refine wpList_nil ?_
  refine tN ?_
  refine wp_ret ?_
  refine fin2 rfl hF.defers (res_tmp hF rfl) (res_tmp hF rfl) ⟨_, rfl, hM.below, ?_⟩
  show _ = _
  rfl

theorem FormOfIA (p n : Int) (T : Nat → Nat → Nat → Nat) (f : Nat → Nat) (v : Nat → Nat) (w : World) (hT : ∀ i j k, T i j k ≤ 255) (hf : ∀ i, f i ≤ 255) (hv : ∀ i, v i ≤ 255) (hc : ¬ CodeP p n T f 1 (vAtL [v])) :
    CallsR Try.prog 33 #[.agg (algC p n T f), .agg (vecC v)] w (fun res _ => res = .tuple #[.int .i64 0, .int .i64 1]) := by
  refine calls_fr [.agg (algC p n T f), .agg (vecC v)] Try.func33 rfl Try.ntmps33 rfl fun a hF => ?_
  have hM : Mem w w [none, none, none] [] := MemX.start w 3
  change Fr 14 a [(0, .agg (algC p n T f)), (1, .agg (vecC v))] at hF
  have hVb : ∀ i c, vAtL [v] i c ≤ 255 := vAtL_le (fun x hx => by simp at hx; subst hx <;> assumption)
  refine sq ?_
  refine wp_region_lit ?_
  refine stR hF (d_box 0 hM hF rfl) rfl ?_
  rintro _ w' a ⟨b1, rfl, hM, -⟩ hF
  change Mem w w' [some (b1, algC p n T f), none, none] [] at hM
  refine stR hF (d_box 1 hM hF rfl) rfl ?_
  rintro _ w' a ⟨b2, rfl, hM, -⟩ hF
  change Mem w w' [some (b1, algC p n T f), some (b2, vecC v), none] [] at hM
  refine st hF (g_assign hF rfl) rfl fun a hF => st hF (g_assign hF rfl) rfl fun a hF => ?_
  refine wpList_nil ?_
  refine tN ?_
  refine sq ?_
  refine sq ?_
  refine wp_region_lit ?_
  refine st hF (g_loadAgg ty_ag_30 hF rfl (hM.row 0 rfl) (by simp only [fnC_size, cells_size, vecC_size, tabC_size, planeC_size] <;> omega) (whole cells_size)) rfl fun a hF => st hF (g_loadAgg ty_ag_28 hF rfl (hM.row 1 rfl) (by simp only [fnC_size, cells_size, vecC_size, tabC_size, planeC_size] <;> omega) (whole (by simp only [fnC_size, cells_size, vecC_size, tabC_size, planeC_size]))) rfl fun a hF => ?_
  refine stR hF (d_buildC (vs := [(0, .agg (vecC v))]) 2 hM hF (build1 hF rfl) (fun w => ty_bsg_76_1 v w)) rfl ?_
  rintro _ w' a ⟨b3, rfl, hM, -⟩ hF
  change Mem w w' [some (b1, algC p n T f), some (b2, vecC v), some (b3, vecsC 1 (vAtL [v]))] [] at hM
  refine stR hF (d_call Try.call56 hF (.cons rfl (.cons rfl .nil)) ((CallsR.val (areVectors_ok p n T f b3 1 1 (vAtL [v]) _ (fun _ _ _ => hT _ _ _) (fun _ => hf _) hVb (by omega) (hM.row 2 rfl)) (congrArg Value.bool (decide_eq_false hc))))) rfl ?_
  rintro _ w' a ⟨hx, rfl⟩ hF
  have hM := hM.ext hx
  refine st hF (g_not hF rfl) rfl fun a hF => ?_
  refine wpList_nil ?_
  refine tN ?_
  refine c_T hF rfl ?_
  refine sq ?_
  refine wp_region_lit ?_
  refine st hF (g_assign hF rfl) rfl fun a hF => st hF (g_assign hF rfl) rfl fun a hF => ?_
  refine wpList_nil ?_
  refine tN ?_
  refine wp_ret ?_
  refine tR ?_
  refine fin2 rfl hF.defers (res_tmp hF rfl) (res_tmp hF rfl) ⟨_, rfl, hM.below, ?_⟩
  show _ = _
  rfl

theorem FormOfIB (p n : Nat) (T : Nat → Nat → Nat → Nat) (f : Nat → Nat) (v : Nat → Nat) (w : World) (hp : primeN p) (hn0 : 0 < n) (hn : n ≤ 6) (hTp : ∀ i j k, T i j k < p) (hT0 : ∀ i j k, n ≤ k → T i j k = 0) (hf : ∀ i, f i ≤ 255) (hv : ∀ i, v i ≤ 255) (hc : CodeP (p : Int) (n : Int) T f 1 (vAtL [v])) :
    CallsR Try.prog 33 #[.agg (algC (p : Int) (n : Int) T f), .agg (vecC v)] w (fun res _ => res = .tuple #[.int .i64 ((sumTo (fun i => v i * f i) 6 % p : Nat) : Int), .int .i64 0]) := by
  refine calls_fr [.agg (algC (p : Int) (n : Int) T f), .agg (vecC v)] Try.func33 rfl Try.ntmps33 rfl fun a hF => ?_
  have hM : Mem w w [none, none, none] [] := MemX.start w 3
  change Fr 14 a [(0, .agg (algC (p : Int) (n : Int) T f)), (1, .agg (vecC v))] at hF
  have hp2 := hp.two
  have hp13 := hp.le
  have hT : ∀ i j k, T i j k ≤ 255 := fun i j k => by have := hTp i j k; omega
  have hVb : ∀ i c, vAtL [v] i c ≤ 255 := vAtL_le (fun x hx => by simp at hx; subst hx <;> assumption)
  refine sq ?_
  refine wp_region_lit ?_
  refine stR hF (d_box 0 hM hF rfl) rfl ?_
  rintro _ w' a ⟨b1, rfl, hM, -⟩ hF
  change Mem w w' [some (b1, algC (p : Int) (n : Int) T f), none, none] [] at hM
  refine stR hF (d_box 1 hM hF rfl) rfl ?_
  rintro _ w' a ⟨b2, rfl, hM, -⟩ hF
  change Mem w w' [some (b1, algC (p : Int) (n : Int) T f), some (b2, vecC v), none] [] at hM
  refine st hF (g_assign hF rfl) rfl fun a hF => st hF (g_assign hF rfl) rfl fun a hF => ?_
  refine wpList_nil ?_
  refine tN ?_
  refine sq ?_
  refine sq ?_
  refine wp_region_lit ?_
  refine st hF (g_loadAgg ty_ag_30 hF rfl (hM.row 0 rfl) (by simp only [fnC_size, cells_size, vecC_size, tabC_size, planeC_size] <;> omega) (whole cells_size)) rfl fun a hF => st hF (g_loadAgg ty_ag_28 hF rfl (hM.row 1 rfl) (by simp only [fnC_size, cells_size, vecC_size, tabC_size, planeC_size] <;> omega) (whole (by simp only [fnC_size, cells_size, vecC_size, tabC_size, planeC_size]))) rfl fun a hF => ?_
  refine stR hF (d_buildC (vs := [(0, .agg (vecC v))]) 2 hM hF (build1 hF rfl) (fun w => ty_bsg_76_1 v w)) rfl ?_
  rintro _ w' a ⟨b3, rfl, hM, -⟩ hF
  change Mem w w' [some (b1, algC (p : Int) (n : Int) T f), some (b2, vecC v), some (b3, vecsC 1 (vAtL [v]))] [] at hM
  refine stR hF (d_call Try.call56 hF (.cons rfl (.cons rfl .nil)) ((CallsR.val (areVectors_ok (p : Int) (n : Int) T f b3 1 1 (vAtL [v]) _ (fun _ _ _ => hT _ _ _) (fun _ => hf _) hVb (by omega) (hM.row 2 rfl)) (congrArg Value.bool (decide_eq_true hc))))) rfl ?_
  rintro _ w' a ⟨hx, rfl⟩ hF
  have hM := hM.ext hx
  refine st hF (g_not hF rfl) rfl fun a hF => ?_
  refine wpList_nil ?_
  refine tN ?_
  refine c_Fl hF rfl ?_
  refine wp_skip ?_
  refine tN ?_
  refine sq ?_
  refine wp_region_lit ?_
  refine st hF (g_loadAgg ty_ag_30 hF rfl (hM.row 0 rfl) (by simp only [fnC_size, cells_size, vecC_size, tabC_size, planeC_size] <;> omega) (whole cells_size)) rfl fun a hF => st hF (g_loadAgg ty_ag_28 hF rfl (hM.row 1 rfl) (by simp only [fnC_size, cells_size, vecC_size, tabC_size, planeC_size] <;> omega) (whole (by simp only [fnC_size, cells_size, vecC_size, tabC_size, planeC_size]))) rfl fun a hF => ?_
  refine stR hF (d_call Try.call64 hF (.cons rfl (.cons rfl .nil)) (form_ok p n T f (v) _ (by omega) (fun _ => by first | exact hv _ | exact hu _ | exact hT _ _ _ | exact hf _ | omega | (split <;> omega) | (dsimp only; split <;> omega) | assumption) (fun _ => by first | exact hv _ | exact hu _ | exact hT _ _ _ | exact hf _ | omega | (split <;> omega) | (dsimp only; split <;> omega) | assumption))) rfl ?_
  rintro _ w' a ⟨hx, rfl⟩ hF
  have hM := hM.ext hx
  refine st hF (g_assign hF rfl) rfl fun a hF => st hF (g_assign hF rfl) rfl fun a hF => ?_
  refine wpList_nil ?_
  refine tN ?_
  refine wp_ret ?_
  refine fin2 rfl hF.defers (res_tmp hF rfl) (res_tmp hF rfl) ⟨_, rfl, hM.below, ?_⟩
  show _ = _
  rfl

theorem MultiplyVectorsSA (p n : Int) (T : Nat → Nat → Nat → Nat) (f : Nat → Nat) (v : Nat → Nat) (u : Nat → Nat) (w : World) (hT : ∀ i j k, T i j k ≤ 255) (hf : ∀ i, f i ≤ 255) (hv : ∀ i, v i ≤ 255) (hu : ∀ i, u i ≤ 255) (hc : ¬ CodeP p n T f 2 (vAtL [v, u])) :
    CallsR Try.prog 22 #[.agg (algC p n T f), .agg (vecC v), .agg (vecC u)] w (fun res _ => res = .tuple #[.agg (vecC (fun _ => 0)), .int .i64 1]) := by
  refine calls_fr [.agg (algC p n T f), .agg (vecC v), .agg (vecC u)] Try.func22 rfl Try.ntmps22 rfl fun a hF => ?_
  have hM : Mem w w [none, none, none, none, none] [] := MemX.start w 5
  change Fr 22 a [(0, .agg (algC p n T f)), (1, .agg (vecC v)), (2, .agg (vecC u))] at hF
  have hVb : ∀ i c, vAtL [v, u] i c ≤ 255 := vAtL_le (fun x hx => by simp at hx; rcases hx with rfl | rfl <;> assumption)
  refine sq ?_
  refine wp_region_lit ?_
  refine stR hF (d_box 0 hM hF rfl) rfl ?_
  rintro _ w' a ⟨b1, rfl, hM, -⟩ hF
  change Mem w w' [some (b1, algC p n T f), none, none, none, none] [] at hM
  refine stR hF (d_box 1 hM hF rfl) rfl ?_
  rintro _ w' a ⟨b2, rfl, hM, -⟩ hF
  change Mem w w' [some (b1, algC p n T f), some (b2, vecC v), none, none, none] [] at hM
  refine stR hF (d_box 2 hM hF rfl) rfl ?_
  rintro _ w' a ⟨b3, rfl, hM, -⟩ hF
  change Mem w w' [some (b1, algC p n T f), some (b2, vecC v), some (b3, vecC u), none, none] [] at hM
  refine stR hF (d_alloc 3 hM ty_ze_28) rfl ?_
  rintro _ w' a ⟨b4, rfl, hM, -⟩ hF
  change Mem w w' [some (b1, algC p n T f), some (b2, vecC v), some (b3, vecC u), some (b4, fnC 6 (fun _ => .int .u8 (0))), none] [] at hM
  refine st hF (g_assign hF rfl) rfl fun a hF => ?_
  refine wpList_nil ?_
  refine tN ?_
  refine sq ?_
  refine sq ?_
  refine wp_region_lit ?_
  refine st hF (g_loadAgg ty_ag_30 hF rfl (hM.row 0 rfl) (by simp only [fnC_size, cells_size, vecC_size, tabC_size, planeC_size] <;> omega) (whole cells_size)) rfl fun a hF => st hF (g_loadAgg ty_ag_28 hF rfl (hM.row 1 rfl) (by simp only [fnC_size, cells_size, vecC_size, tabC_size, planeC_size] <;> omega) (whole (by simp only [fnC_size, cells_size, vecC_size, tabC_size, planeC_size]))) rfl fun a hF => st hF (g_loadAgg ty_ag_28 hF rfl (hM.row 2 rfl) (by simp only [fnC_size, cells_size, vecC_size, tabC_size, planeC_size] <;> omega) (whole (by simp only [fnC_size, cells_size, vecC_size, tabC_size, planeC_size]))) rfl fun a hF => ?_
  refine stR hF (d_buildC (vs := [(0, .agg (vecC v)), (1, .agg (vecC u))]) 4 hM hF (build2 hF rfl rfl) (fun w => ty_bsg_76_2 v u w)) rfl ?_
  rintro _ w' a ⟨b5, rfl, hM, -⟩ hF
  change Mem w w' [some (b1, algC p n T f), some (b2, vecC v), some (b3, vecC u), some (b4, fnC 6 (fun _ => .int .u8 (0))), some (b5, vecsC 2 (vAtL [v, u]))] [] at hM
  refine stR hF (d_call Try.call50 hF (.cons rfl (.cons rfl .nil)) ((CallsR.val (l01Code_ok p n T f b5 2 2 (vAtL [v, u]) _ (fun _ _ _ => hT _ _ _) (fun _ => hf _) hVb (by omega) (hM.row 4 rfl)) (congrArg (Value.int .i64) (if_neg hc))))) rfl ?_
  rintro _ w' a ⟨hx, rfl⟩ hF
  have hM := hM.ext hx
  refine st hF (g_assign hF rfl) rfl fun a hF => ?_
  refine wpList_nil ?_
  refine tN ?_
  refine sq ?_
  refine wp_region_lit ?_
  refine st hF (g_move hF rfl) rfl fun a hF => st hF (g_neq hF rfl rfl) rfl fun a hF => ?_
  refine wpList_nil ?_
  refine tN ?_
  refine c_kT hF rfl (by decide) ?_
  refine sq ?_
  refine wp_region_lit ?_
  refine st hF (g_build0 ty_bu_28) rfl fun a hF => st hF (g_move hF rfl) rfl fun a hF => ?_
  refine stN hF (d_storeAgg 3 hM rfl ty_sz_28 hF rfl rfl (by first | exact vecC_one | exact cells_one | (refine fnC_one fun _ _ => ?_; first | rfl | (split <;> rfl))) (by simp only [fnC_size, cells_size, vecC_size, tabC_size, planeC_size]) (by simp only [fnC_size, cells_size, vecC_size, tabC_size, planeC_size] <;> omega) (splice_whole _ _ (by simp only [fnC_size, cells_size, vecC_size, tabC_size, planeC_size]))) ?_
  intro _ w' a hM hF
  change Mem w w' [some (b1, algC p n T f), some (b2, vecC v), some (b3, vecC u), some (b4, fnC 6 (fun _ => .int .u8 (0))), some (b5, vecsC 2 (vAtL [v, u]))] [] at hM
  refine st hF (g_assign hF rfl) rfl fun a hF => ?_
  refine wpList_nil ?_
  refine tN ?_
  refine wp_ret ?_
  refine tR ?_
  refine fin2 rfl hF.defers (res_agg ty_ag_28 hF rfl (hM.row 3 rfl) (by simp only [fnC_size, cells_size, vecC_size, tabC_size, planeC_size])) (res_tmp hF rfl) ⟨_, rfl, hM.below, ?_⟩
  show _ = _
  rfl

theorem MultiplyVectorsSB (p n : Nat) (T : Nat → Nat → Nat → Nat) (f : Nat → Nat) (v : Nat → Nat) (u : Nat → Nat) (w : World) (hp : primeN p) (hn0 : 0 < n) (hn : n ≤ 6) (hTp : ∀ i j k, T i j k < p) (hT0 : ∀ i j k, n ≤ k → T i j k = 0) (hf : ∀ i, f i ≤ 255) (hv : ∀ i, v i ≤ 255) (hu : ∀ i, u i ≤ 255) (hc : CodeP (p : Int) (n : Int) T f 2 (vAtL [v, u])) :
    CallsR Try.prog 22 #[.agg (algC (p : Int) (n : Int) T f), .agg (vecC v), .agg (vecC u)] w (fun res _ => res = .tuple #[.agg (vecC (timesS p n T v u)), .int .i64 0]) := by
  refine calls_fr [.agg (algC (p : Int) (n : Int) T f), .agg (vecC v), .agg (vecC u)] Try.func22 rfl Try.ntmps22 rfl fun a hF => ?_
  have hM : Mem w w [none, none, none, none, none] [] := MemX.start w 5
  change Fr 22 a [(0, .agg (algC (p : Int) (n : Int) T f)), (1, .agg (vecC v)), (2, .agg (vecC u))] at hF
  have hp2 := hp.two
  have hp13 := hp.le
  have hT : ∀ i j k, T i j k ≤ 255 := fun i j k => by have := hTp i j k; omega
  have hVb : ∀ i c, vAtL [v, u] i c ≤ 255 := vAtL_le (fun x hx => by simp at hx; rcases hx with rfl | rfl <;> assumption)
  refine sq ?_
  refine wp_region_lit ?_
  refine stR hF (d_box 0 hM hF rfl) rfl ?_
  rintro _ w' a ⟨b1, rfl, hM, -⟩ hF
  change Mem w w' [some (b1, algC (p : Int) (n : Int) T f), none, none, none, none] [] at hM
  refine stR hF (d_box 1 hM hF rfl) rfl ?_
  rintro _ w' a ⟨b2, rfl, hM, -⟩ hF
  change Mem w w' [some (b1, algC (p : Int) (n : Int) T f), some (b2, vecC v), none, none, none] [] at hM
  refine stR hF (d_box 2 hM hF rfl) rfl ?_
  rintro _ w' a ⟨b3, rfl, hM, -⟩ hF
  change Mem w w' [some (b1, algC (p : Int) (n : Int) T f), some (b2, vecC v), some (b3, vecC u), none, none] [] at hM
  refine stR hF (d_alloc 3 hM ty_ze_28) rfl ?_
  rintro _ w' a ⟨b4, rfl, hM, -⟩ hF
  change Mem w w' [some (b1, algC (p : Int) (n : Int) T f), some (b2, vecC v), some (b3, vecC u), some (b4, fnC 6 (fun _ => .int .u8 (0))), none] [] at hM
  refine st hF (g_assign hF rfl) rfl fun a hF => ?_
  refine wpList_nil ?_
  refine tN ?_
  refine sq ?_
  refine sq ?_
  refine wp_region_lit ?_
  refine st hF (g_loadAgg ty_ag_30 hF rfl (hM.row 0 rfl) (by simp only [fnC_size, cells_size, vecC_size, tabC_size, planeC_size] <;> omega) (whole cells_size)) rfl fun a hF => st hF (g_loadAgg ty_ag_28 hF rfl (hM.row 1 rfl) (by simp only [fnC_size, cells_size, vecC_size, tabC_size, planeC_size] <;> omega) (whole (by simp only [fnC_size, cells_size, vecC_size, tabC_size, planeC_size]))) rfl fun a hF => st hF (g_loadAgg ty_ag_28 hF rfl (hM.row 2 rfl) (by simp only [fnC_size, cells_size, vecC_size, tabC_size, planeC_size] <;> omega) (whole (by simp only [fnC_size, cells_size, vecC_size, tabC_size, planeC_size]))) rfl fun a hF => ?_
  refine stR hF (d_buildC (vs := [(0, .agg (vecC v)), (1, .agg (vecC u))]) 4 hM hF (build2 hF rfl rfl) (fun w => ty_bsg_76_2 v u w)) rfl ?_
  rintro _ w' a ⟨b5, rfl, hM, -⟩ hF
  change Mem w w' [some (b1, algC (p : Int) (n : Int) T f), some (b2, vecC v), some (b3, vecC u), some (b4, fnC 6 (fun _ => .int .u8 (0))), some (b5, vecsC 2 (vAtL [v, u]))] [] at hM
  refine stR hF (d_call Try.call50 hF (.cons rfl (.cons rfl .nil)) ((CallsR.val (l01Code_ok (p : Int) (n : Int) T f b5 2 2 (vAtL [v, u]) _ (fun _ _ _ => hT _ _ _) (fun _ => hf _) hVb (by omega) (hM.row 4 rfl)) (congrArg (Value.int .i64) (if_pos hc))))) rfl ?_
  rintro _ w' a ⟨hx, rfl⟩ hF
  have hM := hM.ext hx
  refine st hF (g_assign hF rfl) rfl fun a hF => ?_
  refine wpList_nil ?_
  refine tN ?_
  refine sq ?_
  refine wp_region_lit ?_
  refine st hF (g_move hF rfl) rfl fun a hF => st hF (g_neq hF rfl rfl) rfl fun a hF => ?_
  refine wpList_nil ?_
  refine tN ?_
  refine c_kF hF rfl (by decide) ?_
  refine wp_skip ?_
  refine tN ?_
  refine sq ?_
  refine wp_region_lit ?_
  refine st hF (g_loadAgg ty_ag_30 hF rfl (hM.row 0 rfl) (by simp only [fnC_size, cells_size, vecC_size, tabC_size, planeC_size] <;> omega) (whole cells_size)) rfl fun a hF => st hF (g_loadAgg ty_ag_28 hF rfl (hM.row 1 rfl) (by simp only [fnC_size, cells_size, vecC_size, tabC_size, planeC_size] <;> omega) (whole (by simp only [fnC_size, cells_size, vecC_size, tabC_size, planeC_size]))) rfl fun a hF => st hF (g_loadAgg ty_ag_28 hF rfl (hM.row 2 rfl) (by simp only [fnC_size, cells_size, vecC_size, tabC_size, planeC_size] <;> omega) (whole (by simp only [fnC_size, cells_size, vecC_size, tabC_size, planeC_size]))) rfl fun a hF => ?_
  refine stR hF (d_call Try.call55 hF (.cons rfl (.cons rfl (.cons rfl .nil))) (l01Times_ok p n T f (v) (u) _ (by omega) (by omega) (by omega) (fun _ _ _ => hT _ _ _) (fun _ => by first | exact hv _ | exact hu _ | exact hT _ _ _ | exact hf _ | omega | (split <;> omega) | (dsimp only; split <;> omega) | assumption) (fun _ => by first | exact hv _ | exact hu _ | exact hT _ _ _ | exact hf _ | omega | (split <;> omega) | (dsimp only; split <;> omega) | assumption))) rfl ?_
  rintro _ w' a ⟨hx, rfl⟩ hF
  have hM := hM.ext hx
  refine stN hF (d_storeAgg 3 hM rfl ty_sz_28 hF rfl rfl (by first | exact vecC_one | exact cells_one | (refine fnC_one fun _ _ => ?_; first | rfl | (split <;> rfl))) (by simp only [fnC_size, cells_size, vecC_size, tabC_size, planeC_size]) (by simp only [fnC_size, cells_size, vecC_size, tabC_size, planeC_size] <;> omega) (splice_whole _ _ (by simp only [fnC_size, cells_size, vecC_size, tabC_size, planeC_size]))) ?_
  intro _ w' a hM hF
  change Mem w w' [some (b1, algC (p : Int) (n : Int) T f), some (b2, vecC v), some (b3, vecC u), some (b4, vecC (timesS p n T (v) (u))), some (b5, vecsC 2 (vAtL [v, u]))] [] at hM
  refine st hF (g_assign hF rfl) rfl fun a hF => ?_
  refine wpList_nil ?_
  refine tN ?_
  refine wp_ret ?_
  refine fin2 rfl hF.defers (res_agg ty_ag_28 hF rfl (hM.row 3 rfl) (by simp only [fnC_size, cells_size, vecC_size, tabC_size, planeC_size])) (res_tmp hF rfl) ⟨_, rfl, hM.below, ?_⟩
  show _ = _
  rfl

theorem MultiplyVectorsIA (p n : Int) (T : Nat → Nat → Nat → Nat) (f : Nat → Nat) (v : Nat → Nat) (u : Nat → Nat) (w : World) (hT : ∀ i j k, T i j k ≤ 255) (hf : ∀ i, f i ≤ 255) (hv : ∀ i, v i ≤ 255) (hu : ∀ i, u i ≤ 255) (hc : ¬ CodeP p n T f 2 (vAtL [v, u])) :
    CallsR Try.prog 24 #[.agg (algC p n T f), .agg (vecC v), .agg (vecC u)] w (fun res _ => res = .tuple #[.agg (vecC (fun _ => 0)), .int .i64 1]) := by
  refine calls_fr [.agg (algC p n T f), .agg (vecC v), .agg (vecC u)] Try.func24 rfl Try.ntmps24 rfl fun a hF => ?_
  have hM : Mem w w [none, none, none, none, none] [] := MemX.start w 5
  change Fr 19 a [(0, .agg (algC p n T f)), (1, .agg (vecC v)), (2, .agg (vecC u))] at hF
  have hVb : ∀ i c, vAtL [v, u] i c ≤ 255 := vAtL_le (fun x hx => by simp at hx; rcases hx with rfl | rfl <;> assumption)
  refine sq ?_
  refine wp_region_lit ?_
  refine stR hF (d_box 0 hM hF rfl) rfl ?_
  rintro _ w' a ⟨b1, rfl, hM, -⟩ hF
  change Mem w w' [some (b1, algC p n T f), none, none, none, none] [] at hM
  refine stR hF (d_box 1 hM hF rfl) rfl ?_
  rintro _ w' a ⟨b2, rfl, hM, -⟩ hF
  change Mem w w' [some (b1, algC p n T f), some (b2, vecC v), none, none, none] [] at hM
  refine stR hF (d_box 2 hM hF rfl) rfl ?_
  rintro _ w' a ⟨b3, rfl, hM, -⟩ hF
  change Mem w w' [some (b1, algC p n T f), some (b2, vecC v), some (b3, vecC u), none, none] [] at hM
  refine stR hF (d_alloc 3 hM ty_ze_28) rfl ?_
  rintro _ w' a ⟨b4, rfl, hM, -⟩ hF
  change Mem w w' [some (b1, algC p n T f), some (b2, vecC v), some (b3, vecC u), some (b4, fnC 6 (fun _ => .int .u8 (0))), none] [] at hM
  refine st hF (g_assign hF rfl) rfl fun a hF => ?_
  refine wpList_nil ?_
  refine tN ?_
  refine sq ?_
  refine sq ?_
  refine wp_region_lit ?_
  refine st hF (g_loadAgg ty_ag_30 hF rfl (hM.row 0 rfl) (by simp only [fnC_size, cells_size, vecC_size, tabC_size, planeC_size] <;> omega) (whole cells_size)) rfl fun a hF => st hF (g_loadAgg ty_ag_28 hF rfl (hM.row 1 rfl) (by simp only [fnC_size, cells_size, vecC_size, tabC_size, planeC_size] <;> omega) (whole (by simp only [fnC_size, cells_size, vecC_size, tabC_size, planeC_size]))) rfl fun a hF => st hF (g_loadAgg ty_ag_28 hF rfl (hM.row 2 rfl) (by simp only [fnC_size, cells_size, vecC_size, tabC_size, planeC_size] <;> omega) (whole (by simp only [fnC_size, cells_size, vecC_size, tabC_size, planeC_size]))) rfl fun a hF => ?_
  refine stR hF (d_buildC (vs := [(0, .agg (vecC v)), (1, .agg (vecC u))]) 4 hM hF (build2 hF rfl rfl) (fun w => ty_bsg_76_2 v u w)) rfl ?_
  rintro _ w' a ⟨b5, rfl, hM, -⟩ hF
  change Mem w w' [some (b1, algC p n T f), some (b2, vecC v), some (b3, vecC u), some (b4, fnC 6 (fun _ => .int .u8 (0))), some (b5, vecsC 2 (vAtL [v, u]))] [] at hM
  refine stR hF (d_call Try.call56 hF (.cons rfl (.cons rfl .nil)) ((CallsR.val (areVectors_ok p n T f b5 2 2 (vAtL [v, u]) _ (fun _ _ _ => hT _ _ _) (fun _ => hf _) hVb (by omega) (hM.row 4 rfl)) (congrArg Value.bool (decide_eq_false hc))))) rfl ?_
  rintro _ w' a ⟨hx, rfl⟩ hF
  have hM := hM.ext hx
  refine st hF (g_not hF rfl) rfl fun a hF => ?_
  refine wpList_nil ?_
  refine tN ?_
  refine c_T hF rfl ?_
  refine sq ?_
  refine wp_region_lit ?_
  refine st hF (g_build0 ty_bu_28) rfl fun a hF => ?_
  refine stN hF (d_storeAgg 3 hM rfl ty_sz_28 hF rfl rfl (by first | exact vecC_one | exact cells_one | (refine fnC_one fun _ _ => ?_; first | rfl | (split <;> rfl))) (by simp only [fnC_size, cells_size, vecC_size, tabC_size, planeC_size]) (by simp only [fnC_size, cells_size, vecC_size, tabC_size, planeC_size] <;> omega) (splice_whole _ _ (by simp only [fnC_size, cells_size, vecC_size, tabC_size, planeC_size]))) ?_
  intro _ w' a hM hF
  change Mem w w' [some (b1, algC p n T f), some (b2, vecC v), some (b3, vecC u), some (b4, fnC 6 (fun _ => .int .u8 (0))), some (b5, vecsC 2 (vAtL [v, u]))] [] at hM
  refine st hF (g_assign hF rfl) rfl fun a hF => ?_
  refine wpList_nil ?_
  refine tN ?_
  refine wp_ret ?_
  refine tR ?_
  refine fin2 rfl hF.defers (res_agg ty_ag_28 hF rfl (hM.row 3 rfl) (by simp only [fnC_size, cells_size, vecC_size, tabC_size, planeC_size])) (res_tmp hF rfl) ⟨_, rfl, hM.below, ?_⟩
  show _ = _
  rfl

theorem MultiplyVectorsIB (p n : Nat) (T : Nat → Nat → Nat → Nat) (f : Nat → Nat) (v : Nat → Nat) (u : Nat → Nat) (w : World) (hp : primeN p) (hn0 : 0 < n) (hn : n ≤ 6) (hTp : ∀ i j k, T i j k < p) (hT0 : ∀ i j k, n ≤ k → T i j k = 0) (hf : ∀ i, f i ≤ 255) (hv : ∀ i, v i ≤ 255) (hu : ∀ i, u i ≤ 255) (hc : CodeP (p : Int) (n : Int) T f 2 (vAtL [v, u])) :
    CallsR Try.prog 24 #[.agg (algC (p : Int) (n : Int) T f), .agg (vecC v), .agg (vecC u)] w (fun res _ => res = .tuple #[.agg (vecC (timesV p n T v u)), .int .i64 0]) := by
  refine calls_fr [.agg (algC (p : Int) (n : Int) T f), .agg (vecC v), .agg (vecC u)] Try.func24 rfl Try.ntmps24 rfl fun a hF => ?_
  have hM : Mem w w [none, none, none, none, none] [] := MemX.start w 5
  change Fr 19 a [(0, .agg (algC (p : Int) (n : Int) T f)), (1, .agg (vecC v)), (2, .agg (vecC u))] at hF
  have hp2 := hp.two
  have hp13 := hp.le
  have hT : ∀ i j k, T i j k ≤ 255 := fun i j k => by have := hTp i j k; omega
  have hVb : ∀ i c, vAtL [v, u] i c ≤ 255 := vAtL_le (fun x hx => by simp at hx; rcases hx with rfl | rfl <;> assumption)
  refine sq ?_
  refine wp_region_lit ?_
  refine stR hF (d_box 0 hM hF rfl) rfl ?_
  rintro _ w' a ⟨b1, rfl, hM, -⟩ hF
  change Mem w w' [some (b1, algC (p : Int) (n : Int) T f), none, none, none, none] [] at hM
  refine stR hF (d_box 1 hM hF rfl) rfl ?_
  rintro _ w' a ⟨b2, rfl, hM, -⟩ hF
  change Mem w w' [some (b1, algC (p : Int) (n : Int) T f), some (b2, vecC v), none, none, none] [] at hM
  refine stR hF (d_box 2 hM hF rfl) rfl ?_
  rintro _ w' a ⟨b3, rfl, hM, -⟩ hF
  change Mem w w' [some (b1, algC (p : Int) (n : Int) T f), some (b2, vecC v), some (b3, vecC u), none, none] [] at hM
  refine stR hF (d_alloc 3 hM ty_ze_28) rfl ?_
  rintro _ w' a ⟨b4, rfl, hM, -⟩ hF
  change Mem w w' [some (b1, algC (p : Int) (n : Int) T f), some (b2, vecC v), some (b3, vecC u), some (b4, fnC 6 (fun _ => .int .u8 (0))), none] [] at hM
  refine st hF (g_assign hF rfl) rfl fun a hF => ?_
  refine wpList_nil ?_
  refine tN ?_
  refine sq ?_
  refine sq ?_
  refine wp_region_lit ?_
  refine st hF (g_loadAgg ty_ag_30 hF rfl (hM.row 0 rfl) (by simp only [fnC_size, cells_size, vecC_size, tabC_size, planeC_size] <;> omega) (whole cells_size)) rfl fun a hF => st hF (g_loadAgg ty_ag_28 hF rfl (hM.row 1 rfl) (by simp only [fnC_size, cells_size, vecC_size, tabC_size, planeC_size] <;> omega) (whole (by simp only [fnC_size, cells_size, vecC_size, tabC_size, planeC_size]))) rfl fun a hF => st hF (g_loadAgg ty_ag_28 hF rfl (hM.row 2 rfl) (by simp only [fnC_size, cells_size, vecC_size, tabC_size, planeC_size] <;> omega) (whole (by simp only [fnC_size, cells_size, vecC_size, tabC_size, planeC_size]))) rfl fun a hF => ?_
  refine stR hF (d_buildC (vs := [(0, .agg (vecC v)), (1, .agg (vecC u))]) 4 hM hF (build2 hF rfl rfl) (fun w => ty_bsg_76_2 v u w)) rfl ?_
  rintro _ w' a ⟨b5, rfl, hM, -⟩ hF
  change Mem w w' [some (b1, algC (p : Int) (n : Int) T f), some (b2, vecC v), some (b3, vecC u), some (b4, fnC 6 (fun _ => .int .u8 (0))), some (b5, vecsC 2 (vAtL [v, u]))] [] at hM
  refine stR hF (d_call Try.call56 hF (.cons rfl (.cons rfl .nil)) ((CallsR.val (areVectors_ok (p : Int) (n : Int) T f b5 2 2 (vAtL [v, u]) _ (fun _ _ _ => hT _ _ _) (fun _ => hf _) hVb (by omega) (hM.row 4 rfl)) (congrArg Value.bool (decide_eq_true hc))))) rfl ?_
  rintro _ w' a ⟨hx, rfl⟩ hF
  have hM := hM.ext hx
  refine st hF (g_not hF rfl) rfl fun a hF => ?_
  refine wpList_nil ?_
  refine tN ?_
  refine c_Fl hF rfl ?_
  refine wp_skip ?_
  refine tN ?_
  refine sq ?_
  refine wp_region_lit ?_
  refine st hF (g_loadAgg ty_ag_30 hF rfl (hM.row 0 rfl) (by simp only [fnC_size, cells_size, vecC_size, tabC_size, planeC_size] <;> omega) (whole cells_size)) rfl fun a hF => st hF (g_loadAgg ty_ag_28 hF rfl (hM.row 1 rfl) (by simp only [fnC_size, cells_size, vecC_size, tabC_size, planeC_size] <;> omega) (whole (by simp only [fnC_size, cells_size, vecC_size, tabC_size, planeC_size]))) rfl fun a hF => st hF (g_loadAgg ty_ag_28 hF rfl (hM.row 2 rfl) (by simp only [fnC_size, cells_size, vecC_size, tabC_size, planeC_size] <;> omega) (whole (by simp only [fnC_size, cells_size, vecC_size, tabC_size, planeC_size]))) rfl fun a hF => ?_
  refine stR hF (d_call Try.call57 hF (.cons rfl (.cons rfl (.cons rfl .nil))) (product_ok p n T f (v) (u) _ (by omega) (by omega) (by omega) (fun _ _ _ => hT _ _ _) (fun _ => by first | exact hv _ | exact hu _ | exact hT _ _ _ | exact hf _ | omega | (split <;> omega) | (dsimp only; split <;> omega) | assumption) (fun _ => by first | exact hv _ | exact hu _ | exact hT _ _ _ | exact hf _ | omega | (split <;> omega) | (dsimp only; split <;> omega) | assumption))) rfl ?_
  rintro _ w' a ⟨hx, rfl⟩ hF
  have hM := hM.ext hx
  refine stN hF (d_storeAgg 3 hM rfl ty_sz_28 hF rfl rfl (by first | exact vecC_one | exact cells_one | (refine fnC_one fun _ _ => ?_; first | rfl | (split <;> rfl))) (by simp only [fnC_size, cells_size, vecC_size, tabC_size, planeC_size]) (by simp only [fnC_size, cells_size, vecC_size, tabC_size, planeC_size] <;> omega) (splice_whole _ _ (by simp only [fnC_size, cells_size, vecC_size, tabC_size, planeC_size]))) ?_
  intro _ w' a hM hF
  change Mem w w' [some (b1, algC (p : Int) (n : Int) T f), some (b2, vecC v), some (b3, vecC u), some (b4, vecC (timesV p n T (v) (u))), some (b5, vecsC 2 (vAtL [v, u]))] [] at hM
  refine st hF (g_assign hF rfl) rfl fun a hF => ?_
  refine wpList_nil ?_
  refine tN ?_
  refine wp_ret ?_
  refine fin2 rfl hF.defers (res_agg ty_ag_28 hF rfl (hM.row 3 rfl) (by simp only [fnC_size, cells_size, vecC_size, tabC_size, planeC_size])) (res_tmp hF rfl) ⟨_, rfl, hM.below, ?_⟩
  show _ = _
  rfl

theorem PairVectorsSA (p n : Int) (T : Nat → Nat → Nat → Nat) (f : Nat → Nat) (v : Nat → Nat) (u : Nat → Nat) (w : World) (hT : ∀ i j k, T i j k ≤ 255) (hf : ∀ i, f i ≤ 255) (hv : ∀ i, v i ≤ 255) (hu : ∀ i, u i ≤ 255) (hc : ¬ CodeP p n T f 2 (vAtL [v, u])) :
    CallsR Try.prog 39 #[.agg (algC p n T f), .agg (vecC v), .agg (vecC u)] w (fun res _ => res = .tuple #[.int .i64 0, .int .i64 1]) := by
  refine calls_fr [.agg (algC p n T f), .agg (vecC v), .agg (vecC u)] Try.func39 rfl Try.ntmps39 rfl fun a hF => ?_
  have hM : Mem w w [none, none, none, none] [] := MemX.start w 4
  change Fr 23 a [(0, .agg (algC p n T f)), (1, .agg (vecC v)), (2, .agg (vecC u))] at hF
  have hVb : ∀ i c, vAtL [v, u] i c ≤ 255 := vAtL_le (fun x hx => by simp at hx; rcases hx with rfl | rfl <;> assumption)
  refine sq ?_
  refine wp_region_lit ?_
  refine stR hF (d_box 0 hM hF rfl) rfl ?_
  rintro _ w' a ⟨b1, rfl, hM, -⟩ hF
  change Mem w w' [some (b1, algC p n T f), none, none, none] [] at hM
  refine stR hF (d_box 1 hM hF rfl) rfl ?_
  rintro _ w' a ⟨b2, rfl, hM, -⟩ hF
  change Mem w w' [some (b1, algC p n T f), some (b2, vecC v), none, none] [] at hM
  refine stR hF (d_box 2 hM hF rfl) rfl ?_
  rintro _ w' a ⟨b3, rfl, hM, -⟩ hF
  change Mem w w' [some (b1, algC p n T f), some (b2, vecC v), some (b3, vecC u), none] [] at hM
  refine st hF (g_assign hF rfl) rfl fun a hF => st hF (g_assign hF rfl) rfl fun a hF => ?_
  refine wpList_nil ?_
  refine tN ?_
  refine sq ?_
  refine sq ?_
  refine wp_region_lit ?_
  refine st hF (g_loadAgg ty_ag_30 hF rfl (hM.row 0 rfl) (by simp only [fnC_size, cells_size, vecC_size, tabC_size, planeC_size] <;> omega) (whole cells_size)) rfl fun a hF => st hF (g_loadAgg ty_ag_28 hF rfl (hM.row 1 rfl) (by simp only [fnC_size, cells_size, vecC_size, tabC_size, planeC_size] <;> omega) (whole (by simp only [fnC_size, cells_size, vecC_size, tabC_size, planeC_size]))) rfl fun a hF => st hF (g_loadAgg ty_ag_28 hF rfl (hM.row 2 rfl) (by simp only [fnC_size, cells_size, vecC_size, tabC_size, planeC_size] <;> omega) (whole (by simp only [fnC_size, cells_size, vecC_size, tabC_size, planeC_size]))) rfl fun a hF => ?_
  refine stR hF (d_buildC (vs := [(0, .agg (vecC v)), (1, .agg (vecC u))]) 3 hM hF (build2 hF rfl rfl) (fun w => ty_bsg_76_2 v u w)) rfl ?_
  rintro _ w' a ⟨b4, rfl, hM, -⟩ hF
  change Mem w w' [some (b1, algC p n T f), some (b2, vecC v), some (b3, vecC u), some (b4, vecsC 2 (vAtL [v, u]))] [] at hM
  refine stR hF (d_call Try.call50 hF (.cons rfl (.cons rfl .nil)) ((CallsR.val (l01Code_ok p n T f b4 2 2 (vAtL [v, u]) _ (fun _ _ _ => hT _ _ _) (fun _ => hf _) hVb (by omega) (hM.row 3 rfl)) (congrArg (Value.int .i64) (if_neg hc))))) rfl ?_
  rintro _ w' a ⟨hx, rfl⟩ hF
  have hM := hM.ext hx
  refine st hF (g_assign hF rfl) rfl fun a hF => ?_
  refine wpList_nil ?_
  refine tN ?_
  refine sq ?_
  refine wp_region_lit ?_
  refine st hF (g_move hF rfl) rfl fun a hF => st hF (g_neq hF rfl rfl) rfl fun a hF => ?_
  refine wpList_nil ?_
  refine tN ?_
  refine c_kT hF rfl (by decide) ?_
  refine sq ?_
  refine wp_region_lit ?_
  refine st hF (g_move hF rfl) rfl fun a hF => st hF (g_assign hF rfl) rfl fun a hF => st hF (g_assign hF rfl) rfl fun a hF => ?_
  refine wpList_nil ?_
  refine tN ?_
  refine wp_ret ?_
  refine tR ?_
  refine fin2 rfl hF.defers (res_tmp hF rfl) (res_tmp hF rfl) ⟨_, rfl, hM.below, ?_⟩
  show _ = _
  rfl

theorem PairVectorsSB (p n : Nat) (T : Nat → Nat → Nat → Nat) (f : Nat → Nat) (v : Nat → Nat) (u : Nat → Nat) (w : World) (hp : primeN p) (hn0 : 0 < n) (hn : n ≤ 6) (hTp : ∀ i j k, T i j k < p) (hT0 : ∀ i j k, n ≤ k → T i j k = 0) (hf : ∀ i, f i ≤ 255) (hv : ∀ i, v i ≤ 255) (hu : ∀ i, u i ≤ 255) (hc : CodeP (p : Int) (n : Int) T f 2 (vAtL [v, u])) :
    CallsR Try.prog 39 #[.agg (algC (p : Int) (n : Int) T f), .agg (vecC v), .agg (vecC u)] w (fun res _ => res = .tuple #[.int .i64 ((sumTo (fun i => f i * (timesS p n T v u) i) 6 % p : Nat) : Int), .int .i64 0]) := by
  refine calls_fr [.agg (algC (p : Int) (n : Int) T f), .agg (vecC v), .agg (vecC u)] Try.func39 rfl Try.ntmps39 rfl fun a hF => ?_
  have hM : Mem w w [none, none, none, none] [] := MemX.start w 4
  change Fr 23 a [(0, .agg (algC (p : Int) (n : Int) T f)), (1, .agg (vecC v)), (2, .agg (vecC u))] at hF
  have hp2 := hp.two
  have hp13 := hp.le
  have hT : ∀ i j k, T i j k ≤ 255 := fun i j k => by have := hTp i j k; omega
  have hVb : ∀ i c, vAtL [v, u] i c ≤ 255 := vAtL_le (fun x hx => by simp at hx; rcases hx with rfl | rfl <;> assumption)
  have hvt : ∀ c, timesV p n T v u c ≤ 255 := fun c => by have := Nat.mod_lt (prodI T v u n n c) (show 0 < p by omega); unfold timesV; omega
  have hvs : ∀ c, timesS p n T v u c ≤ 255 := fun c => by rw [← times_eq hT0]; exact hvt c
  refine sq ?_
  refine wp_region_lit ?_
  refine stR hF (d_box 0 hM hF rfl) rfl ?_
  rintro _ w' a ⟨b1, rfl, hM, -⟩ hF
  change Mem w w' [some (b1, algC (p : Int) (n : Int) T f), none, none, none] [] at hM
  refine stR hF (d_box 1 hM hF rfl) rfl ?_
  rintro _ w' a ⟨b2, rfl, hM, -⟩ hF
  change Mem w w' [some (b1, algC (p : Int) (n : Int) T f), some (b2, vecC v), none, none] [] at hM
  refine stR hF (d_box 2 hM hF rfl) rfl ?_
  rintro _ w' a ⟨b3, rfl, hM, -⟩ hF
  change Mem w w' [some (b1, algC (p : Int) (n : Int) T f), some (b2, vecC v), some (b3, vecC u), none] [] at hM
  refine st hF (g_assign hF rfl) rfl fun a hF => st hF (g_assign hF rfl) rfl fun a hF => ?_
  refine wpList_nil ?_
  refine tN ?_
  refine sq ?_
  refine sq ?_
  refine wp_region_lit ?_
  refine st hF (g_loadAgg ty_ag_30 hF rfl (hM.row 0 rfl) (by simp only [fnC_size, cells_size, vecC_size, tabC_size, planeC_size] <;> omega) (whole cells_size)) rfl fun a hF => st hF (g_loadAgg ty_ag_28 hF rfl (hM.row 1 rfl) (by simp only [fnC_size, cells_size, vecC_size, tabC_size, planeC_size] <;> omega) (whole (by simp only [fnC_size, cells_size, vecC_size, tabC_size, planeC_size]))) rfl fun a hF => st hF (g_loadAgg ty_ag_28 hF rfl (hM.row 2 rfl) (by simp only [fnC_size, cells_size, vecC_size, tabC_size, planeC_size] <;> omega) (whole (by simp only [fnC_size, cells_size, vecC_size, tabC_size, planeC_size]))) rfl fun a hF => ?_
  refine stR hF (d_buildC (vs := [(0, .agg (vecC v)), (1, .agg (vecC u))]) 3 hM hF (build2 hF rfl rfl) (fun w => ty_bsg_76_2 v u w)) rfl ?_
  rintro _ w' a ⟨b4, rfl, hM, -⟩ hF
  change Mem w w' [some (b1, algC (p : Int) (n : Int) T f), some (b2, vecC v), some (b3, vecC u), some (b4, vecsC 2 (vAtL [v, u]))] [] at hM
  refine stR hF (d_call Try.call50 hF (.cons rfl (.cons rfl .nil)) ((CallsR.val (l01Code_ok (p : Int) (n : Int) T f b4 2 2 (vAtL [v, u]) _ (fun _ _ _ => hT _ _ _) (fun _ => hf _) hVb (by omega) (hM.row 3 rfl)) (congrArg (Value.int .i64) (if_pos hc))))) rfl ?_
  rintro _ w' a ⟨hx, rfl⟩ hF
  have hM := hM.ext hx
  refine st hF (g_assign hF rfl) rfl fun a hF => ?_
  refine wpList_nil ?_
  refine tN ?_
  refine sq ?_
  refine wp_region_lit ?_
  refine st hF (g_move hF rfl) rfl fun a hF => st hF (g_neq hF rfl rfl) rfl fun a hF => ?_
  refine wpList_nil ?_
  refine tN ?_
  refine c_kF hF rfl (by decide) ?_
  refine wp_skip ?_
  refine tN ?_
  refine sq ?_
  refine c_par 5 [] [.val (.agg (algC (p : Int) (n : Int) T f)), .val (.agg (algC (p : Int) (n : Int) T f)), .val (.agg (vecC v)), .val (.agg (vecC u)), .val (.agg (vecC (timesS p n T (v) (u))))] hmix rfl hF rfl hM ⟨fun a w g hF hS hd => by have hM := hS.mem rfl; exact par_val hS rfl (g_loadAgg ty_ag_30 hF rfl (hM.row 0 rfl) (by simp only [fnC_size, cells_size, vecC_size, tabC_size, planeC_size] <;> omega) (whole cells_size)), fun a w g hF hS hd => by have hM := hS.mem rfl; exact par_val hS rfl (g_loadAgg ty_ag_30 hF rfl (hM.row 0 rfl) (by simp only [fnC_size, cells_size, vecC_size, tabC_size, planeC_size] <;> omega) (whole cells_size)), fun a w g hF hS hd => by have hM := hS.mem rfl; exact par_val hS rfl (g_loadAgg ty_ag_28 hF rfl (hM.row 1 rfl) (by simp only [fnC_size, cells_size, vecC_size, tabC_size, planeC_size] <;> omega) (whole (by simp only [fnC_size, cells_size, vecC_size, tabC_size, planeC_size]))), fun a w g hF hS hd => by have hM := hS.mem rfl; exact par_val hS rfl (g_loadAgg ty_ag_28 hF rfl (hM.row 2 rfl) (by simp only [fnC_size, cells_size, vecC_size, tabC_size, planeC_size] <;> omega) (whole (by simp only [fnC_size, cells_size, vecC_size, tabC_size, planeC_size]))), fun a w g hF hS hd => by have hF := hF.ext1 18 (hd 1 rfl rfl); have hF := hF.ext1 19 (hd 2 rfl rfl); have hF := hF.ext1 20 (hd 3 rfl rfl); exact par_call (by repeat constructor) hS rfl (d_call Try.call55 hF (.cons rfl (.cons rfl (.cons rfl .nil))) (l01Times_ok p n T f (v) (u) _ (by omega) (by omega) (by omega) (fun _ _ _ => hT _ _ _) (fun _ => by first | exact hv _ | exact hu _ | exact hT _ _ _ | exact hf _ | omega | (split <;> omega) | (dsimp only; split <;> omega) | assumption) (fun _ => by first | exact hv _ | exact hu _ | exact hT _ _ _ | exact hf _ | omega | (split <;> omega) | (dsimp only; split <;> omega) | assumption))), trivial⟩ ?_
  intro a w' L hF hS hq
  have hF := hF.ext1 17 (hq 0 rfl rfl)
  have hF := hF.ext1 18 (hq 1 rfl rfl)
  have hF := hF.ext1 19 (hq 2 rfl rfl)
  have hF := hF.ext1 20 (hq 3 rfl rfl)
  have hF := hF.ext1 21 (hq 4 rfl rfl)
  have hM := hS.mem rfl
  change wpList Try.prog _ _ [_, _, _] _ _
  refine stR hF (d_call Try.call63 hF (.cons rfl (.cons rfl .nil)) (l01Form_ok p n T f ((timesS p n T (v) (u))) _ (by omega) (fun _ => by first | exact hv _ | exact hvt _ | exact hvs _ | exact hu _ | exact hT _ _ _ | exact hf _ | omega | (split <;> omega) | (dsimp only; split <;> omega) | assumption) (fun _ => by first | exact hv _ | exact hvt _ | exact hvs _ | exact hu _ | exact hT _ _ _ | exact hf _ | omega | (split <;> omega) | (dsimp only; split <;> omega) | assumption))) rfl ?_
  rintro _ w' a ⟨hx, rfl⟩ hF
  have hM := hM.ext hx
  refine st hF (g_assign hF rfl) rfl fun a hF => st hF (g_assign hF rfl) rfl fun a hF => ?_
  refine wpList_nil ?_
  refine tN ?_
  refine wp_ret ?_
  refine fin2 rfl hF.defers (res_tmp hF rfl) (res_tmp hF rfl) ⟨_, rfl, hM.below, ?_⟩
  show _ = _
  rfl

theorem PairVectorsIA (p n : Int) (T : Nat → Nat → Nat → Nat) (f : Nat → Nat) (v : Nat → Nat) (u : Nat → Nat) (w : World) (hT : ∀ i j k, T i j k ≤ 255) (hf : ∀ i, f i ≤ 255) (hv : ∀ i, v i ≤ 255) (hu : ∀ i, u i ≤ 255) (hc : ¬ CodeP p n T f 2 (vAtL [v, u])) :
    CallsR Try.prog 40 #[.agg (algC p n T f), .agg (vecC v), .agg (vecC u)] w (fun res _ => res = .tuple #[.int .i64 0, .int .i64 1]) := by
  refine calls_fr [.agg (algC p n T f), .agg (vecC v), .agg (vecC u)] Try.func40 rfl Try.ntmps40 rfl fun a hF => ?_
  have hM : Mem w w [none, none, none, none] [] := MemX.start w 4
  change Fr 20 a [(0, .agg (algC p n T f)), (1, .agg (vecC v)), (2, .agg (vecC u))] at hF
  have hVb : ∀ i c, vAtL [v, u] i c ≤ 255 := vAtL_le (fun x hx => by simp at hx; rcases hx with rfl | rfl <;> assumption)
  refine sq ?_
  refine wp_region_lit ?_
  refine stR hF (d_box 0 hM hF rfl) rfl ?_
  rintro _ w' a ⟨b1, rfl, hM, -⟩ hF
  change Mem w w' [some (b1, algC p n T f), none, none, none] [] at hM
  refine stR hF (d_box 1 hM hF rfl) rfl ?_
  rintro _ w' a ⟨b2, rfl, hM, -⟩ hF
  change Mem w w' [some (b1, algC p n T f), some (b2, vecC v), none, none] [] at hM
  refine stR hF (d_box 2 hM hF rfl) rfl ?_
  rintro _ w' a ⟨b3, rfl, hM, -⟩ hF
  change Mem w w' [some (b1, algC p n T f), some (b2, vecC v), some (b3, vecC u), none] [] at hM
  refine st hF (g_assign hF rfl) rfl fun a hF => st hF (g_assign hF rfl) rfl fun a hF => ?_
  refine wpList_nil ?_
  refine tN ?_
  refine sq ?_
  refine sq ?_
  refine wp_region_lit ?_
  refine st hF (g_loadAgg ty_ag_30 hF rfl (hM.row 0 rfl) (by simp only [fnC_size, cells_size, vecC_size, tabC_size, planeC_size] <;> omega) (whole cells_size)) rfl fun a hF => st hF (g_loadAgg ty_ag_28 hF rfl (hM.row 1 rfl) (by simp only [fnC_size, cells_size, vecC_size, tabC_size, planeC_size] <;> omega) (whole (by simp only [fnC_size, cells_size, vecC_size, tabC_size, planeC_size]))) rfl fun a hF => st hF (g_loadAgg ty_ag_28 hF rfl (hM.row 2 rfl) (by simp only [fnC_size, cells_size, vecC_size, tabC_size, planeC_size] <;> omega) (whole (by simp only [fnC_size, cells_size, vecC_size, tabC_size, planeC_size]))) rfl fun a hF => ?_
  refine stR hF (d_buildC (vs := [(0, .agg (vecC v)), (1, .agg (vecC u))]) 3 hM hF (build2 hF rfl rfl) (fun w => ty_bsg_76_2 v u w)) rfl ?_
  rintro _ w' a ⟨b4, rfl, hM, -⟩ hF
  change Mem w w' [some (b1, algC p n T f), some (b2, vecC v), some (b3, vecC u), some (b4, vecsC 2 (vAtL [v, u]))] [] at hM
  refine stR hF (d_call Try.call56 hF (.cons rfl (.cons rfl .nil)) ((CallsR.val (areVectors_ok p n T f b4 2 2 (vAtL [v, u]) _ (fun _ _ _ => hT _ _ _) (fun _ => hf _) hVb (by omega) (hM.row 3 rfl)) (congrArg Value.bool (decide_eq_false hc))))) rfl ?_
  rintro _ w' a ⟨hx, rfl⟩ hF
  have hM := hM.ext hx
  refine st hF (g_not hF rfl) rfl fun a hF => ?_
  refine wpList_nil ?_
  refine tN ?_
  refine c_T hF rfl ?_
  refine sq ?_
  refine wp_region_lit ?_
  refine st hF (g_assign hF rfl) rfl fun a hF => st hF (g_assign hF rfl) rfl fun a hF => ?_
  refine wpList_nil ?_
  refine tN ?_
  refine wp_ret ?_
  refine tR ?_
  refine fin2 rfl hF.defers (res_tmp hF rfl) (res_tmp hF rfl) ⟨_, rfl, hM.below, ?_⟩
  show _ = _
  rfl

theorem PairVectorsIB (p n : Nat) (T : Nat → Nat → Nat → Nat) (f : Nat → Nat) (v : Nat → Nat) (u : Nat → Nat) (w : World) (hp : primeN p) (hn0 : 0 < n) (hn : n ≤ 6) (hTp : ∀ i j k, T i j k < p) (hT0 : ∀ i j k, n ≤ k → T i j k = 0) (hf : ∀ i, f i ≤ 255) (hv : ∀ i, v i ≤ 255) (hu : ∀ i, u i ≤ 255) (hc : CodeP (p : Int) (n : Int) T f 2 (vAtL [v, u])) :
    CallsR Try.prog 40 #[.agg (algC (p : Int) (n : Int) T f), .agg (vecC v), .agg (vecC u)] w (fun res _ => res = .tuple #[.int .i64 ((sumTo (fun i => (timesV p n T v u) i * f i) 6 % p : Nat) : Int), .int .i64 0]) := by
  refine calls_fr [.agg (algC (p : Int) (n : Int) T f), .agg (vecC v), .agg (vecC u)] Try.func40 rfl Try.ntmps40 rfl fun a hF => ?_
  have hM : Mem w w [none, none, none, none] [] := MemX.start w 4
  change Fr 20 a [(0, .agg (algC (p : Int) (n : Int) T f)), (1, .agg (vecC v)), (2, .agg (vecC u))] at hF
  have hp2 := hp.two
  have hp13 := hp.le
  have hT : ∀ i j k, T i j k ≤ 255 := fun i j k => by have := hTp i j k; omega
  have hVb : ∀ i c, vAtL [v, u] i c ≤ 255 := vAtL_le (fun x hx => by simp at hx; rcases hx with rfl | rfl <;> assumption)
  have hvt : ∀ c, timesV p n T v u c ≤ 255 := fun c => by have := Nat.mod_lt (prodI T v u n n c) (show 0 < p by omega); unfold timesV; omega
  have hvs : ∀ c, timesS p n T v u c ≤ 255 := fun c => by rw [← times_eq hT0]; exact hvt c
  refine sq ?_
  refine wp_region_lit ?_
  refine stR hF (d_box 0 hM hF rfl) rfl ?_
  rintro _ w' a ⟨b1, rfl, hM, -⟩ hF
  change Mem w w' [some (b1, algC (p : Int) (n : Int) T f), none, none, none] [] at hM
  refine stR hF (d_box 1 hM hF rfl) rfl ?_
  rintro _ w' a ⟨b2, rfl, hM, -⟩ hF
  change Mem w w' [some (b1, algC (p : Int) (n : Int) T f), some (b2, vecC v), none, none] [] at hM
  refine stR hF (d_box 2 hM hF rfl) rfl ?_
  rintro _ w' a ⟨b3, rfl, hM, -⟩ hF
  change Mem w w' [some (b1, algC (p : Int) (n : Int) T f), some (b2, vecC v), some (b3, vecC u), none] [] at hM
  refine st hF (g_assign hF rfl) rfl fun a hF => st hF (g_assign hF rfl) rfl fun a hF => ?_
  refine wpList_nil ?_
  refine tN ?_
  refine sq ?_
  refine sq ?_
  refine wp_region_lit ?_
  refine st hF (g_loadAgg ty_ag_30 hF rfl (hM.row 0 rfl) (by simp only [fnC_size, cells_size, vecC_size, tabC_size, planeC_size] <;> omega) (whole cells_size)) rfl fun a hF => st hF (g_loadAgg ty_ag_28 hF rfl (hM.row 1 rfl) (by simp only [fnC_size, cells_size, vecC_size, tabC_size, planeC_size] <;> omega) (whole (by simp only [fnC_size, cells_size, vecC_size, tabC_size, planeC_size]))) rfl fun a hF => st hF (g_loadAgg ty_ag_28 hF rfl (hM.row 2 rfl) (by simp only [fnC_size, cells_size, vecC_size, tabC_size, planeC_size] <;> omega) (whole (by simp only [fnC_size, cells_size, vecC_size, tabC_size, planeC_size]))) rfl fun a hF => ?_
  refine stR hF (d_buildC (vs := [(0, .agg (vecC v)), (1, .agg (vecC u))]) 3 hM hF (build2 hF rfl rfl) (fun w => ty_bsg_76_2 v u w)) rfl ?_
  rintro _ w' a ⟨b4, rfl, hM, -⟩ hF
  change Mem w w' [some (b1, algC (p : Int) (n : Int) T f), some (b2, vecC v), some (b3, vecC u), some (b4, vecsC 2 (vAtL [v, u]))] [] at hM
  refine stR hF (d_call Try.call56 hF (.cons rfl (.cons rfl .nil)) ((CallsR.val (areVectors_ok (p : Int) (n : Int) T f b4 2 2 (vAtL [v, u]) _ (fun _ _ _ => hT _ _ _) (fun _ => hf _) hVb (by omega) (hM.row 3 rfl)) (congrArg Value.bool (decide_eq_true hc))))) rfl ?_
  rintro _ w' a ⟨hx, rfl⟩ hF
  have hM := hM.ext hx
  refine st hF (g_not hF rfl) rfl fun a hF => ?_
  refine wpList_nil ?_
  refine tN ?_
  refine c_Fl hF rfl ?_
  refine wp_skip ?_
  refine tN ?_
  refine sq ?_
  refine c_par 5 [] [.val (.agg (algC (p : Int) (n : Int) T f)), .val (.agg (algC (p : Int) (n : Int) T f)), .val (.agg (vecC v)), .val (.agg (vecC u)), .val (.agg (vecC (timesV p n T (v) (u))))] hmix rfl hF rfl hM ⟨fun a w g hF hS hd => by have hM := hS.mem rfl; exact par_val hS rfl (g_loadAgg ty_ag_30 hF rfl (hM.row 0 rfl) (by simp only [fnC_size, cells_size, vecC_size, tabC_size, planeC_size] <;> omega) (whole cells_size)), fun a w g hF hS hd => by have hM := hS.mem rfl; exact par_val hS rfl (g_loadAgg ty_ag_30 hF rfl (hM.row 0 rfl) (by simp only [fnC_size, cells_size, vecC_size, tabC_size, planeC_size] <;> omega) (whole cells_size)), fun a w g hF hS hd => by have hM := hS.mem rfl; exact par_val hS rfl (g_loadAgg ty_ag_28 hF rfl (hM.row 1 rfl) (by simp only [fnC_size, cells_size, vecC_size, tabC_size, planeC_size] <;> omega) (whole (by simp only [fnC_size, cells_size, vecC_size, tabC_size, planeC_size]))), fun a w g hF hS hd => by have hM := hS.mem rfl; exact par_val hS rfl (g_loadAgg ty_ag_28 hF rfl (hM.row 2 rfl) (by simp only [fnC_size, cells_size, vecC_size, tabC_size, planeC_size] <;> omega) (whole (by simp only [fnC_size, cells_size, vecC_size, tabC_size, planeC_size]))), fun a w g hF hS hd => by have hF := hF.ext1 15 (hd 1 rfl rfl); have hF := hF.ext1 16 (hd 2 rfl rfl); have hF := hF.ext1 17 (hd 3 rfl rfl); exact par_call (by repeat constructor) hS rfl (d_call Try.call57 hF (.cons rfl (.cons rfl (.cons rfl .nil))) (product_ok p n T f (v) (u) _ (by omega) (by omega) (by omega) (fun _ _ _ => hT _ _ _) (fun _ => by first | exact hv _ | exact hu _ | exact hT _ _ _ | exact hf _ | omega | (split <;> omega) | (dsimp only; split <;> omega) | assumption) (fun _ => by first | exact hv _ | exact hu _ | exact hT _ _ _ | exact hf _ | omega | (split <;> omega) | (dsimp only; split <;> omega) | assumption))), trivial⟩ ?_
  intro a w' L hF hS hq
  have hF := hF.ext1 14 (hq 0 rfl rfl)
  have hF := hF.ext1 15 (hq 1 rfl rfl)
  have hF := hF.ext1 16 (hq 2 rfl rfl)
  have hF := hF.ext1 17 (hq 3 rfl rfl)
  have hF := hF.ext1 18 (hq 4 rfl rfl)
  have hM := hS.mem rfl
  change wpList Try.prog _ _ [_, _, _] _ _
  refine stR hF (d_call Try.call64 hF (.cons rfl (.cons rfl .nil)) (form_ok p n T f ((timesV p n T (v) (u))) _ (by omega) (fun _ => by first | exact hv _ | exact hvt _ | exact hvs _ | exact hu _ | exact hT _ _ _ | exact hf _ | omega | (split <;> omega) | (dsimp only; split <;> omega) | assumption) (fun _ => by first | exact hv _ | exact hvt _ | exact hvs _ | exact hu _ | exact hT _ _ _ | exact hf _ | omega | (split <;> omega) | (dsimp only; split <;> omega) | assumption))) rfl ?_
  rintro _ w' a ⟨hx, rfl⟩ hF
  have hM := hM.ext hx
  refine st hF (g_assign hF rfl) rfl fun a hF => st hF (g_assign hF rfl) rfl fun a hF => ?_
  refine wpList_nil ?_
  refine tN ?_
  refine wp_ret ?_
  refine fin2 rfl hF.defers (res_tmp hF rfl) (res_tmp hF rfl) ⟨_, rfl, hM.below, ?_⟩
  show _ = _
  rfl

theorem TraceOfSA (p n : Int) (T : Nat → Nat → Nat → Nat) (f : Nat → Nat) (v : Nat → Nat) (w : World) (hT : ∀ i j k, T i j k ≤ 255) (hf : ∀ i, f i ≤ 255) (hv : ∀ i, v i ≤ 255) (hc : ¬ CodeP p n T f 1 (vAtL [v])) :
    CallsR Try.prog 41 #[.agg (algC p n T f), .agg (vecC v)] w (fun res _ => res = .tuple #[.int .i64 0, .int .i64 1]) := by
  refine calls_fr [.agg (algC p n T f), .agg (vecC v)] Try.func41 rfl Try.ntmps41 rfl fun a hF => ?_
  have hM : Mem w w [none, none, none] [] := MemX.start w 3
  change Fr 36 a [(0, .agg (algC p n T f)), (1, .agg (vecC v))] at hF
  have hVb : ∀ i c, vAtL [v] i c ≤ 255 := vAtL_le (fun x hx => by simp at hx; subst hx <;> assumption)
  refine sq ?_
  refine wp_region_lit ?_
  refine stR hF (d_box 0 hM hF rfl) rfl ?_
  rintro _ w' a ⟨b1, rfl, hM, -⟩ hF
  change Mem w w' [some (b1, algC p n T f), none, none] [] at hM
  refine stR hF (d_box 1 hM hF rfl) rfl ?_
  rintro _ w' a ⟨b2, rfl, hM, -⟩ hF
  change Mem w w' [some (b1, algC p n T f), some (b2, vecC v), none] [] at hM
  refine st hF (g_assign hF rfl) rfl fun a hF => st hF (g_assign hF rfl) rfl fun a hF => ?_
  refine wpList_nil ?_
  refine tN ?_
  refine sq ?_
  refine sq ?_
  refine wp_region_lit ?_
  refine st hF (g_loadAgg ty_ag_30 hF rfl (hM.row 0 rfl) (by simp only [fnC_size, cells_size, vecC_size, tabC_size, planeC_size] <;> omega) (whole cells_size)) rfl fun a hF => st hF (g_loadAgg ty_ag_28 hF rfl (hM.row 1 rfl) (by simp only [fnC_size, cells_size, vecC_size, tabC_size, planeC_size] <;> omega) (whole (by simp only [fnC_size, cells_size, vecC_size, tabC_size, planeC_size]))) rfl fun a hF => ?_
  refine stR hF (d_buildC (vs := [(0, .agg (vecC v))]) 2 hM hF (build1 hF rfl) (fun w => ty_bsg_76_1 v w)) rfl ?_
  rintro _ w' a ⟨b3, rfl, hM, -⟩ hF
  change Mem w w' [some (b1, algC p n T f), some (b2, vecC v), some (b3, vecsC 1 (vAtL [v]))] [] at hM
  refine stR hF (d_call Try.call50 hF (.cons rfl (.cons rfl .nil)) ((CallsR.val (l01Code_ok p n T f b3 1 1 (vAtL [v]) _ (fun _ _ _ => hT _ _ _) (fun _ => hf _) hVb (by omega) (hM.row 2 rfl)) (congrArg (Value.int .i64) (if_neg hc))))) rfl ?_
  rintro _ w' a ⟨hx, rfl⟩ hF
  have hM := hM.ext hx
  refine st hF (g_assign hF rfl) rfl fun a hF => ?_
  refine wpList_nil ?_
  refine tN ?_
  refine sq ?_
  refine wp_region_lit ?_
  refine st hF (g_move hF rfl) rfl fun a hF => st hF (g_neq hF rfl rfl) rfl fun a hF => ?_
  refine wpList_nil ?_
  refine tN ?_
  refine c_kT hF rfl (by decide) ?_
  refine sq ?_
  refine wp_region_lit ?_
  refine st hF (g_move hF rfl) rfl fun a hF => st hF (g_assign hF rfl) rfl fun a hF => st hF (g_assign hF rfl) rfl fun a hF => ?_
  refine wpList_nil ?_
  refine tN ?_
  refine wp_ret ?_
  refine tR ?_
  refine fin2 rfl hF.defers (res_tmp hF rfl) (res_tmp hF rfl) ⟨_, rfl, hM.below, ?_⟩
  show _ = _
  rfl

theorem TraceOfSB (p n : Nat) (T : Nat → Nat → Nat → Nat) (f : Nat → Nat) (v : Nat → Nat) (w : World) (hp : primeN p) (hn0 : 0 < n) (hn : n ≤ 6) (hTp : ∀ i j k, T i j k < p) (hT0 : ∀ i j k, n ≤ k → T i j k = 0) (hf : ∀ i, f i ≤ 255) (hv : ∀ i, v i ≤ 255) (hc : CodeP (p : Int) (n : Int) T f 1 (vAtL [v])) :
    CallsR Try.prog 41 #[.agg (algC (p : Int) (n : Int) T f), .agg (vecC v)] w (fun res _ => res = .tuple #[.int .i64 ((sumTo (fun i => timesS p n T v (fun c => if c = i then 1 else 0) i) n % p : Nat) : Int), .int .i64 0]) := by
  refine calls_fr [.agg (algC (p : Int) (n : Int) T f), .agg (vecC v)] Try.func41 rfl Try.ntmps41 rfl fun a hF => ?_
  have hM : Mem w w [none, none, none] [] := MemX.start w 3
  change Fr 36 a [(0, .agg (algC (p : Int) (n : Int) T f)), (1, .agg (vecC v))] at hF
  have hp2 := hp.two
  have hp13 := hp.le
  have hT : ∀ i j k, T i j k ≤ 255 := fun i j k => by have := hTp i j k; omega
  have hVb : ∀ i c, vAtL [v] i c ≤ 255 := vAtL_le (fun x hx => by simp at hx; subst hx <;> assumption)
  have htb : ∀ i c, timesS p n T v (fun c => if c = i then 1 else 0) c ≤ 255 := fun i c => by rw [← times_eq hT0]; have := Nat.mod_lt (prodI T v (fun c => if c = i then 1 else 0) n n c) (show 0 < p by omega); unfold timesV; omega
  refine sq ?_
  refine wp_region_lit ?_
  refine stR hF (d_box 0 hM hF rfl) rfl ?_
  rintro _ w' a ⟨b1, rfl, hM, -⟩ hF
  change Mem w w' [some (b1, algC (p : Int) (n : Int) T f), none, none] [] at hM
  refine stR hF (d_box 1 hM hF rfl) rfl ?_
  rintro _ w' a ⟨b2, rfl, hM, -⟩ hF
  change Mem w w' [some (b1, algC (p : Int) (n : Int) T f), some (b2, vecC v), none] [] at hM
  refine st hF (g_assign hF rfl) rfl fun a hF => st hF (g_assign hF rfl) rfl fun a hF => ?_
  refine wpList_nil ?_
  refine tN ?_
  refine sq ?_
  refine sq ?_
  refine wp_region_lit ?_
  refine st hF (g_loadAgg ty_ag_30 hF rfl (hM.row 0 rfl) (by simp only [fnC_size, cells_size, vecC_size, tabC_size, planeC_size] <;> omega) (whole cells_size)) rfl fun a hF => st hF (g_loadAgg ty_ag_28 hF rfl (hM.row 1 rfl) (by simp only [fnC_size, cells_size, vecC_size, tabC_size, planeC_size] <;> omega) (whole (by simp only [fnC_size, cells_size, vecC_size, tabC_size, planeC_size]))) rfl fun a hF => ?_
  refine stR hF (d_buildC (vs := [(0, .agg (vecC v))]) 2 hM hF (build1 hF rfl) (fun w => ty_bsg_76_1 v w)) rfl ?_
  rintro _ w' a ⟨b3, rfl, hM, -⟩ hF
  change Mem w w' [some (b1, algC (p : Int) (n : Int) T f), some (b2, vecC v), some (b3, vecsC 1 (vAtL [v]))] [] at hM
  refine stR hF (d_call Try.call50 hF (.cons rfl (.cons rfl .nil)) ((CallsR.val (l01Code_ok (p : Int) (n : Int) T f b3 1 1 (vAtL [v]) _ (fun _ _ _ => hT _ _ _) (fun _ => hf _) hVb (by omega) (hM.row 2 rfl)) (congrArg (Value.int .i64) (if_pos hc))))) rfl ?_
  rintro _ w' a ⟨hx, rfl⟩ hF
  have hM := hM.ext hx
  refine st hF (g_assign hF rfl) rfl fun a hF => ?_
  refine wpList_nil ?_
  refine tN ?_
  refine sq ?_
  refine wp_region_lit ?_
  refine st hF (g_move hF rfl) rfl fun a hF => st hF (g_neq hF rfl rfl) rfl fun a hF => ?_
  refine wpList_nil ?_
  refine tN ?_
  refine c_kF hF rfl (by decide) ?_
  refine wp_skip ?_
  refine tN ?_
  refine sq ?_
  refine wp_region_lit ?_
  refine st hF (g_assign hF rfl) rfl fun a hF => ?_
  refine wpList_nil ?_
  refine tN ?_
  refine sq ?_
  refine sq ?_
  refine wp_region_lit ?_
  refine st hF (g_assign hF rfl) rfl fun a hF => ?_
  refine wpList_nil ?_
  refine tN ?_
  refine wp_block ?_
  change Mem w _ [some (b1, algC (p : Int) (n : Int) T f), some (b2, vecC v), some (b3, vecsC 1 (vAtL [v]))] [] at hM
  refine c_loop (fun (kk : Nat) a w' => kk ≤ n ∧ (True) ∧ Fr 36 a [(0, .agg (algC (p : Int) (n : Int) T f)), (1, .agg (vecC v)), (2, ptr b1 (0)), (3, ptr b2 (0)), (4, .int .i64 (0)), (5, .int .i64 (0)), (9, .agg (algC (p : Int) (n : Int) T f)), (10, .agg (vecC v)), (11, .slice (some ⟨b3, 0, none⟩) (1) (1)), (12, .int .i64 (0)), (6, .int .i64 (0)), (13, .int .i64 (0)), (14, .bool (decide ((0 : Int) ≠ 0))), (7, .int .i64 (((sumTo (fun i => timesS p n T v (fun c => if c = i then 1 else 0) i) kk : Nat) : Int))), (8, .int .i64 (((kk : Nat) : Int)))] ∧ Mem w w' [some (b1, algC (p : Int) (n : Int) T f), some (b2, vecC v), some (b3, vecsC 1 (vAtL [v]))] []) (fun kk => n - kk) 0 ?_ ?_
  ·
    refine ⟨by omega, trivial, hF.sub _ (by repeat' constructor), ?_⟩
    exact hM
  ·
    clear hF hM
    rintro gi a w' ⟨hgi, hinv1, hF, hM⟩
    have hsb := sumTo_le (m := gi) (c := 255) fun i (_ : i < gi) => (htb i i)
    have htg := htb gi gi
    refine sq ?_
    refine sq ?_
    refine wp_region_lit ?_
    refine st hF (g_move hF rfl) rfl fun a hF => st hF (g_fieldAddr ty_fo_30_1 hF rfl) rfl fun a hF => st hF (g_load ty_on_2 hF rfl (hM.row 0 rfl) (algC_n (by omega))) rfl fun a hF => st hF (g_lss hF rfl rfl) rfl fun a hF => ?_
    refine wpList_nil ?_
    refine tN ?_
    refine c_cond hF rfl (fun h5 => ?_) (fun h5 => ?_)
    ·
      refine wp_skip ?_
      refine tN ?_
      refine sq ?_
      refine wp_block ?_
      refine c_par 9 [] [.val (.int .i64 (((sumTo (fun i => timesS p n T v (fun c => if c = i then 1 else 0) i) gi : Nat) : Int))), .val (.agg (algC (p : Int) (n : Int) T f)), .val (.agg (vecC v)), .val (.int .i64 (((gi : Nat) : Int))), .val (.agg (vecC (fun c => if c = gi then 1 else 0))), .val (.agg (vecC (timesS p n T (v) ((fun c => if c = gi then 1 else 0))))), .val (.int .i64 (((gi : Nat) : Int))), .val (.int .u8 ((((timesS p n T (v) ((fun c => if c = gi then 1 else 0))) (gi) : Nat) : Int))), .val (.int .i64 ((((timesS p n T (v) ((fun c => if c = gi then 1 else 0))) (gi) : Nat) : Int)))] hmix rfl hF rfl hM ⟨fun a w g hF hS hd => by exact par_val hS rfl (g_move hF rfl), fun a w g hF hS hd => by have hM := hS.mem rfl; exact par_val hS rfl (g_loadAgg ty_ag_30 hF rfl (hM.row 0 rfl) (by simp only [fnC_size, cells_size, vecC_size, tabC_size, planeC_size] <;> omega) (whole cells_size)), fun a w g hF hS hd => by have hM := hS.mem rfl; exact par_val hS rfl (g_loadAgg ty_ag_28 hF rfl (hM.row 1 rfl) (by simp only [fnC_size, cells_size, vecC_size, tabC_size, planeC_size] <;> omega) (whole (by simp only [fnC_size, cells_size, vecC_size, tabC_size, planeC_size]))), fun a w g hF hS hd => by exact par_val hS rfl (g_move hF rfl), fun a w g hF hS hd => by have hF := hF.ext1 25 (hd 3 rfl rfl); exact par_call (by repeat constructor) hS rfl (d_call Try.call69 hF (.cons rfl .nil) (l01Basis_ok (gi) _ (by omega))), fun a w g hF hS hd => by have hF := hF.ext1 23 (hd 1 rfl rfl); have hF := hF.ext1 24 (hd 2 rfl rfl); have hF := hF.ext1 26 (hd 4 rfl rfl); exact par_call (by repeat constructor) hS rfl (d_call Try.call55 hF (.cons rfl (.cons rfl (.cons rfl .nil))) (l01Times_ok p n T f (v) ((fun c => if c = gi then 1 else 0)) _ (by omega) (by omega) (by omega) (fun _ _ _ => hT _ _ _) (fun _ => by first | exact hv _ | exact hu _ | exact hT _ _ _ | exact hf _ | omega | (split <;> omega) | (dsimp only; split <;> omega) | assumption) (fun _ => by first | exact hv _ | exact hu _ | exact hT _ _ _ | exact hf _ | omega | (split <;> omega) | (dsimp only; split <;> omega) | assumption))), fun a w g hF hS hd => by exact par_val hS rfl (g_move hF rfl), fun a w g hF hS hd => by have hF := hF.ext1 27 (hd 5 rfl rfl); have hF := hF.ext1 28 (hd 6 rfl rfl); exact par_val hS rfl (g_index ty_ua_28 ty_on_5 hF rfl rfl rfl (by omega) (vecC_get (gi) (by omega) (by omega))), fun a w g hF hS hd => by have hF := hF.ext1 29 (hd 7 rfl rfl); exact par_val hS rfl (g_conv ty_un_2 ty_ud_5 hF rfl (wrap_i64 (by omega) (by omega))), trivial⟩ ?_
      intro a w' L hF hS hq
      have hF := hF.ext1 22 (hq 0 rfl rfl)
      have hF := hF.ext1 23 (hq 1 rfl rfl)
      have hF := hF.ext1 24 (hq 2 rfl rfl)
      have hF := hF.ext1 25 (hq 3 rfl rfl)
      have hF := hF.ext1 26 (hq 4 rfl rfl)
      have hF := hF.ext1 27 (hq 5 rfl rfl)
      have hF := hF.ext1 28 (hq 6 rfl rfl)
      have hF := hF.ext1 29 (hq 7 rfl rfl)
      have hF := hF.ext1 30 (hq 8 rfl rfl)
      have hM := hS.mem rfl
      change wpList Try.prog _ _ [_, _] _ _
      refine st hF (g_add hF rfl rfl (show _ = ((sumTo (fun i => timesS p n T v (fun c => if c = i then 1 else 0) i) (gi + 1) : Nat) : Int) from (add_then (by omega) rfl))) rfl fun a hF => st hF (g_assign hF rfl) rfl fun a hF => ?_
      refine wpList_nil ?_
      refine iN ?_
      refine tN ?_
      refine wp_region_lit ?_
      refine st hF (g_move hF rfl) rfl fun a hF => st hF (g_add hF rfl rfl (add_nat (gi) (1) (by omega))) rfl fun a hF => st hF (g_assign hF rfl) rfl fun a hF => ?_
      refine wpList_nil ?_
      refine tN ?_
      refine ⟨gi + 1, ⟨by omega, trivial, hF.sub _ (by repeat' constructor), ?_⟩, by omega⟩
      exact hM
    ·
      obtain rfl : n = gi := by omega
      refine wp_exit ?_
      refine tX ?_
      refine tX ?_
      refine ib_same ?_
      refine tN ?_
      refine sq ?_
      refine wp_region_lit ?_
      refine st hF (g_move hF rfl) rfl fun a hF => st hF (g_fieldAddr ty_fo_30_0 hF rfl) rfl fun a hF => st hF (g_load ty_on_2 hF rfl (hM.row 0 rfl) (algC_p (by omega))) rfl fun a hF => st hF (g_rem hF rfl rfl (by omega) (rem_nat (sumTo (fun i => timesS p n T v (fun c => if c = i then 1 else 0) i) n) (p))) rfl fun a hF => st hF (g_assign hF rfl) rfl fun a hF => st hF (g_assign hF rfl) rfl fun a hF => ?_
      refine wpList_nil ?_
      refine tN ?_
      refine wp_ret ?_
      refine fin2 rfl hF.defers (res_tmp hF rfl) (res_tmp hF rfl) ⟨_, rfl, hM.below, ?_⟩
      show _ = _
      rfl

theorem TraceOfIA (p n : Int) (T : Nat → Nat → Nat → Nat) (f : Nat → Nat) (v : Nat → Nat) (w : World) (hT : ∀ i j k, T i j k ≤ 255) (hf : ∀ i, f i ≤ 255) (hv : ∀ i, v i ≤ 255) (hc : ¬ CodeP p n T f 1 (vAtL [v])) :
    CallsR Try.prog 42 #[.agg (algC p n T f), .agg (vecC v)] w (fun res _ => res = .tuple #[.int .i64 0, .int .i64 1]) := by
  refine calls_fr [.agg (algC p n T f), .agg (vecC v)] Try.func42 rfl Try.ntmps42 rfl fun a hF => ?_
  have hM : Mem w w [none, none, none] [] := MemX.start w 3
  change Fr 33 a [(0, .agg (algC p n T f)), (1, .agg (vecC v))] at hF
  have hVb : ∀ i c, vAtL [v] i c ≤ 255 := vAtL_le (fun x hx => by simp at hx; subst hx <;> assumption)
  refine sq ?_
  refine wp_region_lit ?_
  refine stR hF (d_box 0 hM hF rfl) rfl ?_
  rintro _ w' a ⟨b1, rfl, hM, -⟩ hF
  change Mem w w' [some (b1, algC p n T f), none, none] [] at hM
  refine stR hF (d_box 1 hM hF rfl) rfl ?_
  rintro _ w' a ⟨b2, rfl, hM, -⟩ hF
  change Mem w w' [some (b1, algC p n T f), some (b2, vecC v), none] [] at hM
  refine st hF (g_assign hF rfl) rfl fun a hF => st hF (g_assign hF rfl) rfl fun a hF => ?_
  refine wpList_nil ?_
  refine tN ?_
  refine sq ?_
  refine sq ?_
  refine wp_region_lit ?_
  refine st hF (g_loadAgg ty_ag_30 hF rfl (hM.row 0 rfl) (by simp only [fnC_size, cells_size, vecC_size, tabC_size, planeC_size] <;> omega) (whole cells_size)) rfl fun a hF => st hF (g_loadAgg ty_ag_28 hF rfl (hM.row 1 rfl) (by simp only [fnC_size, cells_size, vecC_size, tabC_size, planeC_size] <;> omega) (whole (by simp only [fnC_size, cells_size, vecC_size, tabC_size, planeC_size]))) rfl fun a hF => ?_
  refine stR hF (d_buildC (vs := [(0, .agg (vecC v))]) 2 hM hF (build1 hF rfl) (fun w => ty_bsg_76_1 v w)) rfl ?_
  rintro _ w' a ⟨b3, rfl, hM, -⟩ hF
  change Mem w w' [some (b1, algC p n T f), some (b2, vecC v), some (b3, vecsC 1 (vAtL [v]))] [] at hM
  refine stR hF (d_call Try.call56 hF (.cons rfl (.cons rfl .nil)) ((CallsR.val (areVectors_ok p n T f b3 1 1 (vAtL [v]) _ (fun _ _ _ => hT _ _ _) (fun _ => hf _) hVb (by omega) (hM.row 2 rfl)) (congrArg Value.bool (decide_eq_false hc))))) rfl ?_
  rintro _ w' a ⟨hx, rfl⟩ hF
  have hM := hM.ext hx
  refine st hF (g_not hF rfl) rfl fun a hF => ?_
  refine wpList_nil ?_
  refine tN ?_
  refine c_T hF rfl ?_
  refine sq ?_
  refine wp_region_lit ?_
  refine st hF (g_assign hF rfl) rfl fun a hF => st hF (g_assign hF rfl) rfl fun a hF => ?_
  refine wpList_nil ?_
  refine tN ?_
  refine wp_ret ?_
  refine tR ?_
  refine fin2 rfl hF.defers (res_tmp hF rfl) (res_tmp hF rfl) ⟨_, rfl, hM.below, ?_⟩
  show _ = _
  rfl

theorem TraceOfIB (p n : Nat) (T : Nat → Nat → Nat → Nat) (f : Nat → Nat) (v : Nat → Nat) (w : World) (hp : primeN p) (hn0 : 0 < n) (hn : n ≤ 6) (hTp : ∀ i j k, T i j k < p) (hT0 : ∀ i j k, n ≤ k → T i j k = 0) (hf : ∀ i, f i ≤ 255) (hv : ∀ i, v i ≤ 255) (hc : CodeP (p : Int) (n : Int) T f 1 (vAtL [v])) :
    CallsR Try.prog 42 #[.agg (algC (p : Int) (n : Int) T f), .agg (vecC v)] w (fun res _ => res = .tuple #[.int .i64 ((sumTo (fun i => timesV p n T v (fun c => if c = i then 1 else 0) i) n % p : Nat) : Int), .int .i64 0]) := by
  refine calls_fr [.agg (algC (p : Int) (n : Int) T f), .agg (vecC v)] Try.func42 rfl Try.ntmps42 rfl fun a hF => ?_
  have hM : Mem w w [none, none, none] [] := MemX.start w 3
  change Fr 33 a [(0, .agg (algC (p : Int) (n : Int) T f)), (1, .agg (vecC v))] at hF
  have hp2 := hp.two
  have hp13 := hp.le
  have hT : ∀ i j k, T i j k ≤ 255 := fun i j k => by have := hTp i j k; omega
  have hVb : ∀ i c, vAtL [v] i c ≤ 255 := vAtL_le (fun x hx => by simp at hx; subst hx <;> assumption)
  have htb : ∀ i c, timesV p n T v (fun c => if c = i then 1 else 0) c ≤ 255 := fun i c => by have := Nat.mod_lt (prodI T v (fun c => if c = i then 1 else 0) n n c) (show 0 < p by omega); unfold timesV; omega
  refine sq ?_
  refine wp_region_lit ?_
  refine stR hF (d_box 0 hM hF rfl) rfl ?_
  rintro _ w' a ⟨b1, rfl, hM, -⟩ hF
  change Mem w w' [some (b1, algC (p : Int) (n : Int) T f), none, none] [] at hM
  refine stR hF (d_box 1 hM hF rfl) rfl ?_
  rintro _ w' a ⟨b2, rfl, hM, -⟩ hF
  change Mem w w' [some (b1, algC (p : Int) (n : Int) T f), some (b2, vecC v), none] [] at hM
  refine st hF (g_assign hF rfl) rfl fun a hF => st hF (g_assign hF rfl) rfl fun a hF => ?_
  refine wpList_nil ?_
  refine tN ?_
  refine sq ?_
  refine sq ?_
  refine wp_region_lit ?_
  refine st hF (g_loadAgg ty_ag_30 hF rfl (hM.row 0 rfl) (by simp only [fnC_size, cells_size, vecC_size, tabC_size, planeC_size] <;> omega) (whole cells_size)) rfl fun a hF => st hF (g_loadAgg ty_ag_28 hF rfl (hM.row 1 rfl) (by simp only [fnC_size, cells_size, vecC_size, tabC_size, planeC_size] <;> omega) (whole (by simp only [fnC_size, cells_size, vecC_size, tabC_size, planeC_size]))) rfl fun a hF => ?_
  refine stR hF (d_buildC (vs := [(0, .agg (vecC v))]) 2 hM hF (build1 hF rfl) (fun w => ty_bsg_76_1 v w)) rfl ?_
  rintro _ w' a ⟨b3, rfl, hM, -⟩ hF
  change Mem w w' [some (b1, algC (p : Int) (n : Int) T f), some (b2, vecC v), some (b3, vecsC 1 (vAtL [v]))] [] at hM
  refine stR hF (d_call Try.call56 hF (.cons rfl (.cons rfl .nil)) ((CallsR.val (areVectors_ok (p : Int) (n : Int) T f b3 1 1 (vAtL [v]) _ (fun _ _ _ => hT _ _ _) (fun _ => hf _) hVb (by omega) (hM.row 2 rfl)) (congrArg Value.bool (decide_eq_true hc))))) rfl ?_
  rintro _ w' a ⟨hx, rfl⟩ hF
  have hM := hM.ext hx
  refine st hF (g_not hF rfl) rfl fun a hF => ?_
  refine wpList_nil ?_
  refine tN ?_
  refine c_Fl hF rfl ?_
  refine wp_skip ?_
  refine tN ?_
  refine sq ?_
  refine wp_region_lit ?_
  refine st hF (g_assign hF rfl) rfl fun a hF => ?_
  refine wpList_nil ?_
  refine tN ?_
  refine sq ?_
  refine sq ?_
  refine wp_region_lit ?_
  refine st hF (g_fieldAddr ty_fo_30_1 hF rfl) rfl fun a hF => st hF (g_load ty_on_2 hF rfl (hM.row 0 rfl) (algC_n (by omega))) rfl fun a hF => st hF (g_move hF rfl) rfl fun a hF => ?_
  refine wpList_nil ?_
  refine tN ?_
  refine wp_block ?_
  change Mem w _ [some (b1, algC (p : Int) (n : Int) T f), some (b2, vecC v), some (b3, vecsC 1 (vAtL [v]))] [] at hM
  refine c_loop (fun (kk : Nat) a w' => kk ≤ n ∧ (True) ∧ Fr 33 a [(0, .agg (algC (p : Int) (n : Int) T f)), (1, .agg (vecC v)), (2, ptr b1 (0)), (3, ptr b2 (0)), (4, .int .i64 (0)), (5, .int .i64 (0)), (8, .agg (algC (p : Int) (n : Int) T f)), (9, .agg (vecC v)), (10, .slice (some ⟨b3, 0, none⟩) (1) (1)), (11, .bool (true)), (12, .bool (false)), (13, ptr b1 (0 + 1)), (14, .int .i64 (((n : Nat) : Int))), (6, .int .i64 (((sumTo (fun i => timesV p n T v (fun c => if c = i then 1 else 0) i) kk : Nat) : Int))), (15, .int .i64 (((kk : Nat) : Int)))] ∧ Mem w w' [some (b1, algC (p : Int) (n : Int) T f), some (b2, vecC v), some (b3, vecsC 1 (vAtL [v]))] []) (fun kk => n - kk) 0 ?_ ?_
  ·
    refine ⟨by omega, trivial, hF.sub _ (by repeat' constructor), ?_⟩
    exact hM
  ·
    clear hF hM
    rintro gi a w' ⟨hgi, hinv1, hF, hM⟩
    have hsb := sumTo_le (m := gi) (c := 255) fun i (_ : i < gi) => (htb i i)
    have htg := htb gi gi
    refine sq ?_
    refine wp_region_lit ?_
    refine st hF (g_lss hF rfl rfl) rfl fun a hF => ?_
    refine wpList_nil ?_
    refine tN ?_
    refine sq ?_
    refine c_cond hF rfl (fun h5 => ?_) (fun h5 => ?_)
    ·
      refine wp_skip ?_
      refine tN ?_
      refine sq ?_
      refine wp_block ?_
      refine sq ?_
      refine wp_region_lit ?_
      refine st hF (g_move hF rfl) rfl fun a hF => st hF (g_assign hF rfl) rfl fun a hF => ?_
      refine wpList_nil ?_
      refine tN ?_
      refine c_par 9 [] [.val (.int .i64 (((sumTo (fun i => timesV p n T v (fun c => if c = i then 1 else 0) i) gi : Nat) : Int))), .val (.agg (algC (p : Int) (n : Int) T f)), .val (.agg (vecC v)), .val (.int .i64 (((gi : Nat) : Int))), .val (.agg (vecC (fun c => if c = gi then 1 else 0))), .val (.agg (vecC (timesV p n T (v) ((fun c => if c = gi then 1 else 0))))), .val (.int .i64 (((gi : Nat) : Int))), .val (.int .u8 ((((timesV p n T (v) ((fun c => if c = gi then 1 else 0))) (gi) : Nat) : Int))), .val (.int .i64 ((((timesV p n T (v) ((fun c => if c = gi then 1 else 0))) (gi) : Nat) : Int)))] hmix rfl hF rfl hM ⟨fun a w g hF hS hd => by exact par_val hS rfl (g_move hF rfl), fun a w g hF hS hd => by have hM := hS.mem rfl; exact par_val hS rfl (g_loadAgg ty_ag_30 hF rfl (hM.row 0 rfl) (by simp only [fnC_size, cells_size, vecC_size, tabC_size, planeC_size] <;> omega) (whole cells_size)), fun a w g hF hS hd => by have hM := hS.mem rfl; exact par_val hS rfl (g_loadAgg ty_ag_28 hF rfl (hM.row 1 rfl) (by simp only [fnC_size, cells_size, vecC_size, tabC_size, planeC_size] <;> omega) (whole (by simp only [fnC_size, cells_size, vecC_size, tabC_size, planeC_size]))), fun a w g hF hS hd => by exact par_val hS rfl (g_move hF rfl), fun a w g hF hS hd => by have hF := hF.ext1 21 (hd 3 rfl rfl); exact par_call (by repeat constructor) hS rfl (d_call Try.call70 hF (.cons rfl .nil) (basisVector_ok (gi) _ (by omega))), fun a w g hF hS hd => by have hF := hF.ext1 19 (hd 1 rfl rfl); have hF := hF.ext1 20 (hd 2 rfl rfl); have hF := hF.ext1 22 (hd 4 rfl rfl); exact par_call (by repeat constructor) hS rfl (d_call Try.call57 hF (.cons rfl (.cons rfl (.cons rfl .nil))) (product_ok p n T f (v) ((fun c => if c = gi then 1 else 0)) _ (by omega) (by omega) (by omega) (fun _ _ _ => hT _ _ _) (fun _ => by first | exact hv _ | exact hu _ | exact hT _ _ _ | exact hf _ | omega | (split <;> omega) | (dsimp only; split <;> omega) | assumption) (fun _ => by first | exact hv _ | exact hu _ | exact hT _ _ _ | exact hf _ | omega | (split <;> omega) | (dsimp only; split <;> omega) | assumption))), fun a w g hF hS hd => by exact par_val hS rfl (g_move hF rfl), fun a w g hF hS hd => by have hF := hF.ext1 23 (hd 5 rfl rfl); have hF := hF.ext1 24 (hd 6 rfl rfl); exact par_val hS rfl (g_index ty_ua_28 ty_on_5 hF rfl rfl rfl (by omega) (vecC_get (gi) (by omega) (by omega))), fun a w g hF hS hd => by have hF := hF.ext1 25 (hd 7 rfl rfl); exact par_val hS rfl (g_conv ty_un_2 ty_ud_5 hF rfl (wrap_i64 (by omega) (by omega))), trivial⟩ ?_
      intro a w' L hF hS hq
      have hF := hF.ext1 18 (hq 0 rfl rfl)
      have hF := hF.ext1 19 (hq 1 rfl rfl)
      have hF := hF.ext1 20 (hq 2 rfl rfl)
      have hF := hF.ext1 21 (hq 3 rfl rfl)
      have hF := hF.ext1 22 (hq 4 rfl rfl)
      have hF := hF.ext1 23 (hq 5 rfl rfl)
      have hF := hF.ext1 24 (hq 6 rfl rfl)
      have hF := hF.ext1 25 (hq 7 rfl rfl)
      have hF := hF.ext1 26 (hq 8 rfl rfl)
      have hM := hS.mem rfl
      change wpList Try.prog _ _ [_, _] _ _
      refine st hF (g_add hF rfl rfl (show _ = ((sumTo (fun i => timesV p n T v (fun c => if c = i then 1 else 0) i) (gi + 1) : Nat) : Int) from (add_then (by omega) rfl))) rfl fun a hF => st hF (g_assign hF rfl) rfl fun a hF => ?_
      refine wpList_nil ?_
      refine iN ?_
      refine tN ?_
      refine wp_region_lit ?_
      refine st hF (g_add hF rfl rfl (add_nat (gi) (1) (by omega))) rfl fun a hF => st hF (g_move hF rfl) rfl fun a hF => ?_
      refine wpList_nil ?_
      refine tN ?_
      refine ⟨gi + 1, ⟨by omega, trivial, hF.sub _ (by repeat' constructor), ?_⟩, by omega⟩
      exact hM
    ·
      obtain rfl : n = gi := by omega
      refine wp_exit ?_
      refine tX ?_
      refine tX ?_
      refine ib_same ?_
      refine tN ?_
      refine sq ?_
      refine wp_region_lit ?_
      refine st hF (g_move hF rfl) rfl fun a hF => st hF (g_fieldAddr ty_fo_30_0 hF rfl) rfl fun a hF => st hF (g_load ty_on_2 hF rfl (hM.row 0 rfl) (algC_p (by omega))) rfl fun a hF => st hF (g_rem hF rfl rfl (by omega) (rem_nat (sumTo (fun i => timesV p n T v (fun c => if c = i then 1 else 0) i) n) (p))) rfl fun a hF => st hF (g_assign hF rfl) rfl fun a hF => st hF (g_assign hF rfl) rfl fun a hF => ?_
      refine wpList_nil ?_
      refine tN ?_
      refine wp_ret ?_
      refine fin2 rfl hF.defers (res_tmp hF rfl) (res_tmp hF rfl) ⟨_, rfl, hM.below, ?_⟩
      show _ = _
      rfl

end Go.Proofs.Ytipnploakbdaiaa
