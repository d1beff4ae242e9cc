/- What functions of the program return, as walks over their operations; no statement of the seat is proved here. -/
import Derived.Test.YtnaabnhjokibfaaK2
import Derived.Test.YtnaabnhjokibfaaSw47
set_option linter.unusedVariables false
set_option linter.unusedSimpArgs false
namespace Go.Proofs.Ytnaabnhjokibfaa
open Go Go.RowKit Go.Sw Go.Ech
open Classical
theorem ty_si_77 : slI Try.prog 77 = some (5, some (.int .u8 (0)), 1, 1) := by kernel_rfl
theorem ty_ut_9 : Try.prog.underlying 9 = some .string := by kernel_rfl
theorem ty_bs0_77 : ∀ w, (Instr.buildSlice 77 0 #[]).run Try.prog w = .ok (.slice (some ⟨w.heap.size, 0, none⟩) 0 0) (w.alloc (.cells #[] 5)) := by intros; kernel_rfl
theorem ty_bs1_77 : ∀ (x : Int) (w : World), (Instr.buildSlice 77 1 #[(0, .int .u8 x)]).run Try.prog w = .ok (.slice (some ⟨w.heap.size, 0, none⟩) 1 1) (w.alloc (.cells #[.int .u8 x] 5)) := by intros; kernel_rfl
theorem ty_bsg_74_1 : ∀ (v0 : Nat → Nat) (w : World), (Instr.buildSlice 74 1 #[(0, .agg (vecC v0))]).run Try.prog w = .ok (.slice (some ⟨w.heap.size, 0, none⟩) 1 1) (w.alloc (.cells (vecsC 1 (vAtL [v0])) 34)) := by intros; kernel_rfl
theorem ty_ag_31 : aggP Try.prog 31 = some 224 := by kernel_rfl
theorem textOf_ok (p n : Nat) (T : Nat → Nat → Nat → Nat) (f v : Nat → Nat) (w : World) (hn0 : 0 < n) (hn : n ≤ 6) (hv13 : ∀ i, i < 6 → v i < 13) :
    CallsR Try.prog 42 #[.agg (algC (p : Int) (n : Int) T f), .agg (vecC v)] w (fun res _ => res = .string (txt n (fun i => dig (v i)))) := by
  refine calls_fr [.agg (algC (p : Int) (n : Int) T f), .agg (vecC v)] Try.func42 rfl Try.ntmps42 rfl fun a hF => ?_
  have hM : Mem w w [none, none, none] [] := MemX.start w 3
  change Fr 25 a [(0, .agg (algC (p : Int) (n : Int) T f)), (1, .agg (vecC v))] at hF
  refine sq ?_
  refine wp_region_lit ?_
  refine stR hF (d_box 0 hM hF rfl) rfl ?_
  rintro _ w' a ⟨b1, rfl, hM, -⟩ hF
  change Mem w w' [some (b1, algC (p : Int) (n : Int) T f), none, none] [] at hM
  refine stR hF (d_box 1 hM hF rfl) rfl ?_
  rintro _ w' a ⟨b2, rfl, hM, -⟩ hF
  change Mem w w' [some (b1, algC (p : Int) (n : Int) T f), some (b2, vecC v), none] [] at hM
  refine st hF (g_assign hF rfl) rfl fun a hF => ?_
  refine wpList_nil ?_
  refine tN ?_
  refine sq ?_
  refine wp_region_lit ?_
  refine st hF (g_fieldAddr ty_fo_36_1 hF rfl) rfl fun a hF => st hF (g_load ty_on_2 hF rfl (hM.row 0 rfl) (algC_n (by omega))) rfl fun a hF => ?_
  refine stR hF (d_make1b (len := n) 2 hM hF ty_si_77 rfl rfl rfl (by omega) (by decide)) rfl ?_
  rintro _ w' a ⟨b4, rfl, hM, -⟩ hF
  change Mem w w' [some (b1, algC (p : Int) (n : Int) T f), some (b2, vecC v), some (b4, dgC n (fun _ => 0))] [] at hM
  refine st hF (g_assign hF rfl) rfl fun a hF => ?_
  refine wpList_nil ?_
  refine tN ?_
  refine sq ?_
  refine sq ?_
  refine wp_region_lit ?_
  refine st hF (g_move hF rfl) rfl fun a hF => st hF (g_len ty_us_77 hF rfl) rfl fun a hF => st hF (g_move hF rfl) rfl fun a hF => ?_
  refine wpList_nil ?_
  refine tN ?_
  refine wp_block ?_
  change Mem w _ [some (b1, algC (p : Int) (n : Int) T f), some (b2, vecC v), some (b4, dgC n (fun _ => 0))] [] at hM
  refine c_loop (fun (kk : Nat) a w' => kk ≤ n ∧ (True) ∧ Fr 25 a [(0, .agg (algC (p : Int) (n : Int) T f)), (1, .agg (vecC v)), (2, ptr b1 (0)), (3, ptr b2 (0)), (4, .string (⟨#[]⟩)), (7, ptr b1 (0 + 1)), (8, .int .i64 (((n : Nat) : Int))), (9, .slice (some ⟨b4, 0, none⟩) (n) (n)), (5, .slice (some ⟨b4, 0, none⟩) (n) (n)), (10, .slice (some ⟨b4, 0, none⟩) (n) (n)), (11, .int .i64 (((n : Nat) : Int))), (12, .int .i64 (((kk : Nat) : Int)))] ∧ Mem w w' [some (b1, algC (p : Int) (n : Int) T f), some (b2, vecC v), some (b4, dgC n (fun c => if c < kk then dig (v c) else 0))] []) (fun kk => n - kk) 0 ?_ ?_
  ·
    refine ⟨by omega, trivial, hF.sub _ (by repeat' constructor), ?_⟩
    exact hM.rowc 2 rfl (dgC_congr fun c hc => by simp)
  ·
    clear hF hM
    rintro gi a w' ⟨hgi, hinv1, hF, hM⟩
    have hvk : gi < 6 → v gi < 13 := hv13 gi
    refine sq ?_
    refine wp_region_lit ?_
    refine st hF (g_lss hF rfl rfl) rfl fun a hF => ?_
    refine wpList_nil ?_
    refine tN ?_
    refine sq ?_
    refine c_cond hF rfl (fun h5 => ?_) (fun h5 => ?_)
    ·
      refine wp_skip ?_
      refine tN ?_
      refine sq ?_
      refine wp_block ?_
      refine sq ?_
      refine wp_region_lit ?_
      refine st hF (g_move hF rfl) rfl fun a hF => st hF (g_assign hF rfl) rfl fun a hF => ?_
      refine wpList_nil ?_
      refine tN ?_
      refine wp_region_lit ?_
      refine st hF (g_move hF rfl) rfl fun a hF => st hF (g_move hF rfl) rfl fun a hF => st hF (g_move hF rfl) rfl fun a hF => st hF (g_indexAddr ty_ar_34 hF rfl rfl rfl (by omega)) rfl fun a hF => st hF (g_load ty_on_5 hF rfl (hM.row 1 rfl) (vecC_get (gi) (by omega) (by omega))) rfl fun a hF => st hF (g_indexS (s := digs) (i := v (gi)) ty_ut_9 hF rfl rfl rfl (digs_size (hv13 _ (by omega)))) rfl fun a hF => st hF (g_indexSl (i := gi) ty_sl_77 hF rfl rfl rfl (by omega)) rfl fun a hF => ?_
      refine stN hF (d_store 2 hM rfl ty_on_5 hF rfl rfl rfl (by first | omega | (simp only [fnC_size, cells_size, vecC_size, tabC_size, planeC_size, dgC_size] <;> omega))) ?_
      intro _ w' a hM hF
      change Mem w w' [some (b1, algC (p : Int) (n : Int) T f), some (b2, vecC v), some (b4, (dgC n (fun c => if c < gi then dig (v c) else 0)).setIfInBounds (0 + (gi) * 1) (.int .u8 (((byt digs (v (gi)) : Nat) : Int))))] [] at hM
      refine wpList_nil ?_
      refine iN ?_
      refine tN ?_
      refine wp_region_lit ?_
      refine st hF (g_add hF rfl rfl (add_nat (gi) (1) (by omega))) rfl fun a hF => st hF (g_move hF rfl) rfl fun a hF => ?_
      refine wpList_nil ?_
      refine tN ?_
      refine ⟨gi + 1, ⟨by omega, trivial, hF.sub _ (by repeat' constructor), ?_⟩, by omega⟩
      refine hM.rowc 2 rfl (dgC_set (k := gi) (by omega) (congrArg Nat.cast (by rw [byt_digs (hvk (by omega))]; simp)) (fun c hc he => ?_))
      have e0 : (c < gi + 1) = (c < gi) := by apply propext; omega
      simp only [e0]
    ·
      obtain rfl : n = gi := by omega
      have hM := hM.rowc (cs' := dgC n (fun i => dig (v i))) 2 rfl (dgC_congr fun c hc => if_pos hc)
      refine wp_exit ?_
      refine tX ?_
      refine tX ?_
      refine ib_same ?_
      refine tN ?_
      refine sq ?_
      refine wp_region_lit ?_
      refine st hF (g_move hF rfl) rfl fun a hF => st hF (g_b2sN (g := (fun i => dig (v i))) ty_us_77 ty_ut_9 ty_un_5 hF rfl (hM.row 2 rfl) (fun i hi => dgC_get (k := i) (by omega) (by omega))) rfl fun a hF => st hF (g_assign hF rfl) rfl fun a hF => ?_
      refine wpList_nil ?_
      refine tN ?_
      refine wp_ret ?_
      refine fin1 rfl hF.defers (res_tmp hF rfl) ⟨_, rfl, hM.below, ?_⟩
      show _ = _
      rfl

theorem l01VectorText_ok (p n : Nat) (T : Nat → Nat → Nat → Nat) (f v : Nat → Nat) (w : World) (hn0 : 0 < n) (hn : n ≤ 6) (hv13 : ∀ i, i < 6 → v i < 13) :
    CallsR Try.prog 39 #[.agg (algC (p : Int) (n : Int) T f), .agg (vecC v)] w (fun res _ => res = .string (txt n (fun i => dig (v i)))) := by
  refine calls_fr [.agg (algC (p : Int) (n : Int) T f), .agg (vecC v)] Try.func39 rfl Try.ntmps39 rfl fun a hF => ?_
  have hM : Mem w w [none, none, none, none, none] [] := MemX.start w 5
  change Fr 35 a [(0, .agg (algC (p : Int) (n : Int) T f)), (1, .agg (vecC v))] at hF
  refine sq ?_
  refine wp_region_lit ?_
  refine stR hF (d_box 0 hM hF rfl) rfl ?_
  rintro _ w' a ⟨b1, rfl, hM, -⟩ hF
  change Mem w w' [some (b1, algC (p : Int) (n : Int) T f), none, none, none, none] [] at hM
  refine stR hF (d_box 1 hM hF rfl) rfl ?_
  rintro _ w' a ⟨b2, rfl, hM, -⟩ hF
  change Mem w w' [some (b1, algC (p : Int) (n : Int) T f), some (b2, vecC v), none, none, none] [] at hM
  refine st hF (g_assign hF rfl) rfl fun a hF => ?_
  refine wpList_nil ?_
  refine tN ?_
  refine sq ?_
  refine wp_region_lit ?_
  refine stR hF (d_buildC 2 hM hF rfl ty_bs0_77) rfl ?_
  rintro _ w' a ⟨b3, rfl, hM, -⟩ hF
  change Mem w w' [some (b1, algC (p : Int) (n : Int) T f), some (b2, vecC v), some (b3, #[]), none, none] [] at hM
  refine st hF (g_assign hF rfl) rfl fun a hF => ?_
  refine wpList_nil ?_
  refine tN ?_
  refine sq ?_
  refine sq ?_
  refine wp_region_lit ?_
  refine st hF (g_assign hF rfl) rfl fun a hF => ?_
  refine wpList_nil ?_
  refine tN ?_
  refine wp_block ?_
  change Mem w _ [some (b1, algC (p : Int) (n : Int) T f), some (b2, vecC v), some (b3, #[]), none, none] [] at hM
  refine c_loop (fun (kk : Nat) a w' => kk ≤ n ∧ (True) ∧ ∃ (u5_1 : Value) (e5_1 : Option (Nat × Array Value)), Sl 1 u5_1 e5_1 (kk) (fun i => .int .u8 ((dig (v i) : Nat) : Int)) ∧ Fr 35 a [(0, .agg (algC (p : Int) (n : Int) T f)), (1, .agg (vecC v)), (2, ptr b1 (0)), (3, ptr b2 (0)), (4, .string (⟨#[]⟩)), (7, .slice (some ⟨b3, 0, none⟩) (0) (0)), (6, .int .i64 (((kk : Nat) : Int))), (5, u5_1)] ∧ Mem w w' [some (b1, algC (p : Int) (n : Int) T f), some (b2, vecC v), e5_1, none, none] []) (fun kk => n - kk) 0 ?_ ?_
  ·
    refine ⟨by omega, trivial, (.slice (some ⟨b3, 0, none⟩) (0) (0)), (some (b3, #[])), Sl.empty _ _ _, hF.sub _ (by repeat' constructor), ?_⟩
    exact hM
  ·
    clear hF hM
    rintro gi a w' ⟨hgi, hinv1, u5_1, e5_1, hsl, hF, hM⟩
    have hvk : gi < 6 → v gi < 13 := hv13 gi
    refine sq ?_
    refine sq ?_
    refine wp_region_lit ?_
    refine st hF (g_move hF rfl) rfl fun a hF => st hF (g_fieldAddr ty_fo_36_1 hF rfl) rfl fun a hF => st hF (g_load ty_on_2 hF rfl (hM.row 0 rfl) (algC_n (by omega))) rfl fun a hF => st hF (g_lss hF rfl rfl) rfl fun a hF => ?_
    refine wpList_nil ?_
    refine tN ?_
    refine c_cond hF rfl (fun h4 => ?_) (fun h4 => ?_)
    ·
      refine wp_skip ?_
      refine tN ?_
      refine sq ?_
      refine wp_block ?_
      refine sq ?_
      refine wp_region_lit ?_
      refine st hF (g_move hF rfl) rfl fun a hF => st hF (g_indexAddr ty_ar_34 hF rfl rfl rfl (by omega)) rfl fun a hF => st hF (g_load ty_on_5 hF rfl (hM.row 1 rfl) (vecC_get (gi) (by omega) (by omega))) rfl fun a hF => st hF (g_lss hF rfl rfl) rfl fun a hF => ?_
      refine wpList_nil ?_
      refine tN ?_
      refine c_cond hF rfl (fun h5 => ?_) (fun h5 => ?_)
      ·
        refine wp_region_lit ?_
        refine st hF (g_move hF rfl) rfl fun a hF => st hF (g_move hF rfl) rfl fun a hF => st hF (g_indexAddr ty_ar_34 hF rfl rfl rfl (by omega)) rfl fun a hF => st hF (g_load ty_on_5 hF rfl (hM.row 1 rfl) (vecC_get (gi) (by omega) (by omega))) rfl fun a hF => st hF (g_add hF rfl rfl (show _ = ((48 + v gi : Nat) : Int) from (by rw [wrap_u8 (by omega) (by omega)]; omega))) rfl fun a hF => ?_
        refine stR hF (d_buildC 3 hM hF (build1 hF rfl) (ty_bs1_77 _)) rfl ?_
        rintro _ w' a ⟨b6, rfl, hM, -⟩ hF
        change Mem w w' [some (b1, algC (p : Int) (n : Int) T f), some (b2, vecC v), e5_1, some (b6, #[.int .u8 (((48 + v gi : Nat) : Int))]), none] [] at hM
        refine stR hF (d_append (k := 2) (m := 1) (g := fun _ => .int .u8 (((48 + v gi : Nat) : Int))) ty_si_77 rfl (by decide) hM rfl hF rfl rfl hsl (fun i hi => by rw [show i = 0 by omega]; exact (hM.row 3 rfl).cell 0) (fun _ _ => rfl) (by decide) (by unfold maxLen; omega) (by omega)) rfl ?_
        rintro u7 w' a ⟨e8, hM, hs9⟩ hF
        change Mem w w' [some (b1, algC (p : Int) (n : Int) T f), some (b2, vecC v), e8, some (b6, #[.int .u8 (((48 + v gi : Nat) : Int))]), none] [] at hM
        refine st hF (g_assign hF rfl) rfl fun a hF => ?_
        refine wpList_nil ?_
        refine iN ?_
        refine tN ?_
        refine wp_region_lit ?_
        refine st hF (g_move hF rfl) rfl fun a hF => st hF (g_add hF rfl rfl (add_nat (gi) (1) (by omega))) rfl fun a hF => st hF (g_assign hF rfl) rfl fun a hF => ?_
        refine wpList_nil ?_
        refine tN ?_
        have hM := hM.drop 3
        refine ⟨gi + 1, ⟨by omega, trivial, (u7), (e8), (hs9.snoc (congrArg (Value.int .u8) (by unfold dig; split <;> omega))), hF.sub _ (by repeat' constructor), ?_⟩, by omega⟩
        exact hM
      ·
        refine wp_region_lit ?_
        refine st hF (g_move hF rfl) rfl fun a hF => st hF (g_move hF rfl) rfl fun a hF => st hF (g_indexAddr ty_ar_34 hF rfl rfl rfl (by omega)) rfl fun a hF => st hF (g_load ty_on_5 hF rfl (hM.row 1 rfl) (vecC_get (gi) (by omega) (by omega))) rfl fun a hF => st hF (g_add hF rfl rfl (show _ = ((97 + v gi : Nat) : Int) from (by rw [wrap_u8 (by omega) (by omega)]; omega))) rfl fun a hF => st hF (g_sub hF rfl rfl (wrap_u8 (by omega) (by omega))) rfl fun a hF => ?_
        refine stR hF (d_buildC 4 hM hF (build1 hF rfl) (ty_bs1_77 _)) rfl ?_
        rintro _ w' a ⟨b10, rfl, hM, -⟩ hF
        change Mem w w' [some (b1, algC (p : Int) (n : Int) T f), some (b2, vecC v), e5_1, none, some (b10, #[.int .u8 (((97 + v gi : Nat) : Int) - 10)])] [] at hM
        refine stR hF (d_append (k := 2) (m := 1) (g := fun _ => .int .u8 (((97 + v gi : Nat) : Int) - 10)) ty_si_77 rfl (by decide) hM rfl hF rfl rfl hsl (fun i hi => by rw [show i = 0 by omega]; exact (hM.row 4 rfl).cell 0) (fun _ _ => rfl) (by decide) (by unfold maxLen; omega) (by omega)) rfl ?_
        rintro u11 w' a ⟨e12, hM, hs13⟩ hF
        change Mem w w' [some (b1, algC (p : Int) (n : Int) T f), some (b2, vecC v), e12, none, some (b10, #[.int .u8 (((97 + v gi : Nat) : Int) - 10)])] [] at hM
        refine st hF (g_assign hF rfl) rfl fun a hF => ?_
        refine wpList_nil ?_
        refine iN ?_
        refine tN ?_
        refine wp_region_lit ?_
        refine st hF (g_move hF rfl) rfl fun a hF => st hF (g_add hF rfl rfl (add_nat (gi) (1) (by omega))) rfl fun a hF => st hF (g_assign hF rfl) rfl fun a hF => ?_
        refine wpList_nil ?_
        refine tN ?_
        have hM := hM.drop 4
        refine ⟨gi + 1, ⟨by omega, trivial, (u11), (e12), (hs13.snoc (congrArg (Value.int .u8) (by unfold dig; split <;> omega))), hF.sub _ (by repeat' constructor), ?_⟩, by omega⟩
        exact hM
    ·
      obtain rfl : n = gi := by omega
      obtain ⟨b0, c0, cs0, rfl, rfl, hs0⟩ := hsl.pos hn0
      change Mem w _ [some (b1, algC (p : Int) (n : Int) T f), some (b2, vecC v), some (b0, cs0), none, none] [] at hM
      refine wp_exit ?_
      refine tX ?_
      refine tX ?_
      refine ib_same ?_
      refine tN ?_
      refine sq ?_
      refine wp_region_lit ?_
      refine st hF (g_move hF rfl) rfl fun a hF => st hF (g_b2sN (g := (fun i => dig (v i))) ty_us_77 ty_ut_9 ty_un_5 hF rfl (hM.row 2 rfl) hs0.get1) rfl fun a hF => st hF (g_assign hF rfl) rfl fun a hF => ?_
      refine wpList_nil ?_
      refine tN ?_
      refine wp_ret ?_
      refine fin1 rfl hF.defers (res_tmp hF rfl) ⟨_, rfl, hM.below, ?_⟩
      show _ = _
      rfl

theorem VectorTextSA (p n : Int) (T : Nat → Nat → Nat → Nat) (f : Nat → Nat) (v : Nat → Nat) (w : World) (hT : ∀ i j k, T i j k ≤ 255) (hf : ∀ i, f i ≤ 255) (hv : ∀ i, v i ≤ 255) (hc : ¬ CodeP p n T f 1 (vAtL [v])) :
    CallsR Try.prog 17 #[.agg (algC p n T f), .agg (vecC v)] w (fun res _ => res = .tuple #[.string ⟨#[]⟩, .int .i64 1]) := by
  refine calls_fr [.agg (algC p n T f), .agg (vecC v)] Try.func17 rfl Try.ntmps17 rfl fun a hF => ?_
  have hM : Mem w w [none, none, none] [] := MemX.start w 3
  change Fr 17 a [(0, .agg (algC p n T f)), (1, .agg (vecC v))] at hF
  have hVb : ∀ i c, vAtL [v] i c ≤ 255 := vAtL_le (fun x hx => by simp at hx; subst hx <;> assumption)
  refine sq ?_
  refine wp_region_lit ?_
  refine stR hF (d_box 0 hM hF rfl) rfl ?_
  rintro _ w' a ⟨b1, rfl, hM, -⟩ hF
  change Mem w w' [some (b1, algC p n T f), none, none] [] at hM
  refine stR hF (d_box 1 hM hF rfl) rfl ?_
  rintro _ w' a ⟨b2, rfl, hM, -⟩ hF
  change Mem w w' [some (b1, algC p n T f), some (b2, vecC v), none] [] at hM
  refine st hF (g_assign hF rfl) rfl fun a hF => st hF (g_assign hF rfl) rfl fun a hF => ?_
  refine wpList_nil ?_
  refine tN ?_
  refine sq ?_
  refine sq ?_
  refine wp_region_lit ?_
  refine st hF (g_loadAgg ty_ag_36 hF rfl (hM.row 0 rfl) (by simp only [fnC_size, cells_size, vecC_size, tabC_size, planeC_size, dgC_size] <;> omega) (whole cells_size)) rfl fun a hF => st hF (g_loadAgg ty_ag_34 hF rfl (hM.row 1 rfl) (by simp only [fnC_size, cells_size, vecC_size, tabC_size, planeC_size, dgC_size] <;> omega) (whole (by simp only [fnC_size, cells_size, vecC_size, tabC_size, planeC_size, dgC_size]))) rfl fun a hF => ?_
  refine stR hF (d_buildC (vs := [(0, .agg (vecC v))]) 2 hM hF (build1 hF rfl) (fun w => ty_bsg_74_1 v w)) rfl ?_
  rintro _ w' a ⟨b3, rfl, hM, -⟩ hF
  change Mem w w' [some (b1, algC p n T f), some (b2, vecC v), some (b3, vecsC 1 (vAtL [v]))] [] at hM
  refine stR hF (d_call Try.call38 hF (.cons rfl (.cons rfl .nil)) ((CallsR.val (l01Code_ok p n T f b3 1 1 (vAtL [v]) _ (fun _ _ _ => hT _ _ _) (fun _ => hf _) hVb (by omega) (hM.row 2 rfl)) (congrArg (Value.int .i64) (if_neg hc))))) rfl ?_
  rintro _ w' a ⟨hx, rfl⟩ hF
  have hM := hM.ext hx
  refine st hF (g_assign hF rfl) rfl fun a hF => ?_
  refine wpList_nil ?_
  refine tN ?_
  refine sq ?_
  refine wp_region_lit ?_
  refine st hF (g_move hF rfl) rfl fun a hF => st hF (g_neq hF rfl rfl) rfl fun a hF => ?_
  refine wpList_nil ?_
  refine tN ?_
  refine c_kT hF rfl (by decide) ?_
  refine sq ?_
  refine wp_region_lit ?_
  refine st hF (g_move hF rfl) rfl fun a hF => st hF (g_assign hF rfl) rfl fun a hF => st hF (g_assign hF rfl) rfl fun a hF => ?_
  refine wpList_nil ?_
  refine tN ?_
  refine wp_ret ?_
  refine tR ?_
  refine fin2 rfl hF.defers (res_tmp hF rfl) (res_tmp hF rfl) ⟨_, rfl, hM.below, ?_⟩
  show _ = _
  rfl

theorem VectorTextSB (p n : Nat) (T : Nat → Nat → Nat → Nat) (f : Nat → Nat) (v : Nat → Nat) (w : World) (hp : primeN p) (hn0 : 0 < n) (hn : n ≤ 6) (hTp : ∀ i j k, T i j k < p) (hT0 : ∀ i j k, n ≤ k → T i j k = 0) (hf : ∀ i, f i ≤ 255) (hv : ∀ i, v i ≤ 255) (hc : CodeP (p : Int) (n : Int) T f 1 (vAtL [v])) :
    CallsR Try.prog 17 #[.agg (algC (p : Int) (n : Int) T f), .agg (vecC v)] w (fun res _ => res = .tuple #[.string (txt n (fun i => dig (v i))), .int .i64 0]) := by
  refine calls_fr [.agg (algC (p : Int) (n : Int) T f), .agg (vecC v)] Try.func17 rfl Try.ntmps17 rfl fun a hF => ?_
  have hM : Mem w w [none, none, none] [] := MemX.start w 3
  change Fr 17 a [(0, .agg (algC (p : Int) (n : Int) T f)), (1, .agg (vecC v))] at hF
  have hp2 := hp.two
  have hp13 := hp.le
  have hT : ∀ i j k, T i j k ≤ 255 := fun i j k => by have := hTp i j k; omega
  have hVb : ∀ i c, vAtL [v] i c ≤ 255 := vAtL_le (fun x hx => by simp at hx; subst hx <;> assumption)
  have hv13 : ∀ i, i < 6 → v i < 13 := fun i hi => by have h1 : okV (p : Int) (n : Int) v := hc.2 0 (by omega); have h2 := h1 i hi; unfold okN at h2; omega
  refine sq ?_
  refine wp_region_lit ?_
  refine stR hF (d_box 0 hM hF rfl) rfl ?_
  rintro _ w' a ⟨b1, rfl, hM, -⟩ hF
  change Mem w w' [some (b1, algC (p : Int) (n : Int) T f), none, none] [] at hM
  refine stR hF (d_box 1 hM hF rfl) rfl ?_
  rintro _ w' a ⟨b2, rfl, hM, -⟩ hF
  change Mem w w' [some (b1, algC (p : Int) (n : Int) T f), some (b2, vecC v), none] [] at hM
  refine st hF (g_assign hF rfl) rfl fun a hF => st hF (g_assign hF rfl) rfl fun a hF => ?_
  refine wpList_nil ?_
  refine tN ?_
  refine sq ?_
  refine sq ?_
  refine wp_region_lit ?_
  refine st hF (g_loadAgg ty_ag_36 hF rfl (hM.row 0 rfl) (by simp only [fnC_size, cells_size, vecC_size, tabC_size, planeC_size, dgC_size] <;> omega) (whole cells_size)) rfl fun a hF => st hF (g_loadAgg ty_ag_34 hF rfl (hM.row 1 rfl) (by simp only [fnC_size, cells_size, vecC_size, tabC_size, planeC_size, dgC_size] <;> omega) (whole (by simp only [fnC_size, cells_size, vecC_size, tabC_size, planeC_size, dgC_size]))) rfl fun a hF => ?_
  refine stR hF (d_buildC (vs := [(0, .agg (vecC v))]) 2 hM hF (build1 hF rfl) (fun w => ty_bsg_74_1 v w)) rfl ?_
  rintro _ w' a ⟨b3, rfl, hM, -⟩ hF
  change Mem w w' [some (b1, algC (p : Int) (n : Int) T f), some (b2, vecC v), some (b3, vecsC 1 (vAtL [v]))] [] at hM
  refine stR hF (d_call Try.call38 hF (.cons rfl (.cons rfl .nil)) ((CallsR.val (l01Code_ok (p : Int) (n : Int) T f b3 1 1 (vAtL [v]) _ (fun _ _ _ => hT _ _ _) (fun _ => hf _) hVb (by omega) (hM.row 2 rfl)) (congrArg (Value.int .i64) (if_pos hc))))) rfl ?_
  rintro _ w' a ⟨hx, rfl⟩ hF
  have hM := hM.ext hx
  refine st hF (g_assign hF rfl) rfl fun a hF => ?_
  refine wpList_nil ?_
  refine tN ?_
  refine sq ?_
  refine wp_region_lit ?_
  refine st hF (g_move hF rfl) rfl fun a hF => st hF (g_neq hF rfl rfl) rfl fun a hF => ?_
  refine wpList_nil ?_
  refine tN ?_
  refine c_kF hF rfl (by decide) ?_
  refine wp_skip ?_
  refine tN ?_
  refine sq ?_
  refine wp_region_lit ?_
  refine st hF (g_loadAgg ty_ag_36 hF rfl (hM.row 0 rfl) (by simp only [fnC_size, cells_size, vecC_size, tabC_size, planeC_size, dgC_size] <;> omega) (whole cells_size)) rfl fun a hF => st hF (g_loadAgg ty_ag_34 hF rfl (hM.row 1 rfl) (by simp only [fnC_size, cells_size, vecC_size, tabC_size, planeC_size, dgC_size] <;> omega) (whole (by simp only [fnC_size, cells_size, vecC_size, tabC_size, planeC_size, dgC_size]))) rfl fun a hF => ?_
  refine stR hF (d_call Try.call39 hF (.cons rfl (.cons rfl .nil)) (l01VectorText_ok p n T f (v) _ hn0 hn hv13)) rfl ?_
  rintro _ w' a ⟨hx, rfl⟩ hF
  have hM := hM.ext hx
  refine st hF (g_assign hF rfl) rfl fun a hF => st hF (g_assign hF rfl) rfl fun a hF => ?_
  refine wpList_nil ?_
  refine tN ?_
  refine wp_ret ?_
  refine fin2 rfl hF.defers (res_tmp hF rfl) (res_tmp hF rfl) ⟨_, rfl, hM.below, ?_⟩
  show _ = _
  rfl

theorem VectorTextIA (p n : Int) (T : Nat → Nat → Nat → Nat) (f : Nat → Nat) (v : Nat → Nat) (w : World) (hT : ∀ i j k, T i j k ≤ 255) (hf : ∀ i, f i ≤ 255) (hv : ∀ i, v i ≤ 255) (hc : ¬ CodeP p n T f 1 (vAtL [v])) :
    CallsR Try.prog 20 #[.agg (algC p n T f), .agg (vecC v)] w (fun res _ => res = .tuple #[.string ⟨#[]⟩, .int .i64 1]) := by
  refine calls_fr [.agg (algC p n T f), .agg (vecC v)] Try.func20 rfl Try.ntmps20 rfl fun a hF => ?_
  have hM : Mem w w [none, none, none] [] := MemX.start w 3
  change Fr 14 a [(0, .agg (algC p n T f)), (1, .agg (vecC v))] at hF
  have hVb : ∀ i c, vAtL [v] i c ≤ 255 := vAtL_le (fun x hx => by simp at hx; subst hx <;> assumption)
  refine sq ?_
  refine wp_region_lit ?_
  refine stR hF (d_box 0 hM hF rfl) rfl ?_
  rintro _ w' a ⟨b1, rfl, hM, -⟩ hF
  change Mem w w' [some (b1, algC p n T f), none, none] [] at hM
  refine stR hF (d_box 1 hM hF rfl) rfl ?_
  rintro _ w' a ⟨b2, rfl, hM, -⟩ hF
  change Mem w w' [some (b1, algC p n T f), some (b2, vecC v), none] [] at hM
  refine st hF (g_assign hF rfl) rfl fun a hF => st hF (g_assign hF rfl) rfl fun a hF => ?_
  refine wpList_nil ?_
  refine tN ?_
  refine sq ?_
  refine sq ?_
  refine wp_region_lit ?_
  refine st hF (g_loadAgg ty_ag_36 hF rfl (hM.row 0 rfl) (by simp only [fnC_size, cells_size, vecC_size, tabC_size, planeC_size, dgC_size] <;> omega) (whole cells_size)) rfl fun a hF => st hF (g_loadAgg ty_ag_34 hF rfl (hM.row 1 rfl) (by simp only [fnC_size, cells_size, vecC_size, tabC_size, planeC_size, dgC_size] <;> omega) (whole (by simp only [fnC_size, cells_size, vecC_size, tabC_size, planeC_size, dgC_size]))) rfl fun a hF => ?_
  refine stR hF (d_buildC (vs := [(0, .agg (vecC v))]) 2 hM hF (build1 hF rfl) (fun w => ty_bsg_74_1 v w)) rfl ?_
  rintro _ w' a ⟨b3, rfl, hM, -⟩ hF
  change Mem w w' [some (b1, algC p n T f), some (b2, vecC v), some (b3, vecsC 1 (vAtL [v]))] [] at hM
  refine stR hF (d_call Try.call41 hF (.cons rfl (.cons rfl .nil)) ((CallsR.val (areVectors_ok p n T f b3 1 1 (vAtL [v]) _ (fun _ _ _ => hT _ _ _) (fun _ => hf _) hVb (by omega) (hM.row 2 rfl)) (congrArg Value.bool (decide_eq_false hc))))) rfl ?_
  rintro _ w' a ⟨hx, rfl⟩ hF
  have hM := hM.ext hx
  refine st hF (g_not hF rfl) rfl fun a hF => ?_
  refine wpList_nil ?_
  refine tN ?_
  refine c_T hF rfl ?_
  refine sq ?_
  refine wp_region_lit ?_
  refine st hF (g_assign hF rfl) rfl fun a hF => st hF (g_assign hF rfl) rfl fun a hF => ?_
  refine wpList_nil ?_
  refine tN ?_
  refine wp_ret ?_
  refine tR ?_
  refine fin2 rfl hF.defers (res_tmp hF rfl) (res_tmp hF rfl) ⟨_, rfl, hM.below, ?_⟩
  show _ = _
  rfl

theorem VectorTextIB (p n : Nat) (T : Nat → Nat → Nat → Nat) (f : Nat → Nat) (v : Nat → Nat) (w : World) (hp : primeN p) (hn0 : 0 < n) (hn : n ≤ 6) (hTp : ∀ i j k, T i j k < p) (hT0 : ∀ i j k, n ≤ k → T i j k = 0) (hf : ∀ i, f i ≤ 255) (hv : ∀ i, v i ≤ 255) (hc : CodeP (p : Int) (n : Int) T f 1 (vAtL [v])) :
    CallsR Try.prog 20 #[.agg (algC (p : Int) (n : Int) T f), .agg (vecC v)] w (fun res _ => res = .tuple #[.string (txt n (fun i => dig (v i))), .int .i64 0]) := by
  refine calls_fr [.agg (algC (p : Int) (n : Int) T f), .agg (vecC v)] Try.func20 rfl Try.ntmps20 rfl fun a hF => ?_
  have hM : Mem w w [none, none, none] [] := MemX.start w 3
  change Fr 14 a [(0, .agg (algC (p : Int) (n : Int) T f)), (1, .agg (vecC v))] at hF
  have hp2 := hp.two
  have hp13 := hp.le
  have hT : ∀ i j k, T i j k ≤ 255 := fun i j k => by have := hTp i j k; omega
  have hVb : ∀ i c, vAtL [v] i c ≤ 255 := vAtL_le (fun x hx => by simp at hx; subst hx <;> assumption)
  have hv13 : ∀ i, i < 6 → v i < 13 := fun i hi => by have h1 : okV (p : Int) (n : Int) v := hc.2 0 (by omega); have h2 := h1 i hi; unfold okN at h2; omega
  refine sq ?_
  refine wp_region_lit ?_
  refine stR hF (d_box 0 hM hF rfl) rfl ?_
  rintro _ w' a ⟨b1, rfl, hM, -⟩ hF
  change Mem w w' [some (b1, algC (p : Int) (n : Int) T f), none, none] [] at hM
  refine stR hF (d_box 1 hM hF rfl) rfl ?_
  rintro _ w' a ⟨b2, rfl, hM, -⟩ hF
  change Mem w w' [some (b1, algC (p : Int) (n : Int) T f), some (b2, vecC v), none] [] at hM
  refine st hF (g_assign hF rfl) rfl fun a hF => st hF (g_assign hF rfl) rfl fun a hF => ?_
  refine wpList_nil ?_
  refine tN ?_
  refine sq ?_
  refine sq ?_
  refine wp_region_lit ?_
  refine st hF (g_loadAgg ty_ag_36 hF rfl (hM.row 0 rfl) (by simp only [fnC_size, cells_size, vecC_size, tabC_size, planeC_size, dgC_size] <;> omega) (whole cells_size)) rfl fun a hF => st hF (g_loadAgg ty_ag_34 hF rfl (hM.row 1 rfl) (by simp only [fnC_size, cells_size, vecC_size, tabC_size, planeC_size, dgC_size] <;> omega) (whole (by simp only [fnC_size, cells_size, vecC_size, tabC_size, planeC_size, dgC_size]))) rfl fun a hF => ?_
  refine stR hF (d_buildC (vs := [(0, .agg (vecC v))]) 2 hM hF (build1 hF rfl) (fun w => ty_bsg_74_1 v w)) rfl ?_
  rintro _ w' a ⟨b3, rfl, hM, -⟩ hF
  change Mem w w' [some (b1, algC (p : Int) (n : Int) T f), some (b2, vecC v), some (b3, vecsC 1 (vAtL [v]))] [] at hM
  refine stR hF (d_call Try.call41 hF (.cons rfl (.cons rfl .nil)) ((CallsR.val (areVectors_ok (p : Int) (n : Int) T f b3 1 1 (vAtL [v]) _ (fun _ _ _ => hT _ _ _) (fun _ => hf _) hVb (by omega) (hM.row 2 rfl)) (congrArg Value.bool (decide_eq_true hc))))) rfl ?_
  rintro _ w' a ⟨hx, rfl⟩ hF
  have hM := hM.ext hx
  refine st hF (g_not hF rfl) rfl fun a hF => ?_
  refine wpList_nil ?_
  refine tN ?_
  refine c_Fl hF rfl ?_
  refine wp_skip ?_
  refine tN ?_
  refine sq ?_
  refine wp_region_lit ?_
  refine st hF (g_loadAgg ty_ag_36 hF rfl (hM.row 0 rfl) (by simp only [fnC_size, cells_size, vecC_size, tabC_size, planeC_size, dgC_size] <;> omega) (whole cells_size)) rfl fun a hF => st hF (g_loadAgg ty_ag_34 hF rfl (hM.row 1 rfl) (by simp only [fnC_size, cells_size, vecC_size, tabC_size, planeC_size, dgC_size] <;> omega) (whole (by simp only [fnC_size, cells_size, vecC_size, tabC_size, planeC_size, dgC_size]))) rfl fun a hF => ?_
  refine stR hF (d_call Try.call42 hF (.cons rfl (.cons rfl .nil)) (textOf_ok p n T f (v) _ hn0 hn hv13)) rfl ?_
  rintro _ w' a ⟨hx, rfl⟩ hF
  have hM := hM.ext hx
  refine st hF (g_assign hF rfl) rfl fun a hF => st hF (g_assign hF rfl) rfl fun a hF => ?_
  refine wpList_nil ?_
  refine tN ?_
  refine wp_ret ?_
  refine fin2 rfl hF.defers (res_tmp hF rfl) (res_tmp hF rfl) ⟨_, rfl, hM.below, ?_⟩
  show _ = _
  rfl

theorem law_VectorTextA (p n : Int) (T : Nat → Nat → Nat → Nat) (f : Nat → Nat) (v : Nat → Nat) (w : World) (hT : ∀ i j k, T i j k ≤ 255) (hf : ∀ i, f i ≤ 255) (hv : ∀ i, v i ≤ 255) (hc : ¬ CodeP p n T f 1 (vAtL [v])) :
    CallsR Try.prog 6 #[.agg (algC p n T f), .agg (vecC v)] w (fun res _ => res = .bool true) := by
  refine calls_fr [.agg (algC p n T f), .agg (vecC v)] Try.func6 rfl Try.ntmps6 rfl fun a hF => ?_
  have hM : Mem w w [none, none] [] := MemX.start w 2
  change Fr 33 a [(0, .agg (algC p n T f)), (1, .agg (vecC v))] at hF
  have eqlaw : eqV 6 (fun _ => 0) (fun _ => 0) := fun _ _ => rfl
  refine sq ?_
  refine wp_region_lit ?_
  refine stR hF (d_box 0 hM hF rfl) rfl ?_
  rintro _ w' a ⟨b1, rfl, hM, -⟩ hF
  change Mem w w' [some (b1, algC p n T f), none] [] at hM
  refine stR hF (d_box 1 hM hF rfl) rfl ?_
  rintro _ w' a ⟨b2, rfl, hM, -⟩ hF
  change Mem w w' [some (b1, algC p n T f), some (b2, vecC v)] [] at hM
  refine st hF (g_assign hF rfl) rfl fun a hF => ?_
  refine wpList_nil ?_
  refine tN ?_
  refine sq ?_
  refine c_par 9 [] [.val (.agg (algC p n T f)), .val (.agg (algC p n T f)), .val (.agg (vecC v)), .val (.agg (vecC v)), .val (.tuple #[.string (⟨#[]⟩), .int .i64 (1)]), .val (.tuple #[.string (⟨#[]⟩), .int .i64 (1)]), .val (.string (⟨#[]⟩)), .val (.int .i64 (1)), .val (.string (⟨#[]⟩))] hmix rfl hF rfl hM ⟨fun a w gG hF hS hd => by have hM := hS.mem rfl; exact par_val hS rfl (g_loadAgg ty_ag_31 hF rfl (hM.row 0 rfl) (by simp only [fnC_size, cells_size, vecC_size, tabC_size, planeC_size, dgC_size] <;> omega) (whole cells_size)), fun a w gG hF hS hd => by have hF := hF.ext1 10 (hd 0 rfl rfl); exact par_call (by repeat constructor) hS rfl (d_call Try.call18 hF (.cons rfl .nil) (toAlgebra_ok p n T f _)), fun a w gG hF hS hd => by have hM := hS.mem rfl; exact par_val hS rfl (g_loadAgg ty_ag_27 hF rfl (hM.row 1 rfl) (by simp only [fnC_size, cells_size, vecC_size, tabC_size, planeC_size, dgC_size] <;> omega) (whole (by simp only [fnC_size, cells_size, vecC_size, tabC_size, planeC_size, dgC_size]))), fun a w gG hF hS hd => by have hF := hF.ext1 12 (hd 2 rfl rfl); exact par_call (by repeat constructor) hS rfl (d_call Try.call19 hF (.cons rfl .nil) (toVector_ok v _)), fun a w gG hF hS hd => by have hF := hF.ext1 11 (hd 1 rfl rfl); have hF := hF.ext1 13 (hd 3 rfl rfl); exact par_call (by repeat constructor) hS rfl (d_call Try.call17 hF (.cons rfl (.cons rfl .nil)) (VectorTextSA p n T f v _ hT hf hv  hc)), fun a w gG hF hS hd => by have hF := hF.ext1 14 (hd 4 rfl rfl); exact par_val hS rfl (g_move hF rfl), fun a w gG hF hS hd => by have hF := hF.ext1 9 (hd 5 rfl rfl); exact par_val hS rfl (g_extract hF rfl rfl), fun a w gG hF hS hd => by have hF := hF.ext1 9 (hd 5 rfl rfl); exact par_val hS rfl (g_extract hF rfl rfl), fun a w gG hF hS hd => by have hF := hF.ext1 15 (hd 6 rfl rfl); exact par_val hS rfl (g_assign hF rfl), trivial⟩ ?_
  intro a w' L hF hS hq
  have hF := hF.ext1 10 (hq 0 rfl rfl)
  have hF := hF.ext1 11 (hq 1 rfl rfl)
  have hF := hF.ext1 12 (hq 2 rfl rfl)
  have hF := hF.ext1 13 (hq 3 rfl rfl)
  have hF := hF.ext1 14 (hq 4 rfl rfl)
  have hF := hF.ext1 9 (hq 5 rfl rfl)
  have hF := hF.ext1 15 (hq 6 rfl rfl)
  have hF := hF.ext1 16 (hq 7 rfl rfl)
  have hF := hF.ext1 5 (hq 8 rfl rfl)
  have hM := hS.mem rfl
  change wpList Try.prog _ _ [_] _ _
  refine st hF (g_assign hF rfl) rfl fun a hF => ?_
  refine wpList_nil ?_
  refine tN ?_
  refine sq ?_
  refine c_par 9 [] [.val (.agg (algC p n T f)), .val (.agg (algC p n T f)), .val (.agg (vecC v)), .val (.agg (vecC v)), .val (.tuple #[.string (⟨#[]⟩), .int .i64 (1)]), .val (.tuple #[.string (⟨#[]⟩), .int .i64 (1)]), .val (.string (⟨#[]⟩)), .val (.int .i64 (1)), .val (.string (⟨#[]⟩))] hmix rfl hF rfl hM ⟨fun a w gG hF hS hd => by have hM := hS.mem rfl; exact par_val hS rfl (g_loadAgg ty_ag_31 hF rfl (hM.row 0 rfl) (by simp only [fnC_size, cells_size, vecC_size, tabC_size, planeC_size, dgC_size] <;> omega) (whole cells_size)), fun a w gG hF hS hd => by have hF := hF.ext1 18 (hd 0 rfl rfl); exact par_call (by repeat constructor) hS rfl (d_call Try.call18 hF (.cons rfl .nil) (toAlgebra_ok p n T f _)), fun a w gG hF hS hd => by have hM := hS.mem rfl; exact par_val hS rfl (g_loadAgg ty_ag_27 hF rfl (hM.row 1 rfl) (by simp only [fnC_size, cells_size, vecC_size, tabC_size, planeC_size, dgC_size] <;> omega) (whole (by simp only [fnC_size, cells_size, vecC_size, tabC_size, planeC_size, dgC_size]))), fun a w gG hF hS hd => by have hF := hF.ext1 20 (hd 2 rfl rfl); exact par_call (by repeat constructor) hS rfl (d_call Try.call19 hF (.cons rfl .nil) (toVector_ok v _)), fun a w gG hF hS hd => by have hF := hF.ext1 19 (hd 1 rfl rfl); have hF := hF.ext1 21 (hd 3 rfl rfl); exact par_call (by repeat constructor) hS rfl (d_call Try.call20 hF (.cons rfl (.cons rfl .nil)) (VectorTextIA p n T f v _ hT hf hv  hc)), fun a w gG hF hS hd => by have hF := hF.ext1 22 (hd 4 rfl rfl); exact par_val hS rfl (g_move hF rfl), fun a w gG hF hS hd => by have hF := hF.ext1 17 (hd 5 rfl rfl); exact par_val hS rfl (g_extract hF rfl rfl), fun a w gG hF hS hd => by have hF := hF.ext1 17 (hd 5 rfl rfl); exact par_val hS rfl (g_extract hF rfl rfl), fun a w gG hF hS hd => by have hF := hF.ext1 23 (hd 6 rfl rfl); exact par_val hS rfl (g_assign hF rfl), trivial⟩ ?_
  intro a w' L hF hS hq
  have hF := hF.ext1 18 (hq 0 rfl rfl)
  have hF := hF.ext1 19 (hq 1 rfl rfl)
  have hF := hF.ext1 20 (hq 2 rfl rfl)
  have hF := hF.ext1 21 (hq 3 rfl rfl)
  have hF := hF.ext1 22 (hq 4 rfl rfl)
  have hF := hF.ext1 17 (hq 5 rfl rfl)
  have hF := hF.ext1 23 (hq 6 rfl rfl)
  have hF := hF.ext1 24 (hq 7 rfl rfl)
  have hF := hF.ext1 7 (hq 8 rfl rfl)
  have hM := hS.mem rfl
  change wpList Try.prog _ _ [_] _ _
  refine st hF (g_assign hF rfl) rfl fun a hF => ?_
  refine wpList_nil ?_
  refine tN ?_
  refine sq ?_
  refine sq ?_
  refine wp_region_lit ?_
  refine st hF (g_move hF rfl) rfl fun a hF => st hF (g_move hF rfl) rfl fun a hF => st hF (g_neqS hF rfl rfl) rfl fun a hF => st hF (g_move hF rfl) rfl fun a hF => ?_
  by_cases g3 : (⟨#[]⟩ : ByteArray).toList ≠ (⟨#[]⟩ : ByteArray).toList
  ·
    first | rw [decide_eq_true g3] at hF | simp only [decide_eq_true g3] at hF
    first | exact absurd rfl g3 | exact absurd eqlaw g3 | exact absurd (by exact ⟨rfl, rfl, fun _ _ _ _ _ _ => rfl, fun _ _ => rfl⟩) g3 | (exfalso; omega)
  ·
    first | rw [decide_eq_false g3] at hF | simp only [decide_eq_false g3] at hF
    refine stY hF rfl rfl rfl (g_move hF rfl) rfl fun a hF => stY hF rfl rfl rfl (g_move hF rfl) rfl fun a hF => stY hF rfl rfl rfl (g_neq hF rfl rfl) rfl fun a hF => st hF (g_pickF hF rfl rfl) rfl fun a hF => ?_
    refine wpList_nil ?_
    refine tN ?_
    refine c_kF hF rfl (by decide) ?_
    refine wp_skip ?_
    refine tN ?_
    refine sq ?_
    refine wp_region_lit ?_
    refine st hF (g_assign hF rfl) rfl fun a hF => ?_
    refine wpList_nil ?_
    refine tN ?_
    refine wp_ret ?_
    refine fin1 rfl hF.defers (res_tmp hF rfl) ⟨_, rfl, hM.below, ?_⟩
    show _ = _
    rfl

theorem law_VectorTextB (p n : Nat) (T : Nat → Nat → Nat → Nat) (f : Nat → Nat) (v : Nat → Nat) (w : World) (hp : primeN p) (hn0 : 0 < n) (hn : n ≤ 6) (hTp : ∀ i j k, T i j k < p) (hT0 : ∀ i j k, n ≤ k → T i j k = 0) (hf : ∀ i, f i ≤ 255) (hv : ∀ i, v i ≤ 255) (hc : CodeP (p : Int) (n : Int) T f 1 (vAtL [v])) :
    CallsR Try.prog 6 #[.agg (algC (p : Int) (n : Int) T f), .agg (vecC v)] w (fun res _ => res = .bool true) := by
  refine calls_fr [.agg (algC (p : Int) (n : Int) T f), .agg (vecC v)] Try.func6 rfl Try.ntmps6 rfl fun a hF => ?_
  have hM : Mem w w [none, none] [] := MemX.start w 2
  change Fr 33 a [(0, .agg (algC (p : Int) (n : Int) T f)), (1, .agg (vecC v))] at hF
  have hp2 := hp.two
  have hp13 := hp.le
  have hT : ∀ i j k, T i j k ≤ 255 := fun i j k => by have := hTp i j k; omega
  refine sq ?_
  refine wp_region_lit ?_
  refine stR hF (d_box 0 hM hF rfl) rfl ?_
  rintro _ w' a ⟨b1, rfl, hM, -⟩ hF
  change Mem w w' [some (b1, algC (p : Int) (n : Int) T f), none] [] at hM
  refine stR hF (d_box 1 hM hF rfl) rfl ?_
  rintro _ w' a ⟨b2, rfl, hM, -⟩ hF
  change Mem w w' [some (b1, algC (p : Int) (n : Int) T f), some (b2, vecC v)] [] at hM
  refine st hF (g_assign hF rfl) rfl fun a hF => ?_
  refine wpList_nil ?_
  refine tN ?_
  refine sq ?_
  refine c_par 9 [] [.val (.agg (algC (p : Int) (n : Int) T f)), .val (.agg (algC (p : Int) (n : Int) T f)), .val (.agg (vecC v)), .val (.agg (vecC v)), .val (.tuple #[.string ((txt n (fun i => dig (v i)))), .int .i64 (0)]), .val (.tuple #[.string ((txt n (fun i => dig (v i)))), .int .i64 (0)]), .val (.string ((txt n (fun i => dig (v i))))), .val (.int .i64 (0)), .val (.string ((txt n (fun i => dig (v i)))))] hmix rfl hF rfl hM ⟨fun a w gG hF hS hd => by have hM := hS.mem rfl; exact par_val hS rfl (g_loadAgg ty_ag_31 hF rfl (hM.row 0 rfl) (by simp only [fnC_size, cells_size, vecC_size, tabC_size, planeC_size, dgC_size] <;> omega) (whole cells_size)), fun a w gG hF hS hd => by have hF := hF.ext1 10 (hd 0 rfl rfl); exact par_call (by repeat constructor) hS rfl (d_call Try.call18 hF (.cons rfl .nil) (toAlgebra_ok (p : Int) (n : Int) T f _)), fun a w gG hF hS hd => by have hM := hS.mem rfl; exact par_val hS rfl (g_loadAgg ty_ag_27 hF rfl (hM.row 1 rfl) (by simp only [fnC_size, cells_size, vecC_size, tabC_size, planeC_size, dgC_size] <;> omega) (whole (by simp only [fnC_size, cells_size, vecC_size, tabC_size, planeC_size, dgC_size]))), fun a w gG hF hS hd => by have hF := hF.ext1 12 (hd 2 rfl rfl); exact par_call (by repeat constructor) hS rfl (d_call Try.call19 hF (.cons rfl .nil) (toVector_ok v _)), fun a w gG hF hS hd => by have hF := hF.ext1 11 (hd 1 rfl rfl); have hF := hF.ext1 13 (hd 3 rfl rfl); exact par_call (by repeat constructor) hS rfl (d_call Try.call17 hF (.cons rfl (.cons rfl .nil)) (VectorTextSB p n T f v _ hp hn0 hn hTp hT0 hf hv  hc)), fun a w gG hF hS hd => by have hF := hF.ext1 14 (hd 4 rfl rfl); exact par_val hS rfl (g_move hF rfl), fun a w gG hF hS hd => by have hF := hF.ext1 9 (hd 5 rfl rfl); exact par_val hS rfl (g_extract hF rfl rfl), fun a w gG hF hS hd => by have hF := hF.ext1 9 (hd 5 rfl rfl); exact par_val hS rfl (g_extract hF rfl rfl), fun a w gG hF hS hd => by have hF := hF.ext1 15 (hd 6 rfl rfl); exact par_val hS rfl (g_assign hF rfl), trivial⟩ ?_
  intro a w' L hF hS hq
  have hF := hF.ext1 10 (hq 0 rfl rfl)
  have hF := hF.ext1 11 (hq 1 rfl rfl)
  have hF := hF.ext1 12 (hq 2 rfl rfl)
  have hF := hF.ext1 13 (hq 3 rfl rfl)
  have hF := hF.ext1 14 (hq 4 rfl rfl)
  have hF := hF.ext1 9 (hq 5 rfl rfl)
  have hF := hF.ext1 15 (hq 6 rfl rfl)
  have hF := hF.ext1 16 (hq 7 rfl rfl)
  have hF := hF.ext1 5 (hq 8 rfl rfl)
  have hM := hS.mem rfl
  change wpList Try.prog _ _ [_] _ _
  refine st hF (g_assign hF rfl) rfl fun a hF => ?_
  refine wpList_nil ?_
  refine tN ?_
  refine sq ?_
  refine c_par 9 [] [.val (.agg (algC (p : Int) (n : Int) T f)), .val (.agg (algC (p : Int) (n : Int) T f)), .val (.agg (vecC v)), .val (.agg (vecC v)), .val (.tuple #[.string ((txt n (fun i => dig (v i)))), .int .i64 (0)]), .val (.tuple #[.string ((txt n (fun i => dig (v i)))), .int .i64 (0)]), .val (.string ((txt n (fun i => dig (v i))))), .val (.int .i64 (0)), .val (.string ((txt n (fun i => dig (v i)))))] hmix rfl hF rfl hM ⟨fun a w gG hF hS hd => by have hM := hS.mem rfl; exact par_val hS rfl (g_loadAgg ty_ag_31 hF rfl (hM.row 0 rfl) (by simp only [fnC_size, cells_size, vecC_size, tabC_size, planeC_size, dgC_size] <;> omega) (whole cells_size)), fun a w gG hF hS hd => by have hF := hF.ext1 18 (hd 0 rfl rfl); exact par_call (by repeat constructor) hS rfl (d_call Try.call18 hF (.cons rfl .nil) (toAlgebra_ok (p : Int) (n : Int) T f _)), fun a w gG hF hS hd => by have hM := hS.mem rfl; exact par_val hS rfl (g_loadAgg ty_ag_27 hF rfl (hM.row 1 rfl) (by simp only [fnC_size, cells_size, vecC_size, tabC_size, planeC_size, dgC_size] <;> omega) (whole (by simp only [fnC_size, cells_size, vecC_size, tabC_size, planeC_size, dgC_size]))), fun a w gG hF hS hd => by have hF := hF.ext1 20 (hd 2 rfl rfl); exact par_call (by repeat constructor) hS rfl (d_call Try.call19 hF (.cons rfl .nil) (toVector_ok v _)), fun a w gG hF hS hd => by have hF := hF.ext1 19 (hd 1 rfl rfl); have hF := hF.ext1 21 (hd 3 rfl rfl); exact par_call (by repeat constructor) hS rfl (d_call Try.call20 hF (.cons rfl (.cons rfl .nil)) (VectorTextIB p n T f v _ hp hn0 hn hTp hT0 hf hv  hc)), fun a w gG hF hS hd => by have hF := hF.ext1 22 (hd 4 rfl rfl); exact par_val hS rfl (g_move hF rfl), fun a w gG hF hS hd => by have hF := hF.ext1 17 (hd 5 rfl rfl); exact par_val hS rfl (g_extract hF rfl rfl), fun a w gG hF hS hd => by have hF := hF.ext1 17 (hd 5 rfl rfl); exact par_val hS rfl (g_extract hF rfl rfl), fun a w gG hF hS hd => by have hF := hF.ext1 23 (hd 6 rfl rfl); exact par_val hS rfl (g_assign hF rfl), trivial⟩ ?_
  intro a w' L hF hS hq
  have hF := hF.ext1 18 (hq 0 rfl rfl)
  have hF := hF.ext1 19 (hq 1 rfl rfl)
  have hF := hF.ext1 20 (hq 2 rfl rfl)
  have hF := hF.ext1 21 (hq 3 rfl rfl)
  have hF := hF.ext1 22 (hq 4 rfl rfl)
  have hF := hF.ext1 17 (hq 5 rfl rfl)
  have hF := hF.ext1 23 (hq 6 rfl rfl)
  have hF := hF.ext1 24 (hq 7 rfl rfl)
  have hF := hF.ext1 7 (hq 8 rfl rfl)
  have hM := hS.mem rfl
  change wpList Try.prog _ _ [_] _ _
  refine st hF (g_assign hF rfl) rfl fun a hF => ?_
  refine wpList_nil ?_
  refine tN ?_
  refine sq ?_
  refine sq ?_
  refine wp_region_lit ?_
  refine st hF (g_move hF rfl) rfl fun a hF => st hF (g_move hF rfl) rfl fun a hF => st hF (g_neqS hF rfl rfl) rfl fun a hF => st hF (g_move hF rfl) rfl fun a hF => ?_
  by_cases g3 : ((txt n (fun i => dig (v i))) : ByteArray).toList ≠ ((txt n (fun i => dig (v i))) : ByteArray).toList
  ·
    first | rw [decide_eq_true g3] at hF | simp only [decide_eq_true g3] at hF
    first | exact absurd rfl g3 | exact absurd eqlaw g3 | exact absurd (by exact ⟨rfl, rfl, fun _ _ _ _ _ _ => rfl, fun _ _ => rfl⟩) g3 | (exfalso; omega)
  ·
    first | rw [decide_eq_false g3] at hF | simp only [decide_eq_false g3] at hF
    refine stY hF rfl rfl rfl (g_move hF rfl) rfl fun a hF => stY hF rfl rfl rfl (g_move hF rfl) rfl fun a hF => stY hF rfl rfl rfl (g_neq hF rfl rfl) rfl fun a hF => st hF (g_pickF hF rfl rfl) rfl fun a hF => ?_
    refine wpList_nil ?_
    refine tN ?_
    refine c_kF hF rfl (by decide) ?_
    refine wp_skip ?_
    refine tN ?_
    refine sq ?_
    refine wp_region_lit ?_
    refine st hF (g_assign hF rfl) rfl fun a hF => ?_
    refine wpList_nil ?_
    refine tN ?_
    refine wp_ret ?_
    refine fin1 rfl hF.defers (res_tmp hF rfl) ⟨_, rfl, hM.below, ?_⟩
    show _ = _
    rfl

theorem law_VectorText (p n : Int) (T : Nat → Nat → Nat → Nat) (f : Nat → Nat) (v : Nat → Nat) (w : World) (hT : ∀ i j k, T i j k ≤ 255) (hf : ∀ i, f i ≤ 255) (hv : ∀ i, v i ≤ 255) : CallsV Try.prog 6 #[.agg (algC p n T f), .agg (vecC v)] w (.bool true) := by
  by_cases hc : CodeP p n T f 1 (vAtL [v])
  · have hs := hc.1.1
    have hp0 := primeP_pos hs.1
    have hn := hs.2.1
    have e1 : ((p.toNat : Nat) : Int) = p := by omega
    have e2 : ((n.toNat : Nat) : Int) = n := by omega
    have h := law_VectorTextB p.toNat n.toNat (trunc n.toNat T) f v w (primeN_of hs.1) (by omega) (by omega) (trunc_lt hs) trunc_out hf hv (by rw [e1, e2]; exact code_trunc hc)
    rw [e1, e2, ← algC_trunc hs] at h
    exact h
  · exact law_VectorTextA p n T f v w hT hf hv hc

end Go.Proofs.Ytnaabnhjokibfaa
