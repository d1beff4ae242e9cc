/- What functions of the program return, as walks over their operations; no statement of the seat is proved here. -/
import Derived.Test.YtnaabnhjokibfaaW9
set_option linter.unusedVariables false
set_option linter.unusedSimpArgs false
namespace Go.Proofs.Ytnaabnhjokibfaa
open Go Go.RowKit Go.Sw
open Classical
theorem ty_mk_40_6 : ∀ w, (Instr.makeSlice 40 (.int .i64 ((6 : Nat) : Int)) (.int .i64 ((6 : Nat) : Int))).run Try.prog w = .ok (.slice (some ⟨w.heap.size, 0, none⟩) 6 6) (w.alloc (.cells (numC 6 (fun _ => 0)) 2)) := by intros; kernel_rfl
theorem CountPiecesI_E  (w : World)  :
    CallsR Try.prog 22 #[.string (⟨#[]⟩)] w (fun u w' => ∃ b, u = .tuple #[.slice (some ⟨b, 0, none⟩) 6 6, .int .i64 0] ∧ w.heap.size ≤ b ∧ Blk w' b (numC 6 (fun _ => 0))) := by
  refine calls_fr [.string (⟨#[]⟩)] Try.func22 rfl Try.ntmps22 rfl fun a hF => ?_
  have hM : Mem w w [none] [] := MemX.start w 1
  change Fr 26 a [(0, .string (⟨#[]⟩))] at hF
  have he0 : (⟨#[]⟩ : ByteArray).size = 0 := rfl
  have hls : (⟨#[105, 120, 109, 115, 117, 101]⟩ : ByteArray).size = 6 := rfl
  refine sq ?_
  refine wp_region_lit ?_
  refine st hF (g_assign hF rfl) rfl fun a hF => st hF (g_assign hF rfl) rfl fun a hF => ?_
  refine wpList_nil ?_
  refine tN ?_
  refine sq ?_
  refine sq ?_
  refine wp_region_lit ?_
  refine st hF (g_move hF rfl) rfl fun a hF => ?_
  refine stR hF (d_call Try.call12 hF (.cons rfl .nil) (IsWordI_E _)) rfl ?_
  rintro _ w' a ⟨hx, rfl⟩ hF
  have hM := hM.ext hx
  refine st hF (g_not hF rfl) rfl fun a hF => ?_
  refine wpList_nil ?_
  refine tN ?_
  refine c_Fl hF rfl ?_
  refine wp_skip ?_
  refine tN ?_
  refine sq ?_
  refine wp_region_lit ?_
  refine stR hF (d_makeC (len := 6) 0 hM hF rfl rfl ty_mk_40_6) rfl ?_
  rintro _ w' a ⟨b2, rfl, hM, -⟩ hF
  change Mem w w' [some (b2, numC 6 (fun _ => 0))] [] at hM
  refine st hF (g_assign hF rfl) rfl fun a hF => ?_
  refine wpList_nil ?_
  refine tN ?_
  refine sq ?_
  refine sq ?_
  refine wp_region_lit ?_
  refine st hF (g_move hF rfl) rfl fun a hF => st hF (g_len ty_us_40 hF rfl) rfl fun a hF => st hF (g_move hF rfl) rfl fun a hF => ?_
  refine wpList_nil ?_
  refine tN ?_
  refine wp_block ?_
  change Mem w _ [some (b2, numC 6 (fun _ => 0))] [] at hM
  refine c_loop (fun (kk : Nat) a w' => kk ≤ 6 ∧ (True) ∧ Fr 26 a [(0, .string (⟨#[]⟩)), (2, .slice none 0 0), (3, .int .i64 (0)), (6, .string (⟨#[]⟩)), (7, .bool (true)), (8, .bool (false)), (9, .slice (some ⟨b2, 0, none⟩) (6) (6)), (4, .slice (some ⟨b2, 0, none⟩) (6) (6)), (10, .slice (some ⟨b2, 0, none⟩) (6) (6)), (11, .int .i64 (6)), (12, .int .i64 (((kk : Nat) : Int)))] ∧ Mem w w' [some (b2, numC 6 (fun _ => 0))] []) (fun kk => 6 - kk) 0 ?_ ?_
  ·
    refine ⟨by omega, trivial, hF.sub _ (by repeat' constructor), ?_⟩
    exact hM
  ·
    clear hF hM
    rintro gi a w' ⟨hgi, hinv1, hF, hM⟩
    refine sq ?_
    refine wp_region_lit ?_
    refine st hF (g_lss hF rfl rfl) rfl fun a hF => ?_
    refine wpList_nil ?_
    refine tN ?_
    refine sq ?_
    refine c_cond hF rfl (fun h3 => ?_) (fun h3 => ?_)
    ·
      refine wp_skip ?_
      refine tN ?_
      refine sq ?_
      refine wp_block ?_
      refine sq ?_
      refine wp_region_lit ?_
      refine st hF (g_move hF rfl) rfl fun a hF => st hF (g_assign hF rfl) rfl fun a hF => ?_
      refine wpList_nil ?_
      refine tN ?_
      refine wp_region_lit ?_
      refine st hF (g_move hF rfl) rfl fun a hF => st hF (g_move hF rfl) rfl fun a hF => st hF (g_move hF rfl) rfl fun a hF => st hF (g_move hF rfl) rfl fun a hF => st hF (g_move hF rfl) rfl fun a hF => st hF (g_add hF rfl rfl (add_nat (gi) (1) (by omega))) rfl fun a hF => st hF (g_sliceS (i := gi) (j := gi + 1) ty_ut_9 hF rfl rfl rfl rfl rfl (by omega) (by omega)) rfl fun a hF => ?_
      refine stR hF (d_call Try.call43 hF (.cons rfl (.cons rfl .nil)) ((CallsR.val (count_let ⟨#[]⟩ (gi) _ (by omega)) (show Value.int .i64 ((cntL ⟨#[]⟩ (gi) (⟨#[]⟩ : ByteArray).size : Nat) : Int) = .int .i64 0 from rfl)))) rfl ?_
      rintro _ w' a ⟨hx, rfl⟩ hF
      have hM := hM.ext hx
      refine st hF (g_indexSl (i := gi) ty_sl_40 hF rfl rfl rfl (by omega)) rfl fun a hF => ?_
      refine stN hF (d_store 0 hM rfl ty_on_2 hF rfl rfl rfl (by first | omega | (simp only [fnC_size, cells_size, vecC_size, tabC_size, planeC_size, layC_size, numC_size] <;> omega))) ?_
      intro _ w' a hM hF
      rw [show (numC 6 (fun _ => 0)).setIfInBounds (0 + (gi) * 1) (.int .i64 (0)) = numC 6 (fun c => if c = gi then 0 else (fun _ => 0) c) from numC_set (k := gi) (by omega) (fun c _ => rfl)] at hM
      change Mem w w' [some (b2, numC 6 (fun c => if c = gi then 0 else (fun _ => 0) c))] [] at hM
      refine wpList_nil ?_
      refine iN ?_
      refine tN ?_
      refine wp_region_lit ?_
      refine st hF (g_add hF rfl rfl (add_nat (gi) (1) (by omega))) rfl fun a hF => st hF (g_move hF rfl) rfl fun a hF => ?_
      refine wpList_nil ?_
      refine tN ?_
      refine ⟨gi + 1, ⟨by omega, trivial, hF.sub _ (by repeat' constructor), ?_⟩, by omega⟩
      refine hM.rowc 0 rfl (numC_congr fun c hc => by split <;> rfl)
    ·
      obtain rfl : 6 = gi := by omega
      refine wp_exit ?_
      refine tX ?_
      refine tX ?_
      refine ib_same ?_
      refine tN ?_
      refine sq ?_
      refine wp_region_lit ?_
      refine st hF (g_move hF rfl) rfl fun a hF => st hF (g_assign hF rfl) rfl fun a hF => st hF (g_assign hF rfl) rfl fun a hF => ?_
      refine wpList_nil ?_
      refine tN ?_
      refine wp_ret ?_
      refine fin2 rfl hF.defers (res_tmp hF rfl) (res_tmp hF rfl) ⟨_, rfl, hM.below, ?_⟩
      exact ⟨_, rfl, hM.ge 0 rfl, hM.row 0 rfl⟩

theorem CountPiecesI_L (s : ByteArray) (w : World) (h0 : 300 < s.size) :
    CallsR Try.prog 22 #[.string (s)] w (fun res _ => res = .tuple #[.slice none 0 0, .int .i64 1]) := by
  refine calls_fr [.string (s)] Try.func22 rfl Try.ntmps22 rfl fun a hF => ?_
  have hM : Mem w w [none] [] := MemX.start w 1
  change Fr 26 a [(0, .string (s))] at hF
  have hls : (⟨#[105, 120, 109, 115, 117, 101]⟩ : ByteArray).size = 6 := rfl
  refine sq ?_
  refine wp_region_lit ?_
  refine st hF (g_assign hF rfl) rfl fun a hF => st hF (g_assign hF rfl) rfl fun a hF => ?_
  refine wpList_nil ?_
  refine tN ?_
  refine sq ?_
  refine sq ?_
  refine wp_region_lit ?_
  refine st hF (g_move hF rfl) rfl fun a hF => ?_
  refine stR hF (d_call Try.call12 hF (.cons rfl .nil) (IsWordI_L s _ h0)) rfl ?_
  rintro _ w' a ⟨hx, rfl⟩ hF
  have hM := hM.ext hx
  refine st hF (g_not hF rfl) rfl fun a hF => ?_
  refine wpList_nil ?_
  refine tN ?_
  refine c_T hF rfl ?_
  refine sq ?_
  refine wp_region_lit ?_
  refine st hF (g_assign hF rfl) rfl fun a hF => st hF (g_assign hF rfl) rfl fun a hF => ?_
  refine wpList_nil ?_
  refine tN ?_
  refine wp_ret ?_
  refine tR ?_
  refine fin2 rfl hF.defers (res_tmp hF rfl) (res_tmp hF rfl) ⟨_, rfl, hM.below, ?_⟩
  show _ = _
  rfl

theorem CountPiecesI_N (s : ByteArray) (w : World) (hW : ¬ WordP s) (h0 : 0 < s.size) (h3 : s.size ≤ 300) :
    CallsR Try.prog 22 #[.string (s)] w (fun res _ => res = .tuple #[.slice none 0 0, .int .i64 1]) := by
  refine calls_fr [.string (s)] Try.func22 rfl Try.ntmps22 rfl fun a hF => ?_
  have hM : Mem w w [none] [] := MemX.start w 1
  change Fr 26 a [(0, .string (s))] at hF
  have hls : (⟨#[105, 120, 109, 115, 117, 101]⟩ : ByteArray).size = 6 := rfl
  refine sq ?_
  refine wp_region_lit ?_
  refine st hF (g_assign hF rfl) rfl fun a hF => st hF (g_assign hF rfl) rfl fun a hF => ?_
  refine wpList_nil ?_
  refine tN ?_
  refine sq ?_
  refine sq ?_
  refine wp_region_lit ?_
  refine st hF (g_move hF rfl) rfl fun a hF => ?_
  refine stR hF (d_call Try.call12 hF (.cons rfl .nil) (IsWordI_N s _ hW h0 h3)) rfl ?_
  rintro _ w' a ⟨hx, rfl⟩ hF
  have hM := hM.ext hx
  refine st hF (g_not hF rfl) rfl fun a hF => ?_
  refine wpList_nil ?_
  refine tN ?_
  refine c_T hF rfl ?_
  refine sq ?_
  refine wp_region_lit ?_
  refine st hF (g_assign hF rfl) rfl fun a hF => st hF (g_assign hF rfl) rfl fun a hF => ?_
  refine wpList_nil ?_
  refine tN ?_
  refine wp_ret ?_
  refine tR ?_
  refine fin2 rfl hF.defers (res_tmp hF rfl) (res_tmp hF rfl) ⟨_, rfl, hM.below, ?_⟩
  show _ = _
  rfl

theorem CountPiecesI_Y (s : ByteArray) (w : World) (hW : WordP s) (h0 : 0 < s.size) :
    CallsR Try.prog 22 #[.string (s)] w (fun u w' => ∃ b, u = .tuple #[.slice (some ⟨b, 0, none⟩) 6 6, .int .i64 0] ∧ w.heap.size ≤ b ∧ Blk w' b (numC 6 (fun c => cntL s c s.size))) := by
  refine calls_fr [.string (s)] Try.func22 rfl Try.ntmps22 rfl fun a hF => ?_
  have hM : Mem w w [none, none] [] := MemX.start w 2
  change Fr 26 a [(0, .string (s))] at hF
  have h3 := hW.1
  have hns : nSg s 47 = cnt s 47 s.size + 1 := rfl
  have hcl := cnt_le (s := s) (c := 47) s.size
  have hls : (⟨#[105, 120, 109, 115, 117, 101]⟩ : ByteArray).size = 6 := rfl
  refine sq ?_
  refine wp_region_lit ?_
  refine st hF (g_assign hF rfl) rfl fun a hF => st hF (g_assign hF rfl) rfl fun a hF => ?_
  refine wpList_nil ?_
  refine tN ?_
  refine sq ?_
  refine sq ?_
  refine wp_region_lit ?_
  refine st hF (g_move hF rfl) rfl fun a hF => ?_
  refine stR hF (d_call Try.call12 hF (.cons rfl .nil) (IsWordI_Y s _ hW h0)) rfl ?_
  rintro _ w' a ⟨hx, rfl⟩ hF
  have hM := hM.ext hx
  refine st hF (g_not hF rfl) rfl fun a hF => ?_
  refine wpList_nil ?_
  refine tN ?_
  refine c_Fl hF rfl ?_
  refine wp_skip ?_
  refine tN ?_
  refine sq ?_
  refine wp_region_lit ?_
  refine stR hF (d_makeC (len := 6) 0 hM hF rfl rfl ty_mk_40_6) rfl ?_
  rintro _ w' a ⟨b2, rfl, hM, -⟩ hF
  change Mem w w' [some (b2, numC 6 (fun _ => 0)), none] [] at hM
  refine st hF (g_assign hF rfl) rfl fun a hF => ?_
  refine wpList_nil ?_
  refine tN ?_
  refine sq ?_
  refine sq ?_
  refine wp_region_lit ?_
  refine st hF (g_move hF rfl) rfl fun a hF => st hF (g_len ty_us_40 hF rfl) rfl fun a hF => st hF (g_move hF rfl) rfl fun a hF => ?_
  refine wpList_nil ?_
  refine tN ?_
  refine wp_block ?_
  change Mem w _ [some (b2, numC 6 (fun _ => 0)), none] [] at hM
  refine c_loop (fun (kk : Nat) a w' => kk ≤ 6 ∧ (True) ∧ Fr 26 a [(0, .string (s)), (2, .slice none 0 0), (3, .int .i64 (0)), (6, .string (s)), (7, .bool (true)), (8, .bool (false)), (9, .slice (some ⟨b2, 0, none⟩) (6) (6)), (4, .slice (some ⟨b2, 0, none⟩) (6) (6)), (10, .slice (some ⟨b2, 0, none⟩) (6) (6)), (11, .int .i64 (6)), (12, .int .i64 (((kk : Nat) : Int)))] ∧ Mem w w' [some (b2, numC 6 (fun c => if c < kk then cntL s c s.size else 0)), none] []) (fun kk => 6 - kk) 0 ?_ ?_
  ·
    refine ⟨by omega, trivial, hF.sub _ (by repeat' constructor), ?_⟩
    refine hM.rowc 0 rfl (numC_congr fun c hc => by simp)
  ·
    clear hF hM
    rintro gi a w' ⟨hgi, hinv1, hF, hM⟩
    have hcl9 := cntL_le (s := s) (k := gi) s.size
    refine sq ?_
    refine wp_region_lit ?_
    refine st hF (g_lss hF rfl rfl) rfl fun a hF => ?_
    refine wpList_nil ?_
    refine tN ?_
    refine sq ?_
    refine c_cond hF rfl (fun h3 => ?_) (fun h3 => ?_)
    ·
      refine wp_skip ?_
      refine tN ?_
      refine sq ?_
      refine wp_block ?_
      refine sq ?_
      refine wp_region_lit ?_
      refine st hF (g_move hF rfl) rfl fun a hF => st hF (g_assign hF rfl) rfl fun a hF => ?_
      refine wpList_nil ?_
      refine tN ?_
      refine wp_region_lit ?_
      refine st hF (g_move hF rfl) rfl fun a hF => st hF (g_move hF rfl) rfl fun a hF => st hF (g_move hF rfl) rfl fun a hF => st hF (g_move hF rfl) rfl fun a hF => st hF (g_move hF rfl) rfl fun a hF => st hF (g_add hF rfl rfl (add_nat (gi) (1) (by omega))) rfl fun a hF => st hF (g_sliceS (i := gi) (j := gi + 1) ty_ut_9 hF rfl rfl rfl rfl rfl (by omega) (by omega)) rfl fun a hF => ?_
      refine stR hF (d_call Try.call43 hF (.cons rfl (.cons rfl .nil)) (count_let s (gi) _ (by omega))) rfl ?_
      rintro _ w' a ⟨hx, rfl⟩ hF
      have hM := hM.ext hx
      refine st hF (g_indexSl (i := gi) ty_sl_40 hF rfl rfl rfl (by omega)) rfl fun a hF => ?_
      refine stN hF (d_store 0 hM rfl ty_on_2 hF rfl rfl rfl (by first | omega | (simp only [fnC_size, cells_size, vecC_size, tabC_size, planeC_size, layC_size, numC_size] <;> omega))) ?_
      intro _ w' a hM hF
      rw [show (numC 6 (fun c => if c < gi then cntL s c s.size else 0)).setIfInBounds (0 + (gi) * 1) (.int .i64 (((cntL s (gi) s.size : Nat) : Int))) = numC 6 (fun c => if c = gi then cntL s (gi) s.size else (fun c => if c < gi then cntL s c s.size else 0) c) from numC_set (k := gi) (by omega) (fun c _ => rfl)] at hM
      change Mem w w' [some (b2, numC 6 (fun c => if c = gi then cntL s (gi) s.size else (fun c => if c < gi then cntL s c s.size else 0) c)), none] [] at hM
      refine wpList_nil ?_
      refine iN ?_
      refine tN ?_
      refine wp_region_lit ?_
      refine st hF (g_add hF rfl rfl (add_nat (gi) (1) (by omega))) rfl fun a hF => st hF (g_move hF rfl) rfl fun a hF => ?_
      refine wpList_nil ?_
      refine tN ?_
      refine ⟨gi + 1, ⟨by omega, trivial, hF.sub _ (by repeat' constructor), ?_⟩, by omega⟩
      refine hM.rowc 0 rfl (numC_congr fun c hc => ?_)
      by_cases e1 : c = gi
      · simp [e1]
      · have e0 : (c < gi + 1) = (c < gi) := by apply propext; omega
        simp [e0, e1]
    ·
      obtain rfl : 6 = gi := by omega
      have hM := hM.rowc (cs' := numC 6 (fun c => cntL s c s.size)) 0 rfl (numC_congr fun c hc => by rw [if_pos hc])
      refine wp_exit ?_
      refine tX ?_
      refine tX ?_
      refine ib_same ?_
      refine tN ?_
      refine sq ?_
      refine wp_region_lit ?_
      refine st hF (g_move hF rfl) rfl fun a hF => st hF (g_assign hF rfl) rfl fun a hF => st hF (g_assign hF rfl) rfl fun a hF => ?_
      refine wpList_nil ?_
      refine tN ?_
      refine wp_ret ?_
      refine fin2 rfl hF.defers (res_tmp hF rfl) (res_tmp hF rfl) ⟨_, rfl, hM.below, ?_⟩
      exact ⟨_, rfl, hM.ge 0 rfl, hM.row 0 rfl⟩

theorem CountPiecesS_E  (w : World)  :
    CallsR Try.prog 21 #[.string (⟨#[]⟩)] w (fun u w' => ∃ b, u = .tuple #[.slice (some ⟨b, 0, none⟩) 6 6, .int .i64 0] ∧ w.heap.size ≤ b ∧ Blk w' b (numC 6 (fun _ => 0))) := by
  refine calls_fr [.string (⟨#[]⟩)] Try.func21 rfl Try.ntmps21 rfl fun a hF => ?_
  have hM : Mem w w [none, none] [] := MemX.start w 2
  change Fr 36 a [(0, .string (⟨#[]⟩))] at hF
  have he0 : (⟨#[]⟩ : ByteArray).size = 0 := rfl
  have hls : (⟨#[105, 120, 109, 115, 117, 101]⟩ : ByteArray).size = 6 := rfl
  refine sq ?_
  refine wp_region_lit ?_
  refine st hF (g_assign hF rfl) rfl fun a hF => st hF (g_assign hF rfl) rfl fun a hF => ?_
  refine wpList_nil ?_
  refine tN ?_
  refine sq ?_
  refine sq ?_
  refine wp_region_lit ?_
  refine st hF (g_move hF rfl) rfl fun a hF => ?_
  refine stR hF (d_call Try.call32 hF (.cons rfl .nil) (l04Is_E _)) rfl ?_
  rintro _ w' a ⟨hx, rfl⟩ hF
  have hM := hM.ext hx
  refine st hF (g_not hF rfl) rfl fun a hF => ?_
  refine wpList_nil ?_
  refine tN ?_
  refine c_Fl hF rfl ?_
  refine wp_skip ?_
  refine tN ?_
  refine sq ?_
  refine c_par 2 [0] [.own 0 (numC 6 (fun _ => 0)) (fun b => .slice (some ⟨b, 0, none⟩) 6 6), .val (.string (⟨#[105, 120, 109, 115, 117, 101]⟩))] hmix rfl hF rfl hM ⟨fun a w gG hF hS hd => by exact par_own (by repeat constructor) hS rfl rfl rfl rfl (d_makeC (len := 6) 0 hS.1 hF rfl rfl ty_mk_40_6), fun a w gG hF hS hd => by exact par_val hS rfl (g_assign hF rfl), trivial⟩ ?_
  intro a w' L hF hS hq
  have hF := hF.ext1 4 (hq 1 rfl rfl)
  obtain ⟨hM, hL⟩ := hS
  obtain ⟨b2, hptr, hkk⟩ := hq 0 rfl rfl
  have hF := hF.ext1 11 hptr
  have hL := hL.take hkk
  obtain rfl := hL.eq
  change Mem w w' [some (b2, numC 6 (fun _ => 0)), none] [] at hM
  change wpList Try.prog _ _ [_] _ _
  refine st hF (g_assign hF rfl) rfl fun a hF => ?_
  refine wpList_nil ?_
  refine tN ?_
  refine sq ?_
  refine sq ?_
  refine wp_region_lit ?_
  refine st hF (g_assign hF rfl) rfl fun a hF => ?_
  refine wpList_nil ?_
  refine tN ?_
  refine wp_block ?_
  change Mem w _ [some (b2, numC 6 (fun _ => 0)), none] [] at hM
  refine c_loop (fun (kk : Nat) a w' => kk ≤ 0 ∧ (True) ∧ Fr 36 a [(11, .slice (some ⟨b2, 0, none⟩) (6) (6)), (4, .string (⟨#[105, 120, 109, 115, 117, 101]⟩)), (0, .string (⟨#[]⟩)), (2, .slice none 0 0), (3, .int .i64 (0)), (8, .string (⟨#[]⟩)), (9, .bool (true)), (10, .bool (false)), (5, .slice (some ⟨b2, 0, none⟩) (6) (6)), (6, .int .i64 (((kk : Nat) : Int)))] ∧ Mem w w' [some (b2, numC 6 (fun _ => 0)), none] []) (fun kk => 0 - kk) 0 ?_ ?_
  ·
    refine ⟨by omega, trivial, hF.sub _ (by repeat' constructor), ?_⟩
    exact hM
  ·
    clear hF hM
    rintro gi a w' ⟨hgi, hinv1, hF, hM⟩
    refine sq ?_
    refine sq ?_
    refine wp_region_lit ?_
    refine st hF (g_move hF rfl) rfl fun a hF => st hF (g_move hF rfl) rfl fun a hF => st hF (g_lenS ty_ut_9 hF rfl) rfl fun a hF => st hF (g_lss hF rfl rfl) rfl fun a hF => ?_
    refine wpList_nil ?_
    refine tN ?_
    refine c_cond hF rfl (fun h3 => ?_) (fun h3 => ?_)
    ·
      exfalso; omega
    ·
      obtain rfl : 0 = gi := by omega
      refine wp_exit ?_
      refine tX ?_
      refine tX ?_
      refine ib_same ?_
      refine tN ?_
      refine sq ?_
      refine wp_region_lit ?_
      refine st hF (g_move hF rfl) rfl fun a hF => st hF (g_assign hF rfl) rfl fun a hF => st hF (g_assign hF rfl) rfl fun a hF => ?_
      refine wpList_nil ?_
      refine tN ?_
      refine wp_ret ?_
      refine fin2 rfl hF.defers (res_tmp hF rfl) (res_tmp hF rfl) ⟨_, rfl, hM.below, ?_⟩
      exact ⟨_, rfl, hM.ge 0 rfl, hM.row 0 rfl⟩

theorem CountPiecesS_N (s : ByteArray) (w : World) (hW : ¬ WordP s) (h0 : 0 < s.size) (hz : s.size < 10000000) :
    CallsR Try.prog 21 #[.string (s)] w (fun res _ => res = .tuple #[.slice none 0 0, .int .i64 1]) := by
  refine calls_fr [.string (s)] Try.func21 rfl Try.ntmps21 rfl fun a hF => ?_
  have hM : Mem w w [none, none] [] := MemX.start w 2
  change Fr 36 a [(0, .string (s))] at hF
  have hns : nSg s 47 = cnt s 47 s.size + 1 := rfl
  have hcl := cnt_le (s := s) (c := 47) s.size
  have hls : (⟨#[105, 120, 109, 115, 117, 101]⟩ : ByteArray).size = 6 := rfl
  refine sq ?_
  refine wp_region_lit ?_
  refine st hF (g_assign hF rfl) rfl fun a hF => st hF (g_assign hF rfl) rfl fun a hF => ?_
  refine wpList_nil ?_
  refine tN ?_
  refine sq ?_
  refine sq ?_
  refine wp_region_lit ?_
  refine st hF (g_move hF rfl) rfl fun a hF => ?_
  refine stR hF (d_call Try.call32 hF (.cons rfl .nil) (l04Is_N s _ hW h0 hz)) rfl ?_
  rintro _ w' a ⟨hx, rfl⟩ hF
  have hM := hM.ext hx
  refine st hF (g_not hF rfl) rfl fun a hF => ?_
  refine wpList_nil ?_
  refine tN ?_
  refine c_T hF rfl ?_
  refine sq ?_
  refine wp_region_lit ?_
  refine st hF (g_assign hF rfl) rfl fun a hF => st hF (g_assign hF rfl) rfl fun a hF => ?_
  refine wpList_nil ?_
  refine tN ?_
  refine wp_ret ?_
  refine tR ?_
  refine fin2 rfl hF.defers (res_tmp hF rfl) (res_tmp hF rfl) ⟨_, rfl, hM.below, ?_⟩
  show _ = _
  rfl

theorem CountPiecesS_Y (s : ByteArray) (w : World) (hW : WordP s) (h0 : 0 < s.size) :
    CallsR Try.prog 21 #[.string (s)] w (fun u w' => ∃ b, u = .tuple #[.slice (some ⟨b, 0, none⟩) 6 6, .int .i64 0] ∧ w.heap.size ≤ b ∧ Blk w' b (numC 6 (fun c => cntL s c s.size))) := by
  refine calls_fr [.string (s)] Try.func21 rfl Try.ntmps21 rfl fun a hF => ?_
  have hM : Mem w w [none, none] [] := MemX.start w 2
  change Fr 36 a [(0, .string (s))] at hF
  have h3 := hW.1
  have hns : nSg s 47 = cnt s 47 s.size + 1 := rfl
  have hcl := cnt_le (s := s) (c := 47) s.size
  have hls : (⟨#[105, 120, 109, 115, 117, 101]⟩ : ByteArray).size = 6 := rfl
  refine sq ?_
  refine wp_region_lit ?_
  refine st hF (g_assign hF rfl) rfl fun a hF => st hF (g_assign hF rfl) rfl fun a hF => ?_
  refine wpList_nil ?_
  refine tN ?_
  refine sq ?_
  refine sq ?_
  refine wp_region_lit ?_
  refine st hF (g_move hF rfl) rfl fun a hF => ?_
  refine stR hF (d_call Try.call32 hF (.cons rfl .nil) (l04Is_Y s _ hW h0)) rfl ?_
  rintro _ w' a ⟨hx, rfl⟩ hF
  have hM := hM.ext hx
  refine st hF (g_not hF rfl) rfl fun a hF => ?_
  refine wpList_nil ?_
  refine tN ?_
  refine c_Fl hF rfl ?_
  refine wp_skip ?_
  refine tN ?_
  refine sq ?_
  refine c_par 2 [0] [.own 0 (numC 6 (fun _ => 0)) (fun b => .slice (some ⟨b, 0, none⟩) 6 6), .val (.string (⟨#[105, 120, 109, 115, 117, 101]⟩))] hmix rfl hF rfl hM ⟨fun a w gG hF hS hd => by exact par_own (by repeat constructor) hS rfl rfl rfl rfl (d_makeC (len := 6) 0 hS.1 hF rfl rfl ty_mk_40_6), fun a w gG hF hS hd => by exact par_val hS rfl (g_assign hF rfl), trivial⟩ ?_
  intro a w' L hF hS hq
  have hF := hF.ext1 4 (hq 1 rfl rfl)
  obtain ⟨hM, hL⟩ := hS
  obtain ⟨b2, hptr, hkk⟩ := hq 0 rfl rfl
  have hF := hF.ext1 11 hptr
  have hL := hL.take hkk
  obtain rfl := hL.eq
  change Mem w w' [some (b2, numC 6 (fun _ => 0)), none] [] at hM
  change wpList Try.prog _ _ [_] _ _
  refine st hF (g_assign hF rfl) rfl fun a hF => ?_
  refine wpList_nil ?_
  refine tN ?_
  refine sq ?_
  refine sq ?_
  refine wp_region_lit ?_
  refine st hF (g_assign hF rfl) rfl fun a hF => ?_
  refine wpList_nil ?_
  refine tN ?_
  refine wp_block ?_
  change Mem w _ [some (b2, numC 6 (fun _ => 0)), none] [] at hM
  refine c_loop (fun (kk : Nat) a w' => kk ≤ s.size ∧ (True) ∧ Fr 36 a [(11, .slice (some ⟨b2, 0, none⟩) (6) (6)), (4, .string (⟨#[105, 120, 109, 115, 117, 101]⟩)), (0, .string (s)), (2, .slice none 0 0), (3, .int .i64 (0)), (8, .string (s)), (9, .bool (true)), (10, .bool (false)), (5, .slice (some ⟨b2, 0, none⟩) (6) (6)), (6, .int .i64 (((kk : Nat) : Int)))] ∧ Mem w w' [some (b2, numC 6 (fun c => cntL s c kk)), none] []) (fun kk => s.size - kk) 0 ?_ ?_
  ·
    refine ⟨by omega, trivial, hF.sub _ (by repeat' constructor), ?_⟩
    exact hM
  ·
    clear hF hM
    rintro gi a w' ⟨hgi, hinv1, hF, hM⟩
    refine sq ?_
    refine sq ?_
    refine wp_region_lit ?_
    refine st hF (g_move hF rfl) rfl fun a hF => st hF (g_move hF rfl) rfl fun a hF => st hF (g_lenS ty_ut_9 hF rfl) rfl fun a hF => st hF (g_lss hF rfl rfl) rfl fun a hF => ?_
    refine wpList_nil ?_
    refine tN ?_
    refine c_cond hF rfl (fun h3 => ?_) (fun h3 => ?_)
    ·
      refine wp_skip ?_
      refine tN ?_
      refine sq ?_
      refine wp_block ?_
      refine sq ?_
      refine wp_region_lit ?_
      refine st hF (g_assign hF rfl) rfl fun a hF => ?_
      refine wpList_nil ?_
      refine tN ?_
      refine wp_block ?_
      change Mem w _ [some (b2, numC 6 (fun c => cntL s c gi)), none] [] at hM
      refine c_loop (fun (kk : Nat) a w' => kk ≤ 6 ∧ (True) ∧ Fr 36 a [(11, .slice (some ⟨b2, 0, none⟩) (6) (6)), (4, .string (⟨#[105, 120, 109, 115, 117, 101]⟩)), (0, .string (s)), (2, .slice none 0 0), (3, .int .i64 (0)), (8, .string (s)), (9, .bool (true)), (10, .bool (false)), (5, .slice (some ⟨b2, 0, none⟩) (6) (6)), (6, .int .i64 (((gi : Nat) : Int))), (12, .int .i64 (((gi : Nat) : Int))), (13, .string (s)), (14, .int .i64 (((s.size : Nat) : Int))), (15, .bool (decide ((((gi : Nat) : Int) : Int) < ((s.size : Nat) : Int)))), (7, .int .i64 (((kk : Nat) : Int)))] ∧ Mem w w' [some (b2, numC 6 (fun c => if c < kk then cntL s c (gi + 1) else cntL s c gi)), none] []) (fun kk => 6 - kk) 0 ?_ ?_
      ·
        refine ⟨by omega, trivial, hF.sub _ (by repeat' constructor), ?_⟩
        refine hM.rowc 0 rfl (numC_congr fun c hc => by simp)
      ·
        clear hF hM
        rintro gj a w' ⟨hgj, hinv2, hF, hM⟩
        refine sq ?_
        refine sq ?_
        refine wp_region_lit ?_
        refine st hF (g_move hF rfl) rfl fun a hF => st hF (g_lss hF rfl rfl) rfl fun a hF => ?_
        refine wpList_nil ?_
        refine tN ?_
        refine c_cond hF rfl (fun h4 => ?_) (fun h4 => ?_)
        ·
          refine wp_skip ?_
          refine tN ?_
          refine sq ?_
          refine wp_block ?_
          refine sq ?_
          refine c_par 6 [] [.val (.string (s)), .val (.int .i64 (((gi : Nat) : Int))), .val (.int .u8 (((byt s (gi) : Nat) : Int))), .val (.string (⟨#[105, 120, 109, 115, 117, 101]⟩)), .val (.int .i64 (((gj : Nat) : Int))), .val (.int .u8 (((byt (⟨#[105, 120, 109, 115, 117, 101]⟩) (gj) : Nat) : Int)))] hmix rfl hF rfl hM ⟨fun a w gG hF hS hd => by exact par_val hS rfl (g_move hF rfl), fun a w gG hF hS hd => by exact par_val hS rfl (g_move hF rfl), fun a w gG hF hS hd => by have hF := hF.ext1 22 (hd 0 rfl rfl); have hF := hF.ext1 23 (hd 1 rfl rfl); exact par_val hS rfl (g_indexS (i := gi) ty_ut_9 hF rfl rfl rfl (by omega)), fun a w gG hF hS hd => by exact par_val hS rfl (g_move hF rfl), fun a w gG hF hS hd => by exact par_val hS rfl (g_move hF rfl), fun a w gG hF hS hd => by have hF := hF.ext1 25 (hd 3 rfl rfl); have hF := hF.ext1 26 (hd 4 rfl rfl); exact par_val hS rfl (g_indexS (i := gj) ty_ut_9 hF rfl rfl rfl (by omega)), trivial⟩ ?_
          intro a w' L hF hS hq
          have hF := hF.ext1 22 (hq 0 rfl rfl)
          have hF := hF.ext1 23 (hq 1 rfl rfl)
          have hF := hF.ext1 24 (hq 2 rfl rfl)
          have hF := hF.ext1 25 (hq 3 rfl rfl)
          have hF := hF.ext1 26 (hq 4 rfl rfl)
          have hF := hF.ext1 27 (hq 5 rfl rfl)
          have hM := hS.mem rfl
          change wpList Try.prog _ _ [_] _ _
          refine st hF (g_eql hF rfl rfl) rfl fun a hF => ?_
          refine wpList_nil ?_
          refine tN ?_
          refine c_cond hF rfl (fun h5 => ?_) (fun h5 => ?_)
          ·
            have hby := byt_lets (k := gj) (by omega)
            have hle9 := cntL_le (s := s) (k := gj) gi
            have hyy : byt s gi = letN gj := by rw [← hby]; omega
            refine wp_region_lit ?_
            refine st hF (g_move hF rfl) rfl fun a hF => st hF (g_move hF rfl) rfl fun a hF => st hF (g_indexSl (i := gj) ty_sl_40 hF rfl rfl rfl (by omega)) rfl fun a hF => st hF (g_load ty_on_2 hF rfl (hM.row 0 rfl) ((numC_get (k := gj) (by omega) (by omega)).trans (congrArg some (by simp)))) rfl fun a hF => st hF (g_add hF rfl rfl (add_nat (cntL s gj gi) (1) (by omega))) rfl fun a hF => st hF (g_indexSl (i := gj) ty_sl_40 hF rfl rfl rfl (by omega)) rfl fun a hF => ?_
            refine stN hF (d_store 0 hM rfl ty_on_2 hF rfl rfl rfl (by first | omega | (simp only [fnC_size, cells_size, vecC_size, tabC_size, planeC_size, layC_size, numC_size] <;> omega))) ?_
            intro _ w' a hM hF
            rw [show (numC 6 (fun c => if c < gj then cntL s c (gi + 1) else cntL s c gi)).setIfInBounds (0 + (gj) * 1) (.int .i64 (((cntL s gj gi + 1 : Nat) : Int))) = numC 6 (fun c => if c = gj then cntL s gj gi + 1 else (fun c => if c < gj then cntL s c (gi + 1) else cntL s c gi) c) from numC_set (k := gj) (by omega) (fun c _ => rfl)] at hM
            change Mem w w' [some (b2, numC 6 (fun c => if c = gj then cntL s gj gi + 1 else (fun c => if c < gj then cntL s c (gi + 1) else cntL s c gi) c)), none] [] at hM
            refine wpList_nil ?_
            refine iN ?_
            refine tN ?_
            refine wp_region_lit ?_
            refine st hF (g_move hF rfl) rfl fun a hF => st hF (g_add hF rfl rfl (add_nat (gj) (1) (by omega))) rfl fun a hF => st hF (g_assign hF rfl) rfl fun a hF => ?_
            refine wpList_nil ?_
            refine tN ?_
            refine ⟨gj + 1, ⟨by omega, trivial, hF.sub _ (by repeat' constructor), ?_⟩, by omega⟩
            refine hM.rowc 0 rfl (numC_congr fun c hc => ?_)
            by_cases e1 : c = gj
            · subst e1; simp [cntL, hyy]
            · have e0 : (c < gj + 1) = (c < gj) := by apply propext; omega
              simp [e0, e1]
          ·
            have hby := byt_lets (k := gj) (by omega)
            have hle9 := cntL_le (s := s) (k := gj) gi
            have hnn : ¬ byt s gi = letN gj := by rw [← hby]; omega
            refine wp_skip ?_
            refine iN ?_
            refine tN ?_
            refine wp_region_lit ?_
            refine st hF (g_move hF rfl) rfl fun a hF => st hF (g_add hF rfl rfl (add_nat (gj) (1) (by omega))) rfl fun a hF => st hF (g_assign hF rfl) rfl fun a hF => ?_
            refine wpList_nil ?_
            refine tN ?_
            refine ⟨gj + 1, ⟨by omega, trivial, hF.sub _ (by repeat' constructor), ?_⟩, by omega⟩
            refine hM.rowc 0 rfl (numC_congr fun c hc => ?_)
            by_cases e1 : c = gj
            · subst e1; simp [cntL, hnn]
            · have e0 : (c < gj + 1) = (c < gj) := by apply propext; omega
              simp [e0, e1]
        ·
          obtain rfl : 6 = gj := by omega
          refine wp_exit ?_
          refine tX ?_
          refine tX ?_
          refine ib_same ?_
          refine iN ?_
          refine tN ?_
          refine wp_region_lit ?_
          refine st hF (g_move hF rfl) rfl fun a hF => st hF (g_add hF rfl rfl (add_nat (gi) (1) (by omega))) rfl fun a hF => st hF (g_assign hF rfl) rfl fun a hF => ?_
          refine wpList_nil ?_
          refine tN ?_
          refine ⟨gi + 1, ⟨by omega, trivial, hF.sub _ (by repeat' constructor), ?_⟩, by omega⟩
          refine hM.rowc 0 rfl (numC_congr fun c hc => by rw [if_pos hc])
    ·
      obtain rfl : s.size = gi := by omega
      refine wp_exit ?_
      refine tX ?_
      refine tX ?_
      refine ib_same ?_
      refine tN ?_
      refine sq ?_
      refine wp_region_lit ?_
      refine st hF (g_move hF rfl) rfl fun a hF => st hF (g_assign hF rfl) rfl fun a hF => st hF (g_assign hF rfl) rfl fun a hF => ?_
      refine wpList_nil ?_
      refine tN ?_
      refine wp_ret ?_
      refine fin2 rfl hF.defers (res_tmp hF rfl) (res_tmp hF rfl) ⟨_, rfl, hM.below, ?_⟩
      exact ⟨_, rfl, hM.ge 0 rfl, hM.row 0 rfl⟩

end Go.Proofs.Ytnaabnhjokibfaa
