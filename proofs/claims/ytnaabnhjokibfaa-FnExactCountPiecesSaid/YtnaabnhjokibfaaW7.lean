/- What functions of the program return, as walks over their operations; no statement of the seat is proved here. -/
import Derived.Test.YtnaabnhjokibfaaW6
set_option linter.unusedVariables false
set_option linter.unusedSimpArgs false
namespace Go.Proofs.Ytnaabnhjokibfaa
open Go Go.RowKit Go.Sw
open Classical
theorem l04Is_E  (w : World)  :
    CallsR Try.prog 32 #[.string (⟨#[]⟩)] w (fun res _ => res = .bool (true)) := by
  refine calls_fr [.string (⟨#[]⟩)] Try.func32 rfl Try.ntmps32 rfl fun a hF => ?_
  have hM : Mem w w [none] [] := MemX.start w 1
  change Fr 11 a [(0, .string (⟨#[]⟩))] at hF
  have he0 : (⟨#[]⟩ : ByteArray).size = 0 := rfl
  refine sq ?_
  refine wp_region_lit ?_
  refine st hF (g_assign hF rfl) rfl fun a hF => ?_
  refine wpList_nil ?_
  refine tN ?_
  refine sq ?_
  refine wp_region_lit ?_
  refine st hF (g_move hF rfl) rfl fun a hF => ?_
  refine stR hF (d_call Try.call51 hF (.cons rfl .nil) (l04Layers_E _)) rfl ?_
  rintro u w' a ⟨hx, x0, rfl⟩ hF
  have hM := hM.ext hx
  refine st hF (g_move hF rfl) rfl fun a hF => st hF (g_extract hF rfl rfl) rfl fun a hF => st hF (g_extract hF rfl rfl) rfl fun a hF => st hF (g_assign hF rfl) rfl fun a hF => st hF (g_assign hF rfl) rfl fun a hF => ?_
  refine wpList_nil ?_
  refine tN ?_
  refine sq ?_
  refine wp_region_lit ?_
  refine st hF (g_move hF rfl) rfl fun a hF => st hF (g_assign hF rfl) rfl fun a hF => ?_
  refine wpList_nil ?_
  refine tN ?_
  refine wp_ret ?_
  refine fin1 rfl hF.defers (res_tmp hF rfl) ⟨_, rfl, hM.below, ?_⟩
  show _ = _
  rfl

theorem l04Is_N (s : ByteArray) (w : World) (hW : ¬ WordP s) (h0 : 0 < s.size) (hz : s.size < 10000000) :
    CallsR Try.prog 32 #[.string (s)] w (fun res _ => res = .bool (false)) := by
  refine calls_fr [.string (s)] Try.func32 rfl Try.ntmps32 rfl fun a hF => ?_
  have hM : Mem w w [none] [] := MemX.start w 1
  change Fr 11 a [(0, .string (s))] at hF
  have hns : nSg s 47 = cnt s 47 s.size + 1 := rfl
  have hcl := cnt_le (s := s) (c := 47) s.size
  refine sq ?_
  refine wp_region_lit ?_
  refine st hF (g_assign hF rfl) rfl fun a hF => ?_
  refine wpList_nil ?_
  refine tN ?_
  refine sq ?_
  refine wp_region_lit ?_
  refine st hF (g_move hF rfl) rfl fun a hF => ?_
  refine stR hF (d_call Try.call51 hF (.cons rfl .nil) (l04Layers_N s _ hW h0 hz)) rfl ?_
  rintro u w' a ⟨hx, ul, rfl⟩ hF
  have hM := hM.ext hx
  refine st hF (g_move hF rfl) rfl fun a hF => st hF (g_extract hF rfl rfl) rfl fun a hF => st hF (g_extract hF rfl rfl) rfl fun a hF => st hF (g_assign hF rfl) rfl fun a hF => st hF (g_assign hF rfl) rfl fun a hF => ?_
  refine wpList_nil ?_
  refine tN ?_
  refine sq ?_
  refine wp_region_lit ?_
  refine st hF (g_move hF rfl) rfl fun a hF => st hF (g_assign hF rfl) rfl fun a hF => ?_
  refine wpList_nil ?_
  refine tN ?_
  refine wp_ret ?_
  refine fin1 rfl hF.defers (res_tmp hF rfl) ⟨_, rfl, hM.below, ?_⟩
  show _ = _
  rfl

theorem l04Is_Y (s : ByteArray) (w : World) (hW : WordP s) (h0 : 0 < s.size) :
    CallsR Try.prog 32 #[.string (s)] w (fun res _ => res = .bool (true)) := by
  refine calls_fr [.string (s)] Try.func32 rfl Try.ntmps32 rfl fun a hF => ?_
  have hM : Mem w w [none] [] := MemX.start w 1
  change Fr 11 a [(0, .string (s))] at hF
  have h3 := hW.1
  have hns : nSg s 47 = cnt s 47 s.size + 1 := rfl
  have hcl := cnt_le (s := s) (c := 47) s.size
  refine sq ?_
  refine wp_region_lit ?_
  refine st hF (g_assign hF rfl) rfl fun a hF => ?_
  refine wpList_nil ?_
  refine tN ?_
  refine sq ?_
  refine wp_region_lit ?_
  refine st hF (g_move hF rfl) rfl fun a hF => ?_
  refine stR hF (d_call Try.call51 hF (.cons rfl .nil) (l04Layers_Y s _ hW h0)) rfl ?_
  rintro u w' a ⟨hx, ul, rfl, bW, cW, csW, hsW, hgW, hbW⟩ hF
  obtain rfl := hsW.val
  have hM := hM.fill hx 0 hbW hgW
  change Mem w w' [some (bW, csW)] [] at hM
  refine st hF (g_move hF rfl) rfl fun a hF => st hF (g_extract hF rfl rfl) rfl fun a hF => st hF (g_extract hF rfl rfl) rfl fun a hF => st hF (g_assign hF rfl) rfl fun a hF => st hF (g_assign hF rfl) rfl fun a hF => ?_
  refine wpList_nil ?_
  refine tN ?_
  refine sq ?_
  refine wp_region_lit ?_
  refine st hF (g_move hF rfl) rfl fun a hF => st hF (g_assign hF rfl) rfl fun a hF => ?_
  refine wpList_nil ?_
  refine tN ?_
  refine wp_ret ?_
  refine fin1 rfl hF.defers (res_tmp hF rfl) ⟨_, rfl, hM.below, ?_⟩
  show _ = _
  rfl

theorem IsWordS_E  (w : World)  :
    CallsR Try.prog 11 #[.string (⟨#[]⟩)] w (fun res _ => res = .bool (true)) := by
  refine calls_fr [.string (⟨#[]⟩)] Try.func11 rfl Try.ntmps11 rfl fun a hF => ?_
  have hM : Mem w w [none] [] := MemX.start w 1
  change Fr 5 a [(0, .string (⟨#[]⟩))] at hF
  have he0 : (⟨#[]⟩ : ByteArray).size = 0 := rfl
  refine sq ?_
  refine wp_region_lit ?_
  refine st hF (g_assign hF rfl) rfl fun a hF => ?_
  refine wpList_nil ?_
  refine tN ?_
  refine sq ?_
  refine wp_region_lit ?_
  refine st hF (g_move hF rfl) rfl fun a hF => ?_
  refine stR hF (d_call Try.call32 hF (.cons rfl .nil) (l04Is_E _)) rfl ?_
  rintro _ w' a ⟨hx, rfl⟩ hF
  have hM := hM.ext hx
  refine st hF (g_assign hF rfl) rfl fun a hF => ?_
  refine wpList_nil ?_
  refine tN ?_
  refine wp_ret ?_
  refine fin1 rfl hF.defers (res_tmp hF rfl) ⟨_, rfl, hM.below, ?_⟩
  show _ = _
  rfl

theorem IsWordS_N (s : ByteArray) (w : World) (hW : ¬ WordP s) (h0 : 0 < s.size) (hz : s.size < 10000000) :
    CallsR Try.prog 11 #[.string (s)] w (fun res _ => res = .bool (false)) := by
  refine calls_fr [.string (s)] Try.func11 rfl Try.ntmps11 rfl fun a hF => ?_
  have hM : Mem w w [none] [] := MemX.start w 1
  change Fr 5 a [(0, .string (s))] at hF
  have hns : nSg s 47 = cnt s 47 s.size + 1 := rfl
  have hcl := cnt_le (s := s) (c := 47) s.size
  refine sq ?_
  refine wp_region_lit ?_
  refine st hF (g_assign hF rfl) rfl fun a hF => ?_
  refine wpList_nil ?_
  refine tN ?_
  refine sq ?_
  refine wp_region_lit ?_
  refine st hF (g_move hF rfl) rfl fun a hF => ?_
  refine stR hF (d_call Try.call32 hF (.cons rfl .nil) (l04Is_N s _ hW h0 hz)) rfl ?_
  rintro _ w' a ⟨hx, rfl⟩ hF
  have hM := hM.ext hx
  refine st hF (g_assign hF rfl) rfl fun a hF => ?_
  refine wpList_nil ?_
  refine tN ?_
  refine wp_ret ?_
  refine fin1 rfl hF.defers (res_tmp hF rfl) ⟨_, rfl, hM.below, ?_⟩
  show _ = _
  rfl

theorem IsWordS_Y (s : ByteArray) (w : World) (hW : WordP s) (h0 : 0 < s.size) :
    CallsR Try.prog 11 #[.string (s)] w (fun res _ => res = .bool (true)) := by
  refine calls_fr [.string (s)] Try.func11 rfl Try.ntmps11 rfl fun a hF => ?_
  have hM : Mem w w [none] [] := MemX.start w 1
  change Fr 5 a [(0, .string (s))] at hF
  have h3 := hW.1
  have hns : nSg s 47 = cnt s 47 s.size + 1 := rfl
  have hcl := cnt_le (s := s) (c := 47) s.size
  refine sq ?_
  refine wp_region_lit ?_
  refine st hF (g_assign hF rfl) rfl fun a hF => ?_
  refine wpList_nil ?_
  refine tN ?_
  refine sq ?_
  refine wp_region_lit ?_
  refine st hF (g_move hF rfl) rfl fun a hF => ?_
  refine stR hF (d_call Try.call32 hF (.cons rfl .nil) (l04Is_Y s _ hW h0)) rfl ?_
  rintro _ w' a ⟨hx, rfl⟩ hF
  have hM := hM.ext hx
  refine st hF (g_assign hF rfl) rfl fun a hF => ?_
  refine wpList_nil ?_
  refine tN ?_
  refine wp_ret ?_
  refine fin1 rfl hF.defers (res_tmp hF rfl) ⟨_, rfl, hM.below, ?_⟩
  show _ = _
  rfl

theorem l04Ends_E  (w : World)  :
    CallsR Try.prog 34 #[.string (⟨#[]⟩)] w (fun res _ => res = .tuple #[.int .i64 (0), .int .i64 (0)]) := by
  refine calls_fr [.string (⟨#[]⟩)] Try.func34 rfl Try.ntmps34 rfl fun a hF => ?_
  have hM : Mem w w [none] [] := MemX.start w 1
  change Fr 41 a [(0, .string (⟨#[]⟩))] at hF
  have he0 : (⟨#[]⟩ : ByteArray).size = 0 := rfl
  refine sq ?_
  refine wp_region_lit ?_
  refine st hF (g_assign hF rfl) rfl fun a hF => st hF (g_assign hF rfl) rfl fun a hF => ?_
  refine wpList_nil ?_
  refine tN ?_
  refine sq ?_
  refine wp_region_lit ?_
  refine st hF (g_move hF rfl) rfl fun a hF => ?_
  refine stR hF (d_call Try.call51 hF (.cons rfl .nil) (l04Layers_E _)) rfl ?_
  rintro u w' a ⟨hx, x0, rfl⟩ hF
  have hM := hM.ext hx
  refine st hF (g_move hF rfl) rfl fun a hF => st hF (g_extract hF rfl rfl) rfl fun a hF => st hF (g_extract hF rfl rfl) rfl fun a hF => st hF (g_assign hF rfl) rfl fun a hF => st hF (g_assign hF rfl) rfl fun a hF => ?_
  refine wpList_nil ?_
  refine tN ?_
  refine sq ?_
  refine sq ?_
  refine wp_region_lit ?_
  refine st hF (g_move hF rfl) rfl fun a hF => st hF (g_lenX ty_us_59 hF rfl) rfl fun a hF => st hF (g_eql hF rfl rfl) rfl fun a hF => ?_
  refine wpList_nil ?_
  refine tN ?_
  refine c_kT hF rfl (by decide) ?_
  refine sq ?_
  refine wp_region_lit ?_
  refine st hF (g_assign hF rfl) rfl fun a hF => st hF (g_assign hF rfl) rfl fun a hF => ?_
  refine wpList_nil ?_
  refine tN ?_
  refine wp_ret ?_
  refine tR ?_
  refine fin2 rfl hF.defers (res_tmp hF rfl) (res_tmp hF rfl) ⟨_, rfl, hM.below, ?_⟩
  show _ = _
  rfl

theorem l04Ends_Y (s : ByteArray) (w : World) (hW : WordP s) (h0 : 0 < s.size) :
    CallsR Try.prog 34 #[.string (s)] w (fun res _ => res = .tuple #[.int .i64 (((inR s (sgB s 47 (0)) : Nat) : Int)), .int .i64 (((outR s (sgB s 47 (nSg s 47 - 1)) : Nat) : Int))]) := by
  refine calls_fr [.string (s)] Try.func34 rfl Try.ntmps34 rfl fun a hF => ?_
  have hM : Mem w w [none] [] := MemX.start w 1
  change Fr 41 a [(0, .string (s))] at hF
  have h3 := hW.1
  have hns : nSg s 47 = cnt s 47 s.size + 1 := rfl
  have hcl := cnt_le (s := s) (c := 47) s.size
  refine sq ?_
  refine wp_region_lit ?_
  refine st hF (g_assign hF rfl) rfl fun a hF => st hF (g_assign hF rfl) rfl fun a hF => ?_
  refine wpList_nil ?_
  refine tN ?_
  refine sq ?_
  refine wp_region_lit ?_
  refine st hF (g_move hF rfl) rfl fun a hF => ?_
  refine stR hF (d_call Try.call51 hF (.cons rfl .nil) (l04Layers_Y s _ hW h0)) rfl ?_
  rintro u w' a ⟨hx, ul, rfl, bW, cW, csW, hsW, hgW, hbW⟩ hF
  obtain rfl := hsW.val
  have hM := hM.fill hx 0 hbW hgW
  change Mem w w' [some (bW, csW)] [] at hM
  refine st hF (g_move hF rfl) rfl fun a hF => st hF (g_extract hF rfl rfl) rfl fun a hF => st hF (g_extract hF rfl rfl) rfl fun a hF => st hF (g_assign hF rfl) rfl fun a hF => st hF (g_assign hF rfl) rfl fun a hF => ?_
  refine wpList_nil ?_
  refine tN ?_
  refine sq ?_
  refine sq ?_
  refine wp_region_lit ?_
  refine st hF (g_move hF rfl) rfl fun a hF => st hF (g_len ty_us_59 hF rfl) rfl fun a hF => st hF (g_eql hF rfl rfl) rfl fun a hF => ?_
  refine wpList_nil ?_
  refine tN ?_
  refine c_cond hF rfl (fun h1 => ?_) (fun h1 => ?_)
  ·
    exfalso; omega
  ·
    refine wp_skip ?_
    refine tN ?_
    refine sq ?_
    refine wp_region_lit ?_
    refine st hF (g_move hF rfl) rfl fun a hF => st hF (g_indexSl (i := 0) ty_sl_59 hF rfl rfl rfl (by omega)) rfl fun a hF => st hF (g_load ty_on_9 hF rfl (hM.row 0 rfl) (hsW.get1 (0) (by omega))) rfl fun a hF => ?_
    ·
      have hok := word_ok hW (k := (0)) (by omega)
      obtain ⟨hsi, hso⟩ := seg_in (s := s) (k := (0)) (by omega)
      have hsz9 := seg_size (s := s) (k := (0)) (by omega)
      have hsl9 := sgB_le (s := s) (c := 47) (k := (0)) (by omega)
      refine stR hF (d_call Try.call55 hF (.cons rfl .nil) (CallsR.val (l04Layer_P (seg s 47 (0)) _ (by omega) hok.1) (show _ = Value.tuple #[.int .i64 ((inR s (sgB s 47 (0)) : Nat) : Int), .int .i64 ((outR s (sgB s 47 (0)) : Nat) : Int), .bool (decide (lyT (seg s 47 (0))))] from by rw [hsi, hso]))) rfl ?_
      rintro _ w' a ⟨hx, rfl⟩ hF
      have hM := hM.ext hx
      refine st hF (g_move hF rfl) rfl fun a hF => st hF (g_extract hF rfl rfl) rfl fun a hF => st hF (g_extract hF rfl rfl) rfl fun a hF => st hF (g_extract hF rfl rfl) rfl fun a hF => st hF (g_assign hF rfl) rfl fun a hF => st hF (g_assign hF rfl) rfl fun a hF => st hF (g_assign hF rfl) rfl fun a hF => ?_
      refine wpList_nil ?_
      refine tN ?_
      refine sq ?_
      refine wp_region_lit ?_
      refine st hF (g_move hF rfl) rfl fun a hF => st hF (g_move hF rfl) rfl fun a hF => st hF (g_len ty_us_59 hF rfl) rfl fun a hF => st hF (g_sub hF rfl rfl (show _ = ((nSg s 47 - 1 : Nat) : Int) from (by rw [wrap_i64] <;> omega))) rfl fun a hF => st hF (g_indexSl (i := nSg s 47 - 1) ty_sl_59 hF rfl rfl rfl (by omega)) rfl fun a hF => st hF (g_load ty_on_9 hF rfl (hM.row 0 rfl) (hsW.get1 (nSg s 47 - 1) (by omega))) rfl fun a hF => ?_
      ·
        have hok := word_ok hW (k := (nSg s 47 - 1)) (by omega)
        obtain ⟨hsi, hso⟩ := seg_in (s := s) (k := (nSg s 47 - 1)) (by omega)
        have hsz9 := seg_size (s := s) (k := (nSg s 47 - 1)) (by omega)
        have hsl9 := sgB_le (s := s) (c := 47) (k := (nSg s 47 - 1)) (by omega)
        refine stR hF (d_call Try.call55 hF (.cons rfl .nil) (CallsR.val (l04Layer_P (seg s 47 (nSg s 47 - 1)) _ (by omega) hok.1) (show _ = Value.tuple #[.int .i64 ((inR s (sgB s 47 (nSg s 47 - 1)) : Nat) : Int), .int .i64 ((outR s (sgB s 47 (nSg s 47 - 1)) : Nat) : Int), .bool (decide (lyT (seg s 47 (nSg s 47 - 1))))] from by rw [hsi, hso]))) rfl ?_
        rintro _ w' a ⟨hx, rfl⟩ hF
        have hM := hM.ext hx
        refine st hF (g_move hF rfl) rfl fun a hF => st hF (g_extract hF rfl rfl) rfl fun a hF => st hF (g_extract hF rfl rfl) rfl fun a hF => st hF (g_extract hF rfl rfl) rfl fun a hF => st hF (g_assign hF rfl) rfl fun a hF => st hF (g_assign hF rfl) rfl fun a hF => st hF (g_assign hF rfl) rfl fun a hF => ?_
        refine wpList_nil ?_
        refine tN ?_
        refine sq ?_
        refine wp_region_lit ?_
        refine st hF (g_move hF rfl) rfl fun a hF => st hF (g_move hF rfl) rfl fun a hF => st hF (g_assign hF rfl) rfl fun a hF => st hF (g_assign hF rfl) rfl fun a hF => ?_
        refine wpList_nil ?_
        refine tN ?_
        refine wp_ret ?_
        refine fin2 rfl hF.defers (res_tmp hF rfl) (res_tmp hF rfl) ⟨_, rfl, hM.below, ?_⟩
        show _ = _
        rfl

theorem LegsOfS_E  (w : World)  :
    CallsR Try.prog 13 #[.string (⟨#[]⟩)] w (fun res _ => res = .tuple #[.int .i64 (0), .int .i64 (0), .int .i64 (0)]) := by
  refine calls_fr [.string (⟨#[]⟩)] Try.func13 rfl Try.ntmps13 rfl fun a hF => ?_
  have hM : Mem w w [none] [] := MemX.start w 1
  change Fr 17 a [(0, .string (⟨#[]⟩))] at hF
  have he0 : (⟨#[]⟩ : ByteArray).size = 0 := rfl
  refine sq ?_
  refine wp_region_lit ?_
  refine st hF (g_assign hF rfl) rfl fun a hF => st hF (g_assign hF rfl) rfl fun a hF => st hF (g_assign hF rfl) rfl fun a hF => ?_
  refine wpList_nil ?_
  refine tN ?_
  refine sq ?_
  refine sq ?_
  refine wp_region_lit ?_
  refine st hF (g_move hF rfl) rfl fun a hF => ?_
  refine stR hF (d_call Try.call32 hF (.cons rfl .nil) (l04Is_E _)) rfl ?_
  rintro _ w' a ⟨hx, rfl⟩ hF
  have hM := hM.ext hx
  refine st hF (g_not hF rfl) rfl fun a hF => ?_
  refine wpList_nil ?_
  refine tN ?_
  refine c_Fl hF rfl ?_
  refine wp_skip ?_
  refine tN ?_
  refine sq ?_
  refine wp_region_lit ?_
  refine st hF (g_move hF rfl) rfl fun a hF => ?_
  refine stR hF (d_call Try.call34 hF (.cons rfl .nil) (l04Ends_E _)) rfl ?_
  rintro _ w' a ⟨hx, rfl⟩ hF
  have hM := hM.ext hx
  refine st hF (g_move hF rfl) rfl fun a hF => st hF (g_extract hF rfl rfl) rfl fun a hF => st hF (g_extract hF rfl rfl) rfl fun a hF => st hF (g_assign hF rfl) rfl fun a hF => st hF (g_assign hF rfl) rfl fun a hF => ?_
  refine wpList_nil ?_
  refine tN ?_
  refine sq ?_
  refine wp_region_lit ?_
  refine st hF (g_move hF rfl) rfl fun a hF => st hF (g_move hF rfl) rfl fun a hF => st hF (g_assign hF rfl) rfl fun a hF => st hF (g_assign hF rfl) rfl fun a hF => st hF (g_assign hF rfl) rfl fun a hF => ?_
  refine wpList_nil ?_
  refine tN ?_
  refine wp_ret ?_
  refine fin3 rfl hF.defers (res_tmp hF rfl) (res_tmp hF rfl) (res_tmp hF rfl) ⟨_, rfl, hM.below, ?_⟩
  show _ = _
  rfl

theorem LegsOfS_N (s : ByteArray) (w : World) (hW : ¬ WordP s) (h0 : 0 < s.size) (hz : s.size < 10000000) :
    CallsR Try.prog 13 #[.string (s)] w (fun res _ => res = .tuple #[.int .i64 (0), .int .i64 (0), .int .i64 (1)]) := by
  refine calls_fr [.string (s)] Try.func13 rfl Try.ntmps13 rfl fun a hF => ?_
  have hM : Mem w w [none] [] := MemX.start w 1
  change Fr 17 a [(0, .string (s))] at hF
  have hns : nSg s 47 = cnt s 47 s.size + 1 := rfl
  have hcl := cnt_le (s := s) (c := 47) s.size
  refine sq ?_
  refine wp_region_lit ?_
  refine st hF (g_assign hF rfl) rfl fun a hF => st hF (g_assign hF rfl) rfl fun a hF => st hF (g_assign hF rfl) rfl fun a hF => ?_
  refine wpList_nil ?_
  refine tN ?_
  refine sq ?_
  refine sq ?_
  refine wp_region_lit ?_
  refine st hF (g_move hF rfl) rfl fun a hF => ?_
  refine stR hF (d_call Try.call32 hF (.cons rfl .nil) (l04Is_N s _ hW h0 hz)) rfl ?_
  rintro _ w' a ⟨hx, rfl⟩ hF
  have hM := hM.ext hx
  refine st hF (g_not hF rfl) rfl fun a hF => ?_
  refine wpList_nil ?_
  refine tN ?_
  refine c_T hF rfl ?_
  refine sq ?_
  refine wp_region_lit ?_
  refine st hF (g_assign hF rfl) rfl fun a hF => st hF (g_assign hF rfl) rfl fun a hF => st hF (g_assign hF rfl) rfl fun a hF => ?_
  refine wpList_nil ?_
  refine tN ?_
  refine wp_ret ?_
  refine tR ?_
  refine fin3 rfl hF.defers (res_tmp hF rfl) (res_tmp hF rfl) (res_tmp hF rfl) ⟨_, rfl, hM.below, ?_⟩
  show _ = _
  rfl

theorem LegsOfS_Y (s : ByteArray) (w : World) (hW : WordP s) (h0 : 0 < s.size) :
    CallsR Try.prog 13 #[.string (s)] w (fun res _ => res = .tuple #[.int .i64 (((inR s (sgB s 47 (0)) : Nat) : Int)), .int .i64 (((outR s (sgB s 47 (nSg s 47 - 1)) : Nat) : Int)), .int .i64 (0)]) := by
  refine calls_fr [.string (s)] Try.func13 rfl Try.ntmps13 rfl fun a hF => ?_
  have hM : Mem w w [none] [] := MemX.start w 1
  change Fr 17 a [(0, .string (s))] at hF
  have h3 := hW.1
  have hns : nSg s 47 = cnt s 47 s.size + 1 := rfl
  have hcl := cnt_le (s := s) (c := 47) s.size
  refine sq ?_
  refine wp_region_lit ?_
  refine st hF (g_assign hF rfl) rfl fun a hF => st hF (g_assign hF rfl) rfl fun a hF => st hF (g_assign hF rfl) rfl fun a hF => ?_
  refine wpList_nil ?_
  refine tN ?_
  refine sq ?_
  refine sq ?_
  refine wp_region_lit ?_
  refine st hF (g_move hF rfl) rfl fun a hF => ?_
  refine stR hF (d_call Try.call32 hF (.cons rfl .nil) (l04Is_Y s _ hW h0)) rfl ?_
  rintro _ w' a ⟨hx, rfl⟩ hF
  have hM := hM.ext hx
  refine st hF (g_not hF rfl) rfl fun a hF => ?_
  refine wpList_nil ?_
  refine tN ?_
  refine c_Fl hF rfl ?_
  refine wp_skip ?_
  refine tN ?_
  refine sq ?_
  refine wp_region_lit ?_
  refine st hF (g_move hF rfl) rfl fun a hF => ?_
  refine stR hF (d_call Try.call34 hF (.cons rfl .nil) (l04Ends_Y s _ hW h0)) rfl ?_
  rintro _ w' a ⟨hx, rfl⟩ hF
  have hM := hM.ext hx
  refine st hF (g_move hF rfl) rfl fun a hF => st hF (g_extract hF rfl rfl) rfl fun a hF => st hF (g_extract hF rfl rfl) rfl fun a hF => st hF (g_assign hF rfl) rfl fun a hF => st hF (g_assign hF rfl) rfl fun a hF => ?_
  refine wpList_nil ?_
  refine tN ?_
  refine sq ?_
  refine wp_region_lit ?_
  refine st hF (g_move hF rfl) rfl fun a hF => st hF (g_move hF rfl) rfl fun a hF => st hF (g_assign hF rfl) rfl fun a hF => st hF (g_assign hF rfl) rfl fun a hF => st hF (g_assign hF rfl) rfl fun a hF => ?_
  refine wpList_nil ?_
  refine tN ?_
  refine wp_ret ?_
  refine fin3 rfl hF.defers (res_tmp hF rfl) (res_tmp hF rfl) (res_tmp hF rfl) ⟨_, rfl, hM.below, ?_⟩
  show _ = _
  rfl

theorem EulerOfS_E  (w : World)  :
    CallsR Try.prog 15 #[.string (⟨#[]⟩)] w (fun res _ => res = .tuple #[.int .i64 (0), .int .i64 (0)]) := by
  refine calls_fr [.string (⟨#[]⟩)] Try.func15 rfl Try.ntmps15 rfl fun a hF => ?_
  have hM : Mem w w [none] [] := MemX.start w 1
  change Fr 22 a [(0, .string (⟨#[]⟩))] at hF
  have he0 : (⟨#[]⟩ : ByteArray).size = 0 := rfl
  refine sq ?_
  refine wp_region_lit ?_
  refine st hF (g_assign hF rfl) rfl fun a hF => st hF (g_assign hF rfl) rfl fun a hF => ?_
  refine wpList_nil ?_
  refine tN ?_
  refine sq ?_
  refine sq ?_
  refine wp_region_lit ?_
  refine st hF (g_move hF rfl) rfl fun a hF => ?_
  refine stR hF (d_call Try.call32 hF (.cons rfl .nil) (l04Is_E _)) rfl ?_
  rintro _ w' a ⟨hx, rfl⟩ hF
  have hM := hM.ext hx
  refine st hF (g_not hF rfl) rfl fun a hF => ?_
  refine wpList_nil ?_
  refine tN ?_
  refine c_Fl hF rfl ?_
  refine wp_skip ?_
  refine tN ?_
  refine sq ?_
  refine wp_region_lit ?_
  refine st hF (g_assign hF rfl) rfl fun a hF => ?_
  refine wpList_nil ?_
  refine tN ?_
  refine sq ?_
  refine sq ?_
  refine wp_region_lit ?_
  refine st hF (g_assign hF rfl) rfl fun a hF => ?_
  refine wpList_nil ?_
  refine tN ?_
  refine wp_block ?_
  change Mem w _ [none] [] at hM
  refine c_loop (fun (kk : Nat) a w' => kk ≤ 0 ∧ (True) ∧ Fr 22 a [(0, .string (⟨#[]⟩)), (2, .int .i64 (0)), (3, .int .i64 (0)), (6, .string (⟨#[]⟩)), (7, .bool (true)), (8, .bool (false)), (5, .int .i64 (((kk : Nat) : Int))), (4, .int .i64 (0))] ∧ Mem w w' [none] []) (fun kk => 0 - kk) 0 ?_ ?_
  ·
    refine ⟨by omega, trivial, hF.sub _ (by repeat' constructor), ?_⟩
    exact hM
  ·
    clear hF hM
    rintro gi a w' ⟨hgi, hinv1, hF, hM⟩
    refine sq ?_
    refine sq ?_
    refine wp_region_lit ?_
    refine st hF (g_move hF rfl) rfl fun a hF => st hF (g_move hF rfl) rfl fun a hF => st hF (g_lenS ty_ut_9 hF rfl) rfl fun a hF => st hF (g_lss hF rfl rfl) rfl fun a hF => ?_
    refine wpList_nil ?_
    refine tN ?_
    refine c_cond hF rfl (fun h2 => ?_) (fun h2 => ?_)
    ·
      first | (exfalso; omega) | (exfalso; simp_all; done)
    ·
      obtain rfl : 0 = gi := by omega
      refine wp_exit ?_
      refine tX ?_
      refine tX ?_
      refine ib_same ?_
      refine tN ?_
      refine sq ?_
      refine wp_region_lit ?_
      refine st hF (g_move hF rfl) rfl fun a hF => st hF (g_assign hF rfl) rfl fun a hF => st hF (g_assign hF rfl) rfl fun a hF => ?_
      refine wpList_nil ?_
      refine tN ?_
      refine wp_ret ?_
      refine fin2 rfl hF.defers (res_tmp hF rfl) (res_tmp hF rfl) ⟨_, rfl, hM.below, ?_⟩
      show _ = _
      rfl

theorem EulerOfS_N (s : ByteArray) (w : World) (hW : ¬ WordP s) (h0 : 0 < s.size) (hz : s.size < 10000000) :
    CallsR Try.prog 15 #[.string (s)] w (fun res _ => res = .tuple #[.int .i64 (0), .int .i64 (1)]) := by
  refine calls_fr [.string (s)] Try.func15 rfl Try.ntmps15 rfl fun a hF => ?_
  have hM : Mem w w [none] [] := MemX.start w 1
  change Fr 22 a [(0, .string (s))] at hF
  have hns : nSg s 47 = cnt s 47 s.size + 1 := rfl
  have hcl := cnt_le (s := s) (c := 47) s.size
  refine sq ?_
  refine wp_region_lit ?_
  refine st hF (g_assign hF rfl) rfl fun a hF => st hF (g_assign hF rfl) rfl fun a hF => ?_
  refine wpList_nil ?_
  refine tN ?_
  refine sq ?_
  refine sq ?_
  refine wp_region_lit ?_
  refine st hF (g_move hF rfl) rfl fun a hF => ?_
  refine stR hF (d_call Try.call32 hF (.cons rfl .nil) (l04Is_N s _ hW h0 hz)) rfl ?_
  rintro _ w' a ⟨hx, rfl⟩ hF
  have hM := hM.ext hx
  refine st hF (g_not hF rfl) rfl fun a hF => ?_
  refine wpList_nil ?_
  refine tN ?_
  refine c_T hF rfl ?_
  refine sq ?_
  refine wp_region_lit ?_
  refine st hF (g_assign hF rfl) rfl fun a hF => st hF (g_assign hF rfl) rfl fun a hF => ?_
  refine wpList_nil ?_
  refine tN ?_
  refine wp_ret ?_
  refine tR ?_
  refine fin2 rfl hF.defers (res_tmp hF rfl) (res_tmp hF rfl) ⟨_, rfl, hM.below, ?_⟩
  show _ = _
  rfl

theorem EulerOfS_Y (s : ByteArray) (w : World) (hW : WordP s) (h0 : 0 < s.size) :
    CallsR Try.prog 15 #[.string (s)] w (fun res _ => res = .tuple #[.int .i64 (eulS s s.size), .int .i64 (0)]) := by
  refine calls_fr [.string (s)] Try.func15 rfl Try.ntmps15 rfl fun a hF => ?_
  have hM : Mem w w [none] [] := MemX.start w 1
  change Fr 22 a [(0, .string (s))] at hF
  have h3 := hW.1
  have hns : nSg s 47 = cnt s 47 s.size + 1 := rfl
  have hcl := cnt_le (s := s) (c := 47) s.size
  refine sq ?_
  refine wp_region_lit ?_
  refine st hF (g_assign hF rfl) rfl fun a hF => st hF (g_assign hF rfl) rfl fun a hF => ?_
  refine wpList_nil ?_
  refine tN ?_
  refine sq ?_
  refine sq ?_
  refine wp_region_lit ?_
  refine st hF (g_move hF rfl) rfl fun a hF => ?_
  refine stR hF (d_call Try.call32 hF (.cons rfl .nil) (l04Is_Y s _ hW h0)) rfl ?_
  rintro _ w' a ⟨hx, rfl⟩ hF
  have hM := hM.ext hx
  refine st hF (g_not hF rfl) rfl fun a hF => ?_
  refine wpList_nil ?_
  refine tN ?_
  refine c_Fl hF rfl ?_
  refine wp_skip ?_
  refine tN ?_
  refine sq ?_
  refine wp_region_lit ?_
  refine st hF (g_assign hF rfl) rfl fun a hF => ?_
  refine wpList_nil ?_
  refine tN ?_
  refine sq ?_
  refine sq ?_
  refine wp_region_lit ?_
  refine st hF (g_assign hF rfl) rfl fun a hF => ?_
  refine wpList_nil ?_
  refine tN ?_
  refine wp_block ?_
  change Mem w _ [none] [] at hM
  refine c_loop (fun (kk : Nat) a w' => kk ≤ s.size ∧ (True) ∧ Fr 22 a [(0, .string (s)), (2, .int .i64 (0)), (3, .int .i64 (0)), (6, .string (s)), (7, .bool (true)), (8, .bool (false)), (5, .int .i64 (((kk : Nat) : Int))), (4, .int .i64 (eulS s kk))] ∧ Mem w w' [none] []) (fun kk => s.size - kk) 0 ?_ ?_
  ·
    refine ⟨by omega, trivial, hF.sub _ (by repeat' constructor), ?_⟩
    exact hM
  ·
    clear hF hM
    rintro gi a w' ⟨hgi, hinv1, hF, hM⟩
    have heb := eulS_b (s := s) gi
    have hel := eulL_b (c := byt s gi)
    refine sq ?_
    refine sq ?_
    refine wp_region_lit ?_
    refine st hF (g_move hF rfl) rfl fun a hF => st hF (g_move hF rfl) rfl fun a hF => st hF (g_lenS ty_ut_9 hF rfl) rfl fun a hF => st hF (g_lss hF rfl rfl) rfl fun a hF => ?_
    refine wpList_nil ?_
    refine tN ?_
    refine c_cond hF rfl (fun h2 => ?_) (fun h2 => ?_)
    ·
      refine wp_skip ?_
      refine tN ?_
      refine sq ?_
      refine wp_block ?_
      refine wp_region_lit ?_
      refine st hF (g_move hF rfl) rfl fun a hF => st hF (g_move hF rfl) rfl fun a hF => st hF (g_move hF rfl) rfl fun a hF => st hF (g_indexS (i := gi) ty_ut_9 hF rfl rfl rfl (by omega)) rfl fun a hF => ?_
      refine stR hF (d_call Try.call36 hF (.cons rfl .nil) (l04Euler_ok (byt s (gi)) _ (by first | exact byt_lt | omega))) rfl ?_
      rintro _ w' a ⟨hx, rfl⟩ hF
      have hM := hM.ext hx
      refine st hF (g_add hF rfl rfl (wrap_i64 (by omega) (by omega))) rfl fun a hF => st hF (g_assign hF rfl) rfl fun a hF => ?_
      refine wpList_nil ?_
      refine iN ?_
      refine tN ?_
      refine wp_region_lit ?_
      refine st hF (g_move hF rfl) rfl fun a hF => st hF (g_add hF rfl rfl (add_nat (gi) (1) (by omega))) rfl fun a hF => st hF (g_assign hF rfl) rfl fun a hF => ?_
      refine wpList_nil ?_
      refine tN ?_
      rw [show eulS s gi + eulL (byt s (gi)) = eulS s (gi + 1) from rfl] at hF
      refine ⟨gi + 1, ⟨by omega, trivial, hF.sub _ (by repeat' constructor), ?_⟩, by omega⟩
      exact hM
    ·
      obtain rfl : s.size = gi := by omega
      refine wp_exit ?_
      refine tX ?_
      refine tX ?_
      refine ib_same ?_
      refine tN ?_
      refine sq ?_
      refine wp_region_lit ?_
      refine st hF (g_move hF rfl) rfl fun a hF => st hF (g_assign hF rfl) rfl fun a hF => st hF (g_assign hF rfl) rfl fun a hF => ?_
      refine wpList_nil ?_
      refine tN ?_
      refine wp_ret ?_
      refine fin2 rfl hF.defers (res_tmp hF rfl) (res_tmp hF rfl) ⟨_, rfl, hM.below, ?_⟩
      show _ = _
      rfl

end Go.Proofs.Ytnaabnhjokibfaa
