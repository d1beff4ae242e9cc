/- What functions of the program return, as walks over their operations; no statement of the seat is proved here. -/
import Derived.Test.YtnaabnhjokibfaaW5
set_option linter.unusedVariables false
set_option linter.unusedSimpArgs false
namespace Go.Proofs.Ytnaabnhjokibfaa
open Go Go.RowKit Go.Sw
open Classical
theorem ty_us_59 : Try.prog.underlying 59 = some (.slice 9) := by kernel_rfl
theorem ty_sl_59 : sliceOf Try.prog 59 = some 1 := by kernel_rfl
theorem l04Layers_E  (w : World)  :
    CallsR Try.prog 51 #[.string (⟨#[]⟩)] w (fun u w' => ∃ x, u = .tuple #[.slice x 0 0, .bool true]) := by
  refine calls_fr [.string (⟨#[]⟩)] Try.func51 rfl Try.ntmps51 rfl fun a hF => ?_
  have hM : Mem w w [none, none] [] := MemX.start w 2
  change Fr 46 a [(0, .string (⟨#[]⟩))] at hF
  have he0 : (⟨#[]⟩ : ByteArray).size = 0 := rfl
  refine sq ?_
  refine wp_region_lit ?_
  refine st hF (g_assign hF rfl) rfl fun a hF => st hF (g_assign hF rfl) rfl fun a hF => ?_
  refine wpList_nil ?_
  refine tN ?_
  refine sq ?_
  refine sq ?_
  refine wp_region_lit ?_
  refine st hF (g_move hF rfl) rfl fun a hF => st hF (g_eqlS hF rfl rfl) rfl fun a hF => ?_
  refine wpList_nil ?_
  refine tN ?_
  refine c_cond hF rfl (fun h1 => ?_) (fun h1 => ?_)
  ·
    refine sq ?_
    refine wp_region_lit ?_
    refine stR hF (d_buildC 0 hM hF rfl ty_bs0_59) rfl ?_
    rintro _ w' a ⟨b2, rfl, hM, -⟩ hF
    change Mem w w' [some (b2, #[]), none] [] at hM
    refine st hF (g_assign hF rfl) rfl fun a hF => st hF (g_assign hF rfl) rfl fun a hF => ?_
    refine wpList_nil ?_
    refine tN ?_
    refine wp_ret ?_
    refine tR ?_
    refine fin2 rfl hF.defers (res_tmp hF rfl) (res_tmp hF rfl) ⟨_, rfl, hM.below, ?_⟩
    exact ⟨_, rfl⟩
  ·
    exact absurd rfl h1

theorem l04Layers_N (s : ByteArray) (w : World) (hW : ¬ WordP s) (h0 : 0 < s.size) (hz : s.size < 10000000) :
    CallsR Try.prog 51 #[.string (s)] w (fun u w' => ∃ l, u = .tuple #[l, .bool false]) := by
  refine calls_fr [.string (s)] Try.func51 rfl Try.ntmps51 rfl fun a hF => ?_
  have hM : Mem w w [none, none] [] := MemX.start w 2
  change Fr 46 a [(0, .string (s))] at hF
  have hns : nSg s 47 = cnt s 47 s.size + 1 := rfl
  have hcl := cnt_le (s := s) (c := 47) s.size
  refine sq ?_
  refine wp_region_lit ?_
  refine st hF (g_assign hF rfl) rfl fun a hF => st hF (g_assign hF rfl) rfl fun a hF => ?_
  refine wpList_nil ?_
  refine tN ?_
  refine sq ?_
  refine sq ?_
  refine wp_region_lit ?_
  refine st hF (g_move hF rfl) rfl fun a hF => st hF (g_eqlS hF rfl rfl) rfl fun a hF => ?_
  refine wpList_nil ?_
  refine tN ?_
  refine c_cond hF rfl (fun h1 => ?_) (fun h1 => ?_)
  ·
    exact absurd (str_iff.1 h1) (by omega)
  ·
    refine wp_skip ?_
    refine tN ?_
    refine sq ?_
    refine wp_region_lit ?_
    refine st hF (g_move hF rfl) rfl fun a hF => ?_
    refine stR hF (d_call Try.call66 hF (.cons rfl (.cons rfl .nil)) (l01Split_ok s (47) _ (by omega) (by omega))) rfl ?_
    rintro u w' a ⟨hx, bW, cW, csW, hsW, hgW, hbW⟩ hF
    obtain rfl := hsW.val
    have hM := hM.fill hx 1 hbW hgW
    change Mem w w' [none, some (bW, csW)] [] at hM
    refine st hF (g_assign hF rfl) rfl fun a hF => st hF (g_assign hF rfl) rfl fun a hF => ?_
    refine wpList_nil ?_
    refine tN ?_
    refine sq ?_
    refine sq ?_
    refine wp_region_lit ?_
    refine st hF (g_assign hF rfl) rfl fun a hF => ?_
    refine wpList_nil ?_
    refine tN ?_
    refine wp_block ?_
    change Mem w _ [none, some (bW, csW)] [] at hM
    refine c_loop (fun (kk : Nat) a w' => kk ≤ nSg s 47 ∧ ∃ (lg_ : Nat), ((0 < kk → lg_ = outR s (sgB s 47 (kk - 1))) ∧ ∀ k, k < kk → lyOk s k) ∧ Fr 46 a [(0, .string (s)), (10, .string (s)), (11, .bool (decide ((s : ByteArray).toList = (⟨#[]⟩ : ByteArray).toList))), (13, .string (s)), (14, .slice (some ⟨bW, 0, none⟩) (nSg s 47) (cW)), (4, .slice (some ⟨bW, 0, none⟩) (nSg s 47) (cW)), (6, .int .i64 (((kk : Nat) : Int))), (5, .int .i64 (((lg_ : Nat) : Int)))] ∧ Mem w w' [none, some (bW, csW)] []) (fun kk => nSg s 47 - kk) 0 ?_ ?_
    ·
      refine ⟨by omega, 0, ⟨fun q => absurd q (by omega), fun k hk => absurd hk (by omega)⟩, hF.sub _ (by repeat' constructor), ?_⟩
      exact hM
    ·
      clear hF hM
      rintro gi a w' ⟨hgi, lg_, ⟨hlg, hoks⟩, hF, hM⟩
      refine sq ?_
      refine sq ?_
      refine wp_region_lit ?_
      refine st hF (g_move hF rfl) rfl fun a hF => st hF (g_move hF rfl) rfl fun a hF => st hF (g_len ty_us_59 hF rfl) rfl fun a hF => st hF (g_lss hF rfl rfl) rfl fun a hF => ?_
      refine wpList_nil ?_
      refine tN ?_
      refine c_cond hF rfl (fun h2 => ?_) (fun h2 => ?_)
      ·
        refine wp_skip ?_
        refine tN ?_
        refine sq ?_
        refine wp_block ?_
        refine sq ?_
        refine wp_region_lit ?_
        refine st hF (g_move hF rfl) rfl fun a hF => st hF (g_move hF rfl) rfl fun a hF => st hF (g_indexSl (i := gi) ty_sl_59 hF rfl rfl rfl (by omega)) rfl fun a hF => st hF (g_load ty_on_9 hF rfl (hM.row 1 rfl) (hsW.get1 (gi) (by omega))) rfl fun a hF => ?_
        by_cases hp : pcT (seg s 47 (gi))
        ·
          obtain ⟨hsi, hso⟩ := seg_in (s := s) (k := (gi)) (by omega)
          have hsz9 := seg_size (s := s) (k := (gi)) (by omega)
          have hsl9 := sgB_le (s := s) (c := 47) (k := (gi)) (by omega)
          refine stR hF (d_call Try.call55 hF (.cons rfl .nil) (CallsR.val (l04Layer_P (seg s 47 (gi)) _ (by omega) hp) (show _ = Value.tuple #[.int .i64 ((inR s (sgB s 47 (gi)) : Nat) : Int), .int .i64 ((outR s (sgB s 47 (gi)) : Nat) : Int), .bool (decide (lyT (seg s 47 (gi))))] from by rw [hsi, hso]))) rfl ?_
          rintro _ w' a ⟨hx, rfl⟩ hF
          have hM := hM.ext hx
          refine st hF (g_move hF rfl) rfl fun a hF => st hF (g_extract hF rfl rfl) rfl fun a hF => st hF (g_extract hF rfl rfl) rfl fun a hF => st hF (g_extract hF rfl rfl) rfl fun a hF => st hF (g_assign hF rfl) rfl fun a hF => st hF (g_assign hF rfl) rfl fun a hF => st hF (g_assign hF rfl) rfl fun a hF => ?_
          refine wpList_nil ?_
          refine tN ?_
          refine sq ?_
          refine sq ?_
          refine wp_region_lit ?_
          refine st hF (g_move hF rfl) rfl fun a hF => st hF (g_notP hF rfl) rfl fun a hF => st hF (g_move hF rfl) rfl fun a hF => ?_
          by_cases g3 : ¬ (lyT (seg s 47 (gi)))
          ·
            first | rw [decide_eq_true g3] at hF | simp only [decide_eq_true g3] at hF
            refine stS hF rfl rfl rfl rfl rfl fun a hF => stS hF rfl rfl rfl rfl rfl fun a hF => stS hF rfl rfl rfl rfl rfl fun a hF => stU hF rfl rfl rfl rfl fun a hF => stU hF rfl rfl rfl rfl fun a hF => stU hF rfl rfl rfl rfl fun a hF => stS hF rfl rfl rfl rfl rfl fun a hF => st hF (g_pickT hF rfl rfl) rfl fun a hF => ?_
            refine wpList_nil ?_
            refine tN ?_
            refine c_T hF rfl ?_
            refine sq ?_
            refine wp_region_lit ?_
            refine st hF (g_assign hF rfl) rfl fun a hF => st hF (g_assign hF rfl) rfl fun a hF => ?_
            refine wpList_nil ?_
            refine tN ?_
            refine wp_ret ?_
            refine tR ?_
            refine iR ?_
            refine tR ?_
            refine tR ?_
            refine iR ?_
            refine tR ?_
            refine fin2 rfl hF.defers (res_tmp hF rfl) (res_tmp hF rfl) ⟨_, rfl, hM.below, ?_⟩
            first | exact ⟨_, rfl⟩ | exact ⟨_, congrArg (fun b => Value.tuple #[_, .bool b]) (decide_eq_false (fun e => hW (ok_word (by omega) hoks)))⟩
          ·
            first | rw [decide_eq_false g3] at hF | simp only [decide_eq_false g3] at hF
            refine stY hF rfl rfl rfl (g_move hF rfl) rfl fun a hF => stY hF rfl rfl rfl (g_gtr hF rfl rfl) rfl fun a hF => stY hF rfl rfl rfl (g_move hF rfl) rfl fun a hF => ?_
            by_cases g5 : 0 < (((gi : Nat) : Int) : Int)
            ·
              first | rw [decide_eq_true g5] at hF | simp only [decide_eq_true g5] at hF
              have hlg1 := hlg (by omega)
              refine stY hF rfl rfl rfl (g_move hF rfl) rfl fun a hF => stY hF rfl rfl rfl (g_move hF rfl) rfl fun a hF => stY hF rfl rfl rfl (g_neq hF rfl rfl) rfl fun a hF => stY hF rfl rfl rfl (g_pickT hF rfl rfl) rfl fun a hF => st hF (g_pickF hF rfl rfl) rfl fun a hF => ?_
              refine wpList_nil ?_
              refine tN ?_
              refine c_cond hF rfl (fun h6 => ?_) (fun h6 => ?_)
              ·
                refine sq ?_
                refine wp_region_lit ?_
                refine st hF (g_assign hF rfl) rfl fun a hF => st hF (g_assign hF rfl) rfl fun a hF => ?_
                refine wpList_nil ?_
                refine tN ?_
                refine wp_ret ?_
                refine tR ?_
                refine iR ?_
                refine tR ?_
                refine tR ?_
                refine iR ?_
                refine tR ?_
                refine fin2 rfl hF.defers (res_tmp hF rfl) (res_tmp hF rfl) ⟨_, rfl, hM.below, ?_⟩
                first | exact ⟨_, rfl⟩ | exact ⟨_, congrArg (fun b => Value.tuple #[_, .bool b]) (decide_eq_false (fun e => hW (ok_word (by omega) hoks)))⟩
              ·
                have hok : lyOk s gi := ⟨hp, by first | assumption | exact Decidable.not_not.1 (by assumption), fun q => by have := hlg q; omega⟩
                refine wp_skip ?_
                refine tN ?_
                refine wp_region_lit ?_
                refine st hF (g_move hF rfl) rfl fun a hF => st hF (g_assign hF rfl) rfl fun a hF => ?_
                refine wpList_nil ?_
                refine iN ?_
                refine tN ?_
                refine wp_region_lit ?_
                refine st hF (g_move hF rfl) rfl fun a hF => st hF (g_add hF rfl rfl (add_nat (gi) (1) (by omega))) rfl fun a hF => st hF (g_assign hF rfl) rfl fun a hF => ?_
                refine wpList_nil ?_
                refine tN ?_
                refine ⟨gi + 1, ⟨by omega, outR s (sgB s 47 (gi)), ⟨fun _ => by rw [Nat.add_sub_cancel], fun k hk => by by_cases e : k = gi; (rw [e]; first | exact hok | exact ⟨hp, by first | assumption | exact Decidable.not_not.1 (by assumption), fun q => absurd q (by omega)⟩); (exact hoks k (by omega))⟩, hF.sub _ (by repeat' constructor), ?_⟩, by omega⟩
                exact hM
            ·
              first | rw [decide_eq_false g5] at hF | simp only [decide_eq_false g5] at hF
              refine stS hF rfl rfl rfl rfl rfl fun a hF => stS hF rfl rfl rfl rfl rfl fun a hF => stS hF rfl rfl rfl rfl rfl fun a hF => stY hF rfl rfl rfl (g_pickF hF rfl rfl) rfl fun a hF => st hF (g_pickF hF rfl rfl) rfl fun a hF => ?_
              refine wpList_nil ?_
              refine tN ?_
              refine c_Fl hF rfl ?_
              refine wp_skip ?_
              refine tN ?_
              refine wp_region_lit ?_
              refine st hF (g_move hF rfl) rfl fun a hF => st hF (g_assign hF rfl) rfl fun a hF => ?_
              refine wpList_nil ?_
              refine iN ?_
              refine tN ?_
              refine wp_region_lit ?_
              refine st hF (g_move hF rfl) rfl fun a hF => st hF (g_add hF rfl rfl (add_nat (gi) (1) (by omega))) rfl fun a hF => st hF (g_assign hF rfl) rfl fun a hF => ?_
              refine wpList_nil ?_
              refine tN ?_
              refine ⟨gi + 1, ⟨by omega, outR s (sgB s 47 (gi)), ⟨fun _ => by rw [Nat.add_sub_cancel], fun k hk => by by_cases e : k = gi; (rw [e]; first | exact hok | exact ⟨hp, by first | assumption | exact Decidable.not_not.1 (by assumption), fun q => absurd q (by omega)⟩); (exact hoks k (by omega))⟩, hF.sub _ (by repeat' constructor), ?_⟩, by omega⟩
              exact hM
        ·
          have hsz9 := seg_size (s := s) (k := (gi)) (by omega)
          have hsl9 := sgB_le (s := s) (c := 47) (k := (gi)) (by omega)
          refine stR hF (d_call Try.call55 hF (.cons rfl .nil) (l04Layer_G (seg s 47 (gi)) _ (by omega) hp)) rfl ?_
          rintro _ w' a ⟨hx, rfl⟩ hF
          have hM := hM.ext hx
          refine st hF (g_move hF rfl) rfl fun a hF => st hF (g_extract hF rfl rfl) rfl fun a hF => st hF (g_extract hF rfl rfl) rfl fun a hF => st hF (g_extract hF rfl rfl) rfl fun a hF => st hF (g_assign hF rfl) rfl fun a hF => st hF (g_assign hF rfl) rfl fun a hF => st hF (g_assign hF rfl) rfl fun a hF => ?_
          refine wpList_nil ?_
          refine tN ?_
          refine sq ?_
          refine sq ?_
          refine wp_region_lit ?_
          refine st hF (g_move hF rfl) rfl fun a hF => st hF (g_not hF rfl) rfl fun a hF => st hF (g_move hF rfl) rfl fun a hF => stS hF rfl rfl rfl rfl rfl fun a hF => stS hF rfl rfl rfl rfl rfl fun a hF => stS hF rfl rfl rfl rfl rfl fun a hF => stU hF rfl rfl rfl rfl fun a hF => stU hF rfl rfl rfl rfl fun a hF => stU hF rfl rfl rfl rfl fun a hF => stS hF rfl rfl rfl rfl rfl fun a hF => st hF (g_pickT hF rfl rfl) rfl fun a hF => ?_
          refine wpList_nil ?_
          refine tN ?_
          refine c_T hF rfl ?_
          refine sq ?_
          refine wp_region_lit ?_
          refine st hF (g_assign hF rfl) rfl fun a hF => st hF (g_assign hF rfl) rfl fun a hF => ?_
          refine wpList_nil ?_
          refine tN ?_
          refine wp_ret ?_
          refine tR ?_
          refine iR ?_
          refine tR ?_
          refine tR ?_
          refine iR ?_
          refine tR ?_
          refine fin2 rfl hF.defers (res_tmp hF rfl) (res_tmp hF rfl) ⟨_, rfl, hM.below, ?_⟩
          first | exact ⟨_, rfl⟩ | exact ⟨_, congrArg (fun b => Value.tuple #[_, .bool b]) (decide_eq_false (fun e => hW (ok_word (by omega) hoks)))⟩
      ·
        obtain rfl : nSg s 47 = gi := by omega
        refine wp_exit ?_
        refine tX ?_
        refine tX ?_
        refine ib_same ?_
        refine tN ?_
        refine sq ?_
        refine wp_region_lit ?_
        refine st hF (g_move hF rfl) rfl fun a hF => st hF (g_move hF rfl) rfl fun a hF => st hF (g_lenS ty_ut_9 hF rfl) rfl fun a hF => st hF (g_leq hF rfl rfl) rfl fun a hF => st hF (g_assign hF rfl) rfl fun a hF => st hF (g_assign hF rfl) rfl fun a hF => ?_
        refine wpList_nil ?_
        refine tN ?_
        refine wp_ret ?_
        refine fin2 rfl hF.defers (res_tmp hF rfl) (res_tmp hF rfl) ⟨_, rfl, hM.below, ?_⟩
        first | exact ⟨_, rfl⟩ | exact ⟨_, congrArg (fun b => Value.tuple #[_, .bool b]) (decide_eq_false (fun e => hW (ok_word (by omega) hoks)))⟩

theorem l04Layers_Y (s : ByteArray) (w : World) (hW : WordP s) (h0 : 0 < s.size) :
    CallsR Try.prog 51 #[.string (s)] w (fun u w' => ∃ l, u = .tuple #[l, .bool true] ∧ OwnSl 1 w (nSg s 47) (segF s 47) l w') := by
  refine calls_fr [.string (s)] Try.func51 rfl Try.ntmps51 rfl fun a hF => ?_
  have hM : Mem w w [none, none] [] := MemX.start w 2
  change Fr 46 a [(0, .string (s))] at hF
  have h3 := hW.1
  have hns : nSg s 47 = cnt s 47 s.size + 1 := rfl
  have hcl := cnt_le (s := s) (c := 47) s.size
  refine sq ?_
  refine wp_region_lit ?_
  refine st hF (g_assign hF rfl) rfl fun a hF => st hF (g_assign hF rfl) rfl fun a hF => ?_
  refine wpList_nil ?_
  refine tN ?_
  refine sq ?_
  refine sq ?_
  refine wp_region_lit ?_
  refine st hF (g_move hF rfl) rfl fun a hF => st hF (g_eqlS hF rfl rfl) rfl fun a hF => ?_
  refine wpList_nil ?_
  refine tN ?_
  refine c_cond hF rfl (fun h1 => ?_) (fun h1 => ?_)
  ·
    exact absurd (str_iff.1 h1) (by omega)
  ·
    refine wp_skip ?_
    refine tN ?_
    refine sq ?_
    refine wp_region_lit ?_
    refine st hF (g_move hF rfl) rfl fun a hF => ?_
    refine stR hF (d_call Try.call66 hF (.cons rfl (.cons rfl .nil)) (l01Split_ok s (47) _ (by omega) (by omega))) rfl ?_
    rintro u w' a ⟨hx, bW, cW, csW, hsW, hgW, hbW⟩ hF
    obtain rfl := hsW.val
    have hM := hM.fill hx 1 hbW hgW
    change Mem w w' [none, some (bW, csW)] [] at hM
    refine st hF (g_assign hF rfl) rfl fun a hF => st hF (g_assign hF rfl) rfl fun a hF => ?_
    refine wpList_nil ?_
    refine tN ?_
    refine sq ?_
    refine sq ?_
    refine wp_region_lit ?_
    refine st hF (g_assign hF rfl) rfl fun a hF => ?_
    refine wpList_nil ?_
    refine tN ?_
    refine wp_block ?_
    change Mem w _ [none, some (bW, csW)] [] at hM
    refine c_loop (fun (kk : Nat) a w' => kk ≤ nSg s 47 ∧ ∃ (lg_ : Nat), ((0 < kk → lg_ = outR s (sgB s 47 (kk - 1)))) ∧ Fr 46 a [(0, .string (s)), (10, .string (s)), (11, .bool (decide ((s : ByteArray).toList = (⟨#[]⟩ : ByteArray).toList))), (13, .string (s)), (14, .slice (some ⟨bW, 0, none⟩) (nSg s 47) (cW)), (4, .slice (some ⟨bW, 0, none⟩) (nSg s 47) (cW)), (6, .int .i64 (((kk : Nat) : Int))), (5, .int .i64 (((lg_ : Nat) : Int)))] ∧ Mem w w' [none, some (bW, csW)] []) (fun kk => nSg s 47 - kk) 0 ?_ ?_
    ·
      refine ⟨by omega, 0, fun q => absurd q (by omega), hF.sub _ (by repeat' constructor), ?_⟩
      exact hM
    ·
      clear hF hM
      rintro gi a w' ⟨hgi, lg_, hlg, hF, hM⟩
      have hlg2 : gi < nSg s 47 → 0 < gi → inR s (sgB s 47 gi) = lg_ := fun q1 q2 => by rw [hlg q2]; exact (word_ok hW q1).2.2 q2
      refine sq ?_
      refine sq ?_
      refine wp_region_lit ?_
      refine st hF (g_move hF rfl) rfl fun a hF => st hF (g_move hF rfl) rfl fun a hF => st hF (g_len ty_us_59 hF rfl) rfl fun a hF => st hF (g_lss hF rfl rfl) rfl fun a hF => ?_
      refine wpList_nil ?_
      refine tN ?_
      refine c_cond hF rfl (fun h2 => ?_) (fun h2 => ?_)
      ·
        refine wp_skip ?_
        refine tN ?_
        refine sq ?_
        refine wp_block ?_
        refine sq ?_
        refine wp_region_lit ?_
        refine st hF (g_move hF rfl) rfl fun a hF => st hF (g_move hF rfl) rfl fun a hF => st hF (g_indexSl (i := gi) ty_sl_59 hF rfl rfl rfl (by omega)) rfl fun a hF => st hF (g_load ty_on_9 hF rfl (hM.row 1 rfl) (hsW.get1 (gi) (by omega))) rfl fun a hF => ?_
        ·
          have hok := word_ok hW (k := (gi)) (by omega)
          obtain ⟨hsi, hso⟩ := seg_in (s := s) (k := (gi)) (by omega)
          have hsz9 := seg_size (s := s) (k := (gi)) (by omega)
          have hsl9 := sgB_le (s := s) (c := 47) (k := (gi)) (by omega)
          refine stR hF (d_call Try.call55 hF (.cons rfl .nil) (CallsR.val (l04Layer_P (seg s 47 (gi)) _ (by omega) hok.1) (show _ = Value.tuple #[.int .i64 ((inR s (sgB s 47 (gi)) : Nat) : Int), .int .i64 ((outR s (sgB s 47 (gi)) : Nat) : Int), .bool (decide (lyT (seg s 47 (gi))))] from by rw [hsi, hso]))) rfl ?_
          rintro _ w' a ⟨hx, rfl⟩ hF
          have hM := hM.ext hx
          refine st hF (g_move hF rfl) rfl fun a hF => st hF (g_extract hF rfl rfl) rfl fun a hF => st hF (g_extract hF rfl rfl) rfl fun a hF => st hF (g_extract hF rfl rfl) rfl fun a hF => st hF (g_assign hF rfl) rfl fun a hF => st hF (g_assign hF rfl) rfl fun a hF => st hF (g_assign hF rfl) rfl fun a hF => ?_
          refine wpList_nil ?_
          refine tN ?_
          refine sq ?_
          refine sq ?_
          refine wp_region_lit ?_
          refine st hF (g_move hF rfl) rfl fun a hF => st hF (g_notP hF rfl) rfl fun a hF => st hF (g_move hF rfl) rfl fun a hF => ?_
          by_cases g3 : ¬ (lyT (seg s 47 (gi)))
          ·
            first | rw [decide_eq_true g3] at hF | simp only [decide_eq_true g3] at hF
            exact absurd hok.2.1 g3
          ·
            first | rw [decide_eq_false g3] at hF | simp only [decide_eq_false g3] at hF
            refine stY hF rfl rfl rfl (g_move hF rfl) rfl fun a hF => stY hF rfl rfl rfl (g_gtr hF rfl rfl) rfl fun a hF => stY hF rfl rfl rfl (g_move hF rfl) rfl fun a hF => ?_
            by_cases g4 : 0 < (((gi : Nat) : Int) : Int)
            ·
              first | rw [decide_eq_true g4] at hF | simp only [decide_eq_true g4] at hF
              have hlg1 := hlg (by omega)
              refine stY hF rfl rfl rfl (g_move hF rfl) rfl fun a hF => stY hF rfl rfl rfl (g_move hF rfl) rfl fun a hF => stY hF rfl rfl rfl (g_neq hF rfl rfl) rfl fun a hF => stY hF rfl rfl rfl (g_pickT hF rfl rfl) rfl fun a hF => st hF (g_pickF hF rfl rfl) rfl fun a hF => ?_
              refine wpList_nil ?_
              refine tN ?_
              refine c_cond hF rfl (fun h5 => ?_) (fun h5 => ?_)
              ·
                first | (exfalso; omega) | exact absurd hok.2.1 (by assumption)
              ·
                refine wp_skip ?_
                refine tN ?_
                refine wp_region_lit ?_
                refine st hF (g_move hF rfl) rfl fun a hF => st hF (g_assign hF rfl) rfl fun a hF => ?_
                refine wpList_nil ?_
                refine iN ?_
                refine tN ?_
                refine wp_region_lit ?_
                refine st hF (g_move hF rfl) rfl fun a hF => st hF (g_add hF rfl rfl (add_nat (gi) (1) (by omega))) rfl fun a hF => st hF (g_assign hF rfl) rfl fun a hF => ?_
                refine wpList_nil ?_
                refine tN ?_
                refine ⟨gi + 1, ⟨by omega, outR s (sgB s 47 (gi)), fun _ => by rw [Nat.add_sub_cancel], hF.sub _ (by repeat' constructor), ?_⟩, by omega⟩
                exact hM
            ·
              first | rw [decide_eq_false g4] at hF | simp only [decide_eq_false g4] at hF
              refine stS hF rfl rfl rfl rfl rfl fun a hF => stS hF rfl rfl rfl rfl rfl fun a hF => stS hF rfl rfl rfl rfl rfl fun a hF => stY hF rfl rfl rfl (g_pickF hF rfl rfl) rfl fun a hF => st hF (g_pickF hF rfl rfl) rfl fun a hF => ?_
              refine wpList_nil ?_
              refine tN ?_
              refine c_Fl hF rfl ?_
              refine wp_skip ?_
              refine tN ?_
              refine wp_region_lit ?_
              refine st hF (g_move hF rfl) rfl fun a hF => st hF (g_assign hF rfl) rfl fun a hF => ?_
              refine wpList_nil ?_
              refine iN ?_
              refine tN ?_
              refine wp_region_lit ?_
              refine st hF (g_move hF rfl) rfl fun a hF => st hF (g_add hF rfl rfl (add_nat (gi) (1) (by omega))) rfl fun a hF => st hF (g_assign hF rfl) rfl fun a hF => ?_
              refine wpList_nil ?_
              refine tN ?_
              refine ⟨gi + 1, ⟨by omega, outR s (sgB s 47 (gi)), fun _ => by rw [Nat.add_sub_cancel], hF.sub _ (by repeat' constructor), ?_⟩, by omega⟩
              exact hM
      ·
        obtain rfl : nSg s 47 = gi := by omega
        refine wp_exit ?_
        refine tX ?_
        refine tX ?_
        refine ib_same ?_
        refine tN ?_
        refine sq ?_
        refine wp_region_lit ?_
        refine st hF (g_move hF rfl) rfl fun a hF => st hF (g_move hF rfl) rfl fun a hF => st hF (g_lenS ty_ut_9 hF rfl) rfl fun a hF => st hF (g_leq hF rfl rfl) rfl fun a hF => st hF (g_assign hF rfl) rfl fun a hF => st hF (g_assign hF rfl) rfl fun a hF => ?_
        refine wpList_nil ?_
        refine tN ?_
        refine wp_ret ?_
        refine fin2 rfl hF.defers (res_tmp hF rfl) (res_tmp hF rfl) ⟨_, rfl, hM.below, ?_⟩
        exact ⟨_, congrArg (fun b => Value.tuple #[_, .bool b]) (decide_eq_true (by omega)), _, _, _, hsW, hM.ge 1 rfl, hM.row 1 rfl⟩

end Go.Proofs.Ytnaabnhjokibfaa
