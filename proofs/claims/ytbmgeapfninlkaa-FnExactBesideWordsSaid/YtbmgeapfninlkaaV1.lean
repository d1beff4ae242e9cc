/- What functions of the program return, as walks over their operations; no statement of the seat is proved here. -/
import Derived.Test.YtbmgeapfninlkaaW5
import Derived.Shelf.Strings.Builder1
import Derived.Shelf.Strings.Builder2
import Derived.Shelf.Strings.OnBuilder
import Derived.Shelf.Strings.BuilderF
import Derived.Shelf.Strings.Prefix
import Derived.Shelf.Bits.Mul64
import Derived.Shelf.Strings.Repeat
import Derived.Test.YtbmgeapfninlkaaProg
set_option linter.unusedVariables false
set_option linter.unusedSimpArgs false
namespace Go.Proofs.Ytbmgeapfninlkaa
open Go Go.RowKit Go.Sw
open Classical
theorem ty_us_27 : Try.prog.underlying 27 = some (.slice 9) := by kernel_rfl
theorem ty_sl_27 : sliceOf Try.prog 27 = some 1 := by kernel_rfl
theorem l04Layers_E  (w : World)  :
    CallsR Try.prog 23 #[.string (⟨#[]⟩)] w (fun u w' => ∃ x, u = .tuple #[.slice x 0 0, .bool true]) := by
  refine calls_fr [.string (⟨#[]⟩)] Try.func23 rfl Try.ntmps23 rfl fun a hF => ?_
  have hM : Mem w w [none, none] [] := MemX.start w 2
  change Fr 46 a [(0, .string (⟨#[]⟩))] at hF
  have he0 : (⟨#[]⟩ : ByteArray).size = 0 := rfl
  refine sq ?_
  refine wp_region_lit ?_
  refine st hF (g_assign hF rfl) rfl fun a hF => st hF (g_assign hF rfl) rfl fun a hF => ?_
  refine wpList_nil ?_
  refine tN ?_
  refine sq ?_
  refine sq ?_
  refine wp_region_lit ?_
  refine st hF (g_move hF rfl) rfl fun a hF => st hF (g_eqlS hF rfl rfl) rfl fun a hF => ?_
  refine wpList_nil ?_
  refine tN ?_
  refine c_cond hF rfl (fun h1 => ?_) (fun h1 => ?_)
  ·
   refine sq ?_
   refine wp_region_lit ?_
   refine stR hF (d_buildC 0 hM hF rfl ty_bs0_27) rfl ?_
   rintro _ w' a ⟨b2, rfl, hM, -⟩ hF
   change Mem w w' [some (b2, #[]), none] [] at hM
   refine st hF (g_assign hF rfl) rfl fun a hF => st hF (g_assign hF rfl) rfl fun a hF => ?_
   refine wpList_nil ?_
   refine tN ?_
   refine wp_ret ?_
   refine tR ?_
   refine fin2 rfl hF.defers (res_tmp hF rfl) (res_tmp hF rfl) ⟨_, rfl, hM.below, ?_⟩
   exact ⟨_, rfl⟩
  ·
   exact absurd rfl h1

theorem l04Layers_N (s : ByteArray) (w : World) (hW : ¬ WordP s) (h0 : 0 < s.size) (hz : s.size < 10000000) :
    CallsR Try.prog 23 #[.string (s)] w (fun u w' => ∃ l, u = .tuple #[l, .bool false]) := by
  refine calls_fr [.string (s)] Try.func23 rfl Try.ntmps23 rfl fun a hF => ?_
  have hM : Mem w w [none, none] [] := MemX.start w 2
  change Fr 46 a [(0, .string (s))] at hF
  have hns : nSg s 47 = cnt s 47 s.size + 1 := rfl
  have hcl := cnt_le (s := s) (c := 47) s.size
  refine sq ?_
  refine wp_region_lit ?_
  refine st hF (g_assign hF rfl) rfl fun a hF => st hF (g_assign hF rfl) rfl fun a hF => ?_
  refine wpList_nil ?_
  refine tN ?_
  refine sq ?_
  refine sq ?_
  refine wp_region_lit ?_
  refine st hF (g_move hF rfl) rfl fun a hF => st hF (g_eqlS hF rfl rfl) rfl fun a hF => ?_
  refine wpList_nil ?_
  refine tN ?_
  refine c_cond hF rfl (fun h1 => ?_) (fun h1 => ?_)
  ·
   exact absurd (str_iff.1 h1) (by omega)
  ·
   refine wp_skip ?_
   refine tN ?_
   refine sq ?_
   refine wp_region_lit ?_
   refine st hF (g_move hF rfl) rfl fun a hF => ?_
   refine stR hF (d_call Try.call31 hF (.cons rfl (.cons rfl .nil)) (l01Split_ok s (47) _ (by omega) (by omega))) rfl ?_
   rintro u w' a ⟨hx, bW, cW, csW, hsW, hgW, hbW⟩ hF
   obtain rfl := hsW.val
   have hM := hM.fill hx 1 hbW hgW
   change Mem w w' [none, some (bW, csW)] [] at hM
   refine st hF (g_assign hF rfl) rfl fun a hF => st hF (g_assign hF rfl) rfl fun a hF => ?_
   refine wpList_nil ?_
   refine tN ?_
   refine sq ?_
   refine sq ?_
   refine wp_region_lit ?_
   refine st hF (g_assign hF rfl) rfl fun a hF => ?_
   refine wpList_nil ?_
   refine tN ?_
   refine wp_block ?_
   change Mem w _ [none, some (bW, csW)] [] at hM
   refine c_loop (fun (kk : Nat) a w' => kk ≤ nSg s 47 ∧ ∃ (lg_ : Nat), ((0 < kk → lg_ = outR s (sgB s 47 (kk - 1))) ∧ ∀ k, k < kk → lyOk s k) ∧ Fr 46 a [(0, .string (s)), (11, .bool (decide ((s : ByteArray).toList = (⟨#[]⟩ : ByteArray).toList))), (4, .slice (some ⟨bW, 0, none⟩) (nSg s 47) (cW)), (6, .int .i64 (((kk : Nat) : Int))), (5, .int .i64 (((lg_ : Nat) : Int)))] ∧ Mem w w' [none, some (bW, csW)] []) (fun kk => nSg s 47 - kk) 0 ?_ ?_
   ·
    refine ⟨by omega, 0, ⟨fun q => absurd q (by omega), fun k hk => absurd hk (by omega)⟩, hF.sub _ (by repeat' constructor), ?_⟩
    exact hM
   ·
    clear hF hM
    rintro gi a w' ⟨hgi, lg_, ⟨hlg, hoks⟩, hF, hM⟩
    refine sq ?_
    refine sq ?_
    refine wp_region_lit ?_
    refine st hF (g_move hF rfl) rfl fun a hF => st hF (g_move hF rfl) rfl fun a hF => st hF (g_len ty_us_27 hF rfl) rfl fun a hF => st hF (g_lss hF rfl rfl) rfl fun a hF => ?_
    refine wpList_nil ?_
    refine tN ?_
    refine c_cond hF rfl (fun h2 => ?_) (fun h2 => ?_)
    ·
     refine wp_skip ?_
     refine tN ?_
     refine sq ?_
     refine wp_block ?_
     refine sq ?_
     refine wp_region_lit ?_
     refine st hF (g_move hF rfl) rfl fun a hF => st hF (g_move hF rfl) rfl fun a hF => st hF (g_indexSl (i := gi) ty_sl_27 hF rfl rfl rfl (by omega)) rfl fun a hF => st hF (g_load ty_on_9 hF rfl (hM.row 1 rfl) (hsW.get1 (gi) (by omega))) rfl fun a hF => ?_
     by_cases hp : pcT (seg s 47 (gi))
     ·
      obtain ⟨hsi, hso⟩ := seg_in (s := s) (k := (gi)) (by omega)
      have hsz9 := seg_size (s := s) (k := (gi)) (by omega)
      have hsl9 := sgB_le (s := s) (c := 47) (k := (gi)) (by omega)
      refine stR hF (d_call Try.call28 hF (.cons rfl .nil) (CallsR.val (l04Layer_P (seg s 47 (gi)) _ (by omega) hp) (show _ = Value.tuple #[.int .i64 ((inR s (sgB s 47 (gi)) : Nat) : Int), .int .i64 ((outR s (sgB s 47 (gi)) : Nat) : Int), .bool (decide (lyT (seg s 47 (gi))))] from by rw [hsi, hso]))) rfl ?_
      rintro _ w' a ⟨hx, rfl⟩ hF
      have hM := hM.ext hx
      refine st hF (g_move hF rfl) rfl fun a hF => st hF (g_extract hF rfl rfl) rfl fun a hF => st hF (g_extract hF rfl rfl) rfl fun a hF => st hF (g_extract hF rfl rfl) rfl fun a hF => st hF (g_assign hF rfl) rfl fun a hF => st hF (g_assign hF rfl) rfl fun a hF => st hF (g_assign hF rfl) rfl fun a hF => ?_
      refine wpList_nil ?_
      refine tN ?_
      refine sq ?_
      refine sq ?_
      refine wp_region_lit ?_
      refine st hF (g_move hF rfl) rfl fun a hF => st hF (g_notP hF rfl) rfl fun a hF => st hF (g_move hF rfl) rfl fun a hF => ?_
      by_cases g3 : ¬ (lyT (seg s 47 (gi)))
      ·
       first | rw [decide_eq_true g3] at hF | simp only [decide_eq_true g3] at hF
       refine stS hF rfl rfl rfl rfl rfl fun a hF => stS hF rfl rfl rfl rfl rfl fun a hF => stS hF rfl rfl rfl rfl rfl fun a hF => stU hF rfl rfl rfl rfl fun a hF => stU hF rfl rfl rfl rfl fun a hF => stU hF rfl rfl rfl rfl fun a hF => stS hF rfl rfl rfl rfl rfl fun a hF => st hF (g_pickT hF rfl rfl) rfl fun a hF => ?_
       refine wpList_nil ?_
       refine tN ?_
       refine c_T hF rfl ?_
       refine sq ?_
       refine wp_region_lit ?_
       refine st hF (g_assign hF rfl) rfl fun a hF => st hF (g_assign hF rfl) rfl fun a hF => ?_
       refine wpList_nil ?_
       refine tN ?_
       refine wp_ret ?_
       refine tR ?_
       refine iR ?_
       refine tR ?_
       refine tR ?_
       refine iR ?_
       refine tR ?_
       refine fin2 rfl hF.defers (res_tmp hF rfl) (res_tmp hF rfl) ⟨_, rfl, hM.below, ?_⟩
       first | exact ⟨_, rfl⟩ | exact ⟨_, congrArg (fun b => Value.tuple #[_, .bool b]) (decide_eq_false (fun e => hW (ok_word (by omega) hoks)))⟩
      ·
       first | rw [decide_eq_false g3] at hF | simp only [decide_eq_false g3] at hF
       refine stY hF rfl rfl rfl (g_move hF rfl) rfl fun a hF => stY hF rfl rfl rfl (g_gtr hF rfl rfl) rfl fun a hF => stY hF rfl rfl rfl (g_move hF rfl) rfl fun a hF => ?_
       by_cases g5 : 0 < (((gi : Nat) : Int) : Int)
       ·
        first | rw [decide_eq_true g5] at hF | simp only [decide_eq_true g5] at hF
        have hlg1 := hlg (by omega)
        refine stY hF rfl rfl rfl (g_move hF rfl) rfl fun a hF => stY hF rfl rfl rfl (g_move hF rfl) rfl fun a hF => stY hF rfl rfl rfl (g_neq hF rfl rfl) rfl fun a hF => stY hF rfl rfl rfl (g_pickT hF rfl rfl) rfl fun a hF => st hF (g_pickF hF rfl rfl) rfl fun a hF => ?_
        refine wpList_nil ?_
        refine tN ?_
        refine c_cond hF rfl (fun h6 => ?_) (fun h6 => ?_)
        ·
         refine sq ?_
         refine wp_region_lit ?_
         refine st hF (g_assign hF rfl) rfl fun a hF => st hF (g_assign hF rfl) rfl fun a hF => ?_
         refine wpList_nil ?_
         refine tN ?_
         refine wp_ret ?_
         refine tR ?_
         refine iR ?_
         refine tR ?_
         refine tR ?_
         refine iR ?_
         refine tR ?_
         refine fin2 rfl hF.defers (res_tmp hF rfl) (res_tmp hF rfl) ⟨_, rfl, hM.below, ?_⟩
         first | exact ⟨_, rfl⟩ | exact ⟨_, congrArg (fun b => Value.tuple #[_, .bool b]) (decide_eq_false (fun e => hW (ok_word (by omega) hoks)))⟩
        ·
         have hok : lyOk s gi := ⟨hp, by first | assumption | exact Decidable.not_not.1 (by assumption), fun q => by have := hlg q; omega⟩
         refine wp_skip ?_
         refine tN ?_
         refine wp_region_lit ?_
         refine st hF (g_move hF rfl) rfl fun a hF => st hF (g_assign hF rfl) rfl fun a hF => ?_
         refine wpList_nil ?_
         refine iN ?_
         refine tN ?_
         refine wp_region_lit ?_
         refine st hF (g_move hF rfl) rfl fun a hF => st hF (g_add hF rfl rfl (add_nat (gi) (1) (by omega))) rfl fun a hF => st hF (g_assign hF rfl) rfl fun a hF => ?_
         refine wpList_nil ?_
         refine tN ?_
         refine ⟨gi + 1, ⟨by omega, outR s (sgB s 47 (gi)), ⟨fun _ => by rw [Nat.add_sub_cancel], fun k hk => by by_cases e : k = gi; (rw [e]; first | exact hok | exact ⟨hp, by first | assumption | exact Decidable.not_not.1 (by assumption), fun q => absurd q (by omega)⟩); (exact hoks k (by omega))⟩, hF.sub _ (by repeat' constructor), ?_⟩, by omega⟩
         exact hM
       ·
        first | rw [decide_eq_false g5] at hF | simp only [decide_eq_false g5] at hF
        refine stS hF rfl rfl rfl rfl rfl fun a hF => stS hF rfl rfl rfl rfl rfl fun a hF => stS hF rfl rfl rfl rfl rfl fun a hF => stY hF rfl rfl rfl (g_pickF hF rfl rfl) rfl fun a hF => st hF (g_pickF hF rfl rfl) rfl fun a hF => ?_
        refine wpList_nil ?_
        refine tN ?_
        refine c_Fl hF rfl ?_
        refine wp_skip ?_
        refine tN ?_
        refine wp_region_lit ?_
        refine st hF (g_move hF rfl) rfl fun a hF => st hF (g_assign hF rfl) rfl fun a hF => ?_
        refine wpList_nil ?_
        refine iN ?_
        refine tN ?_
        refine wp_region_lit ?_
        refine st hF (g_move hF rfl) rfl fun a hF => st hF (g_add hF rfl rfl (add_nat (gi) (1) (by omega))) rfl fun a hF => st hF (g_assign hF rfl) rfl fun a hF => ?_
        refine wpList_nil ?_
        refine tN ?_
        refine ⟨gi + 1, ⟨by omega, outR s (sgB s 47 (gi)), ⟨fun _ => by rw [Nat.add_sub_cancel], fun k hk => by by_cases e : k = gi; (rw [e]; first | exact hok | exact ⟨hp, by first | assumption | exact Decidable.not_not.1 (by assumption), fun q => absurd q (by omega)⟩); (exact hoks k (by omega))⟩, hF.sub _ (by repeat' constructor), ?_⟩, by omega⟩
        exact hM
     ·
      have hsz9 := seg_size (s := s) (k := (gi)) (by omega)
      have hsl9 := sgB_le (s := s) (c := 47) (k := (gi)) (by omega)
      refine stR hF (d_call Try.call28 hF (.cons rfl .nil) (l04Layer_G (seg s 47 (gi)) _ (by omega) hp)) rfl ?_
      rintro _ w' a ⟨hx, rfl⟩ hF
      have hM := hM.ext hx
      refine st hF (g_move hF rfl) rfl fun a hF => st hF (g_extract hF rfl rfl) rfl fun a hF => st hF (g_extract hF rfl rfl) rfl fun a hF => st hF (g_extract hF rfl rfl) rfl fun a hF => st hF (g_assign hF rfl) rfl fun a hF => st hF (g_assign hF rfl) rfl fun a hF => st hF (g_assign hF rfl) rfl fun a hF => ?_
      refine wpList_nil ?_
      refine tN ?_
      refine sq ?_
      refine sq ?_
      refine wp_region_lit ?_
      refine st hF (g_move hF rfl) rfl fun a hF => st hF (g_not hF rfl) rfl fun a hF => st hF (g_move hF rfl) rfl fun a hF => stS hF rfl rfl rfl rfl rfl fun a hF => stS hF rfl rfl rfl rfl rfl fun a hF => stS hF rfl rfl rfl rfl rfl fun a hF => stU hF rfl rfl rfl rfl fun a hF => stU hF rfl rfl rfl rfl fun a hF => stU hF rfl rfl rfl rfl fun a hF => stS hF rfl rfl rfl rfl rfl fun a hF => st hF (g_pickT hF rfl rfl) rfl fun a hF => ?_
      refine wpList_nil ?_
      refine tN ?_
      refine c_T hF rfl ?_
      refine sq ?_
      refine wp_region_lit ?_
      refine st hF (g_assign hF rfl) rfl fun a hF => st hF (g_assign hF rfl) rfl fun a hF => ?_
      refine wpList_nil ?_
      refine tN ?_
      refine wp_ret ?_
      refine tR ?_
      refine iR ?_
      refine tR ?_
      refine tR ?_
      refine iR ?_
      refine tR ?_
      refine fin2 rfl hF.defers (res_tmp hF rfl) (res_tmp hF rfl) ⟨_, rfl, hM.below, ?_⟩
      first | exact ⟨_, rfl⟩ | exact ⟨_, congrArg (fun b => Value.tuple #[_, .bool b]) (decide_eq_false (fun e => hW (ok_word (by omega) hoks)))⟩
    ·
     obtain rfl : nSg s 47 = gi := by omega
     refine wp_exit ?_
     refine tX ?_
     refine tX ?_
     refine ib_same ?_
     refine tN ?_
     refine sq ?_
     refine wp_region_lit ?_
     refine st hF (g_move hF rfl) rfl fun a hF => st hF (g_move hF rfl) rfl fun a hF => st hF (g_lenS ty_ut_9 hF rfl) rfl fun a hF => st hF (g_leq hF rfl rfl) rfl fun a hF => st hF (g_assign hF rfl) rfl fun a hF => st hF (g_assign hF rfl) rfl fun a hF => ?_
     refine wpList_nil ?_
     refine tN ?_
     refine wp_ret ?_
     refine fin2 rfl hF.defers (res_tmp hF rfl) (res_tmp hF rfl) ⟨_, rfl, hM.below, ?_⟩
     first | exact ⟨_, rfl⟩ | exact ⟨_, congrArg (fun b => Value.tuple #[_, .bool b]) (decide_eq_false (fun e => hW (ok_word (by omega) hoks)))⟩

theorem l04Layers_Y (s : ByteArray) (w : World) (hW : WordP s) (h0 : 0 < s.size) :
    CallsR Try.prog 23 #[.string (s)] w (fun u w' => ∃ l, u = .tuple #[l, .bool true] ∧ OwnSl 1 w (nSg s 47) (segF s 47) l w') := by
  refine calls_fr [.string (s)] Try.func23 rfl Try.ntmps23 rfl fun a hF => ?_
  have hM : Mem w w [none, none] [] := MemX.start w 2
  change Fr 46 a [(0, .string (s))] at hF
  have h3 := hW.1
  have hns : nSg s 47 = cnt s 47 s.size + 1 := rfl
  have hcl := cnt_le (s := s) (c := 47) s.size
  refine sq ?_
  refine wp_region_lit ?_
  refine st hF (g_assign hF rfl) rfl fun a hF => st hF (g_assign hF rfl) rfl fun a hF => ?_
  refine wpList_nil ?_
  refine tN ?_
  refine sq ?_
  refine sq ?_
  refine wp_region_lit ?_
  refine st hF (g_move hF rfl) rfl fun a hF => st hF (g_eqlS hF rfl rfl) rfl fun a hF => ?_
  refine wpList_nil ?_
  refine tN ?_
  refine c_cond hF rfl (fun h1 => ?_) (fun h1 => ?_)
  ·
   exact absurd (str_iff.1 h1) (by omega)
  ·
   refine wp_skip ?_
   refine tN ?_
   refine sq ?_
   refine wp_region_lit ?_
   refine st hF (g_move hF rfl) rfl fun a hF => ?_
   refine stR hF (d_call Try.call31 hF (.cons rfl (.cons rfl .nil)) (l01Split_ok s (47) _ (by omega) (by omega))) rfl ?_
   rintro u w' a ⟨hx, bW, cW, csW, hsW, hgW, hbW⟩ hF
   obtain rfl := hsW.val
   have hM := hM.fill hx 1 hbW hgW
   change Mem w w' [none, some (bW, csW)] [] at hM
   refine st hF (g_assign hF rfl) rfl fun a hF => st hF (g_assign hF rfl) rfl fun a hF => ?_
   refine wpList_nil ?_
   refine tN ?_
   refine sq ?_
   refine sq ?_
   refine wp_region_lit ?_
   refine st hF (g_assign hF rfl) rfl fun a hF => ?_
   refine wpList_nil ?_
   refine tN ?_
   refine wp_block ?_
   change Mem w _ [none, some (bW, csW)] [] at hM
   refine c_loop (fun (kk : Nat) a w' => kk ≤ nSg s 47 ∧ ∃ (lg_ : Nat), ((0 < kk → lg_ = outR s (sgB s 47 (kk - 1)))) ∧ Fr 46 a [(0, .string (s)), (11, .bool (decide ((s : ByteArray).toList = (⟨#[]⟩ : ByteArray).toList))), (4, .slice (some ⟨bW, 0, none⟩) (nSg s 47) (cW)), (6, .int .i64 (((kk : Nat) : Int))), (5, .int .i64 (((lg_ : Nat) : Int)))] ∧ Mem w w' [none, some (bW, csW)] []) (fun kk => nSg s 47 - kk) 0 ?_ ?_
   ·
    refine ⟨by omega, 0, fun q => absurd q (by omega), hF.sub _ (by repeat' constructor), ?_⟩
    exact hM
   ·
    clear hF hM
    rintro gi a w' ⟨hgi, lg_, hlg, hF, hM⟩
    have hlg2 : gi < nSg s 47 → 0 < gi → inR s (sgB s 47 gi) = lg_ := fun q1 q2 => by rw [hlg q2]; exact (word_ok hW q1).2.2 q2
    refine sq ?_
    refine sq ?_
    refine wp_region_lit ?_
    refine st hF (g_move hF rfl) rfl fun a hF => st hF (g_move hF rfl) rfl fun a hF => st hF (g_len ty_us_27 hF rfl) rfl fun a hF => st hF (g_lss hF rfl rfl) rfl fun a hF => ?_
    refine wpList_nil ?_
    refine tN ?_
    refine c_cond hF rfl (fun h2 => ?_) (fun h2 => ?_)
    ·
     refine wp_skip ?_
     refine tN ?_
     refine sq ?_
     refine wp_block ?_
     refine sq ?_
     refine wp_region_lit ?_
     refine st hF (g_move hF rfl) rfl fun a hF => st hF (g_move hF rfl) rfl fun a hF => st hF (g_indexSl (i := gi) ty_sl_27 hF rfl rfl rfl (by omega)) rfl fun a hF => st hF (g_load ty_on_9 hF rfl (hM.row 1 rfl) (hsW.get1 (gi) (by omega))) rfl fun a hF => ?_
     ·
      have hok := word_ok hW (k := (gi)) (by omega)
      obtain ⟨hsi, hso⟩ := seg_in (s := s) (k := (gi)) (by omega)
      have hsz9 := seg_size (s := s) (k := (gi)) (by omega)
      have hsl9 := sgB_le (s := s) (c := 47) (k := (gi)) (by omega)
      refine stR hF (d_call Try.call28 hF (.cons rfl .nil) (CallsR.val (l04Layer_P (seg s 47 (gi)) _ (by omega) hok.1) (show _ = Value.tuple #[.int .i64 ((inR s (sgB s 47 (gi)) : Nat) : Int), .int .i64 ((outR s (sgB s 47 (gi)) : Nat) : Int), .bool (decide (lyT (seg s 47 (gi))))] from by rw [hsi, hso]))) rfl ?_
      rintro _ w' a ⟨hx, rfl⟩ hF
      have hM := hM.ext hx
      refine st hF (g_move hF rfl) rfl fun a hF => st hF (g_extract hF rfl rfl) rfl fun a hF => st hF (g_extract hF rfl rfl) rfl fun a hF => st hF (g_extract hF rfl rfl) rfl fun a hF => st hF (g_assign hF rfl) rfl fun a hF => st hF (g_assign hF rfl) rfl fun a hF => st hF (g_assign hF rfl) rfl fun a hF => ?_
      refine wpList_nil ?_
      refine tN ?_
      refine sq ?_
      refine sq ?_
      refine wp_region_lit ?_
      refine st hF (g_move hF rfl) rfl fun a hF => st hF (g_notP hF rfl) rfl fun a hF => st hF (g_move hF rfl) rfl fun a hF => ?_
      by_cases g3 : ¬ (lyT (seg s 47 (gi)))
      ·
       first | rw [decide_eq_true g3] at hF | simp only [decide_eq_true g3] at hF
       exact absurd hok.2.1 g3
      ·
       first | rw [decide_eq_false g3] at hF | simp only [decide_eq_false g3] at hF
       refine stY hF rfl rfl rfl (g_move hF rfl) rfl fun a hF => stY hF rfl rfl rfl (g_gtr hF rfl rfl) rfl fun a hF => stY hF rfl rfl rfl (g_move hF rfl) rfl fun a hF => ?_
       by_cases g4 : 0 < (((gi : Nat) : Int) : Int)
       ·
        first | rw [decide_eq_true g4] at hF | simp only [decide_eq_true g4] at hF
        have hlg1 := hlg (by omega)
        refine stY hF rfl rfl rfl (g_move hF rfl) rfl fun a hF => stY hF rfl rfl rfl (g_move hF rfl) rfl fun a hF => stY hF rfl rfl rfl (g_neq hF rfl rfl) rfl fun a hF => stY hF rfl rfl rfl (g_pickT hF rfl rfl) rfl fun a hF => st hF (g_pickF hF rfl rfl) rfl fun a hF => ?_
        refine wpList_nil ?_
        refine tN ?_
        refine c_cond hF rfl (fun h5 => ?_) (fun h5 => ?_)
        ·
         first | (exfalso; omega) | exact absurd hok.2.1 (by assumption)
        ·
         refine wp_skip ?_
         refine tN ?_
         refine wp_region_lit ?_
         refine st hF (g_move hF rfl) rfl fun a hF => st hF (g_assign hF rfl) rfl fun a hF => ?_
         refine wpList_nil ?_
         refine iN ?_
         refine tN ?_
         refine wp_region_lit ?_
         refine st hF (g_move hF rfl) rfl fun a hF => st hF (g_add hF rfl rfl (add_nat (gi) (1) (by omega))) rfl fun a hF => st hF (g_assign hF rfl) rfl fun a hF => ?_
         refine wpList_nil ?_
         refine tN ?_
         refine ⟨gi + 1, ⟨by omega, outR s (sgB s 47 (gi)), fun _ => by rw [Nat.add_sub_cancel], hF.sub _ (by repeat' constructor), ?_⟩, by omega⟩
         exact hM
       ·
        first | rw [decide_eq_false g4] at hF | simp only [decide_eq_false g4] at hF
        refine stS hF rfl rfl rfl rfl rfl fun a hF => stS hF rfl rfl rfl rfl rfl fun a hF => stS hF rfl rfl rfl rfl rfl fun a hF => stY hF rfl rfl rfl (g_pickF hF rfl rfl) rfl fun a hF => st hF (g_pickF hF rfl rfl) rfl fun a hF => ?_
        refine wpList_nil ?_
        refine tN ?_
        refine c_Fl hF rfl ?_
        refine wp_skip ?_
        refine tN ?_
        refine wp_region_lit ?_
        refine st hF (g_move hF rfl) rfl fun a hF => st hF (g_assign hF rfl) rfl fun a hF => ?_
        refine wpList_nil ?_
        refine iN ?_
        refine tN ?_
        refine wp_region_lit ?_
        refine st hF (g_move hF rfl) rfl fun a hF => st hF (g_add hF rfl rfl (add_nat (gi) (1) (by omega))) rfl fun a hF => st hF (g_assign hF rfl) rfl fun a hF => ?_
        refine wpList_nil ?_
        refine tN ?_
        refine ⟨gi + 1, ⟨by omega, outR s (sgB s 47 (gi)), fun _ => by rw [Nat.add_sub_cancel], hF.sub _ (by repeat' constructor), ?_⟩, by omega⟩
        exact hM
    ·
     obtain rfl : nSg s 47 = gi := by omega
     refine wp_exit ?_
     refine tX ?_
     refine tX ?_
     refine ib_same ?_
     refine tN ?_
     refine sq ?_
     refine wp_region_lit ?_
     refine st hF (g_move hF rfl) rfl fun a hF => st hF (g_move hF rfl) rfl fun a hF => st hF (g_lenS ty_ut_9 hF rfl) rfl fun a hF => st hF (g_leq hF rfl rfl) rfl fun a hF => st hF (g_assign hF rfl) rfl fun a hF => st hF (g_assign hF rfl) rfl fun a hF => ?_
     refine wpList_nil ?_
     refine tN ?_
     refine wp_ret ?_
     refine fin2 rfl hF.defers (res_tmp hF rfl) (res_tmp hF rfl) ⟨_, rfl, hM.below, ?_⟩
     exact ⟨_, congrArg (fun b => Value.tuple #[_, .bool b]) (decide_eq_true (by omega)), _, _, _, hsW, hM.ge 1 rfl, hM.row 1 rfl⟩

end Go.Proofs.Ytbmgeapfninlkaa

namespace Go.Proofs.Ytbmgeapfninlkaa
open Go Go.RowKit Go.Sw
open Classical
theorem l04Is_E  (w : World)  :
    CallsR Try.prog 17 #[.string (⟨#[]⟩)] w (fun res _ => res = .bool (true)) := by
  refine calls_fr [.string (⟨#[]⟩)] Try.func17 rfl Try.ntmps17 rfl fun a hF => ?_
  have hM : Mem w w [none] [] := MemX.start w 1
  change Fr 11 a [(0, .string (⟨#[]⟩))] at hF
  have he0 : (⟨#[]⟩ : ByteArray).size = 0 := rfl
  refine sq ?_
  refine wp_region_lit ?_
  refine st hF (g_assign hF rfl) rfl fun a hF => ?_
  refine wpList_nil ?_
  refine tN ?_
  refine sq ?_
  refine wp_region_lit ?_
  refine st hF (g_move hF rfl) rfl fun a hF => ?_
  refine stR hF (d_call Try.call23 hF (.cons rfl .nil) (l04Layers_E _)) rfl ?_
  rintro u w' a ⟨hx, x0, rfl⟩ hF
  have hM := hM.ext hx
  refine st hF (g_move hF rfl) rfl fun a hF => st hF (g_extract hF rfl rfl) rfl fun a hF => st hF (g_extract hF rfl rfl) rfl fun a hF => st hF (g_assign hF rfl) rfl fun a hF => st hF (g_assign hF rfl) rfl fun a hF => ?_
  refine wpList_nil ?_
  refine tN ?_
  refine sq ?_
  refine wp_region_lit ?_
  refine st hF (g_move hF rfl) rfl fun a hF => st hF (g_assign hF rfl) rfl fun a hF => ?_
  refine wpList_nil ?_
  refine tN ?_
  refine wp_ret ?_
  refine fin1 rfl hF.defers (res_tmp hF rfl) ⟨_, rfl, hM.below, ?_⟩
  show _ = _
  rfl

theorem l04Is_N (s : ByteArray) (w : World) (hW : ¬ WordP s) (h0 : 0 < s.size) (hz : s.size < 10000000) :
    CallsR Try.prog 17 #[.string (s)] w (fun res _ => res = .bool (false)) := by
  refine calls_fr [.string (s)] Try.func17 rfl Try.ntmps17 rfl fun a hF => ?_
  have hM : Mem w w [none] [] := MemX.start w 1
  change Fr 11 a [(0, .string (s))] at hF
  have hns : nSg s 47 = cnt s 47 s.size + 1 := rfl
  have hcl := cnt_le (s := s) (c := 47) s.size
  refine sq ?_
  refine wp_region_lit ?_
  refine st hF (g_assign hF rfl) rfl fun a hF => ?_
  refine wpList_nil ?_
  refine tN ?_
  refine sq ?_
  refine wp_region_lit ?_
  refine st hF (g_move hF rfl) rfl fun a hF => ?_
  refine stR hF (d_call Try.call23 hF (.cons rfl .nil) (l04Layers_N s _ hW h0 hz)) rfl ?_
  rintro u w' a ⟨hx, ul, rfl⟩ hF
  have hM := hM.ext hx
  refine st hF (g_move hF rfl) rfl fun a hF => st hF (g_extract hF rfl rfl) rfl fun a hF => st hF (g_extract hF rfl rfl) rfl fun a hF => st hF (g_assign hF rfl) rfl fun a hF => st hF (g_assign hF rfl) rfl fun a hF => ?_
  refine wpList_nil ?_
  refine tN ?_
  refine sq ?_
  refine wp_region_lit ?_
  refine st hF (g_move hF rfl) rfl fun a hF => st hF (g_assign hF rfl) rfl fun a hF => ?_
  refine wpList_nil ?_
  refine tN ?_
  refine wp_ret ?_
  refine fin1 rfl hF.defers (res_tmp hF rfl) ⟨_, rfl, hM.below, ?_⟩
  show _ = _
  rfl

theorem l04Is_Y (s : ByteArray) (w : World) (hW : WordP s) (h0 : 0 < s.size) :
    CallsR Try.prog 17 #[.string (s)] w (fun res _ => res = .bool (true)) := by
  refine calls_fr [.string (s)] Try.func17 rfl Try.ntmps17 rfl fun a hF => ?_
  have hM : Mem w w [none] [] := MemX.start w 1
  change Fr 11 a [(0, .string (s))] at hF
  have h3 := hW.1
  have hns : nSg s 47 = cnt s 47 s.size + 1 := rfl
  have hcl := cnt_le (s := s) (c := 47) s.size
  refine sq ?_
  refine wp_region_lit ?_
  refine st hF (g_assign hF rfl) rfl fun a hF => ?_
  refine wpList_nil ?_
  refine tN ?_
  refine sq ?_
  refine wp_region_lit ?_
  refine st hF (g_move hF rfl) rfl fun a hF => ?_
  refine stR hF (d_call Try.call23 hF (.cons rfl .nil) (l04Layers_Y s _ hW h0)) rfl ?_
  rintro u w' a ⟨hx, ul, rfl, bW, cW, csW, hsW, hgW, hbW⟩ hF
  obtain rfl := hsW.val
  have hM := hM.fill hx 0 hbW hgW
  change Mem w w' [some (bW, csW)] [] at hM
  refine st hF (g_move hF rfl) rfl fun a hF => st hF (g_extract hF rfl rfl) rfl fun a hF => st hF (g_extract hF rfl rfl) rfl fun a hF => st hF (g_assign hF rfl) rfl fun a hF => st hF (g_assign hF rfl) rfl fun a hF => ?_
  refine wpList_nil ?_
  refine tN ?_
  refine sq ?_
  refine wp_region_lit ?_
  refine st hF (g_move hF rfl) rfl fun a hF => st hF (g_assign hF rfl) rfl fun a hF => ?_
  refine wpList_nil ?_
  refine tN ?_
  refine wp_ret ?_
  refine fin1 rfl hF.defers (res_tmp hF rfl) ⟨_, rfl, hM.below, ?_⟩
  show _ = _
  rfl




theorem l04Ends_E  (w : World)  :
    CallsR Try.prog 18 #[.string (⟨#[]⟩)] w (fun res _ => res = .tuple #[.int .i64 (0), .int .i64 (0)]) := by
  refine calls_fr [.string (⟨#[]⟩)] Try.func18 rfl Try.ntmps18 rfl fun a hF => ?_
  have hM : Mem w w [none] [] := MemX.start w 1
  change Fr 41 a [(0, .string (⟨#[]⟩))] at hF
  have he0 : (⟨#[]⟩ : ByteArray).size = 0 := rfl
  refine sq ?_
  refine wp_region_lit ?_
  refine st hF (g_assign hF rfl) rfl fun a hF => st hF (g_assign hF rfl) rfl fun a hF => ?_
  refine wpList_nil ?_
  refine tN ?_
  refine sq ?_
  refine wp_region_lit ?_
  refine st hF (g_move hF rfl) rfl fun a hF => ?_
  refine stR hF (d_call Try.call23 hF (.cons rfl .nil) (l04Layers_E _)) rfl ?_
  rintro u w' a ⟨hx, x0, rfl⟩ hF
  have hM := hM.ext hx
  refine st hF (g_move hF rfl) rfl fun a hF => st hF (g_extract hF rfl rfl) rfl fun a hF => st hF (g_extract hF rfl rfl) rfl fun a hF => st hF (g_assign hF rfl) rfl fun a hF => st hF (g_assign hF rfl) rfl fun a hF => ?_
  refine wpList_nil ?_
  refine tN ?_
  refine sq ?_
  refine sq ?_
  refine wp_region_lit ?_
  refine st hF (g_move hF rfl) rfl fun a hF => st hF (g_lenX ty_us_27 hF rfl) rfl fun a hF => st hF (g_eql hF rfl rfl) rfl fun a hF => ?_
  refine wpList_nil ?_
  refine tN ?_
  refine c_kT hF rfl (by decide) ?_
  refine sq ?_
  refine wp_region_lit ?_
  refine st hF (g_assign hF rfl) rfl fun a hF => st hF (g_assign hF rfl) rfl fun a hF => ?_
  refine wpList_nil ?_
  refine tN ?_
  refine wp_ret ?_
  refine tR ?_
  refine fin2 rfl hF.defers (res_tmp hF rfl) (res_tmp hF rfl) ⟨_, rfl, hM.below, ?_⟩
  show _ = _
  rfl

theorem l04Ends_Y (s : ByteArray) (w : World) (hW : WordP s) (h0 : 0 < s.size) :
    CallsR Try.prog 18 #[.string (s)] w (fun res _ => res = .tuple #[.int .i64 (((inR s (sgB s 47 (0)) : Nat) : Int)), .int .i64 (((outR s (sgB s 47 (nSg s 47 - 1)) : Nat) : Int))]) := by
  refine calls_fr [.string (s)] Try.func18 rfl Try.ntmps18 rfl fun a hF => ?_
  have hM : Mem w w [none] [] := MemX.start w 1
  change Fr 41 a [(0, .string (s))] at hF
  have h3 := hW.1
  have hns : nSg s 47 = cnt s 47 s.size + 1 := rfl
  have hcl := cnt_le (s := s) (c := 47) s.size
  refine sq ?_
  refine wp_region_lit ?_
  refine st hF (g_assign hF rfl) rfl fun a hF => st hF (g_assign hF rfl) rfl fun a hF => ?_
  refine wpList_nil ?_
  refine tN ?_
  refine sq ?_
  refine wp_region_lit ?_
  refine st hF (g_move hF rfl) rfl fun a hF => ?_
  refine stR hF (d_call Try.call23 hF (.cons rfl .nil) (l04Layers_Y s _ hW h0)) rfl ?_
  rintro u w' a ⟨hx, ul, rfl, bW, cW, csW, hsW, hgW, hbW⟩ hF
  obtain rfl := hsW.val
  have hM := hM.fill hx 0 hbW hgW
  change Mem w w' [some (bW, csW)] [] at hM
  refine st hF (g_move hF rfl) rfl fun a hF => st hF (g_extract hF rfl rfl) rfl fun a hF => st hF (g_extract hF rfl rfl) rfl fun a hF => st hF (g_assign hF rfl) rfl fun a hF => st hF (g_assign hF rfl) rfl fun a hF => ?_
  refine wpList_nil ?_
  refine tN ?_
  refine sq ?_
  refine sq ?_
  refine wp_region_lit ?_
  refine st hF (g_move hF rfl) rfl fun a hF => st hF (g_len ty_us_27 hF rfl) rfl fun a hF => st hF (g_eql hF rfl rfl) rfl fun a hF => ?_
  refine wpList_nil ?_
  refine tN ?_
  refine c_cond hF rfl (fun h1 => ?_) (fun h1 => ?_)
  ·
   exfalso; omega
  ·
   refine wp_skip ?_
   refine tN ?_
   refine sq ?_
   refine wp_region_lit ?_
   refine st hF (g_move hF rfl) rfl fun a hF => st hF (g_indexSl (i := 0) ty_sl_27 hF rfl rfl rfl (by omega)) rfl fun a hF => st hF (g_load ty_on_9 hF rfl (hM.row 0 rfl) (hsW.get1 (0) (by omega))) rfl fun a hF => ?_
   ·
    have hok := word_ok hW (k := (0)) (by omega)
    obtain ⟨hsi, hso⟩ := seg_in (s := s) (k := (0)) (by omega)
    have hsz9 := seg_size (s := s) (k := (0)) (by omega)
    have hsl9 := sgB_le (s := s) (c := 47) (k := (0)) (by omega)
    refine stR hF (d_call Try.call28 hF (.cons rfl .nil) (CallsR.val (l04Layer_P (seg s 47 (0)) _ (by omega) hok.1) (show _ = Value.tuple #[.int .i64 ((inR s (sgB s 47 (0)) : Nat) : Int), .int .i64 ((outR s (sgB s 47 (0)) : Nat) : Int), .bool (decide (lyT (seg s 47 (0))))] from by rw [hsi, hso]))) rfl ?_
    rintro _ w' a ⟨hx, rfl⟩ hF
    have hM := hM.ext hx
    refine st hF (g_move hF rfl) rfl fun a hF => st hF (g_extract hF rfl rfl) rfl fun a hF => st hF (g_extract hF rfl rfl) rfl fun a hF => st hF (g_extract hF rfl rfl) rfl fun a hF => st hF (g_assign hF rfl) rfl fun a hF => st hF (g_assign hF rfl) rfl fun a hF => st hF (g_assign hF rfl) rfl fun a hF => ?_
    refine wpList_nil ?_
    refine tN ?_
    refine sq ?_
    refine wp_region_lit ?_
    refine st hF (g_move hF rfl) rfl fun a hF => st hF (g_move hF rfl) rfl fun a hF => st hF (g_len ty_us_27 hF rfl) rfl fun a hF => st hF (g_sub hF rfl rfl (show _ = ((nSg s 47 - 1 : Nat) : Int) from (by rw [wrap_i64] <;> omega))) rfl fun a hF => st hF (g_indexSl (i := nSg s 47 - 1) ty_sl_27 hF rfl rfl rfl (by omega)) rfl fun a hF => st hF (g_load ty_on_9 hF rfl (hM.row 0 rfl) (hsW.get1 (nSg s 47 - 1) (by omega))) rfl fun a hF => ?_
    ·
     have hok := word_ok hW (k := (nSg s 47 - 1)) (by omega)
     obtain ⟨hsi, hso⟩ := seg_in (s := s) (k := (nSg s 47 - 1)) (by omega)
     have hsz9 := seg_size (s := s) (k := (nSg s 47 - 1)) (by omega)
     have hsl9 := sgB_le (s := s) (c := 47) (k := (nSg s 47 - 1)) (by omega)
     refine stR hF (d_call Try.call28 hF (.cons rfl .nil) (CallsR.val (l04Layer_P (seg s 47 (nSg s 47 - 1)) _ (by omega) hok.1) (show _ = Value.tuple #[.int .i64 ((inR s (sgB s 47 (nSg s 47 - 1)) : Nat) : Int), .int .i64 ((outR s (sgB s 47 (nSg s 47 - 1)) : Nat) : Int), .bool (decide (lyT (seg s 47 (nSg s 47 - 1))))] from by rw [hsi, hso]))) rfl ?_
     rintro _ w' a ⟨hx, rfl⟩ hF
     have hM := hM.ext hx
     refine st hF (g_move hF rfl) rfl fun a hF => st hF (g_extract hF rfl rfl) rfl fun a hF => st hF (g_extract hF rfl rfl) rfl fun a hF => st hF (g_extract hF rfl rfl) rfl fun a hF => st hF (g_assign hF rfl) rfl fun a hF => st hF (g_assign hF rfl) rfl fun a hF => st hF (g_assign hF rfl) rfl fun a hF => ?_
     refine wpList_nil ?_
     refine tN ?_
     refine sq ?_
     refine wp_region_lit ?_
     refine st hF (g_move hF rfl) rfl fun a hF => st hF (g_move hF rfl) rfl fun a hF => st hF (g_assign hF rfl) rfl fun a hF => st hF (g_assign hF rfl) rfl fun a hF => ?_
     refine wpList_nil ?_
     refine tN ?_
     refine wp_ret ?_
     refine fin2 rfl hF.defers (res_tmp hF rfl) (res_tmp hF rfl) ⟨_, rfl, hM.below, ?_⟩
     show _ = _
     rfl







end Go.Proofs.Ytbmgeapfninlkaa

namespace Go.Proofs
open Go.Shelf Go.RowKit Go.Lib
def Try.lays156_ren : Go.Shelf.Ren := ⟨fun | 156 => 26 | 165 => 34 | 166 => 35 | 169 => 37 | 240 => 43 | 241 => 44 | 276 => 45 | 277 => 46 | n => n, fun | 31 => 27 | 9 => 9 | 3 => 3 | 4 => 4 | 0 => 0 | 20 => 20 | 72 => 58 | 76 => 62 | 70 => 55 | 37 => 56 | 75 => 61 | 127 => 74 | 164 => 75 | 5 => 5 | 80 => 65 | n => n, fun | n => n⟩
theorem Try.lays156 : Go.Proofs.Lays.n156 Try.prog Try.lays156_ren := {
  mixed := by kernel_rfl
  f156 := Try.func26.trans (congrArg some (by kernel_rfl))
  f165 := Try.func34.trans (congrArg some (by kernel_rfl))
  f166 := Try.func35.trans (congrArg some (by kernel_rfl))
  f169 := Try.func37.trans (congrArg some (by kernel_rfl))
  f240 := Try.func43.trans (congrArg some (by kernel_rfl))
  f241 := Try.func44.trans (congrArg some (by kernel_rfl))
  f276 := Try.func45.trans (congrArg some (by kernel_rfl))
  f277 := Try.func46.trans (congrArg some (by kernel_rfl))
  t0 := Try.underlying0
  a0 := Try.isAgg0
  z0 := Try.sizeOf0
  v0 := Try.zeroValue0
  t3 := Try.underlying3
  a3 := Try.isAgg3
  z3 := Try.sizeOf3
  v3 := Try.zeroValue3
  t4 := Try.underlying4
  a4 := Try.isAgg4
  z4 := Try.sizeOf4
  v4 := Try.zeroValue4
  t9 := Try.underlying9
  a9 := Try.isAgg9
  z9 := Try.sizeOf9
  v9 := Try.zeroValue9
  t20 := Try.underlying20
  a20 := Try.isAgg20
  z20 := Try.sizeOf20
  v20 := Try.zeroValue20
  t31 := Try.underlying27
  a31 := Try.isAgg27
  z31 := Try.sizeOf27
  v31 := Try.zeroValue27
  t37 := Try.underlying56
  a37 := Try.isAgg56
  z37 := Try.sizeOf56
  v37 := Try.zeroValue56
  t70 := Try.underlying55
  a70 := Try.isAgg55
  z70 := Try.sizeOf55
  v70 := Try.zeroValue55
  t72 := Try.underlying58
  a72 := Try.isAgg58
  z72 := Try.sizeOf58
  v72 := Try.zeroValue58
  t75 := Try.underlying61
  a75 := Try.isAgg61
  z75 := Try.sizeOf61
  v75 := Try.zeroValue61
  t76 := Try.underlying62
  a76 := Try.isAgg62
  z76 := Try.sizeOf62
  v76 := Try.zeroValue62
  t127 := Try.underlying74
  a127 := Try.isAgg74
  z127 := Try.sizeOf74
  v127 := Try.zeroValue74
  t164 := Try.underlying75
  a164 := Try.isAgg75
  z164 := Try.sizeOf75
  v164 := Try.zeroValue75 }
theorem Try.Builder_Extra_156 : Builder.Extra Try.prog Try.lays156_ren := {
  sizeBuilder := by kernel_rfl
  liesBuilder := by kernel_rfl
  t5 := Try.underlying5
  a5 := Try.isAgg5
  z5 := Try.sizeOf5
  v5 := Try.zeroValue5
  infoByte := by kernel_rfl
  cellsByte := by kernel_rfl
  sizeByte := by kernel_rfl
  neB5 := by decide }
theorem Try.strings_Join_none (a : Option Addr) (c : Nat) (sep : ByteArray) (w : World) :
    Calls Try.prog 26 #[.slice a 0 c, .string sep] w fun e w' => e = .returned (.string ⟨#[]⟩) ∧ w' = w := Any.strings_Join_none Try.lays156 Try.Builder_Extra_156 a c sep w
theorem Try.strings_Join (bk o c : Nat) (xs : List ByteArray) (sep : ByteArray) (w : World) (hcells : ∀ (j : Nat) x, xs[j]? = some x → w.cell? ⟨bk, o + j, none⟩ = some (.string x)) (hbk : bk < w.heap.size) (hN : xs.length ≤ 140737488355328) (hcap : xs.length ≤ c) (hlen : (Lib.join (xs.map (·.data.toList)) sep.data.toList).length ≤ 140737488355328) :
    Calls Try.prog 26 #[.slice (some ⟨bk, o, none⟩) xs.length c, .string sep] w fun e w' => e = .returned (.string ⟨(Lib.join (xs.map (·.data.toList)) sep.data.toList).toArray⟩) ∧ Below w.heap.size w w' := Any.strings_Join Try.lays156 Try.Builder_Extra_156 bk o c xs sep w hcells hbk hN hcap hlen
def Try.lays105_ren : Go.Shelf.Ren := ⟨fun | 105 => 25 | 212 => 32 | 99 => 33 | 165 => 34 | 166 => 35 | 170 => 36 | 169 => 37 | 263 => 40 | 264 => 41 | 206 => 42 | 240 => 43 | 241 => 44 | 276 => 45 | 277 => 46 | n => n, fun | 9 => 9 | 3 => 3 | 4 => 4 | 20 => 20 | 0 => 0 | 46 => 52 | 109 => 53 | 5 => 5 | 72 => 58 | 76 => 62 | 51 => 68 | 146 => 69 | 53 => 71 | 148 => 72 | 70 => 55 | 37 => 56 | 75 => 61 | 127 => 74 | 164 => 75 | 80 => 65 | n => n, fun | n => n⟩
theorem Try.lays105 : Go.Proofs.Lays.n105 Try.prog Try.lays105_ren := {
  mixed := by kernel_rfl
  f99 := Try.func33.trans (congrArg some (by kernel_rfl))
  f105 := Try.func25.trans (congrArg some (by kernel_rfl))
  f165 := Try.func34.trans (congrArg some (by kernel_rfl))
  f166 := Try.func35.trans (congrArg some (by kernel_rfl))
  f169 := Try.func37.trans (congrArg some (by kernel_rfl))
  f170 := Try.func36.trans (congrArg some (by kernel_rfl))
  f206 := Try.func42.trans (congrArg some (by kernel_rfl))
  f212 := Try.func32.trans (congrArg some (by kernel_rfl))
  f240 := Try.func43.trans (congrArg some (by kernel_rfl))
  f241 := Try.func44.trans (congrArg some (by kernel_rfl))
  f263 := Try.func40.trans (congrArg some (by kernel_rfl))
  f264 := Try.func41.trans (congrArg some (by kernel_rfl))
  f276 := Try.func45.trans (congrArg some (by kernel_rfl))
  f277 := Try.func46.trans (congrArg some (by kernel_rfl))
  t0 := Try.underlying0
  a0 := Try.isAgg0
  z0 := Try.sizeOf0
  v0 := Try.zeroValue0
  t3 := Try.underlying3
  a3 := Try.isAgg3
  z3 := Try.sizeOf3
  v3 := Try.zeroValue3
  t4 := Try.underlying4
  a4 := Try.isAgg4
  z4 := Try.sizeOf4
  v4 := Try.zeroValue4
  t5 := Try.underlying5
  a5 := Try.isAgg5
  z5 := Try.sizeOf5
  v5 := Try.zeroValue5
  t9 := Try.underlying9
  a9 := Try.isAgg9
  z9 := Try.sizeOf9
  v9 := Try.zeroValue9
  t20 := Try.underlying20
  a20 := Try.isAgg20
  z20 := Try.sizeOf20
  v20 := Try.zeroValue20
  t37 := Try.underlying56
  a37 := Try.isAgg56
  z37 := Try.sizeOf56
  v37 := Try.zeroValue56
  t46 := Try.underlying52
  a46 := Try.isAgg52
  z46 := Try.sizeOf52
  v46 := Try.zeroValue52
  t51 := Try.underlying68
  a51 := Try.isAgg68
  z51 := Try.sizeOf68
  v51 := Try.zeroValue68
  t53 := Try.underlying71
  a53 := Try.isAgg71
  z53 := Try.sizeOf71
  v53 := Try.zeroValue71
  t70 := Try.underlying55
  a70 := Try.isAgg55
  z70 := Try.sizeOf55
  v70 := Try.zeroValue55
  t72 := Try.underlying58
  a72 := Try.isAgg58
  z72 := Try.sizeOf58
  v72 := Try.zeroValue58
  t75 := Try.underlying61
  a75 := Try.isAgg61
  z75 := Try.sizeOf61
  v75 := Try.zeroValue61
  t76 := Try.underlying62
  a76 := Try.isAgg62
  z76 := Try.sizeOf62
  v76 := Try.zeroValue62
  t109 := Try.underlying53
  a109 := Try.isAgg53
  z109 := Try.sizeOf53
  v109 := Try.zeroValue53
  t127 := Try.underlying74
  a127 := Try.isAgg74
  z127 := Try.sizeOf74
  v127 := Try.zeroValue74
  t146 := Try.underlying69
  a146 := Try.isAgg69
  z146 := Try.sizeOf69
  v146 := Try.zeroValue69
  t148 := Try.underlying72
  a148 := Try.isAgg72
  z148 := Try.sizeOf72
  v148 := Try.zeroValue72
  t164 := Try.underlying75
  a164 := Try.isAgg75
  z164 := Try.sizeOf75
  v164 := Try.zeroValue75 }
theorem Try.Builder_Extra_105 : Builder.Extra Try.prog Try.lays105_ren := {
  sizeBuilder := by kernel_rfl
  liesBuilder := by kernel_rfl
  t5 := Try.underlying5
  a5 := Try.isAgg5
  z5 := Try.sizeOf5
  v5 := Try.zeroValue5
  infoByte := by kernel_rfl
  cellsByte := by kernel_rfl
  sizeByte := by kernel_rfl
  neB5 := by decide }
theorem Try.strings_Repeat (s : ByteArray) (c : Nat) (w : World) (hc : c ≤ 9223372036854775807) (hlen : s.size * c ≤ 140737488355328) :
    Calls Try.prog 25 #[.string s, .int .i64 c] w fun e w' => e = .returned (.string ⟨(Lib.repeatL s.data.toList c).toArray⟩) ∧ Below w.heap.size w w' := Any.strings_Repeat Try.lays105 Try.Builder_Extra_105 s c w hc hlen
end Go.Proofs
