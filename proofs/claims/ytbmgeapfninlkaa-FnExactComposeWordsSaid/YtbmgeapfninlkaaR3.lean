/- What functions of the program return, as walks over their operations; no statement of the seat is proved here. -/
import Derived.Test.YtbmgeapfninlkaaR2
set_option linter.unusedVariables false
set_option linter.unusedSimpArgs false
namespace Go.Proofs.Ytbmgeapfninlkaa
open Go Go.RowKit Go.Sw
open Classical
theorem l04Told_ok (t : ByteArray) (w : World) (hz : t.size < 10000000) :
    CallsR Try.prog 19 #[.string (t)] w (fun res _ => res = .tuple #[.string (toldT t), .int .i64 (toldC t : Int)]) := by
  refine calls_fr [.string (t)] Try.func19 rfl Try.ntmps19 rfl fun a hF => ?_;have hM : Mem w w [] [] := MemX.start w 0;change Fr 8 a [(0, .string (t))] at hF;refine sr <| ag hF rfl rfl fun a hF => ag hF rfl rfl fun a hF => nt <| sq <| sr <| mv hF rfl rfl fun a hF => stR hF (d_call Try.call17 hF (.cons rfl .nil) (l04Is_all t _ (by omega))) rfl ?_;rintro _ w' a ⟨hx, rfl⟩ hF;have hM := hM.ext hx;refine st hF (g_notP hF rfl) rfl fun a hF => nt <| c_cond hF rfl (fun h1 => ?_) (fun h1 => ?_)
  · refine sq ?_
    refine wp_region_lit <| ag hF rfl rfl fun a hF => ag hF rfl rfl fun a hF => nt <| wp_ret <| tR <| fin2 rfl hF.defers (res_tmp hF rfl) (res_tmp hF rfl) ⟨_, rfl, hM.below, ?_⟩
    show _ = _
    first | rw [toldT_y (show WD t from by first | assumption | exact Decidable.not_not.1 (by assumption)), toldC_y (show WD t from by first | assumption | exact Decidable.not_not.1 (by assumption))]; rfl | rw [toldT_n (show ¬ WD t from by assumption), toldC_n (show ¬ WD t from by assumption)]; rfl
  refine wp_skip <| tN <| sr <| mv hF rfl rfl fun a hF => ag hF rfl rfl fun a hF => ag hF rfl rfl fun a hF => nt <| wp_ret <| fin2 rfl hF.defers (res_tmp hF rfl) (res_tmp hF rfl) ⟨_, rfl, hM.below, ?_⟩
  show _ = _
  first | rw [toldT_y (show WD t from by first | assumption | exact Decidable.not_not.1 (by assumption)), toldC_y (show WD t from by first | assumption | exact Decidable.not_not.1 (by assumption))]; rfl | rw [toldT_n (show ¬ WD t from by assumption), toldC_n (show ¬ WD t from by assumption)]; rfl
theorem ComposeS_F (v w0 : ByteArray) (w : World) (hF0 : ¬ (WD v ∧ WD w0)) (hvs : v.size ≤ 1048576) (hws : w0.size ≤ 1048576) :
    CallsR Try.prog 8 #[.string (v), .string (w0)] w (fun res _ => res = .tuple #[.string (⟨#[]⟩), .int .i64 (1)]) := by
  refine calls_fr [.string (v), .string (w0)] Try.func8 rfl Try.ntmps8 rfl fun a hF => ?_;have hM : Mem w w [] [] := MemX.start w 0;change Fr 52 a [(0, .string (v)), (1, .string (w0))] at hF;refine sr <| ag hF rfl rfl fun a hF => ag hF rfl rfl fun a hF => nt <| sq <| sr <| mv hF rfl rfl fun a hF => stR hF (d_call Try.call17 hF (.cons rfl .nil) (l04Is_all v _ (by omega))) rfl ?_;rintro _ w' a ⟨hx, rfl⟩ hF;have hM := hM.ext hx;refine st hF (g_notP hF rfl) rfl fun a hF => mv hF rfl rfl fun a hF => ?_
  by_cases g1 : ¬ (WD v)
  · first | rw [decide_eq_true g1] at hF | simp only [decide_eq_true g1] at hF
    refine stS hF rfl rfl rfl rfl rfl fun a hF => stS hF rfl rfl rfl rfl rfl fun a hF => stS hF rfl rfl rfl rfl rfl fun a hF => st hF (g_pickT hF rfl rfl) rfl fun a hF => nt <| c_T hF rfl <| sr <| ag hF rfl rfl fun a hF => ag hF rfl rfl fun a hF => nt <| wp_ret <| tR <| fin2 rfl hF.defers (res_tmp hF rfl) (res_tmp hF rfl) ⟨_, rfl, hM.below, ?_⟩
    show _ = _
    rfl
  first | rw [decide_eq_false g1] at hF | simp only [decide_eq_false g1] at hF
  refine stY hF rfl rfl rfl (g_move hF rfl) rfl fun a hF => stYR hF rfl rfl rfl (d_call Try.call17 hF (.cons rfl .nil) (l04Is_all w0 _ (by omega))) rfl ?_;rintro _ w' a ⟨hx, rfl⟩ hF;have hM := hM.ext hx;refine stY hF rfl rfl rfl (g_notP hF rfl) rfl fun a hF => st hF (g_pickF hF rfl rfl) rfl fun a hF => nt <| c_cond hF rfl (fun h3 => ?_) (fun h3 => ?_)
  · refine sq ?_
    refine wp_region_lit <| ag hF rfl rfl fun a hF => ag hF rfl rfl fun a hF => nt <| wp_ret <| tR <| fin2 rfl hF.defers (res_tmp hF rfl) (res_tmp hF rfl) ⟨_, rfl, hM.below, ?_⟩
    show _ = _
    rfl
  exact absurd ⟨by first | assumption | exact Decidable.not_not.1 (by assumption), by first | assumption | exact Decidable.not_not.1 (by assumption)⟩ hF0
theorem ComposeS_T (v w0 : ByteArray) (w : World) (hV : WD v) (hW : WD w0) :
    CallsR Try.prog 8 #[.string (v), .string (w0)] w (fun res _ => res = .tuple #[.string (if legO v ≠ legI w0 then (⟨#[]⟩ : ByteArray) else toldT (cmpX v w0)), .int .i64 (((if legO v ≠ legI w0 then 5 else toldC (cmpX v w0)) : Nat) : Int)]) := by
  refine calls_fr [.string (v), .string (w0)] Try.func8 rfl Try.ntmps8 rfl fun a hF => ?_;have hM : Mem w w [] [] := MemX.start w 0;change Fr 52 a [(0, .string (v)), (1, .string (w0))] at hF;have hvz := hV.size;have hwz := hW.size;have hnv := nL_le (s := v);have hnw := nL_le (s := w0);refine sr <| ag hF rfl rfl fun a hF => ag hF rfl rfl fun a hF => nt <| sq <| sr <| mv hF rfl rfl fun a hF => stR hF (d_call Try.call17 hF (.cons rfl .nil) ((CallsR.val (l04Is_all v _ (by omega)) (congrArg Value.bool (decide_eq_true hV))))) rfl ?_;rintro _ w' a ⟨hx, rfl⟩ hF;have hM := hM.ext hx;refine st hF (g_not hF rfl) rfl fun a hF => mv hF rfl rfl fun a hF => stY hF rfl rfl rfl (g_move hF rfl) rfl fun a hF => stYR hF rfl rfl rfl (d_call Try.call17 hF (.cons rfl .nil) ((CallsR.val (l04Is_all w0 _ (by omega)) (congrArg Value.bool (decide_eq_true hW))))) rfl ?_;rintro _ w' a ⟨hx, rfl⟩ hF;have hM := hM.ext hx;refine stY hF rfl rfl rfl (g_not hF rfl) rfl fun a hF => st hF (g_pickF hF rfl rfl) rfl fun a hF => nt <| c_Fl hF rfl <| wp_skip <| tN <| sr <| mv hF rfl rfl fun a hF => stR hF (d_call Try.call18 hF (.cons rfl .nil) (l04Ends_W v _ hV)) rfl ?_;rintro _ w' a ⟨hx, rfl⟩ hF;have hM := hM.ext hx;refine mv hF rfl rfl fun a hF => st hF (g_extract hF rfl rfl) rfl fun a hF => st hF (g_extract hF rfl rfl) rfl fun a hF => ag hF rfl rfl fun a hF => ag hF rfl rfl fun a hF => ns <| mv hF rfl rfl fun a hF => stR hF (d_call Try.call18 hF (.cons rfl .nil) (l04Ends_W w0 _ hW)) rfl ?_;rintro _ w' a ⟨hx, rfl⟩ hF;have hM := hM.ext hx;refine mv hF rfl rfl fun a hF => st hF (g_extract hF rfl rfl) rfl fun a hF => st hF (g_extract hF rfl rfl) rfl fun a hF => ag hF rfl rfl fun a hF => ag hF rfl rfl fun a hF => nt <| sq <| wp_block <| sr <| mv hF rfl rfl fun a hF => mv hF rfl rfl fun a hF => st hF (g_neq hF rfl rfl) rfl fun a hF => ag hF rfl rfl fun a hF => nt <| c_cond hF rfl (fun h2 => ?_) (fun h2 => ?_)
  · refine sq ?_
    refine wp_region_lit <| ag hF rfl rfl fun a hF => ag hF rfl rfl fun a hF => nt <| wp_ret <| iR <| tR <| fin2 rfl hF.defers (res_tmp hF rfl) (res_tmp hF rfl) ⟨_, rfl, hM.below, ?_⟩
    show _ = _
    rw [if_pos (by omega), if_pos (by omega)]; rfl
  refine sr <| mv hF rfl rfl fun a hF => st hF (g_eqlS hF rfl rfl) rfl fun a hF => ag hF rfl rfl fun a hF => nt <| c_cond hF rfl (fun h3 => ?_) (fun h3 => ?_)
  · have hq1 := h3
    refine sr <| mv hF rfl rfl fun a hF => ag hF rfl rfl fun a hF => ag hF rfl rfl fun a hF => nt <| wp_ret <| iR <| tR <| fin2 rfl hF.defers (res_tmp hF rfl) (res_tmp hF rfl) ⟨_, rfl, hM.below, ?_⟩
    show _ = _
    rw [if_neg (by omega), if_neg (by omega)]
    unfold cmpX
    rw [if_pos (str_iff.1 hq1), toldT_y hW, toldC_y hW]
    rfl
  have hq1 := h3;refine sr <| mv hF rfl rfl fun a hF => st hF (g_eqlS hF rfl rfl) rfl fun a hF => ag hF rfl rfl fun a hF => nt <| c_cond hF rfl (fun h4 => ?_) (fun h4 => ?_)
  · have hq2 := h4
    refine sr <| mv hF rfl rfl fun a hF => ag hF rfl rfl fun a hF => ag hF rfl rfl fun a hF => nt <| wp_ret <| iR <| tR <| fin2 rfl hF.defers (res_tmp hF rfl) (res_tmp hF rfl) ⟨_, rfl, hM.below, ?_⟩
    show _ = _
    rw [if_neg (by omega), if_neg (by omega)]
    unfold cmpX
    rw [if_neg (fun e => hq1 (str_iff.2 e)), if_pos (str_iff.1 hq2), toldT_y hV, toldC_y hV]
    rfl
  have hq2 := h4;refine wp_skip <| iN <| tN <| sr <| mv hF rfl rfl fun a hF => st hF (g_addS hF rfl rfl (by have e1 : (⟨#[47]⟩ : ByteArray).size = 1 := rfl; omega)) rfl fun a hF => mv hF rfl rfl fun a hF => st hF (g_addS hF rfl rfl (by rw [ByteArray.size_append]; have e1 : (⟨#[47]⟩ : ByteArray).size = 1 := rfl; omega)) rfl fun a hF => stR hF (d_call Try.call19 hF (.cons rfl .nil) (l04Told_ok (((v : ByteArray) ++ (⟨#[47]⟩ : ByteArray) : ByteArray) ++ (w0 : ByteArray)) _ (by rw [ByteArray.size_append, ByteArray.size_append]; have e1 : (⟨#[47]⟩ : ByteArray).size = 1 := rfl; omega))) rfl ?_;rintro _ w' a ⟨hx, rfl⟩ hF;have hM := hM.ext hx;refine mv hF rfl rfl fun a hF => st hF (g_extract hF rfl rfl) rfl fun a hF => st hF (g_extract hF rfl rfl) rfl fun a hF => ag hF rfl rfl fun a hF => ag hF rfl rfl fun a hF => ns <| mv hF rfl rfl fun a hF => mv hF rfl rfl fun a hF => ag hF rfl rfl fun a hF => ag hF rfl rfl fun a hF => nt <| wp_ret <| fin2 rfl hF.defers (res_tmp hF rfl) (res_tmp hF rfl) ⟨_, rfl, hM.below, ?_⟩
  show _ = _
  rw [if_neg (by omega), if_neg (by omega)]
  unfold cmpX
  rw [if_neg (fun e => hq1 (str_iff.2 e)), if_neg (fun e => hq2 (str_iff.2 e))]
  rfl
theorem law_ComposeWordsZ1 (v w0 : ByteArray) (w : World) (hz : 1048576 < v.size) (hml : v.size ≤ maxLen) :
    CallsR Try.prog 4 #[.string (v), .string (w0)] w (fun res _ => res = .bool true) := by
  refine calls_fr [.string (v), .string (w0)] Try.func4 rfl Try.ntmps4 rfl fun a hF => ?_;have hM : Mem w w [] [] := MemX.start w 0;change Fr 35 a [(0, .string (v)), (1, .string (w0))] at hF;refine sr <| ag hF rfl rfl fun a hF => nt <| sq <| sr <| mv hF rfl rfl fun a hF => st hF (g_lenS ty_ut_9 hF rfl) rfl fun a hF => st hF (g_gtr hF rfl rfl) rfl fun a hF => nt <| c_cond hF rfl (fun h1 => ?_) (fun h1 => ?_)
  · refine sq ?_
    refine wp_region_lit <| ag hF rfl rfl fun a hF => nt <| wp_ret <| tR <| fin1 rfl hF.defers (res_tmp hF rfl) ⟨_, rfl, hM.below, ?_⟩
    show _ = _
    rfl
  exfalso; omega
theorem law_ComposeWordsZ2 (v w0 : ByteArray) (w : World) (hvs : v.size ≤ 1048576) (hz : 1048576 < w0.size) (hml : w0.size ≤ maxLen) :
    CallsR Try.prog 4 #[.string (v), .string (w0)] w (fun res _ => res = .bool true) := by
  refine calls_fr [.string (v), .string (w0)] Try.func4 rfl Try.ntmps4 rfl fun a hF => ?_;have hM : Mem w w [] [] := MemX.start w 0;change Fr 35 a [(0, .string (v)), (1, .string (w0))] at hF;refine sr <| ag hF rfl rfl fun a hF => nt <| sq <| sr <| mv hF rfl rfl fun a hF => st hF (g_lenS ty_ut_9 hF rfl) rfl fun a hF => st hF (g_gtr hF rfl rfl) rfl fun a hF => nt <| c_cond hF rfl (fun h1 => ?_) (fun h1 => ?_)
  · exfalso; omega
  refine wp_skip <| tN <| sq <| sr <| mv hF rfl rfl fun a hF => st hF (g_lenS ty_ut_9 hF rfl) rfl fun a hF => st hF (g_gtr hF rfl rfl) rfl fun a hF => nt <| c_cond hF rfl (fun h2 => ?_) (fun h2 => ?_)
  · refine sq ?_
    refine wp_region_lit <| ag hF rfl rfl fun a hF => nt <| wp_ret <| tR <| fin1 rfl hF.defers (res_tmp hF rfl) ⟨_, rfl, hM.below, ?_⟩
    show _ = _
    rfl
  exfalso; omega
theorem law_ComposeWordsF (v w0 : ByteArray) (w : World) (hF0 : ¬ (WD v ∧ WD w0)) (hvs : v.size ≤ 1048576) (hws : w0.size ≤ 1048576) :
    CallsR Try.prog 4 #[.string (v), .string (w0)] w (fun res _ => res = .bool true) := by
  refine calls_fr [.string (v), .string (w0)] Try.func4 rfl Try.ntmps4 rfl fun a hF => ?_;have hM : Mem w w [] [] := MemX.start w 0;change Fr 35 a [(0, .string (v)), (1, .string (w0))] at hF;refine sr <| ag hF rfl rfl fun a hF => nt <| sq <| sr <| mv hF rfl rfl fun a hF => st hF (g_lenS ty_ut_9 hF rfl) rfl fun a hF => st hF (g_gtr hF rfl rfl) rfl fun a hF => nt <| c_cond hF rfl (fun h1 => ?_) (fun h1 => ?_)
  · first | exact absurd rfl h1 | (exfalso; omega)
  refine wp_skip <| tN <| sq <| sr <| mv hF rfl rfl fun a hF => st hF (g_lenS ty_ut_9 hF rfl) rfl fun a hF => st hF (g_gtr hF rfl rfl) rfl fun a hF => nt <| c_cond hF rfl (fun h2 => ?_) (fun h2 => ?_)
  · first | exact absurd rfl h2 | (exfalso; omega)
  refine wp_skip <| tN <| sr <| mv hF rfl rfl fun a hF => mv hF rfl rfl fun a hF => stR hF (d_call Try.call8 hF (.cons rfl (.cons rfl .nil)) (ComposeS_F v w0 _ hF0 hvs hws)) rfl ?_;rintro _ w' a ⟨hx, rfl⟩ hF;have hM := hM.ext hx;refine mv hF rfl rfl fun a hF => st hF (g_extract hF rfl rfl) rfl fun a hF => st hF (g_extract hF rfl rfl) rfl fun a hF => ag hF rfl rfl fun a hF => ag hF rfl rfl fun a hF => ns <| mv hF rfl rfl fun a hF => mv hF rfl rfl fun a hF => stR hF (d_call Try.call9 hF (.cons rfl (.cons rfl .nil)) (ComposeI_F v w0 _ hF0)) rfl ?_;rintro _ w' a ⟨hx, rfl⟩ hF;have hM := hM.ext hx;refine mv hF rfl rfl fun a hF => st hF (g_extract hF rfl rfl) rfl fun a hF => st hF (g_extract hF rfl rfl) rfl fun a hF => ag hF rfl rfl fun a hF => ag hF rfl rfl fun a hF => nt <| sq <| sr <| mv hF rfl rfl fun a hF => mv hF rfl rfl fun a hF => st hF (g_neqS hF rfl rfl) rfl fun a hF => mv hF rfl rfl fun a hF => ?_
  by_cases g3 : (⟨#[]⟩ : ByteArray).toList ≠ (⟨#[]⟩ : ByteArray).toList
  · first | rw [decide_eq_true g3] at hF | simp only [decide_eq_true g3] at hF
    first | exact absurd rfl g3 | (exfalso; omega)
  first | rw [decide_eq_false g3] at hF | simp only [decide_eq_false g3] at hF
  refine stY hF rfl rfl rfl (g_move hF rfl) rfl fun a hF => stY hF rfl rfl rfl (g_move hF rfl) rfl fun a hF => stY hF rfl rfl rfl (g_neq hF rfl rfl) rfl fun a hF => st hF (g_pickF hF rfl rfl) rfl fun a hF => nt <| c_kF hF rfl (by decide) <| wp_skip <| tN <| sr <| ag hF rfl rfl fun a hF => nt <| wp_ret <| fin1 rfl hF.defers (res_tmp hF rfl) ⟨_, rfl, hM.below, ?_⟩
  show _ = _
  rfl
theorem law_ComposeWordsT (v w0 : ByteArray) (w : World) (hV : WD v) (hW : WD w0) (hvs : v.size ≤ 1048576) (hws : w0.size ≤ 1048576) :
    CallsR Try.prog 4 #[.string (v), .string (w0)] w (fun res _ => res = .bool true) := by
  refine calls_fr [.string (v), .string (w0)] Try.func4 rfl Try.ntmps4 rfl fun a hF => ?_;have hM : Mem w w [] [] := MemX.start w 0;change Fr 35 a [(0, .string (v)), (1, .string (w0))] at hF;refine sr <| ag hF rfl rfl fun a hF => nt <| sq <| sr <| mv hF rfl rfl fun a hF => st hF (g_lenS ty_ut_9 hF rfl) rfl fun a hF => st hF (g_gtr hF rfl rfl) rfl fun a hF => nt <| c_cond hF rfl (fun h1 => ?_) (fun h1 => ?_)
  · first | exact absurd rfl h1 | (exfalso; omega)
  refine wp_skip <| tN <| sq <| sr <| mv hF rfl rfl fun a hF => st hF (g_lenS ty_ut_9 hF rfl) rfl fun a hF => st hF (g_gtr hF rfl rfl) rfl fun a hF => nt <| c_cond hF rfl (fun h2 => ?_) (fun h2 => ?_)
  · first | exact absurd rfl h2 | (exfalso; omega)
  refine wp_skip <| tN <| sr <| mv hF rfl rfl fun a hF => mv hF rfl rfl fun a hF => stR hF (d_call Try.call8 hF (.cons rfl (.cons rfl .nil)) (ComposeS_T v w0 _ hV hW)) rfl ?_;rintro _ w' a ⟨hx, rfl⟩ hF;have hM := hM.ext hx;refine mv hF rfl rfl fun a hF => st hF (g_extract hF rfl rfl) rfl fun a hF => st hF (g_extract hF rfl rfl) rfl fun a hF => ag hF rfl rfl fun a hF => ag hF rfl rfl fun a hF => ns <| mv hF rfl rfl fun a hF => mv hF rfl rfl fun a hF => stR hF (d_call Try.call9 hF (.cons rfl (.cons rfl .nil)) (ComposeI_T v w0 _ hV hW)) rfl ?_;rintro _ w' a ⟨hx, rfl⟩ hF;have hM := hM.ext hx;refine mv hF rfl rfl fun a hF => st hF (g_extract hF rfl rfl) rfl fun a hF => st hF (g_extract hF rfl rfl) rfl fun a hF => ag hF rfl rfl fun a hF => ag hF rfl rfl fun a hF => nt <| sq <| sr <| mv hF rfl rfl fun a hF => mv hF rfl rfl fun a hF => st hF (g_neqS hF rfl rfl) rfl fun a hF => mv hF rfl rfl fun a hF => ?_
  by_cases g3 : ((if legO v ≠ legI w0 then (⟨#[]⟩ : ByteArray) else toldT (cmpX v w0)) : ByteArray).toList ≠ ((if legO v ≠ legI w0 then (⟨#[]⟩ : ByteArray) else toldT (cmpX v w0)) : ByteArray).toList
  · first | rw [decide_eq_true g3] at hF | simp only [decide_eq_true g3] at hF
    first | exact absurd rfl g3 | (exfalso; omega)
  first | rw [decide_eq_false g3] at hF | simp only [decide_eq_false g3] at hF
  refine stY hF rfl rfl rfl (g_move hF rfl) rfl fun a hF => stY hF rfl rfl rfl (g_move hF rfl) rfl fun a hF => stY hF rfl rfl rfl (g_neq hF rfl rfl) rfl fun a hF => st hF (g_pickF hF rfl rfl) rfl fun a hF => nt <| c_cond hF rfl (fun h4 => ?_) (fun h4 => ?_)
  · first | exact absurd rfl h4 | (exfalso; omega)
  refine wp_skip <| tN <| sr <| ag hF rfl rfl fun a hF => nt <| wp_ret <| fin1 rfl hF.defers (res_tmp hF rfl) ⟨_, rfl, hM.below, ?_⟩
  show _ = _
  rfl
theorem law_ComposeWords (v w0 : ByteArray) (w : World) (hml : v.size ≤ maxLen) (hml2 : w0.size ≤ maxLen) : CallsV Try.prog 4 #[.string v, .string w0] w (.bool true) := by
  by_cases hvs : v.size ≤ 1048576
  · by_cases hws : w0.size ≤ 1048576
    · by_cases hT : WD v ∧ WD w0
      · exact law_ComposeWordsT v w0 w hT.1 hT.2 hvs hws
      · exact law_ComposeWordsF v w0 w hT hvs hws
    · exact law_ComposeWordsZ2 v w0 w hvs (by omega) hml2
  · exact law_ComposeWordsZ1 v w0 w (by omega) hml
end Go.Proofs.Ytbmgeapfninlkaa
