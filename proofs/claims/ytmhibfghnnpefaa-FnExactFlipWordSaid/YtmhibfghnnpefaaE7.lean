/- What functions of the program return, as walks over their operations; no statement of the seat is proved here. -/
import Derived.Test.YtmhibfghnnpefaaE6
import Derived.Test.YtmhibfghnnpefaaSw53
set_option linter.unusedVariables false
set_option linter.unusedSimpArgs false
namespace Go.Proofs.Ytmhibfghnnpefaa
open Go Go.RowKit Go.Sw
open Classical
theorem mpT_list {tb : Nat → Nat} {s : ByteArray} : (mpT tb s).data.toList = s.data.toList.map fun x => UInt8.ofNat (tb x.toNat) := by
  unfold mpT
  rw [txt_list]
  apply List.ext_getElem?
  intro i;have hz : s.data.size = s.size := rfl
  by_cases h : i < s.size
  · rw [List.getElem?_map, List.getElem?_range h, List.getElem?_map, Array.getElem?_toList, Array.getElem?_eq_getElem (by omega)]
    simp only [Option.map_some]
    unfold byt
    rw [Array.getD_eq_getD_getElem?, Array.getElem?_eq_getElem (by omega)]
    rfl
  · rw [List.getElem?_eq_none (by simp; omega), List.getElem?_eq_none (by simp; omega)]
theorem mpT_app {tb : Nat → Nat} {a b : ByteArray} : mpT tb (a ++ b) = mpT tb a ++ mpT tb b := by
  apply ByteArray.ext
  apply Array.toList_inj.1
  rw [mpT_list, ByteArray.data_append, ByteArray.data_append, Array.toList_append, Array.toList_append, mpT_list, mpT_list, List.map_append]
theorem mpT_0 : mpT tbF (⟨#[]⟩ : ByteArray) = ⟨#[]⟩ := by decide +kernel
theorem mpT_47 : mpT tbF (⟨#[47]⟩ : ByteArray) = ⟨#[47]⟩ := by decide +kernel
theorem mpT_jw {F : Nat → ByteArray} : ∀ k, mpT tbF (jw F k) = jw (fun i => mpT tbF (F i)) k
  | 0 => mpT_0
  | k + 1 => by
    by_cases h : k = 0
    · subst h
      rw [jw_one, jw_one]
    · rw [jw_next (by omega), jw_next (by omega), mpT_app, mpT_app, mpT_jw k, mpT_47]
theorem jw_0 : jw (fun i => mpT tbF (seg (⟨#[]⟩ : ByteArray) 47 (nSg (⟨#[]⟩ : ByteArray) 47 - 1 - i))) (nSg (⟨#[]⟩ : ByteArray) 47) = ⟨#[]⟩ := by decide +kernel

theorem law_FlipWordW (s : ByteArray) (tt : ByteArray) (C0 : Int) (w : World) (hz : s.size ≤ 1048576) (hSS : ∀ w1, CallsV Try.prog 4 #[.string s] w1 (.tuple #[.string (tt), .int .i64 (C0)])) (hII : ∀ w1, CallsV Try.prog 5 #[.string s] w1 (.tuple #[.string (tt), .int .i64 (C0)])) :
    CallsR Try.prog 3 #[.string (s)] w (fun res _ => res = .bool true) := by
  refine calls_fr [.string (s)] Try.func3 rfl Try.ntmps3 rfl fun a hF => ?_;have hM : Mem w w [] [] := MemX.start w 0;change Fr 28 a [(0, .string (s))] at hF;refine sr <| ag hF rfl rfl fun a hF => nt <| sq <| sr <| mv hF rfl rfl fun a hF => st hF (g_lenS ty_ut_9 hF rfl) rfl fun a hF => st hF (g_gtr hF rfl rfl) rfl fun a hF => nt <| c_cond hF rfl (fun h1 => ?_) (fun h1 => ?_)
  · first | exact absurd rfl h1 | (exfalso; omega)
  refine wp_skip <| tN <| sr <| mv hF rfl rfl fun a hF => stR hF (d_call Try.call4 hF (.cons rfl .nil) (hSS _)) rfl ?_;rintro _ w' a ⟨hx, rfl⟩ hF;have hM := hM.ext hx;refine mv hF rfl rfl fun a hF => st hF (g_extract hF rfl rfl) rfl fun a hF => st hF (g_extract hF rfl rfl) rfl fun a hF => ag hF rfl rfl fun a hF => ag hF rfl rfl fun a hF => ns <| mv hF rfl rfl fun a hF => stR hF (d_call Try.call5 hF (.cons rfl .nil) (hII _)) rfl ?_;rintro _ w' a ⟨hx, rfl⟩ hF;have hM := hM.ext hx;refine mv hF rfl rfl fun a hF => st hF (g_extract hF rfl rfl) rfl fun a hF => st hF (g_extract hF rfl rfl) rfl fun a hF => ag hF rfl rfl fun a hF => ag hF rfl rfl fun a hF => nt <| sq <| sr <| mv hF rfl rfl fun a hF => mv hF rfl rfl fun a hF => st hF (g_neqS hF rfl rfl) rfl fun a hF => mv hF rfl rfl fun a hF => ?_
  by_cases g2 : (tt : ByteArray).toList ≠ (tt : ByteArray).toList
  · first | rw [decide_eq_true g2] at hF | simp only [decide_eq_true g2] at hF
    first | exact absurd rfl g2 | (exfalso; omega)
  first | rw [decide_eq_false g2] at hF | simp only [decide_eq_false g2] at hF
  refine stY hF rfl rfl rfl (g_move hF rfl) rfl fun a hF => stY hF rfl rfl rfl (g_move hF rfl) rfl fun a hF => stY hF rfl rfl rfl (g_neq hF rfl rfl) rfl fun a hF => st hF (g_pickF hF rfl rfl) rfl fun a hF => nt <| c_cond hF rfl (fun h3 => ?_) (fun h3 => ?_)
  · first | exact absurd rfl h3 | (exfalso; omega)
  refine wp_skip <| tN <| sr <| ag hF rfl rfl fun a hF => nt <| wp_ret <| fin1 rfl hF.defers (res_tmp hF rfl) ⟨_, rfl, hM.below, ?_⟩
  show _ = _
  rfl
theorem law_FlipWordZ (s : ByteArray) (w : World) (hz : 1048576 < s.size) (hml : s.size ≤ maxLen) :
    CallsR Try.prog 3 #[.string (s)] w (fun res _ => res = .bool true) := by
  refine calls_fr [.string (s)] Try.func3 rfl Try.ntmps3 rfl fun a hF => ?_;have hM : Mem w w [] [] := MemX.start w 0;change Fr 28 a [(0, .string (s))] at hF;refine sr <| ag hF rfl rfl fun a hF => nt <| sq <| sr <| mv hF rfl rfl fun a hF => st hF (g_lenS ty_ut_9 hF rfl) rfl fun a hF => st hF (g_gtr hF rfl rfl) rfl fun a hF => nt <| c_cond hF rfl (fun h1 => ?_) (fun h1 => ?_)
  · refine sq ?_
    refine wp_region_lit <| ag hF rfl rfl fun a hF => nt <| wp_ret <| tR <| fin1 rfl hF.defers (res_tmp hF rfl) ⟨_, rfl, hM.below, ?_⟩
    show _ = _
    rfl
  exfalso; omega
theorem law_FlipWord (s : ByteArray) (w : World) (hml : s.size ≤ maxLen) : CallsV Try.prog 3 #[.string s] w (.bool true) := by
  by_cases hz : s.size ≤ 1048576
  · by_cases hW : WD s
    · by_cases h0 : s.size = 0
      · obtain rfl := str_e0 h0
        exact law_FlipWordW _ (⟨#[]⟩ : ByteArray) 0 w hz (fun w1 => CallsR.val (FlipWordS_W _ w1 hW (by omega)) (by rw [jw_0])) (fun w1 => CallsR.val (FlipWordI_E w1) (by rw [mpT_0]))
      · have hp := hW.resolve_left h0
        have h3 : s.size ≤ 300 := hp.1;have hn : nL s = nSg s 47 := nL_y (by omega);have hle := nSg_le9 (s := s);have hpos : 0 < nSg s 47 := by unfold nSg; omega
        exact law_FlipWordW _ _ 0 w hz (fun w1 => FlipWordS_W s w1 hW h3) (fun w1 => CallsR.val (FlipWordI_T s w1 hW (by omega) h3 (by omega) (by omega)) (by rw [mpT_jw, hn]))
    · exact law_FlipWordW s (⟨#[]⟩ : ByteArray) 1 w hz (fun w1 => FlipWordS_F s w1 hW hz) (fun w1 => FlipWordI_F s w1 hW)
  · exact law_FlipWordZ s w (by omega) hml
end Go.Proofs.Ytmhibfghnnpefaa
