/- What functions of the program return, as walks over their operations; no statement of the seat is proved here. -/
import Derived.Test.YtmgdigbkocligaaDoorN7
import Derived.Test.YtmgdigbkocligaaDoorSw10
set_option linter.unusedVariables false
set_option linter.unusedSimpArgs false
namespace Go.Proofs.YtmgdigbkocligaaDoor
open Go Go.RowKit Go.Sw Go.Ech
open Classical
theorem ParseAlgebraS_T (s : ByteArray) (P0 N0 : Int) (T : Nat → Nat → Nat → Nat) (f : Nat → Nat) (w : World) (hRR : ∀ w1, CallsV Tryd.prog 7 #[.string s] w1 (.tuple #[.agg (algC P0 N0 T f), .bool true])) :
    CallsR Tryd.prog 4 #[.string (s)] w (fun res _ => res = .tuple #[.agg (algC P0 N0 T f), .int .i64 ((0 : Nat) : Int)]) := by
  refine calls_fr [.string (s)] Tryd.func4 rfl Tryd.ntmps4 rfl fun a hF => ?_;have hM : Mem w w [none, none] [] := MemX.start w 2;change Fr 15 a [(0, .string (s))] at hF;refine sr <| stR hF (d_alloc 0 hM ty_ze_27) rfl ?_;rintro _ w' a ⟨b1, rfl, hM, -⟩ hF;refine ag hF rfl rfl fun a hF => ns <| mv hF rfl rfl fun a hF => stR hF (d_call Tryd.call7 hF (.cons rfl .nil) (hRR _)) rfl ?_;rintro _ w' a ⟨hx, rfl⟩ hF;have hM := hM.ext hx;refine mv hF rfl rfl fun a hF => st hF (g_extract hF rfl rfl) rfl fun a hF => st hF (g_extract hF rfl rfl) rfl fun a hF => stR hF (d_alloc 1 hM ty_ze_27) rfl ?_;rintro _ w' a ⟨b2, rfl, hM, -⟩ hF;change Mem w w' [some (b1, algC 0 0 (fun _ _ _ => 0) (fun _ => 0)), some (b2, algC 0 0 (fun _ _ _ => 0) (fun _ => 0))] [] at hM;refine stN hF (d_storeAgg 1 hM rfl ty_sz_27 hF rfl rfl (by first | exact vecC_one | exact cells_one | (refine fnC_one fun _ _ => ?_; first | rfl | (split <;> rfl))) (by simp only [sz0, dgC_size]) (by simp only [sz0, dgC_size] <;> omega) (splice_whole _ _ (by simp only [sz0, dgC_size]))) ?_;intro _ w' a hM hF;change Mem w w' [some (b1, algC 0 0 (fun _ _ _ => 0) (fun _ => 0)), some (b2, algC P0 N0 T f)] [] at hM;refine ag hF rfl rfl fun a hF => nt <| sq <| sr <| mv hF rfl rfl fun a hF => st hF (g_not hF rfl) rfl fun a hF => nt <| c_Fl hF rfl <| wp_skip <| tN <| sr <| st hF (g_loadAgg ty_ag_27 hF rfl (hM.row 1 rfl) (by simp only [sz0, dgC_size] <;> omega) (whole cells_size)) rfl fun a hF => stN hF (d_storeAgg 0 hM rfl ty_sz_27 hF rfl rfl (by first | exact vecC_one | exact cells_one | (refine fnC_one fun _ _ => ?_; first | rfl | (split <;> rfl))) (by simp only [sz0, dgC_size]) (by simp only [sz0, dgC_size] <;> omega) (splice_whole _ _ (by simp only [sz0, dgC_size]))) ?_;intro _ w' a hM hF;change Mem w w' [some (b1, algC P0 N0 T f), some (b2, algC P0 N0 T f)] [] at hM;refine ag hF rfl rfl fun a hF => nt <| wp_ret <| fin2 rfl hF.defers (res_agg ty_ag_27 hF rfl (hM.row 0 rfl) (by simp only [sz0, dgC_size])) (res_tmp hF rfl) ⟨_, rfl, hM.below, ?_⟩
  show _ = _
  rfl
theorem ParseAlgebraS_F (s : ByteArray) (P0 N0 : Int) (T : Nat → Nat → Nat → Nat) (f : Nat → Nat) (w : World) (hRR : ∀ w1, CallsV Tryd.prog 7 #[.string s] w1 (.tuple #[.agg (algC P0 N0 T f), .bool false])) :
    CallsR Tryd.prog 4 #[.string (s)] w (fun res _ => res = .tuple #[.agg (algC 0 0 (fun _ _ _ => 0) (fun _ => 0)), .int .i64 ((6 : Nat) : Int)]) := by
  refine calls_fr [.string (s)] Tryd.func4 rfl Tryd.ntmps4 rfl fun a hF => ?_;have hM : Mem w w [none, none] [] := MemX.start w 2;change Fr 15 a [(0, .string (s))] at hF;refine sr <| stR hF (d_alloc 0 hM ty_ze_27) rfl ?_;rintro _ w' a ⟨b1, rfl, hM, -⟩ hF;refine ag hF rfl rfl fun a hF => ns <| mv hF rfl rfl fun a hF => stR hF (d_call Tryd.call7 hF (.cons rfl .nil) (hRR _)) rfl ?_;rintro _ w' a ⟨hx, rfl⟩ hF;have hM := hM.ext hx;refine mv hF rfl rfl fun a hF => st hF (g_extract hF rfl rfl) rfl fun a hF => st hF (g_extract hF rfl rfl) rfl fun a hF => stR hF (d_alloc 1 hM ty_ze_27) rfl ?_;rintro _ w' a ⟨b2, rfl, hM, -⟩ hF;change Mem w w' [some (b1, algC 0 0 (fun _ _ _ => 0) (fun _ => 0)), some (b2, algC 0 0 (fun _ _ _ => 0) (fun _ => 0))] [] at hM;refine stN hF (d_storeAgg 1 hM rfl ty_sz_27 hF rfl rfl (by first | exact vecC_one | exact cells_one | (refine fnC_one fun _ _ => ?_; first | rfl | (split <;> rfl))) (by simp only [sz0, dgC_size]) (by simp only [sz0, dgC_size] <;> omega) (splice_whole _ _ (by simp only [sz0, dgC_size]))) ?_;intro _ w' a hM hF;change Mem w w' [some (b1, algC 0 0 (fun _ _ _ => 0) (fun _ => 0)), some (b2, algC P0 N0 T f)] [] at hM;refine ag hF rfl rfl fun a hF => nt <| sq <| sr <| mv hF rfl rfl fun a hF => st hF (g_not hF rfl) rfl fun a hF => nt <| c_T hF rfl <| sr <| st hF (g_build0 ty_bu_27) rfl fun a hF => stN hF (d_storeAgg 0 hM rfl ty_sz_27 hF rfl rfl (by first | exact vecC_one | exact cells_one | (refine fnC_one fun _ _ => ?_; first | rfl | (split <;> rfl))) (by simp only [sz0, dgC_size]) (by simp only [sz0, dgC_size] <;> omega) (splice_whole _ _ (by simp only [sz0, dgC_size]))) ?_;intro _ w' a hM hF;change Mem w w' [some (b1, algC 0 0 (fun _ _ _ => 0) (fun _ => 0)), some (b2, algC P0 N0 T f)] [] at hM;refine ag hF rfl rfl fun a hF => nt <| wp_ret <| tR <| fin2 rfl hF.defers (res_agg ty_ag_27 hF rfl (hM.row 0 rfl) (by simp only [sz0, dgC_size])) (res_tmp hF rfl) ⟨_, rfl, hM.below, ?_⟩
  show _ = _
  rfl
theorem law_ParseAlgebraW (s : ByteArray) (P0 N0 : Int) (T : Nat → Nat → Nat → Nat) (f : Nat → Nat) (C0 : Int) (w : World) (hz : s.size ≤ 1048576) (hTb : Tabs Tryd.prog w 0) (hSS : ∀ w1, CallsV Tryd.prog 4 #[.string s] w1 (.tuple #[.agg (algC P0 N0 T f), .int .i64 (C0)])) (hII : ∀ w1, Tabs Tryd.prog w1 0 → CallsV Tryd.prog 5 #[.string s] w1 (.tuple #[.agg (algC P0 N0 T f), .int .i64 (C0)])) :
    CallsR Tryd.prog 3 #[.string (s)] w (fun res _ => res = .bool true) := by
  refine calls_fr [.string (s)] Tryd.func3 rfl Tryd.ntmps3 rfl fun a hF => ?_;have hM : Mem w w [none, none] [] := MemX.start w 2;change Fr 29 a [(0, .string (s))] at hF;refine sr <| ag hF rfl rfl fun a hF => nt <| sq <| sr <| mv hF rfl rfl fun a hF => st hF (g_lenS ty_ut_9 hF rfl) rfl fun a hF => st hF (g_gtr hF rfl rfl) rfl fun a hF => nt <| c_cond hF rfl (fun h1 => ?_) (fun h1 => ?_)
  · first | exact absurd rfl h1 | exact absurd ⟨rfl, rfl, fun _ _ _ _ _ _ => rfl, fun _ _ => rfl⟩ h1 | (exfalso; omega)
  refine wp_skip <| tN <| sr <| mv hF rfl rfl fun a hF => stR hF (d_call Tryd.call4 hF (.cons rfl .nil) (hSS _)) rfl ?_;rintro _ w' a ⟨hx, rfl⟩ hF;have hM := hM.ext hx;refine mv hF rfl rfl fun a hF => st hF (g_extract hF rfl rfl) rfl fun a hF => st hF (g_extract hF rfl rfl) rfl fun a hF => stR hF (d_alloc 0 hM ty_ze_27) rfl ?_;rintro _ w' a ⟨b2, rfl, hM, -⟩ hF;change Mem w w' [some (b2, algC 0 0 (fun _ _ _ => 0) (fun _ => 0)), none] [] at hM;refine stN hF (d_storeAgg 0 hM rfl ty_sz_27 hF rfl rfl (by first | exact vecC_one | exact cells_one | (refine fnC_one fun _ _ => ?_; first | rfl | (split <;> rfl))) (by simp only [sz0, dgC_size]) (by simp only [sz0, dgC_size] <;> omega) (splice_whole _ _ (by simp only [sz0, dgC_size]))) ?_;intro _ w' a hM hF;refine ag hF rfl rfl fun a hF => ns <| mv hF rfl rfl fun a hF => stR hF (d_call Tryd.call5 hF (.cons rfl .nil) (hII _ (tabs_up hTb (MemX.ext0 hM)))) rfl ?_;rintro _ w' a ⟨hx, rfl⟩ hF;have hM := hM.ext hx;refine mv hF rfl rfl fun a hF => st hF (g_extract hF rfl rfl) rfl fun a hF => st hF (g_extract hF rfl rfl) rfl fun a hF => stR hF (d_alloc 1 hM ty_ze_27) rfl ?_;rintro _ w' a ⟨b3, rfl, hM, -⟩ hF;change Mem w w' [some (b2, algC P0 N0 T f), some (b3, algC 0 0 (fun _ _ _ => 0) (fun _ => 0))] [] at hM;refine stN hF (d_storeAgg 1 hM rfl ty_sz_27 hF rfl rfl (by first | exact vecC_one | exact cells_one | (refine fnC_one fun _ _ => ?_; first | rfl | (split <;> rfl))) (by simp only [sz0, dgC_size]) (by simp only [sz0, dgC_size] <;> omega) (splice_whole _ _ (by simp only [sz0, dgC_size]))) ?_;intro _ w' a hM hF;change Mem w w' [some (b2, algC P0 N0 T f), some (b3, algC P0 N0 T f)] [] at hM;refine ag hF rfl rfl fun a hF => nt <| sq <| sr <| st hF (g_loadAgg ty_ag_27 hF rfl (hM.row 1 rfl) (by simp only [sz0, dgC_size] <;> omega) (whole cells_size)) rfl fun a hF => st hF (g_loadAgg ty_ag_27 hF rfl (hM.row 0 rfl) (by simp only [sz0, dgC_size] <;> omega) (whole cells_size)) rfl fun a hF => stR hF (d_call Tryd.call6 hF (.cons rfl (.cons rfl .nil)) (eqAlgebra_ok P0 N0 P0 N0 T T f f _)) rfl ?_;rintro _ w' a ⟨hx, rfl⟩ hF;have hM := hM.ext hx;refine st hF (g_notP hF rfl) rfl fun a hF => mv hF rfl rfl fun a hF => ?_
  by_cases g4 : ¬ ((P0 : Int) = (P0 : Int) ∧ (N0 : Int) = (N0 : Int) ∧ eqT T T ∧ eqV 6 f f)
  · first | rw [decide_eq_true g4] at hF | simp only [decide_eq_true g4] at hF
    first | exact absurd rfl g4 | exact absurd ⟨rfl, rfl, fun _ _ _ _ _ _ => rfl, fun _ _ => rfl⟩ g4 | (exfalso; omega)
  first | rw [decide_eq_false g4] at hF | simp only [decide_eq_false g4] at hF
  refine stY hF rfl rfl rfl (g_move hF rfl) rfl fun a hF => stY hF rfl rfl rfl (g_move hF rfl) rfl fun a hF => stY hF rfl rfl rfl (g_neq hF rfl rfl) rfl fun a hF => st hF (g_pickF hF rfl rfl) rfl fun a hF => nt <| c_cond hF rfl (fun h5 => ?_) (fun h5 => ?_)
  · first | exact absurd rfl h5 | exact absurd ⟨rfl, rfl, fun _ _ _ _ _ _ => rfl, fun _ _ => rfl⟩ h5 | (exfalso; omega)
  refine wp_skip <| tN <| sr <| ag hF rfl rfl fun a hF => nt <| wp_ret <| fin1 rfl hF.defers (res_tmp hF rfl) ⟨_, rfl, hM.below, ?_⟩
  show _ = _
  rfl
theorem law_ParseAlgebraZ (s : ByteArray) (w : World) (hz : 1048576 < s.size) (hml : s.size ≤ maxLen) :
    CallsR Tryd.prog 3 #[.string (s)] w (fun res _ => res = .bool true) := by
  refine calls_fr [.string (s)] Tryd.func3 rfl Tryd.ntmps3 rfl fun a hF => ?_;have hM : Mem w w [none, none] [] := MemX.start w 2;change Fr 29 a [(0, .string (s))] at hF;refine sr <| ag hF rfl rfl fun a hF => nt <| sq <| sr <| mv hF rfl rfl fun a hF => st hF (g_lenS ty_ut_9 hF rfl) rfl fun a hF => st hF (g_gtr hF rfl rfl) rfl fun a hF => nt <| c_cond hF rfl (fun h1 => ?_) (fun h1 => ?_)
  · refine sq ?_
    refine wp_region_lit <| ag hF rfl rfl fun a hF => nt <| wp_ret <| tR <| fin1 rfl hF.defers (res_tmp hF rfl) ⟨_, rfl, hM.below, ?_⟩
    show _ = _
    rfl
  exfalso; omega
theorem law_ParseAlgebra (s : ByteArray) (w : World) (hml : s.size ≤ maxLen) (hTb : Tabs Tryd.prog w 0) : CallsV Tryd.prog 3 #[.string s] w (.bool true) := by
  by_cases hz1 : s.size ≤ 1048576
  · have hz : s.size < 10000000 := by omega
    have goN : (∀ w1, CallsV Tryd.prog 7 #[.string s] w1 (.tuple #[.agg (algC 0 0 (fun _ _ _ => 0) (fun _ => 0)), .bool false])) → (∀ w1, Tabs Tryd.prog w1 0 → CallsV Tryd.prog 5 #[.string s] w1 (.tuple #[.agg (algC 0 0 (fun _ _ _ => 0) (fun _ => 0)), .int .i64 ((6 : Nat) : Int)])) → CallsV Tryd.prog 3 #[.string s] w (.bool true) :=
      fun h1 h2 => law_ParseAlgebraW s _ _ _ _ _ w hz1 hTb (fun w1 => ParseAlgebraS_F s _ _ _ _ w1 h1) h2
    by_cases h4 : nSg s 58 = 4
    · by_cases hg : primeP (vN (seg s 58 (0))) ∧ 1 ≤ vN (seg s 58 (1)) ∧ vN (seg s 58 (1)) ≤ 6
      · obtain ⟨p, hv0⟩ : ∃ p : Nat, vN (seg s 58 (0)) = (p : Int) := ⟨(vN (seg s 58 (0))).toNat, by have := primeP_pos hg.1; omega⟩
        obtain ⟨n, hv1⟩ : ∃ n : Nat, vN (seg s 58 (1)) = (n : Int) := ⟨(vN (seg s 58 (1))).toNat, by omega⟩;have hp : primeN p := by have h := primeN_of hg.1; rw [hv0] at h; exact h
        have hn0 : 0 < n := by omega
        have hn : n ≤ 6 := by omega
        by_cases hc : nSg (seg s 58 (2)) 44 = n * n
        · by_cases hR : ∀ i, i < n * n → rdP p n (seg (seg s 58 (2)) 44 (i))
          · by_cases h3 : rdP p n (seg s 58 (3))
            · by_cases hA : AlgP (p : Int) (n : Int) (tbl p n (seg s 58 (2)) (n * n)) (tvF p n (seg s 58 (3)))
              · exact law_ParseAlgebraW s _ _ _ _ _ w hz1 hTb (fun w1 => ParseAlgebraS_T s _ _ _ _ w1 fun w2 => l01Read_Y s p n w2 hz h4 hp hn0 hn hv0 hv1 h3 hc hR hA) (fun w1 hT => ParseAlgebraI_Y s p n w1 hz hT h4 hp hn0 hn hv0 hv1 h3 hc hR hA)
              · exact goN (fun w2 => l01Read_Z s p n w2 hz h4 hp hn0 hn hv0 hv1 h3 hc hR hA) (fun w1 hT => ParseAlgebraI_Z s p n w1 hz hT h4 hp hn0 hn hv0 hv1 h3 hc hR hA)
            · exact goN (fun w2 => l01Read_V s p n w2 hz h4 hp hn0 hn hv0 hv1 (fun q => h3 q.1)) (fun w1 hT => ParseAlgebraI_F s p n w1 hz hT h4 hp hn0 hn hv0 hv1 hc hR h3)
          · obtain ⟨r9, hr⟩ := Classical.not_forall.1 hR
            obtain ⟨hr9l, hr9⟩ := Classical.not_imp.1 hr;refine goN (fun w2 => ?_) (fun w1 hT => ParseAlgebraI_S s p n r9 w1 hz hT h4 hp hn0 hn hv0 hv1 hc hr9l hr9)
            by_cases h3 : rdP p n (seg s 58 (3))
            · exact l01Read_R s p n w2 hz h4 hp hn0 hn hv0 hv1 h3 hc hR
            · exact l01Read_V s p n w2 hz h4 hp hn0 hn hv0 hv1 (fun q => h3 q.1)
        · exact goN (fun w2 => l01Read_V s p n w2 hz h4 hp hn0 hn hv0 hv1 (fun q => hc q.2)) (fun w1 hT => ParseAlgebraI_C s p n w1 hz hT h4 hp hn0 hn hv0 hv1 hc)
      · exact goN (fun w2 => l01Read_B s w2 hz h4 hg) (fun w1 hT => ParseAlgebraI_B s w1 hz hT h4 hg)
    · exact goN (fun w2 => l01Read_E s w2 hz h4) (fun w1 hT => ParseAlgebraI_E s w1 hz hT h4)
  · exact law_ParseAlgebraZ s w (by omega) hml
end Go.Proofs.YtmgdigbkocligaaDoor
