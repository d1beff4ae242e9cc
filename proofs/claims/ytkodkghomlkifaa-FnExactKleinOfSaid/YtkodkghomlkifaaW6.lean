/- What functions of the program return, as walks over their operations; no statement of the seat is proved here. -/
import Derived.Test.YtkodkghomlkifaaW5
import Derived.Test.YtkodkghomlkifaaQ5
set_option linter.unusedVariables false
set_option linter.unusedSimpArgs false
namespace Go.Proofs.Ytkodkghomlkifaa
open Go Go.RowKit Go.Sw Go.Ech
open Classical
theorem e_natInt {m : Nat} {n : Int} (h : (m : Int) = n) : n.toNat = m := by omega

theorem law_KleinOfW (p n : Int) (T : Nat → Nat → Nat → Nat) (f : Nat → Nat) (sl : Value) (m : Nat) (V : Nat → Nat → Nat) (u0 : Nat → Nat) (C0 : Int) (w : World) (hV : ∀ i c, V i c ≤ 255) (hs : ArgVs w sl m V) (hmx : m ≤ 1048576) (hSS : ∀ b w1, Blk w1 b (vecsC m V) → CallsV Try.prog 35 #[.agg (algC p n T f), .slice (some ⟨b, 0, none⟩) m m] w1 (.tuple #[.agg (vecC u0), .int .i64 (C0)])) (hII : ∀ b w1, Blk w1 b (vecsC m V) → CallsV Try.prog 36 #[.agg (algC p n T f), .slice (some ⟨b, 0, none⟩) m m] w1 (.tuple #[.agg (vecC u0), .int .i64 (C0)])) :
    CallsR Try.prog 10 #[.agg (algC p n T f), sl] w (fun res _ => res = .bool true) := by
  refine calls_fr [.agg (algC p n T f), sl] Try.func10 rfl Try.ntmps10 rfl fun a hF => ?_;have hM : Mem w w [none, none, none, none, none, none] [] := MemX.start w 6;change Fr 47 a [(0, .agg (algC p n T f)), (1, sl)] at hF;have hso := hs.one;refine sr <| stR hF (d_box 0 hM hF rfl) rfl ?_;rintro _ w' a ⟨b1, rfl, hM, -⟩ hF;change Mem w w' [some (b1, algC p n T f), none, none, none, none, none] [] at hM;refine ag hF rfl rfl fun a hF => ns <| ag hF rfl rfl fun a hF => ns <| mv hF rfl rfl fun a hF => mv hF rfl rfl fun a hF => stR hF (d_call Try.call24 hF (.cons rfl (.cons rfl .nil)) (szVectorS_ok sl m (1048576) V _ (hs.ext hM.below) (by omega) (by omega))) rfl ?_;rintro _ w' a ⟨hx, rfl⟩ hF;have hM := hM.ext hx;refine ag hF rfl rfl fun a hF => nt <| sq <| sr <| mv hF rfl rfl fun a hF => st hF (g_lss hF rfl rfl) rfl fun a hF => nt <| c_cond hF rfl (fun h2 => ?_) (fun h2 => ?_)
  · first | exact absurd rfl h2 | exact absurd (fun _ _ => rfl) h2 | (exfalso; omega)
  refine wp_skip <| tN <| sr <| st hF (g_loadAgg ty_ag_26 hF rfl (hM.row 0 rfl) (by simp only [sz0, vecsC_size] <;> omega) (whole cells_size)) rfl fun a hF => stR hF (d_call Try.call14 hF (.cons rfl .nil) (toAlgebra_ok p n T f _)) rfl ?_;rintro _ w' a ⟨hx, rfl⟩ hF;have hM := hM.ext hx;refine mv hF rfl rfl fun a hF => stR hF (d_call Try.call26 hF (.cons rfl .nil) (toVectorS_ok sl m V _ (hs.ext hM.below) (by omega))) rfl ?_;rintro _ w' a ⟨hx, b3, rfl, hge, hbk⟩ hF;have hM := hM.fill hx 1 hbk hge;change Mem w w' [some (b1, algC p n T f), some (b3, vecsC m V), none, none, none, none] [] at hM;refine stR hF (d_call Try.call35 hF (.cons rfl (.cons rfl .nil)) (hSS b3 _ (hM.row 1 rfl))) rfl ?_;rintro _ w' a ⟨hx, rfl⟩ hF;have hM := hM.ext hx;refine mv hF rfl rfl fun a hF => st hF (g_extract hF rfl rfl) rfl fun a hF => st hF (g_extract hF rfl rfl) rfl fun a hF => stR hF (d_alloc 2 hM ty_ze_27) rfl ?_;rintro _ w' a ⟨b4, rfl, hM, -⟩ hF;change Mem w w' [some (b1, algC p n T f), some (b3, vecsC m V), some (b4, fnC 6 (fun _ => .int .u8 (0))), none, none, none] [] at hM;refine stN hF (d_storeAgg 2 hM rfl ty_sz_27 hF rfl rfl (by first | exact vecC_one | exact cells_one | (refine fnC_one fun _ _ => ?_; first | rfl | (split <;> rfl))) (by simp only [sz0, vecsC_size]) (by simp only [sz0, vecsC_size] <;> omega) (splice_whole _ _ (by simp only [sz0, vecsC_size]))) ?_;intro _ w' a hM hF;change Mem w w' [some (b1, algC p n T f), some (b3, vecsC m V), some (b4, vecC u0), none, none, none] [] at hM;refine ag hF rfl rfl fun a hF => ns <| mv hF rfl rfl fun a hF => stR hF (d_call Try.call26 hF (.cons rfl .nil) (toVectorS_ok sl m V _ (hs.ext hM.below) (by omega))) rfl ?_;rintro _ w' a ⟨hx, b5, rfl, hge, hbk⟩ hF;have hM := hM.fill hx 3 hbk hge;change Mem w w' [some (b1, algC p n T f), some (b3, vecsC m V), some (b4, vecC u0), some (b5, vecsC m V), none, none] [] at hM;refine ag hF rfl rfl fun a hF => ns <| st hF (g_loadAgg ty_ag_26 hF rfl (hM.row 0 rfl) (by simp only [sz0, vecsC_size] <;> omega) (whole cells_size)) rfl fun a hF => stR hF (d_call Try.call14 hF (.cons rfl .nil) (toAlgebra_ok p n T f _)) rfl ?_;rintro _ w' a ⟨hx, rfl⟩ hF;have hM := hM.ext hx;refine mv hF rfl rfl fun a hF => stR hF (d_call Try.call36 hF (.cons rfl (.cons rfl .nil)) (hII b5 _ (hM.row 3 rfl))) rfl ?_;rintro _ w' a ⟨hx, rfl⟩ hF;have hM := hM.ext hx;refine mv hF rfl rfl fun a hF => st hF (g_extract hF rfl rfl) rfl fun a hF => st hF (g_extract hF rfl rfl) rfl fun a hF => stR hF (d_alloc 4 hM ty_ze_27) rfl ?_;rintro _ w' a ⟨b6, rfl, hM, -⟩ hF;change Mem w w' [some (b1, algC p n T f), some (b3, vecsC m V), some (b4, vecC u0), some (b5, vecsC m V), some (b6, fnC 6 (fun _ => .int .u8 (0))), none] [] at hM;refine stN hF (d_storeAgg 4 hM rfl ty_sz_27 hF rfl rfl (by first | exact vecC_one | exact cells_one | (refine fnC_one fun _ _ => ?_; first | rfl | (split <;> rfl))) (by simp only [sz0, vecsC_size]) (by simp only [sz0, vecsC_size] <;> omega) (splice_whole _ _ (by simp only [sz0, vecsC_size]))) ?_;intro _ w' a hM hF;change Mem w w' [some (b1, algC p n T f), some (b3, vecsC m V), some (b4, vecC u0), some (b5, vecsC m V), some (b6, vecC u0), none] [] at hM;refine ag hF rfl rfl fun a hF => nt <| sq <| sr <| st hF (g_loadAgg ty_ag_27 hF rfl (hM.row 4 rfl) (by simp only [sz0, vecsC_size] <;> omega) (whole (by simp only [sz0, vecsC_size]))) rfl fun a hF => st hF (g_loadAgg ty_ag_27 hF rfl (hM.row 2 rfl) (by simp only [sz0, vecsC_size] <;> omega) (whole (by simp only [sz0, vecsC_size]))) rfl fun a hF => stR hF (d_call Try.call16 hF (.cons rfl (.cons rfl .nil)) (eqVector_ok u0 u0 _)) rfl ?_;rintro _ w' a ⟨hx, rfl⟩ hF;have hM := hM.ext hx;refine st hF (g_notP hF rfl) rfl fun a hF => mv hF rfl rfl fun a hF => ?_
  by_cases g7 : ¬ (eqV 6 u0 u0)
  · first | rw [decide_eq_true g7] at hF | simp only [decide_eq_true g7] at hF
    first | exact absurd rfl g7 | exact absurd (fun _ _ => rfl) g7 | (exfalso; omega)
  first | rw [decide_eq_false g7] at hF | simp only [decide_eq_false g7] at hF
  refine stY hF rfl rfl rfl (g_move hF rfl) rfl fun a hF => stY hF rfl rfl rfl (g_move hF rfl) rfl fun a hF => stY hF rfl rfl rfl (g_neq hF rfl rfl) rfl fun a hF => st hF (g_pickF hF rfl rfl) rfl fun a hF => nt <| c_cond hF rfl (fun h8 => ?_) (fun h8 => ?_)
  · first | exact absurd rfl h8 | exact absurd (fun _ _ => rfl) h8 | (exfalso; omega)
  refine wp_skip <| tN <| sq <| sr <| mv hF rfl rfl fun a hF => mv hF rfl rfl fun a hF => stR hF (d_call Try.call26 hF (.cons rfl .nil) (toVectorS_ok sl m V _ (hs.ext hM.below) (by omega))) rfl ?_;rintro _ w' a ⟨hx, b9, rfl, hge, hbk⟩ hF;have hM := hM.fill hx 5 hbk hge;change Mem w w' [some (b1, algC p n T f), some (b3, vecsC m V), some (b4, vecC u0), some (b5, vecsC m V), some (b6, vecC u0), some (b9, vecsC m V)] [] at hM;refine stR hF (d_call Try.call19 hF (.cons rfl (.cons rfl .nil)) (eqVectorS_own b5 b9 m V _ (by omega) (hM.row 3 rfl) (hM.row 5 rfl) hV)) rfl ?_;rintro _ w' a ⟨hx, rfl⟩ hF;have hM := hM.ext hx;refine st hF (g_not hF rfl) rfl fun a hF => nt <| c_Fl hF rfl <| wp_skip <| tN <| sr <| ag hF rfl rfl fun a hF => nt <| wp_ret <| fin1 rfl hF.defers (res_tmp hF rfl) ⟨_, rfl, hM.below, ?_⟩
  show _ = _
  rfl
theorem law_KleinOfZ (p n : Int) (T : Nat → Nat → Nat → Nat) (f : Nat → Nat) (sl : Value) (m : Nat) (V : Nat → Nat → Nat) (w : World) (hs : ArgVs w sl m V) (hmx : 1048576 < m) (hml : m ≤ maxLen) :
    CallsR Try.prog 10 #[.agg (algC p n T f), sl] w (fun res _ => res = .bool true) := by
  refine calls_fr [.agg (algC p n T f), sl] Try.func10 rfl Try.ntmps10 rfl fun a hF => ?_;have hM : Mem w w [none, none, none, none, none, none] [] := MemX.start w 6;change Fr 47 a [(0, .agg (algC p n T f)), (1, sl)] at hF;have hso := hs.one;refine sr <| stR hF (d_box 0 hM hF rfl) rfl ?_;rintro _ w' a ⟨b1, rfl, hM, -⟩ hF;change Mem w w' [some (b1, algC p n T f), none, none, none, none, none] [] at hM;refine ag hF rfl rfl fun a hF => ns <| ag hF rfl rfl fun a hF => ns <| mv hF rfl rfl fun a hF => mv hF rfl rfl fun a hF => stR hF (d_call Try.call24 hF (.cons rfl (.cons rfl .nil)) (szVectorS_no sl m (1048576) V _ (hs.ext hM.below) (by omega) (by omega) hml)) rfl ?_;rintro _ w' a ⟨hx, rfl⟩ hF;have hM := hM.ext hx;refine ag hF rfl rfl fun a hF => nt <| sq <| sr <| mv hF rfl rfl fun a hF => st hF (g_lss hF rfl rfl) rfl fun a hF => nt <| c_cond hF rfl (fun h2 => ?_) (fun h2 => ?_)
  · refine sq ?_
    refine wp_region_lit <| ag hF rfl rfl fun a hF => nt <| wp_ret <| tR <| fin1 rfl hF.defers (res_tmp hF rfl) ⟨_, rfl, hM.below, ?_⟩
    show _ = _
    rfl
  exfalso; omega
theorem law_KleinOf (p n : Int) (T : Nat → Nat → Nat → Nat) (f : Nat → Nat) (sl : Value) (m : Nat) (V : Nat → Nat → Nat) (w : World) (hT : ∀ i j k, T i j k ≤ 255) (hf : ∀ i, f i ≤ 255) (hs : ArgVs w sl m V) (hml : m ≤ maxLen) (hV : ∀ i c, V i c ≤ 255) : CallsV Try.prog 10 #[.agg (algC p n T f), sl] w (.bool true) := by
  by_cases hmx : m ≤ 1048576
  · by_cases hc : CodeP p n T f 0 (vAtL [])
    · by_cases hl : ListP p n m V
      · have hs0 := hc.1.1
        have hp0 := primeP_pos hs0.1;have hn := hs0.2.1;have hpN := primeN_of hs0.1;have e1 : (p.toNat : Int) = p := by omega
        have e2 : (n.toNat : Int) = n := by omega
        obtain rfl : n.toNat = m := e_natInt hl.1;have hc2 : CodeP (p.toNat : Int) (n.toNat : Int) (trunc n.toNat T) f 0 (vAtL []) := by rw [e1, e2]; exact code_trunc hc
        have hl2 : ListP (p.toNat : Int) (n.toNat : Int) n.toNat V := by rw [e1, e2]; exact hl
        have hfp : ∀ i, i < n.toNat → f i < p.toNat := fun i hi => by have h9 := hs0.2.2.1 i (by omega); unfold okN at h9; omega
        have hZp : ∀ i, i < n.toNat → ∀ c, c < 6 → V i c < p.toNat := fun i hi c hc => by have h9 := hl.2 i (by omega) c hc; unfold okN at h9; omega
        by_cases hst : comP (trunc n.toNat T) ∧ FrobN p.toNat n.toNat (trunc n.toNat T) f ∧ StarP p.toNat n.toNat (trunc n.toNat T) f V
        · obtain ⟨G, hG⟩ := cop_exists (F := formM p.toNat n.toNat (trunc n.toNat T) f) hpN (by omega) (by omega) (fun i c h => formM_out h) (formM_lt (by omega)) hst.2.1
          have hSS : ∀ b w1, Blk w1 b (vecsC n.toNat V) → CallsV Try.prog 35 #[.agg (algC p n T f), .slice (some ⟨b, 0, none⟩) n.toNat n.toNat] w1 (.tuple #[.agg (vecC (klV p.toNat n.toNat (trunc n.toNat T) G V n.toNat)), .int .i64 ((0 : Nat) : Int)]) := fun b w1 hb => by
            have h := KleinOfS_Y p.toNat n.toNat (trunc n.toNat T) f b n.toNat _ _ _ V G w1 hpN (by omega) (by omega) (trunc_lt hs0) trunc_out hf hfp hZp (vecs_slAt (by unfold maxLen; omega)) hb hV hc2 hl2 hst.1 hst.2.1 hst.2.2 hG;rw [e1, e2, ← algC_trunc hs0] at h;exact h
          have hII : ∀ b w1, Blk w1 b (vecsC n.toNat V) → CallsV Try.prog 36 #[.agg (algC p n T f), .slice (some ⟨b, 0, none⟩) n.toNat n.toNat] w1 (.tuple #[.agg (vecC (klV p.toNat n.toNat (trunc n.toNat T) G V n.toNat)), .int .i64 ((0 : Nat) : Int)]) := fun b w1 hb => by
            have h := KleinOfI_Y p.toNat n.toNat (trunc n.toNat T) f b n.toNat _ _ _ V G w1 hpN (by omega) (by omega) (trunc_lt hs0) trunc_out hf hfp hZp (vecs_slAt (by unfold maxLen; omega)) hb hV hc2 hl2 hst.1 hst.2.1 hst.2.2 hG;rw [e1, e2, ← algC_trunc hs0] at h;exact h
          exact law_KleinOfW p n T f sl n.toNat V _ _ w hV hs hmx hSS hII
        · -- no state
          have hSS : ∀ b w1, Blk w1 b (vecsC n.toNat V) → CallsV Try.prog 35 #[.agg (algC p n T f), .slice (some ⟨b, 0, none⟩) n.toNat n.toNat] w1 (.tuple #[.agg (vecC (fun _ => 0)), .int .i64 ((5 : Nat) : Int)]) := fun b w1 hb => by
            have h := KleinOfS_S p.toNat n.toNat (trunc n.toNat T) f b n.toNat _ _ _ V w1 hpN (by omega) (by omega) (trunc_lt hs0) trunc_out hf hfp hZp (vecs_slAt (by unfold maxLen; omega)) hb hV hc2 hl2 hst;rw [e1, e2, ← algC_trunc hs0] at h;exact h
          have hII : ∀ b w1, Blk w1 b (vecsC n.toNat V) → CallsV Try.prog 36 #[.agg (algC p n T f), .slice (some ⟨b, 0, none⟩) n.toNat n.toNat] w1 (.tuple #[.agg (vecC (fun _ => 0)), .int .i64 ((5 : Nat) : Int)]) := fun b w1 hb => by
            have h := KleinOfI_S p.toNat n.toNat (trunc n.toNat T) f b n.toNat _ _ _ V w1 hpN (by omega) (by omega) (trunc_lt hs0) trunc_out hf hfp hZp (vecs_slAt (by unfold maxLen; omega)) hb hV hc2 hl2 hst;rw [e1, e2, ← algC_trunc hs0] at h;exact h
          exact law_KleinOfW p n T f sl n.toNat V _ _ w hV hs hmx hSS hII
      · -- the list
        have hSS : ∀ b w1, Blk w1 b (vecsC m V) → CallsV Try.prog 35 #[.agg (algC p n T f), .slice (some ⟨b, 0, none⟩) m m] w1 (.tuple #[.agg (vecC (fun _ => 0)), .int .i64 ((2 : Nat) : Int)]) := fun b w1 hb => by
          have h := KleinOfS_R p n T f b m m _ _ _ V w1 hT hf (vecs_slAt (by unfold maxLen; omega)) hb hV (by omega) hc hl;exact h
        have hII : ∀ b w1, Blk w1 b (vecsC m V) → CallsV Try.prog 36 #[.agg (algC p n T f), .slice (some ⟨b, 0, none⟩) m m] w1 (.tuple #[.agg (vecC (fun _ => 0)), .int .i64 ((2 : Nat) : Int)]) := fun b w1 hb => by
          have h := KleinOfI_R p n T f b m m _ _ _ V w1 hT hf (vecs_slAt (by unfold maxLen; omega)) hb hV (by omega) hc hl;exact h
        exact law_KleinOfW p n T f sl m V _ _ w hV hs hmx hSS hII
    · -- no algebra
      have hSS : ∀ b w1, Blk w1 b (vecsC m V) → CallsV Try.prog 35 #[.agg (algC p n T f), .slice (some ⟨b, 0, none⟩) m m] w1 (.tuple #[.agg (vecC (fun _ => 0)), .int .i64 ((1 : Nat) : Int)]) := fun b w1 hb => by
        have h := KleinOfS_A p n T f b m m _ _ _ V w1 hT hf (vecs_slAt (by unfold maxLen; omega)) hb hV (by omega) hc;exact h
      have hII : ∀ b w1, Blk w1 b (vecsC m V) → CallsV Try.prog 36 #[.agg (algC p n T f), .slice (some ⟨b, 0, none⟩) m m] w1 (.tuple #[.agg (vecC (fun _ => 0)), .int .i64 ((1 : Nat) : Int)]) := fun b w1 hb => by
        have h := KleinOfI_A p n T f b m m _ _ _ V w1 hT hf (vecs_slAt (by unfold maxLen; omega)) hb hV (by omega) hc;exact h
      exact law_KleinOfW p n T f sl m V _ _ w hV hs hmx hSS hII
  · exact law_KleinOfZ p n T f sl m V w hs (by omega) hml
end Go.Proofs.Ytkodkghomlkifaa
