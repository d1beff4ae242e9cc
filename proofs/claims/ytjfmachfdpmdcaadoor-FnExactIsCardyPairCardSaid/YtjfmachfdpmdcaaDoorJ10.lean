/- What functions of the program return, as walks over their operations; no statement of the seat is proved here. -/
import Derived.Test.YtjfmachfdpmdcaaDoorJ9
set_option linter.unusedVariables false
set_option linter.unusedSimpArgs false
namespace Go.Proofs.YtjfmachfdpmdcaaDoor
open Go Go.RowKit Go.Sw Go.Ech
open Classical
theorem ty_ag_28 : aggP Tryd.prog 28 = some 484 := by kernel_rfl
theorem ty_ub_4 : Tryd.prog.underlying 4 = some .bool := by kernel_rfl
theorem pairI_trunc {p n q m : Int} {T U : Nat → Nat → Nat → Nat} {f fu : Nat → Nat} {Z : Nat → Nat → Nat} (h : PairI p n T f q m U fu Z) : PairI p n (trunc n.toNat T) f q m (trunc m.toNat U) fu Z := by
  obtain ⟨hA, hB, e, uu, vv, h1, h2, h3⟩ := h;exact ⟨⟨shape_trunc hA.1, by rw [trunc_idem]; exact hA.2⟩, ⟨shape_trunc hB.1, by rw [trunc_idem]; exact hB.2⟩, e, uu, vv, by rw [trunc_idem]; exact h1, by rw [trunc_idem]; exact h2, by rw [trunc_idem, trunc_idem]; exact h3⟩
theorem law_IsCardyPairW (p n : Int) (T : Nat → Nat → Nat → Nat) (f : Nat → Nat) (q m : Int) (U : Nat → Nat → Nat → Nat) (fu : Nat → Nat) (Z : Nat → Nat → Nat) (B0 : Bool) (C0 : Int) (ev : Value) (w : World) (hg : Blk w 0 #[.iface 115 ev]) (hSS : ∀ w1, CallsV Tryd.prog 19 #[.agg (pairC p n T f q m U fu Z)] w1 (.tuple #[.bool (B0), .int .i64 (C0)])) (hII : ∀ w1, Blk w1 0 #[.iface 115 ev] → CallsV Tryd.prog 20 #[.agg (pairC p n T f q m U fu Z)] w1 (.tuple #[.bool (B0), .int .i64 (C0)])) :
    CallsR Tryd.prog 6 #[.agg (pairC p n T f q m U fu Z)] w (fun res _ => res = .bool true) := by
  refine calls_fr [.agg (pairC p n T f q m U fu Z)] Tryd.func6 rfl Tryd.ntmps6 rfl fun a hF => ?_;have hM : Mem w w [none] [(0, #[.iface 115 ev])] := MemX.startD w 1 _ (startD1 hg);change Fr 27 a [(0, .agg (pairC p n T f q m U fu Z))] at hF;refine sr <| stR hF (d_box 0 hM hF rfl) rfl ?_;rintro _ w' a ⟨b1, rfl, hM, -⟩ hF;change Mem w w' [some (b1, pairC p n T f q m U fu Z)] [(0, #[.iface 115 ev])] at hM;refine ag hF rfl rfl fun a hF => ns <| st hF (g_loadAgg ty_ag_28 hF rfl (hM.row 0 rfl) (by simp only [sz0, mrk_size, pairC_size] <;> omega) (whole (by simp only [sz0, mrk_size, pairC_size]))) rfl fun a hF => stR hF (d_call Tryd.call11 hF (.cons rfl .nil) (toPair_ok p n T f q m U fu Z _)) rfl ?_;rintro _ w' a ⟨hx, rfl⟩ hF;have hM := hM.ext hx;refine stR hF (d_call Tryd.call19 hF (.cons rfl .nil) (hSS _)) rfl ?_;rintro _ w' a ⟨hx, rfl⟩ hF;have hM := hM.ext hx;refine mv hF rfl rfl fun a hF => st hF (g_extract hF rfl rfl) rfl fun a hF => st hF (g_extract hF rfl rfl) rfl fun a hF => ag hF rfl rfl fun a hF => ag hF rfl rfl fun a hF => ns <| st hF (g_loadAgg ty_ag_28 hF rfl (hM.row 0 rfl) (by simp only [sz0, mrk_size, pairC_size] <;> omega) (whole (by simp only [sz0, mrk_size, pairC_size]))) rfl fun a hF => stR hF (d_call Tryd.call11 hF (.cons rfl .nil) (toPair_ok p n T f q m U fu Z _)) rfl ?_;rintro _ w' a ⟨hx, rfl⟩ hF;have hM := hM.ext hx;refine stR hF (d_call Tryd.call20 hF (.cons rfl .nil) (hII _ (hM.fz 0 rfl))) rfl ?_;rintro _ w' a ⟨hx, rfl⟩ hF;have hM := hM.ext hx;refine mv hF rfl rfl fun a hF => st hF (g_extract hF rfl rfl) rfl fun a hF => st hF (g_extract hF rfl rfl) rfl fun a hF => ag hF rfl rfl fun a hF => ag hF rfl rfl fun a hF => nt <| sq <| sr <| mv hF rfl rfl fun a hF => mv hF rfl rfl fun a hF => st hF (g_neqBo ty_ub_4 hF rfl rfl) rfl fun a hF => mv hF rfl rfl fun a hF => ?_
  by_cases g2 : (B0 : Bool) ≠ (B0 : Bool)
  · first | rw [decide_eq_true g2] at hF | simp only [decide_eq_true g2] at hF
    first | exact absurd rfl g2 | exact absurd (fun _ _ => rfl) g2 | (exfalso; omega)
  first | rw [decide_eq_false g2] at hF | simp only [decide_eq_false g2] at hF
  refine stY hF rfl rfl rfl (g_move hF rfl) rfl fun a hF => stY hF rfl rfl rfl (g_move hF rfl) rfl fun a hF => stY hF rfl rfl rfl (g_neq hF rfl rfl) rfl fun a hF => st hF (g_pickF hF rfl rfl) rfl fun a hF => nt <| c_cond hF rfl (fun h3 => ?_) (fun h3 => ?_)
  · first | exact absurd rfl h3 | exact absurd (fun _ _ => rfl) h3 | (exfalso; omega)
  refine wp_skip <| tN <| sr <| ag hF rfl rfl fun a hF => nt <| wp_ret <| fin1 rfl hF.defers (res_tmp hF rfl) ⟨_, rfl, hM.below, ?_⟩
  show _ = _
  rfl
theorem law_IsCardyPair (p n : Int) (T : Nat → Nat → Nat → Nat) (f : Nat → Nat) (q m : Int) (U : Nat → Nat → Nat → Nat) (fu : Nat → Nat) (Z : Nat → Nat → Nat) (ev : Value) (w : World) (hT : ∀ i j k, T i j k ≤ 255) (hf : ∀ i, f i ≤ 255) (hU : ∀ i j k, U i j k ≤ 255) (hfu : ∀ i, fu i ≤ 255) (hZ : ∀ i c, Z i c ≤ 255) (hg : Blk w 0 #[.iface 115 ev]) : CallsV Tryd.prog 6 #[.agg (pairC p n T f q m U fu Z)] w (.bool true) := by
  by_cases hc : PairI p n T f q m U fu Z ∧ CodeP q m U fu 0 (vAtL [])
  · obtain ⟨hI, hcv⟩ := hc
    obtain ⟨hA, hB, rfl, uu, vv, huu, hvv, hP⟩ := id hI;have hs := hA.1;have hs2 := hB.1;have hp0 := primeP_pos hs.1;have hn := hs.2.1;have hm := hs2.2.1;have hpN := primeN_of hs.1;have e1 : (p.toNat : Int) = p := by omega
    have e2 : (n.toNat : Int) = n := by omega
    have e3 : (m.toNat : Int) = m := by omega
    obtain ⟨G, hG⟩ := cop_exists (F := formM p.toNat n.toNat (trunc n.toNat T) f) hpN (by omega) (by omega) (fun i c h => formM_out h) (formM_lt (by omega)) hP.1.1;obtain ⟨H, hH⟩ := cop_exists (F := formM p.toNat m.toNat (trunc m.toNat U) fu) hpN (by omega) (by omega) (fun i c h => formM_out h) (formM_lt (by omega)) hP.1.2.1;have hIn : PairI (p.toNat : Int) (n.toNat : Int) (trunc n.toNat T) f (p.toNat : Int) (m.toNat : Int) (trunc m.toNat U) fu Z := by rw [e1, e2, e3]; exact pairI_trunc hI
    have hcn : CodeP (p.toNat : Int) (m.toNat : Int) (trunc m.toNat U) fu 0 (vAtL []) := by rw [e1, e3]; exact code_trunc hcv
    have hSS : ∀ w1, CallsV Tryd.prog 19 #[.agg (pairC p n T f p m U fu Z)] w1 (.tuple #[.bool (decide (CardyP p.toNat n.toNat m.toNat (trunc m.toNat U) fu Z G H)), .int .i64 (0)]) := fun w1 => by
      have h := IsCardyPairS_Y p.toNat n.toNat (trunc n.toNat T) f m.toNat (trunc m.toNat U) fu Z G H uu vv w1 hpN (by omega) (by omega) (trunc_lt hs) trunc_out hf (by omega) (by omega) (trunc_lt hs2) trunc_out hfu hZ hP.1.1 hG hP.1.2.1 hH hP.1.2.2.1 huu hvv hIn;rw [e1, e2, e3, ← pairC_trunc hs hs2] at h;exact h
    have hII : ∀ w1, Blk w1 0 #[.iface 115 ev] → CallsV Tryd.prog 20 #[.agg (pairC p n T f p m U fu Z)] w1 (.tuple #[.bool (decide (CardyP p.toNat n.toNat m.toNat (trunc m.toNat U) fu Z G H)), .int .i64 (0)]) := fun w1 hg1 => by
      have h := IsCardyPairI_Y p.toNat n.toNat (trunc n.toNat T) f m.toNat (trunc m.toNat U) fu Z G H uu vv w1 hpN (by omega) (by omega) (trunc_lt hs) trunc_out hf (by omega) (by omega) (trunc_lt hs2) trunc_out hfu hZ hP.1.1 hG hP.1.2.1 hH hP.1.2.2.1 huu hvv hIn;rw [e1, e2, e3, ← pairC_trunc hs hs2] at h;exact h
    exact law_IsCardyPairW p n T f p m U fu Z _ _ ev w hg hSS hII
  · -- no pair, or no vectors of it
    have hSS : ∀ w1, CallsV Tryd.prog 19 #[.agg (pairC p n T f q m U fu Z)] w1 (.tuple #[.bool false, .int .i64 ((1 : Nat) : Int)]) := fun w1 => by
      have h := IsCardyPairS_A p n T f q m U fu Z w1 hT hf hU hfu hZ (fun hI => hc ⟨hI, code0 hI.2.1⟩);exact h
    have hII : ∀ w1, Blk w1 0 #[.iface 115 ev] → CallsV Tryd.prog 20 #[.agg (pairC p n T f q m U fu Z)] w1 (.tuple #[.bool false, .int .i64 ((1 : Nat) : Int)]) := fun w1 hg1 => by
      have h := IsCardyPairI_A p n T f q m U fu Z ev w1 hT hf hU hfu hZ hc hg1;exact h
    exact law_IsCardyPairW p n T f q m U fu Z _ _ ev w hg hSS hII
end Go.Proofs.YtjfmachfdpmdcaaDoor
