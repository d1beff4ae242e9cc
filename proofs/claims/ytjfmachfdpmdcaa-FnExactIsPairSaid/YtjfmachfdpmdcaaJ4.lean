/- What functions of the program return, as walks over their operations; no statement of the seat is proved here. -/
import Derived.Test.YtjfmachfdpmdcaaJ3
set_option linter.unusedVariables false
set_option linter.unusedSimpArgs false
namespace Go.Proofs.Ytjfmachfdpmdcaa
open Go Go.RowKit Go.Sw Go.Ech
open Classical
theorem ty_ag_28 : aggP Try.prog 28 = some 484 := by kernel_rfl
theorem ty_ub_4 : Try.prog.underlying 4 = some .bool := by kernel_rfl
def PairI (p n : Int) (T : Nat → Nat → Nat → Nat) (f : Nat → Nat) (q m : Int) (U : Nat → Nat → Nat → Nat) (fu : Nat → Nat) (Z : Nat → Nat → Nat) : Prop :=
  AlgP p n T f ∧ AlgP q m U fu ∧ p = q ∧ ∃ uu vv, UnitI p.toNat n.toNat (trunc n.toNat T) uu ∧ UnitI p.toNat m.toNat (trunc m.toNat U) vv ∧ PairB p.toNat n.toNat (trunc n.toNat T) f m.toNat (trunc m.toNat U) fu Z uu vv
theorem pairC_eqs {p n q m p' n' q' m' : Int} {T U T' U' : Nat → Nat → Nat → Nat} {f fu f' fu' : Nat → Nat} {Z : Nat → Nat → Nat} (e1 : algC p n T f = algC p' n' T' f') (e2 : algC q m U fu = algC q' m' U' fu') : pairC p n T f q m U fu Z = pairC p' n' T' f' q' m' U' fu' Z :=
  pairC_eq pairC_size (fun i h => by rw [pairC_A h, e1]) (fun i h => by rw [pairC_B i rfl h, e2]) (fun i j hi hj => pairC_Z i j rfl hi hj)
theorem pairC_trunc {p n q m : Int} {T U : Nat → Nat → Nat → Nat} {f fu : Nat → Nat} {Z : Nat → Nat → Nat} (h1 : shapeP p n T f) (h2 : shapeP q m U fu) : pairC p n T f q m U fu Z = pairC p n (trunc n.toNat T) f q m (trunc m.toNat U) fu Z := pairC_eqs (algC_trunc h1) (algC_trunc h2)
theorem isPair_any (p n : Int) (T : Nat → Nat → Nat → Nat) (f : Nat → Nat) (q m : Int) (U : Nat → Nat → Nat → Nat) (fu : Nat → Nat) (Z : Nat → Nat → Nat) (w : World) (hT : ∀ i j k, T i j k ≤ 255) (hf : ∀ i, f i ≤ 255) (hU : ∀ i j k, U i j k ≤ 255) (hfu : ∀ i, fu i ≤ 255) (hZ : ∀ i c, Z i c ≤ 255) : CallsV Try.prog 6 #[.agg (pairC p n T f q m U fu Z)] w (.bool (decide (PairI p n T f q m U fu Z))) := by
  by_cases hE : AlgP p n T f ∧ AlgP q m U fu ∧ p = q
  · obtain ⟨hA, hB, rfl⟩ := hE
    have hs := hA.1;have hs2 := hB.1;have hp0 := primeP_pos hs.1;have hn := hs.2.1;have hm := hs2.2.1;have e1 : (p.toNat : Int) = p := by omega
    have e2 : (n.toNat : Int) = n := by omega
    have e3 : (m.toNat : Int) = m := by omega
    obtain ⟨uu, huu⟩ := hA.2.2;obtain ⟨vv, hvv⟩ := hB.2.2;have h := isPair_Y p.toNat n.toNat (trunc n.toNat T) f m.toNat (trunc m.toNat U) fu Z uu vv w (primeN_of hs.1) (by omega) (by omega) (trunc_lt hs) trunc_out hf (by omega) (by omega) (trunc_lt hs2) trunc_out hfu hZ (by rw [e1, e2]; exact ⟨shape_trunc hs, by rw [trunc_idem]; exact hA.2⟩) (by rw [e1, e3]; exact ⟨shape_trunc hs2, by rw [trunc_idem]; exact hB.2⟩) huu hvv;rw [e1, e2, e3, ← pairC_trunc hs hs2] at h;refine CallsR.val h (congrArg Value.bool (decide_eq_decide.2 ⟨fun h => ⟨hA, hB, rfl, uu, vv, huu, hvv, h⟩, fun h => ?_⟩));obtain ⟨_, _, _, u2, v2, h1, h2, h3⟩ := h;rw [huu.unique h1, hvv.unique h2] at h3;exact h3
  · exact CallsR.val (isPair_E p n T f q m U fu Z w hT hf hU hfu hZ hE) (congrArg Value.bool (decide_eq_false (fun h => hE ⟨h.1, h.2.1, h.2.2.1⟩)).symm)
theorem l10Is_any (p n : Int) (T : Nat → Nat → Nat → Nat) (f : Nat → Nat) (q m : Int) (U : Nat → Nat → Nat → Nat) (fu : Nat → Nat) (Z : Nat → Nat → Nat) (w : World) (hT : ∀ i j k, T i j k ≤ 255) (hf : ∀ i, f i ≤ 255) (hU : ∀ i j k, U i j k ≤ 255) (hfu : ∀ i, fu i ≤ 255) (hZ : ∀ i c, Z i c ≤ 255) : CallsV Try.prog 7 #[.agg (pairC p n T f q m U fu Z)] w (.bool (decide (PairI p n T f q m U fu Z))) := by
  by_cases hE : AlgP p n T f ∧ AlgP q m U fu ∧ p = q
  · obtain ⟨hA, hB, rfl⟩ := hE
    have hs := hA.1;have hs2 := hB.1;have hp0 := primeP_pos hs.1;have hn := hs.2.1;have hm := hs2.2.1;have e1 : (p.toNat : Int) = p := by omega
    have e2 : (n.toNat : Int) = n := by omega
    have e3 : (m.toNat : Int) = m := by omega
    obtain ⟨uu, huu⟩ := hA.2.2;obtain ⟨vv, hvv⟩ := hB.2.2;have h := l10Is_Y p.toNat n.toNat (trunc n.toNat T) f m.toNat (trunc m.toNat U) fu Z uu vv w (primeN_of hs.1) (by omega) (by omega) (trunc_lt hs) trunc_out hf (by omega) (by omega) (trunc_lt hs2) trunc_out hfu hZ (by rw [e1, e2]; exact ⟨shape_trunc hs, by rw [trunc_idem]; exact hA.2⟩) (by rw [e1, e3]; exact ⟨shape_trunc hs2, by rw [trunc_idem]; exact hB.2⟩) huu hvv;rw [e1, e2, e3, ← pairC_trunc hs hs2] at h;refine CallsR.val h (congrArg Value.bool (decide_eq_decide.2 ⟨fun h => ⟨hA, hB, rfl, uu, vv, huu, hvv, h⟩, fun h => ?_⟩));obtain ⟨_, _, _, u2, v2, h1, h2, h3⟩ := h;rw [huu.unique h1, hvv.unique h2] at h3;exact h3
  · exact CallsR.val (l10Is_E p n T f q m U fu Z w hT hf hU hfu hZ hE) (congrArg Value.bool (decide_eq_false (fun h => hE ⟨h.1, h.2.1, h.2.2.1⟩)).symm)
theorem specIsPair_ok (p n : Int) (T : Nat → Nat → Nat → Nat) (f : Nat → Nat) (q m : Int) (U : Nat → Nat → Nat → Nat) (fu : Nat → Nat) (Z : Nat → Nat → Nat) (w : World) (hT : ∀ i j k, T i j k ≤ 255) (hf : ∀ i, f i ≤ 255) (hU : ∀ i j k, U i j k ≤ 255) (hfu : ∀ i, fu i ≤ 255) (hZ : ∀ i c, Z i c ≤ 255) :
    CallsR Try.prog 4 #[.agg (pairC p n T f q m U fu Z)] w (fun res _ => res = .bool (decide (PairI p n T f q m U fu Z))) := by
  refine calls_fr [.agg (pairC p n T f q m U fu Z)] Try.func4 rfl Try.ntmps4 rfl fun a hF => ?_;have hM : Mem w w [none] [] := MemX.start w 1;change Fr 5 a [(0, .agg (pairC p n T f q m U fu Z))] at hF;refine sr <| stR hF (d_box 0 hM hF rfl) rfl ?_;rintro _ w' a ⟨b1, rfl, hM, -⟩ hF;change Mem w w' [some (b1, pairC p n T f q m U fu Z)] [] at hM;refine ag hF rfl rfl fun a hF => ns <| st hF (g_loadAgg ty_ag_35 hF rfl (hM.row 0 rfl) (by simp only [sz0, mrk_size, pairC_size] <;> omega) (whole (by simp only [sz0, mrk_size, pairC_size]))) rfl fun a hF => stR hF (d_call Try.call7 hF (.cons rfl .nil) (l10Is_any p n T f q m U fu Z _ (fun _ _ _ => hT _ _ _) (fun _ => hf _) (fun _ _ _ => hU _ _ _) (fun _ => hfu _) (fun _ _ => hZ _ _))) rfl ?_;rintro _ w' a ⟨hx, rfl⟩ hF;have hM := hM.ext hx;refine ag hF rfl rfl fun a hF => nt <| wp_ret <| fin1 rfl hF.defers (res_tmp hF rfl) ⟨_, rfl, hM.below, ?_⟩
  show _ = _
  rfl
theorem law_IsPair (p n : Int) (T : Nat → Nat → Nat → Nat) (f : Nat → Nat) (q m : Int) (U : Nat → Nat → Nat → Nat) (fu : Nat → Nat) (Z : Nat → Nat → Nat) (w : World) (hT : ∀ i j k, T i j k ≤ 255) (hf : ∀ i, f i ≤ 255) (hU : ∀ i j k, U i j k ≤ 255) (hfu : ∀ i, fu i ≤ 255) (hZ : ∀ i c, Z i c ≤ 255) :
    CallsR Try.prog 3 #[.agg (pairC p n T f q m U fu Z)] w (fun res _ => res = .bool true) := by
  refine calls_fr [.agg (pairC p n T f q m U fu Z)] Try.func3 rfl Try.ntmps3 rfl fun a hF => ?_;have hM : Mem w w [none] [] := MemX.start w 1;change Fr 14 a [(0, .agg (pairC p n T f q m U fu Z))] at hF;refine sr <| stR hF (d_box 0 hM hF rfl) rfl ?_;rintro _ w' a ⟨b1, rfl, hM, -⟩ hF;change Mem w w' [some (b1, pairC p n T f q m U fu Z)] [] at hM;refine ag hF rfl rfl fun a hF => ns <| st hF (g_loadAgg ty_ag_28 hF rfl (hM.row 0 rfl) (by simp only [sz0, mrk_size, pairC_size] <;> omega) (whole (by simp only [sz0, mrk_size, pairC_size]))) rfl fun a hF => stR hF (d_call Try.call5 hF (.cons rfl .nil) (toPair_ok p n T f q m U fu Z _)) rfl ?_;rintro _ w' a ⟨hx, rfl⟩ hF;have hM := hM.ext hx;refine stR hF (d_call Try.call4 hF (.cons rfl .nil) (specIsPair_ok p n T f q m U fu Z _ hT hf hU hfu hZ)) rfl ?_;rintro _ w' a ⟨hx, rfl⟩ hF;have hM := hM.ext hx;refine ag hF rfl rfl fun a hF => ns <| st hF (g_loadAgg ty_ag_28 hF rfl (hM.row 0 rfl) (by simp only [sz0, mrk_size, pairC_size] <;> omega) (whole (by simp only [sz0, mrk_size, pairC_size]))) rfl fun a hF => stR hF (d_call Try.call5 hF (.cons rfl .nil) (toPair_ok p n T f q m U fu Z _)) rfl ?_;rintro _ w' a ⟨hx, rfl⟩ hF;have hM := hM.ext hx;refine stR hF (d_call Try.call6 hF (.cons rfl .nil) (isPair_any p n T f q m U fu Z _ hT hf hU hfu hZ)) rfl ?_;rintro _ w' a ⟨hx, rfl⟩ hF;have hM := hM.ext hx;refine ag hF rfl rfl fun a hF => nt <| sq <| sr <| mv hF rfl rfl fun a hF => mv hF rfl rfl fun a hF => st hF (g_neqBo ty_ub_4 hF rfl rfl) rfl fun a hF => nt <| c_cond hF rfl (fun h2 => ?_) (fun h2 => ?_)
  · first | exact absurd rfl h2 | exact absurd (fun _ _ => rfl) h2 | (exfalso; omega)
  refine wp_skip <| tN <| sr <| ag hF rfl rfl fun a hF => nt <| wp_ret <| fin1 rfl hF.defers (res_tmp hF rfl) ⟨_, rfl, hM.below, ?_⟩
  show _ = _
  rfl
end Go.Proofs.Ytjfmachfdpmdcaa
