/- What functions of the program return, as walks over their operations; no statement of the seat is proved here. -/
import Derived.Test.YtjfmachfdpmdcaaDoorJ9
set_option linter.unusedVariables false
set_option linter.unusedSimpArgs false
namespace Go.Proofs.YtjfmachfdpmdcaaDoor
open Go Go.RowKit Go.Sw Go.Ech
open Classical
theorem ty_ag_28 : aggP Tryd.prog 28 = some 484 := by kernel_rfl
theorem pairI_trunc {p n q m : Int} {T U : Nat → Nat → Nat → Nat} {f fu : Nat → Nat} {Z : Nat → Nat → Nat} (h : PairI p n T f q m U fu Z) : PairI p n (trunc n.toNat T) f q m (trunc m.toNat U) fu Z := by
  obtain ⟨hA, hB, e, uu, vv, h1, h2, h3⟩ := h;exact ⟨⟨shape_trunc hA.1, by rw [trunc_idem]; exact hA.2⟩, ⟨shape_trunc hB.1, by rw [trunc_idem]; exact hB.2⟩, e, uu, vv, by rw [trunc_idem]; exact h1, by rw [trunc_idem]; exact h2, by rw [trunc_idem, trunc_idem]; exact h3⟩
theorem law_BoundaryNumberW (p n : Int) (T : Nat → Nat → Nat → Nat) (f : Nat → Nat) (q m : Int) (U : Nat → Nat → Nat → Nat) (fu : Nat → Nat) (Z : Nat → Nat → Nat) (x : Int) (y : Int) (N0 : Int) (C0 : Int) (ev : Value) (w : World) (hg : Blk w 0 #[.iface 115 ev]) (hSS : ∀ w1, CallsV Tryd.prog 25 #[.agg (pairC p n T f q m U fu Z), .int .i64 (x), .int .i64 (y)] w1 (.tuple #[.int .i64 (N0), .int .i64 (C0)])) (hII : ∀ w1, Blk w1 0 #[.iface 115 ev] → CallsV Tryd.prog 26 #[.agg (pairC p n T f q m U fu Z), .int .i64 (x), .int .i64 (y)] w1 (.tuple #[.int .i64 (N0), .int .i64 (C0)])) :
    CallsR Tryd.prog 9 #[.agg (pairC p n T f q m U fu Z), .int .i64 (x), .int .i64 (y)] w (fun res _ => res = .bool true) := by
  refine calls_fr [.agg (pairC p n T f q m U fu Z), .int .i64 (x), .int .i64 (y)] Tryd.func9 rfl Tryd.ntmps9 rfl fun a hF => ?_;have hM : Mem w w [none] [(0, #[.iface 115 ev])] := MemX.startD w 1 _ (startD1 hg);change Fr 35 a [(0, .agg (pairC p n T f q m U fu Z)), (1, .int .i64 (x)), (2, .int .i64 (y))] at hF;refine sr <| stR hF (d_box 0 hM hF rfl) rfl ?_;rintro _ w' a ⟨b1, rfl, hM, -⟩ hF;change Mem w w' [some (b1, pairC p n T f q m U fu Z)] [(0, #[.iface 115 ev])] at hM;refine ag hF rfl rfl fun a hF => ns <| st hF (g_loadAgg ty_ag_28 hF rfl (hM.row 0 rfl) (by simp only [sz0, mrk_size, pairC_size] <;> omega) (whole (by simp only [sz0, mrk_size, pairC_size]))) rfl fun a hF => stR hF (d_call Tryd.call11 hF (.cons rfl .nil) (toPair_ok p n T f q m U fu Z _)) rfl ?_;rintro _ w' a ⟨hx, rfl⟩ hF;have hM := hM.ext hx;refine mv hF rfl rfl fun a hF => mv hF rfl rfl fun a hF => stR hF (d_call Tryd.call25 hF (.cons rfl (.cons rfl (.cons rfl .nil))) (hSS _)) rfl ?_;rintro _ w' a ⟨hx, rfl⟩ hF;have hM := hM.ext hx;refine mv hF rfl rfl fun a hF => st hF (g_extract hF rfl rfl) rfl fun a hF => st hF (g_extract hF rfl rfl) rfl fun a hF => ag hF rfl rfl fun a hF => ag hF rfl rfl fun a hF => ns <| st hF (g_loadAgg ty_ag_28 hF rfl (hM.row 0 rfl) (by simp only [sz0, mrk_size, pairC_size] <;> omega) (whole (by simp only [sz0, mrk_size, pairC_size]))) rfl fun a hF => stR hF (d_call Tryd.call11 hF (.cons rfl .nil) (toPair_ok p n T f q m U fu Z _)) rfl ?_;rintro _ w' a ⟨hx, rfl⟩ hF;have hM := hM.ext hx;refine mv hF rfl rfl fun a hF => mv hF rfl rfl fun a hF => stR hF (d_call Tryd.call26 hF (.cons rfl (.cons rfl (.cons rfl .nil))) (hII _ (hM.fz 0 rfl))) rfl ?_;rintro _ w' a ⟨hx, rfl⟩ hF;have hM := hM.ext hx;refine mv hF rfl rfl fun a hF => st hF (g_extract hF rfl rfl) rfl fun a hF => st hF (g_extract hF rfl rfl) rfl fun a hF => ag hF rfl rfl fun a hF => ag hF rfl rfl fun a hF => nt <| sq <| sr <| mv hF rfl rfl fun a hF => mv hF rfl rfl fun a hF => st hF (g_neq hF rfl rfl) rfl fun a hF => mv hF rfl rfl fun a hF => ?_
  by_cases g2 : (N0 : Int) ≠ N0
  · first | rw [decide_eq_true g2] at hF | simp only [decide_eq_true g2] at hF
    first | exact absurd rfl g2 | exact absurd (fun _ _ => rfl) g2 | (exfalso; omega)
  first | rw [decide_eq_false g2] at hF | simp only [decide_eq_false g2] at hF
  refine stY hF rfl rfl rfl (g_move hF rfl) rfl fun a hF => stY hF rfl rfl rfl (g_move hF rfl) rfl fun a hF => stY hF rfl rfl rfl (g_neq hF rfl rfl) rfl fun a hF => st hF (g_pickF hF rfl rfl) rfl fun a hF => nt <| c_cond hF rfl (fun h3 => ?_) (fun h3 => ?_)
  · first | exact absurd rfl h3 | exact absurd (fun _ _ => rfl) h3 | (exfalso; omega)
  refine wp_skip <| tN <| sr <| ag hF rfl rfl fun a hF => nt <| wp_ret <| fin1 rfl hF.defers (res_tmp hF rfl) ⟨_, rfl, hM.below, ?_⟩
  show _ = _
  rfl
theorem law_BoundaryNumber (p n : Int) (T : Nat → Nat → Nat → Nat) (f : Nat → Nat) (q m : Int) (U : Nat → Nat → Nat → Nat) (fu : Nat → Nat) (Z : Nat → Nat → Nat) (x : Int) (y : Int) (ev : Value) (w : World) (hT : ∀ i j k, T i j k ≤ 255) (hf : ∀ i, f i ≤ 255) (hU : ∀ i j k, U i j k ≤ 255) (hfu : ∀ i, fu i ≤ 255) (hZ : ∀ i c, Z i c ≤ 255) (_hx : -9223372036854775808 ≤ x ∧ x ≤ 9223372036854775807) (_hy : -9223372036854775808 ≤ y ∧ y ≤ 9223372036854775807) (hg : Blk w 0 #[.iface 115 ev]) : CallsV Tryd.prog 9 #[.agg (pairC p n T f q m U fu Z), .int .i64 (x), .int .i64 (y)] w (.bool true) := by
  by_cases hc : PairI p n T f q m U fu Z ∧ CodeP q m U fu 0 (vAtL [])
  · obtain ⟨hI, hcv⟩ := hc
    obtain ⟨hA, hB, rfl, uu, vv, huu, hvv, hP⟩ := id hI;have hs := hA.1;have hs2 := hB.1;have hp0 := primeP_pos hs.1;have hn := hs.2.1;have hm := hs2.2.1;have hpN := primeN_of hs.1;have e1 : (p.toNat : Int) = p := by omega
    have e2 : (n.toNat : Int) = n := by omega
    have e3 : (m.toNat : Int) = m := by omega
    obtain ⟨G, hG⟩ := cop_exists (F := formM p.toNat n.toNat (trunc n.toNat T) f) hpN (by omega) (by omega) (fun i c h => formM_out h) (formM_lt (by omega)) hP.1.1;obtain ⟨H, hH⟩ := cop_exists (F := formM p.toNat m.toNat (trunc m.toNat U) fu) hpN (by omega) (by omega) (fun i c h => formM_out h) (formM_lt (by omega)) hP.1.2.1;have hIn : PairI (p.toNat : Int) (n.toNat : Int) (trunc n.toNat T) f (p.toNat : Int) (m.toNat : Int) (trunc m.toNat U) fu Z := by rw [e1, e2, e3]; exact pairI_trunc hI
    by_cases hk : (0 ≤ x ∧ x ≤ 30) ∧ (0 ≤ y ∧ y ≤ 30)
    · -- a value
      have hSS : ∀ w1, CallsV Tryd.prog 25 #[.agg (pairC p n T f p m U fu Z), .int .i64 (x), .int .i64 (y)] w1 (.tuple #[.int .i64 ((((sumTo (fun i => (powW (timesV p.toNat n.toNat (trunc n.toNat T)) (powW (timesV p.toNat n.toNat (trunc n.toNat T)) uu (hdl p.toNat n.toNat (trunc n.toNat T) G n.toNat 0) x.toNat) (apV p.toNat G (fzV p.toNat m.toNat (trunc m.toNat U) fu Z vv) n.toNat) y.toNat) i * f i) 6 % p.toNat) : Nat) : Int)), .int .i64 (0)]) := fun w1 => by
        have h := BoundaryNumberS_Y p.toNat n.toNat (trunc n.toNat T) f m.toNat (trunc m.toNat U) fu Z G H uu vv x.toNat y.toNat w1 hpN (by omega) (by omega) (trunc_lt hs) trunc_out hf (by omega) (by omega) (trunc_lt hs2) trunc_out hfu hZ hP.1.1 hG hP.1.2.1 hH hP.1.2.2.1 huu hvv hIn ⟨by omega, by omega⟩ hA.2.1;rw [e1, e2, e3, ← pairC_trunc hs hs2, show (x.toNat : Int) = x by omega, show (y.toNat : Int) = y by omega] at h;exact h
      have hII : ∀ w1, Blk w1 0 #[.iface 115 ev] → CallsV Tryd.prog 26 #[.agg (pairC p n T f p m U fu Z), .int .i64 (x), .int .i64 (y)] w1 (.tuple #[.int .i64 ((((sumTo (fun i => (powW (timesV p.toNat n.toNat (trunc n.toNat T)) (powW (timesV p.toNat n.toNat (trunc n.toNat T)) uu (hdl p.toNat n.toNat (trunc n.toNat T) G n.toNat 0) x.toNat) (apV p.toNat G (fzV p.toNat m.toNat (trunc m.toNat U) fu Z vv) n.toNat) y.toNat) i * f i) 6 % p.toNat) : Nat) : Int)), .int .i64 (0)]) := fun w1 hg1 => by
        have h := BoundaryNumberI_Y p.toNat n.toNat (trunc n.toNat T) f m.toNat (trunc m.toNat U) fu Z G H uu vv x.toNat y.toNat w1 hpN (by omega) (by omega) (trunc_lt hs) trunc_out hf (by omega) (by omega) (trunc_lt hs2) trunc_out hfu hZ hP.1.1 hG hP.1.2.1 hH hP.1.2.2.1 huu hvv hIn ⟨by omega, by omega⟩ hA.2.1;rw [e1, e2, e3, ← pairC_trunc hs hs2, show (x.toNat : Int) = x by omega, show (y.toNat : Int) = y by omega] at h;exact h
      exact law_BoundaryNumberW p n T f p m U fu Z x y _ _ ev w hg hSS hII
    · -- the range
      have hSS : ∀ w1, CallsV Tryd.prog 25 #[.agg (pairC p n T f p m U fu Z), .int .i64 (x), .int .i64 (y)] w1 (.tuple #[.int .i64 ((0 : Nat) : Int), .int .i64 ((2 : Nat) : Int)]) := fun w1 => by
        have h := BoundaryNumberS_R p.toNat n.toNat (trunc n.toNat T) f m.toNat (trunc m.toNat U) fu Z G H uu vv x y w1 hpN (by omega) (by omega) (trunc_lt hs) trunc_out hf (by omega) (by omega) (trunc_lt hs2) trunc_out hfu hZ hP.1.1 hG hP.1.2.1 hH hP.1.2.2.1 huu hvv hIn hk;rw [e1, e2, e3, ← pairC_trunc hs hs2] at h;exact h
      have hII : ∀ w1, Blk w1 0 #[.iface 115 ev] → CallsV Tryd.prog 26 #[.agg (pairC p n T f p m U fu Z), .int .i64 (x), .int .i64 (y)] w1 (.tuple #[.int .i64 ((0 : Nat) : Int), .int .i64 ((2 : Nat) : Int)]) := fun w1 hg1 => by
        have h := BoundaryNumberI_R p.toNat n.toNat (trunc n.toNat T) f m.toNat (trunc m.toNat U) fu Z G H uu vv x y w1 hpN (by omega) (by omega) (trunc_lt hs) trunc_out hf (by omega) (by omega) (trunc_lt hs2) trunc_out hfu hZ hP.1.1 hG hP.1.2.1 hH hP.1.2.2.1 huu hvv hIn hk;rw [e1, e2, e3, ← pairC_trunc hs hs2] at h;exact h
      exact law_BoundaryNumberW p n T f p m U fu Z x y _ _ ev w hg hSS hII
  · -- no pair, or no vectors of it
    have hSS : ∀ w1, CallsV Tryd.prog 25 #[.agg (pairC p n T f q m U fu Z), .int .i64 (x), .int .i64 (y)] w1 (.tuple #[.int .i64 ((0 : Nat) : Int), .int .i64 ((1 : Nat) : Int)]) := fun w1 => by
      have h := BoundaryNumberS_A p n T f q m U fu Z x y w1 hT hf hU hfu hZ (fun hI => hc ⟨hI, code0 hI.2.1⟩);exact h
    have hII : ∀ w1, Blk w1 0 #[.iface 115 ev] → CallsV Tryd.prog 26 #[.agg (pairC p n T f q m U fu Z), .int .i64 (x), .int .i64 (y)] w1 (.tuple #[.int .i64 ((0 : Nat) : Int), .int .i64 ((1 : Nat) : Int)]) := fun w1 hg1 => by
      have h := BoundaryNumberI_A p n T f q m U fu Z x y ev w1 hT hf hU hfu hZ hc hg1;exact h
    exact law_BoundaryNumberW p n T f q m U fu Z x y _ _ ev w hg hSS hII
end Go.Proofs.YtjfmachfdpmdcaaDoor
