/- What functions of the program return, as walks over their operations; no statement of the seat is proved here. -/
import Derived.Test.YtockjnhdllcfpaaB2
set_option linter.unusedVariables false
set_option linter.unusedSimpArgs false
namespace Go.Proofs.Ytockjnhdllcfpaa
open Go Go.RowKit Go.Sw Go.Ech
open Classical
theorem ty_bpl_52 : ∀ (x : Int) (u : Option Addr) (m c : Nat) w, (Instr.build 52 #[(0, .int .i64 x), (1, .slice u m c)]).run Try.prog w = .ok (.agg (smC x (.slice u m c))) w := by intros; kernel_rfl
def polC (p : Int) (m : Nat) (F : Nat → Int) : Int := if PolP p m F then 0 else 2
theorem l09PolyI_ok (p : Int) (b m : Nat) (F : Nat → Int) (w : World) (hm : m < 10000000) (hb : Blk w b (numI m F)) : CallsR Try.prog 32 #[.int .i64 p, .slice (some ⟨b, 0, none⟩) m m] w (fun u _ => u = .int .i64 (polC p m F)) := by
  unfold polC
  by_cases h : PolP p m F
  · rw [if_pos h]; exact l09Poly_V p b m F w hm hb (fun _ => trivial) h
  · rw [if_neg h]; exact l09Poly_R p b m F w hm hb (fun _ => trivial) h
theorem polC_yes {p : Int} {m : Nat} {F : Nat → Int} (h : ¬ polC p m F ≠ 0) : PolP p m F := by
  unfold polC at h
  by_cases q : PolP p m F
  · exact q
  · rw [if_neg q] at h; omega
theorem SlopeAtS_R (p : Int) (b m : Nat) (F : Nat → Int) (r : Int) (w : World) (hm : m < 10000000) (hb : Blk w b (numI m F)) (hR : ¬ (PolP p m F ∧ 0 ≤ r ∧ r ≤ p - 1)) :
    CallsR Try.prog 19 #[.int .i64 (p), .slice (some ⟨b, 0, none⟩) m m, .int .i64 (r)] w (fun res _ => res = .tuple #[.int .i64 (0), .int .i64 (2)]) := by
  refine calls_fr [.int .i64 (p), .slice (some ⟨b, 0, none⟩) m m, .int .i64 (r)] Try.func19 rfl Try.ntmps19 rfl fun a hF => ?_;have hM : Mem w w [] [(b, numI m F)] := MemX.startD w 0 _ (startD1 hb);change Fr 23 a [(0, .int .i64 (p)), (1, .slice (some ⟨b, 0, none⟩) m m), (2, .int .i64 (r))] at hF;refine sr <| ag hF rfl rfl fun a hF => ag hF rfl rfl fun a hF => nt <| sq <| sr <| mv hF rfl rfl fun a hF => mv hF rfl rfl fun a hF => stR hF (d_call Try.call32 hF (.cons rfl (.cons rfl .nil)) (l09PolyI_ok p b m F _ hm (hM.fzm (b := b) (cs := numI m F) (by simp)))) rfl ?_;rintro _ w' a ⟨hx, rfl⟩ hF;have hM := hM.ext hx;refine st hF (g_neq hF rfl rfl) rfl fun a hF => mv hF rfl rfl fun a hF => ?_
  by_cases g1 : (polC p m F : Int) ≠ 0
  · first | rw [decide_eq_true g1] at hF | simp only [decide_eq_true g1] at hF
    refine stS hF rfl rfl rfl rfl rfl fun a hF => stS hF rfl rfl rfl rfl rfl fun a hF => stS hF rfl rfl rfl rfl rfl fun a hF => stS hF rfl rfl rfl rfl rfl fun a hF => stS hF rfl rfl rfl rfl rfl fun a hF => st hF (g_pickT hF rfl rfl) rfl fun a hF => nt <| c_T hF rfl <| sr <| ag hF rfl rfl fun a hF => ag hF rfl rfl fun a hF => nt <| wp_ret <| tR <| fin2 rfl hF.defers (res_tmp hF rfl) (res_tmp hF rfl) ⟨_, rfl, hM.below, ?_⟩
    show _ = _
    first | rfl | (rw [show polC p m F = 2 from if_neg (by assumption)])
  first | rw [decide_eq_false g1] at hF | simp only [decide_eq_false g1] at hF
  refine stY hF rfl rfl rfl (g_move hF rfl) rfl fun a hF => stY hF rfl rfl rfl (g_move hF rfl) rfl fun a hF => stY hF rfl rfl rfl (g_sub hF rfl rfl (wrap_i64 (by have z := primeP_pos2 (polC_yes (by assumption)).1; omega) (by have z := primeP_pos2 (polC_yes (by assumption)).1; omega))) rfl fun a hF => stYR hF rfl rfl rfl (d_call Try.call40 hF (.cons rfl (.cons rfl (.cons rfl .nil))) (l01In_ok (r) (0) (p - 1) _)) rfl ?_;rintro _ w' a ⟨hx, rfl⟩ hF;have hM := hM.ext hx;refine stY hF rfl rfl rfl (g_notP hF rfl) rfl fun a hF => st hF (g_pickF hF rfl rfl) rfl fun a hF => nt <| c_cond hF rfl (fun h3 => ?_) (fun h3 => ?_)
  · refine sq ?_
    refine wp_region_lit <| ag hF rfl rfl fun a hF => ag hF rfl rfl fun a hF => nt <| wp_ret <| tR <| fin2 rfl hF.defers (res_tmp hF rfl) (res_tmp hF rfl) ⟨_, rfl, hM.below, ?_⟩
    show _ = _
    first | rfl | (rw [show polC p m F = 2 from if_neg (by assumption)])
  exact absurd ⟨by first | exact polC_yes (by assumption) | exact Decidable.not_not.1 (by assumption), by omega, by omega⟩ hR
theorem SlopeAtS_V (p b m : Nat) (c : Nat → Nat) (r : Nat) (w : World) (hP : PolP (p : Int) m (fun i => (c i : Int))) (hc : ∀ i, c i < p) (hb : Blk w b (numC m c)) (hr : r < p) :
    CallsR Try.prog 19 #[.int .i64 (p : Int), .slice (some ⟨b, 0, none⟩) m m, .int .i64 (r : Int)] w (fun res _ => res = .tuple #[.int .i64 (((slN c m r m % p : Nat) : Int)), .int .i64 (0)]) := by
  refine calls_fr [.int .i64 (p : Int), .slice (some ⟨b, 0, none⟩) m m, .int .i64 (r : Int)] Try.func19 rfl Try.ntmps19 rfl fun a hF => ?_;have hM : Mem w w [] [(b, numC m c)] := MemX.startD w 0 _ (startD1 hb);change Fr 23 a [(0, .int .i64 (p : Int)), (1, .slice (some ⟨b, 0, none⟩) m m), (2, .int .i64 (r : Int))] at hF;have hpN := primeP_nat hP.1;have hp1 : 1 < p := hpN.two;have hp2 : p ≤ 13 := hpN.le;have hm0 : 0 < m := hP.2.1.1;have hm6 : m ≤ 6 := hP.2.1.2;have hm : m ≤ 6 := hm6;have hc2 := hc;have hc : ∀ i, c i ≤ 255 := fun i => by have := hc2 i; omega
  have hr2 : r ≤ 255 := by omega
  refine sr <| ag hF rfl rfl fun a hF => ag hF rfl rfl fun a hF => nt <| sq <| sr <| mv hF rfl rfl fun a hF => mv hF rfl rfl fun a hF => stR hF (d_call Try.call32 hF (.cons rfl (.cons rfl .nil)) (l09Poly_V (p : Int) b m (fun i => (c i : Int)) _ (by omega) (hM.fzm (b := b) (cs := numC m c) (by simp)) (fun _ => trivial) hP)) rfl ?_;rintro _ w' a ⟨hx, rfl⟩ hF;have hM := hM.ext hx;refine st hF (g_neq hF rfl rfl) rfl fun a hF => mv hF rfl rfl fun a hF => ?_;rw [show decide ((0 : Int) ≠ 0) = false from by decide] at hF;refine stY hF rfl rfl rfl (g_move hF rfl) rfl fun a hF => stY hF rfl rfl rfl (g_move hF rfl) rfl fun a hF => stY hF rfl rfl rfl (g_sub hF rfl rfl (wrap_i64 (by omega) (by omega))) rfl fun a hF => stYR hF rfl rfl rfl (d_call Try.call40 hF (.cons rfl (.cons rfl (.cons rfl .nil))) (l01In_ok (r : Int) (0) ((p : Int) - 1) _)) rfl ?_;rintro _ w' a ⟨hx, rfl⟩ hF;have hM := hM.ext hx;refine stY hF rfl rfl rfl (g_notP hF rfl) rfl fun a hF => st hF (g_pickF hF rfl rfl) rfl fun a hF => nt <| c_cond hF rfl (fun h1 => ?_) (fun h1 => ?_)
  · first | contradiction | (exfalso; omega)
  refine wp_skip <| tN <| sr <| mv hF rfl rfl fun a hF => mv hF rfl rfl fun a hF => mv hF rfl rfl fun a hF => stR hF (d_call Try.call41 hF (.cons rfl (.cons rfl (.cons rfl .nil))) (l09Slope_ok (p) b m (r) c _ (by omega) (by omega) (by first | omega | exact hr2) hc (by omega) (by omega) (hM.fzm (b := b) (cs := numC m c) (by simp)))) rfl ?_;rintro _ w' a ⟨hx, rfl⟩ hF;have hM := hM.ext hx;refine ag hF rfl rfl fun a hF => ag hF rfl rfl fun a hF => nt <| wp_ret <| fin2 rfl hF.defers (res_tmp hF rfl) (res_tmp hF rfl) ⟨_, rfl, hM.below, ?_⟩
  show _ = _
  rfl
theorem SlopeAtI_R (p : Int) (b m : Nat) (F : Nat → Int) (r : Int) (w : World) (hm : m < 10000000) (hb : Blk w b (numI m F)) (hR : ¬ (PolP p m F ∧ 0 ≤ r ∧ r ≤ p - 1)) :
    CallsR Try.prog 20 #[.int .i64 (p), .slice (some ⟨b, 0, none⟩) m m, .int .i64 (r)] w (fun res _ => res = .tuple #[.int .i64 (0), .int .i64 (2)]) := by
  refine calls_fr [.int .i64 (p), .slice (some ⟨b, 0, none⟩) m m, .int .i64 (r)] Try.func20 rfl Try.ntmps20 rfl fun a hF => ?_;have hM : Mem w w [] [(b, numI m F)] := MemX.startD w 0 _ (startD1 hb);change Fr 32 a [(0, .int .i64 (p)), (1, .slice (some ⟨b, 0, none⟩) m m), (2, .int .i64 (r))] at hF;refine sr <| ag hF rfl rfl fun a hF => ag hF rfl rfl fun a hF => nt <| sq <| sr <| mv hF rfl rfl fun a hF => mv hF rfl rfl fun a hF => stR hF (d_call Try.call34 hF (.cons rfl (.cons rfl (.cons rfl .nil))) (hasResidues_ok p b m F _ hm (hM.fzm (b := b) (cs := numI m F) (by simp)))) rfl ?_;rintro _ w' a ⟨hx, rfl⟩ hF;have hM := hM.ext hx;refine st hF (g_notP hF rfl) rfl fun a hF => mv hF rfl rfl fun a hF => ?_
  by_cases g1 : ¬ (PolP p m F)
  · first | rw [decide_eq_true g1] at hF | simp only [decide_eq_true g1] at hF
    refine stS hF rfl rfl rfl rfl rfl fun a hF => stS hF rfl rfl rfl rfl rfl fun a hF => st hF (g_pickT hF rfl rfl) rfl fun a hF => mv hF rfl rfl fun a hF => stS hF rfl rfl rfl rfl rfl fun a hF => stS hF rfl rfl rfl rfl rfl fun a hF => stS hF rfl rfl rfl rfl rfl fun a hF => st hF (g_pickT hF rfl rfl) rfl fun a hF => nt <| c_T hF rfl <| sr <| ag hF rfl rfl fun a hF => ag hF rfl rfl fun a hF => nt <| wp_ret <| tR <| fin2 rfl hF.defers (res_tmp hF rfl) (res_tmp hF rfl) ⟨_, rfl, hM.below, ?_⟩
    show _ = _
    first | rfl | (rw [show polC p m F = 2 from if_neg (by assumption)])
  first | rw [decide_eq_false g1] at hF | simp only [decide_eq_false g1] at hF
  refine stY hF rfl rfl rfl (g_move hF rfl) rfl fun a hF => stY hF rfl rfl rfl (g_lss hF rfl rfl) rfl fun a hF => st hF (g_pickF hF rfl rfl) rfl fun a hF => mv hF rfl rfl fun a hF => ?_
  by_cases g3 : (r : Int) < 0
  · first | rw [decide_eq_true g3] at hF | simp only [decide_eq_true g3] at hF
    refine stS hF rfl rfl rfl rfl rfl fun a hF => stS hF rfl rfl rfl rfl rfl fun a hF => stS hF rfl rfl rfl rfl rfl fun a hF => st hF (g_pickT hF rfl rfl) rfl fun a hF => nt <| c_T hF rfl <| sr <| ag hF rfl rfl fun a hF => ag hF rfl rfl fun a hF => nt <| wp_ret <| tR <| fin2 rfl hF.defers (res_tmp hF rfl) (res_tmp hF rfl) ⟨_, rfl, hM.below, ?_⟩
    show _ = _
    first | rfl | (rw [show polC p m F = 2 from if_neg (by assumption)])
  first | rw [decide_eq_false g3] at hF | simp only [decide_eq_false g3] at hF
  refine stY hF rfl rfl rfl (g_move hF rfl) rfl fun a hF => stY hF rfl rfl rfl (g_move hF rfl) rfl fun a hF => stY hF rfl rfl rfl (g_geq hF rfl rfl) rfl fun a hF => st hF (g_pickF hF rfl rfl) rfl fun a hF => nt <| c_cond hF rfl (fun h5 => ?_) (fun h5 => ?_)
  · refine sq ?_
    refine wp_region_lit <| ag hF rfl rfl fun a hF => ag hF rfl rfl fun a hF => nt <| wp_ret <| tR <| fin2 rfl hF.defers (res_tmp hF rfl) (res_tmp hF rfl) ⟨_, rfl, hM.below, ?_⟩
    show _ = _
    first | rfl | (rw [show polC p m F = 2 from if_neg (by assumption)])
  exact absurd ⟨by first | exact polC_yes (by assumption) | exact Decidable.not_not.1 (by assumption), by omega, by omega⟩ hR
theorem SlopeAtI_V (p b m : Nat) (c : Nat → Nat) (r : Nat) (w : World) (hP : PolP (p : Int) m (fun i => (c i : Int))) (hc : ∀ i, c i < p) (hb : Blk w b (numC m c)) (hr : r < p) :
    CallsR Try.prog 20 #[.int .i64 (p : Int), .slice (some ⟨b, 0, none⟩) m m, .int .i64 (r : Int)] w (fun res _ => res = .tuple #[.int .i64 (((slN c m r m % p : Nat) : Int)), .int .i64 (0)]) := by
  refine calls_fr [.int .i64 (p : Int), .slice (some ⟨b, 0, none⟩) m m, .int .i64 (r : Int)] Try.func20 rfl Try.ntmps20 rfl fun a hF => ?_;have hM : Mem w w [] [(b, numC m c)] := MemX.startD w 0 _ (startD1 hb);change Fr 32 a [(0, .int .i64 (p : Int)), (1, .slice (some ⟨b, 0, none⟩) m m), (2, .int .i64 (r : Int))] at hF;have hpN := primeP_nat hP.1;have hp1 : 1 < p := hpN.two;have hp2 : p ≤ 13 := hpN.le;have hm0 : 0 < m := hP.2.1.1;have hm6 : m ≤ 6 := hP.2.1.2;have hm : m ≤ 6 := hm6;have hc2 := hc;have hc : ∀ i, c i ≤ 255 := fun i => by have := hc2 i; omega
  have hr2 : r ≤ 255 := by omega
  refine sr <| ag hF rfl rfl fun a hF => ag hF rfl rfl fun a hF => nt <| sq <| sr <| mv hF rfl rfl fun a hF => mv hF rfl rfl fun a hF => stR hF (d_call Try.call34 hF (.cons rfl (.cons rfl (.cons rfl .nil))) ((CallsR.val (hasResidues_ok (p : Int) b m (fun i => (c i : Int)) _ (by omega) (hM.fzm (b := b) (cs := numC m c) (by simp))) (congrArg Value.bool (decide_eq_true hP))))) rfl ?_;rintro _ w' a ⟨hx, rfl⟩ hF;have hM := hM.ext hx;refine st hF (g_not hF rfl) rfl fun a hF => mv hF rfl rfl fun a hF => stY hF rfl rfl rfl (g_move hF rfl) rfl fun a hF => stY hF rfl rfl rfl (g_lss hF rfl rfl) rfl fun a hF => st hF (g_pickF hF rfl rfl) rfl fun a hF => mv hF rfl rfl fun a hF => ?_
  by_cases g1 : ((r : Int) : Int) < 0
  · first | rw [decide_eq_true g1] at hF | simp only [decide_eq_true g1] at hF
    first | contradiction | (exfalso; omega)
  first | rw [decide_eq_false g1] at hF | simp only [decide_eq_false g1] at hF
  refine stY hF rfl rfl rfl (g_move hF rfl) rfl fun a hF => stY hF rfl rfl rfl (g_move hF rfl) rfl fun a hF => stY hF rfl rfl rfl (g_geq hF rfl rfl) rfl fun a hF => st hF (g_pickF hF rfl rfl) rfl fun a hF => nt <| c_cond hF rfl (fun h2 => ?_) (fun h2 => ?_)
  · first | contradiction | (exfalso; omega)
  refine wp_skip <| tN <| sr <| mv hF rfl rfl fun a hF => mv hF rfl rfl fun a hF => st hF (g_buildP hF (build2 hF rfl rfl) (fun w => ty_bpl_52 _ _ _ _ w)) rfl fun a hF => mv hF rfl rfl fun a hF => stR hF (d_call Try.call42 hF (.cons rfl (.cons rfl .nil)) (at_ok p b m (r) c _ (by omega) (by omega) (by first | omega | exact hr2) hc (by omega) (by omega) (hM.fzm (b := b) (cs := numC m c) (by simp)))) rfl ?_;rintro _ w' a ⟨hx, rfl⟩ hF;have hM := hM.ext hx;refine mv hF rfl rfl fun a hF => st hF (g_extract hF rfl rfl) rfl fun a hF => st hF (g_extract hF rfl rfl) rfl fun a hF => ag hF rfl rfl fun a hF => ag hF rfl rfl fun a hF => ns <| mv hF rfl rfl fun a hF => ag hF rfl rfl fun a hF => ag hF rfl rfl fun a hF => nt <| wp_ret <| fin2 rfl hF.defers (res_tmp hF rfl) (res_tmp hF rfl) ⟨_, rfl, hM.below, ?_⟩
  show _ = _
  rfl
end Go.Proofs.Ytockjnhdllcfpaa
