/- What functions of the program return, as walks over their operations; no statement of the seat is proved here. -/
import Derived.Test.YtockjnhdllcfpaaB2
set_option linter.unusedVariables false
set_option linter.unusedSimpArgs false
namespace Go.Proofs.Ytockjnhdllcfpaa
open Go Go.RowKit Go.Sw Go.Ech
open Classical
theorem ty_bpl_52 : ∀ (x : Int) (u : Option Addr) (m c : Nat) w, (Instr.build 52 #[(0, .int .i64 x), (1, .slice u m c)]).run Try.prog w = .ok (.agg (smC x (.slice u m c))) w := by intros; kernel_rfl
def polC (p : Int) (m : Nat) (F : Nat → Int) : Int := if PolP p m F then 0 else 2
theorem l09PolyI_ok (p : Int) (b m : Nat) (F : Nat → Int) (w : World) (hm : m < 10000000) (hb : Blk w b (numI m F)) : CallsR Try.prog 32 #[.int .i64 p, .slice (some ⟨b, 0, none⟩) m m] w (fun u _ => u = .int .i64 (polC p m F)) := by
  unfold polC
  by_cases h : PolP p m F
  · rw [if_pos h]; exact l09Poly_V p b m F w hm hb (fun _ => trivial) h
  · rw [if_neg h]; exact l09Poly_R p b m F w hm hb (fun _ => trivial) h
theorem polC_yes {p : Int} {m : Nat} {F : Nat → Int} (h : ¬ polC p m F ≠ 0) : PolP p m F := by
  unfold polC at h
  by_cases q : PolP p m F
  · exact q
  · rw [if_neg q] at h; omega
theorem RootsOfS_R (p : Int) (b m : Nat) (F : Nat → Int) (w : World) (hm : m < 10000000) (hb : Blk w b (numI m F)) (hR : ¬ PolP p m F) :
    CallsR Try.prog 15 #[.int .i64 (p), .slice (some ⟨b, 0, none⟩) m m] w (fun res _ => res = .tuple #[.slice none 0 0, .int .i64 (2)]) := by
  refine calls_fr [.int .i64 (p), .slice (some ⟨b, 0, none⟩) m m] Try.func15 rfl Try.ntmps15 rfl fun a hF => ?_;have hM : Mem w w [] [(b, numI m F)] := MemX.startD w 0 _ (startD1 hb);change Fr 16 a [(0, .int .i64 (p)), (1, .slice (some ⟨b, 0, none⟩) m m)] at hF;refine sr <| ag hF rfl rfl fun a hF => ag hF rfl rfl fun a hF => nt <| sq <| sr <| mv hF rfl rfl fun a hF => mv hF rfl rfl fun a hF => stR hF (d_call Try.call32 hF (.cons rfl (.cons rfl .nil)) (l09PolyI_ok p b m F _ hm (hM.fzm (b := b) (cs := numI m F) (by simp)))) rfl ?_;rintro _ w' a ⟨hx, rfl⟩ hF;have hM := hM.ext hx;refine ag hF rfl rfl fun a hF => ns <| mv hF rfl rfl fun a hF => st hF (g_neq hF rfl rfl) rfl fun a hF => nt <| c_cond hF rfl (fun h1 => ?_) (fun h1 => ?_)
  · refine sq ?_
    refine wp_region_lit <| mv hF rfl rfl fun a hF => ag hF rfl rfl fun a hF => ag hF rfl rfl fun a hF => nt <| wp_ret <| tR <| fin2 rfl hF.defers (res_tmp hF rfl) (res_tmp hF rfl) ⟨_, rfl, hM.below, ?_⟩
    show _ = _
    first | rfl | (rw [show polC p m F = 2 from if_neg hR])
  exact absurd (by first | exact polC_yes (by assumption) | exact Decidable.not_not.1 (by assumption)) hR
theorem RootsOfS_V (p b m : Nat) (c : Nat → Nat) (w : World) (hP : PolP (p : Int) m (fun i => (c i : Int))) (hc : ∀ i, c i < p) (hb : Blk w b (numC m c)) :
    CallsR Try.prog 15 #[.int .i64 (p : Int), .slice (some ⟨b, 0, none⟩) m m] w (fun v w' => ∃ l, v = .tuple #[l, .int .i64 0] ∧ LstS w w' (rtN c m p) (rtV c m p) l) := by
  refine calls_fr [.int .i64 (p : Int), .slice (some ⟨b, 0, none⟩) m m] Try.func15 rfl Try.ntmps15 rfl fun a hF => ?_;have hM : Mem w w [] [(b, numC m c)] := MemX.startD w 0 _ (startD1 hb);change Fr 16 a [(0, .int .i64 (p : Int)), (1, .slice (some ⟨b, 0, none⟩) m m)] at hF;have hpN := primeP_nat hP.1;have hp1 : 1 < p := hpN.two;have hp2 : p ≤ 13 := hpN.le;have hm0 : 0 < m := hP.2.1.1;have hm6 : m ≤ 6 := hP.2.1.2;have hm : m ≤ 6 := hm6;have hc2 := hc;have hc : ∀ i, c i ≤ 255 := fun i => by have := hc2 i; omega
  refine sr <| ag hF rfl rfl fun a hF => ag hF rfl rfl fun a hF => nt <| sq <| sr <| mv hF rfl rfl fun a hF => mv hF rfl rfl fun a hF => stR hF (d_call Try.call32 hF (.cons rfl (.cons rfl .nil)) (l09Poly_V (p : Int) b m (fun i => (c i : Int)) _ (by omega) (hM.fzm (b := b) (cs := numC m c) (by simp)) (fun _ => trivial) hP)) rfl ?_;rintro _ w' a ⟨hx, rfl⟩ hF;have hM := hM.ext hx;refine ag hF rfl rfl fun a hF => ns <| mv hF rfl rfl fun a hF => st hF (g_neq hF rfl rfl) rfl fun a hF => nt <| c_kF hF rfl (by decide) <| wp_skip <| tN <| sr <| mv hF rfl rfl fun a hF => mv hF rfl rfl fun a hF => stR hF (d_call Try.call38 hF (.cons rfl (.cons rfl .nil)) (l09Roots_ok p b m c _ hp1 hp2 hc hm0 hm6 (hM.fzm (b := b) (cs := numC m c) (by simp)))) rfl ?_;rintro u w' a ⟨hx, hls⟩ hF;have hls := hls.mono hM.bel.size;have hM := hM.ext hx;change Mem w w' [] [(b, numC m c)] at hM;refine ag hF rfl rfl fun a hF => ag hF rfl rfl fun a hF => nt <| wp_ret <| fin2 rfl hF.defers (res_tmp hF rfl) (res_tmp hF rfl) ⟨_, rfl, hM.below, ?_⟩;exact ⟨_, rfl, hls⟩
theorem RootsOfI_R (p : Int) (b m : Nat) (F : Nat → Int) (w : World) (hm : m < 10000000) (hb : Blk w b (numI m F)) (hR : ¬ PolP p m F) :
    CallsR Try.prog 16 #[.int .i64 (p), .slice (some ⟨b, 0, none⟩) m m] w (fun res _ => res = .tuple #[.slice none 0 0, .int .i64 (2)]) := by
  refine calls_fr [.int .i64 (p), .slice (some ⟨b, 0, none⟩) m m] Try.func16 rfl Try.ntmps16 rfl fun a hF => ?_;have hM : Mem w w [] [(b, numI m F)] := MemX.startD w 0 _ (startD1 hb);change Fr 14 a [(0, .int .i64 (p)), (1, .slice (some ⟨b, 0, none⟩) m m)] at hF;refine sr <| ag hF rfl rfl fun a hF => ag hF rfl rfl fun a hF => nt <| sq <| sr <| mv hF rfl rfl fun a hF => mv hF rfl rfl fun a hF => stR hF (d_call Try.call34 hF (.cons rfl (.cons rfl (.cons rfl .nil))) (hasResidues_ok p b m F _ hm (hM.fzm (b := b) (cs := numI m F) (by simp)))) rfl ?_;rintro _ w' a ⟨hx, rfl⟩ hF;have hM := hM.ext hx;refine st hF (g_notP hF rfl) rfl fun a hF => nt <| c_cond hF rfl (fun h1 => ?_) (fun h1 => ?_)
  · refine sq ?_
    refine wp_region_lit <| ag hF rfl rfl fun a hF => ag hF rfl rfl fun a hF => nt <| wp_ret <| tR <| fin2 rfl hF.defers (res_tmp hF rfl) (res_tmp hF rfl) ⟨_, rfl, hM.below, ?_⟩
    show _ = _
    first | rfl | (rw [show polC p m F = 2 from if_neg hR])
  exact absurd (by first | exact polC_yes (by assumption) | exact Decidable.not_not.1 (by assumption)) hR
theorem RootsOfI_V (p b m : Nat) (c : Nat → Nat) (w : World) (hP : PolP (p : Int) m (fun i => (c i : Int))) (hc : ∀ i, c i < p) (hb : Blk w b (numC m c)) :
    CallsR Try.prog 16 #[.int .i64 (p : Int), .slice (some ⟨b, 0, none⟩) m m] w (fun v w' => ∃ l, v = .tuple #[l, .int .i64 0] ∧ LstS w w' (rtN c m p) (rtV c m p) l) := by
  refine calls_fr [.int .i64 (p : Int), .slice (some ⟨b, 0, none⟩) m m] Try.func16 rfl Try.ntmps16 rfl fun a hF => ?_;have hM : Mem w w [] [(b, numC m c)] := MemX.startD w 0 _ (startD1 hb);change Fr 14 a [(0, .int .i64 (p : Int)), (1, .slice (some ⟨b, 0, none⟩) m m)] at hF;have hpN := primeP_nat hP.1;have hp1 : 1 < p := hpN.two;have hp2 : p ≤ 13 := hpN.le;have hm0 : 0 < m := hP.2.1.1;have hm6 : m ≤ 6 := hP.2.1.2;have hm : m ≤ 6 := hm6;have hc2 := hc;have hc : ∀ i, c i ≤ 255 := fun i => by have := hc2 i; omega
  refine sr <| ag hF rfl rfl fun a hF => ag hF rfl rfl fun a hF => nt <| sq <| sr <| mv hF rfl rfl fun a hF => mv hF rfl rfl fun a hF => stR hF (d_call Try.call34 hF (.cons rfl (.cons rfl (.cons rfl .nil))) ((CallsR.val (hasResidues_ok (p : Int) b m (fun i => (c i : Int)) _ (by omega) (hM.fzm (b := b) (cs := numC m c) (by simp))) (congrArg Value.bool (decide_eq_true hP))))) rfl ?_;rintro _ w' a ⟨hx, rfl⟩ hF;have hM := hM.ext hx;refine st hF (g_not hF rfl) rfl fun a hF => nt <| c_Fl hF rfl <| wp_skip <| tN <| sr <| mv hF rfl rfl fun a hF => mv hF rfl rfl fun a hF => st hF (g_buildP hF (build2 hF rfl rfl) (fun w => ty_bpl_52 _ _ _ _ w)) rfl fun a hF => stR hF (d_call Try.call39 hF (.cons rfl .nil) (roots_ok p b m c _ hp1 hp2 hc hm0 hm6 (hM.fzm (b := b) (cs := numC m c) (by simp)))) rfl ?_;rintro u w' a ⟨hx, hls⟩ hF;have hls := hls.mono hM.bel.size;have hM := hM.ext hx;change Mem w w' [] [(b, numC m c)] at hM;refine ag hF rfl rfl fun a hF => ag hF rfl rfl fun a hF => nt <| wp_ret <| fin2 rfl hF.defers (res_tmp hF rfl) (res_tmp hF rfl) ⟨_, rfl, hM.below, ?_⟩;exact ⟨_, rfl, hls⟩
end Go.Proofs.Ytockjnhdllcfpaa
