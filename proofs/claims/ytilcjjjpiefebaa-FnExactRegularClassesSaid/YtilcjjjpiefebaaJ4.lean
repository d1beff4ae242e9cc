/- What functions of the program return, as walks over their operations; no statement of the seat is proved here. -/
import Derived.Test.YtilcjjjpiefebaaJ3
set_option linter.unusedVariables false
set_option linter.unusedSimpArgs false
namespace Go.Proofs.Ytilcjjjpiefebaa
open Go Go.RowKit Go.Sw Go.Ech
open Classical
def gTp (n : Nat) (M : Nat → Nat → Nat) (i0 j0 i j k : Nat) : Nat := if (i < i0 ∨ (i = i0 ∧ j < j0)) ∧ j < n ∧ k = M i j then 1 else 0
def gT (n : Nat) (M : Nat → Nat → Nat) (i j k : Nat) : Nat := if i < n ∧ j < n ∧ k = M i j then 1 else 0
def e0F (c : Nat) : Nat := if c = 0 then 1 else 0

theorem groupFault_A (p : Int) (n : Int) (M : Nat → Nat → Nat) (w : World) (hB : ∀ i j, M i j ≤ 255) (hc : ¬ GrpP n M) :
    CallsR Try.prog 29 #[.int .i64 (p), .agg (grpC n M)] w (fun res _ => res = .int .i64 1) := by
  refine calls_fr [.int .i64 (p), .agg (grpC n M)] Try.func29 rfl Try.ntmps29 rfl fun a hF => ?_;have hM : Mem w w [none] [] := MemX.start w 1;change Fr 11 a [(0, .int .i64 (p)), (1, .agg (grpC n M))] at hF;refine sr <| stR hF (d_box 0 hM hF rfl) rfl ?_;rintro _ w' a ⟨b1, rfl, hM, -⟩ hF;change Mem w w' [some (b1, grpC n M)] [] at hM;refine ag hF rfl rfl fun a hF => nt <| sq <| sr <| st hF (g_loadAgg ty_ag_29 hF rfl (hM.row 0 rfl) (by simp only [sz0, grpC_size] <;> omega) (whole (by simp only [sz0, grpC_size]))) rfl fun a hF => stR hF (d_call Try.call25 hF (.cons rfl .nil) ((CallsR.val (isG_I n M _ hB) (congrArg Value.bool (decide_eq_false hc))))) rfl ?_;rintro _ w' a ⟨hx, rfl⟩ hF;have hM := hM.ext hx;refine st hF (g_not hF rfl) rfl fun a hF => nt <| c_T hF rfl <| sr <| ag hF rfl rfl fun a hF => nt <| wp_ret <| tR <| fin1 rfl hF.defers (res_tmp hF rfl) ⟨_, rfl, hM.below, ?_⟩
  show _ = _
  rfl
theorem groupFault_P (p : Int) (n : Nat) (M : Nat → Nat → Nat) (w : World) (hn0 : 0 < n) (hn : n ≤ 6) (hB : ∀ i j, M i j ≤ 255) (hG : TabP n M) (hP : ¬ primeP p) :
    CallsR Try.prog 29 #[.int .i64 (p), .agg (grpC (n : Int) M)] w (fun res _ => res = .int .i64 2) := by
  refine calls_fr [.int .i64 (p), .agg (grpC (n : Int) M)] Try.func29 rfl Try.ntmps29 rfl fun a hF => ?_;have hM : Mem w w [none] [] := MemX.start w 1;change Fr 11 a [(0, .int .i64 (p)), (1, .agg (grpC (n : Int) M))] at hF;refine sr <| stR hF (d_box 0 hM hF rfl) rfl ?_;rintro _ w' a ⟨b1, rfl, hM, -⟩ hF;change Mem w w' [some (b1, grpC (n : Int) M)] [] at hM;refine ag hF rfl rfl fun a hF => nt <| sq <| sr <| st hF (g_loadAgg ty_ag_29 hF rfl (hM.row 0 rfl) (by simp only [sz0, grpC_size] <;> omega) (whole (by simp only [sz0, grpC_size]))) rfl fun a hF => stR hF (d_call Try.call25 hF (.cons rfl .nil) ((CallsR.val (isG_I (n : Int) M _ hB) (congrArg Value.bool (decide_eq_true (GrpP.mk hn0 hn hG)))))) rfl ?_;rintro _ w' a ⟨hx, rfl⟩ hF;have hM := hM.ext hx;refine st hF (g_not hF rfl) rfl fun a hF => nt <| c_Fl hF rfl <| wp_skip <| tN <| sq <| sr <| mv hF rfl rfl fun a hF => stR hF (d_call Try.call50 hF (.cons rfl .nil) (isPrime_ok (p) _)) rfl ?_;rintro _ w' a ⟨hx, rfl⟩ hF;have hM := hM.ext hx;refine st hF (g_notP hF rfl) rfl fun a hF => nt <| c_cond hF rfl (fun h3 => ?_) (fun h3 => ?_)
  · refine sq ?_
    refine wp_region_lit <| ag hF rfl rfl fun a hF => nt <| wp_ret <| tR <| fin1 rfl hF.defers (res_tmp hF rfl) ⟨_, rfl, hM.below, ?_⟩
    show _ = _
    rfl
  first | exact absurd (by assumption) hP | exact absurd hP (by assumption)
theorem groupFault_V (p : Int) (n : Nat) (M : Nat → Nat → Nat) (w : World) (hn0 : 0 < n) (hn : n ≤ 6) (hB : ∀ i j, M i j ≤ 255) (hG : TabP n M) (hP : primeP p) :
    CallsR Try.prog 29 #[.int .i64 (p), .agg (grpC (n : Int) M)] w (fun res _ => res = .int .i64 0) := by
  refine calls_fr [.int .i64 (p), .agg (grpC (n : Int) M)] Try.func29 rfl Try.ntmps29 rfl fun a hF => ?_;have hM : Mem w w [none] [] := MemX.start w 1;change Fr 11 a [(0, .int .i64 (p)), (1, .agg (grpC (n : Int) M))] at hF;refine sr <| stR hF (d_box 0 hM hF rfl) rfl ?_;rintro _ w' a ⟨b1, rfl, hM, -⟩ hF;change Mem w w' [some (b1, grpC (n : Int) M)] [] at hM;refine ag hF rfl rfl fun a hF => nt <| sq <| sr <| st hF (g_loadAgg ty_ag_29 hF rfl (hM.row 0 rfl) (by simp only [sz0, grpC_size] <;> omega) (whole (by simp only [sz0, grpC_size]))) rfl fun a hF => stR hF (d_call Try.call25 hF (.cons rfl .nil) ((CallsR.val (isG_I (n : Int) M _ hB) (congrArg Value.bool (decide_eq_true (GrpP.mk hn0 hn hG)))))) rfl ?_;rintro _ w' a ⟨hx, rfl⟩ hF;have hM := hM.ext hx;refine st hF (g_not hF rfl) rfl fun a hF => nt <| c_Fl hF rfl <| wp_skip <| tN <| sq <| sr <| mv hF rfl rfl fun a hF => stR hF (d_call Try.call50 hF (.cons rfl .nil) (isPrime_ok (p) _)) rfl ?_;rintro _ w' a ⟨hx, rfl⟩ hF;have hM := hM.ext hx;refine st hF (g_notP hF rfl) rfl fun a hF => nt <| c_cond hF rfl (fun h3 => ?_) (fun h3 => ?_)
  · first | exact absurd (by assumption) hP | exact absurd hP (by assumption)
  refine wp_skip <| tN <| sr <| ag hF rfl rfl fun a hF => nt <| wp_ret <| fin1 rfl hF.defers (res_tmp hF rfl) ⟨_, rfl, hM.below, ?_⟩
  show _ = _
  rfl
theorem l06Code_A (p : Int) (n : Int) (M : Nat → Nat → Nat) (w : World) (hB : ∀ i j, M i j ≤ 255) (hc : ¬ GrpP n M) :
    CallsR Try.prog 27 #[.int .i64 (p), .agg (grpC n M)] w (fun res _ => res = .int .i64 1) := by
  refine calls_fr [.int .i64 (p), .agg (grpC n M)] Try.func27 rfl Try.ntmps27 rfl fun a hF => ?_;have hM : Mem w w [none] [] := MemX.start w 1;change Fr 13 a [(0, .int .i64 (p)), (1, .agg (grpC n M))] at hF;refine sr <| stR hF (d_box 0 hM hF rfl) rfl ?_;rintro _ w' a ⟨b1, rfl, hM, -⟩ hF;change Mem w w' [some (b1, grpC n M)] [] at hM;refine ag hF rfl rfl fun a hF => nt <| sq <| wp_block <| sr <| st hF (g_loadAgg ty_ag_29 hF rfl (hM.row 0 rfl) (by simp only [sz0, grpC_size] <;> omega) (whole (by simp only [sz0, grpC_size]))) rfl fun a hF => stR hF (d_call Try.call22 hF (.cons rfl .nil) ((CallsR.val (isG_S n M _ hB) (congrArg Value.bool (decide_eq_false hc))))) rfl ?_;rintro _ w' a ⟨hx, rfl⟩ hF;have hM := hM.ext hx;refine st hF (g_not hF rfl) rfl fun a hF => ag hF rfl rfl fun a hF => nt <| c_T hF rfl <| sr <| ag hF rfl rfl fun a hF => nt <| wp_ret <| iR <| tR <| fin1 rfl hF.defers (res_tmp hF rfl) ⟨_, rfl, hM.below, ?_⟩
  show _ = _
  rfl
theorem l06Code_P (p : Int) (n : Nat) (M : Nat → Nat → Nat) (w : World) (hn0 : 0 < n) (hn : n ≤ 6) (hB : ∀ i j, M i j ≤ 255) (hG : TabP n M) (hP : ¬ primeP p) :
    CallsR Try.prog 27 #[.int .i64 (p), .agg (grpC (n : Int) M)] w (fun res _ => res = .int .i64 2) := by
  refine calls_fr [.int .i64 (p), .agg (grpC (n : Int) M)] Try.func27 rfl Try.ntmps27 rfl fun a hF => ?_;have hM : Mem w w [none] [] := MemX.start w 1;change Fr 13 a [(0, .int .i64 (p)), (1, .agg (grpC (n : Int) M))] at hF;refine sr <| stR hF (d_box 0 hM hF rfl) rfl ?_;rintro _ w' a ⟨b1, rfl, hM, -⟩ hF;change Mem w w' [some (b1, grpC (n : Int) M)] [] at hM;refine ag hF rfl rfl fun a hF => nt <| sq <| wp_block <| sr <| st hF (g_loadAgg ty_ag_29 hF rfl (hM.row 0 rfl) (by simp only [sz0, grpC_size] <;> omega) (whole (by simp only [sz0, grpC_size]))) rfl fun a hF => stR hF (d_call Try.call22 hF (.cons rfl .nil) ((CallsR.val (isG_S (n : Int) M _ hB) (congrArg Value.bool (decide_eq_true (GrpP.mk hn0 hn hG)))))) rfl ?_;rintro _ w' a ⟨hx, rfl⟩ hF;have hM := hM.ext hx;refine st hF (g_not hF rfl) rfl fun a hF => ag hF rfl rfl fun a hF => nt <| c_Fl hF rfl <| sr <| mv hF rfl rfl fun a hF => stR hF (d_call Try.call49 hF (.cons rfl .nil) (l01Prime_ok (p) _)) rfl ?_;rintro _ w' a ⟨hx, rfl⟩ hF;have hM := hM.ext hx;refine st hF (g_notP hF rfl) rfl fun a hF => ag hF rfl rfl fun a hF => nt <| c_cond hF rfl (fun h3 => ?_) (fun h3 => ?_)
  · refine sq ?_
    refine wp_region_lit <| ag hF rfl rfl fun a hF => nt <| wp_ret <| iR <| tR <| fin1 rfl hF.defers (res_tmp hF rfl) ⟨_, rfl, hM.below, ?_⟩
    show _ = _
    rfl
  first | exact absurd (by assumption) hP | exact absurd hP (by assumption)
theorem l06Code_V (p : Int) (n : Nat) (M : Nat → Nat → Nat) (w : World) (hn0 : 0 < n) (hn : n ≤ 6) (hB : ∀ i j, M i j ≤ 255) (hG : TabP n M) (hP : primeP p) :
    CallsR Try.prog 27 #[.int .i64 (p), .agg (grpC (n : Int) M)] w (fun res _ => res = .int .i64 0) := by
  refine calls_fr [.int .i64 (p), .agg (grpC (n : Int) M)] Try.func27 rfl Try.ntmps27 rfl fun a hF => ?_;have hM : Mem w w [none] [] := MemX.start w 1;change Fr 13 a [(0, .int .i64 (p)), (1, .agg (grpC (n : Int) M))] at hF;refine sr <| stR hF (d_box 0 hM hF rfl) rfl ?_;rintro _ w' a ⟨b1, rfl, hM, -⟩ hF;change Mem w w' [some (b1, grpC (n : Int) M)] [] at hM;refine ag hF rfl rfl fun a hF => nt <| sq <| wp_block <| sr <| st hF (g_loadAgg ty_ag_29 hF rfl (hM.row 0 rfl) (by simp only [sz0, grpC_size] <;> omega) (whole (by simp only [sz0, grpC_size]))) rfl fun a hF => stR hF (d_call Try.call22 hF (.cons rfl .nil) ((CallsR.val (isG_S (n : Int) M _ hB) (congrArg Value.bool (decide_eq_true (GrpP.mk hn0 hn hG)))))) rfl ?_;rintro _ w' a ⟨hx, rfl⟩ hF;have hM := hM.ext hx;refine st hF (g_not hF rfl) rfl fun a hF => ag hF rfl rfl fun a hF => nt <| c_Fl hF rfl <| sr <| mv hF rfl rfl fun a hF => stR hF (d_call Try.call49 hF (.cons rfl .nil) (l01Prime_ok (p) _)) rfl ?_;rintro _ w' a ⟨hx, rfl⟩ hF;have hM := hM.ext hx;refine st hF (g_notP hF rfl) rfl fun a hF => ag hF rfl rfl fun a hF => nt <| c_cond hF rfl (fun h3 => ?_) (fun h3 => ?_)
  · first | exact absurd (by assumption) hP | exact absurd hP (by assumption)
  refine wp_skip <| iN <| tN <| sr <| ag hF rfl rfl fun a hF => nt <| wp_ret <| fin1 rfl hF.defers (res_tmp hF rfl) ⟨_, rfl, hM.below, ?_⟩
  show _ = _
  rfl
end Go.Proofs.Ytilcjjjpiefebaa
