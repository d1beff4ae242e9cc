/- What functions of the program return, as walks over their operations; no statement of the seat is proved here. -/
import Derived.Test.YtjfmachfdpmdcaaDoorP3
set_option linter.unusedVariables false
set_option linter.unusedSimpArgs false
namespace Go.Proofs.YtjfmachfdpmdcaaDoor
open Go Go.RowKit Go.Sw Go.Ech
open Classical
end Go.Proofs.YtjfmachfdpmdcaaDoor

namespace Go.Proofs.YtjfmachfdpmdcaaDoor
open Go Go.RowKit Go.Sw Go.Ech
open Classical

end Go.Proofs.YtjfmachfdpmdcaaDoor

namespace Go.Proofs.YtjfmachfdpmdcaaDoor
open Go Go.RowKit Go.Sw Go.Ech
open Classical

end Go.Proofs.YtjfmachfdpmdcaaDoor

namespace Go.Proofs.YtjfmachfdpmdcaaDoor
open Go Go.RowKit Go.Sw Go.Ech
open Classical









end Go.Proofs.YtjfmachfdpmdcaaDoor

namespace Go.Proofs.YtjfmachfdpmdcaaDoor
open Go Go.RowKit Go.Sw Go.Ech
open Classical
def bL (p n : Nat) (T : Nat → Nat → Nat → Nat) (v uu : Nat → Nat) (k j : Nat) : Nat := if j < n then timesS p n T v (fun y => if y = j then 1 else 0) k else uu k
end Go.Proofs.YtjfmachfdpmdcaaDoor

namespace Go.Proofs.YtjfmachfdpmdcaaDoor
open Go Go.RowKit Go.Sw Go.Ech
open Classical

end Go.Proofs.YtjfmachfdpmdcaaDoor

namespace Go.Proofs.YtjfmachfdpmdcaaDoor
open Go Go.RowKit Go.Sw Go.Ech
open Classical

end Go.Proofs.YtjfmachfdpmdcaaDoor

namespace Go.Proofs.YtjfmachfdpmdcaaDoor
open Go Go.RowKit Go.Sw Go.Ech
open Classical
theorem frobeniusFault_0A (p n : Int) (T : Nat → Nat → Nat → Nat) (f : Nat → Nat) (w : World) (hT : ∀ i j k, T i j k ≤ 255) (hf : ∀ i, f i ≤ 255) (hc : ¬ CodeP p n T f 0 (vAtL [])) :
    CallsR Tryd.prog 107 #[.agg (algC p n T f), .slice none 0 0] w (fun res _ => res = .int .i64 1) := by
  refine calls_fr [.agg (algC p n T f), .slice none 0 0] Tryd.func107 rfl Tryd.ntmps107 rfl fun a hF => ?_;have hM : Mem w w [none] [] := MemX.start w 1;change Fr 12 a [(0, .agg (algC p n T f)), (1, .slice none 0 0)] at hF;refine sr <| stR hF (d_box 0 hM hF rfl) rfl ?_;rintro _ w' a ⟨b1, rfl, hM, -⟩ hF;change Mem w w' [some (b1, algC p n T f)] [] at hM;refine ag hF rfl rfl fun a hF => nt <| sq <| sr <| st hF (g_loadAgg ty_ag_33 hF rfl (hM.row 0 rfl) (by simp only [sz0] <;> omega) (whole cells_size)) rfl fun a hF => mv hF rfl rfl fun a hF => stR hF (d_call Tryd.call84 hF (.cons rfl (.cons rfl .nil)) ((CallsR.val (areVectors_0 p n T f (vAtL []) _ (fun _ _ _ => hT _ _ _) (fun _ => hf _)) (congrArg Value.bool (decide_eq_false hc))))) rfl ?_;rintro _ w' a ⟨hx, rfl⟩ hF;have hM := hM.ext hx;refine st hF (g_not (b := false) hF rfl) rfl fun a hF => nt <| c_T hF rfl <| sr <| ag hF rfl rfl fun a hF => nt <| wp_ret <| tR <| fin1 rfl hF.defers (res_tmp hF rfl) ⟨_, rfl, hM.below, ?_⟩
  show _ = _
  rfl
theorem frobeniusFault_0F (p n : Nat) (T : Nat → Nat → Nat → Nat) (f : Nat → Nat) (w : World) (hp : primeN p) (hn0 : 0 < n) (hn : n ≤ 6) (hTp : ∀ i j k, T i j k < p) (hf : ∀ i, f i ≤ 255) (hfr : ¬ FrobN p n T f) (hc : CodeP (p : Int) (n : Int) T f 0 (vAtL [])) :
    CallsR Tryd.prog 107 #[.agg (algC (p : Int) (n : Int) T f), .slice none 0 0] w (fun res _ => res = .int .i64 5) := by
  refine calls_fr [.agg (algC (p : Int) (n : Int) T f), .slice none 0 0] Tryd.func107 rfl Tryd.ntmps107 rfl fun a hF => ?_;have hM : Mem w w [none] [] := MemX.start w 1;change Fr 12 a [(0, .agg (algC (p : Int) (n : Int) T f)), (1, .slice none 0 0)] at hF;have hp2 := hp.two;have hp13 := hp.le;have hT : ∀ i j k, T i j k ≤ 255 := fun i j k => by have := hTp i j k; omega
  refine sr <| stR hF (d_box 0 hM hF rfl) rfl ?_;rintro _ w' a ⟨b1, rfl, hM, -⟩ hF;change Mem w w' [some (b1, algC (p : Int) (n : Int) T f)] [] at hM;refine ag hF rfl rfl fun a hF => nt <| sq <| sr <| st hF (g_loadAgg ty_ag_33 hF rfl (hM.row 0 rfl) (by simp only [sz0] <;> omega) (whole cells_size)) rfl fun a hF => mv hF rfl rfl fun a hF => stR hF (d_call Tryd.call84 hF (.cons rfl (.cons rfl .nil)) ((CallsR.val (areVectors_0 (p : Int) (n : Int) T f (vAtL []) _ (fun _ _ _ => hT _ _ _) (fun _ => hf _)) (congrArg Value.bool (decide_eq_true hc))))) rfl ?_;rintro _ w' a ⟨hx, rfl⟩ hF;have hM := hM.ext hx;refine st hF (g_not (b := true) hF rfl) rfl fun a hF => nt <| c_Fl hF rfl <| wp_skip <| tN <| sq <| sr <| st hF (g_loadAgg ty_ag_33 hF rfl (hM.row 0 rfl) (by simp only [sz0] <;> omega) (whole cells_size)) rfl fun a hF => stR hF (d_call Tryd.call115 hF (.cons rfl .nil) ((CallsR.val (hasFullForm_ok p n T f _ hp hn0 hn (fun _ _ _ => hT _ _ _) (fun _ => hf _)) (congrArg Value.bool (decide_eq_false hfr))))) rfl ?_;rintro _ w' a ⟨hx, rfl⟩ hF;have hM := hM.ext hx;refine st hF (g_not (b := false) hF rfl) rfl fun a hF => nt <| c_T hF rfl <| sr <| ag hF rfl rfl fun a hF => nt <| wp_ret <| tR <| fin1 rfl hF.defers (res_tmp hF rfl) ⟨_, rfl, hM.below, ?_⟩
  show _ = _
  rfl
theorem frobeniusFault_0Y (p n : Nat) (T : Nat → Nat → Nat → Nat) (f : Nat → Nat) (w : World) (hp : primeN p) (hn0 : 0 < n) (hn : n ≤ 6) (hTp : ∀ i j k, T i j k < p) (hf : ∀ i, f i ≤ 255) (hfr : FrobN p n T f) (hc : CodeP (p : Int) (n : Int) T f 0 (vAtL [])) :
    CallsR Tryd.prog 107 #[.agg (algC (p : Int) (n : Int) T f), .slice none 0 0] w (fun res _ => res = .int .i64 0) := by
  refine calls_fr [.agg (algC (p : Int) (n : Int) T f), .slice none 0 0] Tryd.func107 rfl Tryd.ntmps107 rfl fun a hF => ?_;have hM : Mem w w [none] [] := MemX.start w 1;change Fr 12 a [(0, .agg (algC (p : Int) (n : Int) T f)), (1, .slice none 0 0)] at hF;have hp2 := hp.two;have hp13 := hp.le;have hT : ∀ i j k, T i j k ≤ 255 := fun i j k => by have := hTp i j k; omega
  refine sr <| stR hF (d_box 0 hM hF rfl) rfl ?_;rintro _ w' a ⟨b1, rfl, hM, -⟩ hF;change Mem w w' [some (b1, algC (p : Int) (n : Int) T f)] [] at hM;refine ag hF rfl rfl fun a hF => nt <| sq <| sr <| st hF (g_loadAgg ty_ag_33 hF rfl (hM.row 0 rfl) (by simp only [sz0] <;> omega) (whole cells_size)) rfl fun a hF => mv hF rfl rfl fun a hF => stR hF (d_call Tryd.call84 hF (.cons rfl (.cons rfl .nil)) ((CallsR.val (areVectors_0 (p : Int) (n : Int) T f (vAtL []) _ (fun _ _ _ => hT _ _ _) (fun _ => hf _)) (congrArg Value.bool (decide_eq_true hc))))) rfl ?_;rintro _ w' a ⟨hx, rfl⟩ hF;have hM := hM.ext hx;refine st hF (g_not (b := true) hF rfl) rfl fun a hF => nt <| c_Fl hF rfl <| wp_skip <| tN <| sq <| sr <| st hF (g_loadAgg ty_ag_33 hF rfl (hM.row 0 rfl) (by simp only [sz0] <;> omega) (whole cells_size)) rfl fun a hF => stR hF (d_call Tryd.call115 hF (.cons rfl .nil) ((CallsR.val (hasFullForm_ok p n T f _ hp hn0 hn (fun _ _ _ => hT _ _ _) (fun _ => hf _)) (congrArg Value.bool (decide_eq_true hfr))))) rfl ?_;rintro _ w' a ⟨hx, rfl⟩ hF;have hM := hM.ext hx;refine st hF (g_not (b := true) hF rfl) rfl fun a hF => nt <| c_Fl hF rfl <| wp_skip <| tN <| sr <| ag hF rfl rfl fun a hF => nt <| wp_ret <| fin1 rfl hF.defers (res_tmp hF rfl) ⟨_, rfl, hM.below, ?_⟩
  show _ = _
  rfl
end Go.Proofs.YtjfmachfdpmdcaaDoor
