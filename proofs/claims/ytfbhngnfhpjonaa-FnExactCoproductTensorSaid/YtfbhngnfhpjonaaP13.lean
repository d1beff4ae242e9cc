/- What functions of the program return, as walks over their operations; no statement of the seat is proved here. -/
import Derived.Test.YtfbhngnfhpjonaaP3
import Derived.Test.YtfbhngnfhpjonaaTF
import Derived.Test.YtfbhngnfhpjonaaP4
import Derived.Test.YtfbhngnfhpjonaaEch8
import Derived.Test.YtfbhngnfhpjonaaSw34
import Derived.Test.YtfbhngnfhpjonaaSw34
import Derived.Test.YtfbhngnfhpjonaaEch8
set_option linter.unusedVariables false
set_option linter.unusedSimpArgs false
namespace Go.Proofs.Ytfbhngnfhpjonaa
open Go Go.RowKit Go.Sw Go.Ech
open Classical
theorem algC_setf {p n : Int} {T : Nat → Nat → Nat → Nat} {f g : Nat → Nat} {i o x : Nat} (ho : o = 218 + i) (hi : i < 6) (hg : ∀ j, j < 6 → g j = if j = i then x else f j) : (algC p n T f).setIfInBounds o (.int .u8 ((x : Nat) : Int)) = algC p n T g := by
  subst ho
  unfold algC
  refine fnC_set fun j hj => ?_
  by_cases e : j = 218 + i
  · rw [if_pos e, if_neg (by omega), if_neg (by omega), if_neg (by omega), hg _ (by omega), if_pos (by omega)]
  · rw [if_neg e]
    by_cases h2 : j < 218
    · simp only [if_pos h2]
    · rw [if_neg (by omega), if_neg (by omega), if_neg h2, if_neg (by omega), if_neg (by omega), if_neg h2, hg _ (by omega), if_neg (by omega)]

theorem frobeniusFault_okA (p n : Int) (T : Nat → Nat → Nat → Nat) (f : Nat → Nat) (b c m : Nat) (V : Nat → Nat → Nat) (w : World) (hT : ∀ i j k, T i j k ≤ 255) (hf : ∀ i, f i ≤ 255) (hV : ∀ i c, V i c ≤ 255) (hm : m < 1000) (hb : Blk w b (vecsC m V)) (hc : ¬ CodeP p n T f m V) :
    CallsR Try.prog 32 #[.agg (algC p n T f), .slice (some ⟨b, 0, none⟩) (m) (c)] w (fun res _ => res = .int .i64 1) := by
  refine calls_fr [.agg (algC p n T f), .slice (some ⟨b, 0, none⟩) (m) (c)] Try.func32 rfl Try.ntmps32 rfl fun a hF => ?_
  have hM : Mem w w [none] [(b, vecsC m V)] := MemX.startD w 1 _ (startD1 hb)
  change Fr 12 a [(0, .agg (algC p n T f)), (1, .slice (some ⟨b, 0, none⟩) (m) (c))] at hF
  refine sq ?_
  refine wp_region_lit ?_
  refine stR hF (d_box 0 hM hF rfl) rfl ?_
  rintro _ w' a ⟨b1, rfl, hM, -⟩ hF
  change Mem w w' [some (b1, algC p n T f)] [(b, vecsC m V)] at hM
  refine st hF (g_assign hF rfl) rfl fun a hF => ?_
  refine wpList_nil ?_
  refine tN ?_
  refine sq ?_
  refine sq ?_
  refine wp_region_lit ?_
  refine st hF (g_loadAgg ty_ag_32 hF rfl (hM.row 0 rfl) (by simp only [fnC_size, cells_size, vecC_size, tabC_size, planeC_size] <;> omega) (whole cells_size)) rfl fun a hF => st hF (g_move hF rfl) rfl fun a hF => ?_
  refine stR hF (d_call Try.call38 hF (.cons rfl (.cons rfl .nil)) ((CallsR.val (areVectors_ok p n T f b c m V _ (fun _ _ _ => hT _ _ _) (fun _ => hf _) hV hm (hM.fzm (List.mem_cons_self ..))) (congrArg Value.bool (decide_eq_false hc))))) rfl ?_
  rintro _ w' a ⟨hx, rfl⟩ hF
  have hM := hM.ext hx
  refine st hF (g_not hF rfl) rfl fun a hF => ?_
  refine wpList_nil ?_
  refine tN ?_
  refine c_T hF rfl ?_
  refine sq ?_
  refine wp_region_lit ?_
  refine st hF (g_assign hF rfl) rfl fun a hF => ?_
  refine wpList_nil ?_
  refine tN ?_
  refine wp_ret ?_
  refine tR ?_
  refine fin1 rfl hF.defers (res_tmp hF rfl) ⟨_, rfl, hM.below, ?_⟩
  show _ = _
  rfl

theorem frobeniusFault_0A (p n : Int) (T : Nat → Nat → Nat → Nat) (f : Nat → Nat) (w : World) (hT : ∀ i j k, T i j k ≤ 255) (hf : ∀ i, f i ≤ 255) (hc : ¬ CodeP p n T f 0 (vAtL [])) :
    CallsR Try.prog 32 #[.agg (algC p n T f), .slice none 0 0] w (fun res _ => res = .int .i64 1) := by
  refine calls_fr [.agg (algC p n T f), .slice none 0 0] Try.func32 rfl Try.ntmps32 rfl fun a hF => ?_
  have hM : Mem w w [none] [] := MemX.start w 1
  change Fr 12 a [(0, .agg (algC p n T f)), (1, .slice none 0 0)] at hF
  refine sq ?_
  refine wp_region_lit ?_
  refine stR hF (d_box 0 hM hF rfl) rfl ?_
  rintro _ w' a ⟨b1, rfl, hM, -⟩ hF
  change Mem w w' [some (b1, algC p n T f)] [] at hM
  refine st hF (g_assign hF rfl) rfl fun a hF => ?_
  refine wpList_nil ?_
  refine tN ?_
  refine sq ?_
  refine sq ?_
  refine wp_region_lit ?_
  refine st hF (g_loadAgg ty_ag_32 hF rfl (hM.row 0 rfl) (by simp only [fnC_size, cells_size, vecC_size, tabC_size, planeC_size] <;> omega) (whole cells_size)) rfl fun a hF => st hF (g_move hF rfl) rfl fun a hF => ?_
  refine stR hF (d_call Try.call38 hF (.cons rfl (.cons rfl .nil)) ((CallsR.val (areVectors_0 p n T f (vAtL []) _ (fun _ _ _ => hT _ _ _) (fun _ => hf _)) (congrArg Value.bool (decide_eq_false hc))))) rfl ?_
  rintro _ w' a ⟨hx, rfl⟩ hF
  have hM := hM.ext hx
  refine st hF (g_not hF rfl) rfl fun a hF => ?_
  refine wpList_nil ?_
  refine tN ?_
  refine c_T hF rfl ?_
  refine sq ?_
  refine wp_region_lit ?_
  refine st hF (g_assign hF rfl) rfl fun a hF => ?_
  refine wpList_nil ?_
  refine tN ?_
  refine wp_ret ?_
  refine tR ?_
  refine fin1 rfl hF.defers (res_tmp hF rfl) ⟨_, rfl, hM.below, ?_⟩
  show _ = _
  rfl

theorem frobeniusFault_okF (p n : Nat) (T : Nat → Nat → Nat → Nat) (f : Nat → Nat) (b c m : Nat) (V : Nat → Nat → Nat) (w : World) (hp : primeN p) (hn0 : 0 < n) (hn : n ≤ 6) (hTp : ∀ i j k, T i j k < p) (hf : ∀ i, f i ≤ 255) (hV : ∀ i c, V i c ≤ 255) (hm : m < 1000) (hb : Blk w b (vecsC m V)) (hfr : ¬ FrobN p n T f) (hc : CodeP (p : Int) (n : Int) T f m V) :
    CallsR Try.prog 32 #[.agg (algC (p : Int) (n : Int) T f), .slice (some ⟨b, 0, none⟩) (m) (c)] w (fun res _ => res = .int .i64 5) := by
  refine calls_fr [.agg (algC (p : Int) (n : Int) T f), .slice (some ⟨b, 0, none⟩) (m) (c)] Try.func32 rfl Try.ntmps32 rfl fun a hF => ?_
  have hM : Mem w w [none] [(b, vecsC m V)] := MemX.startD w 1 _ (startD1 hb)
  change Fr 12 a [(0, .agg (algC (p : Int) (n : Int) T f)), (1, .slice (some ⟨b, 0, none⟩) (m) (c))] at hF
  have hp2 := hp.two
  have hp13 := hp.le
  have hT : ∀ i j k, T i j k ≤ 255 := fun i j k => by have := hTp i j k; omega
  refine sq ?_
  refine wp_region_lit ?_
  refine stR hF (d_box 0 hM hF rfl) rfl ?_
  rintro _ w' a ⟨b1, rfl, hM, -⟩ hF
  change Mem w w' [some (b1, algC (p : Int) (n : Int) T f)] [(b, vecsC m V)] at hM
  refine st hF (g_assign hF rfl) rfl fun a hF => ?_
  refine wpList_nil ?_
  refine tN ?_
  refine sq ?_
  refine sq ?_
  refine wp_region_lit ?_
  refine st hF (g_loadAgg ty_ag_32 hF rfl (hM.row 0 rfl) (by simp only [fnC_size, cells_size, vecC_size, tabC_size, planeC_size] <;> omega) (whole cells_size)) rfl fun a hF => st hF (g_move hF rfl) rfl fun a hF => ?_
  refine stR hF (d_call Try.call38 hF (.cons rfl (.cons rfl .nil)) ((CallsR.val (areVectors_ok (p : Int) (n : Int) T f b c m V _ (fun _ _ _ => hT _ _ _) (fun _ => hf _) hV hm (hM.fzm (List.mem_cons_self ..))) (congrArg Value.bool (decide_eq_true hc))))) rfl ?_
  rintro _ w' a ⟨hx, rfl⟩ hF
  have hM := hM.ext hx
  refine st hF (g_not hF rfl) rfl fun a hF => ?_
  refine wpList_nil ?_
  refine tN ?_
  refine c_Fl hF rfl ?_
  refine wp_skip ?_
  refine tN ?_
  refine sq ?_
  refine sq ?_
  refine wp_region_lit ?_
  refine st hF (g_loadAgg ty_ag_32 hF rfl (hM.row 0 rfl) (by simp only [fnC_size, cells_size, vecC_size, tabC_size, planeC_size] <;> omega) (whole cells_size)) rfl fun a hF => ?_
  refine stR hF (d_call Try.call39 hF (.cons rfl .nil) ((CallsR.val (hasFullForm_ok p n T f _ hp hn0 hn (fun _ _ _ => hT _ _ _) (fun _ => hf _)) (congrArg Value.bool (decide_eq_false hfr))))) rfl ?_
  rintro _ w' a ⟨hx, rfl⟩ hF
  have hM := hM.ext hx
  refine st hF (g_not hF rfl) rfl fun a hF => ?_
  refine wpList_nil ?_
  refine tN ?_
  refine c_T hF rfl ?_
  refine sq ?_
  refine wp_region_lit ?_
  refine st hF (g_assign hF rfl) rfl fun a hF => ?_
  refine wpList_nil ?_
  refine tN ?_
  refine wp_ret ?_
  refine tR ?_
  refine fin1 rfl hF.defers (res_tmp hF rfl) ⟨_, rfl, hM.below, ?_⟩
  show _ = _
  rfl

theorem frobeniusFault_0F (p n : Nat) (T : Nat → Nat → Nat → Nat) (f : Nat → Nat) (w : World) (hp : primeN p) (hn0 : 0 < n) (hn : n ≤ 6) (hTp : ∀ i j k, T i j k < p) (hf : ∀ i, f i ≤ 255) (hfr : ¬ FrobN p n T f) (hc : CodeP (p : Int) (n : Int) T f 0 (vAtL [])) :
    CallsR Try.prog 32 #[.agg (algC (p : Int) (n : Int) T f), .slice none 0 0] w (fun res _ => res = .int .i64 5) := by
  refine calls_fr [.agg (algC (p : Int) (n : Int) T f), .slice none 0 0] Try.func32 rfl Try.ntmps32 rfl fun a hF => ?_
  have hM : Mem w w [none] [] := MemX.start w 1
  change Fr 12 a [(0, .agg (algC (p : Int) (n : Int) T f)), (1, .slice none 0 0)] at hF
  have hp2 := hp.two
  have hp13 := hp.le
  have hT : ∀ i j k, T i j k ≤ 255 := fun i j k => by have := hTp i j k; omega
  refine sq ?_
  refine wp_region_lit ?_
  refine stR hF (d_box 0 hM hF rfl) rfl ?_
  rintro _ w' a ⟨b1, rfl, hM, -⟩ hF
  change Mem w w' [some (b1, algC (p : Int) (n : Int) T f)] [] at hM
  refine st hF (g_assign hF rfl) rfl fun a hF => ?_
  refine wpList_nil ?_
  refine tN ?_
  refine sq ?_
  refine sq ?_
  refine wp_region_lit ?_
  refine st hF (g_loadAgg ty_ag_32 hF rfl (hM.row 0 rfl) (by simp only [fnC_size, cells_size, vecC_size, tabC_size, planeC_size] <;> omega) (whole cells_size)) rfl fun a hF => st hF (g_move hF rfl) rfl fun a hF => ?_
  refine stR hF (d_call Try.call38 hF (.cons rfl (.cons rfl .nil)) ((CallsR.val (areVectors_0 (p : Int) (n : Int) T f (vAtL []) _ (fun _ _ _ => hT _ _ _) (fun _ => hf _)) (congrArg Value.bool (decide_eq_true hc))))) rfl ?_
  rintro _ w' a ⟨hx, rfl⟩ hF
  have hM := hM.ext hx
  refine st hF (g_not hF rfl) rfl fun a hF => ?_
  refine wpList_nil ?_
  refine tN ?_
  refine c_Fl hF rfl ?_
  refine wp_skip ?_
  refine tN ?_
  refine sq ?_
  refine sq ?_
  refine wp_region_lit ?_
  refine st hF (g_loadAgg ty_ag_32 hF rfl (hM.row 0 rfl) (by simp only [fnC_size, cells_size, vecC_size, tabC_size, planeC_size] <;> omega) (whole cells_size)) rfl fun a hF => ?_
  refine stR hF (d_call Try.call39 hF (.cons rfl .nil) ((CallsR.val (hasFullForm_ok p n T f _ hp hn0 hn (fun _ _ _ => hT _ _ _) (fun _ => hf _)) (congrArg Value.bool (decide_eq_false hfr))))) rfl ?_
  rintro _ w' a ⟨hx, rfl⟩ hF
  have hM := hM.ext hx
  refine st hF (g_not hF rfl) rfl fun a hF => ?_
  refine wpList_nil ?_
  refine tN ?_
  refine c_T hF rfl ?_
  refine sq ?_
  refine wp_region_lit ?_
  refine st hF (g_assign hF rfl) rfl fun a hF => ?_
  refine wpList_nil ?_
  refine tN ?_
  refine wp_ret ?_
  refine tR ?_
  refine fin1 rfl hF.defers (res_tmp hF rfl) ⟨_, rfl, hM.below, ?_⟩
  show _ = _
  rfl

theorem frobeniusFault_okY (p n : Nat) (T : Nat → Nat → Nat → Nat) (f : Nat → Nat) (b c m : Nat) (V : Nat → Nat → Nat) (w : World) (hp : primeN p) (hn0 : 0 < n) (hn : n ≤ 6) (hTp : ∀ i j k, T i j k < p) (hf : ∀ i, f i ≤ 255) (hV : ∀ i c, V i c ≤ 255) (hm : m < 1000) (hb : Blk w b (vecsC m V)) (hfr : FrobN p n T f) (hc : CodeP (p : Int) (n : Int) T f m V) :
    CallsR Try.prog 32 #[.agg (algC (p : Int) (n : Int) T f), .slice (some ⟨b, 0, none⟩) (m) (c)] w (fun res _ => res = .int .i64 0) := by
  refine calls_fr [.agg (algC (p : Int) (n : Int) T f), .slice (some ⟨b, 0, none⟩) (m) (c)] Try.func32 rfl Try.ntmps32 rfl fun a hF => ?_
  have hM : Mem w w [none] [(b, vecsC m V)] := MemX.startD w 1 _ (startD1 hb)
  change Fr 12 a [(0, .agg (algC (p : Int) (n : Int) T f)), (1, .slice (some ⟨b, 0, none⟩) (m) (c))] at hF
  have hp2 := hp.two
  have hp13 := hp.le
  have hT : ∀ i j k, T i j k ≤ 255 := fun i j k => by have := hTp i j k; omega
  refine sq ?_
  refine wp_region_lit ?_
  refine stR hF (d_box 0 hM hF rfl) rfl ?_
  rintro _ w' a ⟨b1, rfl, hM, -⟩ hF
  change Mem w w' [some (b1, algC (p : Int) (n : Int) T f)] [(b, vecsC m V)] at hM
  refine st hF (g_assign hF rfl) rfl fun a hF => ?_
  refine wpList_nil ?_
  refine tN ?_
  refine sq ?_
  refine sq ?_
  refine wp_region_lit ?_
  refine st hF (g_loadAgg ty_ag_32 hF rfl (hM.row 0 rfl) (by simp only [fnC_size, cells_size, vecC_size, tabC_size, planeC_size] <;> omega) (whole cells_size)) rfl fun a hF => st hF (g_move hF rfl) rfl fun a hF => ?_
  refine stR hF (d_call Try.call38 hF (.cons rfl (.cons rfl .nil)) ((CallsR.val (areVectors_ok (p : Int) (n : Int) T f b c m V _ (fun _ _ _ => hT _ _ _) (fun _ => hf _) hV hm (hM.fzm (List.mem_cons_self ..))) (congrArg Value.bool (decide_eq_true hc))))) rfl ?_
  rintro _ w' a ⟨hx, rfl⟩ hF
  have hM := hM.ext hx
  refine st hF (g_not hF rfl) rfl fun a hF => ?_
  refine wpList_nil ?_
  refine tN ?_
  refine c_Fl hF rfl ?_
  refine wp_skip ?_
  refine tN ?_
  refine sq ?_
  refine sq ?_
  refine wp_region_lit ?_
  refine st hF (g_loadAgg ty_ag_32 hF rfl (hM.row 0 rfl) (by simp only [fnC_size, cells_size, vecC_size, tabC_size, planeC_size] <;> omega) (whole cells_size)) rfl fun a hF => ?_
  refine stR hF (d_call Try.call39 hF (.cons rfl .nil) ((CallsR.val (hasFullForm_ok p n T f _ hp hn0 hn (fun _ _ _ => hT _ _ _) (fun _ => hf _)) (congrArg Value.bool (decide_eq_true hfr))))) rfl ?_
  rintro _ w' a ⟨hx, rfl⟩ hF
  have hM := hM.ext hx
  refine st hF (g_not hF rfl) rfl fun a hF => ?_
  refine wpList_nil ?_
  refine tN ?_
  refine c_Fl hF rfl ?_
  refine wp_skip ?_
  refine tN ?_
  refine sq ?_
  refine wp_region_lit ?_
  refine st hF (g_assign hF rfl) rfl fun a hF => ?_
  refine wpList_nil ?_
  refine tN ?_
  refine wp_ret ?_
  refine fin1 rfl hF.defers (res_tmp hF rfl) ⟨_, rfl, hM.below, ?_⟩
  show _ = _
  rfl

theorem frobeniusFault_0Y (p n : Nat) (T : Nat → Nat → Nat → Nat) (f : Nat → Nat) (w : World) (hp : primeN p) (hn0 : 0 < n) (hn : n ≤ 6) (hTp : ∀ i j k, T i j k < p) (hf : ∀ i, f i ≤ 255) (hfr : FrobN p n T f) (hc : CodeP (p : Int) (n : Int) T f 0 (vAtL [])) :
    CallsR Try.prog 32 #[.agg (algC (p : Int) (n : Int) T f), .slice none 0 0] w (fun res _ => res = .int .i64 0) := by
  refine calls_fr [.agg (algC (p : Int) (n : Int) T f), .slice none 0 0] Try.func32 rfl Try.ntmps32 rfl fun a hF => ?_
  have hM : Mem w w [none] [] := MemX.start w 1
  change Fr 12 a [(0, .agg (algC (p : Int) (n : Int) T f)), (1, .slice none 0 0)] at hF
  have hp2 := hp.two
  have hp13 := hp.le
  have hT : ∀ i j k, T i j k ≤ 255 := fun i j k => by have := hTp i j k; omega
  refine sq ?_
  refine wp_region_lit ?_
  refine stR hF (d_box 0 hM hF rfl) rfl ?_
  rintro _ w' a ⟨b1, rfl, hM, -⟩ hF
  change Mem w w' [some (b1, algC (p : Int) (n : Int) T f)] [] at hM
  refine st hF (g_assign hF rfl) rfl fun a hF => ?_
  refine wpList_nil ?_
  refine tN ?_
  refine sq ?_
  refine sq ?_
  refine wp_region_lit ?_
  refine st hF (g_loadAgg ty_ag_32 hF rfl (hM.row 0 rfl) (by simp only [fnC_size, cells_size, vecC_size, tabC_size, planeC_size] <;> omega) (whole cells_size)) rfl fun a hF => st hF (g_move hF rfl) rfl fun a hF => ?_
  refine stR hF (d_call Try.call38 hF (.cons rfl (.cons rfl .nil)) ((CallsR.val (areVectors_0 (p : Int) (n : Int) T f (vAtL []) _ (fun _ _ _ => hT _ _ _) (fun _ => hf _)) (congrArg Value.bool (decide_eq_true hc))))) rfl ?_
  rintro _ w' a ⟨hx, rfl⟩ hF
  have hM := hM.ext hx
  refine st hF (g_not hF rfl) rfl fun a hF => ?_
  refine wpList_nil ?_
  refine tN ?_
  refine c_Fl hF rfl ?_
  refine wp_skip ?_
  refine tN ?_
  refine sq ?_
  refine sq ?_
  refine wp_region_lit ?_
  refine st hF (g_loadAgg ty_ag_32 hF rfl (hM.row 0 rfl) (by simp only [fnC_size, cells_size, vecC_size, tabC_size, planeC_size] <;> omega) (whole cells_size)) rfl fun a hF => ?_
  refine stR hF (d_call Try.call39 hF (.cons rfl .nil) ((CallsR.val (hasFullForm_ok p n T f _ hp hn0 hn (fun _ _ _ => hT _ _ _) (fun _ => hf _)) (congrArg Value.bool (decide_eq_true hfr))))) rfl ?_
  rintro _ w' a ⟨hx, rfl⟩ hF
  have hM := hM.ext hx
  refine st hF (g_not hF rfl) rfl fun a hF => ?_
  refine wpList_nil ?_
  refine tN ?_
  refine c_Fl hF rfl ?_
  refine wp_skip ?_
  refine tN ?_
  refine sq ?_
  refine wp_region_lit ?_
  refine st hF (g_assign hF rfl) rfl fun a hF => ?_
  refine wpList_nil ?_
  refine tN ?_
  refine wp_ret ?_
  refine fin1 rfl hF.defers (res_tmp hF rfl) ⟨_, rfl, hM.below, ?_⟩
  show _ = _
  rfl

theorem l02Code_okA (p n : Int) (T : Nat → Nat → Nat → Nat) (f : Nat → Nat) (b c m : Nat) (V : Nat → Nat → Nat) (w : World) (hT : ∀ i j k, T i j k ≤ 255) (hf : ∀ i, f i ≤ 255) (hV : ∀ i c, V i c ≤ 255) (hm : m < 1000) (hb : Blk w b (vecsC m V)) (hc : ¬ CodeP p n T f m V) :
    CallsR Try.prog 27 #[.agg (algC p n T f), .slice (some ⟨b, 0, none⟩) (m) (c)] w (fun res _ => res = .int .i64 1) := by
  refine calls_fr [.agg (algC p n T f), .slice (some ⟨b, 0, none⟩) (m) (c)] Try.func27 rfl Try.ntmps27 rfl fun a hF => ?_
  have hM : Mem w w [none] [(b, vecsC m V)] := MemX.startD w 1 _ (startD1 hb)
  change Fr 14 a [(0, .agg (algC p n T f)), (1, .slice (some ⟨b, 0, none⟩) (m) (c))] at hF
  refine sq ?_
  refine wp_region_lit ?_
  refine stR hF (d_box 0 hM hF rfl) rfl ?_
  rintro _ w' a ⟨b1, rfl, hM, -⟩ hF
  change Mem w w' [some (b1, algC p n T f)] [(b, vecsC m V)] at hM
  refine st hF (g_assign hF rfl) rfl fun a hF => ?_
  refine wpList_nil ?_
  refine tN ?_
  refine sq ?_
  refine wp_block ?_
  refine sq ?_
  refine wp_region_lit ?_
  refine st hF (g_loadAgg ty_ag_32 hF rfl (hM.row 0 rfl) (by simp only [fnC_size, cells_size, vecC_size, tabC_size, planeC_size] <;> omega) (whole cells_size)) rfl fun a hF => st hF (g_move hF rfl) rfl fun a hF => ?_
  refine stR hF (d_call Try.call45 hF (.cons rfl (.cons rfl .nil)) ((CallsR.val (l01Code_ok p n T f b c m V _ (fun _ _ _ => hT _ _ _) (fun _ => hf _) hV hm (hM.fzm (List.mem_cons_self ..))) (congrArg (Value.int .i64) (if_neg hc))))) rfl ?_
  rintro _ w' a ⟨hx, rfl⟩ hF
  have hM := hM.ext hx
  refine st hF (g_neq hF rfl rfl) rfl fun a hF => st hF (g_assign hF rfl) rfl fun a hF => ?_
  refine wpList_nil ?_
  refine tN ?_
  refine c_kT hF rfl (by decide) ?_
  refine sq ?_
  refine wp_region_lit ?_
  refine st hF (g_assign hF rfl) rfl fun a hF => ?_
  refine wpList_nil ?_
  refine tN ?_
  refine wp_ret ?_
  refine iR ?_
  refine tR ?_
  refine fin1 rfl hF.defers (res_tmp hF rfl) ⟨_, rfl, hM.below, ?_⟩
  show _ = _
  rfl

theorem l02Code_0A (p n : Int) (T : Nat → Nat → Nat → Nat) (f : Nat → Nat) (w : World) (hT : ∀ i j k, T i j k ≤ 255) (hf : ∀ i, f i ≤ 255) (hc : ¬ CodeP p n T f 0 (vAtL [])) :
    CallsR Try.prog 27 #[.agg (algC p n T f), .slice none 0 0] w (fun res _ => res = .int .i64 1) := by
  refine calls_fr [.agg (algC p n T f), .slice none 0 0] Try.func27 rfl Try.ntmps27 rfl fun a hF => ?_
  have hM : Mem w w [none] [] := MemX.start w 1
  change Fr 14 a [(0, .agg (algC p n T f)), (1, .slice none 0 0)] at hF
  refine sq ?_
  refine wp_region_lit ?_
  refine stR hF (d_box 0 hM hF rfl) rfl ?_
  rintro _ w' a ⟨b1, rfl, hM, -⟩ hF
  change Mem w w' [some (b1, algC p n T f)] [] at hM
  refine st hF (g_assign hF rfl) rfl fun a hF => ?_
  refine wpList_nil ?_
  refine tN ?_
  refine sq ?_
  refine wp_block ?_
  refine sq ?_
  refine wp_region_lit ?_
  refine st hF (g_loadAgg ty_ag_32 hF rfl (hM.row 0 rfl) (by simp only [fnC_size, cells_size, vecC_size, tabC_size, planeC_size] <;> omega) (whole cells_size)) rfl fun a hF => st hF (g_move hF rfl) rfl fun a hF => ?_
  refine stR hF (d_call Try.call45 hF (.cons rfl (.cons rfl .nil)) ((CallsR.val (l01Code_0 p n T f (vAtL []) _ (fun _ _ _ => hT _ _ _) (fun _ => hf _)) (congrArg (Value.int .i64) (if_neg hc))))) rfl ?_
  rintro _ w' a ⟨hx, rfl⟩ hF
  have hM := hM.ext hx
  refine st hF (g_neq hF rfl rfl) rfl fun a hF => st hF (g_assign hF rfl) rfl fun a hF => ?_
  refine wpList_nil ?_
  refine tN ?_
  refine c_kT hF rfl (by decide) ?_
  refine sq ?_
  refine wp_region_lit ?_
  refine st hF (g_assign hF rfl) rfl fun a hF => ?_
  refine wpList_nil ?_
  refine tN ?_
  refine wp_ret ?_
  refine iR ?_
  refine tR ?_
  refine fin1 rfl hF.defers (res_tmp hF rfl) ⟨_, rfl, hM.below, ?_⟩
  show _ = _
  rfl

theorem l02Code_okF (p n : Nat) (T : Nat → Nat → Nat → Nat) (f : Nat → Nat) (b c m : Nat) (V : Nat → Nat → Nat) (w : World) (hp : primeN p) (hn0 : 0 < n) (hn : n ≤ 6) (hTp : ∀ i j k, T i j k < p) (hf : ∀ i, f i ≤ 255) (hV : ∀ i c, V i c ≤ 255) (hm : m < 1000) (hb : Blk w b (vecsC m V)) (hfr : ¬ FrobN p n T f) (hc : CodeP (p : Int) (n : Int) T f m V) :
    CallsR Try.prog 27 #[.agg (algC (p : Int) (n : Int) T f), .slice (some ⟨b, 0, none⟩) (m) (c)] w (fun res _ => res = .int .i64 5) := by
  refine calls_fr [.agg (algC (p : Int) (n : Int) T f), .slice (some ⟨b, 0, none⟩) (m) (c)] Try.func27 rfl Try.ntmps27 rfl fun a hF => ?_
  have hM : Mem w w [none] [(b, vecsC m V)] := MemX.startD w 1 _ (startD1 hb)
  change Fr 14 a [(0, .agg (algC (p : Int) (n : Int) T f)), (1, .slice (some ⟨b, 0, none⟩) (m) (c))] at hF
  have hp2 := hp.two
  have hp13 := hp.le
  have hT : ∀ i j k, T i j k ≤ 255 := fun i j k => by have := hTp i j k; omega
  refine sq ?_
  refine wp_region_lit ?_
  refine stR hF (d_box 0 hM hF rfl) rfl ?_
  rintro _ w' a ⟨b1, rfl, hM, -⟩ hF
  change Mem w w' [some (b1, algC (p : Int) (n : Int) T f)] [(b, vecsC m V)] at hM
  refine st hF (g_assign hF rfl) rfl fun a hF => ?_
  refine wpList_nil ?_
  refine tN ?_
  refine sq ?_
  refine wp_block ?_
  refine sq ?_
  refine wp_region_lit ?_
  refine st hF (g_loadAgg ty_ag_32 hF rfl (hM.row 0 rfl) (by simp only [fnC_size, cells_size, vecC_size, tabC_size, planeC_size] <;> omega) (whole cells_size)) rfl fun a hF => st hF (g_move hF rfl) rfl fun a hF => ?_
  refine stR hF (d_call Try.call45 hF (.cons rfl (.cons rfl .nil)) ((CallsR.val (l01Code_ok (p : Int) (n : Int) T f b c m V _ (fun _ _ _ => hT _ _ _) (fun _ => hf _) hV hm (hM.fzm (List.mem_cons_self ..))) (congrArg (Value.int .i64) (if_pos hc))))) rfl ?_
  rintro _ w' a ⟨hx, rfl⟩ hF
  have hM := hM.ext hx
  refine st hF (g_neq hF rfl rfl) rfl fun a hF => st hF (g_assign hF rfl) rfl fun a hF => ?_
  refine wpList_nil ?_
  refine tN ?_
  refine c_kF hF rfl (by decide) ?_
  refine sq ?_
  refine wp_region_lit ?_
  refine st hF (g_loadAgg ty_ag_32 hF rfl (hM.row 0 rfl) (by simp only [fnC_size, cells_size, vecC_size, tabC_size, planeC_size] <;> omega) (whole cells_size)) rfl fun a hF => ?_
  refine stR hF (d_call Try.call50 hF (.cons rfl .nil) ((CallsR.val (l01Frobenius_ok p n T f _ hp hn0 hn (fun _ _ _ => hT _ _ _) (fun _ => hf _)) (congrArg Value.bool (decide_eq_false hfr))))) rfl ?_
  rintro _ w' a ⟨hx, rfl⟩ hF
  have hM := hM.ext hx
  refine st hF (g_not hF rfl) rfl fun a hF => st hF (g_assign hF rfl) rfl fun a hF => ?_
  refine wpList_nil ?_
  refine tN ?_
  refine c_T hF rfl ?_
  refine sq ?_
  refine wp_region_lit ?_
  refine st hF (g_assign hF rfl) rfl fun a hF => ?_
  refine wpList_nil ?_
  refine tN ?_
  refine wp_ret ?_
  refine iR ?_
  refine tR ?_
  refine fin1 rfl hF.defers (res_tmp hF rfl) ⟨_, rfl, hM.below, ?_⟩
  show _ = _
  rfl

theorem l02Code_0F (p n : Nat) (T : Nat → Nat → Nat → Nat) (f : Nat → Nat) (w : World) (hp : primeN p) (hn0 : 0 < n) (hn : n ≤ 6) (hTp : ∀ i j k, T i j k < p) (hf : ∀ i, f i ≤ 255) (hfr : ¬ FrobN p n T f) (hc : CodeP (p : Int) (n : Int) T f 0 (vAtL [])) :
    CallsR Try.prog 27 #[.agg (algC (p : Int) (n : Int) T f), .slice none 0 0] w (fun res _ => res = .int .i64 5) := by
  refine calls_fr [.agg (algC (p : Int) (n : Int) T f), .slice none 0 0] Try.func27 rfl Try.ntmps27 rfl fun a hF => ?_
  have hM : Mem w w [none] [] := MemX.start w 1
  change Fr 14 a [(0, .agg (algC (p : Int) (n : Int) T f)), (1, .slice none 0 0)] at hF
  have hp2 := hp.two
  have hp13 := hp.le
  have hT : ∀ i j k, T i j k ≤ 255 := fun i j k => by have := hTp i j k; omega
  refine sq ?_
  refine wp_region_lit ?_
  refine stR hF (d_box 0 hM hF rfl) rfl ?_
  rintro _ w' a ⟨b1, rfl, hM, -⟩ hF
  change Mem w w' [some (b1, algC (p : Int) (n : Int) T f)] [] at hM
  refine st hF (g_assign hF rfl) rfl fun a hF => ?_
  refine wpList_nil ?_
  refine tN ?_
  refine sq ?_
  refine wp_block ?_
  refine sq ?_
  refine wp_region_lit ?_
  refine st hF (g_loadAgg ty_ag_32 hF rfl (hM.row 0 rfl) (by simp only [fnC_size, cells_size, vecC_size, tabC_size, planeC_size] <;> omega) (whole cells_size)) rfl fun a hF => st hF (g_move hF rfl) rfl fun a hF => ?_
  refine stR hF (d_call Try.call45 hF (.cons rfl (.cons rfl .nil)) ((CallsR.val (l01Code_0 (p : Int) (n : Int) T f (vAtL []) _ (fun _ _ _ => hT _ _ _) (fun _ => hf _)) (congrArg (Value.int .i64) (if_pos hc))))) rfl ?_
  rintro _ w' a ⟨hx, rfl⟩ hF
  have hM := hM.ext hx
  refine st hF (g_neq hF rfl rfl) rfl fun a hF => st hF (g_assign hF rfl) rfl fun a hF => ?_
  refine wpList_nil ?_
  refine tN ?_
  refine c_kF hF rfl (by decide) ?_
  refine sq ?_
  refine wp_region_lit ?_
  refine st hF (g_loadAgg ty_ag_32 hF rfl (hM.row 0 rfl) (by simp only [fnC_size, cells_size, vecC_size, tabC_size, planeC_size] <;> omega) (whole cells_size)) rfl fun a hF => ?_
  refine stR hF (d_call Try.call50 hF (.cons rfl .nil) ((CallsR.val (l01Frobenius_ok p n T f _ hp hn0 hn (fun _ _ _ => hT _ _ _) (fun _ => hf _)) (congrArg Value.bool (decide_eq_false hfr))))) rfl ?_
  rintro _ w' a ⟨hx, rfl⟩ hF
  have hM := hM.ext hx
  refine st hF (g_not hF rfl) rfl fun a hF => st hF (g_assign hF rfl) rfl fun a hF => ?_
  refine wpList_nil ?_
  refine tN ?_
  refine c_T hF rfl ?_
  refine sq ?_
  refine wp_region_lit ?_
  refine st hF (g_assign hF rfl) rfl fun a hF => ?_
  refine wpList_nil ?_
  refine tN ?_
  refine wp_ret ?_
  refine iR ?_
  refine tR ?_
  refine fin1 rfl hF.defers (res_tmp hF rfl) ⟨_, rfl, hM.below, ?_⟩
  show _ = _
  rfl

theorem l02Code_okY (p n : Nat) (T : Nat → Nat → Nat → Nat) (f : Nat → Nat) (b c m : Nat) (V : Nat → Nat → Nat) (w : World) (hp : primeN p) (hn0 : 0 < n) (hn : n ≤ 6) (hTp : ∀ i j k, T i j k < p) (hf : ∀ i, f i ≤ 255) (hV : ∀ i c, V i c ≤ 255) (hm : m < 1000) (hb : Blk w b (vecsC m V)) (hfr : FrobN p n T f) (hc : CodeP (p : Int) (n : Int) T f m V) :
    CallsR Try.prog 27 #[.agg (algC (p : Int) (n : Int) T f), .slice (some ⟨b, 0, none⟩) (m) (c)] w (fun res _ => res = .int .i64 0) := by
  refine calls_fr [.agg (algC (p : Int) (n : Int) T f), .slice (some ⟨b, 0, none⟩) (m) (c)] Try.func27 rfl Try.ntmps27 rfl fun a hF => ?_
  have hM : Mem w w [none] [(b, vecsC m V)] := MemX.startD w 1 _ (startD1 hb)
  change Fr 14 a [(0, .agg (algC (p : Int) (n : Int) T f)), (1, .slice (some ⟨b, 0, none⟩) (m) (c))] at hF
  have hp2 := hp.two
  have hp13 := hp.le
  have hT : ∀ i j k, T i j k ≤ 255 := fun i j k => by have := hTp i j k; omega
  refine sq ?_
  refine wp_region_lit ?_
  refine stR hF (d_box 0 hM hF rfl) rfl ?_
  rintro _ w' a ⟨b1, rfl, hM, -⟩ hF
  change Mem w w' [some (b1, algC (p : Int) (n : Int) T f)] [(b, vecsC m V)] at hM
  refine st hF (g_assign hF rfl) rfl fun a hF => ?_
  refine wpList_nil ?_
  refine tN ?_
  refine sq ?_
  refine wp_block ?_
  refine sq ?_
  refine wp_region_lit ?_
  refine st hF (g_loadAgg ty_ag_32 hF rfl (hM.row 0 rfl) (by simp only [fnC_size, cells_size, vecC_size, tabC_size, planeC_size] <;> omega) (whole cells_size)) rfl fun a hF => st hF (g_move hF rfl) rfl fun a hF => ?_
  refine stR hF (d_call Try.call45 hF (.cons rfl (.cons rfl .nil)) ((CallsR.val (l01Code_ok (p : Int) (n : Int) T f b c m V _ (fun _ _ _ => hT _ _ _) (fun _ => hf _) hV hm (hM.fzm (List.mem_cons_self ..))) (congrArg (Value.int .i64) (if_pos hc))))) rfl ?_
  rintro _ w' a ⟨hx, rfl⟩ hF
  have hM := hM.ext hx
  refine st hF (g_neq hF rfl rfl) rfl fun a hF => st hF (g_assign hF rfl) rfl fun a hF => ?_
  refine wpList_nil ?_
  refine tN ?_
  refine c_kF hF rfl (by decide) ?_
  refine sq ?_
  refine wp_region_lit ?_
  refine st hF (g_loadAgg ty_ag_32 hF rfl (hM.row 0 rfl) (by simp only [fnC_size, cells_size, vecC_size, tabC_size, planeC_size] <;> omega) (whole cells_size)) rfl fun a hF => ?_
  refine stR hF (d_call Try.call50 hF (.cons rfl .nil) ((CallsR.val (l01Frobenius_ok p n T f _ hp hn0 hn (fun _ _ _ => hT _ _ _) (fun _ => hf _)) (congrArg Value.bool (decide_eq_true hfr))))) rfl ?_
  rintro _ w' a ⟨hx, rfl⟩ hF
  have hM := hM.ext hx
  refine st hF (g_not hF rfl) rfl fun a hF => st hF (g_assign hF rfl) rfl fun a hF => ?_
  refine wpList_nil ?_
  refine tN ?_
  refine c_Fl hF rfl ?_
  refine wp_skip ?_
  refine iN ?_
  refine tN ?_
  refine sq ?_
  refine wp_region_lit ?_
  refine st hF (g_assign hF rfl) rfl fun a hF => ?_
  refine wpList_nil ?_
  refine tN ?_
  refine wp_ret ?_
  refine fin1 rfl hF.defers (res_tmp hF rfl) ⟨_, rfl, hM.below, ?_⟩
  show _ = _
  rfl

theorem l02Code_0Y (p n : Nat) (T : Nat → Nat → Nat → Nat) (f : Nat → Nat) (w : World) (hp : primeN p) (hn0 : 0 < n) (hn : n ≤ 6) (hTp : ∀ i j k, T i j k < p) (hf : ∀ i, f i ≤ 255) (hfr : FrobN p n T f) (hc : CodeP (p : Int) (n : Int) T f 0 (vAtL [])) :
    CallsR Try.prog 27 #[.agg (algC (p : Int) (n : Int) T f), .slice none 0 0] w (fun res _ => res = .int .i64 0) := by
  refine calls_fr [.agg (algC (p : Int) (n : Int) T f), .slice none 0 0] Try.func27 rfl Try.ntmps27 rfl fun a hF => ?_
  have hM : Mem w w [none] [] := MemX.start w 1
  change Fr 14 a [(0, .agg (algC (p : Int) (n : Int) T f)), (1, .slice none 0 0)] at hF
  have hp2 := hp.two
  have hp13 := hp.le
  have hT : ∀ i j k, T i j k ≤ 255 := fun i j k => by have := hTp i j k; omega
  refine sq ?_
  refine wp_region_lit ?_
  refine stR hF (d_box 0 hM hF rfl) rfl ?_
  rintro _ w' a ⟨b1, rfl, hM, -⟩ hF
  change Mem w w' [some (b1, algC (p : Int) (n : Int) T f)] [] at hM
  refine st hF (g_assign hF rfl) rfl fun a hF => ?_
  refine wpList_nil ?_
  refine tN ?_
  refine sq ?_
  refine wp_block ?_
  refine sq ?_
  refine wp_region_lit ?_
  refine st hF (g_loadAgg ty_ag_32 hF rfl (hM.row 0 rfl) (by simp only [fnC_size, cells_size, vecC_size, tabC_size, planeC_size] <;> omega) (whole cells_size)) rfl fun a hF => st hF (g_move hF rfl) rfl fun a hF => ?_
  refine stR hF (d_call Try.call45 hF (.cons rfl (.cons rfl .nil)) ((CallsR.val (l01Code_0 (p : Int) (n : Int) T f (vAtL []) _ (fun _ _ _ => hT _ _ _) (fun _ => hf _)) (congrArg (Value.int .i64) (if_pos hc))))) rfl ?_
  rintro _ w' a ⟨hx, rfl⟩ hF
  have hM := hM.ext hx
  refine st hF (g_neq hF rfl rfl) rfl fun a hF => st hF (g_assign hF rfl) rfl fun a hF => ?_
  refine wpList_nil ?_
  refine tN ?_
  refine c_kF hF rfl (by decide) ?_
  refine sq ?_
  refine wp_region_lit ?_
  refine st hF (g_loadAgg ty_ag_32 hF rfl (hM.row 0 rfl) (by simp only [fnC_size, cells_size, vecC_size, tabC_size, planeC_size] <;> omega) (whole cells_size)) rfl fun a hF => ?_
  refine stR hF (d_call Try.call50 hF (.cons rfl .nil) ((CallsR.val (l01Frobenius_ok p n T f _ hp hn0 hn (fun _ _ _ => hT _ _ _) (fun _ => hf _)) (congrArg Value.bool (decide_eq_true hfr))))) rfl ?_
  rintro _ w' a ⟨hx, rfl⟩ hF
  have hM := hM.ext hx
  refine st hF (g_not hF rfl) rfl fun a hF => st hF (g_assign hF rfl) rfl fun a hF => ?_
  refine wpList_nil ?_
  refine tN ?_
  refine c_Fl hF rfl ?_
  refine wp_skip ?_
  refine iN ?_
  refine tN ?_
  refine sq ?_
  refine wp_region_lit ?_
  refine st hF (g_assign hF rfl) rfl fun a hF => ?_
  refine wpList_nil ?_
  refine tN ?_
  refine wp_ret ?_
  refine fin1 rfl hF.defers (res_tmp hF rfl) ⟨_, rfl, hM.below, ?_⟩
  show _ = _
  rfl


end Go.Proofs.Ytfbhngnfhpjonaa

namespace Go.Proofs.Ytfbhngnfhpjonaa
open Go Go.RowKit Go.Sw Go.Ech
open Classical
/-- The coproduct as the program has it: the rows times v. -/
def cpI (p n : Nat) (T : Nat → Nat → Nat → Nat) (G : Nat → Nat → Nat) (v : Nat → Nat) (i : Nat) : Nat → Nat := timesV p n T (G i) v
/-- The coproduct as the model has it, k terms of it. -/
def cpS (p n : Nat) (T : Nat → Nat → Nat → Nat) (G : Nat → Nat → Nat) (v : Nat → Nat) (k i l : Nat) : Nat := sumTo (fun k => G k l * timesS p n T v (fun c => if c = k then 1 else 0) i) k % p
theorem cpS_step {p n k i l : Nat} {T : Nat → Nat → Nat → Nat} {G : Nat → Nat → Nat} {v : Nat → Nat} : (cpS p n T G v k i l + G k l * timesS p n T v (fun c => if c = k then 1 else 0) i) % p = cpS p n T G v (k + 1) i l := by
  unfold cpS; simp only [sumTo]; rw [Nat.add_mod, Nat.mod_mod, ← Nat.add_mod]
theorem cpS_lt {p n k i l : Nat} {T : Nat → Nat → Nat → Nat} {G : Nat → Nat → Nat} {v : Nat → Nat} (hp : 0 < p) : cpS p n T G v k i l < p := Nat.mod_lt _ hp
theorem formM_dvd {p n a i : Nat} {T : Nat → Nat → Nat → Nat} {f : Nat → Nat} (hn : n ≤ 6) (hT0 : ∀ i j k, n ≤ k → T i j k = 0) (hi : i < n) : (p : Int) ∣ (formM p n T f a i : Int) - sI (fun d => (T a i d : Int) * (f d : Int)) n := by
  unfold formM; rw [if_pos hi]
  have e : ((sumTo (fun k => T a i k * f k) 6 : Nat) : Int) = sI (fun d => (T a i d : Int) * (f d : Int)) n := by
    rw [sumTo_sI, sI_cut hn (fun c h _ => by simp [hT0 a i c h])]
    exact sI_congr fun d _ => Int.natCast_mul _ _
  rw [← e, Int.natCast_emod]
  exact emod_dvd _ _
theorem cp_eq {p n i l : Nat} {T : Nat → Nat → Nat → Nat} {f v : Nat → Nat} {G : Nat → Nat → Nat} (hp : primeN p) (hn : n ≤ 6) (hT0 : ∀ i j k, n ≤ k → T i j k = 0) (ha : AssI p n T) (hf : FullK p n (formM p n T f)) (hG : IsCop p n (formM p n T f) G) (hi : i < n) (hl : l < n) : cpI p n T G v i l = cpS p n T G v n i l := by
  have hp2 := hp.two
  have k1 : ∀ i, i < n → ∀ j, j < n → (p : Int) ∣ sI (fun k => (formM p n T f i k : Int) * (G k j : Int)) n - (dl i j : Int) := hG.sol
  have k2 : ∀ i, i < n → ∀ j, j < n → (p : Int) ∣ sI (fun k => (G i k : Int) * (formM p n T f k j : Int)) n - (dl i j : Int) := hG.left hp2 hn (fun i c h => formM_out h) hf
  have k3 : ∀ a, a < n → ∀ b, b < n → (p : Int) ∣ sI (fun i => (formM p n T f a i : Int) * sI (fun c => (v c : Int) * (T c b i : Int)) n) n - sI (fun l => sI (fun c => (v c : Int) * (T a c l : Int)) n * (formM p n T f l b : Int)) n := fun a h1 b h2 =>
    form_two (F := fun a b => (formM p n T f a b : Int)) (f := f) ha (fun a _ i hi => formM_dvd hn hT0 hi) h1 h2
  have hs : (p : Int) ∣ sI (fun k => sI (fun c => (v c : Int) * (T c k i : Int)) n * (G k l : Int)) n - sI (fun a => (G i a : Int) * sI (fun c => (v c : Int) * (T a c l : Int)) n) n :=
    slide (F := fun a b => (formM p n T f a b : Int)) (G := fun a b => (G a b : Int)) (L := fun k i => sI (fun c => (v c : Int) * (T c k i : Int)) n) (R := fun a l => sI (fun c => (v c : Int) * (T a c l : Int)) n) k1 k2 k3 hi hl
  refine eq_of_dvd (p := p) (Nat.mod_lt _ (by omega)) (cpS_lt (by omega)) ?_
  have e1 : (p : Int) ∣ (cpI p n T G v i l : Int) - sI (fun a => (G i a : Int) * sI (fun c => (v c : Int) * (T a c l : Int)) n) n := by
    unfold cpI timesV
    have e : ((prodI T (G i) v n n l : Nat) : Int) = sI (fun a => (G i a : Int) * sI (fun c => (v c : Int) * (T a c l : Int)) n) n := by
      rw [prodI_Pr, Pr_left]
    rw [← e, Int.natCast_emod]; exact emod_dvd _ _
  have e2 : (p : Int) ∣ (cpS p n T G v n i l : Int) - sI (fun k => sI (fun c => (v c : Int) * (T c k i : Int)) n * (G k l : Int)) n := by
    unfold cpS
    have e3 : (p : Int) ∣ ((sumTo (fun k => G k l * timesS p n T v (fun c => if c = k then 1 else 0) i) n : Nat) : Int) - sI (fun k => sI (fun c => (v c : Int) * (T c k i : Int)) n * (G k l : Int)) n := by
      rw [sumTo_sI, sI_congr (g := fun k => ((timesS p n T v (fun c => if c = k then 1 else 0) i : Nat) : Int) * (G k l : Int)) (fun k _ => by rw [Int.natCast_mul, Int.mul_comm])]
      refine sI_modr fun k hk => ?_
      unfold timesS; rw [if_pos hi]; unfold timesV
      have e : ((prodI T v (fun c => if c = k then 1 else 0) n n i : Nat) : Int) = sI (fun c => (v c : Int) * (T c k i : Int)) n := by
        rw [prodI_Pr]; unfold Pr
        exact sI_congr fun c _ => by
          rw [sI_one hk (fun b _ hne => by simp [ci, hne])]; simp [ci]
      rw [← e, Int.natCast_emod]; exact emod_dvd _ _
    refine dvd_trans3 ?_ e3
    rw [Int.natCast_emod]; exact emod_dvd _ _
  exact dvd_trans3 e1 (dvd_trans3 (dvd_symm3 hs) (dvd_symm3 e2))
/-- A list of vectors, those before g written anew. -/
def cpC (Z n : Nat) (W G : Nat → Nat → Nat) (xs : Nat → Value) (g : Nat) : Array Value := fnC Z (fun c => if c < n * 6 then .int .u8 (((if c / 6 < g then W (c / 6) (c % 6) else G (c / 6) (c % 6) : Nat)) : Int) else xs c)
theorem cpC_size {Z n g : Nat} {W G : Nat → Nat → Nat} {xs : Nat → Value} : (cpC Z n W G xs g).size = Z := fnC_size _ _
theorem cpC_get {Z n g i : Nat} {W G : Nat → Nat → Nat} {xs : Nat → Value} (hZ : n * 6 ≤ Z) (hg : g ≤ i) (hi : i < n) : (cpC Z n W G xs g).extract (0 + i * 6) (0 + i * 6 + 6) = vecC (G i) :=
  extract_ext rfl (by rw [cpC_size]; omega) fun q hq => by
    unfold cpC; rw [fnC_get (by omega), if_pos (by omega), if_neg (by omega), show (0 + i * 6 + q) / 6 = i by omega, show (0 + i * 6 + q) % 6 = q by omega]
theorem cpC_put {Z n g o : Nat} {W G : Nat → Nat → Nat} {xs : Nat → Value} (hZ : n * 6 ≤ Z) (hg : g < n) (ho : o = g * 6) : splice (cpC Z n W G xs g) o (vecC (W g)) = cpC Z n W G xs (g + 1) := by
  subst ho
  have hs : (cpC Z n W G xs g).size = Z := cpC_size
  have hv : (vecC (W g)).size = 6 := vecC_size
  unfold cpC
  refine fnC_ext (by rw [splice_size _ _ _ (by rw [fnC_size, hv]; omega), fnC_size]) fun i hi => ?_
  rw [splice_get _ _ _ _ (by rw [fnC_size, hv]; omega), hv]
  by_cases e : g * 6 ≤ i ∧ i < g * 6 + 6
  · rw [if_pos e, if_pos (by omega), if_pos (by omega), vecC_get (i - g * 6) rfl (by omega), show i / 6 = g by omega, show i % 6 = i - g * 6 by omega]
  · rw [if_neg e, fnC_get hi]
    by_cases e2 : i < n * 6
    · rw [if_pos e2, if_pos e2]
      by_cases e3 : i / 6 < g
      · rw [if_pos e3, if_pos (by omega)]
      · rw [if_neg e3, if_neg (by omega)]
    · rw [if_neg e2, if_neg e2]
theorem cpC_start {n b cap : Nat} {u : Value} {e : Option (Nat × Array Value)} {cs : Array Value} {W G : Nat → Nat → Nat} (h : SlAt 6 u e n b cap cs (fun c => .int .u8 ((G (c / 6) (c % 6) : Nat) : Int))) : cs = cpC (cap * 6) n W G (fun c => cs[c]?.getD undef) 0 := by
  unfold cpC
  refine fnC_ext h.sz fun i hi => ?_
  by_cases e : i < n * 6
  · rw [if_pos e, if_neg (by omega)]; exact h.get i e
  · have : i < cs.size := by rw [h.sz]; exact hi
    rw [if_neg e]; simp [this]
theorem cpC_end {n b cap : Nat} {W G : Nat → Nat → Nat} {xs : Nat → Value} (hle : n ≤ cap) (hmax : cap ≤ maxLen) : SlAt 6 (.slice (some ⟨b, 0, none⟩) n cap) (some (b, cpC (cap * 6) n W G xs n)) n b cap (cpC (cap * 6) n W G xs n) (fun c => .int .u8 ((W (c / 6) (c % 6) : Nat) : Int)) :=
  ⟨rfl, rfl, hle, hmax, cpC_size, fun i hi => by unfold cpC; rw [fnC_get (by omega), if_pos hi, if_pos (by omega)]⟩

end Go.Proofs.Ytfbhngnfhpjonaa
