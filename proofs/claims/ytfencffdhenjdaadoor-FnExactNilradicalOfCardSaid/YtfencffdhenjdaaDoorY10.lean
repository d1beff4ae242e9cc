/- What functions of the program return, as walks over their operations; no statement of the seat is proved here. -/
import Derived.Test.YtfencffdhenjdaaDoorY8
import Derived.Test.YtfencffdhenjdaaDoorSw34
import Derived.Test.YtfencffdhenjdaaDoorEch10
set_option linter.unusedVariables false
set_option linter.unusedSimpArgs false
namespace Go.Proofs.YtfencffdhenjdaaDoor
open Go Go.RowKit Go.Sw Go.Ech
open Classical
theorem doorNil_Y (p n : Nat) (T : Nat → Nat → Nat → Nat) (f : Nat → Nat) (w : World) (hp : primeN p) (hn0 : 0 < n) (hn : n ≤ 6) (hTp : ∀ i j k, T i j k < p) (hT0 : ∀ i j k, n ≤ k → T i j k = 0) (hf : ∀ i, f i ≤ 255) (hc : CodeP (p : Int) (n : Int) T f 0 (vAtL [])) (hcom : comP T) (uu : Nat → Nat) (huu : UnitI p n T uu) (hne : ∀ k E ld, Rref p n E k ld → (∀ x, Ker p n E k x ↔ Ker p n (fun r c => imP p n T uu (kkE p (nilE p n)) c r) n x) → 0 < nf k ld n) (hpos : ∀ r V, IsKer p n (fun r c => imP p n T uu (kkE p (nilE p n)) c r) n r V → 0 < r) :
    CallsR Tryd.prog 17 #[.agg (algC (p : Int) (n : Int) T f), .func (.func 18) #[] #[], .slice none 0 0] w (fun v w' => ∃ r V u, IsKer p n (fun r c => imP p n T uu (kkE p (nilE p n)) c r) n r V ∧ (∀ i, i < r → ∀ c, n ≤ c → c < 6 → V i c = 0) ∧ OwnSl 6 w r (fun c => .int .u8 ((V (c / 6) (c % 6) : Nat) : Int)) u w' ∧ v = .tuple #[u, .int .i64 0]) := by
  refine calls_frD [.agg (algC (p : Int) (n : Int) T f), .func (.func 18) #[] #[], .slice none 0 0] Tryd.func17 rfl Tryd.ntmps17 rfl fun a hF => ?_
  have hM : Mem w w [none, none, none] [] := MemX.start w 3
  change Fr 21 a [(0, .agg (algC (p : Int) (n : Int) T f)), (1, .func (.func 18) #[] #[]), (2, .slice none 0 0)] at hF
  have hp2 := hp.two
  have hp13 := hp.le
  have hT : ∀ i j k, T i j k ≤ 255 := fun i j k => by have := hTp i j k; omega
  have hp2 := hp.two
  refine sq ?_
  refine wp_region_lit ?_
  refine stR hF (d_box 0 hM hF rfl) rfl ?_
  rintro _ w' a ⟨b1, rfl, hM, -⟩ hF
  change Mem w w' [some (b1, algC (p : Int) (n : Int) T f), none, none] [] at hM
  refine st hF (g_assign hF rfl) rfl fun a hF => ?_
  refine stR hF (d_alloc 1 hM ty_ze_2) rfl ?_
  rintro _ w' a ⟨b2, rfl, hM, -⟩ hF
  change Mem w w' [some (b1, algC (p : Int) (n : Int) T f), some (b2, #[.int .i64 (0)]), none] [] at hM
  refine wpList_nil ?_
  refine tN ?_
  refine sq ?_
  refine wp_region_lit ?_
  refine st hF (g_makeFunc hF rfl) rfl fun a hF => ?_
  refine st_defer hF rfl fun a hF => ?_
  refine wpList_nil ?_
  refine tN ?_
  refine sq ?_
  refine sq ?_
  refine wp_regionD ?_
  refine st hF (g_loadAgg ty_ag_32 hF rfl (hM.row 0 rfl) (by simp only [fnC_size, cells_size, vecC_size, tabC_size, planeC_size, dgC_size, numC_sz, ldB_size] <;> omega) (whole cells_size)) rfl fun a hF => st hF (g_move hF rfl) rfl fun a hF => ?_
  refine stR hF (d_call Tryd.call27 hF (.cons rfl (.cons rfl .nil)) ((CallsR.val (areVectors_0 (p : Int) (n : Int) T f (vAtL []) _ (fun _ _ _ => hT _ _ _) (fun _ => hf _)) (congrArg Value.bool (decide_eq_true hc))))) rfl ?_
  rintro _ w' a ⟨hx, rfl⟩ hF
  have hM := hM.ext hx
  refine st hF (g_not hF rfl) rfl fun a hF => ?_
  refine wpList_nil ?_
  refine tN ?_
  refine c_FlD hF rfl ?_
  refine wp_skip ?_
  refine tN ?_
  refine sq ?_
  refine sq ?_
  refine wp_regionD ?_
  refine st hF (g_loadAgg ty_ag_32 hF rfl (hM.row 0 rfl) (by simp only [fnC_size, cells_size, vecC_size, tabC_size, planeC_size, dgC_size, numC_sz, ldB_size] <;> omega) (whole cells_size)) rfl fun a hF => ?_
  refine stR hF (d_call Tryd.call28 hF (.cons rfl .nil) ((CallsR.val (isOwnOpposite_ok p n T f _ (by omega) (by omega) (fun _ _ _ => hT _ _ _) (fun _ => hf _)) (congrArg Value.bool (decide_eq_true (comP_iff.2 hcom)))))) rfl ?_
  rintro _ w' a ⟨hx, rfl⟩ hF
  have hM := hM.ext hx
  refine st hF (g_not hF rfl) rfl fun a hF => ?_
  refine wpList_nil ?_
  refine tN ?_
  refine c_FlD hF rfl ?_
  refine wp_skip ?_
  refine tN ?_
  refine sq ?_
  refine wp_regionD ?_
  refine st hF (g_move hF rfl) rfl fun a hF => st hF (g_loadAgg ty_ag_32 hF rfl (hM.row 0 rfl) (by simp only [fnC_size, cells_size, vecC_size, tabC_size, planeC_size, dgC_size, numC_sz, ldB_size] <;> omega) (whole cells_size)) rfl fun a hF => ?_
  refine stR hF (d_callV Tryd.call18 hF (cap := []) rfl (.cons rfl .nil) (nilradical_Y p n T f _ hp hn0 hn hTp hT0 hf uu huu hne hpos)) rfl ?_
  rintro u w' a ⟨hx, r, V, hIK, hVz, b9, cap9, cs9, hs9, hge9, hb9⟩ hF
  obtain rfl := hs9.val
  have hM := hM.fill hx 2 hb9 hge9
  change Mem w w' [some (b1, algC (p : Int) (n : Int) T f), some (b2, #[.int .i64 (0)]), some (b9, cs9)] [] at hM
  refine st hF (g_assign hF rfl) rfl fun a hF => ?_
  refine stN hF (d_store 1 hM rfl ty_on_2 hF rfl rfl rfl (by first | omega | (simp only [fnC_size, cells_size, vecC_size, tabC_size, planeC_size, dgC_size, numC_sz, ldB_size] <;> omega) | simp)) ?_
  intro _ w' a hM hF
  change Mem w w' [some (b1, algC (p : Int) (n : Int) T f), some (b2, #[.int .i64 (0)]), some (b9, cs9)] [] at hM
  refine wpList_nil ?_
  refine tN ?_
  refine wp_ret ?_
  refine door_end (f := 26) (b := b2) (by intro hq; cases hq) Tryd.call26 hF (clo_idle26 b2 _ _ (hM.row 1 rfl)) fun w3 hx3 hb3 => ?_
  have hM := hM.upd 1 rfl hx3 hb3
  refine ⟨_, fin2D rfl (res_tmp hF rfl) (res_one ty_on_2 hF rfl (hM.row 1 rfl) rfl), _, rfl, hM.below, ?_⟩
  exact ⟨r, V, _, hIK, hVz, ⟨_, _, _, hs9, hM.ge 2 rfl, hM.row 2 rfl⟩, rfl⟩

theorem doorNil_Z (p n : Nat) (T : Nat → Nat → Nat → Nat) (f : Nat → Nat) (w : World) (hp : primeN p) (hn0 : 0 < n) (hn : n ≤ 6) (hTp : ∀ i j k, T i j k < p) (hT0 : ∀ i j k, n ≤ k → T i j k = 0) (hf : ∀ i, f i ≤ 255) (hc : CodeP (p : Int) (n : Int) T f 0 (vAtL [])) (hcom : comP T) (uu : Nat → Nat) (huu : UnitI p n T uu) (hzk : ∀ k E ld, Rref p n E k ld → (∀ x, Ker p n E k x ↔ Ker p n (fun r c => imP p n T uu (kkE p (nilE p n)) c r) n x) → nf k ld n = 0) :
    CallsR Tryd.prog 17 #[.agg (algC (p : Int) (n : Int) T f), .func (.func 18) #[] #[], .slice none 0 0] w (fun res _ => res = .tuple #[.slice none 0 0, .int .i64 0]) := by
  refine calls_frD [.agg (algC (p : Int) (n : Int) T f), .func (.func 18) #[] #[], .slice none 0 0] Tryd.func17 rfl Tryd.ntmps17 rfl fun a hF => ?_
  have hM : Mem w w [none, none, none] [] := MemX.start w 3
  change Fr 21 a [(0, .agg (algC (p : Int) (n : Int) T f)), (1, .func (.func 18) #[] #[]), (2, .slice none 0 0)] at hF
  have hp2 := hp.two
  have hp13 := hp.le
  have hT : ∀ i j k, T i j k ≤ 255 := fun i j k => by have := hTp i j k; omega
  have hp2 := hp.two
  refine sq ?_
  refine wp_region_lit ?_
  refine stR hF (d_box 0 hM hF rfl) rfl ?_
  rintro _ w' a ⟨b1, rfl, hM, -⟩ hF
  change Mem w w' [some (b1, algC (p : Int) (n : Int) T f), none, none] [] at hM
  refine st hF (g_assign hF rfl) rfl fun a hF => ?_
  refine stR hF (d_alloc 1 hM ty_ze_2) rfl ?_
  rintro _ w' a ⟨b2, rfl, hM, -⟩ hF
  change Mem w w' [some (b1, algC (p : Int) (n : Int) T f), some (b2, #[.int .i64 (0)]), none] [] at hM
  refine wpList_nil ?_
  refine tN ?_
  refine sq ?_
  refine wp_region_lit ?_
  refine st hF (g_makeFunc hF rfl) rfl fun a hF => ?_
  refine st_defer hF rfl fun a hF => ?_
  refine wpList_nil ?_
  refine tN ?_
  refine sq ?_
  refine sq ?_
  refine wp_regionD ?_
  refine st hF (g_loadAgg ty_ag_32 hF rfl (hM.row 0 rfl) (by simp only [fnC_size, cells_size, vecC_size, tabC_size, planeC_size, dgC_size, numC_sz, ldB_size] <;> omega) (whole cells_size)) rfl fun a hF => st hF (g_move hF rfl) rfl fun a hF => ?_
  refine stR hF (d_call Tryd.call27 hF (.cons rfl (.cons rfl .nil)) ((CallsR.val (areVectors_0 (p : Int) (n : Int) T f (vAtL []) _ (fun _ _ _ => hT _ _ _) (fun _ => hf _)) (congrArg Value.bool (decide_eq_true hc))))) rfl ?_
  rintro _ w' a ⟨hx, rfl⟩ hF
  have hM := hM.ext hx
  refine st hF (g_not hF rfl) rfl fun a hF => ?_
  refine wpList_nil ?_
  refine tN ?_
  refine c_FlD hF rfl ?_
  refine wp_skip ?_
  refine tN ?_
  refine sq ?_
  refine sq ?_
  refine wp_regionD ?_
  refine st hF (g_loadAgg ty_ag_32 hF rfl (hM.row 0 rfl) (by simp only [fnC_size, cells_size, vecC_size, tabC_size, planeC_size, dgC_size, numC_sz, ldB_size] <;> omega) (whole cells_size)) rfl fun a hF => ?_
  refine stR hF (d_call Tryd.call28 hF (.cons rfl .nil) ((CallsR.val (isOwnOpposite_ok p n T f _ (by omega) (by omega) (fun _ _ _ => hT _ _ _) (fun _ => hf _)) (congrArg Value.bool (decide_eq_true (comP_iff.2 hcom)))))) rfl ?_
  rintro _ w' a ⟨hx, rfl⟩ hF
  have hM := hM.ext hx
  refine st hF (g_not hF rfl) rfl fun a hF => ?_
  refine wpList_nil ?_
  refine tN ?_
  refine c_FlD hF rfl ?_
  refine wp_skip ?_
  refine tN ?_
  refine sq ?_
  refine wp_regionD ?_
  refine st hF (g_move hF rfl) rfl fun a hF => st hF (g_loadAgg ty_ag_32 hF rfl (hM.row 0 rfl) (by simp only [fnC_size, cells_size, vecC_size, tabC_size, planeC_size, dgC_size, numC_sz, ldB_size] <;> omega) (whole cells_size)) rfl fun a hF => ?_
  refine stR hF (d_callV Tryd.call18 hF (cap := []) rfl (.cons rfl .nil) (nilradical_Z p n T f _ hp hn0 hn hTp hT0 hf uu huu hzk)) rfl ?_
  rintro _ w' a ⟨hx, rfl⟩ hF
  have hM := hM.ext hx
  refine st hF (g_assign hF rfl) rfl fun a hF => ?_
  refine stN hF (d_store 1 hM rfl ty_on_2 hF rfl rfl rfl (by first | omega | (simp only [fnC_size, cells_size, vecC_size, tabC_size, planeC_size, dgC_size, numC_sz, ldB_size] <;> omega) | simp)) ?_
  intro _ w' a hM hF
  change Mem w w' [some (b1, algC (p : Int) (n : Int) T f), some (b2, #[.int .i64 (0)]), none] [] at hM
  refine wpList_nil ?_
  refine tN ?_
  refine wp_ret ?_
  refine door_end (f := 26) (b := b2) (by intro hq; cases hq) Tryd.call26 hF (clo_idle26 b2 _ _ (hM.row 1 rfl)) fun w3 hx3 hb3 => ?_
  have hM := hM.upd 1 rfl hx3 hb3
  refine ⟨_, fin2D rfl (res_tmp hF rfl) (res_one ty_on_2 hF rfl (hM.row 1 rfl) rfl), _, rfl, hM.below, ?_⟩
  rfl

theorem l05Code_A (p n : Int) (T : Nat → Nat → Nat → Nat) (f : Nat → Nat) (w : World) (hT : ∀ i j k, T i j k ≤ 255) (hf : ∀ i, f i ≤ 255) (hc : ¬ CodeP p n T f 0 (vAtL [])) :
    CallsR Tryd.prog 13 #[.agg (algC p n T f), .slice none 0 0] w (fun res _ => res = .int .i64 1) := by
  refine calls_fr [.agg (algC p n T f), .slice none 0 0] Tryd.func13 rfl Tryd.ntmps13 rfl fun a hF => ?_
  have hM : Mem w w [none] [] := MemX.start w 1
  change Fr 15 a [(0, .agg (algC p n T f)), (1, .slice none 0 0)] at hF
  refine sq ?_
  refine wp_region_lit ?_
  refine stR hF (d_box 0 hM hF rfl) rfl ?_
  rintro _ w' a ⟨b1, rfl, hM, -⟩ hF
  change Mem w w' [some (b1, algC p n T f)] [] at hM
  refine st hF (g_assign hF rfl) rfl fun a hF => ?_
  refine wpList_nil ?_
  refine tN ?_
  refine sq ?_
  refine sq ?_
  refine wp_region_lit ?_
  refine st hF (g_loadAgg ty_ag_32 hF rfl (hM.row 0 rfl) (by simp only [fnC_size, cells_size, vecC_size, tabC_size, planeC_size, dgC_size, numC_sz, ldB_size] <;> omega) (whole cells_size)) rfl fun a hF => st hF (g_move hF rfl) rfl fun a hF => ?_
  refine stR hF (d_call Tryd.call22 hF (.cons rfl (.cons rfl .nil)) ((CallsR.val (l01Code_0 p n T f (vAtL []) _ (fun _ _ _ => hT _ _ _) (fun _ => hf _)) (congrArg (Value.int .i64) (if_neg hc))))) rfl ?_
  rintro _ w' a ⟨hx, rfl⟩ hF
  have hM := hM.ext hx
  refine st hF (g_assign hF rfl) rfl fun a hF => ?_
  refine wpList_nil ?_
  refine tN ?_
  refine sq ?_
  refine wp_region_lit ?_
  refine st hF (g_move hF rfl) rfl fun a hF => st hF (g_neq hF rfl rfl) rfl fun a hF => ?_
  refine wpList_nil ?_
  refine tN ?_
  refine c_kT hF rfl (by decide) ?_
  refine sq ?_
  refine wp_region_lit ?_
  refine st hF (g_move hF rfl) rfl fun a hF => st hF (g_assign hF rfl) rfl fun a hF => ?_
  refine wpList_nil ?_
  refine tN ?_
  refine wp_ret ?_
  refine tR ?_
  refine fin1 rfl hF.defers (res_tmp hF rfl) ⟨_, rfl, hM.below, ?_⟩
  show _ = _
  rfl

theorem l05Code_N (p n : Nat) (T : Nat → Nat → Nat → Nat) (f : Nat → Nat) (w : World) (hp : primeN p) (hn0 : 0 < n) (hn : n ≤ 6) (hTp : ∀ i j k, T i j k < p) (hT0 : ∀ i j k, n ≤ k → T i j k = 0) (hf : ∀ i, f i ≤ 255) (hc : CodeP (p : Int) (n : Int) T f 0 (vAtL [])) (hcom : ¬ comP T) :
    CallsR Tryd.prog 13 #[.agg (algC (p : Int) (n : Int) T f), .slice none 0 0] w (fun res _ => res = .int .i64 5) := by
  refine calls_fr [.agg (algC (p : Int) (n : Int) T f), .slice none 0 0] Tryd.func13 rfl Tryd.ntmps13 rfl fun a hF => ?_
  have hM : Mem w w [none] [] := MemX.start w 1
  change Fr 15 a [(0, .agg (algC (p : Int) (n : Int) T f)), (1, .slice none 0 0)] at hF
  have hp2 := hp.two
  have hp13 := hp.le
  have hT : ∀ i j k, T i j k ≤ 255 := fun i j k => by have := hTp i j k; omega
  refine sq ?_
  refine wp_region_lit ?_
  refine stR hF (d_box 0 hM hF rfl) rfl ?_
  rintro _ w' a ⟨b1, rfl, hM, -⟩ hF
  change Mem w w' [some (b1, algC (p : Int) (n : Int) T f)] [] at hM
  refine st hF (g_assign hF rfl) rfl fun a hF => ?_
  refine wpList_nil ?_
  refine tN ?_
  refine sq ?_
  refine sq ?_
  refine wp_region_lit ?_
  refine st hF (g_loadAgg ty_ag_32 hF rfl (hM.row 0 rfl) (by simp only [fnC_size, cells_size, vecC_size, tabC_size, planeC_size, dgC_size, numC_sz, ldB_size] <;> omega) (whole cells_size)) rfl fun a hF => st hF (g_move hF rfl) rfl fun a hF => ?_
  refine stR hF (d_call Tryd.call22 hF (.cons rfl (.cons rfl .nil)) ((CallsR.val (l01Code_0 (p : Int) (n : Int) T f (vAtL []) _ (fun _ _ _ => hT _ _ _) (fun _ => hf _)) (congrArg (Value.int .i64) (if_pos hc))))) rfl ?_
  rintro _ w' a ⟨hx, rfl⟩ hF
  have hM := hM.ext hx
  refine st hF (g_assign hF rfl) rfl fun a hF => ?_
  refine wpList_nil ?_
  refine tN ?_
  refine sq ?_
  refine wp_region_lit ?_
  refine st hF (g_move hF rfl) rfl fun a hF => st hF (g_neq hF rfl rfl) rfl fun a hF => ?_
  refine wpList_nil ?_
  refine tN ?_
  refine c_kF hF rfl (by decide) ?_
  refine wp_skip ?_
  refine tN ?_
  refine sq ?_
  refine sq ?_
  refine wp_region_lit ?_
  refine st hF (g_loadAgg ty_ag_32 hF rfl (hM.row 0 rfl) (by simp only [fnC_size, cells_size, vecC_size, tabC_size, planeC_size, dgC_size, numC_sz, ldB_size] <;> omega) (whole cells_size)) rfl fun a hF => ?_
  refine stR hF (d_call Tryd.call23 hF (.cons rfl .nil) ((CallsR.val (l01Commutative_ok (p : Int) (n : Int) T f _) (congrArg Value.bool (decide_eq_false hcom))))) rfl ?_
  rintro _ w' a ⟨hx, rfl⟩ hF
  have hM := hM.ext hx
  refine st hF (g_not hF rfl) rfl fun a hF => ?_
  refine wpList_nil ?_
  refine tN ?_
  refine c_T hF rfl ?_
  refine sq ?_
  refine wp_region_lit ?_
  refine st hF (g_assign hF rfl) rfl fun a hF => ?_
  refine wpList_nil ?_
  refine tN ?_
  refine wp_ret ?_
  refine tR ?_
  refine fin1 rfl hF.defers (res_tmp hF rfl) ⟨_, rfl, hM.below, ?_⟩
  show _ = _
  rfl

theorem l05Code_Y (p n : Nat) (T : Nat → Nat → Nat → Nat) (f : Nat → Nat) (w : World) (hp : primeN p) (hn0 : 0 < n) (hn : n ≤ 6) (hTp : ∀ i j k, T i j k < p) (hT0 : ∀ i j k, n ≤ k → T i j k = 0) (hf : ∀ i, f i ≤ 255) (hc : CodeP (p : Int) (n : Int) T f 0 (vAtL [])) (hcom : comP T) :
    CallsR Tryd.prog 13 #[.agg (algC (p : Int) (n : Int) T f), .slice none 0 0] w (fun res _ => res = .int .i64 0) := by
  refine calls_fr [.agg (algC (p : Int) (n : Int) T f), .slice none 0 0] Tryd.func13 rfl Tryd.ntmps13 rfl fun a hF => ?_
  have hM : Mem w w [none] [] := MemX.start w 1
  change Fr 15 a [(0, .agg (algC (p : Int) (n : Int) T f)), (1, .slice none 0 0)] at hF
  have hp2 := hp.two
  have hp13 := hp.le
  have hT : ∀ i j k, T i j k ≤ 255 := fun i j k => by have := hTp i j k; omega
  refine sq ?_
  refine wp_region_lit ?_
  refine stR hF (d_box 0 hM hF rfl) rfl ?_
  rintro _ w' a ⟨b1, rfl, hM, -⟩ hF
  change Mem w w' [some (b1, algC (p : Int) (n : Int) T f)] [] at hM
  refine st hF (g_assign hF rfl) rfl fun a hF => ?_
  refine wpList_nil ?_
  refine tN ?_
  refine sq ?_
  refine sq ?_
  refine wp_region_lit ?_
  refine st hF (g_loadAgg ty_ag_32 hF rfl (hM.row 0 rfl) (by simp only [fnC_size, cells_size, vecC_size, tabC_size, planeC_size, dgC_size, numC_sz, ldB_size] <;> omega) (whole cells_size)) rfl fun a hF => st hF (g_move hF rfl) rfl fun a hF => ?_
  refine stR hF (d_call Tryd.call22 hF (.cons rfl (.cons rfl .nil)) ((CallsR.val (l01Code_0 (p : Int) (n : Int) T f (vAtL []) _ (fun _ _ _ => hT _ _ _) (fun _ => hf _)) (congrArg (Value.int .i64) (if_pos hc))))) rfl ?_
  rintro _ w' a ⟨hx, rfl⟩ hF
  have hM := hM.ext hx
  refine st hF (g_assign hF rfl) rfl fun a hF => ?_
  refine wpList_nil ?_
  refine tN ?_
  refine sq ?_
  refine wp_region_lit ?_
  refine st hF (g_move hF rfl) rfl fun a hF => st hF (g_neq hF rfl rfl) rfl fun a hF => ?_
  refine wpList_nil ?_
  refine tN ?_
  refine c_kF hF rfl (by decide) ?_
  refine wp_skip ?_
  refine tN ?_
  refine sq ?_
  refine sq ?_
  refine wp_region_lit ?_
  refine st hF (g_loadAgg ty_ag_32 hF rfl (hM.row 0 rfl) (by simp only [fnC_size, cells_size, vecC_size, tabC_size, planeC_size, dgC_size, numC_sz, ldB_size] <;> omega) (whole cells_size)) rfl fun a hF => ?_
  refine stR hF (d_call Tryd.call23 hF (.cons rfl .nil) ((CallsR.val (l01Commutative_ok (p : Int) (n : Int) T f _) (congrArg Value.bool (decide_eq_true hcom))))) rfl ?_
  rintro _ w' a ⟨hx, rfl⟩ hF
  have hM := hM.ext hx
  refine st hF (g_not hF rfl) rfl fun a hF => ?_
  refine wpList_nil ?_
  refine tN ?_
  refine c_Fl hF rfl ?_
  refine wp_skip ?_
  refine tN ?_
  refine sq ?_
  refine wp_region_lit ?_
  refine st hF (g_assign hF rfl) rfl fun a hF => ?_
  refine wpList_nil ?_
  refine tN ?_
  refine wp_ret ?_
  refine fin1 rfl hF.defers (res_tmp hF rfl) ⟨_, rfl, hM.below, ?_⟩
  show _ = _
  rfl

theorem NilradicalOfI_A (p n : Int) (T : Nat → Nat → Nat → Nat) (f : Nat → Nat) (w : World) (hT : ∀ i j k, T i j k ≤ 255) (hf : ∀ i, f i ≤ 255) (hc : ¬ CodeP p n T f 0 (vAtL [])) :
    CallsR Tryd.prog 7 #[.agg (algC p n T f)] w (fun res _ => res = .tuple #[.slice none 0 0, .int .i64 1]) := by
  refine calls_fr [.agg (algC p n T f)] Tryd.func7 rfl Tryd.ntmps7 rfl fun a hF => ?_
  have hM : Mem w w [none, none] [] := MemX.start w 2
  change Fr 8 a [(0, .agg (algC p n T f))] at hF
  refine sq ?_
  refine wp_region_lit ?_
  refine stR hF (d_box 0 hM hF rfl) rfl ?_
  rintro _ w' a ⟨b1, rfl, hM, -⟩ hF
  change Mem w w' [some (b1, algC p n T f), none] [] at hM
  refine st hF (g_assign hF rfl) rfl fun a hF => st hF (g_assign hF rfl) rfl fun a hF => ?_
  refine wpList_nil ?_
  refine tN ?_
  refine sq ?_
  refine wp_region_lit ?_
  refine st hF (g_loadAgg ty_ag_32 hF rfl (hM.row 0 rfl) (by simp only [fnC_size, cells_size, vecC_size, tabC_size, planeC_size, dgC_size, numC_sz, ldB_size] <;> omega) (whole cells_size)) rfl fun a hF => ?_
  refine stR hF (d_call Tryd.call17 hF (.cons rfl (.cons rfl (.cons rfl .nil))) (doorV_A p n T f (.func (.func 18) #[] #[]) _ hT hf hc)) rfl ?_
  rintro _ w' a ⟨hx, rfl⟩ hF
  have hM := hM.ext hx
  refine st hF (g_extract hF rfl rfl) rfl fun a hF => st hF (g_extract hF rfl rfl) rfl fun a hF => st hF (g_assign hF rfl) rfl fun a hF => st hF (g_assign hF rfl) rfl fun a hF => ?_
  refine wpList_nil ?_
  refine tN ?_
  refine wp_ret ?_
  refine fin2 rfl hF.defers (res_tmp hF rfl) (res_tmp hF rfl) ⟨_, rfl, hM.below, ?_⟩
  show _ = _
  rfl

theorem NilradicalOfI_N (p n : Nat) (T : Nat → Nat → Nat → Nat) (f : Nat → Nat) (ev : Value) (w : World) (hp : primeN p) (hn0 : 0 < n) (hn : n ≤ 6) (hTp : ∀ i j k, T i j k < p) (hT0 : ∀ i j k, n ≤ k → T i j k = 0) (hf : ∀ i, f i ≤ 255) (hc : CodeP (p : Int) (n : Int) T f 0 (vAtL [])) (hcom : ¬ comP T) (hg : Blk w 0 #[.iface 92 ev]) :
    CallsR Tryd.prog 7 #[.agg (algC (p : Int) (n : Int) T f)] w (fun res _ => res = .tuple #[.slice none 0 0, .int .i64 5]) := by
  refine calls_fr [.agg (algC (p : Int) (n : Int) T f)] Tryd.func7 rfl Tryd.ntmps7 rfl fun a hF => ?_
  have hM : Mem w w [none, none] [(0, #[.iface 92 ev])] := MemX.startD w 2 _ (startD1 hg)
  change Fr 8 a [(0, .agg (algC (p : Int) (n : Int) T f))] at hF
  have hp2 := hp.two
  have hp13 := hp.le
  have hT : ∀ i j k, T i j k ≤ 255 := fun i j k => by have := hTp i j k; omega
  refine sq ?_
  refine wp_region_lit ?_
  refine stR hF (d_box 0 hM hF rfl) rfl ?_
  rintro _ w' a ⟨b1, rfl, hM, -⟩ hF
  change Mem w w' [some (b1, algC (p : Int) (n : Int) T f), none] [(0, #[.iface 92 ev])] at hM
  refine st hF (g_assign hF rfl) rfl fun a hF => st hF (g_assign hF rfl) rfl fun a hF => ?_
  refine wpList_nil ?_
  refine tN ?_
  refine sq ?_
  refine wp_region_lit ?_
  refine st hF (g_loadAgg ty_ag_32 hF rfl (hM.row 0 rfl) (by simp only [fnC_size, cells_size, vecC_size, tabC_size, planeC_size, dgC_size, numC_sz, ldB_size] <;> omega) (whole cells_size)) rfl fun a hF => ?_
  refine stR hF (d_call Tryd.call17 hF (.cons rfl (.cons rfl (.cons rfl .nil))) (doorV_N p n T f ev (.func (.func 18) #[] #[]) _ hp hn0 hn hTp hT0 hf hc hcom (hM.fz 0 rfl))) rfl ?_
  rintro _ w' a ⟨hx, rfl⟩ hF
  have hM := hM.ext hx
  refine st hF (g_extract hF rfl rfl) rfl fun a hF => st hF (g_extract hF rfl rfl) rfl fun a hF => st hF (g_assign hF rfl) rfl fun a hF => st hF (g_assign hF rfl) rfl fun a hF => ?_
  refine wpList_nil ?_
  refine tN ?_
  refine wp_ret ?_
  refine fin2 rfl hF.defers (res_tmp hF rfl) (res_tmp hF rfl) ⟨_, rfl, hM.below, ?_⟩
  show _ = _
  rfl

theorem NilradicalOfI_Y (p n : Nat) (T : Nat → Nat → Nat → Nat) (f : Nat → Nat) (w : World) (hp : primeN p) (hn0 : 0 < n) (hn : n ≤ 6) (hTp : ∀ i j k, T i j k < p) (hT0 : ∀ i j k, n ≤ k → T i j k = 0) (hf : ∀ i, f i ≤ 255) (hc : CodeP (p : Int) (n : Int) T f 0 (vAtL [])) (hcom : comP T) (uu : Nat → Nat) (huu : UnitI p n T uu) (hne : ∀ k E ld, Rref p n E k ld → (∀ x, Ker p n E k x ↔ Ker p n (fun r c => imP p n T uu (kkE p (nilE p n)) c r) n x) → 0 < nf k ld n) (hpos : ∀ r V, IsKer p n (fun r c => imP p n T uu (kkE p (nilE p n)) c r) n r V → 0 < r) :
    CallsR Tryd.prog 7 #[.agg (algC (p : Int) (n : Int) T f)] w (fun v w' => ∃ r V u, IsKer p n (fun r c => imP p n T uu (kkE p (nilE p n)) c r) n r V ∧ (∀ i, i < r → ∀ c, n ≤ c → c < 6 → V i c = 0) ∧ OwnSl 6 w r (fun c => .int .u8 ((V (c / 6) (c % 6) : Nat) : Int)) u w' ∧ v = .tuple #[u, .int .i64 0]) := by
  refine calls_fr [.agg (algC (p : Int) (n : Int) T f)] Tryd.func7 rfl Tryd.ntmps7 rfl fun a hF => ?_
  have hM : Mem w w [none, none] [] := MemX.start w 2
  change Fr 8 a [(0, .agg (algC (p : Int) (n : Int) T f))] at hF
  have hp2 := hp.two
  have hp13 := hp.le
  have hT : ∀ i j k, T i j k ≤ 255 := fun i j k => by have := hTp i j k; omega
  refine sq ?_
  refine wp_region_lit ?_
  refine stR hF (d_box 0 hM hF rfl) rfl ?_
  rintro _ w' a ⟨b1, rfl, hM, -⟩ hF
  change Mem w w' [some (b1, algC (p : Int) (n : Int) T f), none] [] at hM
  refine st hF (g_assign hF rfl) rfl fun a hF => st hF (g_assign hF rfl) rfl fun a hF => ?_
  refine wpList_nil ?_
  refine tN ?_
  refine sq ?_
  refine wp_region_lit ?_
  refine st hF (g_loadAgg ty_ag_32 hF rfl (hM.row 0 rfl) (by simp only [fnC_size, cells_size, vecC_size, tabC_size, planeC_size, dgC_size, numC_sz, ldB_size] <;> omega) (whole cells_size)) rfl fun a hF => ?_
  refine stR hF (d_call Tryd.call17 hF (.cons rfl (.cons rfl (.cons rfl .nil))) (doorNil_Y p n T f _ hp hn0 hn hTp hT0 hf hc hcom uu huu hne hpos)) rfl ?_
  rintro _ w' a ⟨hx, r, V, u, hIK, hVz, ⟨b9, cap9, cs9, hs9, hge9, hb9⟩, rfl⟩ hF
  obtain rfl := hs9.val
  have hM := hM.fill hx 1 hb9 hge9
  change Mem w w' [some (b1, algC (p : Int) (n : Int) T f), some (b9, cs9)] [] at hM
  refine st hF (g_extract hF rfl rfl) rfl fun a hF => st hF (g_extract hF rfl rfl) rfl fun a hF => st hF (g_assign hF rfl) rfl fun a hF => st hF (g_assign hF rfl) rfl fun a hF => ?_
  refine wpList_nil ?_
  refine tN ?_
  refine wp_ret ?_
  refine fin2 rfl hF.defers (res_tmp hF rfl) (res_tmp hF rfl) ⟨_, rfl, hM.below, ?_⟩
  exact ⟨r, V, _, hIK, hVz, ⟨_, _, _, hs9, hM.ge 1 rfl, hM.row 1 rfl⟩, rfl⟩

theorem NilradicalOfI_Z (p n : Nat) (T : Nat → Nat → Nat → Nat) (f : Nat → Nat) (w : World) (hp : primeN p) (hn0 : 0 < n) (hn : n ≤ 6) (hTp : ∀ i j k, T i j k < p) (hT0 : ∀ i j k, n ≤ k → T i j k = 0) (hf : ∀ i, f i ≤ 255) (hc : CodeP (p : Int) (n : Int) T f 0 (vAtL [])) (hcom : comP T) (uu : Nat → Nat) (huu : UnitI p n T uu) (hzk : ∀ k E ld, Rref p n E k ld → (∀ x, Ker p n E k x ↔ Ker p n (fun r c => imP p n T uu (kkE p (nilE p n)) c r) n x) → nf k ld n = 0) :
    CallsR Tryd.prog 7 #[.agg (algC (p : Int) (n : Int) T f)] w (fun res _ => res = .tuple #[.slice none 0 0, .int .i64 0]) := by
  refine calls_fr [.agg (algC (p : Int) (n : Int) T f)] Tryd.func7 rfl Tryd.ntmps7 rfl fun a hF => ?_
  have hM : Mem w w [none, none] [] := MemX.start w 2
  change Fr 8 a [(0, .agg (algC (p : Int) (n : Int) T f))] at hF
  have hp2 := hp.two
  have hp13 := hp.le
  have hT : ∀ i j k, T i j k ≤ 255 := fun i j k => by have := hTp i j k; omega
  refine sq ?_
  refine wp_region_lit ?_
  refine stR hF (d_box 0 hM hF rfl) rfl ?_
  rintro _ w' a ⟨b1, rfl, hM, -⟩ hF
  change Mem w w' [some (b1, algC (p : Int) (n : Int) T f), none] [] at hM
  refine st hF (g_assign hF rfl) rfl fun a hF => st hF (g_assign hF rfl) rfl fun a hF => ?_
  refine wpList_nil ?_
  refine tN ?_
  refine sq ?_
  refine wp_region_lit ?_
  refine st hF (g_loadAgg ty_ag_32 hF rfl (hM.row 0 rfl) (by simp only [fnC_size, cells_size, vecC_size, tabC_size, planeC_size, dgC_size, numC_sz, ldB_size] <;> omega) (whole cells_size)) rfl fun a hF => ?_
  refine stR hF (d_call Tryd.call17 hF (.cons rfl (.cons rfl (.cons rfl .nil))) (doorNil_Z p n T f _ hp hn0 hn hTp hT0 hf hc hcom uu huu hzk)) rfl ?_
  rintro _ w' a ⟨hx, rfl⟩ hF
  have hM := hM.ext hx
  refine st hF (g_extract hF rfl rfl) rfl fun a hF => st hF (g_extract hF rfl rfl) rfl fun a hF => st hF (g_assign hF rfl) rfl fun a hF => st hF (g_assign hF rfl) rfl fun a hF => ?_
  refine wpList_nil ?_
  refine tN ?_
  refine wp_ret ?_
  refine fin2 rfl hF.defers (res_tmp hF rfl) (res_tmp hF rfl) ⟨_, rfl, hM.below, ?_⟩
  show _ = _
  rfl

theorem NilradicalOfS_A (p n : Int) (T : Nat → Nat → Nat → Nat) (f : Nat → Nat) (w : World) (hT : ∀ i j k, T i j k ≤ 255) (hf : ∀ i, f i ≤ 255) (hc : ¬ CodeP p n T f 0 (vAtL [])) :
    CallsR Tryd.prog 5 #[.agg (algC p n T f)] w (fun res _ => res = .tuple #[.slice none 0 0, .int .i64 1]) := by
  refine calls_fr [.agg (algC p n T f)] Tryd.func5 rfl Tryd.ntmps5 rfl fun a hF => ?_
  have hM : Mem w w [none, none] [] := MemX.start w 2
  change Fr 12 a [(0, .agg (algC p n T f))] at hF
  refine sq ?_
  refine wp_region_lit ?_
  refine stR hF (d_box 0 hM hF rfl) rfl ?_
  rintro _ w' a ⟨b1, rfl, hM, -⟩ hF
  change Mem w w' [some (b1, algC p n T f), none] [] at hM
  refine st hF (g_assign hF rfl) rfl fun a hF => st hF (g_assign hF rfl) rfl fun a hF => ?_
  refine wpList_nil ?_
  refine tN ?_
  refine sq ?_
  refine sq ?_
  refine wp_region_lit ?_
  refine st hF (g_loadAgg ty_ag_32 hF rfl (hM.row 0 rfl) (by simp only [fnC_size, cells_size, vecC_size, tabC_size, planeC_size, dgC_size, numC_sz, ldB_size] <;> omega) (whole cells_size)) rfl fun a hF => ?_
  refine stR hF (d_call Tryd.call13 hF (.cons rfl (.cons rfl .nil)) (l05Code_A p n T f _ hT hf hc)) rfl ?_
  rintro _ w' a ⟨hx, rfl⟩ hF
  have hM := hM.ext hx
  refine st hF (g_assign hF rfl) rfl fun a hF => ?_
  refine wpList_nil ?_
  refine tN ?_
  refine sq ?_
  refine wp_region_lit ?_
  refine st hF (g_move hF rfl) rfl fun a hF => st hF (g_neq hF rfl rfl) rfl fun a hF => ?_
  refine wpList_nil ?_
  refine tN ?_
  refine c_kT hF rfl (by decide) ?_
  refine sq ?_
  refine wp_region_lit ?_
  refine st hF (g_move hF rfl) rfl fun a hF => st hF (g_assign hF rfl) rfl fun a hF => st hF (g_assign hF rfl) rfl fun a hF => ?_
  refine wpList_nil ?_
  refine tN ?_
  refine wp_ret ?_
  refine tR ?_
  refine fin2 rfl hF.defers (res_tmp hF rfl) (res_tmp hF rfl) ⟨_, rfl, hM.below, ?_⟩
  show _ = _
  rfl

theorem NilradicalOfS_N (p n : Nat) (T : Nat → Nat → Nat → Nat) (f : Nat → Nat) (w : World) (hp : primeN p) (hn0 : 0 < n) (hn : n ≤ 6) (hTp : ∀ i j k, T i j k < p) (hT0 : ∀ i j k, n ≤ k → T i j k = 0) (hf : ∀ i, f i ≤ 255) (hc : CodeP (p : Int) (n : Int) T f 0 (vAtL [])) (hcom : ¬ comP T) :
    CallsR Tryd.prog 5 #[.agg (algC (p : Int) (n : Int) T f)] w (fun res _ => res = .tuple #[.slice none 0 0, .int .i64 5]) := by
  refine calls_fr [.agg (algC (p : Int) (n : Int) T f)] Tryd.func5 rfl Tryd.ntmps5 rfl fun a hF => ?_
  have hM : Mem w w [none, none] [] := MemX.start w 2
  change Fr 12 a [(0, .agg (algC (p : Int) (n : Int) T f))] at hF
  have hp2 := hp.two
  have hp13 := hp.le
  have hT : ∀ i j k, T i j k ≤ 255 := fun i j k => by have := hTp i j k; omega
  refine sq ?_
  refine wp_region_lit ?_
  refine stR hF (d_box 0 hM hF rfl) rfl ?_
  rintro _ w' a ⟨b1, rfl, hM, -⟩ hF
  change Mem w w' [some (b1, algC (p : Int) (n : Int) T f), none] [] at hM
  refine st hF (g_assign hF rfl) rfl fun a hF => st hF (g_assign hF rfl) rfl fun a hF => ?_
  refine wpList_nil ?_
  refine tN ?_
  refine sq ?_
  refine sq ?_
  refine wp_region_lit ?_
  refine st hF (g_loadAgg ty_ag_32 hF rfl (hM.row 0 rfl) (by simp only [fnC_size, cells_size, vecC_size, tabC_size, planeC_size, dgC_size, numC_sz, ldB_size] <;> omega) (whole cells_size)) rfl fun a hF => ?_
  refine stR hF (d_call Tryd.call13 hF (.cons rfl (.cons rfl .nil)) (l05Code_N p n T f _ hp hn0 hn hTp hT0 hf hc hcom)) rfl ?_
  rintro _ w' a ⟨hx, rfl⟩ hF
  have hM := hM.ext hx
  refine st hF (g_assign hF rfl) rfl fun a hF => ?_
  refine wpList_nil ?_
  refine tN ?_
  refine sq ?_
  refine wp_region_lit ?_
  refine st hF (g_move hF rfl) rfl fun a hF => st hF (g_neq hF rfl rfl) rfl fun a hF => ?_
  refine wpList_nil ?_
  refine tN ?_
  refine c_kT hF rfl (by decide) ?_
  refine sq ?_
  refine wp_region_lit ?_
  refine st hF (g_move hF rfl) rfl fun a hF => st hF (g_assign hF rfl) rfl fun a hF => st hF (g_assign hF rfl) rfl fun a hF => ?_
  refine wpList_nil ?_
  refine tN ?_
  refine wp_ret ?_
  refine tR ?_
  refine fin2 rfl hF.defers (res_tmp hF rfl) (res_tmp hF rfl) ⟨_, rfl, hM.below, ?_⟩
  show _ = _
  rfl

theorem NilradicalOfS_Y (p n : Nat) (T : Nat → Nat → Nat → Nat) (f : Nat → Nat) (w : World) (hp : primeN p) (hn0 : 0 < n) (hn : n ≤ 6) (hTp : ∀ i j k, T i j k < p) (hT0 : ∀ i j k, n ≤ k → T i j k = 0) (hf : ∀ i, f i ≤ 255) (hc : CodeP (p : Int) (n : Int) T f 0 (vAtL [])) (hcom : comP T) (uu : Nat → Nat) (huu : UnitI p n T uu) (hne : ∀ k E ld, Rref p n E k ld → (∀ x, Ker p n E k x ↔ Ker p n (fun r c => imP p n T uu (kkE p (nilE p n)) c r) n x) → 0 < nf k ld n) (hpos : ∀ r V, IsKer p n (fun r c => imP p n T uu (kkE p (nilE p n)) c r) n r V → 0 < r) :
    CallsR Tryd.prog 5 #[.agg (algC (p : Int) (n : Int) T f)] w (fun v w' => ∃ r V u, IsKer p n (fun r c => imP p n T uu (kkE p (nilE p n)) c r) n r V ∧ OwnSl 6 w r (fun c => .int .u8 (((padN n V) (c / 6) (c % 6) : Nat) : Int)) u w' ∧ v = .tuple #[u, .int .i64 0]) := by
  refine calls_fr [.agg (algC (p : Int) (n : Int) T f)] Tryd.func5 rfl Tryd.ntmps5 rfl fun a hF => ?_
  have hM : Mem w w [none, none] [] := MemX.start w 2
  change Fr 12 a [(0, .agg (algC (p : Int) (n : Int) T f))] at hF
  have hp2 := hp.two
  have hp13 := hp.le
  have hT : ∀ i j k, T i j k ≤ 255 := fun i j k => by have := hTp i j k; omega
  refine sq ?_
  refine wp_region_lit ?_
  refine stR hF (d_box 0 hM hF rfl) rfl ?_
  rintro _ w' a ⟨b1, rfl, hM, -⟩ hF
  change Mem w w' [some (b1, algC (p : Int) (n : Int) T f), none] [] at hM
  refine st hF (g_assign hF rfl) rfl fun a hF => st hF (g_assign hF rfl) rfl fun a hF => ?_
  refine wpList_nil ?_
  refine tN ?_
  refine sq ?_
  refine sq ?_
  refine wp_region_lit ?_
  refine st hF (g_loadAgg ty_ag_32 hF rfl (hM.row 0 rfl) (by simp only [fnC_size, cells_size, vecC_size, tabC_size, planeC_size, dgC_size, numC_sz, ldB_size] <;> omega) (whole cells_size)) rfl fun a hF => ?_
  refine stR hF (d_call Tryd.call13 hF (.cons rfl (.cons rfl .nil)) (l05Code_Y p n T f _ hp hn0 hn hTp hT0 hf hc hcom)) rfl ?_
  rintro _ w' a ⟨hx, rfl⟩ hF
  have hM := hM.ext hx
  refine st hF (g_assign hF rfl) rfl fun a hF => ?_
  refine wpList_nil ?_
  refine tN ?_
  refine sq ?_
  refine wp_region_lit ?_
  refine st hF (g_move hF rfl) rfl fun a hF => st hF (g_neq hF rfl rfl) rfl fun a hF => ?_
  refine wpList_nil ?_
  refine tN ?_
  refine c_kF hF rfl (by decide) ?_
  refine wp_skip ?_
  refine tN ?_
  refine sq ?_
  refine wp_region_lit ?_
  refine st hF (g_loadAgg ty_ag_32 hF rfl (hM.row 0 rfl) (by simp only [fnC_size, cells_size, vecC_size, tabC_size, planeC_size, dgC_size, numC_sz, ldB_size] <;> omega) (whole cells_size)) rfl fun a hF => ?_
  refine stR hF (d_call Tryd.call14 hF (.cons rfl .nil) (l05Nil_Y p n T f _ hp hn0 hn hTp hT0 hf uu huu hne hpos)) rfl ?_
  rintro u w' a ⟨hx, r, V, hIK, b9, cap9, cs9, hs9, hge9, hb9⟩ hF
  obtain rfl := hs9.val
  have hM := hM.fill hx 1 hb9 hge9
  change Mem w w' [some (b1, algC (p : Int) (n : Int) T f), some (b9, cs9)] [] at hM
  refine st hF (g_assign hF rfl) rfl fun a hF => st hF (g_assign hF rfl) rfl fun a hF => ?_
  refine wpList_nil ?_
  refine tN ?_
  refine wp_ret ?_
  refine fin2 rfl hF.defers (res_tmp hF rfl) (res_tmp hF rfl) ⟨_, rfl, hM.below, ?_⟩
  exact ⟨r, V, _, hIK, ⟨_, _, _, hs9, hM.ge 1 rfl, hM.row 1 rfl⟩, rfl⟩

theorem NilradicalOfS_Z (p n : Nat) (T : Nat → Nat → Nat → Nat) (f : Nat → Nat) (w : World) (hp : primeN p) (hn0 : 0 < n) (hn : n ≤ 6) (hTp : ∀ i j k, T i j k < p) (hT0 : ∀ i j k, n ≤ k → T i j k = 0) (hf : ∀ i, f i ≤ 255) (hc : CodeP (p : Int) (n : Int) T f 0 (vAtL [])) (hcom : comP T) (uu : Nat → Nat) (huu : UnitI p n T uu) (hzk : ∀ k E ld, Rref p n E k ld → (∀ x, Ker p n E k x ↔ Ker p n (fun r c => imP p n T uu (kkE p (nilE p n)) c r) n x) → nf k ld n = 0) :
    CallsR Tryd.prog 5 #[.agg (algC (p : Int) (n : Int) T f)] w (fun v w' => ∃ b, v = .tuple #[.slice (some ⟨b, 0, none⟩) 0 0, .int .i64 0] ∧ w.heap.size ≤ b ∧ Blk w' b #[]) := by
  refine calls_fr [.agg (algC (p : Int) (n : Int) T f)] Tryd.func5 rfl Tryd.ntmps5 rfl fun a hF => ?_
  have hM : Mem w w [none, none] [] := MemX.start w 2
  change Fr 12 a [(0, .agg (algC (p : Int) (n : Int) T f))] at hF
  have hp2 := hp.two
  have hp13 := hp.le
  have hT : ∀ i j k, T i j k ≤ 255 := fun i j k => by have := hTp i j k; omega
  refine sq ?_
  refine wp_region_lit ?_
  refine stR hF (d_box 0 hM hF rfl) rfl ?_
  rintro _ w' a ⟨b1, rfl, hM, -⟩ hF
  change Mem w w' [some (b1, algC (p : Int) (n : Int) T f), none] [] at hM
  refine st hF (g_assign hF rfl) rfl fun a hF => st hF (g_assign hF rfl) rfl fun a hF => ?_
  refine wpList_nil ?_
  refine tN ?_
  refine sq ?_
  refine sq ?_
  refine wp_region_lit ?_
  refine st hF (g_loadAgg ty_ag_32 hF rfl (hM.row 0 rfl) (by simp only [fnC_size, cells_size, vecC_size, tabC_size, planeC_size, dgC_size, numC_sz, ldB_size] <;> omega) (whole cells_size)) rfl fun a hF => ?_
  refine stR hF (d_call Tryd.call13 hF (.cons rfl (.cons rfl .nil)) (l05Code_Y p n T f _ hp hn0 hn hTp hT0 hf hc hcom)) rfl ?_
  rintro _ w' a ⟨hx, rfl⟩ hF
  have hM := hM.ext hx
  refine st hF (g_assign hF rfl) rfl fun a hF => ?_
  refine wpList_nil ?_
  refine tN ?_
  refine sq ?_
  refine wp_region_lit ?_
  refine st hF (g_move hF rfl) rfl fun a hF => st hF (g_neq hF rfl rfl) rfl fun a hF => ?_
  refine wpList_nil ?_
  refine tN ?_
  refine c_kF hF rfl (by decide) ?_
  refine wp_skip ?_
  refine tN ?_
  refine sq ?_
  refine wp_region_lit ?_
  refine st hF (g_loadAgg ty_ag_32 hF rfl (hM.row 0 rfl) (by simp only [fnC_size, cells_size, vecC_size, tabC_size, planeC_size, dgC_size, numC_sz, ldB_size] <;> omega) (whole cells_size)) rfl fun a hF => ?_
  refine stR hF (d_call Tryd.call14 hF (.cons rfl .nil) (l05Nil_Z p n T f _ hp hn0 hn hTp hT0 hf uu huu hzk)) rfl ?_
  rintro _ w' a ⟨hx, b3, rfl, hge, hbk⟩ hF
  have hM := hM.fill hx 1 hbk hge
  change Mem w w' [some (b1, algC (p : Int) (n : Int) T f), some (b3, #[])] [] at hM
  refine st hF (g_assign hF rfl) rfl fun a hF => st hF (g_assign hF rfl) rfl fun a hF => ?_
  refine wpList_nil ?_
  refine tN ?_
  refine wp_ret ?_
  refine fin2 rfl hF.defers (res_tmp hF rfl) (res_tmp hF rfl) ⟨_, rfl, hM.below, ?_⟩
  exact ⟨_, rfl, hM.ge 1 rfl, hM.row 1 rfl⟩

end Go.Proofs.YtfencffdhenjdaaDoor

namespace Go.Proofs.YtfencffdhenjdaaDoor
open Go Go.RowKit Go.Sw Go.Ech
open Classical
theorem ty_ag_26 : aggP Tryd.prog 26 = some 224 := by kernel_rfl
theorem ty_ud_3 : Tryd.prog.underlying 3 = some (.int .i64) := by kernel_rfl
theorem dvd_small {p x : Nat} (h : (p : Int) ∣ (x : Int)) (hx : x < p) : x = 0 := Nat.eq_zero_of_dvd_of_lt (Int.natCast_dvd_natCast.1 h) hx
theorem hpos_of {p n m : Nat} {M : Nat → Nat → Nat} (hp : 2 ≤ p) (hne : ∀ k E ld, Rref p n E k ld → (∀ x, Ker p n E k x ↔ Ker p n M m x) → 0 < nf k ld n) : ∀ r V, IsKer p n M m r V → 0 < r := fun r V h => by
  obtain ⟨k, E, ld, ld2, h1, h2, h3, h4⟩ := h
  obtain ⟨c, hc, hf, _⟩ := nf_at n 0 (hne k E ld h1 h2)
  refine Decidable.byContradiction fun h0 => ?_
  have h5 := (h4 (fun d => if d = c then 1 else 0)).1 (fun i hi => absurd hi (by omega)) c hc hf
  have e : dot n (ci (sol p E k ld c)) (fun d => if d = c then 1 else 0) = ((1 : Nat) : Int) := by
    unfold dot
    rw [sI_one hc]
    · unfold ci sol; simp
    · intro j _ hne2; simp [hne2]
  rw [e] at h5
  have := dvd_small h5 (by omega)
  omega
theorem isKer_le {p n m r : Nat} {M V : Nat → Nat → Nat} (h : IsKer p n M m r V) : r ≤ n := by
  obtain ⟨k, E, ld, ld2, _, _, h3, _⟩ := h
  have : ∀ i, i < r → i ≤ ld2 i := by
    intro i
    induction i with
    | zero => intro _; exact Nat.zero_le _
    | succ i ih => intro hi; have := ih (by omega); have := h3.mono i (i + 1) (by omega) hi; omega
  rcases Nat.eq_zero_or_pos r with e | e
  · omega
  · have h1 := this (r - 1) (by omega); have h2 := h3.lt (r - 1) (by omega); omega
theorem isKer_small {p n m r : Nat} {M V : Nat → Nat → Nat} (h : IsKer p n M m r V) : ∀ i, i < r → ∀ c, c < n → V i c < p := by
  obtain ⟨k, E, ld, ld2, _, _, h3, _⟩ := h; exact h3.small
/-- The rows of a list, none beyond it. -/
def cutR (n R : Nat) (W : Nat → Nat → Nat) (i c : Nat) : Nat := if i < R ∧ c < n then W i c else 0
theorem own_same {p n m r R : Nat} {M V V' W : Nat → Nat → Nat} {w w' : World} {u : Value} (hp : 2 ≤ p) (hW : IsKer p n M m R W) (hV : IsKer p n M m r V) (e : ∀ i, i < r → ∀ c, c < 6 → V' i c = if c < n then V i c else 0) (h : OwnSl 6 w r (fun c => .int .u8 ((V' (c / 6) (c % 6) : Nat) : Int)) u w') : OwnSl 6 w R (fun c => .int .u8 ((cutR n R W (c / 6) (c % 6) : Nat) : Int)) u w' := by
  obtain ⟨rfl, hu⟩ := IsKer.unique hp hW hV
  obtain ⟨b, cap, cs, h1, h2, h3⟩ := h
  refine ⟨b, cap, cs, h1.congr (fun c hc => ?_), h2, h3⟩
  congr 2
  rw [e (c / 6) (by omega) (c % 6) (by omega)]
  unfold cutR
  by_cases hcn : c % 6 < n
  · rw [if_pos hcn, if_pos ⟨by omega, hcn⟩, hu (c / 6) (by omega) (c % 6) hcn]
  · rw [if_neg hcn, if_neg (fun q => hcn q.2)]

theorem nf_cases {p n m : Nat} {M : Nat → Nat → Nat} (hp : primeN p) (hM : ∀ i c, M i c < p) : (∀ k E ld, Rref p n E k ld → (∀ x, Ker p n E k x ↔ Ker p n M m x) → 0 < nf k ld n) ∨ (∀ k E ld, Rref p n E k ld → (∀ x, Ker p n E k x ↔ Ker p n M m x) → nf k ld n = 0) := by
  obtain ⟨k0, E0, ld0, h0, _, hk0⟩ := rref_exists (N := n) (m := m) hp hM
  have key : ∀ k E ld, Rref p n E k ld → (∀ x, Ker p n E k x ↔ Ker p n M m x) → nf k ld n = nf k0 ld0 n := fun k E ld h hk => by
    obtain ⟨rfl, e1, _⟩ := rref_unique hp.two h h0 (fun x => (hk x).trans (hk0 x).symm)
    exact nf_congr e1 n
  by_cases e : nf k0 ld0 n = 0
  · exact .inr fun k E ld h hk => by rw [key k E ld h hk, e]
  · exact .inl fun k E ld h hk => by rw [key k E ld h hk]; omega

theorem NilradicalOfI_W (p n : Nat) (T : Nat → Nat → Nat → Nat) (f : Nat → Nat) (R0 : Nat) (W : Nat → Nat → Nat) (w : World) (hp : primeN p) (hn0 : 0 < n) (hn : n ≤ 6) (hTp : ∀ i j k, T i j k < p) (hT0 : ∀ i j k, n ≤ k → T i j k = 0) (hf : ∀ i, f i ≤ 255) (hc : CodeP (p : Int) (n : Int) T f 0 (vAtL [])) (hcom : comP T) (uu : Nat → Nat) (huu : UnitI p n T uu) (hne : ∀ k E ld, Rref p n E k ld → (∀ x, Ker p n E k x ↔ Ker p n (fun r c => imP p n T uu (kkE p (nilE p n)) c r) n x) → 0 < nf k ld n) (hpos : ∀ r V, IsKer p n (fun r c => imP p n T uu (kkE p (nilE p n)) c r) n r V → 0 < r) (hW : IsKer p n (fun r c => imP p n T uu (kkE p (nilE p n)) c r) n R0 W) : CallsR Tryd.prog 7 #[.agg (algC (p : Int) (n : Int) T f)] w (fun v w' => ∃ u, v = .tuple #[u, .int .i64 0] ∧ OwnSl 6 w R0 (fun c => .int .u8 (((cutR n R0 W) (c / 6) (c % 6) : Nat) : Int)) u w') :=
  (NilradicalOfI_Y p n T f w hp hn0 hn hTp hT0 hf hc hcom uu huu hne hpos).mono fun v w' _ h2 => by
    obtain ⟨r, V, u, hIK, hVz, hown, e⟩ := h2
    exact ⟨u, e, own_same hp.two hW hIK (fun i hi c hc => by split; rfl; exact hVz i hi c (by omega) hc) hown⟩

theorem NilradicalOfS_W (p n : Nat) (T : Nat → Nat → Nat → Nat) (f : Nat → Nat) (R0 : Nat) (W : Nat → Nat → Nat) (w : World) (hp : primeN p) (hn0 : 0 < n) (hn : n ≤ 6) (hTp : ∀ i j k, T i j k < p) (hT0 : ∀ i j k, n ≤ k → T i j k = 0) (hf : ∀ i, f i ≤ 255) (hc : CodeP (p : Int) (n : Int) T f 0 (vAtL [])) (hcom : comP T) (uu : Nat → Nat) (huu : UnitI p n T uu) (hne : ∀ k E ld, Rref p n E k ld → (∀ x, Ker p n E k x ↔ Ker p n (fun r c => imP p n T uu (kkE p (nilE p n)) c r) n x) → 0 < nf k ld n) (hpos : ∀ r V, IsKer p n (fun r c => imP p n T uu (kkE p (nilE p n)) c r) n r V → 0 < r) (hW : IsKer p n (fun r c => imP p n T uu (kkE p (nilE p n)) c r) n R0 W) : CallsR Tryd.prog 5 #[.agg (algC (p : Int) (n : Int) T f)] w (fun v w' => ∃ u, v = .tuple #[u, .int .i64 0] ∧ OwnSl 6 w R0 (fun c => .int .u8 (((cutR n R0 W) (c / 6) (c % 6) : Nat) : Int)) u w') :=
  (NilradicalOfS_Y p n T f w hp hn0 hn hTp hT0 hf hc hcom uu huu hne hpos).mono fun v w' _ h2 => by
    obtain ⟨r, V, u, hIK, hown, e⟩ := h2
    exact ⟨u, e, own_same hp.two hW hIK (fun i hi c hc => rfl) hown⟩

theorem eqVectorS_ok (b1 c1 b2 c2 m : Nat) (cs1 cs2 : Array Value) (v1 v2 : Value) (e1 e2 : Option (Nat × Array Value)) (V1 V2 : Nat → Nat → Nat) (w : World) (hm : m < 1000) (hs1 : SlAt 6 v1 e1 m b1 c1 cs1 (fun c => .int .u8 ((V1 (c / 6) (c % 6) : Nat) : Int))) (hb1 : Blk w b1 cs1) (hs2 : SlAt 6 v2 e2 m b2 c2 cs2 (fun c => .int .u8 ((V2 (c / 6) (c % 6) : Nat) : Int))) (hb2 : Blk w b2 cs2) (hv1 : ∀ i c, V1 i c ≤ 255) (hv2 : ∀ i c, V2 i c ≤ 255) (he : ∀ i, i < m → eqV 6 (V1 i) (V2 i)) :
    CallsR Tryd.prog 8 #[.slice (some ⟨b1, 0, none⟩) (m) (c1), .slice (some ⟨b2, 0, none⟩) (m) (c2)] w (fun res _ => res = .bool true) := by
  refine calls_fr [.slice (some ⟨b1, 0, none⟩) (m) (c1), .slice (some ⟨b2, 0, none⟩) (m) (c2)] Tryd.func8 rfl Tryd.ntmps8 rfl fun a hF => ?_
  have hM : Mem w w [] [(b1, cs1), (b2, cs2)] := MemX.startD w 0 _ (startD2 hb1 hb2)
  change Fr 27 a [(0, .slice (some ⟨b1, 0, none⟩) (m) (c1)), (1, .slice (some ⟨b2, 0, none⟩) (m) (c2))] at hF
  refine sq ?_
  refine wp_region_lit ?_
  refine st hF (g_assign hF rfl) rfl fun a hF => ?_
  refine wpList_nil ?_
  refine tN ?_
  refine sq ?_
  refine sq ?_
  refine wp_region_lit ?_
  refine st hF (g_move hF rfl) rfl fun a hF => st hF (g_len ty_us_27 hF rfl) rfl fun a hF => st hF (g_move hF rfl) rfl fun a hF => st hF (g_len ty_us_27 hF rfl) rfl fun a hF => st hF (g_neq hF rfl rfl) rfl fun a hF => ?_
  refine wpList_nil ?_
  refine tN ?_
  refine c_cond hF rfl (fun h1 => ?_) (fun h1 => ?_)
  ·
    exact absurd rfl h1
  ·
    refine wp_skip ?_
    refine tN ?_
    refine sq ?_
    refine sq ?_
    refine wp_region_lit ?_
    refine st hF (g_assign hF rfl) rfl fun a hF => ?_
    refine wpList_nil ?_
    refine tN ?_
    refine wp_block ?_
    change Mem w _ [] [(b1, cs1), (b2, cs2)] at hM
    refine c_loop (fun (kk : Nat) a w' => kk ≤ m ∧ (True) ∧ Fr 27 a [(0, .slice (some ⟨b1, 0, none⟩) (m) (c1)), (1, .slice (some ⟨b2, 0, none⟩) (m) (c2)), (6, .slice (some ⟨b1, 0, none⟩) (m) (c1)), (7, .int .i64 (((m : Nat) : Int))), (8, .slice (some ⟨b2, 0, none⟩) (m) (c2)), (9, .int .i64 (((m : Nat) : Int))), (10, .bool (decide ((((m : Nat) : Int) : Int) ≠ ((m : Nat) : Int)))), (5, .int .i64 (((kk : Nat) : Int)))] ∧ Mem w w' [] [(b1, cs1), (b2, cs2)]) (fun kk => m - kk) 0 ?_ ?_
    ·
      refine ⟨by omega, trivial, hF.sub _ (by repeat' constructor), ?_⟩
      exact hM
    ·
      clear hF hM
      rintro gk a w' ⟨hgk, hinv1, hF, hM⟩
      refine sq ?_
      refine sq ?_
      refine wp_region_lit ?_
      refine st hF (g_move hF rfl) rfl fun a hF => st hF (g_move hF rfl) rfl fun a hF => st hF (g_len ty_us_27 hF rfl) rfl fun a hF => st hF (g_lss hF rfl rfl) rfl fun a hF => ?_
      refine wpList_nil ?_
      refine tN ?_
      refine c_cond hF rfl (fun h2 => ?_) (fun h2 => ?_)
      ·
        refine wp_skip ?_
        refine tN ?_
        refine sq ?_
        refine wp_block ?_
        refine sq ?_
        refine c_par 8 [] [.val (.slice (some ⟨b1, 0, none⟩) (m) (c1)), .val (.int .i64 (((gk : Nat) : Int))), .val (ptr b1 (0 + (gk) * 6)), .val (.agg (vecC (V1 (gk)))), .val (.slice (some ⟨b2, 0, none⟩) (m) (c2)), .val (.int .i64 (((gk : Nat) : Int))), .val (ptr b2 (0 + (gk) * 6)), .val (.agg (vecC (V2 (gk))))] hmix rfl hF rfl hM ⟨fun a w gG hF hS hd => by exact par_val hS rfl (g_move hF rfl), fun a w gG hF hS hd => by exact par_val hS rfl (g_move hF rfl), fun a w gG hF hS hd => by have hF := hF.ext1 17 (hd 0 rfl rfl); have hF := hF.ext1 18 (hd 1 rfl rfl); exact par_val hS rfl (g_indexSl (i := gk) ty_sl_27 hF rfl rfl rfl (by omega)), fun a w gG hF hS hd => by have hF := hF.ext1 19 (hd 2 rfl rfl); have hM := hS.mem rfl; exact par_val hS rfl (g_loadAgg ty_ag_30 hF rfl (hM.fz 0 rfl) (hs1.room (gk) (by omega)) (hs1.vec0 (gk) (by omega))), fun a w gG hF hS hd => by exact par_val hS rfl (g_move hF rfl), fun a w gG hF hS hd => by exact par_val hS rfl (g_move hF rfl), fun a w gG hF hS hd => by have hF := hF.ext1 21 (hd 4 rfl rfl); have hF := hF.ext1 22 (hd 5 rfl rfl); exact par_val hS rfl (g_indexSl (i := gk) ty_sl_27 hF rfl rfl rfl (by omega)), fun a w gG hF hS hd => by have hF := hF.ext1 23 (hd 6 rfl rfl); have hM := hS.mem rfl; exact par_val hS rfl (g_loadAgg ty_ag_30 hF rfl (hM.fz 1 rfl) (hs2.room (gk) (by omega)) (hs2.vec0 (gk) (by omega))), trivial⟩ ?_
        intro a w' L hF hS hq
        have hF := hF.ext1 17 (hq 0 rfl rfl)
        have hF := hF.ext1 18 (hq 1 rfl rfl)
        have hF := hF.ext1 19 (hq 2 rfl rfl)
        have hF := hF.ext1 20 (hq 3 rfl rfl)
        have hF := hF.ext1 21 (hq 4 rfl rfl)
        have hF := hF.ext1 22 (hq 5 rfl rfl)
        have hF := hF.ext1 23 (hq 6 rfl rfl)
        have hF := hF.ext1 24 (hq 7 rfl rfl)
        have hM := hS.mem rfl
        change wpList Tryd.prog _ _ [_, _] _ _
        refine stR hF (d_call Tryd.call19 hF (.cons rfl (.cons rfl .nil)) (eqVector_ok (V1 (gk)) (V2 (gk)) _)) rfl ?_
        rintro _ w' a ⟨hx, rfl⟩ hF
        have hM := hM.ext hx
        refine st hF (g_notP hF rfl) rfl fun a hF => ?_
        refine wpList_nil ?_
        refine tN ?_
        refine c_cond hF rfl (fun h3 => ?_) (fun h3 => ?_)
        ·
          exact absurd (he gk (by omega)) h3
        ·
          refine wp_skip ?_
          refine iN ?_
          refine tN ?_
          refine wp_region_lit ?_
          refine st hF (g_move hF rfl) rfl fun a hF => st hF (g_add hF rfl rfl (add_nat (gk) (1) (by omega))) rfl fun a hF => st hF (g_assign hF rfl) rfl fun a hF => ?_
          refine wpList_nil ?_
          refine tN ?_
          refine ⟨gk + 1, ⟨by omega, trivial, hF.sub _ (by repeat' constructor), ?_⟩, by omega⟩
          exact hM
      ·
        obtain rfl : m = gk := by omega
        refine wp_exit ?_
        refine tX ?_
        refine tX ?_
        refine ib_same ?_
        refine tN ?_
        refine sq ?_
        refine wp_region_lit ?_
        refine st hF (g_assign hF rfl) rfl fun a hF => ?_
        refine wpList_nil ?_
        refine tN ?_
        refine wp_ret ?_
        refine fin1 rfl hF.defers (res_tmp hF rfl) ⟨_, rfl, hM.below, ?_⟩
        show _ = _
        rfl

theorem eqVectorS_0  (w : World)  :
    CallsR Tryd.prog 8 #[.slice none 0 0, .slice none 0 0] w (fun res _ => res = .bool true) := by
  refine calls_fr [.slice none 0 0, .slice none 0 0] Tryd.func8 rfl Tryd.ntmps8 rfl fun a hF => ?_
  have hM : Mem w w [] [] := MemX.start w 0
  change Fr 27 a [(0, .slice none 0 0), (1, .slice none 0 0)] at hF
  refine sq ?_
  refine wp_region_lit ?_
  refine st hF (g_assign hF rfl) rfl fun a hF => ?_
  refine wpList_nil ?_
  refine tN ?_
  refine sq ?_
  refine sq ?_
  refine wp_region_lit ?_
  refine st hF (g_move hF rfl) rfl fun a hF => st hF (g_len0 ty_us_27 hF rfl) rfl fun a hF => st hF (g_move hF rfl) rfl fun a hF => st hF (g_len0 ty_us_27 hF rfl) rfl fun a hF => st hF (g_neq hF rfl rfl) rfl fun a hF => ?_
  refine wpList_nil ?_
  refine tN ?_
  refine c_kF hF rfl (by decide) ?_
  refine wp_skip ?_
  refine tN ?_
  refine sq ?_
  refine sq ?_
  refine wp_region_lit ?_
  refine st hF (g_assign hF rfl) rfl fun a hF => ?_
  refine wpList_nil ?_
  refine tN ?_
  refine wp_block ?_
  change Mem w _ [] [] at hM
  refine c_loop (fun (kk : Nat) a w' => kk ≤ 0 ∧ (True) ∧ Fr 27 a [(0, .slice none 0 0), (1, .slice none 0 0), (6, .slice none 0 0), (7, .int .i64 (0)), (8, .slice none 0 0), (9, .int .i64 (0)), (10, .bool (decide ((0 : Int) ≠ 0))), (5, .int .i64 (((kk : Nat) : Int)))] ∧ Mem w w' [] []) (fun kk => 0 - kk) 0 ?_ ?_
  ·
    refine ⟨by omega, trivial, hF.sub _ (by repeat' constructor), ?_⟩
    exact hM
  ·
    clear hF hM
    rintro gk a w' ⟨hgk, hinv1, hF, hM⟩
    refine sq ?_
    refine sq ?_
    refine wp_region_lit ?_
    refine st hF (g_move hF rfl) rfl fun a hF => st hF (g_move hF rfl) rfl fun a hF => st hF (g_len0 ty_us_27 hF rfl) rfl fun a hF => st hF (g_lss hF rfl rfl) rfl fun a hF => ?_
    refine wpList_nil ?_
    refine tN ?_
    refine c_cond hF rfl (fun h2 => ?_) (fun h2 => ?_)
    ·
      first | (exfalso; omega) | contradiction
    ·
      obtain rfl : 0 = gk := by omega
      refine wp_exit ?_
      refine tX ?_
      refine tX ?_
      refine ib_same ?_
      refine tN ?_
      refine sq ?_
      refine wp_region_lit ?_
      refine st hF (g_assign hF rfl) rfl fun a hF => ?_
      refine wpList_nil ?_
      refine tN ?_
      refine wp_ret ?_
      refine fin1 rfl hF.defers (res_tmp hF rfl) ⟨_, rfl, hM.below, ?_⟩
      show _ = _
      rfl

theorem markVectorS_ok (b c m k Z : Nat) (xs : Nat → Value) (w : World) (hm : m ≤ 10) (hk : k ≤ 100) (hZ : m * 6 ≤ Z) (hb : Blk w b (mrk Z k 0 xs)) :
    CallsX Tryd.prog [b] 9 #[.slice (some ⟨b, 0, none⟩) (m) (c), .int .i64 (((k : Nat) : Int))] w (fun v w' => v = .int .i64 ((k + m * 6 : Nat) : Int) ∧ Blk w' b (mrk Z k (m * 6) xs)) := by
  refine calls_frX [.slice (some ⟨b, 0, none⟩) (m) (c), .int .i64 (((k : Nat) : Int))] Tryd.func9 rfl Tryd.ntmps9 rfl fun a hF => ?_
  have hM : MemX [b] w w [some (b, mrk Z k 0 xs)] [] := MemX.startX1 0 hb
  change Fr 27 a [(0, .slice (some ⟨b, 0, none⟩) (m) (c)), (1, .int .i64 (((k : Nat) : Int)))] at hF
  refine sq ?_
  refine wp_region_lit ?_
  refine st hF (g_assign hF rfl) rfl fun a hF => ?_
  refine wpList_nil ?_
  refine tN ?_
  refine sq ?_
  refine sq ?_
  refine wp_region_lit ?_
  refine st hF (g_assign hF rfl) rfl fun a hF => ?_
  refine wpList_nil ?_
  refine tN ?_
  refine wp_block ?_
  change MemX [b] w _ [some (b, mrk Z k 0 xs)] [] at hM
  refine c_loop (fun (kk : Nat) a w' => kk ≤ m ∧ (True) ∧ Fr 27 a [(0, .slice (some ⟨b, 0, none⟩) (m) (c)), (4, .int .i64 (0)), (5, .int .i64 (((kk : Nat) : Int))), (1, .int .i64 (((k + kk * 6 : Nat) : Int)))] ∧ MemX [b] w w' [some (b, mrk Z k (kk * 6) xs)] []) (fun kk => m - kk) 0 ?_ ?_
  ·
    refine ⟨by omega, trivial, hF.sub _ (by repeat' constructor), ?_⟩
    refine hM.rowc 0 rfl (mrk_congr (by omega))
  ·
    clear hF hM
    rintro gi a w' ⟨hgi, hinv1, hF, hM⟩
    refine sq ?_
    refine sq ?_
    refine wp_region_lit ?_
    refine st hF (g_move hF rfl) rfl fun a hF => st hF (g_move hF rfl) rfl fun a hF => st hF (g_len ty_us_27 hF rfl) rfl fun a hF => st hF (g_lss hF rfl rfl) rfl fun a hF => ?_
    refine wpList_nil ?_
    refine tN ?_
    refine c_cond hF rfl (fun h1 => ?_) (fun h1 => ?_)
    ·
      refine wp_skip ?_
      refine tN ?_
      refine sq ?_
      refine wp_block ?_
      refine sq ?_
      refine wp_region_lit ?_
      refine st hF (g_assign hF rfl) rfl fun a hF => ?_
      refine wpList_nil ?_
      refine tN ?_
      refine wp_block ?_
      change MemX [b] w _ [some (b, mrk Z k (gi * 6) xs)] [] at hM
      refine c_loop (fun (kk : Nat) a w' => kk ≤ 6 ∧ (True) ∧ Fr 27 a [(0, .slice (some ⟨b, 0, none⟩) (m) (c)), (4, .int .i64 (0)), (5, .int .i64 (((gi : Nat) : Int))), (7, .int .i64 (((gi : Nat) : Int))), (8, .slice (some ⟨b, 0, none⟩) (m) (c)), (9, .int .i64 (((m : Nat) : Int))), (10, .bool (decide ((((gi : Nat) : Int) : Int) < ((m : Nat) : Int)))), (6, .int .i64 (((kk : Nat) : Int))), (1, .int .i64 (((k + gi * 6 + kk : Nat) : Int)))] ∧ MemX [b] w w' [some (b, mrk Z k (gi * 6 + kk) xs)] []) (fun kk => 6 - kk) 0 ?_ ?_
      ·
        refine ⟨by omega, trivial, hF.sub _ (by repeat' constructor), ?_⟩
        refine hM.rowc 0 rfl (mrk_congr (by omega))
      ·
        clear hF hM
        rintro gj a w' ⟨hgj, hinv2, hF, hM⟩
        refine sq ?_
        refine sq ?_
        refine wp_region_lit ?_
        refine st hF (g_move hF rfl) rfl fun a hF => st hF (g_lss hF rfl rfl) rfl fun a hF => ?_
        refine wpList_nil ?_
        refine tN ?_
        refine c_cond hF rfl (fun h2 => ?_) (fun h2 => ?_)
        ·
          refine wp_skip ?_
          refine tN ?_
          refine sq ?_
          refine wp_block ?_
          refine sq ?_
          refine wp_region_lit ?_
          refine st hF (g_move hF rfl) rfl fun a hF => st hF (g_move hF rfl) rfl fun a hF => st hF (g_move hF rfl) rfl fun a hF => st hF (g_move hF rfl) rfl fun a hF => st hF (g_conv ty_un_5 ty_ud_3 hF rfl (wrap_u8 (by omega) (by omega))) rfl fun a hF => st hF (g_indexSl (i := gi) ty_sl_27 hF rfl rfl rfl (by omega)) rfl fun a hF => st hF (g_indexAddr ty_ar_30 hF rfl rfl rfl (by omega)) rfl fun a hF => ?_
          refine stN hF (d_store 0 hM rfl ty_on_5 hF rfl rfl rfl (by first | omega | (simp only [fnC_size, cells_size, vecC_size, tabC_size, planeC_size, dgC_size, numC_sz, ldB_size, mrk_size] <;> omega) | simp)) ?_
          intro _ w' a hM hF
          change MemX [b] w w' [some (b, (mrk Z k (gi * 6 + gj) xs).setIfInBounds (0 + (gi) * 6 + (gj) * 1) (.int .u8 (((k + gi * 6 + gj : Nat) : Int))))] [] at hM
          refine wpList_nil ?_
          refine tN ?_
          refine wp_region_lit ?_
          refine st hF (g_move hF rfl) rfl fun a hF => st hF (g_add hF rfl rfl (add_nat (k + gi * 6 + gj) (1) (by omega))) rfl fun a hF => st hF (g_assign hF rfl) rfl fun a hF => ?_
          refine wpList_nil ?_
          refine iN ?_
          refine tN ?_
          refine wp_region_lit ?_
          refine st hF (g_move hF rfl) rfl fun a hF => st hF (g_add hF rfl rfl (add_nat (gj) (1) (by omega))) rfl fun a hF => st hF (g_assign hF rfl) rfl fun a hF => ?_
          refine wpList_nil ?_
          refine tN ?_
          refine ⟨gj + 1, ⟨by omega, trivial, hF.sub _ (by repeat' constructor), ?_⟩, by omega⟩
          refine hM.rowc 0 rfl ?_
          rw [show k + gi * 6 + gj = k + (gi * 6 + gj) by omega]; exact mrk_set (by omega) (by omega)
        ·
          obtain rfl : 6 = gj := by omega
          refine wp_exit ?_
          refine tX ?_
          refine tX ?_
          refine ib_same ?_
          refine iN ?_
          refine tN ?_
          refine wp_region_lit ?_
          refine st hF (g_move hF rfl) rfl fun a hF => st hF (g_add hF rfl rfl (add_nat (gi) (1) (by omega))) rfl fun a hF => st hF (g_assign hF rfl) rfl fun a hF => ?_
          refine wpList_nil ?_
          refine tN ?_
          rw [show k + gi * 6 + 6 = k + (gi + 1) * 6 from by omega] at hF
          refine ⟨gi + 1, ⟨by omega, trivial, hF.sub _ (by repeat' constructor), ?_⟩, by omega⟩
          refine hM.rowc 0 rfl (mrk_congr (by omega))
    ·
      obtain rfl : m = gi := by omega
      refine wp_exit ?_
      refine tX ?_
      refine tX ?_
      refine ib_same ?_
      refine tN ?_
      refine sq ?_
      refine wp_region_lit ?_
      refine st hF (g_move hF rfl) rfl fun a hF => st hF (g_assign hF rfl) rfl fun a hF => ?_
      refine wpList_nil ?_
      refine tN ?_
      refine wp_ret ?_
      refine fin1 rfl hF.defers (res_tmp hF rfl) ⟨_, rfl, hM.bel, ?_⟩
      exact ⟨rfl, hM.row 0 rfl⟩

theorem markVectorS_0 (k : Nat) (w : World) (hk : k ≤ 100) :
    CallsR Tryd.prog 9 #[.slice none 0 0, .int .i64 (((k : Nat) : Int))] w (fun res _ => res = .int .i64 ((k : Nat) : Int)) := by
  refine calls_fr [.slice none 0 0, .int .i64 (((k : Nat) : Int))] Tryd.func9 rfl Tryd.ntmps9 rfl fun a hF => ?_
  have hM : Mem w w [] [] := MemX.start w 0
  change Fr 27 a [(0, .slice none 0 0), (1, .int .i64 (((k : Nat) : Int)))] at hF
  refine sq ?_
  refine wp_region_lit ?_
  refine st hF (g_assign hF rfl) rfl fun a hF => ?_
  refine wpList_nil ?_
  refine tN ?_
  refine sq ?_
  refine sq ?_
  refine wp_region_lit ?_
  refine st hF (g_assign hF rfl) rfl fun a hF => ?_
  refine wpList_nil ?_
  refine tN ?_
  refine wp_block ?_
  change Mem w _ [] [] at hM
  refine c_loop (fun (kk : Nat) a w' => kk ≤ 0 ∧ (True) ∧ Fr 27 a [(0, .slice none 0 0), (4, .int .i64 (0)), (5, .int .i64 (((kk : Nat) : Int))), (1, .int .i64 (((k : Nat) : Int)))] ∧ Mem w w' [] []) (fun kk => 0 - kk) 0 ?_ ?_
  ·
    refine ⟨by omega, trivial, hF.sub _ (by repeat' constructor), ?_⟩
    exact hM
  ·
    clear hF hM
    rintro gi a w' ⟨hgi, hinv1, hF, hM⟩
    refine sq ?_
    refine sq ?_
    refine wp_region_lit ?_
    refine st hF (g_move hF rfl) rfl fun a hF => st hF (g_move hF rfl) rfl fun a hF => st hF (g_len0 ty_us_27 hF rfl) rfl fun a hF => st hF (g_lss hF rfl rfl) rfl fun a hF => ?_
    refine wpList_nil ?_
    refine tN ?_
    refine c_cond hF rfl (fun h1 => ?_) (fun h1 => ?_)
    ·
      exfalso; omega
    ·
      obtain rfl : 0 = gi := by omega
      refine wp_exit ?_
      refine tX ?_
      refine tX ?_
      refine ib_same ?_
      refine tN ?_
      refine sq ?_
      refine wp_region_lit ?_
      refine st hF (g_move hF rfl) rfl fun a hF => st hF (g_assign hF rfl) rfl fun a hF => ?_
      refine wpList_nil ?_
      refine tN ?_
      refine wp_ret ?_
      refine fin1 rfl hF.defers (res_tmp hF rfl) ⟨_, rfl, hM.below, ?_⟩
      show _ = _
      rfl

theorem heldVectorS_ok (b c m k Z : Nat) (xs : Nat → Value) (w : World) (hm : m ≤ 10) (hk : k ≤ 100) (hZ : m * 6 ≤ Z) (hb : Blk w b (mrk Z k (m * 6) xs)) :
    CallsX Tryd.prog [b] 10 #[.slice (some ⟨b, 0, none⟩) (m) (c), .int .i64 (((k : Nat) : Int))] w (fun v w' => v = .int .i64 ((k + m * 6 : Nat) : Int) ∧ Blk w' b (mrk Z k (m * 6) xs)) := by
  refine calls_frX [.slice (some ⟨b, 0, none⟩) (m) (c), .int .i64 (((k : Nat) : Int))] Tryd.func10 rfl Tryd.ntmps10 rfl fun a hF => ?_
  have hM : MemX [b] w w [some (b, mrk Z k (m * 6) xs)] [] := MemX.startX1 0 hb
  change Fr 29 a [(0, .slice (some ⟨b, 0, none⟩) (m) (c)), (1, .int .i64 (((k : Nat) : Int)))] at hF
  refine sq ?_
  refine wp_region_lit ?_
  refine st hF (g_assign hF rfl) rfl fun a hF => ?_
  refine wpList_nil ?_
  refine tN ?_
  refine sq ?_
  refine sq ?_
  refine wp_region_lit ?_
  refine st hF (g_assign hF rfl) rfl fun a hF => ?_
  refine wpList_nil ?_
  refine tN ?_
  refine wp_block ?_
  change MemX [b] w _ [some (b, mrk Z k (m * 6) xs)] [] at hM
  refine c_loop (fun (kk : Nat) a w' => kk ≤ m ∧ (True) ∧ Fr 29 a [(0, .slice (some ⟨b, 0, none⟩) (m) (c)), (5, .int .i64 (((kk : Nat) : Int))), (1, .int .i64 (((k + kk * 6 : Nat) : Int)))] ∧ MemX [b] w w' [some (b, mrk Z k (m * 6) xs)] []) (fun kk => m - kk) 0 ?_ ?_
  ·
    refine ⟨by omega, trivial, hF.sub _ (by repeat' constructor), ?_⟩
    exact hM
  ·
    clear hF hM
    rintro gi a w' ⟨hgi, hinv1, hF, hM⟩
    refine sq ?_
    refine sq ?_
    refine wp_region_lit ?_
    refine st hF (g_move hF rfl) rfl fun a hF => st hF (g_move hF rfl) rfl fun a hF => st hF (g_len ty_us_27 hF rfl) rfl fun a hF => st hF (g_lss hF rfl rfl) rfl fun a hF => ?_
    refine wpList_nil ?_
    refine tN ?_
    refine c_cond hF rfl (fun h1 => ?_) (fun h1 => ?_)
    ·
      refine wp_skip ?_
      refine tN ?_
      refine sq ?_
      refine wp_block ?_
      refine sq ?_
      refine wp_region_lit ?_
      refine st hF (g_assign hF rfl) rfl fun a hF => ?_
      refine wpList_nil ?_
      refine tN ?_
      refine wp_block ?_
      change MemX [b] w _ [some (b, mrk Z k (m * 6) xs)] [] at hM
      refine c_loop (fun (kk : Nat) a w' => kk ≤ 6 ∧ (True) ∧ Fr 29 a [(0, .slice (some ⟨b, 0, none⟩) (m) (c)), (5, .int .i64 (((gi : Nat) : Int))), (7, .int .i64 (((gi : Nat) : Int))), (8, .slice (some ⟨b, 0, none⟩) (m) (c)), (9, .int .i64 (((m : Nat) : Int))), (10, .bool (decide ((((gi : Nat) : Int) : Int) < ((m : Nat) : Int)))), (6, .int .i64 (((kk : Nat) : Int))), (1, .int .i64 (((k + gi * 6 + kk : Nat) : Int)))] ∧ MemX [b] w w' [some (b, mrk Z k (m * 6) xs)] []) (fun kk => 6 - kk) 0 ?_ ?_
      ·
        refine ⟨by omega, trivial, hF.sub _ (by repeat' constructor), ?_⟩
        exact hM
      ·
        clear hF hM
        rintro gj a w' ⟨hgj, hinv2, hF, hM⟩
        refine sq ?_
        refine sq ?_
        refine wp_region_lit ?_
        refine st hF (g_move hF rfl) rfl fun a hF => st hF (g_lss hF rfl rfl) rfl fun a hF => ?_
        refine wpList_nil ?_
        refine tN ?_
        refine c_cond hF rfl (fun h2 => ?_) (fun h2 => ?_)
        ·
          refine wp_skip ?_
          refine tN ?_
          refine sq ?_
          refine wp_block ?_
          refine sq ?_
          refine sq ?_
          refine wp_region_lit ?_
          refine st hF (g_move hF rfl) rfl fun a hF => st hF (g_move hF rfl) rfl fun a hF => st hF (g_move hF rfl) rfl fun a hF => st hF (g_indexSl (i := gi) ty_sl_27 hF rfl rfl rfl (by omega)) rfl fun a hF => st hF (g_indexAddr ty_ar_30 hF rfl rfl rfl (by omega)) rfl fun a hF => st hF (g_load ty_on_5 hF rfl (hM.row 0 rfl) (mrk_get (c := gi * 6 + gj) (by omega) (by omega) (by omega))) rfl fun a hF => st hF (g_move hF rfl) rfl fun a hF => st hF (g_conv ty_un_5 ty_ud_3 hF rfl (wrap_u8 (by omega) (by omega))) rfl fun a hF => st hF (g_neq hF rfl rfl) rfl fun a hF => ?_
          refine wpList_nil ?_
          refine tN ?_
          refine c_cond hF rfl (fun h3 => ?_) (fun h3 => ?_)
          ·
            exfalso; omega
          ·
            refine wp_skip ?_
            refine tN ?_
            refine wp_region_lit ?_
            refine st hF (g_move hF rfl) rfl fun a hF => st hF (g_add hF rfl rfl (add_nat (k + gi * 6 + gj) (1) (by omega))) rfl fun a hF => st hF (g_assign hF rfl) rfl fun a hF => ?_
            refine wpList_nil ?_
            refine iN ?_
            refine tN ?_
            refine wp_region_lit ?_
            refine st hF (g_move hF rfl) rfl fun a hF => st hF (g_add hF rfl rfl (add_nat (gj) (1) (by omega))) rfl fun a hF => st hF (g_assign hF rfl) rfl fun a hF => ?_
            refine wpList_nil ?_
            refine tN ?_
            refine ⟨gj + 1, ⟨by omega, trivial, hF.sub _ (by repeat' constructor), ?_⟩, by omega⟩
            exact hM
        ·
          obtain rfl : 6 = gj := by omega
          refine wp_exit ?_
          refine tX ?_
          refine tX ?_
          refine ib_same ?_
          refine iN ?_
          refine tN ?_
          refine wp_region_lit ?_
          refine st hF (g_move hF rfl) rfl fun a hF => st hF (g_add hF rfl rfl (add_nat (gi) (1) (by omega))) rfl fun a hF => st hF (g_assign hF rfl) rfl fun a hF => ?_
          refine wpList_nil ?_
          refine tN ?_
          rw [show k + gi * 6 + 6 = k + (gi + 1) * 6 from by omega] at hF
          refine ⟨gi + 1, ⟨by omega, trivial, hF.sub _ (by repeat' constructor), ?_⟩, by omega⟩
          exact hM
    ·
      obtain rfl : m = gi := by omega
      refine wp_exit ?_
      refine tX ?_
      refine tX ?_
      refine ib_same ?_
      refine tN ?_
      refine sq ?_
      refine wp_region_lit ?_
      refine st hF (g_move hF rfl) rfl fun a hF => st hF (g_assign hF rfl) rfl fun a hF => ?_
      refine wpList_nil ?_
      refine tN ?_
      refine wp_ret ?_
      refine fin1 rfl hF.defers (res_tmp hF rfl) ⟨_, rfl, hM.bel, ?_⟩
      exact ⟨rfl, hM.row 0 rfl⟩

theorem heldVectorS_0 (k : Nat) (w : World) (hk : k ≤ 100) :
    CallsR Tryd.prog 10 #[.slice none 0 0, .int .i64 (((k : Nat) : Int))] w (fun res _ => res = .int .i64 ((k : Nat) : Int)) := by
  refine calls_fr [.slice none 0 0, .int .i64 (((k : Nat) : Int))] Tryd.func10 rfl Tryd.ntmps10 rfl fun a hF => ?_
  have hM : Mem w w [] [] := MemX.start w 0
  change Fr 29 a [(0, .slice none 0 0), (1, .int .i64 (((k : Nat) : Int)))] at hF
  refine sq ?_
  refine wp_region_lit ?_
  refine st hF (g_assign hF rfl) rfl fun a hF => ?_
  refine wpList_nil ?_
  refine tN ?_
  refine sq ?_
  refine sq ?_
  refine wp_region_lit ?_
  refine st hF (g_assign hF rfl) rfl fun a hF => ?_
  refine wpList_nil ?_
  refine tN ?_
  refine wp_block ?_
  change Mem w _ [] [] at hM
  refine c_loop (fun (kk : Nat) a w' => kk ≤ 0 ∧ (True) ∧ Fr 29 a [(0, .slice none 0 0), (5, .int .i64 (((kk : Nat) : Int))), (1, .int .i64 (((k : Nat) : Int)))] ∧ Mem w w' [] []) (fun kk => 0 - kk) 0 ?_ ?_
  ·
    refine ⟨by omega, trivial, hF.sub _ (by repeat' constructor), ?_⟩
    exact hM
  ·
    clear hF hM
    rintro gi a w' ⟨hgi, hinv1, hF, hM⟩
    refine sq ?_
    refine sq ?_
    refine wp_region_lit ?_
    refine st hF (g_move hF rfl) rfl fun a hF => st hF (g_move hF rfl) rfl fun a hF => st hF (g_len0 ty_us_27 hF rfl) rfl fun a hF => st hF (g_lss hF rfl rfl) rfl fun a hF => ?_
    refine wpList_nil ?_
    refine tN ?_
    refine c_cond hF rfl (fun h1 => ?_) (fun h1 => ?_)
    ·
      exfalso; omega
    ·
      obtain rfl : 0 = gi := by omega
      refine wp_exit ?_
      refine tX ?_
      refine tX ?_
      refine ib_same ?_
      refine tN ?_
      refine sq ?_
      refine wp_region_lit ?_
      refine st hF (g_move hF rfl) rfl fun a hF => st hF (g_assign hF rfl) rfl fun a hF => ?_
      refine wpList_nil ?_
      refine tN ?_
      refine wp_ret ?_
      refine fin1 rfl hF.defers (res_tmp hF rfl) ⟨_, rfl, hM.below, ?_⟩
      show _ = _
      rfl

theorem eqVectorS_E (b0 : Nat) (w : World)  :
    CallsR Tryd.prog 8 #[.slice none 0 0, .slice (some ⟨b0, 0, none⟩) (0) (0)] w (fun res _ => res = .bool true) := by
  refine calls_fr [.slice none 0 0, .slice (some ⟨b0, 0, none⟩) (0) (0)] Tryd.func8 rfl Tryd.ntmps8 rfl fun a hF => ?_
  have hM : Mem w w [] [] := MemX.start w 0
  change Fr 27 a [(0, .slice none 0 0), (1, .slice (some ⟨b0, 0, none⟩) (0) (0))] at hF
  refine sq ?_
  refine wp_region_lit ?_
  refine st hF (g_assign hF rfl) rfl fun a hF => ?_
  refine wpList_nil ?_
  refine tN ?_
  refine sq ?_
  refine sq ?_
  refine wp_region_lit ?_
  refine st hF (g_move hF rfl) rfl fun a hF => st hF (g_len0 ty_us_27 hF rfl) rfl fun a hF => st hF (g_move hF rfl) rfl fun a hF => st hF (g_len ty_us_27 hF rfl) rfl fun a hF => st hF (g_neq hF rfl rfl) rfl fun a hF => ?_
  refine wpList_nil ?_
  refine tN ?_
  refine c_kF hF rfl (by decide) ?_
  refine wp_skip ?_
  refine tN ?_
  refine sq ?_
  refine sq ?_
  refine wp_region_lit ?_
  refine st hF (g_assign hF rfl) rfl fun a hF => ?_
  refine wpList_nil ?_
  refine tN ?_
  refine wp_block ?_
  change Mem w _ [] [] at hM
  refine c_loop (fun (kk : Nat) a w' => kk ≤ 0 ∧ (True) ∧ Fr 27 a [(0, .slice none 0 0), (1, .slice (some ⟨b0, 0, none⟩) (0) (0)), (6, .slice none 0 0), (7, .int .i64 (0)), (8, .slice (some ⟨b0, 0, none⟩) (0) (0)), (9, .int .i64 (0)), (10, .bool (decide ((0 : Int) ≠ 0))), (5, .int .i64 (((kk : Nat) : Int)))] ∧ Mem w w' [] []) (fun kk => 0 - kk) 0 ?_ ?_
  ·
    refine ⟨by omega, trivial, hF.sub _ (by repeat' constructor), ?_⟩
    exact hM
  ·
    clear hF hM
    rintro gk a w' ⟨hgk, hinv1, hF, hM⟩
    refine sq ?_
    refine sq ?_
    refine wp_region_lit ?_
    refine st hF (g_move hF rfl) rfl fun a hF => st hF (g_move hF rfl) rfl fun a hF => st hF (g_len0 ty_us_27 hF rfl) rfl fun a hF => st hF (g_lss hF rfl rfl) rfl fun a hF => ?_
    refine wpList_nil ?_
    refine tN ?_
    refine c_cond hF rfl (fun h2 => ?_) (fun h2 => ?_)
    ·
      first | (exfalso; omega) | contradiction
    ·
      obtain rfl : 0 = gk := by omega
      refine wp_exit ?_
      refine tX ?_
      refine tX ?_
      refine ib_same ?_
      refine tN ?_
      refine sq ?_
      refine wp_region_lit ?_
      refine st hF (g_assign hF rfl) rfl fun a hF => ?_
      refine wpList_nil ?_
      refine tN ?_
      refine wp_ret ?_
      refine fin1 rfl hF.defers (res_tmp hF rfl) ⟨_, rfl, hM.below, ?_⟩
      show _ = _
      rfl

theorem law_NilradicalOfA (p n : Int) (T : Nat → Nat → Nat → Nat) (f : Nat → Nat) (w : World) (hT : ∀ i j k, T i j k ≤ 255) (hf : ∀ i, f i ≤ 255) (hc : ¬ CodeP p n T f 0 (vAtL [])) :
    CallsR Tryd.prog 3 #[.agg (algC p n T f)] w (fun res _ => res = .bool true) := by
  refine calls_fr [.agg (algC p n T f)] Tryd.func3 rfl Tryd.ntmps3 rfl fun a hF => ?_
  have hM : Mem w w [none, none, none, none] [] := MemX.start w 4
  change Fr 66 a [(0, .agg (algC p n T f))] at hF
  refine sq ?_
  refine wp_region_lit ?_
  refine stR hF (d_box 0 hM hF rfl) rfl ?_
  rintro _ w' a ⟨b1, rfl, hM, -⟩ hF
  change Mem w w' [some (b1, algC p n T f), none, none, none] [] at hM
  refine st hF (g_assign hF rfl) rfl fun a hF => ?_
  refine wpList_nil ?_
  refine tN ?_
  refine sq ?_
  refine wp_region_lit ?_
  refine st hF (g_loadAgg ty_ag_26 hF rfl (hM.row 0 rfl) (by simp only [fnC_size, cells_size, vecC_size, tabC_size, planeC_size, dgC_size, numC_sz, ldB_size, mrk_size] <;> omega) (whole cells_size)) rfl fun a hF => ?_
  refine stR hF (d_call Tryd.call6 hF (.cons rfl .nil) (toAlgebra_ok p n T f _)) rfl ?_
  rintro _ w' a ⟨hx, rfl⟩ hF
  have hM := hM.ext hx
  refine stR hF (d_call Tryd.call5 hF (.cons rfl .nil) (NilradicalOfS_A p n T f _ hT hf hc)) rfl ?_
  rintro _ w' a ⟨hx, rfl⟩ hF
  have hM := hM.ext hx
  refine st hF (g_move hF rfl) rfl fun a hF => st hF (g_extract hF rfl rfl) rfl fun a hF => st hF (g_extract hF rfl rfl) rfl fun a hF => st hF (g_assign hF rfl) rfl fun a hF => st hF (g_assign hF rfl) rfl fun a hF => ?_
  refine wpList_nil ?_
  refine tN ?_
  refine sq ?_
  refine wp_region_lit ?_
  refine st hF (g_loadAgg ty_ag_26 hF rfl (hM.row 0 rfl) (by simp only [fnC_size, cells_size, vecC_size, tabC_size, planeC_size, dgC_size, numC_sz, ldB_size, mrk_size] <;> omega) (whole cells_size)) rfl fun a hF => ?_
  refine stR hF (d_call Tryd.call6 hF (.cons rfl .nil) (toAlgebra_ok p n T f _)) rfl ?_
  rintro _ w' a ⟨hx, rfl⟩ hF
  have hM := hM.ext hx
  refine stR hF (d_call Tryd.call7 hF (.cons rfl .nil) (NilradicalOfI_A p n T f _ hT hf hc)) rfl ?_
  rintro _ w' a ⟨hx, rfl⟩ hF
  have hM := hM.ext hx
  refine st hF (g_move hF rfl) rfl fun a hF => st hF (g_extract hF rfl rfl) rfl fun a hF => st hF (g_extract hF rfl rfl) rfl fun a hF => st hF (g_assign hF rfl) rfl fun a hF => st hF (g_assign hF rfl) rfl fun a hF => ?_
  refine wpList_nil ?_
  refine tN ?_
  refine sq ?_
  refine sq ?_
  refine wp_region_lit ?_
  refine st hF (g_move hF rfl) rfl fun a hF => st hF (g_move hF rfl) rfl fun a hF => ?_
  refine stR hF (d_call Tryd.call8 hF (.cons rfl (.cons rfl .nil)) (eqVectorS_0 _)) rfl ?_
  rintro _ w' a ⟨hx, rfl⟩ hF
  have hM := hM.ext hx
  refine st hF (g_not hF rfl) rfl fun a hF => st hF (g_move hF rfl) rfl fun a hF => stY hF rfl rfl rfl (g_move hF rfl) rfl fun a hF => stY hF rfl rfl rfl (g_move hF rfl) rfl fun a hF => stY hF rfl rfl rfl (g_neq hF rfl rfl) rfl fun a hF => st hF (g_pickF hF rfl rfl) rfl fun a hF => ?_
  refine wpList_nil ?_
  refine tN ?_
  refine c_kF hF rfl (by decide) ?_
  refine wp_skip ?_
  refine tN ?_
  refine sq ?_
  refine wp_region_lit ?_
  refine st hF (g_assign hF rfl) rfl fun a hF => ?_
  refine wpList_nil ?_
  refine tN ?_
  refine sq ?_
  refine wp_region_lit ?_
  refine st hF (g_move hF rfl) rfl fun a hF => st hF (g_move hF rfl) rfl fun a hF => ?_
  refine stR hF (d_call Tryd.call9 hF (.cons rfl (.cons rfl .nil)) (markVectorS_0 (1) _ (by omega))) rfl ?_
  rintro _ w' a ⟨hx, rfl⟩ hF
  have hM := hM.ext hx
  refine st hF (g_assign hF rfl) rfl fun a hF => ?_
  refine wpList_nil ?_
  refine tN ?_
  refine sq ?_
  refine wp_region_lit ?_
  refine st hF (g_assign hF rfl) rfl fun a hF => ?_
  refine wpList_nil ?_
  refine tN ?_
  refine sq ?_
  refine wp_region_lit ?_
  refine st hF (g_move hF rfl) rfl fun a hF => st hF (g_move hF rfl) rfl fun a hF => ?_
  refine stR hF (d_call Tryd.call10 hF (.cons rfl (.cons rfl .nil)) (heldVectorS_0 (1) _ (by omega))) rfl ?_
  rintro _ w' a ⟨hx, rfl⟩ hF
  have hM := hM.ext hx
  refine st hF (g_assign hF rfl) rfl fun a hF => ?_
  refine wpList_nil ?_
  refine tN ?_
  refine sq ?_
  refine sq ?_
  refine wp_region_lit ?_
  refine st hF (g_move hF rfl) rfl fun a hF => st hF (g_lss hF rfl rfl) rfl fun a hF => ?_
  refine wpList_nil ?_
  refine tN ?_
  refine c_cond hF rfl (fun h3 => ?_) (fun h3 => ?_)
  ·
    first | exact absurd rfl h3 | (exfalso; omega)
  ·
    refine wp_skip ?_
    refine tN ?_
    refine sq ?_
    refine sq ?_
    refine wp_region_lit ?_
    refine st hF (g_move hF rfl) rfl fun a hF => st hF (g_move hF rfl) rfl fun a hF => st hF (g_neq hF rfl rfl) rfl fun a hF => ?_
    refine wpList_nil ?_
    refine tN ?_
    refine c_kF hF rfl (by decide) ?_
    refine wp_skip ?_
    refine tN ?_
    refine sq ?_
    refine wp_region_lit ?_
    refine st hF (g_loadAgg ty_ag_26 hF rfl (hM.row 0 rfl) (by simp only [fnC_size, cells_size, vecC_size, tabC_size, planeC_size, dgC_size, numC_sz, ldB_size, mrk_size] <;> omega) (whole cells_size)) rfl fun a hF => ?_
    refine stR hF (d_call Tryd.call6 hF (.cons rfl .nil) (toAlgebra_ok p n T f _)) rfl ?_
    rintro _ w' a ⟨hx, rfl⟩ hF
    have hM := hM.ext hx
    refine stR hF (d_call Tryd.call7 hF (.cons rfl .nil) (NilradicalOfI_A p n T f _ hT hf hc)) rfl ?_
    rintro _ w' a ⟨hx, rfl⟩ hF
    have hM := hM.ext hx
    refine st hF (g_move hF rfl) rfl fun a hF => st hF (g_extract hF rfl rfl) rfl fun a hF => st hF (g_extract hF rfl rfl) rfl fun a hF => st hF (g_assign hF rfl) rfl fun a hF => st hF (g_assign hF rfl) rfl fun a hF => ?_
    refine wpList_nil ?_
    refine tN ?_
    refine sq ?_
    refine sq ?_
    refine wp_region_lit ?_
    refine st hF (g_move hF rfl) rfl fun a hF => st hF (g_move hF rfl) rfl fun a hF => ?_
    refine stR hF (d_call Tryd.call8 hF (.cons rfl (.cons rfl .nil)) (eqVectorS_0 _)) rfl ?_
    rintro _ w' a ⟨hx, rfl⟩ hF
    have hM := hM.ext hx
    refine st hF (g_not hF rfl) rfl fun a hF => st hF (g_move hF rfl) rfl fun a hF => stY hF rfl rfl rfl (g_move hF rfl) rfl fun a hF => stY hF rfl rfl rfl (g_move hF rfl) rfl fun a hF => stY hF rfl rfl rfl (g_neq hF rfl rfl) rfl fun a hF => st hF (g_pickF hF rfl rfl) rfl fun a hF => ?_
    refine wpList_nil ?_
    refine tN ?_
    refine c_kF hF rfl (by decide) ?_
    refine wp_skip ?_
    refine tN ?_
    refine sq ?_
    refine wp_region_lit ?_
    refine st hF (g_assign hF rfl) rfl fun a hF => ?_
    refine wpList_nil ?_
    refine tN ?_
    refine sq ?_
    refine wp_region_lit ?_
    refine st hF (g_move hF rfl) rfl fun a hF => st hF (g_move hF rfl) rfl fun a hF => ?_
    refine stR hF (d_call Tryd.call10 hF (.cons rfl (.cons rfl .nil)) (heldVectorS_0 (1) _ (by omega))) rfl ?_
    rintro _ w' a ⟨hx, rfl⟩ hF
    have hM := hM.ext hx
    refine st hF (g_assign hF rfl) rfl fun a hF => ?_
    refine wpList_nil ?_
    refine tN ?_
    refine sq ?_
    refine sq ?_
    refine wp_region_lit ?_
    refine st hF (g_move hF rfl) rfl fun a hF => st hF (g_lss hF rfl rfl) rfl fun a hF => ?_
    refine wpList_nil ?_
    refine tN ?_
    refine c_kF hF rfl h3 ?_
    refine wp_skip ?_
    refine tN ?_
    refine sq ?_
    refine sq ?_
    refine wp_region_lit ?_
    refine st hF (g_move hF rfl) rfl fun a hF => st hF (g_move hF rfl) rfl fun a hF => st hF (g_neq hF rfl rfl) rfl fun a hF => ?_
    refine wpList_nil ?_
    refine tN ?_
    refine c_kF hF rfl (by decide) ?_
    refine wp_skip ?_
    refine tN ?_
    refine sq ?_
    refine wp_region_lit ?_
    refine st hF (g_assign hF rfl) rfl fun a hF => ?_
    refine wpList_nil ?_
    refine tN ?_
    refine wp_ret ?_
    refine fin1 rfl hF.defers (res_tmp hF rfl) ⟨_, rfl, hM.below, ?_⟩
    show _ = _
    rfl

theorem law_NilradicalOfN (p n : Nat) (T : Nat → Nat → Nat → Nat) (f : Nat → Nat) (ev : Value) (w : World) (hp : primeN p) (hn0 : 0 < n) (hn : n ≤ 6) (hTp : ∀ i j k, T i j k < p) (hT0 : ∀ i j k, n ≤ k → T i j k = 0) (hf : ∀ i, f i ≤ 255) (hc : CodeP (p : Int) (n : Int) T f 0 (vAtL [])) (hcom : ¬ comP T) (hg : Blk w 0 #[.iface 92 ev]) :
    CallsR Tryd.prog 3 #[.agg (algC (p : Int) (n : Int) T f)] w (fun res _ => res = .bool true) := by
  refine calls_fr [.agg (algC (p : Int) (n : Int) T f)] Tryd.func3 rfl Tryd.ntmps3 rfl fun a hF => ?_
  have hM : Mem w w [none, none, none, none] [(0, #[.iface 92 ev])] := MemX.startD w 4 _ (startD1 hg)
  change Fr 66 a [(0, .agg (algC (p : Int) (n : Int) T f))] at hF
  have hp2 := hp.two
  have hp13 := hp.le
  have hT : ∀ i j k, T i j k ≤ 255 := fun i j k => by have := hTp i j k; omega
  refine sq ?_
  refine wp_region_lit ?_
  refine stR hF (d_box 0 hM hF rfl) rfl ?_
  rintro _ w' a ⟨b1, rfl, hM, -⟩ hF
  change Mem w w' [some (b1, algC (p : Int) (n : Int) T f), none, none, none] [(0, #[.iface 92 ev])] at hM
  refine st hF (g_assign hF rfl) rfl fun a hF => ?_
  refine wpList_nil ?_
  refine tN ?_
  refine sq ?_
  refine wp_region_lit ?_
  refine st hF (g_loadAgg ty_ag_26 hF rfl (hM.row 0 rfl) (by simp only [fnC_size, cells_size, vecC_size, tabC_size, planeC_size, dgC_size, numC_sz, ldB_size, mrk_size] <;> omega) (whole cells_size)) rfl fun a hF => ?_
  refine stR hF (d_call Tryd.call6 hF (.cons rfl .nil) (toAlgebra_ok (p : Int) (n : Int) T f _)) rfl ?_
  rintro _ w' a ⟨hx, rfl⟩ hF
  have hM := hM.ext hx
  refine stR hF (d_call Tryd.call5 hF (.cons rfl .nil) (NilradicalOfS_N p n T f _ hp hn0 hn hTp hT0 hf hc hcom)) rfl ?_
  rintro _ w' a ⟨hx, rfl⟩ hF
  have hM := hM.ext hx
  refine st hF (g_move hF rfl) rfl fun a hF => st hF (g_extract hF rfl rfl) rfl fun a hF => st hF (g_extract hF rfl rfl) rfl fun a hF => st hF (g_assign hF rfl) rfl fun a hF => st hF (g_assign hF rfl) rfl fun a hF => ?_
  refine wpList_nil ?_
  refine tN ?_
  refine sq ?_
  refine wp_region_lit ?_
  refine st hF (g_loadAgg ty_ag_26 hF rfl (hM.row 0 rfl) (by simp only [fnC_size, cells_size, vecC_size, tabC_size, planeC_size, dgC_size, numC_sz, ldB_size, mrk_size] <;> omega) (whole cells_size)) rfl fun a hF => ?_
  refine stR hF (d_call Tryd.call6 hF (.cons rfl .nil) (toAlgebra_ok (p : Int) (n : Int) T f _)) rfl ?_
  rintro _ w' a ⟨hx, rfl⟩ hF
  have hM := hM.ext hx
  refine stR hF (d_call Tryd.call7 hF (.cons rfl .nil) (NilradicalOfI_N p n T f ev _ hp hn0 hn hTp hT0 hf hc hcom (hM.fz 0 rfl))) rfl ?_
  rintro _ w' a ⟨hx, rfl⟩ hF
  have hM := hM.ext hx
  refine st hF (g_move hF rfl) rfl fun a hF => st hF (g_extract hF rfl rfl) rfl fun a hF => st hF (g_extract hF rfl rfl) rfl fun a hF => st hF (g_assign hF rfl) rfl fun a hF => st hF (g_assign hF rfl) rfl fun a hF => ?_
  refine wpList_nil ?_
  refine tN ?_
  refine sq ?_
  refine sq ?_
  refine wp_region_lit ?_
  refine st hF (g_move hF rfl) rfl fun a hF => st hF (g_move hF rfl) rfl fun a hF => ?_
  refine stR hF (d_call Tryd.call8 hF (.cons rfl (.cons rfl .nil)) (eqVectorS_0 _)) rfl ?_
  rintro _ w' a ⟨hx, rfl⟩ hF
  have hM := hM.ext hx
  refine st hF (g_not hF rfl) rfl fun a hF => st hF (g_move hF rfl) rfl fun a hF => stY hF rfl rfl rfl (g_move hF rfl) rfl fun a hF => stY hF rfl rfl rfl (g_move hF rfl) rfl fun a hF => stY hF rfl rfl rfl (g_neq hF rfl rfl) rfl fun a hF => st hF (g_pickF hF rfl rfl) rfl fun a hF => ?_
  refine wpList_nil ?_
  refine tN ?_
  refine c_kF hF rfl (by decide) ?_
  refine wp_skip ?_
  refine tN ?_
  refine sq ?_
  refine wp_region_lit ?_
  refine st hF (g_assign hF rfl) rfl fun a hF => ?_
  refine wpList_nil ?_
  refine tN ?_
  refine sq ?_
  refine wp_region_lit ?_
  refine st hF (g_move hF rfl) rfl fun a hF => st hF (g_move hF rfl) rfl fun a hF => ?_
  refine stR hF (d_call Tryd.call9 hF (.cons rfl (.cons rfl .nil)) (markVectorS_0 (1) _ (by omega))) rfl ?_
  rintro _ w' a ⟨hx, rfl⟩ hF
  have hM := hM.ext hx
  refine st hF (g_assign hF rfl) rfl fun a hF => ?_
  refine wpList_nil ?_
  refine tN ?_
  refine sq ?_
  refine wp_region_lit ?_
  refine st hF (g_assign hF rfl) rfl fun a hF => ?_
  refine wpList_nil ?_
  refine tN ?_
  refine sq ?_
  refine wp_region_lit ?_
  refine st hF (g_move hF rfl) rfl fun a hF => st hF (g_move hF rfl) rfl fun a hF => ?_
  refine stR hF (d_call Tryd.call10 hF (.cons rfl (.cons rfl .nil)) (heldVectorS_0 (1) _ (by omega))) rfl ?_
  rintro _ w' a ⟨hx, rfl⟩ hF
  have hM := hM.ext hx
  refine st hF (g_assign hF rfl) rfl fun a hF => ?_
  refine wpList_nil ?_
  refine tN ?_
  refine sq ?_
  refine sq ?_
  refine wp_region_lit ?_
  refine st hF (g_move hF rfl) rfl fun a hF => st hF (g_lss hF rfl rfl) rfl fun a hF => ?_
  refine wpList_nil ?_
  refine tN ?_
  refine c_cond hF rfl (fun h3 => ?_) (fun h3 => ?_)
  ·
    first | exact absurd rfl h3 | (exfalso; omega)
  ·
    refine wp_skip ?_
    refine tN ?_
    refine sq ?_
    refine sq ?_
    refine wp_region_lit ?_
    refine st hF (g_move hF rfl) rfl fun a hF => st hF (g_move hF rfl) rfl fun a hF => st hF (g_neq hF rfl rfl) rfl fun a hF => ?_
    refine wpList_nil ?_
    refine tN ?_
    refine c_kF hF rfl (by decide) ?_
    refine wp_skip ?_
    refine tN ?_
    refine sq ?_
    refine wp_region_lit ?_
    refine st hF (g_loadAgg ty_ag_26 hF rfl (hM.row 0 rfl) (by simp only [fnC_size, cells_size, vecC_size, tabC_size, planeC_size, dgC_size, numC_sz, ldB_size, mrk_size] <;> omega) (whole cells_size)) rfl fun a hF => ?_
    refine stR hF (d_call Tryd.call6 hF (.cons rfl .nil) (toAlgebra_ok (p : Int) (n : Int) T f _)) rfl ?_
    rintro _ w' a ⟨hx, rfl⟩ hF
    have hM := hM.ext hx
    refine stR hF (d_call Tryd.call7 hF (.cons rfl .nil) (NilradicalOfI_N p n T f ev _ hp hn0 hn hTp hT0 hf hc hcom (hM.fz 0 rfl))) rfl ?_
    rintro _ w' a ⟨hx, rfl⟩ hF
    have hM := hM.ext hx
    refine st hF (g_move hF rfl) rfl fun a hF => st hF (g_extract hF rfl rfl) rfl fun a hF => st hF (g_extract hF rfl rfl) rfl fun a hF => st hF (g_assign hF rfl) rfl fun a hF => st hF (g_assign hF rfl) rfl fun a hF => ?_
    refine wpList_nil ?_
    refine tN ?_
    refine sq ?_
    refine sq ?_
    refine wp_region_lit ?_
    refine st hF (g_move hF rfl) rfl fun a hF => st hF (g_move hF rfl) rfl fun a hF => ?_
    refine stR hF (d_call Tryd.call8 hF (.cons rfl (.cons rfl .nil)) (eqVectorS_0 _)) rfl ?_
    rintro _ w' a ⟨hx, rfl⟩ hF
    have hM := hM.ext hx
    refine st hF (g_not hF rfl) rfl fun a hF => st hF (g_move hF rfl) rfl fun a hF => stY hF rfl rfl rfl (g_move hF rfl) rfl fun a hF => stY hF rfl rfl rfl (g_move hF rfl) rfl fun a hF => stY hF rfl rfl rfl (g_neq hF rfl rfl) rfl fun a hF => st hF (g_pickF hF rfl rfl) rfl fun a hF => ?_
    refine wpList_nil ?_
    refine tN ?_
    refine c_kF hF rfl (by decide) ?_
    refine wp_skip ?_
    refine tN ?_
    refine sq ?_
    refine wp_region_lit ?_
    refine st hF (g_assign hF rfl) rfl fun a hF => ?_
    refine wpList_nil ?_
    refine tN ?_
    refine sq ?_
    refine wp_region_lit ?_
    refine st hF (g_move hF rfl) rfl fun a hF => st hF (g_move hF rfl) rfl fun a hF => ?_
    refine stR hF (d_call Tryd.call10 hF (.cons rfl (.cons rfl .nil)) (heldVectorS_0 (1) _ (by omega))) rfl ?_
    rintro _ w' a ⟨hx, rfl⟩ hF
    have hM := hM.ext hx
    refine st hF (g_assign hF rfl) rfl fun a hF => ?_
    refine wpList_nil ?_
    refine tN ?_
    refine sq ?_
    refine sq ?_
    refine wp_region_lit ?_
    refine st hF (g_move hF rfl) rfl fun a hF => st hF (g_lss hF rfl rfl) rfl fun a hF => ?_
    refine wpList_nil ?_
    refine tN ?_
    refine c_kF hF rfl h3 ?_
    refine wp_skip ?_
    refine tN ?_
    refine sq ?_
    refine sq ?_
    refine wp_region_lit ?_
    refine st hF (g_move hF rfl) rfl fun a hF => st hF (g_move hF rfl) rfl fun a hF => st hF (g_neq hF rfl rfl) rfl fun a hF => ?_
    refine wpList_nil ?_
    refine tN ?_
    refine c_kF hF rfl (by decide) ?_
    refine wp_skip ?_
    refine tN ?_
    refine sq ?_
    refine wp_region_lit ?_
    refine st hF (g_assign hF rfl) rfl fun a hF => ?_
    refine wpList_nil ?_
    refine tN ?_
    refine wp_ret ?_
    refine fin1 rfl hF.defers (res_tmp hF rfl) ⟨_, rfl, hM.below, ?_⟩
    show _ = _
    rfl

theorem law_NilradicalOfY (p n : Nat) (T : Nat → Nat → Nat → Nat) (f : Nat → Nat) (R0 : Nat) (W : Nat → Nat → Nat) (w : World) (hp : primeN p) (hn0 : 0 < n) (hn : n ≤ 6) (hTp : ∀ i j k, T i j k < p) (hT0 : ∀ i j k, n ≤ k → T i j k = 0) (hf : ∀ i, f i ≤ 255) (hc : CodeP (p : Int) (n : Int) T f 0 (vAtL [])) (hcom : comP T) (uu : Nat → Nat) (huu : UnitI p n T uu) (hne : ∀ k E ld, Rref p n E k ld → (∀ x, Ker p n E k x ↔ Ker p n (fun r c => imP p n T uu (kkE p (nilE p n)) c r) n x) → 0 < nf k ld n) (hpos : ∀ r V, IsKer p n (fun r c => imP p n T uu (kkE p (nilE p n)) c r) n r V → 0 < r) (hW : IsKer p n (fun r c => imP p n T uu (kkE p (nilE p n)) c r) n R0 W) :
    CallsR Tryd.prog 3 #[.agg (algC (p : Int) (n : Int) T f)] w (fun res _ => res = .bool true) := by
  refine calls_fr [.agg (algC (p : Int) (n : Int) T f)] Tryd.func3 rfl Tryd.ntmps3 rfl fun a hF => ?_
  have hM : Mem w w [none, none, none, none] [] := MemX.start w 4
  change Fr 66 a [(0, .agg (algC (p : Int) (n : Int) T f))] at hF
  have hp2 := hp.two
  have hp13 := hp.le
  have hT : ∀ i j k, T i j k ≤ 255 := fun i j k => by have := hTp i j k; omega
  have hR6 := isKer_le hW
  have hvf : ∀ i c, (cutR n R0 W) i c ≤ 255 := fun i c => by unfold cutR; split; (rename_i q; have := isKer_small hW i q.1 c q.2; omega); omega
  refine sq ?_
  refine wp_region_lit ?_
  refine stR hF (d_box 0 hM hF rfl) rfl ?_
  rintro _ w' a ⟨b1, rfl, hM, -⟩ hF
  change Mem w w' [some (b1, algC (p : Int) (n : Int) T f), none, none, none] [] at hM
  refine st hF (g_assign hF rfl) rfl fun a hF => ?_
  refine wpList_nil ?_
  refine tN ?_
  refine sq ?_
  refine wp_region_lit ?_
  refine st hF (g_loadAgg ty_ag_26 hF rfl (hM.row 0 rfl) (by simp only [fnC_size, cells_size, vecC_size, tabC_size, planeC_size, dgC_size, numC_sz, ldB_size, mrk_size] <;> omega) (whole cells_size)) rfl fun a hF => ?_
  refine stR hF (d_call Tryd.call6 hF (.cons rfl .nil) (toAlgebra_ok (p : Int) (n : Int) T f _)) rfl ?_
  rintro _ w' a ⟨hx, rfl⟩ hF
  have hM := hM.ext hx
  refine stR hF (d_call Tryd.call5 hF (.cons rfl .nil) (NilradicalOfS_W p n T f R0 W _ hp hn0 hn hTp hT0 hf hc hcom uu huu hne hpos hW)) rfl ?_
  rintro u w' a ⟨hx, ul, rfl, blW, clW, csW, hlW, hgl, hbl⟩ hF
  obtain rfl := hlW.val
  have hM := hM.fill hx 1 hbl hgl
  change Mem w w' [some (b1, algC (p : Int) (n : Int) T f), some (blW, csW), none, none] [] at hM
  refine st hF (g_move hF rfl) rfl fun a hF => st hF (g_extract hF rfl rfl) rfl fun a hF => st hF (g_extract hF rfl rfl) rfl fun a hF => st hF (g_assign hF rfl) rfl fun a hF => st hF (g_assign hF rfl) rfl fun a hF => ?_
  refine wpList_nil ?_
  refine tN ?_
  refine sq ?_
  refine wp_region_lit ?_
  refine st hF (g_loadAgg ty_ag_26 hF rfl (hM.row 0 rfl) (by simp only [fnC_size, cells_size, vecC_size, tabC_size, planeC_size, dgC_size, numC_sz, ldB_size, mrk_size] <;> omega) (whole cells_size)) rfl fun a hF => ?_
  refine stR hF (d_call Tryd.call6 hF (.cons rfl .nil) (toAlgebra_ok (p : Int) (n : Int) T f _)) rfl ?_
  rintro _ w' a ⟨hx, rfl⟩ hF
  have hM := hM.ext hx
  refine stR hF (d_call Tryd.call7 hF (.cons rfl .nil) (NilradicalOfI_W p n T f R0 W _ hp hn0 hn hTp hT0 hf hc hcom uu huu hne hpos hW)) rfl ?_
  rintro u w' a ⟨hx, ul, rfl, blG, clG, csG, hlG, hgl, hbl⟩ hF
  obtain rfl := hlG.val
  have hM := hM.fill hx 2 hbl hgl
  change Mem w w' [some (b1, algC (p : Int) (n : Int) T f), some (blW, csW), some (blG, csG), none] [] at hM
  refine st hF (g_move hF rfl) rfl fun a hF => st hF (g_extract hF rfl rfl) rfl fun a hF => st hF (g_extract hF rfl rfl) rfl fun a hF => st hF (g_assign hF rfl) rfl fun a hF => st hF (g_assign hF rfl) rfl fun a hF => ?_
  refine wpList_nil ?_
  refine tN ?_
  refine sq ?_
  refine sq ?_
  refine wp_region_lit ?_
  refine st hF (g_move hF rfl) rfl fun a hF => st hF (g_move hF rfl) rfl fun a hF => ?_
  refine stR hF (d_call Tryd.call8 hF (.cons rfl (.cons rfl .nil)) (eqVectorS_ok blG clG blW clW R0 csG csW _ _ _ _ (cutR n R0 W) (cutR n R0 W) _ (by omega) hlG (hM.row 2 rfl) hlW (hM.row 1 rfl) hvf hvf (fun _ _ _ _ => rfl))) rfl ?_
  rintro _ w' a ⟨hx, rfl⟩ hF
  have hM := hM.ext hx
  refine st hF (g_not hF rfl) rfl fun a hF => st hF (g_move hF rfl) rfl fun a hF => stY hF rfl rfl rfl (g_move hF rfl) rfl fun a hF => stY hF rfl rfl rfl (g_move hF rfl) rfl fun a hF => stY hF rfl rfl rfl (g_neq hF rfl rfl) rfl fun a hF => st hF (g_pickF hF rfl rfl) rfl fun a hF => ?_
  refine wpList_nil ?_
  refine tN ?_
  refine c_kF hF rfl (by decide) ?_
  refine wp_skip ?_
  refine tN ?_
  refine sq ?_
  refine wp_region_lit ?_
  refine st hF (g_assign hF rfl) rfl fun a hF => ?_
  refine wpList_nil ?_
  refine tN ?_
  refine sq ?_
  refine wp_region_lit ?_
  refine st hF (g_move hF rfl) rfl fun a hF => st hF (g_move hF rfl) rfl fun a hF => ?_
  obtain ⟨Zq, xq, hmk, hZq⟩ : ∃ (Z : Nat) (xs : Nat → Value), csG = mrk Z (1) 0 xs ∧ R0 * 6 ≤ Z := ⟨_, _, mrk_self csG, by have := hlG.sz; have := hlG.le; omega⟩
  have hM := hM.rowc (cs' := mrk Zq (1) 0 xq) 2 rfl hmk
  refine stR hF (d_callX Tryd.call9 hF (.cons rfl (.cons rfl .nil)) (markVectorS_ok blG clG R0 (1) Zq xq _ (by omega) (by omega) hZq (hM.row 2 rfl))) rfl ?_
  rintro _ w' a ⟨hx, rfl, hbk⟩ hF
  have hM := hM.upd 2 rfl hx hbk
  change Mem w w' [some (b1, algC (p : Int) (n : Int) T f), some (blW, csW), some (blG, mrk Zq (1) (R0 * 6) xq), none] [] at hM
  refine st hF (g_assign hF rfl) rfl fun a hF => ?_
  refine wpList_nil ?_
  refine tN ?_
  refine sq ?_
  refine wp_region_lit ?_
  refine st hF (g_assign hF rfl) rfl fun a hF => ?_
  refine wpList_nil ?_
  refine tN ?_
  refine sq ?_
  refine wp_region_lit ?_
  refine st hF (g_move hF rfl) rfl fun a hF => st hF (g_move hF rfl) rfl fun a hF => ?_
  refine stR hF (d_callX Tryd.call10 hF (.cons rfl (.cons rfl .nil)) (heldVectorS_ok blG clG R0 (1) Zq xq _ (by omega) (by omega) hZq (hM.row 2 rfl))) rfl ?_
  rintro _ w' a ⟨hx, rfl, hbk⟩ hF
  have hM := hM.upd 2 rfl hx hbk
  change Mem w w' [some (b1, algC (p : Int) (n : Int) T f), some (blW, csW), some (blG, mrk Zq (1) (R0 * 6) xq), none] [] at hM
  refine st hF (g_assign hF rfl) rfl fun a hF => ?_
  refine wpList_nil ?_
  refine tN ?_
  refine sq ?_
  refine sq ?_
  refine wp_region_lit ?_
  refine st hF (g_move hF rfl) rfl fun a hF => st hF (g_lss hF rfl rfl) rfl fun a hF => ?_
  refine wpList_nil ?_
  refine tN ?_
  refine c_cond hF rfl (fun h3 => ?_) (fun h3 => ?_)
  ·
    first | exact absurd rfl h3 | (exfalso; omega)
  ·
    refine wp_skip ?_
    refine tN ?_
    refine sq ?_
    refine sq ?_
    refine wp_region_lit ?_
    refine st hF (g_move hF rfl) rfl fun a hF => st hF (g_move hF rfl) rfl fun a hF => st hF (g_neq hF rfl rfl) rfl fun a hF => ?_
    refine wpList_nil ?_
    refine tN ?_
    refine c_cond hF rfl (fun h4 => ?_) (fun h4 => ?_)
    ·
      first | exact absurd rfl h4 | (exfalso; omega)
    ·
      refine wp_skip ?_
      refine tN ?_
      refine sq ?_
      refine wp_region_lit ?_
      refine st hF (g_loadAgg ty_ag_26 hF rfl (hM.row 0 rfl) (by simp only [fnC_size, cells_size, vecC_size, tabC_size, planeC_size, dgC_size, numC_sz, ldB_size, mrk_size] <;> omega) (whole cells_size)) rfl fun a hF => ?_
      refine stR hF (d_call Tryd.call6 hF (.cons rfl .nil) (toAlgebra_ok (p : Int) (n : Int) T f _)) rfl ?_
      rintro _ w' a ⟨hx, rfl⟩ hF
      have hM := hM.ext hx
      refine stR hF (d_call Tryd.call7 hF (.cons rfl .nil) (NilradicalOfI_W p n T f R0 W _ hp hn0 hn hTp hT0 hf hc hcom uu huu hne hpos hW)) rfl ?_
      rintro u w' a ⟨hx, ul, rfl, blH, clH, csH, hlH, hgl, hbl⟩ hF
      obtain rfl := hlH.val
      have hM := hM.fill hx 3 hbl hgl
      change Mem w w' [some (b1, algC (p : Int) (n : Int) T f), some (blW, csW), some (blG, mrk Zq (1) (R0 * 6) xq), some (blH, csH)] [] at hM
      refine st hF (g_move hF rfl) rfl fun a hF => st hF (g_extract hF rfl rfl) rfl fun a hF => st hF (g_extract hF rfl rfl) rfl fun a hF => st hF (g_assign hF rfl) rfl fun a hF => st hF (g_assign hF rfl) rfl fun a hF => ?_
      refine wpList_nil ?_
      refine tN ?_
      refine sq ?_
      refine sq ?_
      refine wp_region_lit ?_
      refine st hF (g_move hF rfl) rfl fun a hF => st hF (g_move hF rfl) rfl fun a hF => ?_
      refine stR hF (d_call Tryd.call8 hF (.cons rfl (.cons rfl .nil)) (eqVectorS_ok blH clH blW clW R0 csH csW _ _ _ _ (cutR n R0 W) (cutR n R0 W) _ (by omega) hlH (hM.row 3 rfl) hlW (hM.row 1 rfl) hvf hvf (fun _ _ _ _ => rfl))) rfl ?_
      rintro _ w' a ⟨hx, rfl⟩ hF
      have hM := hM.ext hx
      refine st hF (g_not hF rfl) rfl fun a hF => st hF (g_move hF rfl) rfl fun a hF => stY hF rfl rfl rfl (g_move hF rfl) rfl fun a hF => stY hF rfl rfl rfl (g_move hF rfl) rfl fun a hF => stY hF rfl rfl rfl (g_neq hF rfl rfl) rfl fun a hF => st hF (g_pickF hF rfl rfl) rfl fun a hF => ?_
      refine wpList_nil ?_
      refine tN ?_
      refine c_kF hF rfl (by decide) ?_
      refine wp_skip ?_
      refine tN ?_
      refine sq ?_
      refine wp_region_lit ?_
      refine st hF (g_assign hF rfl) rfl fun a hF => ?_
      refine wpList_nil ?_
      refine tN ?_
      refine sq ?_
      refine wp_region_lit ?_
      refine st hF (g_move hF rfl) rfl fun a hF => st hF (g_move hF rfl) rfl fun a hF => ?_
      refine stR hF (d_callX Tryd.call10 hF (.cons rfl (.cons rfl .nil)) (heldVectorS_ok blG clG R0 (1) Zq xq _ (by omega) (by omega) hZq (hM.row 2 rfl))) rfl ?_
      rintro _ w' a ⟨hx, rfl, hbk⟩ hF
      have hM := hM.upd 2 rfl hx hbk
      change Mem w w' [some (b1, algC (p : Int) (n : Int) T f), some (blW, csW), some (blG, mrk Zq (1) (R0 * 6) xq), some (blH, csH)] [] at hM
      refine st hF (g_assign hF rfl) rfl fun a hF => ?_
      refine wpList_nil ?_
      refine tN ?_
      refine sq ?_
      refine sq ?_
      refine wp_region_lit ?_
      refine st hF (g_move hF rfl) rfl fun a hF => st hF (g_lss hF rfl rfl) rfl fun a hF => ?_
      refine wpList_nil ?_
      refine tN ?_
      refine c_kF hF rfl h3 ?_
      refine wp_skip ?_
      refine tN ?_
      refine sq ?_
      refine sq ?_
      refine wp_region_lit ?_
      refine st hF (g_move hF rfl) rfl fun a hF => st hF (g_move hF rfl) rfl fun a hF => st hF (g_neq hF rfl rfl) rfl fun a hF => ?_
      refine wpList_nil ?_
      refine tN ?_
      refine c_kF hF rfl h4 ?_
      refine wp_skip ?_
      refine tN ?_
      refine sq ?_
      refine wp_region_lit ?_
      refine st hF (g_assign hF rfl) rfl fun a hF => ?_
      refine wpList_nil ?_
      refine tN ?_
      refine wp_ret ?_
      refine fin1 rfl hF.defers (res_tmp hF rfl) ⟨_, rfl, hM.below, ?_⟩
      show _ = _
      rfl

theorem law_NilradicalOfZ (p n : Nat) (T : Nat → Nat → Nat → Nat) (f : Nat → Nat) (w : World) (hp : primeN p) (hn0 : 0 < n) (hn : n ≤ 6) (hTp : ∀ i j k, T i j k < p) (hT0 : ∀ i j k, n ≤ k → T i j k = 0) (hf : ∀ i, f i ≤ 255) (hc : CodeP (p : Int) (n : Int) T f 0 (vAtL [])) (hcom : comP T) (uu : Nat → Nat) (huu : UnitI p n T uu) (hzk : ∀ k E ld, Rref p n E k ld → (∀ x, Ker p n E k x ↔ Ker p n (fun r c => imP p n T uu (kkE p (nilE p n)) c r) n x) → nf k ld n = 0) :
    CallsR Tryd.prog 3 #[.agg (algC (p : Int) (n : Int) T f)] w (fun res _ => res = .bool true) := by
  refine calls_fr [.agg (algC (p : Int) (n : Int) T f)] Tryd.func3 rfl Tryd.ntmps3 rfl fun a hF => ?_
  have hM : Mem w w [none, none, none, none] [] := MemX.start w 4
  change Fr 66 a [(0, .agg (algC (p : Int) (n : Int) T f))] at hF
  have hp2 := hp.two
  have hp13 := hp.le
  have hT : ∀ i j k, T i j k ≤ 255 := fun i j k => by have := hTp i j k; omega
  refine sq ?_
  refine wp_region_lit ?_
  refine stR hF (d_box 0 hM hF rfl) rfl ?_
  rintro _ w' a ⟨b1, rfl, hM, -⟩ hF
  change Mem w w' [some (b1, algC (p : Int) (n : Int) T f), none, none, none] [] at hM
  refine st hF (g_assign hF rfl) rfl fun a hF => ?_
  refine wpList_nil ?_
  refine tN ?_
  refine sq ?_
  refine wp_region_lit ?_
  refine st hF (g_loadAgg ty_ag_26 hF rfl (hM.row 0 rfl) (by simp only [fnC_size, cells_size, vecC_size, tabC_size, planeC_size, dgC_size, numC_sz, ldB_size, mrk_size] <;> omega) (whole cells_size)) rfl fun a hF => ?_
  refine stR hF (d_call Tryd.call6 hF (.cons rfl .nil) (toAlgebra_ok (p : Int) (n : Int) T f _)) rfl ?_
  rintro _ w' a ⟨hx, rfl⟩ hF
  have hM := hM.ext hx
  refine stR hF (d_call Tryd.call5 hF (.cons rfl .nil) (NilradicalOfS_Z p n T f _ hp hn0 hn hTp hT0 hf hc hcom uu huu hzk)) rfl ?_
  rintro _ w' a ⟨hx, b2, rfl, hge, hbk⟩ hF
  have hM := hM.fill hx 1 hbk hge
  change Mem w w' [some (b1, algC (p : Int) (n : Int) T f), some (b2, #[]), none, none] [] at hM
  refine st hF (g_move hF rfl) rfl fun a hF => st hF (g_extract hF rfl rfl) rfl fun a hF => st hF (g_extract hF rfl rfl) rfl fun a hF => st hF (g_assign hF rfl) rfl fun a hF => st hF (g_assign hF rfl) rfl fun a hF => ?_
  refine wpList_nil ?_
  refine tN ?_
  refine sq ?_
  refine wp_region_lit ?_
  refine st hF (g_loadAgg ty_ag_26 hF rfl (hM.row 0 rfl) (by simp only [fnC_size, cells_size, vecC_size, tabC_size, planeC_size, dgC_size, numC_sz, ldB_size, mrk_size] <;> omega) (whole cells_size)) rfl fun a hF => ?_
  refine stR hF (d_call Tryd.call6 hF (.cons rfl .nil) (toAlgebra_ok (p : Int) (n : Int) T f _)) rfl ?_
  rintro _ w' a ⟨hx, rfl⟩ hF
  have hM := hM.ext hx
  refine stR hF (d_call Tryd.call7 hF (.cons rfl .nil) (NilradicalOfI_Z p n T f _ hp hn0 hn hTp hT0 hf hc hcom uu huu hzk)) rfl ?_
  rintro _ w' a ⟨hx, rfl⟩ hF
  have hM := hM.ext hx
  refine st hF (g_move hF rfl) rfl fun a hF => st hF (g_extract hF rfl rfl) rfl fun a hF => st hF (g_extract hF rfl rfl) rfl fun a hF => st hF (g_assign hF rfl) rfl fun a hF => st hF (g_assign hF rfl) rfl fun a hF => ?_
  refine wpList_nil ?_
  refine tN ?_
  refine sq ?_
  refine sq ?_
  refine wp_region_lit ?_
  refine st hF (g_move hF rfl) rfl fun a hF => st hF (g_move hF rfl) rfl fun a hF => ?_
  refine stR hF (d_call Tryd.call8 hF (.cons rfl (.cons rfl .nil)) (eqVectorS_E b2 _)) rfl ?_
  rintro _ w' a ⟨hx, rfl⟩ hF
  have hM := hM.ext hx
  refine st hF (g_not hF rfl) rfl fun a hF => st hF (g_move hF rfl) rfl fun a hF => stY hF rfl rfl rfl (g_move hF rfl) rfl fun a hF => stY hF rfl rfl rfl (g_move hF rfl) rfl fun a hF => stY hF rfl rfl rfl (g_neq hF rfl rfl) rfl fun a hF => st hF (g_pickF hF rfl rfl) rfl fun a hF => ?_
  refine wpList_nil ?_
  refine tN ?_
  refine c_kF hF rfl (by decide) ?_
  refine wp_skip ?_
  refine tN ?_
  refine sq ?_
  refine wp_region_lit ?_
  refine st hF (g_assign hF rfl) rfl fun a hF => ?_
  refine wpList_nil ?_
  refine tN ?_
  refine sq ?_
  refine wp_region_lit ?_
  refine st hF (g_move hF rfl) rfl fun a hF => st hF (g_move hF rfl) rfl fun a hF => ?_
  refine stR hF (d_call Tryd.call9 hF (.cons rfl (.cons rfl .nil)) (markVectorS_0 (1) _ (by omega))) rfl ?_
  rintro _ w' a ⟨hx, rfl⟩ hF
  have hM := hM.ext hx
  refine st hF (g_assign hF rfl) rfl fun a hF => ?_
  refine wpList_nil ?_
  refine tN ?_
  refine sq ?_
  refine wp_region_lit ?_
  refine st hF (g_assign hF rfl) rfl fun a hF => ?_
  refine wpList_nil ?_
  refine tN ?_
  refine sq ?_
  refine wp_region_lit ?_
  refine st hF (g_move hF rfl) rfl fun a hF => st hF (g_move hF rfl) rfl fun a hF => ?_
  refine stR hF (d_call Tryd.call10 hF (.cons rfl (.cons rfl .nil)) (heldVectorS_0 (1) _ (by omega))) rfl ?_
  rintro _ w' a ⟨hx, rfl⟩ hF
  have hM := hM.ext hx
  refine st hF (g_assign hF rfl) rfl fun a hF => ?_
  refine wpList_nil ?_
  refine tN ?_
  refine sq ?_
  refine sq ?_
  refine wp_region_lit ?_
  refine st hF (g_move hF rfl) rfl fun a hF => st hF (g_lss hF rfl rfl) rfl fun a hF => ?_
  refine wpList_nil ?_
  refine tN ?_
  refine c_cond hF rfl (fun h4 => ?_) (fun h4 => ?_)
  ·
    first | exact absurd rfl h4 | (exfalso; omega)
  ·
    refine wp_skip ?_
    refine tN ?_
    refine sq ?_
    refine sq ?_
    refine wp_region_lit ?_
    refine st hF (g_move hF rfl) rfl fun a hF => st hF (g_move hF rfl) rfl fun a hF => st hF (g_neq hF rfl rfl) rfl fun a hF => ?_
    refine wpList_nil ?_
    refine tN ?_
    refine c_kF hF rfl (by decide) ?_
    refine wp_skip ?_
    refine tN ?_
    refine sq ?_
    refine wp_region_lit ?_
    refine st hF (g_loadAgg ty_ag_26 hF rfl (hM.row 0 rfl) (by simp only [fnC_size, cells_size, vecC_size, tabC_size, planeC_size, dgC_size, numC_sz, ldB_size, mrk_size] <;> omega) (whole cells_size)) rfl fun a hF => ?_
    refine stR hF (d_call Tryd.call6 hF (.cons rfl .nil) (toAlgebra_ok (p : Int) (n : Int) T f _)) rfl ?_
    rintro _ w' a ⟨hx, rfl⟩ hF
    have hM := hM.ext hx
    refine stR hF (d_call Tryd.call7 hF (.cons rfl .nil) (NilradicalOfI_Z p n T f _ hp hn0 hn hTp hT0 hf hc hcom uu huu hzk)) rfl ?_
    rintro _ w' a ⟨hx, rfl⟩ hF
    have hM := hM.ext hx
    refine st hF (g_move hF rfl) rfl fun a hF => st hF (g_extract hF rfl rfl) rfl fun a hF => st hF (g_extract hF rfl rfl) rfl fun a hF => st hF (g_assign hF rfl) rfl fun a hF => st hF (g_assign hF rfl) rfl fun a hF => ?_
    refine wpList_nil ?_
    refine tN ?_
    refine sq ?_
    refine sq ?_
    refine wp_region_lit ?_
    refine st hF (g_move hF rfl) rfl fun a hF => st hF (g_move hF rfl) rfl fun a hF => ?_
    refine stR hF (d_call Tryd.call8 hF (.cons rfl (.cons rfl .nil)) (eqVectorS_E b2 _)) rfl ?_
    rintro _ w' a ⟨hx, rfl⟩ hF
    have hM := hM.ext hx
    refine st hF (g_not hF rfl) rfl fun a hF => st hF (g_move hF rfl) rfl fun a hF => stY hF rfl rfl rfl (g_move hF rfl) rfl fun a hF => stY hF rfl rfl rfl (g_move hF rfl) rfl fun a hF => stY hF rfl rfl rfl (g_neq hF rfl rfl) rfl fun a hF => st hF (g_pickF hF rfl rfl) rfl fun a hF => ?_
    refine wpList_nil ?_
    refine tN ?_
    refine c_kF hF rfl (by decide) ?_
    refine wp_skip ?_
    refine tN ?_
    refine sq ?_
    refine wp_region_lit ?_
    refine st hF (g_assign hF rfl) rfl fun a hF => ?_
    refine wpList_nil ?_
    refine tN ?_
    refine sq ?_
    refine wp_region_lit ?_
    refine st hF (g_move hF rfl) rfl fun a hF => st hF (g_move hF rfl) rfl fun a hF => ?_
    refine stR hF (d_call Tryd.call10 hF (.cons rfl (.cons rfl .nil)) (heldVectorS_0 (1) _ (by omega))) rfl ?_
    rintro _ w' a ⟨hx, rfl⟩ hF
    have hM := hM.ext hx
    refine st hF (g_assign hF rfl) rfl fun a hF => ?_
    refine wpList_nil ?_
    refine tN ?_
    refine sq ?_
    refine sq ?_
    refine wp_region_lit ?_
    refine st hF (g_move hF rfl) rfl fun a hF => st hF (g_lss hF rfl rfl) rfl fun a hF => ?_
    refine wpList_nil ?_
    refine tN ?_
    refine c_kF hF rfl h4 ?_
    refine wp_skip ?_
    refine tN ?_
    refine sq ?_
    refine sq ?_
    refine wp_region_lit ?_
    refine st hF (g_move hF rfl) rfl fun a hF => st hF (g_move hF rfl) rfl fun a hF => st hF (g_neq hF rfl rfl) rfl fun a hF => ?_
    refine wpList_nil ?_
    refine tN ?_
    refine c_kF hF rfl (by decide) ?_
    refine wp_skip ?_
    refine tN ?_
    refine sq ?_
    refine wp_region_lit ?_
    refine st hF (g_assign hF rfl) rfl fun a hF => ?_
    refine wpList_nil ?_
    refine tN ?_
    refine wp_ret ?_
    refine fin1 rfl hF.defers (res_tmp hF rfl) ⟨_, rfl, hM.below, ?_⟩
    show _ = _
    rfl

theorem law_NilradicalOf (p n : Int) (T : Nat → Nat → Nat → Nat) (f : Nat → Nat) (ev : Value) (w : World) (hT : ∀ i j k, T i j k ≤ 255) (hf : ∀ i, f i ≤ 255) (hg : Blk w 0 #[.iface 92 ev]) : CallsV Tryd.prog 3 #[.agg (algC p n T f)] w (.bool true) := by
  by_cases hc : CodeP p n T f 0 (vAtL [])
  · have hs0 := hc.1.1
    have hp0 := primeP_pos hs0.1
    have hn := hs0.2.1
    have e1 : ((p.toNat : Nat) : Int) = p := by omega
    have e2 : ((n.toNat : Nat) : Int) = n := by omega
    have hc2 : CodeP ((p.toNat : Nat) : Int) ((n.toNat : Nat) : Int) (trunc n.toNat T) f 0 (vAtL []) := by rw [e1, e2]; exact code_trunc hc
    obtain ⟨uu, huu⟩ := hc.1.2.2
    have hpp := primeN_of hs0.1
    by_cases hcom : comP (trunc n.toNat T)
    · rcases nf_cases (n := n.toNat) (m := n.toNat) (M := fun r c => imP p.toNat n.toNat (trunc n.toNat T) uu (kkE p.toNat (nilE p.toNat n.toNat)) c r) hpp (fun i c => imP_lt huu.small c i) with hne | hzk
      · have hpos := hpos_of hpp.two hne
        obtain ⟨R0, W, hW⟩ := isKer_exists (n := n.toNat) (m := n.toNat) (M := fun r c => imP p.toNat n.toNat (trunc n.toNat T) uu (kkE p.toNat (nilE p.toNat n.toNat)) c r) hpp (fun i c => imP_lt huu.small c i)
        have h := law_NilradicalOfY p.toNat n.toNat (trunc n.toNat T) f R0 W w hpp (by omega) (by omega) (trunc_lt hs0) trunc_out hf hc2 hcom uu huu hne hpos hW
        rw [e1, e2, ← algC_trunc hs0] at h
        exact h
      · have h := law_NilradicalOfZ p.toNat n.toNat (trunc n.toNat T) f w hpp (by omega) (by omega) (trunc_lt hs0) trunc_out hf hc2 hcom uu huu hzk
        rw [e1, e2, ← algC_trunc hs0] at h
        exact h
    · have h := law_NilradicalOfN p.toNat n.toNat (trunc n.toNat T) f ev w hpp (by omega) (by omega) (trunc_lt hs0) trunc_out hf hc2 hcom hg
      rw [e1, e2, ← algC_trunc hs0] at h
      exact h
  · exact law_NilradicalOfA p n T f w hT hf hc

end Go.Proofs.YtfencffdhenjdaaDoor
