/- What functions of the program return, as walks over their operations; no statement of the seat is proved here. -/
import Derived.Test.YtfencffdhenjdaaDoorY6
import Derived.Test.YtfencffdhenjdaaDoorSw39
import Derived.Test.YtfencffdhenjdaaDoorSw39
import Derived.Test.YtfencffdhenjdaaDoorSw52
set_option linter.unusedVariables false
set_option linter.unusedSimpArgs false
namespace Go.Proofs.YtfencffdhenjdaaDoor
open Go Go.RowKit Go.Sw Go.Ech
open Classical
theorem ty_um_63 : Tryd.prog.underlying 63 = some (.map 32 4) := by kernel_rfl
theorem ty_ze_4 : zeroP Tryd.prog 4 = some (.bool (false)) := by kernel_rfl
theorem keyAlg : WideMaps.KeyLaw Tryd.prog 32 := deep_law (m := 8) (by decide) (by kernel_rfl) (by kernel_rfl) (by kernel_rfl)
theorem keyLeafs : leafs Tryd.prog (Tryd.prog.types.size + 1) 32 (.i64 :: .i64 :: List.replicate 222 .u8) = true := by kernel_rfl
theorem keyType32 : Tryd.prog.keyType 32 = true := by kernel_rfl
theorem keyCells : Tryd.prog.cellsOf 32 = 224 := by kernel_rfl
theorem keyWide : wideB Tryd.prog 32 = true := by kernel_rfl
theorem keyLit {p n : Nat} {T : Nat → Nat → Nat → Nat} {f : Nat → Nat} (hp : p < 1000) (hn : n < 1000) (hT : ∀ i j k, T i j k ≤ 255) (hf : ∀ i, f i ≤ 255) : ∃ l, keyOf Tryd.prog 32 (.agg (algC (p : Int) (n : Int) T f)) = some l :=
  keyOf_leafs keyWide keyType32 keyLeafs (by rw [keyCells, List.length_cons, List.length_cons, List.length_replicate]) (leafy_alg (by omega) (by omega) hT hf)
theorem keyEq {p n : Int} {T : Nat → Nat → Nat → Nat} {f : Nat → Nat} : Value.agg (algC p n T f) = Value.agg (algC p n (trT T) f) ↔ eqT T (trT T) := by
  constructor
  · intro h i hi j hj k hk
    have h1 := congrArg (fun v : Value => match v with | .agg c => c[2 + i * 36 + j * 6 + k]? | _ => none) h
    dsimp only at h1
    rw [algC_T i j k rfl hi hj hk, algC_T i j k rfl hi hj hk] at h1
    have h2 := Option.some.inj h1
    injection h2 with _ h3
    exact Int.ofNat.inj h3
  · intro h
    exact congrArg Value.agg (algC_congr fun i hi j hj k hk => h i hi j hj k hk)
theorem gives_ite {P : Program} {q : Prop} [Decidable q] {o : Oper} {a : Act} {w : World} (h : Gives P o a w (if q then .bool true else .bool false)) : Gives P o a w (.bool (decide q)) := by
  by_cases e : q
  · rw [if_pos e] at h; rw [decide_eq_true e]; exact h
  · rw [if_neg e] at h; rw [decide_eq_false e]; exact h

theorem isOwnOpposite_ok (p n : Nat) (T : Nat → Nat → Nat → Nat) (f : Nat → Nat) (w : World) (hp2 : p < 1000) (hn2 : n < 1000) (hT : ∀ i j k, T i j k ≤ 255) (hf : ∀ i, f i ≤ 255) :
    CallsR Tryd.prog 28 #[.agg (algC (p : Int) (n : Int) T f)] w (fun res _ => res = .bool (decide (eqT T (trT T)))) := by
  refine calls_fr [.agg (algC (p : Int) (n : Int) T f)] Tryd.func28 rfl Tryd.ntmps28 rfl fun a hF => ?_
  have hM : Mem w w [none] [] := MemX.start w 1
  change Fr 11 a [(0, .agg (algC (p : Int) (n : Int) T f))] at hF
  refine sq ?_
  refine wp_region_lit ?_
  refine stR hF (d_box 0 hM hF rfl) rfl ?_
  rintro _ w' a ⟨b1, rfl, hM, -⟩ hF
  change Mem w w' [some (b1, algC (p : Int) (n : Int) T f)] [] at hM
  refine st hF (g_assign hF rfl) rfl fun a hF => ?_
  refine wpList_nil ?_
  refine tN ?_
  refine sq ?_
  refine wp_region_lit ?_
  refine stR hF (d_makeMap hM) rfl ?_
  rintro _ w' a ⟨bm2, rfl, hM, hgebm2, hisbm2⟩ hF
  change Mem w w' [some (b1, algC (p : Int) (n : Int) T f)] [] at hM
  refine st hF (g_loadAgg ty_ag_32 hF rfl (hM.row 0 rfl) (by simp only [fnC_size, cells_size, vecC_size, tabC_size, planeC_size, dgC_size, numC_sz, ldB_size] <;> omega) (whole cells_size)) rfl fun a hF => ?_
  obtain ⟨lkbm2, hlkbm2⟩ := keyLit (p := p) (n := n) (T := T) (f := f) (by omega) (by omega) hT hf
  refine stN hF (d_insert keyAlg ty_um_63 hM hisbm2 hgebm2 hF rfl rfl rfl hlkbm2) ?_
  rintro _ w' a ⟨hM, hisbm2⟩ hF
  change Mem w w' [some (b1, algC (p : Int) (n : Int) T f)] [] at hM
  refine st hF (g_move hF rfl) rfl fun a hF => st hF (g_assign hF rfl) rfl fun a hF => ?_
  refine wpList_nil ?_
  refine tN ?_
  refine sq ?_
  refine wp_region_lit ?_
  refine st hF (g_move hF rfl) rfl fun a hF => st hF (g_loadAgg ty_ag_32 hF rfl (hM.row 0 rfl) (by simp only [fnC_size, cells_size, vecC_size, tabC_size, planeC_size, dgC_size, numC_sz, ldB_size] <;> omega) (whole cells_size)) rfl fun a hF => ?_
  refine stR hF (d_call Tryd.call43 hF (.cons rfl .nil) (oppositeTo_ok (p : Int) (n : Int) T f _)) rfl ?_
  rintro _ w' a ⟨hx, rfl⟩ hF
  have hM := hM.ext hx
  have hisbm2 := hisbm2.ext hx
  refine st hF (gives_ite (g_lookup1 (p := eqT T (trT T)) (z0 := .bool (false)) keyAlg ty_um_63 ty_ze_4 hisbm2 hF rfl rfl (keyLit (by omega) (by omega) (fun i j k => hT j i k) hf).choose_spec hlkbm2 keyEq)) rfl fun a hF => st hF (g_assign hF rfl) rfl fun a hF => ?_
  refine wpList_nil ?_
  refine tN ?_
  refine wp_ret ?_
  refine fin1 rfl hF.defers (res_tmp hF rfl) ⟨_, rfl, hM.below, ?_⟩
  show _ = _
  rfl

end Go.Proofs.YtfencffdhenjdaaDoor

namespace Go.Proofs.YtfencffdhenjdaaDoor
open Go Go.RowKit Go.Sw Go.Ech
open Classical
theorem ty_ze_2 : zeroP Tryd.prog 2 = some (.int .i64 (0)) := by kernel_rfl
theorem ty_on_50 : oneP Tryd.prog 50 = true := by kernel_rfl
theorem ta_nil26 : ∀ w, Sem.run Tryd.prog (Instr.typeAssert Value.nilIface 20 50 true) w = .ok (.tuple #[.nilIface, .bool false]) w := by intros; kernel_rfl
theorem ta_err26 : ∀ v w, Sem.run Tryd.prog (Instr.typeAssert (.iface 92 v) 20 50 true) w = .ok (.tuple #[.iface 92 v, .bool true]) w := by intros; kernel_rfl
theorem on_two26 : oneP Tryd.prog 2 = true := by kernel_rfl
theorem clo_idle26 (b : Nat) (w : World) (c : Value) (hb : Blk w b #[c]) : Clo Tryd.prog 26 b .returning w c := by
  refine callsD_of_wpS Tryd.func26 rfl fun c₀ cs hu => ?_
  apply wpS_seq
  apply wpS_region
  simp [wpOpsS, go_sem, recoverD, hu, Tryd.ntmps26, Exit.thenS, ta_nil26, Oper.upon]
  apply wpS_seq
  apply wpS_region
  simp [wpOpsS, go_sem, Exit.thenS]
  refine wpS_cond (t := false) (by simp [Act.eval, Array.replicate]) ?_
  simp only [Bool.false_eq_true, if_false]
  refine wpS_of_wp (wp_skip ?_)
  have : ({ c₀ with mode := .returning } : Frame) = c₀ := by cases c₀; simp_all
  refine ⟨rfl, .returning, by rw [this], .tuple #[], ?_, ⟨_, rfl⟩, rfl, ExtX.refl _ _, hb⟩
  simp [results, Tryd.results26]
theorem clo_panic26 (b : Nat) (w : World) (c v : Value) (hb : Blk w b #[c]) : Clo Tryd.prog 26 b (.panicking [{ v := .iface 92 v, recovered := false }]) w (.int .i64 5) := by
  refine callsD_of_wpS Tryd.func26 rfl fun c₀ cs hu => ?_
  apply wpS_seq
  apply wpS_region
  simp [wpOpsS, go_sem, recoverD, hu, Tryd.ntmps26, Exit.thenS, ta_err26, Oper.upon]
  apply wpS_seq
  apply wpS_region
  simp [wpOpsS, go_sem, Exit.thenS]
  refine wpS_cond (t := true) (by simp [Act.eval, Array.replicate]) ?_
  simp only [if_true]
  refine wpS_of_wp ?_
  refine wp_region_lit ?_
  have hM : MemX [b] w w [some (b, #[c])] [] := MemX.startX1 0 hb
  refine at_lit (F := [(0, ptr b 0)]) ?_ (by simp [okA, Array.getD_eq_getD_getElem?])
  intro a hF
  refine stN hF (d_store 0 hM rfl on_two26 hF rfl rfl rfl (by simp)) ?_
  intro _ w' a hM hF
  refine wpList_nil ?_
  refine ⟨hF.defers, .panicking [{ v := .iface 92 v, recovered := true }], rfl, .tuple #[], ?_, ⟨_, rfl⟩, rfl, hM.bel, hM.row 0 rfl⟩
  simp [results, Tryd.results26]

theorem doorV_A (p n : Int) (T : Nat → Nat → Nat → Nat) (f : Nat → Nat) (wf : Value) (w : World) (hT : ∀ i j k, T i j k ≤ 255) (hf : ∀ i, f i ≤ 255) (hc : ¬ CodeP p n T f 0 (vAtL [])) :
    CallsR Tryd.prog 17 #[.agg (algC p n T f), wf, .slice none 0 0] w (fun res _ => res = .tuple #[.slice none 0 0, .int .i64 1]) := by
  refine calls_frD [.agg (algC p n T f), wf, .slice none 0 0] Tryd.func17 rfl Tryd.ntmps17 rfl fun a hF => ?_
  have hM : Mem w w [none, none] [] := MemX.start w 2
  change Fr 21 a [(0, .agg (algC p n T f)), (1, wf), (2, .slice none 0 0)] at hF
  refine sq ?_
  refine wp_region_lit ?_
  refine stR hF (d_box 0 hM hF rfl) rfl ?_
  rintro _ w' a ⟨b1, rfl, hM, -⟩ hF
  change Mem w w' [some (b1, algC p n T f), none] [] at hM
  refine st hF (g_assign hF rfl) rfl fun a hF => ?_
  refine stR hF (d_alloc 1 hM ty_ze_2) rfl ?_
  rintro _ w' a ⟨b2, rfl, hM, -⟩ hF
  change Mem w w' [some (b1, algC p n T f), some (b2, #[.int .i64 (0)])] [] at hM
  refine wpList_nil ?_
  refine tN ?_
  refine sq ?_
  refine wp_region_lit ?_
  refine st hF (g_makeFunc hF rfl) rfl fun a hF => ?_
  refine st_defer hF rfl fun a hF => ?_
  refine wpList_nil ?_
  refine tN ?_
  refine sq ?_
  refine sq ?_
  refine wp_regionD ?_
  refine st hF (g_loadAgg ty_ag_32 hF rfl (hM.row 0 rfl) (by simp only [fnC_size, cells_size, vecC_size, tabC_size, planeC_size, dgC_size, numC_sz, ldB_size] <;> omega) (whole cells_size)) rfl fun a hF => st hF (g_move hF rfl) rfl fun a hF => ?_
  refine stR hF (d_call Tryd.call27 hF (.cons rfl (.cons rfl .nil)) ((CallsR.val (areVectors_0 p n T f (vAtL []) _ (fun _ _ _ => hT _ _ _) (fun _ => hf _)) (congrArg Value.bool (decide_eq_false hc))))) rfl ?_
  rintro _ w' a ⟨hx, rfl⟩ hF
  have hM := hM.ext hx
  refine st hF (g_not hF rfl) rfl fun a hF => ?_
  refine wpList_nil ?_
  refine tN ?_
  refine c_TD hF rfl ?_
  refine sq ?_
  refine wp_regionD ?_
  refine st hF (g_move hF rfl) rfl fun a hF => st hF (g_assign hF rfl) rfl fun a hF => ?_
  refine stN hF (d_store 1 hM rfl ty_on_2 hF rfl rfl rfl (by first | omega | (simp only [fnC_size, cells_size, vecC_size, tabC_size, planeC_size, dgC_size, numC_sz, ldB_size] <;> omega) | simp)) ?_
  intro _ w' a hM hF
  change Mem w w' [some (b1, algC p n T f), some (b2, #[.int .i64 (1)])] [] at hM
  refine wpList_nil ?_
  refine tN ?_
  refine wp_ret ?_
  refine tR ?_
  refine door_end (f := 26) (b := b2) (by intro hq; cases hq) Tryd.call26 hF (clo_idle26 b2 _ _ (hM.row 1 rfl)) fun w3 hx3 hb3 => ?_
  have hM := hM.upd 1 rfl hx3 hb3
  refine ⟨_, fin2D rfl (res_tmp hF rfl) (res_one ty_on_2 hF rfl (hM.row 1 rfl) rfl), _, rfl, hM.below, ?_⟩
  rfl

theorem doorV_N (p n : Nat) (T : Nat → Nat → Nat → Nat) (f : Nat → Nat) (ev : Value) (wf : Value) (w : World) (hp : primeN p) (hn0 : 0 < n) (hn : n ≤ 6) (hTp : ∀ i j k, T i j k < p) (hT0 : ∀ i j k, n ≤ k → T i j k = 0) (hf : ∀ i, f i ≤ 255) (hc : CodeP (p : Int) (n : Int) T f 0 (vAtL [])) (hcom : ¬ comP T) (hg : Blk w 0 #[.iface 92 ev]) :
    CallsR Tryd.prog 17 #[.agg (algC (p : Int) (n : Int) T f), wf, .slice none 0 0] w (fun res _ => res = .tuple #[.slice none 0 0, .int .i64 5]) := by
  refine calls_frD [.agg (algC (p : Int) (n : Int) T f), wf, .slice none 0 0] Tryd.func17 rfl Tryd.ntmps17 rfl fun a hF => ?_
  have hM : Mem w w [none, none] [(0, #[.iface 92 ev])] := MemX.startD w 2 _ (startD1 hg)
  change Fr 21 a [(0, .agg (algC (p : Int) (n : Int) T f)), (1, wf), (2, .slice none 0 0)] at hF
  have hp2 := hp.two
  have hp13 := hp.le
  have hT : ∀ i j k, T i j k ≤ 255 := fun i j k => by have := hTp i j k; omega
  have hp2 := hp.two
  refine sq ?_
  refine wp_region_lit ?_
  refine stR hF (d_box 0 hM hF rfl) rfl ?_
  rintro _ w' a ⟨b1, rfl, hM, -⟩ hF
  change Mem w w' [some (b1, algC (p : Int) (n : Int) T f), none] [(0, #[.iface 92 ev])] at hM
  refine st hF (g_assign hF rfl) rfl fun a hF => ?_
  refine stR hF (d_alloc 1 hM ty_ze_2) rfl ?_
  rintro _ w' a ⟨b2, rfl, hM, -⟩ hF
  change Mem w w' [some (b1, algC (p : Int) (n : Int) T f), some (b2, #[.int .i64 (0)])] [(0, #[.iface 92 ev])] at hM
  refine wpList_nil ?_
  refine tN ?_
  refine sq ?_
  refine wp_region_lit ?_
  refine st hF (g_makeFunc hF rfl) rfl fun a hF => ?_
  refine st_defer hF rfl fun a hF => ?_
  refine wpList_nil ?_
  refine tN ?_
  refine sq ?_
  refine sq ?_
  refine wp_regionD ?_
  refine st hF (g_loadAgg ty_ag_32 hF rfl (hM.row 0 rfl) (by simp only [fnC_size, cells_size, vecC_size, tabC_size, planeC_size, dgC_size, numC_sz, ldB_size] <;> omega) (whole cells_size)) rfl fun a hF => st hF (g_move hF rfl) rfl fun a hF => ?_
  refine stR hF (d_call Tryd.call27 hF (.cons rfl (.cons rfl .nil)) ((CallsR.val (areVectors_0 (p : Int) (n : Int) T f (vAtL []) _ (fun _ _ _ => hT _ _ _) (fun _ => hf _)) (congrArg Value.bool (decide_eq_true hc))))) rfl ?_
  rintro _ w' a ⟨hx, rfl⟩ hF
  have hM := hM.ext hx
  refine st hF (g_not hF rfl) rfl fun a hF => ?_
  refine wpList_nil ?_
  refine tN ?_
  refine c_FlD hF rfl ?_
  refine wp_skip ?_
  refine tN ?_
  refine sq ?_
  refine sq ?_
  refine wp_regionD ?_
  refine st hF (g_loadAgg ty_ag_32 hF rfl (hM.row 0 rfl) (by simp only [fnC_size, cells_size, vecC_size, tabC_size, planeC_size, dgC_size, numC_sz, ldB_size] <;> omega) (whole cells_size)) rfl fun a hF => ?_
  refine stR hF (d_call Tryd.call28 hF (.cons rfl .nil) ((CallsR.val (isOwnOpposite_ok p n T f _ (by omega) (by omega) (fun _ _ _ => hT _ _ _) (fun _ => hf _)) (congrArg Value.bool (decide_eq_false (fun h => hcom (comP_iff.1 h))))))) rfl ?_
  rintro _ w' a ⟨hx, rfl⟩ hF
  have hM := hM.ext hx
  refine st hF (g_not hF rfl) rfl fun a hF => ?_
  refine wpList_nil ?_
  refine tN ?_
  refine c_TD hF rfl ?_
  refine wp_regionD ?_
  refine st hF (g_load ty_on_50 hF rfl (hM.fz 0 rfl) rfl) rfl fun a hF => ?_
  refine st_panic hF rfl ?_
  refine tP ?_
  refine door_end (f := 26) (b := b2) (by intro hq; cases hq) Tryd.call26 hF (clo_panic26 b2 _ _ _ (hM.row 1 rfl)) fun w3 hx3 hb3 => ?_
  have hM := hM.upd 1 rfl hx3 hb3
  refine ⟨_, fin2D rfl (res_tmp hF rfl) (res_one ty_on_2 hF rfl (hM.row 1 rfl) rfl), _, rfl, hM.below, ?_⟩
  rfl

end Go.Proofs.YtfencffdhenjdaaDoor
