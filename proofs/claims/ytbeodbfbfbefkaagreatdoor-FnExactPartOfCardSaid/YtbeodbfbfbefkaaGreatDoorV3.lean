/- What functions of the program return, as walks over their operations; no statement of the seat is proved here. -/
import Derived.Test.YtbeodbfbfbefkaaGreatDoorY5
import Derived.Test.YtbeodbfbfbefkaaGreatDoorSw52
import Derived.Shelf.Small.Bits
import Derived.Shelf.Strconv.Itoa0
import Derived.Test.YtbeodbfbfbefkaaGreatDoorProg
set_option linter.unusedVariables false
set_option linter.unusedSimpArgs false
namespace Go.Proofs.YtbeodbfbfbefkaaGreatDoor
open Go Go.RowKit Go.Sw Go.Ech
open Classical
def kkE (p : Nat) : Nat → Nat
  | 0 => p
  | e + 1 => kkE p e * p
def nilE (p n : Nat) : Nat := if n ≤ p then 0 else if n ≤ p * p then 1 else 2
theorem eb_lt {p c : Nat} (hp : 2 ≤ p) : ∀ q, (fun q => if q = c then 1 else 0 : Nat → Nat) q < p := fun q => by dsimp only; split <;> omega
theorem eb_out {n c q : Nat} (hc : c < n) (h : n ≤ q) : (fun q => if q = c then 1 else 0 : Nat → Nat) q = 0 := by dsimp only; rw [if_neg (by omega)]
def imP (p n : Nat) (T : Nat → Nat → Nat → Nat) (uu : Nat → Nat) (K : Nat) (c r : Nat) : Nat := powW (timesV p n T) uu (fun q => if q = c then 1 else 0) K r
end Go.Proofs.YtbeodbfbfbefkaaGreatDoor

namespace Go.Proofs.YtbeodbfbfbefkaaGreatDoor
open Go Go.RowKit Go.Sw Go.Ech
open Classical
theorem ty_um_95 : Tryz.prog.underlying 95 = some (.map 32 4) := by kernel_rfl
theorem ty_ze_4 : zeroP Tryz.prog 4 = some (.bool (false)) := by kernel_rfl
theorem keyAlg : WideMaps.KeyLaw Tryz.prog 32 := deep_law (m := 8) (by decide) (by kernel_rfl) (by kernel_rfl) (by kernel_rfl)
theorem keyLeafs : leafs Tryz.prog (Tryz.prog.types.size + 1) 32 (.i64 :: .i64 :: List.replicate 222 .u8) = true := by kernel_rfl
theorem keyType32 : Tryz.prog.keyType 32 = true := by kernel_rfl
theorem keyCells : Tryz.prog.cellsOf 32 = 224 := by kernel_rfl
theorem keyWide : wideB Tryz.prog 32 = true := by kernel_rfl
theorem keyLit {p n : Nat} {T : Nat → Nat → Nat → Nat} {f : Nat → Nat} (hp : p < 1000) (hn : n < 1000) (hT : ∀ i j k, T i j k ≤ 255) (hf : ∀ i, f i ≤ 255) : ∃ l, keyOf Tryz.prog 32 (.agg (algC (p : Int) (n : Int) T f)) = some l :=
  keyOf_leafs keyWide keyType32 keyLeafs (by rw [keyCells, List.length_cons, List.length_cons, List.length_replicate]) (leafy_alg (by omega) (by omega) hT hf)
theorem keyEq {p n : Int} {T : Nat → Nat → Nat → Nat} {f : Nat → Nat} : Value.agg (algC p n T f) = Value.agg (algC p n (trT T) f) ↔ eqT T (trT T) := by
  constructor
  · intro h i hi j hj k hk
    have h1 := congrArg (fun v : Value => match v with | .agg c => c[2 + i * 36 + j * 6 + k]? | _ => none) h
    dsimp only at h1
    rw [algC_T i j k rfl hi hj hk, algC_T i j k rfl hi hj hk] at h1
    have h2 := Option.some.inj h1
    injection h2 with _ h3
    exact Int.ofNat.inj h3
  · intro h
    exact congrArg Value.agg (algC_congr fun i hi j hj k hk => h i hi j hj k hk)
theorem gives_ite {P : Program} {q : Prop} [Decidable q] {o : Oper} {a : Act} {w : World} (h : Gives P o a w (if q then .bool true else .bool false)) : Gives P o a w (.bool (decide q)) := by
  by_cases e : q
  · rw [if_pos e] at h; rw [decide_eq_true e]; exact h
  · rw [if_neg e] at h; rw [decide_eq_false e]; exact h

theorem isOwnOpposite_ok (p n : Nat) (T : Nat → Nat → Nat → Nat) (f : Nat → Nat) (w : World) (hp2 : p < 1000) (hn2 : n < 1000) (hT : ∀ i j k, T i j k ≤ 255) (hf : ∀ i, f i ≤ 255) :
    CallsR Tryz.prog 59 #[.agg (algC (p : Int) (n : Int) T f)] w (fun res _ => res = .bool (decide (eqT T (trT T)))) := by
  refine calls_fr [.agg (algC (p : Int) (n : Int) T f)] Tryz.func59 rfl Tryz.ntmps59 rfl fun a hF => ?_
  have hM : Mem w w [none] [] := MemX.start w 1
  change Fr 11 a [(0, .agg (algC (p : Int) (n : Int) T f))] at hF
  refine sq ?_
  refine wp_region_lit ?_
  refine stR hF (d_box 0 hM hF rfl) rfl ?_
  rintro _ w' a ⟨b1, rfl, hM, -⟩ hF
  change Mem w w' [some (b1, algC (p : Int) (n : Int) T f)] [] at hM
  refine st hF (g_assign hF rfl) rfl fun a hF => ?_
  refine wpList_nil ?_
  refine tN ?_
  refine sq ?_
  refine wp_region_lit ?_
  refine stR hF (d_makeMap hM) rfl ?_
  rintro _ w' a ⟨bm2, rfl, hM, hgebm2, hisbm2⟩ hF
  change Mem w w' [some (b1, algC (p : Int) (n : Int) T f)] [] at hM
  refine st hF (g_loadAgg ty_ag_32 hF rfl (hM.row 0 rfl) (by simp only [fnC_size, cells_size, vecC_size, tabC_size, planeC_size, dgC_size, numC_sz, ldB_size] <;> omega) (whole cells_size)) rfl fun a hF => ?_
  obtain ⟨lkbm2, hlkbm2⟩ := keyLit (p := p) (n := n) (T := T) (f := f) (by omega) (by omega) hT hf
  refine stN hF (d_insert keyAlg ty_um_95 hM hisbm2 hgebm2 hF rfl rfl rfl hlkbm2) ?_
  rintro _ w' a ⟨hM, hisbm2⟩ hF
  change Mem w w' [some (b1, algC (p : Int) (n : Int) T f)] [] at hM
  refine st hF (g_move hF rfl) rfl fun a hF => st hF (g_assign hF rfl) rfl fun a hF => ?_
  refine wpList_nil ?_
  refine tN ?_
  refine sq ?_
  refine wp_region_lit ?_
  refine st hF (g_move hF rfl) rfl fun a hF => st hF (g_loadAgg ty_ag_32 hF rfl (hM.row 0 rfl) (by simp only [fnC_size, cells_size, vecC_size, tabC_size, planeC_size, dgC_size, numC_sz, ldB_size] <;> omega) (whole cells_size)) rfl fun a hF => ?_
  refine stR hF (d_call Tryz.call89 hF (.cons rfl .nil) (oppositeTo_ok (p : Int) (n : Int) T f _)) rfl ?_
  rintro _ w' a ⟨hx, rfl⟩ hF
  have hM := hM.ext hx
  have hisbm2 := hisbm2.ext hx
  refine st hF (gives_ite (g_lookup1 (p := eqT T (trT T)) (z0 := .bool (false)) keyAlg ty_um_95 ty_ze_4 hisbm2 hF rfl rfl (keyLit (by omega) (by omega) (fun i j k => hT j i k) hf).choose_spec hlkbm2 keyEq)) rfl fun a hF => st hF (g_assign hF rfl) rfl fun a hF => ?_
  refine wpList_nil ?_
  refine tN ?_
  refine wp_ret ?_
  refine fin1 rfl hF.defers (res_tmp hF rfl) ⟨_, rfl, hM.below, ?_⟩
  show _ = _
  rfl

end Go.Proofs.YtbeodbfbfbefkaaGreatDoor

namespace Go.Proofs.YtbeodbfbfbefkaaGreatDoor
open Go Go.RowKit Go.Sw Go.Ech
open Classical
theorem ty_ze_2 : zeroP Tryz.prog 2 = some (.int .i64 (0)) := by kernel_rfl
theorem ty_on_54 : oneP Tryz.prog 54 = true := by kernel_rfl
theorem ta_nil57 : ∀ w, Sem.run Tryz.prog (Instr.typeAssert Value.nilIface 20 54 true) w = .ok (.tuple #[.nilIface, .bool false]) w := by intros; kernel_rfl
theorem ta_err57 : ∀ v w, Sem.run Tryz.prog (Instr.typeAssert (.iface 147 v) 20 54 true) w = .ok (.tuple #[.iface 147 v, .bool true]) w := by intros; kernel_rfl
theorem on_two57 : oneP Tryz.prog 2 = true := by kernel_rfl
theorem clo_idle57 (b : Nat) (w : World) (c : Value) (hb : Blk w b #[c]) : Clo Tryz.prog 57 b .returning w c := by
  refine callsD_of_wpS Tryz.func57 rfl fun c₀ cs hu => ?_
  apply wpS_seq
  apply wpS_region
  simp [wpOpsS, go_sem, recoverD, hu, Tryz.ntmps57, Exit.thenS, ta_nil57, Oper.upon]
  apply wpS_seq
  apply wpS_region
  simp [wpOpsS, go_sem, Exit.thenS]
  refine wpS_cond (t := false) (by simp [Act.eval, Array.replicate]) ?_
  simp only [Bool.false_eq_true, if_false]
  refine wpS_of_wp (wp_skip ?_)
  have : ({ c₀ with mode := .returning } : Frame) = c₀ := by cases c₀; simp_all
  refine ⟨rfl, .returning, by rw [this], .tuple #[], ?_, ⟨_, rfl⟩, rfl, ExtX.refl _ _, hb⟩
  simp [results, Tryz.results57]
theorem clo_panic57 (b : Nat) (w : World) (c v : Value) (hb : Blk w b #[c]) : Clo Tryz.prog 57 b (.panicking [{ v := .iface 147 v, recovered := false }]) w (.int .i64 5) := by
  refine callsD_of_wpS Tryz.func57 rfl fun c₀ cs hu => ?_
  apply wpS_seq
  apply wpS_region
  simp [wpOpsS, go_sem, recoverD, hu, Tryz.ntmps57, Exit.thenS, ta_err57, Oper.upon]
  apply wpS_seq
  apply wpS_region
  simp [wpOpsS, go_sem, Exit.thenS]
  refine wpS_cond (t := true) (by simp [Act.eval, Array.replicate]) ?_
  simp only [if_true]
  refine wpS_of_wp ?_
  refine wp_region_lit ?_
  have hM : MemX [b] w w [some (b, #[c])] [] := MemX.startX1 0 hb
  refine at_lit (F := [(0, ptr b 0)]) ?_ (by simp [okA, Array.getD_eq_getD_getElem?])
  intro a hF
  refine stN hF (d_store 0 hM rfl on_two57 hF rfl rfl rfl (by simp)) ?_
  intro _ w' a hM hF
  refine wpList_nil ?_
  refine ⟨hF.defers, .panicking [{ v := .iface 147 v, recovered := true }], rfl, .tuple #[], ?_, ⟨_, rfl⟩, rfl, hM.bel, hM.row 0 rfl⟩
  simp [results, Tryz.results57]

end Go.Proofs.YtbeodbfbfbefkaaGreatDoor

namespace Go.Proofs
open Go.Shelf
def Tryz.lays125_ren : Go.Shelf.Ren := ⟨fun | 125 => 114 | 128 => 128 | 129 => 129 | n => n, fun | 46 => 116 | 3 => 3 | 51 => 132 | 53 => 134 | 4 => 4 | 5 => 5 | 9 => 9 | n => n, fun | n => n⟩
theorem Tryz.lays125 : Go.Proofs.Lays.n125 Tryz.prog Tryz.lays125_ren := {
  mixed := by kernel_rfl
  f125 := Tryz.func114.trans (congrArg some (by kernel_rfl))
  f128 := Tryz.func128.trans (congrArg some (by kernel_rfl))
  f129 := Tryz.func129.trans (congrArg some (by kernel_rfl))
  t3 := Tryz.underlying3
  a3 := Tryz.isAgg3
  z3 := Tryz.sizeOf3
  v3 := Tryz.zeroValue3
  t4 := Tryz.underlying4
  a4 := Tryz.isAgg4
  z4 := Tryz.sizeOf4
  v4 := Tryz.zeroValue4
  t5 := Tryz.underlying5
  a5 := Tryz.isAgg5
  z5 := Tryz.sizeOf5
  v5 := Tryz.zeroValue5
  t9 := Tryz.underlying9
  a9 := Tryz.isAgg9
  z9 := Tryz.sizeOf9
  v9 := Tryz.zeroValue9
  t46 := Tryz.underlying116
  a46 := Tryz.isAgg116
  z46 := Tryz.sizeOf116
  v46 := Tryz.zeroValue116
  t51 := Tryz.underlying132
  a51 := Tryz.isAgg132
  z51 := Tryz.sizeOf132
  v51 := Tryz.zeroValue132
  t53 := Tryz.underlying134
  a53 := Tryz.isAgg134
  z53 := Tryz.sizeOf134
  v53 := Tryz.zeroValue134 }
theorem Tryz.bits_Len (x : Int) (w : World) (h0 : 0 ≤ x) (h1 : x ≤ 18446744073709551615) :
    Calls Tryz.prog 114 #[.int .u64 x] w fun e w' => e = .returned (.int .i64 (Lib.bitLen x.toNat)) ∧ w' = w := Any.bits_Len Tryz.lays125 x w h0 h1
end Go.Proofs
