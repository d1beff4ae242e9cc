/- What functions of the program return, as walks over their operations; no statement of the seat is proved here. -/
import Derived.Test.YtkodkghomlkifaaP5
import Derived.Test.YtkodkghomlkifaaSw39
set_option linter.unusedVariables false
set_option linter.unusedSimpArgs false
namespace Go.Proofs.Ytkodkghomlkifaa
open Go Go.RowKit Go.Sw Go.Ech
open Classical
theorem ty_ag_26 : aggP Try.prog 26 = some 224 := by kernel_rfl
end Go.Proofs.Ytkodkghomlkifaa

namespace Go.Proofs.Ytkodkghomlkifaa
open Go Go.RowKit Go.Sw Go.Ech
open Classical
theorem ty_um_92 : Try.prog.underlying 92 = some (.map 31 4) := by kernel_rfl
theorem ty_ze_4 : zeroP Try.prog 4 = some (.bool (false)) := by kernel_rfl
theorem keyAlg : WideMaps.KeyLaw Try.prog 31 := deep_law (m := 8) (by decide) (by kernel_rfl) (by kernel_rfl) (by kernel_rfl)
theorem keyLeafs : leafs Try.prog (Try.prog.types.size + 1) 31 (.i64 :: .i64 :: List.replicate 222 .u8) = true := by kernel_rfl
theorem keyType32 : Try.prog.keyType 31 = true := by kernel_rfl
theorem keyCells : Try.prog.cellsOf 31 = 224 := by kernel_rfl
theorem keyWide : wideB Try.prog 31 = true := by kernel_rfl
theorem keyLit {p n : Nat} {T : Nat → Nat → Nat → Nat} {f : Nat → Nat} (hp : p < 1000) (hn : n < 1000) (hT : ∀ i j k, T i j k ≤ 255) (hf : ∀ i, f i ≤ 255) : ∃ l, keyOf Try.prog 31 (.agg (algC (p : Int) (n : Int) T f)) = some l :=
  keyOf_leafs keyWide keyType32 keyLeafs (by rw [keyCells, List.length_cons, List.length_cons, List.length_replicate]) (leafy_alg (by omega) (by omega) hT hf)
theorem keyEq {p n : Int} {T : Nat → Nat → Nat → Nat} {f : Nat → Nat} : Value.agg (algC p n T f) = Value.agg (algC p n (trT T) f) ↔ eqT T (trT T) := by
  constructor
  · intro h i hi j hj k hk
    have h1 := congrArg (fun v : Value => match v with | .agg c => c[2 + i * 36 + j * 6 + k]? | _ => none) h
    dsimp only at h1
    rw [algC_T i j k rfl hi hj hk, algC_T i j k rfl hi hj hk] at h1;have h2 := Option.some.inj h1
    injection h2 with _ h3
    exact Int.ofNat.inj h3
  · intro h
    exact congrArg Value.agg (algC_congr fun i hi j hj k hk => h i hi j hj k hk)
theorem gives_ite {P : Program} {q : Prop} [Decidable q] {o : Oper} {a : Act} {w : World} (h : Gives P o a w (if q then .bool true else .bool false)) : Gives P o a w (.bool (decide q)) := by
  by_cases e : q
  · rw [if_pos e] at h; rw [decide_eq_true e]; exact h
  · rw [if_neg e] at h; rw [decide_eq_false e]; exact h
def foldW (mul : (Nat → Nat) → (Nat → Nat) → Nat → Nat) (u : Nat → Nat) (V : Nat → Nat → Nat) : Nat → Nat → Nat
  | 0 => u
  | k + 1 => mul (foldW mul u V k) (V k)
theorem isOwnOpposite_ok (p n : Nat) (T : Nat → Nat → Nat → Nat) (f : Nat → Nat) (w : World) (hp2 : p < 1000) (hn2 : n < 1000) (hT : ∀ i j k, T i j k ≤ 255) (hf : ∀ i, f i ≤ 255) :
    CallsR Try.prog 54 #[.agg (algC (p : Int) (n : Int) T f)] w (fun res _ => res = .bool (decide (eqT T (trT T)))) := by
  refine calls_fr [.agg (algC (p : Int) (n : Int) T f)] Try.func54 rfl Try.ntmps54 rfl fun a hF => ?_;have hM : Mem w w [none] [] := MemX.start w 1;change Fr 11 a [(0, .agg (algC (p : Int) (n : Int) T f))] at hF;refine sr <| stR hF (d_box 0 hM hF rfl) rfl ?_;rintro _ w' a ⟨b1, rfl, hM, -⟩ hF;refine ag hF rfl rfl fun a hF => ns <| stR hF (d_makeMap hM) rfl ?_;rintro _ w' a ⟨bm2, rfl, hM, hgebm2, hisbm2⟩ hF;change Mem w w' [some (b1, algC (p : Int) (n : Int) T f)] [] at hM;refine st hF (g_loadAgg ty_ag_31 hF rfl (hM.row 0 rfl) (by simp only [sz0] <;> omega) (whole cells_size)) rfl fun a hF => ?_;obtain ⟨lkbm2, hlkbm2⟩ := keyLit (p := p) (n := n) (T := T) (f := f) (by omega) (by omega) hT hf;refine stN hF (d_insert keyAlg ty_um_92 hM hisbm2 hgebm2 hF rfl rfl rfl hlkbm2) ?_;rintro _ w' a ⟨hM, hisbm2⟩ hF;change Mem w w' [some (b1, algC (p : Int) (n : Int) T f)] [] at hM;refine mv hF rfl rfl fun a hF => ag hF rfl rfl fun a hF => ns <| mv hF rfl rfl fun a hF => st hF (g_loadAgg ty_ag_31 hF rfl (hM.row 0 rfl) (by simp only [sz0] <;> omega) (whole cells_size)) rfl fun a hF => stR hF (d_call Try.call87 hF (.cons rfl .nil) (oppositeTo_ok (p : Int) (n : Int) T f _)) rfl ?_;rintro _ w' a ⟨hx, rfl⟩ hF;have hM := hM.ext hx;have hisbm2 := hisbm2.ext hx;refine st hF (gives_ite (g_lookup1 (p := eqT T (trT T)) (z0 := .bool (false)) keyAlg ty_um_92 ty_ze_4 hisbm2 hF rfl rfl (keyLit (by omega) (by omega) (fun i j k => hT j i k) hf).choose_spec hlkbm2 keyEq)) rfl fun a hF => ag hF rfl rfl fun a hF => nt <| wp_ret <| fin1 rfl hF.defers (res_tmp hF rfl) ⟨_, rfl, hM.below, ?_⟩
  show _ = _
  rfl
end Go.Proofs.Ytkodkghomlkifaa
