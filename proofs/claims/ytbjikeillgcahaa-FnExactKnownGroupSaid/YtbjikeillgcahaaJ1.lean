/- What functions of the program return, as walks over their operations; no statement of the seat is proved here. -/
import Derived.Test.YtbjikeillgcahaaG12
import Derived.Test.YtbjikeillgcahaaEch6
set_option linter.unusedVariables false
set_option linter.unusedSimpArgs false
namespace Go.Proofs.Ytbjikeillgcahaa
open Go Go.RowKit Go.Sw Go.Ech
open Classical
theorem ty_fo_25_1 : fieldOff Try.prog 25 1 = some 1 := by kernel_rfl
theorem ty_ud_5 : Try.prog.underlying 5 = some (.int .u8) := by kernel_rfl
theorem ty_un_2 : Try.prog.underlying 2 = some (.int .i64) := by kernel_rfl
theorem ty_fo_25_0 : fieldOff Try.prog 25 0 = some 0 := by kernel_rfl
theorem ty_on_2 : oneP Try.prog 2 = true := by kernel_rfl
theorem ty_ag_25 : aggP Try.prog 25 = some 37 := by kernel_rfl
theorem CallsR.val {P : Program} {f : FuncId} {args : Array Value} {w : World} {v v' : Value} (h : CallsR P f args w (fun u _ => u = v)) (e : v = v') : CallsR P f args w (fun u _ => u = v') := e ▸ h
def lead (f : Nat → Nat) : Nat → Nat
  | 0 => 0
  | m + 1 => if lead f m < m then lead f m else if f m = 0 then m else m + 1
def gElt (n : Nat) (M : Nat → Nat → Nat) (i j : Nat) : Prop := M i j < n ∧ (¬ (i < n ∧ j < n) → M i j = 0)
def ElP (n : Nat) (M : Nat → Nat → Nat) : Prop := ∀ i, i < 6 → ∀ j, j < 6 → gElt n M i j
def UnP (n : Nat) (M : Nat → Nat → Nat) : Prop := ∀ i, i < n → M 0 i = i ∧ M i 0 = i
def InP (n : Nat) (M : Nat → Nat → Nat) : Prop := ∀ i, i < n → ∃ j, j < n ∧ M i j = 0
def AsP (n : Nat) (M : Nat → Nat → Nat) : Prop := ∀ i, i < n → ∀ j, j < n → ∀ k, k < n → M (M i j) k = M i (M j k)
def TabP (n : Nat) (M : Nat → Nat → Nat) : Prop := ElP n M ∧ UnP n M ∧ InP n M ∧ AsP n M
def GrpP (n : Int) (M : Nat → Nat → Nat) : Prop := 1 ≤ n ∧ n ≤ 6 ∧ TabP n.toNat M
theorem TabP.two {n : Nat} {M : Nat → Nat → Nat} (hn0 : 0 < n) (hn : n ≤ 6) (h : TabP n M) {i : Nat} (hi : i < n) : ∃ j, j < n ∧ M i j = 0 ∧ M j i = 0 := by
  obtain ⟨he, hu, hv, ha⟩ := h;obtain ⟨j, hj, h1⟩ := hv i hi;obtain ⟨k, hk, h2⟩ := hv j hj;have hc : ∀ a b, a < n → b < n → M a b < n := fun a b h3 h4 => (he a (by omega) b (by omega)).1;refine ⟨j, hj, h1, ?_⟩;have e1 := ha (M j i) (hc _ _ hj hi) j hj k hk;have e2 := ha j hj i hi j hj;rw [h2, e2, h1, (hu j hj).2, h2, (hu _ (hc _ _ hj hi)).2] at e1;exact e1.symm
instance (n : Nat) (M : Nat → Nat → Nat) (i j : Nat) : Decidable (gElt n M i j) := by unfold gElt; infer_instance

def invI (n : Nat) (M : Nat → Nat → Nat) (i : Nat) : Int := if lead (M i) n < n then (lead (M i) n : Int) else -1

theorem ElP.lt {n : Nat} {M : Nat → Nat → Nat} (h : ElP n M) {i j : Nat} (hi : i < 6) (hj : j < 6) : M i j < n := (h i hi j hj).1

end Go.Proofs.Ytbjikeillgcahaa
