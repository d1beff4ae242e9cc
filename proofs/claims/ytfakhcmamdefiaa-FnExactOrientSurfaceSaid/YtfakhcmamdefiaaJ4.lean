/- What functions of the program return, as walks over their operations; no statement of the seat is proved here. -/
import Derived.Test.YtfakhcmamdefiaaG12
import Derived.Test.YtfakhcmamdefiaaSw65
set_option linter.unusedVariables false
set_option linter.unusedSimpArgs false
namespace Go.Proofs.Ytfakhcmamdefiaa
open Go Go.RowKit Go.Sw Go.Ech
open Classical
theorem CallsR.val {P : Program} {f : FuncId} {args : Array Value} {w : World} {v v' : Value} (h : CallsR P f args w (fun u _ => u = v)) (e : v = v') : CallsR P f args w (fun u _ => u = v') := e ▸ h
def lead (f : Nat → Nat) : Nat → Nat
  | 0 => 0
  | m + 1 => if lead f m < m then lead f m else if f m = 0 then m else m + 1
theorem lead_spec (f : Nat → Nat) : ∀ n, lead f n ≤ n ∧ (∀ j, j < lead f n → f j ≠ 0) ∧ (lead f n < n → f (lead f n) = 0)
  | 0 => ⟨Nat.le_refl _, fun j h => absurd h (by simp [lead]), fun h => absurd h (by simp [lead])⟩
  | m + 1 => by
    obtain ⟨h1, h2, h3⟩ := lead_spec f m
    by_cases e : lead f m < m
    · have e0 : lead f (m + 1) = lead f m := by simp only [lead]; rw [if_pos e]
      rw [e0]
      exact ⟨by omega, h2, fun _ => h3 e⟩
    · have e1 : lead f m = m := by omega
      by_cases e2 : f m = 0
      · have e0 : lead f (m + 1) = m := by simp only [lead]; rw [if_neg e, if_pos e2]
        rw [e0]
        exact ⟨by omega, fun j hj => h2 j (by omega), fun _ => e2⟩
      · have e0 : lead f (m + 1) = m + 1 := by simp only [lead]; rw [if_neg e, if_neg e2]
        rw [e0]
        refine ⟨by omega, fun j hj => ?_, fun h => absurd h (by omega)⟩
        by_cases e3 : j = m
        · rw [e3]; exact e2
        · exact h2 j (by omega)
theorem lead_lt {f : Nat → Nat} {n : Nat} (h : ∃ j, j < n ∧ f j = 0) : lead f n < n := by
  obtain ⟨h1, h2, h3⟩ := lead_spec f n;obtain ⟨j, hj, h0⟩ := h;have a2 : ¬ j < lead f n := fun hl => h2 j hl h0
  omega
def gElt (n : Nat) (M : Nat → Nat → Nat) (i j : Nat) : Prop := M i j < n ∧ (¬ (i < n ∧ j < n) → M i j = 0)
def ElP (n : Nat) (M : Nat → Nat → Nat) : Prop := ∀ i, i < 6 → ∀ j, j < 6 → gElt n M i j
def UnP (n : Nat) (M : Nat → Nat → Nat) : Prop := ∀ i, i < n → M 0 i = i ∧ M i 0 = i
def InP (n : Nat) (M : Nat → Nat → Nat) : Prop := ∀ i, i < n → ∃ j, j < n ∧ M i j = 0
def AsP (n : Nat) (M : Nat → Nat → Nat) : Prop := ∀ i, i < n → ∀ j, j < n → ∀ k, k < n → M (M i j) k = M i (M j k)
def TabP (n : Nat) (M : Nat → Nat → Nat) : Prop := ElP n M ∧ UnP n M ∧ InP n M ∧ AsP n M
def GrpP (n : Int) (M : Nat → Nat → Nat) : Prop := 1 ≤ n ∧ n ≤ 6 ∧ TabP n.toNat M
theorem TabP.two {n : Nat} {M : Nat → Nat → Nat} (hn0 : 0 < n) (hn : n ≤ 6) (h : TabP n M) {i : Nat} (hi : i < n) : ∃ j, j < n ∧ M i j = 0 ∧ M j i = 0 := by
  obtain ⟨he, hu, hv, ha⟩ := h;obtain ⟨j, hj, h1⟩ := hv i hi;obtain ⟨k, hk, h2⟩ := hv j hj;have hc : ∀ a b, a < n → b < n → M a b < n := fun a b h3 h4 => (he a (by omega) b (by omega)).1;refine ⟨j, hj, h1, ?_⟩;have e1 := ha (M j i) (hc _ _ hj hi) j hj k hk;have e2 := ha j hj i hi j hj;rw [h2, e2, h1, (hu j hj).2, h2, (hu _ (hc _ _ hj hi)).2] at e1;exact e1.symm
instance (n : Nat) (M : Nat → Nat → Nat) (i j : Nat) : Decidable (gElt n M i j) := by unfold gElt; infer_instance





def invI (n : Nat) (M : Nat → Nat → Nat) (i : Nat) : Int := if lead (M i) n < n then (lead (M i) n : Int) else -1

theorem ElP.lt {n : Nat} {M : Nat → Nat → Nat} (h : ElP n M) {i j : Nat} (hi : i < 6) (hj : j < 6) : M i j < n := (h i hi j hj).1





end Go.Proofs.Ytfakhcmamdefiaa

namespace Go.Proofs.Ytfakhcmamdefiaa
open Go Go.RowKit Go.Sw Go.Ech
open Classical




theorem GrpP.mk {n : Nat} {M : Nat → Nat → Nat} (hn0 : 0 < n) (hn : n ≤ 6) (hG : TabP n M) : GrpP (n : Int) M := ⟨by omega, by omega, hG⟩
theorem TabP.lt {n : Nat} {M : Nat → Nat → Nat} (h : TabP n M) {i j : Nat} (hi : i < 6) (hj : j < 6) : M i j < n := (h.1 i hi j hj).1
theorem TabP.out {n : Nat} {M : Nat → Nat → Nat} (h : TabP n M) {i j : Nat} (hi : i < 6) (hj : j < 6) (ho : n ≤ i ∨ n ≤ j) : M i j = 0 := (h.1 i hi j hj).2 (by omega)




def cmF (M : Nat → Nat → Nat) (i j : Nat) : Nat := if M i j = M j i then 1 else 0
def cpI (M : Nat → Nat → Nat) (n i j : Nat) : Nat := sumTo (fun a => sumTo (fun b => cmF M a b) n) i + sumTo (fun b => cmF M i b) j
end Go.Proofs.Ytfakhcmamdefiaa

namespace Go.Proofs.Ytfakhcmamdefiaa
open Go Go.RowKit Go.Sw Go.Ech
open Classical
theorem sumTo_up {f : Nat → Nat} {m : Nat} : ∀ {n : Nat}, m ≤ n → sumTo f m ≤ sumTo f n
  | 0, h => by rw [show m = 0 by omega]; exact Nat.le_refl _
  | n + 1, h => by
    by_cases e : m = n + 1
    · rw [e]; exact Nat.le_refl _
    · exact Nat.le_trans (sumTo_up (f := f) (n := n) (by omega)) (Nat.le_add_right _ _)
theorem le_sumTo {f : Nat → Nat} {x : Nat} : ∀ {n : Nat}, x < n → f x ≤ sumTo f n := fun {n} h => Nat.le_trans (Nat.le_add_left _ _) (sumTo_up (f := f) (m := x + 1) (n := n) h)
def wA (F v : Nat → Nat → Nat) (n i j x : Nat) : Nat := sumTo (fun a => sumTo (fun b => if F a b = x then v a b else 0) n) i + sumTo (fun b => if F i b = x then v i b else 0) j
def wy (M : Nat → Nat → Nat) (n : Nat) (e : Nat → Nat) : Nat → Nat → Nat
  | 0, x => if x = 0 then 1 else 0
  | k + 1, x => wA M (fun a b => wy M n e k a * e b) n n 0 x
def comI (M : Nat → Nat → Nat) (n a b : Nat) : Nat := M (M a b) (M (lead (M a) n) (lead (M b) n))
def comS (M : Nat → Nat → Nat) (n a b : Nat) : Nat := M (M (M (M 0 a) b) (lead (M a) n)) (lead (M b) n)
theorem TabP.inv {n : Nat} {M : Nat → Nat → Nat} (h : TabP n M) {i : Nat} (hi : i < n) : lead (M i) n < n := lead_lt (h.2.2.1 i hi)
def com (M : Nat → Nat → Nat) (n x : Nat) : Nat := wA (comI M n) (fun _ _ => 1) n n 0 x
def foldM (M : Nat → Nat → Nat) (l : Nat → Nat) : Nat → Nat
  | 0 => 0
  | k + 1 => M (foldM M l k) (l k)
end Go.Proofs.Ytfakhcmamdefiaa

namespace Go.Proofs.Ytfakhcmamdefiaa
open Go Go.RowKit Go.Sw Go.Ech
open Classical
def gTp (n : Nat) (M : Nat → Nat → Nat) (i0 j0 i j k : Nat) : Nat := if (i < i0 ∨ (i = i0 ∧ j < j0)) ∧ j < n ∧ k = M i j then 1 else 0
def gT (n : Nat) (M : Nat → Nat → Nat) (i j k : Nat) : Nat := if i < n ∧ j < n ∧ k = M i j then 1 else 0
def e0F (c : Nat) : Nat := if c = 0 then 1 else 0



















end Go.Proofs.Ytfakhcmamdefiaa
