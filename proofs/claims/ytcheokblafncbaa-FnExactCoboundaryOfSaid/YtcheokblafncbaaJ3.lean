/- What functions of the program return, as walks over their operations; no statement of the seat is proved here. -/
import Derived.Test.YtcheokblafncbaaJ2
import Derived.Test.YtcheokblafncbaaSw29
set_option linter.unusedVariables false
set_option linter.unusedSimpArgs false
namespace Go.Proofs.Ytcheokblafncbaa
open Go Go.RowKit Go.Sw Go.Ech
open Classical
theorem ty_us_50 : Try.prog.underlying 50 = some (.slice 2) := by kernel_rfl
theorem ty_sl_50 : sliceOf Try.prog 50 = some 1 := by kernel_rfl
theorem sumTo_up {f : Nat → Nat} {m : Nat} : ∀ {n : Nat}, m ≤ n → sumTo f m ≤ sumTo f n
  | 0, h => by rw [show m = 0 by omega]; exact Nat.le_refl _
  | n + 1, h => by
    by_cases e : m = n + 1
    · rw [e]; exact Nat.le_refl _
    · exact Nat.le_trans (sumTo_up (f := f) (n := n) (by omega)) (Nat.le_add_right _ _)
theorem le_sumTo {f : Nat → Nat} {x : Nat} : ∀ {n : Nat}, x < n → f x ≤ sumTo f n := fun {n} h => Nat.le_trans (Nat.le_add_left _ _) (sumTo_up (f := f) (m := x + 1) (n := n) h)
def wA (F v : Nat → Nat → Nat) (n i j x : Nat) : Nat := sumTo (fun a => sumTo (fun b => if F a b = x then v a b else 0) n) i + sumTo (fun b => if F i b = x then v i b else 0) j
def wy (M : Nat → Nat → Nat) (n : Nat) (e : Nat → Nat) : Nat → Nat → Nat
  | 0, x => if x = 0 then 1 else 0
  | k + 1, x => wA M (fun a b => wy M n e k a * e b) n n 0 x
def comI (M : Nat → Nat → Nat) (n a b : Nat) : Nat := M (M a b) (M (lead (M a) n) (lead (M b) n))
def comS (M : Nat → Nat → Nat) (n a b : Nat) : Nat := M (M (M (M 0 a) b) (lead (M a) n)) (lead (M b) n)
def com (M : Nat → Nat → Nat) (n x : Nat) : Nat := wA (comI M n) (fun _ _ => 1) n n 0 x
def foldM (M : Nat → Nat → Nat) (l : Nat → Nat) : Nat → Nat
  | 0 => 0
  | k + 1 => M (foldM M l k) (l k)
end Go.Proofs.Ytcheokblafncbaa
