/- What functions of the program return, as walks over their operations; no statement of the seat is proved here. -/
import Derived.Test.YtfbhngnfhpjonaaP4
import Derived.Test.YtfbhngnfhpjonaaK17
set_option linter.unusedVariables false
set_option linter.unusedSimpArgs false
namespace Go.Proofs.Ytfbhngnfhpjonaa
open Go Go.RowKit Go.Sw Go.Ech
open Classical
/-- What the handle element is when the rows before k, and l numbers of the row k, are put together. -/
def hdl (p n : Nat) (T : Nat → Nat → Nat → Nat) (G : Nat → Nat → Nat) (k l c : Nat) : Nat := (sumTo (fun a => sumTo (fun b => G a b * T a b c) n) k + sumTo (fun b => G k b * T k b c) l) % p
theorem hdl_lt {p n : Nat} {T : Nat → Nat → Nat → Nat} {G : Nat → Nat → Nat} {k l c : Nat} (hp : 0 < p) : hdl p n T G k l c < p := Nat.mod_lt _ hp
theorem hdl_row {p n : Nat} {T : Nat → Nat → Nat → Nat} {G : Nat → Nat → Nat} {k : Nat} : hdl p n T G k n = hdl p n T G (k + 1) 0 := by
  funext c; unfold hdl; simp only [sumTo, Nat.add_zero]
theorem hdl_step {p n : Nat} {T : Nat → Nat → Nat → Nat} {G : Nat → Nat → Nat} {k l : Nat} : addM p (hdl p n T G k l) (T k l) (G k l) = hdl p n T G k (l + 1) := by
  funext c; unfold addM hdl; simp only [sumTo]
  rw [← Nat.add_assoc, Nat.add_mod, Nat.mod_mod, ← Nat.add_mod]
theorem timesEl {p n k : Nat} {T : Nat → Nat → Nat → Nat} {u : Nat → Nat} {c : Nat} (hk : k < n) : timesV p n T (fun c => if c = k then 1 else 0) u c = sumTo (fun b => u b * T k b c) n % p := by
  unfold timesV
  have e : ((prodI T (fun c => if c = k then 1 else 0) u n n c : Nat) : Int) = ((sumTo (fun b => u b * T k b c) n : Nat) : Int) := by
    rw [prodI_Pr, sumTo_sI]; unfold Pr
    rw [sI_one hk (fun a _ hne => sI_zero fun b _ => by simp [ci, hne])]
    exact sI_congr fun b _ => by simp [ci]
  rw [Int.ofNat.inj e]
theorem hdl_add {p n k : Nat} {T : Nat → Nat → Nat → Nat} {G : Nat → Nat → Nat} (hk : k < n) : addN p (hdl p n T G k 0) (timesV p n T (fun c => if c = k then 1 else 0) (G k)) 1 = hdl p n T G (k + 1) 0 := by
  funext c
  rw [show (1 : Int) = ((1 : Nat) : Int) from rfl, addN_addM]
  unfold addM; rw [timesEl hk]; unfold hdl; simp only [sumTo, Nat.add_zero, Nat.one_mul]
  rw [← Nat.add_mod]

end Go.Proofs.Ytfbhngnfhpjonaa

namespace Go.Proofs.Ytfbhngnfhpjonaa
open Go Go.RowKit Go.Sw Go.Ech
open Classical

end Go.Proofs.Ytfbhngnfhpjonaa
