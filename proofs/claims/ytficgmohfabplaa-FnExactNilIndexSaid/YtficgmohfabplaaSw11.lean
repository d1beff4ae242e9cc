/- Plain lemmas of a small calculus for walks over frames and own memory; no statement of the seat is proved here. -/
import Derived.Test.YtficgmohfabplaaSw8
set_option linter.unusedVariables false
set_option linter.unusedSimpArgs false
namespace Go.Sw
open Go Go.RowKit
variable {P : Program}
section
variable {fn : Func} {a : Act} {w : World}
theorem fin0 {R : Ending → World → Prop} (hr : fn.results = #[]) (hd : a.defers = []) (h : R (.returned (.tuple #[])) w) : bodyPost P fn R .ret a w :=
  bodyPost_ret (by rw [results_eq, hr]; simp) hd h
theorem fin0n {R : Ending → World → Prop} (hr : fn.results = #[]) (hd : a.defers = []) (h : R (.returned (.tuple #[])) w) : bodyPost P fn R .normal a w := by
  have := fin0 (P := P) (R := R) hr hd h
  exact this
end
theorem MemX.startX1D {w : World} {b : Nat} {cs : Array Value} {D : Froz} (n : Nat) (h : Blk w b cs) (hD : ∀ c ds, (c, ds) ∈ D → Blk w c ds ∧ c ≠ b) : MemX [b] w w (some (b, cs) :: List.replicate n none) D := by
  have h0 := MemX.startX1 n h
  refine ⟨h0.bel, h0.blk, h0.apart, fun c ds hm => ⟨(hD c ds hm).1, fun k e es hk => ?_⟩⟩
  cases k with
  | zero => simp at hk; rw [← hk.1]; exact fun e => (hD c ds hm).2 e.symm
  | succ k => simp [List.getElem?_replicate] at hk
theorem startXD1 {w : World} {b b' : Nat} {cs' : Array Value} (h : Blk w b' cs') (hn : b' ≠ b) : ∀ c ds, (c, ds) ∈ [(b', cs')] → Blk w c ds ∧ c ≠ b := fun c ds hm => by simp at hm; obtain ⟨rfl, rfl⟩ := hm; exact ⟨h, hn⟩
end Go.Sw
