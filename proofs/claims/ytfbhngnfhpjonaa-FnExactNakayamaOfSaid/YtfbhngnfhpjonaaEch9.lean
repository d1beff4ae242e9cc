/- Plain lemmas of a small calculus for walks over frames and own memory; no statement of the seat is proved here. -/
import Derived.Test.YtfbhngnfhpjonaaEch7
import Derived.Test.YtfbhngnfhpjonaaSw33
set_option linter.unusedVariables false
set_option linter.unusedSimpArgs false
namespace Go.Ech
open Go.Sw
/-- The rows F with a right side behind them. -/
def rhsM (n : Nat) (F : Nat → Nat → Nat) (b : Nat → Nat) (i c : Nat) : Nat := if c < n then F i c else b i
theorem rhsM_lt {p n : Nat} {F : Nat → Nat → Nat} {b : Nat → Nat} (hF : ∀ i c, F i c < p) (hb : ∀ i, b i < p) : ∀ i c, rhsM n F b i c < p := fun i c => by
  unfold rhsM; split
  · exact hF i c
  · exact hb i
theorem solve_b {p n k : Nat} {F E : Nat → Nat → Nat} {b y : Nat → Nat} {ld : Nat → Nat} (hp : 2 ≤ p) (hn : n ≤ 6) (hF : ∀ i c, n ≤ c → F i c = 0) (hf : FullK p n F) (hy : ∀ c, y c < p) (hs : ∀ i, i < n → (p : Int) ∣ sI (fun q => (F i q : Int) * (y q : Int)) n - (b i : Int)) (h : Rref p (n + 1) E k ld) (hK : ∀ x, Ker p (n + 1) E k x ↔ Ker p (n + 1) (rhsM n F b) n x) :
    (k = n ∧ ∀ i, i < n → ld i = i) ∧ ∀ i, i < n → E i n = y i := by
  have hd : ∀ (x : Nat → Nat) i, dot (n + 1) (ci (rhsM n F b i)) (aug n x) = sI (fun q => (F i q : Int) * (x q : Int)) n - (b i : Int) := fun x i => by
    unfold dot; simp only [sI]
    have e1 : sI (fun c => ci (rhsM n F b i) c * aug n x c) n = sI (fun q => (F i q : Int) * (x q : Int)) n := sI_congr fun c hc => by
      show (((if c < n then F i c else _ : Nat)) : Int) * _ = _
      rw [if_pos hc, aug_lt hc]
    have e2 : ci (rhsM n F b i) n * aug n x n = -(b i : Int) := by
      show (((if n < n then F i n else b i : Nat)) : Int) * _ = _
      rw [if_neg (by omega), aug_n]; omega
    rw [e1, e2]; omega
  have hx : Ker p (n + 1) E k (aug n y) := (hK _).2 fun i hi => by rw [hd]; exact hs i hi
  have hfull := full_of_unique hp h y (fun i _ => hy i) hx fun z hz hkz => by
    refine cop_col hp hn hF hf (b := fun i => (b i : Int)) hz (fun c _ => hy c) (fun i hi => ?_) (fun i hi => hs i hi)
    have := (hK _).1 hkz i hi
    rwa [hd] at this
  exact ⟨⟨hfull.k, hfull.ld⟩, fun i hi => ((full_sol h hfull y (fun i _ => hy i)).1 hx i hi).symm⟩
end Go.Ech
