/- Plain lemmas of a small calculus for walks over frames and own memory; no statement of the seat is proved here. -/
import Derived.Test.YtfbhngnfhpjonaaSw38
set_option linter.unusedVariables false
set_option linter.unusedSimpArgs false
namespace Go.Sw
open Go Go.RowKit
section
variable {P : Program} {X : List Nat} {w0 w : World} {D : Froz} {W : List Nat} {L0 L : Own} {kt : Nat} {csO csN : Array Value} {bb : Bool} {l : List Fact} {i : Nat} {o : Oper} {a : Act}
/-- Another block that a region makes beside the one that it writes. -/
theorem pg_own2 {mk : Nat → Value} {k : Nat} {cs : Array Value} (hS : ParG X w0 D W L0 kt csO csN bb L w) (hi : l[i]? = some (.own k cs mk)) (hne : Nat.beq k kt = false) (hk : memNat k W = true) (hkl : Nat.blt k L0.length = true) (h1 : onePlace k i l 0 = true)
    (hg : Does P o a w (fun u w' => ∃ b, u = mk b ∧ MemX X w0 w' (L.set k (some (b, cs))) D ∧ Ext w w')) : Does P o a w (AfterG (ParG X w0 D W L0 kt csO csN) (factsG kt l) bb i L w) :=
  hg.mono fun u w' ⟨b, hu, hM, hx⟩ => by
    have hkl' : k < L.length := by rw [hS.1.2.1]; exact Nat.blt_eq.mp hkl
    have hn : ¬ k = kt := fun e => by rw [e, Nat.beq_refl] at hne; cases hne
    refine ⟨L.set k (some (b, cs)), ⟨⟨hM, hS.1.2.set k hk _⟩, fun c ds hc => ?_⟩, ?_, fun j u hj h => factsG_set h1 j u hj h⟩
    · rw [List.getElem?_set_ne hn] at hc; exact hS.2 c ds hc
    · unfold factsG; rw [hi]; show (if k = kt then _ else _); rw [if_neg hn]; exact ⟨b, hu, by simp [hkl']⟩
end
/-- The key of an algebra's map: its cells are numbers of their kinds. -/
theorem leafy_alg {p n : Int} {T : Nat → Nat → Nat → Nat} {f : Nat → Nat} (hp : -9223372036854775808 ≤ p ∧ p ≤ 9223372036854775807) (hn : -9223372036854775808 ≤ n ∧ n ≤ 9223372036854775807) (hT : ∀ i j k, T i j k ≤ 255) (hf : ∀ i, f i ≤ 255) :
    Leafy (algC p n T f).toList (.i64 :: .i64 :: List.replicate 222 .u8) := by
  have w64 : ∀ {x : Int}, -9223372036854775808 ≤ x ∧ x ≤ 9223372036854775807 → (Lit.int .i64 x).wf = true := fun {x} h => by
    have e1 : IntKind.i64.min = -9223372036854775808 := by decide
    have e2 : IntKind.i64.max = 9223372036854775807 := by decide
    simp [Lit.wf, e1, e2, h.1, h.2]
  have w8 : ∀ {x : Nat}, x ≤ 255 → (Lit.int .u8 (x : Int)).wf = true := fun {x} h => by
    have e1 : IntKind.u8.min = 0 := by decide
    have e2 : IntKind.u8.max = 255 := by decide
    simp [Lit.wf, e1, e2]; omega
  refine ⟨by rw [Array.length_toList, cells_size]; simp only [List.length_cons, List.length_replicate], fun i q hi => ?_⟩
  rw [Array.getElem?_toList]
  match i, hi with
  | 0, hi => rw [List.getElem?_cons_zero] at hi; obtain rfl := Option.some.inj hi; exact ⟨p, algC_p rfl, w64 hp⟩
  | 1, hi => rw [List.getElem?_cons_succ, List.getElem?_cons_zero] at hi; obtain rfl := Option.some.inj hi; exact ⟨n, algC_n rfl, w64 hn⟩
  | i + 2, hi =>
    have h2 := hi
    rw [List.getElem?_cons_succ, List.getElem?_cons_succ, List.getElem?_replicate] at h2
    split at h2
    · rename_i hlt
      cases h2
      by_cases e : i < 216
      · exact ⟨_, algC_T (i / 36) (i / 6 % 6) (i % 6) (by omega) (by omega) (by omega) (by omega), w8 (hT _ _ _)⟩
      · exact ⟨_, algC_f (i - 216) (by omega) (by omega), w8 (hf _)⟩
    · cases h2
end Go.Sw
