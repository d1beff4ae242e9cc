/- Plain lemmas of a small calculus for walks over frames and own memory; no statement of the seat is proved here. -/
import Derived.Test.YtohkfmgflecgoaaSw42
import Derived.Test.YtohkfmgflecgoaaSw21
import Derived.Test.YtohkfmgflecgoaaSw9
import Derived.ChangeSlices
import Derived.ShutString
set_option linter.unusedVariables false
set_option linter.unusedSimpArgs false
namespace Go.Sw
open Go Go.RowKit
theorem str_iff {t : ByteArray} : (t : ByteArray).toList = (⟨#[]⟩ : ByteArray).toList ↔ t.size = 0 :=
  ⟨fun h => by rw [str_eq h]; rfl, fun h => by rw [str_e0 h]⟩
/-- What is asked of a layer of a text of z bytes, a legs below and b above, on k layers, the last with o legs above. -/
def fitP (z a b k o : Nat) : Prop := 0 < z ∧ a ≤ 6 ∧ b ≤ 6 ∧ (0 < k → a = o)
instance (z a b k o : Nat) : Decidable (fitP z a b k o) := by unfold fitP; infer_instance
instance (s : ByteArray) (b : Nat) : Decidable (layP s b) := by unfold layP; infer_instance
section
variable {s : ByteArray}
theorem fit_iff {b st x y k : Nat} (hb : b ≤ s.size) (h1 : st = sta s 47 b) (h2 : x = inR s b) (h3 : y = outR s b) (h4 : k = cnt s 47 b) : fitP (s.extract st b).size x y k (outR s (sgB s 47 (k - 1))) ↔ layP s b := by
  subst h1; subst h2; subst h3; subst h4
  unfold fitP layP
  rw [ext_size hb, ← cnt_pos hb]
  have h := sta_le (s := s) (c := 47) b
  constructor
  · rintro ⟨q1, q2, q3, q4⟩
    exact ⟨by omega, q2, q3, fun q => by rw [q4 q, prev_out hb q]⟩
  · rintro ⟨q1, q2, q3, q4⟩
    exact ⟨by omega, q2, q3, fun q => by rw [q4 q, prev_out hb q]⟩
theorem fit_bool {b st x y k : Nat} (hb : b ≤ s.size) (h1 : st = sta s 47 b) (h2 : x = inR s b) (h3 : y = outR s b) (h4 : k = cnt s 47 b) : Value.bool (decide (fitP (s.extract st b).size x y k (outR s (sgB s 47 (k - 1))))) = Value.bool (decide (layP s b)) :=
  congrArg Value.bool (decide_eq_decide.2 (fit_iff hb h1 h2 h3 h4))
theorem lay_lit {t : ByteArray} {x y : Int} (i : Nat) (hi : i < 1 * 3) : (layC t x y)[0 + i]? = some ((layC t x y)[i]?.getD undef) := by
  obtain rfl | rfl | rfl : i = 0 ∨ i = 1 ∨ i = 2 := by omega
  · rfl
  · rfl
  · rfl
theorem lay_litone {t : ByteArray} {x y : Int} (i : Nat) (hi : i < 1 * 3) : ((layC t x y)[i]?.getD undef).oneCell' = true := by
  obtain rfl | rfl | rfl : i = 0 ∨ i = 1 ∨ i = 2 := by omega
  · rfl
  · rfl
  · rfl
theorem layF_snoc' {u : Value} {e : Option (Nat × Array Value)} {b st x y k : Nat} (hB : isB s b) (h1 : st = sta s 47 b) (h2 : x = inR s b) (h3 : y = outR s b) (h4 : k = cnt s 47 b) (h : Sl 3 u e (k + 1) (fun i => if i < k * 3 then layF s i else (fun q => (layC (s.extract st b) ((x : Nat) : Int) ((y : Nat) : Int))[q]?.getD undef) (i - k * 3))) : Sl 3 u e (k + 1) (layF s) := by
  subst h1; subst h2; subst h3; subst h4
  exact layF_snoc hB h
theorem word_all {n : Nat} (hn : n = s.size) (h3 : s.size ≤ 300) (hpc : ∀ i, i < n → byt s i = 47 ∨ pcB (byt s i) = true) (hly : ∀ b, b < n → byt s b = 47 → layP s b) (hl : layP s n) : WordP s := by
  subst hn
  refine ⟨h3, hpc, fun b hb hB => ?_⟩
  rcases hB with e | ⟨h1, h2⟩
  · rw [e]; exact hl
  · exact hly b h1 h2
end
end Go.Sw

namespace Go.Sw
open Go Go.RowKit Go.ChangeShapes Go.WideShapes Go.ChangeAt
section
variable {H : Type} {enc : TypeId × Value → H} {P : Program} {w : World} {base : Nat} {spare : Nat → Bool} {held : Bool}
theorem open_str {r : Go.Reach} {b0 : Nat} {t : TypeId} {v : Value} {d : DataW H} {ps : List MemPlace} (ht : P.underlying t = some .string) (hval : Value.okWide P w r b0 t v) (hd : DataW.Trod enc P w base spare held t v d ps) :
    ∃ s : ByteArray, v = .string s ∧ d = .lit (.string s.data.toList) ∧ ps = [] ∧ s.size ≤ maxLen := by
  obtain ⟨s, rfl⟩ := okWide_string ht hval
  obtain ⟨fuel, hf⟩ := hd
  obtain ⟨s', h, hx, hw⟩ := DataW.trod_string ht hf
  simp [Value.cells] at h
  subst h
  simp only [Prod.mk.injEq] at hx
  exact ⟨s, rfl, hx.1, hx.2, hw⟩
theorem shut_str {t : TypeId} {s : ByteArray} (ht : P.underlying t = some .string) (hw : s.size ≤ maxLen) : DataW.Trod enc P w base spare held t (.string s) (.lit (.string s.data.toList)) [] :=
  ⟨1, by simp [DataW.trod, Value.cells, ht, hw]⟩
end
end Go.Sw
