/- Plain lemmas of a small calculus for walks over frames and own memory; no statement of the seat is proved here. -/
import Derived.Test.YtohkfmgflecgoaaSw41
set_option linter.unusedVariables false
set_option linter.unusedSimpArgs false
namespace Go.Sw
open Go Go.RowKit
/-- A layer: its text and its legs below and above. -/
def layC (t : ByteArray) (a b : Int) : Array Value := #[.string t, .int .i64 a, .int .i64 b]
section
variable {t u : ByteArray} {a b x : Int} {q : Nat}
theorem layC_size : (layC t a b).size = 3 := rfl
theorem layC_0 (h : q = 0) : (layC t a b)[q]? = some (.string t) := by subst h; rfl
theorem layC_1 (h : q = 1) : (layC t a b)[q]? = some (.int .i64 a) := by subst h; rfl
theorem layC_2 (h : q = 2) : (layC t a b)[q]? = some (.int .i64 b) := by subst h; rfl
theorem layC_set0 (h : q = 0) : (layC t a b).setIfInBounds q (.string u) = layC u a b := by subst h; rfl
theorem layC_set1 (h : q = 1) : (layC t a b).setIfInBounds q (.int .i64 x) = layC t x b := by subst h; rfl
theorem layC_set2 (h : q = 2) : (layC t a b).setIfInBounds q (.int .i64 x) = layC t a x := by subst h; rfl
theorem layC_one : ∀ v ∈ (layC t a b).toList, v.oneCell' = true := by
  intro v hv
  simp [layC] at hv
  rcases hv with rfl | rfl | rfl <;> rfl
end
/-- The cells of a word's layers. -/
def layF (s : ByteArray) (q : Nat) : Value := if q % 3 = 0 then .string (seg s 47 (q / 3)) else if q % 3 = 1 then .int .i64 ((inR s (sgB s 47 (q / 3)) : Nat) : Int) else .int .i64 ((outR s (sgB s 47 (q / 3)) : Nat) : Int)
def segF (s : ByteArray) (c : Nat) (k : Nat) : Value := .string (seg s c k)
theorem layF_one {s : ByteArray} (q : Nat) : (layF s q).oneCell' = true := by unfold layF; split; rfl; split <;> rfl
section
variable {s : ByteArray}
theorem layF_0 (k : Nat) {q : Nat} (h : q = k * 3) : layF s q = .string (seg s 47 k) := by
  subst h; unfold layF; rw [if_pos (by omega), show k * 3 / 3 = k by omega]
theorem layF_1 (k : Nat) {q : Nat} (h : q = k * 3 + 1) : layF s q = .int .i64 ((inR s (sgB s 47 k) : Nat) : Int) := by
  subst h; unfold layF; rw [if_neg (by omega), if_pos (by omega), show (k * 3 + 1) / 3 = k by omega]
theorem layF_2 (k : Nat) {q : Nat} (h : q = k * 3 + 2) : layF s q = .int .i64 ((outR s (sgB s 47 k) : Nat) : Int) := by
  subst h; unfold layF; rw [if_neg (by omega), if_neg (by omega), show (k * 3 + 2) / 3 = k by omega]
/-- One layer more. -/
theorem layF_snoc {u : Value} {e : Option (Nat × Array Value)} {b : Nat} (hB : isB s b) (h : Sl 3 u e (cnt s 47 b + 1) (fun i => if i < cnt s 47 b * 3 then layF s i else (fun q => (layC (s.extract (sta s 47 b) b) ((inR s b : Nat) : Int) ((outR s b : Nat) : Int))[q]?.getD undef) (i - cnt s 47 b * 3))) : Sl 3 u e (cnt s 47 b + 1) (layF s) :=
  h.congr fun i hi => by
    by_cases hlt : i < cnt s 47 b * 3
    · rw [if_pos hlt]
    · rw [if_neg hlt]
      have e1 := seg_b hB
      have e2 := sgB_b hB
      obtain h0 | h0 | h0 : i = cnt s 47 b * 3 ∨ i = cnt s 47 b * 3 + 1 ∨ i = cnt s 47 b * 3 + 2 := by omega
      · rw [layF_0 _ h0, e1, h0, Nat.sub_self]; rfl
      · rw [layF_1 _ h0, e2, h0, show cnt s 47 b * 3 + 1 - cnt s 47 b * 3 = 1 by omega]; rfl
      · rw [layF_2 _ h0, e2, h0, show cnt s 47 b * 3 + 2 - cnt s 47 b * 3 = 2 by omega]; rfl
theorem SlAt.get3 {u : Value} {e : Option (Nat × Array Value)} {n b cap : Nat} {cs : Array Value} {f : Nat → Value} (h : SlAt 3 u e n b cap cs f) (i j : Nat) {o : Nat} (ho : o = 0 + i * 3 + j) (hi : i < n) (hj : j < 3) : cs[o]? = some (f (i * 3 + j)) := by
  subst ho
  have := h.get (i * 3 + j) (by omega)
  rwa [Nat.zero_add]
theorem cnt_pos {i : Nat} (h : i ≤ s.size) : 0 < cnt s 47 i ↔ 0 < sta s 47 i := by
  induction i with
  | zero => simp [cnt, bnd, sta]
  | succ i ih =>
    by_cases hb : byt s i = 47
    · rw [cnt_yes hb, sta_yes hb]; omega
    · rw [cnt_no hb, sta_no hb]; exact ih (by omega)
/-- The layer before the one at b. -/
theorem prev_out {b : Nat} (hb : b ≤ s.size) (h : 0 < cnt s 47 b) : sgB s 47 (cnt s 47 b - 1) = sta s 47 b - 1 := by
  have h1 := sgA_cnt (s := s) (c := 47) hb
  unfold sgA at h1
  rw [if_neg (by omega)] at h1
  omega
/-- The layers one by one. -/
theorem word_at (h : WordP s) {k : Nat} (hk : k < nSg s 47) : layP s (sgB s 47 k) := h.2.2 _ (sgB_le hk) (sgB_spec hk).1
theorem word_of (h1 : s.size ≤ 300) (h2 : ∀ i, i < s.size → byt s i = 47 ∨ pcB (byt s i) = true) (h3 : ∀ k, k < nSg s 47 → layP s (sgB s 47 k)) : WordP s :=
  ⟨h1, h2, fun b hb hB => by
    have h4 := h3 (cnt s 47 b) (by unfold nSg; have := cnt_mono (s := s) (c := 47) hb; omega)
    rwa [sgB_b hB] at h4⟩
end
end Go.Sw
