/- Plain lemmas of a small calculus for walks over frames and own memory; no statement of the seat is proved here. -/
import Derived.Test.YtfencffdhenjdaaDoorSw9
set_option linter.unusedVariables false
set_option linter.unusedSimpArgs false
namespace Go.Sw
open Go Go.RowKit
variable {P : Program}
section
variable {fn : Func} {a : Act} {w : World}
theorem fin0 {R : Ending → World → Prop} (hr : fn.results = #[]) (hd : a.defers = []) (h : R (.returned (.tuple #[])) w) : bodyPost P fn R .ret a w :=
  bodyPost_ret (by rw [results_eq, hr]; simp) hd h
theorem fin0n {R : Ending → World → Prop} (hr : fn.results = #[]) (hd : a.defers = []) (h : R (.returned (.tuple #[])) w) : bodyPost P fn R .normal a w := by
  have := fin0 (P := P) (R := R) hr hd h
  exact this
end
theorem MemX.startX1D {w : World} {b : Nat} {cs : Array Value} {D : Froz} (n : Nat) (h : Blk w b cs) (hD : ∀ c ds, (c, ds) ∈ D → Blk w c ds ∧ c ≠ b) : MemX [b] w w (some (b, cs) :: List.replicate n none) D := by
  have h0 := MemX.startX1 n h
  refine ⟨h0.bel, h0.blk, h0.apart, fun c ds hm => ⟨(hD c ds hm).1, fun k e es hk => ?_⟩⟩
  cases k with
  | zero => simp at hk; rw [← hk.1]; exact fun e => (hD c ds hm).2 e.symm
  | succ k => simp [List.getElem?_replicate] at hk
theorem startXD1 {w : World} {b b' : Nat} {cs' : Array Value} (h : Blk w b' cs') (hn : b' ≠ b) : ∀ c ds, (c, ds) ∈ [(b', cs')] → Blk w c ds ∧ c ≠ b := fun c ds hm => by simp at hm; obtain ⟨rfl, rfl⟩ := hm; exact ⟨h, hn⟩
end Go.Sw

namespace Go.Sw
open Go Go.RowKit
section
variable {p n q : Int} {T U : Nat → Nat → Nat → Nat} {f v : Nat → Nat} {M : Nat → Nat → Nat}
theorem planeC_put {o : Nat} (j : Nat) (h : o = j * 6) (hj : j < 6) : splice (planeC M) o (vecC v) = planeC (fun a k => if a = j then v k else M a k) := by
  subst h
  apply fnC_ext (by rw [splice_size _ _ _ (by rw [vecC_size, planeC_size]; omega), planeC_size])
  intro i hi
  rw [splice_get _ _ _ _ (by rw [vecC_size, planeC_size]; omega), vecC_size]
  by_cases e : j * 6 ≤ i ∧ i < j * 6 + 6
  · rw [if_pos e, vecC_get (i - j * 6) rfl (by omega)]; dsimp only; rw [if_pos (by omega), show i - j * 6 = i % 6 by omega]
  · rw [if_neg e, planeC_get (i / 6) (i % 6) (by omega) (by omega) (by omega)]; dsimp only; rw [if_neg (by omega)]
theorem tabC_put {o : Nat} (a : Nat) (h : o = a * 36) (ha : a < 6) : splice (tabC T) o (planeC M) = tabC (fun i j k => if i = a then M j k else T i j k) := by
  subst h
  apply fnC_ext (by rw [splice_size _ _ _ (by rw [planeC_size, tabC_size]; omega), tabC_size])
  intro i hi
  rw [splice_get _ _ _ _ (by rw [planeC_size, tabC_size]; omega), planeC_size]
  by_cases e : a * 36 ≤ i ∧ i < a * 36 + 36
  · rw [if_pos e, planeC_get (i / 6 % 6) (i % 6) (by omega) (by omega) (by omega)]; dsimp only; rw [if_pos (by omega)]
  · rw [if_neg e, tabC_get (i / 36) (i / 6 % 6) (i % 6) (by omega) (by omega) (by omega) (by omega)]; dsimp only; rw [if_neg (by omega)]
theorem algC_eq {c : Array Value} (hs : c.size = 224) (h0 : c[0]? = some (.int .i64 p)) (h1 : c[1]? = some (.int .i64 n)) (hT : ∀ i j k, i < 6 → j < 6 → k < 6 → c[2 + i * 36 + j * 6 + k]? = some (.int .u8 ((T i j k : Nat) : Int)))
    (hf : ∀ i, i < 6 → c[218 + i]? = some (.int .u8 ((f i : Nat) : Int))) : c = algC p n T f := by
  apply Array.ext_getElem?
  intro i
  by_cases hi : i < 224
  · by_cases e0 : i = 0
    · subst e0; rw [h0, algC_p rfl]
    · by_cases e1 : i = 1
      · subst e1; rw [h1, algC_n rfl]
      · by_cases e2 : i < 218
        · have e : i = 2 + ((i - 2) / 36) * 36 + ((i - 2) / 6 % 6) * 6 + (i - 2) % 6 := by omega
          rw [e, hT _ _ _ (by omega) (by omega) (by omega), algC_T _ _ _ rfl (by omega) (by omega) (by omega)]
        · have e : i = 218 + (i - 218) := by omega
          rw [e, hf _ (by omega), algC_f _ rfl (by omega)]
  · rw [Array.getElem?_eq_none (by omega), Array.getElem?_eq_none (by rw [cells_size]; omega)]
theorem algC_setp {o : Nat} (h : o = 0) : (algC p n T f).setIfInBounds o (.int .i64 q) = algC q n T f := by
  subst h
  refine algC_eq (by rw [Array.size_setIfInBounds, cells_size]) ?_ ?_ ?_ ?_
  · rw [Array.getElem?_setIfInBounds_self_of_lt (by rw [cells_size]; omega)]
  · rw [Array.getElem?_setIfInBounds_ne (by omega)]; exact algC_n rfl
  · intro i j k hi hj hk; rw [Array.getElem?_setIfInBounds_ne (by omega)]; exact algC_T i j k rfl hi hj hk
  · intro i hi; rw [Array.getElem?_setIfInBounds_ne (by omega)]; exact algC_f i rfl hi
theorem algC_setn {o : Nat} (h : o = 1) : (algC p n T f).setIfInBounds o (.int .i64 q) = algC p q T f := by
  subst h
  refine algC_eq (by rw [Array.size_setIfInBounds, cells_size]) ?_ ?_ ?_ ?_
  · rw [Array.getElem?_setIfInBounds_ne (by omega)]; exact algC_p rfl
  · rw [Array.getElem?_setIfInBounds_self_of_lt (by rw [cells_size]; omega)]
  · intro i j k hi hj hk; rw [Array.getElem?_setIfInBounds_ne (by omega)]; exact algC_T i j k rfl hi hj hk
  · intro i hi; rw [Array.getElem?_setIfInBounds_ne (by omega)]; exact algC_f i rfl hi
theorem algC_putT {o : Nat} (h : o = 2) : splice (algC p n T f) o (tabC U) = algC p n U f := by
  subst h
  have hz : 2 + (tabC U).size ≤ (algC p n T f).size := by rw [tabC_size, cells_size]; omega
  refine algC_eq (by rw [splice_size _ _ _ hz, cells_size]) ?_ ?_ ?_ ?_
  · rw [splice_get _ _ _ _ hz, if_neg (by omega)]; exact algC_p rfl
  · rw [splice_get _ _ _ _ hz, if_neg (by omega)]; exact algC_n rfl
  · intro i j k hi hj hk; rw [splice_get _ _ _ _ hz, tabC_size, if_pos (by omega)]; exact tabC_get i j k (by omega) hi hj hk
  · intro i hi; rw [splice_get _ _ _ _ hz, tabC_size, if_neg (by omega)]; exact algC_f i rfl hi
theorem algC_putF {o : Nat} (h : o = 218) : splice (algC p n T f) o (vecC v) = algC p n T v := by
  subst h
  have hz : 218 + (vecC v).size ≤ (algC p n T f).size := by rw [vecC_size, cells_size]; omega
  refine algC_eq (by rw [splice_size _ _ _ hz, cells_size]) ?_ ?_ ?_ ?_
  · rw [splice_get _ _ _ _ hz, if_neg (by omega)]; exact algC_p rfl
  · rw [splice_get _ _ _ _ hz, if_neg (by omega)]; exact algC_n rfl
  · intro i j k hi hj hk; rw [splice_get _ _ _ _ hz, vecC_size, if_neg (by omega)]; exact algC_T i j k rfl hi hj hk
  · intro i hi; rw [splice_get _ _ _ _ hz, vecC_size, if_pos (by omega)]; exact vecC_get i (by omega) hi
end
end Go.Sw
