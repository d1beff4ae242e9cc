/- Plain lemmas of a small calculus for walks over frames and own memory; no statement of the seat is proved here. -/
import Derived.Test.YtkodkghomlkifaaSw63
import Derived.Test.YtkodkghomlkifaaSw14
import Derived.Test.YtkodkghomlkifaaEch6
import Derived.Test.YtkodkghomlkifaaEch5
set_option linter.unusedVariables false
set_option linter.unusedSimpArgs false
namespace Go.Sw
open Go Go.RowKit Go.ChangeShapes Go.WideShapes Go.ChangeAt
structure ArgSS (w : World) (sl : Value) (m : Nat) (L : Nat → Nat) (R : Nat → Nat → Int) (xs : Nat → Option Addr) (ca be ob : Nat → Nat) : Prop where
  out : ∃ x c, sl = .slice x m c
  cell : 0 < m → ∃ b o c, sl = .slice (some ⟨b, o, none⟩) m c ∧ ∀ i, i < m → w.cell? ⟨b, o + i * 1, none⟩ = some (.slice (xs i) (L i) (ca i))
  adr : ∀ i, i < m → 0 < L i → xs i = some ⟨be i, ob i, none⟩
  num : ∀ i, i < m → ∀ j, j < L i → w.cell? ⟨be i, ob i + j * 1, none⟩ = some (.int .i64 (R i j))
namespace ArgSS
variable {w w' : World} {sl : Value} {m : Nat} {L : Nat → Nat} {R : Nat → Nat → Int} {xs : Nat → Option Addr} {ca be ob : Nat → Nat}
theorem ext (h : ArgSS w sl m L R xs ca be ob) (hx : Ext w w') : ArgSS w' sl m L R xs ca be ob :=
  ⟨h.out, fun hm => by obtain ⟨b, o, c, h1, h2⟩ := h.cell hm; exact ⟨b, o, c, h1, fun i hi => cell_ext (h2 i hi) hx⟩, h.adr, fun i hi j hj => cell_ext (h.num i hi j hj) hx⟩
theorem one (h : ArgSS w sl m L R xs ca be ob) : sl.oneCell' = true := by
  obtain ⟨x, c, rfl⟩ := h.out; rfl
theorem row (h : ArgSS w sl m L R xs ca be ob) {i : Nat} (hi : i < m) : ArgSl w (.slice (xs i) (L i) (ca i)) (L i) (R i) :=
  ⟨⟨_, _, rfl⟩, fun hl => ⟨be i, ob i, ca i, by rw [h.adr i hi hl], h.num i hi⟩⟩
theorem congr {R' : Nat → Nat → Int} (h : ArgSS w sl m L R xs ca be ob) (e : ∀ i, i < m → ∀ j, j < L i → R i j = R' i j) : ArgSS w sl m L R' xs ca be ob :=
  ⟨h.out, h.cell, h.adr, fun i hi j hj => by rw [← e i hi j hj]; exact h.num i hi j hj⟩
end ArgSS
section
variable {H : Type} {enc : TypeId × Value → H} {P : Program} {w : World} {base : Nat} {spare : Nat → Bool} {held : Bool}
end
def rowsC (m : Nat) (L : Nat → Nat) (β : Nat → Nat) : Array Value := fnC m fun i => .slice (some ⟨β i, 0, none⟩) (L i) (L i)
structure SSD (D : Froz) (u : Value) (m : Nat) (L : Nat → Nat) (R : Nat → Nat → Int) (b : Nat) (β : Nat → Nat) : Prop where
  val : u = .slice (some ⟨b, 0, none⟩) m m
  out : (b, rowsC m L β) ∈ D
  row : ∀ i, i < m → (β i, numI (L i) (R i)) ∈ D
  inj : ∀ i j, i < m → j < m → β i = β j → i = j
  ne : ∀ i, i < m → β i ≠ b
theorem SSD.more {D D' : Froz} {u : Value} {m b : Nat} {L β : Nat → Nat} {R : Nat → Nat → Int} (h : SSD D u m L R b β) (hs : ∀ x, x ∈ D → x ∈ D') : SSD D' u m L R b β := ⟨h.val, hs _ h.out, fun i hi => hs _ (h.row i hi), h.inj, h.ne⟩
def SSOut (w w' : World) (m : Nat) (L : Nat → Nat) (R : Nat → Nat → Int) (u : Value) : Prop := ∃ (D : Froz) (b : Nat) (β : Nat → Nat), (∀ x ds, (x, ds) ∈ D → w.heap.size ≤ x ∧ Blk w' x ds) ∧ SSD D u m L R b β
end Go.Sw

namespace Go.Sw
open Go Go.RowKit
/-! ### Ascending lists of the numbers that have a property -/
def cnt (S : Nat → Bool) : Nat → Nat
  | 0 => 0
  | i + 1 => cnt S i + if S i = true then 1 else 0
theorem cnt_yes {S : Nat → Bool} {i : Nat} (h : S i = true) : cnt S (i + 1) = cnt S i + 1 := by simp only [cnt]; rw [if_pos h]
theorem cnt_no {S : Nat → Bool} {i : Nat} (h : ¬ S i = true) : cnt S (i + 1) = cnt S i := by simp only [cnt]; rw [if_neg h]; rfl
theorem cnt_le {S : Nat → Bool} : ∀ i, cnt S i ≤ i
  | 0 => Nat.le_refl _
  | i + 1 => by have := cnt_le (S := S) i; simp only [cnt]; split <;> omega
theorem cnt_mono {S : Nat → Bool} {i : Nat} : ∀ {j : Nat}, i ≤ j → cnt S i ≤ cnt S j
  | 0, h => by rw [show i = 0 by omega]; exact Nat.le_refl _
  | j + 1, h => by
    by_cases e : i = j + 1
    · rw [e]; exact Nat.le_refl _
    · exact Nat.le_trans (cnt_mono (S := S) (j := j) (by omega)) (Nat.le_add_right _ _)
theorem cnt_lt {S : Nat → Bool} {i j : Nat} (hi : S i = true) (h : i < j) : cnt S i < cnt S j := by
  have h1 := cnt_yes hi;have h2 := cnt_mono (S := S) (show i + 1 ≤ j by omega)
  omega
theorem cnt_inj {S : Nat → Bool} {i j : Nat} (hi : S i = true) (hj : S j = true) (h : cnt S i = cnt S j) : i = j := by
  rcases Nat.lt_trichotomy i j with e | e | e
  · have := cnt_lt hi e; omega
  · exact e
  · have := cnt_lt hj e; omega
def asc (S : Nat → Bool) : Nat → Nat → Nat
  | 0, _ => 0
  | n + 1, k => if S n = true ∧ cnt S n = k then n else asc S n k
theorem asc_at {S : Nat → Bool} {j : Nat} (h : S j = true) : ∀ {n : Nat}, j < n → asc S n (cnt S j) = j
  | 0, hj => absurd hj (by omega)
  | n + 1, hj => by
    simp only [asc]
    by_cases e : S n = true ∧ cnt S n = cnt S j
    · rw [if_pos e]; exact cnt_inj e.1 h e.2
    · rw [if_neg e]
      refine asc_at h ?_
      by_cases e2 : j = n
      · subst e2; exact absurd ⟨h, rfl⟩ e
      · omega
end Go.Sw

namespace Go.Ech
open Go.Sw
theorem sI_sub' (f g : Nat → Int) (n : Nat) : sI (fun i => f i - g i) n = sI f n - sI g n := by
  have := sI_add (fun c => f c - g c) g n;rw [show (fun i => (f i - g i) + g i) = f from by funext i; omega] at this; omega
theorem sI_dl {f : Nat → Int} {n a : Nat} (ha : a < n) : sI (fun i => f i * (dl i a : Int)) n = f a := by
  rw [sI_one ha (fun i _ hne => by simp [dl, hne])]; simp [dl]
theorem sI_dl' {f : Nat → Int} {n a : Nat} (ha : a < n) : sI (fun i => (dl a i : Int) * f i) n = f a := by
  rw [sI_one ha (fun i _ hne => by simp [dl, Ne.symm hne])]; simp [dl]
theorem sI_mod {p : Nat} {f g h : Nat → Int} {n : Nat} (e : ∀ i, i < n → (p : Int) ∣ g i - h i) : (p : Int) ∣ sI (fun i => f i * g i) n - sI (fun i => f i * h i) n := by
  rw [← sI_sub'];exact sI_dvd fun i hi => by rw [← Int.mul_sub]; exact Int.dvd_mul_of_dvd_right (e i hi)
theorem IsCop.left {p n : Nat} {F G : Nat → Nat → Nat} (hp : 2 ≤ p) (hn : n ≤ 6) (hF : ∀ i c, n ≤ c → F i c = 0) (hf : FullK p n F) (h : IsCop p n F G) : ∀ i, i < n → ∀ j, j < n → (p : Int) ∣ sI (fun k => (G i k : Int) * (F k j : Int)) n - (dl i j : Int) := by
  intro i hi j hj;have hK : Ker p 6 F n (fun a => if a < n then sI (fun k => (G a k : Int) * (F k j : Int)) n - (dl a j : Int) else 0) := fun b hb => by
    unfold dot
    rw [sI_cut hn (fun c h1 _ => by simp [show ¬ c < n by omega])];have e : sI (fun c => ci (F b) c * (if c < n then sI (fun k => (G c k : Int) * (F k j : Int)) n - (dl c j : Int) else 0)) n = sI (fun k => (F k j : Int) * sI (fun c => (F b c : Int) * (G c k : Int)) n) n - (F b j : Int) := by
      rw [sI_congr (g := fun c => (F b c : Int) * sI (fun k => (G c k : Int) * (F k j : Int)) n - (F b c : Int) * (dl c j : Int)) (fun c hc => by rw [if_pos hc, Int.mul_sub]), sI_sub', sI_dl hj]
      congr 1
      rw [sI_congr (g := fun c => sI (fun k => (F b c : Int) * ((G c k : Int) * (F k j : Int))) n) (fun c _ => (sI_mul _ _ _).symm), sI_swap];exact sI_congr fun k _ => by rw [← sI_mul]; exact sI_congr fun c _ => by rw [← Int.mul_assoc]; exact Int.mul_comm _ _
    rw [e];have h1 := sI_mod (p := p) (f := fun k => (F k j : Int)) (g := fun k => sI (fun c => (F b c : Int) * (G c k : Int)) n) (h := fun k => (dl b k : Int)) (n := n) (fun k hk => h.sol b hb k hk)
    rwa [show sI (fun k => (F k j : Int) * (dl b k : Int)) n = (F b j : Int) from by
      rw [sI_congr (g := fun k => (dl b k : Int) * (F k j : Int)) (fun k _ => Int.mul_comm _ _)]; exact sI_dl' hb] at h1
  have := hf.zero hp hn hF hK (fun d h1 _ => by simp [show ¬ d < n by omega]) hi
  simpa only [if_pos hi] using this
end Go.Ech

namespace Go.Ech
open Go.Sw
/-! ### The kernel of rows, as a reduced list. -/
def sol (p : Nat) (E : Nat → Nat → Nat) (k : Nat) (ld : Nat → Nat) (c d : Nat) : Nat := if d = c then 1 else match ldAt k ld d with
  | some j => (p - E j c) % p
  | none => 0
def nf (k : Nat) (ld : Nat → Nat) : Nat → Nat
  | 0 => 0
  | c + 1 => if isLd k ld c then nf k ld c else nf k ld c + 1
def SolR (p n : Nat) (E : Nat → Nat → Nat) (k : Nat) (ld : Nat → Nat) (S : Nat → Nat → Nat) : Prop := ∀ c, c < n → ¬ isLd k ld c → ∀ d, S (nf k ld c) d = sol p E k ld c d
def IsKer (p n : Nat) (M : Nat → Nat → Nat) (m r : Nat) (V : Nat → Nat → Nat) : Prop := ∃ (k : Nat) (E : Nat → Nat → Nat) (ld ld2 : Nat → Nat), Rref p n E k ld ∧ (∀ x, Ker p n E k x ↔ Ker p n M m x) ∧ Rref p n V r ld2 ∧
  ∀ x, Ker p n V r x ↔ ∀ c, c < n → ¬ isLd k ld c → (p : Int) ∣ dot n (ci (sol p E k ld c)) x
theorem isLd_congr {k : Nat} {ld ld' : Nat → Nat} (e : ∀ i, i < k → ld i = ld' i) (c : Nat) : isLd k ld c ↔ isLd k ld' c :=
  ⟨fun ⟨i, hi, h⟩ => ⟨i, hi, by rw [← e i hi]; exact h⟩, fun ⟨i, hi, h⟩ => ⟨i, hi, by rw [e i hi]; exact h⟩⟩
theorem ldAt_congr {k : Nat} {ld ld' : Nat → Nat} (e : ∀ i, i < k → ld i = ld' i) (d : Nat) : ldAt k ld d = ldAt k ld' d := by
  unfold ldAt
  have : ∀ l : List Nat, (∀ i ∈ l, i < k) → l.find? (fun i => ld i == d) = l.find? (fun i => ld' i == d) := by
    intro l
    induction l with
    | nil => intro _; rfl
    | cons a l ih =>
      intro h;rw [List.find?_cons, List.find?_cons, e a (h a (List.mem_cons_self ..)), ih (fun i hi => h i (List.mem_cons_of_mem _ hi))]
  exact this _ (fun i hi => List.mem_range.1 hi)
theorem sol_congr {p n k : Nat} {E E' : Nat → Nat → Nat} {ld ld' : Nat → Nat} (e : ∀ i, i < k → ld i = ld' i) (eE : ∀ i, i < k → ∀ c, c < n → E i c = E' i c) {c : Nat} (hc : c < n) (d : Nat) : sol p E k ld c d = sol p E' k ld' c d := by
  unfold sol
  rw [ldAt_congr e d]
  split
  · rfl
  · cases h : ldAt k ld' d with
    | none => rfl
    | some j => dsimp only; rw [eE j (ldAt_some h).1 c hc]
theorem IsKer.unique {p n m r r' : Nat} {M V V' : Nat → Nat → Nat} (hp : 2 ≤ p) (h : IsKer p n M m r V) (h' : IsKer p n M m r' V') : r = r' ∧ ∀ i, i < r → ∀ c, c < n → V i c = V' i c := by
  obtain ⟨k, E, ld, ld2, h1, h2, h3, h4⟩ := h;obtain ⟨k', E', ld', ld2', h1', h2', h3', h4'⟩ := h';obtain ⟨rfl, e1, e2⟩ := rref_unique hp h1 h1' (fun x => (h2 x).trans (h2' x).symm);have e3 : ∀ x, Ker p n V r x ↔ Ker p n V' r' x := fun x => by
    rw [h4 x, h4' x];have es : ∀ c, c < n → ci (sol p E k ld c) = ci (sol p E' k ld' c) := fun c hc => by
      funext d; unfold ci; rw [sol_congr e1 e2 hc d]
    exact ⟨fun q c hc hf => by rw [← es c hc]; exact q c hc (fun hl => hf ((isLd_congr e1 c).1 hl)), fun q c hc hf => by rw [es c hc]; exact q c hc (fun hl => hf ((isLd_congr e1 c).2 hl))⟩
  obtain ⟨er, _, eV⟩ := rref_unique hp h3 h3' e3;exact ⟨er, eV⟩
/-! Rows with zeros behind their first n numbers. -/
def padN (n : Nat) (E : Nat → Nat → Nat) (i c : Nat) : Nat := if c < n then E i c else 0
def lv (ld : Nat → Nat) (q c : Nat) : Nat := match ldAt q ld c with
  | some j => j + 1
  | none => 0
end Go.Ech

namespace Go.Ech
open Go.Sw
/-! ### More unknowns than equations; nilpotent vectors. -/
def powU (u : Nat → Nat) (W : Nat → Nat → Nat) : Nat → Nat → Nat
  | 0 => u
  | k + 1 => W k
end Go.Ech

namespace Go.Ech
open Go.Sw
/-! ### Polynomials in a vector, times an idempotent. -/
def EqP (p n : Nat) (x y : Nat → Int) : Prop := ∀ c, c < n → (p : Int) ∣ x c - y c
section
variable {p n : Nat} {T : Nat → Nat → Nat → Nat} {x y z x' y' : Nat → Int}
theorem EqP.refl (x : Nat → Int) : EqP p n x x := fun c _ => by rw [Int.sub_self]; exact ⟨0, by simp⟩
theorem EqP.symm (h : EqP p n x y) : EqP p n y x := fun c hc => by
  have := Int.dvd_neg.2 (h c hc)
  rwa [Int.neg_sub] at this
theorem EqP.trans (h : EqP p n x y) (k : EqP p n y z) : EqP p n x z := fun c hc => by
  have := Int.dvd_add (h c hc) (k c hc)
  rwa [show x c - y c + (y c - z c) = x c - z c by omega] at this
theorem EqP.mul (h : EqP p n x x') (k : EqP p n y y') : EqP p n (Pr n T x y) (Pr n T x' y') := fun c _ => Pr_congr h k c
theorem EqP.add (h : EqP p n x x') (k : EqP p n y y') : EqP p n (fun c => x c + y c) (fun c => x' c + y' c) := fun c hc => by
  have := Int.dvd_add (h c hc) (k c hc)
  rwa [show x c - x' c + (y c - y' c) = x c + y c - (x' c + y' c) by omega] at this
def ComI (n : Nat) (T : Nat → Nat → Nat → Nat) : Prop := ∀ i, i < n → ∀ j, j < n → ∀ k, k < n → T i j k = T j i k
theorem Pr_comm (h : ComI n T) (x y : Nat → Int) : EqP p n (Pr n T x y) (Pr n T y x) := fun c hc => by
  have e : Pr n T x y c = Pr n T y x c := by
    unfold Pr
    rw [sI_swap];exact sI_congr fun a ha => sI_congr fun b hb => by rw [h b hb a ha c hc]; grind
  rw [e, Int.sub_self]; exact ⟨0, by simp⟩
end
def eP (n : Nat) (T : Nat → Nat → Nat → Nat) (e v : Nat → Int) : Nat → Nat → Int
  | 0 => e
  | k + 1 => Pr n T (eP n T e v k) v
def evl (n : Nat) (T : Nat → Nat → Nat → Nat) (e v : Nat → Int) : List Int → Nat → Nat → Int
  | [], _, _ => 0
  | a :: r, j, c => a * eP n T e v j c + evl n T e v r (j + 1) c
def addL : List Int → List Int → List Int
  | [], r => r
  | q, [] => q
  | a :: q, b :: r => (a + b) :: addL q r
def mulLL (q : List Int) : List Int → List Int
  | [] => []
  | b :: r => addL (q.map (b * ·)) (0 :: mulLL q r)
def congL (p : Int) (q r : List Int) : Bool := (addL q (r.map (-1 * ·))).all fun a => decide (a % p = 0)
section
variable {p n : Nat} {T : Nat → Nat → Nat → Nat} {e v : Nat → Int}
variable (ha : AssI p n T) (hk : ComI n T) (he : EqP p n (Pr n T e e) e)
include ha hk in
theorem Pr_right_comm (x y z : Nat → Int) : EqP p n (Pr n T (Pr n T x y) z) (Pr n T (Pr n T x z) y) := by
  refine EqP.trans (fun c hc => Pr_assoc ha x y z hc) <| EqP.trans (EqP.mul (EqP.refl x) (Pr_comm hk y z)) ?_;exact EqP.symm fun c hc => Pr_assoc ha x z y hc
include ha hk he in
end
end Go.Ech
