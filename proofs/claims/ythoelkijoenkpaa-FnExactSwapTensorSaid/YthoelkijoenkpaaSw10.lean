/- Plain lemmas of a small calculus for walks over frames and own memory; no statement of the seat is proved here. -/
import Derived.Test.YthoelkijoenkpaaSw93
import Derived.JoinedOf
import Derived.KernelRfl
set_option linter.unusedVariables false
set_option linter.unusedSimpArgs false
namespace Go.Sw.Rw
open Go Go.RowKit
variable {P : Program}
theorem round2 {n p q : Nat} {a : Act} {F : List (Nat × Value)} {u v : Value} (hF : Fr n a F) (hp : Nat.blt p n = true) (hq : Nat.blt q n = true) : Fr n { tmps := roundTmps #[p, q] #[u, v] a.tmps, defers := [] } ((q, v) :: (p, u) :: F) := by
  have h := (hF.put p u hp).put q v hq;have e : roundTmps #[p, q] #[u, v] a.tmps = ((a.put (some p) u).put (some q) v).tmps := by simp [roundTmps, Act.put]
  rw [e];exact ⟨rfl, h.size, h.get⟩
theorem args_inj {x y b c l : Nat} (h : (#[.int .i64 (x : Int), .slice (some ⟨b, 0, none⟩) l l] : Array Value) = #[.int .i64 (y : Int), .slice (some ⟨c, 0, none⟩) l l]) : x = y ∧ b = c := by
  simp only [Array.mk.injEq, List.cons.injEq, Value.int.injEq, true_and, Value.slice.injEq, Option.some.injEq, Addr.mk.injEq, and_true] at h;exact ⟨by have := h.1; omega, h.2⟩
def blks (L : Own) : List Nat := L.filterMap (fun x => x.map Prod.fst)
theorem mem_blks {L : Own} {b : Nat} : b ∈ blks L ↔ ∃ (k : Nat) (cs : Array Value), L[k]? = some (some (b, cs)) := by
  unfold blks
  rw [List.mem_filterMap]
  constructor
  · rintro ⟨x, hx, e⟩
    cases x with
    | none => cases e
    | some y =>
      obtain ⟨k, hk⟩ := List.mem_iff_getElem?.1 hx;obtain rfl := Option.some.inj e;exact ⟨k, y.2, hk⟩
  · rintro ⟨k, cs, hk⟩
    exact ⟨some (b, cs), List.mem_iff_getElem?.2 ⟨k, hk⟩, rfl⟩
theorem rebase {w0 w : World} {L : Own} {D : Froz} (h : Mem w0 w L D) : MemX (blks L) w w L D :=
  ⟨ExtX.refl _ w, fun k b cs hk => ⟨.inr (mem_blks.2 ⟨k, cs, hk⟩), (h.blk k b cs hk).2⟩, h.apart, h.froz⟩
theorem unbase {w0 w w' : World} {L L' : Own} {D D' : Froz} (h : Mem w0 w L D) (h2 : MemX (blks L) w w' L' D') (hD : ∀ x, x ∈ D → x ∈ D') : Mem w0 w' L' D := by
  have hge : ∀ b, b ∈ blks L → w0.heap.size ≤ b := fun b hb => by
    obtain ⟨k, cs, hk⟩ := mem_blks.1 hb;exact (h.blk k b cs hk).1.resolve_right (by simp)
  refine ⟨⟨h2.bel.os.trans h.bel.os, h2.bel.tape.trans h.bel.tape, h2.bel.output.trans h.bel.output, Nat.le_trans h.bel.size h2.bel.size, fun k hk hX => ?_⟩, fun k b cs hk => ⟨.inl ?_, (h2.blk k b cs hk).2⟩, h2.apart, fun b cs hm => h2.froz b cs (hD _ hm)⟩
  · exact (h2.bel.block k (Nat.lt_of_lt_of_le hk h.bel.size) (fun q => by have := hge k q; omega)).trans (h.bel.block k hk hX)
  · rcases (h2.blk k b cs hk).1 with q | q
    · exact Nat.le_trans h.bel.size q
    · exact hge b q
theorem keeps {w0 w w' : World} {L L' : Own} {D D' : Froz} (h : Mem w0 w L D) (h2 : MemX (blks L) w w' L' D') : KeepsNC w w' :=
  keepsNC_of h2.bel fun b hb => by
    obtain ⟨k, cs, hk⟩ := mem_blks.1 hb
    exact ⟨cs, (h.blk k b cs hk).2⟩
theorem addD_mark {n D : Nat} {a : Act} {F : List (Nat × Value)} (hF : Fr n a F) : ({ a with defers := [{ target := .collected D, args := #[] }] } : Act) = addD [mark D] a := by
  unfold addD; rw [hF.defers]; rfl
end Go.Sw.Rw
namespace Go.Sw.Rw
def orgF (ord d : Nat → Nat) : Nat → Nat → Nat
  | 0, _ => 0
  | j + 1, c => if c = ord j then d j else orgF ord d j c
def plF (s : Nat) (g : Nat → Nat) : Nat → Nat
  | 0 => 0
  | j + 1 => plF s g j * s + g j
theorem orgF_lt {ord d : Nat → Nat} {s : Nat} (hs : 0 < s) (h : ∀ j, d j < s) : ∀ j c, orgF ord d j c < s
  | 0, _ => hs
  | j + 1, c => by
    unfold orgF
    split
    · exact h j
    · exact orgF_lt hs h j c
theorem plF_lt {s : Nat} {g : Nat → Nat} (h : ∀ c, g c < s) : ∀ j, plF s g j < s ^ j
  | 0 => by unfold plF; exact Nat.lt_of_lt_of_le Nat.zero_lt_one (Nat.le_refl _)
  | j + 1 => by
    have ih := plF_lt h j
    have hg := h j
    unfold plF
    rw [Nat.pow_succ]
    have : (plF s g j + 1) * s ≤ s ^ j * s := Nat.mul_le_mul_right s ih
    rw [Nat.add_mul, Nat.one_mul] at this
    omega
def pmF (s l : Nat) (ord f : Nat → Nat) (k : Nat) : Nat := f (plF s (orgF ord (digF s l k) l) l)
end Go.Sw.Rw

namespace Go.Sw
/-! ### Two legs exchanged: small numbers, checked -/
def swC (n c : Nat) : Prop := c / n ^ 3 % n = c % n ∧ c / n ^ 2 % n = c / n % n
instance (n c : Nat) : Decidable (swC n c) := by unfold swC; infer_instance
theorem diag_iff {N A X : Nat} (hA : A < N) (hX : X < N) : ((A * N + X) % (N + 1) = 0 ∧ (A * N + X) / (N + 1) < N) ↔ A = X := by
  constructor
  · rintro ⟨h, _⟩
    obtain ⟨q, hq⟩ := Nat.dvd_of_mod_eq_zero h;have e1 : (N + 1) * A = A * N + A := by rw [Nat.add_mul, Nat.one_mul, Nat.mul_comm]
    have e2 : (N + 1) * (A + 1) = A * N + A + N + 1 := by rw [Nat.mul_add, e1]; omega
    rcases Nat.lt_trichotomy q A with r | r | r
    · have h1 : (N + 1) * (q + 1) ≤ (N + 1) * A := Nat.mul_le_mul_left _ r
      rw [Nat.mul_add, ← hq, e1] at h1
      omega
    · rw [r, e1] at hq; omega
    · have h1 : (N + 1) * (A + 1) ≤ (N + 1) * q := Nat.mul_le_mul_left _ r
      rw [← hq, e2] at h1
      omega
  · intro e
    subst e;have e1 : A * N + A = A * (N + 1) := by rw [Nat.mul_add, Nat.mul_one]
    rw [e1];exact ⟨Nat.mul_mod_left _ _, by rw [Nat.mul_div_cancel _ (by omega)]; exact hA⟩
theorem dg_iff0 {n a b x y : Nat} (ha : a < n) (hb : b < n) (hx : x < n) (hy : y < n) : ((((((0 * n + a) * n + b) * n + x) * n + y) % (n ^ 2 + 1) = 0 ∧ ((((0 * n + a) * n + b) * n + x) * n + y) / (n ^ 2 + 1) < n ^ 2) ↔ b = y ∧ a = x) := by
  have lt : ∀ u v, u < n → v < n → u * n + v < n ^ 2 := fun u v hu hv => by
    have h1 : (u + 1) * n ≤ n * n := Nat.mul_le_mul_right _ hu;rw [Nat.add_mul, Nat.one_mul] at h1;rw [Nat.pow_two]; omega
  have d : ∀ u v, v < n → (u * n + v) / n = u := fun u v h => by rw [Nat.add_comm, Nat.add_mul_div_right _ _ (by omega), Nat.div_eq_of_lt h, Nat.zero_add]
  have m : ∀ u v, v < n → (u * n + v) % n = v := fun u v h => by rw [Nat.add_comm, Nat.add_mul_mod_self_right, Nat.mod_eq_of_lt h]
  have e : (((0 * n + a) * n + b) * n + x) * n + y = (a * n + b) * n ^ 2 + (x * n + y) := by
    rw [Nat.zero_mul, Nat.zero_add, Nat.pow_two, Nat.add_mul ((a * n + b) * n) x n, Nat.mul_assoc (a * n + b) n n, Nat.add_assoc]
  rw [e, diag_iff (lt a b ha hb) (lt x y hx hy)]
  constructor
  · intro h
    have h1 := congrArg (· / n) h;have h2 := congrArg (· % n) h;simp only [d _ _ hb, d _ _ hy, m _ _ hb, m _ _ hy] at h1 h2;exact ⟨h2, h1⟩
  · rintro ⟨rfl, rfl⟩; rfl
theorem sw_k1 : ∀ n, n < 7 → ∀ gi, gi < n → ∀ gj, gj < n → swC n (((gi * n + gj) * n + gj) * n + gi) ∧ (((gi * n + gj) * n + gj) * n + gi) / n ^ 3 = gi ∧ (((gi * n + gj) * n + gj) * n + gi) / n ^ 2 % n = gj := by decide +kernel
theorem sw_idx0 : ∀ n, n < 7 → ∀ gi, gi < n → ∀ gj, gj < n → ((gi * n + gj) * n + gj) * n + gi < n ^ (2 + 2) := by decide +kernel
end Go.Sw

namespace Go.Sw
theorem wordsSigns_nb : ∀ (c : Char) (r : List Char), c ≠ ' ' → wordsSigns (c :: r) = match wordsSigns r with
    | w :: ws => (c :: w) :: ws
    | [] => [[c]] := by
  intro c r h;rw [wordsSigns.eq_def]
  split
  · simp_all
  · rename_i heq; simp at heq; exact absurd heq.1 h
  · rename_i heq; simp only [List.cons.injEq] at heq; obtain ⟨rfl, rfl⟩ := heq; rfl
theorem wordsSigns_word : ∀ (w r : List Char), (∀ c ∈ w, c ≠ ' ') → wordsSigns (w ++ ' ' :: r) = w :: wordsSigns r
  | [], r, _ => by simp [wordsSigns]
  | c :: w, r, h => by
    rw [List.cons_append, wordsSigns_nb c _ (h c (by simp)), wordsSigns_word w r (fun d hd => h d (by simp [hd]))]
theorem sum_nb (s : List Char) (h : isSumSigns s = true) : ∀ c ∈ s, c ≠ ' ' := by
  intro c hc he
  unfold isSumSigns at h
  simp only [Bool.and_eq_true, List.all_eq_true] at h;have := h.2 c hc;subst he
  revert this; decide
theorem cutHead (L s r : List Char) (h : L = "harness".toList ++ ' ' :: (s ++ ' ' :: ("cut".toList ++ ' ' :: r))) (hs : isSumSigns s = true) :
    behindMainWord (wordsSigns L) = "cut".toList :: wordsSigns r := by
  rw [h, wordsSigns_word _ _ (by decide), wordsSigns_word _ _ (sum_nb s hs), wordsSigns_word _ _ (by decide)];have : ("harness".toList == "harness".toList || "harness".toList == "ownmain".toList) = true := by decide
  unfold behindMainWord
  show (if (("harness".toList == "harness".toList || "harness".toList == "ownmain".toList) && isSumSigns s) = true then _ else _) = _
  rw [if_pos (by rw [this, hs]; rfl)]
theorem strip_cut (R : List (List Char)) : stripLifts liftWords ("cut".toList :: R) = ([], "cut".toList :: R) := by
  kernel_rfl
theorem lifts_cut (P : Program) (R : List (List Char)) (h : behindMainWord (wordsSigns P.initOrder.toList) = "cut".toList :: R) : P.headLifts = [] := by
  unfold Program.headLifts; rw [h, strip_cut]; rfl
theorem make_cut (P : Program) (R : List (List Char)) (h : behindMainWord (wordsSigns P.initOrder.toList) = "cut".toList :: R) : P.make = some .cut := by
  unfold Program.make; rw [h]
  have h1 : ("cut".toList == "gc".toList || "cut".toList == "spec".toList) = false := by decide
  have h2 : ("cut".toList == "cut".toList) = true := by decide
  simp only [h1, h2]; rfl
theorem final_cut (P : Program) (R : List (List Char)) (h : behindMainWord (wordsSigns P.initOrder.toList) = "cut".toList :: R) : P.liftsFinal = false := by
  unfold Program.liftsFinal; rw [lifts_cut P R h, h]; kernel_rfl
theorem enter_cut (P : Program) (R : List (List Char)) (h : behindMainWord (wordsSigns P.initOrder.toList) = "cut".toList :: R)
    (hl : P.laysLater = false) (hb : P.bearsReflect = false) (hd : P.doorFits [] = true) : P.mayEnter = true := by
  unfold Program.mayEnter; rw [h]
  simp only [strip_cut, hl, hb, hd]
  kernel_rfl
end Go.Sw
