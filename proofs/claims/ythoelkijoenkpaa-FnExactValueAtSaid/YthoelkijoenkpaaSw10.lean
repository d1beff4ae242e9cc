/- Plain lemmas of a small calculus for walks over frames and own memory; no statement of the seat is proved here. -/
import Derived.Test.YthoelkijoenkpaaSw93
import Derived.Test.YthoelkijoenkpaaSw81
import Derived.JoinedOf
import Derived.KernelRfl
set_option linter.unusedVariables false
set_option linter.unusedSimpArgs false
namespace Go.Sw.Rw
open Go Go.RowKit
variable {P : Program}
theorem round2 {n p q : Nat} {a : Act} {F : List (Nat × Value)} {u v : Value} (hF : Fr n a F) (hp : Nat.blt p n = true) (hq : Nat.blt q n = true) : Fr n { tmps := roundTmps #[p, q] #[u, v] a.tmps, defers := [] } ((q, v) :: (p, u) :: F) := by
  have h := (hF.put p u hp).put q v hq;have e : roundTmps #[p, q] #[u, v] a.tmps = ((a.put (some p) u).put (some q) v).tmps := by simp [roundTmps, Act.put]
  rw [e];exact ⟨rfl, h.size, h.get⟩
theorem args_inj {x y b c l : Nat} (h : (#[.int .i64 (x : Int), .slice (some ⟨b, 0, none⟩) l l] : Array Value) = #[.int .i64 (y : Int), .slice (some ⟨c, 0, none⟩) l l]) : x = y ∧ b = c := by
  simp only [Array.mk.injEq, List.cons.injEq, Value.int.injEq, true_and, Value.slice.injEq, Option.some.injEq, Addr.mk.injEq, and_true] at h;exact ⟨by have := h.1; omega, h.2⟩
def blks (L : Own) : List Nat := L.filterMap (fun x => x.map Prod.fst)
theorem mem_blks {L : Own} {b : Nat} : b ∈ blks L ↔ ∃ (k : Nat) (cs : Array Value), L[k]? = some (some (b, cs)) := by
  unfold blks
  rw [List.mem_filterMap]
  constructor
  · rintro ⟨x, hx, e⟩
    cases x with
    | none => cases e
    | some y =>
      obtain ⟨k, hk⟩ := List.mem_iff_getElem?.1 hx;obtain rfl := Option.some.inj e;exact ⟨k, y.2, hk⟩
  · rintro ⟨k, cs, hk⟩
    exact ⟨some (b, cs), List.mem_iff_getElem?.2 ⟨k, hk⟩, rfl⟩
theorem rebase {w0 w : World} {L : Own} {D : Froz} (h : Mem w0 w L D) : MemX (blks L) w w L D :=
  ⟨ExtX.refl _ w, fun k b cs hk => ⟨.inr (mem_blks.2 ⟨k, cs, hk⟩), (h.blk k b cs hk).2⟩, h.apart, h.froz⟩
theorem unbase {w0 w w' : World} {L L' : Own} {D D' : Froz} (h : Mem w0 w L D) (h2 : MemX (blks L) w w' L' D') (hD : ∀ x, x ∈ D → x ∈ D') : Mem w0 w' L' D := by
  have hge : ∀ b, b ∈ blks L → w0.heap.size ≤ b := fun b hb => by
    obtain ⟨k, cs, hk⟩ := mem_blks.1 hb;exact (h.blk k b cs hk).1.resolve_right (by simp)
  refine ⟨⟨h2.bel.os.trans h.bel.os, h2.bel.tape.trans h.bel.tape, h2.bel.output.trans h.bel.output, Nat.le_trans h.bel.size h2.bel.size, fun k hk hX => ?_⟩, fun k b cs hk => ⟨.inl ?_, (h2.blk k b cs hk).2⟩, h2.apart, fun b cs hm => h2.froz b cs (hD _ hm)⟩
  · exact (h2.bel.block k (Nat.lt_of_lt_of_le hk h.bel.size) (fun q => by have := hge k q; omega)).trans (h.bel.block k hk hX)
  · rcases (h2.blk k b cs hk).1 with q | q
    · exact Nat.le_trans h.bel.size q
    · exact hge b q
theorem keeps {w0 w w' : World} {L L' : Own} {D D' : Froz} (h : Mem w0 w L D) (h2 : MemX (blks L) w w' L' D') : KeepsNC w w' :=
  keepsNC_of h2.bel fun b hb => by
    obtain ⟨k, cs, hk⟩ := mem_blks.1 hb
    exact ⟨cs, (h.blk k b cs hk).2⟩
theorem addD_mark {n D : Nat} {a : Act} {F : List (Nat × Value)} (hF : Fr n a F) : ({ a with defers := [{ target := .collected D, args := #[] }] } : Act) = addD [mark D] a := by
  unfold addD; rw [hF.defers]; rfl
end Go.Sw.Rw
namespace Go.Sw.Rw
def orgF (ord d : Nat → Nat) : Nat → Nat → Nat
  | 0, _ => 0
  | j + 1, c => if c = ord j then d j else orgF ord d j c
def plF (s : Nat) (g : Nat → Nat) : Nat → Nat
  | 0 => 0
  | j + 1 => plF s g j * s + g j
def pmF (s l : Nat) (ord f : Nat → Nat) (k : Nat) : Nat := f (plF s (orgF ord (digF s l k) l) l)
end Go.Sw.Rw

namespace Go.Sw
/-! ### Two legs exchanged: small numbers, checked -/
def swC (n c : Nat) : Prop := c / n ^ 3 % n = c % n ∧ c / n ^ 2 % n = c / n % n
instance (n c : Nat) : Decidable (swC n c) := by unfold swC; infer_instance
end Go.Sw

namespace Go.Sw
open Go Go.RowKit
theorem MemX.addBlk {X : List Nat} {w0 w : World} {L : Own} {D : Froz} (h : MemX X w0 w L D) (k : Nat) {b : Nat} {cs : Array Value} (hb : Blk w b cs) (hge : w0.heap.size ≤ b) (hL : ∀ (j : Nat) c ds, L[j]? = some (some (c, ds)) → c ≠ b) (hD : ∀ c ds, (c, ds) ∈ D → c ≠ b) : MemX X w0 w (L.set k (some (b, cs))) D := by
  have key : ∀ (j : Nat) c ds, (L.set k (some (b, cs)))[j]? = some (some (c, ds)) → (j = k ∧ c = b ∧ ds = cs) ∨ (j ≠ k ∧ L[j]? = some (some (c, ds))) := by
    intro j c ds hj;rw [List.getElem?_set] at hj
    split at hj
    · rename_i e
      split at hj
      · simp only [Option.some.injEq, Prod.mk.injEq] at hj; exact .inl ⟨e.symm, hj.1.symm, hj.2.symm⟩
      · cases hj
    · rename_i e
      exact .inr ⟨fun q => e q.symm, hj⟩
  refine ⟨h.bel, fun j c ds hj => ?_, fun i j c es ds hi hj => ?_, fun c ds hc => ⟨(h.froz c ds hc).1, fun j e es hj => ?_⟩⟩
  · rcases key j c ds hj with ⟨_, rfl, rfl⟩ | ⟨_, q⟩
    · exact ⟨.inl hge, hb⟩
    · exact h.blk j c ds q
  · rcases key i c es hi with ⟨e1, e2, _⟩ | ⟨n1, q1⟩ <;> rcases key j c ds hj with ⟨e3, e4, _⟩ | ⟨n2, q2⟩
    · rw [e1, e3]
    · exact absurd e2 (hL j c ds q2)
    · exact absurd e4 (hL i c es q1)
    · exact h.apart i j c es ds q1 q2
  · rcases key j e es hj with ⟨_, rfl, _⟩ | ⟨_, q⟩
    · exact fun q => hD c ds hc q.symm
    · exact (h.froz c ds hc).2 j e es q
section
variable {P : Program} {n : Nat} {F : List (Nat × Value)} {a : Act} {w : World} {d : Option Tmp} {t T : TypeId} {pos : String} {af : Array Edge} {gd : Option (Nat × Bool)} {x y : Operand}
def NewNum (w w' : World) (len : Nat) (u : Value) : Prop := ∃ b, u = .slice (some ⟨b, 0, none⟩) len len ∧ w.heap.size ≤ b ∧ Blk w' b (numC len (fun _ => 0))
theorem NewNum.last {w w1 w2 : World} {len : Nat} {u : Value} (h : NewNum w w1 len u) (hx : Ext w1 w2) : NewNum w w2 len u := by
  obtain ⟨b, h1, h2, h3⟩ := h; exact ⟨b, h1, h2, h3.ext hx⟩
theorem NewNum.mono {w0 w w1 : World} {len : Nat} {u : Value} (h : NewNum w w1 len u) (hs : w0.heap.size ≤ w.heap.size) : NewNum w0 w1 len u := by
  obtain ⟨b, h1, h2, h3⟩ := h; exact ⟨b, h1, Nat.le_trans hs h2, h3⟩
def NewSm (w w' : World) (p : Int) (len : Nat) (u : Value) : Prop := ∃ b, u = .agg (smC p (.slice (some ⟨b, 0, none⟩) len len)) ∧ w.heap.size ≤ b ∧ Blk w' b (numC len (fun _ => 0))
theorem NewSm.last {w w1 w2 : World} {p : Int} {len : Nat} {u : Value} (h : NewSm w w1 p len u) (hx : Ext w1 w2) : NewSm w w2 p len u := by
  obtain ⟨b, h1, h2, h3⟩ := h; exact ⟨b, h1, h2, h3.ext hx⟩
theorem d_makeR {len by' : Nat} {e : TypeId} (hF : Fr n a F) (hT : slI P T = some (e, some (.int .i64 0), 1, by')) (hx : look F x = some (.int .i64 (len : Int))) (hy : look F y = some (.int .i64 (len : Int))) (hl : len < 10000000) (hb : by' < 1000) :
    Does P ⟨d, .makeSlice T x y, t, pos, af, gd⟩ a w (fun u w' => Ext w w' ∧ NewNum w w' len u) :=
  (d_make1b (len := len) (X := []) (L := [none]) (D := []) 0 (MemX.start w 1) hF hT rfl hx hy hl hb).mono fun u w' ⟨b, h1, h2, h3⟩ => ⟨h3, b, h1, h2.ge 0 rfl, h2.row 0 rfl⟩
end
end Go.Sw

namespace Go.Sw
theorem wordsSigns_nb : ∀ (c : Char) (r : List Char), c ≠ ' ' → wordsSigns (c :: r) = match wordsSigns r with
    | w :: ws => (c :: w) :: ws
    | [] => [[c]] := by
  intro c r h;rw [wordsSigns.eq_def]
  split
  · simp_all
  · rename_i heq; simp at heq; exact absurd heq.1 h
  · rename_i heq; simp only [List.cons.injEq] at heq; obtain ⟨rfl, rfl⟩ := heq; rfl
theorem wordsSigns_word : ∀ (w r : List Char), (∀ c ∈ w, c ≠ ' ') → wordsSigns (w ++ ' ' :: r) = w :: wordsSigns r
  | [], r, _ => by simp [wordsSigns]
  | c :: w, r, h => by
    rw [List.cons_append, wordsSigns_nb c _ (h c (by simp)), wordsSigns_word w r (fun d hd => h d (by simp [hd]))]
theorem sum_nb (s : List Char) (h : isSumSigns s = true) : ∀ c ∈ s, c ≠ ' ' := by
  intro c hc he
  unfold isSumSigns at h
  simp only [Bool.and_eq_true, List.all_eq_true] at h;have := h.2 c hc;subst he
  revert this; decide
theorem cutHead (L s r : List Char) (h : L = "harness".toList ++ ' ' :: (s ++ ' ' :: ("cut".toList ++ ' ' :: r))) (hs : isSumSigns s = true) :
    behindMainWord (wordsSigns L) = "cut".toList :: wordsSigns r := by
  rw [h, wordsSigns_word _ _ (by decide), wordsSigns_word _ _ (sum_nb s hs), wordsSigns_word _ _ (by decide)];have : ("harness".toList == "harness".toList || "harness".toList == "ownmain".toList) = true := by decide
  unfold behindMainWord
  show (if (("harness".toList == "harness".toList || "harness".toList == "ownmain".toList) && isSumSigns s) = true then _ else _) = _
  rw [if_pos (by rw [this, hs]; rfl)]
theorem strip_cut (R : List (List Char)) : stripLifts liftWords ("cut".toList :: R) = ([], "cut".toList :: R) := by
  kernel_rfl
theorem lifts_cut (P : Program) (R : List (List Char)) (h : behindMainWord (wordsSigns P.initOrder.toList) = "cut".toList :: R) : P.headLifts = [] := by
  unfold Program.headLifts; rw [h, strip_cut]; rfl
theorem make_cut (P : Program) (R : List (List Char)) (h : behindMainWord (wordsSigns P.initOrder.toList) = "cut".toList :: R) : P.make = some .cut := by
  unfold Program.make; rw [h]
  have h1 : ("cut".toList == "gc".toList || "cut".toList == "spec".toList) = false := by decide
  have h2 : ("cut".toList == "cut".toList) = true := by decide
  simp only [h1, h2]; rfl
theorem final_cut (P : Program) (R : List (List Char)) (h : behindMainWord (wordsSigns P.initOrder.toList) = "cut".toList :: R) : P.liftsFinal = false := by
  unfold Program.liftsFinal; rw [lifts_cut P R h, h]; kernel_rfl
theorem enter_cut (P : Program) (R : List (List Char)) (h : behindMainWord (wordsSigns P.initOrder.toList) = "cut".toList :: R)
    (hl : P.laysLater = false) (hb : P.bearsReflect = false) (hd : P.doorFits [] = true) : P.mayEnter = true := by
  unfold Program.mayEnter; rw [h]
  simp only [strip_cut, hl, hb, hd]
  kernel_rfl
end Go.Sw
