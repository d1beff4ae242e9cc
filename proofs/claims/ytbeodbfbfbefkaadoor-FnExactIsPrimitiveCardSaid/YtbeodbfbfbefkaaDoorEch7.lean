/- Plain lemmas of a small calculus for walks over frames and own memory; no statement of the seat is proved here. -/
import Derived.Test.YtbeodbfbfbefkaaDoorSw32
set_option linter.unusedVariables false
set_option linter.unusedSimpArgs false
namespace Go.Sw
open Go Go.RowKit
def mrk (Z k t : Nat) (xs : Nat → Value) : Array Value := fnC Z (fun c => if c < t then .int .u8 (((k + c : Nat)) : Int) else xs c)
section
variable {Z k t : Nat} {xs : Nat → Value}
theorem mrk_size : (mrk Z k t xs).size = Z := fnC_size _ _
end
end Go.Sw

namespace Go.Sw
open Go Go.RowKit Go.Ech
section
variable {X : List Nat} {w0 w w' : World} {L : Own} {D : Froz}
def TabI (w w' : World) (n : Nat) (M : Nat → Nat → Nat) (u : Value) : Prop := ∃ (D : Froz) (β : Nat → Nat) (b : Nat) (cs : Array Value),
  (∀ x ds, (x, ds) ∈ D → w.heap.size ≤ x ∧ Blk w' x ds) ∧ RowsC D n β (fun i => rowI n (M i)) ∧ u = .slice (some ⟨b, 0, Option.none⟩) n n ∧ (∀ i, i < n → cs[0 + i * 1]? = some (.slice (some ⟨β i, 0, Option.none⟩) n n)) ∧ (b, cs) ∈ D ∧ ∀ i, i < n → β i ≠ b
theorem TabI.of {n q : Nat} {β : Nat → Nat} {M : Nat → Nat → Nat} {b : Nat} {cs : Array Value} (hM : Mem w w' L D) (hR : RowsC D n β (fun i => rowI n (M i))) (hq : L[q]? = some (some (b, cs))) (hg : ∀ i, i < n → cs[0 + i * 1]? = some (.slice (some ⟨β i, 0, Option.none⟩) n n)) (hge : ∀ i, i < n → w.heap.size ≤ β i) : TabI w w' n M (.slice (some ⟨b, 0, Option.none⟩) n n) := by
  refine ⟨(b, cs) :: (List.range n).map (fun i => (β i, rowI n (M i))), β, b, cs, fun x ds hx => ?_, ⟨fun i hi => mem_rowsD (R := fun i => rowI n (M i)) hi, hR.inj⟩, rfl, hg, List.mem_cons_self .., fun i hi e => (hM.froz _ _ (hR.mem i hi)).2 q b cs hq e.symm⟩
  rcases List.mem_cons.1 hx with e | hx
  · simp only [Prod.mk.injEq] at e; obtain ⟨rfl, rfl⟩ := e; exact ⟨hM.ge q hq, hM.row q hq⟩
  · obtain ⟨i, hi, e⟩ := List.mem_map.1 hx
    simp only [Prod.mk.injEq] at e; obtain ⟨rfl, rfl⟩ := e
    have hi : i < n := by simpa using hi
    exact ⟨hge i hi, hM.fzm (hR.mem i hi)⟩
theorem MemX.marked {n : Nat} {β : Nat → Nat} {R R' : Nat → Array Value} (h : MemX X w0 w L D) (hC : RowsC D n β R) (hge : ∀ i, i < n → w0.heap.size ≤ β i) (hx : ExtX ((List.range n).map β) w w') (hb : ∀ i, i < n → Blk w' (β i) (R' i)) :
    ∃ DM : Froz, MemX X w0 w' L DM ∧ (∀ x ∈ D, (∀ i, i < n → x.1 ≠ β i) → x ∈ DM) ∧ RowsC DM n β R' := by
  have hY : ∀ y ∈ (List.range n).map β, ∃ i, i < n ∧ β i = y := fun y hy => by
    obtain ⟨i, hi, e⟩ := List.mem_map.1 hy; exact ⟨i, by simpa using hi, e⟩
  let E := D.filter (fun x => decide (∀ i, i < n → x.1 ≠ β i))
  have hE : ∀ x, x ∈ E ↔ x ∈ D ∧ ∀ i, i < n → x.1 ≠ β i := fun x => by
    show x ∈ D.filter _ ↔ _
    rw [List.mem_filter]; simp only [decide_eq_true_eq]
  have h1 := (h.sub E (fun x hx => ((hE x).1 hx).1)).extY hx fun y hy => by
    obtain ⟨i, hi, rfl⟩ := hY y hy
    exact ⟨hge i hi, (h.froz _ _ (hC.mem i hi)).2, fun c ds hm => ((hE _).1 hm).2 i hi⟩
  have h2 := h1.addD' (D' := (List.range n).map (fun i => (β i, R' i))) fun c ds hm => by
    obtain ⟨i, hi, e⟩ := List.mem_map.1 hm
    simp only [Prod.mk.injEq] at e; obtain ⟨rfl, rfl⟩ := e
    have hi : i < n := by simpa using hi
    exact ⟨hb i hi, (h.froz _ _ (hC.mem i hi)).2⟩
  exact ⟨_, h2, fun x hx hn => List.mem_append_right _ ((hE x).2 ⟨hx, hn⟩), ⟨fun i hi => List.mem_append_left _ (List.mem_map.2 ⟨i, by simpa using hi, rfl⟩), hC.inj⟩⟩
end
theorem TabI.base {w w1 w' : World} {n : Nat} {M : Nat → Nat → Nat} {u : Value} (h : TabI w1 w' n M u) (hs : w.heap.size ≤ w1.heap.size) : TabI w w' n M u := by
  obtain ⟨D, β, b, cs, h1, h2⟩ := h
  exact ⟨D, β, b, cs, fun x ds hm => ⟨Nat.le_trans hs (h1 x ds hm).1, (h1 x ds hm).2⟩, h2⟩
theorem TabOut.base {w w1 w' : World} {N k : Nat} {f : Nat → Nat → Value} {u : Value} (h : TabOut w1 w' N k f u) (hs : w.heap.size ≤ w1.heap.size) : TabOut w w' N k f u := by
  obtain ⟨D, β, κ, C, b, cap, cs, h1, h2⟩ := h
  exact ⟨D, β, κ, C, b, cap, cs, fun x ds hm => ⟨Nat.le_trans hs (h1 x ds hm).1, (h1 x ds hm).2⟩, h2⟩
def FreshV (w0 : World) (L : Own) (N : Nat) (f : Nat → Value) (u : Value) (w' : World) : Prop := ∃ b cap cs, SlAt 6 u (some (b, cs)) N b cap cs f ∧ Blk w' b cs ∧ w0.heap.size ≤ b ∧ ∀ (k : Nat) c ds, L[k]? = some (some (c, ds)) → c ≠ b
theorem FreshV.last {w0 w w' : World} {L : Own} {N : Nat} {f : Nat → Value} {u : Value} (h : FreshV w0 L N f u w) (hx : Ext w w') : FreshV w0 L N f u w' := by
  obtain ⟨b, cap, cs, h1, h2, h3⟩ := h; exact ⟨b, cap, cs, h1, h2.ext hx, h3⟩
end Go.Sw

namespace Go.Sw
open Go Go.RowKit Go.Ech
def EmpF (w0 : World) (L : Own) (u : Value) (w' : World) : Prop := ∃ b, u = .slice (some ⟨b, 0, none⟩) 0 0 ∧ Blk w' b #[] ∧ w0.heap.size ≤ b ∧ ∀ (k : Nat) c ds, L[k]? = some (some (c, ds)) → c ≠ b
theorem EmpF.last {w0 w w' : World} {L : Own} {u : Value} (h : EmpF w0 L u w) (hx : Ext w w') : EmpF w0 L u w' := by
  obtain ⟨b, h1, h2, h3⟩ := h; exact ⟨b, h1, h2.ext hx, h3⟩
theorem EmpF.of {w0 w w' : World} {L : Own} {D : Froz} {u : Value} {k : Nat} (hk : L[k]? = some none) (h : ∃ b, u = .slice (some ⟨b, 0, none⟩) 0 0 ∧ Mem w0 w' (L.set k (some (b, #[]))) D ∧ Ext w w') : EmpF w0 L u w' := by
  obtain ⟨b, h1, hM, _⟩ := h
  have hkl := (List.getElem?_eq_some_iff.1 hk).1
  have e : (L.set k (some (b, #[])))[k]? = some (some (b, #[])) := by rw [List.getElem?_set, if_pos rfl, if_pos hkl]
  refine ⟨b, h1, hM.row k e, hM.ge k e, fun j c ds hj e2 => ?_⟩
  subst e2
  by_cases ej : j = k
  · subst ej; rw [hk] at hj; simp at hj
  · have := hM.apart j k c ds #[] (by rw [List.getElem?_set, if_neg (fun q => ej q.symm)]; exact hj) e
    exact ej this
theorem EmpF.build {P : Program} {o : Oper} {a : Act} {w0 w : World} {L : Own} {D : Froz} {k : Nat} (hk : L[k]? = some none) (hg : Does P o a w (fun u w' => ∃ b, u = .slice (some ⟨b, 0, none⟩) 0 0 ∧ Mem w0 w' (L.set k (some (b, #[]))) D ∧ Ext w w')) : Does P o a w (fun u w' => Ext w w' ∧ EmpF w0 L u w') :=
  hg.mono fun u w' h => ⟨h.elim fun b hb => hb.2.2, EmpF.of hk h⟩
end Go.Sw

namespace Go.Sw
open Go Go.RowKit Go.Ech
def TabIF (w0 : World) (L : Own) (D : Froz) (n : Nat) (M : Nat → Nat → Nat) (u : Value) (w' : World) : Prop := ∃ (D' : Froz) (β : Nat → Nat) (b : Nat) (cs : Array Value),
  (∀ x ds, (x, ds) ∈ D' → w0.heap.size ≤ x ∧ Blk w' x ds ∧ ∀ (k : Nat) c es, L[k]? = some (some (c, es)) → c ≠ x) ∧ RowsC D' n β (fun i => rowI n (M i)) ∧ u = .slice (some ⟨b, 0, Option.none⟩) n n ∧ (∀ i, i < n → cs[0 + i * 1]? = some (.slice (some ⟨β i, 0, Option.none⟩) n n)) ∧ (b, cs) ∈ D' ∧ (∀ i, i < n → β i ≠ b) ∧ ∀ i, i < n → ∀ x ∈ D, x.1 ≠ β i
theorem TabIF.last {w0 w w' : World} {L : Own} {D : Froz} {n : Nat} {M : Nat → Nat → Nat} {u : Value} (h : TabIF w0 L D n M u w) (hx : Ext w w') : TabIF w0 L D n M u w' := by
  obtain ⟨D', β, b, cs, h1, h2⟩ := h
  exact ⟨D', β, b, cs, fun x ds hm => ⟨(h1 x ds hm).1, (h1 x ds hm).2.1.ext hx, (h1 x ds hm).2.2⟩, h2⟩
def TupR (R : Value → World → Prop) (u : Value) (w' : World) : Prop := ∃ l, u = .tuple #[l, .int .i64 0] ∧ R l w'
end Go.Sw

namespace Go.Sw
open Go Go.RowKit
variable {P : Program}
/-! ### Texts: length, bytes, parts. -/
def byt (s : ByteArray) (i : Nat) : Nat := (s.data.getD i 0).toNat
section
variable {n : Nat} {F : List (Nat × Value)} {a : Act} {w : World} {d : Option Tmp} {t T T' : TypeId} {pos : String} {af : Array Edge} {gd : Option (Nat × Bool)} {x y z : Operand}
end
end Go.Sw

namespace Go.Sw
open Go Go.RowKit
variable {P : Program}
/-! ### Labels and jumps. -/
def Exit.goes (J : Nat → Act → World → Prop) (Q : Exit → Act → World → Prop) : Exit → Act → World → Prop
  | .goto l, a, w => J l a w
  | e, a, w => Q e a w
section
variable {Q : Exit → Act → World → Prop} {J : Nat → Act → World → Prop} {K : Act → World → Prop} {a : Act} {w : World}
theorem gG {l : Nat} (h : J l a w) : Exit.goes J Q (.goto l) a w := h
end
section
variable {n : Nat} {F : List (Nat × Value)} {a : Act} {w : World} {d : Option Tmp} {t T : TypeId} {pos : String} {af : Array Edge} {gd : Option (Nat × Bool)} {x : Operand}
end
section
variable {P : Program} {fn : Func} {a : Act} {w : World}
end
end Go.Sw

namespace Go.Sw
open Go Go.RowKit
/-! ### Texts from bytes. -/
def txt (m : Nat) (g : Nat → Nat) : ByteArray := ((List.range m).map fun i => ((g i : Nat) : Int)).foldl (fun r n => r.push (UInt8.ofNat n.toNat)) ByteArray.empty
def dgC (m : Nat) (f : Nat → Nat) : Array Value := fnC m (fun c => .int .u8 ((f c : Nat) : Int))
theorem dgC_size {m : Nat} {f : Nat → Nat} : (dgC m f).size = m := fnC_size _ _
theorem dgC_congr {m : Nat} {f g : Nat → Nat} (h : ∀ c, c < m → f c = g c) : dgC m f = dgC m g := fnC_congr fun c hc => by rw [h c hc]
theorem dgC_set {m q k : Nat} {f g : Nat → Nat} {x : Int} (h : q = k) (hx : x = ((g k : Nat) : Int)) (hg : ∀ c, c < m → c ≠ k → g c = f c) : (dgC m f).setIfInBounds q (.int .u8 x) = dgC m g := by
  subst h; subst hx
  refine fnC_set fun c hc => ?_
  by_cases e : c = q
  · rw [if_pos e, e]
  · rw [if_neg e, hg c hc e]
def dig (k : Nat) : Nat := if k < 10 then 48 + k else 97 + k - 10
def digs : ByteArray := ⟨#[48, 49, 50, 51, 52, 53, 54, 55, 56, 57, 97, 98, 99]⟩
section
variable {P : Program} {n : Nat} {F : List (Nat × Value)} {a : Act} {w : World} {d : Option Tmp} {t T T' : TypeId} {pos : String} {af : Array Edge} {gd : Option (Nat × Bool)} {x y z : Operand}
end
end Go.Sw

namespace Go.Ech
open Go.Sw
theorem sI_sub' (f g : Nat → Int) (n : Nat) : sI (fun i => f i - g i) n = sI f n - sI g n := by
  have := sI_add (fun c => f c - g c) g n
  rw [show (fun i => (f i - g i) + g i) = f from by funext i; omega] at this; omega
theorem sI_dl {f : Nat → Int} {n a : Nat} (ha : a < n) : sI (fun i => f i * (dl i a : Int)) n = f a := by
  rw [sI_one ha (fun i _ hne => by simp [dl, hne])]; simp [dl]
theorem sI_dl' {f : Nat → Int} {n a : Nat} (ha : a < n) : sI (fun i => (dl a i : Int) * f i) n = f a := by
  rw [sI_one ha (fun i _ hne => by simp [dl, Ne.symm hne])]; simp [dl]
theorem sI_mod {p : Nat} {f g h : Nat → Int} {n : Nat} (e : ∀ i, i < n → (p : Int) ∣ g i - h i) : (p : Int) ∣ sI (fun i => f i * g i) n - sI (fun i => f i * h i) n := by
  rw [← sI_sub']
  exact sI_dvd fun i hi => by rw [← Int.mul_sub]; exact Int.dvd_mul_of_dvd_right (e i hi)
theorem IsCop.left {p n : Nat} {F G : Nat → Nat → Nat} (hp : 2 ≤ p) (hn : n ≤ 6) (hF : ∀ i c, n ≤ c → F i c = 0) (hf : FullK p n F) (h : IsCop p n F G) : ∀ i, i < n → ∀ j, j < n → (p : Int) ∣ sI (fun k => (G i k : Int) * (F k j : Int)) n - (dl i j : Int) := by
  intro i hi j hj
  have hK : Ker p 6 F n (fun a => if a < n then sI (fun k => (G a k : Int) * (F k j : Int)) n - (dl a j : Int) else 0) := fun b hb => by
    unfold dot
    rw [sI_cut hn (fun c h1 _ => by simp [show ¬ c < n by omega])]
    have e : sI (fun c => ci (F b) c * (if c < n then sI (fun k => (G c k : Int) * (F k j : Int)) n - (dl c j : Int) else 0)) n = sI (fun k => (F k j : Int) * sI (fun c => (F b c : Int) * (G c k : Int)) n) n - (F b j : Int) := by
      rw [sI_congr (g := fun c => (F b c : Int) * sI (fun k => (G c k : Int) * (F k j : Int)) n - (F b c : Int) * (dl c j : Int)) (fun c hc => by rw [if_pos hc, Int.mul_sub]), sI_sub', sI_dl hj]
      congr 1
      rw [sI_congr (g := fun c => sI (fun k => (F b c : Int) * ((G c k : Int) * (F k j : Int))) n) (fun c _ => (sI_mul _ _ _).symm), sI_swap]
      exact sI_congr fun k _ => by rw [← sI_mul]; exact sI_congr fun c _ => by rw [← Int.mul_assoc]; exact Int.mul_comm _ _
    rw [e]
    have h1 := sI_mod (p := p) (f := fun k => (F k j : Int)) (g := fun k => sI (fun c => (F b c : Int) * (G c k : Int)) n) (h := fun k => (dl b k : Int)) (n := n) (fun k hk => h.sol b hb k hk)
    rwa [show sI (fun k => (F k j : Int) * (dl b k : Int)) n = (F b j : Int) from by
      rw [sI_congr (g := fun k => (dl b k : Int) * (F k j : Int)) (fun k _ => Int.mul_comm _ _)]; exact sI_dl' hb] at h1
  have := hf.zero hp hn hF hK (fun d h1 _ => by simp [show ¬ d < n by omega]) hi
  simpa only [if_pos hi] using this
end Go.Ech
