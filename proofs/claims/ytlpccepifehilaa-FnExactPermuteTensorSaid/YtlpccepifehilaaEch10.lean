/- Plain lemmas of a small calculus for walks over frames and own memory; no statement of the seat is proved here. -/
import Derived.Test.YtlpccepifehilaaSw63
import Derived.Test.YtlpccepifehilaaSw14
import Derived.Test.YtlpccepifehilaaSw38
import Derived.Test.YtlpccepifehilaaSw19
import Derived.Test.YtlpccepifehilaaEch6
set_option linter.unusedVariables false
set_option linter.unusedSimpArgs false
namespace Go.Sw
open Go Go.RowKit Go.ChangeShapes Go.WideShapes Go.ChangeAt
structure ArgSS (w : World) (sl : Value) (m : Nat) (L : Nat → Nat) (R : Nat → Nat → Int) (xs : Nat → Option Addr) (ca be ob : Nat → Nat) : Prop where
  out : ∃ x c, sl = .slice x m c
  cell : 0 < m → ∃ b o c, sl = .slice (some ⟨b, o, none⟩) m c ∧ ∀ i, i < m → w.cell? ⟨b, o + i * 1, none⟩ = some (.slice (xs i) (L i) (ca i))
  adr : ∀ i, i < m → 0 < L i → xs i = some ⟨be i, ob i, none⟩
  num : ∀ i, i < m → ∀ j, j < L i → w.cell? ⟨be i, ob i + j * 1, none⟩ = some (.int .i64 (R i j))
namespace ArgSS
variable {w w' : World} {sl : Value} {m : Nat} {L : Nat → Nat} {R : Nat → Nat → Int} {xs : Nat → Option Addr} {ca be ob : Nat → Nat}
theorem ext (h : ArgSS w sl m L R xs ca be ob) (hx : Ext w w') : ArgSS w' sl m L R xs ca be ob :=
  ⟨h.out, fun hm => by obtain ⟨b, o, c, h1, h2⟩ := h.cell hm; exact ⟨b, o, c, h1, fun i hi => cell_ext (h2 i hi) hx⟩, h.adr, fun i hi j hj => cell_ext (h.num i hi j hj) hx⟩
theorem one (h : ArgSS w sl m L R xs ca be ob) : sl.oneCell' = true := by
  obtain ⟨x, c, rfl⟩ := h.out; rfl
theorem row (h : ArgSS w sl m L R xs ca be ob) {i : Nat} (hi : i < m) : ArgSl w (.slice (xs i) (L i) (ca i)) (L i) (R i) :=
  ⟨⟨_, _, rfl⟩, fun hl => ⟨be i, ob i, ca i, by rw [h.adr i hi hl], h.num i hi⟩⟩
theorem congr {R' : Nat → Nat → Int} (h : ArgSS w sl m L R xs ca be ob) (e : ∀ i, i < m → ∀ j, j < L i → R i j = R' i j) : ArgSS w sl m L R' xs ca be ob :=
  ⟨h.out, h.cell, h.adr, fun i hi j hj => by rw [← e i hi j hj]; exact h.num i hi j hj⟩
end ArgSS
section
variable {H : Type} {enc : TypeId × Value → H} {P : Program} {w : World} {base : Nat} {spare : Nat → Bool} {held : Bool}
theorem open_sl {r : Go.Reach} {b0 : Nat} {t e : TypeId} {v : Value} {d : DataW H} {p : List MemPlace} (ht : P.underlying t = some (.slice e)) (he : P.underlying e = some (.int .i64)) (hc : P.cellsOf e = 1)
    (hv : Value.okWide P w r b0 t v) (h : DataW.Trod enc P w base spare held t v d p) : ∃ (m : Nat) (g : Nat → Int), ArgSl w v m g ∧ m ≤ maxLen ∧ ∀ i, -9223372036854775808 ≤ g i ∧ g i ≤ 9223372036854775807 := by
  obtain ⟨a, l, c, rfl⟩ := okWide_slice ht hv;obtain ⟨fuel, h⟩ := h;exact arg_of_trod ht he hc h
end
def rowsC (m : Nat) (L : Nat → Nat) (β : Nat → Nat) : Array Value := fnC m fun i => .slice (some ⟨β i, 0, none⟩) (L i) (L i)
structure SSD (D : Froz) (u : Value) (m : Nat) (L : Nat → Nat) (R : Nat → Nat → Int) (b : Nat) (β : Nat → Nat) : Prop where
  val : u = .slice (some ⟨b, 0, none⟩) m m
  out : (b, rowsC m L β) ∈ D
  row : ∀ i, i < m → (β i, numI (L i) (R i)) ∈ D
  inj : ∀ i j, i < m → j < m → β i = β j → i = j
  ne : ∀ i, i < m → β i ≠ b
theorem SSD.more {D D' : Froz} {u : Value} {m b : Nat} {L β : Nat → Nat} {R : Nat → Nat → Int} (h : SSD D u m L R b β) (hs : ∀ x, x ∈ D → x ∈ D') : SSD D' u m L R b β := ⟨h.val, hs _ h.out, fun i hi => hs _ (h.row i hi), h.inj, h.ne⟩
def SSOut (w w' : World) (m : Nat) (L : Nat → Nat) (R : Nat → Nat → Int) (u : Value) : Prop := ∃ (D : Froz) (b : Nat) (β : Nat → Nat), (∀ x ds, (x, ds) ∈ D → w.heap.size ≤ x ∧ Blk w' x ds) ∧ SSD D u m L R b β
theorem Blk.cellAt {w : World} {b i : Nat} {cs : Array Value} {v : Value} (h : Blk w b cs) (hv : cs[i]? = some v) : w.cell? ⟨b, i, none⟩ = some v := (h.cell i).trans hv
theorem SSD.arg {D : Froz} {w : World} {u : Value} {m b : Nat} {L β : Nat → Nat} {R : Nat → Nat → Int} (h : SSD D u m L R b β) (hD : ∀ c ds, (c, ds) ∈ D → Blk w c ds) : ArgSS w u m L R (fun i => some ⟨β i, 0, none⟩) L β (fun _ => 0) :=
  ⟨⟨_, _, h.val⟩, fun _ => ⟨b, 0, m, h.val, fun i hi => Blk.cellAt (hD _ _ h.out) (by rw [Nat.zero_add, Nat.mul_one]; exact fnC_get hi)⟩, fun _ _ _ => rfl,
   fun i hi j hj => Blk.cellAt (hD _ _ (h.row i hi)) (by rw [Nat.zero_add, Nat.mul_one]; exact fnC_get hj)⟩
end Go.Sw

/-! Lists of numbers that are marked: number by number from k on. -/
namespace Go.Sw
open Go Go.RowKit
def mri (Z k t : Nat) (xs : Nat → Value) : Array Value := fnC Z (fun c => if c < t then .int .i64 (((k + c : Nat)) : Int) else xs c)
section
variable {Z k t : Nat} {xs : Nat → Value}
end
end Go.Sw

namespace Go.Sw
open Go Go.RowKit
structure SSR (D : Froz) (u : Value) (m : Nat) (Ln : Nat → Nat) (F : Nat → Nat → Int) (b cap : Nat) (cs : Array Value) (β κ : Nat → Nat) (C : Nat → Array Value) : Prop where
  sl : SlAt 1 u (some (b, cs)) m b cap cs (fun i => .slice (some ⟨β i, 0, none⟩) (Ln i) (κ i))
  out : (b, cs) ∈ D
  rows : RowsC D m β C
  row : ∀ i, i < m → SlAt 1 (.slice (some ⟨β i, 0, none⟩) (Ln i) (κ i)) (some (β i, C i)) (Ln i) (β i) (κ i) (C i) (fun c => .int .i64 (F i c))
  ne : ∀ i, i < m → β i ≠ b
namespace SSR
variable {D D' : Froz} {u : Value} {m b cap : Nat} {Ln β κ : Nat → Nat} {F : Nat → Nat → Int} {cs : Array Value} {C : Nat → Array Value}
theorem more (h : SSR D u m Ln F b cap cs β κ C) (hs : ∀ x, x ∈ D → x ∈ D') : SSR D' u m Ln F b cap cs β κ C := ⟨h.sl, hs _ h.out, h.rows.more hs, h.row, h.ne⟩
theorem cell (h : SSR D u m Ln F b cap cs β κ C) (i : Nat) (hi : i < m) : cs[0 + i * 1]? = some (.slice (some ⟨β i, 0, none⟩) (Ln i) (κ i)) := h.sl.get1 i hi
theorem num (h : SSR D u m Ln F b cap cs β κ C) (i : Nat) (hi : i < m) (c : Nat) (hc : c < Ln i) : (C i)[0 + c * 1]? = some (.int .i64 (F i c)) := (h.row i hi).get1 c hc
theorem room (h : SSR D u m Ln F b cap cs β κ C) (i : Nat) (hi : i < m) : Ln i ≤ (C i).size := by
  have h1 := (h.row i hi).le;have h2 := (h.row i hi).sz
  omega
theorem congr {G : Nat → Nat → Int} (h : SSR D u m Ln F b cap cs β κ C) (e : ∀ i, i < m → ∀ c, c < Ln i → F i c = G i c) : SSR D u m Ln G b cap cs β κ C :=
  ⟨h.sl, h.out, h.rows, fun i hi => (h.row i hi).congr fun c hc => by rw [e i hi c (by omega)], h.ne⟩
end SSR
def SSOutR (w w' : World) (m : Nat) (Ln : Nat → Nat) (F : Nat → Nat → Int) (u : Value) : Prop := ∃ (D : Froz) (b cap : Nat) (cs : Array Value) (β κ : Nat → Nat) (C : Nat → Array Value), (∀ x ds, (x, ds) ∈ D → w.heap.size ≤ x ∧ Blk w' x ds) ∧ SSR D u m Ln F b cap cs β κ C
theorem SSOutR.of {w w' : World} {L : Own} {D : Froz} {m q : Nat} {Ln β κ : Nat → Nat} {C : Nat → Array Value} {F : Nat → Nat → Int} {u : Value} {b cap : Nat} {cs : Array Value} (hM : Mem w w' L D) (hR : RowsC D m β C)
    (hq : L[q]? = some (some (b, cs))) (hs : SlAt 1 u (some (b, cs)) m b cap cs (fun i => .slice (some ⟨β i, 0, none⟩) (Ln i) (κ i))) (hge : ∀ i, i < m → w.heap.size ≤ β i)
    (hr : ∀ i, i < m → SlAt 1 (.slice (some ⟨β i, 0, none⟩) (Ln i) (κ i)) (some (β i, C i)) (Ln i) (β i) (κ i) (C i) (fun c => .int .i64 (F i c))) : SSOutR w w' m Ln F u := by
  refine ⟨(b, cs) :: (List.range m).map (fun i => (β i, C i)), b, cap, cs, β, κ, C, fun x ds hx => ?_, hs, List.mem_cons_self .., ⟨fun i hi => ?_, hR.inj⟩, hr, fun i hi e => (hM.froz _ _ (hR.mem i hi)).2 q b cs hq e.symm⟩
  · rcases List.mem_cons.1 hx with e | hx
    · simp only [Prod.mk.injEq] at e; obtain ⟨rfl, rfl⟩ := e; exact ⟨hM.ge q hq, hM.row q hq⟩
    · obtain ⟨i, hi, e⟩ := List.mem_map.1 hx
      simp only [Prod.mk.injEq] at e; obtain ⟨rfl, rfl⟩ := e;have hi : i < m := by simpa using hi
      exact ⟨hge i hi, hM.fzm (hR.mem i hi)⟩
  · exact List.mem_cons_of_mem _ (List.mem_map.2 ⟨i, by simpa using hi, rfl⟩)
def xsf (C : Nat → Array Value) (i : Nat) : Nat → Value := fun c => ((C i)[c]?).getD undef
def mkR (C : Nat → Array Value) (Ln : Nat → Nat) (st : Nat → Nat) (i : Nat) : Array Value := mri (C i).size (st i) (Ln i) (xsf C i)
end Go.Sw

namespace Go.Sw
open Go Go.RowKit
theorem SSOutR.mono {w w1 w2 : World} {m : Nat} {Ln : Nat → Nat} {F : Nat → Nat → Int} {u : Value} (h : SSOutR w1 w2 m Ln F u) (hs : w.heap.size ≤ w1.heap.size) : SSOutR w w2 m Ln F u := by
  obtain ⟨D, b, cap, cs, β, κ, C, h1, h2⟩ := h;exact ⟨D, b, cap, cs, β, κ, C, fun x ds hx => ⟨Nat.le_trans hs (h1 x ds hx).1, (h1 x ds hx).2⟩, h2⟩
end Go.Sw

namespace Go.Sw
open Go Go.RowKit
section
variable {P : Program} {n : Nat} {F : List (Nat × Value)} {a : Act} {w : World} {d : Option Tmp} {t T T' e : TypeId} {pos : String} {af : Array Edge} {gd : Option (Nat × Bool)} {x y : Operand} {ad : Addr} {l c : Nat}
/-! ### A list compared with nil -/
theorem run_equal_nil (hT : P.underlying T = some (.slice e)) : (Op.equal T (.slice (some ad) l c) (.slice none 0 0)).run P w = .ok false w := by
  show (Op.equalIn 10000 T _ _).run P w = _
  rw [Op.equalIn]
  simp [run_underlying hT]
theorem g_eqlNil (hT : P.underlying T = some (.slice e)) (hF : Fr n a F) (hx : look F x = some (.slice (some ad) l c)) (hy : look F y = some (.slice none 0 0)) : Gives P ⟨d, .binOp .eql T x y T', t, pos, af, gd⟩ a w (.bool false) :=
  gives_of_run (by
    have hg : (eqGuard .eql T x y (.slice (some ad) l c) (.slice none 0 0)).run P w = .ok () w := by unfold eqGuard; simp
    simp [execOp, hg, binOp, hF.eval hx, hF.eval hy, run_equal_nil hT])
end
/-! ### Lists of lists that come to places of their own -/
theorem own_none {L : Own} {k : Nat} (h : L[k]? = some none) : L.set k none = L := by
  apply List.ext_getElem?
  intro i;rw [List.getElem?_set]
  split
  · rename_i e; subst e; rw [if_pos (List.getElem?_eq_some_iff.1 h).1, h]
  · rfl
/-! ### A region that draws its order, with lists that are made, one of two of them, and one append -/
inductive FactF where
  | val (v : Value)
  | own (cs : Array Value) (n : Nat)
  | two (c1 c2 : Array Value) (n1 n2 : Nat)
def FactF.sem : FactF → Froz → Value → Prop
  | .val v, _, u => u = v
  | .own cs n, D, u => ∃ b, u = .slice (some ⟨b, 0, none⟩) n n ∧ (b, cs) ∈ D
  | .two c1 c2 n1 n2, D, u => ∃ b b1 b2, u = .slice (some ⟨b, 0, none⟩) 2 2 ∧ (b, #[.slice (some ⟨b1, 0, none⟩) n1 n1, .slice (some ⟨b2, 0, none⟩) n2 n2]) ∈ D ∧ (b1, c1) ∈ D ∧ (b2, c2) ∈ D
theorem FactF.more {f : FactF} {D D' : Froz} {u : Value} (h : f.sem D u) (hs : ∀ x, x ∈ D → x ∈ D') : f.sem D' u := by
  cases f with
  | val v => exact h
  | own cs n => obtain ⟨b, h1, h2⟩ := h; exact ⟨b, h1, hs _ h2⟩
  | two c1 c2 n1 n2 => obtain ⟨b, b1, b2, h1, h2, h3, h4⟩ := h; exact ⟨b, b1, b2, h1, hs _ h2, hs _ h3, hs _ h4⟩
def factsF (l : List FactF) (s : Nat) : Facts (Froz × Option (Nat × Array Value) × Value) := fun i g u _ => match Nat.beq i s with
  | true => u = g.2.2
  | false => match l[i]? with
    | some f => f.sem g.1 u
    | none => True
def ParF (w0 : World) (D : Froz) (L0 : Own) (kr : Nat) (e0 : Option (Nat × Array Value)) (R : Froz → Option (Nat × Array Value) → Value → Prop) (b : Bool) (g : Froz × Option (Nat × Array Value) × Value) (w : World) : Prop :=
  Mem w0 w (L0.set kr g.2.1) (g.1 ++ D) ∧ (∀ x ds, (x, ds) ∈ g.1 → w0.heap.size ≤ x ∧ ∀ y es, (y, es) ∈ D → y ≠ x) ∧ (b = false → g.2.1 = e0) ∧ (b = true → R g.1 g.2.1 g.2.2)
section
variable {P : Program} {w0 w : World} {D : Froz} {L0 : Own} {kr s i k : Nat} {e0 : Option (Nat × Array Value)} {R : Froz → Option (Nat × Array Value) → Value → Prop} {b : Bool} {g : Froz × Option (Nat × Array Value) × Value} {l : List FactF} {o : Oper} {a : Act}
theorem ParF.drew (h : ParF w0 D L0 kr e0 R b g w) : ParF w0 D L0 kr e0 R b g w.drew := ⟨h.1.ext (Below.drew (Below.refl _ _)), h.2⟩
theorem ParF.mem (h : ParF w0 D L0 kr e0 R b g w) (hk : L0[kr]? = some none) : Mem w0 w L0 D := by
  have h1 := (h.1.drop kr).sub D (fun _ hx => List.mem_append_right _ hx)
  rwa [List.set_set, own_none hk] at h1
end
/-! ### Rows of three numbers -/
def tri3 (x y z : Int) (c : Nat) : Int := if c = 0 then x else if c = 1 then y else z
end Go.Sw

namespace Go.Sw
open Go Go.RowKit Go.Ech
/-! ### Lists of three numbers each -/
structure Tri (w : World) (b o m : Nat) (R : Nat → Nat → Int) (ca be ob : Nat → Nat) : Prop where
  cell : ∀ i, i < m → w.cell? ⟨b, o + i * 1, none⟩ = some (.slice (some ⟨be i, ob i, none⟩) 3 (ca i))
  num : ∀ i, i < m → ∀ j, j < 3 → w.cell? ⟨be i, ob i + j * 1, none⟩ = some (.int .i64 (R i j))
theorem Tri.ext {w w' : World} {b o m : Nat} {R : Nat → Nat → Int} {ca be ob : Nat → Nat} (h : Tri w b o m R ca be ob) (hx : Ext w w') : Tri w' b o m R ca be ob :=
  ⟨fun i hi => cell_ext (h.cell i hi) hx, fun i hi j hj => cell_ext (h.num i hi j hj) hx⟩
theorem ArgSS.tri {w : World} {sl : Value} {m : Nat} {Ln : Nat → Nat} {R : Nat → Nat → Int} {xs : Nat → Option Addr} {ca be ob : Nat → Nat} (h : ArgSS w sl m Ln R xs ca be ob) (h0 : 0 < m) (hl : ∀ i, i < m → Ln i = 3) : ∃ b o c, sl = .slice (some ⟨b, o, none⟩) m c ∧ Tri w b o m R ca be ob := by
  obtain ⟨b, o, c, h1, h2⟩ := h.cell h0;refine ⟨b, o, c, h1, fun i hi => ?_, fun i hi j hj => h.num i hi j (by rw [hl i hi]; exact hj)⟩;have := h2 i hi
  rwa [hl i hi, h.adr i hi (by rw [hl i hi]; omega)] at this
def Num3 (w w' : World) (f : Nat → Int) (v : Value) : Prop := ∃ b c cs, v = .slice (some ⟨b, 0, none⟩) 3 c ∧ w.heap.size ≤ b ∧ Blk w' b cs ∧ SlAt 1 v (some (b, cs)) 3 b c cs (fun k => .int .i64 (f k))
end Go.Sw

namespace Go.Ech
open Go.Sw
theorem sI_sub' (f g : Nat → Int) (n : Nat) : sI (fun i => f i - g i) n = sI f n - sI g n := by
  have := sI_add (fun c => f c - g c) g n;rw [show (fun i => (f i - g i) + g i) = f from by funext i; omega] at this; omega
theorem sI_dl {f : Nat → Int} {n a : Nat} (ha : a < n) : sI (fun i => f i * (dl i a : Int)) n = f a := by
  rw [sI_one ha (fun i _ hne => by simp [dl, hne])]; simp [dl]
theorem sI_dl' {f : Nat → Int} {n a : Nat} (ha : a < n) : sI (fun i => (dl a i : Int) * f i) n = f a := by
  rw [sI_one ha (fun i _ hne => by simp [dl, Ne.symm hne])]; simp [dl]
theorem sI_mod {p : Nat} {f g h : Nat → Int} {n : Nat} (e : ∀ i, i < n → (p : Int) ∣ g i - h i) : (p : Int) ∣ sI (fun i => f i * g i) n - sI (fun i => f i * h i) n := by
  rw [← sI_sub'];exact sI_dvd fun i hi => by rw [← Int.mul_sub]; exact Int.dvd_mul_of_dvd_right (e i hi)
theorem IsCop.left {p n : Nat} {F G : Nat → Nat → Nat} (hp : 2 ≤ p) (hn : n ≤ 6) (hF : ∀ i c, n ≤ c → F i c = 0) (hf : FullK p n F) (h : IsCop p n F G) : ∀ i, i < n → ∀ j, j < n → (p : Int) ∣ sI (fun k => (G i k : Int) * (F k j : Int)) n - (dl i j : Int) := by
  intro i hi j hj;have hK : Ker p 6 F n (fun a => if a < n then sI (fun k => (G a k : Int) * (F k j : Int)) n - (dl a j : Int) else 0) := fun b hb => by
    unfold dot
    rw [sI_cut hn (fun c h1 _ => by simp [show ¬ c < n by omega])];have e : sI (fun c => ci (F b) c * (if c < n then sI (fun k => (G c k : Int) * (F k j : Int)) n - (dl c j : Int) else 0)) n = sI (fun k => (F k j : Int) * sI (fun c => (F b c : Int) * (G c k : Int)) n) n - (F b j : Int) := by
      rw [sI_congr (g := fun c => (F b c : Int) * sI (fun k => (G c k : Int) * (F k j : Int)) n - (F b c : Int) * (dl c j : Int)) (fun c hc => by rw [if_pos hc, Int.mul_sub]), sI_sub', sI_dl hj]
      congr 1
      rw [sI_congr (g := fun c => sI (fun k => (F b c : Int) * ((G c k : Int) * (F k j : Int))) n) (fun c _ => (sI_mul _ _ _).symm), sI_swap];exact sI_congr fun k _ => by rw [← sI_mul]; exact sI_congr fun c _ => by rw [← Int.mul_assoc]; exact Int.mul_comm _ _
    rw [e];have h1 := sI_mod (p := p) (f := fun k => (F k j : Int)) (g := fun k => sI (fun c => (F b c : Int) * (G c k : Int)) n) (h := fun k => (dl b k : Int)) (n := n) (fun k hk => h.sol b hb k hk)
    rwa [show sI (fun k => (F k j : Int) * (dl b k : Int)) n = (F b j : Int) from by
      rw [sI_congr (g := fun k => (dl b k : Int) * (F k j : Int)) (fun k _ => Int.mul_comm _ _)]; exact sI_dl' hb] at h1
  have := hf.zero hp hn hF hK (fun d h1 _ => by simp [show ¬ d < n by omega]) hi
  simpa only [if_pos hi] using this
end Go.Ech

namespace Go.Ech
open Go.Sw
/-! ### The kernel of rows, as a reduced list. -/
def sol (p : Nat) (E : Nat → Nat → Nat) (k : Nat) (ld : Nat → Nat) (c d : Nat) : Nat := if d = c then 1 else match ldAt k ld d with
  | some j => (p - E j c) % p
  | none => 0
def nf (k : Nat) (ld : Nat → Nat) : Nat → Nat
  | 0 => 0
  | c + 1 => if isLd k ld c then nf k ld c else nf k ld c + 1
def SolR (p n : Nat) (E : Nat → Nat → Nat) (k : Nat) (ld : Nat → Nat) (S : Nat → Nat → Nat) : Prop := ∀ c, c < n → ¬ isLd k ld c → ∀ d, S (nf k ld c) d = sol p E k ld c d
def IsKer (p n : Nat) (M : Nat → Nat → Nat) (m r : Nat) (V : Nat → Nat → Nat) : Prop := ∃ (k : Nat) (E : Nat → Nat → Nat) (ld ld2 : Nat → Nat), Rref p n E k ld ∧ (∀ x, Ker p n E k x ↔ Ker p n M m x) ∧ Rref p n V r ld2 ∧
  ∀ x, Ker p n V r x ↔ ∀ c, c < n → ¬ isLd k ld c → (p : Int) ∣ dot n (ci (sol p E k ld c)) x
/-! Rows with zeros behind their first n numbers. -/
def padN (n : Nat) (E : Nat → Nat → Nat) (i c : Nat) : Nat := if c < n then E i c else 0
def lv (ld : Nat → Nat) (q c : Nat) : Nat := match ldAt q ld c with
  | some j => j + 1
  | none => 0
end Go.Ech
