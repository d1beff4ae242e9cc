/- Plain lemmas of a small calculus for walks over frames and own memory; no statement of the seat is proved here. -/
import Derived.Test.YtmhibfghnnpefaaSw15
import Derived.Recover
import Derived.Test.YtmhibfghnnpefaaSw19
import Derived.Test.YtmhibfghnnpefaaSw62
import Derived.Test.YtmhibfghnnpefaaSw40
import Derived.Lib.ConvBytes
import Derived.Laws.IdiomCopy
import Derived.Laws.AppendOwn
set_option linter.unusedVariables false
set_option linter.unusedSimpArgs false
namespace Go.Sw
open Go Go.RowKit
variable {P : Program}
/-! ### Deferred calls: what was laid before lies behind the frame. -/
def addD (ds : List Deferred) (a : Act) : Act := ⟨a.tmps, a.defers ++ ds⟩
section
variable {ds : List Deferred} {ops : Array Oper} {Q : Exit → Act → World → Prop} {n : Nat} {F : List (Nat × Value)} {a : Act} {w : World}
end
end Go.Sw

namespace Go.Sw
open Go Go.RowKit
variable {P : Program}
/-! ### A door: a deferred closure that recovers. -/
section
variable {ops : Array Oper} {Q : Exit → Act → World → Prop} {rest : List Oper} {n : Nat} {F : List (Nat × Value)} {a : Act} {w : World} {d : Option Tmp} {t : TypeId} {pos : String} {af : Array Edge} {gd : Option (Nat × Bool)}
def okA (tm : Array Value) : List (Nat × Value) → Prop
  | [] => True
  | (t, v) :: r => tm.getD t undef = v ∧ okA tm r
def Clo (P : Program) (f b : Nat) (u : FrameMode) (w : World) (c : Value) : Prop :=
  CallsD P f #[ptr b 0] u w fun e u' w' => (∃ v, e = .returned v) ∧ settle u' = .returning ∧ ExtX [b] w w' ∧ Blk w' b #[c]
end
end Go.Sw

namespace Go.Sw
open Go Go.RowKit
def l4 (a b c d : Nat) (i : Nat) : Nat := match i with
  | 0 => a
  | 1 => b
  | 2 => c
  | _ => d
section
variable {P : Program} {n : Nat} {F : List (Nat × Value)} {a : Act} {w : World} {d : Option Tmp} {t : TypeId} {pos : String} {af : Array Edge} {gd : Option (Nat × Bool)}
end
end Go.Sw

namespace Go.Sw
open Go Go.RowKit Go.ChangeShapes Go.WideShapes Go.ChangeAt
structure ArgSS (w : World) (sl : Value) (m : Nat) (L : Nat → Nat) (R : Nat → Nat → Int) (xs : Nat → Option Addr) (ca be ob : Nat → Nat) : Prop where
  out : ∃ x c, sl = .slice x m c
  cell : 0 < m → ∃ b o c, sl = .slice (some ⟨b, o, none⟩) m c ∧ ∀ i, i < m → w.cell? ⟨b, o + i * 1, none⟩ = some (.slice (xs i) (L i) (ca i))
  adr : ∀ i, i < m → 0 < L i → xs i = some ⟨be i, ob i, none⟩
  num : ∀ i, i < m → ∀ j, j < L i → w.cell? ⟨be i, ob i + j * 1, none⟩ = some (.int .i64 (R i j))
namespace ArgSS
variable {w w' : World} {sl : Value} {m : Nat} {L : Nat → Nat} {R : Nat → Nat → Int} {xs : Nat → Option Addr} {ca be ob : Nat → Nat}
theorem ext (h : ArgSS w sl m L R xs ca be ob) (hx : Ext w w') : ArgSS w' sl m L R xs ca be ob :=
  ⟨h.out, fun hm => by obtain ⟨b, o, c, h1, h2⟩ := h.cell hm; exact ⟨b, o, c, h1, fun i hi => cell_ext (h2 i hi) hx⟩, h.adr, fun i hi j hj => cell_ext (h.num i hi j hj) hx⟩
theorem one (h : ArgSS w sl m L R xs ca be ob) : sl.oneCell' = true := by
  obtain ⟨x, c, rfl⟩ := h.out; rfl
theorem row (h : ArgSS w sl m L R xs ca be ob) {i : Nat} (hi : i < m) : ArgSl w (.slice (xs i) (L i) (ca i)) (L i) (R i) :=
  ⟨⟨_, _, rfl⟩, fun hl => ⟨be i, ob i, ca i, by rw [h.adr i hi hl], h.num i hi⟩⟩
theorem congr {R' : Nat → Nat → Int} (h : ArgSS w sl m L R xs ca be ob) (e : ∀ i, i < m → ∀ j, j < L i → R i j = R' i j) : ArgSS w sl m L R' xs ca be ob :=
  ⟨h.out, h.cell, h.adr, fun i hi j hj => by rw [← e i hi j hj]; exact h.num i hi j hj⟩
end ArgSS
section
variable {H : Type} {enc : TypeId × Value → H} {P : Program} {w : World} {base : Nat} {spare : Nat → Bool} {held : Bool}
end
def rowsC (m : Nat) (L : Nat → Nat) (β : Nat → Nat) : Array Value := fnC m fun i => .slice (some ⟨β i, 0, none⟩) (L i) (L i)
structure SSD (D : Froz) (u : Value) (m : Nat) (L : Nat → Nat) (R : Nat → Nat → Int) (b : Nat) (β : Nat → Nat) : Prop where
  val : u = .slice (some ⟨b, 0, none⟩) m m
  out : (b, rowsC m L β) ∈ D
  row : ∀ i, i < m → (β i, numI (L i) (R i)) ∈ D
  inj : ∀ i j, i < m → j < m → β i = β j → i = j
  ne : ∀ i, i < m → β i ≠ b
theorem SSD.more {D D' : Froz} {u : Value} {m b : Nat} {L β : Nat → Nat} {R : Nat → Nat → Int} (h : SSD D u m L R b β) (hs : ∀ x, x ∈ D → x ∈ D') : SSD D' u m L R b β := ⟨h.val, hs _ h.out, fun i hi => hs _ (h.row i hi), h.inj, h.ne⟩
def SSOut (w w' : World) (m : Nat) (L : Nat → Nat) (R : Nat → Nat → Int) (u : Value) : Prop := ∃ (D : Froz) (b : Nat) (β : Nat → Nat), (∀ x ds, (x, ds) ∈ D → w.heap.size ≤ x ∧ Blk w' x ds) ∧ SSD D u m L R b β
end Go.Sw

/-! Lists of numbers that are marked: number by number from k on. -/
namespace Go.Sw
open Go Go.RowKit
def mri (Z k t : Nat) (xs : Nat → Value) : Array Value := fnC Z (fun c => if c < t then .int .i64 (((k + c : Nat)) : Int) else xs c)
section
variable {Z k t : Nat} {xs : Nat → Value}
end
end Go.Sw

namespace Go.Sw
open Go Go.RowKit
structure SSR (D : Froz) (u : Value) (m : Nat) (Ln : Nat → Nat) (F : Nat → Nat → Int) (b cap : Nat) (cs : Array Value) (β κ : Nat → Nat) (C : Nat → Array Value) : Prop where
  sl : SlAt 1 u (some (b, cs)) m b cap cs (fun i => .slice (some ⟨β i, 0, none⟩) (Ln i) (κ i))
  out : (b, cs) ∈ D
  rows : RowsC D m β C
  row : ∀ i, i < m → SlAt 1 (.slice (some ⟨β i, 0, none⟩) (Ln i) (κ i)) (some (β i, C i)) (Ln i) (β i) (κ i) (C i) (fun c => .int .i64 (F i c))
  ne : ∀ i, i < m → β i ≠ b
namespace SSR
variable {D D' : Froz} {u : Value} {m b cap : Nat} {Ln β κ : Nat → Nat} {F : Nat → Nat → Int} {cs : Array Value} {C : Nat → Array Value}
theorem more (h : SSR D u m Ln F b cap cs β κ C) (hs : ∀ x, x ∈ D → x ∈ D') : SSR D' u m Ln F b cap cs β κ C := ⟨h.sl, hs _ h.out, h.rows.more hs, h.row, h.ne⟩
theorem cell (h : SSR D u m Ln F b cap cs β κ C) (i : Nat) (hi : i < m) : cs[0 + i * 1]? = some (.slice (some ⟨β i, 0, none⟩) (Ln i) (κ i)) := h.sl.get1 i hi
theorem num (h : SSR D u m Ln F b cap cs β κ C) (i : Nat) (hi : i < m) (c : Nat) (hc : c < Ln i) : (C i)[0 + c * 1]? = some (.int .i64 (F i c)) := (h.row i hi).get1 c hc
theorem room (h : SSR D u m Ln F b cap cs β κ C) (i : Nat) (hi : i < m) : Ln i ≤ (C i).size := by
  have h1 := (h.row i hi).le;have h2 := (h.row i hi).sz
  omega
theorem congr {G : Nat → Nat → Int} (h : SSR D u m Ln F b cap cs β κ C) (e : ∀ i, i < m → ∀ c, c < Ln i → F i c = G i c) : SSR D u m Ln G b cap cs β κ C :=
  ⟨h.sl, h.out, h.rows, fun i hi => (h.row i hi).congr fun c hc => by rw [e i hi c (by omega)], h.ne⟩
end SSR
def SSOutR (w w' : World) (m : Nat) (Ln : Nat → Nat) (F : Nat → Nat → Int) (u : Value) : Prop := ∃ (D : Froz) (b cap : Nat) (cs : Array Value) (β κ : Nat → Nat) (C : Nat → Array Value), (∀ x ds, (x, ds) ∈ D → w.heap.size ≤ x ∧ Blk w' x ds) ∧ SSR D u m Ln F b cap cs β κ C
theorem SSOutR.of {w w' : World} {L : Own} {D : Froz} {m q : Nat} {Ln β κ : Nat → Nat} {C : Nat → Array Value} {F : Nat → Nat → Int} {u : Value} {b cap : Nat} {cs : Array Value} (hM : Mem w w' L D) (hR : RowsC D m β C)
    (hq : L[q]? = some (some (b, cs))) (hs : SlAt 1 u (some (b, cs)) m b cap cs (fun i => .slice (some ⟨β i, 0, none⟩) (Ln i) (κ i))) (hge : ∀ i, i < m → w.heap.size ≤ β i)
    (hr : ∀ i, i < m → SlAt 1 (.slice (some ⟨β i, 0, none⟩) (Ln i) (κ i)) (some (β i, C i)) (Ln i) (β i) (κ i) (C i) (fun c => .int .i64 (F i c))) : SSOutR w w' m Ln F u := by
  refine ⟨(b, cs) :: (List.range m).map (fun i => (β i, C i)), b, cap, cs, β, κ, C, fun x ds hx => ?_, hs, List.mem_cons_self .., ⟨fun i hi => ?_, hR.inj⟩, hr, fun i hi e => (hM.froz _ _ (hR.mem i hi)).2 q b cs hq e.symm⟩
  · rcases List.mem_cons.1 hx with e | hx
    · simp only [Prod.mk.injEq] at e; obtain ⟨rfl, rfl⟩ := e; exact ⟨hM.ge q hq, hM.row q hq⟩
    · obtain ⟨i, hi, e⟩ := List.mem_map.1 hx
      simp only [Prod.mk.injEq] at e; obtain ⟨rfl, rfl⟩ := e;have hi : i < m := by simpa using hi
      exact ⟨hge i hi, hM.fzm (hR.mem i hi)⟩
  · exact List.mem_cons_of_mem _ (List.mem_map.2 ⟨i, by simpa using hi, rfl⟩)
def xsf (C : Nat → Array Value) (i : Nat) : Nat → Value := fun c => ((C i)[c]?).getD undef
def mkR (C : Nat → Array Value) (Ln : Nat → Nat) (st : Nat → Nat) (i : Nat) : Array Value := mri (C i).size (st i) (Ln i) (xsf C i)
end Go.Sw

namespace Go.Sw
open Go Go.RowKit
theorem SSOutR.mono {w w1 w2 : World} {m : Nat} {Ln : Nat → Nat} {F : Nat → Nat → Int} {u : Value} (h : SSOutR w1 w2 m Ln F u) (hs : w.heap.size ≤ w1.heap.size) : SSOutR w w2 m Ln F u := by
  obtain ⟨D, b, cap, cs, β, κ, C, h1, h2⟩ := h;exact ⟨D, b, cap, cs, β, κ, C, fun x ds hx => ⟨Nat.le_trans hs (h1 x ds hx).1, (h1 x ds hx).2⟩, h2⟩
end Go.Sw

namespace Go.Sw
open Go Go.RowKit
section
variable {P : Program} {n : Nat} {F : List (Nat × Value)} {a : Act} {w : World} {d : Option Tmp} {t T T' e : TypeId} {pos : String} {af : Array Edge} {gd : Option (Nat × Bool)} {x y : Operand} {ad : Addr} {l c : Nat}
/-! ### A list compared with nil -/
theorem run_equal_nil (hT : P.underlying T = some (.slice e)) : (Op.equal T (.slice (some ad) l c) (.slice none 0 0)).run P w = .ok false w := by
  show (Op.equalIn 10000 T _ _).run P w = _
  rw [Op.equalIn]
  simp [run_underlying hT]
theorem g_eqlNil (hT : P.underlying T = some (.slice e)) (hF : Fr n a F) (hx : look F x = some (.slice (some ad) l c)) (hy : look F y = some (.slice none 0 0)) : Gives P ⟨d, .binOp .eql T x y T', t, pos, af, gd⟩ a w (.bool false) :=
  gives_of_run (by
    have hg : (eqGuard .eql T x y (.slice (some ad) l c) (.slice none 0 0)).run P w = .ok () w := by unfold eqGuard; simp
    simp [execOp, hg, binOp, hF.eval hx, hF.eval hy, run_equal_nil hT])
end
/-! ### Lists of lists that come to places of their own -/
theorem own_none {L : Own} {k : Nat} (h : L[k]? = some none) : L.set k none = L := by
  apply List.ext_getElem?
  intro i;rw [List.getElem?_set]
  split
  · rename_i e; subst e; rw [if_pos (List.getElem?_eq_some_iff.1 h).1, h]
  · rfl
/-! ### A region that draws its order, with lists that are made, one of two of them, and one append -/
inductive FactF where
  | val (v : Value)
  | own (cs : Array Value) (n : Nat)
  | two (c1 c2 : Array Value) (n1 n2 : Nat)
def FactF.sem : FactF → Froz → Value → Prop
  | .val v, _, u => u = v
  | .own cs n, D, u => ∃ b, u = .slice (some ⟨b, 0, none⟩) n n ∧ (b, cs) ∈ D
  | .two c1 c2 n1 n2, D, u => ∃ b b1 b2, u = .slice (some ⟨b, 0, none⟩) 2 2 ∧ (b, #[.slice (some ⟨b1, 0, none⟩) n1 n1, .slice (some ⟨b2, 0, none⟩) n2 n2]) ∈ D ∧ (b1, c1) ∈ D ∧ (b2, c2) ∈ D
theorem FactF.more {f : FactF} {D D' : Froz} {u : Value} (h : f.sem D u) (hs : ∀ x, x ∈ D → x ∈ D') : f.sem D' u := by
  cases f with
  | val v => exact h
  | own cs n => obtain ⟨b, h1, h2⟩ := h; exact ⟨b, h1, hs _ h2⟩
  | two c1 c2 n1 n2 => obtain ⟨b, b1, b2, h1, h2, h3, h4⟩ := h; exact ⟨b, b1, b2, h1, hs _ h2, hs _ h3, hs _ h4⟩
def factsF (l : List FactF) (s : Nat) : Facts (Froz × Option (Nat × Array Value) × Value) := fun i g u _ => match Nat.beq i s with
  | true => u = g.2.2
  | false => match l[i]? with
    | some f => f.sem g.1 u
    | none => True
def ParF (w0 : World) (D : Froz) (L0 : Own) (kr : Nat) (e0 : Option (Nat × Array Value)) (R : Froz → Option (Nat × Array Value) → Value → Prop) (b : Bool) (g : Froz × Option (Nat × Array Value) × Value) (w : World) : Prop :=
  Mem w0 w (L0.set kr g.2.1) (g.1 ++ D) ∧ (∀ x ds, (x, ds) ∈ g.1 → w0.heap.size ≤ x ∧ ∀ y es, (y, es) ∈ D → y ≠ x) ∧ (b = false → g.2.1 = e0) ∧ (b = true → R g.1 g.2.1 g.2.2)
section
variable {P : Program} {w0 w : World} {D : Froz} {L0 : Own} {kr s i k : Nat} {e0 : Option (Nat × Array Value)} {R : Froz → Option (Nat × Array Value) → Value → Prop} {b : Bool} {g : Froz × Option (Nat × Array Value) × Value} {l : List FactF} {o : Oper} {a : Act}
theorem ParF.drew (h : ParF w0 D L0 kr e0 R b g w) : ParF w0 D L0 kr e0 R b g w.drew := ⟨h.1.ext (Below.drew (Below.refl _ _)), h.2⟩
theorem ParF.mem (h : ParF w0 D L0 kr e0 R b g w) (hk : L0[kr]? = some none) : Mem w0 w L0 D := by
  have h1 := (h.1.drop kr).sub D (fun _ hx => List.mem_append_right _ hx)
  rwa [List.set_set, own_none hk] at h1
end
/-! ### Rows of three numbers -/
def tri3 (x y z : Int) (c : Nat) : Int := if c = 0 then x else if c = 1 then y else z
end Go.Sw

namespace Go.Sw
open Go Go.RowKit
/-! ### A list of bytes made of a text while a loop runs. -/
structure BufY (w0 w : World) (b n : Nat) (g : Nat → Nat) : Prop where
  new : w0.heap.size ≤ b
  lt : b < w.heap.size
  cell : ∀ j, j < n → w.cell? ⟨b, j, none⟩ = some (.int .u8 (g j : Int))
  free : ∀ j, j < n → w.frozen? ⟨b, j, none⟩ = false
section
variable {P : Program} {n : Nat} {F : List (Nat × Value)} {a : Act} {w0 w : World} {d : Option Tmp} {t T T' e : TypeId} {pos : String} {af : Array Edge} {gd : Option (Nat × Bool)} {x y : Operand} {b m : Nat} {g : Nat → Nat}
theorem BufY.congr {g' : Nat → Nat} (h : BufY w0 w b m g) (he : ∀ j, j < m → g j = g' j) : BufY w0 w b m g' :=
  ⟨h.new, h.lt, fun j hj => by rw [← he j hj]; exact h.cell j hj, h.free⟩
theorem BufY.put {o v : Nat} (h : BufY w0 w b m g) (ho : o < m) : BufY w0 (w.setCell ⟨b, o, none⟩ (.int .u8 (v : Int))) b m (fun j => if j = o then v else g j) := by
  refine ⟨h.new, by simpa [World.setCell] using h.lt, fun j hj => ?_, fun j hj => by rw [World.frozen?_setCell]; exact h.free j hj⟩
  by_cases e : j = o
  · subst e; rw [if_pos rfl]; exact World.cell?_setCell_same _ _ _ (h.cell j hj)
  · rw [if_neg e, World.cell?_setCell_other _ _ _ _ (by first | (simp; done) | (simp; omega))]; exact h.cell j hj
theorem mem_setFar {X : List Nat} {L : Own} {D : Froz} {o : Nat} {v : Value} (hM : MemX X w0 w L D) (hb : w0.heap.size ≤ b) (hL : ∀ (k : Nat) c cs, L[k]? = some (some (c, cs)) → c ≠ b) (hD : ∀ c cs, (c, cs) ∈ D → c ≠ b) : MemX X w0 (w.setCell ⟨b, o, none⟩ v) L D := by
  have hh : ∀ k, k ≠ b → (w.setCell ⟨b, o, none⟩ v).heap[k]? = w.heap[k]? := fun k hk => heap_setCell_other w _ k v hk;refine ⟨⟨hM.bel.os, hM.bel.tape, hM.bel.output, by simpa [World.setCell] using hM.bel.size, fun k hk hX => (hh k (by omega)).trans (hM.bel.block k hk hX)⟩, fun k c cs hk => ⟨(hM.blk k c cs hk).1, ?_⟩, hM.apart, fun c cs hm => ⟨?_, (hM.froz c cs hm).2⟩⟩
  · obtain ⟨t, h⟩ := (hM.blk k c cs hk).2; exact ⟨t, (hh c (hL k c cs hk)).trans h⟩
  · obtain ⟨t, h⟩ := (hM.froz c cs hm).1; exact ⟨t, (hh c (hD c cs hm)).trans h⟩
theorem d_storeY {o : Nat} {v : Value} (hY : BufY w0 w b m g) (ho : o < m) (hT : oneP P T = true) (hF : Fr n a F) (hx : look F x = some (ptr b o)) (hy : look F y = some v) (h1 : v.oneCell' = true) :
    Does P ⟨d, .store T x y, t, pos, af, gd⟩ a w (fun _ w' => w' = w.setCell ⟨b, o, none⟩ v) := by
  have hs := (run_isAgg_one hT w).2;have hst := run_storeCells_cells (P := P) b o [v] 0 w (fun j hj => by
      have : j = 0 := by simpa using hj
      subst this; rw [show o + 0 + 0 = o from rfl, hY.cell o ho]; rfl) (fun j hj => by
      have : j = 0 := by simpa using hj
      subst this; exact hY.free o ho) (by simpa using h1)
  have hcs : v.cells = #[v] := by cases v <;> first | rfl | (simp [Value.oneCell'] at h1)
  refine ⟨fun K Q hk => ?_⟩;have hrun : (execOp a.eval ⟨d, .store T x y, t, pos, af, gd⟩).run P w = .ok .skip (w.setCell ⟨b, o, none⟩ v) := by
    simp [execOp, Instr.storeAt, Instr.sureAddr, hF.eval hx, hF.eval hy, storeVar, hs, hcs, hst]
    rfl
  unfold Oper.wp
  rw [hrun];exact hk _ _ rfl
theorem ext_bytesY (w : World) (e : TypeId) (s : ByteArray) : Ext w (Lib.bytesWorld w e s) :=
  ⟨rfl, rfl, rfl, by rw [Lib.bytesWorld_size]; omega, fun k hk => Lib.bytesWorld_at_old w e s k hk⟩
theorem d_convY {s : ByteArray} (hw : Ext w0 w) (hT : P.underlying T = some .string) (hT' : P.underlying T' = some (.slice e)) (he : P.underlying e = some (.int .u8)) (hF : Fr n a F) (hx : look F x = some (.string s)) :
    Does P ⟨d, .convert T T' x, t, pos, af, gd⟩ a w (fun u w' => ∃ b c, u = .slice (some ⟨b, 0, none⟩) s.size c ∧ Ext w w' ∧ BufY w0 w' b s.size (byt s)) := by
  refine ⟨fun K Q hk => ?_⟩;have hr := Lib.run_convert_string_bytes (P := P) w T T' e s hT hT' he;have hrun : (execOp a.eval ⟨d, .convert T T' x, t, pos, af, gd⟩).run P w = .ok (.value (.slice (some ⟨w.heap.size, 0, none⟩) s.size (grownCap w s.size 0 e))) (Lib.bytesWorld w e s) := by
    simp [execOp, hF.eval hx, hr]
  unfold Oper.wp
  rw [hrun];refine hk _ _ ⟨w.heap.size, _, rfl, ext_bytesY w e s, ⟨hw.size, by rw [Lib.bytesWorld_size]; omega, fun j hj => ?_, fun j hj => ?_⟩⟩
  · rw [Lib.bytesWorld_cell w e s j hj]
    unfold byt
    rw [Array.getD_eq_getD_getElem?, List.getD_eq_getElem?_getD, Array.getElem?_toList]
  · have hsz : s.size ≤ (Lib.bytesCells w e s).size := by
      unfold Lib.bytesCells; rw [Array.size_append, Array.size_map]; have : s.data.size = s.size := rfl; omega
    simp only [World.frozen?, Lib.bytesWorld_at_new]
    simp; omega
theorem g_b2sY {c : Nat} (hY : BufY w0 w b m g) (hT : P.underlying T = some (.slice e)) (hT' : P.underlying T' = some .string) (he : P.underlying e = some (.int .u8)) (hF : Fr n a F) (hx : look F x = some (.slice (some ⟨b, 0, none⟩) m c)) :
    Gives P ⟨d, .convert T T' x, t, pos, af, gd⟩ a w (.string (txt m g)) := by
  have hl := run_loadCells_list (P := P) (w := w) ⟨b, 0, none⟩ (((List.range m).map fun i => (g i : Int)).map (Value.int .u8)) (fun j u hj => by
    have hjm : j < m := by have := (List.getElem?_eq_some_iff.1 hj).1; simpa using this
    rw [List.getElem?_map, List.getElem?_map, List.getElem?_range hjm] at hj;simp only [Option.map_some, Option.some.injEq] at hj;subst hj;rw [Addr.add_lit, Nat.zero_add];exact hY.cell j hjm)
  rw [List.length_map, List.length_map, List.length_range] at hl;have hr := run_bytesToString (P := P) w ⟨b, 0, none⟩ m c ((List.range m).map fun i => (g i : Int)) hl;exact gives_of_run (by simp [execOp, convert, run_underlying hT, run_underlying hT', run_underlying he, hF.eval hx, hr]; rfl)
theorem run_equal_nil0 (hT : P.underlying T = some (.slice e)) : (Op.equal T (.slice none 0 0) (.slice none 0 0)).run P w = .ok true w := by
  show (Op.equalIn 10000 T _ _).run P w = _
  rw [Op.equalIn]
  simp [run_underlying hT]
theorem g_eqlNil0 (hT : P.underlying T = some (.slice e)) (hF : Fr n a F) (hx : look F x = some (.slice none 0 0)) (hy : look F y = some (.slice none 0 0)) : Gives P ⟨d, .binOp .eql T x y T', t, pos, af, gd⟩ a w (.bool true) :=
  gives_of_run (by
    have hg : (eqGuard .eql T x y (.slice none 0 0) (.slice none 0 0)).run P w = .ok () w := by unfold eqGuard; simp
    simp [execOp, hg, binOp, hF.eval hx, hF.eval hy, run_equal_nil0 hT])
theorem txt_list (m : Nat) (g : Nat → Nat) : (txt m g).data.toList = (List.range m).map fun i => UInt8.ofNat (g i) := by
  have key : ∀ (l : List Int) (b : ByteArray), (l.foldl (fun r n => r.push (UInt8.ofNat n.toNat)) b).data.toList = b.data.toList ++ l.map fun n => UInt8.ofNat n.toNat := by
    intro l
    induction l with
    | nil => intro b; simp
    | cons x l ih => intro b; rw [List.foldl_cons, ih]; simp [ByteArray.push]
  unfold txt
  rw [key, List.map_map]
  rfl
theorem txt_byt {s : ByteArray} : txt s.size (byt s) = s := by
  apply ByteArray.ext
  apply Array.toList_inj.1
  rw [txt_list]
  apply List.ext_getElem?
  intro i;have hz : s.data.size = s.size := rfl
  by_cases h : i < s.size
  · rw [List.getElem?_map, List.getElem?_range h, Array.getElem?_toList, Array.getElem?_eq_getElem (by omega)]
    unfold byt
    rw [Option.map_some, Array.getD_eq_getD_getElem?, Array.getElem?_eq_getElem (by omega)]
    simp
  · rw [List.getElem?_eq_none (by simp; omega), List.getElem?_eq_none (by rw [Array.length_toList]; omega)]
theorem g_eqlNilU {u : Value} {p : Prop} [Decidable p] (hT : P.underlying T = some (.slice e)) (hu : (u = .slice none 0 0 ∧ p) ∨ (∃ ad l c, u = .slice (some ad) l c) ∧ ¬ p) (hF : Fr n a F) (hx : look F x = some u) (hy : look F y = some (.slice none 0 0)) : Gives P ⟨d, .binOp .eql T x y T', t, pos, af, gd⟩ a w (.bool (decide p)) := by
  rcases hu with ⟨rfl, hp⟩ | ⟨⟨ad, l, c, rfl⟩, hp⟩
  · rw [decide_eq_true hp]
    exact gives_of_run (by
      have hg : (eqGuard .eql T x y (.slice none 0 0) (.slice none 0 0)).run P w = .ok () w := by unfold eqGuard; simp
      simp [execOp, hg, binOp, hF.eval hx, hF.eval hy, run_equal_nil0 hT])
  · rw [decide_eq_false hp]
    exact g_eqlNil hT hF hx hy
theorem g_mkI {td : TypeDesc} {v : Value} (hT : P.underlying T = some td) (hn : ∀ ms, td ≠ .interface ms) (hF : Fr n a F) (hx : look F x = some v) : Gives P ⟨d, .makeInterface T x, t, pos, af, gd⟩ a w (.iface T v) :=
  gives_of_run (by
    simp only [execOp, Instr.makeInterface, hF.eval hx, Sem.run_bind, run_underlying hT, Result.andThen_ok]
    cases td <;> first | rfl | exact absurd rfl (hn _))
end
end Go.Sw
