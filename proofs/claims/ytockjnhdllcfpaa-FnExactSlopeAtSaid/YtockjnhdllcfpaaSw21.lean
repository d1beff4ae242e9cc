/- Plain lemmas of a small calculus for walks over frames and own memory; no statement of the seat is proved here. -/
import Derived.Test.YtockjnhdllcfpaaSw6
import Derived.OpenShut
set_option linter.unusedVariables false
set_option linter.unusedSimpArgs false
namespace Go.Sw
open Go Go.RowKit
variable {P : Program}

/-! ### Slices that the call owns: their cells lie at a place of their own. -/
structure SlAt (size : Nat) (v : Value) (e : Option (Nat × Array Value)) (n b cap : Nat) (cs : Array Value) (f : Nat → Value) : Prop where
  val : v = .slice (some ⟨b, 0, none⟩) n cap
  ent : e = some (b, cs)
  le : n ≤ cap
  max : cap ≤ maxLen
  sz : cs.size = cap * size
  get : ∀ i, i < n * size → cs[i]? = some (f i)
def Sl (size : Nat) (v : Value) (e : Option (Nat × Array Value)) (n : Nat) (f : Nat → Value) : Prop :=
  (v = .slice none 0 0 ∧ e = none ∧ n = 0) ∨ ∃ b cap cs, SlAt size v e n b cap cs f
theorem Sl.nil (size : Nat) (f : Nat → Value) : Sl size (.slice none 0 0) none 0 f := .inl ⟨rfl, rfl, rfl⟩
theorem Sl.pos {size n : Nat} {v : Value} {e : Option (Nat × Array Value)} {f : Nat → Value} (h : Sl size v e n f) (hn : 0 < n) : ∃ b cap cs, v = .slice (some ⟨b, 0, none⟩) n cap ∧ e = some (b, cs) ∧ SlAt size v e n b cap cs f := by
  rcases h with ⟨_, _, h0⟩ | ⟨b, cap, cs, h⟩
  · omega
  · exact ⟨b, cap, cs, h.val, h.ent, h⟩
theorem Sl.congr {size n : Nat} {v : Value} {e : Option (Nat × Array Value)} {f g : Nat → Value} (h : Sl size v e n f) (hf : ∀ i, i < n * size → f i = g i) : Sl size v e n g := by
  rcases h with h | ⟨b, cap, cs, h⟩
  · exact .inl h
  · exact .inr ⟨b, cap, cs, h.val, h.ent, h.le, h.max, h.sz, fun i hi => by rw [← hf i hi]; exact h.get i hi⟩
def slI (P : Program) (T : TypeId) : Option (TypeId × Option Value × Nat × Nat) :=
  match P.underlying T with
  | some (.slice e) => (P.info? e).map fun i => (e, i.zero, i.size, i.bytes)
  | _ => none

section
variable {ops : Array Oper} {Q : Exit → Act → World → Prop} {rest : List Oper} {n : Nat} {F : List (Nat × Value)} {a : Act} {X : List Nat} {w w0 : World} {L : Own} {D : Froz}
variable {d : Option Tmp} {t : TypeId} {pos : String} {af : Array Edge} {gd : Option (Nat × Bool)} {T : TypeId} {x y : Operand}
theorem g_lenX {y : Option Addr} {len c : Nat} {TT : TypeId} {el : TypeId} (hT : P.underlying TT = some (.slice el)) (hF : Fr n a F) (hx : look F x = some (.slice y len c)) : Gives P ⟨d, .call { callee := .builtin .len, args := #[x], argTypes := #[TT] }, t, pos, af, gd⟩ a w (.int .i64 (len : Int)) :=
  gives_of_run (by simp [execOp, resolve, invoke, hF.eval hx, builtin, Builtin.len_, run_underlying hT, goInt])
theorem g_len {b o len c : Nat} {TT : TypeId} {el : TypeId} (hT : P.underlying TT = some (.slice el)) (hF : Fr n a F) (hx : look F x = some (.slice (some ⟨b, o, none⟩) len c)) : Gives P ⟨d, .call { callee := .builtin .len, args := #[x], argTypes := #[TT] }, t, pos, af, gd⟩ a w (.int .i64 (len : Int)) :=
  gives_of_run (by simp [execOp, resolve, invoke, hF.eval hx, builtin, Builtin.len_, run_underlying hT, goInt])
end

theorem MemX.startD (w : World) (n : Nat) (D : Froz) (h : ∀ b cs, (b, cs) ∈ D → Blk w b cs) : Mem w w (List.replicate n none) D :=
  ⟨ExtX.refl _ w, fun k b cs h => by simp [List.getElem?_replicate] at h, fun k j b cs ds h => by simp [List.getElem?_replicate] at h, fun b cs hm => ⟨h b cs hm, fun k c ds hk => by simp [List.getElem?_replicate] at hk⟩⟩
theorem MemX.fz {X : List Nat} {w0 w : World} {L : Own} {D : Froz} (h : MemX X w0 w L D) (k : Nat) {b : Nat} {cs : Array Value} (hk : D[k]? = some (b, cs)) : Blk w b cs := (h.froz b cs (List.mem_of_getElem? hk)).1
theorem startD1 {w : World} {b : Nat} {cs : Array Value} (h : Blk w b cs) : ∀ c ds, (c, ds) ∈ [(b, cs)] → Blk w c ds := fun c ds hm => by simp at hm; obtain ⟨rfl, rfl⟩ := hm; exact h
theorem startD2 {w : World} {b b' : Nat} {cs cs' : Array Value} (h : Blk w b cs) (h' : Blk w b' cs') : ∀ c ds, (c, ds) ∈ [(b, cs), (b', cs')] → Blk w c ds := fun c ds hm => by
  simp at hm
  rcases hm with ⟨rfl, rfl⟩ | ⟨rfl, rfl⟩
  · exact h
  · exact h'
theorem SlAt.get1 {v : Value} {e : Option (Nat × Array Value)} {n b cap : Nat} {cs : Array Value} {f : Nat → Value} (h : SlAt 1 v e n b cap cs f) (i : Nat) (hi : i < n) : cs[0 + i * 1]? = some (f i) := by
  have := h.get i (by omega); simpa using this
def OwnSl (size : Nat) (w : World) (n : Nat) (f : Nat → Value) (v : Value) (w' : World) : Prop := ∃ b cap cs, SlAt size v (some (b, cs)) n b cap cs f ∧ w.heap.size ≤ b ∧ Blk w' b cs
theorem OwnSl.of {size n k : Nat} {w w' : World} {L : Own} {D : Froz} {v : Value} {e : Option (Nat × Array Value)} {f g : Nat → Value} (hM : Mem w w' L D) (hk : L[k]? = some e) (h : Sl size v e n g) (he : ∀ b, v = b → v ≠ .slice none 0 0) (hf : ∀ i, i < n * size → g i = f i) : OwnSl size w n f v w' := by
  rcases h.congr hf with ⟨rfl, _⟩ | ⟨b, cap, cs, h⟩
  · exact absurd rfl (he _ rfl)
  · obtain rfl := h.ent
    exact ⟨b, cap, cs, h, hM.ge k hk, hM.row k hk⟩
def leadN (f : Nat → Int) (n : Nat) : Nat := ((List.range n).find? (fun i => f i != 0)).getD n
theorem Sl.empty (size b : Nat) (f : Nat → Value) : Sl size (.slice (some ⟨b, 0, none⟩) 0 0) (some (b, #[])) 0 f :=
  .inr ⟨b, 0, #[], ⟨rfl, rfl, Nat.le_refl _, Nat.zero_le _, by simp, fun i hi => by simp at hi⟩⟩
theorem OwnSl.pos {size n k : Nat} {w w' : World} {L : Own} {D : Froz} {v : Value} {e : Option (Nat × Array Value)} {f : Nat → Value} (hM : Mem w w' L D) (hk : L[k]? = some e) (h : Sl size v e n f) (hn : 0 < n) : OwnSl size w n f v w' := by
  obtain ⟨b, cap, cs, _, rfl, h⟩ := h.pos hn;exact ⟨b, cap, cs, h, hM.ge k hk, hM.row k hk⟩
end Go.Sw

namespace Go.Sw
open Go Go.RowKit
variable {P : Program}
/-! ### Calls that write into blocks that they are handed -/
def CallsX (P : Program) (X : List Nat) (f : FuncId) (args : Array Value) (w : World) (R : Value → World → Prop) : Prop :=
  Calls P f args w fun e w' => ∃ v, e = .returned v ∧ ExtX X w w' ∧ R v w'
section
variable {n : Nat} {F : List (Nat × Value)} {a : Act} {w : World} {d : Option Tmp} {t : TypeId} {pos : String} {af : Array Edge} {gd : Option (Nat × Bool)} {T T' : TypeId} {x y : Operand}
/-! ### Strings -/
end
end Go.Sw

namespace Go.Sw
open Go Go.RowKit
variable {P : Program}
section
variable {fn : Func} {a : Act} {w : World}
theorem fin0 {R : Ending → World → Prop} (hr : fn.results = #[]) (hd : a.defers = []) (h : R (.returned (.tuple #[])) w) : bodyPost P fn R .ret a w :=
  bodyPost_ret (by rw [results_eq, hr]; simp) hd h
theorem fin0n {R : Ending → World → Prop} (hr : fn.results = #[]) (hd : a.defers = []) (h : R (.returned (.tuple #[])) w) : bodyPost P fn R .normal a w := by
  have := fin0 (P := P) (R := R) hr hd h;exact this
end
end Go.Sw

namespace Go.Sw
open Go Go.RowKit
section
variable {p n q : Int} {T U : Nat → Nat → Nat → Nat} {f v : Nat → Nat} {M : Nat → Nat → Nat}
end
end Go.Sw

/-! Steps that follow one another, as one. -/
namespace Go.Sw
open Go Go.RowKit
variable {P : Program}
section
variable {ops : Array Oper} {Q : Exit → Act → World → Prop} {rest : List Oper} {n : Nat} {F : List (Nat × Value)} {a : Act} {w : World}
theorem mv {d : Nat} {x : Operand} {t : TypeId} {pos : String} {af : Array Edge} {v : Value} (hF : Fr n a F) (hx : look F x = some v) (hn : Nat.blt d n = true)
    (h : ∀ a', Fr n a' ((d, v) :: F) → wpList P ops Q rest a' w) : wpList P ops Q (⟨some d, .move x, t, pos, af, none⟩ :: rest) a w := st hF (g_move hF hx) hn h
theorem ag {d : Nat} {x : Operand} {t : TypeId} {pos : String} {af : Array Edge} {v : Value} (hF : Fr n a F) (hx : look F x = some v) (hn : Nat.blt d n = true)
    (h : ∀ a', Fr n a' ((d, v) :: F) → wpList P ops Q rest a' w) : wpList P ops Q (⟨some d, .assign x, t, pos, af, none⟩ :: rest) a w := st hF (g_assign hF hx) hn h
theorem sr {id : Nat} {l : List Oper} {y : Code} (h : wpList P l.toArray (Exit.then (fun a w => y.wp P Q a w) Q) l a w) : ((Code.region id l.toArray false).seq y).wp P Q a w := sq (wp_region_lit h)
theorem nt {K : Act → World → Prop} {Q' : Exit → Act → World → Prop} (h : K a w) : wpList P ops (Exit.then K Q') [] a w := h
theorem ns {id : Nat} {l : List Oper} {y : Code} {Q' : Exit → Act → World → Prop} (h : wpList P l.toArray (Exit.then (fun a w => y.wp P Q a w) Q) l a w) : wpList P ops (Exit.then (fun a w => ((Code.region id l.toArray false).seq y).wp P Q a w) Q') [] a w := sq (wp_region_lit h)
end
section
variable {X : List Nat} {w0 w : World} {D : Froz} {W : List Nat} {l : List Fact} {i : Nat} {L0 L : Own} {o : Oper} {a : Act} {n : Nat} {F : List (Nat × Value)} {d : Option Tmp} {x : Operand} {t : TypeId} {pos : String} {af : Array Edge} {gd : Option (Nat × Bool)} {v : Value}
theorem pmv (hS : Par X w0 D W L0 L w) (hi : l[i]? = some (.val v)) (hF : Fr n a F) (hx : look F x = some v) : Does P ⟨d, .move x, t, pos, af, gd⟩ a w (After (Par X w0 D W L0) (factsOf l) i L w) := par_val hS hi (g_move hF hx)
end
theorem sz0 : (∀ n f, (fnC n f).size = n) ∧ (∀ p n T f, (algC p n T f).size = 224) ∧ (∀ v, (vecC v).size = 6) ∧ (∀ T, (tabC T).size = 216) ∧ (∀ M, (planeC M).size = 36) :=
  ⟨fnC_size, fun _ _ _ _ => cells_size, fun _ => vecC_size, fun _ => tabC_size, fun _ => planeC_size⟩
end Go.Sw

namespace Go.Sw
open Go Go.RowKit Go.ChangeShapes Go.WideShapes
/-! ### Arguments that are made of integers alone: structs and arrays by value -/
def flatT (P : Program) : Nat → TypeId → Bool
  | 0, _ => false
  | n + 1, t => match P.underlying t with
    | some (.int _) => true
    | some (.array _ e) => flatT P n e
    | some (.struct fs) => fs.toList.all (fun f => flatT P n f.type)
    | _ => false
section
variable {H : Type} {enc : TypeId × Value → H} {P : Program}
def kindsFs (P : Program) (g : TypeId → Option (List IntKind)) : List Field → Nat → Option (List IntKind)
  | [], _ => some []
  | f :: r, o => match g f.type with
    | some l => if f.offset = o ∧ l.length = P.cellsOf f.type then (kindsFs P g r (o + l.length)).map (l ++ ·) else none
    | none => none
def kindsT (P : Program) : Nat → TypeId → Option (List IntKind)
  | 0, _ => none
  | n + 1, t => match P.underlying t with
    | some (.int k) => some [k]
    | some (.array m e) => match kindsT P n e with
      | some l => if l.length = P.cellsOf e ∧ 0 < l.length then some (List.replicate m l).flatten else none
      | none => none
    | some (.struct fs) => kindsFs P (kindsT P n) fs.toList 0
    | _ => none
def KindsAt (ks : List IntKind) (cs : List Value) : Prop := ∀ (i : Nat) k, ks[i]? = some k → ∃ n, cs[i]? = some (.int k n) ∧ (Lit.int k n).wf = true
end
def getI : Option Value → Int
  | some (.int _ n) => n
  | _ => 0
theorem wf_i64 {n : Int} (h : (Lit.int .i64 n).wf = true) : -9223372036854775808 ≤ n ∧ n ≤ 9223372036854775807 := by
  simp only [Lit.wf, Bool.and_eq_true, decide_eq_true_eq] at h;have h1 : IntKind.i64.min = -9223372036854775808 := by decide
  have h2 : IntKind.i64.max = 9223372036854775807 := by decide
  omega
def algKs : List IntKind := .i64 :: .i64 :: List.replicate 222 .u8
def vecKs : List IntKind := List.replicate 6 .u8
section
variable {H : Type} {enc : TypeId × Value → H} {P : Program} {w w' : World} {base base' : Nat} {spare spare' : Nat → Bool} {held held' : Bool} {t : TypeId} {v : Value} {d : DataW H} {p : List MemPlace}
end
end Go.Sw
