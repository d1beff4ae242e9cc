/- Plain lemmas of a small calculus for walks over frames and own memory; no statement of the seat is proved here. -/
import Derived.Test.YtmgdigbkocligaaDoorSw74
import Derived.Test.YtmgdigbkocligaaDoorEch6
import Derived.ChangeVars
import Derived.LaidLaws
import Derived.Stop.LaidErr
import Derived.Test.YtmgdigbkocligaaDoorSw73
import Derived.Lib.LaidTab
import Derived.Test.YtmgdigbkocligaaDoorSw21
import Derived.Test.YtmgdigbkocligaaDoorSw9
import Derived.ChangeSlices
import Derived.ShutString
import Derived.JoinedOf
import Derived.KernelRfl
set_option linter.unusedVariables false
set_option linter.unusedSimpArgs false
namespace Go.Sw
open Go Go.RowKit
section
variable {P : Program} {n : Nat} {F : List (Nat × Value)} {a : Act} {w : World} {d : Option Tmp} {t T T' e : TypeId} {pos : String} {af : Array Edge} {gd : Option (Nat × Bool)} {x y : Operand} {ad : Addr} {l c : Nat}
/-! ### A list compared with nil -/
end
/-! ### Lists of lists that come to places of their own -/
theorem own_none {L : Own} {k : Nat} (h : L[k]? = some none) : L.set k none = L := by
  apply List.ext_getElem?
  intro i;rw [List.getElem?_set]
  split
  · rename_i e; subst e; rw [if_pos (List.getElem?_eq_some_iff.1 h).1, h]
  · rfl
/-! ### A region that draws its order, with lists that are made, one of two of them, and one append -/
inductive FactF where
  | val (v : Value)
  | own (cs : Array Value) (n : Nat)
  | two (c1 c2 : Array Value) (n1 n2 : Nat)
def FactF.sem : FactF → Froz → Value → Prop
  | .val v, _, u => u = v
  | .own cs n, D, u => ∃ b, u = .slice (some ⟨b, 0, none⟩) n n ∧ (b, cs) ∈ D
  | .two c1 c2 n1 n2, D, u => ∃ b b1 b2, u = .slice (some ⟨b, 0, none⟩) 2 2 ∧ (b, #[.slice (some ⟨b1, 0, none⟩) n1 n1, .slice (some ⟨b2, 0, none⟩) n2 n2]) ∈ D ∧ (b1, c1) ∈ D ∧ (b2, c2) ∈ D
theorem FactF.more {f : FactF} {D D' : Froz} {u : Value} (h : f.sem D u) (hs : ∀ x, x ∈ D → x ∈ D') : f.sem D' u := by
  cases f with
  | val v => exact h
  | own cs n => obtain ⟨b, h1, h2⟩ := h; exact ⟨b, h1, hs _ h2⟩
  | two c1 c2 n1 n2 => obtain ⟨b, b1, b2, h1, h2, h3, h4⟩ := h; exact ⟨b, b1, b2, h1, hs _ h2, hs _ h3, hs _ h4⟩
def factsF (l : List FactF) (s : Nat) : Facts (Froz × Option (Nat × Array Value) × Value) := fun i g u _ => match Nat.beq i s with
  | true => u = g.2.2
  | false => match l[i]? with
    | some f => f.sem g.1 u
    | none => True
def ParF (w0 : World) (D : Froz) (L0 : Own) (kr : Nat) (e0 : Option (Nat × Array Value)) (R : Froz → Option (Nat × Array Value) → Value → Prop) (b : Bool) (g : Froz × Option (Nat × Array Value) × Value) (w : World) : Prop :=
  Mem w0 w (L0.set kr g.2.1) (g.1 ++ D) ∧ (∀ x ds, (x, ds) ∈ g.1 → w0.heap.size ≤ x ∧ ∀ y es, (y, es) ∈ D → y ≠ x) ∧ (b = false → g.2.1 = e0) ∧ (b = true → R g.1 g.2.1 g.2.2)
section
variable {P : Program} {w0 w : World} {D : Froz} {L0 : Own} {kr s i k : Nat} {e0 : Option (Nat × Array Value)} {R : Froz → Option (Nat × Array Value) → Value → Prop} {b : Bool} {g : Froz × Option (Nat × Array Value) × Value} {l : List FactF} {o : Oper} {a : Act}
theorem ParF.drew (h : ParF w0 D L0 kr e0 R b g w) : ParF w0 D L0 kr e0 R b g w.drew := ⟨h.1.ext (Below.drew (Below.refl _ _)), h.2⟩
theorem ParF.mem (h : ParF w0 D L0 kr e0 R b g w) (hk : L0[kr]? = some none) : Mem w0 w L0 D := by
  have h1 := (h.1.drop kr).sub D (fun _ hx => List.mem_append_right _ hx)
  rwa [List.set_set, own_none hk] at h1
end
/-! ### Rows of three numbers -/
def tri3 (x y z : Int) (c : Nat) : Int := if c = 0 then x else if c = 1 then y else z
end Go.Sw

namespace Go.Sw
open Go Go.RowKit Go.ChangeShapes Go.WideShapes Go.ChangeAt
section
variable {H : Type} {enc : TypeId × Value → H} {P : Program} {w w' : World}
theorem var_lt {n : String} {g : Nat} {cs : Array Value} (hg : P.globalNamed n = some g) (h : w.var? P n = some cs) : g < w.heap.size := by
  unfold World.var? at h
  simp only [hg, Option.bind_some] at h
  by_cases hb : g < w.heap.size
  · exact hb
  · have hn : w.heap[g]? = none := by simp; omega
    simp [hn] at h
theorem var_ext {n : String} {g : Nat} {cs : Array Value} (hg : P.globalNamed n = some g) (h : w.var? P n = some cs) (hx : Ext w w') : w'.var? P n = some cs := by
  have hb := hx.block g (var_lt hg h)
  unfold World.var? at h ⊢
  simp only [hg, Option.bind_some] at h ⊢;rw [hb]; exact h
end
end Go.Sw

namespace Go.Sw
open Go Go.RowKit
section
variable {P : Program} {n : Nat} {F : List (Nat × Value)} {a : Act} {w : World} {d : Option Tmp} {t T T' : TypeId} {pos : String} {af : Array Edge} {gd : Option (Nat × Bool)} {x y : Operand} {ms : Array (String × TypeId)}
theorem run_equal_nilN {w : World} {t : TypeId} (ht : P.underlying t = some (.interface ms)) : (Op.equal t .nilIface .nilIface).run P w = .ok true w := by
  have h : ∀ d : Nat, (Op.equalIn (d + 1) t .nilIface .nilIface).run P w = .ok true w := fun d => by simp [Op.equalIn, run_underlying ht]
  simp [Op.equal, Op.maxDepth, h 9999]
theorem run_equal_nilI {w : World} {t tx : TypeId} {v : Value} (ht : P.underlying t = some (.interface ms)) : (Op.equal t (.iface tx v) .nilIface).run P w = .ok false w := by
  have h : ∀ d : Nat, (Op.equalIn (d + 1) t (.iface tx v) .nilIface).run P w = .ok false w := fun d => by simp [Op.equalIn, run_underlying ht]
  simp [Op.equal, Op.maxDepth, h 9999]
theorem g_neqNilN (ht : P.underlying T = some (.interface ms)) (hF : Fr n a F) (hx : look F x = some .nilIface) : Gives P ⟨d, .binOp .neq T x (.const .nilIface) T', t, pos, af, gd⟩ a w (.bool false) :=
  gives_of_run (by
    have hg : (eqGuard .neq T x (.const .nilIface) .nilIface .nilIface).run P w = .ok () w := by unfold eqGuard; simp
    have hc : a.eval (.const .nilIface) = .nilIface := rfl
    simp [execOp, hg, binOp, hF.eval hx, hc, run_equal_nilN ht])
theorem g_neqNilI {tx : TypeId} {v : Value} (ht : P.underlying T = some (.interface ms)) (hF : Fr n a F) (hx : look F x = some (.iface tx v)) : Gives P ⟨d, .binOp .neq T x (.const .nilIface) T', t, pos, af, gd⟩ a w (.bool true) :=
  gives_of_run (by
    have hg : (eqGuard .neq T x (.const .nilIface) (.iface tx v) .nilIface).run P w = .ok () w := by unfold eqGuard; simp
    have hc : a.eval (.const .nilIface) = .nilIface := rfl
    simp [execOp, hg, binOp, hF.eval hx, hc, run_equal_nilI ht])
end
section
variable {P : Program} {w w' : World}
theorem cell_lt {b : Nat} {v : Value} (h : w.cell? ⟨b, 0, none⟩ = some v) : b < w.heap.size := by
  apply Decidable.by_contra
  intro q;have hn : w.heap[b]? = none := by simp; omega
  simp [World.cell?, hn] at h
structure Tabs (P : Program) (w : World) (gm : Nat) : Prop where
  m : ∃ m, w.cell? ⟨gm, 0, none⟩ = some (.int .i64 m)
  syn : ∃ tp p, w.var? P "strconv.ErrSyntax" = some #[.iface tp p]
  rng : ∃ tp p, w.var? P "strconv.ErrRange" = some #[.iface tp p]
  pow : Lib.TabIs P w "internal/strconv.uint64pow10" .u64 Lib.pow10Tab
theorem Tabs.ext {gm g1 g2 g3 : Nat} (h1 : P.globalNamed "strconv.ErrSyntax" = some g1) (h2 : P.globalNamed "strconv.ErrRange" = some g2) (h3 : P.globalNamed "internal/strconv.uint64pow10" = some g3) (h : Tabs P w gm) (hx : Ext w w') : Tabs P w' gm := by
  obtain ⟨⟨m, hm⟩, ⟨tp, p, hs⟩, ⟨tq, q, hr⟩, hp⟩ := h;exact ⟨⟨m, by rw [World.cell?_of_block (w := w) (hx.block gm (cell_lt hm))]; exact hm⟩, ⟨tp, p, var_ext h1 hs hx⟩, ⟨tq, q, var_ext h2 hr hx⟩, var_ext h3 hp hx⟩
theorem ext_bytes (w : World) (e : TypeId) (s : ByteArray) : Ext w (Lib.bytesWorld w e s) := by
  refine ⟨rfl, rfl, rfl, ?_, fun k hk => Lib.bytesWorld_at_old w e s k hk⟩
  simp [Lib.bytesWorld, World.freeze, World.alloc, World.drew, -World.alloc_eq, -World.drew_eq]
theorem ext_drewN (w : World) : ∀ k, Ext w (w.drewN k) := fun k => ⟨rfl, rfl, rfl, Nat.le_refl _, fun _ _ => rfl⟩
theorem MemX.ext0 {L : Own} {D : Froz} (h : MemX [] w w' L D) : Ext w w' := ⟨h.bel.os, h.bel.tape, h.bel.output, h.bel.size, fun k hk => h.bel.block k hk (by simp)⟩
theorem parse_rng {l : List UInt8} {v : Int} (h : Go.Lib.parseIntB 64 l = .ok v) : -9223372036854775808 ≤ v ∧ v ≤ 9223372036854775807 := by
  cases l with
  | nil => cases h
  | cons c r =>
    simp only [Go.Lib.parseIntB] at h
    cases hu : Go.Lib.parseUintB 64 (if c.toNat = 43 ∨ c.toNat = 45 then r else c :: r)
    · rename_i u
      rw [hu] at h;simp only at h
      by_cases hn : c.toNat = 45
      · by_cases h2 : 2 ^ (64 - 1) < u
        · rw [if_neg (fun q => q.1 hn), if_pos ⟨hn, h2⟩] at h; cases h
        · rw [if_neg (fun q => q.1 hn), if_neg (fun q => h2 q.2), if_pos hn] at h
          injection h with h3; omega
      · by_cases h2 : 2 ^ (64 - 1) ≤ u
        · rw [if_pos ⟨hn, h2⟩] at h; cases h
        · rw [if_neg (fun q => h2 q.2), if_neg (fun q => hn q.1), if_neg hn] at h
          injection h with h3; omega
    · rw [hu] at h; cases h
    · rw [hu] at h; cases h
theorem neq_str {a b : ByteArray} : a.toList ≠ b.toList ↔ a ≠ b := ⟨fun h e => h (by rw [e]), fun h e => h (str_eq e)⟩
end
end Go.Sw

namespace Go.Sw
open Go Go.RowKit
theorem ownSl_split {w : World} {s : ByteArray} {c : UInt8} {t : TypeId} {v : Value} {w' : World} (hz : s.size < 10000000) (hv : v = .slice (some ⟨w.heap.size, 0, none⟩) (Go.Lib.countB s ⟨#[c]⟩ + 1) (Go.Lib.countB s ⟨#[c]⟩ + 1)) (hw : w' = w.alloc (.cells ((Go.Lib.splitB ⟨#[c]⟩ 0 (Go.Lib.countB s ⟨#[c]⟩) s).map Value.string).toArray t)) :
    Ext w w' ∧ OwnSl 1 w (nSg s c.toNat) (segF s c.toNat) v w' := by
  have hn : Go.Lib.countB s ⟨#[c]⟩ + 1 = nSg s c.toNat := by rw [countB_cnt]; rfl
  have hle := nSg_le (s := s) (c := c.toNat);rw [split_all, List.map_map] at hw;rw [hn] at hv;refine ⟨hw ▸ Ext.alloc _ _, w.heap.size, nSg s c.toNat, (List.map (Value.string ∘ fun k => seg s c.toNat k) (List.range (nSg s c.toNat))).toArray, ⟨hv, rfl, Nat.le_refl _, ?_, ?_, ?_⟩, Nat.le_refl _, ⟨t, ?_⟩⟩
  · unfold maxLen; omega
  · simp
  · intro i hi
    rw [Nat.mul_one] at hi
    simp [hi, segF]
  · rw [hw]; simp [World.alloc, -World.alloc_eq]
theorem split_seg1 {s : ByteArray} {k : Nat} {c : Nat} (hz : s.size < 10000000) (h : k < nSg s c) : (seg s c k).size < 10000000 := by have := seg_size h; omega
end Go.Sw

namespace Go.Sw
open Go Go.RowKit
def fitP (z a b k o : Nat) : Prop := 0 < z ∧ a ≤ 6 ∧ b ≤ 6 ∧ (0 < k → a = o)
instance (z a b k o : Nat) : Decidable (fitP z a b k o) := by unfold fitP; infer_instance
instance (s : ByteArray) (b : Nat) : Decidable (layP s b) := by unfold layP; infer_instance
section
variable {s : ByteArray}
end
end Go.Sw

namespace Go.Sw
open Go Go.RowKit Go.ChangeShapes Go.WideShapes Go.ChangeAt
section
variable {H : Type} {enc : TypeId × Value → H} {P : Program} {w : World} {base : Nat} {spare : Nat → Bool} {held : Bool}
theorem open_str {r : Go.Reach} {b0 : Nat} {t : TypeId} {v : Value} {d : DataW H} {ps : List MemPlace} (ht : P.underlying t = some .string) (hval : Value.okWide P w r b0 t v) (hd : DataW.Trod enc P w base spare held t v d ps) :
    ∃ s : ByteArray, v = .string s ∧ d = .lit (.string s.data.toList) ∧ ps = [] ∧ s.size ≤ maxLen := by
  obtain ⟨s, rfl⟩ := okWide_string ht hval;obtain ⟨fuel, hf⟩ := hd;obtain ⟨s', h, hx, hw⟩ := DataW.trod_string ht hf
  simp [Value.cells] at h
  subst h;simp only [Prod.mk.injEq] at hx;exact ⟨s, rfl, hx.1, hx.2, hw⟩
theorem shut_str {t : TypeId} {s : ByteArray} (ht : P.underlying t = some .string) (hw : s.size ≤ maxLen) : DataW.Trod enc P w base spare held t (.string s) (.lit (.string s.data.toList)) [] :=
  ⟨1, by simp [DataW.trod, Value.cells, ht, hw]⟩
end
end Go.Sw

namespace Go.Sw
theorem wordsSigns_nb : ∀ (c : Char) (r : List Char), c ≠ ' ' → wordsSigns (c :: r) = match wordsSigns r with
    | w :: ws => (c :: w) :: ws
    | [] => [[c]] := by
  intro c r h;rw [wordsSigns.eq_def]
  split
  · simp_all
  · rename_i heq; simp at heq; exact absurd heq.1 h
  · rename_i heq; simp only [List.cons.injEq] at heq; obtain ⟨rfl, rfl⟩ := heq; rfl
theorem wordsSigns_word : ∀ (w r : List Char), (∀ c ∈ w, c ≠ ' ') → wordsSigns (w ++ ' ' :: r) = w :: wordsSigns r
  | [], r, _ => by simp [wordsSigns]
  | c :: w, r, h => by
    rw [List.cons_append, wordsSigns_nb c _ (h c (by simp)), wordsSigns_word w r (fun d hd => h d (by simp [hd]))]
theorem sum_nb (s : List Char) (h : isSumSigns s = true) : ∀ c ∈ s, c ≠ ' ' := by
  intro c hc he
  unfold isSumSigns at h
  simp only [Bool.and_eq_true, List.all_eq_true] at h;have := h.2 c hc;subst he
  revert this; decide
theorem cutHead (L s r : List Char) (h : L = "harness".toList ++ ' ' :: (s ++ ' ' :: ("cut".toList ++ ' ' :: r))) (hs : isSumSigns s = true) :
    behindMainWord (wordsSigns L) = "cut".toList :: wordsSigns r := by
  rw [h, wordsSigns_word _ _ (by decide), wordsSigns_word _ _ (sum_nb s hs), wordsSigns_word _ _ (by decide)];have : ("harness".toList == "harness".toList || "harness".toList == "ownmain".toList) = true := by decide
  unfold behindMainWord
  show (if (("harness".toList == "harness".toList || "harness".toList == "ownmain".toList) && isSumSigns s) = true then _ else _) = _
  rw [if_pos (by rw [this, hs]; rfl)]
theorem strip_cut (R : List (List Char)) : stripLifts liftWords ("cut".toList :: R) = ([], "cut".toList :: R) := by
  kernel_rfl
theorem lifts_cut (P : Program) (R : List (List Char)) (h : behindMainWord (wordsSigns P.initOrder.toList) = "cut".toList :: R) : P.headLifts = [] := by
  unfold Program.headLifts; rw [h, strip_cut]; rfl
theorem make_cut (P : Program) (R : List (List Char)) (h : behindMainWord (wordsSigns P.initOrder.toList) = "cut".toList :: R) : P.make = some .cut := by
  unfold Program.make; rw [h]
  have h1 : ("cut".toList == "gc".toList || "cut".toList == "spec".toList) = false := by decide
  have h2 : ("cut".toList == "cut".toList) = true := by decide
  simp only [h1, h2]; rfl
theorem final_cut (P : Program) (R : List (List Char)) (h : behindMainWord (wordsSigns P.initOrder.toList) = "cut".toList :: R) : P.liftsFinal = false := by
  unfold Program.liftsFinal; rw [lifts_cut P R h, h]; kernel_rfl
theorem enter_cut (P : Program) (R : List (List Char)) (h : behindMainWord (wordsSigns P.initOrder.toList) = "cut".toList :: R)
    (hl : P.laysLater = false) (hb : P.bearsReflect = false) (hd : P.doorFits [] = true) : P.mayEnter = true := by
  unfold Program.mayEnter; rw [h]
  simp only [strip_cut, hl, hb, hd]
  kernel_rfl
end Go.Sw
