/- Plain lemmas of a small calculus for walks over frames and own memory; no statement of the seat is proved here. -/
import Derived.Test.YtbjikeillgcahaaSw38
import Derived.StringKeys
import Derived.Test.YtbjikeillgcahaaEch6
import Derived.Test.YtbjikeillgcahaaSw22
import Derived.Test.YtbjikeillgcahaaSw21
import Derived.Test.YtbjikeillgcahaaSw9
import Derived.ChangeSlices
import Derived.ShutString
import Derived.JoinedOf
import Derived.KernelRfl
set_option linter.unusedVariables false
set_option linter.unusedSimpArgs false
namespace Go.Sw
open Go Go.RowKit
/-! ### Maps of the call's own with texts as keys -/
section
variable {P : Program} {n : Nat} {F : List (Nat × Value)} {a : Act} {w w0 : World} {d : Option Tmp} {t T kt et : TypeId} {pos : String} {af : Array Edge} {gd : Option (Nat × Bool)} {x y z : Operand} {X : List Nat} {L : Own} {D : Froz}
theorem d_insertS {b c : Nat} {es : Array MapEntry} {s : ByteArray} {v : Value} (hk : P.underlying kt = some .string) (hT : P.underlying T = some (.map kt et)) (hM : MemX X w0 w L D) (hb : IsMap w b es c) (hge : w0.heap.size ≤ b) (hF : Fr n a F) (hx : look F x = some (.map (some b))) (hy : look F y = some (.string s)) (hz : look F z = some v)
    (hn : Instr.findNow .string (.string s) es.toList 0 = some none) :
    Does P ⟨d, .insert T x y z, t, pos, af, gd⟩ a w (fun _ w' => MemX X w0 w' L D ∧ IsMap w' b (es.push { key := .string s, val := v, born := c }) (c + 1)) :=
  ⟨fun Kk Q hkk => by
    have hlt : b < w.heap.size := (Array.getElem?_eq_some_iff.1 hb).1
    have hf : (Instr.findKey kt (.string s) es.toList).run P w = .ok none w := MapKept.run_findKey hk hn
    have hc : (Instr.checkKey false 10000 kt (.string s)).run P w = .ok () w := MapKept.run_checkKey hk (d := .string) (k := .string s) trivial false 9999
    have hr : (Instr.mapUpdate T (.map (some b)) (.string s) v).run P w = .ok () { w with heap := w.heap.setIfInBounds b (.map (es.push { key := .string s, val := v, born := c }) (c + 1)) } := by
      simp [Instr.mapUpdate, run_underlying hT, MapKept.run_getObj_map hb, hc, hf, MapKept.run_setObj_map _ hb, Result.andThen]
    have h := hkk undef _ ⟨hM.setMap hb hge (.map (es.push { key := .string s, val := v, born := c }) (c + 1)), by unfold IsMap; show (w.heap.setIfInBounds b _)[b]? = _; simp [hlt]⟩
    unfold Oper.wp execOp
    simp [hF.eval hx, hF.eval hy, hF.eval hz, hr, Result.andThen]
    exact h⟩
theorem g_lookupS {b c i : Nat} {es : Array MapEntry} {s : ByteArray} {v : Value} (hk : P.underlying kt = some .string) (hT : P.underlying T = some (.map kt et)) (hb : IsMap w b es c) (hF : Fr n a F) (hx : look F x = some (.map (some b))) (hy : look F y = some (.string s)) (hn : Instr.findNow .string (.string s) es.toList 0 = some (some (i, v))) :
    Gives P ⟨d, .lookup T x y true, t, pos, af, gd⟩ a w (.tuple #[v, .bool true]) := by
  have hf : (Instr.findKey kt (.string s) es.toList).run P w = .ok (some (i, v)) w := MapKept.run_findKey hk hn;have hc : (Instr.checkKey es.isEmpty 10000 kt (.string s)).run P w = .ok () w := MapKept.run_checkKey hk (d := .string) (k := .string s) trivial es.isEmpty 9999;exact gives_of_run (by simp [execOp, Instr.lookup, run_underlying hT, hF.eval hx, hF.eval hy, MapKept.run_getObj_map hb, hc, hf, Result.andThen])
theorem g_lookupS0 {b c : Nat} {es : Array MapEntry} {s : ByteArray} {z0 : Value} (hk : P.underlying kt = some .string) (hT : P.underlying T = some (.map kt et)) (hz : zeroP P et = some z0) (hb : IsMap w b es c) (hF : Fr n a F) (hx : look F x = some (.map (some b))) (hy : look F y = some (.string s)) (hn : Instr.findNow .string (.string s) es.toList 0 = some none) :
    Gives P ⟨d, .lookup T x y true, t, pos, af, gd⟩ a w (.tuple #[z0, .bool false]) := by
  have hzr : (zeroValue et).run P w = .ok z0 w := by
    unfold zeroP at hz
    cases hi : P.info? et with
    | none => simp [hi] at hz
    | some i => simp [hi] at hz; simp [zeroValue, typeInfo, hi, hz]
  have hf : (Instr.findKey kt (.string s) es.toList).run P w = .ok none w := MapKept.run_findKey hk hn;have hc : (Instr.checkKey es.isEmpty 10000 kt (.string s)).run P w = .ok () w := MapKept.run_checkKey hk (d := .string) (k := .string s) trivial es.isEmpty 9999;exact gives_of_run (by simp [execOp, Instr.lookup, run_underlying hT, hF.eval hx, hF.eval hy, MapKept.run_getObj_map hb, hc, hf, hzr, Result.andThen])
end
end Go.Sw
namespace Go.Sw
open Go Go.RowKit
section
variable {P : Program} {n : Nat} {F : List (Nat × Value)} {a : Act} {w : World} {d : Option Tmp} {t T T' : TypeId} {pos : String} {af : Array Edge} {gd : Option (Nat × Bool)} {x y : Operand} {k : IntKind} {A B C : Int}
theorem g_xor (hF : Fr n a F) (hx : look F x = some (.int k A)) (hy : look F y = some (.int k B)) (hC : k.wrap (((A % 2 ^ k.bits).toNat ^^^ (B % 2 ^ k.bits).toNat : Nat) : Int) = C) : Gives P ⟨d, .binOp .xor T x y T', t, pos, af, gd⟩ a w (.int k C) :=
  gives_of_run (by simp [execOp, eqGuard_int, binOp, Op.intBits, hF.eval hx, hF.eval hy, hC])
end
theorem xor_nat4 {x y : Nat} (hx : x < 4) (hy : y < 4) : IntKind.i64.wrap ((((x : Int) % 2 ^ IntKind.i64.bits).toNat ^^^ ((y : Int) % 2 ^ IntKind.i64.bits).toNat : Nat) : Int) = ((x ^^^ y : Nat) : Int) := by
  have h : ∀ x : Nat, x < 4 → ∀ y : Nat, y < 4 → IntKind.i64.wrap ((((x : Int) % 2 ^ IntKind.i64.bits).toNat ^^^ ((y : Int) % 2 ^ IntKind.i64.bits).toNat : Nat) : Int) = ((x ^^^ y : Nat) : Int) := by decide
  exact h x hx y hy
theorem xor_lt4 {x y : Nat} (hx : x < 4) (hy : y < 4) : x ^^^ y < 4 := by
  have h : ∀ x : Nat, x < 4 → ∀ y : Nat, y < 4 → x ^^^ y < 4 := by decide
  exact h x hx y hy
end Go.Sw

namespace Go.Sw
open Go Go.RowKit
theorem grpC_setM {n : Int} {M : Nat → Nat → Nat} {o v : Nat} (i j : Nat) (h : o = 1 + i * 6 + j) (hi : i < 6) (hj : j < 6) : (grpC n M).setIfInBounds o (.int .u8 (v : Int)) = grpC n (fun a b => if a = i ∧ b = j then v else M a b) := by
  subst h;refine grpC_eq (by rw [Array.size_setIfInBounds, grpC_size]) ?_ ?_
  · rw [Array.getElem?_setIfInBounds_ne (by omega)]; exact grpC_n rfl
  · intro a b ha hb
    by_cases e : a = i ∧ b = j
    · obtain ⟨rfl, rfl⟩ := e
      rw [if_pos ⟨rfl, rfl⟩, Array.getElem?_setIfInBounds_self_of_lt (by rw [grpC_size]; omega)]
    · rw [if_neg e, Array.getElem?_setIfInBounds_ne (by omega)]; exact grpC_M a b rfl ha hb
end Go.Sw

namespace Go.Sw
open Go Go.RowKit
variable {P : Program}
/-! ### A door: a deferred closure that recovers. -/
section
variable {ops : Array Oper} {Q : Exit → Act → World → Prop} {rest : List Oper} {n : Nat} {F : List (Nat × Value)} {a : Act} {w : World} {d : Option Tmp} {t : TypeId} {pos : String} {af : Array Edge} {gd : Option (Nat × Bool)}
theorem d_callV {f : FuncId} {x : Operand} {cap : List Value} {xs : List Operand} {vs : List Value} {ats : Array TypeId} {R : Value → World → Prop} (hf : ∀ args w, (callFunc f args).run P w = .ok (.enter f args) w) (hF : Fr n a F) (hfx : look F x = some (.func (.func f) #[] cap.toArray)) (hx : looks F xs vs) (hc : CallsR P f (vs ++ cap).toArray w R) :
    Does P ⟨d, .call { callee := .value x, args := xs.toArray, argTypes := ats }, t, pos, af, gd⟩ a w (fun u w' => Ext w w' ∧ R u w') :=
  ⟨fun K Q hk => by
    have hrun : (execOp a.eval ⟨d, .call { callee := .value x, args := xs.toArray, argTypes := ats }, t, pos, af, gd⟩).run P w = .ok (.enter f (vs ++ cap).toArray) w := by
      have e : (xs.toArray.map a.eval) = vs.toArray := by rw [← hF.evals hx]; simp
      simp [execOp, resolve, hF.eval hfx, Deferred.ofValue, invoke, e, hf]
    unfold Oper.wp
    rw [hrun]
    show Calls P f (vs ++ cap).toArray w _
    exact Calls.mono (show Calls P f (vs ++ cap).toArray w _ from hc) fun e w' ⟨v, he, h1, h2⟩ => by subst he; exact hk v w' ⟨h1, h2⟩⟩
def okA (tm : Array Value) : List (Nat × Value) → Prop
  | [] => True
  | (t, v) :: r => tm.getD t undef = v ∧ okA tm r
def Clo (P : Program) (f b : Nat) (u : FrameMode) (w : World) (c : Value) : Prop :=
  CallsD P f #[ptr b 0] u w fun e u' w' => (∃ v, e = .returned v) ∧ settle u' = .returning ∧ ExtX [b] w w' ∧ Blk w' b #[c]
end
end Go.Sw

namespace Go.Sw
open Go Go.RowKit
variable {P : Program}
/-! ### Labels and jumps. -/
def Exit.goes (J : Nat → Act → World → Prop) (Q : Exit → Act → World → Prop) : Exit → Act → World → Prop
  | .goto l, a, w => J l a w
  | e, a, w => Q e a w
section
variable {Q : Exit → Act → World → Prop} {J : Nat → Act → World → Prop} {K : Act → World → Prop} {a : Act} {w : World}
theorem gG {l : Nat} (h : J l a w) : Exit.goes J Q (.goto l) a w := h
end
section
variable {n : Nat} {F : List (Nat × Value)} {a : Act} {w : World} {d : Option Tmp} {t T : TypeId} {pos : String} {af : Array Edge} {gd : Option (Nat × Bool)} {x : Operand}
end
theorem str_eq {s u : ByteArray} (h : s.toList = u.toList) : s = u := by
  have h2 : (s.toList == u.toList) = true := by rw [h]; simp
  exact ByteArray.ext (by simpa [ByteArray.toList_eq] using h2)
section
variable {P : Program} {fn : Func} {a : Act} {w : World}
end
end Go.Sw

namespace Go.Sw
open Go Go.RowKit
/-! ### Texts cut at a byte: the places of the byte, and what lies between them. -/
def bnd (s : ByteArray) (c : Nat) : Nat → List Nat
  | 0 => []
  | i + 1 => if byt s i = c then bnd s c i ++ [i] else bnd s c i
def cnt (s : ByteArray) (c i : Nat) : Nat := (bnd s c i).length
def sta (s : ByteArray) (c : Nat) : Nat → Nat
  | 0 => 0
  | i + 1 => if byt s i = c then i + 1 else sta s c i
def nSg (s : ByteArray) (c : Nat) : Nat := cnt s c s.size + 1
def sgB (s : ByteArray) (c k : Nat) : Nat := (bnd s c s.size ++ [s.size]).getD k s.size
def sgA (s : ByteArray) (c k : Nat) : Nat := if k = 0 then 0 else sgB s c (k - 1) + 1
def seg (s : ByteArray) (c k : Nat) : ByteArray := s.extract (sgA s c k) (sgB s c k)
section
variable {s : ByteArray} {c : Nat}
end
/-! ### Words of pieces. -/
def pcB (c : Nat) : Bool := decide (c = 105) || decide (c = 120) || decide (c = 109) || decide (c = 115) || decide (c = 117) || decide (c = 101)
def inL (c : Nat) : Nat := if c = 105 then 1 else if c = 120 then 2 else if c = 109 then 2 else if c = 115 then 1 else if c = 117 then 0 else if c = 101 then 1 else 0
def outL (c : Nat) : Nat := if c = 105 then 1 else if c = 120 then 2 else if c = 109 then 1 else if c = 115 then 2 else if c = 117 then 1 else 0
def eulL (c : Nat) : Int := if c = 117 then 1 else if c = 101 then 1 else if c = 109 then -1 else if c = 115 then -1 else 0
def inR (s : ByteArray) : Nat → Nat
  | 0 => 0
  | i + 1 => if byt s i = 47 then 0 else inR s i + inL (byt s i)
def outR (s : ByteArray) : Nat → Nat
  | 0 => 0
  | i + 1 => if byt s i = 47 then 0 else outR s i + outL (byt s i)
section
variable {s : ByteArray}
end
def layP (s : ByteArray) (b : Nat) : Prop := sta s 47 b < b ∧ inR s b ≤ 6 ∧ outR s b ≤ 6 ∧ (0 < sta s 47 b → inR s b = outR s (sta s 47 b - 1))
def isB (s : ByteArray) (b : Nat) : Prop := b = s.size ∨ (b < s.size ∧ byt s b = 47)
def WordP (s : ByteArray) : Prop := s.size ≤ 300 ∧ (∀ i, i < s.size → byt s i = 47 ∨ pcB (byt s i) = true) ∧ ∀ b, b ≤ s.size → isB s b → layP s b
end Go.Sw

namespace Go.Sw
open Go Go.RowKit
def layC (t : ByteArray) (a b : Int) : Array Value := #[.string t, .int .i64 a, .int .i64 b]
section
variable {t u : ByteArray} {a b x : Int} {q : Nat}
end
def layF (s : ByteArray) (q : Nat) : Value := if q % 3 = 0 then .string (seg s 47 (q / 3)) else if q % 3 = 1 then .int .i64 (inR s (sgB s 47 (q / 3)) : Int) else .int .i64 (outR s (sgB s 47 (q / 3)) : Int)
def segF (s : ByteArray) (c : Nat) (k : Nat) : Value := .string (seg s c k)
section
variable {s : ByteArray}
end
end Go.Sw

namespace Go.Sw
open Go Go.RowKit
def fitP (z a b k o : Nat) : Prop := 0 < z ∧ a ≤ 6 ∧ b ≤ 6 ∧ (0 < k → a = o)
instance (z a b k o : Nat) : Decidable (fitP z a b k o) := by unfold fitP; infer_instance
instance (s : ByteArray) (b : Nat) : Decidable (layP s b) := by unfold layP; infer_instance
section
variable {s : ByteArray}
end
end Go.Sw

namespace Go.Sw
open Go Go.RowKit Go.ChangeShapes Go.WideShapes Go.ChangeAt
section
variable {H : Type} {enc : TypeId × Value → H} {P : Program} {w : World} {base : Nat} {spare : Nat → Bool} {held : Bool}
theorem open_str {r : Go.Reach} {b0 : Nat} {t : TypeId} {v : Value} {d : DataW H} {ps : List MemPlace} (ht : P.underlying t = some .string) (hval : Value.okWide P w r b0 t v) (hd : DataW.Trod enc P w base spare held t v d ps) :
    ∃ s : ByteArray, v = .string s ∧ d = .lit (.string s.data.toList) ∧ ps = [] ∧ s.size ≤ maxLen := by
  obtain ⟨s, rfl⟩ := okWide_string ht hval;obtain ⟨fuel, hf⟩ := hd;obtain ⟨s', h, hx, hw⟩ := DataW.trod_string ht hf
  simp [Value.cells] at h
  subst h;simp only [Prod.mk.injEq] at hx;exact ⟨s, rfl, hx.1, hx.2, hw⟩
theorem shut_str {t : TypeId} {s : ByteArray} (ht : P.underlying t = some .string) (hw : s.size ≤ maxLen) : DataW.Trod enc P w base spare held t (.string s) (.lit (.string s.data.toList)) [] :=
  ⟨1, by simp [DataW.trod, Value.cells, ht, hw]⟩
end
end Go.Sw

namespace Go.Sw
theorem wordsSigns_nb : ∀ (c : Char) (r : List Char), c ≠ ' ' → wordsSigns (c :: r) = match wordsSigns r with
    | w :: ws => (c :: w) :: ws
    | [] => [[c]] := by
  intro c r h;rw [wordsSigns.eq_def]
  split
  · simp_all
  · rename_i heq; simp at heq; exact absurd heq.1 h
  · rename_i heq; simp only [List.cons.injEq] at heq; obtain ⟨rfl, rfl⟩ := heq; rfl
theorem wordsSigns_word : ∀ (w r : List Char), (∀ c ∈ w, c ≠ ' ') → wordsSigns (w ++ ' ' :: r) = w :: wordsSigns r
  | [], r, _ => by simp [wordsSigns]
  | c :: w, r, h => by
    rw [List.cons_append, wordsSigns_nb c _ (h c (by simp)), wordsSigns_word w r (fun d hd => h d (by simp [hd]))]
theorem sum_nb (s : List Char) (h : isSumSigns s = true) : ∀ c ∈ s, c ≠ ' ' := by
  intro c hc he
  unfold isSumSigns at h
  simp only [Bool.and_eq_true, List.all_eq_true] at h;have := h.2 c hc;subst he
  revert this; decide
theorem cutHead (L s r : List Char) (h : L = "harness".toList ++ ' ' :: (s ++ ' ' :: ("cut".toList ++ ' ' :: r))) (hs : isSumSigns s = true) :
    behindMainWord (wordsSigns L) = "cut".toList :: wordsSigns r := by
  rw [h, wordsSigns_word _ _ (by decide), wordsSigns_word _ _ (sum_nb s hs), wordsSigns_word _ _ (by decide)];have : ("harness".toList == "harness".toList || "harness".toList == "ownmain".toList) = true := by decide
  unfold behindMainWord
  show (if (("harness".toList == "harness".toList || "harness".toList == "ownmain".toList) && isSumSigns s) = true then _ else _) = _
  rw [if_pos (by rw [this, hs]; rfl)]
theorem strip_cut (R : List (List Char)) : stripLifts liftWords ("cut".toList :: R) = ([], "cut".toList :: R) := by
  kernel_rfl
theorem lifts_cut (P : Program) (R : List (List Char)) (h : behindMainWord (wordsSigns P.initOrder.toList) = "cut".toList :: R) : P.headLifts = [] := by
  unfold Program.headLifts; rw [h, strip_cut]; rfl
theorem make_cut (P : Program) (R : List (List Char)) (h : behindMainWord (wordsSigns P.initOrder.toList) = "cut".toList :: R) : P.make = some .cut := by
  unfold Program.make; rw [h]
  have h1 : ("cut".toList == "gc".toList || "cut".toList == "spec".toList) = false := by decide
  have h2 : ("cut".toList == "cut".toList) = true := by decide
  simp only [h1, h2]; rfl
theorem final_cut (P : Program) (R : List (List Char)) (h : behindMainWord (wordsSigns P.initOrder.toList) = "cut".toList :: R) : P.liftsFinal = false := by
  unfold Program.liftsFinal; rw [lifts_cut P R h, h]; kernel_rfl
theorem enter_cut (P : Program) (R : List (List Char)) (h : behindMainWord (wordsSigns P.initOrder.toList) = "cut".toList :: R)
    (hl : P.laysLater = false) (hb : P.bearsReflect = false) (hd : P.doorFits [] = true) : P.mayEnter = true := by
  unfold Program.mayEnter; rw [h]
  simp only [strip_cut, hl, hb, hd]
  kernel_rfl
end Go.Sw
