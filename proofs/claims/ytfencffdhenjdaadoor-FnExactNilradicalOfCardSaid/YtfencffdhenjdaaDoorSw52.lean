/- Plain lemmas of a small calculus for walks over frames and own memory; no statement of the seat is proved here. -/
import Derived.Test.YtfencffdhenjdaaDoorSw51
import Derived.Test.YtfencffdhenjdaaDoorSw18
set_option linter.unusedVariables false
set_option linter.unusedSimpArgs false
namespace Go.Sw
open Go Go.RowKit
variable {P : Program}
/-! ### A door: a deferred closure that recovers. -/
section
variable {ops : Array Oper} {Q : Exit → Act → World → Prop} {rest : List Oper} {n : Nat} {F : List (Nat × Value)} {a : Act} {w : World} {d : Option Tmp} {t : TypeId} {pos : String} {af : Array Edge} {gd : Option (Nat × Bool)}
theorem tP {M : Act → World → Prop} {c : List PanicEntry} (h : Q (.panic c) a w) : Exit.then M Q (.panic c) a w := h
theorem calls_frD {fn : Func} {f : FuncId} {c : Code} {R : Value → World → Prop} {N : Nat} (vs : List Value) (hf : P.funcs[f]? = some fn) (hb : fn.body = some c) (hN : fn.ntmps = N) (hn : Nat.ble vs.length N = true)
    (h : ∀ a, Fr N a (argF vs 0) → c.wp P (bodyPostD P fn (fun e w' => ∃ v, e = .returned v ∧ Ext w w' ∧ R v w')) a w) : CallsR P f vs.toArray w R := by
  subst hN
  exact calls_of_wp_defers hf hb (h _ (frameA vs rfl hn))
theorem g_makeFunc {fn : Fn} {x : Operand} {v : Value} (hF : Fr n a F) (hx : look F x = some v) : Gives P ⟨d, .makeFunc fn #[] #[x], t, pos, af, gd⟩ a w (.func fn #[] #[v]) :=
  gives_of_run (by simp [execOp, Instr.makeFunc, hF.eval hx])
theorem st_defer {fn : Fn} {cap : Array Value} {x : Operand} {ats : Array TypeId} (hF : Fr n a F) (hx : look F x = some (.func fn #[] cap))
    (h : ∀ a', Fr n a' F → wpList P ops Q rest (addD [{ target := .fn fn cap, args := #[] }] a') w) : wpList P ops Q (⟨none, .defer { callee := .value x, args := #[], argTypes := ats }, t, pos, af, none⟩ :: rest) a w :=
  wpList_plain rfl fun K hK => by
    have hrun : (execOp a.eval ⟨none, .defer { callee := .value x, args := #[], argTypes := ats }, t, pos, af, none⟩).run P w = .ok (.defer { target := .fn fn cap, args := #[] }) w := by
      simp [execOp, resolve, hF.eval hx, Deferred.ofValue]
    unfold Oper.wp
    rw [hrun]
    have h1 := hK _ _ (h a hF)
    have e : addD [{ target := .fn fn cap, args := #[] }] a = ({ a with defers := { target := .fn fn cap, args := #[] } :: a.defers } : Act) := by
      unfold addD; rw [hF.defers]; rfl
    rw [e] at h1
    exact h1
theorem st_panic {x : Operand} {T : TypeId} {v : Value} (hF : Fr n a F) (hx : look F x = some (.iface T v)) (h : Q (.panic [{ v := .iface T v, recovered := false }]) a w) : wpList P ops Q (⟨none, .panic x, t, pos, af, none⟩ :: rest) a w :=
  wpList_plain rfl fun K hK => by
    have hrun : (execOp a.eval ⟨none, .panic x, t, pos, af, none⟩).run P w = .halt (.panic (.iface T v)) w := by
      simp [execOp, Instr.panic, goPanic, hF.eval hx]
    unfold Oper.wp
    rw [hrun]
    exact h
theorem d_callV {f : FuncId} {x : Operand} {cap : List Value} {xs : List Operand} {vs : List Value} {ats : Array TypeId} {R : Value → World → Prop} (hf : ∀ args w, (callFunc f args).run P w = .ok (.enter f args) w) (hF : Fr n a F) (hfx : look F x = some (.func (.func f) #[] cap.toArray)) (hx : looks F xs vs) (hc : CallsR P f (vs ++ cap).toArray w R) :
    Does P ⟨d, .call { callee := .value x, args := xs.toArray, argTypes := ats }, t, pos, af, gd⟩ a w (fun u w' => Ext w w' ∧ R u w') :=
  ⟨fun K Q hk => by
    have hrun : (execOp a.eval ⟨d, .call { callee := .value x, args := xs.toArray, argTypes := ats }, t, pos, af, gd⟩).run P w = .ok (.enter f (vs ++ cap).toArray) w := by
      have e : (xs.toArray.map a.eval) = vs.toArray := by rw [← hF.evals hx]; simp
      simp [execOp, resolve, hF.eval hfx, Deferred.ofValue, invoke, e, hf]
    unfold Oper.wp
    rw [hrun]
    show Calls P f (vs ++ cap).toArray w _
    exact Calls.mono (show Calls P f (vs ++ cap).toArray w _ from hc) fun e w' ⟨v, he, h1, h2⟩ => by subst he; exact hk v w' ⟨h1, h2⟩⟩
theorem fin2D {fn : Func} {r s : ResultVar} {v u : Value} (hr : fn.results = #[r, s]) (h1 : resIs P a w r v) (h2 : resIs P a w s u) : (results fn a.tmps).run P w = .ok (.tuple #[v, u]) w := by
  rw [results_eq, hr]
  simp [resIs_run h1, resIs_run h2]
def okA (tm : Array Value) : List (Nat × Value) → Prop
  | [] => True
  | (t, v) :: r => tm.getD t undef = v ∧ okA tm r
theorem okA_get {tm : Array Value} : ∀ {F : List (Nat × Value)}, okA tm F → ∀ t v, lk F t = some v → tm.getD t undef = v
  | [], _, _, _, h => by cases h
  | (k, u) :: r, hs, t, v, h => by
    simp only [lk] at h
    by_cases e : k = t
    · subst e; simp at h; subst h; exact hs.1
    · rw [beqF e] at h; exact okA_get hs.2 t v h
theorem fr_lit {tm : Array Value} {F : List (Nat × Value)} (h : okA tm F) : Fr tm.size ⟨tm, []⟩ F := ⟨rfl, rfl, okA_get h⟩
theorem at_lit {l : List Oper} {tm : Array Value} {F : List (Nat × Value)} (h : ∀ a, Fr tm.size a F → wpList P ops Q l a w) (hk : okA tm F) : wpList P ops Q l ⟨tm, []⟩ w := h _ (fr_lit hk)
/-- What a deferred closure that writes one cell leaves. -/
def Clo (P : Program) (f b : Nat) (u : FrameMode) (w : World) (c : Value) : Prop :=
  CallsD P f #[ptr b 0] u w fun e u' w' => (∃ v, e = .returned v) ∧ settle u' = .returning ∧ ExtX [b] w w' ∧ Blk w' b #[c]
theorem door_end {fn : Func} {f b : Nat} {u : FrameMode} {c : Value} {R : Ending → World → Prop} (hu : u ≠ .run) (hf : ∀ args w, (callFunc f args).run P w = .ok (.enter f args) w) (hF : Fr n a F) (hc : Clo P f b u w c)
    (hres : ∀ w', ExtX [b] w w' → Blk w' b #[c] → ∃ v, (results fn a.tmps).run P w' = .ok v w' ∧ R (.returned v) w') :
    Leaves P fn (addD [{ target := .fn (.func f) #[ptr b 0], args := #[] }] a).tmps R (addD [{ target := .fn (.func f) #[ptr b 0], args := #[] }] a).defers u w := by
  have e : (addD [{ target := .fn (.func f) #[ptr b 0], args := #[] }] a).defers = [{ target := .fn (.func f) #[ptr b 0], args := #[] }] := by
    show a.defers ++ _ = _; rw [hF.defers]; rfl
  rw [e]
  refine leaves_cons hu (f := f) (args := #[ptr b 0]) (by simp [invoke, hf]) (hc.mono fun e u' w' ⟨⟨v, he⟩, hs, hx, hb⟩ => ?_)
  subst he
  show Leaves P fn _ R [] (settle u') w'
  rw [hs]
  exact hres w' hx hb
end
end Go.Sw
