/- Plain lemmas of a small calculus for walks over frames and own memory; no statement of the seat is proved here. -/
import Derived.Test.YtfencffdhenjdaaDoorSw7
import Derived.ProofKit
import Derived.OpenShut
set_option linter.unusedVariables false
set_option linter.unusedSimpArgs false
namespace Go.Sw
open Go Go.RowKit
variable {P : Program}
/-! ### Calls that write into blocks that they are handed -/
def CallsX (P : Program) (X : List Nat) (f : FuncId) (args : Array Value) (w : World) (R : Value → World → Prop) : Prop :=
  Calls P f args w fun e w' => ∃ v, e = .returned v ∧ ExtX X w w' ∧ R v w'
theorem calls_frX {X : List Nat} {fn : Func} {w : World} {f : FuncId} {c : Code} {R : Value → World → Prop} {N : Nat} (vs : List Value) (hf : P.funcs[f]? = some fn) (hb : fn.body = some c) (hN : fn.ntmps = N) (hn : Nat.ble vs.length N = true)
    (h : ∀ a, Fr N a (argF vs 0) → c.wp P (bodyPost P fn (fun e w' => ∃ v, e = .returned v ∧ ExtX X w w' ∧ R v w')) a w) : CallsX P X f vs.toArray w R := by
  subst hN
  exact calls_of_wp hf hb (h _ (frameA vs rfl hn))
theorem MemX.startX1 {w : World} {b : Nat} {cs : Array Value} (n : Nat) (h : Blk w b cs) : MemX [b] w w (some (b, cs) :: List.replicate n none) [] := by
  have key : ∀ (k : Nat) c ds, (some (b, cs) :: List.replicate n none : Own)[k]? = some (some (c, ds)) → k = 0 ∧ c = b ∧ ds = cs := by
    intro k c ds hk
    cases k with
    | zero => simp at hk; exact ⟨rfl, hk.1.symm, hk.2.symm⟩
    | succ k => simp [List.getElem?_replicate] at hk
  refine ⟨ExtX.refl _ w, fun k c ds hk => ?_, fun k j c ds es hk hj => ?_, fun c ds hm => by cases hm⟩
  · obtain ⟨_, rfl, rfl⟩ := key k c ds hk; exact ⟨.inr (List.mem_cons_self ..), h⟩
  · rw [(key k c ds hk).1, (key j c es hj).1]
theorem MemX.upd {X : List Nat} {w0 w w' : World} {L : Own} {D : Froz} (h : MemX X w0 w L D) (k : Nat) {b : Nat} {cs cs' : Array Value} (hk : L[k]? = some (some (b, cs))) (hx : ExtX [b] w w') (hb : Blk w' b cs') : MemX X w0 w' (L.set k (some (b, cs'))) D := by
  have hkl : k < L.length := (List.getElem?_eq_some_iff.1 hk).1
  have hbb := h.blk k b cs hk
  have other : ∀ {c ds}, Blk w c ds → c ≠ b → Blk w' c ds := fun {c ds} hc hne => by
    obtain ⟨t, hc'⟩ := hc
    exact ⟨t, (hx.block c (Blk.lt ⟨t, hc'⟩) (by simpa using hne)).trans hc'⟩
  refine ⟨⟨hx.os.trans h.bel.os, hx.tape.trans h.bel.tape, hx.output.trans h.bel.output, Nat.le_trans h.bel.size hx.size, fun i hi hix => ?_⟩, fun j c ds hj => ?_, fun i j c es ds hi hj => ?_, fun c ds hm => ⟨?_, fun j e es hj => ?_⟩⟩
  · have hne : i ≠ b := by
      rintro rfl
      rcases hbb.1 with e | e
      · omega
      · exact hix e
    exact (hx.block i (Nat.lt_of_lt_of_le hi h.bel.size) (by simpa using hne)).trans (h.bel.block i hi hix)
  · rw [List.getElem?_set] at hj
    by_cases e : k = j
    · subst e
      simp [hkl] at hj
      obtain ⟨rfl, rfl⟩ := hj
      exact ⟨hbb.1, hb⟩
    · rw [if_neg e] at hj
      have hc := h.blk j c ds hj
      exact ⟨hc.1, other hc.2 (fun ecb => by subst ecb; exact e (h.apart k j c _ _ hk hj))⟩
  · rw [List.getElem?_set] at hi hj
    by_cases e1 : k = i
    · subst e1
      simp [hkl] at hi
      obtain ⟨rfl, rfl⟩ := hi
      by_cases e2 : k = j
      · exact e2
      · rw [if_neg e2] at hj; exact h.apart k j _ _ _ hk hj
    · rw [if_neg e1] at hi
      by_cases e2 : k = j
      · subst e2
        simp [hkl] at hj
        obtain ⟨rfl, rfl⟩ := hj
        exact h.apart i k _ _ _ hi hk
      · rw [if_neg e2] at hj; exact h.apart i j _ _ _ hi hj
  · exact other (h.froz c ds hm).1 (fun e => (h.froz c ds hm).2 k b cs hk e.symm)
  · rw [List.getElem?_set] at hj
    by_cases e1 : k = j
    · subst e1
      simp [hkl] at hj
      obtain ⟨rfl, rfl⟩ := hj
      exact (h.froz c ds hm).2 k _ _ hk
    · rw [if_neg e1] at hj; exact (h.froz c ds hm).2 j e es hj
section
variable {n : Nat} {F : List (Nat × Value)} {a : Act} {w : World} {d : Option Tmp} {t : TypeId} {pos : String} {af : Array Edge} {gd : Option (Nat × Bool)} {T T' : TypeId} {x y : Operand}
theorem d_callX {X : List Nat} {f : FuncId} {xs : List Operand} {vs : List Value} {ats : Array TypeId} {R : Value → World → Prop} (hf : ∀ args w, (callFunc f args).run P w = .ok (.enter f args) w) (hF : Fr n a F) (hx : looks F xs vs) (hc : CallsX P X f vs.toArray w R) :
    Does P ⟨d, .call { callee := .value (.func f), args := xs.toArray, argTypes := ats }, t, pos, af, gd⟩ a w (fun u w' => ExtX X w w' ∧ R u w') :=
  ⟨fun K Q hk => by
    have hrun : (execOp a.eval ⟨d, .call { callee := .value (.func f), args := xs.toArray, argTypes := ats }, t, pos, af, gd⟩).run P w = .ok (.enter f vs.toArray) w := by
      have e : (xs.toArray.map a.eval) = vs.toArray := by rw [← hF.evals hx]; simp
      simp [execOp, resolve, Act.eval, Deferred.ofValue, invoke, e, hf]
    unfold Oper.wp
    rw [hrun]
    show Calls P f vs.toArray w _
    exact hc.mono fun e w' ⟨v, he, h1, h2⟩ => by subst he; exact hk v w' ⟨h1, h2⟩⟩
/-! ### Strings -/
end
end Go.Sw

namespace Go.Sw
open Go Go.RowKit Go.ChangeShapes Go.WideShapes Go.ChangeAt
variable {P : Program} {H : Type} {enc : TypeId × Value → H}
/-- What a call leaves that touches nothing that was there: the row's post. -/
theorem post_of_ext {f : Func} {s : ChangeSpec} {apart fresh handsOn again : Bool} {W W' : World} {args : Array Value} {v : Value} {ds gs : List (DataW H)} {before pa pv : List MemPlace}
    (hW : DataW.Whole enc P f.params.toList s.vars apart W args.toList ds gs before) (hx : Ext W W')
    (hres : ∀ (b : Nat) (sp : Nat → Bool) (hd : Bool), DataW.TrodAll enc P W' b sp hd f.resultTypes.toList (v.resultList f.resultTypes.size) (s.fn H (ds ++ gs)).results [])
    (hargs : ∀ sp : Nat → Bool, (∀ p ∈ before, sp p.block = true) → DataW.TrodAll enc P W' 0 sp true f.params.toList args.toList (s.fn H (ds ++ gs)).args pa)
    (hvars : ∀ sp : Nat → Bool, (∀ p ∈ before, sp p.block = true) → DataW.TrodVars enc P W' sp s.vars (s.fn H (ds ++ gs)).vars pv)
    (hps : before = pa ++ pv)
    (hok : ∀ (j : Nat) (t : TypeId) (r : Value), f.resultTypes[j]? = some t → (v.resultList f.resultTypes.size)[j]? = some r → Value.okWide P W' .any 0 t r) :
    s.post enc P f apart fresh handsOn again W args v W' := by
  have hlt : ∀ p ∈ before, p.block < W.heap.size := fun p hp => hW.lt p hp
  refine ⟨ds, gs, before, [], pa, pv, hW, hres _ _ _, hargs _ (fun p hp => by simpa using hlt p hp), hvars _ (fun p hp => by simpa using hlt p hp), Below.frame hx _, fun _ => ?_⟩
  obtain ⟨_, _, _, _, _, hz, hn⟩ := hW
  refine ⟨hok, _, _, ([] ++ pa) ++ pv, ⟨[] ++ pa, pv, trodAll_append (hargs _ (fun _ _ => rfl)) (hres _ _ _), hvars _ (fun _ _ => rfl), rfl, ?_, ?_⟩, ?_⟩
  · intro b off hp
    have hm : MemPlace.cell b off ∈ before := by rw [hps]; simpa using hp
    have hb : b < W.heap.size := hlt _ hm
    rw [Below.frozen hx (p := ⟨b, off, none⟩) hb]
    exact hz b off hm
  · intro ha
    have := hn ha
    rw [hps] at this
    simpa using this
  · intro p hp _
    rw [hps]; simpa using hp
theorem and_mk {a b : Bool} (ha : a = true) (hb : b = true) : (a && b) = true := by rw [ha, hb]; rfl
end Go.Sw
