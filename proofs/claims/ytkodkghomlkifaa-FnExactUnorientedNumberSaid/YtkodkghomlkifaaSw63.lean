/- Plain lemmas of a small calculus for walks over frames and own memory; no statement of the seat is proved here. -/
import Derived.Test.YtkodkghomlkifaaSw14
import Derived.Recover
import Derived.Test.YtkodkghomlkifaaSw19
import Derived.Test.YtkodkghomlkifaaSw6
import Derived.Test.YtkodkghomlkifaaEch5
import Derived.Test.YtkodkghomlkifaaEch6
import Derived.Test.YtkodkghomlkifaaSw21
import Derived.Test.YtkodkghomlkifaaSw9
set_option linter.unusedVariables false
set_option linter.unusedSimpArgs false
namespace Go.Sw
open Go Go.RowKit
variable {P : Program}
/-! ### Deferred calls: what was laid before lies behind the frame. -/
def addD (ds : List Deferred) (a : Act) : Act := ⟨a.tmps, a.defers ++ ds⟩
section
variable {ds : List Deferred} {ops : Array Oper} {Q : Exit → Act → World → Prop} {n : Nat} {F : List (Nat × Value)} {a : Act} {w : World}
end
end Go.Sw

namespace Go.Sw
open Go Go.RowKit
variable {P : Program}
/-! ### A door: a deferred closure that recovers. -/
section
variable {ops : Array Oper} {Q : Exit → Act → World → Prop} {rest : List Oper} {n : Nat} {F : List (Nat × Value)} {a : Act} {w : World} {d : Option Tmp} {t : TypeId} {pos : String} {af : Array Edge} {gd : Option (Nat × Bool)}
theorem g_makeFunc {fn : Fn} {x : Operand} {v : Value} (hF : Fr n a F) (hx : look F x = some v) : Gives P ⟨d, .makeFunc fn #[] #[x], t, pos, af, gd⟩ a w (.func fn #[] #[v]) :=
  gives_of_run (by simp [execOp, Instr.makeFunc, hF.eval hx])
theorem d_callV {f : FuncId} {x : Operand} {cap : List Value} {xs : List Operand} {vs : List Value} {ats : Array TypeId} {R : Value → World → Prop} (hf : ∀ args w, (callFunc f args).run P w = .ok (.enter f args) w) (hF : Fr n a F) (hfx : look F x = some (.func (.func f) #[] cap.toArray)) (hx : looks F xs vs) (hc : CallsR P f (vs ++ cap).toArray w R) :
    Does P ⟨d, .call { callee := .value x, args := xs.toArray, argTypes := ats }, t, pos, af, gd⟩ a w (fun u w' => Ext w w' ∧ R u w') :=
  ⟨fun K Q hk => by
    have hrun : (execOp a.eval ⟨d, .call { callee := .value x, args := xs.toArray, argTypes := ats }, t, pos, af, gd⟩).run P w = .ok (.enter f (vs ++ cap).toArray) w := by
      have e : (xs.toArray.map a.eval) = vs.toArray := by rw [← hF.evals hx]; simp
      simp [execOp, resolve, hF.eval hfx, Deferred.ofValue, invoke, e, hf]
    unfold Oper.wp
    rw [hrun]
    show Calls P f (vs ++ cap).toArray w _
    exact Calls.mono (show Calls P f (vs ++ cap).toArray w _ from hc) fun e w' ⟨v, he, h1, h2⟩ => by subst he; exact hk v w' ⟨h1, h2⟩⟩
def okA (tm : Array Value) : List (Nat × Value) → Prop
  | [] => True
  | (t, v) :: r => tm.getD t undef = v ∧ okA tm r
def Clo (P : Program) (f b : Nat) (u : FrameMode) (w : World) (c : Value) : Prop :=
  CallsD P f #[ptr b 0] u w fun e u' w' => (∃ v, e = .returned v) ∧ settle u' = .returning ∧ ExtX [b] w w' ∧ Blk w' b #[c]
end
end Go.Sw

namespace Go.Sw
open Go Go.RowKit
variable {P : Program}
/-! ### Regions that draw their order, with guards (as Sw4, but an operation may be passed over). -/
section
variable {ops : List Oper} {Q : Exit → Act → World → Prop} {n : Nat} {F : List (Nat × Value)} {G : Type} {S : G → World → Prop}
def dstsOkQ (n : Nat) (F : List (Nat × Value)) : List Oper → List Nat → Bool
  | [], _ => true
  | o :: r, seen => (match o.dst with
    | some d => Nat.blt d n && (lk F d).isNone && !(memNat d seen) && dstsOkQ n F r (d :: seen)
    | none => false)

theorem dstsOkQ_spec : ∀ {l : List Oper} {seen : List Nat}, dstsOkQ n F l seen = true → ∀ (i : Nat) (o : Oper), l[i]? = some o → ∃ d, o.dst = some d ∧ d < n ∧ lk F d = none ∧ d ∉ seen ∧ (∀ (j : Nat) (o' : Oper), j < i → l[j]? = some o' → o'.dst ≠ some d)
  | [], _, _, i, o, h => by simp at h
  | x :: r, seen, hb, i, o, h => by
    simp only [dstsOkQ] at hb
    cases hx : x.dst with
    | none => simp [hx] at hb
    | some d =>
      simp only [hx, Bool.and_eq_true, Bool.not_eq_true', Option.isNone_iff_eq_none] at hb
      obtain ⟨⟨⟨h1, h2⟩, h3⟩, h4⟩ := hb
      cases i with
      | zero =>
        simp at h; subst h
        exact ⟨d, hx, Nat.blt_eq.mp h1, h2, (fun hm => by rw [memNat_iff.2 hm] at h3; cases h3), (fun j o' hj => by omega)⟩
      | succ i =>
        obtain ⟨d', g1, g2, g3, g4, g5⟩ := dstsOkQ_spec h4 i o (by simpa using h)
        refine ⟨d', g1, g2, g3, fun hm => g4 (List.mem_cons_of_mem _ hm), fun j o' hj ho' => ?_⟩
        cases j with
        | zero => simp at ho'; subst ho'; rw [hx]; intro e; obtain rfl := Option.some.inj e; exact g4 (List.mem_cons_self ..)
        | succ j => exact g5 j o' (by omega) (by simpa using ho')

def StepsQ {G : Type} (P : Program) (ops : List Oper) (k n : Nat) (F : List (Nat × Value)) (S : G → World → Prop) (φ : Facts G) : List Oper → Nat → Prop
  | [], _ => True
  | o :: r, i => (∀ a w g, Fr n a F → S g w → Deps ops k φ o g a w → if Region.wanted o (yielded ops.toArray a.tmps) = true then Does P o a w (After S φ i g w) else After S φ i g w undef w) ∧ StepsQ P ops k n F S φ r (i + 1)
theorem StepsQ.get {k : Nat} {φ : Facts G} : ∀ {l : List Oper} {i : Nat}, StepsQ P ops k n F S φ l i → ∀ (j : Nat) (o : Oper), l[j]? = some o →
    ∀ a w g, Fr n a F → S g w → Deps ops k φ o g a w → if Region.wanted o (yielded ops.toArray a.tmps) = true then Does P o a w (After S φ (i + j) g w) else After S φ (i + j) g w undef w
  | [], _, _, j, o, h => by simp at h
  | x :: r, i, hs, j, o, h => by
    cases j with
    | zero => simp at h; subst h; exact hs.1
    | succ j => have := hs.2.get j o (by simpa using h); rwa [show i + 1 + j = i + (j + 1) by omega] at this

theorem c_drawQ {id k : Nat} {a : Act} {w : World} (hm : P.follows .mixedOrders = true) (hk : tailOk ops k = true) (hF : Fr n a F) (hdst : dstsOkQ n F (ops.take k) [] = true) (g : G) (hS : S g w)
    (hdr : ∀ w, S g w → S g w.drew) (φ : Facts G)
    (hsteps : StepsQ P ops k n F S φ (ops.take k) 0)
    (hend : ∀ a w g, Fr n a F → S g w → (∀ i, i < k → i < ops.length → φ i g (a.tmps.getD (dstOf ops i) undef) w) → wpList P ops.toArray Q (ops.drop k) a w) :
    (Code.region id ops.toArray true).wp P Q a w := by
  refine wp_region_any hm ?_;simp only [tailOk, Bool.and_eq_true] at hk;obtain ⟨hback, htail⟩ := hk;have hge : ∀ (i : Nat), ops.toArray[i]? = ops[i]? := fun i => by simp
  have hreach : ∀ i j, k ≤ i → i < ops.length → j < i → Reach ops i j := fun i j h1 h2 h3 =>
    masks_spec ops [] (fun i => by simp) (fun m j h => by simp at h) i j (bitsFrom_spec htail i h1 h2 (by omega) j h3)
  have edge_listed : ∀ {i : Nat} {o : Oper} {listed : Array Bool} {j : Nat}, i ∈ Region.ready .any ops.toArray listed → ops[i]? = some o → edgeTo o j = true → listed.getD j false = true := by
    intro i o listed j hi ho he;obtain ⟨_, o', ho', hall⟩ := mem_ready.1 hi;rw [hge, ho] at ho';obtain rfl := Option.some.inj ho';simp only [edgeTo, List.any_eq_true, Bool.and_eq_true] at he;obtain ⟨e, hm', hb, hj⟩ := he;obtain rfl := Nat.eq_of_beq_eq_true hj;exact hall e (by simpa using hm') hb
  have reach_listed : ∀ {listed : Array Bool}, (∀ (j : Nat) o, ops[j]? = some o → listed.getD j false = true → ∀ e ∈ o.after, Region.binds .any e = true → listed.getD e.on false = true) → ∀ i j, Reach ops i j → (∀ o m, ops[i]? = some o → edgeTo o m = true → listed.getD m false = true) → listed.getD j false = true := by
    intro listed hcl i j hr
    induction hr with
    | one ho he => intro h; exact h _ _ ho he
    | more ho he _ ih =>
      intro h;have hm' := h _ _ ho he;refine ih (fun o m ho2 he2 => ?_);simp only [edgeTo, List.any_eq_true, Bool.and_eq_true] at he2;obtain ⟨e, hin, hb, hj⟩ := he2;obtain rfl := Nat.eq_of_beq_eq_true hj;exact hcl _ o ho2 hm' e (by simpa using hin) hb
  -- the tail
  have tail : ∀ (f m : Nat) (listed : Array Bool) (a : Act) (w : World), k ≤ m → ops.length - m ≤ f → (∀ j, j < m → j < ops.length → listed.getD j false = true) → (∀ j, m ≤ j → j < ops.length → listed.getD j true = false) →
      wpList P ops.toArray Q (ops.drop m) a w → wpAny P .any ops.toArray Q f listed a w := by
    intro f
    induction f with
    | zero =>
      intro m listed a w hkm hf h1 h2 h;rw [List.drop_eq_nil_of_le (by omega)] at h;refine ⟨?_, h⟩
      cases hr : Region.ready .any ops.toArray listed with
      | nil => rfl
      | cons i r =>
        obtain ⟨g1, o, ho, _⟩ := mem_ready.1 (hr ▸ List.mem_cons_self .. : i ∈ Region.ready .any ops.toArray listed);rw [hge] at ho;have hi := (List.getElem?_eq_some_iff.1 ho).1;have := h1 i (by omega) hi
        simp [Array.getD_eq_getD_getElem?] at this g1
        cases hh : listed[i]? <;> simp [hh] at this g1
        rw [this] at g1; cases g1
    | succ f ih =>
      intro m listed a w hkm hf h1 h2 h;have only : ∀ i ∈ Region.ready .any ops.toArray listed, i = m := by
        intro i hi;obtain ⟨g1, o, ho, hall⟩ := mem_ready.1 hi;have ho' := ho;rw [hge] at ho';have hil := (List.getElem?_eq_some_iff.1 ho').1
        by_cases hlt : i < m
        · have := h1 i hlt hil
          simp [Array.getD_eq_getD_getElem?] at this g1
          cases hh : listed[i]? <;> simp [hh] at this g1
          rw [this] at g1; cases g1
        · by_cases e : i = m
          · exact e
          · have := reach_listed (listed := listed) (fun j o hj hl e he hbnd => by
                have hjl := (List.getElem?_eq_some_iff.1 hj).1;have hjm : j < m := by
                  rcases Nat.lt_or_ge j m with h | h
                  · exact h
                  · have h3 := h2 j h hjl
                    simp [Array.getD_eq_getD_getElem?] at hl h3
                    cases hh : listed[j]? <;> simp [hh] at hl h3
                    rw [hl] at h3; cases h3
                have := edgesBack_spec hback j o hj e he hbnd;exact h1 e.on (by omega) (by omega)) i m (hreach i m (by omega) hil (by omega)) (fun o2 q ho2 he2 => by
                rw [ho'] at ho2; obtain rfl := Option.some.inj ho2; exact edge_listed hi ho' he2)
            have h3 := h2 m (Nat.le_refl _) (by omega)
            simp [Array.getD_eq_getD_getElem?] at this h3
            cases hh : listed[m]? <;> simp [hh] at this h3
            rw [this] at h3; cases h3
      refine ⟨fun hr => ?_, fun i hi => ?_⟩
      · by_cases hml : m < ops.length
        · exfalso
          have : m ∈ Region.ready .any ops.toArray listed := by
            refine mem_ready.2 ⟨h2 m (Nat.le_refl _) hml, ops[m], by simp [hml], fun e he hbnd => ?_⟩;have := edgesBack_spec hback m ops[m] (by simp [hml]) e he hbnd;exact h1 e.on (by omega) (by omega)
          rw [hr] at this; cases this
        · rw [List.drop_eq_nil_of_le (by omega)] at h; exact h
      · obtain rfl := only i hi
        obtain ⟨g1, o, ho, _⟩ := mem_ready.1 hi;rw [hge] at ho;have hil := (List.getElem?_eq_some_iff.1 ho).1;have hdrop : ops.drop i = o :: ops.drop (i + 1) := by
          rw [List.drop_eq_getElem_cons hil]; congr 1; exact (List.getElem?_eq_some_iff.1 ho).2
        rw [hdrop] at h;have K : ∀ a w, wpList P ops.toArray Q (ops.drop (i + 1)) a w → wpAny P .any ops.toArray Q f (listed.setIfInBounds i true) a w := by
          intro a w hh;refine ih (i + 1) _ a w (by omega) (by omega) (fun j hj hjl => ?_) (fun j hj hjl => ?_) hh
          · by_cases e : i = j
            · subst e
              have hsz : i < listed.size := by
                rcases Nat.lt_or_ge i listed.size with h' | h'
                · exact h'
                · simp [Array.getElem?_eq_none h'] at g1
              simp [hsz]
            · rw [getD_set_ne false e]; exact h1 j (by omega) hjl
          · rw [getD_set_ne true (by omega)]; exact h2 j (by omega) hjl
        unfold wpOp
        rw [hge, ho]
        unfold wpList at h
        show (if Region.wanted o (yielded ops.toArray a.tmps) then _ else _)
        split
        · rename_i hw
          rw [if_pos hw] at h;exact h.imp (Oper.wp_mono K) (fun x => x)
        · rename_i hw
          rw [if_neg hw] at h;exact K _ _ h
  -- the head
  have head : ∀ (f : Nat) (listed : Array Bool) (a : Act) (w : World) (g : G), listed.size = ops.length → (List.range ops.length).countP (fun i => !listed.getD i true) ≤ f → (∀ j, k ≤ j → j < ops.length → listed.getD j true = false) → (∀ (j : Nat) o, ops[j]? = some o → listed.getD j false = true → ∀ e ∈ o.after, Region.binds .any e = true → listed.getD e.on false = true) →
      Fr n a F → S g w → (∀ i, i < k → i < ops.length → listed.getD i false = true → φ i g (a.tmps.getD (dstOf ops i) undef) w) → wpAny P .any ops.toArray Q f listed a w := by
    intro f
    induction f with
    | zero =>
      intro listed a w g hsz hc h2 hcl hF hS hφ';have all : ∀ j, j < ops.length → listed.getD j true = true := by
        intro j hj;have h0 : (List.range ops.length).countP (fun i => !listed.getD i true) = 0 := by omega
        have := List.countP_eq_zero.1 h0 j (by simpa using hj)
        simpa using this
      have hlen : ops.length ≤ k := by
        rcases Nat.lt_or_ge k ops.length with h | h
        · have e1 := h2 k (Nat.le_refl _) h
          rw [all k h] at e1; cases e1
        · exact h
      refine tail 0 k listed a w (Nat.le_refl _) (by omega) (fun j _ hj => ?_) (fun j hj hjl => by omega) ?_
      · have := all j hj
        have hjs : j < listed.size := by omega
        simpa [Array.getD_eq_getD_getElem?, hjs] using this
      · refine hend a w g hF hS (fun i hi hil => hφ' i hi hil ?_)
        have := all i hil;have hjs : i < listed.size := by omega
        simpa [Array.getD_eq_getD_getElem?, hjs] using this
    | succ f ih =>
      intro listed a w g hsz hc h2 hcl hF hS hφ'
      by_cases all : ∀ j, j < k → j < ops.length → listed.getD j false = true
      · refine tail (f + 1) k listed a w (Nat.le_refl _) ?_ all h2 (hend a w g hF hS (fun i hi hil => hφ' i hi hil (all i hi hil)))
        -- as many are left as stand behind k
        have hge' : ∀ (m : Nat), m ≤ ops.length → m - k ≤ (List.range m).countP (fun i => !listed.getD i true) := by
          intro m
          induction m with
          | zero => intro _; simp
          | succ m ihm =>
            intro hm';have := ihm (by omega);rw [List.range_succ, List.countP_append]
            by_cases hkm : k ≤ m
            · have e1 := h2 m hkm (by omega)
              have e2 : List.countP (fun i => !listed.getD i true) [m] = 1 := by rw [List.countP_cons, e1]; rfl
              omega
            · omega
        have := hge' ops.length (Nat.le_refl _)
        omega
      · have step : ∀ i ∈ Region.ready .any ops.toArray listed, i < k := by
          intro i hi
          rcases Nat.lt_or_ge i k with h | h
          · exact h
          · exfalso
            obtain ⟨g1, o, ho, _⟩ := mem_ready.1 hi;rw [hge] at ho;have hil := (List.getElem?_eq_some_iff.1 ho).1;exact all (fun j hj hjl => reach_listed hcl i j (hreach i j h hil (by omega)) (fun o2 q ho2 he2 => by
              rw [ho] at ho2; obtain rfl := Option.some.inj ho2; exact edge_listed hi ho he2))
        refine ⟨fun hr => ?_, fun i hi => ?_⟩
        · exfalso
          apply all
          intro j
          induction j using Nat.strongRecOn with
          | _ j ihj =>
            intro hjk hjl
            cases hl : listed.getD j false with
            | true => rfl
            | false =>
              have hjs : j < listed.size := by omega
              have hm' : j ∈ Region.ready .any ops.toArray listed := by
                refine mem_ready.2 ⟨?_, ops[j], by simp [hjl], fun e he hbnd => ?_⟩
                · simpa [Array.getD_eq_getD_getElem?, hjs] using hl
                · have := edgesBack_spec hback j ops[j] (by simp [hjl]) e he hbnd
                  exact ihj e.on (by omega) (by omega) (by omega)
              rw [hr] at hm'; cases hm'
        · have hik := step i hi
          obtain ⟨g1, o, ho, hall'⟩ := mem_ready.1 hi;rw [hge] at ho;have hil := (List.getElem?_eq_some_iff.1 ho).1;have hti : (ops.take k)[i]? = some o := by rw [List.getElem?_take, if_pos hik]; exact ho
          obtain ⟨d, hd1, hd2, hd3, _, hd5⟩ := dstsOkQ_spec hdst i o hti;have hdo : dstOf ops i = d := by simp [dstOf, ho, hd1]
          have hdne : ∀ j, j < k → j < ops.length → j ≠ i → dstOf ops j ≠ d := by
            intro j hj hjl hne e;have hoj : ops[j]? = some ops[j] := by simp [hjl]
            have htj : (ops.take k)[j]? = some ops[j] := by rw [List.getElem?_take, if_pos hj]; exact hoj
            obtain ⟨d', e1, _, _, _, e5⟩ := dstsOkQ_spec hdst j ops[j] htj;have hdj : dstOf ops j = d' := by simp only [dstOf, hoj, Option.bind_some, e1, Option.getD_some]
            have hdd : d' = d := by rw [← hdj]; exact e
            subst hdd
            rcases Nat.lt_or_gt_of_ne hne with h | h
            · exact hd5 j ops[j] h htj e1
            · exact e5 i o h hti hd1
          have hdoes := StepsQ.get hsteps i o hti a w g hF hS (fun j hj he => by
            have hj' : j < k := Nat.blt_eq.mp hj;have hl := edge_listed hi ho he;have hjl : j < ops.length := by
              rcases Nat.lt_or_ge j listed.size with h | h
              · omega
              · simp [Array.getElem?_eq_none h] at hl
            exact hφ' j hj' hjl hl)
          unfold wpOp
          rw [hge, ho]
          show (if Region.wanted o (yielded ops.toArray a.tmps) then _ else _)
          simp only [Nat.zero_add] at hdoes;have cont : ∀ v w', After S φ i g w v w' → wpAny P .any ops.toArray Q f (listed.setIfInBounds i true) (a.put o.dst v) w' := by
            intro v w' hv;obtain ⟨g', hS', hvi, hothers⟩ := hv;have hF' : Fr n (a.put o.dst v) F := by
              rw [hd1];have := hF.put d v (Nat.blt_eq.mpr hd2);refine ⟨this.defers, this.size, fun t u ht => this.get t u ?_⟩;simp only [lk];have hne : ¬ d = t := fun e => by subst e; rw [hd3] at ht; cases ht
              rw [beqF hne]; exact ht
            refine ih _ _ _ g' (by simpa using hsz) ?_ (fun j hj hjl => ?_) (fun j oj hoj hl e he hb => ?_) hF' hS' (fun j hj hjl hl => ?_)
            · have : (List.range ops.length).countP (fun j => !(listed.setIfInBounds i true).getD j true) < (List.range ops.length).countP (fun j => !listed.getD j true) := by
                refine countP_lt (fun x hx => ?_) ⟨i, by simpa using hil, by simpa using g1, ?_⟩
                · by_cases e : i = x
                  · subst e; simp only [g1]; rfl
                  · rw [getD_set_ne true e] at hx; exact hx
                · have : i < listed.size := by omega
                  simp [this]
              omega
            · rw [getD_set_ne true (by omega)]; exact h2 j hj hjl
            · refine getD_set_true ?_
              by_cases ej : j = i
              · subst ej
                rw [ho] at hoj; obtain rfl := Option.some.inj hoj;exact hall' e he hb
              · rw [getD_set_ne false (Ne.symm ej)] at hl
                exact hcl j oj hoj hl e he hb
            · by_cases e : j = i
              · subst e
                rw [hd1, hdo];have : (a.put (some d) v).tmps.getD d undef = v := by simp [Act.put, hF.size, hd2]
                rw [this]; exact hvi
              · rw [getD_set_ne false (Ne.symm e)] at hl
                have hold := hothers j _ e (hφ' j hj hjl hl);have hdn := hdne j hj hjl e;rw [hd1];have : (a.put (some d) v).tmps.getD (dstOf ops j) undef = a.tmps.getD (dstOf ops j) undef := by
                  simp [Act.put, Array.getElem?_setIfInBounds_ne (Ne.symm hdn)]
                rw [this]; exact hold
          by_cases hw : Region.wanted o (yielded ops.toArray a.tmps) = true
          · rw [if_pos hw] at hdoes ⊢; exact .inl (hdoes.run _ _ cont)
          · rw [if_neg hw] at hdoes ⊢; exact cont _ _ hdoes
  refine head ops.toArray.size (Array.replicate ops.toArray.size false) a _ g (by simp) ?_ (fun j _ hj => by simp [hj]) (fun j o hj hl e he hbnd => by have hjl := (List.getElem?_eq_some_iff.1 hj).1; simp [hjl] at hl) hF (hdr _ hS) (fun i _ hi hl => by simp [hi] at hl)
  · have := List.countP_le_length (l := List.range ops.length) (p := fun i => !(Array.replicate ops.toArray.size false).getD i true)
    simpa using this
theorem q_none {o : Oper} {a : Act} {w : World} {S : G → World → Prop} {φ : Facts G} {i : Nat} {g : G} (hg : o.guard = none) (h : Does P o a w (After S φ i g w)) : if Region.wanted o (yielded ops.toArray a.tmps) = true then Does P o a w (After S φ i g w) else After S φ i g w undef w := by
  rw [if_pos (by simp [Region.wanted, hg])]; exact h
theorem q_yes {o : Oper} {a : Act} {w : World} {S : G → World → Prop} {φ : Facts G} {i j dj : Nat} {b : Bool} {g : G} {F' : List (Nat × Value)} (hg : o.guard = some (j, b)) (hF : Fr n a F') (hj : (ops.toArray[j]?).bind (·.dst) = some dj) (hjn : Nat.blt dj n = true) (hb : lk F' dj = some (.bool b)) (h : Does P o a w (After S φ i g w)) : if Region.wanted o (yielded ops.toArray a.tmps) = true then Does P o a w (After S φ i g w) else After S φ i g w undef w := by
  rw [if_pos (by simp [Region.wanted, hg, yielded_of hF hj hjn hb])]; exact h
theorem q_no {o : Oper} {a : Act} {w : World} {S : G → World → Prop} {φ : Facts G} {i j dj : Nat} {b c : Bool} {g : G} {F' : List (Nat × Value)} (hg : o.guard = some (j, c)) (hF : Fr n a F') (hj : (ops.toArray[j]?).bind (·.dst) = some dj) (hjn : Nat.blt dj n = true) (hb : lk F' dj = some (.bool b)) (hbc : (b == c) = false) (h : After S φ i g w undef w) : if Region.wanted o (yielded ops.toArray a.tmps) = true then Does P o a w (After S φ i g w) else After S φ i g w undef w := by
  rw [if_neg (by simp [Region.wanted, hg, yielded_of hF hj hjn hb]; intro e; subst e; simp at hbc)]; exact h
end
theorem gives_eq {P : Program} {o : Oper} {a : Act} {w : World} {v v' : Value} (h : Gives P o a w v) (e : v = v') : Gives P o a w v' := e ▸ h
theorem c_parQ {P : Program} {ops : List Oper} {Q : Exit → Act → World → Prop} {n : Nat} {F : List (Nat × Value)} {X : List Nat} {w0 : World} {L0 : Own} {D : Froz} {id : Nat} {a : Act} {w : World} (k : Nat) (W : List Nat) (l : List Fact) (hm : P.follows .mixedOrders = true) (hk : tailOk ops k = true) (hF : Fr n a F) (hdst : dstsOkQ n F (ops.take k) [] = true) (hM : MemX X w0 w L0 D)
    (hsteps : StepsQ P ops k n F (Par X w0 D W L0) (factsOf l) (ops.take k) 0)
    (hend : ∀ a w L, Fr n a F → Par X w0 D W L0 L w → (∀ i, Nat.blt i k = true → Nat.blt i ops.length = true → factsOf l i L (a.tmps.getD (dstOf ops i) undef) w) → wpList P ops.toArray Q (ops.drop k) a w) :
    (Code.region id ops.toArray true).wp P Q a w :=
  c_drawQ (S := Par X w0 D W L0) hm hk hF hdst L0 ⟨hM, Same.refl _ _⟩ (fun _ h => ⟨h.1.ext (Below.drew (Below.refl _ _)), h.2⟩) (factsOf l) hsteps
    (fun a w L hF hS hq => hend a w L hF hS fun i h1 h2 => hq i (Nat.blt_eq.mp h1) (Nat.blt_eq.mp h2))
end Go.Sw

namespace Go.Sw
open Go Go.RowKit Go.ChangeShapes Go.WideShapes Go.ChangeAt
def ArgVs (w : World) (sl : Value) (m : Nat) (V : Nat → Nat → Nat) : Prop :=
  (∃ x c, sl = .slice x m c) ∧ (0 < m → ∃ b o c, sl = .slice (some ⟨b, o, none⟩) m c ∧ ∀ i, i < m → ∀ j, j < 6 → w.cell? ⟨b, o + i * 6 + j, none⟩ = some (.int .u8 (V i j : Int)))
theorem ArgVs.ext {w w' : World} {sl : Value} {m : Nat} {V : Nat → Nat → Nat} (h : ArgVs w sl m V) (hx : Ext w w') : ArgVs w' sl m V :=
  ⟨h.1, fun hm => by obtain ⟨b, o, c, h1, h3⟩ := h.2 hm; exact ⟨b, o, c, h1, fun i hi j hj => cell_ext (h3 i hi j hj) hx⟩⟩
theorem ArgVs.one {w : World} {sl : Value} {m : Nat} {V : Nat → Nat → Nat} (h : ArgVs w sl m V) : sl.oneCell' = true := by
  obtain ⟨⟨x, c, rfl⟩, _⟩ := h; rfl
section
variable {P : Program} {n : Nat} {F : List (Nat × Value)} {a : Act} {w : World} {d : Option Tmp} {t : TypeId} {pos : String} {af : Array Edge} {gd : Option (Nat × Bool)} {x : Operand}
theorem g_loadCV {T : TypeId} {b o : Nat} {v : Nat → Nat} (hT : aggP P T = some 6) (hF : Fr n a F) (hx : look F x = some (ptr b o)) (hc : ∀ j, j < 6 → w.cell? ⟨b, o + j, none⟩ = some (.int .u8 (v j : Int))) : Gives P ⟨d, .load T x, t, pos, af, gd⟩ a w (.agg (vecC v)) := by
  have h1 := run_isAgg_agg hT w;have hl := run_loadCells_list (P := P) (w := w) ⟨b, o, none⟩ (vecC v).toList (fun j u hj => by
    rw [Addr.add_lit];have hj6 : j < 6 := by
      have := (List.getElem?_eq_some_iff.1 hj).1;rw [Array.length_toList, show (vecC v).size = 6 from fnC_size _ _] at this;exact this
    rw [hc j hj6];rw [Array.getElem?_toList, show (vecC v)[j]? = some (.int .u8 (v j : Int)) from fnC_get hj6] at hj;exact hj)
  have hlen : (vecC v).toList.length = 6 := by rw [Array.length_toList]; exact fnC_size _ _
  rw [hlen, Array.toArray_toList] at hl;have h2 : (loadVar T ⟨b, o, none⟩).run P w = .ok (.agg (vecC v)) w := by
    simp only [loadVar, Sem.run_bind, h1.1, Result.andThen_ok, if_true, h1.2, hl]
    rfl
  exact gives_of_run (by simp [execOp, Instr.loadAt, Instr.sureAddr, hF.eval hx, h2])
end
section
variable {H : Type} {enc : TypeId × Value → H} {P : Program} {w w' : World} {base : Nat} {spare : Nat → Bool} {held : Bool}
theorem cells?_get {a : Addr} {n : Nat} {cs : List Value} (h : w.cells? base a n = some cs) : cs.length = n ∧ ∀ i, i < n → w.cell? (a.add i) = cs[i]? := by
  unfold World.cells? at h
  split at h
  · have hl := mapM_some_length h
    rw [List.length_range] at hl;refine ⟨hl.symm ▸ rfl, fun i hi => ?_⟩;have := mapM_some_get h i i (by rw [List.getElem?_range hi]);exact this
  · cases h
theorem argv_of_trod {t e : TypeId} {m0 fuel : Nat} {v : Value} {y : DataW H × List MemPlace} (ht : P.underlying t = some (.slice e)) (hk : kindsT P m0 e = some vecKs) (hc : P.cellsOf e = 6)
    (h : DataW.trod enc P w base spare held fuel t [v] = some y) : ∃ (m : Nat) (V : Nat → Nat → Nat), ArgVs w v m V ∧ m ≤ maxLen ∧ ∀ i c, V i c ≤ 255 := by
  rcases DataW.trod_slice ht h with ⟨e1, _⟩ | ⟨ad, len, cap, elems, rest, n, _, e1, _, hb, hl, hmx, hlen, hel, _, _⟩
  · simp only [List.cons.injEq, and_true] at e1
    subst e1;exact ⟨0, fun _ _ => 0, ⟨⟨none, 0, rfl⟩, fun h => absurd h (by omega)⟩, Nat.zero_le _, fun _ _ => Nat.zero_le _⟩
  · simp only [List.cons.injEq, and_true] at e1
    subst e1;have each : ∀ i, i < len → ∃ g : Nat → Nat, (∀ j, j < 6 → w.cell? ((ad.add (i * 6)).add j) = some (.int .u8 (g j : Int))) ∧ ∀ j, g j ≤ 255 := by
      intro i hi;have h1 := hel i hi;rw [hc] at h1;have hle : i < elems.length := by omega
      rw [List.getElem?_eq_getElem hle, Option.bind_eq_some_iff] at h1;obtain ⟨cs, hcs, hd⟩ := h1;obtain ⟨hl6, hg⟩ := cells?_get hcs;obtain ⟨g, e2, h2⟩ := cells_vec (cs := cs.toArray) (by simpa using hl6) (by simpa using trod_kinds m0 e _ hk n _ _ hd);refine ⟨g, fun j hj => ?_, h2⟩;rw [hg j hj];have e3 : cs = (vecC g).toList := by rw [← e2]
      rw [e3, Array.getElem?_toList];exact fnC_get hj
    obtain ⟨V, hV⟩ : ∃ V : Nat → Nat → Nat, ∀ i, i < len → (∀ j, j < 6 → w.cell? ((ad.add (i * 6)).add j) = some (.int .u8 (V i j : Int))) ∧ ∀ j, V i j ≤ 255 :=
      ⟨fun i => if hi : i < len then Classical.choose (each i hi) else fun _ => 0, fun i hi => by simp only [dif_pos hi]; exact Classical.choose_spec (each i hi)⟩
    refine ⟨len, fun i j => if i < len then V i j else 0, ⟨⟨some ad, cap, rfl⟩, fun hm => ?_⟩, Nat.le_trans hl hmx, fun i j => ?_⟩
    · have h0 := (hV 0 hm).1 0 (by omega)
      obtain ⟨b, o, s⟩ := ad;have hs : s = none := by
        cases s with
        | none => rfl
        | some s =>
          have := World.cell?_spot h0
          simp [Addr.add] at this
      subst hs;refine ⟨b, o, cap, rfl, fun i hi j hj => ?_⟩;have hi' := (hV i hi).1 j hj;rw [Addr.add_lit, Addr.add_lit] at hi';simp only [hi', if_pos hi]
    · dsimp only
      split
      · rename_i hi
        exact (hV i hi).2 j
      · exact Nat.zero_le _
end
section
variable {H : Type} {enc : TypeId × Value → H} {P : Program} {w : World} {base : Nat} {spare : Nat → Bool} {held : Bool}
theorem open_vecs {r : Go.Reach} {b0 : Nat} {t e : TypeId} {m0 : Nat} {v : Value} {d : DataW H} {p : List MemPlace} (ht : P.underlying t = some (.slice e)) (hk : kindsT P m0 e = some vecKs) (hc : P.cellsOf e = 6)
    (hv : Value.okWide P w r b0 t v) (h : DataW.Trod enc P w base spare held t v d p) : ∃ (m : Nat) (V : Nat → Nat → Nat), ArgVs w v m V ∧ m ≤ maxLen ∧ ∀ i c, V i c ≤ 255 := by
  obtain ⟨a, l, c, rfl⟩ := okWide_slice ht hv;obtain ⟨fuel, h⟩ := h;exact argv_of_trod ht hk hc h
end
theorem vecsC_congr {m : Nat} {V V' : Nat → Nat → Nat} (h : ∀ i, i < m → ∀ c, c < 6 → V i c = V' i c) : vecsC m V = vecsC m V' :=
  fnC_congr fun c hc => by rw [h (c / 6) (by omega) (c % 6) (by omega)]
theorem vecsC_put {m o : Nat} {V V' : Nat → Nat → Nat} {v : Nat → Nat} (i : Nat) (ho : o = i * 6) (hi : i < m) (h : ∀ r, r < m → ∀ c, c < 6 → V' r c = if r = i then v c else V r c) : splice (vecsC m V) o (vecC v) = vecsC m V' := by
  subst ho;have hv : (vecC v).size = 6 := fnC_size _ _;have hs : i * 6 + (vecC v).size ≤ (vecsC m V).size := by rw [hv, vecsC_size]; omega
  refine fnC_ext (by rw [splice_size _ _ _ hs, vecsC_size]) fun c hc => ?_;rw [splice_get _ _ _ _ hs, hv, h (c / 6) (by omega) (c % 6) (by omega)]
  by_cases e : c / 6 = i
  · rw [if_pos ⟨by omega, by omega⟩, if_pos e]
    show (vecC v)[c - i * 6]? = _
    rw [show c % 6 = c - i * 6 by omega];exact fnC_get (by omega)
  · rw [if_neg (by omega), if_neg e]
    exact fnC_get hc
section
variable {P : Program} {X : List Nat} {w0 w : World} {L : Own} {D : Froz} {n : Nat} {F : List (Nat × Value)} {a : Act} {d : Option Tmp} {T : TypeId} {t : TypeId} {pos : String} {af : Array Edge} {gd : Option (Nat × Bool)} {x y : Operand}
theorem d_makeVs {len by' : Nat} {e : TypeId} (k : Nat) (hM : MemX X w0 w L D) (hF : Fr n a F) (hT : slI P T = some (e, some (.agg (vecC fun _ => 0)), 6, by')) (hx : look F x = some (.int .i64 (len : Int))) (hy : look F y = some (.int .i64 (len : Int))) (hl : len < 10000000) (hb : by' < 1000) :
    Does P ⟨d, .makeSlice T x y, t, pos, af, gd⟩ a w (fun u w' => ∃ b, u = .slice (some ⟨b, 0, none⟩) len len ∧ MemX X w0 w' (L.set k (some (b, vecsC len fun _ _ => 0))) D ∧ Ext w w') :=
  ⟨fun K Q hk => by
    have := hk _ (w.alloc (.cells (vecsC len fun _ _ => 0) e)) ⟨w.heap.size, rfl, hM.fill (Ext.alloc _ _) k (Blk.new _ _ _) (Nat.le_refl _), Ext.alloc _ _⟩
    unfold slI at hT
    cases hu : P.underlying T with
    | none => simp [hu] at hT
    | some dd =>
      cases dd <;> simp [hu] at hT
      rename_i el
      obtain ⟨inf, hinf, rfl, hz0, hsz, hby⟩ := hT
      have hmul : inf.bytes * len ≤ 1000 * 10000000 := Nat.mul_le_mul (by omega) (by omega)
      have hmul2 : (inf.bytes : Int) * (len : Int) ≤ 281474976710656 := by
        have : ((inf.bytes * len : Nat) : Int) ≤ 281474976710656 := by omega
        rwa [Int.natCast_mul] at this
      have hrun := run_make (P := P) w T el inf (.agg (vecC fun _ => 0)) hu hinf hz0 .i64 .i64 (len : Int) (len : Int) (by omega) (Int.le_refl _) hmul2 (by omega);have ec : madeCells (Value.agg (vecC fun _ => 0)).cells (len * inf.size) = vecsC len fun _ _ => 0 := by
        rw [hsz];refine fnC_ext (size_madeCells _ _) fun i hi => ?_
        unfold madeCells
        rw [Array.getElem?_map, Array.getElem?_range, if_pos hi];have hs6 : (Value.agg (vecC fun _ => 0)).cells.size = 6 := fnC_size _ _;simp only [Option.map_some, hs6]
        congr 1
        have : (vecC fun _ => 0)[i % 6]? = some (.int .u8 ((0 : Nat) : Int)) := fnC_get (by omega)
        show (vecC fun _ => 0).getD (i % 6) _ = _
        rw [Array.getD_eq_getD_getElem?, this]
        rfl
      simp only [Int.toNat_natCast, ec] at hrun
      unfold Oper.wp execOp
      simp only [hF.eval hx, hF.eval hy, Sem.run_bind, hrun, Result.andThen_ok, Sem.run_pure];exact this⟩
end
end Go.Sw

namespace Go.Sw
open Go Go.RowKit Go.ChangeShapes Go.WideShapes Go.ChangeAt
def grpC (n : Int) (M : Nat → Nat → Nat) : Array Value := fnC 37 fun c => if c = 0 then .int .i64 n else .int .u8 (M ((c - 1) / 6) ((c - 1) % 6))
section
variable {n q : Int} {M N : Nat → Nat → Nat}
end
def grpKs : List IntKind := .i64 :: List.replicate 36 .u8
section
variable {H : Type} {enc : TypeId × Value → H} {P : Program} {w : World} {base : Nat} {spare : Nat → Bool} {held : Bool} {t : TypeId} {v : Value} {d : DataW H} {p : List MemPlace}
end
end Go.Sw

namespace Go.Sw
open Go Go.RowKit
def l4 (a b c d : Nat) (i : Nat) : Nat := match i with
  | 0 => a
  | 1 => b
  | 2 => c
  | _ => d
theorem tabC_putRow {T : Nat → Nat → Nat → Nat} {v : Nat → Nat} {o : Nat} (a b : Nat) (h : o = a * 36 + b * 6) (ha : a < 6) (hb : b < 6) : splice (tabC T) o (vecC v) = tabC (fun i j k => if i = a ∧ j = b then v k else T i j k) := by
  subst h;have hz : a * 36 + b * 6 + (vecC v).size ≤ (tabC T).size := by rw [vecC_size, tabC_size]; omega
  apply fnC_ext (by rw [splice_size _ _ _ hz, tabC_size])
  intro i hi;rw [splice_get _ _ _ _ hz, vecC_size]
  by_cases e : a * 36 + b * 6 ≤ i ∧ i < a * 36 + b * 6 + 6
  · rw [if_pos e, vecC_get (i - (a * 36 + b * 6)) rfl (by omega)]; dsimp only; rw [if_pos ⟨by omega, by omega⟩, show i - (a * 36 + b * 6) = i % 6 by omega]
  · rw [if_neg e, tabC_get (i / 36) (i / 6 % 6) (i % 6) (by omega) (by omega) (by omega) (by omega)]; dsimp only; rw [if_neg (by omega)]
theorem tabC_congr {T U : Nat → Nat → Nat → Nat} (h : ∀ i, i < 6 → ∀ j, j < 6 → ∀ k, k < 6 → T i j k = U i j k) : tabC T = tabC U := by
  unfold tabC
  exact fnC_congr fun c hc => by rw [h _ (by omega) _ (by omega) _ (by omega)]
theorem algC_congr {p n : Int} {T U : Nat → Nat → Nat → Nat} {f : Nat → Nat} (h : ∀ i, i < 6 → ∀ j, j < 6 → ∀ k, k < 6 → T i j k = U i j k) : algC p n T f = algC p n U f := by
  unfold algC
  refine fnC_congr fun c hc => ?_
  by_cases h0 : c = 0
  · rw [if_pos h0, if_pos h0]
  · rw [if_neg h0, if_neg h0]
    by_cases h1 : c = 1
    · rw [if_pos h1, if_pos h1]
    · rw [if_neg h1, if_neg h1]
      by_cases h2 : c < 218
      · rw [if_pos h2, if_pos h2, h _ (by omega) _ (by omega) _ (by omega)]
      · rw [if_neg h2, if_neg h2]
section
variable {P : Program} {n : Nat} {F : List (Nat × Value)} {a : Act} {w : World} {d : Option Tmp} {t : TypeId} {pos : String} {af : Array Edge} {gd : Option (Nat × Bool)}
end
end Go.Sw
