/- Plain lemmas of a small calculus for walks over frames and own memory; no statement of the seat is proved here. -/
import Derived.Test.YtnedojhanlhjkaaSw6
import Derived.Test.YtnedojhanlhjkaaSw30
import Derived.Test.YtnedojhanlhjkaaSw45
import Derived.JoinedOf
import Derived.KernelRfl
set_option linter.unusedVariables false
set_option linter.unusedSimpArgs false
namespace Go.Sw
open Go Go.RowKit
variable {P : Program}
/-! ### Regions that draw their order, with guards (as Sw4, but an operation may be passed over). -/
section
variable {ops : List Oper} {Q : Exit → Act → World → Prop} {n : Nat} {F : List (Nat × Value)} {G : Type} {S : G → World → Prop}
def dstsOkQ (n : Nat) (F : List (Nat × Value)) : List Oper → List Nat → Bool
  | [], _ => true
  | o :: r, seen => (match o.dst with
    | some d => Nat.blt d n && (lk F d).isNone && !(memNat d seen) && dstsOkQ n F r (d :: seen)
    | none => false)

theorem dstsOkQ_spec : ∀ {l : List Oper} {seen : List Nat}, dstsOkQ n F l seen = true → ∀ (i : Nat) (o : Oper), l[i]? = some o → ∃ d, o.dst = some d ∧ d < n ∧ lk F d = none ∧ d ∉ seen ∧ (∀ (j : Nat) (o' : Oper), j < i → l[j]? = some o' → o'.dst ≠ some d)
  | [], _, _, i, o, h => by simp at h
  | x :: r, seen, hb, i, o, h => by
    simp only [dstsOkQ] at hb
    cases hx : x.dst with
    | none => simp [hx] at hb
    | some d =>
      simp only [hx, Bool.and_eq_true, Bool.not_eq_true', Option.isNone_iff_eq_none] at hb
      obtain ⟨⟨⟨h1, h2⟩, h3⟩, h4⟩ := hb
      cases i with
      | zero =>
        simp at h; subst h
        exact ⟨d, hx, Nat.blt_eq.mp h1, h2, (fun hm => by rw [memNat_iff.2 hm] at h3; cases h3), (fun j o' hj => by omega)⟩
      | succ i =>
        obtain ⟨d', g1, g2, g3, g4, g5⟩ := dstsOkQ_spec h4 i o (by simpa using h)
        refine ⟨d', g1, g2, g3, fun hm => g4 (List.mem_cons_of_mem _ hm), fun j o' hj ho' => ?_⟩
        cases j with
        | zero => simp at ho'; subst ho'; rw [hx]; intro e; obtain rfl := Option.some.inj e; exact g4 (List.mem_cons_self ..)
        | succ j => exact g5 j o' (by omega) (by simpa using ho')

def StepsQ {G : Type} (P : Program) (ops : List Oper) (k n : Nat) (F : List (Nat × Value)) (S : G → World → Prop) (φ : Facts G) : List Oper → Nat → Prop
  | [], _ => True
  | o :: r, i => (∀ a w g, Fr n a F → S g w → Deps ops k φ o g a w → if Region.wanted o (yielded ops.toArray a.tmps) = true then Does P o a w (After S φ i g w) else After S φ i g w undef w) ∧ StepsQ P ops k n F S φ r (i + 1)
theorem StepsQ.get {k : Nat} {φ : Facts G} : ∀ {l : List Oper} {i : Nat}, StepsQ P ops k n F S φ l i → ∀ (j : Nat) (o : Oper), l[j]? = some o →
    ∀ a w g, Fr n a F → S g w → Deps ops k φ o g a w → if Region.wanted o (yielded ops.toArray a.tmps) = true then Does P o a w (After S φ (i + j) g w) else After S φ (i + j) g w undef w
  | [], _, _, j, o, h => by simp at h
  | x :: r, i, hs, j, o, h => by
    cases j with
    | zero => simp at h; subst h; exact hs.1
    | succ j => have := hs.2.get j o (by simpa using h); rwa [show i + 1 + j = i + (j + 1) by omega] at this

theorem c_drawQ {id k : Nat} {a : Act} {w : World} (hm : P.follows .mixedOrders = true) (hk : tailOk ops k = true) (hF : Fr n a F) (hdst : dstsOkQ n F (ops.take k) [] = true) (g : G) (hS : S g w)
    (hdr : ∀ w, S g w → S g w.drew) (φ : Facts G)
    (hsteps : StepsQ P ops k n F S φ (ops.take k) 0)
    (hend : ∀ a w g, Fr n a F → S g w → (∀ i, i < k → i < ops.length → φ i g (a.tmps.getD (dstOf ops i) undef) w) → wpList P ops.toArray Q (ops.drop k) a w) :
    (Code.region id ops.toArray true).wp P Q a w := by
  refine wp_region_any hm ?_;simp only [tailOk, Bool.and_eq_true] at hk;obtain ⟨hback, htail⟩ := hk;have hge : ∀ (i : Nat), ops.toArray[i]? = ops[i]? := fun i => by simp
  have hreach : ∀ i j, k ≤ i → i < ops.length → j < i → Reach ops i j := fun i j h1 h2 h3 =>
    masks_spec ops [] (fun i => by simp) (fun m j h => by simp at h) i j (bitsFrom_spec htail i h1 h2 (by omega) j h3)
  have edge_listed : ∀ {i : Nat} {o : Oper} {listed : Array Bool} {j : Nat}, i ∈ Region.ready .any ops.toArray listed → ops[i]? = some o → edgeTo o j = true → listed.getD j false = true := by
    intro i o listed j hi ho he;obtain ⟨_, o', ho', hall⟩ := mem_ready.1 hi;rw [hge, ho] at ho';obtain rfl := Option.some.inj ho';simp only [edgeTo, List.any_eq_true, Bool.and_eq_true] at he;obtain ⟨e, hm', hb, hj⟩ := he;obtain rfl := Nat.eq_of_beq_eq_true hj;exact hall e (by simpa using hm') hb
  have reach_listed : ∀ {listed : Array Bool}, (∀ (j : Nat) o, ops[j]? = some o → listed.getD j false = true → ∀ e ∈ o.after, Region.binds .any e = true → listed.getD e.on false = true) → ∀ i j, Reach ops i j → (∀ o m, ops[i]? = some o → edgeTo o m = true → listed.getD m false = true) → listed.getD j false = true := by
    intro listed hcl i j hr
    induction hr with
    | one ho he => intro h; exact h _ _ ho he
    | more ho he _ ih =>
      intro h;have hm' := h _ _ ho he;refine ih (fun o m ho2 he2 => ?_);simp only [edgeTo, List.any_eq_true, Bool.and_eq_true] at he2;obtain ⟨e, hin, hb, hj⟩ := he2;obtain rfl := Nat.eq_of_beq_eq_true hj;exact hcl _ o ho2 hm' e (by simpa using hin) hb
  -- the tail
  have tail : ∀ (f m : Nat) (listed : Array Bool) (a : Act) (w : World), k ≤ m → ops.length - m ≤ f → (∀ j, j < m → j < ops.length → listed.getD j false = true) → (∀ j, m ≤ j → j < ops.length → listed.getD j true = false) →
      wpList P ops.toArray Q (ops.drop m) a w → wpAny P .any ops.toArray Q f listed a w := by
    intro f
    induction f with
    | zero =>
      intro m listed a w hkm hf h1 h2 h;rw [List.drop_eq_nil_of_le (by omega)] at h;refine ⟨?_, h⟩
      cases hr : Region.ready .any ops.toArray listed with
      | nil => rfl
      | cons i r =>
        obtain ⟨g1, o, ho, _⟩ := mem_ready.1 (hr ▸ List.mem_cons_self .. : i ∈ Region.ready .any ops.toArray listed);rw [hge] at ho;have hi := (List.getElem?_eq_some_iff.1 ho).1;have := h1 i (by omega) hi
        simp [Array.getD_eq_getD_getElem?] at this g1
        cases hh : listed[i]? <;> simp [hh] at this g1
        rw [this] at g1; cases g1
    | succ f ih =>
      intro m listed a w hkm hf h1 h2 h;have only : ∀ i ∈ Region.ready .any ops.toArray listed, i = m := by
        intro i hi;obtain ⟨g1, o, ho, hall⟩ := mem_ready.1 hi;have ho' := ho;rw [hge] at ho';have hil := (List.getElem?_eq_some_iff.1 ho').1
        by_cases hlt : i < m
        · have := h1 i hlt hil
          simp [Array.getD_eq_getD_getElem?] at this g1
          cases hh : listed[i]? <;> simp [hh] at this g1
          rw [this] at g1; cases g1
        · by_cases e : i = m
          · exact e
          · have := reach_listed (listed := listed) (fun j o hj hl e he hbnd => by
                have hjl := (List.getElem?_eq_some_iff.1 hj).1;have hjm : j < m := by
                  rcases Nat.lt_or_ge j m with h | h
                  · exact h
                  · have h3 := h2 j h hjl
                    simp [Array.getD_eq_getD_getElem?] at hl h3
                    cases hh : listed[j]? <;> simp [hh] at hl h3
                    rw [hl] at h3; cases h3
                have := edgesBack_spec hback j o hj e he hbnd;exact h1 e.on (by omega) (by omega)) i m (hreach i m (by omega) hil (by omega)) (fun o2 q ho2 he2 => by
                rw [ho'] at ho2; obtain rfl := Option.some.inj ho2; exact edge_listed hi ho' he2)
            have h3 := h2 m (Nat.le_refl _) (by omega)
            simp [Array.getD_eq_getD_getElem?] at this h3
            cases hh : listed[m]? <;> simp [hh] at this h3
            rw [this] at h3; cases h3
      refine ⟨fun hr => ?_, fun i hi => ?_⟩
      · by_cases hml : m < ops.length
        · exfalso
          have : m ∈ Region.ready .any ops.toArray listed := by
            refine mem_ready.2 ⟨h2 m (Nat.le_refl _) hml, ops[m], by simp [hml], fun e he hbnd => ?_⟩;have := edgesBack_spec hback m ops[m] (by simp [hml]) e he hbnd;exact h1 e.on (by omega) (by omega)
          rw [hr] at this; cases this
        · rw [List.drop_eq_nil_of_le (by omega)] at h; exact h
      · obtain rfl := only i hi
        obtain ⟨g1, o, ho, _⟩ := mem_ready.1 hi;rw [hge] at ho;have hil := (List.getElem?_eq_some_iff.1 ho).1;have hdrop : ops.drop i = o :: ops.drop (i + 1) := by
          rw [List.drop_eq_getElem_cons hil]; congr 1; exact (List.getElem?_eq_some_iff.1 ho).2
        rw [hdrop] at h;have K : ∀ a w, wpList P ops.toArray Q (ops.drop (i + 1)) a w → wpAny P .any ops.toArray Q f (listed.setIfInBounds i true) a w := by
          intro a w hh;refine ih (i + 1) _ a w (by omega) (by omega) (fun j hj hjl => ?_) (fun j hj hjl => ?_) hh
          · by_cases e : i = j
            · subst e
              have hsz : i < listed.size := by
                rcases Nat.lt_or_ge i listed.size with h' | h'
                · exact h'
                · simp [Array.getElem?_eq_none h'] at g1
              simp [hsz]
            · rw [getD_set_ne false e]; exact h1 j (by omega) hjl
          · rw [getD_set_ne true (by omega)]; exact h2 j (by omega) hjl
        unfold wpOp
        rw [hge, ho]
        unfold wpList at h
        show (if Region.wanted o (yielded ops.toArray a.tmps) then _ else _)
        split
        · rename_i hw
          rw [if_pos hw] at h;exact h.imp (Oper.wp_mono K) (fun x => x)
        · rename_i hw
          rw [if_neg hw] at h;exact K _ _ h
  -- the head
  have head : ∀ (f : Nat) (listed : Array Bool) (a : Act) (w : World) (g : G), listed.size = ops.length → (List.range ops.length).countP (fun i => !listed.getD i true) ≤ f → (∀ j, k ≤ j → j < ops.length → listed.getD j true = false) → (∀ (j : Nat) o, ops[j]? = some o → listed.getD j false = true → ∀ e ∈ o.after, Region.binds .any e = true → listed.getD e.on false = true) →
      Fr n a F → S g w → (∀ i, i < k → i < ops.length → listed.getD i false = true → φ i g (a.tmps.getD (dstOf ops i) undef) w) → wpAny P .any ops.toArray Q f listed a w := by
    intro f
    induction f with
    | zero =>
      intro listed a w g hsz hc h2 hcl hF hS hφ';have all : ∀ j, j < ops.length → listed.getD j true = true := by
        intro j hj;have h0 : (List.range ops.length).countP (fun i => !listed.getD i true) = 0 := by omega
        have := List.countP_eq_zero.1 h0 j (by simpa using hj)
        simpa using this
      have hlen : ops.length ≤ k := by
        rcases Nat.lt_or_ge k ops.length with h | h
        · have e1 := h2 k (Nat.le_refl _) h
          rw [all k h] at e1; cases e1
        · exact h
      refine tail 0 k listed a w (Nat.le_refl _) (by omega) (fun j _ hj => ?_) (fun j hj hjl => by omega) ?_
      · have := all j hj
        have hjs : j < listed.size := by omega
        simpa [Array.getD_eq_getD_getElem?, hjs] using this
      · refine hend a w g hF hS (fun i hi hil => hφ' i hi hil ?_)
        have := all i hil;have hjs : i < listed.size := by omega
        simpa [Array.getD_eq_getD_getElem?, hjs] using this
    | succ f ih =>
      intro listed a w g hsz hc h2 hcl hF hS hφ'
      by_cases all : ∀ j, j < k → j < ops.length → listed.getD j false = true
      · refine tail (f + 1) k listed a w (Nat.le_refl _) ?_ all h2 (hend a w g hF hS (fun i hi hil => hφ' i hi hil (all i hi hil)))
        -- as many are left as stand behind k
        have hge' : ∀ (m : Nat), m ≤ ops.length → m - k ≤ (List.range m).countP (fun i => !listed.getD i true) := by
          intro m
          induction m with
          | zero => intro _; simp
          | succ m ihm =>
            intro hm';have := ihm (by omega);rw [List.range_succ, List.countP_append]
            by_cases hkm : k ≤ m
            · have e1 := h2 m hkm (by omega)
              have e2 : List.countP (fun i => !listed.getD i true) [m] = 1 := by rw [List.countP_cons, e1]; rfl
              omega
            · omega
        have := hge' ops.length (Nat.le_refl _)
        omega
      · have step : ∀ i ∈ Region.ready .any ops.toArray listed, i < k := by
          intro i hi
          rcases Nat.lt_or_ge i k with h | h
          · exact h
          · exfalso
            obtain ⟨g1, o, ho, _⟩ := mem_ready.1 hi;rw [hge] at ho;have hil := (List.getElem?_eq_some_iff.1 ho).1;exact all (fun j hj hjl => reach_listed hcl i j (hreach i j h hil (by omega)) (fun o2 q ho2 he2 => by
              rw [ho] at ho2; obtain rfl := Option.some.inj ho2; exact edge_listed hi ho he2))
        refine ⟨fun hr => ?_, fun i hi => ?_⟩
        · exfalso
          apply all
          intro j
          induction j using Nat.strongRecOn with
          | _ j ihj =>
            intro hjk hjl
            cases hl : listed.getD j false with
            | true => rfl
            | false =>
              have hjs : j < listed.size := by omega
              have hm' : j ∈ Region.ready .any ops.toArray listed := by
                refine mem_ready.2 ⟨?_, ops[j], by simp [hjl], fun e he hbnd => ?_⟩
                · simpa [Array.getD_eq_getD_getElem?, hjs] using hl
                · have := edgesBack_spec hback j ops[j] (by simp [hjl]) e he hbnd
                  exact ihj e.on (by omega) (by omega) (by omega)
              rw [hr] at hm'; cases hm'
        · have hik := step i hi
          obtain ⟨g1, o, ho, hall'⟩ := mem_ready.1 hi;rw [hge] at ho;have hil := (List.getElem?_eq_some_iff.1 ho).1;have hti : (ops.take k)[i]? = some o := by rw [List.getElem?_take, if_pos hik]; exact ho
          obtain ⟨d, hd1, hd2, hd3, _, hd5⟩ := dstsOkQ_spec hdst i o hti;have hdo : dstOf ops i = d := by simp [dstOf, ho, hd1]
          have hdne : ∀ j, j < k → j < ops.length → j ≠ i → dstOf ops j ≠ d := by
            intro j hj hjl hne e;have hoj : ops[j]? = some ops[j] := by simp [hjl]
            have htj : (ops.take k)[j]? = some ops[j] := by rw [List.getElem?_take, if_pos hj]; exact hoj
            obtain ⟨d', e1, _, _, _, e5⟩ := dstsOkQ_spec hdst j ops[j] htj;have hdj : dstOf ops j = d' := by simp only [dstOf, hoj, Option.bind_some, e1, Option.getD_some]
            have hdd : d' = d := by rw [← hdj]; exact e
            subst hdd
            rcases Nat.lt_or_gt_of_ne hne with h | h
            · exact hd5 j ops[j] h htj e1
            · exact e5 i o h hti hd1
          have hdoes := StepsQ.get hsteps i o hti a w g hF hS (fun j hj he => by
            have hj' : j < k := Nat.blt_eq.mp hj;have hl := edge_listed hi ho he;have hjl : j < ops.length := by
              rcases Nat.lt_or_ge j listed.size with h | h
              · omega
              · simp [Array.getElem?_eq_none h] at hl
            exact hφ' j hj' hjl hl)
          unfold wpOp
          rw [hge, ho]
          show (if Region.wanted o (yielded ops.toArray a.tmps) then _ else _)
          simp only [Nat.zero_add] at hdoes;have cont : ∀ v w', After S φ i g w v w' → wpAny P .any ops.toArray Q f (listed.setIfInBounds i true) (a.put o.dst v) w' := by
            intro v w' hv;obtain ⟨g', hS', hvi, hothers⟩ := hv;have hF' : Fr n (a.put o.dst v) F := by
              rw [hd1];have := hF.put d v (Nat.blt_eq.mpr hd2);refine ⟨this.defers, this.size, fun t u ht => this.get t u ?_⟩;simp only [lk];have hne : ¬ d = t := fun e => by subst e; rw [hd3] at ht; cases ht
              rw [beqF hne]; exact ht
            refine ih _ _ _ g' (by simpa using hsz) ?_ (fun j hj hjl => ?_) (fun j oj hoj hl e he hb => ?_) hF' hS' (fun j hj hjl hl => ?_)
            · have : (List.range ops.length).countP (fun j => !(listed.setIfInBounds i true).getD j true) < (List.range ops.length).countP (fun j => !listed.getD j true) := by
                refine countP_lt (fun x hx => ?_) ⟨i, by simpa using hil, by simpa using g1, ?_⟩
                · by_cases e : i = x
                  · subst e; simp only [g1]; rfl
                  · rw [getD_set_ne true e] at hx; exact hx
                · have : i < listed.size := by omega
                  simp [this]
              omega
            · rw [getD_set_ne true (by omega)]; exact h2 j hj hjl
            · refine getD_set_true ?_
              by_cases ej : j = i
              · subst ej
                rw [ho] at hoj; obtain rfl := Option.some.inj hoj;exact hall' e he hb
              · rw [getD_set_ne false (Ne.symm ej)] at hl
                exact hcl j oj hoj hl e he hb
            · by_cases e : j = i
              · subst e
                rw [hd1, hdo];have : (a.put (some d) v).tmps.getD d undef = v := by simp [Act.put, hF.size, hd2]
                rw [this]; exact hvi
              · rw [getD_set_ne false (Ne.symm e)] at hl
                have hold := hothers j _ e (hφ' j hj hjl hl);have hdn := hdne j hj hjl e;rw [hd1];have : (a.put (some d) v).tmps.getD (dstOf ops j) undef = a.tmps.getD (dstOf ops j) undef := by
                  simp [Act.put, Array.getElem?_setIfInBounds_ne (Ne.symm hdn)]
                rw [this]; exact hold
          by_cases hw : Region.wanted o (yielded ops.toArray a.tmps) = true
          · rw [if_pos hw] at hdoes ⊢; exact .inl (hdoes.run _ _ cont)
          · rw [if_neg hw] at hdoes ⊢; exact cont _ _ hdoes
  refine head ops.toArray.size (Array.replicate ops.toArray.size false) a _ g (by simp) ?_ (fun j _ hj => by simp [hj]) (fun j o hj hl e he hbnd => by have hjl := (List.getElem?_eq_some_iff.1 hj).1; simp [hjl] at hl) hF (hdr _ hS) (fun i _ hi hl => by simp [hi] at hl)
  · have := List.countP_le_length (l := List.range ops.length) (p := fun i => !(Array.replicate ops.toArray.size false).getD i true)
    simpa using this
theorem q_none {o : Oper} {a : Act} {w : World} {S : G → World → Prop} {φ : Facts G} {i : Nat} {g : G} (hg : o.guard = none) (h : Does P o a w (After S φ i g w)) : if Region.wanted o (yielded ops.toArray a.tmps) = true then Does P o a w (After S φ i g w) else After S φ i g w undef w := by
  rw [if_pos (by simp [Region.wanted, hg])]; exact h
theorem q_yes {o : Oper} {a : Act} {w : World} {S : G → World → Prop} {φ : Facts G} {i j dj : Nat} {b : Bool} {g : G} {F' : List (Nat × Value)} (hg : o.guard = some (j, b)) (hF : Fr n a F') (hj : (ops.toArray[j]?).bind (·.dst) = some dj) (hjn : Nat.blt dj n = true) (hb : lk F' dj = some (.bool b)) (h : Does P o a w (After S φ i g w)) : if Region.wanted o (yielded ops.toArray a.tmps) = true then Does P o a w (After S φ i g w) else After S φ i g w undef w := by
  rw [if_pos (by simp [Region.wanted, hg, yielded_of hF hj hjn hb])]; exact h
theorem q_no {o : Oper} {a : Act} {w : World} {S : G → World → Prop} {φ : Facts G} {i j dj : Nat} {b c : Bool} {g : G} {F' : List (Nat × Value)} (hg : o.guard = some (j, c)) (hF : Fr n a F') (hj : (ops.toArray[j]?).bind (·.dst) = some dj) (hjn : Nat.blt dj n = true) (hb : lk F' dj = some (.bool b)) (hbc : (b == c) = false) (h : After S φ i g w undef w) : if Region.wanted o (yielded ops.toArray a.tmps) = true then Does P o a w (After S φ i g w) else After S φ i g w undef w := by
  rw [if_neg (by simp [Region.wanted, hg, yielded_of hF hj hjn hb]; intro e; subst e; simp at hbc)]; exact h
end
theorem gives_eq {P : Program} {o : Oper} {a : Act} {w : World} {v v' : Value} (h : Gives P o a w v) (e : v = v') : Gives P o a w v' := e ▸ h
theorem c_parQ {P : Program} {ops : List Oper} {Q : Exit → Act → World → Prop} {n : Nat} {F : List (Nat × Value)} {X : List Nat} {w0 : World} {L0 : Own} {D : Froz} {id : Nat} {a : Act} {w : World} (k : Nat) (W : List Nat) (l : List Fact) (hm : P.follows .mixedOrders = true) (hk : tailOk ops k = true) (hF : Fr n a F) (hdst : dstsOkQ n F (ops.take k) [] = true) (hM : MemX X w0 w L0 D)
    (hsteps : StepsQ P ops k n F (Par X w0 D W L0) (factsOf l) (ops.take k) 0)
    (hend : ∀ a w L, Fr n a F → Par X w0 D W L0 L w → (∀ i, Nat.blt i k = true → Nat.blt i ops.length = true → factsOf l i L (a.tmps.getD (dstOf ops i) undef) w) → wpList P ops.toArray Q (ops.drop k) a w) :
    (Code.region id ops.toArray true).wp P Q a w :=
  c_drawQ (S := Par X w0 D W L0) hm hk hF hdst L0 ⟨hM, Same.refl _ _⟩ (fun _ h => ⟨h.1.ext (Below.drew (Below.refl _ _)), h.2⟩) (factsOf l) hsteps
    (fun a w L hF hS hq => hend a w L hF hS fun i h1 h2 => hq i (Nat.blt_eq.mp h1) (Nat.blt_eq.mp h2))
end Go.Sw

namespace Go.Sw
open Go Go.RowKit Go.ChangeShapes Go.WideShapes Go.ChangeAt
def algE (p n : Int) (T : Nat → Nat → Nat → Nat) (f : Nat → Nat) (c : Nat) : Value :=
  if c = 0 then .int .i64 p else if c = 1 then .int .i64 n else if c < 218 then .int .u8 (T ((c - 2) / 36) ((c - 2) / 6 % 6) ((c - 2) % 6)) else .int .u8 (f (c - 218))
def pairC (p n : Int) (T : Nat → Nat → Nat → Nat) (f : Nat → Nat) (q m : Int) (U : Nat → Nat → Nat → Nat) (g : Nat → Nat) (Z : Nat → Nat → Nat) : Array Value :=
  fnC 484 fun c => if c < 224 then algE p n T f c else if c < 448 then algE q m U g (c - 224) else .int .u8 (Z ((c - 448) / 6) ((c - 448) % 6))
section
variable {p n q m p' n' : Int} {T U T' : Nat → Nat → Nat → Nat} {f g f' : Nat → Nat} {Z Z' : Nat → Nat → Nat}
theorem algC_algE {c : Nat} (h : c < 224) : (algC p n T f)[c]? = some (algE p n T f c) := fnC_get h
theorem algE_one (c : Nat) : (algE p n T f c).oneCell' = true := by
  unfold algE
  split
  · rfl
  · split
    · rfl
    · split <;> rfl
end
def pairKs : List IntKind := algKs ++ (algKs ++ List.replicate 36 .u8)
section
variable {H : Type} {enc : TypeId × Value → H} {P : Program} {w : World} {base : Nat} {spare : Nat → Bool} {held : Bool} {t : TypeId} {v : Value} {d : DataW H} {p : List MemPlace}
end
end Go.Sw

namespace Go.Sw
open Go Go.RowKit Go.ChangeShapes Go.WideShapes Go.ChangeAt
def deskC (p n : Int) (T : Nat → Nat → Nat → Nat) (f u v : Nat → Nat) (s : ByteArray) : Array Value :=
  fnC 237 fun c => if c < 224 then algE p n T f c else if c < 230 then .int .u8 (u (c - 224)) else if c < 236 then .int .u8 (v (c - 230)) else .string s
section
variable {p n p' n' : Int} {T T' : Nat → Nat → Nat → Nat} {f u v f' u' v' : Nat → Nat} {s s' : ByteArray}
theorem deskC_size : (deskC p n T f u v s).size = 237 := fnC_size _ _
theorem deskC_A {o : Nat} (h : o < 224) : (deskC p n T f u v s)[o]? = (algC p n T f)[o]? := by
  unfold deskC
  rw [fnC_get (by omega), if_pos h, algC_algE h]
theorem deskC_u {o : Nat} (i : Nat) (h : o = 224 + i) (hi : i < 6) : (deskC p n T f u v s)[o]? = some (.int .u8 (u i : Int)) := by
  subst h
  unfold deskC
  rw [fnC_get (by omega), if_neg (by omega), if_pos (by omega), show 224 + i - 224 = i by omega]
theorem deskC_v {o : Nat} (i : Nat) (h : o = 230 + i) (hi : i < 6) : (deskC p n T f u v s)[o]? = some (.int .u8 (v i : Int)) := by
  subst h
  unfold deskC
  rw [fnC_get (by omega), if_neg (by omega), if_neg (by omega), if_pos (by omega), show 230 + i - 230 = i by omega]
theorem deskC_s {o : Nat} (h : o = 236) : (deskC p n T f u v s)[o]? = some (.string s) := by
  subst h
  unfold deskC
  rw [fnC_get (by omega), if_neg (by omega), if_neg (by omega), if_neg (by omega)]
theorem deskC_alg {o e : Nat} (h : o = 0) (he : e = o + 224) : (deskC p n T f u v s).extract o e = algC p n T f := by
  subst h he
  apply Array.ext_getElem?
  intro i;rw [Array.getElem?_extract, deskC_size]
  by_cases hi : i < 224
  · rw [if_pos (by omega), Nat.zero_add]; exact deskC_A hi
  · rw [if_neg (by omega), Array.getElem?_eq_none (by rw [cells_size]; omega)]
theorem deskC_first {o e : Nat} (h : o = 224) (he : e = o + 6) : (deskC p n T f u v s).extract o e = vecC u := by
  subst h;exact extract_ext he (by rw [deskC_size]; omega) fun c hc => deskC_u c rfl hc
theorem deskC_second {o e : Nat} (h : o = 230) (he : e = o + 6) : (deskC p n T f u v s).extract o e = vecC v := by
  subst h;exact extract_ext he (by rw [deskC_size]; omega) fun c hc => deskC_v c rfl hc
theorem deskC_one : ∀ x ∈ (deskC p n T f u v s).toList, x.oneCell' = true := fnC_one fun i _ => by
  split
  · exact algE_one _
  · split
    · rfl
    · split <;> rfl
theorem deskC_eq {c : Array Value} (hs : c.size = 237) (hA : ∀ i, i < 224 → c[i]? = (algC p n T f)[i]?) (hU : ∀ i, i < 6 → c[224 + i]? = some (.int .u8 (u i : Int))) (hV : ∀ i, i < 6 → c[230 + i]? = some (.int .u8 (v i : Int))) (hS : c[236]? = some (.string s)) : c = deskC p n T f u v s := by
  apply Array.ext_getElem?
  intro i
  by_cases h1 : i < 224
  · rw [hA i h1, deskC_A h1]
  · by_cases h2 : i < 230
    · have e : i = 224 + (i - 224) := by omega
      rw [e, hU _ (by omega), deskC_u (i - 224) rfl (by omega)]
    · by_cases h3 : i < 236
      · have e : i = 230 + (i - 230) := by omega
        rw [e, hV _ (by omega), deskC_v (i - 230) rfl (by omega)]
      · by_cases h4 : i = 236
        · subst h4; rw [hS, deskC_s rfl]
        · rw [Array.getElem?_eq_none (by omega), Array.getElem?_eq_none (by rw [deskC_size]; omega)]
theorem deskC_putA {o : Nat} (h : o = 0) : splice (deskC p n T f u v s) o (algC p' n' T' f') = deskC p' n' T' f' u v s := by
  subst h;have hz : 0 + (algC p' n' T' f').size ≤ (deskC p n T f u v s).size := by rw [cells_size, deskC_size]; omega
  refine deskC_eq (by rw [splice_size _ _ _ hz, deskC_size]) ?_ ?_ ?_ ?_
  · intro i hi; rw [splice_get _ _ _ _ hz, cells_size, if_pos (by omega)]; rfl
  · intro i hi; rw [splice_get _ _ _ _ hz, cells_size, if_neg (by omega)]; exact deskC_u i rfl hi
  · intro i hi; rw [splice_get _ _ _ _ hz, cells_size, if_neg (by omega)]; exact deskC_v i rfl hi
  · rw [splice_get _ _ _ _ hz, cells_size, if_neg (by omega)]; exact deskC_s rfl
theorem deskC_putU {o : Nat} (h : o = 224) : splice (deskC p n T f u v s) o (vecC u') = deskC p n T f u' v s := by
  subst h;have hz : 224 + (vecC u').size ≤ (deskC p n T f u v s).size := by rw [vecC_size, deskC_size]; omega
  refine deskC_eq (by rw [splice_size _ _ _ hz, deskC_size]) ?_ ?_ ?_ ?_
  · intro i hi; rw [splice_get _ _ _ _ hz, vecC_size, if_neg (by omega)]; exact deskC_A hi
  · intro i hi; rw [splice_get _ _ _ _ hz, vecC_size, if_pos (by omega), show 224 + i - 224 = i by omega]; exact vecC_get i rfl hi
  · intro i hi; rw [splice_get _ _ _ _ hz, vecC_size, if_neg (by omega)]; exact deskC_v i rfl hi
  · rw [splice_get _ _ _ _ hz, vecC_size, if_neg (by omega)]; exact deskC_s rfl
theorem deskC_putV {o : Nat} (h : o = 230) : splice (deskC p n T f u v s) o (vecC u') = deskC p n T f u u' s := by
  subst h;have hz : 230 + (vecC u').size ≤ (deskC p n T f u v s).size := by rw [vecC_size, deskC_size]; omega
  refine deskC_eq (by rw [splice_size _ _ _ hz, deskC_size]) ?_ ?_ ?_ ?_
  · intro i hi; rw [splice_get _ _ _ _ hz, vecC_size, if_neg (by omega)]; exact deskC_A hi
  · intro i hi; rw [splice_get _ _ _ _ hz, vecC_size, if_neg (by omega)]; exact deskC_u i rfl hi
  · intro i hi; rw [splice_get _ _ _ _ hz, vecC_size, if_pos (by omega), show 230 + i - 230 = i by omega]; exact vecC_get i rfl hi
  · rw [splice_get _ _ _ _ hz, vecC_size, if_neg (by omega)]; exact deskC_s rfl
theorem deskC_putS {o : Nat} (h : o = 236) : (deskC p n T f u v s).setIfInBounds o (.string s') = deskC p n T f u v s' := by
  subst h;refine deskC_eq (by rw [Array.size_setIfInBounds, deskC_size]) ?_ ?_ ?_ ?_
  · intro i hi; rw [Array.getElem?_setIfInBounds_ne (by omega)]; exact deskC_A hi
  · intro i hi; rw [Array.getElem?_setIfInBounds_ne (by omega)]; exact deskC_u i rfl hi
  · intro i hi; rw [Array.getElem?_setIfInBounds_ne (by omega)]; exact deskC_v i rfl hi
  · exact Array.getElem?_setIfInBounds_self_of_lt (by rw [deskC_size]; omega)
end
end Go.Sw

namespace Go.Sw
open Go Go.RowKit Go.ChangeShapes Go.WideShapes Go.ChangeAt
/-! Arguments made of integers and texts. -/
def flatS (P : Program) : Nat → TypeId → Bool
  | 0, _ => false
  | n + 1, t => match P.underlying t with
    | some (.int _) => true
    | some .string => true
    | some (.array _ e) => flatS P n e
    | some (.struct fs) => fs.toList.all (fun f => flatS P n f.type)
    | _ => false
section
variable {H : Type} {enc : TypeId × Value → H} {P : Program}
theorem trod_flatS {w w' : World} {base base' : Nat} {spare spare' : Nat → Bool} {held held' : Bool} : ∀ (m : Nat) (t : TypeId), flatS P m t = true → ∀ (fuel : Nat) (cs : List Value),
    DataW.trod enc P w base spare held fuel t cs = DataW.trod enc P w' base' spare' held' fuel t cs
  | 0, _, h, _, _ => by simp [flatS] at h
  | m + 1, t, h, fuel, cs => by
    cases fuel with
    | zero => rfl
    | succ fuel =>
      simp only [flatS] at h
      unfold DataW.trod
      cases hu : P.underlying t with
      | none => rfl
      | some dd =>
        cases dd <;> simp only [hu] at h <;> first | cases h | skip
        · rcases cs with _ | ⟨v, _ | ⟨u, r⟩⟩
          · rfl
          · cases v <;> rfl
          · cases v <;> rfl
        · rcases cs with _ | ⟨v, _ | ⟨u, r⟩⟩
          · rfl
          · cases v <;> rfl
          · cases v <;> rfl
        · rename_i n e
          dsimp only
          rw [mapM_congr' (fun i _ => trod_flatS m e h fuel _)]
        · rename_i fs
          dsimp only
          rw [mapM_congr' (fun f hf => trod_flatS m f.type (by simpa using List.all_eq_true.1 h f hf) fuel _)]
theorem trod_flatS_places {w : World} {base : Nat} {spare : Nat → Bool} {held : Bool} : ∀ (m : Nat) (t : TypeId), flatS P m t = true → ∀ (fuel : Nat) (cs : List Value) (x : DataW H × List MemPlace),
    DataW.trod enc P w base spare held fuel t cs = some x → x.2 = []
  | 0, _, h, _, _, _, _ => by simp [flatS] at h
  | m + 1, t, h, fuel, cs, x, hx => by
    simp only [flatS] at h
    cases hu : P.underlying t with
    | none => simp [hu] at h
    | some dd =>
      cases dd <;> simp only [hu] at h <;> first | cases h | skip
      · obtain ⟨n, _, rfl, _⟩ := DataW.trod_int hu hx
        rfl
      · obtain ⟨s, _, hx2, _⟩ := DataW.trod_string hu hx
        rw [hx2]
      · rename_i n e
        obtain ⟨xs, k, _, rfl, _, hl, hg⟩ := DataW.trod_array hu hx
        refine flatMap_nil fun y hy => ?_
        obtain ⟨i, hi, e2⟩ := List.getElem_of_mem hy
        exact trod_flatS_places m e h k _ y (by rw [hg i (by omega), List.getElem?_eq_getElem hi, e2])
      · rename_i fs
        obtain ⟨xs, k, _, rfl, _, hl, hg⟩ := DataW.trod_struct hu hx
        refine flatMap_nil fun y hy => ?_
        obtain ⟨i, hi, e2⟩ := List.getElem_of_mem hy
        have hfi : fs[i]? = some (fs[i]'(by omega)) := by simp [show i < fs.size by omega]
        exact trod_flatS_places m _ (by simpa using List.all_eq_true.1 h (fs[i]'(by omega)) (by simp)) k _ y (by rw [hg i _ hfi, List.getElem?_eq_getElem hi, e2])
end
section
variable {H : Type} {enc : TypeId × Value → H} {P : Program} {w w' : World} {base base' : Nat} {spare spare' : Nat → Bool} {held held' : Bool} {t : TypeId} {v : Value} {d : DataW H} {p : List MemPlace}
theorem Trod_flatS_places {m : Nat} (hf : flatS P m t = true) (h : DataW.Trod enc P w base spare held t v d p) : p = [] := by
  obtain ⟨fuel, h⟩ := h; exact trod_flatS_places m t hf fuel _ _ h
theorem Trod_flatS {m : Nat} (hf : flatS P m t = true) (h : DataW.Trod enc P w base spare held t v d p) : DataW.Trod enc P w' base' spare' held' t v d p := by
  obtain ⟨fuel, h⟩ := h; exact ⟨fuel, by rw [← trod_flatS m t hf]; exact h⟩
theorem seg_toList {cs : Array Value} {o k : Nat} : (cs.toList.drop o).take k = (cs.extract o (o + k)).toList := by simp [Array.toList_extract, Nat.add_sub_cancel_left]
theorem seg_get {cs : Array Value} {o k i : Nat} (h : i < k) (hk : o + k ≤ cs.size) : cs[o + i]? = (cs.extract o (o + k))[i]? := by
  rw [Array.getElem?_extract, if_pos (by omega)]
theorem open_desk {r : Go.Reach} {b0 : Nat} {a b c e : Field} {m : Nat} (ht : P.underlying t = some (.struct #[a, b, c, e])) (hz : P.cellsOf t = 237)
    (ha : a.offset = 0 ∧ kindsT P m a.type = some algKs ∧ P.cellsOf a.type = 224) (hb : b.offset = 224 ∧ kindsT P m b.type = some vecKs ∧ P.cellsOf b.type = 6)
    (hc : c.offset = 230 ∧ kindsT P m c.type = some vecKs ∧ P.cellsOf c.type = 6) (he : e.offset = 236 ∧ P.underlying e.type = some .string ∧ P.cellsOf e.type = 1)
    (hv : Value.okWide P w r b0 t v) (h : DataW.Trod enc P w base spare held t v d p) :
    ∃ (q n : Int) (T : Nat → Nat → Nat → Nat) (f g k : Nat → Nat) (s : ByteArray), v = .agg (deskC q n T f g k s) ∧ (∀ i j k, T i j k ≤ 255) ∧ (∀ i, f i ≤ 255) ∧ (∀ i, g i ≤ 255) ∧ (∀ i, k i ≤ 255) ∧ s.size ≤ maxLen := by
  obtain ⟨cs, rfl, hs⟩ := okWide_struct ht hv;rw [hz] at hs;obtain ⟨fuel, h⟩ := h;obtain ⟨xs, k, _, hx, hcl, hl, hg⟩ := DataW.trod_struct ht h;have hl4 : xs.length = 4 := hl;have g0 := hg 0 a rfl;have g1 := hg 1 b rfl;have g2 := hg 2 c rfl;have g3 := hg 3 e rfl;rw [List.getElem?_eq_getElem (by omega)] at g0 g1 g2 g3;simp only [Value.cells] at g0 g1 g2 g3;rw [seg_toList] at g0 g1 g2 g3;rw [ha.1, ha.2.2] at g0;rw [hb.1, hb.2.2] at g1;rw [hc.1, hc.2.2] at g2;rw [he.1, he.2.2] at g3;have k0 := trod_kinds m _ _ ha.2.1 k _ _ g0;have k1 := trod_kinds m _ _ hb.2.1 k _ _ g1;have k2 := trod_kinds m _ _ hc.2.1 k _ _ g2;obtain ⟨s, h3, -, hw⟩ := DataW.trod_string he.2.1 g3;obtain ⟨q, n, T, f, e0, hT, hf, -, -⟩ := cells_alg (by rw [Array.size_extract]; omega) k0;obtain ⟨g, e1, hg1⟩ := cells_vec (by rw [Array.size_extract]; omega) k1;obtain ⟨u, e2, hu2⟩ := cells_vec (by rw [Array.size_extract]; omega) k2;refine ⟨q, n, T, f, g, u, s, ?_, hT, hf, hg1, hu2, hw⟩;refine congrArg Value.agg (deskC_eq hs (fun i hi => ?_) (fun i hi => ?_) (fun i hi => ?_) ?_)
  · rw [← e0]; have := seg_get (cs := cs) (o := 0) (k := 224) hi (by omega); rw [Nat.zero_add] at this; exact this
  · rw [seg_get (cs := cs) (o := 224) (k := 6) hi (by omega), e1]; exact vecC_get i rfl hi
  · rw [seg_get (cs := cs) (o := 230) (k := 6) hi (by omega), e2]; exact vecC_get i rfl hi
  · have h4 := seg_get (cs := cs) (o := 236) (k := 1) (i := 0) (by omega) (by omega)
    have h5 : (cs.extract 236 (236 + 1))[0]? = (cs.extract 236 (236 + 1)).toList[0]? := by rw [Array.getElem?_toList]
    rw [show 236 + 0 = 236 from rfl] at h4;rw [h4, h5, h3]; rfl
end
end Go.Sw

namespace Go.Sw
theorem wordsSigns_nb : ∀ (c : Char) (r : List Char), c ≠ ' ' → wordsSigns (c :: r) = match wordsSigns r with
    | w :: ws => (c :: w) :: ws
    | [] => [[c]] := by
  intro c r h;rw [wordsSigns.eq_def]
  split
  · simp_all
  · rename_i heq; simp at heq; exact absurd heq.1 h
  · rename_i heq; simp only [List.cons.injEq] at heq; obtain ⟨rfl, rfl⟩ := heq; rfl
theorem wordsSigns_word : ∀ (w r : List Char), (∀ c ∈ w, c ≠ ' ') → wordsSigns (w ++ ' ' :: r) = w :: wordsSigns r
  | [], r, _ => by simp [wordsSigns]
  | c :: w, r, h => by
    rw [List.cons_append, wordsSigns_nb c _ (h c (by simp)), wordsSigns_word w r (fun d hd => h d (by simp [hd]))]
theorem sum_nb (s : List Char) (h : isSumSigns s = true) : ∀ c ∈ s, c ≠ ' ' := by
  intro c hc he
  unfold isSumSigns at h
  simp only [Bool.and_eq_true, List.all_eq_true] at h;have := h.2 c hc;subst he
  revert this; decide
theorem cutHead (L s r : List Char) (h : L = "harness".toList ++ ' ' :: (s ++ ' ' :: ("cut".toList ++ ' ' :: r))) (hs : isSumSigns s = true) :
    behindMainWord (wordsSigns L) = "cut".toList :: wordsSigns r := by
  rw [h, wordsSigns_word _ _ (by decide), wordsSigns_word _ _ (sum_nb s hs), wordsSigns_word _ _ (by decide)];have : ("harness".toList == "harness".toList || "harness".toList == "ownmain".toList) = true := by decide
  unfold behindMainWord
  show (if (("harness".toList == "harness".toList || "harness".toList == "ownmain".toList) && isSumSigns s) = true then _ else _) = _
  rw [if_pos (by rw [this, hs]; rfl)]
theorem strip_cut (R : List (List Char)) : stripLifts liftWords ("cut".toList :: R) = ([], "cut".toList :: R) := by
  kernel_rfl
theorem lifts_cut (P : Program) (R : List (List Char)) (h : behindMainWord (wordsSigns P.initOrder.toList) = "cut".toList :: R) : P.headLifts = [] := by
  unfold Program.headLifts; rw [h, strip_cut]; rfl
theorem make_cut (P : Program) (R : List (List Char)) (h : behindMainWord (wordsSigns P.initOrder.toList) = "cut".toList :: R) : P.make = some .cut := by
  unfold Program.make; rw [h]
  have h1 : ("cut".toList == "gc".toList || "cut".toList == "spec".toList) = false := by decide
  have h2 : ("cut".toList == "cut".toList) = true := by decide
  simp only [h1, h2]; rfl
theorem final_cut (P : Program) (R : List (List Char)) (h : behindMainWord (wordsSigns P.initOrder.toList) = "cut".toList :: R) : P.liftsFinal = false := by
  unfold Program.liftsFinal; rw [lifts_cut P R h, h]; kernel_rfl
theorem enter_cut (P : Program) (R : List (List Char)) (h : behindMainWord (wordsSigns P.initOrder.toList) = "cut".toList :: R)
    (hl : P.laysLater = false) (hb : P.bearsReflect = false) (hd : P.doorFits [] = true) : P.mayEnter = true := by
  unfold Program.mayEnter; rw [h]
  simp only [strip_cut, hl, hb, hd]
  kernel_rfl
end Go.Sw
