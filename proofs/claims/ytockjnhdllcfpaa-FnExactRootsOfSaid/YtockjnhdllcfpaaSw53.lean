/- Plain lemmas of a small calculus for walks over frames and own memory; no statement of the seat is proved here. -/
import Derived.Test.YtockjnhdllcfpaaSw86
import Derived.Test.YtockjnhdllcfpaaSw98
import Derived.Test.YtockjnhdllcfpaaSw27
import Derived.Test.YtockjnhdllcfpaaSw29
import Derived.Test.YtockjnhdllcfpaaSw23
import Derived.Test.YtockjnhdllcfpaaSw77
import Derived.ChangeVars
import Derived.LaidLaws
import Derived.Stop.LaidErr
set_option linter.unusedVariables false
set_option linter.unusedSimpArgs false
namespace Go.Sw
open Go Go.RowKit
/-! ### Rows of whole numbers, sorted -/
def rowJ (cs : Array Value) (N : Nat) (D : Nat → Int) : Array Value := fnC cs.size (fun c => if c < N then .int .i64 (D c) else (cs[c]?).getD undef)
def putJ (D : Nat → Int) (j : Nat) (x : Int) (i : Nat) : Int := if i = j then x else D i
section
variable {cs : Array Value} {N : Nat} {D D' : Nat → Int}
end
/-! ### Sorting by exchanges: what stays -/
def SameSetJ (N : Nat) (D E : Nat → Int) : Prop := ∀ x : Int, (∃ k, k < N ∧ D k = x) ↔ ∃ k, k < N ∧ E k = x
def AscJ (m : Nat) (D : Nat → Int) : Prop := ∀ a b, a < b → b < m → D a ≤ D b
def AscButJ (m j : Nat) (D : Nat → Int) : Prop := (∀ a b, a < b → b < m → a ≠ j → b ≠ j → D a ≤ D b) ∧ ∀ b, j < b → b < m → D j ≤ D b
theorem AscButJ.start {m : Nat} {D : Nat → Int} (h : AscJ m D) : AscButJ (m + 1) m D := ⟨fun a b h1 h2 _ h4 => h a b h1 (by omega), fun b h1 h2 => absurd h2 (by omega)⟩
theorem AscButJ.done {m j : Nat} {D : Nat → Int} (h : AscButJ m j D) (hj : j = 0 ∨ D (j - 1) ≤ D j) : AscJ m D := fun a b h1 h2 => by
  by_cases e1 : a = j
  · subst e1; exact h.2 b h1 h2
  · by_cases e2 : b = j
    · subst e2
      rcases hj with e | hj
      · omega
      · by_cases e3 : a = b - 1
        · subst e3; exact hj
        · exact Int.le_trans (h.1 a (b - 1) (by omega) (by omega) e1 (by omega)) hj
    · exact h.1 a b h1 h2 e1 e2
theorem AscButJ.step {m j : Nat} {D : Nat → Int} (h : AscButJ m j D) (hj0 : 0 < j) (hjm : j < m) (hlt : D j < D (j - 1)) : AscButJ m (j - 1) (putJ (putJ D j (D (j - 1))) (j - 1) (D j)) := by
  have key : ∀ k, putJ (putJ D j (D (j - 1))) (j - 1) (D j) k = if k = j - 1 then D j else if k = j then D (j - 1) else D k := fun k => rfl;refine ⟨fun a b h1 h2 h3 h4 => ?_, fun b h1 h2 => ?_⟩
  · rw [key, key, if_neg h3, if_neg h4]
    by_cases e1 : a = j
    · rw [if_pos e1, if_neg (by omega)]; exact h.1 (j - 1) b (by omega) h2 (by omega) (by omega)
    · rw [if_neg e1]
      by_cases e2 : b = j
      · rw [if_pos e2]; exact h.1 a (j - 1) (by omega) (by omega) e1 (by omega)
      · rw [if_neg e2]; exact h.1 a b h1 h2 e1 e2
  · rw [key, key, if_pos rfl, if_neg (by omega)]
    by_cases e2 : b = j
    · rw [if_pos e2]; omega
    · rw [if_neg e2]; exact h.2 b (by omega) h2
end Go.Sw

namespace Go.Sw
open Go Go.RowKit
/-! ### Lists of the numbers 0 .. m - 1, each once -/
def LegP (m : Nat) (F : Nat → Int) : Prop := (∀ i, i < m → 0 ≤ F i ∧ F i < m) ∧ ∀ i j, i < j → j < m → F i ≠ F j
def CovP (m : Nat) (F : Nat → Int) : Prop := ∀ x : Nat, x < m → ∃ k, k < m ∧ F k = (x : Int)
theorem CovP.same {m : Nat} {D F : Nat → Int} (hs : SameSetJ m D F) : CovP m D ↔ CovP m F :=
  ⟨fun h x hx => (hs x).1 (h x hx), fun h x hx => (hs x).2 (h x hx)⟩
end Go.Sw
namespace Go.Sw.Rw
open Go Go.RowKit
def ArgE (F : Nat → Int) (k : Nat) (_ _ : World) (args : Array Value) : Prop := args = #[.int .i64 (F k)]
def CapS (bx b m : Nat) (F : Nat → Int) (W : World) : Prop := Blk W bx #[.slice (some ⟨b, 0, none⟩) m m] ∧ Blk W b (numI m F)
def OutJ (w w' : World) (m : Nat) (F : Nat → Int) (v : Value) : Prop := ∃ b cap cs D, v = .slice (some ⟨b, 0, none⟩) m cap ∧ w.heap.size ≤ b ∧ m ≤ cs.size ∧ Blk w' b (rowJ cs m D) ∧ AscJ m D ∧ SameSetJ m D F
end Go.Sw.Rw

namespace Go.Sw
open Go Go.RowKit
variable {P : Program}
/-! ### A region that draws its order behind a mark of deferred calls. -/
section
variable {ops : List Oper} {Q : Exit → Act → World → Prop} {n : Nat} {F : List (Nat × Value)} {G : Type} {S : G → World → Prop}
theorem c_drawA {k : Nat} {a : Act} {w : World} (hm : P.follows .mixedOrders = true) (hk : tailOk ops k = true) (hF : Fr n a F) (hdst : dstsOk n F (ops.take k) [] = true) (g : G) (hS : S g w)
    (hdr : ∀ w, S g w → S g w.drew) (φ : Facts G)
    (hsteps : StepsOk P ops k n F S φ (ops.take k) 0)
    (hend : ∀ a w g, Fr n a F → S g w → (∀ i, i < k → i < ops.length → φ i g (a.tmps.getD (dstOf ops i) undef) w) → wpList P ops.toArray Q (ops.drop k) a w) :
    wpAny P .any ops.toArray Q ops.toArray.size (Array.replicate ops.toArray.size false) a { w with drawn := w.drawn + 1 } := by
  simp only [tailOk, Bool.and_eq_true] at hk;obtain ⟨hback, htail⟩ := hk;have hge : ∀ (i : Nat), ops.toArray[i]? = ops[i]? := fun i => by simp
  have hreach : ∀ i j, k ≤ i → i < ops.length → j < i → Reach ops i j := fun i j h1 h2 h3 =>
    masks_spec ops [] (fun i => by simp) (fun m j h => by simp at h) i j (bitsFrom_spec htail i h1 h2 (by omega) j h3)
  have edge_listed : ∀ {i : Nat} {o : Oper} {listed : Array Bool} {j : Nat}, i ∈ Region.ready .any ops.toArray listed → ops[i]? = some o → edgeTo o j = true → listed.getD j false = true := by
    intro i o listed j hi ho he;obtain ⟨_, o', ho', hall⟩ := mem_ready.1 hi;rw [hge, ho] at ho';obtain rfl := Option.some.inj ho';simp only [edgeTo, List.any_eq_true, Bool.and_eq_true] at he;obtain ⟨e, hm', hb, hj⟩ := he;obtain rfl := Nat.eq_of_beq_eq_true hj;exact hall e (by simpa using hm') hb
  have reach_listed : ∀ {listed : Array Bool}, (∀ (j : Nat) o, ops[j]? = some o → listed.getD j false = true → ∀ e ∈ o.after, Region.binds .any e = true → listed.getD e.on false = true) → ∀ i j, Reach ops i j → (∀ o m, ops[i]? = some o → edgeTo o m = true → listed.getD m false = true) → listed.getD j false = true := by
    intro listed hcl i j hr
    induction hr with
    | one ho he => intro h; exact h _ _ ho he
    | more ho he _ ih =>
      intro h;have hm' := h _ _ ho he;refine ih (fun o m ho2 he2 => ?_);simp only [edgeTo, List.any_eq_true, Bool.and_eq_true] at he2;obtain ⟨e, hin, hb, hj⟩ := he2;obtain rfl := Nat.eq_of_beq_eq_true hj;exact hcl _ o ho2 hm' e (by simpa using hin) hb
  -- the tail
  have tail : ∀ (f m : Nat) (listed : Array Bool) (a : Act) (w : World), k ≤ m → ops.length - m ≤ f → (∀ j, j < m → j < ops.length → listed.getD j false = true) → (∀ j, m ≤ j → j < ops.length → listed.getD j true = false) →
      wpList P ops.toArray Q (ops.drop m) a w → wpAny P .any ops.toArray Q f listed a w := by
    intro f
    induction f with
    | zero =>
      intro m listed a w hkm hf h1 h2 h;rw [List.drop_eq_nil_of_le (by omega)] at h;refine ⟨?_, h⟩
      cases hr : Region.ready .any ops.toArray listed with
      | nil => rfl
      | cons i r =>
        obtain ⟨g1, o, ho, _⟩ := mem_ready.1 (hr ▸ List.mem_cons_self .. : i ∈ Region.ready .any ops.toArray listed);rw [hge] at ho;have hi := (List.getElem?_eq_some_iff.1 ho).1;have := h1 i (by omega) hi
        simp [Array.getD_eq_getD_getElem?] at this g1
        cases hh : listed[i]? <;> simp [hh] at this g1
        rw [this] at g1; cases g1
    | succ f ih =>
      intro m listed a w hkm hf h1 h2 h;have only : ∀ i ∈ Region.ready .any ops.toArray listed, i = m := by
        intro i hi;obtain ⟨g1, o, ho, hall⟩ := mem_ready.1 hi;have ho' := ho;rw [hge] at ho';have hil := (List.getElem?_eq_some_iff.1 ho').1
        by_cases hlt : i < m
        · have := h1 i hlt hil
          simp [Array.getD_eq_getD_getElem?] at this g1
          cases hh : listed[i]? <;> simp [hh] at this g1
          rw [this] at g1; cases g1
        · by_cases e : i = m
          · exact e
          · have := reach_listed (listed := listed) (fun j o hj hl e he hbnd => by
                have hjl := (List.getElem?_eq_some_iff.1 hj).1;have hjm : j < m := by
                  rcases Nat.lt_or_ge j m with h | h
                  · exact h
                  · have h3 := h2 j h hjl
                    simp [Array.getD_eq_getD_getElem?] at hl h3
                    cases hh : listed[j]? <;> simp [hh] at hl h3
                    rw [hl] at h3; cases h3
                have := edgesBack_spec hback j o hj e he hbnd;exact h1 e.on (by omega) (by omega)) i m (hreach i m (by omega) hil (by omega)) (fun o2 q ho2 he2 => by
                rw [ho'] at ho2; obtain rfl := Option.some.inj ho2; exact edge_listed hi ho' he2)
            have h3 := h2 m (Nat.le_refl _) (by omega)
            simp [Array.getD_eq_getD_getElem?] at this h3
            cases hh : listed[m]? <;> simp [hh] at this h3
            rw [this] at h3; cases h3
      refine ⟨fun hr => ?_, fun i hi => ?_⟩
      · by_cases hml : m < ops.length
        · exfalso
          have : m ∈ Region.ready .any ops.toArray listed := by
            refine mem_ready.2 ⟨h2 m (Nat.le_refl _) hml, ops[m], by simp [hml], fun e he hbnd => ?_⟩;have := edgesBack_spec hback m ops[m] (by simp [hml]) e he hbnd;exact h1 e.on (by omega) (by omega)
          rw [hr] at this; cases this
        · rw [List.drop_eq_nil_of_le (by omega)] at h; exact h
      · obtain rfl := only i hi
        obtain ⟨g1, o, ho, _⟩ := mem_ready.1 hi;rw [hge] at ho;have hil := (List.getElem?_eq_some_iff.1 ho).1;have hdrop : ops.drop i = o :: ops.drop (i + 1) := by
          rw [List.drop_eq_getElem_cons hil]; congr 1; exact (List.getElem?_eq_some_iff.1 ho).2
        rw [hdrop] at h;have K : ∀ a w, wpList P ops.toArray Q (ops.drop (i + 1)) a w → wpAny P .any ops.toArray Q f (listed.setIfInBounds i true) a w := by
          intro a w hh;refine ih (i + 1) _ a w (by omega) (by omega) (fun j hj hjl => ?_) (fun j hj hjl => ?_) hh
          · by_cases e : i = j
            · subst e
              have hsz : i < listed.size := by
                rcases Nat.lt_or_ge i listed.size with h' | h'
                · exact h'
                · simp [Array.getElem?_eq_none h'] at g1
              simp [hsz]
            · rw [getD_set_ne false e]; exact h1 j (by omega) hjl
          · rw [getD_set_ne true (by omega)]; exact h2 j (by omega) hjl
        unfold wpOp
        rw [hge, ho]
        unfold wpList at h
        show (if Region.wanted o (yielded ops.toArray a.tmps) then _ else _)
        split
        · rename_i hw
          rw [if_pos hw] at h;exact h.imp (Oper.wp_mono K) (fun x => x)
        · rename_i hw
          rw [if_neg hw] at h;exact K _ _ h
  -- the head
  have head : ∀ (f : Nat) (listed : Array Bool) (a : Act) (w : World) (g : G), listed.size = ops.length → (List.range ops.length).countP (fun i => !listed.getD i true) ≤ f → (∀ j, k ≤ j → j < ops.length → listed.getD j true = false) → (∀ (j : Nat) o, ops[j]? = some o → listed.getD j false = true → ∀ e ∈ o.after, Region.binds .any e = true → listed.getD e.on false = true) →
      Fr n a F → S g w → (∀ i, i < k → i < ops.length → listed.getD i false = true → φ i g (a.tmps.getD (dstOf ops i) undef) w) → wpAny P .any ops.toArray Q f listed a w := by
    intro f
    induction f with
    | zero =>
      intro listed a w g hsz hc h2 hcl hF hS hφ';have all : ∀ j, j < ops.length → listed.getD j true = true := by
        intro j hj;have h0 : (List.range ops.length).countP (fun i => !listed.getD i true) = 0 := by omega
        have := List.countP_eq_zero.1 h0 j (by simpa using hj)
        simpa using this
      have hlen : ops.length ≤ k := by
        rcases Nat.lt_or_ge k ops.length with h | h
        · have e1 := h2 k (Nat.le_refl _) h
          rw [all k h] at e1; cases e1
        · exact h
      refine tail 0 k listed a w (Nat.le_refl _) (by omega) (fun j _ hj => ?_) (fun j hj hjl => by omega) ?_
      · have := all j hj
        have hjs : j < listed.size := by omega
        simpa [Array.getD_eq_getD_getElem?, hjs] using this
      · refine hend a w g hF hS (fun i hi hil => hφ' i hi hil ?_)
        have := all i hil;have hjs : i < listed.size := by omega
        simpa [Array.getD_eq_getD_getElem?, hjs] using this
    | succ f ih =>
      intro listed a w g hsz hc h2 hcl hF hS hφ'
      by_cases all : ∀ j, j < k → j < ops.length → listed.getD j false = true
      · refine tail (f + 1) k listed a w (Nat.le_refl _) ?_ all h2 (hend a w g hF hS (fun i hi hil => hφ' i hi hil (all i hi hil)))
        -- as many are left as stand behind k
        have hge' : ∀ (m : Nat), m ≤ ops.length → m - k ≤ (List.range m).countP (fun i => !listed.getD i true) := by
          intro m
          induction m with
          | zero => intro _; simp
          | succ m ihm =>
            intro hm';have := ihm (by omega);rw [List.range_succ, List.countP_append]
            by_cases hkm : k ≤ m
            · have e1 := h2 m hkm (by omega)
              have e2 : List.countP (fun i => !listed.getD i true) [m] = 1 := by rw [List.countP_cons, e1]; rfl
              omega
            · omega
        have := hge' ops.length (Nat.le_refl _)
        omega
      · have step : ∀ i ∈ Region.ready .any ops.toArray listed, i < k := by
          intro i hi
          rcases Nat.lt_or_ge i k with h | h
          · exact h
          · exfalso
            obtain ⟨g1, o, ho, _⟩ := mem_ready.1 hi;rw [hge] at ho;have hil := (List.getElem?_eq_some_iff.1 ho).1;exact all (fun j hj hjl => reach_listed hcl i j (hreach i j h hil (by omega)) (fun o2 q ho2 he2 => by
              rw [ho] at ho2; obtain rfl := Option.some.inj ho2; exact edge_listed hi ho he2))
        refine ⟨fun hr => ?_, fun i hi => ?_⟩
        · exfalso
          apply all
          intro j
          induction j using Nat.strongRecOn with
          | _ j ihj =>
            intro hjk hjl
            cases hl : listed.getD j false with
            | true => rfl
            | false =>
              have hjs : j < listed.size := by omega
              have hm' : j ∈ Region.ready .any ops.toArray listed := by
                refine mem_ready.2 ⟨?_, ops[j], by simp [hjl], fun e he hbnd => ?_⟩
                · simpa [Array.getD_eq_getD_getElem?, hjs] using hl
                · have := edgesBack_spec hback j ops[j] (by simp [hjl]) e he hbnd
                  exact ihj e.on (by omega) (by omega) (by omega)
              rw [hr] at hm'; cases hm'
        · have hik := step i hi
          obtain ⟨g1, o, ho, hall'⟩ := mem_ready.1 hi;rw [hge] at ho;have hil := (List.getElem?_eq_some_iff.1 ho).1;have hti : (ops.take k)[i]? = some o := by rw [List.getElem?_take, if_pos hik]; exact ho
          obtain ⟨d, hd1, hd2, hd3, _, hd5, hd6⟩ := dstsOk_spec hdst i o hti;have hdo : dstOf ops i = d := by simp [dstOf, ho, hd1]
          have hdne : ∀ j, j < k → j < ops.length → j ≠ i → dstOf ops j ≠ d := by
            intro j hj hjl hne e;have hoj : ops[j]? = some ops[j] := by simp [hjl]
            have htj : (ops.take k)[j]? = some ops[j] := by rw [List.getElem?_take, if_pos hj]; exact hoj
            obtain ⟨d', e1, _, _, _, e5, _⟩ := dstsOk_spec hdst j ops[j] htj;have hdj : dstOf ops j = d' := by simp only [dstOf, hoj, Option.bind_some, e1, Option.getD_some]
            have hdd : d' = d := by rw [← hdj]; exact e
            subst hdd
            rcases Nat.lt_or_gt_of_ne hne with h | h
            · exact hd5 j ops[j] h htj e1
            · exact e5 i o h hti hd1
          have hdoes := StepsOk.get hsteps i o hti a w g hF hS (fun j hj he => by
            have hj' : j < k := Nat.blt_eq.mp hj;have hl := edge_listed hi ho he;have hjl : j < ops.length := by
              rcases Nat.lt_or_ge j listed.size with h | h
              · omega
              · simp [Array.getElem?_eq_none h] at hl
            exact hφ' j hj' hjl hl)
          unfold wpOp
          rw [hge, ho]
          show (if Region.wanted o (yielded ops.toArray a.tmps) then _ else _)
          rw [if_pos (by simp [Region.wanted, hd6])];refine .inl (hdoes.run _ _ fun v w' hv => ?_);rw [Nat.zero_add] at hv;obtain ⟨g', hS', hvi, hothers⟩ := hv;have hF' : Fr n (a.put o.dst v) F := by
            rw [hd1];have := hF.put d v (Nat.blt_eq.mpr hd2);refine ⟨this.defers, this.size, fun t u ht => this.get t u ?_⟩;simp only [lk];have hne : ¬ d = t := fun e => by subst e; rw [hd3] at ht; cases ht
            rw [beqF hne]; exact ht
          refine ih _ _ _ g' (by simpa using hsz) ?_ (fun j hj hjl => ?_) (fun j oj hoj hl e he hb => ?_) hF' hS' (fun j hj hjl hl => ?_)
          · have : (List.range ops.length).countP (fun j => !(listed.setIfInBounds i true).getD j true) < (List.range ops.length).countP (fun j => !listed.getD j true) := by
              refine countP_lt (fun x hx => ?_) ⟨i, by simpa using hil, by simpa using g1, ?_⟩
              · by_cases e : i = x
                · subst e; simp only [g1]; rfl
                · rw [getD_set_ne true e] at hx; exact hx
              · have : i < listed.size := by omega
                simp [this]
            omega
          · rw [getD_set_ne true (by omega)]; exact h2 j hj hjl
          · refine getD_set_true ?_
            by_cases ej : j = i
            · subst ej
              rw [ho] at hoj; obtain rfl := Option.some.inj hoj;exact hall' e he hb
            · rw [getD_set_ne false (Ne.symm ej)] at hl
              exact hcl j oj hoj hl e he hb
          · by_cases e : j = i
            · subst e
              rw [hd1, hdo];have : (a.put (some d) v).tmps.getD d undef = v := by simp [Act.put, hF.size, hd2]
              rw [this]; exact hvi
            · rw [getD_set_ne false (Ne.symm e)] at hl
              have hold := hothers j _ e (hφ' j hj hjl hl);have hdn := hdne j hj hjl e;rw [hd1];have : (a.put (some d) v).tmps.getD (dstOf ops j) undef = a.tmps.getD (dstOf ops j) undef := by
                simp [Act.put, Array.getElem?_setIfInBounds_ne (Ne.symm hdn)]
              rw [this]; exact hold
  refine head ops.toArray.size (Array.replicate ops.toArray.size false) a _ g (by simp) ?_ (fun j _ hj => by simp [hj]) (fun j o hj hl e he hbnd => by have hjl := (List.getElem?_eq_some_iff.1 hj).1; simp [hjl] at hl) hF (hdr _ hS) (fun i _ hi hl => by simp [hi] at hl)
  · have := List.countP_le_length (l := List.range ops.length) (p := fun i => !(Array.replicate ops.toArray.size false).getD i true)
    simpa using this
end
theorem wpAny_add {ops : Array Oper} {Q : Exit → Act → World → Prop} {md : Region.Mode} {ds : List Deferred} : ∀ (f : Nat) (listed : Array Bool) (a : Act) (w : World), wpAny P md ops (fun e a w => Q e (addD ds a) w) f listed a w → wpAny P md ops Q f listed (addD ds a) w
  | 0, listed, a, w, h => h
  | f + 1, listed, a, w, h => by
    refine ⟨h.1, fun i hi => ?_⟩
    have h1 := h.2 i hi
    unfold wpOp at h1 ⊢
    have e : yielded ops (addD ds a).tmps = yielded ops a.tmps := rfl
    cases ho : ops[i]? with
    | none => simp only [ho] at h1 ⊢; exact wpAny_add f _ _ _ h1
    | some o =>
      simp only [ho] at h1 ⊢
      rw [e]
      split
      · rename_i hw
        rw [if_pos hw] at h1
        rcases h1 with h1 | h1
        · refine Or.inl ?_
          unfold Oper.wp at h1 ⊢
          rw [eval_addD]
          exact upon_add (fun a w hh => wpAny_add f _ _ _ hh) _ h1
        · refine Or.inr ⟨?_, ?_⟩
          · have := h1.1
            unfold Oper.asks at this ⊢
            rw [eval_addD]; exact this
          · obtain ⟨a, w, h⟩ := h1.2
            exact ⟨addD ds a, w, h⟩
      · rename_i hw
        rw [if_neg hw] at h1
        rw [addD_put]
        exact wpAny_add f _ _ _ h1
section
variable {ops : List Oper} {Q : Exit → Act → World → Prop} {n : Nat} {F : List (Nat × Value)} {a : Act} {w w0 : World} {X : List Nat} {D : Froz} {L0 : Own} {ds : List Deferred}
theorem c_parD {id : Nat} (k : Nat) (W : List Nat) (l : List Fact) (hm : P.follows .mixedOrders = true) (hk : tailOk ops k = true) (hF : Fr n a F) (hdst : dstsOk n F (ops.take k) [] = true) (hM : MemX X w0 w L0 D)
    (hsteps : StepsOk P ops k n F (Par X w0 D W L0) (factsOf l) (ops.take k) 0)
    (hend : ∀ a w L, Fr n a F → Par X w0 D W L0 L w → (∀ i, Nat.blt i k = true → Nat.blt i ops.length = true → factsOf l i L (a.tmps.getD (dstOf ops i) undef) w) → wpList P ops.toArray (fun e a w => Q e (addD ds a) w) (ops.drop k) a w) :
    (Code.region id ops.toArray true).wp P Q (addD ds a) w :=
  wp_region_any hm (wpAny_add _ _ _ _ (c_drawA (S := Par X w0 D W L0) (Q := fun e a w => Q e (addD ds a) w) hm hk hF hdst L0 ⟨hM, Same.refl W L0⟩ (fun _ h => ⟨h.1.ext (Below.drew (Below.refl _ _)), h.2⟩) (factsOf l) hsteps
    (fun a w L hF hS hq => hend a w L hF hS fun i h1 h2 => hq i (Nat.blt_eq.mp h1) (Nat.blt_eq.mp h2))))
end
/-! ### A list ranged over from its end. -/
namespace Rw
def ArgB (m : Nat) (c : Nat → Nat) (k : Nat) (_ _ : World) (args : Array Value) : Prop := args = #[.int .i64 ((m - 1 - k : Nat) : Int), .int .i64 (c (m - 1 - k) : Int)]
def CapB (bx b m : Nat) (c : Nat → Nat) (W : World) : Prop := Blk W bx #[.slice (some ⟨b, 0, none⟩) m m] ∧ Blk W b (numC m c)
end Rw
end Go.Sw
namespace Go.Sw
open Go Go.RowKit
def LstS (w w' : World) (N : Nat) (f : Nat → Value) (u : Value) : Prop := ∃ e, Sl 1 u e N f ∧ ∀ b cs, e = some (b, cs) → w.heap.size ≤ b ∧ Blk w' b cs
theorem LstS.own {w w' : World} {N : Nat} {f : Nat → Value} {u : Value} (h : LstS w w' N f u) (hN : 0 < N) : OwnSl 1 w N f u w' := by
  obtain ⟨e, h1, h2⟩ := h;obtain ⟨b, cap, cs, _, he, h⟩ := h1.pos hN;exact ⟨b, cap, cs, he ▸ h, (h2 b cs he).1, (h2 b cs he).2⟩
theorem LstS.len {w w' : World} {N : Nat} {f : Nat → Value} {u : Value} (h : LstS w w' N f u) : ∃ x c, u = .slice x N c := by
  obtain ⟨e, h1, h2⟩ := h
  rcases h1 with ⟨rfl, _, rfl⟩ | ⟨b, cap, cs, h⟩
  · exact ⟨none, 0, rfl⟩
  · exact ⟨_, cap, h.val⟩
theorem LstS.mono {w0 w w' : World} {N : Nat} {f : Nat → Value} {u : Value} (h : LstS w w' N f u) (hs : w0.heap.size ≤ w.heap.size) : LstS w0 w' N f u := by
  obtain ⟨e, h1, h2⟩ := h;exact ⟨e, h1, fun b cs he => ⟨Nat.le_trans hs (h2 b cs he).1, (h2 b cs he).2⟩⟩
end Go.Sw

/-! Inverses: plain lemmas, no program. -/
namespace Go.Ech
def Pr (n : Nat) (T : Nat → Nat → Nat → Nat) (x y : Nat → Int) (c : Nat) : Int := sI (fun a => sI (fun b => x a * y b * (T a b c : Int)) n) n
def AssI (p n : Nat) (T : Nat → Nat → Nat → Nat) : Prop := ∀ i, i < n → ∀ j, j < n → ∀ k, k < n → ∀ d, d < n → (p : Int) ∣ sI (fun a => (T i j a : Int) * (T a k d : Int)) n - sI (fun b => (T j k b : Int) * (T i b d : Int)) n
structure InvI (p n : Nat) (T : Nat → Nat → Nat → Nat) (u v w : Nat → Nat) : Prop where
  small : ∀ c, w c < p
  out : ∀ c, n ≤ c → w c = 0
  right : ∀ c, c < n → (p : Int) ∣ Pr n T (ci w) (ci v) c - (u c : Int)
  left : ∀ c, c < n → (p : Int) ∣ Pr n T (ci v) (ci w) c - (u c : Int)
end Go.Ech

namespace Go.Ech
open Go.Sw
/-! ### More unknowns than equations; nilpotent vectors. -/
theorem dvd_prime {p a : Nat} {x : Int} (hp : primeN p) (ha : a < p) (h0 : a ≠ 0) (h : (p : Int) ∣ x * (a : Int)) : (p : Int) ∣ x := by
  obtain ⟨v, hv⟩ := inv_ex hp ha h0;have h1 : (p : Int) ∣ ((a * v : Nat) : Int) - 1 := by
    have := emod_dvd (p : Int) ((a * v : Nat) : Int);rw [← Int.natCast_emod, hv] at this;have h2 := Int.dvd_neg.2 this
    rwa [show -(((1 : Nat) : Int) - ((a * v : Nat) : Int)) = ((a * v : Nat) : Int) - 1 by omega] at h2
  have h3 : x = (x * (a : Int)) * (v : Int) - x * (((a * v : Nat) : Int) - 1) := by rw [Int.natCast_mul]; grind
  rw [h3];exact Int.dvd_sub (Int.dvd_mul_of_dvd_left h) (Int.dvd_mul_of_dvd_right h1)
def powU (u : Nat → Nat) (W : Nat → Nat → Nat) : Nat → Nat → Nat
  | 0 => u
  | k + 1 => W k
end Go.Ech

/-! Polynomials told by their numbers: values, slopes, roots. -/
namespace Go.Ech
open Go Go.Sw
def valN (c : Nat → Nat) (d r : Nat) : Nat → Nat
  | 0 => 1
  | k + 1 => valN c d r k * r + c (d - 1 - k)
def slN (c : Nat → Nat) (d r : Nat) : Nat → Nat
  | 0 => 0
  | k + 1 => slN c d r k * r + valN c d r k
def soN (c : Nat → Nat) (d r : Nat) : Nat → Nat
  | 0 => d
  | k + 1 => soN c d r k * r + (d - 1 - k) * c (d - 1 - k)
theorem mod_step (a r b p : Nat) : (a % p * r + b) % p = (a * r + b) % p := by
  rw [Nat.add_mod, Nat.mod_mul_mod, ← Nat.add_mod]
theorem mod_step2 (a r b p : Nat) : (a % p * r + b % p) % p = (a * r + b) % p := by
  rw [Nat.add_mod, Nat.mod_mul_mod, Nat.mod_mod, ← Nat.add_mod]
theorem mul_bd {x r : Nat} (p : Nat) (hp : 0 < p) (hp2 : p ≤ 13) (hr : r ≤ 255) : x % p * r ≤ 13 * 255 := Nat.mul_le_mul (by have := Nat.mod_lt x hp; omega) hr
def rtB (c : Nat → Nat) (m p r : Nat) : Bool := decide (valN c m r m % p = 0)
theorem rtB_yes {c : Nat → Nat} {m p r : Nat} (h : valN c m r m % p = 0) : rtB c m p r = true := decide_eq_true h
theorem rtB_no {c : Nat → Nat} {m p r : Nat} (h : ¬ valN c m r m % p = 0) : ¬ rtB c m p r = true := fun q => h (of_decide_eq_true q)
theorem rtB_val {c : Nat → Nat} {m p r : Nat} (h : rtB c m p r = true) : valN c m r m % p = 0 := of_decide_eq_true h
def quoC (c : Nat → Nat) (d r : Nat) (i : Nat) : Nat := valN c d r (d - 1 - i)
theorem quo_eq {c : Nat → Nat} {d r x : Nat} : ∀ {k : Nat}, k < d → valN c d x (k + 1) + r * valN (quoC c d r) (d - 1) x k = x * valN (quoC c d r) (d - 1) x k + valN c d r (k + 1)
  | 0, _ => by simp only [valN]; omega
  | k + 1, h => by
    have ih := quo_eq (c := c) (d := d) (r := r) (x := x) (k := k) (by omega)
    have e1 : valN (quoC c d r) (d - 1) x (k + 1) = valN (quoC c d r) (d - 1) x k * x + valN c d r (k + 1) := by
      show valN (quoC c d r) (d - 1) x k * x + quoC c d r (d - 1 - 1 - k) = _
      unfold quoC
      rw [show d - 1 - (d - 1 - 1 - k) = k + 1 by omega]
    rw [e1, show valN c d x (k + 1 + 1) = valN c d x (k + 1) * x + c (d - 1 - (k + 1)) from rfl, show valN c d r (k + 1 + 1) = valN c d r (k + 1) * r + c (d - 1 - (k + 1)) from rfl];have ih2 := congrArg (· * x) ih;simp only [Nat.add_mul] at ih2;simp only [Nat.mul_add];have a1 : x * (valN (quoC c d r) (d - 1) x k * x) = x * valN (quoC c d r) (d - 1) x k * x := (Nat.mul_assoc ..).symm;have a2 : r * (valN (quoC c d r) (d - 1) x k * x) = r * valN (quoC c d r) (d - 1) x k * x := (Nat.mul_assoc ..).symm;have a3 : x * valN c d r (k + 1) = valN c d r (k + 1) * x := Nat.mul_comm ..;have a4 : r * valN c d r (k + 1) = valN c d r (k + 1) * r := Nat.mul_comm ..
    omega
theorem cnt_two {S T : Nat → Bool} {r : Nat} : ∀ {n : Nat}, (∀ x, x < n → S x = true → x = r ∨ T x = true) → cnt S n ≤ (if r < n then 1 else 0) + cnt T n
  | 0, _ => by simp [cnt]
  | n + 1, h => by
    have ih := cnt_two (S := S) (T := T) (r := r) (n := n) (fun x hx => h x (by omega))
    simp only [cnt]
    by_cases hS : S n = true
    · rcases h n (by omega) hS with e | e
      · subst e
        rw [if_pos hS, if_pos (by omega)]
        rw [if_neg (by omega)] at ih
        split <;> omega
      · rw [if_pos hS, if_pos e]
        split at ih <;> split <;> omega
    · rw [if_neg hS]
      split at ih <;> split <;> split <;> omega
theorem roots_le {p : Nat} (hp : primeN p) : ∀ (d : Nat) (c : Nat → Nat), cnt (rtB c d p) p ≤ d
  | 0, c => by
    have h : ∀ n, cnt (rtB c 0 p) n = 0 := fun n => by
      induction n with
      | zero => rfl
      | succ n ih => rw [cnt_no, ih]; exact rtB_no (by show ¬ 1 % p = 0; have := hp.two; rw [Nat.mod_eq_of_lt (by omega)]; omega)
    exact Nat.le_of_eq (h p)
  | d + 1, c => by
    by_cases h : ∃ r, r < p ∧ rtB c (d + 1) p r = true
    · obtain ⟨r, hr, hr1⟩ := h
      have ih := roots_le hp d (quoC c (d + 1) r)
      have h2 := cnt_two (S := rtB c (d + 1) p) (T := rtB (quoC c (d + 1) r) d p) (r := r) (n := p) fun x hx hS => by
        by_cases e : x = r
        · exact .inl e
        · refine .inr (rtB_yes ?_)
          have hq := quo_eq (c := c) (d := d + 1) (r := r) (x := x) (k := d) (by omega)
          simp only [Nat.add_sub_cancel] at hq
          have d1 : (p : Int) ∣ (valN c (d + 1) x (d + 1) : Int) := Int.natCast_dvd_natCast.2 (Nat.dvd_of_mod_eq_zero (rtB_val hS))
          have d2 : (p : Int) ∣ (valN c (d + 1) r (d + 1) : Int) := Int.natCast_dvd_natCast.2 (Nat.dvd_of_mod_eq_zero (rtB_val hr1))
          refine Nat.mod_eq_zero_of_dvd (Int.natCast_dvd_natCast.1 ?_)
          have hqI : (valN c (d + 1) x (d + 1) : Int) + (r : Int) * (valN (quoC c (d + 1) r) d x d : Int) = (x : Int) * (valN (quoC c (d + 1) r) d x d : Int) + (valN c (d + 1) r (d + 1) : Int) := by exact_mod_cast hq
          obtain ⟨u, hu⟩ := d1
          obtain ⟨v, hv⟩ := d2
          by_cases hlt : x < r
          · refine dvd_prime (a := r - x) hp (by omega) (by omega) ⟨v - u, ?_⟩
            rw [show (((r - x : Nat)) : Int) = (r : Int) - (x : Int) by omega, Int.mul_sub, Int.mul_sub, Int.mul_comm _ (r : Int), Int.mul_comm _ (x : Int)]
            omega
          · refine dvd_prime (a := x - r) hp (by omega) (by omega) ⟨u - v, ?_⟩
            rw [show (((x - r : Nat)) : Int) = (x : Int) - (r : Int) by omega, Int.mul_sub, Int.mul_sub, Int.mul_comm _ (r : Int), Int.mul_comm _ (x : Int)]
            omega
      rw [if_pos hr] at h2
      omega
    · have h0 : ∀ n, n ≤ p → cnt (rtB c (d + 1) p) n = 0 := fun n => by
        induction n with
        | zero => intro _; rfl
        | succ n ih => intro hn; rw [cnt_no (fun q => h ⟨n, by omega, q⟩), ih (by omega)]
      rw [h0 p (Nat.le_refl _)]; omega
end Go.Ech

namespace Go.Sw
open Go Go.RowKit Go.ChangeShapes Go.WideShapes Go.ChangeAt
section
variable {H : Type} {enc : TypeId × Value → H} {P : Program} {w w' : World}
end
end Go.Sw
