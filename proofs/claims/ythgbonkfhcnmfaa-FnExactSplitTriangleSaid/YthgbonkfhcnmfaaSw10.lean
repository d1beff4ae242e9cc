/- Plain lemmas of a small calculus for walks over frames and own memory; no statement of the seat is proved here. -/
import Derived.Test.YthgbonkfhcnmfaaSw49
import Derived.JoinedOf
import Derived.KernelRfl
set_option linter.unusedVariables false
set_option linter.unusedSimpArgs false
namespace Go.Sw
open Go Go.RowKit Go.Ech
def TwoR (c1 c2 : Array Value) (e0 : Option (Nat × Array Value)) (D : Froz) (e : Option (Nat × Array Value)) (u : Value) : Prop := e = e0 ∧ ∃ b b1 b2, u = .slice (some ⟨b, 0, none⟩) 2 2 ∧ (b, #[.slice (some ⟨b1, 0, none⟩) 3 3, .slice (some ⟨b2, 0, none⟩) 3 3]) ∈ D ∧ (b1, c1) ∈ D ∧ (b2, c2) ∈ D
theorem TwoR.more {c1 c2 : Array Value} {e0 : Option (Nat × Array Value)} (D1 D2 : Froz) (e : Option (Nat × Array Value)) (u : Value) (hs : ∀ x, x ∈ D1 → x ∈ D2) (h : TwoR c1 c2 e0 D1 e u) : TwoR c1 c2 e0 D2 e u := by
  obtain ⟨h0, b, b1, b2, h1, h2, h3, h4⟩ := h;exact ⟨h0, b, b1, b2, h1, hs _ h2, hs _ h3, hs _ h4⟩
theorem pf_twoS {P : Program} {w0 w : World} {D : Froz} {L0 : Own} {kr s k : Nat} {e0 : Option (Nat × Array Value)} {g : Froz × Option (Nat × Array Value) × Value} {l : List FactF} {o : Oper} {a : Act} {c1 c2 : Array Value} {b1 b2 : Nat} (hS : ParF w0 D L0 kr e0 (TwoR c1 c2 e0) false g w) (hk : L0[k]? = some none) (hkr : Nat.beq k kr = false) (h1 : (b1, c1) ∈ g.1) (h2 : (b2, c2) ∈ g.1)
    (hg : Does P o a w (fun u w' => ∃ b, u = .slice (some ⟨b, 0, none⟩) 2 2 ∧ Mem w0 w' ((L0.set kr g.2.1).set k (some (b, #[.slice (some ⟨b1, 0, none⟩) 3 3, .slice (some ⟨b2, 0, none⟩) 3 3]))) (g.1 ++ D) ∧ Ext w w')) : Does P o a w (AfterG (ParF w0 D L0 kr e0 (TwoR c1 c2 e0)) (factsF l s) true s g w) :=
  hg.mono fun u w' ⟨bq, hu, hM, _⟩ => by
    have he := hS.2.2.1 rfl
    have hne : ¬ kr = k := fun e => by subst e; simp at hkr
    have hkl : k < L0.length := (List.getElem?_eq_some_iff.1 hk).1
    have hk2 : (L0.set kr g.2.1)[k]? = some none := by rw [List.getElem?_set, if_neg hne]; exact hk
    have hkk : ((L0.set kr g.2.1).set k (some (bq, #[.slice (some ⟨b1, 0, none⟩) 3 3, .slice (some ⟨b2, 0, none⟩) 3 3])))[k]? = some (some (bq, #[.slice (some ⟨b1, 0, none⟩) 3 3, .slice (some ⟨b2, 0, none⟩) 3 3])) := by rw [List.getElem?_set, if_pos rfl, if_pos (by simpa using hkl)]
    have h3 := hM.freeze k hkk
    rw [List.set_set, own_none hk2] at h3
    refine ⟨((bq, #[.slice (some ⟨b1, 0, none⟩) 3 3, .slice (some ⟨b2, 0, none⟩) 3 3]) :: g.1, g.2.1, u), ⟨h3, fun x ds hx => ?_, fun hb => (by cases hb), fun _ => ⟨he, bq, b1, b2, hu, List.mem_cons_self .., List.mem_cons_of_mem _ h1, List.mem_cons_of_mem _ h2⟩⟩, by unfold factsF; rw [show Nat.beq s s = true by simp], fun j u hj h => ?_⟩
    · rcases List.mem_cons.1 hx with e | hx
      · simp only [Prod.mk.injEq] at e; obtain ⟨rfl, rfl⟩ := e
        exact ⟨hM.ge k hkk, fun y es hy e => (hM.froz y es (List.mem_append_right _ hy)).2 k _ _ hkk e.symm⟩
      · exact hS.2.1 x ds hx
    · unfold factsF at *
      cases ej : Nat.beq j s with
      | true => exact absurd (Nat.eq_of_beq_eq_true ej) hj
      | false =>
        rw [ej] at h
        cases e2 : l[j]? with
        | none => trivial
        | some f => rw [e2] at h; exact f.more h (fun x hx => List.mem_cons_of_mem _ hx)
theorem ssoutr_split {w w' : World} {L : Own} {Dn D : Froz} {m i q bN b1 b2 : Nat} {cN c1 c2 : Array Value} {β κ : Nat → Nat} {C : Nat → Array Value} {F : Nat → Nat → Int} {eA : Option (Nat × Array Value)} {u : Value}
    (hM : Mem w w' L (Dn ++ ((bN, cN) :: D))) (hRC : RowsC D m β C) (hq : L[q]? = some eA) (hi : i < m)
    (hs : Sl 1 u eA (m + 2) (fun k => if k < m * 1 then (if k = i then .slice (some ⟨bN, 0, none⟩) 3 3 else .slice (some ⟨β k, 0, none⟩) 3 (κ k)) else (fun q => if q = 0 then .slice (some ⟨b1, 0, none⟩) 3 3 else .slice (some ⟨b2, 0, none⟩) 3 3) (k - m * 1)))
    (hfr : ∀ x ds, (x, ds) ∈ Dn → w.heap.size ≤ x ∧ ∀ y es, (y, es) ∈ ((bN, cN) :: D) → y ≠ x) (hm1 : (b1, c1) ∈ Dn) (hm2 : (b2, c2) ∈ Dn) (hne : c1 ≠ c2) (hgN : w.heap.size ≤ bN) (hnN : ∀ k, k < m → bN ≠ β k) (hgK : ∀ k, k < m → w.heap.size ≤ β k)
    (hrK : ∀ k, k < m → k ≠ i → SlAt 1 (.slice (some ⟨β k, 0, none⟩) 3 (κ k)) (some (β k, C k)) 3 (β k) (κ k) (C k) (fun c => .int .i64 (F k c)))
    (hN : SlAt 1 (.slice (some ⟨bN, 0, none⟩) 3 3) (some (bN, cN)) 3 bN 3 cN (fun c => .int .i64 (F i c)))
    (h1 : SlAt 1 (.slice (some ⟨b1, 0, none⟩) 3 3) (some (b1, c1)) 3 b1 3 c1 (fun c => .int .i64 (F m c)))
    (h2 : SlAt 1 (.slice (some ⟨b2, 0, none⟩) 3 3) (some (b2, c2)) 3 b2 3 c2 (fun c => .int .i64 (F (m + 1) c))) : SSOutR w w' (m + 2) (fun _ => 3) F u := by
  obtain ⟨bO, cO, csO, rfl, rfl, hsO⟩ := hs.pos (by omega);have hb12 : b1 ≠ b2 := fun e => by
    subst e;exact hne ((hM.fzm (List.mem_append_left _ hm1)).same (hM.fzm (List.mem_append_left _ hm2)))
  have hd1 : ∀ k, k < m → β k ≠ b1 := fun k hk => (hfr _ _ hm1).2 _ _ (List.mem_cons_of_mem _ (hRC.mem k hk));have hd2 : ∀ k, k < m → β k ≠ b2 := fun k hk => (hfr _ _ hm2).2 _ _ (List.mem_cons_of_mem _ (hRC.mem k hk));have hN1 : bN ≠ b1 := (hfr _ _ hm1).2 _ _ (List.mem_cons_self ..);have hN2 : bN ≠ b2 := (hfr _ _ hm2).2 _ _ (List.mem_cons_self ..)
  let β' : Nat → Nat := fun k => if k = m then b1 else if k = m + 1 then b2 else if k = i then bN else β k
  let κ' : Nat → Nat := fun k => if k = m then 3 else if k = m + 1 then 3 else if k = i then 3 else κ k
  let C' : Nat → Array Value := fun k => if k = m then c1 else if k = m + 1 then c2 else if k = i then cN else C k
  have cases4 : ∀ k, k < m + 2 → (k = m ∧ β' k = b1 ∧ κ' k = 3 ∧ C' k = c1) ∨ (k = m + 1 ∧ β' k = b2 ∧ κ' k = 3 ∧ C' k = c2) ∨ (k = i ∧ β' k = bN ∧ κ' k = 3 ∧ C' k = cN) ∨ (k < m ∧ k ≠ i ∧ β' k = β k ∧ κ' k = κ k ∧ C' k = C k) := fun k hk => by
    show (k = m ∧ (if k = m then b1 else if k = m + 1 then b2 else if k = i then bN else β k) = b1 ∧ (if k = m then 3 else if k = m + 1 then 3 else if k = i then 3 else κ k) = 3 ∧ (if k = m then c1 else if k = m + 1 then c2 else if k = i then cN else C k) = c1) ∨ (k = m + 1 ∧ (if k = m then b1 else if k = m + 1 then b2 else if k = i then bN else β k) = b2 ∧ (if k = m then 3 else if k = m + 1 then 3 else if k = i then 3 else κ k) = 3 ∧ (if k = m then c1 else if k = m + 1 then c2 else if k = i then cN else C k) = c2) ∨ (k = i ∧ (if k = m then b1 else if k = m + 1 then b2 else if k = i then bN else β k) = bN ∧ (if k = m then 3 else if k = m + 1 then 3 else if k = i then 3 else κ k) = 3 ∧ (if k = m then c1 else if k = m + 1 then c2 else if k = i then cN else C k) = cN) ∨ (k < m ∧ k ≠ i ∧ (if k = m then b1 else if k = m + 1 then b2 else if k = i then bN else β k) = β k ∧ (if k = m then 3 else if k = m + 1 then 3 else if k = i then 3 else κ k) = κ k ∧ (if k = m then c1 else if k = m + 1 then c2 else if k = i then cN else C k) = C k)
    by_cases e1 : k = m
    · exact .inl ⟨e1, if_pos e1, if_pos e1, if_pos e1⟩
    · by_cases e2 : k = m + 1
      · exact .inr (.inl ⟨e2, by rw [if_neg e1, if_pos e2], by rw [if_neg e1, if_pos e2], by rw [if_neg e1, if_pos e2]⟩)
      · by_cases e3 : k = i
        · exact .inr (.inr (.inl ⟨e3, by rw [if_neg e1, if_neg e2, if_pos e3], by rw [if_neg e1, if_neg e2, if_pos e3], by rw [if_neg e1, if_neg e2, if_pos e3]⟩))
        · exact .inr (.inr (.inr ⟨by omega, e3, by rw [if_neg e1, if_neg e2, if_neg e3], by rw [if_neg e1, if_neg e2, if_neg e3], by rw [if_neg e1, if_neg e2, if_neg e3]⟩))
  refine SSOutR.of (q := q) (Ln := fun _ => 3) (β := β') (κ := κ') (C := C') hM ⟨fun k hk => ?_, fun j k hj hk e => ?_⟩ hq (hsO.congr fun k hk => ?_) (fun k hk => ?_) (fun k hk => ?_)
  · rcases cases4 k hk with ⟨_, a, _, c⟩ | ⟨_, a, _, c⟩ | ⟨_, a, _, c⟩ | ⟨h, _, a, _, c⟩ <;> rw [a, c]
    · exact List.mem_append_left _ hm1
    · exact List.mem_append_left _ hm2
    · exact List.mem_append_right _ (List.mem_cons_self ..)
    · exact List.mem_append_right _ (List.mem_cons_of_mem _ (hRC.mem k h))
  · rcases cases4 j hj with ⟨p, a, _⟩ | ⟨p, a, _⟩ | ⟨p, a, _⟩ | ⟨p, p2, a, _⟩ <;> rcases cases4 k hk with ⟨r, c, _⟩ | ⟨r, c, _⟩ | ⟨r, c, _⟩ | ⟨r, r2, c, _⟩ <;> rw [a, c] at e
    · omega
    · exact absurd e hb12
    · exact absurd e.symm hN1
    · exact absurd e.symm (hd1 k r)
    · exact absurd e.symm hb12
    · omega
    · exact absurd e.symm hN2
    · exact absurd e.symm (hd2 k r)
    · exact absurd e hN1
    · exact absurd e hN2
    · omega
    · exact absurd e (hnN k r)
    · exact absurd e (hd1 j p)
    · exact absurd e (hd2 j p)
    · exact absurd e.symm (hnN j p)
    · exact hRC.inj j k p r e
  · have hk : k < m + 2 := by omega
    rcases cases4 k hk with ⟨p, a, b, _⟩ | ⟨p, a, b, _⟩ | ⟨p, a, b, _⟩ | ⟨p, p2, a, b, _⟩ <;> rw [a, b]
    · rw [if_neg (by omega)]; dsimp only; rw [if_pos (by omega)]
    · rw [if_neg (by omega)]; dsimp only; rw [if_neg (by omega)]
    · rw [if_pos (by omega), if_pos p]
    · rw [if_pos (by omega), if_neg p2]
  · rcases cases4 k hk with ⟨_, a, _⟩ | ⟨_, a, _⟩ | ⟨_, a, _⟩ | ⟨p, _, a, _⟩ <;> rw [a]
    · exact (hfr _ _ hm1).1
    · exact (hfr _ _ hm2).1
    · exact hgN
    · exact hgK k p
  · rcases cases4 k hk with ⟨p, a, b, c⟩ | ⟨p, a, b, c⟩ | ⟨p, a, b, c⟩ | ⟨p, p2, a, b, c⟩ <;> rw [a, b, c]
    · subst p; exact h1
    · subst p; exact h2
    · subst p; exact hN
    · exact hrK k p p2
end Go.Sw
namespace Go.Sw
open Go Go.RowKit Go.Ech
theorem SSOutR.last {w w1 w2 : World} {m : Nat} {Ln : Nat → Nat} {F : Nat → Nat → Int} {u : Value} (h : SSOutR w w1 m Ln F u) (hx : Ext w1 w2) : SSOutR w w2 m Ln F u := by
  obtain ⟨D, b, cap, cs, β, κ, C, h1, h2⟩ := h;exact ⟨D, b, cap, cs, β, κ, C, fun x ds hm => ⟨(h1 x ds hm).1, (h1 x ds hm).2.ext hx⟩, h2⟩
theorem par_drop {X : List Nat} {w0 w : World} {D : Froz} {L0 L : Own} (h : Par X w0 D [] L0 L w) : MemX X w0 w L0 D := Par.mem h rfl
theorem MemX.addOut0 {w0 w : World} {L : Own} {D1 : Froz} {m : Nat} {Ln β κ : Nat → Nat} {F : Nat → Nat → Int} {C : Nat → Array Value} {u : Value} {b cap : Nat} {cs : Array Value} (k : Nat) (h : Mem w0 w L []) (hL : L = List.replicate L.length none) (hD : ∀ x ds, (x, ds) ∈ D1 → w0.heap.size ≤ x ∧ Blk w x ds) (hs : SSR D1 u m Ln F b cap cs β κ C) :
    Mem w0 w (L.set k (some (b, cs))) ((List.range m).map (fun i => (β i, C i))) := by
  have key : ∀ (j : Nat) c ds, (L.set k (some (b, cs)))[j]? = some (some (c, ds)) → j = k ∧ c = b ∧ ds = cs := by
    intro j c ds hj;rw [List.getElem?_set] at hj
    split at hj
    · rename_i e
      split at hj
      · simp only [Option.some.injEq, Prod.mk.injEq] at hj; exact ⟨e.symm, hj.1.symm, hj.2.symm⟩
      · cases hj
    · rw [hL, List.getElem?_replicate] at hj
      split at hj <;> cases hj
  have hb := hD _ _ hs.out;refine ⟨h.bel, fun j c ds hj => ?_, fun i j c es ds hi hj => ?_, fun c ds hc => ?_⟩
  · obtain ⟨_, rfl, rfl⟩ := key j c ds hj; exact ⟨.inl hb.1, hb.2⟩
  · rw [(key i c es hi).1, (key j c ds hj).1]
  · obtain ⟨i, hi, e⟩ := List.mem_map.1 hc
    simp only [Prod.mk.injEq] at e; obtain ⟨rfl, rfl⟩ := e;have hi : i < m := by simpa using hi
    refine ⟨(hD _ _ (hs.rows.mem i hi)).2, fun j e es hj => ?_⟩;obtain ⟨_, rfl, _⟩ := key j e es hj;exact fun q => hs.ne i hi q.symm
end Go.Sw

namespace Go.Sw
theorem wordsSigns_nb : ∀ (c : Char) (r : List Char), c ≠ ' ' → wordsSigns (c :: r) = match wordsSigns r with
    | w :: ws => (c :: w) :: ws
    | [] => [[c]] := by
  intro c r h;rw [wordsSigns.eq_def]
  split
  · simp_all
  · rename_i heq; simp at heq; exact absurd heq.1 h
  · rename_i heq; simp only [List.cons.injEq] at heq; obtain ⟨rfl, rfl⟩ := heq; rfl
theorem wordsSigns_word : ∀ (w r : List Char), (∀ c ∈ w, c ≠ ' ') → wordsSigns (w ++ ' ' :: r) = w :: wordsSigns r
  | [], r, _ => by simp [wordsSigns]
  | c :: w, r, h => by
    rw [List.cons_append, wordsSigns_nb c _ (h c (by simp)), wordsSigns_word w r (fun d hd => h d (by simp [hd]))]
theorem sum_nb (s : List Char) (h : isSumSigns s = true) : ∀ c ∈ s, c ≠ ' ' := by
  intro c hc he
  unfold isSumSigns at h
  simp only [Bool.and_eq_true, List.all_eq_true] at h;have := h.2 c hc;subst he
  revert this; decide
theorem cutHead (L s r : List Char) (h : L = "harness".toList ++ ' ' :: (s ++ ' ' :: ("cut".toList ++ ' ' :: r))) (hs : isSumSigns s = true) :
    behindMainWord (wordsSigns L) = "cut".toList :: wordsSigns r := by
  rw [h, wordsSigns_word _ _ (by decide), wordsSigns_word _ _ (sum_nb s hs), wordsSigns_word _ _ (by decide)];have : ("harness".toList == "harness".toList || "harness".toList == "ownmain".toList) = true := by decide
  unfold behindMainWord
  show (if (("harness".toList == "harness".toList || "harness".toList == "ownmain".toList) && isSumSigns s) = true then _ else _) = _
  rw [if_pos (by rw [this, hs]; rfl)]
theorem strip_cut (R : List (List Char)) : stripLifts liftWords ("cut".toList :: R) = ([], "cut".toList :: R) := by
  kernel_rfl
theorem lifts_cut (P : Program) (R : List (List Char)) (h : behindMainWord (wordsSigns P.initOrder.toList) = "cut".toList :: R) : P.headLifts = [] := by
  unfold Program.headLifts; rw [h, strip_cut]; rfl
theorem make_cut (P : Program) (R : List (List Char)) (h : behindMainWord (wordsSigns P.initOrder.toList) = "cut".toList :: R) : P.make = some .cut := by
  unfold Program.make; rw [h]
  have h1 : ("cut".toList == "gc".toList || "cut".toList == "spec".toList) = false := by decide
  have h2 : ("cut".toList == "cut".toList) = true := by decide
  simp only [h1, h2]; rfl
theorem final_cut (P : Program) (R : List (List Char)) (h : behindMainWord (wordsSigns P.initOrder.toList) = "cut".toList :: R) : P.liftsFinal = false := by
  unfold Program.liftsFinal; rw [lifts_cut P R h, h]; kernel_rfl
theorem enter_cut (P : Program) (R : List (List Char)) (h : behindMainWord (wordsSigns P.initOrder.toList) = "cut".toList :: R)
    (hl : P.laysLater = false) (hb : P.bearsReflect = false) (hd : P.doorFits [] = true) : P.mayEnter = true := by
  unfold Program.mayEnter; rw [h]
  simp only [strip_cut, hl, hb, hd]
  kernel_rfl
end Go.Sw
