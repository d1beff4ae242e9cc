/- Plain lemmas of a small calculus for walks over frames and own memory; no statement of the seat is proved here. -/
import Derived.Test.YtfencffdhenjdaaDoorSw34
import Derived.Test.YtfencffdhenjdaaDoorSw26
import Derived.Test.YtfencffdhenjdaaDoorEch10
set_option linter.unusedVariables false
set_option linter.unusedSimpArgs false
namespace Go.Sw
open Go Go.RowKit Go.Ech
/-- An empty list in memory of its own. -/
def EmpF (w0 : World) (L : Own) (u : Value) (w' : World) : Prop := ∃ b, u = .slice (some ⟨b, 0, none⟩) 0 0 ∧ Blk w' b #[] ∧ w0.heap.size ≤ b ∧ ∀ (k : Nat) c ds, L[k]? = some (some (c, ds)) → c ≠ b
theorem EmpF.last {w0 w w' : World} {L : Own} {u : Value} (h : EmpF w0 L u w) (hx : Ext w w') : EmpF w0 L u w' := by
  obtain ⟨b, h1, h2, h3⟩ := h; exact ⟨b, h1, h2.ext hx, h3⟩
theorem EmpF.of {w0 w w' : World} {L : Own} {D : Froz} {u : Value} {k : Nat} (hk : L[k]? = some none) (h : ∃ b, u = .slice (some ⟨b, 0, none⟩) 0 0 ∧ Mem w0 w' (L.set k (some (b, #[]))) D ∧ Ext w w') : EmpF w0 L u w' := by
  obtain ⟨b, h1, hM, _⟩ := h
  have hkl := (List.getElem?_eq_some_iff.1 hk).1
  have e : (L.set k (some (b, #[])))[k]? = some (some (b, #[])) := by rw [List.getElem?_set, if_pos rfl, if_pos hkl]
  refine ⟨b, h1, hM.row k e, hM.ge k e, fun j c ds hj e2 => ?_⟩
  subst e2
  by_cases ej : j = k
  · subst ej; rw [hk] at hj; simp at hj
  · have := hM.apart j k c ds #[] (by rw [List.getElem?_set, if_neg (fun q => ej q.symm)]; exact hj) e
    exact ej this
theorem EmpF.build {P : Program} {o : Oper} {a : Act} {w0 w : World} {L : Own} {D : Froz} {k : Nat} (hk : L[k]? = some none) (hg : Does P o a w (fun u w' => ∃ b, u = .slice (some ⟨b, 0, none⟩) 0 0 ∧ Mem w0 w' (L.set k (some (b, #[]))) D ∧ Ext w w')) : Does P o a w (fun u w' => Ext w w' ∧ EmpF w0 L u w') :=
  hg.mono fun u w' h => ⟨h.elim fun b hb => hb.2.2, EmpF.of hk h⟩
end Go.Sw

namespace Go.Sw
open Go Go.RowKit Go.Ech
/-! Reduced rows, an empty list and a list of zeros, made in a region that draws its order. -/
theorem Blk.same {w : World} {b : Nat} {cs ds : Array Value} (h : Blk w b cs) (h2 : Blk w b ds) : cs = ds := by
  obtain ⟨t1, h1⟩ := h
  obtain ⟨t2, h3⟩ := h2
  rw [h1] at h3
  simp only [Option.some.injEq, Obj.cells.injEq] at h3
  exact h3.1
theorem RowsOut.last {w w1 w2 : World} {N k : Nat} {f : Nat → Nat → Value} {u : Value} (h : RowsOut w w1 N k f u) (hx : Ext w1 w2) : RowsOut w w2 N k f u := by
  obtain ⟨D, β, κ, C, b, cap, cs, h1, h2⟩ := h
  exact ⟨D, β, κ, C, b, cap, cs, fun x ds hm => ⟨(h1 x ds hm).1, (h1 x ds hm).2.ext hx⟩, h2⟩
theorem rowsOut_le {w0 w w' : World} {N k : Nat} {f : Nat → Nat → Value} {u : Value} (hs : w0.heap.size ≤ w.heap.size) (h : RowsOut w w' N k f u) : RowsOut w0 w' N k f u := by
  obtain ⟨D, β, κ, C, b, cap, cs, h1, h2, h3, h4⟩ := h
  exact ⟨D, β, κ, C, b, cap, cs, fun x ds hm => ⟨Nat.le_trans hs (h1 x ds hm).1, (h1 x ds hm).2⟩, h2, h3, h4⟩
def KRel (w0 : World) (p N m : Nat) (M : Nat → Nat → Nat) (u : Value) (w' : World) : Prop := ∃ k E ld, Rref p N E k ld ∧ (∀ x, Ker p N E k x ↔ Ker p N M m x) ∧ (∀ i c, E i c < p) ∧ k ≤ m ∧ RowsOut w0 w' N k (fun i c => .int .i64 ((E i c : Nat) : Int)) u
theorem KRel.last {w0 w w' : World} {p N m : Nat} {M : Nat → Nat → Nat} {u : Value} (h : KRel w0 p N m M u w) (hx : Ext w w') : KRel w0 p N m M u w' := by
  obtain ⟨k, E, ld, h1, h2, h3, h4, h5⟩ := h
  exact ⟨k, E, ld, h1, h2, h3, h4, h5.last hx⟩
theorem KRel.of {X : List Nat} {w0 w w' : World} {L : Own} {D : Froz} {p N m : Nat} {M : Nat → Nat → Nat} {u : Value} (hM : MemX X w0 w L D) (h : ∃ k E ld, Rref p N E k ld ∧ (∀ x, Ker p N E k x ↔ Ker p N M m x) ∧ (∀ i c, E i c < p) ∧ k ≤ m ∧ RowsOut w w' N k (fun i c => .int .i64 ((E i c : Nat) : Int)) u) : KRel w0 p N m M u w' := by
  obtain ⟨k, E, ld, h1, h2, h3, h4, h5⟩ := h
  exact ⟨k, E, ld, h1, h2, h3, h4, rowsOut_le hM.bel.size h5⟩
/-- An empty list in new memory. -/
def EmpN (w0 : World) (u : Value) (w' : World) : Prop := ∃ b, u = .slice (some ⟨b, 0, none⟩) 0 0 ∧ Blk w' b #[] ∧ w0.heap.size ≤ b
theorem EmpN.last {w0 w w' : World} {u : Value} (h : EmpN w0 u w) (hx : Ext w w') : EmpN w0 u w' := by
  obtain ⟨b, h1, h2, h3⟩ := h; exact ⟨b, h1, h2.ext hx, h3⟩
theorem EmpN.build {P : Program} {o : Oper} {a : Act} {w0 w : World} {L : Own} {D : Froz} {k : Nat} (hk : k < L.length) (hg : Does P o a w (fun u w' => ∃ b, u = .slice (some ⟨b, 0, none⟩) 0 0 ∧ Mem w0 w' (L.set k (some (b, #[]))) D ∧ Ext w w')) : Does P o a w (fun u w' => Ext w w' ∧ EmpN w0 u w') :=
  hg.mono fun u w' ⟨b, h1, hM, hx⟩ => by
    have e : (L.set k (some (b, #[])))[k]? = some (some (b, #[])) := by rw [List.getElem?_set, if_pos rfl, if_pos hk]
    exact ⟨hx, b, h1, hM.row k e, hM.ge k e⟩
theorem MemX.addD0 {X : List Nat} {w0 w : World} {L : Own} {D D1 : Froz} (h : MemX X w0 w L D) (h1 : ∀ c ds, (c, ds) ∈ D1 → Blk w c ds ∧ ∀ (j : Nat) e es, L[j]? = some (some (e, es)) → e ≠ c) : MemX X w0 w L (D1 ++ D) :=
  ⟨h.bel, h.blk, h.apart, fun c ds hm => by
    rcases List.mem_append.1 hm with hm | hm
    · exact h1 c ds hm
    · exact h.froz c ds hm⟩
theorem MemX.putN {X : List Nat} {w0 w : World} {L : Own} {D : Froz} {b : Nat} {cs : Array Value} (k : Nat) (h : MemX X w0 w L D) (hb : Blk w b cs) (hge : w0.heap.size ≤ b) (hL : ∀ (j : Nat) c ds, L[j]? = some (some (c, ds)) → c ≠ b) (hD : ∀ c ds, (c, ds) ∈ D → c ≠ b) : MemX X w0 w (L.set k (some (b, cs))) D := by
  have key : ∀ (j : Nat) c ds, (L.set k (some (b, cs)))[j]? = some (some (c, ds)) → (j = k ∧ c = b ∧ ds = cs) ∨ (j ≠ k ∧ L[j]? = some (some (c, ds))) := by
    intro j c ds hj
    rw [List.getElem?_set] at hj
    split at hj
    · split at hj
      · simp only [Option.some.injEq, Prod.mk.injEq] at hj; rename_i e _; exact .inl ⟨e.symm, hj.1.symm, hj.2.symm⟩
      · cases hj
    · rename_i e; exact .inr ⟨fun e2 => e e2.symm, hj⟩
  refine ⟨h.bel, fun j c ds hj => ?_, fun i j c es ds hi hj => ?_, fun c ds hc => ⟨(h.froz c ds hc).1, fun j e es hj => ?_⟩⟩
  · rcases key j c ds hj with ⟨_, rfl, rfl⟩ | ⟨_, hj⟩
    · exact ⟨.inl hge, hb⟩
    · exact h.blk j c ds hj
  · rcases key i c es hi with ⟨e1, e2, _⟩ | ⟨n1, hi⟩ <;> rcases key j c ds hj with ⟨e3, e4, _⟩ | ⟨n2, hj⟩
    · omega
    · exact absurd e2 (hL j c ds hj)
    · exact absurd e4 (hL i c es hi)
    · exact h.apart i j c es ds hi hj
  · rcases key j e es hj with ⟨_, rfl, _⟩ | ⟨_, hj⟩
    · exact fun q => hD c ds hc q.symm
    · exact (h.froz c ds hc).2 j e es hj
/-- The zeros stand at their place already; the rows are kept as they are read, the empty list gets a place. -/
theorem kern_put {w0 w : World} {L : Own} {D0 : Froz} {p n k : Nat} {E : Nat → Nat → Nat} {ld : Nat → Nat} {u ue : Value} (q : Nat) (h : Mem w0 w L D0) (hL : ∀ (j : Nat) c ds, L[j]? = some (some (c, ds)) → ds = numC n (fun _ => 0)) (hn0 : 0 < n) (hE : Rref p n E k ld)
    (hr : RowsOut w0 w n k (fun i c => .int .i64 ((E i c : Nat) : Int)) u) (he : EmpN w0 ue w) (hD0 : ∀ b cs, (b, cs) ∈ D0 → Blk w0 b cs) :
    ∃ (D : Froz) (β κ : Nat → Nat) (C : Nat → Array Value) (ob oc : Nat) (ocs : Array Value) (be : Nat), RowsD (D ++ D0) n k β κ C (fun i c => .int .i64 ((E i c : Nat) : Int)) ∧ SlAt 1 u (some (ob, ocs)) k ob oc ocs (fun i => .slice (some ⟨β i, 0, none⟩) n (κ i)) ∧ (0 < k → (ob, ocs) ∈ D ++ D0) ∧
      ue = .slice (some ⟨be, 0, none⟩) 0 0 ∧ Mem w0 w (L.set q (some (be, #[]))) (D ++ D0) := by
  obtain ⟨D', β, κ, C, ob, oc, ocs, h1, h2, h3, h4⟩ := hr
  obtain ⟨be, rfl, hbe, hge⟩ := he
  have hz : (numC n (fun _ => 0)).size = n := fnC_size _ _
  have hrow : ∀ i, i < k → 0 < (C i).size := fun i hi => by have := (h2.sl i hi).sz; have := (h2.sl i hi).le; omega
  have hlist : 0 < k → 0 < ocs.size := fun hk => by have := h3.sz; have := h3.le; omega
  have hrn : ∀ i, i < k → C i ≠ numC n (fun _ => 0) := fun i hi e => by
    have g := (h2.sl i hi).get (ld i) (by have := hE.lt i hi; omega)
    rw [e, numC_get rfl (hE.lt i hi), hE.one i hi] at g
    simp at g
  have hln : 0 < k → ocs ≠ numC n (fun _ => 0) := fun hk e => by
    have g := h3.get 0 (by omega)
    rw [e, numC_get rfl hn0] at g
    simp at g
  let D : Froz := (if 0 < k then [(ob, ocs)] else []) ++ (List.range k).map (fun i => (β i, C i))
  have mem : ∀ c ds, (c, ds) ∈ D → (0 < k ∧ c = ob ∧ ds = ocs) ∨ ∃ i, i < k ∧ c = β i ∧ ds = C i := by
    intro c ds hm
    rcases List.mem_append.1 hm with hm | hm
    · split at hm
      · simp only [List.mem_singleton, Prod.mk.injEq] at hm; exact .inl ⟨by assumption, hm.1, hm.2⟩
      · cases hm
    · obtain ⟨i, hi, e⟩ := List.mem_map.1 hm
      simp only [Prod.mk.injEq] at e
      exact .inr ⟨i, List.mem_range.1 hi, e.1.symm, e.2.symm⟩
  have hblk : ∀ c ds, (c, ds) ∈ D → Blk w c ds ∧ 0 < ds.size ∧ ds ≠ numC n (fun _ => 0) := by
    intro c ds hm
    rcases mem c ds hm with ⟨hk, rfl, rfl⟩ | ⟨i, hi, rfl, rfl⟩
    · exact ⟨(h1 _ _ h4).2, hlist hk, hln hk⟩
    · exact ⟨(h1 _ _ (h2.mem i hi)).2, hrow i hi, hrn i hi⟩
  have hM2 : Mem w0 w L (D ++ D0) := h.addD0 fun c ds hm => ⟨(hblk c ds hm).1, fun j e es hj q => by
    subst q
    have := (hL j e es hj).symm.trans (((h.blk j e es hj).2).same (hblk e ds hm).1)
    exact (hblk e ds hm).2.2 this.symm⟩
  have hrow2 : ∀ i, i < k → (β i, C i) ∈ D ++ D0 := fun i hi => List.mem_append_left _ (List.mem_append_right _ (List.mem_map.2 ⟨i, List.mem_range.2 hi, rfl⟩))
  refine ⟨D, β, κ, C, ob, oc, ocs, be, ⟨hrow2, h2.sl⟩, h3, fun hk => List.mem_append_left _ (List.mem_append_left _ (by rw [if_pos hk]; exact List.mem_singleton.2 rfl)), rfl, hM2.putN q hbe hge (fun j c ds hj e => ?_) (fun c ds hc e => ?_)⟩
  · subst e
    have e1 := ((h.blk j c ds hj).2).same hbe
    rw [hL j c ds hj] at e1
    rw [e1] at hz
    simp at hz; omega
  · subst e
    rcases List.mem_append.1 hc with hc | hc
    · have e1 := (hblk c ds hc).1.same hbe
      have := (hblk c ds hc).2.1
      rw [e1] at this; simp at this
    · have := (hD0 c ds hc).lt; omega
end Go.Sw
