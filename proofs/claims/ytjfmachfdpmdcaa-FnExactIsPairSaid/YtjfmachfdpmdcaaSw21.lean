/- Plain lemmas of a small calculus for walks over frames and own memory; no statement of the seat is proved here. -/
import Derived.Test.YtjfmachfdpmdcaaSw14
import Derived.OpenShut
set_option linter.unusedVariables false
set_option linter.unusedSimpArgs false
namespace Go.Sw
open Go Go.RowKit Go.ChangeShapes Go.WideShapes
/-! ### Arguments that are made of integers alone: structs and arrays by value -/
def flatT (P : Program) : Nat → TypeId → Bool
  | 0, _ => false
  | n + 1, t => match P.underlying t with
    | some (.int _) => true
    | some (.array _ e) => flatT P n e
    | some (.struct fs) => fs.toList.all (fun f => flatT P n f.type)
    | _ => false
section
variable {H : Type} {enc : TypeId × Value → H} {P : Program}
theorem mapM_congr' {α β : Type} {f g : α → Option β} : ∀ {l : List α}, (∀ x ∈ l, f x = g x) → l.mapM f = l.mapM g
  | [], _ => rfl
  | x :: l, h => by
    rw [List.mapM_cons, List.mapM_cons, h x (List.mem_cons_self ..), mapM_congr' (fun y hy => h y (List.mem_cons_of_mem _ hy))]
theorem trod_flat {w w' : World} {base base' : Nat} {spare spare' : Nat → Bool} {held held' : Bool} : ∀ (m : Nat) (t : TypeId), flatT P m t = true → ∀ (fuel : Nat) (cs : List Value),
    DataW.trod enc P w base spare held fuel t cs = DataW.trod enc P w' base' spare' held' fuel t cs
  | 0, _, h, _, _ => by simp [flatT] at h
  | m + 1, t, h, fuel, cs => by
    cases fuel with
    | zero => rfl
    | succ fuel =>
      simp only [flatT] at h
      unfold DataW.trod
      cases hu : P.underlying t with
      | none => rfl
      | some dd =>
        cases dd <;> simp only [hu] at h <;> first | cases h | skip
        · rcases cs with _ | ⟨v, _ | ⟨u, r⟩⟩
          · rfl
          · cases v <;> rfl
          · cases v <;> rfl
        · rename_i n e
          dsimp only
          rw [mapM_congr' (fun i _ => trod_flat m e h fuel _)]
        · rename_i fs
          dsimp only
          rw [mapM_congr' (fun f hf => trod_flat m f.type (by simpa using List.all_eq_true.1 h f hf) fuel _)]
theorem flatMap_nil {α β : Type} {f : α → List β} : ∀ {l : List α}, (∀ x ∈ l, f x = []) → l.flatMap f = []
  | [], _ => rfl
  | x :: l, h => by rw [List.flatMap_cons, h x (List.mem_cons_self ..), flatMap_nil (fun y hy => h y (List.mem_cons_of_mem _ hy))]; rfl
theorem trod_flat_places {w : World} {base : Nat} {spare : Nat → Bool} {held : Bool} : ∀ (m : Nat) (t : TypeId), flatT P m t = true → ∀ (fuel : Nat) (cs : List Value) (x : DataW H × List MemPlace),
    DataW.trod enc P w base spare held fuel t cs = some x → x.2 = []
  | 0, _, h, _, _, _, _ => by simp [flatT] at h
  | m + 1, t, h, fuel, cs, x, hx => by
    simp only [flatT] at h
    cases hu : P.underlying t with
    | none => simp [hu] at h
    | some dd =>
      cases dd <;> simp only [hu] at h <;> first | cases h | skip
      · obtain ⟨n, _, rfl, _⟩ := DataW.trod_int hu hx
        rfl
      · rename_i n e
        obtain ⟨xs, k, _, rfl, _, hl, hg⟩ := DataW.trod_array hu hx
        refine flatMap_nil fun y hy => ?_
        obtain ⟨i, hi, e2⟩ := List.getElem_of_mem hy
        exact trod_flat_places m e h k _ y (by rw [hg i (by omega), List.getElem?_eq_getElem hi, e2])
      · rename_i fs
        obtain ⟨xs, k, _, rfl, _, hl, hg⟩ := DataW.trod_struct hu hx
        refine flatMap_nil fun y hy => ?_
        obtain ⟨i, hi, e2⟩ := List.getElem_of_mem hy
        have hfi : fs[i]? = some (fs[i]'(by omega)) := by simp [show i < fs.size by omega]
        exact trod_flat_places m _ (by simpa using List.all_eq_true.1 h (fs[i]'(by omega)) (by simp)) k _ y (by rw [hg i _ hfi, List.getElem?_eq_getElem hi, e2])
def kindsFs (P : Program) (g : TypeId → Option (List IntKind)) : List Field → Nat → Option (List IntKind)
  | [], _ => some []
  | f :: r, o => match g f.type with
    | some l => if f.offset = o ∧ l.length = P.cellsOf f.type then (kindsFs P g r (o + l.length)).map (l ++ ·) else none
    | none => none
def kindsT (P : Program) : Nat → TypeId → Option (List IntKind)
  | 0, _ => none
  | n + 1, t => match P.underlying t with
    | some (.int k) => some [k]
    | some (.array m e) => match kindsT P n e with
      | some l => if l.length = P.cellsOf e ∧ 0 < l.length then some (List.replicate m l).flatten else none
      | none => none
    | some (.struct fs) => kindsFs P (kindsT P n) fs.toList 0
    | _ => none
def KindsAt (ks : List IntKind) (cs : List Value) : Prop := ∀ (i : Nat) k, ks[i]? = some k → ∃ n, cs[i]? = some (.int k n) ∧ (Lit.int k n).wf = true
theorem flatten_get {α : Type} {l : List α} {s : Nat} (hs : l.length = s) (h0 : 0 < s) : ∀ (m i : Nat), i < m * s → (List.replicate m l).flatten[i]? = l[i % s]?
  | 0, i, h => by omega
  | m + 1, i, h => by
    rw [List.replicate_succ, List.flatten_cons]
    by_cases hi : i < s
    · rw [List.getElem?_append_left (by omega), Nat.mod_eq_of_lt hi]
    · rw [List.getElem?_append_right (by omega), hs, flatten_get hs h0 m (i - s) (by rw [Nat.succ_mul] at h; omega), ← Nat.mod_eq_sub_mod (by omega)]
theorem trod_kinds {w : World} {base : Nat} {spare : Nat → Bool} {held : Bool} : ∀ (m : Nat) (t : TypeId) (ks : List IntKind), kindsT P m t = some ks → ∀ (fuel : Nat) (cs : List Value) (x : DataW H × List MemPlace),
    DataW.trod enc P w base spare held fuel t cs = some x → KindsAt ks cs
  | 0, _, _, h, _, _, _, _ => by simp [kindsT] at h
  | m + 1, t, ks, h, fuel, cs, x, hx => by
    simp only [kindsT] at h
    cases hu : P.underlying t with
    | none => simp [hu] at h
    | some dd =>
      cases dd <;> simp only [hu] at h <;> first | cases h | skip
      · obtain ⟨n, rfl, rfl, hw⟩ := DataW.trod_int hu hx
        intro i k hi
        cases i with
        | zero => simp at hi; subst hi; exact ⟨n, rfl, hw⟩
        | succ i => simp at hi
      · rename_i n e
        obtain ⟨xs, k, _, rfl, hcl, hl, hg⟩ := DataW.trod_array hu hx
        cases hk : kindsT P m e with
        | none => simp [hk] at h
        | some l =>
          simp only [hk] at h
          split at h
          · rename_i hc
            obtain rfl := Option.some.inj h
            intro i kk hi
            have hlen : (List.replicate n l).flatten.length = n * l.length := by simp
            have hin : i < n * l.length := by rw [← hlen]; exact (List.getElem?_eq_some_iff.1 hi).1
            rw [flatten_get rfl hc.2 n i hin] at hi
            have hq : i / l.length < n := (Nat.div_lt_iff_lt_mul hc.2).2 hin
            have hgq := hg (i / l.length) hq
            obtain ⟨v, h1, h2⟩ := trod_kinds m e l hk k _ (xs[i / l.length]'(by omega)) (by rw [hgq, List.getElem?_eq_getElem]) _ _ hi
            refine ⟨v, ?_, h2⟩
            rw [List.getElem?_take, ← hc.1, if_pos (Nat.mod_lt _ hc.2), List.getElem?_drop] at h1
            rw [← h1]
            congr 1
            have := Nat.div_add_mod i l.length
            rw [Nat.mul_comm] at this; omega
          · cases h
      · rename_i fs
        obtain ⟨xs, k, _, rfl, hcl, hl, hg⟩ := DataW.trod_struct hu hx
        have key : ∀ (r : List Field) (o : Nat) (ks : List IntKind), (∀ f ∈ r, f ∈ fs.toList) → kindsFs P (kindsT P m) r o = some ks → ∀ (i : Nat) kk, ks[i]? = some kk → ∃ n, cs[o + i]? = some (.int kk n) ∧ (Lit.int kk n).wf = true := by
          intro r
          induction r with
          | nil => intro o ks _ h i kk hi; simp [kindsFs] at h; subst h; simp at hi
          | cons f r ih =>
            intro o ks hmem h i kk hi;simp only [kindsFs] at h
            cases hk : kindsT P m f.type with
            | none => simp [hk] at h
            | some l =>
              simp only [hk] at h
              split at h
              · rename_i hc
                cases hr : kindsFs P (kindsT P m) r (o + l.length) with
                | none => simp [hr] at h
                | some l2 =>
                  simp only [hr, Option.map_some, Option.some.injEq] at h;subst h
                  by_cases hil : i < l.length
                  · rw [List.getElem?_append_left hil] at hi
                    obtain ⟨j, hj, ej⟩ := List.getElem_of_mem (hmem f (List.mem_cons_self ..));have hj2 : j < fs.size := by simpa using hj
                    have hfj : fs[j]? = some f := by
                      rw [Array.getElem?_eq_getElem hj2]; simpa using ej
                    have hgj := hg j f hfj;obtain ⟨v, h1, h2⟩ := trod_kinds m f.type l hk k _ (xs[j]'(by omega)) (by rw [hgj, List.getElem?_eq_getElem]) _ _ hi;refine ⟨v, ?_, h2⟩;rw [List.getElem?_take, ← hc.2, if_pos hil, List.getElem?_drop, hc.1] at h1;exact h1
                  · rw [List.getElem?_append_right (by omega)] at hi
                    obtain ⟨v, h1, h2⟩ := ih (o + l.length) l2 (fun f hf => hmem f (List.mem_cons_of_mem _ hf)) hr (i - l.length) kk hi;refine ⟨v, ?_, h2⟩;rw [show o + l.length + (i - l.length) = o + i by omega] at h1;exact h1
              · cases h
        intro i kk hi;have := key fs.toList 0 ks (fun f hf => hf) h i kk hi
        simpa using this
end
def getI : Option Value → Int
  | some (.int _ n) => n
  | _ => 0
theorem kind_get {ks : List IntKind} {cs : List Value} (h : KindsAt ks cs) {i : Nat} {k : IntKind} (hk : ks[i]? = some k) : cs[i]? = some (.int k (getI cs[i]?)) ∧ (Lit.int k (getI cs[i]?)).wf = true := by
  obtain ⟨n, h1, h2⟩ := h i k hk;rw [h1]; exact ⟨rfl, h2⟩
theorem wf_u8 {n : Int} (h : (Lit.int .u8 n).wf = true) : 0 ≤ n ∧ n ≤ 255 := by
  simp only [Lit.wf, Bool.and_eq_true, decide_eq_true_eq] at h;have h1 : IntKind.u8.min = 0 := by decide
  have h2 : IntKind.u8.max = 255 := by decide
  omega
def algKs : List IntKind := .i64 :: .i64 :: List.replicate 222 .u8
def vecKs : List IntKind := List.replicate 6 .u8
theorem algKs_u8 {i : Nat} (h1 : 2 ≤ i) (h2 : i < 224) : algKs[i]? = some .u8 := by
  obtain ⟨j, rfl⟩ : ∃ j, i = j + 2 := ⟨i - 2, by omega⟩
  unfold algKs
  rw [List.getElem?_cons_succ, List.getElem?_cons_succ, List.getElem?_replicate, if_pos (by omega)]
section
variable {H : Type} {enc : TypeId × Value → H} {P : Program} {w w' : World} {base base' : Nat} {spare spare' : Nat → Bool} {held held' : Bool} {t : TypeId} {v : Value} {d : DataW H} {p : List MemPlace}
theorem Trod_flat_places {m : Nat} (hf : flatT P m t = true) (h : DataW.Trod enc P w base spare held t v d p) : p = [] := by
  obtain ⟨fuel, h⟩ := h; exact trod_flat_places m t hf fuel _ _ h
theorem Trod_flat {m : Nat} (hf : flatT P m t = true) (h : DataW.Trod enc P w base spare held t v d p) : DataW.Trod enc P w' base' spare' held' t v d p := by
  obtain ⟨fuel, h⟩ := h; exact ⟨fuel, by rw [← trod_flat m t hf]; exact h⟩
end
end Go.Sw
