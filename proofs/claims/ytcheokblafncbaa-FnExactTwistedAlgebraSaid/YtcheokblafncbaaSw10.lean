/- Plain lemmas of a small calculus for walks over frames and own memory; no statement of the seat is proved here. -/
import Derived.Test.YtcheokblafncbaaSw23
import Derived.Test.YtcheokblafncbaaSw27
import Derived.Test.YtcheokblafncbaaSw21
import Derived.Test.YtcheokblafncbaaSw9
import Derived.Recover
import Derived.Test.YtcheokblafncbaaSw22
import Derived.Test.YtcheokblafncbaaEch
import Derived.JoinedOf
import Derived.KernelRfl
set_option linter.unusedVariables false
set_option linter.unusedSimpArgs false
namespace Go.Sw
open Go Go.RowKit Go.ChangeShapes Go.WideShapes Go.ChangeAt
def ArgVs (w : World) (sl : Value) (m : Nat) (V : Nat → Nat → Nat) : Prop :=
  (∃ x c, sl = .slice x m c) ∧ (0 < m → ∃ b o c, sl = .slice (some ⟨b, o, none⟩) m c ∧ ∀ i, i < m → ∀ j, j < 6 → w.cell? ⟨b, o + i * 6 + j, none⟩ = some (.int .u8 (V i j : Int)))
theorem ArgVs.ext {w w' : World} {sl : Value} {m : Nat} {V : Nat → Nat → Nat} (h : ArgVs w sl m V) (hx : Ext w w') : ArgVs w' sl m V :=
  ⟨h.1, fun hm => by obtain ⟨b, o, c, h1, h3⟩ := h.2 hm; exact ⟨b, o, c, h1, fun i hi j hj => cell_ext (h3 i hi j hj) hx⟩⟩
theorem ArgVs.one {w : World} {sl : Value} {m : Nat} {V : Nat → Nat → Nat} (h : ArgVs w sl m V) : sl.oneCell' = true := by
  obtain ⟨⟨x, c, rfl⟩, _⟩ := h; rfl
section
variable {P : Program} {n : Nat} {F : List (Nat × Value)} {a : Act} {w : World} {d : Option Tmp} {t : TypeId} {pos : String} {af : Array Edge} {gd : Option (Nat × Bool)} {x : Operand}
end
section
variable {H : Type} {enc : TypeId × Value → H} {P : Program} {w w' : World} {base : Nat} {spare : Nat → Bool} {held : Bool}
theorem cells?_get {a : Addr} {n : Nat} {cs : List Value} (h : w.cells? base a n = some cs) : cs.length = n ∧ ∀ i, i < n → w.cell? (a.add i) = cs[i]? := by
  unfold World.cells? at h
  split at h
  · have hl := mapM_some_length h
    rw [List.length_range] at hl;refine ⟨hl.symm ▸ rfl, fun i hi => ?_⟩;have := mapM_some_get h i i (by rw [List.getElem?_range hi]);exact this
  · cases h
end
section
variable {H : Type} {enc : TypeId × Value → H} {P : Program} {w : World} {base : Nat} {spare : Nat → Bool} {held : Bool}
end
section
variable {P : Program} {X : List Nat} {w0 w : World} {L : Own} {D : Froz} {n : Nat} {F : List (Nat × Value)} {a : Act} {d : Option Tmp} {T : TypeId} {t : TypeId} {pos : String} {af : Array Edge} {gd : Option (Nat × Bool)} {x y : Operand}
end
end Go.Sw

namespace Go.Sw
open Go Go.RowKit Go.ChangeShapes Go.WideShapes Go.ChangeAt
def grpC (n : Int) (M : Nat → Nat → Nat) : Array Value := fnC 37 fun c => if c = 0 then .int .i64 n else .int .u8 (M ((c - 1) / 6) ((c - 1) % 6))
section
variable {n q : Int} {M N : Nat → Nat → Nat}
theorem grpC_size : (grpC n M).size = 37 := fnC_size _ _
theorem grpC_n {o : Nat} (h : o = 0) : (grpC n M)[o]? = some (.int .i64 n) := by subst h; exact fnC_get (by omega)
theorem grpC_M {o : Nat} (i j : Nat) (h : o = 1 + i * 6 + j) (hi : i < 6) (hj : j < 6) : (grpC n M)[o]? = some (.int .u8 (M i j : Int)) := by
  subst h
  unfold grpC
  rw [fnC_get (by omega), if_neg (by omega), show (1 + i * 6 + j - 1) / 6 = i by omega, show (1 + i * 6 + j - 1) % 6 = j by omega]
theorem grpC_tab {o e : Nat} (h : o = 1) (he : e = o + 36) : (grpC n M).extract o e = planeC M := by
  subst h;exact extract_ext he (by rw [grpC_size]; omega) fun c hc => grpC_M (c / 6) (c % 6) (by omega) (by omega) (by omega)
theorem grpC_one : ∀ u ∈ (grpC n M).toList, u.oneCell' = true := fnC_one fun i _ => by split <;> rfl
theorem grpC_eq {c : Array Value} (hs : c.size = 37) (h0 : c[0]? = some (.int .i64 n)) (hT : ∀ i j, i < 6 → j < 6 → c[1 + i * 6 + j]? = some (.int .u8 (M i j : Int))) : c = grpC n M := by
  apply Array.ext_getElem?
  intro i
  by_cases hi : i < 37
  · by_cases e0 : i = 0
    · subst e0; rw [h0, grpC_n rfl]
    · have e : i = 1 + ((i - 1) / 6) * 6 + (i - 1) % 6 := by omega
      rw [e, hT _ _ (by omega) (by omega), grpC_M _ _ rfl (by omega) (by omega)]
  · rw [Array.getElem?_eq_none (by omega), Array.getElem?_eq_none (by rw [grpC_size]; omega)]
theorem grpC_setn {o : Nat} (h : o = 0) : (grpC n M).setIfInBounds o (.int .i64 q) = grpC q M := by
  subst h;refine grpC_eq (by rw [Array.size_setIfInBounds, grpC_size]) ?_ ?_
  · rw [Array.getElem?_setIfInBounds_self_of_lt (by rw [grpC_size]; omega)]
  · intro i j hi hj; rw [Array.getElem?_setIfInBounds_ne (by omega)]; exact grpC_M i j rfl hi hj
theorem grpC_putT {o : Nat} (h : o = 1) : splice (grpC n M) o (planeC N) = grpC n N := by
  subst h;have hz : 1 + (planeC N).size ≤ (grpC n M).size := by rw [planeC_size, grpC_size]; omega
  refine grpC_eq (by rw [splice_size _ _ _ hz, grpC_size]) ?_ ?_
  · rw [splice_get _ _ _ _ hz, if_neg (by omega)]; exact grpC_n rfl
  · intro i j hi hj; rw [splice_get _ _ _ _ hz, planeC_size, if_pos (by omega)]; exact planeC_get i j (by omega) hi hj
end
def grpKs : List IntKind := .i64 :: List.replicate 36 .u8
theorem grpKs_u8 {i : Nat} (h1 : 1 ≤ i) (h2 : i < 37) : grpKs[i]? = some .u8 := by
  obtain ⟨j, rfl⟩ : ∃ j, i = j + 1 := ⟨i - 1, by omega⟩
  unfold grpKs
  rw [List.getElem?_cons_succ, List.getElem?_replicate, if_pos (by omega)]
theorem cells_grp {cs : Array Value} (hs : cs.size = 37) (h : KindsAt grpKs cs.toList) : ∃ (n : Int) (M : Nat → Nat → Nat), cs = grpC n M ∧ (∀ i j, M i j ≤ 255) ∧ (∀ i j, 6 ≤ i ∨ 6 ≤ j → M i j = 0) ∧ (-9223372036854775808 ≤ n ∧ n ≤ 9223372036854775807) := by
  have g0 := kind_get h (i := 0) (k := .i64) rfl;have gu := fun i h1 h2 => kind_get h (i := i) (k := .u8) (grpKs_u8 h1 h2);have bd : ∀ i, 1 ≤ i → i < 37 → 0 ≤ getI cs.toList[i]? ∧ getI cs.toList[i]? ≤ 255 := fun i h1 h2 => wf_u8 (gu i h1 h2).2;refine ⟨getI cs.toList[0]?, fun i j => if i < 6 ∧ j < 6 then (getI cs.toList[1 + i * 6 + j]?).toNat else 0, ?_, fun i j => ?_, fun i j hij => ?_, wf_i64 g0.2⟩
  · refine fnC_ext hs fun c hc => ?_
    by_cases h0 : c = 0
    · subst h0; rw [if_pos rfl, ← g0.1]; simp
    · rw [if_neg h0]
      have hb := bd c (by omega) (by omega);have hc1 := (gu c (by omega) (by omega)).1;have e0 : cs[c]? = cs.toList[c]? := by simp
      dsimp only
      rw [if_pos ⟨by omega, by omega⟩, show 1 + (c - 1) / 6 * 6 + (c - 1) % 6 = c by omega, Int.toNat_of_nonneg hb.1, e0];exact hc1
  · dsimp only
    split
    · have := bd (1 + i * 6 + j) (by omega) (by omega); omega
    · omega
  · dsimp only
    rw [if_neg (by omega)]
section
variable {H : Type} {enc : TypeId × Value → H} {P : Program} {w : World} {base : Nat} {spare : Nat → Bool} {held : Bool} {t : TypeId} {v : Value} {d : DataW H} {p : List MemPlace}
theorem open_grp {r : Go.Reach} {b0 : Nat} {fs : Array Field} {m : Nat} (ht : P.underlying t = some (.struct fs)) (hc : P.cellsOf t = 37) (hk : kindsT P m t = some grpKs) (hv : Value.okWide P w r b0 t v) (h : DataW.Trod enc P w base spare held t v d p) :
    ∃ (n : Int) (M : Nat → Nat → Nat), v = .agg (grpC n M) ∧ (∀ i j, M i j ≤ 255) ∧ (∀ i j, 6 ≤ i ∨ 6 ≤ j → M i j = 0) ∧ (-9223372036854775808 ≤ n ∧ n ≤ 9223372036854775807) := by
  obtain ⟨cs, rfl, hs⟩ := okWide_struct ht hv;obtain ⟨fuel, h⟩ := h;obtain ⟨n, M, rfl, h1⟩ := cells_grp (hs.trans hc) (trod_kinds m t _ hk fuel _ _ h);exact ⟨n, M, rfl, h1⟩
end
end Go.Sw

namespace Go.Sw
open Go Go.RowKit
variable {P : Program}
/-! ### Deferred calls: what was laid before lies behind the frame. -/
def addD (ds : List Deferred) (a : Act) : Act := ⟨a.tmps, a.defers ++ ds⟩
section
variable {ds : List Deferred} {ops : Array Oper} {Q : Exit → Act → World → Prop} {n : Nat} {F : List (Nat × Value)} {a : Act} {w : World}
end
end Go.Sw

namespace Go.Sw
open Go Go.RowKit
variable {P : Program}
section
variable {n : Nat} {F : List (Nat × Value)} {a : Act} {w : World} {d : Option Tmp} {t : TypeId} {pos : String} {af : Array Edge} {gd : Option (Nat × Bool)} {T : TypeId} {x y : Operand}
end
end Go.Sw

namespace Go.Sw
open Go Go.RowKit
variable {P : Program}
/-! ### A door: a deferred closure that recovers. -/
section
variable {ops : Array Oper} {Q : Exit → Act → World → Prop} {rest : List Oper} {n : Nat} {F : List (Nat × Value)} {a : Act} {w : World} {d : Option Tmp} {t : TypeId} {pos : String} {af : Array Edge} {gd : Option (Nat × Bool)}
def okA (tm : Array Value) : List (Nat × Value) → Prop
  | [] => True
  | (t, v) :: r => tm.getD t undef = v ∧ okA tm r
def Clo (P : Program) (f b : Nat) (u : FrameMode) (w : World) (c : Value) : Prop :=
  CallsD P f #[ptr b 0] u w fun e u' w' => (∃ v, e = .returned v) ∧ settle u' = .returning ∧ ExtX [b] w w' ∧ Blk w' b #[c]
end
end Go.Sw

namespace Go.Sw
open Go Go.RowKit
def l4 (a b c d : Nat) (i : Nat) : Nat := match i with
  | 0 => a
  | 1 => b
  | 2 => c
  | _ => d
theorem algC_putRow {p n : Int} {T : Nat → Nat → Nat → Nat} {f v : Nat → Nat} {o : Nat} (a b : Nat) (h : o = 2 + a * 36 + b * 6) (ha : a < 6) (hb : b < 6) : splice (algC p n T f) o (vecC v) = algC p n (fun i j k => if i = a ∧ j = b then v k else T i j k) f := by
  subst h;have hz : 2 + a * 36 + b * 6 + (vecC v).size ≤ (algC p n T f).size := by rw [vecC_size, cells_size]; omega
  refine algC_eq (by rw [splice_size _ _ _ hz, cells_size]) ?_ ?_ ?_ ?_
  · rw [splice_get _ _ _ _ hz, if_neg (by omega)]; exact algC_p rfl
  · rw [splice_get _ _ _ _ hz, if_neg (by omega)]; exact algC_n rfl
  · intro i j k hi hj hk
    rw [splice_get _ _ _ _ hz, vecC_size]
    by_cases e : i = a ∧ j = b
    · rw [if_pos (by omega), if_pos e]; exact vecC_get k (by omega) hk
    · rw [if_neg (by omega), if_neg e]; exact algC_T i j k rfl hi hj hk
  · intro i hi; rw [splice_get _ _ _ _ hz, vecC_size, if_neg (by omega)]; exact algC_f i rfl hi
theorem algC_congr {p n : Int} {T U : Nat → Nat → Nat → Nat} {f : Nat → Nat} (h : ∀ i, i < 6 → ∀ j, j < 6 → ∀ k, k < 6 → T i j k = U i j k) : algC p n T f = algC p n U f := by
  unfold algC
  refine fnC_congr fun c hc => ?_
  by_cases h0 : c = 0
  · rw [if_pos h0, if_pos h0]
  · rw [if_neg h0, if_neg h0]
    by_cases h1 : c = 1
    · rw [if_pos h1, if_pos h1]
    · rw [if_neg h1, if_neg h1]
      by_cases h2 : c < 218
      · rw [if_pos h2, if_pos h2, h _ (by omega) _ (by omega) _ (by omega)]
      · rw [if_neg h2, if_neg h2]
theorem algC_setE {p n : Int} {T : Nat → Nat → Nat → Nat} {f : Nat → Nat} {o v : Nat} (a b c : Nat) (h : o = 2 + a * 36 + b * 6 + c) (ha : a < 6) (hb : b < 6) (hc : c < 6) : (algC p n T f).setIfInBounds o (.int .u8 (v : Int)) = algC p n (fun i j k => if i = a ∧ j = b ∧ k = c then v else T i j k) f := by
  subst h;refine algC_eq (by rw [Array.size_setIfInBounds, cells_size]) ?_ ?_ ?_ ?_
  · rw [Array.getElem?_setIfInBounds_ne (by omega)]; exact algC_p rfl
  · rw [Array.getElem?_setIfInBounds_ne (by omega)]; exact algC_n rfl
  · intro i j k hi hj hk
    by_cases e : i = a ∧ j = b ∧ k = c
    · obtain ⟨rfl, rfl, rfl⟩ := e
      rw [Array.getElem?_setIfInBounds_self_of_lt (by rw [cells_size]; omega), if_pos ⟨rfl, rfl, rfl⟩]
    · rw [Array.getElem?_setIfInBounds_ne (by omega), if_neg e]; exact algC_T i j k rfl hi hj hk
  · intro i hi; rw [Array.getElem?_setIfInBounds_ne (by omega)]; exact algC_f i rfl hi
theorem algC_setF {p n : Int} {T : Nat → Nat → Nat → Nat} {f : Nat → Nat} {o v : Nat} (a : Nat) (h : o = 218 + a) (ha : a < 6) : (algC p n T f).setIfInBounds o (.int .u8 (v : Int)) = algC p n T (fun i => if i = a then v else f i) := by
  subst h;refine algC_eq (by rw [Array.size_setIfInBounds, cells_size]) ?_ ?_ ?_ ?_
  · rw [Array.getElem?_setIfInBounds_ne (by omega)]; exact algC_p rfl
  · rw [Array.getElem?_setIfInBounds_ne (by omega)]; exact algC_n rfl
  · intro i j k hi hj hk; rw [Array.getElem?_setIfInBounds_ne (by omega)]; exact algC_T i j k rfl hi hj hk
  · intro i hi
    by_cases e : i = a
    · subst e
      rw [Array.getElem?_setIfInBounds_self_of_lt (by rw [cells_size]; omega), if_pos rfl]
    · rw [Array.getElem?_setIfInBounds_ne (by omega), if_neg e]; exact algC_f i rfl hi
section
variable {P : Program} {n : Nat} {F : List (Nat × Value)} {a : Act} {w : World} {d : Option Tmp} {t : TypeId} {pos : String} {af : Array Edge} {gd : Option (Nat × Bool)}
theorem g_makeFuncB {fn : Fn} {x : Operand} {v : Value} (hF : Fr n a F) (hx : look F x = some v) : Gives P ⟨d, .makeFunc fn #[x] #[], t, pos, af, gd⟩ a w (.func fn #[v] #[]) :=
  gives_of_run (by simp [execOp, Instr.makeFunc, hF.eval hx])
theorem d_callVB {f : FuncId} {x : Operand} {bnd : List Value} {xs : List Operand} {vs : List Value} {ats : Array TypeId} {R : Value → World → Prop} (hf : ∀ args w, (callFunc f args).run P w = .ok (.enter f args) w) (hF : Fr n a F) (hfx : look F x = some (.func (.func f) bnd.toArray #[])) (hx : looks F xs vs) (hc : CallsR P f (bnd ++ vs).toArray w R) :
    Does P ⟨d, .call { callee := .value x, args := xs.toArray, argTypes := ats }, t, pos, af, gd⟩ a w (fun u w' => Ext w w' ∧ R u w') :=
  ⟨fun K Q hk => by
    have hrun : (execOp a.eval ⟨d, .call { callee := .value x, args := xs.toArray, argTypes := ats }, t, pos, af, gd⟩).run P w = .ok (.enter f (bnd ++ vs).toArray) w := by
      have e : (xs.toArray.map a.eval) = vs.toArray := by rw [← hF.evals hx]; simp
      simp [execOp, resolve, hF.eval hfx, Deferred.ofValue, invoke, e, hf]
    unfold Oper.wp
    rw [hrun]
    show Calls P f (bnd ++ vs).toArray w _
    exact Calls.mono (show Calls P f (bnd ++ vs).toArray w _ from hc) fun e w' ⟨v, he, h1, h2⟩ => by subst he; exact hk v w' ⟨h1, h2⟩⟩
end
end Go.Sw

namespace Go.Sw
open Go Go.RowKit Go.ChangeShapes Go.WideShapes Go.ChangeAt
structure ArgSS (w : World) (sl : Value) (m : Nat) (L : Nat → Nat) (R : Nat → Nat → Int) (xs : Nat → Option Addr) (ca be ob : Nat → Nat) : Prop where
  out : ∃ x c, sl = .slice x m c
  cell : 0 < m → ∃ b o c, sl = .slice (some ⟨b, o, none⟩) m c ∧ ∀ i, i < m → w.cell? ⟨b, o + i * 1, none⟩ = some (.slice (xs i) (L i) (ca i))
  adr : ∀ i, i < m → 0 < L i → xs i = some ⟨be i, ob i, none⟩
  num : ∀ i, i < m → ∀ j, j < L i → w.cell? ⟨be i, ob i + j * 1, none⟩ = some (.int .i64 (R i j))
namespace ArgSS
variable {w w' : World} {sl : Value} {m : Nat} {L : Nat → Nat} {R : Nat → Nat → Int} {xs : Nat → Option Addr} {ca be ob : Nat → Nat}
theorem ext (h : ArgSS w sl m L R xs ca be ob) (hx : Ext w w') : ArgSS w' sl m L R xs ca be ob :=
  ⟨h.out, fun hm => by obtain ⟨b, o, c, h1, h2⟩ := h.cell hm; exact ⟨b, o, c, h1, fun i hi => cell_ext (h2 i hi) hx⟩, h.adr, fun i hi j hj => cell_ext (h.num i hi j hj) hx⟩
theorem one (h : ArgSS w sl m L R xs ca be ob) : sl.oneCell' = true := by
  obtain ⟨x, c, rfl⟩ := h.out; rfl
theorem row (h : ArgSS w sl m L R xs ca be ob) {i : Nat} (hi : i < m) : ArgSl w (.slice (xs i) (L i) (ca i)) (L i) (R i) :=
  ⟨⟨_, _, rfl⟩, fun hl => ⟨be i, ob i, ca i, by rw [h.adr i hi hl], h.num i hi⟩⟩
theorem congr {R' : Nat → Nat → Int} (h : ArgSS w sl m L R xs ca be ob) (e : ∀ i, i < m → ∀ j, j < L i → R i j = R' i j) : ArgSS w sl m L R' xs ca be ob :=
  ⟨h.out, h.cell, h.adr, fun i hi j hj => by rw [← e i hi j hj]; exact h.num i hi j hj⟩
end ArgSS
section
variable {H : Type} {enc : TypeId × Value → H} {P : Program} {w : World} {base : Nat} {spare : Nat → Bool} {held : Bool}
theorem argss_of_trod {t e e2 : TypeId} {fuel : Nat} {v : Value} {y : DataW H × List MemPlace} (ht : P.underlying t = some (.slice e)) (he : P.underlying e = some (.slice e2)) (he2 : P.underlying e2 = some (.int .i64)) (hc : P.cellsOf e = 1) (hc2 : P.cellsOf e2 = 1)
    (h : DataW.trod enc P w base spare held fuel t [v] = some y) : ∃ (m : Nat) (L : Nat → Nat) (R : Nat → Nat → Int) (xs : Nat → Option Addr) (ca be ob : Nat → Nat), ArgSS w v m L R xs ca be ob ∧ m ≤ maxLen ∧ (∀ i, L i ≤ maxLen) ∧ ∀ i j, -9223372036854775808 ≤ R i j ∧ R i j ≤ 9223372036854775807 := by
  rcases DataW.trod_slice ht h with ⟨e1, _⟩ | ⟨ad, len, cap, elems, rest, n, _, e1, _, hb, hl, hmx, hlen, hel, _, _⟩
  · simp only [List.cons.injEq, and_true] at e1
    subst e1;exact ⟨0, fun _ => 0, fun _ _ => 0, fun _ => none, fun _ => 0, fun _ => 0, fun _ => 0, ⟨⟨none, 0, rfl⟩, fun h => absurd h (by omega), fun i hi => absurd hi (by omega), fun i hi => absurd hi (by omega)⟩, Nat.zero_le _, fun _ => Nat.zero_le _, fun _ _ => by dsimp only; omega⟩
  · simp only [List.cons.injEq, and_true] at e1
    subst e1;have each : ∀ i, i < len → ∃ q : Value × Nat × (Nat → Int), w.cell? (ad.add (i * 1)) = some q.1 ∧ ArgSl w q.1 q.2.1 q.2.2 ∧ q.2.1 ≤ maxLen ∧ ∀ j, -9223372036854775808 ≤ q.2.2 j ∧ q.2.2 j ≤ 9223372036854775807 := by
      intro i hi;have h1 := hel i hi;rw [hc] at h1;have hle : i < elems.length := by omega
      rw [List.getElem?_eq_getElem hle, Option.bind_eq_some_iff] at h1;obtain ⟨cs, hcs, hd⟩ := h1;obtain ⟨hl1, hg⟩ := cells?_get hcs;obtain ⟨v, rfl⟩ : ∃ v, cs = [v] := by
        match cs, hl1 with
        | [v], _ => exact ⟨v, rfl⟩
      have hg0 := hg 0 (by omega);obtain ⟨m, g, h2, h3, h4⟩ := arg_of_trod he he2 hc2 hd;exact ⟨(v, m, g), by rw [show (ad.add (i * 1)).add 0 = ad.add (i * 1) from rfl] at hg0; exact hg0, h2, h3, h4⟩
    obtain ⟨Q, hQ⟩ : ∃ Q : Nat → Value × Nat × (Nat → Int), ∀ i, i < len → w.cell? (ad.add (i * 1)) = some (Q i).1 ∧ ArgSl w (Q i).1 (Q i).2.1 (Q i).2.2 ∧ (Q i).2.1 ≤ maxLen ∧ ∀ j, -9223372036854775808 ≤ (Q i).2.2 j ∧ (Q i).2.2 j ≤ 9223372036854775807 :=
      ⟨fun i => if hi : i < len then Classical.choose (each i hi) else (.nilFunc, 0, fun _ => 0), fun i hi => by simp only [dif_pos hi]; exact Classical.choose_spec (each i hi)⟩
    have xc : ∀ i, i < len → ∃ q : Option Addr × Nat, (Q i).1 = .slice q.1 (Q i).2.1 q.2 := fun i hi => by
      obtain ⟨x, c, h⟩ := (hQ i hi).2.1.1;exact ⟨(x, c), h⟩
    obtain ⟨XC, hXC⟩ : ∃ XC : Nat → Option Addr × Nat, ∀ i, i < len → (Q i).1 = .slice (XC i).1 (Q i).2.1 (XC i).2 :=
      ⟨fun i => if hi : i < len then Classical.choose (xc i hi) else (none, 0), fun i hi => by simp only [dif_pos hi]; exact Classical.choose_spec (xc i hi)⟩
    have bo : ∀ i, i < len → ∃ q : Nat × Nat, 0 < (Q i).2.1 → (XC i).1 = some ⟨q.1, q.2, none⟩ ∧ ∀ j, j < (Q i).2.1 → w.cell? ⟨q.1, q.2 + j * 1, none⟩ = some (.int .i64 ((Q i).2.2 j)) := fun i hi => by
      by_cases h0 : 0 < (Q i).2.1
      · obtain ⟨b, o, c, h1, h2⟩ := (hQ i hi).2.1.2 h0
        rw [hXC i hi] at h1
        injection h1 with h1
        exact ⟨(b, o), fun _ => ⟨h1, h2⟩⟩
      · exact ⟨(0, 0), fun h => absurd h h0⟩
    obtain ⟨BO, hBO⟩ : ∃ BO : Nat → Nat × Nat, ∀ i, i < len → 0 < (Q i).2.1 → (XC i).1 = some ⟨(BO i).1, (BO i).2, none⟩ ∧ ∀ j, j < (Q i).2.1 → w.cell? ⟨(BO i).1, (BO i).2 + j * 1, none⟩ = some (.int .i64 ((Q i).2.2 j)) :=
      ⟨fun i => if hi : i < len then Classical.choose (bo i hi) else (0, 0), fun i hi => by simp only [dif_pos hi]; exact Classical.choose_spec (bo i hi)⟩
    refine ⟨len, fun i => if i < len then (Q i).2.1 else 0, fun i j => if i < len then (Q i).2.2 j else 0, fun i => (XC i).1, fun i => (XC i).2, fun i => (BO i).1, fun i => (BO i).2, ⟨⟨some ad, cap, rfl⟩, fun hm => ?_, fun i hi hl => ?_, fun i hi j hj => ?_⟩, Nat.le_trans hl hmx, fun i => ?_, fun i j => ?_⟩
    · have h0 := (hQ 0 hm).1
      obtain ⟨b, o, s⟩ := ad;have hs : s = none := by
        cases s with
        | none => rfl
        | some s =>
          have := World.cell?_spot h0
          simp [Addr.add] at this
      subst hs;refine ⟨b, o, cap, rfl, fun i hi => ?_⟩;have hi' := (hQ i hi).1;rw [Addr.add_lit] at hi';rw [hi', hXC i hi];simp only [if_pos hi]
    · simp only [if_pos hi] at hl
      exact (hBO i hi hl).1
    · simp only [if_pos hi] at hj ⊢
      exact (hBO i hi (by omega)).2 j hj
    · dsimp only
      split
      · rename_i hi; exact (hQ i hi).2.2.1
      · exact Nat.zero_le _
    · dsimp only
      split
      · rename_i hi; exact (hQ i hi).2.2.2 j
      · omega
theorem open_ss {r : Go.Reach} {b0 : Nat} {t e e2 : TypeId} {v : Value} {d : DataW H} {p : List MemPlace} (ht : P.underlying t = some (.slice e)) (he : P.underlying e = some (.slice e2)) (he2 : P.underlying e2 = some (.int .i64)) (hc : P.cellsOf e = 1) (hc2 : P.cellsOf e2 = 1)
    (hv : Value.okWide P w r b0 t v) (h : DataW.Trod enc P w base spare held t v d p) : ∃ (m : Nat) (L : Nat → Nat) (R : Nat → Nat → Int) (xs : Nat → Option Addr) (ca be ob : Nat → Nat), ArgSS w v m L R xs ca be ob ∧ m ≤ maxLen ∧ (∀ i, L i ≤ maxLen) ∧ ∀ i j, -9223372036854775808 ≤ R i j ∧ R i j ≤ 9223372036854775807 := by
  obtain ⟨a, l, c, rfl⟩ := okWide_slice ht hv;obtain ⟨fuel, h⟩ := h;exact argss_of_trod ht he he2 hc hc2 h
end
def rowsC (m : Nat) (L : Nat → Nat) (β : Nat → Nat) : Array Value := fnC m fun i => .slice (some ⟨β i, 0, none⟩) (L i) (L i)
structure SSD (D : Froz) (u : Value) (m : Nat) (L : Nat → Nat) (R : Nat → Nat → Int) (b : Nat) (β : Nat → Nat) : Prop where
  val : u = .slice (some ⟨b, 0, none⟩) m m
  out : (b, rowsC m L β) ∈ D
  row : ∀ i, i < m → (β i, numI (L i) (R i)) ∈ D
theorem SSD.more {D D' : Froz} {u : Value} {m b : Nat} {L β : Nat → Nat} {R : Nat → Nat → Int} (h : SSD D u m L R b β) (hs : ∀ x, x ∈ D → x ∈ D') : SSD D' u m L R b β := ⟨h.val, hs _ h.out, fun i hi => hs _ (h.row i hi)⟩
def SSOut (w w' : World) (m : Nat) (L : Nat → Nat) (R : Nat → Nat → Int) (u : Value) : Prop := ∃ (D : Froz) (b : Nat) (β : Nat → Nat), (∀ x ds, (x, ds) ∈ D → w.heap.size ≤ x ∧ Blk w' x ds) ∧ SSD D u m L R b β
theorem Blk.cellAt {w : World} {b i : Nat} {cs : Array Value} {v : Value} (h : Blk w b cs) (hv : cs[i]? = some v) : w.cell? ⟨b, i, none⟩ = some v := (h.cell i).trans hv
theorem SSD.arg {D : Froz} {w : World} {u : Value} {m b : Nat} {L β : Nat → Nat} {R : Nat → Nat → Int} (h : SSD D u m L R b β) (hD : ∀ c ds, (c, ds) ∈ D → Blk w c ds) : ArgSS w u m L R (fun i => some ⟨β i, 0, none⟩) L β (fun _ => 0) :=
  ⟨⟨_, _, h.val⟩, fun _ => ⟨b, 0, m, h.val, fun i hi => Blk.cellAt (hD _ _ h.out) (by rw [Nat.zero_add, Nat.mul_one]; exact fnC_get hi)⟩, fun _ _ _ => rfl,
   fun i hi j hj => Blk.cellAt (hD _ _ (h.row i hi)) (by rw [Nat.zero_add, Nat.mul_one]; exact fnC_get hj)⟩
end Go.Sw

namespace Go.Sw
theorem wordsSigns_nb : ∀ (c : Char) (r : List Char), c ≠ ' ' → wordsSigns (c :: r) = match wordsSigns r with
    | w :: ws => (c :: w) :: ws
    | [] => [[c]] := by
  intro c r h;rw [wordsSigns.eq_def]
  split
  · simp_all
  · rename_i heq; simp at heq; exact absurd heq.1 h
  · rename_i heq; simp only [List.cons.injEq] at heq; obtain ⟨rfl, rfl⟩ := heq; rfl
theorem wordsSigns_word : ∀ (w r : List Char), (∀ c ∈ w, c ≠ ' ') → wordsSigns (w ++ ' ' :: r) = w :: wordsSigns r
  | [], r, _ => by simp [wordsSigns]
  | c :: w, r, h => by
    rw [List.cons_append, wordsSigns_nb c _ (h c (by simp)), wordsSigns_word w r (fun d hd => h d (by simp [hd]))]
theorem sum_nb (s : List Char) (h : isSumSigns s = true) : ∀ c ∈ s, c ≠ ' ' := by
  intro c hc he
  unfold isSumSigns at h
  simp only [Bool.and_eq_true, List.all_eq_true] at h;have := h.2 c hc;subst he
  revert this; decide
theorem cutHead (L s r : List Char) (h : L = "harness".toList ++ ' ' :: (s ++ ' ' :: ("cut".toList ++ ' ' :: r))) (hs : isSumSigns s = true) :
    behindMainWord (wordsSigns L) = "cut".toList :: wordsSigns r := by
  rw [h, wordsSigns_word _ _ (by decide), wordsSigns_word _ _ (sum_nb s hs), wordsSigns_word _ _ (by decide)];have : ("harness".toList == "harness".toList || "harness".toList == "ownmain".toList) = true := by decide
  unfold behindMainWord
  show (if (("harness".toList == "harness".toList || "harness".toList == "ownmain".toList) && isSumSigns s) = true then _ else _) = _
  rw [if_pos (by rw [this, hs]; rfl)]
theorem strip_cut (R : List (List Char)) : stripLifts liftWords ("cut".toList :: R) = ([], "cut".toList :: R) := by
  kernel_rfl
theorem lifts_cut (P : Program) (R : List (List Char)) (h : behindMainWord (wordsSigns P.initOrder.toList) = "cut".toList :: R) : P.headLifts = [] := by
  unfold Program.headLifts; rw [h, strip_cut]; rfl
theorem make_cut (P : Program) (R : List (List Char)) (h : behindMainWord (wordsSigns P.initOrder.toList) = "cut".toList :: R) : P.make = some .cut := by
  unfold Program.make; rw [h]
  have h1 : ("cut".toList == "gc".toList || "cut".toList == "spec".toList) = false := by decide
  have h2 : ("cut".toList == "cut".toList) = true := by decide
  simp only [h1, h2]; rfl
theorem final_cut (P : Program) (R : List (List Char)) (h : behindMainWord (wordsSigns P.initOrder.toList) = "cut".toList :: R) : P.liftsFinal = false := by
  unfold Program.liftsFinal; rw [lifts_cut P R h, h]; kernel_rfl
theorem enter_cut (P : Program) (R : List (List Char)) (h : behindMainWord (wordsSigns P.initOrder.toList) = "cut".toList :: R)
    (hl : P.laysLater = false) (hb : P.bearsReflect = false) (hd : P.doorFits [] = true) : P.mayEnter = true := by
  unfold Program.mayEnter; rw [h]
  simp only [strip_cut, hl, hb, hd]
  kernel_rfl
end Go.Sw
