/- Plain lemmas of a small calculus for walks over frames and own memory; no statement of the seat is proved here. -/
import Derived.Test.YtfbhngnfhpjonaaSw37
set_option linter.unusedVariables false
set_option linter.unusedSimpArgs false
namespace Go.Sw
open Go Go.RowKit
variable {P : Program}
/-! ### Labels and jumps. -/
/-- By a jump: J; otherwise as Q. -/
def Exit.goes (J : Nat → Act → World → Prop) (Q : Exit → Act → World → Prop) : Exit → Act → World → Prop
  | .goto l, a, w => J l a w
  | e, a, w => Q e a w
section
variable {Q : Exit → Act → World → Prop} {J : Nat → Act → World → Prop} {K : Act → World → Prop} {a : Act} {w : World}
theorem tG {l : Nat} (h : Q (.goto l) a w) : Exit.then K Q (.goto l) a w := h
theorem iG {l id : Nat} (h : Q (.goto l) a w) : Exit.inBlock id Q (.goto l) a w := h
theorem gN (h : Q .normal a w) : Exit.goes J Q .normal a w := h
theorem gR (h : Q .ret a w) : Exit.goes J Q .ret a w := h
theorem gX {i : Nat} (h : Q (.exit i) a w) : Exit.goes J Q (.exit i) a w := h
theorem gG {l : Nat} (h : J l a w) : Exit.goes J Q (.goto l) a w := h
theorem wp_scope_labels {c : Code} (J : Nat → Nat → Act → World → Prop) (hs : ∀ l m a w, J l m a w → ∃ x, findLabel c l = some (.seq .skip x))
    (pass : ∀ l m a w, J l m a w → ∀ x, findLabel c l = some (.seq .skip x) → x.wp P (Exit.goes (fun l' a' w' => ∃ m', m' < m ∧ J l' m' a' w') Q) a w)
    (first : (∀ l m a w, J l m a w → ∀ x, findLabel c l = some (.seq .skip x) → x.wp P (Exit.goes (fun l' a' w' => ∃ m', J l' m' a' w') Q) a w) → c.wp P (Exit.goes (fun l a w => ∃ m, J l m a w) Q) a w) : (Code.scope c).wp P Q a w := by
  intro b k cs
  have key : ∀ m l a w, J l m a w → ∀ x, findLabel c l = some (.seq .skip x) → ∃ e a' w', Q e a' w' ∧ Arrives P (lone (b.at a (.code (.seq .skip x) :: .inScope c :: k)) cs w) b k cs e a' w' := by
    intro m
    induction m using Nat.strongRecOn with
    | _ m ih =>
      intro l a w hJ x hx
      obtain ⟨e, a₁, w₁, hq, harr⟩ := (wp_seq (wp_skip (show Exit.then _ _ .normal a w from pass l m a w hJ x hx)) : (Code.seq .skip x).wp P _ a w) b (.inScope c :: k) cs
      cases e with
      | normal => exact ⟨.normal, a₁, w₁, hq, Steps.trans harr (.one step_inScope)⟩
      | exit id => exact ⟨.exit id, a₁, w₁, hq, fun k' hk => harr k' (by simp [exitTo, hk])⟩
      | goto l' =>
        obtain ⟨m', hlt, hJ'⟩ := hq
        obtain ⟨x', hx'⟩ := hs l' m' a₁ w₁ hJ'
        obtain ⟨e₂, a₂, w₂, hq₂, harr₂⟩ := ih m' hlt l' a₁ w₁ hJ' x' hx'
        exact ⟨e₂, a₂, w₂, hq₂, .of_steps (harr _ (by simp [gotoIn, hx'])) harr₂⟩
      | ret => exact ⟨_, a₁, w₁, hq, harr⟩
      | panic ch => exact ⟨_, a₁, w₁, hq, harr⟩
      | outgrown => exact ⟨_, a₁, w₁, hq, harr⟩
  have first' := first fun l m a w hJ x hx => wp_mono (pass l m a w hJ x hx) fun e a w h => by
    cases e with
    | goto l' => obtain ⟨m', _, h'⟩ := h; exact ⟨m', h'⟩
    | _ => exact h
  obtain ⟨e, a₁, w₁, hq, harr⟩ := first' b (.inScope c :: k) cs
  cases e with
  | normal => exact ⟨.normal, a₁, w₁, hq, .head step_scope (Steps.trans harr (.one step_inScope))⟩
  | exit id => exact ⟨.exit id, a₁, w₁, hq, fun k' hk => .head step_scope (harr k' (by simp [exitTo, hk]))⟩
  | goto l' =>
    obtain ⟨m', hJ'⟩ := hq
    obtain ⟨x', hx'⟩ := hs l' m' a₁ w₁ hJ'
    obtain ⟨e₂, a₂, w₂, hq₂, harr₂⟩ := key m' l' a₁ w₁ hJ' x' hx'
    exact ⟨e₂, a₂, w₂, hq₂, .of_steps (.head step_scope (harr _ (by simp [gotoIn, hx']))) harr₂⟩
  | ret => exact ⟨_, a₁, w₁, hq, .of_steps (.one step_scope) harr⟩
  | panic ch => exact ⟨_, a₁, w₁, hq, .of_steps (.one step_scope) harr⟩
  | outgrown => exact ⟨_, a₁, w₁, hq, .of_steps (.one step_scope) harr⟩
end
section
variable {n : Nat} {F : List (Nat × Value)} {a : Act} {w : World} {d : Option Tmp} {t T : TypeId} {pos : String} {af : Array Edge} {gd : Option (Nat × Bool)} {x : Operand}
theorem g_nilCheck {b o : Nat} (hF : Fr n a F) (hx : look F x = some (ptr b o)) : Gives P ⟨d, .nilCheck x, t, pos, af, gd⟩ a w (ptr b o) :=
  gives_of_run (by simp [execOp, hF.eval hx])
end
/-- A text that isn't empty isn't the empty text. -/
theorem str_eq {s u : ByteArray} (h : s.toList = u.toList) : s = u := by
  have h2 : (s.toList == u.toList) = true := by rw [h]; simp
  exact ByteArray.ext (by simpa [ByteArray.toList_eq] using h2)
theorem str_ne {s : ByteArray} (h : 0 < s.size) : ¬ (s : ByteArray).toList = (⟨#[]⟩ : ByteArray).toList := by
  intro e
  have h1 := str_eq e
  subst h1
  exact absurd h (by decide)
theorem str_e0 {s : ByteArray} (h : s.size = 0) : s = ⟨#[]⟩ := by
  cases s with
  | mk d =>
    have : d = #[] := Array.eq_empty_of_size_eq_zero h
    subst this; rfl
section
variable {P : Program} {fn : Func} {a : Act} {w : World}
theorem fin3 {r s t : ResultVar} {v u x : Value} {R : Ending → World → Prop} (hr : fn.results = #[r, s, t]) (hd : a.defers = []) (h1 : resIs P a w r v) (h2 : resIs P a w s u) (h3 : resIs P a w t x) (h : R (.returned (.tuple #[v, u, x])) w) : bodyPost P fn R .ret a w :=
  bodyPost_ret (by
    rw [results_eq, hr]
    simp [resIs_run h1, resIs_run h2, resIs_run h3]) hd h
end
end Go.Sw

namespace Go.Sw
open Go Go.RowKit
/-! ### Texts from bytes. -/
/-- The text of m bytes. -/
def txt (m : Nat) (g : Nat → Nat) : ByteArray := ((List.range m).map fun i => ((g i : Nat) : Int)).foldl (fun r n => r.push (UInt8.ofNat n.toNat)) ByteArray.empty
theorem txt_congr {m : Nat} {f g : Nat → Nat} (h : ∀ i, i < m → f i = g i) : txt m f = txt m g := by
  unfold txt
  congr 1
  exact List.map_congr_left fun i hi => by rw [h i (List.mem_range.1 hi)]
/-- m bytes in memory. -/
def dgC (m : Nat) (f : Nat → Nat) : Array Value := fnC m (fun c => .int .u8 ((f c : Nat) : Int))
theorem dgC_size {m : Nat} {f : Nat → Nat} : (dgC m f).size = m := fnC_size _ _
theorem dgC_get {m q k : Nat} {f : Nat → Nat} (h : q = k) (hk : k < m) : (dgC m f)[q]? = some (.int .u8 ((f k : Nat) : Int)) := by subst h; exact fnC_get hk
theorem dgC_congr {m : Nat} {f g : Nat → Nat} (h : ∀ c, c < m → f c = g c) : dgC m f = dgC m g := fnC_congr fun c hc => by rw [h c hc]
theorem dgC_set {m q k : Nat} {f g : Nat → Nat} {x : Int} (h : q = k) (hx : x = ((g k : Nat) : Int)) (hg : ∀ c, c < m → c ≠ k → g c = f c) : (dgC m f).setIfInBounds q (.int .u8 x) = dgC m g := by
  subst h; subst hx
  refine fnC_set fun c hc => ?_
  by_cases e : c = q
  · rw [if_pos e, e]
  · rw [if_neg e, hg c hc e]
/-- The letter of a number. -/
def dig (k : Nat) : Nat := if k < 10 then 48 + k else 97 + k - 10
def digs : ByteArray := ⟨#[48, 49, 50, 51, 52, 53, 54, 55, 56, 57, 97, 98, 99]⟩
theorem digs_size {k : Nat} (h : k < 13) : k < digs.size := h
theorem byt_digs {k : Nat} (h : k < 13) : byt digs k = dig k := by
  have : ∀ k : Fin 13, byt digs k.1 = dig k.1 := by decide
  exact this ⟨k, h⟩
section
variable {P : Program} {n : Nat} {F : List (Nat × Value)} {a : Act} {w : World} {d : Option Tmp} {t T T' : TypeId} {pos : String} {af : Array Edge} {gd : Option (Nat × Bool)} {x y z : Operand}
/-- A slice of bytes as a text. -/
theorem g_b2sN {e : TypeId} {b c m : Nat} {g : Nat → Nat} {cs : Array Value} (hT : P.underlying T = some (.slice e)) (hT' : P.underlying T' = some .string) (he : P.underlying e = some (.int .u8)) (hF : Fr n a F) (hx : look F x = some (.slice (some ⟨b, 0, none⟩) m c)) (hb : Blk w b cs) (hc : ∀ i, i < m → cs[0 + i * 1]? = some (.int .u8 ((g i : Nat) : Int))) :
    Gives P ⟨d, .convert T T' x, t, pos, af, gd⟩ a w (.string (txt m g)) := by
  have hl := run_loadCells_list (P := P) (w := w) ⟨b, 0, none⟩ (((List.range m).map fun i => ((g i : Nat) : Int)).map (Value.int .u8)) (fun j u hj => by
    have hjm : j < m := by have := (List.getElem?_eq_some_iff.1 hj).1; simpa using this
    rw [List.getElem?_map, List.getElem?_map, List.getElem?_range hjm] at hj
    simp only [Option.map_some, Option.some.injEq] at hj
    subst hj
    rw [Addr.add_lit, hb.cell]
    have := hc j hjm
    rwa [show 0 + j * 1 = 0 + j by omega] at this)
  rw [List.length_map, List.length_map, List.length_range] at hl
  have hr := run_bytesToString (P := P) w ⟨b, 0, none⟩ m c ((List.range m).map fun i => ((g i : Nat) : Int)) hl
  exact gives_of_run (by simp [execOp, convert, run_underlying hT, run_underlying hT', run_underlying he, hF.eval hx, hr]; rfl)
end
end Go.Sw
