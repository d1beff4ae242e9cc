/- Plain lemmas of a small calculus for walks over frames and own memory; no statement of the seat is proved here. -/
import Derived.Test.YtfencffdhenjdaaDoorSw26
import Derived.Test.YtfencffdhenjdaaDoorSw9
import Derived.Test.YtfencffdhenjdaaDoorSw21
import Derived.ReadAgain
import Derived.ChangeSlices
import Derived.ChangeVars
import Derived.LaidLaws
import Derived.Stop.LaidErr
set_option linter.unusedVariables false
set_option linter.unusedSimpArgs false
namespace Go.Sw
open Go Go.RowKit Go.ChangeShapes Go.WideShapes Go.ChangeAt
/-- m integers, one behind the other. -/
def numI (m : Nat) (g : Nat → Int) : Array Value := fnC m (fun c => .int .i64 (g c))
section
variable {m q : Nat} {f g : Nat → Int}
end
/-- A list of integers that came in. -/
def ArgSl (w : World) (sl : Value) (m : Nat) (g : Nat → Int) : Prop :=
  (∃ x c, sl = .slice x m c) ∧ (0 < m → ∃ b o c, sl = .slice (some ⟨b, o, none⟩) m c ∧ ∀ i, i < m → w.cell? ⟨b, o + i * 1, none⟩ = some (.int .i64 (g i)))
theorem cell_ext {w w' : World} {b o : Nat} {v : Value} (h : w.cell? ⟨b, o, none⟩ = some v) (hx : Ext w w') : w'.cell? ⟨b, o, none⟩ = some v := by
  have hb : b < w.heap.size := by
    by_cases hb : b < w.heap.size
    · exact hb
    · have hn : w.heap[b]? = none := by simp; omega
      unfold World.cell? at h
      simp only [hn] at h
      cases h
  unfold World.cell? at h ⊢
  simp only [hx.block b hb]
  exact h
theorem ArgSl.ext {w w' : World} {sl : Value} {m : Nat} {g : Nat → Int} (h : ArgSl w sl m g) (hx : Ext w w') : ArgSl w' sl m g :=
  ⟨h.1, fun hm => by obtain ⟨b, o, c, h1, h3⟩ := h.2 hm; exact ⟨b, o, c, h1, fun i hi => cell_ext (h3 i hi) hx⟩⟩
theorem ArgSl.one {w : World} {sl : Value} {m : Nat} {g : Nat → Int} (h : ArgSl w sl m g) : sl.oneCell' = true := by
  obtain ⟨⟨x, c, rfl⟩, _⟩ := h; rfl
theorem ArgSl.congr {w : World} {sl : Value} {m : Nat} {g g' : Nat → Int} (h : ArgSl w sl m g) (e : ∀ i, i < m → g i = g' i) : ArgSl w sl m g' :=
  ⟨h.1, fun hm => by obtain ⟨b, o, c, h1, h3⟩ := h.2 hm; exact ⟨b, o, c, h1, fun i hi => by rw [← e i hi]; exact h3 i hi⟩⟩
section
variable {P : Program} {n : Nat} {F : List (Nat × Value)} {a : Act} {w : World} {d : Option Tmp} {t : TypeId} {pos : String} {af : Array Edge} {gd : Option (Nat × Bool)} {x : Operand}
end
section
variable {H : Type} {enc : TypeId × Value → H} {P : Program} {w w' : World}
theorem sameAt_ext (hx : Ext w w') {p : MemPlace} (hp : p.block < w.heap.size) : w.sameAt w' p := by
  have h := hx.block p.block hp
  cases p with
  | cell b off =>
    show w'.cell? ⟨b, off, none⟩ = w.cell? ⟨b, off, none⟩
    simp only [MemPlace.block] at h
    unfold World.cell?
    simp only [h]
  | map b => exact h
variable {base : Nat} {spare : Nat → Bool} {held : Bool}
/-- What the fields of a tensor's type are. -/
def tenFs (fs : Array Field) (ti ts : TypeId) : Bool := (List.range 5).all fun i => match fs[i]? with
  | some f => Nat.beq f.offset i && Nat.beq f.type (if i < 4 then ti else ts)
  | none => false
end
section
variable {P : Program} {X : List Nat} {w0 w : World} {L : Own} {D : Froz} {n : Nat} {F : List (Nat × Value)} {a : Act} {d : Option Tmp} {T : TypeId} {t : TypeId} {pos : String} {af : Array Edge} {gd : Option (Nat × Bool)} {x y : Operand}
theorem d_make1b {len by' : Nat} {e : TypeId} {z : Value} (k : Nat) (hM : MemX X w0 w L D) (hF : Fr n a F) (hT : slI P T = some (e, some z, 1, by')) (hz : z.cells = #[z]) (hx : look F x = some (.int .i64 (len : Int))) (hy : look F y = some (.int .i64 (len : Int))) (hl : len < 10000000) (hb : by' < 1000) :
    Does P ⟨d, .makeSlice T x y, t, pos, af, gd⟩ a w (fun u w' => ∃ b, u = .slice (some ⟨b, 0, none⟩) len len ∧ MemX X w0 w' (L.set k (some (b, fnC len (fun _ => z)))) D ∧ Ext w w') :=
  ⟨fun K Q hk => by
    have := hk _ (w.alloc (.cells (fnC len (fun _ => z)) e)) ⟨w.heap.size, rfl, hM.fill (Ext.alloc _ _) k (Blk.new _ _ _) (Nat.le_refl _), Ext.alloc _ _⟩
    unfold slI at hT
    cases hu : P.underlying T with
    | none => simp [hu] at hT
    | some dd =>
      cases dd <;> simp [hu] at hT
      rename_i el
      obtain ⟨inf, hinf, rfl, hz0, hsz, hby⟩ := hT
      have hmul : inf.bytes * len ≤ 1000 * 10000000 := Nat.mul_le_mul (by omega) (by omega)
      have hmul2 : ((inf.bytes : Nat) : Int) * (len : Int) ≤ 281474976710656 := by
        have : ((inf.bytes * len : Nat) : Int) ≤ 281474976710656 := by omega
        rwa [Int.natCast_mul] at this
      have hrun := run_make (P := P) w T el inf z hu hinf hz0 .i64 .i64 (len : Int) (len : Int) (by omega) (Int.le_refl _) hmul2 (by omega)
      have ec : madeCells z.cells (len * inf.size) = fnC len (fun _ => z) := by
        rw [hsz, hz, Nat.mul_one]
        apply fnC_ext (size_madeCells _ _)
        intro i hi
        unfold madeCells
        rw [Array.getElem?_map, Array.getElem?_range, if_pos hi]
        simp [Nat.mod_one]
      simp only [Int.toNat_natCast, ec] at hrun
      unfold Oper.wp execOp
      simp only [hF.eval hx, hF.eval hy, Sem.run_bind, hrun, Result.andThen_ok, Sem.run_pure]
      exact this⟩
end
/-- A new tensor, its numbers integers in memory of their own. -/
abbrev TenOutI (w w' : World) (p n i o : Int) (m : Nat) (g : Nat → Int) (v : Value) : Prop :=
  ∃ b, v = .agg (tenC p n i o (.slice (some ⟨b, 0, none⟩) m m)) ∧ w.heap.size ≤ b ∧ Blk w' b (numI m g)
end Go.Sw

namespace Go.Sw
open Go Go.RowKit Go.ChangeShapes Go.WideShapes Go.ChangeAt
section
variable {H : Type} {enc : TypeId × Value → H} {P : Program} {w w' : World}
theorem var_lt {n : String} {g : Nat} {cs : Array Value} (hg : P.globalNamed n = some g) (h : w.var? P n = some cs) : g < w.heap.size := by
  unfold World.var? at h
  simp only [hg, Option.bind_some] at h
  by_cases hb : g < w.heap.size
  · exact hb
  · have hn : w.heap[g]? = none := by simp; omega
    simp [hn] at h
theorem var_ext {n : String} {g : Nat} {cs : Array Value} (hg : P.globalNamed n = some g) (h : w.var? P n = some cs) (hx : Ext w w') : w'.var? P n = some cs := by
  have hb := hx.block g (var_lt hg h)
  unfold World.var? at h ⊢
  simp only [hg, Option.bind_some] at h ⊢
  rw [hb]; exact h
/-- A variable that the reading takes reads again as it did, where nothing old was written. -/
theorem vars_again1 (hl : laidOutB P = true) (hm : mapsRowed P = true) (hz : ((List.range P.types.size).all fun t => match P.underlying t with | some (.slice e) => decide (0 < P.cellsOf e) | _ => true) = true)
    {n : String} {gs : List (DataW H)} {q : List MemPlace} (h : DataW.TrodVars enc P w (fun _ => true) [n] gs q) (hT : ∀ g t, P.globalNamed n = some g → (P.globals[g]?).map (·.type) = some t → t < P.types.size) (hx : Ext w w')
    (hlt : ∀ p ∈ q, p.block < w.heap.size) (sp : Nat → Bool) (hsp : ∀ p ∈ q, sp p.block = true) : DataW.TrodVars enc P w' sp [n] gs q := by
  obtain ⟨g, t, cs, fuel, d, p, rfl, h1, h2, h3, h4, rfl⟩ := trodVars_one h
  refine trodVars_mk1 h1 h2 (var_ext h1 h3 hx) (DataW.trod_carry fuel _ _ _ (DataW.trod_respare (kids_rows hl hm) (fun t e ht hu => slices_full_of P hz t e ht hu) fuel t cs.toList (d, p) (hT g t h1 h2) h4 (fun y hy => hsp y (List.mem_append_right _ hy))) (fun y hy => sameAt_ext hx (hlt y (List.mem_append_right _ hy))))
/-- The block of a sentinel, out of what the row lists. -/
theorem laid_blk {n nm : String} {text : List UInt8} {r : List (String × DataW Unit)} {g : Nat} {ti tp te ts : TypeId} {ms : Array (String × TypeId)} {f : Field}
    (h : laidMet P ((n, .iface nm (.ptr (.agg [.lit (.string text)]))) :: r) w)
    (hg : P.globalNamed n = some g) (ht : (P.globals[g]?).map (·.type) = some ti) (hi : P.underlying ti = some (.interface ms)) (hrow : ∀ u, P.typeName? 3 u = some nm → u = tp)
    (hp : P.underlying tp = some (.pointer te)) (he : P.underlying te = some (.struct #[f])) (hft : f.type = ts) (hfo : f.offset = 0) (hs : P.underlying ts = some .string) (hc : P.cellsOf te = 1) (hcs : P.cellsOf ts = 1) :
    ∃ v, Blk w g #[.iface tp v] := by
  obtain ⟨a, s, hv, _⟩ := laid_sentinel h hg ht hi hrow hp he hft hfo hs hc hcs
  obtain ⟨ps, ⟨g0, t0, cs0, f0, p0, q0, hg0, ht0, hv0, hd0, _, e0⟩, _, hrows⟩ := h
  obtain rfl := Option.some.inj (hg.symm.trans hg0)
  obtain rfl := Option.some.inj (hv.symm.trans hv0)
  obtain ⟨c, t, hb⟩ := (hrows g 0 (by rw [e0]; simp [MemPlace.row])).1
  refine ⟨.pointer (some a), t, ?_⟩
  unfold World.var? at hv
  simp only [hg, Option.bind_some, hb, Option.some.injEq] at hv
  rw [hb, hv]
end
end Go.Sw
