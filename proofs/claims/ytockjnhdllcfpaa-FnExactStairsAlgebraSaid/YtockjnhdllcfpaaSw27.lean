/- Plain lemmas of a small calculus for walks over frames and own memory; no statement of the seat is proved here. -/
import Derived.Test.YtockjnhdllcfpaaSw23
import Derived.Laws.CopyRow
import Derived.Test.YtockjnhdllcfpaaSw9
import Derived.Test.YtockjnhdllcfpaaSw21
import Derived.ReadAgain
import Derived.ChangeSlices
set_option linter.unusedVariables false
set_option linter.unusedSimpArgs false
namespace Go.Sw
open Go Go.RowKit
variable {P : Program}
section
variable {ops : List Oper} {Q : Exit → Act → World → Prop} {n : Nat} {F : List (Nat × Value)}
def DepsH {G : Type} (ops : List Oper) (k s : Nat) (φ : Facts G) (o : Oper) (g : G) (a : Act) (w : World) : Prop :=
  ∀ j, Nat.blt j k = true → edgeTo o j = true → φ j g (a.tmps.getD (dstOf ops j) undef) w
def StepsH {G : Type} (P : Program) (ops : List Oper) (k s n : Nat) (F : List (Nat × Value)) (S : Bool → G → World → Prop) (φ : Facts G) : List Oper → Nat → Prop
  | [], _ => True
  | o :: r, i => (if Nat.beq i s = true then ∀ a w g, Fr n a F → S false g w → DepsH ops k s φ o g a w → Does P o a w (AfterG S φ true i g w)
      else ∀ a w b g, Fr n a F → S b g w → (edgeS ops s i = true → b = false) → DepsH ops k s φ o g a w → Does P o a w (AfterG S φ b i g w)) ∧ StepsH P ops k s n F S φ r (i + 1)
theorem StepsH.get {G : Type} {k s : Nat} {S : Bool → G → World → Prop} {φ : Facts G} : ∀ {l : List Oper} {i : Nat}, StepsH P ops k s n F S φ l i → ∀ (j : Nat) (o : Oper), l[j]? = some o →
    (if Nat.beq (i + j) s = true then ∀ a w g, Fr n a F → S false g w → DepsH ops k s φ o g a w → Does P o a w (AfterG S φ true (i + j) g w)
      else ∀ a w b g, Fr n a F → S b g w → (edgeS ops s (i + j) = true → b = false) → DepsH ops k s φ o g a w → Does P o a w (AfterG S φ b (i + j) g w))
  | [], _, _, j, o, h => by simp at h
  | x :: r, i, hs, j, o, h => by
    cases j with
    | zero => simp at h; subst h; exact hs.1
    | succ j => have := hs.2.get j o (by simpa using h); rwa [show i + 1 + j = i + (j + 1) by omega] at this
end
end Go.Sw
namespace Go.Sw
open Go Go.RowKit Go.Ech
variable {P : Program}
theorem MemX.extY {X Y : List Nat} {w0 w w' : World} {L : Own} {D : Froz} (h : MemX X w0 w L D) (hx : ExtX Y w w') (hY : ∀ y ∈ Y, w0.heap.size ≤ y ∧ (∀ (k : Nat) c ds, L[k]? = some (some (c, ds)) → c ≠ y) ∧ (∀ c ds, (c, ds) ∈ D → c ≠ y)) : MemX X w0 w' L D := by
  have other : ∀ {c ds}, Blk w c ds → c ∉ Y → Blk w' c ds := fun {c ds} hc hne => by
    obtain ⟨t, hc'⟩ := hc;exact ⟨t, (hx.block c (Blk.lt ⟨t, hc'⟩) hne).trans hc'⟩
  refine ⟨⟨hx.os.trans h.bel.os, hx.tape.trans h.bel.tape, hx.output.trans h.bel.output, Nat.le_trans h.bel.size hx.size, fun i hi hix => ?_⟩, fun k c ds hk => ⟨(h.blk k c ds hk).1, other (h.blk k c ds hk).2 (fun hc => (hY c hc).2.1 k c ds hk rfl)⟩, h.apart, fun c ds hm => ⟨other (h.froz c ds hm).1 (fun hc => (hY c hc).2.2 c ds hm rfl), (h.froz c ds hm).2⟩⟩;have hne : i ∉ Y := fun hc => by have := (hY i hc).1; omega
  exact (hx.block i (Nat.lt_of_lt_of_le hi h.bel.size) hne).trans (h.bel.block i hi hix)
def wid (n : Nat) (E : Nat → Nat → Nat) (i c : Nat) : Nat := if c < n then E i c else 0
theorem Rref.wid {p n N k : Nat} {E : Nat → Nat → Nat} {ld : Nat → Nat} (hp : 0 < p) (hn : n ≤ N) (h : Rref p n E k ld) : Rref p N (wid n E) k ld := by
  refine ⟨fun i hi => Nat.lt_of_lt_of_le (h.lt i hi) hn, h.mono, fun i hi => ?_, fun i hi c hc => ?_, fun i j hi hj hne => ?_, fun i hi c _ => ?_⟩
  · unfold Go.Sw.wid; rw [if_pos (h.lt i hi)]; exact h.one i hi
  · unfold Go.Sw.wid; rw [if_pos (by have := h.lt i hi; omega)]; exact h.left i hi c hc
  · unfold Go.Sw.wid; rw [if_pos (h.lt i hi)]; exact h.zero i j hi hj hne
  · unfold Go.Sw.wid; split
    · rename_i hcn; exact h.small i hi c hcn
    · exact hp
end Go.Sw
namespace Go.Sw
open Go Go.RowKit
variable {P : Program}
end Go.Sw
namespace Go.Sw
open Go Go.RowKit
variable {P : Program}
end Go.Sw

/-! The copy builtin, and slices of arrays with a bound: plain lemmas. -/
namespace Go.Sw
open Go Go.RowKit
section
variable {P : Program} {n : Nat} {a : Act} {w0 w : World} {X : List Nat} {F : List (Nat × Value)} {L : Own} {D : Froz} {d : Option Tmp} {T : TypeId} {x y : Operand} {t : TypeId} {pos : String} {af : Array Edge} {gd : Option (Nat × Bool)}
theorem build013 {x0 x1 x2 : Operand} {v0 v1 v2 : Value} (hF : Fr n a F) (h0 : look F x0 = some v0) (h1 : look F x1 = some v1) (h2 : look F x2 = some v2) : (#[(0, x0), (1, x1), (3, x2)] : Array (Nat × Operand)).toList.map (fun p => (p.1, a.eval p.2)) = [(0, v0), (1, v1), (3, v2)] := by simp [hF.eval h0, hF.eval h1, hF.eval h2]
theorem g_buildP {parts : Array (Nat × Operand)} {vs : List (Nat × Value)} {z : Value} (_hF : Fr n a F) (hp : parts.toList.map (fun p => (p.1, a.eval p.2)) = vs) (hrun : ∀ w, (Instr.build T vs.toArray).run P w = .ok z w) : Gives P ⟨d, .build T parts, t, pos, af, gd⟩ a w z := by
  refine gives_of_run ?_;have e1 : (parts.map fun (i, x) => (i, a.eval x)) = vs.toArray := by rw [← hp]; apply Array.toList_inj.1; simp
  simp only [execOp, e1, Sem.run_bind, hrun, Result.andThen_ok, Sem.run_pure]
end
end Go.Sw

namespace Go.Sw
open Go Go.RowKit
def tenC (p n i o : Int) (sl : Value) : Array Value := #[.int .i64 p, .int .i64 n, .int .i64 i, .int .i64 o, sl]
def smC (p : Int) (sl : Value) : Array Value := #[.int .i64 p, sl]
def numC (m : Nat) (f : Nat → Nat) : Array Value := fnC m (fun c => .int .i64 (f c : Int))
section
variable {p n i o : Int} {sl : Value} {q m : Nat} {f g : Nat → Nat}
theorem smC_size : (smC p sl).size = 2 := rfl
theorem numC_size : (numC m f).size = m := fnC_size _ _
theorem numC_get {k : Nat} (h : q = k) (hk : k < m) : (numC m f)[q]? = some (.int .i64 (f k : Int)) := by subst h; exact fnC_get hk
end
abbrev TenOut (w w' : World) (p n i o : Int) (m : Nat) (f : Nat → Nat) (v : Value) : Prop :=
  ∃ b, v = .agg (tenC p n i o (.slice (some ⟨b, 0, none⟩) m m)) ∧ w.heap.size ≤ b ∧ Blk w' b (numC m f)
abbrev TenOut0 (w w' : World) (p n i o : Int) (m : Nat) (f : Nat → Nat) (v : Value) : Prop :=
  ∃ b, v = .tuple #[.agg (tenC p n i o (.slice (some ⟨b, 0, none⟩) m m)), .int .i64 0] ∧ w.heap.size ≤ b ∧ Blk w' b (numC m f)
def pwr (n : Nat) : Nat → Nat → Nat
  | 0, q => q
  | k + 1, q => if q ≤ 1296 then pwr n k (q * n) else q
def wl (n i o : Nat) : Prop := i ≤ 8 ∧ o ≤ 8 ∧ n ^ (i + o) ≤ 1296
instance (n i o : Nat) : Decidable (wl n i o) := by unfold wl; infer_instance
section
variable {P : Program} {n : Nat} {F : List (Nat × Value)} {a : Act} {w : World} {d : Option Tmp} {t : TypeId} {pos : String} {af : Array Edge} {gd : Option (Nat × Bool)} {T : TypeId} {x y z u : Operand}
end
end Go.Sw

namespace Go.Sw
open Go Go.RowKit Go.ChangeShapes Go.WideShapes Go.ChangeAt
def numI (m : Nat) (g : Nat → Int) : Array Value := fnC m (fun c => .int .i64 (g c))
section
variable {m q : Nat} {f g : Nat → Int}
theorem numI_size : (numI m f).size = m := fnC_size _ _
theorem numI_get {k : Nat} (h : q = k) (hk : k < m) : (numI m f)[q]? = some (.int .i64 (f k)) := by subst h; exact fnC_get hk
theorem numI_congr (h : ∀ c, c < m → f c = g c) : numI m f = numI m g := fnC_congr fun c hc => by rw [h c hc]
theorem numI_set {k : Nat} {v : Int} (h : q = k) (hg : ∀ c, c < m → g c = if c = k then v else f c) : (numI m f).setIfInBounds q (.int .i64 v) = numI m g := by
  subst h;exact fnC_set fun c hc => by rw [hg c hc]; split <;> rfl
end
def ArgSl (w : World) (sl : Value) (m : Nat) (g : Nat → Int) : Prop :=
  (∃ x c, sl = .slice x m c) ∧ (0 < m → ∃ b o c, sl = .slice (some ⟨b, o, none⟩) m c ∧ ∀ i, i < m → w.cell? ⟨b, o + i * 1, none⟩ = some (.int .i64 (g i)))
theorem cell_ext {w w' : World} {b o : Nat} {v : Value} (h : w.cell? ⟨b, o, none⟩ = some v) (hx : Ext w w') : w'.cell? ⟨b, o, none⟩ = some v := by
  have hb : b < w.heap.size := by
    by_cases hb : b < w.heap.size
    · exact hb
    · have hn : w.heap[b]? = none := by simp; omega
      unfold World.cell? at h
      simp only [hn] at h
      cases h
  unfold World.cell? at h ⊢
  simp only [hx.block b hb];exact h
theorem ArgSl.ext {w w' : World} {sl : Value} {m : Nat} {g : Nat → Int} (h : ArgSl w sl m g) (hx : Ext w w') : ArgSl w' sl m g :=
  ⟨h.1, fun hm => by obtain ⟨b, o, c, h1, h3⟩ := h.2 hm; exact ⟨b, o, c, h1, fun i hi => cell_ext (h3 i hi) hx⟩⟩
theorem ArgSl.one {w : World} {sl : Value} {m : Nat} {g : Nat → Int} (h : ArgSl w sl m g) : sl.oneCell' = true := by
  obtain ⟨⟨x, c, rfl⟩, _⟩ := h; rfl
theorem ArgSl.congr {w : World} {sl : Value} {m : Nat} {g g' : Nat → Int} (h : ArgSl w sl m g) (e : ∀ i, i < m → g i = g' i) : ArgSl w sl m g' :=
  ⟨h.1, fun hm => by obtain ⟨b, o, c, h1, h3⟩ := h.2 hm; exact ⟨b, o, c, h1, fun i hi => by rw [← e i hi]; exact h3 i hi⟩⟩
section
variable {P : Program} {n : Nat} {F : List (Nat × Value)} {a : Act} {w : World} {d : Option Tmp} {t : TypeId} {pos : String} {af : Array Edge} {gd : Option (Nat × Bool)} {x : Operand}
theorem g_loadC {T : TypeId} {b o : Nat} {v : Value} (hT : oneP P T = true) (hF : Fr n a F) (hx : look F x = some (ptr b o)) (hc : w.cell? ⟨b, o, none⟩ = some v) : Gives P ⟨d, .load T x, t, pos, af, gd⟩ a w v := by
  have h1 := (run_isAgg_one hT w).1;exact gives_of_run (by simp [execOp, Instr.loadAt, Instr.sureAddr, hF.eval hx, loadVar, h1, hc])
end
section
variable {H : Type} {enc : TypeId × Value → H} {P : Program} {w w' : World}
theorem trodAll_carry : ∀ {ts : List TypeId} {vs : List Value} {ds : List (DataW H)} {ps : List MemPlace} {base : Nat} {spare : Nat → Bool} {held : Bool},
    DataW.TrodAll enc P w base spare held ts vs ds ps → (∀ p ∈ ps, w.sameAt w' p) → DataW.TrodAll enc P w' base spare held ts vs ds ps
  | [], [], [], _, _, _, _, h, _ => h
  | _ :: _, _ :: _, _ :: _, _, _, _, _, ⟨p, q, ⟨fuel, h1⟩, h2, e⟩, hs =>
    ⟨p, q, ⟨fuel, DataW.trod_carry fuel _ _ _ h1 (fun y hy => hs y (by rw [e]; exact List.mem_append_left _ hy))⟩, trodAll_carry h2 (fun y hy => hs y (by rw [e]; exact List.mem_append_right _ hy)), e⟩
theorem sameAt_ext (hx : Ext w w') {p : MemPlace} (hp : p.block < w.heap.size) : w.sameAt w' p := by
  have h := hx.block p.block hp
  cases p with
  | cell b off =>
    show w'.cell? ⟨b, off, none⟩ = w.cell? ⟨b, off, none⟩
    simp only [MemPlace.block] at h
    unfold World.cell?
    simp only [h]
  | map b => exact h
theorem args_again (hl : laidOutB P = true) (hm : mapsRowed P = true) (hz : ((List.range P.types.size).all fun t => match P.underlying t with | some (.slice e) => decide (0 < P.cellsOf e) | _ => true) = true)
    {ts : List TypeId} {vs : List Value} {ds : List (DataW H)} {ps : List MemPlace} (hT : ∀ t ∈ ts, t < P.types.size) (hx : Ext w w') (hlt : ∀ p ∈ ps, p.block < w.heap.size)
    (h : DataW.TrodAll enc P w 0 (fun _ => true) true ts vs ds ps) (sp : Nat → Bool) (hsp : ∀ p ∈ ps, sp p.block = true) : DataW.TrodAll enc P w' 0 sp true ts vs ds ps :=
  trodAll_carry (DataW.TrodAll.respare (kids_rows hl hm) (fun t e ht hu => slices_full_of P hz t e ht hu) hT h hsp) (fun p hp => sameAt_ext hx (hlt p hp))
variable {base : Nat} {spare : Nat → Bool} {held : Bool}
theorem arg_of_trod {t e : TypeId} {fuel : Nat} {v : Value} {y : DataW H × List MemPlace} (ht : P.underlying t = some (.slice e)) (he : P.underlying e = some (.int .i64)) (hc : P.cellsOf e = 1)
    (h : DataW.trod enc P w base spare held fuel t [v] = some y) : ∃ (m : Nat) (g : Nat → Int), ArgSl w v m g ∧ m ≤ maxLen ∧ ∀ i, -9223372036854775808 ≤ g i ∧ g i ≤ 9223372036854775807 := by
  rcases open_ints ht he hc h with ⟨e1, _⟩ | ⟨ad, len, cap, zs, e1, _, hle, hmx, hlen, _, hcell, hwf⟩
  · simp only [List.cons.injEq, and_true] at e1
    subst e1;exact ⟨0, fun _ => 0, ⟨⟨none, 0, rfl⟩, fun h => absurd h (by omega)⟩, Nat.zero_le _, fun _ => ⟨by show (-9223372036854775808 : Int) ≤ 0; decide, by show (0 : Int) ≤ 9223372036854775807; decide⟩⟩
  · simp only [List.cons.injEq, and_true] at e1
    subst e1;refine ⟨len, fun i => zs.getD i 0, ⟨⟨some ad, cap, rfl⟩, fun hm => ?_⟩, Nat.le_trans hle hmx, fun i => ?_⟩
    · have hzl : len ≤ zs.length := by rw [hlen]; split <;> omega
      have h0 := hcell 0 (by omega);rw [show ad.add 0 = ad from rfl] at h0;obtain ⟨b, o, s⟩ := ad
      unfold World.cell? at h0
      cases hb : w.heap[b]? with
      | none => simp [hb] at h0
      | some ob =>
        cases ob with
        | cells cs tt ck =>
          simp only [hb] at h0
          cases s with
          | some s => simp at h0
          | none =>
            refine ⟨b, o, cap, rfl, fun i hi => ?_⟩;have hi' := hcell i (by omega);rw [show (Addr.add ⟨b, o, none⟩ i) = ⟨b, o + i, none⟩ from by unfold Addr.add; split <;> simp_all] at hi';rw [Nat.mul_one]; exact hi'
        | _ => simp [hb] at h0
    · show -9223372036854775808 ≤ zs.getD i 0 ∧ zs.getD i 0 ≤ 9223372036854775807
      by_cases hi : i < zs.length
      · have : zs.getD i 0 = zs[i] := by simp [List.getD, hi]
        rw [this];exact wf_i64 (hwf _ (List.getElem_mem _))
      · have : zs.getD i 0 = 0 := by simp [List.getD, Nat.not_lt.1 hi]
        rw [this]; exact ⟨by decide, by decide⟩
def tenFs (fs : Array Field) (ti ts : TypeId) : Bool := (List.range 5).all fun i => match fs[i]? with
  | some f => Nat.beq f.offset i && Nat.beq f.type (if i < 4 then ti else ts)
  | none => false
end
section
variable {P : Program} {X : List Nat} {w0 w : World} {L : Own} {D : Froz} {n : Nat} {F : List (Nat × Value)} {a : Act} {d : Option Tmp} {T : TypeId} {t : TypeId} {pos : String} {af : Array Edge} {gd : Option (Nat × Bool)} {x y : Operand}
theorem d_make1b {len by' : Nat} {e : TypeId} {z : Value} (k : Nat) (hM : MemX X w0 w L D) (hF : Fr n a F) (hT : slI P T = some (e, some z, 1, by')) (hz : z.cells = #[z]) (hx : look F x = some (.int .i64 (len : Int))) (hy : look F y = some (.int .i64 (len : Int))) (hl : len < 10000000) (hb : by' < 1000) :
    Does P ⟨d, .makeSlice T x y, t, pos, af, gd⟩ a w (fun u w' => ∃ b, u = .slice (some ⟨b, 0, none⟩) len len ∧ MemX X w0 w' (L.set k (some (b, fnC len (fun _ => z)))) D ∧ Ext w w') :=
  ⟨fun K Q hk => by
    have := hk _ (w.alloc (.cells (fnC len (fun _ => z)) e)) ⟨w.heap.size, rfl, hM.fill (Ext.alloc _ _) k (Blk.new _ _ _) (Nat.le_refl _), Ext.alloc _ _⟩
    unfold slI at hT
    cases hu : P.underlying T with
    | none => simp [hu] at hT
    | some dd =>
      cases dd <;> simp [hu] at hT
      rename_i el
      obtain ⟨inf, hinf, rfl, hz0, hsz, hby⟩ := hT
      have hmul : inf.bytes * len ≤ 1000 * 10000000 := Nat.mul_le_mul (by omega) (by omega)
      have hmul2 : (inf.bytes : Int) * (len : Int) ≤ 281474976710656 := by
        have : ((inf.bytes * len : Nat) : Int) ≤ 281474976710656 := by omega
        rwa [Int.natCast_mul] at this
      have hrun := run_make (P := P) w T el inf z hu hinf hz0 .i64 .i64 (len : Int) (len : Int) (by omega) (Int.le_refl _) hmul2 (by omega);have ec : madeCells z.cells (len * inf.size) = fnC len (fun _ => z) := by
        rw [hsz, hz, Nat.mul_one]
        apply fnC_ext (size_madeCells _ _)
        intro i hi
        unfold madeCells
        rw [Array.getElem?_map, Array.getElem?_range, if_pos hi]
        simp [Nat.mod_one]
      simp only [Int.toNat_natCast, ec] at hrun
      unfold Oper.wp execOp
      simp only [hF.eval hx, hF.eval hy, Sem.run_bind, hrun, Result.andThen_ok, Sem.run_pure];exact this⟩
end
abbrev TenOutI (w w' : World) (p n i o : Int) (m : Nat) (g : Nat → Int) (v : Value) : Prop :=
  ∃ b, v = .agg (tenC p n i o (.slice (some ⟨b, 0, none⟩) m m)) ∧ w.heap.size ≤ b ∧ Blk w' b (numI m g)
end Go.Sw
