/- Plain lemmas of a small calculus for walks over frames and own memory; no statement of the seat is proved here. -/
import Derived.Test.YtficgmohfabplaaSw24
import Derived.Laws.CopyRow
import Derived.Test.YtficgmohfabplaaSw23
set_option linter.unusedVariables false
set_option linter.unusedSimpArgs false
/-! The copy builtin, and slices of arrays with a bound: plain lemmas. -/
namespace Go.Sw
open Go Go.RowKit
section
variable {P : Program} {n : Nat} {a : Act} {w0 w : World} {X : List Nat} {F : List (Nat × Value)} {L : Own} {D : Froz} {d : Option Tmp} {T : TypeId} {x y : Operand} {t : TypeId} {pos : String} {af : Array Edge} {gd : Option (Nat × Bool)}
theorem fnC_list {N : Nat} {g : Nat → Value} {j : Nat} {v : Value} (h : (fnC N g).toList[j]? = some v) : j < N ∧ v = g j := by
  rw [Array.getElem?_toList] at h
  by_cases hj : j < N
  · rw [fnC_get hj] at h; exact ⟨hj, (Option.some.inj h).symm⟩
  · rw [Array.getElem?_eq_none (by rw [fnC_size]; omega)] at h; cases h
theorem d_copy {e : TypeId} {b o dl dc b2 o2 sl sc N : Nat} {cs cs' : Array Value} {g : Nat → Value} (k : Nat) (hT : P.underlying T = some (.slice e)) (he : sizeP P e = some 1) (hM : MemX X w0 w L D) (hk : L[k]? = some (some (b, cs))) (hF : Fr n a F)
    (hx : look F x = some (.slice (some ⟨b, o, none⟩) dl dc)) (hy : look F y = some (.slice (some ⟨b2, o2, none⟩) sl sc)) (hN : N = Nat.min sl dl) (hsrc : ∀ j, j < N → w.cell? ⟨b2, o2 + j, none⟩ = some (g j)) (hfit : o + N ≤ cs.size) (h1 : ∀ j, j < N → (g j).oneCell' = true) (hC : splice cs o (fnC N g) = cs') :
    Does P ⟨d, .call { callee := .builtin .copy, args := #[x, y], argTypes := #[T, T] }, t, pos, af, gd⟩ a w (fun u w' => u = .int .i64 ((N : Nat) : Int) ∧ MemX X w0 w' (L.set k (some (b, cs'))) D) := by
  have hb := hM.row k hk
  obtain ⟨tt, hg⟩ := hb
  have hM' := hM.setRow k hk cs'
  have hl : (fnC N g).toList.length = N := by simp [fnC_size]
  have hs : (P.info? e).map (·.size) = some 1 := by
    unfold sizeP at he
    exact he
  have hr := fun ty => run_copy_row (P := P) w T T ty e b o dl dc ⟨b2, o2, none⟩ sl sc cs tt (fnC N g).toList hT hs hg (by rw [hl, hN]) (fun j v hj => by
    obtain ⟨h2, rfl⟩ := fnC_list hj
    rw [Addr.add_lit]; exact hsrc j h2) (by rw [hl]; exact hfit) (fun v hv => by
    obtain ⟨j, hj⟩ := List.getElem?_of_mem hv
    obtain ⟨h2, rfl⟩ := fnC_list hj
    exact h1 j h2)
  have e1 : (cs.toList.take o ++ (fnC N g).toList ++ cs.toList.drop (o + (fnC N g).toList.length)).toArray = cs' := by
    rw [← hC]; simp [splice]
  refine ⟨fun K Q hq => ?_⟩
  unfold Oper.wp execOp
  simp only [resolve, invoke, builtin, Sem.run_bind, Sem.run_pure, Result.andThen_ok, List.map_toArray, List.map_cons, List.map_nil, hF.eval hx, hF.eval hy]
  rw [hr, e1, hl]
  exact hq _ _ ⟨rfl, hM'⟩
theorem g_sliceArrHi {k b o s i : Nat} {e : TypeId} {κ : IntKind} {X : Int} (hT : P.underlying T = some (.array k e)) (he : sizeP P e = some s) (hk : 0 < k) (hF : Fr n a F) (hx : look F x = some (ptr b o)) (hy : look F y = some (.int κ X)) (hX : X = (i : Int)) (hi : i ≤ k) : Gives P ⟨d, .slice T x none (some y) none, t, pos, af, gd⟩ a w (.slice (some ⟨b, o, none⟩) i k) := by
  subst hX
  refine gives_of_run ?_
  have h1 : (0 : Int) ≤ (i : Int) ∧ (i : Int) ≤ (k : Int) := by omega
  have h2 := run_sizeOf he w
  have h3 : ¬ k = 0 := by omega
  simp [execOp, Instr.sliceAt, Instr.slice, run_underlying hT, hF.eval hx, hF.eval hy, Instr.sureAddr, Instr.sliceBounds, Instr.sliceBound, asIntOf, h1, h2, h3, Addr.add_lit, goInt]
  intro h; omega
theorem g_sliceArrLo {k b o s i : Nat} {e : TypeId} {κ : IntKind} {X : Int} (hT : P.underlying T = some (.array k e)) (he : sizeP P e = some s) (hF : Fr n a F) (hx : look F x = some (ptr b o)) (hy : look F y = some (.int κ X)) (hX : X = (i : Int)) (hi : i < k) : Gives P ⟨d, .slice T x (some y) none none, t, pos, af, gd⟩ a w (.slice (some ⟨b, o + i * s, none⟩) (k - i) (k - i)) := by
  subst hX
  refine gives_of_run ?_
  have h1 : (0 : Int) ≤ (i : Int) ∧ (i : Int) ≤ (k : Int) := by omega
  have h2 := run_sizeOf he w
  have h3 : ¬ k - i = 0 := by omega
  simp [execOp, Instr.sliceAt, Instr.slice, run_underlying hT, hF.eval hx, hF.eval hy, Instr.sureAddr, Instr.sliceBounds, Instr.sliceBound, asIntOf, h1, h2, h3, Addr.add_lit, goInt]
  rw [if_pos (by omega), if_neg (by omega)]
theorem build013 {x0 x1 x2 : Operand} {v0 v1 v2 : Value} (hF : Fr n a F) (h0 : look F x0 = some v0) (h1 : look F x1 = some v1) (h2 : look F x2 = some v2) : (#[(0, x0), (1, x1), (3, x2)] : Array (Nat × Operand)).toList.map (fun p => (p.1, a.eval p.2)) = [(0, v0), (1, v1), (3, v2)] := by simp [hF.eval h0, hF.eval h1, hF.eval h2]
theorem g_buildP {parts : Array (Nat × Operand)} {vs : List (Nat × Value)} {z : Value} (_hF : Fr n a F) (hp : parts.toList.map (fun p => (p.1, a.eval p.2)) = vs) (hrun : ∀ w, (Instr.build T vs.toArray).run P w = .ok z w) : Gives P ⟨d, .build T parts, t, pos, af, gd⟩ a w z := by
  refine gives_of_run ?_
  have e1 : (parts.map fun (i, x) => (i, a.eval x)) = vs.toArray := by rw [← hp]; apply Array.toList_inj.1; simp
  simp only [execOp, e1, Sem.run_bind, hrun, Result.andThen_ok, Sem.run_pure]
end
end Go.Sw

namespace Go.Sw
open Go Go.RowKit
/-- The cells of a tensor. -/
def tenC (p n i o : Int) (sl : Value) : Array Value := #[.int .i64 p, .int .i64 n, .int .i64 i, .int .i64 o, sl]
/-- The cells of sums: a prime and a list. -/
def smC (p : Int) (sl : Value) : Array Value := #[.int .i64 p, sl]
/-- m numbers, one behind the other. -/
def numC (m : Nat) (f : Nat → Nat) : Array Value := fnC m (fun c => .int .i64 ((f c : Nat) : Int))
section
variable {p n i o : Int} {sl : Value} {q m : Nat} {f g : Nat → Nat}
theorem tenC_size : (tenC p n i o sl).size = 5 := rfl
theorem smC_size : (smC p sl).size = 2 := rfl
theorem numC_size : (numC m f).size = m := fnC_size _ _
theorem tenC_0 (h : q = 0) : (tenC p n i o sl)[q]? = some (.int .i64 p) := by subst h; rfl
theorem tenC_1 (h : q = 1) : (tenC p n i o sl)[q]? = some (.int .i64 n) := by subst h; rfl
theorem tenC_2 (h : q = 2) : (tenC p n i o sl)[q]? = some (.int .i64 i) := by subst h; rfl
theorem tenC_3 (h : q = 3) : (tenC p n i o sl)[q]? = some (.int .i64 o) := by subst h; rfl
theorem tenC_4 (h : q = 4) : (tenC p n i o sl)[q]? = some sl := by subst h; rfl
theorem smC_0 (h : q = 0) : (smC p sl)[q]? = some (.int .i64 p) := by subst h; rfl
theorem smC_1 (h : q = 1) : (smC p sl)[q]? = some sl := by subst h; rfl
theorem tenC_one (h : sl.oneCell' = true) : ∀ u ∈ (tenC p n i o sl).toList, u.oneCell' = true := by
  intro u hu
  simp [tenC] at hu
  rcases hu with rfl | rfl | rfl | rfl | rfl <;> first | rfl | exact h
theorem smC_one (h : sl.oneCell' = true) : ∀ u ∈ (smC p sl).toList, u.oneCell' = true := by
  intro u hu
  simp [smC] at hu
  rcases hu with rfl | rfl <;> first | rfl | exact h
theorem tenC_set0 {v : Int} (h : q = 0) : (tenC p n i o sl).setIfInBounds q (.int .i64 v) = tenC v n i o sl := by subst h; rfl
theorem tenC_set1 {v : Int} (h : q = 1) : (tenC p n i o sl).setIfInBounds q (.int .i64 v) = tenC p v i o sl := by subst h; rfl
theorem tenC_set2 {v : Int} (h : q = 2) : (tenC p n i o sl).setIfInBounds q (.int .i64 v) = tenC p n v o sl := by subst h; rfl
theorem tenC_set3 {v : Int} (h : q = 3) : (tenC p n i o sl).setIfInBounds q (.int .i64 v) = tenC p n i v sl := by subst h; rfl
theorem tenC_set4 {v : Value} (h : q = 4) : (tenC p n i o sl).setIfInBounds q v = tenC p n i o v := by subst h; rfl
theorem numC_get {k : Nat} (h : q = k) (hk : k < m) : (numC m f)[q]? = some (.int .i64 ((f k : Nat) : Int)) := by subst h; exact fnC_get hk
theorem numC_congr (h : ∀ c, c < m → f c = g c) : numC m f = numC m g := fnC_congr fun c hc => by rw [h c hc]
theorem numC_set {k v : Nat} (h : q = k) (hg : ∀ c, c < m → g c = if c = k then v else f c) : (numC m f).setIfInBounds q (.int .i64 ((v : Nat) : Int)) = numC m g := by
  subst h
  exact fnC_set fun c hc => by rw [hg c hc]; split <;> rfl
theorem numC_one : ∀ u ∈ (numC m f).toList, u.oneCell' = true := fnC_one fun _ _ => rfl
end
/-- A new tensor, its numbers in memory of their own. -/
abbrev TenOut (w w' : World) (p n i o : Int) (m : Nat) (f : Nat → Nat) (v : Value) : Prop :=
  ∃ b, v = .agg (tenC p n i o (.slice (some ⟨b, 0, none⟩) m m)) ∧ w.heap.size ≤ b ∧ Blk w' b (numC m f)
/-- The same, with the code 0 beside it. -/
abbrev TenOut0 (w w' : World) (p n i o : Int) (m : Nat) (f : Nat → Nat) (v : Value) : Prop :=
  ∃ b, v = .tuple #[.agg (tenC p n i o (.slice (some ⟨b, 0, none⟩) m m)), .int .i64 0] ∧ w.heap.size ≤ b ∧ Blk w' b (numC m f)
theorem pow_bd {n k : Nat} (hn : n ≤ 6) (hk : k ≤ 16) : n ^ k ≤ 2821109907456 :=
  Nat.le_trans (Nat.pow_le_pow_left hn k) (Nat.le_trans (Nat.pow_le_pow_right (by decide) hk) (by decide))
theorem pow_one_le {n k : Nat} (hn : 0 < n) : 1 ≤ n ^ k := Nat.one_le_pow _ _ hn
/-- The power as the model reckons it: no further once it is past 1296. -/
def pwr (n : Nat) : Nat → Nat → Nat
  | 0, q => q
  | k + 1, q => if q ≤ 1296 then pwr n k (q * n) else q
theorem pwr_spec {n : Nat} (hn : 1 ≤ n) : ∀ k q, (q * n ^ k ≤ 1296 → pwr n k q = q * n ^ k) ∧ (1296 < q * n ^ k → 1296 < pwr n k q)
  | 0, q => ⟨fun _ => by simp [pwr], fun h => by simpa [pwr] using h⟩
  | k + 1, q => by
    have ih := pwr_spec hn k (q * n)
    have e : q * n * n ^ k = q * n ^ (k + 1) := by rw [Nat.pow_succ, Nat.mul_comm (n ^ k) n, Nat.mul_assoc]
    rw [e] at ih
    by_cases h : q ≤ 1296
    · simp only [pwr, if_pos h]; exact ih
    · simp only [pwr, if_neg h]
      have h1 : q ≤ q * n ^ (k + 1) := Nat.le_mul_of_pos_right _ (pow_one_le hn)
      exact ⟨fun h2 => absurd h2 (by omega), fun _ => by omega⟩
theorem pwr_le {n k : Nat} (hn : 1 ≤ n) (h : n ^ k ≤ 1296) : pwr n k 1 = n ^ k := by
  have := (pwr_spec hn k 1).1 (by omega); omega
theorem pwr_iff {n k : Nat} (hn : 1 ≤ n) : pwr n k 1 ≤ 1296 ↔ n ^ k ≤ 1296 := by
  constructor
  · intro h
    by_cases h2 : n ^ k ≤ 1296
    · exact h2
    · have := (pwr_spec hn k 1).2 (by omega); omega
  · intro h; rw [pwr_le hn h]; exact h
theorem pwr_stop {n k q : Nat} (h : ¬ q ≤ 1296) : pwr n k q = q := by cases k <;> simp [pwr, h]
theorem pwr_step {n k q : Nat} (hk : 0 < k) (h : q ≤ 1296) : pwr n k q = pwr n (k - 1) (q * n) := by
  obtain ⟨j, rfl⟩ : ∃ j, k = j + 1 := ⟨k - 1, by omega⟩
  simp [pwr, h]
/-- Numbers of legs and a size within the limits. -/
def wl (n i o : Nat) : Prop := i ≤ 8 ∧ o ≤ 8 ∧ n ^ (i + o) ≤ 1296
instance (n i o : Nat) : Decidable (wl n i o) := by unfold wl; infer_instance
section
variable {P : Program} {n : Nat} {F : List (Nat × Value)} {a : Act} {w : World} {d : Option Tmp} {t : TypeId} {pos : String} {af : Array Edge} {gd : Option (Nat × Bool)} {T : TypeId} {x y z u : Operand}
/-- A part of a slice, its capacity ending with it. -/
theorem g_slice3 {e : TypeId} {b o len cap lo hi mx L C s : Nat} {κ κ' κ'' : IntKind} {X Y Z : Int} (hT : P.underlying T = some (.slice e)) (he : sizeP P e = some s) (hF : Fr n a F) (hx : look F x = some (.slice (some ⟨b, o, none⟩) len cap)) (hy : look F y = some (.int κ X)) (hz : look F z = some (.int κ' Y)) (hu : look F u = some (.int κ'' Z))
    (hX : X = (lo : Int)) (hY : Y = (hi : Int)) (hZ : Z = (mx : Int)) (h1 : hi = lo + L) (h2 : mx = lo + C) (hc : 0 < C) (hle : hi ≤ mx) (hm : mx ≤ cap) :
    Gives P ⟨d, .slice T x (some y) (some z) (some u), t, pos, af, gd⟩ a w (.slice (some ⟨b, o + lo * s, none⟩) L C) := by
  subst hX hY hZ
  refine gives_of_run ?_
  have k1 : (0 : Int) ≤ (lo : Int) ∧ (lo : Int) ≤ (hi : Int) := by omega
  have k2 : (0 : Int) ≤ (hi : Int) ∧ (hi : Int) ≤ (mx : Int) := by omega
  have k3 : (0 : Int) ≤ (mx : Int) ∧ (mx : Int) ≤ (cap : Int) := by omega
  have hsz := run_sizeOf he w
  have k4 : ¬ mx = lo := by omega
  have k5 : hi - lo = L := by omega
  have k6 : mx - lo = C := by omega
  simp [execOp, Instr.sliceAt, Instr.slice, run_underlying hT, hF.eval hx, hF.eval hy, hF.eval hz, hF.eval hu, Instr.sliceBounds, Instr.sliceBound, asIntOf, k1, k2, k3, hsz, k4, k5, k6, Addr.add_lit]
  rw [if_pos hm, if_pos hle, if_pos (by omega)]
theorem build5 {x0 x1 x2 x3 x4 : Operand} {v0 v1 v2 v3 v4 : Value} (hF : Fr n a F) (h0 : look F x0 = some v0) (h1 : look F x1 = some v1) (h2 : look F x2 = some v2) (h3 : look F x3 = some v3) (h4 : look F x4 = some v4) : (#[(0, x0), (1, x1), (2, x2), (3, x3), (4, x4)] : Array (Nat × Operand)).toList.map (fun p => (p.1, a.eval p.2)) = [(0, v0), (1, v1), (2, v2), (3, v3), (4, v4)] := by simp [hF.eval h0, hF.eval h1, hF.eval h2, hF.eval h3, hF.eval h4]
end
end Go.Sw
