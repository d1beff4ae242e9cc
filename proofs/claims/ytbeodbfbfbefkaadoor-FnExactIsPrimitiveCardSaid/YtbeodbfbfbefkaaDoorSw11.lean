/- Plain lemmas of a small calculus for walks over frames and own memory; no statement of the seat is proved here. -/
import Derived.Test.YtbeodbfbfbefkaaDoorSw5
import Derived.Scope
set_option linter.unusedVariables false
set_option linter.unusedSimpArgs false
namespace Go.Sw
open Go Go.RowKit

def argF : List Value → Nat → List (Nat × Value)
  | [], _ => []
  | v :: r, i => (i, v) :: argF r (i + 1)
theorem argF_spec : ∀ (l : List Value) (i t : Nat) (v : Value), lk (argF l i) t = some v → i ≤ t ∧ l[t - i]? = some v
  | [], _, _, _, h => by cases h
  | x :: r, i, t, v, h => by
    simp only [argF, lk] at h
    by_cases e : i = t
    · subst e; simp at h; subst h; simp
    · rw [beqF e] at h
      obtain ⟨h1, h2⟩ := argF_spec r (i + 1) t v h
      refine ⟨by omega, ?_⟩
      obtain ⟨m', hm⟩ : ∃ m', t - i = m' + 1 := ⟨t - i - 1, by omega⟩
      rw [hm]; simp; rwa [show t - (i + 1) = m' by omega] at h2
theorem frameA {args : Array Value} {N : Nat} (vs : List Value) (hv : args = vs.toArray) (hn : Nat.ble vs.length N = true) :
    Fr N { tmps := args ++ Array.replicate (N - args.size) undef, defers := [] } (argF vs 0) :=
  frame0 vs hv (Nat.ble_eq.mp hn) _ fun t v h => by have := (argF_spec vs 0 t v h).2; simpa using this

theorem calls_fr {P : Program} {fn : Func} {w : World} {f : FuncId} {c : Code} {R : Value → World → Prop} {N : Nat} (vs : List Value) (hf : P.funcs[f]? = some fn) (hb : fn.body = some c) (hN : fn.ntmps = N) (hn : Nat.ble vs.length N = true)
    (h : ∀ a, Fr N a (argF vs 0) → c.wp P (bodyPost P fn (fun e w' => ∃ v, e = .returned v ∧ Ext w w' ∧ R v w')) a w) : CallsR P f vs.toArray w R := by
  subst hN
  exact calls_of hf hb (h _ (frameA vs rfl hn))

theorem add_nat (x y : Nat) (h : x + y < 9223372036854775808) : IntKind.i64.wrap ((x : Int) + (y : Int)) = ((x + y : Nat) : Int) := by
  rw [wrap_i64] <;> omega
theorem mul_nat (x y : Nat) (h : x * y < 9223372036854775808) : IntKind.i64.wrap ((x : Int) * (y : Int)) = ((x * y : Nat) : Int) := by
  rw [wrap_i64] <;> rw [← Int.natCast_mul] <;> omega
theorem rem_nat (x y : Nat) : ((x : Int)).tmod (y : Int) = ((x % y : Nat) : Int) := by
  rw [Int.tmod_eq_emod_of_nonneg (by omega)]; rfl
def algC (p n : Int) (T : Nat → Nat → Nat → Nat) (f : Nat → Nat) : Array Value :=
  fnC 224 fun c => if c = 0 then .int .i64 p else if c = 1 then .int .i64 n else if c < 218 then .int .u8 (T ((c - 2) / 36) ((c - 2) / 6 % 6) ((c - 2) % 6)) else .int .u8 (f (c - 218))
def vecC (v : Nat → Nat) : Array Value := fnC 6 fun c => .int .u8 (v c)
section
variable {p n : Int} {T : Nat → Nat → Nat → Nat} {f : Nat → Nat} {v : Nat → Nat}
theorem cells_size : (algC p n T f).size = 224 := fnC_size _ _
theorem vecC_size : (vecC v).size = 6 := fnC_size _ _
theorem algC_p {o : Nat} (h : o = 0) : (algC p n T f)[o]? = some (.int .i64 p) := by subst h; exact fnC_get (by omega)
theorem algC_n {o : Nat} (h : o = 1) : (algC p n T f)[o]? = some (.int .i64 n) := by subst h; exact fnC_get (by omega)
theorem algC_T {o : Nat} (i j k : Nat) (h : o = 2 + i * 36 + j * 6 + k) (hi : i < 6) (hj : j < 6) (hk : k < 6) : (algC p n T f)[o]? = some (.int .u8 ((T i j k : Nat) : Int)) := by
  subst h
  unfold algC
  rw [fnC_get (by omega), if_neg (by omega), if_neg (by omega), if_pos (by omega)]
  have e1 : (2 + i * 36 + j * 6 + k - 2) / 36 = i := by omega
  have e2 : (2 + i * 36 + j * 6 + k - 2) / 6 % 6 = j := by omega
  have e3 : (2 + i * 36 + j * 6 + k - 2) % 6 = k := by omega
  rw [e1, e2, e3]
theorem algC_f {o : Nat} (i : Nat) (h : o = 218 + i) (hi : i < 6) : (algC p n T f)[o]? = some (.int .u8 ((f i : Nat) : Int)) := by
  subst h
  unfold algC
  rw [fnC_get (by omega), if_neg (by omega), if_neg (by omega), if_neg (by omega)]
  rw [show 218 + i - 218 = i by omega]
theorem vecC_get {o : Nat} (i : Nat) (h : o = i) (hi : i < 6) : (vecC v)[o]? = some (.int .u8 ((v i : Nat) : Int)) := by subst h; exact fnC_get hi
theorem extract_ext {c : Array Value} {o s e : Nat} {f : Nat → Value} (he : e = o + s) (hs : o + s ≤ c.size) (h : ∀ i, i < s → c[o + i]? = some (f i)) : c.extract o e = fnC s f := by
  subst he
  apply fnC_ext (by simp; omega)
  intro i hi
  rw [Array.getElem?_extract, if_pos (by omega)]
  exact h i hi
theorem algC_row (i j : Nat) {o e : Nat} (h : o = 2 + i * 36 + j * 6) (he : e = o + 6) (hi : i < 6) (hj : j < 6) : (algC p n T f).extract o e = vecC (T i j) := by
  subst h
  exact extract_ext he (by rw [cells_size]; omega) fun k hk => algC_T i j k (by omega) hi hj hk
theorem algC_form {o e : Nat} (h : o = 218) (he : e = o + 6) : (algC p n T f).extract o e = vecC f := by
  subst h
  exact extract_ext he (by rw [cells_size]; omega) fun k hk => algC_f k (by omega) hk
theorem cells_one : ∀ u ∈ (algC p n T f).toList, u.oneCell' = true := fnC_one fun i _ => by
  split
  · rfl
  · split
    · rfl
    · split <;> rfl
theorem vecC_one : ∀ u ∈ (vecC v).toList, u.oneCell' = true := fnC_one fun _ _ => rfl
end
theorem MemX.rowc {X : List Nat} {w0 w : World} {L : Own} {D : Froz} (h : MemX X w0 w L D) (k : Nat) {b : Nat} {cs cs' : Array Value} (hk : L[k]? = some (some (b, cs))) (e : cs = cs') : MemX X w0 w (L.set k (some (b, cs'))) D := by
  subst e
  have : L.set k (some (b, cs)) = L := by
    apply List.ext_getElem?
    intro j
    rw [List.getElem?_set]
    split
    · rename_i e; subst e
      split
      · exact hk.symm
      · rename_i hl; rw [List.getElem?_eq_none (by omega)]
    · rfl
  rw [this]; exact h
theorem MemX.cast {X : List Nat} {w0 w : World} {L L' : Own} {D : Froz} (h : MemX X w0 w L D) (e : L = L') : MemX X w0 w L' D := e ▸ h
end Go.Sw
namespace Go.Sw
open Go Go.RowKit
def tabC (T : Nat → Nat → Nat → Nat) : Array Value := fnC 216 fun c => .int .u8 (T (c / 36) (c / 6 % 6) (c % 6))
def planeC (T : Nat → Nat → Nat) : Array Value := fnC 36 fun c => .int .u8 (T (c / 6) (c % 6))
section
variable {p n : Int} {T : Nat → Nat → Nat → Nat} {f : Nat → Nat} {M : Nat → Nat → Nat}
theorem tabC_size : (tabC T).size = 216 := fnC_size _ _
theorem planeC_size : (planeC M).size = 36 := fnC_size _ _
theorem tabC_get {o : Nat} (i j k : Nat) (h : o = i * 36 + j * 6 + k) (hi : i < 6) (hj : j < 6) (hk : k < 6) : (tabC T)[o]? = some (.int .u8 ((T i j k : Nat) : Int)) := by
  subst h
  unfold tabC
  rw [fnC_get (by omega), show (i * 36 + j * 6 + k) / 36 = i by omega, show (i * 36 + j * 6 + k) / 6 % 6 = j by omega, show (i * 36 + j * 6 + k) % 6 = k by omega]
theorem planeC_get {o : Nat} (j k : Nat) (h : o = j * 6 + k) (hj : j < 6) (hk : k < 6) : (planeC M)[o]? = some (.int .u8 ((M j k : Nat) : Int)) := by
  subst h
  unfold planeC
  rw [fnC_get (by omega), show (j * 6 + k) / 6 = j by omega, show (j * 6 + k) % 6 = k by omega]
theorem algC_tab {o e : Nat} (h : o = 2) (he : e = o + 216) : (algC p n T f).extract o e = tabC T := by
  subst h
  exact extract_ext he (by rw [cells_size]; omega) fun c hc => algC_T (c / 36) (c / 6 % 6) (c % 6) (by omega) (by omega) (by omega) (by omega)
theorem tabC_plane {o e : Nat} (i : Nat) (h : o = i * 36) (he : e = o + 36) (hi : i < 6) : (tabC T).extract o e = planeC (T i) := by
  subst h
  exact extract_ext he (by rw [tabC_size]; omega) fun c hc => tabC_get i (c / 6) (c % 6) (by omega) (by omega) (by omega) (by omega)
theorem planeC_row {o e : Nat} (j : Nat) (h : o = j * 6) (he : e = o + 6) (hj : j < 6) : (planeC M).extract o e = vecC (M j) := by
  subst h
  exact extract_ext he (by rw [planeC_size]; omega) fun c hc => planeC_get j c (by omega) (by omega) (by omega)
end
section
variable {P : Program} {n : Nat} {F : List (Nat × Value)} {a : Act} {w : World} {d : Option Tmp} {t : TypeId} {pos : String} {af : Array Edge} {gd : Option (Nat × Bool)} {T : TypeId} {x y : Operand}
theorem g_indexA {i len s : Nat} {κ : IntKind} {X : Int} {cs C : Array Value} {e : TypeId} (hT : P.underlying T = some (.array len e)) (he : aggP P e = some s) (hF : Fr n a F) (hx : look F x = some (.agg cs)) (hy : look F y = some (.int κ X)) (hX : X = (i : Int)) (hi : i < len)
    (hC : cs.extract (i * s) (i * s + s) = C) : Gives P ⟨d, .index T x y, t, pos, af, gd⟩ a w (.agg C) := by
  have h1 := run_isAgg_agg he w
  subst hX
  exact gives_of_run (by simp [execOp, Instr.index, run_underlying hT, hF.eval hx, hF.eval hy, asIntOf, hi, part, h1.1, h1.2, hC])
theorem g_build0 {v : Value} (h : ∀ w, (Instr.build T #[]).run P w = .ok v w) : Gives P ⟨d, .build T #[], t, pos, af, gd⟩ a w v :=
  gives_of_run (by simp [execOp, h])
end
end Go.Sw

namespace Go.Sw
open Go Go.RowKit
variable {P : Program}

/-! ### '==' on arrays -/
theorem run_forIn_all (w : World) (g : Nat → Bool) (body : Nat → Sem Bool) : ∀ (l : List Nat), (∀ i ∈ l, (body i).run P w = .ok (g i) w) →
    (forIn (m := Sem) l ((none, ()) : Option Bool × Unit) (fun i _ => do if !(← body i) then pure (ForInStep.done (some false, ())) else pure (ForInStep.yield (none, ())))).run P w = .ok (if l.all g then (none, ()) else (some false, ())) w
  | [], _ => by simp
  | i :: l, h => by
    have h1 := h i (List.mem_cons_self ..)
    have ih := run_forIn_all w g body l (fun j hj => h j (List.mem_cons_of_mem _ hj))
    rw [List.forIn_cons]
    cases hg : g i with
    | true =>
      simp only [Sem.run_bind, h1, hg, Result.andThen_ok]
      simp only [Bool.not_true, Bool.false_eq_true, if_false, Sem.run_pure, Result.andThen_ok, ih, List.all_cons, hg, Bool.true_and]
    | false => simp [h1, hg]
theorem run_equalIn_array (d : Nat) (t e : TypeId) (len s : Nat) (xs ys : Array Value) (w : World) (hu : P.underlying t = some (.array len e)) (hs : sizeP P e = some s) (g : Nat → Bool)
    (h : ∀ i, i < len → ∃ x y, (part e xs (i * s)).run P w = .ok x w ∧ (part e ys (i * s)).run P w = .ok y w ∧ (Op.equalIn d e x y).run P w = .ok (g i) w) :
    (Op.equalIn (d + 1) t (.agg xs) (.agg ys)).run P w = .ok ((List.range len).all g) w := by
  have hb : ∀ i ∈ List.range len, ((do let x ← part e xs (i * s); let y ← part e ys (i * s); Op.equalIn d e x y) : Sem Bool).run P w = .ok (g i) w := by
    intro i hi
    obtain ⟨x, y, h1, h2, h3⟩ := h i (by simpa using hi)
    simp [h1, h2, h3]
  have hf := run_forIn_all w g (fun i => do let x ← part e xs (i * s); let y ← part e ys (i * s); Op.equalIn d e x y) (List.range len) hb
  have hr : ∀ (f : Nat → (Option Bool × Unit) → Sem (ForInStep ((Option Bool × Unit)))) (b : (Option Bool × Unit)), forIn (m := Sem) [0:len] b f = forIn (m := Sem) (List.range len) b f := by
    intro f b
    rw [Std.Legacy.Range.forIn_eq_forIn_range']
    simp [Std.Legacy.Range.size, List.range_eq_range']
  rw [Op.equalIn]
  simp only [Sem.run_bind, run_underlying hu, Result.andThen_ok, run_sizeOf hs, hr]
  simp only [bind_assoc] at hf ⊢
  rw [hf]
  cases (List.range len).all g <;> simp

def EqAt (P : Program) (d : Nat) (T : TypeId) (x y : Value) (p : Prop) [Decidable p] : Prop := ∀ w, (Op.equalIn d T x y).run P w = .ok (decide p) w
def intP (P : Program) (T : TypeId) : Bool := match P.underlying T with | some (.int _) => true | _ => false
def arrE (P : Program) (T : TypeId) : Option (Nat × TypeId × Nat) :=
  match P.underlying T with
  | some (.array len e) => (P.info? e).map fun i => (len, e, i.size)
  | _ => none
theorem eqAt_int {d : Nat} {T : TypeId} {k : IntKind} {A B : Int} (h : intP P T = true) : EqAt P (d + 1) T (.int k A) (.int k B) (A = B) := by
  intro w
  unfold intP at h
  cases hu : P.underlying T with
  | none => simp [hu] at h
  | some dd =>
    cases dd <;> simp [hu] at h
    rw [run_equalIn_int w d T k _ A B hu, eqI]
theorem eqAt_ints {d : Nat} {T e : TypeId} {len s : Nat} {k : IntKind} {f g : Nat → Int} {xs ys : Array Value} (hT : arrE P T = some (len, e, s)) (hs : s = 1) (he : intP P e = true) (ho : oneP P e = true)
    (hx : ∀ i, i < len → xs[i]? = some (.int k (f i))) (hy : ∀ i, i < len → ys[i]? = some (.int k (g i))) : EqAt P (d + 2) T (.agg xs) (.agg ys) (∀ i, i < len → f i = g i) := by
  intro w
  subst hs
  unfold arrE at hT
  cases hu : P.underlying T with
  | none => simp [hu] at hT
  | some dd =>
    cases dd <;> simp [hu] at hT
    obtain ⟨inf, hinf, rfl, rfl, hsz⟩ := hT
    have hp := run_isAgg_one ho w
    rw [run_equalIn_array (d + 1) T _ _ 1 xs ys w hu (by simp [sizeP, hinf, hsz]) (fun i => decide (f i = g i)) (fun i hi => ⟨.int k (f i), .int k (g i), ?_, ?_, eqAt_int he w⟩)]
    · congr 1
      rw [Bool.eq_iff_iff]; simp
    · simp [part, hp.1, hx i hi]
    · simp [part, hp.1, hy i hi]
section
variable {n : Nat} {F : List (Nat × Value)} {a : Act} {w : World} {d : Option Tmp} {t : TypeId} {pos : String} {af : Array Edge} {gd : Option (Nat × Bool)} {T T' : TypeId} {x y : Operand} {xs ys : Array Value} {p : Prop} [Decidable p]
theorem g_eqlA (hm : P.eqGuardType P.depth T = false) (hF : Fr n a F) (hx : look F x = some (.agg xs)) (hy : look F y = some (.agg ys)) (h : EqAt P 10000 T (.agg xs) (.agg ys) p) : Gives P ⟨d, .binOp .eql T x y T', t, pos, af, gd⟩ a w (.bool (decide p)) :=
  gives_of_run (by
    have h1 := run_eqGuard_agg (P := P) (w := w) .eql T x y xs ys hm
    simp [execOp, hF.eval hx, hF.eval hy, h1, run_eql_struct, h w])
theorem g_neqA (hm : P.eqGuardType P.depth T = false) (hF : Fr n a F) (hx : look F x = some (.agg xs)) (hy : look F y = some (.agg ys)) (h : EqAt P 10000 T (.agg xs) (.agg ys) p) : Gives P ⟨d, .binOp .neq T x y T', t, pos, af, gd⟩ a w (.bool (decide (¬ p))) :=
  gives_of_run (by
    have h1 := run_eqGuard_agg (P := P) (w := w) .neq T x y xs ys hm
    simp [execOp, hF.eval hx, hF.eval hy, h1, run_neq_struct, h w])
end
theorem EqAt.congr {d : Nat} {T : TypeId} {x y : Value} {p q : Prop} [Decidable p] [Decidable q] (h : EqAt P d T x y p) (e : p ↔ q) : EqAt P d T x y q := fun w => by
  rw [h w]; congr 1; simpa using e
def eqV (m : Nat) (v u : Nat → Nat) : Prop := ∀ i, i < m → v i = u i
instance (m : Nat) (v u : Nat → Nat) : Decidable (eqV m v u) := Nat.decidableBallLT m _
theorem eqAt_vec {d : Nat} {T e : TypeId} {v u : Nat → Nat} (hT : arrE P T = some (6, e, 1)) (he : intP P e = true) (ho : oneP P e = true) : EqAt P (d + 2) T (.agg (vecC v)) (.agg (vecC u)) (eqV 6 v u) := by
  have h := eqAt_ints (d := d) (k := .u8) (xs := vecC v) (ys := vecC u) (f := fun i => (v i : Int)) (g := fun i => (u i : Int)) hT rfl he ho (fun i hi => fnC_get hi) (fun i hi => fnC_get hi)
  exact h.congr ⟨fun h i hi => by have := h i hi; omega, fun h i hi => by rw [h i hi]⟩
end Go.Sw
namespace Go.Sw
open Go
section
variable {Q : Exit → Act → World → Prop} {a : Act} {w : World}
theorem sR (h : Q .ret a w) : Exit.noGoto Q .ret a w := by simpa [Exit.noGoto] using h
end
end Go.Sw

namespace Go.Sw
open Go Go.RowKit
variable {P : Program}

/-! ### Slices that the call owns: their cells lie at a place of their own. -/
structure SlAt (size : Nat) (v : Value) (e : Option (Nat × Array Value)) (n b cap : Nat) (cs : Array Value) (f : Nat → Value) : Prop where
  val : v = .slice (some ⟨b, 0, none⟩) n cap
  ent : e = some (b, cs)
  le : n ≤ cap
  max : cap ≤ maxLen
  sz : cs.size = cap * size
  get : ∀ i, i < n * size → cs[i]? = some (f i)
def Sl (size : Nat) (v : Value) (e : Option (Nat × Array Value)) (n : Nat) (f : Nat → Value) : Prop :=
  (v = .slice none 0 0 ∧ e = none ∧ n = 0) ∨ ∃ b cap cs, SlAt size v e n b cap cs f
theorem Sl.nil (size : Nat) (f : Nat → Value) : Sl size (.slice none 0 0) none 0 f := .inl ⟨rfl, rfl, rfl⟩
theorem Sl.pos {size n : Nat} {v : Value} {e : Option (Nat × Array Value)} {f : Nat → Value} (h : Sl size v e n f) (hn : 0 < n) : ∃ b cap cs, v = .slice (some ⟨b, 0, none⟩) n cap ∧ e = some (b, cs) ∧ SlAt size v e n b cap cs f := by
  rcases h with ⟨_, _, h0⟩ | ⟨b, cap, cs, h⟩
  · omega
  · exact ⟨b, cap, cs, h.val, h.ent, h⟩
theorem Sl.congr {size n : Nat} {v : Value} {e : Option (Nat × Array Value)} {f g : Nat → Value} (h : Sl size v e n f) (hf : ∀ i, i < n * size → f i = g i) : Sl size v e n g := by
  rcases h with h | ⟨b, cap, cs, h⟩
  · exact .inl h
  · exact .inr ⟨b, cap, cs, h.val, h.ent, h.le, h.max, h.sz, fun i hi => by rw [← hf i hi]; exact h.get i hi⟩

def slI (P : Program) (T : TypeId) : Option (TypeId × Option Value × Nat × Nat) :=
  match P.underlying T with
  | some (.slice e) => (P.info? e).map fun i => (e, i.zero, i.size, i.bytes)
  | _ => none

theorem heap_drew_alloc (w : World) (o : Obj) : Ext w (w.drew.alloc o) :=
  Below.alloc (Below.drew (Below.refl w.heap.size w)) (Nat.le_refl _) o

theorem run_append {X : List Nat} {w0 w : World} {L : Own} {D : Froz} {T e : TypeId} {z : Value} {size bytes n k m bx ox cx : Nat} {v : Value} {ent : Option (Nat × Array Value)} {f g : Nat → Value} (hT : slI P T = some (e, some z, size, bytes)) (hz : z.cells.size = size) (hs0 : 0 < size)
    (hM : MemX X w0 w L D) (hk : L[k]? = some ent) (hv : Sl size v ent n f) (hg : ∀ i, i < m * size → w.cell? ⟨bx, ox + i, none⟩ = some (g i)) (h1 : ∀ i, i < m * size → (g i).oneCell' = true)
    (hm : 0 < m) (h63 : n + m ≤ maxLen) (hb : (n + m) * bytes ≤ 140737488355328) (ty : TypeId) :
    ∃ u w' e', (Builtin.append_ #[T, T] ty #[v, .slice (some ⟨bx, ox, none⟩) m cx]).run P w = .ok u w' ∧ MemX X w0 w' (L.set k e') D ∧ Sl size u e' (n + m) (fun i => if i < n * size then f i else g (i - n * size)) := by
  unfold slI at hT
  cases hu : P.underlying T with
  | none => simp [hu] at hT
  | some dd =>
    cases dd <;> simp [hu] at hT
    rename_i el
    obtain ⟨inf, hinf, rfl, hz0, hsz, hby⟩ := hT
    subst hsz; subst hby
    have hm0 : n + m ≤ 9223372036854775807 := by simp only [maxLen] at h63; omega
    have hnl : (((List.range (m * inf.size)).map g)).length = m * inf.size := by simp
    have hnews : ∀ j u, ((List.range (m * inf.size)).map g)[j]? = some u → w.cell? ((⟨bx, ox, none⟩ : Addr).add j) = some u := by
      intro j u hj
      have hlt : j < m * inf.size := by have := (List.getElem?_eq_some_iff.1 hj).1; simpa using this
      rw [Addr.add_lit, hg j hlt]
      simp [hlt] at hj; rw [hj]
    have hone : ∀ u ∈ (List.range (m * inf.size)).map g, u.oneCell' = true := by
      intro u hu'
      obtain ⟨i, hi, rfl⟩ := List.mem_map.1 hu'
      exact h1 i (by simpa using hi)
    rcases hv with ⟨rfl, rfl, rfl⟩ | ⟨b, cap, cs, hat⟩
    · have hr := run_append_nil (P := P) w T ty el inf z hu hinf hz0 ⟨bx, ox, none⟩ m cx _ hnl hnews hm (by omega) (by simp only [Nat.zero_add] at hb; omega)
      refine ⟨_, _, _, hr, hM.fill (heap_drew_alloc _ _) k (Blk.new w.drew _ _) (Nat.le_refl _), .inr ⟨_, _, _, ⟨by rw [Nat.zero_add]; rfl, rfl, ?_, grownCap_le_maxLen w m 0 el (by omega), ?_, ?_⟩⟩⟩
      · have := grownCap_ge w m 0 el; omega
      · have := grownCap_ge w m 0 el
        simp only [Array.size_append, List.size_toArray, hnl, size_zeroCells, hz, ← Nat.add_mul]
        congr 1; omega
      · intro i hi
        rw [Nat.zero_add] at hi
        rw [if_neg (by simp), Array.getElem?_append, if_pos (by simpa using hi)]
        simp [hi]
    · obtain ⟨rfl, rfl, hle, hmax, hcsz, hget⟩ := hat
      have hblk := hM.row k hk
      by_cases hroom : n + m ≤ cap
      · obtain ⟨tt, hgg⟩ := hblk
        have hf := run_firstCells_some (P := P) w inf.size m ⟨bx, ox, none⟩ m cx _ hnl hnews
        have hfit : n * inf.size + ((List.range (m * inf.size)).map g).length ≤ cs.size := by rw [hnl, hcsz, ← Nat.add_mul]; exact Nat.mul_le_mul_right _ hroom
        have hst := run_storeCells_at P b (n * inf.size) tt ((List.range (m * inf.size)).map g) 0 cs w hgg (by simpa using hfit) hone
        simp only [Nat.add_zero] at hst
        have hr : (Builtin.append_ #[T, T] ty #[.slice (some ⟨b, 0, none⟩) n cap, .slice (some ⟨bx, ox, none⟩) m cx]).run P w = .ok (.slice (some ⟨b, 0, none⟩) (n + m) cap) (w.setRow b (splice cs (n * inf.size) ((List.range (m * inf.size)).map g).toArray)) := by
          simp [Builtin.append_, run_underlying hu, Go.sizeOf, typeInfo, hinf, Builtin.lenOf, hroom, hf, Addr.add_lit, hst, splice]
        refine ⟨_, _, _, hr, hM.setRow k hk _, .inr ⟨_, _, _, ⟨rfl, rfl, hroom, hmax, ?_, ?_⟩⟩⟩
        · rw [splice_size _ _ _ (by simpa using hfit), hcsz]
        · intro i hi
          rw [splice_get _ _ _ _ (by simpa using hfit)]
          have e1 : (n + m) * inf.size = n * inf.size + m * inf.size := Nat.add_mul ..
          by_cases hlt : i < n * inf.size
          · rw [if_neg (by omega), if_pos hlt]; exact hget i hlt
          · rw [if_pos (by simp only [List.size_toArray, List.length_map, List.length_range]; omega), if_neg hlt]
            rw [List.getElem?_toArray, List.getElem?_map, List.getElem?_range (by omega)]; rfl
      · have holds : ∀ j u, ((List.range (n * inf.size)).map f)[j]? = some u → w.cell? ((⟨b, 0, none⟩ : Addr).add j) = some u := by
          intro j u hj
          have hlt : j < n * inf.size := by have := (List.getElem?_eq_some_iff.1 hj).1; simpa using this
          rw [Addr.add_lit, Nat.zero_add, hblk.cell, hget j hlt]
          simp [hlt] at hj; rw [hj]
        have hr := run_append_grow (P := P) w T ty el inf z hu hinf hz0 ⟨b, 0, none⟩ n cap ((List.range (n * inf.size)).map f) (by simp) holds ⟨bx, ox, none⟩ m cx _ hnl hnews (by omega) (by omega) (growslice_fits (by omega) hb)
        refine ⟨_, _, _, hr, hM.fill (heap_drew_alloc _ _) k (Blk.new w.drew _ _) (Nat.le_refl _), .inr ⟨_, _, _, ⟨rfl, rfl, grownCap_ge w _ _ _, grownCap_le_maxLen w _ _ _ h63, ?_, ?_⟩⟩⟩
        · have := grownCap_ge w (n + m) cap el
          simp only [Array.size_append, List.size_toArray, hnl, size_zeroCells, hz, List.length_map, List.length_range, ← Nat.add_mul]
          congr 1; omega
        · intro i hi
          have e1 : (n + m) * inf.size = n * inf.size + m * inf.size := Nat.add_mul ..
          rw [Array.getElem?_append, if_pos (by simp only [Array.size_append, List.size_toArray, List.length_map, List.length_range]; omega), Array.getElem?_append]
          by_cases hlt : i < n * inf.size
          · rw [if_pos (by simpa using hlt), if_pos hlt]; simp [hlt]
          · rw [if_neg (by simpa using hlt), if_neg hlt]
            simp only [List.size_toArray, List.length_map, List.length_range]
            rw [List.getElem?_toArray, List.getElem?_map, List.getElem?_range (by omega)]; rfl

section
variable {ops : Array Oper} {Q : Exit → Act → World → Prop} {rest : List Oper} {n : Nat} {F : List (Nat × Value)} {a : Act} {X : List Nat} {w w0 : World} {L : Own} {D : Froz}
variable {d : Option Tmp} {t : TypeId} {pos : String} {af : Array Edge} {gd : Option (Nat × Bool)} {T : TypeId} {x y : Operand}
theorem d_append {e : TypeId} {z : Value} {size bytes N k m bx ox cx : Nat} {v : Value} {ent : Option (Nat × Array Value)} {f g : Nat → Value} (hT : slI P T = some (e, some z, size, bytes)) (hz : z.cells.size = size) (hs0 : 0 < size)
    (hM : MemX X w0 w L D) (hk : L[k]? = some ent) (hF : Fr n a F) (hx : look F x = some v) (hy : look F y = some (.slice (some ⟨bx, ox, none⟩) m cx)) (hv : Sl size v ent N f) (hg : ∀ i, i < m * size → w.cell? ⟨bx, ox + i, none⟩ = some (g i)) (h1 : ∀ i, i < m * size → (g i).oneCell' = true)
    (hm : 0 < m) (h63 : N + m ≤ maxLen) (hb : (N + m) * bytes ≤ 140737488355328) :
    Does P ⟨d, .call { callee := .builtin .append, args := #[x, y], argTypes := #[T, T] }, t, pos, af, gd⟩ a w (fun u w' => ∃ e', MemX X w0 w' (L.set k e') D ∧ Sl size u e' (N + m) (fun i => if i < N * size then f i else g (i - N * size))) :=
  ⟨fun K Q hK => by
    obtain ⟨u, w', e', hr, h2, h3⟩ := run_append (P := P) (T := T) hT hz hs0 hM hk hv hg h1 hm h63 hb t
    unfold Oper.wp execOp
    simp only [resolve, invoke, builtin, Sem.run_bind, Sem.run_pure, Result.andThen_ok, List.map_toArray, List.map_cons, List.map_nil, hF.eval hx, hF.eval hy]
    rw [hr]
    exact hK u w' ⟨e', h2, h3⟩⟩
theorem d_buildC {len : Nat} {parts : Array (Nat × Operand)} {vs : List (Nat × Value)} {cs : Array Value} {e : TypeId} (k : Nat) (hM : MemX X w0 w L D) (_hF : Fr n a F) (hp : parts.toList.map (fun p => (p.1, a.eval p.2)) = vs)
    (hrun : ∀ w, (Instr.buildSlice T len vs.toArray).run P w = .ok (.slice (some ⟨w.heap.size, 0, none⟩) len len) (w.alloc (.cells cs e))) :
    Does P ⟨d, .buildSlice T len parts, t, pos, af, gd⟩ a w (fun u w' => ∃ b, u = .slice (some ⟨b, 0, none⟩) len len ∧ MemX X w0 w' (L.set k (some (b, cs))) D ∧ Ext w w') :=
  ⟨fun K Q hk => by
    have := hk _ (w.alloc (.cells cs e)) ⟨w.heap.size, rfl, hM.fill (Ext.alloc _ _) k (Blk.new _ _ _) (Nat.le_refl _), Ext.alloc _ _⟩
    unfold Oper.wp execOp
    have e1 : (parts.map fun (i, x) => (i, a.eval x)) = vs.toArray := by rw [← hp]; apply Array.toList_inj.1; simp
    simp only [e1, Sem.run_bind, hrun, Result.andThen_ok, Sem.run_pure]
    exact this⟩
theorem g_len {b o len c : Nat} {TT : TypeId} {el : TypeId} (hT : P.underlying TT = some (.slice el)) (hF : Fr n a F) (hx : look F x = some (.slice (some ⟨b, o, none⟩) len c)) : Gives P ⟨d, .call { callee := .builtin .len, args := #[x], argTypes := #[TT] }, t, pos, af, gd⟩ a w (.int .i64 (len : Int)) :=
  gives_of_run (by simp [execOp, resolve, invoke, hF.eval hx, builtin, Builtin.len_, run_underlying hT, goInt])
end

theorem MemX.startD (w : World) (n : Nat) (D : Froz) (h : ∀ b cs, (b, cs) ∈ D → Blk w b cs) : Mem w w (List.replicate n none) D :=
  ⟨ExtX.refl _ w, fun k b cs h => by simp [List.getElem?_replicate] at h, fun k j b cs ds h => by simp [List.getElem?_replicate] at h, fun b cs hm => ⟨h b cs hm, fun k c ds hk => by simp [List.getElem?_replicate] at hk⟩⟩
theorem MemX.fz {X : List Nat} {w0 w : World} {L : Own} {D : Froz} (h : MemX X w0 w L D) (k : Nat) {b : Nat} {cs : Array Value} (hk : D[k]? = some (b, cs)) : Blk w b cs := (h.froz b cs (List.mem_of_getElem? hk)).1
theorem startD1 {w : World} {b : Nat} {cs : Array Value} (h : Blk w b cs) : ∀ c ds, (c, ds) ∈ [(b, cs)] → Blk w c ds := fun c ds hm => by simp at hm; obtain ⟨rfl, rfl⟩ := hm; exact h
theorem startD2 {w : World} {b b' : Nat} {cs cs' : Array Value} (h : Blk w b cs) (h' : Blk w b' cs') : ∀ c ds, (c, ds) ∈ [(b, cs), (b', cs')] → Blk w c ds := fun c ds hm => by
  simp at hm
  rcases hm with ⟨rfl, rfl⟩ | ⟨rfl, rfl⟩
  · exact h
  · exact h'
theorem SlAt.get1 {v : Value} {e : Option (Nat × Array Value)} {n b cap : Nat} {cs : Array Value} {f : Nat → Value} (h : SlAt 1 v e n b cap cs f) (i : Nat) (hi : i < n) : cs[0 + i * 1]? = some (f i) := by
  have := h.get i (by omega); simpa using this
def OwnSl (size : Nat) (w : World) (n : Nat) (f : Nat → Value) (v : Value) (w' : World) : Prop := ∃ b cap cs, SlAt size v (some (b, cs)) n b cap cs f ∧ w.heap.size ≤ b ∧ Blk w' b cs
theorem OwnSl.of {size n k : Nat} {w w' : World} {L : Own} {D : Froz} {v : Value} {e : Option (Nat × Array Value)} {f g : Nat → Value} (hM : Mem w w' L D) (hk : L[k]? = some e) (h : Sl size v e n g) (he : ∀ b, v = b → v ≠ .slice none 0 0) (hf : ∀ i, i < n * size → g i = f i) : OwnSl size w n f v w' := by
  rcases h.congr hf with ⟨rfl, _⟩ | ⟨b, cap, cs, h⟩
  · exact absurd rfl (he _ rfl)
  · obtain rfl := h.ent
    exact ⟨b, cap, cs, h, hM.ge k hk, hM.row k hk⟩
theorem d_callOwn {P : Program} {size N k : Nat} {X : List Nat} {w0 w : World} {L : Own} {D : Froz} {o : Oper} {a : Act} {f : Nat → Value} (hM : MemX X w0 w L D) (hc : Does P o a w (fun u w' => Ext w w' ∧ OwnSl size w N f u w')) :
    Does P o a w (fun u w' => ∃ b cap cs, SlAt size u (some (b, cs)) N b cap cs f ∧ MemX X w0 w' (L.set k (some (b, cs))) D ∧ Ext w w') :=
  hc.mono fun _ _ ⟨hx, b, cap, cs, h1, h2, h3⟩ => ⟨b, cap, cs, h1, hM.fill hx k h3 h2, hx⟩
def leadN (f : Nat → Int) (n : Nat) : Nat := ((List.range n).find? (fun i => f i != 0)).getD n
theorem leadN_some {f : Nat → Int} {n k : Nat} (hk : k < n) (h : ∀ i, i < k → f i = 0) (h1 : f k ≠ 0) : leadN f n = k := by
  unfold leadN
  have : (List.range n).find? (fun i => f i != 0) = some k := by
    rw [List.find?_eq_some_iff_append]
    refine ⟨by simpa using h1, List.range k, (List.range (n - k - 1)).map (fun x => k + 1 + x), ?_, ?_⟩
    · have e : List.range n = List.range (k + (n - k)) := by congr 1; omega
      rw [e, List.range_add]
      congr 1
      rw [show n - k = (n - k - 1) + 1 by omega, List.range_succ_eq_map]
      simp [Function.comp_def, Nat.add_comm]
      intro a _; omega
    · intro c hc; simpa using h c (by simpa using hc)
  rw [this]; rfl
theorem leadN_none {f : Nat → Int} {n : Nat} (h : ∀ i, i < n → f i = 0) : leadN f n = n := by
  unfold leadN
  have : (List.range n).find? (fun i => f i != 0) = none := by
    rw [List.find?_eq_none]; intro c hc; simpa using h c (by simpa using hc)
  rw [this]; rfl
theorem Sl.empty (size b : Nat) (f : Nat → Value) : Sl size (.slice (some ⟨b, 0, none⟩) 0 0) (some (b, #[])) 0 f :=
  .inr ⟨b, 0, #[], ⟨rfl, rfl, Nat.le_refl _, Nat.zero_le _, by simp, fun i hi => by simp at hi⟩⟩
theorem Sl.snoc {u : Value} {e : Option (Nat × Array Value)} {n : Nat} {f : Nat → Value} {x : Value} (h : Sl 1 u e (n + 1) (fun i => if i < n * 1 then f i else (fun _ => x) (i - n * 1))) (hx : x = f n) : Sl 1 u e (n + 1) f :=
  h.congr fun i hi => by
    by_cases hlt : i < n
    · rw [if_pos (by omega)]
    · rw [if_neg (by omega), hx, show i = n by omega]
theorem OwnSl.pos {size n k : Nat} {w w' : World} {L : Own} {D : Froz} {v : Value} {e : Option (Nat × Array Value)} {f : Nat → Value} (hM : Mem w w' L D) (hk : L[k]? = some e) (h : Sl size v e n f) (hn : 0 < n) : OwnSl size w n f v w' := by
  obtain ⟨b, cap, cs, _, rfl, h⟩ := h.pos hn
  exact ⟨b, cap, cs, h, hM.ge k hk, hM.row k hk⟩
theorem build1 {n : Nat} {a : Act} {F : List (Nat × Value)} {x : Operand} {v : Value} (hF : Fr n a F) (hx : look F x = some v) : (#[(0, x)] : Array (Nat × Operand)).toList.map (fun p => (p.1, a.eval p.2)) = [(0, v)] := by simp [hF.eval hx]
end Go.Sw

namespace Go.Sw
open Go Go.RowKit
variable {P : Program}
/-! ### Calls that write into blocks that they are handed -/
def CallsX (P : Program) (X : List Nat) (f : FuncId) (args : Array Value) (w : World) (R : Value → World → Prop) : Prop :=
  Calls P f args w fun e w' => ∃ v, e = .returned v ∧ ExtX X w w' ∧ R v w'
theorem calls_frX {X : List Nat} {fn : Func} {w : World} {f : FuncId} {c : Code} {R : Value → World → Prop} {N : Nat} (vs : List Value) (hf : P.funcs[f]? = some fn) (hb : fn.body = some c) (hN : fn.ntmps = N) (hn : Nat.ble vs.length N = true)
    (h : ∀ a, Fr N a (argF vs 0) → c.wp P (bodyPost P fn (fun e w' => ∃ v, e = .returned v ∧ ExtX X w w' ∧ R v w')) a w) : CallsX P X f vs.toArray w R := by
  subst hN
  exact calls_of_wp hf hb (h _ (frameA vs rfl hn))
theorem MemX.startX1 {w : World} {b : Nat} {cs : Array Value} (n : Nat) (h : Blk w b cs) : MemX [b] w w (some (b, cs) :: List.replicate n none) [] := by
  have key : ∀ (k : Nat) c ds, (some (b, cs) :: List.replicate n none : Own)[k]? = some (some (c, ds)) → k = 0 ∧ c = b ∧ ds = cs := by
    intro k c ds hk
    cases k with
    | zero => simp at hk; exact ⟨rfl, hk.1.symm, hk.2.symm⟩
    | succ k => simp [List.getElem?_replicate] at hk
  refine ⟨ExtX.refl _ w, fun k c ds hk => ?_, fun k j c ds es hk hj => ?_, fun c ds hm => by cases hm⟩
  · obtain ⟨_, rfl, rfl⟩ := key k c ds hk; exact ⟨.inr (List.mem_cons_self ..), h⟩
  · rw [(key k c ds hk).1, (key j c es hj).1]
theorem MemX.upd {X : List Nat} {w0 w w' : World} {L : Own} {D : Froz} (h : MemX X w0 w L D) (k : Nat) {b : Nat} {cs cs' : Array Value} (hk : L[k]? = some (some (b, cs))) (hx : ExtX [b] w w') (hb : Blk w' b cs') : MemX X w0 w' (L.set k (some (b, cs'))) D := by
  have hkl : k < L.length := (List.getElem?_eq_some_iff.1 hk).1
  have hbb := h.blk k b cs hk
  have other : ∀ {c ds}, Blk w c ds → c ≠ b → Blk w' c ds := fun {c ds} hc hne => by
    obtain ⟨t, hc'⟩ := hc
    exact ⟨t, (hx.block c (Blk.lt ⟨t, hc'⟩) (by simpa using hne)).trans hc'⟩
  refine ⟨⟨hx.os.trans h.bel.os, hx.tape.trans h.bel.tape, hx.output.trans h.bel.output, Nat.le_trans h.bel.size hx.size, fun i hi hix => ?_⟩, fun j c ds hj => ?_, fun i j c es ds hi hj => ?_, fun c ds hm => ⟨?_, fun j e es hj => ?_⟩⟩
  · have hne : i ≠ b := by
      rintro rfl
      rcases hbb.1 with e | e
      · omega
      · exact hix e
    exact (hx.block i (Nat.lt_of_lt_of_le hi h.bel.size) (by simpa using hne)).trans (h.bel.block i hi hix)
  · rw [List.getElem?_set] at hj
    by_cases e : k = j
    · subst e
      simp [hkl] at hj
      obtain ⟨rfl, rfl⟩ := hj
      exact ⟨hbb.1, hb⟩
    · rw [if_neg e] at hj
      have hc := h.blk j c ds hj
      exact ⟨hc.1, other hc.2 (fun ecb => by subst ecb; exact e (h.apart k j c _ _ hk hj))⟩
  · rw [List.getElem?_set] at hi hj
    by_cases e1 : k = i
    · subst e1
      simp [hkl] at hi
      obtain ⟨rfl, rfl⟩ := hi
      by_cases e2 : k = j
      · exact e2
      · rw [if_neg e2] at hj; exact h.apart k j _ _ _ hk hj
    · rw [if_neg e1] at hi
      by_cases e2 : k = j
      · subst e2
        simp [hkl] at hj
        obtain ⟨rfl, rfl⟩ := hj
        exact h.apart i k _ _ _ hi hk
      · rw [if_neg e2] at hj; exact h.apart i j _ _ _ hi hj
  · exact other (h.froz c ds hm).1 (fun e => (h.froz c ds hm).2 k b cs hk e.symm)
  · rw [List.getElem?_set] at hj
    by_cases e1 : k = j
    · subst e1
      simp [hkl] at hj
      obtain ⟨rfl, rfl⟩ := hj
      exact (h.froz c ds hm).2 k _ _ hk
    · rw [if_neg e1] at hj; exact (h.froz c ds hm).2 j e es hj
section
variable {n : Nat} {F : List (Nat × Value)} {a : Act} {w : World} {d : Option Tmp} {t : TypeId} {pos : String} {af : Array Edge} {gd : Option (Nat × Bool)} {T T' : TypeId} {x y : Operand}
theorem d_callX {X : List Nat} {f : FuncId} {xs : List Operand} {vs : List Value} {ats : Array TypeId} {R : Value → World → Prop} (hf : ∀ args w, (callFunc f args).run P w = .ok (.enter f args) w) (hF : Fr n a F) (hx : looks F xs vs) (hc : CallsX P X f vs.toArray w R) :
    Does P ⟨d, .call { callee := .value (.func f), args := xs.toArray, argTypes := ats }, t, pos, af, gd⟩ a w (fun u w' => ExtX X w w' ∧ R u w') :=
  ⟨fun K Q hk => by
    have hrun : (execOp a.eval ⟨d, .call { callee := .value (.func f), args := xs.toArray, argTypes := ats }, t, pos, af, gd⟩).run P w = .ok (.enter f vs.toArray) w := by
      have e : (xs.toArray.map a.eval) = vs.toArray := by rw [← hF.evals hx]; simp
      simp [execOp, resolve, Act.eval, Deferred.ofValue, invoke, e, hf]
    unfold Oper.wp
    rw [hrun]
    show Calls P f vs.toArray w _
    exact hc.mono fun e w' ⟨v, he, h1, h2⟩ => by subst he; exact hk v w' ⟨h1, h2⟩⟩
/-! ### Strings -/
end
end Go.Sw

namespace Go.Sw
open Go Go.RowKit
variable {P : Program}
section
variable {fn : Func} {a : Act} {w : World}
theorem fin0 {R : Ending → World → Prop} (hr : fn.results = #[]) (hd : a.defers = []) (h : R (.returned (.tuple #[])) w) : bodyPost P fn R .ret a w :=
  bodyPost_ret (by rw [results_eq, hr]; simp) hd h
theorem fin0n {R : Ending → World → Prop} (hr : fn.results = #[]) (hd : a.defers = []) (h : R (.returned (.tuple #[])) w) : bodyPost P fn R .normal a w := by
  have := fin0 (P := P) (R := R) hr hd h
  exact this
end
theorem MemX.startX1D {w : World} {b : Nat} {cs : Array Value} {D : Froz} (n : Nat) (h : Blk w b cs) (hD : ∀ c ds, (c, ds) ∈ D → Blk w c ds ∧ c ≠ b) : MemX [b] w w (some (b, cs) :: List.replicate n none) D := by
  have h0 := MemX.startX1 n h
  refine ⟨h0.bel, h0.blk, h0.apart, fun c ds hm => ⟨(hD c ds hm).1, fun k e es hk => ?_⟩⟩
  cases k with
  | zero => simp at hk; rw [← hk.1]; exact fun e => (hD c ds hm).2 e.symm
  | succ k => simp [List.getElem?_replicate] at hk
theorem startXD1 {w : World} {b b' : Nat} {cs' : Array Value} (h : Blk w b' cs') (hn : b' ≠ b) : ∀ c ds, (c, ds) ∈ [(b', cs')] → Blk w c ds ∧ c ≠ b := fun c ds hm => by simp at hm; obtain ⟨rfl, rfl⟩ := hm; exact ⟨h, hn⟩
end Go.Sw
