/- Plain lemmas of a small calculus for walks over frames and own memory; no statement of the seat is proved here. -/
import Derived.Test.YtficgmohfabplaaDat
import Derived.Scope
set_option linter.unusedVariables false
set_option linter.unusedSimpArgs false
namespace Go.Sw
open Go Go.RowKit
variable {P : Program}

/-! ### '==' on arrays -/
theorem run_forIn_all (w : World) (g : Nat → Bool) (body : Nat → Sem Bool) : ∀ (l : List Nat), (∀ i ∈ l, (body i).run P w = .ok (g i) w) →
    (forIn (m := Sem) l ((none, ()) : Option Bool × Unit) (fun i _ => do if !(← body i) then pure (ForInStep.done (some false, ())) else pure (ForInStep.yield (none, ())))).run P w = .ok (if l.all g then (none, ()) else (some false, ())) w
  | [], _ => by simp
  | i :: l, h => by
    have h1 := h i (List.mem_cons_self ..)
    have ih := run_forIn_all w g body l (fun j hj => h j (List.mem_cons_of_mem _ hj))
    rw [List.forIn_cons]
    cases hg : g i with
    | true =>
      simp only [Sem.run_bind, h1, hg, Result.andThen_ok]
      simp only [Bool.not_true, Bool.false_eq_true, if_false, Sem.run_pure, Result.andThen_ok, ih, List.all_cons, hg, Bool.true_and]
    | false => simp [h1, hg]
theorem run_equalIn_array (d : Nat) (t e : TypeId) (len s : Nat) (xs ys : Array Value) (w : World) (hu : P.underlying t = some (.array len e)) (hs : sizeP P e = some s) (g : Nat → Bool)
    (h : ∀ i, i < len → ∃ x y, (part e xs (i * s)).run P w = .ok x w ∧ (part e ys (i * s)).run P w = .ok y w ∧ (Op.equalIn d e x y).run P w = .ok (g i) w) :
    (Op.equalIn (d + 1) t (.agg xs) (.agg ys)).run P w = .ok ((List.range len).all g) w := by
  have hb : ∀ i ∈ List.range len, ((do let x ← part e xs (i * s); let y ← part e ys (i * s); Op.equalIn d e x y) : Sem Bool).run P w = .ok (g i) w := by
    intro i hi
    obtain ⟨x, y, h1, h2, h3⟩ := h i (by simpa using hi)
    simp [h1, h2, h3]
  have hf := run_forIn_all w g (fun i => do let x ← part e xs (i * s); let y ← part e ys (i * s); Op.equalIn d e x y) (List.range len) hb
  have hr : ∀ (f : Nat → (Option Bool × Unit) → Sem (ForInStep ((Option Bool × Unit)))) (b : (Option Bool × Unit)), forIn (m := Sem) [0:len] b f = forIn (m := Sem) (List.range len) b f := by
    intro f b
    rw [Std.Legacy.Range.forIn_eq_forIn_range']
    simp [Std.Legacy.Range.size, List.range_eq_range']
  rw [Op.equalIn]
  simp only [Sem.run_bind, run_underlying hu, Result.andThen_ok, run_sizeOf hs, hr]
  simp only [bind_assoc] at hf ⊢
  rw [hf]
  cases (List.range len).all g <;> simp

/-- What '==' says of two values of a type. -/
def EqAt (P : Program) (d : Nat) (T : TypeId) (x y : Value) (p : Prop) [Decidable p] : Prop := ∀ w, (Op.equalIn d T x y).run P w = .ok (decide p) w
def intP (P : Program) (T : TypeId) : Bool := match P.underlying T with | some (.int _) => true | _ => false
def arrE (P : Program) (T : TypeId) : Option (Nat × TypeId × Nat) :=
  match P.underlying T with
  | some (.array len e) => (P.info? e).map fun i => (len, e, i.size)
  | _ => none
theorem eqAt_int {d : Nat} {T : TypeId} {k : IntKind} {A B : Int} (h : intP P T = true) : EqAt P (d + 1) T (.int k A) (.int k B) (A = B) := by
  intro w
  unfold intP at h
  cases hu : P.underlying T with
  | none => simp [hu] at h
  | some dd =>
    cases dd <;> simp [hu] at h
    rw [run_equalIn_int w d T k _ A B hu, eqI]
/-- Arrays of numbers. -/
theorem eqAt_ints {d : Nat} {T e : TypeId} {len s : Nat} {k : IntKind} {f g : Nat → Int} {xs ys : Array Value} (hT : arrE P T = some (len, e, s)) (hs : s = 1) (he : intP P e = true) (ho : oneP P e = true)
    (hx : ∀ i, i < len → xs[i]? = some (.int k (f i))) (hy : ∀ i, i < len → ys[i]? = some (.int k (g i))) : EqAt P (d + 2) T (.agg xs) (.agg ys) (∀ i, i < len → f i = g i) := by
  intro w
  subst hs
  unfold arrE at hT
  cases hu : P.underlying T with
  | none => simp [hu] at hT
  | some dd =>
    cases dd <;> simp [hu] at hT
    obtain ⟨inf, hinf, rfl, rfl, hsz⟩ := hT
    have hp := run_isAgg_one ho w
    rw [run_equalIn_array (d + 1) T _ _ 1 xs ys w hu (by simp [sizeP, hinf, hsz]) (fun i => decide (f i = g i)) (fun i hi => ⟨.int k (f i), .int k (g i), ?_, ?_, eqAt_int he w⟩)]
    · congr 1
      rw [Bool.eq_iff_iff]; simp
    · simp [part, hp.1, hx i hi]
    · simp [part, hp.1, hy i hi]
/-- Arrays of arrays. -/
theorem eqAt_aggs {d : Nat} {T e : TypeId} {len s : Nat} {xs ys : Array Value} {q : Nat → Prop} [∀ i, Decidable (q i)] (hT : arrE P T = some (len, e, s)) (ha : aggP P e = some s)
    (h : ∀ i, i < len → EqAt P d e (.agg (xs.extract (i * s) (i * s + s))) (.agg (ys.extract (i * s) (i * s + s))) (q i)) : EqAt P (d + 1) T (.agg xs) (.agg ys) (∀ i, i < len → q i) := by
  intro w
  unfold arrE at hT
  cases hu : P.underlying T with
  | none => simp [hu] at hT
  | some dd =>
    cases dd <;> simp [hu] at hT
    obtain ⟨inf, hinf, rfl, rfl, hsz⟩ := hT
    have hp := run_isAgg_agg ha w
    rw [run_equalIn_array d T _ _ s xs ys w hu (by simp [sizeP, hinf, hsz]) (fun i => decide (q i)) (fun i hi => ⟨_, _, ?_, ?_, h i hi w⟩)]
    · congr 1
      rw [Bool.eq_iff_iff]; simp
    · simp [part, hp.1, hp.2]
    · simp [part, hp.1, hp.2]
section
variable {n : Nat} {F : List (Nat × Value)} {a : Act} {w : World} {d : Option Tmp} {t : TypeId} {pos : String} {af : Array Edge} {gd : Option (Nat × Bool)} {T T' : TypeId} {x y : Operand} {xs ys : Array Value} {p : Prop} [Decidable p]
theorem g_eqlA (hm : P.eqGuardType P.depth T = false) (hF : Fr n a F) (hx : look F x = some (.agg xs)) (hy : look F y = some (.agg ys)) (h : EqAt P 10000 T (.agg xs) (.agg ys) p) : Gives P ⟨d, .binOp .eql T x y T', t, pos, af, gd⟩ a w (.bool (decide p)) :=
  gives_of_run (by
    have h1 := run_eqGuard_agg (P := P) (w := w) .eql T x y xs ys hm
    simp [execOp, hF.eval hx, hF.eval hy, h1, run_eql_struct, h w])
theorem g_neqA (hm : P.eqGuardType P.depth T = false) (hF : Fr n a F) (hx : look F x = some (.agg xs)) (hy : look F y = some (.agg ys)) (h : EqAt P 10000 T (.agg xs) (.agg ys) p) : Gives P ⟨d, .binOp .neq T x y T', t, pos, af, gd⟩ a w (.bool (decide (¬ p))) :=
  gives_of_run (by
    have h1 := run_eqGuard_agg (P := P) (w := w) .neq T x y xs ys hm
    simp [execOp, hF.eval hx, hF.eval hy, h1, run_neq_struct, h w])
end
theorem EqAt.congr {d : Nat} {T : TypeId} {x y : Value} {p q : Prop} [Decidable p] [Decidable q] (h : EqAt P d T x y p) (e : p ↔ q) : EqAt P d T x y q := fun w => by
  rw [h w]; congr 1; simpa using e
/-- The first m numbers are the same. -/
def eqV (m : Nat) (v u : Nat → Nat) : Prop := ∀ i, i < m → v i = u i
instance (m : Nat) (v u : Nat → Nat) : Decidable (eqV m v u) := Nat.decidableBallLT m _
theorem eqAt_vec {d : Nat} {T e : TypeId} {v u : Nat → Nat} (hT : arrE P T = some (6, e, 1)) (he : intP P e = true) (ho : oneP P e = true) : EqAt P (d + 2) T (.agg (vecC v)) (.agg (vecC u)) (eqV 6 v u) := by
  have h := eqAt_ints (d := d) (k := .u8) (xs := vecC v) (ys := vecC u) (f := fun i => (v i : Int)) (g := fun i => (u i : Int)) hT rfl he ho (fun i hi => fnC_get hi) (fun i hi => fnC_get hi)
  exact h.congr ⟨fun h i hi => by have := h i hi; omega, fun h i hi => by rw [h i hi]⟩
end Go.Sw
namespace Go.Sw
open Go
section
variable {Q : Exit → Act → World → Prop} {a : Act} {w : World}
theorem sN (h : Q .normal a w) : Exit.noGoto Q .normal a w := by simpa [Exit.noGoto] using h
theorem sX {i : Nat} (h : Q (.exit i) a w) : Exit.noGoto Q (.exit i) a w := by simpa [Exit.noGoto] using h
theorem sR (h : Q .ret a w) : Exit.noGoto Q .ret a w := by simpa [Exit.noGoto] using h
end
end Go.Sw
