/- Plain lemmas of a small calculus for walks over frames and own memory; no statement of the seat is proved here. -/
import Derived.Test.YtfencffdhenjdaaDoorSw5
import Derived.Scope
set_option linter.unusedVariables false
set_option linter.unusedSimpArgs false
namespace Go.Sw
open Go Go.RowKit

def argF : List Value → Nat → List (Nat × Value)
  | [], _ => []
  | v :: r, i => (i, v) :: argF r (i + 1)
theorem argF_spec : ∀ (l : List Value) (i t : Nat) (v : Value), lk (argF l i) t = some v → i ≤ t ∧ l[t - i]? = some v
  | [], _, _, _, h => by cases h
  | x :: r, i, t, v, h => by
    simp only [argF, lk] at h
    by_cases e : i = t
    · subst e; simp at h; subst h; simp
    · rw [beqF e] at h
      obtain ⟨h1, h2⟩ := argF_spec r (i + 1) t v h
      refine ⟨by omega, ?_⟩
      obtain ⟨m', hm⟩ : ∃ m', t - i = m' + 1 := ⟨t - i - 1, by omega⟩
      rw [hm]; simp; rwa [show t - (i + 1) = m' by omega] at h2
/-- The frame as a body begins. -/
theorem frameA {args : Array Value} {N : Nat} (vs : List Value) (hv : args = vs.toArray) (hn : Nat.ble vs.length N = true) :
    Fr N { tmps := args ++ Array.replicate (N - args.size) undef, defers := [] } (argF vs 0) :=
  frame0 vs hv (Nat.ble_eq.mp hn) _ fun t v h => by have := (argF_spec vs 0 t v h).2; simpa using this

theorem calls_fr {P : Program} {fn : Func} {w : World} {f : FuncId} {c : Code} {R : Value → World → Prop} {N : Nat} (vs : List Value) (hf : P.funcs[f]? = some fn) (hb : fn.body = some c) (hN : fn.ntmps = N) (hn : Nat.ble vs.length N = true)
    (h : ∀ a, Fr N a (argF vs 0) → c.wp P (bodyPost P fn (fun e w' => ∃ v, e = .returned v ∧ Ext w w' ∧ R v w')) a w) : CallsR P f vs.toArray w R := by
  subst hN
  exact calls_of hf hb (h _ (frameA vs rfl hn))

theorem add_nat (x y : Nat) (h : x + y < 9223372036854775808) : IntKind.i64.wrap ((x : Int) + (y : Int)) = ((x + y : Nat) : Int) := by
  rw [wrap_i64] <;> omega
theorem mul_nat (x y : Nat) (h : x * y < 9223372036854775808) : IntKind.i64.wrap ((x : Int) * (y : Int)) = ((x * y : Nat) : Int) := by
  rw [wrap_i64] <;> rw [← Int.natCast_mul] <;> omega
theorem rem_nat (x y : Nat) : ((x : Int)).tmod (y : Int) = ((x % y : Nat) : Int) := by
  rw [Int.tmod_eq_emod_of_nonneg (by omega)]; rfl
/-- The cells of an algebra. -/
def algC (p n : Int) (T : Nat → Nat → Nat → Nat) (f : Nat → Nat) : Array Value :=
  fnC 224 fun c => if c = 0 then .int .i64 p else if c = 1 then .int .i64 n else if c < 218 then .int .u8 (T ((c - 2) / 36) ((c - 2) / 6 % 6) ((c - 2) % 6)) else .int .u8 (f (c - 218))
def vecC (v : Nat → Nat) : Array Value := fnC 6 fun c => .int .u8 (v c)
section
variable {p n : Int} {T : Nat → Nat → Nat → Nat} {f : Nat → Nat} {v : Nat → Nat}
theorem cells_size : (algC p n T f).size = 224 := fnC_size _ _
theorem vecC_size : (vecC v).size = 6 := fnC_size _ _
theorem algC_p {o : Nat} (h : o = 0) : (algC p n T f)[o]? = some (.int .i64 p) := by subst h; exact fnC_get (by omega)
theorem algC_n {o : Nat} (h : o = 1) : (algC p n T f)[o]? = some (.int .i64 n) := by subst h; exact fnC_get (by omega)
theorem algC_T {o : Nat} (i j k : Nat) (h : o = 2 + i * 36 + j * 6 + k) (hi : i < 6) (hj : j < 6) (hk : k < 6) : (algC p n T f)[o]? = some (.int .u8 ((T i j k : Nat) : Int)) := by
  subst h
  unfold algC
  rw [fnC_get (by omega), if_neg (by omega), if_neg (by omega), if_pos (by omega)]
  have e1 : (2 + i * 36 + j * 6 + k - 2) / 36 = i := by omega
  have e2 : (2 + i * 36 + j * 6 + k - 2) / 6 % 6 = j := by omega
  have e3 : (2 + i * 36 + j * 6 + k - 2) % 6 = k := by omega
  rw [e1, e2, e3]
theorem algC_f {o : Nat} (i : Nat) (h : o = 218 + i) (hi : i < 6) : (algC p n T f)[o]? = some (.int .u8 ((f i : Nat) : Int)) := by
  subst h
  unfold algC
  rw [fnC_get (by omega), if_neg (by omega), if_neg (by omega), if_neg (by omega)]
  rw [show 218 + i - 218 = i by omega]
theorem vecC_get {o : Nat} (i : Nat) (h : o = i) (hi : i < 6) : (vecC v)[o]? = some (.int .u8 ((v i : Nat) : Int)) := by subst h; exact fnC_get hi
theorem extract_ext {c : Array Value} {o s e : Nat} {f : Nat → Value} (he : e = o + s) (hs : o + s ≤ c.size) (h : ∀ i, i < s → c[o + i]? = some (f i)) : c.extract o e = fnC s f := by
  subst he
  apply fnC_ext (by simp; omega)
  intro i hi
  rw [Array.getElem?_extract, if_pos (by omega)]
  exact h i hi
theorem algC_row (i j : Nat) {o e : Nat} (h : o = 2 + i * 36 + j * 6) (he : e = o + 6) (hi : i < 6) (hj : j < 6) : (algC p n T f).extract o e = vecC (T i j) := by
  subst h
  exact extract_ext he (by rw [cells_size]; omega) fun k hk => algC_T i j k (by omega) hi hj hk
theorem algC_form {o e : Nat} (h : o = 218) (he : e = o + 6) : (algC p n T f).extract o e = vecC f := by
  subst h
  exact extract_ext he (by rw [cells_size]; omega) fun k hk => algC_f k (by omega) hk
theorem cells_one : ∀ u ∈ (algC p n T f).toList, u.oneCell' = true := fnC_one fun i _ => by
  split
  · rfl
  · split
    · rfl
    · split <;> rfl
theorem vecC_one : ∀ u ∈ (vecC v).toList, u.oneCell' = true := fnC_one fun _ _ => rfl
end
theorem MemX.rowc {X : List Nat} {w0 w : World} {L : Own} {D : Froz} (h : MemX X w0 w L D) (k : Nat) {b : Nat} {cs cs' : Array Value} (hk : L[k]? = some (some (b, cs))) (e : cs = cs') : MemX X w0 w (L.set k (some (b, cs'))) D := by
  subst e
  have : L.set k (some (b, cs)) = L := by
    apply List.ext_getElem?
    intro j
    rw [List.getElem?_set]
    split
    · rename_i e; subst e
      split
      · exact hk.symm
      · rename_i hl; rw [List.getElem?_eq_none (by omega)]
    · rfl
  rw [this]; exact h
theorem MemX.cast {X : List Nat} {w0 w : World} {L L' : Own} {D : Froz} (h : MemX X w0 w L D) (e : L = L') : MemX X w0 w L' D := e ▸ h
end Go.Sw
namespace Go.Sw
open Go Go.RowKit
def tabC (T : Nat → Nat → Nat → Nat) : Array Value := fnC 216 fun c => .int .u8 (T (c / 36) (c / 6 % 6) (c % 6))
def planeC (T : Nat → Nat → Nat) : Array Value := fnC 36 fun c => .int .u8 (T (c / 6) (c % 6))
section
variable {p n : Int} {T : Nat → Nat → Nat → Nat} {f : Nat → Nat} {M : Nat → Nat → Nat}
theorem tabC_size : (tabC T).size = 216 := fnC_size _ _
theorem planeC_size : (planeC M).size = 36 := fnC_size _ _
theorem tabC_get {o : Nat} (i j k : Nat) (h : o = i * 36 + j * 6 + k) (hi : i < 6) (hj : j < 6) (hk : k < 6) : (tabC T)[o]? = some (.int .u8 ((T i j k : Nat) : Int)) := by
  subst h
  unfold tabC
  rw [fnC_get (by omega), show (i * 36 + j * 6 + k) / 36 = i by omega, show (i * 36 + j * 6 + k) / 6 % 6 = j by omega, show (i * 36 + j * 6 + k) % 6 = k by omega]
theorem planeC_get {o : Nat} (j k : Nat) (h : o = j * 6 + k) (hj : j < 6) (hk : k < 6) : (planeC M)[o]? = some (.int .u8 ((M j k : Nat) : Int)) := by
  subst h
  unfold planeC
  rw [fnC_get (by omega), show (j * 6 + k) / 6 = j by omega, show (j * 6 + k) % 6 = k by omega]
theorem algC_tab {o e : Nat} (h : o = 2) (he : e = o + 216) : (algC p n T f).extract o e = tabC T := by
  subst h
  exact extract_ext he (by rw [cells_size]; omega) fun c hc => algC_T (c / 36) (c / 6 % 6) (c % 6) (by omega) (by omega) (by omega) (by omega)
theorem tabC_plane {o e : Nat} (i : Nat) (h : o = i * 36) (he : e = o + 36) (hi : i < 6) : (tabC T).extract o e = planeC (T i) := by
  subst h
  exact extract_ext he (by rw [tabC_size]; omega) fun c hc => tabC_get i (c / 6) (c % 6) (by omega) (by omega) (by omega) (by omega)
theorem planeC_row {o e : Nat} (j : Nat) (h : o = j * 6) (he : e = o + 6) (hj : j < 6) : (planeC M).extract o e = vecC (M j) := by
  subst h
  exact extract_ext he (by rw [planeC_size]; omega) fun c hc => planeC_get j c (by omega) (by omega) (by omega)
end
section
variable {P : Program} {n : Nat} {F : List (Nat × Value)} {a : Act} {w : World} {d : Option Tmp} {t : TypeId} {pos : String} {af : Array Edge} {gd : Option (Nat × Bool)} {T : TypeId} {x y : Operand}
/-- A row of an array that is a value. -/
theorem g_indexA {i len s : Nat} {κ : IntKind} {X : Int} {cs C : Array Value} {e : TypeId} (hT : P.underlying T = some (.array len e)) (he : aggP P e = some s) (hF : Fr n a F) (hx : look F x = some (.agg cs)) (hy : look F y = some (.int κ X)) (hX : X = (i : Int)) (hi : i < len)
    (hC : cs.extract (i * s) (i * s + s) = C) : Gives P ⟨d, .index T x y, t, pos, af, gd⟩ a w (.agg C) := by
  have h1 := run_isAgg_agg he w
  subst hX
  exact gives_of_run (by simp [execOp, Instr.index, run_underlying hT, hF.eval hx, hF.eval hy, asIntOf, hi, part, h1.1, h1.2, hC])
/-- A composite without parts: the zero value. -/
theorem g_build0 {v : Value} (h : ∀ w, (Instr.build T #[]).run P w = .ok v w) : Gives P ⟨d, .build T #[], t, pos, af, gd⟩ a w v :=
  gives_of_run (by simp [execOp, h])
end
end Go.Sw

namespace Go.Sw
open Go Go.RowKit
variable {P : Program}

/-! ### '==' on arrays -/
theorem run_forIn_all (w : World) (g : Nat → Bool) (body : Nat → Sem Bool) : ∀ (l : List Nat), (∀ i ∈ l, (body i).run P w = .ok (g i) w) →
    (forIn (m := Sem) l ((none, ()) : Option Bool × Unit) (fun i _ => do if !(← body i) then pure (ForInStep.done (some false, ())) else pure (ForInStep.yield (none, ())))).run P w = .ok (if l.all g then (none, ()) else (some false, ())) w
  | [], _ => by simp
  | i :: l, h => by
    have h1 := h i (List.mem_cons_self ..)
    have ih := run_forIn_all w g body l (fun j hj => h j (List.mem_cons_of_mem _ hj))
    rw [List.forIn_cons]
    cases hg : g i with
    | true =>
      simp only [Sem.run_bind, h1, hg, Result.andThen_ok]
      simp only [Bool.not_true, Bool.false_eq_true, if_false, Sem.run_pure, Result.andThen_ok, ih, List.all_cons, hg, Bool.true_and]
    | false => simp [h1, hg]
theorem run_equalIn_array (d : Nat) (t e : TypeId) (len s : Nat) (xs ys : Array Value) (w : World) (hu : P.underlying t = some (.array len e)) (hs : sizeP P e = some s) (g : Nat → Bool)
    (h : ∀ i, i < len → ∃ x y, (part e xs (i * s)).run P w = .ok x w ∧ (part e ys (i * s)).run P w = .ok y w ∧ (Op.equalIn d e x y).run P w = .ok (g i) w) :
    (Op.equalIn (d + 1) t (.agg xs) (.agg ys)).run P w = .ok ((List.range len).all g) w := by
  have hb : ∀ i ∈ List.range len, ((do let x ← part e xs (i * s); let y ← part e ys (i * s); Op.equalIn d e x y) : Sem Bool).run P w = .ok (g i) w := by
    intro i hi
    obtain ⟨x, y, h1, h2, h3⟩ := h i (by simpa using hi)
    simp [h1, h2, h3]
  have hf := run_forIn_all w g (fun i => do let x ← part e xs (i * s); let y ← part e ys (i * s); Op.equalIn d e x y) (List.range len) hb
  have hr : ∀ (f : Nat → (Option Bool × Unit) → Sem (ForInStep ((Option Bool × Unit)))) (b : (Option Bool × Unit)), forIn (m := Sem) [0:len] b f = forIn (m := Sem) (List.range len) b f := by
    intro f b
    rw [Std.Legacy.Range.forIn_eq_forIn_range']
    simp [Std.Legacy.Range.size, List.range_eq_range']
  rw [Op.equalIn]
  simp only [Sem.run_bind, run_underlying hu, Result.andThen_ok, run_sizeOf hs, hr]
  simp only [bind_assoc] at hf ⊢
  rw [hf]
  cases (List.range len).all g <;> simp

/-- What '==' says of two values of a type. -/
def EqAt (P : Program) (d : Nat) (T : TypeId) (x y : Value) (p : Prop) [Decidable p] : Prop := ∀ w, (Op.equalIn d T x y).run P w = .ok (decide p) w
def intP (P : Program) (T : TypeId) : Bool := match P.underlying T with | some (.int _) => true | _ => false
def arrE (P : Program) (T : TypeId) : Option (Nat × TypeId × Nat) :=
  match P.underlying T with
  | some (.array len e) => (P.info? e).map fun i => (len, e, i.size)
  | _ => none
theorem eqAt_int {d : Nat} {T : TypeId} {k : IntKind} {A B : Int} (h : intP P T = true) : EqAt P (d + 1) T (.int k A) (.int k B) (A = B) := by
  intro w
  unfold intP at h
  cases hu : P.underlying T with
  | none => simp [hu] at h
  | some dd =>
    cases dd <;> simp [hu] at h
    rw [run_equalIn_int w d T k _ A B hu, eqI]
/-- Arrays of numbers. -/
theorem eqAt_ints {d : Nat} {T e : TypeId} {len s : Nat} {k : IntKind} {f g : Nat → Int} {xs ys : Array Value} (hT : arrE P T = some (len, e, s)) (hs : s = 1) (he : intP P e = true) (ho : oneP P e = true)
    (hx : ∀ i, i < len → xs[i]? = some (.int k (f i))) (hy : ∀ i, i < len → ys[i]? = some (.int k (g i))) : EqAt P (d + 2) T (.agg xs) (.agg ys) (∀ i, i < len → f i = g i) := by
  intro w
  subst hs
  unfold arrE at hT
  cases hu : P.underlying T with
  | none => simp [hu] at hT
  | some dd =>
    cases dd <;> simp [hu] at hT
    obtain ⟨inf, hinf, rfl, rfl, hsz⟩ := hT
    have hp := run_isAgg_one ho w
    rw [run_equalIn_array (d + 1) T _ _ 1 xs ys w hu (by simp [sizeP, hinf, hsz]) (fun i => decide (f i = g i)) (fun i hi => ⟨.int k (f i), .int k (g i), ?_, ?_, eqAt_int he w⟩)]
    · congr 1
      rw [Bool.eq_iff_iff]; simp
    · simp [part, hp.1, hx i hi]
    · simp [part, hp.1, hy i hi]
section
variable {n : Nat} {F : List (Nat × Value)} {a : Act} {w : World} {d : Option Tmp} {t : TypeId} {pos : String} {af : Array Edge} {gd : Option (Nat × Bool)} {T T' : TypeId} {x y : Operand} {xs ys : Array Value} {p : Prop} [Decidable p]
theorem g_neqA (hm : P.eqGuardType P.depth T = false) (hF : Fr n a F) (hx : look F x = some (.agg xs)) (hy : look F y = some (.agg ys)) (h : EqAt P 10000 T (.agg xs) (.agg ys) p) : Gives P ⟨d, .binOp .neq T x y T', t, pos, af, gd⟩ a w (.bool (decide (¬ p))) :=
  gives_of_run (by
    have h1 := run_eqGuard_agg (P := P) (w := w) .neq T x y xs ys hm
    simp [execOp, hF.eval hx, hF.eval hy, h1, run_neq_struct, h w])
end
theorem EqAt.congr {d : Nat} {T : TypeId} {x y : Value} {p q : Prop} [Decidable p] [Decidable q] (h : EqAt P d T x y p) (e : p ↔ q) : EqAt P d T x y q := fun w => by
  rw [h w]; congr 1; simpa using e
/-- The first m numbers are the same. -/
def eqV (m : Nat) (v u : Nat → Nat) : Prop := ∀ i, i < m → v i = u i
instance (m : Nat) (v u : Nat → Nat) : Decidable (eqV m v u) := Nat.decidableBallLT m _
theorem eqAt_vec {d : Nat} {T e : TypeId} {v u : Nat → Nat} (hT : arrE P T = some (6, e, 1)) (he : intP P e = true) (ho : oneP P e = true) : EqAt P (d + 2) T (.agg (vecC v)) (.agg (vecC u)) (eqV 6 v u) := by
  have h := eqAt_ints (d := d) (k := .u8) (xs := vecC v) (ys := vecC u) (f := fun i => (v i : Int)) (g := fun i => (u i : Int)) hT rfl he ho (fun i hi => fnC_get hi) (fun i hi => fnC_get hi)
  exact h.congr ⟨fun h i hi => by have := h i hi; omega, fun h i hi => by rw [h i hi]⟩
end Go.Sw
namespace Go.Sw
open Go
section
variable {Q : Exit → Act → World → Prop} {a : Act} {w : World}
theorem sR (h : Q .ret a w) : Exit.noGoto Q .ret a w := by simpa [Exit.noGoto] using h
end
end Go.Sw
