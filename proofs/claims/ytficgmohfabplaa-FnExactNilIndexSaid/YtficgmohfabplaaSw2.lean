/- Plain lemmas of a small calculus for walks over frames and own memory; no statement of the seat is proved here. -/
import Derived.Test.YtficgmohfabplaaSw
set_option linter.unusedVariables false
set_option linter.unusedSimpArgs false
namespace Go.Sw
open Go Go.RowKit
variable {P : Program}

/-! ### One operation. -/
/-- The operation hands back a value with R, in some world. -/
structure Does (P : Program) (o : Oper) (a : Act) (w : World) (R : Value → World → Prop) : Prop where
  run : ∀ (K : Act → World → Prop) (Q : Exit → Act → World → Prop), (∀ v w', R v w' → K (a.put o.dst v) w') → o.wp P a w K Q

theorem Does.mono {o : Oper} {a : Act} {w : World} {R R' : Value → World → Prop} (h : Does P o a w R) (hr : ∀ v w', R v w' → R' v w') : Does P o a w R' :=
  ⟨fun K Q hk => h.run K Q fun v w' r => hk v w' (hr v w' r)⟩

/-- One value, the world as it was. -/
abbrev Gives (P : Program) (o : Oper) (a : Act) (w : World) (v : Value) : Prop := Does P o a w (fun u w' => u = v ∧ w' = w)

theorem gives_of_run {d : Option Tmp} {op : Op} {t : TypeId} {pos : String} {af : Array Edge} {gd : Option (Nat × Bool)} {a : Act} {w : World} {v : Value}
    (h : (execOp a.eval ⟨d, op, t, pos, af, gd⟩).run P w = .ok (.value v) w) : Gives P ⟨d, op, t, pos, af, gd⟩ a w v :=
  ⟨fun K Q hk => by unfold Oper.wp; rw [h]; exact hk v w ⟨rfl, rfl⟩⟩

section
variable {ops : Array Oper} {Q : Exit → Act → World → Prop} {rest : List Oper} {n : Nat} {F : List (Nat × Value)} {a : Act} {w : World}

/-- In the order of the text. -/
theorem st {d : Nat} {op : Op} {t : TypeId} {pos : String} {af : Array Edge} {v : Value} (hF : Fr n a F) (hd : Gives P ⟨some d, op, t, pos, af, none⟩ a w v) (hn : Nat.blt d n = true)
    (h : ∀ a', Fr n a' ((d, v) :: F) → wpList P ops Q rest a' w) : wpList P ops Q (⟨some d, op, t, pos, af, none⟩ :: rest) a w :=
  wpList_plain rfl fun K hK => hd.run K Q fun u w' ⟨h1, h2⟩ => by subst h1; subst h2; exact hK _ _ (h _ (hF.put d _ hn))

theorem stR {d : Nat} {op : Op} {t : TypeId} {pos : String} {af : Array Edge} {R : Value → World → Prop} (hF : Fr n a F) (hd : Does P ⟨some d, op, t, pos, af, none⟩ a w R) (hn : Nat.blt d n = true)
    (h : ∀ v w' a', R v w' → Fr n a' ((d, v) :: F) → wpList P ops Q rest a' w') : wpList P ops Q (⟨some d, op, t, pos, af, none⟩ :: rest) a w :=
  wpList_plain rfl fun K hK => hd.run K Q fun u w' hr => hK _ _ (h u w' _ hr (hF.put d _ hn))

theorem stN {op : Op} {t : TypeId} {pos : String} {af : Array Edge} {R : Value → World → Prop} (hF : Fr n a F) (hd : Does P ⟨none, op, t, pos, af, none⟩ a w R)
    (h : ∀ v w' a', R v w' → Fr n a' F → wpList P ops Q rest a' w') : wpList P ops Q (⟨none, op, t, pos, af, none⟩ :: rest) a w :=
  wpList_plain rfl fun K hK => hd.run K Q fun u w' hr => hK _ _ (h u w' _ hr hF)

theorem yielded_of {ops : Array Oper} {j dj : Nat} {b : Bool} (hF : Fr n a F) (hj : (ops[j]?).bind (·.dst) = some dj) (hn : Nat.blt dj n = true) (hb : lk F dj = some (.bool b)) : yielded ops a.tmps j = some b := by
  have h1 := hF.get dj _ hb
  have hlt : dj < a.tmps.size := by rw [hF.size]; exact Nat.blt_eq.mp hn
  unfold yielded
  rw [hj]
  simp [Array.getD_eq_getD_getElem?, hlt] at h1
  simp [hlt, h1]
/-- A guarded operation whose guard says yes. -/
theorem stY {j dj d : Nat} {b : Bool} {op : Op} {t : TypeId} {pos : String} {af : Array Edge} {v : Value} (hF : Fr n a F) (hj : (ops[j]?).bind (·.dst) = some dj) (hjn : Nat.blt dj n = true) (hb : lk F dj = some (.bool b)) (hd : Gives P ⟨some d, op, t, pos, af, some (j, b)⟩ a w v) (hn : Nat.blt d n = true)
    (h : ∀ a', Fr n a' ((d, v) :: F) → wpList P ops Q rest a' w) : wpList P ops Q (⟨some d, op, t, pos, af, some (j, b)⟩ :: rest) a w :=
  wpList_step fun K hK => by
    rw [if_pos (by simp [Region.wanted, yielded_of hF hj hjn hb])]
    exact hd.run K Q fun u w' ⟨h1, h2⟩ => by subst h1; subst h2; exact hK _ _ (h _ (hF.put d _ hn))
theorem stYR {j dj d : Nat} {b : Bool} {op : Op} {t : TypeId} {pos : String} {af : Array Edge} {R : Value → World → Prop} (hF : Fr n a F) (hj : (ops[j]?).bind (·.dst) = some dj) (hjn : Nat.blt dj n = true) (hb : lk F dj = some (.bool b)) (hd : Does P ⟨some d, op, t, pos, af, some (j, b)⟩ a w R) (hn : Nat.blt d n = true)
    (h : ∀ v w' a', R v w' → Fr n a' ((d, v) :: F) → wpList P ops Q rest a' w') : wpList P ops Q (⟨some d, op, t, pos, af, some (j, b)⟩ :: rest) a w :=
  wpList_step fun K hK => by
    rw [if_pos (by simp [Region.wanted, yielded_of hF hj hjn hb])]
    exact hd.run K Q fun u w' hr => hK _ _ (h u w' _ hr (hF.put d _ hn))
/-- A guarded operation whose guard says no. -/
theorem stS {j dj d : Nat} {b c : Bool} {op : Op} {t : TypeId} {pos : String} {af : Array Edge} (hF : Fr n a F) (hj : (ops[j]?).bind (·.dst) = some dj) (hjn : Nat.blt dj n = true) (hb : lk F dj = some (.bool b)) (hbc : (b == c) = false) (hn : Nat.blt d n = true)
    (h : ∀ a', Fr n a' ((d, undef) :: F) → wpList P ops Q rest a' w) : wpList P ops Q (⟨some d, op, t, pos, af, some (j, c)⟩ :: rest) a w :=
  wpList_step fun K hK => by
    rw [if_neg (by simp [Region.wanted, yielded_of hF hj hjn hb]; intro e; subst e; simp at hbc)]
    exact hK _ _ (h _ (hF.put d _ hn))

/-- A guarded operation whose guard was passed over itself. -/
theorem stU {j dj d : Nat} {c : Bool} {op : Op} {t : TypeId} {pos : String} {af : Array Edge} (hF : Fr n a F) (hj : (ops[j]?).bind (·.dst) = some dj) (hjn : Nat.blt dj n = true) (hb : lk F dj = some undef) (hn : Nat.blt d n = true)
    (h : ∀ a', Fr n a' ((d, undef) :: F) → wpList P ops Q rest a' w) : wpList P ops Q (⟨some d, op, t, pos, af, some (j, c)⟩ :: rest) a w :=
  wpList_step fun K hK => by
    have h1 := hF.get dj _ hb
    have hlt : dj < a.tmps.size := by rw [hF.size]; exact Nat.blt_eq.mp hjn
    have hy : yielded ops a.tmps j = none := by
      unfold yielded
      rw [hj]
      simp [Array.getD_eq_getD_getElem?, hlt] at h1
      simp [hlt, h1, undef]
    rw [if_neg (by simp [Region.wanted, hy])]
    exact hK _ _ (h _ (hF.put d _ hn))

/-! ### Plain values -/
variable {d : Option Tmp} {t : TypeId} {pos : String} {af : Array Edge} {gd : Option (Nat × Bool)}
theorem g_move {x : Operand} {v : Value} (hF : Fr n a F) (hx : look F x = some v) : Gives P ⟨d, .move x, t, pos, af, gd⟩ a w v :=
  gives_of_run (by simp [execOp, hF.eval hx])
theorem g_assign {x : Operand} {v : Value} (hF : Fr n a F) (hx : look F x = some v) : Gives P ⟨d, .assign x, t, pos, af, gd⟩ a w v :=
  gives_of_run (by simp [execOp, hF.eval hx])
theorem g_extract {x : Operand} {i : Nat} {vs : Array Value} {v : Value} (hF : Fr n a F) (hx : look F x = some (.tuple vs)) (hv : vs[i]? = some v) : Gives P ⟨d, .extract x i, t, pos, af, gd⟩ a w v :=
  gives_of_run (by simp [execOp, Instr.extract, hF.eval hx, hv])
theorem g_pick {c x y : Operand} {b : Bool} {u v : Value} (hF : Fr n a F) (hc : look F c = some (.bool b)) (hx : look F x = some u) (hy : look F y = some v) : Gives P ⟨d, .pick c x y, t, pos, af, gd⟩ a w (if b then u else v) :=
  gives_of_run (by cases b <;> simp [execOp, hF.eval hc, hF.eval hx, hF.eval hy, asBool])

theorem eqGuard_int (op : BinOp) (T : TypeId) (x y : Operand) (k k' : IntKind) (A B : Int) (w : World) : (eqGuard op T x y (.int k A) (.int k' B)).run P w = .ok () w := by
  unfold eqGuard
  cases op <;> simp
section ints
variable {x y : Operand} {T T' : TypeId} {k : IntKind} {A B C : Int}
theorem g_add (hF : Fr n a F) (hx : look F x = some (.int k A)) (hy : look F y = some (.int k B)) (hC : k.wrap (A + B) = C) : Gives P ⟨d, .binOp .add T x y T', t, pos, af, gd⟩ a w (.int k C) :=
  gives_of_run (by simp [execOp, eqGuard_int, binOp, Op.intArith, hF.eval hx, hF.eval hy, hC])
theorem g_sub (hF : Fr n a F) (hx : look F x = some (.int k A)) (hy : look F y = some (.int k B)) (hC : k.wrap (A - B) = C) : Gives P ⟨d, .binOp .sub T x y T', t, pos, af, gd⟩ a w (.int k C) :=
  gives_of_run (by simp [execOp, eqGuard_int, binOp, Op.intArith, hF.eval hx, hF.eval hy, hC])
theorem g_mul (hF : Fr n a F) (hx : look F x = some (.int k A)) (hy : look F y = some (.int k B)) (hC : k.wrap (A * B) = C) : Gives P ⟨d, .binOp .mul T x y T', t, pos, af, gd⟩ a w (.int k C) :=
  gives_of_run (by simp [execOp, eqGuard_int, binOp, Op.intArith, hF.eval hx, hF.eval hy, hC])
theorem g_rem (hF : Fr n a F) (hx : look F x = some (.int k A)) (hy : look F y = some (.int k B)) (hB : B ≠ 0) (hC : A.tmod B = C) : Gives P ⟨d, .binOp .rem T x y T', t, pos, af, gd⟩ a w (.int k C) :=
  gives_of_run (by simp [execOp, eqGuard_int, binOp, Op.intDiv, hF.eval hx, hF.eval hy, hB, hC])
theorem g_quo (hF : Fr n a F) (hx : look F x = some (.int k A)) (hy : look F y = some (.int k B)) (hB : B ≠ 0) (hC : k.wrap (A.tdiv B) = C) : Gives P ⟨d, .binOp .quo T x y T', t, pos, af, gd⟩ a w (.int k C) :=
  gives_of_run (by simp [execOp, eqGuard_int, binOp, Op.intDiv, hF.eval hx, hF.eval hy, hB, hC])
theorem g_lss (hF : Fr n a F) (hx : look F x = some (.int k A)) (hy : look F y = some (.int k B)) : Gives P ⟨d, .binOp .lss T x y T', t, pos, af, gd⟩ a w (.bool (decide (A < B))) :=
  gives_of_run (by simp [execOp, eqGuard_int, binOp, Op.intCmp, hF.eval hx, hF.eval hy])
theorem g_leq (hF : Fr n a F) (hx : look F x = some (.int k A)) (hy : look F y = some (.int k B)) : Gives P ⟨d, .binOp .leq T x y T', t, pos, af, gd⟩ a w (.bool (decide (A ≤ B))) :=
  gives_of_run (by simp [execOp, eqGuard_int, binOp, Op.intCmp, hF.eval hx, hF.eval hy])
theorem g_gtr (hF : Fr n a F) (hx : look F x = some (.int k A)) (hy : look F y = some (.int k B)) : Gives P ⟨d, .binOp .gtr T x y T', t, pos, af, gd⟩ a w (.bool (decide (B < A))) :=
  gives_of_run (by simp [execOp, eqGuard_int, binOp, Op.intCmp, hF.eval hx, hF.eval hy])
theorem g_geq (hF : Fr n a F) (hx : look F x = some (.int k A)) (hy : look F y = some (.int k B)) : Gives P ⟨d, .binOp .geq T x y T', t, pos, af, gd⟩ a w (.bool (decide (B ≤ A))) :=
  gives_of_run (by simp [execOp, eqGuard_int, binOp, Op.intCmp, hF.eval hx, hF.eval hy])
theorem eqI (A B : Int) : (A == B) = decide (A = B) := by
  by_cases h : A = B <;> simp [h]
theorem g_eql (hF : Fr n a F) (hx : look F x = some (.int k A)) (hy : look F y = some (.int k B)) : Gives P ⟨d, .binOp .eql T x y T', t, pos, af, gd⟩ a w (.bool (decide (A = B))) :=
  gives_of_run (by simp [execOp, eqGuard_int, binOp, Op.intCmp, hF.eval hx, hF.eval hy, eqI])
theorem g_neq (hF : Fr n a F) (hx : look F x = some (.int k A)) (hy : look F y = some (.int k B)) : Gives P ⟨d, .binOp .neq T x y T', t, pos, af, gd⟩ a w (.bool (decide (A ≠ B))) :=
  gives_of_run (by simp [execOp, eqGuard_int, binOp, Op.intCmp, hF.eval hx, hF.eval hy, bne, eqI])
theorem g_pickT {c x y : Operand} {u : Value} (hF : Fr n a F) (hc : look F c = some (.bool true)) (hx : look F x = some u) : Gives P ⟨d, .pick c x y, t, pos, af, gd⟩ a w u :=
  gives_of_run (by simp [execOp, hF.eval hc, hF.eval hx, asBool])
theorem g_pickF {c x y : Operand} {v : Value} (hF : Fr n a F) (hc : look F c = some (.bool false)) (hy : look F y = some v) : Gives P ⟨d, .pick c x y, t, pos, af, gd⟩ a w v :=
  gives_of_run (by simp [execOp, hF.eval hc, hF.eval hy, asBool])
theorem g_notP {p : Prop} [Decidable p] (hF : Fr n a F) (hx : look F x = some (.bool (decide p))) : Gives P ⟨d, .unOp .not T x, t, pos, af, gd⟩ a w (.bool (decide (¬ p))) :=
  gives_of_run (by simp [execOp, Op.unary, hF.eval hx])
theorem g_not {b : Bool} (hF : Fr n a F) (hx : look F x = some (.bool b)) : Gives P ⟨d, .unOp .not T x, t, pos, af, gd⟩ a w (.bool (!b)) :=
  gives_of_run (by simp [execOp, Op.unary, hF.eval hx])
theorem g_conv {k' : IntKind} (hT : P.underlying T' = some (.int k')) {dd : TypeDesc} (hT0 : P.underlying T = some dd) (hF : Fr n a F) (hx : look F x = some (.int k A)) (hC : k'.wrap A = C) : Gives P ⟨d, .convert T T' x, t, pos, af, gd⟩ a w (.int k' C) :=
  gives_of_run (by simp [execOp, convert, run_underlying hT, run_underlying hT0, hF.eval hx, Conv.intToInt, hC])
end ints

theorem wrap_i64 {x : Int} (h1 : -9223372036854775808 ≤ x) (h2 : x < 9223372036854775808) : IntKind.i64.wrap x = x := by
  unfold IntKind.wrap IntKind.bits IntKind.signed
  simp
  omega
theorem wrap_u8 {x : Int} (h1 : 0 ≤ x) (h2 : x < 256) : IntKind.u8.wrap x = x := by
  unfold IntKind.wrap IntKind.bits IntKind.signed
  simp
  omega
end
end Go.Sw
