/- Plain lemmas of a small calculus for walks over frames and own memory; no statement of the seat is proved here. -/
import Derived.Test.YtockjnhdllcfpaaSw53
import Derived.Test.YtockjnhdllcfpaaSw6
import Derived.Test.YtockjnhdllcfpaaSw86
import Derived.Test.YtockjnhdllcfpaaEch
import Derived.Laws.StructEq
import Derived.Test.YtockjnhdllcfpaaSw29
import Derived.Test.YtockjnhdllcfpaaSw74
import Derived.Test.YtockjnhdllcfpaaSw77
import Derived.JoinedOf
import Derived.KernelRfl
set_option linter.unusedVariables false
set_option linter.unusedSimpArgs false
/-! Two package variables that a row lists. -/
namespace Go.Sw
open Go Go.RowKit Go.ChangeShapes Go.WideShapes Go.ChangeAt
section
variable {H : Type} {enc : TypeId × Value → H} {P : Program} {w w' : World}
end
end Go.Sw

/-! The length of a list that may be nil. -/
namespace Go.Sw
open Go Go.RowKit
section
variable {P : Program} {n : Nat} {F : List (Nat × Value)} {a : Act} {w : World} {d : Option Tmp} {t : TypeId} {pos : String} {af : Array Edge} {gd : Option (Nat × Bool)} {x : Operand}
end
section
variable {P : Program} {n : Nat} {F : List (Nat × Value)} {a : Act} {w : World} {d : Option Tmp} {t T : TypeId} {pos : String} {af : Array Edge} {gd : Option (Nat × Bool)} {x y z : Operand}
end
end Go.Sw

namespace Go.Sw
open Go Go.RowKit
variable {P : Program}
/-! ### Pairs of whole numbers as structs, and lists of them. -/
def monC (a b : Int) : Array Value := #[.int .i64 a, .int .i64 b]
theorem monC_size {a b : Int} : (monC a b).size = 2 := rfl
theorem monC_one {a b : Int} : ∀ u ∈ (monC a b).toList, u.oneCell' = true := by
  intro u hu
  simp [monC] at hu
  rcases hu with rfl | rfl <;> rfl
theorem monC_whole {a b : Int} {n : Nat} (h : n = 2) : (monC a b).extract 0 (0 + n) = monC a b := by subst h; rfl
def fs2Ok (fs : List Field) (t : TypeId) : Bool := match fs with
  | [f, g] => f.name != "_" && g.name != "_" && Nat.beq f.type t && Nat.beq g.type t && Nat.beq f.offset 0 && Nat.beq g.offset 1
  | _ => false
theorem eqAt_mon {d : Nat} {T t : TypeId} {a b c e : Int} (hu : P.underlying T = some (.struct (P.fieldsOf T))) (hp : P.stoodInHeld T = false) (hf : fs2Ok (P.fieldsOf T).toList t = true) (hi : intP P t = true) (ho : oneP P t = true) :
    EqAt P (d + 2) T (.agg (monC a b)) (.agg (monC c e)) (a = c ∧ b = e) := by
  intro w;rw [run_equalIn_agg w (d + 1) T _ _ hu hp]
  generalize (P.fieldsOf T).toList = fs at hf
  match fs, hf with
  | [f, g], hf =>
    simp only [fs2Ok, Bool.and_eq_true, bne_iff_ne, ne_eq, Nat.beq_eq_true_eq] at hf;obtain ⟨⟨⟨⟨⟨h1, h2⟩, h3⟩, h4⟩, h5⟩, h6⟩ := hf;have h3 := Nat.eq_of_beq_eq_true h3;have h4 := Nat.eq_of_beq_eq_true h4;have h5 := Nat.eq_of_beq_eq_true h5;have h6 := Nat.eq_of_beq_eq_true h6;have hq := (run_isAgg_one ho w);have e1 : (part f.type (monC a b) f.offset).run P w = .ok (.int .i64 a) w := by rw [h3, h5]; simp [part, hq.1, monC]
    have e2 : (part f.type (monC c e) f.offset).run P w = .ok (.int .i64 c) w := by rw [h3, h5]; simp [part, hq.1, monC]
    have e3 : (part g.type (monC a b) g.offset).run P w = .ok (.int .i64 b) w := by rw [h4, h6]; simp [part, hq.1, monC]
    have e4 : (part g.type (monC c e) g.offset).run P w = .ok (.int .i64 e) w := by rw [h4, h6]; simp [part, hq.1, monC]
    have k1 := eqAt_int (P := P) (d := d) (T := t) (k := .i64) (A := a) (B := c) hi w;have k2 := eqAt_int (P := P) (d := d) (T := t) (k := .i64) (A := b) (B := e) hi w;rw [← h3] at k1;rw [← h4] at k2;simp only [Op.eqFields, h1, h2, ne_eq, not_false_eq_true, if_true, Sem.run_bind, e1, e2, Result.andThen_ok, k1]
    by_cases ha : a = c
    · subst ha
      simp only [decide_true, Bool.not_true, Bool.false_eq_true, if_false, Sem.run_bind, e3, e4, Result.andThen_ok, k2]
      by_cases hb : b = e
      · subst hb; simp [Op.eqFields]
      · simp [hb]
    · simp [ha]
theorem mon_row {u : Value} {e : Option (Nat × Array Value)} {N b cap : Nat} {cs : Array Value} {X Y : Nat → Nat} (h : SlAt 2 u e N b cap cs (fun c => if c % 2 = 0 then .int .i64 (X (c / 2) : Int) else .int .i64 (Y (c / 2) : Int))) (i : Nat) (hi : i < N) : cs.extract (0 + i * 2) (0 + i * 2 + 2) = monC (X i : Int) (Y i : Int) := by
  have hs := h.sz;have hl := h.le;have h0 := h.get (i * 2) (by omega);have h1 := h.get (i * 2 + 1) (by omega);simp only [show (i * 2) % 2 = 0 by omega, show (i * 2) / 2 = i by omega, if_true] at h0;simp only [show (i * 2 + 1) % 2 = 1 by omega, show (i * 2 + 1) / 2 = i by omega] at h1;rw [Nat.zero_add]
  apply Array.ext_getElem?
  intro q;rw [Array.getElem?_extract]
  by_cases hq : q < 2
  · rw [if_pos (by omega)]
    obtain rfl | rfl : q = 0 ∨ q = 1 := by omega
    · exact h0
    · exact h1
  · rw [if_neg (by omega)]
    exact (Array.getElem?_eq_none (by rw [monC_size]; omega)).symm
theorem SlAt.room2 {u : Value} {e : Option (Nat × Array Value)} {N b cap : Nat} {cs : Array Value} {f : Nat → Value} (h : SlAt 2 u e N b cap cs f) (i : Nat) (hi : i < N) : 0 + i * 2 + 2 ≤ cs.size := by
  have := h.sz; have := h.le; omega
theorem Sl.snoc2 {u : Value} {e : Option (Nat × Array Value)} {N : Nat} {F G : Nat → Value} (h : Sl 2 u e (N + 1) (fun i => if i < N * 2 then F i else G (i - N * 2))) (hG : ∀ q, q < 2 → G q = F (N * 2 + q)) : Sl 2 u e (N + 1) F :=
  h.congr fun i hi => by
    by_cases e : i < N * 2
    · rw [if_pos e]
    · rw [if_neg e, hG _ (by omega), show N * 2 + (i - N * 2) = i by omega]
theorem q_un {n : Nat} {ops : List Oper} {G : Type} {S : G → World → Prop} {φ : Facts G} {o : Oper} {a : Act} {w : World} {i j dj : Nat} {c : Bool} {g : G} {F' : List (Nat × Value)} (hg : o.guard = some (j, c)) (hF : Fr n a F') (hj : (ops.toArray[j]?).bind (·.dst) = some dj) (hjn : Nat.blt dj n = true) (hb : lk F' dj = some undef) (h : After S φ i g w undef w) : if Region.wanted o (yielded ops.toArray a.tmps) = true then Does P o a w (After S φ i g w) else After S φ i g w undef w := by
  have h1 := hF.get dj _ hb;have hlt : dj < a.tmps.size := by rw [hF.size]; exact Nat.blt_eq.mp hjn
  have hy : yielded ops.toArray a.tmps j = none := by
    unfold yielded
    rw [hj]
    simp [Array.getD_eq_getD_getElem?, hlt] at h1
    simp [hlt, h1, undef]
  rw [if_neg (by simp [Region.wanted, hg, hy])]; exact h
end Go.Sw

namespace Go.Sw
open Go Go.RowKit
variable {P : Program}
/-! Values of interfaces: how one is made, and a call by a method's name. -/
section
variable {ops : Array Oper} {Q : Exit → Act → World → Prop} {rest : List Oper} {n : Nat} {F : List (Nat × Value)} {a : Act} {w : World} {d : Option Tmp} {t : TypeId} {pos : String} {af : Array Edge} {gd : Option (Nat × Bool)}
theorem g_iface {T : TypeId} {x : Operand} {v : Value} (hk : ∀ w, (Instr.makeInterface T v).run P w = .ok (.iface T v) w) (hF : Fr n a F) (hx : look F x = some v) : Gives P ⟨d, .makeInterface T x, t, pos, af, gd⟩ a w (.iface T v) :=
  gives_of_run (by simp [execOp, hF.eval hx, hk])
theorem d_callI {f : FuncId} {nm : String} {T : TypeId} {x : Operand} {v : Value} {R : Value → World → Prop} (hf : ∀ w, (invoke (.fn (.method nm) #[]) #[.iface T v]).run P w = .ok (.enter f #[v]) w) (hF : Fr n a F) (hx : look F x = some (.iface T v)) (hc : CallsR P f #[v] w R) :
    Does P ⟨d, .call { callee := .invoke x nm, args := #[], argTypes := #[] }, t, pos, af, gd⟩ a w (fun u w' => Ext w w' ∧ R u w') :=
  ⟨fun K Q hk => by
    have hrun : (execOp a.eval ⟨d, .call { callee := .invoke x nm, args := #[], argTypes := #[] }, t, pos, af, gd⟩).run P w = .ok (.enter f #[v]) w := by
      simp [execOp, resolve, hF.eval hx, hf]
    unfold Oper.wp
    rw [hrun]
    show Calls P f #[v] w _
    exact Calls.mono (show Calls P f #[v] w _ from hc) fun e w' ⟨v, he, h1, h2⟩ => by subst he; exact hk v w' ⟨h1, h2⟩⟩
end
end Go.Sw

namespace Go.Sw
open Go Go.RowKit
variable {P : Program} {n : Nat} {F : List (Nat × Value)} {a : Act} {w : World} {d : Option Tmp} {t : TypeId} {pos : String} {af : Array Edge} {gd : Option (Nat × Bool)} {x y : Operand}
/-! ### The smaller one of two numbers -/
theorem g_min {T1 T2 : TypeId} {k : IntKind} {A B C : Int} (hF : Fr n a F) (hx : look F x = some (.int k A)) (hy : look F y = some (.int k B)) (hC : (if B < A then B else A) = C) : Gives P ⟨d, .call { callee := .builtin .min, args := #[x, y], argTypes := #[T1, T2] }, t, pos, af, gd⟩ a w (.int k C) :=
  gives_of_run (by simp [execOp, resolve, invoke, hF.eval hx, hF.eval hy, builtin, Builtin.min_, Builtin.min2, hC])
theorem min_if (A B : Int) : (if B < A then B else A) = min A B := by omega
end Go.Sw

/-! Stairs: sums, columns, corners. -/
namespace Go.Ech
open Go Go.Sw
def sumF (F : Nat → Int) : Nat → Int
  | 0 => 0
  | a + 1 => sumF F a + F a
def StP (m : Nat) (F : Nat → Int) : Prop := 0 < m ∧ (∀ i, i < m → 1 ≤ F i) ∧ (∀ i, i + 1 < m → F (i + 1) ≤ F i) ∧ sumF F m ≤ 6
theorem sumF_step {F : Nat → Int} {m : Nat} (h : ∀ i, i < m → 1 ≤ F i) : ∀ k, k ≤ m → (k : Int) ≤ sumF F k
  | 0, _ => by simp [sumF]
  | k + 1, hk => by
    have h1 := sumF_step h k (by omega)
    have h2 := h k (by omega)
    simp only [sumF]; omega
theorem sumF_mono {F : Nat → Int} {m : Nat} (h : ∀ i, i < m → 1 ≤ F i) {k : Nat} : ∀ {j : Nat}, k ≤ j → j ≤ m → sumF F k ≤ sumF F j
  | 0, h1, h2 => by rw [show k = 0 by omega]; exact Int.le_refl _
  | j + 1, h1, h2 => by
    by_cases e : k = j + 1
    · rw [e]; exact Int.le_refl _
    · have h3 := sumF_mono h (k := k) (j := j) (by omega) (by omega)
      have h4 := h j (by omega)
      simp only [sumF]; omega
theorem sumF_le {F : Nat → Int} {m : Nat} (h : ∀ i, i < m → F i ≤ 6) : ∀ k, k ≤ m → sumF F k ≤ 6 * (k : Int)
  | 0, _ => by simp [sumF]
  | k + 1, hk => by
    have h1 := sumF_le h k (by omega)
    have h2 := h k (by omega)
    simp only [sumF]; omega
theorem StP.at {m : Nat} {F : Nat → Int} (h : StP m F) {i : Nat} (hi : i < m) : 1 ≤ F i ∧ F i ≤ 6 - sumF F i ∧ F i ≤ 6 ∧ 0 ≤ sumF F i ∧ (0 < i → F i ≤ F (i - 1)) := by
  have h1 := h.2.1 i hi;have h2 := sumF_mono h.2.1 (k := i + 1) (j := m) (by omega) (Nat.le_refl _);have h3 := sumF_step h.2.1 i (by omega);have h4 := h.2.2.2;simp only [sumF] at h2;refine ⟨h1, by omega, by omega, by omega, fun h0 => ?_⟩;have h5 := h.2.2.1 (i - 1) (by omega)
  rwa [show i - 1 + 1 = i by omega] at h5
def totH (h : Nat → Nat) : Nat → Nat
  | 0 => 0
  | a + 1 => totH h a + h a
def StN (m : Nat) (h : Nat → Nat) : Prop := 0 < m ∧ (∀ i, i < m → 1 ≤ h i) ∧ (∀ i, i + 1 < m → h (i + 1) ≤ h i) ∧ totH h m ≤ 6
theorem sum_tot {F : Nat → Int} {h : Nat → Nat} {m : Nat} (e : ∀ i, i < m → F i = (h i : Int)) : ∀ k, k ≤ m → sumF F k = (totH h k : Int)
  | 0, _ => rfl
  | k + 1, hk => by simp only [sumF, totH]; rw [sum_tot e k (by omega), e k (by omega)]; omega
theorem StP.nat {m : Nat} {F : Nat → Int} {h : Nat → Nat} (hs : StP m F) (e : ∀ i, i < m → F i = (h i : Int)) : StN m h := by
  refine ⟨hs.1, fun i hi => ?_, fun i hi => ?_, ?_⟩
  · have := hs.2.1 i hi; rw [e i hi] at this; omega
  · have := hs.2.2.1 i hi; rw [e i (by omega), e (i + 1) hi] at this; omega
  · have := hs.2.2.2; rw [sum_tot e m (Nat.le_refl _)] at this; omega
section
variable {m : Nat} {h : Nat → Nat}
theorem tot_mono {k : Nat} : ∀ {j : Nat}, k ≤ j → totH h k ≤ totH h j
  | 0, h1 => by rw [show k = 0 by omega]; exact Nat.le_refl _
  | j + 1, h1 => by
    by_cases e : k = j + 1
    · rw [e]; exact Nat.le_refl _
    · have h3 := tot_mono (k := k) (j := j) (by omega)
      simp only [totH]; omega
theorem StN.len (hs : StN m h) : m ≤ 6 := by
  have key : ∀ k, k ≤ m → k ≤ totH h k := fun k => by
    induction k with
    | zero => intro _; omega
    | succ k ih => intro hk; have := ih (by omega); have := hs.2.1 k (by omega); simp only [totH]; omega
  have := key m (Nat.le_refl _);have := hs.2.2.2
  omega
theorem tot_lt {a b : Nat} (ha : a < m) (hb : b < h a) : totH h a + b < totH h m := by
  have := tot_mono (h := h) (k := a + 1) (j := m) (by omega);simp only [totH] at this
  omega
def mX (h : Nat → Nat) (m q : Nat) : Nat := cnt (fun a => decide (totH h (a + 1) ≤ q)) m
def mY (h : Nat → Nat) (m q : Nat) : Nat := q - totH h (mX h m q)
theorem cnt_seg {S : Nat → Bool} {a : Nat} : ∀ {m : Nat}, a ≤ m → (∀ x, x < a → S x = true) → (∀ x, a ≤ x → x < m → ¬ S x = true) → cnt S m = a
  | 0, h1, _, _ => by rw [show a = 0 by omega]; rfl
  | m + 1, h1, h2, h3 => by
    by_cases e : a = m + 1
    · subst e
      rw [cnt_yes (h2 m (by omega)), cnt_seg (a := m) (Nat.le_refl _) (fun x hx => h2 x (by omega)) (fun x h4 h5 => absurd h5 (by omega))]
    · rw [cnt_no (h3 m (by omega) (by omega)), cnt_seg (a := a) (by omega) h2 (fun x h4 h5 => h3 x h4 (by omega))]
theorem mX_at {a b : Nat} (ha : a < m) (hb : b < h a) : mX h m (totH h a + b) = a := by
  refine cnt_seg (by omega) (fun x hx => decide_eq_true ?_) (fun x h1 h2 hq => ?_)
  · have := tot_mono (h := h) (k := x + 1) (j := a) (by omega); omega
  · have h3 := of_decide_eq_true hq
    have h4 := tot_mono (h := h) (k := a + 1) (j := x + 1) (by omega);simp only [totH] at h3 h4; omega
theorem mY_at {a b : Nat} (ha : a < m) (hb : b < h a) : mY h m (totH h a + b) = b := by
  unfold mY; rw [mX_at ha hb]; omega
theorem mon_ex : ∀ {m q : Nat}, q < totH h m → ∃ a b, a < m ∧ b < h a ∧ q = totH h a + b
  | 0, q, hq => by simp [totH] at hq
  | m + 1, q, hq => by
    by_cases e : q < totH h m
    · obtain ⟨a, b, h1, h2, h3⟩ := mon_ex e
      exact ⟨a, b, by omega, h2, h3⟩
    · refine ⟨m, q - totH h m, by omega, ?_, by omega⟩
      simp only [totH] at hq; omega
theorem mon_in {q : Nat} (hq : q < totH h m) : mX h m q < m ∧ mY h m q < h (mX h m q) ∧ q = totH h (mX h m q) + mY h m q := by
  obtain ⟨a, b, h1, h2, rfl⟩ := mon_ex hq;rw [mX_at h1 h2, mY_at h1 h2];exact ⟨h1, h2, rfl⟩
def hasP (h : Nat → Nat) (m a b : Nat) : Prop := a < m ∧ b < h a
instance (a b : Nat) : Decidable (hasP h m a b) := by unfold hasP; infer_instance
def plI (h : Nat → Nat) (m a b : Nat) : Int := if hasP h m a b then ((totH h a + b : Nat) : Int) else -1
theorem plI_out {a b : Nat} (q : ¬ (a < m ∧ b < h a)) : plI h m a b = -1 := if_neg q
theorem plI_in {a b : Nat} (h1 : a < m) (h2 : b < h a) : plI h m a b = ((totH h a + b : Nat) : Int) := if_pos ⟨h1, h2⟩
theorem plI_has {a b : Nat} : 0 ≤ plI h m a b ↔ hasP h m a b := by
  unfold plI
  split <;> rename_i q
  · exact ⟨fun _ => q, fun _ => by omega⟩
  · exact ⟨fun z => absurd z (by omega), fun z => absurd z q⟩
theorem plI_yes {a b q : Nat} (hq : q < totH h m) (h1 : a = mX h m q) (h2 : b = mY h m q) : plI h m a b = (q : Int) := by
  have h3 := mon_in hq
  unfold plI
  rw [if_pos (by rw [h1, h2]; exact ⟨h3.1, h3.2.1⟩), h1, h2];exact congrArg Nat.cast h3.2.2.symm
theorem plI_no {a b : Nat} (hn : ∀ q, q < totH h m → ¬ (a = mX h m q ∧ b = mY h m q)) : plI h m a b = -1 := by
  unfold plI
  rw [if_neg];rintro ⟨h1, h2⟩;exact hn _ (tot_lt h1 h2) ⟨(mX_at h1 h2).symm, (mY_at h1 h2).symm⟩
def crB (h : Nat → Nat) (m a : Nat) : Bool := decide (¬ (a + 1 < m ∧ h a ≤ h (a + 1)))
end
end Go.Ech

namespace Go.Sw
theorem wordsSigns_nb : ∀ (c : Char) (r : List Char), c ≠ ' ' → wordsSigns (c :: r) = match wordsSigns r with
    | w :: ws => (c :: w) :: ws
    | [] => [[c]] := by
  intro c r h;rw [wordsSigns.eq_def]
  split
  · simp_all
  · rename_i heq; simp at heq; exact absurd heq.1 h
  · rename_i heq; simp only [List.cons.injEq] at heq; obtain ⟨rfl, rfl⟩ := heq; rfl
theorem wordsSigns_word : ∀ (w r : List Char), (∀ c ∈ w, c ≠ ' ') → wordsSigns (w ++ ' ' :: r) = w :: wordsSigns r
  | [], r, _ => by simp [wordsSigns]
  | c :: w, r, h => by
    rw [List.cons_append, wordsSigns_nb c _ (h c (by simp)), wordsSigns_word w r (fun d hd => h d (by simp [hd]))]
theorem sum_nb (s : List Char) (h : isSumSigns s = true) : ∀ c ∈ s, c ≠ ' ' := by
  intro c hc he
  unfold isSumSigns at h
  simp only [Bool.and_eq_true, List.all_eq_true] at h;have := h.2 c hc;subst he
  revert this; decide
theorem cutHead (L s r : List Char) (h : L = "harness".toList ++ ' ' :: (s ++ ' ' :: ("cut".toList ++ ' ' :: r))) (hs : isSumSigns s = true) :
    behindMainWord (wordsSigns L) = "cut".toList :: wordsSigns r := by
  rw [h, wordsSigns_word _ _ (by decide), wordsSigns_word _ _ (sum_nb s hs), wordsSigns_word _ _ (by decide)];have : ("harness".toList == "harness".toList || "harness".toList == "ownmain".toList) = true := by decide
  unfold behindMainWord
  show (if (("harness".toList == "harness".toList || "harness".toList == "ownmain".toList) && isSumSigns s) = true then _ else _) = _
  rw [if_pos (by rw [this, hs]; rfl)]
theorem strip_cut (R : List (List Char)) : stripLifts liftWords ("cut".toList :: R) = ([], "cut".toList :: R) := by
  kernel_rfl
theorem lifts_cut (P : Program) (R : List (List Char)) (h : behindMainWord (wordsSigns P.initOrder.toList) = "cut".toList :: R) : P.headLifts = [] := by
  unfold Program.headLifts; rw [h, strip_cut]; rfl
theorem make_cut (P : Program) (R : List (List Char)) (h : behindMainWord (wordsSigns P.initOrder.toList) = "cut".toList :: R) : P.make = some .cut := by
  unfold Program.make; rw [h]
  have h1 : ("cut".toList == "gc".toList || "cut".toList == "spec".toList) = false := by decide
  have h2 : ("cut".toList == "cut".toList) = true := by decide
  simp only [h1, h2]; rfl
theorem final_cut (P : Program) (R : List (List Char)) (h : behindMainWord (wordsSigns P.initOrder.toList) = "cut".toList :: R) : P.liftsFinal = false := by
  unfold Program.liftsFinal; rw [lifts_cut P R h, h]; kernel_rfl
theorem enter_cut (P : Program) (R : List (List Char)) (h : behindMainWord (wordsSigns P.initOrder.toList) = "cut".toList :: R)
    (hl : P.laysLater = false) (hb : P.bearsReflect = false) (hd : P.doorFits [] = true) : P.mayEnter = true := by
  unfold Program.mayEnter; rw [h]
  simp only [strip_cut, hl, hb, hd]
  kernel_rfl
end Go.Sw
