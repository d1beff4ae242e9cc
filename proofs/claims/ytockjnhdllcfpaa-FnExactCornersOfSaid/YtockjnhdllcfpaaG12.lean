/- What functions of the program return, as walks over their operations; no statement of the seat is proved here. -/
import Derived.Test.YtockjnhdllcfpaaSw21
import Derived.Test.YtockjnhdllcfpaaChecked
set_option linter.unusedVariables false
set_option linter.unusedSimpArgs false
namespace Go.Proofs.Ytockjnhdllcfpaa
open Go Go.RowKit Go.Sw
theorem hmix : Try.prog.follows .mixedOrders = true := by kernel_rfl
def sumTo (f : Nat → Nat) : Nat → Nat
  | 0 => 0
  | m + 1 => sumTo f m + f m
def prodI (T : Nat → Nat → Nat → Nat) (v u : Nat → Nat) (n i c : Nat) : Nat := sumTo (fun i => sumTo (fun j => v i * u j * T i j c) n) i
def timesV (p n : Nat) (T : Nat → Nat → Nat → Nat) (v u : Nat → Nat) (c : Nat) : Nat := prodI T v u n n c % p
theorem sumTo_le {f : Nat → Nat} {c m : Nat} (h : ∀ i, i < m → f i ≤ c) : sumTo f m ≤ m * c := by
  induction m with
  | zero => simp [sumTo]
  | succ m ih => have h1 := ih (fun i hi => h i (by omega)); have h2 := h m (by omega); simp only [sumTo, Nat.succ_mul]; omega
theorem whole {c : Array Value} {n : Nat} (h : c.size = n) : c.extract 0 (0 + n) = c := by subst h; simp
def mtx (k : Nat) : ByteArray := ⟨#[109, UInt8.ofNat (48 + k)]⟩
def nmS (i : Nat) : ByteArray := match i with
  | 0 => ⟨#[102, 105, 101, 108, 100]⟩
  | 1 => ⟨#[100, 117, 97, 108]⟩
  | 2 => ⟨#[112, 97, 105, 114]⟩
  | 3 => ⟨#[99, 121, 99, 108, 105, 99, 51]⟩
  | 4 => ⟨#[115, 121, 109, 109, 101, 116, 114, 105, 99]⟩
  | _ => ⟨#[109, 97, 116, 114, 105, 120]⟩
theorem ty_si_22 : slI Try.prog 22 = some (2, some (.int .i64 (0)), 1, 8) := by kernel_rfl
theorem ty_on_2 : oneP Try.prog 2 = true := by kernel_rfl
def primeP (x : Int) : Prop := x = 2 ∨ x = 3 ∨ x = 5 ∨ x = 7 ∨ x = 11 ∨ x = 13
instance (x : Int) : Decidable (primeP x) := by unfold primeP; infer_instance
def okN (p n : Int) (x i : Nat) : Prop := ¬ ((x : Int) ≥ p ∨ ((i : Int) ≥ n ∧ x ≠ 0))
instance (p n : Int) (x i : Nat) : Decidable (okN p n x i) := by unfold okN; infer_instance
def okV (p n : Int) (v : Nat → Nat) : Prop := ∀ i, i < 6 → okN p n (v i) i
instance (p n : Int) (v : Nat → Nat) : Decidable (okV p n v) := Nat.decidableBallLT 6 _
theorem bool_f {p : Prop} [Decidable p] (h : ¬ p) : Value.bool false = Value.bool (decide p) := by simp [h]

theorem l01In_ok (x lo hi : Int) (w : World)  :
    CallsR Try.prog 40 #[.int .i64 (x), .int .i64 (lo), .int .i64 (hi)] w (fun res _ => res = .bool (decide (lo ≤ x ∧ x ≤ hi))) := by
  refine calls_fr [.int .i64 (x), .int .i64 (lo), .int .i64 (hi)] Try.func40 rfl Try.ntmps40 rfl fun a hF => ?_;have hM : Mem w w [] [] := MemX.start w 0;change Fr 15 a [(0, .int .i64 (x)), (1, .int .i64 (lo)), (2, .int .i64 (hi))] at hF;refine sr <| ag hF rfl rfl fun a hF => ns <| mv hF rfl rfl fun a hF => mv hF rfl rfl fun a hF => st hF (g_geq hF rfl rfl) rfl fun a hF => mv hF rfl rfl fun a hF => ?_
  by_cases g1 : lo ≤ (x : Int)
  · first | rw [decide_eq_true g1] at hF | simp only [decide_eq_true g1] at hF
    refine stY hF rfl rfl rfl (g_move hF rfl) rfl fun a hF => stY hF rfl rfl rfl (g_move hF rfl) rfl fun a hF => stY hF rfl rfl rfl (g_leq hF rfl rfl) rfl fun a hF => st hF (g_pickT hF rfl rfl) rfl fun a hF => ag hF rfl rfl fun a hF => nt <| wp_ret <| fin1 rfl hF.defers (res_tmp hF rfl) ⟨_, rfl, hM.below, ?_⟩
    show _ = _
    first | exact congrArg Value.bool (decide_eq_true (by omega)).symm | exact congrArg Value.bool (decide_eq_false (by omega)).symm | exact congrArg Value.bool (decide_eq_decide.2 (by omega))
  first | rw [decide_eq_false g1] at hF | simp only [decide_eq_false g1] at hF
  refine stS hF rfl rfl rfl rfl rfl fun a hF => stS hF rfl rfl rfl rfl rfl fun a hF => stS hF rfl rfl rfl rfl rfl fun a hF => st hF (g_pickF hF rfl rfl) rfl fun a hF => ag hF rfl rfl fun a hF => nt <| wp_ret <| fin1 rfl hF.defers (res_tmp hF rfl) ⟨_, rfl, hM.below, ?_⟩
  show _ = _
  first | exact congrArg Value.bool (decide_eq_true (by omega)).symm | exact congrArg Value.bool (decide_eq_false (by omega)).symm | exact congrArg Value.bool (decide_eq_decide.2 (by omega))
def timesS (p n : Nat) (T : Nat → Nat → Nat → Nat) (v u : Nat → Nat) (c : Nat) : Nat := if c < n then timesV p n T v u c else 0
def invN (x p : Nat) : Nat := ((List.range p).find? (fun c => c * x % p == 1)).getD 0
def okE (p n : Int) (T : Nat → Nat → Nat → Nat) (i j : Nat) : Prop := ¬ ((¬ ((i : Int) < n ∧ (j : Int) < n) ∧ ¬ eqV 6 (T i j) (fun _ => 0)) ∨ ¬ okV p n (T i j))
instance (p n : Int) (T : Nat → Nat → Nat → Nat) (i j : Nat) : Decidable (okE p n T i j) := by unfold okE; infer_instance
def all2 (m : Nat) (q : Nat → Nat → Prop) : Prop := ∀ i, i < m → ∀ j, j < m → q i j
instance (m : Nat) (q : Nat → Nat → Prop) [∀ i j, Decidable (q i j)] : Decidable (all2 m q) := by unfold all2; exact Nat.decidableBallLT m _
def okS2 (p n : Int) (T : Nat → Nat → Nat → Nat) (i j : Nat) : Prop := okV p (if (i : Int) ≥ n ∨ (j : Int) ≥ n then 0 else n) (T i j)
instance (p n : Int) (T : Nat → Nat → Nat → Nat) (i j : Nat) : Decidable (okS2 p n T i j) := by unfold okS2; infer_instance
def shapeP (p n : Int) (T : Nat → Nat → Nat → Nat) (f : Nat → Nat) : Prop := primeP p ∧ (1 ≤ n ∧ n ≤ 6) ∧ okV p n f ∧ all2 6 (okS2 p n T)
instance (p n : Int) (T : Nat → Nat → Nat → Nat) (f : Nat → Nat) : Decidable (shapeP p n T f) := by unfold shapeP; infer_instance



def e1 (i : Nat) : Nat → Nat := fun c => if c = i then 1 else 0
def asT (p n : Nat) (T : Nat → Nat → Nat → Nat) (i j k : Nat) : Prop := eqV 6 (timesV p n T (T i j) (fun c => if c = k then 1 else 0)) (timesV p n T (fun c => if c = i then 1 else 0) (T j k))
instance (p n : Nat) (T : Nat → Nat → Nat → Nat) (i j k : Nat) : Decidable (asT p n T i j k) := by unfold asT; infer_instance
def asJ (p n : Nat) (T : Nat → Nat → Nat → Nat) (j : Nat) : Prop := ∀ i, i < n → ∀ k, k < n → asT p n T i j k
instance (p n : Nat) (T : Nat → Nat → Nat → Nat) (j : Nat) : Decidable (asJ p n T j) := by unfold asJ; exact Nat.decidableBallLT n _
def cntA (p n : Nat) (T : Nat → Nat → Nat → Nat) (g : Nat) : Nat := sumTo (fun j => if asJ p n T j then 1 else 0) g
def asP (p n : Nat) (T : Nat → Nat → Nat → Nat) : Prop := ∀ j, j < n → asJ p n T j
instance (p n : Nat) (T : Nat → Nat → Nat → Nat) : Decidable (asP p n T) := Nat.decidableBallLT n _
def lessN (p : Nat) (f h : Nat → Nat) (x i : Nat) : Int := ((f i : Int) - (x : Int) * (h i : Int)) % (p : Int)


def addN (p : Nat) (f h : Nat → Nat) (x : Int) (i : Nat) : Nat := (((f i : Int) + x * (h i : Int)) % (p : Int)).toNat
def eqM (M N : Nat → Nat → Nat) : Prop := ∀ j, j < 6 → eqV 6 (M j) (N j)
instance (M N : Nat → Nat → Nat) : Decidable (eqM M N) := Nat.decidableBallLT 6 _
def eqT (T U : Nat → Nat → Nat → Nat) : Prop := ∀ i, i < 6 → eqM (T i) (U i)
instance (T U : Nat → Nat → Nat → Nat) : Decidable (eqT T U) := Nat.decidableBallLT 6 _

def addM (p : Nat) (v u : Nat → Nat) (x i : Nat) : Nat := (v i + x * u i) % p


end Go.Proofs.Ytockjnhdllcfpaa
