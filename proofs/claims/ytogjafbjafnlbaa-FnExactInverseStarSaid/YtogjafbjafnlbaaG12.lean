/- What functions of the program return, as walks over their operations; no statement of the seat is proved here. -/
import Derived.Test.YtogjafbjafnlbaaSw21
import Derived.Test.YtogjafbjafnlbaaChecked
set_option linter.unusedVariables false
set_option linter.unusedSimpArgs false
namespace Go.Proofs.Ytogjafbjafnlbaa
open Go Go.RowKit Go.Sw
theorem hmix : Try.prog.follows .mixedOrders = true := by kernel_rfl
def sumTo (f : Nat → Nat) : Nat → Nat
  | 0 => 0
  | m + 1 => sumTo f m + f m
def prodI (T : Nat → Nat → Nat → Nat) (v u : Nat → Nat) (n i c : Nat) : Nat := sumTo (fun i => sumTo (fun j => v i * u j * T i j c) n) i
def timesV (p n : Nat) (T : Nat → Nat → Nat → Nat) (v u : Nat → Nat) (c : Nat) : Nat := prodI T v u n n c % p
theorem whole {c : Array Value} {n : Nat} (h : c.size = n) : c.extract 0 (0 + n) = c := by subst h; simp
def mtx (k : Nat) : ByteArray := ⟨#[109, UInt8.ofNat (48 + k)]⟩
def nmS (i : Nat) : ByteArray := match i with
  | 0 => ⟨#[102, 105, 101, 108, 100]⟩
  | 1 => ⟨#[100, 117, 97, 108]⟩
  | 2 => ⟨#[112, 97, 105, 114]⟩
  | 3 => ⟨#[99, 121, 99, 108, 105, 99, 51]⟩
  | 4 => ⟨#[115, 121, 109, 109, 101, 116, 114, 105, 99]⟩
  | _ => ⟨#[109, 97, 116, 114, 105, 120]⟩
theorem ty_un_5 : Try.prog.underlying 5 = some (.int .u8) := by kernel_rfl
theorem ty_ze_37 : zeroP Try.prog 37 = some (.agg (fnC 6 (fun _ => .int .u8 (0)))) := by kernel_rfl
theorem ty_ar_37 : arrOf Try.prog 37 = some (6, 1) := by kernel_rfl
theorem ty_on_5 : oneP Try.prog 5 = true := by kernel_rfl
theorem ty_ag_37 : aggP Try.prog 37 = some 6 := by kernel_rfl
theorem ty_sz_37 : sizeP Try.prog 37 = some 6 := by kernel_rfl
theorem ty_ze_22 : zeroP Try.prog 22 = some (.agg (fnC 6 (fun _ => .int .u8 (0)))) := by kernel_rfl
theorem ty_ar_22 : arrOf Try.prog 22 = some (6, 1) := by kernel_rfl
theorem ty_ag_22 : aggP Try.prog 22 = some 6 := by kernel_rfl
theorem ty_sz_22 : sizeP Try.prog 22 = some 6 := by kernel_rfl
theorem ty_ze_23 : zeroP Try.prog 23 = some (.agg (fnC 36 (fun _ => .int .u8 (0)))) := by kernel_rfl
theorem ty_ar_23 : arrOf Try.prog 23 = some (6, 6) := by kernel_rfl
theorem ty_ag_23 : aggP Try.prog 23 = some 36 := by kernel_rfl
theorem ty_sz_23 : sizeP Try.prog 23 = some 36 := by kernel_rfl
theorem basisVector_ok (i : Nat) (w : World) (hi : i < 6) :
    CallsR Try.prog 26 #[.int .i64 (i : Int)] w (fun res _ => res = .agg (vecC (fun c => if c = i then 1 else 0))) := by
  refine calls_fr [.int .i64 (i : Int)] Try.func26 rfl Try.ntmps26 rfl fun a hF => ?_;have hM : Mem w w [none, none] [] := MemX.start w 2;change Fr 7 a [(0, .int .i64 (i : Int))] at hF;refine sr <| stR hF (d_alloc 0 hM ty_ze_37) rfl ?_;rintro _ w' a ⟨b1, rfl, hM, -⟩ hF;refine ns <| stR hF (d_alloc 1 hM ty_ze_37) rfl ?_;rintro _ w' a ⟨b2, rfl, hM, -⟩ hF;change Mem w w' [some (b1, fnC 6 (fun _ => .int .u8 (0))), some (b2, fnC 6 (fun _ => .int .u8 (0)))] [] at hM;refine ns <| mv hF rfl rfl fun a hF => st hF (g_indexAddr ty_ar_37 hF rfl rfl rfl (by omega)) rfl fun a hF => stN hF (d_store 1 hM rfl ty_on_5 hF rfl rfl rfl (by first | omega | (simp only [sz0] <;> omega) | (simp only [Array.size_setIfInBounds]; omega) | simp)) ?_;intro _ w' a hM hF;rw [show (fnC 6 (fun x => .int .u8 (0))).setIfInBounds (0 + (i) * 1) (.int .u8 (1)) = fnC 6 (fun x => .int .u8 (((if x = i then 1 else 0) : Nat) : Int)) from fnC_set (fun x _ => by rw [show 0 + (i) * 1 = i by omega]; by_cases hh : x = i <;> simp [hh])] at hM;change Mem w w' [some (b1, fnC 6 (fun _ => .int .u8 (0))), some (b2, fnC 6 (fun x => .int .u8 (((if x = i then 1 else 0) : Nat) : Int)))] [] at hM;refine ns <| st hF (g_loadAgg ty_ag_37 hF rfl (hM.row 1 rfl) (by simp only [sz0] <;> omega) (whole (by simp only [sz0]))) rfl fun a hF => stN hF (d_storeAgg 0 hM rfl ty_sz_37 hF rfl rfl (by first | exact vecC_one | exact cells_one | (refine fnC_one fun _ _ => ?_; first | rfl | (split <;> rfl))) (by simp only [sz0]) (by simp only [sz0] <;> omega) (splice_whole _ _ (by simp only [sz0]))) ?_;intro _ w' a hM hF;change Mem w w' [some (b1, fnC 6 (fun x => .int .u8 (((if x = i then 1 else 0) : Nat) : Int))), some (b2, fnC 6 (fun x => .int .u8 (((if x = i then 1 else 0) : Nat) : Int)))] [] at hM;refine nt <| wp_ret <| fin1 rfl hF.defers (res_agg ty_ag_37 hF rfl (hM.row 0 rfl) (by simp only [sz0])) ⟨_, rfl, hM.below, ?_⟩
  show _ = _
  rfl
def primeP (x : Int) : Prop := x = 2 ∨ x = 3 ∨ x = 5 ∨ x = 7 ∨ x = 11 ∨ x = 13
instance (x : Int) : Decidable (primeP x) := by unfold primeP; infer_instance
def okN (p n : Int) (x i : Nat) : Prop := ¬ ((x : Int) ≥ p ∨ ((i : Int) ≥ n ∧ x ≠ 0))
instance (p n : Int) (x i : Nat) : Decidable (okN p n x i) := by unfold okN; infer_instance
def okV (p n : Int) (v : Nat → Nat) : Prop := ∀ i, i < 6 → okN p n (v i) i
instance (p n : Int) (v : Nat → Nat) : Decidable (okV p n v) := Nat.decidableBallLT 6 _
theorem bool_t {p : Prop} [Decidable p] (h : p) : Value.bool true = Value.bool (decide p) := by simp [h]
theorem bool_f {p : Prop} [Decidable p] (h : ¬ p) : Value.bool false = Value.bool (decide p) := by simp [h]

theorem isPrime_ok (x : Int) (w : World)  :
    CallsR Try.prog 38 #[.int .i64 (x)] w (fun res _ => res = .bool (decide (primeP x))) := by
  refine calls_fr [.int .i64 (x)] Try.func38 rfl Try.ntmps38 rfl fun a hF => ?_;have hM : Mem w w [] [] := MemX.start w 0;change Fr 11 a [(0, .int .i64 (x))] at hF;refine sr <| ag hF rfl rfl fun a hF => nt <| sq <| sr <| mv hF rfl rfl fun a hF => nt <| wp_block <| sq <| sr <| st hF (g_eql hF rfl rfl) rfl fun a hF => ag hF rfl rfl fun a hF => nt <| c_cond hF rfl (fun h1 => ?_) (fun h1 => ?_)
  · refine wp_skip ?_
    refine tN <| c_kT hF rfl h1 <| sr <| ag hF rfl rfl fun a hF => nt <| wp_ret <| iR <| tR <| fin1 rfl hF.defers (res_tmp hF rfl) ⟨_, rfl, hM.below, ?_⟩
    show _ = _
    first | exact congrArg Value.bool (decide_eq_true (by unfold primeP; omega)).symm | exact congrArg Value.bool (decide_eq_false (by unfold primeP; omega)).symm | exact congrArg Value.bool (decide_eq_decide.2 (by unfold primeP; omega))
  refine sr <| st hF (g_eql hF rfl rfl) rfl fun a hF => ag hF rfl rfl fun a hF => nt <| c_cond hF rfl (fun h3 => ?_) (fun h3 => ?_)
  · refine wp_skip ?_
    refine tN <| c_kT hF rfl h3 <| sr <| ag hF rfl rfl fun a hF => nt <| wp_ret <| iR <| tR <| fin1 rfl hF.defers (res_tmp hF rfl) ⟨_, rfl, hM.below, ?_⟩
    show _ = _
    first | exact congrArg Value.bool (decide_eq_true (by unfold primeP; omega)).symm | exact congrArg Value.bool (decide_eq_false (by unfold primeP; omega)).symm | exact congrArg Value.bool (decide_eq_decide.2 (by unfold primeP; omega))
  refine sr <| st hF (g_eql hF rfl rfl) rfl fun a hF => ag hF rfl rfl fun a hF => nt <| c_cond hF rfl (fun h5 => ?_) (fun h5 => ?_)
  · refine wp_skip ?_
    refine tN <| c_kT hF rfl h5 <| sr <| ag hF rfl rfl fun a hF => nt <| wp_ret <| iR <| tR <| fin1 rfl hF.defers (res_tmp hF rfl) ⟨_, rfl, hM.below, ?_⟩
    show _ = _
    first | exact congrArg Value.bool (decide_eq_true (by unfold primeP; omega)).symm | exact congrArg Value.bool (decide_eq_false (by unfold primeP; omega)).symm | exact congrArg Value.bool (decide_eq_decide.2 (by unfold primeP; omega))
  refine sr <| st hF (g_eql hF rfl rfl) rfl fun a hF => ag hF rfl rfl fun a hF => nt <| c_cond hF rfl (fun h7 => ?_) (fun h7 => ?_)
  · refine wp_skip ?_
    refine tN <| c_kT hF rfl h7 <| sr <| ag hF rfl rfl fun a hF => nt <| wp_ret <| iR <| tR <| fin1 rfl hF.defers (res_tmp hF rfl) ⟨_, rfl, hM.below, ?_⟩
    show _ = _
    first | exact congrArg Value.bool (decide_eq_true (by unfold primeP; omega)).symm | exact congrArg Value.bool (decide_eq_false (by unfold primeP; omega)).symm | exact congrArg Value.bool (decide_eq_decide.2 (by unfold primeP; omega))
  refine sr <| st hF (g_eql hF rfl rfl) rfl fun a hF => ag hF rfl rfl fun a hF => nt <| c_cond hF rfl (fun h9 => ?_) (fun h9 => ?_)
  · refine wp_skip ?_
    refine tN <| c_kT hF rfl h9 <| sr <| ag hF rfl rfl fun a hF => nt <| wp_ret <| iR <| tR <| fin1 rfl hF.defers (res_tmp hF rfl) ⟨_, rfl, hM.below, ?_⟩
    show _ = _
    first | exact congrArg Value.bool (decide_eq_true (by unfold primeP; omega)).symm | exact congrArg Value.bool (decide_eq_false (by unfold primeP; omega)).symm | exact congrArg Value.bool (decide_eq_decide.2 (by unfold primeP; omega))
  refine wp_region_lit <| st hF (g_eql hF rfl rfl) rfl fun a hF => ag hF rfl rfl fun a hF => nt <| c_cond hF rfl (fun h11 => ?_) (fun h11 => ?_)
  · refine sq ?_
    refine wp_region_lit <| ag hF rfl rfl fun a hF => nt <| wp_ret <| iR <| tR <| fin1 rfl hF.defers (res_tmp hF rfl) ⟨_, rfl, hM.below, ?_⟩
    show _ = _
    first | exact congrArg Value.bool (decide_eq_true (by unfold primeP; omega)).symm | exact congrArg Value.bool (decide_eq_false (by unfold primeP; omega)).symm | exact congrArg Value.bool (decide_eq_decide.2 (by unfold primeP; omega))
  refine wp_skip <| iN <| tN <| sr <| ag hF rfl rfl fun a hF => nt <| wp_ret <| fin1 rfl hF.defers (res_tmp hF rfl) ⟨_, rfl, hM.below, ?_⟩
  show _ = _
  first | exact congrArg Value.bool (decide_eq_true (by unfold primeP; omega)).symm | exact congrArg Value.bool (decide_eq_false (by unfold primeP; omega)).symm | exact congrArg Value.bool (decide_eq_decide.2 (by unfold primeP; omega))
theorem l01Prime_ok (x : Int) (w : World)  :
    CallsR Try.prog 35 #[.int .i64 (x)] w (fun res _ => res = .bool (decide (primeP x))) := by
  refine calls_fr [.int .i64 (x)] Try.func35 rfl Try.ntmps35 rfl fun a hF => ?_;have hM : Mem w w [] [] := MemX.start w 0;change Fr 25 a [(0, .int .i64 (x))] at hF;refine sr <| ag hF rfl rfl fun a hF => ns <| mv hF rfl rfl fun a hF => st hF (g_eql hF rfl rfl) rfl fun a hF => mv hF rfl rfl fun a hF => ?_
  by_cases g1 : (x : Int) = 2
  · first | rw [decide_eq_true g1] at hF | simp only [decide_eq_true g1] at hF
    refine stS hF rfl rfl rfl rfl rfl fun a hF => stS hF rfl rfl rfl rfl rfl fun a hF => st hF (g_pickT hF rfl rfl) rfl fun a hF => mv hF rfl rfl fun a hF => stS hF rfl rfl rfl rfl rfl fun a hF => stS hF rfl rfl rfl rfl rfl fun a hF => st hF (g_pickT hF rfl rfl) rfl fun a hF => mv hF rfl rfl fun a hF => stS hF rfl rfl rfl rfl rfl fun a hF => stS hF rfl rfl rfl rfl rfl fun a hF => st hF (g_pickT hF rfl rfl) rfl fun a hF => mv hF rfl rfl fun a hF => stS hF rfl rfl rfl rfl rfl fun a hF => stS hF rfl rfl rfl rfl rfl fun a hF => st hF (g_pickT hF rfl rfl) rfl fun a hF => mv hF rfl rfl fun a hF => stS hF rfl rfl rfl rfl rfl fun a hF => stS hF rfl rfl rfl rfl rfl fun a hF => st hF (g_pickT hF rfl rfl) rfl fun a hF => ag hF rfl rfl fun a hF => nt <| wp_ret <| fin1 rfl hF.defers (res_tmp hF rfl) ⟨_, rfl, hM.below, ?_⟩
    show _ = _
    first | exact congrArg Value.bool (decide_eq_true (by unfold primeP; omega)).symm | exact congrArg Value.bool (decide_eq_false (by unfold primeP; omega)).symm | exact congrArg Value.bool (decide_eq_decide.2 (by unfold primeP; omega))
  first | rw [decide_eq_false g1] at hF | simp only [decide_eq_false g1] at hF
  refine stY hF rfl rfl rfl (g_move hF rfl) rfl fun a hF => stY hF rfl rfl rfl (g_eql hF rfl rfl) rfl fun a hF => st hF (g_pickF hF rfl rfl) rfl fun a hF => mv hF rfl rfl fun a hF => ?_
  by_cases g2 : (x : Int) = 3
  · first | rw [decide_eq_true g2] at hF | simp only [decide_eq_true g2] at hF
    refine stS hF rfl rfl rfl rfl rfl fun a hF => stS hF rfl rfl rfl rfl rfl fun a hF => st hF (g_pickT hF rfl rfl) rfl fun a hF => mv hF rfl rfl fun a hF => stS hF rfl rfl rfl rfl rfl fun a hF => stS hF rfl rfl rfl rfl rfl fun a hF => st hF (g_pickT hF rfl rfl) rfl fun a hF => mv hF rfl rfl fun a hF => stS hF rfl rfl rfl rfl rfl fun a hF => stS hF rfl rfl rfl rfl rfl fun a hF => st hF (g_pickT hF rfl rfl) rfl fun a hF => mv hF rfl rfl fun a hF => stS hF rfl rfl rfl rfl rfl fun a hF => stS hF rfl rfl rfl rfl rfl fun a hF => st hF (g_pickT hF rfl rfl) rfl fun a hF => ag hF rfl rfl fun a hF => nt <| wp_ret <| fin1 rfl hF.defers (res_tmp hF rfl) ⟨_, rfl, hM.below, ?_⟩
    show _ = _
    first | exact congrArg Value.bool (decide_eq_true (by unfold primeP; omega)).symm | exact congrArg Value.bool (decide_eq_false (by unfold primeP; omega)).symm | exact congrArg Value.bool (decide_eq_decide.2 (by unfold primeP; omega))
  first | rw [decide_eq_false g2] at hF | simp only [decide_eq_false g2] at hF
  refine stY hF rfl rfl rfl (g_move hF rfl) rfl fun a hF => stY hF rfl rfl rfl (g_eql hF rfl rfl) rfl fun a hF => st hF (g_pickF hF rfl rfl) rfl fun a hF => mv hF rfl rfl fun a hF => ?_
  by_cases g3 : (x : Int) = 5
  · first | rw [decide_eq_true g3] at hF | simp only [decide_eq_true g3] at hF
    refine stS hF rfl rfl rfl rfl rfl fun a hF => stS hF rfl rfl rfl rfl rfl fun a hF => st hF (g_pickT hF rfl rfl) rfl fun a hF => mv hF rfl rfl fun a hF => stS hF rfl rfl rfl rfl rfl fun a hF => stS hF rfl rfl rfl rfl rfl fun a hF => st hF (g_pickT hF rfl rfl) rfl fun a hF => mv hF rfl rfl fun a hF => stS hF rfl rfl rfl rfl rfl fun a hF => stS hF rfl rfl rfl rfl rfl fun a hF => st hF (g_pickT hF rfl rfl) rfl fun a hF => ag hF rfl rfl fun a hF => nt <| wp_ret <| fin1 rfl hF.defers (res_tmp hF rfl) ⟨_, rfl, hM.below, ?_⟩
    show _ = _
    first | exact congrArg Value.bool (decide_eq_true (by unfold primeP; omega)).symm | exact congrArg Value.bool (decide_eq_false (by unfold primeP; omega)).symm | exact congrArg Value.bool (decide_eq_decide.2 (by unfold primeP; omega))
  first | rw [decide_eq_false g3] at hF | simp only [decide_eq_false g3] at hF
  refine stY hF rfl rfl rfl (g_move hF rfl) rfl fun a hF => stY hF rfl rfl rfl (g_eql hF rfl rfl) rfl fun a hF => st hF (g_pickF hF rfl rfl) rfl fun a hF => mv hF rfl rfl fun a hF => ?_
  by_cases g4 : (x : Int) = 7
  · first | rw [decide_eq_true g4] at hF | simp only [decide_eq_true g4] at hF
    refine stS hF rfl rfl rfl rfl rfl fun a hF => stS hF rfl rfl rfl rfl rfl fun a hF => st hF (g_pickT hF rfl rfl) rfl fun a hF => mv hF rfl rfl fun a hF => stS hF rfl rfl rfl rfl rfl fun a hF => stS hF rfl rfl rfl rfl rfl fun a hF => st hF (g_pickT hF rfl rfl) rfl fun a hF => ag hF rfl rfl fun a hF => nt <| wp_ret <| fin1 rfl hF.defers (res_tmp hF rfl) ⟨_, rfl, hM.below, ?_⟩
    show _ = _
    first | exact congrArg Value.bool (decide_eq_true (by unfold primeP; omega)).symm | exact congrArg Value.bool (decide_eq_false (by unfold primeP; omega)).symm | exact congrArg Value.bool (decide_eq_decide.2 (by unfold primeP; omega))
  first | rw [decide_eq_false g4] at hF | simp only [decide_eq_false g4] at hF
  refine stY hF rfl rfl rfl (g_move hF rfl) rfl fun a hF => stY hF rfl rfl rfl (g_eql hF rfl rfl) rfl fun a hF => st hF (g_pickF hF rfl rfl) rfl fun a hF => mv hF rfl rfl fun a hF => ?_
  by_cases g5 : (x : Int) = 11
  · first | rw [decide_eq_true g5] at hF | simp only [decide_eq_true g5] at hF
    refine stS hF rfl rfl rfl rfl rfl fun a hF => stS hF rfl rfl rfl rfl rfl fun a hF => st hF (g_pickT hF rfl rfl) rfl fun a hF => ag hF rfl rfl fun a hF => nt <| wp_ret <| fin1 rfl hF.defers (res_tmp hF rfl) ⟨_, rfl, hM.below, ?_⟩
    show _ = _
    first | exact congrArg Value.bool (decide_eq_true (by unfold primeP; omega)).symm | exact congrArg Value.bool (decide_eq_false (by unfold primeP; omega)).symm | exact congrArg Value.bool (decide_eq_decide.2 (by unfold primeP; omega))
  first | rw [decide_eq_false g5] at hF | simp only [decide_eq_false g5] at hF
  refine stY hF rfl rfl rfl (g_move hF rfl) rfl fun a hF => stY hF rfl rfl rfl (g_eql hF rfl rfl) rfl fun a hF => st hF (g_pickF hF rfl rfl) rfl fun a hF => ag hF rfl rfl fun a hF => nt <| wp_ret <| fin1 rfl hF.defers (res_tmp hF rfl) ⟨_, rfl, hM.below, ?_⟩
  show _ = _
  first | exact congrArg Value.bool (decide_eq_true (by unfold primeP; omega)).symm | exact congrArg Value.bool (decide_eq_false (by unfold primeP; omega)).symm | exact congrArg Value.bool (decide_eq_decide.2 (by unfold primeP; omega))
theorem l01In_ok (x lo hi : Int) (w : World)  :
    CallsR Try.prog 28 #[.int .i64 (x), .int .i64 (lo), .int .i64 (hi)] w (fun res _ => res = .bool (decide (lo ≤ x ∧ x ≤ hi))) := by
  refine calls_fr [.int .i64 (x), .int .i64 (lo), .int .i64 (hi)] Try.func28 rfl Try.ntmps28 rfl fun a hF => ?_;have hM : Mem w w [] [] := MemX.start w 0;change Fr 15 a [(0, .int .i64 (x)), (1, .int .i64 (lo)), (2, .int .i64 (hi))] at hF;refine sr <| ag hF rfl rfl fun a hF => ns <| mv hF rfl rfl fun a hF => mv hF rfl rfl fun a hF => st hF (g_geq hF rfl rfl) rfl fun a hF => mv hF rfl rfl fun a hF => ?_
  by_cases g1 : lo ≤ (x : Int)
  · first | rw [decide_eq_true g1] at hF | simp only [decide_eq_true g1] at hF
    refine stY hF rfl rfl rfl (g_move hF rfl) rfl fun a hF => stY hF rfl rfl rfl (g_move hF rfl) rfl fun a hF => stY hF rfl rfl rfl (g_leq hF rfl rfl) rfl fun a hF => st hF (g_pickT hF rfl rfl) rfl fun a hF => ag hF rfl rfl fun a hF => nt <| wp_ret <| fin1 rfl hF.defers (res_tmp hF rfl) ⟨_, rfl, hM.below, ?_⟩
    show _ = _
    first | exact congrArg Value.bool (decide_eq_true (by omega)).symm | exact congrArg Value.bool (decide_eq_false (by omega)).symm | exact congrArg Value.bool (decide_eq_decide.2 (by omega))
  first | rw [decide_eq_false g1] at hF | simp only [decide_eq_false g1] at hF
  refine stS hF rfl rfl rfl rfl rfl fun a hF => stS hF rfl rfl rfl rfl rfl fun a hF => stS hF rfl rfl rfl rfl rfl fun a hF => st hF (g_pickF hF rfl rfl) rfl fun a hF => ag hF rfl rfl fun a hF => nt <| wp_ret <| fin1 rfl hF.defers (res_tmp hF rfl) ⟨_, rfl, hM.below, ?_⟩
  show _ = _
  first | exact congrArg Value.bool (decide_eq_true (by omega)).symm | exact congrArg Value.bool (decide_eq_false (by omega)).symm | exact congrArg Value.bool (decide_eq_decide.2 (by omega))
def timesS (p n : Nat) (T : Nat → Nat → Nat → Nat) (v u : Nat → Nat) (c : Nat) : Nat := if c < n then timesV p n T v u c else 0
def invN (x p : Nat) : Nat := ((List.range p).find? (fun c => c * x % p == 1)).getD 0
def okE (p n : Int) (T : Nat → Nat → Nat → Nat) (i j : Nat) : Prop := ¬ ((¬ ((i : Int) < n ∧ (j : Int) < n) ∧ ¬ eqV 6 (T i j) (fun _ => 0)) ∨ ¬ okV p n (T i j))
instance (p n : Int) (T : Nat → Nat → Nat → Nat) (i j : Nat) : Decidable (okE p n T i j) := by unfold okE; infer_instance
def all2 (m : Nat) (q : Nat → Nat → Prop) : Prop := ∀ i, i < m → ∀ j, j < m → q i j
instance (m : Nat) (q : Nat → Nat → Prop) [∀ i j, Decidable (q i j)] : Decidable (all2 m q) := by unfold all2; exact Nat.decidableBallLT m _
theorem allS {q : Nat → Prop} {k : Nat} (h : ∀ i, i < k → q i) (hk : q k) : ∀ i, i < k + 1 → q i := fun i hi => by
  by_cases e : i = k
  · subst e; exact hk
  · exact h i (by omega)
def okS2 (p n : Int) (T : Nat → Nat → Nat → Nat) (i j : Nat) : Prop := okV p (if (i : Int) ≥ n ∨ (j : Int) ≥ n then 0 else n) (T i j)
instance (p n : Int) (T : Nat → Nat → Nat → Nat) (i j : Nat) : Decidable (okS2 p n T i j) := by unfold okS2; infer_instance
def shapeP (p n : Int) (T : Nat → Nat → Nat → Nat) (f : Nat → Nat) : Prop := primeP p ∧ (1 ≤ n ∧ n ≤ 6) ∧ okV p n f ∧ all2 6 (okS2 p n T)
instance (p n : Int) (T : Nat → Nat → Nat → Nat) (f : Nat → Nat) : Decidable (shapeP p n T f) := by unfold shapeP; infer_instance



def e1 (i : Nat) : Nat → Nat := fun c => if c = i then 1 else 0
def asT (p n : Nat) (T : Nat → Nat → Nat → Nat) (i j k : Nat) : Prop := eqV 6 (timesV p n T (T i j) (fun c => if c = k then 1 else 0)) (timesV p n T (fun c => if c = i then 1 else 0) (T j k))
instance (p n : Nat) (T : Nat → Nat → Nat → Nat) (i j k : Nat) : Decidable (asT p n T i j k) := by unfold asT; infer_instance
def asJ (p n : Nat) (T : Nat → Nat → Nat → Nat) (j : Nat) : Prop := ∀ i, i < n → ∀ k, k < n → asT p n T i j k
instance (p n : Nat) (T : Nat → Nat → Nat → Nat) (j : Nat) : Decidable (asJ p n T j) := by unfold asJ; exact Nat.decidableBallLT n _
def cntA (p n : Nat) (T : Nat → Nat → Nat → Nat) (g : Nat) : Nat := sumTo (fun j => if asJ p n T j then 1 else 0) g
def asP (p n : Nat) (T : Nat → Nat → Nat → Nat) : Prop := ∀ j, j < n → asJ p n T j
instance (p n : Nat) (T : Nat → Nat → Nat → Nat) : Decidable (asP p n T) := Nat.decidableBallLT n _
def lessN (p : Nat) (f h : Nat → Nat) (x i : Nat) : Int := ((f i : Int) - (x : Int) * (h i : Int)) % (p : Int)


theorem rnd {P : Program} {c : Code} {Q : Exit → Act → World → Prop} {n : Nat} {a : Act} {w : World} (h : c.wp P (Exit.then (Code.rounds P c Q n) Q) a w) : Code.rounds P c Q (n + 1) a w := h









def addN (p : Nat) (f h : Nat → Nat) (x : Int) (i : Nat) : Nat := (((f i : Int) + x * (h i : Int)) % (p : Int)).toNat
theorem toByteA6_ok (v : Nat → Nat) (w : World)  :
    CallsR Try.prog 37 #[.agg (vecC v)] w (fun res _ => res = .agg (vecC v)) := by
  refine calls_fr [.agg (vecC v)] Try.func37 rfl Try.ntmps37 rfl fun a hF => ?_;have hM : Mem w w [none, none, none] [] := MemX.start w 3;change Fr 15 a [(0, .agg (vecC v))] at hF;refine sr <| stR hF (d_box 0 hM hF rfl) rfl ?_;rintro _ w' a ⟨b1, rfl, hM, -⟩ hF;refine stR hF (d_alloc 1 hM ty_ze_22) rfl ?_;rintro _ w' a ⟨b2, rfl, hM, -⟩ hF;refine ns <| stR hF (d_alloc 2 hM ty_ze_22) rfl ?_;rintro _ w' a ⟨b3, rfl, hM, -⟩ hF;refine nt <| sq <| sr <| ag hF rfl rfl fun a hF => nt <| wp_block ?_;change Mem w _ [some (b1, vecC v), some (b2, fnC 6 (fun _ => .int .u8 (0))), some (b3, fnC 6 (fun _ => .int .u8 (0)))] [] at hM;refine c_loop (fun (kk : Nat) a w' => kk ≤ 6 ∧ (True) ∧ Fr 15 a [(1, ptr b1 (0)), (2, ptr b2 (0)), (3, ptr b3 (0)), (4, .int .i64 (kk : Int))] ∧ Mem w w' [some (b1, vecC v), some (b2, fnC 6 (fun _ => .int .u8 (0))), some (b3, fnC 6 (fun c => .int .u8 ((if c < kk then v c else 0 : Nat) : Int)))] []) (fun kk => 6 - kk) 0 ?_ ?_
  · refine ⟨by omega, trivial, hF.sub _ (by repeat' constructor), ?_⟩
    refine hM.rowc 2 rfl (fnC_congr fun c hc => by simp)
  clear hF hM;rintro gk a w' ⟨hgk, hinv1, hF, hM⟩;refine sq <| sr <| mv hF rfl rfl fun a hF => st hF (g_lss hF rfl rfl) rfl fun a hF => nt <| c_cond hF rfl (fun h4 => ?_) (fun h4 => ?_)
  · refine wp_skip ?_
    refine tN <| sq <| wp_block <| wp_region_lit <| mv hF rfl rfl fun a hF => mv hF rfl rfl fun a hF => st hF (g_indexAddr ty_ar_22 hF rfl rfl rfl (by omega)) rfl fun a hF => st hF (g_load ty_on_5 hF rfl (hM.row 0 rfl) (vecC_get (gk) (by omega) (by omega))) rfl fun a hF => st hF (g_indexAddr ty_ar_22 hF rfl rfl rfl (by omega)) rfl fun a hF => stN hF (d_store 2 hM rfl ty_on_5 hF rfl rfl rfl (by first | omega | (simp only [sz0] <;> omega) | (simp only [Array.size_setIfInBounds]; omega) | simp)) ?_;intro _ w' a hM hF;rw [show (fnC 6 (fun c => .int .u8 ((if c < gk then v c else 0 : Nat) : Int))).setIfInBounds (0 + (gk) * 1) (.int .u8 ((v (gk) : Int))) = fnC 6 (fun c => .int .u8 (((if c = gk then v (gk) else if c < gk then v c else 0) : Nat) : Int)) from fnC_set (fun c _ => by rw [show 0 + (gk) * 1 = gk by omega]; by_cases hh : c = gk <;> simp [hh])] at hM;change Mem w w' [some (b1, vecC v), some (b2, fnC 6 (fun _ => .int .u8 (0))), some (b3, fnC 6 (fun c => .int .u8 (((if c = gk then v (gk) else if c < gk then v c else 0) : Nat) : Int)))] [] at hM;refine wpList_nil <| iN <| tN <| wp_region_lit <| mv hF rfl rfl fun a hF => st hF (g_add hF rfl rfl (add_nat (gk) (1) (by omega))) rfl fun a hF => ag hF rfl rfl fun a hF => nt <| ⟨gk + 1, ⟨by omega, trivial, hF.sub _ (by repeat' constructor), ?_⟩, by omega⟩;refine hM.rowc 2 rfl (fnC_congr fun c hc => congrArg (Value.int .u8) (congrArg Nat.cast ?_))
    by_cases e1 : c = gk
    · simp [e1]
    · have e0 : (c < gk + 1) = (c < gk) := by apply propext; omega
      simp [e0, e1]
  obtain rfl : 6 = gk := by omega
  have hM := hM.rowc (cs' := vecC v) 2 rfl (fnC_congr fun c hc => by simp [show c < 6 by omega]);refine wp_exit <| tX <| tX <| ib_same <| tN <| sr <| st hF (g_loadAgg ty_ag_22 hF rfl (hM.row 2 rfl) (by simp only [sz0] <;> omega) (whole (by simp only [sz0]))) rfl fun a hF => stN hF (d_storeAgg 1 hM rfl ty_sz_22 hF rfl rfl (by first | exact vecC_one | exact cells_one | (refine fnC_one fun _ _ => ?_; first | rfl | (split <;> rfl))) (by simp only [sz0]) (by simp only [sz0] <;> omega) (splice_whole _ _ (by simp only [sz0]))) ?_;intro _ w' a hM hF;change Mem w w' [some (b1, vecC v), some (b2, vecC v), some (b3, vecC v)] [] at hM;refine nt <| wp_ret <| fin1 rfl hF.defers (res_agg ty_ag_22 hF rfl (hM.row 1 rfl) (by simp only [sz0])) ⟨_, rfl, hM.below, ?_⟩
  show _ = _
  rfl
theorem toByteA6A6_ok (M : Nat → Nat → Nat) (w : World)  :
    CallsR Try.prog 19 #[.agg (planeC M)] w (fun res _ => res = .agg (planeC M)) := by
  refine calls_fr [.agg (planeC M)] Try.func19 rfl Try.ntmps19 rfl fun a hF => ?_;have hM : Mem w w [none, none, none] [] := MemX.start w 3;change Fr 16 a [(0, .agg (planeC M))] at hF;refine sr <| stR hF (d_box 0 hM hF rfl) rfl ?_;rintro _ w' a ⟨b1, rfl, hM, -⟩ hF;refine stR hF (d_alloc 1 hM ty_ze_23) rfl ?_;rintro _ w' a ⟨b2, rfl, hM, -⟩ hF;refine ns <| stR hF (d_alloc 2 hM ty_ze_23) rfl ?_;rintro _ w' a ⟨b3, rfl, hM, -⟩ hF;refine nt <| sq <| sr <| ag hF rfl rfl fun a hF => nt <| wp_block ?_;change Mem w _ [some (b1, planeC M), some (b2, fnC 36 (fun _ => .int .u8 (0))), some (b3, fnC 36 (fun _ => .int .u8 (0)))] [] at hM;refine c_loop (fun (kk : Nat) a w' => kk ≤ 6 ∧ (True) ∧ Fr 16 a [(1, ptr b1 (0)), (2, ptr b2 (0)), (3, ptr b3 (0)), (4, .int .i64 (kk : Int))] ∧ Mem w w' [some (b1, planeC M), some (b2, fnC 36 (fun _ => .int .u8 (0))), some (b3, planeC (fun j k => if j < kk then M j k else 0))] []) (fun kk => 6 - kk) 0 ?_ ?_
  · refine ⟨by omega, trivial, hF.sub _ (by repeat' constructor), ?_⟩
    refine hM.rowc 2 rfl (fnC_congr fun c hc => by simp)
  clear hF hM;rintro gk a w' ⟨hgk, hinv1, hF, hM⟩;refine sq <| sr <| mv hF rfl rfl fun a hF => st hF (g_lss hF rfl rfl) rfl fun a hF => nt <| c_cond hF rfl (fun h4 => ?_) (fun h4 => ?_)
  · refine wp_skip ?_
    refine tN <| sq <| wp_block <| wp_region_lit <| mv hF rfl rfl fun a hF => mv hF rfl rfl fun a hF => st hF (g_indexAddr ty_ar_23 hF rfl rfl rfl (by omega)) rfl fun a hF => st hF (g_loadAgg ty_ag_22 hF rfl (hM.row 0 rfl) (by simp only [sz0] <;> omega) (planeC_row (gk) (by omega) (by omega) (by omega))) rfl fun a hF => stR hF (d_call Try.call37 hF (.cons rfl .nil) (toByteA6_ok (M (gk)) _)) rfl ?_;rintro _ w' a ⟨hx, rfl⟩ hF;have hM := hM.ext hx;refine st hF (g_indexAddr ty_ar_23 hF rfl rfl rfl (by omega)) rfl fun a hF => stN hF (d_storeAgg 2 hM rfl ty_sz_22 hF rfl rfl (by first | exact vecC_one | exact cells_one | (refine fnC_one fun _ _ => ?_; first | rfl | (split <;> rfl))) (by simp only [sz0]) (by simp only [sz0] <;> omega) (planeC_put (gk) (by omega) (by omega))) ?_;intro _ w' a hM hF;change Mem w w' [some (b1, planeC M), some (b2, fnC 36 (fun _ => .int .u8 (0))), some (b3, planeC (fun a k => if a = gk then ((M (gk))) k else ((fun j k => if j < gk then M j k else 0)) a k))] [] at hM;refine wpList_nil <| iN <| tN <| wp_region_lit <| mv hF rfl rfl fun a hF => st hF (g_add hF rfl rfl (add_nat (gk) (1) (by omega))) rfl fun a hF => ag hF rfl rfl fun a hF => nt <| ⟨gk + 1, ⟨by omega, trivial, hF.sub _ (by repeat' constructor), ?_⟩, by omega⟩;refine hM.rowc 2 rfl (fnC_congr fun c hc => congrArg (Value.int .u8) (congrArg Nat.cast ?_))
    by_cases e1 : c / 6 = gk
    · simp [e1]
    · have e0 : (c / 6 < gk + 1) = (c / 6 < gk) := by apply propext; omega
      simp [e0, e1]
  obtain rfl : 6 = gk := by omega
  have hM := hM.rowc (cs' := planeC M) 2 rfl (fnC_congr fun c hc => by simp [show c / 6 < 6 by omega]);refine wp_exit <| tX <| tX <| ib_same <| tN <| sr <| st hF (g_loadAgg ty_ag_23 hF rfl (hM.row 2 rfl) (by simp only [sz0] <;> omega) (whole (by simp only [sz0]))) rfl fun a hF => stN hF (d_storeAgg 1 hM rfl ty_sz_23 hF rfl rfl (by first | exact vecC_one | exact cells_one | (refine fnC_one fun _ _ => ?_; first | rfl | (split <;> rfl))) (by simp only [sz0]) (by simp only [sz0] <;> omega) (splice_whole _ _ (by simp only [sz0]))) ?_;intro _ w' a hM hF;change Mem w w' [some (b1, planeC M), some (b2, planeC M), some (b3, planeC M)] [] at hM;refine nt <| wp_ret <| fin1 rfl hF.defers (res_agg ty_ag_23 hF rfl (hM.row 1 rfl) (by simp only [sz0])) ⟨_, rfl, hM.below, ?_⟩
  show _ = _
  rfl
theorem eqVector_ok (v u : Nat → Nat) (w : World)  :
    CallsR Try.prog 16 #[.agg (vecC v), .agg (vecC u)] w (fun res _ => res = .bool (decide (eqV 6 v u))) := by
  refine calls_fr [.agg (vecC v), .agg (vecC u)] Try.func16 rfl Try.ntmps16 rfl fun a hF => ?_;have hM : Mem w w [none, none] [] := MemX.start w 2;change Fr 17 a [(0, .agg (vecC v)), (1, .agg (vecC u))] at hF;refine sr <| stR hF (d_box 0 hM hF rfl) rfl ?_;rintro _ w' a ⟨b1, rfl, hM, -⟩ hF;refine stR hF (d_box 1 hM hF rfl) rfl ?_;rintro _ w' a ⟨b2, rfl, hM, -⟩ hF;refine ag hF rfl rfl fun a hF => nt <| sq <| sr <| ag hF rfl rfl fun a hF => nt <| wp_block ?_;change Mem w _ [some (b1, vecC v), some (b2, vecC u)] [] at hM;refine c_loop (fun (kk : Nat) a w' => kk ≤ 6 ∧ (∀ i, i < kk → v i = u i) ∧ Fr 17 a [(2, ptr b1 (0)), (3, ptr b2 (0)), (5, .int .i64 (kk : Int))] ∧ Mem w w' [some (b1, vecC v), some (b2, vecC u)] []) (fun kk => 6 - kk) 0 ?_ ?_
  · refine ⟨by omega, fun i hi => absurd hi (by omega), hF.sub _ (by repeat' constructor), ?_⟩
    exact hM
  clear hF hM;rintro gk a w' ⟨hgk, hinv1, hF, hM⟩;refine sq <| sr <| mv hF rfl rfl fun a hF => st hF (g_lss hF rfl rfl) rfl fun a hF => nt <| c_cond hF rfl (fun h3 => ?_) (fun h3 => ?_)
  · refine wp_skip ?_
    refine tN <| sq <| wp_block <| sq <| c_par 6 [] [.val (.int .i64 (gk : Int)), .val (ptr b1 (0 + (gk) * 1)), .val (.int .u8 ((v (gk) : Int))), .val (.int .i64 (gk : Int)), .val (ptr b2 (0 + (gk) * 1)), .val (.int .u8 ((u (gk) : Int)))] hmix rfl hF rfl hM ⟨fun a w gG hF hS hd => by exact pmv hS rfl hF rfl, fun a w gG hF hS hd => by have hF := hF.ext1 10 (hd 0 rfl rfl); exact par_val hS rfl (g_indexAddr ty_ar_37 hF rfl rfl rfl (by omega)), fun a w gG hF hS hd => by have hF := hF.ext1 11 (hd 1 rfl rfl); have hM := hS.mem rfl; exact par_val hS rfl (g_load ty_on_5 hF rfl (hM.row 0 rfl) (vecC_get (gk) (by omega) (by omega))), fun a w gG hF hS hd => by exact pmv hS rfl hF rfl, fun a w gG hF hS hd => by have hF := hF.ext1 13 (hd 3 rfl rfl); exact par_val hS rfl (g_indexAddr ty_ar_37 hF rfl rfl rfl (by omega)), fun a w gG hF hS hd => by have hF := hF.ext1 14 (hd 4 rfl rfl); have hM := hS.mem rfl; exact par_val hS rfl (g_load ty_on_5 hF rfl (hM.row 1 rfl) (vecC_get (gk) (by omega) (by omega))), trivial⟩ ?_;intro a w' L hF hS hq;have hF := hF.ext1 10 (hq 0 rfl rfl);have hF := hF.ext1 11 (hq 1 rfl rfl);have hF := hF.ext1 12 (hq 2 rfl rfl);have hF := hF.ext1 13 (hq 3 rfl rfl);have hF := hF.ext1 14 (hq 4 rfl rfl);have hF := hF.ext1 15 (hq 5 rfl rfl);have hM := hS.mem rfl;change wpList Try.prog _ _ [_] _ _;refine st hF (g_neq hF rfl rfl) rfl fun a hF => nt <| c_cond hF rfl (fun h4 => ?_) (fun h4 => ?_)
    · refine sq ?_
      refine wp_region_lit <| ag hF rfl rfl fun a hF => nt <| wp_ret <| iR <| tR <| tR <| iR <| tR <| fin1 rfl hF.defers (res_tmp hF rfl) ⟨_, rfl, hM.below, ?_⟩
      show _ = _
      exact bool_f (fun hq => by have := hq gk (by omega); omega)
    refine wp_skip <| iN <| tN <| wp_region_lit <| mv hF rfl rfl fun a hF => st hF (g_add hF rfl rfl (add_nat (gk) (1) (by omega))) rfl fun a hF => ag hF rfl rfl fun a hF => nt <| ⟨gk + 1, ⟨by omega, allS hinv1 (by omega), hF.sub _ (by repeat' constructor), ?_⟩, by omega⟩;exact hM
  obtain rfl : 6 = gk := by omega
  refine wp_exit <| tX <| tX <| ib_same <| tN <| sr <| ag hF rfl rfl fun a hF => nt <| wp_ret <| fin1 rfl hF.defers (res_tmp hF rfl) ⟨_, rfl, hM.below, ?_⟩
  show _ = _
  exact bool_t hinv1
def eqM (M N : Nat → Nat → Nat) : Prop := ∀ j, j < 6 → eqV 6 (M j) (N j)
instance (M N : Nat → Nat → Nat) : Decidable (eqM M N) := Nat.decidableBallLT 6 _
def eqT (T U : Nat → Nat → Nat → Nat) : Prop := ∀ i, i < 6 → eqM (T i) (U i)
instance (T U : Nat → Nat → Nat → Nat) : Decidable (eqT T U) := Nat.decidableBallLT 6 _




def addM (p : Nat) (v u : Nat → Nat) (x i : Nat) : Nat := (v i + x * u i) % p


end Go.Proofs.Ytogjafbjafnlbaa
