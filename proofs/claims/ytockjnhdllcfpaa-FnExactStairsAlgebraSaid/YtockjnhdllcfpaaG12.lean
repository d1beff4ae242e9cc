/- What functions of the program return, as walks over their operations; no statement of the seat is proved here. -/
import Derived.Test.YtockjnhdllcfpaaSw21
import Derived.Test.YtockjnhdllcfpaaChecked
set_option linter.unusedVariables false
set_option linter.unusedSimpArgs false
namespace Go.Proofs.Ytockjnhdllcfpaa
open Go Go.RowKit Go.Sw
theorem hmix : Try.prog.follows .mixedOrders = true := by kernel_rfl
def sumTo (f : Nat → Nat) : Nat → Nat
  | 0 => 0
  | m + 1 => sumTo f m + f m
def prodI (T : Nat → Nat → Nat → Nat) (v u : Nat → Nat) (n i c : Nat) : Nat := sumTo (fun i => sumTo (fun j => v i * u j * T i j c) n) i
def timesV (p n : Nat) (T : Nat → Nat → Nat → Nat) (v u : Nat → Nat) (c : Nat) : Nat := prodI T v u n n c % p
theorem whole {c : Array Value} {n : Nat} (h : c.size = n) : c.extract 0 (0 + n) = c := by subst h; simp
def mtx (k : Nat) : ByteArray := ⟨#[109, UInt8.ofNat (48 + k)]⟩
def nmS (i : Nat) : ByteArray := match i with
  | 0 => ⟨#[102, 105, 101, 108, 100]⟩
  | 1 => ⟨#[100, 117, 97, 108]⟩
  | 2 => ⟨#[112, 97, 105, 114]⟩
  | 3 => ⟨#[99, 121, 99, 108, 105, 99, 51]⟩
  | 4 => ⟨#[115, 121, 109, 109, 101, 116, 114, 105, 99]⟩
  | _ => ⟨#[109, 97, 116, 114, 105, 120]⟩
theorem ty_ze_26 : zeroP Try.prog 26 = some (.agg (fnC 6 (fun _ => .int .u8 (0)))) := by kernel_rfl
theorem ty_ar_26 : arrOf Try.prog 26 = some (6, 1) := by kernel_rfl
theorem ty_on_5 : oneP Try.prog 5 = true := by kernel_rfl
theorem ty_ag_26 : aggP Try.prog 26 = some 6 := by kernel_rfl
theorem ty_sz_26 : sizeP Try.prog 26 = some 6 := by kernel_rfl
theorem ty_si_22 : slI Try.prog 22 = some (2, some (.int .i64 (0)), 1, 8) := by kernel_rfl
theorem ty_ar_23 : arrOf Try.prog 23 = some (6, 1) := by kernel_rfl
theorem ty_ar_24 : arrOf Try.prog 24 = some (6, 6) := by kernel_rfl
theorem ty_ag_23 : aggP Try.prog 23 = some 6 := by kernel_rfl
theorem ty_ar_25 : arrOf Try.prog 25 = some (6, 36) := by kernel_rfl
theorem ty_ag_24 : aggP Try.prog 24 = some 36 := by kernel_rfl
theorem ty_fo_28_0 : fieldOff Try.prog 28 0 = some 0 := by kernel_rfl
theorem ty_on_2 : oneP Try.prog 2 = true := by kernel_rfl
theorem ty_fo_28_1 : fieldOff Try.prog 28 1 = some 1 := by kernel_rfl
theorem ty_fo_28_2 : fieldOff Try.prog 28 2 = some 2 := by kernel_rfl
theorem ty_ag_25 : aggP Try.prog 25 = some 216 := by kernel_rfl
theorem ty_fo_28_3 : fieldOff Try.prog 28 3 = some 218 := by kernel_rfl
theorem basisVector_ok (i : Nat) (w : World) (hi : i < 6) :
    CallsR Try.prog 57 #[.int .i64 (i : Int)] w (fun res _ => res = .agg (vecC (fun c => if c = i then 1 else 0))) := by
  refine calls_fr [.int .i64 (i : Int)] Try.func57 rfl Try.ntmps57 rfl fun a hF => ?_;have hM : Mem w w [none, none] [] := MemX.start w 2;change Fr 7 a [(0, .int .i64 (i : Int))] at hF;refine sr <| stR hF (d_alloc 0 hM ty_ze_26) rfl ?_;rintro _ w' a ⟨b1, rfl, hM, -⟩ hF;refine ns <| stR hF (d_alloc 1 hM ty_ze_26) rfl ?_;rintro _ w' a ⟨b2, rfl, hM, -⟩ hF;change Mem w w' [some (b1, fnC 6 (fun _ => .int .u8 (0))), some (b2, fnC 6 (fun _ => .int .u8 (0)))] [] at hM;refine ns <| mv hF rfl rfl fun a hF => st hF (g_indexAddr ty_ar_26 hF rfl rfl rfl (by omega)) rfl fun a hF => stN hF (d_store 1 hM rfl ty_on_5 hF rfl rfl rfl (by first | omega | (simp only [sz0] <;> omega) | (simp only [Array.size_setIfInBounds]; omega) | simp)) ?_;intro _ w' a hM hF;rw [show (fnC 6 (fun x => .int .u8 (0))).setIfInBounds (0 + (i) * 1) (.int .u8 (1)) = fnC 6 (fun x => .int .u8 (((if x = i then 1 else 0) : Nat) : Int)) from fnC_set (fun x _ => by rw [show 0 + (i) * 1 = i by omega]; by_cases hh : x = i <;> simp [hh])] at hM;change Mem w w' [some (b1, fnC 6 (fun _ => .int .u8 (0))), some (b2, fnC 6 (fun x => .int .u8 (((if x = i then 1 else 0) : Nat) : Int)))] [] at hM;refine ns <| st hF (g_loadAgg ty_ag_26 hF rfl (hM.row 1 rfl) (by simp only [sz0] <;> omega) (whole (by simp only [sz0]))) rfl fun a hF => stN hF (d_storeAgg 0 hM rfl ty_sz_26 hF rfl rfl (by first | exact vecC_one | exact cells_one | (refine fnC_one fun _ _ => ?_; first | rfl | (split <;> rfl))) (by simp only [sz0]) (by simp only [sz0] <;> omega) (splice_whole _ _ (by simp only [sz0]))) ?_;intro _ w' a hM hF;change Mem w w' [some (b1, fnC 6 (fun x => .int .u8 (((if x = i then 1 else 0) : Nat) : Int))), some (b2, fnC 6 (fun x => .int .u8 (((if x = i then 1 else 0) : Nat) : Int)))] [] at hM;refine nt <| wp_ret <| fin1 rfl hF.defers (res_agg ty_ag_26 hF rfl (hM.row 0 rfl) (by simp only [sz0])) ⟨_, rfl, hM.below, ?_⟩
  show _ = _
  rfl
def primeP (x : Int) : Prop := x = 2 ∨ x = 3 ∨ x = 5 ∨ x = 7 ∨ x = 11 ∨ x = 13
instance (x : Int) : Decidable (primeP x) := by unfold primeP; infer_instance
def okN (p n : Int) (x i : Nat) : Prop := ¬ ((x : Int) ≥ p ∨ ((i : Int) ≥ n ∧ x ≠ 0))
instance (p n : Int) (x i : Nat) : Decidable (okN p n x i) := by unfold okN; infer_instance
def okV (p n : Int) (v : Nat → Nat) : Prop := ∀ i, i < 6 → okN p n (v i) i
instance (p n : Int) (v : Nat → Nat) : Decidable (okV p n v) := Nat.decidableBallLT 6 _
theorem bool_t {p : Prop} [Decidable p] (h : p) : Value.bool true = Value.bool (decide p) := by simp [h]
theorem bool_f {p : Prop} [Decidable p] (h : ¬ p) : Value.bool false = Value.bool (decide p) := by simp [h]

theorem isPrime_ok (x : Int) (w : World)  :
    CallsR Try.prog 51 #[.int .i64 (x)] w (fun res _ => res = .bool (decide (primeP x))) := by
  refine calls_fr [.int .i64 (x)] Try.func51 rfl Try.ntmps51 rfl fun a hF => ?_;have hM : Mem w w [] [] := MemX.start w 0;change Fr 11 a [(0, .int .i64 (x))] at hF;refine sr <| ag hF rfl rfl fun a hF => nt <| sq <| sr <| mv hF rfl rfl fun a hF => nt <| wp_block <| sq <| sr <| st hF (g_eql hF rfl rfl) rfl fun a hF => ag hF rfl rfl fun a hF => nt <| c_cond hF rfl (fun h1 => ?_) (fun h1 => ?_)
  · refine wp_skip ?_
    refine tN <| c_kT hF rfl h1 <| sr <| ag hF rfl rfl fun a hF => nt <| wp_ret <| iR <| tR <| fin1 rfl hF.defers (res_tmp hF rfl) ⟨_, rfl, hM.below, ?_⟩
    show _ = _
    first | exact congrArg Value.bool (decide_eq_true (by unfold primeP; omega)).symm | exact congrArg Value.bool (decide_eq_false (by unfold primeP; omega)).symm | exact congrArg Value.bool (decide_eq_decide.2 (by unfold primeP; omega))
  refine sr <| st hF (g_eql hF rfl rfl) rfl fun a hF => ag hF rfl rfl fun a hF => nt <| c_cond hF rfl (fun h3 => ?_) (fun h3 => ?_)
  · refine wp_skip ?_
    refine tN <| c_kT hF rfl h3 <| sr <| ag hF rfl rfl fun a hF => nt <| wp_ret <| iR <| tR <| fin1 rfl hF.defers (res_tmp hF rfl) ⟨_, rfl, hM.below, ?_⟩
    show _ = _
    first | exact congrArg Value.bool (decide_eq_true (by unfold primeP; omega)).symm | exact congrArg Value.bool (decide_eq_false (by unfold primeP; omega)).symm | exact congrArg Value.bool (decide_eq_decide.2 (by unfold primeP; omega))
  refine sr <| st hF (g_eql hF rfl rfl) rfl fun a hF => ag hF rfl rfl fun a hF => nt <| c_cond hF rfl (fun h5 => ?_) (fun h5 => ?_)
  · refine wp_skip ?_
    refine tN <| c_kT hF rfl h5 <| sr <| ag hF rfl rfl fun a hF => nt <| wp_ret <| iR <| tR <| fin1 rfl hF.defers (res_tmp hF rfl) ⟨_, rfl, hM.below, ?_⟩
    show _ = _
    first | exact congrArg Value.bool (decide_eq_true (by unfold primeP; omega)).symm | exact congrArg Value.bool (decide_eq_false (by unfold primeP; omega)).symm | exact congrArg Value.bool (decide_eq_decide.2 (by unfold primeP; omega))
  refine sr <| st hF (g_eql hF rfl rfl) rfl fun a hF => ag hF rfl rfl fun a hF => nt <| c_cond hF rfl (fun h7 => ?_) (fun h7 => ?_)
  · refine wp_skip ?_
    refine tN <| c_kT hF rfl h7 <| sr <| ag hF rfl rfl fun a hF => nt <| wp_ret <| iR <| tR <| fin1 rfl hF.defers (res_tmp hF rfl) ⟨_, rfl, hM.below, ?_⟩
    show _ = _
    first | exact congrArg Value.bool (decide_eq_true (by unfold primeP; omega)).symm | exact congrArg Value.bool (decide_eq_false (by unfold primeP; omega)).symm | exact congrArg Value.bool (decide_eq_decide.2 (by unfold primeP; omega))
  refine sr <| st hF (g_eql hF rfl rfl) rfl fun a hF => ag hF rfl rfl fun a hF => nt <| c_cond hF rfl (fun h9 => ?_) (fun h9 => ?_)
  · refine wp_skip ?_
    refine tN <| c_kT hF rfl h9 <| sr <| ag hF rfl rfl fun a hF => nt <| wp_ret <| iR <| tR <| fin1 rfl hF.defers (res_tmp hF rfl) ⟨_, rfl, hM.below, ?_⟩
    show _ = _
    first | exact congrArg Value.bool (decide_eq_true (by unfold primeP; omega)).symm | exact congrArg Value.bool (decide_eq_false (by unfold primeP; omega)).symm | exact congrArg Value.bool (decide_eq_decide.2 (by unfold primeP; omega))
  refine wp_region_lit <| st hF (g_eql hF rfl rfl) rfl fun a hF => ag hF rfl rfl fun a hF => nt <| c_cond hF rfl (fun h11 => ?_) (fun h11 => ?_)
  · refine sq ?_
    refine wp_region_lit <| ag hF rfl rfl fun a hF => nt <| wp_ret <| iR <| tR <| fin1 rfl hF.defers (res_tmp hF rfl) ⟨_, rfl, hM.below, ?_⟩
    show _ = _
    first | exact congrArg Value.bool (decide_eq_true (by unfold primeP; omega)).symm | exact congrArg Value.bool (decide_eq_false (by unfold primeP; omega)).symm | exact congrArg Value.bool (decide_eq_decide.2 (by unfold primeP; omega))
  refine wp_skip <| iN <| tN <| sr <| ag hF rfl rfl fun a hF => nt <| wp_ret <| fin1 rfl hF.defers (res_tmp hF rfl) ⟨_, rfl, hM.below, ?_⟩
  show _ = _
  first | exact congrArg Value.bool (decide_eq_true (by unfold primeP; omega)).symm | exact congrArg Value.bool (decide_eq_false (by unfold primeP; omega)).symm | exact congrArg Value.bool (decide_eq_decide.2 (by unfold primeP; omega))
theorem l01Prime_ok (x : Int) (w : World)  :
    CallsR Try.prog 48 #[.int .i64 (x)] w (fun res _ => res = .bool (decide (primeP x))) := by
  refine calls_fr [.int .i64 (x)] Try.func48 rfl Try.ntmps48 rfl fun a hF => ?_;have hM : Mem w w [] [] := MemX.start w 0;change Fr 25 a [(0, .int .i64 (x))] at hF;refine sr <| ag hF rfl rfl fun a hF => ns <| mv hF rfl rfl fun a hF => st hF (g_eql hF rfl rfl) rfl fun a hF => mv hF rfl rfl fun a hF => ?_
  by_cases g1 : (x : Int) = 2
  · first | rw [decide_eq_true g1] at hF | simp only [decide_eq_true g1] at hF
    refine stS hF rfl rfl rfl rfl rfl fun a hF => stS hF rfl rfl rfl rfl rfl fun a hF => st hF (g_pickT hF rfl rfl) rfl fun a hF => mv hF rfl rfl fun a hF => stS hF rfl rfl rfl rfl rfl fun a hF => stS hF rfl rfl rfl rfl rfl fun a hF => st hF (g_pickT hF rfl rfl) rfl fun a hF => mv hF rfl rfl fun a hF => stS hF rfl rfl rfl rfl rfl fun a hF => stS hF rfl rfl rfl rfl rfl fun a hF => st hF (g_pickT hF rfl rfl) rfl fun a hF => mv hF rfl rfl fun a hF => stS hF rfl rfl rfl rfl rfl fun a hF => stS hF rfl rfl rfl rfl rfl fun a hF => st hF (g_pickT hF rfl rfl) rfl fun a hF => mv hF rfl rfl fun a hF => stS hF rfl rfl rfl rfl rfl fun a hF => stS hF rfl rfl rfl rfl rfl fun a hF => st hF (g_pickT hF rfl rfl) rfl fun a hF => ag hF rfl rfl fun a hF => nt <| wp_ret <| fin1 rfl hF.defers (res_tmp hF rfl) ⟨_, rfl, hM.below, ?_⟩
    show _ = _
    first | exact congrArg Value.bool (decide_eq_true (by unfold primeP; omega)).symm | exact congrArg Value.bool (decide_eq_false (by unfold primeP; omega)).symm | exact congrArg Value.bool (decide_eq_decide.2 (by unfold primeP; omega))
  first | rw [decide_eq_false g1] at hF | simp only [decide_eq_false g1] at hF
  refine stY hF rfl rfl rfl (g_move hF rfl) rfl fun a hF => stY hF rfl rfl rfl (g_eql hF rfl rfl) rfl fun a hF => st hF (g_pickF hF rfl rfl) rfl fun a hF => mv hF rfl rfl fun a hF => ?_
  by_cases g2 : (x : Int) = 3
  · first | rw [decide_eq_true g2] at hF | simp only [decide_eq_true g2] at hF
    refine stS hF rfl rfl rfl rfl rfl fun a hF => stS hF rfl rfl rfl rfl rfl fun a hF => st hF (g_pickT hF rfl rfl) rfl fun a hF => mv hF rfl rfl fun a hF => stS hF rfl rfl rfl rfl rfl fun a hF => stS hF rfl rfl rfl rfl rfl fun a hF => st hF (g_pickT hF rfl rfl) rfl fun a hF => mv hF rfl rfl fun a hF => stS hF rfl rfl rfl rfl rfl fun a hF => stS hF rfl rfl rfl rfl rfl fun a hF => st hF (g_pickT hF rfl rfl) rfl fun a hF => mv hF rfl rfl fun a hF => stS hF rfl rfl rfl rfl rfl fun a hF => stS hF rfl rfl rfl rfl rfl fun a hF => st hF (g_pickT hF rfl rfl) rfl fun a hF => ag hF rfl rfl fun a hF => nt <| wp_ret <| fin1 rfl hF.defers (res_tmp hF rfl) ⟨_, rfl, hM.below, ?_⟩
    show _ = _
    first | exact congrArg Value.bool (decide_eq_true (by unfold primeP; omega)).symm | exact congrArg Value.bool (decide_eq_false (by unfold primeP; omega)).symm | exact congrArg Value.bool (decide_eq_decide.2 (by unfold primeP; omega))
  first | rw [decide_eq_false g2] at hF | simp only [decide_eq_false g2] at hF
  refine stY hF rfl rfl rfl (g_move hF rfl) rfl fun a hF => stY hF rfl rfl rfl (g_eql hF rfl rfl) rfl fun a hF => st hF (g_pickF hF rfl rfl) rfl fun a hF => mv hF rfl rfl fun a hF => ?_
  by_cases g3 : (x : Int) = 5
  · first | rw [decide_eq_true g3] at hF | simp only [decide_eq_true g3] at hF
    refine stS hF rfl rfl rfl rfl rfl fun a hF => stS hF rfl rfl rfl rfl rfl fun a hF => st hF (g_pickT hF rfl rfl) rfl fun a hF => mv hF rfl rfl fun a hF => stS hF rfl rfl rfl rfl rfl fun a hF => stS hF rfl rfl rfl rfl rfl fun a hF => st hF (g_pickT hF rfl rfl) rfl fun a hF => mv hF rfl rfl fun a hF => stS hF rfl rfl rfl rfl rfl fun a hF => stS hF rfl rfl rfl rfl rfl fun a hF => st hF (g_pickT hF rfl rfl) rfl fun a hF => ag hF rfl rfl fun a hF => nt <| wp_ret <| fin1 rfl hF.defers (res_tmp hF rfl) ⟨_, rfl, hM.below, ?_⟩
    show _ = _
    first | exact congrArg Value.bool (decide_eq_true (by unfold primeP; omega)).symm | exact congrArg Value.bool (decide_eq_false (by unfold primeP; omega)).symm | exact congrArg Value.bool (decide_eq_decide.2 (by unfold primeP; omega))
  first | rw [decide_eq_false g3] at hF | simp only [decide_eq_false g3] at hF
  refine stY hF rfl rfl rfl (g_move hF rfl) rfl fun a hF => stY hF rfl rfl rfl (g_eql hF rfl rfl) rfl fun a hF => st hF (g_pickF hF rfl rfl) rfl fun a hF => mv hF rfl rfl fun a hF => ?_
  by_cases g4 : (x : Int) = 7
  · first | rw [decide_eq_true g4] at hF | simp only [decide_eq_true g4] at hF
    refine stS hF rfl rfl rfl rfl rfl fun a hF => stS hF rfl rfl rfl rfl rfl fun a hF => st hF (g_pickT hF rfl rfl) rfl fun a hF => mv hF rfl rfl fun a hF => stS hF rfl rfl rfl rfl rfl fun a hF => stS hF rfl rfl rfl rfl rfl fun a hF => st hF (g_pickT hF rfl rfl) rfl fun a hF => ag hF rfl rfl fun a hF => nt <| wp_ret <| fin1 rfl hF.defers (res_tmp hF rfl) ⟨_, rfl, hM.below, ?_⟩
    show _ = _
    first | exact congrArg Value.bool (decide_eq_true (by unfold primeP; omega)).symm | exact congrArg Value.bool (decide_eq_false (by unfold primeP; omega)).symm | exact congrArg Value.bool (decide_eq_decide.2 (by unfold primeP; omega))
  first | rw [decide_eq_false g4] at hF | simp only [decide_eq_false g4] at hF
  refine stY hF rfl rfl rfl (g_move hF rfl) rfl fun a hF => stY hF rfl rfl rfl (g_eql hF rfl rfl) rfl fun a hF => st hF (g_pickF hF rfl rfl) rfl fun a hF => mv hF rfl rfl fun a hF => ?_
  by_cases g5 : (x : Int) = 11
  · first | rw [decide_eq_true g5] at hF | simp only [decide_eq_true g5] at hF
    refine stS hF rfl rfl rfl rfl rfl fun a hF => stS hF rfl rfl rfl rfl rfl fun a hF => st hF (g_pickT hF rfl rfl) rfl fun a hF => ag hF rfl rfl fun a hF => nt <| wp_ret <| fin1 rfl hF.defers (res_tmp hF rfl) ⟨_, rfl, hM.below, ?_⟩
    show _ = _
    first | exact congrArg Value.bool (decide_eq_true (by unfold primeP; omega)).symm | exact congrArg Value.bool (decide_eq_false (by unfold primeP; omega)).symm | exact congrArg Value.bool (decide_eq_decide.2 (by unfold primeP; omega))
  first | rw [decide_eq_false g5] at hF | simp only [decide_eq_false g5] at hF
  refine stY hF rfl rfl rfl (g_move hF rfl) rfl fun a hF => stY hF rfl rfl rfl (g_eql hF rfl rfl) rfl fun a hF => st hF (g_pickF hF rfl rfl) rfl fun a hF => ag hF rfl rfl fun a hF => nt <| wp_ret <| fin1 rfl hF.defers (res_tmp hF rfl) ⟨_, rfl, hM.below, ?_⟩
  show _ = _
  first | exact congrArg Value.bool (decide_eq_true (by unfold primeP; omega)).symm | exact congrArg Value.bool (decide_eq_false (by unfold primeP; omega)).symm | exact congrArg Value.bool (decide_eq_decide.2 (by unfold primeP; omega))
theorem l01In_ok (x lo hi : Int) (w : World)  :
    CallsR Try.prog 40 #[.int .i64 (x), .int .i64 (lo), .int .i64 (hi)] w (fun res _ => res = .bool (decide (lo ≤ x ∧ x ≤ hi))) := by
  refine calls_fr [.int .i64 (x), .int .i64 (lo), .int .i64 (hi)] Try.func40 rfl Try.ntmps40 rfl fun a hF => ?_;have hM : Mem w w [] [] := MemX.start w 0;change Fr 15 a [(0, .int .i64 (x)), (1, .int .i64 (lo)), (2, .int .i64 (hi))] at hF;refine sr <| ag hF rfl rfl fun a hF => ns <| mv hF rfl rfl fun a hF => mv hF rfl rfl fun a hF => st hF (g_geq hF rfl rfl) rfl fun a hF => mv hF rfl rfl fun a hF => ?_
  by_cases g1 : lo ≤ (x : Int)
  · first | rw [decide_eq_true g1] at hF | simp only [decide_eq_true g1] at hF
    refine stY hF rfl rfl rfl (g_move hF rfl) rfl fun a hF => stY hF rfl rfl rfl (g_move hF rfl) rfl fun a hF => stY hF rfl rfl rfl (g_leq hF rfl rfl) rfl fun a hF => st hF (g_pickT hF rfl rfl) rfl fun a hF => ag hF rfl rfl fun a hF => nt <| wp_ret <| fin1 rfl hF.defers (res_tmp hF rfl) ⟨_, rfl, hM.below, ?_⟩
    show _ = _
    first | exact congrArg Value.bool (decide_eq_true (by omega)).symm | exact congrArg Value.bool (decide_eq_false (by omega)).symm | exact congrArg Value.bool (decide_eq_decide.2 (by omega))
  first | rw [decide_eq_false g1] at hF | simp only [decide_eq_false g1] at hF
  refine stS hF rfl rfl rfl rfl rfl fun a hF => stS hF rfl rfl rfl rfl rfl fun a hF => stS hF rfl rfl rfl rfl rfl fun a hF => st hF (g_pickF hF rfl rfl) rfl fun a hF => ag hF rfl rfl fun a hF => nt <| wp_ret <| fin1 rfl hF.defers (res_tmp hF rfl) ⟨_, rfl, hM.below, ?_⟩
  show _ = _
  first | exact congrArg Value.bool (decide_eq_true (by omega)).symm | exact congrArg Value.bool (decide_eq_false (by omega)).symm | exact congrArg Value.bool (decide_eq_decide.2 (by omega))
def timesS (p n : Nat) (T : Nat → Nat → Nat → Nat) (v u : Nat → Nat) (c : Nat) : Nat := if c < n then timesV p n T v u c else 0
def invN (x p : Nat) : Nat := ((List.range p).find? (fun c => c * x % p == 1)).getD 0
def okE (p n : Int) (T : Nat → Nat → Nat → Nat) (i j : Nat) : Prop := ¬ ((¬ ((i : Int) < n ∧ (j : Int) < n) ∧ ¬ eqV 6 (T i j) (fun _ => 0)) ∨ ¬ okV p n (T i j))
instance (p n : Int) (T : Nat → Nat → Nat → Nat) (i j : Nat) : Decidable (okE p n T i j) := by unfold okE; infer_instance
def all2 (m : Nat) (q : Nat → Nat → Prop) : Prop := ∀ i, i < m → ∀ j, j < m → q i j
instance (m : Nat) (q : Nat → Nat → Prop) [∀ i j, Decidable (q i j)] : Decidable (all2 m q) := by unfold all2; exact Nat.decidableBallLT m _
theorem allS {q : Nat → Prop} {k : Nat} (h : ∀ i, i < k → q i) (hk : q k) : ∀ i, i < k + 1 → q i := fun i hi => by
  by_cases e : i = k
  · subst e; exact hk
  · exact h i (by omega)
def okS2 (p n : Int) (T : Nat → Nat → Nat → Nat) (i j : Nat) : Prop := okV p (if (i : Int) ≥ n ∨ (j : Int) ≥ n then 0 else n) (T i j)
instance (p n : Int) (T : Nat → Nat → Nat → Nat) (i j : Nat) : Decidable (okS2 p n T i j) := by unfold okS2; infer_instance
def shapeP (p n : Int) (T : Nat → Nat → Nat → Nat) (f : Nat → Nat) : Prop := primeP p ∧ (1 ≤ n ∧ n ≤ 6) ∧ okV p n f ∧ all2 6 (okS2 p n T)
instance (p n : Int) (T : Nat → Nat → Nat → Nat) (f : Nat → Nat) : Decidable (shapeP p n T f) := by unfold shapeP; infer_instance



def e1 (i : Nat) : Nat → Nat := fun c => if c = i then 1 else 0
def asT (p n : Nat) (T : Nat → Nat → Nat → Nat) (i j k : Nat) : Prop := eqV 6 (timesV p n T (T i j) (fun c => if c = k then 1 else 0)) (timesV p n T (fun c => if c = i then 1 else 0) (T j k))
instance (p n : Nat) (T : Nat → Nat → Nat → Nat) (i j k : Nat) : Decidable (asT p n T i j k) := by unfold asT; infer_instance
def asJ (p n : Nat) (T : Nat → Nat → Nat → Nat) (j : Nat) : Prop := ∀ i, i < n → ∀ k, k < n → asT p n T i j k
instance (p n : Nat) (T : Nat → Nat → Nat → Nat) (j : Nat) : Decidable (asJ p n T j) := by unfold asJ; exact Nat.decidableBallLT n _
def cntA (p n : Nat) (T : Nat → Nat → Nat → Nat) (g : Nat) : Nat := sumTo (fun j => if asJ p n T j then 1 else 0) g
def asP (p n : Nat) (T : Nat → Nat → Nat → Nat) : Prop := ∀ j, j < n → asJ p n T j
instance (p n : Nat) (T : Nat → Nat → Nat → Nat) : Decidable (asP p n T) := Nat.decidableBallLT n _
def lessN (p : Nat) (f h : Nat → Nat) (x i : Nat) : Int := ((f i : Int) - (x : Int) * (h i : Int)) % (p : Int)


def addN (p : Nat) (f h : Nat → Nat) (x : Int) (i : Nat) : Nat := (((f i : Int) + x * (h i : Int)) % (p : Int)).toNat
theorem eqByteA6_ok (v u : Nat → Nat) (w : World)  :
    CallsR Try.prog 63 #[.agg (vecC v), .agg (vecC u)] w (fun res _ => res = .bool (decide (eqV 6 v u))) := by
  refine calls_fr [.agg (vecC v), .agg (vecC u)] Try.func63 rfl Try.ntmps63 rfl fun a hF => ?_;have hM : Mem w w [none, none] [] := MemX.start w 2;change Fr 17 a [(0, .agg (vecC v)), (1, .agg (vecC u))] at hF;refine sr <| stR hF (d_box 0 hM hF rfl) rfl ?_;rintro _ w' a ⟨b1, rfl, hM, -⟩ hF;refine stR hF (d_box 1 hM hF rfl) rfl ?_;rintro _ w' a ⟨b2, rfl, hM, -⟩ hF;refine ag hF rfl rfl fun a hF => nt <| sq <| sr <| ag hF rfl rfl fun a hF => nt <| wp_block ?_;change Mem w _ [some (b1, vecC v), some (b2, vecC u)] [] at hM;refine c_loop (fun (kk : Nat) a w' => kk ≤ 6 ∧ (∀ i, i < kk → v i = u i) ∧ Fr 17 a [(2, ptr b1 (0)), (3, ptr b2 (0)), (5, .int .i64 (kk : Int))] ∧ Mem w w' [some (b1, vecC v), some (b2, vecC u)] []) (fun kk => 6 - kk) 0 ?_ ?_
  · refine ⟨by omega, fun i hi => absurd hi (by omega), hF.sub _ (by repeat' constructor), ?_⟩
    exact hM
  clear hF hM;rintro gk a w' ⟨hgk, hinv1, hF, hM⟩;refine sq <| sr <| mv hF rfl rfl fun a hF => st hF (g_lss hF rfl rfl) rfl fun a hF => nt <| c_cond hF rfl (fun h3 => ?_) (fun h3 => ?_)
  · refine wp_skip ?_
    refine tN <| sq <| wp_block <| sq <| c_par 6 [] [.val (.int .i64 (gk : Int)), .val (ptr b1 (0 + (gk) * 1)), .val (.int .u8 ((v (gk) : Int))), .val (.int .i64 (gk : Int)), .val (ptr b2 (0 + (gk) * 1)), .val (.int .u8 ((u (gk) : Int)))] hmix rfl hF rfl hM ⟨fun a w gG hF hS hd => by exact pmv hS rfl hF rfl, fun a w gG hF hS hd => by have hF := hF.ext1 10 (hd 0 rfl rfl); exact par_val hS rfl (g_indexAddr ty_ar_23 hF rfl rfl rfl (by omega)), fun a w gG hF hS hd => by have hF := hF.ext1 11 (hd 1 rfl rfl); have hM := hS.mem rfl; exact par_val hS rfl (g_load ty_on_5 hF rfl (hM.row 0 rfl) (vecC_get (gk) (by omega) (by omega))), fun a w gG hF hS hd => by exact pmv hS rfl hF rfl, fun a w gG hF hS hd => by have hF := hF.ext1 13 (hd 3 rfl rfl); exact par_val hS rfl (g_indexAddr ty_ar_23 hF rfl rfl rfl (by omega)), fun a w gG hF hS hd => by have hF := hF.ext1 14 (hd 4 rfl rfl); have hM := hS.mem rfl; exact par_val hS rfl (g_load ty_on_5 hF rfl (hM.row 1 rfl) (vecC_get (gk) (by omega) (by omega))), trivial⟩ ?_;intro a w' L hF hS hq;have hF := hF.ext1 10 (hq 0 rfl rfl);have hF := hF.ext1 11 (hq 1 rfl rfl);have hF := hF.ext1 12 (hq 2 rfl rfl);have hF := hF.ext1 13 (hq 3 rfl rfl);have hF := hF.ext1 14 (hq 4 rfl rfl);have hF := hF.ext1 15 (hq 5 rfl rfl);have hM := hS.mem rfl;change wpList Try.prog _ _ [_] _ _;refine st hF (g_neq hF rfl rfl) rfl fun a hF => nt <| c_cond hF rfl (fun h4 => ?_) (fun h4 => ?_)
    · refine sq ?_
      refine wp_region_lit <| ag hF rfl rfl fun a hF => nt <| wp_ret <| iR <| tR <| tR <| iR <| tR <| fin1 rfl hF.defers (res_tmp hF rfl) ⟨_, rfl, hM.below, ?_⟩
      show _ = _
      exact bool_f (fun hq => by have := hq gk (by omega); omega)
    refine wp_skip <| iN <| tN <| wp_region_lit <| mv hF rfl rfl fun a hF => st hF (g_add hF rfl rfl (add_nat (gk) (1) (by omega))) rfl fun a hF => ag hF rfl rfl fun a hF => nt <| ⟨gk + 1, ⟨by omega, allS hinv1 (by omega), hF.sub _ (by repeat' constructor), ?_⟩, by omega⟩;exact hM
  obtain rfl : 6 = gk := by omega
  refine wp_exit <| tX <| tX <| ib_same <| tN <| sr <| ag hF rfl rfl fun a hF => nt <| wp_ret <| fin1 rfl hF.defers (res_tmp hF rfl) ⟨_, rfl, hM.below, ?_⟩
  show _ = _
  exact bool_t hinv1
theorem eqVector_ok (v u : Nat → Nat) (w : World)  :
    CallsR Try.prog 37 #[.agg (vecC v), .agg (vecC u)] w (fun res _ => res = .bool (decide (eqV 6 v u))) := by
  refine calls_fr [.agg (vecC v), .agg (vecC u)] Try.func37 rfl Try.ntmps37 rfl fun a hF => ?_;have hM : Mem w w [none, none] [] := MemX.start w 2;change Fr 17 a [(0, .agg (vecC v)), (1, .agg (vecC u))] at hF;refine sr <| stR hF (d_box 0 hM hF rfl) rfl ?_;rintro _ w' a ⟨b1, rfl, hM, -⟩ hF;refine stR hF (d_box 1 hM hF rfl) rfl ?_;rintro _ w' a ⟨b2, rfl, hM, -⟩ hF;refine ag hF rfl rfl fun a hF => nt <| sq <| sr <| ag hF rfl rfl fun a hF => nt <| wp_block ?_;change Mem w _ [some (b1, vecC v), some (b2, vecC u)] [] at hM;refine c_loop (fun (kk : Nat) a w' => kk ≤ 6 ∧ (∀ i, i < kk → v i = u i) ∧ Fr 17 a [(2, ptr b1 (0)), (3, ptr b2 (0)), (5, .int .i64 (kk : Int))] ∧ Mem w w' [some (b1, vecC v), some (b2, vecC u)] []) (fun kk => 6 - kk) 0 ?_ ?_
  · refine ⟨by omega, fun i hi => absurd hi (by omega), hF.sub _ (by repeat' constructor), ?_⟩
    exact hM
  clear hF hM;rintro gk a w' ⟨hgk, hinv1, hF, hM⟩;refine sq <| sr <| mv hF rfl rfl fun a hF => st hF (g_lss hF rfl rfl) rfl fun a hF => nt <| c_cond hF rfl (fun h3 => ?_) (fun h3 => ?_)
  · refine wp_skip ?_
    refine tN <| sq <| wp_block <| sq <| c_par 6 [] [.val (.int .i64 (gk : Int)), .val (ptr b1 (0 + (gk) * 1)), .val (.int .u8 ((v (gk) : Int))), .val (.int .i64 (gk : Int)), .val (ptr b2 (0 + (gk) * 1)), .val (.int .u8 ((u (gk) : Int)))] hmix rfl hF rfl hM ⟨fun a w gG hF hS hd => by exact pmv hS rfl hF rfl, fun a w gG hF hS hd => by have hF := hF.ext1 10 (hd 0 rfl rfl); exact par_val hS rfl (g_indexAddr ty_ar_26 hF rfl rfl rfl (by omega)), fun a w gG hF hS hd => by have hF := hF.ext1 11 (hd 1 rfl rfl); have hM := hS.mem rfl; exact par_val hS rfl (g_load ty_on_5 hF rfl (hM.row 0 rfl) (vecC_get (gk) (by omega) (by omega))), fun a w gG hF hS hd => by exact pmv hS rfl hF rfl, fun a w gG hF hS hd => by have hF := hF.ext1 13 (hd 3 rfl rfl); exact par_val hS rfl (g_indexAddr ty_ar_26 hF rfl rfl rfl (by omega)), fun a w gG hF hS hd => by have hF := hF.ext1 14 (hd 4 rfl rfl); have hM := hS.mem rfl; exact par_val hS rfl (g_load ty_on_5 hF rfl (hM.row 1 rfl) (vecC_get (gk) (by omega) (by omega))), trivial⟩ ?_;intro a w' L hF hS hq;have hF := hF.ext1 10 (hq 0 rfl rfl);have hF := hF.ext1 11 (hq 1 rfl rfl);have hF := hF.ext1 12 (hq 2 rfl rfl);have hF := hF.ext1 13 (hq 3 rfl rfl);have hF := hF.ext1 14 (hq 4 rfl rfl);have hF := hF.ext1 15 (hq 5 rfl rfl);have hM := hS.mem rfl;change wpList Try.prog _ _ [_] _ _;refine st hF (g_neq hF rfl rfl) rfl fun a hF => nt <| c_cond hF rfl (fun h4 => ?_) (fun h4 => ?_)
    · refine sq ?_
      refine wp_region_lit <| ag hF rfl rfl fun a hF => nt <| wp_ret <| iR <| tR <| tR <| iR <| tR <| fin1 rfl hF.defers (res_tmp hF rfl) ⟨_, rfl, hM.below, ?_⟩
      show _ = _
      exact bool_f (fun hq => by have := hq gk (by omega); omega)
    refine wp_skip <| iN <| tN <| wp_region_lit <| mv hF rfl rfl fun a hF => st hF (g_add hF rfl rfl (add_nat (gk) (1) (by omega))) rfl fun a hF => ag hF rfl rfl fun a hF => nt <| ⟨gk + 1, ⟨by omega, allS hinv1 (by omega), hF.sub _ (by repeat' constructor), ?_⟩, by omega⟩;exact hM
  obtain rfl : 6 = gk := by omega
  refine wp_exit <| tX <| tX <| ib_same <| tN <| sr <| ag hF rfl rfl fun a hF => nt <| wp_ret <| fin1 rfl hF.defers (res_tmp hF rfl) ⟨_, rfl, hM.below, ?_⟩
  show _ = _
  exact bool_t hinv1
def eqM (M N : Nat → Nat → Nat) : Prop := ∀ j, j < 6 → eqV 6 (M j) (N j)
instance (M N : Nat → Nat → Nat) : Decidable (eqM M N) := Nat.decidableBallLT 6 _
def eqT (T U : Nat → Nat → Nat → Nat) : Prop := ∀ i, i < 6 → eqM (T i) (U i)
instance (T U : Nat → Nat → Nat → Nat) : Decidable (eqT T U) := Nat.decidableBallLT 6 _

theorem eqByteA6A6_ok (M N : Nat → Nat → Nat) (w : World)  :
    CallsR Try.prog 58 #[.agg (planeC M), .agg (planeC N)] w (fun res _ => res = .bool (decide (eqM M N))) := by
  refine calls_fr [.agg (planeC M), .agg (planeC N)] Try.func58 rfl Try.ntmps58 rfl fun a hF => ?_;have hM : Mem w w [none, none] [] := MemX.start w 2;change Fr 18 a [(0, .agg (planeC M)), (1, .agg (planeC N))] at hF;refine sr <| stR hF (d_box 0 hM hF rfl) rfl ?_;rintro _ w' a ⟨b1, rfl, hM, -⟩ hF;refine stR hF (d_box 1 hM hF rfl) rfl ?_;rintro _ w' a ⟨b2, rfl, hM, -⟩ hF;refine ag hF rfl rfl fun a hF => nt <| sq <| sr <| ag hF rfl rfl fun a hF => nt <| wp_block ?_;change Mem w _ [some (b1, planeC M), some (b2, planeC N)] [] at hM;refine c_loop (fun (kk : Nat) a w' => kk ≤ 6 ∧ (∀ i, i < kk → eqV 6 (M i) (N i)) ∧ Fr 18 a [(2, ptr b1 (0)), (3, ptr b2 (0)), (5, .int .i64 (kk : Int))] ∧ Mem w w' [some (b1, planeC M), some (b2, planeC N)] []) (fun kk => 6 - kk) 0 ?_ ?_
  · refine ⟨by omega, fun i hi => absurd hi (by omega), hF.sub _ (by repeat' constructor), ?_⟩
    exact hM
  clear hF hM;rintro gk a w' ⟨hgk, hinv1, hF, hM⟩;refine sq <| sr <| mv hF rfl rfl fun a hF => st hF (g_lss hF rfl rfl) rfl fun a hF => nt <| c_cond hF rfl (fun h3 => ?_) (fun h3 => ?_)
  · refine wp_skip ?_
    refine tN <| sq <| wp_block <| sq <| c_par 6 [] [.val (.int .i64 (gk : Int)), .val (ptr b1 (0 + (gk) * 6)), .val (.agg (vecC (M (gk)))), .val (.int .i64 (gk : Int)), .val (ptr b2 (0 + (gk) * 6)), .val (.agg (vecC (N (gk))))] hmix rfl hF rfl hM ⟨fun a w gG hF hS hd => by exact pmv hS rfl hF rfl, fun a w gG hF hS hd => by have hF := hF.ext1 10 (hd 0 rfl rfl); exact par_val hS rfl (g_indexAddr ty_ar_24 hF rfl rfl rfl (by omega)), fun a w gG hF hS hd => by have hF := hF.ext1 11 (hd 1 rfl rfl); have hM := hS.mem rfl; exact par_val hS rfl (g_loadAgg ty_ag_23 hF rfl (hM.row 0 rfl) (by simp only [sz0] <;> omega) (planeC_row (gk) (by omega) (by omega) (by omega))), fun a w gG hF hS hd => by exact pmv hS rfl hF rfl, fun a w gG hF hS hd => by have hF := hF.ext1 13 (hd 3 rfl rfl); exact par_val hS rfl (g_indexAddr ty_ar_24 hF rfl rfl rfl (by omega)), fun a w gG hF hS hd => by have hF := hF.ext1 14 (hd 4 rfl rfl); have hM := hS.mem rfl; exact par_val hS rfl (g_loadAgg ty_ag_23 hF rfl (hM.row 1 rfl) (by simp only [sz0] <;> omega) (planeC_row (gk) (by omega) (by omega) (by omega))), trivial⟩ ?_;intro a w' L hF hS hq;have hF := hF.ext1 10 (hq 0 rfl rfl);have hF := hF.ext1 11 (hq 1 rfl rfl);have hF := hF.ext1 12 (hq 2 rfl rfl);have hF := hF.ext1 13 (hq 3 rfl rfl);have hF := hF.ext1 14 (hq 4 rfl rfl);have hF := hF.ext1 15 (hq 5 rfl rfl);have hM := hS.mem rfl;change wpList Try.prog _ _ [_, _] _ _;refine stR hF (d_call Try.call63 hF (.cons rfl (.cons rfl .nil)) (eqByteA6_ok (M (gk)) (N (gk)) _)) rfl ?_;rintro _ w' a ⟨hx, rfl⟩ hF;have hM := hM.ext hx;refine st hF (g_notP hF rfl) rfl fun a hF => nt <| c_cond hF rfl (fun h4 => ?_) (fun h4 => ?_)
    · refine sq ?_
      refine wp_region_lit <| ag hF rfl rfl fun a hF => nt <| wp_ret <| iR <| tR <| tR <| iR <| tR <| fin1 rfl hF.defers (res_tmp hF rfl) ⟨_, rfl, hM.below, ?_⟩
      show _ = _
      exact bool_f (fun hq => (by assumption : ¬ _) (hq gk (by omega)))
    refine wp_skip <| iN <| tN <| wp_region_lit <| mv hF rfl rfl fun a hF => st hF (g_add hF rfl rfl (add_nat (gk) (1) (by omega))) rfl fun a hF => ag hF rfl rfl fun a hF => nt <| ⟨gk + 1, ⟨by omega, allS hinv1 (Decidable.not_not.1 (by assumption)), hF.sub _ (by repeat' constructor), ?_⟩, by omega⟩;exact hM
  obtain rfl : 6 = gk := by omega
  refine wp_exit <| tX <| tX <| ib_same <| tN <| sr <| ag hF rfl rfl fun a hF => nt <| wp_ret <| fin1 rfl hF.defers (res_tmp hF rfl) ⟨_, rfl, hM.below, ?_⟩
  show _ = _
  exact bool_t hinv1
theorem eqByteA6A6A6_ok (M N : Nat → Nat → Nat → Nat) (w : World)  :
    CallsR Try.prog 36 #[.agg (tabC M), .agg (tabC N)] w (fun res _ => res = .bool (decide (eqT M N))) := by
  refine calls_fr [.agg (tabC M), .agg (tabC N)] Try.func36 rfl Try.ntmps36 rfl fun a hF => ?_;have hM : Mem w w [none, none] [] := MemX.start w 2;change Fr 18 a [(0, .agg (tabC M)), (1, .agg (tabC N))] at hF;refine sr <| stR hF (d_box 0 hM hF rfl) rfl ?_;rintro _ w' a ⟨b1, rfl, hM, -⟩ hF;refine stR hF (d_box 1 hM hF rfl) rfl ?_;rintro _ w' a ⟨b2, rfl, hM, -⟩ hF;refine ag hF rfl rfl fun a hF => nt <| sq <| sr <| ag hF rfl rfl fun a hF => nt <| wp_block ?_;change Mem w _ [some (b1, tabC M), some (b2, tabC N)] [] at hM;refine c_loop (fun (kk : Nat) a w' => kk ≤ 6 ∧ (∀ i, i < kk → eqM (M i) (N i)) ∧ Fr 18 a [(2, ptr b1 (0)), (3, ptr b2 (0)), (5, .int .i64 (kk : Int))] ∧ Mem w w' [some (b1, tabC M), some (b2, tabC N)] []) (fun kk => 6 - kk) 0 ?_ ?_
  · refine ⟨by omega, fun i hi => absurd hi (by omega), hF.sub _ (by repeat' constructor), ?_⟩
    exact hM
  clear hF hM;rintro gk a w' ⟨hgk, hinv1, hF, hM⟩;refine sq <| sr <| mv hF rfl rfl fun a hF => st hF (g_lss hF rfl rfl) rfl fun a hF => nt <| c_cond hF rfl (fun h3 => ?_) (fun h3 => ?_)
  · refine wp_skip ?_
    refine tN <| sq <| wp_block <| sq <| c_par 6 [] [.val (.int .i64 (gk : Int)), .val (ptr b1 (0 + (gk) * 36)), .val (.agg (planeC (M (gk)))), .val (.int .i64 (gk : Int)), .val (ptr b2 (0 + (gk) * 36)), .val (.agg (planeC (N (gk))))] hmix rfl hF rfl hM ⟨fun a w gG hF hS hd => by exact pmv hS rfl hF rfl, fun a w gG hF hS hd => by have hF := hF.ext1 10 (hd 0 rfl rfl); exact par_val hS rfl (g_indexAddr ty_ar_25 hF rfl rfl rfl (by omega)), fun a w gG hF hS hd => by have hF := hF.ext1 11 (hd 1 rfl rfl); have hM := hS.mem rfl; exact par_val hS rfl (g_loadAgg ty_ag_24 hF rfl (hM.row 0 rfl) (by simp only [sz0] <;> omega) (tabC_plane (gk) (by omega) (by omega) (by omega))), fun a w gG hF hS hd => by exact pmv hS rfl hF rfl, fun a w gG hF hS hd => by have hF := hF.ext1 13 (hd 3 rfl rfl); exact par_val hS rfl (g_indexAddr ty_ar_25 hF rfl rfl rfl (by omega)), fun a w gG hF hS hd => by have hF := hF.ext1 14 (hd 4 rfl rfl); have hM := hS.mem rfl; exact par_val hS rfl (g_loadAgg ty_ag_24 hF rfl (hM.row 1 rfl) (by simp only [sz0] <;> omega) (tabC_plane (gk) (by omega) (by omega) (by omega))), trivial⟩ ?_;intro a w' L hF hS hq;have hF := hF.ext1 10 (hq 0 rfl rfl);have hF := hF.ext1 11 (hq 1 rfl rfl);have hF := hF.ext1 12 (hq 2 rfl rfl);have hF := hF.ext1 13 (hq 3 rfl rfl);have hF := hF.ext1 14 (hq 4 rfl rfl);have hF := hF.ext1 15 (hq 5 rfl rfl);have hM := hS.mem rfl;change wpList Try.prog _ _ [_, _] _ _;refine stR hF (d_call Try.call58 hF (.cons rfl (.cons rfl .nil)) (eqByteA6A6_ok (M (gk)) (N (gk)) _)) rfl ?_;rintro _ w' a ⟨hx, rfl⟩ hF;have hM := hM.ext hx;refine st hF (g_notP hF rfl) rfl fun a hF => nt <| c_cond hF rfl (fun h4 => ?_) (fun h4 => ?_)
    · refine sq ?_
      refine wp_region_lit <| ag hF rfl rfl fun a hF => nt <| wp_ret <| iR <| tR <| tR <| iR <| tR <| fin1 rfl hF.defers (res_tmp hF rfl) ⟨_, rfl, hM.below, ?_⟩
      show _ = _
      exact bool_f (fun hq => (by assumption : ¬ _) (hq gk (by omega)))
    refine wp_skip <| iN <| tN <| wp_region_lit <| mv hF rfl rfl fun a hF => st hF (g_add hF rfl rfl (add_nat (gk) (1) (by omega))) rfl fun a hF => ag hF rfl rfl fun a hF => nt <| ⟨gk + 1, ⟨by omega, allS hinv1 (Decidable.not_not.1 (by assumption)), hF.sub _ (by repeat' constructor), ?_⟩, by omega⟩;exact hM
  obtain rfl : 6 = gk := by omega
  refine wp_exit <| tX <| tX <| ib_same <| tN <| sr <| ag hF rfl rfl fun a hF => nt <| wp_ret <| fin1 rfl hF.defers (res_tmp hF rfl) ⟨_, rfl, hM.below, ?_⟩
  show _ = _
  exact bool_t hinv1
theorem eqAlgebra_ok (p n q m : Int) (T U : Nat → Nat → Nat → Nat) (f u : Nat → Nat) (w : World)  :
    CallsR Try.prog 13 #[.agg (algC p n T f), .agg (algC q m U u)] w (fun res _ => res = .bool (decide (p = q ∧ n = m ∧ eqT T U ∧ eqV 6 f u))) := by
  refine calls_fr [.agg (algC p n T f), .agg (algC q m U u)] Try.func13 rfl Try.ntmps13 rfl fun a hF => ?_;have hM : Mem w w [none, none] [] := MemX.start w 2;change Fr 27 a [(0, .agg (algC p n T f)), (1, .agg (algC q m U u))] at hF;refine sr <| stR hF (d_box 0 hM hF rfl) rfl ?_;rintro _ w' a ⟨b1, rfl, hM, -⟩ hF;refine stR hF (d_box 1 hM hF rfl) rfl ?_;rintro _ w' a ⟨b2, rfl, hM, -⟩ hF;change Mem w w' [some (b1, algC p n T f), some (b2, algC q m U u)] [] at hM;refine ag hF rfl rfl fun a hF => nt <| sq <| sr <| st hF (g_fieldAddr ty_fo_28_0 hF rfl) rfl fun a hF => st hF (g_load ty_on_2 hF rfl (hM.row 0 rfl) (algC_p (by omega))) rfl fun a hF => st hF (g_fieldAddr ty_fo_28_0 hF rfl) rfl fun a hF => st hF (g_load ty_on_2 hF rfl (hM.row 1 rfl) (algC_p (by omega))) rfl fun a hF => st hF (g_neq hF rfl rfl) rfl fun a hF => nt <| c_cond hF rfl (fun h3 => ?_) (fun h3 => ?_)
  · refine sq ?_
    refine wp_region_lit <| ag hF rfl rfl fun a hF => nt <| wp_ret <| tR <| fin1 rfl hF.defers (res_tmp hF rfl) ⟨_, rfl, hM.below, ?_⟩
    show _ = _
    exact bool_f (fun hq => (by assumption : _ ≠ _) hq.1)
  refine wp_skip <| tN <| sq <| sr <| st hF (g_fieldAddr ty_fo_28_1 hF rfl) rfl fun a hF => st hF (g_load ty_on_2 hF rfl (hM.row 0 rfl) (algC_n (by omega))) rfl fun a hF => st hF (g_fieldAddr ty_fo_28_1 hF rfl) rfl fun a hF => st hF (g_load ty_on_2 hF rfl (hM.row 1 rfl) (algC_n (by omega))) rfl fun a hF => st hF (g_neq hF rfl rfl) rfl fun a hF => nt <| c_cond hF rfl (fun h4 => ?_) (fun h4 => ?_)
  · refine sq ?_
    refine wp_region_lit <| ag hF rfl rfl fun a hF => nt <| wp_ret <| tR <| fin1 rfl hF.defers (res_tmp hF rfl) ⟨_, rfl, hM.below, ?_⟩
    show _ = _
    exact bool_f (fun hq => (by assumption : _ ≠ _) hq.2.1)
  refine wp_skip <| tN <| sq <| sr <| st hF (g_fieldAddr ty_fo_28_2 hF rfl) rfl fun a hF => st hF (g_loadAgg ty_ag_25 hF rfl (hM.row 0 rfl) (by simp only [sz0] <;> omega) (algC_tab (by omega) (by omega))) rfl fun a hF => st hF (g_fieldAddr ty_fo_28_2 hF rfl) rfl fun a hF => st hF (g_loadAgg ty_ag_25 hF rfl (hM.row 1 rfl) (by simp only [sz0] <;> omega) (algC_tab (by omega) (by omega))) rfl fun a hF => stR hF (d_call Try.call36 hF (.cons rfl (.cons rfl .nil)) (eqByteA6A6A6_ok T U _)) rfl ?_;rintro _ w' a ⟨hx, rfl⟩ hF;have hM := hM.ext hx;refine st hF (g_notP hF rfl) rfl fun a hF => nt <| c_cond hF rfl (fun h5 => ?_) (fun h5 => ?_)
  · refine sq ?_
    refine wp_region_lit <| ag hF rfl rfl fun a hF => nt <| wp_ret <| tR <| fin1 rfl hF.defers (res_tmp hF rfl) ⟨_, rfl, hM.below, ?_⟩
    show _ = _
    exact bool_f (fun hq => (by assumption : ¬ eqT T U) hq.2.2.1)
  refine wp_skip <| tN <| sq <| sr <| st hF (g_fieldAddr ty_fo_28_3 hF rfl) rfl fun a hF => st hF (g_loadAgg ty_ag_26 hF rfl (hM.row 0 rfl) (by simp only [sz0] <;> omega) (algC_form (by omega) (by omega))) rfl fun a hF => st hF (g_fieldAddr ty_fo_28_3 hF rfl) rfl fun a hF => st hF (g_loadAgg ty_ag_26 hF rfl (hM.row 1 rfl) (by simp only [sz0] <;> omega) (algC_form (by omega) (by omega))) rfl fun a hF => stR hF (d_call Try.call37 hF (.cons rfl (.cons rfl .nil)) (eqVector_ok f u _)) rfl ?_;rintro _ w' a ⟨hx, rfl⟩ hF;have hM := hM.ext hx;refine st hF (g_notP hF rfl) rfl fun a hF => nt <| c_cond hF rfl (fun h6 => ?_) (fun h6 => ?_)
  · refine sq ?_
    refine wp_region_lit <| ag hF rfl rfl fun a hF => nt <| wp_ret <| tR <| fin1 rfl hF.defers (res_tmp hF rfl) ⟨_, rfl, hM.below, ?_⟩
    show _ = _
    exact bool_f (fun hq => (by assumption : ¬ eqV 6 f u) hq.2.2.2)
  refine wp_skip <| tN <| sr <| ag hF rfl rfl fun a hF => nt <| wp_ret <| fin1 rfl hF.defers (res_tmp hF rfl) ⟨_, rfl, hM.below, ?_⟩
  show _ = _
  exact bool_t ⟨by omega, by omega, Decidable.not_not.1 (by assumption), Decidable.not_not.1 (by assumption)⟩
def addM (p : Nat) (v u : Nat → Nat) (x i : Nat) : Nat := (v i + x * u i) % p


end Go.Proofs.Ytockjnhdllcfpaa
