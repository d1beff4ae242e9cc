/- What functions of the program return, as walks over their operations; no statement of the seat is proved here. -/
import Derived.Test.YthoelkijoenkpaaT3
import Derived.Test.YthoelkijoenkpaaT1
set_option linter.unusedVariables false
set_option linter.unusedSimpArgs false
namespace Go.Proofs.Ythoelkijoenkpaa
open Go Go.RowKit Go.Sw Go.Ech
open Classical
theorem ty_bu_24 : ∀ w, (Instr.build 24 #[]).run Try.prog w = .ok (.agg (tenC 0 0 0 0 (.slice none 0 0))) w := by intros; kernel_rfl
def dgF (W j c : Nat) : Nat := if c % (W + 1) = 0 ∧ c / (W + 1) < j then 1 else 0
theorem dg_step {W i c : Nat} : (if c = i * W + i then 1 else dgF W i c) = dgF W (i + 1) c := by
  have e1 : i * W + i = (W + 1) * i := by rw [Nat.add_mul, Nat.mul_comm]; omega
  unfold dgF
  by_cases e : c = i * W + i
  · rw [if_pos e, if_pos]; rw [e, e1]; exact ⟨Nat.mul_mod_right _ _, by rw [Nat.mul_div_cancel_left _ (by omega)]; omega⟩
  · rw [if_neg e]
    by_cases h : c % (W + 1) = 0
    · have h1 := Nat.div_add_mod c (W + 1)
      have h2 : c / (W + 1) ≠ i := fun h3 => e (by rw [h3, h] at h1; omega);have h4 : (c / (W + 1) < i + 1) = (c / (W + 1) < i) := by apply propext; omega
      simp only [h4]
    · rw [if_neg (fun q => h q.1), if_neg (fun q => h q.1)]
theorem dg_0 {W c : Nat} : dgF W 0 c = 0 := by unfold dgF; rw [if_neg (fun h => Nat.not_lt_zero _ h.2)]
theorem idx_bd {n k i : Nat} (h : i < n ^ k) : i * n ^ k + n ^ k ≤ n ^ (k + k) := by
  rw [Nat.pow_add, ← Nat.succ_mul]; exact Nat.mul_le_mul_right _ h
theorem half_le {n k : Nat} (hn : 0 < n) (h : n ^ (k + k) ≤ 1296) : n ^ k ≤ 1296 := Nat.le_trans (Nat.pow_le_pow_right hn (by omega)) h
theorem wl_of {n i o : Nat} (hn : 0 < n) (h : ¬ 8 < (i : Int)) (h1 : ¬ 8 < (o : Int)) (h2 : ¬ 1296 < ((pwr n (i + o) 1 : Nat) : Int)) : wl n i o := ⟨by omega, by omega, (pwr_iff hn).1 (by omega)⟩
theorem wl_not {n i o : Nat} (hn : 0 < n) (h : 8 < (i : Int) ∨ 8 < (o : Int) ∨ 1296 < ((pwr n (i + o) 1 : Nat) : Int)) : ¬ wl n i o := fun hw => by
  have := (pwr_iff hn).2 hw.2.2
  have h1 := hw.1; have h2 := hw.2.1
  omega

theorem l03Sizes_A (p n i o : Int) (w : World) (hA : ¬ (primeP p ∧ 1 ≤ n ∧ n ≤ 6)) :
    CallsR Try.prog 21 #[.int .i64 (p), .int .i64 (n), .int .i64 (i), .int .i64 (o)] w (fun res _ => res = .int .i64 2) := by
  refine calls_fr [.int .i64 (p), .int .i64 (n), .int .i64 (i), .int .i64 (o)] Try.func21 rfl Try.ntmps21 rfl fun a hF => ?_;have hM : Mem w w [] [] := MemX.start w 0;change Fr 33 a [(0, .int .i64 (p)), (1, .int .i64 (n)), (2, .int .i64 (i)), (3, .int .i64 (o))] at hF;refine sr <| ag hF rfl rfl fun a hF => nt <| sq <| wp_block <| sr <| mv hF rfl rfl fun a hF => stR hF (d_call Try.call39 hF (.cons rfl .nil) (l01Prime_ok (p) _)) rfl ?_;rintro _ w' a ⟨hx, rfl⟩ hF;have hM := hM.ext hx;refine st hF (g_notP hF rfl) rfl fun a hF => mv hF rfl rfl fun a hF => ?_
  by_cases g1 : ¬ (primeP (p))
  · first | rw [decide_eq_true g1] at hF | simp only [decide_eq_true g1] at hF
    refine stS hF rfl rfl rfl rfl rfl fun a hF => stS hF rfl rfl rfl rfl rfl fun a hF => stS hF rfl rfl rfl rfl rfl fun a hF => st hF (g_pickT hF rfl rfl) rfl fun a hF => ag hF rfl rfl fun a hF => nt <| c_T hF rfl <| sr <| ag hF rfl rfl fun a hF => nt <| wp_ret <| iR <| tR <| fin1 rfl hF.defers (res_tmp hF rfl) ⟨_, rfl, hM.below, ?_⟩
    show _ = _
    rfl
  first | rw [decide_eq_false g1] at hF | simp only [decide_eq_false g1] at hF
  refine stY hF rfl rfl rfl (g_move hF rfl) rfl fun a hF => stYR hF rfl rfl rfl (d_call Try.call40 hF (.cons rfl (.cons rfl (.cons rfl .nil))) (l01In_ok (n) (1) (6) _)) rfl ?_;rintro _ w' a ⟨hx, rfl⟩ hF;have hM := hM.ext hx;refine stY hF rfl rfl rfl (g_notP hF rfl) rfl fun a hF => st hF (g_pickF hF rfl rfl) rfl fun a hF => ag hF rfl rfl fun a hF => nt <| c_cond hF rfl (fun h3 => ?_) (fun h3 => ?_)
  · refine sq ?_
    refine wp_region_lit <| ag hF rfl rfl fun a hF => nt <| wp_ret <| iR <| tR <| fin1 rfl hF.defers (res_tmp hF rfl) ⟨_, rfl, hM.below, ?_⟩
    show _ = _
    rfl
  exact absurd ⟨Decidable.not_not.1 (by assumption), by omega, by omega⟩ hA
theorem l03Sizes_ok (p : Int) (n i o : Nat) (w : World) (hp : primeP p) (hn0 : 0 < n) (hn : n ≤ 6) (hi : i < 400) (ho : o < 400) :
    CallsR Try.prog 21 #[.int .i64 (p), .int .i64 (n : Int), .int .i64 (i : Int), .int .i64 (o : Int)] w (fun res _ => res = .int .i64 (if wl n i o then 0 else 3)) := by
  refine calls_fr [.int .i64 (p), .int .i64 (n : Int), .int .i64 (i : Int), .int .i64 (o : Int)] Try.func21 rfl Try.ntmps21 rfl fun a hF => ?_;have hM : Mem w w [] [] := MemX.start w 0;change Fr 33 a [(0, .int .i64 (p)), (1, .int .i64 (n : Int)), (2, .int .i64 (i : Int)), (3, .int .i64 (o : Int))] at hF;refine sr <| ag hF rfl rfl fun a hF => nt <| sq <| wp_block <| sr <| mv hF rfl rfl fun a hF => stR hF (d_call Try.call39 hF (.cons rfl .nil) (l01Prime_ok (p) _)) rfl ?_;rintro _ w' a ⟨hx, rfl⟩ hF;have hM := hM.ext hx;refine st hF (g_notP hF rfl) rfl fun a hF => mv hF rfl rfl fun a hF => ?_
  by_cases g1 : ¬ (primeP (p))
  · first | rw [decide_eq_true g1] at hF | simp only [decide_eq_true g1] at hF
    refine stS hF rfl rfl rfl rfl rfl fun a hF => stS hF rfl rfl rfl rfl rfl fun a hF => stS hF rfl rfl rfl rfl rfl fun a hF => st hF (g_pickT hF rfl rfl) rfl fun a hF => ag hF rfl rfl fun a hF => nt <| c_T hF rfl <| sr <| ag hF rfl rfl fun a hF => nt <| wp_ret <| iR <| tR <| fin1 rfl hF.defers (res_tmp hF rfl) ⟨_, rfl, hM.below, ?_⟩
    show _ = _
    exfalso; first | exact absurd hp (by assumption) | omega
  first | rw [decide_eq_false g1] at hF | simp only [decide_eq_false g1] at hF
  refine stY hF rfl rfl rfl (g_move hF rfl) rfl fun a hF => stYR hF rfl rfl rfl (d_call Try.call40 hF (.cons rfl (.cons rfl (.cons rfl .nil))) (l01In_ok (n : Int) (1) (6) _)) rfl ?_;rintro _ w' a ⟨hx, rfl⟩ hF;have hM := hM.ext hx;refine stY hF rfl rfl rfl (g_notP hF rfl) rfl fun a hF => st hF (g_pickF hF rfl rfl) rfl fun a hF => ag hF rfl rfl fun a hF => nt <| c_cond hF rfl (fun h3 => ?_) (fun h3 => ?_)
  · refine sq ?_
    refine wp_region_lit <| ag hF rfl rfl fun a hF => nt <| wp_ret <| iR <| tR <| fin1 rfl hF.defers (res_tmp hF rfl) ⟨_, rfl, hM.below, ?_⟩
    show _ = _
    exfalso; first | exact absurd hp (by assumption) | omega
  refine sr <| mv hF rfl rfl fun a hF => st hF (g_gtr hF rfl rfl) rfl fun a hF => mv hF rfl rfl fun a hF => ?_
  by_cases g4 : 8 < ((i : Int) : Int)
  · first | rw [decide_eq_true g4] at hF | simp only [decide_eq_true g4] at hF
    refine stS hF rfl rfl rfl rfl rfl fun a hF => stS hF rfl rfl rfl rfl rfl fun a hF => st hF (g_pickT hF rfl rfl) rfl fun a hF => mv hF rfl rfl fun a hF => stS hF rfl rfl rfl rfl rfl fun a hF => stS hF rfl rfl rfl rfl rfl fun a hF => stS hF rfl rfl rfl rfl rfl fun a hF => stS hF rfl rfl rfl rfl rfl fun a hF => stS hF rfl rfl rfl rfl rfl fun a hF => stS hF rfl rfl rfl rfl rfl fun a hF => st hF (g_pickT hF rfl rfl) rfl fun a hF => ag hF rfl rfl fun a hF => nt <| c_T hF rfl <| sr <| ag hF rfl rfl fun a hF => nt <| wp_ret <| iR <| tR <| fin1 rfl hF.defers (res_tmp hF rfl) ⟨_, rfl, hM.below, ?_⟩
    show _ = _
    rw [if_neg (wl_not hn0 (by first | (left; omega) | (right; left; omega) | (right; right; omega)))]
  first | rw [decide_eq_false g4] at hF | simp only [decide_eq_false g4] at hF
  refine stY hF rfl rfl rfl (g_move hF rfl) rfl fun a hF => stY hF rfl rfl rfl (g_gtr hF rfl rfl) rfl fun a hF => st hF (g_pickF hF rfl rfl) rfl fun a hF => mv hF rfl rfl fun a hF => ?_
  by_cases g6 : 8 < ((o : Int) : Int)
  · first | rw [decide_eq_true g6] at hF | simp only [decide_eq_true g6] at hF
    refine stS hF rfl rfl rfl rfl rfl fun a hF => stS hF rfl rfl rfl rfl rfl fun a hF => stS hF rfl rfl rfl rfl rfl fun a hF => stS hF rfl rfl rfl rfl rfl fun a hF => stS hF rfl rfl rfl rfl rfl fun a hF => stS hF rfl rfl rfl rfl rfl fun a hF => st hF (g_pickT hF rfl rfl) rfl fun a hF => ag hF rfl rfl fun a hF => nt <| c_T hF rfl <| sr <| ag hF rfl rfl fun a hF => nt <| wp_ret <| iR <| tR <| fin1 rfl hF.defers (res_tmp hF rfl) ⟨_, rfl, hM.below, ?_⟩
    show _ = _
    rw [if_neg (wl_not hn0 (by first | (left; omega) | (right; left; omega) | (right; right; omega)))]
  first | rw [decide_eq_false g6] at hF | simp only [decide_eq_false g6] at hF
  refine stY hF rfl rfl rfl (g_move hF rfl) rfl fun a hF => stY hF rfl rfl rfl (g_move hF rfl) rfl fun a hF => stY hF rfl rfl rfl (g_move hF rfl) rfl fun a hF => stY hF rfl rfl rfl (g_add hF rfl rfl (add_nat (i) (o) (by omega))) rfl fun a hF => stYR hF rfl rfl rfl (d_call Try.call28 hF (.cons rfl (.cons rfl .nil)) (l03Power_ok (n) (i + o) _ (by omega) (by omega) (by omega))) rfl ?_;rintro _ w' a ⟨hx, rfl⟩ hF;have hM := hM.ext hx;refine stY hF rfl rfl rfl (g_gtr hF rfl rfl) rfl fun a hF => st hF (g_pickF hF rfl rfl) rfl fun a hF => ag hF rfl rfl fun a hF => nt <| c_cond hF rfl (fun h8 => ?_) (fun h8 => ?_)
  · refine sq ?_
    refine wp_region_lit <| ag hF rfl rfl fun a hF => nt <| wp_ret <| iR <| tR <| fin1 rfl hF.defers (res_tmp hF rfl) ⟨_, rfl, hM.below, ?_⟩
    show _ = _
    rw [if_neg (wl_not hn0 (by first | (left; omega) | (right; left; omega) | (right; right; omega)))]
  refine wp_skip <| iN <| tN <| sr <| ag hF rfl rfl fun a hF => nt <| wp_ret <| fin1 rfl hF.defers (res_tmp hF rfl) ⟨_, rfl, hM.below, ?_⟩
  show _ = _
  rw [if_pos (wl_of hn0 (by omega) (by omega) (by omega))]
theorem IdentityTensorIA (p n k : Int) (w : World) (hA : ¬ (primeP p ∧ 1 ≤ n ∧ n ≤ 6 ∧ 0 ≤ k ∧ k ≤ 8)) :
    CallsR Try.prog 23 #[.int .i64 (p), .int .i64 (n), .int .i64 (k)] w (fun res _ => res = .tuple #[.agg (tenC 0 0 0 0 (.slice none 0 0)), .int .i64 2]) := by
  refine calls_fr [.int .i64 (p), .int .i64 (n), .int .i64 (k)] Try.func23 rfl Try.ntmps23 rfl fun a hF => ?_;have hM : Mem w w [none, none, none] [] := MemX.start w 3;change Fr 54 a [(0, .int .i64 (p)), (1, .int .i64 (n)), (2, .int .i64 (k))] at hF;refine sr <| stR hF (d_alloc 0 hM ty_ze_24) rfl ?_;rintro _ w' a ⟨b1, rfl, hM, -⟩ hF;change Mem w w' [some (b1, tenC 0 0 0 0 (.slice none 0 0)), none, none] [] at hM;refine ag hF rfl rfl fun a hF => nt <| sq <| sr <| mv hF rfl rfl fun a hF => stR hF (d_call Try.call41 hF (.cons rfl .nil) (isPrime_ok (p) _)) rfl ?_;rintro _ w' a ⟨hx, rfl⟩ hF;have hM := hM.ext hx;refine st hF (g_notP hF rfl) rfl fun a hF => mv hF rfl rfl fun a hF => ?_
  by_cases g2 : ¬ (primeP (p))
  · first | rw [decide_eq_true g2] at hF | simp only [decide_eq_true g2] at hF
    refine stS hF rfl rfl rfl rfl rfl fun a hF => stS hF rfl rfl rfl rfl rfl fun a hF => st hF (g_pickT hF rfl rfl) rfl fun a hF => mv hF rfl rfl fun a hF => stS hF rfl rfl rfl rfl rfl fun a hF => stS hF rfl rfl rfl rfl rfl fun a hF => st hF (g_pickT hF rfl rfl) rfl fun a hF => mv hF rfl rfl fun a hF => stS hF rfl rfl rfl rfl rfl fun a hF => stS hF rfl rfl rfl rfl rfl fun a hF => st hF (g_pickT hF rfl rfl) rfl fun a hF => mv hF rfl rfl fun a hF => stS hF rfl rfl rfl rfl rfl fun a hF => stS hF rfl rfl rfl rfl rfl fun a hF => st hF (g_pickT hF rfl rfl) rfl fun a hF => nt <| c_T hF rfl <| sr <| st hF (g_build0 ty_bu_24) rfl fun a hF => stN hF (d_storeAgg 0 hM rfl ty_sz_24 hF rfl rfl (tenC_one rfl) (by simp only [sz0, tenC_size, smC_size, numC_size, numI_size]) (by simp only [sz0, tenC_size, smC_size, numC_size, numI_size] <;> omega) (splice_whole _ _ rfl)) ?_;intro _ w' a hM hF;change Mem w w' [some (b1, tenC 0 0 0 0 (.slice none 0 0)), none, none] [] at hM;refine ag hF rfl rfl fun a hF => nt <| wp_ret <| tR <| fin2 rfl hF.defers (res_agg ty_ag_24 hF rfl (hM.row 0 rfl) (by simp only [sz0, tenC_size, smC_size, numC_size, numI_size])) (res_tmp hF rfl) ⟨_, rfl, hM.below, ?_⟩
    show _ = _
    rfl
  first | rw [decide_eq_false g2] at hF | simp only [decide_eq_false g2] at hF
  refine stY hF rfl rfl rfl (g_move hF rfl) rfl fun a hF => stY hF rfl rfl rfl (g_lss hF rfl rfl) rfl fun a hF => st hF (g_pickF hF rfl rfl) rfl fun a hF => mv hF rfl rfl fun a hF => ?_
  by_cases g4 : (n : Int) < 1
  · first | rw [decide_eq_true g4] at hF | simp only [decide_eq_true g4] at hF
    refine stS hF rfl rfl rfl rfl rfl fun a hF => stS hF rfl rfl rfl rfl rfl fun a hF => st hF (g_pickT hF rfl rfl) rfl fun a hF => mv hF rfl rfl fun a hF => stS hF rfl rfl rfl rfl rfl fun a hF => stS hF rfl rfl rfl rfl rfl fun a hF => st hF (g_pickT hF rfl rfl) rfl fun a hF => mv hF rfl rfl fun a hF => stS hF rfl rfl rfl rfl rfl fun a hF => stS hF rfl rfl rfl rfl rfl fun a hF => st hF (g_pickT hF rfl rfl) rfl fun a hF => nt <| c_T hF rfl <| sr <| st hF (g_build0 ty_bu_24) rfl fun a hF => stN hF (d_storeAgg 0 hM rfl ty_sz_24 hF rfl rfl (tenC_one rfl) (by simp only [sz0, tenC_size, smC_size, numC_size, numI_size]) (by simp only [sz0, tenC_size, smC_size, numC_size, numI_size] <;> omega) (splice_whole _ _ rfl)) ?_;intro _ w' a hM hF;change Mem w w' [some (b1, tenC 0 0 0 0 (.slice none 0 0)), none, none] [] at hM;refine ag hF rfl rfl fun a hF => nt <| wp_ret <| tR <| fin2 rfl hF.defers (res_agg ty_ag_24 hF rfl (hM.row 0 rfl) (by simp only [sz0, tenC_size, smC_size, numC_size, numI_size])) (res_tmp hF rfl) ⟨_, rfl, hM.below, ?_⟩
    show _ = _
    rfl
  first | rw [decide_eq_false g4] at hF | simp only [decide_eq_false g4] at hF
  refine stY hF rfl rfl rfl (g_move hF rfl) rfl fun a hF => stY hF rfl rfl rfl (g_gtr hF rfl rfl) rfl fun a hF => st hF (g_pickF hF rfl rfl) rfl fun a hF => mv hF rfl rfl fun a hF => ?_
  by_cases g6 : 6 < (n : Int)
  · first | rw [decide_eq_true g6] at hF | simp only [decide_eq_true g6] at hF
    refine stS hF rfl rfl rfl rfl rfl fun a hF => stS hF rfl rfl rfl rfl rfl fun a hF => st hF (g_pickT hF rfl rfl) rfl fun a hF => mv hF rfl rfl fun a hF => stS hF rfl rfl rfl rfl rfl fun a hF => stS hF rfl rfl rfl rfl rfl fun a hF => st hF (g_pickT hF rfl rfl) rfl fun a hF => nt <| c_T hF rfl <| sr <| st hF (g_build0 ty_bu_24) rfl fun a hF => stN hF (d_storeAgg 0 hM rfl ty_sz_24 hF rfl rfl (tenC_one rfl) (by simp only [sz0, tenC_size, smC_size, numC_size, numI_size]) (by simp only [sz0, tenC_size, smC_size, numC_size, numI_size] <;> omega) (splice_whole _ _ rfl)) ?_;intro _ w' a hM hF;change Mem w w' [some (b1, tenC 0 0 0 0 (.slice none 0 0)), none, none] [] at hM;refine ag hF rfl rfl fun a hF => nt <| wp_ret <| tR <| fin2 rfl hF.defers (res_agg ty_ag_24 hF rfl (hM.row 0 rfl) (by simp only [sz0, tenC_size, smC_size, numC_size, numI_size])) (res_tmp hF rfl) ⟨_, rfl, hM.below, ?_⟩
    show _ = _
    rfl
  first | rw [decide_eq_false g6] at hF | simp only [decide_eq_false g6] at hF
  refine stY hF rfl rfl rfl (g_move hF rfl) rfl fun a hF => stY hF rfl rfl rfl (g_lss hF rfl rfl) rfl fun a hF => st hF (g_pickF hF rfl rfl) rfl fun a hF => mv hF rfl rfl fun a hF => ?_
  by_cases g8 : (k : Int) < 0
  · first | rw [decide_eq_true g8] at hF | simp only [decide_eq_true g8] at hF
    refine stS hF rfl rfl rfl rfl rfl fun a hF => stS hF rfl rfl rfl rfl rfl fun a hF => st hF (g_pickT hF rfl rfl) rfl fun a hF => nt <| c_T hF rfl <| sr <| st hF (g_build0 ty_bu_24) rfl fun a hF => stN hF (d_storeAgg 0 hM rfl ty_sz_24 hF rfl rfl (tenC_one rfl) (by simp only [sz0, tenC_size, smC_size, numC_size, numI_size]) (by simp only [sz0, tenC_size, smC_size, numC_size, numI_size] <;> omega) (splice_whole _ _ rfl)) ?_;intro _ w' a hM hF;change Mem w w' [some (b1, tenC 0 0 0 0 (.slice none 0 0)), none, none] [] at hM;refine ag hF rfl rfl fun a hF => nt <| wp_ret <| tR <| fin2 rfl hF.defers (res_agg ty_ag_24 hF rfl (hM.row 0 rfl) (by simp only [sz0, tenC_size, smC_size, numC_size, numI_size])) (res_tmp hF rfl) ⟨_, rfl, hM.below, ?_⟩
    show _ = _
    rfl
  first | rw [decide_eq_false g8] at hF | simp only [decide_eq_false g8] at hF
  refine stY hF rfl rfl rfl (g_move hF rfl) rfl fun a hF => stY hF rfl rfl rfl (g_gtr hF rfl rfl) rfl fun a hF => st hF (g_pickF hF rfl rfl) rfl fun a hF => nt <| c_cond hF rfl (fun h10 => ?_) (fun h10 => ?_)
  · refine sq ?_
    refine wp_region_lit <| st hF (g_build0 ty_bu_24) rfl fun a hF => stN hF (d_storeAgg 0 hM rfl ty_sz_24 hF rfl rfl (tenC_one rfl) (by simp only [sz0, tenC_size, smC_size, numC_size, numI_size]) (by simp only [sz0, tenC_size, smC_size, numC_size, numI_size] <;> omega) (splice_whole _ _ rfl)) ?_;intro _ w' a hM hF;change Mem w w' [some (b1, tenC 0 0 0 0 (.slice none 0 0)), none, none] [] at hM;refine ag hF rfl rfl fun a hF => nt <| wp_ret <| tR <| fin2 rfl hF.defers (res_agg ty_ag_24 hF rfl (hM.row 0 rfl) (by simp only [sz0, tenC_size, smC_size, numC_size, numI_size])) (res_tmp hF rfl) ⟨_, rfl, hM.below, ?_⟩
    show _ = _
    rfl
  exact absurd ⟨Decidable.not_not.1 (by assumption), by omega, by omega, by omega, by omega⟩ hA
theorem IdentityTensorIB (p n k : Nat) (w : World) (hpP : primeP (p : Int)) (hn0 : 0 < n) (hn : n ≤ 6) (hw : wl n k k) :
    CallsR Try.prog 23 #[.int .i64 (p : Int), .int .i64 (n : Int), .int .i64 (k : Int)] w (fun v w' => TenOut0 w w' (p : Int) (n : Int) (k : Int) (k : Int) (n ^ (k + k)) (dgF (n ^ k) (n ^ k)) v) := by
  refine calls_fr [.int .i64 (p : Int), .int .i64 (n : Int), .int .i64 (k : Int)] Try.func23 rfl Try.ntmps23 rfl fun a hF => ?_;have hM : Mem w w [none, none, none] [] := MemX.start w 3;change Fr 54 a [(0, .int .i64 (p : Int)), (1, .int .i64 (n : Int)), (2, .int .i64 (k : Int))] at hF;have hw3 := hw.2.2;have hw1 := hw.1;have hk1 := half_le hn0 hw3;refine sr <| stR hF (d_alloc 0 hM ty_ze_24) rfl ?_;rintro _ w' a ⟨b1, rfl, hM, -⟩ hF;change Mem w w' [some (b1, tenC 0 0 0 0 (.slice none 0 0)), none, none] [] at hM;refine ag hF rfl rfl fun a hF => nt <| sq <| sr <| mv hF rfl rfl fun a hF => stR hF (d_call Try.call41 hF (.cons rfl .nil) (isPrime_ok (p : Int) _)) rfl ?_;rintro _ w' a ⟨hx, rfl⟩ hF;have hM := hM.ext hx;refine st hF (g_notP hF rfl) rfl fun a hF => mv hF rfl rfl fun a hF => ?_
  by_cases g2 : ¬ (primeP (p : Int))
  · first | rw [decide_eq_true g2] at hF | simp only [decide_eq_true g2] at hF
    first | exact absurd hpP g2 | (exfalso; omega)
  first | rw [decide_eq_false g2] at hF | simp only [decide_eq_false g2] at hF
  refine stY hF rfl rfl rfl (g_move hF rfl) rfl fun a hF => stY hF rfl rfl rfl (g_lss hF rfl rfl) rfl fun a hF => st hF (g_pickF hF rfl rfl) rfl fun a hF => mv hF rfl rfl fun a hF => ?_
  by_cases g3 : ((n : Int) : Int) < 1
  · first | rw [decide_eq_true g3] at hF | simp only [decide_eq_true g3] at hF
    first | exact absurd hpP g3 | (exfalso; omega)
  first | rw [decide_eq_false g3] at hF | simp only [decide_eq_false g3] at hF
  refine stY hF rfl rfl rfl (g_move hF rfl) rfl fun a hF => stY hF rfl rfl rfl (g_gtr hF rfl rfl) rfl fun a hF => st hF (g_pickF hF rfl rfl) rfl fun a hF => mv hF rfl rfl fun a hF => ?_
  by_cases g4 : 6 < ((n : Int) : Int)
  · first | rw [decide_eq_true g4] at hF | simp only [decide_eq_true g4] at hF
    first | exact absurd hpP g4 | (exfalso; omega)
  first | rw [decide_eq_false g4] at hF | simp only [decide_eq_false g4] at hF
  refine stY hF rfl rfl rfl (g_move hF rfl) rfl fun a hF => stY hF rfl rfl rfl (g_lss hF rfl rfl) rfl fun a hF => st hF (g_pickF hF rfl rfl) rfl fun a hF => mv hF rfl rfl fun a hF => ?_
  by_cases g5 : ((k : Int) : Int) < 0
  · first | rw [decide_eq_true g5] at hF | simp only [decide_eq_true g5] at hF
    first | exact absurd hpP g5 | (exfalso; omega)
  first | rw [decide_eq_false g5] at hF | simp only [decide_eq_false g5] at hF
  refine stY hF rfl rfl rfl (g_move hF rfl) rfl fun a hF => stY hF rfl rfl rfl (g_gtr hF rfl rfl) rfl fun a hF => st hF (g_pickF hF rfl rfl) rfl fun a hF => nt <| c_cond hF rfl (fun h6 => ?_) (fun h6 => ?_)
  · first | exact absurd hpP h6 | exact absurd hw h6 | (exfalso; omega)
  refine wp_skip <| tN <| sq <| sr <| mv hF rfl rfl fun a hF => mv hF rfl rfl fun a hF => mv hF rfl rfl fun a hF => stR hF (d_call Try.call42 hF (.cons rfl (.cons rfl (.cons rfl .nil))) (isWithinLimits_ok (n) (k) (k) _ (by omega))) rfl ?_;rintro _ w' a ⟨hx, rfl⟩ hF;have hM := hM.ext hx;refine st hF (g_notP hF rfl) rfl fun a hF => nt <| c_cond hF rfl (fun h7 => ?_) (fun h7 => ?_)
  · exact absurd hw h7
  refine wp_skip <| tN <| sr <| mv hF rfl rfl fun a hF => mv hF rfl rfl fun a hF => mv hF rfl rfl fun a hF => mv hF rfl rfl fun a hF => stR hF (d_call Try.call43 hF (.cons rfl (.cons rfl (.cons rfl (.cons rfl .nil)))) (zeroTensor_ok (p) (n) (k) (k) _ (by omega) (by omega) hw)) rfl ?_;rintro _ w' a ⟨hx, b8, rfl, hge, hbk⟩ hF;have hM := hM.fill hx 1 hbk hge;refine stR hF (d_alloc 2 hM ty_ze_24) rfl ?_;rintro _ w' a ⟨b9, rfl, hM, -⟩ hF;change Mem w w' [some (b1, tenC 0 0 0 0 (.slice none 0 0)), some (b8, numC ((n) ^ ((k) + (k))) (fun _ => 0)), some (b9, tenC 0 0 0 0 (.slice none 0 0))] [] at hM;refine stN hF (d_storeAgg 2 hM rfl ty_sz_24 hF rfl rfl (tenC_one rfl) (by simp only [sz0, tenC_size, smC_size, numC_size, numI_size]) (by simp only [sz0, tenC_size, smC_size, numC_size, numI_size] <;> omega) (splice_whole _ _ rfl)) ?_;intro _ w' a hM hF;refine nt <| sq <| sr <| mv hF rfl rfl fun a hF => mv hF rfl rfl fun a hF => stR hF (d_call Try.call34 hF (.cons rfl (.cons rfl .nil)) (countChoices_ok (n) (k) _ (by omega) (by omega))) rfl ?_;rintro _ w' a ⟨hx, rfl⟩ hF;have hM := hM.ext hx;refine mv hF rfl rfl fun a hF => nt <| wp_block ?_;change Mem w _ [some (b1, tenC 0 0 0 0 (.slice none 0 0)), some (b8, numC ((n) ^ ((k) + (k))) (fun _ => 0)), some (b9, tenC (p : Int) (n : Int) (k : Int) (k : Int) (.slice (some ⟨b8, 0, none⟩) ((n) ^ ((k) + (k))) ((n) ^ ((k) + (k)))))] [] at hM;refine c_loop (fun (kk : Nat) a w' => kk ≤ n ^ k ∧ (True) ∧ Fr 54 a [(6, ptr b1 (0)), (7, .int .i64 (0)), (28, .bool (decide (8 < ((k : Int) : Int)))), (34, .bool (decide (¬ (wl (n) (k) (k))))), (8, ptr b9 (0)), (43, .int .i64 ((((n) ^ (k) : Nat) : Int))), (44, .int .i64 (kk : Int))] ∧ Mem w w' [some (b1, tenC 0 0 0 0 (.slice none 0 0)), some (b8, numC (n ^ (k + k)) (dgF (n ^ k) kk)), some (b9, tenC (p : Int) (n : Int) (k : Int) (k : Int) (.slice (some ⟨b8, 0, none⟩) ((n) ^ ((k) + (k))) ((n) ^ ((k) + (k)))))] []) (fun kk => n ^ k - kk) 0 ?_ ?_
  · refine ⟨by omega, trivial, hF.sub _ (by repeat' constructor), ?_⟩
    refine hM.rowc 1 rfl (numC_congr fun c hc => dg_0.symm)
  clear hF hM;rintro gk a w' ⟨hgk, hinv1, hF, hM⟩;have hidx : gk < n ^ k → gk * n ^ k + n ^ k ≤ n ^ (k + k) := idx_bd;refine sr <| st hF (g_lss hF rfl rfl) rfl fun a hF => nt <| sq <| c_cond hF rfl (fun h10 => ?_) (fun h10 => ?_)
  · refine wp_skip ?_
    refine tN <| sq <| wp_block <| sr <| mv hF rfl rfl fun a hF => ag hF rfl rfl fun a hF => nt <| wp_region_lit <| st hF (g_loadAgg ty_ag_24 hF rfl (hM.row 2 rfl) (by simp only [sz0, tenC_size, smC_size, numC_size, numI_size] <;> omega) (whole rfl)) rfl fun a hF => mv hF rfl rfl fun a hF => stR hF (d_call Try.call37 hF (.cons rfl (.cons rfl .nil)) (rowOf_ok (p) (n) (k) (k) b8 ((n) ^ ((k) + (k))) (gk) _ (by omega) (by omega) (by omega) (by omega) (by omega))) rfl ?_;rintro _ w' a ⟨hx, rfl⟩ hF;have hM := hM.ext hx;refine mv hF rfl rfl fun a hF => st hF (g_indexSl (i := gk) ty_sl_22 hF rfl rfl rfl (by omega)) rfl fun a hF => stN hF (d_store 1 hM rfl ty_on_2 hF rfl rfl rfl (by first | omega | (simp only [sz0, tenC_size, smC_size, numC_size, numI_size] <;> omega) | (simp only [Array.size_setIfInBounds]; omega) | simp)) ?_;intro _ w' a hM hF;rw [show (numC (n ^ (k + k)) (dgF (n ^ k) gk)).setIfInBounds (0 + (gk) * (n) ^ (k) * 1 + (gk) * 1) (.int .i64 (1)) = numC (n ^ (k + k)) (fun c => if c = (gk) * (n) ^ (k) + (gk) then 1 else (dgF (n ^ k) gk) c) from numC_set (k := (gk) * (n) ^ (k) + (gk)) (by omega) (fun c _ => rfl)] at hM;change Mem w w' [some (b1, tenC 0 0 0 0 (.slice none 0 0)), some (b8, numC (n ^ (k + k)) (fun c => if c = (gk) * (n) ^ (k) + (gk) then 1 else (dgF (n ^ k) gk) c)), some (b9, tenC (p : Int) (n : Int) (k : Int) (k : Int) (.slice (some ⟨b8, 0, none⟩) ((n) ^ ((k) + (k))) ((n) ^ ((k) + (k)))))] [] at hM;refine wpList_nil <| iN <| tN <| wp_region_lit <| st hF (g_add hF rfl rfl (add_nat (gk) (1) (by omega))) rfl fun a hF => mv hF rfl rfl fun a hF => nt <| ⟨gk + 1, ⟨by omega, trivial, hF.sub _ (by repeat' constructor), ?_⟩, by omega⟩;refine hM.rowc 1 rfl (numC_congr fun c hc => dg_step)
  obtain rfl : n ^ k = gk := by omega
  refine wp_exit <| tX <| tX <| ib_same <| tN <| sr <| st hF (g_loadAgg ty_ag_24 hF rfl (hM.row 2 rfl) (by simp only [sz0, tenC_size, smC_size, numC_size, numI_size] <;> omega) (whole rfl)) rfl fun a hF => stN hF (d_storeAgg 0 hM rfl ty_sz_24 hF rfl rfl (tenC_one rfl) (by simp only [sz0, tenC_size, smC_size, numC_size, numI_size]) (by simp only [sz0, tenC_size, smC_size, numC_size, numI_size] <;> omega) (splice_whole _ _ rfl)) ?_;intro _ w' a hM hF;change Mem w w' [some (b1, tenC (p : Int) (n : Int) (k : Int) (k : Int) (.slice (some ⟨b8, 0, none⟩) ((n) ^ ((k) + (k))) ((n) ^ ((k) + (k))))), some (b8, numC (n ^ (k + k)) (dgF (n ^ k) (n ^ k))), some (b9, tenC (p : Int) (n : Int) (k : Int) (k : Int) (.slice (some ⟨b8, 0, none⟩) ((n) ^ ((k) + (k))) ((n) ^ ((k) + (k)))))] [] at hM;refine ag hF rfl rfl fun a hF => nt <| wp_ret <| fin2 rfl hF.defers (res_agg ty_ag_24 hF rfl (hM.row 0 rfl) (by simp only [sz0, tenC_size, smC_size, numC_size, numI_size])) (res_tmp hF rfl) ⟨_, rfl, hM.below, ?_⟩;exact ⟨_, rfl, hM.ge 1 rfl, hM.row 1 rfl⟩
end Go.Proofs.Ythoelkijoenkpaa

namespace Go.Proofs.Ythoelkijoenkpaa
open Go Go.RowKit Go.Sw Go.Ech
open Classical
def tvF (n k : Nat) (V : Nat → Nat → Nat) (c : Nat) : Nat := if c < k * n then V (c / n) (c % n) else 0
end Go.Proofs.Ythoelkijoenkpaa

namespace Go.Proofs.Ythoelkijoenkpaa
open Go Go.RowKit Go.Sw Go.Ech
open Classical
def in6 (f : Nat → Nat) (c : Nat) : Nat := if c < 6 then f c else 0
end Go.Proofs.Ythoelkijoenkpaa
