/- What functions of the program return, as walks over their operations; no statement of the seat is proved here. -/
import Derived.Test.YthliekalhgafcaaT3
set_option linter.unusedVariables false
set_option linter.unusedSimpArgs false
namespace Go.Proofs.Ythliekalhgafcaa
open Go Go.RowKit Go.Sw Go.Ech
open Classical
theorem ty_bu_27 : ∀ w, (Instr.build 27 #[]).run Try.prog w = .ok (.agg (tenC 0 0 0 0 (.slice none 0 0))) w := by intros; kernel_rfl
/-- Numbers that are 1 at the first j places of the diagonal. -/
def dgF (W j c : Nat) : Nat := if c % (W + 1) = 0 ∧ c / (W + 1) < j then 1 else 0
theorem dg_step {W i c : Nat} : (if c = i * W + i then 1 else dgF W i c) = dgF W (i + 1) c := by
  have e1 : i * W + i = (W + 1) * i := by rw [Nat.add_mul, Nat.mul_comm]; omega
  unfold dgF
  by_cases e : c = i * W + i
  · rw [if_pos e, if_pos]; rw [e, e1]; exact ⟨Nat.mul_mod_right _ _, by rw [Nat.mul_div_cancel_left _ (by omega)]; omega⟩
  · rw [if_neg e]
    by_cases h : c % (W + 1) = 0
    · have h1 := Nat.div_add_mod c (W + 1)
      have h2 : c / (W + 1) ≠ i := fun h3 => e (by rw [h3, h] at h1; omega)
      have h4 : (c / (W + 1) < i + 1) = (c / (W + 1) < i) := by apply propext; omega
      simp only [h4]
    · rw [if_neg (fun q => h q.1), if_neg (fun q => h q.1)]
theorem dg_0 {W c : Nat} : dgF W 0 c = 0 := by unfold dgF; rw [if_neg (fun h => Nat.not_lt_zero _ h.2)]
theorem idx_bd {n k i : Nat} (h : i < n ^ k) : i * n ^ k + n ^ k ≤ n ^ (k + k) := by
  rw [Nat.pow_add, ← Nat.succ_mul]; exact Nat.mul_le_mul_right _ h
theorem half_le {n k : Nat} (hn : 0 < n) (h : n ^ (k + k) ≤ 1296) : n ^ k ≤ 1296 := Nat.le_trans (Nat.pow_le_pow_right hn (by omega)) h
/-- The code of a prime, a size and numbers of legs. -/
theorem wl_of {n i o : Nat} (hn : 0 < n) (h : ¬ 8 < (i : Int)) (h1 : ¬ 8 < (o : Int)) (h2 : ¬ 1296 < ((pwr n (i + o) 1 : Nat) : Int)) : wl n i o := ⟨by omega, by omega, (pwr_iff hn).1 (by omega)⟩
theorem wl_not {n i o : Nat} (hn : 0 < n) (h : 8 < (i : Int) ∨ 8 < (o : Int) ∨ 1296 < ((pwr n (i + o) 1 : Nat) : Int)) : ¬ wl n i o := fun hw => by
  have := (pwr_iff hn).2 hw.2.2
  have h1 := hw.1; have h2 := hw.2.1
  omega

theorem l03Sizes_A (p n i o : Int) (w : World) (hA : ¬ (primeP p ∧ 1 ≤ n ∧ n ≤ 6)) :
    CallsR Try.prog 47 #[.int .i64 (p), .int .i64 (n), .int .i64 (i), .int .i64 (o)] w (fun res _ => res = .int .i64 2) := by
  refine calls_fr [.int .i64 (p), .int .i64 (n), .int .i64 (i), .int .i64 (o)] Try.func47 rfl Try.ntmps47 rfl fun a hF => ?_
  have hM : Mem w w [] [] := MemX.start w 0
  change Fr 33 a [(0, .int .i64 (p)), (1, .int .i64 (n)), (2, .int .i64 (i)), (3, .int .i64 (o))] at hF
  refine sq ?_
  refine wp_region_lit ?_
  refine st hF (g_assign hF rfl) rfl fun a hF => ?_
  refine wpList_nil ?_
  refine tN ?_
  refine sq ?_
  refine wp_block ?_
  refine sq ?_
  refine wp_region_lit ?_
  refine st hF (g_move hF rfl) rfl fun a hF => ?_
  refine stR hF (d_call Try.call76 hF (.cons rfl .nil) (l01Prime_ok (p) _)) rfl ?_
  rintro _ w' a ⟨hx, rfl⟩ hF
  have hM := hM.ext hx
  refine st hF (g_notP hF rfl) rfl fun a hF => st hF (g_move hF rfl) rfl fun a hF => ?_
  by_cases g1 : ¬ (primeP (p))
  ·
    first | rw [decide_eq_true g1] at hF | simp only [decide_eq_true g1] at hF
    refine stS hF rfl rfl rfl rfl rfl fun a hF => stS hF rfl rfl rfl rfl rfl fun a hF => stS hF rfl rfl rfl rfl rfl fun a hF => st hF (g_pickT hF rfl rfl) rfl fun a hF => st hF (g_assign hF rfl) rfl fun a hF => ?_
    refine wpList_nil ?_
    refine tN ?_
    refine c_T hF rfl ?_
    refine sq ?_
    refine wp_region_lit ?_
    refine st hF (g_assign hF rfl) rfl fun a hF => ?_
    refine wpList_nil ?_
    refine tN ?_
    refine wp_ret ?_
    refine iR ?_
    refine tR ?_
    refine fin1 rfl hF.defers (res_tmp hF rfl) ⟨_, rfl, hM.below, ?_⟩
    show _ = _
    rfl
  ·
    first | rw [decide_eq_false g1] at hF | simp only [decide_eq_false g1] at hF
    refine stY hF rfl rfl rfl (g_move hF rfl) rfl fun a hF => ?_
    refine stYR hF rfl rfl rfl (d_call Try.call46 hF (.cons rfl (.cons rfl (.cons rfl .nil))) (l01In_ok (n) (1) (6) _)) rfl ?_
    rintro _ w' a ⟨hx, rfl⟩ hF
    have hM := hM.ext hx
    refine stY hF rfl rfl rfl (g_notP hF rfl) rfl fun a hF => st hF (g_pickF hF rfl rfl) rfl fun a hF => st hF (g_assign hF rfl) rfl fun a hF => ?_
    refine wpList_nil ?_
    refine tN ?_
    refine c_cond hF rfl (fun h3 => ?_) (fun h3 => ?_)
    ·
      refine sq ?_
      refine wp_region_lit ?_
      refine st hF (g_assign hF rfl) rfl fun a hF => ?_
      refine wpList_nil ?_
      refine tN ?_
      refine wp_ret ?_
      refine iR ?_
      refine tR ?_
      refine fin1 rfl hF.defers (res_tmp hF rfl) ⟨_, rfl, hM.below, ?_⟩
      show _ = _
      rfl
    ·
      exact absurd ⟨Decidable.not_not.1 (by assumption), by omega, by omega⟩ hA

theorem l03Sizes_ok (p : Int) (n i o : Nat) (w : World) (hp : primeP p) (hn0 : 0 < n) (hn : n ≤ 6) (hi : i < 400) (ho : o < 400) :
    CallsR Try.prog 47 #[.int .i64 (p), .int .i64 (((n : Nat) : Int)), .int .i64 (((i : Nat) : Int)), .int .i64 (((o : Nat) : Int))] w (fun res _ => res = .int .i64 (if wl n i o then 0 else 3)) := by
  refine calls_fr [.int .i64 (p), .int .i64 (((n : Nat) : Int)), .int .i64 (((i : Nat) : Int)), .int .i64 (((o : Nat) : Int))] Try.func47 rfl Try.ntmps47 rfl fun a hF => ?_
  have hM : Mem w w [] [] := MemX.start w 0
  change Fr 33 a [(0, .int .i64 (p)), (1, .int .i64 (((n : Nat) : Int))), (2, .int .i64 (((i : Nat) : Int))), (3, .int .i64 (((o : Nat) : Int)))] at hF
  refine sq ?_
  refine wp_region_lit ?_
  refine st hF (g_assign hF rfl) rfl fun a hF => ?_
  refine wpList_nil ?_
  refine tN ?_
  refine sq ?_
  refine wp_block ?_
  refine sq ?_
  refine wp_region_lit ?_
  refine st hF (g_move hF rfl) rfl fun a hF => ?_
  refine stR hF (d_call Try.call76 hF (.cons rfl .nil) (l01Prime_ok (p) _)) rfl ?_
  rintro _ w' a ⟨hx, rfl⟩ hF
  have hM := hM.ext hx
  refine st hF (g_notP hF rfl) rfl fun a hF => st hF (g_move hF rfl) rfl fun a hF => ?_
  by_cases g1 : ¬ (primeP (p))
  ·
    first | rw [decide_eq_true g1] at hF | simp only [decide_eq_true g1] at hF
    refine stS hF rfl rfl rfl rfl rfl fun a hF => stS hF rfl rfl rfl rfl rfl fun a hF => stS hF rfl rfl rfl rfl rfl fun a hF => st hF (g_pickT hF rfl rfl) rfl fun a hF => st hF (g_assign hF rfl) rfl fun a hF => ?_
    refine wpList_nil ?_
    refine tN ?_
    refine c_T hF rfl ?_
    refine sq ?_
    refine wp_region_lit ?_
    refine st hF (g_assign hF rfl) rfl fun a hF => ?_
    refine wpList_nil ?_
    refine tN ?_
    refine wp_ret ?_
    refine iR ?_
    refine tR ?_
    refine fin1 rfl hF.defers (res_tmp hF rfl) ⟨_, rfl, hM.below, ?_⟩
    show _ = _
    exfalso; first | exact absurd hp (by assumption) | omega
  ·
    first | rw [decide_eq_false g1] at hF | simp only [decide_eq_false g1] at hF
    refine stY hF rfl rfl rfl (g_move hF rfl) rfl fun a hF => ?_
    refine stYR hF rfl rfl rfl (d_call Try.call46 hF (.cons rfl (.cons rfl (.cons rfl .nil))) (l01In_ok (((n : Nat) : Int)) (1) (6) _)) rfl ?_
    rintro _ w' a ⟨hx, rfl⟩ hF
    have hM := hM.ext hx
    refine stY hF rfl rfl rfl (g_notP hF rfl) rfl fun a hF => st hF (g_pickF hF rfl rfl) rfl fun a hF => st hF (g_assign hF rfl) rfl fun a hF => ?_
    refine wpList_nil ?_
    refine tN ?_
    refine c_cond hF rfl (fun h3 => ?_) (fun h3 => ?_)
    ·
      refine sq ?_
      refine wp_region_lit ?_
      refine st hF (g_assign hF rfl) rfl fun a hF => ?_
      refine wpList_nil ?_
      refine tN ?_
      refine wp_ret ?_
      refine iR ?_
      refine tR ?_
      refine fin1 rfl hF.defers (res_tmp hF rfl) ⟨_, rfl, hM.below, ?_⟩
      show _ = _
      exfalso; first | exact absurd hp (by assumption) | omega
    ·
      refine sq ?_
      refine wp_region_lit ?_
      refine st hF (g_move hF rfl) rfl fun a hF => st hF (g_gtr hF rfl rfl) rfl fun a hF => st hF (g_move hF rfl) rfl fun a hF => ?_
      by_cases g4 : 8 < (((i : Nat) : Int) : Int)
      ·
        first | rw [decide_eq_true g4] at hF | simp only [decide_eq_true g4] at hF
        refine stS hF rfl rfl rfl rfl rfl fun a hF => stS hF rfl rfl rfl rfl rfl fun a hF => st hF (g_pickT hF rfl rfl) rfl fun a hF => st hF (g_move hF rfl) rfl fun a hF => stS hF rfl rfl rfl rfl rfl fun a hF => stS hF rfl rfl rfl rfl rfl fun a hF => stS hF rfl rfl rfl rfl rfl fun a hF => stS hF rfl rfl rfl rfl rfl fun a hF => stS hF rfl rfl rfl rfl rfl fun a hF => stS hF rfl rfl rfl rfl rfl fun a hF => st hF (g_pickT hF rfl rfl) rfl fun a hF => st hF (g_assign hF rfl) rfl fun a hF => ?_
        refine wpList_nil ?_
        refine tN ?_
        refine c_T hF rfl ?_
        refine sq ?_
        refine wp_region_lit ?_
        refine st hF (g_assign hF rfl) rfl fun a hF => ?_
        refine wpList_nil ?_
        refine tN ?_
        refine wp_ret ?_
        refine iR ?_
        refine tR ?_
        refine fin1 rfl hF.defers (res_tmp hF rfl) ⟨_, rfl, hM.below, ?_⟩
        show _ = _
        rw [if_neg (wl_not hn0 (by first | (left; omega) | (right; left; omega) | (right; right; omega)))]
      ·
        first | rw [decide_eq_false g4] at hF | simp only [decide_eq_false g4] at hF
        refine stY hF rfl rfl rfl (g_move hF rfl) rfl fun a hF => stY hF rfl rfl rfl (g_gtr hF rfl rfl) rfl fun a hF => st hF (g_pickF hF rfl rfl) rfl fun a hF => st hF (g_move hF rfl) rfl fun a hF => ?_
        by_cases g6 : 8 < (((o : Nat) : Int) : Int)
        ·
          first | rw [decide_eq_true g6] at hF | simp only [decide_eq_true g6] at hF
          refine stS hF rfl rfl rfl rfl rfl fun a hF => stS hF rfl rfl rfl rfl rfl fun a hF => stS hF rfl rfl rfl rfl rfl fun a hF => stS hF rfl rfl rfl rfl rfl fun a hF => stS hF rfl rfl rfl rfl rfl fun a hF => stS hF rfl rfl rfl rfl rfl fun a hF => st hF (g_pickT hF rfl rfl) rfl fun a hF => st hF (g_assign hF rfl) rfl fun a hF => ?_
          refine wpList_nil ?_
          refine tN ?_
          refine c_T hF rfl ?_
          refine sq ?_
          refine wp_region_lit ?_
          refine st hF (g_assign hF rfl) rfl fun a hF => ?_
          refine wpList_nil ?_
          refine tN ?_
          refine wp_ret ?_
          refine iR ?_
          refine tR ?_
          refine fin1 rfl hF.defers (res_tmp hF rfl) ⟨_, rfl, hM.below, ?_⟩
          show _ = _
          rw [if_neg (wl_not hn0 (by first | (left; omega) | (right; left; omega) | (right; right; omega)))]
        ·
          first | rw [decide_eq_false g6] at hF | simp only [decide_eq_false g6] at hF
          refine stY hF rfl rfl rfl (g_move hF rfl) rfl fun a hF => stY hF rfl rfl rfl (g_move hF rfl) rfl fun a hF => stY hF rfl rfl rfl (g_move hF rfl) rfl fun a hF => stY hF rfl rfl rfl (g_add hF rfl rfl (add_nat (i) (o) (by omega))) rfl fun a hF => ?_
          refine stYR hF rfl rfl rfl (d_call Try.call68 hF (.cons rfl (.cons rfl .nil)) (l03Power_ok (n) (i + o) _ (by omega) (by omega) (by omega))) rfl ?_
          rintro _ w' a ⟨hx, rfl⟩ hF
          have hM := hM.ext hx
          refine stY hF rfl rfl rfl (g_gtr hF rfl rfl) rfl fun a hF => st hF (g_pickF hF rfl rfl) rfl fun a hF => st hF (g_assign hF rfl) rfl fun a hF => ?_
          refine wpList_nil ?_
          refine tN ?_
          refine c_cond hF rfl (fun h8 => ?_) (fun h8 => ?_)
          ·
            refine sq ?_
            refine wp_region_lit ?_
            refine st hF (g_assign hF rfl) rfl fun a hF => ?_
            refine wpList_nil ?_
            refine tN ?_
            refine wp_ret ?_
            refine iR ?_
            refine tR ?_
            refine fin1 rfl hF.defers (res_tmp hF rfl) ⟨_, rfl, hM.below, ?_⟩
            show _ = _
            rw [if_neg (wl_not hn0 (by first | (left; omega) | (right; left; omega) | (right; right; omega)))]
          ·
            refine wp_skip ?_
            refine iN ?_
            refine tN ?_
            refine sq ?_
            refine wp_region_lit ?_
            refine st hF (g_assign hF rfl) rfl fun a hF => ?_
            refine wpList_nil ?_
            refine tN ?_
            refine wp_ret ?_
            refine fin1 rfl hF.defers (res_tmp hF rfl) ⟨_, rfl, hM.below, ?_⟩
            show _ = _
            rw [if_pos (wl_of hn0 (by omega) (by omega) (by omega))]

theorem l03One_ok (p n k : Nat) (w : World) (hpP : primeP (p : Int)) (hn0 : 0 < n) (hn : n ≤ 6) (hw : wl n k k) :
    CallsR Try.prog 48 #[.int .i64 (((p : Nat) : Int)), .int .i64 (((n : Nat) : Int)), .int .i64 (((k : Nat) : Int))] w (fun v w' => TenOut w w' (p : Int) (n : Int) (k : Int) (k : Int) (n ^ (k + k)) (dgF (n ^ k) (n ^ k)) v) := by
  refine calls_fr [.int .i64 (((p : Nat) : Int)), .int .i64 (((n : Nat) : Int)), .int .i64 (((k : Nat) : Int))] Try.func48 rfl Try.ntmps48 rfl fun a hF => ?_
  have hM : Mem w w [none, none, none] [] := MemX.start w 3
  change Fr 32 a [(0, .int .i64 (((p : Nat) : Int))), (1, .int .i64 (((n : Nat) : Int))), (2, .int .i64 (((k : Nat) : Int)))] at hF
  have hw3 := hw.2.2
  have hw1 := hw.1
  have hk1 := half_le hn0 hw3
  refine sq ?_
  refine wp_region_lit ?_
  refine stR hF (d_alloc 0 hM ty_ze_27) rfl ?_
  rintro _ w' a ⟨b1, rfl, hM, -⟩ hF
  change Mem w w' [some (b1, tenC 0 0 0 0 (.slice none 0 0)), none, none] [] at hM
  refine wpList_nil ?_
  refine tN ?_
  refine sq ?_
  refine wp_region_lit ?_
  refine st hF (g_move hF rfl) rfl fun a hF => st hF (g_move hF rfl) rfl fun a hF => st hF (g_move hF rfl) rfl fun a hF => st hF (g_move hF rfl) rfl fun a hF => ?_
  refine stR hF (d_call Try.call54 hF (.cons rfl (.cons rfl (.cons rfl (.cons rfl .nil)))) (l03Empty_ok (p) (n) (k) (k) _ (by omega) (by omega) hw)) rfl ?_
  rintro _ w' a ⟨hx, b2, rfl, hge, hbk⟩ hF
  have hM := hM.fill hx 1 hbk hge
  change Mem w w' [some (b1, tenC 0 0 0 0 (.slice none 0 0)), some (b2, numC ((n) ^ ((k) + (k))) (fun _ => 0)), none] [] at hM
  refine stR hF (d_alloc 2 hM ty_ze_27) rfl ?_
  rintro _ w' a ⟨b3, rfl, hM, -⟩ hF
  change Mem w w' [some (b1, tenC 0 0 0 0 (.slice none 0 0)), some (b2, numC ((n) ^ ((k) + (k))) (fun _ => 0)), some (b3, tenC 0 0 0 0 (.slice none 0 0))] [] at hM
  refine stN hF (d_storeAgg 2 hM rfl ty_sz_27 hF rfl rfl (tenC_one rfl) (by simp only [fnC_size, cells_size, vecC_size, tabC_size, planeC_size, tenC_size, smC_size, numC_size]) (by simp only [fnC_size, cells_size, vecC_size, tabC_size, planeC_size, tenC_size, smC_size, numC_size] <;> omega) (splice_whole _ _ rfl)) ?_
  intro _ w' a hM hF
  change Mem w w' [some (b1, tenC 0 0 0 0 (.slice none 0 0)), some (b2, numC ((n) ^ ((k) + (k))) (fun _ => 0)), some (b3, tenC ((p : Nat) : Int) ((n : Nat) : Int) ((k : Nat) : Int) ((k : Nat) : Int) (.slice (some ⟨b2, 0, none⟩) ((n) ^ ((k) + (k))) ((n) ^ ((k) + (k)))))] [] at hM
  refine wpList_nil ?_
  refine tN ?_
  refine sq ?_
  refine wp_region_lit ?_
  refine st hF (g_move hF rfl) rfl fun a hF => st hF (g_move hF rfl) rfl fun a hF => ?_
  refine stR hF (d_call Try.call68 hF (.cons rfl (.cons rfl .nil)) ((CallsR.val (l03Power_ok (n) (k) _ (by omega) (by omega) (by omega)) (congrArg (fun x : Nat => Value.int .i64 (x : Int)) (pwr_le (by omega) hk1))))) rfl ?_
  rintro _ w' a ⟨hx, rfl⟩ hF
  have hM := hM.ext hx
  refine st hF (g_assign hF rfl) rfl fun a hF => ?_
  refine wpList_nil ?_
  refine tN ?_
  refine sq ?_
  refine sq ?_
  refine wp_region_lit ?_
  refine st hF (g_assign hF rfl) rfl fun a hF => ?_
  refine wpList_nil ?_
  refine tN ?_
  refine wp_block ?_
  change Mem w _ [some (b1, tenC 0 0 0 0 (.slice none 0 0)), some (b2, numC ((n) ^ ((k) + (k))) (fun _ => 0)), some (b3, tenC ((p : Nat) : Int) ((n : Nat) : Int) ((k : Nat) : Int) ((k : Nat) : Int) (.slice (some ⟨b2, 0, none⟩) ((n) ^ ((k) + (k))) ((n) ^ ((k) + (k)))))] [] at hM
  refine c_loop (fun (kk : Nat) a w' => kk ≤ n ^ k ∧ (True) ∧ Fr 32 a [(0, .int .i64 (((p : Nat) : Int))), (1, .int .i64 (((n : Nat) : Int))), (2, .int .i64 (((k : Nat) : Int))), (6, ptr b1 (0)), (10, .int .i64 (((p : Nat) : Int))), (11, .int .i64 (((n : Nat) : Int))), (12, .int .i64 (((k : Nat) : Int))), (13, .int .i64 (((k : Nat) : Int))), (14, .agg (tenC ((p : Nat) : Int) ((n : Nat) : Int) ((k : Nat) : Int) ((k : Nat) : Int) (.slice (some ⟨b2, 0, none⟩) ((n) ^ ((k) + (k))) ((n) ^ ((k) + (k)))))), (7, ptr b3 (0)), (15, .int .i64 (((n : Nat) : Int))), (16, .int .i64 (((k : Nat) : Int))), (17, .int .i64 ((((n) ^ (k) : Nat) : Int))), (8, .int .i64 ((((n) ^ (k) : Nat) : Int))), (9, .int .i64 (((kk : Nat) : Int)))] ∧ Mem w w' [some (b1, tenC 0 0 0 0 (.slice none 0 0)), some (b2, numC (n ^ (k + k)) (dgF (n ^ k) kk)), some (b3, tenC ((p : Nat) : Int) ((n : Nat) : Int) ((k : Nat) : Int) ((k : Nat) : Int) (.slice (some ⟨b2, 0, none⟩) ((n) ^ ((k) + (k))) ((n) ^ ((k) + (k)))))] []) (fun kk => n ^ k - kk) 0 ?_ ?_
  ·
    refine ⟨by omega, trivial, hF.sub _ (by repeat' constructor), ?_⟩
    refine hM.rowc 1 rfl (numC_congr fun c hc => dg_0.symm)
  ·
    clear hF hM
    rintro gk a w' ⟨hgk, hinv1, hF, hM⟩
    have hidx : gk < n ^ k → gk * n ^ k + n ^ k ≤ n ^ (k + k) := idx_bd
    refine sq ?_
    refine sq ?_
    refine wp_region_lit ?_
    refine st hF (g_move hF rfl) rfl fun a hF => st hF (g_move hF rfl) rfl fun a hF => st hF (g_lss hF rfl rfl) rfl fun a hF => ?_
    refine wpList_nil ?_
    refine tN ?_
    refine c_cond hF rfl (fun h4 => ?_) (fun h4 => ?_)
    ·
      refine wp_skip ?_
      refine tN ?_
      refine sq ?_
      refine wp_block ?_
      refine wp_region_lit ?_
      refine st hF (g_fieldAddr ty_fo_27_4 hF rfl) rfl fun a hF => st hF (g_load ty_on_22 hF rfl (hM.row 2 rfl) (tenC_4 (by omega))) rfl fun a hF => st hF (g_move hF rfl) rfl fun a hF => st hF (g_move hF rfl) rfl fun a hF => st hF (g_mul hF rfl rfl (mul_nat (gk) ((n) ^ (k)) (by omega))) rfl fun a hF => st hF (g_move hF rfl) rfl fun a hF => st hF (g_add hF rfl rfl (add_nat ((gk) * ((n) ^ (k))) (gk) (by omega))) rfl fun a hF => st hF (g_indexSl (i := (gk) * ((n) ^ (k)) + gk) ty_sl_22 hF rfl rfl rfl (by omega)) rfl fun a hF => ?_
      refine stN hF (d_store 1 hM rfl ty_on_2 hF rfl rfl rfl (by first | omega | (simp only [fnC_size, cells_size, vecC_size, tabC_size, planeC_size, tenC_size, smC_size, numC_size] <;> omega))) ?_
      intro _ w' a hM hF
      rw [show (numC (n ^ (k + k)) (dgF (n ^ k) gk)).setIfInBounds (0 + ((gk) * ((n) ^ (k)) + gk) * 1) (.int .i64 (1)) = numC (n ^ (k + k)) (fun c => if c = ((gk) * ((n) ^ (k)) + gk) then 1 else (dgF (n ^ k) gk) c) from numC_set (k := ((gk) * ((n) ^ (k)) + gk)) (by omega) (fun c _ => rfl)] at hM
      change Mem w w' [some (b1, tenC 0 0 0 0 (.slice none 0 0)), some (b2, numC (n ^ (k + k)) (fun c => if c = ((gk) * ((n) ^ (k)) + gk) then 1 else (dgF (n ^ k) gk) c)), some (b3, tenC ((p : Nat) : Int) ((n : Nat) : Int) ((k : Nat) : Int) ((k : Nat) : Int) (.slice (some ⟨b2, 0, none⟩) ((n) ^ ((k) + (k))) ((n) ^ ((k) + (k)))))] [] at hM
      refine wpList_nil ?_
      refine iN ?_
      refine tN ?_
      refine wp_region_lit ?_
      refine st hF (g_move hF rfl) rfl fun a hF => st hF (g_add hF rfl rfl (add_nat (gk) (1) (by omega))) rfl fun a hF => st hF (g_assign hF rfl) rfl fun a hF => ?_
      refine wpList_nil ?_
      refine tN ?_
      refine ⟨gk + 1, ⟨by omega, trivial, hF.sub _ (by repeat' constructor), ?_⟩, by omega⟩
      refine hM.rowc 1 rfl (numC_congr fun c hc => dg_step)
    ·
      obtain rfl : n ^ k = gk := by omega
      refine wp_exit ?_
      refine tX ?_
      refine tX ?_
      refine ib_same ?_
      refine tN ?_
      refine sq ?_
      refine wp_region_lit ?_
      refine st hF (g_loadAgg ty_ag_27 hF rfl (hM.row 2 rfl) (by simp only [fnC_size, cells_size, vecC_size, tabC_size, planeC_size, tenC_size, smC_size, numC_size] <;> omega) (whole rfl)) rfl fun a hF => ?_
      refine stN hF (d_storeAgg 0 hM rfl ty_sz_27 hF rfl rfl (tenC_one rfl) (by simp only [fnC_size, cells_size, vecC_size, tabC_size, planeC_size, tenC_size, smC_size, numC_size]) (by simp only [fnC_size, cells_size, vecC_size, tabC_size, planeC_size, tenC_size, smC_size, numC_size] <;> omega) (splice_whole _ _ rfl)) ?_
      intro _ w' a hM hF
      change Mem w w' [some (b1, tenC ((p : Nat) : Int) ((n : Nat) : Int) ((k : Nat) : Int) ((k : Nat) : Int) (.slice (some ⟨b2, 0, none⟩) ((n) ^ ((k) + (k))) ((n) ^ ((k) + (k))))), some (b2, numC (n ^ (k + k)) (dgF (n ^ k) (n ^ k))), some (b3, tenC ((p : Nat) : Int) ((n : Nat) : Int) ((k : Nat) : Int) ((k : Nat) : Int) (.slice (some ⟨b2, 0, none⟩) ((n) ^ ((k) + (k))) ((n) ^ ((k) + (k)))))] [] at hM
      refine wpList_nil ?_
      refine tN ?_
      refine wp_ret ?_
      refine fin1 rfl hF.defers (res_agg ty_ag_27 hF rfl (hM.row 0 rfl) (by simp only [fnC_size, cells_size, vecC_size, tabC_size, planeC_size, tenC_size, smC_size, numC_size])) ⟨_, rfl, hM.below, ?_⟩
      exact ⟨_, rfl, hM.ge 1 rfl, hM.row 1 rfl⟩

theorem IdentityTensorIA (p n k : Int) (w : World) (hA : ¬ (primeP p ∧ 1 ≤ n ∧ n ≤ 6 ∧ 0 ≤ k ∧ k ≤ 8)) :
    CallsR Try.prog 19 #[.int .i64 (p), .int .i64 (n), .int .i64 (k)] w (fun res _ => res = .tuple #[.agg (tenC 0 0 0 0 (.slice none 0 0)), .int .i64 2]) := by
  refine calls_fr [.int .i64 (p), .int .i64 (n), .int .i64 (k)] Try.func19 rfl Try.ntmps19 rfl fun a hF => ?_
  have hM : Mem w w [none, none, none] [] := MemX.start w 3
  change Fr 54 a [(0, .int .i64 (p)), (1, .int .i64 (n)), (2, .int .i64 (k))] at hF
  refine sq ?_
  refine wp_region_lit ?_
  refine stR hF (d_alloc 0 hM ty_ze_27) rfl ?_
  rintro _ w' a ⟨b1, rfl, hM, -⟩ hF
  change Mem w w' [some (b1, tenC 0 0 0 0 (.slice none 0 0)), none, none] [] at hM
  refine st hF (g_assign hF rfl) rfl fun a hF => ?_
  refine wpList_nil ?_
  refine tN ?_
  refine sq ?_
  refine sq ?_
  refine wp_region_lit ?_
  refine st hF (g_move hF rfl) rfl fun a hF => ?_
  refine stR hF (d_call Try.call42 hF (.cons rfl .nil) (isPrime_ok (p) _)) rfl ?_
  rintro _ w' a ⟨hx, rfl⟩ hF
  have hM := hM.ext hx
  refine st hF (g_notP hF rfl) rfl fun a hF => st hF (g_move hF rfl) rfl fun a hF => ?_
  by_cases g2 : ¬ (primeP (p))
  ·
    first | rw [decide_eq_true g2] at hF | simp only [decide_eq_true g2] at hF
    refine stS hF rfl rfl rfl rfl rfl fun a hF => stS hF rfl rfl rfl rfl rfl fun a hF => st hF (g_pickT hF rfl rfl) rfl fun a hF => st hF (g_move hF rfl) rfl fun a hF => stS hF rfl rfl rfl rfl rfl fun a hF => stS hF rfl rfl rfl rfl rfl fun a hF => st hF (g_pickT hF rfl rfl) rfl fun a hF => st hF (g_move hF rfl) rfl fun a hF => stS hF rfl rfl rfl rfl rfl fun a hF => stS hF rfl rfl rfl rfl rfl fun a hF => st hF (g_pickT hF rfl rfl) rfl fun a hF => st hF (g_move hF rfl) rfl fun a hF => stS hF rfl rfl rfl rfl rfl fun a hF => stS hF rfl rfl rfl rfl rfl fun a hF => st hF (g_pickT hF rfl rfl) rfl fun a hF => ?_
    refine wpList_nil ?_
    refine tN ?_
    refine c_T hF rfl ?_
    refine sq ?_
    refine wp_region_lit ?_
    refine st hF (g_build0 ty_bu_27) rfl fun a hF => ?_
    refine stN hF (d_storeAgg 0 hM rfl ty_sz_27 hF rfl rfl (tenC_one rfl) (by simp only [fnC_size, cells_size, vecC_size, tabC_size, planeC_size, tenC_size, smC_size, numC_size]) (by simp only [fnC_size, cells_size, vecC_size, tabC_size, planeC_size, tenC_size, smC_size, numC_size] <;> omega) (splice_whole _ _ rfl)) ?_
    intro _ w' a hM hF
    change Mem w w' [some (b1, tenC 0 0 0 0 (.slice none 0 0)), none, none] [] at hM
    refine st hF (g_assign hF rfl) rfl fun a hF => ?_
    refine wpList_nil ?_
    refine tN ?_
    refine wp_ret ?_
    refine tR ?_
    refine fin2 rfl hF.defers (res_agg ty_ag_27 hF rfl (hM.row 0 rfl) (by simp only [fnC_size, cells_size, vecC_size, tabC_size, planeC_size, tenC_size, smC_size, numC_size])) (res_tmp hF rfl) ⟨_, rfl, hM.below, ?_⟩
    show _ = _
    rfl
  ·
    first | rw [decide_eq_false g2] at hF | simp only [decide_eq_false g2] at hF
    refine stY hF rfl rfl rfl (g_move hF rfl) rfl fun a hF => stY hF rfl rfl rfl (g_lss hF rfl rfl) rfl fun a hF => st hF (g_pickF hF rfl rfl) rfl fun a hF => st hF (g_move hF rfl) rfl fun a hF => ?_
    by_cases g4 : (n : Int) < 1
    ·
      first | rw [decide_eq_true g4] at hF | simp only [decide_eq_true g4] at hF
      refine stS hF rfl rfl rfl rfl rfl fun a hF => stS hF rfl rfl rfl rfl rfl fun a hF => st hF (g_pickT hF rfl rfl) rfl fun a hF => st hF (g_move hF rfl) rfl fun a hF => stS hF rfl rfl rfl rfl rfl fun a hF => stS hF rfl rfl rfl rfl rfl fun a hF => st hF (g_pickT hF rfl rfl) rfl fun a hF => st hF (g_move hF rfl) rfl fun a hF => stS hF rfl rfl rfl rfl rfl fun a hF => stS hF rfl rfl rfl rfl rfl fun a hF => st hF (g_pickT hF rfl rfl) rfl fun a hF => ?_
      refine wpList_nil ?_
      refine tN ?_
      refine c_T hF rfl ?_
      refine sq ?_
      refine wp_region_lit ?_
      refine st hF (g_build0 ty_bu_27) rfl fun a hF => ?_
      refine stN hF (d_storeAgg 0 hM rfl ty_sz_27 hF rfl rfl (tenC_one rfl) (by simp only [fnC_size, cells_size, vecC_size, tabC_size, planeC_size, tenC_size, smC_size, numC_size]) (by simp only [fnC_size, cells_size, vecC_size, tabC_size, planeC_size, tenC_size, smC_size, numC_size] <;> omega) (splice_whole _ _ rfl)) ?_
      intro _ w' a hM hF
      change Mem w w' [some (b1, tenC 0 0 0 0 (.slice none 0 0)), none, none] [] at hM
      refine st hF (g_assign hF rfl) rfl fun a hF => ?_
      refine wpList_nil ?_
      refine tN ?_
      refine wp_ret ?_
      refine tR ?_
      refine fin2 rfl hF.defers (res_agg ty_ag_27 hF rfl (hM.row 0 rfl) (by simp only [fnC_size, cells_size, vecC_size, tabC_size, planeC_size, tenC_size, smC_size, numC_size])) (res_tmp hF rfl) ⟨_, rfl, hM.below, ?_⟩
      show _ = _
      rfl
    ·
      first | rw [decide_eq_false g4] at hF | simp only [decide_eq_false g4] at hF
      refine stY hF rfl rfl rfl (g_move hF rfl) rfl fun a hF => stY hF rfl rfl rfl (g_gtr hF rfl rfl) rfl fun a hF => st hF (g_pickF hF rfl rfl) rfl fun a hF => st hF (g_move hF rfl) rfl fun a hF => ?_
      by_cases g6 : 6 < (n : Int)
      ·
        first | rw [decide_eq_true g6] at hF | simp only [decide_eq_true g6] at hF
        refine stS hF rfl rfl rfl rfl rfl fun a hF => stS hF rfl rfl rfl rfl rfl fun a hF => st hF (g_pickT hF rfl rfl) rfl fun a hF => st hF (g_move hF rfl) rfl fun a hF => stS hF rfl rfl rfl rfl rfl fun a hF => stS hF rfl rfl rfl rfl rfl fun a hF => st hF (g_pickT hF rfl rfl) rfl fun a hF => ?_
        refine wpList_nil ?_
        refine tN ?_
        refine c_T hF rfl ?_
        refine sq ?_
        refine wp_region_lit ?_
        refine st hF (g_build0 ty_bu_27) rfl fun a hF => ?_
        refine stN hF (d_storeAgg 0 hM rfl ty_sz_27 hF rfl rfl (tenC_one rfl) (by simp only [fnC_size, cells_size, vecC_size, tabC_size, planeC_size, tenC_size, smC_size, numC_size]) (by simp only [fnC_size, cells_size, vecC_size, tabC_size, planeC_size, tenC_size, smC_size, numC_size] <;> omega) (splice_whole _ _ rfl)) ?_
        intro _ w' a hM hF
        change Mem w w' [some (b1, tenC 0 0 0 0 (.slice none 0 0)), none, none] [] at hM
        refine st hF (g_assign hF rfl) rfl fun a hF => ?_
        refine wpList_nil ?_
        refine tN ?_
        refine wp_ret ?_
        refine tR ?_
        refine fin2 rfl hF.defers (res_agg ty_ag_27 hF rfl (hM.row 0 rfl) (by simp only [fnC_size, cells_size, vecC_size, tabC_size, planeC_size, tenC_size, smC_size, numC_size])) (res_tmp hF rfl) ⟨_, rfl, hM.below, ?_⟩
        show _ = _
        rfl
      ·
        first | rw [decide_eq_false g6] at hF | simp only [decide_eq_false g6] at hF
        refine stY hF rfl rfl rfl (g_move hF rfl) rfl fun a hF => stY hF rfl rfl rfl (g_lss hF rfl rfl) rfl fun a hF => st hF (g_pickF hF rfl rfl) rfl fun a hF => st hF (g_move hF rfl) rfl fun a hF => ?_
        by_cases g8 : (k : Int) < 0
        ·
          first | rw [decide_eq_true g8] at hF | simp only [decide_eq_true g8] at hF
          refine stS hF rfl rfl rfl rfl rfl fun a hF => stS hF rfl rfl rfl rfl rfl fun a hF => st hF (g_pickT hF rfl rfl) rfl fun a hF => ?_
          refine wpList_nil ?_
          refine tN ?_
          refine c_T hF rfl ?_
          refine sq ?_
          refine wp_region_lit ?_
          refine st hF (g_build0 ty_bu_27) rfl fun a hF => ?_
          refine stN hF (d_storeAgg 0 hM rfl ty_sz_27 hF rfl rfl (tenC_one rfl) (by simp only [fnC_size, cells_size, vecC_size, tabC_size, planeC_size, tenC_size, smC_size, numC_size]) (by simp only [fnC_size, cells_size, vecC_size, tabC_size, planeC_size, tenC_size, smC_size, numC_size] <;> omega) (splice_whole _ _ rfl)) ?_
          intro _ w' a hM hF
          change Mem w w' [some (b1, tenC 0 0 0 0 (.slice none 0 0)), none, none] [] at hM
          refine st hF (g_assign hF rfl) rfl fun a hF => ?_
          refine wpList_nil ?_
          refine tN ?_
          refine wp_ret ?_
          refine tR ?_
          refine fin2 rfl hF.defers (res_agg ty_ag_27 hF rfl (hM.row 0 rfl) (by simp only [fnC_size, cells_size, vecC_size, tabC_size, planeC_size, tenC_size, smC_size, numC_size])) (res_tmp hF rfl) ⟨_, rfl, hM.below, ?_⟩
          show _ = _
          rfl
        ·
          first | rw [decide_eq_false g8] at hF | simp only [decide_eq_false g8] at hF
          refine stY hF rfl rfl rfl (g_move hF rfl) rfl fun a hF => stY hF rfl rfl rfl (g_gtr hF rfl rfl) rfl fun a hF => st hF (g_pickF hF rfl rfl) rfl fun a hF => ?_
          refine wpList_nil ?_
          refine tN ?_
          refine c_cond hF rfl (fun h10 => ?_) (fun h10 => ?_)
          ·
            refine sq ?_
            refine wp_region_lit ?_
            refine st hF (g_build0 ty_bu_27) rfl fun a hF => ?_
            refine stN hF (d_storeAgg 0 hM rfl ty_sz_27 hF rfl rfl (tenC_one rfl) (by simp only [fnC_size, cells_size, vecC_size, tabC_size, planeC_size, tenC_size, smC_size, numC_size]) (by simp only [fnC_size, cells_size, vecC_size, tabC_size, planeC_size, tenC_size, smC_size, numC_size] <;> omega) (splice_whole _ _ rfl)) ?_
            intro _ w' a hM hF
            change Mem w w' [some (b1, tenC 0 0 0 0 (.slice none 0 0)), none, none] [] at hM
            refine st hF (g_assign hF rfl) rfl fun a hF => ?_
            refine wpList_nil ?_
            refine tN ?_
            refine wp_ret ?_
            refine tR ?_
            refine fin2 rfl hF.defers (res_agg ty_ag_27 hF rfl (hM.row 0 rfl) (by simp only [fnC_size, cells_size, vecC_size, tabC_size, planeC_size, tenC_size, smC_size, numC_size])) (res_tmp hF rfl) ⟨_, rfl, hM.below, ?_⟩
            show _ = _
            rfl
          ·
            exact absurd ⟨Decidable.not_not.1 (by assumption), by omega, by omega, by omega, by omega⟩ hA

theorem IdentityTensorSA (p n k : Int) (w : World) (hA : ¬ (primeP p ∧ 1 ≤ n ∧ n ≤ 6 ∧ 0 ≤ k ∧ k ≤ 8)) :
    CallsR Try.prog 18 #[.int .i64 (p), .int .i64 (n), .int .i64 (k)] w (fun res _ => res = .tuple #[.agg (tenC 0 0 0 0 (.slice none 0 0)), .int .i64 2]) := by
  refine calls_fr [.int .i64 (p), .int .i64 (n), .int .i64 (k)] Try.func18 rfl Try.ntmps18 rfl fun a hF => ?_
  have hM : Mem w w [none, none] [] := MemX.start w 2
  change Fr 26 a [(0, .int .i64 (p)), (1, .int .i64 (n)), (2, .int .i64 (k))] at hF
  refine sq ?_
  refine wp_region_lit ?_
  refine stR hF (d_alloc 0 hM ty_ze_27) rfl ?_
  rintro _ w' a ⟨b1, rfl, hM, -⟩ hF
  change Mem w w' [some (b1, tenC 0 0 0 0 (.slice none 0 0)), none] [] at hM
  refine st hF (g_assign hF rfl) rfl fun a hF => ?_
  refine wpList_nil ?_
  refine tN ?_
  refine sq ?_
  refine sq ?_
  refine wp_region_lit ?_
  refine st hF (g_move hF rfl) rfl fun a hF => ?_
  refine stR hF (d_call Try.call46 hF (.cons rfl (.cons rfl (.cons rfl .nil))) (l01In_ok (k) (0) (8) _)) rfl ?_
  rintro _ w' a ⟨hx, rfl⟩ hF
  have hM := hM.ext hx
  refine st hF (g_notP hF rfl) rfl fun a hF => ?_
  refine wpList_nil ?_
  refine tN ?_
  refine c_cond hF rfl (fun h2 => ?_) (fun h2 => ?_)
  ·
    refine sq ?_
    refine wp_region_lit ?_
    refine st hF (g_build0 ty_bu_27) rfl fun a hF => ?_
    refine stN hF (d_storeAgg 0 hM rfl ty_sz_27 hF rfl rfl (tenC_one rfl) (by simp only [fnC_size, cells_size, vecC_size, tabC_size, planeC_size, tenC_size, smC_size, numC_size]) (by simp only [fnC_size, cells_size, vecC_size, tabC_size, planeC_size, tenC_size, smC_size, numC_size] <;> omega) (splice_whole _ _ rfl)) ?_
    intro _ w' a hM hF
    change Mem w w' [some (b1, tenC 0 0 0 0 (.slice none 0 0)), none] [] at hM
    refine st hF (g_assign hF rfl) rfl fun a hF => ?_
    refine wpList_nil ?_
    refine tN ?_
    refine wp_ret ?_
    refine tR ?_
    refine fin2 rfl hF.defers (res_agg ty_ag_27 hF rfl (hM.row 0 rfl) (by simp only [fnC_size, cells_size, vecC_size, tabC_size, planeC_size, tenC_size, smC_size, numC_size])) (res_tmp hF rfl) ⟨_, rfl, hM.below, ?_⟩
    show _ = _
    rfl
  ·
    refine wp_skip ?_
    refine tN ?_
    refine sq ?_
    refine sq ?_
    refine wp_region_lit ?_
    refine st hF (g_move hF rfl) rfl fun a hF => st hF (g_move hF rfl) rfl fun a hF => st hF (g_move hF rfl) rfl fun a hF => st hF (g_move hF rfl) rfl fun a hF => ?_
    refine stR hF (d_call Try.call47 hF (.cons rfl (.cons rfl (.cons rfl (.cons rfl .nil)))) (l03Sizes_A (p) (n) (k) (k) _ (by first | exact hA3 | (intro hq; exact hA ⟨hq.1, hq.2.1, hq.2.2, by omega, by omega⟩)))) rfl ?_
    rintro _ w' a ⟨hx, rfl⟩ hF
    have hM := hM.ext hx
    refine st hF (g_assign hF rfl) rfl fun a hF => ?_
    refine wpList_nil ?_
    refine tN ?_
    refine sq ?_
    refine wp_region_lit ?_
    refine st hF (g_move hF rfl) rfl fun a hF => st hF (g_neq hF rfl rfl) rfl fun a hF => ?_
    refine wpList_nil ?_
    refine tN ?_
    refine c_kT hF rfl (by decide) ?_
    refine sq ?_
    refine wp_region_lit ?_
    refine st hF (g_build0 ty_bu_27) rfl fun a hF => st hF (g_move hF rfl) rfl fun a hF => ?_
    refine stN hF (d_storeAgg 0 hM rfl ty_sz_27 hF rfl rfl (tenC_one rfl) (by simp only [fnC_size, cells_size, vecC_size, tabC_size, planeC_size, tenC_size, smC_size, numC_size]) (by simp only [fnC_size, cells_size, vecC_size, tabC_size, planeC_size, tenC_size, smC_size, numC_size] <;> omega) (splice_whole _ _ rfl)) ?_
    intro _ w' a hM hF
    change Mem w w' [some (b1, tenC 0 0 0 0 (.slice none 0 0)), none] [] at hM
    refine st hF (g_assign hF rfl) rfl fun a hF => ?_
    refine wpList_nil ?_
    refine tN ?_
    refine wp_ret ?_
    refine tR ?_
    refine fin2 rfl hF.defers (res_agg ty_ag_27 hF rfl (hM.row 0 rfl) (by simp only [fnC_size, cells_size, vecC_size, tabC_size, planeC_size, tenC_size, smC_size, numC_size])) (res_tmp hF rfl) ⟨_, rfl, hM.below, ?_⟩
    show _ = _
    rfl

theorem IdentityTensorIL (p n k : Nat) (w : World) (hpP : primeP (p : Int)) (hn0 : 0 < n) (hn : n ≤ 6) (hk : k ≤ 8) (hw : ¬ wl n k k) :
    CallsR Try.prog 19 #[.int .i64 (((p : Nat) : Int)), .int .i64 (((n : Nat) : Int)), .int .i64 (((k : Nat) : Int))] w (fun res _ => res = .tuple #[.agg (tenC 0 0 0 0 (.slice none 0 0)), .int .i64 3]) := by
  refine calls_fr [.int .i64 (((p : Nat) : Int)), .int .i64 (((n : Nat) : Int)), .int .i64 (((k : Nat) : Int))] Try.func19 rfl Try.ntmps19 rfl fun a hF => ?_
  have hM : Mem w w [none, none, none] [] := MemX.start w 3
  change Fr 54 a [(0, .int .i64 (((p : Nat) : Int))), (1, .int .i64 (((n : Nat) : Int))), (2, .int .i64 (((k : Nat) : Int)))] at hF
  refine sq ?_
  refine wp_region_lit ?_
  refine stR hF (d_alloc 0 hM ty_ze_27) rfl ?_
  rintro _ w' a ⟨b1, rfl, hM, -⟩ hF
  change Mem w w' [some (b1, tenC 0 0 0 0 (.slice none 0 0)), none, none] [] at hM
  refine st hF (g_assign hF rfl) rfl fun a hF => ?_
  refine wpList_nil ?_
  refine tN ?_
  refine sq ?_
  refine sq ?_
  refine wp_region_lit ?_
  refine st hF (g_move hF rfl) rfl fun a hF => ?_
  refine stR hF (d_call Try.call42 hF (.cons rfl .nil) (isPrime_ok (((p : Nat) : Int)) _)) rfl ?_
  rintro _ w' a ⟨hx, rfl⟩ hF
  have hM := hM.ext hx
  refine st hF (g_notP hF rfl) rfl fun a hF => st hF (g_move hF rfl) rfl fun a hF => ?_
  by_cases g2 : ¬ (primeP (((p : Nat) : Int)))
  ·
    first | rw [decide_eq_true g2] at hF | simp only [decide_eq_true g2] at hF
    first | exact absurd hpP g2 | (exfalso; omega)
  ·
    first | rw [decide_eq_false g2] at hF | simp only [decide_eq_false g2] at hF
    refine stY hF rfl rfl rfl (g_move hF rfl) rfl fun a hF => stY hF rfl rfl rfl (g_lss hF rfl rfl) rfl fun a hF => st hF (g_pickF hF rfl rfl) rfl fun a hF => st hF (g_move hF rfl) rfl fun a hF => ?_
    by_cases g3 : (((n : Nat) : Int) : Int) < 1
    ·
      first | rw [decide_eq_true g3] at hF | simp only [decide_eq_true g3] at hF
      first | exact absurd hpP g3 | (exfalso; omega)
    ·
      first | rw [decide_eq_false g3] at hF | simp only [decide_eq_false g3] at hF
      refine stY hF rfl rfl rfl (g_move hF rfl) rfl fun a hF => stY hF rfl rfl rfl (g_gtr hF rfl rfl) rfl fun a hF => st hF (g_pickF hF rfl rfl) rfl fun a hF => st hF (g_move hF rfl) rfl fun a hF => ?_
      by_cases g4 : 6 < (((n : Nat) : Int) : Int)
      ·
        first | rw [decide_eq_true g4] at hF | simp only [decide_eq_true g4] at hF
        first | exact absurd hpP g4 | (exfalso; omega)
      ·
        first | rw [decide_eq_false g4] at hF | simp only [decide_eq_false g4] at hF
        refine stY hF rfl rfl rfl (g_move hF rfl) rfl fun a hF => stY hF rfl rfl rfl (g_lss hF rfl rfl) rfl fun a hF => st hF (g_pickF hF rfl rfl) rfl fun a hF => st hF (g_move hF rfl) rfl fun a hF => ?_
        by_cases g5 : (((k : Nat) : Int) : Int) < 0
        ·
          first | rw [decide_eq_true g5] at hF | simp only [decide_eq_true g5] at hF
          first | exact absurd hpP g5 | (exfalso; omega)
        ·
          first | rw [decide_eq_false g5] at hF | simp only [decide_eq_false g5] at hF
          refine stY hF rfl rfl rfl (g_move hF rfl) rfl fun a hF => stY hF rfl rfl rfl (g_gtr hF rfl rfl) rfl fun a hF => st hF (g_pickF hF rfl rfl) rfl fun a hF => ?_
          refine wpList_nil ?_
          refine tN ?_
          refine c_cond hF rfl (fun h6 => ?_) (fun h6 => ?_)
          ·
            first | exact absurd hpP h6 | (exfalso; omega)
          ·
            refine wp_skip ?_
            refine tN ?_
            refine sq ?_
            refine sq ?_
            refine wp_region_lit ?_
            refine st hF (g_move hF rfl) rfl fun a hF => st hF (g_move hF rfl) rfl fun a hF => st hF (g_move hF rfl) rfl fun a hF => ?_
            refine stR hF (d_call Try.call43 hF (.cons rfl (.cons rfl (.cons rfl .nil))) (isWithinLimits_ok (n) (k) (k) _ (by omega))) rfl ?_
            rintro _ w' a ⟨hx, rfl⟩ hF
            have hM := hM.ext hx
            refine st hF (g_notP hF rfl) rfl fun a hF => ?_
            refine wpList_nil ?_
            refine tN ?_
            refine c_cond hF rfl (fun h7 => ?_) (fun h7 => ?_)
            ·
              refine sq ?_
              refine wp_region_lit ?_
              refine st hF (g_build0 ty_bu_27) rfl fun a hF => ?_
              refine stN hF (d_storeAgg 0 hM rfl ty_sz_27 hF rfl rfl (tenC_one rfl) (by simp only [fnC_size, cells_size, vecC_size, tabC_size, planeC_size, tenC_size, smC_size, numC_size]) (by simp only [fnC_size, cells_size, vecC_size, tabC_size, planeC_size, tenC_size, smC_size, numC_size] <;> omega) (splice_whole _ _ rfl)) ?_
              intro _ w' a hM hF
              change Mem w w' [some (b1, tenC 0 0 0 0 (.slice none 0 0)), none, none] [] at hM
              refine st hF (g_assign hF rfl) rfl fun a hF => ?_
              refine wpList_nil ?_
              refine tN ?_
              refine wp_ret ?_
              refine tR ?_
              refine fin2 rfl hF.defers (res_agg ty_ag_27 hF rfl (hM.row 0 rfl) (by simp only [fnC_size, cells_size, vecC_size, tabC_size, planeC_size, tenC_size, smC_size, numC_size])) (res_tmp hF rfl) ⟨_, rfl, hM.below, ?_⟩
              show _ = _
              rfl
            ·
              exact absurd (Decidable.not_not.1 h7) hw

theorem IdentityTensorSL (p n k : Nat) (w : World) (hpP : primeP (p : Int)) (hn0 : 0 < n) (hn : n ≤ 6) (hk : k ≤ 8) (hw : ¬ wl n k k) :
    CallsR Try.prog 18 #[.int .i64 (((p : Nat) : Int)), .int .i64 (((n : Nat) : Int)), .int .i64 (((k : Nat) : Int))] w (fun res _ => res = .tuple #[.agg (tenC 0 0 0 0 (.slice none 0 0)), .int .i64 3]) := by
  refine calls_fr [.int .i64 (((p : Nat) : Int)), .int .i64 (((n : Nat) : Int)), .int .i64 (((k : Nat) : Int))] Try.func18 rfl Try.ntmps18 rfl fun a hF => ?_
  have hM : Mem w w [none, none] [] := MemX.start w 2
  change Fr 26 a [(0, .int .i64 (((p : Nat) : Int))), (1, .int .i64 (((n : Nat) : Int))), (2, .int .i64 (((k : Nat) : Int)))] at hF
  refine sq ?_
  refine wp_region_lit ?_
  refine stR hF (d_alloc 0 hM ty_ze_27) rfl ?_
  rintro _ w' a ⟨b1, rfl, hM, -⟩ hF
  change Mem w w' [some (b1, tenC 0 0 0 0 (.slice none 0 0)), none] [] at hM
  refine st hF (g_assign hF rfl) rfl fun a hF => ?_
  refine wpList_nil ?_
  refine tN ?_
  refine sq ?_
  refine sq ?_
  refine wp_region_lit ?_
  refine st hF (g_move hF rfl) rfl fun a hF => ?_
  refine stR hF (d_call Try.call46 hF (.cons rfl (.cons rfl (.cons rfl .nil))) (l01In_ok (((k : Nat) : Int)) (0) (8) _)) rfl ?_
  rintro _ w' a ⟨hx, rfl⟩ hF
  have hM := hM.ext hx
  refine st hF (g_notP hF rfl) rfl fun a hF => ?_
  refine wpList_nil ?_
  refine tN ?_
  refine c_cond hF rfl (fun h2 => ?_) (fun h2 => ?_)
  ·
    exfalso; omega
  ·
    refine wp_skip ?_
    refine tN ?_
    refine sq ?_
    refine sq ?_
    refine wp_region_lit ?_
    refine st hF (g_move hF rfl) rfl fun a hF => st hF (g_move hF rfl) rfl fun a hF => st hF (g_move hF rfl) rfl fun a hF => st hF (g_move hF rfl) rfl fun a hF => ?_
    refine stR hF (d_call Try.call47 hF (.cons rfl (.cons rfl (.cons rfl (.cons rfl .nil)))) ((CallsR.val (l03Sizes_ok (((p : Nat) : Int)) (n) (k) (k) _ hpP (by omega) (by omega) (by omega) (by omega)) (congrArg (Value.int .i64) (if_neg hw))))) rfl ?_
    rintro _ w' a ⟨hx, rfl⟩ hF
    have hM := hM.ext hx
    refine st hF (g_assign hF rfl) rfl fun a hF => ?_
    refine wpList_nil ?_
    refine tN ?_
    refine sq ?_
    refine wp_region_lit ?_
    refine st hF (g_move hF rfl) rfl fun a hF => st hF (g_neq hF rfl rfl) rfl fun a hF => ?_
    refine wpList_nil ?_
    refine tN ?_
    refine c_kT hF rfl (by decide) ?_
    refine sq ?_
    refine wp_region_lit ?_
    refine st hF (g_build0 ty_bu_27) rfl fun a hF => st hF (g_move hF rfl) rfl fun a hF => ?_
    refine stN hF (d_storeAgg 0 hM rfl ty_sz_27 hF rfl rfl (tenC_one rfl) (by simp only [fnC_size, cells_size, vecC_size, tabC_size, planeC_size, tenC_size, smC_size, numC_size]) (by simp only [fnC_size, cells_size, vecC_size, tabC_size, planeC_size, tenC_size, smC_size, numC_size] <;> omega) (splice_whole _ _ rfl)) ?_
    intro _ w' a hM hF
    change Mem w w' [some (b1, tenC 0 0 0 0 (.slice none 0 0)), none] [] at hM
    refine st hF (g_assign hF rfl) rfl fun a hF => ?_
    refine wpList_nil ?_
    refine tN ?_
    refine wp_ret ?_
    refine tR ?_
    refine fin2 rfl hF.defers (res_agg ty_ag_27 hF rfl (hM.row 0 rfl) (by simp only [fnC_size, cells_size, vecC_size, tabC_size, planeC_size, tenC_size, smC_size, numC_size])) (res_tmp hF rfl) ⟨_, rfl, hM.below, ?_⟩
    show _ = _
    rfl

theorem IdentityTensorIB (p n k : Nat) (w : World) (hpP : primeP (p : Int)) (hn0 : 0 < n) (hn : n ≤ 6) (hw : wl n k k) :
    CallsR Try.prog 19 #[.int .i64 (((p : Nat) : Int)), .int .i64 (((n : Nat) : Int)), .int .i64 (((k : Nat) : Int))] w (fun v w' => TenOut0 w w' (p : Int) (n : Int) (k : Int) (k : Int) (n ^ (k + k)) (dgF (n ^ k) (n ^ k)) v) := by
  refine calls_fr [.int .i64 (((p : Nat) : Int)), .int .i64 (((n : Nat) : Int)), .int .i64 (((k : Nat) : Int))] Try.func19 rfl Try.ntmps19 rfl fun a hF => ?_
  have hM : Mem w w [none, none, none] [] := MemX.start w 3
  change Fr 54 a [(0, .int .i64 (((p : Nat) : Int))), (1, .int .i64 (((n : Nat) : Int))), (2, .int .i64 (((k : Nat) : Int)))] at hF
  have hw3 := hw.2.2
  have hw1 := hw.1
  have hk1 := half_le hn0 hw3
  refine sq ?_
  refine wp_region_lit ?_
  refine stR hF (d_alloc 0 hM ty_ze_27) rfl ?_
  rintro _ w' a ⟨b1, rfl, hM, -⟩ hF
  change Mem w w' [some (b1, tenC 0 0 0 0 (.slice none 0 0)), none, none] [] at hM
  refine st hF (g_assign hF rfl) rfl fun a hF => ?_
  refine wpList_nil ?_
  refine tN ?_
  refine sq ?_
  refine sq ?_
  refine wp_region_lit ?_
  refine st hF (g_move hF rfl) rfl fun a hF => ?_
  refine stR hF (d_call Try.call42 hF (.cons rfl .nil) (isPrime_ok (((p : Nat) : Int)) _)) rfl ?_
  rintro _ w' a ⟨hx, rfl⟩ hF
  have hM := hM.ext hx
  refine st hF (g_notP hF rfl) rfl fun a hF => st hF (g_move hF rfl) rfl fun a hF => ?_
  by_cases g2 : ¬ (primeP (((p : Nat) : Int)))
  ·
    first | rw [decide_eq_true g2] at hF | simp only [decide_eq_true g2] at hF
    first | exact absurd hpP g2 | (exfalso; omega)
  ·
    first | rw [decide_eq_false g2] at hF | simp only [decide_eq_false g2] at hF
    refine stY hF rfl rfl rfl (g_move hF rfl) rfl fun a hF => stY hF rfl rfl rfl (g_lss hF rfl rfl) rfl fun a hF => st hF (g_pickF hF rfl rfl) rfl fun a hF => st hF (g_move hF rfl) rfl fun a hF => ?_
    by_cases g3 : (((n : Nat) : Int) : Int) < 1
    ·
      first | rw [decide_eq_true g3] at hF | simp only [decide_eq_true g3] at hF
      first | exact absurd hpP g3 | (exfalso; omega)
    ·
      first | rw [decide_eq_false g3] at hF | simp only [decide_eq_false g3] at hF
      refine stY hF rfl rfl rfl (g_move hF rfl) rfl fun a hF => stY hF rfl rfl rfl (g_gtr hF rfl rfl) rfl fun a hF => st hF (g_pickF hF rfl rfl) rfl fun a hF => st hF (g_move hF rfl) rfl fun a hF => ?_
      by_cases g4 : 6 < (((n : Nat) : Int) : Int)
      ·
        first | rw [decide_eq_true g4] at hF | simp only [decide_eq_true g4] at hF
        first | exact absurd hpP g4 | (exfalso; omega)
      ·
        first | rw [decide_eq_false g4] at hF | simp only [decide_eq_false g4] at hF
        refine stY hF rfl rfl rfl (g_move hF rfl) rfl fun a hF => stY hF rfl rfl rfl (g_lss hF rfl rfl) rfl fun a hF => st hF (g_pickF hF rfl rfl) rfl fun a hF => st hF (g_move hF rfl) rfl fun a hF => ?_
        by_cases g5 : (((k : Nat) : Int) : Int) < 0
        ·
          first | rw [decide_eq_true g5] at hF | simp only [decide_eq_true g5] at hF
          first | exact absurd hpP g5 | (exfalso; omega)
        ·
          first | rw [decide_eq_false g5] at hF | simp only [decide_eq_false g5] at hF
          refine stY hF rfl rfl rfl (g_move hF rfl) rfl fun a hF => stY hF rfl rfl rfl (g_gtr hF rfl rfl) rfl fun a hF => st hF (g_pickF hF rfl rfl) rfl fun a hF => ?_
          refine wpList_nil ?_
          refine tN ?_
          refine c_cond hF rfl (fun h6 => ?_) (fun h6 => ?_)
          ·
            first | exact absurd hpP h6 | exact absurd hw h6 | (exfalso; omega)
          ·
            refine wp_skip ?_
            refine tN ?_
            refine sq ?_
            refine sq ?_
            refine wp_region_lit ?_
            refine st hF (g_move hF rfl) rfl fun a hF => st hF (g_move hF rfl) rfl fun a hF => st hF (g_move hF rfl) rfl fun a hF => ?_
            refine stR hF (d_call Try.call43 hF (.cons rfl (.cons rfl (.cons rfl .nil))) (isWithinLimits_ok (n) (k) (k) _ (by omega))) rfl ?_
            rintro _ w' a ⟨hx, rfl⟩ hF
            have hM := hM.ext hx
            refine st hF (g_notP hF rfl) rfl fun a hF => ?_
            refine wpList_nil ?_
            refine tN ?_
            refine c_cond hF rfl (fun h7 => ?_) (fun h7 => ?_)
            ·
              exact absurd hw h7
            ·
              refine wp_skip ?_
              refine tN ?_
              refine sq ?_
              refine wp_region_lit ?_
              refine st hF (g_move hF rfl) rfl fun a hF => st hF (g_move hF rfl) rfl fun a hF => st hF (g_move hF rfl) rfl fun a hF => st hF (g_move hF rfl) rfl fun a hF => ?_
              refine stR hF (d_call Try.call49 hF (.cons rfl (.cons rfl (.cons rfl (.cons rfl .nil)))) (zeroTensor_ok (p) (n) (k) (k) _ (by omega) (by omega) hw)) rfl ?_
              rintro _ w' a ⟨hx, b8, rfl, hge, hbk⟩ hF
              have hM := hM.fill hx 1 hbk hge
              change Mem w w' [some (b1, tenC 0 0 0 0 (.slice none 0 0)), some (b8, numC ((n) ^ ((k) + (k))) (fun _ => 0)), none] [] at hM
              refine stR hF (d_alloc 2 hM ty_ze_27) rfl ?_
              rintro _ w' a ⟨b9, rfl, hM, -⟩ hF
              change Mem w w' [some (b1, tenC 0 0 0 0 (.slice none 0 0)), some (b8, numC ((n) ^ ((k) + (k))) (fun _ => 0)), some (b9, tenC 0 0 0 0 (.slice none 0 0))] [] at hM
              refine stN hF (d_storeAgg 2 hM rfl ty_sz_27 hF rfl rfl (tenC_one rfl) (by simp only [fnC_size, cells_size, vecC_size, tabC_size, planeC_size, tenC_size, smC_size, numC_size]) (by simp only [fnC_size, cells_size, vecC_size, tabC_size, planeC_size, tenC_size, smC_size, numC_size] <;> omega) (splice_whole _ _ rfl)) ?_
              intro _ w' a hM hF
              change Mem w w' [some (b1, tenC 0 0 0 0 (.slice none 0 0)), some (b8, numC ((n) ^ ((k) + (k))) (fun _ => 0)), some (b9, tenC ((p : Nat) : Int) ((n : Nat) : Int) ((k : Nat) : Int) ((k : Nat) : Int) (.slice (some ⟨b8, 0, none⟩) ((n) ^ ((k) + (k))) ((n) ^ ((k) + (k)))))] [] at hM
              refine wpList_nil ?_
              refine tN ?_
              refine sq ?_
              refine sq ?_
              refine wp_region_lit ?_
              refine st hF (g_move hF rfl) rfl fun a hF => st hF (g_move hF rfl) rfl fun a hF => ?_
              refine stR hF (d_call Try.call44 hF (.cons rfl (.cons rfl .nil)) (countChoices_ok (n) (k) _ (by omega) (by omega))) rfl ?_
              rintro _ w' a ⟨hx, rfl⟩ hF
              have hM := hM.ext hx
              refine st hF (g_move hF rfl) rfl fun a hF => ?_
              refine wpList_nil ?_
              refine tN ?_
              refine wp_block ?_
              change Mem w _ [some (b1, tenC 0 0 0 0 (.slice none 0 0)), some (b8, numC ((n) ^ ((k) + (k))) (fun _ => 0)), some (b9, tenC ((p : Nat) : Int) ((n : Nat) : Int) ((k : Nat) : Int) ((k : Nat) : Int) (.slice (some ⟨b8, 0, none⟩) ((n) ^ ((k) + (k))) ((n) ^ ((k) + (k)))))] [] at hM
              refine c_loop (fun (kk : Nat) a w' => kk ≤ n ^ k ∧ (True) ∧ Fr 54 a [(0, .int .i64 (((p : Nat) : Int))), (1, .int .i64 (((n : Nat) : Int))), (2, .int .i64 (((k : Nat) : Int))), (6, ptr b1 (0)), (7, .int .i64 (0)), (10, .int .i64 (((p : Nat) : Int))), (11, .bool (decide (primeP (((p : Nat) : Int))))), (12, .bool (false)), (13, .bool (false)), (14, .int .i64 (((n : Nat) : Int))), (15, .bool (false)), (16, .bool (false)), (17, .bool (false)), (18, .int .i64 (((n : Nat) : Int))), (19, .bool (false)), (20, .bool (false)), (21, .bool (false)), (22, .int .i64 (((k : Nat) : Int))), (23, .bool (false)), (24, .bool (false)), (25, .bool (false)), (26, .int .i64 (((k : Nat) : Int))), (27, .bool (decide (8 < (((k : Nat) : Int) : Int)))), (28, .bool (decide (8 < (((k : Nat) : Int) : Int)))), (30, .int .i64 (((n : Nat) : Int))), (31, .int .i64 (((k : Nat) : Int))), (32, .int .i64 (((k : Nat) : Int))), (33, .bool (decide (wl (n) (k) (k)))), (34, .bool (decide (¬ (wl (n) (k) (k))))), (36, .int .i64 (((p : Nat) : Int))), (37, .int .i64 (((n : Nat) : Int))), (38, .int .i64 (((k : Nat) : Int))), (39, .int .i64 (((k : Nat) : Int))), (40, .agg (tenC ((p : Nat) : Int) ((n : Nat) : Int) ((k : Nat) : Int) ((k : Nat) : Int) (.slice (some ⟨b8, 0, none⟩) ((n) ^ ((k) + (k))) ((n) ^ ((k) + (k)))))), (8, ptr b9 (0)), (41, .int .i64 (((n : Nat) : Int))), (42, .int .i64 (((k : Nat) : Int))), (43, .int .i64 ((((n) ^ (k) : Nat) : Int))), (44, .int .i64 (((kk : Nat) : Int)))] ∧ Mem w w' [some (b1, tenC 0 0 0 0 (.slice none 0 0)), some (b8, numC (n ^ (k + k)) (dgF (n ^ k) kk)), some (b9, tenC ((p : Nat) : Int) ((n : Nat) : Int) ((k : Nat) : Int) ((k : Nat) : Int) (.slice (some ⟨b8, 0, none⟩) ((n) ^ ((k) + (k))) ((n) ^ ((k) + (k)))))] []) (fun kk => n ^ k - kk) 0 ?_ ?_
              ·
                refine ⟨by omega, trivial, hF.sub _ (by repeat' constructor), ?_⟩
                refine hM.rowc 1 rfl (numC_congr fun c hc => dg_0.symm)
              ·
                clear hF hM
                rintro gk a w' ⟨hgk, hinv1, hF, hM⟩
                have hidx : gk < n ^ k → gk * n ^ k + n ^ k ≤ n ^ (k + k) := idx_bd
                refine sq ?_
                refine wp_region_lit ?_
                refine st hF (g_lss hF rfl rfl) rfl fun a hF => ?_
                refine wpList_nil ?_
                refine tN ?_
                refine sq ?_
                refine c_cond hF rfl (fun h10 => ?_) (fun h10 => ?_)
                ·
                  refine wp_skip ?_
                  refine tN ?_
                  refine sq ?_
                  refine wp_block ?_
                  refine sq ?_
                  refine wp_region_lit ?_
                  refine st hF (g_move hF rfl) rfl fun a hF => st hF (g_assign hF rfl) rfl fun a hF => ?_
                  refine wpList_nil ?_
                  refine tN ?_
                  refine wp_region_lit ?_
                  refine st hF (g_loadAgg ty_ag_27 hF rfl (hM.row 2 rfl) (by simp only [fnC_size, cells_size, vecC_size, tabC_size, planeC_size, tenC_size, smC_size, numC_size] <;> omega) (whole rfl)) rfl fun a hF => st hF (g_move hF rfl) rfl fun a hF => ?_
                  refine stR hF (d_call Try.call50 hF (.cons rfl (.cons rfl .nil)) (rowOf_ok (p) (n) (k) (k) b8 ((n) ^ ((k) + (k))) (gk) _ (by omega) (by omega) (by omega) (by omega) (by omega))) rfl ?_
                  rintro _ w' a ⟨hx, rfl⟩ hF
                  have hM := hM.ext hx
                  refine st hF (g_move hF rfl) rfl fun a hF => st hF (g_indexSl (i := gk) ty_sl_22 hF rfl rfl rfl (by omega)) rfl fun a hF => ?_
                  refine stN hF (d_store 1 hM rfl ty_on_2 hF rfl rfl rfl (by first | omega | (simp only [fnC_size, cells_size, vecC_size, tabC_size, planeC_size, tenC_size, smC_size, numC_size] <;> omega))) ?_
                  intro _ w' a hM hF
                  rw [show (numC (n ^ (k + k)) (dgF (n ^ k) gk)).setIfInBounds (0 + (gk) * (n) ^ (k) * 1 + (gk) * 1) (.int .i64 (1)) = numC (n ^ (k + k)) (fun c => if c = (gk) * (n) ^ (k) + (gk) then 1 else (dgF (n ^ k) gk) c) from numC_set (k := (gk) * (n) ^ (k) + (gk)) (by omega) (fun c _ => rfl)] at hM
                  change Mem w w' [some (b1, tenC 0 0 0 0 (.slice none 0 0)), some (b8, numC (n ^ (k + k)) (fun c => if c = (gk) * (n) ^ (k) + (gk) then 1 else (dgF (n ^ k) gk) c)), some (b9, tenC ((p : Nat) : Int) ((n : Nat) : Int) ((k : Nat) : Int) ((k : Nat) : Int) (.slice (some ⟨b8, 0, none⟩) ((n) ^ ((k) + (k))) ((n) ^ ((k) + (k)))))] [] at hM
                  refine wpList_nil ?_
                  refine iN ?_
                  refine tN ?_
                  refine wp_region_lit ?_
                  refine st hF (g_add hF rfl rfl (add_nat (gk) (1) (by omega))) rfl fun a hF => st hF (g_move hF rfl) rfl fun a hF => ?_
                  refine wpList_nil ?_
                  refine tN ?_
                  refine ⟨gk + 1, ⟨by omega, trivial, hF.sub _ (by repeat' constructor), ?_⟩, by omega⟩
                  refine hM.rowc 1 rfl (numC_congr fun c hc => dg_step)
                ·
                  obtain rfl : n ^ k = gk := by omega
                  refine wp_exit ?_
                  refine tX ?_
                  refine tX ?_
                  refine ib_same ?_
                  refine tN ?_
                  refine sq ?_
                  refine wp_region_lit ?_
                  refine st hF (g_loadAgg ty_ag_27 hF rfl (hM.row 2 rfl) (by simp only [fnC_size, cells_size, vecC_size, tabC_size, planeC_size, tenC_size, smC_size, numC_size] <;> omega) (whole rfl)) rfl fun a hF => ?_
                  refine stN hF (d_storeAgg 0 hM rfl ty_sz_27 hF rfl rfl (tenC_one rfl) (by simp only [fnC_size, cells_size, vecC_size, tabC_size, planeC_size, tenC_size, smC_size, numC_size]) (by simp only [fnC_size, cells_size, vecC_size, tabC_size, planeC_size, tenC_size, smC_size, numC_size] <;> omega) (splice_whole _ _ rfl)) ?_
                  intro _ w' a hM hF
                  change Mem w w' [some (b1, tenC ((p : Nat) : Int) ((n : Nat) : Int) ((k : Nat) : Int) ((k : Nat) : Int) (.slice (some ⟨b8, 0, none⟩) ((n) ^ ((k) + (k))) ((n) ^ ((k) + (k))))), some (b8, numC (n ^ (k + k)) (dgF (n ^ k) (n ^ k))), some (b9, tenC ((p : Nat) : Int) ((n : Nat) : Int) ((k : Nat) : Int) ((k : Nat) : Int) (.slice (some ⟨b8, 0, none⟩) ((n) ^ ((k) + (k))) ((n) ^ ((k) + (k)))))] [] at hM
                  refine st hF (g_assign hF rfl) rfl fun a hF => ?_
                  refine wpList_nil ?_
                  refine tN ?_
                  refine wp_ret ?_
                  refine fin2 rfl hF.defers (res_agg ty_ag_27 hF rfl (hM.row 0 rfl) (by simp only [fnC_size, cells_size, vecC_size, tabC_size, planeC_size, tenC_size, smC_size, numC_size])) (res_tmp hF rfl) ⟨_, rfl, hM.below, ?_⟩
                  exact ⟨_, rfl, hM.ge 1 rfl, hM.row 1 rfl⟩

theorem IdentityTensorSB (p n k : Nat) (w : World) (hpP : primeP (p : Int)) (hn0 : 0 < n) (hn : n ≤ 6) (hw : wl n k k) :
    CallsR Try.prog 18 #[.int .i64 (((p : Nat) : Int)), .int .i64 (((n : Nat) : Int)), .int .i64 (((k : Nat) : Int))] w (fun v w' => TenOut0 w w' (p : Int) (n : Int) (k : Int) (k : Int) (n ^ (k + k)) (dgF (n ^ k) (n ^ k)) v) := by
  refine calls_fr [.int .i64 (((p : Nat) : Int)), .int .i64 (((n : Nat) : Int)), .int .i64 (((k : Nat) : Int))] Try.func18 rfl Try.ntmps18 rfl fun a hF => ?_
  have hM : Mem w w [none, none] [] := MemX.start w 2
  change Fr 26 a [(0, .int .i64 (((p : Nat) : Int))), (1, .int .i64 (((n : Nat) : Int))), (2, .int .i64 (((k : Nat) : Int)))] at hF
  have hw3 := hw.2.2
  have hw1 := hw.1
  have hk1 := half_le hn0 hw3
  refine sq ?_
  refine wp_region_lit ?_
  refine stR hF (d_alloc 0 hM ty_ze_27) rfl ?_
  rintro _ w' a ⟨b1, rfl, hM, -⟩ hF
  change Mem w w' [some (b1, tenC 0 0 0 0 (.slice none 0 0)), none] [] at hM
  refine st hF (g_assign hF rfl) rfl fun a hF => ?_
  refine wpList_nil ?_
  refine tN ?_
  refine sq ?_
  refine sq ?_
  refine wp_region_lit ?_
  refine st hF (g_move hF rfl) rfl fun a hF => ?_
  refine stR hF (d_call Try.call46 hF (.cons rfl (.cons rfl (.cons rfl .nil))) (l01In_ok (((k : Nat) : Int)) (0) (8) _)) rfl ?_
  rintro _ w' a ⟨hx, rfl⟩ hF
  have hM := hM.ext hx
  refine st hF (g_notP hF rfl) rfl fun a hF => ?_
  refine wpList_nil ?_
  refine tN ?_
  refine c_cond hF rfl (fun h2 => ?_) (fun h2 => ?_)
  ·
    exfalso; omega
  ·
    refine wp_skip ?_
    refine tN ?_
    refine sq ?_
    refine sq ?_
    refine wp_region_lit ?_
    refine st hF (g_move hF rfl) rfl fun a hF => st hF (g_move hF rfl) rfl fun a hF => st hF (g_move hF rfl) rfl fun a hF => st hF (g_move hF rfl) rfl fun a hF => ?_
    refine stR hF (d_call Try.call47 hF (.cons rfl (.cons rfl (.cons rfl (.cons rfl .nil)))) ((CallsR.val (l03Sizes_ok (((p : Nat) : Int)) (n) (k) (k) _ hpP (by omega) (by omega) (by omega) (by omega)) (congrArg (Value.int .i64) (if_pos hw))))) rfl ?_
    rintro _ w' a ⟨hx, rfl⟩ hF
    have hM := hM.ext hx
    refine st hF (g_assign hF rfl) rfl fun a hF => ?_
    refine wpList_nil ?_
    refine tN ?_
    refine sq ?_
    refine wp_region_lit ?_
    refine st hF (g_move hF rfl) rfl fun a hF => st hF (g_neq hF rfl rfl) rfl fun a hF => ?_
    refine wpList_nil ?_
    refine tN ?_
    refine c_kF hF rfl (by decide) ?_
    refine wp_skip ?_
    refine tN ?_
    refine sq ?_
    refine wp_region_lit ?_
    refine st hF (g_move hF rfl) rfl fun a hF => st hF (g_move hF rfl) rfl fun a hF => st hF (g_move hF rfl) rfl fun a hF => ?_
    refine stR hF (d_call Try.call48 hF (.cons rfl (.cons rfl (.cons rfl .nil))) (l03One_ok p n k _ hpP hn0 hn hw)) rfl ?_
    rintro _ w' a ⟨hx, b4, rfl, hge, hbk⟩ hF
    have hM := hM.fill hx 1 hbk hge
    change Mem w w' [some (b1, tenC 0 0 0 0 (.slice none 0 0)), some (b4, numC (n ^ (k + k)) (dgF (n ^ k) (n ^ k)))] [] at hM
    refine stN hF (d_storeAgg 0 hM rfl ty_sz_27 hF rfl rfl (tenC_one rfl) (by simp only [fnC_size, cells_size, vecC_size, tabC_size, planeC_size, tenC_size, smC_size, numC_size]) (by simp only [fnC_size, cells_size, vecC_size, tabC_size, planeC_size, tenC_size, smC_size, numC_size] <;> omega) (splice_whole _ _ rfl)) ?_
    intro _ w' a hM hF
    change Mem w w' [some (b1, tenC ((p : Nat) : Int) ((n : Nat) : Int) ((k : Nat) : Int) ((k : Nat) : Int) (.slice (some ⟨b4, 0, none⟩) (n ^ (k + k)) (n ^ (k + k)))), some (b4, numC (n ^ (k + k)) (dgF (n ^ k) (n ^ k)))] [] at hM
    refine st hF (g_assign hF rfl) rfl fun a hF => ?_
    refine wpList_nil ?_
    refine tN ?_
    refine wp_ret ?_
    refine fin2 rfl hF.defers (res_agg ty_ag_27 hF rfl (hM.row 0 rfl) (by simp only [fnC_size, cells_size, vecC_size, tabC_size, planeC_size, tenC_size, smC_size, numC_size])) (res_tmp hF rfl) ⟨_, rfl, hM.below, ?_⟩
    exact ⟨_, rfl, hM.ge 1 rfl, hM.row 1 rfl⟩

theorem law_IdentityTensorA (p n k : Int) (w : World) (hA : ¬ (primeP p ∧ 1 ≤ n ∧ n ≤ 6 ∧ 0 ≤ k ∧ k ≤ 8)) :
    CallsR Try.prog 4 #[.int .i64 (p), .int .i64 (n), .int .i64 (k)] w (fun res _ => res = .bool true) := by
  refine calls_fr [.int .i64 (p), .int .i64 (n), .int .i64 (k)] Try.func4 rfl Try.ntmps4 rfl fun a hF => ?_
  have hM : Mem w w [none, none, none] [] := MemX.start w 3
  change Fr 73 a [(0, .int .i64 (p)), (1, .int .i64 (n)), (2, .int .i64 (k))] at hF
  refine sq ?_
  refine wp_region_lit ?_
  refine st hF (g_assign hF rfl) rfl fun a hF => ?_
  refine wpList_nil ?_
  refine tN ?_
  refine sq ?_
  refine wp_region_lit ?_
  refine st hF (g_move hF rfl) rfl fun a hF => st hF (g_move hF rfl) rfl fun a hF => st hF (g_move hF rfl) rfl fun a hF => ?_
  refine stR hF (d_call Try.call18 hF (.cons rfl (.cons rfl (.cons rfl .nil))) (IdentityTensorSA p n k _ hA)) rfl ?_
  rintro _ w' a ⟨hx, rfl⟩ hF
  have hM := hM.ext hx
  refine st hF (g_move hF rfl) rfl fun a hF => st hF (g_extract hF rfl rfl) rfl fun a hF => st hF (g_extract hF rfl rfl) rfl fun a hF => ?_
  refine stR hF (d_alloc 0 hM ty_ze_27) rfl ?_
  rintro _ w' a ⟨b1, rfl, hM, -⟩ hF
  change Mem w w' [some (b1, tenC 0 0 0 0 (.slice none 0 0)), none, none] [] at hM
  refine stN hF (d_storeAgg 0 hM rfl ty_sz_27 hF rfl rfl (tenC_one rfl) (by simp only [fnC_size, cells_size, vecC_size, tabC_size, planeC_size, tenC_size, smC_size, numC_size]) (by simp only [fnC_size, cells_size, vecC_size, tabC_size, planeC_size, tenC_size, smC_size, numC_size] <;> omega) (splice_whole _ _ rfl)) ?_
  intro _ w' a hM hF
  change Mem w w' [some (b1, tenC 0 0 0 0 (.slice none 0 0)), none, none] [] at hM
  refine st hF (g_assign hF rfl) rfl fun a hF => ?_
  refine wpList_nil ?_
  refine tN ?_
  refine sq ?_
  refine wp_region_lit ?_
  refine st hF (g_move hF rfl) rfl fun a hF => st hF (g_move hF rfl) rfl fun a hF => st hF (g_move hF rfl) rfl fun a hF => ?_
  refine stR hF (d_call Try.call19 hF (.cons rfl (.cons rfl (.cons rfl .nil))) (IdentityTensorIA p n k _ hA)) rfl ?_
  rintro _ w' a ⟨hx, rfl⟩ hF
  have hM := hM.ext hx
  refine st hF (g_move hF rfl) rfl fun a hF => st hF (g_extract hF rfl rfl) rfl fun a hF => st hF (g_extract hF rfl rfl) rfl fun a hF => ?_
  refine stR hF (d_alloc 1 hM ty_ze_27) rfl ?_
  rintro _ w' a ⟨b2, rfl, hM, -⟩ hF
  change Mem w w' [some (b1, tenC 0 0 0 0 (.slice none 0 0)), some (b2, tenC 0 0 0 0 (.slice none 0 0)), none] [] at hM
  refine stN hF (d_storeAgg 1 hM rfl ty_sz_27 hF rfl rfl (tenC_one rfl) (by simp only [fnC_size, cells_size, vecC_size, tabC_size, planeC_size, tenC_size, smC_size, numC_size]) (by simp only [fnC_size, cells_size, vecC_size, tabC_size, planeC_size, tenC_size, smC_size, numC_size] <;> omega) (splice_whole _ _ rfl)) ?_
  intro _ w' a hM hF
  change Mem w w' [some (b1, tenC 0 0 0 0 (.slice none 0 0)), some (b2, tenC 0 0 0 0 (.slice none 0 0)), none] [] at hM
  refine st hF (g_assign hF rfl) rfl fun a hF => ?_
  refine wpList_nil ?_
  refine tN ?_
  refine sq ?_
  refine sq ?_
  refine wp_region_lit ?_
  refine st hF (g_loadAgg ty_ag_27 hF rfl (hM.row 1 rfl) (by simp only [fnC_size, cells_size, vecC_size, tabC_size, planeC_size, tenC_size, smC_size, numC_size] <;> omega) (whole rfl)) rfl fun a hF => st hF (g_loadAgg ty_ag_27 hF rfl (hM.row 0 rfl) (by simp only [fnC_size, cells_size, vecC_size, tabC_size, planeC_size, tenC_size, smC_size, numC_size] <;> omega) (whole rfl)) rfl fun a hF => ?_
  refine stR hF (d_call Try.call17 hF (.cons rfl (.cons rfl .nil)) (eqTensor_0 _)) rfl ?_
  rintro _ w' a ⟨hx, rfl⟩ hF
  have hM := hM.ext hx
  refine st hF (g_not hF rfl) rfl fun a hF => st hF (g_move hF rfl) rfl fun a hF => stY hF rfl rfl rfl (g_move hF rfl) rfl fun a hF => stY hF rfl rfl rfl (g_move hF rfl) rfl fun a hF => stY hF rfl rfl rfl (g_neq hF rfl rfl) rfl fun a hF => st hF (g_pickF hF rfl rfl) rfl fun a hF => ?_
  refine wpList_nil ?_
  refine tN ?_
  refine c_kF hF rfl (by decide) ?_
  refine wp_skip ?_
  refine tN ?_
  refine sq ?_
  refine wp_region_lit ?_
  refine st hF (g_assign hF rfl) rfl fun a hF => ?_
  refine wpList_nil ?_
  refine tN ?_
  refine sq ?_
  refine wp_region_lit ?_
  refine st hF (g_loadAgg ty_ag_27 hF rfl (hM.row 1 rfl) (by simp only [fnC_size, cells_size, vecC_size, tabC_size, planeC_size, tenC_size, smC_size, numC_size] <;> omega) (whole rfl)) rfl fun a hF => st hF (g_move hF rfl) rfl fun a hF => ?_
  refine stR hF (d_call Try.call20 hF (.cons rfl (.cons rfl .nil)) (markTensor_0 (1) _ (by omega))) rfl ?_
  rintro _ w' a ⟨hx, rfl⟩ hF
  have hM := hM.ext hx
  refine st hF (g_assign hF rfl) rfl fun a hF => ?_
  refine wpList_nil ?_
  refine tN ?_
  refine sq ?_
  refine wp_region_lit ?_
  refine st hF (g_assign hF rfl) rfl fun a hF => ?_
  refine wpList_nil ?_
  refine tN ?_
  refine sq ?_
  refine wp_region_lit ?_
  refine st hF (g_loadAgg ty_ag_27 hF rfl (hM.row 1 rfl) (by simp only [fnC_size, cells_size, vecC_size, tabC_size, planeC_size, tenC_size, smC_size, numC_size] <;> omega) (whole rfl)) rfl fun a hF => st hF (g_move hF rfl) rfl fun a hF => ?_
  refine stR hF (d_call Try.call21 hF (.cons rfl (.cons rfl .nil)) (heldTensor_0 (1) _ (by omega))) rfl ?_
  rintro _ w' a ⟨hx, rfl⟩ hF
  have hM := hM.ext hx
  refine st hF (g_assign hF rfl) rfl fun a hF => ?_
  refine wpList_nil ?_
  refine tN ?_
  refine sq ?_
  refine sq ?_
  refine wp_region_lit ?_
  refine st hF (g_move hF rfl) rfl fun a hF => st hF (g_lss hF rfl rfl) rfl fun a hF => ?_
  refine wpList_nil ?_
  refine tN ?_
  refine c_cond hF rfl (fun h4 => ?_) (fun h4 => ?_)
  ·
    first | exact absurd rfl h4 | (exfalso; omega)
  ·
    refine wp_skip ?_
    refine tN ?_
    refine sq ?_
    refine sq ?_
    refine wp_region_lit ?_
    refine st hF (g_move hF rfl) rfl fun a hF => st hF (g_move hF rfl) rfl fun a hF => st hF (g_neq hF rfl rfl) rfl fun a hF => ?_
    refine wpList_nil ?_
    refine tN ?_
    refine c_kF hF rfl (by decide) ?_
    refine wp_skip ?_
    refine tN ?_
    refine sq ?_
    refine wp_region_lit ?_
    refine st hF (g_move hF rfl) rfl fun a hF => st hF (g_move hF rfl) rfl fun a hF => st hF (g_move hF rfl) rfl fun a hF => ?_
    refine stR hF (d_call Try.call19 hF (.cons rfl (.cons rfl (.cons rfl .nil))) (IdentityTensorIA p n k _ hA)) rfl ?_
    rintro _ w' a ⟨hx, rfl⟩ hF
    have hM := hM.ext hx
    refine st hF (g_move hF rfl) rfl fun a hF => st hF (g_extract hF rfl rfl) rfl fun a hF => st hF (g_extract hF rfl rfl) rfl fun a hF => ?_
    refine stR hF (d_alloc 2 hM ty_ze_27) rfl ?_
    rintro _ w' a ⟨b6, rfl, hM, -⟩ hF
    change Mem w w' [some (b1, tenC 0 0 0 0 (.slice none 0 0)), some (b2, tenC 0 0 0 0 (.slice none 0 0)), some (b6, tenC 0 0 0 0 (.slice none 0 0))] [] at hM
    refine stN hF (d_storeAgg 2 hM rfl ty_sz_27 hF rfl rfl (tenC_one rfl) (by simp only [fnC_size, cells_size, vecC_size, tabC_size, planeC_size, tenC_size, smC_size, numC_size]) (by simp only [fnC_size, cells_size, vecC_size, tabC_size, planeC_size, tenC_size, smC_size, numC_size] <;> omega) (splice_whole _ _ rfl)) ?_
    intro _ w' a hM hF
    change Mem w w' [some (b1, tenC 0 0 0 0 (.slice none 0 0)), some (b2, tenC 0 0 0 0 (.slice none 0 0)), some (b6, tenC 0 0 0 0 (.slice none 0 0))] [] at hM
    refine st hF (g_assign hF rfl) rfl fun a hF => ?_
    refine wpList_nil ?_
    refine tN ?_
    refine sq ?_
    refine sq ?_
    refine wp_region_lit ?_
    refine st hF (g_loadAgg ty_ag_27 hF rfl (hM.row 2 rfl) (by simp only [fnC_size, cells_size, vecC_size, tabC_size, planeC_size, tenC_size, smC_size, numC_size] <;> omega) (whole rfl)) rfl fun a hF => st hF (g_loadAgg ty_ag_27 hF rfl (hM.row 0 rfl) (by simp only [fnC_size, cells_size, vecC_size, tabC_size, planeC_size, tenC_size, smC_size, numC_size] <;> omega) (whole rfl)) rfl fun a hF => ?_
    refine stR hF (d_call Try.call17 hF (.cons rfl (.cons rfl .nil)) (eqTensor_0 _)) rfl ?_
    rintro _ w' a ⟨hx, rfl⟩ hF
    have hM := hM.ext hx
    refine st hF (g_not hF rfl) rfl fun a hF => st hF (g_move hF rfl) rfl fun a hF => stY hF rfl rfl rfl (g_move hF rfl) rfl fun a hF => stY hF rfl rfl rfl (g_move hF rfl) rfl fun a hF => stY hF rfl rfl rfl (g_neq hF rfl rfl) rfl fun a hF => st hF (g_pickF hF rfl rfl) rfl fun a hF => ?_
    refine wpList_nil ?_
    refine tN ?_
    refine c_kF hF rfl (by decide) ?_
    refine wp_skip ?_
    refine tN ?_
    refine sq ?_
    refine wp_region_lit ?_
    refine st hF (g_assign hF rfl) rfl fun a hF => ?_
    refine wpList_nil ?_
    refine tN ?_
    refine sq ?_
    refine wp_region_lit ?_
    refine st hF (g_loadAgg ty_ag_27 hF rfl (hM.row 1 rfl) (by simp only [fnC_size, cells_size, vecC_size, tabC_size, planeC_size, tenC_size, smC_size, numC_size] <;> omega) (whole rfl)) rfl fun a hF => st hF (g_move hF rfl) rfl fun a hF => ?_
    refine stR hF (d_call Try.call21 hF (.cons rfl (.cons rfl .nil)) (heldTensor_0 (1) _ (by omega))) rfl ?_
    rintro _ w' a ⟨hx, rfl⟩ hF
    have hM := hM.ext hx
    refine st hF (g_assign hF rfl) rfl fun a hF => ?_
    refine wpList_nil ?_
    refine tN ?_
    refine sq ?_
    refine sq ?_
    refine wp_region_lit ?_
    refine st hF (g_move hF rfl) rfl fun a hF => st hF (g_lss hF rfl rfl) rfl fun a hF => ?_
    refine wpList_nil ?_
    refine tN ?_
    refine c_kF hF rfl h4 ?_
    refine wp_skip ?_
    refine tN ?_
    refine sq ?_
    refine sq ?_
    refine wp_region_lit ?_
    refine st hF (g_move hF rfl) rfl fun a hF => st hF (g_move hF rfl) rfl fun a hF => st hF (g_neq hF rfl rfl) rfl fun a hF => ?_
    refine wpList_nil ?_
    refine tN ?_
    refine c_kF hF rfl (by decide) ?_
    refine wp_skip ?_
    refine tN ?_
    refine sq ?_
    refine wp_region_lit ?_
    refine st hF (g_assign hF rfl) rfl fun a hF => ?_
    refine wpList_nil ?_
    refine tN ?_
    refine wp_ret ?_
    refine fin1 rfl hF.defers (res_tmp hF rfl) ⟨_, rfl, hM.below, ?_⟩
    show _ = _
    rfl

theorem law_IdentityTensorL (p n k : Nat) (w : World) (hpP : primeP (p : Int)) (hn0 : 0 < n) (hn : n ≤ 6) (hk : k ≤ 8) (hw : ¬ wl n k k) :
    CallsR Try.prog 4 #[.int .i64 (((p : Nat) : Int)), .int .i64 (((n : Nat) : Int)), .int .i64 (((k : Nat) : Int))] w (fun res _ => res = .bool true) := by
  refine calls_fr [.int .i64 (((p : Nat) : Int)), .int .i64 (((n : Nat) : Int)), .int .i64 (((k : Nat) : Int))] Try.func4 rfl Try.ntmps4 rfl fun a hF => ?_
  have hM : Mem w w [none, none, none] [] := MemX.start w 3
  change Fr 73 a [(0, .int .i64 (((p : Nat) : Int))), (1, .int .i64 (((n : Nat) : Int))), (2, .int .i64 (((k : Nat) : Int)))] at hF
  refine sq ?_
  refine wp_region_lit ?_
  refine st hF (g_assign hF rfl) rfl fun a hF => ?_
  refine wpList_nil ?_
  refine tN ?_
  refine sq ?_
  refine wp_region_lit ?_
  refine st hF (g_move hF rfl) rfl fun a hF => st hF (g_move hF rfl) rfl fun a hF => st hF (g_move hF rfl) rfl fun a hF => ?_
  refine stR hF (d_call Try.call18 hF (.cons rfl (.cons rfl (.cons rfl .nil))) (IdentityTensorSL p n k _ hpP hn0 hn hk hw)) rfl ?_
  rintro _ w' a ⟨hx, rfl⟩ hF
  have hM := hM.ext hx
  refine st hF (g_move hF rfl) rfl fun a hF => st hF (g_extract hF rfl rfl) rfl fun a hF => st hF (g_extract hF rfl rfl) rfl fun a hF => ?_
  refine stR hF (d_alloc 0 hM ty_ze_27) rfl ?_
  rintro _ w' a ⟨b1, rfl, hM, -⟩ hF
  change Mem w w' [some (b1, tenC 0 0 0 0 (.slice none 0 0)), none, none] [] at hM
  refine stN hF (d_storeAgg 0 hM rfl ty_sz_27 hF rfl rfl (tenC_one rfl) (by simp only [fnC_size, cells_size, vecC_size, tabC_size, planeC_size, tenC_size, smC_size, numC_size]) (by simp only [fnC_size, cells_size, vecC_size, tabC_size, planeC_size, tenC_size, smC_size, numC_size] <;> omega) (splice_whole _ _ rfl)) ?_
  intro _ w' a hM hF
  change Mem w w' [some (b1, tenC 0 0 0 0 (.slice none 0 0)), none, none] [] at hM
  refine st hF (g_assign hF rfl) rfl fun a hF => ?_
  refine wpList_nil ?_
  refine tN ?_
  refine sq ?_
  refine wp_region_lit ?_
  refine st hF (g_move hF rfl) rfl fun a hF => st hF (g_move hF rfl) rfl fun a hF => st hF (g_move hF rfl) rfl fun a hF => ?_
  refine stR hF (d_call Try.call19 hF (.cons rfl (.cons rfl (.cons rfl .nil))) (IdentityTensorIL p n k _ hpP hn0 hn hk hw)) rfl ?_
  rintro _ w' a ⟨hx, rfl⟩ hF
  have hM := hM.ext hx
  refine st hF (g_move hF rfl) rfl fun a hF => st hF (g_extract hF rfl rfl) rfl fun a hF => st hF (g_extract hF rfl rfl) rfl fun a hF => ?_
  refine stR hF (d_alloc 1 hM ty_ze_27) rfl ?_
  rintro _ w' a ⟨b2, rfl, hM, -⟩ hF
  change Mem w w' [some (b1, tenC 0 0 0 0 (.slice none 0 0)), some (b2, tenC 0 0 0 0 (.slice none 0 0)), none] [] at hM
  refine stN hF (d_storeAgg 1 hM rfl ty_sz_27 hF rfl rfl (tenC_one rfl) (by simp only [fnC_size, cells_size, vecC_size, tabC_size, planeC_size, tenC_size, smC_size, numC_size]) (by simp only [fnC_size, cells_size, vecC_size, tabC_size, planeC_size, tenC_size, smC_size, numC_size] <;> omega) (splice_whole _ _ rfl)) ?_
  intro _ w' a hM hF
  change Mem w w' [some (b1, tenC 0 0 0 0 (.slice none 0 0)), some (b2, tenC 0 0 0 0 (.slice none 0 0)), none] [] at hM
  refine st hF (g_assign hF rfl) rfl fun a hF => ?_
  refine wpList_nil ?_
  refine tN ?_
  refine sq ?_
  refine sq ?_
  refine wp_region_lit ?_
  refine st hF (g_loadAgg ty_ag_27 hF rfl (hM.row 1 rfl) (by simp only [fnC_size, cells_size, vecC_size, tabC_size, planeC_size, tenC_size, smC_size, numC_size] <;> omega) (whole rfl)) rfl fun a hF => st hF (g_loadAgg ty_ag_27 hF rfl (hM.row 0 rfl) (by simp only [fnC_size, cells_size, vecC_size, tabC_size, planeC_size, tenC_size, smC_size, numC_size] <;> omega) (whole rfl)) rfl fun a hF => ?_
  refine stR hF (d_call Try.call17 hF (.cons rfl (.cons rfl .nil)) (eqTensor_0 _)) rfl ?_
  rintro _ w' a ⟨hx, rfl⟩ hF
  have hM := hM.ext hx
  refine st hF (g_not hF rfl) rfl fun a hF => st hF (g_move hF rfl) rfl fun a hF => stY hF rfl rfl rfl (g_move hF rfl) rfl fun a hF => stY hF rfl rfl rfl (g_move hF rfl) rfl fun a hF => stY hF rfl rfl rfl (g_neq hF rfl rfl) rfl fun a hF => st hF (g_pickF hF rfl rfl) rfl fun a hF => ?_
  refine wpList_nil ?_
  refine tN ?_
  refine c_kF hF rfl (by decide) ?_
  refine wp_skip ?_
  refine tN ?_
  refine sq ?_
  refine wp_region_lit ?_
  refine st hF (g_assign hF rfl) rfl fun a hF => ?_
  refine wpList_nil ?_
  refine tN ?_
  refine sq ?_
  refine wp_region_lit ?_
  refine st hF (g_loadAgg ty_ag_27 hF rfl (hM.row 1 rfl) (by simp only [fnC_size, cells_size, vecC_size, tabC_size, planeC_size, tenC_size, smC_size, numC_size] <;> omega) (whole rfl)) rfl fun a hF => st hF (g_move hF rfl) rfl fun a hF => ?_
  refine stR hF (d_call Try.call20 hF (.cons rfl (.cons rfl .nil)) (markTensor_0 (1) _ (by omega))) rfl ?_
  rintro _ w' a ⟨hx, rfl⟩ hF
  have hM := hM.ext hx
  refine st hF (g_assign hF rfl) rfl fun a hF => ?_
  refine wpList_nil ?_
  refine tN ?_
  refine sq ?_
  refine wp_region_lit ?_
  refine st hF (g_assign hF rfl) rfl fun a hF => ?_
  refine wpList_nil ?_
  refine tN ?_
  refine sq ?_
  refine wp_region_lit ?_
  refine st hF (g_loadAgg ty_ag_27 hF rfl (hM.row 1 rfl) (by simp only [fnC_size, cells_size, vecC_size, tabC_size, planeC_size, tenC_size, smC_size, numC_size] <;> omega) (whole rfl)) rfl fun a hF => st hF (g_move hF rfl) rfl fun a hF => ?_
  refine stR hF (d_call Try.call21 hF (.cons rfl (.cons rfl .nil)) (heldTensor_0 (1) _ (by omega))) rfl ?_
  rintro _ w' a ⟨hx, rfl⟩ hF
  have hM := hM.ext hx
  refine st hF (g_assign hF rfl) rfl fun a hF => ?_
  refine wpList_nil ?_
  refine tN ?_
  refine sq ?_
  refine sq ?_
  refine wp_region_lit ?_
  refine st hF (g_move hF rfl) rfl fun a hF => st hF (g_lss hF rfl rfl) rfl fun a hF => ?_
  refine wpList_nil ?_
  refine tN ?_
  refine c_cond hF rfl (fun h4 => ?_) (fun h4 => ?_)
  ·
    first | exact absurd rfl h4 | (exfalso; omega)
  ·
    refine wp_skip ?_
    refine tN ?_
    refine sq ?_
    refine sq ?_
    refine wp_region_lit ?_
    refine st hF (g_move hF rfl) rfl fun a hF => st hF (g_move hF rfl) rfl fun a hF => st hF (g_neq hF rfl rfl) rfl fun a hF => ?_
    refine wpList_nil ?_
    refine tN ?_
    refine c_kF hF rfl (by decide) ?_
    refine wp_skip ?_
    refine tN ?_
    refine sq ?_
    refine wp_region_lit ?_
    refine st hF (g_move hF rfl) rfl fun a hF => st hF (g_move hF rfl) rfl fun a hF => st hF (g_move hF rfl) rfl fun a hF => ?_
    refine stR hF (d_call Try.call19 hF (.cons rfl (.cons rfl (.cons rfl .nil))) (IdentityTensorIL p n k _ hpP hn0 hn hk hw)) rfl ?_
    rintro _ w' a ⟨hx, rfl⟩ hF
    have hM := hM.ext hx
    refine st hF (g_move hF rfl) rfl fun a hF => st hF (g_extract hF rfl rfl) rfl fun a hF => st hF (g_extract hF rfl rfl) rfl fun a hF => ?_
    refine stR hF (d_alloc 2 hM ty_ze_27) rfl ?_
    rintro _ w' a ⟨b6, rfl, hM, -⟩ hF
    change Mem w w' [some (b1, tenC 0 0 0 0 (.slice none 0 0)), some (b2, tenC 0 0 0 0 (.slice none 0 0)), some (b6, tenC 0 0 0 0 (.slice none 0 0))] [] at hM
    refine stN hF (d_storeAgg 2 hM rfl ty_sz_27 hF rfl rfl (tenC_one rfl) (by simp only [fnC_size, cells_size, vecC_size, tabC_size, planeC_size, tenC_size, smC_size, numC_size]) (by simp only [fnC_size, cells_size, vecC_size, tabC_size, planeC_size, tenC_size, smC_size, numC_size] <;> omega) (splice_whole _ _ rfl)) ?_
    intro _ w' a hM hF
    change Mem w w' [some (b1, tenC 0 0 0 0 (.slice none 0 0)), some (b2, tenC 0 0 0 0 (.slice none 0 0)), some (b6, tenC 0 0 0 0 (.slice none 0 0))] [] at hM
    refine st hF (g_assign hF rfl) rfl fun a hF => ?_
    refine wpList_nil ?_
    refine tN ?_
    refine sq ?_
    refine sq ?_
    refine wp_region_lit ?_
    refine st hF (g_loadAgg ty_ag_27 hF rfl (hM.row 2 rfl) (by simp only [fnC_size, cells_size, vecC_size, tabC_size, planeC_size, tenC_size, smC_size, numC_size] <;> omega) (whole rfl)) rfl fun a hF => st hF (g_loadAgg ty_ag_27 hF rfl (hM.row 0 rfl) (by simp only [fnC_size, cells_size, vecC_size, tabC_size, planeC_size, tenC_size, smC_size, numC_size] <;> omega) (whole rfl)) rfl fun a hF => ?_
    refine stR hF (d_call Try.call17 hF (.cons rfl (.cons rfl .nil)) (eqTensor_0 _)) rfl ?_
    rintro _ w' a ⟨hx, rfl⟩ hF
    have hM := hM.ext hx
    refine st hF (g_not hF rfl) rfl fun a hF => st hF (g_move hF rfl) rfl fun a hF => stY hF rfl rfl rfl (g_move hF rfl) rfl fun a hF => stY hF rfl rfl rfl (g_move hF rfl) rfl fun a hF => stY hF rfl rfl rfl (g_neq hF rfl rfl) rfl fun a hF => st hF (g_pickF hF rfl rfl) rfl fun a hF => ?_
    refine wpList_nil ?_
    refine tN ?_
    refine c_kF hF rfl (by decide) ?_
    refine wp_skip ?_
    refine tN ?_
    refine sq ?_
    refine wp_region_lit ?_
    refine st hF (g_assign hF rfl) rfl fun a hF => ?_
    refine wpList_nil ?_
    refine tN ?_
    refine sq ?_
    refine wp_region_lit ?_
    refine st hF (g_loadAgg ty_ag_27 hF rfl (hM.row 1 rfl) (by simp only [fnC_size, cells_size, vecC_size, tabC_size, planeC_size, tenC_size, smC_size, numC_size] <;> omega) (whole rfl)) rfl fun a hF => st hF (g_move hF rfl) rfl fun a hF => ?_
    refine stR hF (d_call Try.call21 hF (.cons rfl (.cons rfl .nil)) (heldTensor_0 (1) _ (by omega))) rfl ?_
    rintro _ w' a ⟨hx, rfl⟩ hF
    have hM := hM.ext hx
    refine st hF (g_assign hF rfl) rfl fun a hF => ?_
    refine wpList_nil ?_
    refine tN ?_
    refine sq ?_
    refine sq ?_
    refine wp_region_lit ?_
    refine st hF (g_move hF rfl) rfl fun a hF => st hF (g_lss hF rfl rfl) rfl fun a hF => ?_
    refine wpList_nil ?_
    refine tN ?_
    refine c_kF hF rfl h4 ?_
    refine wp_skip ?_
    refine tN ?_
    refine sq ?_
    refine sq ?_
    refine wp_region_lit ?_
    refine st hF (g_move hF rfl) rfl fun a hF => st hF (g_move hF rfl) rfl fun a hF => st hF (g_neq hF rfl rfl) rfl fun a hF => ?_
    refine wpList_nil ?_
    refine tN ?_
    refine c_kF hF rfl (by decide) ?_
    refine wp_skip ?_
    refine tN ?_
    refine sq ?_
    refine wp_region_lit ?_
    refine st hF (g_assign hF rfl) rfl fun a hF => ?_
    refine wpList_nil ?_
    refine tN ?_
    refine wp_ret ?_
    refine fin1 rfl hF.defers (res_tmp hF rfl) ⟨_, rfl, hM.below, ?_⟩
    show _ = _
    rfl

theorem law_IdentityTensorB (p n k : Nat) (w : World) (hpP : primeP (p : Int)) (hn0 : 0 < n) (hn : n ≤ 6) (hw : wl n k k) :
    CallsR Try.prog 4 #[.int .i64 (((p : Nat) : Int)), .int .i64 (((n : Nat) : Int)), .int .i64 (((k : Nat) : Int))] w (fun res _ => res = .bool true) := by
  refine calls_fr [.int .i64 (((p : Nat) : Int)), .int .i64 (((n : Nat) : Int)), .int .i64 (((k : Nat) : Int))] Try.func4 rfl Try.ntmps4 rfl fun a hF => ?_
  have hM : Mem w w [none, none, none, none, none, none] [] := MemX.start w 6
  change Fr 73 a [(0, .int .i64 (((p : Nat) : Int))), (1, .int .i64 (((n : Nat) : Int))), (2, .int .i64 (((k : Nat) : Int)))] at hF
  have hw3 := hw.2.2
  have hw1 := hw.1
  have hk1 := half_le hn0 hw3
  refine sq ?_
  refine wp_region_lit ?_
  refine st hF (g_assign hF rfl) rfl fun a hF => ?_
  refine wpList_nil ?_
  refine tN ?_
  refine sq ?_
  refine wp_region_lit ?_
  refine st hF (g_move hF rfl) rfl fun a hF => st hF (g_move hF rfl) rfl fun a hF => st hF (g_move hF rfl) rfl fun a hF => ?_
  refine stR hF (d_call Try.call18 hF (.cons rfl (.cons rfl (.cons rfl .nil))) (IdentityTensorSB p n k _ hpP hn0 hn hw)) rfl ?_
  rintro _ w' a ⟨hx, b1, rfl, hge, hbk⟩ hF
  have hM := hM.fill hx 0 hbk hge
  change Mem w w' [some (b1, numC (n ^ (k + k)) (dgF (n ^ k) (n ^ k))), none, none, none, none, none] [] at hM
  refine st hF (g_move hF rfl) rfl fun a hF => st hF (g_extract hF rfl rfl) rfl fun a hF => st hF (g_extract hF rfl rfl) rfl fun a hF => ?_
  refine stR hF (d_alloc 1 hM ty_ze_27) rfl ?_
  rintro _ w' a ⟨b2, rfl, hM, -⟩ hF
  change Mem w w' [some (b1, numC (n ^ (k + k)) (dgF (n ^ k) (n ^ k))), some (b2, tenC 0 0 0 0 (.slice none 0 0)), none, none, none, none] [] at hM
  refine stN hF (d_storeAgg 1 hM rfl ty_sz_27 hF rfl rfl (tenC_one rfl) (by simp only [fnC_size, cells_size, vecC_size, tabC_size, planeC_size, tenC_size, smC_size, numC_size]) (by simp only [fnC_size, cells_size, vecC_size, tabC_size, planeC_size, tenC_size, smC_size, numC_size] <;> omega) (splice_whole _ _ rfl)) ?_
  intro _ w' a hM hF
  change Mem w w' [some (b1, numC (n ^ (k + k)) (dgF (n ^ k) (n ^ k))), some (b2, tenC ((p : Nat) : Int) ((n : Nat) : Int) ((k : Nat) : Int) ((k : Nat) : Int) (.slice (some ⟨b1, 0, none⟩) (n ^ (k + k)) (n ^ (k + k)))), none, none, none, none] [] at hM
  refine st hF (g_assign hF rfl) rfl fun a hF => ?_
  refine wpList_nil ?_
  refine tN ?_
  refine sq ?_
  refine wp_region_lit ?_
  refine st hF (g_move hF rfl) rfl fun a hF => st hF (g_move hF rfl) rfl fun a hF => st hF (g_move hF rfl) rfl fun a hF => ?_
  refine stR hF (d_call Try.call19 hF (.cons rfl (.cons rfl (.cons rfl .nil))) (IdentityTensorIB p n k _ hpP hn0 hn hw)) rfl ?_
  rintro _ w' a ⟨hx, b3, rfl, hge, hbk⟩ hF
  have hM := hM.fill hx 2 hbk hge
  change Mem w w' [some (b1, numC (n ^ (k + k)) (dgF (n ^ k) (n ^ k))), some (b2, tenC ((p : Nat) : Int) ((n : Nat) : Int) ((k : Nat) : Int) ((k : Nat) : Int) (.slice (some ⟨b1, 0, none⟩) (n ^ (k + k)) (n ^ (k + k)))), some (b3, numC (n ^ (k + k)) (dgF (n ^ k) (n ^ k))), none, none, none] [] at hM
  refine st hF (g_move hF rfl) rfl fun a hF => st hF (g_extract hF rfl rfl) rfl fun a hF => st hF (g_extract hF rfl rfl) rfl fun a hF => ?_
  refine stR hF (d_alloc 3 hM ty_ze_27) rfl ?_
  rintro _ w' a ⟨b4, rfl, hM, -⟩ hF
  change Mem w w' [some (b1, numC (n ^ (k + k)) (dgF (n ^ k) (n ^ k))), some (b2, tenC ((p : Nat) : Int) ((n : Nat) : Int) ((k : Nat) : Int) ((k : Nat) : Int) (.slice (some ⟨b1, 0, none⟩) (n ^ (k + k)) (n ^ (k + k)))), some (b3, numC (n ^ (k + k)) (dgF (n ^ k) (n ^ k))), some (b4, tenC 0 0 0 0 (.slice none 0 0)), none, none] [] at hM
  refine stN hF (d_storeAgg 3 hM rfl ty_sz_27 hF rfl rfl (tenC_one rfl) (by simp only [fnC_size, cells_size, vecC_size, tabC_size, planeC_size, tenC_size, smC_size, numC_size]) (by simp only [fnC_size, cells_size, vecC_size, tabC_size, planeC_size, tenC_size, smC_size, numC_size] <;> omega) (splice_whole _ _ rfl)) ?_
  intro _ w' a hM hF
  change Mem w w' [some (b1, numC (n ^ (k + k)) (dgF (n ^ k) (n ^ k))), some (b2, tenC ((p : Nat) : Int) ((n : Nat) : Int) ((k : Nat) : Int) ((k : Nat) : Int) (.slice (some ⟨b1, 0, none⟩) (n ^ (k + k)) (n ^ (k + k)))), some (b3, numC (n ^ (k + k)) (dgF (n ^ k) (n ^ k))), some (b4, tenC ((p : Nat) : Int) ((n : Nat) : Int) ((k : Nat) : Int) ((k : Nat) : Int) (.slice (some ⟨b3, 0, none⟩) (n ^ (k + k)) (n ^ (k + k)))), none, none] [] at hM
  refine st hF (g_assign hF rfl) rfl fun a hF => ?_
  refine wpList_nil ?_
  refine tN ?_
  refine sq ?_
  refine sq ?_
  refine wp_region_lit ?_
  refine st hF (g_loadAgg ty_ag_27 hF rfl (hM.row 3 rfl) (by simp only [fnC_size, cells_size, vecC_size, tabC_size, planeC_size, tenC_size, smC_size, numC_size] <;> omega) (whole rfl)) rfl fun a hF => st hF (g_loadAgg ty_ag_27 hF rfl (hM.row 1 rfl) (by simp only [fnC_size, cells_size, vecC_size, tabC_size, planeC_size, tenC_size, smC_size, numC_size] <;> omega) (whole rfl)) rfl fun a hF => ?_
  refine stR hF (d_call Try.call17 hF (.cons rfl (.cons rfl .nil)) (eqTensor_ok ((p : Nat) : Int) ((n : Nat) : Int) ((k : Nat) : Int) ((k : Nat) : Int) b3 b1 (n ^ (k + k)) (dgF (n ^ k) (n ^ k)) (dgF (n ^ k) (n ^ k)) _ (hM.row 2 rfl) (hM.row 0 rfl) (by omega) (fun _ _ => rfl))) rfl ?_
  rintro _ w' a ⟨hx, rfl⟩ hF
  have hM := hM.ext hx
  refine st hF (g_not hF rfl) rfl fun a hF => st hF (g_move hF rfl) rfl fun a hF => stY hF rfl rfl rfl (g_move hF rfl) rfl fun a hF => stY hF rfl rfl rfl (g_move hF rfl) rfl fun a hF => stY hF rfl rfl rfl (g_neq hF rfl rfl) rfl fun a hF => st hF (g_pickF hF rfl rfl) rfl fun a hF => ?_
  refine wpList_nil ?_
  refine tN ?_
  refine c_kF hF rfl (by decide) ?_
  refine wp_skip ?_
  refine tN ?_
  refine sq ?_
  refine wp_region_lit ?_
  refine st hF (g_assign hF rfl) rfl fun a hF => ?_
  refine wpList_nil ?_
  refine tN ?_
  refine sq ?_
  refine wp_region_lit ?_
  refine st hF (g_loadAgg ty_ag_27 hF rfl (hM.row 3 rfl) (by simp only [fnC_size, cells_size, vecC_size, tabC_size, planeC_size, tenC_size, smC_size, numC_size] <;> omega) (whole rfl)) rfl fun a hF => st hF (g_move hF rfl) rfl fun a hF => ?_
  refine stR hF (d_callX Try.call20 hF (.cons rfl (.cons rfl .nil)) (markTensor_ok ((p : Nat) : Int) ((n : Nat) : Int) ((k : Nat) : Int) ((k : Nat) : Int) b3 (n ^ (k + k)) (1) (dgF (n ^ k) (n ^ k)) _ (by omega) (by omega) (hM.row 2 rfl))) rfl ?_
  rintro _ w' a ⟨hx, rfl, hbk⟩ hF
  have hM := hM.upd 2 rfl hx hbk
  change Mem w w' [some (b1, numC (n ^ (k + k)) (dgF (n ^ k) (n ^ k))), some (b2, tenC ((p : Nat) : Int) ((n : Nat) : Int) ((k : Nat) : Int) ((k : Nat) : Int) (.slice (some ⟨b1, 0, none⟩) (n ^ (k + k)) (n ^ (k + k)))), some (b3, numC (n ^ (k + k)) (fun c => (1) + c)), some (b4, tenC ((p : Nat) : Int) ((n : Nat) : Int) ((k : Nat) : Int) ((k : Nat) : Int) (.slice (some ⟨b3, 0, none⟩) (n ^ (k + k)) (n ^ (k + k)))), none, none] [] at hM
  refine st hF (g_assign hF rfl) rfl fun a hF => ?_
  refine wpList_nil ?_
  refine tN ?_
  refine sq ?_
  refine wp_region_lit ?_
  refine st hF (g_assign hF rfl) rfl fun a hF => ?_
  refine wpList_nil ?_
  refine tN ?_
  refine sq ?_
  refine wp_region_lit ?_
  refine st hF (g_loadAgg ty_ag_27 hF rfl (hM.row 3 rfl) (by simp only [fnC_size, cells_size, vecC_size, tabC_size, planeC_size, tenC_size, smC_size, numC_size] <;> omega) (whole rfl)) rfl fun a hF => st hF (g_move hF rfl) rfl fun a hF => ?_
  refine stR hF (d_call Try.call21 hF (.cons rfl (.cons rfl .nil)) (heldTensor_ok ((p : Nat) : Int) ((n : Nat) : Int) ((k : Nat) : Int) ((k : Nat) : Int) b3 (n ^ (k + k)) (1) (fun c => (1) + c) _ (by omega) (by omega) (hM.row 2 rfl) (fun c _ => by omega))) rfl ?_
  rintro _ w' a ⟨hx, rfl⟩ hF
  have hM := hM.ext hx
  refine st hF (g_assign hF rfl) rfl fun a hF => ?_
  refine wpList_nil ?_
  refine tN ?_
  refine sq ?_
  refine sq ?_
  refine wp_region_lit ?_
  refine st hF (g_move hF rfl) rfl fun a hF => st hF (g_lss hF rfl rfl) rfl fun a hF => ?_
  refine wpList_nil ?_
  refine tN ?_
  refine c_cond hF rfl (fun h6 => ?_) (fun h6 => ?_)
  ·
    first | exact absurd rfl h6 | (exfalso; omega)
  ·
    refine wp_skip ?_
    refine tN ?_
    refine sq ?_
    refine sq ?_
    refine wp_region_lit ?_
    refine st hF (g_move hF rfl) rfl fun a hF => st hF (g_move hF rfl) rfl fun a hF => st hF (g_neq hF rfl rfl) rfl fun a hF => ?_
    refine wpList_nil ?_
    refine tN ?_
    refine c_cond hF rfl (fun h7 => ?_) (fun h7 => ?_)
    ·
      first | exact absurd rfl h7 | (exfalso; omega)
    ·
      refine wp_skip ?_
      refine tN ?_
      refine sq ?_
      refine wp_region_lit ?_
      refine st hF (g_move hF rfl) rfl fun a hF => st hF (g_move hF rfl) rfl fun a hF => st hF (g_move hF rfl) rfl fun a hF => ?_
      refine stR hF (d_call Try.call19 hF (.cons rfl (.cons rfl (.cons rfl .nil))) (IdentityTensorIB p n k _ hpP hn0 hn hw)) rfl ?_
      rintro _ w' a ⟨hx, b8, rfl, hge, hbk⟩ hF
      have hM := hM.fill hx 4 hbk hge
      change Mem w w' [some (b1, numC (n ^ (k + k)) (dgF (n ^ k) (n ^ k))), some (b2, tenC ((p : Nat) : Int) ((n : Nat) : Int) ((k : Nat) : Int) ((k : Nat) : Int) (.slice (some ⟨b1, 0, none⟩) (n ^ (k + k)) (n ^ (k + k)))), some (b3, numC (n ^ (k + k)) (fun c => (1) + c)), some (b4, tenC ((p : Nat) : Int) ((n : Nat) : Int) ((k : Nat) : Int) ((k : Nat) : Int) (.slice (some ⟨b3, 0, none⟩) (n ^ (k + k)) (n ^ (k + k)))), some (b8, numC (n ^ (k + k)) (dgF (n ^ k) (n ^ k))), none] [] at hM
      refine st hF (g_move hF rfl) rfl fun a hF => st hF (g_extract hF rfl rfl) rfl fun a hF => st hF (g_extract hF rfl rfl) rfl fun a hF => ?_
      refine stR hF (d_alloc 5 hM ty_ze_27) rfl ?_
      rintro _ w' a ⟨b9, rfl, hM, -⟩ hF
      change Mem w w' [some (b1, numC (n ^ (k + k)) (dgF (n ^ k) (n ^ k))), some (b2, tenC ((p : Nat) : Int) ((n : Nat) : Int) ((k : Nat) : Int) ((k : Nat) : Int) (.slice (some ⟨b1, 0, none⟩) (n ^ (k + k)) (n ^ (k + k)))), some (b3, numC (n ^ (k + k)) (fun c => (1) + c)), some (b4, tenC ((p : Nat) : Int) ((n : Nat) : Int) ((k : Nat) : Int) ((k : Nat) : Int) (.slice (some ⟨b3, 0, none⟩) (n ^ (k + k)) (n ^ (k + k)))), some (b8, numC (n ^ (k + k)) (dgF (n ^ k) (n ^ k))), some (b9, tenC 0 0 0 0 (.slice none 0 0))] [] at hM
      refine stN hF (d_storeAgg 5 hM rfl ty_sz_27 hF rfl rfl (tenC_one rfl) (by simp only [fnC_size, cells_size, vecC_size, tabC_size, planeC_size, tenC_size, smC_size, numC_size]) (by simp only [fnC_size, cells_size, vecC_size, tabC_size, planeC_size, tenC_size, smC_size, numC_size] <;> omega) (splice_whole _ _ rfl)) ?_
      intro _ w' a hM hF
      change Mem w w' [some (b1, numC (n ^ (k + k)) (dgF (n ^ k) (n ^ k))), some (b2, tenC ((p : Nat) : Int) ((n : Nat) : Int) ((k : Nat) : Int) ((k : Nat) : Int) (.slice (some ⟨b1, 0, none⟩) (n ^ (k + k)) (n ^ (k + k)))), some (b3, numC (n ^ (k + k)) (fun c => (1) + c)), some (b4, tenC ((p : Nat) : Int) ((n : Nat) : Int) ((k : Nat) : Int) ((k : Nat) : Int) (.slice (some ⟨b3, 0, none⟩) (n ^ (k + k)) (n ^ (k + k)))), some (b8, numC (n ^ (k + k)) (dgF (n ^ k) (n ^ k))), some (b9, tenC ((p : Nat) : Int) ((n : Nat) : Int) ((k : Nat) : Int) ((k : Nat) : Int) (.slice (some ⟨b8, 0, none⟩) (n ^ (k + k)) (n ^ (k + k))))] [] at hM
      refine st hF (g_assign hF rfl) rfl fun a hF => ?_
      refine wpList_nil ?_
      refine tN ?_
      refine sq ?_
      refine sq ?_
      refine wp_region_lit ?_
      refine st hF (g_loadAgg ty_ag_27 hF rfl (hM.row 5 rfl) (by simp only [fnC_size, cells_size, vecC_size, tabC_size, planeC_size, tenC_size, smC_size, numC_size] <;> omega) (whole rfl)) rfl fun a hF => st hF (g_loadAgg ty_ag_27 hF rfl (hM.row 1 rfl) (by simp only [fnC_size, cells_size, vecC_size, tabC_size, planeC_size, tenC_size, smC_size, numC_size] <;> omega) (whole rfl)) rfl fun a hF => ?_
      refine stR hF (d_call Try.call17 hF (.cons rfl (.cons rfl .nil)) (eqTensor_ok ((p : Nat) : Int) ((n : Nat) : Int) ((k : Nat) : Int) ((k : Nat) : Int) b8 b1 (n ^ (k + k)) (dgF (n ^ k) (n ^ k)) (dgF (n ^ k) (n ^ k)) _ (hM.row 4 rfl) (hM.row 0 rfl) (by omega) (fun _ _ => rfl))) rfl ?_
      rintro _ w' a ⟨hx, rfl⟩ hF
      have hM := hM.ext hx
      refine st hF (g_not hF rfl) rfl fun a hF => st hF (g_move hF rfl) rfl fun a hF => stY hF rfl rfl rfl (g_move hF rfl) rfl fun a hF => stY hF rfl rfl rfl (g_move hF rfl) rfl fun a hF => stY hF rfl rfl rfl (g_neq hF rfl rfl) rfl fun a hF => st hF (g_pickF hF rfl rfl) rfl fun a hF => ?_
      refine wpList_nil ?_
      refine tN ?_
      refine c_kF hF rfl (by decide) ?_
      refine wp_skip ?_
      refine tN ?_
      refine sq ?_
      refine wp_region_lit ?_
      refine st hF (g_assign hF rfl) rfl fun a hF => ?_
      refine wpList_nil ?_
      refine tN ?_
      refine sq ?_
      refine wp_region_lit ?_
      refine st hF (g_loadAgg ty_ag_27 hF rfl (hM.row 3 rfl) (by simp only [fnC_size, cells_size, vecC_size, tabC_size, planeC_size, tenC_size, smC_size, numC_size] <;> omega) (whole rfl)) rfl fun a hF => st hF (g_move hF rfl) rfl fun a hF => ?_
      refine stR hF (d_call Try.call21 hF (.cons rfl (.cons rfl .nil)) (heldTensor_ok ((p : Nat) : Int) ((n : Nat) : Int) ((k : Nat) : Int) ((k : Nat) : Int) b3 (n ^ (k + k)) (1) (fun c => (1) + c) _ (by omega) (by omega) (hM.row 2 rfl) (fun c _ => by omega))) rfl ?_
      rintro _ w' a ⟨hx, rfl⟩ hF
      have hM := hM.ext hx
      refine st hF (g_assign hF rfl) rfl fun a hF => ?_
      refine wpList_nil ?_
      refine tN ?_
      refine sq ?_
      refine sq ?_
      refine wp_region_lit ?_
      refine st hF (g_move hF rfl) rfl fun a hF => st hF (g_lss hF rfl rfl) rfl fun a hF => ?_
      refine wpList_nil ?_
      refine tN ?_
      refine c_kF hF rfl h6 ?_
      refine wp_skip ?_
      refine tN ?_
      refine sq ?_
      refine sq ?_
      refine wp_region_lit ?_
      refine st hF (g_move hF rfl) rfl fun a hF => st hF (g_move hF rfl) rfl fun a hF => st hF (g_neq hF rfl rfl) rfl fun a hF => ?_
      refine wpList_nil ?_
      refine tN ?_
      refine c_kF hF rfl h7 ?_
      refine wp_skip ?_
      refine tN ?_
      refine sq ?_
      refine wp_region_lit ?_
      refine st hF (g_assign hF rfl) rfl fun a hF => ?_
      refine wpList_nil ?_
      refine tN ?_
      refine wp_ret ?_
      refine fin1 rfl hF.defers (res_tmp hF rfl) ⟨_, rfl, hM.below, ?_⟩
      show _ = _
      rfl

theorem law_IdentityTensor (p n k : Int) (w : World) (_hp : -9223372036854775808 ≤ p ∧ p ≤ 9223372036854775807) (_hn : -9223372036854775808 ≤ n ∧ n ≤ 9223372036854775807) (_hk : -9223372036854775808 ≤ k ∧ k ≤ 9223372036854775807) : CallsV Try.prog 4 #[.int .i64 p, .int .i64 n, .int .i64 k] w (.bool true) := by
  by_cases hA : primeP p ∧ 1 ≤ n ∧ n ≤ 6 ∧ 0 ≤ k ∧ k ≤ 8
  · obtain ⟨hpP, h1, h2, h3, h4⟩ := hA
    have hp0 := primeP_pos hpP
    obtain ⟨p', rfl⟩ : ∃ q : Nat, p = q := ⟨p.toNat, by omega⟩
    obtain ⟨n', rfl⟩ : ∃ q : Nat, n = q := ⟨n.toNat, by omega⟩
    obtain ⟨k', rfl⟩ : ∃ q : Nat, k = q := ⟨k.toNat, by omega⟩
    by_cases hw : wl n' k' k'
    · exact law_IdentityTensorB p' n' k' w hpP (by omega) (by omega) hw
    · exact law_IdentityTensorL p' n' k' w hpP (by omega) (by omega) (by omega) hw
  · exact law_IdentityTensorA p n k w hA

end Go.Proofs.Ythliekalhgafcaa
