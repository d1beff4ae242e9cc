/- What functions of the program return, as walks over their operations; no statement of the seat is proved here. -/
import Derived.Test.YthliekalhgafcaaTF
import Derived.Test.YthliekalhgafcaaT6
import Derived.Test.YthliekalhgafcaaSw15
import Derived.Test.YthliekalhgafcaaT6
import Derived.Test.YthliekalhgafcaaSw29
set_option linter.unusedVariables false
set_option linter.unusedSimpArgs false
namespace Go.Proofs.Ythliekalhgafcaa
open Go Go.RowKit Go.Sw Go.Ech
open Classical
theorem ty_si_64 : slI Try.prog 64 = some (41, some (.agg (fnC 6 (fun _ => .int .u8 (0)))), 6, 6) := by kernel_rfl
theorem cube {n : Nat} : n ^ (2 + 1) = n * n * n := by
  show n ^ 3 = _
  rw [Nat.pow_succ, Nat.pow_two]
/-- The numbers of the products of basis vectors. -/
def prF (n : Nat) (T : Nat → Nat → Nat → Nat) (N c : Nat) : Nat := if c < N then T (c / n / n) (c / n % n) (c % n) else 0
theorem prF_step {n i j k c : Nat} {T : Nat → Nat → Nat → Nat} (hk : k < n) (hj : j < n) : (if c = (i * n + j) * n + k then T i j k else prF n T ((i * n + j) * n + k) c) = prF n T ((i * n + j) * n + (k + 1)) c := by
  unfold prF
  by_cases e : c = (i * n + j) * n + k
  · rw [if_pos e, if_pos (by omega), e, dm_div hk, dm_mod hk, dm_div hj, dm_mod hj]
  · rw [if_neg e]
    have e1 : (c < (i * n + j) * n + (k + 1)) = (c < (i * n + j) * n + k) := by apply propext; omega
    simp only [e1]
theorem pr_snoc {u : Value} {e : Option (Nat × Array Value)} {n i j : Nat} {T : Nat → Nat → Nat → Nat} (hj : j < n) (h : Sl 6 u e (i * n + j + 1) (fun c => if c < (i * n + j) * 6 then .int .u8 ((T (c / 6 / n) (c / 6 % n) (c % 6) : Nat) : Int) else .int .u8 ((T i j (c - (i * n + j) * 6) : Nat) : Int))) :
    Sl 6 u e (i * n + (j + 1)) (fun c => .int .u8 ((T (c / 6 / n) (c / 6 % n) (c % 6) : Nat) : Int)) :=
  Sl.snoc6 (N := i * n + j) (F := fun c => .int .u8 ((T (c / 6 / n) (c / 6 % n) (c % 6) : Nat) : Int)) (G := fun q => .int .u8 ((T i j q : Nat) : Int)) h fun q hq => by
    rw [show ((i * n + j) * 6 + q) / 6 = i * n + j by omega, show ((i * n + j) * 6 + q) % 6 = q by omega, dm_div hj, dm_mod hj]
theorem tv_prF {n c : Nat} {T : Nat → Nat → Nat → Nat} : tvF n (n * n) (fun q => T (q / n) (q % n)) c = prF n T (n * n * n) c := rfl

theorem ProductTensorSA (p n : Int) (T : Nat → Nat → Nat → Nat) (f : Nat → Nat) (w : World) (hT : ∀ i j k, T i j k ≤ 255) (hf : ∀ i, f i ≤ 255) (hc : ¬ CodeP p n T f 0 (vAtL [])) :
    CallsR Try.prog 22 #[.agg (algC p n T f)] w (fun res _ => res = .tuple #[.agg (tenC 0 0 0 0 (.slice none 0 0)), .int .i64 1]) := by
  refine calls_fr [.agg (algC p n T f)] Try.func22 rfl Try.ntmps22 rfl fun a hF => ?_
  have hM : Mem w w [none, none, none, none] [] := MemX.start w 4
  change Fr 59 a [(0, .agg (algC p n T f))] at hF
  refine sq ?_
  refine wp_region_lit ?_
  refine stR hF (d_box 0 hM hF rfl) rfl ?_
  rintro _ w' a ⟨b1, rfl, hM, -⟩ hF
  change Mem w w' [some (b1, algC p n T f), none, none, none] [] at hM
  refine stR hF (d_alloc 1 hM ty_ze_27) rfl ?_
  rintro _ w' a ⟨b2, rfl, hM, -⟩ hF
  change Mem w w' [some (b1, algC p n T f), some (b2, tenC 0 0 0 0 (.slice none 0 0)), none, none] [] at hM
  refine st hF (g_assign hF rfl) rfl fun a hF => ?_
  refine wpList_nil ?_
  refine tN ?_
  refine sq ?_
  refine sq ?_
  refine wp_region_lit ?_
  refine st hF (g_loadAgg ty_ag_43 hF rfl (hM.row 0 rfl) (by simp only [fnC_size, cells_size, vecC_size, tabC_size, planeC_size, tenC_size, smC_size, numC_size, numI_size] <;> omega) (whole cells_size)) rfl fun a hF => ?_
  refine stR hF (d_call Try.call53 hF (.cons rfl (.cons rfl .nil)) ((CallsR.val (l01Code_0 p n T f (vAtL []) _ (fun _ _ _ => hT _ _ _) (fun _ => hf _)) (congrArg (Value.int .i64) (if_neg hc))))) rfl ?_
  rintro _ w' a ⟨hx, rfl⟩ hF
  have hM := hM.ext hx
  refine st hF (g_assign hF rfl) rfl fun a hF => ?_
  refine wpList_nil ?_
  refine tN ?_
  refine sq ?_
  refine wp_region_lit ?_
  refine st hF (g_move hF rfl) rfl fun a hF => st hF (g_neq hF rfl rfl) rfl fun a hF => ?_
  refine wpList_nil ?_
  refine tN ?_
  refine c_kT hF rfl (by decide) ?_
  refine sq ?_
  refine wp_region_lit ?_
  refine st hF (g_build0 ty_bu_27) rfl fun a hF => st hF (g_move hF rfl) rfl fun a hF => ?_
  refine stN hF (d_storeAgg 1 hM rfl ty_sz_27 hF rfl rfl (tenC_one rfl) (by simp only [fnC_size, cells_size, vecC_size, tabC_size, planeC_size, tenC_size, smC_size, numC_size, numI_size]) (by simp only [fnC_size, cells_size, vecC_size, tabC_size, planeC_size, tenC_size, smC_size, numC_size, numI_size] <;> omega) (splice_whole _ _ rfl)) ?_
  intro _ w' a hM hF
  change Mem w w' [some (b1, algC p n T f), some (b2, tenC 0 0 0 0 (.slice none 0 0)), none, none] [] at hM
  refine st hF (g_assign hF rfl) rfl fun a hF => ?_
  refine wpList_nil ?_
  refine tN ?_
  refine wp_ret ?_
  refine tR ?_
  refine fin2 rfl hF.defers (res_agg ty_ag_27 hF rfl (hM.row 1 rfl) (by simp only [fnC_size, cells_size, vecC_size, tabC_size, planeC_size, tenC_size, smC_size, numC_size, numI_size])) (res_tmp hF rfl) ⟨_, rfl, hM.below, ?_⟩
  show _ = _
  rfl

theorem ProductTensorSB (p n : Nat) (T : Nat → Nat → Nat → Nat) (f : Nat → Nat) (w : World) (hp : primeN p) (hn0 : 0 < n) (hn : n ≤ 6) (hTp : ∀ i j k, T i j k < p) (hT0 : ∀ i j k, n ≤ k → T i j k = 0) (hf : ∀ i, f i ≤ 255) (hc : CodeP (p : Int) (n : Int) T f 0 (vAtL [])) :
    CallsR Try.prog 22 #[.agg (algC (p : Int) (n : Int) T f)] w (fun v w' => TenOut0 w w' (p : Int) (n : Int) ((2 : Nat) : Int) ((1 : Nat) : Int) (n ^ (2 + 1)) (prF n T (n * n * n)) v) := by
  refine calls_fr [.agg (algC (p : Int) (n : Int) T f)] Try.func22 rfl Try.ntmps22 rfl fun a hF => ?_
  have hM : Mem w w [none, none, none, none] [] := MemX.start w 4
  change Fr 59 a [(0, .agg (algC (p : Int) (n : Int) T f))] at hF
  have hp2 := hp.two
  have hp13 := hp.le
  have hT : ∀ i j k, T i j k ≤ 255 := fun i j k => by have := hTp i j k; omega
  have hpP := hc.1.1.1
  have hw := wl_small (i := 2) (o := 1) hn (by omega)
  have hcb : n ^ (2 + 1) = n * n * n := cube
  have hw3 := hw.2.2
  have hnn : n ≤ n * n := Nat.le_mul_of_pos_left _ hn0
  have hnn3 : n * n ≤ n * n * n := Nat.le_mul_of_pos_right _ hn0
  refine sq ?_
  refine wp_region_lit ?_
  refine stR hF (d_box 0 hM hF rfl) rfl ?_
  rintro _ w' a ⟨b1, rfl, hM, -⟩ hF
  change Mem w w' [some (b1, algC (p : Int) (n : Int) T f), none, none, none] [] at hM
  refine stR hF (d_alloc 1 hM ty_ze_27) rfl ?_
  rintro _ w' a ⟨b2, rfl, hM, -⟩ hF
  change Mem w w' [some (b1, algC (p : Int) (n : Int) T f), some (b2, tenC 0 0 0 0 (.slice none 0 0)), none, none] [] at hM
  refine st hF (g_assign hF rfl) rfl fun a hF => ?_
  refine wpList_nil ?_
  refine tN ?_
  refine sq ?_
  refine sq ?_
  refine wp_region_lit ?_
  refine st hF (g_loadAgg ty_ag_43 hF rfl (hM.row 0 rfl) (by simp only [fnC_size, cells_size, vecC_size, tabC_size, planeC_size, tenC_size, smC_size, numC_size, numI_size] <;> omega) (whole cells_size)) rfl fun a hF => ?_
  refine stR hF (d_call Try.call53 hF (.cons rfl (.cons rfl .nil)) ((CallsR.val (l01Code_0 (p : Int) (n : Int) T f (vAtL []) _ (fun _ _ _ => hT _ _ _) (fun _ => hf _)) (congrArg (Value.int .i64) (if_pos hc))))) rfl ?_
  rintro _ w' a ⟨hx, rfl⟩ hF
  have hM := hM.ext hx
  refine st hF (g_assign hF rfl) rfl fun a hF => ?_
  refine wpList_nil ?_
  refine tN ?_
  refine sq ?_
  refine wp_region_lit ?_
  refine st hF (g_move hF rfl) rfl fun a hF => st hF (g_neq hF rfl rfl) rfl fun a hF => ?_
  refine wpList_nil ?_
  refine tN ?_
  refine c_kF hF rfl (by decide) ?_
  refine wp_skip ?_
  refine tN ?_
  refine sq ?_
  refine wp_region_lit ?_
  refine st hF (g_fieldAddr ty_fo_43_1 hF rfl) rfl fun a hF => st hF (g_load ty_on_2 hF rfl (hM.row 0 rfl) (algC_n (by omega))) rfl fun a hF => st hF (g_assign hF rfl) rfl fun a hF => ?_
  refine wpList_nil ?_
  refine tN ?_
  refine sq ?_
  refine wp_region_lit ?_
  refine st hF (g_fieldAddr ty_fo_43_0 hF rfl) rfl fun a hF => st hF (g_load ty_on_2 hF rfl (hM.row 0 rfl) (algC_p (by omega))) rfl fun a hF => st hF (g_move hF rfl) rfl fun a hF => ?_
  refine stR hF (d_call Try.call54 hF (.cons rfl (.cons rfl (.cons rfl (.cons rfl .nil)))) (l03Empty_ok (p) (n) (2) (1) _ (by omega) (by omega) hw)) rfl ?_
  rintro _ w' a ⟨hx, b4, rfl, hge, hbk⟩ hF
  have hM := hM.fill hx 2 hbk hge
  change Mem w w' [some (b1, algC (p : Int) (n : Int) T f), some (b2, tenC 0 0 0 0 (.slice none 0 0)), some (b4, numC ((n) ^ ((2) + (1))) (fun _ => 0)), none] [] at hM
  refine stR hF (d_alloc 3 hM ty_ze_27) rfl ?_
  rintro _ w' a ⟨b5, rfl, hM, -⟩ hF
  change Mem w w' [some (b1, algC (p : Int) (n : Int) T f), some (b2, tenC 0 0 0 0 (.slice none 0 0)), some (b4, numC ((n) ^ ((2) + (1))) (fun _ => 0)), some (b5, tenC 0 0 0 0 (.slice none 0 0))] [] at hM
  refine stN hF (d_storeAgg 3 hM rfl ty_sz_27 hF rfl rfl (tenC_one rfl) (by simp only [fnC_size, cells_size, vecC_size, tabC_size, planeC_size, tenC_size, smC_size, numC_size, numI_size]) (by simp only [fnC_size, cells_size, vecC_size, tabC_size, planeC_size, tenC_size, smC_size, numC_size, numI_size] <;> omega) (splice_whole _ _ rfl)) ?_
  intro _ w' a hM hF
  change Mem w w' [some (b1, algC (p : Int) (n : Int) T f), some (b2, tenC 0 0 0 0 (.slice none 0 0)), some (b4, numC ((n) ^ ((2) + (1))) (fun _ => 0)), some (b5, tenC ((p : Nat) : Int) ((n : Nat) : Int) ((2 : Nat) : Int) ((1 : Nat) : Int) (.slice (some ⟨b4, 0, none⟩) ((n) ^ ((2) + (1))) ((n) ^ ((2) + (1)))))] [] at hM
  refine wpList_nil ?_
  refine tN ?_
  refine sq ?_
  refine sq ?_
  refine wp_region_lit ?_
  refine st hF (g_assign hF rfl) rfl fun a hF => ?_
  refine wpList_nil ?_
  refine tN ?_
  refine wp_block ?_
  change Mem w _ [some (b1, algC (p : Int) (n : Int) T f), some (b2, tenC 0 0 0 0 (.slice none 0 0)), some (b4, numC ((n) ^ ((2) + (1))) (fun _ => 0)), some (b5, tenC ((p : Nat) : Int) ((n : Nat) : Int) ((2 : Nat) : Int) ((1 : Nat) : Int) (.slice (some ⟨b4, 0, none⟩) ((n) ^ ((2) + (1))) ((n) ^ ((2) + (1)))))] [] at hM
  refine c_loop (fun (kk : Nat) a w' => kk ≤ n ∧ (True) ∧ Fr 59 a [(0, .agg (algC (p : Int) (n : Int) T f)), (1, ptr b1 (0)), (2, ptr b2 (0)), (3, .int .i64 (0)), (10, .agg (algC (p : Int) (n : Int) T f)), (11, .int .i64 (0)), (4, .int .i64 (0)), (12, .int .i64 (0)), (13, .bool (decide ((0 : Int) ≠ 0))), (16, ptr b1 (0 + 1)), (17, .int .i64 (((n : Nat) : Int))), (5, .int .i64 (((n : Nat) : Int))), (18, ptr b1 (0 + 0)), (19, .int .i64 (((p : Nat) : Int))), (20, .int .i64 (((n : Nat) : Int))), (21, .agg (tenC ((p : Nat) : Int) ((n : Nat) : Int) ((2 : Nat) : Int) ((1 : Nat) : Int) (.slice (some ⟨b4, 0, none⟩) ((n) ^ ((2) + (1))) ((n) ^ ((2) + (1)))))), (6, ptr b5 (0)), (7, .int .i64 (((kk : Nat) : Int)))] ∧ Mem w w' [some (b1, algC (p : Int) (n : Int) T f), some (b2, tenC 0 0 0 0 (.slice none 0 0)), some (b4, numC (n ^ (2 + 1)) (prF n T (kk * n * n))), some (b5, tenC ((p : Nat) : Int) ((n : Nat) : Int) ((2 : Nat) : Int) ((1 : Nat) : Int) (.slice (some ⟨b4, 0, none⟩) ((n) ^ ((2) + (1))) ((n) ^ ((2) + (1)))))] []) (fun kk => n - kk) 0 ?_ ?_
  ·
    refine ⟨by omega, trivial, hF.sub _ (by repeat' constructor), ?_⟩
    refine hM.rowc 2 rfl (numC_congr fun c hc => by unfold prF; rw [if_neg (by omega)])
  ·
    clear hF hM
    rintro gi a w' ⟨hgi, hinv1, hF, hM⟩
    have hri : gi < n → gi * n + n ≤ n * n := fun h => by rw [← Nat.succ_mul]; exact Nat.mul_le_mul_right _ h
    refine sq ?_
    refine sq ?_
    refine wp_region_lit ?_
    refine st hF (g_move hF rfl) rfl fun a hF => st hF (g_move hF rfl) rfl fun a hF => st hF (g_lss hF rfl rfl) rfl fun a hF => ?_
    refine wpList_nil ?_
    refine tN ?_
    refine c_cond hF rfl (fun h6 => ?_) (fun h6 => ?_)
    ·
      refine wp_skip ?_
      refine tN ?_
      refine sq ?_
      refine wp_block ?_
      refine sq ?_
      refine wp_region_lit ?_
      refine st hF (g_assign hF rfl) rfl fun a hF => ?_
      refine wpList_nil ?_
      refine tN ?_
      refine wp_block ?_
      change Mem w _ [some (b1, algC (p : Int) (n : Int) T f), some (b2, tenC 0 0 0 0 (.slice none 0 0)), some (b4, numC (n ^ (2 + 1)) (prF n T (gi * n * n))), some (b5, tenC ((p : Nat) : Int) ((n : Nat) : Int) ((2 : Nat) : Int) ((1 : Nat) : Int) (.slice (some ⟨b4, 0, none⟩) ((n) ^ ((2) + (1))) ((n) ^ ((2) + (1)))))] [] at hM
      refine c_loop (fun (kk : Nat) a w' => kk ≤ n ∧ (True) ∧ Fr 59 a [(0, .agg (algC (p : Int) (n : Int) T f)), (1, ptr b1 (0)), (2, ptr b2 (0)), (3, .int .i64 (0)), (10, .agg (algC (p : Int) (n : Int) T f)), (11, .int .i64 (0)), (4, .int .i64 (0)), (12, .int .i64 (0)), (13, .bool (decide ((0 : Int) ≠ 0))), (16, ptr b1 (0 + 1)), (17, .int .i64 (((n : Nat) : Int))), (5, .int .i64 (((n : Nat) : Int))), (18, ptr b1 (0 + 0)), (19, .int .i64 (((p : Nat) : Int))), (20, .int .i64 (((n : Nat) : Int))), (21, .agg (tenC ((p : Nat) : Int) ((n : Nat) : Int) ((2 : Nat) : Int) ((1 : Nat) : Int) (.slice (some ⟨b4, 0, none⟩) ((n) ^ ((2) + (1))) ((n) ^ ((2) + (1)))))), (6, ptr b5 (0)), (7, .int .i64 (((gi : Nat) : Int))), (22, .int .i64 (((gi : Nat) : Int))), (23, .int .i64 (((n : Nat) : Int))), (24, .bool (decide ((((gi : Nat) : Int) : Int) < ((n : Nat) : Int)))), (8, .int .i64 (((kk : Nat) : Int)))] ∧ Mem w w' [some (b1, algC (p : Int) (n : Int) T f), some (b2, tenC 0 0 0 0 (.slice none 0 0)), some (b4, numC (n ^ (2 + 1)) (prF n T ((gi * n + kk) * n))), some (b5, tenC ((p : Nat) : Int) ((n : Nat) : Int) ((2 : Nat) : Int) ((1 : Nat) : Int) (.slice (some ⟨b4, 0, none⟩) ((n) ^ ((2) + (1))) ((n) ^ ((2) + (1)))))] []) (fun kk => n - kk) 0 ?_ ?_
      ·
        refine ⟨by omega, trivial, hF.sub _ (by repeat' constructor), ?_⟩
        exact hM
      ·
        clear hF hM
        rintro gj a w' ⟨hgj, hinv2, hF, hM⟩
        have hrj : (gi * n + gj) < n * n → (gi * n + gj) * n + n ≤ n * n * n := fun h => by rw [← Nat.succ_mul]; exact Nat.mul_le_mul_right _ h
        refine sq ?_
        refine sq ?_
        refine wp_region_lit ?_
        refine st hF (g_move hF rfl) rfl fun a hF => st hF (g_move hF rfl) rfl fun a hF => st hF (g_lss hF rfl rfl) rfl fun a hF => ?_
        refine wpList_nil ?_
        refine tN ?_
        refine c_cond hF rfl (fun h7 => ?_) (fun h7 => ?_)
        ·
          refine wp_skip ?_
          refine tN ?_
          refine sq ?_
          refine wp_block ?_
          refine sq ?_
          refine wp_region_lit ?_
          refine st hF (g_assign hF rfl) rfl fun a hF => ?_
          refine wpList_nil ?_
          refine tN ?_
          refine wp_block ?_
          change Mem w _ [some (b1, algC (p : Int) (n : Int) T f), some (b2, tenC 0 0 0 0 (.slice none 0 0)), some (b4, numC (n ^ (2 + 1)) (prF n T ((gi * n + gj) * n))), some (b5, tenC ((p : Nat) : Int) ((n : Nat) : Int) ((2 : Nat) : Int) ((1 : Nat) : Int) (.slice (some ⟨b4, 0, none⟩) ((n) ^ ((2) + (1))) ((n) ^ ((2) + (1)))))] [] at hM
          refine c_loop (fun (kk : Nat) a w' => kk ≤ n ∧ (True) ∧ Fr 59 a [(0, .agg (algC (p : Int) (n : Int) T f)), (1, ptr b1 (0)), (2, ptr b2 (0)), (3, .int .i64 (0)), (10, .agg (algC (p : Int) (n : Int) T f)), (11, .int .i64 (0)), (4, .int .i64 (0)), (12, .int .i64 (0)), (13, .bool (decide ((0 : Int) ≠ 0))), (16, ptr b1 (0 + 1)), (17, .int .i64 (((n : Nat) : Int))), (5, .int .i64 (((n : Nat) : Int))), (18, ptr b1 (0 + 0)), (19, .int .i64 (((p : Nat) : Int))), (20, .int .i64 (((n : Nat) : Int))), (21, .agg (tenC ((p : Nat) : Int) ((n : Nat) : Int) ((2 : Nat) : Int) ((1 : Nat) : Int) (.slice (some ⟨b4, 0, none⟩) ((n) ^ ((2) + (1))) ((n) ^ ((2) + (1)))))), (6, ptr b5 (0)), (7, .int .i64 (((gi : Nat) : Int))), (22, .int .i64 (((gi : Nat) : Int))), (23, .int .i64 (((n : Nat) : Int))), (24, .bool (decide ((((gi : Nat) : Int) : Int) < ((n : Nat) : Int)))), (8, .int .i64 (((gj : Nat) : Int))), (27, .int .i64 (((gj : Nat) : Int))), (28, .int .i64 (((n : Nat) : Int))), (29, .bool (decide ((((gj : Nat) : Int) : Int) < ((n : Nat) : Int)))), (9, .int .i64 (((kk : Nat) : Int)))] ∧ Mem w w' [some (b1, algC (p : Int) (n : Int) T f), some (b2, tenC 0 0 0 0 (.slice none 0 0)), some (b4, numC (n ^ (2 + 1)) (prF n T ((gi * n + gj) * n + kk))), some (b5, tenC ((p : Nat) : Int) ((n : Nat) : Int) ((2 : Nat) : Int) ((1 : Nat) : Int) (.slice (some ⟨b4, 0, none⟩) ((n) ^ ((2) + (1))) ((n) ^ ((2) + (1)))))] []) (fun kk => n - kk) 0 ?_ ?_
          ·
            refine ⟨by omega, trivial, hF.sub _ (by repeat' constructor), ?_⟩
            exact hM
          ·
            clear hF hM
            rintro gk a w' ⟨hgk, hinv3, hF, hM⟩
            have htk := hTp gi gj gk
            refine sq ?_
            refine sq ?_
            refine wp_region_lit ?_
            refine st hF (g_move hF rfl) rfl fun a hF => st hF (g_move hF rfl) rfl fun a hF => st hF (g_lss hF rfl rfl) rfl fun a hF => ?_
            refine wpList_nil ?_
            refine tN ?_
            refine c_cond hF rfl (fun h8 => ?_) (fun h8 => ?_)
            ·
              refine wp_skip ?_
              refine tN ?_
              refine sq ?_
              refine wp_block ?_
              refine c_par 20 [] [.val (ptr b5 (0 + 4)), .val (.slice (some ⟨b4, 0, none⟩) ((n) ^ ((2) + (1))) ((n) ^ ((2) + (1)))), .val (.int .i64 (((gi : Nat) : Int))), .val (.int .i64 (((n : Nat) : Int))), .val (.int .i64 ((((gi) * (n) : Nat) : Int))), .val (.int .i64 (((gj : Nat) : Int))), .val (.int .i64 ((((gi) * (n) + gj : Nat) : Int))), .val (.int .i64 (((n : Nat) : Int))), .val (.int .i64 (((((gi) * (n) + gj) * (n) : Nat) : Int))), .val (.int .i64 (((gk : Nat) : Int))), .val (.int .i64 (((((gi) * (n) + gj) * (n) + gk : Nat) : Int))), .val (.int .i64 (((gi : Nat) : Int))), .val (.int .i64 (((gj : Nat) : Int))), .val (.int .i64 (((gk : Nat) : Int))), .val (ptr b1 (0 + 2)), .val (ptr b1 (0 + 2 + (gi) * 36)), .val (ptr b1 (0 + 2 + (gi) * 36 + (gj) * 6)), .val (ptr b1 (0 + 2 + (gi) * 36 + (gj) * 6 + (gk) * 1)), .val (.int .u8 (((T (gi) (gj) (gk) : Nat) : Int))), .val (.int .i64 (((T (gi) (gj) (gk) : Nat) : Int)))] hmix rfl hF rfl hM ⟨fun a w gG hF hS hd => by exact par_val hS rfl (g_fieldAddr ty_fo_27_4 hF rfl), fun a w gG hF hS hd => by have hF := hF.ext1 37 (hd 0 rfl rfl); have hM := hS.mem rfl; exact par_val hS rfl (g_load ty_on_22 hF rfl (hM.row 3 rfl) (tenC_4 (by omega))), fun a w gG hF hS hd => by exact par_val hS rfl (g_move hF rfl), fun a w gG hF hS hd => by exact par_val hS rfl (g_move hF rfl), fun a w gG hF hS hd => by have hF := hF.ext1 39 (hd 2 rfl rfl); have hF := hF.ext1 40 (hd 3 rfl rfl); exact par_val hS rfl (g_mul hF rfl rfl (mul_nat (gi) (n) (by omega))), fun a w gG hF hS hd => by exact par_val hS rfl (g_move hF rfl), fun a w gG hF hS hd => by have hF := hF.ext1 41 (hd 4 rfl rfl); have hF := hF.ext1 42 (hd 5 rfl rfl); exact par_val hS rfl (g_add hF rfl rfl (add_nat ((gi) * (n)) (gj) (by omega))), fun a w gG hF hS hd => by exact par_val hS rfl (g_move hF rfl), fun a w gG hF hS hd => by have hF := hF.ext1 43 (hd 6 rfl rfl); have hF := hF.ext1 44 (hd 7 rfl rfl); exact par_val hS rfl (g_mul hF rfl rfl (mul_nat ((gi) * (n) + gj) (n) (by omega))), fun a w gG hF hS hd => by exact par_val hS rfl (g_move hF rfl), fun a w gG hF hS hd => by have hF := hF.ext1 45 (hd 8 rfl rfl); have hF := hF.ext1 46 (hd 9 rfl rfl); exact par_val hS rfl (g_add hF rfl rfl (add_nat (((gi) * (n) + gj) * (n)) (gk) (by omega))), fun a w gG hF hS hd => by exact par_val hS rfl (g_move hF rfl), fun a w gG hF hS hd => by exact par_val hS rfl (g_move hF rfl), fun a w gG hF hS hd => by exact par_val hS rfl (g_move hF rfl), fun a w gG hF hS hd => by exact par_val hS rfl (g_fieldAddr ty_fo_43_2 hF rfl), fun a w gG hF hS hd => by have hF := hF.ext1 48 (hd 11 rfl rfl); have hF := hF.ext1 51 (hd 14 rfl rfl); exact par_val hS rfl (g_indexAddr ty_ar_37 hF rfl rfl rfl (by omega)), fun a w gG hF hS hd => by have hF := hF.ext1 49 (hd 12 rfl rfl); have hF := hF.ext1 52 (hd 15 rfl rfl); exact par_val hS rfl (g_indexAddr ty_ar_36 hF rfl rfl rfl (by omega)), fun a w gG hF hS hd => by have hF := hF.ext1 50 (hd 13 rfl rfl); have hF := hF.ext1 53 (hd 16 rfl rfl); exact par_val hS rfl (g_indexAddr ty_ar_35 hF rfl rfl rfl (by omega)), fun a w gG hF hS hd => by have hF := hF.ext1 54 (hd 17 rfl rfl); have hM := hS.mem rfl; exact par_val hS rfl (g_load ty_on_5 hF rfl (hM.row 0 rfl) (algC_T (gi) (gj) (gk) (by omega) (by omega) (by omega) (by omega))), fun a w gG hF hS hd => by have hF := hF.ext1 55 (hd 18 rfl rfl); exact par_val hS rfl (g_conv ty_un_2 ty_ud_5 hF rfl (wrap_i64 (by omega) (by omega))), trivial⟩ ?_
              intro a w' L hF hS hq
              have hF := hF.ext1 37 (hq 0 rfl rfl)
              have hF := hF.ext1 38 (hq 1 rfl rfl)
              have hF := hF.ext1 39 (hq 2 rfl rfl)
              have hF := hF.ext1 40 (hq 3 rfl rfl)
              have hF := hF.ext1 41 (hq 4 rfl rfl)
              have hF := hF.ext1 42 (hq 5 rfl rfl)
              have hF := hF.ext1 43 (hq 6 rfl rfl)
              have hF := hF.ext1 44 (hq 7 rfl rfl)
              have hF := hF.ext1 45 (hq 8 rfl rfl)
              have hF := hF.ext1 46 (hq 9 rfl rfl)
              have hF := hF.ext1 47 (hq 10 rfl rfl)
              have hF := hF.ext1 48 (hq 11 rfl rfl)
              have hF := hF.ext1 49 (hq 12 rfl rfl)
              have hF := hF.ext1 50 (hq 13 rfl rfl)
              have hF := hF.ext1 51 (hq 14 rfl rfl)
              have hF := hF.ext1 52 (hq 15 rfl rfl)
              have hF := hF.ext1 53 (hq 16 rfl rfl)
              have hF := hF.ext1 54 (hq 17 rfl rfl)
              have hF := hF.ext1 55 (hq 18 rfl rfl)
              have hF := hF.ext1 56 (hq 19 rfl rfl)
              have hM := hS.mem rfl
              change wpList Try.prog _ _ [_, _] _ _
              refine st hF (g_indexSl (i := ((gi) * (n) + gj) * (n) + gk) ty_sl_22 hF rfl rfl rfl (by omega)) rfl fun a hF => ?_
              refine stN hF (d_store 2 hM rfl ty_on_2 hF rfl rfl rfl (by first | omega | (simp only [fnC_size, cells_size, vecC_size, tabC_size, planeC_size, tenC_size, smC_size, numC_size, numI_size] <;> omega))) ?_
              intro _ w' a hM hF
              rw [show (numC (n ^ (2 + 1)) (prF n T ((gi * n + gj) * n + gk))).setIfInBounds (0 + (((gi) * (n) + gj) * (n) + gk) * 1) (.int .i64 (((T (gi) (gj) (gk) : Nat) : Int))) = numC (n ^ (2 + 1)) (fun c => if c = (((gi) * (n) + gj) * (n) + gk) then T (gi) (gj) (gk) else (prF n T ((gi * n + gj) * n + gk)) c) from numC_set (k := (((gi) * (n) + gj) * (n) + gk)) (by omega) (fun c _ => rfl)] at hM
              change Mem w w' [some (b1, algC (p : Int) (n : Int) T f), some (b2, tenC 0 0 0 0 (.slice none 0 0)), some (b4, numC (n ^ (2 + 1)) (fun c => if c = (((gi) * (n) + gj) * (n) + gk) then T (gi) (gj) (gk) else (prF n T ((gi * n + gj) * n + gk)) c)), some (b5, tenC ((p : Nat) : Int) ((n : Nat) : Int) ((2 : Nat) : Int) ((1 : Nat) : Int) (.slice (some ⟨b4, 0, none⟩) ((n) ^ ((2) + (1))) ((n) ^ ((2) + (1)))))] [] at hM
              refine wpList_nil ?_
              refine iN ?_
              refine tN ?_
              refine wp_region_lit ?_
              refine st hF (g_move hF rfl) rfl fun a hF => st hF (g_add hF rfl rfl (add_nat (gk) (1) (by omega))) rfl fun a hF => st hF (g_assign hF rfl) rfl fun a hF => ?_
              refine wpList_nil ?_
              refine tN ?_
              refine ⟨gk + 1, ⟨by omega, trivial, hF.sub _ (by repeat' constructor), ?_⟩, by omega⟩
              refine hM.rowc 2 rfl (numC_congr fun c hc => prF_step (by omega) (by omega))
            ·
              obtain rfl : n = gk := by omega
              refine wp_exit ?_
              refine tX ?_
              refine tX ?_
              refine ib_same ?_
              refine iN ?_
              refine tN ?_
              refine wp_region_lit ?_
              refine st hF (g_move hF rfl) rfl fun a hF => st hF (g_add hF rfl rfl (add_nat (gj) (1) (by omega))) rfl fun a hF => st hF (g_assign hF rfl) rfl fun a hF => ?_
              refine wpList_nil ?_
              refine tN ?_
              refine ⟨gj + 1, ⟨by omega, trivial, hF.sub _ (by repeat' constructor), ?_⟩, by omega⟩
              refine hM.rowc 2 rfl (numC_congr fun c hc => by rw [show (gi * n + gj) * n + n = (gi * n + (gj + 1)) * n from by rw [← Nat.succ_mul]; rfl])
        ·
          obtain rfl : n = gj := by omega
          refine wp_exit ?_
          refine tX ?_
          refine tX ?_
          refine ib_same ?_
          refine iN ?_
          refine tN ?_
          refine wp_region_lit ?_
          refine st hF (g_move hF rfl) rfl fun a hF => st hF (g_add hF rfl rfl (add_nat (gi) (1) (by omega))) rfl fun a hF => st hF (g_assign hF rfl) rfl fun a hF => ?_
          refine wpList_nil ?_
          refine tN ?_
          refine ⟨gi + 1, ⟨by omega, trivial, hF.sub _ (by repeat' constructor), ?_⟩, by omega⟩
          refine hM.rowc 2 rfl (numC_congr fun c hc => by rw [show gi * n + n = (gi + 1) * n from (Nat.succ_mul gi n).symm])
    ·
      obtain rfl : n = gi := by omega
      refine wp_exit ?_
      refine tX ?_
      refine tX ?_
      refine ib_same ?_
      refine tN ?_
      refine sq ?_
      refine wp_region_lit ?_
      refine st hF (g_loadAgg ty_ag_27 hF rfl (hM.row 3 rfl) (by simp only [fnC_size, cells_size, vecC_size, tabC_size, planeC_size, tenC_size, smC_size, numC_size, numI_size] <;> omega) (whole rfl)) rfl fun a hF => ?_
      refine stN hF (d_storeAgg 1 hM rfl ty_sz_27 hF rfl rfl (tenC_one rfl) (by simp only [fnC_size, cells_size, vecC_size, tabC_size, planeC_size, tenC_size, smC_size, numC_size, numI_size]) (by simp only [fnC_size, cells_size, vecC_size, tabC_size, planeC_size, tenC_size, smC_size, numC_size, numI_size] <;> omega) (splice_whole _ _ rfl)) ?_
      intro _ w' a hM hF
      change Mem w w' [some (b1, algC (p : Int) (n : Int) T f), some (b2, tenC ((p : Nat) : Int) ((n : Nat) : Int) ((2 : Nat) : Int) ((1 : Nat) : Int) (.slice (some ⟨b4, 0, none⟩) ((n) ^ ((2) + (1))) ((n) ^ ((2) + (1))))), some (b4, numC (n ^ (2 + 1)) (prF n T (n * n * n))), some (b5, tenC ((p : Nat) : Int) ((n : Nat) : Int) ((2 : Nat) : Int) ((1 : Nat) : Int) (.slice (some ⟨b4, 0, none⟩) ((n) ^ ((2) + (1))) ((n) ^ ((2) + (1)))))] [] at hM
      refine st hF (g_assign hF rfl) rfl fun a hF => ?_
      refine wpList_nil ?_
      refine tN ?_
      refine wp_ret ?_
      refine fin2 rfl hF.defers (res_agg ty_ag_27 hF rfl (hM.row 1 rfl) (by simp only [fnC_size, cells_size, vecC_size, tabC_size, planeC_size, tenC_size, smC_size, numC_size, numI_size])) (res_tmp hF rfl) ⟨_, rfl, hM.below, ?_⟩
      exact ⟨_, rfl, hM.ge 2 rfl, hM.row 2 rfl⟩

theorem ProductTensorIA (p n : Int) (T : Nat → Nat → Nat → Nat) (f : Nat → Nat) (w : World) (hT : ∀ i j k, T i j k ≤ 255) (hf : ∀ i, f i ≤ 255) (hc : ¬ CodeP p n T f 0 (vAtL [])) :
    CallsR Try.prog 24 #[.agg (algC p n T f)] w (fun res _ => res = .tuple #[.agg (tenC 0 0 0 0 (.slice none 0 0)), .int .i64 1]) := by
  refine calls_fr [.agg (algC p n T f)] Try.func24 rfl Try.ntmps24 rfl fun a hF => ?_
  have hM : Mem w w [none, none, none, none] [] := MemX.start w 4
  change Fr 35 a [(0, .agg (algC p n T f))] at hF
  refine sq ?_
  refine wp_region_lit ?_
  refine stR hF (d_box 0 hM hF rfl) rfl ?_
  rintro _ w' a ⟨b1, rfl, hM, -⟩ hF
  change Mem w w' [some (b1, algC p n T f), none, none, none] [] at hM
  refine stR hF (d_alloc 1 hM ty_ze_27) rfl ?_
  rintro _ w' a ⟨b2, rfl, hM, -⟩ hF
  change Mem w w' [some (b1, algC p n T f), some (b2, tenC 0 0 0 0 (.slice none 0 0)), none, none] [] at hM
  refine st hF (g_assign hF rfl) rfl fun a hF => ?_
  refine wpList_nil ?_
  refine tN ?_
  refine sq ?_
  refine sq ?_
  refine wp_region_lit ?_
  refine st hF (g_loadAgg ty_ag_43 hF rfl (hM.row 0 rfl) (by simp only [fnC_size, cells_size, vecC_size, tabC_size, planeC_size, tenC_size, smC_size, numC_size, numI_size] <;> omega) (whole cells_size)) rfl fun a hF => ?_
  refine stR hF (d_call Try.call57 hF (.cons rfl .nil) ((CallsR.val (IsAlgebraI_ok p n T f _ (fun _ _ _ => hT _ _ _) (fun _ => hf _)) (congrArg Value.bool (decide_eq_false (fun h => hc ⟨h, fun i hi => absurd hi (by omega)⟩)))))) rfl ?_
  rintro _ w' a ⟨hx, rfl⟩ hF
  have hM := hM.ext hx
  refine st hF (g_not hF rfl) rfl fun a hF => ?_
  refine wpList_nil ?_
  refine tN ?_
  refine c_T hF rfl ?_
  refine sq ?_
  refine wp_region_lit ?_
  refine st hF (g_build0 ty_bu_27) rfl fun a hF => ?_
  refine stN hF (d_storeAgg 1 hM rfl ty_sz_27 hF rfl rfl (tenC_one rfl) (by simp only [fnC_size, cells_size, vecC_size, tabC_size, planeC_size, tenC_size, smC_size, numC_size, numI_size]) (by simp only [fnC_size, cells_size, vecC_size, tabC_size, planeC_size, tenC_size, smC_size, numC_size, numI_size] <;> omega) (splice_whole _ _ rfl)) ?_
  intro _ w' a hM hF
  change Mem w w' [some (b1, algC p n T f), some (b2, tenC 0 0 0 0 (.slice none 0 0)), none, none] [] at hM
  refine st hF (g_assign hF rfl) rfl fun a hF => ?_
  refine wpList_nil ?_
  refine tN ?_
  refine wp_ret ?_
  refine tR ?_
  refine fin2 rfl hF.defers (res_agg ty_ag_27 hF rfl (hM.row 1 rfl) (by simp only [fnC_size, cells_size, vecC_size, tabC_size, planeC_size, tenC_size, smC_size, numC_size, numI_size])) (res_tmp hF rfl) ⟨_, rfl, hM.below, ?_⟩
  show _ = _
  rfl

theorem ProductTensorIB (p n : Nat) (T : Nat → Nat → Nat → Nat) (f : Nat → Nat) (w : World) (hp : primeN p) (hn0 : 0 < n) (hn : n ≤ 6) (hTp : ∀ i j k, T i j k < p) (hT0 : ∀ i j k, n ≤ k → T i j k = 0) (hf : ∀ i, f i ≤ 255) (hc : CodeP (p : Int) (n : Int) T f 0 (vAtL [])) :
    CallsR Try.prog 24 #[.agg (algC (p : Int) (n : Int) T f)] w (fun v w' => TenOut0 w w' (p : Int) (n : Int) ((2 : Nat) : Int) ((1 : Nat) : Int) (n ^ (2 + 1)) (prF n T (n * n * n)) v) := by
  refine calls_fr [.agg (algC (p : Int) (n : Int) T f)] Try.func24 rfl Try.ntmps24 rfl fun a hF => ?_
  have hM : Mem w w [none, none, none, none, none] [] := MemX.start w 5
  change Fr 35 a [(0, .agg (algC (p : Int) (n : Int) T f))] at hF
  have hp2 := hp.two
  have hp13 := hp.le
  have hT : ∀ i j k, T i j k ≤ 255 := fun i j k => by have := hTp i j k; omega
  have hpP := hc.1.1.1
  have hw := wl_small (i := 2) (o := 1) hn (by omega)
  have hcb : n ^ (2 + 1) = n * n * n := cube
  have hw3 := hw.2.2
  have hnn : n ≤ n * n := Nat.le_mul_of_pos_left _ hn0
  have hnn3 : n * n ≤ n * n * n := Nat.le_mul_of_pos_right _ hn0
  refine sq ?_
  refine wp_region_lit ?_
  refine stR hF (d_box 0 hM hF rfl) rfl ?_
  rintro _ w' a ⟨b1, rfl, hM, -⟩ hF
  change Mem w w' [some (b1, algC (p : Int) (n : Int) T f), none, none, none, none] [] at hM
  refine stR hF (d_alloc 1 hM ty_ze_27) rfl ?_
  rintro _ w' a ⟨b2, rfl, hM, -⟩ hF
  change Mem w w' [some (b1, algC (p : Int) (n : Int) T f), some (b2, tenC 0 0 0 0 (.slice none 0 0)), none, none, none] [] at hM
  refine st hF (g_assign hF rfl) rfl fun a hF => ?_
  refine wpList_nil ?_
  refine tN ?_
  refine sq ?_
  refine sq ?_
  refine wp_region_lit ?_
  refine st hF (g_loadAgg ty_ag_43 hF rfl (hM.row 0 rfl) (by simp only [fnC_size, cells_size, vecC_size, tabC_size, planeC_size, tenC_size, smC_size, numC_size, numI_size] <;> omega) (whole cells_size)) rfl fun a hF => ?_
  refine stR hF (d_call Try.call57 hF (.cons rfl .nil) ((CallsR.val (IsAlgebraI_ok (p : Int) (n : Int) T f _ (fun _ _ _ => hT _ _ _) (fun _ => hf _)) (congrArg Value.bool (decide_eq_true hc.1))))) rfl ?_
  rintro _ w' a ⟨hx, rfl⟩ hF
  have hM := hM.ext hx
  refine st hF (g_not hF rfl) rfl fun a hF => ?_
  refine wpList_nil ?_
  refine tN ?_
  refine c_Fl hF rfl ?_
  refine wp_skip ?_
  refine tN ?_
  refine sq ?_
  refine wp_region_lit ?_
  refine st hF (g_assign hF rfl) rfl fun a hF => ?_
  refine wpList_nil ?_
  refine tN ?_
  refine sq ?_
  refine sq ?_
  refine wp_region_lit ?_
  refine st hF (g_fieldAddr ty_fo_43_1 hF rfl) rfl fun a hF => st hF (g_load ty_on_2 hF rfl (hM.row 0 rfl) (algC_n (by omega))) rfl fun a hF => st hF (g_move hF rfl) rfl fun a hF => ?_
  refine wpList_nil ?_
  refine tN ?_
  refine wp_block ?_
  change Mem w _ [some (b1, algC (p : Int) (n : Int) T f), some (b2, tenC 0 0 0 0 (.slice none 0 0)), none, none, none] [] at hM
  refine c_loop (fun (kk : Nat) a w' => kk ≤ n ∧ (True) ∧ ∃ (u4_1 : Value) (e4_1 : Option (Nat × Array Value)), Sl 6 u4_1 e4_1 (kk * n) (fun c => .int .u8 ((T (c / 6 / n) (c / 6 % n) (c % 6) : Nat) : Int)) ∧ Fr 35 a [(0, .agg (algC (p : Int) (n : Int) T f)), (1, ptr b1 (0)), (2, ptr b2 (0)), (3, .int .i64 (0)), (7, .agg (algC (p : Int) (n : Int) T f)), (8, .bool (true)), (9, .bool (false)), (11, ptr b1 (0 + 1)), (12, .int .i64 (((n : Nat) : Int))), (13, .int .i64 (((kk : Nat) : Int))), (4, u4_1)] ∧ Mem w w' [some (b1, algC (p : Int) (n : Int) T f), some (b2, tenC 0 0 0 0 (.slice none 0 0)), none, none, e4_1] []) (fun kk => n - kk) 0 ?_ ?_
  ·
    refine ⟨by omega, trivial, (.slice none 0 0), (none), (by rw [Nat.zero_mul]; exact Sl.nil 6 _), hF.sub _ (by repeat' constructor), ?_⟩
    exact hM
  ·
    clear hF hM
    rintro gi a w' ⟨hgi, hinv1, u4_1, e4_1, hsl1, hF, hM⟩
    have hri : gi < n → gi * n + n ≤ n * n := fun h => by rw [← Nat.succ_mul]; exact Nat.mul_le_mul_right _ h
    refine sq ?_
    refine wp_region_lit ?_
    refine st hF (g_lss hF rfl rfl) rfl fun a hF => ?_
    refine wpList_nil ?_
    refine tN ?_
    refine sq ?_
    refine c_cond hF rfl (fun h4 => ?_) (fun h4 => ?_)
    ·
      refine wp_skip ?_
      refine tN ?_
      refine sq ?_
      refine wp_block ?_
      refine sq ?_
      refine wp_region_lit ?_
      refine st hF (g_move hF rfl) rfl fun a hF => st hF (g_assign hF rfl) rfl fun a hF => ?_
      refine wpList_nil ?_
      refine tN ?_
      refine sq ?_
      refine wp_region_lit ?_
      refine st hF (g_fieldAddr ty_fo_43_1 hF rfl) rfl fun a hF => st hF (g_load ty_on_2 hF rfl (hM.row 0 rfl) (algC_n (by omega))) rfl fun a hF => st hF (g_move hF rfl) rfl fun a hF => ?_
      refine wpList_nil ?_
      refine tN ?_
      refine wp_block ?_
      change Mem w _ [some (b1, algC (p : Int) (n : Int) T f), some (b2, tenC 0 0 0 0 (.slice none 0 0)), none, none, e4_1] [] at hM
      refine c_loop (fun (kk : Nat) a w' => kk ≤ n ∧ (True) ∧ ∃ (u4_2 : Value) (e4_2 : Option (Nat × Array Value)), Sl 6 u4_2 e4_2 (gi * n + kk) (fun c => .int .u8 ((T (c / 6 / n) (c / 6 % n) (c % 6) : Nat) : Int)) ∧ Fr 35 a [(0, .agg (algC (p : Int) (n : Int) T f)), (1, ptr b1 (0)), (2, ptr b2 (0)), (3, .int .i64 (0)), (7, .agg (algC (p : Int) (n : Int) T f)), (8, .bool (true)), (9, .bool (false)), (11, ptr b1 (0 + 1)), (12, .int .i64 (((n : Nat) : Int))), (13, .int .i64 (((gi : Nat) : Int))), (14, .bool (decide ((((gi : Nat) : Int) : Int) < ((n : Nat) : Int)))), (15, .int .i64 (((gi : Nat) : Int))), (5, .int .i64 (((gi : Nat) : Int))), (16, ptr b1 (0 + 1)), (17, .int .i64 (((n : Nat) : Int))), (18, .int .i64 (((kk : Nat) : Int))), (4, u4_2)] ∧ Mem w w' [some (b1, algC (p : Int) (n : Int) T f), some (b2, tenC 0 0 0 0 (.slice none 0 0)), none, none, e4_2] []) (fun kk => n - kk) 0 ?_ ?_
      ·
        refine ⟨by omega, trivial, (u4_1), (e4_1), hsl1, hF.sub _ (by repeat' constructor), ?_⟩
        exact hM
      ·
        clear hF hM
        rintro gj a w' ⟨hgj, hinv2, u4_2, e4_2, hsl2, hF, hM⟩
        refine sq ?_
        refine wp_region_lit ?_
        refine st hF (g_lss hF rfl rfl) rfl fun a hF => ?_
        refine wpList_nil ?_
        refine tN ?_
        refine sq ?_
        refine c_cond hF rfl (fun h5 => ?_) (fun h5 => ?_)
        ·
          refine wp_skip ?_
          refine tN ?_
          refine sq ?_
          refine wp_block ?_
          refine sq ?_
          refine wp_region_lit ?_
          refine st hF (g_move hF rfl) rfl fun a hF => st hF (g_assign hF rfl) rfl fun a hF => ?_
          refine wpList_nil ?_
          refine tN ?_
          refine wp_region_lit ?_
          refine st hF (g_move hF rfl) rfl fun a hF => st hF (g_move hF rfl) rfl fun a hF => st hF (g_move hF rfl) rfl fun a hF => st hF (g_fieldAddr ty_fo_43_2 hF rfl) rfl fun a hF => st hF (g_indexAddr ty_ar_37 hF rfl rfl rfl (by omega)) rfl fun a hF => st hF (g_indexAddr ty_ar_36 hF rfl rfl rfl (by omega)) rfl fun a hF => st hF (g_loadAgg ty_ag_35 hF rfl (hM.row 0 rfl) (by simp only [fnC_size, cells_size, vecC_size, tabC_size, planeC_size, tenC_size, smC_size, numC_size, numI_size] <;> omega) (algC_row (gi) (gj) (by omega) (by omega) (by omega) (by omega))) rfl fun a hF => ?_
          refine stR hF (d_buildC (vs := [(0, .agg (vecC (T (gi) (gj))))]) 2 hM hF (build1 hF rfl) (fun w => ty_bsg_64_1 (T (gi) (gj)) w)) rfl ?_
          rintro _ w' a ⟨b6, rfl, hM, -⟩ hF
          change Mem w w' [some (b1, algC (p : Int) (n : Int) T f), some (b2, tenC 0 0 0 0 (.slice none 0 0)), some (b6, vecsC 1 (vAtL [(T (gi) (gj))])), none, e4_2] [] at hM
          refine stR hF (d_append (k := 4) (N := gi * n + gj) (m := 1) (f := (fun c => .int .u8 ((T (c / 6 / n) (c / 6 % n) (c % 6) : Nat) : Int))) (g := fun q => .int .u8 (((((T (gi) (gj))) q : Nat)) : Int)) ty_si_64 rfl (by decide) hM rfl hF rfl rfl hsl2 (fun q hq => ((hM.row 2 rfl).cell _).trans (vecs1_get q hq)) (fun _ _ => rfl) (by decide) (by unfold maxLen; omega) (by omega)) rfl ?_
          rintro u7 w' a ⟨e8, hM, hs9⟩ hF
          change Mem w w' [some (b1, algC (p : Int) (n : Int) T f), some (b2, tenC 0 0 0 0 (.slice none 0 0)), some (b6, vecsC 1 (vAtL [(T (gi) (gj))])), none, e8] [] at hM
          refine st hF (g_assign hF rfl) rfl fun a hF => ?_
          refine wpList_nil ?_
          refine iN ?_
          refine tN ?_
          refine wp_region_lit ?_
          refine st hF (g_add hF rfl rfl (add_nat (gj) (1) (by omega))) rfl fun a hF => st hF (g_move hF rfl) rfl fun a hF => ?_
          refine wpList_nil ?_
          refine tN ?_
          have hM := hM.drop 2
          refine ⟨gj + 1, ⟨by omega, trivial, (u7), (e8), (pr_snoc (by omega) hs9), hF.sub _ (by repeat' constructor), ?_⟩, by omega⟩
          exact hM
        ·
          obtain rfl : n = gj := by omega
          refine wp_exit ?_
          refine tX ?_
          refine tX ?_
          refine ib_same ?_
          refine iN ?_
          refine tN ?_
          refine wp_region_lit ?_
          refine st hF (g_add hF rfl rfl (add_nat (gi) (1) (by omega))) rfl fun a hF => st hF (g_move hF rfl) rfl fun a hF => ?_
          refine wpList_nil ?_
          refine tN ?_
          refine ⟨gi + 1, ⟨by omega, trivial, (u4_2), (e4_2), (by have h9 := hsl2; rwa [← Nat.succ_mul] at h9), hF.sub _ (by repeat' constructor), ?_⟩, by omega⟩
          exact hM
    ·
      obtain rfl : n = gi := by omega
      refine wp_exit ?_
      refine tX ?_
      refine tX ?_
      refine ib_same ?_
      refine tN ?_
      refine sq ?_
      refine wp_region_lit ?_
      refine st hF (g_loadAgg ty_ag_43 hF rfl (hM.row 0 rfl) (by simp only [fnC_size, cells_size, vecC_size, tabC_size, planeC_size, tenC_size, smC_size, numC_size, numI_size] <;> omega) (whole cells_size)) rfl fun a hF => st hF (g_move hF rfl) rfl fun a hF => ?_
      obtain ⟨bP, capP, csP, hvP, heP, hsP⟩ := Sl.pos hsl1 (by omega)
      subst hvP
      subst heP
      change Mem w _ [some (b1, algC (p : Int) (n : Int) T f), some (b2, tenC 0 0 0 0 (.slice none 0 0)), none, none, some (bP, csP)] [] at hM
      refine stR hF (d_call Try.call58 hF (.cons rfl (.cons rfl (.cons rfl (.cons rfl .nil)))) (tensorOfVectors_ok p n 2 1 bP (capP) (n * n) csP T f (fun q => T (q / n) (q % n)) _ hpP hn0 hn (wl_small hn (by omega)) (by rw [cube]; exact Nat.le_refl _) (fun q c => hTp _ _ _) (by rw [hsP.sz]; exact Nat.mul_le_mul_right _ hsP.le) (fun q hq => hsP.vec (V := fun q => T (q / n) (q % n)) q hq) (hM.row 4 rfl))) rfl ?_
      rintro _ w' a ⟨hx, b10, rfl, hge, hbk⟩ hF
      have hM := hM.fill hx 3 hbk hge
      change Mem w w' [some (b1, algC (p : Int) (n : Int) T f), some (b2, tenC 0 0 0 0 (.slice none 0 0)), none, some (b10, numC (n ^ (2 + 1)) (tvF n (n * n) (fun q => T (q / n) (q % n)))), some (bP, csP)] [] at hM
      refine stN hF (d_storeAgg 1 hM rfl ty_sz_27 hF rfl rfl (tenC_one rfl) (by simp only [fnC_size, cells_size, vecC_size, tabC_size, planeC_size, tenC_size, smC_size, numC_size, numI_size]) (by simp only [fnC_size, cells_size, vecC_size, tabC_size, planeC_size, tenC_size, smC_size, numC_size, numI_size] <;> omega) (splice_whole _ _ rfl)) ?_
      intro _ w' a hM hF
      change Mem w w' [some (b1, algC (p : Int) (n : Int) T f), some (b2, tenC (p : Int) (n : Int) ((2 : Nat) : Int) ((1 : Nat) : Int) (.slice (some ⟨b10, 0, none⟩) (n ^ (2 + 1)) (n ^ (2 + 1)))), none, some (b10, numC (n ^ (2 + 1)) (tvF n (n * n) (fun q => T (q / n) (q % n)))), some (bP, csP)] [] at hM
      refine st hF (g_assign hF rfl) rfl fun a hF => ?_
      refine wpList_nil ?_
      refine tN ?_
      refine wp_ret ?_
      refine fin2 rfl hF.defers (res_agg ty_ag_27 hF rfl (hM.row 1 rfl) (by simp only [fnC_size, cells_size, vecC_size, tabC_size, planeC_size, tenC_size, smC_size, numC_size, numI_size])) (res_tmp hF rfl) ⟨_, rfl, hM.below, ?_⟩
      exact ⟨_, rfl, hM.ge 3 rfl, hM.row 3 rfl⟩

theorem law_ProductTensorA (p n : Int) (T : Nat → Nat → Nat → Nat) (f : Nat → Nat) (w : World) (hT : ∀ i j k, T i j k ≤ 255) (hf : ∀ i, f i ≤ 255) (hc : ¬ CodeP p n T f 0 (vAtL [])) :
    CallsR Try.prog 5 #[.agg (algC p n T f)] w (fun res _ => res = .bool true) := by
  refine calls_fr [.agg (algC p n T f)] Try.func5 rfl Try.ntmps5 rfl fun a hF => ?_
  have hM : Mem w w [none, none, none, none] [] := MemX.start w 4
  change Fr 66 a [(0, .agg (algC p n T f))] at hF
  refine sq ?_
  refine wp_region_lit ?_
  refine stR hF (d_box 0 hM hF rfl) rfl ?_
  rintro _ w' a ⟨b1, rfl, hM, -⟩ hF
  change Mem w w' [some (b1, algC p n T f), none, none, none] [] at hM
  refine st hF (g_assign hF rfl) rfl fun a hF => ?_
  refine wpList_nil ?_
  refine tN ?_
  refine sq ?_
  refine wp_region_lit ?_
  refine st hF (g_loadAgg ty_ag_39 hF rfl (hM.row 0 rfl) (by simp only [fnC_size, cells_size, vecC_size, tabC_size, planeC_size, tenC_size, smC_size, numC_size, numI_size] <;> omega) (whole cells_size)) rfl fun a hF => ?_
  refine stR hF (d_call Try.call23 hF (.cons rfl .nil) (toAlgebra_ok p n T f _)) rfl ?_
  rintro _ w' a ⟨hx, rfl⟩ hF
  have hM := hM.ext hx
  refine stR hF (d_call Try.call22 hF (.cons rfl .nil) (ProductTensorSA p n T f _ hT hf hc)) rfl ?_
  rintro _ w' a ⟨hx, rfl⟩ hF
  have hM := hM.ext hx
  refine st hF (g_move hF rfl) rfl fun a hF => st hF (g_extract hF rfl rfl) rfl fun a hF => st hF (g_extract hF rfl rfl) rfl fun a hF => ?_
  refine stR hF (d_alloc 1 hM ty_ze_27) rfl ?_
  rintro _ w' a ⟨b2, rfl, hM, -⟩ hF
  change Mem w w' [some (b1, algC p n T f), some (b2, tenC 0 0 0 0 (.slice none 0 0)), none, none] [] at hM
  refine stN hF (d_storeAgg 1 hM rfl ty_sz_27 hF rfl rfl (tenC_one rfl) (by simp only [fnC_size, cells_size, vecC_size, tabC_size, planeC_size, tenC_size, smC_size, numC_size, numI_size]) (by simp only [fnC_size, cells_size, vecC_size, tabC_size, planeC_size, tenC_size, smC_size, numC_size, numI_size] <;> omega) (splice_whole _ _ rfl)) ?_
  intro _ w' a hM hF
  change Mem w w' [some (b1, algC p n T f), some (b2, tenC 0 0 0 0 (.slice none 0 0)), none, none] [] at hM
  refine st hF (g_assign hF rfl) rfl fun a hF => ?_
  refine wpList_nil ?_
  refine tN ?_
  refine sq ?_
  refine wp_region_lit ?_
  refine st hF (g_loadAgg ty_ag_39 hF rfl (hM.row 0 rfl) (by simp only [fnC_size, cells_size, vecC_size, tabC_size, planeC_size, tenC_size, smC_size, numC_size, numI_size] <;> omega) (whole cells_size)) rfl fun a hF => ?_
  refine stR hF (d_call Try.call23 hF (.cons rfl .nil) (toAlgebra_ok p n T f _)) rfl ?_
  rintro _ w' a ⟨hx, rfl⟩ hF
  have hM := hM.ext hx
  refine stR hF (d_call Try.call24 hF (.cons rfl .nil) (ProductTensorIA p n T f _ hT hf hc)) rfl ?_
  rintro _ w' a ⟨hx, rfl⟩ hF
  have hM := hM.ext hx
  refine st hF (g_move hF rfl) rfl fun a hF => st hF (g_extract hF rfl rfl) rfl fun a hF => st hF (g_extract hF rfl rfl) rfl fun a hF => ?_
  refine stR hF (d_alloc 2 hM ty_ze_27) rfl ?_
  rintro _ w' a ⟨b3, rfl, hM, -⟩ hF
  change Mem w w' [some (b1, algC p n T f), some (b2, tenC 0 0 0 0 (.slice none 0 0)), some (b3, tenC 0 0 0 0 (.slice none 0 0)), none] [] at hM
  refine stN hF (d_storeAgg 2 hM rfl ty_sz_27 hF rfl rfl (tenC_one rfl) (by simp only [fnC_size, cells_size, vecC_size, tabC_size, planeC_size, tenC_size, smC_size, numC_size, numI_size]) (by simp only [fnC_size, cells_size, vecC_size, tabC_size, planeC_size, tenC_size, smC_size, numC_size, numI_size] <;> omega) (splice_whole _ _ rfl)) ?_
  intro _ w' a hM hF
  change Mem w w' [some (b1, algC p n T f), some (b2, tenC 0 0 0 0 (.slice none 0 0)), some (b3, tenC 0 0 0 0 (.slice none 0 0)), none] [] at hM
  refine st hF (g_assign hF rfl) rfl fun a hF => ?_
  refine wpList_nil ?_
  refine tN ?_
  refine sq ?_
  refine sq ?_
  refine wp_region_lit ?_
  refine st hF (g_loadAgg ty_ag_27 hF rfl (hM.row 2 rfl) (by simp only [fnC_size, cells_size, vecC_size, tabC_size, planeC_size, tenC_size, smC_size, numC_size, numI_size] <;> omega) (whole rfl)) rfl fun a hF => st hF (g_loadAgg ty_ag_27 hF rfl (hM.row 1 rfl) (by simp only [fnC_size, cells_size, vecC_size, tabC_size, planeC_size, tenC_size, smC_size, numC_size, numI_size] <;> omega) (whole rfl)) rfl fun a hF => ?_
  refine stR hF (d_call Try.call17 hF (.cons rfl (.cons rfl .nil)) (eqTensor_0 _)) rfl ?_
  rintro _ w' a ⟨hx, rfl⟩ hF
  have hM := hM.ext hx
  refine st hF (g_not hF rfl) rfl fun a hF => st hF (g_move hF rfl) rfl fun a hF => stY hF rfl rfl rfl (g_move hF rfl) rfl fun a hF => stY hF rfl rfl rfl (g_move hF rfl) rfl fun a hF => stY hF rfl rfl rfl (g_neq hF rfl rfl) rfl fun a hF => st hF (g_pickF hF rfl rfl) rfl fun a hF => ?_
  refine wpList_nil ?_
  refine tN ?_
  refine c_kF hF rfl (by decide) ?_
  refine wp_skip ?_
  refine tN ?_
  refine sq ?_
  refine wp_region_lit ?_
  refine st hF (g_assign hF rfl) rfl fun a hF => ?_
  refine wpList_nil ?_
  refine tN ?_
  refine sq ?_
  refine wp_region_lit ?_
  refine st hF (g_loadAgg ty_ag_27 hF rfl (hM.row 2 rfl) (by simp only [fnC_size, cells_size, vecC_size, tabC_size, planeC_size, tenC_size, smC_size, numC_size, numI_size] <;> omega) (whole rfl)) rfl fun a hF => st hF (g_move hF rfl) rfl fun a hF => ?_
  refine stR hF (d_call Try.call20 hF (.cons rfl (.cons rfl .nil)) (markTensor_0 (1) _ (by omega))) rfl ?_
  rintro _ w' a ⟨hx, rfl⟩ hF
  have hM := hM.ext hx
  refine st hF (g_assign hF rfl) rfl fun a hF => ?_
  refine wpList_nil ?_
  refine tN ?_
  refine sq ?_
  refine wp_region_lit ?_
  refine st hF (g_assign hF rfl) rfl fun a hF => ?_
  refine wpList_nil ?_
  refine tN ?_
  refine sq ?_
  refine wp_region_lit ?_
  refine st hF (g_loadAgg ty_ag_27 hF rfl (hM.row 2 rfl) (by simp only [fnC_size, cells_size, vecC_size, tabC_size, planeC_size, tenC_size, smC_size, numC_size, numI_size] <;> omega) (whole rfl)) rfl fun a hF => st hF (g_move hF rfl) rfl fun a hF => ?_
  refine stR hF (d_call Try.call21 hF (.cons rfl (.cons rfl .nil)) (heldTensor_0 (1) _ (by omega))) rfl ?_
  rintro _ w' a ⟨hx, rfl⟩ hF
  have hM := hM.ext hx
  refine st hF (g_assign hF rfl) rfl fun a hF => ?_
  refine wpList_nil ?_
  refine tN ?_
  refine sq ?_
  refine sq ?_
  refine wp_region_lit ?_
  refine st hF (g_move hF rfl) rfl fun a hF => st hF (g_lss hF rfl rfl) rfl fun a hF => ?_
  refine wpList_nil ?_
  refine tN ?_
  refine c_cond hF rfl (fun h5 => ?_) (fun h5 => ?_)
  ·
    first | exact absurd rfl h5 | (exfalso; omega)
  ·
    refine wp_skip ?_
    refine tN ?_
    refine sq ?_
    refine sq ?_
    refine wp_region_lit ?_
    refine st hF (g_move hF rfl) rfl fun a hF => st hF (g_move hF rfl) rfl fun a hF => st hF (g_neq hF rfl rfl) rfl fun a hF => ?_
    refine wpList_nil ?_
    refine tN ?_
    refine c_kF hF rfl (by decide) ?_
    refine wp_skip ?_
    refine tN ?_
    refine sq ?_
    refine wp_region_lit ?_
    refine st hF (g_loadAgg ty_ag_39 hF rfl (hM.row 0 rfl) (by simp only [fnC_size, cells_size, vecC_size, tabC_size, planeC_size, tenC_size, smC_size, numC_size, numI_size] <;> omega) (whole cells_size)) rfl fun a hF => ?_
    refine stR hF (d_call Try.call23 hF (.cons rfl .nil) (toAlgebra_ok p n T f _)) rfl ?_
    rintro _ w' a ⟨hx, rfl⟩ hF
    have hM := hM.ext hx
    refine stR hF (d_call Try.call24 hF (.cons rfl .nil) (ProductTensorIA p n T f _ hT hf hc)) rfl ?_
    rintro _ w' a ⟨hx, rfl⟩ hF
    have hM := hM.ext hx
    refine st hF (g_move hF rfl) rfl fun a hF => st hF (g_extract hF rfl rfl) rfl fun a hF => st hF (g_extract hF rfl rfl) rfl fun a hF => ?_
    refine stR hF (d_alloc 3 hM ty_ze_27) rfl ?_
    rintro _ w' a ⟨b7, rfl, hM, -⟩ hF
    change Mem w w' [some (b1, algC p n T f), some (b2, tenC 0 0 0 0 (.slice none 0 0)), some (b3, tenC 0 0 0 0 (.slice none 0 0)), some (b7, tenC 0 0 0 0 (.slice none 0 0))] [] at hM
    refine stN hF (d_storeAgg 3 hM rfl ty_sz_27 hF rfl rfl (tenC_one rfl) (by simp only [fnC_size, cells_size, vecC_size, tabC_size, planeC_size, tenC_size, smC_size, numC_size, numI_size]) (by simp only [fnC_size, cells_size, vecC_size, tabC_size, planeC_size, tenC_size, smC_size, numC_size, numI_size] <;> omega) (splice_whole _ _ rfl)) ?_
    intro _ w' a hM hF
    change Mem w w' [some (b1, algC p n T f), some (b2, tenC 0 0 0 0 (.slice none 0 0)), some (b3, tenC 0 0 0 0 (.slice none 0 0)), some (b7, tenC 0 0 0 0 (.slice none 0 0))] [] at hM
    refine st hF (g_assign hF rfl) rfl fun a hF => ?_
    refine wpList_nil ?_
    refine tN ?_
    refine sq ?_
    refine sq ?_
    refine wp_region_lit ?_
    refine st hF (g_loadAgg ty_ag_27 hF rfl (hM.row 3 rfl) (by simp only [fnC_size, cells_size, vecC_size, tabC_size, planeC_size, tenC_size, smC_size, numC_size, numI_size] <;> omega) (whole rfl)) rfl fun a hF => st hF (g_loadAgg ty_ag_27 hF rfl (hM.row 1 rfl) (by simp only [fnC_size, cells_size, vecC_size, tabC_size, planeC_size, tenC_size, smC_size, numC_size, numI_size] <;> omega) (whole rfl)) rfl fun a hF => ?_
    refine stR hF (d_call Try.call17 hF (.cons rfl (.cons rfl .nil)) (eqTensor_0 _)) rfl ?_
    rintro _ w' a ⟨hx, rfl⟩ hF
    have hM := hM.ext hx
    refine st hF (g_not hF rfl) rfl fun a hF => st hF (g_move hF rfl) rfl fun a hF => stY hF rfl rfl rfl (g_move hF rfl) rfl fun a hF => stY hF rfl rfl rfl (g_move hF rfl) rfl fun a hF => stY hF rfl rfl rfl (g_neq hF rfl rfl) rfl fun a hF => st hF (g_pickF hF rfl rfl) rfl fun a hF => ?_
    refine wpList_nil ?_
    refine tN ?_
    refine c_kF hF rfl (by decide) ?_
    refine wp_skip ?_
    refine tN ?_
    refine sq ?_
    refine wp_region_lit ?_
    refine st hF (g_assign hF rfl) rfl fun a hF => ?_
    refine wpList_nil ?_
    refine tN ?_
    refine sq ?_
    refine wp_region_lit ?_
    refine st hF (g_loadAgg ty_ag_27 hF rfl (hM.row 2 rfl) (by simp only [fnC_size, cells_size, vecC_size, tabC_size, planeC_size, tenC_size, smC_size, numC_size, numI_size] <;> omega) (whole rfl)) rfl fun a hF => st hF (g_move hF rfl) rfl fun a hF => ?_
    refine stR hF (d_call Try.call21 hF (.cons rfl (.cons rfl .nil)) (heldTensor_0 (1) _ (by omega))) rfl ?_
    rintro _ w' a ⟨hx, rfl⟩ hF
    have hM := hM.ext hx
    refine st hF (g_assign hF rfl) rfl fun a hF => ?_
    refine wpList_nil ?_
    refine tN ?_
    refine sq ?_
    refine sq ?_
    refine wp_region_lit ?_
    refine st hF (g_move hF rfl) rfl fun a hF => st hF (g_lss hF rfl rfl) rfl fun a hF => ?_
    refine wpList_nil ?_
    refine tN ?_
    refine c_kF hF rfl h5 ?_
    refine wp_skip ?_
    refine tN ?_
    refine sq ?_
    refine sq ?_
    refine wp_region_lit ?_
    refine st hF (g_move hF rfl) rfl fun a hF => st hF (g_move hF rfl) rfl fun a hF => st hF (g_neq hF rfl rfl) rfl fun a hF => ?_
    refine wpList_nil ?_
    refine tN ?_
    refine c_kF hF rfl (by decide) ?_
    refine wp_skip ?_
    refine tN ?_
    refine sq ?_
    refine wp_region_lit ?_
    refine st hF (g_assign hF rfl) rfl fun a hF => ?_
    refine wpList_nil ?_
    refine tN ?_
    refine wp_ret ?_
    refine fin1 rfl hF.defers (res_tmp hF rfl) ⟨_, rfl, hM.below, ?_⟩
    show _ = _
    rfl

theorem law_ProductTensorB (p n : Nat) (T : Nat → Nat → Nat → Nat) (f : Nat → Nat) (w : World) (hp : primeN p) (hn0 : 0 < n) (hn : n ≤ 6) (hTp : ∀ i j k, T i j k < p) (hT0 : ∀ i j k, n ≤ k → T i j k = 0) (hf : ∀ i, f i ≤ 255) (hc : CodeP (p : Int) (n : Int) T f 0 (vAtL [])) :
    CallsR Try.prog 5 #[.agg (algC (p : Int) (n : Int) T f)] w (fun res _ => res = .bool true) := by
  refine calls_fr [.agg (algC (p : Int) (n : Int) T f)] Try.func5 rfl Try.ntmps5 rfl fun a hF => ?_
  have hM : Mem w w [none, none, none, none, none, none, none] [] := MemX.start w 7
  change Fr 66 a [(0, .agg (algC (p : Int) (n : Int) T f))] at hF
  have hp2 := hp.two
  have hp13 := hp.le
  have hT : ∀ i j k, T i j k ≤ 255 := fun i j k => by have := hTp i j k; omega
  have hw3 := (wl_small (n := n) (i := 2) (o := 1) hn (by omega)).2.2
  have eqlaw : ∀ c, c < n ^ (2 + 1) → (prF n T (n * n * n)) c = (prF n T (n * n * n)) c := fun _ _ => rfl
  refine sq ?_
  refine wp_region_lit ?_
  refine stR hF (d_box 0 hM hF rfl) rfl ?_
  rintro _ w' a ⟨b1, rfl, hM, -⟩ hF
  change Mem w w' [some (b1, algC (p : Int) (n : Int) T f), none, none, none, none, none, none] [] at hM
  refine st hF (g_assign hF rfl) rfl fun a hF => ?_
  refine wpList_nil ?_
  refine tN ?_
  refine sq ?_
  refine wp_region_lit ?_
  refine st hF (g_loadAgg ty_ag_39 hF rfl (hM.row 0 rfl) (by simp only [fnC_size, cells_size, vecC_size, tabC_size, planeC_size, tenC_size, smC_size, numC_size, numI_size] <;> omega) (whole cells_size)) rfl fun a hF => ?_
  refine stR hF (d_call Try.call23 hF (.cons rfl .nil) (toAlgebra_ok (p : Int) (n : Int) T f _)) rfl ?_
  rintro _ w' a ⟨hx, rfl⟩ hF
  have hM := hM.ext hx
  refine stR hF (d_call Try.call22 hF (.cons rfl .nil) (ProductTensorSB p n T f _ hp hn0 hn hTp hT0 hf  hc)) rfl ?_
  rintro _ w' a ⟨hx, b2, rfl, hge, hbk⟩ hF
  have hM := hM.fill hx 1 hbk hge
  change Mem w w' [some (b1, algC (p : Int) (n : Int) T f), some (b2, numC (n ^ (2 + 1)) (prF n T (n * n * n))), none, none, none, none, none] [] at hM
  refine st hF (g_move hF rfl) rfl fun a hF => st hF (g_extract hF rfl rfl) rfl fun a hF => st hF (g_extract hF rfl rfl) rfl fun a hF => ?_
  refine stR hF (d_alloc 2 hM ty_ze_27) rfl ?_
  rintro _ w' a ⟨b3, rfl, hM, -⟩ hF
  change Mem w w' [some (b1, algC (p : Int) (n : Int) T f), some (b2, numC (n ^ (2 + 1)) (prF n T (n * n * n))), some (b3, tenC 0 0 0 0 (.slice none 0 0)), none, none, none, none] [] at hM
  refine stN hF (d_storeAgg 2 hM rfl ty_sz_27 hF rfl rfl (tenC_one rfl) (by simp only [fnC_size, cells_size, vecC_size, tabC_size, planeC_size, tenC_size, smC_size, numC_size, numI_size]) (by simp only [fnC_size, cells_size, vecC_size, tabC_size, planeC_size, tenC_size, smC_size, numC_size, numI_size] <;> omega) (splice_whole _ _ rfl)) ?_
  intro _ w' a hM hF
  change Mem w w' [some (b1, algC (p : Int) (n : Int) T f), some (b2, numC (n ^ (2 + 1)) (prF n T (n * n * n))), some (b3, tenC (p : Int) (n : Int) ((2 : Nat) : Int) ((1 : Nat) : Int) (.slice (some ⟨b2, 0, none⟩) (n ^ (2 + 1)) (n ^ (2 + 1)))), none, none, none, none] [] at hM
  refine st hF (g_assign hF rfl) rfl fun a hF => ?_
  refine wpList_nil ?_
  refine tN ?_
  refine sq ?_
  refine wp_region_lit ?_
  refine st hF (g_loadAgg ty_ag_39 hF rfl (hM.row 0 rfl) (by simp only [fnC_size, cells_size, vecC_size, tabC_size, planeC_size, tenC_size, smC_size, numC_size, numI_size] <;> omega) (whole cells_size)) rfl fun a hF => ?_
  refine stR hF (d_call Try.call23 hF (.cons rfl .nil) (toAlgebra_ok (p : Int) (n : Int) T f _)) rfl ?_
  rintro _ w' a ⟨hx, rfl⟩ hF
  have hM := hM.ext hx
  refine stR hF (d_call Try.call24 hF (.cons rfl .nil) (ProductTensorIB p n T f _ hp hn0 hn hTp hT0 hf  hc)) rfl ?_
  rintro _ w' a ⟨hx, b4, rfl, hge, hbk⟩ hF
  have hM := hM.fill hx 3 hbk hge
  change Mem w w' [some (b1, algC (p : Int) (n : Int) T f), some (b2, numC (n ^ (2 + 1)) (prF n T (n * n * n))), some (b3, tenC (p : Int) (n : Int) ((2 : Nat) : Int) ((1 : Nat) : Int) (.slice (some ⟨b2, 0, none⟩) (n ^ (2 + 1)) (n ^ (2 + 1)))), some (b4, numC (n ^ (2 + 1)) (prF n T (n * n * n))), none, none, none] [] at hM
  refine st hF (g_move hF rfl) rfl fun a hF => st hF (g_extract hF rfl rfl) rfl fun a hF => st hF (g_extract hF rfl rfl) rfl fun a hF => ?_
  refine stR hF (d_alloc 4 hM ty_ze_27) rfl ?_
  rintro _ w' a ⟨b5, rfl, hM, -⟩ hF
  change Mem w w' [some (b1, algC (p : Int) (n : Int) T f), some (b2, numC (n ^ (2 + 1)) (prF n T (n * n * n))), some (b3, tenC (p : Int) (n : Int) ((2 : Nat) : Int) ((1 : Nat) : Int) (.slice (some ⟨b2, 0, none⟩) (n ^ (2 + 1)) (n ^ (2 + 1)))), some (b4, numC (n ^ (2 + 1)) (prF n T (n * n * n))), some (b5, tenC 0 0 0 0 (.slice none 0 0)), none, none] [] at hM
  refine stN hF (d_storeAgg 4 hM rfl ty_sz_27 hF rfl rfl (tenC_one rfl) (by simp only [fnC_size, cells_size, vecC_size, tabC_size, planeC_size, tenC_size, smC_size, numC_size, numI_size]) (by simp only [fnC_size, cells_size, vecC_size, tabC_size, planeC_size, tenC_size, smC_size, numC_size, numI_size] <;> omega) (splice_whole _ _ rfl)) ?_
  intro _ w' a hM hF
  change Mem w w' [some (b1, algC (p : Int) (n : Int) T f), some (b2, numC (n ^ (2 + 1)) (prF n T (n * n * n))), some (b3, tenC (p : Int) (n : Int) ((2 : Nat) : Int) ((1 : Nat) : Int) (.slice (some ⟨b2, 0, none⟩) (n ^ (2 + 1)) (n ^ (2 + 1)))), some (b4, numC (n ^ (2 + 1)) (prF n T (n * n * n))), some (b5, tenC (p : Int) (n : Int) ((2 : Nat) : Int) ((1 : Nat) : Int) (.slice (some ⟨b4, 0, none⟩) (n ^ (2 + 1)) (n ^ (2 + 1)))), none, none] [] at hM
  refine st hF (g_assign hF rfl) rfl fun a hF => ?_
  refine wpList_nil ?_
  refine tN ?_
  refine sq ?_
  refine sq ?_
  refine wp_region_lit ?_
  refine st hF (g_loadAgg ty_ag_27 hF rfl (hM.row 4 rfl) (by simp only [fnC_size, cells_size, vecC_size, tabC_size, planeC_size, tenC_size, smC_size, numC_size, numI_size] <;> omega) (whole rfl)) rfl fun a hF => st hF (g_loadAgg ty_ag_27 hF rfl (hM.row 2 rfl) (by simp only [fnC_size, cells_size, vecC_size, tabC_size, planeC_size, tenC_size, smC_size, numC_size, numI_size] <;> omega) (whole rfl)) rfl fun a hF => ?_
  refine stR hF (d_call Try.call17 hF (.cons rfl (.cons rfl .nil)) (eqTensor_ok (p : Int) (n : Int) ((2 : Nat) : Int) ((1 : Nat) : Int) b4 b2 (n ^ (2 + 1)) (fun c => (((prF n T (n * n * n)) c : Nat) : Int)) (fun c => (((prF n T (n * n * n)) c : Nat) : Int)) _ (hM.row 3 rfl) (hM.row 1 rfl) (by omega) (fun _ _ => rfl))) rfl ?_
  rintro _ w' a ⟨hx, rfl⟩ hF
  have hM := hM.ext hx
  refine st hF (g_not hF rfl) rfl fun a hF => st hF (g_move hF rfl) rfl fun a hF => stY hF rfl rfl rfl (g_move hF rfl) rfl fun a hF => stY hF rfl rfl rfl (g_move hF rfl) rfl fun a hF => stY hF rfl rfl rfl (g_neq hF rfl rfl) rfl fun a hF => st hF (g_pickF hF rfl rfl) rfl fun a hF => ?_
  refine wpList_nil ?_
  refine tN ?_
  refine c_kF hF rfl (by decide) ?_
  refine wp_skip ?_
  refine tN ?_
  refine sq ?_
  refine wp_region_lit ?_
  refine st hF (g_assign hF rfl) rfl fun a hF => ?_
  refine wpList_nil ?_
  refine tN ?_
  refine sq ?_
  refine wp_region_lit ?_
  refine st hF (g_loadAgg ty_ag_27 hF rfl (hM.row 4 rfl) (by simp only [fnC_size, cells_size, vecC_size, tabC_size, planeC_size, tenC_size, smC_size, numC_size, numI_size] <;> omega) (whole rfl)) rfl fun a hF => st hF (g_move hF rfl) rfl fun a hF => ?_
  refine stR hF (d_callX Try.call20 hF (.cons rfl (.cons rfl .nil)) (markTensor_ok (p : Int) (n : Int) ((2 : Nat) : Int) ((1 : Nat) : Int) b4 (n ^ (2 + 1)) (1) (fun c => (((prF n T (n * n * n)) c : Nat) : Int)) _ (by omega) (by omega) (hM.row 3 rfl))) rfl ?_
  rintro _ w' a ⟨hx, rfl, hbk⟩ hF
  have hM := hM.upd 3 rfl hx hbk
  change Mem w w' [some (b1, algC (p : Int) (n : Int) T f), some (b2, numC (n ^ (2 + 1)) (prF n T (n * n * n))), some (b3, tenC (p : Int) (n : Int) ((2 : Nat) : Int) ((1 : Nat) : Int) (.slice (some ⟨b2, 0, none⟩) (n ^ (2 + 1)) (n ^ (2 + 1)))), some (b4, numC (n ^ (2 + 1)) (fun c => (1) + c)), some (b5, tenC (p : Int) (n : Int) ((2 : Nat) : Int) ((1 : Nat) : Int) (.slice (some ⟨b4, 0, none⟩) (n ^ (2 + 1)) (n ^ (2 + 1)))), none, none] [] at hM
  refine st hF (g_assign hF rfl) rfl fun a hF => ?_
  refine wpList_nil ?_
  refine tN ?_
  refine sq ?_
  refine wp_region_lit ?_
  refine st hF (g_assign hF rfl) rfl fun a hF => ?_
  refine wpList_nil ?_
  refine tN ?_
  refine sq ?_
  refine wp_region_lit ?_
  refine st hF (g_loadAgg ty_ag_27 hF rfl (hM.row 4 rfl) (by simp only [fnC_size, cells_size, vecC_size, tabC_size, planeC_size, tenC_size, smC_size, numC_size, numI_size] <;> omega) (whole rfl)) rfl fun a hF => st hF (g_move hF rfl) rfl fun a hF => ?_
  refine stR hF (d_call Try.call21 hF (.cons rfl (.cons rfl .nil)) (heldTensor_ok (p : Int) (n : Int) ((2 : Nat) : Int) ((1 : Nat) : Int) b4 (n ^ (2 + 1)) (1) (fun c => (1) + c) _ (by omega) (by omega) (hM.row 3 rfl) (fun c _ => by omega))) rfl ?_
  rintro _ w' a ⟨hx, rfl⟩ hF
  have hM := hM.ext hx
  refine st hF (g_assign hF rfl) rfl fun a hF => ?_
  refine wpList_nil ?_
  refine tN ?_
  refine sq ?_
  refine sq ?_
  refine wp_region_lit ?_
  refine st hF (g_move hF rfl) rfl fun a hF => st hF (g_lss hF rfl rfl) rfl fun a hF => ?_
  refine wpList_nil ?_
  refine tN ?_
  refine c_cond hF rfl (fun h7 => ?_) (fun h7 => ?_)
  ·
    first | exact absurd rfl h7 | (exfalso; omega)
  ·
    refine wp_skip ?_
    refine tN ?_
    refine sq ?_
    refine sq ?_
    refine wp_region_lit ?_
    refine st hF (g_move hF rfl) rfl fun a hF => st hF (g_move hF rfl) rfl fun a hF => st hF (g_neq hF rfl rfl) rfl fun a hF => ?_
    refine wpList_nil ?_
    refine tN ?_
    refine c_cond hF rfl (fun h8 => ?_) (fun h8 => ?_)
    ·
      first | exact absurd rfl h8 | (exfalso; omega)
    ·
      refine wp_skip ?_
      refine tN ?_
      refine sq ?_
      refine wp_region_lit ?_
      refine st hF (g_loadAgg ty_ag_39 hF rfl (hM.row 0 rfl) (by simp only [fnC_size, cells_size, vecC_size, tabC_size, planeC_size, tenC_size, smC_size, numC_size, numI_size] <;> omega) (whole cells_size)) rfl fun a hF => ?_
      refine stR hF (d_call Try.call23 hF (.cons rfl .nil) (toAlgebra_ok (p : Int) (n : Int) T f _)) rfl ?_
      rintro _ w' a ⟨hx, rfl⟩ hF
      have hM := hM.ext hx
      refine stR hF (d_call Try.call24 hF (.cons rfl .nil) (ProductTensorIB p n T f _ hp hn0 hn hTp hT0 hf  hc)) rfl ?_
      rintro _ w' a ⟨hx, b9, rfl, hge, hbk⟩ hF
      have hM := hM.fill hx 5 hbk hge
      change Mem w w' [some (b1, algC (p : Int) (n : Int) T f), some (b2, numC (n ^ (2 + 1)) (prF n T (n * n * n))), some (b3, tenC (p : Int) (n : Int) ((2 : Nat) : Int) ((1 : Nat) : Int) (.slice (some ⟨b2, 0, none⟩) (n ^ (2 + 1)) (n ^ (2 + 1)))), some (b4, numC (n ^ (2 + 1)) (fun c => (1) + c)), some (b5, tenC (p : Int) (n : Int) ((2 : Nat) : Int) ((1 : Nat) : Int) (.slice (some ⟨b4, 0, none⟩) (n ^ (2 + 1)) (n ^ (2 + 1)))), some (b9, numC (n ^ (2 + 1)) (prF n T (n * n * n))), none] [] at hM
      refine st hF (g_move hF rfl) rfl fun a hF => st hF (g_extract hF rfl rfl) rfl fun a hF => st hF (g_extract hF rfl rfl) rfl fun a hF => ?_
      refine stR hF (d_alloc 6 hM ty_ze_27) rfl ?_
      rintro _ w' a ⟨b10, rfl, hM, -⟩ hF
      change Mem w w' [some (b1, algC (p : Int) (n : Int) T f), some (b2, numC (n ^ (2 + 1)) (prF n T (n * n * n))), some (b3, tenC (p : Int) (n : Int) ((2 : Nat) : Int) ((1 : Nat) : Int) (.slice (some ⟨b2, 0, none⟩) (n ^ (2 + 1)) (n ^ (2 + 1)))), some (b4, numC (n ^ (2 + 1)) (fun c => (1) + c)), some (b5, tenC (p : Int) (n : Int) ((2 : Nat) : Int) ((1 : Nat) : Int) (.slice (some ⟨b4, 0, none⟩) (n ^ (2 + 1)) (n ^ (2 + 1)))), some (b9, numC (n ^ (2 + 1)) (prF n T (n * n * n))), some (b10, tenC 0 0 0 0 (.slice none 0 0))] [] at hM
      refine stN hF (d_storeAgg 6 hM rfl ty_sz_27 hF rfl rfl (tenC_one rfl) (by simp only [fnC_size, cells_size, vecC_size, tabC_size, planeC_size, tenC_size, smC_size, numC_size, numI_size]) (by simp only [fnC_size, cells_size, vecC_size, tabC_size, planeC_size, tenC_size, smC_size, numC_size, numI_size] <;> omega) (splice_whole _ _ rfl)) ?_
      intro _ w' a hM hF
      change Mem w w' [some (b1, algC (p : Int) (n : Int) T f), some (b2, numC (n ^ (2 + 1)) (prF n T (n * n * n))), some (b3, tenC (p : Int) (n : Int) ((2 : Nat) : Int) ((1 : Nat) : Int) (.slice (some ⟨b2, 0, none⟩) (n ^ (2 + 1)) (n ^ (2 + 1)))), some (b4, numC (n ^ (2 + 1)) (fun c => (1) + c)), some (b5, tenC (p : Int) (n : Int) ((2 : Nat) : Int) ((1 : Nat) : Int) (.slice (some ⟨b4, 0, none⟩) (n ^ (2 + 1)) (n ^ (2 + 1)))), some (b9, numC (n ^ (2 + 1)) (prF n T (n * n * n))), some (b10, tenC (p : Int) (n : Int) ((2 : Nat) : Int) ((1 : Nat) : Int) (.slice (some ⟨b9, 0, none⟩) (n ^ (2 + 1)) (n ^ (2 + 1))))] [] at hM
      refine st hF (g_assign hF rfl) rfl fun a hF => ?_
      refine wpList_nil ?_
      refine tN ?_
      refine sq ?_
      refine sq ?_
      refine wp_region_lit ?_
      refine st hF (g_loadAgg ty_ag_27 hF rfl (hM.row 6 rfl) (by simp only [fnC_size, cells_size, vecC_size, tabC_size, planeC_size, tenC_size, smC_size, numC_size, numI_size] <;> omega) (whole rfl)) rfl fun a hF => st hF (g_loadAgg ty_ag_27 hF rfl (hM.row 2 rfl) (by simp only [fnC_size, cells_size, vecC_size, tabC_size, planeC_size, tenC_size, smC_size, numC_size, numI_size] <;> omega) (whole rfl)) rfl fun a hF => ?_
      refine stR hF (d_call Try.call17 hF (.cons rfl (.cons rfl .nil)) (eqTensor_ok (p : Int) (n : Int) ((2 : Nat) : Int) ((1 : Nat) : Int) b9 b2 (n ^ (2 + 1)) (fun c => (((prF n T (n * n * n)) c : Nat) : Int)) (fun c => (((prF n T (n * n * n)) c : Nat) : Int)) _ (hM.row 5 rfl) (hM.row 1 rfl) (by omega) (fun _ _ => rfl))) rfl ?_
      rintro _ w' a ⟨hx, rfl⟩ hF
      have hM := hM.ext hx
      refine st hF (g_not hF rfl) rfl fun a hF => st hF (g_move hF rfl) rfl fun a hF => stY hF rfl rfl rfl (g_move hF rfl) rfl fun a hF => stY hF rfl rfl rfl (g_move hF rfl) rfl fun a hF => stY hF rfl rfl rfl (g_neq hF rfl rfl) rfl fun a hF => st hF (g_pickF hF rfl rfl) rfl fun a hF => ?_
      refine wpList_nil ?_
      refine tN ?_
      refine c_kF hF rfl (by decide) ?_
      refine wp_skip ?_
      refine tN ?_
      refine sq ?_
      refine wp_region_lit ?_
      refine st hF (g_assign hF rfl) rfl fun a hF => ?_
      refine wpList_nil ?_
      refine tN ?_
      refine sq ?_
      refine wp_region_lit ?_
      refine st hF (g_loadAgg ty_ag_27 hF rfl (hM.row 4 rfl) (by simp only [fnC_size, cells_size, vecC_size, tabC_size, planeC_size, tenC_size, smC_size, numC_size, numI_size] <;> omega) (whole rfl)) rfl fun a hF => st hF (g_move hF rfl) rfl fun a hF => ?_
      refine stR hF (d_call Try.call21 hF (.cons rfl (.cons rfl .nil)) (heldTensor_ok (p : Int) (n : Int) ((2 : Nat) : Int) ((1 : Nat) : Int) b4 (n ^ (2 + 1)) (1) (fun c => (1) + c) _ (by omega) (by omega) (hM.row 3 rfl) (fun c _ => by omega))) rfl ?_
      rintro _ w' a ⟨hx, rfl⟩ hF
      have hM := hM.ext hx
      refine st hF (g_assign hF rfl) rfl fun a hF => ?_
      refine wpList_nil ?_
      refine tN ?_
      refine sq ?_
      refine sq ?_
      refine wp_region_lit ?_
      refine st hF (g_move hF rfl) rfl fun a hF => st hF (g_lss hF rfl rfl) rfl fun a hF => ?_
      refine wpList_nil ?_
      refine tN ?_
      refine c_kF hF rfl h7 ?_
      refine wp_skip ?_
      refine tN ?_
      refine sq ?_
      refine sq ?_
      refine wp_region_lit ?_
      refine st hF (g_move hF rfl) rfl fun a hF => st hF (g_move hF rfl) rfl fun a hF => st hF (g_neq hF rfl rfl) rfl fun a hF => ?_
      refine wpList_nil ?_
      refine tN ?_
      refine c_kF hF rfl h8 ?_
      refine wp_skip ?_
      refine tN ?_
      refine sq ?_
      refine wp_region_lit ?_
      refine st hF (g_assign hF rfl) rfl fun a hF => ?_
      refine wpList_nil ?_
      refine tN ?_
      refine wp_ret ?_
      refine fin1 rfl hF.defers (res_tmp hF rfl) ⟨_, rfl, hM.below, ?_⟩
      show _ = _
      rfl

theorem law_ProductTensor (p n : Int) (T : Nat → Nat → Nat → Nat) (f : Nat → Nat) (w : World) (hT : ∀ i j k, T i j k ≤ 255) (hf : ∀ i, f i ≤ 255) : CallsV Try.prog 5 #[.agg (algC p n T f)] w (.bool true) := by
  by_cases hc : CodeP p n T f 0 (vAtL [])
  · have hs := hc.1.1
    have hp0 := primeP_pos hs.1
    have hnn := hs.2.1
    have e1 : ((p.toNat : Nat) : Int) = p := by omega
    have e2 : ((n.toNat : Nat) : Int) = n := by omega
    have h := law_ProductTensorB p.toNat n.toNat (trunc n.toNat T) f w (primeN_of hs.1) (by omega) (by omega) (trunc_lt hs) trunc_out hf (by rw [e1, e2]; exact code_trunc hc)
    rw [e1, e2, ← algC_trunc hs] at h
    exact h
  · exact law_ProductTensorA p n T f w hT hf hc

end Go.Proofs.Ythliekalhgafcaa
