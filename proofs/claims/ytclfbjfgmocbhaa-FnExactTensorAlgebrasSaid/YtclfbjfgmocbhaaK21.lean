/- What functions of the program return, as walks over their operations; no statement of the seat is proved here. -/
import Derived.Test.YtclfbjfgmocbhaaK19
set_option linter.unusedVariables false
set_option linter.unusedSimpArgs false
namespace Go.Proofs.Ytclfbjfgmocbhaa
open Go Go.RowKit Go.Sw Go.Ech
open Classical
theorem ty_bp_32_2 : ∀ (p n : Int) w, (Instr.build 32 #[(0, .int .i64 p), (1, .int .i64 n)]).run Try.prog w = .ok (.agg (algC p n (fun _ _ _ => 0) (fun _ => 0))) w := by intros; kernel_rfl
/-- The product of a vector of the first algebra with one of the second, of size m. -/
def tenV (p m s : Nat) (v u : Nat → Nat) (k : Nat) : Nat := if k < s then v (k / m) * u (k % m) % p else 0

theorem tensorVector_ok (p m s : Nat) (v u : Nat → Nat) (U : Nat → Nat → Nat → Nat) (h : Nat → Nat) (w : World) (hp : 0 < p) (hp2 : p < 100) (hm0 : 0 < m) (hm6 : m ≤ 6) (hs6 : s ≤ 6) (hv : ∀ i, v i ≤ 255) (hu : ∀ i, u i ≤ 255) :
    CallsR Try.prog 66 #[.agg (vecC v), .agg (vecC u), .int .i64 (((s : Nat) : Int)), .agg (algC (p : Int) (m : Int) U h)] w (fun res _ => res = .agg (vecC (tenV p m s v u))) := by
  refine calls_fr [.agg (vecC v), .agg (vecC u), .int .i64 (((s : Nat) : Int)), .agg (algC (p : Int) (m : Int) U h)] Try.func66 rfl Try.ntmps66 rfl fun a hF => ?_
  have hM : Mem w w [none, none, none, none, none] [] := MemX.start w 5
  change Fr 37 a [(0, .agg (vecC v)), (1, .agg (vecC u)), (2, .int .i64 (((s : Nat) : Int))), (3, .agg (algC (p : Int) (m : Int) U h))] at hF
  refine sq ?_
  refine wp_region_lit ?_
  refine stR hF (d_box 0 hM hF rfl) rfl ?_
  rintro _ w' a ⟨b1, rfl, hM, -⟩ hF
  change Mem w w' [some (b1, vecC v), none, none, none, none] [] at hM
  refine stR hF (d_box 1 hM hF rfl) rfl ?_
  rintro _ w' a ⟨b2, rfl, hM, -⟩ hF
  change Mem w w' [some (b1, vecC v), some (b2, vecC u), none, none, none] [] at hM
  refine stR hF (d_box 2 hM hF rfl) rfl ?_
  rintro _ w' a ⟨b3, rfl, hM, -⟩ hF
  change Mem w w' [some (b1, vecC v), some (b2, vecC u), some (b3, algC (p : Int) (m : Int) U h), none, none] [] at hM
  refine stR hF (d_alloc 3 hM ty_ze_30) rfl ?_
  rintro _ w' a ⟨b4, rfl, hM, -⟩ hF
  change Mem w w' [some (b1, vecC v), some (b2, vecC u), some (b3, algC (p : Int) (m : Int) U h), some (b4, fnC 6 (fun _ => .int .u8 (0))), none] [] at hM
  refine wpList_nil ?_
  refine tN ?_
  refine sq ?_
  refine wp_region_lit ?_
  refine stR hF (d_alloc 4 hM ty_ze_30) rfl ?_
  rintro _ w' a ⟨b5, rfl, hM, -⟩ hF
  change Mem w w' [some (b1, vecC v), some (b2, vecC u), some (b3, algC (p : Int) (m : Int) U h), some (b4, fnC 6 (fun _ => .int .u8 (0))), some (b5, fnC 6 (fun _ => .int .u8 (0)))] [] at hM
  refine wpList_nil ?_
  refine tN ?_
  refine sq ?_
  refine sq ?_
  refine wp_region_lit ?_
  refine st hF (g_move hF rfl) rfl fun a hF => st hF (g_move hF rfl) rfl fun a hF => ?_
  refine wpList_nil ?_
  refine tN ?_
  refine wp_block ?_
  change Mem w _ [some (b1, vecC v), some (b2, vecC u), some (b3, algC (p : Int) (m : Int) U h), some (b4, fnC 6 (fun _ => .int .u8 (0))), some (b5, fnC 6 (fun _ => .int .u8 (0)))] [] at hM
  refine c_loop (fun (kk : Nat) a w' => kk ≤ s ∧ (True) ∧ Fr 37 a [(0, .agg (vecC v)), (1, .agg (vecC u)), (2, .int .i64 (((s : Nat) : Int))), (3, .agg (algC (p : Int) (m : Int) U h)), (4, ptr b1 (0)), (5, ptr b2 (0)), (7, ptr b3 (0)), (8, ptr b4 (0)), (9, ptr b5 (0)), (11, .int .i64 (((s : Nat) : Int))), (12, .int .i64 (((kk : Nat) : Int)))] ∧ Mem w w' [some (b1, vecC v), some (b2, vecC u), some (b3, algC (p : Int) (m : Int) U h), some (b4, fnC 6 (fun _ => .int .u8 (0))), some (b5, fnC 6 (fun c => .int .u8 ((if c < kk then v (c / m) * u (c % m) % p else 0 : Nat) : Int)))] []) (fun kk => s - kk) 0 ?_ ?_
  ·
    refine ⟨by omega, trivial, hF.sub _ (by repeat' constructor), ?_⟩
    exact hM.cast (by simp)
  ·
    clear hF hM
    rintro gk a w' ⟨hgk, hinv1, hF, hM⟩
    have hq1 := Nat.div_le_self gk m
    have hq2 := Nat.mod_lt gk hm0
    have hvi := hv (gk / m)
    have huj := hu (gk % m)
    have hvu := vv_bd hvi huj
    refine sq ?_
    refine wp_region_lit ?_
    refine st hF (g_lss hF rfl rfl) rfl fun a hF => ?_
    refine wpList_nil ?_
    refine tN ?_
    refine sq ?_
    refine c_cond hF rfl (fun h6 => ?_) (fun h6 => ?_)
    ·
      refine wp_skip ?_
      refine tN ?_
      refine sq ?_
      refine wp_block ?_
      refine sq ?_
      refine wp_region_lit ?_
      refine st hF (g_move hF rfl) rfl fun a hF => st hF (g_assign hF rfl) rfl fun a hF => ?_
      refine wpList_nil ?_
      refine tN ?_
      refine c_par 19 [] [.val (.int .i64 (((gk : Nat) : Int))), .val (.int .i64 (((gk : Nat) : Int))), .val (ptr b3 (0 + 1)), .val (.int .i64 (((m : Nat) : Int))), .val (.int .i64 ((((gk) / (m) : Nat) : Int))), .val (ptr b1 (0 + ((gk) / (m)) * 1)), .val (.int .u8 (((v ((gk) / (m)) : Nat) : Int))), .val (.int .i64 (((v ((gk) / (m)) : Nat) : Int))), .val (.int .i64 (((gk : Nat) : Int))), .val (ptr b3 (0 + 1)), .val (.int .i64 (((m : Nat) : Int))), .val (.int .i64 ((((gk) % (m) : Nat) : Int))), .val (ptr b2 (0 + ((gk) % (m)) * 1)), .val (.int .u8 (((u ((gk) % (m)) : Nat) : Int))), .val (.int .i64 (((u ((gk) % (m)) : Nat) : Int))), .val (.int .i64 ((((v ((gk) / (m))) * (u ((gk) % (m))) : Nat) : Int))), .val (ptr b3 (0 + 0)), .val (.int .i64 (((p : Nat) : Int))), .val (.int .u8 (((((v ((gk) / (m))) * (u ((gk) % (m)))) % (p) : Nat) : Int)))] hmix rfl hF rfl hM ⟨fun a w g hF hS hd => by exact par_val hS rfl (g_move hF rfl), fun a w g hF hS hd => by exact par_val hS rfl (g_move hF rfl), fun a w g hF hS hd => by exact par_val hS rfl (g_fieldAddr ty_fo_32_1 hF rfl), fun a w g hF hS hd => by have hF := hF.ext1 17 (hd 2 rfl rfl); have hM := hS.mem rfl; exact par_val hS rfl (g_load ty_on_2 hF rfl (hM.row 2 rfl) (algC_n (by omega))), fun a w g hF hS hd => by have hF := hF.ext1 16 (hd 1 rfl rfl); have hF := hF.ext1 18 (hd 3 rfl rfl); exact par_val hS rfl (g_quo hF rfl rfl (by omega) (quo_nat (gk) (m) (by omega))), fun a w g hF hS hd => by have hF := hF.ext1 19 (hd 4 rfl rfl); exact par_val hS rfl (g_indexAddr ty_ar_30 hF rfl rfl rfl (by omega)), fun a w g hF hS hd => by have hF := hF.ext1 20 (hd 5 rfl rfl); have hM := hS.mem rfl; exact par_val hS rfl (g_load ty_on_5 hF rfl (hM.row 0 rfl) (vecC_get ((gk) / (m)) (by omega) (by omega))), fun a w g hF hS hd => by have hF := hF.ext1 21 (hd 6 rfl rfl); exact par_val hS rfl (g_conv ty_un_2 ty_ud_5 hF rfl (wrap_i64 (by omega) (by omega))), fun a w g hF hS hd => by exact par_val hS rfl (g_move hF rfl), fun a w g hF hS hd => by exact par_val hS rfl (g_fieldAddr ty_fo_32_1 hF rfl), fun a w g hF hS hd => by have hF := hF.ext1 24 (hd 9 rfl rfl); have hM := hS.mem rfl; exact par_val hS rfl (g_load ty_on_2 hF rfl (hM.row 2 rfl) (algC_n (by omega))), fun a w g hF hS hd => by have hF := hF.ext1 23 (hd 8 rfl rfl); have hF := hF.ext1 25 (hd 10 rfl rfl); exact par_val hS rfl (g_rem hF rfl rfl (by omega) (rem_nat (gk) (m))), fun a w g hF hS hd => by have hF := hF.ext1 26 (hd 11 rfl rfl); exact par_val hS rfl (g_indexAddr ty_ar_30 hF rfl rfl rfl (by omega)), fun a w g hF hS hd => by have hF := hF.ext1 27 (hd 12 rfl rfl); have hM := hS.mem rfl; exact par_val hS rfl (g_load ty_on_5 hF rfl (hM.row 1 rfl) (vecC_get ((gk) % (m)) (by omega) (by omega))), fun a w g hF hS hd => by have hF := hF.ext1 28 (hd 13 rfl rfl); exact par_val hS rfl (g_conv ty_un_2 ty_ud_5 hF rfl (wrap_i64 (by omega) (by omega))), fun a w g hF hS hd => by have hF := hF.ext1 22 (hd 7 rfl rfl); have hF := hF.ext1 29 (hd 14 rfl rfl); exact par_val hS rfl (g_mul hF rfl rfl (mul_nat (v ((gk) / (m))) (u ((gk) % (m))) (by omega))), fun a w g hF hS hd => by exact par_val hS rfl (g_fieldAddr ty_fo_32_0 hF rfl), fun a w g hF hS hd => by have hF := hF.ext1 31 (hd 16 rfl rfl); have hM := hS.mem rfl; exact par_val hS rfl (g_load ty_on_2 hF rfl (hM.row 2 rfl) (algC_p (by omega))), fun a w g hF hS hd => by have hF := hF.ext1 30 (hd 15 rfl rfl); have hF := hF.ext1 32 (hd 17 rfl rfl); exact par_call (by repeat constructor) hS rfl (d_call Try.call58 hF (.cons rfl (.cons rfl .nil)) (residue_nat ((v ((gk) / (m))) * (u ((gk) % (m)))) (p) _ (by omega) (by omega) (by omega))), trivial⟩ ?_
      intro a w' L hF hS hq
      have hF := hF.ext1 15 (hq 0 rfl rfl)
      have hF := hF.ext1 16 (hq 1 rfl rfl)
      have hF := hF.ext1 17 (hq 2 rfl rfl)
      have hF := hF.ext1 18 (hq 3 rfl rfl)
      have hF := hF.ext1 19 (hq 4 rfl rfl)
      have hF := hF.ext1 20 (hq 5 rfl rfl)
      have hF := hF.ext1 21 (hq 6 rfl rfl)
      have hF := hF.ext1 22 (hq 7 rfl rfl)
      have hF := hF.ext1 23 (hq 8 rfl rfl)
      have hF := hF.ext1 24 (hq 9 rfl rfl)
      have hF := hF.ext1 25 (hq 10 rfl rfl)
      have hF := hF.ext1 26 (hq 11 rfl rfl)
      have hF := hF.ext1 27 (hq 12 rfl rfl)
      have hF := hF.ext1 28 (hq 13 rfl rfl)
      have hF := hF.ext1 29 (hq 14 rfl rfl)
      have hF := hF.ext1 30 (hq 15 rfl rfl)
      have hF := hF.ext1 31 (hq 16 rfl rfl)
      have hF := hF.ext1 32 (hq 17 rfl rfl)
      have hF := hF.ext1 33 (hq 18 rfl rfl)
      have hM := hS.mem rfl
      change wpList Try.prog _ _ [_, _] _ _
      refine st hF (g_indexAddr ty_ar_30 hF rfl rfl rfl (by omega)) rfl fun a hF => ?_
      refine stN hF (d_store 4 hM rfl ty_on_5 hF rfl rfl rfl (by first | omega | (simp only [fnC_size, cells_size, vecC_size, tabC_size, planeC_size] <;> omega))) ?_
      intro _ w' a hM hF
      rw [show (fnC 6 (fun c => .int .u8 ((if c < gk then v (c / m) * u (c % m) % p else 0 : Nat) : Int))).setIfInBounds (0 + (gk) * 1) (.int .u8 (((((v ((gk) / (m))) * (u ((gk) % (m)))) % (p) : Nat) : Int))) = fnC 6 (fun c => .int .u8 (((if c = gk then ((v ((gk) / (m))) * (u ((gk) % (m)))) % (p) else if c < gk then v (c / m) * u (c % m) % p else 0) : Nat) : Int)) from fnC_set (fun c _ => by rw [show 0 + (gk) * 1 = gk by omega]; by_cases hh : c = gk <;> simp [hh])] at hM
      change Mem w w' [some (b1, vecC v), some (b2, vecC u), some (b3, algC (p : Int) (m : Int) U h), some (b4, fnC 6 (fun _ => .int .u8 (0))), some (b5, fnC 6 (fun c => .int .u8 (((if c = gk then ((v ((gk) / (m))) * (u ((gk) % (m)))) % (p) else if c < gk then v (c / m) * u (c % m) % p else 0) : Nat) : Int)))] [] at hM
      refine wpList_nil ?_
      refine iN ?_
      refine tN ?_
      refine wp_region_lit ?_
      refine st hF (g_add hF rfl rfl (add_nat (gk) (1) (by omega))) rfl fun a hF => st hF (g_move hF rfl) rfl fun a hF => ?_
      refine wpList_nil ?_
      refine tN ?_
      refine ⟨gk + 1, ⟨by omega, trivial, hF.sub _ (by repeat' constructor), ?_⟩, by omega⟩
      refine hM.rowc 4 rfl (fnC_congr fun c hc => congrArg (Value.int .u8) (congrArg Nat.cast ?_))
      by_cases e1 : c = gk
      · subst e1; simp
      · have e0 : (c < gk + 1) = (c < gk) := by apply propext; omega
        simp [e0, e1]
    ·
      obtain rfl : s = gk := by omega
      refine wp_exit ?_
      refine tX ?_
      refine tX ?_
      refine ib_same ?_
      refine tN ?_
      refine sq ?_
      refine wp_region_lit ?_
      refine st hF (g_loadAgg ty_ag_30 hF rfl (hM.row 4 rfl) (by simp only [fnC_size, cells_size, vecC_size, tabC_size, planeC_size] <;> omega) (whole (by simp only [fnC_size, cells_size, vecC_size, tabC_size, planeC_size]))) rfl fun a hF => ?_
      refine stN hF (d_storeAgg 3 hM rfl ty_sz_30 hF rfl rfl (by first | exact vecC_one | exact cells_one | (refine fnC_one fun _ _ => ?_; first | rfl | (split <;> rfl))) (by simp only [fnC_size, cells_size, vecC_size, tabC_size, planeC_size]) (by simp only [fnC_size, cells_size, vecC_size, tabC_size, planeC_size] <;> omega) (splice_whole _ _ (by simp only [fnC_size, cells_size, vecC_size, tabC_size, planeC_size]))) ?_
      intro _ w' a hM hF
      change Mem w w' [some (b1, vecC v), some (b2, vecC u), some (b3, algC (p : Int) (m : Int) U h), some (b4, fnC 6 (fun c => .int .u8 ((if c < s then v (c / m) * u (c % m) % p else 0 : Nat) : Int))), some (b5, fnC 6 (fun c => .int .u8 ((if c < s then v (c / m) * u (c % m) % p else 0 : Nat) : Int)))] [] at hM
      refine wpList_nil ?_
      refine tN ?_
      refine wp_ret ?_
      refine fin1 rfl hF.defers (res_agg ty_ag_30 hF rfl (hM.row 3 rfl) (by simp only [fnC_size, cells_size, vecC_size, tabC_size, planeC_size])) ⟨_, rfl, hM.below, ?_⟩
      show _ = _
      exact congrArg Value.agg (fnC_congr fun c _ => rfl)

def tenT (p m s : Nat) (T U : Nat → Nat → Nat → Nat) (a b c i j k : Nat) : Nat := if i < s ∧ j < s ∧ k < s ∧ (i < a ∨ i = a ∧ (j < b ∨ j = b ∧ k < c)) then T (i / m) (j / m) (k / m) * U (i % m) (j % m) (k % m) % p else 0
theorem tenV_zero {p m : Nat} {v u : Nat → Nat} : tenV p m 0 v u = fun _ => 0 := funext fun i => by unfold tenV; rw [if_neg (by omega)]
theorem tenV_succ {p m g j : Nat} {v u : Nat → Nat} : tenV p m (g + 1) v u j = if j = g then v (g / m) * u (g % m) % p else tenV p m g v u j := by
  unfold tenV
  by_cases e : j = g
  · subst e; rw [if_pos (by omega), if_pos rfl]
  · rw [if_neg e]
    by_cases e2 : j < g
    · rw [if_pos (by omega), if_pos e2]
    · rw [if_neg (by omega), if_neg e2]
theorem tenT_zero {p m s : Nat} {T U : Nat → Nat → Nat → Nat} : tenT p m s T U 0 0 0 = fun _ _ _ => 0 := funext fun i => funext fun j => funext fun k => by unfold tenT; rw [if_neg (by omega)]
theorem tenT_k {p m s a b c i j k : Nat} {T U : Nat → Nat → Nat → Nat} (ha : a < s) (hb : b < s) (hc : c < s) : tenT p m s T U a b (c + 1) i j k = if i = a ∧ j = b ∧ k = c then T (a / m) (b / m) (c / m) * U (a % m) (b % m) (c % m) % p else tenT p m s T U a b c i j k := by
  unfold tenT
  by_cases e : i = a ∧ j = b ∧ k = c
  · obtain ⟨rfl, rfl, rfl⟩ := e
    rw [if_pos (by omega), if_pos ⟨rfl, rfl, rfl⟩]
  · rw [if_neg e]
    by_cases e2 : i < s ∧ j < s ∧ k < s ∧ (i < a ∨ i = a ∧ (j < b ∨ j = b ∧ k < c))
    · rw [if_pos (by omega), if_pos e2]
    · rw [if_neg (by omega), if_neg e2]
theorem tenT_j {p m s a b : Nat} {T U : Nat → Nat → Nat → Nat} : tenT p m s T U a b s = tenT p m s T U a (b + 1) 0 := funext fun i => funext fun j => funext fun k => by
  unfold tenT
  by_cases e2 : i < s ∧ j < s ∧ k < s ∧ (i < a ∨ i = a ∧ (j < b ∨ j = b ∧ k < s))
  · rw [if_pos e2, if_pos (by omega)]
  · rw [if_neg e2, if_neg (by omega)]
theorem tenT_i {p m s a : Nat} {T U : Nat → Nat → Nat → Nat} : tenT p m s T U a s 0 = tenT p m s T U (a + 1) 0 0 := funext fun i => funext fun j => funext fun k => by
  unfold tenT
  by_cases e2 : i < s ∧ j < s ∧ k < s ∧ (i < a ∨ i = a ∧ (j < s ∨ j = s ∧ k < 0))
  · rw [if_pos e2, if_pos (by omega)]
  · rw [if_neg e2, if_neg (by omega)]

theorem l01Tensor_ok (p n m : Nat) (T U : Nat → Nat → Nat → Nat) (f h : Nat → Nat) (w : World) (hp : 0 < p) (hp2 : p < 100) (hn0 : 0 < n) (hm0 : 0 < m) (hn6 : n ≤ 6) (hm6 : m ≤ 6) (hnm : (n) * (m) ≤ 6) (hT : ∀ i j k, T i j k ≤ 255) (hf : ∀ i, f i ≤ 255) (hU : ∀ i j k, U i j k ≤ 255) (hh : ∀ i, h i ≤ 255) :
    CallsR Try.prog 65 #[.agg (algC (p : Int) (n : Int) T f), .agg (algC (p : Int) (m : Int) U h)] w (fun res _ => res = .agg (algC (p : Int) ((((n) * (m)) : Nat) : Int) (tenT p m ((n) * (m)) T U ((n) * (m)) 0 0) (tenV p m ((n) * (m)) f h))) := by
  refine calls_fr [.agg (algC (p : Int) (n : Int) T f), .agg (algC (p : Int) (m : Int) U h)] Try.func65 rfl Try.ntmps65 rfl fun a hF => ?_
  have hM : Mem w w [none, none, none, none] [] := MemX.start w 4
  change Fr 107 a [(0, .agg (algC (p : Int) (n : Int) T f)), (1, .agg (algC (p : Int) (m : Int) U h))] at hF
  refine sq ?_
  refine wp_region_lit ?_
  refine stR hF (d_box 0 hM hF rfl) rfl ?_
  rintro _ w' a ⟨b1, rfl, hM, -⟩ hF
  change Mem w w' [some (b1, algC (p : Int) (n : Int) T f), none, none, none] [] at hM
  refine stR hF (d_box 1 hM hF rfl) rfl ?_
  rintro _ w' a ⟨b2, rfl, hM, -⟩ hF
  change Mem w w' [some (b1, algC (p : Int) (n : Int) T f), some (b2, algC (p : Int) (m : Int) U h), none, none] [] at hM
  refine stR hF (d_alloc 2 hM ty_ze_32) rfl ?_
  rintro _ w' a ⟨b3, rfl, hM, -⟩ hF
  change Mem w w' [some (b1, algC (p : Int) (n : Int) T f), some (b2, algC (p : Int) (m : Int) U h), some (b3, algC 0 0 (fun _ _ _ => 0) (fun _ => 0)), none] [] at hM
  refine wpList_nil ?_
  refine tN ?_
  refine sq ?_
  refine c_par 5 [] [.val (ptr b1 (0 + 1)), .val (.int .i64 (((n : Nat) : Int))), .val (ptr b2 (0 + 1)), .val (.int .i64 (((m : Nat) : Int))), .val (.int .i64 (((n : Nat) : Int)))] hmix rfl hF rfl hM ⟨fun a w g hF hS hd => by exact par_val hS rfl (g_fieldAddr ty_fo_32_1 hF rfl), fun a w g hF hS hd => by have hF := hF.ext1 11 (hd 0 rfl rfl); have hM := hS.mem rfl; exact par_val hS rfl (g_load ty_on_2 hF rfl (hM.row 0 rfl) (algC_n (by omega))), fun a w g hF hS hd => by exact par_val hS rfl (g_fieldAddr ty_fo_32_1 hF rfl), fun a w g hF hS hd => by have hF := hF.ext1 13 (hd 2 rfl rfl); have hM := hS.mem rfl; exact par_val hS rfl (g_load ty_on_2 hF rfl (hM.row 1 rfl) (algC_n (by omega))), fun a w g hF hS hd => by have hF := hF.ext1 12 (hd 1 rfl rfl); exact par_val hS rfl (g_assign hF rfl), trivial⟩ ?_
  intro a w' L hF hS hq
  have hF := hF.ext1 11 (hq 0 rfl rfl)
  have hF := hF.ext1 12 (hq 1 rfl rfl)
  have hF := hF.ext1 13 (hq 2 rfl rfl)
  have hF := hF.ext1 14 (hq 3 rfl rfl)
  have hF := hF.ext1 5 (hq 4 rfl rfl)
  have hM := hS.mem rfl
  change wpList Try.prog _ _ [_] _ _
  refine st hF (g_assign hF rfl) rfl fun a hF => ?_
  refine wpList_nil ?_
  refine tN ?_
  refine sq ?_
  refine wp_region_lit ?_
  refine st hF (g_fieldAddr ty_fo_32_0 hF rfl) rfl fun a hF => st hF (g_load ty_on_2 hF rfl (hM.row 0 rfl) (algC_p (by omega))) rfl fun a hF => st hF (g_move hF rfl) rfl fun a hF => st hF (g_move hF rfl) rfl fun a hF => st hF (g_mul hF rfl rfl (mul_nat (n) (m) (by omega))) rfl fun a hF => st hF (g_buildP hF (build2 hF rfl rfl) (fun w => ty_bp_32_2 _ _ w)) rfl fun a hF => ?_
  refine stR hF (d_alloc 3 hM ty_ze_32) rfl ?_
  rintro _ w' a ⟨b4, rfl, hM, -⟩ hF
  change Mem w w' [some (b1, algC (p : Int) (n : Int) T f), some (b2, algC (p : Int) (m : Int) U h), some (b3, algC 0 0 (fun _ _ _ => 0) (fun _ => 0)), some (b4, algC 0 0 (fun _ _ _ => 0) (fun _ => 0))] [] at hM
  refine stN hF (d_storeAgg 3 hM rfl ty_sz_32 hF rfl rfl (by first | exact vecC_one | exact cells_one | (refine fnC_one fun _ _ => ?_; first | rfl | (split <;> rfl))) (by simp only [fnC_size, cells_size, vecC_size, tabC_size, planeC_size]) (by simp only [fnC_size, cells_size, vecC_size, tabC_size, planeC_size] <;> omega) (splice_whole _ _ (by simp only [fnC_size, cells_size, vecC_size, tabC_size, planeC_size]))) ?_
  intro _ w' a hM hF
  change Mem w w' [some (b1, algC (p : Int) (n : Int) T f), some (b2, algC (p : Int) (m : Int) U h), some (b3, algC 0 0 (fun _ _ _ => 0) (fun _ => 0)), some (b4, algC (((p : Nat) : Int)) ((((n) * (m) : Nat) : Int)) (fun _ _ _ => 0) (fun _ => 0))] [] at hM
  refine wpList_nil ?_
  refine tN ?_
  refine sq ?_
  refine sq ?_
  refine wp_region_lit ?_
  refine st hF (g_assign hF rfl) rfl fun a hF => ?_
  refine wpList_nil ?_
  refine tN ?_
  refine wp_block ?_
  change Mem w _ [some (b1, algC (p : Int) (n : Int) T f), some (b2, algC (p : Int) (m : Int) U h), some (b3, algC 0 0 (fun _ _ _ => 0) (fun _ => 0)), some (b4, algC (((p : Nat) : Int)) ((((n) * (m) : Nat) : Int)) (fun _ _ _ => 0) (fun _ => 0))] [] at hM
  refine c_loop (fun (kk : Nat) a w' => kk ≤ ((n) * (m)) ∧ (True) ∧ Fr 107 a [(5, .int .i64 (((n : Nat) : Int))), (14, .int .i64 (((m : Nat) : Int))), (13, ptr b2 (0 + 1)), (12, .int .i64 (((n : Nat) : Int))), (11, ptr b1 (0 + 1)), (0, .agg (algC (p : Int) (n : Int) T f)), (1, .agg (algC (p : Int) (m : Int) U h)), (2, ptr b1 (0)), (3, ptr b2 (0)), (4, ptr b3 (0)), (6, .int .i64 (((m : Nat) : Int))), (15, ptr b1 (0 + 0)), (16, .int .i64 (((p : Nat) : Int))), (17, .int .i64 (((n : Nat) : Int))), (18, .int .i64 (((m : Nat) : Int))), (19, .int .i64 ((((n) * (m) : Nat) : Int))), (20, .agg (algC (((p : Nat) : Int)) ((((n) * (m) : Nat) : Int)) (fun _ _ _ => 0) (fun _ => 0))), (7, ptr b4 (0)), (8, .int .i64 (((kk : Nat) : Int)))] ∧ Mem w w' [some (b1, algC (p : Int) (n : Int) T f), some (b2, algC (p : Int) (m : Int) U h), some (b3, algC 0 0 (fun _ _ _ => 0) (fun _ => 0)), some (b4, algC (p : Int) ((((n) * (m)) : Nat) : Int) (tenT p m ((n) * (m)) T U (kk) (0) (0)) (tenV p m (kk) f h))] []) (fun kk => ((n) * (m)) - kk) 0 ?_ ?_
  ·
    refine ⟨by omega, trivial, hF.sub _ (by repeat' constructor), ?_⟩
    exact hM.cast (by rw [tenT_zero, tenV_zero])
  ·
    clear hF hM
    rintro gi a w' ⟨hgi, hinv1, hF, hM⟩
    have hqi1 := Nat.div_le_self gi m
    have hqi2 := Nat.mod_lt gi hm0
    have hvu := vv_bd (hf (gi / m)) (hh (gi % m))
    have hfi := hf (gi / m)
    have hhi := hh (gi % m)
    refine sq ?_
    refine sq ?_
    refine wp_region_lit ?_
    refine st hF (g_move hF rfl) rfl fun a hF => st hF (g_move hF rfl) rfl fun a hF => st hF (g_move hF rfl) rfl fun a hF => st hF (g_mul hF rfl rfl (mul_nat (n) (m) (by omega))) rfl fun a hF => st hF (g_lss hF rfl rfl) rfl fun a hF => ?_
    refine wpList_nil ?_
    refine tN ?_
    refine c_cond hF rfl (fun h5 => ?_) (fun h5 => ?_)
    ·
      refine wp_skip ?_
      refine tN ?_
      refine sq ?_
      refine wp_block ?_
      refine sq ?_
      refine c_par 21 [] [.val (.int .i64 (((gi : Nat) : Int))), .val (.int .i64 (((gi : Nat) : Int))), .val (.int .i64 (((m : Nat) : Int))), .val (.int .i64 ((((gi) / (m) : Nat) : Int))), .val (ptr b1 (0 + 218)), .val (ptr b1 (0 + 218 + ((gi) / (m)) * 1)), .val (.int .u8 (((f ((gi) / (m)) : Nat) : Int))), .val (.int .i64 (((f ((gi) / (m)) : Nat) : Int))), .val (.int .i64 (((gi : Nat) : Int))), .val (.int .i64 (((m : Nat) : Int))), .val (.int .i64 ((((gi) % (m) : Nat) : Int))), .val (ptr b2 (0 + 218)), .val (ptr b2 (0 + 218 + ((gi) % (m)) * 1)), .val (.int .u8 (((h ((gi) % (m)) : Nat) : Int))), .val (.int .i64 (((h ((gi) % (m)) : Nat) : Int))), .val (.int .i64 ((((f ((gi) / (m))) * (h ((gi) % (m))) : Nat) : Int))), .val (ptr b1 (0 + 0)), .val (.int .i64 (((p : Nat) : Int))), .val (.int .i64 (((((f ((gi) / (m))) * (h ((gi) % (m)))) % (p) : Nat) : Int))), .val (.int .u8 (((((f ((gi) / (m))) * (h ((gi) % (m)))) % (p) : Nat) : Int))), .val (ptr b4 (0 + 218))] hmix rfl hF rfl hM ⟨fun a w g hF hS hd => by exact par_val hS rfl (g_move hF rfl), fun a w g hF hS hd => by exact par_val hS rfl (g_move hF rfl), fun a w g hF hS hd => by exact par_val hS rfl (g_move hF rfl), fun a w g hF hS hd => by have hF := hF.ext1 29 (hd 1 rfl rfl); have hF := hF.ext1 30 (hd 2 rfl rfl); exact par_val hS rfl (g_quo hF rfl rfl (by omega) (quo_nat (gi) (m) (by omega))), fun a w g hF hS hd => by exact par_val hS rfl (g_fieldAddr ty_fo_32_3 hF rfl), fun a w g hF hS hd => by have hF := hF.ext1 31 (hd 3 rfl rfl); have hF := hF.ext1 32 (hd 4 rfl rfl); exact par_val hS rfl (g_indexAddr ty_ar_30 hF rfl rfl rfl (by omega)), fun a w g hF hS hd => by have hF := hF.ext1 33 (hd 5 rfl rfl); have hM := hS.mem rfl; exact par_val hS rfl (g_load ty_on_5 hF rfl (hM.row 0 rfl) (algC_f ((gi) / (m)) (by omega) (by omega))), fun a w g hF hS hd => by have hF := hF.ext1 34 (hd 6 rfl rfl); exact par_val hS rfl (g_conv ty_un_2 ty_ud_5 hF rfl (wrap_i64 (by omega) (by omega))), fun a w g hF hS hd => by exact par_val hS rfl (g_move hF rfl), fun a w g hF hS hd => by exact par_val hS rfl (g_move hF rfl), fun a w g hF hS hd => by have hF := hF.ext1 36 (hd 8 rfl rfl); have hF := hF.ext1 37 (hd 9 rfl rfl); exact par_val hS rfl (g_rem hF rfl rfl (by omega) (rem_nat (gi) (m))), fun a w g hF hS hd => by exact par_val hS rfl (g_fieldAddr ty_fo_32_3 hF rfl), fun a w g hF hS hd => by have hF := hF.ext1 38 (hd 10 rfl rfl); have hF := hF.ext1 39 (hd 11 rfl rfl); exact par_val hS rfl (g_indexAddr ty_ar_30 hF rfl rfl rfl (by omega)), fun a w g hF hS hd => by have hF := hF.ext1 40 (hd 12 rfl rfl); have hM := hS.mem rfl; exact par_val hS rfl (g_load ty_on_5 hF rfl (hM.row 1 rfl) (algC_f ((gi) % (m)) (by omega) (by omega))), fun a w g hF hS hd => by have hF := hF.ext1 41 (hd 13 rfl rfl); exact par_val hS rfl (g_conv ty_un_2 ty_ud_5 hF rfl (wrap_i64 (by omega) (by omega))), fun a w g hF hS hd => by have hF := hF.ext1 35 (hd 7 rfl rfl); have hF := hF.ext1 42 (hd 14 rfl rfl); exact par_val hS rfl (g_mul hF rfl rfl (mul_nat (f ((gi) / (m))) (h ((gi) % (m))) (by omega))), fun a w g hF hS hd => by exact par_val hS rfl (g_fieldAddr ty_fo_32_0 hF rfl), fun a w g hF hS hd => by have hF := hF.ext1 44 (hd 16 rfl rfl); have hM := hS.mem rfl; exact par_val hS rfl (g_load ty_on_2 hF rfl (hM.row 0 rfl) (algC_p (by omega))), fun a w g hF hS hd => by have hF := hF.ext1 43 (hd 15 rfl rfl); have hF := hF.ext1 45 (hd 17 rfl rfl); exact par_val hS rfl (g_rem hF rfl rfl (by omega) (rem_nat ((f ((gi) / (m))) * (h ((gi) % (m)))) (p))), fun a w g hF hS hd => by have hF := hF.ext1 46 (hd 18 rfl rfl); exact par_val hS rfl (g_conv ty_un_5 ty_ud_2 hF rfl (conv_mod hp hp2)), fun a w g hF hS hd => by exact par_val hS rfl (g_fieldAddr ty_fo_32_3 hF rfl), trivial⟩ ?_
      intro a w' L hF hS hq
      have hF := hF.ext1 28 (hq 0 rfl rfl)
      have hF := hF.ext1 29 (hq 1 rfl rfl)
      have hF := hF.ext1 30 (hq 2 rfl rfl)
      have hF := hF.ext1 31 (hq 3 rfl rfl)
      have hF := hF.ext1 32 (hq 4 rfl rfl)
      have hF := hF.ext1 33 (hq 5 rfl rfl)
      have hF := hF.ext1 34 (hq 6 rfl rfl)
      have hF := hF.ext1 35 (hq 7 rfl rfl)
      have hF := hF.ext1 36 (hq 8 rfl rfl)
      have hF := hF.ext1 37 (hq 9 rfl rfl)
      have hF := hF.ext1 38 (hq 10 rfl rfl)
      have hF := hF.ext1 39 (hq 11 rfl rfl)
      have hF := hF.ext1 40 (hq 12 rfl rfl)
      have hF := hF.ext1 41 (hq 13 rfl rfl)
      have hF := hF.ext1 42 (hq 14 rfl rfl)
      have hF := hF.ext1 43 (hq 15 rfl rfl)
      have hF := hF.ext1 44 (hq 16 rfl rfl)
      have hF := hF.ext1 45 (hq 17 rfl rfl)
      have hF := hF.ext1 46 (hq 18 rfl rfl)
      have hF := hF.ext1 47 (hq 19 rfl rfl)
      have hF := hF.ext1 48 (hq 20 rfl rfl)
      have hM := hS.mem rfl
      change wpList Try.prog _ _ [_, _] _ _
      refine st hF (g_indexAddr ty_ar_30 hF rfl rfl rfl (by omega)) rfl fun a hF => ?_
      refine stN hF (d_store 3 hM rfl ty_on_5 hF rfl rfl rfl (by first | omega | (simp only [fnC_size, cells_size, vecC_size, tabC_size, planeC_size] <;> omega))) ?_
      intro _ w' a hM hF
      change Mem w w' [some (b1, algC (p : Int) (n : Int) T f), some (b2, algC (p : Int) (m : Int) U h), some (b3, algC 0 0 (fun _ _ _ => 0) (fun _ => 0)), some (b4, (algC (p : Int) ((((n) * (m)) : Nat) : Int) (tenT p m ((n) * (m)) T U (gi) (0) (0)) (tenV p m (gi) f h)).setIfInBounds (0 + 218 + (gi) * 1) (.int .u8 (((((f ((gi) / (m))) * (h ((gi) % (m)))) % (p) : Nat) : Int))))] [] at hM
      refine wpList_nil ?_
      refine tN ?_
      refine sq ?_
      refine wp_region_lit ?_
      refine st hF (g_assign hF rfl) rfl fun a hF => ?_
      refine wpList_nil ?_
      refine tN ?_
      refine wp_block ?_
      change Mem w _ [some (b1, algC (p : Int) (n : Int) T f), some (b2, algC (p : Int) (m : Int) U h), some (b3, algC 0 0 (fun _ _ _ => 0) (fun _ => 0)), some (b4, (algC (p : Int) ((((n) * (m)) : Nat) : Int) (tenT p m ((n) * (m)) T U (gi) (0) (0)) (tenV p m (gi) f h)).setIfInBounds (0 + 218 + (gi) * 1) (.int .u8 (((((f ((gi) / (m))) * (h ((gi) % (m)))) % (p) : Nat) : Int))))] [] at hM
      refine c_loop (fun (kk : Nat) a w' => kk ≤ ((n) * (m)) ∧ (True) ∧ Fr 107 a [(48, ptr b4 (0 + 218)), (47, .int .u8 (((((f ((gi) / (m))) * (h ((gi) % (m)))) % (p) : Nat) : Int))), (46, .int .i64 (((((f ((gi) / (m))) * (h ((gi) % (m)))) % (p) : Nat) : Int))), (45, .int .i64 (((p : Nat) : Int))), (44, ptr b1 (0 + 0)), (43, .int .i64 ((((f ((gi) / (m))) * (h ((gi) % (m))) : Nat) : Int))), (42, .int .i64 (((h ((gi) % (m)) : Nat) : Int))), (41, .int .u8 (((h ((gi) % (m)) : Nat) : Int))), (40, ptr b2 (0 + 218 + ((gi) % (m)) * 1)), (39, ptr b2 (0 + 218)), (38, .int .i64 ((((gi) % (m) : Nat) : Int))), (37, .int .i64 (((m : Nat) : Int))), (36, .int .i64 (((gi : Nat) : Int))), (35, .int .i64 (((f ((gi) / (m)) : Nat) : Int))), (34, .int .u8 (((f ((gi) / (m)) : Nat) : Int))), (33, ptr b1 (0 + 218 + ((gi) / (m)) * 1)), (32, ptr b1 (0 + 218)), (31, .int .i64 ((((gi) / (m) : Nat) : Int))), (30, .int .i64 (((m : Nat) : Int))), (29, .int .i64 (((gi : Nat) : Int))), (28, .int .i64 (((gi : Nat) : Int))), (5, .int .i64 (((n : Nat) : Int))), (14, .int .i64 (((m : Nat) : Int))), (13, ptr b2 (0 + 1)), (12, .int .i64 (((n : Nat) : Int))), (11, ptr b1 (0 + 1)), (0, .agg (algC (p : Int) (n : Int) T f)), (1, .agg (algC (p : Int) (m : Int) U h)), (2, ptr b1 (0)), (3, ptr b2 (0)), (4, ptr b3 (0)), (6, .int .i64 (((m : Nat) : Int))), (15, ptr b1 (0 + 0)), (16, .int .i64 (((p : Nat) : Int))), (17, .int .i64 (((n : Nat) : Int))), (18, .int .i64 (((m : Nat) : Int))), (19, .int .i64 ((((n) * (m) : Nat) : Int))), (20, .agg (algC (((p : Nat) : Int)) ((((n) * (m) : Nat) : Int)) (fun _ _ _ => 0) (fun _ => 0))), (7, ptr b4 (0)), (8, .int .i64 (((gi : Nat) : Int))), (21, .int .i64 (((gi : Nat) : Int))), (22, .int .i64 (((n : Nat) : Int))), (23, .int .i64 (((m : Nat) : Int))), (24, .int .i64 ((((n) * (m) : Nat) : Int))), (25, .bool (decide ((((gi : Nat) : Int) : Int) < (((n) * (m) : Nat) : Int)))), (49, ptr b4 (0 + 218 + (gi) * 1)), (9, .int .i64 (((kk : Nat) : Int)))] ∧ Mem w w' [some (b1, algC (p : Int) (n : Int) T f), some (b2, algC (p : Int) (m : Int) U h), some (b3, algC 0 0 (fun _ _ _ => 0) (fun _ => 0)), some (b4, algC (p : Int) ((((n) * (m)) : Nat) : Int) (tenT p m ((n) * (m)) T U (gi) (kk) (0)) (tenV p m (gi + 1) f h))] []) (fun kk => ((n) * (m)) - kk) 0 ?_ ?_
      ·
        refine ⟨by omega, trivial, hF.sub _ (by repeat' constructor), ?_⟩
        exact hM.rowc 3 rfl (algC_setf (i := gi) (by omega) (by omega) (fun j hj => tenV_succ))
      ·
        clear hF hM
        rintro gj a w' ⟨hgj, hinv2, hF, hM⟩
        have hqj1 := Nat.div_le_self gj m
        have hqj2 := Nat.mod_lt gj hm0
        refine sq ?_
        refine sq ?_
        refine wp_region_lit ?_
        refine st hF (g_move hF rfl) rfl fun a hF => st hF (g_move hF rfl) rfl fun a hF => st hF (g_move hF rfl) rfl fun a hF => st hF (g_mul hF rfl rfl (mul_nat (n) (m) (by omega))) rfl fun a hF => st hF (g_lss hF rfl rfl) rfl fun a hF => ?_
        refine wpList_nil ?_
        refine tN ?_
        refine c_cond hF rfl (fun h6 => ?_) (fun h6 => ?_)
        ·
          refine wp_skip ?_
          refine tN ?_
          refine sq ?_
          refine wp_block ?_
          refine sq ?_
          refine wp_region_lit ?_
          refine st hF (g_assign hF rfl) rfl fun a hF => ?_
          refine wpList_nil ?_
          refine tN ?_
          refine wp_block ?_
          change Mem w _ [some (b1, algC (p : Int) (n : Int) T f), some (b2, algC (p : Int) (m : Int) U h), some (b3, algC 0 0 (fun _ _ _ => 0) (fun _ => 0)), some (b4, algC (p : Int) ((((n) * (m)) : Nat) : Int) (tenT p m ((n) * (m)) T U (gi) (gj) (0)) (tenV p m (gi + 1) f h))] [] at hM
          refine c_loop (fun (kk : Nat) a w' => kk ≤ ((n) * (m)) ∧ (True) ∧ Fr 107 a [(48, ptr b4 (0 + 218)), (47, .int .u8 (((((f ((gi) / (m))) * (h ((gi) % (m)))) % (p) : Nat) : Int))), (46, .int .i64 (((((f ((gi) / (m))) * (h ((gi) % (m)))) % (p) : Nat) : Int))), (45, .int .i64 (((p : Nat) : Int))), (44, ptr b1 (0 + 0)), (43, .int .i64 ((((f ((gi) / (m))) * (h ((gi) % (m))) : Nat) : Int))), (42, .int .i64 (((h ((gi) % (m)) : Nat) : Int))), (41, .int .u8 (((h ((gi) % (m)) : Nat) : Int))), (40, ptr b2 (0 + 218 + ((gi) % (m)) * 1)), (39, ptr b2 (0 + 218)), (38, .int .i64 ((((gi) % (m) : Nat) : Int))), (37, .int .i64 (((m : Nat) : Int))), (36, .int .i64 (((gi : Nat) : Int))), (35, .int .i64 (((f ((gi) / (m)) : Nat) : Int))), (34, .int .u8 (((f ((gi) / (m)) : Nat) : Int))), (33, ptr b1 (0 + 218 + ((gi) / (m)) * 1)), (32, ptr b1 (0 + 218)), (31, .int .i64 ((((gi) / (m) : Nat) : Int))), (30, .int .i64 (((m : Nat) : Int))), (29, .int .i64 (((gi : Nat) : Int))), (28, .int .i64 (((gi : Nat) : Int))), (5, .int .i64 (((n : Nat) : Int))), (14, .int .i64 (((m : Nat) : Int))), (13, ptr b2 (0 + 1)), (12, .int .i64 (((n : Nat) : Int))), (11, ptr b1 (0 + 1)), (0, .agg (algC (p : Int) (n : Int) T f)), (1, .agg (algC (p : Int) (m : Int) U h)), (2, ptr b1 (0)), (3, ptr b2 (0)), (4, ptr b3 (0)), (6, .int .i64 (((m : Nat) : Int))), (15, ptr b1 (0 + 0)), (16, .int .i64 (((p : Nat) : Int))), (17, .int .i64 (((n : Nat) : Int))), (18, .int .i64 (((m : Nat) : Int))), (19, .int .i64 ((((n) * (m) : Nat) : Int))), (20, .agg (algC (((p : Nat) : Int)) ((((n) * (m) : Nat) : Int)) (fun _ _ _ => 0) (fun _ => 0))), (7, ptr b4 (0)), (8, .int .i64 (((gi : Nat) : Int))), (21, .int .i64 (((gi : Nat) : Int))), (22, .int .i64 (((n : Nat) : Int))), (23, .int .i64 (((m : Nat) : Int))), (24, .int .i64 ((((n) * (m) : Nat) : Int))), (25, .bool (decide ((((gi : Nat) : Int) : Int) < (((n) * (m) : Nat) : Int)))), (49, ptr b4 (0 + 218 + (gi) * 1)), (9, .int .i64 (((gj : Nat) : Int))), (50, .int .i64 (((gj : Nat) : Int))), (51, .int .i64 (((n : Nat) : Int))), (52, .int .i64 (((m : Nat) : Int))), (53, .int .i64 ((((n) * (m) : Nat) : Int))), (54, .bool (decide ((((gj : Nat) : Int) : Int) < (((n) * (m) : Nat) : Int)))), (10, .int .i64 (((kk : Nat) : Int)))] ∧ Mem w w' [some (b1, algC (p : Int) (n : Int) T f), some (b2, algC (p : Int) (m : Int) U h), some (b3, algC 0 0 (fun _ _ _ => 0) (fun _ => 0)), some (b4, algC (p : Int) ((((n) * (m)) : Nat) : Int) (tenT p m ((n) * (m)) T U (gi) (gj) (kk)) (tenV p m (gi + 1) f h))] []) (fun kk => ((n) * (m)) - kk) 0 ?_ ?_
          ·
            refine ⟨by omega, trivial, hF.sub _ (by repeat' constructor), ?_⟩
            exact hM
          ·
            clear hF hM
            rintro gk a w' ⟨hgk, hinv3, hF, hM⟩
            have hqk1 := Nat.div_le_self gk m
            have hqk2 := Nat.mod_lt gk hm0
            have hvu2 := vv_bd (hT (gi / m) (gj / m) (gk / m)) (hU (gi % m) (gj % m) (gk % m))
            have htt := hT (gi / m) (gj / m) (gk / m)
            have huu := hU (gi % m) (gj % m) (gk % m)
            refine sq ?_
            refine sq ?_
            refine wp_region_lit ?_
            refine st hF (g_move hF rfl) rfl fun a hF => st hF (g_move hF rfl) rfl fun a hF => st hF (g_move hF rfl) rfl fun a hF => st hF (g_mul hF rfl rfl (mul_nat (n) (m) (by omega))) rfl fun a hF => st hF (g_lss hF rfl rfl) rfl fun a hF => ?_
            refine wpList_nil ?_
            refine tN ?_
            refine c_cond hF rfl (fun h7 => ?_) (fun h7 => ?_)
            ·
              refine wp_skip ?_
              refine tN ?_
              refine sq ?_
              refine wp_block ?_
              refine c_par 41 [] [.val (.int .i64 (((gi : Nat) : Int))), .val (.int .i64 (((gj : Nat) : Int))), .val (.int .i64 (((gk : Nat) : Int))), .val (.int .i64 (((gi : Nat) : Int))), .val (.int .i64 (((m : Nat) : Int))), .val (.int .i64 ((((gi) / (m) : Nat) : Int))), .val (.int .i64 (((gj : Nat) : Int))), .val (.int .i64 (((m : Nat) : Int))), .val (.int .i64 ((((gj) / (m) : Nat) : Int))), .val (.int .i64 (((gk : Nat) : Int))), .val (.int .i64 (((m : Nat) : Int))), .val (.int .i64 ((((gk) / (m) : Nat) : Int))), .val (ptr b1 (0 + 2)), .val (ptr b1 (0 + 2 + ((gi) / (m)) * 36)), .val (ptr b1 (0 + 2 + ((gi) / (m)) * 36 + ((gj) / (m)) * 6)), .val (ptr b1 (0 + 2 + ((gi) / (m)) * 36 + ((gj) / (m)) * 6 + ((gk) / (m)) * 1)), .val (.int .u8 (((T ((gi) / (m)) ((gj) / (m)) ((gk) / (m)) : Nat) : Int))), .val (.int .i64 (((T ((gi) / (m)) ((gj) / (m)) ((gk) / (m)) : Nat) : Int))), .val (.int .i64 (((gi : Nat) : Int))), .val (.int .i64 (((m : Nat) : Int))), .val (.int .i64 ((((gi) % (m) : Nat) : Int))), .val (.int .i64 (((gj : Nat) : Int))), .val (.int .i64 (((m : Nat) : Int))), .val (.int .i64 ((((gj) % (m) : Nat) : Int))), .val (.int .i64 (((gk : Nat) : Int))), .val (.int .i64 (((m : Nat) : Int))), .val (.int .i64 ((((gk) % (m) : Nat) : Int))), .val (ptr b2 (0 + 2)), .val (ptr b2 (0 + 2 + ((gi) % (m)) * 36)), .val (ptr b2 (0 + 2 + ((gi) % (m)) * 36 + ((gj) % (m)) * 6)), .val (ptr b2 (0 + 2 + ((gi) % (m)) * 36 + ((gj) % (m)) * 6 + ((gk) % (m)) * 1)), .val (.int .u8 (((U ((gi) % (m)) ((gj) % (m)) ((gk) % (m)) : Nat) : Int))), .val (.int .i64 (((U ((gi) % (m)) ((gj) % (m)) ((gk) % (m)) : Nat) : Int))), .val (.int .i64 ((((T ((gi) / (m)) ((gj) / (m)) ((gk) / (m))) * (U ((gi) % (m)) ((gj) % (m)) ((gk) % (m))) : Nat) : Int))), .val (ptr b1 (0 + 0)), .val (.int .i64 (((p : Nat) : Int))), .val (.int .i64 (((((T ((gi) / (m)) ((gj) / (m)) ((gk) / (m))) * (U ((gi) % (m)) ((gj) % (m)) ((gk) % (m)))) % (p) : Nat) : Int))), .val (.int .u8 (((((T ((gi) / (m)) ((gj) / (m)) ((gk) / (m))) * (U ((gi) % (m)) ((gj) % (m)) ((gk) % (m)))) % (p) : Nat) : Int))), .val (ptr b4 (0 + 2)), .val (ptr b4 (0 + 2 + (gi) * 36)), .val (ptr b4 (0 + 2 + (gi) * 36 + (gj) * 6))] hmix rfl hF rfl hM ⟨fun a w g hF hS hd => by exact par_val hS rfl (g_move hF rfl), fun a w g hF hS hd => by exact par_val hS rfl (g_move hF rfl), fun a w g hF hS hd => by exact par_val hS rfl (g_move hF rfl), fun a w g hF hS hd => by exact par_val hS rfl (g_move hF rfl), fun a w g hF hS hd => by exact par_val hS rfl (g_move hF rfl), fun a w g hF hS hd => by have hF := hF.ext1 67 (hd 3 rfl rfl); have hF := hF.ext1 68 (hd 4 rfl rfl); exact par_val hS rfl (g_quo hF rfl rfl (by omega) (quo_nat (gi) (m) (by omega))), fun a w g hF hS hd => by exact par_val hS rfl (g_move hF rfl), fun a w g hF hS hd => by exact par_val hS rfl (g_move hF rfl), fun a w g hF hS hd => by have hF := hF.ext1 70 (hd 6 rfl rfl); have hF := hF.ext1 71 (hd 7 rfl rfl); exact par_val hS rfl (g_quo hF rfl rfl (by omega) (quo_nat (gj) (m) (by omega))), fun a w g hF hS hd => by exact par_val hS rfl (g_move hF rfl), fun a w g hF hS hd => by exact par_val hS rfl (g_move hF rfl), fun a w g hF hS hd => by have hF := hF.ext1 73 (hd 9 rfl rfl); have hF := hF.ext1 74 (hd 10 rfl rfl); exact par_val hS rfl (g_quo hF rfl rfl (by omega) (quo_nat (gk) (m) (by omega))), fun a w g hF hS hd => by exact par_val hS rfl (g_fieldAddr ty_fo_32_2 hF rfl), fun a w g hF hS hd => by have hF := hF.ext1 69 (hd 5 rfl rfl); have hF := hF.ext1 76 (hd 12 rfl rfl); exact par_val hS rfl (g_indexAddr ty_ar_24 hF rfl rfl rfl (by omega)), fun a w g hF hS hd => by have hF := hF.ext1 72 (hd 8 rfl rfl); have hF := hF.ext1 77 (hd 13 rfl rfl); exact par_val hS rfl (g_indexAddr ty_ar_23 hF rfl rfl rfl (by omega)), fun a w g hF hS hd => by have hF := hF.ext1 75 (hd 11 rfl rfl); have hF := hF.ext1 78 (hd 14 rfl rfl); exact par_val hS rfl (g_indexAddr ty_ar_22 hF rfl rfl rfl (by omega)), fun a w g hF hS hd => by have hF := hF.ext1 79 (hd 15 rfl rfl); have hM := hS.mem rfl; exact par_val hS rfl (g_load ty_on_5 hF rfl (hM.row 0 rfl) (algC_T ((gi) / (m)) ((gj) / (m)) ((gk) / (m)) (by omega) (by omega) (by omega) (by omega))), fun a w g hF hS hd => by have hF := hF.ext1 80 (hd 16 rfl rfl); exact par_val hS rfl (g_conv ty_un_2 ty_ud_5 hF rfl (wrap_i64 (by omega) (by omega))), fun a w g hF hS hd => by exact par_val hS rfl (g_move hF rfl), fun a w g hF hS hd => by exact par_val hS rfl (g_move hF rfl), fun a w g hF hS hd => by have hF := hF.ext1 82 (hd 18 rfl rfl); have hF := hF.ext1 83 (hd 19 rfl rfl); exact par_val hS rfl (g_rem hF rfl rfl (by omega) (rem_nat (gi) (m))), fun a w g hF hS hd => by exact par_val hS rfl (g_move hF rfl), fun a w g hF hS hd => by exact par_val hS rfl (g_move hF rfl), fun a w g hF hS hd => by have hF := hF.ext1 85 (hd 21 rfl rfl); have hF := hF.ext1 86 (hd 22 rfl rfl); exact par_val hS rfl (g_rem hF rfl rfl (by omega) (rem_nat (gj) (m))), fun a w g hF hS hd => by exact par_val hS rfl (g_move hF rfl), fun a w g hF hS hd => by exact par_val hS rfl (g_move hF rfl), fun a w g hF hS hd => by have hF := hF.ext1 88 (hd 24 rfl rfl); have hF := hF.ext1 89 (hd 25 rfl rfl); exact par_val hS rfl (g_rem hF rfl rfl (by omega) (rem_nat (gk) (m))), fun a w g hF hS hd => by exact par_val hS rfl (g_fieldAddr ty_fo_32_2 hF rfl), fun a w g hF hS hd => by have hF := hF.ext1 84 (hd 20 rfl rfl); have hF := hF.ext1 91 (hd 27 rfl rfl); exact par_val hS rfl (g_indexAddr ty_ar_24 hF rfl rfl rfl (by omega)), fun a w g hF hS hd => by have hF := hF.ext1 87 (hd 23 rfl rfl); have hF := hF.ext1 92 (hd 28 rfl rfl); exact par_val hS rfl (g_indexAddr ty_ar_23 hF rfl rfl rfl (by omega)), fun a w g hF hS hd => by have hF := hF.ext1 90 (hd 26 rfl rfl); have hF := hF.ext1 93 (hd 29 rfl rfl); exact par_val hS rfl (g_indexAddr ty_ar_22 hF rfl rfl rfl (by omega)), fun a w g hF hS hd => by have hF := hF.ext1 94 (hd 30 rfl rfl); have hM := hS.mem rfl; exact par_val hS rfl (g_load ty_on_5 hF rfl (hM.row 1 rfl) (algC_T ((gi) % (m)) ((gj) % (m)) ((gk) % (m)) (by omega) (by omega) (by omega) (by omega))), fun a w g hF hS hd => by have hF := hF.ext1 95 (hd 31 rfl rfl); exact par_val hS rfl (g_conv ty_un_2 ty_ud_5 hF rfl (wrap_i64 (by omega) (by omega))), fun a w g hF hS hd => by have hF := hF.ext1 81 (hd 17 rfl rfl); have hF := hF.ext1 96 (hd 32 rfl rfl); exact par_val hS rfl (g_mul hF rfl rfl (mul_nat (T ((gi) / (m)) ((gj) / (m)) ((gk) / (m))) (U ((gi) % (m)) ((gj) % (m)) ((gk) % (m))) (by omega))), fun a w g hF hS hd => by exact par_val hS rfl (g_fieldAddr ty_fo_32_0 hF rfl), fun a w g hF hS hd => by have hF := hF.ext1 98 (hd 34 rfl rfl); have hM := hS.mem rfl; exact par_val hS rfl (g_load ty_on_2 hF rfl (hM.row 0 rfl) (algC_p (by omega))), fun a w g hF hS hd => by have hF := hF.ext1 97 (hd 33 rfl rfl); have hF := hF.ext1 99 (hd 35 rfl rfl); exact par_val hS rfl (g_rem hF rfl rfl (by omega) (rem_nat ((T ((gi) / (m)) ((gj) / (m)) ((gk) / (m))) * (U ((gi) % (m)) ((gj) % (m)) ((gk) % (m)))) (p))), fun a w g hF hS hd => by have hF := hF.ext1 100 (hd 36 rfl rfl); exact par_val hS rfl (g_conv ty_un_5 ty_ud_2 hF rfl (conv_mod hp hp2)), fun a w g hF hS hd => by exact par_val hS rfl (g_fieldAddr ty_fo_32_2 hF rfl), fun a w g hF hS hd => by have hF := hF.ext1 64 (hd 0 rfl rfl); have hF := hF.ext1 102 (hd 38 rfl rfl); exact par_val hS rfl (g_indexAddr ty_ar_24 hF rfl rfl rfl (by omega)), fun a w g hF hS hd => by have hF := hF.ext1 65 (hd 1 rfl rfl); have hF := hF.ext1 103 (hd 39 rfl rfl); exact par_val hS rfl (g_indexAddr ty_ar_23 hF rfl rfl rfl (by omega)), trivial⟩ ?_
              intro a w' L hF hS hq
              have hF := hF.ext1 64 (hq 0 rfl rfl)
              have hF := hF.ext1 65 (hq 1 rfl rfl)
              have hF := hF.ext1 66 (hq 2 rfl rfl)
              have hF := hF.ext1 67 (hq 3 rfl rfl)
              have hF := hF.ext1 68 (hq 4 rfl rfl)
              have hF := hF.ext1 69 (hq 5 rfl rfl)
              have hF := hF.ext1 70 (hq 6 rfl rfl)
              have hF := hF.ext1 71 (hq 7 rfl rfl)
              have hF := hF.ext1 72 (hq 8 rfl rfl)
              have hF := hF.ext1 73 (hq 9 rfl rfl)
              have hF := hF.ext1 74 (hq 10 rfl rfl)
              have hF := hF.ext1 75 (hq 11 rfl rfl)
              have hF := hF.ext1 76 (hq 12 rfl rfl)
              have hF := hF.ext1 77 (hq 13 rfl rfl)
              have hF := hF.ext1 78 (hq 14 rfl rfl)
              have hF := hF.ext1 79 (hq 15 rfl rfl)
              have hF := hF.ext1 80 (hq 16 rfl rfl)
              have hF := hF.ext1 81 (hq 17 rfl rfl)
              have hF := hF.ext1 82 (hq 18 rfl rfl)
              have hF := hF.ext1 83 (hq 19 rfl rfl)
              have hF := hF.ext1 84 (hq 20 rfl rfl)
              have hF := hF.ext1 85 (hq 21 rfl rfl)
              have hF := hF.ext1 86 (hq 22 rfl rfl)
              have hF := hF.ext1 87 (hq 23 rfl rfl)
              have hF := hF.ext1 88 (hq 24 rfl rfl)
              have hF := hF.ext1 89 (hq 25 rfl rfl)
              have hF := hF.ext1 90 (hq 26 rfl rfl)
              have hF := hF.ext1 91 (hq 27 rfl rfl)
              have hF := hF.ext1 92 (hq 28 rfl rfl)
              have hF := hF.ext1 93 (hq 29 rfl rfl)
              have hF := hF.ext1 94 (hq 30 rfl rfl)
              have hF := hF.ext1 95 (hq 31 rfl rfl)
              have hF := hF.ext1 96 (hq 32 rfl rfl)
              have hF := hF.ext1 97 (hq 33 rfl rfl)
              have hF := hF.ext1 98 (hq 34 rfl rfl)
              have hF := hF.ext1 99 (hq 35 rfl rfl)
              have hF := hF.ext1 100 (hq 36 rfl rfl)
              have hF := hF.ext1 101 (hq 37 rfl rfl)
              have hF := hF.ext1 102 (hq 38 rfl rfl)
              have hF := hF.ext1 103 (hq 39 rfl rfl)
              have hF := hF.ext1 104 (hq 40 rfl rfl)
              have hM := hS.mem rfl
              change wpList Try.prog _ _ [_, _] _ _
              refine st hF (g_indexAddr ty_ar_22 hF rfl rfl rfl (by omega)) rfl fun a hF => ?_
              refine stN hF (d_store 3 hM rfl ty_on_5 hF rfl rfl rfl (by first | omega | (simp only [fnC_size, cells_size, vecC_size, tabC_size, planeC_size] <;> omega))) ?_
              intro _ w' a hM hF
              change Mem w w' [some (b1, algC (p : Int) (n : Int) T f), some (b2, algC (p : Int) (m : Int) U h), some (b3, algC 0 0 (fun _ _ _ => 0) (fun _ => 0)), some (b4, (algC (p : Int) ((((n) * (m)) : Nat) : Int) (tenT p m ((n) * (m)) T U (gi) (gj) (gk)) (tenV p m (gi + 1) f h)).setIfInBounds (0 + 2 + (gi) * 36 + (gj) * 6 + (gk) * 1) (.int .u8 (((((T ((gi) / (m)) ((gj) / (m)) ((gk) / (m))) * (U ((gi) % (m)) ((gj) % (m)) ((gk) % (m)))) % (p) : Nat) : Int))))] [] at hM
              refine wpList_nil ?_
              refine iN ?_
              refine tN ?_
              refine wp_region_lit ?_
              refine st hF (g_move hF rfl) rfl fun a hF => st hF (g_add hF rfl rfl (add_nat (gk) (1) (by omega))) rfl fun a hF => st hF (g_assign hF rfl) rfl fun a hF => ?_
              refine wpList_nil ?_
              refine tN ?_
              refine ⟨gk + 1, ⟨by omega, trivial, hF.sub _ (by repeat' constructor), ?_⟩, by omega⟩
              exact hM.rowc 3 rfl (algC_setT gi gj gk (by omega) (by omega) (by omega) (by omega) (fun a _ b _ c _ => tenT_k (by omega) (by omega) (by omega)))
            ·
              obtain rfl : ((n) * (m)) = gk := by omega
              refine wp_exit ?_
              refine tX ?_
              refine tX ?_
              refine ib_same ?_
              refine iN ?_
              refine tN ?_
              refine wp_region_lit ?_
              refine st hF (g_move hF rfl) rfl fun a hF => st hF (g_add hF rfl rfl (add_nat (gj) (1) (by omega))) rfl fun a hF => st hF (g_assign hF rfl) rfl fun a hF => ?_
              refine wpList_nil ?_
              refine tN ?_
              refine ⟨gj + 1, ⟨by omega, trivial, hF.sub _ (by repeat' constructor), ?_⟩, by omega⟩
              exact hM.cast (by rw [tenT_j])
        ·
          obtain rfl : ((n) * (m)) = gj := by omega
          refine wp_exit ?_
          refine tX ?_
          refine tX ?_
          refine ib_same ?_
          refine iN ?_
          refine tN ?_
          refine wp_region_lit ?_
          refine st hF (g_move hF rfl) rfl fun a hF => st hF (g_add hF rfl rfl (add_nat (gi) (1) (by omega))) rfl fun a hF => st hF (g_assign hF rfl) rfl fun a hF => ?_
          refine wpList_nil ?_
          refine tN ?_
          refine ⟨gi + 1, ⟨by omega, trivial, hF.sub _ (by repeat' constructor), ?_⟩, by omega⟩
          exact hM.cast (by rw [tenT_i])
    ·
      obtain rfl : ((n) * (m)) = gi := by omega
      refine wp_exit ?_
      refine tX ?_
      refine tX ?_
      refine ib_same ?_
      refine tN ?_
      refine sq ?_
      refine wp_region_lit ?_
      refine st hF (g_loadAgg ty_ag_32 hF rfl (hM.row 3 rfl) (by simp only [fnC_size, cells_size, vecC_size, tabC_size, planeC_size] <;> omega) (whole cells_size)) rfl fun a hF => ?_
      refine stN hF (d_storeAgg 2 hM rfl ty_sz_32 hF rfl rfl (by first | exact vecC_one | exact cells_one | (refine fnC_one fun _ _ => ?_; first | rfl | (split <;> rfl))) (by simp only [fnC_size, cells_size, vecC_size, tabC_size, planeC_size]) (by simp only [fnC_size, cells_size, vecC_size, tabC_size, planeC_size] <;> omega) (splice_whole _ _ (by simp only [fnC_size, cells_size, vecC_size, tabC_size, planeC_size]))) ?_
      intro _ w' a hM hF
      change Mem w w' [some (b1, algC (p : Int) (n : Int) T f), some (b2, algC (p : Int) (m : Int) U h), some (b3, algC (p : Int) ((((n) * (m)) : Nat) : Int) (tenT p m ((n) * (m)) T U ((((n) * (m)))) (0) (0)) (tenV p m ((((n) * (m)))) f h)), some (b4, algC (p : Int) ((((n) * (m)) : Nat) : Int) (tenT p m ((n) * (m)) T U ((((n) * (m)))) (0) (0)) (tenV p m ((((n) * (m)))) f h))] [] at hM
      refine wpList_nil ?_
      refine tN ?_
      refine wp_ret ?_
      refine fin1 rfl hF.defers (res_agg ty_ag_32 hF rfl (hM.row 2 rfl) (by simp only [fnC_size, cells_size, vecC_size, tabC_size, planeC_size])) ⟨_, rfl, hM.below, ?_⟩
      show _ = _
      rfl

end Go.Proofs.Ytclfbjfgmocbhaa

namespace Go.Proofs.Ytclfbjfgmocbhaa
open Go Go.RowKit Go.Sw Go.Ech
open Classical
theorem ty_bp_32_3 : ∀ (p n : Int) (f : Nat → Nat) w, (Instr.build 32 #[(0, .int .i64 p), (1, .int .i64 n), (3, .agg (vecC f))]).run Try.prog w = .ok (.agg (algC p n (fun _ _ _ => 0) f)) w := by intros; kernel_rfl
theorem tenT_row {p m s a b i j k : Nat} {T U : Nat → Nat → Nat → Nat} (ha : a < s) (hb : b < s) : (if i = a ∧ j = b then tenV p m s (T (a / m) (b / m)) (U (a % m) (b % m)) k else tenT p m s T U a b 0 i j k) = tenT p m s T U a (b + 1) 0 i j k := by
  unfold tenT tenV
  by_cases e : i = a ∧ j = b
  · obtain ⟨rfl, rfl⟩ := e
    rw [if_pos ⟨rfl, rfl⟩]
    by_cases e2 : k < s
    · rw [if_pos e2, if_pos (by omega)]
    · rw [if_neg e2, if_neg (by omega)]
  · rw [if_neg e]
    by_cases e2 : i < s ∧ j < s ∧ k < s ∧ (i < a ∨ i = a ∧ (j < b ∨ j = b ∧ k < 0))
    · rw [if_pos e2, if_pos (by omega)]
    · rw [if_neg e2, if_neg (by omega)]

theorem TensorAlgebrasSE (p n q m : Int) (T U : Nat → Nat → Nat → Nat) (f h : Nat → Nat) (w : World) (hT : ∀ i j k, T i j k ≤ 255) (hf : ∀ i, f i ≤ 255) (hU : ∀ i j k, U i j k ≤ 255) (hh : ∀ i, h i ≤ 255) (hco : (if AlgP p n T f ∧ AlgP q m U h then (if p = q then (if (IntKind.i64.wrap ((n) * (m))) ≤ 6 then (0 : Int) else 3) else 2) else 1) ≠ 0) :
    CallsR Try.prog 25 #[.agg (algC p n T f), .agg (algC q m U h)] w (fun res _ => res = .tuple #[.agg (algC 0 0 (fun _ _ _ => 0) (fun _ => 0)), .int .i64 (if AlgP p n T f ∧ AlgP q m U h then (if p = q then (if (IntKind.i64.wrap ((n) * (m))) ≤ 6 then (0 : Int) else 3) else 2) else 1)]) := by
  refine calls_fr [.agg (algC p n T f), .agg (algC q m U h)] Try.func25 rfl Try.ntmps25 rfl fun a hF => ?_
  have hM : Mem w w [none, none, none] [] := MemX.start w 3
  change Fr 32 a [(0, .agg (algC p n T f)), (1, .agg (algC q m U h))] at hF
  refine sq ?_
  refine wp_region_lit ?_
  refine stR hF (d_box 0 hM hF rfl) rfl ?_
  rintro _ w' a ⟨b1, rfl, hM, -⟩ hF
  change Mem w w' [some (b1, algC p n T f), none, none] [] at hM
  refine stR hF (d_box 1 hM hF rfl) rfl ?_
  rintro _ w' a ⟨b2, rfl, hM, -⟩ hF
  change Mem w w' [some (b1, algC p n T f), some (b2, algC q m U h), none] [] at hM
  refine stR hF (d_alloc 2 hM ty_ze_32) rfl ?_
  rintro _ w' a ⟨b3, rfl, hM, -⟩ hF
  change Mem w w' [some (b1, algC p n T f), some (b2, algC q m U h), some (b3, algC 0 0 (fun _ _ _ => 0) (fun _ => 0))] [] at hM
  refine st hF (g_assign hF rfl) rfl fun a hF => ?_
  refine wpList_nil ?_
  refine tN ?_
  refine sq ?_
  refine wp_region_lit ?_
  refine st hF (g_assign hF rfl) rfl fun a hF => ?_
  refine wpList_nil ?_
  refine tN ?_
  refine sq ?_
  refine sq ?_
  refine wp_region_lit ?_
  refine st hF (g_fieldAddr ty_fo_32_1 hF rfl) rfl fun a hF => st hF (g_load ty_on_2 hF rfl (hM.row 0 rfl) (algC_n (by omega))) rfl fun a hF => ?_
  refine stR hF (d_call Try.call64 hF (.cons rfl (.cons rfl (.cons rfl .nil))) (l01In_ok (n) (1) (6) _)) rfl ?_
  rintro _ w' a ⟨hx, rfl⟩ hF
  have hM := hM.ext hx
  refine st hF (g_move hF rfl) rfl fun a hF => ?_
  by_cases g4 : (1 : Int) ≤ n ∧ n ≤ 6
  ·
    first | rw [decide_eq_true g4] at hF | simp only [decide_eq_true g4] at hF
    refine stY hF rfl rfl rfl (g_fieldAddr ty_fo_32_1 hF rfl) rfl fun a hF => stY hF rfl rfl rfl (g_load ty_on_2 hF rfl (hM.row 1 rfl) (algC_n (by omega))) rfl fun a hF => ?_
    refine stYR hF rfl rfl rfl (d_call Try.call64 hF (.cons rfl (.cons rfl (.cons rfl .nil))) (l01In_ok (m) (1) (6) _)) rfl ?_
    rintro _ w' a ⟨hx, rfl⟩ hF
    have hM := hM.ext hx
    refine st hF (g_pickT hF rfl rfl) rfl fun a hF => ?_
    refine wpList_nil ?_
    refine tN ?_
    refine c_cond hF rfl (fun h5 => ?_) (fun h5 => ?_)
    ·
      refine wp_region_lit ?_
      refine st hF (g_fieldAddr ty_fo_32_1 hF rfl) rfl fun a hF => st hF (g_load ty_on_2 hF rfl (hM.row 0 rfl) (algC_n (by omega))) rfl fun a hF => st hF (g_fieldAddr ty_fo_32_1 hF rfl) rfl fun a hF => st hF (g_load ty_on_2 hF rfl (hM.row 1 rfl) (algC_n (by omega))) rfl fun a hF => st hF (g_mul hF rfl rfl (show _ = (IntKind.i64.wrap ((n) * (m)) : Int) from rfl)) rfl fun a hF => st hF (g_assign hF rfl) rfl fun a hF => ?_
      refine wpList_nil ?_
      refine tN ?_
      refine sq ?_
      refine sq ?_
      refine wp_region_lit ?_
      refine st hF (g_loadAgg ty_ag_32 hF rfl (hM.row 0 rfl) (by simp only [fnC_size, cells_size, vecC_size, tabC_size, planeC_size] <;> omega) (whole cells_size)) rfl fun a hF => st hF (g_loadAgg ty_ag_32 hF rfl (hM.row 1 rfl) (by simp only [fnC_size, cells_size, vecC_size, tabC_size, planeC_size] <;> omega) (whole cells_size)) rfl fun a hF => st hF (g_move hF rfl) rfl fun a hF => ?_
      refine stR hF (d_call Try.call60 hF (.cons rfl (.cons rfl (.cons rfl .nil))) (l01Two_ok p n q m (IntKind.i64.wrap ((n) * (m))) T U f h _ hT hf hU hh)) rfl ?_
      rintro _ w' a ⟨hx, rfl⟩ hF
      have hM := hM.ext hx
      refine st hF (g_assign hF rfl) rfl fun a hF => ?_
      refine wpList_nil ?_
      refine tN ?_
      refine sq ?_
      refine wp_region_lit ?_
      refine st hF (g_move hF rfl) rfl fun a hF => st hF (g_neq hF rfl rfl) rfl fun a hF => ?_
      refine wpList_nil ?_
      refine tN ?_
      refine c_cond hF rfl (fun h6 => ?_) (fun h6 => ?_)
      ·
        refine sq ?_
        refine wp_region_lit ?_
        refine st hF (g_build0 ty_bu_32) rfl fun a hF => st hF (g_move hF rfl) rfl fun a hF => ?_
        refine stN hF (d_storeAgg 2 hM rfl ty_sz_32 hF rfl rfl (by first | exact vecC_one | exact cells_one | (refine fnC_one fun _ _ => ?_; first | rfl | (split <;> rfl))) (by simp only [fnC_size, cells_size, vecC_size, tabC_size, planeC_size]) (by simp only [fnC_size, cells_size, vecC_size, tabC_size, planeC_size] <;> omega) (splice_whole _ _ (by simp only [fnC_size, cells_size, vecC_size, tabC_size, planeC_size]))) ?_
        intro _ w' a hM hF
        change Mem w w' [some (b1, algC p n T f), some (b2, algC q m U h), some (b3, algC 0 0 (fun _ _ _ => 0) (fun _ => 0))] [] at hM
        refine st hF (g_assign hF rfl) rfl fun a hF => ?_
        refine wpList_nil ?_
        refine tN ?_
        refine wp_ret ?_
        refine tR ?_
        refine fin2 rfl hF.defers (res_agg ty_ag_32 hF rfl (hM.row 2 rfl) (by simp only [fnC_size, cells_size, vecC_size, tabC_size, planeC_size])) (res_tmp hF rfl) ⟨_, rfl, hM.below, ?_⟩
        show _ = _
        rfl
      ·
        exact absurd hco h6
    ·
      refine wp_skip ?_
      refine tN ?_
      refine sq ?_
      refine sq ?_
      refine wp_region_lit ?_
      refine st hF (g_loadAgg ty_ag_32 hF rfl (hM.row 0 rfl) (by simp only [fnC_size, cells_size, vecC_size, tabC_size, planeC_size] <;> omega) (whole cells_size)) rfl fun a hF => st hF (g_loadAgg ty_ag_32 hF rfl (hM.row 1 rfl) (by simp only [fnC_size, cells_size, vecC_size, tabC_size, planeC_size] <;> omega) (whole cells_size)) rfl fun a hF => st hF (g_move hF rfl) rfl fun a hF => ?_
      refine stR hF (d_call Try.call60 hF (.cons rfl (.cons rfl (.cons rfl .nil))) ((CallsR.val (l01Two_ok p n q m (0) T U f h _ hT hf hU hh) (congrArg (Value.int .i64) (show (if AlgP p n T f ∧ AlgP q m U h then (if p = q then (if (0) ≤ 6 then (0 : Int) else 3) else 2) else 1) = (if AlgP p n T f ∧ AlgP q m U h then (if p = q then (if (IntKind.i64.wrap ((n) * (m))) ≤ 6 then (0 : Int) else 3) else 2) else 1) from (if_neg (fun hq => by have h1 := hq.1.1.2.1; have h2 := hq.2.1.2.1; omega)).trans (if_neg (fun hq => by have h1 := hq.1.1.2.1; have h2 := hq.2.1.2.1; omega)).symm))))) rfl ?_
      rintro _ w' a ⟨hx, rfl⟩ hF
      have hM := hM.ext hx
      refine st hF (g_assign hF rfl) rfl fun a hF => ?_
      refine wpList_nil ?_
      refine tN ?_
      refine sq ?_
      refine wp_region_lit ?_
      refine st hF (g_move hF rfl) rfl fun a hF => st hF (g_neq hF rfl rfl) rfl fun a hF => ?_
      refine wpList_nil ?_
      refine tN ?_
      refine c_cond hF rfl (fun h7 => ?_) (fun h7 => ?_)
      ·
        refine sq ?_
        refine wp_region_lit ?_
        refine st hF (g_build0 ty_bu_32) rfl fun a hF => st hF (g_move hF rfl) rfl fun a hF => ?_
        refine stN hF (d_storeAgg 2 hM rfl ty_sz_32 hF rfl rfl (by first | exact vecC_one | exact cells_one | (refine fnC_one fun _ _ => ?_; first | rfl | (split <;> rfl))) (by simp only [fnC_size, cells_size, vecC_size, tabC_size, planeC_size]) (by simp only [fnC_size, cells_size, vecC_size, tabC_size, planeC_size] <;> omega) (splice_whole _ _ (by simp only [fnC_size, cells_size, vecC_size, tabC_size, planeC_size]))) ?_
        intro _ w' a hM hF
        change Mem w w' [some (b1, algC p n T f), some (b2, algC q m U h), some (b3, algC 0 0 (fun _ _ _ => 0) (fun _ => 0))] [] at hM
        refine st hF (g_assign hF rfl) rfl fun a hF => ?_
        refine wpList_nil ?_
        refine tN ?_
        refine wp_ret ?_
        refine tR ?_
        refine fin2 rfl hF.defers (res_agg ty_ag_32 hF rfl (hM.row 2 rfl) (by simp only [fnC_size, cells_size, vecC_size, tabC_size, planeC_size])) (res_tmp hF rfl) ⟨_, rfl, hM.below, ?_⟩
        show _ = _
        rfl
      ·
        exact absurd hco h7
  ·
    first | rw [decide_eq_false g4] at hF | simp only [decide_eq_false g4] at hF
    refine stS hF rfl rfl rfl rfl rfl fun a hF => stS hF rfl rfl rfl rfl rfl fun a hF => stS hF rfl rfl rfl rfl rfl fun a hF => st hF (g_pickF hF rfl rfl) rfl fun a hF => ?_
    refine wpList_nil ?_
    refine tN ?_
    refine c_Fl hF rfl ?_
    refine wp_skip ?_
    refine tN ?_
    refine sq ?_
    refine sq ?_
    refine wp_region_lit ?_
    refine st hF (g_loadAgg ty_ag_32 hF rfl (hM.row 0 rfl) (by simp only [fnC_size, cells_size, vecC_size, tabC_size, planeC_size] <;> omega) (whole cells_size)) rfl fun a hF => st hF (g_loadAgg ty_ag_32 hF rfl (hM.row 1 rfl) (by simp only [fnC_size, cells_size, vecC_size, tabC_size, planeC_size] <;> omega) (whole cells_size)) rfl fun a hF => st hF (g_move hF rfl) rfl fun a hF => ?_
    refine stR hF (d_call Try.call60 hF (.cons rfl (.cons rfl (.cons rfl .nil))) ((CallsR.val (l01Two_ok p n q m (0) T U f h _ hT hf hU hh) (congrArg (Value.int .i64) (show (if AlgP p n T f ∧ AlgP q m U h then (if p = q then (if (0) ≤ 6 then (0 : Int) else 3) else 2) else 1) = (if AlgP p n T f ∧ AlgP q m U h then (if p = q then (if (IntKind.i64.wrap ((n) * (m))) ≤ 6 then (0 : Int) else 3) else 2) else 1) from (if_neg (fun hq => by have h1 := hq.1.1.2.1; have h2 := hq.2.1.2.1; omega)).trans (if_neg (fun hq => by have h1 := hq.1.1.2.1; have h2 := hq.2.1.2.1; omega)).symm))))) rfl ?_
    rintro _ w' a ⟨hx, rfl⟩ hF
    have hM := hM.ext hx
    refine st hF (g_assign hF rfl) rfl fun a hF => ?_
    refine wpList_nil ?_
    refine tN ?_
    refine sq ?_
    refine wp_region_lit ?_
    refine st hF (g_move hF rfl) rfl fun a hF => st hF (g_neq hF rfl rfl) rfl fun a hF => ?_
    refine wpList_nil ?_
    refine tN ?_
    refine c_cond hF rfl (fun h9 => ?_) (fun h9 => ?_)
    ·
      refine sq ?_
      refine wp_region_lit ?_
      refine st hF (g_build0 ty_bu_32) rfl fun a hF => st hF (g_move hF rfl) rfl fun a hF => ?_
      refine stN hF (d_storeAgg 2 hM rfl ty_sz_32 hF rfl rfl (by first | exact vecC_one | exact cells_one | (refine fnC_one fun _ _ => ?_; first | rfl | (split <;> rfl))) (by simp only [fnC_size, cells_size, vecC_size, tabC_size, planeC_size]) (by simp only [fnC_size, cells_size, vecC_size, tabC_size, planeC_size] <;> omega) (splice_whole _ _ (by simp only [fnC_size, cells_size, vecC_size, tabC_size, planeC_size]))) ?_
      intro _ w' a hM hF
      change Mem w w' [some (b1, algC p n T f), some (b2, algC q m U h), some (b3, algC 0 0 (fun _ _ _ => 0) (fun _ => 0))] [] at hM
      refine st hF (g_assign hF rfl) rfl fun a hF => ?_
      refine wpList_nil ?_
      refine tN ?_
      refine wp_ret ?_
      refine tR ?_
      refine fin2 rfl hF.defers (res_agg ty_ag_32 hF rfl (hM.row 2 rfl) (by simp only [fnC_size, cells_size, vecC_size, tabC_size, planeC_size])) (res_tmp hF rfl) ⟨_, rfl, hM.below, ?_⟩
      show _ = _
      rfl
    ·
      exact absurd hco h9

theorem TensorAlgebrasSY (p n m : Nat) (T U : Nat → Nat → Nat → Nat) (f h : Nat → Nat) (w : World) (hT : ∀ i j k, T i j k ≤ 255) (hf : ∀ i, f i ≤ 255) (hU : ∀ i j k, U i j k ≤ 255) (hh : ∀ i, h i ≤ 255) (hp : 0 < p) (hp2 : p < 100) (hn0 : 0 < n) (hm0 : 0 < m) (hn6 : n ≤ 6) (hm6 : m ≤ 6) (hnm : (n) * (m) ≤ 6) (h1 : AlgP (p : Int) (n : Int) T f) (h2 : AlgP (p : Int) (m : Int) U h) :
    CallsR Try.prog 25 #[.agg (algC (p : Int) (n : Int) T f), .agg (algC (p : Int) (m : Int) U h)] w (fun res _ => res = .tuple #[.agg (algC (p : Int) ((((n) * (m)) : Nat) : Int) (tenT p m ((n) * (m)) T U ((n) * (m)) 0 0) (tenV p m ((n) * (m)) f h)), .int .i64 0]) := by
  refine calls_fr [.agg (algC (p : Int) (n : Int) T f), .agg (algC (p : Int) (m : Int) U h)] Try.func25 rfl Try.ntmps25 rfl fun a hF => ?_
  have hM : Mem w w [none, none, none] [] := MemX.start w 3
  change Fr 32 a [(0, .agg (algC (p : Int) (n : Int) T f)), (1, .agg (algC (p : Int) (m : Int) U h))] at hF
  refine sq ?_
  refine wp_region_lit ?_
  refine stR hF (d_box 0 hM hF rfl) rfl ?_
  rintro _ w' a ⟨b1, rfl, hM, -⟩ hF
  change Mem w w' [some (b1, algC (p : Int) (n : Int) T f), none, none] [] at hM
  refine stR hF (d_box 1 hM hF rfl) rfl ?_
  rintro _ w' a ⟨b2, rfl, hM, -⟩ hF
  change Mem w w' [some (b1, algC (p : Int) (n : Int) T f), some (b2, algC (p : Int) (m : Int) U h), none] [] at hM
  refine stR hF (d_alloc 2 hM ty_ze_32) rfl ?_
  rintro _ w' a ⟨b3, rfl, hM, -⟩ hF
  change Mem w w' [some (b1, algC (p : Int) (n : Int) T f), some (b2, algC (p : Int) (m : Int) U h), some (b3, algC 0 0 (fun _ _ _ => 0) (fun _ => 0))] [] at hM
  refine st hF (g_assign hF rfl) rfl fun a hF => ?_
  refine wpList_nil ?_
  refine tN ?_
  refine sq ?_
  refine wp_region_lit ?_
  refine st hF (g_assign hF rfl) rfl fun a hF => ?_
  refine wpList_nil ?_
  refine tN ?_
  refine sq ?_
  refine sq ?_
  refine wp_region_lit ?_
  refine st hF (g_fieldAddr ty_fo_32_1 hF rfl) rfl fun a hF => st hF (g_load ty_on_2 hF rfl (hM.row 0 rfl) (algC_n (by omega))) rfl fun a hF => ?_
  refine stR hF (d_call Try.call64 hF (.cons rfl (.cons rfl (.cons rfl .nil))) (l01In_ok (((n : Nat) : Int)) (1) (6) _)) rfl ?_
  rintro _ w' a ⟨hx, rfl⟩ hF
  have hM := hM.ext hx
  refine st hF (g_move hF rfl) rfl fun a hF => ?_
  by_cases g4 : (1 : Int) ≤ ((n : Nat) : Int) ∧ ((n : Nat) : Int) ≤ 6
  ·
    first | rw [decide_eq_true g4] at hF | simp only [decide_eq_true g4] at hF
    refine stY hF rfl rfl rfl (g_fieldAddr ty_fo_32_1 hF rfl) rfl fun a hF => stY hF rfl rfl rfl (g_load ty_on_2 hF rfl (hM.row 1 rfl) (algC_n (by omega))) rfl fun a hF => ?_
    refine stYR hF rfl rfl rfl (d_call Try.call64 hF (.cons rfl (.cons rfl (.cons rfl .nil))) (l01In_ok (((m : Nat) : Int)) (1) (6) _)) rfl ?_
    rintro _ w' a ⟨hx, rfl⟩ hF
    have hM := hM.ext hx
    refine st hF (g_pickT hF rfl rfl) rfl fun a hF => ?_
    refine wpList_nil ?_
    refine tN ?_
    refine c_cond hF rfl (fun h5 => ?_) (fun h5 => ?_)
    ·
      refine wp_region_lit ?_
      refine st hF (g_fieldAddr ty_fo_32_1 hF rfl) rfl fun a hF => st hF (g_load ty_on_2 hF rfl (hM.row 0 rfl) (algC_n (by omega))) rfl fun a hF => st hF (g_fieldAddr ty_fo_32_1 hF rfl) rfl fun a hF => st hF (g_load ty_on_2 hF rfl (hM.row 1 rfl) (algC_n (by omega))) rfl fun a hF => st hF (g_mul hF rfl rfl (mul_nat (n) (m) (by omega))) rfl fun a hF => st hF (g_assign hF rfl) rfl fun a hF => ?_
      refine wpList_nil ?_
      refine tN ?_
      refine sq ?_
      refine sq ?_
      refine wp_region_lit ?_
      refine st hF (g_loadAgg ty_ag_32 hF rfl (hM.row 0 rfl) (by simp only [fnC_size, cells_size, vecC_size, tabC_size, planeC_size] <;> omega) (whole cells_size)) rfl fun a hF => st hF (g_loadAgg ty_ag_32 hF rfl (hM.row 1 rfl) (by simp only [fnC_size, cells_size, vecC_size, tabC_size, planeC_size] <;> omega) (whole cells_size)) rfl fun a hF => st hF (g_move hF rfl) rfl fun a hF => ?_
      refine stR hF (d_call Try.call60 hF (.cons rfl (.cons rfl (.cons rfl .nil))) ((CallsR.val (l01Two_ok (p : Int) (n : Int) (p : Int) (m : Int) ((((n) * (m) : Nat) : Int)) T U f h _ hT hf hU hh) (congrArg (Value.int .i64) (by rw [if_pos ⟨h1, h2⟩, if_pos rfl, if_pos (by omega)]))))) rfl ?_
      rintro _ w' a ⟨hx, rfl⟩ hF
      have hM := hM.ext hx
      refine st hF (g_assign hF rfl) rfl fun a hF => ?_
      refine wpList_nil ?_
      refine tN ?_
      refine sq ?_
      refine wp_region_lit ?_
      refine st hF (g_move hF rfl) rfl fun a hF => st hF (g_neq hF rfl rfl) rfl fun a hF => ?_
      refine wpList_nil ?_
      refine tN ?_
      refine c_kF hF rfl (by decide) ?_
      refine wp_skip ?_
      refine tN ?_
      refine sq ?_
      refine wp_region_lit ?_
      refine st hF (g_loadAgg ty_ag_32 hF rfl (hM.row 0 rfl) (by simp only [fnC_size, cells_size, vecC_size, tabC_size, planeC_size] <;> omega) (whole cells_size)) rfl fun a hF => st hF (g_loadAgg ty_ag_32 hF rfl (hM.row 1 rfl) (by simp only [fnC_size, cells_size, vecC_size, tabC_size, planeC_size] <;> omega) (whole cells_size)) rfl fun a hF => ?_
      refine stR hF (d_call Try.call65 hF (.cons rfl (.cons rfl .nil)) (l01Tensor_ok p n m T U f h _ hp hp2 hn0 hm0 hn6 hm6 hnm hT hf hU hh)) rfl ?_
      rintro _ w' a ⟨hx, rfl⟩ hF
      have hM := hM.ext hx
      refine stN hF (d_storeAgg 2 hM rfl ty_sz_32 hF rfl rfl (by first | exact vecC_one | exact cells_one | (refine fnC_one fun _ _ => ?_; first | rfl | (split <;> rfl))) (by simp only [fnC_size, cells_size, vecC_size, tabC_size, planeC_size]) (by simp only [fnC_size, cells_size, vecC_size, tabC_size, planeC_size] <;> omega) (splice_whole _ _ (by simp only [fnC_size, cells_size, vecC_size, tabC_size, planeC_size]))) ?_
      intro _ w' a hM hF
      change Mem w w' [some (b1, algC (p : Int) (n : Int) T f), some (b2, algC (p : Int) (m : Int) U h), some (b3, algC (p : Int) ((((n) * (m)) : Nat) : Int) (tenT p m ((n) * (m)) T U ((n) * (m)) 0 0) (tenV p m ((n) * (m)) f h))] [] at hM
      refine st hF (g_assign hF rfl) rfl fun a hF => ?_
      refine wpList_nil ?_
      refine tN ?_
      refine wp_ret ?_
      refine fin2 rfl hF.defers (res_agg ty_ag_32 hF rfl (hM.row 2 rfl) (by simp only [fnC_size, cells_size, vecC_size, tabC_size, planeC_size])) (res_tmp hF rfl) ⟨_, rfl, hM.below, ?_⟩
      show _ = _
      rfl
    ·
      exfalso; omega
  ·
    first | rw [decide_eq_false g4] at hF | simp only [decide_eq_false g4] at hF
    exfalso; omega

theorem TensorAlgebrasIE (p n q m : Int) (T U : Nat → Nat → Nat → Nat) (f h : Nat → Nat) (w : World) (hT : ∀ i j k, T i j k ≤ 255) (hf : ∀ i, f i ≤ 255) (hU : ∀ i j k, U i j k ≤ 255) (hh : ∀ i, h i ≤ 255) (hco : (if AlgP p n T f ∧ AlgP q m U h then (if p = q then (if (IntKind.i64.wrap ((n) * (m))) ≤ 6 then (0 : Int) else 3) else 2) else 1) ≠ 0) :
    CallsR Try.prog 26 #[.agg (algC p n T f), .agg (algC q m U h)] w (fun res _ => res = .tuple #[.agg (algC 0 0 (fun _ _ _ => 0) (fun _ => 0)), .int .i64 (if AlgP p n T f ∧ AlgP q m U h then (if p = q then (if (IntKind.i64.wrap ((n) * (m))) ≤ 6 then (0 : Int) else 3) else 2) else 1)]) := by
  refine calls_fr [.agg (algC p n T f), .agg (algC q m U h)] Try.func26 rfl Try.ntmps26 rfl fun a hF => ?_
  have hM : Mem w w [none, none, none, none, none, none] [] := MemX.start w 6
  change Fr 86 a [(0, .agg (algC p n T f)), (1, .agg (algC q m U h))] at hF
  refine sq ?_
  refine wp_region_lit ?_
  refine stR hF (d_box 0 hM hF rfl) rfl ?_
  rintro _ w' a ⟨b1, rfl, hM, -⟩ hF
  change Mem w w' [some (b1, algC p n T f), none, none, none, none, none] [] at hM
  refine stR hF (d_box 1 hM hF rfl) rfl ?_
  rintro _ w' a ⟨b2, rfl, hM, -⟩ hF
  change Mem w w' [some (b1, algC p n T f), some (b2, algC q m U h), none, none, none, none] [] at hM
  refine stR hF (d_alloc 2 hM ty_ze_32) rfl ?_
  rintro _ w' a ⟨b3, rfl, hM, -⟩ hF
  change Mem w w' [some (b1, algC p n T f), some (b2, algC q m U h), some (b3, algC 0 0 (fun _ _ _ => 0) (fun _ => 0)), none, none, none] [] at hM
  refine st hF (g_assign hF rfl) rfl fun a hF => ?_
  refine wpList_nil ?_
  refine tN ?_
  refine sq ?_
  refine wp_region_lit ?_
  refine st hF (g_loadAgg ty_ag_32 hF rfl (hM.row 0 rfl) (by simp only [fnC_size, cells_size, vecC_size, tabC_size, planeC_size] <;> omega) (whole cells_size)) rfl fun a hF => st hF (g_loadAgg ty_ag_32 hF rfl (hM.row 1 rfl) (by simp only [fnC_size, cells_size, vecC_size, tabC_size, planeC_size] <;> omega) (whole cells_size)) rfl fun a hF => st hF (g_fieldAddr ty_fo_32_1 hF rfl) rfl fun a hF => st hF (g_load ty_on_2 hF rfl (hM.row 0 rfl) (algC_n (by omega))) rfl fun a hF => st hF (g_fieldAddr ty_fo_32_1 hF rfl) rfl fun a hF => st hF (g_load ty_on_2 hF rfl (hM.row 1 rfl) (algC_n (by omega))) rfl fun a hF => st hF (g_mul hF rfl rfl (show _ = (IntKind.i64.wrap ((n) * (m)) : Int) from rfl)) rfl fun a hF => ?_
  refine stR hF (d_call Try.call62 hF (.cons rfl (.cons rfl (.cons rfl .nil))) (joinFault_ok p n q m (IntKind.i64.wrap ((n) * (m))) T U f h _ hT hf hU hh)) rfl ?_
  rintro _ w' a ⟨hx, rfl⟩ hF
  have hM := hM.ext hx
  refine st hF (g_assign hF rfl) rfl fun a hF => ?_
  refine wpList_nil ?_
  refine tN ?_
  refine sq ?_
  refine sq ?_
  refine wp_region_lit ?_
  refine st hF (g_move hF rfl) rfl fun a hF => st hF (g_neq hF rfl rfl) rfl fun a hF => ?_
  refine wpList_nil ?_
  refine tN ?_
  refine c_cond hF rfl (fun h4 => ?_) (fun h4 => ?_)
  ·
    refine sq ?_
    refine wp_region_lit ?_
    refine st hF (g_build0 ty_bu_32) rfl fun a hF => st hF (g_move hF rfl) rfl fun a hF => ?_
    refine stN hF (d_storeAgg 2 hM rfl ty_sz_32 hF rfl rfl (by first | exact vecC_one | exact cells_one | (refine fnC_one fun _ _ => ?_; first | rfl | (split <;> rfl))) (by simp only [fnC_size, cells_size, vecC_size, tabC_size, planeC_size]) (by simp only [fnC_size, cells_size, vecC_size, tabC_size, planeC_size] <;> omega) (splice_whole _ _ (by simp only [fnC_size, cells_size, vecC_size, tabC_size, planeC_size]))) ?_
    intro _ w' a hM hF
    change Mem w w' [some (b1, algC p n T f), some (b2, algC q m U h), some (b3, algC 0 0 (fun _ _ _ => 0) (fun _ => 0)), none, none, none] [] at hM
    refine st hF (g_assign hF rfl) rfl fun a hF => ?_
    refine wpList_nil ?_
    refine tN ?_
    refine wp_ret ?_
    refine tR ?_
    refine fin2 rfl hF.defers (res_agg ty_ag_32 hF rfl (hM.row 2 rfl) (by simp only [fnC_size, cells_size, vecC_size, tabC_size, planeC_size])) (res_tmp hF rfl) ⟨_, rfl, hM.below, ?_⟩
    show _ = _
    rfl
  ·
    exact absurd hco h4

theorem TensorAlgebrasIY (p n m : Nat) (T U : Nat → Nat → Nat → Nat) (f h : Nat → Nat) (w : World) (hT : ∀ i j k, T i j k ≤ 255) (hf : ∀ i, f i ≤ 255) (hU : ∀ i j k, U i j k ≤ 255) (hh : ∀ i, h i ≤ 255) (hp : 0 < p) (hp2 : p < 100) (hn0 : 0 < n) (hm0 : 0 < m) (hn6 : n ≤ 6) (hm6 : m ≤ 6) (hnm : (n) * (m) ≤ 6) (h1 : AlgP (p : Int) (n : Int) T f) (h2 : AlgP (p : Int) (m : Int) U h) :
    CallsR Try.prog 26 #[.agg (algC (p : Int) (n : Int) T f), .agg (algC (p : Int) (m : Int) U h)] w (fun res _ => res = .tuple #[.agg (algC (p : Int) ((((n) * (m)) : Nat) : Int) (tenT p m ((n) * (m)) T U ((n) * (m)) 0 0) (tenV p m ((n) * (m)) f h)), .int .i64 0]) := by
  refine calls_fr [.agg (algC (p : Int) (n : Int) T f), .agg (algC (p : Int) (m : Int) U h)] Try.func26 rfl Try.ntmps26 rfl fun a hF => ?_
  have hM : Mem w w [none, none, none, none, none, none] [] := MemX.start w 6
  change Fr 86 a [(0, .agg (algC (p : Int) (n : Int) T f)), (1, .agg (algC (p : Int) (m : Int) U h))] at hF
  refine sq ?_
  refine wp_region_lit ?_
  refine stR hF (d_box 0 hM hF rfl) rfl ?_
  rintro _ w' a ⟨b1, rfl, hM, -⟩ hF
  change Mem w w' [some (b1, algC (p : Int) (n : Int) T f), none, none, none, none, none] [] at hM
  refine stR hF (d_box 1 hM hF rfl) rfl ?_
  rintro _ w' a ⟨b2, rfl, hM, -⟩ hF
  change Mem w w' [some (b1, algC (p : Int) (n : Int) T f), some (b2, algC (p : Int) (m : Int) U h), none, none, none, none] [] at hM
  refine stR hF (d_alloc 2 hM ty_ze_32) rfl ?_
  rintro _ w' a ⟨b3, rfl, hM, -⟩ hF
  change Mem w w' [some (b1, algC (p : Int) (n : Int) T f), some (b2, algC (p : Int) (m : Int) U h), some (b3, algC 0 0 (fun _ _ _ => 0) (fun _ => 0)), none, none, none] [] at hM
  refine st hF (g_assign hF rfl) rfl fun a hF => ?_
  refine wpList_nil ?_
  refine tN ?_
  refine sq ?_
  refine wp_region_lit ?_
  refine st hF (g_loadAgg ty_ag_32 hF rfl (hM.row 0 rfl) (by simp only [fnC_size, cells_size, vecC_size, tabC_size, planeC_size] <;> omega) (whole cells_size)) rfl fun a hF => st hF (g_loadAgg ty_ag_32 hF rfl (hM.row 1 rfl) (by simp only [fnC_size, cells_size, vecC_size, tabC_size, planeC_size] <;> omega) (whole cells_size)) rfl fun a hF => st hF (g_fieldAddr ty_fo_32_1 hF rfl) rfl fun a hF => st hF (g_load ty_on_2 hF rfl (hM.row 0 rfl) (algC_n (by omega))) rfl fun a hF => st hF (g_fieldAddr ty_fo_32_1 hF rfl) rfl fun a hF => st hF (g_load ty_on_2 hF rfl (hM.row 1 rfl) (algC_n (by omega))) rfl fun a hF => st hF (g_mul hF rfl rfl (mul_nat (n) (m) (by omega))) rfl fun a hF => ?_
  refine stR hF (d_call Try.call62 hF (.cons rfl (.cons rfl (.cons rfl .nil))) ((CallsR.val (joinFault_ok (p : Int) (n : Int) (p : Int) (m : Int) ((((n) * (m) : Nat) : Int)) T U f h _ hT hf hU hh) (congrArg (Value.int .i64) (by rw [if_pos ⟨h1, h2⟩, if_pos rfl, if_pos (by omega)]))))) rfl ?_
  rintro _ w' a ⟨hx, rfl⟩ hF
  have hM := hM.ext hx
  refine st hF (g_assign hF rfl) rfl fun a hF => ?_
  refine wpList_nil ?_
  refine tN ?_
  refine sq ?_
  refine sq ?_
  refine wp_region_lit ?_
  refine st hF (g_move hF rfl) rfl fun a hF => st hF (g_neq hF rfl rfl) rfl fun a hF => ?_
  refine wpList_nil ?_
  refine tN ?_
  refine c_kF hF rfl (by decide) ?_
  refine wp_skip ?_
  refine tN ?_
  refine sq ?_
  refine wp_region_lit ?_
  refine st hF (g_fieldAddr ty_fo_32_1 hF rfl) rfl fun a hF => st hF (g_load ty_on_2 hF rfl (hM.row 0 rfl) (algC_n (by omega))) rfl fun a hF => st hF (g_fieldAddr ty_fo_32_1 hF rfl) rfl fun a hF => st hF (g_load ty_on_2 hF rfl (hM.row 1 rfl) (algC_n (by omega))) rfl fun a hF => st hF (g_mul hF rfl rfl (mul_nat (n) (m) (by omega))) rfl fun a hF => st hF (g_assign hF rfl) rfl fun a hF => ?_
  refine wpList_nil ?_
  refine tN ?_
  refine sq ?_
  refine c_par 12 [3] [.val (ptr b1 (0 + 0)), .val (.int .i64 (((p : Nat) : Int))), .val (.int .i64 ((((n) * (m) : Nat) : Int))), .val (ptr b1 (0 + 218)), .val (.agg (vecC f)), .val (ptr b2 (0 + 218)), .val (.agg (vecC h)), .val (.int .i64 ((((n) * (m) : Nat) : Int))), .val (.agg (algC (p : Int) (m : Int) U h)), .val (.agg (vecC (tenV p m ((n) * (m)) (f) (h)))), .val (.agg (algC (((p : Nat) : Int)) ((((n) * (m) : Nat) : Int)) (fun _ _ _ => 0) (tenV p m ((n) * (m)) (f) (h)))), .own 3 (algC 0 0 (fun _ _ _ => 0) (fun _ => 0)) (fun b => ptr b 0)] hmix rfl hF rfl hM ⟨fun a w g hF hS hd => by exact par_val hS rfl (g_fieldAddr ty_fo_32_0 hF rfl), fun a w g hF hS hd => by have hF := hF.ext1 30 (hd 0 rfl rfl); have hM := hS.mem rfl; exact par_val hS rfl (g_load ty_on_2 hF rfl (hM.row 0 rfl) (algC_p (by omega))), fun a w g hF hS hd => by exact par_val hS rfl (g_move hF rfl), fun a w g hF hS hd => by exact par_val hS rfl (g_fieldAddr ty_fo_32_3 hF rfl), fun a w g hF hS hd => by have hF := hF.ext1 33 (hd 3 rfl rfl); have hM := hS.mem rfl; exact par_val hS rfl (g_loadAgg ty_ag_30 hF rfl (hM.row 0 rfl) (by simp only [fnC_size, cells_size, vecC_size, tabC_size, planeC_size] <;> omega) (algC_form (by omega) (by omega))), fun a w g hF hS hd => by exact par_val hS rfl (g_fieldAddr ty_fo_32_3 hF rfl), fun a w g hF hS hd => by have hF := hF.ext1 35 (hd 5 rfl rfl); have hM := hS.mem rfl; exact par_val hS rfl (g_loadAgg ty_ag_30 hF rfl (hM.row 1 rfl) (by simp only [fnC_size, cells_size, vecC_size, tabC_size, planeC_size] <;> omega) (algC_form (by omega) (by omega))), fun a w g hF hS hd => by exact par_val hS rfl (g_move hF rfl), fun a w g hF hS hd => by have hM := hS.mem rfl; exact par_val hS rfl (g_loadAgg ty_ag_32 hF rfl (hM.row 1 rfl) (by simp only [fnC_size, cells_size, vecC_size, tabC_size, planeC_size] <;> omega) (whole cells_size)), fun a w g hF hS hd => by have hF := hF.ext1 34 (hd 4 rfl rfl); have hF := hF.ext1 36 (hd 6 rfl rfl); have hF := hF.ext1 37 (hd 7 rfl rfl); have hF := hF.ext1 38 (hd 8 rfl rfl); exact par_call (by repeat constructor) hS rfl (d_call Try.call66 hF (.cons rfl (.cons rfl (.cons rfl (.cons rfl .nil)))) (tensorVector_ok p m ((n) * (m)) (f) (h) U h _ hp hp2 hm0 hm6 (by omega) (fun _ => by first | exact hf _ | exact hT _ _ _) (fun _ => by first | exact hh _ | exact hU _ _ _))), fun a w g hF hS hd => by have hF := hF.ext1 31 (hd 1 rfl rfl); have hF := hF.ext1 32 (hd 2 rfl rfl); have hF := hF.ext1 39 (hd 9 rfl rfl); exact par_val hS rfl (g_buildP hF (build013 hF rfl rfl rfl) (fun w => ty_bp_32_3 _ _ _ w)), fun a w g hF hS hd => by exact par_own (by repeat constructor) hS rfl rfl rfl rfl (d_alloc 3 hS.1 ty_ze_32), trivial⟩ ?_
  intro a w' L hF hS hq
  have hF := hF.ext1 30 (hq 0 rfl rfl)
  have hF := hF.ext1 31 (hq 1 rfl rfl)
  have hF := hF.ext1 32 (hq 2 rfl rfl)
  have hF := hF.ext1 33 (hq 3 rfl rfl)
  have hF := hF.ext1 34 (hq 4 rfl rfl)
  have hF := hF.ext1 35 (hq 5 rfl rfl)
  have hF := hF.ext1 36 (hq 6 rfl rfl)
  have hF := hF.ext1 37 (hq 7 rfl rfl)
  have hF := hF.ext1 38 (hq 8 rfl rfl)
  have hF := hF.ext1 39 (hq 9 rfl rfl)
  have hF := hF.ext1 40 (hq 10 rfl rfl)
  obtain ⟨hM, hL⟩ := hS
  obtain ⟨b5, hptr, hkk⟩ := hq 11 rfl rfl
  have hF := hF.ext1 8 hptr
  have hL := hL.take hkk
  obtain rfl := hL.eq
  change Mem w w' [some (b1, algC (p : Int) (n : Int) T f), some (b2, algC (p : Int) (m : Int) U h), some (b3, algC 0 0 (fun _ _ _ => 0) (fun _ => 0)), some (b5, algC 0 0 (fun _ _ _ => 0) (fun _ => 0)), none, none] [] at hM
  change wpList Try.prog _ _ [_] _ _
  refine stN hF (d_storeAgg 3 hM rfl ty_sz_32 hF rfl rfl (by first | exact vecC_one | exact cells_one | (refine fnC_one fun _ _ => ?_; first | rfl | (split <;> rfl))) (by simp only [fnC_size, cells_size, vecC_size, tabC_size, planeC_size]) (by simp only [fnC_size, cells_size, vecC_size, tabC_size, planeC_size] <;> omega) (splice_whole _ _ (by simp only [fnC_size, cells_size, vecC_size, tabC_size, planeC_size]))) ?_
  intro _ w' a hM hF
  change Mem w w' [some (b1, algC (p : Int) (n : Int) T f), some (b2, algC (p : Int) (m : Int) U h), some (b3, algC 0 0 (fun _ _ _ => 0) (fun _ => 0)), some (b5, algC (((p : Nat) : Int)) ((((n) * (m) : Nat) : Int)) (fun _ _ _ => 0) (tenV p m ((n) * (m)) (f) (h))), none, none] [] at hM
  refine wpList_nil ?_
  refine tN ?_
  refine sq ?_
  refine sq ?_
  refine wp_region_lit ?_
  refine st hF (g_move hF rfl) rfl fun a hF => st hF (g_move hF rfl) rfl fun a hF => ?_
  refine wpList_nil ?_
  refine tN ?_
  refine wp_block ?_
  change Mem w _ [some (b1, algC (p : Int) (n : Int) T f), some (b2, algC (p : Int) (m : Int) U h), some (b3, algC 0 0 (fun _ _ _ => 0) (fun _ => 0)), some (b5, algC (((p : Nat) : Int)) ((((n) * (m) : Nat) : Int)) (fun _ _ _ => 0) (tenV p m ((n) * (m)) (f) (h))), none, none] [] at hM
  refine c_loop (fun (kk : Nat) a w' => kk ≤ ((n) * (m)) ∧ (True) ∧ Fr 86 a [(8, ptr b5 (0)), (40, .agg (algC (((p : Nat) : Int)) ((((n) * (m) : Nat) : Int)) (fun _ _ _ => 0) (tenV p m ((n) * (m)) (f) (h)))), (39, .agg (vecC (tenV p m ((n) * (m)) (f) (h)))), (38, .agg (algC (p : Int) (m : Int) U h)), (37, .int .i64 ((((n) * (m) : Nat) : Int))), (36, .agg (vecC h)), (35, ptr b2 (0 + 218)), (34, .agg (vecC f)), (33, ptr b1 (0 + 218)), (32, .int .i64 ((((n) * (m) : Nat) : Int))), (31, .int .i64 (((p : Nat) : Int))), (30, ptr b1 (0 + 0)), (0, .agg (algC (p : Int) (n : Int) T f)), (1, .agg (algC (p : Int) (m : Int) U h)), (2, ptr b1 (0)), (3, ptr b2 (0)), (4, ptr b3 (0)), (5, .int .i64 (0)), (13, .agg (algC (p : Int) (n : Int) T f)), (14, .agg (algC (p : Int) (m : Int) U h)), (15, ptr b1 (0 + 1)), (16, .int .i64 (((n : Nat) : Int))), (17, ptr b2 (0 + 1)), (18, .int .i64 (((m : Nat) : Int))), (19, .int .i64 ((((n) * (m) : Nat) : Int))), (20, .int .i64 (0)), (6, .int .i64 (0)), (21, .int .i64 (0)), (22, .bool (decide ((0 : Int) ≠ 0))), (25, ptr b1 (0 + 1)), (26, .int .i64 (((n : Nat) : Int))), (27, ptr b2 (0 + 1)), (28, .int .i64 (((m : Nat) : Int))), (29, .int .i64 ((((n) * (m) : Nat) : Int))), (7, .int .i64 ((((n) * (m) : Nat) : Int))), (41, .int .i64 ((((n) * (m) : Nat) : Int))), (42, .int .i64 (((kk : Nat) : Int)))] ∧ Mem w w' [some (b1, algC (p : Int) (n : Int) T f), some (b2, algC (p : Int) (m : Int) U h), some (b3, algC 0 0 (fun _ _ _ => 0) (fun _ => 0)), some (b5, algC (p : Int) ((((n) * (m)) : Nat) : Int) (tenT p m ((n) * (m)) T U (kk) (0) 0) (tenV p m ((n) * (m)) f h)), none, none] []) (fun kk => ((n) * (m)) - kk) 0 ?_ ?_
  ·
    refine ⟨by omega, trivial, hF.sub _ (by repeat' constructor), ?_⟩
    exact hM.cast (by rw [tenT_zero])
  ·
    clear hF hM
    rintro gi a w' ⟨hgi, hinv1, hF, hM⟩
    have hqi1 := Nat.div_le_self gi m
    have hqi2 := Nat.mod_lt gi hm0
    refine sq ?_
    refine wp_region_lit ?_
    refine st hF (g_lss hF rfl rfl) rfl fun a hF => ?_
    refine wpList_nil ?_
    refine tN ?_
    refine sq ?_
    refine c_cond hF rfl (fun h6 => ?_) (fun h6 => ?_)
    ·
      refine wp_skip ?_
      refine tN ?_
      refine sq ?_
      refine wp_block ?_
      refine sq ?_
      refine wp_region_lit ?_
      refine st hF (g_move hF rfl) rfl fun a hF => st hF (g_assign hF rfl) rfl fun a hF => ?_
      refine wpList_nil ?_
      refine tN ?_
      refine sq ?_
      refine wp_region_lit ?_
      refine st hF (g_move hF rfl) rfl fun a hF => st hF (g_move hF rfl) rfl fun a hF => ?_
      refine wpList_nil ?_
      refine tN ?_
      refine wp_block ?_
      change Mem w _ [some (b1, algC (p : Int) (n : Int) T f), some (b2, algC (p : Int) (m : Int) U h), some (b3, algC 0 0 (fun _ _ _ => 0) (fun _ => 0)), some (b5, algC (p : Int) ((((n) * (m)) : Nat) : Int) (tenT p m ((n) * (m)) T U (gi) (0) 0) (tenV p m ((n) * (m)) f h)), none, none] [] at hM
      refine c_loop (fun (kk : Nat) a w' => kk ≤ ((n) * (m)) ∧ (True) ∧ Fr 86 a [(8, ptr b5 (0)), (40, .agg (algC (((p : Nat) : Int)) ((((n) * (m) : Nat) : Int)) (fun _ _ _ => 0) (tenV p m ((n) * (m)) (f) (h)))), (39, .agg (vecC (tenV p m ((n) * (m)) (f) (h)))), (38, .agg (algC (p : Int) (m : Int) U h)), (37, .int .i64 ((((n) * (m) : Nat) : Int))), (36, .agg (vecC h)), (35, ptr b2 (0 + 218)), (34, .agg (vecC f)), (33, ptr b1 (0 + 218)), (32, .int .i64 ((((n) * (m) : Nat) : Int))), (31, .int .i64 (((p : Nat) : Int))), (30, ptr b1 (0 + 0)), (0, .agg (algC (p : Int) (n : Int) T f)), (1, .agg (algC (p : Int) (m : Int) U h)), (2, ptr b1 (0)), (3, ptr b2 (0)), (4, ptr b3 (0)), (5, .int .i64 (0)), (13, .agg (algC (p : Int) (n : Int) T f)), (14, .agg (algC (p : Int) (m : Int) U h)), (15, ptr b1 (0 + 1)), (16, .int .i64 (((n : Nat) : Int))), (17, ptr b2 (0 + 1)), (18, .int .i64 (((m : Nat) : Int))), (19, .int .i64 ((((n) * (m) : Nat) : Int))), (20, .int .i64 (0)), (6, .int .i64 (0)), (21, .int .i64 (0)), (22, .bool (decide ((0 : Int) ≠ 0))), (25, ptr b1 (0 + 1)), (26, .int .i64 (((n : Nat) : Int))), (27, ptr b2 (0 + 1)), (28, .int .i64 (((m : Nat) : Int))), (29, .int .i64 ((((n) * (m) : Nat) : Int))), (7, .int .i64 ((((n) * (m) : Nat) : Int))), (41, .int .i64 ((((n) * (m) : Nat) : Int))), (42, .int .i64 (((gi : Nat) : Int))), (43, .bool (decide ((((gi : Nat) : Int) : Int) < (((n) * (m) : Nat) : Int)))), (44, .int .i64 (((gi : Nat) : Int))), (9, .int .i64 (((gi : Nat) : Int))), (45, .int .i64 ((((n) * (m) : Nat) : Int))), (46, .int .i64 (((kk : Nat) : Int)))] ∧ Mem w w' [some (b1, algC (p : Int) (n : Int) T f), some (b2, algC (p : Int) (m : Int) U h), some (b3, algC 0 0 (fun _ _ _ => 0) (fun _ => 0)), some (b5, algC (p : Int) ((((n) * (m)) : Nat) : Int) (tenT p m ((n) * (m)) T U (gi) (kk) 0) (tenV p m ((n) * (m)) f h)), none, none] []) (fun kk => ((n) * (m)) - kk) 0 ?_ ?_
      ·
        refine ⟨by omega, trivial, hF.sub _ (by repeat' constructor), ?_⟩
        exact hM
      ·
        clear hF hM
        rintro gj a w' ⟨hgj, hinv2, hF, hM⟩
        have hqj1 := Nat.div_le_self gj m
        have hqj2 := Nat.mod_lt gj hm0
        refine sq ?_
        refine wp_region_lit ?_
        refine st hF (g_lss hF rfl rfl) rfl fun a hF => ?_
        refine wpList_nil ?_
        refine tN ?_
        refine sq ?_
        refine c_cond hF rfl (fun h7 => ?_) (fun h7 => ?_)
        ·
          refine wp_skip ?_
          refine tN ?_
          refine sq ?_
          refine wp_block ?_
          refine sq ?_
          refine wp_region_lit ?_
          refine st hF (g_move hF rfl) rfl fun a hF => st hF (g_assign hF rfl) rfl fun a hF => ?_
          refine wpList_nil ?_
          refine tN ?_
          refine sq ?_
          refine c_par 13 [4] [.val (.int .i64 (((gi : Nat) : Int))), .val (ptr b2 (0 + 1)), .val (.int .i64 (((m : Nat) : Int))), .val (.int .i64 ((((gi) / (m) : Nat) : Int))), .val (.int .i64 (((gj : Nat) : Int))), .val (ptr b2 (0 + 1)), .val (.int .i64 (((m : Nat) : Int))), .val (.int .i64 ((((gj) / (m) : Nat) : Int))), .val (ptr b1 (0 + 2)), .val (ptr b1 (0 + 2 + ((gi) / (m)) * 36)), .val (ptr b1 (0 + 2 + ((gi) / (m)) * 36 + ((gj) / (m)) * 6)), .val (.agg (vecC (T ((gi) / (m)) ((gj) / (m))))), .own 4 (fnC 6 (fun _ => .int .u8 (0))) (fun b => ptr b 0)] hmix rfl hF rfl hM ⟨fun a w g hF hS hd => by exact par_val hS rfl (g_move hF rfl), fun a w g hF hS hd => by exact par_val hS rfl (g_fieldAddr ty_fo_32_1 hF rfl), fun a w g hF hS hd => by have hF := hF.ext1 50 (hd 1 rfl rfl); have hM := hS.mem rfl; exact par_val hS rfl (g_load ty_on_2 hF rfl (hM.row 1 rfl) (algC_n (by omega))), fun a w g hF hS hd => by have hF := hF.ext1 49 (hd 0 rfl rfl); have hF := hF.ext1 51 (hd 2 rfl rfl); exact par_val hS rfl (g_quo hF rfl rfl (by omega) (quo_nat (gi) (m) (by omega))), fun a w g hF hS hd => by exact par_val hS rfl (g_move hF rfl), fun a w g hF hS hd => by exact par_val hS rfl (g_fieldAddr ty_fo_32_1 hF rfl), fun a w g hF hS hd => by have hF := hF.ext1 54 (hd 5 rfl rfl); have hM := hS.mem rfl; exact par_val hS rfl (g_load ty_on_2 hF rfl (hM.row 1 rfl) (algC_n (by omega))), fun a w g hF hS hd => by have hF := hF.ext1 53 (hd 4 rfl rfl); have hF := hF.ext1 55 (hd 6 rfl rfl); exact par_val hS rfl (g_quo hF rfl rfl (by omega) (quo_nat (gj) (m) (by omega))), fun a w g hF hS hd => by exact par_val hS rfl (g_fieldAddr ty_fo_32_2 hF rfl), fun a w g hF hS hd => by have hF := hF.ext1 52 (hd 3 rfl rfl); have hF := hF.ext1 57 (hd 8 rfl rfl); exact par_val hS rfl (g_indexAddr ty_ar_24 hF rfl rfl rfl (by omega)), fun a w g hF hS hd => by have hF := hF.ext1 56 (hd 7 rfl rfl); have hF := hF.ext1 58 (hd 9 rfl rfl); exact par_val hS rfl (g_indexAddr ty_ar_23 hF rfl rfl rfl (by omega)), fun a w g hF hS hd => by have hF := hF.ext1 59 (hd 10 rfl rfl); have hM := hS.mem rfl; exact par_val hS rfl (g_loadAgg ty_ag_22 hF rfl (hM.row 0 rfl) (by simp only [fnC_size, cells_size, vecC_size, tabC_size, planeC_size] <;> omega) (algC_row ((gi) / (m)) ((gj) / (m)) (by omega) (by omega) (by omega) (by omega))), fun a w g hF hS hd => by exact par_own (by repeat constructor) hS rfl rfl rfl rfl (d_alloc 4 hS.1 ty_ze_22), trivial⟩ ?_
          intro a w' L hF hS hq
          have hF := hF.ext1 49 (hq 0 rfl rfl)
          have hF := hF.ext1 50 (hq 1 rfl rfl)
          have hF := hF.ext1 51 (hq 2 rfl rfl)
          have hF := hF.ext1 52 (hq 3 rfl rfl)
          have hF := hF.ext1 53 (hq 4 rfl rfl)
          have hF := hF.ext1 54 (hq 5 rfl rfl)
          have hF := hF.ext1 55 (hq 6 rfl rfl)
          have hF := hF.ext1 56 (hq 7 rfl rfl)
          have hF := hF.ext1 57 (hq 8 rfl rfl)
          have hF := hF.ext1 58 (hq 9 rfl rfl)
          have hF := hF.ext1 59 (hq 10 rfl rfl)
          have hF := hF.ext1 60 (hq 11 rfl rfl)
          obtain ⟨hM, hL⟩ := hS
          obtain ⟨b8, hptr, hkk⟩ := hq 12 rfl rfl
          have hF := hF.ext1 11 hptr
          have hL := hL.take hkk
          obtain rfl := hL.eq
          change Mem w w' [some (b1, algC (p : Int) (n : Int) T f), some (b2, algC (p : Int) (m : Int) U h), some (b3, algC 0 0 (fun _ _ _ => 0) (fun _ => 0)), some (b5, algC (p : Int) ((((n) * (m)) : Nat) : Int) (tenT p m ((n) * (m)) T U (gi) (gj) 0) (tenV p m ((n) * (m)) f h)), some (b8, fnC 6 (fun _ => .int .u8 (0))), none] [] at hM
          change wpList Try.prog _ _ [_] _ _
          refine stN hF (d_storeAgg 4 hM rfl ty_sz_22 hF rfl rfl (by first | exact vecC_one | exact cells_one | (refine fnC_one fun _ _ => ?_; first | rfl | (split <;> rfl))) (by simp only [fnC_size, cells_size, vecC_size, tabC_size, planeC_size]) (by simp only [fnC_size, cells_size, vecC_size, tabC_size, planeC_size] <;> omega) (splice_whole _ _ (by simp only [fnC_size, cells_size, vecC_size, tabC_size, planeC_size]))) ?_
          intro _ w' a hM hF
          change Mem w w' [some (b1, algC (p : Int) (n : Int) T f), some (b2, algC (p : Int) (m : Int) U h), some (b3, algC 0 0 (fun _ _ _ => 0) (fun _ => 0)), some (b5, algC (p : Int) ((((n) * (m)) : Nat) : Int) (tenT p m ((n) * (m)) T U (gi) (gj) 0) (tenV p m ((n) * (m)) f h)), some (b8, vecC (T ((gi) / (m)) ((gj) / (m)))), none] [] at hM
          refine wpList_nil ?_
          refine tN ?_
          refine sq ?_
          refine c_par 13 [5] [.val (.int .i64 (((gi : Nat) : Int))), .val (ptr b2 (0 + 1)), .val (.int .i64 (((m : Nat) : Int))), .val (.int .i64 ((((gi) % (m) : Nat) : Int))), .val (.int .i64 (((gj : Nat) : Int))), .val (ptr b2 (0 + 1)), .val (.int .i64 (((m : Nat) : Int))), .val (.int .i64 ((((gj) % (m) : Nat) : Int))), .val (ptr b2 (0 + 2)), .val (ptr b2 (0 + 2 + ((gi) % (m)) * 36)), .val (ptr b2 (0 + 2 + ((gi) % (m)) * 36 + ((gj) % (m)) * 6)), .val (.agg (vecC (U ((gi) % (m)) ((gj) % (m))))), .own 5 (fnC 6 (fun _ => .int .u8 (0))) (fun b => ptr b 0)] hmix rfl hF rfl hM ⟨fun a w g hF hS hd => by exact par_val hS rfl (g_move hF rfl), fun a w g hF hS hd => by exact par_val hS rfl (g_fieldAddr ty_fo_32_1 hF rfl), fun a w g hF hS hd => by have hF := hF.ext1 62 (hd 1 rfl rfl); have hM := hS.mem rfl; exact par_val hS rfl (g_load ty_on_2 hF rfl (hM.row 1 rfl) (algC_n (by omega))), fun a w g hF hS hd => by have hF := hF.ext1 61 (hd 0 rfl rfl); have hF := hF.ext1 63 (hd 2 rfl rfl); exact par_val hS rfl (g_rem hF rfl rfl (by omega) (rem_nat (gi) (m))), fun a w g hF hS hd => by exact par_val hS rfl (g_move hF rfl), fun a w g hF hS hd => by exact par_val hS rfl (g_fieldAddr ty_fo_32_1 hF rfl), fun a w g hF hS hd => by have hF := hF.ext1 66 (hd 5 rfl rfl); have hM := hS.mem rfl; exact par_val hS rfl (g_load ty_on_2 hF rfl (hM.row 1 rfl) (algC_n (by omega))), fun a w g hF hS hd => by have hF := hF.ext1 65 (hd 4 rfl rfl); have hF := hF.ext1 67 (hd 6 rfl rfl); exact par_val hS rfl (g_rem hF rfl rfl (by omega) (rem_nat (gj) (m))), fun a w g hF hS hd => by exact par_val hS rfl (g_fieldAddr ty_fo_32_2 hF rfl), fun a w g hF hS hd => by have hF := hF.ext1 64 (hd 3 rfl rfl); have hF := hF.ext1 69 (hd 8 rfl rfl); exact par_val hS rfl (g_indexAddr ty_ar_24 hF rfl rfl rfl (by omega)), fun a w g hF hS hd => by have hF := hF.ext1 68 (hd 7 rfl rfl); have hF := hF.ext1 70 (hd 9 rfl rfl); exact par_val hS rfl (g_indexAddr ty_ar_23 hF rfl rfl rfl (by omega)), fun a w g hF hS hd => by have hF := hF.ext1 71 (hd 10 rfl rfl); have hM := hS.mem rfl; exact par_val hS rfl (g_loadAgg ty_ag_22 hF rfl (hM.row 1 rfl) (by simp only [fnC_size, cells_size, vecC_size, tabC_size, planeC_size] <;> omega) (algC_row ((gi) % (m)) ((gj) % (m)) (by omega) (by omega) (by omega) (by omega))), fun a w g hF hS hd => by exact par_own (by repeat constructor) hS rfl rfl rfl rfl (d_alloc 5 hS.1 ty_ze_22), trivial⟩ ?_
          intro a w' L hF hS hq
          have hF := hF.ext1 61 (hq 0 rfl rfl)
          have hF := hF.ext1 62 (hq 1 rfl rfl)
          have hF := hF.ext1 63 (hq 2 rfl rfl)
          have hF := hF.ext1 64 (hq 3 rfl rfl)
          have hF := hF.ext1 65 (hq 4 rfl rfl)
          have hF := hF.ext1 66 (hq 5 rfl rfl)
          have hF := hF.ext1 67 (hq 6 rfl rfl)
          have hF := hF.ext1 68 (hq 7 rfl rfl)
          have hF := hF.ext1 69 (hq 8 rfl rfl)
          have hF := hF.ext1 70 (hq 9 rfl rfl)
          have hF := hF.ext1 71 (hq 10 rfl rfl)
          have hF := hF.ext1 72 (hq 11 rfl rfl)
          obtain ⟨hM, hL⟩ := hS
          obtain ⟨b9, hptr, hkk⟩ := hq 12 rfl rfl
          have hF := hF.ext1 12 hptr
          have hL := hL.take hkk
          obtain rfl := hL.eq
          change Mem w w' [some (b1, algC (p : Int) (n : Int) T f), some (b2, algC (p : Int) (m : Int) U h), some (b3, algC 0 0 (fun _ _ _ => 0) (fun _ => 0)), some (b5, algC (p : Int) ((((n) * (m)) : Nat) : Int) (tenT p m ((n) * (m)) T U (gi) (gj) 0) (tenV p m ((n) * (m)) f h)), some (b8, vecC (T ((gi) / (m)) ((gj) / (m)))), some (b9, fnC 6 (fun _ => .int .u8 (0)))] [] at hM
          change wpList Try.prog _ _ [_] _ _
          refine stN hF (d_storeAgg 5 hM rfl ty_sz_22 hF rfl rfl (by first | exact vecC_one | exact cells_one | (refine fnC_one fun _ _ => ?_; first | rfl | (split <;> rfl))) (by simp only [fnC_size, cells_size, vecC_size, tabC_size, planeC_size]) (by simp only [fnC_size, cells_size, vecC_size, tabC_size, planeC_size] <;> omega) (splice_whole _ _ (by simp only [fnC_size, cells_size, vecC_size, tabC_size, planeC_size]))) ?_
          intro _ w' a hM hF
          change Mem w w' [some (b1, algC (p : Int) (n : Int) T f), some (b2, algC (p : Int) (m : Int) U h), some (b3, algC 0 0 (fun _ _ _ => 0) (fun _ => 0)), some (b5, algC (p : Int) ((((n) * (m)) : Nat) : Int) (tenT p m ((n) * (m)) T U (gi) (gj) 0) (tenV p m ((n) * (m)) f h)), some (b8, vecC (T ((gi) / (m)) ((gj) / (m)))), some (b9, vecC (U ((gi) % (m)) ((gj) % (m))))] [] at hM
          refine wpList_nil ?_
          refine tN ?_
          refine c_par 9 [] [.val (.int .i64 (((gi : Nat) : Int))), .val (.int .i64 (((gj : Nat) : Int))), .val (.agg (vecC (T ((gi) / (m)) ((gj) / (m))))), .val (.agg (vecC (U ((gi) % (m)) ((gj) % (m))))), .val (.int .i64 ((((n) * (m) : Nat) : Int))), .val (.agg (algC (p : Int) (m : Int) U h)), .val (.agg (vecC (tenV p m ((n) * (m)) ((T ((gi) / (m)) ((gj) / (m)))) ((U ((gi) % (m)) ((gj) % (m))))))), .val (ptr b5 (0 + 2)), .val (ptr b5 (0 + 2 + (gi) * 36))] hmix rfl hF rfl hM ⟨fun a w g hF hS hd => by exact par_val hS rfl (g_move hF rfl), fun a w g hF hS hd => by exact par_val hS rfl (g_move hF rfl), fun a w g hF hS hd => by have hM := hS.mem rfl; exact par_val hS rfl (g_loadAgg ty_ag_22 hF rfl (hM.row 4 rfl) (by simp only [fnC_size, cells_size, vecC_size, tabC_size, planeC_size] <;> omega) (whole (by simp only [fnC_size, cells_size, vecC_size, tabC_size, planeC_size]))), fun a w g hF hS hd => by have hM := hS.mem rfl; exact par_val hS rfl (g_loadAgg ty_ag_22 hF rfl (hM.row 5 rfl) (by simp only [fnC_size, cells_size, vecC_size, tabC_size, planeC_size] <;> omega) (whole (by simp only [fnC_size, cells_size, vecC_size, tabC_size, planeC_size]))), fun a w g hF hS hd => by exact par_val hS rfl (g_move hF rfl), fun a w g hF hS hd => by have hM := hS.mem rfl; exact par_val hS rfl (g_loadAgg ty_ag_32 hF rfl (hM.row 1 rfl) (by simp only [fnC_size, cells_size, vecC_size, tabC_size, planeC_size] <;> omega) (whole cells_size)), fun a w g hF hS hd => by have hF := hF.ext1 75 (hd 2 rfl rfl); have hF := hF.ext1 76 (hd 3 rfl rfl); have hF := hF.ext1 77 (hd 4 rfl rfl); have hF := hF.ext1 78 (hd 5 rfl rfl); exact par_call (by repeat constructor) hS rfl (d_call Try.call66 hF (.cons rfl (.cons rfl (.cons rfl (.cons rfl .nil)))) (tensorVector_ok p m ((n) * (m)) ((T ((gi) / (m)) ((gj) / (m)))) ((U ((gi) % (m)) ((gj) % (m)))) U h _ hp hp2 hm0 hm6 (by omega) (fun _ => by first | exact hf _ | exact hT _ _ _) (fun _ => by first | exact hh _ | exact hU _ _ _))), fun a w g hF hS hd => by exact par_val hS rfl (g_fieldAddr ty_fo_32_2 hF rfl), fun a w g hF hS hd => by have hF := hF.ext1 73 (hd 0 rfl rfl); have hF := hF.ext1 80 (hd 7 rfl rfl); exact par_val hS rfl (g_indexAddr ty_ar_24 hF rfl rfl rfl (by omega)), trivial⟩ ?_
          intro a w' L hF hS hq
          have hF := hF.ext1 73 (hq 0 rfl rfl)
          have hF := hF.ext1 74 (hq 1 rfl rfl)
          have hF := hF.ext1 75 (hq 2 rfl rfl)
          have hF := hF.ext1 76 (hq 3 rfl rfl)
          have hF := hF.ext1 77 (hq 4 rfl rfl)
          have hF := hF.ext1 78 (hq 5 rfl rfl)
          have hF := hF.ext1 79 (hq 6 rfl rfl)
          have hF := hF.ext1 80 (hq 7 rfl rfl)
          have hF := hF.ext1 81 (hq 8 rfl rfl)
          have hM := hS.mem rfl
          change wpList Try.prog _ _ [_, _] _ _
          refine st hF (g_indexAddr ty_ar_23 hF rfl rfl rfl (by omega)) rfl fun a hF => ?_
          refine stN hF (d_storeAgg 3 hM rfl ty_sz_22 hF rfl rfl (by first | exact vecC_one | exact cells_one | (refine fnC_one fun _ _ => ?_; first | rfl | (split <;> rfl))) (by simp only [fnC_size, cells_size, vecC_size, tabC_size, planeC_size]) (by simp only [fnC_size, cells_size, vecC_size, tabC_size, planeC_size] <;> omega) (algC_putRow (gi) (gj) (by omega) (by omega) (by omega))) ?_
          intro _ w' a hM hF
          change Mem w w' [some (b1, algC (p : Int) (n : Int) T f), some (b2, algC (p : Int) (m : Int) U h), some (b3, algC 0 0 (fun _ _ _ => 0) (fun _ => 0)), some (b5, algC (p : Int) ((((n) * (m)) : Nat) : Int) (fun i j k => if i = gi ∧ j = gj then ((tenV p m ((n) * (m)) ((T ((gi) / (m)) ((gj) / (m)))) ((U ((gi) % (m)) ((gj) % (m)))))) k else ((tenT p m ((n) * (m)) T U (gi) (gj) 0)) i j k) (tenV p m ((n) * (m)) f h)), some (b8, vecC (T ((gi) / (m)) ((gj) / (m)))), some (b9, vecC (U ((gi) % (m)) ((gj) % (m))))] [] at hM
          refine wpList_nil ?_
          refine iN ?_
          refine tN ?_
          refine wp_region_lit ?_
          refine st hF (g_add hF rfl rfl (add_nat (gj) (1) (by omega))) rfl fun a hF => st hF (g_move hF rfl) rfl fun a hF => ?_
          refine wpList_nil ?_
          refine tN ?_
          have hM := hM.drop 4
          have hM := hM.drop 5
          refine ⟨gj + 1, ⟨by omega, trivial, hF.sub _ (by repeat' constructor), ?_⟩, by omega⟩
          exact hM.rowc 3 rfl (algC_congr fun i _ j _ k _ => tenT_row (by omega) (by omega))
        ·
          obtain rfl : ((n) * (m)) = gj := by omega
          refine wp_exit ?_
          refine tX ?_
          refine tX ?_
          refine ib_same ?_
          refine iN ?_
          refine tN ?_
          refine wp_region_lit ?_
          refine st hF (g_add hF rfl rfl (add_nat (gi) (1) (by omega))) rfl fun a hF => st hF (g_move hF rfl) rfl fun a hF => ?_
          refine wpList_nil ?_
          refine tN ?_
          refine ⟨gi + 1, ⟨by omega, trivial, hF.sub _ (by repeat' constructor), ?_⟩, by omega⟩
          exact hM.cast (by rw [tenT_i])
    ·
      obtain rfl : ((n) * (m)) = gi := by omega
      refine wp_exit ?_
      refine tX ?_
      refine tX ?_
      refine ib_same ?_
      refine tN ?_
      refine sq ?_
      refine wp_region_lit ?_
      refine st hF (g_loadAgg ty_ag_32 hF rfl (hM.row 3 rfl) (by simp only [fnC_size, cells_size, vecC_size, tabC_size, planeC_size] <;> omega) (whole cells_size)) rfl fun a hF => ?_
      refine stN hF (d_storeAgg 2 hM rfl ty_sz_32 hF rfl rfl (by first | exact vecC_one | exact cells_one | (refine fnC_one fun _ _ => ?_; first | rfl | (split <;> rfl))) (by simp only [fnC_size, cells_size, vecC_size, tabC_size, planeC_size]) (by simp only [fnC_size, cells_size, vecC_size, tabC_size, planeC_size] <;> omega) (splice_whole _ _ (by simp only [fnC_size, cells_size, vecC_size, tabC_size, planeC_size]))) ?_
      intro _ w' a hM hF
      change Mem w w' [some (b1, algC (p : Int) (n : Int) T f), some (b2, algC (p : Int) (m : Int) U h), some (b3, algC (p : Int) ((((n) * (m)) : Nat) : Int) (tenT p m ((n) * (m)) T U ((((n) * (m)))) (0) 0) (tenV p m ((n) * (m)) f h)), some (b5, algC (p : Int) ((((n) * (m)) : Nat) : Int) (tenT p m ((n) * (m)) T U ((((n) * (m)))) (0) 0) (tenV p m ((n) * (m)) f h)), none, none] [] at hM
      refine st hF (g_assign hF rfl) rfl fun a hF => ?_
      refine wpList_nil ?_
      refine tN ?_
      refine wp_ret ?_
      refine fin2 rfl hF.defers (res_agg ty_ag_32 hF rfl (hM.row 2 rfl) (by simp only [fnC_size, cells_size, vecC_size, tabC_size, planeC_size])) (res_tmp hF rfl) ⟨_, rfl, hM.below, ?_⟩
      show _ = _
      rfl

theorem law_TensorAlgebrasE (p n q m : Int) (T U : Nat → Nat → Nat → Nat) (f h : Nat → Nat) (w : World) (hT : ∀ i j k, T i j k ≤ 255) (hf : ∀ i, f i ≤ 255) (hU : ∀ i j k, U i j k ≤ 255) (hh : ∀ i, h i ≤ 255) (hco : (if AlgP p n T f ∧ AlgP q m U h then (if p = q then (if (IntKind.i64.wrap ((n) * (m))) ≤ 6 then (0 : Int) else 3) else 2) else 1) ≠ 0) :
    CallsR Try.prog 5 #[.agg (algC p n T f), .agg (algC q m U h)] w (fun res _ => res = .bool true) := by
  refine calls_fr [.agg (algC p n T f), .agg (algC q m U h)] Try.func5 rfl Try.ntmps5 rfl fun a hF => ?_
  have hM : Mem w w [none, none, none, none] [] := MemX.start w 4
  change Fr 34 a [(0, .agg (algC p n T f)), (1, .agg (algC q m U h))] at hF
  have eqlaw : (0 : Int) = (0 : Int) ∧ (0 : Int) = (0 : Int) ∧ eqT (fun _ _ _ => 0) (fun _ _ _ => 0) ∧ eqV 6 (fun _ => 0) (fun _ => 0) := ⟨rfl, rfl, fun _ _ _ _ _ _ => rfl, fun _ _ => rfl⟩
  refine sq ?_
  refine wp_region_lit ?_
  refine stR hF (d_box 0 hM hF rfl) rfl ?_
  rintro _ w' a ⟨b1, rfl, hM, -⟩ hF
  change Mem w w' [some (b1, algC p n T f), none, none, none] [] at hM
  refine stR hF (d_box 1 hM hF rfl) rfl ?_
  rintro _ w' a ⟨b2, rfl, hM, -⟩ hF
  change Mem w w' [some (b1, algC p n T f), some (b2, algC q m U h), none, none] [] at hM
  refine st hF (g_assign hF rfl) rfl fun a hF => ?_
  refine wpList_nil ?_
  refine tN ?_
  refine sq ?_
  refine c_drawG (S := ParG [] w [] [2] [some (b1, algC p n T f), some (b2, algC q m U h), none, none] 2 (algC 0 0 (fun _ _ _ => 0) (fun _ => 0)) (algC 0 0 (fun _ _ _ => 0) (fun _ => 0))) 10 9 hmix rfl rfl rfl hF rfl (fun j o hj hne => dstAll_spec (s := 9) (i := 0) rfl j o hj (by omega)) [some (b1, algC p n T f), some (b2, algC q m U h), none, none] ⟨⟨hM, Same.refl _ _⟩, fun b cs h => by simp at h⟩ (fun b g w h => ⟨⟨h.1.1.ext (Below.drew (Below.refl _ _)), h.1.2⟩, h.2⟩) (factsG 2 [.val (.agg (algC p n T f)), .val (.agg (algC p n T f)), .val (.agg (algC q m U h)), .val (.agg (algC q m U h)), .val (.tuple #[.agg (algC 0 0 (fun _ _ _ => 0) (fun _ => 0)), .int .i64 ((if AlgP p n T f ∧ AlgP q m U h then (if p = q then (if (IntKind.i64.wrap ((n) * (m))) ≤ 6 then (0 : Int) else 3) else 2) else 1))]), .val (.tuple #[.agg (algC 0 0 (fun _ _ _ => 0) (fun _ => 0)), .int .i64 ((if AlgP p n T f ∧ AlgP q m U h then (if p = q then (if (IntKind.i64.wrap ((n) * (m))) ≤ 6 then (0 : Int) else 3) else 2) else 1))]), .val (.agg (algC 0 0 (fun _ _ _ => 0) (fun _ => 0))), .val (.int .i64 ((if AlgP p n T f ∧ AlgP q m U h then (if p = q then (if (IntKind.i64.wrap ((n) * (m))) ≤ 6 then (0 : Int) else 3) else 2) else 1))), .own 2 (algC 0 0 (fun _ _ _ => 0) (fun _ => 0)) (fun b => ptr b 0), .val undef]) ⟨fun a w2 b g hF hS hb hd => by have hM := hS.1.mem rfl; exact pg_val hS rfl (g_loadAgg ty_ag_26 hF rfl (hM.row 0 rfl) (by simp only [fnC_size, cells_size, vecC_size, tabC_size, planeC_size] <;> omega) (whole cells_size)), fun a w2 b g hF hS hb hd => by have hF := hF.ext1 10 (hd 0 rfl rfl rfl); exact pg_call hS rfl (d_call Try.call17 hF (.cons rfl .nil) (toAlgebra_ok p n T f _)), fun a w2 b g hF hS hb hd => by have hM := hS.1.mem rfl; exact pg_val hS rfl (g_loadAgg ty_ag_26 hF rfl (hM.row 1 rfl) (by simp only [fnC_size, cells_size, vecC_size, tabC_size, planeC_size] <;> omega) (whole cells_size)), fun a w2 b g hF hS hb hd => by have hF := hF.ext1 12 (hd 2 rfl rfl rfl); exact pg_call hS rfl (d_call Try.call17 hF (.cons rfl .nil) (toAlgebra_ok q m U h _)), fun a w2 b g hF hS hb hd => by have hF := hF.ext1 11 (hd 1 rfl rfl rfl); have hF := hF.ext1 13 (hd 3 rfl rfl rfl); exact pg_call hS rfl (d_call Try.call25 hF (.cons rfl (.cons rfl .nil)) (TensorAlgebrasSE p n q m T U f h _ hT hf hU hh hco)), fun a w2 b g hF hS hb hd => by have hF := hF.ext1 14 (hd 4 rfl rfl rfl); exact pg_val hS rfl (g_move hF rfl), fun a w2 b g hF hS hb hd => by have hF := hF.ext1 9 (hd 5 rfl rfl rfl); exact pg_val hS rfl (g_extract hF rfl rfl), fun a w2 b g hF hS hb hd => by have hF := hF.ext1 9 (hd 5 rfl rfl rfl); exact pg_val hS rfl (g_extract hF rfl rfl), fun a w2 b g hF hS hb hd => by obtain rfl := hb rfl; exact pg_own hS rfl rfl rfl rfl (d_alloc 2 hS.1.1 ty_ze_32), fun a w2 g hF hS hd => by have hF := hF.ext1 15 (hd 6 rfl rfl rfl); exact pg_store (ia := 8) hS rfl rfl rfl (hd 8 rfl rfl rfl) (fun b hptr hM hL => by have hF := hF.ext1 5 hptr; exact d_storeAgg 2 hM hL ty_sz_32 hF rfl rfl (by first | exact vecC_one | exact cells_one | (refine fnC_one fun _ _ => ?_; first | rfl | (split <;> rfl))) (by simp only [fnC_size, cells_size, vecC_size, tabC_size, planeC_size]) (by simp only [fnC_size, cells_size, vecC_size, tabC_size, planeC_size] <;> omega) (splice_whole _ _ (by simp only [fnC_size, cells_size, vecC_size, tabC_size, planeC_size]))), trivial⟩ ?_
  intro a w' L hF hS hq
  have hF := hF.ext1 10 (hq 0 rfl rfl rfl)
  have hF := hF.ext1 11 (hq 1 rfl rfl rfl)
  have hF := hF.ext1 12 (hq 2 rfl rfl rfl)
  have hF := hF.ext1 13 (hq 3 rfl rfl rfl)
  have hF := hF.ext1 14 (hq 4 rfl rfl rfl)
  have hF := hF.ext1 9 (hq 5 rfl rfl rfl)
  have hF := hF.ext1 15 (hq 6 rfl rfl rfl)
  have hF := hF.ext1 16 (hq 7 rfl rfl rfl)
  obtain ⟨b3, cs4, hptr, hkk⟩ := hq 8 rfl rfl rfl
  obtain rfl : cs4 = algC 0 0 (fun _ _ _ => 0) (fun _ => 0) := hS.2 _ _ hkk
  have hF := hF.ext1 5 hptr
  obtain ⟨⟨hM, hL⟩, -⟩ := hS
  have hL := hL.take hkk
  obtain rfl := hL.eq
  change Mem w w' [some (b1, algC p n T f), some (b2, algC q m U h), some (b3, algC 0 0 (fun _ _ _ => 0) (fun _ => 0)), none] [] at hM
  change wpList Try.prog _ _ [_] _ _
  refine st hF (g_assign hF rfl) rfl fun a hF => ?_
  refine wpList_nil ?_
  refine tN ?_
  refine sq ?_
  refine c_drawG (S := ParG [] w [] [3] [some (b1, algC p n T f), some (b2, algC q m U h), some (b3, algC 0 0 (fun _ _ _ => 0) (fun _ => 0)), none] 3 (algC 0 0 (fun _ _ _ => 0) (fun _ => 0)) (algC 0 0 (fun _ _ _ => 0) (fun _ => 0))) 10 9 hmix rfl rfl rfl hF rfl (fun j o hj hne => dstAll_spec (s := 9) (i := 0) rfl j o hj (by omega)) [some (b1, algC p n T f), some (b2, algC q m U h), some (b3, algC 0 0 (fun _ _ _ => 0) (fun _ => 0)), none] ⟨⟨hM, Same.refl _ _⟩, fun b cs h => by simp at h⟩ (fun b g w h => ⟨⟨h.1.1.ext (Below.drew (Below.refl _ _)), h.1.2⟩, h.2⟩) (factsG 3 [.val (.agg (algC p n T f)), .val (.agg (algC p n T f)), .val (.agg (algC q m U h)), .val (.agg (algC q m U h)), .val (.tuple #[.agg (algC 0 0 (fun _ _ _ => 0) (fun _ => 0)), .int .i64 ((if AlgP p n T f ∧ AlgP q m U h then (if p = q then (if (IntKind.i64.wrap ((n) * (m))) ≤ 6 then (0 : Int) else 3) else 2) else 1))]), .val (.tuple #[.agg (algC 0 0 (fun _ _ _ => 0) (fun _ => 0)), .int .i64 ((if AlgP p n T f ∧ AlgP q m U h then (if p = q then (if (IntKind.i64.wrap ((n) * (m))) ≤ 6 then (0 : Int) else 3) else 2) else 1))]), .val (.agg (algC 0 0 (fun _ _ _ => 0) (fun _ => 0))), .val (.int .i64 ((if AlgP p n T f ∧ AlgP q m U h then (if p = q then (if (IntKind.i64.wrap ((n) * (m))) ≤ 6 then (0 : Int) else 3) else 2) else 1))), .own 3 (algC 0 0 (fun _ _ _ => 0) (fun _ => 0)) (fun b => ptr b 0), .val undef]) ⟨fun a w2 b g hF hS hb hd => by have hM := hS.1.mem rfl; exact pg_val hS rfl (g_loadAgg ty_ag_26 hF rfl (hM.row 0 rfl) (by simp only [fnC_size, cells_size, vecC_size, tabC_size, planeC_size] <;> omega) (whole cells_size)), fun a w2 b g hF hS hb hd => by have hF := hF.ext1 18 (hd 0 rfl rfl rfl); exact pg_call hS rfl (d_call Try.call17 hF (.cons rfl .nil) (toAlgebra_ok p n T f _)), fun a w2 b g hF hS hb hd => by have hM := hS.1.mem rfl; exact pg_val hS rfl (g_loadAgg ty_ag_26 hF rfl (hM.row 1 rfl) (by simp only [fnC_size, cells_size, vecC_size, tabC_size, planeC_size] <;> omega) (whole cells_size)), fun a w2 b g hF hS hb hd => by have hF := hF.ext1 20 (hd 2 rfl rfl rfl); exact pg_call hS rfl (d_call Try.call17 hF (.cons rfl .nil) (toAlgebra_ok q m U h _)), fun a w2 b g hF hS hb hd => by have hF := hF.ext1 19 (hd 1 rfl rfl rfl); have hF := hF.ext1 21 (hd 3 rfl rfl rfl); exact pg_call hS rfl (d_call Try.call26 hF (.cons rfl (.cons rfl .nil)) (TensorAlgebrasIE p n q m T U f h _ hT hf hU hh hco)), fun a w2 b g hF hS hb hd => by have hF := hF.ext1 22 (hd 4 rfl rfl rfl); exact pg_val hS rfl (g_move hF rfl), fun a w2 b g hF hS hb hd => by have hF := hF.ext1 17 (hd 5 rfl rfl rfl); exact pg_val hS rfl (g_extract hF rfl rfl), fun a w2 b g hF hS hb hd => by have hF := hF.ext1 17 (hd 5 rfl rfl rfl); exact pg_val hS rfl (g_extract hF rfl rfl), fun a w2 b g hF hS hb hd => by obtain rfl := hb rfl; exact pg_own hS rfl rfl rfl rfl (d_alloc 3 hS.1.1 ty_ze_32), fun a w2 g hF hS hd => by have hF := hF.ext1 23 (hd 6 rfl rfl rfl); exact pg_store (ia := 8) hS rfl rfl rfl (hd 8 rfl rfl rfl) (fun b hptr hM hL => by have hF := hF.ext1 7 hptr; exact d_storeAgg 3 hM hL ty_sz_32 hF rfl rfl (by first | exact vecC_one | exact cells_one | (refine fnC_one fun _ _ => ?_; first | rfl | (split <;> rfl))) (by simp only [fnC_size, cells_size, vecC_size, tabC_size, planeC_size]) (by simp only [fnC_size, cells_size, vecC_size, tabC_size, planeC_size] <;> omega) (splice_whole _ _ (by simp only [fnC_size, cells_size, vecC_size, tabC_size, planeC_size]))), trivial⟩ ?_
  intro a w' L hF hS hq
  have hF := hF.ext1 18 (hq 0 rfl rfl rfl)
  have hF := hF.ext1 19 (hq 1 rfl rfl rfl)
  have hF := hF.ext1 20 (hq 2 rfl rfl rfl)
  have hF := hF.ext1 21 (hq 3 rfl rfl rfl)
  have hF := hF.ext1 22 (hq 4 rfl rfl rfl)
  have hF := hF.ext1 17 (hq 5 rfl rfl rfl)
  have hF := hF.ext1 23 (hq 6 rfl rfl rfl)
  have hF := hF.ext1 24 (hq 7 rfl rfl rfl)
  obtain ⟨b5, cs6, hptr, hkk⟩ := hq 8 rfl rfl rfl
  obtain rfl : cs6 = algC 0 0 (fun _ _ _ => 0) (fun _ => 0) := hS.2 _ _ hkk
  have hF := hF.ext1 7 hptr
  obtain ⟨⟨hM, hL⟩, -⟩ := hS
  have hL := hL.take hkk
  obtain rfl := hL.eq
  change Mem w w' [some (b1, algC p n T f), some (b2, algC q m U h), some (b3, algC 0 0 (fun _ _ _ => 0) (fun _ => 0)), some (b5, algC 0 0 (fun _ _ _ => 0) (fun _ => 0))] [] at hM
  change wpList Try.prog _ _ [_] _ _
  refine st hF (g_assign hF rfl) rfl fun a hF => ?_
  refine wpList_nil ?_
  refine tN ?_
  refine sq ?_
  refine sq ?_
  refine wp_region_lit ?_
  refine st hF (g_loadAgg ty_ag_32 hF rfl (hM.row 3 rfl) (by simp only [fnC_size, cells_size, vecC_size, tabC_size, planeC_size] <;> omega) (whole cells_size)) rfl fun a hF => st hF (g_loadAgg ty_ag_32 hF rfl (hM.row 2 rfl) (by simp only [fnC_size, cells_size, vecC_size, tabC_size, planeC_size] <;> omega) (whole cells_size)) rfl fun a hF => ?_
  refine stR hF (d_call Try.call24 hF (.cons rfl (.cons rfl .nil)) (eqAlgebra_ok 0 0 0 0 (fun _ _ _ => 0) (fun _ _ _ => 0) (fun _ => 0) (fun _ => 0) _)) rfl ?_
  rintro _ w' a ⟨hx, rfl⟩ hF
  have hM := hM.ext hx
  refine st hF (g_notP hF rfl) rfl fun a hF => st hF (g_move hF rfl) rfl fun a hF => ?_
  by_cases g7 : ¬ ((0 : Int) = (0 : Int) ∧ (0 : Int) = (0 : Int) ∧ eqT (fun _ _ _ => 0) (fun _ _ _ => 0) ∧ eqV 6 (fun _ => 0) (fun _ => 0))
  ·
    first | rw [decide_eq_true g7] at hF | simp only [decide_eq_true g7] at hF
    first | exact absurd rfl g7 | exact absurd eqlaw g7 | (exfalso; omega)
  ·
    first | rw [decide_eq_false g7] at hF | simp only [decide_eq_false g7] at hF
    refine stY hF rfl rfl rfl (g_move hF rfl) rfl fun a hF => stY hF rfl rfl rfl (g_move hF rfl) rfl fun a hF => stY hF rfl rfl rfl (g_neq hF rfl rfl) rfl fun a hF => st hF (g_pickF hF rfl rfl) rfl fun a hF => ?_
    refine wpList_nil ?_
    refine tN ?_
    refine c_cond hF rfl (fun h8 => ?_) (fun h8 => ?_)
    ·
      first | exact absurd rfl h8 | exact absurd eqlaw h8 | (exfalso; omega)
    ·
      refine wp_skip ?_
      refine tN ?_
      refine sq ?_
      refine wp_region_lit ?_
      refine st hF (g_assign hF rfl) rfl fun a hF => ?_
      refine wpList_nil ?_
      refine tN ?_
      refine wp_ret ?_
      refine fin1 rfl hF.defers (res_tmp hF rfl) ⟨_, rfl, hM.below, ?_⟩
      show _ = _
      rfl

theorem law_TensorAlgebrasY (p n m : Nat) (T U : Nat → Nat → Nat → Nat) (f h : Nat → Nat) (w : World) (hT : ∀ i j k, T i j k ≤ 255) (hf : ∀ i, f i ≤ 255) (hU : ∀ i j k, U i j k ≤ 255) (hh : ∀ i, h i ≤ 255) (hp : 0 < p) (hp2 : p < 100) (hn0 : 0 < n) (hm0 : 0 < m) (hn6 : n ≤ 6) (hm6 : m ≤ 6) (hnm : (n) * (m) ≤ 6) (h1 : AlgP (p : Int) (n : Int) T f) (h2 : AlgP (p : Int) (m : Int) U h) :
    CallsR Try.prog 5 #[.agg (algC (p : Int) (n : Int) T f), .agg (algC (p : Int) (m : Int) U h)] w (fun res _ => res = .bool true) := by
  refine calls_fr [.agg (algC (p : Int) (n : Int) T f), .agg (algC (p : Int) (m : Int) U h)] Try.func5 rfl Try.ntmps5 rfl fun a hF => ?_
  have hM : Mem w w [none, none, none, none] [] := MemX.start w 4
  change Fr 34 a [(0, .agg (algC (p : Int) (n : Int) T f)), (1, .agg (algC (p : Int) (m : Int) U h))] at hF
  have eqlaw : ((p : Int) : Int) = ((p : Int) : Int) ∧ ((((n) * (m)) : Nat) : Int) = ((((n) * (m)) : Nat) : Int) ∧ eqT (tenT p m ((n) * (m)) T U ((n) * (m)) 0 0) (tenT p m ((n) * (m)) T U ((n) * (m)) 0 0) ∧ eqV 6 (tenV p m ((n) * (m)) f h) (tenV p m ((n) * (m)) f h) := ⟨rfl, rfl, fun _ _ _ _ _ _ => rfl, fun _ _ => rfl⟩
  refine sq ?_
  refine wp_region_lit ?_
  refine stR hF (d_box 0 hM hF rfl) rfl ?_
  rintro _ w' a ⟨b1, rfl, hM, -⟩ hF
  change Mem w w' [some (b1, algC (p : Int) (n : Int) T f), none, none, none] [] at hM
  refine stR hF (d_box 1 hM hF rfl) rfl ?_
  rintro _ w' a ⟨b2, rfl, hM, -⟩ hF
  change Mem w w' [some (b1, algC (p : Int) (n : Int) T f), some (b2, algC (p : Int) (m : Int) U h), none, none] [] at hM
  refine st hF (g_assign hF rfl) rfl fun a hF => ?_
  refine wpList_nil ?_
  refine tN ?_
  refine sq ?_
  refine c_drawG (S := ParG [] w [] [2] [some (b1, algC (p : Int) (n : Int) T f), some (b2, algC (p : Int) (m : Int) U h), none, none] 2 (algC 0 0 (fun _ _ _ => 0) (fun _ => 0)) (algC (p : Int) ((((n) * (m)) : Nat) : Int) (tenT p m ((n) * (m)) T U ((n) * (m)) 0 0) (tenV p m ((n) * (m)) f h))) 10 9 hmix rfl rfl rfl hF rfl (fun j o hj hne => dstAll_spec (s := 9) (i := 0) rfl j o hj (by omega)) [some (b1, algC (p : Int) (n : Int) T f), some (b2, algC (p : Int) (m : Int) U h), none, none] ⟨⟨hM, Same.refl _ _⟩, fun b cs h => by simp at h⟩ (fun b g w h => ⟨⟨h.1.1.ext (Below.drew (Below.refl _ _)), h.1.2⟩, h.2⟩) (factsG 2 [.val (.agg (algC (p : Int) (n : Int) T f)), .val (.agg (algC (p : Int) (n : Int) T f)), .val (.agg (algC (p : Int) (m : Int) U h)), .val (.agg (algC (p : Int) (m : Int) U h)), .val (.tuple #[.agg (algC (p : Int) ((((n) * (m)) : Nat) : Int) (tenT p m ((n) * (m)) T U ((n) * (m)) 0 0) (tenV p m ((n) * (m)) f h)), .int .i64 (0)]), .val (.tuple #[.agg (algC (p : Int) ((((n) * (m)) : Nat) : Int) (tenT p m ((n) * (m)) T U ((n) * (m)) 0 0) (tenV p m ((n) * (m)) f h)), .int .i64 (0)]), .val (.agg (algC (p : Int) ((((n) * (m)) : Nat) : Int) (tenT p m ((n) * (m)) T U ((n) * (m)) 0 0) (tenV p m ((n) * (m)) f h))), .val (.int .i64 (0)), .own 2 (algC 0 0 (fun _ _ _ => 0) (fun _ => 0)) (fun b => ptr b 0), .val undef]) ⟨fun a w2 b g hF hS hb hd => by have hM := hS.1.mem rfl; exact pg_val hS rfl (g_loadAgg ty_ag_26 hF rfl (hM.row 0 rfl) (by simp only [fnC_size, cells_size, vecC_size, tabC_size, planeC_size] <;> omega) (whole cells_size)), fun a w2 b g hF hS hb hd => by have hF := hF.ext1 10 (hd 0 rfl rfl rfl); exact pg_call hS rfl (d_call Try.call17 hF (.cons rfl .nil) (toAlgebra_ok (p : Int) (n : Int) T f _)), fun a w2 b g hF hS hb hd => by have hM := hS.1.mem rfl; exact pg_val hS rfl (g_loadAgg ty_ag_26 hF rfl (hM.row 1 rfl) (by simp only [fnC_size, cells_size, vecC_size, tabC_size, planeC_size] <;> omega) (whole cells_size)), fun a w2 b g hF hS hb hd => by have hF := hF.ext1 12 (hd 2 rfl rfl rfl); exact pg_call hS rfl (d_call Try.call17 hF (.cons rfl .nil) (toAlgebra_ok (p : Int) (m : Int) U h _)), fun a w2 b g hF hS hb hd => by have hF := hF.ext1 11 (hd 1 rfl rfl rfl); have hF := hF.ext1 13 (hd 3 rfl rfl rfl); exact pg_call hS rfl (d_call Try.call25 hF (.cons rfl (.cons rfl .nil)) (TensorAlgebrasSY p n m T U f h _ hT hf hU hh hp hp2 hn0 hm0 hn6 hm6 hnm h1 h2)), fun a w2 b g hF hS hb hd => by have hF := hF.ext1 14 (hd 4 rfl rfl rfl); exact pg_val hS rfl (g_move hF rfl), fun a w2 b g hF hS hb hd => by have hF := hF.ext1 9 (hd 5 rfl rfl rfl); exact pg_val hS rfl (g_extract hF rfl rfl), fun a w2 b g hF hS hb hd => by have hF := hF.ext1 9 (hd 5 rfl rfl rfl); exact pg_val hS rfl (g_extract hF rfl rfl), fun a w2 b g hF hS hb hd => by obtain rfl := hb rfl; exact pg_own hS rfl rfl rfl rfl (d_alloc 2 hS.1.1 ty_ze_32), fun a w2 g hF hS hd => by have hF := hF.ext1 15 (hd 6 rfl rfl rfl); exact pg_store (ia := 8) hS rfl rfl rfl (hd 8 rfl rfl rfl) (fun b hptr hM hL => by have hF := hF.ext1 5 hptr; exact d_storeAgg 2 hM hL ty_sz_32 hF rfl rfl (by first | exact vecC_one | exact cells_one | (refine fnC_one fun _ _ => ?_; first | rfl | (split <;> rfl))) (by simp only [fnC_size, cells_size, vecC_size, tabC_size, planeC_size]) (by simp only [fnC_size, cells_size, vecC_size, tabC_size, planeC_size] <;> omega) (splice_whole _ _ (by simp only [fnC_size, cells_size, vecC_size, tabC_size, planeC_size]))), trivial⟩ ?_
  intro a w' L hF hS hq
  have hF := hF.ext1 10 (hq 0 rfl rfl rfl)
  have hF := hF.ext1 11 (hq 1 rfl rfl rfl)
  have hF := hF.ext1 12 (hq 2 rfl rfl rfl)
  have hF := hF.ext1 13 (hq 3 rfl rfl rfl)
  have hF := hF.ext1 14 (hq 4 rfl rfl rfl)
  have hF := hF.ext1 9 (hq 5 rfl rfl rfl)
  have hF := hF.ext1 15 (hq 6 rfl rfl rfl)
  have hF := hF.ext1 16 (hq 7 rfl rfl rfl)
  obtain ⟨b3, cs4, hptr, hkk⟩ := hq 8 rfl rfl rfl
  obtain rfl : cs4 = algC (p : Int) ((((n) * (m)) : Nat) : Int) (tenT p m ((n) * (m)) T U ((n) * (m)) 0 0) (tenV p m ((n) * (m)) f h) := hS.2 _ _ hkk
  have hF := hF.ext1 5 hptr
  obtain ⟨⟨hM, hL⟩, -⟩ := hS
  have hL := hL.take hkk
  obtain rfl := hL.eq
  change Mem w w' [some (b1, algC (p : Int) (n : Int) T f), some (b2, algC (p : Int) (m : Int) U h), some (b3, algC (p : Int) ((((n) * (m)) : Nat) : Int) (tenT p m ((n) * (m)) T U ((n) * (m)) 0 0) (tenV p m ((n) * (m)) f h)), none] [] at hM
  change wpList Try.prog _ _ [_] _ _
  refine st hF (g_assign hF rfl) rfl fun a hF => ?_
  refine wpList_nil ?_
  refine tN ?_
  refine sq ?_
  refine c_drawG (S := ParG [] w [] [3] [some (b1, algC (p : Int) (n : Int) T f), some (b2, algC (p : Int) (m : Int) U h), some (b3, algC (p : Int) ((((n) * (m)) : Nat) : Int) (tenT p m ((n) * (m)) T U ((n) * (m)) 0 0) (tenV p m ((n) * (m)) f h)), none] 3 (algC 0 0 (fun _ _ _ => 0) (fun _ => 0)) (algC (p : Int) ((((n) * (m)) : Nat) : Int) (tenT p m ((n) * (m)) T U ((n) * (m)) 0 0) (tenV p m ((n) * (m)) f h))) 10 9 hmix rfl rfl rfl hF rfl (fun j o hj hne => dstAll_spec (s := 9) (i := 0) rfl j o hj (by omega)) [some (b1, algC (p : Int) (n : Int) T f), some (b2, algC (p : Int) (m : Int) U h), some (b3, algC (p : Int) ((((n) * (m)) : Nat) : Int) (tenT p m ((n) * (m)) T U ((n) * (m)) 0 0) (tenV p m ((n) * (m)) f h)), none] ⟨⟨hM, Same.refl _ _⟩, fun b cs h => by simp at h⟩ (fun b g w h => ⟨⟨h.1.1.ext (Below.drew (Below.refl _ _)), h.1.2⟩, h.2⟩) (factsG 3 [.val (.agg (algC (p : Int) (n : Int) T f)), .val (.agg (algC (p : Int) (n : Int) T f)), .val (.agg (algC (p : Int) (m : Int) U h)), .val (.agg (algC (p : Int) (m : Int) U h)), .val (.tuple #[.agg (algC (p : Int) ((((n) * (m)) : Nat) : Int) (tenT p m ((n) * (m)) T U ((n) * (m)) 0 0) (tenV p m ((n) * (m)) f h)), .int .i64 (0)]), .val (.tuple #[.agg (algC (p : Int) ((((n) * (m)) : Nat) : Int) (tenT p m ((n) * (m)) T U ((n) * (m)) 0 0) (tenV p m ((n) * (m)) f h)), .int .i64 (0)]), .val (.agg (algC (p : Int) ((((n) * (m)) : Nat) : Int) (tenT p m ((n) * (m)) T U ((n) * (m)) 0 0) (tenV p m ((n) * (m)) f h))), .val (.int .i64 (0)), .own 3 (algC 0 0 (fun _ _ _ => 0) (fun _ => 0)) (fun b => ptr b 0), .val undef]) ⟨fun a w2 b g hF hS hb hd => by have hM := hS.1.mem rfl; exact pg_val hS rfl (g_loadAgg ty_ag_26 hF rfl (hM.row 0 rfl) (by simp only [fnC_size, cells_size, vecC_size, tabC_size, planeC_size] <;> omega) (whole cells_size)), fun a w2 b g hF hS hb hd => by have hF := hF.ext1 18 (hd 0 rfl rfl rfl); exact pg_call hS rfl (d_call Try.call17 hF (.cons rfl .nil) (toAlgebra_ok (p : Int) (n : Int) T f _)), fun a w2 b g hF hS hb hd => by have hM := hS.1.mem rfl; exact pg_val hS rfl (g_loadAgg ty_ag_26 hF rfl (hM.row 1 rfl) (by simp only [fnC_size, cells_size, vecC_size, tabC_size, planeC_size] <;> omega) (whole cells_size)), fun a w2 b g hF hS hb hd => by have hF := hF.ext1 20 (hd 2 rfl rfl rfl); exact pg_call hS rfl (d_call Try.call17 hF (.cons rfl .nil) (toAlgebra_ok (p : Int) (m : Int) U h _)), fun a w2 b g hF hS hb hd => by have hF := hF.ext1 19 (hd 1 rfl rfl rfl); have hF := hF.ext1 21 (hd 3 rfl rfl rfl); exact pg_call hS rfl (d_call Try.call26 hF (.cons rfl (.cons rfl .nil)) (TensorAlgebrasIY p n m T U f h _ hT hf hU hh hp hp2 hn0 hm0 hn6 hm6 hnm h1 h2)), fun a w2 b g hF hS hb hd => by have hF := hF.ext1 22 (hd 4 rfl rfl rfl); exact pg_val hS rfl (g_move hF rfl), fun a w2 b g hF hS hb hd => by have hF := hF.ext1 17 (hd 5 rfl rfl rfl); exact pg_val hS rfl (g_extract hF rfl rfl), fun a w2 b g hF hS hb hd => by have hF := hF.ext1 17 (hd 5 rfl rfl rfl); exact pg_val hS rfl (g_extract hF rfl rfl), fun a w2 b g hF hS hb hd => by obtain rfl := hb rfl; exact pg_own hS rfl rfl rfl rfl (d_alloc 3 hS.1.1 ty_ze_32), fun a w2 g hF hS hd => by have hF := hF.ext1 23 (hd 6 rfl rfl rfl); exact pg_store (ia := 8) hS rfl rfl rfl (hd 8 rfl rfl rfl) (fun b hptr hM hL => by have hF := hF.ext1 7 hptr; exact d_storeAgg 3 hM hL ty_sz_32 hF rfl rfl (by first | exact vecC_one | exact cells_one | (refine fnC_one fun _ _ => ?_; first | rfl | (split <;> rfl))) (by simp only [fnC_size, cells_size, vecC_size, tabC_size, planeC_size]) (by simp only [fnC_size, cells_size, vecC_size, tabC_size, planeC_size] <;> omega) (splice_whole _ _ (by simp only [fnC_size, cells_size, vecC_size, tabC_size, planeC_size]))), trivial⟩ ?_
  intro a w' L hF hS hq
  have hF := hF.ext1 18 (hq 0 rfl rfl rfl)
  have hF := hF.ext1 19 (hq 1 rfl rfl rfl)
  have hF := hF.ext1 20 (hq 2 rfl rfl rfl)
  have hF := hF.ext1 21 (hq 3 rfl rfl rfl)
  have hF := hF.ext1 22 (hq 4 rfl rfl rfl)
  have hF := hF.ext1 17 (hq 5 rfl rfl rfl)
  have hF := hF.ext1 23 (hq 6 rfl rfl rfl)
  have hF := hF.ext1 24 (hq 7 rfl rfl rfl)
  obtain ⟨b5, cs6, hptr, hkk⟩ := hq 8 rfl rfl rfl
  obtain rfl : cs6 = algC (p : Int) ((((n) * (m)) : Nat) : Int) (tenT p m ((n) * (m)) T U ((n) * (m)) 0 0) (tenV p m ((n) * (m)) f h) := hS.2 _ _ hkk
  have hF := hF.ext1 7 hptr
  obtain ⟨⟨hM, hL⟩, -⟩ := hS
  have hL := hL.take hkk
  obtain rfl := hL.eq
  change Mem w w' [some (b1, algC (p : Int) (n : Int) T f), some (b2, algC (p : Int) (m : Int) U h), some (b3, algC (p : Int) ((((n) * (m)) : Nat) : Int) (tenT p m ((n) * (m)) T U ((n) * (m)) 0 0) (tenV p m ((n) * (m)) f h)), some (b5, algC (p : Int) ((((n) * (m)) : Nat) : Int) (tenT p m ((n) * (m)) T U ((n) * (m)) 0 0) (tenV p m ((n) * (m)) f h))] [] at hM
  change wpList Try.prog _ _ [_] _ _
  refine st hF (g_assign hF rfl) rfl fun a hF => ?_
  refine wpList_nil ?_
  refine tN ?_
  refine sq ?_
  refine sq ?_
  refine wp_region_lit ?_
  refine st hF (g_loadAgg ty_ag_32 hF rfl (hM.row 3 rfl) (by simp only [fnC_size, cells_size, vecC_size, tabC_size, planeC_size] <;> omega) (whole cells_size)) rfl fun a hF => st hF (g_loadAgg ty_ag_32 hF rfl (hM.row 2 rfl) (by simp only [fnC_size, cells_size, vecC_size, tabC_size, planeC_size] <;> omega) (whole cells_size)) rfl fun a hF => ?_
  refine stR hF (d_call Try.call24 hF (.cons rfl (.cons rfl .nil)) (eqAlgebra_ok (p : Int) ((((n) * (m)) : Nat) : Int) (p : Int) ((((n) * (m)) : Nat) : Int) (tenT p m ((n) * (m)) T U ((n) * (m)) 0 0) (tenT p m ((n) * (m)) T U ((n) * (m)) 0 0) (tenV p m ((n) * (m)) f h) (tenV p m ((n) * (m)) f h) _)) rfl ?_
  rintro _ w' a ⟨hx, rfl⟩ hF
  have hM := hM.ext hx
  refine st hF (g_notP hF rfl) rfl fun a hF => st hF (g_move hF rfl) rfl fun a hF => ?_
  by_cases g7 : ¬ (((p : Int) : Int) = ((p : Int) : Int) ∧ (((((n) * (m)) : Nat) : Int) : Int) = (((((n) * (m)) : Nat) : Int) : Int) ∧ eqT (tenT p m ((n) * (m)) T U ((n) * (m)) 0 0) (tenT p m ((n) * (m)) T U ((n) * (m)) 0 0) ∧ eqV 6 (tenV p m ((n) * (m)) f h) (tenV p m ((n) * (m)) f h))
  ·
    first | rw [decide_eq_true g7] at hF | simp only [decide_eq_true g7] at hF
    first | exact absurd rfl g7 | exact absurd eqlaw g7 | (exfalso; omega)
  ·
    first | rw [decide_eq_false g7] at hF | simp only [decide_eq_false g7] at hF
    refine stY hF rfl rfl rfl (g_move hF rfl) rfl fun a hF => stY hF rfl rfl rfl (g_move hF rfl) rfl fun a hF => stY hF rfl rfl rfl (g_neq hF rfl rfl) rfl fun a hF => st hF (g_pickF hF rfl rfl) rfl fun a hF => ?_
    refine wpList_nil ?_
    refine tN ?_
    refine c_kF hF rfl (by decide) ?_
    refine wp_skip ?_
    refine tN ?_
    refine sq ?_
    refine wp_region_lit ?_
    refine st hF (g_assign hF rfl) rfl fun a hF => ?_
    refine wpList_nil ?_
    refine tN ?_
    refine wp_ret ?_
    refine fin1 rfl hF.defers (res_tmp hF rfl) ⟨_, rfl, hM.below, ?_⟩
    show _ = _
    rfl

theorem law_TensorAlgebras (p n : Int) (T : Nat → Nat → Nat → Nat) (f : Nat → Nat) (q m : Int) (U : Nat → Nat → Nat → Nat) (h : Nat → Nat) (w : World) (hT : ∀ i j k, T i j k ≤ 255) (hf : ∀ i, f i ≤ 255) (hU : ∀ i j k, U i j k ≤ 255) (hh : ∀ i, h i ≤ 255) : CallsV Try.prog 5 #[.agg (algC p n T f), .agg (algC q m U h)] w (.bool true) := by
  by_cases hA : AlgP p n T f ∧ AlgP q m U h
  · by_cases hq : p = q
    · by_cases hz : IntKind.i64.wrap ((n) * (m)) ≤ 6
      · subst hq
        have hs := hA.1.1
        have hs2 := hA.2.1
        have hp0 := primeP_pos hs.1
        have hn := hs.2.1
        have hm := hs2.2.1
        have hple := (primeN_of hs.1).le
        have e1 : ((p.toNat : Nat) : Int) = p := by omega
        have e2 : ((n.toNat : Nat) : Int) = n := by omega
        have e3 : ((m.toNat : Nat) : Int) = m := by omega
        have e4 : n * m = ((n.toNat * m.toNat : Nat) : Int) := by rw [Int.natCast_mul, e2, e3]
        have hb : n.toNat * m.toNat ≤ 6 * 6 := Nat.mul_le_mul (by omega) (by omega)
        rw [e4, wrap_i64 (by omega) (by omega)] at hz
        have hy := law_TensorAlgebrasY p.toNat n.toNat m.toNat (trunc n.toNat T) (trunc m.toNat U) f h w (fun i j k => Nat.le_of_lt (Nat.lt_of_lt_of_le (trunc_lt hs i j k) (by omega))) hf (fun i j k => Nat.le_of_lt (Nat.lt_of_lt_of_le (trunc_lt hs2 i j k) (by omega))) hh (by omega) (by omega) (by omega) (by omega) (by omega) (by omega) (by omega) (by rw [e1, e2]; exact ⟨shape_trunc hs, by rw [trunc_idem]; exact hA.1.2⟩) (by rw [e1, e3]; exact ⟨shape_trunc hs2, by rw [trunc_idem]; exact hA.2.2⟩)
        rw [e1, e2, e3, ← algC_trunc hs, ← algC_trunc hs2] at hy
        exact hy
      · exact law_TensorAlgebrasE p n q m T U f h w hT hf hU hh (by rw [if_pos hA, if_pos hq, if_neg hz]; decide)
    · exact law_TensorAlgebrasE p n q m T U f h w hT hf hU hh (by rw [if_pos hA, if_neg hq]; decide)
  · exact law_TensorAlgebrasE p n q m T U f h w hT hf hU hh (by rw [if_neg hA]; decide)

end Go.Proofs.Ytclfbjfgmocbhaa
