/- What functions of the program return, as walks over their operations; no statement of the seat is proved here. -/
import Derived.Test.YthoelkijoenkpaaV2
import Derived.Test.YthoelkijoenkpaaSw10
set_option linter.unusedVariables false
set_option linter.unusedSimpArgs false
namespace Go.Proofs.Ythoelkijoenkpaa
open Go Go.RowKit Go.Sw Go.Ech
open Classical
theorem ty_bsi_22_4 : ∀ (x0 x1 x2 x3 : Int) (w : World), (Instr.buildSlice 22 4 #[(0, .int .i64 x0), (1, .int .i64 x1), (2, .int .i64 x2), (3, .int .i64 x3)]).run Try.prog w = .ok (.slice (some ⟨w.heap.size, 0, none⟩) 4 4) (w.alloc (.cells #[.int .i64 x0, .int .i64 x1, .int .i64 x2, .int .i64 x3] 2)) := by intros; kernel_rfl
def swO (c : Nat) : Nat := if c = 0 then 1 else if c = 1 then 0 else c
def swT (n c : Nat) : Nat := if swC n c then 1 else 0
def swP (n gi gj c : Nat) : Nat := if swC n c ∧ (c / n ^ 3 < gi ∨ (c / n ^ 3 = gi ∧ c / n ^ 2 % n < gj)) then 1 else 0
theorem pm_exp {n c : Nat} {f : Nat → Nat} : Rw.pmF n (2 + 2) swO f c = f ((((0 * n + Rw.digF n 4 c 1) * n + Rw.digF n 4 c 0) * n + Rw.digF n 4 c 2) * n + Rw.digF n 4 c 3) := by
  have h0 : Rw.orgF swO (Rw.digF n 4 c) 4 0 = Rw.digF n 4 c 1 := by simp [Rw.orgF, swO]
  have h1 : Rw.orgF swO (Rw.digF n 4 c) 4 1 = Rw.digF n 4 c 0 := by simp [Rw.orgF, swO]
  have h2 : Rw.orgF swO (Rw.digF n 4 c) 4 2 = Rw.digF n 4 c 2 := by simp [Rw.orgF, swO]
  have h3 : Rw.orgF swO (Rw.digF n 4 c) 4 3 = Rw.digF n 4 c 3 := by simp [Rw.orgF, swO]
  show f (((((0 * n + Rw.orgF swO (Rw.digF n 4 c) 4 0) * n + Rw.orgF swO (Rw.digF n 4 c) 4 1) * n + Rw.orgF swO (Rw.digF n 4 c) 4 2) * n + Rw.orgF swO (Rw.digF n 4 c) 4 3)) = _
  rw [h0, h1, h2, h3]
theorem dg_iff {n a b x y : Nat} (hn : n ≤ 6) (ha : a < n) (hb : b < n) (hx : x < n) (hy : y < n) : (((((0 * n + a) * n + b) * n + x) * n + y) % (n ^ 2 + 1) = 0 ∧ ((((0 * n + a) * n + b) * n + x) * n + y) / (n ^ 2 + 1) < n ^ 2) ↔ b = y ∧ a = x := dg_iff0 ha hb hx hy
theorem pm_sw {n c : Nat} (h0 : 0 < n) (hn : n ≤ 6) : Rw.pmF n (2 + 2) swO (dgF (n ^ 2) (n ^ 2)) c = swT n c := by
  rw [pm_exp]
  have m := fun x => Nat.mod_lt x h0
  have e2 : Rw.digF n 4 c 2 = c / n % n := by unfold Rw.digF; rw [show 4 - 1 - 2 = 1 from rfl, Nat.pow_one]
  have e3 : Rw.digF n 4 c 3 = c % n := by unfold Rw.digF; rw [show 4 - 1 - 3 = 0 from rfl, Nat.pow_zero, Nat.div_one]
  have e0 : Rw.digF n 4 c 0 = c / n ^ 3 % n := rfl
  have e1 : Rw.digF n 4 c 1 = c / n ^ 2 % n := rfl
  have k := dg_iff hn (m (c / n ^ 2)) (m (c / n ^ 3)) (m (c / n)) (m c)
  rw [e0, e1, e2, e3]
  unfold dgF swT
  by_cases h : swC n c
  · rw [if_pos (k.2 h), if_pos h]
  · rw [if_neg (fun q => h (k.1 q)), if_neg h]
theorem sw_step {n gi gj c : Nat} (hn : n ≤ 6) (hi : gi < n) (hj : gj < n) (hc : c < n ^ (2 + 2)) : (if c = ((gi * n + gj) * n + gj) * n + gi then 1 else swP n gi gj c) = swP n gi (gj + 1) c := by
  have k1 : c = ((gi * n + gj) * n + gj) * n + gi → swC n c ∧ c / n ^ 3 = gi ∧ c / n ^ 2 % n = gj := fun e => by
    rw [e]; exact sw_k1 n (by omega) gi hi gj hj
  have k2 : swC n c → c / n ^ 3 = gi → c / n ^ 2 % n = gj → c = ((gi * n + gj) * n + gj) * n + gi := fun h h2 h3 => by
    have q1 := Nat.div_add_mod c n
    have q2 := Nat.div_add_mod (c / n) n
    have q3 := Nat.div_add_mod (c / n / n) n
    have e2 : c / n / n = c / n ^ 2 := by rw [Nat.div_div_eq_div_mul, Nat.pow_two]
    have e3 : c / n ^ 2 / n = c / n ^ 3 := by rw [Nat.div_div_eq_div_mul, ← Nat.pow_succ]
    rw [e2, e3, h2, h3] at q3
    rw [e2, ← q3, ← h.2, h3] at q2
    rw [← q2, ← h.1, h2, Nat.mod_eq_of_lt hi] at q1
    rw [← q1, Nat.mul_comm n (n * (n * gi + gj) + gj), Nat.mul_comm n (n * gi + gj), Nat.mul_comm n gi]
  unfold swP
  by_cases e : c = ((gi * n + gj) * n + gj) * n + gi
  · have h := k1 e
    rw [if_pos e, if_pos ⟨h.1, .inr ⟨h.2.1, by omega⟩⟩]
  · rw [if_neg e]
    by_cases h : swC n c ∧ (c / n ^ 3 < gi ∨ (c / n ^ 3 = gi ∧ c / n ^ 2 % n < gj))
    · rw [if_pos h, if_pos ⟨h.1, by rcases h.2 with q | q; exact .inl q; exact .inr ⟨q.1, by omega⟩⟩]
    · rw [if_neg h, if_neg (fun q => ?_)]
      rcases q.2 with r | r
      · exact h ⟨q.1, .inl r⟩
      · by_cases e2 : c / n ^ 2 % n = gj
        · exact e (k2 q.1 r.1 e2)
        · exact h ⟨q.1, .inr ⟨r.1, by omega⟩⟩
theorem sw_next {n gi c : Nat} (hn : n ≤ 6) (hi : gi < n) (hc : c < n ^ (2 + 2)) : swP n gi n c = swP n (gi + 1) 0 c := by
  unfold swP
  have hm := Nat.mod_lt (c / n ^ 2) (show 0 < n by omega)
  by_cases h : swC n c ∧ (c / n ^ 3 < gi ∨ (c / n ^ 3 = gi ∧ c / n ^ 2 % n < n))
  · rw [if_pos h, if_pos ⟨h.1, .inl (by rcases h.2 with q | q <;> omega)⟩]
  · rw [if_neg h, if_neg (fun q => h ⟨q.1, by rcases q.2 with r | r <;> omega⟩)]
theorem sw_zero {n c : Nat} : swP n 0 0 c = 0 := if_neg (fun h => by rcases h.2 with q | q <;> exact absurd q (by intro z; first | exact Nat.not_lt_zero _ z | exact Nat.not_lt_zero _ z.2))
theorem sw_all {n c : Nat} (h0 : 0 < n) (hc : c < n ^ (2 + 2)) : swP n n 0 c = swT n c := by
  unfold swP swT
  have : c / n ^ 3 < n := by rw [Nat.div_lt_iff_lt_mul (Nat.pow_pos h0)]; rw [show n ^ (2 + 2) = n * n ^ 3 from by rw [show 2 + 2 = 3 + 1 from rfl, Nat.pow_succ, Nat.mul_comm]] at hc; exact hc
  by_cases h : swC n c
  · rw [if_pos ⟨h, .inl this⟩, if_pos h]
  · rw [if_neg (fun q => h q.1), if_neg h]
theorem sw_idx {n gi gj : Nat} (hn : n ≤ 6) (hi : gi < n) (hj : gj < n) : ((gi * n + gj) * n + gj) * n + gi < n ^ (2 + 2) := sw_idx0 n (by omega) gi hi gj hj
theorem wl22 {n : Nat} (h0 : 0 < n) (hn : n ≤ 6) : wl n 2 2 := by
  refine ⟨by omega, by omega, ?_⟩
  rcases (by omega : n = 1 ∨ n = 2 ∨ n = 3 ∨ n = 4 ∨ n = 5 ∨ n = 6) with rfl | rfl | rfl | rfl | rfl | rfl <;> decide

theorem SwapI_A (p n : Int) (w : World) (hA2 : ¬ (primeP p ∧ 1 ≤ n ∧ n ≤ 6)) :
    CallsR Try.prog 6 #[.int .i64 (p), .int .i64 (n)] w (fun res _ => res = .tuple #[.agg (tenC 0 0 0 0 (.slice none 0 0)), .int .i64 2]) := by
  refine calls_fr [.int .i64 (p), .int .i64 (n)] Try.func6 rfl Try.ntmps6 rfl fun a hF => ?_
  have hM : Mem w w [none, none, none] [] := MemX.start w 3
  change Fr 21 a [(0, .int .i64 (p)), (1, .int .i64 (n))] at hF
  have hA : ¬ (primeP p ∧ 1 ≤ n ∧ n ≤ 6 ∧ (0 : Int) ≤ 2 ∧ (2 : Int) ≤ 8) := fun h => hA2 ⟨h.1, h.2.1, h.2.2.1⟩
  refine sq ?_
  refine wp_region_lit ?_
  refine stR hF (d_alloc 0 hM ty_ze_24) rfl ?_
  rintro _ w' a ⟨b1, rfl, hM, -⟩ hF
  change Mem w w' [some (b1, tenC 0 0 0 0 (.slice none 0 0)), none, none] [] at hM
  refine st hF (g_assign hF rfl) rfl fun a hF => ?_
  refine wpList_nil ?_
  refine tN ?_
  refine sq ?_
  refine wp_region_lit ?_
  refine st hF (g_move hF rfl) rfl fun a hF => st hF (g_move hF rfl) rfl fun a hF => ?_
  refine stR hF (d_call Try.call23 hF (.cons rfl (.cons rfl (.cons rfl .nil))) (IdentityTensorIA p n 2 _ hA)) rfl ?_
  rintro _ w' a ⟨hx, rfl⟩ hF
  have hM := hM.ext hx
  refine st hF (g_move hF rfl) rfl fun a hF => st hF (g_extract hF rfl rfl) rfl fun a hF => st hF (g_extract hF rfl rfl) rfl fun a hF => ?_
  refine stR hF (d_alloc 1 hM ty_ze_24) rfl ?_
  rintro _ w' a ⟨b2, rfl, hM, -⟩ hF
  change Mem w w' [some (b1, tenC 0 0 0 0 (.slice none 0 0)), some (b2, tenC 0 0 0 0 (.slice none 0 0)), none] [] at hM
  refine stN hF (d_storeAgg 1 hM rfl ty_sz_24 hF rfl rfl (tenC_one rfl) (by simp only [fnC_size, cells_size, vecC_size, tabC_size, planeC_size, tenC_size, smC_size, numC_size, numI_size]) (by simp only [fnC_size, cells_size, vecC_size, tabC_size, planeC_size, tenC_size, smC_size, numC_size, numI_size] <;> omega) (splice_whole _ _ rfl)) ?_
  intro _ w' a hM hF
  change Mem w w' [some (b1, tenC 0 0 0 0 (.slice none 0 0)), some (b2, tenC 0 0 0 0 (.slice none 0 0)), none] [] at hM
  refine st hF (g_assign hF rfl) rfl fun a hF => ?_
  refine wpList_nil ?_
  refine tN ?_
  refine sq ?_
  refine sq ?_
  refine wp_region_lit ?_
  refine st hF (g_move hF rfl) rfl fun a hF => st hF (g_neq hF rfl rfl) rfl fun a hF => ?_
  refine wpList_nil ?_
  refine tN ?_
  refine c_kT hF rfl (by decide) ?_
  refine sq ?_
  refine wp_region_lit ?_
  refine st hF (g_build0 ty_bu_24) rfl fun a hF => st hF (g_move hF rfl) rfl fun a hF => ?_
  refine stN hF (d_storeAgg 0 hM rfl ty_sz_24 hF rfl rfl (tenC_one rfl) (by simp only [fnC_size, cells_size, vecC_size, tabC_size, planeC_size, tenC_size, smC_size, numC_size, numI_size]) (by simp only [fnC_size, cells_size, vecC_size, tabC_size, planeC_size, tenC_size, smC_size, numC_size, numI_size] <;> omega) (splice_whole _ _ rfl)) ?_
  intro _ w' a hM hF
  change Mem w w' [some (b1, tenC 0 0 0 0 (.slice none 0 0)), some (b2, tenC 0 0 0 0 (.slice none 0 0)), none] [] at hM
  refine st hF (g_assign hF rfl) rfl fun a hF => ?_
  refine wpList_nil ?_
  refine tN ?_
  refine wp_ret ?_
  refine tR ?_
  refine fin2 rfl hF.defers (res_agg ty_ag_24 hF rfl (hM.row 0 rfl) (by simp only [fnC_size, cells_size, vecC_size, tabC_size, planeC_size, tenC_size, smC_size, numC_size, numI_size])) (res_tmp hF rfl) ⟨_, rfl, hM.below, ?_⟩
  show _ = _
  rfl

theorem SwapS_A (p n : Int) (w : World) (hA2 : ¬ (primeP p ∧ 1 ≤ n ∧ n ≤ 6)) :
    CallsR Try.prog 5 #[.int .i64 (p), .int .i64 (n)] w (fun res _ => res = .tuple #[.agg (tenC 0 0 0 0 (.slice none 0 0)), .int .i64 2]) := by
  refine calls_fr [.int .i64 (p), .int .i64 (n)] Try.func5 rfl Try.ntmps5 rfl fun a hF => ?_
  have hM : Mem w w [none, none, none] [] := MemX.start w 3
  change Fr 47 a [(0, .int .i64 (p)), (1, .int .i64 (n))] at hF
  have hA3 := hA2
  refine sq ?_
  refine wp_region_lit ?_
  refine stR hF (d_alloc 0 hM ty_ze_24) rfl ?_
  rintro _ w' a ⟨b1, rfl, hM, -⟩ hF
  change Mem w w' [some (b1, tenC 0 0 0 0 (.slice none 0 0)), none, none] [] at hM
  refine st hF (g_assign hF rfl) rfl fun a hF => ?_
  refine wpList_nil ?_
  refine tN ?_
  refine sq ?_
  refine sq ?_
  refine wp_region_lit ?_
  refine st hF (g_move hF rfl) rfl fun a hF => st hF (g_move hF rfl) rfl fun a hF => ?_
  refine stR hF (d_call Try.call21 hF (.cons rfl (.cons rfl (.cons rfl (.cons rfl .nil)))) (l03Sizes_A (p) (n) (2) (2) _ (by first | exact hA3 | (intro hq; exact hA ⟨hq.1, hq.2.1, hq.2.2, by omega, by omega⟩)))) rfl ?_
  rintro _ w' a ⟨hx, rfl⟩ hF
  have hM := hM.ext hx
  refine st hF (g_assign hF rfl) rfl fun a hF => ?_
  refine wpList_nil ?_
  refine tN ?_
  refine sq ?_
  refine wp_region_lit ?_
  refine st hF (g_move hF rfl) rfl fun a hF => st hF (g_neq hF rfl rfl) rfl fun a hF => ?_
  refine wpList_nil ?_
  refine tN ?_
  refine c_kT hF rfl (by decide) ?_
  refine sq ?_
  refine wp_region_lit ?_
  refine st hF (g_build0 ty_bu_24) rfl fun a hF => st hF (g_move hF rfl) rfl fun a hF => ?_
  refine stN hF (d_storeAgg 0 hM rfl ty_sz_24 hF rfl rfl (tenC_one rfl) (by simp only [fnC_size, cells_size, vecC_size, tabC_size, planeC_size, tenC_size, smC_size, numC_size, numI_size]) (by simp only [fnC_size, cells_size, vecC_size, tabC_size, planeC_size, tenC_size, smC_size, numC_size, numI_size] <;> omega) (splice_whole _ _ rfl)) ?_
  intro _ w' a hM hF
  change Mem w w' [some (b1, tenC 0 0 0 0 (.slice none 0 0)), none, none] [] at hM
  refine st hF (g_assign hF rfl) rfl fun a hF => ?_
  refine wpList_nil ?_
  refine tN ?_
  refine wp_ret ?_
  refine tR ?_
  refine fin2 rfl hF.defers (res_agg ty_ag_24 hF rfl (hM.row 0 rfl) (by simp only [fnC_size, cells_size, vecC_size, tabC_size, planeC_size, tenC_size, smC_size, numC_size, numI_size])) (res_tmp hF rfl) ⟨_, rfl, hM.below, ?_⟩
  show _ = _
  rfl

theorem SwapI_B (p n : Nat) (w : World) (hpP : primeP (p : Int)) (hn0 : 0 < n) (hn : n ≤ 6) :
    CallsR Try.prog 6 #[.int .i64 (((p : Nat) : Int)), .int .i64 (((n : Nat) : Int))] w (fun v w' => TenOut0 w w' (p : Int) (n : Int) (2 : Int) (2 : Int) (n ^ (2 + 2)) (swT n) v) := by
  refine calls_fr [.int .i64 (((p : Nat) : Int)), .int .i64 (((n : Nat) : Int))] Try.func6 rfl Try.ntmps6 rfl fun a hF => ?_
  have hM : Mem w w [none, none, none, none, none] [] := MemX.start w 5
  change Fr 21 a [(0, .int .i64 (((p : Nat) : Int))), (1, .int .i64 (((n : Nat) : Int)))] at hF
  have hw := wl22 hn0 hn
  refine sq ?_
  refine wp_region_lit ?_
  refine stR hF (d_alloc 0 hM ty_ze_24) rfl ?_
  rintro _ w' a ⟨b1, rfl, hM, -⟩ hF
  change Mem w w' [some (b1, tenC 0 0 0 0 (.slice none 0 0)), none, none, none, none] [] at hM
  refine st hF (g_assign hF rfl) rfl fun a hF => ?_
  refine wpList_nil ?_
  refine tN ?_
  refine sq ?_
  refine wp_region_lit ?_
  refine st hF (g_move hF rfl) rfl fun a hF => st hF (g_move hF rfl) rfl fun a hF => ?_
  refine stR hF (d_call Try.call23 hF (.cons rfl (.cons rfl (.cons rfl .nil))) (IdentityTensorIB p n 2 _ hpP hn0 hn hw)) rfl ?_
  rintro _ w' a ⟨hx, b2, rfl, hge, hbk⟩ hF
  have hM := hM.fill hx 1 hbk hge
  change Mem w w' [some (b1, tenC 0 0 0 0 (.slice none 0 0)), some (b2, numC (n ^ (2 + 2)) (dgF (n ^ 2) (n ^ 2))), none, none, none] [] at hM
  refine st hF (g_move hF rfl) rfl fun a hF => st hF (g_extract hF rfl rfl) rfl fun a hF => st hF (g_extract hF rfl rfl) rfl fun a hF => ?_
  refine stR hF (d_alloc 2 hM ty_ze_24) rfl ?_
  rintro _ w' a ⟨b3, rfl, hM, -⟩ hF
  change Mem w w' [some (b1, tenC 0 0 0 0 (.slice none 0 0)), some (b2, numC (n ^ (2 + 2)) (dgF (n ^ 2) (n ^ 2))), some (b3, tenC 0 0 0 0 (.slice none 0 0)), none, none] [] at hM
  refine stN hF (d_storeAgg 2 hM rfl ty_sz_24 hF rfl rfl (tenC_one rfl) (by simp only [fnC_size, cells_size, vecC_size, tabC_size, planeC_size, tenC_size, smC_size, numC_size, numI_size]) (by simp only [fnC_size, cells_size, vecC_size, tabC_size, planeC_size, tenC_size, smC_size, numC_size, numI_size] <;> omega) (splice_whole _ _ rfl)) ?_
  intro _ w' a hM hF
  change Mem w w' [some (b1, tenC 0 0 0 0 (.slice none 0 0)), some (b2, numC (n ^ (2 + 2)) (dgF (n ^ 2) (n ^ 2))), some (b3, tenC ((p : Nat) : Int) ((n : Nat) : Int) ((2 : Nat) : Int) ((2 : Nat) : Int) (.slice (some ⟨b2, 0, none⟩) (n ^ (2 + 2)) (n ^ (2 + 2)))), none, none] [] at hM
  refine st hF (g_assign hF rfl) rfl fun a hF => ?_
  refine wpList_nil ?_
  refine tN ?_
  refine sq ?_
  refine sq ?_
  refine wp_region_lit ?_
  refine st hF (g_move hF rfl) rfl fun a hF => st hF (g_neq hF rfl rfl) rfl fun a hF => ?_
  refine wpList_nil ?_
  refine tN ?_
  refine c_kF hF rfl (by decide) ?_
  refine wp_skip ?_
  refine tN ?_
  refine sq ?_
  refine wp_region_lit ?_
  refine st hF (g_loadAgg ty_ag_24 hF rfl (hM.row 2 rfl) (by simp only [fnC_size, cells_size, vecC_size, tabC_size, planeC_size, tenC_size, smC_size, numC_size, numI_size] <;> omega) (whole rfl)) rfl fun a hF => ?_
  refine stR hF (d_buildC (vs := [(0, .int .i64 (1)), (1, .int .i64 (0)), (2, .int .i64 (2)), (3, .int .i64 (3))]) 3 hM hF (build4 hF rfl rfl rfl rfl) (fun w => ty_bsi_22_4 _ _ _ _ w)) rfl ?_
  rintro _ w' a ⟨b5, rfl, hM, -⟩ hF
  change Mem w w' [some (b1, tenC 0 0 0 0 (.slice none 0 0)), some (b2, numC (n ^ (2 + 2)) (dgF (n ^ 2) (n ^ 2))), some (b3, tenC ((p : Nat) : Int) ((n : Nat) : Int) ((2 : Nat) : Int) ((2 : Nat) : Int) (.slice (some ⟨b2, 0, none⟩) (n ^ (2 + 2)) (n ^ (2 + 2)))), some (b5, #[.int .i64 (1), .int .i64 (0), .int .i64 (2), .int .i64 (3)]), none] [] at hM
  refine stR hF (d_call Try.call24 hF (.cons rfl (.cons rfl .nil)) (permuted_ok p n 2 2 b2 b5 4 (dgF (n ^ 2) (n ^ 2)) swO (#[.int .i64 (1), .int .i64 (0), .int .i64 (2), .int .i64 (3)]) _ hn0 hn (wl22 hn0 hn) (fun c => by unfold dgF; split <;> omega) (hM.row 1 rfl) (hM.row 3 rfl) (fun c hc => by rcases (by omega : c = 0 ∨ c = 1 ∨ c = 2 ∨ c = 3) with rfl | rfl | rfl | rfl <;> rfl) (fun c hc => by unfold swO; split; omega; split <;> omega))) rfl ?_
  rintro _ w' a ⟨hx, b6, rfl, hge, hbk⟩ hF
  have hM := hM.fill hx 4 hbk hge
  change Mem w w' [some (b1, tenC 0 0 0 0 (.slice none 0 0)), some (b2, numC (n ^ (2 + 2)) (dgF (n ^ 2) (n ^ 2))), some (b3, tenC ((p : Nat) : Int) ((n : Nat) : Int) ((2 : Nat) : Int) ((2 : Nat) : Int) (.slice (some ⟨b2, 0, none⟩) (n ^ (2 + 2)) (n ^ (2 + 2)))), some (b5, #[.int .i64 (1), .int .i64 (0), .int .i64 (2), .int .i64 (3)]), some (b6, numC (n ^ (2 + 2)) (Rw.pmF n (2 + 2) swO (dgF (n ^ 2) (n ^ 2))))] [] at hM
  refine stN hF (d_storeAgg 0 hM rfl ty_sz_24 hF rfl rfl (tenC_one rfl) (by simp only [fnC_size, cells_size, vecC_size, tabC_size, planeC_size, tenC_size, smC_size, numC_size, numI_size]) (by simp only [fnC_size, cells_size, vecC_size, tabC_size, planeC_size, tenC_size, smC_size, numC_size, numI_size] <;> omega) (splice_whole _ _ rfl)) ?_
  intro _ w' a hM hF
  change Mem w w' [some (b1, tenC ((p : Nat) : Int) ((n : Nat) : Int) ((2 : Nat) : Int) ((2 : Nat) : Int) (.slice (some ⟨b6, 0, none⟩) (n ^ (2 + 2)) (n ^ (2 + 2)))), some (b2, numC (n ^ (2 + 2)) (dgF (n ^ 2) (n ^ 2))), some (b3, tenC ((p : Nat) : Int) ((n : Nat) : Int) ((2 : Nat) : Int) ((2 : Nat) : Int) (.slice (some ⟨b2, 0, none⟩) (n ^ (2 + 2)) (n ^ (2 + 2)))), some (b5, #[.int .i64 (1), .int .i64 (0), .int .i64 (2), .int .i64 (3)]), some (b6, numC (n ^ (2 + 2)) (Rw.pmF n (2 + 2) swO (dgF (n ^ 2) (n ^ 2))))] [] at hM
  refine st hF (g_assign hF rfl) rfl fun a hF => ?_
  refine wpList_nil ?_
  refine tN ?_
  refine wp_ret ?_
  refine fin2 rfl hF.defers (res_agg ty_ag_24 hF rfl (hM.row 0 rfl) (by simp only [fnC_size, cells_size, vecC_size, tabC_size, planeC_size, tenC_size, smC_size, numC_size, numI_size])) (res_tmp hF rfl) ⟨_, rfl, hM.below, ?_⟩
  exact ⟨_, rfl, hM.ge 4 rfl, (hM.rowc (cs' := numC (n ^ (2 + 2)) (swT n)) 4 rfl (numC_congr fun c hc => pm_sw hn0 hn)).row 4 rfl⟩

set_option maxRecDepth 100000 in
theorem SwapS_B (p n : Nat) (w : World) (hpP : primeP (p : Int)) (hn0 : 0 < n) (hn : n ≤ 6) :
    CallsR Try.prog 5 #[.int .i64 (((p : Nat) : Int)), .int .i64 (((n : Nat) : Int))] w (fun v w' => TenOut0 w w' (p : Int) (n : Int) (2 : Int) (2 : Int) (n ^ (2 + 2)) (swT n) v) := by
  refine calls_fr [.int .i64 (((p : Nat) : Int)), .int .i64 (((n : Nat) : Int))] Try.func5 rfl Try.ntmps5 rfl fun a hF => ?_
  have hM : Mem w w [none, none, none] [] := MemX.start w 3
  change Fr 47 a [(0, .int .i64 (((p : Nat) : Int))), (1, .int .i64 (((n : Nat) : Int)))] at hF
  have hw := wl22 hn0 hn
  refine sq ?_
  refine wp_region_lit ?_
  refine stR hF (d_alloc 0 hM ty_ze_24) rfl ?_
  rintro _ w' a ⟨b1, rfl, hM, -⟩ hF
  change Mem w w' [some (b1, tenC 0 0 0 0 (.slice none 0 0)), none, none] [] at hM
  refine st hF (g_assign hF rfl) rfl fun a hF => ?_
  refine wpList_nil ?_
  refine tN ?_
  refine sq ?_
  refine sq ?_
  refine wp_region_lit ?_
  refine st hF (g_move hF rfl) rfl fun a hF => st hF (g_move hF rfl) rfl fun a hF => ?_
  refine stR hF (d_call Try.call21 hF (.cons rfl (.cons rfl (.cons rfl (.cons rfl .nil)))) ((CallsR.val (l03Sizes_ok (((p : Nat) : Int)) (n) (2) (2) _ hpP (by omega) (by omega) (by omega) (by omega)) (congrArg (Value.int .i64) (if_pos hw))))) rfl ?_
  rintro _ w' a ⟨hx, rfl⟩ hF
  have hM := hM.ext hx
  refine st hF (g_assign hF rfl) rfl fun a hF => ?_
  refine wpList_nil ?_
  refine tN ?_
  refine sq ?_
  refine wp_region_lit ?_
  refine st hF (g_move hF rfl) rfl fun a hF => st hF (g_neq hF rfl rfl) rfl fun a hF => ?_
  refine wpList_nil ?_
  refine tN ?_
  refine c_kF hF rfl (by decide) ?_
  refine wp_skip ?_
  refine tN ?_
  refine sq ?_
  refine wp_region_lit ?_
  refine st hF (g_move hF rfl) rfl fun a hF => st hF (g_move hF rfl) rfl fun a hF => ?_
  refine stR hF (d_call Try.call22 hF (.cons rfl (.cons rfl (.cons rfl (.cons rfl .nil)))) (l03Empty_ok (p) (n) (2) (2) _ (by omega) (by omega) hw)) rfl ?_
  rintro _ w' a ⟨hx, b3, rfl, hge, hbk⟩ hF
  have hM := hM.fill hx 1 hbk hge
  change Mem w w' [some (b1, tenC 0 0 0 0 (.slice none 0 0)), some (b3, numC ((n) ^ ((2) + (2))) (fun _ => 0)), none] [] at hM
  refine stR hF (d_alloc 2 hM ty_ze_24) rfl ?_
  rintro _ w' a ⟨b4, rfl, hM, -⟩ hF
  change Mem w w' [some (b1, tenC 0 0 0 0 (.slice none 0 0)), some (b3, numC ((n) ^ ((2) + (2))) (fun _ => 0)), some (b4, tenC 0 0 0 0 (.slice none 0 0))] [] at hM
  refine stN hF (d_storeAgg 2 hM rfl ty_sz_24 hF rfl rfl (tenC_one rfl) (by simp only [fnC_size, cells_size, vecC_size, tabC_size, planeC_size, tenC_size, smC_size, numC_size, numI_size]) (by simp only [fnC_size, cells_size, vecC_size, tabC_size, planeC_size, tenC_size, smC_size, numC_size, numI_size] <;> omega) (splice_whole _ _ rfl)) ?_
  intro _ w' a hM hF
  change Mem w w' [some (b1, tenC 0 0 0 0 (.slice none 0 0)), some (b3, numC ((n) ^ ((2) + (2))) (fun _ => 0)), some (b4, tenC ((p : Nat) : Int) ((n : Nat) : Int) ((2 : Nat) : Int) ((2 : Nat) : Int) (.slice (some ⟨b3, 0, none⟩) ((n) ^ ((2) + (2))) ((n) ^ ((2) + (2)))))] [] at hM
  refine wpList_nil ?_
  refine tN ?_
  refine sq ?_
  refine sq ?_
  refine wp_region_lit ?_
  refine st hF (g_assign hF rfl) rfl fun a hF => ?_
  refine wpList_nil ?_
  refine tN ?_
  refine wp_block ?_
  change Mem w _ [some (b1, tenC 0 0 0 0 (.slice none 0 0)), some (b3, numC ((n) ^ ((2) + (2))) (fun _ => 0)), some (b4, tenC ((p : Nat) : Int) ((n : Nat) : Int) ((2 : Nat) : Int) ((2 : Nat) : Int) (.slice (some ⟨b3, 0, none⟩) ((n) ^ ((2) + (2))) ((n) ^ ((2) + (2)))))] [] at hM
  refine c_loop (fun (kk : Nat) a w' => kk ≤ n ∧ (True) ∧ Fr 47 a [(1, .int .i64 (((n : Nat) : Int))), (4, ptr b1 (0)), (5, .int .i64 (0)), (14, .bool (decide ((0 : Int) ≠ 0))), (7, ptr b4 (0)), (8, .int .i64 (((kk : Nat) : Int)))] ∧ Mem w w' [some (b1, tenC 0 0 0 0 (.slice none 0 0)), some (b3, numC (n ^ (2 + 2)) (swP n (kk) (0))), some (b4, tenC ((p : Nat) : Int) ((n : Nat) : Int) ((2 : Nat) : Int) ((2 : Nat) : Int) (.slice (some ⟨b3, 0, none⟩) ((n) ^ ((2) + (2))) ((n) ^ ((2) + (2)))))] []) (fun kk => n - kk) 0 ?_ ?_
  ·
   refine ⟨by omega, trivial, hF.sub _ (by repeat' constructor), ?_⟩
   exact hM.rowc 1 rfl (numC_congr fun c hc => sw_zero.symm)
  ·
   clear hF hM
   rintro gi a w' ⟨hgi, hinv1, hF, hM⟩
   refine sq ?_
   refine sq ?_
   refine wp_region_lit ?_
   refine st hF (g_move hF rfl) rfl fun a hF => st hF (g_move hF rfl) rfl fun a hF => st hF (g_lss hF rfl rfl) rfl fun a hF => ?_
   refine wpList_nil ?_
   refine tN ?_
   refine c_cond hF rfl (fun h5 => ?_) (fun h5 => ?_)
   ·
    refine wp_skip ?_
    refine tN ?_
    refine sq ?_
    refine wp_block ?_
    refine sq ?_
    refine wp_region_lit ?_
    refine st hF (g_assign hF rfl) rfl fun a hF => ?_
    refine wpList_nil ?_
    refine tN ?_
    refine wp_block ?_
    change Mem w _ [some (b1, tenC 0 0 0 0 (.slice none 0 0)), some (b3, numC (n ^ (2 + 2)) (swP n (gi) (0))), some (b4, tenC ((p : Nat) : Int) ((n : Nat) : Int) ((2 : Nat) : Int) ((2 : Nat) : Int) (.slice (some ⟨b3, 0, none⟩) ((n) ^ ((2) + (2))) ((n) ^ ((2) + (2)))))] [] at hM
    refine c_loop (fun (kk : Nat) a w' => kk ≤ n ∧ (True) ∧ Fr 47 a [(1, .int .i64 (((n : Nat) : Int))), (4, ptr b1 (0)), (5, .int .i64 (0)), (14, .bool (decide ((0 : Int) ≠ 0))), (7, ptr b4 (0)), (8, .int .i64 (((gi : Nat) : Int))), (20, .int .i64 (((gi : Nat) : Int))), (21, .int .i64 (((n : Nat) : Int))), (22, .bool (decide ((((gi : Nat) : Int) : Int) < ((n : Nat) : Int)))), (9, .int .i64 (((kk : Nat) : Int)))] ∧ Mem w w' [some (b1, tenC 0 0 0 0 (.slice none 0 0)), some (b3, numC (n ^ (2 + 2)) (swP n (gi) (kk))), some (b4, tenC ((p : Nat) : Int) ((n : Nat) : Int) ((2 : Nat) : Int) ((2 : Nat) : Int) (.slice (some ⟨b3, 0, none⟩) ((n) ^ ((2) + (2))) ((n) ^ ((2) + (2)))))] []) (fun kk => n - kk) 0 ?_ ?_
    ·
     refine ⟨by omega, trivial, hF.sub _ (by repeat' constructor), ?_⟩
     exact hM
    ·
     clear hF hM
     rintro gj a w' ⟨hgj, hinv2, hF, hM⟩
     have hb0 : gi < n → gi * n ≤ 5 * 6 := fun q => Nat.mul_le_mul (by omega) hn
     have hb1 : gi < n → gj < n → (gi * n + gj) * n ≤ 35 * 6 := fun q r => Nat.mul_le_mul (by have := hb0 q; omega) hn
     have hb2 : gi < n → gj < n → ((gi * n + gj) * n + gj) * n ≤ 215 * 6 := fun q r => Nat.mul_le_mul (by have := hb1 q r; omega) hn
     have hidx : gi < n → gj < n → ((gi * n + gj) * n + gj) * n + gi < n ^ (2 + 2) := fun q r => sw_idx hn q r
     refine sq ?_
     refine sq ?_
     refine wp_region_lit ?_
     refine st hF (g_move hF rfl) rfl fun a hF => st hF (g_move hF rfl) rfl fun a hF => st hF (g_lss hF rfl rfl) rfl fun a hF => ?_
     refine wpList_nil ?_
     refine tN ?_
     refine c_cond hF rfl (fun h6 => ?_) (fun h6 => ?_)
     ·
      refine wp_skip ?_
      refine tN ?_
      refine sq ?_
      refine wp_block ?_
      refine wp_region_lit ?_
      refine st hF (g_fieldAddr ty_fo_24_4 hF rfl) rfl fun a hF => st hF (g_load ty_on_22 hF rfl (hM.row 2 rfl) (tenC_4 (by omega))) rfl fun a hF => st hF (g_move hF rfl) rfl fun a hF => st hF (g_move hF rfl) rfl fun a hF => st hF (g_mul hF rfl rfl (mul_nat (gi) (n) (by omega))) rfl fun a hF => st hF (g_move hF rfl) rfl fun a hF => st hF (g_add hF rfl rfl (add_nat ((gi) * (n)) (gj) (by omega))) rfl fun a hF => st hF (g_move hF rfl) rfl fun a hF => st hF (g_mul hF rfl rfl (mul_nat ((gi) * (n) + gj) (n) (by omega))) rfl fun a hF => st hF (g_move hF rfl) rfl fun a hF => st hF (g_add hF rfl rfl (add_nat (((gi) * (n) + gj) * (n)) (gj) (by omega))) rfl fun a hF => st hF (g_move hF rfl) rfl fun a hF => st hF (g_mul hF rfl rfl (mul_nat (((gi) * (n) + gj) * (n) + gj) (n) (by omega))) rfl fun a hF => st hF (g_move hF rfl) rfl fun a hF => st hF (g_add hF rfl rfl (add_nat ((((gi) * (n) + gj) * (n) + gj) * (n)) (gi) (by omega))) rfl fun a hF => st hF (g_indexSl (i := (((gi) * (n) + gj) * (n) + gj) * (n) + gi) ty_sl_22 hF rfl rfl rfl (by omega)) rfl fun a hF => ?_
      refine stN hF (d_store 1 hM rfl ty_on_2 hF rfl rfl rfl (by first | omega | (simp only [fnC_size, cells_size, vecC_size, tabC_size, planeC_size, tenC_size, smC_size, numC_size, numI_size] <;> omega) | (simp only [Array.size_setIfInBounds]; omega) | simp)) ?_
      intro _ w' a hM hF
      rw [show (numC (n ^ (2 + 2)) (swP n (gi) (gj))).setIfInBounds (0 + ((((gi) * (n) + gj) * (n) + gj) * (n) + gi) * 1) (.int .i64 (1)) = numC (n ^ (2 + 2)) (fun c => if c = ((((gi) * (n) + gj) * (n) + gj) * (n) + gi) then 1 else (swP n (gi) (gj)) c) from numC_set (k := ((((gi) * (n) + gj) * (n) + gj) * (n) + gi)) (by omega) (fun c _ => rfl)] at hM
      change Mem w w' [some (b1, tenC 0 0 0 0 (.slice none 0 0)), some (b3, numC (n ^ (2 + 2)) (fun c => if c = ((((gi) * (n) + gj) * (n) + gj) * (n) + gi) then 1 else (swP n (gi) (gj)) c)), some (b4, tenC ((p : Nat) : Int) ((n : Nat) : Int) ((2 : Nat) : Int) ((2 : Nat) : Int) (.slice (some ⟨b3, 0, none⟩) ((n) ^ ((2) + (2))) ((n) ^ ((2) + (2)))))] [] at hM
      refine wpList_nil ?_
      refine iN ?_
      refine tN ?_
      refine wp_region_lit ?_
      refine st hF (g_move hF rfl) rfl fun a hF => st hF (g_add hF rfl rfl (add_nat (gj) (1) (by omega))) rfl fun a hF => st hF (g_assign hF rfl) rfl fun a hF => ?_
      refine wpList_nil ?_
      refine tN ?_
      refine ⟨gj + 1, ⟨by omega, trivial, hF.sub _ (by repeat' constructor), ?_⟩, by omega⟩
      exact hM.rowc 1 rfl (numC_congr fun c hc => sw_step hn (by omega) (by omega) hc)
     ·
      obtain rfl : n = gj := by omega
      refine wp_exit ?_
      refine tX ?_
      refine tX ?_
      refine ib_same ?_
      refine iN ?_
      refine tN ?_
      refine wp_region_lit ?_
      refine st hF (g_move hF rfl) rfl fun a hF => st hF (g_add hF rfl rfl (add_nat (gi) (1) (by omega))) rfl fun a hF => st hF (g_assign hF rfl) rfl fun a hF => ?_
      refine wpList_nil ?_
      refine tN ?_
      refine ⟨gi + 1, ⟨by omega, trivial, hF.sub _ (by repeat' constructor), ?_⟩, by omega⟩
      exact hM.rowc 1 rfl (numC_congr fun c hc => sw_next hn (by omega) hc)
   ·
    obtain rfl : n = gi := by omega
    refine wp_exit ?_
    refine tX ?_
    refine tX ?_
    refine ib_same ?_
    refine tN ?_
    refine sq ?_
    refine wp_region_lit ?_
    refine st hF (g_loadAgg ty_ag_24 hF rfl (hM.row 2 rfl) (by simp only [fnC_size, cells_size, vecC_size, tabC_size, planeC_size, tenC_size, smC_size, numC_size, numI_size] <;> omega) (whole rfl)) rfl fun a hF => ?_
    refine stN hF (d_storeAgg 0 hM rfl ty_sz_24 hF rfl rfl (tenC_one rfl) (by simp only [fnC_size, cells_size, vecC_size, tabC_size, planeC_size, tenC_size, smC_size, numC_size, numI_size]) (by simp only [fnC_size, cells_size, vecC_size, tabC_size, planeC_size, tenC_size, smC_size, numC_size, numI_size] <;> omega) (splice_whole _ _ rfl)) ?_
    intro _ w' a hM hF
    change Mem w w' [some (b1, tenC ((p : Nat) : Int) ((n : Nat) : Int) ((2 : Nat) : Int) ((2 : Nat) : Int) (.slice (some ⟨b3, 0, none⟩) ((n) ^ ((2) + (2))) ((n) ^ ((2) + (2))))), some (b3, numC (n ^ (2 + 2)) (swP n (n) (0))), some (b4, tenC ((p : Nat) : Int) ((n : Nat) : Int) ((2 : Nat) : Int) ((2 : Nat) : Int) (.slice (some ⟨b3, 0, none⟩) ((n) ^ ((2) + (2))) ((n) ^ ((2) + (2)))))] [] at hM
    refine st hF (g_assign hF rfl) rfl fun a hF => ?_
    refine wpList_nil ?_
    refine tN ?_
    refine wp_ret ?_
    refine fin2 rfl hF.defers (res_agg ty_ag_24 hF rfl (hM.row 0 rfl) (by simp only [fnC_size, cells_size, vecC_size, tabC_size, planeC_size, tenC_size, smC_size, numC_size, numI_size])) (res_tmp hF rfl) ⟨_, rfl, hM.below, ?_⟩
    exact ⟨_, rfl, hM.ge 1 rfl, (hM.rowc (cs' := numC (n ^ (2 + 2)) (swT n)) 1 rfl (numC_congr fun c hc => sw_all hn0 hc)).row 1 rfl⟩

theorem law_SwapTensorA (p n : Int) (w : World) (hA2 : ¬ (primeP p ∧ 1 ≤ n ∧ n ≤ 6)) :
    CallsR Try.prog 3 #[.int .i64 (p), .int .i64 (n)] w (fun res _ => res = .bool true) := by
  refine calls_fr [.int .i64 (p), .int .i64 (n)] Try.func3 rfl Try.ntmps3 rfl fun a hF => ?_
  have hM : Mem w w [none, none, none] [] := MemX.start w 3
  change Fr 68 a [(0, .int .i64 (p)), (1, .int .i64 (n))] at hF
  refine sq ?_
  refine wp_region_lit ?_
  refine st hF (g_assign hF rfl) rfl fun a hF => ?_
  refine wpList_nil ?_
  refine tN ?_
  refine sq ?_
  refine wp_region_lit ?_
  refine st hF (g_move hF rfl) rfl fun a hF => st hF (g_move hF rfl) rfl fun a hF => ?_
  refine stR hF (d_call Try.call5 hF (.cons rfl (.cons rfl .nil)) (SwapS_A p n _ hA2)) rfl ?_
  rintro _ w' a ⟨hx, rfl⟩ hF
  have hM := hM.ext hx
  refine st hF (g_move hF rfl) rfl fun a hF => st hF (g_extract hF rfl rfl) rfl fun a hF => st hF (g_extract hF rfl rfl) rfl fun a hF => ?_
  refine stR hF (d_alloc 0 hM ty_ze_24) rfl ?_
  rintro _ w' a ⟨b1, rfl, hM, -⟩ hF
  change Mem w w' [some (b1, tenC 0 0 0 0 (.slice none 0 0)), none, none] [] at hM
  refine stN hF (d_storeAgg 0 hM rfl ty_sz_24 hF rfl rfl (tenC_one rfl) (by simp only [fnC_size, cells_size, vecC_size, tabC_size, planeC_size, tenC_size, smC_size, numC_size, numI_size]) (by simp only [fnC_size, cells_size, vecC_size, tabC_size, planeC_size, tenC_size, smC_size, numC_size, numI_size] <;> omega) (splice_whole _ _ rfl)) ?_
  intro _ w' a hM hF
  change Mem w w' [some (b1, tenC 0 0 0 0 (.slice none 0 0)), none, none] [] at hM
  refine st hF (g_assign hF rfl) rfl fun a hF => ?_
  refine wpList_nil ?_
  refine tN ?_
  refine sq ?_
  refine wp_region_lit ?_
  refine st hF (g_move hF rfl) rfl fun a hF => st hF (g_move hF rfl) rfl fun a hF => ?_
  refine stR hF (d_call Try.call6 hF (.cons rfl (.cons rfl .nil)) (SwapI_A p n _ hA2)) rfl ?_
  rintro _ w' a ⟨hx, rfl⟩ hF
  have hM := hM.ext hx
  refine st hF (g_move hF rfl) rfl fun a hF => st hF (g_extract hF rfl rfl) rfl fun a hF => st hF (g_extract hF rfl rfl) rfl fun a hF => ?_
  refine stR hF (d_alloc 1 hM ty_ze_24) rfl ?_
  rintro _ w' a ⟨b2, rfl, hM, -⟩ hF
  change Mem w w' [some (b1, tenC 0 0 0 0 (.slice none 0 0)), some (b2, tenC 0 0 0 0 (.slice none 0 0)), none] [] at hM
  refine stN hF (d_storeAgg 1 hM rfl ty_sz_24 hF rfl rfl (tenC_one rfl) (by simp only [fnC_size, cells_size, vecC_size, tabC_size, planeC_size, tenC_size, smC_size, numC_size, numI_size]) (by simp only [fnC_size, cells_size, vecC_size, tabC_size, planeC_size, tenC_size, smC_size, numC_size, numI_size] <;> omega) (splice_whole _ _ rfl)) ?_
  intro _ w' a hM hF
  change Mem w w' [some (b1, tenC 0 0 0 0 (.slice none 0 0)), some (b2, tenC 0 0 0 0 (.slice none 0 0)), none] [] at hM
  refine st hF (g_assign hF rfl) rfl fun a hF => ?_
  refine wpList_nil ?_
  refine tN ?_
  refine sq ?_
  refine sq ?_
  refine wp_region_lit ?_
  refine st hF (g_loadAgg ty_ag_24 hF rfl (hM.row 1 rfl) (by simp only [fnC_size, cells_size, vecC_size, tabC_size, planeC_size, tenC_size, smC_size, numC_size, numI_size] <;> omega) (whole rfl)) rfl fun a hF => st hF (g_loadAgg ty_ag_24 hF rfl (hM.row 0 rfl) (by simp only [fnC_size, cells_size, vecC_size, tabC_size, planeC_size, tenC_size, smC_size, numC_size, numI_size] <;> omega) (whole rfl)) rfl fun a hF => ?_
  refine stR hF (d_call Try.call7 hF (.cons rfl (.cons rfl .nil)) (eqTensor_0 _)) rfl ?_
  rintro _ w' a ⟨hx, rfl⟩ hF
  have hM := hM.ext hx
  refine st hF (g_not hF rfl) rfl fun a hF => st hF (g_move hF rfl) rfl fun a hF => stY hF rfl rfl rfl (g_move hF rfl) rfl fun a hF => stY hF rfl rfl rfl (g_move hF rfl) rfl fun a hF => stY hF rfl rfl rfl (g_neq hF rfl rfl) rfl fun a hF => st hF (g_pickF hF rfl rfl) rfl fun a hF => ?_
  refine wpList_nil ?_
  refine tN ?_
  refine c_kF hF rfl (by decide) ?_
  refine wp_skip ?_
  refine tN ?_
  refine sq ?_
  refine wp_region_lit ?_
  refine st hF (g_assign hF rfl) rfl fun a hF => ?_
  refine wpList_nil ?_
  refine tN ?_
  refine sq ?_
  refine wp_region_lit ?_
  refine st hF (g_loadAgg ty_ag_24 hF rfl (hM.row 1 rfl) (by simp only [fnC_size, cells_size, vecC_size, tabC_size, planeC_size, tenC_size, smC_size, numC_size, numI_size] <;> omega) (whole rfl)) rfl fun a hF => st hF (g_move hF rfl) rfl fun a hF => ?_
  refine stR hF (d_call Try.call8 hF (.cons rfl (.cons rfl .nil)) (markTensor_0 (1) _ (by omega))) rfl ?_
  rintro _ w' a ⟨hx, rfl⟩ hF
  have hM := hM.ext hx
  refine st hF (g_assign hF rfl) rfl fun a hF => ?_
  refine wpList_nil ?_
  refine tN ?_
  refine sq ?_
  refine wp_region_lit ?_
  refine st hF (g_assign hF rfl) rfl fun a hF => ?_
  refine wpList_nil ?_
  refine tN ?_
  refine sq ?_
  refine wp_region_lit ?_
  refine st hF (g_loadAgg ty_ag_24 hF rfl (hM.row 1 rfl) (by simp only [fnC_size, cells_size, vecC_size, tabC_size, planeC_size, tenC_size, smC_size, numC_size, numI_size] <;> omega) (whole rfl)) rfl fun a hF => st hF (g_move hF rfl) rfl fun a hF => ?_
  refine stR hF (d_call Try.call9 hF (.cons rfl (.cons rfl .nil)) (heldTensor_0 (1) _ (by omega))) rfl ?_
  rintro _ w' a ⟨hx, rfl⟩ hF
  have hM := hM.ext hx
  refine st hF (g_assign hF rfl) rfl fun a hF => ?_
  refine wpList_nil ?_
  refine tN ?_
  refine sq ?_
  refine sq ?_
  refine wp_region_lit ?_
  refine st hF (g_move hF rfl) rfl fun a hF => st hF (g_lss hF rfl rfl) rfl fun a hF => ?_
  refine wpList_nil ?_
  refine tN ?_
  refine c_cond hF rfl (fun h4 => ?_) (fun h4 => ?_)
  ·
   first | exact absurd rfl h4 | (exfalso; omega)
  ·
   refine wp_skip ?_
   refine tN ?_
   refine sq ?_
   refine sq ?_
   refine wp_region_lit ?_
   refine st hF (g_move hF rfl) rfl fun a hF => st hF (g_move hF rfl) rfl fun a hF => st hF (g_neq hF rfl rfl) rfl fun a hF => ?_
   refine wpList_nil ?_
   refine tN ?_
   refine c_kF hF rfl (by decide) ?_
   refine wp_skip ?_
   refine tN ?_
   refine sq ?_
   refine wp_region_lit ?_
   refine st hF (g_move hF rfl) rfl fun a hF => st hF (g_move hF rfl) rfl fun a hF => ?_
   refine stR hF (d_call Try.call6 hF (.cons rfl (.cons rfl .nil)) (SwapI_A p n _ hA2)) rfl ?_
   rintro _ w' a ⟨hx, rfl⟩ hF
   have hM := hM.ext hx
   refine st hF (g_move hF rfl) rfl fun a hF => st hF (g_extract hF rfl rfl) rfl fun a hF => st hF (g_extract hF rfl rfl) rfl fun a hF => ?_
   refine stR hF (d_alloc 2 hM ty_ze_24) rfl ?_
   rintro _ w' a ⟨b6, rfl, hM, -⟩ hF
   change Mem w w' [some (b1, tenC 0 0 0 0 (.slice none 0 0)), some (b2, tenC 0 0 0 0 (.slice none 0 0)), some (b6, tenC 0 0 0 0 (.slice none 0 0))] [] at hM
   refine stN hF (d_storeAgg 2 hM rfl ty_sz_24 hF rfl rfl (tenC_one rfl) (by simp only [fnC_size, cells_size, vecC_size, tabC_size, planeC_size, tenC_size, smC_size, numC_size, numI_size]) (by simp only [fnC_size, cells_size, vecC_size, tabC_size, planeC_size, tenC_size, smC_size, numC_size, numI_size] <;> omega) (splice_whole _ _ rfl)) ?_
   intro _ w' a hM hF
   change Mem w w' [some (b1, tenC 0 0 0 0 (.slice none 0 0)), some (b2, tenC 0 0 0 0 (.slice none 0 0)), some (b6, tenC 0 0 0 0 (.slice none 0 0))] [] at hM
   refine st hF (g_assign hF rfl) rfl fun a hF => ?_
   refine wpList_nil ?_
   refine tN ?_
   refine sq ?_
   refine sq ?_
   refine wp_region_lit ?_
   refine st hF (g_loadAgg ty_ag_24 hF rfl (hM.row 2 rfl) (by simp only [fnC_size, cells_size, vecC_size, tabC_size, planeC_size, tenC_size, smC_size, numC_size, numI_size] <;> omega) (whole rfl)) rfl fun a hF => st hF (g_loadAgg ty_ag_24 hF rfl (hM.row 0 rfl) (by simp only [fnC_size, cells_size, vecC_size, tabC_size, planeC_size, tenC_size, smC_size, numC_size, numI_size] <;> omega) (whole rfl)) rfl fun a hF => ?_
   refine stR hF (d_call Try.call7 hF (.cons rfl (.cons rfl .nil)) (eqTensor_0 _)) rfl ?_
   rintro _ w' a ⟨hx, rfl⟩ hF
   have hM := hM.ext hx
   refine st hF (g_not hF rfl) rfl fun a hF => st hF (g_move hF rfl) rfl fun a hF => stY hF rfl rfl rfl (g_move hF rfl) rfl fun a hF => stY hF rfl rfl rfl (g_move hF rfl) rfl fun a hF => stY hF rfl rfl rfl (g_neq hF rfl rfl) rfl fun a hF => st hF (g_pickF hF rfl rfl) rfl fun a hF => ?_
   refine wpList_nil ?_
   refine tN ?_
   refine c_kF hF rfl (by decide) ?_
   refine wp_skip ?_
   refine tN ?_
   refine sq ?_
   refine wp_region_lit ?_
   refine st hF (g_assign hF rfl) rfl fun a hF => ?_
   refine wpList_nil ?_
   refine tN ?_
   refine sq ?_
   refine wp_region_lit ?_
   refine st hF (g_loadAgg ty_ag_24 hF rfl (hM.row 1 rfl) (by simp only [fnC_size, cells_size, vecC_size, tabC_size, planeC_size, tenC_size, smC_size, numC_size, numI_size] <;> omega) (whole rfl)) rfl fun a hF => st hF (g_move hF rfl) rfl fun a hF => ?_
   refine stR hF (d_call Try.call9 hF (.cons rfl (.cons rfl .nil)) (heldTensor_0 (1) _ (by omega))) rfl ?_
   rintro _ w' a ⟨hx, rfl⟩ hF
   have hM := hM.ext hx
   refine st hF (g_assign hF rfl) rfl fun a hF => ?_
   refine wpList_nil ?_
   refine tN ?_
   refine sq ?_
   refine sq ?_
   refine wp_region_lit ?_
   refine st hF (g_move hF rfl) rfl fun a hF => st hF (g_lss hF rfl rfl) rfl fun a hF => ?_
   refine wpList_nil ?_
   refine tN ?_
   refine c_kF hF rfl h4 ?_
   refine wp_skip ?_
   refine tN ?_
   refine sq ?_
   refine sq ?_
   refine wp_region_lit ?_
   refine st hF (g_move hF rfl) rfl fun a hF => st hF (g_move hF rfl) rfl fun a hF => st hF (g_neq hF rfl rfl) rfl fun a hF => ?_
   refine wpList_nil ?_
   refine tN ?_
   refine c_kF hF rfl (by decide) ?_
   refine wp_skip ?_
   refine tN ?_
   refine sq ?_
   refine wp_region_lit ?_
   refine st hF (g_assign hF rfl) rfl fun a hF => ?_
   refine wpList_nil ?_
   refine tN ?_
   refine wp_ret ?_
   refine fin1 rfl hF.defers (res_tmp hF rfl) ⟨_, rfl, hM.below, ?_⟩
   show _ = _
   rfl

theorem law_SwapTensorB (p n : Nat) (w : World) (hpP : primeP (p : Int)) (hn0 : 0 < n) (hn : n ≤ 6) :
    CallsR Try.prog 3 #[.int .i64 (((p : Nat) : Int)), .int .i64 (((n : Nat) : Int))] w (fun res _ => res = .bool true) := by
  refine calls_fr [.int .i64 (((p : Nat) : Int)), .int .i64 (((n : Nat) : Int))] Try.func3 rfl Try.ntmps3 rfl fun a hF => ?_
  have hM : Mem w w [none, none, none, none, none, none] [] := MemX.start w 6
  change Fr 68 a [(0, .int .i64 (((p : Nat) : Int))), (1, .int .i64 (((n : Nat) : Int)))] at hF
  have hw := wl22 hn0 hn
  have hw3 := hw.2.2
  refine sq ?_
  refine wp_region_lit ?_
  refine st hF (g_assign hF rfl) rfl fun a hF => ?_
  refine wpList_nil ?_
  refine tN ?_
  refine sq ?_
  refine wp_region_lit ?_
  refine st hF (g_move hF rfl) rfl fun a hF => st hF (g_move hF rfl) rfl fun a hF => ?_
  refine stR hF (d_call Try.call5 hF (.cons rfl (.cons rfl .nil)) (SwapS_B p n _ hpP hn0 hn)) rfl ?_
  rintro _ w' a ⟨hx, b1, rfl, hge, hbk⟩ hF
  have hM := hM.fill hx 0 hbk hge
  change Mem w w' [some (b1, numC (n ^ (2 + 2)) (swT n)), none, none, none, none, none] [] at hM
  refine st hF (g_move hF rfl) rfl fun a hF => st hF (g_extract hF rfl rfl) rfl fun a hF => st hF (g_extract hF rfl rfl) rfl fun a hF => ?_
  refine stR hF (d_alloc 1 hM ty_ze_24) rfl ?_
  rintro _ w' a ⟨b2, rfl, hM, -⟩ hF
  change Mem w w' [some (b1, numC (n ^ (2 + 2)) (swT n)), some (b2, tenC 0 0 0 0 (.slice none 0 0)), none, none, none, none] [] at hM
  refine stN hF (d_storeAgg 1 hM rfl ty_sz_24 hF rfl rfl (tenC_one rfl) (by simp only [fnC_size, cells_size, vecC_size, tabC_size, planeC_size, tenC_size, smC_size, numC_size, numI_size]) (by simp only [fnC_size, cells_size, vecC_size, tabC_size, planeC_size, tenC_size, smC_size, numC_size, numI_size] <;> omega) (splice_whole _ _ rfl)) ?_
  intro _ w' a hM hF
  change Mem w w' [some (b1, numC (n ^ (2 + 2)) (swT n)), some (b2, tenC ((p : Nat) : Int) ((n : Nat) : Int) ((2 : Nat) : Int) ((2 : Nat) : Int) (.slice (some ⟨b1, 0, none⟩) (n ^ (2 + 2)) (n ^ (2 + 2)))), none, none, none, none] [] at hM
  refine st hF (g_assign hF rfl) rfl fun a hF => ?_
  refine wpList_nil ?_
  refine tN ?_
  refine sq ?_
  refine wp_region_lit ?_
  refine st hF (g_move hF rfl) rfl fun a hF => st hF (g_move hF rfl) rfl fun a hF => ?_
  refine stR hF (d_call Try.call6 hF (.cons rfl (.cons rfl .nil)) (SwapI_B p n _ hpP hn0 hn)) rfl ?_
  rintro _ w' a ⟨hx, b3, rfl, hge, hbk⟩ hF
  have hM := hM.fill hx 2 hbk hge
  change Mem w w' [some (b1, numC (n ^ (2 + 2)) (swT n)), some (b2, tenC ((p : Nat) : Int) ((n : Nat) : Int) ((2 : Nat) : Int) ((2 : Nat) : Int) (.slice (some ⟨b1, 0, none⟩) (n ^ (2 + 2)) (n ^ (2 + 2)))), some (b3, numC (n ^ (2 + 2)) (swT n)), none, none, none] [] at hM
  refine st hF (g_move hF rfl) rfl fun a hF => st hF (g_extract hF rfl rfl) rfl fun a hF => st hF (g_extract hF rfl rfl) rfl fun a hF => ?_
  refine stR hF (d_alloc 3 hM ty_ze_24) rfl ?_
  rintro _ w' a ⟨b4, rfl, hM, -⟩ hF
  change Mem w w' [some (b1, numC (n ^ (2 + 2)) (swT n)), some (b2, tenC ((p : Nat) : Int) ((n : Nat) : Int) ((2 : Nat) : Int) ((2 : Nat) : Int) (.slice (some ⟨b1, 0, none⟩) (n ^ (2 + 2)) (n ^ (2 + 2)))), some (b3, numC (n ^ (2 + 2)) (swT n)), some (b4, tenC 0 0 0 0 (.slice none 0 0)), none, none] [] at hM
  refine stN hF (d_storeAgg 3 hM rfl ty_sz_24 hF rfl rfl (tenC_one rfl) (by simp only [fnC_size, cells_size, vecC_size, tabC_size, planeC_size, tenC_size, smC_size, numC_size, numI_size]) (by simp only [fnC_size, cells_size, vecC_size, tabC_size, planeC_size, tenC_size, smC_size, numC_size, numI_size] <;> omega) (splice_whole _ _ rfl)) ?_
  intro _ w' a hM hF
  change Mem w w' [some (b1, numC (n ^ (2 + 2)) (swT n)), some (b2, tenC ((p : Nat) : Int) ((n : Nat) : Int) ((2 : Nat) : Int) ((2 : Nat) : Int) (.slice (some ⟨b1, 0, none⟩) (n ^ (2 + 2)) (n ^ (2 + 2)))), some (b3, numC (n ^ (2 + 2)) (swT n)), some (b4, tenC ((p : Nat) : Int) ((n : Nat) : Int) ((2 : Nat) : Int) ((2 : Nat) : Int) (.slice (some ⟨b3, 0, none⟩) (n ^ (2 + 2)) (n ^ (2 + 2)))), none, none] [] at hM
  refine st hF (g_assign hF rfl) rfl fun a hF => ?_
  refine wpList_nil ?_
  refine tN ?_
  refine sq ?_
  refine sq ?_
  refine wp_region_lit ?_
  refine st hF (g_loadAgg ty_ag_24 hF rfl (hM.row 3 rfl) (by simp only [fnC_size, cells_size, vecC_size, tabC_size, planeC_size, tenC_size, smC_size, numC_size, numI_size] <;> omega) (whole rfl)) rfl fun a hF => st hF (g_loadAgg ty_ag_24 hF rfl (hM.row 1 rfl) (by simp only [fnC_size, cells_size, vecC_size, tabC_size, planeC_size, tenC_size, smC_size, numC_size, numI_size] <;> omega) (whole rfl)) rfl fun a hF => ?_
  refine stR hF (d_call Try.call7 hF (.cons rfl (.cons rfl .nil)) (eqTensor_ok ((p : Nat) : Int) ((n : Nat) : Int) ((2 : Nat) : Int) ((2 : Nat) : Int) b3 b1 (n ^ (2 + 2)) (fun c => (((swT n) c : Nat) : Int)) (fun c => (((swT n) c : Nat) : Int)) _ (hM.row 2 rfl) (hM.row 0 rfl) (by omega) (fun _ _ => rfl))) rfl ?_
  rintro _ w' a ⟨hx, rfl⟩ hF
  have hM := hM.ext hx
  refine st hF (g_not hF rfl) rfl fun a hF => st hF (g_move hF rfl) rfl fun a hF => stY hF rfl rfl rfl (g_move hF rfl) rfl fun a hF => stY hF rfl rfl rfl (g_move hF rfl) rfl fun a hF => stY hF rfl rfl rfl (g_neq hF rfl rfl) rfl fun a hF => st hF (g_pickF hF rfl rfl) rfl fun a hF => ?_
  refine wpList_nil ?_
  refine tN ?_
  refine c_kF hF rfl (by decide) ?_
  refine wp_skip ?_
  refine tN ?_
  refine sq ?_
  refine wp_region_lit ?_
  refine st hF (g_assign hF rfl) rfl fun a hF => ?_
  refine wpList_nil ?_
  refine tN ?_
  refine sq ?_
  refine wp_region_lit ?_
  refine st hF (g_loadAgg ty_ag_24 hF rfl (hM.row 3 rfl) (by simp only [fnC_size, cells_size, vecC_size, tabC_size, planeC_size, tenC_size, smC_size, numC_size, numI_size] <;> omega) (whole rfl)) rfl fun a hF => st hF (g_move hF rfl) rfl fun a hF => ?_
  refine stR hF (d_callX Try.call8 hF (.cons rfl (.cons rfl .nil)) (markTensor_ok ((p : Nat) : Int) ((n : Nat) : Int) ((2 : Nat) : Int) ((2 : Nat) : Int) b3 (n ^ (2 + 2)) (1) (fun c => (((swT n) c : Nat) : Int)) _ (by omega) (by omega) (hM.row 2 rfl))) rfl ?_
  rintro _ w' a ⟨hx, rfl, hbk⟩ hF
  have hM := hM.upd 2 rfl hx hbk
  change Mem w w' [some (b1, numC (n ^ (2 + 2)) (swT n)), some (b2, tenC ((p : Nat) : Int) ((n : Nat) : Int) ((2 : Nat) : Int) ((2 : Nat) : Int) (.slice (some ⟨b1, 0, none⟩) (n ^ (2 + 2)) (n ^ (2 + 2)))), some (b3, numC (n ^ (2 + 2)) (fun c => (1) + c)), some (b4, tenC ((p : Nat) : Int) ((n : Nat) : Int) ((2 : Nat) : Int) ((2 : Nat) : Int) (.slice (some ⟨b3, 0, none⟩) (n ^ (2 + 2)) (n ^ (2 + 2)))), none, none] [] at hM
  refine st hF (g_assign hF rfl) rfl fun a hF => ?_
  refine wpList_nil ?_
  refine tN ?_
  refine sq ?_
  refine wp_region_lit ?_
  refine st hF (g_assign hF rfl) rfl fun a hF => ?_
  refine wpList_nil ?_
  refine tN ?_
  refine sq ?_
  refine wp_region_lit ?_
  refine st hF (g_loadAgg ty_ag_24 hF rfl (hM.row 3 rfl) (by simp only [fnC_size, cells_size, vecC_size, tabC_size, planeC_size, tenC_size, smC_size, numC_size, numI_size] <;> omega) (whole rfl)) rfl fun a hF => st hF (g_move hF rfl) rfl fun a hF => ?_
  refine stR hF (d_call Try.call9 hF (.cons rfl (.cons rfl .nil)) (heldTensor_ok ((p : Nat) : Int) ((n : Nat) : Int) ((2 : Nat) : Int) ((2 : Nat) : Int) b3 (n ^ (2 + 2)) (1) (fun c => (1) + c) _ (by omega) (by omega) (hM.row 2 rfl) (fun c _ => by omega))) rfl ?_
  rintro _ w' a ⟨hx, rfl⟩ hF
  have hM := hM.ext hx
  refine st hF (g_assign hF rfl) rfl fun a hF => ?_
  refine wpList_nil ?_
  refine tN ?_
  refine sq ?_
  refine sq ?_
  refine wp_region_lit ?_
  refine st hF (g_move hF rfl) rfl fun a hF => st hF (g_lss hF rfl rfl) rfl fun a hF => ?_
  refine wpList_nil ?_
  refine tN ?_
  refine c_cond hF rfl (fun h6 => ?_) (fun h6 => ?_)
  ·
   first | exact absurd rfl h6 | (exfalso; omega)
  ·
   refine wp_skip ?_
   refine tN ?_
   refine sq ?_
   refine sq ?_
   refine wp_region_lit ?_
   refine st hF (g_move hF rfl) rfl fun a hF => st hF (g_move hF rfl) rfl fun a hF => st hF (g_neq hF rfl rfl) rfl fun a hF => ?_
   refine wpList_nil ?_
   refine tN ?_
   refine c_cond hF rfl (fun h7 => ?_) (fun h7 => ?_)
   ·
    first | exact absurd rfl h7 | (exfalso; omega)
   ·
    refine wp_skip ?_
    refine tN ?_
    refine sq ?_
    refine wp_region_lit ?_
    refine st hF (g_move hF rfl) rfl fun a hF => st hF (g_move hF rfl) rfl fun a hF => ?_
    refine stR hF (d_call Try.call6 hF (.cons rfl (.cons rfl .nil)) (SwapI_B p n _ hpP hn0 hn)) rfl ?_
    rintro _ w' a ⟨hx, b8, rfl, hge, hbk⟩ hF
    have hM := hM.fill hx 4 hbk hge
    change Mem w w' [some (b1, numC (n ^ (2 + 2)) (swT n)), some (b2, tenC ((p : Nat) : Int) ((n : Nat) : Int) ((2 : Nat) : Int) ((2 : Nat) : Int) (.slice (some ⟨b1, 0, none⟩) (n ^ (2 + 2)) (n ^ (2 + 2)))), some (b3, numC (n ^ (2 + 2)) (fun c => (1) + c)), some (b4, tenC ((p : Nat) : Int) ((n : Nat) : Int) ((2 : Nat) : Int) ((2 : Nat) : Int) (.slice (some ⟨b3, 0, none⟩) (n ^ (2 + 2)) (n ^ (2 + 2)))), some (b8, numC (n ^ (2 + 2)) (swT n)), none] [] at hM
    refine st hF (g_move hF rfl) rfl fun a hF => st hF (g_extract hF rfl rfl) rfl fun a hF => st hF (g_extract hF rfl rfl) rfl fun a hF => ?_
    refine stR hF (d_alloc 5 hM ty_ze_24) rfl ?_
    rintro _ w' a ⟨b9, rfl, hM, -⟩ hF
    change Mem w w' [some (b1, numC (n ^ (2 + 2)) (swT n)), some (b2, tenC ((p : Nat) : Int) ((n : Nat) : Int) ((2 : Nat) : Int) ((2 : Nat) : Int) (.slice (some ⟨b1, 0, none⟩) (n ^ (2 + 2)) (n ^ (2 + 2)))), some (b3, numC (n ^ (2 + 2)) (fun c => (1) + c)), some (b4, tenC ((p : Nat) : Int) ((n : Nat) : Int) ((2 : Nat) : Int) ((2 : Nat) : Int) (.slice (some ⟨b3, 0, none⟩) (n ^ (2 + 2)) (n ^ (2 + 2)))), some (b8, numC (n ^ (2 + 2)) (swT n)), some (b9, tenC 0 0 0 0 (.slice none 0 0))] [] at hM
    refine stN hF (d_storeAgg 5 hM rfl ty_sz_24 hF rfl rfl (tenC_one rfl) (by simp only [fnC_size, cells_size, vecC_size, tabC_size, planeC_size, tenC_size, smC_size, numC_size, numI_size]) (by simp only [fnC_size, cells_size, vecC_size, tabC_size, planeC_size, tenC_size, smC_size, numC_size, numI_size] <;> omega) (splice_whole _ _ rfl)) ?_
    intro _ w' a hM hF
    change Mem w w' [some (b1, numC (n ^ (2 + 2)) (swT n)), some (b2, tenC ((p : Nat) : Int) ((n : Nat) : Int) ((2 : Nat) : Int) ((2 : Nat) : Int) (.slice (some ⟨b1, 0, none⟩) (n ^ (2 + 2)) (n ^ (2 + 2)))), some (b3, numC (n ^ (2 + 2)) (fun c => (1) + c)), some (b4, tenC ((p : Nat) : Int) ((n : Nat) : Int) ((2 : Nat) : Int) ((2 : Nat) : Int) (.slice (some ⟨b3, 0, none⟩) (n ^ (2 + 2)) (n ^ (2 + 2)))), some (b8, numC (n ^ (2 + 2)) (swT n)), some (b9, tenC ((p : Nat) : Int) ((n : Nat) : Int) ((2 : Nat) : Int) ((2 : Nat) : Int) (.slice (some ⟨b8, 0, none⟩) (n ^ (2 + 2)) (n ^ (2 + 2))))] [] at hM
    refine st hF (g_assign hF rfl) rfl fun a hF => ?_
    refine wpList_nil ?_
    refine tN ?_
    refine sq ?_
    refine sq ?_
    refine wp_region_lit ?_
    refine st hF (g_loadAgg ty_ag_24 hF rfl (hM.row 5 rfl) (by simp only [fnC_size, cells_size, vecC_size, tabC_size, planeC_size, tenC_size, smC_size, numC_size, numI_size] <;> omega) (whole rfl)) rfl fun a hF => st hF (g_loadAgg ty_ag_24 hF rfl (hM.row 1 rfl) (by simp only [fnC_size, cells_size, vecC_size, tabC_size, planeC_size, tenC_size, smC_size, numC_size, numI_size] <;> omega) (whole rfl)) rfl fun a hF => ?_
    refine stR hF (d_call Try.call7 hF (.cons rfl (.cons rfl .nil)) (eqTensor_ok ((p : Nat) : Int) ((n : Nat) : Int) ((2 : Nat) : Int) ((2 : Nat) : Int) b8 b1 (n ^ (2 + 2)) (fun c => (((swT n) c : Nat) : Int)) (fun c => (((swT n) c : Nat) : Int)) _ (hM.row 4 rfl) (hM.row 0 rfl) (by omega) (fun _ _ => rfl))) rfl ?_
    rintro _ w' a ⟨hx, rfl⟩ hF
    have hM := hM.ext hx
    refine st hF (g_not hF rfl) rfl fun a hF => st hF (g_move hF rfl) rfl fun a hF => stY hF rfl rfl rfl (g_move hF rfl) rfl fun a hF => stY hF rfl rfl rfl (g_move hF rfl) rfl fun a hF => stY hF rfl rfl rfl (g_neq hF rfl rfl) rfl fun a hF => st hF (g_pickF hF rfl rfl) rfl fun a hF => ?_
    refine wpList_nil ?_
    refine tN ?_
    refine c_kF hF rfl (by decide) ?_
    refine wp_skip ?_
    refine tN ?_
    refine sq ?_
    refine wp_region_lit ?_
    refine st hF (g_assign hF rfl) rfl fun a hF => ?_
    refine wpList_nil ?_
    refine tN ?_
    refine sq ?_
    refine wp_region_lit ?_
    refine st hF (g_loadAgg ty_ag_24 hF rfl (hM.row 3 rfl) (by simp only [fnC_size, cells_size, vecC_size, tabC_size, planeC_size, tenC_size, smC_size, numC_size, numI_size] <;> omega) (whole rfl)) rfl fun a hF => st hF (g_move hF rfl) rfl fun a hF => ?_
    refine stR hF (d_call Try.call9 hF (.cons rfl (.cons rfl .nil)) (heldTensor_ok ((p : Nat) : Int) ((n : Nat) : Int) ((2 : Nat) : Int) ((2 : Nat) : Int) b3 (n ^ (2 + 2)) (1) (fun c => (1) + c) _ (by omega) (by omega) (hM.row 2 rfl) (fun c _ => by omega))) rfl ?_
    rintro _ w' a ⟨hx, rfl⟩ hF
    have hM := hM.ext hx
    refine st hF (g_assign hF rfl) rfl fun a hF => ?_
    refine wpList_nil ?_
    refine tN ?_
    refine sq ?_
    refine sq ?_
    refine wp_region_lit ?_
    refine st hF (g_move hF rfl) rfl fun a hF => st hF (g_lss hF rfl rfl) rfl fun a hF => ?_
    refine wpList_nil ?_
    refine tN ?_
    refine c_kF hF rfl h6 ?_
    refine wp_skip ?_
    refine tN ?_
    refine sq ?_
    refine sq ?_
    refine wp_region_lit ?_
    refine st hF (g_move hF rfl) rfl fun a hF => st hF (g_move hF rfl) rfl fun a hF => st hF (g_neq hF rfl rfl) rfl fun a hF => ?_
    refine wpList_nil ?_
    refine tN ?_
    refine c_kF hF rfl h7 ?_
    refine wp_skip ?_
    refine tN ?_
    refine sq ?_
    refine wp_region_lit ?_
    refine st hF (g_assign hF rfl) rfl fun a hF => ?_
    refine wpList_nil ?_
    refine tN ?_
    refine wp_ret ?_
    refine fin1 rfl hF.defers (res_tmp hF rfl) ⟨_, rfl, hM.below, ?_⟩
    show _ = _
    rfl

theorem law_SwapTensor (p n : Int) (w : World) (_hp : -9223372036854775808 ≤ p ∧ p ≤ 9223372036854775807) (_hn : -9223372036854775808 ≤ n ∧ n ≤ 9223372036854775807) : CallsV Try.prog 3 #[.int .i64 p, .int .i64 n] w (.bool true) := by
  by_cases hA : primeP p ∧ 1 ≤ n ∧ n ≤ 6
  · obtain ⟨hpP, h1, h2⟩ := hA
    have hp0 := primeP_pos hpP
    obtain ⟨p', rfl⟩ : ∃ q : Nat, p = q := ⟨p.toNat, by omega⟩
    obtain ⟨n', rfl⟩ : ∃ q : Nat, n = q := ⟨n.toNat, by omega⟩
    exact law_SwapTensorB p' n' w hpP (by omega) (by omega)
  · exact law_SwapTensorA p n w hA

end Go.Proofs.Ythoelkijoenkpaa
