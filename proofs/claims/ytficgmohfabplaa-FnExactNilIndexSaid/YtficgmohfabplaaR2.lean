/- What functions of the program return, as walks over their operations; no statement of the seat is proved here. -/
import Derived.Test.YtficgmohfabplaaTF
import Derived.Test.YtficgmohfabplaaR1
set_option linter.unusedVariables false
set_option linter.unusedSimpArgs false
namespace Go.Proofs.Ytficgmohfabplaa
open Go Go.RowKit Go.Sw Go.Ech
open Classical
theorem first_at {P : Nat → Prop} {k g : Nat} (h1 : 1 ≤ k) (hz : P (k - 1)) (hlow : ∀ j, j + 1 < k → ¬ P j) (hinv : ∀ j, j < g → ¬ P j) (hg : P g) : k = g + 1 := by
  by_cases e : g + 1 < k
  · exact absurd hg (hlow g e)
  · by_cases e2 : k - 1 < g
    · exact absurd hz (hinv _ e2)
    · omega
theorem first_cases (P : Nat → Prop) : ∀ n : Nat, (∃ k, 1 ≤ k ∧ k ≤ n ∧ P (k - 1) ∧ ∀ j, j + 1 < k → ¬ P j) ∨ ∀ j, j < n → ¬ P j
  | 0 => Or.inr fun j hj => absurd hj (by omega)
  | n + 1 => by
    rcases first_cases P n with ⟨k, h1, h2, h3, h4⟩ | h
    · exact Or.inl ⟨k, h1, by omega, h3, h4⟩
    · by_cases e : P n
      · exact Or.inl ⟨n + 1, by omega, by omega, e, fun j hj => h j (by omega)⟩
      · exact Or.inr fun j hj => by
          by_cases e2 : j = n
          · rw [e2]; exact e
          · exact h j (by omega)
theorem nextS {P : Nat → Prop} {g : Nat} (h : ∀ j, j < g → ¬ P j) (hg : ¬ P g) : ∀ j, j < g + 1 → ¬ P j := fun j hj => by
  by_cases e : j = g
  · rw [e]; exact hg
  · exact h j (by omega)
theorem nil_last {p n : Nat} {T : Nat → Nat → Nat → Nat} {u v : Nat → Nat} (hp : primeN p) (hn0 : 0 < n) (hn : n ≤ 6) (hT0 : ∀ i j k, n ≤ k → T i j k = 0) (hu : UnitI p n T u) (hv : okV (p : Int) (n : Int) v)
    (hz : eqV 6 (powW (timesV p n T) v v n) (fun _ => 0)) : eqV 6 (powW (timesV p n T) v v (n - 1)) (fun _ => 0) := by
  have hp2 := hp.two
  have h := nil_size (W := fun k => powW (timesV p n T) v v k) hp hn0 hu (fun k c hc => by
      cases k with
      | zero => exact okV_small hv c (by omega)
      | succ k => exact Nat.mod_lt _ (by omega)) (fun c _ => rfl) (fun k c hc => by
      show (p : Int) ∣ ((timesV p n T (powW (timesV p n T) v v k) v c : Nat) : Int) - _
      rw [← prodI_Pr0]; unfold timesV; rw [Int.natCast_emod]; exact emod_dvd _ _) (fun c hc => hz c (by omega))
  intro c hc
  by_cases e : c < n
  · exact h c e
  · by_cases e2 : n = 1
    · subst e2; exact okV_out hv c (by omega) hc
    · rw [show n - 1 = (n - 2) + 1 by omega]
      exact timesV_out hT0 (by omega)

theorem l05Index_Y (p n : Nat) (T : Nat → Nat → Nat → Nat) (f v : Nat → Nat) (w : World) (hp : primeN p) (hn0 : 0 < n) (hn : n ≤ 6) (hTp : ∀ i j k, T i j k < p) (hT0 : ∀ i j k, n ≤ k → T i j k = 0) (hf : ∀ i, f i ≤ 255) (hv : ∀ i, v i ≤ 255) (k : Nat) (hk1 : 1 ≤ k) (hkn : k ≤ n) (hz : eqV 6 (powW (timesV p n T) v v (k - 1)) (fun _ => 0)) (hlow : ∀ j, j + 1 < k → ¬ eqV 6 (powW (timesV p n T) v v j) (fun _ => 0)) :
    CallsR Try.prog 38 #[.agg (algC (p : Int) (n : Int) T f), .agg (vecC v)] w (fun res _ => res = .int .i64 ((k : Nat) : Int)) := by
  refine calls_fr [.agg (algC (p : Int) (n : Int) T f), .agg (vecC v)] Try.func38 rfl Try.ntmps38 rfl fun a hF => ?_
  have hM : Mem w w [none, none, none] [] := MemX.start w 3
  change Fr 23 a [(0, .agg (algC (p : Int) (n : Int) T f)), (1, .agg (vecC v))] at hF
  have hp2 := hp.two
  have hp13 := hp.le
  have hT : ∀ i j k, T i j k ≤ 255 := fun i j k => by have := hTp i j k; omega
  have hvp : ∀ k c, powW (timesV p n T) v v k c ≤ 255 := powW_le hv (fun x c => timesV_le (by omega) (by omega) x v c)
  refine sq ?_
  refine wp_region_lit ?_
  refine stR hF (d_box 0 hM hF rfl) rfl ?_
  rintro _ w' a ⟨b1, rfl, hM, -⟩ hF
  change Mem w w' [some (b1, algC (p : Int) (n : Int) T f), none, none] [] at hM
  refine stR hF (d_box 1 hM hF rfl) rfl ?_
  rintro _ w' a ⟨b2, rfl, hM, -⟩ hF
  change Mem w w' [some (b1, algC (p : Int) (n : Int) T f), some (b2, vecC v), none] [] at hM
  refine st hF (g_assign hF rfl) rfl fun a hF => ?_
  refine wpList_nil ?_
  refine tN ?_
  refine sq ?_
  refine wp_region_lit ?_
  refine st hF (g_loadAgg ty_ag_27 hF rfl (hM.row 1 rfl) (by simp only [fnC_size, cells_size, vecC_size, tabC_size, planeC_size] <;> omega) (whole (by simp only [fnC_size, cells_size, vecC_size, tabC_size, planeC_size]))) rfl fun a hF => ?_
  refine stR hF (d_alloc 2 hM ty_ze_27) rfl ?_
  rintro _ w' a ⟨b3, rfl, hM, -⟩ hF
  change Mem w w' [some (b1, algC (p : Int) (n : Int) T f), some (b2, vecC v), some (b3, fnC 6 (fun _ => .int .u8 (0)))] [] at hM
  refine stN hF (d_storeAgg 2 hM rfl ty_sz_27 hF rfl rfl (by first | exact vecC_one | exact cells_one | (refine fnC_one fun _ _ => ?_; first | rfl | (split <;> rfl))) (by simp only [fnC_size, cells_size, vecC_size, tabC_size, planeC_size]) (by simp only [fnC_size, cells_size, vecC_size, tabC_size, planeC_size] <;> omega) (splice_whole _ _ (by simp only [fnC_size, cells_size, vecC_size, tabC_size, planeC_size]))) ?_
  intro _ w' a hM hF
  change Mem w w' [some (b1, algC (p : Int) (n : Int) T f), some (b2, vecC v), some (b3, vecC v)] [] at hM
  refine wpList_nil ?_
  refine tN ?_
  refine sq ?_
  refine sq ?_
  refine wp_region_lit ?_
  refine st hF (g_assign hF rfl) rfl fun a hF => ?_
  refine wpList_nil ?_
  refine tN ?_
  refine wp_block ?_
  change Mem w _ [some (b1, algC (p : Int) (n : Int) T f), some (b2, vecC v), some (b3, vecC v)] [] at hM
  refine c_loop (fun (kk : Nat) a w' => kk ≤ (n + 1) ∧ (∀ j, j < kk → ¬ eqV 6 (powW (timesV p n T) v v j) (fun _ => 0)) ∧ Fr 23 a [(0, .agg (algC (p : Int) (n : Int) T f)), (1, .agg (vecC v)), (2, ptr b1 (0)), (3, ptr b2 (0)), (7, .agg (vecC v)), (5, ptr b3 (0)), (6, .int .i64 (((kk + 1 : Nat) : Int)))] ∧ Mem w w' [some (b1, algC (p : Int) (n : Int) T f), some (b2, vecC v), some (b3, vecC (powW (timesV p n T) v v kk))] []) (fun kk => (n + 1) - kk) 0 ?_ ?_
  ·
    refine ⟨by omega, fun j hj => absurd hj (by omega), hF.sub _ (by repeat' constructor), ?_⟩
    exact hM
  ·
    clear hF hM
    rintro gi a w' ⟨hgi, hinv1, hF, hM⟩
    have hvt := hvp gi
    refine sq ?_
    refine sq ?_
    refine wp_region_lit ?_
    refine st hF (g_move hF rfl) rfl fun a hF => st hF (g_fieldAddr ty_fo_31_1 hF rfl) rfl fun a hF => st hF (g_load ty_on_2 hF rfl (hM.row 0 rfl) (algC_n (by omega))) rfl fun a hF => st hF (g_add hF rfl rfl (add_nat (n) (1) (by omega))) rfl fun a hF => st hF (g_leq hF rfl rfl) rfl fun a hF => ?_
    refine wpList_nil ?_
    refine tN ?_
    refine c_cond hF rfl (fun h4 => ?_) (fun h4 => ?_)
    ·
      refine wp_skip ?_
      refine tN ?_
      refine sq ?_
      refine wp_block ?_
      refine sq ?_
      refine sq ?_
      refine wp_region_lit ?_
      refine st hF (g_loadAgg ty_ag_27 hF rfl (hM.row 2 rfl) (by simp only [fnC_size, cells_size, vecC_size, tabC_size, planeC_size] <;> omega) (whole (by simp only [fnC_size, cells_size, vecC_size, tabC_size, planeC_size]))) rfl fun a hF => st hF (g_build0 ty_bu_27) rfl fun a hF => st hF (g_eqlA ty_eg_27 hF rfl rfl (eqAt_vec ty_ae_27 ty_ip_5 ty_on_5)) rfl fun a hF => ?_
      refine wpList_nil ?_
      refine tN ?_
      refine c_cond hF rfl (fun h5 => ?_) (fun h5 => ?_)
      ·
        obtain rfl := first_at (P := fun j => eqV 6 (powW (timesV p n T) v v j) (fun _ => 0)) hk1 hz hlow hinv1 (by assumption)
        refine sq ?_
        refine wp_region_lit ?_
        refine st hF (g_move hF rfl) rfl fun a hF => st hF (g_assign hF rfl) rfl fun a hF => ?_
        refine wpList_nil ?_
        refine tN ?_
        refine wp_ret ?_
        refine tR ?_
        refine iR ?_
        refine tR ?_
        refine tR ?_
        refine iR ?_
        refine tR ?_
        refine fin1 rfl hF.defers (res_tmp hF rfl) ⟨_, rfl, hM.below, ?_⟩
        show _ = _
        rfl
      ·
        refine wp_skip ?_
        refine tN ?_
        refine wp_region_lit ?_
        refine st hF (g_loadAgg ty_ag_31 hF rfl (hM.row 0 rfl) (by simp only [fnC_size, cells_size, vecC_size, tabC_size, planeC_size] <;> omega) (whole cells_size)) rfl fun a hF => st hF (g_loadAgg ty_ag_27 hF rfl (hM.row 2 rfl) (by simp only [fnC_size, cells_size, vecC_size, tabC_size, planeC_size] <;> omega) (whole (by simp only [fnC_size, cells_size, vecC_size, tabC_size, planeC_size]))) rfl fun a hF => st hF (g_loadAgg ty_ag_27 hF rfl (hM.row 1 rfl) (by simp only [fnC_size, cells_size, vecC_size, tabC_size, planeC_size] <;> omega) (whole (by simp only [fnC_size, cells_size, vecC_size, tabC_size, planeC_size]))) rfl fun a hF => ?_
        refine stR hF (d_call Try.call33 hF (.cons rfl (.cons rfl (.cons rfl .nil))) ((CallsR.val (l01Times_ok p n T f ((powW (timesV p n T) v v gi)) (v) _ (by omega) (by omega) (by omega) (fun _ _ _ => hT _ _ _) (fun _ => by first | exact hv _ | exact hvt _ | exact hvs _ | exact hu _ | exact hT _ _ _ | exact hf _ | omega | (split <;> omega) | (dsimp only; split <;> omega) | assumption) (fun _ => by first | exact hv _ | exact hvt _ | exact hvs _ | exact hu _ | exact hT _ _ _ | exact hf _ | omega | (split <;> omega) | (dsimp only; split <;> omega) | assumption)) (congrArg (fun v => Value.agg (vecC v)) (times_eq hT0 ((powW (timesV p n T) v v gi)) (v)).symm)))) rfl ?_
        rintro _ w' a ⟨hx, rfl⟩ hF
        have hM := hM.ext hx
        refine stN hF (d_storeAgg 2 hM rfl ty_sz_27 hF rfl rfl (by first | exact vecC_one | exact cells_one | (refine fnC_one fun _ _ => ?_; first | rfl | (split <;> rfl))) (by simp only [fnC_size, cells_size, vecC_size, tabC_size, planeC_size]) (by simp only [fnC_size, cells_size, vecC_size, tabC_size, planeC_size] <;> omega) (splice_whole _ _ (by simp only [fnC_size, cells_size, vecC_size, tabC_size, planeC_size]))) ?_
        intro _ w' a hM hF
        change Mem w w' [some (b1, algC (p : Int) (n : Int) T f), some (b2, vecC v), some (b3, vecC (timesV p n T ((powW (timesV p n T) v v gi)) (v)))] [] at hM
        refine wpList_nil ?_
        refine iN ?_
        refine tN ?_
        refine wp_region_lit ?_
        refine st hF (g_move hF rfl) rfl fun a hF => st hF (g_add hF rfl rfl (add_nat (gi + 1) (1) (by omega))) rfl fun a hF => st hF (g_assign hF rfl) rfl fun a hF => ?_
        refine wpList_nil ?_
        refine tN ?_
        refine ⟨gi + 1, ⟨by omega, nextS (P := fun j => eqV 6 (powW (timesV p n T) v v j) (fun _ => 0)) hinv1 (by assumption), hF.sub _ (by repeat' constructor), ?_⟩, by omega⟩
        exact hM
    ·
      obtain rfl : (n + 1) = gi := by omega
      refine wp_exit ?_
      refine tX ?_
      refine tX ?_
      refine ib_same ?_
      refine tN ?_
      refine sq ?_
      refine wp_region_lit ?_
      refine st hF (g_assign hF rfl) rfl fun a hF => ?_
      refine wpList_nil ?_
      refine tN ?_
      refine wp_ret ?_
      refine fin1 rfl hF.defers (res_tmp hF rfl) ⟨_, rfl, hM.below, ?_⟩
      show _ = _
      exfalso; exact hinv1 (k - 1) (by omega) hz

theorem l05Index_N (p n : Nat) (T : Nat → Nat → Nat → Nat) (f v : Nat → Nat) (w : World) (hp : primeN p) (hn0 : 0 < n) (hn : n ≤ 6) (hTp : ∀ i j k, T i j k < p) (hT0 : ∀ i j k, n ≤ k → T i j k = 0) (hf : ∀ i, f i ≤ 255) (hv : ∀ i, v i ≤ 255) (hno : ∀ j, j ≤ n → ¬ eqV 6 (powW (timesV p n T) v v j) (fun _ => 0)) :
    CallsR Try.prog 38 #[.agg (algC (p : Int) (n : Int) T f), .agg (vecC v)] w (fun res _ => res = .int .i64 ((0 : Nat) : Int)) := by
  refine calls_fr [.agg (algC (p : Int) (n : Int) T f), .agg (vecC v)] Try.func38 rfl Try.ntmps38 rfl fun a hF => ?_
  have hM : Mem w w [none, none, none] [] := MemX.start w 3
  change Fr 23 a [(0, .agg (algC (p : Int) (n : Int) T f)), (1, .agg (vecC v))] at hF
  have hp2 := hp.two
  have hp13 := hp.le
  have hT : ∀ i j k, T i j k ≤ 255 := fun i j k => by have := hTp i j k; omega
  have hvp : ∀ k c, powW (timesV p n T) v v k c ≤ 255 := powW_le hv (fun x c => timesV_le (by omega) (by omega) x v c)
  refine sq ?_
  refine wp_region_lit ?_
  refine stR hF (d_box 0 hM hF rfl) rfl ?_
  rintro _ w' a ⟨b1, rfl, hM, -⟩ hF
  change Mem w w' [some (b1, algC (p : Int) (n : Int) T f), none, none] [] at hM
  refine stR hF (d_box 1 hM hF rfl) rfl ?_
  rintro _ w' a ⟨b2, rfl, hM, -⟩ hF
  change Mem w w' [some (b1, algC (p : Int) (n : Int) T f), some (b2, vecC v), none] [] at hM
  refine st hF (g_assign hF rfl) rfl fun a hF => ?_
  refine wpList_nil ?_
  refine tN ?_
  refine sq ?_
  refine wp_region_lit ?_
  refine st hF (g_loadAgg ty_ag_27 hF rfl (hM.row 1 rfl) (by simp only [fnC_size, cells_size, vecC_size, tabC_size, planeC_size] <;> omega) (whole (by simp only [fnC_size, cells_size, vecC_size, tabC_size, planeC_size]))) rfl fun a hF => ?_
  refine stR hF (d_alloc 2 hM ty_ze_27) rfl ?_
  rintro _ w' a ⟨b3, rfl, hM, -⟩ hF
  change Mem w w' [some (b1, algC (p : Int) (n : Int) T f), some (b2, vecC v), some (b3, fnC 6 (fun _ => .int .u8 (0)))] [] at hM
  refine stN hF (d_storeAgg 2 hM rfl ty_sz_27 hF rfl rfl (by first | exact vecC_one | exact cells_one | (refine fnC_one fun _ _ => ?_; first | rfl | (split <;> rfl))) (by simp only [fnC_size, cells_size, vecC_size, tabC_size, planeC_size]) (by simp only [fnC_size, cells_size, vecC_size, tabC_size, planeC_size] <;> omega) (splice_whole _ _ (by simp only [fnC_size, cells_size, vecC_size, tabC_size, planeC_size]))) ?_
  intro _ w' a hM hF
  change Mem w w' [some (b1, algC (p : Int) (n : Int) T f), some (b2, vecC v), some (b3, vecC v)] [] at hM
  refine wpList_nil ?_
  refine tN ?_
  refine sq ?_
  refine sq ?_
  refine wp_region_lit ?_
  refine st hF (g_assign hF rfl) rfl fun a hF => ?_
  refine wpList_nil ?_
  refine tN ?_
  refine wp_block ?_
  change Mem w _ [some (b1, algC (p : Int) (n : Int) T f), some (b2, vecC v), some (b3, vecC v)] [] at hM
  refine c_loop (fun (kk : Nat) a w' => kk ≤ (n + 1) ∧ (∀ j, j < kk → ¬ eqV 6 (powW (timesV p n T) v v j) (fun _ => 0)) ∧ Fr 23 a [(0, .agg (algC (p : Int) (n : Int) T f)), (1, .agg (vecC v)), (2, ptr b1 (0)), (3, ptr b2 (0)), (7, .agg (vecC v)), (5, ptr b3 (0)), (6, .int .i64 (((kk + 1 : Nat) : Int)))] ∧ Mem w w' [some (b1, algC (p : Int) (n : Int) T f), some (b2, vecC v), some (b3, vecC (powW (timesV p n T) v v kk))] []) (fun kk => (n + 1) - kk) 0 ?_ ?_
  ·
    refine ⟨by omega, fun j hj => absurd hj (by omega), hF.sub _ (by repeat' constructor), ?_⟩
    exact hM
  ·
    clear hF hM
    rintro gi a w' ⟨hgi, hinv1, hF, hM⟩
    have hvt := hvp gi
    refine sq ?_
    refine sq ?_
    refine wp_region_lit ?_
    refine st hF (g_move hF rfl) rfl fun a hF => st hF (g_fieldAddr ty_fo_31_1 hF rfl) rfl fun a hF => st hF (g_load ty_on_2 hF rfl (hM.row 0 rfl) (algC_n (by omega))) rfl fun a hF => st hF (g_add hF rfl rfl (add_nat (n) (1) (by omega))) rfl fun a hF => st hF (g_leq hF rfl rfl) rfl fun a hF => ?_
    refine wpList_nil ?_
    refine tN ?_
    refine c_cond hF rfl (fun h4 => ?_) (fun h4 => ?_)
    ·
      refine wp_skip ?_
      refine tN ?_
      refine sq ?_
      refine wp_block ?_
      refine sq ?_
      refine sq ?_
      refine wp_region_lit ?_
      refine st hF (g_loadAgg ty_ag_27 hF rfl (hM.row 2 rfl) (by simp only [fnC_size, cells_size, vecC_size, tabC_size, planeC_size] <;> omega) (whole (by simp only [fnC_size, cells_size, vecC_size, tabC_size, planeC_size]))) rfl fun a hF => st hF (g_build0 ty_bu_27) rfl fun a hF => st hF (g_eqlA ty_eg_27 hF rfl rfl (eqAt_vec ty_ae_27 ty_ip_5 ty_on_5)) rfl fun a hF => ?_
      refine wpList_nil ?_
      refine tN ?_
      refine c_cond hF rfl (fun h5 => ?_) (fun h5 => ?_)
      ·
        exact absurd (by assumption) (hno gi (by omega))
      ·
        refine wp_skip ?_
        refine tN ?_
        refine wp_region_lit ?_
        refine st hF (g_loadAgg ty_ag_31 hF rfl (hM.row 0 rfl) (by simp only [fnC_size, cells_size, vecC_size, tabC_size, planeC_size] <;> omega) (whole cells_size)) rfl fun a hF => st hF (g_loadAgg ty_ag_27 hF rfl (hM.row 2 rfl) (by simp only [fnC_size, cells_size, vecC_size, tabC_size, planeC_size] <;> omega) (whole (by simp only [fnC_size, cells_size, vecC_size, tabC_size, planeC_size]))) rfl fun a hF => st hF (g_loadAgg ty_ag_27 hF rfl (hM.row 1 rfl) (by simp only [fnC_size, cells_size, vecC_size, tabC_size, planeC_size] <;> omega) (whole (by simp only [fnC_size, cells_size, vecC_size, tabC_size, planeC_size]))) rfl fun a hF => ?_
        refine stR hF (d_call Try.call33 hF (.cons rfl (.cons rfl (.cons rfl .nil))) ((CallsR.val (l01Times_ok p n T f ((powW (timesV p n T) v v gi)) (v) _ (by omega) (by omega) (by omega) (fun _ _ _ => hT _ _ _) (fun _ => by first | exact hv _ | exact hvt _ | exact hvs _ | exact hu _ | exact hT _ _ _ | exact hf _ | omega | (split <;> omega) | (dsimp only; split <;> omega) | assumption) (fun _ => by first | exact hv _ | exact hvt _ | exact hvs _ | exact hu _ | exact hT _ _ _ | exact hf _ | omega | (split <;> omega) | (dsimp only; split <;> omega) | assumption)) (congrArg (fun v => Value.agg (vecC v)) (times_eq hT0 ((powW (timesV p n T) v v gi)) (v)).symm)))) rfl ?_
        rintro _ w' a ⟨hx, rfl⟩ hF
        have hM := hM.ext hx
        refine stN hF (d_storeAgg 2 hM rfl ty_sz_27 hF rfl rfl (by first | exact vecC_one | exact cells_one | (refine fnC_one fun _ _ => ?_; first | rfl | (split <;> rfl))) (by simp only [fnC_size, cells_size, vecC_size, tabC_size, planeC_size]) (by simp only [fnC_size, cells_size, vecC_size, tabC_size, planeC_size] <;> omega) (splice_whole _ _ (by simp only [fnC_size, cells_size, vecC_size, tabC_size, planeC_size]))) ?_
        intro _ w' a hM hF
        change Mem w w' [some (b1, algC (p : Int) (n : Int) T f), some (b2, vecC v), some (b3, vecC (timesV p n T ((powW (timesV p n T) v v gi)) (v)))] [] at hM
        refine wpList_nil ?_
        refine iN ?_
        refine tN ?_
        refine wp_region_lit ?_
        refine st hF (g_move hF rfl) rfl fun a hF => st hF (g_add hF rfl rfl (add_nat (gi + 1) (1) (by omega))) rfl fun a hF => st hF (g_assign hF rfl) rfl fun a hF => ?_
        refine wpList_nil ?_
        refine tN ?_
        refine ⟨gi + 1, ⟨by omega, nextS (P := fun j => eqV 6 (powW (timesV p n T) v v j) (fun _ => 0)) hinv1 (by assumption), hF.sub _ (by repeat' constructor), ?_⟩, by omega⟩
        exact hM
    ·
      obtain rfl : (n + 1) = gi := by omega
      refine wp_exit ?_
      refine tX ?_
      refine tX ?_
      refine ib_same ?_
      refine tN ?_
      refine sq ?_
      refine wp_region_lit ?_
      refine st hF (g_assign hF rfl) rfl fun a hF => ?_
      refine wpList_nil ?_
      refine tN ?_
      refine wp_ret ?_
      refine fin1 rfl hF.defers (res_tmp hF rfl) ⟨_, rfl, hM.below, ?_⟩
      show _ = _
      rfl

theorem NilIndexSA (p n : Int) (T : Nat → Nat → Nat → Nat) (f : Nat → Nat) (v : Nat → Nat) (w : World) (hT : ∀ i j k, T i j k ≤ 255) (hf : ∀ i, f i ≤ 255) (hv : ∀ i, v i ≤ 255) (hc : ¬ CodeP p n T f 1 (vAtL [v])) :
    CallsR Try.prog 16 #[.agg (algC p n T f), .agg (vecC v)] w (fun res _ => res = .tuple #[.int .i64 0, .int .i64 1]) := by
  refine calls_fr [.agg (algC p n T f), .agg (vecC v)] Try.func16 rfl Try.ntmps16 rfl fun a hF => ?_
  have hM : Mem w w [none, none, none] [] := MemX.start w 3
  change Fr 21 a [(0, .agg (algC p n T f)), (1, .agg (vecC v))] at hF
  have hVb : ∀ i c, vAtL [v] i c ≤ 255 := vAtL_le (fun x hx => by simp at hx; subst hx <;> assumption)
  refine sq ?_
  refine wp_region_lit ?_
  refine stR hF (d_box 0 hM hF rfl) rfl ?_
  rintro _ w' a ⟨b1, rfl, hM, -⟩ hF
  change Mem w w' [some (b1, algC p n T f), none, none] [] at hM
  refine stR hF (d_box 1 hM hF rfl) rfl ?_
  rintro _ w' a ⟨b2, rfl, hM, -⟩ hF
  change Mem w w' [some (b1, algC p n T f), some (b2, vecC v), none] [] at hM
  refine st hF (g_assign hF rfl) rfl fun a hF => st hF (g_assign hF rfl) rfl fun a hF => ?_
  refine wpList_nil ?_
  refine tN ?_
  refine sq ?_
  refine sq ?_
  refine wp_region_lit ?_
  refine st hF (g_loadAgg ty_ag_31 hF rfl (hM.row 0 rfl) (by simp only [fnC_size, cells_size, vecC_size, tabC_size, planeC_size] <;> omega) (whole cells_size)) rfl fun a hF => st hF (g_loadAgg ty_ag_27 hF rfl (hM.row 1 rfl) (by simp only [fnC_size, cells_size, vecC_size, tabC_size, planeC_size] <;> omega) (whole (by simp only [fnC_size, cells_size, vecC_size, tabC_size, planeC_size]))) rfl fun a hF => ?_
  refine stR hF (d_buildC (vs := [(0, .agg (vecC v))]) 2 hM hF (build1 hF rfl) (fun w => ty_bsg_46_1 v w)) rfl ?_
  rintro _ w' a ⟨b3, rfl, hM, -⟩ hF
  change Mem w w' [some (b1, algC p n T f), some (b2, vecC v), some (b3, vecsC 1 (vAtL [v]))] [] at hM
  refine stR hF (d_call Try.call30 hF (.cons rfl (.cons rfl .nil)) ((CallsR.val (l01Code_ok p n T f b3 1 1 (vAtL [v]) _ (fun _ _ _ => hT _ _ _) (fun _ => hf _) hVb (by omega) (hM.row 2 rfl)) (congrArg (Value.int .i64) (if_neg hc))))) rfl ?_
  rintro _ w' a ⟨hx, rfl⟩ hF
  have hM := hM.ext hx
  refine st hF (g_assign hF rfl) rfl fun a hF => ?_
  refine wpList_nil ?_
  refine tN ?_
  refine sq ?_
  refine wp_region_lit ?_
  refine st hF (g_move hF rfl) rfl fun a hF => st hF (g_neq hF rfl rfl) rfl fun a hF => ?_
  refine wpList_nil ?_
  refine tN ?_
  refine c_kT hF rfl (by decide) ?_
  refine sq ?_
  refine wp_region_lit ?_
  refine st hF (g_move hF rfl) rfl fun a hF => st hF (g_assign hF rfl) rfl fun a hF => st hF (g_assign hF rfl) rfl fun a hF => ?_
  refine wpList_nil ?_
  refine tN ?_
  refine wp_ret ?_
  refine tR ?_
  refine fin2 rfl hF.defers (res_tmp hF rfl) (res_tmp hF rfl) ⟨_, rfl, hM.below, ?_⟩
  show _ = _
  rfl

theorem NilIndexSY (p n : Nat) (T : Nat → Nat → Nat → Nat) (f : Nat → Nat) (v : Nat → Nat) (w : World) (hp : primeN p) (hn0 : 0 < n) (hn : n ≤ 6) (hTp : ∀ i j k, T i j k < p) (hT0 : ∀ i j k, n ≤ k → T i j k = 0) (hf : ∀ i, f i ≤ 255) (hv : ∀ i, v i ≤ 255) (k : Nat) (hk1 : 1 ≤ k) (hkn : k ≤ n) (hz : eqV 6 (powW (timesV p n T) v v (k - 1)) (fun _ => 0)) (hlow : ∀ j, j + 1 < k → ¬ eqV 6 (powW (timesV p n T) v v j) (fun _ => 0)) (hc : CodeP (p : Int) (n : Int) T f 1 (vAtL [v])) :
    CallsR Try.prog 16 #[.agg (algC (p : Int) (n : Int) T f), .agg (vecC v)] w (fun res _ => res = .tuple #[.int .i64 ((k : Nat) : Int), .int .i64 0]) := by
  refine calls_fr [.agg (algC (p : Int) (n : Int) T f), .agg (vecC v)] Try.func16 rfl Try.ntmps16 rfl fun a hF => ?_
  have hM : Mem w w [none, none, none] [] := MemX.start w 3
  change Fr 21 a [(0, .agg (algC (p : Int) (n : Int) T f)), (1, .agg (vecC v))] at hF
  have hp2 := hp.two
  have hp13 := hp.le
  have hT : ∀ i j k, T i j k ≤ 255 := fun i j k => by have := hTp i j k; omega
  have hVb : ∀ i c, vAtL [v] i c ≤ 255 := vAtL_le (fun x hx => by simp at hx; subst hx <;> assumption)
  refine sq ?_
  refine wp_region_lit ?_
  refine stR hF (d_box 0 hM hF rfl) rfl ?_
  rintro _ w' a ⟨b1, rfl, hM, -⟩ hF
  change Mem w w' [some (b1, algC (p : Int) (n : Int) T f), none, none] [] at hM
  refine stR hF (d_box 1 hM hF rfl) rfl ?_
  rintro _ w' a ⟨b2, rfl, hM, -⟩ hF
  change Mem w w' [some (b1, algC (p : Int) (n : Int) T f), some (b2, vecC v), none] [] at hM
  refine st hF (g_assign hF rfl) rfl fun a hF => st hF (g_assign hF rfl) rfl fun a hF => ?_
  refine wpList_nil ?_
  refine tN ?_
  refine sq ?_
  refine sq ?_
  refine wp_region_lit ?_
  refine st hF (g_loadAgg ty_ag_31 hF rfl (hM.row 0 rfl) (by simp only [fnC_size, cells_size, vecC_size, tabC_size, planeC_size] <;> omega) (whole cells_size)) rfl fun a hF => st hF (g_loadAgg ty_ag_27 hF rfl (hM.row 1 rfl) (by simp only [fnC_size, cells_size, vecC_size, tabC_size, planeC_size] <;> omega) (whole (by simp only [fnC_size, cells_size, vecC_size, tabC_size, planeC_size]))) rfl fun a hF => ?_
  refine stR hF (d_buildC (vs := [(0, .agg (vecC v))]) 2 hM hF (build1 hF rfl) (fun w => ty_bsg_46_1 v w)) rfl ?_
  rintro _ w' a ⟨b3, rfl, hM, -⟩ hF
  change Mem w w' [some (b1, algC (p : Int) (n : Int) T f), some (b2, vecC v), some (b3, vecsC 1 (vAtL [v]))] [] at hM
  refine stR hF (d_call Try.call30 hF (.cons rfl (.cons rfl .nil)) ((CallsR.val (l01Code_ok (p : Int) (n : Int) T f b3 1 1 (vAtL [v]) _ (fun _ _ _ => hT _ _ _) (fun _ => hf _) hVb (by omega) (hM.row 2 rfl)) (congrArg (Value.int .i64) (if_pos hc))))) rfl ?_
  rintro _ w' a ⟨hx, rfl⟩ hF
  have hM := hM.ext hx
  refine st hF (g_assign hF rfl) rfl fun a hF => ?_
  refine wpList_nil ?_
  refine tN ?_
  refine sq ?_
  refine wp_region_lit ?_
  refine st hF (g_move hF rfl) rfl fun a hF => st hF (g_neq hF rfl rfl) rfl fun a hF => ?_
  refine wpList_nil ?_
  refine tN ?_
  refine c_kF hF rfl (by decide) ?_
  refine wp_skip ?_
  refine tN ?_
  refine sq ?_
  refine wp_region_lit ?_
  refine st hF (g_loadAgg ty_ag_31 hF rfl (hM.row 0 rfl) (by simp only [fnC_size, cells_size, vecC_size, tabC_size, planeC_size] <;> omega) (whole cells_size)) rfl fun a hF => st hF (g_loadAgg ty_ag_27 hF rfl (hM.row 1 rfl) (by simp only [fnC_size, cells_size, vecC_size, tabC_size, planeC_size] <;> omega) (whole (by simp only [fnC_size, cells_size, vecC_size, tabC_size, planeC_size]))) rfl fun a hF => ?_
  refine stR hF (d_call Try.call38 hF (.cons rfl (.cons rfl .nil)) (l05Index_Y p n T f (v) _ hp hn0 hn hTp hT0 hf hv k hk1 hkn hz hlow)) rfl ?_
  rintro _ w' a ⟨hx, rfl⟩ hF
  have hM := hM.ext hx
  refine st hF (g_assign hF rfl) rfl fun a hF => ?_
  refine wpList_nil ?_
  refine tN ?_
  refine sq ?_
  refine sq ?_
  refine wp_region_lit ?_
  refine st hF (g_move hF rfl) rfl fun a hF => st hF (g_eql hF rfl rfl) rfl fun a hF => ?_
  refine wpList_nil ?_
  refine tN ?_
  refine c_cond hF rfl (fun h5 => ?_) (fun h5 => ?_)
  ·
    exfalso; omega
  ·
    refine wp_skip ?_
    refine tN ?_
    refine sq ?_
    refine wp_region_lit ?_
    refine st hF (g_move hF rfl) rfl fun a hF => st hF (g_assign hF rfl) rfl fun a hF => st hF (g_assign hF rfl) rfl fun a hF => ?_
    refine wpList_nil ?_
    refine tN ?_
    refine wp_ret ?_
    refine fin2 rfl hF.defers (res_tmp hF rfl) (res_tmp hF rfl) ⟨_, rfl, hM.below, ?_⟩
    show _ = _
    rfl

theorem NilIndexSN (p n : Nat) (T : Nat → Nat → Nat → Nat) (f : Nat → Nat) (v : Nat → Nat) (w : World) (hp : primeN p) (hn0 : 0 < n) (hn : n ≤ 6) (hTp : ∀ i j k, T i j k < p) (hT0 : ∀ i j k, n ≤ k → T i j k = 0) (hf : ∀ i, f i ≤ 255) (hv : ∀ i, v i ≤ 255) (hno : ∀ j, j ≤ n → ¬ eqV 6 (powW (timesV p n T) v v j) (fun _ => 0)) (hc : CodeP (p : Int) (n : Int) T f 1 (vAtL [v])) :
    CallsR Try.prog 16 #[.agg (algC (p : Int) (n : Int) T f), .agg (vecC v)] w (fun res _ => res = .tuple #[.int .i64 0, .int .i64 4]) := by
  refine calls_fr [.agg (algC (p : Int) (n : Int) T f), .agg (vecC v)] Try.func16 rfl Try.ntmps16 rfl fun a hF => ?_
  have hM : Mem w w [none, none, none] [] := MemX.start w 3
  change Fr 21 a [(0, .agg (algC (p : Int) (n : Int) T f)), (1, .agg (vecC v))] at hF
  have hp2 := hp.two
  have hp13 := hp.le
  have hT : ∀ i j k, T i j k ≤ 255 := fun i j k => by have := hTp i j k; omega
  have hVb : ∀ i c, vAtL [v] i c ≤ 255 := vAtL_le (fun x hx => by simp at hx; subst hx <;> assumption)
  refine sq ?_
  refine wp_region_lit ?_
  refine stR hF (d_box 0 hM hF rfl) rfl ?_
  rintro _ w' a ⟨b1, rfl, hM, -⟩ hF
  change Mem w w' [some (b1, algC (p : Int) (n : Int) T f), none, none] [] at hM
  refine stR hF (d_box 1 hM hF rfl) rfl ?_
  rintro _ w' a ⟨b2, rfl, hM, -⟩ hF
  change Mem w w' [some (b1, algC (p : Int) (n : Int) T f), some (b2, vecC v), none] [] at hM
  refine st hF (g_assign hF rfl) rfl fun a hF => st hF (g_assign hF rfl) rfl fun a hF => ?_
  refine wpList_nil ?_
  refine tN ?_
  refine sq ?_
  refine sq ?_
  refine wp_region_lit ?_
  refine st hF (g_loadAgg ty_ag_31 hF rfl (hM.row 0 rfl) (by simp only [fnC_size, cells_size, vecC_size, tabC_size, planeC_size] <;> omega) (whole cells_size)) rfl fun a hF => st hF (g_loadAgg ty_ag_27 hF rfl (hM.row 1 rfl) (by simp only [fnC_size, cells_size, vecC_size, tabC_size, planeC_size] <;> omega) (whole (by simp only [fnC_size, cells_size, vecC_size, tabC_size, planeC_size]))) rfl fun a hF => ?_
  refine stR hF (d_buildC (vs := [(0, .agg (vecC v))]) 2 hM hF (build1 hF rfl) (fun w => ty_bsg_46_1 v w)) rfl ?_
  rintro _ w' a ⟨b3, rfl, hM, -⟩ hF
  change Mem w w' [some (b1, algC (p : Int) (n : Int) T f), some (b2, vecC v), some (b3, vecsC 1 (vAtL [v]))] [] at hM
  refine stR hF (d_call Try.call30 hF (.cons rfl (.cons rfl .nil)) ((CallsR.val (l01Code_ok (p : Int) (n : Int) T f b3 1 1 (vAtL [v]) _ (fun _ _ _ => hT _ _ _) (fun _ => hf _) hVb (by omega) (hM.row 2 rfl)) (congrArg (Value.int .i64) (if_pos hc))))) rfl ?_
  rintro _ w' a ⟨hx, rfl⟩ hF
  have hM := hM.ext hx
  refine st hF (g_assign hF rfl) rfl fun a hF => ?_
  refine wpList_nil ?_
  refine tN ?_
  refine sq ?_
  refine wp_region_lit ?_
  refine st hF (g_move hF rfl) rfl fun a hF => st hF (g_neq hF rfl rfl) rfl fun a hF => ?_
  refine wpList_nil ?_
  refine tN ?_
  refine c_kF hF rfl (by decide) ?_
  refine wp_skip ?_
  refine tN ?_
  refine sq ?_
  refine wp_region_lit ?_
  refine st hF (g_loadAgg ty_ag_31 hF rfl (hM.row 0 rfl) (by simp only [fnC_size, cells_size, vecC_size, tabC_size, planeC_size] <;> omega) (whole cells_size)) rfl fun a hF => st hF (g_loadAgg ty_ag_27 hF rfl (hM.row 1 rfl) (by simp only [fnC_size, cells_size, vecC_size, tabC_size, planeC_size] <;> omega) (whole (by simp only [fnC_size, cells_size, vecC_size, tabC_size, planeC_size]))) rfl fun a hF => ?_
  refine stR hF (d_call Try.call38 hF (.cons rfl (.cons rfl .nil)) (l05Index_N p n T f (v) _ hp hn0 hn hTp hT0 hf hv hno)) rfl ?_
  rintro _ w' a ⟨hx, rfl⟩ hF
  have hM := hM.ext hx
  refine st hF (g_assign hF rfl) rfl fun a hF => ?_
  refine wpList_nil ?_
  refine tN ?_
  refine sq ?_
  refine sq ?_
  refine wp_region_lit ?_
  refine st hF (g_move hF rfl) rfl fun a hF => st hF (g_eql hF rfl rfl) rfl fun a hF => ?_
  refine wpList_nil ?_
  refine tN ?_
  refine c_kT hF rfl (by decide) ?_
  refine sq ?_
  refine wp_region_lit ?_
  refine st hF (g_assign hF rfl) rfl fun a hF => st hF (g_assign hF rfl) rfl fun a hF => ?_
  refine wpList_nil ?_
  refine tN ?_
  refine wp_ret ?_
  refine tR ?_
  refine fin2 rfl hF.defers (res_tmp hF rfl) (res_tmp hF rfl) ⟨_, rfl, hM.below, ?_⟩
  show _ = _
  rfl

theorem NilIndexIA (p n : Int) (T : Nat → Nat → Nat → Nat) (f : Nat → Nat) (v : Nat → Nat) (w : World) (hT : ∀ i j k, T i j k ≤ 255) (hf : ∀ i, f i ≤ 255) (hv : ∀ i, v i ≤ 255) (hc : ¬ CodeP p n T f 1 (vAtL [v])) :
    CallsR Try.prog 17 #[.agg (algC p n T f), .agg (vecC v)] w (fun res _ => res = .tuple #[.int .i64 0, .int .i64 1]) := by
  refine calls_fr [.agg (algC p n T f), .agg (vecC v)] Try.func17 rfl Try.ntmps17 rfl fun a hF => ?_
  have hM : Mem w w [none, none, none, none] [] := MemX.start w 4
  change Fr 28 a [(0, .agg (algC p n T f)), (1, .agg (vecC v))] at hF
  have hVb : ∀ i c, vAtL [v] i c ≤ 255 := vAtL_le (fun x hx => by simp at hx; subst hx <;> assumption)
  refine sq ?_
  refine wp_region_lit ?_
  refine stR hF (d_box 0 hM hF rfl) rfl ?_
  rintro _ w' a ⟨b1, rfl, hM, -⟩ hF
  change Mem w w' [some (b1, algC p n T f), none, none, none] [] at hM
  refine stR hF (d_box 1 hM hF rfl) rfl ?_
  rintro _ w' a ⟨b2, rfl, hM, -⟩ hF
  change Mem w w' [some (b1, algC p n T f), some (b2, vecC v), none, none] [] at hM
  refine st hF (g_assign hF rfl) rfl fun a hF => st hF (g_assign hF rfl) rfl fun a hF => ?_
  refine wpList_nil ?_
  refine tN ?_
  refine sq ?_
  refine sq ?_
  refine wp_region_lit ?_
  refine st hF (g_loadAgg ty_ag_31 hF rfl (hM.row 0 rfl) (by simp only [fnC_size, cells_size, vecC_size, tabC_size, planeC_size] <;> omega) (whole cells_size)) rfl fun a hF => st hF (g_loadAgg ty_ag_27 hF rfl (hM.row 1 rfl) (by simp only [fnC_size, cells_size, vecC_size, tabC_size, planeC_size] <;> omega) (whole (by simp only [fnC_size, cells_size, vecC_size, tabC_size, planeC_size]))) rfl fun a hF => ?_
  refine stR hF (d_buildC (vs := [(0, .agg (vecC v))]) 2 hM hF (build1 hF rfl) (fun w => ty_bsg_46_1 v w)) rfl ?_
  rintro _ w' a ⟨b3, rfl, hM, -⟩ hF
  change Mem w w' [some (b1, algC p n T f), some (b2, vecC v), some (b3, vecsC 1 (vAtL [v])), none] [] at hM
  refine stR hF (d_call Try.call35 hF (.cons rfl (.cons rfl .nil)) ((CallsR.val (areVectors_ok p n T f b3 1 1 (vAtL [v]) _ (fun _ _ _ => hT _ _ _) (fun _ => hf _) hVb (by omega) (hM.row 2 rfl)) (congrArg Value.bool (decide_eq_false hc))))) rfl ?_
  rintro _ w' a ⟨hx, rfl⟩ hF
  have hM := hM.ext hx
  refine st hF (g_not hF rfl) rfl fun a hF => ?_
  refine wpList_nil ?_
  refine tN ?_
  refine c_T hF rfl ?_
  refine sq ?_
  refine wp_region_lit ?_
  refine st hF (g_assign hF rfl) rfl fun a hF => st hF (g_assign hF rfl) rfl fun a hF => ?_
  refine wpList_nil ?_
  refine tN ?_
  refine wp_ret ?_
  refine tR ?_
  refine fin2 rfl hF.defers (res_tmp hF rfl) (res_tmp hF rfl) ⟨_, rfl, hM.below, ?_⟩
  show _ = _
  rfl

theorem NilIndexIY (p n : Nat) (T : Nat → Nat → Nat → Nat) (f : Nat → Nat) (v : Nat → Nat) (w : World) (hp : primeN p) (hn0 : 0 < n) (hn : n ≤ 6) (hTp : ∀ i j k, T i j k < p) (hT0 : ∀ i j k, n ≤ k → T i j k = 0) (hf : ∀ i, f i ≤ 255) (hv : ∀ i, v i ≤ 255) (k : Nat) (hk1 : 1 ≤ k) (hkn : k ≤ n) (hz : eqV 6 (powW (timesV p n T) v v (k - 1)) (fun _ => 0)) (hlow : ∀ j, j + 1 < k → ¬ eqV 6 (powW (timesV p n T) v v j) (fun _ => 0)) (hc : CodeP (p : Int) (n : Int) T f 1 (vAtL [v])) :
    CallsR Try.prog 17 #[.agg (algC (p : Int) (n : Int) T f), .agg (vecC v)] w (fun res _ => res = .tuple #[.int .i64 ((k : Nat) : Int), .int .i64 0]) := by
  refine calls_fr [.agg (algC (p : Int) (n : Int) T f), .agg (vecC v)] Try.func17 rfl Try.ntmps17 rfl fun a hF => ?_
  have hM : Mem w w [none, none, none, none] [] := MemX.start w 4
  change Fr 28 a [(0, .agg (algC (p : Int) (n : Int) T f)), (1, .agg (vecC v))] at hF
  have hp2 := hp.two
  have hp13 := hp.le
  have hT : ∀ i j k, T i j k ≤ 255 := fun i j k => by have := hTp i j k; omega
  have hvp : ∀ k c, powW (timesV p n T) v v k c ≤ 255 := powW_le hv (fun x c => timesV_le (by omega) (by omega) x v c)
  have hVb : ∀ i c, vAtL [v] i c ≤ 255 := vAtL_le (fun x hx => by simp at hx; subst hx; assumption)
  refine sq ?_
  refine wp_region_lit ?_
  refine stR hF (d_box 0 hM hF rfl) rfl ?_
  rintro _ w' a ⟨b1, rfl, hM, -⟩ hF
  change Mem w w' [some (b1, algC (p : Int) (n : Int) T f), none, none, none] [] at hM
  refine stR hF (d_box 1 hM hF rfl) rfl ?_
  rintro _ w' a ⟨b2, rfl, hM, -⟩ hF
  change Mem w w' [some (b1, algC (p : Int) (n : Int) T f), some (b2, vecC v), none, none] [] at hM
  refine st hF (g_assign hF rfl) rfl fun a hF => st hF (g_assign hF rfl) rfl fun a hF => ?_
  refine wpList_nil ?_
  refine tN ?_
  refine sq ?_
  refine sq ?_
  refine wp_region_lit ?_
  refine st hF (g_loadAgg ty_ag_31 hF rfl (hM.row 0 rfl) (by simp only [fnC_size, cells_size, vecC_size, tabC_size, planeC_size] <;> omega) (whole cells_size)) rfl fun a hF => st hF (g_loadAgg ty_ag_27 hF rfl (hM.row 1 rfl) (by simp only [fnC_size, cells_size, vecC_size, tabC_size, planeC_size] <;> omega) (whole (by simp only [fnC_size, cells_size, vecC_size, tabC_size, planeC_size]))) rfl fun a hF => ?_
  refine stR hF (d_buildC (vs := [(0, .agg (vecC v))]) 2 hM hF (build1 hF rfl) (fun w => ty_bsg_46_1 v w)) rfl ?_
  rintro _ w' a ⟨b3, rfl, hM, -⟩ hF
  change Mem w w' [some (b1, algC (p : Int) (n : Int) T f), some (b2, vecC v), some (b3, vecsC 1 (vAtL [v])), none] [] at hM
  refine stR hF (d_call Try.call35 hF (.cons rfl (.cons rfl .nil)) ((CallsR.val (areVectors_ok (p : Int) (n : Int) T f b3 1 1 (vAtL [v]) _ (fun _ _ _ => hT _ _ _) (fun _ => hf _) hVb (by omega) (hM.row 2 rfl)) (congrArg Value.bool (decide_eq_true hc))))) rfl ?_
  rintro _ w' a ⟨hx, rfl⟩ hF
  have hM := hM.ext hx
  refine st hF (g_not hF rfl) rfl fun a hF => ?_
  refine wpList_nil ?_
  refine tN ?_
  refine c_Fl hF rfl ?_
  refine wp_skip ?_
  refine tN ?_
  refine sq ?_
  refine wp_region_lit ?_
  refine st hF (g_loadAgg ty_ag_27 hF rfl (hM.row 1 rfl) (by simp only [fnC_size, cells_size, vecC_size, tabC_size, planeC_size] <;> omega) (whole (by simp only [fnC_size, cells_size, vecC_size, tabC_size, planeC_size]))) rfl fun a hF => ?_
  refine stR hF (d_alloc 3 hM ty_ze_27) rfl ?_
  rintro _ w' a ⟨b5, rfl, hM, -⟩ hF
  change Mem w w' [some (b1, algC (p : Int) (n : Int) T f), some (b2, vecC v), some (b3, vecsC 1 (vAtL [v])), some (b5, fnC 6 (fun _ => .int .u8 (0)))] [] at hM
  refine stN hF (d_storeAgg 3 hM rfl ty_sz_27 hF rfl rfl (by first | exact vecC_one | exact cells_one | (refine fnC_one fun _ _ => ?_; first | rfl | (split <;> rfl))) (by simp only [fnC_size, cells_size, vecC_size, tabC_size, planeC_size]) (by simp only [fnC_size, cells_size, vecC_size, tabC_size, planeC_size] <;> omega) (splice_whole _ _ (by simp only [fnC_size, cells_size, vecC_size, tabC_size, planeC_size]))) ?_
  intro _ w' a hM hF
  change Mem w w' [some (b1, algC (p : Int) (n : Int) T f), some (b2, vecC v), some (b3, vecsC 1 (vAtL [v])), some (b5, vecC v)] [] at hM
  refine wpList_nil ?_
  refine tN ?_
  refine sq ?_
  refine sq ?_
  refine wp_region_lit ?_
  refine st hF (g_assign hF rfl) rfl fun a hF => ?_
  refine wpList_nil ?_
  refine tN ?_
  refine wp_block ?_
  change Mem w _ [some (b1, algC (p : Int) (n : Int) T f), some (b2, vecC v), some (b3, vecsC 1 (vAtL [v])), some (b5, vecC v)] [] at hM
  refine c_loop (fun (kk : Nat) a w' => kk ≤ n ∧ (∀ j, j < kk → ¬ eqV 6 (powW (timesV p n T) v v j) (fun _ => 0)) ∧ Fr 28 a [(0, .agg (algC (p : Int) (n : Int) T f)), (1, .agg (vecC v)), (2, ptr b1 (0)), (3, ptr b2 (0)), (8, .agg (algC (p : Int) (n : Int) T f)), (9, .agg (vecC v)), (10, .slice (some ⟨b3, 0, none⟩) (1) (1)), (11, .bool (true)), (12, .bool (false)), (13, .agg (vecC v)), (6, ptr b5 (0)), (7, .int .i64 (((kk + 1 : Nat) : Int)))] ∧ Mem w w' [some (b1, algC (p : Int) (n : Int) T f), some (b2, vecC v), some (b3, vecsC 1 (vAtL [v])), some (b5, vecC (powW (timesV p n T) v v kk))] []) (fun kk => n - kk) 0 ?_ ?_
  ·
    refine ⟨by omega, fun j hj => absurd hj (by omega), hF.sub _ (by repeat' constructor), ?_⟩
    exact hM
  ·
    clear hF hM
    rintro gi a w' ⟨hgi, hinv1, hF, hM⟩
    have hvt := hvp gi
    refine sq ?_
    refine sq ?_
    refine wp_region_lit ?_
    refine st hF (g_move hF rfl) rfl fun a hF => st hF (g_fieldAddr ty_fo_31_1 hF rfl) rfl fun a hF => st hF (g_load ty_on_2 hF rfl (hM.row 0 rfl) (algC_n (by omega))) rfl fun a hF => st hF (g_leq hF rfl rfl) rfl fun a hF => ?_
    refine wpList_nil ?_
    refine tN ?_
    refine c_cond hF rfl (fun h6 => ?_) (fun h6 => ?_)
    ·
      refine wp_skip ?_
      refine tN ?_
      refine sq ?_
      refine wp_block ?_
      refine sq ?_
      refine sq ?_
      refine wp_region_lit ?_
      refine st hF (g_loadAgg ty_ag_27 hF rfl (hM.row 3 rfl) (by simp only [fnC_size, cells_size, vecC_size, tabC_size, planeC_size] <;> omega) (whole (by simp only [fnC_size, cells_size, vecC_size, tabC_size, planeC_size]))) rfl fun a hF => st hF (g_build0 ty_bu_27) rfl fun a hF => st hF (g_eqlA ty_eg_27 hF rfl rfl (eqAt_vec ty_ae_27 ty_ip_5 ty_on_5)) rfl fun a hF => ?_
      refine wpList_nil ?_
      refine tN ?_
      refine c_cond hF rfl (fun h7 => ?_) (fun h7 => ?_)
      ·
        obtain rfl := first_at (P := fun j => eqV 6 (powW (timesV p n T) v v j) (fun _ => 0)) hk1 hz hlow hinv1 (by assumption)
        refine sq ?_
        refine wp_region_lit ?_
        refine st hF (g_move hF rfl) rfl fun a hF => st hF (g_assign hF rfl) rfl fun a hF => st hF (g_assign hF rfl) rfl fun a hF => ?_
        refine wpList_nil ?_
        refine tN ?_
        refine wp_ret ?_
        refine tR ?_
        refine iR ?_
        refine tR ?_
        refine tR ?_
        refine iR ?_
        refine tR ?_
        refine fin2 rfl hF.defers (res_tmp hF rfl) (res_tmp hF rfl) ⟨_, rfl, hM.below, ?_⟩
        show _ = _
        rfl
      ·
        refine wp_skip ?_
        refine tN ?_
        refine wp_region_lit ?_
        refine st hF (g_loadAgg ty_ag_31 hF rfl (hM.row 0 rfl) (by simp only [fnC_size, cells_size, vecC_size, tabC_size, planeC_size] <;> omega) (whole cells_size)) rfl fun a hF => st hF (g_loadAgg ty_ag_27 hF rfl (hM.row 3 rfl) (by simp only [fnC_size, cells_size, vecC_size, tabC_size, planeC_size] <;> omega) (whole (by simp only [fnC_size, cells_size, vecC_size, tabC_size, planeC_size]))) rfl fun a hF => st hF (g_loadAgg ty_ag_27 hF rfl (hM.row 1 rfl) (by simp only [fnC_size, cells_size, vecC_size, tabC_size, planeC_size] <;> omega) (whole (by simp only [fnC_size, cells_size, vecC_size, tabC_size, planeC_size]))) rfl fun a hF => ?_
        refine stR hF (d_call Try.call37 hF (.cons rfl (.cons rfl (.cons rfl .nil))) (product_ok p n T f ((powW (timesV p n T) v v gi)) (v) _ (by omega) (by omega) (by omega) (fun _ _ _ => hT _ _ _) (fun _ => by first | exact hv _ | exact hvt _ | exact hvs _ | exact hu _ | exact hT _ _ _ | exact hf _ | omega | (split <;> omega) | (dsimp only; split <;> omega) | assumption) (fun _ => by first | exact hv _ | exact hvt _ | exact hvs _ | exact hu _ | exact hT _ _ _ | exact hf _ | omega | (split <;> omega) | (dsimp only; split <;> omega) | assumption))) rfl ?_
        rintro _ w' a ⟨hx, rfl⟩ hF
        have hM := hM.ext hx
        refine stN hF (d_storeAgg 3 hM rfl ty_sz_27 hF rfl rfl (by first | exact vecC_one | exact cells_one | (refine fnC_one fun _ _ => ?_; first | rfl | (split <;> rfl))) (by simp only [fnC_size, cells_size, vecC_size, tabC_size, planeC_size]) (by simp only [fnC_size, cells_size, vecC_size, tabC_size, planeC_size] <;> omega) (splice_whole _ _ (by simp only [fnC_size, cells_size, vecC_size, tabC_size, planeC_size]))) ?_
        intro _ w' a hM hF
        change Mem w w' [some (b1, algC (p : Int) (n : Int) T f), some (b2, vecC v), some (b3, vecsC 1 (vAtL [v])), some (b5, vecC (timesV p n T ((powW (timesV p n T) v v gi)) (v)))] [] at hM
        refine wpList_nil ?_
        refine iN ?_
        refine tN ?_
        refine wp_region_lit ?_
        refine st hF (g_move hF rfl) rfl fun a hF => st hF (g_add hF rfl rfl (add_nat (gi + 1) (1) (by omega))) rfl fun a hF => st hF (g_assign hF rfl) rfl fun a hF => ?_
        refine wpList_nil ?_
        refine tN ?_
        refine ⟨gi + 1, ⟨by omega, nextS (P := fun j => eqV 6 (powW (timesV p n T) v v j) (fun _ => 0)) hinv1 (by assumption), hF.sub _ (by repeat' constructor), ?_⟩, by omega⟩
        exact hM
    ·
      obtain rfl : n = gi := by omega
      refine wp_exit ?_
      refine tX ?_
      refine tX ?_
      refine ib_same ?_
      refine tN ?_
      refine sq ?_
      refine wp_region_lit ?_
      refine st hF (g_assign hF rfl) rfl fun a hF => st hF (g_assign hF rfl) rfl fun a hF => ?_
      refine wpList_nil ?_
      refine tN ?_
      refine wp_ret ?_
      refine fin2 rfl hF.defers (res_tmp hF rfl) (res_tmp hF rfl) ⟨_, rfl, hM.below, ?_⟩
      show _ = _
      exfalso; exact hinv1 (k - 1) (by omega) hz

theorem NilIndexIN (p n : Nat) (T : Nat → Nat → Nat → Nat) (f : Nat → Nat) (v : Nat → Nat) (w : World) (hp : primeN p) (hn0 : 0 < n) (hn : n ≤ 6) (hTp : ∀ i j k, T i j k < p) (hT0 : ∀ i j k, n ≤ k → T i j k = 0) (hf : ∀ i, f i ≤ 255) (hv : ∀ i, v i ≤ 255) (hno : ∀ j, j ≤ n → ¬ eqV 6 (powW (timesV p n T) v v j) (fun _ => 0)) (hc : CodeP (p : Int) (n : Int) T f 1 (vAtL [v])) :
    CallsR Try.prog 17 #[.agg (algC (p : Int) (n : Int) T f), .agg (vecC v)] w (fun res _ => res = .tuple #[.int .i64 0, .int .i64 4]) := by
  refine calls_fr [.agg (algC (p : Int) (n : Int) T f), .agg (vecC v)] Try.func17 rfl Try.ntmps17 rfl fun a hF => ?_
  have hM : Mem w w [none, none, none, none] [] := MemX.start w 4
  change Fr 28 a [(0, .agg (algC (p : Int) (n : Int) T f)), (1, .agg (vecC v))] at hF
  have hp2 := hp.two
  have hp13 := hp.le
  have hT : ∀ i j k, T i j k ≤ 255 := fun i j k => by have := hTp i j k; omega
  have hvp : ∀ k c, powW (timesV p n T) v v k c ≤ 255 := powW_le hv (fun x c => timesV_le (by omega) (by omega) x v c)
  have hVb : ∀ i c, vAtL [v] i c ≤ 255 := vAtL_le (fun x hx => by simp at hx; subst hx; assumption)
  refine sq ?_
  refine wp_region_lit ?_
  refine stR hF (d_box 0 hM hF rfl) rfl ?_
  rintro _ w' a ⟨b1, rfl, hM, -⟩ hF
  change Mem w w' [some (b1, algC (p : Int) (n : Int) T f), none, none, none] [] at hM
  refine stR hF (d_box 1 hM hF rfl) rfl ?_
  rintro _ w' a ⟨b2, rfl, hM, -⟩ hF
  change Mem w w' [some (b1, algC (p : Int) (n : Int) T f), some (b2, vecC v), none, none] [] at hM
  refine st hF (g_assign hF rfl) rfl fun a hF => st hF (g_assign hF rfl) rfl fun a hF => ?_
  refine wpList_nil ?_
  refine tN ?_
  refine sq ?_
  refine sq ?_
  refine wp_region_lit ?_
  refine st hF (g_loadAgg ty_ag_31 hF rfl (hM.row 0 rfl) (by simp only [fnC_size, cells_size, vecC_size, tabC_size, planeC_size] <;> omega) (whole cells_size)) rfl fun a hF => st hF (g_loadAgg ty_ag_27 hF rfl (hM.row 1 rfl) (by simp only [fnC_size, cells_size, vecC_size, tabC_size, planeC_size] <;> omega) (whole (by simp only [fnC_size, cells_size, vecC_size, tabC_size, planeC_size]))) rfl fun a hF => ?_
  refine stR hF (d_buildC (vs := [(0, .agg (vecC v))]) 2 hM hF (build1 hF rfl) (fun w => ty_bsg_46_1 v w)) rfl ?_
  rintro _ w' a ⟨b3, rfl, hM, -⟩ hF
  change Mem w w' [some (b1, algC (p : Int) (n : Int) T f), some (b2, vecC v), some (b3, vecsC 1 (vAtL [v])), none] [] at hM
  refine stR hF (d_call Try.call35 hF (.cons rfl (.cons rfl .nil)) ((CallsR.val (areVectors_ok (p : Int) (n : Int) T f b3 1 1 (vAtL [v]) _ (fun _ _ _ => hT _ _ _) (fun _ => hf _) hVb (by omega) (hM.row 2 rfl)) (congrArg Value.bool (decide_eq_true hc))))) rfl ?_
  rintro _ w' a ⟨hx, rfl⟩ hF
  have hM := hM.ext hx
  refine st hF (g_not hF rfl) rfl fun a hF => ?_
  refine wpList_nil ?_
  refine tN ?_
  refine c_Fl hF rfl ?_
  refine wp_skip ?_
  refine tN ?_
  refine sq ?_
  refine wp_region_lit ?_
  refine st hF (g_loadAgg ty_ag_27 hF rfl (hM.row 1 rfl) (by simp only [fnC_size, cells_size, vecC_size, tabC_size, planeC_size] <;> omega) (whole (by simp only [fnC_size, cells_size, vecC_size, tabC_size, planeC_size]))) rfl fun a hF => ?_
  refine stR hF (d_alloc 3 hM ty_ze_27) rfl ?_
  rintro _ w' a ⟨b5, rfl, hM, -⟩ hF
  change Mem w w' [some (b1, algC (p : Int) (n : Int) T f), some (b2, vecC v), some (b3, vecsC 1 (vAtL [v])), some (b5, fnC 6 (fun _ => .int .u8 (0)))] [] at hM
  refine stN hF (d_storeAgg 3 hM rfl ty_sz_27 hF rfl rfl (by first | exact vecC_one | exact cells_one | (refine fnC_one fun _ _ => ?_; first | rfl | (split <;> rfl))) (by simp only [fnC_size, cells_size, vecC_size, tabC_size, planeC_size]) (by simp only [fnC_size, cells_size, vecC_size, tabC_size, planeC_size] <;> omega) (splice_whole _ _ (by simp only [fnC_size, cells_size, vecC_size, tabC_size, planeC_size]))) ?_
  intro _ w' a hM hF
  change Mem w w' [some (b1, algC (p : Int) (n : Int) T f), some (b2, vecC v), some (b3, vecsC 1 (vAtL [v])), some (b5, vecC v)] [] at hM
  refine wpList_nil ?_
  refine tN ?_
  refine sq ?_
  refine sq ?_
  refine wp_region_lit ?_
  refine st hF (g_assign hF rfl) rfl fun a hF => ?_
  refine wpList_nil ?_
  refine tN ?_
  refine wp_block ?_
  change Mem w _ [some (b1, algC (p : Int) (n : Int) T f), some (b2, vecC v), some (b3, vecsC 1 (vAtL [v])), some (b5, vecC v)] [] at hM
  refine c_loop (fun (kk : Nat) a w' => kk ≤ n ∧ (∀ j, j < kk → ¬ eqV 6 (powW (timesV p n T) v v j) (fun _ => 0)) ∧ Fr 28 a [(0, .agg (algC (p : Int) (n : Int) T f)), (1, .agg (vecC v)), (2, ptr b1 (0)), (3, ptr b2 (0)), (8, .agg (algC (p : Int) (n : Int) T f)), (9, .agg (vecC v)), (10, .slice (some ⟨b3, 0, none⟩) (1) (1)), (11, .bool (true)), (12, .bool (false)), (13, .agg (vecC v)), (6, ptr b5 (0)), (7, .int .i64 (((kk + 1 : Nat) : Int)))] ∧ Mem w w' [some (b1, algC (p : Int) (n : Int) T f), some (b2, vecC v), some (b3, vecsC 1 (vAtL [v])), some (b5, vecC (powW (timesV p n T) v v kk))] []) (fun kk => n - kk) 0 ?_ ?_
  ·
    refine ⟨by omega, fun j hj => absurd hj (by omega), hF.sub _ (by repeat' constructor), ?_⟩
    exact hM
  ·
    clear hF hM
    rintro gi a w' ⟨hgi, hinv1, hF, hM⟩
    have hvt := hvp gi
    refine sq ?_
    refine sq ?_
    refine wp_region_lit ?_
    refine st hF (g_move hF rfl) rfl fun a hF => st hF (g_fieldAddr ty_fo_31_1 hF rfl) rfl fun a hF => st hF (g_load ty_on_2 hF rfl (hM.row 0 rfl) (algC_n (by omega))) rfl fun a hF => st hF (g_leq hF rfl rfl) rfl fun a hF => ?_
    refine wpList_nil ?_
    refine tN ?_
    refine c_cond hF rfl (fun h6 => ?_) (fun h6 => ?_)
    ·
      refine wp_skip ?_
      refine tN ?_
      refine sq ?_
      refine wp_block ?_
      refine sq ?_
      refine sq ?_
      refine wp_region_lit ?_
      refine st hF (g_loadAgg ty_ag_27 hF rfl (hM.row 3 rfl) (by simp only [fnC_size, cells_size, vecC_size, tabC_size, planeC_size] <;> omega) (whole (by simp only [fnC_size, cells_size, vecC_size, tabC_size, planeC_size]))) rfl fun a hF => st hF (g_build0 ty_bu_27) rfl fun a hF => st hF (g_eqlA ty_eg_27 hF rfl rfl (eqAt_vec ty_ae_27 ty_ip_5 ty_on_5)) rfl fun a hF => ?_
      refine wpList_nil ?_
      refine tN ?_
      refine c_cond hF rfl (fun h7 => ?_) (fun h7 => ?_)
      ·
        exact absurd (by assumption) (hno gi (by omega))
      ·
        refine wp_skip ?_
        refine tN ?_
        refine wp_region_lit ?_
        refine st hF (g_loadAgg ty_ag_31 hF rfl (hM.row 0 rfl) (by simp only [fnC_size, cells_size, vecC_size, tabC_size, planeC_size] <;> omega) (whole cells_size)) rfl fun a hF => st hF (g_loadAgg ty_ag_27 hF rfl (hM.row 3 rfl) (by simp only [fnC_size, cells_size, vecC_size, tabC_size, planeC_size] <;> omega) (whole (by simp only [fnC_size, cells_size, vecC_size, tabC_size, planeC_size]))) rfl fun a hF => st hF (g_loadAgg ty_ag_27 hF rfl (hM.row 1 rfl) (by simp only [fnC_size, cells_size, vecC_size, tabC_size, planeC_size] <;> omega) (whole (by simp only [fnC_size, cells_size, vecC_size, tabC_size, planeC_size]))) rfl fun a hF => ?_
        refine stR hF (d_call Try.call37 hF (.cons rfl (.cons rfl (.cons rfl .nil))) (product_ok p n T f ((powW (timesV p n T) v v gi)) (v) _ (by omega) (by omega) (by omega) (fun _ _ _ => hT _ _ _) (fun _ => by first | exact hv _ | exact hvt _ | exact hvs _ | exact hu _ | exact hT _ _ _ | exact hf _ | omega | (split <;> omega) | (dsimp only; split <;> omega) | assumption) (fun _ => by first | exact hv _ | exact hvt _ | exact hvs _ | exact hu _ | exact hT _ _ _ | exact hf _ | omega | (split <;> omega) | (dsimp only; split <;> omega) | assumption))) rfl ?_
        rintro _ w' a ⟨hx, rfl⟩ hF
        have hM := hM.ext hx
        refine stN hF (d_storeAgg 3 hM rfl ty_sz_27 hF rfl rfl (by first | exact vecC_one | exact cells_one | (refine fnC_one fun _ _ => ?_; first | rfl | (split <;> rfl))) (by simp only [fnC_size, cells_size, vecC_size, tabC_size, planeC_size]) (by simp only [fnC_size, cells_size, vecC_size, tabC_size, planeC_size] <;> omega) (splice_whole _ _ (by simp only [fnC_size, cells_size, vecC_size, tabC_size, planeC_size]))) ?_
        intro _ w' a hM hF
        change Mem w w' [some (b1, algC (p : Int) (n : Int) T f), some (b2, vecC v), some (b3, vecsC 1 (vAtL [v])), some (b5, vecC (timesV p n T ((powW (timesV p n T) v v gi)) (v)))] [] at hM
        refine wpList_nil ?_
        refine iN ?_
        refine tN ?_
        refine wp_region_lit ?_
        refine st hF (g_move hF rfl) rfl fun a hF => st hF (g_add hF rfl rfl (add_nat (gi + 1) (1) (by omega))) rfl fun a hF => st hF (g_assign hF rfl) rfl fun a hF => ?_
        refine wpList_nil ?_
        refine tN ?_
        refine ⟨gi + 1, ⟨by omega, nextS (P := fun j => eqV 6 (powW (timesV p n T) v v j) (fun _ => 0)) hinv1 (by assumption), hF.sub _ (by repeat' constructor), ?_⟩, by omega⟩
        exact hM
    ·
      obtain rfl : n = gi := by omega
      refine wp_exit ?_
      refine tX ?_
      refine tX ?_
      refine ib_same ?_
      refine tN ?_
      refine sq ?_
      refine wp_region_lit ?_
      refine st hF (g_assign hF rfl) rfl fun a hF => st hF (g_assign hF rfl) rfl fun a hF => ?_
      refine wpList_nil ?_
      refine tN ?_
      refine wp_ret ?_
      refine fin2 rfl hF.defers (res_tmp hF rfl) (res_tmp hF rfl) ⟨_, rfl, hM.below, ?_⟩
      show _ = _
      rfl

theorem law_NilIndexA (p n : Int) (T : Nat → Nat → Nat → Nat) (f : Nat → Nat) (v : Nat → Nat) (w : World) (hT : ∀ i j k, T i j k ≤ 255) (hf : ∀ i, f i ≤ 255) (hv : ∀ i, v i ≤ 255) (hc : ¬ CodeP p n T f 1 (vAtL [v])) :
    CallsR Try.prog 5 #[.agg (algC p n T f), .agg (vecC v)] w (fun res _ => res = .bool true) := by
  refine calls_fr [.agg (algC p n T f), .agg (vecC v)] Try.func5 rfl Try.ntmps5 rfl fun a hF => ?_
  have hM : Mem w w [none, none] [] := MemX.start w 2
  change Fr 33 a [(0, .agg (algC p n T f)), (1, .agg (vecC v))] at hF
  have eqlaw : eqV 6 (fun _ => 0) (fun _ => 0) := fun _ _ => rfl
  refine sq ?_
  refine wp_region_lit ?_
  refine stR hF (d_box 0 hM hF rfl) rfl ?_
  rintro _ w' a ⟨b1, rfl, hM, -⟩ hF
  change Mem w w' [some (b1, algC p n T f), none] [] at hM
  refine stR hF (d_box 1 hM hF rfl) rfl ?_
  rintro _ w' a ⟨b2, rfl, hM, -⟩ hF
  change Mem w w' [some (b1, algC p n T f), some (b2, vecC v)] [] at hM
  refine st hF (g_assign hF rfl) rfl fun a hF => ?_
  refine wpList_nil ?_
  refine tN ?_
  refine sq ?_
  refine c_par 9 [] [.val (.agg (algC p n T f)), .val (.agg (algC p n T f)), .val (.agg (vecC v)), .val (.agg (vecC v)), .val (.tuple #[.int .i64 (0), .int .i64 (1)]), .val (.tuple #[.int .i64 (0), .int .i64 (1)]), .val (.int .i64 (0)), .val (.int .i64 (1)), .val (.int .i64 (0))] hmix rfl hF rfl hM ⟨fun a w gG hF hS hd => by have hM := hS.mem rfl; exact par_val hS rfl (g_loadAgg ty_ag_26 hF rfl (hM.row 0 rfl) (by simp only [fnC_size, cells_size, vecC_size, tabC_size, planeC_size] <;> omega) (whole cells_size)), fun a w gG hF hS hd => by have hF := hF.ext1 10 (hd 0 rfl rfl); exact par_call (by repeat constructor) hS rfl (d_call Try.call10 hF (.cons rfl .nil) (toAlgebra_ok p n T f _)), fun a w gG hF hS hd => by have hM := hS.mem rfl; exact par_val hS rfl (g_loadAgg ty_ag_22 hF rfl (hM.row 1 rfl) (by simp only [fnC_size, cells_size, vecC_size, tabC_size, planeC_size] <;> omega) (whole (by simp only [fnC_size, cells_size, vecC_size, tabC_size, planeC_size]))), fun a w gG hF hS hd => by have hF := hF.ext1 12 (hd 2 rfl rfl); exact par_call (by repeat constructor) hS rfl (d_call Try.call11 hF (.cons rfl .nil) (toVector_ok v _)), fun a w gG hF hS hd => by have hF := hF.ext1 11 (hd 1 rfl rfl); have hF := hF.ext1 13 (hd 3 rfl rfl); exact par_call (by repeat constructor) hS rfl (d_call Try.call16 hF (.cons rfl (.cons rfl .nil)) (NilIndexSA p n T f v _ hT hf hv hc)), fun a w gG hF hS hd => by have hF := hF.ext1 14 (hd 4 rfl rfl); exact par_val hS rfl (g_move hF rfl), fun a w gG hF hS hd => by have hF := hF.ext1 9 (hd 5 rfl rfl); exact par_val hS rfl (g_extract hF rfl rfl), fun a w gG hF hS hd => by have hF := hF.ext1 9 (hd 5 rfl rfl); exact par_val hS rfl (g_extract hF rfl rfl), fun a w gG hF hS hd => by have hF := hF.ext1 15 (hd 6 rfl rfl); exact par_val hS rfl (g_assign hF rfl), trivial⟩ ?_
  intro a w' L hF hS hq
  have hF := hF.ext1 10 (hq 0 rfl rfl)
  have hF := hF.ext1 11 (hq 1 rfl rfl)
  have hF := hF.ext1 12 (hq 2 rfl rfl)
  have hF := hF.ext1 13 (hq 3 rfl rfl)
  have hF := hF.ext1 14 (hq 4 rfl rfl)
  have hF := hF.ext1 9 (hq 5 rfl rfl)
  have hF := hF.ext1 15 (hq 6 rfl rfl)
  have hF := hF.ext1 16 (hq 7 rfl rfl)
  have hF := hF.ext1 5 (hq 8 rfl rfl)
  have hM := hS.mem rfl
  change wpList Try.prog _ _ [_] _ _
  refine st hF (g_assign hF rfl) rfl fun a hF => ?_
  refine wpList_nil ?_
  refine tN ?_
  refine sq ?_
  refine c_par 9 [] [.val (.agg (algC p n T f)), .val (.agg (algC p n T f)), .val (.agg (vecC v)), .val (.agg (vecC v)), .val (.tuple #[.int .i64 (0), .int .i64 (1)]), .val (.tuple #[.int .i64 (0), .int .i64 (1)]), .val (.int .i64 (0)), .val (.int .i64 (1)), .val (.int .i64 (0))] hmix rfl hF rfl hM ⟨fun a w gG hF hS hd => by have hM := hS.mem rfl; exact par_val hS rfl (g_loadAgg ty_ag_26 hF rfl (hM.row 0 rfl) (by simp only [fnC_size, cells_size, vecC_size, tabC_size, planeC_size] <;> omega) (whole cells_size)), fun a w gG hF hS hd => by have hF := hF.ext1 18 (hd 0 rfl rfl); exact par_call (by repeat constructor) hS rfl (d_call Try.call10 hF (.cons rfl .nil) (toAlgebra_ok p n T f _)), fun a w gG hF hS hd => by have hM := hS.mem rfl; exact par_val hS rfl (g_loadAgg ty_ag_22 hF rfl (hM.row 1 rfl) (by simp only [fnC_size, cells_size, vecC_size, tabC_size, planeC_size] <;> omega) (whole (by simp only [fnC_size, cells_size, vecC_size, tabC_size, planeC_size]))), fun a w gG hF hS hd => by have hF := hF.ext1 20 (hd 2 rfl rfl); exact par_call (by repeat constructor) hS rfl (d_call Try.call11 hF (.cons rfl .nil) (toVector_ok v _)), fun a w gG hF hS hd => by have hF := hF.ext1 19 (hd 1 rfl rfl); have hF := hF.ext1 21 (hd 3 rfl rfl); exact par_call (by repeat constructor) hS rfl (d_call Try.call17 hF (.cons rfl (.cons rfl .nil)) (NilIndexIA p n T f v _ hT hf hv hc)), fun a w gG hF hS hd => by have hF := hF.ext1 22 (hd 4 rfl rfl); exact par_val hS rfl (g_move hF rfl), fun a w gG hF hS hd => by have hF := hF.ext1 17 (hd 5 rfl rfl); exact par_val hS rfl (g_extract hF rfl rfl), fun a w gG hF hS hd => by have hF := hF.ext1 17 (hd 5 rfl rfl); exact par_val hS rfl (g_extract hF rfl rfl), fun a w gG hF hS hd => by have hF := hF.ext1 23 (hd 6 rfl rfl); exact par_val hS rfl (g_assign hF rfl), trivial⟩ ?_
  intro a w' L hF hS hq
  have hF := hF.ext1 18 (hq 0 rfl rfl)
  have hF := hF.ext1 19 (hq 1 rfl rfl)
  have hF := hF.ext1 20 (hq 2 rfl rfl)
  have hF := hF.ext1 21 (hq 3 rfl rfl)
  have hF := hF.ext1 22 (hq 4 rfl rfl)
  have hF := hF.ext1 17 (hq 5 rfl rfl)
  have hF := hF.ext1 23 (hq 6 rfl rfl)
  have hF := hF.ext1 24 (hq 7 rfl rfl)
  have hF := hF.ext1 7 (hq 8 rfl rfl)
  have hM := hS.mem rfl
  change wpList Try.prog _ _ [_] _ _
  refine st hF (g_assign hF rfl) rfl fun a hF => ?_
  refine wpList_nil ?_
  refine tN ?_
  refine sq ?_
  refine sq ?_
  refine wp_region_lit ?_
  refine st hF (g_move hF rfl) rfl fun a hF => st hF (g_move hF rfl) rfl fun a hF => st hF (g_neq hF rfl rfl) rfl fun a hF => st hF (g_move hF rfl) rfl fun a hF => ?_
  rw [show decide ((0 : Int) ≠ 0) = false from by decide] at hF
  refine stY hF rfl rfl rfl (g_move hF rfl) rfl fun a hF => stY hF rfl rfl rfl (g_move hF rfl) rfl fun a hF => stY hF rfl rfl rfl (g_neq hF rfl rfl) rfl fun a hF => st hF (g_pickF hF rfl rfl) rfl fun a hF => ?_
  refine wpList_nil ?_
  refine tN ?_
  refine c_kF hF rfl (by decide) ?_
  refine wp_skip ?_
  refine tN ?_
  refine sq ?_
  refine wp_region_lit ?_
  refine st hF (g_assign hF rfl) rfl fun a hF => ?_
  refine wpList_nil ?_
  refine tN ?_
  refine wp_ret ?_
  refine fin1 rfl hF.defers (res_tmp hF rfl) ⟨_, rfl, hM.below, ?_⟩
  show _ = _
  rfl

theorem law_NilIndexY (p n : Nat) (T : Nat → Nat → Nat → Nat) (f : Nat → Nat) (v : Nat → Nat) (w : World) (hp : primeN p) (hn0 : 0 < n) (hn : n ≤ 6) (hTp : ∀ i j k, T i j k < p) (hT0 : ∀ i j k, n ≤ k → T i j k = 0) (hf : ∀ i, f i ≤ 255) (hv : ∀ i, v i ≤ 255) (k : Nat) (hk1 : 1 ≤ k) (hkn : k ≤ n) (hz : eqV 6 (powW (timesV p n T) v v (k - 1)) (fun _ => 0)) (hlow : ∀ j, j + 1 < k → ¬ eqV 6 (powW (timesV p n T) v v j) (fun _ => 0)) (hc : CodeP (p : Int) (n : Int) T f 1 (vAtL [v])) :
    CallsR Try.prog 5 #[.agg (algC (p : Int) (n : Int) T f), .agg (vecC v)] w (fun res _ => res = .bool true) := by
  refine calls_fr [.agg (algC (p : Int) (n : Int) T f), .agg (vecC v)] Try.func5 rfl Try.ntmps5 rfl fun a hF => ?_
  have hM : Mem w w [none, none] [] := MemX.start w 2
  change Fr 33 a [(0, .agg (algC (p : Int) (n : Int) T f)), (1, .agg (vecC v))] at hF
  have hp2 := hp.two
  have hp13 := hp.le
  have hT : ∀ i j k, T i j k ≤ 255 := fun i j k => by have := hTp i j k; omega
  have eqlaw : eqV 6 (fun _ => 0) (fun _ => 0) := fun _ _ => rfl
  refine sq ?_
  refine wp_region_lit ?_
  refine stR hF (d_box 0 hM hF rfl) rfl ?_
  rintro _ w' a ⟨b1, rfl, hM, -⟩ hF
  change Mem w w' [some (b1, algC (p : Int) (n : Int) T f), none] [] at hM
  refine stR hF (d_box 1 hM hF rfl) rfl ?_
  rintro _ w' a ⟨b2, rfl, hM, -⟩ hF
  change Mem w w' [some (b1, algC (p : Int) (n : Int) T f), some (b2, vecC v)] [] at hM
  refine st hF (g_assign hF rfl) rfl fun a hF => ?_
  refine wpList_nil ?_
  refine tN ?_
  refine sq ?_
  refine c_par 9 [] [.val (.agg (algC (p : Int) (n : Int) T f)), .val (.agg (algC (p : Int) (n : Int) T f)), .val (.agg (vecC v)), .val (.agg (vecC v)), .val (.tuple #[.int .i64 (((k : Nat) : Int)), .int .i64 (0)]), .val (.tuple #[.int .i64 (((k : Nat) : Int)), .int .i64 (0)]), .val (.int .i64 (((k : Nat) : Int))), .val (.int .i64 (0)), .val (.int .i64 (((k : Nat) : Int)))] hmix rfl hF rfl hM ⟨fun a w gG hF hS hd => by have hM := hS.mem rfl; exact par_val hS rfl (g_loadAgg ty_ag_26 hF rfl (hM.row 0 rfl) (by simp only [fnC_size, cells_size, vecC_size, tabC_size, planeC_size] <;> omega) (whole cells_size)), fun a w gG hF hS hd => by have hF := hF.ext1 10 (hd 0 rfl rfl); exact par_call (by repeat constructor) hS rfl (d_call Try.call10 hF (.cons rfl .nil) (toAlgebra_ok (p : Int) (n : Int) T f _)), fun a w gG hF hS hd => by have hM := hS.mem rfl; exact par_val hS rfl (g_loadAgg ty_ag_22 hF rfl (hM.row 1 rfl) (by simp only [fnC_size, cells_size, vecC_size, tabC_size, planeC_size] <;> omega) (whole (by simp only [fnC_size, cells_size, vecC_size, tabC_size, planeC_size]))), fun a w gG hF hS hd => by have hF := hF.ext1 12 (hd 2 rfl rfl); exact par_call (by repeat constructor) hS rfl (d_call Try.call11 hF (.cons rfl .nil) (toVector_ok v _)), fun a w gG hF hS hd => by have hF := hF.ext1 11 (hd 1 rfl rfl); have hF := hF.ext1 13 (hd 3 rfl rfl); exact par_call (by repeat constructor) hS rfl (d_call Try.call16 hF (.cons rfl (.cons rfl .nil)) (NilIndexSY p n T f v _ hp hn0 hn hTp hT0 hf hv k hk1 hkn hz hlow hc)), fun a w gG hF hS hd => by have hF := hF.ext1 14 (hd 4 rfl rfl); exact par_val hS rfl (g_move hF rfl), fun a w gG hF hS hd => by have hF := hF.ext1 9 (hd 5 rfl rfl); exact par_val hS rfl (g_extract hF rfl rfl), fun a w gG hF hS hd => by have hF := hF.ext1 9 (hd 5 rfl rfl); exact par_val hS rfl (g_extract hF rfl rfl), fun a w gG hF hS hd => by have hF := hF.ext1 15 (hd 6 rfl rfl); exact par_val hS rfl (g_assign hF rfl), trivial⟩ ?_
  intro a w' L hF hS hq
  have hF := hF.ext1 10 (hq 0 rfl rfl)
  have hF := hF.ext1 11 (hq 1 rfl rfl)
  have hF := hF.ext1 12 (hq 2 rfl rfl)
  have hF := hF.ext1 13 (hq 3 rfl rfl)
  have hF := hF.ext1 14 (hq 4 rfl rfl)
  have hF := hF.ext1 9 (hq 5 rfl rfl)
  have hF := hF.ext1 15 (hq 6 rfl rfl)
  have hF := hF.ext1 16 (hq 7 rfl rfl)
  have hF := hF.ext1 5 (hq 8 rfl rfl)
  have hM := hS.mem rfl
  change wpList Try.prog _ _ [_] _ _
  refine st hF (g_assign hF rfl) rfl fun a hF => ?_
  refine wpList_nil ?_
  refine tN ?_
  refine sq ?_
  refine c_par 9 [] [.val (.agg (algC (p : Int) (n : Int) T f)), .val (.agg (algC (p : Int) (n : Int) T f)), .val (.agg (vecC v)), .val (.agg (vecC v)), .val (.tuple #[.int .i64 (((k : Nat) : Int)), .int .i64 (0)]), .val (.tuple #[.int .i64 (((k : Nat) : Int)), .int .i64 (0)]), .val (.int .i64 (((k : Nat) : Int))), .val (.int .i64 (0)), .val (.int .i64 (((k : Nat) : Int)))] hmix rfl hF rfl hM ⟨fun a w gG hF hS hd => by have hM := hS.mem rfl; exact par_val hS rfl (g_loadAgg ty_ag_26 hF rfl (hM.row 0 rfl) (by simp only [fnC_size, cells_size, vecC_size, tabC_size, planeC_size] <;> omega) (whole cells_size)), fun a w gG hF hS hd => by have hF := hF.ext1 18 (hd 0 rfl rfl); exact par_call (by repeat constructor) hS rfl (d_call Try.call10 hF (.cons rfl .nil) (toAlgebra_ok (p : Int) (n : Int) T f _)), fun a w gG hF hS hd => by have hM := hS.mem rfl; exact par_val hS rfl (g_loadAgg ty_ag_22 hF rfl (hM.row 1 rfl) (by simp only [fnC_size, cells_size, vecC_size, tabC_size, planeC_size] <;> omega) (whole (by simp only [fnC_size, cells_size, vecC_size, tabC_size, planeC_size]))), fun a w gG hF hS hd => by have hF := hF.ext1 20 (hd 2 rfl rfl); exact par_call (by repeat constructor) hS rfl (d_call Try.call11 hF (.cons rfl .nil) (toVector_ok v _)), fun a w gG hF hS hd => by have hF := hF.ext1 19 (hd 1 rfl rfl); have hF := hF.ext1 21 (hd 3 rfl rfl); exact par_call (by repeat constructor) hS rfl (d_call Try.call17 hF (.cons rfl (.cons rfl .nil)) (NilIndexIY p n T f v _ hp hn0 hn hTp hT0 hf hv k hk1 hkn hz hlow hc)), fun a w gG hF hS hd => by have hF := hF.ext1 22 (hd 4 rfl rfl); exact par_val hS rfl (g_move hF rfl), fun a w gG hF hS hd => by have hF := hF.ext1 17 (hd 5 rfl rfl); exact par_val hS rfl (g_extract hF rfl rfl), fun a w gG hF hS hd => by have hF := hF.ext1 17 (hd 5 rfl rfl); exact par_val hS rfl (g_extract hF rfl rfl), fun a w gG hF hS hd => by have hF := hF.ext1 23 (hd 6 rfl rfl); exact par_val hS rfl (g_assign hF rfl), trivial⟩ ?_
  intro a w' L hF hS hq
  have hF := hF.ext1 18 (hq 0 rfl rfl)
  have hF := hF.ext1 19 (hq 1 rfl rfl)
  have hF := hF.ext1 20 (hq 2 rfl rfl)
  have hF := hF.ext1 21 (hq 3 rfl rfl)
  have hF := hF.ext1 22 (hq 4 rfl rfl)
  have hF := hF.ext1 17 (hq 5 rfl rfl)
  have hF := hF.ext1 23 (hq 6 rfl rfl)
  have hF := hF.ext1 24 (hq 7 rfl rfl)
  have hF := hF.ext1 7 (hq 8 rfl rfl)
  have hM := hS.mem rfl
  change wpList Try.prog _ _ [_] _ _
  refine st hF (g_assign hF rfl) rfl fun a hF => ?_
  refine wpList_nil ?_
  refine tN ?_
  refine sq ?_
  refine sq ?_
  refine wp_region_lit ?_
  refine st hF (g_move hF rfl) rfl fun a hF => st hF (g_move hF rfl) rfl fun a hF => st hF (g_neq hF rfl rfl) rfl fun a hF => st hF (g_move hF rfl) rfl fun a hF => ?_
  by_cases g3 : (((k : Nat) : Int) : Int) ≠ ((k : Nat) : Int)
  ·
    first | rw [decide_eq_true g3] at hF | simp only [decide_eq_true g3] at hF
    first | exact absurd rfl g3 | exact absurd eqlaw g3 | exact absurd (by exact ⟨rfl, rfl, fun _ _ _ _ _ _ => rfl, fun _ _ => rfl⟩) g3 | (exfalso; omega)
  ·
    first | rw [decide_eq_false g3] at hF | simp only [decide_eq_false g3] at hF
    refine stY hF rfl rfl rfl (g_move hF rfl) rfl fun a hF => stY hF rfl rfl rfl (g_move hF rfl) rfl fun a hF => stY hF rfl rfl rfl (g_neq hF rfl rfl) rfl fun a hF => st hF (g_pickF hF rfl rfl) rfl fun a hF => ?_
    refine wpList_nil ?_
    refine tN ?_
    refine c_kF hF rfl (by decide) ?_
    refine wp_skip ?_
    refine tN ?_
    refine sq ?_
    refine wp_region_lit ?_
    refine st hF (g_assign hF rfl) rfl fun a hF => ?_
    refine wpList_nil ?_
    refine tN ?_
    refine wp_ret ?_
    refine fin1 rfl hF.defers (res_tmp hF rfl) ⟨_, rfl, hM.below, ?_⟩
    show _ = _
    rfl

theorem law_NilIndexN (p n : Nat) (T : Nat → Nat → Nat → Nat) (f : Nat → Nat) (v : Nat → Nat) (w : World) (hp : primeN p) (hn0 : 0 < n) (hn : n ≤ 6) (hTp : ∀ i j k, T i j k < p) (hT0 : ∀ i j k, n ≤ k → T i j k = 0) (hf : ∀ i, f i ≤ 255) (hv : ∀ i, v i ≤ 255) (hno : ∀ j, j ≤ n → ¬ eqV 6 (powW (timesV p n T) v v j) (fun _ => 0)) (hc : CodeP (p : Int) (n : Int) T f 1 (vAtL [v])) :
    CallsR Try.prog 5 #[.agg (algC (p : Int) (n : Int) T f), .agg (vecC v)] w (fun res _ => res = .bool true) := by
  refine calls_fr [.agg (algC (p : Int) (n : Int) T f), .agg (vecC v)] Try.func5 rfl Try.ntmps5 rfl fun a hF => ?_
  have hM : Mem w w [none, none] [] := MemX.start w 2
  change Fr 33 a [(0, .agg (algC (p : Int) (n : Int) T f)), (1, .agg (vecC v))] at hF
  have hp2 := hp.two
  have hp13 := hp.le
  have hT : ∀ i j k, T i j k ≤ 255 := fun i j k => by have := hTp i j k; omega
  have eqlaw : eqV 6 (fun _ => 0) (fun _ => 0) := fun _ _ => rfl
  refine sq ?_
  refine wp_region_lit ?_
  refine stR hF (d_box 0 hM hF rfl) rfl ?_
  rintro _ w' a ⟨b1, rfl, hM, -⟩ hF
  change Mem w w' [some (b1, algC (p : Int) (n : Int) T f), none] [] at hM
  refine stR hF (d_box 1 hM hF rfl) rfl ?_
  rintro _ w' a ⟨b2, rfl, hM, -⟩ hF
  change Mem w w' [some (b1, algC (p : Int) (n : Int) T f), some (b2, vecC v)] [] at hM
  refine st hF (g_assign hF rfl) rfl fun a hF => ?_
  refine wpList_nil ?_
  refine tN ?_
  refine sq ?_
  refine c_par 9 [] [.val (.agg (algC (p : Int) (n : Int) T f)), .val (.agg (algC (p : Int) (n : Int) T f)), .val (.agg (vecC v)), .val (.agg (vecC v)), .val (.tuple #[.int .i64 (0), .int .i64 (4)]), .val (.tuple #[.int .i64 (0), .int .i64 (4)]), .val (.int .i64 (0)), .val (.int .i64 (4)), .val (.int .i64 (0))] hmix rfl hF rfl hM ⟨fun a w gG hF hS hd => by have hM := hS.mem rfl; exact par_val hS rfl (g_loadAgg ty_ag_26 hF rfl (hM.row 0 rfl) (by simp only [fnC_size, cells_size, vecC_size, tabC_size, planeC_size] <;> omega) (whole cells_size)), fun a w gG hF hS hd => by have hF := hF.ext1 10 (hd 0 rfl rfl); exact par_call (by repeat constructor) hS rfl (d_call Try.call10 hF (.cons rfl .nil) (toAlgebra_ok (p : Int) (n : Int) T f _)), fun a w gG hF hS hd => by have hM := hS.mem rfl; exact par_val hS rfl (g_loadAgg ty_ag_22 hF rfl (hM.row 1 rfl) (by simp only [fnC_size, cells_size, vecC_size, tabC_size, planeC_size] <;> omega) (whole (by simp only [fnC_size, cells_size, vecC_size, tabC_size, planeC_size]))), fun a w gG hF hS hd => by have hF := hF.ext1 12 (hd 2 rfl rfl); exact par_call (by repeat constructor) hS rfl (d_call Try.call11 hF (.cons rfl .nil) (toVector_ok v _)), fun a w gG hF hS hd => by have hF := hF.ext1 11 (hd 1 rfl rfl); have hF := hF.ext1 13 (hd 3 rfl rfl); exact par_call (by repeat constructor) hS rfl (d_call Try.call16 hF (.cons rfl (.cons rfl .nil)) (NilIndexSN p n T f v _ hp hn0 hn hTp hT0 hf hv hno hc)), fun a w gG hF hS hd => by have hF := hF.ext1 14 (hd 4 rfl rfl); exact par_val hS rfl (g_move hF rfl), fun a w gG hF hS hd => by have hF := hF.ext1 9 (hd 5 rfl rfl); exact par_val hS rfl (g_extract hF rfl rfl), fun a w gG hF hS hd => by have hF := hF.ext1 9 (hd 5 rfl rfl); exact par_val hS rfl (g_extract hF rfl rfl), fun a w gG hF hS hd => by have hF := hF.ext1 15 (hd 6 rfl rfl); exact par_val hS rfl (g_assign hF rfl), trivial⟩ ?_
  intro a w' L hF hS hq
  have hF := hF.ext1 10 (hq 0 rfl rfl)
  have hF := hF.ext1 11 (hq 1 rfl rfl)
  have hF := hF.ext1 12 (hq 2 rfl rfl)
  have hF := hF.ext1 13 (hq 3 rfl rfl)
  have hF := hF.ext1 14 (hq 4 rfl rfl)
  have hF := hF.ext1 9 (hq 5 rfl rfl)
  have hF := hF.ext1 15 (hq 6 rfl rfl)
  have hF := hF.ext1 16 (hq 7 rfl rfl)
  have hF := hF.ext1 5 (hq 8 rfl rfl)
  have hM := hS.mem rfl
  change wpList Try.prog _ _ [_] _ _
  refine st hF (g_assign hF rfl) rfl fun a hF => ?_
  refine wpList_nil ?_
  refine tN ?_
  refine sq ?_
  refine c_par 9 [] [.val (.agg (algC (p : Int) (n : Int) T f)), .val (.agg (algC (p : Int) (n : Int) T f)), .val (.agg (vecC v)), .val (.agg (vecC v)), .val (.tuple #[.int .i64 (0), .int .i64 (4)]), .val (.tuple #[.int .i64 (0), .int .i64 (4)]), .val (.int .i64 (0)), .val (.int .i64 (4)), .val (.int .i64 (0))] hmix rfl hF rfl hM ⟨fun a w gG hF hS hd => by have hM := hS.mem rfl; exact par_val hS rfl (g_loadAgg ty_ag_26 hF rfl (hM.row 0 rfl) (by simp only [fnC_size, cells_size, vecC_size, tabC_size, planeC_size] <;> omega) (whole cells_size)), fun a w gG hF hS hd => by have hF := hF.ext1 18 (hd 0 rfl rfl); exact par_call (by repeat constructor) hS rfl (d_call Try.call10 hF (.cons rfl .nil) (toAlgebra_ok (p : Int) (n : Int) T f _)), fun a w gG hF hS hd => by have hM := hS.mem rfl; exact par_val hS rfl (g_loadAgg ty_ag_22 hF rfl (hM.row 1 rfl) (by simp only [fnC_size, cells_size, vecC_size, tabC_size, planeC_size] <;> omega) (whole (by simp only [fnC_size, cells_size, vecC_size, tabC_size, planeC_size]))), fun a w gG hF hS hd => by have hF := hF.ext1 20 (hd 2 rfl rfl); exact par_call (by repeat constructor) hS rfl (d_call Try.call11 hF (.cons rfl .nil) (toVector_ok v _)), fun a w gG hF hS hd => by have hF := hF.ext1 19 (hd 1 rfl rfl); have hF := hF.ext1 21 (hd 3 rfl rfl); exact par_call (by repeat constructor) hS rfl (d_call Try.call17 hF (.cons rfl (.cons rfl .nil)) (NilIndexIN p n T f v _ hp hn0 hn hTp hT0 hf hv hno hc)), fun a w gG hF hS hd => by have hF := hF.ext1 22 (hd 4 rfl rfl); exact par_val hS rfl (g_move hF rfl), fun a w gG hF hS hd => by have hF := hF.ext1 17 (hd 5 rfl rfl); exact par_val hS rfl (g_extract hF rfl rfl), fun a w gG hF hS hd => by have hF := hF.ext1 17 (hd 5 rfl rfl); exact par_val hS rfl (g_extract hF rfl rfl), fun a w gG hF hS hd => by have hF := hF.ext1 23 (hd 6 rfl rfl); exact par_val hS rfl (g_assign hF rfl), trivial⟩ ?_
  intro a w' L hF hS hq
  have hF := hF.ext1 18 (hq 0 rfl rfl)
  have hF := hF.ext1 19 (hq 1 rfl rfl)
  have hF := hF.ext1 20 (hq 2 rfl rfl)
  have hF := hF.ext1 21 (hq 3 rfl rfl)
  have hF := hF.ext1 22 (hq 4 rfl rfl)
  have hF := hF.ext1 17 (hq 5 rfl rfl)
  have hF := hF.ext1 23 (hq 6 rfl rfl)
  have hF := hF.ext1 24 (hq 7 rfl rfl)
  have hF := hF.ext1 7 (hq 8 rfl rfl)
  have hM := hS.mem rfl
  change wpList Try.prog _ _ [_] _ _
  refine st hF (g_assign hF rfl) rfl fun a hF => ?_
  refine wpList_nil ?_
  refine tN ?_
  refine sq ?_
  refine sq ?_
  refine wp_region_lit ?_
  refine st hF (g_move hF rfl) rfl fun a hF => st hF (g_move hF rfl) rfl fun a hF => st hF (g_neq hF rfl rfl) rfl fun a hF => st hF (g_move hF rfl) rfl fun a hF => ?_
  rw [show decide ((0 : Int) ≠ 0) = false from by decide] at hF
  refine stY hF rfl rfl rfl (g_move hF rfl) rfl fun a hF => stY hF rfl rfl rfl (g_move hF rfl) rfl fun a hF => stY hF rfl rfl rfl (g_neq hF rfl rfl) rfl fun a hF => st hF (g_pickF hF rfl rfl) rfl fun a hF => ?_
  refine wpList_nil ?_
  refine tN ?_
  refine c_kF hF rfl (by decide) ?_
  refine wp_skip ?_
  refine tN ?_
  refine sq ?_
  refine wp_region_lit ?_
  refine st hF (g_assign hF rfl) rfl fun a hF => ?_
  refine wpList_nil ?_
  refine tN ?_
  refine wp_ret ?_
  refine fin1 rfl hF.defers (res_tmp hF rfl) ⟨_, rfl, hM.below, ?_⟩
  show _ = _
  rfl

theorem law_NilIndex (p n : Int) (T : Nat → Nat → Nat → Nat) (f : Nat → Nat) (v : Nat → Nat) (w : World) (hT : ∀ i j k, T i j k ≤ 255) (hf : ∀ i, f i ≤ 255) (hv : ∀ i, v i ≤ 255) : CallsV Try.prog 5 #[.agg (algC p n T f), .agg (vecC v)] w (.bool true) := by
  by_cases hc : CodeP p n T f 1 (vAtL [v])
  · have hs := hc.1.1
    have hp0 := primeP_pos hs.1
    have hn := hs.2.1
    have e1 : ((p.toNat : Nat) : Int) = p := by omega
    have e2 : ((n.toNat : Nat) : Int) = n := by omega
    have has := hc.1.2.1
    obtain ⟨uu, huu⟩ := hc.1.2.2
    have hc2 : CodeP ((p.toNat : Nat) : Int) ((n.toNat : Nat) : Int) (trunc n.toNat T) f 1 (vAtL [v]) := by rw [e1, e2]; exact code_trunc hc
    rcases first_cases (fun j => eqV 6 (powW (timesV p.toNat n.toNat (trunc n.toNat T)) v v j) (fun _ => 0)) n.toNat with ⟨k, h1, h2, h3, h4⟩ | hno
    · have h := law_NilIndexY p.toNat n.toNat (trunc n.toNat T) f v w (primeN_of hs.1) (by omega) (by omega) (trunc_lt hs) trunc_out hf hv k h1 h2 h3 h4 hc2
      rw [e1, e2, ← algC_trunc hs] at h
      exact h
    · have h := law_NilIndexN p.toNat n.toNat (trunc n.toNat T) f v w (primeN_of hs.1) (by omega) (by omega) (trunc_lt hs) trunc_out hf hv (fun j hj => by
        by_cases e : j < n.toNat
        · exact hno j e
        · obtain rfl : j = n.toNat := by omega
          intro hz
          exact hno (n.toNat - 1) (by omega) (nil_last (primeN_of hs.1) (by omega) (by omega) trunc_out huu (hc2.2 0 (by omega)) hz)) hc2
      rw [e1, e2, ← algC_trunc hs] at h
      exact h
  · exact law_NilIndexA p n T f v w hT hf hv hc

end Go.Proofs.Ytficgmohfabplaa
