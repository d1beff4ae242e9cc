/- What functions of the program return, as walks over their operations; no statement of the seat is proved here. -/
import Derived.Test.YtilcjjjpiefebaaJ3
set_option linter.unusedVariables false
set_option linter.unusedSimpArgs false
namespace Go.Proofs.Ytilcjjjpiefebaa
open Go Go.RowKit Go.Sw Go.Ech
open Classical
theorem ty_ze_37 : zeroP Try.prog 37 = some (.agg (algC 0 0 (fun _ _ _ => 0) (fun _ => 0))) := by kernel_rfl
theorem ty_bp_37_3 : ∀ (p n : Int) (f : Nat → Nat) w, (Instr.build 37 #[(0, .int .i64 p), (1, .int .i64 n), (3, .agg (vecC f))]).run Try.prog w = .ok (.agg (algC p n (fun _ _ _ => 0) f)) w := by intros; kernel_rfl
theorem ty_sz_37 : sizeP Try.prog 37 = some 224 := by kernel_rfl
theorem ty_ag_37 : aggP Try.prog 37 = some 224 := by kernel_rfl
theorem ty_bf_35_30_387 : ∀ w, (Instr.build 35 #[(0, .int .u8 (1))]).run Try.prog w = .ok (.agg (vecC (fun c => if c = 0 then 1 else 0))) w := by intros; kernel_rfl
def gTp (n : Nat) (M : Nat → Nat → Nat) (i0 j0 i j k : Nat) : Nat := if (i < i0 ∨ (i = i0 ∧ j < j0)) ∧ j < n ∧ k = M i j then 1 else 0
def gT (n : Nat) (M : Nat → Nat → Nat) (i j k : Nat) : Nat := if i < n ∧ j < n ∧ k = M i j then 1 else 0
theorem gTp_0 {n : Nat} {M : Nat → Nat → Nat} {i j k : Nat} : gTp n M 0 0 i j k = 0 := by unfold gTp; rw [if_neg (by omega)]
theorem gTp_row {n : Nat} {M : Nat → Nat → Nat} {a i j k : Nat} : gTp n M a n i j k = gTp n M (a + 1) 0 i j k := by
  unfold gTp
  by_cases h : k = M i j
  · by_cases h2 : (i < a ∨ (i = a ∧ j < n)) ∧ j < n
    · rw [if_pos ⟨h2.1, h2.2, h⟩, if_pos ⟨by omega, by omega, h⟩]
    · rw [if_neg (fun q => h2 ⟨q.1, q.2.1⟩), if_neg (fun q => h2 (by omega))]
  · rw [if_neg (fun q => h q.2.2), if_neg (fun q => h q.2.2)]
theorem gTp_end {n : Nat} {M : Nat → Nat → Nat} {i j k : Nat} : gTp n M n 0 i j k = gT n M i j k := by
  unfold gTp gT
  by_cases h : k = M i j
  · by_cases h2 : i < n ∧ j < n
    · rw [if_pos ⟨by omega, by omega, h⟩, if_pos ⟨by omega, by omega, h⟩]
    · rw [if_neg (by omega), if_neg (by omega)]
  · rw [if_neg (fun q => h q.2.2), if_neg (fun q => h q.2.2)]
theorem gTp_step {n : Nat} {M : Nat → Nat → Nat} {a b i j k : Nat} (hb : b < n) : (if i = a ∧ j = b then (if k = M a b then 1 else 0) else gTp n M a b i j k) = gTp n M a (b + 1) i j k := by
  unfold gTp
  by_cases e : i = a ∧ j = b
  · obtain ⟨rfl, rfl⟩ := e
    rw [if_pos ⟨rfl, rfl⟩]
    by_cases h : k = M i j
    · rw [if_pos h, if_pos ⟨by omega, hb, h⟩]
    · rw [if_neg h, if_neg (fun q => h q.2.2)]
  · rw [if_neg e]
    by_cases h : k = M i j
    · by_cases h2 : (i < a ∨ (i = a ∧ j < b)) ∧ j < n
      · rw [if_pos ⟨h2.1, h2.2, h⟩, if_pos ⟨by omega, by omega, h⟩]
      · rw [if_neg (fun q => h2 ⟨q.1, q.2.1⟩), if_neg (fun q => h2 (by omega))]
    · rw [if_neg (fun q => h q.2.2), if_neg (fun q => h q.2.2)]
def e0F (c : Nat) : Nat := if c = 0 then 1 else 0

theorem algebraOfPlaces_ok (p : Int) (n : Nat) (M : Nat → Nat → Nat) (f : Nat → Nat) (w : World) (hn0 : 0 < n) (hn : n ≤ 6) (hB : ∀ i j, M i j ≤ 255) (hG : TabP n M) :
    CallsR Try.prog 51 #[.int .i64 (p), .int .i64 (n : Int), .agg (vecC f), .func (.func 52) #[.agg (grpC (n : Int) M)] #[]] w (fun res _ => res = .agg (algC p (n : Int) (gT n M) f)) := by
  refine calls_fr [.int .i64 (p), .int .i64 (n : Int), .agg (vecC f), .func (.func 52) #[.agg (grpC (n : Int) M)] #[]] Try.func51 rfl Try.ntmps51 rfl fun a hF => ?_;have hM : Mem w w [none, none, none] [] := MemX.start w 3;change Fr 41 a [(0, .int .i64 (p)), (1, .int .i64 (n : Int)), (2, .agg (vecC f)), (3, .func (.func 52) #[.agg (grpC (n : Int) M)] #[])] at hF;refine sr <| stR hF (d_box 0 hM hF rfl) rfl ?_;rintro _ w' a ⟨b1, rfl, hM, -⟩ hF;refine stR hF (d_alloc 1 hM ty_ze_37) rfl ?_;rintro _ w' a ⟨b2, rfl, hM, -⟩ hF;change Mem w w' [some (b1, vecC f), some (b2, algC 0 0 (fun _ _ _ => 0) (fun _ => 0)), none] [] at hM;refine ns <| mv hF rfl rfl fun a hF => mv hF rfl rfl fun a hF => st hF (g_loadAgg ty_ag_35 hF rfl (hM.row 0 rfl) (by simp only [sz0, grpC_size] <;> omega) (whole (by simp only [sz0, grpC_size]))) rfl fun a hF => st hF (g_buildP hF (build013 hF rfl rfl rfl) (fun w => ty_bp_37_3 _ _ _ w)) rfl fun a hF => stR hF (d_alloc 2 hM ty_ze_37) rfl ?_;rintro _ w' a ⟨b3, rfl, hM, -⟩ hF;change Mem w w' [some (b1, vecC f), some (b2, algC 0 0 (fun _ _ _ => 0) (fun _ => 0)), some (b3, algC 0 0 (fun _ _ _ => 0) (fun _ => 0))] [] at hM;refine stN hF (d_storeAgg 2 hM rfl ty_sz_37 hF rfl rfl (by first | exact vecC_one | exact cells_one | (refine fnC_one fun _ _ => ?_; first | rfl | (split <;> rfl))) (by simp only [sz0, grpC_size]) (by simp only [sz0, grpC_size] <;> omega) (splice_whole _ _ (by simp only [sz0, grpC_size]))) ?_;intro _ w' a hM hF;refine nt <| sq <| sr <| mv hF rfl rfl fun a hF => mv hF rfl rfl fun a hF => nt <| wp_block ?_;change Mem w _ [some (b1, vecC f), some (b2, algC 0 0 (fun _ _ _ => 0) (fun _ => 0)), some (b3, algC (p) (n : Int) (fun _ _ _ => 0) f)] [] at hM;refine c_loop (fun (kk : Nat) a w' => kk ≤ n ∧ (True) ∧ Fr 41 a [(1, .int .i64 (n : Int)), (3, .func (.func 52) #[.agg (grpC (n : Int) M)] #[]), (8, ptr b2 (0)), (9, ptr b3 (0)), (17, .int .i64 (n : Int)), (18, .int .i64 (kk : Int))] ∧ Mem w w' [some (b1, vecC f), some (b2, algC 0 0 (fun _ _ _ => 0) (fun _ => 0)), some (b3, algC p (n : Int) (gTp n M (kk) (0)) f)] []) (fun kk => n - kk) 0 ?_ ?_
  · refine ⟨by omega, trivial, hF.sub _ (by repeat' constructor), ?_⟩
    exact hM.rowc 2 rfl (algC_congr fun i hi j hj k hk => gTp_0.symm)
  clear hF hM;rintro gi a w' ⟨hgi, hinv1, hF, hM⟩;refine sr <| st hF (g_lss hF rfl rfl) rfl fun a hF => nt <| sq <| c_cond hF rfl (fun h4 => ?_) (fun h4 => ?_)
  · refine wp_skip ?_
    refine tN <| sq <| wp_block <| sr <| mv hF rfl rfl fun a hF => ag hF rfl rfl fun a hF => ns <| mv hF rfl rfl fun a hF => mv hF rfl rfl fun a hF => nt <| wp_block ?_;change Mem w _ [some (b1, vecC f), some (b2, algC 0 0 (fun _ _ _ => 0) (fun _ => 0)), some (b3, algC p (n : Int) (gTp n M (gi) (0)) f)] [] at hM;refine c_loop (fun (kk : Nat) a w' => kk ≤ n ∧ (True) ∧ Fr 41 a [(1, .int .i64 (n : Int)), (3, .func (.func 52) #[.agg (grpC (n : Int) M)] #[]), (8, ptr b2 (0)), (9, ptr b3 (0)), (17, .int .i64 (n : Int)), (18, .int .i64 (gi : Int)), (19, .bool (decide (((gi : Int) : Int) < (n : Int)))), (20, .int .i64 (gi : Int)), (10, .int .i64 (gi : Int)), (21, .int .i64 (n : Int)), (22, .int .i64 (kk : Int))] ∧ Mem w w' [some (b1, vecC f), some (b2, algC 0 0 (fun _ _ _ => 0) (fun _ => 0)), some (b3, algC p (n : Int) (gTp n M (gi) (kk)) f)] []) (fun kk => n - kk) 0 ?_ ?_
    · refine ⟨by omega, trivial, hF.sub _ (by repeat' constructor), ?_⟩
      exact hM
    clear hF hM;rintro gj a w' ⟨hgj, hinv2, hF, hM⟩;have z3 : gi < n → gj < n → M gi gj < n := fun q1 q2 => hG.lt (by omega) (by omega);have hbb := hB gi gj;refine sr <| st hF (g_lss hF rfl rfl) rfl fun a hF => nt <| sq <| c_cond hF rfl (fun h5 => ?_) (fun h5 => ?_)
    · refine wp_skip ?_
      refine tN <| sq <| wp_block <| sr <| mv hF rfl rfl fun a hF => ag hF rfl rfl fun a hF => ns <| mv hF rfl rfl fun a hF => mv hF rfl rfl fun a hF => mv hF rfl rfl fun a hF => stR hF (d_callVB (bnd := [.agg (grpC (n : Int) M)]) Try.call52 hF rfl (.cons rfl (.cons rfl .nil)) (times_ok (n : Int) M (gi) (gj) _ hB (by omega) (by omega))) rfl ?_;rintro _ w' a ⟨hx, rfl⟩ hF;have hM := hM.ext hx;refine ag hF rfl rfl fun a hF => ns <| mv hF rfl rfl fun a hF => st hF (g_neq hF rfl rfl) rfl fun a hF => nt <| c_cond hF rfl (fun h6 => ?_) (fun h6 => ?_)
      · refine c_par 6 [] [.val (.int .i64 (gi : Int)), .val (.int .i64 (gj : Int)), .val (.int .i64 ((M (gi) (gj) : Int))), .val (.agg (vecC (fun c => if c = M (gi) (gj) then 1 else 0))), .val (ptr b3 (0 + 2)), .val (ptr b3 (0 + 2 + (gi) * 36))] hmix rfl hF rfl hM ⟨fun a w gG hF hS hd => by exact pmv hS rfl hF rfl, fun a w gG hF hS hd => by exact pmv hS rfl hF rfl, fun a w gG hF hS hd => by exact pmv hS rfl hF rfl, fun a w gG hF hS hd => by have hF := hF.ext1 33 (hd 2 rfl rfl); exact par_call (by repeat constructor) hS rfl (d_call Try.call62 hF (.cons rfl .nil) (basisVector_ok (M (gi) (gj)) _ (by omega))), fun a w gG hF hS hd => by exact par_val hS rfl (g_fieldAddr ty_fo_37_2 hF rfl), fun a w gG hF hS hd => by have hF := hF.ext1 31 (hd 0 rfl rfl); have hF := hF.ext1 35 (hd 4 rfl rfl); exact par_val hS rfl (g_indexAddr ty_ar_34 hF rfl rfl rfl (by omega)), trivial⟩ ?_
        intro a w' L hF hS hq;have hF := hF.ext1 31 (hq 0 rfl rfl);have hF := hF.ext1 32 (hq 1 rfl rfl);have hF := hF.ext1 33 (hq 2 rfl rfl);have hF := hF.ext1 34 (hq 3 rfl rfl);have hF := hF.ext1 35 (hq 4 rfl rfl);have hF := hF.ext1 36 (hq 5 rfl rfl);have hM := hS.mem rfl;change wpList Try.prog _ _ [_, _] _ _;refine st hF (g_indexAddr ty_ar_23 hF rfl rfl rfl (by omega)) rfl fun a hF => stN hF (d_storeAgg 2 hM rfl ty_sz_22 hF rfl rfl (by first | exact vecC_one | exact cells_one | (refine fnC_one fun _ _ => ?_; first | rfl | (split <;> rfl))) (by simp only [sz0, grpC_size]) (by simp only [sz0, grpC_size] <;> omega) (algC_putRow (gi) (gj) (by omega) (by omega) (by omega))) ?_;intro _ w' a hM hF;change Mem w w' [some (b1, vecC f), some (b2, algC 0 0 (fun _ _ _ => 0) (fun _ => 0)), some (b3, algC p (n : Int) (fun i j k => if i = gi ∧ j = gj then ((fun c => if c = M (gi) (gj) then 1 else 0)) k else ((gTp n M (gi) (gj))) i j k) f)] [] at hM;refine wpList_nil <| iN <| tN <| wp_region_lit <| st hF (g_add hF rfl rfl (add_nat (gj) (1) (by omega))) rfl fun a hF => mv hF rfl rfl fun a hF => nt <| ⟨gj + 1, ⟨by omega, trivial, hF.sub _ (by repeat' constructor), ?_⟩, by omega⟩;exact hM.rowc 2 rfl (algC_congr fun i hi j hj k hk => gTp_step (by omega))
      exfalso; omega
    obtain rfl : n = gj := by omega
    refine wp_exit <| tX <| tX <| ib_same <| iN <| tN <| wp_region_lit <| st hF (g_add hF rfl rfl (add_nat (gi) (1) (by omega))) rfl fun a hF => mv hF rfl rfl fun a hF => nt <| ⟨gi + 1, ⟨by omega, trivial, hF.sub _ (by repeat' constructor), ?_⟩, by omega⟩;exact hM.rowc 2 rfl (algC_congr fun i hi j hj k hk => gTp_row)
  obtain rfl : n = gi := by omega
  have hM := hM.rowc (cs' := algC p (n : Int) (gT n M) f) 2 rfl (algC_congr fun i hi j hj k hk => gTp_end);refine wp_exit <| tX <| tX <| ib_same <| tN <| sr <| st hF (g_loadAgg ty_ag_37 hF rfl (hM.row 2 rfl) (by simp only [sz0, grpC_size] <;> omega) (whole cells_size)) rfl fun a hF => stN hF (d_storeAgg 1 hM rfl ty_sz_37 hF rfl rfl (by first | exact vecC_one | exact cells_one | (refine fnC_one fun _ _ => ?_; first | rfl | (split <;> rfl))) (by simp only [sz0, grpC_size]) (by simp only [sz0, grpC_size] <;> omega) (splice_whole _ _ (by simp only [sz0, grpC_size]))) ?_;intro _ w' a hM hF;change Mem w w' [some (b1, vecC f), some (b2, algC p (n : Int) (gT n M) f), some (b3, algC p (n : Int) (gT n M) f)] [] at hM;refine nt <| wp_ret <| fin1 rfl hF.defers (res_agg ty_ag_37 hF rfl (hM.row 1 rfl) (by simp only [sz0, grpC_size])) ⟨_, rfl, hM.below, ?_⟩
  show _ = _
  rfl
theorem groupAlgebra_ok (p : Int) (n : Nat) (M : Nat → Nat → Nat) (w : World) (hn0 : 0 < n) (hn : n ≤ 6) (hB : ∀ i j, M i j ≤ 255) (hG : TabP n M) :
    CallsR Try.prog 30 #[.int .i64 (p), .agg (grpC (n : Int) M)] w (fun res _ => res = .agg (algC p (n : Int) (gT n M) (fun c => if c = 0 then 1 else 0))) := by
  refine calls_fr [.int .i64 (p), .agg (grpC (n : Int) M)] Try.func30 rfl Try.ntmps30 rfl fun a hF => ?_;have hM : Mem w w [none, none] [] := MemX.start w 2;change Fr 12 a [(0, .int .i64 (p)), (1, .agg (grpC (n : Int) M))] at hF;refine sr <| stR hF (d_box 0 hM hF rfl) rfl ?_;rintro _ w' a ⟨b1, rfl, hM, -⟩ hF;refine stR hF (d_alloc 1 hM ty_ze_37) rfl ?_;rintro _ w' a ⟨b2, rfl, hM, -⟩ hF;change Mem w w' [some (b1, grpC (n : Int) M), some (b2, algC 0 0 (fun _ _ _ => 0) (fun _ => 0))] [] at hM;refine ns <| mv hF rfl rfl fun a hF => st hF (g_fieldAddr ty_fo_29_0 hF rfl) rfl fun a hF => st hF (g_load ty_on_2 hF rfl (hM.row 0 rfl) (grpC_n (by omega))) rfl fun a hF => st hF (g_buildP hF (build1 hF rfl) ty_bf_35_30_387) rfl fun a hF => st hF (g_loadAgg ty_ag_29 hF rfl (hM.row 0 rfl) (by simp only [sz0, grpC_size] <;> omega) (whole (by simp only [sz0, grpC_size]))) rfl fun a hF => st hF (g_makeFuncB hF rfl) rfl fun a hF => stR hF (d_call Try.call51 hF (.cons rfl (.cons rfl (.cons rfl (.cons rfl .nil)))) (algebraOfPlaces_ok (p) n M ((fun c => if c = 0 then 1 else 0)) _ hn0 hn hB hG)) rfl ?_;rintro _ w' a ⟨hx, rfl⟩ hF;have hM := hM.ext hx;refine stN hF (d_storeAgg 1 hM rfl ty_sz_37 hF rfl rfl (by first | exact vecC_one | exact cells_one | (refine fnC_one fun _ _ => ?_; first | rfl | (split <;> rfl))) (by simp only [sz0, grpC_size]) (by simp only [sz0, grpC_size] <;> omega) (splice_whole _ _ (by simp only [sz0, grpC_size]))) ?_;intro _ w' a hM hF;change Mem w w' [some (b1, grpC (n : Int) M), some (b2, algC (p) (n : Int) (gT n M) ((fun c => if c = 0 then 1 else 0)))] [] at hM;refine nt <| wp_ret <| fin1 rfl hF.defers (res_agg ty_ag_37 hF rfl (hM.row 1 rfl) (by simp only [sz0, grpC_size])) ⟨_, rfl, hM.below, ?_⟩
  show _ = _
  rfl
theorem groupFault_A (p : Int) (n : Int) (M : Nat → Nat → Nat) (w : World) (hB : ∀ i j, M i j ≤ 255) (hc : ¬ GrpP n M) :
    CallsR Try.prog 29 #[.int .i64 (p), .agg (grpC n M)] w (fun res _ => res = .int .i64 1) := by
  refine calls_fr [.int .i64 (p), .agg (grpC n M)] Try.func29 rfl Try.ntmps29 rfl fun a hF => ?_;have hM : Mem w w [none] [] := MemX.start w 1;change Fr 11 a [(0, .int .i64 (p)), (1, .agg (grpC n M))] at hF;refine sr <| stR hF (d_box 0 hM hF rfl) rfl ?_;rintro _ w' a ⟨b1, rfl, hM, -⟩ hF;change Mem w w' [some (b1, grpC n M)] [] at hM;refine ag hF rfl rfl fun a hF => nt <| sq <| sr <| st hF (g_loadAgg ty_ag_29 hF rfl (hM.row 0 rfl) (by simp only [sz0, grpC_size] <;> omega) (whole (by simp only [sz0, grpC_size]))) rfl fun a hF => stR hF (d_call Try.call25 hF (.cons rfl .nil) ((CallsR.val (isG_I n M _ hB) (congrArg Value.bool (decide_eq_false hc))))) rfl ?_;rintro _ w' a ⟨hx, rfl⟩ hF;have hM := hM.ext hx;refine st hF (g_not hF rfl) rfl fun a hF => nt <| c_T hF rfl <| sr <| ag hF rfl rfl fun a hF => nt <| wp_ret <| tR <| fin1 rfl hF.defers (res_tmp hF rfl) ⟨_, rfl, hM.below, ?_⟩
  show _ = _
  rfl
theorem groupFault_P (p : Int) (n : Nat) (M : Nat → Nat → Nat) (w : World) (hn0 : 0 < n) (hn : n ≤ 6) (hB : ∀ i j, M i j ≤ 255) (hG : TabP n M) (hP : ¬ primeP p) :
    CallsR Try.prog 29 #[.int .i64 (p), .agg (grpC (n : Int) M)] w (fun res _ => res = .int .i64 2) := by
  refine calls_fr [.int .i64 (p), .agg (grpC (n : Int) M)] Try.func29 rfl Try.ntmps29 rfl fun a hF => ?_;have hM : Mem w w [none] [] := MemX.start w 1;change Fr 11 a [(0, .int .i64 (p)), (1, .agg (grpC (n : Int) M))] at hF;refine sr <| stR hF (d_box 0 hM hF rfl) rfl ?_;rintro _ w' a ⟨b1, rfl, hM, -⟩ hF;change Mem w w' [some (b1, grpC (n : Int) M)] [] at hM;refine ag hF rfl rfl fun a hF => nt <| sq <| sr <| st hF (g_loadAgg ty_ag_29 hF rfl (hM.row 0 rfl) (by simp only [sz0, grpC_size] <;> omega) (whole (by simp only [sz0, grpC_size]))) rfl fun a hF => stR hF (d_call Try.call25 hF (.cons rfl .nil) ((CallsR.val (isG_I (n : Int) M _ hB) (congrArg Value.bool (decide_eq_true (GrpP.mk hn0 hn hG)))))) rfl ?_;rintro _ w' a ⟨hx, rfl⟩ hF;have hM := hM.ext hx;refine st hF (g_not hF rfl) rfl fun a hF => nt <| c_Fl hF rfl <| wp_skip <| tN <| sq <| sr <| mv hF rfl rfl fun a hF => stR hF (d_call Try.call50 hF (.cons rfl .nil) (isPrime_ok (p) _)) rfl ?_;rintro _ w' a ⟨hx, rfl⟩ hF;have hM := hM.ext hx;refine st hF (g_notP hF rfl) rfl fun a hF => nt <| c_cond hF rfl (fun h3 => ?_) (fun h3 => ?_)
  · refine sq ?_
    refine wp_region_lit <| ag hF rfl rfl fun a hF => nt <| wp_ret <| tR <| fin1 rfl hF.defers (res_tmp hF rfl) ⟨_, rfl, hM.below, ?_⟩
    show _ = _
    rfl
  first | exact absurd (by assumption) hP | exact absurd hP (by assumption)
theorem groupFault_V (p : Int) (n : Nat) (M : Nat → Nat → Nat) (w : World) (hn0 : 0 < n) (hn : n ≤ 6) (hB : ∀ i j, M i j ≤ 255) (hG : TabP n M) (hP : primeP p) :
    CallsR Try.prog 29 #[.int .i64 (p), .agg (grpC (n : Int) M)] w (fun res _ => res = .int .i64 0) := by
  refine calls_fr [.int .i64 (p), .agg (grpC (n : Int) M)] Try.func29 rfl Try.ntmps29 rfl fun a hF => ?_;have hM : Mem w w [none] [] := MemX.start w 1;change Fr 11 a [(0, .int .i64 (p)), (1, .agg (grpC (n : Int) M))] at hF;refine sr <| stR hF (d_box 0 hM hF rfl) rfl ?_;rintro _ w' a ⟨b1, rfl, hM, -⟩ hF;change Mem w w' [some (b1, grpC (n : Int) M)] [] at hM;refine ag hF rfl rfl fun a hF => nt <| sq <| sr <| st hF (g_loadAgg ty_ag_29 hF rfl (hM.row 0 rfl) (by simp only [sz0, grpC_size] <;> omega) (whole (by simp only [sz0, grpC_size]))) rfl fun a hF => stR hF (d_call Try.call25 hF (.cons rfl .nil) ((CallsR.val (isG_I (n : Int) M _ hB) (congrArg Value.bool (decide_eq_true (GrpP.mk hn0 hn hG)))))) rfl ?_;rintro _ w' a ⟨hx, rfl⟩ hF;have hM := hM.ext hx;refine st hF (g_not hF rfl) rfl fun a hF => nt <| c_Fl hF rfl <| wp_skip <| tN <| sq <| sr <| mv hF rfl rfl fun a hF => stR hF (d_call Try.call50 hF (.cons rfl .nil) (isPrime_ok (p) _)) rfl ?_;rintro _ w' a ⟨hx, rfl⟩ hF;have hM := hM.ext hx;refine st hF (g_notP hF rfl) rfl fun a hF => nt <| c_cond hF rfl (fun h3 => ?_) (fun h3 => ?_)
  · first | exact absurd (by assumption) hP | exact absurd hP (by assumption)
  refine wp_skip <| tN <| sr <| ag hF rfl rfl fun a hF => nt <| wp_ret <| fin1 rfl hF.defers (res_tmp hF rfl) ⟨_, rfl, hM.below, ?_⟩
  show _ = _
  rfl
theorem l06Code_A (p : Int) (n : Int) (M : Nat → Nat → Nat) (w : World) (hB : ∀ i j, M i j ≤ 255) (hc : ¬ GrpP n M) :
    CallsR Try.prog 27 #[.int .i64 (p), .agg (grpC n M)] w (fun res _ => res = .int .i64 1) := by
  refine calls_fr [.int .i64 (p), .agg (grpC n M)] Try.func27 rfl Try.ntmps27 rfl fun a hF => ?_;have hM : Mem w w [none] [] := MemX.start w 1;change Fr 13 a [(0, .int .i64 (p)), (1, .agg (grpC n M))] at hF;refine sr <| stR hF (d_box 0 hM hF rfl) rfl ?_;rintro _ w' a ⟨b1, rfl, hM, -⟩ hF;change Mem w w' [some (b1, grpC n M)] [] at hM;refine ag hF rfl rfl fun a hF => nt <| sq <| wp_block <| sr <| st hF (g_loadAgg ty_ag_29 hF rfl (hM.row 0 rfl) (by simp only [sz0, grpC_size] <;> omega) (whole (by simp only [sz0, grpC_size]))) rfl fun a hF => stR hF (d_call Try.call22 hF (.cons rfl .nil) ((CallsR.val (isG_S n M _ hB) (congrArg Value.bool (decide_eq_false hc))))) rfl ?_;rintro _ w' a ⟨hx, rfl⟩ hF;have hM := hM.ext hx;refine st hF (g_not hF rfl) rfl fun a hF => ag hF rfl rfl fun a hF => nt <| c_T hF rfl <| sr <| ag hF rfl rfl fun a hF => nt <| wp_ret <| iR <| tR <| fin1 rfl hF.defers (res_tmp hF rfl) ⟨_, rfl, hM.below, ?_⟩
  show _ = _
  rfl
theorem l06Code_P (p : Int) (n : Nat) (M : Nat → Nat → Nat) (w : World) (hn0 : 0 < n) (hn : n ≤ 6) (hB : ∀ i j, M i j ≤ 255) (hG : TabP n M) (hP : ¬ primeP p) :
    CallsR Try.prog 27 #[.int .i64 (p), .agg (grpC (n : Int) M)] w (fun res _ => res = .int .i64 2) := by
  refine calls_fr [.int .i64 (p), .agg (grpC (n : Int) M)] Try.func27 rfl Try.ntmps27 rfl fun a hF => ?_;have hM : Mem w w [none] [] := MemX.start w 1;change Fr 13 a [(0, .int .i64 (p)), (1, .agg (grpC (n : Int) M))] at hF;refine sr <| stR hF (d_box 0 hM hF rfl) rfl ?_;rintro _ w' a ⟨b1, rfl, hM, -⟩ hF;change Mem w w' [some (b1, grpC (n : Int) M)] [] at hM;refine ag hF rfl rfl fun a hF => nt <| sq <| wp_block <| sr <| st hF (g_loadAgg ty_ag_29 hF rfl (hM.row 0 rfl) (by simp only [sz0, grpC_size] <;> omega) (whole (by simp only [sz0, grpC_size]))) rfl fun a hF => stR hF (d_call Try.call22 hF (.cons rfl .nil) ((CallsR.val (isG_S (n : Int) M _ hB) (congrArg Value.bool (decide_eq_true (GrpP.mk hn0 hn hG)))))) rfl ?_;rintro _ w' a ⟨hx, rfl⟩ hF;have hM := hM.ext hx;refine st hF (g_not hF rfl) rfl fun a hF => ag hF rfl rfl fun a hF => nt <| c_Fl hF rfl <| sr <| mv hF rfl rfl fun a hF => stR hF (d_call Try.call49 hF (.cons rfl .nil) (l01Prime_ok (p) _)) rfl ?_;rintro _ w' a ⟨hx, rfl⟩ hF;have hM := hM.ext hx;refine st hF (g_notP hF rfl) rfl fun a hF => ag hF rfl rfl fun a hF => nt <| c_cond hF rfl (fun h3 => ?_) (fun h3 => ?_)
  · refine sq ?_
    refine wp_region_lit <| ag hF rfl rfl fun a hF => nt <| wp_ret <| iR <| tR <| fin1 rfl hF.defers (res_tmp hF rfl) ⟨_, rfl, hM.below, ?_⟩
    show _ = _
    rfl
  first | exact absurd (by assumption) hP | exact absurd hP (by assumption)
theorem l06Code_V (p : Int) (n : Nat) (M : Nat → Nat → Nat) (w : World) (hn0 : 0 < n) (hn : n ≤ 6) (hB : ∀ i j, M i j ≤ 255) (hG : TabP n M) (hP : primeP p) :
    CallsR Try.prog 27 #[.int .i64 (p), .agg (grpC (n : Int) M)] w (fun res _ => res = .int .i64 0) := by
  refine calls_fr [.int .i64 (p), .agg (grpC (n : Int) M)] Try.func27 rfl Try.ntmps27 rfl fun a hF => ?_;have hM : Mem w w [none] [] := MemX.start w 1;change Fr 13 a [(0, .int .i64 (p)), (1, .agg (grpC (n : Int) M))] at hF;refine sr <| stR hF (d_box 0 hM hF rfl) rfl ?_;rintro _ w' a ⟨b1, rfl, hM, -⟩ hF;change Mem w w' [some (b1, grpC (n : Int) M)] [] at hM;refine ag hF rfl rfl fun a hF => nt <| sq <| wp_block <| sr <| st hF (g_loadAgg ty_ag_29 hF rfl (hM.row 0 rfl) (by simp only [sz0, grpC_size] <;> omega) (whole (by simp only [sz0, grpC_size]))) rfl fun a hF => stR hF (d_call Try.call22 hF (.cons rfl .nil) ((CallsR.val (isG_S (n : Int) M _ hB) (congrArg Value.bool (decide_eq_true (GrpP.mk hn0 hn hG)))))) rfl ?_;rintro _ w' a ⟨hx, rfl⟩ hF;have hM := hM.ext hx;refine st hF (g_not hF rfl) rfl fun a hF => ag hF rfl rfl fun a hF => nt <| c_Fl hF rfl <| sr <| mv hF rfl rfl fun a hF => stR hF (d_call Try.call49 hF (.cons rfl .nil) (l01Prime_ok (p) _)) rfl ?_;rintro _ w' a ⟨hx, rfl⟩ hF;have hM := hM.ext hx;refine st hF (g_notP hF rfl) rfl fun a hF => ag hF rfl rfl fun a hF => nt <| c_cond hF rfl (fun h3 => ?_) (fun h3 => ?_)
  · first | exact absurd (by assumption) hP | exact absurd hP (by assumption)
  refine wp_skip <| iN <| tN <| sr <| ag hF rfl rfl fun a hF => nt <| wp_ret <| fin1 rfl hF.defers (res_tmp hF rfl) ⟨_, rfl, hM.below, ?_⟩
  show _ = _
  rfl
end Go.Proofs.Ytilcjjjpiefebaa
