/- What functions of the program return, as walks over their operations; no statement of the seat is proved here. -/
import Derived.Test.YtfbhngnfhpjonaaP13
import Derived.Test.YtfbhngnfhpjonaaSw35
set_option linter.unusedVariables false
set_option linter.unusedSimpArgs false
namespace Go.Proofs.Ytfbhngnfhpjonaa
open Go Go.RowKit Go.Sw Go.Ech
open Classical
theorem coproduct_ok (p n : Nat) (T : Nat → Nat → Nat → Nat) (f : Nat → Nat) (G : Nat → Nat → Nat) (v : Nat → Nat) (w : World) (hp : primeN p) (hn0 : 0 < n) (hn : n ≤ 6) (hTp : ∀ i j k, T i j k < p) (hT0 : ∀ i j k, n ≤ k → T i j k = 0) (hf : ∀ i, f i ≤ 255) (hvv : ∀ i, v i ≤ 255) (hfr : FrobN p n T f) (hG : IsCop p n (formM p n T f) G) :
    CallsR Try.prog 54 #[.agg (algC (p : Int) (n : Int) T f), .agg (vecC v)] w (fun u w' => OwnSl 6 w n (fun c => .int .u8 (((cpI p n T G v) (c / 6) (c % 6) : Nat) : Int)) u w') := by
  refine calls_fr [.agg (algC (p : Int) (n : Int) T f), .agg (vecC v)] Try.func54 rfl Try.ntmps54 rfl fun a hF => ?_
  have hM : Mem w w [none, none, none, none] [] := MemX.start w 4
  change Fr 26 a [(0, .agg (algC (p : Int) (n : Int) T f)), (1, .agg (vecC v))] at hF
  have hp2 := hp.two
  have hp13 := hp.le
  have hT : ∀ i j k, T i j k ≤ 255 := fun i j k => by have := hTp i j k; omega
  have hGp := hG.lt
  have hG5 : ∀ i c, G i c ≤ 255 := fun i c => by have := hGp i c; omega
  have hv : ∀ c, v c ≤ 255 := hvv
  refine sq ?_
  refine wp_region_lit ?_
  refine stR hF (d_box 0 hM hF rfl) rfl ?_
  rintro _ w' a ⟨b1, rfl, hM, -⟩ hF
  change Mem w w' [some (b1, algC (p : Int) (n : Int) T f), none, none, none] [] at hM
  refine stR hF (d_box 1 hM hF rfl) rfl ?_
  rintro _ w' a ⟨b2, rfl, hM, -⟩ hF
  change Mem w w' [some (b1, algC (p : Int) (n : Int) T f), some (b2, vecC v), none, none] [] at hM
  refine st hF (g_assign hF rfl) rfl fun a hF => ?_
  refine wpList_nil ?_
  refine tN ?_
  refine sq ?_
  refine wp_region_lit ?_
  refine st hF (g_loadAgg ty_ag_32 hF rfl (hM.row 0 rfl) (by simp only [fnC_size, cells_size, vecC_size, tabC_size, planeC_size, mrk_size, rowI_size, cpC_size] <;> omega) (whole cells_size)) rfl fun a hF => ?_
  refine stR hF (d_callOwn (k := 3) hM (d_call Try.call65 hF (.cons rfl .nil) (copairing_ok p n T f G _ hp hn0 hn (fun _ _ _ => hT _ _ _) (fun _ => hf _) hfr hG))) rfl ?_
  rintro u w' a ⟨bG, capG, csG, hsG, hM, -⟩ hF
  obtain rfl := hsG.val
  change Mem w w' [some (b1, algC (p : Int) (n : Int) T f), some (b2, vecC v), none, some (bG, csG)] [] at hM
  obtain ⟨xq, hxq⟩ : ∃ xs, csG = cpC (capG * 6) n (cpI p n T G v) G xs 0 := ⟨_, cpC_start hsG⟩
  have hle := hsG.le
  have hmx := hsG.max
  have hZ : n * 6 ≤ capG * 6 := Nat.mul_le_mul_right _ hle
  have hM := hM.rowc (cs' := cpC (capG * 6) n (cpI p n T G v) G xq 0) 3 rfl hxq
  change Mem w w' [some (b1, algC (p : Int) (n : Int) T f), some (b2, vecC v), none, some (bG, cpC (capG * 6) n (cpI p n T G v) G xq 0)] [] at hM
  refine st hF (g_assign hF rfl) rfl fun a hF => ?_
  refine wpList_nil ?_
  refine tN ?_
  refine sq ?_
  refine sq ?_
  refine wp_region_lit ?_
  refine st hF (g_move hF rfl) rfl fun a hF => st hF (g_len ty_us_27 hF rfl) rfl fun a hF => st hF (g_move hF rfl) rfl fun a hF => ?_
  refine wpList_nil ?_
  refine tN ?_
  refine wp_block ?_
  change Mem w _ [some (b1, algC (p : Int) (n : Int) T f), some (b2, vecC v), none, some (bG, cpC (capG * 6) n (cpI p n T G v) G xq 0)] [] at hM
  refine c_loop (fun (kk : Nat) a w' => kk ≤ n ∧ (True) ∧ Fr 26 a [(0, .agg (algC (p : Int) (n : Int) T f)), (1, .agg (vecC v)), (2, ptr b1 (0)), (3, ptr b2 (0)), (4, .slice none 0 0), (8, .agg (algC (p : Int) (n : Int) T f)), (9, .slice (some ⟨bG, 0, none⟩) (n) (capG)), (5, .slice (some ⟨bG, 0, none⟩) (n) (capG)), (10, .slice (some ⟨bG, 0, none⟩) (n) (capG)), (11, .int .i64 (((n : Nat) : Int))), (12, .int .i64 (((kk : Nat) : Int)))] ∧ Mem w w' [some (b1, algC (p : Int) (n : Int) T f), some (b2, vecC v), none, some (bG, cpC (capG * 6) n (cpI p n T G v) G xq kk)] []) (fun kk => n - kk) 0 ?_ ?_
  ·
    refine ⟨by omega, trivial, hF.sub _ (by repeat' constructor), ?_⟩
    exact hM
  ·
    clear hF hM
    rintro gi a w' ⟨hgi, hinv1, hF, hM⟩
    have hvs : ∀ c, G gi c ≤ 255 := hG5 gi
    have hvt : ∀ c, timesV p n T (G gi) v c ≤ 255 := fun c => timesV_le (by omega) (by omega) _ _ c
    refine sq ?_
    refine wp_region_lit ?_
    refine st hF (g_lss hF rfl rfl) rfl fun a hF => ?_
    refine wpList_nil ?_
    refine tN ?_
    refine sq ?_
    refine c_cond hF rfl (fun h3 => ?_) (fun h3 => ?_)
    ·
      refine wp_skip ?_
      refine tN ?_
      refine sq ?_
      refine wp_block ?_
      refine sq ?_
      refine wp_region_lit ?_
      refine st hF (g_move hF rfl) rfl fun a hF => st hF (g_indexSl (i := gi) ty_sl_27 hF rfl rfl rfl (by omega)) rfl fun a hF => st hF (g_loadAgg ty_ag_30 hF rfl (hM.row 3 rfl) (by rw [cpC_size]; omega) (cpC_get hZ (by omega) (by omega))) rfl fun a hF => ?_
      refine stR hF (d_alloc 2 hM ty_ze_30) rfl ?_
      rintro _ w' a ⟨b4, rfl, hM, -⟩ hF
      change Mem w w' [some (b1, algC (p : Int) (n : Int) T f), some (b2, vecC v), some (b4, fnC 6 (fun _ => .int .u8 (0))), some (bG, cpC (capG * 6) n (cpI p n T G v) G xq gi)] [] at hM
      refine st hF (g_assign hF rfl) rfl fun a hF => ?_
      refine stN hF (d_storeAgg 2 hM rfl ty_sz_30 hF rfl rfl (by first | exact vecC_one | exact cells_one | (refine fnC_one fun _ _ => ?_; first | rfl | (split <;> rfl))) (by simp only [fnC_size, cells_size, vecC_size, tabC_size, planeC_size, mrk_size, rowI_size, cpC_size]) (by simp only [fnC_size, cells_size, vecC_size, tabC_size, planeC_size, mrk_size, rowI_size, cpC_size] <;> omega) (splice_whole _ _ (by simp only [fnC_size, cells_size, vecC_size, tabC_size, planeC_size, mrk_size, rowI_size, cpC_size]))) ?_
      intro _ w' a hM hF
      change Mem w w' [some (b1, algC (p : Int) (n : Int) T f), some (b2, vecC v), some (b4, vecC (G (gi))), some (bG, cpC (capG * 6) n (cpI p n T G v) G xq gi)] [] at hM
      refine wpList_nil ?_
      refine tN ?_
      refine wp_region_lit ?_
      refine st hF (g_move hF rfl) rfl fun a hF => st hF (g_move hF rfl) rfl fun a hF => st hF (g_loadAgg ty_ag_32 hF rfl (hM.row 0 rfl) (by simp only [fnC_size, cells_size, vecC_size, tabC_size, planeC_size, mrk_size, rowI_size, cpC_size] <;> omega) (whole cells_size)) rfl fun a hF => st hF (g_loadAgg ty_ag_30 hF rfl (hM.row 2 rfl) (by simp only [fnC_size, cells_size, vecC_size, tabC_size, planeC_size, mrk_size, rowI_size, cpC_size] <;> omega) (whole (by simp only [fnC_size, cells_size, vecC_size, tabC_size, planeC_size, mrk_size, rowI_size, cpC_size]))) rfl fun a hF => st hF (g_loadAgg ty_ag_30 hF rfl (hM.row 1 rfl) (by simp only [fnC_size, cells_size, vecC_size, tabC_size, planeC_size, mrk_size, rowI_size, cpC_size] <;> omega) (whole (by simp only [fnC_size, cells_size, vecC_size, tabC_size, planeC_size, mrk_size, rowI_size, cpC_size]))) rfl fun a hF => ?_
      refine stR hF (d_call Try.call43 hF (.cons rfl (.cons rfl (.cons rfl .nil))) (product_ok p n T f ((G (gi))) (v) _ (by omega) (by omega) (by omega) (fun _ _ _ => hT _ _ _) (fun _ => by first | exact hv _ | exact hvt _ | exact hvs _ | exact hu _ | exact hT _ _ _ | exact hf _ | omega | (split <;> omega) | (dsimp only; split <;> omega) | assumption) (fun _ => by first | exact hv _ | exact hvt _ | exact hvs _ | exact hu _ | exact hT _ _ _ | exact hf _ | omega | (split <;> omega) | (dsimp only; split <;> omega) | assumption))) rfl ?_
      rintro _ w' a ⟨hx, rfl⟩ hF
      have hM := hM.ext hx
      refine st hF (g_indexSl (i := gi) ty_sl_27 hF rfl rfl rfl (by omega)) rfl fun a hF => ?_
      refine stN hF (d_storeAgg 3 hM rfl ty_sz_30 hF rfl rfl (by first | exact vecC_one | exact cells_one | (refine fnC_one fun _ _ => ?_; first | rfl | (split <;> rfl))) (by simp only [fnC_size, cells_size, vecC_size, tabC_size, planeC_size, mrk_size, rowI_size, cpC_size]) (by simp only [fnC_size, cells_size, vecC_size, tabC_size, planeC_size, mrk_size, rowI_size, cpC_size] <;> omega) (cpC_put (W := (cpI p n T G v)) (g := gi) hZ (by omega) (by omega))) ?_
      intro _ w' a hM hF
      change Mem w w' [some (b1, algC (p : Int) (n : Int) T f), some (b2, vecC v), some (b4, vecC (G (gi))), some (bG, cpC (capG * 6) n (cpI p n T G v) G xq (gi + 1))] [] at hM
      refine wpList_nil ?_
      refine iN ?_
      refine tN ?_
      refine wp_region_lit ?_
      refine st hF (g_add hF rfl rfl (add_nat (gi) (1) (by omega))) rfl fun a hF => st hF (g_move hF rfl) rfl fun a hF => ?_
      refine wpList_nil ?_
      refine tN ?_
      have hM := hM.drop 2
      refine ⟨gi + 1, ⟨by omega, trivial, hF.sub _ (by repeat' constructor), ?_⟩, by omega⟩
      exact hM
    ·
      obtain rfl : n = gi := by omega
      refine wp_exit ?_
      refine tX ?_
      refine tX ?_
      refine ib_same ?_
      refine tN ?_
      refine sq ?_
      refine wp_region_lit ?_
      refine st hF (g_move hF rfl) rfl fun a hF => st hF (g_assign hF rfl) rfl fun a hF => ?_
      refine wpList_nil ?_
      refine tN ?_
      refine wp_ret ?_
      refine fin1 rfl hF.defers (res_tmp hF rfl) ⟨_, rfl, hM.below, ?_⟩
      exact ⟨_, _, _, cpC_end hle hmx, hM.ge 3 rfl, hM.row 3 rfl⟩

theorem l02Coproduct_ok (p n : Nat) (T : Nat → Nat → Nat → Nat) (f : Nat → Nat) (G : Nat → Nat → Nat) (v : Nat → Nat) (w : World) (hp : primeN p) (hn0 : 0 < n) (hn : n ≤ 6) (hTp : ∀ i j k, T i j k < p) (hT0 : ∀ i j k, n ≤ k → T i j k = 0) (hf : ∀ i, f i ≤ 255) (hvv : ∀ i, v i ≤ 255) (hfr : FrobN p n T f) (hG : IsCop p n (formM p n T f) G) :
    CallsR Try.prog 52 #[.agg (algC (p : Int) (n : Int) T f), .agg (vecC v)] w (fun u w' => TabOut w w' n n (fun i c => .int .i64 (((cpS p n T G v n) i c : Nat) : Int)) u) := by
  refine calls_fr [.agg (algC (p : Int) (n : Int) T f), .agg (vecC v)] Try.func52 rfl Try.ntmps52 rfl fun a hF => ?_
  have hM : Mem w w [none, none, none, none, none, none] [] := MemX.start w 6
  change Fr 77 a [(0, .agg (algC (p : Int) (n : Int) T f)), (1, .agg (vecC v))] at hF
  have hp2 := hp.two
  have hp13 := hp.le
  have hT : ∀ i j k, T i j k ≤ 255 := fun i j k => by have := hTp i j k; omega
  have hGp := hG.lt
  have hG5 : ∀ i c, G i c ≤ 255 := fun i c => by have := hGp i c; omega
  have hv : ∀ c, v c ≤ 255 := hvv
  refine sq ?_
  refine wp_region_lit ?_
  refine stR hF (d_box 0 hM hF rfl) rfl ?_
  rintro _ w' a ⟨b1, rfl, hM, -⟩ hF
  change Mem w w' [some (b1, algC (p : Int) (n : Int) T f), none, none, none, none, none] [] at hM
  refine stR hF (d_box 1 hM hF rfl) rfl ?_
  rintro _ w' a ⟨b2, rfl, hM, -⟩ hF
  change Mem w w' [some (b1, algC (p : Int) (n : Int) T f), some (b2, vecC v), none, none, none, none] [] at hM
  refine st hF (g_assign hF rfl) rfl fun a hF => ?_
  refine wpList_nil ?_
  refine tN ?_
  refine sq ?_
  refine c_par 8 [] [.val (ptr b1 (0 + 1)), .val (.int .i64 (((n : Nat) : Int))), .val (.agg (algC (p : Int) (n : Int) T f)), .rel (RowsFr w [some (b1, algC (p : Int) (n : Int) T f), some (b2, vecC v), none, none, none, none] n n (fun i c => .int .i64 ((G i c : Nat) : Int))), .rel (EmpF w [some (b1, algC (p : Int) (n : Int) T f), some (b2, vecC v), none, none, none, none]), .val (.int .i64 (((n : Nat) : Int))), .rel (RowsFr w [some (b1, algC (p : Int) (n : Int) T f), some (b2, vecC v), none, none, none, none] n n (fun i c => .int .i64 ((G i c : Nat) : Int))), .rel (EmpF w [some (b1, algC (p : Int) (n : Int) T f), some (b2, vecC v), none, none, none, none])] hmix rfl hF rfl hM ⟨fun a w g hF hS hd => by exact par_val hS rfl (g_fieldAddr ty_fo_32_1 hF rfl), fun a w g hF hS hd => by have hF := hF.ext1 14 (hd 0 rfl rfl); have hM := hS.mem rfl; exact par_val hS rfl (g_load ty_on_2 hF rfl (hM.row 0 rfl) (algC_n (by omega))), fun a w g hF hS hd => by have hM := hS.mem rfl; exact par_val hS rfl (g_loadAgg ty_ag_32 hF rfl (hM.row 0 rfl) (by simp only [fnC_size, cells_size, vecC_size, tabC_size, planeC_size, mrk_size, rowI_size, cpC_size] <;> omega) (whole cells_size)), fun a w g hF hS hd => by have hF := hF.ext1 16 (hd 2 rfl rfl); have hM := hS.mem rfl; exact par_rel (by exact ⟨fun _ _ _ h hx => h.last hx, fun _ _ _ h hx => h.last hx, fun _ _ _ h hx => h.last hx, fun _ _ _ h hx => h.last hx, trivial⟩) hS rfl (d_call Try.call84 hF (.cons rfl .nil) (l02Copairing_ok p n T f G _ hp hn0 hn hTp hT0 hf hfr hG)) (fun _ _ hr => TabOut.freshR hM hr), fun a wS g hF hS hd => by have hM := hS.mem rfl; exact par_rel (R' := EmpF w [some (b1, algC (p : Int) (n : Int) T f), some (b2, vecC v), none, none, none, none]) (by exact ⟨fun _ _ _ h hx => h.last hx, fun _ _ _ h hx => h.last hx, fun _ _ _ h hx => h.last hx, fun _ _ _ h hx => h.last hx, trivial⟩) hS rfl (EmpF.build (k := 2) (L := [some (b1, algC (p : Int) (n : Int) T f), some (b2, vecC v), none, none, none, none]) rfl (d_buildC 2 hM hF rfl ty_bs0_53)) (fun _ _ hr => hr), fun a w g hF hS hd => by have hF := hF.ext1 15 (hd 1 rfl rfl); exact par_val hS rfl (g_assign hF rfl), fun a w g hF hS hd => by obtain ⟨D', β', κ', C', b', cap', cs', h5, h6, h7, h8⟩ := (hd 3 rfl rfl : RowsFr _ _ _ _ _ _ _); have e7 := h7.val; rw [e7] at h7; have hF := hF.ext1 17 e7; exact par_relG hS rfl (g_assign hF rfl) ⟨D', β', κ', C', b', cap', cs', h5, h6, h7, h8⟩, fun a w g hF hS hd => by obtain ⟨b', e7, h8⟩ := (hd 4 rfl rfl : EmpF _ _ _ _); have hF := hF.ext1 18 e7; exact par_relG hS rfl (g_assign hF rfl) ⟨b', rfl, h8⟩, trivial⟩ ?_
  intro a w' L hF hS hq
  have hM := hS.mem rfl
  have hF := hF.ext1 5 (hq 5 rfl rfl)
  have hr6 := (hq 6 rfl rfl : RowsFr w [some (b1, algC (p : Int) (n : Int) T f), some (b2, vecC v), none, none, none, none] n n (fun i c => .int .i64 ((G i c : Nat) : Int)) _ _)
  obtain ⟨be, e7, hbe, hge, hLe⟩ := (hq 7 rfl rfl : EmpF w [some (b1, algC (p : Int) (n : Int) T f), some (b2, vecC v), none, none, none, none] _ _)
  obtain ⟨DG, βG, κG, CG, bG, cG, csG, hRG, hsG, hmG, hgG, hbG, hM⟩ := hM.addR hr6
  have hF := hF.ext1 6 hsG.val
  have hF := hF.ext1 7 e7
  have hM := hM.sub ((bG, csG) :: (List.range n).map (fun i => (βG i, CG i))) (fun x hx => by
    rcases List.mem_cons.1 hx with rfl | hx
    · exact hmG
    · obtain ⟨i, hi, rfl⟩ := List.mem_map.1 hx
      exact hRG.mem i (by simpa using hi))
  have hRG : RowsD ((bG, csG) :: (List.range n).map (fun i => (βG i, CG i))) n n βG κG CG (fun i c => .int .i64 ((G i c : Nat) : Int)) := ⟨fun i hi => mem_rowsD (γ := βG) (R := CG) hi, hRG.sl⟩
  have hmG : (bG, csG) ∈ ((bG, csG) :: (List.range n).map (fun i => (βG i, CG i))) := List.mem_cons_self ..
  have hM := hM.putE 2 hbe hge hLe (fun x hx => by
    rcases List.mem_cons.1 hx with rfl | hx
    · have := hsG.sz; have := hsG.le; show 0 < csG.size; omega
    · obtain ⟨i, hi, rfl⟩ := List.mem_map.1 hx
      have h9 := hRG.sl i (by simpa using hi)
      have := h9.sz; have := h9.le; show 0 < (CG i).size; omega)
  change Mem w w' [some (b1, algC (p : Int) (n : Int) T f), some (b2, vecC v), some (be, #[]), none, none, none] ((bG, csG) :: (List.range n).map (fun i => (βG i, CG i))) at hM
  change wpList Try.prog _ _ [] _ _
  refine wpList_nil ?_
  refine tN ?_
  refine sq ?_
  refine sq ?_
  refine wp_region_lit ?_
  refine st hF (g_assign hF rfl) rfl fun a hF => ?_
  refine wpList_nil ?_
  refine tN ?_
  refine wp_block ?_
  change Mem w _ [some (b1, algC (p : Int) (n : Int) T f), some (b2, vecC v), some (be, #[]), none, none, none] ((bG, csG) :: (List.range n).map (fun i => (βG i, CG i))) at hM
  refine c_loop (fun (kk : Nat) a w' => kk ≤ n ∧ ∃ (D1 : Froz), ∃ (βo : Nat → Nat), (RowsC D1 kk βo (fun _ => rowI n (fun _ => 0)) ∧ (∀ i, i < kk → w.heap.size ≤ βo i) ∧ (∀ i, i < kk → ∀ x ∈ ((bG, csG) :: (List.range n).map (fun i => (βG i, CG i))), x.1 ≠ βo i) ∧ (∀ x ∈ ((bG, csG) :: (List.range n).map (fun i => (βG i, CG i))), x ∈ D1)) ∧ ∃ (u7_1 : Value) (e7_1 : Option (Nat × Array Value)), Sl 1 u7_1 e7_1 (kk) (fun i => .slice (some ⟨βo i, 0, none⟩) (n) (n)) ∧ Fr 77 a [(6, .slice (some ⟨bG, 0, none⟩) (n) (cG)), (5, .int .i64 (((n : Nat) : Int))), (0, .agg (algC (p : Int) (n : Int) T f)), (1, .agg (vecC v)), (2, ptr b1 (0)), (3, ptr b2 (0)), (4, .slice none 0 0), (8, .int .i64 (((kk : Nat) : Int))), (7, u7_1)] ∧ Mem w w' [some (b1, algC (p : Int) (n : Int) T f), some (b2, vecC v), e7_1, none, none, none] D1) (fun kk => n - kk) 0 ?_ ?_
  ·
    refine ⟨by omega, ((bG, csG) :: (List.range n).map (fun i => (βG i, CG i))), (fun _ => 0), ⟨RowsC.none, fun i hi => absurd hi (by omega), fun i hi => absurd hi (by omega), fun x hx => hx⟩, (.slice (some ⟨be, 0, none⟩) (0) (0)), (some (be, #[])), Sl.empty _ _ _, hF.sub _ (by repeat' constructor), ?_⟩
    exact hM
  ·
    clear hF hM
    rintro gi a w' ⟨hgi, D1, βo, ⟨hC, hbo, hsp, hsubG⟩, u7_1, e7_1, hsl, hF, hM⟩
    refine sq ?_
    refine sq ?_
    refine wp_region_lit ?_
    refine st hF (g_move hF rfl) rfl fun a hF => st hF (g_move hF rfl) rfl fun a hF => st hF (g_lss hF rfl rfl) rfl fun a hF => ?_
    refine wpList_nil ?_
    refine tN ?_
    refine c_cond hF rfl (fun h3 => ?_) (fun h3 => ?_)
    ·
      refine wp_skip ?_
      refine tN ?_
      refine sq ?_
      refine wp_block ?_
      refine wp_region_lit ?_
      refine st hF (g_move hF rfl) rfl fun a hF => st hF (g_move hF rfl) rfl fun a hF => ?_
      refine stR hF (d_make1 (len := n) 3 hM hF ty_si_45 rfl rfl rfl (by omega) (by decide)) rfl ?_
      rintro _ w' a ⟨bm, rfl, hM, -⟩ hF
      change Mem w w' [some (b1, algC (p : Int) (n : Int) T f), some (b2, vecC v), e7_1, some (bm, rowI n (fun _ => 0)), none, none] D1 at hM
      refine stR hF (d_buildC 4 hM hF (build1 hF rfl) (ty_bsv_53 _ _ _)) rfl ?_
      rintro _ w' a ⟨b5, rfl, hM, -⟩ hF
      change Mem w w' [some (b1, algC (p : Int) (n : Int) T f), some (b2, vecC v), e7_1, some (bm, rowI n (fun _ => 0)), some (b5, #[.slice (some ⟨bm, 0, none⟩) (n) (n)]), none] D1 at hM
      refine stR hF (d_append (k := 2) (m := 1) (g := fun _ => .slice (some ⟨bm, 0, none⟩) (n) (n)) ty_si_53 rfl (by decide) hM rfl hF rfl rfl hsl (fun i hi => by rw [show i = 0 by omega]; exact (hM.row 4 rfl).cell 0) (fun _ _ => rfl) (by decide) (by unfold maxLen; omega) (by omega)) rfl ?_
      rintro u6 w' a ⟨e7, hM, hs8⟩ hF
      change Mem w w' [some (b1, algC (p : Int) (n : Int) T f), some (b2, vecC v), e7, some (bm, rowI n (fun _ => 0)), some (b5, #[.slice (some ⟨bm, 0, none⟩) (n) (n)]), none] D1 at hM
      refine st hF (g_assign hF rfl) rfl fun a hF => ?_
      refine wpList_nil ?_
      refine iN ?_
      refine tN ?_
      refine wp_region_lit ?_
      refine st hF (g_move hF rfl) rfl fun a hF => st hF (g_add hF rfl rfl (add_nat (gi) (1) (by omega))) rfl fun a hF => st hF (g_assign hF rfl) rfl fun a hF => ?_
      refine wpList_nil ?_
      refine tN ?_
      have hgb := hM.ge 3 rfl
      have hnx : ∀ x ∈ D1, bm ≠ x.1 := fun x hx => (hM.froz x.1 x.2 hx).2 3 bm _ rfl
      have hM := hM.freeze 3 rfl
      have hC := ((hC.more (D' := (bm, rowI n (fun _ => 0)) :: D1) (fun x hx => List.mem_cons_of_mem _ hx)).snoc (List.mem_cons_self ..) (fun i hi => hnx _ (hC.mem i hi))).congr (R' := fun _ => rowI n (fun _ => 0)) (fun i hi => by by_cases e : i = gi <;> simp [upE, e])
      have hsl := hs8.snocC
      have hbo : ∀ i, i < gi + 1 → w.heap.size ≤ up βo gi bm i := fun i hi => by
        unfold up; split
        · exact hgb
        · exact hbo i (by omega)
      have hsp : ∀ i, i < gi + 1 → ∀ x ∈ ((bG, csG) :: (List.range n).map (fun i => (βG i, CG i))), x.1 ≠ up βo gi bm i := fun i hi x hx => by
        unfold up; split
        · exact fun e => hnx x (hsubG x hx) e.symm
        · exact hsp i (by omega) x hx
      have hM := hM.drop 4
      refine ⟨gi + 1, ⟨by omega, ((bm, rowI n (fun _ => 0)) :: D1), (up βo gi bm), ⟨hC, hbo, hsp, fun x hx => List.mem_cons_of_mem _ (hsubG x hx)⟩, (u6), (e7), hsl, hF.sub _ (by repeat' constructor), ?_⟩, by omega⟩
      exact hM
    ·
      obtain rfl : n = gi := by omega
      obtain ⟨bo, co, cso, rfl, rfl, hso⟩ := hsl.pos hn0
      change Mem w _ [some (b1, algC (p : Int) (n : Int) T f), some (b2, vecC v), some (bo, cso), none, none, none] D1 at hM
      refine wp_exit ?_
      refine tX ?_
      refine tX ?_
      refine ib_same ?_
      refine tN ?_
      refine sq ?_
      refine sq ?_
      refine wp_region_lit ?_
      refine st hF (g_assign hF rfl) rfl fun a hF => ?_
      refine wpList_nil ?_
      refine tN ?_
      refine wp_block ?_
      change Mem w _ [some (b1, algC (p : Int) (n : Int) T f), some (b2, vecC v), some (bo, cso), none, none, none] D1 at hM
      refine c_loop (fun (kk : Nat) a w' => kk ≤ n ∧ ∃ (D2 : Froz), (RowsC D2 n βo (fun i => rowI n (fun l => cpS p n T G v kk i l)) ∧ (∀ x ∈ ((bG, csG) :: (List.range n).map (fun i => (βG i, CG i))), x ∈ D2)) ∧ Fr 77 a [(6, .slice (some ⟨bG, 0, none⟩) (n) (cG)), (5, .int .i64 (((n : Nat) : Int))), (0, .agg (algC (p : Int) (n : Int) T f)), (1, .agg (vecC v)), (2, ptr b1 (0)), (3, ptr b2 (0)), (4, .slice none 0 0), (8, .int .i64 (((n : Nat) : Int))), (7, .slice (some ⟨bo, 0, none⟩) (n) (co)), (19, .int .i64 (((n : Nat) : Int))), (20, .int .i64 (((n : Nat) : Int))), (21, .bool (decide ((((n : Nat) : Int) : Int) < ((n : Nat) : Int)))), (9, .int .i64 (((kk : Nat) : Int)))] ∧ Mem w w' [some (b1, algC (p : Int) (n : Int) T f), some (b2, vecC v), some (bo, cso), none, none, none] D2) (fun kk => n - kk) 0 ?_ ?_
      ·
        refine ⟨by omega, D1, ⟨hC.congr (fun i hi => rowI_congr (fun c hc => by unfold cpS; simp [sumTo])), hsubG⟩, hF.sub _ (by repeat' constructor), ?_⟩
        exact hM
      ·
        clear hF hM
        rintro gk a w' ⟨hgk, D2, ⟨hC2, hsubG⟩, hF, hM⟩
        have hvs : ∀ c, timesS p n T v (fun c => if c = gk then 1 else 0) c ≤ 255 := fun c => timesS_le (by omega) (by omega) _ _ c
        refine sq ?_
        refine sq ?_
        refine wp_region_lit ?_
        refine st hF (g_move hF rfl) rfl fun a hF => st hF (g_move hF rfl) rfl fun a hF => st hF (g_lss hF rfl rfl) rfl fun a hF => ?_
        refine wpList_nil ?_
        refine tN ?_
        refine c_cond hF rfl (fun h9 => ?_) (fun h9 => ?_)
        ·
          refine wp_skip ?_
          refine tN ?_
          refine sq ?_
          refine wp_block ?_
          refine sq ?_
          refine c_par 6 [5] [.val (.agg (algC (p : Int) (n : Int) T f)), .val (.agg (vecC v)), .val (.int .i64 (((gk : Nat) : Int))), .val (.agg (vecC (fun c => if c = gk then 1 else 0))), .val (.agg (vecC (timesS p n T (v) ((fun c => if c = gk then 1 else 0))))), .own 5 (fnC 6 (fun _ => .int .u8 (0))) (fun b => ptr b 0)] hmix rfl hF rfl hM ⟨fun a w gG hF hS hd => by have hM := hS.mem rfl; exact par_val hS rfl (g_loadAgg ty_ag_32 hF rfl (hM.row 0 rfl) (by simp only [fnC_size, cells_size, vecC_size, tabC_size, planeC_size, mrk_size, rowI_size, cpC_size] <;> omega) (whole cells_size)), fun a w gG hF hS hd => by have hM := hS.mem rfl; exact par_val hS rfl (g_loadAgg ty_ag_30 hF rfl (hM.row 1 rfl) (by simp only [fnC_size, cells_size, vecC_size, tabC_size, planeC_size, mrk_size, rowI_size, cpC_size] <;> omega) (whole (by simp only [fnC_size, cells_size, vecC_size, tabC_size, planeC_size, mrk_size, rowI_size, cpC_size]))), fun a w gG hF hS hd => by exact par_val hS rfl (g_move hF rfl), fun a w gG hF hS hd => by have hF := hF.ext1 36 (hd 2 rfl rfl); exact par_call (by repeat constructor) hS rfl (d_call Try.call53 hF (.cons rfl .nil) (l01Basis_ok (gk) _ (by omega))), fun a w gG hF hS hd => by have hF := hF.ext1 34 (hd 0 rfl rfl); have hF := hF.ext1 35 (hd 1 rfl rfl); have hF := hF.ext1 37 (hd 3 rfl rfl); exact par_call (by repeat constructor) hS rfl (d_call Try.call61 hF (.cons rfl (.cons rfl (.cons rfl .nil))) (l01Times_ok p n T f (v) ((fun c => if c = gk then 1 else 0)) _ (by omega) (by omega) (by omega) (fun _ _ _ => hT _ _ _) (fun _ => by first | exact hv _ | exact hvt _ | exact hvs _ | exact hu _ | exact hT _ _ _ | exact hf _ | omega | (split <;> omega) | (dsimp only; split <;> omega) | assumption) (fun _ => by first | exact hv _ | exact hvt _ | exact hvs _ | exact hu _ | exact hT _ _ _ | exact hf _ | omega | (split <;> omega) | (dsimp only; split <;> omega) | assumption))), fun a w gG hF hS hd => by exact par_own (by repeat constructor) hS rfl rfl rfl rfl (d_alloc 5 hS.1 ty_ze_30), trivial⟩ ?_
          intro a w' L hF hS hq
          have hF := hF.ext1 34 (hq 0 rfl rfl)
          have hF := hF.ext1 35 (hq 1 rfl rfl)
          have hF := hF.ext1 36 (hq 2 rfl rfl)
          have hF := hF.ext1 37 (hq 3 rfl rfl)
          have hF := hF.ext1 38 (hq 4 rfl rfl)
          obtain ⟨hM, hL⟩ := hS
          obtain ⟨b10, hptr, hkk⟩ := hq 5 rfl rfl
          have hF := hF.ext1 10 hptr
          have hL := hL.take hkk
          obtain rfl := hL.eq
          change Mem w w' [some (b1, algC (p : Int) (n : Int) T f), some (b2, vecC v), some (bo, cso), none, none, some (b10, fnC 6 (fun _ => .int .u8 (0)))] D2 at hM
          change wpList Try.prog _ _ [_] _ _
          refine stN hF (d_storeAgg 5 hM rfl ty_sz_30 hF rfl rfl (by first | exact vecC_one | exact cells_one | (refine fnC_one fun _ _ => ?_; first | rfl | (split <;> rfl))) (by simp only [fnC_size, cells_size, vecC_size, tabC_size, planeC_size, mrk_size, rowI_size, cpC_size]) (by simp only [fnC_size, cells_size, vecC_size, tabC_size, planeC_size, mrk_size, rowI_size, cpC_size] <;> omega) (splice_whole _ _ (by simp only [fnC_size, cells_size, vecC_size, tabC_size, planeC_size, mrk_size, rowI_size, cpC_size]))) ?_
          intro _ w' a hM hF
          change Mem w w' [some (b1, algC (p : Int) (n : Int) T f), some (b2, vecC v), some (bo, cso), none, none, some (b10, vecC (timesS p n T (v) ((fun c => if c = gk then 1 else 0))))] D2 at hM
          refine wpList_nil ?_
          refine tN ?_
          refine sq ?_
          refine wp_region_lit ?_
          refine st hF (g_assign hF rfl) rfl fun a hF => ?_
          refine wpList_nil ?_
          refine tN ?_
          refine wp_block ?_
          change Mem w _ [some (b1, algC (p : Int) (n : Int) T f), some (b2, vecC v), some (bo, cso), none, none, some (b10, vecC (timesS p n T (v) ((fun c => if c = gk then 1 else 0))))] D2 at hM
          refine c_loop (fun (kk : Nat) a w' => kk ≤ n ∧ ∃ (D3 : Froz), (RowsC D3 n βo (fun i => rowI n (fun l => cpS p n T G v (if l < kk then gk + 1 else gk) i l)) ∧ (∀ x ∈ ((bG, csG) :: (List.range n).map (fun i => (βG i, CG i))), x ∈ D3)) ∧ Fr 77 a [(10, ptr b10 (0)), (38, .agg (vecC (timesS p n T (v) ((fun c => if c = gk then 1 else 0))))), (37, .agg (vecC (fun c => if c = gk then 1 else 0))), (36, .int .i64 (((gk : Nat) : Int))), (35, .agg (vecC v)), (34, .agg (algC (p : Int) (n : Int) T f)), (6, .slice (some ⟨bG, 0, none⟩) (n) (cG)), (5, .int .i64 (((n : Nat) : Int))), (0, .agg (algC (p : Int) (n : Int) T f)), (1, .agg (vecC v)), (2, ptr b1 (0)), (3, ptr b2 (0)), (4, .slice none 0 0), (8, .int .i64 (((n : Nat) : Int))), (7, .slice (some ⟨bo, 0, none⟩) (n) (co)), (19, .int .i64 (((n : Nat) : Int))), (20, .int .i64 (((n : Nat) : Int))), (21, .bool (decide ((((n : Nat) : Int) : Int) < ((n : Nat) : Int)))), (9, .int .i64 (((gk : Nat) : Int))), (29, .int .i64 (((gk : Nat) : Int))), (30, .int .i64 (((n : Nat) : Int))), (31, .bool (decide ((((gk : Nat) : Int) : Int) < ((n : Nat) : Int)))), (11, .int .i64 (((kk : Nat) : Int)))] ∧ Mem w w' [some (b1, algC (p : Int) (n : Int) T f), some (b2, vecC v), some (bo, cso), none, none, some (b10, vecC (timesS p n T (v) ((fun c => if c = gk then 1 else 0))))] D3) (fun kk => n - kk) 0 ?_ ?_
          ·
            refine ⟨by omega, D2, ⟨hC2.congr (fun i hi => rowI_congr (fun c hc => by rw [if_neg (by omega)])), hsubG⟩, hF.sub _ (by repeat' constructor), ?_⟩
            exact hM
          ·
            clear hF hM
            rintro gl a w' ⟨hgl, D3, ⟨hC3, hsubG⟩, hF, hM⟩
            refine sq ?_
            refine sq ?_
            refine wp_region_lit ?_
            refine st hF (g_move hF rfl) rfl fun a hF => st hF (g_move hF rfl) rfl fun a hF => st hF (g_lss hF rfl rfl) rfl fun a hF => ?_
            refine wpList_nil ?_
            refine tN ?_
            refine c_cond hF rfl (fun h11 => ?_) (fun h11 => ?_)
            ·
              refine wp_skip ?_
              refine tN ?_
              refine sq ?_
              refine wp_block ?_
              refine sq ?_
              refine wp_region_lit ?_
              refine st hF (g_assign hF rfl) rfl fun a hF => ?_
              refine wpList_nil ?_
              refine tN ?_
              refine wp_block ?_
              change Mem w _ [some (b1, algC (p : Int) (n : Int) T f), some (b2, vecC v), some (bo, cso), none, none, some (b10, vecC (timesS p n T (v) ((fun c => if c = gk then 1 else 0))))] D3 at hM
              refine c_loop (fun (kk : Nat) a w' => kk ≤ n ∧ ∃ (D4 : Froz), (RowsC D4 n βo (fun i => rowI n (fun l => cpS p n T G v (if l < gl ∨ (l = gl ∧ i < kk) then gk + 1 else gk) i l)) ∧ (∀ x ∈ ((bG, csG) :: (List.range n).map (fun i => (βG i, CG i))), x ∈ D4)) ∧ Fr 77 a [(10, ptr b10 (0)), (38, .agg (vecC (timesS p n T (v) ((fun c => if c = gk then 1 else 0))))), (37, .agg (vecC (fun c => if c = gk then 1 else 0))), (36, .int .i64 (((gk : Nat) : Int))), (35, .agg (vecC v)), (34, .agg (algC (p : Int) (n : Int) T f)), (6, .slice (some ⟨bG, 0, none⟩) (n) (cG)), (5, .int .i64 (((n : Nat) : Int))), (0, .agg (algC (p : Int) (n : Int) T f)), (1, .agg (vecC v)), (2, ptr b1 (0)), (3, ptr b2 (0)), (4, .slice none 0 0), (8, .int .i64 (((n : Nat) : Int))), (7, .slice (some ⟨bo, 0, none⟩) (n) (co)), (19, .int .i64 (((n : Nat) : Int))), (20, .int .i64 (((n : Nat) : Int))), (21, .bool (decide ((((n : Nat) : Int) : Int) < ((n : Nat) : Int)))), (9, .int .i64 (((gk : Nat) : Int))), (29, .int .i64 (((gk : Nat) : Int))), (30, .int .i64 (((n : Nat) : Int))), (31, .bool (decide ((((gk : Nat) : Int) : Int) < ((n : Nat) : Int)))), (11, .int .i64 (((gl : Nat) : Int))), (39, .int .i64 (((gl : Nat) : Int))), (40, .int .i64 (((n : Nat) : Int))), (41, .bool (decide ((((gl : Nat) : Int) : Int) < ((n : Nat) : Int)))), (12, .int .i64 (((kk : Nat) : Int)))] ∧ Mem w w' [some (b1, algC (p : Int) (n : Int) T f), some (b2, vecC v), some (bo, cso), none, none, some (b10, vecC (timesS p n T (v) ((fun c => if c = gk then 1 else 0))))] D4) (fun kk => n - kk) 0 ?_ ?_
              ·
                refine ⟨by omega, D3, ⟨hC3.congr (fun i hi => rowI_congr (fun c hc => by
                  by_cases e1 : c < gl
                  · rw [if_pos e1, if_pos (.inl e1)]
                  · rw [if_neg e1, if_neg (by omega)])), hsubG⟩, hF.sub _ (by repeat' constructor), ?_⟩
                exact hM
              ·
                clear hF hM
                rintro gi a w' ⟨hgi, D4, ⟨hC4, hsubG⟩, hF, hM⟩
                have hgl := hGp gk gl
                have hvi := hvs gi
                have hmm : G gk gl * timesS p n T v (fun c => if c = gk then 1 else 0) gi ≤ 255 * 255 := Nat.mul_le_mul (hG5 gk gl) (hvs gi)
                have hcl := cpS_lt (p := p) (n := n) (k := if gl < gl ∨ (gl = gl ∧ gi < gi) then gk + 1 else gk) (i := gi) (l := gl) (T := T) (G := G) (v := v) (by omega)
                refine sq ?_
                refine sq ?_
                refine wp_region_lit ?_
                refine st hF (g_move hF rfl) rfl fun a hF => st hF (g_move hF rfl) rfl fun a hF => st hF (g_lss hF rfl rfl) rfl fun a hF => ?_
                refine wpList_nil ?_
                refine tN ?_
                refine c_cond hF rfl (fun h12 => ?_) (fun h12 => ?_)
                ·
                  refine wp_skip ?_
                  refine tN ?_
                  refine sq ?_
                  refine wp_block ?_
                  refine sq ?_
                  refine wp_region_lit ?_
                  refine st hF (g_move hF rfl) rfl fun a hF => st hF (g_move hF rfl) rfl fun a hF => st hF (g_indexSl (i := gi) ty_sl_53 hF rfl rfl rfl (by omega)) rfl fun a hF => st hF (g_load ty_on_45 hF rfl (hM.row 2 rfl) (hso.get1 (gi) (by omega))) rfl fun a hF => st hF (g_assign hF rfl) rfl fun a hF => ?_
                  refine wpList_nil ?_
                  refine tN ?_
                  refine c_par 22 [] [.val (.slice (some ⟨βo (gi), 0, none⟩) (n) (n)), .val (.int .i64 (((gl : Nat) : Int))), .val (.slice (some ⟨βo (gi), 0, none⟩) (n) (n)), .val (.int .i64 (((gl : Nat) : Int))), .val (ptr (βo (gi)) (0 + (gl) * 1)), .val (.int .i64 (((cpS p n T G v (if (gl) < gl ∨ ((gl) = gl ∧ (gi) < gi) then gk + 1 else gk) (gi) (gl) : Nat) : Int))), .val (.slice (some ⟨bG, 0, none⟩) (n) (cG)), .val (.int .i64 (((gk : Nat) : Int))), .val (ptr bG (0 + (gk) * 1)), .val (.slice (some ⟨βG (gk), 0, none⟩) (n) (κG (gk))), .val (.int .i64 (((gl : Nat) : Int))), .val (ptr (βG (gk)) (0 + (gl) * 1)), .val (.int .i64 (((G (gk) (gl) : Nat) : Int))), .val (.int .i64 (((gi : Nat) : Int))), .val (ptr b10 (0 + (gi) * 1)), .val (.int .u8 ((((timesS p n T (v) ((fun c => if c = gk then 1 else 0))) (gi) : Nat) : Int))), .val (.int .i64 ((((timesS p n T (v) ((fun c => if c = gk then 1 else 0))) (gi) : Nat) : Int))), .val (.int .i64 ((((G (gk) (gl)) * ((timesS p n T (v) ((fun c => if c = gk then 1 else 0))) (gi)) : Nat) : Int))), .val (.int .i64 (((cpS p n T G v (if (gl) < gl ∨ ((gl) = gl ∧ (gi) < gi) then gk + 1 else gk) (gi) (gl) + (G (gk) (gl)) * ((timesS p n T (v) ((fun c => if c = gk then 1 else 0))) (gi)) : Nat) : Int))), .val (ptr b1 (0 + 0)), .val (.int .i64 (((p : Nat) : Int))), .val (.int .i64 ((((cpS p n T G v (if (gl) < gl ∨ ((gl) = gl ∧ (gi) < gi) then gk + 1 else gk) (gi) (gl) + (G (gk) (gl)) * ((timesS p n T (v) ((fun c => if c = gk then 1 else 0))) (gi))) % (p) : Nat) : Int)))] hmix rfl hF rfl hM ⟨fun a w gG hF hS hd => by exact par_val hS rfl (g_move hF rfl), fun a w gG hF hS hd => by exact par_val hS rfl (g_move hF rfl), fun a w gG hF hS hd => by exact par_val hS rfl (g_move hF rfl), fun a w gG hF hS hd => by exact par_val hS rfl (g_move hF rfl), fun a w gG hF hS hd => by have hF := hF.ext1 55 (hd 2 rfl rfl); have hF := hF.ext1 56 (hd 3 rfl rfl); exact par_val hS rfl (g_indexSl (i := gl) ty_sl_45 hF rfl rfl rfl (by omega)), fun a w gG hF hS hd => by have hF := hF.ext1 57 (hd 4 rfl rfl); have hM := hS.mem rfl; exact par_val hS rfl (g_load ty_on_2 hF rfl (hM.fzm (hC4.mem (gi) (by omega))) (rowI_get (i := gl) (by omega) (by omega))), fun a w gG hF hS hd => by exact par_val hS rfl (g_move hF rfl), fun a w gG hF hS hd => by exact par_val hS rfl (g_move hF rfl), fun a w gG hF hS hd => by have hF := hF.ext1 59 (hd 6 rfl rfl); have hF := hF.ext1 60 (hd 7 rfl rfl); exact par_val hS rfl (g_indexSl (i := gk) ty_sl_53 hF rfl rfl rfl (by omega)), fun a w gG hF hS hd => by have hF := hF.ext1 61 (hd 8 rfl rfl); have hM := hS.mem rfl; exact par_val hS rfl (g_load ty_on_45 hF rfl (hM.fzm (hsubG _ hmG)) (hsG.get1 (gk) (by omega))), fun a w gG hF hS hd => by exact par_val hS rfl (g_move hF rfl), fun a w gG hF hS hd => by have hF := hF.ext1 62 (hd 9 rfl rfl); have hF := hF.ext1 63 (hd 10 rfl rfl); exact par_val hS rfl (g_indexSl (i := gl) ty_sl_45 hF rfl rfl rfl (by omega)), fun a w gG hF hS hd => by have hF := hF.ext1 64 (hd 11 rfl rfl); have hM := hS.mem rfl; exact par_val hS rfl (g_load ty_on_2 hF rfl (hM.fzm (hsubG _ (hRG.mem (gk) (by omega)))) (hRG.get (i := gk) (by omega) (gl) (by omega))), fun a w gG hF hS hd => by exact par_val hS rfl (g_move hF rfl), fun a w gG hF hS hd => by have hF := hF.ext1 66 (hd 13 rfl rfl); exact par_val hS rfl (g_indexAddr ty_ar_30 hF rfl rfl rfl (by omega)), fun a w gG hF hS hd => by have hF := hF.ext1 67 (hd 14 rfl rfl); have hM := hS.mem rfl; exact par_val hS rfl (g_load ty_on_5 hF rfl (hM.row 5 rfl) (vecC_get (gi) (by omega) (by omega))), fun a w gG hF hS hd => by have hF := hF.ext1 68 (hd 15 rfl rfl); exact par_val hS rfl (g_conv ty_un_2 ty_ud_5 hF rfl (wrap_i64 (by omega) (by omega))), fun a w gG hF hS hd => by have hF := hF.ext1 65 (hd 12 rfl rfl); have hF := hF.ext1 69 (hd 16 rfl rfl); exact par_val hS rfl (g_mul hF rfl rfl (mul_nat (G (gk) (gl)) ((timesS p n T (v) ((fun c => if c = gk then 1 else 0))) (gi)) (by omega))), fun a w gG hF hS hd => by have hF := hF.ext1 58 (hd 5 rfl rfl); have hF := hF.ext1 70 (hd 17 rfl rfl); exact par_val hS rfl (g_add hF rfl rfl (add_nat (cpS p n T G v (if (gl) < gl ∨ ((gl) = gl ∧ (gi) < gi) then gk + 1 else gk) (gi) (gl)) ((G (gk) (gl)) * ((timesS p n T (v) ((fun c => if c = gk then 1 else 0))) (gi))) (by omega))), fun a w gG hF hS hd => by exact par_val hS rfl (g_fieldAddr ty_fo_32_0 hF rfl), fun a w gG hF hS hd => by have hF := hF.ext1 72 (hd 19 rfl rfl); have hM := hS.mem rfl; exact par_val hS rfl (g_load ty_on_2 hF rfl (hM.row 0 rfl) (algC_p (by omega))), fun a w gG hF hS hd => by have hF := hF.ext1 71 (hd 18 rfl rfl); have hF := hF.ext1 73 (hd 20 rfl rfl); exact par_val hS rfl (g_rem hF rfl rfl (by omega) (rem_nat (cpS p n T G v (if (gl) < gl ∨ ((gl) = gl ∧ (gi) < gi) then gk + 1 else gk) (gi) (gl) + (G (gk) (gl)) * ((timesS p n T (v) ((fun c => if c = gk then 1 else 0))) (gi))) (p))), trivial⟩ ?_
                  intro a w' L hF hS hq
                  have hF := hF.ext1 53 (hq 0 rfl rfl)
                  have hF := hF.ext1 54 (hq 1 rfl rfl)
                  have hF := hF.ext1 55 (hq 2 rfl rfl)
                  have hF := hF.ext1 56 (hq 3 rfl rfl)
                  have hF := hF.ext1 57 (hq 4 rfl rfl)
                  have hF := hF.ext1 58 (hq 5 rfl rfl)
                  have hF := hF.ext1 59 (hq 6 rfl rfl)
                  have hF := hF.ext1 60 (hq 7 rfl rfl)
                  have hF := hF.ext1 61 (hq 8 rfl rfl)
                  have hF := hF.ext1 62 (hq 9 rfl rfl)
                  have hF := hF.ext1 63 (hq 10 rfl rfl)
                  have hF := hF.ext1 64 (hq 11 rfl rfl)
                  have hF := hF.ext1 65 (hq 12 rfl rfl)
                  have hF := hF.ext1 66 (hq 13 rfl rfl)
                  have hF := hF.ext1 67 (hq 14 rfl rfl)
                  have hF := hF.ext1 68 (hq 15 rfl rfl)
                  have hF := hF.ext1 69 (hq 16 rfl rfl)
                  have hF := hF.ext1 70 (hq 17 rfl rfl)
                  have hF := hF.ext1 71 (hq 18 rfl rfl)
                  have hF := hF.ext1 72 (hq 19 rfl rfl)
                  have hF := hF.ext1 73 (hq 20 rfl rfl)
                  have hF := hF.ext1 74 (hq 21 rfl rfl)
                  have hM := hS.mem rfl
                  change wpList Try.prog _ _ [_, _] _ _
                  refine st hF (g_indexSl (i := gl) ty_sl_45 hF rfl rfl rfl (by omega)) rfl fun a hF => ?_
                  refine stN hF (d_storeD hM (hC4.mem gi (by omega)) (.inl (hbo gi (by omega))) ty_on_2 hF rfl rfl rfl (by show _ < (rowI n _).size; rw [rowI_size]; omega)) ?_
                  intro _ w' a hM hF
                  change Mem w w' [some (b1, algC (p : Int) (n : Int) T f), some (b2, vecC v), some (bo, cso), none, none, some (b10, vecC (timesS p n T (v) ((fun c => if c = gk then 1 else 0))))] (updD D4 (βo gi) ((rowI n (fun l => cpS p n T G v (if l < gl ∨ (l = gl ∧ gi < gi) then gk + 1 else gk) gi l)).setIfInBounds (0 + (gl) * 1) (.int .i64 ((((cpS p n T G v (if (gl) < gl ∨ ((gl) = gl ∧ (gi) < gi) then gk + 1 else gk) (gi) (gl) + (G (gk) (gl)) * ((timesS p n T (v) ((fun c => if c = gk then 1 else 0))) (gi))) % (p) : Nat) : Int))))) at hM
                  refine wpList_nil ?_
                  refine iN ?_
                  refine tN ?_
                  refine wp_region_lit ?_
                  refine st hF (g_move hF rfl) rfl fun a hF => st hF (g_add hF rfl rfl (add_nat (gi) (1) (by omega))) rfl fun a hF => st hF (g_assign hF rfl) rfl fun a hF => ?_
                  refine wpList_nil ?_
                  refine tN ?_
                  refine ⟨gi + 1, ⟨by omega, (updD D4 (βo gi) ((rowI n (fun l => cpS p n T G v (if l < gl ∨ (l = gl ∧ gi < gi) then gk + 1 else gk) gi l)).setIfInBounds (0 + (gl) * 1) (.int .i64 ((((cpS p n T G v (if (gl) < gl ∨ ((gl) = gl ∧ (gi) < gi) then gk + 1 else gk) (gi) (gl) + (G (gk) (gl)) * ((timesS p n T (v) ((fun c => if c = gk then 1 else 0))) (gi))) % (p) : Nat) : Int))))), ⟨(hC4.setRow (i := gi) (by omega) _).congr (fun i hi => by
                    unfold upE
                    by_cases e : i = gi
                    · rw [if_pos e, e]; exact rowI_set (i := gl) (by omega) (by omega) (fun c hc => by
                        by_cases e1 : c = gl
                        · rw [if_pos e1, if_pos (by omega), e1, if_neg (by omega)]; exact cpS_step.symm
                        · rw [if_neg e1]; by_cases e2 : c < gl
                          · rw [if_pos (by omega), if_pos (by omega)]
                          · rw [if_neg (by omega), if_neg (by omega)])
                    · rw [if_neg e]; exact rowI_congr (fun c hc => by
                        by_cases e1 : c < gl ∨ (c = gl ∧ i < gi)
                        · rw [if_pos e1, if_pos (by omega)]
                        · rw [if_neg e1, if_neg (by omega)])), fun x hx => mem_updD.2 (.inr ⟨hsp gi (by omega) x hx, hsubG x hx⟩)⟩, hF.sub _ (by repeat' constructor), ?_⟩, by omega⟩
                  exact hM
                ·
                  obtain rfl : n = gi := by omega
                  refine wp_exit ?_
                  refine tX ?_
                  refine tX ?_
                  refine ib_same ?_
                  refine iN ?_
                  refine tN ?_
                  refine wp_region_lit ?_
                  refine st hF (g_move hF rfl) rfl fun a hF => st hF (g_add hF rfl rfl (add_nat (gl) (1) (by omega))) rfl fun a hF => st hF (g_assign hF rfl) rfl fun a hF => ?_
                  refine wpList_nil ?_
                  refine tN ?_
                  refine ⟨gl + 1, ⟨by omega, D4, ⟨hC4.congr (fun i hi => rowI_congr (fun c hc => by
                  by_cases e1 : c < gl + 1
                  · rw [if_pos e1, if_pos (by omega)]
                  · rw [if_neg e1, if_neg (by omega)])), hsubG⟩, hF.sub _ (by repeat' constructor), ?_⟩, by omega⟩
                  exact hM
            ·
              obtain rfl : n = gl := by omega
              refine wp_exit ?_
              refine tX ?_
              refine tX ?_
              refine ib_same ?_
              refine iN ?_
              refine tN ?_
              refine wp_region_lit ?_
              refine st hF (g_move hF rfl) rfl fun a hF => st hF (g_add hF rfl rfl (add_nat (gk) (1) (by omega))) rfl fun a hF => st hF (g_assign hF rfl) rfl fun a hF => ?_
              refine wpList_nil ?_
              refine tN ?_
              have hM := hM.drop 5
              refine ⟨gk + 1, ⟨by omega, D3, ⟨hC3.congr (fun i hi => rowI_congr (fun c hc => by rw [if_pos hc])), hsubG⟩, hF.sub _ (by repeat' constructor), ?_⟩, by omega⟩
              exact hM
        ·
          obtain rfl : n = gk := by omega
          refine wp_exit ?_
          refine tX ?_
          refine tX ?_
          refine ib_same ?_
          refine tN ?_
          refine sq ?_
          refine wp_region_lit ?_
          refine st hF (g_move hF rfl) rfl fun a hF => st hF (g_assign hF rfl) rfl fun a hF => ?_
          refine wpList_nil ?_
          refine tN ?_
          refine wp_ret ?_
          refine fin1 rfl hF.defers (res_tmp hF rfl) ⟨_, rfl, hM.below, ?_⟩
          exact TabOut.of (q := 2) hM (hC2.rowsD (M := fun i l => cpS p n T G v n i l) (by omega)) rfl hso hbo hC2.inj

end Go.Proofs.Ytfbhngnfhpjonaa
