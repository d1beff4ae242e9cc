/- What functions of the program return, as walks over their operations; no statement of the seat is proved here. -/
import Derived.Test.YtockjnhdllcfpaaB7
import Derived.Test.YtockjnhdllcfpaaSw10
set_option linter.unusedVariables false
set_option linter.unusedSimpArgs false
namespace Go.Proofs.Ytockjnhdllcfpaa
open Go Go.RowKit Go.Sw Go.Ech
open Classical
theorem ty_bmo_68 : ∀ (x y : Int) w, (Instr.build 68 #[(0, .int .i64 x), (1, .int .i64 y)]).run Try.prog w = .ok (.agg (monC x y)) w := by intros; kernel_rfl
theorem ty_bsm_65 : ∀ (x y : Int) (w : World), (Instr.buildSlice 65 1 #[(0, .agg (monC x y))]).run Try.prog w = .ok (.slice (some ⟨w.heap.size, 0, none⟩) 1 1) (w.alloc (.cells (monC x y) 68)) := by intros; kernel_rfl
theorem ty_si_65 : slI Try.prog 65 = some (68, some (.agg (monC (0) (0))), 2, 16) := by kernel_rfl
theorem ty_ze_68 : zeroP Try.prog 68 = some (.agg (monC (0) (0))) := by kernel_rfl
theorem ty_fo_68_0 : fieldOff Try.prog 68 0 = some 0 := by kernel_rfl
theorem ty_fo_68_1 : fieldOff Try.prog 68 1 = some 1 := by kernel_rfl
theorem ty_sz_68 : sizeP Try.prog 68 = some 2 := by kernel_rfl
theorem ty_ag_68 : aggP Try.prog 68 = some 2 := by kernel_rfl
theorem ty_us_65 : Try.prog.underlying 65 = some (.slice 68) := by kernel_rfl
theorem ty_sl_65 : sliceOf Try.prog 65 = some 2 := by kernel_rfl
theorem ty_mu_68 : Try.prog.underlying 68 = some (.struct (Try.prog.fieldsOf 68)) := by kernel_rfl
theorem ty_mh_68 : Try.prog.stoodInHeld 68 = false := by kernel_rfl
theorem ty_mf_68 : fs2Ok (Try.prog.fieldsOf 68).toList 2 = true := by kernel_rfl
theorem ty_ip_2 : intP Try.prog 2 = true := by kernel_rfl
theorem ty_eg_68 : Try.prog.eqGuardType Try.prog.depth 68 = false := by kernel_rfl
def monF (h : Nat → Nat) (m c : Nat) : Value := if c % 2 = 0 then .int .i64 (mX h m (c / 2) : Int) else .int .i64 (mY h m (c / 2) : Int)
theorem mon_cell {h : Nat → Nat} {m a b : Nat} (ha : a < m) (hb : b < h a) : ∀ q, q < 2 → (fun q => if q = 0 then Value.int .i64 (a : Int) else .int .i64 (b : Int)) q = monF h m ((totH h a + b) * 2 + q) := fun q hq => by
  unfold monF
  obtain rfl | rfl : q = 0 ∨ q = 1 := by omega
  · rw [if_pos (by omega), show ((totH h a + b) * 2 + 0) / 2 = totH h a + b by omega, mX_at ha hb]; rfl
  · rw [if_neg (by omega), show ((totH h a + b) * 2 + 1) / 2 = totH h a + b by omega, mY_at ha hb]; rfl
theorem mon_lit {a b : Int} : ∀ i, i < 1 * 2 → (monC a b)[0 + i]? = some (if i = 0 then Value.int .i64 a else .int .i64 b) := fun i hi => by
  obtain rfl | rfl : i = 0 ∨ i = 1 := by omega
  · rfl
  · rfl

theorem l09Place_ok (b m x y : Nat) (h : Nat → Nat) (w : World) (hst : StN m h) (hx : x < 100) (hy : y < 100) (hb : Blk w b (numC m h)) :
    CallsR Try.prog 50 #[.slice (some ⟨b, 0, none⟩) m m, .int .i64 (x : Int), .int .i64 (y : Int)] w (fun res _ => res = .int .i64 (plI h m x y)) := by
  refine calls_fr [.slice (some ⟨b, 0, none⟩) m m, .int .i64 (x : Int), .int .i64 (y : Int)] Try.func50 rfl Try.ntmps50 rfl fun a hF => ?_;have hM : Mem w w [] [(b, numC m h)] := MemX.startD w 0 _ (startD1 hb);change Fr 34 a [(0, .slice (some ⟨b, 0, none⟩) m m), (1, .int .i64 (x : Int)), (2, .int .i64 (y : Int))] at hF;have hm6 := hst.len;have htot := hst.2.2.2;have hh6 : ∀ i, i < m → h i ≤ 6 := fun i hi => by have := tot_lt (h := h) (a := i) (b := h i - 1) hi (by have := hst.2.1 i hi; omega); omega
  refine sr <| ag hF rfl rfl fun a hF => nt <| sq <| sr <| mv hF rfl rfl fun a hF => mv hF rfl rfl fun a hF => st hF (g_len ty_us_22 hF rfl) rfl fun a hF => st hF (g_geq hF rfl rfl) rfl fun a hF => mv hF rfl rfl fun a hF => ?_
  by_cases g1 : (m : Int) ≤ ((x : Int) : Int)
  · first | rw [decide_eq_true g1] at hF | simp only [decide_eq_true g1] at hF
    refine stS hF rfl rfl rfl rfl rfl fun a hF => stS hF rfl rfl rfl rfl rfl fun a hF => stS hF rfl rfl rfl rfl rfl fun a hF => stS hF rfl rfl rfl rfl rfl fun a hF => stS hF rfl rfl rfl rfl rfl fun a hF => stS hF rfl rfl rfl rfl rfl fun a hF => st hF (g_pickT hF rfl rfl) rfl fun a hF => nt <| c_T hF rfl <| sr <| ag hF rfl rfl fun a hF => nt <| wp_ret <| tR <| fin1 rfl hF.defers (res_tmp hF rfl) ⟨_, rfl, hM.below, ?_⟩
    show _ = _
    exact congrArg (Value.int .i64) (plI_out (by omega)).symm
  first | rw [decide_eq_false g1] at hF | simp only [decide_eq_false g1] at hF
  refine stY hF rfl rfl rfl (g_move hF rfl) rfl fun a hF => stY hF rfl rfl rfl (g_move hF rfl) rfl fun a hF => stY hF rfl rfl rfl (g_move hF rfl) rfl fun a hF => stY hF rfl rfl rfl (g_indexSl (i := x) ty_sl_22 hF rfl rfl rfl (by omega)) rfl fun a hF => stY hF rfl rfl rfl (g_load ty_on_2 hF rfl (hM.fzm (b := b) (cs := numC m h) (by simp)) (numC_get (k := x) (by omega) (by omega))) rfl fun a hF => stY hF rfl rfl rfl (g_geq hF rfl rfl) rfl fun a hF => st hF (g_pickF hF rfl rfl) rfl fun a hF => nt <| c_cond hF rfl (fun h3 => ?_) (fun h3 => ?_)
  · refine sq ?_
    refine wp_region_lit <| ag hF rfl rfl fun a hF => nt <| wp_ret <| tR <| fin1 rfl hF.defers (res_tmp hF rfl) ⟨_, rfl, hM.below, ?_⟩
    show _ = _
    exact congrArg (Value.int .i64) (plI_out (by omega)).symm
  refine wp_skip <| tN <| sr <| mv hF rfl rfl fun a hF => ag hF rfl rfl fun a hF => nt <| sq <| sr <| ag hF rfl rfl fun a hF => nt <| wp_block ?_;change Mem w _ [] [(b, numC m h)] at hM;refine c_loop (fun (kk : Nat) a w' => kk ≤ x ∧ (True) ∧ Fr 34 a [(0, .slice (some ⟨b, 0, none⟩) m m), (1, .int .i64 (x : Int)), (6, .int .i64 (0)), (20, .bool (decide ((h (x) : Int) ≤ ((y : Int) : Int)))), (8, .int .i64 (kk : Int)), (7, .int .i64 (((y + totH h kk : Nat) : Int)))] ∧ Mem w w' [] [(b, numC m h)]) (fun kk => x - kk) 0 ?_ ?_
  · refine ⟨by omega, trivial, hF.sub _ (by repeat' constructor), ?_⟩
    exact hM
  clear hF hM;rintro gk a w' ⟨hgk, hinv1, hF, hM⟩;have htk := tot_mono (h := h) (k := gk) (j := m);have hhk := hh6 gk;refine sq <| sr <| mv hF rfl rfl fun a hF => mv hF rfl rfl fun a hF => st hF (g_lss hF rfl rfl) rfl fun a hF => nt <| c_cond hF rfl (fun h4 => ?_) (fun h4 => ?_)
  · refine wp_skip ?_
    refine tN <| sq <| wp_block <| wp_region_lit <| mv hF rfl rfl fun a hF => mv hF rfl rfl fun a hF => mv hF rfl rfl fun a hF => st hF (g_indexSl (i := gk) ty_sl_22 hF rfl rfl rfl (by omega)) rfl fun a hF => st hF (g_load ty_on_2 hF rfl (hM.fzm (b := b) (cs := numC m h) (by simp)) (numC_get (k := gk) (by omega) (by omega))) rfl fun a hF => st hF (g_add hF rfl rfl (add_nat (y + totH h gk) (h (gk)) (by omega))) rfl fun a hF => ag hF rfl rfl fun a hF => wpList_nil <| iN <| tN <| wp_region_lit <| mv hF rfl rfl fun a hF => st hF (g_add hF rfl rfl (add_nat (gk) (1) (by omega))) rfl fun a hF => ag hF rfl rfl fun a hF => wpList_nil <| tN ?_;rw [show y + totH h gk + h gk = y + totH h (gk + 1) from by simp only [totH]; omega] at hF;refine ⟨gk + 1, ⟨by omega, trivial, hF.sub _ (by repeat' constructor), ?_⟩, by omega⟩;exact hM
  obtain rfl : x = gk := by omega
  refine wp_exit <| tX <| tX <| ib_same <| tN <| sr <| mv hF rfl rfl fun a hF => ag hF rfl rfl fun a hF => nt <| wp_ret <| fin1 rfl hF.defers (res_tmp hF rfl) ⟨_, rfl, hM.below, ?_⟩
  show _ = _
  exact congrArg (Value.int .i64) (by rw [plI_in (by omega) (by omega)]; omega)
theorem staircaseOf_ok (b m : Nat) (h : Nat → Nat) (w : World) (hst : StN m h) (hb : Blk w b (numC m h)) :
    CallsR Try.prog 53 #[.slice (some ⟨b, 0, none⟩) m m] w (fun u w' => OwnSl 2 w (totH h m) (monF h m) u w') := by
  refine calls_fr [.slice (some ⟨b, 0, none⟩) m m] Try.func53 rfl Try.ntmps53 rfl fun a hF => ?_;have hM : Mem w w [none, none] [(b, numC m h)] := MemX.startD w 2 _ (startD1 hb);change Fr 27 a [(0, .slice (some ⟨b, 0, none⟩) m m)] at hF;have hm6 := hst.len;have htot := hst.2.2.2;have hh6 : ∀ i, i < m → h i ≤ 6 := fun i hi => by have := tot_lt (h := h) (a := i) (b := h i - 1) hi (by have := hst.2.1 i hi; omega); omega
  have htp : 0 < totH h m := by have := tot_lt (h := h) (a := 0) (b := 0) hst.1 (by have := hst.2.1 0 hst.1; omega); omega
  refine sr <| ag hF rfl rfl fun a hF => ns <| ag hF rfl rfl fun a hF => nt <| sq <| sr <| mv hF rfl rfl fun a hF => st hF (g_len ty_us_22 hF rfl) rfl fun a hF => mv hF rfl rfl fun a hF => nt <| wp_block ?_;change Mem w _ [none, none] [(b, numC m h)] at hM;refine c_loop (fun (kk : Nat) a w' => kk ≤ m ∧ (True) ∧ ∃ (u3_1 : Value) (e3_1 : Option (Nat × Array Value)), Sl 2 u3_1 e3_1 (totH h kk) (monF h m) ∧ Fr 27 a [(2, .slice none 0 0), (7, .slice (some ⟨b, 0, none⟩) m m), (8, .int .i64 (m : Int)), (9, .int .i64 (kk : Int)), (3, u3_1)] ∧ Mem w w' [none, e3_1] [(b, numC m h)]) (fun kk => m - kk) 0 ?_ ?_
  · refine ⟨by omega, trivial, (.slice none 0 0), (none), (Sl.nil 2 _), hF.sub _ (by repeat' constructor), ?_⟩
    exact hM
  clear hF hM;rintro gi a w' ⟨hgi, hinv1, u3_1, e3_1, hsl, hF, hM⟩;have htg : gi < m → totH h (gi + 1) ≤ totH h m := fun q => tot_mono (by omega);have htg2 : totH h (gi + 1) = totH h gi + h gi := rfl;refine sr <| st hF (g_lss hF rfl rfl) rfl fun a hF => nt <| sq <| c_cond hF rfl (fun h1 => ?_) (fun h1 => ?_)
  · refine wp_skip ?_
    refine tN <| sq <| wp_block <| sr <| mv hF rfl rfl fun a hF => st hF (g_indexSl (i := gi) ty_sl_22 hF rfl rfl rfl (by omega)) rfl fun a hF => st hF (g_load ty_on_2 hF rfl (hM.fzm (b := b) (cs := numC m h) (by simp)) (numC_get (k := gi) (by omega) (by omega))) rfl fun a hF => ag hF rfl rfl fun a hF => ag hF rfl rfl fun a hF => ns <| mv hF rfl rfl fun a hF => mv hF rfl rfl fun a hF => nt <| wp_block ?_;change Mem w _ [none, e3_1] [(b, numC m h)] at hM;refine c_loop (fun (kk : Nat) a w' => kk ≤ h gi ∧ (True) ∧ ∃ (u3_2 : Value) (e3_2 : Option (Nat × Array Value)), Sl 2 u3_2 e3_2 (totH h gi + kk) (monF h m) ∧ Fr 27 a [(2, .slice none 0 0), (7, .slice (some ⟨b, 0, none⟩) m m), (8, .int .i64 (m : Int)), (9, .int .i64 (gi : Int)), (10, .bool (decide (((gi : Int) : Int) < (m : Int)))), (11, .int .i64 (gi : Int)), (12, ptr b (0 + (gi) * 1)), (13, .int .i64 ((h (gi) : Int))), (4, .int .i64 (gi : Int)), (5, .int .i64 ((h (gi) : Int))), (14, .int .i64 ((h (gi) : Int))), (15, .int .i64 (kk : Int)), (3, u3_2)] ∧ Mem w w' [none, e3_2] [(b, numC m h)]) (fun kk => h gi - kk) 0 ?_ ?_
    · refine ⟨by omega, trivial, (u3_1), (e3_1), hsl, hF.sub _ (by repeat' constructor), ?_⟩
      exact hM
    clear hF hM;rintro gj a w' ⟨hgj, hinv2, u3_2, e3_2, hsl2, hF, hM⟩;refine sr <| st hF (g_lss hF rfl rfl) rfl fun a hF => nt <| sq <| c_cond hF rfl (fun h2 => ?_) (fun h2 => ?_)
    · refine wp_skip ?_
      refine tN <| sq <| wp_block <| sr <| mv hF rfl rfl fun a hF => ag hF rfl rfl fun a hF => nt <| wp_region_lit <| mv hF rfl rfl fun a hF => mv hF rfl rfl fun a hF => mv hF rfl rfl fun a hF => st hF (g_buildP hF (build2 hF rfl rfl) (fun w => ty_bmo_68 _ _ w)) rfl fun a hF => stR hF (d_buildC 0 hM hF (build1 hF rfl) (ty_bsm_65 _ _)) rfl ?_;rintro _ w' a ⟨bl, rfl, hM, -⟩ hF;change Mem w w' [some (bl, monC (gi : Int) (gj : Int)), e3_2] [(b, numC m h)] at hM;refine stR hF (d_append (k := 1) (N := totH h gi + gj) (m := 1) (f := monF h m) (g := fun q => if q = 0 then Value.int .i64 (gi : Int) else .int .i64 (gj : Int)) ty_si_65 rfl (by decide) hM rfl hF rfl rfl hsl2 (fun i hi => ((hM.row 0 rfl).cell _).trans (mon_lit i hi)) (fun i _ => by split <;> rfl) (by decide) (by unfold maxLen; omega) (by omega)) rfl ?_;rintro um w' a ⟨em, hM, hsm⟩ hF;change Mem w w' [some (bl, monC (gi : Int) (gj : Int)), em] [(b, numC m h)] at hM;refine ag hF rfl rfl fun a hF => wpList_nil <| iN <| tN <| wp_region_lit <| st hF (g_add hF rfl rfl (add_nat (gj) (1) (by omega))) rfl fun a hF => mv hF rfl rfl fun a hF => wpList_nil <| tN ?_;have hM := hM.drop 0;refine ⟨gj + 1, ⟨by omega, trivial, (um), (em), (Sl.snoc2 hsm (mon_cell (by omega) (by omega))), hF.sub _ (by repeat' constructor), ?_⟩, by omega⟩;exact hM
    obtain rfl : h gi = gj := by omega
    refine wp_exit <| tX <| tX <| ib_same <| iN <| tN <| wp_region_lit <| st hF (g_add hF rfl rfl (add_nat (gi) (1) (by omega))) rfl fun a hF => mv hF rfl rfl fun a hF => nt <| ⟨gi + 1, ⟨by omega, trivial, (u3_2), (e3_2), hsl2, hF.sub _ (by repeat' constructor), ?_⟩, by omega⟩;exact hM
  obtain rfl : m = gi := by omega
  refine wp_exit <| tX <| tX <| ib_same <| tN <| sr <| mv hF rfl rfl fun a hF => ag hF rfl rfl fun a hF => nt <| wp_ret <| fin1 rfl hF.defers (res_tmp hF rfl) ⟨_, rfl, hM.below, ?_⟩;exact OwnSl.pos hM (k := 1) rfl hsl htp
theorem monTimes_ok (xa ya xb yb : Nat) (w : World) (h1 : xa < 1000) (h2 : ya < 1000) (h3 : xb < 1000) (h4 : yb < 1000) :
    CallsR Try.prog 55 #[.agg (monC (xa : Int) (ya : Int)), .agg (monC (xb : Int) (yb : Int))] w (fun res _ => res = .agg (monC ((xa + xb : Nat) : Int) ((ya + yb : Nat) : Int))) := by
  refine calls_fr [.agg (monC (xa : Int) (ya : Int)), .agg (monC (xb : Int) (yb : Int))] Try.func55 rfl Try.ntmps55 rfl fun a hF => ?_;have hM : Mem w w [none, none, none] [] := MemX.start w 3;change Fr 16 a [(0, .agg (monC (xa : Int) (ya : Int))), (1, .agg (monC (xb : Int) (yb : Int)))] at hF;refine sr <| stR hF (d_box 0 hM hF rfl) rfl ?_;rintro _ w' a ⟨b1, rfl, hM, -⟩ hF;refine stR hF (d_box 1 hM hF rfl) rfl ?_;rintro _ w' a ⟨b2, rfl, hM, -⟩ hF;refine stR hF (d_alloc 2 hM ty_ze_68) rfl ?_;rintro _ w' a ⟨b3, rfl, hM, -⟩ hF;change Mem w w' [some (b1, monC (xa : Int) (ya : Int)), some (b2, monC (xb : Int) (yb : Int)), some (b3, monC (0) (0))] [] at hM;refine ns <| st hF (g_fieldAddr ty_fo_68_0 hF rfl) rfl fun a hF => st hF (g_load ty_on_2 hF rfl (hM.row 0 rfl) rfl) rfl fun a hF => st hF (g_fieldAddr ty_fo_68_0 hF rfl) rfl fun a hF => st hF (g_load ty_on_2 hF rfl (hM.row 1 rfl) rfl) rfl fun a hF => st hF (g_add hF rfl rfl (add_nat (xa) (xb) (by omega))) rfl fun a hF => st hF (g_fieldAddr ty_fo_68_1 hF rfl) rfl fun a hF => st hF (g_load ty_on_2 hF rfl (hM.row 0 rfl) rfl) rfl fun a hF => st hF (g_fieldAddr ty_fo_68_1 hF rfl) rfl fun a hF => st hF (g_load ty_on_2 hF rfl (hM.row 1 rfl) rfl) rfl fun a hF => st hF (g_add hF rfl rfl (add_nat (ya) (yb) (by omega))) rfl fun a hF => st hF (g_buildP hF (build2 hF rfl rfl) (fun w => ty_bmo_68 _ _ w)) rfl fun a hF => stN hF (d_storeAgg 2 hM rfl ty_sz_68 hF rfl rfl (monC_one) (by simp only [sz0, grpC_size, numI_size, smC_size, numC_size, mri_size, rowJ_size, monC_size]) (by simp only [sz0, grpC_size, numI_size, smC_size, numC_size, mri_size, rowJ_size, monC_size] <;> omega) (splice_whole _ _ rfl)) ?_;intro _ w' a hM hF;change Mem w w' [some (b1, monC (xa : Int) (ya : Int)), some (b2, monC (xb : Int) (yb : Int)), some (b3, monC (((xa + xb : Nat) : Int)) (((ya + yb : Nat) : Int)))] [] at hM;refine nt <| wp_ret <| fin1 rfl hF.defers (res_agg ty_ag_68 hF rfl (hM.row 2 rfl) (by simp only [sz0, grpC_size, numI_size, smC_size, numC_size, mri_size, rowJ_size, monC_size])) ⟨_, rfl, hM.below, ?_⟩
  show _ = _
  rfl
theorem monIndex_ok (bm cm m : Nat) (csm : Array Value) (h : Nat → Nat) (x y : Nat) (w : World) (hst : StN m h) (hx : x < 1000) (hy : y < 1000) (hms : SlAt 2 (.slice (some ⟨bm, 0, none⟩) (totH h m) cm) (some (bm, csm)) (totH h m) bm cm csm (monF h m)) (hbm : Blk w bm csm) :
    CallsR Try.prog 65 #[.slice (some ⟨bm, 0, none⟩) ((totH h m)) (cm), .agg (monC (x : Int) (y : Int))] w (fun res _ => res = .int .i64 (plI h m x y)) := by
  refine calls_fr [.slice (some ⟨bm, 0, none⟩) ((totH h m)) (cm), .agg (monC (x : Int) (y : Int))] Try.func65 rfl Try.ntmps65 rfl fun a hF => ?_;have hM : Mem w w [none] [(bm, csm)] := MemX.startD w 1 _ (startD1 hbm);change Fr 19 a [(0, .slice (some ⟨bm, 0, none⟩) ((totH h m)) (cm)), (1, .agg (monC (x : Int) (y : Int)))] at hF;have hm6 := hst.len;have htot := hst.2.2.2;have hh6 : ∀ i, i < m → h i ≤ 6 := fun i hi => by have := tot_lt (h := h) (a := i) (b := h i - 1) hi (by have := hst.2.1 i hi; omega); omega
  have hmm : (bm, csm) ∈ [(bm, csm)] := List.mem_cons_self ..;refine sr <| stR hF (d_box 0 hM hF rfl) rfl ?_;rintro _ w' a ⟨b1, rfl, hM, -⟩ hF;refine ag hF rfl rfl fun a hF => nt <| sq <| sr <| mv hF rfl rfl fun a hF => st hF (g_len ty_us_65 hF rfl) rfl fun a hF => mv hF rfl rfl fun a hF => nt <| wp_block ?_;change Mem w _ [some (b1, monC (x : Int) (y : Int))] [(bm, csm)] at hM;refine c_loop (fun (kk : Nat) a w' => kk ≤ totH h m ∧ (∀ q, q < kk → ¬ (x = mX h m q ∧ y = mY h m q)) ∧ Fr 19 a [(0, .slice (some ⟨bm, 0, none⟩) ((totH h m)) (cm)), (3, ptr b1 (0)), (7, .int .i64 ((((totH h m) : Nat) : Int))), (8, .int .i64 (kk : Int))] ∧ Mem w w' [some (b1, monC (x : Int) (y : Int))] [(bm, csm)]) (fun kk => totH h m - kk) 0 ?_ ?_
  · refine ⟨by omega, fun q hq => absurd hq (by omega), hF.sub _ (by repeat' constructor), ?_⟩
    exact hM
  clear hF hM;rintro gq a w' ⟨hgq, hinv1, hF, hM⟩;refine sr <| st hF (g_lss hF rfl rfl) rfl fun a hF => nt <| sq <| c_cond hF rfl (fun h2 => ?_) (fun h2 => ?_)
  · refine wp_skip ?_
    refine tN <| sq <| wp_block <| sr <| mv hF rfl rfl fun a hF => ag hF rfl rfl fun a hF => nt <| sq <| c_par 5 [] [.val (.agg (monC (x : Int) (y : Int))), .val (.slice (some ⟨bm, 0, none⟩) ((totH h m)) (cm)), .val (.int .i64 (gq : Int)), .val (ptr bm (0 + (gq) * 2)), .val (.agg (monC (mX h m (gq) : Int) (mY h m (gq) : Int)))] hmix rfl hF rfl hM ⟨fun a w gG hF hS hd => by have hM := hS.mem rfl; exact par_val hS rfl (g_loadAgg ty_ag_68 hF rfl (hM.row 0 rfl) (by simp only [sz0, grpC_size, numI_size, smC_size, numC_size, mri_size, rowJ_size, monC_size] <;> omega) (monC_whole rfl)), fun a w gG hF hS hd => by exact pmv hS rfl hF rfl, fun a w gG hF hS hd => by exact pmv hS rfl hF rfl, fun a w gG hF hS hd => by have hF := hF.ext1 12 (hd 1 rfl rfl); have hF := hF.ext1 13 (hd 2 rfl rfl); exact par_val hS rfl (g_indexSl (i := gq) ty_sl_65 hF rfl rfl rfl (by omega)), fun a w gG hF hS hd => by have hF := hF.ext1 14 (hd 3 rfl rfl); have hM := hS.mem rfl; exact par_val hS rfl (g_loadAgg ty_ag_68 hF rfl (hM.fzm hmm) (hms.room2 (gq) (by omega)) (mon_row (X := mX h m) (Y := mY h m) hms (gq) (by omega))), trivial⟩ ?_;intro a w' L hF hS hq;have hF := hF.ext1 11 (hq 0 rfl rfl);have hF := hF.ext1 12 (hq 1 rfl rfl);have hF := hF.ext1 13 (hq 2 rfl rfl);have hF := hF.ext1 14 (hq 3 rfl rfl);have hF := hF.ext1 15 (hq 4 rfl rfl);have hM := hS.mem rfl;change wpList Try.prog _ _ [_] _ _;refine st hF (g_eqlA ty_eg_68 hF rfl rfl (eqAt_mon ty_mu_68 ty_mh_68 ty_mf_68 ty_ip_2 ty_on_2)) rfl fun a hF => nt <| c_cond hF rfl (fun h3 => ?_) (fun h3 => ?_)
    · refine sq ?_
      refine wp_region_lit <| mv hF rfl rfl fun a hF => ag hF rfl rfl fun a hF => nt <| wp_ret <| iR <| tR <| tR <| iR <| tR <| fin1 rfl hF.defers (res_tmp hF rfl) ⟨_, rfl, hM.below, ?_⟩
      show _ = _
      exact congrArg (Value.int .i64) (plI_yes (q := gq) (by omega) (by omega) (by omega)).symm
    refine wp_skip <| iN <| tN <| wp_region_lit <| st hF (g_add hF rfl rfl (add_nat (gq) (1) (by omega))) rfl fun a hF => mv hF rfl rfl fun a hF => nt <| ⟨gq + 1, ⟨by omega, (fun q hq => by by_cases e : q = gq; (subst e; omega); exact hinv1 q (by omega)), hF.sub _ (by repeat' constructor), ?_⟩, by omega⟩;exact hM
  obtain rfl : totH h m = gq := by omega
  refine wp_exit <| tX <| tX <| ib_same <| tN <| sr <| ag hF rfl rfl fun a hF => nt <| wp_ret <| fin1 rfl hF.defers (res_tmp hF rfl) ⟨_, rfl, hM.below, ?_⟩
  show _ = _
  exact congrArg (Value.int .i64) (plI_no hinv1).symm
theorem monContains_ok (bm cm m : Nat) (csm : Array Value) (h : Nat → Nat) (x y : Nat) (w : World) (hst : StN m h) (hx : x < 1000) (hy : y < 1000) (hms : SlAt 2 (.slice (some ⟨bm, 0, none⟩) (totH h m) cm) (some (bm, csm)) (totH h m) bm cm csm (monF h m)) (hbm : Blk w bm csm) :
    CallsR Try.prog 62 #[.slice (some ⟨bm, 0, none⟩) ((totH h m)) (cm), .agg (monC (x : Int) (y : Int))] w (fun res _ => res = .bool (decide (hasP h m x y))) := by
  refine calls_fr [.slice (some ⟨bm, 0, none⟩) ((totH h m)) (cm), .agg (monC (x : Int) (y : Int))] Try.func62 rfl Try.ntmps62 rfl fun a hF => ?_;have hM : Mem w w [none] [(bm, csm)] := MemX.startD w 1 _ (startD1 hbm);change Fr 9 a [(0, .slice (some ⟨bm, 0, none⟩) ((totH h m)) (cm)), (1, .agg (monC (x : Int) (y : Int)))] at hF;have hm6 := hst.len;have htot := hst.2.2.2;have hh6 : ∀ i, i < m → h i ≤ 6 := fun i hi => by have := tot_lt (h := h) (a := i) (b := h i - 1) hi (by have := hst.2.1 i hi; omega); omega
  have hmm : (bm, csm) ∈ [(bm, csm)] := List.mem_cons_self ..;refine sr <| stR hF (d_box 0 hM hF rfl) rfl ?_;rintro _ w' a ⟨b1, rfl, hM, -⟩ hF;change Mem w w' [some (b1, monC (x : Int) (y : Int))] [(bm, csm)] at hM;refine ag hF rfl rfl fun a hF => ns <| mv hF rfl rfl fun a hF => st hF (g_loadAgg ty_ag_68 hF rfl (hM.row 0 rfl) (by simp only [sz0, grpC_size, numI_size, smC_size, numC_size, mri_size, rowJ_size, monC_size] <;> omega) (monC_whole rfl)) rfl fun a hF => stR hF (d_call Try.call65 hF (.cons rfl (.cons rfl .nil)) (monIndex_ok bm cm m csm h (x) (y) _ hst (by omega) (by omega) hms (hM.fzm hmm))) rfl ?_;rintro _ w' a ⟨hx, rfl⟩ hF;have hM := hM.ext hx;refine st hF (g_geq hF rfl rfl) rfl fun a hF => ag hF rfl rfl fun a hF => nt <| wp_ret <| fin1 rfl hF.defers (res_tmp hF rfl) ⟨_, rfl, hM.below, ?_⟩
  show _ = _
  exact congrArg Value.bool (decide_eq_decide.2 plI_has)
theorem monHas_ok (bm cm m : Nat) (csm : Array Value) (h : Nat → Nat) (x y : Nat) (w : World) (hst : StN m h) (hx : x < 1000) (hy : y < 1000) (hms : SlAt 2 (.slice (some ⟨bm, 0, none⟩) (totH h m) cm) (some (bm, csm)) (totH h m) bm cm csm (monF h m)) (hbm : Blk w bm csm) :
    CallsR Try.prog 54 #[.slice (some ⟨bm, 0, none⟩) ((totH h m)) (cm), .agg (monC (x : Int) (y : Int))] w (fun res _ => res = .bool (decide (hasP h m x y))) := by
  refine calls_fr [.slice (some ⟨bm, 0, none⟩) ((totH h m)) (cm), .agg (monC (x : Int) (y : Int))] Try.func54 rfl Try.ntmps54 rfl fun a hF => ?_;have hM : Mem w w [none] [(bm, csm)] := MemX.startD w 1 _ (startD1 hbm);change Fr 8 a [(0, .slice (some ⟨bm, 0, none⟩) ((totH h m)) (cm)), (1, .agg (monC (x : Int) (y : Int)))] at hF;have hm6 := hst.len;have htot := hst.2.2.2;have hh6 : ∀ i, i < m → h i ≤ 6 := fun i hi => by have := tot_lt (h := h) (a := i) (b := h i - 1) hi (by have := hst.2.1 i hi; omega); omega
  have hmm : (bm, csm) ∈ [(bm, csm)] := List.mem_cons_self ..;refine sr <| stR hF (d_box 0 hM hF rfl) rfl ?_;rintro _ w' a ⟨b1, rfl, hM, -⟩ hF;change Mem w w' [some (b1, monC (x : Int) (y : Int))] [(bm, csm)] at hM;refine ag hF rfl rfl fun a hF => ns <| mv hF rfl rfl fun a hF => st hF (g_loadAgg ty_ag_68 hF rfl (hM.row 0 rfl) (by simp only [sz0, grpC_size, numI_size, smC_size, numC_size, mri_size, rowJ_size, monC_size] <;> omega) (monC_whole rfl)) rfl fun a hF => stR hF (d_call Try.call62 hF (.cons rfl (.cons rfl .nil)) (monContains_ok bm cm m csm h (x) (y) _ hst (by omega) (by omega) hms (hM.fzm hmm))) rfl ?_;rintro _ w' a ⟨hx, rfl⟩ hF;have hM := hM.ext hx;refine ag hF rfl rfl fun a hF => nt <| wp_ret <| fin1 rfl hF.defers (res_tmp hF rfl) ⟨_, rfl, hM.below, ?_⟩
  show _ = _
  rfl
end Go.Proofs.Ytockjnhdllcfpaa
