/- What functions of the program return, as walks over their operations; no statement of the seat is proved here. -/
import Derived.Test.YtppbjdebomikbaaJ1
import Derived.Test.YtppbjdebomikbaaSw65
set_option linter.unusedVariables false
set_option linter.unusedSimpArgs false
namespace Go.Proofs.Ytppbjdebomikbaa
open Go Go.RowKit Go.Sw Go.Ech
open Classical
theorem ty_ze_35 : zeroP Try.prog 35 = some (.agg (grpC 0 (fun _ _ => 0))) := by kernel_rfl
theorem ty_fo_25_0 : fieldOff Try.prog 25 0 = some 0 := by kernel_rfl
theorem ty_fo_25_1 : fieldOff Try.prog 25 1 = some 1 := by kernel_rfl
theorem ty_sz_35 : sizeP Try.prog 35 = some 37 := by kernel_rfl
theorem IsGroupI_out (n : Int) (M : Nat → Nat → Nat) (w : World) (ho : n < 1 ∨ 6 < n) :
    CallsR Try.prog 39 #[.agg (grpC n M)] w (fun res _ => res = .bool false) := by
  refine calls_fr [.agg (grpC n M)] Try.func39 rfl Try.ntmps39 rfl fun a hF => ?_;have hM : Mem w w [none] [] := MemX.start w 1;change Fr 26 a [(0, .agg (grpC n M))] at hF;refine sr <| stR hF (d_box 0 hM hF rfl) rfl ?_;rintro _ w' a ⟨b1, rfl, hM, -⟩ hF;change Mem w w' [some (b1, grpC n M)] [] at hM;refine ag hF rfl rfl fun a hF => nt <| sq <| sr <| st hF (g_fieldAddr ty_fo_35_0 hF rfl) rfl fun a hF => st hF (g_load ty_on_2 hF rfl (hM.row 0 rfl) (grpC_n (by omega))) rfl fun a hF => st hF (g_lss hF rfl rfl) rfl fun a hF => mv hF rfl rfl fun a hF => ?_
  by_cases g2 : (n : Int) < 1
  · first | rw [decide_eq_true g2] at hF | simp only [decide_eq_true g2] at hF
    refine stS hF rfl rfl rfl rfl rfl fun a hF => stS hF rfl rfl rfl rfl rfl fun a hF => stS hF rfl rfl rfl rfl rfl fun a hF => st hF (g_pickT hF rfl rfl) rfl fun a hF => mv hF rfl rfl fun a hF => stS hF rfl rfl rfl rfl rfl fun a hF => stS hF rfl rfl rfl rfl rfl fun a hF => stS hF rfl rfl rfl rfl rfl fun a hF => st hF (g_pickT hF rfl rfl) rfl fun a hF => nt <| c_T hF rfl <| sr <| ag hF rfl rfl fun a hF => nt <| wp_ret <| tR <| fin1 rfl hF.defers (res_tmp hF rfl) ⟨_, rfl, hM.below, ?_⟩
    show _ = _
    rfl
  first | rw [decide_eq_false g2] at hF | simp only [decide_eq_false g2] at hF
  refine stY hF rfl rfl rfl (g_fieldAddr ty_fo_35_0 hF rfl) rfl fun a hF => stY hF rfl rfl rfl (g_load ty_on_2 hF rfl (hM.row 0 rfl) (grpC_n (by omega))) rfl fun a hF => stY hF rfl rfl rfl (g_gtr hF rfl rfl) rfl fun a hF => st hF (g_pickF hF rfl rfl) rfl fun a hF => mv hF rfl rfl fun a hF => ?_
  by_cases g4 : 6 < (n : Int)
  · first | rw [decide_eq_true g4] at hF | simp only [decide_eq_true g4] at hF
    refine stS hF rfl rfl rfl rfl rfl fun a hF => stS hF rfl rfl rfl rfl rfl fun a hF => stS hF rfl rfl rfl rfl rfl fun a hF => st hF (g_pickT hF rfl rfl) rfl fun a hF => nt <| c_T hF rfl <| sr <| ag hF rfl rfl fun a hF => nt <| wp_ret <| tR <| fin1 rfl hF.defers (res_tmp hF rfl) ⟨_, rfl, hM.below, ?_⟩
    show _ = _
    rfl
  first | rw [decide_eq_false g4] at hF | simp only [decide_eq_false g4] at hF
  exfalso; omega
theorem l06Is_out (n : Int) (M : Nat → Nat → Nat) (w : World) (ho : n < 1 ∨ 6 < n) :
    CallsR Try.prog 20 #[.agg (grpC n M)] w (fun res _ => res = .bool false) := by
  refine calls_fr [.agg (grpC n M)] Try.func20 rfl Try.ntmps20 rfl fun a hF => ?_;have hM : Mem w w [none] [] := MemX.start w 1;change Fr 126 a [(0, .agg (grpC n M))] at hF;refine sr <| stR hF (d_box 0 hM hF rfl) rfl ?_;rintro _ w' a ⟨b1, rfl, hM, -⟩ hF;change Mem w w' [some (b1, grpC n M)] [] at hM;refine ag hF rfl rfl fun a hF => ns <| st hF (g_fieldAddr ty_fo_35_0 hF rfl) rfl fun a hF => st hF (g_load ty_on_2 hF rfl (hM.row 0 rfl) (grpC_n (by omega))) rfl fun a hF => ag hF rfl rfl fun a hF => nt <| sq <| sr <| mv hF rfl rfl fun a hF => stR hF (d_call Try.call35 hF (.cons rfl (.cons rfl (.cons rfl .nil))) (l01In_ok (n) (1) (6) _)) rfl ?_;rintro _ w' a ⟨hx, rfl⟩ hF;have hM := hM.ext hx;refine st hF (g_notP hF rfl) rfl fun a hF => nt <| c_cond hF rfl (fun h2 => ?_) (fun h2 => ?_)
  · refine sq ?_
    refine wp_region_lit <| ag hF rfl rfl fun a hF => nt <| wp_ret <| tR <| fin1 rfl hF.defers (res_tmp hF rfl) ⟨_, rfl, hM.below, ?_⟩
    show _ = _
    rfl
  exfalso; omega
theorem isG_I (n : Int) (M : Nat → Nat → Nat) (w : World) (hB : ∀ i j, M i j ≤ 255) : CallsR Try.prog 39 #[.agg (grpC n M)] w (fun res _ => res = .bool (decide (GrpP n M))) := by
  by_cases ho : n < 1 ∨ 6 < n
  · exact CallsR.val (IsGroupI_out n M w ho) (congrArg Value.bool (decide_eq_false (fun h => by have := h.1; have := h.2.1; omega)).symm)
  · have e : (n.toNat : Int) = n := by omega
    have h := IsGroupI_ok n.toNat M w (by omega) (by omega) hB;rw [e] at h;exact CallsR.val h (congrArg Value.bool (decide_eq_decide.2 ⟨fun q => ⟨by omega, by omega, q⟩, fun q => q.2.2⟩))
theorem isG_S (n : Int) (M : Nat → Nat → Nat) (w : World) (hB : ∀ i j, M i j ≤ 255) : CallsR Try.prog 20 #[.agg (grpC n M)] w (fun res _ => res = .bool (decide (GrpP n M))) := by
  by_cases ho : n < 1 ∨ 6 < n
  · exact CallsR.val (l06Is_out n M w ho) (congrArg Value.bool (decide_eq_false (fun h => by have := h.1; have := h.2.1; omega)).symm)
  · have e : (n.toNat : Int) = n := by omega
    have h := l06Is_ok n.toNat M w (by omega) (by omega) hB;rw [e] at h;exact CallsR.val h (congrArg Value.bool (decide_eq_decide.2 ⟨fun q => ⟨by omega, by omega, q⟩, fun q => q.2.2⟩))
theorem GrpP.mk {n : Nat} {M : Nat → Nat → Nat} (hn0 : 0 < n) (hn : n ≤ 6) (hG : TabP n M) : GrpP (n : Int) M := ⟨by omega, by omega, hG⟩
theorem TabP.lt {n : Nat} {M : Nat → Nat → Nat} (h : TabP n M) {i j : Nat} (hi : i < 6) (hj : j < 6) : M i j < n := (h.1 i hi j hj).1
theorem TabP.out {n : Nat} {M : Nat → Nat → Nat} (h : TabP n M) {i j : Nat} (hi : i < 6) (hj : j < 6) (ho : n ≤ i ∨ n ≤ j) : M i j = 0 := (h.1 i hi j hj).2 (by omega)

theorem toGroup_ok (n : Int) (M : Nat → Nat → Nat) (w : World)  :
    CallsR Try.prog 5 #[.agg (grpC n M)] w (fun res _ => res = .agg (grpC n M)) := by
  refine calls_fr [.agg (grpC n M)] Try.func5 rfl Try.ntmps5 rfl fun a hF => ?_;have hM : Mem w w [none, none, none] [] := MemX.start w 3;change Fr 12 a [(0, .agg (grpC n M))] at hF;refine sr <| stR hF (d_box 0 hM hF rfl) rfl ?_;rintro _ w' a ⟨b1, rfl, hM, -⟩ hF;refine stR hF (d_alloc 1 hM ty_ze_35) rfl ?_;rintro _ w' a ⟨b2, rfl, hM, -⟩ hF;refine ns <| stR hF (d_alloc 2 hM ty_ze_35) rfl ?_;rintro _ w' a ⟨b3, rfl, hM, -⟩ hF;change Mem w w' [some (b1, grpC n M), some (b2, grpC 0 (fun _ _ => 0)), some (b3, grpC 0 (fun _ _ => 0))] [] at hM;refine ns <| st hF (g_fieldAddr ty_fo_25_0 hF rfl) rfl fun a hF => st hF (g_load ty_on_2 hF rfl (hM.row 0 rfl) (grpC_n (by omega))) rfl fun a hF => st hF (g_fieldAddr ty_fo_35_0 hF rfl) rfl fun a hF => stN hF (d_store 2 hM rfl ty_on_2 hF rfl rfl rfl (by first | omega | (simp only [sz0, grpC_size] <;> omega) | (simp only [Array.size_setIfInBounds]; omega) | simp)) ?_;intro _ w' a hM hF;rw [grpC_setn (by omega)] at hM;change Mem w w' [some (b1, grpC n M), some (b2, grpC 0 (fun _ _ => 0)), some (b3, grpC n (fun _ _ => 0))] [] at hM;refine ns <| st hF (g_fieldAddr ty_fo_25_1 hF rfl) rfl fun a hF => st hF (g_loadAgg ty_ag_23 hF rfl (hM.row 0 rfl) (by simp only [sz0, grpC_size] <;> omega) (grpC_tab (by omega) (by omega))) rfl fun a hF => stR hF (d_call Try.call10 hF (.cons rfl .nil) (toByteA6A6_ok M _)) rfl ?_;rintro _ w' a ⟨hx, rfl⟩ hF;have hM := hM.ext hx;refine st hF (g_fieldAddr ty_fo_35_1 hF rfl) rfl fun a hF => stN hF (d_storeAgg 2 hM rfl ty_sz_23 hF rfl rfl (by first | exact vecC_one | exact cells_one | (refine fnC_one fun _ _ => ?_; first | rfl | (split <;> rfl))) (by simp only [sz0, grpC_size]) (by simp only [sz0, grpC_size] <;> omega) (grpC_putT (by omega))) ?_;intro _ w' a hM hF;change Mem w w' [some (b1, grpC n M), some (b2, grpC 0 (fun _ _ => 0)), some (b3, grpC n M)] [] at hM;refine ns <| st hF (g_loadAgg ty_ag_35 hF rfl (hM.row 2 rfl) (by simp only [sz0, grpC_size] <;> omega) (whole (by simp only [sz0, grpC_size]))) rfl fun a hF => stN hF (d_storeAgg 1 hM rfl ty_sz_35 hF rfl rfl (grpC_one) (by simp only [sz0, grpC_size]) (by simp only [sz0, grpC_size] <;> omega) (splice_whole _ _ (by simp only [sz0, grpC_size]))) ?_;intro _ w' a hM hF;change Mem w w' [some (b1, grpC n M), some (b2, grpC n M), some (b3, grpC n M)] [] at hM;refine nt <| wp_ret <| fin1 rfl hF.defers (res_agg ty_ag_35 hF rfl (hM.row 1 rfl) (by simp only [sz0, grpC_size])) ⟨_, rfl, hM.below, ?_⟩
  show _ = _
  rfl
def cmF (M : Nat → Nat → Nat) (i j : Nat) : Nat := if M i j = M j i then 1 else 0
def cpI (M : Nat → Nat → Nat) (n i j : Nat) : Nat := sumTo (fun a => sumTo (fun b => cmF M a b) n) i + sumTo (fun b => cmF M i b) j
end Go.Proofs.Ytppbjdebomikbaa

namespace Go.Proofs.Ytppbjdebomikbaa
open Go Go.RowKit Go.Sw Go.Ech
open Classical
theorem ty_us_50 : Try.prog.underlying 50 = some (.slice 2) := by kernel_rfl
theorem ty_sl_50 : sliceOf Try.prog 50 = some 1 := by kernel_rfl
def wA (F v : Nat → Nat → Nat) (n i j x : Nat) : Nat := sumTo (fun a => sumTo (fun b => if F a b = x then v a b else 0) n) i + sumTo (fun b => if F i b = x then v i b else 0) j
def wy (M : Nat → Nat → Nat) (n : Nat) (e : Nat → Nat) : Nat → Nat → Nat
  | 0, x => if x = 0 then 1 else 0
  | k + 1, x => wA M (fun a b => wy M n e k a * e b) n n 0 x
def comI (M : Nat → Nat → Nat) (n a b : Nat) : Nat := M (M a b) (M (lead (M a) n) (lead (M b) n))
def comS (M : Nat → Nat → Nat) (n a b : Nat) : Nat := M (M (M (M 0 a) b) (lead (M a) n)) (lead (M b) n)
theorem TabP.inv {n : Nat} {M : Nat → Nat → Nat} (h : TabP n M) {i : Nat} (hi : i < n) : lead (M i) n < n := lead_lt (h.2.2.1 i hi)
def com (M : Nat → Nat → Nat) (n x : Nat) : Nat := wA (comI M n) (fun _ _ => 1) n n 0 x
def foldM (M : Nat → Nat → Nat) (l : Nat → Nat) : Nat → Nat
  | 0 => 0
  | k + 1 => M (foldM M l k) (l k)
theorem foldM_lt {M : Nat → Nat → Nat} {n : Nat} {l : Nat → Nat} (hn0 : 0 < n) (hn : n ≤ 6) (h : TabP n M) : ∀ m, (∀ i, i < m → l i < n) → foldM M l m < n
  | 0, _ => hn0
  | m + 1, hl => by
    have h1 := foldM_lt (l := l) hn0 hn h m (fun i hi => hl i (by omega))
    have h2 := hl m (by omega)
    exact h.lt (by omega) (by omega)

theorem l06Inverse_ok (n : Nat) (M : Nat → Nat → Nat) (i : Nat) (w : World) (hn0 : 0 < n) (hn : n ≤ 6) (hB : ∀ i j, M i j ≤ 255) (hG : TabP n M) (hi : i < n) :
    CallsR Try.prog 37 #[.agg (grpC (n : Int) M), .int .i64 (i : Int)] w (fun res _ => res = .int .i64 (lead (M i) n : Int)) := by
  refine calls_fr [.agg (grpC (n : Int) M), .int .i64 (i : Int)] Try.func37 rfl Try.ntmps37 rfl fun a hF => ?_;have hM : Mem w w [none] [] := MemX.start w 1;change Fr 20 a [(0, .agg (grpC (n : Int) M)), (1, .int .i64 (i : Int))] at hF;refine sr <| stR hF (d_box 0 hM hF rfl) rfl ?_;rintro _ w' a ⟨b1, rfl, hM, -⟩ hF;refine ag hF rfl rfl fun a hF => nt <| sq <| sr <| ag hF rfl rfl fun a hF => nt <| wp_block ?_;change Mem w _ [some (b1, grpC (n : Int) M)] [] at hM;refine c_loop (fun (kk : Nat) a w' => kk ≤ n ∧ (∀ j, j < kk → M i j ≠ 0) ∧ Fr 20 a [(1, .int .i64 (i : Int)), (2, ptr b1 (0)), (5, .int .i64 (kk : Int))] ∧ Mem w w' [some (b1, grpC (n : Int) M)] []) (fun kk => n - kk) 0 ?_ ?_
  · refine ⟨by omega, fun i hi => absurd hi (by omega), hF.sub _ (by repeat' constructor), ?_⟩
    exact hM
  clear hF hM;rintro gj a w' ⟨hgj, hinv1, hF, hM⟩;have hbb := hB i gj;refine sq <| sr <| mv hF rfl rfl fun a hF => st hF (g_fieldAddr ty_fo_35_0 hF rfl) rfl fun a hF => st hF (g_load ty_on_2 hF rfl (hM.row 0 rfl) (grpC_n (by omega))) rfl fun a hF => st hF (g_lss hF rfl rfl) rfl fun a hF => nt <| c_cond hF rfl (fun h2 => ?_) (fun h2 => ?_)
  · refine wp_skip ?_
    refine tN <| sq <| wp_block <| sr <| mv hF rfl rfl fun a hF => mv hF rfl rfl fun a hF => st hF (g_fieldAddr ty_fo_35_1 hF rfl) rfl fun a hF => st hF (g_indexAddr ty_ar_23 hF rfl rfl rfl (by omega)) rfl fun a hF => st hF (g_indexAddr ty_ar_22 hF rfl rfl rfl (by omega)) rfl fun a hF => st hF (g_load ty_on_5 hF rfl (hM.row 0 rfl) (grpC_M (i) (gj) (by omega) (by omega) (by omega))) rfl fun a hF => st hF (g_eql hF rfl rfl) rfl fun a hF => nt <| c_cond hF rfl (fun h3 => ?_) (fun h3 => ?_)
    · refine sq ?_
      refine wp_region_lit <| mv hF rfl rfl fun a hF => ag hF rfl rfl fun a hF => nt <| wp_ret <| iR <| tR <| tR <| iR <| tR <| fin1 rfl hF.defers (res_tmp hF rfl) ⟨_, rfl, hM.below, ?_⟩
      show _ = _
      exact congrArg (Value.int .i64) (congrArg Nat.cast (lead_eq (j := gj) (by omega) (by omega) hinv1).symm)
    refine wp_skip <| iN <| tN <| wp_region_lit <| mv hF rfl rfl fun a hF => st hF (g_add hF rfl rfl (add_nat (gj) (1) (by omega))) rfl fun a hF => ag hF rfl rfl fun a hF => nt <| ⟨gj + 1, ⟨by omega, allS hinv1 (by omega), hF.sub _ (by repeat' constructor), ?_⟩, by omega⟩;exact hM
  obtain rfl : n = gj := by omega
  refine wp_exit <| tX <| tX <| ib_same <| tN <| sr <| ag hF rfl rfl fun a hF => nt <| wp_ret <| fin1 rfl hF.defers (res_tmp hF rfl) ⟨_, rfl, hM.below, ?_⟩
  show _ = _
  exfalso; have hz := hG.inv (i := i) (by omega); rw [lead_none hinv1] at hz; omega
theorem l06Times_ok (n : Nat) (M : Nat → Nat → Nat) (b m : Nat) (cs : Array Value) (l : Nat → Nat) (w : World) (hn0 : 0 < n) (hn : n ≤ 6) (hB : ∀ i j, M i j ≤ 255) (hG : TabP n M) (hb : Blk w b cs) (hg : ∀ i, i < m → cs[0 + i * 1]? = some (.int .i64 (l i : Int))) (hm : m < 10) (hl : ∀ i, i < m → l i < n) :
    CallsR Try.prog 36 #[.agg (grpC (n : Int) M), .slice (some ⟨b, 0, none⟩) m m] w (fun res _ => res = .int .i64 (foldM M l m : Int)) := by
  refine calls_fr [.agg (grpC (n : Int) M), .slice (some ⟨b, 0, none⟩) m m] Try.func36 rfl Try.ntmps36 rfl fun a hF => ?_;have hM : Mem w w [none] [(b, cs)] := MemX.startD w 1 _ (startD1 hb);change Fr 24 a [(0, .agg (grpC (n : Int) M)), (1, .slice (some ⟨b, 0, none⟩) m m)] at hF;refine sr <| stR hF (d_box 0 hM hF rfl) rfl ?_;rintro _ w' a ⟨b1, rfl, hM, -⟩ hF;refine ag hF rfl rfl fun a hF => ns <| ag hF rfl rfl fun a hF => nt <| sq <| sr <| ag hF rfl rfl fun a hF => nt <| wp_block ?_;change Mem w _ [some (b1, grpC (n : Int) M)] [(b, cs)] at hM;refine c_loop (fun (kk : Nat) a w' => kk ≤ m ∧ (True) ∧ Fr 24 a [(1, .slice (some ⟨b, 0, none⟩) m m), (2, ptr b1 (0)), (4, .int .i64 (0)), (6, .int .i64 (kk : Int)), (5, .int .i64 ((foldM M l kk : Int)))] ∧ Mem w w' [some (b1, grpC (n : Int) M)] [(b, cs)]) (fun kk => m - kk) 0 ?_ ?_
  · refine ⟨by omega, trivial, hF.sub _ (by repeat' constructor), ?_⟩
    exact hM
  clear hF hM;rintro gi a w' ⟨hgi, hinv1, hF, hM⟩;have hfl := foldM_lt hn0 hn hG gi (fun i hi => hl i (by omega));have hli : gi < m → l gi < n := hl gi;have hbb := hB (foldM M l gi) (l gi);refine sq <| sr <| mv hF rfl rfl fun a hF => mv hF rfl rfl fun a hF => st hF (g_len ty_us_50 hF rfl) rfl fun a hF => st hF (g_lss hF rfl rfl) rfl fun a hF => nt <| c_cond hF rfl (fun h2 => ?_) (fun h2 => ?_)
  · refine wp_skip ?_
    refine tN <| sq <| wp_block <| c_par 7 [] [.val (.int .i64 ((foldM M l gi : Int))), .val (.slice (some ⟨b, 0, none⟩) m m), .val (.int .i64 (gi : Int)), .val (ptr b (0 + (gi) * 1)), .val (.int .i64 ((l (gi) : Int))), .val (ptr b1 (0 + 1)), .val (ptr b1 (0 + 1 + (foldM M l gi) * 6))] hmix rfl hF rfl hM ⟨fun a w gG hF hS hd => by exact pmv hS rfl hF rfl, fun a w gG hF hS hd => by exact pmv hS rfl hF rfl, fun a w gG hF hS hd => by exact pmv hS rfl hF rfl, fun a w gG hF hS hd => by have hF := hF.ext1 14 (hd 1 rfl rfl); have hF := hF.ext1 15 (hd 2 rfl rfl); exact par_val hS rfl (g_indexSl (i := gi) ty_sl_50 hF rfl rfl rfl (by omega)), fun a w gG hF hS hd => by have hF := hF.ext1 16 (hd 3 rfl rfl); have hM := hS.mem rfl; exact par_val hS rfl (g_load ty_on_2 hF rfl (hM.fz 0 rfl) (hg (gi) (by omega))), fun a w gG hF hS hd => by exact par_val hS rfl (g_fieldAddr ty_fo_35_1 hF rfl), fun a w gG hF hS hd => by have hF := hF.ext1 13 (hd 0 rfl rfl); have hF := hF.ext1 18 (hd 5 rfl rfl); exact par_val hS rfl (g_indexAddr ty_ar_23 hF rfl rfl rfl (by omega)), trivial⟩ ?_;intro a w' L hF hS hq;have hF := hF.ext1 13 (hq 0 rfl rfl);have hF := hF.ext1 14 (hq 1 rfl rfl);have hF := hF.ext1 15 (hq 2 rfl rfl);have hF := hF.ext1 16 (hq 3 rfl rfl);have hF := hF.ext1 17 (hq 4 rfl rfl);have hF := hF.ext1 18 (hq 5 rfl rfl);have hF := hF.ext1 19 (hq 6 rfl rfl);have hM := hS.mem rfl;change wpList Try.prog _ _ [_, _, _, _] _ _;refine st hF (g_indexAddr ty_ar_22 hF rfl rfl rfl (by omega)) rfl fun a hF => st hF (g_load ty_on_5 hF rfl (hM.row 0 rfl) (grpC_M (foldM M l gi) (l (gi)) (by omega) (by omega) (by omega))) rfl fun a hF => st hF (g_conv ty_un_2 ty_ud_5 hF rfl (wrap_i64 (by omega) (by omega))) rfl fun a hF => ag hF rfl rfl fun a hF => wpList_nil <| iN <| tN <| wp_region_lit <| mv hF rfl rfl fun a hF => st hF (g_add hF rfl rfl (add_nat (gi) (1) (by omega))) rfl fun a hF => ag hF rfl rfl fun a hF => nt <| ⟨gi + 1, ⟨by omega, trivial, hF.sub _ (by repeat' constructor), ?_⟩, by omega⟩;exact hM
  obtain rfl : m = gi := by omega
  refine wp_exit <| tX <| tX <| ib_same <| tN <| sr <| mv hF rfl rfl fun a hF => ag hF rfl rfl fun a hF => nt <| wp_ret <| fin1 rfl hF.defers (res_tmp hF rfl) ⟨_, rfl, hM.below, ?_⟩
  show _ = _
  rfl
theorem l4_lt2 {n a b : Nat} (ha : a < n) (hb : b < n) : ∀ i, i < 2 → l4 a b 0 0 i < n := fun i hi => by
  obtain rfl | rfl : i = 0 ∨ i = 1 := by omega
  · exact ha
  · exact hb
theorem l4_lt3 {n a b c : Nat} (ha : a < n) (hb : b < n) (hc : c < n) : ∀ i, i < 3 → l4 a b c 0 i < n := fun i hi => by
  obtain rfl | rfl | rfl : i = 0 ∨ i = 1 ∨ i = 2 := by omega
  · exact ha
  · exact hb
  · exact hc
end Go.Proofs.Ytppbjdebomikbaa
