/- What functions of the program return, as walks over their operations; no statement of the seat is proved here. -/
import Derived.Test.YtjfmachfdpmdcaaDoorK2
import Derived.Test.YtjfmachfdpmdcaaDoorEch5
set_option linter.unusedVariables false
set_option linter.unusedSimpArgs false
namespace Go.Proofs.YtjfmachfdpmdcaaDoor
open Go Go.RowKit Go.Sw Go.Ech
open Classical
theorem tabC_putRow {T : Nat → Nat → Nat → Nat} {v : Nat → Nat} {o : Nat} (a b : Nat) (h : o = a * 36 + b * 6) (ha : a < 6) (hb : b < 6) : splice (tabC T) o (vecC v) = tabC (fun i j k => if i = a ∧ j = b then v k else T i j k) := by
  subst h;have hz : a * 36 + b * 6 + (vecC v).size ≤ (tabC T).size := by rw [vecC_size, tabC_size]; omega
  apply fnC_ext (by rw [splice_size _ _ _ hz, tabC_size])
  intro i hi;rw [splice_get _ _ _ _ hz, vecC_size]
  by_cases e : a * 36 + b * 6 ≤ i ∧ i < a * 36 + b * 6 + 6
  · rw [if_pos e, vecC_get (i - (a * 36 + b * 6)) rfl (by omega)]; dsimp only; rw [if_pos ⟨by omega, by omega⟩, show i - (a * 36 + b * 6) = i % 6 by omega]
  · rw [if_neg e, tabC_get (i / 36) (i / 6 % 6) (i % 6) (by omega) (by omega) (by omega) (by omega)]; dsimp only; rw [if_neg (by omega)]
theorem tabC_congr {T U : Nat → Nat → Nat → Nat} (h : ∀ i, i < 6 → ∀ j, j < 6 → ∀ k, k < 6 → T i j k = U i j k) : tabC T = tabC U := by
  unfold tabC
  exact fnC_congr fun c hc => by rw [h _ (by omega) _ (by omega) _ (by omega)]
theorem algC_congr {p n : Int} {T U : Nat → Nat → Nat → Nat} {f : Nat → Nat} (h : ∀ i, i < 6 → ∀ j, j < 6 → ∀ k, k < 6 → T i j k = U i j k) : algC p n T f = algC p n U f := by
  unfold algC
  refine fnC_congr fun c hc => ?_
  by_cases h0 : c = 0
  · rw [if_pos h0, if_pos h0]
  · rw [if_neg h0, if_neg h0]
    by_cases h1 : c = 1
    · rw [if_pos h1, if_pos h1]
    · rw [if_neg h1, if_neg h1]
      by_cases h2 : c < 218
      · rw [if_pos h2, if_pos h2, h _ (by omega) _ (by omega) _ (by omega)]
      · rw [if_neg h2, if_neg h2]
def trT (T : Nat → Nat → Nat → Nat) (i j k : Nat) : Nat := T j i k
theorem l01Find_u (p n : Nat) (T : Nat → Nat → Nat → Nat) (f uu : Nat → Nat) (w : World) (hp : primeN p) (hn0 : 0 < n) (hn : n ≤ 6) (hTp : ∀ i j k, T i j k < p) (huu : UnitI p n T uu) : CallsV Tryd.prog 75 #[.agg (algC (p : Int) (n : Int) T f)] w (.tuple #[.agg (vecC uu), .bool true]) :=
  (l01Find_ok p n T f w hp hn0 hn hTp).mono fun v w' _ h => by
    rcases h with ⟨u, hu, rfl⟩ | ⟨hu, rfl⟩
    · rw [huu.unique hu]
    · exact absurd huu (hu uu)
theorem findUnit_u (p n : Nat) (T : Nat → Nat → Nat → Nat) (f uu : Nat → Nat) (w : World) (hp : primeN p) (hn0 : 0 < n) (hn : n ≤ 6) (hTp : ∀ i j k, T i j k < p) (huu : UnitI p n T uu) : CallsV Tryd.prog 76 #[.agg (algC (p : Int) (n : Int) T f)] w (.tuple #[.agg (vecC uu), .bool true]) :=
  (findUnit_ok p n T f w hp hn0 hn hTp).mono fun v w' _ h => by
    rcases h with ⟨u, hu, rfl⟩ | ⟨hu, rfl⟩
    · rw [huu.unique hu]
    · exact absurd huu (hu uu)

theorem transposed_ok (T : Nat → Nat → Nat → Nat) (w : World)  :
    CallsR Tryd.prog 105 #[.agg (tabC T)] w (fun res _ => res = .agg (tabC (trT T))) := by
  refine calls_fr [.agg (tabC T)] Tryd.func105 rfl Tryd.ntmps105 rfl fun a hF => ?_;have hM : Mem w w [none, none, none, none, none] [] := MemX.start w 5;change Fr 26 a [(0, .agg (tabC T))] at hF;refine sr <| stR hF (d_box 0 hM hF rfl) rfl ?_;rintro _ w' a ⟨b1, rfl, hM, -⟩ hF;refine stR hF (d_alloc 1 hM ty_ze_24) rfl ?_;rintro _ w' a ⟨b2, rfl, hM, -⟩ hF;refine ns <| stR hF (d_alloc 2 hM ty_ze_24) rfl ?_;rintro _ w' a ⟨b3, rfl, hM, -⟩ hF;change Mem w w' [some (b1, tabC T), some (b2, fnC 216 (fun _ => .int .u8 (0))), some (b3, fnC 216 (fun _ => .int .u8 (0))), none, none] [] at hM;refine nt <| sq <| sr <| st hF (g_loadAgg ty_ag_24 hF rfl (hM.row 0 rfl) (by simp only [sz0] <;> omega) (whole (by simp only [sz0]))) rfl fun a hF => mv hF rfl rfl fun a hF => nt <| wp_block ?_;change Mem w _ [some (b1, tabC T), some (b2, fnC 216 (fun _ => .int .u8 (0))), some (b3, fnC 216 (fun _ => .int .u8 (0))), none, none] [] at hM;refine c_loop (fun (kk : Nat) a w' => kk ≤ 6 ∧ (True) ∧ Fr 26 a [(2, ptr b2 (0)), (3, ptr b3 (0)), (8, .agg (tabC T)), (9, .int .i64 (kk : Int))] ∧ Mem w w' [some (b1, tabC T), some (b2, fnC 216 (fun _ => .int .u8 (0))), some (b3, tabC (fun i j k => if j < kk ∨ (j = kk ∧ i < 0) then T j i k else 0)), none, none] []) (fun kk => 6 - kk) 0 ?_ ?_
  · refine ⟨by omega, trivial, hF.sub _ (by repeat' constructor), ?_⟩
    refine hM.rowc 2 rfl (fnC_congr fun c hc => by simp)
  clear hF hM;rintro gi a w' ⟨hgi, hinv1, hF, hM⟩;refine sr <| st hF (g_lss hF rfl rfl) rfl fun a hF => nt <| sq <| c_cond hF rfl (fun h4 => ?_) (fun h4 => ?_)
  · refine wp_skip ?_
    refine tN <| sq <| wp_block <| sr <| mv hF rfl rfl fun a hF => st hF (g_indexA ty_ua_24 ty_ag_23 hF rfl rfl rfl (by omega) (tabC_plane (gi) (by omega) (by omega) (by omega))) rfl fun a hF => stR hF (d_alloc 3 hM ty_ze_23) rfl ?_;rintro _ w' a ⟨b5, rfl, hM, -⟩ hF;change Mem w w' [some (b1, tabC T), some (b2, fnC 216 (fun _ => .int .u8 (0))), some (b3, tabC (fun i j k => if j < gi ∨ (j = gi ∧ i < 0) then T j i k else 0)), some (b5, fnC 36 (fun _ => .int .u8 (0))), none] [] at hM;refine ag hF rfl rfl fun a hF => stN hF (d_storeAgg 3 hM rfl ty_sz_23 hF rfl rfl (by first | exact vecC_one | exact cells_one | (refine fnC_one fun _ _ => ?_; first | rfl | (split <;> rfl))) (by simp only [sz0]) (by simp only [sz0] <;> omega) (splice_whole _ _ (by simp only [sz0]))) ?_;intro _ w' a hM hF;change Mem w w' [some (b1, tabC T), some (b2, fnC 216 (fun _ => .int .u8 (0))), some (b3, tabC (fun i j k => if j < gi ∨ (j = gi ∧ i < 0) then T j i k else 0)), some (b5, planeC (T (gi))), none] [] at hM;refine ns <| st hF (g_loadAgg ty_ag_23 hF rfl (hM.row 3 rfl) (by simp only [sz0] <;> omega) (whole (by simp only [sz0]))) rfl fun a hF => mv hF rfl rfl fun a hF => nt <| wp_block ?_;change Mem w _ [some (b1, tabC T), some (b2, fnC 216 (fun _ => .int .u8 (0))), some (b3, tabC (fun i j k => if j < gi ∨ (j = gi ∧ i < 0) then T j i k else 0)), some (b5, planeC (T (gi))), none] [] at hM;refine c_loop (fun (kk : Nat) a w' => kk ≤ 6 ∧ (True) ∧ Fr 26 a [(2, ptr b2 (0)), (3, ptr b3 (0)), (8, .agg (tabC T)), (9, .int .i64 (gi : Int)), (10, .bool (decide (((gi : Int) : Int) < 6))), (11, .int .i64 (gi : Int)), (12, .agg (planeC (T (gi)))), (5, ptr b5 (0)), (4, .int .i64 (gi : Int)), (13, .agg (planeC (T (gi)))), (14, .int .i64 (kk : Int))] ∧ Mem w w' [some (b1, tabC T), some (b2, fnC 216 (fun _ => .int .u8 (0))), some (b3, tabC (fun i j k => if j < gi ∨ (j = gi ∧ i < kk) then T j i k else 0)), some (b5, planeC (T (gi))), none] []) (fun kk => 6 - kk) 0 ?_ ?_
    · refine ⟨by omega, trivial, hF.sub _ (by repeat' constructor), ?_⟩
      exact hM
    clear hF hM;rintro gj a w' ⟨hgj, hinv2, hF, hM⟩;refine sr <| st hF (g_lss hF rfl rfl) rfl fun a hF => nt <| sq <| c_cond hF rfl (fun h6 => ?_) (fun h6 => ?_)
    · refine wp_skip ?_
      refine tN <| sq <| wp_block <| sr <| mv hF rfl rfl fun a hF => st hF (g_indexA ty_ua_23 ty_ag_22 hF rfl rfl rfl (by omega) (planeC_row (gj) (by omega) (by omega) (by omega))) rfl fun a hF => stR hF (d_alloc 4 hM ty_ze_22) rfl ?_;rintro _ w' a ⟨b7, rfl, hM, -⟩ hF;change Mem w w' [some (b1, tabC T), some (b2, fnC 216 (fun _ => .int .u8 (0))), some (b3, tabC (fun i j k => if j < gi ∨ (j = gi ∧ i < gj) then T j i k else 0)), some (b5, planeC (T (gi))), some (b7, fnC 6 (fun _ => .int .u8 (0)))] [] at hM;refine ag hF rfl rfl fun a hF => stN hF (d_storeAgg 4 hM rfl ty_sz_22 hF rfl rfl (by first | exact vecC_one | exact cells_one | (refine fnC_one fun _ _ => ?_; first | rfl | (split <;> rfl))) (by simp only [sz0]) (by simp only [sz0] <;> omega) (splice_whole _ _ (by simp only [sz0]))) ?_;intro _ w' a hM hF;change Mem w w' [some (b1, tabC T), some (b2, fnC 216 (fun _ => .int .u8 (0))), some (b3, tabC (fun i j k => if j < gi ∨ (j = gi ∧ i < gj) then T j i k else 0)), some (b5, planeC (T (gi))), some (b7, vecC ((T (gi)) (gj)))] [] at hM;refine nt <| c_par 4 [] [.val (.int .i64 (gj : Int)), .val (.int .i64 (gi : Int)), .val (.agg (vecC ((T (gi)) (gj)))), .val (ptr b3 (0 + (gj) * 36))] hmix rfl hF rfl hM ⟨fun a w gG hF hS hd => by exact pmv hS rfl hF rfl, fun a w gG hF hS hd => by exact pmv hS rfl hF rfl, fun a w gG hF hS hd => by have hM := hS.mem rfl; exact par_val hS rfl (g_loadAgg ty_ag_22 hF rfl (hM.row 4 rfl) (by simp only [sz0] <;> omega) (whole (by simp only [sz0]))), fun a w gG hF hS hd => by have hF := hF.ext1 18 (hd 0 rfl rfl); exact par_val hS rfl (g_indexAddr ty_ar_24 hF rfl rfl rfl (by omega)), trivial⟩ ?_;intro a w' L hF hS hq;have hF := hF.ext1 18 (hq 0 rfl rfl);have hF := hF.ext1 19 (hq 1 rfl rfl);have hF := hF.ext1 20 (hq 2 rfl rfl);have hF := hF.ext1 21 (hq 3 rfl rfl);have hM := hS.mem rfl;change wpList Tryd.prog _ _ [_, _] _ _;refine st hF (g_indexAddr ty_ar_23 hF rfl rfl rfl (by omega)) rfl fun a hF => stN hF (d_storeAgg 2 hM rfl ty_sz_22 hF rfl rfl (by first | exact vecC_one | exact cells_one | (refine fnC_one fun _ _ => ?_; first | rfl | (split <;> rfl))) (by simp only [sz0]) (by simp only [sz0] <;> omega) (tabC_putRow (gj) (gi) (by omega) (by omega) (by omega))) ?_;intro _ w' a hM hF;change Mem w w' [some (b1, tabC T), some (b2, fnC 216 (fun _ => .int .u8 (0))), some (b3, tabC (fun i j k => if i = gj ∧ j = gi then (((T (gi)) (gj))) k else ((fun i j k => if j < gi ∨ (j = gi ∧ i < gj) then T j i k else 0)) i j k)), some (b5, planeC (T (gi))), some (b7, vecC ((T (gi)) (gj)))] [] at hM;refine wpList_nil <| iN <| tN <| wp_region_lit <| st hF (g_add hF rfl rfl (add_nat (gj) (1) (by omega))) rfl fun a hF => mv hF rfl rfl fun a hF => wpList_nil <| tN ?_;have hM := hM.drop 4;refine ⟨gj + 1, ⟨by omega, trivial, hF.sub _ (by repeat' constructor), ?_⟩, by omega⟩;refine hM.rowc 2 rfl (tabC_congr fun i hi j hj k hk => ?_)
      by_cases e : i = gj ∧ j = gi
      · rw [if_pos e, if_pos (by omega), e.1, e.2]
      · have e0 : (j < gi ∨ (j = gi ∧ i < gj + 1)) = (j < gi ∨ (j = gi ∧ i < gj)) := by apply propext; omega
        rw [if_neg e]; simp only [e0]
    obtain rfl : 6 = gj := by omega
    refine wp_exit <| tX <| tX <| ib_same <| iN <| tN <| wp_region_lit <| st hF (g_add hF rfl rfl (add_nat (gi) (1) (by omega))) rfl fun a hF => mv hF rfl rfl fun a hF => wpList_nil <| tN ?_;have hM := hM.drop 3;refine ⟨gi + 1, ⟨by omega, trivial, hF.sub _ (by repeat' constructor), ?_⟩, by omega⟩;refine hM.rowc 2 rfl (tabC_congr fun i hi j hj k hk => ?_)
    by_cases e : j < gi ∨ (j = gi ∧ i < 6)
    · rw [if_pos e, if_pos (by omega)]
    · rw [if_neg e, if_neg (by omega)]
  obtain rfl : 6 = gi := by omega
  have hM := hM.rowc (cs' := tabC (trT T)) 2 rfl (tabC_congr fun i hi j hj k hk => by unfold trT; rw [if_pos (by omega)]);refine wp_exit <| tX <| tX <| ib_same <| tN <| sr <| st hF (g_loadAgg ty_ag_24 hF rfl (hM.row 2 rfl) (by simp only [sz0] <;> omega) (whole (by simp only [sz0]))) rfl fun a hF => stN hF (d_storeAgg 1 hM rfl ty_sz_24 hF rfl rfl (by first | exact vecC_one | exact cells_one | (refine fnC_one fun _ _ => ?_; first | rfl | (split <;> rfl))) (by simp only [sz0]) (by simp only [sz0] <;> omega) (splice_whole _ _ (by simp only [sz0]))) ?_;intro _ w' a hM hF;change Mem w w' [some (b1, tabC T), some (b2, tabC (trT T)), some (b3, tabC (trT T)), none, none] [] at hM;refine nt <| wp_ret <| fin1 rfl hF.defers (res_agg ty_ag_24 hF rfl (hM.row 1 rfl) (by simp only [sz0])) ⟨_, rfl, hM.below, ?_⟩
  show _ = _
  rfl
theorem oppositeTo_ok (p n : Int) (T : Nat → Nat → Nat → Nat) (f : Nat → Nat) (w : World)  :
    CallsR Tryd.prog 88 #[.agg (algC p n T f)] w (fun res _ => res = .agg (algC p n (trT T) f)) := by
  refine calls_fr [.agg (algC p n T f)] Tryd.func88 rfl Tryd.ntmps88 rfl fun a hF => ?_;have hM : Mem w w [none, none] [] := MemX.start w 2;change Fr 8 a [(0, .agg (algC p n T f))] at hF;refine sr <| stR hF (d_box 0 hM hF rfl) rfl ?_;rintro _ w' a ⟨b1, rfl, hM, -⟩ hF;refine stR hF (d_alloc 1 hM ty_ze_33) rfl ?_;rintro _ w' a ⟨b2, rfl, hM, -⟩ hF;change Mem w w' [some (b1, algC p n T f), some (b2, algC 0 0 (fun _ _ _ => 0) (fun _ => 0))] [] at hM;refine ns <| st hF (g_fieldAddr ty_fo_33_2 hF rfl) rfl fun a hF => st hF (g_loadAgg ty_ag_24 hF rfl (hM.row 0 rfl) (by simp only [sz0] <;> omega) (algC_tab (by omega) (by omega))) rfl fun a hF => stR hF (d_call Tryd.call105 hF (.cons rfl .nil) (transposed_ok T _)) rfl ?_;rintro _ w' a ⟨hx, rfl⟩ hF;have hM := hM.ext hx;refine st hF (g_fieldAddr ty_fo_33_2 hF rfl) rfl fun a hF => stN hF (d_storeAgg 0 hM rfl ty_sz_24 hF rfl rfl (by first | exact vecC_one | exact cells_one | (refine fnC_one fun _ _ => ?_; first | rfl | (split <;> rfl))) (by simp only [sz0]) (by simp only [sz0] <;> omega) (algC_putT (by omega))) ?_;intro _ w' a hM hF;change Mem w w' [some (b1, algC p n (trT T) f), some (b2, algC 0 0 (fun _ _ _ => 0) (fun _ => 0))] [] at hM;refine ns <| st hF (g_loadAgg ty_ag_33 hF rfl (hM.row 0 rfl) (by simp only [sz0] <;> omega) (whole cells_size)) rfl fun a hF => stN hF (d_storeAgg 1 hM rfl ty_sz_33 hF rfl rfl (by first | exact vecC_one | exact cells_one | (refine fnC_one fun _ _ => ?_; first | rfl | (split <;> rfl))) (by simp only [sz0]) (by simp only [sz0] <;> omega) (splice_whole _ _ (by simp only [sz0]))) ?_;intro _ w' a hM hF;change Mem w w' [some (b1, algC p n (trT T) f), some (b2, algC p n (trT T) f)] [] at hM;refine nt <| wp_ret <| fin1 rfl hF.defers (res_agg ty_ag_33 hF rfl (hM.row 1 rfl) (by simp only [sz0])) ⟨_, rfl, hM.below, ?_⟩
  show _ = _
  rfl
def comP (T : Nat → Nat → Nat → Nat) : Prop := ∀ i, i < 6 → ∀ j, j < i → eqV 6 (T i j) (T j i)
theorem comP_iff {T : Nat → Nat → Nat → Nat} : eqT T (trT T) ↔ comP T := by
  constructor
  · intro h i hi j hj; exact h i hi j (by omega)
  · intro h i hi j hj k hk
    show T i j k = T j i k
    rcases Nat.lt_trichotomy i j with e | e | e
    · exact (h j hj i e k hk).symm
    · rw [e]
    · exact h i hi j e k hk
theorem l01Commutative_ok (p n : Int) (T : Nat → Nat → Nat → Nat) (f : Nat → Nat) (w : World)  :
    CallsR Tryd.prog 58 #[.agg (algC p n T f)] w (fun res _ => res = .bool (decide (comP T))) := by
  refine calls_fr [.agg (algC p n T f)] Tryd.func58 rfl Tryd.ntmps58 rfl fun a hF => ?_;have hM : Mem w w [none] [] := MemX.start w 1;change Fr 27 a [(0, .agg (algC p n T f))] at hF;refine sr <| stR hF (d_box 0 hM hF rfl) rfl ?_;rintro _ w' a ⟨b1, rfl, hM, -⟩ hF;refine ag hF rfl rfl fun a hF => nt <| sq <| sr <| ag hF rfl rfl fun a hF => nt <| wp_block ?_;change Mem w _ [some (b1, algC p n T f)] [] at hM;refine c_loop (fun (kk : Nat) a w' => kk ≤ 6 ∧ (∀ i, i < kk → ∀ j, j < i → eqV 6 (T i j) (T j i)) ∧ Fr 27 a [(1, ptr b1 (0)), (3, .int .i64 (kk : Int))] ∧ Mem w w' [some (b1, algC p n T f)] []) (fun kk => 6 - kk) 0 ?_ ?_
  · refine ⟨by omega, fun i hi => absurd hi (by omega), hF.sub _ (by repeat' constructor), ?_⟩
    exact hM
  clear hF hM;rintro gi a w' ⟨hgi, hinv1, hF, hM⟩;refine sq <| sr <| mv hF rfl rfl fun a hF => st hF (g_lss hF rfl rfl) rfl fun a hF => nt <| c_cond hF rfl (fun h2 => ?_) (fun h2 => ?_)
  · refine wp_skip ?_
    refine tN <| sq <| wp_block <| sr <| ag hF rfl rfl fun a hF => nt <| wp_block ?_;change Mem w _ [some (b1, algC p n T f)] [] at hM;refine c_loop (fun (kk : Nat) a w' => kk ≤ gi ∧ (∀ j, j < kk → eqV 6 (T gi j) (T j gi)) ∧ Fr 27 a [(1, ptr b1 (0)), (3, .int .i64 (gi : Int)), (5, .int .i64 (gi : Int)), (6, .bool (decide (((gi : Int) : Int) < 6))), (4, .int .i64 (kk : Int))] ∧ Mem w w' [some (b1, algC p n T f)] []) (fun kk => gi - kk) 0 ?_ ?_
    · refine ⟨by omega, fun i hi => absurd hi (by omega), hF.sub _ (by repeat' constructor), ?_⟩
      exact hM
    clear hF hM;rintro gj a w' ⟨hgj, hinv2, hF, hM⟩;refine sq <| sr <| mv hF rfl rfl fun a hF => mv hF rfl rfl fun a hF => st hF (g_lss hF rfl rfl) rfl fun a hF => nt <| c_cond hF rfl (fun h3 => ?_) (fun h3 => ?_)
    · refine wp_skip ?_
      refine tN <| sq <| wp_block <| sq <| c_par 12 [] [.val (.int .i64 (gi : Int)), .val (.int .i64 (gj : Int)), .val (ptr b1 (0 + 2)), .val (ptr b1 (0 + 2 + (gi) * 36)), .val (ptr b1 (0 + 2 + (gi) * 36 + (gj) * 6)), .val (.agg (vecC (T (gi) (gj)))), .val (.int .i64 (gj : Int)), .val (.int .i64 (gi : Int)), .val (ptr b1 (0 + 2)), .val (ptr b1 (0 + 2 + (gj) * 36)), .val (ptr b1 (0 + 2 + (gj) * 36 + (gi) * 6)), .val (.agg (vecC (T (gj) (gi))))] hmix rfl hF rfl hM ⟨fun a w gG hF hS hd => by exact pmv hS rfl hF rfl, fun a w gG hF hS hd => by exact pmv hS rfl hF rfl, fun a w gG hF hS hd => by exact par_val hS rfl (g_fieldAddr ty_fo_33_2 hF rfl), fun a w gG hF hS hd => by have hF := hF.ext1 14 (hd 0 rfl rfl); have hF := hF.ext1 16 (hd 2 rfl rfl); exact par_val hS rfl (g_indexAddr ty_ar_24 hF rfl rfl rfl (by omega)), fun a w gG hF hS hd => by have hF := hF.ext1 15 (hd 1 rfl rfl); have hF := hF.ext1 17 (hd 3 rfl rfl); exact par_val hS rfl (g_indexAddr ty_ar_23 hF rfl rfl rfl (by omega)), fun a w gG hF hS hd => by have hF := hF.ext1 18 (hd 4 rfl rfl); have hM := hS.mem rfl; exact par_val hS rfl (g_loadAgg ty_ag_22 hF rfl (hM.row 0 rfl) (by simp only [sz0] <;> omega) (algC_row (gi) (gj) (by omega) (by omega) (by omega) (by omega))), fun a w gG hF hS hd => by exact pmv hS rfl hF rfl, fun a w gG hF hS hd => by exact pmv hS rfl hF rfl, fun a w gG hF hS hd => by exact par_val hS rfl (g_fieldAddr ty_fo_33_2 hF rfl), fun a w gG hF hS hd => by have hF := hF.ext1 20 (hd 6 rfl rfl); have hF := hF.ext1 22 (hd 8 rfl rfl); exact par_val hS rfl (g_indexAddr ty_ar_24 hF rfl rfl rfl (by omega)), fun a w gG hF hS hd => by have hF := hF.ext1 21 (hd 7 rfl rfl); have hF := hF.ext1 23 (hd 9 rfl rfl); exact par_val hS rfl (g_indexAddr ty_ar_23 hF rfl rfl rfl (by omega)), fun a w gG hF hS hd => by have hF := hF.ext1 24 (hd 10 rfl rfl); have hM := hS.mem rfl; exact par_val hS rfl (g_loadAgg ty_ag_22 hF rfl (hM.row 0 rfl) (by simp only [sz0] <;> omega) (algC_row (gj) (gi) (by omega) (by omega) (by omega) (by omega))), trivial⟩ ?_;intro a w' L hF hS hq;have hF := hF.ext1 14 (hq 0 rfl rfl);have hF := hF.ext1 15 (hq 1 rfl rfl);have hF := hF.ext1 16 (hq 2 rfl rfl);have hF := hF.ext1 17 (hq 3 rfl rfl);have hF := hF.ext1 18 (hq 4 rfl rfl);have hF := hF.ext1 19 (hq 5 rfl rfl);have hF := hF.ext1 20 (hq 6 rfl rfl);have hF := hF.ext1 21 (hq 7 rfl rfl);have hF := hF.ext1 22 (hq 8 rfl rfl);have hF := hF.ext1 23 (hq 9 rfl rfl);have hF := hF.ext1 24 (hq 10 rfl rfl);have hF := hF.ext1 25 (hq 11 rfl rfl);have hM := hS.mem rfl;change wpList Tryd.prog _ _ [_] _ _;refine st hF (g_neqA ty_eg_22 hF rfl rfl (eqAt_vec ty_ae_22 ty_ip_5 ty_on_5)) rfl fun a hF => nt <| c_cond hF rfl (fun h4 => ?_) (fun h4 => ?_)
      · refine sq ?_
        refine wp_region_lit <| ag hF rfl rfl fun a hF => nt <| wp_ret <| iR <| tR <| tR <| iR <| iR <| tR <| tR <| iR <| tR <| fin1 rfl hF.defers (res_tmp hF rfl) ⟨_, rfl, hM.below, ?_⟩
        show _ = _
        exact bool_f (fun hq => (by assumption : ¬ eqV 6 _ _) (hq gi (by omega) gj (by omega)))
      refine wp_skip <| iN <| tN <| wp_region_lit <| mv hF rfl rfl fun a hF => st hF (g_add hF rfl rfl (add_nat (gj) (1) (by omega))) rfl fun a hF => ag hF rfl rfl fun a hF => nt <| ⟨gj + 1, ⟨by omega, allS hinv2 (Decidable.not_not.1 (by assumption)), hF.sub _ (by repeat' constructor), ?_⟩, by omega⟩;exact hM
    obtain rfl : gi = gj := by omega
    refine wp_exit <| tX <| tX <| ib_same <| iN <| tN <| wp_region_lit <| mv hF rfl rfl fun a hF => st hF (g_add hF rfl rfl (add_nat (gi) (1) (by omega))) rfl fun a hF => ag hF rfl rfl fun a hF => nt <| ⟨gi + 1, ⟨by omega, allS hinv1 hinv2, hF.sub _ (by repeat' constructor), ?_⟩, by omega⟩;exact hM
  obtain rfl : 6 = gi := by omega
  refine wp_exit <| tX <| tX <| ib_same <| tN <| sr <| ag hF rfl rfl fun a hF => nt <| wp_ret <| fin1 rfl hF.defers (res_tmp hF rfl) ⟨_, rfl, hM.below, ?_⟩
  show _ = _
  exact bool_t hinv1
theorem l01Unit_ok (p n : Nat) (T : Nat → Nat → Nat → Nat) (f : Nat → Nat) (w : World) (hp : primeN p) (hn0 : 0 < n) (hn : n ≤ 6) (hTp : ∀ i j k, T i j k < p) (uu : Nat → Nat) (huu : UnitI p n T uu) :
    CallsR Tryd.prog 51 #[.agg (algC (p : Int) (n : Int) T f)] w (fun res _ => res = .agg (vecC uu)) := by
  refine calls_fr [.agg (algC (p : Int) (n : Int) T f)] Tryd.func51 rfl Tryd.ntmps51 rfl fun a hF => ?_;have hM : Mem w w [none, none, none] [] := MemX.start w 3;change Fr 11 a [(0, .agg (algC (p : Int) (n : Int) T f))] at hF;refine sr <| stR hF (d_box 0 hM hF rfl) rfl ?_;rintro _ w' a ⟨b1, rfl, hM, -⟩ hF;refine stR hF (d_alloc 1 hM ty_ze_29) rfl ?_;rintro _ w' a ⟨b2, rfl, hM, -⟩ hF;change Mem w w' [some (b1, algC (p : Int) (n : Int) T f), some (b2, fnC 6 (fun _ => .int .u8 (0))), none] [] at hM;refine ns <| st hF (g_loadAgg ty_ag_33 hF rfl (hM.row 0 rfl) (by simp only [sz0] <;> omega) (whole cells_size)) rfl fun a hF => stR hF (d_call Tryd.call75 hF (.cons rfl .nil) (l01Find_u p n T f uu _ hp hn0 hn hTp huu)) rfl ?_;rintro _ w' a ⟨hx, rfl⟩ hF;have hM := hM.ext hx;refine mv hF rfl rfl fun a hF => st hF (g_extract hF rfl rfl) rfl fun a hF => st hF (g_extract hF rfl rfl) rfl fun a hF => stR hF (d_alloc 2 hM ty_ze_29) rfl ?_;rintro _ w' a ⟨b3, rfl, hM, -⟩ hF;change Mem w w' [some (b1, algC (p : Int) (n : Int) T f), some (b2, fnC 6 (fun _ => .int .u8 (0))), some (b3, fnC 6 (fun _ => .int .u8 (0)))] [] at hM;refine stN hF (d_storeAgg 2 hM rfl ty_sz_29 hF rfl rfl (by first | exact vecC_one | exact cells_one | (refine fnC_one fun _ _ => ?_; first | rfl | (split <;> rfl))) (by simp only [sz0]) (by simp only [sz0] <;> omega) (splice_whole _ _ (by simp only [sz0]))) ?_;intro _ w' a hM hF;change Mem w w' [some (b1, algC (p : Int) (n : Int) T f), some (b2, fnC 6 (fun _ => .int .u8 (0))), some (b3, vecC uu)] [] at hM;refine ag hF rfl rfl fun a hF => ns <| st hF (g_loadAgg ty_ag_29 hF rfl (hM.row 2 rfl) (by simp only [sz0] <;> omega) (whole (by simp only [sz0]))) rfl fun a hF => stN hF (d_storeAgg 1 hM rfl ty_sz_29 hF rfl rfl (by first | exact vecC_one | exact cells_one | (refine fnC_one fun _ _ => ?_; first | rfl | (split <;> rfl))) (by simp only [sz0]) (by simp only [sz0] <;> omega) (splice_whole _ _ (by simp only [sz0]))) ?_;intro _ w' a hM hF;change Mem w w' [some (b1, algC (p : Int) (n : Int) T f), some (b2, vecC uu), some (b3, vecC uu)] [] at hM;refine nt <| wp_ret <| fin1 rfl hF.defers (res_agg ty_ag_29 hF rfl (hM.row 1 rfl) (by simp only [sz0])) ⟨_, rfl, hM.below, ?_⟩
  show _ = _
  rfl
end Go.Proofs.YtjfmachfdpmdcaaDoor

namespace Go.Proofs.YtjfmachfdpmdcaaDoor
open Go Go.RowKit Go.Sw Go.Ech
open Classical

end Go.Proofs.YtjfmachfdpmdcaaDoor

namespace Go.Proofs.YtjfmachfdpmdcaaDoor
open Go Go.RowKit Go.Sw Go.Ech
open Classical
theorem addN_addM {p x i : Nat} {v u : Nat → Nat} : addN p v u (x : Int) i = addM p v u x i := by
  unfold addN addM
  rw [show (v i : Int) + (x : Int) * (u i : Int) = ((v i + x * u i : Nat) : Int) by rw [Int.natCast_add, Int.natCast_mul], ← Int.natCast_emod]
  rfl
def powW (mul : (Nat → Nat) → (Nat → Nat) → Nat → Nat) (u v : Nat → Nat) : Nat → Nat → Nat
  | 0 => u
  | k + 1 => mul (powW mul u v k) v
theorem powW_le {mul : (Nat → Nat) → (Nat → Nat) → Nat → Nat} {u v : Nat → Nat} (hu : ∀ c, u c ≤ 255) (hm : ∀ x c, mul x v c ≤ 255) : ∀ k c, powW mul u v k c ≤ 255
  | 0, c => hu c
  | k + 1, c => hm _ c
theorem timesV_le {p n : Nat} {T : Nat → Nat → Nat → Nat} (hp : 0 < p) (hp2 : p < 200) (x v : Nat → Nat) (c : Nat) : timesV p n T x v c ≤ 255 := by
  unfold timesV; have := Nat.mod_lt (prodI T x v n n c) hp; omega
theorem prodI_Pr0 {n c : Nat} {T : Nat → Nat → Nat → Nat} {v u : Nat → Nat} : (prodI T v u n n c : Int) = Pr n T (ci v) (ci u) c := by
  unfold prodI Pr
  rw [sumTo_sI];refine sI_congr fun a _ => ?_;rw [sumTo_sI];exact sI_congr fun b _ => by simp [ci, Int.natCast_mul]
theorem unit_timesV {p n : Nat} {T : Nat → Nat → Nat → Nat} {u v : Nat → Nat} (hT0 : ∀ i j k, n ≤ k → T i j k = 0) (hu : UnitI p n T u) (hv : ∀ c, c < 6 → v c < p) (hv0 : ∀ c, n ≤ c → c < 6 → v c = 0) : ∀ c, c < 6 → timesV p n T u v c = v c := fun c hc => by
  by_cases h : c < n
  · have hp0 : 0 < p := by have := hv c hc; omega
    refine eq_of_dvd (Nat.mod_lt _ hp0) (hv c hc) ?_
    have h1 : (p : Int) ∣ (timesV p n T u v c : Int) - Pr n T (ci u) (ci v) c := by
      rw [← prodI_Pr0]; unfold timesV; rw [Int.natCast_emod]; exact emod_dvd _ _
    have h2 := Int.dvd_add h1 (Pr_unit_left hu (ci v) h)
    rwa [show ∀ A B C : Int, A - B + (B - C) = A - C from fun A B C => by omega] at h2
  · rw [timesV_out hT0 (by omega), hv0 c (by omega) hc]
theorem power_ok (p n : Nat) (T : Nat → Nat → Nat → Nat) (f v : Nat → Nat) (x : Nat) (w : World) (hp : primeN p) (hn0 : 0 < n) (hn : n ≤ 6) (hTp : ∀ i j k, T i j k < p) (uu : Nat → Nat) (huu : UnitI p n T uu) (hv : ∀ i, v i ≤ 255) (hk : x ≤ 1000) (h1 : ∀ c, c < 6 → timesV p n T uu v c = v c) :
    CallsR Tryd.prog 55 #[.agg (algC (p : Int) (n : Int) T f), .agg (vecC v), .int .i64 (x : Int)] w (fun res _ => res = .agg (vecC (powW (timesV p n T) uu v x))) := by
  refine calls_fr [.agg (algC (p : Int) (n : Int) T f), .agg (vecC v), .int .i64 (x : Int)] Tryd.func55 rfl Tryd.ntmps55 rfl fun a hF => ?_;have hM : Mem w w [none, none, none, none, none] [] := MemX.start w 5;change Fr 29 a [(0, .agg (algC (p : Int) (n : Int) T f)), (1, .agg (vecC v)), (2, .int .i64 (x : Int))] at hF;have hp2 := hp.two;have hp13 := hp.le;have hT : ∀ i j k, T i j k ≤ 255 := fun i j k => by have := hTp i j k; omega
  have hvp : ∀ k c, powW (timesV p n T) uu v k c ≤ 255 := powW_le (fun c => by have := huu.small c; omega) (fun x c => timesV_le (by omega) (by omega) x v c);refine sr <| stR hF (d_box 0 hM hF rfl) rfl ?_;rintro _ w' a ⟨b1, rfl, hM, -⟩ hF;refine stR hF (d_box 1 hM hF rfl) rfl ?_;rintro _ w' a ⟨b2, rfl, hM, -⟩ hF;refine stR hF (d_alloc 2 hM ty_ze_29) rfl ?_;rintro _ w' a ⟨b3, rfl, hM, -⟩ hF;change Mem w w' [some (b1, algC (p : Int) (n : Int) T f), some (b2, vecC v), some (b3, fnC 6 (fun _ => .int .u8 (0))), none, none] [] at hM;refine nt <| sq <| sr <| mv hF rfl rfl fun a hF => st hF (g_eql hF rfl rfl) rfl fun a hF => nt <| c_cond hF rfl (fun h4 => ?_) (fun h4 => ?_)
  · refine sq ?_
    refine wp_region_lit <| st hF (g_loadAgg ty_ag_33 hF rfl (hM.row 0 rfl) (by simp only [sz0] <;> omega) (whole cells_size)) rfl fun a hF => stR hF (d_call Tryd.call76 hF (.cons rfl .nil) (findUnit_u p n T f uu _ hp hn0 hn hTp huu)) rfl ?_;rintro _ w' a ⟨hx, rfl⟩ hF;have hM := hM.ext hx;refine mv hF rfl rfl fun a hF => st hF (g_extract hF rfl rfl) rfl fun a hF => st hF (g_extract hF rfl rfl) rfl fun a hF => stR hF (d_alloc 3 hM ty_ze_29) rfl ?_;rintro _ w' a ⟨b5, rfl, hM, -⟩ hF;change Mem w w' [some (b1, algC (p : Int) (n : Int) T f), some (b2, vecC v), some (b3, fnC 6 (fun _ => .int .u8 (0))), some (b5, fnC 6 (fun _ => .int .u8 (0))), none] [] at hM;refine stN hF (d_storeAgg 3 hM rfl ty_sz_29 hF rfl rfl (by first | exact vecC_one | exact cells_one | (refine fnC_one fun _ _ => ?_; first | rfl | (split <;> rfl))) (by simp only [sz0]) (by simp only [sz0] <;> omega) (splice_whole _ _ (by simp only [sz0]))) ?_;intro _ w' a hM hF;change Mem w w' [some (b1, algC (p : Int) (n : Int) T f), some (b2, vecC v), some (b3, fnC 6 (fun _ => .int .u8 (0))), some (b5, vecC uu), none] [] at hM;refine ag hF rfl rfl fun a hF => ns <| st hF (g_loadAgg ty_ag_29 hF rfl (hM.row 3 rfl) (by simp only [sz0] <;> omega) (whole (by simp only [sz0]))) rfl fun a hF => stN hF (d_storeAgg 2 hM rfl ty_sz_29 hF rfl rfl (by first | exact vecC_one | exact cells_one | (refine fnC_one fun _ _ => ?_; first | rfl | (split <;> rfl))) (by simp only [sz0]) (by simp only [sz0] <;> omega) (splice_whole _ _ (by simp only [sz0]))) ?_;intro _ w' a hM hF;change Mem w w' [some (b1, algC (p : Int) (n : Int) T f), some (b2, vecC v), some (b3, vecC uu), some (b5, vecC uu), none] [] at hM;refine nt <| wp_ret <| tR <| fin1 rfl hF.defers (res_agg ty_ag_29 hF rfl (hM.row 2 rfl) (by simp only [sz0])) ⟨_, rfl, hM.below, ?_⟩
    show _ = _
    obtain rfl : x = 0 := by omega
    rfl
  refine wp_skip <| tN <| sr <| st hF (g_loadAgg ty_ag_29 hF rfl (hM.row 1 rfl) (by simp only [sz0] <;> omega) (whole (by simp only [sz0]))) rfl fun a hF => stR hF (d_alloc 4 hM ty_ze_29) rfl ?_;rintro _ w' a ⟨b6, rfl, hM, -⟩ hF;change Mem w w' [some (b1, algC (p : Int) (n : Int) T f), some (b2, vecC v), some (b3, fnC 6 (fun _ => .int .u8 (0))), none, some (b6, fnC 6 (fun _ => .int .u8 (0)))] [] at hM;refine stN hF (d_storeAgg 4 hM rfl ty_sz_29 hF rfl rfl (by first | exact vecC_one | exact cells_one | (refine fnC_one fun _ _ => ?_; first | rfl | (split <;> rfl))) (by simp only [sz0]) (by simp only [sz0] <;> omega) (splice_whole _ _ (by simp only [sz0]))) ?_;intro _ w' a hM hF;refine nt <| sq <| sr <| mv hF rfl rfl fun a hF => st hF (g_sub hF rfl rfl (show _ = ((x - 1 : Nat) : Int) from (by rw [wrap_i64] <;> omega))) rfl fun a hF => mv hF rfl rfl fun a hF => nt <| wp_block ?_;change Mem w _ [some (b1, algC (p : Int) (n : Int) T f), some (b2, vecC v), some (b3, fnC 6 (fun _ => .int .u8 (0))), none, some (b6, vecC v)] [] at hM;refine c_loop (fun (kk : Nat) a w' => kk ≤ (x - 1) ∧ (True) ∧ Fr 29 a [(3, ptr b1 (0)), (4, ptr b2 (0)), (6, ptr b3 (0)), (11, .bool (decide (((x : Int) : Int) = 0))), (9, ptr b6 (0)), (20, .int .i64 (((x - 1 : Nat) : Int))), (21, .int .i64 (kk : Int))] ∧ Mem w w' [some (b1, algC (p : Int) (n : Int) T f), some (b2, vecC v), some (b3, fnC 6 (fun _ => .int .u8 (0))), none, some (b6, vecC (powW (timesV p n T) uu v (kk + 1)))] []) (fun kk => (x - 1) - kk) 0 ?_ ?_
  · refine ⟨by omega, trivial, hF.sub _ (by repeat' constructor), ?_⟩
    exact hM.rowc 4 rfl (fnC_congr fun c hc => congrArg (Value.int .u8) (congrArg Nat.cast (h1 c hc).symm))
  clear hF hM;rintro gi a w' ⟨hgi, hinv1, hF, hM⟩;have hvt := hvp (gi + 1);refine sr <| st hF (g_lss hF rfl rfl) rfl fun a hF => nt <| sq <| c_cond hF rfl (fun h7 => ?_) (fun h7 => ?_)
  · refine wp_skip ?_
    refine tN <| sq <| wp_block <| wp_region_lit <| st hF (g_loadAgg ty_ag_33 hF rfl (hM.row 0 rfl) (by simp only [sz0] <;> omega) (whole cells_size)) rfl fun a hF => st hF (g_loadAgg ty_ag_29 hF rfl (hM.row 4 rfl) (by simp only [sz0] <;> omega) (whole (by simp only [sz0]))) rfl fun a hF => st hF (g_loadAgg ty_ag_29 hF rfl (hM.row 1 rfl) (by simp only [sz0] <;> omega) (whole (by simp only [sz0]))) rfl fun a hF => stR hF (d_call Tryd.call50 hF (.cons rfl (.cons rfl (.cons rfl .nil))) (product_ok p n T f ((powW (timesV p n T) uu v (gi + 1))) (v) _ (by omega) (by omega) (by omega) (fun _ _ _ => hT _ _ _) (fun _ => by first | exact hv _ | exact hvt _ | exact hvs _ | exact hu _ | exact hT _ _ _ | exact hf _ | omega | (split <;> omega) | (dsimp only; split <;> omega) | assumption) (fun _ => by first | exact hv _ | exact hvt _ | exact hvs _ | exact hu _ | exact hT _ _ _ | exact hf _ | omega | (split <;> omega) | (dsimp only; split <;> omega) | assumption))) rfl ?_;rintro _ w' a ⟨hx, rfl⟩ hF;have hM := hM.ext hx;refine stN hF (d_storeAgg 4 hM rfl ty_sz_29 hF rfl rfl (by first | exact vecC_one | exact cells_one | (refine fnC_one fun _ _ => ?_; first | rfl | (split <;> rfl))) (by simp only [sz0]) (by simp only [sz0] <;> omega) (splice_whole _ _ (by simp only [sz0]))) ?_;intro _ w' a hM hF;change Mem w w' [some (b1, algC (p : Int) (n : Int) T f), some (b2, vecC v), some (b3, fnC 6 (fun _ => .int .u8 (0))), none, some (b6, vecC (timesV p n T ((powW (timesV p n T) uu v (gi + 1))) (v)))] [] at hM;refine wpList_nil <| iN <| tN <| wp_region_lit <| st hF (g_add hF rfl rfl (add_nat (gi) (1) (by omega))) rfl fun a hF => mv hF rfl rfl fun a hF => nt <| ⟨gi + 1, ⟨by omega, trivial, hF.sub _ (by repeat' constructor), ?_⟩, by omega⟩;exact hM
  obtain rfl : (x - 1) = gi := by omega
  refine wp_exit <| tX <| tX <| ib_same <| tN <| sr <| st hF (g_loadAgg ty_ag_29 hF rfl (hM.row 4 rfl) (by simp only [sz0] <;> omega) (whole (by simp only [sz0]))) rfl fun a hF => stN hF (d_storeAgg 2 hM rfl ty_sz_29 hF rfl rfl (by first | exact vecC_one | exact cells_one | (refine fnC_one fun _ _ => ?_; first | rfl | (split <;> rfl))) (by simp only [sz0]) (by simp only [sz0] <;> omega) (splice_whole _ _ (by simp only [sz0]))) ?_;intro _ w' a hM hF;change Mem w w' [some (b1, algC (p : Int) (n : Int) T f), some (b2, vecC v), some (b3, vecC (powW (timesV p n T) uu v (((x - 1)) + 1))), none, some (b6, vecC (powW (timesV p n T) uu v (((x - 1)) + 1)))] [] at hM;refine nt <| wp_ret <| fin1 rfl hF.defers (res_agg ty_ag_29 hF rfl (hM.row 2 rfl) (by simp only [sz0])) ⟨_, rfl, hM.below, ?_⟩
  show _ = _
  rw [show x - 1 + 1 = x by omega]
end Go.Proofs.YtjfmachfdpmdcaaDoor

namespace Go.Proofs.YtjfmachfdpmdcaaDoor
open Go Go.RowKit Go.Sw Go.Ech
open Classical

end Go.Proofs.YtjfmachfdpmdcaaDoor
