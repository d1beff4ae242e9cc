/- What functions of the program return, as walks over their operations; no statement of the seat is proved here. -/
import Derived.Test.YtfakhcmamdefiaaU3
set_option linter.unusedVariables false
set_option linter.unusedSimpArgs false
namespace Go.Proofs.Ytfakhcmamdefiaa
open Go Go.RowKit Go.Sw Go.Ech
open Classical
def sg (R : Nat → Nat → Int) (k : Nat) : Nat → Int
  | 0 => 0
  | q + 1 => sg R k q + if plK R q = (k : Int) then 1 else if plK R q = -(k : Int) then -1 else 0
theorem sg_bd {R : Nat → Nat → Int} {k : Nat} : ∀ {q : Nat}, -(q : Int) ≤ sg R k q ∧ sg R k q ≤ (q : Int)
  | 0 => by simp [sg]
  | q + 1 => by
    have := sg_bd (R := R) (k := k) (q := q)
    simp only [sg]
    split
    · omega
    · split <;> omega
theorem sg_pos {R : Nat → Nat → Int} {q c : Nat} (h : plK R q > 0) : sg R c (q + 1) = if c = (plK R q).natAbs then sg R (plK R q).natAbs q + 1 else sg R c q := by
  simp only [sg]
  by_cases e : c = (plK R q).natAbs
  · subst e; rw [if_pos (by omega), if_pos rfl]
  · rw [if_neg (by omega), if_neg (by omega), if_neg e]; omega
theorem sg_neg {R : Nat → Nat → Int} {q c : Nat} (h : plK R q < 0) : sg R c (q + 1) = if c = (plK R q).natAbs then sg R (plK R q).natAbs q - 1 else sg R c q := by
  simp only [sg]
  by_cases e : c = (plK R q).natAbs
  · subst e; rw [if_neg (by omega), if_pos (by omega), if_pos rfl]; omega
  · rw [if_neg (by omega), if_neg (by omega), if_neg e]; omega
def posB (R : Nat → Nat → Int) (k x : Nat) : Bool := decide (plK R x = (k : Int))
def negB (R : Nat → Nat → Int) (k x : Nat) : Bool := decide (plK R x = -(k : Int))
theorem sg_cnt {R : Nat → Nat → Int} {k : Nat} (hk : 1 ≤ k) : ∀ q, sg R k q = (cnt (posB R k) q : Int) - (cnt (negB R k) q : Int) ∧ us R k q = cnt (posB R k) q + cnt (negB R k) q
  | 0 => by simp [sg, cnt, us]
  | q + 1 => by
    have ih := sg_cnt (R := R) hk q
    unfold us at *
    simp only [sg]
    by_cases e1 : plK R q = (k : Int)
    · have a1 : posB R k q = true := decide_eq_true e1
      have a2 : ¬ negB R k q = true := fun h => by have := of_decide_eq_true h; omega
      have a3 : usP R k q = true := usP_iff.2 (by omega)
      rw [if_pos e1, cnt_yes a1, cnt_no a2, cnt_yes a3]; omega
    · have a1 : ¬ posB R k q = true := fun h => e1 (of_decide_eq_true h)
      by_cases e2 : plK R q = -(k : Int)
      · have a2 : negB R k q = true := decide_eq_true e2
        have a3 : usP R k q = true := usP_iff.2 (by omega)
        rw [if_neg e1, if_pos e2, cnt_no a1, cnt_yes a2, cnt_yes a3]; omega
      · have a2 : ¬ negB R k q = true := fun h => e2 (of_decide_eq_true h)
        have a3 : ¬ usP R k q = true := fun h => by have := usP_iff.1 h; omega
        rw [if_neg e1, if_neg e2, cnt_no a1, cnt_no a2, cnt_no a3]; omega
theorem sg_zero {R : Nat → Nat → Int} : ∀ {q : Nat}, (∀ x, x < q → plK R x ≠ 0) → sg R 0 q = 0
  | 0, _ => rfl
  | q + 1, h => by
    simp only [sg]
    rw [sg_zero (fun x hx => h x (by omega)), if_neg (by have := h q (by omega); omega), if_neg (by have := h q (by omega); omega)]; rfl
theorem twice {S : Nat → Bool} {N : Nat} (h : 2 ≤ cnt S N) : ∃ x y, x < N ∧ y < N ∧ x ≠ y ∧ S x = true ∧ S y = true := by
  obtain ⟨x, h1, h2, h3⟩ := cnt_ex (S := S) (n := N) (k := 0) (by omega);obtain ⟨y, h4, h5, h6⟩ := cnt_ex (S := S) (n := N) (k := 1) (by omega);exact ⟨x, y, h1, h4, fun e => by subst e; omega, h2, h5⟩
theorem cnt_two {S : Nat → Bool} {N x y : Nat} (hx : x < N) (hy : y < N) (hne : x ≠ y) (h1 : S x = true) (h2 : S y = true) : 2 ≤ cnt S N := by
  rcases Nat.lt_or_gt_of_ne hne with e | e
  · exact two_cnt h1 h2 e hy
  · exact two_cnt h2 h1 e hx
theorem or_iff {m : Nat} {Ln : Nat → Nat} {R : Nat → Nat → Int} {tw : Nat → Nat} (hS : SurfP m Ln R) (hT : TwP (m * 3) (plK R) tw) : (∀ k, k < m * 3 / 2 + 1 → sg R k (m * 3) = 0) ↔ OrP m R tw := by
  have ha : ∀ x, x < m * 3 → 1 ≤ (plK R x).natAbs ∧ (plK R x).natAbs ≤ m * 3 / 2 := rowsG_abs hS.2.1
  constructor
  · intro h i hi j hj e
    have hx : i * 3 + j < m * 3 := by omega
    have hax := ha _ hx;have hk := hS.2.2 (plK R (i * 3 + j)).natAbs hax.1 hax.2;have hs := h (plK R (i * 3 + j)).natAbs (by have := hax.2; omega);have hc := sg_cnt (R := R) hax.1 (m * 3);rw [hs, hk] at hc
    rcases Int.natAbs_eq (plK R (i * 3 + j)) with q | q
    · have := cnt_two (S := posB R (plK R (i * 3 + j)).natAbs) hx (hT.lt _ hx) (fun e2 => hT.ne _ hx e2.symm) (decide_eq_true q) (decide_eq_true (by rw [← e]; exact q))
      have hc1 := hc.1;have hc2 := hc.2
      omega
    · have := cnt_two (S := negB R (plK R (i * 3 + j)).natAbs) hx (hT.lt _ hx) (fun e2 => hT.ne _ hx e2.symm) (decide_eq_true q) (decide_eq_true (by rw [← e]; exact q))
      have hc1 := hc.1;have hc2 := hc.2
      omega
  · intro h k hk
    by_cases hk0 : k = 0
    · subst hk0
      exact sg_zero (fun x hx => by have := (ha x hx).1; omega)
    · have h2 := hS.2.2 k (by omega) (by omega)
      have hc := sg_cnt (R := R) (k := k) (by omega) (m * 3);rw [h2] at hc;have no : ∀ (S : Nat → Bool) (s : Int), (∀ x, S x = true → plK R x = s) → ¬ 2 ≤ cnt S (m * 3) := fun S s hs hq => by
        obtain ⟨x, y, hx, hy, hne, h3, h4⟩ := twice hq;have e3 := hs x h3;have e4 := hs y h4
        rcases hT.only x y hx hy (by rw [e3, e4]) with e | e
        · exact hne e.symm
        · have := h (x / 3) (by omega) (x % 3) (by omega)
          rw [show x / 3 * 3 + x % 3 = x by omega, ← e, e3, e4] at this;exact this rfl
      have n1 := no (posB R k) k (fun x hx => of_decide_eq_true hx);have n2 := no (negB R k) (-(k : Int)) (fun x hx => of_decide_eq_true hx)
      omega
theorem l07Oriented_ok (b o c m : Nat) (R : Nat → Nat → Int) (ca be ob : Nat → Nat) (Ln : Nat → Nat) (w : World) (hm : m ≤ 12) (hS : SurfP m Ln R) (hT : Tri w b o m R ca be ob) :
    CallsR Try.prog 25 #[.slice (some ⟨b, o, none⟩) m c] w (fun res _ => res = .bool (decide (∀ k, k < m * 3 / 2 + 1 → sg R k (m * 3) = 0))) := by
  refine calls_fr [.slice (some ⟨b, o, none⟩) m c] Try.func25 rfl Try.ntmps25 rfl fun a hF => ?_;have hM : Mem w w [none] [] := MemX.start w 1;change Fr 67 a [(0, .slice (some ⟨b, o, none⟩) m c)] at hF;have hgd := fun i (hi : i < m) j (hj : j < 3) => (hS.2.1 i hi).2 j hj
  unfold goodP at hgd
  refine sr <| ag hF rfl rfl fun a hF => ns <| mv hF rfl rfl fun a hF => st hF (g_len ty_us_22 hF rfl) rfl fun a hF => st hF (g_mul hF rfl rfl (mul_nat (m) (3) (by omega))) rfl fun a hF => st hF (g_quo hF rfl rfl (by omega) (quo_nat ((m) * (3)) (2) (by omega))) rfl fun a hF => st hF (g_add hF rfl rfl (add_nat (((m) * (3)) / (2)) (1) (by omega))) rfl fun a hF => stR hF (d_make1b (len := m * 3 / 2 + 1) 0 hM hF ty_si_36 rfl rfl rfl (by omega) (by decide)) rfl ?_;rintro _ w' a ⟨b2, rfl, hM, -⟩ hF;refine ag hF rfl rfl fun a hF => nt <| sq <| sr <| ag hF rfl rfl fun a hF => nt <| wp_block ?_;change Mem w _ [some (b2, numI (m * 3 / 2 + 1) (fun _ => 0))] [] at hM;refine c_loop (fun (kk : Nat) a w' => kk ≤ m ∧ (True) ∧ Fr 67 a [(0, .slice (some ⟨b, o, none⟩) m c), (2, .bool (false)), (3, .slice (some ⟨b2, 0, none⟩) (m * 3 / 2 + 1) (m * 3 / 2 + 1)), (4, .int .i64 (kk : Int))] ∧ Mem w w' [some (b2, numI (m * 3 / 2 + 1) (fun c => sg R c (kk * 3)))] []) (fun kk => m - kk) 0 ?_ ?_
  · refine ⟨by omega, trivial, hF.sub _ (by repeat' constructor), ?_⟩
    exact hM.rowc 0 rfl (numI_congr fun c hc => rfl)
  clear hF hM;rintro gi a w' ⟨hgi, hinv1, hF, hM⟩;refine sq <| sr <| mv hF rfl rfl fun a hF => mv hF rfl rfl fun a hF => st hF (g_len ty_us_22 hF rfl) rfl fun a hF => st hF (g_lss hF rfl rfl) rfl fun a hF => nt <| c_cond hF rfl (fun h3 => ?_) (fun h3 => ?_)
  · refine wp_skip ?_
    refine tN <| sq <| wp_block <| sr <| ag hF rfl rfl fun a hF => nt <| wp_block ?_;change Mem w _ [some (b2, numI (m * 3 / 2 + 1) (fun c => sg R c (gi * 3)))] [] at hM;refine c_loop (fun (kk : Nat) a w' => kk ≤ 3 ∧ (True) ∧ Fr 67 a [(0, .slice (some ⟨b, o, none⟩) m c), (2, .bool (false)), (3, .slice (some ⟨b2, 0, none⟩) (m * 3 / 2 + 1) (m * 3 / 2 + 1)), (4, .int .i64 (gi : Int)), (13, .int .i64 (gi : Int)), (14, .slice (some ⟨b, o, none⟩) m c), (15, .int .i64 (m : Int)), (16, .bool (decide (((gi : Int) : Int) < (m : Int)))), (5, .int .i64 (kk : Int))] ∧ Mem w w' [some (b2, numI (m * 3 / 2 + 1) (fun c => sg R c (gi * 3 + kk)))] []) (fun kk => 3 - kk) 0 ?_ ?_
    · refine ⟨by omega, trivial, hF.sub _ (by repeat' constructor), ?_⟩
      exact hM
    clear hF hM;rintro gj a w' ⟨hgj, hinv2, hF, hM⟩;have hKq : gj < 3 → plK R (gi * 3 + gj) = R gi gj := fun q => plK_at q;have hgg := fun (q : gj < 3) => hgd gi (by omega) gj q;have hsb := sg_bd (R := R) (k := (R gi gj).natAbs) (q := gi * 3 + gj);refine sq <| sr <| mv hF rfl rfl fun a hF => st hF (g_lss hF rfl rfl) rfl fun a hF => nt <| c_cond hF rfl (fun h4 => ?_) (fun h4 => ?_)
    · refine wp_skip ?_
      refine tN <| sq <| wp_block <| sr <| mv hF rfl rfl fun a hF => mv hF rfl rfl fun a hF => st hF (g_indexSl (i := gi) ty_sl_22 hF rfl rfl rfl (by omega)) rfl fun a hF => st hF (g_loadC ty_on_36 hF rfl ((hT.ext hM.below).cell (gi) (by omega))) rfl fun a hF => mv hF rfl rfl fun a hF => st hF (g_indexSl (i := gj) ty_sl_36 hF rfl rfl rfl (by omega)) rfl fun a hF => st hF (g_loadC ty_on_2 hF rfl ((hT.ext hM.below).num (gi) (by omega) (gj) (by omega))) rfl fun a hF => st hF (g_gtr hF rfl rfl) rfl fun a hF => nt <| c_cond hF rfl (fun h5 => ?_) (fun h5 => ?_)
      · refine wp_region_lit ?_
        refine mv hF rfl rfl fun a hF => mv hF rfl rfl fun a hF => mv hF rfl rfl fun a hF => st hF (g_indexSl (i := gi) ty_sl_22 hF rfl rfl rfl (by omega)) rfl fun a hF => st hF (g_loadC ty_on_36 hF rfl ((hT.ext hM.below).cell (gi) (by omega))) rfl fun a hF => mv hF rfl rfl fun a hF => st hF (g_indexSl (i := gj) ty_sl_36 hF rfl rfl rfl (by omega)) rfl fun a hF => st hF (g_loadC ty_on_2 hF rfl (((hT.ext hM.below).num (gi) (by omega) (gj) (by omega)).trans (congrArg (fun q : Int => some (Value.int .i64 q)) (show R (gi) (gj) = (((R (gi) (gj)).natAbs : Nat) : Int) by omega)))) rfl fun a hF => st hF (g_indexSl (i := (R (gi) (gj)).natAbs) ty_sl_36 hF rfl rfl rfl (by omega)) rfl fun a hF => st hF (g_load ty_on_2 hF rfl (hM.row 0 rfl) (numI_get (k := (R (gi) (gj)).natAbs) (by omega) (by omega))) rfl fun a hF => st hF (g_add hF rfl rfl (wrap_i64 (by omega) (by omega))) rfl fun a hF => st hF (g_indexSl (i := (R (gi) (gj)).natAbs) ty_sl_36 hF rfl rfl rfl (by omega)) rfl fun a hF => stN hF (d_store 0 hM rfl ty_on_2 hF rfl rfl rfl (by first | omega | (simp only [sz0, grpC_size, numI_size, sdC_size, trC_size, SC_size, TCv_size] <;> omega) | simp)) ?_;intro _ w' a hM hF;rw [show (numI (m * 3 / 2 + 1) (fun c => sg R c (gi * 3 + gj))).setIfInBounds (0 + ((R (gi) (gj)).natAbs) * 1) (.int .i64 (sg R ((R (gi) (gj)).natAbs) (gi * 3 + gj) + 1)) = numI (m * 3 / 2 + 1) (fun c => sg R c (gi * 3 + gj + 1)) from numI_set (k := (R (gi) (gj)).natAbs) (by omega) (fun c _ => by rw [sg_pos (by rw [hKq (by omega)]; omega), hKq (by omega)])] at hM;change Mem w w' [some (b2, numI (m * 3 / 2 + 1) (fun c => sg R c (gi * 3 + gj + 1)))] [] at hM;refine wpList_nil <| iN <| tN <| wp_region_lit <| mv hF rfl rfl fun a hF => st hF (g_add hF rfl rfl (add_nat (gj) (1) (by omega))) rfl fun a hF => ag hF rfl rfl fun a hF => nt <| ⟨gj + 1, ⟨by omega, trivial, hF.sub _ (by repeat' constructor), ?_⟩, by omega⟩;exact hM.rowc 0 rfl rfl
      refine wp_region_lit <| mv hF rfl rfl fun a hF => mv hF rfl rfl fun a hF => mv hF rfl rfl fun a hF => st hF (g_indexSl (i := gi) ty_sl_22 hF rfl rfl rfl (by omega)) rfl fun a hF => st hF (g_loadC ty_on_36 hF rfl ((hT.ext hM.below).cell (gi) (by omega))) rfl fun a hF => mv hF rfl rfl fun a hF => st hF (g_indexSl (i := gj) ty_sl_36 hF rfl rfl rfl (by omega)) rfl fun a hF => st hF (g_loadC ty_on_2 hF rfl (((hT.ext hM.below).num (gi) (by omega) (gj) (by omega)).trans (congrArg (fun q : Int => some (Value.int .i64 q)) (show R (gi) (gj) = (-(((R (gi) (gj)).natAbs : Nat) : Int)) by omega)))) rfl fun a hF => st hF (g_neg hF rfl (show IntKind.i64.wrap (-(-((((R (gi) (gj)).natAbs : Nat) : Int)))) = ((((R (gi) (gj)).natAbs : Nat) : Int)) from by rw [Int.neg_neg]; exact wrap_i64 (by omega) (by omega))) rfl fun a hF => st hF (g_indexSl (i := (R (gi) (gj)).natAbs) ty_sl_36 hF rfl rfl rfl (by omega)) rfl fun a hF => st hF (g_load ty_on_2 hF rfl (hM.row 0 rfl) (numI_get (k := (R (gi) (gj)).natAbs) (by omega) (by omega))) rfl fun a hF => st hF (g_sub hF rfl rfl (wrap_i64 (by omega) (by omega))) rfl fun a hF => st hF (g_indexSl (i := (R (gi) (gj)).natAbs) ty_sl_36 hF rfl rfl rfl (by omega)) rfl fun a hF => stN hF (d_store 0 hM rfl ty_on_2 hF rfl rfl rfl (by first | omega | (simp only [sz0, grpC_size, numI_size, sdC_size, trC_size, SC_size, TCv_size] <;> omega) | simp)) ?_;intro _ w' a hM hF;rw [show (numI (m * 3 / 2 + 1) (fun c => sg R c (gi * 3 + gj))).setIfInBounds (0 + ((R (gi) (gj)).natAbs) * 1) (.int .i64 (sg R ((R (gi) (gj)).natAbs) (gi * 3 + gj) - 1)) = numI (m * 3 / 2 + 1) (fun c => sg R c (gi * 3 + gj + 1)) from numI_set (k := (R (gi) (gj)).natAbs) (by omega) (fun c _ => by rw [sg_neg (by rw [hKq (by omega)]; omega), hKq (by omega)])] at hM;change Mem w w' [some (b2, numI (m * 3 / 2 + 1) (fun c => sg R c (gi * 3 + gj + 1)))] [] at hM;refine wpList_nil <| iN <| tN <| wp_region_lit <| mv hF rfl rfl fun a hF => st hF (g_add hF rfl rfl (add_nat (gj) (1) (by omega))) rfl fun a hF => ag hF rfl rfl fun a hF => nt <| ⟨gj + 1, ⟨by omega, trivial, hF.sub _ (by repeat' constructor), ?_⟩, by omega⟩;exact hM.rowc 0 rfl rfl
    obtain rfl : 3 = gj := by omega
    refine wp_exit <| tX <| tX <| ib_same <| iN <| tN <| wp_region_lit <| mv hF rfl rfl fun a hF => st hF (g_add hF rfl rfl (add_nat (gi) (1) (by omega))) rfl fun a hF => ag hF rfl rfl fun a hF => nt <| ⟨gi + 1, ⟨by omega, trivial, hF.sub _ (by repeat' constructor), ?_⟩, by omega⟩;exact hM.rowc 0 rfl (numI_congr fun c hc => by rw [show gi * 3 + 3 = (gi + 1) * 3 by omega])
  obtain rfl : m = gi := by omega
  refine wp_exit <| tX <| tX <| ib_same <| tN <| sq <| sr <| ag hF rfl rfl fun a hF => nt <| wp_block ?_;change Mem w _ [some (b2, numI (m * 3 / 2 + 1) (fun c => sg R c (m * 3)))] [] at hM;refine c_loop (fun (kk : Nat) a w' => kk ≤ m * 3 / 2 + 1 ∧ (∀ k, k < kk → sg R k (m * 3) = 0) ∧ Fr 67 a [(0, .slice (some ⟨b, o, none⟩) m c), (3, .slice (some ⟨b2, 0, none⟩) (m * 3 / 2 + 1) (m * 3 / 2 + 1)), (4, .int .i64 (m : Int)), (13, .int .i64 (m : Int)), (14, .slice (some ⟨b, o, none⟩) m c), (15, .int .i64 (m : Int)), (16, .bool (decide (((m : Int) : Int) < (m : Int)))), (6, .int .i64 (kk : Int))] ∧ Mem w w' [some (b2, numI (m * 3 / 2 + 1) (fun c => sg R c (m * 3)))] []) (fun kk => m * 3 / 2 + 1 - kk) 0 ?_ ?_
  · refine ⟨by omega, fun i hi => absurd hi (by omega), hF.sub _ (by repeat' constructor), ?_⟩
    exact hM
  clear hF hM;rintro gk a w' ⟨hgk, hv3, hF, hM⟩;have hsb3 := sg_bd (R := R) (k := gk) (q := m * 3);refine sq <| sr <| mv hF rfl rfl fun a hF => mv hF rfl rfl fun a hF => st hF (g_len ty_us_36 hF rfl) rfl fun a hF => st hF (g_lss hF rfl rfl) rfl fun a hF => nt <| c_cond hF rfl (fun h6 => ?_) (fun h6 => ?_)
  · refine wp_skip ?_
    refine tN <| sq <| wp_block <| sr <| mv hF rfl rfl fun a hF => mv hF rfl rfl fun a hF => st hF (g_indexSl (i := gk) ty_sl_36 hF rfl rfl rfl (by omega)) rfl fun a hF => st hF (g_load ty_on_2 hF rfl (hM.row 0 rfl) (numI_get (k := gk) (by omega) (by omega))) rfl fun a hF => st hF (g_neq hF rfl rfl) rfl fun a hF => nt <| c_cond hF rfl (fun h7 => ?_) (fun h7 => ?_)
    · refine sq ?_
      refine wp_region_lit <| ag hF rfl rfl fun a hF => nt <| wp_ret <| iR <| tR <| tR <| iR <| tR <| fin1 rfl hF.defers (res_tmp hF rfl) ⟨_, rfl, hM.below, ?_⟩
      show _ = _
      exact bool_f (fun hq => by have z := hq gk (by omega); omega)
    refine wp_skip <| iN <| tN <| wp_region_lit <| mv hF rfl rfl fun a hF => st hF (g_add hF rfl rfl (add_nat (gk) (1) (by omega))) rfl fun a hF => ag hF rfl rfl fun a hF => nt <| ⟨gk + 1, ⟨by omega, allS hv3 (by first | assumption | omega), hF.sub _ (by repeat' constructor), ?_⟩, by omega⟩;exact hM
  obtain rfl : m * 3 / 2 + 1 = gk := by omega
  refine wp_exit <| tX <| tX <| ib_same <| tN <| sr <| ag hF rfl rfl fun a hF => nt <| wp_ret <| fin1 rfl hF.defers (res_tmp hF rfl) ⟨_, rfl, hM.below, ?_⟩
  show _ = _
  exact bool_t hv3
end Go.Proofs.Ytfakhcmamdefiaa

namespace Go.Proofs.Ytfakhcmamdefiaa
open Go Go.RowKit Go.Sw Go.Ech
open Classical
theorem ty_ub_4 : Try.prog.underlying 4 = some .bool := by kernel_rfl
end Go.Proofs.Ytfakhcmamdefiaa
