/- What functions of the program return, as walks over their operations; no statement of the seat is proved here. -/
import Derived.Test.YtfakhcmamdefiaaJ5
import Derived.Test.YtfakhcmamdefiaaSw65
import Derived.Test.YtfakhcmamdefiaaSw58
set_option linter.unusedVariables false
set_option linter.unusedSimpArgs false
namespace Go.Proofs.Ytfakhcmamdefiaa
open Go Go.RowKit Go.Sw Go.Ech
open Classical
theorem ty_us_62 : Try.prog.underlying 62 = some (.slice 3) := by kernel_rfl
theorem ty_sl_62 : sliceOf Try.prog 62 = some 1 := by kernel_rfl
theorem ty_on_3 : oneP Try.prog 3 = true := by kernel_rfl
theorem ty_ze_60 : zeroP Try.prog 60 = some (.agg (fnC 19 (fun _ => .int .i64 (0)))) := by kernel_rfl
theorem ty_ar_60 : arrOf Try.prog 60 = some (19, 1) := by kernel_rfl
theorem ty_ua_60 : Try.prog.underlying 60 = some (.array 19 3) := by kernel_rfl
theorem ty_sz_3 : sizeP Try.prog 3 = some 1 := by kernel_rfl
def usP (R : Nat → Nat → Int) (k x : Nat) : Bool := decide ((R (x / 3) (x % 3)).natAbs = k)
def us (R : Nat → Nat → Int) (k q : Nat) : Nat := cnt (usP R k) q
def goodP (m : Nat) (x : Int) : Prop := x ≠ 0 ∧ -((m * 3 / 2 : Nat) : Int) ≤ x ∧ x ≤ ((m * 3 / 2 : Nat) : Int)
def SizeP (m : Nat) : Prop := 2 ≤ m ∧ m ≤ 12 ∧ m % 2 = 0
def RowsG (m k : Nat) (Ln : Nat → Nat) (R : Nat → Nat → Int) : Prop := ∀ i, i < k → Ln i = 3 ∧ ∀ j, j < 3 → goodP m (R i j)
def SurfP (m : Nat) (Ln : Nat → Nat) (R : Nat → Nat → Int) : Prop := SizeP m ∧ RowsG m m Ln R ∧ ∀ k, 1 ≤ k → k ≤ m * 3 / 2 → us R k (m * 3) = 2
theorem us_le {R : Nat → Nat → Int} {k q : Nat} : us R k q ≤ q := cnt_le q
theorem us_step {R : Nat → Nat → Int} {i j q : Nat} (hj : j < 3) (hq : q = i * 3 + j) (k : Nat) : us R k (q + 1) = if k = (R i j).natAbs then us R k q + 1 else us R k q := by
  subst hq;have e : usP R k (i * 3 + j) = decide ((R i j).natAbs = k) := by
    unfold usP; rw [show (i * 3 + j) / 3 = i by omega, show (i * 3 + j) % 3 = j by omega]
  unfold us
  by_cases h : k = (R i j).natAbs
  · rw [if_pos h, cnt_yes (by rw [e]; exact decide_eq_true h.symm)]
  · rw [if_neg h, cnt_no (by rw [e]; exact fun q => h (of_decide_eq_true q).symm)]
theorem us_zero {R : Nat → Nat → Int} {k : Nat} : ∀ {q : Nat}, (∀ x, x < q → (R (x / 3) (x % 3)).natAbs ≠ k) → us R k q = 0
  | 0, _ => rfl
  | q + 1, h => by
    rw [us_step (i := q / 3) (j := q % 3) (by omega) (by omega), if_neg (fun e => h q (by omega) e.symm), us_zero (fun x hx => h x (by omega))]
theorem sumTo_bump {g h : Nat → Nat} {K a : Nat} (ha : a < K) (e : ∀ k, k < K → h k = if k = a then g k + 1 else g k) : sumTo h K = sumTo g K + 1 := by
  induction K with
  | zero => omega
  | succ K ih =>
    simp only [sumTo]
    by_cases q : a = K
    · subst q
      have e1 : ∀ N, N ≤ a → sumTo h N = sumTo g N := by
        intro N hN
        induction N with
        | zero => rfl
        | succ N ih2 => simp only [sumTo]; rw [ih2 (by omega), e N (by omega), if_neg (by omega)]
      rw [e1 a (Nat.le_refl _), e a (by omega), if_pos rfl]; omega
    · rw [ih (by omega) (fun k hk => e k (by omega)), e K (by omega), if_neg (by omega)]; omega
theorem us_sum {R : Nat → Nat → Int} {K : Nat} : ∀ {q : Nat}, (∀ x, x < q → (R (x / 3) (x % 3)).natAbs < K) → sumTo (fun k => us R k q) K = q
  | 0, _ => by
    have : ∀ N, sumTo (fun k => us R k 0) N = 0 := fun N => by
      induction N with
      | zero => rfl
      | succ N ih => simp only [sumTo]; rw [ih]; rfl
    exact this K
  | q + 1, h => by
    rw [sumTo_bump (g := fun k => us R k q) (h q (by omega)) (fun k _ => us_step (i := q / 3) (j := q % 3) (by omega) (by omega) k), us_sum (fun x hx => h x (by omega))]
theorem two_all {g : Nat → Nat} (h0 : g 0 = 0) : ∀ {e : Nat}, (∀ k, k ≤ e → g k ≤ 2) → sumTo g (e + 1) ≤ 2 * e ∧ (sumTo g (e + 1) = 2 * e → ∀ k, 1 ≤ k → k ≤ e → g k = 2)
  | 0, _ => ⟨by simp only [sumTo]; omega, fun _ k h1 h2 => by omega⟩
  | e + 1, h => by
    have ih := two_all h0 (e := e) (fun k hk => h k (by omega))
    have hl := h (e + 1) (Nat.le_refl _)
    have es : sumTo g (e + 1 + 1) = sumTo g (e + 1) + g (e + 1) := rfl
    refine ⟨by omega, fun hs k h1 h2 => ?_⟩
    by_cases q : k = e + 1
    · subst q; omega
    · exact ih.2 (by omega) k h1 (by omega)
theorem good_abs {m : Nat} {x : Int} (h : goodP m x) : 1 ≤ x.natAbs ∧ x.natAbs ≤ m * 3 / 2 := by
  unfold goodP at h; omega
theorem rowsG_abs {m : Nat} {Ln : Nat → Nat} {R : Nat → Nat → Int} (h : RowsG m m Ln R) : ∀ x, x < m * 3 → 1 ≤ (R (x / 3) (x % 3)).natAbs ∧ (R (x / 3) (x % 3)).natAbs ≤ m * 3 / 2 :=
  fun x hx => good_abs ((h (x / 3) (by omega)).2 (x % 3) (by omega))
theorem uses_iff {m : Nat} {Ln : Nat → Nat} {R : Nat → Nat → Int} (hm : SizeP m) (h : RowsG m m Ln R) : (∀ k, k < 19 → us R k (m * 3) = 0 ∨ us R k (m * 3) = 2) ↔ ∀ k, 1 ≤ k → k ≤ m * 3 / 2 → us R k (m * 3) = 2 := by
  have ha := rowsG_abs h;have h0 : us R 0 (m * 3) = 0 := us_zero (fun x hx e => by have := ha x hx; omega)
  unfold SizeP at hm
  constructor
  · intro hu
    have := two_all (g := fun k => us R k (m * 3)) h0 (e := m * 3 / 2) (fun k hk => by have := hu k (by omega); show us R k (m * 3) ≤ 2; omega);exact this.2 (by rw [us_sum (fun x hx => by have := ha x hx; omega)]; omega)
  · intro hu k hk
    by_cases e : 1 ≤ k ∧ k ≤ m * 3 / 2
    · exact .inr (hu k e.1 e.2)
    · refine .inl (us_zero (fun x hx e2 => ?_))
      have := ha x hx
      omega
theorem edgesOf_ok (x : Option Addr) (m c : Nat) (w : World) (hm : m ≤ 1000) :
    CallsR Try.prog 33 #[.slice x m c] w (fun res _ => res = .int .i64 ((m * 3 / 2 : Nat) : Int)) := by
  refine calls_fr [.slice x m c] Try.func33 rfl Try.ntmps33 rfl fun a hF => ?_;have hM : Mem w w [] [] := MemX.start w 0;change Fr 7 a [(0, .slice x m c)] at hF;refine sr <| ag hF rfl rfl fun a hF => ns <| mv hF rfl rfl fun a hF => st hF (g_lenX ty_us_22 hF rfl) rfl fun a hF => st hF (g_mul hF rfl rfl (mul_nat (m) (3) (by omega))) rfl fun a hF => st hF (g_quo hF rfl rfl (by omega) (quo_nat ((m) * (3)) (2) (by omega))) rfl fun a hF => ag hF rfl rfl fun a hF => nt <| wp_ret <| fin1 rfl hF.defers (res_tmp hF rfl) ⟨_, rfl, hM.below, ?_⟩
  show _ = _
  rfl
theorem once_ok (x : Nat) (w : World) (hx : x < 1000000) :
    CallsR Try.prog 46 #[.int .i64 (x : Int)] w (fun res _ => res = .bool (decide (x ≠ 0 ∧ x ≠ 2))) := by
  refine calls_fr [.int .i64 (x : Int)] Try.func46 rfl Try.ntmps46 rfl fun a hF => ?_;have hM : Mem w w [] [] := MemX.start w 0;change Fr 9 a [(0, .int .i64 (x : Int))] at hF;refine sr <| ag hF rfl rfl fun a hF => ns <| mv hF rfl rfl fun a hF => st hF (g_neq hF rfl rfl) rfl fun a hF => mv hF rfl rfl fun a hF => ?_
  by_cases g1 : ((x : Int) : Int) ≠ 0
  · first | rw [decide_eq_true g1] at hF | simp only [decide_eq_true g1] at hF
    refine stY hF rfl rfl rfl (g_move hF rfl) rfl fun a hF => stY hF rfl rfl rfl (g_neq hF rfl rfl) rfl fun a hF => st hF (g_pickT hF rfl rfl) rfl fun a hF => ag hF rfl rfl fun a hF => nt <| wp_ret <| fin1 rfl hF.defers (res_tmp hF rfl) ⟨_, rfl, hM.below, ?_⟩
    show _ = _
    exact congrArg Value.bool (by first | exact (decide_eq_false (by omega)).symm | exact (decide_eq_true (by omega)).symm | exact decide_eq_decide.2 (by omega))
  first | rw [decide_eq_false g1] at hF | simp only [decide_eq_false g1] at hF
  refine stS hF rfl rfl rfl rfl rfl fun a hF => stS hF rfl rfl rfl rfl rfl fun a hF => st hF (g_pickF hF rfl rfl) rfl fun a hF => ag hF rfl rfl fun a hF => nt <| wp_ret <| fin1 rfl hF.defers (res_tmp hF rfl) ⟨_, rfl, hM.below, ?_⟩
  show _ = _
  exact congrArg Value.bool (by first | exact (decide_eq_false (by omega)).symm | exact (decide_eq_true (by omega)).symm | exact decide_eq_decide.2 (by omega))
theorem index_ok (b m : Nat) (g : Nat → Nat) (w : World) (hb : Blk w b (numI m (fun c => (g c : Int)))) (hm : m < 1000) (hg : ∀ i, g i < 1000000) :
    CallsR Try.prog 58 #[.slice (some ⟨b, 0, none⟩) m m, .func (.func 46) #[] #[]] w (fun v w' => ∃ r : Int, v = .int .i64 r ∧ (r ≥ 0 ↔ ∃ i, i < m ∧ g i ≠ 0 ∧ g i ≠ 2)) := by
  refine calls_fr [.slice (some ⟨b, 0, none⟩) m m, .func (.func 46) #[] #[]] Try.func58 rfl Try.ntmps58 rfl fun a hF => ?_;have hM : Mem w w [] [(b, numI m (fun c => (g c : Int)))] := MemX.startD w 0 _ (startD1 hb);change Fr 19 a [(0, .slice (some ⟨b, 0, none⟩) m m), (1, .func (.func 46) #[] #[])] at hF;refine sr <| ag hF rfl rfl fun a hF => nt <| sq <| sr <| mv hF rfl rfl fun a hF => st hF (g_len ty_us_62 hF rfl) rfl fun a hF => mv hF rfl rfl fun a hF => nt <| wp_block ?_;change Mem w _ [] [(b, numI m (fun c => (g c : Int)))] at hM;refine c_loop (fun (kk : Nat) a w' => kk ≤ m ∧ (∀ i, i < kk → ¬ (g i ≠ 0 ∧ g i ≠ 2)) ∧ Fr 19 a [(0, .slice (some ⟨b, 0, none⟩) m m), (1, .func (.func 46) #[] #[]), (7, .int .i64 (m : Int)), (8, .int .i64 (kk : Int))] ∧ Mem w w' [] [(b, numI m (fun c => (g c : Int)))]) (fun kk => m - kk) 0 ?_ ?_
  · refine ⟨by omega, fun i hi => absurd hi (by omega), hF.sub _ (by repeat' constructor), ?_⟩
    exact hM
  clear hF hM;rintro gi a w' ⟨hgi, hinv1, hF, hM⟩;refine sr <| st hF (g_lss hF rfl rfl) rfl fun a hF => nt <| sq <| c_cond hF rfl (fun h1 => ?_) (fun h1 => ?_)
  · refine wp_skip ?_
    refine tN <| sq <| wp_block <| sr <| mv hF rfl rfl fun a hF => ag hF rfl rfl fun a hF => ns <| mv hF rfl rfl fun a hF => mv hF rfl rfl fun a hF => mv hF rfl rfl fun a hF => st hF (g_indexSl (i := gi) ty_sl_62 hF rfl rfl rfl (by omega)) rfl fun a hF => st hF (g_load ty_on_3 hF rfl (hM.fz 0 rfl) (numI_get (k := gi) (by omega) (by omega))) rfl fun a hF => stR hF (d_callV (f := 46) (cap := []) (fun args w => rfl) hF rfl (.cons rfl .nil) (once_ok (g gi) _ (hg gi))) rfl ?_;rintro _ w' a ⟨hx, rfl⟩ hF;have hM := hM.ext hx;refine nt <| c_cond hF rfl (fun h2 => ?_) (fun h2 => ?_)
    · refine sq ?_
      refine wp_region_lit <| mv hF rfl rfl fun a hF => ag hF rfl rfl fun a hF => nt <| wp_ret <| iR <| tR <| tR <| iR <| tR <| fin1 rfl hF.defers (res_tmp hF rfl) ⟨_, rfl, hM.below, ?_⟩;exact ⟨_, rfl, fun _ => ⟨gi, by omega, by assumption⟩, fun _ => by omega⟩
    refine wp_skip <| iN <| tN <| wp_region_lit <| st hF (g_add hF rfl rfl (add_nat (gi) (1) (by omega))) rfl fun a hF => mv hF rfl rfl fun a hF => nt <| ⟨gi + 1, ⟨by omega, allS hinv1 (by assumption), hF.sub _ (by repeat' constructor), ?_⟩, by omega⟩;exact hM
  obtain rfl : m = gi := by omega
  refine wp_exit <| tX <| tX <| ib_same <| tN <| sr <| ag hF rfl rfl fun a hF => nt <| wp_ret <| fin1 rfl hF.defers (res_tmp hF rfl) ⟨_, rfl, hM.below, ?_⟩;exact ⟨_, rfl, by omega, fun h => by obtain ⟨i, hi, h⟩ := h; exact absurd h (hinv1 i hi)⟩
theorem contains_ok (b m : Nat) (g : Nat → Nat) (w : World) (hb : Blk w b (numI m (fun c => (g c : Int)))) (hm : m < 1000) (hg : ∀ i, g i < 1000000) :
    CallsR Try.prog 45 #[.slice (some ⟨b, 0, none⟩) m m, .func (.func 46) #[] #[]] w (fun res _ => res = .bool (decide (∃ i, i < m ∧ g i ≠ 0 ∧ g i ≠ 2))) := by
  refine calls_fr [.slice (some ⟨b, 0, none⟩) m m, .func (.func 46) #[] #[]] Try.func45 rfl Try.ntmps45 rfl fun a hF => ?_;have hM : Mem w w [] [(b, numI m (fun c => (g c : Int)))] := MemX.startD w 0 _ (startD1 hb);change Fr 9 a [(0, .slice (some ⟨b, 0, none⟩) m m), (1, .func (.func 46) #[] #[])] at hF;refine sr <| ag hF rfl rfl fun a hF => ns <| mv hF rfl rfl fun a hF => mv hF rfl rfl fun a hF => stR hF (d_call Try.call58 hF (.cons rfl (.cons rfl .nil)) (index_ok b m g _ (hM.fz 0 rfl) hm hg)) rfl ?_;rintro _ w' a ⟨hx, r, rfl, hr⟩ hF;have hM := hM.ext hx;refine st hF (g_geq hF rfl rfl) rfl fun a hF => ag hF rfl rfl fun a hF => nt <| wp_ret <| fin1 rfl hF.defers (res_tmp hF rfl) ⟨_, rfl, hM.below, ?_⟩
  show _ = _
  exact congrArg Value.bool (decide_eq_decide.2 hr)
theorem IsSurface_M (b o c m : Nat) (Ln : Nat → Nat) (R : Nat → Nat → Int) (xs : Nat → Option Addr) (ca be ob : Nat → Nat) (w : World) (hm : SizeP m) (hss : ArgSS w (.slice (some ⟨b, o, none⟩) m c) m Ln R xs ca be ob) (hcell : ∀ i, i < m → w.cell? ⟨b, o + i * 1, none⟩ = some (.slice (xs i) (Ln i) (ca i))) (hl : ∀ i, i < m → Ln i < 10000000) :
    CallsR Try.prog 27 #[.slice (some ⟨b, o, none⟩) m c] w (fun res _ => res = .bool (decide (SurfP m Ln R))) := by
  refine calls_fr [.slice (some ⟨b, o, none⟩) m c] Try.func27 rfl Try.ntmps27 rfl fun a hF => ?_;have hM : Mem w w [none] [] := MemX.start w 1;change Fr 65 a [(0, .slice (some ⟨b, o, none⟩) m c)] at hF;have hm1 := hm
  unfold SizeP at hm1
  refine sr <| ag hF rfl rfl fun a hF => nt <| sq <| sr <| mv hF rfl rfl fun a hF => st hF (g_len ty_us_22 hF rfl) rfl fun a hF => st hF (g_lss hF rfl rfl) rfl fun a hF => mv hF rfl rfl fun a hF => ?_
  by_cases g1 : ((m : Int) : Int) < 2
  · first | rw [decide_eq_true g1] at hF | simp only [decide_eq_true g1] at hF
    refine stS hF rfl rfl rfl rfl rfl fun a hF => stS hF rfl rfl rfl rfl rfl fun a hF => stS hF rfl rfl rfl rfl rfl fun a hF => st hF (g_pickT hF rfl rfl) rfl fun a hF => mv hF rfl rfl fun a hF => stS hF rfl rfl rfl rfl rfl fun a hF => stS hF rfl rfl rfl rfl rfl fun a hF => stS hF rfl rfl rfl rfl rfl fun a hF => stS hF rfl rfl rfl rfl rfl fun a hF => st hF (g_pickT hF rfl rfl) rfl fun a hF => nt <| c_T hF rfl <| sr <| ag hF rfl rfl fun a hF => nt <| wp_ret <| tR <| fin1 rfl hF.defers (res_tmp hF rfl) ⟨_, rfl, hM.below, ?_⟩
    show _ = _
    exact bool_f (fun hq => by first | (exfalso; omega) | (have z := (hq.2.1 gi (by omega)).1; omega) | (have z := (hq.2.1 gi (by omega)).2 gj (by omega); unfold goodP at z; omega))
  first | rw [decide_eq_false g1] at hF | simp only [decide_eq_false g1] at hF
  refine stY hF rfl rfl rfl (g_move hF rfl) rfl fun a hF => stY hF rfl rfl rfl (g_len ty_us_22 hF rfl) rfl fun a hF => stY hF rfl rfl rfl (g_gtr hF rfl rfl) rfl fun a hF => st hF (g_pickF hF rfl rfl) rfl fun a hF => mv hF rfl rfl fun a hF => ?_
  by_cases g3 : 12 < ((m : Int) : Int)
  · first | rw [decide_eq_true g3] at hF | simp only [decide_eq_true g3] at hF
    refine stS hF rfl rfl rfl rfl rfl fun a hF => stS hF rfl rfl rfl rfl rfl fun a hF => stS hF rfl rfl rfl rfl rfl fun a hF => stS hF rfl rfl rfl rfl rfl fun a hF => st hF (g_pickT hF rfl rfl) rfl fun a hF => nt <| c_T hF rfl <| sr <| ag hF rfl rfl fun a hF => nt <| wp_ret <| tR <| fin1 rfl hF.defers (res_tmp hF rfl) ⟨_, rfl, hM.below, ?_⟩
    show _ = _
    exact bool_f (fun hq => by first | (exfalso; omega) | (have z := (hq.2.1 gi (by omega)).1; omega) | (have z := (hq.2.1 gi (by omega)).2 gj (by omega); unfold goodP at z; omega))
  first | rw [decide_eq_false g3] at hF | simp only [decide_eq_false g3] at hF
  refine stY hF rfl rfl rfl (g_move hF rfl) rfl fun a hF => stY hF rfl rfl rfl (g_len ty_us_22 hF rfl) rfl fun a hF => stY hF rfl rfl rfl (g_rem hF rfl rfl (by omega) (rem_nat (m) (2))) rfl fun a hF => stY hF rfl rfl rfl (g_neq hF rfl rfl) rfl fun a hF => st hF (g_pickF hF rfl rfl) rfl fun a hF => nt <| c_cond hF rfl (fun h5 => ?_) (fun h5 => ?_)
  · refine sq ?_
    refine wp_region_lit <| ag hF rfl rfl fun a hF => nt <| wp_ret <| tR <| fin1 rfl hF.defers (res_tmp hF rfl) ⟨_, rfl, hM.below, ?_⟩
    show _ = _
    exact bool_f (fun hq => by first | (exfalso; omega) | (have z := (hq.2.1 gi (by omega)).1; omega) | (have z := (hq.2.1 gi (by omega)).2 gj (by omega); unfold goodP at z; omega))
  refine wp_skip <| tN <| sr <| stR hF (d_alloc 0 hM ty_ze_60) rfl ?_;rintro _ w' a ⟨b6, rfl, hM, -⟩ hF;refine nt <| sq <| sr <| mv hF rfl rfl fun a hF => st hF (g_len ty_us_22 hF rfl) rfl fun a hF => mv hF rfl rfl fun a hF => nt <| wp_block ?_;change Mem w _ [some (b6, fnC 19 (fun _ => .int .i64 (0)))] [] at hM;refine c_loop (fun (kk : Nat) a w' => kk ≤ m ∧ (RowsG m kk Ln R) ∧ Fr 65 a [(0, .slice (some ⟨b, o, none⟩) m c), (21, .bool (decide (((((m) % (2) : Nat) : Int) : Int) ≠ 0))), (3, ptr b6 (0)), (22, .slice (some ⟨b, o, none⟩) m c), (23, .int .i64 (m : Int)), (24, .int .i64 (kk : Int))] ∧ Mem w w' [some (b6, numI 19 (fun c => (us R c (kk * 3) : Int)))] []) (fun kk => m - kk) 0 ?_ ?_
  · refine ⟨by omega, fun i hi => absurd hi (by omega), hF.sub _ (by repeat' constructor), ?_⟩
    exact hM.rowc 0 rfl (numI_congr fun c hc => rfl)
  clear hF hM;rintro gi a w' ⟨hgi, hinv1, hF, hM⟩;have hli := hl gi;refine sr <| st hF (g_lss hF rfl rfl) rfl fun a hF => nt <| sq <| c_cond hF rfl (fun h7 => ?_) (fun h7 => ?_)
  · refine wp_skip ?_
    refine tN <| sq <| wp_block <| sr <| st hF (g_indexSl (i := gi) ty_sl_22 hF rfl rfl rfl (by omega)) rfl fun a hF => st hF (g_loadC ty_on_36 hF rfl (cell_ext (hcell (gi) (by omega)) hM.below)) rfl fun a hF => ag hF rfl rfl fun a hF => nt <| sq <| sr <| mv hF rfl rfl fun a hF => st hF (g_lenX ty_us_36 hF rfl) rfl fun a hF => st hF (g_neq hF rfl rfl) rfl fun a hF => nt <| c_cond hF rfl (fun h8 => ?_) (fun h8 => ?_)
    · refine sq ?_
      refine wp_region_lit <| ag hF rfl rfl fun a hF => nt <| wp_ret <| tR <| iR <| tR <| tR <| iR <| tR <| fin1 rfl hF.defers (res_tmp hF rfl) ⟨_, rfl, hM.below, ?_⟩
      show _ = _
      exact bool_f (fun hq => by first | (exfalso; omega) | (have z := (hq.2.1 gi (by omega)).1; omega) | (have z := (hq.2.1 gi (by omega)).2 gj (by omega); unfold goodP at z; omega))
    have hrow : Ln gi = 3 := by omega
    have hxa := hss.adr gi (by omega) (by omega);rw [hxa, hrow] at hF;refine wp_skip <| tN <| sr <| mv hF rfl rfl fun a hF => st hF (g_len ty_us_36 hF rfl) rfl fun a hF => mv hF rfl rfl fun a hF => nt <| wp_block ?_;change Mem w _ [some (b6, numI 19 (fun c => (us R c (gi * 3) : Int)))] [] at hM;refine c_loop (fun (kk : Nat) a w' => kk ≤ 3 ∧ (∀ j, j < kk → goodP m (R gi j)) ∧ Fr 65 a [(0, .slice (some ⟨b, o, none⟩) m c), (21, .bool (decide (((((m) % (2) : Nat) : Int) : Int) ≠ 0))), (3, ptr b6 (0)), (22, .slice (some ⟨b, o, none⟩) m c), (23, .int .i64 (m : Int)), (24, .int .i64 (gi : Int)), (25, .bool (decide (((gi : Int) : Int) < (m : Int)))), (26, ptr b (o + (gi) * 1)), (27, .slice (some ⟨be (gi), ob (gi), none⟩) (3) (ca (gi))), (5, .slice (some ⟨be (gi), ob (gi), none⟩) (3) (ca (gi))), (28, .slice (some ⟨be (gi), ob (gi), none⟩) (3) (ca (gi))), (29, .int .i64 (3)), (30, .bool (decide ((((3 : Nat) : Int) : Int) ≠ 3))), (31, .slice (some ⟨be (gi), ob (gi), none⟩) (3) (ca (gi))), (32, .int .i64 (3)), (33, .int .i64 (kk : Int))] ∧ Mem w w' [some (b6, numI 19 (fun c => (us R c (gi * 3 + kk) : Int)))] []) (fun kk => 3 - kk) 0 ?_ ?_
    · refine ⟨by omega, fun i hi => absurd hi (by omega), hF.sub _ (by repeat' constructor), ?_⟩
      exact hM
    clear hF hM;rintro gj a w' ⟨hgj, hinv2, hF, hM⟩;have hul := us_le (R := R) (k := (R gi gj).natAbs) (q := gi * 3 + gj);refine sr <| st hF (g_lss hF rfl rfl) rfl fun a hF => nt <| sq <| c_cond hF rfl (fun h9 => ?_) (fun h9 => ?_)
    · refine wp_skip ?_
      refine tN <| sq <| wp_block <| sr <| st hF (g_indexSl (i := gj) ty_sl_36 hF rfl rfl rfl (by omega)) rfl fun a hF => st hF (g_loadC ty_on_2 hF rfl (cell_ext (hss.num (gi) (by omega) (gj) (by omega)) hM.below)) rfl fun a hF => ag hF rfl rfl fun a hF => nt <| sq <| sr <| mv hF rfl rfl fun a hF => st hF (g_eql hF rfl rfl) rfl fun a hF => mv hF rfl rfl fun a hF => ?_
      by_cases g10 : (R (gi) (gj) : Int) = 0
      · first | rw [decide_eq_true g10] at hF | simp only [decide_eq_true g10] at hF
        refine stS hF rfl rfl rfl rfl rfl fun a hF => stS hF rfl rfl rfl rfl rfl fun a hF => stS hF rfl rfl rfl rfl rfl fun a hF => stS hF rfl rfl rfl rfl rfl fun a hF => stS hF rfl rfl rfl rfl rfl fun a hF => st hF (g_pickT hF rfl rfl) rfl fun a hF => mv hF rfl rfl fun a hF => stS hF rfl rfl rfl rfl rfl fun a hF => stS hF rfl rfl rfl rfl rfl fun a hF => stS hF rfl rfl rfl rfl rfl fun a hF => stS hF rfl rfl rfl rfl rfl fun a hF => st hF (g_pickT hF rfl rfl) rfl fun a hF => nt <| c_T hF rfl <| sr <| ag hF rfl rfl fun a hF => nt <| wp_ret <| tR <| iR <| tR <| tR <| iR <| iR <| tR <| tR <| iR <| tR <| fin1 rfl hF.defers (res_tmp hF rfl) ⟨_, rfl, hM.below, ?_⟩
        show _ = _
        exact bool_f (fun hq => by first | (exfalso; omega) | (have z := (hq.2.1 gi (by omega)).1; omega) | (have z := (hq.2.1 gi (by omega)).2 gj (by omega); unfold goodP at z; omega))
      first | rw [decide_eq_false g10] at hF | simp only [decide_eq_false g10] at hF
      refine stY hF rfl rfl rfl (g_move hF rfl) rfl fun a hF => stY hF rfl rfl rfl (g_move hF rfl) rfl fun a hF => stYR hF rfl rfl rfl (d_call Try.call33 hF (.cons rfl .nil) (edgesOf_ok _ m _ _ (by omega))) rfl ?_;rintro _ w' a ⟨hx, rfl⟩ hF;have hM := hM.ext hx;refine stY hF rfl rfl rfl (g_neg hF rfl (wrap_i64 (by omega) (by omega))) rfl fun a hF => stY hF rfl rfl rfl (g_lss hF rfl rfl) rfl fun a hF => st hF (g_pickF hF rfl rfl) rfl fun a hF => mv hF rfl rfl fun a hF => ?_
      by_cases g12 : (R (gi) (gj) : Int) < -(((m * 3 / 2 : Nat) : Int))
      · first | rw [decide_eq_true g12] at hF | simp only [decide_eq_true g12] at hF
        refine stS hF rfl rfl rfl rfl rfl fun a hF => stS hF rfl rfl rfl rfl rfl fun a hF => stS hF rfl rfl rfl rfl rfl fun a hF => stS hF rfl rfl rfl rfl rfl fun a hF => st hF (g_pickT hF rfl rfl) rfl fun a hF => nt <| c_T hF rfl <| sr <| ag hF rfl rfl fun a hF => nt <| wp_ret <| tR <| iR <| tR <| tR <| iR <| iR <| tR <| tR <| iR <| tR <| fin1 rfl hF.defers (res_tmp hF rfl) ⟨_, rfl, hM.below, ?_⟩
        show _ = _
        exact bool_f (fun hq => by first | (exfalso; omega) | (have z := (hq.2.1 gi (by omega)).1; omega) | (have z := (hq.2.1 gi (by omega)).2 gj (by omega); unfold goodP at z; omega))
      first | rw [decide_eq_false g12] at hF | simp only [decide_eq_false g12] at hF
      refine stY hF rfl rfl rfl (g_move hF rfl) rfl fun a hF => stY hF rfl rfl rfl (g_move hF rfl) rfl fun a hF => stYR hF rfl rfl rfl (d_call Try.call33 hF (.cons rfl .nil) (edgesOf_ok _ m _ _ (by omega))) rfl ?_;rintro _ w' a ⟨hx, rfl⟩ hF;have hM := hM.ext hx;refine stY hF rfl rfl rfl (g_gtr hF rfl rfl) rfl fun a hF => st hF (g_pickF hF rfl rfl) rfl fun a hF => nt <| c_cond hF rfl (fun h14 => ?_) (fun h14 => ?_)
      · refine sq ?_
        refine wp_region_lit <| ag hF rfl rfl fun a hF => nt <| wp_ret <| tR <| iR <| tR <| tR <| iR <| iR <| tR <| tR <| iR <| tR <| fin1 rfl hF.defers (res_tmp hF rfl) ⟨_, rfl, hM.below, ?_⟩
        show _ = _
        exact bool_f (fun hq => by first | (exfalso; omega) | (have z := (hq.2.1 gi (by omega)).1; omega) | (have z := (hq.2.1 gi (by omega)).2 gj (by omega); unfold goodP at z; omega))
      refine wp_skip <| tN <| wp_region_lit <| mv hF rfl rfl fun a hF => mv hF rfl rfl fun a hF => st hF (g_neg hF rfl (wrap_i64 (by omega) (by omega))) rfl fun a hF => st hF (g_max hF rfl rfl (max_neg _)) rfl fun a hF => st hF (g_indexAddr ty_ar_60 hF rfl rfl rfl (by omega)) rfl fun a hF => st hF (g_load ty_on_3 hF rfl (hM.row 0 rfl) (numI_get (k := (R (gi) (gj)).natAbs) (by omega) (by omega))) rfl fun a hF => st hF (g_add hF rfl rfl (add_nat (us R ((R (gi) (gj)).natAbs) (gi * 3 + gj)) (1) (by omega))) rfl fun a hF => st hF (g_indexAddr ty_ar_60 hF rfl rfl rfl (by omega)) rfl fun a hF => stN hF (d_store 0 hM rfl ty_on_3 hF rfl rfl rfl (by first | omega | (simp only [sz0, grpC_size, numI_size] <;> omega) | simp)) ?_;intro _ w' a hM hF;rw [show (numI 19 (fun c => (us R c (gi * 3 + gj) : Int))).setIfInBounds (0 + ((R (gi) (gj)).natAbs) * 1) (.int .i64 (((us R ((R (gi) (gj)).natAbs) (gi * 3 + gj) + 1 : Nat) : Int))) = numI 19 (fun c => (us R c (gi * 3 + gj + 1) : Int)) from numI_set (k := (R (gi) (gj)).natAbs) (by omega) (fun c _ => by rw [us_step (i := gi) (j := gj) (by omega) rfl c]; split <;> simp_all)] at hM;change Mem w w' [some (b6, numI 19 (fun c => (us R c (gi * 3 + gj + 1) : Int)))] [] at hM;refine wpList_nil <| iN <| tN <| wp_region_lit <| st hF (g_add hF rfl rfl (add_nat (gj) (1) (by omega))) rfl fun a hF => mv hF rfl rfl fun a hF => nt <| ⟨gj + 1, ⟨by omega, allS hinv2 (by unfold goodP; omega), hF.sub _ (by repeat' constructor), ?_⟩, by omega⟩;exact hM.rowc 0 rfl rfl
    obtain rfl : 3 = gj := by omega
    refine wp_exit <| tX <| tX <| ib_same <| iN <| tN <| wp_region_lit <| st hF (g_add hF rfl rfl (add_nat (gi) (1) (by omega))) rfl fun a hF => mv hF rfl rfl fun a hF => nt <| ⟨gi + 1, ⟨by omega, allS hinv1 ⟨hrow, hinv2⟩, hF.sub _ (by repeat' constructor), ?_⟩, by omega⟩;exact hM.rowc 0 rfl (numI_congr fun c hc => by rw [show gi * 3 + 3 = (gi + 1) * 3 by omega])
  obtain rfl : m = gi := by omega
  refine wp_exit <| tX <| tX <| ib_same <| tN <| sr <| st hF (g_sliceArr ty_ua_60 ty_sz_3 (by decide) hF rfl) rfl fun a hF => stR hF (d_call Try.call45 hF (.cons rfl (.cons rfl .nil)) (contains_ok b6 19 (fun c => us R c (m * 3)) _ (hM.row 0 rfl) (by omega) (fun i => by have := us_le (R := R) (k := i) (q := m * 3); show us R i (m * 3) < 1000000; omega))) rfl ?_;rintro _ w' a ⟨hx, rfl⟩ hF;have hM := hM.ext hx;refine st hF (g_notP hF rfl) rfl fun a hF => ag hF rfl rfl fun a hF => nt <| wp_ret <| fin1 rfl hF.defers (res_tmp hF rfl) ⟨_, rfl, hM.below, ?_⟩
  show _ = _
  exact congrArg Value.bool (decide_eq_decide.2 ⟨fun h => ⟨hm, hinv1, (uses_iff hm hinv1).1 (fun k hk => by by_cases q : us R k (m * 3) = 0; exact .inl q; by_cases q2 : us R k (m * 3) = 2; exact .inr q2; exact absurd ⟨k, hk, q, q2⟩ h)⟩, fun h ⟨k, hk, q, q2⟩ => by have z := (uses_iff hm hinv1).2 h.2.2 k hk; omega⟩)
theorem l07Is_M (b o c m : Nat) (Ln : Nat → Nat) (R : Nat → Nat → Int) (xs : Nat → Option Addr) (ca be ob : Nat → Nat) (w : World) (hm : SizeP m) (hss : ArgSS w (.slice (some ⟨b, o, none⟩) m c) m Ln R xs ca be ob) (hcell : ∀ i, i < m → w.cell? ⟨b, o + i * 1, none⟩ = some (.slice (xs i) (Ln i) (ca i))) (hl : ∀ i, i < m → Ln i < 10000000) :
    CallsR Try.prog 24 #[.slice (some ⟨b, o, none⟩) m c] w (fun res _ => res = .bool (decide (SurfP m Ln R))) := by
  refine calls_fr [.slice (some ⟨b, o, none⟩) m c] Try.func24 rfl Try.ntmps24 rfl fun a hF => ?_;have hM : Mem w w [none] [] := MemX.start w 1;change Fr 98 a [(0, .slice (some ⟨b, o, none⟩) m c)] at hF;have hm1 := hm
  unfold SizeP at hm1
  refine sr <| ag hF rfl rfl fun a hF => nt <| sq <| sr <| mv hF rfl rfl fun a hF => st hF (g_len ty_us_22 hF rfl) rfl fun a hF => st hF (g_lss hF rfl rfl) rfl fun a hF => mv hF rfl rfl fun a hF => ?_
  by_cases g1 : ((m : Int) : Int) < 2
  · first | rw [decide_eq_true g1] at hF | simp only [decide_eq_true g1] at hF
    refine stS hF rfl rfl rfl rfl rfl fun a hF => stS hF rfl rfl rfl rfl rfl fun a hF => stS hF rfl rfl rfl rfl rfl fun a hF => st hF (g_pickT hF rfl rfl) rfl fun a hF => mv hF rfl rfl fun a hF => stS hF rfl rfl rfl rfl rfl fun a hF => stS hF rfl rfl rfl rfl rfl fun a hF => stS hF rfl rfl rfl rfl rfl fun a hF => stS hF rfl rfl rfl rfl rfl fun a hF => st hF (g_pickT hF rfl rfl) rfl fun a hF => nt <| c_T hF rfl <| sr <| ag hF rfl rfl fun a hF => nt <| wp_ret <| tR <| fin1 rfl hF.defers (res_tmp hF rfl) ⟨_, rfl, hM.below, ?_⟩
    show _ = _
    exact bool_f (fun hq => by first | (exfalso; omega) | (have z := (hq.2.1 gi (by omega)).1; omega) | (have z := (hq.2.1 gi (by omega)).2 gj (by omega); unfold goodP at z; omega) | (have z := hq.2.2 (gk + 1) (by omega) (by omega); omega))
  first | rw [decide_eq_false g1] at hF | simp only [decide_eq_false g1] at hF
  refine stY hF rfl rfl rfl (g_move hF rfl) rfl fun a hF => stY hF rfl rfl rfl (g_len ty_us_22 hF rfl) rfl fun a hF => stY hF rfl rfl rfl (g_gtr hF rfl rfl) rfl fun a hF => st hF (g_pickF hF rfl rfl) rfl fun a hF => mv hF rfl rfl fun a hF => ?_
  by_cases g3 : 12 < ((m : Int) : Int)
  · first | rw [decide_eq_true g3] at hF | simp only [decide_eq_true g3] at hF
    refine stS hF rfl rfl rfl rfl rfl fun a hF => stS hF rfl rfl rfl rfl rfl fun a hF => stS hF rfl rfl rfl rfl rfl fun a hF => stS hF rfl rfl rfl rfl rfl fun a hF => st hF (g_pickT hF rfl rfl) rfl fun a hF => nt <| c_T hF rfl <| sr <| ag hF rfl rfl fun a hF => nt <| wp_ret <| tR <| fin1 rfl hF.defers (res_tmp hF rfl) ⟨_, rfl, hM.below, ?_⟩
    show _ = _
    exact bool_f (fun hq => by first | (exfalso; omega) | (have z := (hq.2.1 gi (by omega)).1; omega) | (have z := (hq.2.1 gi (by omega)).2 gj (by omega); unfold goodP at z; omega) | (have z := hq.2.2 (gk + 1) (by omega) (by omega); omega))
  first | rw [decide_eq_false g3] at hF | simp only [decide_eq_false g3] at hF
  refine stY hF rfl rfl rfl (g_move hF rfl) rfl fun a hF => stY hF rfl rfl rfl (g_len ty_us_22 hF rfl) rfl fun a hF => stY hF rfl rfl rfl (g_rem hF rfl rfl (by omega) (rem_nat (m) (2))) rfl fun a hF => stY hF rfl rfl rfl (g_neq hF rfl rfl) rfl fun a hF => st hF (g_pickF hF rfl rfl) rfl fun a hF => nt <| c_cond hF rfl (fun h5 => ?_) (fun h5 => ?_)
  · refine sq ?_
    refine wp_region_lit <| ag hF rfl rfl fun a hF => nt <| wp_ret <| tR <| fin1 rfl hF.defers (res_tmp hF rfl) ⟨_, rfl, hM.below, ?_⟩
    show _ = _
    exact bool_f (fun hq => by first | (exfalso; omega) | (have z := (hq.2.1 gi (by omega)).1; omega) | (have z := (hq.2.1 gi (by omega)).2 gj (by omega); unfold goodP at z; omega) | (have z := hq.2.2 (gk + 1) (by omega) (by omega); omega))
  refine wp_skip <| tN <| sr <| mv hF rfl rfl fun a hF => st hF (g_len ty_us_22 hF rfl) rfl fun a hF => st hF (g_mul hF rfl rfl (mul_nat (m) (3) (by omega))) rfl fun a hF => st hF (g_quo hF rfl rfl (by omega) (quo_nat ((m) * (3)) (2) (by omega))) rfl fun a hF => ag hF rfl rfl fun a hF => ns <| mv hF rfl rfl fun a hF => st hF (g_add hF rfl rfl (add_nat (((m) * (3)) / (2)) (1) (by omega))) rfl fun a hF => stR hF (d_make1b (len := m * 3 / 2 + 1) 0 hM hF ty_si_36 rfl rfl rfl (by omega) (by decide)) rfl ?_;rintro _ w' a ⟨b7, rfl, hM, -⟩ hF;refine ag hF rfl rfl fun a hF => nt <| sq <| sr <| ag hF rfl rfl fun a hF => nt <| wp_block ?_;change Mem w _ [some (b7, numI (m * 3 / 2 + 1) (fun _ => 0))] [] at hM;refine c_loop (fun (kk : Nat) a w' => kk ≤ m ∧ (RowsG m kk Ln R) ∧ Fr 98 a [(0, .slice (some ⟨b, o, none⟩) m c), (21, .bool (decide (((((m) % (2) : Nat) : Int) : Int) ≠ 0))), (3, .int .i64 (((((m) * (3)) / (2) : Nat) : Int))), (4, .slice (some ⟨b7, 0, none⟩) (m * 3 / 2 + 1) (m * 3 / 2 + 1)), (5, .int .i64 (kk : Int))] ∧ Mem w w' [some (b7, numI (m * 3 / 2 + 1) (fun c => (us R c (kk * 3) : Int)))] []) (fun kk => m - kk) 0 ?_ ?_
  · refine ⟨by omega, fun i hi => absurd hi (by omega), hF.sub _ (by repeat' constructor), ?_⟩
    exact hM.rowc 0 rfl (numI_congr fun c hc => rfl)
  clear hF hM;rintro gi a w' ⟨hgi, hinv1, hF, hM⟩;have hli := hl gi;refine sq <| sr <| mv hF rfl rfl fun a hF => mv hF rfl rfl fun a hF => st hF (g_len ty_us_22 hF rfl) rfl fun a hF => st hF (g_lss hF rfl rfl) rfl fun a hF => nt <| c_cond hF rfl (fun h8 => ?_) (fun h8 => ?_)
  · refine wp_skip ?_
    refine tN <| sq <| wp_block <| sq <| sr <| mv hF rfl rfl fun a hF => mv hF rfl rfl fun a hF => st hF (g_indexSl (i := gi) ty_sl_22 hF rfl rfl rfl (by omega)) rfl fun a hF => st hF (g_loadC ty_on_36 hF rfl (cell_ext (hcell (gi) (by omega)) hM.below)) rfl fun a hF => st hF (g_lenX ty_us_36 hF rfl) rfl fun a hF => st hF (g_neq hF rfl rfl) rfl fun a hF => nt <| c_cond hF rfl (fun h9 => ?_) (fun h9 => ?_)
    · refine sq ?_
      refine wp_region_lit <| ag hF rfl rfl fun a hF => nt <| wp_ret <| tR <| iR <| tR <| tR <| iR <| tR <| fin1 rfl hF.defers (res_tmp hF rfl) ⟨_, rfl, hM.below, ?_⟩
      show _ = _
      exact bool_f (fun hq => by first | (exfalso; omega) | (have z := (hq.2.1 gi (by omega)).1; omega) | (have z := (hq.2.1 gi (by omega)).2 gj (by omega); unfold goodP at z; omega) | (have z := hq.2.2 (gk + 1) (by omega) (by omega); omega))
    refine wp_skip <| tN <| sr <| ag hF rfl rfl fun a hF => nt <| wp_block ?_;change Mem w _ [some (b7, numI (m * 3 / 2 + 1) (fun c => (us R c (gi * 3) : Int)))] [] at hM;have hrow : Ln gi = 3 := by omega
    refine c_loop (fun (kk : Nat) a w' => kk ≤ 3 ∧ (∀ j, j < kk → goodP m (R gi j)) ∧ Fr 98 a [(0, .slice (some ⟨b, o, none⟩) m c), (21, .bool (decide (((((m) % (2) : Nat) : Int) : Int) ≠ 0))), (3, .int .i64 (((((m) * (3)) / (2) : Nat) : Int))), (4, .slice (some ⟨b7, 0, none⟩) (m * 3 / 2 + 1) (m * 3 / 2 + 1)), (5, .int .i64 (gi : Int)), (29, .int .i64 (gi : Int)), (30, .slice (some ⟨b, o, none⟩) m c), (31, .int .i64 (m : Int)), (32, .bool (decide (((gi : Int) : Int) < (m : Int)))), (35, .slice (some ⟨b, o, none⟩) m c), (36, .int .i64 (gi : Int)), (37, ptr b (o + (gi) * 1)), (38, .slice (xs (gi)) (Ln (gi)) (ca (gi))), (39, .int .i64 ((Ln (gi) : Int))), (40, .bool (decide (((Ln (gi) : Int) : Int) ≠ 3))), (6, .int .i64 (kk : Int))] ∧ Mem w w' [some (b7, numI (m * 3 / 2 + 1) (fun c => (us R c (gi * 3 + kk) : Int)))] []) (fun kk => 3 - kk) 0 ?_ ?_
    · refine ⟨by omega, fun i hi => absurd hi (by omega), hF.sub _ (by repeat' constructor), ?_⟩
      exact hM
    clear hF hM;rintro gj a w' ⟨hgj, hinv2, hF, hM⟩;have hul := us_le (R := R) (k := (R gi gj).natAbs) (q := gi * 3 + gj);refine sq <| sr <| mv hF rfl rfl fun a hF => st hF (g_lss hF rfl rfl) rfl fun a hF => nt <| c_cond hF rfl (fun h10 => ?_) (fun h10 => ?_)
    · refine wp_skip ?_
      refine tN <| sq <| wp_block <| sq <| sr <| mv hF rfl rfl fun a hF => mv hF rfl rfl fun a hF => st hF (g_indexSl (i := gi) ty_sl_22 hF rfl rfl rfl (by omega)) rfl fun a hF => st hF (g_loadC ty_on_36 hF rfl (cell_ext (show _ = some (Value.slice (some ⟨be (gi), ob (gi), none⟩) 3 (ca (gi))) by rw [hcell (gi) (by omega), hss.adr (gi) (by omega) (by omega), hrow]) hM.below)) rfl fun a hF => mv hF rfl rfl fun a hF => st hF (g_indexSl (i := gj) ty_sl_36 hF rfl rfl rfl (by omega)) rfl fun a hF => st hF (g_loadC ty_on_2 hF rfl (cell_ext (hss.num (gi) (by omega) (gj) (by omega)) hM.below)) rfl fun a hF => mv hF rfl rfl fun a hF => st hF (g_neg hF rfl (wrap_i64 (by omega) (by omega))) rfl fun a hF => mv hF rfl rfl fun a hF => stR hF (d_call Try.call31 hF (.cons rfl (.cons rfl (.cons rfl .nil))) (l01In_ok (R (gi) (gj)) (-(((((m) * (3)) / (2) : Nat) : Int))) (((((m) * (3)) / (2) : Nat) : Int)) _)) rfl ?_;rintro _ w' a ⟨hx, rfl⟩ hF;have hM := hM.ext hx;refine st hF (g_notP hF rfl) rfl fun a hF => mv hF rfl rfl fun a hF => ?_
      by_cases g11 : ¬ ((-(((((m) * (3)) / (2) : Nat) : Int)) : Int) ≤ R (gi) (gj) ∧ R (gi) (gj) ≤ ((((m) * (3)) / (2) : Nat) : Int))
      · first | rw [decide_eq_true g11] at hF | simp only [decide_eq_true g11] at hF
        refine stS hF rfl rfl rfl rfl rfl fun a hF => stS hF rfl rfl rfl rfl rfl fun a hF => stS hF rfl rfl rfl rfl rfl fun a hF => stS hF rfl rfl rfl rfl rfl fun a hF => stS hF rfl rfl rfl rfl rfl fun a hF => stS hF rfl rfl rfl rfl rfl fun a hF => stS hF rfl rfl rfl rfl rfl fun a hF => stS hF rfl rfl rfl rfl rfl fun a hF => st hF (g_pickT hF rfl rfl) rfl fun a hF => nt <| c_T hF rfl <| sr <| ag hF rfl rfl fun a hF => nt <| wp_ret <| tR <| iR <| tR <| tR <| iR <| iR <| tR <| tR <| iR <| tR <| fin1 rfl hF.defers (res_tmp hF rfl) ⟨_, rfl, hM.below, ?_⟩
        show _ = _
        exact bool_f (fun hq => by first | (exfalso; omega) | (have z := (hq.2.1 gi (by omega)).1; omega) | (have z := (hq.2.1 gi (by omega)).2 gj (by omega); unfold goodP at z; omega) | (have z := hq.2.2 (gk + 1) (by omega) (by omega); omega))
      first | rw [decide_eq_false g11] at hF | simp only [decide_eq_false g11] at hF
      refine stY hF rfl rfl rfl (g_move hF rfl) rfl fun a hF => stY hF rfl rfl rfl (g_move hF rfl) rfl fun a hF => stY hF rfl rfl rfl (g_indexSl (i := gi) ty_sl_22 hF rfl rfl rfl (by omega)) rfl fun a hF => stY hF rfl rfl rfl (g_loadC ty_on_36 hF rfl (cell_ext (show _ = some (Value.slice (some ⟨be (gi), ob (gi), none⟩) 3 (ca (gi))) by rw [hcell (gi) (by omega), hss.adr (gi) (by omega) (by omega), hrow]) hM.below)) rfl fun a hF => stY hF rfl rfl rfl (g_move hF rfl) rfl fun a hF => stY hF rfl rfl rfl (g_indexSl (i := gj) ty_sl_36 hF rfl rfl rfl (by omega)) rfl fun a hF => stY hF rfl rfl rfl (g_loadC ty_on_2 hF rfl (cell_ext (hss.num (gi) (by omega) (gj) (by omega)) hM.below)) rfl fun a hF => stY hF rfl rfl rfl (g_eql hF rfl rfl) rfl fun a hF => st hF (g_pickF hF rfl rfl) rfl fun a hF => nt <| c_cond hF rfl (fun h13 => ?_) (fun h13 => ?_)
      · refine sq ?_
        refine wp_region_lit <| ag hF rfl rfl fun a hF => nt <| wp_ret <| tR <| iR <| tR <| tR <| iR <| iR <| tR <| tR <| iR <| tR <| fin1 rfl hF.defers (res_tmp hF rfl) ⟨_, rfl, hM.below, ?_⟩
        show _ = _
        exact bool_f (fun hq => by first | (exfalso; omega) | (have z := (hq.2.1 gi (by omega)).1; omega) | (have z := (hq.2.1 gi (by omega)).2 gj (by omega); unfold goodP at z; omega) | (have z := hq.2.2 (gk + 1) (by omega) (by omega); omega))
      refine wp_skip <| tN <| c_par 17 [] [.val (.slice (some ⟨b7, 0, none⟩) (m * 3 / 2 + 1) (m * 3 / 2 + 1)), .val (.slice (some ⟨b, o, none⟩) m c), .val (.int .i64 (gi : Int)), .val (ptr b (o + (gi) * 1)), .val (.slice (some ⟨be (gi), ob (gi), none⟩) (3) (ca (gi))), .val (.int .i64 (gj : Int)), .val (ptr (be (gi)) (ob (gi) + (gj) * 1)), .val (.int .i64 (R (gi) (gj))), .val (.slice (some ⟨b, o, none⟩) m c), .val (.int .i64 (gi : Int)), .val (ptr b (o + (gi) * 1)), .val (.slice (some ⟨be (gi), ob (gi), none⟩) (3) (ca (gi))), .val (.int .i64 (gj : Int)), .val (ptr (be (gi)) (ob (gi) + (gj) * 1)), .val (.int .i64 (R (gi) (gj))), .val (.int .i64 (-(R (gi) (gj)))), .val (.int .i64 ((((R (gi) (gj)).natAbs : Nat) : Int)))] hmix rfl hF rfl hM ⟨fun a w gG hF hS hd => by exact pmv hS rfl hF rfl, fun a w gG hF hS hd => by exact pmv hS rfl hF rfl, fun a w gG hF hS hd => by exact pmv hS rfl hF rfl, fun a w gG hF hS hd => by have hF := hF.ext1 68 (hd 1 rfl rfl); have hF := hF.ext1 69 (hd 2 rfl rfl); exact par_val hS rfl (g_indexSl (i := gi) ty_sl_22 hF rfl rfl rfl (by omega)), fun a w gG hF hS hd => by have hF := hF.ext1 70 (hd 3 rfl rfl); have hM := hS.mem rfl; exact par_val hS rfl (g_loadC ty_on_36 hF rfl (cell_ext (show _ = some (Value.slice (some ⟨be (gi), ob (gi), none⟩) 3 (ca (gi))) by rw [hcell (gi) (by omega), hss.adr (gi) (by omega) (by omega), hrow]) hM.below)), fun a w gG hF hS hd => by exact pmv hS rfl hF rfl, fun a w gG hF hS hd => by have hF := hF.ext1 71 (hd 4 rfl rfl); have hF := hF.ext1 72 (hd 5 rfl rfl); exact par_val hS rfl (g_indexSl (i := gj) ty_sl_36 hF rfl rfl rfl (by omega)), fun a w gG hF hS hd => by have hF := hF.ext1 73 (hd 6 rfl rfl); have hM := hS.mem rfl; exact par_val hS rfl (g_loadC ty_on_2 hF rfl (cell_ext (hss.num (gi) (by omega) (gj) (by omega)) hM.below)), fun a w gG hF hS hd => by exact pmv hS rfl hF rfl, fun a w gG hF hS hd => by exact pmv hS rfl hF rfl, fun a w gG hF hS hd => by have hF := hF.ext1 75 (hd 8 rfl rfl); have hF := hF.ext1 76 (hd 9 rfl rfl); exact par_val hS rfl (g_indexSl (i := gi) ty_sl_22 hF rfl rfl rfl (by omega)), fun a w gG hF hS hd => by have hF := hF.ext1 77 (hd 10 rfl rfl); have hM := hS.mem rfl; exact par_val hS rfl (g_loadC ty_on_36 hF rfl (cell_ext (show _ = some (Value.slice (some ⟨be (gi), ob (gi), none⟩) 3 (ca (gi))) by rw [hcell (gi) (by omega), hss.adr (gi) (by omega) (by omega), hrow]) hM.below)), fun a w gG hF hS hd => by exact pmv hS rfl hF rfl, fun a w gG hF hS hd => by have hF := hF.ext1 78 (hd 11 rfl rfl); have hF := hF.ext1 79 (hd 12 rfl rfl); exact par_val hS rfl (g_indexSl (i := gj) ty_sl_36 hF rfl rfl rfl (by omega)), fun a w gG hF hS hd => by have hF := hF.ext1 80 (hd 13 rfl rfl); have hM := hS.mem rfl; exact par_val hS rfl (g_loadC ty_on_2 hF rfl (cell_ext (hss.num (gi) (by omega) (gj) (by omega)) hM.below)), fun a w gG hF hS hd => by have hF := hF.ext1 81 (hd 14 rfl rfl); exact par_val hS rfl (g_neg hF rfl (wrap_i64 (by omega) (by omega))), fun a w gG hF hS hd => by have hF := hF.ext1 74 (hd 7 rfl rfl); have hF := hF.ext1 82 (hd 15 rfl rfl); exact par_val hS rfl (g_max hF rfl rfl (max_neg _)), trivial⟩ ?_;intro a w' L hF hS hq;have hF := hF.ext1 67 (hq 0 rfl rfl);have hF := hF.ext1 68 (hq 1 rfl rfl);have hF := hF.ext1 69 (hq 2 rfl rfl);have hF := hF.ext1 70 (hq 3 rfl rfl);have hF := hF.ext1 71 (hq 4 rfl rfl);have hF := hF.ext1 72 (hq 5 rfl rfl);have hF := hF.ext1 73 (hq 6 rfl rfl);have hF := hF.ext1 74 (hq 7 rfl rfl);have hF := hF.ext1 75 (hq 8 rfl rfl);have hF := hF.ext1 76 (hq 9 rfl rfl);have hF := hF.ext1 77 (hq 10 rfl rfl);have hF := hF.ext1 78 (hq 11 rfl rfl);have hF := hF.ext1 79 (hq 12 rfl rfl);have hF := hF.ext1 80 (hq 13 rfl rfl);have hF := hF.ext1 81 (hq 14 rfl rfl);have hF := hF.ext1 82 (hq 15 rfl rfl);have hF := hF.ext1 83 (hq 16 rfl rfl);have hM := hS.mem rfl;change wpList Try.prog _ _ [_, _, _, _, _] _ _;refine st hF (g_indexSl (i := (R (gi) (gj)).natAbs) ty_sl_36 hF rfl rfl rfl (by omega)) rfl fun a hF => st hF (g_load ty_on_2 hF rfl (hM.row 0 rfl) (numI_get (k := (R (gi) (gj)).natAbs) (by omega) (by omega))) rfl fun a hF => st hF (g_add hF rfl rfl (add_nat (us R ((R (gi) (gj)).natAbs) (gi * 3 + gj)) (1) (by omega))) rfl fun a hF => st hF (g_indexSl (i := (R (gi) (gj)).natAbs) ty_sl_36 hF rfl rfl rfl (by omega)) rfl fun a hF => stN hF (d_store 0 hM rfl ty_on_2 hF rfl rfl rfl (by first | omega | (simp only [sz0, grpC_size, numI_size] <;> omega) | simp)) ?_
      intro _ w' a hM hF;rw [show (numI (m * 3 / 2 + 1) (fun c => (us R c (gi * 3 + gj) : Int))).setIfInBounds (0 + ((R (gi) (gj)).natAbs) * 1) (.int .i64 (((us R ((R (gi) (gj)).natAbs) (gi * 3 + gj) + 1 : Nat) : Int))) = numI (m * 3 / 2 + 1) (fun c => (us R c (gi * 3 + gj + 1) : Int)) from numI_set (k := (R (gi) (gj)).natAbs) (by omega) (fun c _ => by rw [us_step (i := gi) (j := gj) (by omega) rfl c]; split <;> simp_all)] at hM;change Mem w w' [some (b7, numI (m * 3 / 2 + 1) (fun c => (us R c (gi * 3 + gj + 1) : Int)))] [] at hM;refine wpList_nil <| iN <| tN <| wp_region_lit <| mv hF rfl rfl fun a hF => st hF (g_add hF rfl rfl (add_nat (gj) (1) (by omega))) rfl fun a hF => ag hF rfl rfl fun a hF => nt <| ⟨gj + 1, ⟨by omega, allS hinv2 (by unfold goodP; omega), hF.sub _ (by repeat' constructor), ?_⟩, by omega⟩;exact hM.rowc 0 rfl rfl
    obtain rfl : 3 = gj := by omega
    refine wp_exit <| tX <| tX <| ib_same <| iN <| tN <| wp_region_lit <| mv hF rfl rfl fun a hF => st hF (g_add hF rfl rfl (add_nat (gi) (1) (by omega))) rfl fun a hF => ag hF rfl rfl fun a hF => nt <| ⟨gi + 1, ⟨by omega, allS hinv1 ⟨hrow, hinv2⟩, hF.sub _ (by repeat' constructor), ?_⟩, by omega⟩;exact hM.rowc 0 rfl (numI_congr fun c hc => by rw [show gi * 3 + 3 = (gi + 1) * 3 by omega])
  obtain rfl : m = gi := by omega
  refine wp_exit <| tX <| tX <| ib_same <| tN <| sq <| sr <| ag hF rfl rfl fun a hF => nt <| wp_block ?_;change Mem w _ [some (b7, numI (m * 3 / 2 + 1) (fun c => (us R c (m * 3) : Int)))] [] at hM;refine c_loop (fun (kk : Nat) a w' => kk ≤ m * 3 / 2 ∧ (∀ k, k < kk → us R (k + 1) (m * 3) = 2) ∧ Fr 98 a [(0, .slice (some ⟨b, o, none⟩) m c), (21, .bool (decide (((((m) % (2) : Nat) : Int) : Int) ≠ 0))), (3, .int .i64 (((((m) * (3)) / (2) : Nat) : Int))), (4, .slice (some ⟨b7, 0, none⟩) (m * 3 / 2 + 1) (m * 3 / 2 + 1)), (5, .int .i64 (m : Int)), (29, .int .i64 (m : Int)), (30, .slice (some ⟨b, o, none⟩) m c), (31, .int .i64 (m : Int)), (32, .bool (decide (((m : Int) : Int) < (m : Int)))), (7, .int .i64 (((kk + 1 : Nat) : Int)))] ∧ Mem w w' [some (b7, numI (m * 3 / 2 + 1) (fun c => (us R c (m * 3) : Int)))] []) (fun kk => m * 3 / 2 - kk) 0 ?_ ?_
  · refine ⟨by omega, fun i hi => absurd hi (by omega), hF.sub _ (by repeat' constructor), ?_⟩
    exact hM
  clear hF hM;rintro gk a w' ⟨hgk, hv3, hF, hM⟩;have hul3 := us_le (R := R) (k := gk + 1) (q := m * 3);refine sq <| sr <| mv hF rfl rfl fun a hF => mv hF rfl rfl fun a hF => st hF (g_leq hF rfl rfl) rfl fun a hF => nt <| c_cond hF rfl (fun h14 => ?_) (fun h14 => ?_)
  · refine wp_skip ?_
    refine tN <| sq <| wp_block <| sr <| mv hF rfl rfl fun a hF => mv hF rfl rfl fun a hF => st hF (g_indexSl (i := gk + 1) ty_sl_36 hF rfl rfl rfl (by omega)) rfl fun a hF => st hF (g_load ty_on_2 hF rfl (hM.row 0 rfl) (numI_get (k := gk + 1) (by omega) (by omega))) rfl fun a hF => st hF (g_neq hF rfl rfl) rfl fun a hF => nt <| c_cond hF rfl (fun h15 => ?_) (fun h15 => ?_)
    · refine sq ?_
      refine wp_region_lit <| ag hF rfl rfl fun a hF => nt <| wp_ret <| iR <| tR <| tR <| iR <| tR <| fin1 rfl hF.defers (res_tmp hF rfl) ⟨_, rfl, hM.below, ?_⟩
      show _ = _
      exact bool_f (fun hq => by first | (exfalso; omega) | (have z := (hq.2.1 gi (by omega)).1; omega) | (have z := (hq.2.1 gi (by omega)).2 gj (by omega); unfold goodP at z; omega) | (have z := hq.2.2 (gk + 1) (by omega) (by omega); omega))
    refine wp_skip <| iN <| tN <| wp_region_lit <| mv hF rfl rfl fun a hF => st hF (g_add hF rfl rfl (add_nat (gk + 1) (1) (by omega))) rfl fun a hF => ag hF rfl rfl fun a hF => nt <| ⟨gk + 1, ⟨by omega, allS hv3 (by omega), hF.sub _ (by repeat' constructor), ?_⟩, by omega⟩;exact hM
  obtain rfl : m * 3 / 2 = gk := by omega
  refine wp_exit <| tX <| tX <| ib_same <| tN <| sr <| ag hF rfl rfl fun a hF => nt <| wp_ret <| fin1 rfl hF.defers (res_tmp hF rfl) ⟨_, rfl, hM.below, ?_⟩
  show _ = _
  exact bool_t ⟨hm, hinv1, fun k h1 h2 => by have := hv3 (k - 1) (by omega); rwa [show k - 1 + 1 = k by omega] at this⟩
theorem IsSurface_L (x : Option Addr) (m c : Nat) (w : World) (hm : ¬ SizeP m) (hm2 : m ≤ maxLen) :
    CallsR Try.prog 27 #[.slice x m c] w (fun res _ => res = .bool false) := by
  refine calls_fr [.slice x m c] Try.func27 rfl Try.ntmps27 rfl fun a hF => ?_;have hM : Mem w w [none] [] := MemX.start w 1;change Fr 65 a [(0, .slice x m c)] at hF
  unfold maxLen at hm2
  refine sr <| ag hF rfl rfl fun a hF => nt <| sq <| sr <| mv hF rfl rfl fun a hF => st hF (g_lenX ty_us_22 hF rfl) rfl fun a hF => st hF (g_lss hF rfl rfl) rfl fun a hF => mv hF rfl rfl fun a hF => ?_
  by_cases g1 : ((m : Int) : Int) < 2
  · first | rw [decide_eq_true g1] at hF | simp only [decide_eq_true g1] at hF
    refine stS hF rfl rfl rfl rfl rfl fun a hF => stS hF rfl rfl rfl rfl rfl fun a hF => stS hF rfl rfl rfl rfl rfl fun a hF => st hF (g_pickT hF rfl rfl) rfl fun a hF => mv hF rfl rfl fun a hF => stS hF rfl rfl rfl rfl rfl fun a hF => stS hF rfl rfl rfl rfl rfl fun a hF => stS hF rfl rfl rfl rfl rfl fun a hF => stS hF rfl rfl rfl rfl rfl fun a hF => st hF (g_pickT hF rfl rfl) rfl fun a hF => nt <| c_T hF rfl <| sr <| ag hF rfl rfl fun a hF => nt <| wp_ret <| tR <| fin1 rfl hF.defers (res_tmp hF rfl) ⟨_, rfl, hM.below, ?_⟩
    show _ = _
    rfl
  first | rw [decide_eq_false g1] at hF | simp only [decide_eq_false g1] at hF
  refine stY hF rfl rfl rfl (g_move hF rfl) rfl fun a hF => stY hF rfl rfl rfl (g_lenX ty_us_22 hF rfl) rfl fun a hF => stY hF rfl rfl rfl (g_gtr hF rfl rfl) rfl fun a hF => st hF (g_pickF hF rfl rfl) rfl fun a hF => mv hF rfl rfl fun a hF => ?_
  by_cases g3 : 12 < ((m : Int) : Int)
  · first | rw [decide_eq_true g3] at hF | simp only [decide_eq_true g3] at hF
    refine stS hF rfl rfl rfl rfl rfl fun a hF => stS hF rfl rfl rfl rfl rfl fun a hF => stS hF rfl rfl rfl rfl rfl fun a hF => stS hF rfl rfl rfl rfl rfl fun a hF => st hF (g_pickT hF rfl rfl) rfl fun a hF => nt <| c_T hF rfl <| sr <| ag hF rfl rfl fun a hF => nt <| wp_ret <| tR <| fin1 rfl hF.defers (res_tmp hF rfl) ⟨_, rfl, hM.below, ?_⟩
    show _ = _
    rfl
  first | rw [decide_eq_false g3] at hF | simp only [decide_eq_false g3] at hF
  refine stY hF rfl rfl rfl (g_move hF rfl) rfl fun a hF => stY hF rfl rfl rfl (g_lenX ty_us_22 hF rfl) rfl fun a hF => stY hF rfl rfl rfl (g_rem hF rfl rfl (by omega) (rem_nat (m) (2))) rfl fun a hF => stY hF rfl rfl rfl (g_neq hF rfl rfl) rfl fun a hF => st hF (g_pickF hF rfl rfl) rfl fun a hF => nt <| c_cond hF rfl (fun h5 => ?_) (fun h5 => ?_)
  · refine sq ?_
    refine wp_region_lit <| ag hF rfl rfl fun a hF => nt <| wp_ret <| tR <| fin1 rfl hF.defers (res_tmp hF rfl) ⟨_, rfl, hM.below, ?_⟩
    show _ = _
    rfl
  exfalso; unfold SizeP at hm; omega
theorem l07Is_L (x : Option Addr) (m c : Nat) (w : World) (hm : ¬ SizeP m) (hm2 : m ≤ maxLen) :
    CallsR Try.prog 24 #[.slice x m c] w (fun res _ => res = .bool false) := by
  refine calls_fr [.slice x m c] Try.func24 rfl Try.ntmps24 rfl fun a hF => ?_;have hM : Mem w w [none] [] := MemX.start w 1;change Fr 98 a [(0, .slice x m c)] at hF
  unfold maxLen at hm2
  refine sr <| ag hF rfl rfl fun a hF => nt <| sq <| sr <| mv hF rfl rfl fun a hF => st hF (g_lenX ty_us_22 hF rfl) rfl fun a hF => st hF (g_lss hF rfl rfl) rfl fun a hF => mv hF rfl rfl fun a hF => ?_
  by_cases g1 : ((m : Int) : Int) < 2
  · first | rw [decide_eq_true g1] at hF | simp only [decide_eq_true g1] at hF
    refine stS hF rfl rfl rfl rfl rfl fun a hF => stS hF rfl rfl rfl rfl rfl fun a hF => stS hF rfl rfl rfl rfl rfl fun a hF => st hF (g_pickT hF rfl rfl) rfl fun a hF => mv hF rfl rfl fun a hF => stS hF rfl rfl rfl rfl rfl fun a hF => stS hF rfl rfl rfl rfl rfl fun a hF => stS hF rfl rfl rfl rfl rfl fun a hF => stS hF rfl rfl rfl rfl rfl fun a hF => st hF (g_pickT hF rfl rfl) rfl fun a hF => nt <| c_T hF rfl <| sr <| ag hF rfl rfl fun a hF => nt <| wp_ret <| tR <| fin1 rfl hF.defers (res_tmp hF rfl) ⟨_, rfl, hM.below, ?_⟩
    show _ = _
    rfl
  first | rw [decide_eq_false g1] at hF | simp only [decide_eq_false g1] at hF
  refine stY hF rfl rfl rfl (g_move hF rfl) rfl fun a hF => stY hF rfl rfl rfl (g_lenX ty_us_22 hF rfl) rfl fun a hF => stY hF rfl rfl rfl (g_gtr hF rfl rfl) rfl fun a hF => st hF (g_pickF hF rfl rfl) rfl fun a hF => mv hF rfl rfl fun a hF => ?_
  by_cases g3 : 12 < ((m : Int) : Int)
  · first | rw [decide_eq_true g3] at hF | simp only [decide_eq_true g3] at hF
    refine stS hF rfl rfl rfl rfl rfl fun a hF => stS hF rfl rfl rfl rfl rfl fun a hF => stS hF rfl rfl rfl rfl rfl fun a hF => stS hF rfl rfl rfl rfl rfl fun a hF => st hF (g_pickT hF rfl rfl) rfl fun a hF => nt <| c_T hF rfl <| sr <| ag hF rfl rfl fun a hF => nt <| wp_ret <| tR <| fin1 rfl hF.defers (res_tmp hF rfl) ⟨_, rfl, hM.below, ?_⟩
    show _ = _
    rfl
  first | rw [decide_eq_false g3] at hF | simp only [decide_eq_false g3] at hF
  refine stY hF rfl rfl rfl (g_move hF rfl) rfl fun a hF => stY hF rfl rfl rfl (g_lenX ty_us_22 hF rfl) rfl fun a hF => stY hF rfl rfl rfl (g_rem hF rfl rfl (by omega) (rem_nat (m) (2))) rfl fun a hF => stY hF rfl rfl rfl (g_neq hF rfl rfl) rfl fun a hF => st hF (g_pickF hF rfl rfl) rfl fun a hF => nt <| c_cond hF rfl (fun h5 => ?_) (fun h5 => ?_)
  · refine sq ?_
    refine wp_region_lit <| ag hF rfl rfl fun a hF => nt <| wp_ret <| tR <| fin1 rfl hF.defers (res_tmp hF rfl) ⟨_, rfl, hM.below, ?_⟩
    show _ = _
    rfl
  exfalso; unfold SizeP at hm; omega
end Go.Proofs.Ytfakhcmamdefiaa
