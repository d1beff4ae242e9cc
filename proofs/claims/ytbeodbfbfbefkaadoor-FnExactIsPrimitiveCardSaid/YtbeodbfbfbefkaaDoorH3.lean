/- What functions of the program return, as walks over their operations; no statement of the seat is proved here. -/
import Derived.Test.YtbeodbfbfbefkaaDoorH2
import Derived.Test.YtbeodbfbfbefkaaDoorEch3
set_option linter.unusedVariables false
set_option linter.unusedSimpArgs false
namespace Go.Proofs.YtbeodbfbfbefkaaDoor
open Go Go.RowKit Go.Sw Go.Ech
theorem sumTo_sI (f : Nat → Nat) (n : Nat) : ((sumTo f n : Nat) : Int) = sI (fun i => (f i : Int)) n := by
  induction n with
  | zero => rfl
  | succ n ih => simp only [sumTo, sI, Int.natCast_add, ih]
theorem prodI_left {n i c : Nat} {T : Nat → Nat → Nat → Nat} {x : Nat → Nat} (hi : i < n) : ((prodI T (fun c => if c = i then 1 else 0) x n n c : Nat) : Int) = sI (fun b => (x b : Int) * (T i b c : Int)) n := by
  unfold prodI
  rw [sumTo_sI, sI_one hi]
  · rw [sumTo_sI]; exact sI_congr fun b _ => by simp
  · intro j _ hne; rw [sumTo_sI]; exact sI_zero fun b _ => by simp [hne]
theorem prodI_right {n i c : Nat} {T : Nat → Nat → Nat → Nat} {x : Nat → Nat} (hi : i < n) : ((prodI T x (fun c => if c = i then 1 else 0) n n c : Nat) : Int) = sI (fun a => (x a : Int) * (T a i c : Int)) n := by
  unfold prodI
  rw [sumTo_sI]
  refine sI_congr fun a _ => ?_
  rw [sumTo_sI, sI_one hi]
  · simp
  · intro j _ hne; simp [hne]
theorem dl_if {i c : Nat} : (if c = i then 1 else 0) = dl i c := by unfold dl; by_cases h : i = c <;> simp [h]; exact fun e => absurd e.symm h
theorem dl_lt {i c p : Nat} (hp : 2 ≤ p) : dl i c < p := by unfold dl; split <;> omega
theorem timesV_left {p n i c : Nat} {T : Nat → Nat → Nat → Nat} {x : Nat → Nat} (hp : 2 ≤ p) (hi : i < n) : timesV p n T (fun c => if c = i then 1 else 0) x c = dl i c ↔ (p : Int) ∣ sI (fun b => (x b : Int) * (T i b c : Int)) n - (dl i c : Int) := by
  rw [← prodI_left hi, dvd_iff_mod (dl_lt hp)]; rfl
theorem timesS_left {p n i : Nat} {T : Nat → Nat → Nat → Nat} {x : Nat → Nat} (hp : 2 ≤ p) (hi : i < n) (hn : n ≤ 6) : eqV 6 (timesS p n T (fun c => if c = i then 1 else 0) x) (fun c => if c = i then 1 else 0) ↔ ∀ c, c < n → (p : Int) ∣ sI (fun b => (x b : Int) * (T i b c : Int)) n - (dl i c : Int) := by
  constructor
  · intro h c hc
    have := h c (by omega)
    dsimp only at this
    unfold timesS at this
    rw [if_pos hc, dl_if] at this
    exact (timesV_left hp hi).1 this
  · intro h c _
    dsimp only
    unfold timesS
    by_cases hc : c < n
    · rw [if_pos hc, dl_if]; exact (timesV_left hp hi).2 (h c hc)
    · rw [if_neg hc, if_neg (by omega)]
theorem fM_lt {p n : Nat} {T : Nat → Nat → Nat → Nat} (hp : 2 ≤ p) (hT : ∀ i j k, T i j k < p) : ∀ r c, fM n T r c < p := fun r c => by
  unfold fM; split
  · exact hT _ _ _
  · split <;> omega
theorem fM_row {n i k c : Nat} {T : Nat → Nat → Nat → Nat} (hk : k < n) : fM n T (i * n + k) c = if c < n then T c i k else dl i k := by
  have e1 : (i * n + k) / n = i := by rw [Nat.mul_comm, Nat.mul_add_div (by omega), Nat.div_eq_of_lt hk]; omega
  have e2 : (i * n + k) % n = k := by rw [Nat.mul_comm, Nat.mul_add_mod, Nat.mod_eq_of_lt hk]
  unfold fM; rw [e1, e2]; rfl

theorem l01Find_ok (p n : Nat) (T : Nat → Nat → Nat → Nat) (f : Nat → Nat) (w : World) (hp : primeN p) (hn0 : 0 < n) (hn : n ≤ 6) (hTp : ∀ i j k, T i j k < p) :
    CallsR Tryd.prog 58 #[.agg (algC (p : Int) (n : Int) T f)] w (fun res _ => (∃ u, UnitI p n T u ∧ res = .tuple #[.agg (vecC u), .bool true]) ∨ ((∀ u, ¬ UnitI p n T u) ∧ res = .tuple #[.agg (vecC (fun _ => 0)), .bool false])) := by
  refine calls_fr [.agg (algC (p : Int) (n : Int) T f)] Tryd.func58 rfl Tryd.ntmps58 rfl fun a hF => ?_
  have hM : Mem w w [none, none, none, none, none, none, none, none, none] [] := MemX.start w 9
  change Fr 99 a [(0, .agg (algC (p : Int) (n : Int) T f))] at hF
  have hp2 := hp.two
  have hp13 := hp.le
  have hT : ∀ i j k, T i j k ≤ 255 := fun i j k => by have := hTp i j k; omega
  refine sq (wp_region_lit ?_)
  refine stR hF (d_box 0 hM hF rfl) rfl ?_
  rintro _ w' a ⟨b1, rfl, hM, -⟩ hF
  change Mem w w' [some (b1, algC (p : Int) (n : Int) T f), none, none, none, none, none, none, none, none] [] at hM
  refine stR hF (d_alloc 1 hM ty_ze_30) rfl ?_
  rintro _ w' a ⟨b2, rfl, hM, -⟩ hF
  change Mem w w' [some (b1, algC (p : Int) (n : Int) T f), some (b2, fnC 6 (fun _ => .int .u8 (0))), none, none, none, none, none, none, none] [] at hM
  refine st hF (g_assign hF rfl) rfl fun a hF => ?_
  refine wpList_nil (tN (sq (wp_region_lit ?_)))
  refine stR hF (d_buildC 2 hM hF rfl ty_bs0_73) rfl ?_
  rintro _ w' a ⟨b3, rfl, hM, -⟩ hF
  change Mem w w' [some (b1, algC (p : Int) (n : Int) T f), some (b2, fnC 6 (fun _ => .int .u8 (0))), some (b3, #[]), none, none, none, none, none, none] [] at hM
  refine st hF (g_assign hF rfl) rfl fun a hF => ?_
  refine wpList_nil (tN (sq (sq (wp_region_lit ?_))))
  refine st hF (g_assign hF rfl) rfl fun a hF => ?_
  refine wpList_nil (tN (wp_block ?_))
  change Mem w _ [some (b1, algC (p : Int) (n : Int) T f), some (b2, fnC 6 (fun _ => .int .u8 (0))), some (b3, #[]), none, none, none, none, none, none] [] at hM
  refine c_loop (fun (kk : Nat) a w' => kk ≤ n ∧ ∃ (D1 : Froz), ∃ (β : Nat → Nat), ∃ (κ : Nat → Nat), ∃ (C : Nat → Array Value), (RowsD D1 (n + 1) (kk * n) β κ C (fun i c => .int .i64 ((fM n T i c : Nat) : Int))) ∧ ∃ (u4_1 : Value) (e4_1 : Option (Nat × Array Value)), Sl 1 u4_1 e4_1 (kk * n) (fun i => .slice (some ⟨β i, 0, none⟩) (n + 1) (κ i)) ∧ Fr 99 a [(0, .agg (algC (p : Int) (n : Int) T f)), (1, ptr b1 (0)), (2, ptr b2 (0)), (3, .bool (false)), (14, .slice (some ⟨b3, 0, none⟩) (0) (0)), (5, .int .i64 (((kk : Nat) : Int))), (4, u4_1)] ∧ Mem w w' [some (b1, algC (p : Int) (n : Int) T f), some (b2, fnC 6 (fun _ => .int .u8 (0))), e4_1, none, none, none, none, none, none] D1) (fun kk => n - kk) 0 ?_ ?_
  ·
   refine ⟨by omega, [], (fun _ => 0), (fun _ => 0), (fun _ => #[]), (by rw [Nat.zero_mul]; exact RowsD.none), (.slice (some ⟨b3, 0, none⟩) (0) (0)), (some (b3, #[])), (by rw [Nat.zero_mul]; exact Sl.empty _ _ _), hF.sub _ (by repeat' constructor), ?_⟩
   exact hM
  ·
   clear hF hM
   rintro gi a w' ⟨hgi, D1, β, κ, C, hR, u4_1, e4_1, hsl, hF, hM⟩
   have hgin := Nat.le_trans (Nat.mul_le_mul_right n hgi) (Nat.mul_le_mul hn hn)
   refine sq (sq (wp_region_lit ?_))
   refine st hF (g_move hF rfl) rfl fun a hF => st hF (g_fieldAddr ty_fo_32_1 hF rfl) rfl fun a hF => st hF (g_load ty_on_2 hF rfl (hM.row 0 rfl) (algC_n (by omega))) rfl fun a hF => st hF (g_lss hF rfl rfl) rfl fun a hF => ?_
   refine wpList_nil (tN ?_)
   refine c_cond hF rfl (fun h4 => ?_) (fun h4 => ?_)
   ·
    refine wp_skip (tN (sq (wp_block (sq (wp_region_lit ?_)))))
    refine st hF (g_assign hF rfl) rfl fun a hF => ?_
    refine wpList_nil (tN (wp_block ?_))
    change Mem w _ [some (b1, algC (p : Int) (n : Int) T f), some (b2, fnC 6 (fun _ => .int .u8 (0))), e4_1, none, none, none, none, none, none] D1 at hM
    refine c_loop (fun (kk : Nat) a w' => kk ≤ n ∧ ∃ (D2 : Froz), ∃ (β2 : Nat → Nat), ∃ (κ2 : Nat → Nat), ∃ (C2 : Nat → Array Value), (RowsD D2 (n + 1) (gi * n + kk) β2 κ2 C2 (fun i c => .int .i64 ((fM n T i c : Nat) : Int))) ∧ ∃ (u4_2 : Value) (e4_2 : Option (Nat × Array Value)), Sl 1 u4_2 e4_2 (gi * n + kk) (fun i => .slice (some ⟨β2 i, 0, none⟩) (n + 1) (κ2 i)) ∧ Fr 99 a [(0, .agg (algC (p : Int) (n : Int) T f)), (1, ptr b1 (0)), (2, ptr b2 (0)), (3, .bool (false)), (14, .slice (some ⟨b3, 0, none⟩) (0) (0)), (5, .int .i64 (((gi : Nat) : Int))), (15, .int .i64 (((gi : Nat) : Int))), (16, ptr b1 (0 + 1)), (17, .int .i64 (((n : Nat) : Int))), (18, .bool (decide ((((gi : Nat) : Int) : Int) < ((n : Nat) : Int)))), (6, .int .i64 (((kk : Nat) : Int))), (4, u4_2)] ∧ Mem w w' [some (b1, algC (p : Int) (n : Int) T f), some (b2, fnC 6 (fun _ => .int .u8 (0))), e4_2, none, none, none, none, none, none] D2) (fun kk => n - kk) 0 ?_ ?_
    ·
     refine ⟨by omega, D1, β, κ, C, hR, (u4_1), (e4_1), hsl, hF.sub _ (by repeat' constructor), ?_⟩
     exact hM
    ·
     clear hF hM
     rintro gk a w' ⟨hgk, D2, β2, κ2, C2, hR2, u4_2, e4_2, hsl, hF, hM⟩
     refine sq (sq (wp_region_lit ?_))
     refine st hF (g_move hF rfl) rfl fun a hF => st hF (g_fieldAddr ty_fo_32_1 hF rfl) rfl fun a hF => st hF (g_load ty_on_2 hF rfl (hM.row 0 rfl) (algC_n (by omega))) rfl fun a hF => st hF (g_lss hF rfl rfl) rfl fun a hF => ?_
     refine wpList_nil (tN ?_)
     refine c_cond hF rfl (fun h5 => ?_) (fun h5 => ?_)
     ·
      refine wp_skip (tN (sq (wp_block (sq (wp_region_lit ?_)))))
      refine stR hF (d_buildC 3 hM hF rfl ty_bs0_70) rfl ?_
      rintro _ w' a ⟨b6, rfl, hM, -⟩ hF
      change Mem w w' [some (b1, algC (p : Int) (n : Int) T f), some (b2, fnC 6 (fun _ => .int .u8 (0))), e4_2, some (b6, #[]), none, none, none, none, none] D2 at hM
      refine st hF (g_assign hF rfl) rfl fun a hF => ?_
      refine wpList_nil (tN (sq (sq (wp_region_lit ?_))))
      refine st hF (g_assign hF rfl) rfl fun a hF => ?_
      refine wpList_nil (tN (wp_block ?_))
      change Mem w _ [some (b1, algC (p : Int) (n : Int) T f), some (b2, fnC 6 (fun _ => .int .u8 (0))), e4_2, some (b6, #[]), none, none, none, none, none] D2 at hM
      refine c_loop (fun (kk : Nat) a w' => kk ≤ n ∧ (True) ∧ ∃ (u7_3 : Value) (e7_3 : Option (Nat × Array Value)), Sl 1 u7_3 e7_3 (kk) (fun c => .int .i64 ((T c gi gk : Nat) : Int)) ∧ Fr 99 a [(0, .agg (algC (p : Int) (n : Int) T f)), (1, ptr b1 (0)), (2, ptr b2 (0)), (3, .bool (false)), (14, .slice (some ⟨b3, 0, none⟩) (0) (0)), (5, .int .i64 (((gi : Nat) : Int))), (15, .int .i64 (((gi : Nat) : Int))), (16, ptr b1 (0 + 1)), (17, .int .i64 (((n : Nat) : Int))), (18, .bool (decide ((((gi : Nat) : Int) : Int) < ((n : Nat) : Int)))), (6, .int .i64 (((gk : Nat) : Int))), (4, u4_2), (21, .int .i64 (((gk : Nat) : Int))), (22, ptr b1 (0 + 1)), (23, .int .i64 (((n : Nat) : Int))), (24, .bool (decide ((((gk : Nat) : Int) : Int) < ((n : Nat) : Int)))), (27, .slice (some ⟨b6, 0, none⟩) (0) (0)), (8, .int .i64 (((kk : Nat) : Int))), (7, u7_3)] ∧ Mem w w' [some (b1, algC (p : Int) (n : Int) T f), some (b2, fnC 6 (fun _ => .int .u8 (0))), e4_2, e7_3, none, none, none, none, none] D2) (fun kk => n - kk) 0 ?_ ?_
      ·
       refine ⟨by omega, trivial, (.slice (some ⟨b6, 0, none⟩) (0) (0)), (some (b6, #[])), Sl.empty _ _ _, hF.sub _ (by repeat' constructor), ?_⟩
       exact hM
      ·
       clear hF hM
       rintro gj a w' ⟨hgj, hinv3, u7_3, e7_3, hrow, hF, hM⟩
       have htb := hT gj gi gk
       refine sq (sq (wp_region_lit ?_))
       refine st hF (g_move hF rfl) rfl fun a hF => st hF (g_fieldAddr ty_fo_32_1 hF rfl) rfl fun a hF => st hF (g_load ty_on_2 hF rfl (hM.row 0 rfl) (algC_n (by omega))) rfl fun a hF => st hF (g_lss hF rfl rfl) rfl fun a hF => ?_
       refine wpList_nil (tN ?_)
       refine c_cond hF rfl (fun h7 => ?_) (fun h7 => ?_)
       ·
        refine wp_skip (tN (sq (wp_block (wp_region_lit ?_))))
        refine st hF (g_move hF rfl) rfl fun a hF => st hF (g_move hF rfl) rfl fun a hF => st hF (g_move hF rfl) rfl fun a hF => st hF (g_move hF rfl) rfl fun a hF => st hF (g_fieldAddr ty_fo_32_2 hF rfl) rfl fun a hF => st hF (g_indexAddr ty_ar_24 hF rfl rfl rfl (by omega)) rfl fun a hF => st hF (g_indexAddr ty_ar_23 hF rfl rfl rfl (by omega)) rfl fun a hF => st hF (g_indexAddr ty_ar_22 hF rfl rfl rfl (by omega)) rfl fun a hF => st hF (g_load ty_on_5 hF rfl (hM.row 0 rfl) (algC_T (gj) (gi) (gk) (by omega) (by omega) (by omega) (by omega))) rfl fun a hF => st hF (g_conv ty_un_2 ty_ud_5 hF rfl (wrap_i64 (by omega) (by omega))) rfl fun a hF => ?_
        refine stR hF (d_buildC 4 hM hF (build1 hF rfl) (ty_bs1_70 _)) rfl ?_
        rintro _ w' a ⟨b8, rfl, hM, -⟩ hF
        change Mem w w' [some (b1, algC (p : Int) (n : Int) T f), some (b2, fnC 6 (fun _ => .int .u8 (0))), e4_2, e7_3, some (b8, #[.int .i64 (((T (gj) (gi) (gk) : Nat) : Int))]), none, none, none, none] D2 at hM
        refine stR hF (d_append (k := 3) (m := 1) (g := fun _ => .int .i64 (((T (gj) (gi) (gk) : Nat) : Int))) ty_si_70 rfl (by decide) hM rfl hF rfl rfl hrow (fun i hi => by rw [show i = 0 by omega]; exact (hM.row 4 rfl).cell 0) (fun _ _ => rfl) (by decide) (by unfold maxLen; omega) (by omega)) rfl ?_
        rintro u9 w' a ⟨e10, hM, hs11⟩ hF
        change Mem w w' [some (b1, algC (p : Int) (n : Int) T f), some (b2, fnC 6 (fun _ => .int .u8 (0))), e4_2, e10, some (b8, #[.int .i64 (((T (gj) (gi) (gk) : Nat) : Int))]), none, none, none, none] D2 at hM
        refine st hF (g_assign hF rfl) rfl fun a hF => ?_
        refine wpList_nil (iN (tN (wp_region_lit ?_)))
        refine st hF (g_move hF rfl) rfl fun a hF => st hF (g_add hF rfl rfl (add_nat (gj) (1) (by omega))) rfl fun a hF => st hF (g_assign hF rfl) rfl fun a hF => ?_
        refine wpList_nil (tN ?_)
        have hM := hM.drop 4
        refine ⟨gj + 1, ⟨by omega, trivial, (u9), (e10), hs11.snoc rfl, hF.sub _ (by repeat' constructor), ?_⟩, by omega⟩
        exact hM
       ·
        obtain rfl : n = gj := by omega
        refine wp_exit (tX (tX ?_))
        refine ib_same ?_
        refine tN (sq (sq (wp_region_lit ?_)))
        refine st hF (g_move hF rfl) rfl fun a hF => st hF (g_move hF rfl) rfl fun a hF => st hF (g_eql hF rfl rfl) rfl fun a hF => ?_
        refine wpList_nil (tN ?_)
        refine c_cond hF rfl (fun h12 => ?_) (fun h12 => ?_)
        ·
         refine wp_region_lit ?_
         refine st hF (g_move hF rfl) rfl fun a hF => ?_
         refine stR hF (d_buildC 5 hM hF (build1 hF rfl) (ty_bs1_70 _)) rfl ?_
         rintro _ w' a ⟨b13, rfl, hM, -⟩ hF
         change Mem w w' [some (b1, algC (p : Int) (n : Int) T f), some (b2, fnC 6 (fun _ => .int .u8 (0))), e4_2, e7_3, none, some (b13, #[.int .i64 (1)]), none, none, none] D2 at hM
         refine stR hF (d_append (k := 3) (m := 1) (g := fun _ => .int .i64 (1)) ty_si_70 rfl (by decide) hM rfl hF rfl rfl hrow (fun i hi => by rw [show i = 0 by omega]; exact (hM.row 5 rfl).cell 0) (fun _ _ => rfl) (by decide) (by unfold maxLen; omega) (by omega)) rfl ?_
         rintro u14 w' a ⟨e15, hM, hs16⟩ hF
         change Mem w w' [some (b1, algC (p : Int) (n : Int) T f), some (b2, fnC 6 (fun _ => .int .u8 (0))), e4_2, e15, none, some (b13, #[.int .i64 (1)]), none, none, none] D2 at hM
         refine st hF (g_assign hF rfl) rfl fun a hF => ?_
         refine wpList_nil (tN ?_)
         obtain ⟨bR, capR, csR, rfl, rfl, hsR⟩ := hs16.pos (by omega)
         have hsR := hsR.congr (g := fun c => .int .i64 ((fM n T (gi * n + gk) c : Nat) : Int)) (fun c hc => by
           rw [fM_row (by omega)]
           by_cases e : c < n
           · rw [if_pos (by omega), if_pos e]
           · rw [if_neg (by omega), if_neg e]; first | rfl | (unfold dl; rw [if_pos (by omega)]; rfl) | (unfold dl; rw [if_neg (by omega)]; rfl))
         have hM := hM.freeze 3 rfl
         have hR2 := (hR2.more (D' := (bR, csR) :: D2) (fun x hx => List.mem_cons_of_mem _ hx)).snoc (List.mem_cons_self ..) hsR
         change Mem w _ [some (b1, algC (p : Int) (n : Int) T f), some (b2, fnC 6 (fun _ => .int .u8 (0))), e4_2, none, none, some (b13, #[.int .i64 (1)]), none, none, none] ((bR, csR) :: D2) at hM
         refine wp_region_lit ?_
         refine st hF (g_move hF rfl) rfl fun a hF => st hF (g_move hF rfl) rfl fun a hF => ?_
         refine stR hF (d_buildC 7 hM hF (build1 hF rfl) (ty_bsv_73 _ _ _)) rfl ?_
         rintro _ w' a ⟨b17, rfl, hM, -⟩ hF
         change Mem w w' [some (b1, algC (p : Int) (n : Int) T f), some (b2, fnC 6 (fun _ => .int .u8 (0))), e4_2, none, none, some (b13, #[.int .i64 (1)]), none, some (b17, #[.slice (some ⟨bR, 0, none⟩) ((n + 1)) (capR)]), none] ((bR, csR) :: D2) at hM
         refine stR hF (d_append (k := 2) (m := 1) (g := fun _ => .slice (some ⟨bR, 0, none⟩) ((n + 1)) (capR)) ty_si_73 rfl (by decide) hM rfl hF rfl rfl hsl (fun i hi => by rw [show i = 0 by omega]; exact (hM.row 7 rfl).cell 0) (fun _ _ => rfl) (by decide) (by unfold maxLen; omega) (by omega)) rfl ?_
         rintro u18 w' a ⟨e19, hM, hs20⟩ hF
         change Mem w w' [some (b1, algC (p : Int) (n : Int) T f), some (b2, fnC 6 (fun _ => .int .u8 (0))), e19, none, none, some (b13, #[.int .i64 (1)]), none, some (b17, #[.slice (some ⟨bR, 0, none⟩) ((n + 1)) (capR)]), none] ((bR, csR) :: D2) at hM
         refine st hF (g_assign hF rfl) rfl fun a hF => ?_
         refine wpList_nil (iN (tN (wp_region_lit ?_)))
         refine st hF (g_move hF rfl) rfl fun a hF => st hF (g_add hF rfl rfl (add_nat (gk) (1) (by omega))) rfl fun a hF => st hF (g_assign hF rfl) rfl fun a hF => ?_
         refine wpList_nil (tN ?_)
         have hsl := hs20.snocR
         have hR2 := hR2.congr (g := fun i c => .int .i64 ((fM n T i c : Nat) : Int)) (fun i hi c hc => by
           by_cases e : i = gi * n + gk
           · rw [e]; simp only [up_eq]
           · simp only [up_ne e])
         have hM := hM.drop 5
         have hM := hM.drop 7
         refine ⟨gk + 1, ⟨by omega, ((bR, csR) :: D2), (up β2 (gi * n + gk) bR), (up κ2 (gi * n + gk) capR), (up C2 (gi * n + gk) csR), hR2, (u18), (e19), hsl, hF.sub _ (by repeat' constructor), ?_⟩, by omega⟩
         exact hM
        ·
         refine wp_region_lit ?_
         refine st hF (g_move hF rfl) rfl fun a hF => ?_
         refine stR hF (d_buildC 6 hM hF (build1 hF rfl) (ty_bs1_70 _)) rfl ?_
         rintro _ w' a ⟨b21, rfl, hM, -⟩ hF
         change Mem w w' [some (b1, algC (p : Int) (n : Int) T f), some (b2, fnC 6 (fun _ => .int .u8 (0))), e4_2, e7_3, none, none, some (b21, #[.int .i64 (0)]), none, none] D2 at hM
         refine stR hF (d_append (k := 3) (m := 1) (g := fun _ => .int .i64 (0)) ty_si_70 rfl (by decide) hM rfl hF rfl rfl hrow (fun i hi => by rw [show i = 0 by omega]; exact (hM.row 6 rfl).cell 0) (fun _ _ => rfl) (by decide) (by unfold maxLen; omega) (by omega)) rfl ?_
         rintro u22 w' a ⟨e23, hM, hs24⟩ hF
         change Mem w w' [some (b1, algC (p : Int) (n : Int) T f), some (b2, fnC 6 (fun _ => .int .u8 (0))), e4_2, e23, none, none, some (b21, #[.int .i64 (0)]), none, none] D2 at hM
         refine st hF (g_assign hF rfl) rfl fun a hF => ?_
         refine wpList_nil (tN ?_)
         obtain ⟨bR, capR, csR, rfl, rfl, hsR⟩ := hs24.pos (by omega)
         have hsR := hsR.congr (g := fun c => .int .i64 ((fM n T (gi * n + gk) c : Nat) : Int)) (fun c hc => by
           rw [fM_row (by omega)]
           by_cases e : c < n
           · rw [if_pos (by omega), if_pos e]
           · rw [if_neg (by omega), if_neg e]; first | rfl | (unfold dl; rw [if_pos (by omega)]; rfl) | (unfold dl; rw [if_neg (by omega)]; rfl))
         have hM := hM.freeze 3 rfl
         have hR2 := (hR2.more (D' := (bR, csR) :: D2) (fun x hx => List.mem_cons_of_mem _ hx)).snoc (List.mem_cons_self ..) hsR
         change Mem w _ [some (b1, algC (p : Int) (n : Int) T f), some (b2, fnC 6 (fun _ => .int .u8 (0))), e4_2, none, none, none, some (b21, #[.int .i64 (0)]), none, none] ((bR, csR) :: D2) at hM
         refine wp_region_lit ?_
         refine st hF (g_move hF rfl) rfl fun a hF => st hF (g_move hF rfl) rfl fun a hF => ?_
         refine stR hF (d_buildC 7 hM hF (build1 hF rfl) (ty_bsv_73 _ _ _)) rfl ?_
         rintro _ w' a ⟨b25, rfl, hM, -⟩ hF
         change Mem w w' [some (b1, algC (p : Int) (n : Int) T f), some (b2, fnC 6 (fun _ => .int .u8 (0))), e4_2, none, none, none, some (b21, #[.int .i64 (0)]), some (b25, #[.slice (some ⟨bR, 0, none⟩) ((n + 1)) (capR)]), none] ((bR, csR) :: D2) at hM
         refine stR hF (d_append (k := 2) (m := 1) (g := fun _ => .slice (some ⟨bR, 0, none⟩) ((n + 1)) (capR)) ty_si_73 rfl (by decide) hM rfl hF rfl rfl hsl (fun i hi => by rw [show i = 0 by omega]; exact (hM.row 7 rfl).cell 0) (fun _ _ => rfl) (by decide) (by unfold maxLen; omega) (by omega)) rfl ?_
         rintro u26 w' a ⟨e27, hM, hs28⟩ hF
         change Mem w w' [some (b1, algC (p : Int) (n : Int) T f), some (b2, fnC 6 (fun _ => .int .u8 (0))), e27, none, none, none, some (b21, #[.int .i64 (0)]), some (b25, #[.slice (some ⟨bR, 0, none⟩) ((n + 1)) (capR)]), none] ((bR, csR) :: D2) at hM
         refine st hF (g_assign hF rfl) rfl fun a hF => ?_
         refine wpList_nil (iN (tN (wp_region_lit ?_)))
         refine st hF (g_move hF rfl) rfl fun a hF => st hF (g_add hF rfl rfl (add_nat (gk) (1) (by omega))) rfl fun a hF => st hF (g_assign hF rfl) rfl fun a hF => ?_
         refine wpList_nil (tN ?_)
         have hsl := hs28.snocR
         have hR2 := hR2.congr (g := fun i c => .int .i64 ((fM n T i c : Nat) : Int)) (fun i hi c hc => by
           by_cases e : i = gi * n + gk
           · rw [e]; simp only [up_eq]
           · simp only [up_ne e])
         have hM := hM.drop 6
         have hM := hM.drop 7
         refine ⟨gk + 1, ⟨by omega, ((bR, csR) :: D2), (up β2 (gi * n + gk) bR), (up κ2 (gi * n + gk) capR), (up C2 (gi * n + gk) csR), hR2, (u26), (e27), hsl, hF.sub _ (by repeat' constructor), ?_⟩, by omega⟩
         exact hM
     ·
      obtain rfl : n = gk := by omega
      refine wp_exit (tX (tX ?_))
      refine ib_same ?_
      refine iN (tN (wp_region_lit ?_))
      refine st hF (g_move hF rfl) rfl fun a hF => st hF (g_add hF rfl rfl (add_nat (gi) (1) (by omega))) rfl fun a hF => st hF (g_assign hF rfl) rfl fun a hF => ?_
      refine wpList_nil (tN ?_)
      refine ⟨gi + 1, ⟨by omega, D2, β2, κ2, C2, (by rw [Nat.succ_mul]; exact hR2), (u4_2), (e4_2), (by rw [Nat.succ_mul]; exact hsl), hF.sub _ (by repeat' constructor), ?_⟩, by omega⟩
      exact hM
   ·
    obtain rfl : n = gi := by omega
    have hnn : 0 < n * n := Nat.mul_pos (by omega) (by omega)
    obtain ⟨b0, c0, cs0, rfl, rfl, hs0⟩ := hsl.pos hnn
    have hM := hM.freeze 2 rfl
    have hb0 : (b0, cs0) ∈ (b0, cs0) :: D1 := List.mem_cons_self ..
    have hRm0 : ∀ x ∈ D1, x ∈ (b0, cs0) :: D1 := fun x hx => List.mem_cons_of_mem _ hx
    have hfM1 := fM_lt (n := n) hp2 hTp
    have hnn2 := Nat.mul_le_mul hn hn
    change Mem w _ [some (b1, algC (p : Int) (n : Int) T f), some (b2, fnC 6 (fun _ => .int .u8 (0))), none, none, none, none, none, none, none] ((b0, cs0) :: D1) at hM
    refine wp_exit (tX (tX ?_))
    refine ib_same ?_
    refine tN (sq (wp_region_lit ?_))
    refine st hF (g_fieldAddr ty_fo_32_0 hF rfl) rfl fun a hF => st hF (g_load ty_on_2 hF rfl (hM.row 0 rfl) (algC_p (by omega))) rfl fun a hF => st hF (g_move hF rfl) rfl fun a hF => ?_
    refine stR hF (d_call Tryd.call87 hF (.cons rfl (.cons rfl .nil)) (l01Solve_ok p n (n * n) (b0) (c0) (cs0) ((b0, cs0) :: D1) β κ C (fM n T) _ hp (by omega) (by omega) (by omega) (by omega) hfM1 (fun _ _ hm => hM.fzm hm) hb0 (fun i hi => hs0.get1 i hi) (hR.more hRm0))) rfl ?_
    rintro _ w' a ⟨hx, kE, E, ld, hE, hKer, hE1, ⟨hk, hld, ul, rfl, hown⟩ | ⟨hno, rfl⟩⟩ hF
    ·
     have hfr := hown.fresh hM
     have hM := hM.ext hx
     obtain ⟨bl, capl, csl, hsl, -, hM⟩ := hM.addF hfr
     obtain rfl := hsl.val
     have hblm : (bl, csl) ∈ ((bl, csl) :: ((b0, cs0) :: D1)) := List.mem_cons_self ..
     refine st hF (g_move hF rfl) rfl fun a hF => st hF (g_extract hF rfl rfl) rfl fun a hF => st hF (g_extract hF rfl rfl) rfl fun a hF => st hF (g_assign hF rfl) rfl fun a hF => st hF (g_assign hF rfl) rfl fun a hF => ?_
     refine wpList_nil (tN (sq (sq (wp_region_lit ?_))))
     refine st hF (g_move hF rfl) rfl fun a hF => st hF (g_not hF rfl) rfl fun a hF => ?_
     refine wpList_nil (tN ?_)
     refine c_Fl hF rfl ?_
     refine wp_skip (tN (sq (wp_region_lit ?_)))
     refine st hF (g_build0 ty_bu_30) rfl fun a hF => ?_
     refine stR hF (d_alloc 8 hM ty_ze_30) rfl ?_
     rintro _ w' a ⟨b30, rfl, hM, -⟩ hF
     change Mem w w' [some (b1, algC (p : Int) (n : Int) T f), some (b2, fnC 6 (fun _ => .int .u8 (0))), none, none, none, none, none, none, some (b30, fnC 6 (fun _ => .int .u8 (0)))] ((bl, csl) :: ((b0, cs0) :: D1)) at hM
     refine stN hF (d_storeAgg 8 hM rfl ty_sz_30 hF rfl rfl (by first | exact vecC_one | exact cells_one | (refine fnC_one fun _ _ => ?_; first | rfl | (split <;> rfl))) (by simp only [fnC_size, cells_size, vecC_size, tabC_size, planeC_size]) (by simp only [fnC_size, cells_size, vecC_size, tabC_size, planeC_size] <;> omega) (splice_whole _ _ (by simp only [fnC_size, cells_size, vecC_size, tabC_size, planeC_size]))) ?_
     intro _ w' a hM hF
     change Mem w w' [some (b1, algC (p : Int) (n : Int) T f), some (b2, fnC 6 (fun _ => .int .u8 (0))), none, none, none, none, none, none, some (b30, fnC 6 (fun _ => .int .u8 (0)))] ((bl, csl) :: ((b0, cs0) :: D1)) at hM
     refine wpList_nil (tN (sq (sq (wp_region_lit ?_))))
     refine st hF (g_assign hF rfl) rfl fun a hF => ?_
     refine wpList_nil (tN (wp_block ?_))
     change Mem w _ [some (b1, algC (p : Int) (n : Int) T f), some (b2, fnC 6 (fun _ => .int .u8 (0))), none, none, none, none, none, none, some (b30, fnC 6 (fun _ => .int .u8 (0)))] ((bl, csl) :: ((b0, cs0) :: D1)) at hM
     refine c_loop (fun (kk : Nat) a w' => kk ≤ n ∧ (True) ∧ Fr 99 a [(63, .tuple #[.slice (some ⟨bl, 0, none⟩) (n) (capl), .bool (true)]), (0, .agg (algC (p : Int) (n : Int) T f)), (1, ptr b1 (0)), (2, ptr b2 (0)), (3, .bool (false)), (14, .slice (some ⟨b3, 0, none⟩) (0) (0)), (5, .int .i64 (((n : Nat) : Int))), (4, .slice (some ⟨b0, 0, none⟩) (n * n) (c0)), (15, .int .i64 (((n : Nat) : Int))), (16, ptr b1 (0 + 1)), (17, .int .i64 (((n : Nat) : Int))), (18, .bool (decide ((((n : Nat) : Int) : Int) < ((n : Nat) : Int)))), (60, ptr b1 (0 + 0)), (61, .int .i64 (((p : Nat) : Int))), (62, .slice (some ⟨b0, 0, none⟩) (n * n) (c0)), (59, .tuple #[.slice (some ⟨bl, 0, none⟩) (n) (capl), .bool (true)]), (64, .slice (some ⟨bl, 0, none⟩) (n) (capl)), (65, .bool (true)), (9, .slice (some ⟨bl, 0, none⟩) (n) (capl)), (10, .bool (true)), (66, .bool (true)), (67, .bool (false)), (69, .agg (fnC 6 (fun _ => .int .u8 (0)))), (11, ptr b30 (0)), (12, .int .i64 (((kk : Nat) : Int)))] ∧ Mem w w' [some (b1, algC (p : Int) (n : Int) T f), some (b2, fnC 6 (fun _ => .int .u8 (0))), none, none, none, none, none, none, some (b30, fnC 6 (fun c => .int .u8 ((if c < kk then E c n else 0 : Nat) : Int)))] ((bl, csl) :: ((b0, cs0) :: D1))) (fun kk => n - kk) 0 ?_ ?_
     ·
      refine ⟨by omega, trivial, hF.sub _ (by repeat' constructor), ?_⟩
      exact hM.cast (by simp)
     ·
      clear hF hM
      rintro gl a w' ⟨hgl, hinv4, hF, hM⟩
      have hel := hE1 gl n
      refine sq (sq (wp_region_lit ?_))
      refine st hF (g_move hF rfl) rfl fun a hF => st hF (g_move hF rfl) rfl fun a hF => st hF (g_len ty_us_70 hF rfl) rfl fun a hF => st hF (g_lss hF rfl rfl) rfl fun a hF => ?_
      refine wpList_nil (tN ?_)
      refine c_cond hF rfl (fun h31 => ?_) (fun h31 => ?_)
      ·
       refine wp_skip (tN (sq (wp_block (wp_region_lit ?_))))
       refine st hF (g_move hF rfl) rfl fun a hF => st hF (g_move hF rfl) rfl fun a hF => st hF (g_move hF rfl) rfl fun a hF => st hF (g_indexSl (i := gl) ty_sl_70 hF rfl rfl rfl (by omega)) rfl fun a hF => st hF (g_load ty_on_2 hF rfl (hM.fzm hblm) (hsl.get1 (gl) (by omega))) rfl fun a hF => st hF (g_conv ty_un_5 ty_ud_2 hF rfl (wrap_u8 (by omega) (by have := hE1 gl n; omega))) rfl fun a hF => st hF (g_indexAddr ty_ar_30 hF rfl rfl rfl (by omega)) rfl fun a hF => ?_
       refine stN hF (d_store 8 hM rfl ty_on_5 hF rfl rfl rfl (by first | omega | (simp only [fnC_size, cells_size, vecC_size, tabC_size, planeC_size] <;> omega) | simp)) ?_
       intro _ w' a hM hF
       rw [show (fnC 6 (fun c => .int .u8 ((if c < gl then E c n else 0 : Nat) : Int))).setIfInBounds (0 + (gl) * 1) (.int .u8 (((E (gl) n : Nat) : Int))) = fnC 6 (fun c => .int .u8 (((if c = gl then E (gl) n else if c < gl then E c n else 0) : Nat) : Int)) from fnC_set (fun c _ => by rw [show 0 + (gl) * 1 = gl by omega]; by_cases hh : c = gl <;> simp [hh])] at hM
       change Mem w w' [some (b1, algC (p : Int) (n : Int) T f), some (b2, fnC 6 (fun _ => .int .u8 (0))), none, none, none, none, none, none, some (b30, fnC 6 (fun c => .int .u8 (((if c = gl then E (gl) n else if c < gl then E c n else 0) : Nat) : Int)))] ((bl, csl) :: ((b0, cs0) :: D1)) at hM
       refine wpList_nil (iN (tN (wp_region_lit ?_)))
       refine st hF (g_move hF rfl) rfl fun a hF => st hF (g_add hF rfl rfl (add_nat (gl) (1) (by omega))) rfl fun a hF => st hF (g_assign hF rfl) rfl fun a hF => ?_
       refine wpList_nil (tN ?_)
       refine ⟨gl + 1, ⟨by omega, trivial, hF.sub _ (by repeat' constructor), ?_⟩, by omega⟩
       refine hM.rowc 8 rfl (fnC_congr fun c hc => congrArg (Value.int .u8) (congrArg Nat.cast ?_))
       by_cases e1 : c = gl
       · simp [e1]
       · have e0 : (c < gl + 1) = (c < gl) := by apply propext; omega
         simp [e0, e1]
      ·
       obtain rfl : n = gl := by omega
       have hM := hM.rowc (cs' := vecC (fun c => if c < n then E c n else 0)) 8 rfl rfl
       refine wp_exit (tX (tX ?_))
       refine ib_same ?_
       refine tN (sq (sq (wp_region_lit ?_)))
       refine st hF (g_assign hF rfl) rfl fun a hF => ?_
       refine wpList_nil (tN (wp_block ?_))
       change Mem w _ [some (b1, algC (p : Int) (n : Int) T f), some (b2, fnC 6 (fun _ => .int .u8 (0))), none, none, none, none, none, none, some (b30, vecC (fun c => if c < n then E c n else 0))] ((bl, csl) :: ((b0, cs0) :: D1)) at hM
       refine c_loop (fun (kk : Nat) a w' => kk ≤ n ∧ (∀ i, i < kk → eqV 6 (timesS p n T (fun c => if c = i then 1 else 0) (fun c => if c < n then E c n else 0)) (fun c => if c = i then 1 else 0)) ∧ Fr 99 a [(63, .tuple #[.slice (some ⟨bl, 0, none⟩) (n) (capl), .bool (true)]), (0, .agg (algC (p : Int) (n : Int) T f)), (1, ptr b1 (0)), (2, ptr b2 (0)), (14, .slice (some ⟨b3, 0, none⟩) (0) (0)), (5, .int .i64 (((n : Nat) : Int))), (4, .slice (some ⟨b0, 0, none⟩) (n * n) (c0)), (15, .int .i64 (((n : Nat) : Int))), (16, ptr b1 (0 + 1)), (17, .int .i64 (((n : Nat) : Int))), (18, .bool (decide ((((n : Nat) : Int) : Int) < ((n : Nat) : Int)))), (60, ptr b1 (0 + 0)), (61, .int .i64 (((p : Nat) : Int))), (62, .slice (some ⟨b0, 0, none⟩) (n * n) (c0)), (59, .tuple #[.slice (some ⟨bl, 0, none⟩) (n) (capl), .bool (true)]), (64, .slice (some ⟨bl, 0, none⟩) (n) (capl)), (65, .bool (true)), (9, .slice (some ⟨bl, 0, none⟩) (n) (capl)), (10, .bool (true)), (66, .bool (true)), (67, .bool (false)), (69, .agg (fnC 6 (fun _ => .int .u8 (0)))), (11, ptr b30 (0)), (12, .int .i64 (((n : Nat) : Int))), (70, .int .i64 (((n : Nat) : Int))), (71, .slice (some ⟨bl, 0, none⟩) (n) (capl)), (72, .int .i64 (((n : Nat) : Int))), (73, .bool (decide ((((n : Nat) : Int) : Int) < ((n : Nat) : Int)))), (13, .int .i64 (((kk : Nat) : Int)))] ∧ Mem w w' [some (b1, algC (p : Int) (n : Int) T f), some (b2, fnC 6 (fun _ => .int .u8 (0))), none, none, none, none, none, none, some (b30, vecC (fun c => if c < n then E c n else 0))] ((bl, csl) :: ((b0, cs0) :: D1))) (fun kk => n - kk) 0 ?_ ?_
       ·
        refine ⟨by omega, fun i hi => absurd hi (by omega), hF.sub _ (by repeat' constructor), ?_⟩
        exact hM
       ·
        clear hF hM
        rintro gq a w' ⟨hgq, hinv5, hF, hM⟩
        have hv : ∀ i, (if i < n then E i n else 0) ≤ 255 := fun i => by split; (have := hE1 i n; omega); omega
        refine sq (sq (wp_region_lit ?_))
        refine st hF (g_move hF rfl) rfl fun a hF => st hF (g_fieldAddr ty_fo_32_1 hF rfl) rfl fun a hF => st hF (g_load ty_on_2 hF rfl (hM.row 0 rfl) (algC_n (by omega))) rfl fun a hF => st hF (g_lss hF rfl rfl) rfl fun a hF => ?_
        refine wpList_nil (tN ?_)
        refine c_cond hF rfl (fun h32 => ?_) (fun h32 => ?_)
        ·
         refine wp_skip (tN (sq (wp_block (sq ?_))))
         refine c_par 6 [] [.val (.agg (algC (p : Int) (n : Int) T f)), .val (.int .i64 (((gq : Nat) : Int))), .val (.agg (vecC (fun c => if c = gq then 1 else 0))), .val (.agg (vecC (fun c => if c < n then E c n else 0))), .val (.agg (vecC (timesS p n T ((fun c => if c = gq then 1 else 0)) ((fun c => if c < n then E c n else 0))))), .val (.int .i64 (((gq : Nat) : Int)))] hmix rfl hF rfl hM ⟨fun a w gG hF hS hd => by have hM := hS.mem rfl; exact par_val hS rfl (g_loadAgg ty_ag_32 hF rfl (hM.row 0 rfl) (by simp only [fnC_size, cells_size, vecC_size, tabC_size, planeC_size] <;> omega) (whole cells_size)), fun a w gG hF hS hd => by exact par_val hS rfl (g_move hF rfl), fun a w gG hF hS hd => by have hF := hF.ext1 90 (hd 1 rfl rfl); exact par_call (by repeat constructor) hS rfl (d_call Tryd.call60 hF (.cons rfl .nil) (l01Basis_ok (gq) _ (by omega))), fun a w gG hF hS hd => by have hM := hS.mem rfl; exact par_val hS rfl (g_loadAgg ty_ag_30 hF rfl (hM.row 8 rfl) (by simp only [fnC_size, cells_size, vecC_size, tabC_size, planeC_size] <;> omega) (whole (by simp only [fnC_size, cells_size, vecC_size, tabC_size, planeC_size]))), fun a w gG hF hS hd => by have hF := hF.ext1 89 (hd 0 rfl rfl); have hF := hF.ext1 91 (hd 2 rfl rfl); have hF := hF.ext1 92 (hd 3 rfl rfl); exact par_call (by repeat constructor) hS rfl (d_call Tryd.call39 hF (.cons rfl (.cons rfl (.cons rfl .nil))) (l01Times_ok p n T f ((fun c => if c = gq then 1 else 0)) ((fun c => if c < n then E c n else 0)) _ (by omega) (by omega) (by omega) (fun _ _ _ => hT _ _ _) (fun _ => by first | exact hv _ | exact hu _ | exact hT _ _ _ | exact hf _ | omega | (split <;> omega) | (dsimp only; split <;> omega) | assumption) (fun _ => by first | exact hv _ | exact hu _ | exact hT _ _ _ | exact hf _ | omega | (split <;> omega) | (dsimp only; split <;> omega) | assumption))), fun a w gG hF hS hd => by exact par_val hS rfl (g_move hF rfl), trivial⟩ ?_
         intro a w' L hF hS hq
         have hF := hF.ext1 89 (hq 0 rfl rfl)
         have hF := hF.ext1 90 (hq 1 rfl rfl)
         have hF := hF.ext1 91 (hq 2 rfl rfl)
         have hF := hF.ext1 92 (hq 3 rfl rfl)
         have hF := hF.ext1 93 (hq 4 rfl rfl)
         have hF := hF.ext1 94 (hq 5 rfl rfl)
         have hM := hS.mem rfl
         change wpList Tryd.prog _ _ [_, _] _ _
         refine stR hF (d_call Tryd.call60 hF (.cons rfl .nil) (l01Basis_ok (gq) _ (by omega))) rfl ?_
         rintro _ w' a ⟨hx, rfl⟩ hF
         have hM := hM.ext hx
         refine st hF (g_neqA ty_eg_30 hF rfl rfl (eqAt_vec ty_ae_30 ty_ip_5 ty_on_5)) rfl fun a hF => ?_
         refine wpList_nil (tN ?_)
         refine c_cond hF rfl (fun h33 => ?_) (fun h33 => ?_)
         ·
          refine sq (wp_region_lit ?_)
          refine st hF (g_build0 ty_bu_30) rfl fun a hF => ?_
          refine stN hF (d_storeAgg 1 hM rfl ty_sz_30 hF rfl rfl (by first | exact vecC_one | exact cells_one | (refine fnC_one fun _ _ => ?_; first | rfl | (split <;> rfl))) (by simp only [fnC_size, cells_size, vecC_size, tabC_size, planeC_size]) (by simp only [fnC_size, cells_size, vecC_size, tabC_size, planeC_size] <;> omega) (splice_whole _ _ (by simp only [fnC_size, cells_size, vecC_size, tabC_size, planeC_size]))) ?_
          intro _ w' a hM hF
          change Mem w w' [some (b1, algC (p : Int) (n : Int) T f), some (b2, fnC 6 (fun _ => .int .u8 (0))), none, none, none, none, none, none, some (b30, vecC (fun c => if c < n then E c n else 0))] ((bl, csl) :: ((b0, cs0) :: D1)) at hM
          refine st hF (g_assign hF rfl) rfl fun a hF => ?_
          refine wpList_nil (tN (wp_ret (iR (tR (tR (iR (tR ?_)))))))
          refine fin2 rfl hF.defers (res_agg ty_ag_30 hF rfl (hM.row 1 rfl) (by simp only [fnC_size, cells_size, vecC_size, tabC_size, planeC_size])) (res_tmp hF rfl) ⟨_, rfl, hM.below, ?_⟩
          exact .inr ⟨fun u hu => (by assumption : ¬ eqV 6 _ _) (by rw [(find_full hp2 hn0 hE hKer hu).2]; exact (timesS_left hp2 (by omega) hn).2 (hu.left gq (by omega))), rfl⟩
         ·
          refine wp_skip (iN (tN (wp_region_lit ?_)))
          refine st hF (g_move hF rfl) rfl fun a hF => st hF (g_add hF rfl rfl (add_nat (gq) (1) (by omega))) rfl fun a hF => st hF (g_assign hF rfl) rfl fun a hF => ?_
          refine wpList_nil (tN ?_)
          refine ⟨gq + 1, ⟨by omega, allS hinv5 (Decidable.not_not.1 (by assumption)), hF.sub _ (by repeat' constructor), ?_⟩, by omega⟩
          exact hM
        ·
         obtain rfl : n = gq := by omega
         refine wp_exit (tX (tX ?_))
         refine ib_same ?_
         refine tN (sq (wp_region_lit ?_))
         refine st hF (g_loadAgg ty_ag_30 hF rfl (hM.row 8 rfl) (by simp only [fnC_size, cells_size, vecC_size, tabC_size, planeC_size] <;> omega) (whole (by simp only [fnC_size, cells_size, vecC_size, tabC_size, planeC_size]))) rfl fun a hF => ?_
         refine stN hF (d_storeAgg 1 hM rfl ty_sz_30 hF rfl rfl (by first | exact vecC_one | exact cells_one | (refine fnC_one fun _ _ => ?_; first | rfl | (split <;> rfl))) (by simp only [fnC_size, cells_size, vecC_size, tabC_size, planeC_size]) (by simp only [fnC_size, cells_size, vecC_size, tabC_size, planeC_size] <;> omega) (splice_whole _ _ (by simp only [fnC_size, cells_size, vecC_size, tabC_size, planeC_size]))) ?_
         intro _ w' a hM hF
         change Mem w w' [some (b1, algC (p : Int) (n : Int) T f), some (b2, vecC (fun c => if c < n then E c n else 0)), none, none, none, none, none, none, some (b30, vecC (fun c => if c < n then E c n else 0))] ((bl, csl) :: ((b0, cs0) :: D1)) at hM
         refine st hF (g_assign hF rfl) rfl fun a hF => ?_
         refine wpList_nil (tN (wp_ret ?_))
         refine fin2 rfl hF.defers (res_agg ty_ag_30 hF rfl (hM.row 1 rfl) (by simp only [fnC_size, cells_size, vecC_size, tabC_size, planeC_size])) (res_tmp hF rfl) ⟨_, rfl, hM.below, ?_⟩
         exact .inl ⟨_, find_yes (by omega) hn0 hE hKer ⟨hk, hld⟩ (fun i hi => (timesS_left hp2 hi hn).1 (hinv5 i hi)), rfl⟩
    ·
     have hM := hM.ext hx
     refine st hF (g_move hF rfl) rfl fun a hF => st hF (g_extract hF rfl rfl) rfl fun a hF => st hF (g_extract hF rfl rfl) rfl fun a hF => st hF (g_assign hF rfl) rfl fun a hF => st hF (g_assign hF rfl) rfl fun a hF => ?_
     refine wpList_nil (tN (sq (sq (wp_region_lit ?_))))
     refine st hF (g_move hF rfl) rfl fun a hF => st hF (g_not hF rfl) rfl fun a hF => ?_
     refine wpList_nil (tN ?_)
     refine c_T hF rfl ?_
     refine sq (wp_region_lit ?_)
     refine st hF (g_build0 ty_bu_30) rfl fun a hF => ?_
     refine stN hF (d_storeAgg 1 hM rfl ty_sz_30 hF rfl rfl (by first | exact vecC_one | exact cells_one | (refine fnC_one fun _ _ => ?_; first | rfl | (split <;> rfl))) (by simp only [fnC_size, cells_size, vecC_size, tabC_size, planeC_size]) (by simp only [fnC_size, cells_size, vecC_size, tabC_size, planeC_size] <;> omega) (splice_whole _ _ (by simp only [fnC_size, cells_size, vecC_size, tabC_size, planeC_size]))) ?_
     intro _ w' a hM hF
     change Mem w w' [some (b1, algC (p : Int) (n : Int) T f), some (b2, fnC 6 (fun _ => .int .u8 (0))), none, none, none, none, none, none, none] ((b0, cs0) :: D1) at hM
     refine st hF (g_assign hF rfl) rfl fun a hF => ?_
     refine wpList_nil (tN (wp_ret (tR ?_)))
     refine fin2 rfl hF.defers (res_agg ty_ag_30 hF rfl (hM.row 1 rfl) (by simp only [fnC_size, cells_size, vecC_size, tabC_size, planeC_size])) (res_tmp hF rfl) ⟨_, rfl, hM.below, ?_⟩
     exact .inr ⟨fun u hu => hno ⟨(find_full hp2 hn0 hE hKer hu).1.k, (find_full hp2 hn0 hE hKer hu).1.ld⟩, rfl⟩

end Go.Proofs.YtbeodbfbfbefkaaDoor
