/- What functions of the program return, as walks over their operations; no statement of the seat is proved here. -/
import Derived.Test.YtfbhngnfhpjonaaQ10
set_option linter.unusedVariables false
set_option linter.unusedSimpArgs false
namespace Go.Proofs.Ytfbhngnfhpjonaa
open Go Go.RowKit Go.Sw Go.Ech
open Classical
theorem ker_same {p n m : Nat} {M M' : Nat → Nat → Nat} {x : Nat → Int} (e : ∀ i, i < m → ∀ c, c < n → M i c = M' i c) : Ker p n M m x ↔ Ker p n M' m x :=
  ⟨fun q i hi => by rw [← dot_same (e i hi)]; exact q i hi, fun q i hi => by rw [dot_same (e i hi)]; exact q i hi⟩
theorem isKer_same {p n m r : Nat} {M M' V : Nat → Nat → Nat} (e : ∀ i, i < m → ∀ c, c < n → M i c = M' i c) (h : IsKer p n M m r V) : IsKer p n M' m r V := by
  obtain ⟨k, E, ld, ld2, h1, h2, h3⟩ := h
  exact ⟨k, E, ld, ld2, h1, fun x => (h2 x).trans (ker_same e), h3⟩

theorem CentreOfI_A (p n : Int) (T : Nat → Nat → Nat → Nat) (f : Nat → Nat) (w : World) (hT : ∀ i j k, T i j k ≤ 255) (hf : ∀ i, f i ≤ 255) (hc : ¬ CodeP p n T f 0 (vAtL [])) :
    CallsR Try.prog 21 #[.agg (algC p n T f)] w (fun res _ => res = .tuple #[.slice none 0 0, .int .i64 1]) := by
  refine calls_fr [.agg (algC p n T f)] Try.func21 rfl Try.ntmps21 rfl fun a hF => ?_
  have hM : Mem w w [none, none, none] [] := MemX.start w 3
  change Fr 68 a [(0, .agg (algC p n T f))] at hF
  refine sq ?_
  refine wp_region_lit ?_
  refine stR hF (d_box 0 hM hF rfl) rfl ?_
  rintro _ w' a ⟨b1, rfl, hM, -⟩ hF
  change Mem w w' [some (b1, algC p n T f), none, none] [] at hM
  refine st hF (g_assign hF rfl) rfl fun a hF => st hF (g_assign hF rfl) rfl fun a hF => ?_
  refine wpList_nil ?_
  refine tN ?_
  refine sq ?_
  refine sq ?_
  refine wp_region_lit ?_
  refine st hF (g_loadAgg ty_ag_32 hF rfl (hM.row 0 rfl) (by simp only [fnC_size, cells_size, vecC_size, tabC_size, planeC_size, dgC_size, numC_sz, ldB_size] <;> omega) (whole cells_size)) rfl fun a hF => ?_
  refine stR hF (d_call Try.call47 hF (.cons rfl .nil) ((CallsR.val (IsAlgebraI_ok p n T f _ (fun _ _ _ => hT _ _ _) (fun _ => hf _)) (congrArg Value.bool (decide_eq_false (fun h => hc ⟨h, fun i hi => absurd hi (by omega)⟩)))))) rfl ?_
  rintro _ w' a ⟨hx, rfl⟩ hF
  have hM := hM.ext hx
  refine st hF (g_not hF rfl) rfl fun a hF => ?_
  refine wpList_nil ?_
  refine tN ?_
  refine c_T hF rfl ?_
  refine sq ?_
  refine wp_region_lit ?_
  refine st hF (g_assign hF rfl) rfl fun a hF => st hF (g_assign hF rfl) rfl fun a hF => ?_
  refine wpList_nil ?_
  refine tN ?_
  refine wp_ret ?_
  refine tR ?_
  refine fin2 rfl hF.defers (res_tmp hF rfl) (res_tmp hF rfl) ⟨_, rfl, hM.below, ?_⟩
  show _ = _
  rfl

theorem CentreOfI_Y (p n : Nat) (T : Nat → Nat → Nat → Nat) (f : Nat → Nat) (w : World) (hp : primeN p) (hn0 : 0 < n) (hn : n ≤ 6) (hTp : ∀ i j k, T i j k < p) (hT0 : ∀ i j k, n ≤ k → T i j k = 0) (hf : ∀ i, f i ≤ 255) (hc : CodeP (p : Int) (n : Int) T f 0 (vAtL [])) (hne : ∀ k E ld, Rref p n E k ld → (∀ x, Ker p n E k x ↔ Ker p n (eqC p n T) (n * n) x) → 0 < nf k ld n) (hpos : ∀ r V, IsKer p n (eqC p n T) (n * n) r V → 0 < r) :
    CallsR Try.prog 21 #[.agg (algC (p : Int) (n : Int) T f)] w (fun v w' => ∃ r V u, IsKer p n (eqC p n T) (n * n) r V ∧ (∀ i, i < r → ∀ c, n ≤ c → c < 6 → V i c = 0) ∧ OwnSl 6 w r (fun c => .int .u8 ((V (c / 6) (c % 6) : Nat) : Int)) u w' ∧ v = .tuple #[u, .int .i64 0]) := by
  refine calls_fr [.agg (algC (p : Int) (n : Int) T f)] Try.func21 rfl Try.ntmps21 rfl fun a hF => ?_
  have hM : Mem w w [none, none, none, none] [] := MemX.start w 4
  change Fr 68 a [(0, .agg (algC (p : Int) (n : Int) T f))] at hF
  have hp2 := hp.two
  have hp13 := hp.le
  have hT : ∀ i j k, T i j k ≤ 255 := fun i j k => by have := hTp i j k; omega
  refine sq ?_
  refine wp_region_lit ?_
  refine stR hF (d_box 0 hM hF rfl) rfl ?_
  rintro _ w' a ⟨b1, rfl, hM, -⟩ hF
  change Mem w w' [some (b1, algC (p : Int) (n : Int) T f), none, none, none] [] at hM
  refine st hF (g_assign hF rfl) rfl fun a hF => st hF (g_assign hF rfl) rfl fun a hF => ?_
  refine wpList_nil ?_
  refine tN ?_
  refine sq ?_
  refine sq ?_
  refine wp_region_lit ?_
  refine st hF (g_loadAgg ty_ag_32 hF rfl (hM.row 0 rfl) (by simp only [fnC_size, cells_size, vecC_size, tabC_size, planeC_size, dgC_size, numC_sz, ldB_size] <;> omega) (whole cells_size)) rfl fun a hF => ?_
  refine stR hF (d_call Try.call47 hF (.cons rfl .nil) ((CallsR.val (IsAlgebraI_ok (p : Int) (n : Int) T f _ (fun _ _ _ => hT _ _ _) (fun _ => hf _)) (congrArg Value.bool (decide_eq_true hc.1))))) rfl ?_
  rintro _ w' a ⟨hx, rfl⟩ hF
  have hM := hM.ext hx
  refine st hF (g_not hF rfl) rfl fun a hF => ?_
  refine wpList_nil ?_
  refine tN ?_
  refine c_Fl hF rfl ?_
  refine wp_skip ?_
  refine tN ?_
  refine sq ?_
  refine wp_region_lit ?_
  refine st hF (g_assign hF rfl) rfl fun a hF => ?_
  refine wpList_nil ?_
  refine tN ?_
  refine sq ?_
  refine sq ?_
  refine wp_region_lit ?_
  refine st hF (g_fieldAddr ty_fo_32_1 hF rfl) rfl fun a hF => st hF (g_load ty_on_2 hF rfl (hM.row 0 rfl) (algC_n (by omega))) rfl fun a hF => st hF (g_move hF rfl) rfl fun a hF => ?_
  refine wpList_nil ?_
  refine tN ?_
  refine wp_block ?_
  change Mem w _ [some (b1, algC (p : Int) (n : Int) T f), none, none, none] [] at hM
  refine c_loop (fun (kk : Nat) a w' => kk ≤ n ∧ ∃ (D1 : Froz), ∃ (β : Nat → Nat), (RowsB D1 6 (kk * n) β (padN n (eqC p n T)) ∧ ∀ i, i < kk * n → w.heap.size ≤ β i) ∧ ∃ (u4_1 : Value) (e4_1 : Option (Nat × Array Value)), Sl 1 u4_1 e4_1 (kk * n) (fun i => .slice (some ⟨β i, 0, none⟩) 6 6) ∧ Fr 68 a [(0, .agg (algC (p : Int) (n : Int) T f)), (1, ptr b1 (0)), (2, .slice none 0 0), (3, .int .i64 (0)), (10, .agg (algC (p : Int) (n : Int) T f)), (11, .bool (true)), (12, .bool (false)), (13, ptr b1 (0 + 1)), (14, .int .i64 (((n : Nat) : Int))), (15, .int .i64 (((kk : Nat) : Int))), (4, u4_1)] ∧ Mem w w' [some (b1, algC (p : Int) (n : Int) T f), none, none, e4_1] D1) (fun kk => n - kk) 0 ?_ ?_
  ·
    refine ⟨by omega, [], (fun _ => 0), ⟨by rw [Nat.zero_mul]; exact RowsB.none, fun i hi => absurd hi (by omega)⟩, (.slice none 0 0), (none), (by rw [Nat.zero_mul]; exact Sl.nil 1 _), hF.sub _ (by repeat' constructor), ?_⟩
    exact hM
  ·
    clear hF hM
    rintro gi a w' ⟨hgi, D1, β, ⟨hB, hge1⟩, u4_1, e4_1, hsl, hF, hM⟩
    have hgin := Nat.le_trans (Nat.mul_le_mul_right n hgi) (Nat.mul_le_mul hn hn)
    refine sq ?_
    refine wp_region_lit ?_
    refine st hF (g_lss hF rfl rfl) rfl fun a hF => ?_
    refine wpList_nil ?_
    refine tN ?_
    refine sq ?_
    refine c_cond hF rfl (fun h3 => ?_) (fun h3 => ?_)
    ·
      refine wp_skip ?_
      refine tN ?_
      refine sq ?_
      refine wp_block ?_
      refine sq ?_
      refine wp_region_lit ?_
      refine st hF (g_move hF rfl) rfl fun a hF => st hF (g_assign hF rfl) rfl fun a hF => ?_
      refine wpList_nil ?_
      refine tN ?_
      refine sq ?_
      refine wp_region_lit ?_
      refine st hF (g_fieldAddr ty_fo_32_1 hF rfl) rfl fun a hF => st hF (g_load ty_on_2 hF rfl (hM.row 0 rfl) (algC_n (by omega))) rfl fun a hF => st hF (g_move hF rfl) rfl fun a hF => ?_
      refine wpList_nil ?_
      refine tN ?_
      refine wp_block ?_
      change Mem w _ [some (b1, algC (p : Int) (n : Int) T f), none, none, e4_1] D1 at hM
      refine c_loop (fun (kk : Nat) a w' => kk ≤ n ∧ ∃ (D2 : Froz), ∃ (β2 : Nat → Nat), (RowsB D2 6 (gi * n + kk) β2 (padN n (eqC p n T)) ∧ ∀ i, i < gi * n + kk → w.heap.size ≤ β2 i) ∧ ∃ (u4_2 : Value) (e4_2 : Option (Nat × Array Value)), Sl 1 u4_2 e4_2 (gi * n + kk) (fun i => .slice (some ⟨β2 i, 0, none⟩) 6 6) ∧ Fr 68 a [(0, .agg (algC (p : Int) (n : Int) T f)), (1, ptr b1 (0)), (2, .slice none 0 0), (3, .int .i64 (0)), (10, .agg (algC (p : Int) (n : Int) T f)), (11, .bool (true)), (12, .bool (false)), (13, ptr b1 (0 + 1)), (14, .int .i64 (((n : Nat) : Int))), (15, .int .i64 (((gi : Nat) : Int))), (16, .bool (decide ((((gi : Nat) : Int) : Int) < ((n : Nat) : Int)))), (17, .int .i64 (((gi : Nat) : Int))), (5, .int .i64 (((gi : Nat) : Int))), (18, ptr b1 (0 + 1)), (19, .int .i64 (((n : Nat) : Int))), (20, .int .i64 (((kk : Nat) : Int))), (4, u4_2)] ∧ Mem w w' [some (b1, algC (p : Int) (n : Int) T f), none, none, e4_2] D2) (fun kk => n - kk) 0 ?_ ?_
      ·
        refine ⟨by omega, D1, β, ⟨hB, hge1⟩, (u4_1), (e4_1), hsl, hF.sub _ (by repeat' constructor), ?_⟩
        exact hM
      ·
        clear hF hM
        rintro gk a w' ⟨hgk, D2, β2, ⟨hB2, hge2⟩, u4_2, e4_2, hsl, hF, hM⟩
        refine sq ?_
        refine wp_region_lit ?_
        refine st hF (g_lss hF rfl rfl) rfl fun a hF => ?_
        refine wpList_nil ?_
        refine tN ?_
        refine sq ?_
        refine c_cond hF rfl (fun h4 => ?_) (fun h4 => ?_)
        ·
          refine wp_skip ?_
          refine tN ?_
          refine sq ?_
          refine wp_block ?_
          refine sq ?_
          refine wp_region_lit ?_
          refine st hF (g_move hF rfl) rfl fun a hF => st hF (g_assign hF rfl) rfl fun a hF => ?_
          refine wpList_nil ?_
          refine tN ?_
          refine sq ?_
          refine wp_region_lit ?_
          refine stR hF (d_makeC (len := 6) 1 hM hF rfl rfl ty_mk_62_6) rfl ?_
          rintro _ w' a ⟨b5, rfl, hM, -⟩ hF
          change Mem w w' [some (b1, algC (p : Int) (n : Int) T f), some (b5, fnC 6 (fun _ => .int .u8 (0))), none, e4_2] D2 at hM
          refine st hF (g_assign hF rfl) rfl fun a hF => ?_
          refine wpList_nil ?_
          refine tN ?_
          refine sq ?_
          refine sq ?_
          refine wp_region_lit ?_
          refine st hF (g_fieldAddr ty_fo_32_1 hF rfl) rfl fun a hF => st hF (g_load ty_on_2 hF rfl (hM.row 0 rfl) (algC_n (by omega))) rfl fun a hF => st hF (g_move hF rfl) rfl fun a hF => ?_
          refine wpList_nil ?_
          refine tN ?_
          refine wp_block ?_
          change Mem w _ [some (b1, algC (p : Int) (n : Int) T f), some (b5, fnC 6 (fun _ => .int .u8 (0))), none, e4_2] D2 at hM
          refine c_loop (fun (kk : Nat) a w' => kk ≤ n ∧ (True) ∧ Fr 68 a [(0, .agg (algC (p : Int) (n : Int) T f)), (1, ptr b1 (0)), (2, .slice none 0 0), (3, .int .i64 (0)), (10, .agg (algC (p : Int) (n : Int) T f)), (11, .bool (true)), (12, .bool (false)), (13, ptr b1 (0 + 1)), (14, .int .i64 (((n : Nat) : Int))), (15, .int .i64 (((gi : Nat) : Int))), (16, .bool (decide ((((gi : Nat) : Int) : Int) < ((n : Nat) : Int)))), (17, .int .i64 (((gi : Nat) : Int))), (5, .int .i64 (((gi : Nat) : Int))), (18, ptr b1 (0 + 1)), (19, .int .i64 (((n : Nat) : Int))), (20, .int .i64 (((gk : Nat) : Int))), (4, u4_2), (21, .bool (decide ((((gk : Nat) : Int) : Int) < ((n : Nat) : Int)))), (22, .int .i64 (((gk : Nat) : Int))), (6, .int .i64 (((gk : Nat) : Int))), (23, .slice (some ⟨b5, 0, none⟩) (6) (6)), (7, .slice (some ⟨b5, 0, none⟩) (6) (6)), (24, ptr b1 (0 + 1)), (25, .int .i64 (((n : Nat) : Int))), (26, .int .i64 (((kk : Nat) : Int)))] ∧ Mem w w' [some (b1, algC (p : Int) (n : Int) T f), some (b5, dgC 6 (fun c => if c < kk then eqC p n T (gi * n + gk) c else 0)), none, e4_2] D2) (fun kk => n - kk) 0 ?_ ?_
          ·
            refine ⟨by omega, trivial, hF.sub _ (by repeat' constructor), ?_⟩
            exact hM.rowc 1 rfl (dgC_congr (m := 6) (f := fun _ => 0) fun c hc => by simp)
          ·
            clear hF hM
            rintro gj a w' ⟨hgj, hinv3, hF, hM⟩
            have htb := hT gj gi gk
            have htb2 := hT gi gj gk
            refine sq ?_
            refine wp_region_lit ?_
            refine st hF (g_lss hF rfl rfl) rfl fun a hF => ?_
            refine wpList_nil ?_
            refine tN ?_
            refine sq ?_
            refine c_cond hF rfl (fun h6 => ?_) (fun h6 => ?_)
            ·
              refine wp_skip ?_
              refine tN ?_
              refine sq ?_
              refine wp_block ?_
              refine sq ?_
              refine wp_region_lit ?_
              refine st hF (g_move hF rfl) rfl fun a hF => st hF (g_assign hF rfl) rfl fun a hF => ?_
              refine wpList_nil ?_
              refine tN ?_
              refine sq ?_
              refine c_par 18 [] [.val (.int .i64 (((gj : Nat) : Int))), .val (.int .i64 (((gi : Nat) : Int))), .val (.int .i64 (((gk : Nat) : Int))), .val (ptr b1 (0 + 2)), .val (ptr b1 (0 + 2 + (gj) * 36)), .val (ptr b1 (0 + 2 + (gj) * 36 + (gi) * 6)), .val (ptr b1 (0 + 2 + (gj) * 36 + (gi) * 6 + (gk) * 1)), .val (.int .u8 (((T (gj) (gi) (gk) : Nat) : Int))), .val (.int .i64 (((T (gj) (gi) (gk) : Nat) : Int))), .val (.int .i64 (((gi : Nat) : Int))), .val (.int .i64 (((gj : Nat) : Int))), .val (.int .i64 (((gk : Nat) : Int))), .val (ptr b1 (0 + 2)), .val (ptr b1 (0 + 2 + (gi) * 36)), .val (ptr b1 (0 + 2 + (gi) * 36 + (gj) * 6)), .val (ptr b1 (0 + 2 + (gi) * 36 + (gj) * 6 + (gk) * 1)), .val (.int .u8 (((T (gi) (gj) (gk) : Nat) : Int))), .val (.int .i64 (((T (gi) (gj) (gk) : Nat) : Int)))] hmix rfl hF rfl hM ⟨fun a w gG hF hS hd => by exact par_val hS rfl (g_move hF rfl), fun a w gG hF hS hd => by exact par_val hS rfl (g_move hF rfl), fun a w gG hF hS hd => by exact par_val hS rfl (g_move hF rfl), fun a w gG hF hS hd => by exact par_val hS rfl (g_fieldAddr ty_fo_32_2 hF rfl), fun a w gG hF hS hd => by have hF := hF.ext1 29 (hd 0 rfl rfl); have hF := hF.ext1 32 (hd 3 rfl rfl); exact par_val hS rfl (g_indexAddr ty_ar_24 hF rfl rfl rfl (by omega)), fun a w gG hF hS hd => by have hF := hF.ext1 30 (hd 1 rfl rfl); have hF := hF.ext1 33 (hd 4 rfl rfl); exact par_val hS rfl (g_indexAddr ty_ar_23 hF rfl rfl rfl (by omega)), fun a w gG hF hS hd => by have hF := hF.ext1 31 (hd 2 rfl rfl); have hF := hF.ext1 34 (hd 5 rfl rfl); exact par_val hS rfl (g_indexAddr ty_ar_22 hF rfl rfl rfl (by omega)), fun a w gG hF hS hd => by have hF := hF.ext1 35 (hd 6 rfl rfl); have hM := hS.mem rfl; exact par_val hS rfl (g_load ty_on_5 hF rfl (hM.row 0 rfl) (algC_T (gj) (gi) (gk) (by omega) (by omega) (by omega) (by omega))), fun a w gG hF hS hd => by have hF := hF.ext1 36 (hd 7 rfl rfl); exact par_val hS rfl (g_conv ty_un_2 ty_ud_5 hF rfl (wrap_i64 (by omega) (by omega))), fun a w gG hF hS hd => by exact par_val hS rfl (g_move hF rfl), fun a w gG hF hS hd => by exact par_val hS rfl (g_move hF rfl), fun a w gG hF hS hd => by exact par_val hS rfl (g_move hF rfl), fun a w gG hF hS hd => by exact par_val hS rfl (g_fieldAddr ty_fo_32_2 hF rfl), fun a w gG hF hS hd => by have hF := hF.ext1 38 (hd 9 rfl rfl); have hF := hF.ext1 41 (hd 12 rfl rfl); exact par_val hS rfl (g_indexAddr ty_ar_24 hF rfl rfl rfl (by omega)), fun a w gG hF hS hd => by have hF := hF.ext1 39 (hd 10 rfl rfl); have hF := hF.ext1 42 (hd 13 rfl rfl); exact par_val hS rfl (g_indexAddr ty_ar_23 hF rfl rfl rfl (by omega)), fun a w gG hF hS hd => by have hF := hF.ext1 40 (hd 11 rfl rfl); have hF := hF.ext1 43 (hd 14 rfl rfl); exact par_val hS rfl (g_indexAddr ty_ar_22 hF rfl rfl rfl (by omega)), fun a w gG hF hS hd => by have hF := hF.ext1 44 (hd 15 rfl rfl); have hM := hS.mem rfl; exact par_val hS rfl (g_load ty_on_5 hF rfl (hM.row 0 rfl) (algC_T (gi) (gj) (gk) (by omega) (by omega) (by omega) (by omega))), fun a w gG hF hS hd => by have hF := hF.ext1 45 (hd 16 rfl rfl); exact par_val hS rfl (g_conv ty_un_2 ty_ud_5 hF rfl (wrap_i64 (by omega) (by omega))), trivial⟩ ?_
              intro a w' L hF hS hq
              have hF := hF.ext1 29 (hq 0 rfl rfl)
              have hF := hF.ext1 30 (hq 1 rfl rfl)
              have hF := hF.ext1 31 (hq 2 rfl rfl)
              have hF := hF.ext1 32 (hq 3 rfl rfl)
              have hF := hF.ext1 33 (hq 4 rfl rfl)
              have hF := hF.ext1 34 (hq 5 rfl rfl)
              have hF := hF.ext1 35 (hq 6 rfl rfl)
              have hF := hF.ext1 36 (hq 7 rfl rfl)
              have hF := hF.ext1 37 (hq 8 rfl rfl)
              have hF := hF.ext1 38 (hq 9 rfl rfl)
              have hF := hF.ext1 39 (hq 10 rfl rfl)
              have hF := hF.ext1 40 (hq 11 rfl rfl)
              have hF := hF.ext1 41 (hq 12 rfl rfl)
              have hF := hF.ext1 42 (hq 13 rfl rfl)
              have hF := hF.ext1 43 (hq 14 rfl rfl)
              have hF := hF.ext1 44 (hq 15 rfl rfl)
              have hF := hF.ext1 45 (hq 16 rfl rfl)
              have hF := hF.ext1 46 (hq 17 rfl rfl)
              have hM := hS.mem rfl
              change wpList Try.prog _ _ [_, _] _ _
              refine st hF (g_sub hF rfl rfl (wrap_i64 (by omega) (by omega))) rfl fun a hF => st hF (g_assign hF rfl) rfl fun a hF => ?_
              refine wpList_nil ?_
              refine tN ?_
              refine wp_region_lit ?_
              refine st hF (g_move hF rfl) rfl fun a hF => st hF (g_move hF rfl) rfl fun a hF => st hF (g_move hF rfl) rfl fun a hF => st hF (g_fieldAddr ty_fo_32_0 hF rfl) rfl fun a hF => st hF (g_load ty_on_2 hF rfl (hM.row 0 rfl) (algC_p (by omega))) rfl fun a hF => ?_
              refine stR hF (d_call Try.call48 hF (.cons rfl (.cons rfl .nil)) (residue_ok (((T (gj) (gi) (gk) : Nat) : Int) - ((T (gi) (gj) (gk) : Nat) : Int)) (p) _ (by omega) (by omega) (by omega) (by omega))) rfl ?_
              rintro _ w' a ⟨hx, rfl⟩ hF
              have hM := hM.ext hx
              refine st hF (g_indexSl (i := gj) ty_sl_62 hF rfl rfl rfl (by omega)) rfl fun a hF => ?_
              refine stN hF (d_store 1 hM rfl ty_on_5 hF rfl rfl rfl (by first | omega | (simp only [fnC_size, cells_size, vecC_size, tabC_size, planeC_size, dgC_size, numC_sz, ldB_size] <;> omega))) ?_
              intro _ w' a hM hF
              change Mem w w' [some (b1, algC (p : Int) (n : Int) T f), some (b5, (dgC 6 (fun c => if c < gj then eqC p n T (gi * n + gk) c else 0)).setIfInBounds (0 + (gj) * 1) (.int .u8 ((((T (gj) (gi) (gk) : Nat) : Int) - ((T (gi) (gj) (gk) : Nat) : Int)) % (((p : Nat) : Int))))), none, e4_2] D2 at hM
              refine wpList_nil ?_
              refine iN ?_
              refine tN ?_
              refine wp_region_lit ?_
              refine st hF (g_add hF rfl rfl (add_nat (gj) (1) (by omega))) rfl fun a hF => st hF (g_move hF rfl) rfl fun a hF => ?_
              refine wpList_nil ?_
              refine tN ?_
              refine ⟨gj + 1, ⟨by omega, trivial, hF.sub _ (by repeat' constructor), ?_⟩, by omega⟩
              refine hM.rowc 1 rfl (dgC_set (m := 6) (k := gj) (f := fun c => if c < gj then eqC p n T (gi * n + gk) c else 0) (g := fun c => if c < gj + 1 then eqC p n T (gi * n + gk) c else 0) (by omega) ((eqC_row hp2 (by omega)).symm.trans (congrArg Nat.cast (if_pos (Nat.lt_succ_self gj)).symm)) (fun c hc he => ?_))
              have e0 : (c < gj + 1) = (c < gj) := by apply propext; omega
              simp only [e0]
            ·
              obtain rfl : n = gj := by omega
              have hM := hM.rowc (cs' := dgC 6 ((padN n (eqC p n T)) (gi * n + gk))) 1 rfl (dgC_congr (m := 6) (f := fun c => if c < n then eqC p n T (gi * n + gk) c else 0) (g := (padN n (eqC p n T)) (gi * n + gk)) fun c hc => rfl)
              refine wp_exit ?_
              refine tX ?_
              refine tX ?_
              refine ib_same ?_
              refine tN ?_
              have hgN := hM.ge 1 rfl
              have hnb := fun i hi => (hM.froz _ _ (hB2.mem i hi)).2 1 b5 _ rfl
              have hM := hM.freeze 1 rfl
              have hB3 := ((hB2.more (D' := (b5, dgC 6 ((padN n (eqC p n T)) (gi * n + gk))) :: D2) (fun x hx => List.mem_cons_of_mem _ hx)).snoc (r := (padN n (eqC p n T)) (gi * n + gk)) rfl (List.mem_cons_self ..) hnb).congr (M' := (padN n (eqC p n T))) (fun i hi c hc => by by_cases e : i = gi * n + gk <;> simp [upE, e])
              change Mem w _ [some (b1, algC (p : Int) (n : Int) T f), none, none, e4_2] ((b5, dgC 6 ((padN n (eqC p n T)) (gi * n + gk))) :: D2) at hM
              refine wp_region_lit ?_
              refine st hF (g_move hF rfl) rfl fun a hF => st hF (g_move hF rfl) rfl fun a hF => ?_
              refine stR hF (d_buildC 2 hM hF (build1 hF rfl) (ty_bsv_60 _ _ _)) rfl ?_
              rintro _ w' a ⟨b7, rfl, hM, -⟩ hF
              change Mem w w' [some (b1, algC (p : Int) (n : Int) T f), none, some (b7, #[.slice (some ⟨b5, 0, none⟩) (6) (6)]), e4_2] ((b5, dgC 6 ((padN n (eqC p n T)) (gi * n + gk))) :: D2) at hM
              refine stR hF (d_append (k := 3) (m := 1) (g := fun _ => .slice (some ⟨b5, 0, none⟩) (6) (6)) ty_si_60 rfl (by decide) hM rfl hF rfl rfl hsl (fun i hi => by rw [show i = 0 by omega]; exact (hM.row 2 rfl).cell 0) (fun _ _ => rfl) (by decide) (by unfold maxLen; omega) (by omega)) rfl ?_
              rintro u8 w' a ⟨e9, hM, hs10⟩ hF
              change Mem w w' [some (b1, algC (p : Int) (n : Int) T f), none, some (b7, #[.slice (some ⟨b5, 0, none⟩) (6) (6)]), e9] ((b5, dgC 6 ((padN n (eqC p n T)) (gi * n + gk))) :: D2) at hM
              refine st hF (g_assign hF rfl) rfl fun a hF => ?_
              refine wpList_nil ?_
              refine iN ?_
              refine tN ?_
              refine wp_region_lit ?_
              refine st hF (g_add hF rfl rfl (add_nat (gk) (1) (by omega))) rfl fun a hF => st hF (g_move hF rfl) rfl fun a hF => ?_
              refine wpList_nil ?_
              refine tN ?_
              have hsl := (hs10).congr (g := fun i => .slice (some ⟨up β2 (gi * n + gk) b5 i, 0, none⟩) 6 6) (fun i hi => by
                by_cases e : i < gi * n + gk
                · rw [if_pos (by omega)]; simp only [up_ne (show i ≠ gi * n + gk by omega)]
                · rw [if_neg (by omega), show i = gi * n + gk by omega]; simp only [up_eq])
              have hM := hM.drop 2
              refine ⟨gk + 1, ⟨by omega, ((b5, dgC 6 ((padN n (eqC p n T)) (gi * n + gk))) :: D2), (up β2 (gi * n + gk) b5), ⟨hB3, fun i hi => by unfold up; split; exact hgN; exact hge2 i (by omega)⟩, (u8), (e9), hsl, hF.sub _ (by repeat' constructor), ?_⟩, by omega⟩
              exact hM
        ·
          obtain rfl : n = gk := by omega
          refine wp_exit ?_
          refine tX ?_
          refine tX ?_
          refine ib_same ?_
          refine iN ?_
          refine tN ?_
          refine wp_region_lit ?_
          refine st hF (g_add hF rfl rfl (add_nat (gi) (1) (by omega))) rfl fun a hF => st hF (g_move hF rfl) rfl fun a hF => ?_
          refine wpList_nil ?_
          refine tN ?_
          refine ⟨gi + 1, ⟨by omega, D2, β2, ⟨by rw [Nat.succ_mul]; exact hB2, by rw [Nat.succ_mul]; exact hge2⟩, (u4_2), (e4_2), (by rw [Nat.succ_mul]; exact hsl), hF.sub _ (by repeat' constructor), ?_⟩, by omega⟩
          exact hM
    ·
      obtain rfl : n = gi := by omega
      have hnn : 0 < n * n := Nat.mul_pos (by omega) (by omega)
      obtain ⟨bq, cq, csq, rfl, rfl, hsq⟩ := hsl.pos hnn
      have hgeq := hM.ge 3 rfl
      have hnbq : ∀ i, i < n * n → β i ≠ bq := fun i hi e => (hM.froz _ _ (hB.mem i hi)).2 3 bq _ rfl e.symm
      have hM := hM.freeze 3 rfl
      have hnn2 := Nat.mul_le_mul hn hn
      change Mem w _ [some (b1, algC (p : Int) (n : Int) T f), none, none, none] ((bq, csq) :: D1) at hM
      refine wp_exit ?_
      refine tX ?_
      refine tX ?_
      refine ib_same ?_
      refine tN ?_
      refine sq ?_
      refine wp_region_lit ?_
      refine st hF (g_move hF rfl) rfl fun a hF => st hF (g_fieldAddr ty_fo_32_1 hF rfl) rfl fun a hF => st hF (g_load ty_on_2 hF rfl (hM.row 0 rfl) (algC_n (by omega))) rfl fun a hF => st hF (g_fieldAddr ty_fo_32_0 hF rfl) rfl fun a hF => st hF (g_load ty_on_2 hF rfl (hM.row 0 rfl) (algC_p (by omega))) rfl fun a hF => ?_
      have hszc := hM.bel.size
      refine stR hF (d_callX Try.call49 hF (.cons rfl (.cons rfl (.cons rfl .nil))) (kernelOf_ok p n (n * n) bq cq csq β (padN n (eqC p n T)) _ hp hn0 hn (by omega) hsq.le (fun i c => by unfold padN; split; exact eqC_lt hp2 _ _; omega) (fun i _ c hc _ => padN_ge hc) (hM.fzm (List.mem_cons_self ..)) (by have := hsq.sz; have := hsq.le; omega) (fun i hi => hsq.get1 i hi) (fun i hi => hM.fzm (List.mem_cons_of_mem _ (hB.mem i hi))) hB.inj hnbq (fun k E ld h1 h2 => hne k E ld h1 (fun x => (h2 x).trans (ker_same (fun i _ c hc => (padN_lt hc))))) (fun r V h1 => hpos r V (isKer_same (fun i _ c hc => (padN_lt hc)) h1)))) rfl ?_
      rintro u w' a ⟨hx, r, V, hIK, hVz, hrn, hown⟩ hF
      have hown2 := ownSl_le hszc hown
      have hM := hM.swapD (D' := []) hx (rowsX_all (Q := fun y => ∃ cs, (y, cs) ∈ (bq, csq) :: D1) ⟨_, List.mem_cons_self ..⟩ (fun i hi => ⟨_, List.mem_cons_of_mem _ (hB.mem i hi)⟩)) (rowsX_all (Q := fun y => w.heap.size ≤ y ∨ y ∈ []) (.inl hgeq) (fun i hi => .inl (hge1 i hi))) (fun _ _ h => by cases h)
      change Mem w w' [some (b1, algC (p : Int) (n : Int) T f), none, none, none] [] at hM
      refine st hF (g_assign hF rfl) rfl fun a hF => st hF (g_assign hF rfl) rfl fun a hF => ?_
      refine wpList_nil ?_
      refine tN ?_
      refine wp_ret ?_
      refine fin2 rfl hF.defers (res_tmp hF rfl) (res_tmp hF rfl) ⟨_, rfl, hM.below, ?_⟩
      exact ⟨r, V, u, isKer_same (fun i _ c hc => padN_lt hc) hIK, hVz, hown2, rfl⟩

theorem cenOut {w0 w w' : World} {L : Own} {D : Froz} {p n : Nat} {M : Nat → Nat → Nat} {u : Value} (hM : Mem w0 w L D) (h : ∃ r V, IsKer p n M (n * n) r V ∧ OwnSl 6 w r (fun c => .int .u8 (((padN n V) (c / 6) (c % 6) : Nat) : Int)) u w') : ∃ r V, IsKer p n M (n * n) r V ∧ OwnSl 6 w0 r (fun c => .int .u8 (((padN n V) (c / 6) (c % 6) : Nat) : Int)) u w' := by
  obtain ⟨r, V, h1, h2⟩ := h
  exact ⟨r, V, h1, ownSl_le hM.bel.size h2⟩

theorem CentreOfS_A (p n : Int) (T : Nat → Nat → Nat → Nat) (f : Nat → Nat) (w : World) (hT : ∀ i j k, T i j k ≤ 255) (hf : ∀ i, f i ≤ 255) (hc : ¬ CodeP p n T f 0 (vAtL [])) :
    CallsR Try.prog 20 #[.agg (algC p n T f)] w (fun res _ => res = .tuple #[.slice none 0 0, .int .i64 1]) := by
  refine calls_fr [.agg (algC p n T f)] Try.func20 rfl Try.ntmps20 rfl fun a hF => ?_
  have hM : Mem w w [none] [] := MemX.start w 1
  change Fr 12 a [(0, .agg (algC p n T f))] at hF
  refine sq ?_
  refine wp_region_lit ?_
  refine stR hF (d_box 0 hM hF rfl) rfl ?_
  rintro _ w' a ⟨b1, rfl, hM, -⟩ hF
  change Mem w w' [some (b1, algC p n T f)] [] at hM
  refine st hF (g_assign hF rfl) rfl fun a hF => st hF (g_assign hF rfl) rfl fun a hF => ?_
  refine wpList_nil ?_
  refine tN ?_
  refine sq ?_
  refine sq ?_
  refine wp_region_lit ?_
  refine st hF (g_loadAgg ty_ag_32 hF rfl (hM.row 0 rfl) (by simp only [fnC_size, cells_size, vecC_size, tabC_size, planeC_size, dgC_size, numC_sz, ldB_size] <;> omega) (whole cells_size)) rfl fun a hF => ?_
  refine stR hF (d_call Try.call45 hF (.cons rfl (.cons rfl .nil)) ((CallsR.val (l01Code_0 p n T f (vAtL []) _ (fun _ _ _ => hT _ _ _) (fun _ => hf _)) (congrArg (Value.int .i64) (if_neg hc))))) rfl ?_
  rintro _ w' a ⟨hx, rfl⟩ hF
  have hM := hM.ext hx
  refine st hF (g_assign hF rfl) rfl fun a hF => ?_
  refine wpList_nil ?_
  refine tN ?_
  refine sq ?_
  refine wp_region_lit ?_
  refine st hF (g_move hF rfl) rfl fun a hF => st hF (g_neq hF rfl rfl) rfl fun a hF => ?_
  refine wpList_nil ?_
  refine tN ?_
  refine c_kT hF rfl (by decide) ?_
  refine sq ?_
  refine wp_region_lit ?_
  refine st hF (g_move hF rfl) rfl fun a hF => st hF (g_assign hF rfl) rfl fun a hF => st hF (g_assign hF rfl) rfl fun a hF => ?_
  refine wpList_nil ?_
  refine tN ?_
  refine wp_ret ?_
  refine tR ?_
  refine fin2 rfl hF.defers (res_tmp hF rfl) (res_tmp hF rfl) ⟨_, rfl, hM.below, ?_⟩
  show _ = _
  rfl

theorem CentreOfS_Y (p n : Nat) (T : Nat → Nat → Nat → Nat) (f : Nat → Nat) (w : World) (hp : primeN p) (hn0 : 0 < n) (hn : n ≤ 6) (hTp : ∀ i j k, T i j k < p) (hT0 : ∀ i j k, n ≤ k → T i j k = 0) (hf : ∀ i, f i ≤ 255) (hc : CodeP (p : Int) (n : Int) T f 0 (vAtL [])) (hne : ∀ k E ld, Rref p n E k ld → (∀ x, Ker p n E k x ↔ Ker p n (eqC p n T) (n * n) x) → 0 < nf k ld n) (hpos : ∀ r V, IsKer p n (eqC p n T) (n * n) r V → 0 < r) :
    CallsR Try.prog 20 #[.agg (algC (p : Int) (n : Int) T f)] w (fun v w' => ∃ r V u, IsKer p n (eqC p n T) (n * n) r V ∧ OwnSl 6 w r (fun c => .int .u8 (((padN n V) (c / 6) (c % 6) : Nat) : Int)) u w' ∧ v = .tuple #[u, .int .i64 0]) := by
  refine calls_fr [.agg (algC (p : Int) (n : Int) T f)] Try.func20 rfl Try.ntmps20 rfl fun a hF => ?_
  have hM : Mem w w [none] [] := MemX.start w 1
  change Fr 12 a [(0, .agg (algC (p : Int) (n : Int) T f))] at hF
  have hp2 := hp.two
  have hp13 := hp.le
  have hT : ∀ i j k, T i j k ≤ 255 := fun i j k => by have := hTp i j k; omega
  refine sq ?_
  refine wp_region_lit ?_
  refine stR hF (d_box 0 hM hF rfl) rfl ?_
  rintro _ w' a ⟨b1, rfl, hM, -⟩ hF
  change Mem w w' [some (b1, algC (p : Int) (n : Int) T f)] [] at hM
  refine st hF (g_assign hF rfl) rfl fun a hF => st hF (g_assign hF rfl) rfl fun a hF => ?_
  refine wpList_nil ?_
  refine tN ?_
  refine sq ?_
  refine sq ?_
  refine wp_region_lit ?_
  refine st hF (g_loadAgg ty_ag_32 hF rfl (hM.row 0 rfl) (by simp only [fnC_size, cells_size, vecC_size, tabC_size, planeC_size, dgC_size, numC_sz, ldB_size] <;> omega) (whole cells_size)) rfl fun a hF => ?_
  refine stR hF (d_call Try.call45 hF (.cons rfl (.cons rfl .nil)) ((CallsR.val (l01Code_0 (p : Int) (n : Int) T f (vAtL []) _ (fun _ _ _ => hT _ _ _) (fun _ => hf _)) (congrArg (Value.int .i64) (if_pos hc))))) rfl ?_
  rintro _ w' a ⟨hx, rfl⟩ hF
  have hM := hM.ext hx
  refine st hF (g_assign hF rfl) rfl fun a hF => ?_
  refine wpList_nil ?_
  refine tN ?_
  refine sq ?_
  refine wp_region_lit ?_
  refine st hF (g_move hF rfl) rfl fun a hF => st hF (g_neq hF rfl rfl) rfl fun a hF => ?_
  refine wpList_nil ?_
  refine tN ?_
  refine c_kF hF rfl (by decide) ?_
  refine wp_skip ?_
  refine tN ?_
  refine sq ?_
  refine wp_region_lit ?_
  refine st hF (g_loadAgg ty_ag_32 hF rfl (hM.row 0 rfl) (by simp only [fnC_size, cells_size, vecC_size, tabC_size, planeC_size, dgC_size, numC_sz, ldB_size] <;> omega) (whole cells_size)) rfl fun a hF => ?_
  refine stR hF (d_call Try.call46 hF (.cons rfl .nil) (l01Centre_ok p n T f _ hp hn0 hn hT hne hpos)) rfl ?_
  rintro u w' a ⟨hx, hr⟩ hF
  have hr := (cenOut) hM hr
  have hM := hM.ext hx
  obtain ⟨r, V, hIK, hown⟩ := hr
  refine st hF (g_assign hF rfl) rfl fun a hF => st hF (g_assign hF rfl) rfl fun a hF => ?_
  refine wpList_nil ?_
  refine tN ?_
  refine wp_ret ?_
  refine fin2 rfl hF.defers (res_tmp hF rfl) (res_tmp hF rfl) ⟨_, rfl, hM.below, ?_⟩
  exact ⟨r, V, u, hIK, hown, rfl⟩

end Go.Proofs.Ytfbhngnfhpjonaa
