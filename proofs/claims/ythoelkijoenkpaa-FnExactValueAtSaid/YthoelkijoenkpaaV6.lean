/- What functions of the program return, as walks over their operations; no statement of the seat is proved here. -/
import Derived.Test.YthoelkijoenkpaaV5
import Derived.Test.YthoelkijoenkpaaSw63
set_option linter.unusedVariables false
set_option linter.unusedSimpArgs false
namespace Go.Proofs.Ythoelkijoenkpaa
open Go Go.RowKit Go.Sw Go.Ech
open Classical
theorem ty_us_31 : Try.prog.underlying 31 = some (.slice 50) := by kernel_rfl
theorem ty_si_37 : slI Try.prog 37 = some (51, some (.agg (fnC 6 (fun _ => .int .u8 (0)))), 6, 6) := by kernel_rfl
theorem ty_sl_31 : sliceOf Try.prog 31 = some 6 := by kernel_rfl
theorem ty_ag_50 : aggP Try.prog 50 = some 6 := by kernel_rfl
theorem ty_ud_3 : Try.prog.underlying 3 = some (.int .i64) := by kernel_rfl
theorem ty_un_5 : Try.prog.underlying 5 = some (.int .u8) := by kernel_rfl
theorem ty_ag_30 : aggP Try.prog 30 = some 5 := by kernel_rfl
theorem szVectorSX (x : Option Addr) (m c k : Nat) (w : World) (hk : k < 10000000) (hm : m ≤ k) :
    CallsR Try.prog 11 #[.slice x m c, .int .i64 (((k : Nat) : Int))] w (fun res _ => res = .int .i64 ((k - m : Nat) : Int)) := by
  refine calls_fr [.slice x m c, .int .i64 (((k : Nat) : Int))] Try.func11 rfl Try.ntmps11 rfl fun a hF => ?_
  have hM : Mem w w [] [] := MemX.start w 0
  change Fr 12 a [(0, .slice x m c), (1, .int .i64 (((k : Nat) : Int)))] at hF
  refine sq ?_
  refine wp_region_lit ?_
  refine st hF (g_assign hF rfl) rfl fun a hF => ?_
  refine wpList_nil ?_
  refine tN ?_
  refine sq ?_
  refine wp_region_lit ?_
  refine st hF (g_move hF rfl) rfl fun a hF => st hF (g_move hF rfl) rfl fun a hF => st hF (g_lenX ty_us_31 hF rfl) rfl fun a hF => st hF (g_sub hF rfl rfl (wrap_i64 (by omega) (by omega))) rfl fun a hF => st hF (g_assign hF rfl) rfl fun a hF => ?_
  refine wpList_nil ?_
  refine tN ?_
  refine sq ?_
  refine sq ?_
  refine wp_region_lit ?_
  refine st hF (g_move hF rfl) rfl fun a hF => st hF (g_lss hF rfl rfl) rfl fun a hF => ?_
  refine wpList_nil ?_
  refine tN ?_
  refine c_cond hF rfl (fun h1 => ?_) (fun h1 => ?_)
  ·
   exfalso; omega
  ·
   refine wp_skip ?_
   refine tN ?_
   refine sq ?_
   refine wp_region_lit ?_
   refine st hF (g_move hF rfl) rfl fun a hF => st hF (g_assign hF rfl) rfl fun a hF => ?_
   refine wpList_nil ?_
   refine tN ?_
   refine wp_ret ?_
   refine fin1 rfl hF.defers (res_tmp hF rfl) ⟨_, rfl, hM.below, ?_⟩
   show _ = _
   exact congrArg (Value.int .i64) (by omega)

theorem szVectorSN (x : Option Addr) (m c k : Nat) (w : World) (hk : k < 10000000) (hm : k < m) (hm2 : m ≤ maxLen) :
    CallsR Try.prog 11 #[.slice x m c, .int .i64 (((k : Nat) : Int))] w (fun res _ => res = .int .i64 (-1)) := by
  refine calls_fr [.slice x m c, .int .i64 (((k : Nat) : Int))] Try.func11 rfl Try.ntmps11 rfl fun a hF => ?_
  have hM : Mem w w [] [] := MemX.start w 0
  change Fr 12 a [(0, .slice x m c), (1, .int .i64 (((k : Nat) : Int)))] at hF
  unfold maxLen at hm2
  refine sq ?_
  refine wp_region_lit ?_
  refine st hF (g_assign hF rfl) rfl fun a hF => ?_
  refine wpList_nil ?_
  refine tN ?_
  refine sq ?_
  refine wp_region_lit ?_
  refine st hF (g_move hF rfl) rfl fun a hF => st hF (g_move hF rfl) rfl fun a hF => st hF (g_lenX ty_us_31 hF rfl) rfl fun a hF => st hF (g_sub hF rfl rfl (wrap_i64 (by omega) (by omega))) rfl fun a hF => st hF (g_assign hF rfl) rfl fun a hF => ?_
  refine wpList_nil ?_
  refine tN ?_
  refine sq ?_
  refine sq ?_
  refine wp_region_lit ?_
  refine st hF (g_move hF rfl) rfl fun a hF => st hF (g_lss hF rfl rfl) rfl fun a hF => ?_
  refine wpList_nil ?_
  refine tN ?_
  refine c_cond hF rfl (fun h1 => ?_) (fun h1 => ?_)
  ·
   refine sq ?_
   refine wp_region_lit ?_
   refine st hF (g_assign hF rfl) rfl fun a hF => ?_
   refine wpList_nil ?_
   refine tN ?_
   refine wp_ret ?_
   refine tR ?_
   refine fin1 rfl hF.defers (res_tmp hF rfl) ⟨_, rfl, hM.below, ?_⟩
   show _ = _
   rfl
  ·
   exfalso; omega

theorem szVectorS_ok (sl : Value) (m k : Nat) (V : Nat → Nat → Nat) (w : World) (hs : ArgVs w sl m V) (hk : k < 10000000) (hm : m ≤ k) : CallsV Try.prog 11 #[sl, .int .i64 ((k : Nat) : Int)] w (.int .i64 ((k - m : Nat) : Int)) := by
  obtain ⟨⟨x, c, rfl⟩, -⟩ := hs
  exact szVectorSX x m c k w hk hm
theorem szVectorS_no (sl : Value) (m k : Nat) (V : Nat → Nat → Nat) (w : World) (hs : ArgVs w sl m V) (hk : k < 10000000) (hm : k < m) (hm2 : m ≤ maxLen) : CallsV Try.prog 11 #[sl, .int .i64 ((k : Nat) : Int)] w (.int .i64 (-1)) := by
  obtain ⟨⟨x, c, rfl⟩, -⟩ := hs
  exact szVectorSN x m c k w hk hm hm2

theorem putV_step {V : Nat → Nat → Nat} {k m : Nat} : ∀ r, r < m → ∀ c, c < 6 → (if r < k + 1 then V r c else 0) = if r = k then V k c else if r < k then V r c else 0 := by
  intro r _ c _
  by_cases e1 : r = k
  · subst e1; simp
  · have e0 : (r < k + 1) = (r < k) := by apply propext; omega
    simp [e0, e1]

theorem toVectorS_P (b o c m : Nat) (V : Nat → Nat → Nat) (w : World) (hm0 : 0 < m) (hm : m < 10000000) (hc : ∀ i, i < m → ∀ j, j < 6 → w.cell? ⟨b, o + i * 6 + j, none⟩ = some (.int .u8 ((V i j : Nat) : Int))) :
    CallsR Try.prog 14 #[.slice (some ⟨b, o, none⟩) (m) (c)] w (fun v w' => ∃ b, v = .slice (some ⟨b, 0, none⟩) m m ∧ w.heap.size ≤ b ∧ Blk w' b (vecsC m V)) := by
  refine calls_fr [.slice (some ⟨b, o, none⟩) (m) (c)] Try.func14 rfl Try.ntmps14 rfl fun a hF => ?_
  have hM : Mem w w [none] [] := MemX.start w 1
  change Fr 23 a [(0, .slice (some ⟨b, o, none⟩) (m) (c))] at hF
  refine sq ?_
  refine wp_region_lit ?_
  refine st hF (g_assign hF rfl) rfl fun a hF => ?_
  refine wpList_nil ?_
  refine tN ?_
  refine sq ?_
  refine wp_region_lit ?_
  refine st hF (g_move hF rfl) rfl fun a hF => st hF (g_len ty_us_31 hF rfl) rfl fun a hF => ?_
  refine stR hF (d_makeVs (len := m) 0 hM hF ty_si_37 rfl rfl (by omega) (by decide)) rfl ?_
  rintro _ w' a ⟨b2, rfl, hM, -⟩ hF
  change Mem w w' [some (b2, vecsC m (fun _ _ => 0))] [] at hM
  refine st hF (g_assign hF rfl) rfl fun a hF => ?_
  refine wpList_nil ?_
  refine tN ?_
  refine sq ?_
  refine sq ?_
  refine wp_region_lit ?_
  refine st hF (g_assign hF rfl) rfl fun a hF => ?_
  refine wpList_nil ?_
  refine tN ?_
  refine wp_block ?_
  change Mem w _ [some (b2, vecsC m (fun _ _ => 0))] [] at hM
  refine c_loop (fun (kk : Nat) a w' => kk ≤ m ∧ (True) ∧ Fr 23 a [(0, .slice (some ⟨b, o, none⟩) (m) (c)), (2, .slice none 0 0), (3, .slice (some ⟨b2, 0, none⟩) (m) (m)), (4, .int .i64 (((kk : Nat) : Int)))] ∧ Mem w w' [some (b2, vecsC m (fun i j => if i < kk then V i j else 0))] []) (fun kk => m - kk) 0 ?_ ?_
  ·
   refine ⟨by omega, trivial, hF.sub _ (by repeat' constructor), ?_⟩
   exact hM.rowc 0 rfl (vecsC_congr fun i hi c hc => by simp)
  ·
   clear hF hM
   rintro gk a w' ⟨hgk, hinv1, hF, hM⟩
   refine sq ?_
   refine sq ?_
   refine wp_region_lit ?_
   refine st hF (g_move hF rfl) rfl fun a hF => st hF (g_move hF rfl) rfl fun a hF => st hF (g_len ty_us_31 hF rfl) rfl fun a hF => st hF (g_lss hF rfl rfl) rfl fun a hF => ?_
   refine wpList_nil ?_
   refine tN ?_
   refine c_cond hF rfl (fun h3 => ?_) (fun h3 => ?_)
   ·
    refine wp_skip ?_
    refine tN ?_
    refine sq ?_
    refine wp_block ?_
    refine wp_region_lit ?_
    refine st hF (g_move hF rfl) rfl fun a hF => st hF (g_move hF rfl) rfl fun a hF => st hF (g_move hF rfl) rfl fun a hF => st hF (g_move hF rfl) rfl fun a hF => st hF (g_indexSl (i := gk) ty_sl_31 hF rfl rfl rfl (by omega)) rfl fun a hF => st hF (g_loadCV ty_ag_50 hF rfl (fun j hj => cell_ext (hc (gk) (by omega) j hj) hM.below)) rfl fun a hF => ?_
    refine stR hF (d_call Try.call31 hF (.cons rfl .nil) (toVector_ok (V (gk)) _)) rfl ?_
    rintro _ w' a ⟨hx, rfl⟩ hF
    have hM := hM.ext hx
    refine st hF (g_indexSl (i := gk) ty_sl_37 hF rfl rfl rfl (by omega)) rfl fun a hF => ?_
    refine stN hF (d_storeAgg 0 hM rfl ty_sz_51 hF rfl rfl (by first | exact vecC_one | exact cells_one | (refine fnC_one fun _ _ => ?_; first | rfl | (split <;> rfl))) (by simp only [fnC_size, cells_size, vecC_size, tabC_size, planeC_size, tenC_size, smC_size, numC_size, numI_size, vecsC_size]) (by simp only [fnC_size, cells_size, vecC_size, tabC_size, planeC_size, tenC_size, smC_size, numC_size, numI_size, vecsC_size] <;> omega) (vecsC_put gk (by omega) (by omega) (putV_step (V := V)))) ?_
    intro _ w' a hM hF
    change Mem w w' [some (b2, vecsC m (fun i j => if i < gk + 1 then V i j else 0))] [] at hM
    refine wpList_nil ?_
    refine iN ?_
    refine tN ?_
    refine wp_region_lit ?_
    refine st hF (g_move hF rfl) rfl fun a hF => st hF (g_add hF rfl rfl (add_nat (gk) (1) (by omega))) rfl fun a hF => st hF (g_assign hF rfl) rfl fun a hF => ?_
    refine wpList_nil ?_
    refine tN ?_
    refine ⟨gk + 1, ⟨by omega, trivial, hF.sub _ (by repeat' constructor), ?_⟩, by omega⟩
    exact hM
   ·
    obtain rfl : m = gk := by omega
    have hM := hM.rowc (cs' := vecsC m V) 0 rfl (vecsC_congr fun i hi c hc => by rw [if_pos hi])
    refine wp_exit ?_
    refine tX ?_
    refine tX ?_
    refine ib_same ?_
    refine tN ?_
    refine sq ?_
    refine wp_region_lit ?_
    refine st hF (g_move hF rfl) rfl fun a hF => st hF (g_assign hF rfl) rfl fun a hF => ?_
    refine wpList_nil ?_
    refine tN ?_
    refine wp_ret ?_
    refine fin1 rfl hF.defers (res_tmp hF rfl) ⟨_, rfl, hM.below, ?_⟩
    exact ⟨_, rfl, hM.ge 0 rfl, hM.row 0 rfl⟩

theorem toVectorS_Z (x : Option Addr) (c : Nat) (V : Nat → Nat → Nat) (w : World)  :
    CallsR Try.prog 14 #[.slice x 0 c] w (fun v w' => ∃ b, v = .slice (some ⟨b, 0, none⟩) 0 0 ∧ w.heap.size ≤ b ∧ Blk w' b (vecsC 0 V)) := by
  refine calls_fr [.slice x 0 c] Try.func14 rfl Try.ntmps14 rfl fun a hF => ?_
  have hM : Mem w w [none] [] := MemX.start w 1
  change Fr 23 a [(0, .slice x 0 c)] at hF
  refine sq ?_
  refine wp_region_lit ?_
  refine st hF (g_assign hF rfl) rfl fun a hF => ?_
  refine wpList_nil ?_
  refine tN ?_
  refine sq ?_
  refine wp_region_lit ?_
  refine st hF (g_move hF rfl) rfl fun a hF => st hF (g_lenX ty_us_31 hF rfl) rfl fun a hF => ?_
  refine stR hF (d_makeVs (len := 0) 0 hM hF ty_si_37 rfl rfl (by omega) (by decide)) rfl ?_
  rintro _ w' a ⟨b2, rfl, hM, -⟩ hF
  change Mem w w' [some (b2, vecsC 0 (fun _ _ => 0))] [] at hM
  refine st hF (g_assign hF rfl) rfl fun a hF => ?_
  refine wpList_nil ?_
  refine tN ?_
  refine sq ?_
  refine sq ?_
  refine wp_region_lit ?_
  refine st hF (g_assign hF rfl) rfl fun a hF => ?_
  refine wpList_nil ?_
  refine tN ?_
  refine wp_block ?_
  change Mem w _ [some (b2, vecsC 0 (fun _ _ => 0))] [] at hM
  refine c_loop (fun (kk : Nat) a w' => kk ≤ 0 ∧ (True) ∧ Fr 23 a [(0, .slice x 0 c), (2, .slice none 0 0), (3, .slice (some ⟨b2, 0, none⟩) (0) (0)), (4, .int .i64 (((kk : Nat) : Int)))] ∧ Mem w w' [some (b2, vecsC 0 (fun i j => if i < kk then V i j else 0))] []) (fun kk => 0 - kk) 0 ?_ ?_
  ·
   refine ⟨by omega, trivial, hF.sub _ (by repeat' constructor), ?_⟩
   exact hM.rowc 0 rfl (vecsC_congr fun i hi c hc => by simp)
  ·
   clear hF hM
   rintro gk a w' ⟨hgk, hinv1, hF, hM⟩
   refine sq ?_
   refine sq ?_
   refine wp_region_lit ?_
   refine st hF (g_move hF rfl) rfl fun a hF => st hF (g_move hF rfl) rfl fun a hF => st hF (g_lenX ty_us_31 hF rfl) rfl fun a hF => st hF (g_lss hF rfl rfl) rfl fun a hF => ?_
   refine wpList_nil ?_
   refine tN ?_
   refine c_cond hF rfl (fun h3 => ?_) (fun h3 => ?_)
   ·
    exfalso; omega
   ·
    obtain rfl : 0 = gk := by omega
    refine wp_exit ?_
    refine tX ?_
    refine tX ?_
    refine ib_same ?_
    refine tN ?_
    refine sq ?_
    refine wp_region_lit ?_
    refine st hF (g_move hF rfl) rfl fun a hF => st hF (g_assign hF rfl) rfl fun a hF => ?_
    refine wpList_nil ?_
    refine tN ?_
    refine wp_ret ?_
    refine fin1 rfl hF.defers (res_tmp hF rfl) ⟨_, rfl, hM.below, ?_⟩
    exact ⟨_, rfl, hM.ge 0 rfl, (hM.rowc (cs' := vecsC 0 V) 0 rfl (vecsC_congr fun i hi => absurd hi (by omega))).row 0 rfl⟩

theorem toVectorS_ok (sl : Value) (m : Nat) (V : Nat → Nat → Nat) (w : World) (hs : ArgVs w sl m V) (hm : m < 10000000) : CallsR Try.prog 14 #[sl] w (fun v w' => ∃ b, v = .slice (some ⟨b, 0, none⟩) m m ∧ w.heap.size ≤ b ∧ Blk w' b (vecsC m V)) := by
  by_cases h0 : 0 < m
  · obtain ⟨b, o, c, rfl, hc⟩ := hs.2 h0
    exact toVectorS_P b o c m V w h0 hm hc
  · obtain ⟨⟨x, c, rfl⟩, -⟩ := hs
    obtain rfl : m = 0 := by omega
    exact toVectorS_Z x c V w

theorem eqVectorS_own (b1 b2 m : Nat) (V : Nat → Nat → Nat) (w : World) (hm : m < 10000000) (hb1 : Blk w b1 (vecsC m V)) (hb2 : Blk w b2 (vecsC m V)) (hV : ∀ i c, V i c ≤ 255) :
    CallsR Try.prog 17 #[.slice (some ⟨b1, 0, none⟩) (m) (m), .slice (some ⟨b2, 0, none⟩) (m) (m)] w (fun res _ => res = .bool true) := by
  refine calls_fr [.slice (some ⟨b1, 0, none⟩) (m) (m), .slice (some ⟨b2, 0, none⟩) (m) (m)] Try.func17 rfl Try.ntmps17 rfl fun a hF => ?_
  have hM : Mem w w [] [(b1, vecsC m V), (b2, vecsC m V)] := MemX.startD w 0 _ (startD2 hb1 hb2)
  change Fr 27 a [(0, .slice (some ⟨b1, 0, none⟩) (m) (m)), (1, .slice (some ⟨b2, 0, none⟩) (m) (m))] at hF
  refine sq ?_
  refine wp_region_lit ?_
  refine st hF (g_assign hF rfl) rfl fun a hF => ?_
  refine wpList_nil ?_
  refine tN ?_
  refine sq ?_
  refine sq ?_
  refine wp_region_lit ?_
  refine st hF (g_move hF rfl) rfl fun a hF => st hF (g_len ty_us_37 hF rfl) rfl fun a hF => st hF (g_move hF rfl) rfl fun a hF => st hF (g_len ty_us_37 hF rfl) rfl fun a hF => st hF (g_neq hF rfl rfl) rfl fun a hF => ?_
  refine wpList_nil ?_
  refine tN ?_
  refine c_cond hF rfl (fun h1 => ?_) (fun h1 => ?_)
  ·
   exact absurd rfl h1
  ·
   refine wp_skip ?_
   refine tN ?_
   refine sq ?_
   refine sq ?_
   refine wp_region_lit ?_
   refine st hF (g_assign hF rfl) rfl fun a hF => ?_
   refine wpList_nil ?_
   refine tN ?_
   refine wp_block ?_
   change Mem w _ [] [(b1, vecsC m V), (b2, vecsC m V)] at hM
   refine c_loop (fun (kk : Nat) a w' => kk ≤ m ∧ (True) ∧ Fr 27 a [(0, .slice (some ⟨b1, 0, none⟩) (m) (m)), (1, .slice (some ⟨b2, 0, none⟩) (m) (m)), (10, .bool (decide ((((m : Nat) : Int) : Int) ≠ ((m : Nat) : Int)))), (5, .int .i64 (((kk : Nat) : Int)))] ∧ Mem w w' [] [(b1, vecsC m V), (b2, vecsC m V)]) (fun kk => m - kk) 0 ?_ ?_
   ·
    refine ⟨by omega, trivial, hF.sub _ (by repeat' constructor), ?_⟩
    exact hM
   ·
    clear hF hM
    rintro gk a w' ⟨hgk, hinv1, hF, hM⟩
    refine sq ?_
    refine sq ?_
    refine wp_region_lit ?_
    refine st hF (g_move hF rfl) rfl fun a hF => st hF (g_move hF rfl) rfl fun a hF => st hF (g_len ty_us_37 hF rfl) rfl fun a hF => st hF (g_lss hF rfl rfl) rfl fun a hF => ?_
    refine wpList_nil ?_
    refine tN ?_
    refine c_cond hF rfl (fun h2 => ?_) (fun h2 => ?_)
    ·
     refine wp_skip ?_
     refine tN ?_
     refine sq ?_
     refine wp_block ?_
     refine sq ?_
     refine c_par 8 [] [.val (.slice (some ⟨b1, 0, none⟩) (m) (m)), .val (.int .i64 (((gk : Nat) : Int))), .val (ptr b1 (0 + (gk) * 6)), .val (.agg (vecC (V (gk)))), .val (.slice (some ⟨b2, 0, none⟩) (m) (m)), .val (.int .i64 (((gk : Nat) : Int))), .val (ptr b2 (0 + (gk) * 6)), .val (.agg (vecC (V (gk))))] hmix rfl hF rfl hM ⟨fun a w gG hF hS hd => by exact par_val hS rfl (g_move hF rfl), fun a w gG hF hS hd => by exact par_val hS rfl (g_move hF rfl), fun a w gG hF hS hd => by have hF := hF.ext1 17 (hd 0 rfl rfl); have hF := hF.ext1 18 (hd 1 rfl rfl); exact par_val hS rfl (g_indexSl (i := gk) ty_sl_37 hF rfl rfl rfl (by omega)), fun a w gG hF hS hd => by have hF := hF.ext1 19 (hd 2 rfl rfl); have hM := hS.mem rfl; exact par_val hS rfl (g_loadAgg ty_ag_51 hF rfl (hM.fz 0 rfl) (by rw [vecsC_size]; omega) (vecsC_row (gk) (by omega) (by omega) (by omega))), fun a w gG hF hS hd => by exact par_val hS rfl (g_move hF rfl), fun a w gG hF hS hd => by exact par_val hS rfl (g_move hF rfl), fun a w gG hF hS hd => by have hF := hF.ext1 21 (hd 4 rfl rfl); have hF := hF.ext1 22 (hd 5 rfl rfl); exact par_val hS rfl (g_indexSl (i := gk) ty_sl_37 hF rfl rfl rfl (by omega)), fun a w gG hF hS hd => by have hF := hF.ext1 23 (hd 6 rfl rfl); have hM := hS.mem rfl; exact par_val hS rfl (g_loadAgg ty_ag_51 hF rfl (hM.fz 1 rfl) (by rw [vecsC_size]; omega) (vecsC_row (gk) (by omega) (by omega) (by omega))), trivial⟩ ?_
     intro a w' L hF hS hq
     have hF := hF.ext1 17 (hq 0 rfl rfl)
     have hF := hF.ext1 18 (hq 1 rfl rfl)
     have hF := hF.ext1 19 (hq 2 rfl rfl)
     have hF := hF.ext1 20 (hq 3 rfl rfl)
     have hF := hF.ext1 21 (hq 4 rfl rfl)
     have hF := hF.ext1 22 (hq 5 rfl rfl)
     have hF := hF.ext1 23 (hq 6 rfl rfl)
     have hF := hF.ext1 24 (hq 7 rfl rfl)
     have hM := hS.mem rfl
     change wpList Try.prog _ _ [_, _] _ _
     refine stR hF (d_call Try.call38 hF (.cons rfl (.cons rfl .nil)) (eqVector_ok (V (gk)) (V (gk)) _)) rfl ?_
     rintro _ w' a ⟨hx, rfl⟩ hF
     have hM := hM.ext hx
     refine st hF (g_notP hF rfl) rfl fun a hF => ?_
     refine wpList_nil ?_
     refine tN ?_
     refine c_cond hF rfl (fun h3 => ?_) (fun h3 => ?_)
     ·
      exact absurd (fun i hi => rfl) h3
     ·
      refine wp_skip ?_
      refine iN ?_
      refine tN ?_
      refine wp_region_lit ?_
      refine st hF (g_move hF rfl) rfl fun a hF => st hF (g_add hF rfl rfl (add_nat (gk) (1) (by omega))) rfl fun a hF => st hF (g_assign hF rfl) rfl fun a hF => ?_
      refine wpList_nil ?_
      refine tN ?_
      refine ⟨gk + 1, ⟨by omega, trivial, hF.sub _ (by repeat' constructor), ?_⟩, by omega⟩
      exact hM
    ·
     obtain rfl : m = gk := by omega
     refine wp_exit ?_
     refine tX ?_
     refine tX ?_
     refine ib_same ?_
     refine tN ?_
     refine sq ?_
     refine wp_region_lit ?_
     refine st hF (g_assign hF rfl) rfl fun a hF => ?_
     refine wpList_nil ?_
     refine tN ?_
     refine wp_ret ?_
     refine fin1 rfl hF.defers (res_tmp hF rfl) ⟨_, rfl, hM.below, ?_⟩
     show _ = _
     rfl

theorem markVectorS_any (b c m k : Nat) (V : Nat → Nat → Nat) (w : World) (hm : m < 2000000) (hk : k < 10000000) (hb : Blk w b (vecsC m V)) :
    CallsX Try.prog [b] 18 #[.slice (some ⟨b, 0, none⟩) (m) (c), .int .i64 (((k : Nat) : Int))] w (fun v w' => v = .int .i64 ((k + m * 6 : Nat) : Int) ∧ ∃ cs', Blk w' b cs') := by
  refine calls_frX [.slice (some ⟨b, 0, none⟩) (m) (c), .int .i64 (((k : Nat) : Int))] Try.func18 rfl Try.ntmps18 rfl fun a hF => ?_
  have hM : MemX [b] w w [some (b, vecsC m V)] [] := MemX.startX1 0 hb
  change Fr 27 a [(0, .slice (some ⟨b, 0, none⟩) (m) (c)), (1, .int .i64 (((k : Nat) : Int)))] at hF
  refine sq ?_
  refine wp_region_lit ?_
  refine st hF (g_assign hF rfl) rfl fun a hF => ?_
  refine wpList_nil ?_
  refine tN ?_
  refine sq ?_
  refine sq ?_
  refine wp_region_lit ?_
  refine st hF (g_assign hF rfl) rfl fun a hF => ?_
  refine wpList_nil ?_
  refine tN ?_
  refine wp_block ?_
  change MemX [b] w _ [some (b, vecsC m V)] [] at hM
  refine c_loop (fun (kk : Nat) a w' => kk ≤ m ∧ ∃ (cq : Array Value), (cq.size = m * 6) ∧ Fr 27 a [(0, .slice (some ⟨b, 0, none⟩) (m) (c)), (4, .int .i64 (0)), (5, .int .i64 (((kk : Nat) : Int))), (1, .int .i64 (((k + kk * 6 : Nat) : Int)))] ∧ MemX [b] w w' [some (b, cq)] []) (fun kk => m - kk) 0 ?_ ?_
  ·
   refine ⟨by omega, (vecsC m V), (vecsC_size), hF.sub _ (by repeat' constructor), ?_⟩
   exact hM
  ·
   clear hF hM
   rintro gi a w' ⟨hgi, cq, hcz, hF, hM⟩
   refine sq ?_
   refine sq ?_
   refine wp_region_lit ?_
   refine st hF (g_move hF rfl) rfl fun a hF => st hF (g_move hF rfl) rfl fun a hF => st hF (g_len ty_us_37 hF rfl) rfl fun a hF => st hF (g_lss hF rfl rfl) rfl fun a hF => ?_
   refine wpList_nil ?_
   refine tN ?_
   refine c_cond hF rfl (fun h1 => ?_) (fun h1 => ?_)
   ·
    refine wp_skip ?_
    refine tN ?_
    refine sq ?_
    refine wp_block ?_
    refine sq ?_
    refine wp_region_lit ?_
    refine st hF (g_assign hF rfl) rfl fun a hF => ?_
    refine wpList_nil ?_
    refine tN ?_
    refine wp_block ?_
    change MemX [b] w _ [some (b, cq)] [] at hM
    refine c_loop (fun (kk : Nat) a w' => kk ≤ 6 ∧ ∃ (cq : Array Value), (cq.size = m * 6) ∧ Fr 27 a [(0, .slice (some ⟨b, 0, none⟩) (m) (c)), (4, .int .i64 (0)), (5, .int .i64 (((gi : Nat) : Int))), (7, .int .i64 (((gi : Nat) : Int))), (8, .slice (some ⟨b, 0, none⟩) (m) (c)), (9, .int .i64 (((m : Nat) : Int))), (10, .bool (decide ((((gi : Nat) : Int) : Int) < ((m : Nat) : Int)))), (6, .int .i64 (((kk : Nat) : Int))), (1, .int .i64 (((k + gi * 6 + kk : Nat) : Int)))] ∧ MemX [b] w w' [some (b, cq)] []) (fun kk => 6 - kk) 0 ?_ ?_
    ·
     refine ⟨by omega, cq, hcz, hF.sub _ (by repeat' constructor), ?_⟩
     exact hM
    ·
     clear hF hM
     rintro gj a w' ⟨hgj, cq, hcz, hF, hM⟩
     refine sq ?_
     refine sq ?_
     refine wp_region_lit ?_
     refine st hF (g_move hF rfl) rfl fun a hF => st hF (g_lss hF rfl rfl) rfl fun a hF => ?_
     refine wpList_nil ?_
     refine tN ?_
     refine c_cond hF rfl (fun h2 => ?_) (fun h2 => ?_)
     ·
      refine wp_skip ?_
      refine tN ?_
      refine sq ?_
      refine wp_block ?_
      refine sq ?_
      refine wp_region_lit ?_
      refine st hF (g_move hF rfl) rfl fun a hF => st hF (g_move hF rfl) rfl fun a hF => st hF (g_move hF rfl) rfl fun a hF => st hF (g_move hF rfl) rfl fun a hF => st hF (g_conv ty_un_5 ty_ud_3 hF rfl rfl) rfl fun a hF => st hF (g_indexSl (i := gi) ty_sl_37 hF rfl rfl rfl (by omega)) rfl fun a hF => st hF (g_indexAddr ty_ar_51 hF rfl rfl rfl (by omega)) rfl fun a hF => ?_
      refine stN hF (d_store 0 hM rfl ty_on_5 hF rfl rfl rfl (by first | omega | (simp only [fnC_size, cells_size, vecC_size, tabC_size, planeC_size, tenC_size, smC_size, numC_size, numI_size, vecsC_size] <;> omega) | (simp only [Array.size_setIfInBounds]; omega) | simp)) ?_
      intro _ w' a hM hF
      change MemX [b] w w' [some (b, cq.setIfInBounds (0 + (gi) * 6 + (gj) * 1) (.int .u8 (IntKind.u8.wrap (((k + gi * 6 + gj : Nat) : Int)))))] [] at hM
      refine wpList_nil ?_
      refine tN ?_
      refine wp_region_lit ?_
      refine st hF (g_move hF rfl) rfl fun a hF => st hF (g_add hF rfl rfl (add_nat (k + gi * 6 + gj) (1) (by omega))) rfl fun a hF => st hF (g_assign hF rfl) rfl fun a hF => ?_
      refine wpList_nil ?_
      refine iN ?_
      refine tN ?_
      refine wp_region_lit ?_
      refine st hF (g_move hF rfl) rfl fun a hF => st hF (g_add hF rfl rfl (add_nat (gj) (1) (by omega))) rfl fun a hF => st hF (g_assign hF rfl) rfl fun a hF => ?_
      refine wpList_nil ?_
      refine tN ?_
      refine ⟨gj + 1, ⟨by omega, cq.setIfInBounds (0 + (gi) * 6 + (gj) * 1) (.int .u8 (IntKind.u8.wrap (((k + gi * 6 + gj : Nat) : Int)))), (by rw [Array.size_setIfInBounds]; exact hcz), hF.sub _ (by repeat' constructor), ?_⟩, by omega⟩
      exact hM
     ·
      obtain rfl : 6 = gj := by omega
      refine wp_exit ?_
      refine tX ?_
      refine tX ?_
      refine ib_same ?_
      refine iN ?_
      refine tN ?_
      refine wp_region_lit ?_
      refine st hF (g_move hF rfl) rfl fun a hF => st hF (g_add hF rfl rfl (add_nat (gi) (1) (by omega))) rfl fun a hF => st hF (g_assign hF rfl) rfl fun a hF => ?_
      refine wpList_nil ?_
      refine tN ?_
      rw [show k + gi * 6 + 6 = k + (gi + 1) * 6 from by omega] at hF
      refine ⟨gi + 1, ⟨by omega, cq, hcz, hF.sub _ (by repeat' constructor), ?_⟩, by omega⟩
      exact hM
   ·
    obtain rfl : m = gi := by omega
    refine wp_exit ?_
    refine tX ?_
    refine tX ?_
    refine ib_same ?_
    refine tN ?_
    refine sq ?_
    refine wp_region_lit ?_
    refine st hF (g_move hF rfl) rfl fun a hF => st hF (g_assign hF rfl) rfl fun a hF => ?_
    refine wpList_nil ?_
    refine tN ?_
    refine wp_ret ?_
    refine fin1 rfl hF.defers (res_tmp hF rfl) ⟨_, rfl, hM.bel, ?_⟩
    exact ⟨rfl, _, hM.row 0 rfl⟩

theorem law_ValueAtA (p n i o : Int) (sl : Value) (m0 : Nat) (g : Nat → Int) (sv : Value) (m : Nat) (V : Nat → Nat → Nat) (w : World) (hV : ∀ i c, V i c ≤ 255) (hs : ArgSl w sl m0 g) (hsv : ArgVs w sv m V) (hmx : m0 + m ≤ 1048576) (hAB : ¬ (TenP p n i o m0 g ∧ VecsP p n m V)) :
    CallsR Try.prog 4 #[.agg (tenC p n i o sl), sv] w (fun res _ => res = .bool true) := by
  refine calls_fr [.agg (tenC p n i o sl), sv] Try.func4 rfl Try.ntmps4 rfl fun a hF => ?_
  have hM : Mem w w [none, none, none, none, none, none, none, none, none, none] [] := MemX.start w 10
  change Fr 119 a [(0, .agg (tenC p n i o sl)), (1, sv)] at hF
  have hso := hs.one
  have hso2 := hsv.one
  refine sq ?_
  refine wp_region_lit ?_
  refine stR hF (d_box 0 hM hF rfl) rfl ?_
  rintro _ w' a ⟨b1, rfl, hM, -⟩ hF
  change Mem w w' [some (b1, tenC p n i o sl), none, none, none, none, none, none, none, none, none] [] at hM
  refine st hF (g_assign hF rfl) rfl fun a hF => ?_
  refine wpList_nil ?_
  refine tN ?_
  refine sq ?_
  refine wp_region_lit ?_
  refine st hF (g_assign hF rfl) rfl fun a hF => ?_
  refine wpList_nil ?_
  refine tN ?_
  refine sq ?_
  refine wp_region_lit ?_
  refine st hF (g_loadAgg ty_ag_30 hF rfl (hM.row 0 rfl) (by simp only [fnC_size, cells_size, vecC_size, tabC_size, planeC_size, tenC_size, smC_size, numC_size, numI_size, vecsC_size] <;> omega) (whole rfl)) rfl fun a hF => st hF (g_move hF rfl) rfl fun a hF => ?_
  refine stR hF (d_call Try.call10 hF (.cons rfl (.cons rfl .nil)) (szTensor_ok p n i o sl m0 (1048576) g _ (hs.ext hM.below) (by omega) (by omega))) rfl ?_
  rintro _ w' a ⟨hx, rfl⟩ hF
  have hM := hM.ext hx
  refine st hF (g_assign hF rfl) rfl fun a hF => ?_
  refine wpList_nil ?_
  refine tN ?_
  refine sq ?_
  refine sq ?_
  refine wp_region_lit ?_
  refine st hF (g_move hF rfl) rfl fun a hF => st hF (g_lss hF rfl rfl) rfl fun a hF => ?_
  refine wpList_nil ?_
  refine tN ?_
  refine c_cond hF rfl (fun h2 => ?_) (fun h2 => ?_)
  ·
   first | exact absurd rfl h2 | (exfalso; omega)
  ·
   refine wp_skip ?_
   refine tN ?_
   refine sq ?_
   refine wp_region_lit ?_
   refine st hF (g_move hF rfl) rfl fun a hF => st hF (g_move hF rfl) rfl fun a hF => ?_
   refine stR hF (d_call Try.call11 hF (.cons rfl (.cons rfl .nil)) (szVectorS_ok sv m (1048576 - m0) V _ (hsv.ext hM.below) (by omega) (by omega))) rfl ?_
   rintro _ w' a ⟨hx, rfl⟩ hF
   have hM := hM.ext hx
   refine st hF (g_assign hF rfl) rfl fun a hF => ?_
   refine wpList_nil ?_
   refine tN ?_
   refine sq ?_
   refine sq ?_
   refine wp_region_lit ?_
   refine st hF (g_move hF rfl) rfl fun a hF => st hF (g_lss hF rfl rfl) rfl fun a hF => ?_
   refine wpList_nil ?_
   refine tN ?_
   refine c_cond hF rfl (fun h3 => ?_) (fun h3 => ?_)
   ·
    first | exact absurd rfl h3 | (exfalso; omega)
   ·
    refine wp_skip ?_
    refine tN ?_
    refine sq ?_
    refine wp_region_lit ?_
    refine st hF (g_loadAgg ty_ag_30 hF rfl (hM.row 0 rfl) (by simp only [fnC_size, cells_size, vecC_size, tabC_size, planeC_size, tenC_size, smC_size, numC_size, numI_size, vecsC_size] <;> omega) (whole rfl)) rfl fun a hF => ?_
    refine stR hF (d_call Try.call13 hF (.cons rfl .nil) (toTensor_ok p n i o sl m0 g _ (hs.ext hM.below) (by omega))) rfl ?_
    rintro _ w' a ⟨hx, b4, rfl, hge, hbk⟩ hF
    have hM := hM.fill hx 1 hbk hge
    change Mem w w' [some (b1, tenC p n i o sl), some (b4, numI m0 g), none, none, none, none, none, none, none, none] [] at hM
    refine st hF (g_move hF rfl) rfl fun a hF => ?_
    refine stR hF (d_call Try.call14 hF (.cons rfl .nil) (toVectorS_ok sv m V _ (hsv.ext hM.below) (by omega))) rfl ?_
    rintro _ w' a ⟨hx, b5, rfl, hge, hbk⟩ hF
    have hM := hM.fill hx 2 hbk hge
    change Mem w w' [some (b1, tenC p n i o sl), some (b4, numI m0 g), some (b5, vecsC m V), none, none, none, none, none, none, none] [] at hM
    refine stR hF (d_call Try.call12 hF (.cons rfl (.cons rfl .nil)) (ValueS_A p n i o b4 m0 g b5 (m) (m) V _ hV (by omega) (by omega) (hM.row 1 rfl) (hM.row 2 rfl) hAB)) rfl ?_
    rintro _ w' a ⟨hx, rfl⟩ hF
    have hM := hM.ext hx
    refine st hF (g_move hF rfl) rfl fun a hF => st hF (g_extract hF rfl rfl) rfl fun a hF => st hF (g_extract hF rfl rfl) rfl fun a hF => st hF (g_assign hF rfl) rfl fun a hF => st hF (g_assign hF rfl) rfl fun a hF => ?_
    refine wpList_nil ?_
    refine tN ?_
    refine sq ?_
    refine wp_region_lit ?_
    refine st hF (g_loadAgg ty_ag_30 hF rfl (hM.row 0 rfl) (by simp only [fnC_size, cells_size, vecC_size, tabC_size, planeC_size, tenC_size, smC_size, numC_size, numI_size, vecsC_size] <;> omega) (whole rfl)) rfl fun a hF => ?_
    refine stR hF (d_call Try.call13 hF (.cons rfl .nil) (toTensor_ok p n i o sl m0 g _ (hs.ext hM.below) (by omega))) rfl ?_
    rintro _ w' a ⟨hx, b6, rfl, hge, hbk⟩ hF
    have hM := hM.fill hx 3 hbk hge
    change Mem w w' [some (b1, tenC p n i o sl), some (b4, numI m0 g), some (b5, vecsC m V), some (b6, numI m0 g), none, none, none, none, none, none] [] at hM
    refine stR hF (d_alloc 4 hM ty_ze_24) rfl ?_
    rintro _ w' a ⟨b7, rfl, hM, -⟩ hF
    change Mem w w' [some (b1, tenC p n i o sl), some (b4, numI m0 g), some (b5, vecsC m V), some (b6, numI m0 g), some (b7, tenC 0 0 0 0 (.slice none 0 0)), none, none, none, none, none] [] at hM
    refine stN hF (d_storeAgg 4 hM rfl ty_sz_24 hF rfl rfl (tenC_one rfl) (by simp only [fnC_size, cells_size, vecC_size, tabC_size, planeC_size, tenC_size, smC_size, numC_size, numI_size, vecsC_size]) (by simp only [fnC_size, cells_size, vecC_size, tabC_size, planeC_size, tenC_size, smC_size, numC_size, numI_size, vecsC_size] <;> omega) (splice_whole _ _ rfl)) ?_
    intro _ w' a hM hF
    change Mem w w' [some (b1, tenC p n i o sl), some (b4, numI m0 g), some (b5, vecsC m V), some (b6, numI m0 g), some (b7, tenC p n i o (.slice (some ⟨b6, 0, none⟩) m0 m0)), none, none, none, none, none] [] at hM
    refine wpList_nil ?_
    refine tN ?_
    refine sq ?_
    refine wp_region_lit ?_
    refine st hF (g_move hF rfl) rfl fun a hF => ?_
    refine stR hF (d_call Try.call14 hF (.cons rfl .nil) (toVectorS_ok sv m V _ (hsv.ext hM.below) (by omega))) rfl ?_
    rintro _ w' a ⟨hx, b8, rfl, hge, hbk⟩ hF
    have hM := hM.fill hx 5 hbk hge
    change Mem w w' [some (b1, tenC p n i o sl), some (b4, numI m0 g), some (b5, vecsC m V), some (b6, numI m0 g), some (b7, tenC p n i o (.slice (some ⟨b6, 0, none⟩) m0 m0)), some (b8, vecsC m V), none, none, none, none] [] at hM
    refine st hF (g_assign hF rfl) rfl fun a hF => ?_
    refine wpList_nil ?_
    refine tN ?_
    refine sq ?_
    refine wp_region_lit ?_
    refine st hF (g_loadAgg ty_ag_24 hF rfl (hM.row 4 rfl) (by simp only [fnC_size, cells_size, vecC_size, tabC_size, planeC_size, tenC_size, smC_size, numC_size, numI_size, vecsC_size] <;> omega) (whole rfl)) rfl fun a hF => st hF (g_move hF rfl) rfl fun a hF => ?_
    refine stR hF (d_call Try.call15 hF (.cons rfl (.cons rfl .nil)) (ValueI_A p n i o b6 m0 g b8 (m) (m) V _ hV (by omega) (by omega) (hM.row 3 rfl) (hM.row 5 rfl) hAB)) rfl ?_
    rintro _ w' a ⟨hx, rfl⟩ hF
    have hM := hM.ext hx
    refine st hF (g_move hF rfl) rfl fun a hF => st hF (g_extract hF rfl rfl) rfl fun a hF => st hF (g_extract hF rfl rfl) rfl fun a hF => st hF (g_assign hF rfl) rfl fun a hF => st hF (g_assign hF rfl) rfl fun a hF => ?_
    refine wpList_nil ?_
    refine tN ?_
    refine sq ?_
    refine sq ?_
    refine wp_region_lit ?_
    refine st hF (g_move hF rfl) rfl fun a hF => st hF (g_move hF rfl) rfl fun a hF => ?_
    refine stR hF (d_call Try.call16 hF (.cons rfl (.cons rfl .nil)) (eqInt64S_0 _)) rfl ?_
    rintro _ w' a ⟨hx, rfl⟩ hF
    have hM := hM.ext hx
    refine st hF (g_not hF rfl) rfl fun a hF => st hF (g_move hF rfl) rfl fun a hF => stY hF rfl rfl rfl (g_move hF rfl) rfl fun a hF => stY hF rfl rfl rfl (g_move hF rfl) rfl fun a hF => stY hF rfl rfl rfl (g_neq hF rfl rfl) rfl fun a hF => st hF (g_pickF hF rfl rfl) rfl fun a hF => ?_
    refine wpList_nil ?_
    refine tN ?_
    refine c_kF hF rfl (by decide) ?_
    refine wp_skip ?_
    refine tN ?_
    refine sq ?_
    refine sq ?_
    refine c_par 3 [6] [.val (.agg (tenC p n i o (.slice (some ⟨b6, 0, none⟩) m0 m0))), .val (.agg (tenC p n i o sl)), .own 6 (numI m0 g) (fun b => .agg (tenC p n i o (.slice (some ⟨b, 0, none⟩) m0 m0)))] hmix rfl hF rfl hM ⟨fun a w gG hF hS hd => by have hM := hS.mem rfl; exact par_val hS rfl (g_loadAgg ty_ag_24 hF rfl (hM.row 4 rfl) (by simp only [fnC_size, cells_size, vecC_size, tabC_size, planeC_size, tenC_size, smC_size, numC_size, numI_size, vecsC_size] <;> omega) (whole rfl)), fun a w gG hF hS hd => by have hM := hS.mem rfl; exact par_val hS rfl (g_loadAgg ty_ag_30 hF rfl (hM.row 0 rfl) (by simp only [fnC_size, cells_size, vecC_size, tabC_size, planeC_size, tenC_size, smC_size, numC_size, numI_size, vecsC_size] <;> omega) (whole rfl)), fun a w gG hF hS hd => by have hF := hF.ext1 55 (hd 1 rfl rfl); have hM := hS.mem rfl; exact par_own (by repeat constructor) hS rfl rfl rfl rfl (d_callOwnB 6 hS.1 (d_call Try.call13 hF (.cons rfl .nil) (toTensor_ok p n i o sl m0 g _ (hs.ext hM.below) (by omega)))), trivial⟩ ?_
    intro a w' L hF hS hq
    have hF := hF.ext1 54 (hq 0 rfl rfl)
    have hF := hF.ext1 55 (hq 1 rfl rfl)
    obtain ⟨hM, hL⟩ := hS
    obtain ⟨b10, hptr, hkk⟩ := hq 2 rfl rfl
    have hF := hF.ext1 56 hptr
    have hL := hL.take hkk
    obtain rfl := hL.eq
    change Mem w w' [some (b1, tenC p n i o sl), some (b4, numI m0 g), some (b5, vecsC m V), some (b6, numI m0 g), some (b7, tenC p n i o (.slice (some ⟨b6, 0, none⟩) m0 m0)), some (b8, vecsC m V), some (b10, numI m0 g), none, none, none] [] at hM
    change wpList Try.prog _ _ [_, _] _ _
    refine stR hF (d_call Try.call7 hF (.cons rfl (.cons rfl .nil)) (eqTensor_ok p n i o b6 b10 m0 g g _ (hM.row 3 rfl) (hM.row 6 rfl) (by omega) (fun _ _ => rfl))) rfl ?_
    rintro _ w' a ⟨hx, rfl⟩ hF
    have hM := hM.ext hx
    refine st hF (g_not hF rfl) rfl fun a hF => ?_
    refine wpList_nil ?_
    refine tN ?_
    refine c_Fl hF rfl ?_
    refine wp_skip ?_
    refine tN ?_
    refine sq ?_
    refine sq ?_
    refine wp_region_lit ?_
    refine st hF (g_move hF rfl) rfl fun a hF => st hF (g_move hF rfl) rfl fun a hF => ?_
    refine stR hF (d_call Try.call14 hF (.cons rfl .nil) (toVectorS_ok sv m V _ (hsv.ext hM.below) (by omega))) rfl ?_
    rintro _ w' a ⟨hx, b12, rfl, hge, hbk⟩ hF
    have hM := hM.fill hx 7 hbk hge
    change Mem w w' [some (b1, tenC p n i o sl), some (b4, numI m0 g), some (b5, vecsC m V), some (b6, numI m0 g), some (b7, tenC p n i o (.slice (some ⟨b6, 0, none⟩) m0 m0)), some (b8, vecsC m V), some (b10, numI m0 g), some (b12, vecsC m V), none, none] [] at hM
    refine stR hF (d_call Try.call17 hF (.cons rfl (.cons rfl .nil)) (eqVectorS_own b8 b12 m V _ (by omega) (hM.row 5 rfl) (hM.row 7 rfl) hV)) rfl ?_
    rintro _ w' a ⟨hx, rfl⟩ hF
    have hM := hM.ext hx
    refine st hF (g_not hF rfl) rfl fun a hF => ?_
    refine wpList_nil ?_
    refine tN ?_
    refine c_Fl hF rfl ?_
    refine wp_skip ?_
    refine tN ?_
    refine sq ?_
    refine wp_region_lit ?_
    refine st hF (g_assign hF rfl) rfl fun a hF => ?_
    refine wpList_nil ?_
    refine tN ?_
    refine sq ?_
    refine wp_region_lit ?_
    refine st hF (g_loadAgg ty_ag_24 hF rfl (hM.row 4 rfl) (by simp only [fnC_size, cells_size, vecC_size, tabC_size, planeC_size, tenC_size, smC_size, numC_size, numI_size, vecsC_size] <;> omega) (whole rfl)) rfl fun a hF => st hF (g_move hF rfl) rfl fun a hF => ?_
    refine stR hF (d_callX Try.call8 hF (.cons rfl (.cons rfl .nil)) (markTensor_ok p n i o b6 m0 (1) g _ (by omega) (by omega) (hM.row 3 rfl))) rfl ?_
    rintro _ w' a ⟨hx, rfl, hbk⟩ hF
    have hM := hM.upd 3 rfl hx hbk
    change Mem w w' [some (b1, tenC p n i o sl), some (b4, numI m0 g), some (b5, vecsC m V), some (b6, numC m0 (fun c => (1) + c)), some (b7, tenC p n i o (.slice (some ⟨b6, 0, none⟩) m0 m0)), some (b8, vecsC m V), some (b10, numI m0 g), some (b12, vecsC m V), none, none] [] at hM
    refine st hF (g_assign hF rfl) rfl fun a hF => ?_
    refine wpList_nil ?_
    refine tN ?_
    refine sq ?_
    refine wp_region_lit ?_
    refine st hF (g_move hF rfl) rfl fun a hF => st hF (g_move hF rfl) rfl fun a hF => ?_
    refine stR hF (d_callX Try.call18 hF (.cons rfl (.cons rfl .nil)) (markVectorS_any b8 m m (1 + m0) V _ (by omega) (by omega) (hM.row 5 rfl))) rfl ?_
    rintro _ w' a ⟨hx, rfl, csm, hbk⟩ hF
    have hM := hM.upd 5 rfl hx hbk
    change Mem w w' [some (b1, tenC p n i o sl), some (b4, numI m0 g), some (b5, vecsC m V), some (b6, numC m0 (fun c => (1) + c)), some (b7, tenC p n i o (.slice (some ⟨b6, 0, none⟩) m0 m0)), some (b8, csm), some (b10, numI m0 g), some (b12, vecsC m V), none, none] [] at hM
    refine st hF (g_assign hF rfl) rfl fun a hF => ?_
    refine wpList_nil ?_
    refine tN ?_
    refine sq ?_
    refine sq ?_
    refine wp_region_lit ?_
    refine st hF (g_move hF rfl) rfl fun a hF => st hF (g_lss hF rfl rfl) rfl fun a hF => st hF (g_move hF rfl) rfl fun a hF => ?_
    by_cases g14 : (((1 + m0 + m * 6 : Nat) : Int) : Int) < 0
    ·
     first | rw [decide_eq_true g14] at hF | simp only [decide_eq_true g14] at hF
     first | exact absurd rfl g14 | (exfalso; omega)
    ·
     first | rw [decide_eq_false g14] at hF | simp only [decide_eq_false g14] at hF
     refine stY hF rfl rfl rfl (g_move hF rfl) rfl fun a hF => stY hF rfl rfl rfl (g_move hF rfl) rfl fun a hF => ?_
     refine stYR hF rfl rfl rfl (d_call Try.call16 hF (.cons rfl (.cons rfl .nil)) (eqInt64S_0 _)) rfl ?_
     rintro _ w' a ⟨hx, rfl⟩ hF
     have hM := hM.ext hx
     refine stY hF rfl rfl rfl (g_not hF rfl) rfl fun a hF => st hF (g_pickF hF rfl rfl) rfl fun a hF => st hF (g_move hF rfl) rfl fun a hF => stY hF rfl rfl rfl (g_move hF rfl) rfl fun a hF => stY hF rfl rfl rfl (g_move hF rfl) rfl fun a hF => stY hF rfl rfl rfl (g_neq hF rfl rfl) rfl fun a hF => st hF (g_pickF hF rfl rfl) rfl fun a hF => ?_
     refine wpList_nil ?_
     refine tN ?_
     refine c_kF hF rfl (by decide) ?_
     refine wp_skip ?_
     refine tN ?_
     refine sq ?_
     refine wp_region_lit ?_
     refine st hF (g_assign hF rfl) rfl fun a hF => ?_
     refine wpList_nil ?_
     refine tN ?_
     refine sq ?_
     refine wp_region_lit ?_
     refine st hF (g_move hF rfl) rfl fun a hF => st hF (g_move hF rfl) rfl fun a hF => ?_
     refine stR hF (d_call Try.call19 hF (.cons rfl (.cons rfl .nil)) (markInt64S_0 (1) _ (by omega))) rfl ?_
     rintro _ w' a ⟨hx, rfl⟩ hF
     have hM := hM.ext hx
     refine st hF (g_assign hF rfl) rfl fun a hF => ?_
     refine wpList_nil ?_
     refine tN ?_
     refine sq ?_
     refine wp_region_lit ?_
     refine st hF (g_assign hF rfl) rfl fun a hF => ?_
     refine wpList_nil ?_
     refine tN ?_
     refine sq ?_
     refine wp_region_lit ?_
     refine st hF (g_move hF rfl) rfl fun a hF => st hF (g_move hF rfl) rfl fun a hF => ?_
     refine stR hF (d_call Try.call20 hF (.cons rfl (.cons rfl .nil)) (heldInt64S_0 (1) _ (by omega))) rfl ?_
     rintro _ w' a ⟨hx, rfl⟩ hF
     have hM := hM.ext hx
     refine st hF (g_assign hF rfl) rfl fun a hF => ?_
     refine wpList_nil ?_
     refine tN ?_
     refine sq ?_
     refine sq ?_
     refine wp_region_lit ?_
     refine st hF (g_move hF rfl) rfl fun a hF => st hF (g_lss hF rfl rfl) rfl fun a hF => ?_
     refine wpList_nil ?_
     refine tN ?_
     refine c_cond hF rfl (fun h16 => ?_) (fun h16 => ?_)
     ·
      first | exact absurd rfl h16 | (exfalso; omega)
     ·
      refine wp_skip ?_
      refine tN ?_
      refine sq ?_
      refine sq ?_
      refine wp_region_lit ?_
      refine st hF (g_move hF rfl) rfl fun a hF => st hF (g_move hF rfl) rfl fun a hF => st hF (g_neq hF rfl rfl) rfl fun a hF => ?_
      refine wpList_nil ?_
      refine tN ?_
      refine c_kF hF rfl (by decide) ?_
      refine wp_skip ?_
      refine tN ?_
      refine sq ?_
      refine wp_region_lit ?_
      refine st hF (g_loadAgg ty_ag_30 hF rfl (hM.row 0 rfl) (by simp only [fnC_size, cells_size, vecC_size, tabC_size, planeC_size, tenC_size, smC_size, numC_size, numI_size, vecsC_size] <;> omega) (whole rfl)) rfl fun a hF => ?_
      refine stR hF (d_call Try.call13 hF (.cons rfl .nil) (toTensor_ok p n i o sl m0 g _ (hs.ext hM.below) (by omega))) rfl ?_
      rintro _ w' a ⟨hx, b18, rfl, hge, hbk⟩ hF
      have hM := hM.fill hx 8 hbk hge
      change Mem w w' [some (b1, tenC p n i o sl), some (b4, numI m0 g), some (b5, vecsC m V), some (b6, numC m0 (fun c => (1) + c)), some (b7, tenC p n i o (.slice (some ⟨b6, 0, none⟩) m0 m0)), some (b8, csm), some (b10, numI m0 g), some (b12, vecsC m V), some (b18, numI m0 g), none] [] at hM
      refine st hF (g_move hF rfl) rfl fun a hF => ?_
      refine stR hF (d_call Try.call14 hF (.cons rfl .nil) (toVectorS_ok sv m V _ (hsv.ext hM.below) (by omega))) rfl ?_
      rintro _ w' a ⟨hx, b19, rfl, hge, hbk⟩ hF
      have hM := hM.fill hx 9 hbk hge
      change Mem w w' [some (b1, tenC p n i o sl), some (b4, numI m0 g), some (b5, vecsC m V), some (b6, numC m0 (fun c => (1) + c)), some (b7, tenC p n i o (.slice (some ⟨b6, 0, none⟩) m0 m0)), some (b8, csm), some (b10, numI m0 g), some (b12, vecsC m V), some (b18, numI m0 g), some (b19, vecsC m V)] [] at hM
      refine stR hF (d_call Try.call15 hF (.cons rfl (.cons rfl .nil)) (ValueI_A p n i o b18 m0 g b19 (m) (m) V _ hV (by omega) (by omega) (hM.row 8 rfl) (hM.row 9 rfl) hAB)) rfl ?_
      rintro _ w' a ⟨hx, rfl⟩ hF
      have hM := hM.ext hx
      refine st hF (g_move hF rfl) rfl fun a hF => st hF (g_extract hF rfl rfl) rfl fun a hF => st hF (g_extract hF rfl rfl) rfl fun a hF => st hF (g_assign hF rfl) rfl fun a hF => st hF (g_assign hF rfl) rfl fun a hF => ?_
      refine wpList_nil ?_
      refine tN ?_
      refine sq ?_
      refine sq ?_
      refine wp_region_lit ?_
      refine st hF (g_move hF rfl) rfl fun a hF => st hF (g_move hF rfl) rfl fun a hF => ?_
      refine stR hF (d_call Try.call16 hF (.cons rfl (.cons rfl .nil)) (eqInt64S_0 _)) rfl ?_
      rintro _ w' a ⟨hx, rfl⟩ hF
      have hM := hM.ext hx
      refine st hF (g_not hF rfl) rfl fun a hF => st hF (g_move hF rfl) rfl fun a hF => stY hF rfl rfl rfl (g_move hF rfl) rfl fun a hF => stY hF rfl rfl rfl (g_move hF rfl) rfl fun a hF => stY hF rfl rfl rfl (g_neq hF rfl rfl) rfl fun a hF => st hF (g_pickF hF rfl rfl) rfl fun a hF => ?_
      refine wpList_nil ?_
      refine tN ?_
      refine c_kF hF rfl (by decide) ?_
      refine wp_skip ?_
      refine tN ?_
      refine sq ?_
      refine wp_region_lit ?_
      refine st hF (g_assign hF rfl) rfl fun a hF => ?_
      refine wpList_nil ?_
      refine tN ?_
      refine sq ?_
      refine wp_region_lit ?_
      refine st hF (g_move hF rfl) rfl fun a hF => st hF (g_move hF rfl) rfl fun a hF => ?_
      refine stR hF (d_call Try.call20 hF (.cons rfl (.cons rfl .nil)) (heldInt64S_0 (1) _ (by omega))) rfl ?_
      rintro _ w' a ⟨hx, rfl⟩ hF
      have hM := hM.ext hx
      refine st hF (g_assign hF rfl) rfl fun a hF => ?_
      refine wpList_nil ?_
      refine tN ?_
      refine sq ?_
      refine sq ?_
      refine wp_region_lit ?_
      refine st hF (g_move hF rfl) rfl fun a hF => st hF (g_lss hF rfl rfl) rfl fun a hF => ?_
      refine wpList_nil ?_
      refine tN ?_
      refine c_kF hF rfl h16 ?_
      refine wp_skip ?_
      refine tN ?_
      refine sq ?_
      refine sq ?_
      refine wp_region_lit ?_
      refine st hF (g_move hF rfl) rfl fun a hF => st hF (g_move hF rfl) rfl fun a hF => st hF (g_neq hF rfl rfl) rfl fun a hF => ?_
      refine wpList_nil ?_
      refine tN ?_
      refine c_kF hF rfl (by decide) ?_
      refine wp_skip ?_
      refine tN ?_
      refine sq ?_
      refine wp_region_lit ?_
      refine st hF (g_assign hF rfl) rfl fun a hF => ?_
      refine wpList_nil ?_
      refine tN ?_
      refine wp_ret ?_
      refine fin1 rfl hF.defers (res_tmp hF rfl) ⟨_, rfl, hM.below, ?_⟩
      show _ = _
      rfl

theorem law_ValueAtR (p n i o : Int) (sl : Value) (m0 : Nat) (g : Nat → Int) (sv : Value) (m : Nat) (V : Nat → Nat → Nat) (w : World) (hV : ∀ i c, V i c ≤ 255) (hs : ArgSl w sl m0 g) (hsv : ArgVs w sv m V) (hmx : m0 + m ≤ 1048576) (hT : TenP p n i o m0 g) (hvs : VecsP p n m V) (hR : ¬ (m : Int) = i) :
    CallsR Try.prog 4 #[.agg (tenC p n i o sl), sv] w (fun res _ => res = .bool true) := by
  refine calls_fr [.agg (tenC p n i o sl), sv] Try.func4 rfl Try.ntmps4 rfl fun a hF => ?_
  have hM : Mem w w [none, none, none, none, none, none, none, none, none, none] [] := MemX.start w 10
  change Fr 119 a [(0, .agg (tenC p n i o sl)), (1, sv)] at hF
  have hso := hs.one
  have hso2 := hsv.one
  refine sq ?_
  refine wp_region_lit ?_
  refine stR hF (d_box 0 hM hF rfl) rfl ?_
  rintro _ w' a ⟨b1, rfl, hM, -⟩ hF
  change Mem w w' [some (b1, tenC p n i o sl), none, none, none, none, none, none, none, none, none] [] at hM
  refine st hF (g_assign hF rfl) rfl fun a hF => ?_
  refine wpList_nil ?_
  refine tN ?_
  refine sq ?_
  refine wp_region_lit ?_
  refine st hF (g_assign hF rfl) rfl fun a hF => ?_
  refine wpList_nil ?_
  refine tN ?_
  refine sq ?_
  refine wp_region_lit ?_
  refine st hF (g_loadAgg ty_ag_30 hF rfl (hM.row 0 rfl) (by simp only [fnC_size, cells_size, vecC_size, tabC_size, planeC_size, tenC_size, smC_size, numC_size, numI_size, vecsC_size] <;> omega) (whole rfl)) rfl fun a hF => st hF (g_move hF rfl) rfl fun a hF => ?_
  refine stR hF (d_call Try.call10 hF (.cons rfl (.cons rfl .nil)) (szTensor_ok p n i o sl m0 (1048576) g _ (hs.ext hM.below) (by omega) (by omega))) rfl ?_
  rintro _ w' a ⟨hx, rfl⟩ hF
  have hM := hM.ext hx
  refine st hF (g_assign hF rfl) rfl fun a hF => ?_
  refine wpList_nil ?_
  refine tN ?_
  refine sq ?_
  refine sq ?_
  refine wp_region_lit ?_
  refine st hF (g_move hF rfl) rfl fun a hF => st hF (g_lss hF rfl rfl) rfl fun a hF => ?_
  refine wpList_nil ?_
  refine tN ?_
  refine c_cond hF rfl (fun h2 => ?_) (fun h2 => ?_)
  ·
   first | exact absurd rfl h2 | (exfalso; omega)
  ·
   refine wp_skip ?_
   refine tN ?_
   refine sq ?_
   refine wp_region_lit ?_
   refine st hF (g_move hF rfl) rfl fun a hF => st hF (g_move hF rfl) rfl fun a hF => ?_
   refine stR hF (d_call Try.call11 hF (.cons rfl (.cons rfl .nil)) (szVectorS_ok sv m (1048576 - m0) V _ (hsv.ext hM.below) (by omega) (by omega))) rfl ?_
   rintro _ w' a ⟨hx, rfl⟩ hF
   have hM := hM.ext hx
   refine st hF (g_assign hF rfl) rfl fun a hF => ?_
   refine wpList_nil ?_
   refine tN ?_
   refine sq ?_
   refine sq ?_
   refine wp_region_lit ?_
   refine st hF (g_move hF rfl) rfl fun a hF => st hF (g_lss hF rfl rfl) rfl fun a hF => ?_
   refine wpList_nil ?_
   refine tN ?_
   refine c_cond hF rfl (fun h3 => ?_) (fun h3 => ?_)
   ·
    first | exact absurd rfl h3 | (exfalso; omega)
   ·
    refine wp_skip ?_
    refine tN ?_
    refine sq ?_
    refine wp_region_lit ?_
    refine st hF (g_loadAgg ty_ag_30 hF rfl (hM.row 0 rfl) (by simp only [fnC_size, cells_size, vecC_size, tabC_size, planeC_size, tenC_size, smC_size, numC_size, numI_size, vecsC_size] <;> omega) (whole rfl)) rfl fun a hF => ?_
    refine stR hF (d_call Try.call13 hF (.cons rfl .nil) (toTensor_ok p n i o sl m0 g _ (hs.ext hM.below) (by omega))) rfl ?_
    rintro _ w' a ⟨hx, b4, rfl, hge, hbk⟩ hF
    have hM := hM.fill hx 1 hbk hge
    change Mem w w' [some (b1, tenC p n i o sl), some (b4, numI m0 g), none, none, none, none, none, none, none, none] [] at hM
    refine st hF (g_move hF rfl) rfl fun a hF => ?_
    refine stR hF (d_call Try.call14 hF (.cons rfl .nil) (toVectorS_ok sv m V _ (hsv.ext hM.below) (by omega))) rfl ?_
    rintro _ w' a ⟨hx, b5, rfl, hge, hbk⟩ hF
    have hM := hM.fill hx 2 hbk hge
    change Mem w w' [some (b1, tenC p n i o sl), some (b4, numI m0 g), some (b5, vecsC m V), none, none, none, none, none, none, none] [] at hM
    refine stR hF (d_call Try.call12 hF (.cons rfl (.cons rfl .nil)) (ValueS_R p n i o b4 m0 g b5 (m) (m) V _ hV (by omega) (by omega) (hM.row 1 rfl) (hM.row 2 rfl) hT hvs hR)) rfl ?_
    rintro _ w' a ⟨hx, rfl⟩ hF
    have hM := hM.ext hx
    refine st hF (g_move hF rfl) rfl fun a hF => st hF (g_extract hF rfl rfl) rfl fun a hF => st hF (g_extract hF rfl rfl) rfl fun a hF => st hF (g_assign hF rfl) rfl fun a hF => st hF (g_assign hF rfl) rfl fun a hF => ?_
    refine wpList_nil ?_
    refine tN ?_
    refine sq ?_
    refine wp_region_lit ?_
    refine st hF (g_loadAgg ty_ag_30 hF rfl (hM.row 0 rfl) (by simp only [fnC_size, cells_size, vecC_size, tabC_size, planeC_size, tenC_size, smC_size, numC_size, numI_size, vecsC_size] <;> omega) (whole rfl)) rfl fun a hF => ?_
    refine stR hF (d_call Try.call13 hF (.cons rfl .nil) (toTensor_ok p n i o sl m0 g _ (hs.ext hM.below) (by omega))) rfl ?_
    rintro _ w' a ⟨hx, b6, rfl, hge, hbk⟩ hF
    have hM := hM.fill hx 3 hbk hge
    change Mem w w' [some (b1, tenC p n i o sl), some (b4, numI m0 g), some (b5, vecsC m V), some (b6, numI m0 g), none, none, none, none, none, none] [] at hM
    refine stR hF (d_alloc 4 hM ty_ze_24) rfl ?_
    rintro _ w' a ⟨b7, rfl, hM, -⟩ hF
    change Mem w w' [some (b1, tenC p n i o sl), some (b4, numI m0 g), some (b5, vecsC m V), some (b6, numI m0 g), some (b7, tenC 0 0 0 0 (.slice none 0 0)), none, none, none, none, none] [] at hM
    refine stN hF (d_storeAgg 4 hM rfl ty_sz_24 hF rfl rfl (tenC_one rfl) (by simp only [fnC_size, cells_size, vecC_size, tabC_size, planeC_size, tenC_size, smC_size, numC_size, numI_size, vecsC_size]) (by simp only [fnC_size, cells_size, vecC_size, tabC_size, planeC_size, tenC_size, smC_size, numC_size, numI_size, vecsC_size] <;> omega) (splice_whole _ _ rfl)) ?_
    intro _ w' a hM hF
    change Mem w w' [some (b1, tenC p n i o sl), some (b4, numI m0 g), some (b5, vecsC m V), some (b6, numI m0 g), some (b7, tenC p n i o (.slice (some ⟨b6, 0, none⟩) m0 m0)), none, none, none, none, none] [] at hM
    refine wpList_nil ?_
    refine tN ?_
    refine sq ?_
    refine wp_region_lit ?_
    refine st hF (g_move hF rfl) rfl fun a hF => ?_
    refine stR hF (d_call Try.call14 hF (.cons rfl .nil) (toVectorS_ok sv m V _ (hsv.ext hM.below) (by omega))) rfl ?_
    rintro _ w' a ⟨hx, b8, rfl, hge, hbk⟩ hF
    have hM := hM.fill hx 5 hbk hge
    change Mem w w' [some (b1, tenC p n i o sl), some (b4, numI m0 g), some (b5, vecsC m V), some (b6, numI m0 g), some (b7, tenC p n i o (.slice (some ⟨b6, 0, none⟩) m0 m0)), some (b8, vecsC m V), none, none, none, none] [] at hM
    refine st hF (g_assign hF rfl) rfl fun a hF => ?_
    refine wpList_nil ?_
    refine tN ?_
    refine sq ?_
    refine wp_region_lit ?_
    refine st hF (g_loadAgg ty_ag_24 hF rfl (hM.row 4 rfl) (by simp only [fnC_size, cells_size, vecC_size, tabC_size, planeC_size, tenC_size, smC_size, numC_size, numI_size, vecsC_size] <;> omega) (whole rfl)) rfl fun a hF => st hF (g_move hF rfl) rfl fun a hF => ?_
    refine stR hF (d_call Try.call15 hF (.cons rfl (.cons rfl .nil)) (ValueI_R p n i o b6 m0 g b8 (m) (m) V _ hV (by omega) (by omega) (hM.row 3 rfl) (hM.row 5 rfl) hT hvs hR)) rfl ?_
    rintro _ w' a ⟨hx, rfl⟩ hF
    have hM := hM.ext hx
    refine st hF (g_move hF rfl) rfl fun a hF => st hF (g_extract hF rfl rfl) rfl fun a hF => st hF (g_extract hF rfl rfl) rfl fun a hF => st hF (g_assign hF rfl) rfl fun a hF => st hF (g_assign hF rfl) rfl fun a hF => ?_
    refine wpList_nil ?_
    refine tN ?_
    refine sq ?_
    refine sq ?_
    refine wp_region_lit ?_
    refine st hF (g_move hF rfl) rfl fun a hF => st hF (g_move hF rfl) rfl fun a hF => ?_
    refine stR hF (d_call Try.call16 hF (.cons rfl (.cons rfl .nil)) (eqInt64S_0 _)) rfl ?_
    rintro _ w' a ⟨hx, rfl⟩ hF
    have hM := hM.ext hx
    refine st hF (g_not hF rfl) rfl fun a hF => st hF (g_move hF rfl) rfl fun a hF => stY hF rfl rfl rfl (g_move hF rfl) rfl fun a hF => stY hF rfl rfl rfl (g_move hF rfl) rfl fun a hF => stY hF rfl rfl rfl (g_neq hF rfl rfl) rfl fun a hF => st hF (g_pickF hF rfl rfl) rfl fun a hF => ?_
    refine wpList_nil ?_
    refine tN ?_
    refine c_kF hF rfl (by decide) ?_
    refine wp_skip ?_
    refine tN ?_
    refine sq ?_
    refine sq ?_
    refine c_par 3 [6] [.val (.agg (tenC p n i o (.slice (some ⟨b6, 0, none⟩) m0 m0))), .val (.agg (tenC p n i o sl)), .own 6 (numI m0 g) (fun b => .agg (tenC p n i o (.slice (some ⟨b, 0, none⟩) m0 m0)))] hmix rfl hF rfl hM ⟨fun a w gG hF hS hd => by have hM := hS.mem rfl; exact par_val hS rfl (g_loadAgg ty_ag_24 hF rfl (hM.row 4 rfl) (by simp only [fnC_size, cells_size, vecC_size, tabC_size, planeC_size, tenC_size, smC_size, numC_size, numI_size, vecsC_size] <;> omega) (whole rfl)), fun a w gG hF hS hd => by have hM := hS.mem rfl; exact par_val hS rfl (g_loadAgg ty_ag_30 hF rfl (hM.row 0 rfl) (by simp only [fnC_size, cells_size, vecC_size, tabC_size, planeC_size, tenC_size, smC_size, numC_size, numI_size, vecsC_size] <;> omega) (whole rfl)), fun a w gG hF hS hd => by have hF := hF.ext1 55 (hd 1 rfl rfl); have hM := hS.mem rfl; exact par_own (by repeat constructor) hS rfl rfl rfl rfl (d_callOwnB 6 hS.1 (d_call Try.call13 hF (.cons rfl .nil) (toTensor_ok p n i o sl m0 g _ (hs.ext hM.below) (by omega)))), trivial⟩ ?_
    intro a w' L hF hS hq
    have hF := hF.ext1 54 (hq 0 rfl rfl)
    have hF := hF.ext1 55 (hq 1 rfl rfl)
    obtain ⟨hM, hL⟩ := hS
    obtain ⟨b10, hptr, hkk⟩ := hq 2 rfl rfl
    have hF := hF.ext1 56 hptr
    have hL := hL.take hkk
    obtain rfl := hL.eq
    change Mem w w' [some (b1, tenC p n i o sl), some (b4, numI m0 g), some (b5, vecsC m V), some (b6, numI m0 g), some (b7, tenC p n i o (.slice (some ⟨b6, 0, none⟩) m0 m0)), some (b8, vecsC m V), some (b10, numI m0 g), none, none, none] [] at hM
    change wpList Try.prog _ _ [_, _] _ _
    refine stR hF (d_call Try.call7 hF (.cons rfl (.cons rfl .nil)) (eqTensor_ok p n i o b6 b10 m0 g g _ (hM.row 3 rfl) (hM.row 6 rfl) (by omega) (fun _ _ => rfl))) rfl ?_
    rintro _ w' a ⟨hx, rfl⟩ hF
    have hM := hM.ext hx
    refine st hF (g_not hF rfl) rfl fun a hF => ?_
    refine wpList_nil ?_
    refine tN ?_
    refine c_Fl hF rfl ?_
    refine wp_skip ?_
    refine tN ?_
    refine sq ?_
    refine sq ?_
    refine wp_region_lit ?_
    refine st hF (g_move hF rfl) rfl fun a hF => st hF (g_move hF rfl) rfl fun a hF => ?_
    refine stR hF (d_call Try.call14 hF (.cons rfl .nil) (toVectorS_ok sv m V _ (hsv.ext hM.below) (by omega))) rfl ?_
    rintro _ w' a ⟨hx, b12, rfl, hge, hbk⟩ hF
    have hM := hM.fill hx 7 hbk hge
    change Mem w w' [some (b1, tenC p n i o sl), some (b4, numI m0 g), some (b5, vecsC m V), some (b6, numI m0 g), some (b7, tenC p n i o (.slice (some ⟨b6, 0, none⟩) m0 m0)), some (b8, vecsC m V), some (b10, numI m0 g), some (b12, vecsC m V), none, none] [] at hM
    refine stR hF (d_call Try.call17 hF (.cons rfl (.cons rfl .nil)) (eqVectorS_own b8 b12 m V _ (by omega) (hM.row 5 rfl) (hM.row 7 rfl) hV)) rfl ?_
    rintro _ w' a ⟨hx, rfl⟩ hF
    have hM := hM.ext hx
    refine st hF (g_not hF rfl) rfl fun a hF => ?_
    refine wpList_nil ?_
    refine tN ?_
    refine c_Fl hF rfl ?_
    refine wp_skip ?_
    refine tN ?_
    refine sq ?_
    refine wp_region_lit ?_
    refine st hF (g_assign hF rfl) rfl fun a hF => ?_
    refine wpList_nil ?_
    refine tN ?_
    refine sq ?_
    refine wp_region_lit ?_
    refine st hF (g_loadAgg ty_ag_24 hF rfl (hM.row 4 rfl) (by simp only [fnC_size, cells_size, vecC_size, tabC_size, planeC_size, tenC_size, smC_size, numC_size, numI_size, vecsC_size] <;> omega) (whole rfl)) rfl fun a hF => st hF (g_move hF rfl) rfl fun a hF => ?_
    refine stR hF (d_callX Try.call8 hF (.cons rfl (.cons rfl .nil)) (markTensor_ok p n i o b6 m0 (1) g _ (by omega) (by omega) (hM.row 3 rfl))) rfl ?_
    rintro _ w' a ⟨hx, rfl, hbk⟩ hF
    have hM := hM.upd 3 rfl hx hbk
    change Mem w w' [some (b1, tenC p n i o sl), some (b4, numI m0 g), some (b5, vecsC m V), some (b6, numC m0 (fun c => (1) + c)), some (b7, tenC p n i o (.slice (some ⟨b6, 0, none⟩) m0 m0)), some (b8, vecsC m V), some (b10, numI m0 g), some (b12, vecsC m V), none, none] [] at hM
    refine st hF (g_assign hF rfl) rfl fun a hF => ?_
    refine wpList_nil ?_
    refine tN ?_
    refine sq ?_
    refine wp_region_lit ?_
    refine st hF (g_move hF rfl) rfl fun a hF => st hF (g_move hF rfl) rfl fun a hF => ?_
    refine stR hF (d_callX Try.call18 hF (.cons rfl (.cons rfl .nil)) (markVectorS_any b8 m m (1 + m0) V _ (by omega) (by omega) (hM.row 5 rfl))) rfl ?_
    rintro _ w' a ⟨hx, rfl, csm, hbk⟩ hF
    have hM := hM.upd 5 rfl hx hbk
    change Mem w w' [some (b1, tenC p n i o sl), some (b4, numI m0 g), some (b5, vecsC m V), some (b6, numC m0 (fun c => (1) + c)), some (b7, tenC p n i o (.slice (some ⟨b6, 0, none⟩) m0 m0)), some (b8, csm), some (b10, numI m0 g), some (b12, vecsC m V), none, none] [] at hM
    refine st hF (g_assign hF rfl) rfl fun a hF => ?_
    refine wpList_nil ?_
    refine tN ?_
    refine sq ?_
    refine sq ?_
    refine wp_region_lit ?_
    refine st hF (g_move hF rfl) rfl fun a hF => st hF (g_lss hF rfl rfl) rfl fun a hF => st hF (g_move hF rfl) rfl fun a hF => ?_
    by_cases g14 : (((1 + m0 + m * 6 : Nat) : Int) : Int) < 0
    ·
     first | rw [decide_eq_true g14] at hF | simp only [decide_eq_true g14] at hF
     first | exact absurd rfl g14 | (exfalso; omega)
    ·
     first | rw [decide_eq_false g14] at hF | simp only [decide_eq_false g14] at hF
     refine stY hF rfl rfl rfl (g_move hF rfl) rfl fun a hF => stY hF rfl rfl rfl (g_move hF rfl) rfl fun a hF => ?_
     refine stYR hF rfl rfl rfl (d_call Try.call16 hF (.cons rfl (.cons rfl .nil)) (eqInt64S_0 _)) rfl ?_
     rintro _ w' a ⟨hx, rfl⟩ hF
     have hM := hM.ext hx
     refine stY hF rfl rfl rfl (g_not hF rfl) rfl fun a hF => st hF (g_pickF hF rfl rfl) rfl fun a hF => st hF (g_move hF rfl) rfl fun a hF => stY hF rfl rfl rfl (g_move hF rfl) rfl fun a hF => stY hF rfl rfl rfl (g_move hF rfl) rfl fun a hF => stY hF rfl rfl rfl (g_neq hF rfl rfl) rfl fun a hF => st hF (g_pickF hF rfl rfl) rfl fun a hF => ?_
     refine wpList_nil ?_
     refine tN ?_
     refine c_kF hF rfl (by decide) ?_
     refine wp_skip ?_
     refine tN ?_
     refine sq ?_
     refine wp_region_lit ?_
     refine st hF (g_assign hF rfl) rfl fun a hF => ?_
     refine wpList_nil ?_
     refine tN ?_
     refine sq ?_
     refine wp_region_lit ?_
     refine st hF (g_move hF rfl) rfl fun a hF => st hF (g_move hF rfl) rfl fun a hF => ?_
     refine stR hF (d_call Try.call19 hF (.cons rfl (.cons rfl .nil)) (markInt64S_0 (1) _ (by omega))) rfl ?_
     rintro _ w' a ⟨hx, rfl⟩ hF
     have hM := hM.ext hx
     refine st hF (g_assign hF rfl) rfl fun a hF => ?_
     refine wpList_nil ?_
     refine tN ?_
     refine sq ?_
     refine wp_region_lit ?_
     refine st hF (g_assign hF rfl) rfl fun a hF => ?_
     refine wpList_nil ?_
     refine tN ?_
     refine sq ?_
     refine wp_region_lit ?_
     refine st hF (g_move hF rfl) rfl fun a hF => st hF (g_move hF rfl) rfl fun a hF => ?_
     refine stR hF (d_call Try.call20 hF (.cons rfl (.cons rfl .nil)) (heldInt64S_0 (1) _ (by omega))) rfl ?_
     rintro _ w' a ⟨hx, rfl⟩ hF
     have hM := hM.ext hx
     refine st hF (g_assign hF rfl) rfl fun a hF => ?_
     refine wpList_nil ?_
     refine tN ?_
     refine sq ?_
     refine sq ?_
     refine wp_region_lit ?_
     refine st hF (g_move hF rfl) rfl fun a hF => st hF (g_lss hF rfl rfl) rfl fun a hF => ?_
     refine wpList_nil ?_
     refine tN ?_
     refine c_cond hF rfl (fun h16 => ?_) (fun h16 => ?_)
     ·
      first | exact absurd rfl h16 | (exfalso; omega)
     ·
      refine wp_skip ?_
      refine tN ?_
      refine sq ?_
      refine sq ?_
      refine wp_region_lit ?_
      refine st hF (g_move hF rfl) rfl fun a hF => st hF (g_move hF rfl) rfl fun a hF => st hF (g_neq hF rfl rfl) rfl fun a hF => ?_
      refine wpList_nil ?_
      refine tN ?_
      refine c_kF hF rfl (by decide) ?_
      refine wp_skip ?_
      refine tN ?_
      refine sq ?_
      refine wp_region_lit ?_
      refine st hF (g_loadAgg ty_ag_30 hF rfl (hM.row 0 rfl) (by simp only [fnC_size, cells_size, vecC_size, tabC_size, planeC_size, tenC_size, smC_size, numC_size, numI_size, vecsC_size] <;> omega) (whole rfl)) rfl fun a hF => ?_
      refine stR hF (d_call Try.call13 hF (.cons rfl .nil) (toTensor_ok p n i o sl m0 g _ (hs.ext hM.below) (by omega))) rfl ?_
      rintro _ w' a ⟨hx, b18, rfl, hge, hbk⟩ hF
      have hM := hM.fill hx 8 hbk hge
      change Mem w w' [some (b1, tenC p n i o sl), some (b4, numI m0 g), some (b5, vecsC m V), some (b6, numC m0 (fun c => (1) + c)), some (b7, tenC p n i o (.slice (some ⟨b6, 0, none⟩) m0 m0)), some (b8, csm), some (b10, numI m0 g), some (b12, vecsC m V), some (b18, numI m0 g), none] [] at hM
      refine st hF (g_move hF rfl) rfl fun a hF => ?_
      refine stR hF (d_call Try.call14 hF (.cons rfl .nil) (toVectorS_ok sv m V _ (hsv.ext hM.below) (by omega))) rfl ?_
      rintro _ w' a ⟨hx, b19, rfl, hge, hbk⟩ hF
      have hM := hM.fill hx 9 hbk hge
      change Mem w w' [some (b1, tenC p n i o sl), some (b4, numI m0 g), some (b5, vecsC m V), some (b6, numC m0 (fun c => (1) + c)), some (b7, tenC p n i o (.slice (some ⟨b6, 0, none⟩) m0 m0)), some (b8, csm), some (b10, numI m0 g), some (b12, vecsC m V), some (b18, numI m0 g), some (b19, vecsC m V)] [] at hM
      refine stR hF (d_call Try.call15 hF (.cons rfl (.cons rfl .nil)) (ValueI_R p n i o b18 m0 g b19 (m) (m) V _ hV (by omega) (by omega) (hM.row 8 rfl) (hM.row 9 rfl) hT hvs hR)) rfl ?_
      rintro _ w' a ⟨hx, rfl⟩ hF
      have hM := hM.ext hx
      refine st hF (g_move hF rfl) rfl fun a hF => st hF (g_extract hF rfl rfl) rfl fun a hF => st hF (g_extract hF rfl rfl) rfl fun a hF => st hF (g_assign hF rfl) rfl fun a hF => st hF (g_assign hF rfl) rfl fun a hF => ?_
      refine wpList_nil ?_
      refine tN ?_
      refine sq ?_
      refine sq ?_
      refine wp_region_lit ?_
      refine st hF (g_move hF rfl) rfl fun a hF => st hF (g_move hF rfl) rfl fun a hF => ?_
      refine stR hF (d_call Try.call16 hF (.cons rfl (.cons rfl .nil)) (eqInt64S_0 _)) rfl ?_
      rintro _ w' a ⟨hx, rfl⟩ hF
      have hM := hM.ext hx
      refine st hF (g_not hF rfl) rfl fun a hF => st hF (g_move hF rfl) rfl fun a hF => stY hF rfl rfl rfl (g_move hF rfl) rfl fun a hF => stY hF rfl rfl rfl (g_move hF rfl) rfl fun a hF => stY hF rfl rfl rfl (g_neq hF rfl rfl) rfl fun a hF => st hF (g_pickF hF rfl rfl) rfl fun a hF => ?_
      refine wpList_nil ?_
      refine tN ?_
      refine c_kF hF rfl (by decide) ?_
      refine wp_skip ?_
      refine tN ?_
      refine sq ?_
      refine wp_region_lit ?_
      refine st hF (g_assign hF rfl) rfl fun a hF => ?_
      refine wpList_nil ?_
      refine tN ?_
      refine sq ?_
      refine wp_region_lit ?_
      refine st hF (g_move hF rfl) rfl fun a hF => st hF (g_move hF rfl) rfl fun a hF => ?_
      refine stR hF (d_call Try.call20 hF (.cons rfl (.cons rfl .nil)) (heldInt64S_0 (1) _ (by omega))) rfl ?_
      rintro _ w' a ⟨hx, rfl⟩ hF
      have hM := hM.ext hx
      refine st hF (g_assign hF rfl) rfl fun a hF => ?_
      refine wpList_nil ?_
      refine tN ?_
      refine sq ?_
      refine sq ?_
      refine wp_region_lit ?_
      refine st hF (g_move hF rfl) rfl fun a hF => st hF (g_lss hF rfl rfl) rfl fun a hF => ?_
      refine wpList_nil ?_
      refine tN ?_
      refine c_kF hF rfl h16 ?_
      refine wp_skip ?_
      refine tN ?_
      refine sq ?_
      refine sq ?_
      refine wp_region_lit ?_
      refine st hF (g_move hF rfl) rfl fun a hF => st hF (g_move hF rfl) rfl fun a hF => st hF (g_neq hF rfl rfl) rfl fun a hF => ?_
      refine wpList_nil ?_
      refine tN ?_
      refine c_kF hF rfl (by decide) ?_
      refine wp_skip ?_
      refine tN ?_
      refine sq ?_
      refine wp_region_lit ?_
      refine st hF (g_assign hF rfl) rfl fun a hF => ?_
      refine wpList_nil ?_
      refine tN ?_
      refine wp_ret ?_
      refine fin1 rfl hF.defers (res_tmp hF rfl) ⟨_, rfl, hM.below, ?_⟩
      show _ = _
      rfl

theorem law_ValueAtZl (p n i o : Int) (sl : Value) (m0 : Nat) (g : Nat → Int) (sv : Value) (m : Nat) (V : Nat → Nat → Nat) (w : World) (hV : ∀ i c, V i c ≤ 255) (hs : ArgSl w sl m0 g) (hsv : ArgVs w sv m V) (hmx : 1048576 < m0) (hml : m0 ≤ maxLen) :
    CallsR Try.prog 4 #[.agg (tenC p n i o sl), sv] w (fun res _ => res = .bool true) := by
  refine calls_fr [.agg (tenC p n i o sl), sv] Try.func4 rfl Try.ntmps4 rfl fun a hF => ?_
  have hM : Mem w w [none, none, none, none, none, none, none, none, none, none] [] := MemX.start w 10
  change Fr 119 a [(0, .agg (tenC p n i o sl)), (1, sv)] at hF
  have hso := hs.one
  have hso2 := hsv.one
  have hml2 := hml
  unfold maxLen at hml2
  refine sq ?_
  refine wp_region_lit ?_
  refine stR hF (d_box 0 hM hF rfl) rfl ?_
  rintro _ w' a ⟨b1, rfl, hM, -⟩ hF
  change Mem w w' [some (b1, tenC p n i o sl), none, none, none, none, none, none, none, none, none] [] at hM
  refine st hF (g_assign hF rfl) rfl fun a hF => ?_
  refine wpList_nil ?_
  refine tN ?_
  refine sq ?_
  refine wp_region_lit ?_
  refine st hF (g_assign hF rfl) rfl fun a hF => ?_
  refine wpList_nil ?_
  refine tN ?_
  refine sq ?_
  refine wp_region_lit ?_
  refine st hF (g_loadAgg ty_ag_30 hF rfl (hM.row 0 rfl) (by simp only [fnC_size, cells_size, vecC_size, tabC_size, planeC_size, tenC_size, smC_size, numC_size, numI_size, vecsC_size] <;> omega) (whole rfl)) rfl fun a hF => st hF (g_move hF rfl) rfl fun a hF => ?_
  refine stR hF (d_call Try.call10 hF (.cons rfl (.cons rfl .nil)) (szTensor_no p n i o sl m0 (1048576) g _ (hs.ext hM.below) (by omega) (by omega) (by unfold maxLen at *; omega))) rfl ?_
  rintro _ w' a ⟨hx, rfl⟩ hF
  have hM := hM.ext hx
  refine st hF (g_assign hF rfl) rfl fun a hF => ?_
  refine wpList_nil ?_
  refine tN ?_
  refine sq ?_
  refine sq ?_
  refine wp_region_lit ?_
  refine st hF (g_move hF rfl) rfl fun a hF => st hF (g_lss hF rfl rfl) rfl fun a hF => ?_
  refine wpList_nil ?_
  refine tN ?_
  refine c_cond hF rfl (fun h2 => ?_) (fun h2 => ?_)
  ·
   refine sq ?_
   refine wp_region_lit ?_
   refine st hF (g_assign hF rfl) rfl fun a hF => ?_
   refine wpList_nil ?_
   refine tN ?_
   refine wp_ret ?_
   refine tR ?_
   refine fin1 rfl hF.defers (res_tmp hF rfl) ⟨_, rfl, hM.below, ?_⟩
   show _ = _
   rfl
  ·
   exfalso; omega

theorem law_ValueAtZv (p n i o : Int) (sl : Value) (m0 : Nat) (g : Nat → Int) (sv : Value) (m : Nat) (V : Nat → Nat → Nat) (w : World) (hV : ∀ i c, V i c ≤ 255) (hs : ArgSl w sl m0 g) (hsv : ArgVs w sv m V) (hm0 : m0 ≤ 1048576) (hmx : 1048576 < m0 + m) (hml : m ≤ maxLen) :
    CallsR Try.prog 4 #[.agg (tenC p n i o sl), sv] w (fun res _ => res = .bool true) := by
  refine calls_fr [.agg (tenC p n i o sl), sv] Try.func4 rfl Try.ntmps4 rfl fun a hF => ?_
  have hM : Mem w w [none, none, none, none, none, none, none, none, none, none] [] := MemX.start w 10
  change Fr 119 a [(0, .agg (tenC p n i o sl)), (1, sv)] at hF
  have hso := hs.one
  have hso2 := hsv.one
  have hml2 := hml
  unfold maxLen at hml2
  refine sq ?_
  refine wp_region_lit ?_
  refine stR hF (d_box 0 hM hF rfl) rfl ?_
  rintro _ w' a ⟨b1, rfl, hM, -⟩ hF
  change Mem w w' [some (b1, tenC p n i o sl), none, none, none, none, none, none, none, none, none] [] at hM
  refine st hF (g_assign hF rfl) rfl fun a hF => ?_
  refine wpList_nil ?_
  refine tN ?_
  refine sq ?_
  refine wp_region_lit ?_
  refine st hF (g_assign hF rfl) rfl fun a hF => ?_
  refine wpList_nil ?_
  refine tN ?_
  refine sq ?_
  refine wp_region_lit ?_
  refine st hF (g_loadAgg ty_ag_30 hF rfl (hM.row 0 rfl) (by simp only [fnC_size, cells_size, vecC_size, tabC_size, planeC_size, tenC_size, smC_size, numC_size, numI_size, vecsC_size] <;> omega) (whole rfl)) rfl fun a hF => st hF (g_move hF rfl) rfl fun a hF => ?_
  refine stR hF (d_call Try.call10 hF (.cons rfl (.cons rfl .nil)) (szTensor_ok p n i o sl m0 (1048576) g _ (hs.ext hM.below) (by omega) (by omega))) rfl ?_
  rintro _ w' a ⟨hx, rfl⟩ hF
  have hM := hM.ext hx
  refine st hF (g_assign hF rfl) rfl fun a hF => ?_
  refine wpList_nil ?_
  refine tN ?_
  refine sq ?_
  refine sq ?_
  refine wp_region_lit ?_
  refine st hF (g_move hF rfl) rfl fun a hF => st hF (g_lss hF rfl rfl) rfl fun a hF => ?_
  refine wpList_nil ?_
  refine tN ?_
  refine c_cond hF rfl (fun h2 => ?_) (fun h2 => ?_)
  ·
   refine sq ?_
   refine wp_region_lit ?_
   refine st hF (g_assign hF rfl) rfl fun a hF => ?_
   refine wpList_nil ?_
   refine tN ?_
   refine wp_ret ?_
   refine tR ?_
   refine fin1 rfl hF.defers (res_tmp hF rfl) ⟨_, rfl, hM.below, ?_⟩
   show _ = _
   rfl
  ·
   refine wp_skip ?_
   refine tN ?_
   refine sq ?_
   refine wp_region_lit ?_
   refine st hF (g_move hF rfl) rfl fun a hF => st hF (g_move hF rfl) rfl fun a hF => ?_
   refine stR hF (d_call Try.call11 hF (.cons rfl (.cons rfl .nil)) (szVectorS_no sv m (1048576 - m0) V _ (hsv.ext hM.below) (by omega) (by omega) hml)) rfl ?_
   rintro _ w' a ⟨hx, rfl⟩ hF
   have hM := hM.ext hx
   refine st hF (g_assign hF rfl) rfl fun a hF => ?_
   refine wpList_nil ?_
   refine tN ?_
   refine sq ?_
   refine sq ?_
   refine wp_region_lit ?_
   refine st hF (g_move hF rfl) rfl fun a hF => st hF (g_lss hF rfl rfl) rfl fun a hF => ?_
   refine wpList_nil ?_
   refine tN ?_
   refine c_cond hF rfl (fun h3 => ?_) (fun h3 => ?_)
   ·
    refine sq ?_
    refine wp_region_lit ?_
    refine st hF (g_assign hF rfl) rfl fun a hF => ?_
    refine wpList_nil ?_
    refine tN ?_
    refine wp_ret ?_
    refine tR ?_
    refine fin1 rfl hF.defers (res_tmp hF rfl) ⟨_, rfl, hM.below, ?_⟩
    show _ = _
    rfl
   ·
    exfalso; omega

set_option maxRecDepth 100000 in
theorem law_ValueAtV (p n i o : Nat) (sl : Value) (f : Nat → Nat) (sv : Value) (V : Nat → Nat → Nat) (w : World) (hpP : primeP (p : Int)) (hn0 : 0 < n) (hn : n ≤ 6) (hw : wl n i o) (hfp : ∀ c, f c < p) (hV : ∀ i c, V i c ≤ 255) (hvs : VecsP (p : Int) (n : Int) i V) (hs : ArgSl w sl (n ^ (i + o)) (fun c => ((f c : Nat) : Int))) (hsv : ArgVs w sv i V) :
    CallsR Try.prog 4 #[.agg (tenC (p : Int) (n : Int) (i : Int) (o : Int) sl), sv] w (fun res _ => res = .bool true) := by
  refine calls_fr [.agg (tenC (p : Int) (n : Int) (i : Int) (o : Int) sl), sv] Try.func4 rfl Try.ntmps4 rfl fun a hF => ?_
  have hM : Mem w w [none, none, none, none, none, none, none, none, none, none, none, none, none] [] := MemX.start w 13
  change Fr 119 a [(0, .agg (tenC (p : Int) (n : Int) (i : Int) (o : Int) sl)), (1, sv)] at hF
  have hso := hs.one
  have hso2 := hsv.one
  have hp0 : 0 < p := by have h := hpP; unfold primeP at h; omega
  have hp2 : p < 100 := by have h := hpP; unfold primeP at h; omega
  have hw3 := hw.2.2
  have hw1 := hw.1
  have hw2 := hw.2.1
  have hT := TenP.of_nat hpP hn0 hn hw rfl hfp
  have hW := pow_one_le (k := o) hn0
  have hWl : n ^ o ≤ n ^ (i + o) := Nat.pow_le_pow_right hn0 (by omega)
  have hRl : n ^ i ≤ n ^ (i + o) := Nat.pow_le_pow_right hn0 (by omega)
  have hp1 : 1 < p := by have h := hpP; unfold primeP at h; omega
  refine sq ?_
  refine wp_region_lit ?_
  refine stR hF (d_box 0 hM hF rfl) rfl ?_
  rintro _ w' a ⟨b1, rfl, hM, -⟩ hF
  change Mem w w' [some (b1, tenC (p : Int) (n : Int) (i : Int) (o : Int) sl), none, none, none, none, none, none, none, none, none, none, none, none] [] at hM
  refine st hF (g_assign hF rfl) rfl fun a hF => ?_
  refine wpList_nil ?_
  refine tN ?_
  refine sq ?_
  refine wp_region_lit ?_
  refine st hF (g_assign hF rfl) rfl fun a hF => ?_
  refine wpList_nil ?_
  refine tN ?_
  refine sq ?_
  refine wp_region_lit ?_
  refine st hF (g_loadAgg ty_ag_30 hF rfl (hM.row 0 rfl) (by simp only [fnC_size, cells_size, vecC_size, tabC_size, planeC_size, tenC_size, smC_size, numC_size, numI_size, vecsC_size] <;> omega) (whole rfl)) rfl fun a hF => st hF (g_move hF rfl) rfl fun a hF => ?_
  refine stR hF (d_call Try.call10 hF (.cons rfl (.cons rfl .nil)) (szTensor_ok (p : Int) (n : Int) (i : Int) (o : Int) sl (n ^ (i + o)) (1048576) (fun c => ((f c : Nat) : Int)) _ (hs.ext hM.below) (by omega) (by omega))) rfl ?_
  rintro _ w' a ⟨hx, rfl⟩ hF
  have hM := hM.ext hx
  refine st hF (g_assign hF rfl) rfl fun a hF => ?_
  refine wpList_nil ?_
  refine tN ?_
  refine sq ?_
  refine sq ?_
  refine wp_region_lit ?_
  refine st hF (g_move hF rfl) rfl fun a hF => st hF (g_lss hF rfl rfl) rfl fun a hF => ?_
  refine wpList_nil ?_
  refine tN ?_
  refine c_cond hF rfl (fun h2 => ?_) (fun h2 => ?_)
  ·
   first | exact absurd rfl h2 | (exfalso; omega)
  ·
   refine wp_skip ?_
   refine tN ?_
   refine sq ?_
   refine wp_region_lit ?_
   refine st hF (g_move hF rfl) rfl fun a hF => st hF (g_move hF rfl) rfl fun a hF => ?_
   refine stR hF (d_call Try.call11 hF (.cons rfl (.cons rfl .nil)) (szVectorS_ok sv i (1048576 - (n ^ (i + o))) V _ (hsv.ext hM.below) (by omega) (by omega))) rfl ?_
   rintro _ w' a ⟨hx, rfl⟩ hF
   have hM := hM.ext hx
   refine st hF (g_assign hF rfl) rfl fun a hF => ?_
   refine wpList_nil ?_
   refine tN ?_
   refine sq ?_
   refine sq ?_
   refine wp_region_lit ?_
   refine st hF (g_move hF rfl) rfl fun a hF => st hF (g_lss hF rfl rfl) rfl fun a hF => ?_
   refine wpList_nil ?_
   refine tN ?_
   refine c_cond hF rfl (fun h3 => ?_) (fun h3 => ?_)
   ·
    first | exact absurd rfl h3 | (exfalso; omega)
   ·
    refine wp_skip ?_
    refine tN ?_
    refine sq ?_
    refine wp_region_lit ?_
    refine st hF (g_loadAgg ty_ag_30 hF rfl (hM.row 0 rfl) (by simp only [fnC_size, cells_size, vecC_size, tabC_size, planeC_size, tenC_size, smC_size, numC_size, numI_size, vecsC_size] <;> omega) (whole rfl)) rfl fun a hF => ?_
    refine stR hF (d_call Try.call13 hF (.cons rfl .nil) (toTensor_ok (p : Int) (n : Int) (i : Int) (o : Int) sl (n ^ (i + o)) (fun c => ((f c : Nat) : Int)) _ (hs.ext hM.below) (by omega))) rfl ?_
    rintro _ w' a ⟨hx, b4, rfl, hge, hbk⟩ hF
    have hM := hM.fill hx 1 hbk hge
    change Mem w w' [some (b1, tenC (p : Int) (n : Int) (i : Int) (o : Int) sl), some (b4, numC (n ^ (i + o)) f), none, none, none, none, none, none, none, none, none, none, none] [] at hM
    refine st hF (g_move hF rfl) rfl fun a hF => ?_
    refine stR hF (d_call Try.call14 hF (.cons rfl .nil) (toVectorS_ok sv i V _ (hsv.ext hM.below) (by omega))) rfl ?_
    rintro _ w' a ⟨hx, b5, rfl, hge, hbk⟩ hF
    have hM := hM.fill hx 2 hbk hge
    change Mem w w' [some (b1, tenC (p : Int) (n : Int) (i : Int) (o : Int) sl), some (b4, numC (n ^ (i + o)) f), some (b5, vecsC i V), none, none, none, none, none, none, none, none, none, none] [] at hM
    refine stR hF (d_call Try.call12 hF (.cons rfl (.cons rfl .nil)) (ValueS_V p n i o b4 f b5 i V _ hpP hn0 hn hw hfp hV hvs (hM.row 1 rfl) (hM.row 2 rfl))) rfl ?_
    rintro _ w' a ⟨hx, b6, rfl, hge, hbk⟩ hF
    have hM := hM.fill hx 3 hbk hge
    change Mem w w' [some (b1, tenC (p : Int) (n : Int) (i : Int) (o : Int) sl), some (b4, numC (n ^ (i + o)) f), some (b5, vecsC i V), some (b6, numC (n ^ o) (valV p n i (n ^ o) V f (n ^ i))), none, none, none, none, none, none, none, none, none] [] at hM
    refine st hF (g_move hF rfl) rfl fun a hF => st hF (g_extract hF rfl rfl) rfl fun a hF => st hF (g_extract hF rfl rfl) rfl fun a hF => st hF (g_assign hF rfl) rfl fun a hF => st hF (g_assign hF rfl) rfl fun a hF => ?_
    refine wpList_nil ?_
    refine tN ?_
    refine sq ?_
    refine wp_region_lit ?_
    refine st hF (g_loadAgg ty_ag_30 hF rfl (hM.row 0 rfl) (by simp only [fnC_size, cells_size, vecC_size, tabC_size, planeC_size, tenC_size, smC_size, numC_size, numI_size, vecsC_size] <;> omega) (whole rfl)) rfl fun a hF => ?_
    refine stR hF (d_call Try.call13 hF (.cons rfl .nil) (toTensor_ok (p : Int) (n : Int) (i : Int) (o : Int) sl (n ^ (i + o)) (fun c => ((f c : Nat) : Int)) _ (hs.ext hM.below) (by omega))) rfl ?_
    rintro _ w' a ⟨hx, b7, rfl, hge, hbk⟩ hF
    have hM := hM.fill hx 4 hbk hge
    change Mem w w' [some (b1, tenC (p : Int) (n : Int) (i : Int) (o : Int) sl), some (b4, numC (n ^ (i + o)) f), some (b5, vecsC i V), some (b6, numC (n ^ o) (valV p n i (n ^ o) V f (n ^ i))), some (b7, numC (n ^ (i + o)) f), none, none, none, none, none, none, none, none] [] at hM
    refine stR hF (d_alloc 5 hM ty_ze_24) rfl ?_
    rintro _ w' a ⟨b8, rfl, hM, -⟩ hF
    change Mem w w' [some (b1, tenC (p : Int) (n : Int) (i : Int) (o : Int) sl), some (b4, numC (n ^ (i + o)) f), some (b5, vecsC i V), some (b6, numC (n ^ o) (valV p n i (n ^ o) V f (n ^ i))), some (b7, numC (n ^ (i + o)) f), some (b8, tenC 0 0 0 0 (.slice none 0 0)), none, none, none, none, none, none, none] [] at hM
    refine stN hF (d_storeAgg 5 hM rfl ty_sz_24 hF rfl rfl (tenC_one rfl) (by simp only [fnC_size, cells_size, vecC_size, tabC_size, planeC_size, tenC_size, smC_size, numC_size, numI_size, vecsC_size]) (by simp only [fnC_size, cells_size, vecC_size, tabC_size, planeC_size, tenC_size, smC_size, numC_size, numI_size, vecsC_size] <;> omega) (splice_whole _ _ rfl)) ?_
    intro _ w' a hM hF
    change Mem w w' [some (b1, tenC (p : Int) (n : Int) (i : Int) (o : Int) sl), some (b4, numC (n ^ (i + o)) f), some (b5, vecsC i V), some (b6, numC (n ^ o) (valV p n i (n ^ o) V f (n ^ i))), some (b7, numC (n ^ (i + o)) f), some (b8, tenC (p : Int) (n : Int) (i : Int) (o : Int) (.slice (some ⟨b7, 0, none⟩) (n ^ (i + o)) (n ^ (i + o)))), none, none, none, none, none, none, none] [] at hM
    refine wpList_nil ?_
    refine tN ?_
    refine sq ?_
    refine wp_region_lit ?_
    refine st hF (g_move hF rfl) rfl fun a hF => ?_
    refine stR hF (d_call Try.call14 hF (.cons rfl .nil) (toVectorS_ok sv i V _ (hsv.ext hM.below) (by omega))) rfl ?_
    rintro _ w' a ⟨hx, b9, rfl, hge, hbk⟩ hF
    have hM := hM.fill hx 6 hbk hge
    change Mem w w' [some (b1, tenC (p : Int) (n : Int) (i : Int) (o : Int) sl), some (b4, numC (n ^ (i + o)) f), some (b5, vecsC i V), some (b6, numC (n ^ o) (valV p n i (n ^ o) V f (n ^ i))), some (b7, numC (n ^ (i + o)) f), some (b8, tenC (p : Int) (n : Int) (i : Int) (o : Int) (.slice (some ⟨b7, 0, none⟩) (n ^ (i + o)) (n ^ (i + o)))), some (b9, vecsC i V), none, none, none, none, none, none] [] at hM
    refine st hF (g_assign hF rfl) rfl fun a hF => ?_
    refine wpList_nil ?_
    refine tN ?_
    refine sq ?_
    refine wp_region_lit ?_
    refine st hF (g_loadAgg ty_ag_24 hF rfl (hM.row 5 rfl) (by simp only [fnC_size, cells_size, vecC_size, tabC_size, planeC_size, tenC_size, smC_size, numC_size, numI_size, vecsC_size] <;> omega) (whole rfl)) rfl fun a hF => st hF (g_move hF rfl) rfl fun a hF => ?_
    refine stR hF (d_call Try.call15 hF (.cons rfl (.cons rfl .nil)) (ValueI_V p n i o b7 f b9 i V _ hpP hn0 hn hw hfp hV hvs (hM.row 4 rfl) (hM.row 6 rfl))) rfl ?_
    rintro _ w' a ⟨hx, b10, rfl, hge, hbk⟩ hF
    have hM := hM.fill hx 7 hbk hge
    change Mem w w' [some (b1, tenC (p : Int) (n : Int) (i : Int) (o : Int) sl), some (b4, numC (n ^ (i + o)) f), some (b5, vecsC i V), some (b6, numC (n ^ o) (valV p n i (n ^ o) V f (n ^ i))), some (b7, numC (n ^ (i + o)) f), some (b8, tenC (p : Int) (n : Int) (i : Int) (o : Int) (.slice (some ⟨b7, 0, none⟩) (n ^ (i + o)) (n ^ (i + o)))), some (b9, vecsC i V), some (b10, numC (n ^ o) (valV p n i (n ^ o) V f (n ^ i))), none, none, none, none, none] [] at hM
    refine st hF (g_move hF rfl) rfl fun a hF => st hF (g_extract hF rfl rfl) rfl fun a hF => st hF (g_extract hF rfl rfl) rfl fun a hF => st hF (g_assign hF rfl) rfl fun a hF => st hF (g_assign hF rfl) rfl fun a hF => ?_
    refine wpList_nil ?_
    refine tN ?_
    refine sq ?_
    refine sq ?_
    refine wp_region_lit ?_
    refine st hF (g_move hF rfl) rfl fun a hF => st hF (g_move hF rfl) rfl fun a hF => ?_
    refine stR hF (d_call Try.call16 hF (.cons rfl (.cons rfl .nil)) (eqInt64S_ok b10 b6 (n ^ o) (fun c => (((valV p n i (n ^ o) V f (n ^ i)) c : Nat) : Int)) (fun c => (((valV p n i (n ^ o) V f (n ^ i)) c : Nat) : Int)) _ (hM.row 7 rfl) (hM.row 3 rfl) (by omega) (fun _ _ => rfl))) rfl ?_
    rintro _ w' a ⟨hx, rfl⟩ hF
    have hM := hM.ext hx
    refine st hF (g_not hF rfl) rfl fun a hF => st hF (g_move hF rfl) rfl fun a hF => stY hF rfl rfl rfl (g_move hF rfl) rfl fun a hF => stY hF rfl rfl rfl (g_move hF rfl) rfl fun a hF => stY hF rfl rfl rfl (g_neq hF rfl rfl) rfl fun a hF => st hF (g_pickF hF rfl rfl) rfl fun a hF => ?_
    refine wpList_nil ?_
    refine tN ?_
    refine c_kF hF rfl (by decide) ?_
    refine wp_skip ?_
    refine tN ?_
    refine sq ?_
    refine sq ?_
    refine c_par 3 [8] [.val (.agg (tenC (p : Int) (n : Int) (i : Int) (o : Int) (.slice (some ⟨b7, 0, none⟩) (n ^ (i + o)) (n ^ (i + o))))), .val (.agg (tenC (p : Int) (n : Int) (i : Int) (o : Int) sl)), .own 8 (numC (n ^ (i + o)) f) (fun b => .agg (tenC (p : Int) (n : Int) (i : Int) (o : Int) (.slice (some ⟨b, 0, none⟩) (n ^ (i + o)) (n ^ (i + o)))))] hmix rfl hF rfl hM ⟨fun a w gG hF hS hd => by have hM := hS.mem rfl; exact par_val hS rfl (g_loadAgg ty_ag_24 hF rfl (hM.row 5 rfl) (by simp only [fnC_size, cells_size, vecC_size, tabC_size, planeC_size, tenC_size, smC_size, numC_size, numI_size, vecsC_size] <;> omega) (whole rfl)), fun a w gG hF hS hd => by have hM := hS.mem rfl; exact par_val hS rfl (g_loadAgg ty_ag_30 hF rfl (hM.row 0 rfl) (by simp only [fnC_size, cells_size, vecC_size, tabC_size, planeC_size, tenC_size, smC_size, numC_size, numI_size, vecsC_size] <;> omega) (whole rfl)), fun a w gG hF hS hd => by have hF := hF.ext1 55 (hd 1 rfl rfl); have hM := hS.mem rfl; exact par_own (by repeat constructor) hS rfl rfl rfl rfl (d_callOwnB 8 hS.1 (d_call Try.call13 hF (.cons rfl .nil) (toTensor_ok (p : Int) (n : Int) (i : Int) (o : Int) sl (n ^ (i + o)) (fun c => ((f c : Nat) : Int)) _ (hs.ext hM.below) (by omega)))), trivial⟩ ?_
    intro a w' L hF hS hq
    have hF := hF.ext1 54 (hq 0 rfl rfl)
    have hF := hF.ext1 55 (hq 1 rfl rfl)
    obtain ⟨hM, hL⟩ := hS
    obtain ⟨b12, hptr, hkk⟩ := hq 2 rfl rfl
    have hF := hF.ext1 56 hptr
    have hL := hL.take hkk
    obtain rfl := hL.eq
    change Mem w w' [some (b1, tenC (p : Int) (n : Int) (i : Int) (o : Int) sl), some (b4, numC (n ^ (i + o)) f), some (b5, vecsC i V), some (b6, numC (n ^ o) (valV p n i (n ^ o) V f (n ^ i))), some (b7, numC (n ^ (i + o)) f), some (b8, tenC (p : Int) (n : Int) (i : Int) (o : Int) (.slice (some ⟨b7, 0, none⟩) (n ^ (i + o)) (n ^ (i + o)))), some (b9, vecsC i V), some (b10, numC (n ^ o) (valV p n i (n ^ o) V f (n ^ i))), some (b12, numC (n ^ (i + o)) f), none, none, none, none] [] at hM
    change wpList Try.prog _ _ [_, _] _ _
    refine stR hF (d_call Try.call7 hF (.cons rfl (.cons rfl .nil)) (eqTensor_ok (p : Int) (n : Int) (i : Int) (o : Int) b7 b12 (n ^ (i + o)) (fun c => ((f c : Nat) : Int)) (fun c => ((f c : Nat) : Int)) _ (hM.row 4 rfl) (hM.row 8 rfl) (by omega) (fun _ _ => rfl))) rfl ?_
    rintro _ w' a ⟨hx, rfl⟩ hF
    have hM := hM.ext hx
    refine st hF (g_not hF rfl) rfl fun a hF => ?_
    refine wpList_nil ?_
    refine tN ?_
    refine c_Fl hF rfl ?_
    refine wp_skip ?_
    refine tN ?_
    refine sq ?_
    refine sq ?_
    refine wp_region_lit ?_
    refine st hF (g_move hF rfl) rfl fun a hF => st hF (g_move hF rfl) rfl fun a hF => ?_
    refine stR hF (d_call Try.call14 hF (.cons rfl .nil) (toVectorS_ok sv i V _ (hsv.ext hM.below) (by omega))) rfl ?_
    rintro _ w' a ⟨hx, b14, rfl, hge, hbk⟩ hF
    have hM := hM.fill hx 9 hbk hge
    change Mem w w' [some (b1, tenC (p : Int) (n : Int) (i : Int) (o : Int) sl), some (b4, numC (n ^ (i + o)) f), some (b5, vecsC i V), some (b6, numC (n ^ o) (valV p n i (n ^ o) V f (n ^ i))), some (b7, numC (n ^ (i + o)) f), some (b8, tenC (p : Int) (n : Int) (i : Int) (o : Int) (.slice (some ⟨b7, 0, none⟩) (n ^ (i + o)) (n ^ (i + o)))), some (b9, vecsC i V), some (b10, numC (n ^ o) (valV p n i (n ^ o) V f (n ^ i))), some (b12, numC (n ^ (i + o)) f), some (b14, vecsC i V), none, none, none] [] at hM
    refine stR hF (d_call Try.call17 hF (.cons rfl (.cons rfl .nil)) (eqVectorS_own b9 b14 i V _ (by omega) (hM.row 6 rfl) (hM.row 9 rfl) hV)) rfl ?_
    rintro _ w' a ⟨hx, rfl⟩ hF
    have hM := hM.ext hx
    refine st hF (g_not hF rfl) rfl fun a hF => ?_
    refine wpList_nil ?_
    refine tN ?_
    refine c_Fl hF rfl ?_
    refine wp_skip ?_
    refine tN ?_
    refine sq ?_
    refine wp_region_lit ?_
    refine st hF (g_assign hF rfl) rfl fun a hF => ?_
    refine wpList_nil ?_
    refine tN ?_
    refine sq ?_
    refine wp_region_lit ?_
    refine st hF (g_loadAgg ty_ag_24 hF rfl (hM.row 5 rfl) (by simp only [fnC_size, cells_size, vecC_size, tabC_size, planeC_size, tenC_size, smC_size, numC_size, numI_size, vecsC_size] <;> omega) (whole rfl)) rfl fun a hF => st hF (g_move hF rfl) rfl fun a hF => ?_
    refine stR hF (d_callX Try.call8 hF (.cons rfl (.cons rfl .nil)) (markTensor_ok (p : Int) (n : Int) (i : Int) (o : Int) b7 (n ^ (i + o)) (1) (fun c => ((f c : Nat) : Int)) _ (by omega) (by omega) (hM.row 4 rfl))) rfl ?_
    rintro _ w' a ⟨hx, rfl, hbk⟩ hF
    have hM := hM.upd 4 rfl hx hbk
    change Mem w w' [some (b1, tenC (p : Int) (n : Int) (i : Int) (o : Int) sl), some (b4, numC (n ^ (i + o)) f), some (b5, vecsC i V), some (b6, numC (n ^ o) (valV p n i (n ^ o) V f (n ^ i))), some (b7, numC (n ^ (i + o)) (fun c => (1) + c)), some (b8, tenC (p : Int) (n : Int) (i : Int) (o : Int) (.slice (some ⟨b7, 0, none⟩) (n ^ (i + o)) (n ^ (i + o)))), some (b9, vecsC i V), some (b10, numC (n ^ o) (valV p n i (n ^ o) V f (n ^ i))), some (b12, numC (n ^ (i + o)) f), some (b14, vecsC i V), none, none, none] [] at hM
    refine st hF (g_assign hF rfl) rfl fun a hF => ?_
    refine wpList_nil ?_
    refine tN ?_
    refine sq ?_
    refine wp_region_lit ?_
    refine st hF (g_move hF rfl) rfl fun a hF => st hF (g_move hF rfl) rfl fun a hF => ?_
    refine stR hF (d_callX Try.call18 hF (.cons rfl (.cons rfl .nil)) (markVectorS_any b9 i i (1 + (n ^ (i + o))) V _ (by omega) (by omega) (hM.row 6 rfl))) rfl ?_
    rintro _ w' a ⟨hx, rfl, csm, hbk⟩ hF
    have hM := hM.upd 6 rfl hx hbk
    change Mem w w' [some (b1, tenC (p : Int) (n : Int) (i : Int) (o : Int) sl), some (b4, numC (n ^ (i + o)) f), some (b5, vecsC i V), some (b6, numC (n ^ o) (valV p n i (n ^ o) V f (n ^ i))), some (b7, numC (n ^ (i + o)) (fun c => (1) + c)), some (b8, tenC (p : Int) (n : Int) (i : Int) (o : Int) (.slice (some ⟨b7, 0, none⟩) (n ^ (i + o)) (n ^ (i + o)))), some (b9, csm), some (b10, numC (n ^ o) (valV p n i (n ^ o) V f (n ^ i))), some (b12, numC (n ^ (i + o)) f), some (b14, vecsC i V), none, none, none] [] at hM
    refine st hF (g_assign hF rfl) rfl fun a hF => ?_
    refine wpList_nil ?_
    refine tN ?_
    refine sq ?_
    refine sq ?_
    refine wp_region_lit ?_
    refine st hF (g_move hF rfl) rfl fun a hF => st hF (g_lss hF rfl rfl) rfl fun a hF => st hF (g_move hF rfl) rfl fun a hF => ?_
    by_cases g16 : (((1 + (n ^ (i + o)) + i * 6 : Nat) : Int) : Int) < 0
    ·
     first | rw [decide_eq_true g16] at hF | simp only [decide_eq_true g16] at hF
     first | exact absurd rfl g16 | (exfalso; omega)
    ·
     first | rw [decide_eq_false g16] at hF | simp only [decide_eq_false g16] at hF
     refine stY hF rfl rfl rfl (g_move hF rfl) rfl fun a hF => stY hF rfl rfl rfl (g_move hF rfl) rfl fun a hF => ?_
     refine stYR hF rfl rfl rfl (d_call Try.call16 hF (.cons rfl (.cons rfl .nil)) (eqInt64S_ok b10 b6 (n ^ o) (fun c => (((valV p n i (n ^ o) V f (n ^ i)) c : Nat) : Int)) (fun c => (((valV p n i (n ^ o) V f (n ^ i)) c : Nat) : Int)) _ (hM.row 7 rfl) (hM.row 3 rfl) (by omega) (fun _ _ => rfl))) rfl ?_
     rintro _ w' a ⟨hx, rfl⟩ hF
     have hM := hM.ext hx
     refine stY hF rfl rfl rfl (g_not hF rfl) rfl fun a hF => st hF (g_pickF hF rfl rfl) rfl fun a hF => st hF (g_move hF rfl) rfl fun a hF => stY hF rfl rfl rfl (g_move hF rfl) rfl fun a hF => stY hF rfl rfl rfl (g_move hF rfl) rfl fun a hF => stY hF rfl rfl rfl (g_neq hF rfl rfl) rfl fun a hF => st hF (g_pickF hF rfl rfl) rfl fun a hF => ?_
     refine wpList_nil ?_
     refine tN ?_
     refine c_kF hF rfl (by decide) ?_
     refine wp_skip ?_
     refine tN ?_
     refine sq ?_
     refine wp_region_lit ?_
     refine st hF (g_assign hF rfl) rfl fun a hF => ?_
     refine wpList_nil ?_
     refine tN ?_
     refine sq ?_
     refine wp_region_lit ?_
     refine st hF (g_move hF rfl) rfl fun a hF => st hF (g_move hF rfl) rfl fun a hF => ?_
     refine stR hF (d_callX Try.call19 hF (.cons rfl (.cons rfl .nil)) (markInt64S_ok b10 (n ^ o) (1) (fun c => (((valV p n i (n ^ o) V f (n ^ i)) c : Nat) : Int)) _ (by omega) (by omega) (hM.row 7 rfl))) rfl ?_
     rintro _ w' a ⟨hx, rfl, hbk⟩ hF
     have hM := hM.upd 7 rfl hx hbk
     change Mem w w' [some (b1, tenC (p : Int) (n : Int) (i : Int) (o : Int) sl), some (b4, numC (n ^ (i + o)) f), some (b5, vecsC i V), some (b6, numC (n ^ o) (valV p n i (n ^ o) V f (n ^ i))), some (b7, numC (n ^ (i + o)) (fun c => (1) + c)), some (b8, tenC (p : Int) (n : Int) (i : Int) (o : Int) (.slice (some ⟨b7, 0, none⟩) (n ^ (i + o)) (n ^ (i + o)))), some (b9, csm), some (b10, numC (n ^ o) (fun c => (1) + c)), some (b12, numC (n ^ (i + o)) f), some (b14, vecsC i V), none, none, none] [] at hM
     refine st hF (g_assign hF rfl) rfl fun a hF => ?_
     refine wpList_nil ?_
     refine tN ?_
     refine sq ?_
     refine wp_region_lit ?_
     refine st hF (g_assign hF rfl) rfl fun a hF => ?_
     refine wpList_nil ?_
     refine tN ?_
     refine sq ?_
     refine wp_region_lit ?_
     refine st hF (g_move hF rfl) rfl fun a hF => st hF (g_move hF rfl) rfl fun a hF => ?_
     refine stR hF (d_call Try.call20 hF (.cons rfl (.cons rfl .nil)) (heldInt64S_ok b10 (n ^ o) (1) (fun c => (1) + c) _ (by omega) (by omega) (hM.row 7 rfl) (fun c _ => by omega))) rfl ?_
     rintro _ w' a ⟨hx, rfl⟩ hF
     have hM := hM.ext hx
     refine st hF (g_assign hF rfl) rfl fun a hF => ?_
     refine wpList_nil ?_
     refine tN ?_
     refine sq ?_
     refine sq ?_
     refine wp_region_lit ?_
     refine st hF (g_move hF rfl) rfl fun a hF => st hF (g_lss hF rfl rfl) rfl fun a hF => ?_
     refine wpList_nil ?_
     refine tN ?_
     refine c_cond hF rfl (fun h18 => ?_) (fun h18 => ?_)
     ·
      first | exact absurd rfl h18 | (exfalso; omega)
     ·
      refine wp_skip ?_
      refine tN ?_
      refine sq ?_
      refine sq ?_
      refine wp_region_lit ?_
      refine st hF (g_move hF rfl) rfl fun a hF => st hF (g_move hF rfl) rfl fun a hF => st hF (g_neq hF rfl rfl) rfl fun a hF => ?_
      refine wpList_nil ?_
      refine tN ?_
      refine c_cond hF rfl (fun h19 => ?_) (fun h19 => ?_)
      ·
       first | exact absurd rfl h19 | (exfalso; omega)
      ·
       refine wp_skip ?_
       refine tN ?_
       refine sq ?_
       refine wp_region_lit ?_
       refine st hF (g_loadAgg ty_ag_30 hF rfl (hM.row 0 rfl) (by simp only [fnC_size, cells_size, vecC_size, tabC_size, planeC_size, tenC_size, smC_size, numC_size, numI_size, vecsC_size] <;> omega) (whole rfl)) rfl fun a hF => ?_
       refine stR hF (d_call Try.call13 hF (.cons rfl .nil) (toTensor_ok (p : Int) (n : Int) (i : Int) (o : Int) sl (n ^ (i + o)) (fun c => ((f c : Nat) : Int)) _ (hs.ext hM.below) (by omega))) rfl ?_
       rintro _ w' a ⟨hx, b20, rfl, hge, hbk⟩ hF
       have hM := hM.fill hx 10 hbk hge
       change Mem w w' [some (b1, tenC (p : Int) (n : Int) (i : Int) (o : Int) sl), some (b4, numC (n ^ (i + o)) f), some (b5, vecsC i V), some (b6, numC (n ^ o) (valV p n i (n ^ o) V f (n ^ i))), some (b7, numC (n ^ (i + o)) (fun c => (1) + c)), some (b8, tenC (p : Int) (n : Int) (i : Int) (o : Int) (.slice (some ⟨b7, 0, none⟩) (n ^ (i + o)) (n ^ (i + o)))), some (b9, csm), some (b10, numC (n ^ o) (fun c => (1) + c)), some (b12, numC (n ^ (i + o)) f), some (b14, vecsC i V), some (b20, numC (n ^ (i + o)) f), none, none] [] at hM
       refine st hF (g_move hF rfl) rfl fun a hF => ?_
       refine stR hF (d_call Try.call14 hF (.cons rfl .nil) (toVectorS_ok sv i V _ (hsv.ext hM.below) (by omega))) rfl ?_
       rintro _ w' a ⟨hx, b21, rfl, hge, hbk⟩ hF
       have hM := hM.fill hx 11 hbk hge
       change Mem w w' [some (b1, tenC (p : Int) (n : Int) (i : Int) (o : Int) sl), some (b4, numC (n ^ (i + o)) f), some (b5, vecsC i V), some (b6, numC (n ^ o) (valV p n i (n ^ o) V f (n ^ i))), some (b7, numC (n ^ (i + o)) (fun c => (1) + c)), some (b8, tenC (p : Int) (n : Int) (i : Int) (o : Int) (.slice (some ⟨b7, 0, none⟩) (n ^ (i + o)) (n ^ (i + o)))), some (b9, csm), some (b10, numC (n ^ o) (fun c => (1) + c)), some (b12, numC (n ^ (i + o)) f), some (b14, vecsC i V), some (b20, numC (n ^ (i + o)) f), some (b21, vecsC i V), none] [] at hM
       refine stR hF (d_call Try.call15 hF (.cons rfl (.cons rfl .nil)) (ValueI_V p n i o b20 f b21 i V _ hpP hn0 hn hw hfp hV hvs (hM.row 10 rfl) (hM.row 11 rfl))) rfl ?_
       rintro _ w' a ⟨hx, b22, rfl, hge, hbk⟩ hF
       have hM := hM.fill hx 12 hbk hge
       change Mem w w' [some (b1, tenC (p : Int) (n : Int) (i : Int) (o : Int) sl), some (b4, numC (n ^ (i + o)) f), some (b5, vecsC i V), some (b6, numC (n ^ o) (valV p n i (n ^ o) V f (n ^ i))), some (b7, numC (n ^ (i + o)) (fun c => (1) + c)), some (b8, tenC (p : Int) (n : Int) (i : Int) (o : Int) (.slice (some ⟨b7, 0, none⟩) (n ^ (i + o)) (n ^ (i + o)))), some (b9, csm), some (b10, numC (n ^ o) (fun c => (1) + c)), some (b12, numC (n ^ (i + o)) f), some (b14, vecsC i V), some (b20, numC (n ^ (i + o)) f), some (b21, vecsC i V), some (b22, numC (n ^ o) (valV p n i (n ^ o) V f (n ^ i)))] [] at hM
       refine st hF (g_move hF rfl) rfl fun a hF => st hF (g_extract hF rfl rfl) rfl fun a hF => st hF (g_extract hF rfl rfl) rfl fun a hF => st hF (g_assign hF rfl) rfl fun a hF => st hF (g_assign hF rfl) rfl fun a hF => ?_
       refine wpList_nil ?_
       refine tN ?_
       refine sq ?_
       refine sq ?_
       refine wp_region_lit ?_
       refine st hF (g_move hF rfl) rfl fun a hF => st hF (g_move hF rfl) rfl fun a hF => ?_
       refine stR hF (d_call Try.call16 hF (.cons rfl (.cons rfl .nil)) (eqInt64S_ok b22 b6 (n ^ o) (fun c => (((valV p n i (n ^ o) V f (n ^ i)) c : Nat) : Int)) (fun c => (((valV p n i (n ^ o) V f (n ^ i)) c : Nat) : Int)) _ (hM.row 12 rfl) (hM.row 3 rfl) (by omega) (fun _ _ => rfl))) rfl ?_
       rintro _ w' a ⟨hx, rfl⟩ hF
       have hM := hM.ext hx
       refine st hF (g_not hF rfl) rfl fun a hF => st hF (g_move hF rfl) rfl fun a hF => stY hF rfl rfl rfl (g_move hF rfl) rfl fun a hF => stY hF rfl rfl rfl (g_move hF rfl) rfl fun a hF => stY hF rfl rfl rfl (g_neq hF rfl rfl) rfl fun a hF => st hF (g_pickF hF rfl rfl) rfl fun a hF => ?_
       refine wpList_nil ?_
       refine tN ?_
       refine c_kF hF rfl (by decide) ?_
       refine wp_skip ?_
       refine tN ?_
       refine sq ?_
       refine wp_region_lit ?_
       refine st hF (g_assign hF rfl) rfl fun a hF => ?_
       refine wpList_nil ?_
       refine tN ?_
       refine sq ?_
       refine wp_region_lit ?_
       refine st hF (g_move hF rfl) rfl fun a hF => st hF (g_move hF rfl) rfl fun a hF => ?_
       refine stR hF (d_call Try.call20 hF (.cons rfl (.cons rfl .nil)) (heldInt64S_ok b10 (n ^ o) (1) (fun c => (1) + c) _ (by omega) (by omega) (hM.row 7 rfl) (fun c _ => by omega))) rfl ?_
       rintro _ w' a ⟨hx, rfl⟩ hF
       have hM := hM.ext hx
       refine st hF (g_assign hF rfl) rfl fun a hF => ?_
       refine wpList_nil ?_
       refine tN ?_
       refine sq ?_
       refine sq ?_
       refine wp_region_lit ?_
       refine st hF (g_move hF rfl) rfl fun a hF => st hF (g_lss hF rfl rfl) rfl fun a hF => ?_
       refine wpList_nil ?_
       refine tN ?_
       refine c_kF hF rfl h18 ?_
       refine wp_skip ?_
       refine tN ?_
       refine sq ?_
       refine sq ?_
       refine wp_region_lit ?_
       refine st hF (g_move hF rfl) rfl fun a hF => st hF (g_move hF rfl) rfl fun a hF => st hF (g_neq hF rfl rfl) rfl fun a hF => ?_
       refine wpList_nil ?_
       refine tN ?_
       refine c_kF hF rfl h19 ?_
       refine wp_skip ?_
       refine tN ?_
       refine sq ?_
       refine wp_region_lit ?_
       refine st hF (g_assign hF rfl) rfl fun a hF => ?_
       refine wpList_nil ?_
       refine tN ?_
       refine wp_ret ?_
       refine fin1 rfl hF.defers (res_tmp hF rfl) ⟨_, rfl, hM.below, ?_⟩
       show _ = _
       rfl

theorem law_ValueAt (p n i o : Int) (sl : Value) (m0 : Nat) (g : Nat → Int) (sv : Value) (m : Nat) (V : Nat → Nat → Nat) (w : World) (hs : ArgSl w sl m0 g) (hml : m0 ≤ maxLen) (hsv : ArgVs w sv m V) (hml2 : m ≤ maxLen) (hV : ∀ i c, V i c ≤ 255) : CallsV Try.prog 4 #[.agg (tenC p n i o sl), sv] w (.bool true) := by
  by_cases hz1 : m0 ≤ 1048576
  · by_cases hz2 : m0 + m ≤ 1048576
    · by_cases hAB : TenP p n i o m0 g ∧ VecsP p n m V
      · obtain ⟨hT, hvs⟩ := hAB
        by_cases hR : (m : Int) = i
        · obtain ⟨p', n', i', o', f, rfl, rfl, rfl, rfl, hpP, hn0, hn, hw, rfl, hfp, hf⟩ := hT.nat
          obtain rfl : m = i' := by omega
          exact law_ValueAtV p' n' m o' sl f sv V w hpP hn0 hn hw hfp hV hvs (hs.congr hf) hsv
        · exact law_ValueAtR p n i o sl m0 g sv m V w hV hs hsv hz2 hT hvs hR
      · exact law_ValueAtA p n i o sl m0 g sv m V w hV hs hsv hz2 hAB
    · exact law_ValueAtZv p n i o sl m0 g sv m V w hV hs hsv hz1 (by omega) hml2
  · exact law_ValueAtZl p n i o sl m0 g sv m V w hV hs hsv (by omega) hml

end Go.Proofs.Ythoelkijoenkpaa
