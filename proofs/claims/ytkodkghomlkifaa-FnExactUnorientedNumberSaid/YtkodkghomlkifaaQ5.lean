/- What functions of the program return, as walks over their operations; no statement of the seat is proved here. -/
import Derived.Test.YtkodkghomlkifaaQ2
import Derived.Test.YtkodkghomlkifaaSw63
set_option linter.unusedVariables false
set_option linter.unusedSimpArgs false
namespace Go.Proofs.Ytkodkghomlkifaa
open Go Go.RowKit Go.Sw Go.Ech
open Classical
theorem ty_us_43 : Try.prog.underlying 43 = some (.slice 22) := by kernel_rfl
theorem ty_sl_43 : sliceOf Try.prog 43 = some 6 := by kernel_rfl
theorem szVectorSX (x : Option Addr) (m c k : Nat) (w : World) (hk : k < 10000000) (hm : m ≤ k) :
    CallsR Try.prog 24 #[.slice x m c, .int .i64 (k : Int)] w (fun res _ => res = .int .i64 ((k - m : Nat) : Int)) := by
  refine calls_fr [.slice x m c, .int .i64 (k : Int)] Try.func24 rfl Try.ntmps24 rfl fun a hF => ?_;have hM : Mem w w [] [] := MemX.start w 0;change Fr 12 a [(0, .slice x m c), (1, .int .i64 (k : Int))] at hF;refine sr <| ag hF rfl rfl fun a hF => ns <| mv hF rfl rfl fun a hF => mv hF rfl rfl fun a hF => st hF (g_lenX ty_us_43 hF rfl) rfl fun a hF => st hF (g_sub hF rfl rfl (wrap_i64 (by omega) (by omega))) rfl fun a hF => ag hF rfl rfl fun a hF => nt <| sq <| sr <| mv hF rfl rfl fun a hF => st hF (g_lss hF rfl rfl) rfl fun a hF => nt <| c_cond hF rfl (fun h1 => ?_) (fun h1 => ?_)
  · exfalso; omega
  refine wp_skip <| tN <| sr <| mv hF rfl rfl fun a hF => ag hF rfl rfl fun a hF => nt <| wp_ret <| fin1 rfl hF.defers (res_tmp hF rfl) ⟨_, rfl, hM.below, ?_⟩
  show _ = _
  exact congrArg (Value.int .i64) (by omega)
theorem szVectorSN (x : Option Addr) (m c k : Nat) (w : World) (hk : k < 10000000) (hm : k < m) (hm2 : m ≤ maxLen) :
    CallsR Try.prog 24 #[.slice x m c, .int .i64 (k : Int)] w (fun res _ => res = .int .i64 (-1)) := by
  refine calls_fr [.slice x m c, .int .i64 (k : Int)] Try.func24 rfl Try.ntmps24 rfl fun a hF => ?_;have hM : Mem w w [] [] := MemX.start w 0;change Fr 12 a [(0, .slice x m c), (1, .int .i64 (k : Int))] at hF
  unfold maxLen at hm2
  refine sr <| ag hF rfl rfl fun a hF => ns <| mv hF rfl rfl fun a hF => mv hF rfl rfl fun a hF => st hF (g_lenX ty_us_43 hF rfl) rfl fun a hF => st hF (g_sub hF rfl rfl (wrap_i64 (by omega) (by omega))) rfl fun a hF => ag hF rfl rfl fun a hF => nt <| sq <| sr <| mv hF rfl rfl fun a hF => st hF (g_lss hF rfl rfl) rfl fun a hF => nt <| c_cond hF rfl (fun h1 => ?_) (fun h1 => ?_)
  · refine sq ?_
    refine wp_region_lit <| ag hF rfl rfl fun a hF => nt <| wp_ret <| tR <| fin1 rfl hF.defers (res_tmp hF rfl) ⟨_, rfl, hM.below, ?_⟩
    show _ = _
    rfl
  exfalso; omega
theorem szVectorS_ok (sl : Value) (m k : Nat) (V : Nat → Nat → Nat) (w : World) (hs : ArgVs w sl m V) (hk : k < 10000000) (hm : m ≤ k) : CallsV Try.prog 24 #[sl, .int .i64 (k : Int)] w (.int .i64 ((k - m : Nat) : Int)) := by
  obtain ⟨⟨x, c, rfl⟩, -⟩ := hs;exact szVectorSX x m c k w hk hm
theorem szVectorS_no (sl : Value) (m k : Nat) (V : Nat → Nat → Nat) (w : World) (hs : ArgVs w sl m V) (hk : k < 10000000) (hm : k < m) (hm2 : m ≤ maxLen) : CallsV Try.prog 24 #[sl, .int .i64 (k : Int)] w (.int .i64 (-1)) := by
  obtain ⟨⟨x, c, rfl⟩, -⟩ := hs;exact szVectorSN x m c k w hk hm hm2
theorem putV_step {V : Nat → Nat → Nat} {k m : Nat} : ∀ r, r < m → ∀ c, c < 6 → (if r < k + 1 then V r c else 0) = if r = k then V k c else if r < k then V r c else 0 := by
  intro r _ c _
  by_cases e1 : r = k
  · subst e1; simp
  · have e0 : (r < k + 1) = (r < k) := by apply propext; omega
    simp [e0, e1]
theorem toVectorS_P (b o c m : Nat) (V : Nat → Nat → Nat) (w : World) (hm0 : 0 < m) (hm : m < 10000000) (hc : ∀ i, i < m → ∀ j, j < 6 → w.cell? ⟨b, o + i * 6 + j, none⟩ = some (.int .u8 (V i j : Int))) :
    CallsR Try.prog 26 #[.slice (some ⟨b, o, none⟩) m c] w (fun v w' => ∃ b, v = .slice (some ⟨b, 0, none⟩) m m ∧ w.heap.size ≤ b ∧ Blk w' b (vecsC m V)) := by
  refine calls_fr [.slice (some ⟨b, o, none⟩) m c] Try.func26 rfl Try.ntmps26 rfl fun a hF => ?_;have hM : Mem w w [none] [] := MemX.start w 1;change Fr 23 a [(0, .slice (some ⟨b, o, none⟩) m c)] at hF;refine sr <| ag hF rfl rfl fun a hF => ns <| mv hF rfl rfl fun a hF => st hF (g_len ty_us_43 hF rfl) rfl fun a hF => stR hF (d_makeVs (len := m) 0 hM hF ty_si_35 rfl rfl (by omega) (by decide)) rfl ?_;rintro _ w' a ⟨b2, rfl, hM, -⟩ hF;refine ag hF rfl rfl fun a hF => nt <| sq <| sr <| ag hF rfl rfl fun a hF => nt <| wp_block ?_;change Mem w _ [some (b2, vecsC m (fun _ _ => 0))] [] at hM;refine c_loop (fun (kk : Nat) a w' => kk ≤ m ∧ (True) ∧ Fr 23 a [(0, .slice (some ⟨b, o, none⟩) m c), (2, .slice none 0 0), (3, .slice (some ⟨b2, 0, none⟩) m m), (4, .int .i64 (kk : Int))] ∧ Mem w w' [some (b2, vecsC m (fun i j => if i < kk then V i j else 0))] []) (fun kk => m - kk) 0 ?_ ?_
  · refine ⟨by omega, trivial, hF.sub _ (by repeat' constructor), ?_⟩
    exact hM.rowc 0 rfl (vecsC_congr fun i hi c hc => by simp)
  clear hF hM;rintro gk a w' ⟨hgk, hinv1, hF, hM⟩;refine sq <| sr <| mv hF rfl rfl fun a hF => mv hF rfl rfl fun a hF => st hF (g_len ty_us_43 hF rfl) rfl fun a hF => st hF (g_lss hF rfl rfl) rfl fun a hF => nt <| c_cond hF rfl (fun h3 => ?_) (fun h3 => ?_)
  · refine wp_skip ?_
    refine tN <| sq <| wp_block <| wp_region_lit <| mv hF rfl rfl fun a hF => mv hF rfl rfl fun a hF => mv hF rfl rfl fun a hF => mv hF rfl rfl fun a hF => st hF (g_indexSl (i := gk) ty_sl_43 hF rfl rfl rfl (by omega)) rfl fun a hF => st hF (g_loadCV ty_ag_22 hF rfl (fun j hj => cell_ext (hc (gk) (by omega) j hj) hM.below)) rfl fun a hF => stR hF (d_call Try.call31 hF (.cons rfl .nil) (toVector_ok (V (gk)) _)) rfl ?_;rintro _ w' a ⟨hx, rfl⟩ hF;have hM := hM.ext hx;refine st hF (g_indexSl (i := gk) ty_sl_35 hF rfl rfl rfl (by omega)) rfl fun a hF => stN hF (d_storeAgg 0 hM rfl ty_sz_27 hF rfl rfl (by first | exact vecC_one | exact cells_one | (refine fnC_one fun _ _ => ?_; first | rfl | (split <;> rfl))) (by simp only [sz0, vecsC_size]) (by simp only [sz0, vecsC_size] <;> omega) (vecsC_put gk (by omega) (by omega) (putV_step (V := V)))) ?_;intro _ w' a hM hF;change Mem w w' [some (b2, vecsC m (fun i j => if i < gk + 1 then V i j else 0))] [] at hM;refine wpList_nil <| iN <| tN <| wp_region_lit <| mv hF rfl rfl fun a hF => st hF (g_add hF rfl rfl (add_nat (gk) (1) (by omega))) rfl fun a hF => ag hF rfl rfl fun a hF => nt <| ⟨gk + 1, ⟨by omega, trivial, hF.sub _ (by repeat' constructor), ?_⟩, by omega⟩;exact hM
  obtain rfl : m = gk := by omega
  have hM := hM.rowc (cs' := vecsC m V) 0 rfl (vecsC_congr fun i hi c hc => by rw [if_pos hi]);refine wp_exit <| tX <| tX <| ib_same <| tN <| sr <| mv hF rfl rfl fun a hF => ag hF rfl rfl fun a hF => nt <| wp_ret <| fin1 rfl hF.defers (res_tmp hF rfl) ⟨_, rfl, hM.below, ?_⟩;exact ⟨_, rfl, hM.ge 0 rfl, hM.row 0 rfl⟩
theorem toVectorS_Z (x : Option Addr) (c : Nat) (V : Nat → Nat → Nat) (w : World)  :
    CallsR Try.prog 26 #[.slice x 0 c] w (fun v w' => ∃ b, v = .slice (some ⟨b, 0, none⟩) 0 0 ∧ w.heap.size ≤ b ∧ Blk w' b (vecsC 0 V)) := by
  refine calls_fr [.slice x 0 c] Try.func26 rfl Try.ntmps26 rfl fun a hF => ?_;have hM : Mem w w [none] [] := MemX.start w 1;change Fr 23 a [(0, .slice x 0 c)] at hF;refine sr <| ag hF rfl rfl fun a hF => ns <| mv hF rfl rfl fun a hF => st hF (g_lenX ty_us_43 hF rfl) rfl fun a hF => stR hF (d_makeVs (len := 0) 0 hM hF ty_si_35 rfl rfl (by omega) (by decide)) rfl ?_;rintro _ w' a ⟨b2, rfl, hM, -⟩ hF;refine ag hF rfl rfl fun a hF => nt <| sq <| sr <| ag hF rfl rfl fun a hF => nt <| wp_block ?_;change Mem w _ [some (b2, vecsC 0 (fun _ _ => 0))] [] at hM;refine c_loop (fun (kk : Nat) a w' => kk ≤ 0 ∧ (True) ∧ Fr 23 a [(0, .slice x 0 c), (2, .slice none 0 0), (3, .slice (some ⟨b2, 0, none⟩) 0 0), (4, .int .i64 (kk : Int))] ∧ Mem w w' [some (b2, vecsC 0 (fun i j => if i < kk then V i j else 0))] []) (fun kk => 0 - kk) 0 ?_ ?_
  · refine ⟨by omega, trivial, hF.sub _ (by repeat' constructor), ?_⟩
    exact hM.rowc 0 rfl (vecsC_congr fun i hi c hc => by simp)
  clear hF hM;rintro gk a w' ⟨hgk, hinv1, hF, hM⟩;refine sq <| sr <| mv hF rfl rfl fun a hF => mv hF rfl rfl fun a hF => st hF (g_lenX ty_us_43 hF rfl) rfl fun a hF => st hF (g_lss hF rfl rfl) rfl fun a hF => nt <| c_cond hF rfl (fun h3 => ?_) (fun h3 => ?_)
  · exfalso; omega
  obtain rfl : 0 = gk := by omega
  refine wp_exit <| tX <| tX <| ib_same <| tN <| sr <| mv hF rfl rfl fun a hF => ag hF rfl rfl fun a hF => nt <| wp_ret <| fin1 rfl hF.defers (res_tmp hF rfl) ⟨_, rfl, hM.below, ?_⟩;exact ⟨_, rfl, hM.ge 0 rfl, (hM.rowc (cs' := vecsC 0 V) 0 rfl (vecsC_congr fun i hi => absurd hi (by omega))).row 0 rfl⟩
theorem toVectorS_ok (sl : Value) (m : Nat) (V : Nat → Nat → Nat) (w : World) (hs : ArgVs w sl m V) (hm : m < 10000000) : CallsR Try.prog 26 #[sl] w (fun v w' => ∃ b, v = .slice (some ⟨b, 0, none⟩) m m ∧ w.heap.size ≤ b ∧ Blk w' b (vecsC m V)) := by
  by_cases h0 : 0 < m
  · obtain ⟨b, o, c, rfl, hc⟩ := hs.2 h0
    exact toVectorS_P b o c m V w h0 hm hc
  · obtain ⟨⟨x, c, rfl⟩, -⟩ := hs
    obtain rfl : m = 0 := by omega
    exact toVectorS_Z x c V w
theorem eqVectorS_own (b1 b2 m : Nat) (V : Nat → Nat → Nat) (w : World) (hm : m < 10000000) (hb1 : Blk w b1 (vecsC m V)) (hb2 : Blk w b2 (vecsC m V)) (hV : ∀ i c, V i c ≤ 255) :
    CallsR Try.prog 19 #[.slice (some ⟨b1, 0, none⟩) m m, .slice (some ⟨b2, 0, none⟩) m m] w (fun res _ => res = .bool true) := by
  refine calls_fr [.slice (some ⟨b1, 0, none⟩) m m, .slice (some ⟨b2, 0, none⟩) m m] Try.func19 rfl Try.ntmps19 rfl fun a hF => ?_;have hM : Mem w w [] [(b1, vecsC m V), (b2, vecsC m V)] := MemX.startD w 0 _ (startD2 hb1 hb2);change Fr 27 a [(0, .slice (some ⟨b1, 0, none⟩) m m), (1, .slice (some ⟨b2, 0, none⟩) m m)] at hF;refine sr <| ag hF rfl rfl fun a hF => nt <| sq <| sr <| mv hF rfl rfl fun a hF => st hF (g_len ty_us_35 hF rfl) rfl fun a hF => mv hF rfl rfl fun a hF => st hF (g_len ty_us_35 hF rfl) rfl fun a hF => st hF (g_neq hF rfl rfl) rfl fun a hF => nt <| c_cond hF rfl (fun h1 => ?_) (fun h1 => ?_)
  · exact absurd rfl h1
  refine wp_skip <| tN <| sq <| sr <| ag hF rfl rfl fun a hF => nt <| wp_block ?_;change Mem w _ [] [(b1, vecsC m V), (b2, vecsC m V)] at hM;refine c_loop (fun (kk : Nat) a w' => kk ≤ m ∧ (True) ∧ Fr 27 a [(0, .slice (some ⟨b1, 0, none⟩) m m), (1, .slice (some ⟨b2, 0, none⟩) m m), (10, .bool (decide (((m : Int) : Int) ≠ (m : Int)))), (5, .int .i64 (kk : Int))] ∧ Mem w w' [] [(b1, vecsC m V), (b2, vecsC m V)]) (fun kk => m - kk) 0 ?_ ?_
  · refine ⟨by omega, trivial, hF.sub _ (by repeat' constructor), ?_⟩
    exact hM
  clear hF hM;rintro gk a w' ⟨hgk, hinv1, hF, hM⟩;refine sq <| sr <| mv hF rfl rfl fun a hF => mv hF rfl rfl fun a hF => st hF (g_len ty_us_35 hF rfl) rfl fun a hF => st hF (g_lss hF rfl rfl) rfl fun a hF => nt <| c_cond hF rfl (fun h2 => ?_) (fun h2 => ?_)
  · refine wp_skip ?_
    refine tN <| sq <| wp_block <| sq <| c_par 8 [] [.val (.slice (some ⟨b1, 0, none⟩) m m), .val (.int .i64 (gk : Int)), .val (ptr b1 (0 + (gk) * 6)), .val (.agg (vecC (V (gk)))), .val (.slice (some ⟨b2, 0, none⟩) m m), .val (.int .i64 (gk : Int)), .val (ptr b2 (0 + (gk) * 6)), .val (.agg (vecC (V (gk))))] hmix rfl hF rfl hM ⟨fun a w gG hF hS hd => by exact pmv hS rfl hF rfl, fun a w gG hF hS hd => by exact pmv hS rfl hF rfl, fun a w gG hF hS hd => by have hF := hF.ext1 17 (hd 0 rfl rfl); have hF := hF.ext1 18 (hd 1 rfl rfl); exact par_val hS rfl (g_indexSl (i := gk) ty_sl_35 hF rfl rfl rfl (by omega)), fun a w gG hF hS hd => by have hF := hF.ext1 19 (hd 2 rfl rfl); have hM := hS.mem rfl; exact par_val hS rfl (g_loadAgg ty_ag_27 hF rfl (hM.fz 0 rfl) (by rw [vecsC_size]; omega) (vecsC_row (gk) (by omega) (by omega) (by omega))), fun a w gG hF hS hd => by exact pmv hS rfl hF rfl, fun a w gG hF hS hd => by exact pmv hS rfl hF rfl, fun a w gG hF hS hd => by have hF := hF.ext1 21 (hd 4 rfl rfl); have hF := hF.ext1 22 (hd 5 rfl rfl); exact par_val hS rfl (g_indexSl (i := gk) ty_sl_35 hF rfl rfl rfl (by omega)), fun a w gG hF hS hd => by have hF := hF.ext1 23 (hd 6 rfl rfl); have hM := hS.mem rfl; exact par_val hS rfl (g_loadAgg ty_ag_27 hF rfl (hM.fz 1 rfl) (by rw [vecsC_size]; omega) (vecsC_row (gk) (by omega) (by omega) (by omega))), trivial⟩ ?_;intro a w' L hF hS hq;have hF := hF.ext1 17 (hq 0 rfl rfl);have hF := hF.ext1 18 (hq 1 rfl rfl);have hF := hF.ext1 19 (hq 2 rfl rfl);have hF := hF.ext1 20 (hq 3 rfl rfl);have hF := hF.ext1 21 (hq 4 rfl rfl);have hF := hF.ext1 22 (hq 5 rfl rfl);have hF := hF.ext1 23 (hq 6 rfl rfl);have hF := hF.ext1 24 (hq 7 rfl rfl);have hM := hS.mem rfl;change wpList Try.prog _ _ [_, _] _ _;refine stR hF (d_call Try.call16 hF (.cons rfl (.cons rfl .nil)) (eqVector_ok (V (gk)) (V (gk)) _)) rfl ?_;rintro _ w' a ⟨hx, rfl⟩ hF;have hM := hM.ext hx;refine st hF (g_notP hF rfl) rfl fun a hF => nt <| c_cond hF rfl (fun h3 => ?_) (fun h3 => ?_)
    · exact absurd (fun i hi => rfl) h3
    refine wp_skip <| iN <| tN <| wp_region_lit <| mv hF rfl rfl fun a hF => st hF (g_add hF rfl rfl (add_nat (gk) (1) (by omega))) rfl fun a hF => ag hF rfl rfl fun a hF => nt <| ⟨gk + 1, ⟨by omega, trivial, hF.sub _ (by repeat' constructor), ?_⟩, by omega⟩;exact hM
  obtain rfl : m = gk := by omega
  refine wp_exit <| tX <| tX <| ib_same <| tN <| sr <| ag hF rfl rfl fun a hF => nt <| wp_ret <| fin1 rfl hF.defers (res_tmp hF rfl) ⟨_, rfl, hM.below, ?_⟩
  show _ = _
  rfl
end Go.Proofs.Ytkodkghomlkifaa
