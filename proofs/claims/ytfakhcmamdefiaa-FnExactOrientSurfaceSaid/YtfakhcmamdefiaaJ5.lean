/- What functions of the program return, as walks over their operations; no statement of the seat is proved here. -/
import Derived.Test.YtfakhcmamdefiaaJ4
import Derived.Test.YtfakhcmamdefiaaSw65
set_option linter.unusedVariables false
set_option linter.unusedSimpArgs false
namespace Go.Proofs.Ytfakhcmamdefiaa
open Go Go.RowKit Go.Sw Go.Ech
open Classical
theorem ty_us_36 : Try.prog.underlying 36 = some (.slice 2) := by kernel_rfl
theorem ty_us_22 : Try.prog.underlying 22 = some (.slice 36) := by kernel_rfl
theorem ty_sl_22 : sliceOf Try.prog 22 = some 1 := by kernel_rfl
theorem ty_on_36 : oneP Try.prog 36 = true := by kernel_rfl
theorem ty_sl_36 : sliceOf Try.prog 36 = some 1 := by kernel_rfl
theorem ty_on_2 : oneP Try.prog 2 = true := by kernel_rfl
theorem ty_mk_36_0 : ∀ w, (Instr.makeSlice 36 (.int .i64 ((0 : Nat) : Int)) (.int .i64 ((0 : Nat) : Int))).run Try.prog w = .ok (.slice (some ⟨w.heap.size, 0, none⟩) 0 0) (w.alloc (.cells (fnC 0 (fun _ => .int .i64 (0))) 2)) := by intros; kernel_rfl
theorem ty_si_22 : slI Try.prog 22 = some (36, some (.slice none 0 0), 1, 24) := by kernel_rfl
theorem ty_mk_22_0 : ∀ w, (Instr.makeSlice 22 (.int .i64 ((0 : Nat) : Int)) (.int .i64 ((0 : Nat) : Int))).run Try.prog w = .ok (.slice (some ⟨w.heap.size, 0, none⟩) 0 0) (w.alloc (.cells (fnC 0 (fun _ => .slice none 0 0)) 36)) := by intros; kernel_rfl
def szV (k l : Nat) : Int := if l ≤ k then ((k - l : Nat) : Int) else -1
theorem szV_yes {k l : Nat} (h : l ≤ k) : szV k l = ((k - l : Nat) : Int) := if_pos h
theorem szV_no {k l : Nat} (h : ¬ l ≤ k) : szV k l = -1 := if_neg h
theorem szV_neg {k l : Nat} (h : szV k l < 0) : k < l := by
  unfold szV at h
  split at h <;> omega
theorem szV_pos {k l : Nat} (h : ¬ szV k l < 0) : l ≤ k := by
  unfold szV at h
  split at h <;> omega
theorem szInt64S_y (x : Option Addr) (m c k : Nat) (w : World) (hk : k < 10000000) (hm : m ≤ k) :
    CallsR Try.prog 23 #[.slice x m c, .int .i64 (k : Int)] w (fun res _ => res = .int .i64 ((k - m : Nat) : Int)) := by
  refine calls_fr [.slice x m c, .int .i64 (k : Int)] Try.func23 rfl Try.ntmps23 rfl fun a hF => ?_;have hM : Mem w w [] [] := MemX.start w 0;change Fr 12 a [(0, .slice x m c), (1, .int .i64 (k : Int))] at hF;refine sr <| ag hF rfl rfl fun a hF => ns <| mv hF rfl rfl fun a hF => mv hF rfl rfl fun a hF => st hF (g_lenX ty_us_36 hF rfl) rfl fun a hF => st hF (g_sub hF rfl rfl (show _ = (((k) - (m) : Nat) : Int) from (show IntKind.i64.wrap ((((k) : Nat) : Int) - (((m) : Nat) : Int)) = (((k) - (m) : Nat) : Int) from by rw [wrap_i64 (by omega) (by omega)]; omega))) rfl fun a hF => ag hF rfl rfl fun a hF => nt <| sq <| sr <| mv hF rfl rfl fun a hF => st hF (g_lss hF rfl rfl) rfl fun a hF => nt <| c_cond hF rfl (fun h1 => ?_) (fun h1 => ?_)
  · exfalso; omega
  refine wp_skip <| tN <| sr <| mv hF rfl rfl fun a hF => ag hF rfl rfl fun a hF => nt <| wp_ret <| fin1 rfl hF.defers (res_tmp hF rfl) ⟨_, rfl, hM.below, ?_⟩
  show _ = _
  rfl
theorem szInt64S_n (x : Option Addr) (m c k : Nat) (w : World) (hk : k < 10000000) (hm : k < m) (hm2 : m ≤ maxLen) :
    CallsR Try.prog 23 #[.slice x m c, .int .i64 (k : Int)] w (fun res _ => res = .int .i64 (-1)) := by
  refine calls_fr [.slice x m c, .int .i64 (k : Int)] Try.func23 rfl Try.ntmps23 rfl fun a hF => ?_;have hM : Mem w w [] [] := MemX.start w 0;change Fr 12 a [(0, .slice x m c), (1, .int .i64 (k : Int))] at hF
  unfold maxLen at hm2
  refine sr <| ag hF rfl rfl fun a hF => ns <| mv hF rfl rfl fun a hF => mv hF rfl rfl fun a hF => st hF (g_lenX ty_us_36 hF rfl) rfl fun a hF => st hF (g_sub hF rfl rfl (wrap_i64 (by omega) (by omega))) rfl fun a hF => ag hF rfl rfl fun a hF => nt <| sq <| sr <| mv hF rfl rfl fun a hF => st hF (g_lss hF rfl rfl) rfl fun a hF => nt <| c_cond hF rfl (fun h1 => ?_) (fun h1 => ?_)
  · refine sq ?_
    refine wp_region_lit <| ag hF rfl rfl fun a hF => nt <| wp_ret <| tR <| fin1 rfl hF.defers (res_tmp hF rfl) ⟨_, rfl, hM.below, ?_⟩
    show _ = _
    rfl
  exfalso; omega
theorem szInt64S_ok (x : Option Addr) (m c k : Nat) (w : World) (hk : k < 10000000) (hm2 : m ≤ maxLen) : CallsR Try.prog 23 #[.slice x m c, .int .i64 (k : Int)] w (fun res _ => res = .int .i64 (szV k m)) := by
  by_cases h : m ≤ k
  · rw [szV_yes h]; exact szInt64S_y x m c k w hk h
  · rw [szV_no h]; exact szInt64S_n x m c k w hk (by omega) hm2
theorem szSS_P (b o c m k : Nat) (Ln : Nat → Nat) (R : Nat → Nat → Int) (xs : Nat → Option Addr) (ca be ob : Nat → Nat) (w : World) (hm0 : 0 < m) (hk : k < 10000000) (hm : m ≤ k) (hL2 : ∀ i, Ln i ≤ maxLen) (hcell : ∀ i, i < m → w.cell? ⟨b, o + i * 1, none⟩ = some (.slice (xs i) (Ln i) (ca i))) :
    CallsR Try.prog 8 #[.slice (some ⟨b, o, none⟩) m c, .int .i64 (k : Int)] w (fun res _ => res = .int .i64 (szV (k - m) (sumTo Ln m))) := by
  refine calls_fr [.slice (some ⟨b, o, none⟩) m c, .int .i64 (k : Int)] Try.func8 rfl Try.ntmps8 rfl fun a hF => ?_;have hM : Mem w w [] [] := MemX.start w 0;change Fr 27 a [(0, .slice (some ⟨b, o, none⟩) m c), (1, .int .i64 (k : Int))] at hF;refine sr <| ag hF rfl rfl fun a hF => ns <| mv hF rfl rfl fun a hF => mv hF rfl rfl fun a hF => st hF (g_len ty_us_22 hF rfl) rfl fun a hF => st hF (g_sub hF rfl rfl (show _ = (((k) - (m) : Nat) : Int) from (show IntKind.i64.wrap ((((k) : Nat) : Int) - (((m) : Nat) : Int)) = (((k) - (m) : Nat) : Int) from by rw [wrap_i64 (by omega) (by omega)]; omega))) rfl fun a hF => ag hF rfl rfl fun a hF => nt <| sq <| sr <| mv hF rfl rfl fun a hF => st hF (g_lss hF rfl rfl) rfl fun a hF => nt <| c_cond hF rfl (fun h1 => ?_) (fun h1 => ?_)
  · exfalso; omega
  refine wp_skip <| tN <| sq <| sr <| ag hF rfl rfl fun a hF => nt <| wp_block ?_;change Mem w _ [] [] at hM;refine c_loop (fun (kk : Nat) a w' => kk ≤ m ∧ (sumTo Ln kk ≤ k - m) ∧ Fr 27 a [(0, .slice (some ⟨b, o, none⟩) m c), (11, .bool (decide (((((k) - (m) : Nat) : Int) : Int) < 0))), (5, .int .i64 (kk : Int)), (1, .int .i64 (((k - m - sumTo Ln kk : Nat) : Int)))] ∧ Mem w w' [] []) (fun kk => m - kk) 0 ?_ ?_
  · refine ⟨by omega, by simp [sumTo], hF.sub _ (by repeat' constructor), ?_⟩
    exact hM
  clear hF hM;rintro gi a w' ⟨hgi, hinv1, hF, hM⟩;have hsu : gi < m → sumTo Ln gi + Ln gi ≤ sumTo Ln m := fun q => sumTo_up (f := Ln) q;refine sq <| sr <| mv hF rfl rfl fun a hF => mv hF rfl rfl fun a hF => st hF (g_len ty_us_22 hF rfl) rfl fun a hF => st hF (g_lss hF rfl rfl) rfl fun a hF => nt <| c_cond hF rfl (fun h2 => ?_) (fun h2 => ?_)
  · refine wp_skip ?_
    refine tN <| sq <| wp_block <| sr <| mv hF rfl rfl fun a hF => mv hF rfl rfl fun a hF => st hF (g_indexSl (i := gi) ty_sl_22 hF rfl rfl rfl (by omega)) rfl fun a hF => st hF (g_loadC ty_on_36 hF rfl (cell_ext (hcell (gi) (by omega)) hM.below)) rfl fun a hF => mv hF rfl rfl fun a hF => stR hF (d_call Try.call23 hF (.cons rfl (.cons rfl .nil)) (szInt64S_ok (xs (gi)) (Ln (gi)) (ca (gi)) (k - m - sumTo Ln gi) _ (by omega) (hL2 _))) rfl ?_;rintro _ w' a ⟨hx, rfl⟩ hF;have hM := hM.ext hx;refine ag hF rfl rfl fun a hF => ns <| mv hF rfl rfl fun a hF => st hF (g_lss hF rfl rfl) rfl fun a hF => nt <| c_cond hF rfl (fun h3 => ?_) (fun h3 => ?_)
    · refine sq ?_
      refine wp_region_lit <| ag hF rfl rfl fun a hF => nt <| wp_ret <| iR <| tR <| tR <| iR <| tR <| fin1 rfl hF.defers (res_tmp hF rfl) ⟨_, rfl, hM.below, ?_⟩
      show _ = _
      exact congrArg (Value.int .i64) (szV_no (by have z := szV_neg (by assumption); omega)).symm
    refine wp_skip <| iN <| tN <| wp_region_lit <| mv hF rfl rfl fun a hF => st hF (g_add hF rfl rfl (add_nat (gi) (1) (by omega))) rfl fun a hF => ag hF rfl rfl fun a hF => wpList_nil <| tN ?_;rw [show szV (k - m - sumTo Ln gi) (Ln gi) = ((k - m - sumTo Ln (gi + 1) : Nat) : Int) from by rw [szV_yes (szV_pos (by assumption))]; simp only [sumTo]; omega] at hF;refine ⟨gi + 1, ⟨by omega, by have z := szV_pos (by assumption); simp only [sumTo]; omega, hF.sub _ (by repeat' constructor), ?_⟩, by omega⟩;exact hM
  obtain rfl : m = gi := by omega
  refine wp_exit <| tX <| tX <| ib_same <| tN <| sr <| mv hF rfl rfl fun a hF => ag hF rfl rfl fun a hF => nt <| wp_ret <| fin1 rfl hF.defers (res_tmp hF rfl) ⟨_, rfl, hM.below, ?_⟩
  show _ = _
  exact congrArg (Value.int .i64) (szV_yes (by omega)).symm
theorem szSS_Z (x : Option Addr) (c k : Nat) (w : World) (hk : k < 10000000) :
    CallsR Try.prog 8 #[.slice x 0 c, .int .i64 (k : Int)] w (fun res _ => res = .int .i64 (k : Int)) := by
  refine calls_fr [.slice x 0 c, .int .i64 (k : Int)] Try.func8 rfl Try.ntmps8 rfl fun a hF => ?_;have hM : Mem w w [] [] := MemX.start w 0;change Fr 27 a [(0, .slice x 0 c), (1, .int .i64 (k : Int))] at hF;refine sr <| ag hF rfl rfl fun a hF => ns <| mv hF rfl rfl fun a hF => mv hF rfl rfl fun a hF => st hF (g_lenX ty_us_22 hF rfl) rfl fun a hF => st hF (g_sub hF rfl rfl (show _ = (((k) - (0) : Nat) : Int) from (show IntKind.i64.wrap ((((k) : Nat) : Int) - (((0) : Nat) : Int)) = (((k) - (0) : Nat) : Int) from by rw [wrap_i64 (by omega) (by omega)]; omega))) rfl fun a hF => ag hF rfl rfl fun a hF => nt <| sq <| sr <| mv hF rfl rfl fun a hF => st hF (g_lss hF rfl rfl) rfl fun a hF => nt <| c_cond hF rfl (fun h1 => ?_) (fun h1 => ?_)
  · exfalso; omega
  refine wp_skip <| tN <| sq <| sr <| ag hF rfl rfl fun a hF => nt <| wp_block ?_;change Mem w _ [] [] at hM;refine c_loop (fun (kk : Nat) a w' => kk ≤ 0 ∧ (True) ∧ Fr 27 a [(0, .slice x 0 c), (11, .bool (decide (((((k) - (0) : Nat) : Int) : Int) < 0))), (5, .int .i64 (kk : Int)), (1, .int .i64 (k : Int))] ∧ Mem w w' [] []) (fun kk => 0 - kk) 0 ?_ ?_
  · refine ⟨by omega, trivial, hF.sub _ (by repeat' constructor), ?_⟩
    exact hM
  clear hF hM;rintro gi a w' ⟨hgi, hinv1, hF, hM⟩;refine sq <| sr <| mv hF rfl rfl fun a hF => mv hF rfl rfl fun a hF => st hF (g_lenX ty_us_22 hF rfl) rfl fun a hF => st hF (g_lss hF rfl rfl) rfl fun a hF => nt <| c_cond hF rfl (fun h2 => ?_) (fun h2 => ?_)
  · exfalso; omega
  obtain rfl : 0 = gi := by omega
  refine wp_exit <| tX <| tX <| ib_same <| tN <| sr <| mv hF rfl rfl fun a hF => ag hF rfl rfl fun a hF => nt <| wp_ret <| fin1 rfl hF.defers (res_tmp hF rfl) ⟨_, rfl, hM.below, ?_⟩
  show _ = _
  rfl
theorem szSS_N (x : Option Addr) (m c k : Nat) (w : World) (hk : k < 10000000) (hm : k < m) (hm2 : m ≤ maxLen) :
    CallsR Try.prog 8 #[.slice x m c, .int .i64 (k : Int)] w (fun res _ => res = .int .i64 (-1)) := by
  refine calls_fr [.slice x m c, .int .i64 (k : Int)] Try.func8 rfl Try.ntmps8 rfl fun a hF => ?_;have hM : Mem w w [] [] := MemX.start w 0;change Fr 27 a [(0, .slice x m c), (1, .int .i64 (k : Int))] at hF
  unfold maxLen at hm2
  refine sr <| ag hF rfl rfl fun a hF => ns <| mv hF rfl rfl fun a hF => mv hF rfl rfl fun a hF => st hF (g_lenX ty_us_22 hF rfl) rfl fun a hF => st hF (g_sub hF rfl rfl (wrap_i64 (by omega) (by omega))) rfl fun a hF => ag hF rfl rfl fun a hF => nt <| sq <| sr <| mv hF rfl rfl fun a hF => st hF (g_lss hF rfl rfl) rfl fun a hF => nt <| c_cond hF rfl (fun h1 => ?_) (fun h1 => ?_)
  · refine sq ?_
    refine wp_region_lit <| ag hF rfl rfl fun a hF => nt <| wp_ret <| tR <| fin1 rfl hF.defers (res_tmp hF rfl) ⟨_, rfl, hM.below, ?_⟩
    show _ = _
    rfl
  exfalso; omega
theorem szSS_ok (sl : Value) (m : Nat) (Ln : Nat → Nat) (R : Nat → Nat → Int) (xs : Nat → Option Addr) (ca be ob : Nat → Nat) (k : Nat) (w : World) (hss : ArgSS w sl m Ln R xs ca be ob) (hk : k < 10000000) (hm2 : m ≤ maxLen) (hL2 : ∀ i, Ln i ≤ maxLen) : CallsR Try.prog 8 #[sl, .int .i64 (k : Int)] w (fun res _ => res = .int .i64 (szV k (m + sumTo Ln m))) := by
  by_cases hk2 : k < m
  · obtain ⟨x, c, rfl⟩ := hss.out
    rw [szV_no (by omega)];exact szSS_N x m c k w hk hk2 hm2
  · by_cases h0 : 0 < m
    · obtain ⟨b, o, c, rfl, hcell⟩ := hss.cell h0
      have e : szV k (m + sumTo Ln m) = szV (k - m) (sumTo Ln m) := by
        by_cases q : sumTo Ln m ≤ k - m
        · rw [szV_yes q, szV_yes (by omega)]; omega
        · rw [szV_no q, szV_no (by omega)]
      rw [e];exact szSS_P b o c m k Ln R xs ca be ob w h0 hk (by omega) hL2 hcell
    · obtain ⟨x, c, rfl⟩ := hss.out
      obtain rfl : m = 0 := by omega
      rw [szV_yes (by simp [sumTo])];exact szSS_Z x c k w hk
theorem ss_add {D : Froz} {β Ln : Nat → Nat} {R : Nat → Nat → Int} {k b : Nat} (h : ∀ i, i < k → (β i, numI (Ln i) (R i)) ∈ D) : ∀ i, i < k + 1 → (up β k b i, numI (Ln i) (R i)) ∈ ([(b, numI (Ln k) (R k))] ++ D) := fun i hi => by
  by_cases e : i = k
  · subst e; rw [up_eq]; simp
  · rw [up_ne e]; exact List.mem_append_right _ (h i (by omega))
theorem ss_ge {D : Froz} {b s : Nat} {cs : Array Value} (hb : s ≤ b) (h : ∀ x ds, (x, ds) ∈ D → s ≤ x) : ∀ x ds, (x, ds) ∈ ([(b, cs)] ++ D) → s ≤ x := fun x ds hx => by
  rcases List.mem_append.1 hx with q | q
  · simp at q; obtain ⟨rfl, rfl⟩ := q; exact hb
  · exact h x ds q

theorem toInt64S_P (b o c m : Nat) (g : Nat → Int) (w : World) (hm0 : 0 < m) (hm : m < 10000000) (hc : ∀ i, i < m → w.cell? ⟨b, o + i * 1, none⟩ = some (.int .i64 (g i))) :
    CallsR Try.prog 26 #[.slice (some ⟨b, o, none⟩) m c] w (fun v w' => ∃ b, v = .slice (some ⟨b, 0, none⟩) m m ∧ w.heap.size ≤ b ∧ Blk w' b (numI m g)) := by
  refine calls_fr [.slice (some ⟨b, o, none⟩) m c] Try.func26 rfl Try.ntmps26 rfl fun a hF => ?_;have hM : Mem w w [none] [] := MemX.start w 1;change Fr 22 a [(0, .slice (some ⟨b, o, none⟩) m c)] at hF;refine sr <| ag hF rfl rfl fun a hF => ns <| mv hF rfl rfl fun a hF => st hF (g_len ty_us_36 hF rfl) rfl fun a hF => stR hF (d_make1b (len := m) 0 hM hF ty_si_36 rfl rfl rfl (by omega) (by decide)) rfl ?_;rintro _ w' a ⟨b2, rfl, hM, -⟩ hF;refine ag hF rfl rfl fun a hF => nt <| sq <| sr <| ag hF rfl rfl fun a hF => nt <| wp_block ?_;change Mem w _ [some (b2, numI m (fun _ => 0))] [] at hM;refine c_loop (fun (kk : Nat) a w' => kk ≤ m ∧ (True) ∧ Fr 22 a [(0, .slice (some ⟨b, o, none⟩) m c), (2, .slice none 0 0), (3, .slice (some ⟨b2, 0, none⟩) m m), (4, .int .i64 (kk : Int))] ∧ Mem w w' [some (b2, numI m (fun c => if c < kk then g c else 0))] []) (fun kk => m - kk) 0 ?_ ?_
  · refine ⟨by omega, trivial, hF.sub _ (by repeat' constructor), ?_⟩
    exact hM.rowc 0 rfl (numI_congr fun c hc => by simp)
  clear hF hM;rintro gk a w' ⟨hgk, hinv1, hF, hM⟩;refine sq <| sr <| mv hF rfl rfl fun a hF => mv hF rfl rfl fun a hF => st hF (g_len ty_us_36 hF rfl) rfl fun a hF => st hF (g_lss hF rfl rfl) rfl fun a hF => nt <| c_cond hF rfl (fun h3 => ?_) (fun h3 => ?_)
  · refine wp_skip ?_
    refine tN <| sq <| wp_block <| wp_region_lit <| mv hF rfl rfl fun a hF => mv hF rfl rfl fun a hF => mv hF rfl rfl fun a hF => mv hF rfl rfl fun a hF => st hF (g_indexSl (i := gk) ty_sl_36 hF rfl rfl rfl (by omega)) rfl fun a hF => st hF (g_loadC ty_on_2 hF rfl (cell_ext (hc (gk) (by omega)) hM.below)) rfl fun a hF => st hF (g_indexSl (i := gk) ty_sl_36 hF rfl rfl rfl (by omega)) rfl fun a hF => stN hF (d_store 0 hM rfl ty_on_2 hF rfl rfl rfl (by first | omega | (simp only [sz0, grpC_size, numI_size] <;> omega) | simp)) ?_;intro _ w' a hM hF;rw [show (numI m (fun c => if c < gk then g c else 0)).setIfInBounds (0 + (gk) * 1) (.int .i64 (g (gk))) = numI m (fun c => if c = gk then (g (gk) : Int) else (fun c => if c < gk then g c else 0) c) from numI_set (k := gk) (by omega) (fun c _ => rfl)] at hM;change Mem w w' [some (b2, numI m (fun c => if c = gk then (g (gk) : Int) else (fun c => if c < gk then g c else 0) c))] [] at hM;refine wpList_nil <| iN <| tN <| wp_region_lit <| mv hF rfl rfl fun a hF => st hF (g_add hF rfl rfl (add_nat (gk) (1) (by omega))) rfl fun a hF => ag hF rfl rfl fun a hF => nt <| ⟨gk + 1, ⟨by omega, trivial, hF.sub _ (by repeat' constructor), ?_⟩, by omega⟩;refine hM.rowc 0 rfl (numI_congr fun c hc => ?_)
    by_cases e1 : c = gk
    · subst e1; simp
    · have e0 : (c < gk + 1) = (c < gk) := by apply propext; omega
      simp [e0, e1]
  obtain rfl : m = gk := by omega
  have hM := hM.rowc (cs' := numI m g) 0 rfl (numI_congr fun c hc => by rw [if_pos hc]);refine wp_exit <| tX <| tX <| ib_same <| tN <| sr <| mv hF rfl rfl fun a hF => ag hF rfl rfl fun a hF => nt <| wp_ret <| fin1 rfl hF.defers (res_tmp hF rfl) ⟨_, rfl, hM.below, ?_⟩;exact ⟨_, rfl, hM.ge 0 rfl, hM.row 0 rfl⟩
theorem toInt64S_Z (x : Option Addr) (c : Nat) (g : Nat → Int) (w : World)  :
    CallsR Try.prog 26 #[.slice x 0 c] w (fun v w' => ∃ b, v = .slice (some ⟨b, 0, none⟩) 0 0 ∧ w.heap.size ≤ b ∧ Blk w' b (numI 0 g)) := by
  refine calls_fr [.slice x 0 c] Try.func26 rfl Try.ntmps26 rfl fun a hF => ?_;have hM : Mem w w [none] [] := MemX.start w 1;change Fr 22 a [(0, .slice x 0 c)] at hF;refine sr <| ag hF rfl rfl fun a hF => ns <| mv hF rfl rfl fun a hF => st hF (g_lenX ty_us_36 hF rfl) rfl fun a hF => stR hF (d_makeC (len := 0) 0 hM hF rfl rfl ty_mk_36_0) rfl ?_;rintro _ w' a ⟨b1, rfl, hM, -⟩ hF;refine ag hF rfl rfl fun a hF => nt <| sq <| sr <| ag hF rfl rfl fun a hF => nt <| wp_block ?_;change Mem w _ [some (b1, fnC 0 (fun _ => .int .i64 (0)))] [] at hM;refine c_loop (fun (kk : Nat) a w' => kk ≤ 0 ∧ (True) ∧ Fr 22 a [(0, .slice x 0 c), (2, .slice none 0 0), (3, .slice (some ⟨b1, 0, none⟩) 0 0), (4, .int .i64 (kk : Int))] ∧ Mem w w' [some (b1, numI 0 (fun c => if c < kk then g c else 0))] []) (fun kk => 0 - kk) 0 ?_ ?_
  · refine ⟨by omega, trivial, hF.sub _ (by repeat' constructor), ?_⟩
    exact hM.rowc 0 rfl (numI_congr fun c hc => by simp)
  clear hF hM;rintro gk a w' ⟨hgk, hinv1, hF, hM⟩;refine sq <| sr <| mv hF rfl rfl fun a hF => mv hF rfl rfl fun a hF => st hF (g_lenX ty_us_36 hF rfl) rfl fun a hF => st hF (g_lss hF rfl rfl) rfl fun a hF => nt <| c_cond hF rfl (fun h2 => ?_) (fun h2 => ?_)
  · exfalso; omega
  obtain rfl : 0 = gk := by omega
  refine wp_exit <| tX <| tX <| ib_same <| tN <| sr <| mv hF rfl rfl fun a hF => ag hF rfl rfl fun a hF => nt <| wp_ret <| fin1 rfl hF.defers (res_tmp hF rfl) ⟨_, rfl, hM.below, ?_⟩;exact ⟨_, rfl, hM.ge 0 rfl, (hM.rowc (cs' := numI 0 g) 0 rfl (numI_congr fun c hc => absurd hc (by omega))).row 0 rfl⟩
theorem toInt64S_ok (sl : Value) (m : Nat) (g : Nat → Int) (w : World) (hs : ArgSl w sl m g) (hm : m < 10000000) : CallsR Try.prog 26 #[sl] w (fun v w' => ∃ b, v = .slice (some ⟨b, 0, none⟩) m m ∧ w.heap.size ≤ b ∧ Blk w' b (numI m g)) := by
  by_cases h0 : 0 < m
  · obtain ⟨b, o, c, rfl, hc⟩ := hs.2 h0
    exact toInt64S_P b o c m g w h0 hm hc
  · obtain ⟨⟨x, c, rfl⟩, -⟩ := hs
    obtain rfl : m = 0 := by omega
    exact toInt64S_Z x c g w
theorem toSS_P (b o c m : Nat) (Ln : Nat → Nat) (R : Nat → Nat → Int) (xs : Nat → Option Addr) (ca be ob : Nat → Nat) (w : World) (hm0 : 0 < m) (hm : m < 10000000) (hl : ∀ i, i < m → Ln i < 10000000) (hcell : ∀ i, i < m → w.cell? ⟨b, o + i * 1, none⟩ = some (.slice (xs i) (Ln i) (ca i))) (hss : ArgSS w (.slice (some ⟨b, o, none⟩) m c) m Ln R xs ca be ob) :
    CallsR Try.prog 10 #[.slice (some ⟨b, o, none⟩) m c] w (fun v w' => SSOut w w' m Ln R v) := by
  refine calls_fr [.slice (some ⟨b, o, none⟩) m c] Try.func10 rfl Try.ntmps10 rfl fun a hF => ?_;have hM : Mem w w [none] [] := MemX.start w 1;change Fr 23 a [(0, .slice (some ⟨b, o, none⟩) m c)] at hF;refine sr <| ag hF rfl rfl fun a hF => ns <| mv hF rfl rfl fun a hF => st hF (g_len ty_us_22 hF rfl) rfl fun a hF => stR hF (d_make1b (len := m) 0 hM hF ty_si_22 rfl rfl rfl (by omega) (by decide)) rfl ?_;rintro _ w' a ⟨b2, rfl, hM, -⟩ hF;refine ag hF rfl rfl fun a hF => nt <| sq <| sr <| ag hF rfl rfl fun a hF => nt <| wp_block ?_;change Mem w _ [some (b2, fnC m (fun _ => .slice none 0 0))] [] at hM;refine c_loop (fun (kk : Nat) a w' => kk ≤ m ∧ ∃ (D2 : Froz), ∃ (be2 : Nat → Nat), ((∀ i, i < kk → (be2 i, numI (Ln i) (R i)) ∈ D2) ∧ (∀ x ds, (x, ds) ∈ D2 → w.heap.size ≤ x) ∧ ∀ i j, i < kk → j < kk → be2 i = be2 j → i = j) ∧ Fr 23 a [(0, .slice (some ⟨b, o, none⟩) m c), (2, .slice none 0 0), (3, .slice (some ⟨b2, 0, none⟩) m m), (4, .int .i64 (kk : Int))] ∧ Mem w w' [some (b2, fnC m (fun c => if c < kk then .slice (some ⟨be2 c, 0, none⟩) (Ln c) (Ln c) else .slice none 0 0))] D2) (fun kk => m - kk) 0 ?_ ?_
  · refine ⟨by omega, [], fun _ => 0, ⟨fun i hi => absurd hi (by omega), fun x ds hx => absurd hx (by simp), fun i j hi => absurd hi (by omega)⟩, hF.sub _ (by repeat' constructor), ?_⟩
    exact hM.rowc 0 rfl (fnC_congr fun c hc => by simp)
  clear hF hM;rintro gi a w' ⟨hgi, D2, be2, hinv1, hF, hM⟩;have hli := hl gi;refine sq <| sr <| mv hF rfl rfl fun a hF => mv hF rfl rfl fun a hF => st hF (g_len ty_us_22 hF rfl) rfl fun a hF => st hF (g_lss hF rfl rfl) rfl fun a hF => nt <| c_cond hF rfl (fun h3 => ?_) (fun h3 => ?_)
  · refine wp_skip ?_
    refine tN <| sq <| wp_block <| wp_region_lit <| mv hF rfl rfl fun a hF => mv hF rfl rfl fun a hF => mv hF rfl rfl fun a hF => mv hF rfl rfl fun a hF => st hF (g_indexSl (i := gi) ty_sl_22 hF rfl rfl rfl (by omega)) rfl fun a hF => st hF (g_loadC ty_on_36 hF rfl (cell_ext (hcell (gi) (by omega)) hM.below)) rfl fun a hF => stR hF (d_call Try.call26 hF (.cons rfl .nil) (toInt64S_ok _ (Ln gi) (R gi) _ ((hss.row (i := gi) (by omega)).ext hM.below) (by omega))) rfl ?_;rintro _ w' a ⟨hx, bq4, rfl, hge, hbk⟩ hF;have hszbq4 := hM.bel.size;have hnq := fun i hi => fresh_ne hM hge (hinv1.1 i hi);have hM := hM.addD hx (D' := [(bq4, numI (Ln gi) (R gi))]) (fun b cs hm => by simp at hm; obtain ⟨rfl, rfl⟩ := hm; exact ⟨hge, hbk⟩);change Mem w w' [some (b2, fnC m (fun c => if c < gi then .slice (some ⟨be2 c, 0, none⟩) (Ln c) (Ln c) else .slice none 0 0))] ([(bq4, numI (Ln gi) (R gi))] ++ D2) at hM;refine st hF (g_indexSl (i := gi) ty_sl_22 hF rfl rfl rfl (by omega)) rfl fun a hF => stN hF (d_store 0 hM rfl ty_on_36 hF rfl rfl rfl (by first | omega | (simp only [sz0, grpC_size, numI_size] <;> omega) | simp)) ?_;intro _ w' a hM hF;rw [show (fnC m (fun c => if c < gi then .slice (some ⟨be2 c, 0, none⟩) (Ln c) (Ln c) else .slice none 0 0)).setIfInBounds (0 + (gi) * 1) (.slice (some ⟨bq4, 0, none⟩) (Ln gi) (Ln gi)) = fnC m (fun c => if c = gi then .slice (some ⟨bq4, 0, none⟩) (Ln gi) (Ln gi) else if c < gi then .slice (some ⟨be2 c, 0, none⟩) (Ln c) (Ln c) else .slice none 0 0) from fnC_set (fun c _ => by rw [show 0 + (gi) * 1 = gi by omega])] at hM;change Mem w w' [some (b2, fnC m (fun c => if c = gi then .slice (some ⟨bq4, 0, none⟩) (Ln gi) (Ln gi) else if c < gi then .slice (some ⟨be2 c, 0, none⟩) (Ln c) (Ln c) else .slice none 0 0))] ([(bq4, numI (Ln gi) (R gi))] ++ D2) at hM;refine wpList_nil <| iN <| tN <| wp_region_lit <| mv hF rfl rfl fun a hF => st hF (g_add hF rfl rfl (add_nat (gi) (1) (by omega))) rfl fun a hF => ag hF rfl rfl fun a hF => wpList_nil <| tN ?_;have hDn := ss_add (R := R) (b := bq4) hinv1.1;have hDg := ss_ge (b := bq4) (cs := numI (Ln gi) (R gi)) (show w.heap.size ≤ bq4 by omega) hinv1.2.1;have hDi := upN_inj hinv1.2.2 hnq;refine ⟨gi + 1, ⟨by omega, ([(bq4, numI (Ln gi) (R gi))] ++ D2), up be2 gi bq4, ⟨hDn, hDg, hDi⟩, hF.sub _ (by repeat' constructor), ?_⟩, by omega⟩;refine hM.rowc 0 rfl (fnC_congr fun c hc => ?_)
    by_cases e1 : c = gi
    · subst e1; rw [if_pos rfl, if_pos (by omega), up_eq]
    · rw [if_neg e1, up_ne e1]
      have e0 : (c < gi + 1) = (c < gi) := by apply propext; omega
      simp only [e0]
  obtain rfl : m = gi := by omega
  have hM := hM.rowc (cs' := rowsC m Ln be2) 0 rfl (fnC_congr fun c hc => by rw [if_pos hc]);refine wp_exit <| tX <| tX <| ib_same <| tN <| sr <| mv hF rfl rfl fun a hF => ag hF rfl rfl fun a hF => nt <| wp_ret <| fin1 rfl hF.defers (res_tmp hF rfl) ⟨_, rfl, hM.below, ?_⟩;have e0 := hM.row 0 rfl;exact ⟨(b2, rowsC m Ln be2) :: D2, b2, be2, fun x ds hx => by
     rcases List.mem_cons.1 hx with h | h
     · simp only [Prod.mk.injEq] at h; obtain ⟨rfl, rfl⟩ := h; exact ⟨hM.ge 0 rfl, e0⟩
     · exact ⟨hinv1.2.1 x ds h, hM.fzm h⟩, rfl, List.mem_cons_self .., fun i hi => List.mem_cons_of_mem _ (hinv1.1 i hi), hinv1.2.2, fun i hi e => (hM.froz _ _ (hinv1.1 i hi)).2 0 _ _ rfl e.symm⟩
theorem toSS_Z (x : Option Addr) (c : Nat) (Ln : Nat → Nat) (R : Nat → Nat → Int) (w : World)  :
    CallsR Try.prog 10 #[.slice x 0 c] w (fun v w' => SSOut w w' 0 Ln R v) := by
  refine calls_fr [.slice x 0 c] Try.func10 rfl Try.ntmps10 rfl fun a hF => ?_;have hM : Mem w w [none] [] := MemX.start w 1;change Fr 23 a [(0, .slice x 0 c)] at hF;refine sr <| ag hF rfl rfl fun a hF => ns <| mv hF rfl rfl fun a hF => st hF (g_lenX ty_us_22 hF rfl) rfl fun a hF => stR hF (d_makeC (len := 0) 0 hM hF rfl rfl ty_mk_22_0) rfl ?_;rintro _ w' a ⟨b1, rfl, hM, -⟩ hF;refine ag hF rfl rfl fun a hF => nt <| sq <| sr <| ag hF rfl rfl fun a hF => nt <| wp_block ?_;change Mem w _ [some (b1, fnC 0 (fun _ => .slice none 0 0))] [] at hM;refine c_loop (fun (kk : Nat) a w' => kk ≤ 0 ∧ (True) ∧ Fr 23 a [(0, .slice x 0 c), (2, .slice none 0 0), (3, .slice (some ⟨b1, 0, none⟩) 0 0), (4, .int .i64 (kk : Int))] ∧ Mem w w' [some (b1, fnC 0 (fun _ => .slice none 0 0))] []) (fun kk => 0 - kk) 0 ?_ ?_
  · refine ⟨by omega, trivial, hF.sub _ (by repeat' constructor), ?_⟩
    exact hM
  clear hF hM;rintro gi a w' ⟨hgi, hinv1, hF, hM⟩;refine sq <| sr <| mv hF rfl rfl fun a hF => mv hF rfl rfl fun a hF => st hF (g_lenX ty_us_22 hF rfl) rfl fun a hF => st hF (g_lss hF rfl rfl) rfl fun a hF => nt <| c_cond hF rfl (fun h2 => ?_) (fun h2 => ?_)
  · exfalso; omega
  obtain rfl : 0 = gi := by omega
  refine wp_exit <| tX <| tX <| ib_same <| tN <| sr <| mv hF rfl rfl fun a hF => ag hF rfl rfl fun a hF => nt <| wp_ret <| fin1 rfl hF.defers (res_tmp hF rfl) ⟨_, rfl, hM.below, ?_⟩;have e0 := (hM.rowc (cs' := rowsC 0 Ln (fun _ => 0)) 0 rfl (fnC_congr fun c hc => absurd hc (by omega))).row 0 rfl;exact ⟨[(b1, rowsC 0 Ln (fun _ => 0))], b1, fun _ => 0, fun x ds hx => by
     simp at hx; obtain ⟨rfl, rfl⟩ := hx; exact ⟨hM.ge 0 rfl, e0⟩, rfl, List.mem_cons_self .., fun i hi => absurd hi (by omega), fun i j hi => absurd hi (by omega), fun i hi => absurd hi (by omega)⟩
theorem toSS_ok (sl : Value) (m : Nat) (Ln : Nat → Nat) (R : Nat → Nat → Int) (xs : Nat → Option Addr) (ca be ob : Nat → Nat) (w : World) (hss : ArgSS w sl m Ln R xs ca be ob) (hm : m < 10000000) (hl : ∀ i, i < m → Ln i < 10000000) : CallsR Try.prog 10 #[sl] w (fun v w' => SSOut w w' m Ln R v) := by
  by_cases h0 : 0 < m
  · obtain ⟨b, o, c, rfl, hcell⟩ := hss.cell h0
    exact toSS_P b o c m Ln R xs ca be ob w h0 hm hl hcell hss
  · obtain ⟨x, c, rfl⟩ := hss.out
    obtain rfl : m = 0 := by omega
    exact toSS_Z x c Ln R w
theorem eqInt64S_ok (b bz m : Nat) (f : Nat → Int) (w : World) (hb : Blk w b (numI m f)) (hbz : Blk w bz (numI m f)) (hm : m < 10000000) :
    CallsR Try.prog 30 #[.slice (some ⟨b, 0, none⟩) m m, .slice (some ⟨bz, 0, none⟩) m m] w (fun res _ => res = .bool true) := by
  refine calls_fr [.slice (some ⟨b, 0, none⟩) m m, .slice (some ⟨bz, 0, none⟩) m m] Try.func30 rfl Try.ntmps30 rfl fun a hF => ?_;have hM : Mem w w [] [(b, numI m f), (bz, numI m f)] := MemX.startD w 0 _ (startD2 hb hbz);change Fr 26 a [(0, .slice (some ⟨b, 0, none⟩) m m), (1, .slice (some ⟨bz, 0, none⟩) m m)] at hF;refine sr <| ag hF rfl rfl fun a hF => nt <| sq <| sr <| mv hF rfl rfl fun a hF => st hF (g_len ty_us_36 hF rfl) rfl fun a hF => mv hF rfl rfl fun a hF => st hF (g_len ty_us_36 hF rfl) rfl fun a hF => st hF (g_neq hF rfl rfl) rfl fun a hF => nt <| c_cond hF rfl (fun h1 => ?_) (fun h1 => ?_)
  · first | exact absurd rfl h1 | (exfalso; omega)
  refine wp_skip <| tN <| sq <| sr <| ag hF rfl rfl fun a hF => nt <| wp_block ?_;change Mem w _ [] [(b, numI m f), (bz, numI m f)] at hM;refine c_loop (fun (kk : Nat) a w' => kk ≤ m ∧ (True) ∧ Fr 26 a [(0, .slice (some ⟨b, 0, none⟩) m m), (1, .slice (some ⟨bz, 0, none⟩) m m), (10, .bool (decide (((m : Int) : Int) ≠ (m : Int)))), (5, .int .i64 (kk : Int))] ∧ Mem w w' [] [(b, numI m f), (bz, numI m f)]) (fun kk => m - kk) 0 ?_ ?_
  · refine ⟨by omega, trivial, hF.sub _ (by repeat' constructor), ?_⟩
    exact hM
  clear hF hM;rintro gk a w' ⟨hgk, hinv1, hF, hM⟩;refine sq <| sr <| mv hF rfl rfl fun a hF => mv hF rfl rfl fun a hF => st hF (g_len ty_us_36 hF rfl) rfl fun a hF => st hF (g_lss hF rfl rfl) rfl fun a hF => nt <| c_cond hF rfl (fun h2 => ?_) (fun h2 => ?_)
  · refine wp_skip ?_
    refine tN <| sq <| wp_block <| sq <| c_par 8 [] [.val (.slice (some ⟨b, 0, none⟩) m m), .val (.int .i64 (gk : Int)), .val (ptr b (0 + (gk) * 1)), .val (.int .i64 (f (gk))), .val (.slice (some ⟨bz, 0, none⟩) m m), .val (.int .i64 (gk : Int)), .val (ptr bz (0 + (gk) * 1)), .val (.int .i64 (f (gk)))] hmix rfl hF rfl hM ⟨fun a w gG hF hS hd => by exact pmv hS rfl hF rfl, fun a w gG hF hS hd => by exact pmv hS rfl hF rfl, fun a w gG hF hS hd => by have hF := hF.ext1 17 (hd 0 rfl rfl); have hF := hF.ext1 18 (hd 1 rfl rfl); exact par_val hS rfl (g_indexSl (i := gk) ty_sl_36 hF rfl rfl rfl (by omega)), fun a w gG hF hS hd => by have hF := hF.ext1 19 (hd 2 rfl rfl); have hM := hS.mem rfl; exact par_val hS rfl (g_load ty_on_2 hF rfl (hM.fz 0 rfl) (numI_get (k := gk) (by omega) (by omega))), fun a w gG hF hS hd => by exact pmv hS rfl hF rfl, fun a w gG hF hS hd => by exact pmv hS rfl hF rfl, fun a w gG hF hS hd => by have hF := hF.ext1 21 (hd 4 rfl rfl); have hF := hF.ext1 22 (hd 5 rfl rfl); exact par_val hS rfl (g_indexSl (i := gk) ty_sl_36 hF rfl rfl rfl (by omega)), fun a w gG hF hS hd => by have hF := hF.ext1 23 (hd 6 rfl rfl); have hM := hS.mem rfl; exact par_val hS rfl (g_load ty_on_2 hF rfl (hM.fz 1 rfl) (numI_get (k := gk) (by omega) (by omega))), trivial⟩ ?_;intro a w' L hF hS hq;have hF := hF.ext1 17 (hq 0 rfl rfl);have hF := hF.ext1 18 (hq 1 rfl rfl);have hF := hF.ext1 19 (hq 2 rfl rfl);have hF := hF.ext1 20 (hq 3 rfl rfl);have hF := hF.ext1 21 (hq 4 rfl rfl);have hF := hF.ext1 22 (hq 5 rfl rfl);have hF := hF.ext1 23 (hq 6 rfl rfl);have hF := hF.ext1 24 (hq 7 rfl rfl);have hM := hS.mem rfl;change wpList Try.prog _ _ [_] _ _;refine st hF (g_neq hF rfl rfl) rfl fun a hF => nt <| c_cond hF rfl (fun h3 => ?_) (fun h3 => ?_)
    · first | exact absurd rfl h3 | (exfalso; omega)
    refine wp_skip <| iN <| tN <| wp_region_lit <| mv hF rfl rfl fun a hF => st hF (g_add hF rfl rfl (add_nat (gk) (1) (by omega))) rfl fun a hF => ag hF rfl rfl fun a hF => nt <| ⟨gk + 1, ⟨by omega, trivial, hF.sub _ (by repeat' constructor), ?_⟩, by omega⟩;exact hM
  obtain rfl : m = gk := by omega
  refine wp_exit <| tX <| tX <| ib_same <| tN <| sr <| ag hF rfl rfl fun a hF => nt <| wp_ret <| fin1 rfl hF.defers (res_tmp hF rfl) ⟨_, rfl, hM.below, ?_⟩
  show _ = _
  rfl
theorem eqSS_b (D : Froz) (b bz m : Nat) (Ln be bz2 : Nat → Nat) (R : Nat → Nat → Int) (w : World) (hD : ∀ c ds, (c, ds) ∈ D → Blk w c ds) (hu1 : SSD D (.slice (some ⟨b, 0, none⟩) m m) m Ln R b be) (hu2 : SSD D (.slice (some ⟨bz, 0, none⟩) m m) m Ln R bz bz2) (hm : m < 10000000) (hl : ∀ i, i < m → Ln i < 10000000) :
    CallsR Try.prog 12 #[.slice (some ⟨b, 0, none⟩) m m, .slice (some ⟨bz, 0, none⟩) m m] w (fun res _ => res = .bool true) := by
  refine calls_fr [.slice (some ⟨b, 0, none⟩) m m, .slice (some ⟨bz, 0, none⟩) m m] Try.func12 rfl Try.ntmps12 rfl fun a hF => ?_;have hM : Mem w w [] D := MemX.startD w 0 _ hD;change Fr 27 a [(0, .slice (some ⟨b, 0, none⟩) m m), (1, .slice (some ⟨bz, 0, none⟩) m m)] at hF;refine sr <| ag hF rfl rfl fun a hF => nt <| sq <| sr <| mv hF rfl rfl fun a hF => st hF (g_len ty_us_22 hF rfl) rfl fun a hF => mv hF rfl rfl fun a hF => st hF (g_len ty_us_22 hF rfl) rfl fun a hF => st hF (g_neq hF rfl rfl) rfl fun a hF => nt <| c_cond hF rfl (fun h1 => ?_) (fun h1 => ?_)
  · first | exact absurd rfl h1 | (exfalso; omega)
  refine wp_skip <| tN <| sq <| sr <| ag hF rfl rfl fun a hF => nt <| wp_block ?_;change Mem w _ [] D at hM;refine c_loop (fun (kk : Nat) a w' => kk ≤ m ∧ (True) ∧ Fr 27 a [(0, .slice (some ⟨b, 0, none⟩) m m), (1, .slice (some ⟨bz, 0, none⟩) m m), (10, .bool (decide (((m : Int) : Int) ≠ (m : Int)))), (5, .int .i64 (kk : Int))] ∧ Mem w w' [] D) (fun kk => m - kk) 0 ?_ ?_
  · refine ⟨by omega, trivial, hF.sub _ (by repeat' constructor), ?_⟩
    exact hM
  clear hF hM;rintro gk a w' ⟨hgk, hinv1, hF, hM⟩;have hlk := hl gk;refine sq <| sr <| mv hF rfl rfl fun a hF => mv hF rfl rfl fun a hF => st hF (g_len ty_us_22 hF rfl) rfl fun a hF => st hF (g_lss hF rfl rfl) rfl fun a hF => nt <| c_cond hF rfl (fun h2 => ?_) (fun h2 => ?_)
  · refine wp_skip ?_
    refine tN <| sq <| wp_block <| sq <| c_par 8 [] [.val (.slice (some ⟨b, 0, none⟩) m m), .val (.int .i64 (gk : Int)), .val (ptr b (0 + (gk) * 1)), .val (.slice (some ⟨be (gk), 0, none⟩) (Ln (gk)) (Ln (gk))), .val (.slice (some ⟨bz, 0, none⟩) m m), .val (.int .i64 (gk : Int)), .val (ptr bz (0 + (gk) * 1)), .val (.slice (some ⟨bz2 (gk), 0, none⟩) (Ln (gk)) (Ln (gk)))] hmix rfl hF rfl hM ⟨fun a w gG hF hS hd => by exact pmv hS rfl hF rfl, fun a w gG hF hS hd => by exact pmv hS rfl hF rfl, fun a w gG hF hS hd => by have hF := hF.ext1 17 (hd 0 rfl rfl); have hF := hF.ext1 18 (hd 1 rfl rfl); exact par_val hS rfl (g_indexSl (i := gk) ty_sl_22 hF rfl rfl rfl (by omega)), fun a w gG hF hS hd => by have hF := hF.ext1 19 (hd 2 rfl rfl); have hM := hS.mem rfl; exact par_val hS rfl (g_load ty_on_36 hF rfl (hM.fzm hu1.out) (fnC_getE (gk) (by omega) (by omega) rfl)), fun a w gG hF hS hd => by exact pmv hS rfl hF rfl, fun a w gG hF hS hd => by exact pmv hS rfl hF rfl, fun a w gG hF hS hd => by have hF := hF.ext1 21 (hd 4 rfl rfl); have hF := hF.ext1 22 (hd 5 rfl rfl); exact par_val hS rfl (g_indexSl (i := gk) ty_sl_22 hF rfl rfl rfl (by omega)), fun a w gG hF hS hd => by have hF := hF.ext1 23 (hd 6 rfl rfl); have hM := hS.mem rfl; exact par_val hS rfl (g_load ty_on_36 hF rfl (hM.fzm hu2.out) (fnC_getE (gk) (by omega) (by omega) rfl)), trivial⟩ ?_;intro a w' L hF hS hq;have hF := hF.ext1 17 (hq 0 rfl rfl);have hF := hF.ext1 18 (hq 1 rfl rfl);have hF := hF.ext1 19 (hq 2 rfl rfl);have hF := hF.ext1 20 (hq 3 rfl rfl);have hF := hF.ext1 21 (hq 4 rfl rfl);have hF := hF.ext1 22 (hq 5 rfl rfl);have hF := hF.ext1 23 (hq 6 rfl rfl);have hF := hF.ext1 24 (hq 7 rfl rfl);have hM := hS.mem rfl;change wpList Try.prog _ _ [_, _] _ _;refine stR hF (d_call Try.call30 hF (.cons rfl (.cons rfl .nil)) (eqInt64S_ok (be (gk)) (bz2 (gk)) (Ln (gk)) (R (gk)) _ (hM.fzm (hu1.row (gk) (by omega))) (hM.fzm (hu2.row (gk) (by omega))) (by omega))) rfl ?_;rintro _ w' a ⟨hx, rfl⟩ hF;have hM := hM.ext hx;refine st hF (g_not hF rfl) rfl fun a hF => nt <| c_Fl hF rfl <| wp_skip <| iN <| tN <| wp_region_lit <| mv hF rfl rfl fun a hF => st hF (g_add hF rfl rfl (add_nat (gk) (1) (by omega))) rfl fun a hF => ag hF rfl rfl fun a hF => nt <| ⟨gk + 1, ⟨by omega, trivial, hF.sub _ (by repeat' constructor), ?_⟩, by omega⟩;exact hM
  obtain rfl : m = gk := by omega
  refine wp_exit <| tX <| tX <| ib_same <| tN <| sr <| ag hF rfl rfl fun a hF => nt <| wp_ret <| fin1 rfl hF.defers (res_tmp hF rfl) ⟨_, rfl, hM.below, ?_⟩
  show _ = _
  rfl
theorem eqSS_ok (D : Froz) (u v : Value) (b bz m : Nat) (Ln be bz2 : Nat → Nat) (R : Nat → Nat → Int) (w : World) (hD : ∀ c ds, (c, ds) ∈ D → Blk w c ds) (h1 : SSD D u m Ln R b be) (h2 : SSD D v m Ln R bz bz2) (hm : m < 10000000) (hl : ∀ i, i < m → Ln i < 10000000) : CallsR Try.prog 12 #[u, v] w (fun res _ => res = .bool true) := by
  have e1 := h1.val;have e2 := h2.val;subst e1;subst e2;exact eqSS_b D b bz m Ln be bz2 R w hD h1 h2 hm hl
end Go.Proofs.Ytfakhcmamdefiaa
