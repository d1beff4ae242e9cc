/- What functions of the program return, as walks over their operations; no statement of the seat is proved here. -/
import Derived.Test.YtjfmachfdpmdcaaDoorP3
set_option linter.unusedVariables false
set_option linter.unusedSimpArgs false
namespace Go.Proofs.YtjfmachfdpmdcaaDoor
open Go Go.RowKit Go.Sw Go.Ech
open Classical
theorem l02Copairing_ok (p n : Nat) (T : Nat → Nat → Nat → Nat) (f : Nat → Nat) (G : Nat → Nat → Nat) (w : World) (hp : primeN p) (hn0 : 0 < n) (hn : n ≤ 6) (hTp : ∀ i j k, T i j k < p) (hT0 : ∀ i j k, n ≤ k → T i j k = 0) (hf : ∀ i, f i ≤ 255) (hfr : FrobN p n T f) (hG : IsCop p n (formM p n T f) G) :
    CallsR Tryd.prog 67 #[.agg (algC (p : Int) (n : Int) T f)] w (fun u w' => TabOut w w' n n (fun i c => .int .i64 (G i c : Int)) u) := by
  refine calls_fr [.agg (algC (p : Int) (n : Int) T f)] Tryd.func67 rfl Tryd.ntmps67 rfl fun a hF => ?_;have hM : Mem w w [none, none, none, none, none, none, none] [] := MemX.start w 7;change Fr 76 a [(0, .agg (algC (p : Int) (n : Int) T f))] at hF;have hp2 := hp.two;have hp13 := hp.le;have hT : ∀ i j k, T i j k ≤ 255 := fun i j k => by have := hTp i j k; omega
  refine sr <| stR hF (d_box 0 hM hF rfl) rfl ?_;rintro _ w' a ⟨b1, rfl, hM, -⟩ hF;change Mem w w' [some (b1, algC (p : Int) (n : Int) T f), none, none, none, none, none, none] [] at hM;refine ag hF rfl rfl fun a hF => ns <| st hF (g_fieldAddr ty_fo_33_1 hF rfl) rfl fun a hF => st hF (g_load ty_on_2 hF rfl (hM.row 0 rfl) (algC_n (by omega))) rfl fun a hF => ag hF rfl rfl fun a hF => ns <| stR hF (d_buildC 1 hM hF rfl ty_bs0_81) rfl ?_;rintro _ w' a ⟨b2, rfl, hM, -⟩ hF;refine ag hF rfl rfl fun a hF => nt <| sq <| sr <| ag hF rfl rfl fun a hF => nt <| wp_block ?_;change Mem w _ [some (b1, algC (p : Int) (n : Int) T f), some (b2, #[]), none, none, none, none, none] [] at hM;refine c_loop (fun (kk : Nat) a w' => kk ≤ n ∧ ∃ (D1 : Froz), ∃ (βo : Nat → Nat), (RowsC D1 kk βo (fun _ => rowI n (fun _ => 0)) ∧ (∀ i, i < kk → w.heap.size ≤ βo i)) ∧ ∃ (u4_1 : Value) (e4_1 : Option (Nat × Array Value)), Sl 1 u4_1 e4_1 (kk) (fun i => .slice (some ⟨βo i, 0, none⟩) n n) ∧ Fr 76 a [(1, ptr b1 (0)), (2, .slice none 0 0), (3, .int .i64 (n : Int)), (5, .int .i64 (kk : Int)), (4, u4_1)] ∧ Mem w w' [some (b1, algC (p : Int) (n : Int) T f), e4_1, none, none, none, none, none] D1) (fun kk => n - kk) 0 ?_ ?_
  · refine ⟨by omega, [], (fun _ => 0), ⟨RowsC.none, fun i hi => absurd hi (by omega)⟩, (.slice (some ⟨b2, 0, none⟩) 0 0), (some (b2, #[])), Sl.empty _ _ _, hF.sub _ (by repeat' constructor), ?_⟩
    exact hM
  clear hF hM;rintro gi a w' ⟨hgi, D1, βo, ⟨hC, hbo⟩, u4_1, e4_1, hsl, hF, hM⟩;refine sq <| sr <| mv hF rfl rfl fun a hF => mv hF rfl rfl fun a hF => st hF (g_lss hF rfl rfl) rfl fun a hF => nt <| c_cond hF rfl (fun h3 => ?_) (fun h3 => ?_)
  · refine wp_skip ?_
    refine tN <| sq <| wp_block <| wp_region_lit <| mv hF rfl rfl fun a hF => mv hF rfl rfl fun a hF => stR hF (d_make1 (len := n) 2 hM hF ty_si_83 rfl rfl rfl (by omega) (by decide)) rfl ?_;rintro _ w' a ⟨bm, rfl, hM, -⟩ hF;refine stR hF (d_buildC 3 hM hF (build1 hF rfl) (ty_bsv_81 _ _ _)) rfl ?_;rintro _ w' a ⟨b5, rfl, hM, -⟩ hF;change Mem w w' [some (b1, algC (p : Int) (n : Int) T f), e4_1, some (bm, rowI n (fun _ => 0)), some (b5, #[.slice (some ⟨bm, 0, none⟩) n n]), none, none, none] D1 at hM;refine stR hF (d_append (k := 1) (m := 1) (g := fun _ => .slice (some ⟨bm, 0, none⟩) n n) ty_si_81 rfl (by decide) hM rfl hF rfl rfl hsl (fun i hi => by rw [show i = 0 by omega]; exact (hM.row 3 rfl).cell 0) (fun _ _ => rfl) (by decide) (by unfold maxLen; omega) (by omega)) rfl ?_;rintro u6 w' a ⟨e7, hM, hs8⟩ hF;change Mem w w' [some (b1, algC (p : Int) (n : Int) T f), e7, some (bm, rowI n (fun _ => 0)), some (b5, #[.slice (some ⟨bm, 0, none⟩) n n]), none, none, none] D1 at hM;refine ag hF rfl rfl fun a hF => wpList_nil <| iN <| tN <| wp_region_lit <| mv hF rfl rfl fun a hF => st hF (g_add hF rfl rfl (add_nat (gi) (1) (by omega))) rfl fun a hF => ag hF rfl rfl fun a hF => wpList_nil <| tN ?_;have hgb := hM.ge 2 rfl;have hnb := fun i hi => (hM.froz _ _ (hC.mem i hi)).2 2 bm _ rfl;have hM := hM.freeze 2 rfl;have hC := ((hC.more (D' := (bm, rowI n (fun _ => 0)) :: D1) (fun x hx => List.mem_cons_of_mem _ hx)).snoc (List.mem_cons_self ..) hnb).congr (R' := fun _ => rowI n (fun _ => 0)) (fun i hi => by by_cases e : i = gi <;> simp [upE, e]);have hsl := hs8.snocC;have hbo : ∀ i, i < gi + 1 → w.heap.size ≤ up βo gi bm i := fun i hi => by
      unfold up; split
      · exact hgb
      · exact hbo i (by omega)
    have hM := hM.drop 3;refine ⟨gi + 1, ⟨by omega, ((bm, rowI n (fun _ => 0)) :: D1), (up βo gi bm), ⟨hC, hbo⟩, (u6), (e7), hsl, hF.sub _ (by repeat' constructor), ?_⟩, by omega⟩;exact hM
  obtain rfl : n = gi := by omega
  obtain ⟨bo, co, cso, rfl, rfl, hso⟩ := hsl.pos hn0;refine wp_exit <| tX <| tX <| ib_same <| tN <| sq <| sr <| ag hF rfl rfl fun a hF => nt <| wp_block ?_;change Mem w _ [some (b1, algC (p : Int) (n : Int) T f), some (bo, cso), none, none, none, none, none] D1 at hM;refine c_loop (fun (kk : Nat) a w' => kk ≤ n ∧ ∃ (D2 : Froz), (RowsC D2 n βo (fun i => rowI n (fun c => if c < kk then G i c else 0))) ∧ Fr 76 a [(1, ptr b1 (0)), (2, .slice none 0 0), (3, .int .i64 (n : Int)), (5, .int .i64 (n : Int)), (4, .slice (some ⟨bo, 0, none⟩) n co), (17, .int .i64 (n : Int)), (18, .int .i64 (n : Int)), (19, .bool (decide (((n : Int) : Int) < (n : Int)))), (6, .int .i64 (kk : Int))] ∧ Mem w w' [some (b1, algC (p : Int) (n : Int) T f), some (bo, cso), none, none, none, none, none] D2) (fun kk => n - kk) 0 ?_ ?_
  · refine ⟨by omega, D1, hC.congr (fun i hi => rowI_congr (fun c hc => by rw [if_neg (by omega)])), hF.sub _ (by repeat' constructor), ?_⟩
    exact hM
  clear hF hM;rintro gj a w' ⟨hgj, D2, hC, hF, hM⟩;refine sq <| sr <| mv hF rfl rfl fun a hF => mv hF rfl rfl fun a hF => st hF (g_lss hF rfl rfl) rfl fun a hF => nt <| c_cond hF rfl (fun h9 => ?_) (fun h9 => ?_)
  · refine wp_skip ?_
    refine tN <| sq <| wp_block <| sr <| st hF (g_loadAgg ty_ag_33 hF rfl (hM.row 0 rfl) (by simp only [sz0] <;> omega) (whole cells_size)) rfl fun a hF => stR hF (d_call Tryd.call80 hF (.cons rfl .nil) (l02Table_ok p n T f _ hp hn0 hn hTp hT0 hf)) rfl ?_;rintro u w' a ⟨hx, hr⟩ hF;obtain ⟨Dt, β, κ, C, bt, ct, cst, hR, hst, hinj, hbg, hsep, hM⟩ := hM.addTab 5 hx hr;obtain rfl := hst.val;have hstz : n ≤ cst.size := by have := hst.sz; have := hst.le; omega
    refine ag hF rfl rfl fun a hF => nt <| sq <| sr <| ag hF rfl rfl fun a hF => nt <| wp_block ?_;change Mem w _ [some (b1, algC (p : Int) (n : Int) T f), some (bo, cso), none, none, none, some (bt, cst), none] (Dt ++ D2) at hM;refine c_loop (fun (kk : Nat) a w' => kk ≤ n ∧ ∃ (D3 : Froz), ∃ (β3 : Nat → Nat), ∃ (κ3 : Nat → Nat), ∃ (C3 : Nat → Array Value), ∃ (cs3 : Array Value), (n ≤ cs3.size ∧ (∀ i, i < kk → cs3[0 + i * 1]? = some (.slice (some ⟨β3 i, 0, none⟩) (n + 1) (κ3 i))) ∧ (∀ i, kk ≤ i → i < n → cs3[0 + i * 1]? = some (.slice (some ⟨β i, 0, none⟩) n (κ i))) ∧ RowsD D3 (n + 1) kk β3 κ3 C3 (fun i c => .int .i64 (((colM n (formM p n T f) gj) i c : Nat) : Int)) ∧ (∀ i, kk ≤ i → i < n → (β i, C i) ∈ D3) ∧ (∀ x ∈ D2, x ∈ D3) ∧ (∀ i, i < kk → ∀ j, kk ≤ j → j < n → β3 i ≠ β j)) ∧ Fr 76 a [(1, ptr b1 (0)), (2, .slice none 0 0), (3, .int .i64 (n : Int)), (5, .int .i64 (n : Int)), (4, .slice (some ⟨bo, 0, none⟩) n co), (17, .int .i64 (n : Int)), (18, .int .i64 (n : Int)), (19, .bool (decide (((n : Int) : Int) < (n : Int)))), (6, .int .i64 (gj : Int)), (27, .int .i64 (gj : Int)), (28, .int .i64 (n : Int)), (29, .bool (decide (((gj : Int) : Int) < (n : Int)))), (32, .agg (algC (p : Int) (n : Int) T f)), (33, .slice (some ⟨bt, 0, none⟩) n ct), (7, .slice (some ⟨bt, 0, none⟩) n ct), (8, .int .i64 (kk : Int))] ∧ Mem w w' [some (b1, algC (p : Int) (n : Int) T f), some (bo, cso), none, none, none, some (bt, cs3), none] D3) (fun kk => n - kk) 0 ?_ ?_
    · refine ⟨by omega, (Dt ++ D2), (fun _ => 0), (fun _ => 0), (fun _ => #[]), cst, ⟨hstz, fun i hi => absurd hi (by omega), fun i _ hi => hst.get1 i hi, RowsD.none, fun i _ hi => List.mem_append_left _ (hR.mem i hi), fun x hx => List.mem_append_right _ hx, fun i hi => absurd hi (by omega)⟩, hF.sub _ (by repeat' constructor), ?_⟩
      exact hM
    clear hF hM;rintro gk a w' ⟨hgk, D3, β3, κ3, C3, cs3, ⟨hsz3, hgo1, hgo2, hR3, hold, hsub, hsep3⟩, hF, hM⟩;refine sq <| sr <| mv hF rfl rfl fun a hF => mv hF rfl rfl fun a hF => st hF (g_lss hF rfl rfl) rfl fun a hF => nt <| c_cond hF rfl (fun h10 => ?_) (fun h10 => ?_)
    · refine wp_skip ?_
      refine tN <| sq <| wp_block <| sr <| ag hF rfl rfl fun a hF => nt <| sq <| sr <| mv hF rfl rfl fun a hF => mv hF rfl rfl fun a hF => st hF (g_eql hF rfl rfl) rfl fun a hF => nt <| c_cond hF rfl (fun h11 => ?_) (fun h11 => ?_)
      · refine wp_region_lit ?_
        refine ag hF rfl rfl fun a hF => wpList_nil <| tN ?_;have hmg := hold gk (Nat.le_refl _) (by omega);have hM := hM.thaw 6 hmg (hbg gk (by omega));change Mem w _ [some (b1, algC (p : Int) (n : Int) T f), some (bo, cso), none, none, none, some (bt, cs3), some (β gk, C gk)] (offD D3 (β gk)) at hM;refine wp_region_lit <| mv hF rfl rfl fun a hF => mv hF rfl rfl fun a hF => mv hF rfl rfl fun a hF => mv hF rfl rfl fun a hF => st hF (g_indexSl (i := gk) ty_sl_81 hF rfl rfl rfl (by omega)) rfl fun a hF => st hF (g_load ty_on_83 hF rfl (hM.row 5 rfl) (hgo2 (gk) (by omega) (by omega))) rfl fun a hF => mv hF rfl rfl fun a hF => stR hF (d_buildC 4 hM hF (build1 hF rfl) (ty_bs1_83 _)) rfl ?_;rintro _ w' a ⟨b12, rfl, hM, -⟩ hF;change Mem w w' [some (b1, algC (p : Int) (n : Int) T f), some (bo, cso), none, none, some (b12, #[.int .i64 (1)]), some (bt, cs3), some (β gk, C gk)] (offD D3 (β gk)) at hM;refine stR hF (d_append (k := 6) (N := n) (m := 1) (f := (fun c => .int .i64 (((formM p n T f) (gk) c : Nat) : Int))) (g := fun _ => .int .i64 (1)) ty_si_83 rfl (by decide) hM rfl hF rfl rfl (.inr ⟨_, _, _, hR.sl (gk) (by omega)⟩) (fun i hi => by rw [show i = 0 by omega]; exact (hM.row 4 rfl).cell 0) (fun _ _ => rfl) (by decide) (by unfold maxLen; omega) (by omega)) rfl ?_;rintro u w' a ⟨ea, hM, hsa⟩ hF;obtain ⟨bR, capR, csR, rfl, rfl, hsR⟩ := hsa.pos (by omega);change Mem w w' [some (b1, algC (p : Int) (n : Int) T f), some (bo, cso), none, none, some (b12, #[.int .i64 (1)]), some (bt, cs3), some (bR, csR)] (offD D3 (β gk)) at hM;refine st hF (g_indexSl (i := gk) ty_sl_81 hF rfl rfl rfl (by omega)) rfl fun a hF => stN hF (d_store 5 hM rfl ty_on_83 hF rfl rfl rfl (by first | omega | (simp only [sz0] <;> omega) | (simp only [Array.size_setIfInBounds]; omega) | simp)) ?_;intro _ w' a hM hF;change Mem w w' [some (b1, algC (p : Int) (n : Int) T f), some (bo, cso), none, none, some (b12, #[.int .i64 (1)]), some (bt, (cs3).setIfInBounds (0 + (gk) * 1) (.slice (some ⟨bR, 0, none⟩) (n + 1) (capR))), some (bR, csR)] (offD D3 (β gk)) at hM;refine wpList_nil <| iN <| tN <| wp_region_lit <| mv hF rfl rfl fun a hF => st hF (g_add hF rfl rfl (add_nat (gk) (1) (by omega))) rfl fun a hF => ag hF rfl rfl fun a hF => wpList_nil <| tN ?_;have hnR : ∀ x ∈ offD D3 (β gk), bR ≠ x.1 := fun x hx => (hM.froz x.1 x.2 hx).2 6 bR _ rfl;have hM := hM.freeze 6 rfl;have hsR := hsR.congr (g := fun c => .int .i64 (((colM n (formM p n T f) gj) gk c : Nat) : Int)) (fun c hc => by
          unfold colM
          by_cases e : c < n
          · rw [if_pos (by omega), if_pos e]
          · rw [if_neg (by omega), if_neg e]; first | rw [if_pos (by omega)]; rfl | rw [if_neg (by omega)]; rfl)
        have hR3 : RowsD ((bR, csR) :: offD D3 (β gk)) (n + 1) gk β3 κ3 C3 (fun i c => .int .i64 (((colM n (formM p n T f) gj) i c : Nat) : Int)) := ⟨fun i hi => List.mem_cons_of_mem _ (mem_offD.2 ⟨hR3.mem i hi, hsep3 i hi gk (Nat.le_refl _) (by omega)⟩), hR3.sl⟩;have hR3 := (hR3.snoc (List.mem_cons_self ..) hsR).congr (g := fun i c => .int .i64 (((colM n (formM p n T f) gj) i c : Nat) : Int)) (fun i hi c hc => by
          by_cases e : i = gk
          · rw [e]; simp only [up_eq]
          · simp only [up_ne e])
        have hgo1 : ∀ i, i < gk + 1 → ((cs3).setIfInBounds (0 + (gk) * 1) (.slice (some ⟨bR, 0, none⟩) (n + 1) (capR)))[0 + i * 1]? = some (.slice (some ⟨up β3 gk bR i, 0, none⟩) (n + 1) (up κ3 gk capR i)) := fun i hi => by
          by_cases e : i = gk
          · rw [e, up_eq, up_eq, Array.getElem?_setIfInBounds_self_of_lt (by omega)]
          · rw [up_ne e, up_ne e, Array.getElem?_setIfInBounds_ne (by omega)]; exact hgo1 i (by omega)
        have hgo2 : ∀ i, gk + 1 ≤ i → i < n → ((cs3).setIfInBounds (0 + (gk) * 1) (.slice (some ⟨bR, 0, none⟩) (n + 1) (capR)))[0 + i * 1]? = some (.slice (some ⟨β i, 0, none⟩) n (κ i)) := fun i h1 h2 => by rw [Array.getElem?_setIfInBounds_ne (by omega)]; exact hgo2 i (by omega) h2
        have hold2 : ∀ i, gk + 1 ≤ i → i < n → (β i, C i) ∈ offD D3 (β gk) := fun i h1 h2 => mem_offD.2 ⟨hold i (by omega) h2, fun e => by have := hinj i gk h2 (by omega) e; omega⟩;have hsep3 : ∀ i, i < gk + 1 → ∀ j, gk + 1 ≤ j → j < n → up β3 gk bR i ≠ β j := fun i hi j h1 h2 => by
          unfold up; split
          · exact hnR _ (hold2 j h1 h2)
          · exact hsep3 i (by omega) j (by omega) h2
        have hsub : ∀ x ∈ D2, x ∈ (bR, csR) :: offD D3 (β gk) := fun x hx => List.mem_cons_of_mem _ (mem_offD.2 ⟨hsub x hx, hsep gk (by omega) x hx⟩);have hM := hM.drop 4;refine ⟨gk + 1, ⟨by omega, ((bR, csR) :: offD D3 (β gk)), (up β3 gk bR), (up κ3 gk capR), (up C3 gk csR), ((cs3).setIfInBounds (0 + (gk) * 1) (.slice (some ⟨bR, 0, none⟩) (n + 1) (capR))), ⟨by rw [Array.size_setIfInBounds]; exact hsz3, hgo1, hgo2, hR3, fun i h1 h2 => List.mem_cons_of_mem _ (hold2 i h1 h2), hsub, hsep3⟩, hF.sub _ (by repeat' constructor), ?_⟩, by omega⟩;exact hM
      refine wp_skip <| tN ?_;have hmg := hold gk (Nat.le_refl _) (by omega);have hM := hM.thaw 6 hmg (hbg gk (by omega));change Mem w _ [some (b1, algC (p : Int) (n : Int) T f), some (bo, cso), none, none, none, some (bt, cs3), some (β gk, C gk)] (offD D3 (β gk)) at hM;refine wp_region_lit <| mv hF rfl rfl fun a hF => mv hF rfl rfl fun a hF => mv hF rfl rfl fun a hF => mv hF rfl rfl fun a hF => st hF (g_indexSl (i := gk) ty_sl_81 hF rfl rfl rfl (by omega)) rfl fun a hF => st hF (g_load ty_on_83 hF rfl (hM.row 5 rfl) (hgo2 (gk) (by omega) (by omega))) rfl fun a hF => mv hF rfl rfl fun a hF => stR hF (d_buildC 4 hM hF (build1 hF rfl) (ty_bs1_83 _)) rfl ?_;rintro _ w' a ⟨b13, rfl, hM, -⟩ hF;change Mem w w' [some (b1, algC (p : Int) (n : Int) T f), some (bo, cso), none, none, some (b13, #[.int .i64 (0)]), some (bt, cs3), some (β gk, C gk)] (offD D3 (β gk)) at hM;refine stR hF (d_append (k := 6) (N := n) (m := 1) (f := (fun c => .int .i64 (((formM p n T f) (gk) c : Nat) : Int))) (g := fun _ => .int .i64 (0)) ty_si_83 rfl (by decide) hM rfl hF rfl rfl (.inr ⟨_, _, _, hR.sl (gk) (by omega)⟩) (fun i hi => by rw [show i = 0 by omega]; exact (hM.row 4 rfl).cell 0) (fun _ _ => rfl) (by decide) (by unfold maxLen; omega) (by omega)) rfl ?_;rintro u w' a ⟨ea, hM, hsa⟩ hF;obtain ⟨bR, capR, csR, rfl, rfl, hsR⟩ := hsa.pos (by omega);change Mem w w' [some (b1, algC (p : Int) (n : Int) T f), some (bo, cso), none, none, some (b13, #[.int .i64 (0)]), some (bt, cs3), some (bR, csR)] (offD D3 (β gk)) at hM;refine st hF (g_indexSl (i := gk) ty_sl_81 hF rfl rfl rfl (by omega)) rfl fun a hF => stN hF (d_store 5 hM rfl ty_on_83 hF rfl rfl rfl (by first | omega | (simp only [sz0] <;> omega) | (simp only [Array.size_setIfInBounds]; omega) | simp)) ?_;intro _ w' a hM hF;change Mem w w' [some (b1, algC (p : Int) (n : Int) T f), some (bo, cso), none, none, some (b13, #[.int .i64 (0)]), some (bt, (cs3).setIfInBounds (0 + (gk) * 1) (.slice (some ⟨bR, 0, none⟩) (n + 1) (capR))), some (bR, csR)] (offD D3 (β gk)) at hM;refine wpList_nil <| iN <| tN <| wp_region_lit <| mv hF rfl rfl fun a hF => st hF (g_add hF rfl rfl (add_nat (gk) (1) (by omega))) rfl fun a hF => ag hF rfl rfl fun a hF => wpList_nil <| tN ?_;have hnR : ∀ x ∈ offD D3 (β gk), bR ≠ x.1 := fun x hx => (hM.froz x.1 x.2 hx).2 6 bR _ rfl;have hM := hM.freeze 6 rfl;have hsR := hsR.congr (g := fun c => .int .i64 (((colM n (formM p n T f) gj) gk c : Nat) : Int)) (fun c hc => by
        unfold colM
        by_cases e : c < n
        · rw [if_pos (by omega), if_pos e]
        · rw [if_neg (by omega), if_neg e]; first | rw [if_pos (by omega)]; rfl | rw [if_neg (by omega)]; rfl)
      have hR3 : RowsD ((bR, csR) :: offD D3 (β gk)) (n + 1) gk β3 κ3 C3 (fun i c => .int .i64 (((colM n (formM p n T f) gj) i c : Nat) : Int)) := ⟨fun i hi => List.mem_cons_of_mem _ (mem_offD.2 ⟨hR3.mem i hi, hsep3 i hi gk (Nat.le_refl _) (by omega)⟩), hR3.sl⟩;have hR3 := (hR3.snoc (List.mem_cons_self ..) hsR).congr (g := fun i c => .int .i64 (((colM n (formM p n T f) gj) i c : Nat) : Int)) (fun i hi c hc => by
        by_cases e : i = gk
        · rw [e]; simp only [up_eq]
        · simp only [up_ne e])
      have hgo1 : ∀ i, i < gk + 1 → ((cs3).setIfInBounds (0 + (gk) * 1) (.slice (some ⟨bR, 0, none⟩) (n + 1) (capR)))[0 + i * 1]? = some (.slice (some ⟨up β3 gk bR i, 0, none⟩) (n + 1) (up κ3 gk capR i)) := fun i hi => by
        by_cases e : i = gk
        · rw [e, up_eq, up_eq, Array.getElem?_setIfInBounds_self_of_lt (by omega)]
        · rw [up_ne e, up_ne e, Array.getElem?_setIfInBounds_ne (by omega)]; exact hgo1 i (by omega)
      have hgo2 : ∀ i, gk + 1 ≤ i → i < n → ((cs3).setIfInBounds (0 + (gk) * 1) (.slice (some ⟨bR, 0, none⟩) (n + 1) (capR)))[0 + i * 1]? = some (.slice (some ⟨β i, 0, none⟩) n (κ i)) := fun i h1 h2 => by rw [Array.getElem?_setIfInBounds_ne (by omega)]; exact hgo2 i (by omega) h2
      have hold2 : ∀ i, gk + 1 ≤ i → i < n → (β i, C i) ∈ offD D3 (β gk) := fun i h1 h2 => mem_offD.2 ⟨hold i (by omega) h2, fun e => by have := hinj i gk h2 (by omega) e; omega⟩;have hsep3 : ∀ i, i < gk + 1 → ∀ j, gk + 1 ≤ j → j < n → up β3 gk bR i ≠ β j := fun i hi j h1 h2 => by
        unfold up; split
        · exact hnR _ (hold2 j h1 h2)
        · exact hsep3 i (by omega) j (by omega) h2
      have hsub : ∀ x ∈ D2, x ∈ (bR, csR) :: offD D3 (β gk) := fun x hx => List.mem_cons_of_mem _ (mem_offD.2 ⟨hsub x hx, hsep gk (by omega) x hx⟩);have hM := hM.drop 4;refine ⟨gk + 1, ⟨by omega, ((bR, csR) :: offD D3 (β gk)), (up β3 gk bR), (up κ3 gk capR), (up C3 gk csR), ((cs3).setIfInBounds (0 + (gk) * 1) (.slice (some ⟨bR, 0, none⟩) (n + 1) (capR))), ⟨by rw [Array.size_setIfInBounds]; exact hsz3, hgo1, hgo2, hR3, fun i h1 h2 => List.mem_cons_of_mem _ (hold2 i h1 h2), hsub, hsep3⟩, hF.sub _ (by repeat' constructor), ?_⟩, by omega⟩;exact hM
    obtain rfl : n = gk := by omega
    refine wp_exit <| tX <| tX <| ib_same <| tN <| sr <| st hF (g_fieldAddr ty_fo_33_0 hF rfl) rfl fun a hF => st hF (g_load ty_on_2 hF rfl (hM.row 0 rfl) (algC_p (by omega))) rfl fun a hF => mv hF rfl rfl fun a hF => ?_;have hM := hM.freeze 5 rfl;change Mem w _ [some (b1, algC (p : Int) (n : Int) T f), some (bo, cso), none, none, none, none, none] ((bt, cs3) :: D3) at hM;refine stR hF (d_call Tryd.call86 hF (.cons rfl (.cons rfl .nil)) (l01Solve_ok p n n bt ct cs3 ((bt, cs3) :: D3) β3 κ3 C3 (colM n (formM p n T f) gj) _ hp hn0 (by omega) hn0 (by omega) (fun i c => by have := formM_lt (p := p) (n := n) (T := T) (f := f) (by omega) i c; unfold colM; split; exact this; split <;> omega) (fun _ _ hm => hM.fzm hm) (List.mem_cons_self ..) hgo1 (hR3.more (fun x hx => List.mem_cons_of_mem _ hx)))) rfl ?_;rintro res w' a ⟨hx, kE, E, ld, hE, hKer, hE1, hres⟩ hF;obtain ⟨hfull, hcol⟩ := solve_cop hp2 hn (show gj < n by omega) (fun i c h => formM_out h) hfr hG hE hKer;obtain ⟨_, _, ul, rfl, hown⟩ := hres.resolve_right (fun h => h.1 hfull);obtain ⟨bl, capl, csl, hsl, hgel, hbl⟩ := hown;obtain rfl := hsl.val;have hsl := hsl.congr (g := fun i => .int .i64 (G i gj : Int)) (fun i hi => by rw [hcol i (by omega)]);have hnl : ∀ i, i < n → bl ≠ βo i := fun i hi e => by have := (hM.froz _ _ (List.mem_cons_of_mem _ (hsub _ (hC.mem i hi)))).1.lt; omega
    have hM2 := hM.sub D2 (fun x hx => List.mem_cons_of_mem _ (hsub x hx));have hM := hM2.addD1 (hM2.ext hx) hgel hbl;refine mv hF rfl rfl fun a hF => st hF (g_extract hF rfl rfl) rfl fun a hF => st hF (g_extract hF rfl rfl) rfl fun a hF => ag hF rfl rfl fun a hF => ag hF rfl rfl fun a hF => ns <| ag hF rfl rfl fun a hF => nt <| wp_block ?_;change Mem w _ [some (b1, algC (p : Int) (n : Int) T f), some (bo, cso), none, none, none, none, none] ((bl, csl) :: D2) at hM;refine c_loop (fun (kk : Nat) a w' => kk ≤ n ∧ ∃ (D4 : Froz), (RowsC D4 n βo (fun i => rowI n (fun c => if c < gj ∨ (c = gj ∧ i < kk) then G i c else 0)) ∧ (bl, csl) ∈ D4) ∧ Fr 76 a [(56, .tuple #[.slice (some ⟨bl, 0, none⟩) n capl, .bool (true)]), (1, ptr b1 (0)), (2, .slice none 0 0), (3, .int .i64 (n : Int)), (5, .int .i64 (n : Int)), (4, .slice (some ⟨bo, 0, none⟩) n co), (17, .int .i64 (n : Int)), (18, .int .i64 (n : Int)), (19, .bool (decide (((n : Int) : Int) < (n : Int)))), (6, .int .i64 (gj : Int)), (27, .int .i64 (gj : Int)), (28, .int .i64 (n : Int)), (29, .bool (decide (((gj : Int) : Int) < (n : Int)))), (32, .agg (algC (p : Int) (n : Int) T f)), (33, .slice (some ⟨bt, 0, none⟩) n ct), (7, .slice (some ⟨bt, 0, none⟩) n ct), (8, .int .i64 (n : Int)), (34, .int .i64 (n : Int)), (35, .int .i64 (n : Int)), (36, .bool (decide (((n : Int) : Int) < (n : Int)))), (53, ptr b1 (0 + 0)), (54, .int .i64 (p : Int)), (55, .slice (some ⟨bt, 0, none⟩) n ct), (52, .tuple #[.slice (some ⟨bl, 0, none⟩) n capl, .bool (true)]), (57, .slice (some ⟨bl, 0, none⟩) n capl), (58, .bool (true)), (10, .slice (some ⟨bl, 0, none⟩) n capl), (12, .int .i64 (kk : Int))] ∧ Mem w w' [some (b1, algC (p : Int) (n : Int) T f), some (bo, cso), none, none, none, none, none] D4) (fun kk => n - kk) 0 ?_ ?_
    · refine ⟨by omega, ((bl, csl) :: D2), ⟨(hC.more (fun x hx => List.mem_cons_of_mem _ hx)).congr (fun i hi => rowI_congr (fun c hc => by
              by_cases e1 : c < gj
              · rw [if_pos e1, if_pos (.inl e1)]
              · rw [if_neg e1, if_neg (by omega)])), List.mem_cons_self ..⟩, hF.sub _ (by repeat' constructor), ?_⟩
      exact hM
    clear hF hM;rintro gi a w' ⟨hgi, D4, ⟨hC4, hlm⟩, hF, hM⟩;refine sq <| sr <| mv hF rfl rfl fun a hF => mv hF rfl rfl fun a hF => st hF (g_lss hF rfl rfl) rfl fun a hF => nt <| c_cond hF rfl (fun h14 => ?_) (fun h14 => ?_)
    · refine wp_skip ?_
      refine tN <| sq <| wp_block <| sr <| mv hF rfl rfl fun a hF => mv hF rfl rfl fun a hF => st hF (g_indexSl (i := gi) ty_sl_81 hF rfl rfl rfl (by omega)) rfl fun a hF => st hF (g_load ty_on_83 hF rfl (hM.row 1 rfl) (hso.get1 (gi) (by omega))) rfl fun a hF => ag hF rfl rfl fun a hF => nt <| wp_region_lit <| mv hF rfl rfl fun a hF => mv hF rfl rfl fun a hF => mv hF rfl rfl fun a hF => mv hF rfl rfl fun a hF => st hF (g_indexSl (i := gi) ty_sl_83 hF rfl rfl rfl (by omega)) rfl fun a hF => st hF (g_load ty_on_2 hF rfl (hM.fzm hlm) (hsl.get1 (gi) (by omega))) rfl fun a hF => st hF (g_indexSl (i := gj) ty_sl_83 hF rfl rfl rfl (by omega)) rfl fun a hF => stN hF (d_storeD hM (hC4.mem gi (by omega)) (.inl (hbo gi (by omega))) ty_on_2 hF rfl rfl rfl (by show _ < (rowI n _).size; unfold rowI; rw [fnC_size]; omega)) ?_;intro _ w' a hM hF;change Mem w w' [some (b1, algC (p : Int) (n : Int) T f), some (bo, cso), none, none, none, none, none] (updD D4 (βo gi) ((rowI n (fun c => if c < gj ∨ (c = gj ∧ gi < gi) then G gi c else 0)).setIfInBounds (0 + (gj) * 1) (.int .i64 ((G (gi) gj : Int))))) at hM;refine wpList_nil <| iN <| tN <| wp_region_lit <| mv hF rfl rfl fun a hF => st hF (g_add hF rfl rfl (add_nat (gi) (1) (by omega))) rfl fun a hF => ag hF rfl rfl fun a hF => wpList_nil <| tN ?_;refine ⟨gi + 1, ⟨by omega, (updD D4 (βo gi) ((rowI n (fun c => if c < gj ∨ (c = gj ∧ gi < gi) then G gi c else 0)).setIfInBounds (0 + (gj) * 1) (.int .i64 ((G (gi) gj : Int))))), ⟨(hC4.setRow (i := gi) (by omega) _).congr (fun i hi => by
        unfold upE
        by_cases e : i = gi
        · rw [if_pos e, e]; exact rowI_set (i := gj) (by omega) (by omega) (fun c hc => by
            by_cases e1 : c = gj
            · rw [if_pos (by omega), if_pos e1, e1]
            · rw [if_neg e1]; by_cases e2 : c < gj
              · rw [if_pos (by omega), if_pos (by omega)]
              · rw [if_neg (by omega), if_neg (by omega)])
        · rw [if_neg e]; exact rowI_congr (fun c hc => by
            by_cases e1 : c < gj ∨ (c = gj ∧ i < gi)
            · rw [if_pos e1, if_pos (by omega)]
            · rw [if_neg e1, if_neg (by omega)])), mem_updD.2 (.inr ⟨hnl gi (by omega), hlm⟩)⟩, hF.sub _ (by repeat' constructor), ?_⟩, by omega⟩
      exact hM
    obtain rfl : n = gi := by omega
    refine wp_exit <| tX <| tX <| ib_same <| iN <| tN <| wp_region_lit <| mv hF rfl rfl fun a hF => st hF (g_add hF rfl rfl (add_nat (gj) (1) (by omega))) rfl fun a hF => ag hF rfl rfl fun a hF => wpList_nil <| tN ?_;refine ⟨gj + 1, ⟨by omega, D4, hC4.congr (fun i hi => rowI_congr (fun c hc => by
           by_cases e1 : c < gj + 1
           · rw [if_pos e1, if_pos (by omega)]
           · rw [if_neg e1, if_neg (by omega)])), hF.sub _ (by repeat' constructor), ?_⟩, by omega⟩
    exact hM
  obtain rfl : n = gj := by omega
  refine wp_exit <| tX <| tX <| ib_same <| tN <| sr <| mv hF rfl rfl fun a hF => ag hF rfl rfl fun a hF => nt <| wp_ret <| fin1 rfl hF.defers (res_tmp hF rfl) ⟨_, rfl, hM.below, ?_⟩;have hC := hC.congr (R' := fun i => rowI n (G i)) (fun i hi => rowI_congr (fun c hc => if_pos hc));exact TabOut.of (q := 1) hM (hC.rowsD (by omega)) rfl hso hbo hC.inj
end Go.Proofs.YtjfmachfdpmdcaaDoor

namespace Go.Proofs.YtjfmachfdpmdcaaDoor
open Go Go.RowKit Go.Sw Go.Ech
open Classical

end Go.Proofs.YtjfmachfdpmdcaaDoor

namespace Go.Proofs.YtjfmachfdpmdcaaDoor
open Go Go.RowKit Go.Sw Go.Ech
open Classical

end Go.Proofs.YtjfmachfdpmdcaaDoor

namespace Go.Proofs.YtjfmachfdpmdcaaDoor
open Go Go.RowKit Go.Sw Go.Ech
open Classical









end Go.Proofs.YtjfmachfdpmdcaaDoor

namespace Go.Proofs.YtjfmachfdpmdcaaDoor
open Go Go.RowKit Go.Sw Go.Ech
open Classical
def bL (p n : Nat) (T : Nat → Nat → Nat → Nat) (v uu : Nat → Nat) (k j : Nat) : Nat := if j < n then timesS p n T v (fun y => if y = j then 1 else 0) k else uu k
end Go.Proofs.YtjfmachfdpmdcaaDoor

namespace Go.Proofs.YtjfmachfdpmdcaaDoor
open Go Go.RowKit Go.Sw Go.Ech
open Classical

end Go.Proofs.YtjfmachfdpmdcaaDoor

namespace Go.Proofs.YtjfmachfdpmdcaaDoor
open Go Go.RowKit Go.Sw Go.Ech
open Classical

end Go.Proofs.YtjfmachfdpmdcaaDoor

namespace Go.Proofs.YtjfmachfdpmdcaaDoor
open Go Go.RowKit Go.Sw Go.Ech
open Classical
theorem frobeniusFault_0A (p n : Int) (T : Nat → Nat → Nat → Nat) (f : Nat → Nat) (w : World) (hT : ∀ i j k, T i j k ≤ 255) (hf : ∀ i, f i ≤ 255) (hc : ¬ CodeP p n T f 0 (vAtL [])) :
    CallsR Tryd.prog 107 #[.agg (algC p n T f), .slice none 0 0] w (fun res _ => res = .int .i64 1) := by
  refine calls_fr [.agg (algC p n T f), .slice none 0 0] Tryd.func107 rfl Tryd.ntmps107 rfl fun a hF => ?_;have hM : Mem w w [none] [] := MemX.start w 1;change Fr 12 a [(0, .agg (algC p n T f)), (1, .slice none 0 0)] at hF;refine sr <| stR hF (d_box 0 hM hF rfl) rfl ?_;rintro _ w' a ⟨b1, rfl, hM, -⟩ hF;change Mem w w' [some (b1, algC p n T f)] [] at hM;refine ag hF rfl rfl fun a hF => nt <| sq <| sr <| st hF (g_loadAgg ty_ag_33 hF rfl (hM.row 0 rfl) (by simp only [sz0] <;> omega) (whole cells_size)) rfl fun a hF => mv hF rfl rfl fun a hF => stR hF (d_call Tryd.call84 hF (.cons rfl (.cons rfl .nil)) ((CallsR.val (areVectors_0 p n T f (vAtL []) _ (fun _ _ _ => hT _ _ _) (fun _ => hf _)) (congrArg Value.bool (decide_eq_false hc))))) rfl ?_;rintro _ w' a ⟨hx, rfl⟩ hF;have hM := hM.ext hx;refine st hF (g_not (b := false) hF rfl) rfl fun a hF => nt <| c_T hF rfl <| sr <| ag hF rfl rfl fun a hF => nt <| wp_ret <| tR <| fin1 rfl hF.defers (res_tmp hF rfl) ⟨_, rfl, hM.below, ?_⟩
  show _ = _
  rfl
theorem frobeniusFault_0F (p n : Nat) (T : Nat → Nat → Nat → Nat) (f : Nat → Nat) (w : World) (hp : primeN p) (hn0 : 0 < n) (hn : n ≤ 6) (hTp : ∀ i j k, T i j k < p) (hf : ∀ i, f i ≤ 255) (hfr : ¬ FrobN p n T f) (hc : CodeP (p : Int) (n : Int) T f 0 (vAtL [])) :
    CallsR Tryd.prog 107 #[.agg (algC (p : Int) (n : Int) T f), .slice none 0 0] w (fun res _ => res = .int .i64 5) := by
  refine calls_fr [.agg (algC (p : Int) (n : Int) T f), .slice none 0 0] Tryd.func107 rfl Tryd.ntmps107 rfl fun a hF => ?_;have hM : Mem w w [none] [] := MemX.start w 1;change Fr 12 a [(0, .agg (algC (p : Int) (n : Int) T f)), (1, .slice none 0 0)] at hF;have hp2 := hp.two;have hp13 := hp.le;have hT : ∀ i j k, T i j k ≤ 255 := fun i j k => by have := hTp i j k; omega
  refine sr <| stR hF (d_box 0 hM hF rfl) rfl ?_;rintro _ w' a ⟨b1, rfl, hM, -⟩ hF;change Mem w w' [some (b1, algC (p : Int) (n : Int) T f)] [] at hM;refine ag hF rfl rfl fun a hF => nt <| sq <| sr <| st hF (g_loadAgg ty_ag_33 hF rfl (hM.row 0 rfl) (by simp only [sz0] <;> omega) (whole cells_size)) rfl fun a hF => mv hF rfl rfl fun a hF => stR hF (d_call Tryd.call84 hF (.cons rfl (.cons rfl .nil)) ((CallsR.val (areVectors_0 (p : Int) (n : Int) T f (vAtL []) _ (fun _ _ _ => hT _ _ _) (fun _ => hf _)) (congrArg Value.bool (decide_eq_true hc))))) rfl ?_;rintro _ w' a ⟨hx, rfl⟩ hF;have hM := hM.ext hx;refine st hF (g_not (b := true) hF rfl) rfl fun a hF => nt <| c_Fl hF rfl <| wp_skip <| tN <| sq <| sr <| st hF (g_loadAgg ty_ag_33 hF rfl (hM.row 0 rfl) (by simp only [sz0] <;> omega) (whole cells_size)) rfl fun a hF => stR hF (d_call Tryd.call115 hF (.cons rfl .nil) ((CallsR.val (hasFullForm_ok p n T f _ hp hn0 hn (fun _ _ _ => hT _ _ _) (fun _ => hf _)) (congrArg Value.bool (decide_eq_false hfr))))) rfl ?_;rintro _ w' a ⟨hx, rfl⟩ hF;have hM := hM.ext hx;refine st hF (g_not (b := false) hF rfl) rfl fun a hF => nt <| c_T hF rfl <| sr <| ag hF rfl rfl fun a hF => nt <| wp_ret <| tR <| fin1 rfl hF.defers (res_tmp hF rfl) ⟨_, rfl, hM.below, ?_⟩
  show _ = _
  rfl
theorem frobeniusFault_0Y (p n : Nat) (T : Nat → Nat → Nat → Nat) (f : Nat → Nat) (w : World) (hp : primeN p) (hn0 : 0 < n) (hn : n ≤ 6) (hTp : ∀ i j k, T i j k < p) (hf : ∀ i, f i ≤ 255) (hfr : FrobN p n T f) (hc : CodeP (p : Int) (n : Int) T f 0 (vAtL [])) :
    CallsR Tryd.prog 107 #[.agg (algC (p : Int) (n : Int) T f), .slice none 0 0] w (fun res _ => res = .int .i64 0) := by
  refine calls_fr [.agg (algC (p : Int) (n : Int) T f), .slice none 0 0] Tryd.func107 rfl Tryd.ntmps107 rfl fun a hF => ?_;have hM : Mem w w [none] [] := MemX.start w 1;change Fr 12 a [(0, .agg (algC (p : Int) (n : Int) T f)), (1, .slice none 0 0)] at hF;have hp2 := hp.two;have hp13 := hp.le;have hT : ∀ i j k, T i j k ≤ 255 := fun i j k => by have := hTp i j k; omega
  refine sr <| stR hF (d_box 0 hM hF rfl) rfl ?_;rintro _ w' a ⟨b1, rfl, hM, -⟩ hF;change Mem w w' [some (b1, algC (p : Int) (n : Int) T f)] [] at hM;refine ag hF rfl rfl fun a hF => nt <| sq <| sr <| st hF (g_loadAgg ty_ag_33 hF rfl (hM.row 0 rfl) (by simp only [sz0] <;> omega) (whole cells_size)) rfl fun a hF => mv hF rfl rfl fun a hF => stR hF (d_call Tryd.call84 hF (.cons rfl (.cons rfl .nil)) ((CallsR.val (areVectors_0 (p : Int) (n : Int) T f (vAtL []) _ (fun _ _ _ => hT _ _ _) (fun _ => hf _)) (congrArg Value.bool (decide_eq_true hc))))) rfl ?_;rintro _ w' a ⟨hx, rfl⟩ hF;have hM := hM.ext hx;refine st hF (g_not (b := true) hF rfl) rfl fun a hF => nt <| c_Fl hF rfl <| wp_skip <| tN <| sq <| sr <| st hF (g_loadAgg ty_ag_33 hF rfl (hM.row 0 rfl) (by simp only [sz0] <;> omega) (whole cells_size)) rfl fun a hF => stR hF (d_call Tryd.call115 hF (.cons rfl .nil) ((CallsR.val (hasFullForm_ok p n T f _ hp hn0 hn (fun _ _ _ => hT _ _ _) (fun _ => hf _)) (congrArg Value.bool (decide_eq_true hfr))))) rfl ?_;rintro _ w' a ⟨hx, rfl⟩ hF;have hM := hM.ext hx;refine st hF (g_not (b := true) hF rfl) rfl fun a hF => nt <| c_Fl hF rfl <| wp_skip <| tN <| sr <| ag hF rfl rfl fun a hF => nt <| wp_ret <| fin1 rfl hF.defers (res_tmp hF rfl) ⟨_, rfl, hM.below, ?_⟩
  show _ = _
  rfl
end Go.Proofs.YtjfmachfdpmdcaaDoor
