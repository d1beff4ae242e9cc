/- What functions of the program return, as walks over their operations; no statement of the seat is proved here. -/
import Derived.Test.YtficgmohfabplaaP1
import Derived.Test.YtficgmohfabplaaSw32
import Derived.Test.YtficgmohfabplaaK17
import Derived.Test.YtficgmohfabplaaSw32
set_option linter.unusedVariables false
set_option linter.unusedSimpArgs false
namespace Go.Proofs.Ytficgmohfabplaa
open Go Go.RowKit Go.Sw Go.Ech
open Classical
theorem ty_sz_5 : sizeP Try.prog 5 = some 1 := by kernel_rfl
theorem ty_si_84 : slI Try.prog 84 = some (5, some (.int .u8 (0)), 1, 1) := by kernel_rfl
theorem ty_si_46 : slI Try.prog 46 = some (27, some (.agg (fnC 6 (fun _ => .int .u8 (0)))), 6, 6) := by kernel_rfl
theorem formM_out {p n : Nat} {T : Nat → Nat → Nat → Nat} {f : Nat → Nat} {i c : Nat} (h : n ≤ c) : formM p n T f i c = 0 := by
  unfold formM; rw [if_neg (by omega)]

theorem copairing_ok (p n : Nat) (T : Nat → Nat → Nat → Nat) (f : Nat → Nat) (G : Nat → Nat → Nat) (w : World) (hp : primeN p) (hn0 : 0 < n) (hn : n ≤ 6) (hT : ∀ i j k, T i j k ≤ 255) (hf : ∀ i, f i ≤ 255) (hfr : FrobN p n T f) (hG : IsCop p n (formM p n T f) G) :
    CallsR Try.prog 62 #[.agg (algC (p : Int) (n : Int) T f)] w (fun u w' => OwnSl 6 w n (fun c => .int .u8 ((G (c / 6) (c % 6) : Nat) : Int)) u w') := by
  refine calls_fr [.agg (algC (p : Int) (n : Int) T f)] Try.func62 rfl Try.ntmps62 rfl fun a hF => ?_
  have hM : Mem w w [none, none, none, none, none, none] [] := MemX.start w 6
  change Fr 46 a [(0, .agg (algC (p : Int) (n : Int) T f))] at hF
  have hp2 := hp.two
  have hp13 := hp.le
  refine sq ?_
  refine wp_region_lit ?_
  refine stR hF (d_box 0 hM hF rfl) rfl ?_
  rintro _ w' a ⟨b1, rfl, hM, -⟩ hF
  change Mem w w' [some (b1, algC (p : Int) (n : Int) T f), none, none, none, none, none] [] at hM
  refine st hF (g_assign hF rfl) rfl fun a hF => ?_
  refine wpList_nil ?_
  refine tN ?_
  refine sq ?_
  refine wp_region_lit ?_
  refine st hF (g_loadAgg ty_ag_31 hF rfl (hM.row 0 rfl) (by simp only [fnC_size, cells_size, vecC_size, tabC_size, planeC_size] <;> omega) (whole cells_size)) rfl fun a hF => ?_
  refine stR hF (d_call Try.call60 hF (.cons rfl .nil) (formRows_ok p n T f _ (by omega) (by omega) (by omega) (by omega) hT hf)) rfl ?_
  rintro u w' a ⟨hx, hr⟩ hF
  obtain ⟨D1, β, bo, cs0, hB, rfl, hsz0, hgo0, hM⟩ := hM.addBoL 3 hx hr
  rw [List.append_nil] at hM
  change Mem w w' [some (b1, algC (p : Int) (n : Int) T f), none, none, some (bo, cs0), none, none] D1 at hM
  refine st hF (g_assign hF rfl) rfl fun a hF => ?_
  refine wpList_nil ?_
  refine tN ?_
  refine sq ?_
  refine sq ?_
  refine wp_region_lit ?_
  refine st hF (g_move hF rfl) rfl fun a hF => st hF (g_len ty_us_76 hF rfl) rfl fun a hF => st hF (g_move hF rfl) rfl fun a hF => ?_
  refine wpList_nil ?_
  refine tN ?_
  refine wp_block ?_
  change Mem w _ [some (b1, algC (p : Int) (n : Int) T f), none, none, some (bo, cs0), none, none] D1 at hM
  refine c_loop (fun (kk : Nat) a w' => kk ≤ n ∧ ∃ (D2 : Froz), ∃ (γ : Nat → Nat), ∃ (κ : Nat → Nat), ∃ (Xs : Nat → Nat → Value), ∃ (cso : Array Value), (cso.size = n ∧ (∀ i, i < kk → cso[0 + i * 1]? = some (.slice (some ⟨γ i, 0, none⟩) 12 (κ (γ i)))) ∧ (∀ i, kk ≤ i → i < n → cso[0 + i * 1]? = some (.slice (some ⟨β i, 0, none⟩) 6 6)) ∧ RowsPD D2 12 kk κ Xs γ (augI (formM p n T f)) ∧ (∀ i, i < kk → w.heap.size ≤ γ i) ∧ (∀ b, 12 ≤ κ b) ∧ (∀ x ∈ D1, x ∈ D2)) ∧ Fr 46 a [(0, .agg (algC (p : Int) (n : Int) T f)), (1, ptr b1 (0)), (2, .slice none 0 0), (10, .agg (algC (p : Int) (n : Int) T f)), (11, .slice (some ⟨bo, 0, none⟩) (n) (n)), (3, .slice (some ⟨bo, 0, none⟩) (n) (n)), (12, .slice (some ⟨bo, 0, none⟩) (n) (n)), (13, .int .i64 (((n : Nat) : Int))), (14, .int .i64 (((kk : Nat) : Int)))] ∧ Mem w w' [some (b1, algC (p : Int) (n : Int) T f), none, none, some (bo, cso), none, none] D2) (fun kk => n - kk) 0 ?_ ?_
  ·
    refine ⟨by omega, D1, (fun _ => 0), (fun _ => 12), (fun _ _ => undef), cs0, ⟨hsz0, fun i hi => absurd hi (by omega), fun i _ hi => hgo0 i hi, RowsPD.none, fun i hi => absurd hi (by omega), fun _ => Nat.le_refl _, fun x hx => hx⟩, hF.sub _ (by repeat' constructor), ?_⟩
    exact hM
  ·
    clear hF hM
    rintro gk a w' ⟨hgk, D2, γ, κ, Xs, cso, ⟨hso, hgo1, hgo2, hP, hbg, hκ, hsub⟩, hF, hM⟩
    refine sq ?_
    refine wp_region_lit ?_
    refine st hF (g_lss hF rfl rfl) rfl fun a hF => ?_
    refine wpList_nil ?_
    refine tN ?_
    refine sq ?_
    refine c_cond hF rfl (fun h2 => ?_) (fun h2 => ?_)
    ·
      refine wp_skip ?_
      refine tN ?_
      refine sq ?_
      refine wp_block ?_
      refine sq ?_
      refine wp_region_lit ?_
      refine st hF (g_move hF rfl) rfl fun a hF => st hF (g_indexSl (i := gk) ty_sl_76 hF rfl rfl rfl (by omega)) rfl fun a hF => st hF (g_load ty_on_84 hF rfl (hM.row 3 rfl) (hgo2 (gk) (by omega) (by omega))) rfl fun a hF => st hF (g_assign hF rfl) rfl fun a hF => st hF (g_assign hF rfl) rfl fun a hF => ?_
      refine wpList_nil ?_
      refine tN ?_
      refine sq ?_
      refine wp_region_lit ?_
      refine st hF (g_move hF rfl) rfl fun a hF => ?_
      refine stR hF (d_call Try.call63 hF (.cons rfl .nil) (basisVector_ok (gk) _ (by omega))) rfl ?_
      rintro _ w' a ⟨hx, rfl⟩ hF
      have hM := hM.ext hx
      refine stR hF (d_alloc 1 hM ty_ze_27) rfl ?_
      rintro _ w' a ⟨b3, rfl, hM, -⟩ hF
      change Mem w w' [some (b1, algC (p : Int) (n : Int) T f), some (b3, fnC 6 (fun _ => .int .u8 (0))), none, some (bo, cso), none, none] D2 at hM
      refine stN hF (d_storeAgg 1 hM rfl ty_sz_27 hF rfl rfl (by first | exact vecC_one | exact cells_one | (refine fnC_one fun _ _ => ?_; first | rfl | (split <;> rfl))) (by simp only [fnC_size, cells_size, vecC_size, tabC_size, planeC_size]) (by simp only [fnC_size, cells_size, vecC_size, tabC_size, planeC_size] <;> omega) (splice_whole _ _ (by simp only [fnC_size, cells_size, vecC_size, tabC_size, planeC_size]))) ?_
      intro _ w' a hM hF
      change Mem w w' [some (b1, algC (p : Int) (n : Int) T f), some (b3, vecC (fun c => if c = gk then 1 else 0)), none, some (bo, cso), none, none] D2 at hM
      refine wpList_nil ?_
      refine tN ?_
      refine wp_region_lit ?_
      refine st hF (g_move hF rfl) rfl fun a hF => st hF (g_move hF rfl) rfl fun a hF => st hF (g_move hF rfl) rfl fun a hF => st hF (g_sliceArr ty_ua_27 ty_sz_5 (by decide) hF rfl) rfl fun a hF => ?_
      refine stR hF (d_appendFz (k := 4) (f := fun c => .int .u8 ((formM p n T f gk c : Nat) : Int)) (g := fun c => .int .u8 (((if c = gk then 1 else 0 : Nat)) : Int)) ty_si_84 rfl (by decide) hM hF rfl rfl (hM.fzm (hsub _ (hB.mem gk (by omega)))) (fun i hi => fnC_get (by omega)) (fun i hi => ((hM.row 1 rfl).cell _).trans ((show _ = _ from by rw [Nat.zero_add]; exact fnC_get (by omega)))) (by decide) (by decide) (by decide)) rfl ?_
      rintro u w' a ⟨bn, capn, csn, hsl, hM⟩ hF
      obtain rfl := hsl.val
      change Mem w w' [some (b1, algC (p : Int) (n : Int) T f), some (b3, vecC (fun c => if c = gk then 1 else 0)), none, some (bo, cso), some (bn, csn), none] D2 at hM
      refine st hF (g_indexSl (i := gk) ty_sl_76 hF rfl rfl rfl (by omega)) rfl fun a hF => ?_
      refine stN hF (d_store 3 hM rfl ty_on_84 hF rfl rfl rfl (by first | omega | (simp only [fnC_size, cells_size, vecC_size, tabC_size, planeC_size] <;> omega))) ?_
      intro _ w' a hM hF
      change Mem w w' [some (b1, algC (p : Int) (n : Int) T f), some (b3, vecC (fun c => if c = gk then 1 else 0)), none, some (bo, (cso).setIfInBounds (0 + (gk) * 1) (.slice (some ⟨bn, 0, none⟩) (6 + 6) (capn))), some (bn, csn), none] D2 at hM
      refine wpList_nil ?_
      refine iN ?_
      refine tN ?_
      refine wp_region_lit ?_
      refine st hF (g_add hF rfl rfl (add_nat (gk) (1) (by omega))) rfl fun a hF => st hF (g_move hF rfl) rfl fun a hF => ?_
      refine wpList_nil ?_
      refine tN ?_
      have hcap := hsl.le
      have hgb := hM.ge 4 rfl
      have hnb := fun i hi => (hM.froz _ _ (hP.mem i hi)).2 4 bn _ rfl
      have hM := hM.freeze 4 rfl
      have hrow : csn = rowP 12 capn (augI (formM p n T f) gk) (fun c => csn[c]?.getD undef) := (hsl.congr (g := fun c => .int .u8 ((augI (formM p n T f) gk c : Nat) : Int)) (fun c hc => aug_row (by omega))).rowP
      have hP := ((hP.more (D' := (bn, csn) :: D2) (fun x hx => List.mem_cons_of_mem _ hx)).snoc hrow (List.mem_cons_self ..) hnb).congr (M' := augI (formM p n T f)) (fun i hi c hc => by
        by_cases e : i = gk <;> simp [upE, e])
      have hgo1 : ∀ i, i < gk + 1 → ((cso).setIfInBounds (0 + (gk) * 1) (.slice (some ⟨bn, 0, none⟩) (6 + 6) (capn)))[0 + i * 1]? = some (.slice (some ⟨up γ gk bn i, 0, none⟩) 12 ((fun y => if y = bn then capn else κ y) (up γ gk bn i))) := fun i hi => by
        by_cases e : i = gk
        · rw [e, up_eq, Array.getElem?_setIfInBounds_self_of_lt (by omega)]; show _ = some (Value.slice _ 12 (if bn = bn then capn else κ bn)); rw [if_pos rfl]
        · have hne : ¬ γ i = bn := fun h2 => hnb i (by omega) h2.symm
          rw [up_ne e, Array.getElem?_setIfInBounds_ne (by omega)]; show _ = some (Value.slice _ 12 (if γ i = bn then capn else κ (γ i))); rw [if_neg hne]; exact hgo1 i (by omega)
      have hgo2 : ∀ i, gk + 1 ≤ i → i < n → ((cso).setIfInBounds (0 + (gk) * 1) (.slice (some ⟨bn, 0, none⟩) (6 + 6) (capn)))[0 + i * 1]? = some (.slice (some ⟨β i, 0, none⟩) 6 6) := fun i h1 h2 => by rw [Array.getElem?_setIfInBounds_ne (by omega)]; exact hgo2 i (by omega) h2
      have hbg : ∀ i, i < gk + 1 → w.heap.size ≤ up γ gk bn i := fun i hi => by
        unfold up; split
        · exact hgb
        · exact hbg i (by omega)
      have hκ : ∀ b, 12 ≤ (fun y => if y = bn then capn else κ y) b := fun b => by
        show 12 ≤ (if b = bn then capn else κ b)
        split
        · exact hcap
        · exact hκ b
      have hM := hM.drop 1
      refine ⟨gk + 1, ⟨by omega, ((bn, csn) :: D2), (up γ gk bn), (fun y => if y = bn then capn else κ y), (fun y => if y = bn then (fun c => csn[c]?.getD undef) else Xs y), ((cso).setIfInBounds (0 + (gk) * 1) (.slice (some ⟨bn, 0, none⟩) (6 + 6) (capn))), ⟨by rw [Array.size_setIfInBounds]; exact hso, hgo1, hgo2, hP, hbg, hκ, fun x hx => List.mem_cons_of_mem _ (hsub x hx)⟩, hF.sub _ (by repeat' constructor), ?_⟩, by omega⟩
      exact hM
    ·
      obtain rfl : n = gk := by omega
      refine wp_exit ?_
      refine tX ?_
      refine tX ?_
      refine ib_same ?_
      refine tN ?_
      refine sq ?_
      refine wp_region_lit ?_
      refine st hF (g_assign hF rfl) rfl fun a hF => ?_
      refine wpList_nil ?_
      refine tN ?_
      refine sq ?_
      refine sq ?_
      refine wp_region_lit ?_
      refine st hF (g_move hF rfl) rfl fun a hF => st hF (g_fieldAddr ty_fo_31_0 hF rfl) rfl fun a hF => st hF (g_load ty_on_2 hF rfl (hM.row 0 rfl) (algC_p (by omega))) rfl fun a hF => ?_
      refine stR hF (d_callX Try.call59 hF (.cons rfl (.cons rfl .nil)) (reduceRowsP_ok p 12 n bo n cso κ Xs γ (augI (formM p n T f)) _ hp hκ (by omega) (by omega) (by omega) (Nat.le_refl _) (fun i c => by have := formM_lt (p := p) (n := n) (T := T) (f := f) (by omega) i c; unfold augI; split; exact this; split <;> omega) (hM.row 3 rfl) (by omega) hgo1 (fun i hi => hM.fzm (hP.mem i hi)) hP.inj (fun i hi e => (hM.froz _ _ (hP.mem i hi)).2 3 bo _ rfl e.symm))) rfl ?_
      rintro u w2 a ⟨hx, k', M2, γ2, ld, cs2, hu, hkm, hR2, hK2, hM21, hb2, hg2, hr2, hf2⟩ hF
      obtain ⟨hkn, hG2, hz2⟩ := cop_of hp2 hn0 hn (fun i c h => formM_out h) hfr hR2 hkm hK2 hM21
      have hGe : ∀ i, i < n → ∀ q, q < 6 → M2 i (6 + q) = G i q := fun i hi q hq => by
        have e := hG2.unique hp2 hn (fun i c h => formM_out h) hfr hG
        have e2 := congrFun (congrFun e i) q
        by_cases h : q < n
        · rw [← e2, if_pos ⟨hi, h⟩]
        · rw [hz2 i hi q (by omega) hq, hG.out i q (by omega)]
      rw [hkn] at hu
      subst hu
      have hM := hM.reduced (k := 3) rfl hP (hM.ge 3 rfl) hbg hx hf2 hb2 hr2
      change Mem w w2 [some (b1, algC (p : Int) (n : Int) T f), none, none, none, none, none] ((bo, cs2) :: (List.range n).map (fun i => (γ2 i, rowP 12 (κ (γ2 i)) (M2 i) (Xs (γ2 i))))) at hM
      refine st hF (g_len ty_us_76 hF rfl) rfl fun a hF => st hF (g_move hF rfl) rfl fun a hF => ?_
      refine wpList_nil ?_
      refine tN ?_
      refine wp_block ?_
      change Mem w _ [some (b1, algC (p : Int) (n : Int) T f), none, none, none, none, none] ((bo, cs2) :: (List.range n).map (fun i => (γ2 i, rowP 12 (κ (γ2 i)) (M2 i) (Xs (γ2 i))))) at hM
      refine c_loop (fun (kk : Nat) a w' => kk ≤ n ∧ (True) ∧ ∃ (u7_2 : Value) (e7_2 : Option (Nat × Array Value)), Sl 6 u7_2 e7_2 (kk) (fun c => .int .u8 ((G (c / 6) (c % 6) : Nat) : Int)) ∧ Fr 46 a [(0, .agg (algC (p : Int) (n : Int) T f)), (1, ptr b1 (0)), (2, .slice none 0 0), (10, .agg (algC (p : Int) (n : Int) T f)), (11, .slice (some ⟨bo, 0, none⟩) (n) (n)), (3, .slice (some ⟨bo, 0, none⟩) (n) (n)), (12, .slice (some ⟨bo, 0, none⟩) (n) (n)), (13, .int .i64 (((n : Nat) : Int))), (14, .int .i64 (((n : Nat) : Int))), (15, .bool (decide ((((n : Nat) : Int) : Int) < ((n : Nat) : Int)))), (28, .slice (some ⟨bo, 0, none⟩) (n) (n)), (29, ptr b1 (0 + 0)), (30, .int .i64 (((p : Nat) : Int))), (31, .slice (some ⟨bo, 0, none⟩) (n) (n)), (32, .int .i64 (((n : Nat) : Int))), (33, .int .i64 (((kk : Nat) : Int))), (7, u7_2)] ∧ Mem w w' [some (b1, algC (p : Int) (n : Int) T f), none, none, none, none, e7_2] ((bo, cs2) :: (List.range n).map (fun i => (γ2 i, rowP 12 (κ (γ2 i)) (M2 i) (Xs (γ2 i)))))) (fun kk => n - kk) 0 ?_ ?_
      ·
        refine ⟨by omega, trivial, (.slice none 0 0), (none), (Sl.nil 6 _), hF.sub _ (by repeat' constructor), ?_⟩
        exact hM
      ·
        clear hF hM
        rintro gj a w' ⟨hgj, hinv2, u7_2, e7_2, hsl2, hF, hM⟩
        refine sq ?_
        refine wp_region_lit ?_
        refine st hF (g_lss hF rfl rfl) rfl fun a hF => ?_
        refine wpList_nil ?_
        refine tN ?_
        refine sq ?_
        refine c_cond hF rfl (fun h4 => ?_) (fun h4 => ?_)
        ·
          refine wp_skip ?_
          refine tN ?_
          refine sq ?_
          refine wp_block ?_
          refine sq ?_
          refine wp_region_lit ?_
          refine st hF (g_indexSl (i := gj) ty_sl_76 hF rfl rfl rfl (by omega)) rfl fun a hF => st hF (g_load ty_on_84 hF rfl (hM.fzm (List.mem_cons_self ..)) (hg2 (gj) (by omega))) rfl fun a hF => st hF (g_assign hF rfl) rfl fun a hF => ?_
          refine wpList_nil ?_
          refine tN ?_
          refine wp_region_lit ?_
          refine st hF (g_move hF rfl) rfl fun a hF => st hF (g_move hF rfl) rfl fun a hF => st hF (g_sliceLo (i := 6) ty_us_84 ty_sz_5 hF rfl rfl rfl (by omega) (hκ _) (by have := hκ (γ2 (gj)); omega)) rfl fun a hF => st hF (g_toArr ty_ua_27 hF rfl (by omega)) rfl fun a hF => st hF (g_loadAgg ty_ag_27 hF rfl (hM.fzm (mem_rowsD (γ := γ2) (R := fun i => rowP 12 (κ (γ2 i)) (M2 i) (Xs (γ2 i))) (i := gj) (by omega))) (by have := hκ (γ2 (gj)); rw [rowP_size]; omega) (rowP_vec (hκ _))) rfl fun a hF => ?_
          refine stR hF (d_buildC (vs := [(0, .agg (vecC (fun q => M2 (gj) (6 + q))))]) 2 hM hF (build1 hF rfl) (fun w => ty_bsg_46_1 (fun q => M2 (gj) (6 + q)) w)) rfl ?_
          rintro _ w' a ⟨b5, rfl, hM, -⟩ hF
          change Mem w w' [some (b1, algC (p : Int) (n : Int) T f), none, some (b5, vecsC 1 (vAtL [(fun q => M2 (gj) (6 + q))])), none, none, e7_2] ((bo, cs2) :: (List.range n).map (fun i => (γ2 i, rowP 12 (κ (γ2 i)) (M2 i) (Xs (γ2 i))))) at hM
          refine stR hF (d_append (k := 5) (N := gj) (m := 1) (f := (fun c => .int .u8 ((G (c / 6) (c % 6) : Nat) : Int))) (g := fun q => .int .u8 (((((fun q => M2 (gj) (6 + q))) q : Nat)) : Int)) ty_si_46 rfl (by decide) hM rfl hF rfl rfl hsl2 (fun q hq => ((hM.row 2 rfl).cell _).trans (vecs1_get q hq)) (fun _ _ => rfl) (by decide) (by unfold maxLen; omega) (by omega)) rfl ?_
          rintro u6 w' a ⟨e7, hM, hs8⟩ hF
          change Mem w w' [some (b1, algC (p : Int) (n : Int) T f), none, some (b5, vecsC 1 (vAtL [(fun q => M2 (gj) (6 + q))])), none, none, e7] ((bo, cs2) :: (List.range n).map (fun i => (γ2 i, rowP 12 (κ (γ2 i)) (M2 i) (Xs (γ2 i))))) at hM
          refine st hF (g_assign hF rfl) rfl fun a hF => ?_
          refine wpList_nil ?_
          refine iN ?_
          refine tN ?_
          refine wp_region_lit ?_
          refine st hF (g_add hF rfl rfl (add_nat (gj) (1) (by omega))) rfl fun a hF => st hF (g_move hF rfl) rfl fun a hF => ?_
          refine wpList_nil ?_
          refine tN ?_
          have hM := hM.drop 2
          refine ⟨gj + 1, ⟨by omega, trivial, (u6), (e7), (Sl.snoc6 (N := gj) (F := (fun c => .int .u8 ((G (c / 6) (c % 6) : Nat) : Int))) (G := fun q => .int .u8 ((M2 gj (6 + q) : Nat) : Int)) hs8 (fun q hq => by rw [show (gj * 6 + q) / 6 = gj by omega, show (gj * 6 + q) % 6 = q by omega, hGe gj (by omega) q hq])), hF.sub _ (by repeat' constructor), ?_⟩, by omega⟩
          exact hM
        ·
          obtain rfl : n = gj := by omega
          refine wp_exit ?_
          refine tX ?_
          refine tX ?_
          refine ib_same ?_
          refine tN ?_
          refine sq ?_
          refine wp_region_lit ?_
          refine st hF (g_move hF rfl) rfl fun a hF => st hF (g_assign hF rfl) rfl fun a hF => ?_
          refine wpList_nil ?_
          refine tN ?_
          refine wp_ret ?_
          refine fin1 rfl hF.defers (res_tmp hF rfl) ⟨_, rfl, hM.below, ?_⟩
          exact OwnSl.pos hM (k := 5) rfl (hsl2) hn0

end Go.Proofs.Ytficgmohfabplaa

namespace Go.Proofs.Ytficgmohfabplaa
open Go Go.RowKit Go.Sw Go.Ech
open Classical
theorem timesE {p n i j : Nat} {T : Nat → Nat → Nat → Nat} (hTp : ∀ i j k, T i j k < p) (hT0 : ∀ i j k, n ≤ k → T i j k = 0) (hi : i < n) (hj : j < n) : timesS p n T (fun c => if c = i then 1 else 0) (fun c => if c = j then 1 else 0) = T i j := by
  funext k
  unfold timesS
  by_cases hk : k < n
  · rw [if_pos hk]; unfold timesV
    have e : ((prodI T (fun c => if c = i then 1 else 0) (fun c => if c = j then 1 else 0) n n k : Nat) : Int) = ((T i j k : Nat) : Int) := by
      rw [prodI_Pr]; unfold Pr
      rw [sI_one hi (fun a _ hne => sI_zero fun b _ => by simp [ci, hne]), sI_one hj (fun b _ hne => by simp [ci, hne])]
      simp [ci]
    rw [Int.ofNat.inj e]; exact Nat.mod_eq_of_lt (hTp i j k)
  · rw [if_neg hk, hT0 i j k (by omega)]
theorem timesE' {p n i j : Nat} {T : Nat → Nat → Nat → Nat} (hTp : ∀ i j k, T i j k < p) (hT0 : ∀ i j k, n ≤ k → T i j k = 0) (hi : i < n) (hj : j < n) : timesV p n T (fun c => if c = i then 1 else 0) (fun c => if c = j then 1 else 0) = T i j := by
  rw [times_eq hT0]; exact timesE hTp hT0 hi hj

theorem l02Table_ok (p n : Nat) (T : Nat → Nat → Nat → Nat) (f : Nat → Nat) (w : World) (hp : primeN p) (hn0 : 0 < n) (hn : n ≤ 6) (hTp : ∀ i j k, T i j k < p) (hT0 : ∀ i j k, n ≤ k → T i j k = 0) (hf : ∀ i, f i ≤ 255) :
    CallsR Try.prog 88 #[.agg (algC (p : Int) (n : Int) T f)] w (fun u w' => TabOut w w' n n (fun i c => .int .i64 ((formM p n T f i c : Nat) : Int)) u) := by
  refine calls_fr [.agg (algC (p : Int) (n : Int) T f)] Try.func88 rfl Try.ntmps88 rfl fun a hF => ?_
  have hM : Mem w w [none, none, none, none, none] [] := MemX.start w 5
  change Fr 37 a [(0, .agg (algC (p : Int) (n : Int) T f))] at hF
  have hp2 := hp.two
  have hp13 := hp.le
  have hT : ∀ i j k, T i j k ≤ 255 := fun i j k => by have := hTp i j k; omega
  refine sq ?_
  refine wp_region_lit ?_
  refine stR hF (d_box 0 hM hF rfl) rfl ?_
  rintro _ w' a ⟨b1, rfl, hM, -⟩ hF
  change Mem w w' [some (b1, algC (p : Int) (n : Int) T f), none, none, none, none] [] at hM
  refine st hF (g_assign hF rfl) rfl fun a hF => ?_
  refine wpList_nil ?_
  refine tN ?_
  refine sq ?_
  refine wp_region_lit ?_
  refine stR hF (d_buildC 1 hM hF rfl ty_bs0_64) rfl ?_
  rintro _ w' a ⟨b2, rfl, hM, -⟩ hF
  change Mem w w' [some (b1, algC (p : Int) (n : Int) T f), some (b2, #[]), none, none, none] [] at hM
  refine st hF (g_assign hF rfl) rfl fun a hF => ?_
  refine wpList_nil ?_
  refine tN ?_
  refine sq ?_
  refine sq ?_
  refine wp_region_lit ?_
  refine st hF (g_assign hF rfl) rfl fun a hF => ?_
  refine wpList_nil ?_
  refine tN ?_
  refine wp_block ?_
  change Mem w _ [some (b1, algC (p : Int) (n : Int) T f), some (b2, #[]), none, none, none] [] at hM
  refine c_loop (fun (kk : Nat) a w' => kk ≤ n ∧ ∃ (D1 : Froz), ∃ (β : Nat → Nat), ∃ (κ : Nat → Nat), ∃ (C : Nat → Array Value), (RowsD D1 n kk β κ C (fun i c => .int .i64 ((formM p n T f i c : Nat) : Int)) ∧ (∀ i, i < kk → w.heap.size ≤ β i) ∧ ∀ i j, i < kk → j < kk → β i = β j → i = j) ∧ ∃ (u3_1 : Value) (e3_1 : Option (Nat × Array Value)), Sl 1 u3_1 e3_1 (kk) (fun i => .slice (some ⟨β i, 0, none⟩) n (κ i)) ∧ Fr 37 a [(0, .agg (algC (p : Int) (n : Int) T f)), (1, ptr b1 (0)), (2, .slice none 0 0), (7, .slice (some ⟨b2, 0, none⟩) (0) (0)), (4, .int .i64 (((kk : Nat) : Int))), (3, u3_1)] ∧ Mem w w' [some (b1, algC (p : Int) (n : Int) T f), e3_1, none, none, none] D1) (fun kk => n - kk) 0 ?_ ?_
  ·
    refine ⟨by omega, [], (fun _ => 0), (fun _ => 0), (fun _ => #[]), ⟨RowsD.none, fun i hi => absurd hi (by omega), fun i j hi => absurd hi (by omega)⟩, (.slice (some ⟨b2, 0, none⟩) (0) (0)), (some (b2, #[])), Sl.empty _ _ _, hF.sub _ (by repeat' constructor), ?_⟩
    exact hM
  ·
    clear hF hM
    rintro gi a w' ⟨hgi, D1, β, κ, C, ⟨hR, hbg, hinj⟩, u3_1, e3_1, hsl, hF, hM⟩
    refine sq ?_
    refine sq ?_
    refine wp_region_lit ?_
    refine st hF (g_move hF rfl) rfl fun a hF => st hF (g_fieldAddr ty_fo_31_1 hF rfl) rfl fun a hF => st hF (g_load ty_on_2 hF rfl (hM.row 0 rfl) (algC_n (by omega))) rfl fun a hF => st hF (g_lss hF rfl rfl) rfl fun a hF => ?_
    refine wpList_nil ?_
    refine tN ?_
    refine c_cond hF rfl (fun h3 => ?_) (fun h3 => ?_)
    ·
      refine wp_skip ?_
      refine tN ?_
      refine sq ?_
      refine wp_block ?_
      refine sq ?_
      refine wp_region_lit ?_
      refine stR hF (d_buildC 2 hM hF rfl ty_bs0_50) rfl ?_
      rintro _ w' a ⟨b4, rfl, hM, -⟩ hF
      change Mem w w' [some (b1, algC (p : Int) (n : Int) T f), e3_1, some (b4, #[]), none, none] D1 at hM
      refine st hF (g_assign hF rfl) rfl fun a hF => ?_
      refine wpList_nil ?_
      refine tN ?_
      refine sq ?_
      refine sq ?_
      refine wp_region_lit ?_
      refine st hF (g_assign hF rfl) rfl fun a hF => ?_
      refine wpList_nil ?_
      refine tN ?_
      refine wp_block ?_
      change Mem w _ [some (b1, algC (p : Int) (n : Int) T f), e3_1, some (b4, #[]), none, none] D1 at hM
      refine c_loop (fun (kk : Nat) a w' => kk ≤ n ∧ (True) ∧ ∃ (u5_2 : Value) (e5_2 : Option (Nat × Array Value)), Sl 1 u5_2 e5_2 (kk) (fun c => .int .i64 ((formM p n T f gi c : Nat) : Int)) ∧ Fr 37 a [(0, .agg (algC (p : Int) (n : Int) T f)), (1, ptr b1 (0)), (2, .slice none 0 0), (7, .slice (some ⟨b2, 0, none⟩) (0) (0)), (4, .int .i64 (((gi : Nat) : Int))), (3, u3_1), (8, .int .i64 (((gi : Nat) : Int))), (9, ptr b1 (0 + 1)), (10, .int .i64 (((n : Nat) : Int))), (11, .bool (decide ((((gi : Nat) : Int) : Int) < ((n : Nat) : Int)))), (14, .slice (some ⟨b4, 0, none⟩) (0) (0)), (6, .int .i64 (((kk : Nat) : Int))), (5, u5_2)] ∧ Mem w w' [some (b1, algC (p : Int) (n : Int) T f), e3_1, e5_2, none, none] D1) (fun kk => n - kk) 0 ?_ ?_
      ·
        refine ⟨by omega, trivial, (.slice (some ⟨b4, 0, none⟩) (0) (0)), (some (b4, #[])), Sl.empty _ _ _, hF.sub _ (by repeat' constructor), ?_⟩
        exact hM
      ·
        clear hF hM
        rintro gj a w' ⟨hgj, hinv2, u5_2, e5_2, hrow, hF, hM⟩
        refine sq ?_
        refine sq ?_
        refine wp_region_lit ?_
        refine st hF (g_move hF rfl) rfl fun a hF => st hF (g_fieldAddr ty_fo_31_1 hF rfl) rfl fun a hF => st hF (g_load ty_on_2 hF rfl (hM.row 0 rfl) (algC_n (by omega))) rfl fun a hF => st hF (g_lss hF rfl rfl) rfl fun a hF => ?_
        refine wpList_nil ?_
        refine tN ?_
        refine c_cond hF rfl (fun h5 => ?_) (fun h5 => ?_)
        ·
          refine wp_skip ?_
          refine tN ?_
          refine sq ?_
          refine wp_block ?_
          refine c_par 10 [3] [.val (u5_2), .val (.agg (algC (p : Int) (n : Int) T f)), .val (.agg (algC (p : Int) (n : Int) T f)), .val (.int .i64 (((gi : Nat) : Int))), .val (.agg (vecC (fun c => if c = gi then 1 else 0))), .val (.int .i64 (((gj : Nat) : Int))), .val (.agg (vecC (fun c => if c = gj then 1 else 0))), .val (.agg (vecC (T gi gj))), .val (.int .i64 (((sumTo (fun i => f i * ((T gi gj)) i) 6 % p : Nat) : Int))), .own 3 (#[.int .i64 (((sumTo (fun i => f i * ((T gi gj)) i) 6 % p : Nat) : Int))]) (fun b => .slice (some ⟨b, 0, none⟩) 1 1)] hmix rfl hF rfl hM ⟨fun a w gG hF hS hd => by exact par_val hS rfl (g_move hF rfl), fun a w gG hF hS hd => by have hM := hS.mem rfl; exact par_val hS rfl (g_loadAgg ty_ag_31 hF rfl (hM.row 0 rfl) (by simp only [fnC_size, cells_size, vecC_size, tabC_size, planeC_size] <;> omega) (whole cells_size)), fun a w gG hF hS hd => by have hM := hS.mem rfl; exact par_val hS rfl (g_loadAgg ty_ag_31 hF rfl (hM.row 0 rfl) (by simp only [fnC_size, cells_size, vecC_size, tabC_size, planeC_size] <;> omega) (whole cells_size)), fun a w gG hF hS hd => by exact par_val hS rfl (g_move hF rfl), fun a w gG hF hS hd => by have hF := hF.ext1 24 (hd 3 rfl rfl); exact par_call (by repeat constructor) hS rfl (d_call Try.call71 hF (.cons rfl .nil) (l01Basis_ok (gi) _ (by omega))), fun a w gG hF hS hd => by exact par_val hS rfl (g_move hF rfl), fun a w gG hF hS hd => by have hF := hF.ext1 26 (hd 5 rfl rfl); exact par_call (by repeat constructor) hS rfl (d_call Try.call71 hF (.cons rfl .nil) (l01Basis_ok (gj) _ (by omega))), fun a w gG hF hS hd => by have hF := hF.ext1 23 (hd 2 rfl rfl); have hF := hF.ext1 25 (hd 4 rfl rfl); have hF := hF.ext1 27 (hd 6 rfl rfl); exact par_call (by repeat constructor) hS rfl (d_call Try.call33 hF (.cons rfl (.cons rfl (.cons rfl .nil))) ((CallsR.val (l01Times_ok p n T f ((fun c => if c = gi then 1 else 0)) ((fun c => if c = gj then 1 else 0)) _ (by omega) (by omega) (by omega) (fun _ _ _ => hT _ _ _) (fun _ => by first | exact hv _ | exact hvt _ | exact hvs _ | exact hu _ | exact hT _ _ _ | exact hf _ | omega | (split <;> omega) | (dsimp only; split <;> omega) | assumption) (fun _ => by first | exact hv _ | exact hvt _ | exact hvs _ | exact hu _ | exact hT _ _ _ | exact hf _ | omega | (split <;> omega) | (dsimp only; split <;> omega) | assumption)) (congrArg (fun v => Value.agg (vecC v)) (timesE hTp hT0 (i := gi) (j := gj) (by omega) (by omega)))))), fun a w gG hF hS hd => by have hF := hF.ext1 22 (hd 1 rfl rfl); have hF := hF.ext1 28 (hd 7 rfl rfl); exact par_call (by repeat constructor) hS rfl (d_call Try.call58 hF (.cons rfl (.cons rfl .nil)) (l01Form_ok p n T f ((T gi gj)) _ (by omega) (fun _ => by first | exact hv _ | exact hvt _ | exact hvs _ | exact hu _ | exact hT _ _ _ | exact hf _ | omega | (split <;> omega) | (dsimp only; split <;> omega) | assumption) (fun _ => by first | exact hv _ | exact hvt _ | exact hvs _ | exact hu _ | exact hT _ _ _ | exact hf _ | omega | (split <;> omega) | (dsimp only; split <;> omega) | assumption))), fun a w gG hF hS hd => by have hF := hF.ext1 29 (hd 8 rfl rfl); exact par_own (by repeat constructor) hS rfl rfl rfl rfl (d_buildC 3 hS.1 hF (build1 hF rfl) (ty_bs1_50 _)), trivial⟩ ?_
          intro a w' L hF hS hq
          have hF := hF.ext1 21 (hq 0 rfl rfl)
          have hF := hF.ext1 22 (hq 1 rfl rfl)
          have hF := hF.ext1 23 (hq 2 rfl rfl)
          have hF := hF.ext1 24 (hq 3 rfl rfl)
          have hF := hF.ext1 25 (hq 4 rfl rfl)
          have hF := hF.ext1 26 (hq 5 rfl rfl)
          have hF := hF.ext1 27 (hq 6 rfl rfl)
          have hF := hF.ext1 28 (hq 7 rfl rfl)
          have hF := hF.ext1 29 (hq 8 rfl rfl)
          obtain ⟨hM, hL⟩ := hS
          obtain ⟨b6, hptr, hkk⟩ := hq 9 rfl rfl
          have hF := hF.ext1 30 hptr
          have hL := hL.take hkk
          obtain rfl := hL.eq
          change Mem w w' [some (b1, algC (p : Int) (n : Int) T f), e3_1, e5_2, some (b6, #[.int .i64 (((sumTo (fun i => f i * ((T gi gj)) i) 6 % p : Nat) : Int))]), none] D1 at hM
          change wpList Try.prog _ _ [_, _] _ _
          refine stR hF (d_append (k := 2) (m := 1) (g := fun _ => .int .i64 (((sumTo (fun i => f i * ((T gi gj)) i) 6 % p : Nat) : Int))) ty_si_50 rfl (by decide) hM rfl hF rfl rfl hrow (fun i hi => by rw [show i = 0 by omega]; exact (hM.row 3 rfl).cell 0) (fun _ _ => rfl) (by decide) (by unfold maxLen; omega) (by omega)) rfl ?_
          rintro u7 w' a ⟨e8, hM, hs9⟩ hF
          change Mem w w' [some (b1, algC (p : Int) (n : Int) T f), e3_1, e8, some (b6, #[.int .i64 (((sumTo (fun i => f i * ((T gi gj)) i) 6 % p : Nat) : Int))]), none] D1 at hM
          refine st hF (g_assign hF rfl) rfl fun a hF => ?_
          refine wpList_nil ?_
          refine iN ?_
          refine tN ?_
          refine wp_region_lit ?_
          refine st hF (g_move hF rfl) rfl fun a hF => st hF (g_add hF rfl rfl (add_nat (gj) (1) (by omega))) rfl fun a hF => st hF (g_assign hF rfl) rfl fun a hF => ?_
          refine wpList_nil ?_
          refine tN ?_
          have hM := hM.drop 3
          refine ⟨gj + 1, ⟨by omega, trivial, (u7), (e8), (hs9.snoc (by simp only [formM]; rw [if_pos (by omega)]; simp only [Nat.mul_comm])), hF.sub _ (by repeat' constructor), ?_⟩, by omega⟩
          exact hM
        ·
          obtain rfl : n = gj := by omega
          refine wp_exit ?_
          refine tX ?_
          refine tX ?_
          refine ib_same ?_
          refine tN ?_
          obtain ⟨bR, capR, csR, rfl, rfl, hsR⟩ := hrow.pos (by omega)
          have hgR := hM.ge 2 rfl
          have hnR := fun i hi => (hM.froz _ _ (hR.mem i hi)).2 2 bR _ rfl
          have hM := hM.freeze 2 rfl
          have hR2 := (hR.more (D' := (bR, csR) :: D1) (fun x hx => List.mem_cons_of_mem _ hx)).snoc (List.mem_cons_self ..) hsR
          change Mem w _ [some (b1, algC (p : Int) (n : Int) T f), e3_1, none, none, none] ((bR, csR) :: D1) at hM
          refine wp_region_lit ?_
          refine st hF (g_move hF rfl) rfl fun a hF => st hF (g_move hF rfl) rfl fun a hF => ?_
          refine stR hF (d_buildC 4 hM hF (build1 hF rfl) (ty_bsv_64 _ _ _)) rfl ?_
          rintro _ w' a ⟨b10, rfl, hM, -⟩ hF
          change Mem w w' [some (b1, algC (p : Int) (n : Int) T f), e3_1, none, none, some (b10, #[.slice (some ⟨bR, 0, none⟩) (n) (capR)])] ((bR, csR) :: D1) at hM
          refine stR hF (d_append (k := 1) (m := 1) (g := fun _ => .slice (some ⟨bR, 0, none⟩) (n) (capR)) ty_si_64 rfl (by decide) hM rfl hF rfl rfl hsl (fun i hi => by rw [show i = 0 by omega]; exact (hM.row 4 rfl).cell 0) (fun _ _ => rfl) (by decide) (by unfold maxLen; omega) (by omega)) rfl ?_
          rintro u11 w' a ⟨e12, hM, hs13⟩ hF
          change Mem w w' [some (b1, algC (p : Int) (n : Int) T f), e12, none, none, some (b10, #[.slice (some ⟨bR, 0, none⟩) (n) (capR)])] ((bR, csR) :: D1) at hM
          refine st hF (g_assign hF rfl) rfl fun a hF => ?_
          refine wpList_nil ?_
          refine iN ?_
          refine tN ?_
          refine wp_region_lit ?_
          refine st hF (g_move hF rfl) rfl fun a hF => st hF (g_add hF rfl rfl (add_nat (gi) (1) (by omega))) rfl fun a hF => st hF (g_assign hF rfl) rfl fun a hF => ?_
          refine wpList_nil ?_
          refine tN ?_
          have hsl := hs13.snocR
          have hR2 := hR2.congr (g := fun i c => .int .i64 ((formM p n T f i c : Nat) : Int)) (fun i hi c hc => by
            by_cases e : i = gi
            · rw [e]; simp only [up_eq]
            · simp only [up_ne e])
          have hM := hM.drop 4
          refine ⟨gi + 1, ⟨by omega, ((bR, csR) :: D1), (up β gi bR), (up κ gi capR), (up C gi csR), ⟨hR2, fun i hi => by unfold up; split; exact hgR; exact hbg i (by omega), up_inj hinj hnR⟩, (u11), (e12), hsl, hF.sub _ (by repeat' constructor), ?_⟩, by omega⟩
          exact hM
    ·
      obtain rfl : n = gi := by omega
      refine wp_exit ?_
      refine tX ?_
      refine tX ?_
      refine ib_same ?_
      refine tN ?_
      refine sq ?_
      refine wp_region_lit ?_
      refine st hF (g_move hF rfl) rfl fun a hF => st hF (g_assign hF rfl) rfl fun a hF => ?_
      refine wpList_nil ?_
      refine tN ?_
      refine wp_ret ?_
      refine fin1 rfl hF.defers (res_tmp hF rfl) ⟨_, rfl, hM.below, ?_⟩
      obtain ⟨b0, c0, cs0, rfl, rfl, hs0⟩ := hsl.pos hn0
      exact TabOut.of (q := 1) hM hR rfl hs0 hbg hinj

end Go.Proofs.Ytficgmohfabplaa
