/- What functions of the program return, as walks over their operations; no statement of the seat is proved here. -/
import Derived.Test.YtggdbbjmdbkpcaaP4
import Derived.Test.YtggdbbjmdbkpcaaK17
import Derived.Test.YtggdbbjmdbkpcaaEch7
import Derived.Test.YtggdbbjmdbkpcaaSw34
import Derived.Test.YtggdbbjmdbkpcaaSw34
set_option linter.unusedVariables false
set_option linter.unusedSimpArgs false
namespace Go.Proofs.Ytggdbbjmdbkpcaa
open Go Go.RowKit Go.Sw Go.Ech
open Classical
theorem tableOf_ok (p n : Nat) (T : Nat → Nat → Nat → Nat) (f : Nat → Nat) (bv cv : Nat) (csv : Array Value) (vv : Value) (ev : Option (Nat × Array Value)) (V : Nat → Nat → Nat) (w : World) (hn0 : 0 < n) (hn : n ≤ 6) (hV : ∀ i c, V i c ≤ 255) (hsv : SlAt 6 vv ev n bv cv csv (fun c => .int .u8 ((V (c / 6) (c % 6) : Nat) : Int))) (hbv : Blk w bv csv) :
    CallsR Try.prog 67 #[.agg (algC (p : Int) (n : Int) T f), .slice (some ⟨bv, 0, none⟩) (n) (cv)] w (fun u w' => TabI w w' n V u) := by
  refine calls_fr [.agg (algC (p : Int) (n : Int) T f), .slice (some ⟨bv, 0, none⟩) (n) (cv)] Try.func67 rfl Try.ntmps67 rfl fun a hF => ?_
  have hM : Mem w w [none, none, none, none] [(bv, csv)] := MemX.startD w 4 _ (startD1 hbv)
  change Fr 46 a [(0, .agg (algC (p : Int) (n : Int) T f)), (1, .slice (some ⟨bv, 0, none⟩) (n) (cv))] at hF
  have hv : ∀ i c, V i c ≤ 255 := hV
  refine sq ?_
  refine wp_region_lit ?_
  refine stR hF (d_box 0 hM hF rfl) rfl ?_
  rintro _ w' a ⟨b1, rfl, hM, -⟩ hF
  change Mem w w' [some (b1, algC (p : Int) (n : Int) T f), none, none, none] [(bv, csv)] at hM
  refine st hF (g_assign hF rfl) rfl fun a hF => ?_
  refine wpList_nil ?_
  refine tN ?_
  refine sq ?_
  refine wp_region_lit ?_
  refine st hF (g_move hF rfl) rfl fun a hF => st hF (g_len ty_us_27 hF rfl) rfl fun a hF => ?_
  refine stR hF (d_make1 (len := n) 1 hM hF ty_si_37 rfl rfl rfl (by omega) (by decide)) rfl ?_
  rintro _ w' a ⟨bo, rfl, hM, -⟩ hF
  change Mem w w' [some (b1, algC (p : Int) (n : Int) T f), some (bo, fnC n (fun _ => .slice none 0 0)), none, none] [(bv, csv)] at hM
  refine st hF (g_assign hF rfl) rfl fun a hF => ?_
  refine wpList_nil ?_
  refine tN ?_
  refine sq ?_
  refine sq ?_
  refine wp_region_lit ?_
  refine st hF (g_move hF rfl) rfl fun a hF => st hF (g_len ty_us_27 hF rfl) rfl fun a hF => st hF (g_move hF rfl) rfl fun a hF => ?_
  refine wpList_nil ?_
  refine tN ?_
  refine wp_block ?_
  change Mem w _ [some (b1, algC (p : Int) (n : Int) T f), some (bo, fnC n (fun _ => .slice none 0 0)), none, none] [(bv, csv)] at hM
  refine c_loop (fun (kk : Nat) a w' => kk ≤ n ∧ ∃ (D1 : Froz), ∃ (β : Nat → Nat), ∃ (cso : Array Value), (cso.size = n ∧ (∀ i, i < kk → cso[0 + i * 1]? = some (.slice (some ⟨β i, 0, none⟩) n n)) ∧ RowsC D1 kk β (fun i => rowI n (V i)) ∧ (∀ i, i < kk → w.heap.size ≤ β i) ∧ (bv, csv) ∈ D1) ∧ Fr 46 a [(0, .agg (algC (p : Int) (n : Int) T f)), (1, .slice (some ⟨bv, 0, none⟩) (n) (cv)), (2, ptr b1 (0)), (4, .slice none 0 0), (9, .slice (some ⟨bv, 0, none⟩) (n) (cv)), (10, .int .i64 (((n : Nat) : Int))), (11, .slice (some ⟨bo, 0, none⟩) (n) (n)), (5, .slice (some ⟨bo, 0, none⟩) (n) (n)), (12, .slice (some ⟨bv, 0, none⟩) (n) (cv)), (13, .int .i64 (((n : Nat) : Int))), (14, .int .i64 (((kk : Nat) : Int)))] ∧ Mem w w' [some (b1, algC (p : Int) (n : Int) T f), some (bo, cso), none, none] D1) (fun kk => n - kk) 0 ?_ ?_
  ·
    refine ⟨by omega, [(bv, csv)], (fun _ => 0), (fnC n (fun _ => .slice none 0 0)), ⟨fnC_size _ _, fun i hi => absurd hi (by omega), RowsC.none, fun i hi => absurd hi (by omega), List.mem_cons_self ..⟩, hF.sub _ (by repeat' constructor), ?_⟩
    exact hM
  ·
    clear hF hM
    rintro gk a w' ⟨hgk, D1, β, cso, ⟨hso, hgo, hC, hbg, hvm⟩, hF, hM⟩
    have hVg := hV gk
    refine sq ?_
    refine wp_region_lit ?_
    refine st hF (g_lss hF rfl rfl) rfl fun a hF => ?_
    refine wpList_nil ?_
    refine tN ?_
    refine sq ?_
    refine c_cond hF rfl (fun h3 => ?_) (fun h3 => ?_)
    ·
      refine wp_skip ?_
      refine tN ?_
      refine sq ?_
      refine wp_block ?_
      refine sq ?_
      refine wp_region_lit ?_
      refine st hF (g_move hF rfl) rfl fun a hF => st hF (g_indexSl (i := gk) ty_sl_27 hF rfl rfl rfl (by omega)) rfl fun a hF => st hF (g_loadAgg ty_ag_30 hF rfl (hM.fzm hvm) (hsv.room (gk) (by omega)) (hsv.vec0 (gk) (by omega))) rfl fun a hF => ?_
      refine stR hF (d_alloc 2 hM ty_ze_30) rfl ?_
      rintro _ w' a ⟨b4, rfl, hM, -⟩ hF
      change Mem w w' [some (b1, algC (p : Int) (n : Int) T f), some (bo, cso), some (b4, fnC 6 (fun _ => .int .u8 (0))), none] D1 at hM
      refine st hF (g_assign hF rfl) rfl fun a hF => ?_
      refine stN hF (d_storeAgg 2 hM rfl ty_sz_30 hF rfl rfl (by first | exact vecC_one | exact cells_one | (refine fnC_one fun _ _ => ?_; first | rfl | (split <;> rfl))) (by simp only [fnC_size, cells_size, vecC_size, tabC_size, planeC_size, mrk_size, rowI_size]) (by simp only [fnC_size, cells_size, vecC_size, tabC_size, planeC_size, mrk_size, rowI_size] <;> omega) (splice_whole _ _ (by simp only [fnC_size, cells_size, vecC_size, tabC_size, planeC_size, mrk_size, rowI_size]))) ?_
      intro _ w' a hM hF
      change Mem w w' [some (b1, algC (p : Int) (n : Int) T f), some (bo, cso), some (b4, vecC (V (gk))), none] D1 at hM
      refine wpList_nil ?_
      refine tN ?_
      refine sq ?_
      refine wp_region_lit ?_
      refine st hF (g_move hF rfl) rfl fun a hF => st hF (g_move hF rfl) rfl fun a hF => st hF (g_fieldAddr ty_fo_32_1 hF rfl) rfl fun a hF => st hF (g_load ty_on_2 hF rfl (hM.row 0 rfl) (algC_n (by omega))) rfl fun a hF => ?_
      refine stR hF (d_make1 (len := n) 3 hM hF ty_si_56 rfl rfl rfl (by omega) (by decide)) rfl ?_
      rintro _ w' a ⟨br, rfl, hM, -⟩ hF
      change Mem w w' [some (b1, algC (p : Int) (n : Int) T f), some (bo, cso), some (b4, vecC (V (gk))), some (br, rowI n (fun _ => 0))] D1 at hM
      refine st hF (g_indexSl (i := gk) ty_sl_37 hF rfl rfl rfl (by omega)) rfl fun a hF => ?_
      refine stN hF (d_store 1 hM rfl ty_on_56 hF rfl rfl rfl (by first | omega | (simp only [fnC_size, cells_size, vecC_size, tabC_size, planeC_size, mrk_size, rowI_size] <;> omega))) ?_
      intro _ w' a hM hF
      change Mem w w' [some (b1, algC (p : Int) (n : Int) T f), some (bo, (cso).setIfInBounds (0 + (gk) * 1) (.slice (some ⟨br, 0, none⟩) (n) (n))), some (b4, vecC (V (gk))), some (br, rowI n (fun _ => 0))] D1 at hM
      refine wpList_nil ?_
      refine tN ?_
      refine sq ?_
      have hself : ((cso).setIfInBounds (0 + (gk) * 1) (.slice (some ⟨br, 0, none⟩) (n) (n)))[0 + gk * 1]? = some (.slice (some ⟨br, 0, none⟩) n n) := Array.getElem?_setIfInBounds_self_of_lt (by omega)
      refine wp_region_lit ?_
      refine st hF (g_move hF rfl) rfl fun a hF => st hF (g_move hF rfl) rfl fun a hF => st hF (g_indexSl (i := gk) ty_sl_37 hF rfl rfl rfl (by omega)) rfl fun a hF => st hF (g_load ty_on_56 hF rfl (hM.row 1 rfl) hself) rfl fun a hF => st hF (g_len ty_us_56 hF rfl) rfl fun a hF => st hF (g_move hF rfl) rfl fun a hF => ?_
      refine wpList_nil ?_
      refine tN ?_
      refine wp_block ?_
      change Mem w _ [some (b1, algC (p : Int) (n : Int) T f), some (bo, (cso).setIfInBounds (0 + (gk) * 1) (.slice (some ⟨br, 0, none⟩) (n) (n))), some (b4, vecC (V (gk))), some (br, rowI n (fun _ => 0))] D1 at hM
      refine c_loop (fun (kk : Nat) a w' => kk ≤ n ∧ (True) ∧ Fr 46 a [(0, .agg (algC (p : Int) (n : Int) T f)), (1, .slice (some ⟨bv, 0, none⟩) (n) (cv)), (2, ptr b1 (0)), (4, .slice none 0 0), (9, .slice (some ⟨bv, 0, none⟩) (n) (cv)), (10, .int .i64 (((n : Nat) : Int))), (11, .slice (some ⟨bo, 0, none⟩) (n) (n)), (5, .slice (some ⟨bo, 0, none⟩) (n) (n)), (12, .slice (some ⟨bv, 0, none⟩) (n) (cv)), (13, .int .i64 (((n : Nat) : Int))), (14, .int .i64 (((gk : Nat) : Int))), (15, .bool (decide ((((gk : Nat) : Int) : Int) < ((n : Nat) : Int)))), (16, .int .i64 (((gk : Nat) : Int))), (17, ptr bv (0 + (gk) * 6)), (18, .agg (vecC (V (gk)))), (7, ptr b4 (0)), (6, .int .i64 (((gk : Nat) : Int))), (19, .slice (some ⟨bo, 0, none⟩) (n) (n)), (20, .int .i64 (((gk : Nat) : Int))), (21, ptr b1 (0 + 1)), (22, .int .i64 (((n : Nat) : Int))), (23, .slice (some ⟨br, 0, none⟩) (n) (n)), (24, ptr bo (0 + (gk) * 1)), (25, .slice (some ⟨bo, 0, none⟩) (n) (n)), (26, .int .i64 (((gk : Nat) : Int))), (27, ptr bo (0 + (gk) * 1)), (28, .slice (some ⟨br, 0, none⟩) (n) (n)), (29, .int .i64 (((n : Nat) : Int))), (30, .int .i64 (((kk : Nat) : Int)))] ∧ Mem w w' [some (b1, algC (p : Int) (n : Int) T f), some (bo, (cso).setIfInBounds (0 + (gk) * 1) (.slice (some ⟨br, 0, none⟩) (n) (n))), some (b4, vecC (V (gk))), some (br, rowI n (fun c => if c < kk then V gk c else 0))] D1) (fun kk => n - kk) 0 ?_ ?_
      ·
        refine ⟨by omega, trivial, hF.sub _ (by repeat' constructor), ?_⟩
        refine hM.rowc 3 rfl (rowI_congr fun c hc => by rw [if_neg (by omega)])
      ·
        clear hF hM
        rintro gj a w' ⟨hgj, hinv2, hF, hM⟩
        have hVj := hV gk gj
        refine sq ?_
        refine wp_region_lit ?_
        refine st hF (g_lss hF rfl rfl) rfl fun a hF => ?_
        refine wpList_nil ?_
        refine tN ?_
        refine sq ?_
        refine c_cond hF rfl (fun h6 => ?_) (fun h6 => ?_)
        ·
          refine wp_skip ?_
          refine tN ?_
          refine sq ?_
          refine wp_block ?_
          refine sq ?_
          refine wp_region_lit ?_
          refine st hF (g_move hF rfl) rfl fun a hF => st hF (g_assign hF rfl) rfl fun a hF => ?_
          refine wpList_nil ?_
          refine tN ?_
          refine c_par 9 [] [.val (.slice (some ⟨bo, 0, none⟩) (n) (n)), .val (.int .i64 (((gk : Nat) : Int))), .val (ptr bo (0 + (gk) * 1)), .val (.slice (some ⟨br, 0, none⟩) (n) (n)), .val (.int .i64 (((gj : Nat) : Int))), .val (.int .i64 (((gj : Nat) : Int))), .val (ptr b4 (0 + (gj) * 1)), .val (.int .u8 ((((V (gk)) (gj) : Nat) : Int))), .val (.int .i64 ((((V (gk)) (gj) : Nat) : Int)))] hmix rfl hF rfl hM ⟨fun a w gG hF hS hd => by exact par_val hS rfl (g_move hF rfl), fun a w gG hF hS hd => by exact par_val hS rfl (g_move hF rfl), fun a w gG hF hS hd => by have hF := hF.ext1 33 (hd 0 rfl rfl); have hF := hF.ext1 34 (hd 1 rfl rfl); exact par_val hS rfl (g_indexSl (i := gk) ty_sl_37 hF rfl rfl rfl (by omega)), fun a w gG hF hS hd => by have hF := hF.ext1 35 (hd 2 rfl rfl); have hM := hS.mem rfl; exact par_val hS rfl (g_load ty_on_56 hF rfl (hM.row 1 rfl) hself), fun a w gG hF hS hd => by exact par_val hS rfl (g_move hF rfl), fun a w gG hF hS hd => by exact par_val hS rfl (g_move hF rfl), fun a w gG hF hS hd => by have hF := hF.ext1 38 (hd 5 rfl rfl); exact par_val hS rfl (g_indexAddr ty_ar_30 hF rfl rfl rfl (by omega)), fun a w gG hF hS hd => by have hF := hF.ext1 39 (hd 6 rfl rfl); have hM := hS.mem rfl; exact par_val hS rfl (g_load ty_on_5 hF rfl (hM.row 2 rfl) (vecC_get (gj) (by omega) (by omega))), fun a w gG hF hS hd => by have hF := hF.ext1 40 (hd 7 rfl rfl); exact par_val hS rfl (g_conv ty_un_2 ty_ud_5 hF rfl (wrap_i64 (by omega) (by omega))), trivial⟩ ?_
          intro a w' L hF hS hq
          have hF := hF.ext1 33 (hq 0 rfl rfl)
          have hF := hF.ext1 34 (hq 1 rfl rfl)
          have hF := hF.ext1 35 (hq 2 rfl rfl)
          have hF := hF.ext1 36 (hq 3 rfl rfl)
          have hF := hF.ext1 37 (hq 4 rfl rfl)
          have hF := hF.ext1 38 (hq 5 rfl rfl)
          have hF := hF.ext1 39 (hq 6 rfl rfl)
          have hF := hF.ext1 40 (hq 7 rfl rfl)
          have hF := hF.ext1 41 (hq 8 rfl rfl)
          have hM := hS.mem rfl
          change wpList Try.prog _ _ [_, _] _ _
          refine st hF (g_indexSl (i := gj) ty_sl_56 hF rfl rfl rfl (by omega)) rfl fun a hF => ?_
          refine stN hF (d_store 3 hM rfl ty_on_2 hF rfl rfl rfl (by first | omega | (simp only [fnC_size, cells_size, vecC_size, tabC_size, planeC_size, mrk_size, rowI_size] <;> omega))) ?_
          intro _ w' a hM hF
          change Mem w w' [some (b1, algC (p : Int) (n : Int) T f), some (bo, (cso).setIfInBounds (0 + (gk) * 1) (.slice (some ⟨br, 0, none⟩) (n) (n))), some (b4, vecC (V (gk))), some (br, (rowI n (fun c => if c < gj then V gk c else 0)).setIfInBounds (0 + (gj) * 1) (.int .i64 ((((V (gk)) (gj) : Nat) : Int))))] D1 at hM
          refine wpList_nil ?_
          refine iN ?_
          refine tN ?_
          refine wp_region_lit ?_
          refine st hF (g_add hF rfl rfl (add_nat (gj) (1) (by omega))) rfl fun a hF => st hF (g_move hF rfl) rfl fun a hF => ?_
          refine wpList_nil ?_
          refine tN ?_
          refine ⟨gj + 1, ⟨by omega, trivial, hF.sub _ (by repeat' constructor), ?_⟩, by omega⟩
          refine hM.rowc 3 rfl (rowI_set (i := gj) (by omega) (by omega) (fun c hc => ?_))
          by_cases e1 : c = gj
          · simp [e1]
          · have e0 : (c < gj + 1) = (c < gj) := by apply propext; omega
            simp [e0, e1]
        ·
          obtain rfl : n = gj := by omega
          refine wp_exit ?_
          refine tX ?_
          refine tX ?_
          refine ib_same ?_
          refine iN ?_
          refine tN ?_
          refine wp_region_lit ?_
          refine st hF (g_add hF rfl rfl (add_nat (gk) (1) (by omega))) rfl fun a hF => st hF (g_move hF rfl) rfl fun a hF => ?_
          refine wpList_nil ?_
          refine tN ?_
          have hM := hM.rowc (cs' := rowI n (V gk)) 3 rfl (rowI_congr (fun c hc => if_pos hc))
          have hgb := hM.ge 3 rfl
          have hnb := fun i hi => (hM.froz _ _ (hC.mem i hi)).2 3 br _ rfl
          have hM := hM.freeze 3 rfl
          have hC := ((hC.more (D' := (br, rowI n (V gk)) :: D1) (fun x hx => List.mem_cons_of_mem _ hx)).snoc (List.mem_cons_self ..) hnb).congr (R' := fun i => rowI n (V i)) (fun i hi => by
            by_cases e : i = gk
            · rw [e]; simp [upE]
            · simp [upE, e])
          have hgo : ∀ i, i < gk + 1 → ((cso).setIfInBounds (0 + (gk) * 1) (.slice (some ⟨br, 0, none⟩) (n) (n)))[0 + i * 1]? = some (.slice (some ⟨up β gk br i, 0, none⟩) n n) := fun i hi => by
            unfold up
            by_cases e : i = gk
            · rw [if_pos e, e]; exact hself
            · rw [if_neg e, Array.getElem?_setIfInBounds_ne (by omega)]; exact hgo i (by omega)
          have hbg : ∀ i, i < gk + 1 → w.heap.size ≤ up β gk br i := fun i hi => by
            unfold up; split
            · exact hgb
            · exact hbg i (by omega)
          have hM := hM.drop 2
          refine ⟨gk + 1, ⟨by omega, ((br, rowI n (V gk)) :: D1), (up β gk br), ((cso).setIfInBounds (0 + (gk) * 1) (.slice (some ⟨br, 0, none⟩) (n) (n))), ⟨by rw [Array.size_setIfInBounds]; exact hso, hgo, hC, hbg, List.mem_cons_of_mem _ hvm⟩, hF.sub _ (by repeat' constructor), ?_⟩, by omega⟩
          exact hM
    ·
      obtain rfl : n = gk := by omega
      refine wp_exit ?_
      refine tX ?_
      refine tX ?_
      refine ib_same ?_
      refine tN ?_
      refine sq ?_
      refine wp_region_lit ?_
      refine st hF (g_move hF rfl) rfl fun a hF => st hF (g_assign hF rfl) rfl fun a hF => ?_
      refine wpList_nil ?_
      refine tN ?_
      refine wp_ret ?_
      refine fin1 rfl hF.defers (res_tmp hF rfl) ⟨_, rfl, hM.below, ?_⟩
      exact TabI.of (q := 1) hM hC rfl hgo hbg

end Go.Proofs.Ytggdbbjmdbkpcaa

namespace Go.Proofs.Ytggdbbjmdbkpcaa
open Go Go.RowKit Go.Sw Go.Ech
open Classical
theorem fnC6_vec {M : Nat → Nat} : (fnC 6 (fun c => .int .u8 ((M c : Nat) : Int))).extract 0 (0 + 6) = vecC M := extract_ext rfl (by rw [fnC_size]; decide) fun q hq => by rw [Nat.zero_add]; exact fnC_get hq

theorem vectorsOf_ok (n b0 : Nat) (cs0 : Array Value) (D0 : Froz) (β : Nat → Nat) (M : Nat → Nat → Nat) (w : World) (hn0 : 0 < n) (hn : n ≤ 6) (hD0 : ∀ b cs, (b, cs) ∈ D0 → Blk w b cs) (hb0 : (b0, cs0) ∈ D0) (hg0 : ∀ i, i < n → cs0[0 + i * 1]? = some (.slice (some ⟨β i, 0, none⟩) 6 6)) (hB : RowsB D0 6 n β M) :
    CallsR Try.prog 68 #[.slice (some ⟨b0, 0, none⟩) (n) (n)] w (fun u w' => OwnSl 6 w n (fun c => .int .u8 ((M (c / 6) (c % 6) : Nat) : Int)) u w') := by
  refine calls_fr [.slice (some ⟨b0, 0, none⟩) (n) (n)] Try.func68 rfl Try.ntmps68 rfl fun a hF => ?_
  have hM : Mem w w [none, none] D0 := MemX.startD w 2 _ hD0
  change Fr 20 a [(0, .slice (some ⟨b0, 0, none⟩) (n) (n))] at hF
  refine sq ?_
  refine wp_region_lit ?_
  refine st hF (g_assign hF rfl) rfl fun a hF => ?_
  refine wpList_nil ?_
  refine tN ?_
  refine sq ?_
  refine wp_region_lit ?_
  refine st hF (g_assign hF rfl) rfl fun a hF => ?_
  refine wpList_nil ?_
  refine tN ?_
  refine sq ?_
  refine sq ?_
  refine wp_region_lit ?_
  refine st hF (g_move hF rfl) rfl fun a hF => st hF (g_len ty_us_79 hF rfl) rfl fun a hF => st hF (g_move hF rfl) rfl fun a hF => ?_
  refine wpList_nil ?_
  refine tN ?_
  refine wp_block ?_
  change Mem w _ [none, none] D0 at hM
  refine c_loop (fun (kk : Nat) a w' => kk ≤ n ∧ (True) ∧ ∃ (u3_1 : Value) (e3_1 : Option (Nat × Array Value)), Sl 6 u3_1 e3_1 (kk) (fun c => .int .u8 ((M (c / 6) (c % 6) : Nat) : Int)) ∧ Fr 20 a [(0, .slice (some ⟨b0, 0, none⟩) (n) (n)), (2, .slice none 0 0), (6, .slice (some ⟨b0, 0, none⟩) (n) (n)), (7, .int .i64 (((n : Nat) : Int))), (8, .int .i64 (((kk : Nat) : Int))), (3, u3_1)] ∧ Mem w w' [none, e3_1] D0) (fun kk => n - kk) 0 ?_ ?_
  ·
    refine ⟨by omega, trivial, (.slice none 0 0), (none), (Sl.nil 6 _), hF.sub _ (by repeat' constructor), ?_⟩
    exact hM
  ·
    clear hF hM
    rintro gj a w' ⟨hgj, hinv1, u3_1, e3_1, hslj, hF, hM⟩
    refine sq ?_
    refine wp_region_lit ?_
    refine st hF (g_lss hF rfl rfl) rfl fun a hF => ?_
    refine wpList_nil ?_
    refine tN ?_
    refine sq ?_
    refine c_cond hF rfl (fun h1 => ?_) (fun h1 => ?_)
    ·
      refine wp_skip ?_
      refine tN ?_
      refine sq ?_
      refine wp_block ?_
      refine sq ?_
      refine wp_region_lit ?_
      refine st hF (g_indexSl (i := gj) ty_sl_79 hF rfl rfl rfl (by omega)) rfl fun a hF => st hF (g_load ty_on_80 hF rfl (hM.fzm hb0) (hg0 (gj) (by omega))) rfl fun a hF => st hF (g_assign hF rfl) rfl fun a hF => ?_
      refine wpList_nil ?_
      refine tN ?_
      refine wp_region_lit ?_
      refine st hF (g_move hF rfl) rfl fun a hF => st hF (g_move hF rfl) rfl fun a hF => st hF (g_toArr ty_ua_30 hF rfl (by omega)) rfl fun a hF => st hF (g_loadAgg ty_ag_30 hF rfl (hM.fzm (hB.mem (gj) (by omega))) (by rw [fnC_size]; decide) fnC6_vec) rfl fun a hF => ?_
      refine stR hF (d_buildC (vs := [(0, .agg (vecC (M (gj))))]) 0 hM hF (build1 hF rfl) (fun w => ty_bsg_27_1 (M (gj)) w)) rfl ?_
      rintro _ w' a ⟨b2, rfl, hM, -⟩ hF
      change Mem w w' [some (b2, vecsC 1 (vAtL [(M (gj))])), e3_1] D0 at hM
      refine stR hF (d_append (k := 1) (N := gj) (m := 1) (f := (fun c => .int .u8 ((M (c / 6) (c % 6) : Nat) : Int))) (g := fun q => .int .u8 (((((M (gj))) q : Nat)) : Int)) ty_si_27 rfl (by decide) hM rfl hF rfl rfl hslj (fun q hq => ((hM.row 0 rfl).cell _).trans (vecs1_get q hq)) (fun _ _ => rfl) (by decide) (by unfold maxLen; omega) (by omega)) rfl ?_
      rintro u3 w' a ⟨e4, hM, hs5⟩ hF
      change Mem w w' [some (b2, vecsC 1 (vAtL [(M (gj))])), e4] D0 at hM
      refine st hF (g_assign hF rfl) rfl fun a hF => ?_
      refine wpList_nil ?_
      refine iN ?_
      refine tN ?_
      refine wp_region_lit ?_
      refine st hF (g_add hF rfl rfl (add_nat (gj) (1) (by omega))) rfl fun a hF => st hF (g_move hF rfl) rfl fun a hF => ?_
      refine wpList_nil ?_
      refine tN ?_
      have hM := hM.drop 0
      refine ⟨gj + 1, ⟨by omega, trivial, (u3), (e4), (Sl.snoc6 (N := gj) (F := (fun c => .int .u8 ((M (c / 6) (c % 6) : Nat) : Int))) (G := fun q => .int .u8 ((M gj q : Nat) : Int)) hs5 (fun q hq => by rw [show (gj * 6 + q) / 6 = gj by omega, show (gj * 6 + q) % 6 = q by omega])), hF.sub _ (by repeat' constructor), ?_⟩, by omega⟩
      exact hM
    ·
      obtain rfl : n = gj := by omega
      refine wp_exit ?_
      refine tX ?_
      refine tX ?_
      refine ib_same ?_
      refine tN ?_
      refine sq ?_
      refine wp_region_lit ?_
      refine st hF (g_move hF rfl) rfl fun a hF => st hF (g_assign hF rfl) rfl fun a hF => ?_
      refine wpList_nil ?_
      refine tN ?_
      refine wp_ret ?_
      refine fin1 rfl hF.defers (res_tmp hF rfl) ⟨_, rfl, hM.below, ?_⟩
      exact OwnSl.pos hM (k := 1) rfl (hslj) hn0

theorem eqIS_ok (b1 c1 b2 c2 m : Nat) (cs1 cs2 : Array Value) (f1 f2 : Nat → Nat) (w : World) (hm : m < 1000) (hb1 : Blk w b1 cs1) (hb2 : Blk w b2 cs2) (hx1 : (∀ i, i < m → cs1[0 + i * 1]? = some (.int .i64 ((f1 i : Nat) : Int)))) (hx2 : (∀ i, i < m → cs2[0 + i * 1]? = some (.int .i64 ((f2 i : Nat) : Int)))) (he : ∀ i, i < m → f1 i = f2 i) :
    CallsR Try.prog 54 #[.slice (some ⟨b1, 0, none⟩) (m) (c1), .slice (some ⟨b2, 0, none⟩) (m) (c2)] w (fun res _ => res = .bool true) := by
  refine calls_fr [.slice (some ⟨b1, 0, none⟩) (m) (c1), .slice (some ⟨b2, 0, none⟩) (m) (c2)] Try.func54 rfl Try.ntmps54 rfl fun a hF => ?_
  have hM : Mem w w [] [(b1, cs1), (b2, cs2)] := MemX.startD w 0 _ (startD2 hb1 hb2)
  change Fr 26 a [(0, .slice (some ⟨b1, 0, none⟩) (m) (c1)), (1, .slice (some ⟨b2, 0, none⟩) (m) (c2))] at hF
  refine sq ?_
  refine wp_region_lit ?_
  refine st hF (g_assign hF rfl) rfl fun a hF => ?_
  refine wpList_nil ?_
  refine tN ?_
  refine sq ?_
  refine sq ?_
  refine wp_region_lit ?_
  refine st hF (g_move hF rfl) rfl fun a hF => st hF (g_len ty_us_56 hF rfl) rfl fun a hF => st hF (g_move hF rfl) rfl fun a hF => st hF (g_len ty_us_56 hF rfl) rfl fun a hF => st hF (g_neq hF rfl rfl) rfl fun a hF => ?_
  refine wpList_nil ?_
  refine tN ?_
  refine c_cond hF rfl (fun h1 => ?_) (fun h1 => ?_)
  ·
    first | exact absurd rfl h1 | (exfalso; omega)
  ·
    refine wp_skip ?_
    refine tN ?_
    refine sq ?_
    refine sq ?_
    refine wp_region_lit ?_
    refine st hF (g_assign hF rfl) rfl fun a hF => ?_
    refine wpList_nil ?_
    refine tN ?_
    refine wp_block ?_
    change Mem w _ [] [(b1, cs1), (b2, cs2)] at hM
    refine c_loop (fun (kk : Nat) a w' => kk ≤ m ∧ (True) ∧ Fr 26 a [(0, .slice (some ⟨b1, 0, none⟩) (m) (c1)), (1, .slice (some ⟨b2, 0, none⟩) (m) (c2)), (6, .slice (some ⟨b1, 0, none⟩) (m) (c1)), (7, .int .i64 (((m : Nat) : Int))), (8, .slice (some ⟨b2, 0, none⟩) (m) (c2)), (9, .int .i64 (((m : Nat) : Int))), (10, .bool (decide ((((m : Nat) : Int) : Int) ≠ ((m : Nat) : Int)))), (5, .int .i64 (((kk : Nat) : Int)))] ∧ Mem w w' [] [(b1, cs1), (b2, cs2)]) (fun kk => m - kk) 0 ?_ ?_
    ·
      refine ⟨by omega, trivial, hF.sub _ (by repeat' constructor), ?_⟩
      exact hM
    ·
      clear hF hM
      rintro gk a w' ⟨hgk, hinv1, hF, hM⟩
      have hek := he gk
      refine sq ?_
      refine sq ?_
      refine wp_region_lit ?_
      refine st hF (g_move hF rfl) rfl fun a hF => st hF (g_move hF rfl) rfl fun a hF => st hF (g_len ty_us_56 hF rfl) rfl fun a hF => st hF (g_lss hF rfl rfl) rfl fun a hF => ?_
      refine wpList_nil ?_
      refine tN ?_
      refine c_cond hF rfl (fun h2 => ?_) (fun h2 => ?_)
      ·
        refine wp_skip ?_
        refine tN ?_
        refine sq ?_
        refine wp_block ?_
        refine sq ?_
        refine c_par 8 [] [.val (.slice (some ⟨b1, 0, none⟩) (m) (c1)), .val (.int .i64 (((gk : Nat) : Int))), .val (ptr b1 (0 + (gk) * 1)), .val (.int .i64 (((f1 (gk) : Nat) : Int))), .val (.slice (some ⟨b2, 0, none⟩) (m) (c2)), .val (.int .i64 (((gk : Nat) : Int))), .val (ptr b2 (0 + (gk) * 1)), .val (.int .i64 (((f2 (gk) : Nat) : Int)))] hmix rfl hF rfl hM ⟨fun a w gG hF hS hd => by exact par_val hS rfl (g_move hF rfl), fun a w gG hF hS hd => by exact par_val hS rfl (g_move hF rfl), fun a w gG hF hS hd => by have hF := hF.ext1 17 (hd 0 rfl rfl); have hF := hF.ext1 18 (hd 1 rfl rfl); exact par_val hS rfl (g_indexSl (i := gk) ty_sl_56 hF rfl rfl rfl (by omega)), fun a w gG hF hS hd => by have hF := hF.ext1 19 (hd 2 rfl rfl); have hM := hS.mem rfl; exact par_val hS rfl (g_load ty_on_2 hF rfl (hM.fz 0 rfl) (hx1 (gk) (by omega))), fun a w gG hF hS hd => by exact par_val hS rfl (g_move hF rfl), fun a w gG hF hS hd => by exact par_val hS rfl (g_move hF rfl), fun a w gG hF hS hd => by have hF := hF.ext1 21 (hd 4 rfl rfl); have hF := hF.ext1 22 (hd 5 rfl rfl); exact par_val hS rfl (g_indexSl (i := gk) ty_sl_56 hF rfl rfl rfl (by omega)), fun a w gG hF hS hd => by have hF := hF.ext1 23 (hd 6 rfl rfl); have hM := hS.mem rfl; exact par_val hS rfl (g_load ty_on_2 hF rfl (hM.fz 1 rfl) (hx2 (gk) (by omega))), trivial⟩ ?_
        intro a w' L hF hS hq
        have hF := hF.ext1 17 (hq 0 rfl rfl)
        have hF := hF.ext1 18 (hq 1 rfl rfl)
        have hF := hF.ext1 19 (hq 2 rfl rfl)
        have hF := hF.ext1 20 (hq 3 rfl rfl)
        have hF := hF.ext1 21 (hq 4 rfl rfl)
        have hF := hF.ext1 22 (hq 5 rfl rfl)
        have hF := hF.ext1 23 (hq 6 rfl rfl)
        have hF := hF.ext1 24 (hq 7 rfl rfl)
        have hM := hS.mem rfl
        change wpList Try.prog _ _ [_] _ _
        refine st hF (g_neq hF rfl rfl) rfl fun a hF => ?_
        refine wpList_nil ?_
        refine tN ?_
        refine c_cond hF rfl (fun h3 => ?_) (fun h3 => ?_)
        ·
          first | exact absurd rfl h3 | (exfalso; omega)
        ·
          refine wp_skip ?_
          refine iN ?_
          refine tN ?_
          refine wp_region_lit ?_
          refine st hF (g_move hF rfl) rfl fun a hF => st hF (g_add hF rfl rfl (add_nat (gk) (1) (by omega))) rfl fun a hF => st hF (g_assign hF rfl) rfl fun a hF => ?_
          refine wpList_nil ?_
          refine tN ?_
          refine ⟨gk + 1, ⟨by omega, trivial, hF.sub _ (by repeat' constructor), ?_⟩, by omega⟩
          exact hM
      ·
        obtain rfl : m = gk := by omega
        refine wp_exit ?_
        refine tX ?_
        refine tX ?_
        refine ib_same ?_
        refine tN ?_
        refine sq ?_
        refine wp_region_lit ?_
        refine st hF (g_assign hF rfl) rfl fun a hF => ?_
        refine wpList_nil ?_
        refine tN ?_
        refine wp_ret ?_
        refine fin1 rfl hF.defers (res_tmp hF rfl) ⟨_, rfl, hM.below, ?_⟩
        show _ = _
        rfl

theorem markIS_ok (b m k : Nat) (f : Nat → Nat) (w : World) (hm : m ≤ 10) (hk : k ≤ 1000) (hb : Blk w b (rowI m f)) :
    CallsX Try.prog [b] 55 #[.slice (some ⟨b, 0, none⟩) (m) (m), .int .i64 (((k : Nat) : Int))] w (fun v w' => v = .int .i64 ((k + m : Nat) : Int) ∧ Blk w' b (rowI m (fun c => k + c))) := by
  refine calls_frX [.slice (some ⟨b, 0, none⟩) (m) (m), .int .i64 (((k : Nat) : Int))] Try.func55 rfl Try.ntmps55 rfl fun a hF => ?_
  have hM : MemX [b] w w [some (b, rowI m f)] [] := MemX.startX1 0 hb
  change Fr 19 a [(0, .slice (some ⟨b, 0, none⟩) (m) (m)), (1, .int .i64 (((k : Nat) : Int)))] at hF
  refine sq ?_
  refine wp_region_lit ?_
  refine st hF (g_assign hF rfl) rfl fun a hF => ?_
  refine wpList_nil ?_
  refine tN ?_
  refine sq ?_
  refine sq ?_
  refine wp_region_lit ?_
  refine st hF (g_assign hF rfl) rfl fun a hF => ?_
  refine wpList_nil ?_
  refine tN ?_
  refine wp_block ?_
  change MemX [b] w _ [some (b, rowI m f)] [] at hM
  refine c_loop (fun (kk : Nat) a w' => kk ≤ m ∧ (True) ∧ Fr 19 a [(0, .slice (some ⟨b, 0, none⟩) (m) (m)), (4, .int .i64 (0)), (5, .int .i64 (((kk : Nat) : Int))), (1, .int .i64 (((k + kk : Nat) : Int)))] ∧ MemX [b] w w' [some (b, rowI m (fun c => if c < kk then k + c else f c))] []) (fun kk => m - kk) 0 ?_ ?_
  ·
    refine ⟨by omega, trivial, hF.sub _ (by repeat' constructor), ?_⟩
    exact hM.rowc 0 rfl (rowI_congr fun c hc => by simp)
  ·
    clear hF hM
    rintro gk a w' ⟨hgk, hinv1, hF, hM⟩
    refine sq ?_
    refine sq ?_
    refine wp_region_lit ?_
    refine st hF (g_move hF rfl) rfl fun a hF => st hF (g_move hF rfl) rfl fun a hF => st hF (g_len ty_us_56 hF rfl) rfl fun a hF => st hF (g_lss hF rfl rfl) rfl fun a hF => ?_
    refine wpList_nil ?_
    refine tN ?_
    refine c_cond hF rfl (fun h1 => ?_) (fun h1 => ?_)
    ·
      refine wp_skip ?_
      refine tN ?_
      refine sq ?_
      refine wp_block ?_
      refine sq ?_
      refine wp_region_lit ?_
      refine st hF (g_move hF rfl) rfl fun a hF => st hF (g_move hF rfl) rfl fun a hF => st hF (g_move hF rfl) rfl fun a hF => st hF (g_indexSl (i := gk) ty_sl_56 hF rfl rfl rfl (by omega)) rfl fun a hF => ?_
      refine stN hF (d_store 0 hM rfl ty_on_2 hF rfl rfl rfl (by first | omega | (simp only [fnC_size, cells_size, vecC_size, tabC_size, planeC_size, mrk_size, rowI_size] <;> omega))) ?_
      intro _ w' a hM hF
      change MemX [b] w w' [some (b, (rowI m (fun c => if c < gk then k + c else f c)).setIfInBounds (0 + (gk) * 1) (.int .i64 (((k + gk : Nat) : Int))))] [] at hM
      refine wpList_nil ?_
      refine tN ?_
      refine wp_region_lit ?_
      refine st hF (g_move hF rfl) rfl fun a hF => st hF (g_add hF rfl rfl (add_nat (k + gk) (1) (by omega))) rfl fun a hF => st hF (g_assign hF rfl) rfl fun a hF => ?_
      refine wpList_nil ?_
      refine iN ?_
      refine tN ?_
      refine wp_region_lit ?_
      refine st hF (g_move hF rfl) rfl fun a hF => st hF (g_add hF rfl rfl (add_nat (gk) (1) (by omega))) rfl fun a hF => st hF (g_assign hF rfl) rfl fun a hF => ?_
      refine wpList_nil ?_
      refine tN ?_
      refine ⟨gk + 1, ⟨by omega, trivial, hF.sub _ (by repeat' constructor), ?_⟩, by omega⟩
      refine hM.rowc 0 rfl (rowI_set (i := gk) (by omega) (by omega) (fun c hc => ?_))
      by_cases e1 : c = gk
      · simp [e1]
      · have e0 : (c < gk + 1) = (c < gk) := by apply propext; omega
        simp [e0, e1]
    ·
      obtain rfl : m = gk := by omega
      refine wp_exit ?_
      refine tX ?_
      refine tX ?_
      refine ib_same ?_
      refine tN ?_
      refine sq ?_
      refine wp_region_lit ?_
      refine st hF (g_move hF rfl) rfl fun a hF => st hF (g_assign hF rfl) rfl fun a hF => ?_
      refine wpList_nil ?_
      refine tN ?_
      refine wp_ret ?_
      refine fin1 rfl hF.defers (res_tmp hF rfl) ⟨_, rfl, hM.bel, ?_⟩
      exact ⟨rfl, (hM.rowc (cs' := rowI m (fun c => k + c)) 0 rfl (rowI_congr fun c hc => if_pos hc)).row 0 rfl⟩

theorem heldIS_ok (b m k : Nat) (w : World) (hm : m ≤ 10) (hk : k ≤ 1000) (hb : Blk w b (rowI m (fun c => k + c))) :
    CallsR Try.prog 58 #[.slice (some ⟨b, 0, none⟩) (m) (m), .int .i64 (((k : Nat) : Int))] w (fun res _ => res = .int .i64 ((k + m : Nat) : Int)) := by
  refine calls_fr [.slice (some ⟨b, 0, none⟩) (m) (m), .int .i64 (((k : Nat) : Int))] Try.func58 rfl Try.ntmps58 rfl fun a hF => ?_
  have hM : Mem w w [] [(b, rowI m (fun c => k + c))] := MemX.startD w 0 _ (startD1 hb)
  change Fr 21 a [(0, .slice (some ⟨b, 0, none⟩) (m) (m)), (1, .int .i64 (((k : Nat) : Int)))] at hF
  refine sq ?_
  refine wp_region_lit ?_
  refine st hF (g_assign hF rfl) rfl fun a hF => ?_
  refine wpList_nil ?_
  refine tN ?_
  refine sq ?_
  refine sq ?_
  refine wp_region_lit ?_
  refine st hF (g_assign hF rfl) rfl fun a hF => ?_
  refine wpList_nil ?_
  refine tN ?_
  refine wp_block ?_
  change Mem w _ [] [(b, rowI m (fun c => k + c))] at hM
  refine c_loop (fun (kk : Nat) a w' => kk ≤ m ∧ (True) ∧ Fr 21 a [(0, .slice (some ⟨b, 0, none⟩) (m) (m)), (5, .int .i64 (((kk : Nat) : Int))), (1, .int .i64 (((k + kk : Nat) : Int)))] ∧ Mem w w' [] [(b, rowI m (fun c => k + c))]) (fun kk => m - kk) 0 ?_ ?_
  ·
    refine ⟨by omega, trivial, hF.sub _ (by repeat' constructor), ?_⟩
    exact hM
  ·
    clear hF hM
    rintro gk a w' ⟨hgk, hinv1, hF, hM⟩
    refine sq ?_
    refine sq ?_
    refine wp_region_lit ?_
    refine st hF (g_move hF rfl) rfl fun a hF => st hF (g_move hF rfl) rfl fun a hF => st hF (g_len ty_us_56 hF rfl) rfl fun a hF => st hF (g_lss hF rfl rfl) rfl fun a hF => ?_
    refine wpList_nil ?_
    refine tN ?_
    refine c_cond hF rfl (fun h1 => ?_) (fun h1 => ?_)
    ·
      refine wp_skip ?_
      refine tN ?_
      refine sq ?_
      refine wp_block ?_
      refine sq ?_
      refine sq ?_
      refine wp_region_lit ?_
      refine st hF (g_move hF rfl) rfl fun a hF => st hF (g_move hF rfl) rfl fun a hF => st hF (g_indexSl (i := gk) ty_sl_56 hF rfl rfl rfl (by omega)) rfl fun a hF => st hF (g_load ty_on_2 hF rfl (hM.fz 0 rfl) (rowI_get (i := gk) (by omega) (by omega))) rfl fun a hF => st hF (g_move hF rfl) rfl fun a hF => st hF (g_neq hF rfl rfl) rfl fun a hF => ?_
      refine wpList_nil ?_
      refine tN ?_
      refine c_cond hF rfl (fun h2 => ?_) (fun h2 => ?_)
      ·
        first | exact absurd rfl h2 | (exfalso; omega)
      ·
        refine wp_skip ?_
        refine tN ?_
        refine wp_region_lit ?_
        refine st hF (g_move hF rfl) rfl fun a hF => st hF (g_add hF rfl rfl (add_nat (k + gk) (1) (by omega))) rfl fun a hF => st hF (g_assign hF rfl) rfl fun a hF => ?_
        refine wpList_nil ?_
        refine iN ?_
        refine tN ?_
        refine wp_region_lit ?_
        refine st hF (g_move hF rfl) rfl fun a hF => st hF (g_add hF rfl rfl (add_nat (gk) (1) (by omega))) rfl fun a hF => st hF (g_assign hF rfl) rfl fun a hF => ?_
        refine wpList_nil ?_
        refine tN ?_
        refine ⟨gk + 1, ⟨by omega, trivial, hF.sub _ (by repeat' constructor), ?_⟩, by omega⟩
        exact hM
    ·
      obtain rfl : m = gk := by omega
      refine wp_exit ?_
      refine tX ?_
      refine tX ?_
      refine ib_same ?_
      refine tN ?_
      refine sq ?_
      refine wp_region_lit ?_
      refine st hF (g_move hF rfl) rfl fun a hF => st hF (g_assign hF rfl) rfl fun a hF => ?_
      refine wpList_nil ?_
      refine tN ?_
      refine wp_ret ?_
      refine fin1 rfl hF.defers (res_tmp hF rfl) ⟨_, rfl, hM.below, ?_⟩
      show _ = _
      rfl

theorem eqISS_ok (n bA cA bB cB : Nat) (csA csB : Array Value) (D0 : Froz) (βA κA βB κB : Nat → Nat) (CA CB : Nat → Array Value) (fA fB : Nat → Nat → Nat) (w : World) (hn : n ≤ 10) (hD0 : ∀ b cs, (b, cs) ∈ D0 → Blk w b cs) (hRA : RowsD D0 n n βA κA CA (fun i c => .int .i64 ((fA i c : Nat) : Int))) (hbA : (bA, csA) ∈ D0) (hgA : ∀ i, i < n → csA[0 + i * 1]? = some (.slice (some ⟨βA i, 0, none⟩) n (κA i))) (hRB : RowsD D0 n n βB κB CB (fun i c => .int .i64 ((fB i c : Nat) : Int))) (hbB : (bB, csB) ∈ D0) (hgB : ∀ i, i < n → csB[0 + i * 1]? = some (.slice (some ⟨βB i, 0, none⟩) n (κB i))) (he : ∀ i, i < n → ∀ c, c < n → fA i c = fB i c) :
    CallsR Try.prog 23 #[.slice (some ⟨bA, 0, none⟩) (n) (cA), .slice (some ⟨bB, 0, none⟩) (n) (cB)] w (fun res _ => res = .bool true) := by
  refine calls_fr [.slice (some ⟨bA, 0, none⟩) (n) (cA), .slice (some ⟨bB, 0, none⟩) (n) (cB)] Try.func23 rfl Try.ntmps23 rfl fun a hF => ?_
  have hM : Mem w w [] D0 := MemX.startD w 0 _ hD0
  change Fr 27 a [(0, .slice (some ⟨bA, 0, none⟩) (n) (cA)), (1, .slice (some ⟨bB, 0, none⟩) (n) (cB))] at hF
  refine sq ?_
  refine wp_region_lit ?_
  refine st hF (g_assign hF rfl) rfl fun a hF => ?_
  refine wpList_nil ?_
  refine tN ?_
  refine sq ?_
  refine sq ?_
  refine wp_region_lit ?_
  refine st hF (g_move hF rfl) rfl fun a hF => st hF (g_len ty_us_37 hF rfl) rfl fun a hF => st hF (g_move hF rfl) rfl fun a hF => st hF (g_len ty_us_37 hF rfl) rfl fun a hF => st hF (g_neq hF rfl rfl) rfl fun a hF => ?_
  refine wpList_nil ?_
  refine tN ?_
  refine c_cond hF rfl (fun h1 => ?_) (fun h1 => ?_)
  ·
    first | exact absurd rfl h1 | (exfalso; omega)
  ·
    refine wp_skip ?_
    refine tN ?_
    refine sq ?_
    refine sq ?_
    refine wp_region_lit ?_
    refine st hF (g_assign hF rfl) rfl fun a hF => ?_
    refine wpList_nil ?_
    refine tN ?_
    refine wp_block ?_
    change Mem w _ [] D0 at hM
    refine c_loop (fun (kk : Nat) a w' => kk ≤ n ∧ (True) ∧ Fr 27 a [(0, .slice (some ⟨bA, 0, none⟩) (n) (cA)), (1, .slice (some ⟨bB, 0, none⟩) (n) (cB)), (6, .slice (some ⟨bA, 0, none⟩) (n) (cA)), (7, .int .i64 (((n : Nat) : Int))), (8, .slice (some ⟨bB, 0, none⟩) (n) (cB)), (9, .int .i64 (((n : Nat) : Int))), (10, .bool (decide ((((n : Nat) : Int) : Int) ≠ ((n : Nat) : Int)))), (5, .int .i64 (((kk : Nat) : Int)))] ∧ Mem w w' [] D0) (fun kk => n - kk) 0 ?_ ?_
    ·
      refine ⟨by omega, trivial, hF.sub _ (by repeat' constructor), ?_⟩
      exact hM
    ·
      clear hF hM
      rintro gk a w' ⟨hgk, hinv1, hF, hM⟩
      refine sq ?_
      refine sq ?_
      refine wp_region_lit ?_
      refine st hF (g_move hF rfl) rfl fun a hF => st hF (g_move hF rfl) rfl fun a hF => st hF (g_len ty_us_37 hF rfl) rfl fun a hF => st hF (g_lss hF rfl rfl) rfl fun a hF => ?_
      refine wpList_nil ?_
      refine tN ?_
      refine c_cond hF rfl (fun h2 => ?_) (fun h2 => ?_)
      ·
        refine wp_skip ?_
        refine tN ?_
        refine sq ?_
        refine wp_block ?_
        refine sq ?_
        refine c_par 8 [] [.val (.slice (some ⟨bA, 0, none⟩) (n) (cA)), .val (.int .i64 (((gk : Nat) : Int))), .val (ptr bA (0 + (gk) * 1)), .val (.slice (some ⟨βA (gk), 0, none⟩) (n) (κA (gk))), .val (.slice (some ⟨bB, 0, none⟩) (n) (cB)), .val (.int .i64 (((gk : Nat) : Int))), .val (ptr bB (0 + (gk) * 1)), .val (.slice (some ⟨βB (gk), 0, none⟩) (n) (κB (gk)))] hmix rfl hF rfl hM ⟨fun a w gG hF hS hd => by exact par_val hS rfl (g_move hF rfl), fun a w gG hF hS hd => by exact par_val hS rfl (g_move hF rfl), fun a w gG hF hS hd => by have hF := hF.ext1 17 (hd 0 rfl rfl); have hF := hF.ext1 18 (hd 1 rfl rfl); exact par_val hS rfl (g_indexSl (i := gk) ty_sl_37 hF rfl rfl rfl (by omega)), fun a w gG hF hS hd => by have hF := hF.ext1 19 (hd 2 rfl rfl); have hM := hS.mem rfl; exact par_val hS rfl (g_load ty_on_56 hF rfl (hM.fzm hbA) (hgA (gk) (by omega))), fun a w gG hF hS hd => by exact par_val hS rfl (g_move hF rfl), fun a w gG hF hS hd => by exact par_val hS rfl (g_move hF rfl), fun a w gG hF hS hd => by have hF := hF.ext1 21 (hd 4 rfl rfl); have hF := hF.ext1 22 (hd 5 rfl rfl); exact par_val hS rfl (g_indexSl (i := gk) ty_sl_37 hF rfl rfl rfl (by omega)), fun a w gG hF hS hd => by have hF := hF.ext1 23 (hd 6 rfl rfl); have hM := hS.mem rfl; exact par_val hS rfl (g_load ty_on_56 hF rfl (hM.fzm hbB) (hgB (gk) (by omega))), trivial⟩ ?_
        intro a w' L hF hS hq
        have hF := hF.ext1 17 (hq 0 rfl rfl)
        have hF := hF.ext1 18 (hq 1 rfl rfl)
        have hF := hF.ext1 19 (hq 2 rfl rfl)
        have hF := hF.ext1 20 (hq 3 rfl rfl)
        have hF := hF.ext1 21 (hq 4 rfl rfl)
        have hF := hF.ext1 22 (hq 5 rfl rfl)
        have hF := hF.ext1 23 (hq 6 rfl rfl)
        have hF := hF.ext1 24 (hq 7 rfl rfl)
        have hM := hS.mem rfl
        change wpList Try.prog _ _ [_, _] _ _
        refine stR hF (d_call Try.call54 hF (.cons rfl (.cons rfl .nil)) (eqIS_ok (βA gk) (κA gk) (βB gk) (κB gk) n (CA gk) (CB gk) (fA gk) (fB gk) _ (by omega) (hM.fzm (hRA.mem gk (by omega))) (hM.fzm (hRB.mem gk (by omega))) (hRA.get (by omega)) (hRB.get (by omega)) (he gk (by omega)))) rfl ?_
        rintro _ w' a ⟨hx, rfl⟩ hF
        have hM := hM.ext hx
        refine st hF (g_not hF rfl) rfl fun a hF => ?_
        refine wpList_nil ?_
        refine tN ?_
        refine c_Fl hF rfl ?_
        refine wp_skip ?_
        refine iN ?_
        refine tN ?_
        refine wp_region_lit ?_
        refine st hF (g_move hF rfl) rfl fun a hF => st hF (g_add hF rfl rfl (add_nat (gk) (1) (by omega))) rfl fun a hF => st hF (g_assign hF rfl) rfl fun a hF => ?_
        refine wpList_nil ?_
        refine tN ?_
        refine ⟨gk + 1, ⟨by omega, trivial, hF.sub _ (by repeat' constructor), ?_⟩, by omega⟩
        exact hM
      ·
        obtain rfl : n = gk := by omega
        refine wp_exit ?_
        refine tX ?_
        refine tX ?_
        refine ib_same ?_
        refine tN ?_
        refine sq ?_
        refine wp_region_lit ?_
        refine st hF (g_assign hF rfl) rfl fun a hF => ?_
        refine wpList_nil ?_
        refine tN ?_
        refine wp_ret ?_
        refine fin1 rfl hF.defers (res_tmp hF rfl) ⟨_, rfl, hM.below, ?_⟩
        show _ = _
        rfl

theorem eqISS_0  (w : World)  :
    CallsR Try.prog 23 #[.slice none 0 0, .slice none 0 0] w (fun res _ => res = .bool true) := by
  refine calls_fr [.slice none 0 0, .slice none 0 0] Try.func23 rfl Try.ntmps23 rfl fun a hF => ?_
  have hM : Mem w w [] [] := MemX.start w 0
  change Fr 27 a [(0, .slice none 0 0), (1, .slice none 0 0)] at hF
  refine sq ?_
  refine wp_region_lit ?_
  refine st hF (g_assign hF rfl) rfl fun a hF => ?_
  refine wpList_nil ?_
  refine tN ?_
  refine sq ?_
  refine sq ?_
  refine wp_region_lit ?_
  refine st hF (g_move hF rfl) rfl fun a hF => st hF (g_len0 ty_us_37 hF rfl) rfl fun a hF => st hF (g_move hF rfl) rfl fun a hF => st hF (g_len0 ty_us_37 hF rfl) rfl fun a hF => st hF (g_neq hF rfl rfl) rfl fun a hF => ?_
  refine wpList_nil ?_
  refine tN ?_
  refine c_kF hF rfl (by decide) ?_
  refine wp_skip ?_
  refine tN ?_
  refine sq ?_
  refine sq ?_
  refine wp_region_lit ?_
  refine st hF (g_assign hF rfl) rfl fun a hF => ?_
  refine wpList_nil ?_
  refine tN ?_
  refine wp_block ?_
  change Mem w _ [] [] at hM
  refine c_loop (fun (kk : Nat) a w' => kk ≤ 0 ∧ (True) ∧ Fr 27 a [(0, .slice none 0 0), (1, .slice none 0 0), (6, .slice none 0 0), (7, .int .i64 (0)), (8, .slice none 0 0), (9, .int .i64 (0)), (10, .bool (decide ((0 : Int) ≠ 0))), (5, .int .i64 (((kk : Nat) : Int)))] ∧ Mem w w' [] []) (fun kk => 0 - kk) 0 ?_ ?_
  ·
    refine ⟨by omega, trivial, hF.sub _ (by repeat' constructor), ?_⟩
    exact hM
  ·
    clear hF hM
    rintro gk a w' ⟨hgk, hinv1, hF, hM⟩
    refine sq ?_
    refine sq ?_
    refine wp_region_lit ?_
    refine st hF (g_move hF rfl) rfl fun a hF => st hF (g_move hF rfl) rfl fun a hF => st hF (g_len0 ty_us_37 hF rfl) rfl fun a hF => st hF (g_lss hF rfl rfl) rfl fun a hF => ?_
    refine wpList_nil ?_
    refine tN ?_
    refine c_cond hF rfl (fun h2 => ?_) (fun h2 => ?_)
    ·
      first | (exfalso; omega) | contradiction
    ·
      obtain rfl : 0 = gk := by omega
      refine wp_exit ?_
      refine tX ?_
      refine tX ?_
      refine ib_same ?_
      refine tN ?_
      refine sq ?_
      refine wp_region_lit ?_
      refine st hF (g_assign hF rfl) rfl fun a hF => ?_
      refine wpList_nil ?_
      refine tN ?_
      refine wp_ret ?_
      refine fin1 rfl hF.defers (res_tmp hF rfl) ⟨_, rfl, hM.below, ?_⟩
      show _ = _
      rfl

theorem markISS_ok (n b0 k : Nat) (cs0 : Array Value) (D0 : Froz) (β : Nat → Nat) (M : Nat → Nat → Nat) (w : World) (hn : n ≤ 10) (hk : k ≤ 100) (hD0 : ∀ b cs, (b, cs) ∈ D0 → Blk w b cs) (hC0 : RowsC D0 n β (fun i => rowI n (M i))) (hb0 : (b0, cs0) ∈ D0) (hg0 : ∀ i, i < n → cs0[0 + i * 1]? = some (.slice (some ⟨β i, 0, none⟩) n n)) (hne : ∀ i, i < n → β i ≠ b0) :
    CallsX Try.prog ((List.range n).map β) 24 #[.slice (some ⟨b0, 0, none⟩) (n) (n), .int .i64 (((k : Nat) : Int))] w (fun v w' => v = .int .i64 ((k + n * n : Nat) : Int) ∧ ∀ i, i < n → Blk w' (β i) (rowI n (fun c => k + i * n + c))) := by
  refine calls_frX [.slice (some ⟨b0, 0, none⟩) (n) (n), .int .i64 (((k : Nat) : Int))] Try.func24 rfl Try.ntmps24 rfl fun a hF => ?_
  have hM : MemX ((List.range n).map β) w w [] D0 := MemX.startXA _ 0 hD0
  change Fr 19 a [(0, .slice (some ⟨b0, 0, none⟩) (n) (n)), (1, .int .i64 (((k : Nat) : Int)))] at hF
  refine sq ?_
  refine wp_region_lit ?_
  refine st hF (g_assign hF rfl) rfl fun a hF => ?_
  refine wpList_nil ?_
  refine tN ?_
  refine sq ?_
  refine sq ?_
  refine wp_region_lit ?_
  refine st hF (g_assign hF rfl) rfl fun a hF => ?_
  refine wpList_nil ?_
  refine tN ?_
  refine wp_block ?_
  change MemX ((List.range n).map β) w _ [] D0 at hM
  rw [show k = k + 0 * n from by omega] at hF
  refine c_loop (fun (kk : Nat) a w' => kk ≤ n ∧ ∃ (D1 : Froz), (RowsC D1 n β (fun i => if i < kk then rowI n (fun c => k + i * n + c) else rowI n (M i)) ∧ (b0, cs0) ∈ D1) ∧ Fr 19 a [(0, .slice (some ⟨b0, 0, none⟩) (n) (n)), (4, .int .i64 (0)), (5, .int .i64 (((kk : Nat) : Int))), (1, .int .i64 (((k + kk * n : Nat) : Int)))] ∧ MemX ((List.range n).map β) w w' [] D1) (fun kk => n - kk) 0 ?_ ?_
  ·
    refine ⟨by omega, D0, ⟨hC0.congr (fun i hi => (if_neg (by omega)).symm), hb0⟩, hF.sub _ (by repeat' constructor), ?_⟩
    exact hM
  ·
    clear hF hM
    rintro gk a w' ⟨hgk, D1, ⟨hC, hbm⟩, hF, hM⟩
    refine sq ?_
    refine sq ?_
    refine wp_region_lit ?_
    refine st hF (g_move hF rfl) rfl fun a hF => st hF (g_move hF rfl) rfl fun a hF => st hF (g_len ty_us_37 hF rfl) rfl fun a hF => st hF (g_lss hF rfl rfl) rfl fun a hF => ?_
    refine wpList_nil ?_
    refine tN ?_
    refine c_cond hF rfl (fun h1 => ?_) (fun h1 => ?_)
    ·
      refine wp_skip ?_
      refine tN ?_
      refine sq ?_
      refine wp_block ?_
      refine wp_region_lit ?_
      refine st hF (g_move hF rfl) rfl fun a hF => st hF (g_move hF rfl) rfl fun a hF => st hF (g_indexSl (i := gk) ty_sl_37 hF rfl rfl rfl (by omega)) rfl fun a hF => st hF (g_load ty_on_56 hF rfl (hM.fzm hbm) (hg0 (gk) (by omega))) rfl fun a hF => st hF (g_move hF rfl) rfl fun a hF => ?_
      have hnk : gk * n ≤ n * n := Nat.mul_le_mul_right _ (by omega)
      have hnn : n * n ≤ 10 * 10 := Nat.mul_le_mul hn hn
      refine stR hF (d_callX Try.call55 hF (.cons rfl (.cons rfl .nil)) (markIS_ok (β gk) n (k + gk * n) (M gk) _ (by omega) (by omega) (by have := hM.fzm (hC.mem gk (by omega)); rwa [if_neg (by omega)] at this))) rfl ?_
      rintro _ w' a ⟨hx, rfl, hbk⟩ hF
      have hM := hM.updC (hC.mem gk (by omega)) (.inr (List.mem_map.2 ⟨gk, by simp; omega, rfl⟩)) hx hbk
      change MemX ((List.range n).map β) w w' [] (updD D1 (β gk) (rowI n (fun c => k + gk * n + c))) at hM
      refine st hF (g_assign hF rfl) rfl fun a hF => ?_
      refine wpList_nil ?_
      refine iN ?_
      refine tN ?_
      refine wp_region_lit ?_
      refine st hF (g_move hF rfl) rfl fun a hF => st hF (g_add hF rfl rfl (add_nat (gk) (1) (by omega))) rfl fun a hF => st hF (g_assign hF rfl) rfl fun a hF => ?_
      refine wpList_nil ?_
      refine tN ?_
      rw [show k + gk * n + n = k + (gk + 1) * n from by rw [Nat.succ_mul]; omega] at hF
      refine ⟨gk + 1, ⟨by omega, (updD D1 (β gk) (rowI n (fun c => k + gk * n + c))), ⟨(hC.setRow (i := gk) (by omega) _).congr (fun i hi => by
            unfold upE
            by_cases e : i = gk
            · rw [if_pos e, if_pos (by omega), e]
            · rw [if_neg e]; show (if i < gk then rowI n (fun c => k + i * n + c) else rowI n (M i)) = _
              by_cases e2 : i < gk
              · rw [if_pos e2, if_pos (by omega)]
              · rw [if_neg e2, if_neg (by omega)]), mem_updD.2 (.inr ⟨fun e => hne gk (by omega) e.symm, hbm⟩)⟩, hF.sub _ (by repeat' constructor), ?_⟩, by omega⟩
      exact hM
    ·
      obtain rfl : n = gk := by omega
      refine wp_exit ?_
      refine tX ?_
      refine tX ?_
      refine ib_same ?_
      refine tN ?_
      refine sq ?_
      refine wp_region_lit ?_
      refine st hF (g_move hF rfl) rfl fun a hF => st hF (g_assign hF rfl) rfl fun a hF => ?_
      refine wpList_nil ?_
      refine tN ?_
      refine wp_ret ?_
      refine fin1 rfl hF.defers (res_tmp hF rfl) ⟨_, rfl, hM.bel, ?_⟩
      exact ⟨rfl, fun i hi => by have := hM.fzm (hC.mem i hi); rwa [if_pos hi] at this⟩

theorem markISS_0 (k : Nat) (w : World) (hk : k ≤ 100) :
    CallsR Try.prog 24 #[.slice none 0 0, .int .i64 (((k : Nat) : Int))] w (fun res _ => res = .int .i64 ((k : Nat) : Int)) := by
  refine calls_fr [.slice none 0 0, .int .i64 (((k : Nat) : Int))] Try.func24 rfl Try.ntmps24 rfl fun a hF => ?_
  have hM : Mem w w [] [] := MemX.start w 0
  change Fr 19 a [(0, .slice none 0 0), (1, .int .i64 (((k : Nat) : Int)))] at hF
  refine sq ?_
  refine wp_region_lit ?_
  refine st hF (g_assign hF rfl) rfl fun a hF => ?_
  refine wpList_nil ?_
  refine tN ?_
  refine sq ?_
  refine sq ?_
  refine wp_region_lit ?_
  refine st hF (g_assign hF rfl) rfl fun a hF => ?_
  refine wpList_nil ?_
  refine tN ?_
  refine wp_block ?_
  change Mem w _ [] [] at hM
  refine c_loop (fun (kk : Nat) a w' => kk ≤ 0 ∧ (True) ∧ Fr 19 a [(0, .slice none 0 0), (4, .int .i64 (0)), (5, .int .i64 (((kk : Nat) : Int))), (1, .int .i64 (((k : Nat) : Int)))] ∧ Mem w w' [] []) (fun kk => 0 - kk) 0 ?_ ?_
  ·
    refine ⟨by omega, trivial, hF.sub _ (by repeat' constructor), ?_⟩
    exact hM
  ·
    clear hF hM
    rintro gk a w' ⟨hgk, hinv1, hF, hM⟩
    refine sq ?_
    refine sq ?_
    refine wp_region_lit ?_
    refine st hF (g_move hF rfl) rfl fun a hF => st hF (g_move hF rfl) rfl fun a hF => st hF (g_len0 ty_us_37 hF rfl) rfl fun a hF => st hF (g_lss hF rfl rfl) rfl fun a hF => ?_
    refine wpList_nil ?_
    refine tN ?_
    refine c_cond hF rfl (fun h1 => ?_) (fun h1 => ?_)
    ·
      exfalso; omega
    ·
      obtain rfl : 0 = gk := by omega
      refine wp_exit ?_
      refine tX ?_
      refine tX ?_
      refine ib_same ?_
      refine tN ?_
      refine sq ?_
      refine wp_region_lit ?_
      refine st hF (g_move hF rfl) rfl fun a hF => st hF (g_assign hF rfl) rfl fun a hF => ?_
      refine wpList_nil ?_
      refine tN ?_
      refine wp_ret ?_
      refine fin1 rfl hF.defers (res_tmp hF rfl) ⟨_, rfl, hM.below, ?_⟩
      show _ = _
      rfl

theorem heldISS_ok (n b0 k : Nat) (cs0 : Array Value) (D0 : Froz) (β : Nat → Nat) (w : World) (hn : n ≤ 10) (hk : k ≤ 100) (hD0 : ∀ b cs, (b, cs) ∈ D0 → Blk w b cs) (hC0 : RowsC D0 n β (fun i => rowI n (fun c => k + i * n + c))) (hb0 : (b0, cs0) ∈ D0) (hg0 : ∀ i, i < n → cs0[0 + i * 1]? = some (.slice (some ⟨β i, 0, none⟩) n n)) :
    CallsR Try.prog 25 #[.slice (some ⟨b0, 0, none⟩) (n) (n), .int .i64 (((k : Nat) : Int))] w (fun res _ => res = .int .i64 ((k + n * n : Nat) : Int)) := by
  refine calls_fr [.slice (some ⟨b0, 0, none⟩) (n) (n), .int .i64 (((k : Nat) : Int))] Try.func25 rfl Try.ntmps25 rfl fun a hF => ?_
  have hM : Mem w w [] D0 := MemX.startD w 0 _ hD0
  change Fr 21 a [(0, .slice (some ⟨b0, 0, none⟩) (n) (n)), (1, .int .i64 (((k : Nat) : Int)))] at hF
  refine sq ?_
  refine wp_region_lit ?_
  refine st hF (g_assign hF rfl) rfl fun a hF => ?_
  refine wpList_nil ?_
  refine tN ?_
  refine sq ?_
  refine sq ?_
  refine wp_region_lit ?_
  refine st hF (g_assign hF rfl) rfl fun a hF => ?_
  refine wpList_nil ?_
  refine tN ?_
  refine wp_block ?_
  change Mem w _ [] D0 at hM
  rw [show k = k + 0 * n from by omega] at hF
  refine c_loop (fun (kk : Nat) a w' => kk ≤ n ∧ (True) ∧ Fr 21 a [(0, .slice (some ⟨b0, 0, none⟩) (n) (n)), (5, .int .i64 (((kk : Nat) : Int))), (1, .int .i64 (((k + kk * n : Nat) : Int)))] ∧ Mem w w' [] D0) (fun kk => n - kk) 0 ?_ ?_
  ·
    refine ⟨by omega, trivial, hF.sub _ (by repeat' constructor), ?_⟩
    exact hM
  ·
    clear hF hM
    rintro gk a w' ⟨hgk, hinv1, hF, hM⟩
    have hnk : gk * n ≤ n * n := Nat.mul_le_mul_right _ (by omega)
    have hnn : n * n ≤ 10 * 10 := Nat.mul_le_mul hn hn
    refine sq ?_
    refine sq ?_
    refine wp_region_lit ?_
    refine st hF (g_move hF rfl) rfl fun a hF => st hF (g_move hF rfl) rfl fun a hF => st hF (g_len ty_us_37 hF rfl) rfl fun a hF => st hF (g_lss hF rfl rfl) rfl fun a hF => ?_
    refine wpList_nil ?_
    refine tN ?_
    refine c_cond hF rfl (fun h1 => ?_) (fun h1 => ?_)
    ·
      refine wp_skip ?_
      refine tN ?_
      refine sq ?_
      refine wp_block ?_
      refine sq ?_
      refine wp_region_lit ?_
      refine st hF (g_move hF rfl) rfl fun a hF => st hF (g_move hF rfl) rfl fun a hF => st hF (g_indexSl (i := gk) ty_sl_37 hF rfl rfl rfl (by omega)) rfl fun a hF => st hF (g_load ty_on_56 hF rfl (hM.fzm hb0) (hg0 (gk) (by omega))) rfl fun a hF => st hF (g_move hF rfl) rfl fun a hF => ?_
      refine stR hF (d_call Try.call58 hF (.cons rfl (.cons rfl .nil)) (heldIS_ok (β gk) n (k + gk * n) _ (by omega) (by have := Nat.mul_le_mul_right n (show gk ≤ n by omega); have := Nat.mul_le_mul hn hn; omega) (hM.fzm (hC0.mem gk (by omega))))) rfl ?_
      rintro _ w' a ⟨hx, rfl⟩ hF
      have hM := hM.ext hx
      refine st hF (g_assign hF rfl) rfl fun a hF => ?_
      refine wpList_nil ?_
      refine tN ?_
      refine sq ?_
      refine wp_region_lit ?_
      refine st hF (g_move hF rfl) rfl fun a hF => st hF (g_lss hF rfl rfl) rfl fun a hF => ?_
      refine wpList_nil ?_
      refine tN ?_
      refine c_cond hF rfl (fun h2 => ?_) (fun h2 => ?_)
      ·
        exfalso; omega
      ·
        refine wp_skip ?_
        refine iN ?_
        refine tN ?_
        refine wp_region_lit ?_
        refine st hF (g_move hF rfl) rfl fun a hF => st hF (g_add hF rfl rfl (add_nat (gk) (1) (by omega))) rfl fun a hF => st hF (g_assign hF rfl) rfl fun a hF => ?_
        refine wpList_nil ?_
        refine tN ?_
        rw [show k + gk * n + n = k + (gk + 1) * n from by rw [Nat.succ_mul]; omega] at hF
        refine ⟨gk + 1, ⟨by omega, trivial, hF.sub _ (by repeat' constructor), ?_⟩, by omega⟩
        exact hM
    ·
      obtain rfl : n = gk := by omega
      refine wp_exit ?_
      refine tX ?_
      refine tX ?_
      refine ib_same ?_
      refine tN ?_
      refine sq ?_
      refine wp_region_lit ?_
      refine st hF (g_move hF rfl) rfl fun a hF => st hF (g_assign hF rfl) rfl fun a hF => ?_
      refine wpList_nil ?_
      refine tN ?_
      refine wp_ret ?_
      refine fin1 rfl hF.defers (res_tmp hF rfl) ⟨_, rfl, hM.below, ?_⟩
      show _ = _
      rfl

theorem heldISS_0 (k : Nat) (w : World) (hk : k ≤ 100) :
    CallsR Try.prog 25 #[.slice none 0 0, .int .i64 (((k : Nat) : Int))] w (fun res _ => res = .int .i64 ((k : Nat) : Int)) := by
  refine calls_fr [.slice none 0 0, .int .i64 (((k : Nat) : Int))] Try.func25 rfl Try.ntmps25 rfl fun a hF => ?_
  have hM : Mem w w [] [] := MemX.start w 0
  change Fr 21 a [(0, .slice none 0 0), (1, .int .i64 (((k : Nat) : Int)))] at hF
  refine sq ?_
  refine wp_region_lit ?_
  refine st hF (g_assign hF rfl) rfl fun a hF => ?_
  refine wpList_nil ?_
  refine tN ?_
  refine sq ?_
  refine sq ?_
  refine wp_region_lit ?_
  refine st hF (g_assign hF rfl) rfl fun a hF => ?_
  refine wpList_nil ?_
  refine tN ?_
  refine wp_block ?_
  change Mem w _ [] [] at hM
  refine c_loop (fun (kk : Nat) a w' => kk ≤ 0 ∧ (True) ∧ Fr 21 a [(0, .slice none 0 0), (5, .int .i64 (((kk : Nat) : Int))), (1, .int .i64 (((k : Nat) : Int)))] ∧ Mem w w' [] []) (fun kk => 0 - kk) 0 ?_ ?_
  ·
    refine ⟨by omega, trivial, hF.sub _ (by repeat' constructor), ?_⟩
    exact hM
  ·
    clear hF hM
    rintro gk a w' ⟨hgk, hinv1, hF, hM⟩
    refine sq ?_
    refine sq ?_
    refine wp_region_lit ?_
    refine st hF (g_move hF rfl) rfl fun a hF => st hF (g_move hF rfl) rfl fun a hF => st hF (g_len0 ty_us_37 hF rfl) rfl fun a hF => st hF (g_lss hF rfl rfl) rfl fun a hF => ?_
    refine wpList_nil ?_
    refine tN ?_
    refine c_cond hF rfl (fun h1 => ?_) (fun h1 => ?_)
    ·
      exfalso; omega
    ·
      obtain rfl : 0 = gk := by omega
      refine wp_exit ?_
      refine tX ?_
      refine tX ?_
      refine ib_same ?_
      refine tN ?_
      refine sq ?_
      refine wp_region_lit ?_
      refine st hF (g_move hF rfl) rfl fun a hF => st hF (g_assign hF rfl) rfl fun a hF => ?_
      refine wpList_nil ?_
      refine tN ?_
      refine wp_ret ?_
      refine fin1 rfl hF.defers (res_tmp hF rfl) ⟨_, rfl, hM.below, ?_⟩
      show _ = _
      rfl

end Go.Proofs.Ytggdbbjmdbkpcaa
