/- What functions of the program return, as walks over their operations; no statement of the seat is proved here. -/
import Derived.Test.YtbeodbfbfbefkaaDoorZ3
set_option linter.unusedVariables false
set_option linter.unusedSimpArgs false
namespace Go.Proofs.YtbeodbfbfbefkaaDoor
open Go Go.RowKit Go.Sw Go.Ech
open Classical
def gz (A : List (Nat → Nat)) : Nat → Nat → Nat := fun i => A.getD i zv
theorem sl_app {u : Value} {e : Option (Nat × Array Value)} {L : List (Nat → Nat)} {x : Nat → Nat} {G : Nat → Value} (h : Sl 6 u e (L.length + 1) (fun i => if i < L.length * 6 then (fun c => Value.int .u8 ((gz L (c / 6) (c % 6) : Nat) : Int)) i else G (i - L.length * 6))) (hG : ∀ q, q < 6 → G q = .int .u8 ((x q : Nat) : Int)) : Sl 6 u e (L ++ [x]).length (fun c => .int .u8 ((gz (L ++ [x]) (c / 6) (c % 6) : Nat) : Int)) := by
  rw [List.length_append]
  refine Sl.congr h fun i hi => ?_
  have hi : i < (L.length + 1) * 6 := hi
  by_cases h1 : i < L.length * 6
  · rw [if_pos h1]
    have h2 : i / 6 < L.length := by omega
    unfold gz
    show Value.int .u8 ((L.getD (i / 6) zv (i % 6) : Nat) : Int) = _
    rw [List.getD_eq_getElem?_getD, List.getD_eq_getElem?_getD, List.getElem?_append_left h2]
  · rw [if_neg h1, hG _ (by omega)]
    have h2 : i / 6 = L.length := by omega
    have h3 : i % 6 = i - L.length * 6 := by omega
    unfold gz
    rw [h2, h3, List.getD_eq_getElem?_getD, List.getElem?_append_right (Nat.le_refl _), Nat.sub_self]
    rfl

theorem splitBy_ok (p n : Nat) (T : Nat → Nat → Nat → Nat) (f : Nat → Nat) (A : List (Nat → Nat)) (bA cA : Nat) (csA : Array Value) (v : Nat → Nat) (w : World) (hp : primeN p) (hn0 : 0 < n) (hn : n ≤ 6) (hTp : ∀ i j k, T i j k < p) (hT0 : ∀ i j k, n ≤ k → T i j k = 0) (hf : ∀ i, f i ≤ 255) (uu : Nat → Nat) (huu : UnitI p n T uu) (haI : AssI p n T) (hkI : ComI n T) (hsA : SlAt 6 (.slice (some ⟨bA, 0, none⟩) A.length cA) (some (bA, csA)) A.length bA cA csA (fun c => .int .u8 (((gz A) (c / 6) (c % 6) : Nat) : Int))) (hbA : Blk w bA csA) (hInv : InvA p n T A) (hv : ∀ i, v i ≤ 255) (hpos4 : 0 < (spL p n T uu v A).length) :
    CallsR Tryd.prog 48 #[.agg (algC (p : Int) (n : Int) T f), .slice (some ⟨bA, 0, none⟩) (A.length) (cA), .agg (vecC v)] w (fun u w' => OwnSl 6 w (spL p n T uu v A).length (fun c => .int .u8 (((gz (spL p n T uu v A)) (c / 6) (c % 6) : Nat) : Int)) u w') := by
  refine calls_fr [.agg (algC (p : Int) (n : Int) T f), .slice (some ⟨bA, 0, none⟩) (A.length) (cA), .agg (vecC v)] Tryd.func48 rfl Tryd.ntmps48 rfl fun a hF => ?_
  have hM : Mem w w [none, none, none, none, none, none, none, none] [(bA, csA)] := MemX.startD w 8 _ (startD1 hbA)
  change Fr 58 a [(0, .agg (algC (p : Int) (n : Int) T f)), (1, .slice (some ⟨bA, 0, none⟩) (A.length) (cA)), (2, .agg (vecC v))] at hF
  have hp2 := hp.two
  have hp13 := hp.le
  have hT : ∀ i j k, T i j k ≤ 255 := fun i j k => by have := hTp i j k; omega
  have hp2 := hp.two
  have hp13 := hp.le
  have hi1 : (bA, csA) ∈ [(bA, csA)] := List.mem_cons_self ..
  have hAl := hInv.count hp hn hkI
  refine sq (wp_region_lit ?_)
  refine stR hF (d_box 0 hM hF rfl) rfl ?_
  rintro _ w' a ⟨b1, rfl, hM, -⟩ hF
  change Mem w w' [some (b1, algC (p : Int) (n : Int) T f), none, none, none, none, none, none, none] [(bA, csA)] at hM
  refine stR hF (d_box 1 hM hF rfl) rfl ?_
  rintro _ w' a ⟨b2, rfl, hM, -⟩ hF
  change Mem w w' [some (b1, algC (p : Int) (n : Int) T f), some (b2, vecC v), none, none, none, none, none, none] [(bA, csA)] at hM
  refine st hF (g_assign hF rfl) rfl fun a hF => ?_
  refine wpList_nil (tN (sq (wp_region_lit ?_)))
  refine st hF (g_assign hF rfl) rfl fun a hF => ?_
  refine wpList_nil (tN (sq (sq (wp_region_lit ?_))))
  refine st hF (g_move hF rfl) rfl fun a hF => st hF (g_len ty_us_27 hF rfl) rfl fun a hF => st hF (g_move hF rfl) rfl fun a hF => ?_
  refine wpList_nil (tN (wp_block ?_))
  change Mem w _ [some (b1, algC (p : Int) (n : Int) T f), some (b2, vecC v), none, none, none, none, none, none] [(bA, csA)] at hM
  refine c_loop (fun (kk : Nat) a w' => kk ≤ A.length ∧ (True) ∧ ∃ (u7_1 : Value) (e7_1 : Option (Nat × Array Value)), Sl 6 u7_1 e7_1 ((spW p n T uu v A kk 0).length) (fun c => .int .u8 (((gz (spW p n T uu v A kk 0)) (c / 6) (c % 6) : Nat) : Int)) ∧ Fr 58 a [(0, .agg (algC (p : Int) (n : Int) T f)), (1, .slice (some ⟨bA, 0, none⟩) (A.length) (cA)), (2, .agg (vecC v)), (3, ptr b1 (0)), (5, ptr b2 (0)), (6, .slice none 0 0), (14, .slice (some ⟨bA, 0, none⟩) (A.length) (cA)), (15, .int .i64 (((A.length : Nat) : Int))), (16, .int .i64 (((kk : Nat) : Int))), (7, u7_1)] ∧ Mem w w' [some (b1, algC (p : Int) (n : Int) T f), some (b2, vecC v), none, none, none, none, none, e7_1] [(bA, csA)]) (fun kk => A.length - kk) 0 ?_ ?_
  ·
   refine ⟨by omega, trivial, (.slice none 0 0), (none), (by rw [spW_00]; exact Sl.nil 6 _), hF.sub _ (by repeat' constructor), ?_⟩
   exact hM
  ·
   clear hF hM
   rintro gi a w' ⟨hgi, hinv1, u7_1, e7_1, hsl, hF, hM⟩
   refine sq (wp_region_lit ?_)
   refine st hF (g_lss hF rfl rfl) rfl fun a hF => ?_
   refine wpList_nil (tN (sq ?_))
   refine c_cond hF rfl (fun h3 => ?_) (fun h3 => ?_)
   ·
    refine wp_skip (tN (sq (wp_block (sq (wp_region_lit ?_)))))
    refine st hF (g_indexSl (i := gi) ty_sl_27 hF rfl rfl rfl (by omega)) rfl fun a hF => st hF (g_loadAgg ty_ag_30 hF rfl (hM.fzm hi1) (hsA.room (gi) (by omega)) (hsA.vec0 (V := gz A) (gi) (by omega))) rfl fun a hF => ?_
    refine stR hF (d_alloc 2 hM ty_ze_30) rfl ?_
    rintro _ w' a ⟨b4, rfl, hM, -⟩ hF
    change Mem w w' [some (b1, algC (p : Int) (n : Int) T f), some (b2, vecC v), some (b4, fnC 6 (fun _ => .int .u8 (0))), none, none, none, none, e7_1] [(bA, csA)] at hM
    refine stN hF (d_storeAgg 2 hM rfl ty_sz_30 hF rfl rfl (by first | exact vecC_one | exact cells_one | (refine fnC_one fun _ _ => ?_; first | rfl | (split <;> rfl))) (by simp only [fnC_size, cells_size, vecC_size, tabC_size, planeC_size, dgC_size, numC_sz, ldB_size]) (by simp only [fnC_size, cells_size, vecC_size, tabC_size, planeC_size, dgC_size, numC_sz, ldB_size] <;> omega) (splice_whole _ _ (by simp only [fnC_size, cells_size, vecC_size, tabC_size, planeC_size, dgC_size, numC_sz, ldB_size]))) ?_
    intro _ w' a hM hF
    change Mem w w' [some (b1, algC (p : Int) (n : Int) T f), some (b2, vecC v), some (b4, vecC (gz A (gi))), none, none, none, none, e7_1] [(bA, csA)] at hM
    refine wpList_nil (tN (sq (wp_region_lit ?_)))
    refine st hF (g_fieldAddr ty_fo_32_0 hF rfl) rfl fun a hF => st hF (g_load ty_on_2 hF rfl (hM.row 0 rfl) (algC_p (by omega))) rfl fun a hF => st hF (g_move hF rfl) rfl fun a hF => ?_
    refine wpList_nil (tN (wp_block ?_))
    change Mem w _ [some (b1, algC (p : Int) (n : Int) T f), some (b2, vecC v), some (b4, vecC (gz A (gi))), none, none, none, none, e7_1] [(bA, csA)] at hM
    refine c_loop (fun (kk : Nat) a w' => kk ≤ p ∧ (True) ∧ ∃ (u7_2 : Value) (e7_2 : Option (Nat × Array Value)), Sl 6 u7_2 e7_2 ((spW p n T uu v A gi kk).length) (fun c => .int .u8 (((gz (spW p n T uu v A gi kk)) (c / 6) (c % 6) : Nat) : Int)) ∧ Fr 58 a [(0, .agg (algC (p : Int) (n : Int) T f)), (1, .slice (some ⟨bA, 0, none⟩) (A.length) (cA)), (2, .agg (vecC v)), (3, ptr b1 (0)), (5, ptr b2 (0)), (6, .slice none 0 0), (14, .slice (some ⟨bA, 0, none⟩) (A.length) (cA)), (15, .int .i64 (((A.length : Nat) : Int))), (16, .int .i64 (((gi : Nat) : Int))), (17, .bool (decide ((((gi : Nat) : Int) : Int) < ((A.length : Nat) : Int)))), (18, ptr bA (0 + (gi) * 6)), (19, .agg (vecC (gz A (gi)))), (9, ptr b4 (0)), (20, ptr b1 (0 + 0)), (21, .int .i64 (((p : Nat) : Int))), (22, .int .i64 (((kk : Nat) : Int))), (7, u7_2)] ∧ Mem w w' [some (b1, algC (p : Int) (n : Int) T f), some (b2, vecC v), some (b4, vecC (gz A (gi))), none, none, none, none, e7_2] [(bA, csA)]) (fun kk => p - kk) 0 ?_ ?_
    ·
     refine ⟨by omega, trivial, (u7_1), (e7_1), hsl, hF.sub _ (by repeat' constructor), ?_⟩
     exact hM
    ·
     clear hF hM
     rintro gj a w' ⟨hgj, hinv2, u7_2, e7_2, hsl2, hF, hM⟩
     have hAe : RVp p n (gz A gi) := hInv.rv _ (getD_mem (by omega))
     have hvt : ∀ c, gz A gi c ≤ 255 := fun c => by have := hAe.1 c; omega
     have hrest : RVp p n (addN p (timesV p n T (gz A gi) v) (gz A gi) (-((gj : Nat) : Int))) := addN_RV (by omega) (timesV_RV (by omega) hT0) hAe
     have hvs : ∀ c, addN p (timesV p n T (gz A gi) v) (gz A gi) (-((gj : Nat) : Int)) c ≤ 255 := fun c => by have := hrest.1 c; omega
     have hvp : ∀ c, powW (timesV p n T) uu (addN p (timesV p n T (gz A gi) v) (gz A gi) (-((gj : Nat) : Int))) (p - 1) c ≤ 255 := fun c => by have := (powW_RV (by omega) hT0 huu (p - 1) : RVp p n (powW (timesV p n T) uu (addN p (timesV p n T (gz A gi) v) (gz A gi) (-((gj : Nat) : Int))) (p - 1))).1 c; omega
     have hvq : ∀ c, timesV p n T (gz A gi) v c ≤ 255 := timesV_le (by omega) (by omega) (gz A gi) v
     have hlw := spW_len (p := p) (n := n) (T := T) (uu := uu) (v := v) (A := A) hp13 gi gj (by omega)
     refine sq (wp_region_lit ?_)
     refine st hF (g_lss hF rfl rfl) rfl fun a hF => ?_
     refine wpList_nil (tN (sq ?_))
     refine c_cond hF rfl (fun h5 => ?_) (fun h5 => ?_)
     ·
      refine wp_skip (tN (sq (wp_block (sq (wp_region_lit ?_)))))
      refine st hF (g_move hF rfl) rfl fun a hF => st hF (g_assign hF rfl) rfl fun a hF => ?_
      refine wpList_nil (tN (sq (wp_region_lit ?_)))
      refine st hF (g_loadAgg ty_ag_32 hF rfl (hM.row 0 rfl) (by simp only [fnC_size, cells_size, vecC_size, tabC_size, planeC_size, dgC_size, numC_sz, ldB_size] <;> omega) (whole cells_size)) rfl fun a hF => st hF (g_loadAgg ty_ag_30 hF rfl (hM.row 2 rfl) (by simp only [fnC_size, cells_size, vecC_size, tabC_size, planeC_size, dgC_size, numC_sz, ldB_size] <;> omega) (whole (by simp only [fnC_size, cells_size, vecC_size, tabC_size, planeC_size, dgC_size, numC_sz, ldB_size]))) rfl fun a hF => st hF (g_loadAgg ty_ag_30 hF rfl (hM.row 1 rfl) (by simp only [fnC_size, cells_size, vecC_size, tabC_size, planeC_size, dgC_size, numC_sz, ldB_size] <;> omega) (whole (by simp only [fnC_size, cells_size, vecC_size, tabC_size, planeC_size, dgC_size, numC_sz, ldB_size]))) rfl fun a hF => ?_
      refine stR hF (d_call Tryd.call75 hF (.cons rfl (.cons rfl (.cons rfl .nil))) (product_ok p n T f ((gz A (gi))) (v) _ (by omega) (by omega) (by omega) (fun _ _ _ => hT _ _ _) (fun _ => by first | exact hv _ | exact hvt _ | exact hvs _ | exact hvp _ | exact hvq _ | exact hu _ | exact hT _ _ _ | exact hf _ | omega | (split <;> omega) | (dsimp only; split <;> omega) | assumption) (fun _ => by first | exact hv _ | exact hvt _ | exact hvs _ | exact hvp _ | exact hvq _ | exact hu _ | exact hT _ _ _ | exact hf _ | omega | (split <;> omega) | (dsimp only; split <;> omega) | assumption))) rfl ?_
      rintro _ w' a ⟨hx, rfl⟩ hF
      have hM := hM.ext hx
      refine stR hF (d_alloc 3 hM ty_ze_30) rfl ?_
      rintro _ w' a ⟨b6, rfl, hM, -⟩ hF
      change Mem w w' [some (b1, algC (p : Int) (n : Int) T f), some (b2, vecC v), some (b4, vecC (gz A (gi))), some (b6, fnC 6 (fun _ => .int .u8 (0))), none, none, none, e7_2] [(bA, csA)] at hM
      refine stN hF (d_storeAgg 3 hM rfl ty_sz_30 hF rfl rfl (by first | exact vecC_one | exact cells_one | (refine fnC_one fun _ _ => ?_; first | rfl | (split <;> rfl))) (by simp only [fnC_size, cells_size, vecC_size, tabC_size, planeC_size, dgC_size, numC_sz, ldB_size]) (by simp only [fnC_size, cells_size, vecC_size, tabC_size, planeC_size, dgC_size, numC_sz, ldB_size] <;> omega) (splice_whole _ _ (by simp only [fnC_size, cells_size, vecC_size, tabC_size, planeC_size, dgC_size, numC_sz, ldB_size]))) ?_
      intro _ w' a hM hF
      change Mem w w' [some (b1, algC (p : Int) (n : Int) T f), some (b2, vecC v), some (b4, vecC (gz A (gi))), some (b6, vecC (timesV p n T ((gz A (gi))) (v))), none, none, none, e7_2] [(bA, csA)] at hM
      refine wpList_nil (tN (sq ?_))
      refine c_par 6 [] [.val (.slice (some ⟨b6, 0, none⟩) (6) (6)), .val (.slice (some ⟨b4, 0, none⟩) (6) (6)), .val (.int .i64 (((gj : Nat) : Int))), .val (.int .i64 (-(((gj : Nat) : Int)))), .val (ptr b1 (0 + 0)), .val (.int .i64 (((p : Nat) : Int)))] hmix rfl hF rfl hM ⟨fun a w gG hF hS hd => by exact par_val hS rfl (g_sliceArr ty_ua_30 ty_sz_5 (by decide) hF rfl), fun a w gG hF hS hd => by exact par_val hS rfl (g_sliceArr ty_ua_30 ty_sz_5 (by decide) hF rfl), fun a w gG hF hS hd => by exact par_val hS rfl (g_move hF rfl), fun a w gG hF hS hd => by have hF := hF.ext1 31 (hd 2 rfl rfl); exact par_val hS rfl (g_neg hF rfl (wrap_i64 (by omega) (by omega))), fun a w gG hF hS hd => by exact par_val hS rfl (g_fieldAddr ty_fo_32_0 hF rfl), fun a w gG hF hS hd => by have hF := hF.ext1 33 (hd 4 rfl rfl); have hM := hS.mem rfl; exact par_val hS rfl (g_load ty_on_2 hF rfl (hM.row 0 rfl) (algC_p (by omega))), trivial⟩ ?_
      intro a w' L hF hS hq
      have hF := hF.ext1 29 (hq 0 rfl rfl)
      have hF := hF.ext1 30 (hq 1 rfl rfl)
      have hF := hF.ext1 31 (hq 2 rfl rfl)
      have hF := hF.ext1 32 (hq 3 rfl rfl)
      have hF := hF.ext1 33 (hq 4 rfl rfl)
      have hF := hF.ext1 34 (hq 5 rfl rfl)
      have hM := hS.mem rfl
      change wpList Tryd.prog _ _ [_] _ _
      refine stR hF (d_callX Tryd.call73 hF (.cons rfl (.cons rfl (.cons rfl (.cons rfl .nil)))) (addRow_ok (p) b6 6 b4 0 6 6 _ ((timesV p n T ((gz A (gi))) (v))) ((gz A (gi))) (-(((gj : Nat) : Int))) _ (by omega) (by omega) (by omega) (by omega) (by omega) (fun _ => by first | exact hv _ | exact hvt _ | exact hvs _ | exact hvp _ | exact hvq _ | exact hu _ | exact hT _ _ _ | exact hf _ | omega | (split <;> omega) | (dsimp only; split <;> omega) | assumption) (hM.row 3 rfl) (fun _ => by first | exact hv _ | exact hvt _ | exact hvs _ | exact hvp _ | exact hvq _ | exact hu _ | exact hT _ _ _ | exact hf _ | omega | (split <;> omega) | (dsimp only; split <;> omega) | assumption) (hM.ne2 (i := 2) (j := 3) rfl rfl (by decide)) (hM.row 2 rfl) (fun i hi => vecC_get i (by omega) hi))) rfl ?_
      rintro _ w' a ⟨hx, rfl, hbk⟩ hF
      have hM := hM.upd (cs' := vecC (addN p ((timesV p n T ((gz A (gi))) (v))) ((gz A (gi))) (-(((gj : Nat) : Int))))) 3 rfl hx hbk
      change Mem w w' [some (b1, algC (p : Int) (n : Int) T f), some (b2, vecC v), some (b4, vecC (gz A (gi))), some (b6, vecC (addN p ((timesV p n T ((gz A (gi))) (v))) ((gz A (gi))) (-(((gj : Nat) : Int))))), none, none, none, e7_2] [(bA, csA)] at hM
      refine wpList_nil (tN (sq (wp_region_lit ?_)))
      refine st hF (g_loadAgg ty_ag_32 hF rfl (hM.row 0 rfl) (by simp only [fnC_size, cells_size, vecC_size, tabC_size, planeC_size, dgC_size, numC_sz, ldB_size] <;> omega) (whole cells_size)) rfl fun a hF => st hF (g_loadAgg ty_ag_30 hF rfl (hM.row 3 rfl) (by simp only [fnC_size, cells_size, vecC_size, tabC_size, planeC_size, dgC_size, numC_sz, ldB_size] <;> omega) (whole (by simp only [fnC_size, cells_size, vecC_size, tabC_size, planeC_size, dgC_size, numC_sz, ldB_size]))) rfl fun a hF => st hF (g_fieldAddr ty_fo_32_0 hF rfl) rfl fun a hF => st hF (g_load ty_on_2 hF rfl (hM.row 0 rfl) (algC_p (by omega))) rfl fun a hF => st hF (g_sub hF rfl rfl (show _ = ((p - 1 : Nat) : Int) from (by rw [wrap_i64] <;> omega))) rfl fun a hF => ?_
      refine stR hF (d_call Tryd.call72 hF (.cons rfl (.cons rfl (.cons rfl .nil))) (power_ok p n T f ((addN p ((timesV p n T ((gz A (gi))) (v))) ((gz A (gi))) (-(((gj : Nat) : Int))))) (p - 1) _ hp hn0 hn hTp uu huu (fun _ => by first | exact hv _ | exact hvt _ | exact hvs _ | exact hvp _ | exact hvq _ | exact hu _ | exact hT _ _ _ | exact hf _ | omega | (split <;> omega) | (dsimp only; split <;> omega) | assumption) (by omega) (unit_timesV hT0 huu (fun c _ => hrest.1 c) (fun c h _ => hrest.2 c h)))) rfl ?_
      rintro _ w' a ⟨hx, rfl⟩ hF
      have hM := hM.ext hx
      refine stR hF (d_alloc 4 hM ty_ze_30) rfl ?_
      rintro _ w' a ⟨b7, rfl, hM, -⟩ hF
      change Mem w w' [some (b1, algC (p : Int) (n : Int) T f), some (b2, vecC v), some (b4, vecC (gz A (gi))), some (b6, vecC (addN p ((timesV p n T ((gz A (gi))) (v))) ((gz A (gi))) (-(((gj : Nat) : Int))))), some (b7, fnC 6 (fun _ => .int .u8 (0))), none, none, e7_2] [(bA, csA)] at hM
      refine stN hF (d_storeAgg 4 hM rfl ty_sz_30 hF rfl rfl (by first | exact vecC_one | exact cells_one | (refine fnC_one fun _ _ => ?_; first | rfl | (split <;> rfl))) (by simp only [fnC_size, cells_size, vecC_size, tabC_size, planeC_size, dgC_size, numC_sz, ldB_size]) (by simp only [fnC_size, cells_size, vecC_size, tabC_size, planeC_size, dgC_size, numC_sz, ldB_size] <;> omega) (splice_whole _ _ (by simp only [fnC_size, cells_size, vecC_size, tabC_size, planeC_size, dgC_size, numC_sz, ldB_size]))) ?_
      intro _ w' a hM hF
      change Mem w w' [some (b1, algC (p : Int) (n : Int) T f), some (b2, vecC v), some (b4, vecC (gz A (gi))), some (b6, vecC (addN p ((timesV p n T ((gz A (gi))) (v))) ((gz A (gi))) (-(((gj : Nat) : Int))))), some (b7, vecC (powW (timesV p n T) uu ((addN p ((timesV p n T ((gz A (gi))) (v))) ((gz A (gi))) (-(((gj : Nat) : Int))))) (p - 1))), none, none, e7_2] [(bA, csA)] at hM
      refine wpList_nil (tN (sq (wp_region_lit ?_)))
      refine st hF (g_loadAgg ty_ag_30 hF rfl (hM.row 2 rfl) (by simp only [fnC_size, cells_size, vecC_size, tabC_size, planeC_size, dgC_size, numC_sz, ldB_size] <;> omega) (whole (by simp only [fnC_size, cells_size, vecC_size, tabC_size, planeC_size, dgC_size, numC_sz, ldB_size]))) rfl fun a hF => ?_
      refine stR hF (d_alloc 5 hM ty_ze_30) rfl ?_
      rintro _ w' a ⟨b8, rfl, hM, -⟩ hF
      change Mem w w' [some (b1, algC (p : Int) (n : Int) T f), some (b2, vecC v), some (b4, vecC (gz A (gi))), some (b6, vecC (addN p ((timesV p n T ((gz A (gi))) (v))) ((gz A (gi))) (-(((gj : Nat) : Int))))), some (b7, vecC (powW (timesV p n T) uu ((addN p ((timesV p n T ((gz A (gi))) (v))) ((gz A (gi))) (-(((gj : Nat) : Int))))) (p - 1))), some (b8, fnC 6 (fun _ => .int .u8 (0))), none, e7_2] [(bA, csA)] at hM
      refine stN hF (d_storeAgg 5 hM rfl ty_sz_30 hF rfl rfl (by first | exact vecC_one | exact cells_one | (refine fnC_one fun _ _ => ?_; first | rfl | (split <;> rfl))) (by simp only [fnC_size, cells_size, vecC_size, tabC_size, planeC_size, dgC_size, numC_sz, ldB_size]) (by simp only [fnC_size, cells_size, vecC_size, tabC_size, planeC_size, dgC_size, numC_sz, ldB_size] <;> omega) (splice_whole _ _ (by simp only [fnC_size, cells_size, vecC_size, tabC_size, planeC_size, dgC_size, numC_sz, ldB_size]))) ?_
      intro _ w' a hM hF
      change Mem w w' [some (b1, algC (p : Int) (n : Int) T f), some (b2, vecC v), some (b4, vecC (gz A (gi))), some (b6, vecC (addN p ((timesV p n T ((gz A (gi))) (v))) ((gz A (gi))) (-(((gj : Nat) : Int))))), some (b7, vecC (powW (timesV p n T) uu ((addN p ((timesV p n T ((gz A (gi))) (v))) ((gz A (gi))) (-(((gj : Nat) : Int))))) (p - 1))), some (b8, vecC (gz A (gi))), none, e7_2] [(bA, csA)] at hM
      refine wpList_nil (tN (sq ?_))
      refine c_par 4 [] [.val (.slice (some ⟨b8, 0, none⟩) (6) (6)), .val (.slice (some ⟨b7, 0, none⟩) (6) (6)), .val (ptr b1 (0 + 0)), .val (.int .i64 (((p : Nat) : Int)))] hmix rfl hF rfl hM ⟨fun a w gG hF hS hd => by exact par_val hS rfl (g_sliceArr ty_ua_30 ty_sz_5 (by decide) hF rfl), fun a w gG hF hS hd => by exact par_val hS rfl (g_sliceArr ty_ua_30 ty_sz_5 (by decide) hF rfl), fun a w gG hF hS hd => by exact par_val hS rfl (g_fieldAddr ty_fo_32_0 hF rfl), fun a w gG hF hS hd => by have hF := hF.ext1 45 (hd 2 rfl rfl); have hM := hS.mem rfl; exact par_val hS rfl (g_load ty_on_2 hF rfl (hM.row 0 rfl) (algC_p (by omega))), trivial⟩ ?_
      intro a w' L hF hS hq
      have hF := hF.ext1 43 (hq 0 rfl rfl)
      have hF := hF.ext1 44 (hq 1 rfl rfl)
      have hF := hF.ext1 45 (hq 2 rfl rfl)
      have hF := hF.ext1 46 (hq 3 rfl rfl)
      have hM := hS.mem rfl
      change wpList Tryd.prog _ _ [_] _ _
      refine stR hF (d_callX Tryd.call73 hF (.cons rfl (.cons rfl (.cons rfl (.cons rfl .nil)))) (addRow_ok (p) b8 6 b7 0 6 6 _ ((gz A (gi))) ((powW (timesV p n T) uu ((addN p ((timesV p n T ((gz A (gi))) (v))) ((gz A (gi))) (-(((gj : Nat) : Int))))) (p - 1))) (-1) _ (by omega) (by omega) (by omega) (by omega) (by omega) (fun _ => by first | exact hv _ | exact hvt _ | exact hvs _ | exact hvp _ | exact hvq _ | exact hu _ | exact hT _ _ _ | exact hf _ | omega | (split <;> omega) | (dsimp only; split <;> omega) | assumption) (hM.row 5 rfl) (fun _ => by first | exact hv _ | exact hvt _ | exact hvs _ | exact hvp _ | exact hvq _ | exact hu _ | exact hT _ _ _ | exact hf _ | omega | (split <;> omega) | (dsimp only; split <;> omega) | assumption) (hM.ne2 (i := 4) (j := 5) rfl rfl (by decide)) (hM.row 4 rfl) (fun i hi => vecC_get i (by omega) hi))) rfl ?_
      rintro _ w' a ⟨hx, rfl, hbk⟩ hF
      have hM := hM.upd (cs' := vecC (addN p ((gz A (gi))) ((powW (timesV p n T) uu ((addN p ((timesV p n T ((gz A (gi))) (v))) ((gz A (gi))) (-(((gj : Nat) : Int))))) (p - 1))) (-1))) 5 rfl hx hbk
      change Mem w w' [some (b1, algC (p : Int) (n : Int) T f), some (b2, vecC v), some (b4, vecC (gz A (gi))), some (b6, vecC (addN p ((timesV p n T ((gz A (gi))) (v))) ((gz A (gi))) (-(((gj : Nat) : Int))))), some (b7, vecC (powW (timesV p n T) uu ((addN p ((timesV p n T ((gz A (gi))) (v))) ((gz A (gi))) (-(((gj : Nat) : Int))))) (p - 1))), some (b8, vecC (addN p ((gz A (gi))) ((powW (timesV p n T) uu ((addN p ((timesV p n T ((gz A (gi))) (v))) ((gz A (gi))) (-(((gj : Nat) : Int))))) (p - 1))) (-1))), none, e7_2] [(bA, csA)] at hM
      refine wpList_nil (tN (sq (wp_region_lit ?_)))
      refine st hF (g_loadAgg ty_ag_30 hF rfl (hM.row 5 rfl) (by simp only [fnC_size, cells_size, vecC_size, tabC_size, planeC_size, dgC_size, numC_sz, ldB_size] <;> omega) (whole (by simp only [fnC_size, cells_size, vecC_size, tabC_size, planeC_size, dgC_size, numC_sz, ldB_size]))) rfl fun a hF => st hF (g_build0 ty_bu_30) rfl fun a hF => st hF (g_neqA ty_eg_30 hF rfl rfl (eqAt_vec ty_ae_30 ty_ip_5 ty_on_5)) rfl fun a hF => ?_
      refine wpList_nil (tN ?_)
      refine c_cond hF rfl (fun h9 => ?_) (fun h9 => ?_)
      ·
       have hpc : ¬ eqV 6 (pcI p n T uu (A.getD gi zv) v gj) (fun _ => 0) := by first | exact h9 | exact Decidable.not_not.1 h9 | exact Classical.byContradiction h9
       refine wp_region_lit ?_
       refine st hF (g_move hF rfl) rfl fun a hF => st hF (g_loadAgg ty_ag_30 hF rfl (hM.row 5 rfl) (by simp only [fnC_size, cells_size, vecC_size, tabC_size, planeC_size, dgC_size, numC_sz, ldB_size] <;> omega) (whole (by simp only [fnC_size, cells_size, vecC_size, tabC_size, planeC_size, dgC_size, numC_sz, ldB_size]))) rfl fun a hF => ?_
       refine stR hF (d_buildC (vs := [(0, .agg (vecC (addN p ((gz A (gi))) ((powW (timesV p n T) uu ((addN p ((timesV p n T ((gz A (gi))) (v))) ((gz A (gi))) (-(((gj : Nat) : Int))))) (p - 1))) (-1))))]) 6 hM hF (build1 hF rfl) (fun w => ty_bsg_27_1 (addN p ((gz A (gi))) ((powW (timesV p n T) uu ((addN p ((timesV p n T ((gz A (gi))) (v))) ((gz A (gi))) (-(((gj : Nat) : Int))))) (p - 1))) (-1)) w)) rfl ?_
       rintro _ w' a ⟨b10, rfl, hM, -⟩ hF
       change Mem w w' [some (b1, algC (p : Int) (n : Int) T f), some (b2, vecC v), some (b4, vecC (gz A (gi))), some (b6, vecC (addN p ((timesV p n T ((gz A (gi))) (v))) ((gz A (gi))) (-(((gj : Nat) : Int))))), some (b7, vecC (powW (timesV p n T) uu ((addN p ((timesV p n T ((gz A (gi))) (v))) ((gz A (gi))) (-(((gj : Nat) : Int))))) (p - 1))), some (b8, vecC (addN p ((gz A (gi))) ((powW (timesV p n T) uu ((addN p ((timesV p n T ((gz A (gi))) (v))) ((gz A (gi))) (-(((gj : Nat) : Int))))) (p - 1))) (-1))), some (b10, vecsC 1 (vAtL [(addN p ((gz A (gi))) ((powW (timesV p n T) uu ((addN p ((timesV p n T ((gz A (gi))) (v))) ((gz A (gi))) (-(((gj : Nat) : Int))))) (p - 1))) (-1))])), e7_2] [(bA, csA)] at hM
       refine stR hF (d_append (k := 7) (N := (spW p n T uu v A gi gj).length) (m := 1) (f := (fun c => .int .u8 (((gz (spW p n T uu v A gi gj)) (c / 6) (c % 6) : Nat) : Int))) (g := fun q => .int .u8 (((((addN p ((gz A (gi))) ((powW (timesV p n T) uu ((addN p ((timesV p n T ((gz A (gi))) (v))) ((gz A (gi))) (-(((gj : Nat) : Int))))) (p - 1))) (-1))) q : Nat)) : Int)) ty_si_27 rfl (by decide) hM rfl hF rfl rfl hsl2 (fun q hq => ((hM.row 6 rfl).cell _).trans (vecs1_get q hq)) (fun _ _ => rfl) (by decide) (by unfold maxLen; omega) (by omega)) rfl ?_
       rintro u11 w' a ⟨e12, hM, hs13⟩ hF
       change Mem w w' [some (b1, algC (p : Int) (n : Int) T f), some (b2, vecC v), some (b4, vecC (gz A (gi))), some (b6, vecC (addN p ((timesV p n T ((gz A (gi))) (v))) ((gz A (gi))) (-(((gj : Nat) : Int))))), some (b7, vecC (powW (timesV p n T) uu ((addN p ((timesV p n T ((gz A (gi))) (v))) ((gz A (gi))) (-(((gj : Nat) : Int))))) (p - 1))), some (b8, vecC (addN p ((gz A (gi))) ((powW (timesV p n T) uu ((addN p ((timesV p n T ((gz A (gi))) (v))) ((gz A (gi))) (-(((gj : Nat) : Int))))) (p - 1))) (-1))), some (b10, vecsC 1 (vAtL [(addN p ((gz A (gi))) ((powW (timesV p n T) uu ((addN p ((timesV p n T ((gz A (gi))) (v))) ((gz A (gi))) (-(((gj : Nat) : Int))))) (p - 1))) (-1))])), e12] [(bA, csA)] at hM
       refine st hF (g_assign hF rfl) rfl fun a hF => ?_
       refine wpList_nil (iN (tN (wp_region_lit ?_)))
       refine st hF (g_add hF rfl rfl (add_nat (gj) (1) (by omega))) rfl fun a hF => st hF (g_move hF rfl) rfl fun a hF => ?_
       refine wpList_nil (tN ?_)
       have hM := hM.drop 3
       have hM := hM.drop 4
       have hM := hM.drop 5
       have hM := hM.drop 6
       refine ⟨gj + 1, ⟨by omega, trivial, (u11), (e12), (by first | (rw [spW_no hpc]; exact hs13) | (rw [spW_yes hpc]; exact sl_app hs13 (fun q _ => rfl))), hF.sub _ (by repeat' constructor), ?_⟩, by omega⟩
       exact hM
      ·
       have hpc : eqV 6 (pcI p n T uu (A.getD gi zv) v gj) (fun _ => 0) := by first | exact h9 | exact Decidable.not_not.1 h9 | exact Classical.byContradiction h9
       refine wp_skip (iN (tN (wp_region_lit ?_)))
       refine st hF (g_add hF rfl rfl (add_nat (gj) (1) (by omega))) rfl fun a hF => st hF (g_move hF rfl) rfl fun a hF => ?_
       refine wpList_nil (tN ?_)
       have hM := hM.drop 3
       have hM := hM.drop 4
       have hM := hM.drop 5
       refine ⟨gj + 1, ⟨by omega, trivial, (u7_2), (e7_2), (by first | (rw [spW_no hpc]; exact hsl2) | (rw [spW_yes hpc]; exact sl_app hsl2 (fun q _ => rfl))), hF.sub _ (by repeat' constructor), ?_⟩, by omega⟩
       exact hM
     ·
      obtain rfl : p = gj := by omega
      refine wp_exit (tX (tX ?_))
      refine ib_same ?_
      refine iN (tN (wp_region_lit ?_))
      refine st hF (g_add hF rfl rfl (add_nat (gi) (1) (by omega))) rfl fun a hF => st hF (g_move hF rfl) rfl fun a hF => ?_
      refine wpList_nil (tN ?_)
      have hM := hM.drop 2
      refine ⟨gi + 1, ⟨by omega, trivial, (u7_2), (e7_2), (by rw [spW_next (by omega)]; exact hsl2), hF.sub _ (by repeat' constructor), ?_⟩, by omega⟩
      exact hM
   ·
    obtain rfl : A.length = gi := by omega
    refine wp_exit (tX (tX ?_))
    refine ib_same ?_
    refine tN (sq (wp_region_lit ?_))
    refine st hF (g_move hF rfl) rfl fun a hF => st hF (g_assign hF rfl) rfl fun a hF => ?_
    refine wpList_nil (tN (wp_ret ?_))
    refine fin1 rfl hF.defers (res_tmp hF rfl) ⟨_, rfl, hM.below, ?_⟩
    exact OwnSl.pos hM (k := 7) rfl (by have h9 := hsl; rw [spW_all] at h9; exact h9) hpos4

end Go.Proofs.YtbeodbfbfbefkaaDoor
