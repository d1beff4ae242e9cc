/- What functions of the program return, as walks over their operations; no statement of the seat is proved here. -/
import Derived.Test.YtbeodbfbfbefkaaDoorH5
import Derived.Test.YtbeodbfbfbefkaaDoorSw20
set_option linter.unusedVariables false
set_option linter.unusedSimpArgs false
namespace Go.Proofs.YtbeodbfbfbefkaaDoor
open Go Go.RowKit Go.Sw Go.Ech
theorem ty_si_81 : slI Tryd.prog 81 = some (85, some (.slice none 0 0), 1, 24) := by kernel_rfl
theorem ty_mk_85_7 : ∀ w, (Instr.makeSlice 85 (.int .i64 ((7 : Nat) : Int)) (.int .i64 ((7 : Nat) : Int))).run Tryd.prog w = .ok (.slice (some ⟨w.heap.size, 0, none⟩) 7 7) (w.alloc (.cells (fnC 7 (fun _ => .int .u8 (0))) 5)) := by intros; kernel_rfl
def eqG (p n : Nat) (T : Nat → Nat → Nat → Nat) (bb cc : Nat → Nat) (g r c : Nat) : Nat := if c < g then (if r < n then timesV p n T (fun x => if x = c then 1 else 0) bb r else timesV p n T bb (fun x => if x = c then 1 else 0) (r - n)) else if c = 6 then cc (r % n) else 0
def eqH (p n : Nat) (T : Nat → Nat → Nat → Nat) (bb cc : Nat → Nat) (g k r c : Nat) : Nat := if c = g ∧ (r < k ∨ (n ≤ r ∧ r < n + k)) then eqG p n T bb cc (g + 1) r c else eqG p n T bb cc g r c
theorem eqH_zero {p n g r c : Nat} {T : Nat → Nat → Nat → Nat} {bb cc : Nat → Nat} : eqH p n T bb cc g 0 r c = eqG p n T bb cc g r c := by
  unfold eqH; rw [if_neg (by omega)]
theorem eqH_all {p n g r c : Nat} {T : Nat → Nat → Nat → Nat} {bb cc : Nat → Nat} (hr : r < 2 * n) : eqH p n T bb cc g n r c = eqG p n T bb cc (g + 1) r c := by
  unfold eqH
  by_cases e : c = g
  · rw [if_pos ⟨e, by omega⟩]
  · rw [if_neg (fun h => e h.1)]
    by_cases e2 : c < g
    · have e3 : c < g + 1 := by omega
      simp [eqG, e2, e3]
    · have e3 : ¬ c < g + 1 := by omega
      simp [eqG, e2, e3]
theorem eqH_step {p n g k r c : Nat} {T : Nat → Nat → Nat → Nat} {bb cc : Nat → Nat} {r1 r2 : Nat → Nat} (hk : k < n) (hr : r < 2 * n)
    (h1 : ∀ c, r1 c = if c = g then timesV p n T (fun x => if x = g then 1 else 0) bb k else eqH p n T bb cc g k k c) (h2 : ∀ c, r2 c = if c = g then timesV p n T bb (fun x => if x = g then 1 else 0) k else eqH p n T bb cc g k (n + k) c) :
    upE (upE (eqH p n T bb cc g k) k r1) (n + k) r2 r c = eqH p n T bb cc g (k + 1) r c := by
  have hgg : ∀ r, eqG p n T bb cc (g + 1) r g = if r < n then timesV p n T (fun x => if x = g then 1 else 0) bb r else timesV p n T bb (fun x => if x = g then 1 else 0) (r - n) := fun r => by unfold eqG; rw [if_pos (by omega)]
  unfold upE
  by_cases e2 : r = n + k
  · rw [if_pos e2, h2, e2]
    by_cases ec : c = g
    · rw [if_pos ec]; unfold eqH; rw [if_pos ⟨ec, by omega⟩, ec, hgg, if_neg (by omega), show n + k - n = k by omega]
    · rw [if_neg ec]; unfold eqH; rw [if_neg (fun h => ec h.1), if_neg (fun h => ec h.1)]
  · rw [if_neg e2]
    by_cases e1 : r = k
    · rw [if_pos e1, h1, e1]
      by_cases ec : c = g
      · rw [if_pos ec]; unfold eqH; rw [if_pos ⟨ec, by omega⟩, ec, hgg, if_pos (by omega)]
      · rw [if_neg ec]; unfold eqH; rw [if_neg (fun h => ec h.1), if_neg (fun h => ec h.1)]
    · rw [if_neg e1]; unfold eqH
      by_cases e3 : c = g ∧ (r < k ∨ (n ≤ r ∧ r < n + k))
      · rw [if_pos e3, if_pos ⟨e3.1, by omega⟩]
      · rw [if_neg e3, if_neg (fun h => e3 ⟨h.1, by omega⟩)]

theorem equationsFor_ok (p n : Nat) (T : Nat → Nat → Nat → Nat) (f bb cc : Nat → Nat) (w : World) (hp : 0 < p) (hp2 : p < 100) (hn0 : 0 < n) (hn : n ≤ 6) (hT : ∀ i j k, T i j k ≤ 255) (hbb : ∀ i, bb i ≤ 255) (hcc : ∀ i, cc i ≤ 255) :
    CallsR Tryd.prog 69 #[.agg (algC (p : Int) (n : Int) T f), .agg (vecC bb), .agg (vecC cc)] w (fun u w' => BytesOut w w' 7 (2 * n) (eqG p n T bb cc n) u) := by
  refine calls_fr [.agg (algC (p : Int) (n : Int) T f), .agg (vecC bb), .agg (vecC cc)] Tryd.func69 rfl Tryd.ntmps69 rfl fun a hF => ?_
  have hM : Mem w w [none, none, none, none, none, none, none] [] := MemX.start w 7
  change Fr 82 a [(0, .agg (algC (p : Int) (n : Int) T f)), (1, .agg (vecC bb)), (2, .agg (vecC cc))] at hF
  have hv : ∀ i, bb i ≤ 255 := hbb
  have hu : ∀ i, bb i ≤ 255 := hbb
  refine sq (wp_region_lit ?_)
  refine stR hF (d_box 0 hM hF rfl) rfl ?_
  rintro _ w' a ⟨b1, rfl, hM, -⟩ hF
  change Mem w w' [some (b1, algC (p : Int) (n : Int) T f), none, none, none, none, none, none] [] at hM
  refine stR hF (d_box 1 hM hF rfl) rfl ?_
  rintro _ w' a ⟨b2, rfl, hM, -⟩ hF
  change Mem w w' [some (b1, algC (p : Int) (n : Int) T f), some (b2, vecC bb), none, none, none, none, none] [] at hM
  refine stR hF (d_box 2 hM hF rfl) rfl ?_
  rintro _ w' a ⟨b3, rfl, hM, -⟩ hF
  change Mem w w' [some (b1, algC (p : Int) (n : Int) T f), some (b2, vecC bb), some (b3, vecC cc), none, none, none, none] [] at hM
  refine st hF (g_assign hF rfl) rfl fun a hF => ?_
  refine wpList_nil (tN (sq (wp_region_lit ?_)))
  refine st hF (g_fieldAddr ty_fo_32_1 hF rfl) rfl fun a hF => st hF (g_load ty_on_2 hF rfl (hM.row 0 rfl) (algC_n (by omega))) rfl fun a hF => st hF (g_mul hF rfl rfl (mul_nat (2) (n) (by omega))) rfl fun a hF => ?_
  refine stR hF (d_make1 (len := 2 * n) 3 hM hF ty_si_81 rfl rfl rfl (by omega) (by decide)) rfl ?_
  rintro _ w' a ⟨bo, rfl, hM, -⟩ hF
  change Mem w w' [some (b1, algC (p : Int) (n : Int) T f), some (b2, vecC bb), some (b3, vecC cc), some (bo, fnC (2 * n) (fun _ => .slice none 0 0)), none, none, none] [] at hM
  refine st hF (g_assign hF rfl) rfl fun a hF => ?_
  refine wpList_nil (tN (sq (sq (wp_region_lit ?_))))
  refine st hF (g_move hF rfl) rfl fun a hF => st hF (g_len ty_us_81 hF rfl) rfl fun a hF => st hF (g_move hF rfl) rfl fun a hF => ?_
  refine wpList_nil (tN (wp_block ?_))
  change Mem w _ [some (b1, algC (p : Int) (n : Int) T f), some (b2, vecC bb), some (b3, vecC cc), some (bo, fnC (2 * n) (fun _ => .slice none 0 0)), none, none, none] [] at hM
  refine c_loop (fun (kk : Nat) a w' => kk ≤ 2 * n ∧ ∃ (D1 : Froz), ∃ (β : Nat → Nat), ∃ (cso : Array Value), (cso.size = 2 * n ∧ (∀ i, i < kk → cso[0 + i * 1]? = some (.slice (some ⟨β i, 0, none⟩) 7 7)) ∧ RowsB D1 7 kk β (eqG p n T bb cc 0) ∧ (∀ i, i < kk → w.heap.size ≤ β i)) ∧ Fr 82 a [(0, .agg (algC (p : Int) (n : Int) T f)), (1, .agg (vecC bb)), (2, .agg (vecC cc)), (3, ptr b1 (0)), (4, ptr b2 (0)), (5, ptr b3 (0)), (6, .slice none 0 0), (13, ptr b1 (0 + 1)), (14, .int .i64 (((n : Nat) : Int))), (15, .int .i64 ((((2) * (n) : Nat) : Int))), (16, .slice (some ⟨bo, 0, none⟩) ((2) * (n)) ((2) * (n))), (7, .slice (some ⟨bo, 0, none⟩) ((2) * (n)) ((2) * (n))), (17, .slice (some ⟨bo, 0, none⟩) ((2) * (n)) ((2) * (n))), (18, .int .i64 ((((2) * (n) : Nat) : Int))), (19, .int .i64 (((kk : Nat) : Int)))] ∧ Mem w w' [some (b1, algC (p : Int) (n : Int) T f), some (b2, vecC bb), some (b3, vecC cc), some (bo, cso), none, none, none] D1) (fun kk => 2 * n - kk) 0 ?_ ?_
  ·
   refine ⟨by omega, [], (fun _ => 0), (fnC (2 * n) (fun _ => .slice none 0 0)), ⟨fnC_size _ _, fun i hi => absurd hi (by omega), RowsB.none, fun i hi => absurd hi (by omega)⟩, hF.sub _ (by repeat' constructor), ?_⟩
   exact hM
  ·
   clear hF hM
   rintro gk a w' ⟨hgk, D1, β, cso, ⟨hso, hgo, hB, hbg⟩, hF, hM⟩
   refine sq (wp_region_lit ?_)
   refine st hF (g_lss hF rfl rfl) rfl fun a hF => ?_
   refine wpList_nil (tN (sq ?_))
   refine c_cond hF rfl (fun h5 => ?_) (fun h5 => ?_)
   ·
    refine wp_skip (tN (sq (wp_block (sq (wp_region_lit ?_)))))
    refine st hF (g_move hF rfl) rfl fun a hF => st hF (g_assign hF rfl) rfl fun a hF => ?_
    refine wpList_nil (tN (sq (wp_region_lit ?_)))
    refine st hF (g_move hF rfl) rfl fun a hF => st hF (g_move hF rfl) rfl fun a hF => ?_
    refine stR hF (d_makeC (len := 7) 4 hM hF rfl rfl ty_mk_85_7) rfl ?_
    rintro _ w' a ⟨b6, rfl, hM, -⟩ hF
    change Mem w w' [some (b1, algC (p : Int) (n : Int) T f), some (b2, vecC bb), some (b3, vecC cc), some (bo, cso), some (b6, fnC 7 (fun _ => .int .u8 (0))), none, none] D1 at hM
    refine st hF (g_indexSl (i := gk) ty_sl_81 hF rfl rfl rfl (by omega)) rfl fun a hF => ?_
    refine stN hF (d_store 3 hM rfl ty_on_85 hF rfl rfl rfl (by first | omega | (simp only [fnC_size, cells_size, vecC_size, tabC_size, planeC_size] <;> omega) | simp)) ?_
    intro _ w' a hM hF
    change Mem w w' [some (b1, algC (p : Int) (n : Int) T f), some (b2, vecC bb), some (b3, vecC cc), some (bo, (cso).setIfInBounds (0 + (gk) * 1) (.slice (some ⟨b6, 0, none⟩) (7) (7))), some (b6, fnC 7 (fun _ => .int .u8 (0))), none, none] D1 at hM
    refine wpList_nil (tN ?_)
    have hmod := Nat.mod_lt gk hn0
    have hself : ((cso).setIfInBounds (0 + (gk) * 1) (.slice (some ⟨b6, 0, none⟩) (7) (7)))[0 + gk * 1]? = some (.slice (some ⟨b6, 0, none⟩) 7 7) := Array.getElem?_setIfInBounds_self_of_lt (by omega)
    refine c_par 10 [] [.val (.slice (some ⟨bo, 0, none⟩) ((2) * (n)) ((2) * (n))), .val (.int .i64 (((gk : Nat) : Int))), .val (ptr bo (0 + (gk) * 1)), .val (.slice (some ⟨b6, 0, none⟩) (7) (7)), .val (.int .i64 (((gk : Nat) : Int))), .val (ptr b1 (0 + 1)), .val (.int .i64 (((n : Nat) : Int))), .val (.int .i64 ((((gk) % (n) : Nat) : Int))), .val (ptr b3 (0 + ((gk) % (n)) * 1)), .val (.int .u8 (((cc ((gk) % (n)) : Nat) : Int)))] hmix rfl hF rfl hM ⟨fun a w gG hF hS hd => by exact par_val hS rfl (g_move hF rfl), fun a w gG hF hS hd => by exact par_val hS rfl (g_move hF rfl), fun a w gG hF hS hd => by have hF := hF.ext1 26 (hd 0 rfl rfl); have hF := hF.ext1 27 (hd 1 rfl rfl); exact par_val hS rfl (g_indexSl (i := gk) ty_sl_81 hF rfl rfl rfl (by omega)), fun a w gG hF hS hd => by have hF := hF.ext1 28 (hd 2 rfl rfl); have hM := hS.mem rfl; exact par_val hS rfl (g_load ty_on_85 hF rfl (hM.row 3 rfl) hself), fun a w gG hF hS hd => by exact par_val hS rfl (g_move hF rfl), fun a w gG hF hS hd => by exact par_val hS rfl (g_fieldAddr ty_fo_32_1 hF rfl), fun a w gG hF hS hd => by have hF := hF.ext1 31 (hd 5 rfl rfl); have hM := hS.mem rfl; exact par_val hS rfl (g_load ty_on_2 hF rfl (hM.row 0 rfl) (algC_n (by omega))), fun a w gG hF hS hd => by have hF := hF.ext1 30 (hd 4 rfl rfl); have hF := hF.ext1 32 (hd 6 rfl rfl); exact par_val hS rfl (g_rem hF rfl rfl (by omega) (rem_nat (gk) (n))), fun a w gG hF hS hd => by have hF := hF.ext1 33 (hd 7 rfl rfl); exact par_val hS rfl (g_indexAddr ty_ar_30 hF rfl rfl rfl (by omega)), fun a w gG hF hS hd => by have hF := hF.ext1 34 (hd 8 rfl rfl); have hM := hS.mem rfl; exact par_val hS rfl (g_load ty_on_5 hF rfl (hM.row 2 rfl) (vecC_get ((gk) % (n)) (by omega) (by omega))), trivial⟩ ?_
    intro a w' L hF hS hq
    have hF := hF.ext1 26 (hq 0 rfl rfl)
    have hF := hF.ext1 27 (hq 1 rfl rfl)
    have hF := hF.ext1 28 (hq 2 rfl rfl)
    have hF := hF.ext1 29 (hq 3 rfl rfl)
    have hF := hF.ext1 30 (hq 4 rfl rfl)
    have hF := hF.ext1 31 (hq 5 rfl rfl)
    have hF := hF.ext1 32 (hq 6 rfl rfl)
    have hF := hF.ext1 33 (hq 7 rfl rfl)
    have hF := hF.ext1 34 (hq 8 rfl rfl)
    have hF := hF.ext1 35 (hq 9 rfl rfl)
    have hM := hS.mem rfl
    change wpList Tryd.prog _ _ [_, _] _ _
    refine st hF (g_indexSl (i := 6) ty_sl_85 hF rfl rfl rfl (by omega)) rfl fun a hF => ?_
    refine stN hF (d_store 4 hM rfl ty_on_5 hF rfl rfl rfl (by first | omega | (simp only [fnC_size, cells_size, vecC_size, tabC_size, planeC_size] <;> omega) | simp)) ?_
    intro _ w' a hM hF
    rw [show (fnC 7 (fun x => .int .u8 (0))).setIfInBounds (0 + (6) * 1) (.int .u8 (((cc ((gk) % (n)) : Nat) : Int))) = fnC 7 (fun x => .int .u8 (((if x = 6 then cc ((gk) % (n)) else 0) : Nat) : Int)) from fnC_set (fun x _ => by rw [show 0 + (6) * 1 = 6 by omega]; by_cases hh : x = 6 <;> simp [hh])] at hM
    change Mem w w' [some (b1, algC (p : Int) (n : Int) T f), some (b2, vecC bb), some (b3, vecC cc), some (bo, (cso).setIfInBounds (0 + (gk) * 1) (.slice (some ⟨b6, 0, none⟩) (7) (7))), some (b6, fnC 7 (fun x => .int .u8 (((if x = 6 then cc ((gk) % (n)) else 0) : Nat) : Int))), none, none] D1 at hM
    refine wpList_nil (iN (tN (wp_region_lit ?_)))
    refine st hF (g_add hF rfl rfl (add_nat (gk) (1) (by omega))) rfl fun a hF => st hF (g_move hF rfl) rfl fun a hF => ?_
    refine wpList_nil (tN ?_)
    have hgb := hM.ge 4 rfl
    have hnb := fun i hi => (hM.froz _ _ (hB.mem i hi)).2 4 b6 _ rfl
    have hM := hM.freeze 4 rfl
    have hB := ((hB.more (D' := (b6, fnC 7 (fun x => .int .u8 (((if x = 6 then cc ((gk) % (n)) else 0) : Nat) : Int))) :: D1) (fun x hx => List.mem_cons_of_mem _ hx)).snoc (r := fun c => if c = 6 then cc (gk % n) else 0) rfl (List.mem_cons_self ..) hnb).congr (M' := (eqG p n T bb cc 0)) (fun i hi c hc => by
      by_cases e : i = gk <;> simp [upE, eqG, e])
    have hgo : ∀ i, i < gk + 1 → ((cso).setIfInBounds (0 + (gk) * 1) (.slice (some ⟨b6, 0, none⟩) (7) (7)))[0 + i * 1]? = some (.slice (some ⟨up β gk b6 i, 0, none⟩) 7 7) := fun i hi => by
      unfold up
      by_cases e : i = gk
      · rw [if_pos e, e]; exact hself
      · rw [if_neg e, Array.getElem?_setIfInBounds_ne (by omega)]; exact hgo i (by omega)
    have hbg : ∀ i, i < gk + 1 → w.heap.size ≤ up β gk b6 i := fun i hi => by
      unfold up; split
      · exact hgb
      · exact hbg i (by omega)
    skip
    have hM := hM.drop 4
    refine ⟨gk + 1, ⟨by omega, ((b6, fnC 7 (fun x => .int .u8 (((if x = 6 then cc ((gk) % (n)) else 0) : Nat) : Int))) :: D1), (up β gk b6), ((cso).setIfInBounds (0 + (gk) * 1) (.slice (some ⟨b6, 0, none⟩) (7) (7))), ⟨by rw [Array.size_setIfInBounds]; exact hso, hgo, hB, hbg⟩, hF.sub _ (by repeat' constructor), ?_⟩, by omega⟩
    exact hM
   ·
    obtain rfl : 2 * n = gk := by omega
    refine wp_exit (tX (tX ?_))
    refine ib_same ?_
    refine tN (sq (sq (wp_region_lit ?_)))
    refine st hF (g_fieldAddr ty_fo_32_1 hF rfl) rfl fun a hF => st hF (g_load ty_on_2 hF rfl (hM.row 0 rfl) (algC_n (by omega))) rfl fun a hF => st hF (g_move hF rfl) rfl fun a hF => ?_
    refine wpList_nil (tN (wp_block ?_))
    change Mem w _ [some (b1, algC (p : Int) (n : Int) T f), some (b2, vecC bb), some (b3, vecC cc), some (bo, cso), none, none, none] D1 at hM
    refine c_loop (fun (kk : Nat) a w' => kk ≤ n ∧ ∃ (D2 : Froz), (RowsB D2 7 (2 * n) β (eqG p n T bb cc kk)) ∧ Fr 82 a [(0, .agg (algC (p : Int) (n : Int) T f)), (1, .agg (vecC bb)), (2, .agg (vecC cc)), (3, ptr b1 (0)), (4, ptr b2 (0)), (5, ptr b3 (0)), (6, .slice none 0 0), (13, ptr b1 (0 + 1)), (14, .int .i64 (((n : Nat) : Int))), (15, .int .i64 ((((2) * (n) : Nat) : Int))), (16, .slice (some ⟨bo, 0, none⟩) ((2) * (n)) ((2) * (n))), (7, .slice (some ⟨bo, 0, none⟩) ((2) * (n)) ((2) * (n))), (17, .slice (some ⟨bo, 0, none⟩) ((2) * (n)) ((2) * (n))), (18, .int .i64 ((((2) * (n) : Nat) : Int))), (19, .int .i64 ((((2 * n) : Nat) : Int))), (20, .bool (decide (((((2 * n) : Nat) : Int) : Int) < (((2) * (n) : Nat) : Int)))), (38, ptr b1 (0 + 1)), (39, .int .i64 (((n : Nat) : Int))), (40, .int .i64 (((kk : Nat) : Int)))] ∧ Mem w w' [some (b1, algC (p : Int) (n : Int) T f), some (b2, vecC bb), some (b3, vecC cc), some (bo, cso), none, none, none] D2) (fun kk => n - kk) 0 ?_ ?_
    ·
     refine ⟨by omega, D1, hB, hF.sub _ (by repeat' constructor), ?_⟩
     exact hM
    ·
     clear hF hM
     rintro gi a w' ⟨hgi, D2, hB, hF, hM⟩
     refine sq (wp_region_lit ?_)
     refine st hF (g_lss hF rfl rfl) rfl fun a hF => ?_
     refine wpList_nil (tN (sq ?_))
     refine c_cond hF rfl (fun h7 => ?_) (fun h7 => ?_)
     ·
      refine wp_skip (tN (sq (wp_block (sq (wp_region_lit ?_)))))
      refine st hF (g_move hF rfl) rfl fun a hF => st hF (g_assign hF rfl) rfl fun a hF => ?_
      refine wpList_nil (tN (sq ?_))
      refine c_par 12 [5, 6] [.val (.agg (algC (p : Int) (n : Int) T f)), .val (.int .i64 (((gi : Nat) : Int))), .val (.agg (vecC (fun c => if c = gi then 1 else 0))), .val (.agg (vecC bb)), .val (.agg (vecC (timesV p n T ((fun c => if c = gi then 1 else 0)) (bb)))), .val (.agg (algC (p : Int) (n : Int) T f)), .val (.agg (vecC bb)), .val (.int .i64 (((gi : Nat) : Int))), .val (.agg (vecC (fun c => if c = gi then 1 else 0))), .val (.agg (vecC (timesV p n T (bb) ((fun c => if c = gi then 1 else 0))))), .own 5 (fnC 6 (fun _ => .int .u8 (0))) (fun b => ptr b 0), .own 6 (fnC 6 (fun _ => .int .u8 (0))) (fun b => ptr b 0)] hmix rfl hF rfl hM ⟨fun a w gG hF hS hd => by have hM := hS.mem rfl; exact par_val hS rfl (g_loadAgg ty_ag_32 hF rfl (hM.row 0 rfl) (by simp only [fnC_size, cells_size, vecC_size, tabC_size, planeC_size] <;> omega) (whole cells_size)), fun a w gG hF hS hd => by exact par_val hS rfl (g_move hF rfl), fun a w gG hF hS hd => by have hF := hF.ext1 44 (hd 1 rfl rfl); exact par_call (by repeat constructor) hS rfl (d_call Tryd.call68 hF (.cons rfl .nil) (basisVector_ok (gi) _ (by omega))), fun a w gG hF hS hd => by have hM := hS.mem rfl; exact par_val hS rfl (g_loadAgg ty_ag_30 hF rfl (hM.row 1 rfl) (by simp only [fnC_size, cells_size, vecC_size, tabC_size, planeC_size] <;> omega) (whole (by simp only [fnC_size, cells_size, vecC_size, tabC_size, planeC_size]))), fun a w gG hF hS hd => by have hF := hF.ext1 43 (hd 0 rfl rfl); have hF := hF.ext1 45 (hd 2 rfl rfl); have hF := hF.ext1 46 (hd 3 rfl rfl); exact par_call (by repeat constructor) hS rfl (d_call Tryd.call75 hF (.cons rfl (.cons rfl (.cons rfl .nil))) (product_ok p n T f ((fun c => if c = gi then 1 else 0)) (bb) _ (by omega) (by omega) (by omega) (fun _ _ _ => hT _ _ _) (fun _ => by first | exact hv _ | exact hu _ | exact hT _ _ _ | exact hf _ | omega | (split <;> omega) | (dsimp only; split <;> omega) | assumption) (fun _ => by first | exact hv _ | exact hu _ | exact hT _ _ _ | exact hf _ | omega | (split <;> omega) | (dsimp only; split <;> omega) | assumption))), fun a w gG hF hS hd => by have hM := hS.mem rfl; exact par_val hS rfl (g_loadAgg ty_ag_32 hF rfl (hM.row 0 rfl) (by simp only [fnC_size, cells_size, vecC_size, tabC_size, planeC_size] <;> omega) (whole cells_size)), fun a w gG hF hS hd => by have hM := hS.mem rfl; exact par_val hS rfl (g_loadAgg ty_ag_30 hF rfl (hM.row 1 rfl) (by simp only [fnC_size, cells_size, vecC_size, tabC_size, planeC_size] <;> omega) (whole (by simp only [fnC_size, cells_size, vecC_size, tabC_size, planeC_size]))), fun a w gG hF hS hd => by exact par_val hS rfl (g_move hF rfl), fun a w gG hF hS hd => by have hF := hF.ext1 50 (hd 7 rfl rfl); exact par_call (by repeat constructor) hS rfl (d_call Tryd.call68 hF (.cons rfl .nil) (basisVector_ok (gi) _ (by omega))), fun a w gG hF hS hd => by have hF := hF.ext1 48 (hd 5 rfl rfl); have hF := hF.ext1 49 (hd 6 rfl rfl); have hF := hF.ext1 51 (hd 8 rfl rfl); exact par_call (by repeat constructor) hS rfl (d_call Tryd.call75 hF (.cons rfl (.cons rfl (.cons rfl .nil))) (product_ok p n T f (bb) ((fun c => if c = gi then 1 else 0)) _ (by omega) (by omega) (by omega) (fun _ _ _ => hT _ _ _) (fun _ => by first | exact hv _ | exact hu _ | exact hT _ _ _ | exact hf _ | omega | (split <;> omega) | (dsimp only; split <;> omega) | assumption) (fun _ => by first | exact hv _ | exact hu _ | exact hT _ _ _ | exact hf _ | omega | (split <;> omega) | (dsimp only; split <;> omega) | assumption))), fun a w gG hF hS hd => by exact par_own (by repeat constructor) hS rfl rfl rfl rfl (d_alloc 5 hS.1 ty_ze_30), fun a w gG hF hS hd => by exact par_own (by repeat constructor) hS rfl rfl rfl rfl (d_alloc 6 hS.1 ty_ze_30), trivial⟩ ?_
      intro a w' L hF hS hq
      have hF := hF.ext1 43 (hq 0 rfl rfl)
      have hF := hF.ext1 44 (hq 1 rfl rfl)
      have hF := hF.ext1 45 (hq 2 rfl rfl)
      have hF := hF.ext1 46 (hq 3 rfl rfl)
      have hF := hF.ext1 47 (hq 4 rfl rfl)
      have hF := hF.ext1 48 (hq 5 rfl rfl)
      have hF := hF.ext1 49 (hq 6 rfl rfl)
      have hF := hF.ext1 50 (hq 7 rfl rfl)
      have hF := hF.ext1 51 (hq 8 rfl rfl)
      have hF := hF.ext1 52 (hq 9 rfl rfl)
      obtain ⟨hM, hL⟩ := hS
      obtain ⟨b8, hptr, hkk⟩ := hq 10 rfl rfl
      have hF := hF.ext1 10 hptr
      have hL := hL.take hkk
      obtain ⟨b9, hptr, hkk⟩ := hq 11 rfl rfl
      have hF := hF.ext1 11 hptr
      have hL := hL.take hkk
      obtain rfl := hL.eq
      change Mem w w' [some (b1, algC (p : Int) (n : Int) T f), some (b2, vecC bb), some (b3, vecC cc), some (bo, cso), none, some (b8, fnC 6 (fun _ => .int .u8 (0))), some (b9, fnC 6 (fun _ => .int .u8 (0)))] D2 at hM
      change wpList Tryd.prog _ _ [_, _] _ _
      refine stN hF (d_storeAgg 5 hM rfl ty_sz_30 hF rfl rfl (by first | exact vecC_one | exact cells_one | (refine fnC_one fun _ _ => ?_; first | rfl | (split <;> rfl))) (by simp only [fnC_size, cells_size, vecC_size, tabC_size, planeC_size]) (by simp only [fnC_size, cells_size, vecC_size, tabC_size, planeC_size] <;> omega) (splice_whole _ _ (by simp only [fnC_size, cells_size, vecC_size, tabC_size, planeC_size]))) ?_
      intro _ w' a hM hF
      change Mem w w' [some (b1, algC (p : Int) (n : Int) T f), some (b2, vecC bb), some (b3, vecC cc), some (bo, cso), none, some (b8, vecC (timesV p n T ((fun c => if c = gi then 1 else 0)) (bb))), some (b9, fnC 6 (fun _ => .int .u8 (0)))] D2 at hM
      refine stN hF (d_storeAgg 6 hM rfl ty_sz_30 hF rfl rfl (by first | exact vecC_one | exact cells_one | (refine fnC_one fun _ _ => ?_; first | rfl | (split <;> rfl))) (by simp only [fnC_size, cells_size, vecC_size, tabC_size, planeC_size]) (by simp only [fnC_size, cells_size, vecC_size, tabC_size, planeC_size] <;> omega) (splice_whole _ _ (by simp only [fnC_size, cells_size, vecC_size, tabC_size, planeC_size]))) ?_
      intro _ w' a hM hF
      change Mem w w' [some (b1, algC (p : Int) (n : Int) T f), some (b2, vecC bb), some (b3, vecC cc), some (bo, cso), none, some (b8, vecC (timesV p n T ((fun c => if c = gi then 1 else 0)) (bb))), some (b9, vecC (timesV p n T (bb) ((fun c => if c = gi then 1 else 0))))] D2 at hM
      refine wpList_nil (tN (sq (wp_region_lit ?_)))
      refine st hF (g_fieldAddr ty_fo_32_1 hF rfl) rfl fun a hF => st hF (g_load ty_on_2 hF rfl (hM.row 0 rfl) (algC_n (by omega))) rfl fun a hF => st hF (g_move hF rfl) rfl fun a hF => ?_
      refine wpList_nil (tN (wp_block ?_))
      change Mem w _ [some (b1, algC (p : Int) (n : Int) T f), some (b2, vecC bb), some (b3, vecC cc), some (bo, cso), none, some (b8, vecC (timesV p n T ((fun c => if c = gi then 1 else 0)) (bb))), some (b9, vecC (timesV p n T (bb) ((fun c => if c = gi then 1 else 0))))] D2 at hM
      refine c_loop (fun (kk : Nat) a w' => kk ≤ n ∧ ∃ (D3 : Froz), (RowsB D3 7 (2 * n) β (eqH p n T bb cc gi kk)) ∧ Fr 82 a [(11, ptr b9 (0)), (10, ptr b8 (0)), (52, .agg (vecC (timesV p n T (bb) ((fun c => if c = gi then 1 else 0))))), (51, .agg (vecC (fun c => if c = gi then 1 else 0))), (50, .int .i64 (((gi : Nat) : Int))), (49, .agg (vecC bb)), (48, .agg (algC (p : Int) (n : Int) T f)), (47, .agg (vecC (timesV p n T ((fun c => if c = gi then 1 else 0)) (bb)))), (46, .agg (vecC bb)), (45, .agg (vecC (fun c => if c = gi then 1 else 0))), (44, .int .i64 (((gi : Nat) : Int))), (43, .agg (algC (p : Int) (n : Int) T f)), (0, .agg (algC (p : Int) (n : Int) T f)), (1, .agg (vecC bb)), (2, .agg (vecC cc)), (3, ptr b1 (0)), (4, ptr b2 (0)), (5, ptr b3 (0)), (6, .slice none 0 0), (13, ptr b1 (0 + 1)), (14, .int .i64 (((n : Nat) : Int))), (15, .int .i64 ((((2) * (n) : Nat) : Int))), (16, .slice (some ⟨bo, 0, none⟩) ((2) * (n)) ((2) * (n))), (7, .slice (some ⟨bo, 0, none⟩) ((2) * (n)) ((2) * (n))), (17, .slice (some ⟨bo, 0, none⟩) ((2) * (n)) ((2) * (n))), (18, .int .i64 ((((2) * (n) : Nat) : Int))), (19, .int .i64 ((((2 * n) : Nat) : Int))), (20, .bool (decide (((((2 * n) : Nat) : Int) : Int) < (((2) * (n) : Nat) : Int)))), (38, ptr b1 (0 + 1)), (39, .int .i64 (((n : Nat) : Int))), (40, .int .i64 (((gi : Nat) : Int))), (41, .bool (decide ((((gi : Nat) : Int) : Int) < ((n : Nat) : Int)))), (42, .int .i64 (((gi : Nat) : Int))), (9, .int .i64 (((gi : Nat) : Int))), (53, ptr b1 (0 + 1)), (54, .int .i64 (((n : Nat) : Int))), (55, .int .i64 (((kk : Nat) : Int)))] ∧ Mem w w' [some (b1, algC (p : Int) (n : Int) T f), some (b2, vecC bb), some (b3, vecC cc), some (bo, cso), none, some (b8, vecC (timesV p n T ((fun c => if c = gi then 1 else 0)) (bb))), some (b9, vecC (timesV p n T (bb) ((fun c => if c = gi then 1 else 0))))] D3) (fun kk => n - kk) 0 ?_ ?_
      ·
       refine ⟨by omega, D2, hB.congr (fun r hr c _ => eqH_zero.symm), hF.sub _ (by repeat' constructor), ?_⟩
       exact hM
      ·
       clear hF hM
       rintro gk a w' ⟨hgk, D3, hB, hF, hM⟩
       refine sq (wp_region_lit ?_)
       refine st hF (g_lss hF rfl rfl) rfl fun a hF => ?_
       refine wpList_nil (tN (sq ?_))
       refine c_cond hF rfl (fun h10 => ?_) (fun h10 => ?_)
       ·
        refine wp_skip (tN (sq (wp_block (sq (wp_region_lit ?_)))))
        refine st hF (g_move hF rfl) rfl fun a hF => st hF (g_assign hF rfl) rfl fun a hF => ?_
        refine wpList_nil (tN ?_)
        refine c_drawS (S := fun (b : Bool) w2 => MemX [] w w2 [some (b1, algC (p : Int) (n : Int) T f), some (b2, vecC bb), some (b3, vecC cc), some (bo, cso), none, some (b8, vecC (timesV p n T ((fun c => if c = gi then 1 else 0)) (bb))), some (b9, vecC (timesV p n T (bb) ((fun c => if c = gi then 1 else 0))))] (if b then updD D3 (β gk) ((fnC 7 (fun c => .int .u8 (((eqH p n T bb cc gi gk) gk c : Nat) : Int))).setIfInBounds (0 + (gi) * 1) (.int .u8 (((timesV p n T (fun x => if x = gi then 1 else 0) bb gk : Nat) : Int)))) else D3)) 21 20 hmix rfl rfl rfl hF rfl (fun j o hj hne => dstAll_spec (s := 20) (i := 0) rfl j o hj (by omega)) hM (fun b w h => h.ext (Below.drew (Below.refl _ _))) (vAt [.slice (some ⟨bo, 0, none⟩) ((2) * (n)) ((2) * (n)), .int .i64 (((gk : Nat) : Int)), ptr bo (0 + (gk) * 1), .slice (some ⟨β (gk), 0, none⟩) (7) (7), .int .i64 (((gi : Nat) : Int)), .slice (some ⟨bo, 0, none⟩) ((2) * (n)) ((2) * (n)), ptr b1 (0 + 1), .int .i64 (((n : Nat) : Int)), .int .i64 (((gk : Nat) : Int)), .int .i64 (((n + gk : Nat) : Int)), ptr bo (0 + (n + gk) * 1), .slice (some ⟨β (n + gk), 0, none⟩) (7) (7), .int .i64 (((gi : Nat) : Int)), .int .i64 (((gk : Nat) : Int)), ptr b8 (0 + (gk) * 1), .int .u8 ((((timesV p n T ((fun c => if c = gi then 1 else 0)) (bb)) (gk) : Nat) : Int)), .int .i64 (((gk : Nat) : Int)), ptr b9 (0 + (gk) * 1), .int .u8 ((((timesV p n T (bb) ((fun c => if c = gi then 1 else 0))) (gk) : Nat) : Int)), ptr (β (gk)) (0 + (gi) * 1), undef]) ⟨fun a w2 b hF hS hb hd => by exact parS_val (S := fun (b : Bool) w2 => MemX [] w w2 [some (b1, algC (p : Int) (n : Int) T f), some (b2, vecC bb), some (b3, vecC cc), some (bo, cso), none, some (b8, vecC (timesV p n T ((fun c => if c = gi then 1 else 0)) (bb))), some (b9, vecC (timesV p n T (bb) ((fun c => if c = gi then 1 else 0))))] (if b then updD D3 (β gk) ((fnC 7 (fun c => .int .u8 (((eqH p n T bb cc gi gk) gk c : Nat) : Int))).setIfInBounds (0 + (gi) * 1) (.int .u8 (((timesV p n T (fun x => if x = gi then 1 else 0) bb gk : Nat) : Int)))) else D3)) hS (g_move hF rfl), fun a w2 b hF hS hb hd => by exact parS_val (S := fun (b : Bool) w2 => MemX [] w w2 [some (b1, algC (p : Int) (n : Int) T f), some (b2, vecC bb), some (b3, vecC cc), some (bo, cso), none, some (b8, vecC (timesV p n T ((fun c => if c = gi then 1 else 0)) (bb))), some (b9, vecC (timesV p n T (bb) ((fun c => if c = gi then 1 else 0))))] (if b then updD D3 (β gk) ((fnC 7 (fun c => .int .u8 (((eqH p n T bb cc gi gk) gk c : Nat) : Int))).setIfInBounds (0 + (gi) * 1) (.int .u8 (((timesV p n T (fun x => if x = gi then 1 else 0) bb gk : Nat) : Int)))) else D3)) hS (g_move hF rfl), fun a w2 b hF hS hb hd => by have hF := hF.ext1 58 (hd 0 rfl rfl rfl); have hF := hF.ext1 59 (hd 1 rfl rfl rfl); exact parS_val (S := fun (b : Bool) w2 => MemX [] w w2 [some (b1, algC (p : Int) (n : Int) T f), some (b2, vecC bb), some (b3, vecC cc), some (bo, cso), none, some (b8, vecC (timesV p n T ((fun c => if c = gi then 1 else 0)) (bb))), some (b9, vecC (timesV p n T (bb) ((fun c => if c = gi then 1 else 0))))] (if b then updD D3 (β gk) ((fnC 7 (fun c => .int .u8 (((eqH p n T bb cc gi gk) gk c : Nat) : Int))).setIfInBounds (0 + (gi) * 1) (.int .u8 (((timesV p n T (fun x => if x = gi then 1 else 0) bb gk : Nat) : Int)))) else D3)) hS (g_indexSl (i := gk) ty_sl_81 hF rfl rfl rfl (by omega)), fun a w2 b hF hS hb hd => by have hF := hF.ext1 60 (hd 2 rfl rfl rfl); obtain rfl := hb rfl; have hM : MemX [] w w2 [some (b1, algC (p : Int) (n : Int) T f), some (b2, vecC bb), some (b3, vecC cc), some (bo, cso), none, some (b8, vecC (timesV p n T ((fun c => if c = gi then 1 else 0)) (bb))), some (b9, vecC (timesV p n T (bb) ((fun c => if c = gi then 1 else 0))))] D3 := hS; exact parS_val (S := fun (b : Bool) w2 => MemX [] w w2 [some (b1, algC (p : Int) (n : Int) T f), some (b2, vecC bb), some (b3, vecC cc), some (bo, cso), none, some (b8, vecC (timesV p n T ((fun c => if c = gi then 1 else 0)) (bb))), some (b9, vecC (timesV p n T (bb) ((fun c => if c = gi then 1 else 0))))] (if b then updD D3 (β gk) ((fnC 7 (fun c => .int .u8 (((eqH p n T bb cc gi gk) gk c : Nat) : Int))).setIfInBounds (0 + (gi) * 1) (.int .u8 (((timesV p n T (fun x => if x = gi then 1 else 0) bb gk : Nat) : Int)))) else D3)) (b := false) hS (g_load ty_on_85 hF rfl (hM.row 3 rfl) (hgo (gk) (by omega))), fun a w2 b hF hS hb hd => by exact parS_val (S := fun (b : Bool) w2 => MemX [] w w2 [some (b1, algC (p : Int) (n : Int) T f), some (b2, vecC bb), some (b3, vecC cc), some (bo, cso), none, some (b8, vecC (timesV p n T ((fun c => if c = gi then 1 else 0)) (bb))), some (b9, vecC (timesV p n T (bb) ((fun c => if c = gi then 1 else 0))))] (if b then updD D3 (β gk) ((fnC 7 (fun c => .int .u8 (((eqH p n T bb cc gi gk) gk c : Nat) : Int))).setIfInBounds (0 + (gi) * 1) (.int .u8 (((timesV p n T (fun x => if x = gi then 1 else 0) bb gk : Nat) : Int)))) else D3)) hS (g_move hF rfl), fun a w2 b hF hS hb hd => by exact parS_val (S := fun (b : Bool) w2 => MemX [] w w2 [some (b1, algC (p : Int) (n : Int) T f), some (b2, vecC bb), some (b3, vecC cc), some (bo, cso), none, some (b8, vecC (timesV p n T ((fun c => if c = gi then 1 else 0)) (bb))), some (b9, vecC (timesV p n T (bb) ((fun c => if c = gi then 1 else 0))))] (if b then updD D3 (β gk) ((fnC 7 (fun c => .int .u8 (((eqH p n T bb cc gi gk) gk c : Nat) : Int))).setIfInBounds (0 + (gi) * 1) (.int .u8 (((timesV p n T (fun x => if x = gi then 1 else 0) bb gk : Nat) : Int)))) else D3)) hS (g_move hF rfl), fun a w2 b hF hS hb hd => by exact parS_val (S := fun (b : Bool) w2 => MemX [] w w2 [some (b1, algC (p : Int) (n : Int) T f), some (b2, vecC bb), some (b3, vecC cc), some (bo, cso), none, some (b8, vecC (timesV p n T ((fun c => if c = gi then 1 else 0)) (bb))), some (b9, vecC (timesV p n T (bb) ((fun c => if c = gi then 1 else 0))))] (if b then updD D3 (β gk) ((fnC 7 (fun c => .int .u8 (((eqH p n T bb cc gi gk) gk c : Nat) : Int))).setIfInBounds (0 + (gi) * 1) (.int .u8 (((timesV p n T (fun x => if x = gi then 1 else 0) bb gk : Nat) : Int)))) else D3)) hS (g_fieldAddr ty_fo_32_1 hF rfl), fun a w2 b hF hS hb hd => by have hF := hF.ext1 64 (hd 6 rfl rfl rfl); have hM := hS; exact parS_val (S := fun (b : Bool) w2 => MemX [] w w2 [some (b1, algC (p : Int) (n : Int) T f), some (b2, vecC bb), some (b3, vecC cc), some (bo, cso), none, some (b8, vecC (timesV p n T ((fun c => if c = gi then 1 else 0)) (bb))), some (b9, vecC (timesV p n T (bb) ((fun c => if c = gi then 1 else 0))))] (if b then updD D3 (β gk) ((fnC 7 (fun c => .int .u8 (((eqH p n T bb cc gi gk) gk c : Nat) : Int))).setIfInBounds (0 + (gi) * 1) (.int .u8 (((timesV p n T (fun x => if x = gi then 1 else 0) bb gk : Nat) : Int)))) else D3)) hS (g_load ty_on_2 hF rfl (hM.row 0 rfl) (algC_n (by omega))), fun a w2 b hF hS hb hd => by exact parS_val (S := fun (b : Bool) w2 => MemX [] w w2 [some (b1, algC (p : Int) (n : Int) T f), some (b2, vecC bb), some (b3, vecC cc), some (bo, cso), none, some (b8, vecC (timesV p n T ((fun c => if c = gi then 1 else 0)) (bb))), some (b9, vecC (timesV p n T (bb) ((fun c => if c = gi then 1 else 0))))] (if b then updD D3 (β gk) ((fnC 7 (fun c => .int .u8 (((eqH p n T bb cc gi gk) gk c : Nat) : Int))).setIfInBounds (0 + (gi) * 1) (.int .u8 (((timesV p n T (fun x => if x = gi then 1 else 0) bb gk : Nat) : Int)))) else D3)) hS (g_move hF rfl), fun a w2 b hF hS hb hd => by have hF := hF.ext1 65 (hd 7 rfl rfl rfl); have hF := hF.ext1 66 (hd 8 rfl rfl rfl); exact parS_val (S := fun (b : Bool) w2 => MemX [] w w2 [some (b1, algC (p : Int) (n : Int) T f), some (b2, vecC bb), some (b3, vecC cc), some (bo, cso), none, some (b8, vecC (timesV p n T ((fun c => if c = gi then 1 else 0)) (bb))), some (b9, vecC (timesV p n T (bb) ((fun c => if c = gi then 1 else 0))))] (if b then updD D3 (β gk) ((fnC 7 (fun c => .int .u8 (((eqH p n T bb cc gi gk) gk c : Nat) : Int))).setIfInBounds (0 + (gi) * 1) (.int .u8 (((timesV p n T (fun x => if x = gi then 1 else 0) bb gk : Nat) : Int)))) else D3)) hS (g_add hF rfl rfl (add_nat (n) (gk) (by omega))), fun a w2 b hF hS hb hd => by have hF := hF.ext1 63 (hd 5 rfl rfl rfl); have hF := hF.ext1 67 (hd 9 rfl rfl rfl); exact parS_val (S := fun (b : Bool) w2 => MemX [] w w2 [some (b1, algC (p : Int) (n : Int) T f), some (b2, vecC bb), some (b3, vecC cc), some (bo, cso), none, some (b8, vecC (timesV p n T ((fun c => if c = gi then 1 else 0)) (bb))), some (b9, vecC (timesV p n T (bb) ((fun c => if c = gi then 1 else 0))))] (if b then updD D3 (β gk) ((fnC 7 (fun c => .int .u8 (((eqH p n T bb cc gi gk) gk c : Nat) : Int))).setIfInBounds (0 + (gi) * 1) (.int .u8 (((timesV p n T (fun x => if x = gi then 1 else 0) bb gk : Nat) : Int)))) else D3)) hS (g_indexSl (i := n + gk) ty_sl_81 hF rfl rfl rfl (by omega)), fun a w2 b hF hS hb hd => by have hF := hF.ext1 68 (hd 10 rfl rfl rfl); obtain rfl := hb rfl; have hM : MemX [] w w2 [some (b1, algC (p : Int) (n : Int) T f), some (b2, vecC bb), some (b3, vecC cc), some (bo, cso), none, some (b8, vecC (timesV p n T ((fun c => if c = gi then 1 else 0)) (bb))), some (b9, vecC (timesV p n T (bb) ((fun c => if c = gi then 1 else 0))))] D3 := hS; exact parS_val (S := fun (b : Bool) w2 => MemX [] w w2 [some (b1, algC (p : Int) (n : Int) T f), some (b2, vecC bb), some (b3, vecC cc), some (bo, cso), none, some (b8, vecC (timesV p n T ((fun c => if c = gi then 1 else 0)) (bb))), some (b9, vecC (timesV p n T (bb) ((fun c => if c = gi then 1 else 0))))] (if b then updD D3 (β gk) ((fnC 7 (fun c => .int .u8 (((eqH p n T bb cc gi gk) gk c : Nat) : Int))).setIfInBounds (0 + (gi) * 1) (.int .u8 (((timesV p n T (fun x => if x = gi then 1 else 0) bb gk : Nat) : Int)))) else D3)) (b := false) hS (g_load ty_on_85 hF rfl (hM.row 3 rfl) (hgo (n + gk) (by omega))), fun a w2 b hF hS hb hd => by exact parS_val (S := fun (b : Bool) w2 => MemX [] w w2 [some (b1, algC (p : Int) (n : Int) T f), some (b2, vecC bb), some (b3, vecC cc), some (bo, cso), none, some (b8, vecC (timesV p n T ((fun c => if c = gi then 1 else 0)) (bb))), some (b9, vecC (timesV p n T (bb) ((fun c => if c = gi then 1 else 0))))] (if b then updD D3 (β gk) ((fnC 7 (fun c => .int .u8 (((eqH p n T bb cc gi gk) gk c : Nat) : Int))).setIfInBounds (0 + (gi) * 1) (.int .u8 (((timesV p n T (fun x => if x = gi then 1 else 0) bb gk : Nat) : Int)))) else D3)) hS (g_move hF rfl), fun a w2 b hF hS hb hd => by exact parS_val (S := fun (b : Bool) w2 => MemX [] w w2 [some (b1, algC (p : Int) (n : Int) T f), some (b2, vecC bb), some (b3, vecC cc), some (bo, cso), none, some (b8, vecC (timesV p n T ((fun c => if c = gi then 1 else 0)) (bb))), some (b9, vecC (timesV p n T (bb) ((fun c => if c = gi then 1 else 0))))] (if b then updD D3 (β gk) ((fnC 7 (fun c => .int .u8 (((eqH p n T bb cc gi gk) gk c : Nat) : Int))).setIfInBounds (0 + (gi) * 1) (.int .u8 (((timesV p n T (fun x => if x = gi then 1 else 0) bb gk : Nat) : Int)))) else D3)) hS (g_move hF rfl), fun a w2 b hF hS hb hd => by have hF := hF.ext1 71 (hd 13 rfl rfl rfl); exact parS_val (S := fun (b : Bool) w2 => MemX [] w w2 [some (b1, algC (p : Int) (n : Int) T f), some (b2, vecC bb), some (b3, vecC cc), some (bo, cso), none, some (b8, vecC (timesV p n T ((fun c => if c = gi then 1 else 0)) (bb))), some (b9, vecC (timesV p n T (bb) ((fun c => if c = gi then 1 else 0))))] (if b then updD D3 (β gk) ((fnC 7 (fun c => .int .u8 (((eqH p n T bb cc gi gk) gk c : Nat) : Int))).setIfInBounds (0 + (gi) * 1) (.int .u8 (((timesV p n T (fun x => if x = gi then 1 else 0) bb gk : Nat) : Int)))) else D3)) hS (g_indexAddr ty_ar_30 hF rfl rfl rfl (by omega)), fun a w2 b hF hS hb hd => by have hF := hF.ext1 72 (hd 14 rfl rfl rfl); obtain rfl := hb rfl; have hM : MemX [] w w2 [some (b1, algC (p : Int) (n : Int) T f), some (b2, vecC bb), some (b3, vecC cc), some (bo, cso), none, some (b8, vecC (timesV p n T ((fun c => if c = gi then 1 else 0)) (bb))), some (b9, vecC (timesV p n T (bb) ((fun c => if c = gi then 1 else 0))))] D3 := hS; exact parS_val (S := fun (b : Bool) w2 => MemX [] w w2 [some (b1, algC (p : Int) (n : Int) T f), some (b2, vecC bb), some (b3, vecC cc), some (bo, cso), none, some (b8, vecC (timesV p n T ((fun c => if c = gi then 1 else 0)) (bb))), some (b9, vecC (timesV p n T (bb) ((fun c => if c = gi then 1 else 0))))] (if b then updD D3 (β gk) ((fnC 7 (fun c => .int .u8 (((eqH p n T bb cc gi gk) gk c : Nat) : Int))).setIfInBounds (0 + (gi) * 1) (.int .u8 (((timesV p n T (fun x => if x = gi then 1 else 0) bb gk : Nat) : Int)))) else D3)) (b := false) hS (g_load ty_on_5 hF rfl (hM.row 5 rfl) (vecC_get (gk) (by omega) (by omega))), fun a w2 b hF hS hb hd => by exact parS_val (S := fun (b : Bool) w2 => MemX [] w w2 [some (b1, algC (p : Int) (n : Int) T f), some (b2, vecC bb), some (b3, vecC cc), some (bo, cso), none, some (b8, vecC (timesV p n T ((fun c => if c = gi then 1 else 0)) (bb))), some (b9, vecC (timesV p n T (bb) ((fun c => if c = gi then 1 else 0))))] (if b then updD D3 (β gk) ((fnC 7 (fun c => .int .u8 (((eqH p n T bb cc gi gk) gk c : Nat) : Int))).setIfInBounds (0 + (gi) * 1) (.int .u8 (((timesV p n T (fun x => if x = gi then 1 else 0) bb gk : Nat) : Int)))) else D3)) hS (g_move hF rfl), fun a w2 b hF hS hb hd => by have hF := hF.ext1 74 (hd 16 rfl rfl rfl); exact parS_val (S := fun (b : Bool) w2 => MemX [] w w2 [some (b1, algC (p : Int) (n : Int) T f), some (b2, vecC bb), some (b3, vecC cc), some (bo, cso), none, some (b8, vecC (timesV p n T ((fun c => if c = gi then 1 else 0)) (bb))), some (b9, vecC (timesV p n T (bb) ((fun c => if c = gi then 1 else 0))))] (if b then updD D3 (β gk) ((fnC 7 (fun c => .int .u8 (((eqH p n T bb cc gi gk) gk c : Nat) : Int))).setIfInBounds (0 + (gi) * 1) (.int .u8 (((timesV p n T (fun x => if x = gi then 1 else 0) bb gk : Nat) : Int)))) else D3)) hS (g_indexAddr ty_ar_30 hF rfl rfl rfl (by omega)), fun a w2 b hF hS hb hd => by have hF := hF.ext1 75 (hd 17 rfl rfl rfl); have hM := hS; exact parS_val (S := fun (b : Bool) w2 => MemX [] w w2 [some (b1, algC (p : Int) (n : Int) T f), some (b2, vecC bb), some (b3, vecC cc), some (bo, cso), none, some (b8, vecC (timesV p n T ((fun c => if c = gi then 1 else 0)) (bb))), some (b9, vecC (timesV p n T (bb) ((fun c => if c = gi then 1 else 0))))] (if b then updD D3 (β gk) ((fnC 7 (fun c => .int .u8 (((eqH p n T bb cc gi gk) gk c : Nat) : Int))).setIfInBounds (0 + (gi) * 1) (.int .u8 (((timesV p n T (fun x => if x = gi then 1 else 0) bb gk : Nat) : Int)))) else D3)) hS (g_load ty_on_5 hF rfl (hM.row 6 rfl) (vecC_get (gk) (by omega) (by omega))), fun a w2 b hF hS hb hd => by have hF := hF.ext1 61 (hd 3 rfl rfl rfl); have hF := hF.ext1 62 (hd 4 rfl rfl rfl); exact parS_val (S := fun (b : Bool) w2 => MemX [] w w2 [some (b1, algC (p : Int) (n : Int) T f), some (b2, vecC bb), some (b3, vecC cc), some (bo, cso), none, some (b8, vecC (timesV p n T ((fun c => if c = gi then 1 else 0)) (bb))), some (b9, vecC (timesV p n T (bb) ((fun c => if c = gi then 1 else 0))))] (if b then updD D3 (β gk) ((fnC 7 (fun c => .int .u8 (((eqH p n T bb cc gi gk) gk c : Nat) : Int))).setIfInBounds (0 + (gi) * 1) (.int .u8 (((timesV p n T (fun x => if x = gi then 1 else 0) bb gk : Nat) : Int)))) else D3)) hS (g_indexSl (i := gi) ty_sl_85 hF rfl rfl rfl (by omega)), fun a w2 hF hS hd => by have hF := hF.ext1 73 (hd 15 rfl rfl rfl); have hF := hF.ext1 77 (hd 19 rfl rfl rfl); have hM : MemX [] w w2 [some (b1, algC (p : Int) (n : Int) T f), some (b2, vecC bb), some (b3, vecC cc), some (bo, cso), none, some (b8, vecC (timesV p n T ((fun c => if c = gi then 1 else 0)) (bb))), some (b9, vecC (timesV p n T (bb) ((fun c => if c = gi then 1 else 0))))] D3 := hS; exact d_storeD hM (hB.mem gk (by omega)) (.inl (hbg _ (by omega))) ty_on_5 hF rfl rfl rfl (by rw [fnC_size]; omega), trivial⟩ ?_
        intro a w' hF hS hq
        have hM : MemX [] w w' [some (b1, algC (p : Int) (n : Int) T f), some (b2, vecC bb), some (b3, vecC cc), some (bo, cso), none, some (b8, vecC (timesV p n T ((fun c => if c = gi then 1 else 0)) (bb))), some (b9, vecC (timesV p n T (bb) ((fun c => if c = gi then 1 else 0))))] (updD D3 (β gk) ((fnC 7 (fun c => .int .u8 (((eqH p n T bb cc gi gk) gk c : Nat) : Int))).setIfInBounds (0 + (gi) * 1) (.int .u8 (((timesV p n T (fun x => if x = gi then 1 else 0) bb gk : Nat) : Int))))) := hS
        have hF := hF.ext1 69 (hq 11 rfl rfl rfl)
        have hF := hF.ext1 70 (hq 12 rfl rfl rfl)
        have hF := hF.ext1 76 (hq 18 rfl rfl rfl)
        change wpList Tryd.prog _ _ [_, _] _ _
        have hB1 := hB.setRow (i := gk) (by omega) (fun c => if c = gi then timesV p n T (fun x => if x = gi then 1 else 0) bb gk else (eqH p n T bb cc gi gk) gk c) (cs := ((fnC 7 (fun c => .int .u8 (((eqH p n T bb cc gi gk) gk c : Nat) : Int))).setIfInBounds (0 + (gi) * 1) (.int .u8 (((timesV p n T (fun x => if x = gi then 1 else 0) bb gk : Nat) : Int))))) (fnC_set (fun c hc => by by_cases e : c = gi <;> simp [e]))
        have hB2m : (β (n + gk), (fnC 7 (fun c => .int .u8 (((eqH p n T bb cc gi gk) (n + gk) c : Nat) : Int)))) ∈ updD D3 (β gk) ((fnC 7 (fun c => .int .u8 (((eqH p n T bb cc gi gk) gk c : Nat) : Int))).setIfInBounds (0 + (gi) * 1) (.int .u8 (((timesV p n T (fun x => if x = gi then 1 else 0) bb gk : Nat) : Int)))) := by
          have := hB1.mem (n + gk) (by omega)
          unfold upE at this; rwa [if_neg (by omega)] at this
        refine st hF (g_indexSl (i := gi) ty_sl_85 hF rfl rfl rfl (by omega)) rfl fun a hF => ?_
        refine stN hF (d_storeD hM hB2m (.inl (hbg _ (by omega))) ty_on_5 hF rfl rfl rfl (by rw [fnC_size]; omega)) ?_
        intro _ w' a hM hF
        have hM : MemX [] w w' [some (b1, algC (p : Int) (n : Int) T f), some (b2, vecC bb), some (b3, vecC cc), some (bo, cso), none, some (b8, vecC (timesV p n T ((fun c => if c = gi then 1 else 0)) (bb))), some (b9, vecC (timesV p n T (bb) ((fun c => if c = gi then 1 else 0))))] (updD (updD D3 (β gk) ((fnC 7 (fun c => .int .u8 (((eqH p n T bb cc gi gk) gk c : Nat) : Int))).setIfInBounds (0 + (gi) * 1) (.int .u8 (((timesV p n T (fun x => if x = gi then 1 else 0) bb gk : Nat) : Int))))) (β (n + gk)) ((fnC 7 (fun c => .int .u8 (((eqH p n T bb cc gi gk) (n + gk) c : Nat) : Int))).setIfInBounds (0 + (gi) * 1) (.int .u8 (((timesV p n T bb (fun x => if x = gi then 1 else 0) gk : Nat) : Int))))) := hM
        have hB := (hB1.setRow (i := n + gk) (by omega) (fun c => if c = gi then timesV p n T bb (fun x => if x = gi then 1 else 0) gk else (eqH p n T bb cc gi gk) (n + gk) c) (cs := ((fnC 7 (fun c => .int .u8 (((eqH p n T bb cc gi gk) (n + gk) c : Nat) : Int))).setIfInBounds (0 + (gi) * 1) (.int .u8 (((timesV p n T bb (fun x => if x = gi then 1 else 0) gk : Nat) : Int))))) (fnC_set (fun c hc => by by_cases e : c = gi <;> simp [e]))).congr (M' := (eqH p n T bb cc gi (gk + 1))) (fun r hr c hc => eqH_step (by omega) hr (fun _ => rfl) (fun _ => rfl))
        have hF := hF.sub [(11, ptr b9 (0)), (10, ptr b8 (0)), (52, .agg (vecC (timesV p n T (bb) ((fun c => if c = gi then 1 else 0))))), (51, .agg (vecC (fun c => if c = gi then 1 else 0))), (50, .int .i64 (((gi : Nat) : Int))), (49, .agg (vecC bb)), (48, .agg (algC (p : Int) (n : Int) T f)), (47, .agg (vecC (timesV p n T ((fun c => if c = gi then 1 else 0)) (bb)))), (46, .agg (vecC bb)), (45, .agg (vecC (fun c => if c = gi then 1 else 0))), (44, .int .i64 (((gi : Nat) : Int))), (43, .agg (algC (p : Int) (n : Int) T f)), (0, .agg (algC (p : Int) (n : Int) T f)), (1, .agg (vecC bb)), (2, .agg (vecC cc)), (3, ptr b1 (0)), (4, ptr b2 (0)), (5, ptr b3 (0)), (6, .slice none 0 0), (13, ptr b1 (0 + 1)), (14, .int .i64 (((n : Nat) : Int))), (15, .int .i64 ((((2) * (n) : Nat) : Int))), (16, .slice (some ⟨bo, 0, none⟩) ((2) * (n)) ((2) * (n))), (7, .slice (some ⟨bo, 0, none⟩) ((2) * (n)) ((2) * (n))), (17, .slice (some ⟨bo, 0, none⟩) ((2) * (n)) ((2) * (n))), (18, .int .i64 ((((2) * (n) : Nat) : Int))), (19, .int .i64 ((((2 * n) : Nat) : Int))), (20, .bool (decide (((((2 * n) : Nat) : Int) : Int) < (((2) * (n) : Nat) : Int)))), (38, ptr b1 (0 + 1)), (39, .int .i64 (((n : Nat) : Int))), (40, .int .i64 (((gi : Nat) : Int))), (41, .bool (decide ((((gi : Nat) : Int) : Int) < ((n : Nat) : Int)))), (42, .int .i64 (((gi : Nat) : Int))), (9, .int .i64 (((gi : Nat) : Int))), (53, ptr b1 (0 + 1)), (54, .int .i64 (((n : Nat) : Int))), (55, .int .i64 (((gk : Nat) : Int))), (56, .bool (decide ((((gk : Nat) : Int) : Int) < ((n : Nat) : Int)))), (57, .int .i64 (((gk : Nat) : Int))), (12, .int .i64 (((gk : Nat) : Int)))] (by repeat' constructor)
        refine wpList_nil (iN (tN (wp_region_lit ?_)))
        refine st hF (g_add hF rfl rfl (add_nat (gk) (1) (by omega))) rfl fun a hF => st hF (g_move hF rfl) rfl fun a hF => ?_
        refine wpList_nil (tN ?_)
        refine ⟨gk + 1, ⟨by omega, (updD (updD D3 (β gk) ((fnC 7 (fun c => .int .u8 (((eqH p n T bb cc gi gk) gk c : Nat) : Int))).setIfInBounds (0 + (gi) * 1) (.int .u8 (((timesV p n T (fun x => if x = gi then 1 else 0) bb gk : Nat) : Int))))) (β (n + gk)) ((fnC 7 (fun c => .int .u8 (((eqH p n T bb cc gi gk) (n + gk) c : Nat) : Int))).setIfInBounds (0 + (gi) * 1) (.int .u8 (((timesV p n T bb (fun x => if x = gi then 1 else 0) gk : Nat) : Int))))), hB, hF.sub _ (by repeat' constructor), ?_⟩, by omega⟩
        exact hM
       ·
        obtain rfl : n = gk := by omega
        refine wp_exit (tX (tX ?_))
        refine ib_same ?_
        refine iN (tN (wp_region_lit ?_))
        refine st hF (g_add hF rfl rfl (add_nat (gi) (1) (by omega))) rfl fun a hF => st hF (g_move hF rfl) rfl fun a hF => ?_
        refine wpList_nil (tN ?_)
        have hM := hM.drop 5
        have hM := hM.drop 6
        refine ⟨gi + 1, ⟨by omega, D3, hB.congr (fun r hr c _ => eqH_all hr), hF.sub _ (by repeat' constructor), ?_⟩, by omega⟩
        exact hM
     ·
      obtain rfl : n = gi := by omega
      refine wp_exit (tX (tX ?_))
      refine ib_same ?_
      refine tN (sq (wp_region_lit ?_))
      refine st hF (g_move hF rfl) rfl fun a hF => st hF (g_assign hF rfl) rfl fun a hF => ?_
      refine wpList_nil (tN (wp_ret ?_))
      refine fin1 rfl hF.defers (res_tmp hF rfl) ⟨_, rfl, hM.below, ?_⟩
      have hhB := hB
      exact BytesOut.of hM (k := 3) rfl hB hbg (by omega) hgo

end Go.Proofs.YtbeodbfbfbefkaaDoor
