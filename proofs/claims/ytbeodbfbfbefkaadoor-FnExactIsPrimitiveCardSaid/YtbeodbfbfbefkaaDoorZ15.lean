/- What functions of the program return, as walks over their operations; no statement of the seat is proved here. -/
import Derived.Test.YtbeodbfbfbefkaaDoorZ13
set_option linter.unusedVariables false
set_option linter.unusedSimpArgs false
namespace Go.Proofs.YtbeodbfbfbefkaaDoor
open Go Go.RowKit Go.Sw Go.Ech
open Classical
theorem eqV_symm {x y : Nat → Nat} (h : eqV 6 x y) : eqV 6 y x := fun c hc => (h c hc).symm
theorem noM {N : Nat} {W : Nat → Nat → Nat} {v : Nat → Nat} {g : Nat} (h : ∀ i, i < g → ¬ eqV 6 (W i) v) (e : ¬ eqV 6 (W g) v) : ∀ i, i < g + 1 → ¬ eqV 6 (W i) v := fun i hi => by
  by_cases e2 : i = g
  · rw [e2]; exact e
  · exact h i (by omega)

theorem sliceIndex_ok (bl cl N : Nat) (csl : Array Value) (W : Nat → Nat → Nat) (v : Nat → Nat) (w : World) (hl : SlAt 6 (.slice (some ⟨bl, 0, none⟩) N cl) (some (bl, csl)) N bl cl csl (fun c => .int .u8 ((W (c / 6) (c % 6) : Nat) : Int))) (hbl : Blk w bl csl) (hN : N ≤ 100) (hW : ∀ i c, W i c ≤ 255) (hv : ∀ i, v i ≤ 255) :
    CallsR Tryd.prog 79 #[.slice (some ⟨bl, 0, none⟩) (N) (cl), .agg (vecC v)] w (fun u w' => ∃ x : Int, u = .int .i64 x ∧ -2 < x ∧ x < 1000 ∧ (0 ≤ x ↔ (∃ i, i < N ∧ eqV 6 (W i) v))) := by
  refine calls_fr [.slice (some ⟨bl, 0, none⟩) (N) (cl), .agg (vecC v)] Tryd.func79 rfl Tryd.ntmps79 rfl fun a hF => ?_
  have hM : Mem w w [none] [(bl, csl)] := MemX.startD w 1 _ (startD1 hbl)
  change Fr 19 a [(0, .slice (some ⟨bl, 0, none⟩) (N) (cl)), (1, .agg (vecC v))] at hF
  have hi1 : (bl, csl) ∈ [(bl, csl)] := List.mem_cons_self ..
  refine sq (wp_region_lit ?_)
  refine stR hF (d_box 0 hM hF rfl) rfl ?_
  rintro _ w' a ⟨b1, rfl, hM, -⟩ hF
  change Mem w w' [some (b1, vecC v)] [(bl, csl)] at hM
  refine st hF (g_assign hF rfl) rfl fun a hF => ?_
  refine wpList_nil (tN (sq (sq (wp_region_lit ?_))))
  refine st hF (g_move hF rfl) rfl fun a hF => st hF (g_len ty_us_27 hF rfl) rfl fun a hF => st hF (g_move hF rfl) rfl fun a hF => ?_
  refine wpList_nil (tN (wp_block ?_))
  change Mem w _ [some (b1, vecC v)] [(bl, csl)] at hM
  refine c_loop (fun (kk : Nat) a w' => kk ≤ N ∧ (∀ i, i < kk → ¬ eqV 6 (W i) v) ∧ Fr 19 a [(0, .slice (some ⟨bl, 0, none⟩) (N) (cl)), (1, .agg (vecC v)), (3, ptr b1 (0)), (6, .slice (some ⟨bl, 0, none⟩) (N) (cl)), (7, .int .i64 (((N : Nat) : Int))), (8, .int .i64 (((kk : Nat) : Int)))] ∧ Mem w w' [some (b1, vecC v)] [(bl, csl)]) (fun kk => N - kk) 0 ?_ ?_
  ·
   refine ⟨by omega, fun i hi => absurd hi (by omega), hF.sub _ (by repeat' constructor), ?_⟩
   exact hM
  ·
   clear hF hM
   rintro gi a w' ⟨hgi, hno, hF, hM⟩
   have hvt := hW gi
   refine sq (wp_region_lit ?_)
   refine st hF (g_lss hF rfl rfl) rfl fun a hF => ?_
   refine wpList_nil (tN (sq ?_))
   refine c_cond hF rfl (fun h2 => ?_) (fun h2 => ?_)
   ·
    refine wp_skip (tN (sq (wp_block (sq (wp_region_lit ?_)))))
    refine st hF (g_move hF rfl) rfl fun a hF => st hF (g_assign hF rfl) rfl fun a hF => ?_
    refine wpList_nil (tN (sq ?_))
    refine c_par 5 [] [.val (.agg (vecC v)), .val (.slice (some ⟨bl, 0, none⟩) (N) (cl)), .val (.int .i64 (((gi : Nat) : Int))), .val (ptr bl (0 + (gi) * 6)), .val (.agg (vecC (W (gi))))] hmix rfl hF rfl hM ⟨fun a w gG hF hS hd => by have hM := hS.mem rfl; exact par_val hS rfl (g_loadAgg ty_ag_30 hF rfl (hM.row 0 rfl) (by simp only [fnC_size, cells_size, vecC_size, tabC_size, planeC_size, dgC_size, numC_sz, ldB_size, rowV_size, mrk_size] <;> omega) (whole (by simp only [fnC_size, cells_size, vecC_size, tabC_size, planeC_size, dgC_size, numC_sz, ldB_size, rowV_size, mrk_size]))), fun a w gG hF hS hd => by exact par_val hS rfl (g_move hF rfl), fun a w gG hF hS hd => by exact par_val hS rfl (g_move hF rfl), fun a w gG hF hS hd => by have hF := hF.ext1 12 (hd 1 rfl rfl); have hF := hF.ext1 13 (hd 2 rfl rfl); exact par_val hS rfl (g_indexSl (i := gi) ty_sl_27 hF rfl rfl rfl (by omega)), fun a w gG hF hS hd => by have hF := hF.ext1 14 (hd 3 rfl rfl); have hM := hS.mem rfl; exact par_val hS rfl (g_loadAgg ty_ag_30 hF rfl (hM.fzm hi1) (hl.room (gi) (by omega)) (hl.vec0 (V := W) (gi) (by omega))), trivial⟩ ?_
    intro a w' L hF hS hq
    have hF := hF.ext1 11 (hq 0 rfl rfl)
    have hF := hF.ext1 12 (hq 1 rfl rfl)
    have hF := hF.ext1 13 (hq 2 rfl rfl)
    have hF := hF.ext1 14 (hq 3 rfl rfl)
    have hF := hF.ext1 15 (hq 4 rfl rfl)
    have hM := hS.mem rfl
    change wpList Tryd.prog _ _ [_] _ _
    refine st hF (g_eqlA ty_eg_30 hF rfl rfl (eqAt_vec ty_ae_30 ty_ip_5 ty_on_5)) rfl fun a hF => ?_
    refine wpList_nil (tN ?_)
    refine c_cond hF rfl (fun h3 => ?_) (fun h3 => ?_)
    ·
     refine sq (wp_region_lit ?_)
     refine st hF (g_move hF rfl) rfl fun a hF => st hF (g_assign hF rfl) rfl fun a hF => ?_
     refine wpList_nil (tN (wp_ret (iR (tR (tR (iR (tR ?_)))))))
     refine fin1 rfl hF.defers (res_tmp hF rfl) ⟨_, rfl, hM.below, ?_⟩
     first | exact ⟨_, rfl, by omega, by omega, fun _ => ⟨gi, by omega, by first | assumption | exact eqV_symm (by assumption)⟩, fun _ => by omega⟩ | exact ⟨_, rfl, by omega, by omega, fun h => by omega, fun ⟨i, h1, h2⟩ => absurd h2 (hno i h1)⟩
    ·
     refine wp_skip (iN (tN (wp_region_lit ?_)))
     refine st hF (g_add hF rfl rfl (add_nat (gi) (1) (by omega))) rfl fun a hF => st hF (g_move hF rfl) rfl fun a hF => ?_
     refine wpList_nil (tN ?_)
     refine ⟨gi + 1, ⟨by omega, noM (N := N) hno (by first | assumption | exact fun h => absurd (eqV_symm h) (by assumption)), hF.sub _ (by repeat' constructor), ?_⟩, by omega⟩
     exact hM
   ·
    obtain rfl : N = gi := by omega
    refine wp_exit (tX (tX ?_))
    refine ib_same ?_
    refine tN (sq (wp_region_lit ?_))
    refine st hF (g_assign hF rfl) rfl fun a hF => ?_
    refine wpList_nil (tN (wp_ret ?_))
    refine fin1 rfl hF.defers (res_tmp hF rfl) ⟨_, rfl, hM.below, ?_⟩
    first | exact ⟨_, rfl, by omega, by omega, fun _ => ⟨gi, by omega, by first | assumption | exact eqV_symm (by assumption)⟩, fun _ => by omega⟩ | exact ⟨_, rfl, by omega, by omega, fun h => by omega, fun ⟨i, h1, h2⟩ => absurd h2 (hno i h1)⟩

theorem contains_ok (bl cl N : Nat) (csl : Array Value) (W : Nat → Nat → Nat) (v : Nat → Nat) (w : World) (hl : SlAt 6 (.slice (some ⟨bl, 0, none⟩) N cl) (some (bl, csl)) N bl cl csl (fun c => .int .u8 ((W (c / 6) (c % 6) : Nat) : Int))) (hbl : Blk w bl csl) (hN : N ≤ 100) (hW : ∀ i c, W i c ≤ 255) (hv : ∀ i, v i ≤ 255) :
    CallsR Tryd.prog 52 #[.slice (some ⟨bl, 0, none⟩) (N) (cl), .agg (vecC v)] w (fun res _ => res = .bool (decide (∃ i, i < N ∧ eqV 6 (W i) v))) := by
  refine calls_fr [.slice (some ⟨bl, 0, none⟩) (N) (cl), .agg (vecC v)] Tryd.func52 rfl Tryd.ntmps52 rfl fun a hF => ?_
  have hM : Mem w w [none] [(bl, csl)] := MemX.startD w 1 _ (startD1 hbl)
  change Fr 9 a [(0, .slice (some ⟨bl, 0, none⟩) (N) (cl)), (1, .agg (vecC v))] at hF
  have hi1 : (bl, csl) ∈ [(bl, csl)] := List.mem_cons_self ..
  refine sq (wp_region_lit ?_)
  refine stR hF (d_box 0 hM hF rfl) rfl ?_
  rintro _ w' a ⟨b1, rfl, hM, -⟩ hF
  change Mem w w' [some (b1, vecC v)] [(bl, csl)] at hM
  refine st hF (g_assign hF rfl) rfl fun a hF => ?_
  refine wpList_nil (tN (sq (wp_region_lit ?_)))
  refine st hF (g_move hF rfl) rfl fun a hF => st hF (g_loadAgg ty_ag_30 hF rfl (hM.row 0 rfl) (by simp only [fnC_size, cells_size, vecC_size, tabC_size, planeC_size, dgC_size, numC_sz, ldB_size, rowV_size, mrk_size] <;> omega) (whole (by simp only [fnC_size, cells_size, vecC_size, tabC_size, planeC_size, dgC_size, numC_sz, ldB_size, rowV_size, mrk_size]))) rfl fun a hF => ?_
  refine stR hF (d_call Tryd.call79 hF (.cons rfl (.cons rfl .nil)) (sliceIndex_ok bl cl N csl W v _ hl (hM.fzm hi1) hN hW hv)) rfl ?_
  rintro _ w' a ⟨hx, x, rfl, hx1, hx2, hx3⟩ hF
  have hM := hM.ext hx
  refine st hF (g_geq hF rfl rfl) rfl fun a hF => st hF (g_assign hF rfl) rfl fun a hF => ?_
  refine wpList_nil (tN (wp_ret ?_))
  refine fin1 rfl hF.defers (res_tmp hF rfl) ⟨_, rfl, hM.below, ?_⟩
  show _ = _
  exact congrArg Value.bool (decide_eq_decide.2 hx3)

end Go.Proofs.YtbeodbfbfbefkaaDoor

namespace Go.Proofs.YtbeodbfbfbefkaaDoor
open Go Go.RowKit Go.Sw Go.Ech
open Classical
theorem isPrimitive_ok (p n : Nat) (T : Nat → Nat → Nat → Nat) (f : Nat → Nat) (v : Nat → Nat) (w : World) (hp : primeN p) (hn0 : 0 < n) (hn : n ≤ 6) (hTp : ∀ i j k, T i j k < p) (hT0 : ∀ i j k, n ≤ k → T i j k = 0) (hf : ∀ i, f i ≤ 255) (uu : Nat → Nat) (huu : UnitI p n T uu) (haI : AssI p n T) (hkI : ComI n T) (hv : ∀ i, v i ≤ 255) :
    CallsR Tryd.prog 29 #[.agg (algC (p : Int) (n : Int) T f), .agg (vecC v)] w (fun u w' => ∃ rF VF, IsKer p n (spE p n T uu p 1) n rF VF ∧ u = .bool (decide (∃ i, i < (prL p n T uu (padN n VF) rF).length ∧ eqV 6 ((srt (gz (prL p n T uu (padN n VF) rF)) (prL p n T uu (padN n VF) rF).length) i) v))) := by
  refine calls_fr [.agg (algC (p : Int) (n : Int) T f), .agg (vecC v)] Tryd.func29 rfl Tryd.ntmps29 rfl fun a hF => ?_
  have hM : Mem w w [none, none, none] [] := MemX.start w 3
  change Fr 9 a [(0, .agg (algC (p : Int) (n : Int) T f)), (1, .agg (vecC v))] at hF
  have hp2 := hp.two
  have hp13 := hp.le
  have hT : ∀ i j k, T i j k ≤ 255 := fun i j k => by have := hTp i j k; omega
  refine sq (wp_region_lit ?_)
  refine stR hF (d_box 0 hM hF rfl) rfl ?_
  rintro _ w' a ⟨b1, rfl, hM, -⟩ hF
  change Mem w w' [some (b1, algC (p : Int) (n : Int) T f), none, none] [] at hM
  refine stR hF (d_box 1 hM hF rfl) rfl ?_
  rintro _ w' a ⟨b2, rfl, hM, -⟩ hF
  change Mem w w' [some (b1, algC (p : Int) (n : Int) T f), some (b2, vecC v), none] [] at hM
  refine st hF (g_assign hF rfl) rfl fun a hF => ?_
  refine wpList_nil (tN (sq ?_))
  have hF := hF.sub [(0, .agg (algC (p : Int) (n : Int) T f)), (1, .agg (vecC v)), (2, ptr b1 (0)), (3, ptr b2 (0)), (4, .bool (false))] (by repeat' constructor)
  refine c_drawH (S := fun (bb : Bool) (g : Own × Option (Nat × Nat × Array Value × Nat × (Nat → Nat → Nat))) w2 => (MemX [] w w2 g.1 [] ∧ Same [2] [some (b1, algC (p : Int) (n : Int) T f), some (b2, vecC v), none] g.1) ∧ (bb = false → g.2 = none) ∧ (bb = true → ∃ b9 k9 c9 r9 V9, g.2 = some (b9, k9, c9, r9, V9) ∧ g.1[2]? = some (some (b9, c9)) ∧ SlAt 6 (.slice (some ⟨b9, 0, none⟩) (prL p n T uu (padN n V9) r9).length k9) (some (b9, c9)) (prL p n T uu (padN n V9) r9).length b9 k9 c9 (fun c => .int .u8 (((srt (gz (prL p n T uu (padN n V9) r9)) (prL p n T uu (padN n V9) r9).length) (c / 6) (c % 6) : Nat) : Int)) ∧ IsKer p n (spE p n T uu p 1) n r9 V9)) 3 1 hmix rfl rfl rfl hF rfl (dstEvery_spec rfl) (_, none) ⟨⟨hM, Same.refl [2] ([some (b1, algC (p : Int) (n : Int) T f), some (b2, vecC v), none])⟩, fun _ => rfl, fun e => by cases e⟩ (fun bb g w h => ⟨⟨h.1.1.ext (Below.drew (Below.refl _ _)), h.1.2⟩, h.2⟩) (fun i (g : Own × Option (Nat × Nat × Array Value × Nat × (Nat → Nat → Nat))) u w2 => match i with | 0 => u = .agg (algC (p : Int) (n : Int) T f) | 2 => u = .agg (vecC v) | 1 => ∃ b9 k9 c9 r9 V9, g.2 = some (b9, k9, c9, r9, V9) ∧ u = .slice (some ⟨b9, 0, none⟩) (prL p n T uu (padN n V9) r9).length k9 | _ => True) ⟨fun a w2 bb g hF hS hb hd => by have hM := Par.mem (W := [2]) hS.1 rfl; exact ph_val hS rfl (g_loadAgg ty_ag_32 hF rfl (hM.row 0 rfl) (by simp only [fnC_size, cells_size, vecC_size, tabC_size, planeC_size, dgC_size, numC_sz, ldB_size, rowV_size, mrk_size] <;> omega) (whole cells_size)), fun a w2 g hF hS hd => by
    have hF := hF.ext1 5 (hd 0 rfl rfl)
    obtain ⟨L9, r9⟩ := g
    have hl9 : L9.length = 3 := hS.1.2.1
    exact (d_call Tryd.call24 hF (.cons rfl .nil) (primitiveIdempotents_ok p n T f _ hp hn0 hn hTp hT0 hf uu huu haI hkI)).mono fun u w3 ⟨hx, rQ, VQ, hIK, bQ, kQ, cQ, hsQ, hgQ, hbQ⟩ => by
      obtain rfl := hsQ.val
      exact ⟨(L9.set 2 (some (bQ, cQ)), some (bQ, kQ, cQ, rQ, VQ)), ⟨⟨hS.1.1.fill hx 2 hbQ hgQ, hS.1.2.set 2 rfl _⟩, (fun e => by cases e), fun _ => ⟨bQ, kQ, cQ, rQ, VQ, rfl, by show (L9.set _ _)[_]? = _; rw [List.getElem?_set_self (by omega)], hsQ, hIK⟩⟩, ⟨bQ, kQ, cQ, rQ, VQ, rfl, rfl⟩, fun j u hj h => by rcases j with _ | _ | _ | j <;> first | exact h | exact absurd rfl hj⟩, fun a w2 bb g hF hS hb hd => by have hM := Par.mem (W := [2]) hS.1 rfl; exact ph_val hS rfl (g_loadAgg ty_ag_30 hF rfl (hM.row 1 rfl) (by simp only [fnC_size, cells_size, vecC_size, tabC_size, planeC_size, dgC_size, numC_sz, ldB_size, rowV_size, mrk_size] <;> omega) (whole (by simp only [fnC_size, cells_size, vecC_size, tabC_size, planeC_size, dgC_size, numC_sz, ldB_size, rowV_size, mrk_size]))), trivial⟩ ?_
  intro a w' g hF hS hq
  obtain ⟨L9, r9⟩ := g
  obtain ⟨bF, cF, csF, rF, VF, hr9, hLQ, hsF, hIK⟩ := hS.2.2 rfl
  obtain ⟨b7, k7, c7, r7, V7, h7, hu7⟩ := hq 1 rfl rfl
  obtain ⟨rfl, rfl, rfl, rfl, rfl⟩ : bF = b7 ∧ cF = k7 ∧ csF = c7 ∧ rF = r7 ∧ VF = V7 := by rw [show r9 = _ from hr9] at h7; cases h7; exact ⟨rfl, rfl, rfl, rfl, rfl⟩
  have hF := hF.ext1 6 hu7
  have hF := hF.ext1 7 (hq 2 rfl rfl)
  obtain ⟨⟨hM, hL⟩, -⟩ := hS
  have hL := hL.take hLQ
  obtain rfl := hL.eq
  have hInv := prL_invP hp hn0 hn haI hkI hT0 huu hIK rF (Nat.le_refl _)
  have hAl := hInv.count hp hn hkI
  have hWb : ∀ i c, (srt (gz (prL p n T uu (padN n VF) rF)) (prL p n T uu (padN n VF) rF).length) i c ≤ 255 := srt_le (gz_le hp.le hInv) _
  change Mem w w' [some (b1, algC (p : Int) (n : Int) T f), some (b2, vecC v), some (bF, csF)] [] at hM
  change wpList Tryd.prog _ _ [_, _] _ _
  refine stR hF (d_call Tryd.call52 hF (.cons rfl (.cons rfl .nil)) (contains_ok bF cF (prL p n T uu (padN n VF) rF).length csF (srt (gz (prL p n T uu (padN n VF) rF)) (prL p n T uu (padN n VF) rF).length) v _ hsF (hM.row 2 rfl) (by omega) hWb hv)) rfl ?_
  rintro _ w' a ⟨hx, rfl⟩ hF
  have hM := hM.ext hx
  refine st hF (g_assign hF rfl) rfl fun a hF => ?_
  refine wpList_nil (tN (wp_ret ?_))
  refine fin1 rfl hF.defers (res_tmp hF rfl) ⟨_, rfl, hM.below, ?_⟩
  exact ⟨rF, VF, hIK, rfl⟩

theorem l05Is_ok (p n : Nat) (T : Nat → Nat → Nat → Nat) (f : Nat → Nat) (v : Nat → Nat) (w : World) (hp : primeN p) (hn0 : 0 < n) (hn : n ≤ 6) (hTp : ∀ i j k, T i j k < p) (hT0 : ∀ i j k, n ≤ k → T i j k = 0) (hf : ∀ i, f i ≤ 255) (uu : Nat → Nat) (huu : UnitI p n T uu) (haI : AssI p n T) (hkI : ComI n T) (hv : ∀ i, v i ≤ 255) :
    CallsR Tryd.prog 26 #[.agg (algC (p : Int) (n : Int) T f), .agg (vecC v)] w (fun u w' => ∃ rF VF, IsKer p n (spE p n T uu p 1) n rF VF ∧ u = .bool (decide (∃ i, i < (prL p n T uu (padN n VF) rF).length ∧ eqV 6 ((srt (gz (prL p n T uu (padN n VF) rF)) (prL p n T uu (padN n VF) rF).length) i) v))) := by
  refine calls_fr [.agg (algC (p : Int) (n : Int) T f), .agg (vecC v)] Tryd.func26 rfl Tryd.ntmps26 rfl fun a hF => ?_
  have hM : Mem w w [none, none, none] [] := MemX.start w 3
  change Fr 21 a [(0, .agg (algC (p : Int) (n : Int) T f)), (1, .agg (vecC v))] at hF
  have hp2 := hp.two
  have hp13 := hp.le
  have hT : ∀ i j k, T i j k ≤ 255 := fun i j k => by have := hTp i j k; omega
  refine sq (wp_region_lit ?_)
  refine stR hF (d_box 0 hM hF rfl) rfl ?_
  rintro _ w' a ⟨b1, rfl, hM, -⟩ hF
  change Mem w w' [some (b1, algC (p : Int) (n : Int) T f), none, none] [] at hM
  refine stR hF (d_box 1 hM hF rfl) rfl ?_
  rintro _ w' a ⟨b2, rfl, hM, -⟩ hF
  change Mem w w' [some (b1, algC (p : Int) (n : Int) T f), some (b2, vecC v), none] [] at hM
  refine st hF (g_assign hF rfl) rfl fun a hF => ?_
  refine wpList_nil (tN (sq (wp_region_lit ?_)))
  refine st hF (g_loadAgg ty_ag_32 hF rfl (hM.row 0 rfl) (by simp only [fnC_size, cells_size, vecC_size, tabC_size, planeC_size, dgC_size, numC_sz, ldB_size, rowV_size, mrk_size] <;> omega) (whole cells_size)) rfl fun a hF => ?_
  refine stR hF (d_call Tryd.call21 hF (.cons rfl .nil) (l05Primitive_ok p n T f _ hp hn0 hn hTp hT0 hf uu huu haI hkI)) rfl ?_
  rintro u w' a ⟨hx, rF, VF, hIK, b9, cap9, cs9, hs9, hge9, hb9⟩ hF
  obtain rfl := hs9.val
  have hM := hM.fill hx 2 hb9 hge9
  change Mem w w' [some (b1, algC (p : Int) (n : Int) T f), some (b2, vecC v), some (b9, cs9)] [] at hM
  have hInv := prL_invP hp hn0 hn haI hkI hT0 huu hIK rF (Nat.le_refl _)
  have hAl := hInv.count hp hn hkI
  have hWb : ∀ i c, (srt (gz (prL p n T uu (padN n VF) rF)) (prL p n T uu (padN n VF) rF).length) i c ≤ 255 := srt_le (gz_le hp.le hInv) _
  refine st hF (g_assign hF rfl) rfl fun a hF => ?_
  refine wpList_nil (tN (sq (sq (wp_region_lit ?_))))
  refine st hF (g_assign hF rfl) rfl fun a hF => ?_
  refine wpList_nil (tN (wp_block ?_))
  change Mem w _ [some (b1, algC (p : Int) (n : Int) T f), some (b2, vecC v), some (b9, cs9)] [] at hM
  refine c_loop (fun (kk : Nat) a w' => kk ≤ (prL p n T uu (padN n VF) rF).length ∧ (∀ i, i < kk → ¬ eqV 6 ((srt (gz (prL p n T uu (padN n VF) rF)) (prL p n T uu (padN n VF) rF).length) i) v) ∧ Fr 21 a [(0, .agg (algC (p : Int) (n : Int) T f)), (1, .agg (vecC v)), (2, ptr b1 (0)), (3, ptr b2 (0)), (7, .agg (algC (p : Int) (n : Int) T f)), (8, .slice (some ⟨b9, 0, none⟩) ((prL p n T uu (padN n VF) rF).length) (cap9)), (5, .slice (some ⟨b9, 0, none⟩) ((prL p n T uu (padN n VF) rF).length) (cap9)), (6, .int .i64 (((kk : Nat) : Int)))] ∧ Mem w w' [some (b1, algC (p : Int) (n : Int) T f), some (b2, vecC v), some (b9, cs9)] []) (fun kk => (prL p n T uu (padN n VF) rF).length - kk) 0 ?_ ?_
  ·
   refine ⟨by omega, fun i hi => absurd hi (by omega), hF.sub _ (by repeat' constructor), ?_⟩
   exact hM
  ·
   clear hF hM
   rintro gi a w' ⟨hgi, hno, hF, hM⟩
   have hvt := hWb gi
   refine sq (sq (wp_region_lit ?_))
   refine st hF (g_move hF rfl) rfl fun a hF => st hF (g_move hF rfl) rfl fun a hF => st hF (g_len ty_us_27 hF rfl) rfl fun a hF => st hF (g_lss hF rfl rfl) rfl fun a hF => ?_
   refine wpList_nil (tN ?_)
   refine c_cond hF rfl (fun h3 => ?_) (fun h3 => ?_)
   ·
    refine wp_skip (tN (sq (wp_block (sq ?_))))
    refine c_par 5 [] [.val (.slice (some ⟨b9, 0, none⟩) ((prL p n T uu (padN n VF) rF).length) (cap9)), .val (.int .i64 (((gi : Nat) : Int))), .val (ptr b9 (0 + (gi) * 6)), .val (.agg (vecC ((srt (gz (prL p n T uu (padN n VF) rF)) (prL p n T uu (padN n VF) rF).length) (gi)))), .val (.agg (vecC v))] hmix rfl hF rfl hM ⟨fun a w gG hF hS hd => by exact par_val hS rfl (g_move hF rfl), fun a w gG hF hS hd => by exact par_val hS rfl (g_move hF rfl), fun a w gG hF hS hd => by have hF := hF.ext1 15 (hd 0 rfl rfl); have hF := hF.ext1 16 (hd 1 rfl rfl); exact par_val hS rfl (g_indexSl (i := gi) ty_sl_27 hF rfl rfl rfl (by omega)), fun a w gG hF hS hd => by have hF := hF.ext1 17 (hd 2 rfl rfl); have hM := hS.mem rfl; exact par_val hS rfl (g_loadAgg ty_ag_30 hF rfl (hM.row 2 rfl) (hs9.room (gi) (by omega)) (hs9.vec0 (V := (srt (gz (prL p n T uu (padN n VF) rF)) (prL p n T uu (padN n VF) rF).length)) (gi) (by omega))), fun a w gG hF hS hd => by have hM := hS.mem rfl; exact par_val hS rfl (g_loadAgg ty_ag_30 hF rfl (hM.row 1 rfl) (by simp only [fnC_size, cells_size, vecC_size, tabC_size, planeC_size, dgC_size, numC_sz, ldB_size, rowV_size, mrk_size] <;> omega) (whole (by simp only [fnC_size, cells_size, vecC_size, tabC_size, planeC_size, dgC_size, numC_sz, ldB_size, rowV_size, mrk_size]))), trivial⟩ ?_
    intro a w' L hF hS hq
    have hF := hF.ext1 15 (hq 0 rfl rfl)
    have hF := hF.ext1 16 (hq 1 rfl rfl)
    have hF := hF.ext1 17 (hq 2 rfl rfl)
    have hF := hF.ext1 18 (hq 3 rfl rfl)
    have hF := hF.ext1 19 (hq 4 rfl rfl)
    have hM := hS.mem rfl
    change wpList Tryd.prog _ _ [_] _ _
    refine st hF (g_eqlA ty_eg_30 hF rfl rfl (eqAt_vec ty_ae_30 ty_ip_5 ty_on_5)) rfl fun a hF => ?_
    refine wpList_nil (tN ?_)
    refine c_cond hF rfl (fun h4 => ?_) (fun h4 => ?_)
    ·
     refine sq (wp_region_lit ?_)
     refine st hF (g_assign hF rfl) rfl fun a hF => ?_
     refine wpList_nil (tN (wp_ret (iR (tR (tR (iR (tR ?_)))))))
     refine fin1 rfl hF.defers (res_tmp hF rfl) ⟨_, rfl, hM.below, ?_⟩
     first | exact ⟨rF, VF, hIK, congrArg Value.bool (decide_eq_true ⟨gi, by omega, by assumption⟩).symm⟩ | exact ⟨rF, VF, hIK, congrArg Value.bool (decide_eq_false (fun ⟨i, h1, h2⟩ => hno i h1 h2)).symm⟩
    ·
     refine wp_skip (iN (tN (wp_region_lit ?_)))
     refine st hF (g_move hF rfl) rfl fun a hF => st hF (g_add hF rfl rfl (add_nat (gi) (1) (by omega))) rfl fun a hF => st hF (g_assign hF rfl) rfl fun a hF => ?_
     refine wpList_nil (tN ?_)
     refine ⟨gi + 1, ⟨by omega, noM (N := (prL p n T uu (padN n VF) rF).length) hno (by assumption), hF.sub _ (by repeat' constructor), ?_⟩, by omega⟩
     exact hM
   ·
    obtain rfl : (prL p n T uu (padN n VF) rF).length = gi := by omega
    refine wp_exit (tX (tX ?_))
    refine ib_same ?_
    refine tN (sq (wp_region_lit ?_))
    refine st hF (g_assign hF rfl) rfl fun a hF => ?_
    refine wpList_nil (tN (wp_ret ?_))
    refine fin1 rfl hF.defers (res_tmp hF rfl) ⟨_, rfl, hM.below, ?_⟩
    first | exact ⟨rF, VF, hIK, congrArg Value.bool (decide_eq_true ⟨gi, by omega, by assumption⟩).symm⟩ | exact ⟨rF, VF, hIK, congrArg Value.bool (decide_eq_false (fun ⟨i, h1, h2⟩ => hno i h1 h2)).symm⟩

end Go.Proofs.YtbeodbfbfbefkaaDoor
