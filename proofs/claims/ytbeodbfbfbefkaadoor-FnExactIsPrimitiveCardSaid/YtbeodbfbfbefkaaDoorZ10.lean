/- What functions of the program return, as walks over their operations; no statement of the seat is proved here. -/
import Derived.Test.YtbeodbfbfbefkaaDoorZ9
set_option linter.unusedVariables false
set_option linter.unusedSimpArgs false
namespace Go.Proofs.YtbeodbfbfbefkaaDoor
open Go Go.RowKit Go.Sw Go.Ech
open Classical
theorem slAt_one {b : Nat} {x : Nat → Nat} : SlAt 6 (.slice (some ⟨b, 0, none⟩) 1 1) (some (b, vecsC 1 (vAtL [x]))) 1 b 1 (vecsC 1 (vAtL [x])) (fun c => .int .u8 ((x (c % 6) : Nat) : Int)) :=
  ⟨rfl, rfl, Nat.le_refl _, by unfold maxLen; omega, fnC_size _ _, fun i hi => by
    unfold vecsC
    rw [fnC_get (by omega), show i / 6 = 0 by omega]; rfl⟩
theorem slAt_zero6 {b : Nat} {f : Nat → Value} : SlAt 6 (.slice (some ⟨b, 0, none⟩) 0 0) (some (b, #[])) 0 b 0 #[] f :=
  ⟨rfl, rfl, Nat.le_refl _, by unfold maxLen; omega, by decide, fun i hi => absurd hi (by omega)⟩
theorem ins_cells {S : Nat → Nat → Nat} {x : Nat → Nat} {ga gb i : Nat} {f0 : Nat → Value} (hps : ps S x ga = gb) (hgb : gb ≤ ga) (hi : i < (ga + 1) * 6) :
    (if i < (0 + gb) * 6 then (fun i => if i < 0 * 6 then f0 i else (fun j => Value.int .u8 ((S (j / 6) (j % 6) : Nat) : Int)) (i - 0 * 6)) i else (fun j => if j < 1 * 6 then (fun c => Value.int .u8 ((x (c % 6) : Nat) : Int)) j else (fun q => Value.int .u8 ((S (gb + q / 6) (q % 6) : Nat) : Int)) (j - 1 * 6)) (i - (0 + gb) * 6)) = .int .u8 ((insF S x ga (i / 6) (i % 6) : Nat) : Int) := by
  unfold insF
  rw [hps]
  by_cases h1 : i < (0 + gb) * 6
  · rw [if_pos h1, if_pos (show i / 6 < gb by omega)]
    show (if i < 0 * 6 then f0 i else Value.int .u8 ((S ((i - 0 * 6) / 6) ((i - 0 * 6) % 6) : Nat) : Int)) = _
    rw [if_neg (by omega), show i - 0 * 6 = i by omega]
  · rw [if_neg h1, if_neg (show ¬ i / 6 < gb by omega)]
    show (if i - (0 + gb) * 6 < 1 * 6 then Value.int .u8 ((x ((i - (0 + gb) * 6) % 6) : Nat) : Int) else Value.int .u8 ((S (gb + (i - (0 + gb) * 6 - 1 * 6) / 6) ((i - (0 + gb) * 6 - 1 * 6) % 6) : Nat) : Int)) = _
    by_cases h2 : i / 6 = gb
    · rw [if_pos (by omega), if_pos h2, show (i - (0 + gb) * 6) % 6 = i % 6 by omega]
    · rw [if_neg (by omega), if_neg h2, show gb + (i - (0 + gb) * 6 - 1 * 6) / 6 = i / 6 - 1 by omega, show (i - (0 + gb) * 6 - 1 * 6) % 6 = i % 6 by omega]

theorem l05Primitive_ok (p n : Nat) (T : Nat → Nat → Nat → Nat) (f : Nat → Nat) (w : World) (hp : primeN p) (hn0 : 0 < n) (hn : n ≤ 6) (hTp : ∀ i j k, T i j k < p) (hT0 : ∀ i j k, n ≤ k → T i j k = 0) (hf : ∀ i, f i ≤ 255) (uu : Nat → Nat) (huu : UnitI p n T uu) (haI : AssI p n T) (hkI : ComI n T) :
    CallsR Tryd.prog 21 #[.agg (algC (p : Int) (n : Int) T f)] w (fun u w' => ∃ rF VF, IsKer p n (spE p n T uu p 1) n rF VF ∧ OwnSl 6 w (prL p n T uu (padN n VF) rF).length (fun c => .int .u8 (((srt (gz (prL p n T uu (padN n VF) rF)) (prL p n T uu (padN n VF) rF).length) (c / 6) (c % 6) : Nat) : Int)) u w') := by
  refine calls_fr [.agg (algC (p : Int) (n : Int) T f)] Tryd.func21 rfl Tryd.ntmps21 rfl fun a hF => ?_
  have hM : Mem w w [none, none, none, none, none, none, none, none, none, none, none] [] := MemX.start w 11
  change Fr 130 a [(0, .agg (algC (p : Int) (n : Int) T f))] at hF
  have hp2 := hp.two
  have hp13 := hp.le
  have hT : ∀ i j k, T i j k ≤ 255 := fun i j k => by have := hTp i j k; omega
  have hp2 := hp.two
  have hp13 := hp.le
  refine sq (wp_region_lit ?_)
  refine stR hF (d_box 0 hM hF rfl) rfl ?_
  rintro _ w' a ⟨b1, rfl, hM, -⟩ hF
  change Mem w w' [some (b1, algC (p : Int) (n : Int) T f), none, none, none, none, none, none, none, none, none, none] [] at hM
  refine st hF (g_assign hF rfl) rfl fun a hF => ?_
  refine wpList_nil (tN (sq (wp_region_lit ?_)))
  refine st hF (g_loadAgg ty_ag_32 hF rfl (hM.row 0 rfl) (by simp only [fnC_size, cells_size, vecC_size, tabC_size, planeC_size, dgC_size, numC_sz, ldB_size, rowV_size] <;> omega) (whole cells_size)) rfl fun a hF => ?_
  refine stR hF (d_call Tryd.call36 hF (.cons rfl .nil) (l01Unit_ok p n T f _ hp hn0 hn hTp uu huu)) rfl ?_
  rintro _ w' a ⟨hx, rfl⟩ hF
  have hM := hM.ext hx
  refine stR hF (d_alloc 1 hM ty_ze_30) rfl ?_
  rintro _ w' a ⟨b2, rfl, hM, -⟩ hF
  change Mem w w' [some (b1, algC (p : Int) (n : Int) T f), some (b2, fnC 6 (fun _ => .int .u8 (0))), none, none, none, none, none, none, none, none, none] [] at hM
  refine stN hF (d_storeAgg 1 hM rfl ty_sz_30 hF rfl rfl (by first | exact vecC_one | exact cells_one | (refine fnC_one fun _ _ => ?_; first | rfl | (split <;> rfl))) (by simp only [fnC_size, cells_size, vecC_size, tabC_size, planeC_size, dgC_size, numC_sz, ldB_size, rowV_size]) (by simp only [fnC_size, cells_size, vecC_size, tabC_size, planeC_size, dgC_size, numC_sz, ldB_size, rowV_size] <;> omega) (splice_whole _ _ (by simp only [fnC_size, cells_size, vecC_size, tabC_size, planeC_size, dgC_size, numC_sz, ldB_size, rowV_size]))) ?_
  intro _ w' a hM hF
  change Mem w w' [some (b1, algC (p : Int) (n : Int) T f), some (b2, vecC uu), none, none, none, none, none, none, none, none, none] [] at hM
  refine wpList_nil (tN (sq ?_))
  have hF := hF.sub [(0, .agg (algC (p : Int) (n : Int) T f)), (1, ptr b1 (0)), (2, .slice none 0 0), (17, .agg (algC (p : Int) (n : Int) T f)), (18, .agg (vecC uu)), (3, ptr b2 (0))] (by repeat' constructor)
  refine c_drawH (S := fun (bb : Bool) (g : Own × Option (Nat × Nat × Array Value × Nat × (Nat → Nat → Nat))) w2 => (MemX [] w w2 g.1 [] ∧ Same [2, 10] [some (b1, algC (p : Int) (n : Int) T f), some (b2, vecC uu), none, none, none, none, none, none, none, none, none] g.1) ∧ (bb = false → g.2 = none) ∧ (bb = true → ∃ b9 k9 c9 r9 V9, g.2 = some (b9, k9, c9, r9, V9) ∧ g.1[10]? = some (some (b9, c9)) ∧ SlAt 6 (.slice (some ⟨b9, 0, none⟩) r9 k9) (some (b9, c9)) r9 b9 k9 c9 (fun c => .int .u8 (((padN n V9) (c / 6) (c % 6) : Nat) : Int)) ∧ IsKer p n (spE p n T uu p 1) n r9 V9)) 6 5 hmix rfl rfl rfl hF rfl (dstEvery_spec rfl) (_, none) ⟨⟨hM, Same.refl [2, 10] ([some (b1, algC (p : Int) (n : Int) T f), some (b2, vecC uu), none, none, none, none, none, none, none, none, none])⟩, fun _ => rfl, fun e => by cases e⟩ (fun bb g w h => ⟨⟨h.1.1.ext (Below.drew (Below.refl _ _)), h.1.2⟩, h.2⟩) (fun i (g : Own × Option (Nat × Nat × Array Value × Nat × (Nat → Nat → Nat))) u w2 => match i with | 0 => u = .agg (vecC uu) | 2 => u = .agg (algC (p : Int) (n : Int) T f) | 3 => u = ptr b1 (0 + 0) | 4 => u = .int .i64 (((p : Nat) : Int)) | 1 => ∃ b8, u = .slice (some ⟨b8, 0, none⟩) 1 1 ∧ g.1[2]? = some (some (b8, vecsC 1 (vAtL [uu]))) | 5 => ∃ b9 k9 c9 r9 V9, g.2 = some (b9, k9, c9, r9, V9) ∧ u = .slice (some ⟨b9, 0, none⟩) r9 k9 | _ => True) ⟨fun a w2 bb g hF hS hb hd => by have hM := Par.mem (W := [2, 10]) hS.1 rfl; exact ph_val hS rfl (g_loadAgg ty_ag_30 hF rfl (hM.row 1 rfl) (by simp only [fnC_size, cells_size, vecC_size, tabC_size, planeC_size, dgC_size, numC_sz, ldB_size, rowV_size] <;> omega) (whole (by simp only [fnC_size, cells_size, vecC_size, tabC_size, planeC_size, dgC_size, numC_sz, ldB_size, rowV_size]))), fun a w2 bb g hF hS hb hd => by
    have hF := hF.ext1 19 (hd 0 rfl rfl)
    obtain ⟨L9, r9⟩ := g
    have hl9 : L9.length = 11 := hS.1.2.1
    exact (d_buildC (vs := [(0, .agg (vecC uu))]) 2 hS.1.1 hF (build1 hF rfl) (fun w => ty_bsg_27_1 uu w)).mono fun u w3 ⟨b8, hu, hM, hx⟩ => ⟨(L9.set 2 (some (b8, vecsC 1 (vAtL [uu]))), r9), ⟨⟨hM, hS.1.2.set 2 rfl _⟩, hS.2.1, fun e => by
        obtain ⟨b9, k9, c9, r9, V9, h1, h2, h3⟩ := hS.2.2 e
        exact ⟨b9, k9, c9, r9, V9, h1, by show (L9.set _ _)[_]? = _; rw [List.getElem?_set_ne (by decide)]; exact h2, h3⟩⟩, ⟨b8, hu, by show (L9.set _ _)[_]? = _; rw [List.getElem?_set_self (by omega)]⟩, fun j u hj h => by rcases j with _ | _ | _ | _ | _ | _ | j <;> first | exact h | exact absurd rfl hj⟩, fun a w2 bb g hF hS hb hd => by have hM := Par.mem (W := [2, 10]) hS.1 rfl; exact ph_val hS rfl (g_loadAgg ty_ag_32 hF rfl (hM.row 0 rfl) (by simp only [fnC_size, cells_size, vecC_size, tabC_size, planeC_size, dgC_size, numC_sz, ldB_size, rowV_size] <;> omega) (whole cells_size)), fun a w2 bb g hF hS hb hd => by exact ph_val hS rfl (g_fieldAddr ty_fo_32_0 hF rfl), fun a w2 bb g hF hS hb hd => by have hF := hF.ext1 22 (hd 3 rfl rfl); have hM := Par.mem (W := [2, 10]) hS.1 rfl; exact ph_val hS rfl (g_load ty_on_2 hF rfl (hM.row 0 rfl) (algC_p (by omega))), fun a w2 g hF hS hd => by
    have hF := hF.ext1 21 (hd 2 rfl rfl)
    have hF := hF.ext1 23 (hd 4 rfl rfl)
    obtain ⟨L9, r9⟩ := g
    have hl9 : L9.length = 11 := hS.1.2.1
    exact (d_call Tryd.call37 hF (.cons rfl (.cons rfl (.cons rfl .nil))) (l05Space_Y p n T f p 1 _ hp hn0 hn hTp hT0 hf uu huu (by omega) (by omega) (fx_hne hp hn0 hn haI hkI huu) (ker_pos hp.two (fx_hne hp hn0 hn haI hkI huu)))).mono fun u w3 ⟨hx, rQ, VQ, hIK, bQ, kQ, cQ, hsQ, hgQ, hbQ⟩ => by
      obtain rfl := hsQ.val
      exact ⟨(L9.set 10 (some (bQ, cQ)), some (bQ, kQ, cQ, rQ, VQ)), ⟨⟨hS.1.1.fill hx 10 hbQ hgQ, hS.1.2.set 10 rfl _⟩, (fun e => by cases e), fun _ => ⟨bQ, kQ, cQ, rQ, VQ, rfl, by show (L9.set _ _)[_]? = _; rw [List.getElem?_set_self (by omega)], hsQ, hIK⟩⟩, ⟨bQ, kQ, cQ, rQ, VQ, rfl, rfl⟩, fun j u hj h => by rcases j with _ | _ | _ | _ | _ | _ | j <;> first | exact h | exact absurd rfl hj | (obtain ⟨b7, h7, h6⟩ := h; exact ⟨b7, h7, by show (L9.set _ _)[_]? = _; rw [List.getElem?_set_ne (by decide)]; exact h6⟩)⟩, trivial⟩ ?_
  intro a w' g hF hS hq
  obtain ⟨L9, r9⟩ := g
  obtain ⟨bF, cF, csF, rF, VF, hr9, hLQ, hsF, hIK⟩ := hS.2.2 rfl
  obtain ⟨b8, hu8, hL8⟩ := hq 1 rfl rfl
  obtain ⟨b7, k7, c7, r7, V7, h7, hu7⟩ := hq 5 rfl rfl
  obtain ⟨rfl, rfl, rfl, rfl, rfl⟩ : bF = b7 ∧ cF = k7 ∧ csF = c7 ∧ rF = r7 ∧ VF = V7 := by rw [show r9 = _ from hr9] at h7; cases h7; exact ⟨rfl, rfl, rfl, rfl, rfl⟩
  have hF := hF.ext1 20 hu8
  have hF := hF.ext1 24 hu7
  obtain ⟨⟨hM, hL⟩, -⟩ := hS
  have hL := hL.take hL8
  have hL := hL.take hLQ
  obtain rfl := hL.eq
  have hrn := isKer_le2 hIK
  change Mem w w' [some (b1, algC (p : Int) (n : Int) T f), some (b2, vecC uu), some (b8, vecsC 1 (vAtL [uu])), none, none, none, none, none, none, none, some (bF, csF)] [] at hM
  change wpList Tryd.prog _ _ [_, _] _ _
  refine st hF (g_assign hF rfl) rfl fun a hF => st hF (g_assign hF rfl) rfl fun a hF => ?_
  refine wpList_nil (tN (sq (sq (wp_region_lit ?_))))
  refine st hF (g_assign hF rfl) rfl fun a hF => ?_
  refine wpList_nil (tN (wp_block ?_))
  change Mem w _ [some (b1, algC (p : Int) (n : Int) T f), some (b2, vecC uu), some (b8, vecsC 1 (vAtL [uu])), none, none, none, none, none, none, none, some (bF, csF)] [] at hM
  refine c_loop (fun (kk : Nat) a w' => kk ≤ rF ∧ (True) ∧ ∃ (u4_1 : Value) (e4_1 : Option (Nat × Array Value)), Sl 6 u4_1 e4_1 ((prL p n T uu (padN n VF) kk).length) (fun c => .int .u8 (((gz (prL p n T uu (padN n VF) kk)) (c / 6) (c % 6) : Nat) : Int)) ∧ Fr 130 a [(24, .slice (some ⟨bF, 0, none⟩) (rF) (cF)), (20, .slice (some ⟨b8, 0, none⟩) (1) (1)), (0, .agg (algC (p : Int) (n : Int) T f)), (1, ptr b1 (0)), (2, .slice none 0 0), (17, .agg (algC (p : Int) (n : Int) T f)), (18, .agg (vecC uu)), (3, ptr b2 (0)), (5, .slice (some ⟨bF, 0, none⟩) (rF) (cF)), (6, .int .i64 (((kk : Nat) : Int))), (4, u4_1)] ∧ Mem w w' [some (b1, algC (p : Int) (n : Int) T f), some (b2, vecC uu), e4_1, none, none, none, none, none, none, none, some (bF, csF)] []) (fun kk => rF - kk) 0 ?_ ?_
  ·
   refine ⟨by omega, trivial, (.slice (some ⟨b8, 0, none⟩) (1) (1)), (some (b8, vecsC 1 (vAtL [uu]))), sl_one, hF.sub _ (by repeat' constructor), ?_⟩
   exact hM
  ·
   clear hF hM
   rintro g1 a w' ⟨hg1, hinv1, u4_1, e4_1, hsl, hF, hM⟩
   have hInv : InvA p n T (prL p n T uu (padN n VF) g1) := prL_invP hp hn0 hn haI hkI hT0 huu hIK g1 hg1
   have hAp : 0 < (prL p n T uu (padN n VF) g1).length := List.length_pos_iff.2 hInv.ne
   have hAl := hInv.count hp hn hkI
   refine sq (sq (wp_region_lit ?_))
   refine st hF (g_move hF rfl) rfl fun a hF => st hF (g_move hF rfl) rfl fun a hF => st hF (g_len ty_us_27 hF rfl) rfl fun a hF => st hF (g_lss hF rfl rfl) rfl fun a hF => ?_
   refine wpList_nil (tN ?_)
   refine c_cond hF rfl (fun h3 => ?_) (fun h3 => ?_)
   ·
    refine wp_skip (tN (sq (wp_block (sq ?_))))
    obtain ⟨bA, cA, csA, rfl, rfl, hsA⟩ := (hsl).pos hAp
    have hM := hM.freeze 2 rfl
    have hi1 : (bA, csA) ∈ [(bA, csA)] := List.mem_cons_self ..
    change Mem w _ [some (b1, algC (p : Int) (n : Int) T f), some (b2, vecC uu), none, none, none, none, none, none, none, none, some (bF, csF)] [(bA, csA)] at hM
    refine wp_region_lit ?_
    refine stR hF (d_buildC 2 hM hF rfl ty_bs0_27) rfl ?_
    rintro _ w' a ⟨b4, rfl, hM, -⟩ hF
    change Mem w w' [some (b1, algC (p : Int) (n : Int) T f), some (b2, vecC uu), some (b4, #[]), none, none, none, none, none, none, none, some (bF, csF)] [(bA, csA)] at hM
    refine st hF (g_assign hF rfl) rfl fun a hF => ?_
    refine wpList_nil (tN (sq (sq (wp_region_lit ?_))))
    refine st hF (g_assign hF rfl) rfl fun a hF => ?_
    refine wpList_nil (tN (wp_block ?_))
    change Mem w _ [some (b1, algC (p : Int) (n : Int) T f), some (b2, vecC uu), some (b4, #[]), none, none, none, none, none, none, none, some (bF, csF)] [(bA, csA)] at hM
    refine c_loop (fun (kk : Nat) a w' => kk ≤ (prL p n T uu (padN n VF) g1).length ∧ (True) ∧ ∃ (u7_2 : Value) (e7_2 : Option (Nat × Array Value)), Sl 6 u7_2 e7_2 ((spW p n T uu ((padN n VF) g1) (prL p n T uu (padN n VF) g1) kk 0).length) (fun c => .int .u8 (((gz (spW p n T uu ((padN n VF) g1) (prL p n T uu (padN n VF) g1) kk 0)) (c / 6) (c % 6) : Nat) : Int)) ∧ Fr 130 a [(24, .slice (some ⟨bF, 0, none⟩) (rF) (cF)), (20, .slice (some ⟨b8, 0, none⟩) (1) (1)), (0, .agg (algC (p : Int) (n : Int) T f)), (1, ptr b1 (0)), (2, .slice none 0 0), (17, .agg (algC (p : Int) (n : Int) T f)), (18, .agg (vecC uu)), (3, ptr b2 (0)), (5, .slice (some ⟨bF, 0, none⟩) (rF) (cF)), (6, .int .i64 (((g1 : Nat) : Int))), (4, .slice (some ⟨bA, 0, none⟩) ((prL p n T uu (padN n VF) g1).length) (cA)), (25, .int .i64 (((g1 : Nat) : Int))), (26, .slice (some ⟨bF, 0, none⟩) (rF) (cF)), (27, .int .i64 (((rF : Nat) : Int))), (28, .bool (decide ((((g1 : Nat) : Int) : Int) < ((rF : Nat) : Int)))), (31, .slice (some ⟨b4, 0, none⟩) (0) (0)), (8, .int .i64 (((kk : Nat) : Int))), (7, u7_2)] ∧ Mem w w' [some (b1, algC (p : Int) (n : Int) T f), some (b2, vecC uu), e7_2, none, none, none, none, none, none, none, some (bF, csF)] [(bA, csA)]) (fun kk => (prL p n T uu (padN n VF) g1).length - kk) 0 ?_ ?_
    ·
     refine ⟨by omega, trivial, (.slice (some ⟨b4, 0, none⟩) (0) (0)), (some (b4, #[])), (by rw [spW_00]; exact Sl.empty 6 _ _), hF.sub _ (by repeat' constructor), ?_⟩
     exact hM
    ·
     clear hF hM
     rintro gi a w' ⟨hgi, hinv2, u7_2, e7_2, hsl2, hF, hM⟩
     refine sq (sq (wp_region_lit ?_))
     refine st hF (g_move hF rfl) rfl fun a hF => st hF (g_move hF rfl) rfl fun a hF => st hF (g_len ty_us_27 hF rfl) rfl fun a hF => st hF (g_lss hF rfl rfl) rfl fun a hF => ?_
     refine wpList_nil (tN ?_)
     refine c_cond hF rfl (fun h5 => ?_) (fun h5 => ?_)
     ·
      refine wp_skip (tN (sq (wp_block (sq (wp_region_lit ?_)))))
      refine st hF (g_assign hF rfl) rfl fun a hF => ?_
      refine wpList_nil (tN (wp_block ?_))
      change Mem w _ [some (b1, algC (p : Int) (n : Int) T f), some (b2, vecC uu), e7_2, none, none, none, none, none, none, none, some (bF, csF)] [(bA, csA)] at hM
      refine c_loop (fun (kk : Nat) a w' => kk ≤ p ∧ (True) ∧ ∃ (u7_3 : Value) (e7_3 : Option (Nat × Array Value)), Sl 6 u7_3 e7_3 ((spW p n T uu ((padN n VF) g1) (prL p n T uu (padN n VF) g1) gi kk).length) (fun c => .int .u8 (((gz (spW p n T uu ((padN n VF) g1) (prL p n T uu (padN n VF) g1) gi kk)) (c / 6) (c % 6) : Nat) : Int)) ∧ Fr 130 a [(24, .slice (some ⟨bF, 0, none⟩) (rF) (cF)), (20, .slice (some ⟨b8, 0, none⟩) (1) (1)), (0, .agg (algC (p : Int) (n : Int) T f)), (1, ptr b1 (0)), (2, .slice none 0 0), (17, .agg (algC (p : Int) (n : Int) T f)), (18, .agg (vecC uu)), (3, ptr b2 (0)), (5, .slice (some ⟨bF, 0, none⟩) (rF) (cF)), (6, .int .i64 (((g1 : Nat) : Int))), (4, .slice (some ⟨bA, 0, none⟩) ((prL p n T uu (padN n VF) g1).length) (cA)), (25, .int .i64 (((g1 : Nat) : Int))), (26, .slice (some ⟨bF, 0, none⟩) (rF) (cF)), (27, .int .i64 (((rF : Nat) : Int))), (28, .bool (decide ((((g1 : Nat) : Int) : Int) < ((rF : Nat) : Int)))), (31, .slice (some ⟨b4, 0, none⟩) (0) (0)), (8, .int .i64 (((gi : Nat) : Int))), (32, .int .i64 (((gi : Nat) : Int))), (33, .slice (some ⟨bA, 0, none⟩) ((prL p n T uu (padN n VF) g1).length) (cA)), (34, .int .i64 ((((prL p n T uu (padN n VF) g1).length : Nat) : Int))), (35, .bool (decide ((((gi : Nat) : Int) : Int) < (((prL p n T uu (padN n VF) g1).length : Nat) : Int)))), (9, .int .i64 (((kk : Nat) : Int))), (7, u7_3)] ∧ Mem w w' [some (b1, algC (p : Int) (n : Int) T f), some (b2, vecC uu), e7_3, none, none, none, none, none, none, none, some (bF, csF)] [(bA, csA)]) (fun kk => p - kk) 0 ?_ ?_
      ·
       refine ⟨by omega, trivial, (u7_2), (e7_2), hsl2, hF.sub _ (by repeat' constructor), ?_⟩
       exact hM
      ·
       clear hF hM
       rintro gj a w' ⟨hgj, hinv3, u7_3, e7_3, hsl3, hF, hM⟩
       have hAe : RVp p n (gz (prL p n T uu (padN n VF) g1) gi) := hInv.rv _ (getD_mem (by omega))
       have hlw := spW_len (p := p) (n := n) (T := T) (uu := uu) (v := ((padN n VF) g1)) (A := (prL p n T uu (padN n VF) g1)) hp13 gi gj (by omega)
       have hVb := pad_le hp13 hIK (i := g1) (by omega)
       have huB : ∀ c, uu c ≤ 255 := fun c => by have := huu.small c; omega
       refine sq (sq (wp_region_lit ?_))
       refine st hF (g_move hF rfl) rfl fun a hF => st hF (g_fieldAddr ty_fo_32_0 hF rfl) rfl fun a hF => st hF (g_load ty_on_2 hF rfl (hM.row 0 rfl) (algC_p (by omega))) rfl fun a hF => st hF (g_lss hF rfl rfl) rfl fun a hF => ?_
       refine wpList_nil (tN ?_)
       refine c_cond hF rfl (fun h6 => ?_) (fun h6 => ?_)
       ·
        refine wp_skip (tN (sq (wp_block (sq (wp_region_lit ?_)))))
        refine st hF (g_move hF rfl) rfl fun a hF => st hF (g_move hF rfl) rfl fun a hF => st hF (g_indexSl (i := gi) ty_sl_27 hF rfl rfl rfl (by omega)) rfl fun a hF => st hF (g_loadAgg ty_ag_30 hF rfl (hM.fzm hi1) (hsA.room (gi) (by omega)) (hsA.vec0 (V := gz (prL p n T uu (padN n VF) g1)) (gi) (by omega))) rfl fun a hF => ?_
        refine stR hF (d_alloc 4 hM ty_ze_30) rfl ?_
        rintro _ w' a ⟨b7, rfl, hM, -⟩ hF
        change Mem w w' [some (b1, algC (p : Int) (n : Int) T f), some (b2, vecC uu), e7_3, none, some (b7, fnC 6 (fun _ => .int .u8 (0))), none, none, none, none, none, some (bF, csF)] [(bA, csA)] at hM
        refine stN hF (d_storeAgg 4 hM rfl ty_sz_30 hF rfl rfl (by first | exact vecC_one | exact cells_one | (refine fnC_one fun _ _ => ?_; first | rfl | (split <;> rfl))) (by simp only [fnC_size, cells_size, vecC_size, tabC_size, planeC_size, dgC_size, numC_sz, ldB_size, rowV_size]) (by simp only [fnC_size, cells_size, vecC_size, tabC_size, planeC_size, dgC_size, numC_sz, ldB_size, rowV_size] <;> omega) (splice_whole _ _ (by simp only [fnC_size, cells_size, vecC_size, tabC_size, planeC_size, dgC_size, numC_sz, ldB_size, rowV_size]))) ?_
        intro _ w' a hM hF
        change Mem w w' [some (b1, algC (p : Int) (n : Int) T f), some (b2, vecC uu), e7_3, none, some (b7, vecC (gz (prL p n T uu (padN n VF) g1) (gi))), none, none, none, none, none, some (bF, csF)] [(bA, csA)] at hM
        refine wpList_nil (tN (sq (sq (wp_region_lit ?_))))
        refine st hF (g_assign hF rfl) rfl fun a hF => ?_
        refine wpList_nil (tN (wp_block ?_))
        change Mem w _ [some (b1, algC (p : Int) (n : Int) T f), some (b2, vecC uu), e7_3, none, some (b7, vecC (gz (prL p n T uu (padN n VF) g1) (gi))), none, none, none, none, none, some (bF, csF)] [(bA, csA)] at hM
        refine c_loop (fun (kk : Nat) a w' => kk ≤ p ∧ (True) ∧ Fr 130 a [(24, .slice (some ⟨bF, 0, none⟩) (rF) (cF)), (20, .slice (some ⟨b8, 0, none⟩) (1) (1)), (0, .agg (algC (p : Int) (n : Int) T f)), (1, ptr b1 (0)), (2, .slice none 0 0), (17, .agg (algC (p : Int) (n : Int) T f)), (18, .agg (vecC uu)), (3, ptr b2 (0)), (5, .slice (some ⟨bF, 0, none⟩) (rF) (cF)), (6, .int .i64 (((g1 : Nat) : Int))), (4, .slice (some ⟨bA, 0, none⟩) ((prL p n T uu (padN n VF) g1).length) (cA)), (25, .int .i64 (((g1 : Nat) : Int))), (26, .slice (some ⟨bF, 0, none⟩) (rF) (cF)), (27, .int .i64 (((rF : Nat) : Int))), (28, .bool (decide ((((g1 : Nat) : Int) : Int) < ((rF : Nat) : Int)))), (31, .slice (some ⟨b4, 0, none⟩) (0) (0)), (8, .int .i64 (((gi : Nat) : Int))), (32, .int .i64 (((gi : Nat) : Int))), (33, .slice (some ⟨bA, 0, none⟩) ((prL p n T uu (padN n VF) g1).length) (cA)), (34, .int .i64 ((((prL p n T uu (padN n VF) g1).length : Nat) : Int))), (35, .bool (decide ((((gi : Nat) : Int) : Int) < (((prL p n T uu (padN n VF) g1).length : Nat) : Int)))), (9, .int .i64 (((gj : Nat) : Int))), (7, u7_3), (38, .int .i64 (((gj : Nat) : Int))), (39, ptr b1 (0 + 0)), (40, .int .i64 (((p : Nat) : Int))), (41, .bool (decide ((((gj : Nat) : Int) : Int) < ((p : Nat) : Int)))), (44, .slice (some ⟨bA, 0, none⟩) ((prL p n T uu (padN n VF) g1).length) (cA)), (45, .int .i64 (((gi : Nat) : Int))), (46, ptr bA (0 + (gi) * 6)), (47, .agg (vecC (gz (prL p n T uu (padN n VF) g1) (gi)))), (10, ptr b7 (0)), (11, .int .i64 (((kk : Nat) : Int)))] ∧ Mem w w' [some (b1, algC (p : Int) (n : Int) T f), some (b2, vecC uu), e7_3, none, some (b7, vecC (pcS p n T uu (gz (prL p n T uu (padN n VF) g1) gi) ((padN n VF) g1) gj kk)), none, none, none, none, none, some (bF, csF)] [(bA, csA)]) (fun kk => p - kk) 0 ?_ ?_
        ·
         refine ⟨by omega, trivial, hF.sub _ (by repeat' constructor), ?_⟩
         exact hM
        ·
         clear hF hM
         rintro gd a w' ⟨hgd, hinv4, hF, hM⟩
         have hvt : ∀ c, (pcS p n T uu (gz (prL p n T uu (padN n VF) g1) gi) ((padN n VF) g1) gj gd) c ≤ 255 := fun c => by have := (pcS_RV (by omega) hT0 hAe gj gd : RVp p n (pcS p n T uu (gz (prL p n T uu (padN n VF) g1) gi) ((padN n VF) g1) gj gd)).1 c; omega
         have hfb : ∀ c, addN p ((padN n VF) g1) uu (-((gd : Nat) : Int)) c ≤ 255 := fun c => by have := addN_lt (p := p) (f := ((padN n VF) g1)) (h := uu) (x := -((gd : Nat) : Int)) (i := c) (by omega); omega
         have hvs : ∀ c, addN p (fun _ => 0) (addN p ((padN n VF) g1) uu (-((gd : Nat) : Int))) ((invN (((((gj : Nat) : Int) - ((gd : Nat) : Int)) % (p : Int)).toNat) p : Nat) : Int) c ≤ 255 := fun c => by have := addN_lt (p := p) (f := fun _ => 0) (h := addN p ((padN n VF) g1) uu (-((gd : Nat) : Int))) (x := ((invN (((((gj : Nat) : Int) - ((gd : Nat) : Int)) % (p : Int)).toNat) p : Nat) : Int)) (i := c) (by omega); omega
         have hib := invN_lt (x := ((((gj : Nat) : Int) - ((gd : Nat) : Int)) % (p : Int)).toNat) (p := p) (by omega)
         refine sq (sq (wp_region_lit ?_))
         refine st hF (g_move hF rfl) rfl fun a hF => st hF (g_fieldAddr ty_fo_32_0 hF rfl) rfl fun a hF => st hF (g_load ty_on_2 hF rfl (hM.row 0 rfl) (algC_p (by omega))) rfl fun a hF => st hF (g_lss hF rfl rfl) rfl fun a hF => ?_
         refine wpList_nil (tN ?_)
         refine c_cond hF rfl (fun h8 => ?_) (fun h8 => ?_)
         ·
          refine wp_skip (tN (sq (wp_block (sq (wp_region_lit ?_)))))
          refine st hF (g_move hF rfl) rfl fun a hF => st hF (g_move hF rfl) rfl fun a hF => st hF (g_neq hF rfl rfl) rfl fun a hF => ?_
          refine wpList_nil (tN ?_)
          refine c_cond hF rfl (fun h9 => ?_) (fun h9 => ?_)
          ·
           have hdc : gd ≠ gj := by omega
           refine sq ?_
           refine c_par 11 [5] [.val (ptr b1 (0 + 0)), .val (.int .i64 (((p : Nat) : Int))), .val (.slice (some ⟨bF, 0, none⟩) (rF) (cF)), .val (.int .i64 (((g1 : Nat) : Int))), .val (ptr bF (0 + (g1) * 6)), .val (.agg (vecC ((padN n VF) (g1)))), .val (.agg (vecC uu)), .val (.int .i64 (((gd : Nat) : Int))), .val (.int .i64 (-(((gd : Nat) : Int)))), .val (.agg (vecC (addN p (((padN n VF) (g1))) (uu) (-(((gd : Nat) : Int)))))), .own 5 (fnC 6 (fun _ => .int .u8 (0))) (fun b => ptr b 0)] hmix rfl hF rfl hM ⟨fun a w gG hF hS hd => by exact par_val hS rfl (g_fieldAddr ty_fo_32_0 hF rfl), fun a w gG hF hS hd => by have hF := hF.ext1 57 (hd 0 rfl rfl); have hM := hS.mem rfl; exact par_val hS rfl (g_load ty_on_2 hF rfl (hM.row 0 rfl) (algC_p (by omega))), fun a w gG hF hS hd => by exact par_val hS rfl (g_move hF rfl), fun a w gG hF hS hd => by exact par_val hS rfl (g_move hF rfl), fun a w gG hF hS hd => by have hF := hF.ext1 59 (hd 2 rfl rfl); have hF := hF.ext1 60 (hd 3 rfl rfl); exact par_val hS rfl (g_indexSl (i := g1) ty_sl_27 hF rfl rfl rfl (by omega)), fun a w gG hF hS hd => by have hF := hF.ext1 61 (hd 4 rfl rfl); have hM := hS.mem rfl; exact par_val hS rfl (g_loadAgg ty_ag_30 hF rfl (hM.row 10 rfl) (hsF.room (g1) (by omega)) (hsF.vec0 (V := (padN n VF)) (g1) (by omega))), fun a w gG hF hS hd => by have hM := hS.mem rfl; exact par_val hS rfl (g_loadAgg ty_ag_30 hF rfl (hM.row 1 rfl) (by simp only [fnC_size, cells_size, vecC_size, tabC_size, planeC_size, dgC_size, numC_sz, ldB_size, rowV_size] <;> omega) (whole (by simp only [fnC_size, cells_size, vecC_size, tabC_size, planeC_size, dgC_size, numC_sz, ldB_size, rowV_size]))), fun a w gG hF hS hd => by exact par_val hS rfl (g_move hF rfl), fun a w gG hF hS hd => by have hF := hF.ext1 64 (hd 7 rfl rfl); exact par_val hS rfl (g_neg hF rfl (wrap_i64 (by omega) (by omega))), fun a w gG hF hS hd => by have hF := hF.ext1 58 (hd 1 rfl rfl); have hF := hF.ext1 62 (hd 5 rfl rfl); have hF := hF.ext1 63 (hd 6 rfl rfl); have hF := hF.ext1 65 (hd 8 rfl rfl); exact par_call (by repeat constructor) hS rfl (d_call Tryd.call38 hF (.cons rfl (.cons rfl (.cons rfl (.cons rfl .nil)))) (l01AddI_ok (p) (((padN n VF) (g1))) (uu) (-(((gd : Nat) : Int))) _ (by omega) (by omega) (by omega) (by omega) (fun i => by first | exact hVb i | exact huB i | exact hfb i | exact hvt i | exact Nat.zero_le _) (fun i => by first | exact hVb i | exact huB i | exact hfb i | exact hvt i | exact Nat.zero_le _))), fun a w gG hF hS hd => by exact par_own (by repeat constructor) hS rfl rfl rfl rfl (d_alloc 5 hS.1 ty_ze_30), trivial⟩ ?_
           intro a w' L hF hS hq
           have hF := hF.ext1 57 (hq 0 rfl rfl)
           have hF := hF.ext1 58 (hq 1 rfl rfl)
           have hF := hF.ext1 59 (hq 2 rfl rfl)
           have hF := hF.ext1 60 (hq 3 rfl rfl)
           have hF := hF.ext1 61 (hq 4 rfl rfl)
           have hF := hF.ext1 62 (hq 5 rfl rfl)
           have hF := hF.ext1 63 (hq 6 rfl rfl)
           have hF := hF.ext1 64 (hq 7 rfl rfl)
           have hF := hF.ext1 65 (hq 8 rfl rfl)
           have hF := hF.ext1 66 (hq 9 rfl rfl)
           obtain ⟨hM, hL⟩ := hS
           obtain ⟨b10, hptr, hkk⟩ := hq 10 rfl rfl
           have hF := hF.ext1 12 hptr
           have hL := hL.take hkk
           obtain rfl := hL.eq
           change Mem w w' [some (b1, algC (p : Int) (n : Int) T f), some (b2, vecC uu), e7_3, none, some (b7, vecC (pcS p n T uu (gz (prL p n T uu (padN n VF) g1) gi) ((padN n VF) g1) gj gd)), some (b10, fnC 6 (fun _ => .int .u8 (0))), none, none, none, none, some (bF, csF)] [(bA, csA)] at hM
           change wpList Tryd.prog _ _ [_] _ _
           refine stN hF (d_storeAgg 5 hM rfl ty_sz_30 hF rfl rfl (by first | exact vecC_one | exact cells_one | (refine fnC_one fun _ _ => ?_; first | rfl | (split <;> rfl))) (by simp only [fnC_size, cells_size, vecC_size, tabC_size, planeC_size, dgC_size, numC_sz, ldB_size, rowV_size]) (by simp only [fnC_size, cells_size, vecC_size, tabC_size, planeC_size, dgC_size, numC_sz, ldB_size, rowV_size] <;> omega) (splice_whole _ _ (by simp only [fnC_size, cells_size, vecC_size, tabC_size, planeC_size, dgC_size, numC_sz, ldB_size, rowV_size]))) ?_
           intro _ w' a hM hF
           change Mem w w' [some (b1, algC (p : Int) (n : Int) T f), some (b2, vecC uu), e7_3, none, some (b7, vecC (pcS p n T uu (gz (prL p n T uu (padN n VF) g1) gi) ((padN n VF) g1) gj gd)), some (b10, vecC (addN p (((padN n VF) (g1))) (uu) (-(((gd : Nat) : Int))))), none, none, none, none, some (bF, csF)] [(bA, csA)] at hM
           refine wpList_nil (tN ?_)
           refine c_par 13 [] [.val (.agg (algC (p : Int) (n : Int) T f)), .val (.agg (vecC (pcS p n T uu (gz (prL p n T uu (padN n VF) g1) gi) ((padN n VF) g1) gj gd))), .val (ptr b1 (0 + 0)), .val (.int .i64 (((p : Nat) : Int))), .val (.agg (fnC 6 (fun _ => .int .u8 (0)))), .val (.agg (vecC (addN p (((padN n VF) (g1))) (uu) (-(((gd : Nat) : Int)))))), .val (ptr b1 (0 + 0)), .val (.int .i64 (((p : Nat) : Int))), .val (.int .i64 (((gj : Nat) : Int))), .val (.int .i64 (((gd : Nat) : Int))), .val (.int .i64 (((gj : Nat) : Int) - ((gd : Nat) : Int))), .val (.int .i64 (((invN ((((gj : Nat) : Int) - ((gd : Nat) : Int)) % (p : Int)).toNat (p) : Nat) : Int))), .val (.agg (vecC (addN p ((fun _ => 0)) ((addN p (((padN n VF) (g1))) (uu) (-(((gd : Nat) : Int))))) (((invN ((((gj : Nat) : Int) - ((gd : Nat) : Int)) % (p : Int)).toNat (p) : Nat) : Int)))))] hmix rfl hF rfl hM ⟨fun a w gG hF hS hd => by have hM := hS.mem rfl; exact par_val hS rfl (g_loadAgg ty_ag_32 hF rfl (hM.row 0 rfl) (by simp only [fnC_size, cells_size, vecC_size, tabC_size, planeC_size, dgC_size, numC_sz, ldB_size, rowV_size] <;> omega) (whole cells_size)), fun a w gG hF hS hd => by have hM := hS.mem rfl; exact par_val hS rfl (g_loadAgg ty_ag_30 hF rfl (hM.row 4 rfl) (by simp only [fnC_size, cells_size, vecC_size, tabC_size, planeC_size, dgC_size, numC_sz, ldB_size, rowV_size] <;> omega) (whole (by simp only [fnC_size, cells_size, vecC_size, tabC_size, planeC_size, dgC_size, numC_sz, ldB_size, rowV_size]))), fun a w gG hF hS hd => by exact par_val hS rfl (g_fieldAddr ty_fo_32_0 hF rfl), fun a w gG hF hS hd => by have hF := hF.ext1 69 (hd 2 rfl rfl); have hM := hS.mem rfl; exact par_val hS rfl (g_load ty_on_2 hF rfl (hM.row 0 rfl) (algC_p (by omega))), fun a w gG hF hS hd => by exact par_val hS rfl (g_build0 ty_bu_30), fun a w gG hF hS hd => by have hM := hS.mem rfl; exact par_val hS rfl (g_loadAgg ty_ag_30 hF rfl (hM.row 5 rfl) (by simp only [fnC_size, cells_size, vecC_size, tabC_size, planeC_size, dgC_size, numC_sz, ldB_size, rowV_size] <;> omega) (whole (by simp only [fnC_size, cells_size, vecC_size, tabC_size, planeC_size, dgC_size, numC_sz, ldB_size, rowV_size]))), fun a w gG hF hS hd => by exact par_val hS rfl (g_fieldAddr ty_fo_32_0 hF rfl), fun a w gG hF hS hd => by have hF := hF.ext1 73 (hd 6 rfl rfl); have hM := hS.mem rfl; exact par_val hS rfl (g_load ty_on_2 hF rfl (hM.row 0 rfl) (algC_p (by omega))), fun a w gG hF hS hd => by exact par_val hS rfl (g_move hF rfl), fun a w gG hF hS hd => by exact par_val hS rfl (g_move hF rfl), fun a w gG hF hS hd => by have hF := hF.ext1 75 (hd 8 rfl rfl); have hF := hF.ext1 76 (hd 9 rfl rfl); exact par_val hS rfl (g_sub hF rfl rfl (wrap_i64 (by omega) (by omega))), fun a w gG hF hS hd => by have hF := hF.ext1 74 (hd 7 rfl rfl); have hF := hF.ext1 77 (hd 10 rfl rfl); exact par_call (by repeat constructor) hS rfl (d_call Tryd.call40 hF (.cons rfl (.cons rfl .nil)) (l01InverseI_ok (((gj : Nat) : Int) - ((gd : Nat) : Int)) (p) _ (by omega) (by omega) (by omega) (by omega))), fun a w gG hF hS hd => by have hF := hF.ext1 70 (hd 3 rfl rfl); have hF := hF.ext1 71 (hd 4 rfl rfl); have hF := hF.ext1 72 (hd 5 rfl rfl); have hF := hF.ext1 78 (hd 11 rfl rfl); exact par_call (by repeat constructor) hS rfl (d_call Tryd.call38 hF (.cons rfl (.cons rfl (.cons rfl (.cons rfl .nil)))) (l01AddI_ok (p) ((fun _ => 0)) ((addN p (((padN n VF) (g1))) (uu) (-(((gd : Nat) : Int))))) (((invN ((((gj : Nat) : Int) - ((gd : Nat) : Int)) % (p : Int)).toNat (p) : Nat) : Int)) _ (by omega) (by omega) (by omega) (by omega) (fun i => by first | exact hVb i | exact huB i | exact hfb i | exact hvt i | exact Nat.zero_le _) (fun i => by first | exact hVb i | exact huB i | exact hfb i | exact hvt i | exact Nat.zero_le _))), trivial⟩ ?_
           intro a w' L hF hS hq
           have hF := hF.ext1 67 (hq 0 rfl rfl)
           have hF := hF.ext1 68 (hq 1 rfl rfl)
           have hF := hF.ext1 69 (hq 2 rfl rfl)
           have hF := hF.ext1 70 (hq 3 rfl rfl)
           have hF := hF.ext1 71 (hq 4 rfl rfl)
           have hF := hF.ext1 72 (hq 5 rfl rfl)
           have hF := hF.ext1 73 (hq 6 rfl rfl)
           have hF := hF.ext1 74 (hq 7 rfl rfl)
           have hF := hF.ext1 75 (hq 8 rfl rfl)
           have hF := hF.ext1 76 (hq 9 rfl rfl)
           have hF := hF.ext1 77 (hq 10 rfl rfl)
           have hF := hF.ext1 78 (hq 11 rfl rfl)
           have hF := hF.ext1 79 (hq 12 rfl rfl)
           have hM := hS.mem rfl
           change wpList Tryd.prog _ _ [_, _] _ _
           refine stR hF (d_call Tryd.call39 hF (.cons rfl (.cons rfl (.cons rfl .nil))) ((CallsR.val (l01Times_ok p n T f ((pcS p n T uu (gz (prL p n T uu (padN n VF) g1) gi) ((padN n VF) g1) gj gd)) ((addN p ((fun _ => 0)) ((addN p (((padN n VF) (g1))) (uu) (-(((gd : Nat) : Int))))) (((invN ((((gj : Nat) : Int) - ((gd : Nat) : Int)) % (p : Int)).toNat (p) : Nat) : Int)))) _ (by omega) (by omega) (by omega) (fun _ _ _ => hT _ _ _) (fun _ => by first | exact hv _ | exact hvt _ | exact hvs _ | exact hvp _ | exact hvq _ | exact hu _ | exact hT _ _ _ | exact hf _ | omega | (split <;> omega) | (dsimp only; split <;> omega) | assumption) (fun _ => by first | exact hv _ | exact hvt _ | exact hvs _ | exact hvp _ | exact hvq _ | exact hu _ | exact hT _ _ _ | exact hf _ | omega | (split <;> omega) | (dsimp only; split <;> omega) | assumption)) (congrArg (fun v => Value.agg (vecC v)) (times_eq hT0 ((pcS p n T uu (gz (prL p n T uu (padN n VF) g1) gi) ((padN n VF) g1) gj gd)) ((addN p ((fun _ => 0)) ((addN p (((padN n VF) (g1))) (uu) (-(((gd : Nat) : Int))))) (((invN ((((gj : Nat) : Int) - ((gd : Nat) : Int)) % (p : Int)).toNat (p) : Nat) : Int))))).symm)))) rfl ?_
           rintro _ w' a ⟨hx, rfl⟩ hF
           have hM := hM.ext hx
           refine stN hF (d_storeAgg 4 hM rfl ty_sz_30 hF rfl rfl (by first | exact vecC_one | exact cells_one | (refine fnC_one fun _ _ => ?_; first | rfl | (split <;> rfl))) (by simp only [fnC_size, cells_size, vecC_size, tabC_size, planeC_size, dgC_size, numC_sz, ldB_size, rowV_size]) (by simp only [fnC_size, cells_size, vecC_size, tabC_size, planeC_size, dgC_size, numC_sz, ldB_size, rowV_size] <;> omega) (splice_whole _ _ (by simp only [fnC_size, cells_size, vecC_size, tabC_size, planeC_size, dgC_size, numC_sz, ldB_size, rowV_size]))) ?_
           intro _ w' a hM hF
           change Mem w w' [some (b1, algC (p : Int) (n : Int) T f), some (b2, vecC uu), e7_3, none, some (b7, vecC (timesV p n T ((pcS p n T uu (gz (prL p n T uu (padN n VF) g1) gi) ((padN n VF) g1) gj gd)) ((addN p ((fun _ => 0)) ((addN p (((padN n VF) (g1))) (uu) (-(((gd : Nat) : Int))))) (((invN ((((gj : Nat) : Int) - ((gd : Nat) : Int)) % (p : Int)).toNat (p) : Nat) : Int)))))), some (b10, vecC (addN p (((padN n VF) (g1))) (uu) (-(((gd : Nat) : Int))))), none, none, none, none, some (bF, csF)] [(bA, csA)] at hM
           refine wpList_nil (iN (tN (wp_region_lit ?_)))
           refine st hF (g_move hF rfl) rfl fun a hF => st hF (g_add hF rfl rfl (add_nat (gd) (1) (by omega))) rfl fun a hF => st hF (g_assign hF rfl) rfl fun a hF => ?_
           refine wpList_nil (tN ?_)
           have hM := hM.drop 5
           refine ⟨gd + 1, ⟨by omega, trivial, hF.sub _ (by repeat' constructor), ?_⟩, by omega⟩
           first | (rw [pcS_ne hdc] at hM; exact hM) | (rw [pcS_same hdc] at hM; exact hM)
          ·
           have hdc : gd = gj := by omega
           refine wp_skip (iN (tN (wp_region_lit ?_)))
           refine st hF (g_move hF rfl) rfl fun a hF => st hF (g_add hF rfl rfl (add_nat (gd) (1) (by omega))) rfl fun a hF => st hF (g_assign hF rfl) rfl fun a hF => ?_
           refine wpList_nil (tN ?_)
           refine ⟨gd + 1, ⟨by omega, trivial, hF.sub _ (by repeat' constructor), ?_⟩, by omega⟩
           first | (rw [pcS_ne hdc] at hM; exact hM) | (rw [pcS_same hdc] at hM; exact hM)
         ·
          obtain rfl : p = gd := by omega
          have hpcE : pcS p n T uu (gz (prL p n T uu (padN n VF) g1) gi) ((padN n VF) g1) gj p = pcI p n T uu ((prL p n T uu (padN n VF) g1).getD gi zv) ((padN n VF) g1) gj := pcS_eq hp haI hkI hT0 huu hAe (hInv.idem _ (getD_mem (by omega))) (by omega)
          refine wp_exit (tX (tX ?_))
          refine ib_same ?_
          refine tN (sq (wp_region_lit ?_))
          refine st hF (g_loadAgg ty_ag_30 hF rfl (hM.row 4 rfl) (by simp only [fnC_size, cells_size, vecC_size, tabC_size, planeC_size, dgC_size, numC_sz, ldB_size, rowV_size] <;> omega) (whole (by simp only [fnC_size, cells_size, vecC_size, tabC_size, planeC_size, dgC_size, numC_sz, ldB_size, rowV_size]))) rfl fun a hF => st hF (g_build0 ty_bu_30) rfl fun a hF => st hF (g_neqA ty_eg_30 hF rfl rfl (eqAt_vec ty_ae_30 ty_ip_5 ty_on_5)) rfl fun a hF => ?_
          refine wpList_nil (tN ?_)
          refine c_cond hF rfl (fun h11 => ?_) (fun h11 => ?_)
          ·
           have hpc : ¬ eqV 6 (pcI p n T uu ((prL p n T uu (padN n VF) g1).getD gi zv) ((padN n VF) g1) gj) (fun _ => 0) := by first | exact hpcE ▸ h11 | exact hpcE ▸ Classical.byContradiction h11 | (rw [← hpcE]; exact h11) | (rw [← hpcE]; exact Classical.byContradiction h11)
           refine wp_region_lit ?_
           refine st hF (g_move hF rfl) rfl fun a hF => st hF (g_loadAgg ty_ag_30 hF rfl (hM.row 4 rfl) (by simp only [fnC_size, cells_size, vecC_size, tabC_size, planeC_size, dgC_size, numC_sz, ldB_size, rowV_size] <;> omega) (whole (by simp only [fnC_size, cells_size, vecC_size, tabC_size, planeC_size, dgC_size, numC_sz, ldB_size, rowV_size]))) rfl fun a hF => ?_
           refine stR hF (d_buildC (vs := [(0, .agg (vecC (pcS p n T uu (gz (prL p n T uu (padN n VF) g1) gi) ((padN n VF) g1) gj p)))]) 6 hM hF (build1 hF rfl) (fun w => ty_bsg_27_1 (pcS p n T uu (gz (prL p n T uu (padN n VF) g1) gi) ((padN n VF) g1) gj p) w)) rfl ?_
           rintro _ w' a ⟨b12, rfl, hM, -⟩ hF
           change Mem w w' [some (b1, algC (p : Int) (n : Int) T f), some (b2, vecC uu), e7_3, none, some (b7, vecC (pcS p n T uu (gz (prL p n T uu (padN n VF) g1) gi) ((padN n VF) g1) gj p)), none, some (b12, vecsC 1 (vAtL [(pcS p n T uu (gz (prL p n T uu (padN n VF) g1) gi) ((padN n VF) g1) gj p)])), none, none, none, some (bF, csF)] [(bA, csA)] at hM
           refine stR hF (d_append (k := 2) (N := (spW p n T uu ((padN n VF) g1) (prL p n T uu (padN n VF) g1) gi gj).length) (m := 1) (f := (fun c => .int .u8 (((gz (spW p n T uu ((padN n VF) g1) (prL p n T uu (padN n VF) g1) gi gj)) (c / 6) (c % 6) : Nat) : Int))) (g := fun q => .int .u8 (((((pcS p n T uu (gz (prL p n T uu (padN n VF) g1) gi) ((padN n VF) g1) gj p)) q : Nat)) : Int)) ty_si_27 rfl (by decide) hM rfl hF rfl rfl hsl3 (fun q hq => ((hM.row 6 rfl).cell _).trans (vecs1_get q hq)) (fun _ _ => rfl) (by decide) (by unfold maxLen; omega) (by omega)) rfl ?_
           rintro u13 w' a ⟨e14, hM, hs15⟩ hF
           change Mem w w' [some (b1, algC (p : Int) (n : Int) T f), some (b2, vecC uu), e14, none, some (b7, vecC (pcS p n T uu (gz (prL p n T uu (padN n VF) g1) gi) ((padN n VF) g1) gj p)), none, some (b12, vecsC 1 (vAtL [(pcS p n T uu (gz (prL p n T uu (padN n VF) g1) gi) ((padN n VF) g1) gj p)])), none, none, none, some (bF, csF)] [(bA, csA)] at hM
           refine st hF (g_assign hF rfl) rfl fun a hF => ?_
           refine wpList_nil (iN (tN (wp_region_lit ?_)))
           refine st hF (g_move hF rfl) rfl fun a hF => st hF (g_add hF rfl rfl (add_nat (gj) (1) (by omega))) rfl fun a hF => st hF (g_assign hF rfl) rfl fun a hF => ?_
           refine wpList_nil (tN ?_)
           have hM := hM.drop 4
           have hM := hM.drop 6
           refine ⟨gj + 1, ⟨by omega, trivial, (u13), (e14), (by first | (rw [spW_no hpc]; exact hs15) | (rw [spW_yes hpc, ← hpcE]; exact sl_app hs15 (fun q _ => rfl))), hF.sub _ (by repeat' constructor), ?_⟩, by omega⟩
           exact hM
          ·
           have hpc : eqV 6 (pcI p n T uu ((prL p n T uu (padN n VF) g1).getD gi zv) ((padN n VF) g1) gj) (fun _ => 0) := by first | exact hpcE ▸ h11 | exact hpcE ▸ Classical.byContradiction h11 | (rw [← hpcE]; exact h11) | (rw [← hpcE]; exact Classical.byContradiction h11)
           refine wp_skip (iN (tN (wp_region_lit ?_)))
           refine st hF (g_move hF rfl) rfl fun a hF => st hF (g_add hF rfl rfl (add_nat (gj) (1) (by omega))) rfl fun a hF => st hF (g_assign hF rfl) rfl fun a hF => ?_
           refine wpList_nil (tN ?_)
           have hM := hM.drop 4
           refine ⟨gj + 1, ⟨by omega, trivial, (u7_3), (e7_3), (by first | (rw [spW_no hpc]; exact hsl3) | (rw [spW_yes hpc, ← hpcE]; exact sl_app hsl3 (fun q _ => rfl))), hF.sub _ (by repeat' constructor), ?_⟩, by omega⟩
           exact hM
       ·
        obtain rfl : p = gj := by omega
        refine wp_exit (tX (tX ?_))
        refine ib_same ?_
        refine iN (tN (wp_region_lit ?_))
        refine st hF (g_move hF rfl) rfl fun a hF => st hF (g_add hF rfl rfl (add_nat (gi) (1) (by omega))) rfl fun a hF => st hF (g_assign hF rfl) rfl fun a hF => ?_
        refine wpList_nil (tN ?_)
        refine ⟨gi + 1, ⟨by omega, trivial, (u7_3), (e7_3), (by rw [spW_next (by omega)]; exact hsl3), hF.sub _ (by repeat' constructor), ?_⟩, by omega⟩
        exact hM
     ·
      obtain rfl : (prL p n T uu (padN n VF) g1).length = gi := by omega
      refine wp_exit (tX (tX ?_))
      refine ib_same ?_
      refine tN (wp_region_lit ?_)
      refine st hF (g_move hF rfl) rfl fun a hF => st hF (g_assign hF rfl) rfl fun a hF => ?_
      refine wpList_nil (iN (tN (wp_region_lit ?_)))
      refine st hF (g_move hF rfl) rfl fun a hF => st hF (g_add hF rfl rfl (add_nat (g1) (1) (by omega))) rfl fun a hF => st hF (g_assign hF rfl) rfl fun a hF => ?_
      refine wpList_nil (tN ?_)
      have hM := hM.lessD (D' := []) (fun _ h => by cases h)
      refine ⟨g1 + 1, ⟨by omega, trivial, (u7_2), (e7_2), (by have h9 := hsl2; rw [spW_all] at h9; exact h9), hF.sub _ (by repeat' constructor), ?_⟩, by omega⟩
      exact hM
   ·
    obtain rfl : rF = g1 := by omega
    refine wp_exit (tX (tX ?_))
    refine ib_same ?_
    refine tN (sq ?_)
    have hInv : InvA p n T (prL p n T uu (padN n VF) rF) := prL_invP hp hn0 hn haI hkI hT0 huu hIK rF (Nat.le_refl _)
    have hAp : 0 < (prL p n T uu (padN n VF) rF).length := List.length_pos_iff.2 hInv.ne
    have hAl := hInv.count hp hn hkI
    obtain ⟨bA, cA, csA, rfl, rfl, hsA⟩ := (hsl).pos hAp
    have hM := hM.freeze 2 rfl
    have hAb := gz_le hp13 hInv
    have hDst := gz_dst hn hkI hInv
    change Mem w _ [some (b1, algC (p : Int) (n : Int) T f), some (b2, vecC uu), none, none, none, none, none, none, none, none, some (bF, csF)] [(bA, csA)] at hM
    refine wp_region_lit ?_
    refine stR hF (d_buildC 7 hM hF rfl ty_bs0_27) rfl ?_
    rintro _ w' a ⟨b16, rfl, hM, -⟩ hF
    change Mem w w' [some (b1, algC (p : Int) (n : Int) T f), some (b2, vecC uu), none, none, none, none, none, some (b16, #[]), none, none, some (bF, csF)] [(bA, csA)] at hM
    refine st hF (g_assign hF rfl) rfl fun a hF => ?_
    refine wpList_nil (tN (sq (sq (wp_region_lit ?_))))
    refine st hF (g_assign hF rfl) rfl fun a hF => ?_
    refine wpList_nil (tN (wp_block ?_))
    change Mem w _ [some (b1, algC (p : Int) (n : Int) T f), some (b2, vecC uu), none, none, none, none, none, some (b16, #[]), none, none, some (bF, csF)] [(bA, csA)] at hM
    refine c_loop (fun (kk : Nat) a w' => kk ≤ (prL p n T uu (padN n VF) rF).length ∧ ∃ (bo : Nat), ∃ (co : Nat), ∃ (cso : Array Value), (SlAt 6 (.slice (some ⟨bo, 0, none⟩) kk co) (some (bo, cso)) kk bo co cso (fun c => .int .u8 (((srt (gz (prL p n T uu (padN n VF) rF)) kk) (c / 6) (c % 6) : Nat) : Int))) ∧ Fr 130 a [(24, .slice (some ⟨bF, 0, none⟩) (rF) (cF)), (20, .slice (some ⟨b8, 0, none⟩) (1) (1)), (0, .agg (algC (p : Int) (n : Int) T f)), (1, ptr b1 (0)), (2, .slice none 0 0), (17, .agg (algC (p : Int) (n : Int) T f)), (18, .agg (vecC uu)), (3, ptr b2 (0)), (5, .slice (some ⟨bF, 0, none⟩) (rF) (cF)), (6, .int .i64 (((rF : Nat) : Int))), (4, .slice (some ⟨bA, 0, none⟩) ((prL p n T uu (padN n VF) rF).length) (cA)), (25, .int .i64 (((rF : Nat) : Int))), (26, .slice (some ⟨bF, 0, none⟩) (rF) (cF)), (27, .int .i64 (((rF : Nat) : Int))), (28, .bool (decide ((((rF : Nat) : Int) : Int) < ((rF : Nat) : Int)))), (89, .slice (some ⟨b16, 0, none⟩) (0) (0)), (14, .int .i64 (((kk : Nat) : Int))), (13, .slice (some ⟨bo, 0, none⟩) (kk) (co))] ∧ Mem w w' [some (b1, algC (p : Int) (n : Int) T f), some (b2, vecC uu), none, none, none, none, none, some (bo, cso), none, none, some (bF, csF)] [(bA, csA)]) (fun kk => (prL p n T uu (padN n VF) rF).length - kk) 0 ?_ ?_
    ·
     refine ⟨by omega, b16, 0, #[], slAt_zero6, hF.sub _ (by repeat' constructor), ?_⟩
     exact hM
    ·
     clear hF hM
     rintro ga a w' ⟨hga, bo, co, cso, hso, hF, hM⟩
     have hSb : ∀ k c, (srt (gz (prL p n T uu (padN n VF) rF)) ga) k c ≤ 255 := srt_le hAb ga
     refine sq (sq (wp_region_lit ?_))
     refine st hF (g_move hF rfl) rfl fun a hF => st hF (g_move hF rfl) rfl fun a hF => st hF (g_len ty_us_27 hF rfl) rfl fun a hF => st hF (g_lss hF rfl rfl) rfl fun a hF => ?_
     refine wpList_nil (tN ?_)
     refine c_cond hF rfl (fun h17 => ?_) (fun h17 => ?_)
     ·
      refine wp_skip (tN (sq (wp_block (sq (wp_region_lit ?_)))))
      refine st hF (g_assign hF rfl) rfl fun a hF => ?_
      refine wpList_nil (tN (sq (wp_block ?_)))
      change Mem w _ [some (b1, algC (p : Int) (n : Int) T f), some (b2, vecC uu), none, none, none, none, none, some (bo, cso), none, none, some (bF, csF)] [(bA, csA)] at hM
      refine c_loop (fun (kk : Nat) a w' => kk ≤ ga ∧ (∀ k, k < kk → ltV ((srt (gz (prL p n T uu (padN n VF) rF)) ga) k) (gz (prL p n T uu (padN n VF) rF) ga)) ∧ Fr 130 a [(24, .slice (some ⟨bF, 0, none⟩) (rF) (cF)), (20, .slice (some ⟨b8, 0, none⟩) (1) (1)), (0, .agg (algC (p : Int) (n : Int) T f)), (1, ptr b1 (0)), (2, .slice none 0 0), (17, .agg (algC (p : Int) (n : Int) T f)), (18, .agg (vecC uu)), (3, ptr b2 (0)), (5, .slice (some ⟨bF, 0, none⟩) (rF) (cF)), (6, .int .i64 (((rF : Nat) : Int))), (4, .slice (some ⟨bA, 0, none⟩) ((prL p n T uu (padN n VF) rF).length) (cA)), (25, .int .i64 (((rF : Nat) : Int))), (26, .slice (some ⟨bF, 0, none⟩) (rF) (cF)), (27, .int .i64 (((rF : Nat) : Int))), (28, .bool (decide ((((rF : Nat) : Int) : Int) < ((rF : Nat) : Int)))), (89, .slice (some ⟨b16, 0, none⟩) (0) (0)), (14, .int .i64 (((ga : Nat) : Int))), (13, .slice (some ⟨bo, 0, none⟩) (ga) (co)), (90, .int .i64 (((ga : Nat) : Int))), (91, .slice (some ⟨bA, 0, none⟩) ((prL p n T uu (padN n VF) rF).length) (cA)), (92, .int .i64 ((((prL p n T uu (padN n VF) rF).length : Nat) : Int))), (93, .bool (decide ((((ga : Nat) : Int) : Int) < (((prL p n T uu (padN n VF) rF).length : Nat) : Int)))), (15, .int .i64 (((kk : Nat) : Int)))] ∧ Mem w w' [some (b1, algC (p : Int) (n : Int) T f), some (b2, vecC uu), none, none, none, none, none, some (bo, cso), none, none, some (bF, csF)] [(bA, csA)]) (fun kk => ga - kk) 0 ?_ ?_
      ·
       refine ⟨by omega, fun k hk => absurd hk (by omega), hF.sub _ (by repeat' constructor), ?_⟩
       exact hM
      ·
       clear hF hM
       rintro gb a w' ⟨hgb, hlow, hF, hM⟩
       refine sq (sq ?_)
       by_cases hb0 : gb < ga
       ·
         refine c_parQ 13 [] [.val (.int .i64 (((gb : Nat) : Int))), .val (.slice (some ⟨bo, 0, none⟩) (ga) (co)), .val (.int .i64 (((ga : Nat) : Int))), .val (.bool (true)), .val (.bool (true)), .val (.slice (some ⟨bo, 0, none⟩) (ga) (co)), .val (.int .i64 (((gb : Nat) : Int))), .val (ptr bo (0 + (gb) * 6)), .val (.agg (vecC ((srt (gz (prL p n T uu (padN n VF) rF)) ga) (gb)))), .val (.slice (some ⟨bA, 0, none⟩) ((prL p n T uu (padN n VF) rF).length) (cA)), .val (.int .i64 (((ga : Nat) : Int))), .val (ptr bA (0 + (ga) * 6)), .val (.agg (vecC (gz (prL p n T uu (padN n VF) rF) (ga))))] hmix rfl hF rfl hM ⟨fun a w gG hF hS hd => q_none rfl (by exact par_val hS rfl (g_move hF rfl)), fun a w gG hF hS hd => q_none rfl (by exact par_val hS rfl (g_move hF rfl)), fun a w gG hF hS hd => q_none rfl (by have hF := hF.ext1 97 (hd 1 rfl rfl); exact par_val hS rfl (g_len ty_us_27 hF rfl)), fun a w gG hF hS hd => q_none rfl (by have hF := hF.ext1 96 (hd 0 rfl rfl); have hF := hF.ext1 98 (hd 2 rfl rfl); exact par_val hS rfl (gives_eq (g_lss hF rfl rfl) (congrArg Value.bool (decide_eq_true (by omega))))), fun a w gG hF hS hd => q_none rfl (by have hF := hF.ext1 99 (hd 3 rfl rfl); exact par_val hS rfl (g_move hF rfl)), fun a w gG hF hS hd => q_yes rfl (hF.ext1 100 (hd 4 rfl rfl)) rfl rfl rfl (by exact par_val hS rfl (g_move hF rfl)), fun a w gG hF hS hd => q_yes rfl (hF.ext1 100 (hd 4 rfl rfl)) rfl rfl rfl (by exact par_val hS rfl (g_move hF rfl)), fun a w gG hF hS hd => q_yes rfl (hF.ext1 100 (hd 4 rfl rfl)) rfl rfl rfl (by have hF := hF.ext1 101 (hd 5 rfl rfl); have hF := hF.ext1 102 (hd 6 rfl rfl); exact par_val hS rfl (g_indexSl (i := gb) ty_sl_27 hF rfl rfl rfl (by omega))), fun a w gG hF hS hd => q_yes rfl (hF.ext1 100 (hd 4 rfl rfl)) rfl rfl rfl (by have hF := hF.ext1 103 (hd 7 rfl rfl); have hM := hS.mem rfl; exact par_val hS rfl (g_loadAgg ty_ag_30 hF rfl (hM.row 7 rfl) (hso.room (gb) (by omega)) (hso.vec0 (V := (srt (gz (prL p n T uu (padN n VF) rF)) ga)) (gb) (by omega)))), fun a w gG hF hS hd => q_yes rfl (hF.ext1 100 (hd 4 rfl rfl)) rfl rfl rfl (by exact par_val hS rfl (g_move hF rfl)), fun a w gG hF hS hd => q_yes rfl (hF.ext1 100 (hd 4 rfl rfl)) rfl rfl rfl (by exact par_val hS rfl (g_move hF rfl)), fun a w gG hF hS hd => q_yes rfl (hF.ext1 100 (hd 4 rfl rfl)) rfl rfl rfl (by have hF := hF.ext1 105 (hd 9 rfl rfl); have hF := hF.ext1 106 (hd 10 rfl rfl); exact par_val hS rfl (g_indexSl (i := ga) ty_sl_27 hF rfl rfl rfl (by omega))), fun a w gG hF hS hd => q_yes rfl (hF.ext1 100 (hd 4 rfl rfl)) rfl rfl rfl (by have hF := hF.ext1 107 (hd 11 rfl rfl); have hM := hS.mem rfl; exact par_val hS rfl (g_loadAgg ty_ag_30 hF rfl (hM.fzm (by simp)) (hsA.room (ga) (by omega)) (hsA.vec0 (V := gz (prL p n T uu (padN n VF) rF)) (ga) (by omega)))), trivial⟩ ?_
         intro a w' L hF hS hq
         have hM := hS.mem rfl
         have hF := hF.ext1 96 (hq 0 rfl rfl)
         have hF := hF.ext1 97 (hq 1 rfl rfl)
         have hF := hF.ext1 98 (hq 2 rfl rfl)
         have hF := hF.ext1 99 (hq 3 rfl rfl)
         have hF := hF.ext1 100 (hq 4 rfl rfl)
         have hF := hF.ext1 101 (hq 5 rfl rfl)
         have hF := hF.ext1 102 (hq 6 rfl rfl)
         have hF := hF.ext1 103 (hq 7 rfl rfl)
         have hF := hF.ext1 104 (hq 8 rfl rfl)
         have hF := hF.ext1 105 (hq 9 rfl rfl)
         have hF := hF.ext1 106 (hq 10 rfl rfl)
         have hF := hF.ext1 107 (hq 11 rfl rfl)
         have hF := hF.ext1 108 (hq 12 rfl rfl)
         change Mem w w' [some (b1, algC (p : Int) (n : Int) T f), some (b2, vecC uu), none, none, none, none, none, some (bo, cso), none, none, some (bF, csF)] [(bA, csA)] at hM
         change wpList Tryd.prog _ _ [_, _] _ _
         refine stYR hF rfl rfl rfl (d_call Tryd.call41 hF (.cons rfl (.cons rfl .nil)) (l05Before_ok (((srt (gz (prL p n T uu (padN n VF) rF)) ga) (gb))) ((gz (prL p n T uu (padN n VF) rF) (ga))) _ (fun i => hSb _ i) (fun i => hAb _ i))) rfl ?_
         rintro _ w' a ⟨hx, rfl⟩ hF
         have hM := hM.ext hx
         refine st hF (g_pickT hF rfl rfl) rfl fun a hF => ?_
         refine wpList_nil (tN ?_)
         refine c_cond hF rfl (fun h18 => ?_) (fun h18 => ?_)
         ·
          refine wp_skip (tN (wp_block (wp_region_lit ?_)))
          refine st hF (g_move hF rfl) rfl fun a hF => st hF (g_add hF rfl rfl (add_nat (gb) (1) (by omega))) rfl fun a hF => st hF (g_assign hF rfl) rfl fun a hF => ?_
          refine wpList_nil (iN (tN ?_))
          refine ⟨gb + 1, ⟨by omega, fun k hk => by
        by_cases e : k = gb
        · rw [e]; assumption
        · exact hlow k (by omega), hF.sub _ (by repeat' constructor), ?_⟩, by omega⟩
          exact hM
         ·
          refine wp_exit (tX (tX ?_))
          refine ib_same ?_
          refine tN (sq ?_)
          have hstop : gb = ga ∨ ¬ ltV ((srt (gz (prL p n T uu (padN n VF) rF)) ga) gb) (gz (prL p n T uu (padN n VF) rF) ga) := by first | exact .inr (by assumption) | exact .inl (by omega)
          have hps : ps (srt (gz (prL p n T uu (padN n VF) rF)) ga) (gz (prL p n T uu (padN n VF) rF) ga) ga = gb := ps_eq ga (by omega) (by
            by_cases e : gb = 0
            · exact .inl e
            · exact .inr (hlow (gb - 1) (by omega))) (fun k h1 h2 hlt => by
            rcases hstop with e | e
            · omega
            · by_cases e2 : k = gb
              · rw [e2] at hlt; exact e hlt
              · exact e (ltV_trans (srt_sorted hDst ga (by omega) gb k (by omega) h2) hlt))
          have hM := hM.freeze 7 rfl
          have hsol := hso.le
          change Mem w _ [some (b1, algC (p : Int) (n : Int) T f), some (b2, vecC uu), none, none, none, none, none, none, none, none, some (bF, csF)] [(bo, cso), (bA, csA)] at hM
          refine c_par 8 [8] [.val (.slice (some ⟨bA, 0, none⟩) ((prL p n T uu (padN n VF) rF).length) (cA)), .val (.int .i64 (((ga : Nat) : Int))), .val (ptr bA (0 + (ga) * 6)), .val (.agg (vecC (gz (prL p n T uu (padN n VF) rF) (ga)))), .own 8 (vecsC 1 (vAtL [(gz (prL p n T uu (padN n VF) rF) (ga))])) (fun b => .slice (some ⟨b, 0, none⟩) 1 1), .val (.slice (some ⟨bo, 0, none⟩) (ga) (co)), .val (.int .i64 (((gb : Nat) : Int))), .val (.slice (some ⟨bo, (if gb = co then 0 else 0 + gb * 6), none⟩) (ga - gb) (co - gb))] hmix rfl hF rfl hM ⟨fun a w gG hF hS hd => by exact par_val hS rfl (g_move hF rfl), fun a w gG hF hS hd => by exact par_val hS rfl (g_move hF rfl), fun a w gG hF hS hd => by have hF := hF.ext1 113 (hd 0 rfl rfl); have hF := hF.ext1 114 (hd 1 rfl rfl); exact par_val hS rfl (g_indexSl (i := ga) ty_sl_27 hF rfl rfl rfl (by omega)), fun a w gG hF hS hd => by have hF := hF.ext1 115 (hd 2 rfl rfl); have hM := hS.mem rfl; exact par_val hS rfl (g_loadAgg ty_ag_30 hF rfl (hM.fzm (by simp)) (hsA.room (ga) (by omega)) (hsA.vec0 (V := gz (prL p n T uu (padN n VF) rF)) (ga) (by omega))), fun a w gG hF hS hd => by have hF := hF.ext1 116 (hd 3 rfl rfl); exact par_own (by repeat constructor) hS rfl rfl rfl rfl (d_buildC (vs := [(0, .agg (vecC (gz (prL p n T uu (padN n VF) rF) (ga))))]) 8 hS.1 hF (build1 hF rfl) (fun w => ty_bsg_27_1 (gz (prL p n T uu (padN n VF) rF) (ga)) w)), fun a w gG hF hS hd => by exact par_val hS rfl (g_move hF rfl), fun a w gG hF hS hd => by exact par_val hS rfl (g_move hF rfl), fun a w gG hF hS hd => by have hF := hF.ext1 118 (hd 5 rfl rfl); have hF := hF.ext1 119 (hd 6 rfl rfl); exact par_val hS rfl (g_sliceLoA (i := gb) ty_us_27 ty_sz_30 hF rfl rfl rfl (by omega) (by omega)), trivial⟩ ?_
          intro a w' L hF hS hq
          have hF := hF.ext1 113 (hq 0 rfl rfl)
          have hF := hF.ext1 114 (hq 1 rfl rfl)
          have hF := hF.ext1 115 (hq 2 rfl rfl)
          have hF := hF.ext1 116 (hq 3 rfl rfl)
          have hF := hF.ext1 118 (hq 5 rfl rfl)
          have hF := hF.ext1 119 (hq 6 rfl rfl)
          have hF := hF.ext1 120 (hq 7 rfl rfl)
          obtain ⟨hM, hL⟩ := hS
          obtain ⟨b19, hptr, hkk⟩ := hq 4 rfl rfl
          have hF := hF.ext1 117 hptr
          have hL := hL.take hkk
          obtain rfl := hL.eq
          change Mem w w' [some (b1, algC (p : Int) (n : Int) T f), some (b2, vecC uu), none, none, none, none, none, none, some (b19, vecsC 1 (vAtL [(gz (prL p n T uu (padN n VF) rF) (ga))])), none, some (bF, csF)] [(bo, cso), (bA, csA)] at hM
          change wpList Tryd.prog _ _ [_, _] _ _
          refine stR hF (d_appendA (k := 8) (N := 1) (m := ga - gb) (f := (fun c => Value.int .u8 (((gz (prL p n T uu (padN n VF) rF) ga) (c % 6) : Nat) : Int))) (g := (fun q => Value.int .u8 (((srt (gz (prL p n T uu (padN n VF) rF)) ga) (gb + q / 6) (q % 6) : Nat) : Int))) ty_si_27 rfl (by decide) hM rfl hF rfl rfl slAt_one (fun i hi => by
            rw [if_neg (by omega)]
            refine ((hM.fzm (List.mem_cons_self ..)).cell _).trans ((hso.get (0 + gb * 6 + i) (by omega)).trans ?_)
            show some (Value.int .u8 (((srt (gz (prL p n T uu (padN n VF) rF)) ga) ((0 + gb * 6 + i) / 6) ((0 + gb * 6 + i) % 6) : Nat) : Int)) = _
            rw [show (0 + gb * 6 + i) / 6 = gb + i / 6 by omega, show (0 + gb * 6 + i) % 6 = i % 6 by omega]) (fun _ _ => rfl) (by unfold maxLen; omega) (by omega)) rfl ?_
          rintro _ w' a ⟨bR, cR, csR, rfl, hM, hsR⟩ hF
          change Mem w w' [some (b1, algC (p : Int) (n : Int) T f), some (b2, vecC uu), none, none, none, none, none, none, some (bR, csR), none, some (bF, csF)] [(bo, cso), (bA, csA)] at hM
          refine st hF (g_assign hF rfl) rfl fun a hF => ?_
          refine wpList_nil (tN (wp_region_lit ?_))
          refine stR hF (d_buildC 7 hM hF rfl ty_bs0_27) rfl ?_
          rintro _ w' a ⟨b20, rfl, hM, -⟩ hF
          change Mem w w' [some (b1, algC (p : Int) (n : Int) T f), some (b2, vecC uu), none, none, none, none, none, some (b20, #[]), some (bR, csR), none, some (bF, csF)] [(bo, cso), (bA, csA)] at hM
          refine st hF (g_move hF rfl) rfl fun a hF => st hF (g_move hF rfl) rfl fun a hF => st hF (g_sliceHi ty_us_27 ty_sz_30 hF rfl rfl rfl (by omega)) rfl fun a hF => ?_
          refine stR hF (d_appendA (k := 7) (N := 0) (m := gb) (f := fun _ => undef) (g := (fun j => Value.int .u8 (((srt (gz (prL p n T uu (padN n VF) rF)) ga) (j / 6) (j % 6) : Nat) : Int))) ty_si_27 rfl (by decide) hM rfl hF rfl rfl slAt_zero6 (fun i hi => by
            refine ((hM.fzm (List.mem_cons_self ..)).cell _).trans ((hso.get (0 + i) (by omega)).trans ?_)
            rw [Nat.zero_add]) (fun _ _ => rfl) (by unfold maxLen; omega) (by omega)) rfl ?_
          rintro _ w' a ⟨bP, cP, csP, rfl, hM, hsP⟩ hF
          change Mem w w' [some (b1, algC (p : Int) (n : Int) T f), some (b2, vecC uu), none, none, none, none, none, some (bP, csP), some (bR, csR), none, some (bF, csF)] [(bo, cso), (bA, csA)] at hM
          refine st hF (g_move hF rfl) rfl fun a hF => ?_
          refine stR hF (d_appendA (k := 7) (N := 0 + gb) (m := 1 + (ga - gb)) (g := fun j => if j < 1 * 6 then (fun c => Value.int .u8 (((gz (prL p n T uu (padN n VF) rF) ga) (c % 6) : Nat) : Int)) j else (fun q => Value.int .u8 (((srt (gz (prL p n T uu (padN n VF) rF)) ga) (gb + q / 6) (q % 6) : Nat) : Int)) (j - 1 * 6)) ty_si_27 rfl (by decide) hM rfl hF rfl rfl hsP (fun i hi => by rw [Nat.zero_add]; exact ((hM.row 8 rfl).cell _).trans (hsR.get i hi)) (fun i hi => by split <;> rfl) (by unfold maxLen; omega) (by omega)) rfl ?_
          rintro _ w' a ⟨bN, cN, csN, rfl, hM, hsN⟩ hF
          have e13 : 0 + gb + (1 + (ga - gb)) = ga + 1 := by omega
          rw [e13] at hF hsN
          have hsN := hsN.congr (g := (fun c => .int .u8 (((srt (gz (prL p n T uu (padN n VF) rF)) (ga + 1)) (c / 6) (c % 6) : Nat) : Int))) (fun i hi => ins_cells (f0 := fun _ => undef) hps (by omega) hi)
          change Mem w w' [some (b1, algC (p : Int) (n : Int) T f), some (b2, vecC uu), none, none, none, none, none, some (bN, csN), some (bR, csR), none, some (bF, csF)] [(bo, cso), (bA, csA)] at hM
          refine st hF (g_assign hF rfl) rfl fun a hF => ?_
          refine wpList_nil (iN (tN (wp_region_lit ?_)))
          refine st hF (g_move hF rfl) rfl fun a hF => st hF (g_add hF rfl rfl (add_nat (ga) (1) (by omega))) rfl fun a hF => st hF (g_assign hF rfl) rfl fun a hF => ?_
          refine wpList_nil (tN ?_)
          have hM := hM.lessD (D' := [(bA, csA)]) (fun x h => List.mem_cons_of_mem _ h)
          have hM := hM.drop 8
          refine ⟨ga + 1, ⟨by omega, bN, cN, csN, hsN, hF.sub _ (by repeat' constructor), ?_⟩, by omega⟩
          exact hM
       ·
         refine c_parQ 13 [] [.val (.int .i64 (((gb : Nat) : Int))), .val (.slice (some ⟨bo, 0, none⟩) (ga) (co)), .val (.int .i64 (((ga : Nat) : Int))), .val (.bool (false)), .val (.bool (false)), .val undef, .val undef, .val undef, .val undef, .val undef, .val undef, .val undef, .val undef] hmix rfl hF rfl hM ⟨fun a w gG hF hS hd => q_none rfl (by exact par_val hS rfl (g_move hF rfl)), fun a w gG hF hS hd => q_none rfl (by exact par_val hS rfl (g_move hF rfl)), fun a w gG hF hS hd => q_none rfl (by have hF := hF.ext1 97 (hd 1 rfl rfl); exact par_val hS rfl (g_len ty_us_27 hF rfl)), fun a w gG hF hS hd => q_none rfl (by have hF := hF.ext1 96 (hd 0 rfl rfl); have hF := hF.ext1 98 (hd 2 rfl rfl); exact par_val hS rfl (gives_eq (g_lss hF rfl rfl) (congrArg Value.bool (decide_eq_false (by omega))))), fun a w gG hF hS hd => q_none rfl (by have hF := hF.ext1 99 (hd 3 rfl rfl); exact par_val hS rfl (g_move hF rfl)), fun a w gG hF hS hd => q_no rfl (hF.ext1 100 (hd 4 rfl rfl)) rfl rfl rfl rfl ⟨gG, hS, fact_get rfl rfl, fun _ _ _ h => h⟩, fun a w gG hF hS hd => q_no rfl (hF.ext1 100 (hd 4 rfl rfl)) rfl rfl rfl rfl ⟨gG, hS, fact_get rfl rfl, fun _ _ _ h => h⟩, fun a w gG hF hS hd => q_no rfl (hF.ext1 100 (hd 4 rfl rfl)) rfl rfl rfl rfl ⟨gG, hS, fact_get rfl rfl, fun _ _ _ h => h⟩, fun a w gG hF hS hd => q_no rfl (hF.ext1 100 (hd 4 rfl rfl)) rfl rfl rfl rfl ⟨gG, hS, fact_get rfl rfl, fun _ _ _ h => h⟩, fun a w gG hF hS hd => q_no rfl (hF.ext1 100 (hd 4 rfl rfl)) rfl rfl rfl rfl ⟨gG, hS, fact_get rfl rfl, fun _ _ _ h => h⟩, fun a w gG hF hS hd => q_no rfl (hF.ext1 100 (hd 4 rfl rfl)) rfl rfl rfl rfl ⟨gG, hS, fact_get rfl rfl, fun _ _ _ h => h⟩, fun a w gG hF hS hd => q_no rfl (hF.ext1 100 (hd 4 rfl rfl)) rfl rfl rfl rfl ⟨gG, hS, fact_get rfl rfl, fun _ _ _ h => h⟩, fun a w gG hF hS hd => q_no rfl (hF.ext1 100 (hd 4 rfl rfl)) rfl rfl rfl rfl ⟨gG, hS, fact_get rfl rfl, fun _ _ _ h => h⟩, trivial⟩ ?_
         intro a w' L hF hS hq
         have hM := hS.mem rfl
         have hF := hF.ext1 96 (hq 0 rfl rfl)
         have hF := hF.ext1 97 (hq 1 rfl rfl)
         have hF := hF.ext1 98 (hq 2 rfl rfl)
         have hF := hF.ext1 99 (hq 3 rfl rfl)
         have hF := hF.ext1 100 (hq 4 rfl rfl)
         have hF := hF.ext1 101 (hq 5 rfl rfl)
         have hF := hF.ext1 102 (hq 6 rfl rfl)
         have hF := hF.ext1 103 (hq 7 rfl rfl)
         have hF := hF.ext1 104 (hq 8 rfl rfl)
         have hF := hF.ext1 105 (hq 9 rfl rfl)
         have hF := hF.ext1 106 (hq 10 rfl rfl)
         have hF := hF.ext1 107 (hq 11 rfl rfl)
         have hF := hF.ext1 108 (hq 12 rfl rfl)
         change Mem w w' [some (b1, algC (p : Int) (n : Int) T f), some (b2, vecC uu), none, none, none, none, none, some (bo, cso), none, none, some (bF, csF)] [(bA, csA)] at hM
         change wpList Tryd.prog _ _ [_, _] _ _
         refine stS hF rfl rfl rfl rfl rfl fun a hF => st hF (g_pickF hF rfl rfl) rfl fun a hF => ?_
         refine wpList_nil (tN ?_)
         refine c_Fl hF rfl ?_
         refine wp_exit (tX (tX ?_))
         refine ib_same ?_
         refine tN (sq ?_)
         have hstop : gb = ga ∨ ¬ ltV ((srt (gz (prL p n T uu (padN n VF) rF)) ga) gb) (gz (prL p n T uu (padN n VF) rF) ga) := by first | exact .inr (by assumption) | exact .inl (by omega)
         have hps : ps (srt (gz (prL p n T uu (padN n VF) rF)) ga) (gz (prL p n T uu (padN n VF) rF) ga) ga = gb := ps_eq ga (by omega) (by
           by_cases e : gb = 0
           · exact .inl e
           · exact .inr (hlow (gb - 1) (by omega))) (fun k h1 h2 hlt => by
           rcases hstop with e | e
           · omega
           · by_cases e2 : k = gb
             · rw [e2] at hlt; exact e hlt
             · exact e (ltV_trans (srt_sorted hDst ga (by omega) gb k (by omega) h2) hlt))
         have hM := hM.freeze 7 rfl
         have hsol := hso.le
         change Mem w _ [some (b1, algC (p : Int) (n : Int) T f), some (b2, vecC uu), none, none, none, none, none, none, none, none, some (bF, csF)] [(bo, cso), (bA, csA)] at hM
         refine c_par 8 [8] [.val (.slice (some ⟨bA, 0, none⟩) ((prL p n T uu (padN n VF) rF).length) (cA)), .val (.int .i64 (((ga : Nat) : Int))), .val (ptr bA (0 + (ga) * 6)), .val (.agg (vecC (gz (prL p n T uu (padN n VF) rF) (ga)))), .own 8 (vecsC 1 (vAtL [(gz (prL p n T uu (padN n VF) rF) (ga))])) (fun b => .slice (some ⟨b, 0, none⟩) 1 1), .val (.slice (some ⟨bo, 0, none⟩) (ga) (co)), .val (.int .i64 (((gb : Nat) : Int))), .val (.slice (some ⟨bo, (if gb = co then 0 else 0 + gb * 6), none⟩) (ga - gb) (co - gb))] hmix rfl hF rfl hM ⟨fun a w gG hF hS hd => by exact par_val hS rfl (g_move hF rfl), fun a w gG hF hS hd => by exact par_val hS rfl (g_move hF rfl), fun a w gG hF hS hd => by have hF := hF.ext1 113 (hd 0 rfl rfl); have hF := hF.ext1 114 (hd 1 rfl rfl); exact par_val hS rfl (g_indexSl (i := ga) ty_sl_27 hF rfl rfl rfl (by omega)), fun a w gG hF hS hd => by have hF := hF.ext1 115 (hd 2 rfl rfl); have hM := hS.mem rfl; exact par_val hS rfl (g_loadAgg ty_ag_30 hF rfl (hM.fzm (by simp)) (hsA.room (ga) (by omega)) (hsA.vec0 (V := gz (prL p n T uu (padN n VF) rF)) (ga) (by omega))), fun a w gG hF hS hd => by have hF := hF.ext1 116 (hd 3 rfl rfl); exact par_own (by repeat constructor) hS rfl rfl rfl rfl (d_buildC (vs := [(0, .agg (vecC (gz (prL p n T uu (padN n VF) rF) (ga))))]) 8 hS.1 hF (build1 hF rfl) (fun w => ty_bsg_27_1 (gz (prL p n T uu (padN n VF) rF) (ga)) w)), fun a w gG hF hS hd => by exact par_val hS rfl (g_move hF rfl), fun a w gG hF hS hd => by exact par_val hS rfl (g_move hF rfl), fun a w gG hF hS hd => by have hF := hF.ext1 118 (hd 5 rfl rfl); have hF := hF.ext1 119 (hd 6 rfl rfl); exact par_val hS rfl (g_sliceLoA (i := gb) ty_us_27 ty_sz_30 hF rfl rfl rfl (by omega) (by omega)), trivial⟩ ?_
         intro a w' L hF hS hq
         have hF := hF.ext1 113 (hq 0 rfl rfl)
         have hF := hF.ext1 114 (hq 1 rfl rfl)
         have hF := hF.ext1 115 (hq 2 rfl rfl)
         have hF := hF.ext1 116 (hq 3 rfl rfl)
         have hF := hF.ext1 118 (hq 5 rfl rfl)
         have hF := hF.ext1 119 (hq 6 rfl rfl)
         have hF := hF.ext1 120 (hq 7 rfl rfl)
         obtain ⟨hM, hL⟩ := hS
         obtain ⟨b22, hptr, hkk⟩ := hq 4 rfl rfl
         have hF := hF.ext1 117 hptr
         have hL := hL.take hkk
         obtain rfl := hL.eq
         change Mem w w' [some (b1, algC (p : Int) (n : Int) T f), some (b2, vecC uu), none, none, none, none, none, none, some (b22, vecsC 1 (vAtL [(gz (prL p n T uu (padN n VF) rF) (ga))])), none, some (bF, csF)] [(bo, cso), (bA, csA)] at hM
         change wpList Tryd.prog _ _ [_, _] _ _
         refine stR hF (d_appendA (k := 8) (N := 1) (m := ga - gb) (f := (fun c => Value.int .u8 (((gz (prL p n T uu (padN n VF) rF) ga) (c % 6) : Nat) : Int))) (g := (fun q => Value.int .u8 (((srt (gz (prL p n T uu (padN n VF) rF)) ga) (gb + q / 6) (q % 6) : Nat) : Int))) ty_si_27 rfl (by decide) hM rfl hF rfl rfl slAt_one (fun i hi => by
           rw [if_neg (by omega)]
           refine ((hM.fzm (List.mem_cons_self ..)).cell _).trans ((hso.get (0 + gb * 6 + i) (by omega)).trans ?_)
           show some (Value.int .u8 (((srt (gz (prL p n T uu (padN n VF) rF)) ga) ((0 + gb * 6 + i) / 6) ((0 + gb * 6 + i) % 6) : Nat) : Int)) = _
           rw [show (0 + gb * 6 + i) / 6 = gb + i / 6 by omega, show (0 + gb * 6 + i) % 6 = i % 6 by omega]) (fun _ _ => rfl) (by unfold maxLen; omega) (by omega)) rfl ?_
         rintro _ w' a ⟨bR, cR, csR, rfl, hM, hsR⟩ hF
         change Mem w w' [some (b1, algC (p : Int) (n : Int) T f), some (b2, vecC uu), none, none, none, none, none, none, some (bR, csR), none, some (bF, csF)] [(bo, cso), (bA, csA)] at hM
         refine st hF (g_assign hF rfl) rfl fun a hF => ?_
         refine wpList_nil (tN (wp_region_lit ?_))
         refine stR hF (d_buildC 7 hM hF rfl ty_bs0_27) rfl ?_
         rintro _ w' a ⟨b23, rfl, hM, -⟩ hF
         change Mem w w' [some (b1, algC (p : Int) (n : Int) T f), some (b2, vecC uu), none, none, none, none, none, some (b23, #[]), some (bR, csR), none, some (bF, csF)] [(bo, cso), (bA, csA)] at hM
         refine st hF (g_move hF rfl) rfl fun a hF => st hF (g_move hF rfl) rfl fun a hF => st hF (g_sliceHi ty_us_27 ty_sz_30 hF rfl rfl rfl (by omega)) rfl fun a hF => ?_
         refine stR hF (d_appendA (k := 7) (N := 0) (m := gb) (f := fun _ => undef) (g := (fun j => Value.int .u8 (((srt (gz (prL p n T uu (padN n VF) rF)) ga) (j / 6) (j % 6) : Nat) : Int))) ty_si_27 rfl (by decide) hM rfl hF rfl rfl slAt_zero6 (fun i hi => by
           refine ((hM.fzm (List.mem_cons_self ..)).cell _).trans ((hso.get (0 + i) (by omega)).trans ?_)
           rw [Nat.zero_add]) (fun _ _ => rfl) (by unfold maxLen; omega) (by omega)) rfl ?_
         rintro _ w' a ⟨bP, cP, csP, rfl, hM, hsP⟩ hF
         change Mem w w' [some (b1, algC (p : Int) (n : Int) T f), some (b2, vecC uu), none, none, none, none, none, some (bP, csP), some (bR, csR), none, some (bF, csF)] [(bo, cso), (bA, csA)] at hM
         refine st hF (g_move hF rfl) rfl fun a hF => ?_
         refine stR hF (d_appendA (k := 7) (N := 0 + gb) (m := 1 + (ga - gb)) (g := fun j => if j < 1 * 6 then (fun c => Value.int .u8 (((gz (prL p n T uu (padN n VF) rF) ga) (c % 6) : Nat) : Int)) j else (fun q => Value.int .u8 (((srt (gz (prL p n T uu (padN n VF) rF)) ga) (gb + q / 6) (q % 6) : Nat) : Int)) (j - 1 * 6)) ty_si_27 rfl (by decide) hM rfl hF rfl rfl hsP (fun i hi => by rw [Nat.zero_add]; exact ((hM.row 8 rfl).cell _).trans (hsR.get i hi)) (fun i hi => by split <;> rfl) (by unfold maxLen; omega) (by omega)) rfl ?_
         rintro _ w' a ⟨bN, cN, csN, rfl, hM, hsN⟩ hF
         have e13 : 0 + gb + (1 + (ga - gb)) = ga + 1 := by omega
         rw [e13] at hF hsN
         have hsN := hsN.congr (g := (fun c => .int .u8 (((srt (gz (prL p n T uu (padN n VF) rF)) (ga + 1)) (c / 6) (c % 6) : Nat) : Int))) (fun i hi => ins_cells (f0 := fun _ => undef) hps (by omega) hi)
         change Mem w w' [some (b1, algC (p : Int) (n : Int) T f), some (b2, vecC uu), none, none, none, none, none, some (bN, csN), some (bR, csR), none, some (bF, csF)] [(bo, cso), (bA, csA)] at hM
         refine st hF (g_assign hF rfl) rfl fun a hF => ?_
         refine wpList_nil (iN (tN (wp_region_lit ?_)))
         refine st hF (g_move hF rfl) rfl fun a hF => st hF (g_add hF rfl rfl (add_nat (ga) (1) (by omega))) rfl fun a hF => st hF (g_assign hF rfl) rfl fun a hF => ?_
         refine wpList_nil (tN ?_)
         have hM := hM.lessD (D' := [(bA, csA)]) (fun x h => List.mem_cons_of_mem _ h)
         have hM := hM.drop 8
         refine ⟨ga + 1, ⟨by omega, bN, cN, csN, hsN, hF.sub _ (by repeat' constructor), ?_⟩, by omega⟩
         exact hM
     ·
      obtain rfl : (prL p n T uu (padN n VF) rF).length = ga := by omega
      refine wp_exit (tX (tX ?_))
      refine ib_same ?_
      refine tN (sq (wp_region_lit ?_))
      refine st hF (g_move hF rfl) rfl fun a hF => st hF (g_assign hF rfl) rfl fun a hF => ?_
      refine wpList_nil (tN (wp_ret ?_))
      refine fin1 rfl hF.defers (res_tmp hF rfl) ⟨_, rfl, hM.below, ?_⟩
      exact ⟨rF, VF, hIK, bo, co, cso, hso, hM.ge 7 rfl, hM.row 7 rfl⟩

end Go.Proofs.YtbeodbfbfbefkaaDoor
