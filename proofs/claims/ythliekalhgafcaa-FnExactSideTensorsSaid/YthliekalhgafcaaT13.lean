/- What functions of the program return, as walks over their operations; no statement of the seat is proved here. -/
import Derived.Test.YthliekalhgafcaaT12
set_option linter.unusedVariables false
set_option linter.unusedSimpArgs false
namespace Go.Proofs.Ythliekalhgafcaa
open Go Go.RowKit Go.Sw Go.Ech
open Classical
theorem law_SideTensorsL (p n i o r s : Nat) (sl sl2 : Value) (f h : Nat → Nat) (w : World) (hpP : primeP (p : Int)) (hn0 : 0 < n) (hn : n ≤ 6) (hwa : wl n i o) (hwb : wl n r s) (hw : ¬ wl n (i + r) (o + s)) (hfp : ∀ c, f c < p) (hhp : ∀ c, h c < p) (hs : ArgSl w sl (n ^ (i + o)) (fun c => ((f c : Nat) : Int))) (hs2 : ArgSl w sl2 (n ^ (r + s)) (fun c => ((h c : Nat) : Int))) :
    CallsR Try.prog 9 #[.agg (tenC (p : Int) (n : Int) (i : Int) (o : Int) sl), .agg (tenC (p : Int) (n : Int) (r : Int) (s : Int) sl2)] w (fun res _ => res = .bool true) := by
  refine calls_fr [.agg (tenC (p : Int) (n : Int) (i : Int) (o : Int) sl), .agg (tenC (p : Int) (n : Int) (r : Int) (s : Int) sl2)] Try.func9 rfl Try.ntmps9 rfl fun a hF => ?_
  have hM : Mem w w [none, none, none, none, none, none, none, none, none, none, none, none, none, none, none] [] := MemX.start w 15
  change Fr 119 a [(0, .agg (tenC (p : Int) (n : Int) (i : Int) (o : Int) sl)), (1, .agg (tenC (p : Int) (n : Int) (r : Int) (s : Int) sl2))] at hF
  have hso := hs.one
  have hso2 := hs2.one
  have hwa3 := hwa.2.2
  have hwb3 := hwb.2.2
  refine sq ?_
  refine wp_region_lit ?_
  refine stR hF (d_box 0 hM hF rfl) rfl ?_
  rintro _ w' a ⟨b1, rfl, hM, -⟩ hF
  change Mem w w' [some (b1, tenC (p : Int) (n : Int) (i : Int) (o : Int) sl), none, none, none, none, none, none, none, none, none, none, none, none, none, none] [] at hM
  refine stR hF (d_box 1 hM hF rfl) rfl ?_
  rintro _ w' a ⟨b2, rfl, hM, -⟩ hF
  change Mem w w' [some (b1, tenC (p : Int) (n : Int) (i : Int) (o : Int) sl), some (b2, tenC (p : Int) (n : Int) (r : Int) (s : Int) sl2), none, none, none, none, none, none, none, none, none, none, none, none, none] [] at hM
  refine st hF (g_assign hF rfl) rfl fun a hF => ?_
  refine wpList_nil ?_
  refine tN ?_
  refine sq ?_
  refine wp_region_lit ?_
  refine st hF (g_assign hF rfl) rfl fun a hF => ?_
  refine wpList_nil ?_
  refine tN ?_
  refine sq ?_
  refine wp_region_lit ?_
  refine st hF (g_loadAgg ty_ag_24 hF rfl (hM.row 0 rfl) (by simp only [fnC_size, cells_size, vecC_size, tabC_size, planeC_size, tenC_size, smC_size, numC_size, numI_size] <;> omega) (whole rfl)) rfl fun a hF => st hF (g_move hF rfl) rfl fun a hF => ?_
  refine stR hF (d_call Try.call13 hF (.cons rfl (.cons rfl .nil)) (szTensor_ok (p : Int) (n : Int) (i : Int) (o : Int) sl (n ^ (i + o)) (1048576) (fun c => ((f c : Nat) : Int)) _ (hs.ext hM.below) (by omega) (by omega))) rfl ?_
  rintro _ w' a ⟨hx, rfl⟩ hF
  have hM := hM.ext hx
  refine st hF (g_assign hF rfl) rfl fun a hF => ?_
  refine wpList_nil ?_
  refine tN ?_
  refine sq ?_
  refine sq ?_
  refine wp_region_lit ?_
  refine st hF (g_move hF rfl) rfl fun a hF => st hF (g_lss hF rfl rfl) rfl fun a hF => ?_
  refine wpList_nil ?_
  refine tN ?_
  refine c_cond hF rfl (fun h3 => ?_) (fun h3 => ?_)
  ·
    first | exact absurd rfl h3 | (exfalso; omega)
  ·
    refine wp_skip ?_
    refine tN ?_
    refine sq ?_
    refine wp_region_lit ?_
    refine st hF (g_loadAgg ty_ag_24 hF rfl (hM.row 1 rfl) (by simp only [fnC_size, cells_size, vecC_size, tabC_size, planeC_size, tenC_size, smC_size, numC_size, numI_size] <;> omega) (whole rfl)) rfl fun a hF => st hF (g_move hF rfl) rfl fun a hF => ?_
    refine stR hF (d_call Try.call13 hF (.cons rfl (.cons rfl .nil)) (szTensor_ok (p : Int) (n : Int) (r : Int) (s : Int) sl2 (n ^ (r + s)) (1048576 - (n ^ (i + o))) (fun c => ((h c : Nat) : Int)) _ (hs2.ext hM.below) (by omega) (by omega))) rfl ?_
    rintro _ w' a ⟨hx, rfl⟩ hF
    have hM := hM.ext hx
    refine st hF (g_assign hF rfl) rfl fun a hF => ?_
    refine wpList_nil ?_
    refine tN ?_
    refine sq ?_
    refine sq ?_
    refine wp_region_lit ?_
    refine st hF (g_move hF rfl) rfl fun a hF => st hF (g_lss hF rfl rfl) rfl fun a hF => ?_
    refine wpList_nil ?_
    refine tN ?_
    refine c_cond hF rfl (fun h4 => ?_) (fun h4 => ?_)
    ·
      first | exact absurd rfl h4 | (exfalso; omega)
    ·
      refine wp_skip ?_
      refine tN ?_
      refine sq ?_
      refine c_drawG (S := ParE [] w [] [some (b1, tenC (p : Int) (n : Int) (i : Int) (o : Int) sl), some (b2, tenC (p : Int) (n : Int) (r : Int) (s : Int) sl2), none, none, none, none, none, none, none, none, none, none, none, none, none] 4 (tenC 0 0 0 0 (.slice none 0 0)) (none) (fun _ => tenC 0 0 0 0 (.slice none 0 0))) 10 9 hmix rfl rfl rfl hF rfl (fun j o hj hne => dstAll_spec (s := 9) (i := 0) rfl j o hj (by omega)) ([some (b1, tenC (p : Int) (n : Int) (i : Int) (o : Int) sl), some (b2, tenC (p : Int) (n : Int) (r : Int) (s : Int) sl2), none, none, none, none, none, none, none, none, none, none, none, none, none], []) ⟨⟨hM, Same.refl _ _⟩, fun b cs h => by simp at h⟩ (fun b g w h => ⟨⟨h.1.1.ext (Below.drew (Below.refl _ _)), h.1.2⟩, h.2⟩) (factsE 4 [FactE.val (.agg (tenC (p : Int) (n : Int) (i : Int) (o : Int) sl)), FactE.frz (numC (n ^ (i + o)) f) (fun bq => .agg (tenC (p : Int) (n : Int) (i : Int) (o : Int) (.slice (some ⟨bq, 0, none⟩) (n ^ (i + o)) (n ^ (i + o))))), FactE.val (.agg (tenC (p : Int) (n : Int) (r : Int) (s : Int) sl2)), FactE.frz (numC (n ^ (r + s)) h) (fun bq => .agg (tenC (p : Int) (n : Int) (r : Int) (s : Int) (.slice (some ⟨bq, 0, none⟩) (n ^ (r + s)) (n ^ (r + s))))), FactE.val (.tuple #[.agg (tenC 0 0 0 0 (.slice none 0 0)), .int .i64 (3)]), FactE.val (.tuple #[.agg (tenC 0 0 0 0 (.slice none 0 0)), .int .i64 (3)]), FactE.val (.agg (tenC 0 0 0 0 (.slice none 0 0))), FactE.val (.int .i64 (3)), FactE.own (fun b => ptr b 0), FactE.val undef]) ⟨fun a w2 fB gE hF hS hb hd => by have hM := (Par.mem (W := [4]) hS.1 rfl).keep0; exact pe_val hS rfl (g_loadAgg ty_ag_24 hF rfl (hM.row 0 rfl) (by simp only [fnC_size, cells_size, vecC_size, tabC_size, planeC_size, tenC_size, smC_size, numC_size, numI_size] <;> omega) (whole rfl)), fun a w2 fB gE hF hS hb hd => by have hF := hF.ext1 28 (hd 0 rfl rfl rfl); have hM := (Par.mem (W := [4]) hS.1 rfl).keep0; exact pe_frz hS rfl (d_call Try.call15 hF (.cons rfl .nil) (toTensor_ok (p : Int) (n : Int) (i : Int) (o : Int) sl (n ^ (i + o)) (fun c => ((f c : Nat) : Int)) _ (hs.ext hM.below) (by omega))), fun a w2 fB gE hF hS hb hd => by have hM := (Par.mem (W := [4]) hS.1 rfl).keep0; exact pe_val hS rfl (g_loadAgg ty_ag_24 hF rfl (hM.row 1 rfl) (by simp only [fnC_size, cells_size, vecC_size, tabC_size, planeC_size, tenC_size, smC_size, numC_size, numI_size] <;> omega) (whole rfl)), fun a w2 fB gE hF hS hb hd => by have hF := hF.ext1 30 (hd 2 rfl rfl rfl); have hM := (Par.mem (W := [4]) hS.1 rfl).keep0; exact pe_frz hS rfl (d_call Try.call15 hF (.cons rfl .nil) (toTensor_ok (p : Int) (n : Int) (r : Int) (s : Int) sl2 (n ^ (r + s)) (fun c => ((h c : Nat) : Int)) _ (hs2.ext hM.below) (by omega))), fun a w2 fB gE hF hS hb hd => by obtain ⟨bq1, hbq1, hvq1⟩ := hd 1 rfl rfl rfl; have hF := hF.ext1 29 hvq1; obtain ⟨bq3, hbq3, hvq3⟩ := hd 3 rfl rfl rfl; have hF := hF.ext1 31 hvq3; have hM := (Par.mem (W := [4]) hS.1 rfl).sub [(bq1, numC (n ^ (i + o)) f), (bq3, numC (n ^ (r + s)) h)] (List.forall_mem_cons.2 ⟨by exact List.mem_append_left _ hbq1, (List.forall_mem_cons.2 ⟨by exact List.mem_append_left _ hbq3, (fun _ hx => by cases hx)⟩)⟩); exact pe_call hS rfl (d_call Try.call31 hF (.cons rfl (.cons rfl .nil)) (SideTensorsSL p n i o r s bq1 bq3 f h _ hpP hn0 hn hwa hwb hw hfp hhp (hM.fz 0 rfl) (hM.fz 1 rfl))), fun a w2 fB gE hF hS hb hd => by have hF := hF.ext1 32 (hd 4 rfl rfl rfl); exact pe_val hS rfl (g_move hF rfl), fun a w2 fB gE hF hS hb hd => by have hF := hF.ext1 27 (hd 5 rfl rfl rfl); exact pe_val hS rfl (g_extract hF rfl rfl), fun a w2 fB gE hF hS hb hd => by have hF := hF.ext1 27 (hd 5 rfl rfl rfl); exact pe_val hS rfl (g_extract hF rfl rfl), fun a w2 fB gE hF hS hb hd => by obtain rfl := hb rfl; exact pe_own hS rfl rfl rfl (d_alloc 4 hS.1.1 ty_ze_27), fun a w2 gE hF hS hd => by have hF := hF.ext1 33 (hd 6 rfl rfl rfl); exact pe_store (ia := 8) (x := 0) hS rfl (hd 8 rfl rfl rfl) trivial (fun b hptr hM hL => by have hF := hF.ext1 6 hptr; exact d_storeAgg 4 hM hL ty_sz_27 hF rfl rfl (tenC_one rfl) (by simp only [fnC_size, cells_size, vecC_size, tabC_size, planeC_size, tenC_size, smC_size, numC_size, numI_size]) (by simp only [fnC_size, cells_size, vecC_size, tabC_size, planeC_size, tenC_size, smC_size, numC_size, numI_size] <;> omega) (splice_whole _ _ rfl)), trivial⟩ ?_
      intro a w' gE hF hS hq
      obtain ⟨L, E⟩ := gE
      have hF := hF.ext1 28 (hq 0 rfl rfl rfl)
      have hF := hF.ext1 30 (hq 2 rfl rfl rfl)
      have hF := hF.ext1 32 (hq 4 rfl rfl rfl)
      have hF := hF.ext1 27 (hq 5 rfl rfl rfl)
      have hF := hF.ext1 33 (hq 6 rfl rfl rfl)
      have hF := hF.ext1 34 (hq 7 rfl rfl rfl)
      obtain ⟨b5, cs6, hptr, hkk⟩ := hq 8 rfl rfl rfl
      obtain ⟨be7, hbe7, rfl⟩ := (hS.2 _ _ hkk).2 rfl
      have hF := hF.ext1 6 hptr
      obtain ⟨⟨hM, hL⟩, -⟩ := hS
      have hL := hL.take hkk
      obtain rfl := hL.eq
      have hM := hM.keep0
      change Mem w w' [some (b1, tenC (p : Int) (n : Int) (i : Int) (o : Int) sl), some (b2, tenC (p : Int) (n : Int) (r : Int) (s : Int) sl2), none, none, some (b5, tenC 0 0 0 0 (.slice none 0 0)), none, none, none, none, none, none, none, none, none, none] [] at hM
      change wpList Try.prog _ _ [_] _ _
      refine st hF (g_assign hF rfl) rfl fun a hF => ?_
      refine wpList_nil ?_
      refine tN ?_
      refine sq ?_
      refine wp_region_lit ?_
      refine st hF (g_loadAgg ty_ag_24 hF rfl (hM.row 0 rfl) (by simp only [fnC_size, cells_size, vecC_size, tabC_size, planeC_size, tenC_size, smC_size, numC_size, numI_size] <;> omega) (whole rfl)) rfl fun a hF => ?_
      refine stR hF (d_call Try.call15 hF (.cons rfl .nil) (toTensor_ok (p : Int) (n : Int) (i : Int) (o : Int) sl (n ^ (i + o)) (fun c => ((f c : Nat) : Int)) _ (hs.ext hM.below) (by omega))) rfl ?_
      rintro _ w' a ⟨hx, b8, rfl, hge, hbk⟩ hF
      have hM := hM.fill hx 5 hbk hge
      change Mem w w' [some (b1, tenC (p : Int) (n : Int) (i : Int) (o : Int) sl), some (b2, tenC (p : Int) (n : Int) (r : Int) (s : Int) sl2), none, none, some (b5, tenC 0 0 0 0 (.slice none 0 0)), some (b8, numC (n ^ (i + o)) f), none, none, none, none, none, none, none, none, none] [] at hM
      refine stR hF (d_alloc 6 hM ty_ze_27) rfl ?_
      rintro _ w' a ⟨b9, rfl, hM, -⟩ hF
      change Mem w w' [some (b1, tenC (p : Int) (n : Int) (i : Int) (o : Int) sl), some (b2, tenC (p : Int) (n : Int) (r : Int) (s : Int) sl2), none, none, some (b5, tenC 0 0 0 0 (.slice none 0 0)), some (b8, numC (n ^ (i + o)) f), some (b9, tenC 0 0 0 0 (.slice none 0 0)), none, none, none, none, none, none, none, none] [] at hM
      refine stN hF (d_storeAgg 6 hM rfl ty_sz_27 hF rfl rfl (tenC_one rfl) (by simp only [fnC_size, cells_size, vecC_size, tabC_size, planeC_size, tenC_size, smC_size, numC_size, numI_size]) (by simp only [fnC_size, cells_size, vecC_size, tabC_size, planeC_size, tenC_size, smC_size, numC_size, numI_size] <;> omega) (splice_whole _ _ rfl)) ?_
      intro _ w' a hM hF
      change Mem w w' [some (b1, tenC (p : Int) (n : Int) (i : Int) (o : Int) sl), some (b2, tenC (p : Int) (n : Int) (r : Int) (s : Int) sl2), none, none, some (b5, tenC 0 0 0 0 (.slice none 0 0)), some (b8, numC (n ^ (i + o)) f), some (b9, tenC (p : Int) (n : Int) (i : Int) (o : Int) (.slice (some ⟨b8, 0, none⟩) (n ^ (i + o)) (n ^ (i + o)))), none, none, none, none, none, none, none, none] [] at hM
      refine wpList_nil ?_
      refine tN ?_
      refine sq ?_
      refine wp_region_lit ?_
      refine st hF (g_loadAgg ty_ag_24 hF rfl (hM.row 1 rfl) (by simp only [fnC_size, cells_size, vecC_size, tabC_size, planeC_size, tenC_size, smC_size, numC_size, numI_size] <;> omega) (whole rfl)) rfl fun a hF => ?_
      refine stR hF (d_call Try.call15 hF (.cons rfl .nil) (toTensor_ok (p : Int) (n : Int) (r : Int) (s : Int) sl2 (n ^ (r + s)) (fun c => ((h c : Nat) : Int)) _ (hs2.ext hM.below) (by omega))) rfl ?_
      rintro _ w' a ⟨hx, b10, rfl, hge, hbk⟩ hF
      have hM := hM.fill hx 7 hbk hge
      change Mem w w' [some (b1, tenC (p : Int) (n : Int) (i : Int) (o : Int) sl), some (b2, tenC (p : Int) (n : Int) (r : Int) (s : Int) sl2), none, none, some (b5, tenC 0 0 0 0 (.slice none 0 0)), some (b8, numC (n ^ (i + o)) f), some (b9, tenC (p : Int) (n : Int) (i : Int) (o : Int) (.slice (some ⟨b8, 0, none⟩) (n ^ (i + o)) (n ^ (i + o)))), some (b10, numC (n ^ (r + s)) h), none, none, none, none, none, none, none] [] at hM
      refine stR hF (d_alloc 8 hM ty_ze_27) rfl ?_
      rintro _ w' a ⟨b11, rfl, hM, -⟩ hF
      change Mem w w' [some (b1, tenC (p : Int) (n : Int) (i : Int) (o : Int) sl), some (b2, tenC (p : Int) (n : Int) (r : Int) (s : Int) sl2), none, none, some (b5, tenC 0 0 0 0 (.slice none 0 0)), some (b8, numC (n ^ (i + o)) f), some (b9, tenC (p : Int) (n : Int) (i : Int) (o : Int) (.slice (some ⟨b8, 0, none⟩) (n ^ (i + o)) (n ^ (i + o)))), some (b10, numC (n ^ (r + s)) h), some (b11, tenC 0 0 0 0 (.slice none 0 0)), none, none, none, none, none, none] [] at hM
      refine stN hF (d_storeAgg 8 hM rfl ty_sz_27 hF rfl rfl (tenC_one rfl) (by simp only [fnC_size, cells_size, vecC_size, tabC_size, planeC_size, tenC_size, smC_size, numC_size, numI_size]) (by simp only [fnC_size, cells_size, vecC_size, tabC_size, planeC_size, tenC_size, smC_size, numC_size, numI_size] <;> omega) (splice_whole _ _ rfl)) ?_
      intro _ w' a hM hF
      change Mem w w' [some (b1, tenC (p : Int) (n : Int) (i : Int) (o : Int) sl), some (b2, tenC (p : Int) (n : Int) (r : Int) (s : Int) sl2), none, none, some (b5, tenC 0 0 0 0 (.slice none 0 0)), some (b8, numC (n ^ (i + o)) f), some (b9, tenC (p : Int) (n : Int) (i : Int) (o : Int) (.slice (some ⟨b8, 0, none⟩) (n ^ (i + o)) (n ^ (i + o)))), some (b10, numC (n ^ (r + s)) h), some (b11, tenC (p : Int) (n : Int) (r : Int) (s : Int) (.slice (some ⟨b10, 0, none⟩) (n ^ (r + s)) (n ^ (r + s)))), none, none, none, none, none, none] [] at hM
      refine wpList_nil ?_
      refine tN ?_
      refine sq ?_
      refine wp_region_lit ?_
      refine st hF (g_loadAgg ty_ag_27 hF rfl (hM.row 6 rfl) (by simp only [fnC_size, cells_size, vecC_size, tabC_size, planeC_size, tenC_size, smC_size, numC_size, numI_size] <;> omega) (whole rfl)) rfl fun a hF => st hF (g_loadAgg ty_ag_27 hF rfl (hM.row 8 rfl) (by simp only [fnC_size, cells_size, vecC_size, tabC_size, planeC_size, tenC_size, smC_size, numC_size, numI_size] <;> omega) (whole rfl)) rfl fun a hF => ?_
      refine stR hF (d_call Try.call32 hF (.cons rfl (.cons rfl .nil)) (SideTensorsIL p n i o r s b8 b10 f h _ hpP hn0 hn hwa hwb hw hfp hhp (hM.row 5 rfl) (hM.row 7 rfl))) rfl ?_
      rintro _ w' a ⟨hx, rfl⟩ hF
      have hM := hM.ext hx
      refine st hF (g_move hF rfl) rfl fun a hF => st hF (g_extract hF rfl rfl) rfl fun a hF => st hF (g_extract hF rfl rfl) rfl fun a hF => ?_
      refine stR hF (d_alloc 9 hM ty_ze_27) rfl ?_
      rintro _ w' a ⟨b12, rfl, hM, -⟩ hF
      change Mem w w' [some (b1, tenC (p : Int) (n : Int) (i : Int) (o : Int) sl), some (b2, tenC (p : Int) (n : Int) (r : Int) (s : Int) sl2), none, none, some (b5, tenC 0 0 0 0 (.slice none 0 0)), some (b8, numC (n ^ (i + o)) f), some (b9, tenC (p : Int) (n : Int) (i : Int) (o : Int) (.slice (some ⟨b8, 0, none⟩) (n ^ (i + o)) (n ^ (i + o)))), some (b10, numC (n ^ (r + s)) h), some (b11, tenC (p : Int) (n : Int) (r : Int) (s : Int) (.slice (some ⟨b10, 0, none⟩) (n ^ (r + s)) (n ^ (r + s)))), some (b12, tenC 0 0 0 0 (.slice none 0 0)), none, none, none, none, none] [] at hM
      refine stN hF (d_storeAgg 9 hM rfl ty_sz_27 hF rfl rfl (tenC_one rfl) (by simp only [fnC_size, cells_size, vecC_size, tabC_size, planeC_size, tenC_size, smC_size, numC_size, numI_size]) (by simp only [fnC_size, cells_size, vecC_size, tabC_size, planeC_size, tenC_size, smC_size, numC_size, numI_size] <;> omega) (splice_whole _ _ rfl)) ?_
      intro _ w' a hM hF
      change Mem w w' [some (b1, tenC (p : Int) (n : Int) (i : Int) (o : Int) sl), some (b2, tenC (p : Int) (n : Int) (r : Int) (s : Int) sl2), none, none, some (b5, tenC 0 0 0 0 (.slice none 0 0)), some (b8, numC (n ^ (i + o)) f), some (b9, tenC (p : Int) (n : Int) (i : Int) (o : Int) (.slice (some ⟨b8, 0, none⟩) (n ^ (i + o)) (n ^ (i + o)))), some (b10, numC (n ^ (r + s)) h), some (b11, tenC (p : Int) (n : Int) (r : Int) (s : Int) (.slice (some ⟨b10, 0, none⟩) (n ^ (r + s)) (n ^ (r + s)))), some (b12, tenC 0 0 0 0 (.slice none 0 0)), none, none, none, none, none] [] at hM
      refine st hF (g_assign hF rfl) rfl fun a hF => ?_
      refine wpList_nil ?_
      refine tN ?_
      refine sq ?_
      refine sq ?_
      refine wp_region_lit ?_
      refine st hF (g_loadAgg ty_ag_27 hF rfl (hM.row 9 rfl) (by simp only [fnC_size, cells_size, vecC_size, tabC_size, planeC_size, tenC_size, smC_size, numC_size, numI_size] <;> omega) (whole rfl)) rfl fun a hF => st hF (g_loadAgg ty_ag_27 hF rfl (hM.row 4 rfl) (by simp only [fnC_size, cells_size, vecC_size, tabC_size, planeC_size, tenC_size, smC_size, numC_size, numI_size] <;> omega) (whole rfl)) rfl fun a hF => ?_
      refine stR hF (d_call Try.call17 hF (.cons rfl (.cons rfl .nil)) (eqTensor_0 _)) rfl ?_
      rintro _ w' a ⟨hx, rfl⟩ hF
      have hM := hM.ext hx
      refine st hF (g_not hF rfl) rfl fun a hF => st hF (g_move hF rfl) rfl fun a hF => stY hF rfl rfl rfl (g_move hF rfl) rfl fun a hF => stY hF rfl rfl rfl (g_move hF rfl) rfl fun a hF => stY hF rfl rfl rfl (g_neq hF rfl rfl) rfl fun a hF => st hF (g_pickF hF rfl rfl) rfl fun a hF => ?_
      refine wpList_nil ?_
      refine tN ?_
      refine c_kF hF rfl (by decide) ?_
      refine wp_skip ?_
      refine tN ?_
      refine sq ?_
      refine sq ?_
      refine c_par 3 [10] [.val (.agg (tenC (p : Int) (n : Int) (i : Int) (o : Int) (.slice (some ⟨b8, 0, none⟩) (n ^ (i + o)) (n ^ (i + o))))), .val (.agg (tenC (p : Int) (n : Int) (i : Int) (o : Int) sl)), .own 10 (numC (n ^ (i + o)) f) (fun b => .agg (tenC (p : Int) (n : Int) (i : Int) (o : Int) (.slice (some ⟨b, 0, none⟩) (n ^ (i + o)) (n ^ (i + o)))))] hmix rfl hF rfl hM ⟨fun a w gG hF hS hd => by have hM := hS.mem rfl; exact par_val hS rfl (g_loadAgg ty_ag_27 hF rfl (hM.row 6 rfl) (by simp only [fnC_size, cells_size, vecC_size, tabC_size, planeC_size, tenC_size, smC_size, numC_size, numI_size] <;> omega) (whole rfl)), fun a w gG hF hS hd => by have hM := hS.mem rfl; exact par_val hS rfl (g_loadAgg ty_ag_24 hF rfl (hM.row 0 rfl) (by simp only [fnC_size, cells_size, vecC_size, tabC_size, planeC_size, tenC_size, smC_size, numC_size, numI_size] <;> omega) (whole rfl)), fun a w gG hF hS hd => by have hF := hF.ext1 55 (hd 1 rfl rfl); have hM := hS.mem rfl; exact par_own (by repeat constructor) hS rfl rfl rfl rfl (d_callOwnB 10 hS.1 (d_call Try.call15 hF (.cons rfl .nil) (toTensor_ok (p : Int) (n : Int) (i : Int) (o : Int) sl (n ^ (i + o)) (fun c => ((f c : Nat) : Int)) _ (hs.ext hM.below) (by omega)))), trivial⟩ ?_
      intro a w' L hF hS hq
      have hF := hF.ext1 54 (hq 0 rfl rfl)
      have hF := hF.ext1 55 (hq 1 rfl rfl)
      obtain ⟨hM, hL⟩ := hS
      obtain ⟨b14, hptr, hkk⟩ := hq 2 rfl rfl
      have hF := hF.ext1 56 hptr
      have hL := hL.take hkk
      obtain rfl := hL.eq
      change Mem w w' [some (b1, tenC (p : Int) (n : Int) (i : Int) (o : Int) sl), some (b2, tenC (p : Int) (n : Int) (r : Int) (s : Int) sl2), none, none, some (b5, tenC 0 0 0 0 (.slice none 0 0)), some (b8, numC (n ^ (i + o)) f), some (b9, tenC (p : Int) (n : Int) (i : Int) (o : Int) (.slice (some ⟨b8, 0, none⟩) (n ^ (i + o)) (n ^ (i + o)))), some (b10, numC (n ^ (r + s)) h), some (b11, tenC (p : Int) (n : Int) (r : Int) (s : Int) (.slice (some ⟨b10, 0, none⟩) (n ^ (r + s)) (n ^ (r + s)))), some (b12, tenC 0 0 0 0 (.slice none 0 0)), some (b14, numC (n ^ (i + o)) f), none, none, none, none] [] at hM
      change wpList Try.prog _ _ [_, _] _ _
      refine stR hF (d_call Try.call17 hF (.cons rfl (.cons rfl .nil)) (eqTensor_ok (p : Int) (n : Int) (i : Int) (o : Int) b8 b14 (n ^ (i + o)) (fun c => ((f c : Nat) : Int)) (fun c => ((f c : Nat) : Int)) _ (hM.row 5 rfl) (hM.row 10 rfl) (by omega) (fun _ _ => rfl))) rfl ?_
      rintro _ w' a ⟨hx, rfl⟩ hF
      have hM := hM.ext hx
      refine st hF (g_not hF rfl) rfl fun a hF => ?_
      refine wpList_nil ?_
      refine tN ?_
      refine c_Fl hF rfl ?_
      refine wp_skip ?_
      refine tN ?_
      refine sq ?_
      refine sq ?_
      refine c_par 3 [11] [.val (.agg (tenC (p : Int) (n : Int) (r : Int) (s : Int) (.slice (some ⟨b10, 0, none⟩) (n ^ (r + s)) (n ^ (r + s))))), .val (.agg (tenC (p : Int) (n : Int) (r : Int) (s : Int) sl2)), .own 11 (numC (n ^ (r + s)) h) (fun b => .agg (tenC (p : Int) (n : Int) (r : Int) (s : Int) (.slice (some ⟨b, 0, none⟩) (n ^ (r + s)) (n ^ (r + s)))))] hmix rfl hF rfl hM ⟨fun a w gG hF hS hd => by have hM := hS.mem rfl; exact par_val hS rfl (g_loadAgg ty_ag_27 hF rfl (hM.row 8 rfl) (by simp only [fnC_size, cells_size, vecC_size, tabC_size, planeC_size, tenC_size, smC_size, numC_size, numI_size] <;> omega) (whole rfl)), fun a w gG hF hS hd => by have hM := hS.mem rfl; exact par_val hS rfl (g_loadAgg ty_ag_24 hF rfl (hM.row 1 rfl) (by simp only [fnC_size, cells_size, vecC_size, tabC_size, planeC_size, tenC_size, smC_size, numC_size, numI_size] <;> omega) (whole rfl)), fun a w gG hF hS hd => by have hF := hF.ext1 60 (hd 1 rfl rfl); have hM := hS.mem rfl; exact par_own (by repeat constructor) hS rfl rfl rfl rfl (d_callOwnB 11 hS.1 (d_call Try.call15 hF (.cons rfl .nil) (toTensor_ok (p : Int) (n : Int) (r : Int) (s : Int) sl2 (n ^ (r + s)) (fun c => ((h c : Nat) : Int)) _ (hs2.ext hM.below) (by omega)))), trivial⟩ ?_
      intro a w' L hF hS hq
      have hF := hF.ext1 59 (hq 0 rfl rfl)
      have hF := hF.ext1 60 (hq 1 rfl rfl)
      obtain ⟨hM, hL⟩ := hS
      obtain ⟨b16, hptr, hkk⟩ := hq 2 rfl rfl
      have hF := hF.ext1 61 hptr
      have hL := hL.take hkk
      obtain rfl := hL.eq
      change Mem w w' [some (b1, tenC (p : Int) (n : Int) (i : Int) (o : Int) sl), some (b2, tenC (p : Int) (n : Int) (r : Int) (s : Int) sl2), none, none, some (b5, tenC 0 0 0 0 (.slice none 0 0)), some (b8, numC (n ^ (i + o)) f), some (b9, tenC (p : Int) (n : Int) (i : Int) (o : Int) (.slice (some ⟨b8, 0, none⟩) (n ^ (i + o)) (n ^ (i + o)))), some (b10, numC (n ^ (r + s)) h), some (b11, tenC (p : Int) (n : Int) (r : Int) (s : Int) (.slice (some ⟨b10, 0, none⟩) (n ^ (r + s)) (n ^ (r + s)))), some (b12, tenC 0 0 0 0 (.slice none 0 0)), some (b14, numC (n ^ (i + o)) f), some (b16, numC (n ^ (r + s)) h), none, none, none] [] at hM
      change wpList Try.prog _ _ [_, _] _ _
      refine stR hF (d_call Try.call17 hF (.cons rfl (.cons rfl .nil)) (eqTensor_ok (p : Int) (n : Int) (r : Int) (s : Int) b10 b16 (n ^ (r + s)) (fun c => ((h c : Nat) : Int)) (fun c => ((h c : Nat) : Int)) _ (hM.row 7 rfl) (hM.row 11 rfl) (by omega) (fun _ _ => rfl))) rfl ?_
      rintro _ w' a ⟨hx, rfl⟩ hF
      have hM := hM.ext hx
      refine st hF (g_not hF rfl) rfl fun a hF => ?_
      refine wpList_nil ?_
      refine tN ?_
      refine c_Fl hF rfl ?_
      refine wp_skip ?_
      refine tN ?_
      refine sq ?_
      refine wp_region_lit ?_
      refine st hF (g_assign hF rfl) rfl fun a hF => ?_
      refine wpList_nil ?_
      refine tN ?_
      refine sq ?_
      refine wp_region_lit ?_
      refine st hF (g_loadAgg ty_ag_27 hF rfl (hM.row 6 rfl) (by simp only [fnC_size, cells_size, vecC_size, tabC_size, planeC_size, tenC_size, smC_size, numC_size, numI_size] <;> omega) (whole rfl)) rfl fun a hF => st hF (g_move hF rfl) rfl fun a hF => ?_
      refine stR hF (d_callX Try.call20 hF (.cons rfl (.cons rfl .nil)) (markTensor_ok (p : Int) (n : Int) (i : Int) (o : Int) b8 (n ^ (i + o)) (1) (fun c => ((f c : Nat) : Int)) _ (by omega) (by omega) (hM.row 5 rfl))) rfl ?_
      rintro _ w' a ⟨hx, rfl, hbk⟩ hF
      have hM := hM.upd 5 rfl hx hbk
      change Mem w w' [some (b1, tenC (p : Int) (n : Int) (i : Int) (o : Int) sl), some (b2, tenC (p : Int) (n : Int) (r : Int) (s : Int) sl2), none, none, some (b5, tenC 0 0 0 0 (.slice none 0 0)), some (b8, numC (n ^ (i + o)) (fun c => (1) + c)), some (b9, tenC (p : Int) (n : Int) (i : Int) (o : Int) (.slice (some ⟨b8, 0, none⟩) (n ^ (i + o)) (n ^ (i + o)))), some (b10, numC (n ^ (r + s)) h), some (b11, tenC (p : Int) (n : Int) (r : Int) (s : Int) (.slice (some ⟨b10, 0, none⟩) (n ^ (r + s)) (n ^ (r + s)))), some (b12, tenC 0 0 0 0 (.slice none 0 0)), some (b14, numC (n ^ (i + o)) f), some (b16, numC (n ^ (r + s)) h), none, none, none] [] at hM
      refine st hF (g_assign hF rfl) rfl fun a hF => ?_
      refine wpList_nil ?_
      refine tN ?_
      refine sq ?_
      refine wp_region_lit ?_
      refine st hF (g_loadAgg ty_ag_27 hF rfl (hM.row 8 rfl) (by simp only [fnC_size, cells_size, vecC_size, tabC_size, planeC_size, tenC_size, smC_size, numC_size, numI_size] <;> omega) (whole rfl)) rfl fun a hF => st hF (g_move hF rfl) rfl fun a hF => ?_
      refine stR hF (d_callX Try.call20 hF (.cons rfl (.cons rfl .nil)) (markTensor_ok (p : Int) (n : Int) (r : Int) (s : Int) b10 (n ^ (r + s)) (1 + (n ^ (i + o))) (fun c => ((h c : Nat) : Int)) _ (by omega) (by omega) (hM.row 7 rfl))) rfl ?_
      rintro _ w' a ⟨hx, rfl, hbk⟩ hF
      have hM := hM.upd 7 rfl hx hbk
      change Mem w w' [some (b1, tenC (p : Int) (n : Int) (i : Int) (o : Int) sl), some (b2, tenC (p : Int) (n : Int) (r : Int) (s : Int) sl2), none, none, some (b5, tenC 0 0 0 0 (.slice none 0 0)), some (b8, numC (n ^ (i + o)) (fun c => (1) + c)), some (b9, tenC (p : Int) (n : Int) (i : Int) (o : Int) (.slice (some ⟨b8, 0, none⟩) (n ^ (i + o)) (n ^ (i + o)))), some (b10, numC (n ^ (r + s)) (fun c => (1 + (n ^ (i + o))) + c)), some (b11, tenC (p : Int) (n : Int) (r : Int) (s : Int) (.slice (some ⟨b10, 0, none⟩) (n ^ (r + s)) (n ^ (r + s)))), some (b12, tenC 0 0 0 0 (.slice none 0 0)), some (b14, numC (n ^ (i + o)) f), some (b16, numC (n ^ (r + s)) h), none, none, none] [] at hM
      refine st hF (g_assign hF rfl) rfl fun a hF => ?_
      refine wpList_nil ?_
      refine tN ?_
      refine sq ?_
      refine sq ?_
      refine wp_region_lit ?_
      refine st hF (g_move hF rfl) rfl fun a hF => st hF (g_lss hF rfl rfl) rfl fun a hF => st hF (g_move hF rfl) rfl fun a hF => ?_
      by_cases g18 : (((1 + (n ^ (i + o)) + (n ^ (r + s)) : Nat) : Int) : Int) < 0
      ·
        first | rw [decide_eq_true g18] at hF | simp only [decide_eq_true g18] at hF
        first | exact absurd rfl g18 | (exfalso; omega)
      ·
        first | rw [decide_eq_false g18] at hF | simp only [decide_eq_false g18] at hF
        refine stY hF rfl rfl rfl (g_loadAgg ty_ag_27 hF rfl (hM.row 9 rfl) (by simp only [fnC_size, cells_size, vecC_size, tabC_size, planeC_size, tenC_size, smC_size, numC_size, numI_size] <;> omega) (whole rfl)) rfl fun a hF => stY hF rfl rfl rfl (g_loadAgg ty_ag_27 hF rfl (hM.row 4 rfl) (by simp only [fnC_size, cells_size, vecC_size, tabC_size, planeC_size, tenC_size, smC_size, numC_size, numI_size] <;> omega) (whole rfl)) rfl fun a hF => ?_
        refine stYR hF rfl rfl rfl (d_call Try.call17 hF (.cons rfl (.cons rfl .nil)) (eqTensor_0 _)) rfl ?_
        rintro _ w' a ⟨hx, rfl⟩ hF
        have hM := hM.ext hx
        refine stY hF rfl rfl rfl (g_not hF rfl) rfl fun a hF => st hF (g_pickF hF rfl rfl) rfl fun a hF => st hF (g_move hF rfl) rfl fun a hF => stY hF rfl rfl rfl (g_move hF rfl) rfl fun a hF => stY hF rfl rfl rfl (g_move hF rfl) rfl fun a hF => stY hF rfl rfl rfl (g_neq hF rfl rfl) rfl fun a hF => st hF (g_pickF hF rfl rfl) rfl fun a hF => ?_
        refine wpList_nil ?_
        refine tN ?_
        refine c_kF hF rfl (by decide) ?_
        refine wp_skip ?_
        refine tN ?_
        refine sq ?_
        refine wp_region_lit ?_
        refine st hF (g_assign hF rfl) rfl fun a hF => ?_
        refine wpList_nil ?_
        refine tN ?_
        refine sq ?_
        refine wp_region_lit ?_
        refine st hF (g_loadAgg ty_ag_27 hF rfl (hM.row 9 rfl) (by simp only [fnC_size, cells_size, vecC_size, tabC_size, planeC_size, tenC_size, smC_size, numC_size, numI_size] <;> omega) (whole rfl)) rfl fun a hF => st hF (g_move hF rfl) rfl fun a hF => ?_
        refine stR hF (d_call Try.call20 hF (.cons rfl (.cons rfl .nil)) (markTensor_0 (1) _ (by omega))) rfl ?_
        rintro _ w' a ⟨hx, rfl⟩ hF
        have hM := hM.ext hx
        refine st hF (g_assign hF rfl) rfl fun a hF => ?_
        refine wpList_nil ?_
        refine tN ?_
        refine sq ?_
        refine wp_region_lit ?_
        refine st hF (g_assign hF rfl) rfl fun a hF => ?_
        refine wpList_nil ?_
        refine tN ?_
        refine sq ?_
        refine wp_region_lit ?_
        refine st hF (g_loadAgg ty_ag_27 hF rfl (hM.row 9 rfl) (by simp only [fnC_size, cells_size, vecC_size, tabC_size, planeC_size, tenC_size, smC_size, numC_size, numI_size] <;> omega) (whole rfl)) rfl fun a hF => st hF (g_move hF rfl) rfl fun a hF => ?_
        refine stR hF (d_call Try.call21 hF (.cons rfl (.cons rfl .nil)) (heldTensor_0 (1) _ (by omega))) rfl ?_
        rintro _ w' a ⟨hx, rfl⟩ hF
        have hM := hM.ext hx
        refine st hF (g_assign hF rfl) rfl fun a hF => ?_
        refine wpList_nil ?_
        refine tN ?_
        refine sq ?_
        refine sq ?_
        refine wp_region_lit ?_
        refine st hF (g_move hF rfl) rfl fun a hF => st hF (g_lss hF rfl rfl) rfl fun a hF => ?_
        refine wpList_nil ?_
        refine tN ?_
        refine c_cond hF rfl (fun h20 => ?_) (fun h20 => ?_)
        ·
          first | exact absurd rfl h20 | (exfalso; omega)
        ·
          refine wp_skip ?_
          refine tN ?_
          refine sq ?_
          refine sq ?_
          refine wp_region_lit ?_
          refine st hF (g_move hF rfl) rfl fun a hF => st hF (g_move hF rfl) rfl fun a hF => st hF (g_neq hF rfl rfl) rfl fun a hF => ?_
          refine wpList_nil ?_
          refine tN ?_
          refine c_kF hF rfl (by decide) ?_
          refine wp_skip ?_
          refine tN ?_
          refine sq ?_
          refine c_drawG (S := ParE [] w [] [some (b1, tenC (p : Int) (n : Int) (i : Int) (o : Int) sl), some (b2, tenC (p : Int) (n : Int) (r : Int) (s : Int) sl2), none, none, some (b5, tenC 0 0 0 0 (.slice none 0 0)), some (b8, numC (n ^ (i + o)) (fun c => (1) + c)), some (b9, tenC (p : Int) (n : Int) (i : Int) (o : Int) (.slice (some ⟨b8, 0, none⟩) (n ^ (i + o)) (n ^ (i + o)))), some (b10, numC (n ^ (r + s)) (fun c => (1 + (n ^ (i + o))) + c)), some (b11, tenC (p : Int) (n : Int) (r : Int) (s : Int) (.slice (some ⟨b10, 0, none⟩) (n ^ (r + s)) (n ^ (r + s)))), some (b12, tenC 0 0 0 0 (.slice none 0 0)), some (b14, numC (n ^ (i + o)) f), some (b16, numC (n ^ (r + s)) h), none, none, none] 14 (tenC 0 0 0 0 (.slice none 0 0)) (none) (fun _ => tenC 0 0 0 0 (.slice none 0 0))) 10 9 hmix rfl rfl rfl hF rfl (fun j o hj hne => dstAll_spec (s := 9) (i := 0) rfl j o hj (by omega)) ([some (b1, tenC (p : Int) (n : Int) (i : Int) (o : Int) sl), some (b2, tenC (p : Int) (n : Int) (r : Int) (s : Int) sl2), none, none, some (b5, tenC 0 0 0 0 (.slice none 0 0)), some (b8, numC (n ^ (i + o)) (fun c => (1) + c)), some (b9, tenC (p : Int) (n : Int) (i : Int) (o : Int) (.slice (some ⟨b8, 0, none⟩) (n ^ (i + o)) (n ^ (i + o)))), some (b10, numC (n ^ (r + s)) (fun c => (1 + (n ^ (i + o))) + c)), some (b11, tenC (p : Int) (n : Int) (r : Int) (s : Int) (.slice (some ⟨b10, 0, none⟩) (n ^ (r + s)) (n ^ (r + s)))), some (b12, tenC 0 0 0 0 (.slice none 0 0)), some (b14, numC (n ^ (i + o)) f), some (b16, numC (n ^ (r + s)) h), none, none, none], []) ⟨⟨hM, Same.refl _ _⟩, fun b cs h => by simp at h⟩ (fun b g w h => ⟨⟨h.1.1.ext (Below.drew (Below.refl _ _)), h.1.2⟩, h.2⟩) (factsE 14 [FactE.val (.agg (tenC (p : Int) (n : Int) (i : Int) (o : Int) sl)), FactE.frz (numC (n ^ (i + o)) f) (fun bq => .agg (tenC (p : Int) (n : Int) (i : Int) (o : Int) (.slice (some ⟨bq, 0, none⟩) (n ^ (i + o)) (n ^ (i + o))))), FactE.val (.agg (tenC (p : Int) (n : Int) (r : Int) (s : Int) sl2)), FactE.frz (numC (n ^ (r + s)) h) (fun bq => .agg (tenC (p : Int) (n : Int) (r : Int) (s : Int) (.slice (some ⟨bq, 0, none⟩) (n ^ (r + s)) (n ^ (r + s))))), FactE.val (.tuple #[.agg (tenC 0 0 0 0 (.slice none 0 0)), .int .i64 (3)]), FactE.val (.tuple #[.agg (tenC 0 0 0 0 (.slice none 0 0)), .int .i64 (3)]), FactE.val (.agg (tenC 0 0 0 0 (.slice none 0 0))), FactE.val (.int .i64 (3)), FactE.own (fun b => ptr b 0), FactE.val undef]) ⟨fun a w2 fB gE hF hS hb hd => by have hM := (Par.mem (W := [14]) hS.1 rfl).keep0; exact pe_val hS rfl (g_loadAgg ty_ag_24 hF rfl (hM.row 0 rfl) (by simp only [fnC_size, cells_size, vecC_size, tabC_size, planeC_size, tenC_size, smC_size, numC_size, numI_size] <;> omega) (whole rfl)), fun a w2 fB gE hF hS hb hd => by have hF := hF.ext1 95 (hd 0 rfl rfl rfl); have hM := (Par.mem (W := [14]) hS.1 rfl).keep0; exact pe_frz hS rfl (d_call Try.call15 hF (.cons rfl .nil) (toTensor_ok (p : Int) (n : Int) (i : Int) (o : Int) sl (n ^ (i + o)) (fun c => ((f c : Nat) : Int)) _ (hs.ext hM.below) (by omega))), fun a w2 fB gE hF hS hb hd => by have hM := (Par.mem (W := [14]) hS.1 rfl).keep0; exact pe_val hS rfl (g_loadAgg ty_ag_24 hF rfl (hM.row 1 rfl) (by simp only [fnC_size, cells_size, vecC_size, tabC_size, planeC_size, tenC_size, smC_size, numC_size, numI_size] <;> omega) (whole rfl)), fun a w2 fB gE hF hS hb hd => by have hF := hF.ext1 97 (hd 2 rfl rfl rfl); have hM := (Par.mem (W := [14]) hS.1 rfl).keep0; exact pe_frz hS rfl (d_call Try.call15 hF (.cons rfl .nil) (toTensor_ok (p : Int) (n : Int) (r : Int) (s : Int) sl2 (n ^ (r + s)) (fun c => ((h c : Nat) : Int)) _ (hs2.ext hM.below) (by omega))), fun a w2 fB gE hF hS hb hd => by obtain ⟨bq1, hbq1, hvq1⟩ := hd 1 rfl rfl rfl; have hF := hF.ext1 96 hvq1; obtain ⟨bq3, hbq3, hvq3⟩ := hd 3 rfl rfl rfl; have hF := hF.ext1 98 hvq3; have hM := (Par.mem (W := [14]) hS.1 rfl).sub [(bq1, numC (n ^ (i + o)) f), (bq3, numC (n ^ (r + s)) h)] (List.forall_mem_cons.2 ⟨by exact List.mem_append_left _ hbq1, (List.forall_mem_cons.2 ⟨by exact List.mem_append_left _ hbq3, (fun _ hx => by cases hx)⟩)⟩); exact pe_call hS rfl (d_call Try.call32 hF (.cons rfl (.cons rfl .nil)) (SideTensorsIL p n i o r s bq1 bq3 f h _ hpP hn0 hn hwa hwb hw hfp hhp (hM.fz 0 rfl) (hM.fz 1 rfl))), fun a w2 fB gE hF hS hb hd => by have hF := hF.ext1 99 (hd 4 rfl rfl rfl); exact pe_val hS rfl (g_move hF rfl), fun a w2 fB gE hF hS hb hd => by have hF := hF.ext1 94 (hd 5 rfl rfl rfl); exact pe_val hS rfl (g_extract hF rfl rfl), fun a w2 fB gE hF hS hb hd => by have hF := hF.ext1 94 (hd 5 rfl rfl rfl); exact pe_val hS rfl (g_extract hF rfl rfl), fun a w2 fB gE hF hS hb hd => by obtain rfl := hb rfl; exact pe_own hS rfl rfl rfl (d_alloc 14 hS.1.1 ty_ze_27), fun a w2 gE hF hS hd => by have hF := hF.ext1 100 (hd 6 rfl rfl rfl); exact pe_store (ia := 8) (x := 0) hS rfl (hd 8 rfl rfl rfl) trivial (fun b hptr hM hL => by have hF := hF.ext1 15 hptr; exact d_storeAgg 14 hM hL ty_sz_27 hF rfl rfl (tenC_one rfl) (by simp only [fnC_size, cells_size, vecC_size, tabC_size, planeC_size, tenC_size, smC_size, numC_size, numI_size]) (by simp only [fnC_size, cells_size, vecC_size, tabC_size, planeC_size, tenC_size, smC_size, numC_size, numI_size] <;> omega) (splice_whole _ _ rfl)), trivial⟩ ?_
          intro a w' gE hF hS hq
          obtain ⟨L, E⟩ := gE
          have hF := hF.ext1 95 (hq 0 rfl rfl rfl)
          have hF := hF.ext1 97 (hq 2 rfl rfl rfl)
          have hF := hF.ext1 99 (hq 4 rfl rfl rfl)
          have hF := hF.ext1 94 (hq 5 rfl rfl rfl)
          have hF := hF.ext1 100 (hq 6 rfl rfl rfl)
          have hF := hF.ext1 101 (hq 7 rfl rfl rfl)
          obtain ⟨b22, cs23, hptr, hkk⟩ := hq 8 rfl rfl rfl
          obtain ⟨be24, hbe24, rfl⟩ := (hS.2 _ _ hkk).2 rfl
          have hF := hF.ext1 15 hptr
          obtain ⟨⟨hM, hL⟩, -⟩ := hS
          have hL := hL.take hkk
          obtain rfl := hL.eq
          have hM := hM.keep0
          change Mem w w' [some (b1, tenC (p : Int) (n : Int) (i : Int) (o : Int) sl), some (b2, tenC (p : Int) (n : Int) (r : Int) (s : Int) sl2), none, none, some (b5, tenC 0 0 0 0 (.slice none 0 0)), some (b8, numC (n ^ (i + o)) (fun c => (1) + c)), some (b9, tenC (p : Int) (n : Int) (i : Int) (o : Int) (.slice (some ⟨b8, 0, none⟩) (n ^ (i + o)) (n ^ (i + o)))), some (b10, numC (n ^ (r + s)) (fun c => (1 + (n ^ (i + o))) + c)), some (b11, tenC (p : Int) (n : Int) (r : Int) (s : Int) (.slice (some ⟨b10, 0, none⟩) (n ^ (r + s)) (n ^ (r + s)))), some (b12, tenC 0 0 0 0 (.slice none 0 0)), some (b14, numC (n ^ (i + o)) f), some (b16, numC (n ^ (r + s)) h), none, none, some (b22, tenC 0 0 0 0 (.slice none 0 0))] [] at hM
          change wpList Try.prog _ _ [_] _ _
          refine st hF (g_assign hF rfl) rfl fun a hF => ?_
          refine wpList_nil ?_
          refine tN ?_
          refine sq ?_
          refine sq ?_
          refine wp_region_lit ?_
          refine st hF (g_loadAgg ty_ag_27 hF rfl (hM.row 14 rfl) (by simp only [fnC_size, cells_size, vecC_size, tabC_size, planeC_size, tenC_size, smC_size, numC_size, numI_size] <;> omega) (whole rfl)) rfl fun a hF => st hF (g_loadAgg ty_ag_27 hF rfl (hM.row 4 rfl) (by simp only [fnC_size, cells_size, vecC_size, tabC_size, planeC_size, tenC_size, smC_size, numC_size, numI_size] <;> omega) (whole rfl)) rfl fun a hF => ?_
          refine stR hF (d_call Try.call17 hF (.cons rfl (.cons rfl .nil)) (eqTensor_0 _)) rfl ?_
          rintro _ w' a ⟨hx, rfl⟩ hF
          have hM := hM.ext hx
          refine st hF (g_not hF rfl) rfl fun a hF => st hF (g_move hF rfl) rfl fun a hF => stY hF rfl rfl rfl (g_move hF rfl) rfl fun a hF => stY hF rfl rfl rfl (g_move hF rfl) rfl fun a hF => stY hF rfl rfl rfl (g_neq hF rfl rfl) rfl fun a hF => st hF (g_pickF hF rfl rfl) rfl fun a hF => ?_
          refine wpList_nil ?_
          refine tN ?_
          refine c_kF hF rfl (by decide) ?_
          refine wp_skip ?_
          refine tN ?_
          refine sq ?_
          refine wp_region_lit ?_
          refine st hF (g_assign hF rfl) rfl fun a hF => ?_
          refine wpList_nil ?_
          refine tN ?_
          refine sq ?_
          refine wp_region_lit ?_
          refine st hF (g_loadAgg ty_ag_27 hF rfl (hM.row 9 rfl) (by simp only [fnC_size, cells_size, vecC_size, tabC_size, planeC_size, tenC_size, smC_size, numC_size, numI_size] <;> omega) (whole rfl)) rfl fun a hF => st hF (g_move hF rfl) rfl fun a hF => ?_
          refine stR hF (d_call Try.call21 hF (.cons rfl (.cons rfl .nil)) (heldTensor_0 (1) _ (by omega))) rfl ?_
          rintro _ w' a ⟨hx, rfl⟩ hF
          have hM := hM.ext hx
          refine st hF (g_assign hF rfl) rfl fun a hF => ?_
          refine wpList_nil ?_
          refine tN ?_
          refine sq ?_
          refine sq ?_
          refine wp_region_lit ?_
          refine st hF (g_move hF rfl) rfl fun a hF => st hF (g_lss hF rfl rfl) rfl fun a hF => ?_
          refine wpList_nil ?_
          refine tN ?_
          refine c_kF hF rfl h20 ?_
          refine wp_skip ?_
          refine tN ?_
          refine sq ?_
          refine sq ?_
          refine wp_region_lit ?_
          refine st hF (g_move hF rfl) rfl fun a hF => st hF (g_move hF rfl) rfl fun a hF => st hF (g_neq hF rfl rfl) rfl fun a hF => ?_
          refine wpList_nil ?_
          refine tN ?_
          refine c_kF hF rfl (by decide) ?_
          refine wp_skip ?_
          refine tN ?_
          refine sq ?_
          refine wp_region_lit ?_
          refine st hF (g_assign hF rfl) rfl fun a hF => ?_
          refine wpList_nil ?_
          refine tN ?_
          refine wp_ret ?_
          refine fin1 rfl hF.defers (res_tmp hF rfl) ⟨_, rfl, hM.below, ?_⟩
          show _ = _
          rfl

theorem law_SideTensorsZ1 (p n i o p2 n2 i2 o2 : Int) (sl sl2 : Value) (m m2 : Nat) (g g2 : Nat → Int) (w : World) (hs : ArgSl w sl m g) (hs2 : ArgSl w sl2 m2 g2) (hml : m ≤ maxLen) (hml2 : m2 ≤ maxLen) (hmx : 1048576 < m) :
    CallsR Try.prog 9 #[.agg (tenC p n i o sl), .agg (tenC p2 n2 i2 o2 sl2)] w (fun res _ => res = .bool true) := by
  refine calls_fr [.agg (tenC p n i o sl), .agg (tenC p2 n2 i2 o2 sl2)] Try.func9 rfl Try.ntmps9 rfl fun a hF => ?_
  have hM : Mem w w [none, none, none, none, none, none, none, none, none, none, none, none, none, none, none] [] := MemX.start w 15
  change Fr 119 a [(0, .agg (tenC p n i o sl)), (1, .agg (tenC p2 n2 i2 o2 sl2))] at hF
  have hso := hs.one
  have hso2 := hs2.one
  unfold maxLen at hml hml2
  refine sq ?_
  refine wp_region_lit ?_
  refine stR hF (d_box 0 hM hF rfl) rfl ?_
  rintro _ w' a ⟨b1, rfl, hM, -⟩ hF
  change Mem w w' [some (b1, tenC p n i o sl), none, none, none, none, none, none, none, none, none, none, none, none, none, none] [] at hM
  refine stR hF (d_box 1 hM hF rfl) rfl ?_
  rintro _ w' a ⟨b2, rfl, hM, -⟩ hF
  change Mem w w' [some (b1, tenC p n i o sl), some (b2, tenC p2 n2 i2 o2 sl2), none, none, none, none, none, none, none, none, none, none, none, none, none] [] at hM
  refine st hF (g_assign hF rfl) rfl fun a hF => ?_
  refine wpList_nil ?_
  refine tN ?_
  refine sq ?_
  refine wp_region_lit ?_
  refine st hF (g_assign hF rfl) rfl fun a hF => ?_
  refine wpList_nil ?_
  refine tN ?_
  refine sq ?_
  refine wp_region_lit ?_
  refine st hF (g_loadAgg ty_ag_24 hF rfl (hM.row 0 rfl) (by simp only [fnC_size, cells_size, vecC_size, tabC_size, planeC_size, tenC_size, smC_size, numC_size, numI_size] <;> omega) (whole rfl)) rfl fun a hF => st hF (g_move hF rfl) rfl fun a hF => ?_
  refine stR hF (d_call Try.call13 hF (.cons rfl (.cons rfl .nil)) (szTensor_no p n i o sl m (1048576) g _ (hs.ext hM.below) (by omega) (by omega) (by unfold maxLen at *; omega))) rfl ?_
  rintro _ w' a ⟨hx, rfl⟩ hF
  have hM := hM.ext hx
  refine st hF (g_assign hF rfl) rfl fun a hF => ?_
  refine wpList_nil ?_
  refine tN ?_
  refine sq ?_
  refine sq ?_
  refine wp_region_lit ?_
  refine st hF (g_move hF rfl) rfl fun a hF => st hF (g_lss hF rfl rfl) rfl fun a hF => ?_
  refine wpList_nil ?_
  refine tN ?_
  refine c_cond hF rfl (fun h3 => ?_) (fun h3 => ?_)
  ·
    refine sq ?_
    refine wp_region_lit ?_
    refine st hF (g_assign hF rfl) rfl fun a hF => ?_
    refine wpList_nil ?_
    refine tN ?_
    refine wp_ret ?_
    refine tR ?_
    refine fin1 rfl hF.defers (res_tmp hF rfl) ⟨_, rfl, hM.below, ?_⟩
    show _ = _
    rfl
  ·
    exfalso; omega

theorem law_SideTensorsZ2 (p n i o p2 n2 i2 o2 : Int) (sl sl2 : Value) (m m2 : Nat) (g g2 : Nat → Int) (w : World) (hs : ArgSl w sl m g) (hs2 : ArgSl w sl2 m2 g2) (hml : m ≤ maxLen) (hml2 : m2 ≤ maxLen) (hm : m ≤ 1048576) (hmx : 1048576 < m + m2) :
    CallsR Try.prog 9 #[.agg (tenC p n i o sl), .agg (tenC p2 n2 i2 o2 sl2)] w (fun res _ => res = .bool true) := by
  refine calls_fr [.agg (tenC p n i o sl), .agg (tenC p2 n2 i2 o2 sl2)] Try.func9 rfl Try.ntmps9 rfl fun a hF => ?_
  have hM : Mem w w [none, none, none, none, none, none, none, none, none, none, none, none, none, none, none] [] := MemX.start w 15
  change Fr 119 a [(0, .agg (tenC p n i o sl)), (1, .agg (tenC p2 n2 i2 o2 sl2))] at hF
  have hso := hs.one
  have hso2 := hs2.one
  unfold maxLen at hml hml2
  refine sq ?_
  refine wp_region_lit ?_
  refine stR hF (d_box 0 hM hF rfl) rfl ?_
  rintro _ w' a ⟨b1, rfl, hM, -⟩ hF
  change Mem w w' [some (b1, tenC p n i o sl), none, none, none, none, none, none, none, none, none, none, none, none, none, none] [] at hM
  refine stR hF (d_box 1 hM hF rfl) rfl ?_
  rintro _ w' a ⟨b2, rfl, hM, -⟩ hF
  change Mem w w' [some (b1, tenC p n i o sl), some (b2, tenC p2 n2 i2 o2 sl2), none, none, none, none, none, none, none, none, none, none, none, none, none] [] at hM
  refine st hF (g_assign hF rfl) rfl fun a hF => ?_
  refine wpList_nil ?_
  refine tN ?_
  refine sq ?_
  refine wp_region_lit ?_
  refine st hF (g_assign hF rfl) rfl fun a hF => ?_
  refine wpList_nil ?_
  refine tN ?_
  refine sq ?_
  refine wp_region_lit ?_
  refine st hF (g_loadAgg ty_ag_24 hF rfl (hM.row 0 rfl) (by simp only [fnC_size, cells_size, vecC_size, tabC_size, planeC_size, tenC_size, smC_size, numC_size, numI_size] <;> omega) (whole rfl)) rfl fun a hF => st hF (g_move hF rfl) rfl fun a hF => ?_
  refine stR hF (d_call Try.call13 hF (.cons rfl (.cons rfl .nil)) (szTensor_ok p n i o sl m (1048576) g _ (hs.ext hM.below) (by omega) (by omega))) rfl ?_
  rintro _ w' a ⟨hx, rfl⟩ hF
  have hM := hM.ext hx
  refine st hF (g_assign hF rfl) rfl fun a hF => ?_
  refine wpList_nil ?_
  refine tN ?_
  refine sq ?_
  refine sq ?_
  refine wp_region_lit ?_
  refine st hF (g_move hF rfl) rfl fun a hF => st hF (g_lss hF rfl rfl) rfl fun a hF => ?_
  refine wpList_nil ?_
  refine tN ?_
  refine c_cond hF rfl (fun h3 => ?_) (fun h3 => ?_)
  ·
    first | exact absurd rfl h3 | (exfalso; omega)
  ·
    refine wp_skip ?_
    refine tN ?_
    refine sq ?_
    refine wp_region_lit ?_
    refine st hF (g_loadAgg ty_ag_24 hF rfl (hM.row 1 rfl) (by simp only [fnC_size, cells_size, vecC_size, tabC_size, planeC_size, tenC_size, smC_size, numC_size, numI_size] <;> omega) (whole rfl)) rfl fun a hF => st hF (g_move hF rfl) rfl fun a hF => ?_
    refine stR hF (d_call Try.call13 hF (.cons rfl (.cons rfl .nil)) (szTensor_no p2 n2 i2 o2 sl2 m2 (1048576 - m) g2 _ (hs2.ext hM.below) (by omega) (by omega) (by unfold maxLen at *; omega))) rfl ?_
    rintro _ w' a ⟨hx, rfl⟩ hF
    have hM := hM.ext hx
    refine st hF (g_assign hF rfl) rfl fun a hF => ?_
    refine wpList_nil ?_
    refine tN ?_
    refine sq ?_
    refine sq ?_
    refine wp_region_lit ?_
    refine st hF (g_move hF rfl) rfl fun a hF => st hF (g_lss hF rfl rfl) rfl fun a hF => ?_
    refine wpList_nil ?_
    refine tN ?_
    refine c_cond hF rfl (fun h4 => ?_) (fun h4 => ?_)
    ·
      refine sq ?_
      refine wp_region_lit ?_
      refine st hF (g_assign hF rfl) rfl fun a hF => ?_
      refine wpList_nil ?_
      refine tN ?_
      refine wp_ret ?_
      refine tR ?_
      refine fin1 rfl hF.defers (res_tmp hF rfl) ⟨_, rfl, hM.below, ?_⟩
      show _ = _
      rfl
    ·
      exfalso; omega

theorem law_SideTensorsA (p n i o p2 n2 i2 o2 : Int) (sl sl2 : Value) (m m2 : Nat) (g g2 : Nat → Int) (w : World) (hs : ArgSl w sl m g) (hs2 : ArgSl w sl2 m2 g2) (hm : m < 10000000) (hm2 : m2 < 10000000) (hmx : m + m2 ≤ 1048576) (hA : ¬ (TenP p n i o m g ∧ TenP p2 n2 i2 o2 m2 g2)) :
    CallsR Try.prog 9 #[.agg (tenC p n i o sl), .agg (tenC p2 n2 i2 o2 sl2)] w (fun res _ => res = .bool true) := by
  refine calls_fr [.agg (tenC p n i o sl), .agg (tenC p2 n2 i2 o2 sl2)] Try.func9 rfl Try.ntmps9 rfl fun a hF => ?_
  have hM : Mem w w [none, none, none, none, none, none, none, none, none, none, none, none, none, none, none] [] := MemX.start w 15
  change Fr 119 a [(0, .agg (tenC p n i o sl)), (1, .agg (tenC p2 n2 i2 o2 sl2))] at hF
  have hso := hs.one
  have hso2 := hs2.one
  refine sq ?_
  refine wp_region_lit ?_
  refine stR hF (d_box 0 hM hF rfl) rfl ?_
  rintro _ w' a ⟨b1, rfl, hM, -⟩ hF
  change Mem w w' [some (b1, tenC p n i o sl), none, none, none, none, none, none, none, none, none, none, none, none, none, none] [] at hM
  refine stR hF (d_box 1 hM hF rfl) rfl ?_
  rintro _ w' a ⟨b2, rfl, hM, -⟩ hF
  change Mem w w' [some (b1, tenC p n i o sl), some (b2, tenC p2 n2 i2 o2 sl2), none, none, none, none, none, none, none, none, none, none, none, none, none] [] at hM
  refine st hF (g_assign hF rfl) rfl fun a hF => ?_
  refine wpList_nil ?_
  refine tN ?_
  refine sq ?_
  refine wp_region_lit ?_
  refine st hF (g_assign hF rfl) rfl fun a hF => ?_
  refine wpList_nil ?_
  refine tN ?_
  refine sq ?_
  refine wp_region_lit ?_
  refine st hF (g_loadAgg ty_ag_24 hF rfl (hM.row 0 rfl) (by simp only [fnC_size, cells_size, vecC_size, tabC_size, planeC_size, tenC_size, smC_size, numC_size, numI_size] <;> omega) (whole rfl)) rfl fun a hF => st hF (g_move hF rfl) rfl fun a hF => ?_
  refine stR hF (d_call Try.call13 hF (.cons rfl (.cons rfl .nil)) (szTensor_ok p n i o sl m (1048576) g _ (hs.ext hM.below) (by omega) (by omega))) rfl ?_
  rintro _ w' a ⟨hx, rfl⟩ hF
  have hM := hM.ext hx
  refine st hF (g_assign hF rfl) rfl fun a hF => ?_
  refine wpList_nil ?_
  refine tN ?_
  refine sq ?_
  refine sq ?_
  refine wp_region_lit ?_
  refine st hF (g_move hF rfl) rfl fun a hF => st hF (g_lss hF rfl rfl) rfl fun a hF => ?_
  refine wpList_nil ?_
  refine tN ?_
  refine c_cond hF rfl (fun h3 => ?_) (fun h3 => ?_)
  ·
    first | exact absurd rfl h3 | (exfalso; omega)
  ·
    refine wp_skip ?_
    refine tN ?_
    refine sq ?_
    refine wp_region_lit ?_
    refine st hF (g_loadAgg ty_ag_24 hF rfl (hM.row 1 rfl) (by simp only [fnC_size, cells_size, vecC_size, tabC_size, planeC_size, tenC_size, smC_size, numC_size, numI_size] <;> omega) (whole rfl)) rfl fun a hF => st hF (g_move hF rfl) rfl fun a hF => ?_
    refine stR hF (d_call Try.call13 hF (.cons rfl (.cons rfl .nil)) (szTensor_ok p2 n2 i2 o2 sl2 m2 (1048576 - m) g2 _ (hs2.ext hM.below) (by omega) (by omega))) rfl ?_
    rintro _ w' a ⟨hx, rfl⟩ hF
    have hM := hM.ext hx
    refine st hF (g_assign hF rfl) rfl fun a hF => ?_
    refine wpList_nil ?_
    refine tN ?_
    refine sq ?_
    refine sq ?_
    refine wp_region_lit ?_
    refine st hF (g_move hF rfl) rfl fun a hF => st hF (g_lss hF rfl rfl) rfl fun a hF => ?_
    refine wpList_nil ?_
    refine tN ?_
    refine c_cond hF rfl (fun h4 => ?_) (fun h4 => ?_)
    ·
      first | exact absurd rfl h4 | (exfalso; omega)
    ·
      refine wp_skip ?_
      refine tN ?_
      refine sq ?_
      refine c_drawG (S := ParE [] w [] [some (b1, tenC p n i o sl), some (b2, tenC p2 n2 i2 o2 sl2), none, none, none, none, none, none, none, none, none, none, none, none, none] 4 (tenC 0 0 0 0 (.slice none 0 0)) (none) (fun _ => tenC 0 0 0 0 (.slice none 0 0))) 10 9 hmix rfl rfl rfl hF rfl (fun j o hj hne => dstAll_spec (s := 9) (i := 0) rfl j o hj (by omega)) ([some (b1, tenC p n i o sl), some (b2, tenC p2 n2 i2 o2 sl2), none, none, none, none, none, none, none, none, none, none, none, none, none], []) ⟨⟨hM, Same.refl _ _⟩, fun b cs h => by simp at h⟩ (fun b g w h => ⟨⟨h.1.1.ext (Below.drew (Below.refl _ _)), h.1.2⟩, h.2⟩) (factsE 4 [FactE.val (.agg (tenC p n i o sl)), FactE.frz (numI m g) (fun bq => .agg (tenC p n i o (.slice (some ⟨bq, 0, none⟩) m m))), FactE.val (.agg (tenC p2 n2 i2 o2 sl2)), FactE.frz (numI m2 g2) (fun bq => .agg (tenC p2 n2 i2 o2 (.slice (some ⟨bq, 0, none⟩) m2 m2))), FactE.val (.tuple #[.agg (tenC 0 0 0 0 (.slice none 0 0)), .int .i64 (1)]), FactE.val (.tuple #[.agg (tenC 0 0 0 0 (.slice none 0 0)), .int .i64 (1)]), FactE.val (.agg (tenC 0 0 0 0 (.slice none 0 0))), FactE.val (.int .i64 (1)), FactE.own (fun b => ptr b 0), FactE.val undef]) ⟨fun a w2 fB gE hF hS hb hd => by have hM := (Par.mem (W := [4]) hS.1 rfl).keep0; exact pe_val hS rfl (g_loadAgg ty_ag_24 hF rfl (hM.row 0 rfl) (by simp only [fnC_size, cells_size, vecC_size, tabC_size, planeC_size, tenC_size, smC_size, numC_size, numI_size] <;> omega) (whole rfl)), fun a w2 fB gE hF hS hb hd => by have hF := hF.ext1 28 (hd 0 rfl rfl rfl); have hM := (Par.mem (W := [4]) hS.1 rfl).keep0; exact pe_frz hS rfl (d_call Try.call15 hF (.cons rfl .nil) (toTensor_ok p n i o sl m g _ (hs.ext hM.below) hm)), fun a w2 fB gE hF hS hb hd => by have hM := (Par.mem (W := [4]) hS.1 rfl).keep0; exact pe_val hS rfl (g_loadAgg ty_ag_24 hF rfl (hM.row 1 rfl) (by simp only [fnC_size, cells_size, vecC_size, tabC_size, planeC_size, tenC_size, smC_size, numC_size, numI_size] <;> omega) (whole rfl)), fun a w2 fB gE hF hS hb hd => by have hF := hF.ext1 30 (hd 2 rfl rfl rfl); have hM := (Par.mem (W := [4]) hS.1 rfl).keep0; exact pe_frz hS rfl (d_call Try.call15 hF (.cons rfl .nil) (toTensor_ok p2 n2 i2 o2 sl2 m2 g2 _ (hs2.ext hM.below) hm2)), fun a w2 fB gE hF hS hb hd => by obtain ⟨bq1, hbq1, hvq1⟩ := hd 1 rfl rfl rfl; have hF := hF.ext1 29 hvq1; obtain ⟨bq3, hbq3, hvq3⟩ := hd 3 rfl rfl rfl; have hF := hF.ext1 31 hvq3; have hM := (Par.mem (W := [4]) hS.1 rfl).sub [(bq1, numI m g), (bq3, numI m2 g2)] (List.forall_mem_cons.2 ⟨by exact List.mem_append_left _ hbq1, (List.forall_mem_cons.2 ⟨by exact List.mem_append_left _ hbq3, (fun _ hx => by cases hx)⟩)⟩); exact pe_call hS rfl (d_call Try.call31 hF (.cons rfl (.cons rfl .nil)) (SideTensorsSA p n i o p2 n2 i2 o2 bq1 bq3 m m2 g g2 _ (hM.fz 0 rfl) (hM.fz 1 rfl) (by omega) (by omega) hA)), fun a w2 fB gE hF hS hb hd => by have hF := hF.ext1 32 (hd 4 rfl rfl rfl); exact pe_val hS rfl (g_move hF rfl), fun a w2 fB gE hF hS hb hd => by have hF := hF.ext1 27 (hd 5 rfl rfl rfl); exact pe_val hS rfl (g_extract hF rfl rfl), fun a w2 fB gE hF hS hb hd => by have hF := hF.ext1 27 (hd 5 rfl rfl rfl); exact pe_val hS rfl (g_extract hF rfl rfl), fun a w2 fB gE hF hS hb hd => by obtain rfl := hb rfl; exact pe_own hS rfl rfl rfl (d_alloc 4 hS.1.1 ty_ze_27), fun a w2 gE hF hS hd => by have hF := hF.ext1 33 (hd 6 rfl rfl rfl); exact pe_store (ia := 8) (x := 0) hS rfl (hd 8 rfl rfl rfl) trivial (fun b hptr hM hL => by have hF := hF.ext1 6 hptr; exact d_storeAgg 4 hM hL ty_sz_27 hF rfl rfl (tenC_one rfl) (by simp only [fnC_size, cells_size, vecC_size, tabC_size, planeC_size, tenC_size, smC_size, numC_size, numI_size]) (by simp only [fnC_size, cells_size, vecC_size, tabC_size, planeC_size, tenC_size, smC_size, numC_size, numI_size] <;> omega) (splice_whole _ _ rfl)), trivial⟩ ?_
      intro a w' gE hF hS hq
      obtain ⟨L, E⟩ := gE
      have hF := hF.ext1 28 (hq 0 rfl rfl rfl)
      have hF := hF.ext1 30 (hq 2 rfl rfl rfl)
      have hF := hF.ext1 32 (hq 4 rfl rfl rfl)
      have hF := hF.ext1 27 (hq 5 rfl rfl rfl)
      have hF := hF.ext1 33 (hq 6 rfl rfl rfl)
      have hF := hF.ext1 34 (hq 7 rfl rfl rfl)
      obtain ⟨b5, cs6, hptr, hkk⟩ := hq 8 rfl rfl rfl
      obtain ⟨be7, hbe7, rfl⟩ := (hS.2 _ _ hkk).2 rfl
      have hF := hF.ext1 6 hptr
      obtain ⟨⟨hM, hL⟩, -⟩ := hS
      have hL := hL.take hkk
      obtain rfl := hL.eq
      have hM := hM.keep0
      change Mem w w' [some (b1, tenC p n i o sl), some (b2, tenC p2 n2 i2 o2 sl2), none, none, some (b5, tenC 0 0 0 0 (.slice none 0 0)), none, none, none, none, none, none, none, none, none, none] [] at hM
      change wpList Try.prog _ _ [_] _ _
      refine st hF (g_assign hF rfl) rfl fun a hF => ?_
      refine wpList_nil ?_
      refine tN ?_
      refine sq ?_
      refine wp_region_lit ?_
      refine st hF (g_loadAgg ty_ag_24 hF rfl (hM.row 0 rfl) (by simp only [fnC_size, cells_size, vecC_size, tabC_size, planeC_size, tenC_size, smC_size, numC_size, numI_size] <;> omega) (whole rfl)) rfl fun a hF => ?_
      refine stR hF (d_call Try.call15 hF (.cons rfl .nil) (toTensor_ok p n i o sl m g _ (hs.ext hM.below) hm)) rfl ?_
      rintro _ w' a ⟨hx, b8, rfl, hge, hbk⟩ hF
      have hM := hM.fill hx 5 hbk hge
      change Mem w w' [some (b1, tenC p n i o sl), some (b2, tenC p2 n2 i2 o2 sl2), none, none, some (b5, tenC 0 0 0 0 (.slice none 0 0)), some (b8, numI m g), none, none, none, none, none, none, none, none, none] [] at hM
      refine stR hF (d_alloc 6 hM ty_ze_27) rfl ?_
      rintro _ w' a ⟨b9, rfl, hM, -⟩ hF
      change Mem w w' [some (b1, tenC p n i o sl), some (b2, tenC p2 n2 i2 o2 sl2), none, none, some (b5, tenC 0 0 0 0 (.slice none 0 0)), some (b8, numI m g), some (b9, tenC 0 0 0 0 (.slice none 0 0)), none, none, none, none, none, none, none, none] [] at hM
      refine stN hF (d_storeAgg 6 hM rfl ty_sz_27 hF rfl rfl (tenC_one rfl) (by simp only [fnC_size, cells_size, vecC_size, tabC_size, planeC_size, tenC_size, smC_size, numC_size, numI_size]) (by simp only [fnC_size, cells_size, vecC_size, tabC_size, planeC_size, tenC_size, smC_size, numC_size, numI_size] <;> omega) (splice_whole _ _ rfl)) ?_
      intro _ w' a hM hF
      change Mem w w' [some (b1, tenC p n i o sl), some (b2, tenC p2 n2 i2 o2 sl2), none, none, some (b5, tenC 0 0 0 0 (.slice none 0 0)), some (b8, numI m g), some (b9, tenC p n i o (.slice (some ⟨b8, 0, none⟩) m m)), none, none, none, none, none, none, none, none] [] at hM
      refine wpList_nil ?_
      refine tN ?_
      refine sq ?_
      refine wp_region_lit ?_
      refine st hF (g_loadAgg ty_ag_24 hF rfl (hM.row 1 rfl) (by simp only [fnC_size, cells_size, vecC_size, tabC_size, planeC_size, tenC_size, smC_size, numC_size, numI_size] <;> omega) (whole rfl)) rfl fun a hF => ?_
      refine stR hF (d_call Try.call15 hF (.cons rfl .nil) (toTensor_ok p2 n2 i2 o2 sl2 m2 g2 _ (hs2.ext hM.below) hm2)) rfl ?_
      rintro _ w' a ⟨hx, b10, rfl, hge, hbk⟩ hF
      have hM := hM.fill hx 7 hbk hge
      change Mem w w' [some (b1, tenC p n i o sl), some (b2, tenC p2 n2 i2 o2 sl2), none, none, some (b5, tenC 0 0 0 0 (.slice none 0 0)), some (b8, numI m g), some (b9, tenC p n i o (.slice (some ⟨b8, 0, none⟩) m m)), some (b10, numI m2 g2), none, none, none, none, none, none, none] [] at hM
      refine stR hF (d_alloc 8 hM ty_ze_27) rfl ?_
      rintro _ w' a ⟨b11, rfl, hM, -⟩ hF
      change Mem w w' [some (b1, tenC p n i o sl), some (b2, tenC p2 n2 i2 o2 sl2), none, none, some (b5, tenC 0 0 0 0 (.slice none 0 0)), some (b8, numI m g), some (b9, tenC p n i o (.slice (some ⟨b8, 0, none⟩) m m)), some (b10, numI m2 g2), some (b11, tenC 0 0 0 0 (.slice none 0 0)), none, none, none, none, none, none] [] at hM
      refine stN hF (d_storeAgg 8 hM rfl ty_sz_27 hF rfl rfl (tenC_one rfl) (by simp only [fnC_size, cells_size, vecC_size, tabC_size, planeC_size, tenC_size, smC_size, numC_size, numI_size]) (by simp only [fnC_size, cells_size, vecC_size, tabC_size, planeC_size, tenC_size, smC_size, numC_size, numI_size] <;> omega) (splice_whole _ _ rfl)) ?_
      intro _ w' a hM hF
      change Mem w w' [some (b1, tenC p n i o sl), some (b2, tenC p2 n2 i2 o2 sl2), none, none, some (b5, tenC 0 0 0 0 (.slice none 0 0)), some (b8, numI m g), some (b9, tenC p n i o (.slice (some ⟨b8, 0, none⟩) m m)), some (b10, numI m2 g2), some (b11, tenC p2 n2 i2 o2 (.slice (some ⟨b10, 0, none⟩) m2 m2)), none, none, none, none, none, none] [] at hM
      refine wpList_nil ?_
      refine tN ?_
      refine sq ?_
      refine wp_region_lit ?_
      refine st hF (g_loadAgg ty_ag_27 hF rfl (hM.row 6 rfl) (by simp only [fnC_size, cells_size, vecC_size, tabC_size, planeC_size, tenC_size, smC_size, numC_size, numI_size] <;> omega) (whole rfl)) rfl fun a hF => st hF (g_loadAgg ty_ag_27 hF rfl (hM.row 8 rfl) (by simp only [fnC_size, cells_size, vecC_size, tabC_size, planeC_size, tenC_size, smC_size, numC_size, numI_size] <;> omega) (whole rfl)) rfl fun a hF => ?_
      refine stR hF (d_call Try.call32 hF (.cons rfl (.cons rfl .nil)) (SideTensorsIA p n i o p2 n2 i2 o2 b8 b10 m m2 g g2 _ (hM.row 5 rfl) (hM.row 7 rfl) (by omega) (by omega) hA)) rfl ?_
      rintro _ w' a ⟨hx, rfl⟩ hF
      have hM := hM.ext hx
      refine st hF (g_move hF rfl) rfl fun a hF => st hF (g_extract hF rfl rfl) rfl fun a hF => st hF (g_extract hF rfl rfl) rfl fun a hF => ?_
      refine stR hF (d_alloc 9 hM ty_ze_27) rfl ?_
      rintro _ w' a ⟨b12, rfl, hM, -⟩ hF
      change Mem w w' [some (b1, tenC p n i o sl), some (b2, tenC p2 n2 i2 o2 sl2), none, none, some (b5, tenC 0 0 0 0 (.slice none 0 0)), some (b8, numI m g), some (b9, tenC p n i o (.slice (some ⟨b8, 0, none⟩) m m)), some (b10, numI m2 g2), some (b11, tenC p2 n2 i2 o2 (.slice (some ⟨b10, 0, none⟩) m2 m2)), some (b12, tenC 0 0 0 0 (.slice none 0 0)), none, none, none, none, none] [] at hM
      refine stN hF (d_storeAgg 9 hM rfl ty_sz_27 hF rfl rfl (tenC_one rfl) (by simp only [fnC_size, cells_size, vecC_size, tabC_size, planeC_size, tenC_size, smC_size, numC_size, numI_size]) (by simp only [fnC_size, cells_size, vecC_size, tabC_size, planeC_size, tenC_size, smC_size, numC_size, numI_size] <;> omega) (splice_whole _ _ rfl)) ?_
      intro _ w' a hM hF
      change Mem w w' [some (b1, tenC p n i o sl), some (b2, tenC p2 n2 i2 o2 sl2), none, none, some (b5, tenC 0 0 0 0 (.slice none 0 0)), some (b8, numI m g), some (b9, tenC p n i o (.slice (some ⟨b8, 0, none⟩) m m)), some (b10, numI m2 g2), some (b11, tenC p2 n2 i2 o2 (.slice (some ⟨b10, 0, none⟩) m2 m2)), some (b12, tenC 0 0 0 0 (.slice none 0 0)), none, none, none, none, none] [] at hM
      refine st hF (g_assign hF rfl) rfl fun a hF => ?_
      refine wpList_nil ?_
      refine tN ?_
      refine sq ?_
      refine sq ?_
      refine wp_region_lit ?_
      refine st hF (g_loadAgg ty_ag_27 hF rfl (hM.row 9 rfl) (by simp only [fnC_size, cells_size, vecC_size, tabC_size, planeC_size, tenC_size, smC_size, numC_size, numI_size] <;> omega) (whole rfl)) rfl fun a hF => st hF (g_loadAgg ty_ag_27 hF rfl (hM.row 4 rfl) (by simp only [fnC_size, cells_size, vecC_size, tabC_size, planeC_size, tenC_size, smC_size, numC_size, numI_size] <;> omega) (whole rfl)) rfl fun a hF => ?_
      refine stR hF (d_call Try.call17 hF (.cons rfl (.cons rfl .nil)) (eqTensor_0 _)) rfl ?_
      rintro _ w' a ⟨hx, rfl⟩ hF
      have hM := hM.ext hx
      refine st hF (g_not hF rfl) rfl fun a hF => st hF (g_move hF rfl) rfl fun a hF => stY hF rfl rfl rfl (g_move hF rfl) rfl fun a hF => stY hF rfl rfl rfl (g_move hF rfl) rfl fun a hF => stY hF rfl rfl rfl (g_neq hF rfl rfl) rfl fun a hF => st hF (g_pickF hF rfl rfl) rfl fun a hF => ?_
      refine wpList_nil ?_
      refine tN ?_
      refine c_kF hF rfl (by decide) ?_
      refine wp_skip ?_
      refine tN ?_
      refine sq ?_
      refine sq ?_
      refine c_par 3 [10] [.val (.agg (tenC p n i o (.slice (some ⟨b8, 0, none⟩) m m))), .val (.agg (tenC p n i o sl)), .own 10 (numI m g) (fun b => .agg (tenC p n i o (.slice (some ⟨b, 0, none⟩) m m)))] hmix rfl hF rfl hM ⟨fun a w gG hF hS hd => by have hM := hS.mem rfl; exact par_val hS rfl (g_loadAgg ty_ag_27 hF rfl (hM.row 6 rfl) (by simp only [fnC_size, cells_size, vecC_size, tabC_size, planeC_size, tenC_size, smC_size, numC_size, numI_size] <;> omega) (whole rfl)), fun a w gG hF hS hd => by have hM := hS.mem rfl; exact par_val hS rfl (g_loadAgg ty_ag_24 hF rfl (hM.row 0 rfl) (by simp only [fnC_size, cells_size, vecC_size, tabC_size, planeC_size, tenC_size, smC_size, numC_size, numI_size] <;> omega) (whole rfl)), fun a w gG hF hS hd => by have hF := hF.ext1 55 (hd 1 rfl rfl); have hM := hS.mem rfl; exact par_own (by repeat constructor) hS rfl rfl rfl rfl (d_callOwnB 10 hS.1 (d_call Try.call15 hF (.cons rfl .nil) (toTensor_ok p n i o sl m g _ (hs.ext hM.below) hm))), trivial⟩ ?_
      intro a w' L hF hS hq
      have hF := hF.ext1 54 (hq 0 rfl rfl)
      have hF := hF.ext1 55 (hq 1 rfl rfl)
      obtain ⟨hM, hL⟩ := hS
      obtain ⟨b14, hptr, hkk⟩ := hq 2 rfl rfl
      have hF := hF.ext1 56 hptr
      have hL := hL.take hkk
      obtain rfl := hL.eq
      change Mem w w' [some (b1, tenC p n i o sl), some (b2, tenC p2 n2 i2 o2 sl2), none, none, some (b5, tenC 0 0 0 0 (.slice none 0 0)), some (b8, numI m g), some (b9, tenC p n i o (.slice (some ⟨b8, 0, none⟩) m m)), some (b10, numI m2 g2), some (b11, tenC p2 n2 i2 o2 (.slice (some ⟨b10, 0, none⟩) m2 m2)), some (b12, tenC 0 0 0 0 (.slice none 0 0)), some (b14, numI m g), none, none, none, none] [] at hM
      change wpList Try.prog _ _ [_, _] _ _
      refine stR hF (d_call Try.call17 hF (.cons rfl (.cons rfl .nil)) (eqTensor_ok p n i o b8 b14 m g g _ (hM.row 5 rfl) (hM.row 10 rfl) (by omega) (fun _ _ => rfl))) rfl ?_
      rintro _ w' a ⟨hx, rfl⟩ hF
      have hM := hM.ext hx
      refine st hF (g_not hF rfl) rfl fun a hF => ?_
      refine wpList_nil ?_
      refine tN ?_
      refine c_Fl hF rfl ?_
      refine wp_skip ?_
      refine tN ?_
      refine sq ?_
      refine sq ?_
      refine c_par 3 [11] [.val (.agg (tenC p2 n2 i2 o2 (.slice (some ⟨b10, 0, none⟩) m2 m2))), .val (.agg (tenC p2 n2 i2 o2 sl2)), .own 11 (numI m2 g2) (fun b => .agg (tenC p2 n2 i2 o2 (.slice (some ⟨b, 0, none⟩) m2 m2)))] hmix rfl hF rfl hM ⟨fun a w gG hF hS hd => by have hM := hS.mem rfl; exact par_val hS rfl (g_loadAgg ty_ag_27 hF rfl (hM.row 8 rfl) (by simp only [fnC_size, cells_size, vecC_size, tabC_size, planeC_size, tenC_size, smC_size, numC_size, numI_size] <;> omega) (whole rfl)), fun a w gG hF hS hd => by have hM := hS.mem rfl; exact par_val hS rfl (g_loadAgg ty_ag_24 hF rfl (hM.row 1 rfl) (by simp only [fnC_size, cells_size, vecC_size, tabC_size, planeC_size, tenC_size, smC_size, numC_size, numI_size] <;> omega) (whole rfl)), fun a w gG hF hS hd => by have hF := hF.ext1 60 (hd 1 rfl rfl); have hM := hS.mem rfl; exact par_own (by repeat constructor) hS rfl rfl rfl rfl (d_callOwnB 11 hS.1 (d_call Try.call15 hF (.cons rfl .nil) (toTensor_ok p2 n2 i2 o2 sl2 m2 g2 _ (hs2.ext hM.below) hm2))), trivial⟩ ?_
      intro a w' L hF hS hq
      have hF := hF.ext1 59 (hq 0 rfl rfl)
      have hF := hF.ext1 60 (hq 1 rfl rfl)
      obtain ⟨hM, hL⟩ := hS
      obtain ⟨b16, hptr, hkk⟩ := hq 2 rfl rfl
      have hF := hF.ext1 61 hptr
      have hL := hL.take hkk
      obtain rfl := hL.eq
      change Mem w w' [some (b1, tenC p n i o sl), some (b2, tenC p2 n2 i2 o2 sl2), none, none, some (b5, tenC 0 0 0 0 (.slice none 0 0)), some (b8, numI m g), some (b9, tenC p n i o (.slice (some ⟨b8, 0, none⟩) m m)), some (b10, numI m2 g2), some (b11, tenC p2 n2 i2 o2 (.slice (some ⟨b10, 0, none⟩) m2 m2)), some (b12, tenC 0 0 0 0 (.slice none 0 0)), some (b14, numI m g), some (b16, numI m2 g2), none, none, none] [] at hM
      change wpList Try.prog _ _ [_, _] _ _
      refine stR hF (d_call Try.call17 hF (.cons rfl (.cons rfl .nil)) (eqTensor_ok p2 n2 i2 o2 b10 b16 m2 g2 g2 _ (hM.row 7 rfl) (hM.row 11 rfl) (by omega) (fun _ _ => rfl))) rfl ?_
      rintro _ w' a ⟨hx, rfl⟩ hF
      have hM := hM.ext hx
      refine st hF (g_not hF rfl) rfl fun a hF => ?_
      refine wpList_nil ?_
      refine tN ?_
      refine c_Fl hF rfl ?_
      refine wp_skip ?_
      refine tN ?_
      refine sq ?_
      refine wp_region_lit ?_
      refine st hF (g_assign hF rfl) rfl fun a hF => ?_
      refine wpList_nil ?_
      refine tN ?_
      refine sq ?_
      refine wp_region_lit ?_
      refine st hF (g_loadAgg ty_ag_27 hF rfl (hM.row 6 rfl) (by simp only [fnC_size, cells_size, vecC_size, tabC_size, planeC_size, tenC_size, smC_size, numC_size, numI_size] <;> omega) (whole rfl)) rfl fun a hF => st hF (g_move hF rfl) rfl fun a hF => ?_
      refine stR hF (d_callX Try.call20 hF (.cons rfl (.cons rfl .nil)) (markTensor_ok p n i o b8 m (1) g _ (by omega) (by omega) (hM.row 5 rfl))) rfl ?_
      rintro _ w' a ⟨hx, rfl, hbk⟩ hF
      have hM := hM.upd 5 rfl hx hbk
      change Mem w w' [some (b1, tenC p n i o sl), some (b2, tenC p2 n2 i2 o2 sl2), none, none, some (b5, tenC 0 0 0 0 (.slice none 0 0)), some (b8, numC m (fun c => (1) + c)), some (b9, tenC p n i o (.slice (some ⟨b8, 0, none⟩) m m)), some (b10, numI m2 g2), some (b11, tenC p2 n2 i2 o2 (.slice (some ⟨b10, 0, none⟩) m2 m2)), some (b12, tenC 0 0 0 0 (.slice none 0 0)), some (b14, numI m g), some (b16, numI m2 g2), none, none, none] [] at hM
      refine st hF (g_assign hF rfl) rfl fun a hF => ?_
      refine wpList_nil ?_
      refine tN ?_
      refine sq ?_
      refine wp_region_lit ?_
      refine st hF (g_loadAgg ty_ag_27 hF rfl (hM.row 8 rfl) (by simp only [fnC_size, cells_size, vecC_size, tabC_size, planeC_size, tenC_size, smC_size, numC_size, numI_size] <;> omega) (whole rfl)) rfl fun a hF => st hF (g_move hF rfl) rfl fun a hF => ?_
      refine stR hF (d_callX Try.call20 hF (.cons rfl (.cons rfl .nil)) (markTensor_ok p2 n2 i2 o2 b10 m2 (1 + m) g2 _ (by omega) (by omega) (hM.row 7 rfl))) rfl ?_
      rintro _ w' a ⟨hx, rfl, hbk⟩ hF
      have hM := hM.upd 7 rfl hx hbk
      change Mem w w' [some (b1, tenC p n i o sl), some (b2, tenC p2 n2 i2 o2 sl2), none, none, some (b5, tenC 0 0 0 0 (.slice none 0 0)), some (b8, numC m (fun c => (1) + c)), some (b9, tenC p n i o (.slice (some ⟨b8, 0, none⟩) m m)), some (b10, numC m2 (fun c => (1 + m) + c)), some (b11, tenC p2 n2 i2 o2 (.slice (some ⟨b10, 0, none⟩) m2 m2)), some (b12, tenC 0 0 0 0 (.slice none 0 0)), some (b14, numI m g), some (b16, numI m2 g2), none, none, none] [] at hM
      refine st hF (g_assign hF rfl) rfl fun a hF => ?_
      refine wpList_nil ?_
      refine tN ?_
      refine sq ?_
      refine sq ?_
      refine wp_region_lit ?_
      refine st hF (g_move hF rfl) rfl fun a hF => st hF (g_lss hF rfl rfl) rfl fun a hF => st hF (g_move hF rfl) rfl fun a hF => ?_
      by_cases g18 : (((1 + m + m2 : Nat) : Int) : Int) < 0
      ·
        first | rw [decide_eq_true g18] at hF | simp only [decide_eq_true g18] at hF
        first | exact absurd rfl g18 | (exfalso; omega)
      ·
        first | rw [decide_eq_false g18] at hF | simp only [decide_eq_false g18] at hF
        refine stY hF rfl rfl rfl (g_loadAgg ty_ag_27 hF rfl (hM.row 9 rfl) (by simp only [fnC_size, cells_size, vecC_size, tabC_size, planeC_size, tenC_size, smC_size, numC_size, numI_size] <;> omega) (whole rfl)) rfl fun a hF => stY hF rfl rfl rfl (g_loadAgg ty_ag_27 hF rfl (hM.row 4 rfl) (by simp only [fnC_size, cells_size, vecC_size, tabC_size, planeC_size, tenC_size, smC_size, numC_size, numI_size] <;> omega) (whole rfl)) rfl fun a hF => ?_
        refine stYR hF rfl rfl rfl (d_call Try.call17 hF (.cons rfl (.cons rfl .nil)) (eqTensor_0 _)) rfl ?_
        rintro _ w' a ⟨hx, rfl⟩ hF
        have hM := hM.ext hx
        refine stY hF rfl rfl rfl (g_not hF rfl) rfl fun a hF => st hF (g_pickF hF rfl rfl) rfl fun a hF => st hF (g_move hF rfl) rfl fun a hF => stY hF rfl rfl rfl (g_move hF rfl) rfl fun a hF => stY hF rfl rfl rfl (g_move hF rfl) rfl fun a hF => stY hF rfl rfl rfl (g_neq hF rfl rfl) rfl fun a hF => st hF (g_pickF hF rfl rfl) rfl fun a hF => ?_
        refine wpList_nil ?_
        refine tN ?_
        refine c_kF hF rfl (by decide) ?_
        refine wp_skip ?_
        refine tN ?_
        refine sq ?_
        refine wp_region_lit ?_
        refine st hF (g_assign hF rfl) rfl fun a hF => ?_
        refine wpList_nil ?_
        refine tN ?_
        refine sq ?_
        refine wp_region_lit ?_
        refine st hF (g_loadAgg ty_ag_27 hF rfl (hM.row 9 rfl) (by simp only [fnC_size, cells_size, vecC_size, tabC_size, planeC_size, tenC_size, smC_size, numC_size, numI_size] <;> omega) (whole rfl)) rfl fun a hF => st hF (g_move hF rfl) rfl fun a hF => ?_
        refine stR hF (d_call Try.call20 hF (.cons rfl (.cons rfl .nil)) (markTensor_0 (1) _ (by omega))) rfl ?_
        rintro _ w' a ⟨hx, rfl⟩ hF
        have hM := hM.ext hx
        refine st hF (g_assign hF rfl) rfl fun a hF => ?_
        refine wpList_nil ?_
        refine tN ?_
        refine sq ?_
        refine wp_region_lit ?_
        refine st hF (g_assign hF rfl) rfl fun a hF => ?_
        refine wpList_nil ?_
        refine tN ?_
        refine sq ?_
        refine wp_region_lit ?_
        refine st hF (g_loadAgg ty_ag_27 hF rfl (hM.row 9 rfl) (by simp only [fnC_size, cells_size, vecC_size, tabC_size, planeC_size, tenC_size, smC_size, numC_size, numI_size] <;> omega) (whole rfl)) rfl fun a hF => st hF (g_move hF rfl) rfl fun a hF => ?_
        refine stR hF (d_call Try.call21 hF (.cons rfl (.cons rfl .nil)) (heldTensor_0 (1) _ (by omega))) rfl ?_
        rintro _ w' a ⟨hx, rfl⟩ hF
        have hM := hM.ext hx
        refine st hF (g_assign hF rfl) rfl fun a hF => ?_
        refine wpList_nil ?_
        refine tN ?_
        refine sq ?_
        refine sq ?_
        refine wp_region_lit ?_
        refine st hF (g_move hF rfl) rfl fun a hF => st hF (g_lss hF rfl rfl) rfl fun a hF => ?_
        refine wpList_nil ?_
        refine tN ?_
        refine c_cond hF rfl (fun h20 => ?_) (fun h20 => ?_)
        ·
          first | exact absurd rfl h20 | (exfalso; omega)
        ·
          refine wp_skip ?_
          refine tN ?_
          refine sq ?_
          refine sq ?_
          refine wp_region_lit ?_
          refine st hF (g_move hF rfl) rfl fun a hF => st hF (g_move hF rfl) rfl fun a hF => st hF (g_neq hF rfl rfl) rfl fun a hF => ?_
          refine wpList_nil ?_
          refine tN ?_
          refine c_kF hF rfl (by decide) ?_
          refine wp_skip ?_
          refine tN ?_
          refine sq ?_
          refine c_drawG (S := ParE [] w [] [some (b1, tenC p n i o sl), some (b2, tenC p2 n2 i2 o2 sl2), none, none, some (b5, tenC 0 0 0 0 (.slice none 0 0)), some (b8, numC m (fun c => (1) + c)), some (b9, tenC p n i o (.slice (some ⟨b8, 0, none⟩) m m)), some (b10, numC m2 (fun c => (1 + m) + c)), some (b11, tenC p2 n2 i2 o2 (.slice (some ⟨b10, 0, none⟩) m2 m2)), some (b12, tenC 0 0 0 0 (.slice none 0 0)), some (b14, numI m g), some (b16, numI m2 g2), none, none, none] 14 (tenC 0 0 0 0 (.slice none 0 0)) (none) (fun _ => tenC 0 0 0 0 (.slice none 0 0))) 10 9 hmix rfl rfl rfl hF rfl (fun j o hj hne => dstAll_spec (s := 9) (i := 0) rfl j o hj (by omega)) ([some (b1, tenC p n i o sl), some (b2, tenC p2 n2 i2 o2 sl2), none, none, some (b5, tenC 0 0 0 0 (.slice none 0 0)), some (b8, numC m (fun c => (1) + c)), some (b9, tenC p n i o (.slice (some ⟨b8, 0, none⟩) m m)), some (b10, numC m2 (fun c => (1 + m) + c)), some (b11, tenC p2 n2 i2 o2 (.slice (some ⟨b10, 0, none⟩) m2 m2)), some (b12, tenC 0 0 0 0 (.slice none 0 0)), some (b14, numI m g), some (b16, numI m2 g2), none, none, none], []) ⟨⟨hM, Same.refl _ _⟩, fun b cs h => by simp at h⟩ (fun b g w h => ⟨⟨h.1.1.ext (Below.drew (Below.refl _ _)), h.1.2⟩, h.2⟩) (factsE 14 [FactE.val (.agg (tenC p n i o sl)), FactE.frz (numI m g) (fun bq => .agg (tenC p n i o (.slice (some ⟨bq, 0, none⟩) m m))), FactE.val (.agg (tenC p2 n2 i2 o2 sl2)), FactE.frz (numI m2 g2) (fun bq => .agg (tenC p2 n2 i2 o2 (.slice (some ⟨bq, 0, none⟩) m2 m2))), FactE.val (.tuple #[.agg (tenC 0 0 0 0 (.slice none 0 0)), .int .i64 (1)]), FactE.val (.tuple #[.agg (tenC 0 0 0 0 (.slice none 0 0)), .int .i64 (1)]), FactE.val (.agg (tenC 0 0 0 0 (.slice none 0 0))), FactE.val (.int .i64 (1)), FactE.own (fun b => ptr b 0), FactE.val undef]) ⟨fun a w2 fB gE hF hS hb hd => by have hM := (Par.mem (W := [14]) hS.1 rfl).keep0; exact pe_val hS rfl (g_loadAgg ty_ag_24 hF rfl (hM.row 0 rfl) (by simp only [fnC_size, cells_size, vecC_size, tabC_size, planeC_size, tenC_size, smC_size, numC_size, numI_size] <;> omega) (whole rfl)), fun a w2 fB gE hF hS hb hd => by have hF := hF.ext1 95 (hd 0 rfl rfl rfl); have hM := (Par.mem (W := [14]) hS.1 rfl).keep0; exact pe_frz hS rfl (d_call Try.call15 hF (.cons rfl .nil) (toTensor_ok p n i o sl m g _ (hs.ext hM.below) hm)), fun a w2 fB gE hF hS hb hd => by have hM := (Par.mem (W := [14]) hS.1 rfl).keep0; exact pe_val hS rfl (g_loadAgg ty_ag_24 hF rfl (hM.row 1 rfl) (by simp only [fnC_size, cells_size, vecC_size, tabC_size, planeC_size, tenC_size, smC_size, numC_size, numI_size] <;> omega) (whole rfl)), fun a w2 fB gE hF hS hb hd => by have hF := hF.ext1 97 (hd 2 rfl rfl rfl); have hM := (Par.mem (W := [14]) hS.1 rfl).keep0; exact pe_frz hS rfl (d_call Try.call15 hF (.cons rfl .nil) (toTensor_ok p2 n2 i2 o2 sl2 m2 g2 _ (hs2.ext hM.below) hm2)), fun a w2 fB gE hF hS hb hd => by obtain ⟨bq1, hbq1, hvq1⟩ := hd 1 rfl rfl rfl; have hF := hF.ext1 96 hvq1; obtain ⟨bq3, hbq3, hvq3⟩ := hd 3 rfl rfl rfl; have hF := hF.ext1 98 hvq3; have hM := (Par.mem (W := [14]) hS.1 rfl).sub [(bq1, numI m g), (bq3, numI m2 g2)] (List.forall_mem_cons.2 ⟨by exact List.mem_append_left _ hbq1, (List.forall_mem_cons.2 ⟨by exact List.mem_append_left _ hbq3, (fun _ hx => by cases hx)⟩)⟩); exact pe_call hS rfl (d_call Try.call32 hF (.cons rfl (.cons rfl .nil)) (SideTensorsIA p n i o p2 n2 i2 o2 bq1 bq3 m m2 g g2 _ (hM.fz 0 rfl) (hM.fz 1 rfl) (by omega) (by omega) hA)), fun a w2 fB gE hF hS hb hd => by have hF := hF.ext1 99 (hd 4 rfl rfl rfl); exact pe_val hS rfl (g_move hF rfl), fun a w2 fB gE hF hS hb hd => by have hF := hF.ext1 94 (hd 5 rfl rfl rfl); exact pe_val hS rfl (g_extract hF rfl rfl), fun a w2 fB gE hF hS hb hd => by have hF := hF.ext1 94 (hd 5 rfl rfl rfl); exact pe_val hS rfl (g_extract hF rfl rfl), fun a w2 fB gE hF hS hb hd => by obtain rfl := hb rfl; exact pe_own hS rfl rfl rfl (d_alloc 14 hS.1.1 ty_ze_27), fun a w2 gE hF hS hd => by have hF := hF.ext1 100 (hd 6 rfl rfl rfl); exact pe_store (ia := 8) (x := 0) hS rfl (hd 8 rfl rfl rfl) trivial (fun b hptr hM hL => by have hF := hF.ext1 15 hptr; exact d_storeAgg 14 hM hL ty_sz_27 hF rfl rfl (tenC_one rfl) (by simp only [fnC_size, cells_size, vecC_size, tabC_size, planeC_size, tenC_size, smC_size, numC_size, numI_size]) (by simp only [fnC_size, cells_size, vecC_size, tabC_size, planeC_size, tenC_size, smC_size, numC_size, numI_size] <;> omega) (splice_whole _ _ rfl)), trivial⟩ ?_
          intro a w' gE hF hS hq
          obtain ⟨L, E⟩ := gE
          have hF := hF.ext1 95 (hq 0 rfl rfl rfl)
          have hF := hF.ext1 97 (hq 2 rfl rfl rfl)
          have hF := hF.ext1 99 (hq 4 rfl rfl rfl)
          have hF := hF.ext1 94 (hq 5 rfl rfl rfl)
          have hF := hF.ext1 100 (hq 6 rfl rfl rfl)
          have hF := hF.ext1 101 (hq 7 rfl rfl rfl)
          obtain ⟨b22, cs23, hptr, hkk⟩ := hq 8 rfl rfl rfl
          obtain ⟨be24, hbe24, rfl⟩ := (hS.2 _ _ hkk).2 rfl
          have hF := hF.ext1 15 hptr
          obtain ⟨⟨hM, hL⟩, -⟩ := hS
          have hL := hL.take hkk
          obtain rfl := hL.eq
          have hM := hM.keep0
          change Mem w w' [some (b1, tenC p n i o sl), some (b2, tenC p2 n2 i2 o2 sl2), none, none, some (b5, tenC 0 0 0 0 (.slice none 0 0)), some (b8, numC m (fun c => (1) + c)), some (b9, tenC p n i o (.slice (some ⟨b8, 0, none⟩) m m)), some (b10, numC m2 (fun c => (1 + m) + c)), some (b11, tenC p2 n2 i2 o2 (.slice (some ⟨b10, 0, none⟩) m2 m2)), some (b12, tenC 0 0 0 0 (.slice none 0 0)), some (b14, numI m g), some (b16, numI m2 g2), none, none, some (b22, tenC 0 0 0 0 (.slice none 0 0))] [] at hM
          change wpList Try.prog _ _ [_] _ _
          refine st hF (g_assign hF rfl) rfl fun a hF => ?_
          refine wpList_nil ?_
          refine tN ?_
          refine sq ?_
          refine sq ?_
          refine wp_region_lit ?_
          refine st hF (g_loadAgg ty_ag_27 hF rfl (hM.row 14 rfl) (by simp only [fnC_size, cells_size, vecC_size, tabC_size, planeC_size, tenC_size, smC_size, numC_size, numI_size] <;> omega) (whole rfl)) rfl fun a hF => st hF (g_loadAgg ty_ag_27 hF rfl (hM.row 4 rfl) (by simp only [fnC_size, cells_size, vecC_size, tabC_size, planeC_size, tenC_size, smC_size, numC_size, numI_size] <;> omega) (whole rfl)) rfl fun a hF => ?_
          refine stR hF (d_call Try.call17 hF (.cons rfl (.cons rfl .nil)) (eqTensor_0 _)) rfl ?_
          rintro _ w' a ⟨hx, rfl⟩ hF
          have hM := hM.ext hx
          refine st hF (g_not hF rfl) rfl fun a hF => st hF (g_move hF rfl) rfl fun a hF => stY hF rfl rfl rfl (g_move hF rfl) rfl fun a hF => stY hF rfl rfl rfl (g_move hF rfl) rfl fun a hF => stY hF rfl rfl rfl (g_neq hF rfl rfl) rfl fun a hF => st hF (g_pickF hF rfl rfl) rfl fun a hF => ?_
          refine wpList_nil ?_
          refine tN ?_
          refine c_kF hF rfl (by decide) ?_
          refine wp_skip ?_
          refine tN ?_
          refine sq ?_
          refine wp_region_lit ?_
          refine st hF (g_assign hF rfl) rfl fun a hF => ?_
          refine wpList_nil ?_
          refine tN ?_
          refine sq ?_
          refine wp_region_lit ?_
          refine st hF (g_loadAgg ty_ag_27 hF rfl (hM.row 9 rfl) (by simp only [fnC_size, cells_size, vecC_size, tabC_size, planeC_size, tenC_size, smC_size, numC_size, numI_size] <;> omega) (whole rfl)) rfl fun a hF => st hF (g_move hF rfl) rfl fun a hF => ?_
          refine stR hF (d_call Try.call21 hF (.cons rfl (.cons rfl .nil)) (heldTensor_0 (1) _ (by omega))) rfl ?_
          rintro _ w' a ⟨hx, rfl⟩ hF
          have hM := hM.ext hx
          refine st hF (g_assign hF rfl) rfl fun a hF => ?_
          refine wpList_nil ?_
          refine tN ?_
          refine sq ?_
          refine sq ?_
          refine wp_region_lit ?_
          refine st hF (g_move hF rfl) rfl fun a hF => st hF (g_lss hF rfl rfl) rfl fun a hF => ?_
          refine wpList_nil ?_
          refine tN ?_
          refine c_kF hF rfl h20 ?_
          refine wp_skip ?_
          refine tN ?_
          refine sq ?_
          refine sq ?_
          refine wp_region_lit ?_
          refine st hF (g_move hF rfl) rfl fun a hF => st hF (g_move hF rfl) rfl fun a hF => st hF (g_neq hF rfl rfl) rfl fun a hF => ?_
          refine wpList_nil ?_
          refine tN ?_
          refine c_kF hF rfl (by decide) ?_
          refine wp_skip ?_
          refine tN ?_
          refine sq ?_
          refine wp_region_lit ?_
          refine st hF (g_assign hF rfl) rfl fun a hF => ?_
          refine wpList_nil ?_
          refine tN ?_
          refine wp_ret ?_
          refine fin1 rfl hF.defers (res_tmp hF rfl) ⟨_, rfl, hM.below, ?_⟩
          show _ = _
          rfl

theorem law_SideTensorsR1 (p n i o p2 n2 i2 o2 : Int) (sl sl2 : Value) (m m2 : Nat) (g g2 : Nat → Int) (w : World) (hs : ArgSl w sl m g) (hs2 : ArgSl w sl2 m2 g2) (hm : m < 10000000) (hm2 : m2 < 10000000) (hmx : m + m2 ≤ 1048576) (h1 : TenP p n i o m g) (h2 : TenP p2 n2 i2 o2 m2 g2) (hR : ¬ (p = p2 ∧ n = n2)) :
    CallsR Try.prog 9 #[.agg (tenC p n i o sl), .agg (tenC p2 n2 i2 o2 sl2)] w (fun res _ => res = .bool true) := by
  refine calls_fr [.agg (tenC p n i o sl), .agg (tenC p2 n2 i2 o2 sl2)] Try.func9 rfl Try.ntmps9 rfl fun a hF => ?_
  have hM : Mem w w [none, none, none, none, none, none, none, none, none, none, none, none, none, none, none] [] := MemX.start w 15
  change Fr 119 a [(0, .agg (tenC p n i o sl)), (1, .agg (tenC p2 n2 i2 o2 sl2))] at hF
  have hso := hs.one
  have hso2 := hs2.one
  refine sq ?_
  refine wp_region_lit ?_
  refine stR hF (d_box 0 hM hF rfl) rfl ?_
  rintro _ w' a ⟨b1, rfl, hM, -⟩ hF
  change Mem w w' [some (b1, tenC p n i o sl), none, none, none, none, none, none, none, none, none, none, none, none, none, none] [] at hM
  refine stR hF (d_box 1 hM hF rfl) rfl ?_
  rintro _ w' a ⟨b2, rfl, hM, -⟩ hF
  change Mem w w' [some (b1, tenC p n i o sl), some (b2, tenC p2 n2 i2 o2 sl2), none, none, none, none, none, none, none, none, none, none, none, none, none] [] at hM
  refine st hF (g_assign hF rfl) rfl fun a hF => ?_
  refine wpList_nil ?_
  refine tN ?_
  refine sq ?_
  refine wp_region_lit ?_
  refine st hF (g_assign hF rfl) rfl fun a hF => ?_
  refine wpList_nil ?_
  refine tN ?_
  refine sq ?_
  refine wp_region_lit ?_
  refine st hF (g_loadAgg ty_ag_24 hF rfl (hM.row 0 rfl) (by simp only [fnC_size, cells_size, vecC_size, tabC_size, planeC_size, tenC_size, smC_size, numC_size, numI_size] <;> omega) (whole rfl)) rfl fun a hF => st hF (g_move hF rfl) rfl fun a hF => ?_
  refine stR hF (d_call Try.call13 hF (.cons rfl (.cons rfl .nil)) (szTensor_ok p n i o sl m (1048576) g _ (hs.ext hM.below) (by omega) (by omega))) rfl ?_
  rintro _ w' a ⟨hx, rfl⟩ hF
  have hM := hM.ext hx
  refine st hF (g_assign hF rfl) rfl fun a hF => ?_
  refine wpList_nil ?_
  refine tN ?_
  refine sq ?_
  refine sq ?_
  refine wp_region_lit ?_
  refine st hF (g_move hF rfl) rfl fun a hF => st hF (g_lss hF rfl rfl) rfl fun a hF => ?_
  refine wpList_nil ?_
  refine tN ?_
  refine c_cond hF rfl (fun h3 => ?_) (fun h3 => ?_)
  ·
    first | exact absurd rfl h3 | (exfalso; omega)
  ·
    refine wp_skip ?_
    refine tN ?_
    refine sq ?_
    refine wp_region_lit ?_
    refine st hF (g_loadAgg ty_ag_24 hF rfl (hM.row 1 rfl) (by simp only [fnC_size, cells_size, vecC_size, tabC_size, planeC_size, tenC_size, smC_size, numC_size, numI_size] <;> omega) (whole rfl)) rfl fun a hF => st hF (g_move hF rfl) rfl fun a hF => ?_
    refine stR hF (d_call Try.call13 hF (.cons rfl (.cons rfl .nil)) (szTensor_ok p2 n2 i2 o2 sl2 m2 (1048576 - m) g2 _ (hs2.ext hM.below) (by omega) (by omega))) rfl ?_
    rintro _ w' a ⟨hx, rfl⟩ hF
    have hM := hM.ext hx
    refine st hF (g_assign hF rfl) rfl fun a hF => ?_
    refine wpList_nil ?_
    refine tN ?_
    refine sq ?_
    refine sq ?_
    refine wp_region_lit ?_
    refine st hF (g_move hF rfl) rfl fun a hF => st hF (g_lss hF rfl rfl) rfl fun a hF => ?_
    refine wpList_nil ?_
    refine tN ?_
    refine c_cond hF rfl (fun h4 => ?_) (fun h4 => ?_)
    ·
      first | exact absurd rfl h4 | (exfalso; omega)
    ·
      refine wp_skip ?_
      refine tN ?_
      refine sq ?_
      refine c_drawG (S := ParE [] w [] [some (b1, tenC p n i o sl), some (b2, tenC p2 n2 i2 o2 sl2), none, none, none, none, none, none, none, none, none, none, none, none, none] 4 (tenC 0 0 0 0 (.slice none 0 0)) (none) (fun _ => tenC 0 0 0 0 (.slice none 0 0))) 10 9 hmix rfl rfl rfl hF rfl (fun j o hj hne => dstAll_spec (s := 9) (i := 0) rfl j o hj (by omega)) ([some (b1, tenC p n i o sl), some (b2, tenC p2 n2 i2 o2 sl2), none, none, none, none, none, none, none, none, none, none, none, none, none], []) ⟨⟨hM, Same.refl _ _⟩, fun b cs h => by simp at h⟩ (fun b g w h => ⟨⟨h.1.1.ext (Below.drew (Below.refl _ _)), h.1.2⟩, h.2⟩) (factsE 4 [FactE.val (.agg (tenC p n i o sl)), FactE.frz (numI m g) (fun bq => .agg (tenC p n i o (.slice (some ⟨bq, 0, none⟩) m m))), FactE.val (.agg (tenC p2 n2 i2 o2 sl2)), FactE.frz (numI m2 g2) (fun bq => .agg (tenC p2 n2 i2 o2 (.slice (some ⟨bq, 0, none⟩) m2 m2))), FactE.val (.tuple #[.agg (tenC 0 0 0 0 (.slice none 0 0)), .int .i64 (2)]), FactE.val (.tuple #[.agg (tenC 0 0 0 0 (.slice none 0 0)), .int .i64 (2)]), FactE.val (.agg (tenC 0 0 0 0 (.slice none 0 0))), FactE.val (.int .i64 (2)), FactE.own (fun b => ptr b 0), FactE.val undef]) ⟨fun a w2 fB gE hF hS hb hd => by have hM := (Par.mem (W := [4]) hS.1 rfl).keep0; exact pe_val hS rfl (g_loadAgg ty_ag_24 hF rfl (hM.row 0 rfl) (by simp only [fnC_size, cells_size, vecC_size, tabC_size, planeC_size, tenC_size, smC_size, numC_size, numI_size] <;> omega) (whole rfl)), fun a w2 fB gE hF hS hb hd => by have hF := hF.ext1 28 (hd 0 rfl rfl rfl); have hM := (Par.mem (W := [4]) hS.1 rfl).keep0; exact pe_frz hS rfl (d_call Try.call15 hF (.cons rfl .nil) (toTensor_ok p n i o sl m g _ (hs.ext hM.below) hm)), fun a w2 fB gE hF hS hb hd => by have hM := (Par.mem (W := [4]) hS.1 rfl).keep0; exact pe_val hS rfl (g_loadAgg ty_ag_24 hF rfl (hM.row 1 rfl) (by simp only [fnC_size, cells_size, vecC_size, tabC_size, planeC_size, tenC_size, smC_size, numC_size, numI_size] <;> omega) (whole rfl)), fun a w2 fB gE hF hS hb hd => by have hF := hF.ext1 30 (hd 2 rfl rfl rfl); have hM := (Par.mem (W := [4]) hS.1 rfl).keep0; exact pe_frz hS rfl (d_call Try.call15 hF (.cons rfl .nil) (toTensor_ok p2 n2 i2 o2 sl2 m2 g2 _ (hs2.ext hM.below) hm2)), fun a w2 fB gE hF hS hb hd => by obtain ⟨bq1, hbq1, hvq1⟩ := hd 1 rfl rfl rfl; have hF := hF.ext1 29 hvq1; obtain ⟨bq3, hbq3, hvq3⟩ := hd 3 rfl rfl rfl; have hF := hF.ext1 31 hvq3; have hM := (Par.mem (W := [4]) hS.1 rfl).sub [(bq1, numI m g), (bq3, numI m2 g2)] (List.forall_mem_cons.2 ⟨by exact List.mem_append_left _ hbq1, (List.forall_mem_cons.2 ⟨by exact List.mem_append_left _ hbq3, (fun _ hx => by cases hx)⟩)⟩); exact pe_call hS rfl (d_call Try.call31 hF (.cons rfl (.cons rfl .nil)) (SideTensorsSR1 p n i o p2 n2 i2 o2 bq1 bq3 m m2 g g2 _ (hM.fz 0 rfl) (hM.fz 1 rfl) (by omega) (by omega) h1 h2 hR)), fun a w2 fB gE hF hS hb hd => by have hF := hF.ext1 32 (hd 4 rfl rfl rfl); exact pe_val hS rfl (g_move hF rfl), fun a w2 fB gE hF hS hb hd => by have hF := hF.ext1 27 (hd 5 rfl rfl rfl); exact pe_val hS rfl (g_extract hF rfl rfl), fun a w2 fB gE hF hS hb hd => by have hF := hF.ext1 27 (hd 5 rfl rfl rfl); exact pe_val hS rfl (g_extract hF rfl rfl), fun a w2 fB gE hF hS hb hd => by obtain rfl := hb rfl; exact pe_own hS rfl rfl rfl (d_alloc 4 hS.1.1 ty_ze_27), fun a w2 gE hF hS hd => by have hF := hF.ext1 33 (hd 6 rfl rfl rfl); exact pe_store (ia := 8) (x := 0) hS rfl (hd 8 rfl rfl rfl) trivial (fun b hptr hM hL => by have hF := hF.ext1 6 hptr; exact d_storeAgg 4 hM hL ty_sz_27 hF rfl rfl (tenC_one rfl) (by simp only [fnC_size, cells_size, vecC_size, tabC_size, planeC_size, tenC_size, smC_size, numC_size, numI_size]) (by simp only [fnC_size, cells_size, vecC_size, tabC_size, planeC_size, tenC_size, smC_size, numC_size, numI_size] <;> omega) (splice_whole _ _ rfl)), trivial⟩ ?_
      intro a w' gE hF hS hq
      obtain ⟨L, E⟩ := gE
      have hF := hF.ext1 28 (hq 0 rfl rfl rfl)
      have hF := hF.ext1 30 (hq 2 rfl rfl rfl)
      have hF := hF.ext1 32 (hq 4 rfl rfl rfl)
      have hF := hF.ext1 27 (hq 5 rfl rfl rfl)
      have hF := hF.ext1 33 (hq 6 rfl rfl rfl)
      have hF := hF.ext1 34 (hq 7 rfl rfl rfl)
      obtain ⟨b5, cs6, hptr, hkk⟩ := hq 8 rfl rfl rfl
      obtain ⟨be7, hbe7, rfl⟩ := (hS.2 _ _ hkk).2 rfl
      have hF := hF.ext1 6 hptr
      obtain ⟨⟨hM, hL⟩, -⟩ := hS
      have hL := hL.take hkk
      obtain rfl := hL.eq
      have hM := hM.keep0
      change Mem w w' [some (b1, tenC p n i o sl), some (b2, tenC p2 n2 i2 o2 sl2), none, none, some (b5, tenC 0 0 0 0 (.slice none 0 0)), none, none, none, none, none, none, none, none, none, none] [] at hM
      change wpList Try.prog _ _ [_] _ _
      refine st hF (g_assign hF rfl) rfl fun a hF => ?_
      refine wpList_nil ?_
      refine tN ?_
      refine sq ?_
      refine wp_region_lit ?_
      refine st hF (g_loadAgg ty_ag_24 hF rfl (hM.row 0 rfl) (by simp only [fnC_size, cells_size, vecC_size, tabC_size, planeC_size, tenC_size, smC_size, numC_size, numI_size] <;> omega) (whole rfl)) rfl fun a hF => ?_
      refine stR hF (d_call Try.call15 hF (.cons rfl .nil) (toTensor_ok p n i o sl m g _ (hs.ext hM.below) hm)) rfl ?_
      rintro _ w' a ⟨hx, b8, rfl, hge, hbk⟩ hF
      have hM := hM.fill hx 5 hbk hge
      change Mem w w' [some (b1, tenC p n i o sl), some (b2, tenC p2 n2 i2 o2 sl2), none, none, some (b5, tenC 0 0 0 0 (.slice none 0 0)), some (b8, numI m g), none, none, none, none, none, none, none, none, none] [] at hM
      refine stR hF (d_alloc 6 hM ty_ze_27) rfl ?_
      rintro _ w' a ⟨b9, rfl, hM, -⟩ hF
      change Mem w w' [some (b1, tenC p n i o sl), some (b2, tenC p2 n2 i2 o2 sl2), none, none, some (b5, tenC 0 0 0 0 (.slice none 0 0)), some (b8, numI m g), some (b9, tenC 0 0 0 0 (.slice none 0 0)), none, none, none, none, none, none, none, none] [] at hM
      refine stN hF (d_storeAgg 6 hM rfl ty_sz_27 hF rfl rfl (tenC_one rfl) (by simp only [fnC_size, cells_size, vecC_size, tabC_size, planeC_size, tenC_size, smC_size, numC_size, numI_size]) (by simp only [fnC_size, cells_size, vecC_size, tabC_size, planeC_size, tenC_size, smC_size, numC_size, numI_size] <;> omega) (splice_whole _ _ rfl)) ?_
      intro _ w' a hM hF
      change Mem w w' [some (b1, tenC p n i o sl), some (b2, tenC p2 n2 i2 o2 sl2), none, none, some (b5, tenC 0 0 0 0 (.slice none 0 0)), some (b8, numI m g), some (b9, tenC p n i o (.slice (some ⟨b8, 0, none⟩) m m)), none, none, none, none, none, none, none, none] [] at hM
      refine wpList_nil ?_
      refine tN ?_
      refine sq ?_
      refine wp_region_lit ?_
      refine st hF (g_loadAgg ty_ag_24 hF rfl (hM.row 1 rfl) (by simp only [fnC_size, cells_size, vecC_size, tabC_size, planeC_size, tenC_size, smC_size, numC_size, numI_size] <;> omega) (whole rfl)) rfl fun a hF => ?_
      refine stR hF (d_call Try.call15 hF (.cons rfl .nil) (toTensor_ok p2 n2 i2 o2 sl2 m2 g2 _ (hs2.ext hM.below) hm2)) rfl ?_
      rintro _ w' a ⟨hx, b10, rfl, hge, hbk⟩ hF
      have hM := hM.fill hx 7 hbk hge
      change Mem w w' [some (b1, tenC p n i o sl), some (b2, tenC p2 n2 i2 o2 sl2), none, none, some (b5, tenC 0 0 0 0 (.slice none 0 0)), some (b8, numI m g), some (b9, tenC p n i o (.slice (some ⟨b8, 0, none⟩) m m)), some (b10, numI m2 g2), none, none, none, none, none, none, none] [] at hM
      refine stR hF (d_alloc 8 hM ty_ze_27) rfl ?_
      rintro _ w' a ⟨b11, rfl, hM, -⟩ hF
      change Mem w w' [some (b1, tenC p n i o sl), some (b2, tenC p2 n2 i2 o2 sl2), none, none, some (b5, tenC 0 0 0 0 (.slice none 0 0)), some (b8, numI m g), some (b9, tenC p n i o (.slice (some ⟨b8, 0, none⟩) m m)), some (b10, numI m2 g2), some (b11, tenC 0 0 0 0 (.slice none 0 0)), none, none, none, none, none, none] [] at hM
      refine stN hF (d_storeAgg 8 hM rfl ty_sz_27 hF rfl rfl (tenC_one rfl) (by simp only [fnC_size, cells_size, vecC_size, tabC_size, planeC_size, tenC_size, smC_size, numC_size, numI_size]) (by simp only [fnC_size, cells_size, vecC_size, tabC_size, planeC_size, tenC_size, smC_size, numC_size, numI_size] <;> omega) (splice_whole _ _ rfl)) ?_
      intro _ w' a hM hF
      change Mem w w' [some (b1, tenC p n i o sl), some (b2, tenC p2 n2 i2 o2 sl2), none, none, some (b5, tenC 0 0 0 0 (.slice none 0 0)), some (b8, numI m g), some (b9, tenC p n i o (.slice (some ⟨b8, 0, none⟩) m m)), some (b10, numI m2 g2), some (b11, tenC p2 n2 i2 o2 (.slice (some ⟨b10, 0, none⟩) m2 m2)), none, none, none, none, none, none] [] at hM
      refine wpList_nil ?_
      refine tN ?_
      refine sq ?_
      refine wp_region_lit ?_
      refine st hF (g_loadAgg ty_ag_27 hF rfl (hM.row 6 rfl) (by simp only [fnC_size, cells_size, vecC_size, tabC_size, planeC_size, tenC_size, smC_size, numC_size, numI_size] <;> omega) (whole rfl)) rfl fun a hF => st hF (g_loadAgg ty_ag_27 hF rfl (hM.row 8 rfl) (by simp only [fnC_size, cells_size, vecC_size, tabC_size, planeC_size, tenC_size, smC_size, numC_size, numI_size] <;> omega) (whole rfl)) rfl fun a hF => ?_
      refine stR hF (d_call Try.call32 hF (.cons rfl (.cons rfl .nil)) (SideTensorsIR1 p n i o p2 n2 i2 o2 b8 b10 m m2 g g2 _ (hM.row 5 rfl) (hM.row 7 rfl) (by omega) (by omega) h1 h2 hR)) rfl ?_
      rintro _ w' a ⟨hx, rfl⟩ hF
      have hM := hM.ext hx
      refine st hF (g_move hF rfl) rfl fun a hF => st hF (g_extract hF rfl rfl) rfl fun a hF => st hF (g_extract hF rfl rfl) rfl fun a hF => ?_
      refine stR hF (d_alloc 9 hM ty_ze_27) rfl ?_
      rintro _ w' a ⟨b12, rfl, hM, -⟩ hF
      change Mem w w' [some (b1, tenC p n i o sl), some (b2, tenC p2 n2 i2 o2 sl2), none, none, some (b5, tenC 0 0 0 0 (.slice none 0 0)), some (b8, numI m g), some (b9, tenC p n i o (.slice (some ⟨b8, 0, none⟩) m m)), some (b10, numI m2 g2), some (b11, tenC p2 n2 i2 o2 (.slice (some ⟨b10, 0, none⟩) m2 m2)), some (b12, tenC 0 0 0 0 (.slice none 0 0)), none, none, none, none, none] [] at hM
      refine stN hF (d_storeAgg 9 hM rfl ty_sz_27 hF rfl rfl (tenC_one rfl) (by simp only [fnC_size, cells_size, vecC_size, tabC_size, planeC_size, tenC_size, smC_size, numC_size, numI_size]) (by simp only [fnC_size, cells_size, vecC_size, tabC_size, planeC_size, tenC_size, smC_size, numC_size, numI_size] <;> omega) (splice_whole _ _ rfl)) ?_
      intro _ w' a hM hF
      change Mem w w' [some (b1, tenC p n i o sl), some (b2, tenC p2 n2 i2 o2 sl2), none, none, some (b5, tenC 0 0 0 0 (.slice none 0 0)), some (b8, numI m g), some (b9, tenC p n i o (.slice (some ⟨b8, 0, none⟩) m m)), some (b10, numI m2 g2), some (b11, tenC p2 n2 i2 o2 (.slice (some ⟨b10, 0, none⟩) m2 m2)), some (b12, tenC 0 0 0 0 (.slice none 0 0)), none, none, none, none, none] [] at hM
      refine st hF (g_assign hF rfl) rfl fun a hF => ?_
      refine wpList_nil ?_
      refine tN ?_
      refine sq ?_
      refine sq ?_
      refine wp_region_lit ?_
      refine st hF (g_loadAgg ty_ag_27 hF rfl (hM.row 9 rfl) (by simp only [fnC_size, cells_size, vecC_size, tabC_size, planeC_size, tenC_size, smC_size, numC_size, numI_size] <;> omega) (whole rfl)) rfl fun a hF => st hF (g_loadAgg ty_ag_27 hF rfl (hM.row 4 rfl) (by simp only [fnC_size, cells_size, vecC_size, tabC_size, planeC_size, tenC_size, smC_size, numC_size, numI_size] <;> omega) (whole rfl)) rfl fun a hF => ?_
      refine stR hF (d_call Try.call17 hF (.cons rfl (.cons rfl .nil)) (eqTensor_0 _)) rfl ?_
      rintro _ w' a ⟨hx, rfl⟩ hF
      have hM := hM.ext hx
      refine st hF (g_not hF rfl) rfl fun a hF => st hF (g_move hF rfl) rfl fun a hF => stY hF rfl rfl rfl (g_move hF rfl) rfl fun a hF => stY hF rfl rfl rfl (g_move hF rfl) rfl fun a hF => stY hF rfl rfl rfl (g_neq hF rfl rfl) rfl fun a hF => st hF (g_pickF hF rfl rfl) rfl fun a hF => ?_
      refine wpList_nil ?_
      refine tN ?_
      refine c_kF hF rfl (by decide) ?_
      refine wp_skip ?_
      refine tN ?_
      refine sq ?_
      refine sq ?_
      refine c_par 3 [10] [.val (.agg (tenC p n i o (.slice (some ⟨b8, 0, none⟩) m m))), .val (.agg (tenC p n i o sl)), .own 10 (numI m g) (fun b => .agg (tenC p n i o (.slice (some ⟨b, 0, none⟩) m m)))] hmix rfl hF rfl hM ⟨fun a w gG hF hS hd => by have hM := hS.mem rfl; exact par_val hS rfl (g_loadAgg ty_ag_27 hF rfl (hM.row 6 rfl) (by simp only [fnC_size, cells_size, vecC_size, tabC_size, planeC_size, tenC_size, smC_size, numC_size, numI_size] <;> omega) (whole rfl)), fun a w gG hF hS hd => by have hM := hS.mem rfl; exact par_val hS rfl (g_loadAgg ty_ag_24 hF rfl (hM.row 0 rfl) (by simp only [fnC_size, cells_size, vecC_size, tabC_size, planeC_size, tenC_size, smC_size, numC_size, numI_size] <;> omega) (whole rfl)), fun a w gG hF hS hd => by have hF := hF.ext1 55 (hd 1 rfl rfl); have hM := hS.mem rfl; exact par_own (by repeat constructor) hS rfl rfl rfl rfl (d_callOwnB 10 hS.1 (d_call Try.call15 hF (.cons rfl .nil) (toTensor_ok p n i o sl m g _ (hs.ext hM.below) hm))), trivial⟩ ?_
      intro a w' L hF hS hq
      have hF := hF.ext1 54 (hq 0 rfl rfl)
      have hF := hF.ext1 55 (hq 1 rfl rfl)
      obtain ⟨hM, hL⟩ := hS
      obtain ⟨b14, hptr, hkk⟩ := hq 2 rfl rfl
      have hF := hF.ext1 56 hptr
      have hL := hL.take hkk
      obtain rfl := hL.eq
      change Mem w w' [some (b1, tenC p n i o sl), some (b2, tenC p2 n2 i2 o2 sl2), none, none, some (b5, tenC 0 0 0 0 (.slice none 0 0)), some (b8, numI m g), some (b9, tenC p n i o (.slice (some ⟨b8, 0, none⟩) m m)), some (b10, numI m2 g2), some (b11, tenC p2 n2 i2 o2 (.slice (some ⟨b10, 0, none⟩) m2 m2)), some (b12, tenC 0 0 0 0 (.slice none 0 0)), some (b14, numI m g), none, none, none, none] [] at hM
      change wpList Try.prog _ _ [_, _] _ _
      refine stR hF (d_call Try.call17 hF (.cons rfl (.cons rfl .nil)) (eqTensor_ok p n i o b8 b14 m g g _ (hM.row 5 rfl) (hM.row 10 rfl) (by omega) (fun _ _ => rfl))) rfl ?_
      rintro _ w' a ⟨hx, rfl⟩ hF
      have hM := hM.ext hx
      refine st hF (g_not hF rfl) rfl fun a hF => ?_
      refine wpList_nil ?_
      refine tN ?_
      refine c_Fl hF rfl ?_
      refine wp_skip ?_
      refine tN ?_
      refine sq ?_
      refine sq ?_
      refine c_par 3 [11] [.val (.agg (tenC p2 n2 i2 o2 (.slice (some ⟨b10, 0, none⟩) m2 m2))), .val (.agg (tenC p2 n2 i2 o2 sl2)), .own 11 (numI m2 g2) (fun b => .agg (tenC p2 n2 i2 o2 (.slice (some ⟨b, 0, none⟩) m2 m2)))] hmix rfl hF rfl hM ⟨fun a w gG hF hS hd => by have hM := hS.mem rfl; exact par_val hS rfl (g_loadAgg ty_ag_27 hF rfl (hM.row 8 rfl) (by simp only [fnC_size, cells_size, vecC_size, tabC_size, planeC_size, tenC_size, smC_size, numC_size, numI_size] <;> omega) (whole rfl)), fun a w gG hF hS hd => by have hM := hS.mem rfl; exact par_val hS rfl (g_loadAgg ty_ag_24 hF rfl (hM.row 1 rfl) (by simp only [fnC_size, cells_size, vecC_size, tabC_size, planeC_size, tenC_size, smC_size, numC_size, numI_size] <;> omega) (whole rfl)), fun a w gG hF hS hd => by have hF := hF.ext1 60 (hd 1 rfl rfl); have hM := hS.mem rfl; exact par_own (by repeat constructor) hS rfl rfl rfl rfl (d_callOwnB 11 hS.1 (d_call Try.call15 hF (.cons rfl .nil) (toTensor_ok p2 n2 i2 o2 sl2 m2 g2 _ (hs2.ext hM.below) hm2))), trivial⟩ ?_
      intro a w' L hF hS hq
      have hF := hF.ext1 59 (hq 0 rfl rfl)
      have hF := hF.ext1 60 (hq 1 rfl rfl)
      obtain ⟨hM, hL⟩ := hS
      obtain ⟨b16, hptr, hkk⟩ := hq 2 rfl rfl
      have hF := hF.ext1 61 hptr
      have hL := hL.take hkk
      obtain rfl := hL.eq
      change Mem w w' [some (b1, tenC p n i o sl), some (b2, tenC p2 n2 i2 o2 sl2), none, none, some (b5, tenC 0 0 0 0 (.slice none 0 0)), some (b8, numI m g), some (b9, tenC p n i o (.slice (some ⟨b8, 0, none⟩) m m)), some (b10, numI m2 g2), some (b11, tenC p2 n2 i2 o2 (.slice (some ⟨b10, 0, none⟩) m2 m2)), some (b12, tenC 0 0 0 0 (.slice none 0 0)), some (b14, numI m g), some (b16, numI m2 g2), none, none, none] [] at hM
      change wpList Try.prog _ _ [_, _] _ _
      refine stR hF (d_call Try.call17 hF (.cons rfl (.cons rfl .nil)) (eqTensor_ok p2 n2 i2 o2 b10 b16 m2 g2 g2 _ (hM.row 7 rfl) (hM.row 11 rfl) (by omega) (fun _ _ => rfl))) rfl ?_
      rintro _ w' a ⟨hx, rfl⟩ hF
      have hM := hM.ext hx
      refine st hF (g_not hF rfl) rfl fun a hF => ?_
      refine wpList_nil ?_
      refine tN ?_
      refine c_Fl hF rfl ?_
      refine wp_skip ?_
      refine tN ?_
      refine sq ?_
      refine wp_region_lit ?_
      refine st hF (g_assign hF rfl) rfl fun a hF => ?_
      refine wpList_nil ?_
      refine tN ?_
      refine sq ?_
      refine wp_region_lit ?_
      refine st hF (g_loadAgg ty_ag_27 hF rfl (hM.row 6 rfl) (by simp only [fnC_size, cells_size, vecC_size, tabC_size, planeC_size, tenC_size, smC_size, numC_size, numI_size] <;> omega) (whole rfl)) rfl fun a hF => st hF (g_move hF rfl) rfl fun a hF => ?_
      refine stR hF (d_callX Try.call20 hF (.cons rfl (.cons rfl .nil)) (markTensor_ok p n i o b8 m (1) g _ (by omega) (by omega) (hM.row 5 rfl))) rfl ?_
      rintro _ w' a ⟨hx, rfl, hbk⟩ hF
      have hM := hM.upd 5 rfl hx hbk
      change Mem w w' [some (b1, tenC p n i o sl), some (b2, tenC p2 n2 i2 o2 sl2), none, none, some (b5, tenC 0 0 0 0 (.slice none 0 0)), some (b8, numC m (fun c => (1) + c)), some (b9, tenC p n i o (.slice (some ⟨b8, 0, none⟩) m m)), some (b10, numI m2 g2), some (b11, tenC p2 n2 i2 o2 (.slice (some ⟨b10, 0, none⟩) m2 m2)), some (b12, tenC 0 0 0 0 (.slice none 0 0)), some (b14, numI m g), some (b16, numI m2 g2), none, none, none] [] at hM
      refine st hF (g_assign hF rfl) rfl fun a hF => ?_
      refine wpList_nil ?_
      refine tN ?_
      refine sq ?_
      refine wp_region_lit ?_
      refine st hF (g_loadAgg ty_ag_27 hF rfl (hM.row 8 rfl) (by simp only [fnC_size, cells_size, vecC_size, tabC_size, planeC_size, tenC_size, smC_size, numC_size, numI_size] <;> omega) (whole rfl)) rfl fun a hF => st hF (g_move hF rfl) rfl fun a hF => ?_
      refine stR hF (d_callX Try.call20 hF (.cons rfl (.cons rfl .nil)) (markTensor_ok p2 n2 i2 o2 b10 m2 (1 + m) g2 _ (by omega) (by omega) (hM.row 7 rfl))) rfl ?_
      rintro _ w' a ⟨hx, rfl, hbk⟩ hF
      have hM := hM.upd 7 rfl hx hbk
      change Mem w w' [some (b1, tenC p n i o sl), some (b2, tenC p2 n2 i2 o2 sl2), none, none, some (b5, tenC 0 0 0 0 (.slice none 0 0)), some (b8, numC m (fun c => (1) + c)), some (b9, tenC p n i o (.slice (some ⟨b8, 0, none⟩) m m)), some (b10, numC m2 (fun c => (1 + m) + c)), some (b11, tenC p2 n2 i2 o2 (.slice (some ⟨b10, 0, none⟩) m2 m2)), some (b12, tenC 0 0 0 0 (.slice none 0 0)), some (b14, numI m g), some (b16, numI m2 g2), none, none, none] [] at hM
      refine st hF (g_assign hF rfl) rfl fun a hF => ?_
      refine wpList_nil ?_
      refine tN ?_
      refine sq ?_
      refine sq ?_
      refine wp_region_lit ?_
      refine st hF (g_move hF rfl) rfl fun a hF => st hF (g_lss hF rfl rfl) rfl fun a hF => st hF (g_move hF rfl) rfl fun a hF => ?_
      by_cases g18 : (((1 + m + m2 : Nat) : Int) : Int) < 0
      ·
        first | rw [decide_eq_true g18] at hF | simp only [decide_eq_true g18] at hF
        first | exact absurd rfl g18 | (exfalso; omega)
      ·
        first | rw [decide_eq_false g18] at hF | simp only [decide_eq_false g18] at hF
        refine stY hF rfl rfl rfl (g_loadAgg ty_ag_27 hF rfl (hM.row 9 rfl) (by simp only [fnC_size, cells_size, vecC_size, tabC_size, planeC_size, tenC_size, smC_size, numC_size, numI_size] <;> omega) (whole rfl)) rfl fun a hF => stY hF rfl rfl rfl (g_loadAgg ty_ag_27 hF rfl (hM.row 4 rfl) (by simp only [fnC_size, cells_size, vecC_size, tabC_size, planeC_size, tenC_size, smC_size, numC_size, numI_size] <;> omega) (whole rfl)) rfl fun a hF => ?_
        refine stYR hF rfl rfl rfl (d_call Try.call17 hF (.cons rfl (.cons rfl .nil)) (eqTensor_0 _)) rfl ?_
        rintro _ w' a ⟨hx, rfl⟩ hF
        have hM := hM.ext hx
        refine stY hF rfl rfl rfl (g_not hF rfl) rfl fun a hF => st hF (g_pickF hF rfl rfl) rfl fun a hF => st hF (g_move hF rfl) rfl fun a hF => stY hF rfl rfl rfl (g_move hF rfl) rfl fun a hF => stY hF rfl rfl rfl (g_move hF rfl) rfl fun a hF => stY hF rfl rfl rfl (g_neq hF rfl rfl) rfl fun a hF => st hF (g_pickF hF rfl rfl) rfl fun a hF => ?_
        refine wpList_nil ?_
        refine tN ?_
        refine c_kF hF rfl (by decide) ?_
        refine wp_skip ?_
        refine tN ?_
        refine sq ?_
        refine wp_region_lit ?_
        refine st hF (g_assign hF rfl) rfl fun a hF => ?_
        refine wpList_nil ?_
        refine tN ?_
        refine sq ?_
        refine wp_region_lit ?_
        refine st hF (g_loadAgg ty_ag_27 hF rfl (hM.row 9 rfl) (by simp only [fnC_size, cells_size, vecC_size, tabC_size, planeC_size, tenC_size, smC_size, numC_size, numI_size] <;> omega) (whole rfl)) rfl fun a hF => st hF (g_move hF rfl) rfl fun a hF => ?_
        refine stR hF (d_call Try.call20 hF (.cons rfl (.cons rfl .nil)) (markTensor_0 (1) _ (by omega))) rfl ?_
        rintro _ w' a ⟨hx, rfl⟩ hF
        have hM := hM.ext hx
        refine st hF (g_assign hF rfl) rfl fun a hF => ?_
        refine wpList_nil ?_
        refine tN ?_
        refine sq ?_
        refine wp_region_lit ?_
        refine st hF (g_assign hF rfl) rfl fun a hF => ?_
        refine wpList_nil ?_
        refine tN ?_
        refine sq ?_
        refine wp_region_lit ?_
        refine st hF (g_loadAgg ty_ag_27 hF rfl (hM.row 9 rfl) (by simp only [fnC_size, cells_size, vecC_size, tabC_size, planeC_size, tenC_size, smC_size, numC_size, numI_size] <;> omega) (whole rfl)) rfl fun a hF => st hF (g_move hF rfl) rfl fun a hF => ?_
        refine stR hF (d_call Try.call21 hF (.cons rfl (.cons rfl .nil)) (heldTensor_0 (1) _ (by omega))) rfl ?_
        rintro _ w' a ⟨hx, rfl⟩ hF
        have hM := hM.ext hx
        refine st hF (g_assign hF rfl) rfl fun a hF => ?_
        refine wpList_nil ?_
        refine tN ?_
        refine sq ?_
        refine sq ?_
        refine wp_region_lit ?_
        refine st hF (g_move hF rfl) rfl fun a hF => st hF (g_lss hF rfl rfl) rfl fun a hF => ?_
        refine wpList_nil ?_
        refine tN ?_
        refine c_cond hF rfl (fun h20 => ?_) (fun h20 => ?_)
        ·
          first | exact absurd rfl h20 | (exfalso; omega)
        ·
          refine wp_skip ?_
          refine tN ?_
          refine sq ?_
          refine sq ?_
          refine wp_region_lit ?_
          refine st hF (g_move hF rfl) rfl fun a hF => st hF (g_move hF rfl) rfl fun a hF => st hF (g_neq hF rfl rfl) rfl fun a hF => ?_
          refine wpList_nil ?_
          refine tN ?_
          refine c_kF hF rfl (by decide) ?_
          refine wp_skip ?_
          refine tN ?_
          refine sq ?_
          refine c_drawG (S := ParE [] w [] [some (b1, tenC p n i o sl), some (b2, tenC p2 n2 i2 o2 sl2), none, none, some (b5, tenC 0 0 0 0 (.slice none 0 0)), some (b8, numC m (fun c => (1) + c)), some (b9, tenC p n i o (.slice (some ⟨b8, 0, none⟩) m m)), some (b10, numC m2 (fun c => (1 + m) + c)), some (b11, tenC p2 n2 i2 o2 (.slice (some ⟨b10, 0, none⟩) m2 m2)), some (b12, tenC 0 0 0 0 (.slice none 0 0)), some (b14, numI m g), some (b16, numI m2 g2), none, none, none] 14 (tenC 0 0 0 0 (.slice none 0 0)) (none) (fun _ => tenC 0 0 0 0 (.slice none 0 0))) 10 9 hmix rfl rfl rfl hF rfl (fun j o hj hne => dstAll_spec (s := 9) (i := 0) rfl j o hj (by omega)) ([some (b1, tenC p n i o sl), some (b2, tenC p2 n2 i2 o2 sl2), none, none, some (b5, tenC 0 0 0 0 (.slice none 0 0)), some (b8, numC m (fun c => (1) + c)), some (b9, tenC p n i o (.slice (some ⟨b8, 0, none⟩) m m)), some (b10, numC m2 (fun c => (1 + m) + c)), some (b11, tenC p2 n2 i2 o2 (.slice (some ⟨b10, 0, none⟩) m2 m2)), some (b12, tenC 0 0 0 0 (.slice none 0 0)), some (b14, numI m g), some (b16, numI m2 g2), none, none, none], []) ⟨⟨hM, Same.refl _ _⟩, fun b cs h => by simp at h⟩ (fun b g w h => ⟨⟨h.1.1.ext (Below.drew (Below.refl _ _)), h.1.2⟩, h.2⟩) (factsE 14 [FactE.val (.agg (tenC p n i o sl)), FactE.frz (numI m g) (fun bq => .agg (tenC p n i o (.slice (some ⟨bq, 0, none⟩) m m))), FactE.val (.agg (tenC p2 n2 i2 o2 sl2)), FactE.frz (numI m2 g2) (fun bq => .agg (tenC p2 n2 i2 o2 (.slice (some ⟨bq, 0, none⟩) m2 m2))), FactE.val (.tuple #[.agg (tenC 0 0 0 0 (.slice none 0 0)), .int .i64 (2)]), FactE.val (.tuple #[.agg (tenC 0 0 0 0 (.slice none 0 0)), .int .i64 (2)]), FactE.val (.agg (tenC 0 0 0 0 (.slice none 0 0))), FactE.val (.int .i64 (2)), FactE.own (fun b => ptr b 0), FactE.val undef]) ⟨fun a w2 fB gE hF hS hb hd => by have hM := (Par.mem (W := [14]) hS.1 rfl).keep0; exact pe_val hS rfl (g_loadAgg ty_ag_24 hF rfl (hM.row 0 rfl) (by simp only [fnC_size, cells_size, vecC_size, tabC_size, planeC_size, tenC_size, smC_size, numC_size, numI_size] <;> omega) (whole rfl)), fun a w2 fB gE hF hS hb hd => by have hF := hF.ext1 95 (hd 0 rfl rfl rfl); have hM := (Par.mem (W := [14]) hS.1 rfl).keep0; exact pe_frz hS rfl (d_call Try.call15 hF (.cons rfl .nil) (toTensor_ok p n i o sl m g _ (hs.ext hM.below) hm)), fun a w2 fB gE hF hS hb hd => by have hM := (Par.mem (W := [14]) hS.1 rfl).keep0; exact pe_val hS rfl (g_loadAgg ty_ag_24 hF rfl (hM.row 1 rfl) (by simp only [fnC_size, cells_size, vecC_size, tabC_size, planeC_size, tenC_size, smC_size, numC_size, numI_size] <;> omega) (whole rfl)), fun a w2 fB gE hF hS hb hd => by have hF := hF.ext1 97 (hd 2 rfl rfl rfl); have hM := (Par.mem (W := [14]) hS.1 rfl).keep0; exact pe_frz hS rfl (d_call Try.call15 hF (.cons rfl .nil) (toTensor_ok p2 n2 i2 o2 sl2 m2 g2 _ (hs2.ext hM.below) hm2)), fun a w2 fB gE hF hS hb hd => by obtain ⟨bq1, hbq1, hvq1⟩ := hd 1 rfl rfl rfl; have hF := hF.ext1 96 hvq1; obtain ⟨bq3, hbq3, hvq3⟩ := hd 3 rfl rfl rfl; have hF := hF.ext1 98 hvq3; have hM := (Par.mem (W := [14]) hS.1 rfl).sub [(bq1, numI m g), (bq3, numI m2 g2)] (List.forall_mem_cons.2 ⟨by exact List.mem_append_left _ hbq1, (List.forall_mem_cons.2 ⟨by exact List.mem_append_left _ hbq3, (fun _ hx => by cases hx)⟩)⟩); exact pe_call hS rfl (d_call Try.call32 hF (.cons rfl (.cons rfl .nil)) (SideTensorsIR1 p n i o p2 n2 i2 o2 bq1 bq3 m m2 g g2 _ (hM.fz 0 rfl) (hM.fz 1 rfl) (by omega) (by omega) h1 h2 hR)), fun a w2 fB gE hF hS hb hd => by have hF := hF.ext1 99 (hd 4 rfl rfl rfl); exact pe_val hS rfl (g_move hF rfl), fun a w2 fB gE hF hS hb hd => by have hF := hF.ext1 94 (hd 5 rfl rfl rfl); exact pe_val hS rfl (g_extract hF rfl rfl), fun a w2 fB gE hF hS hb hd => by have hF := hF.ext1 94 (hd 5 rfl rfl rfl); exact pe_val hS rfl (g_extract hF rfl rfl), fun a w2 fB gE hF hS hb hd => by obtain rfl := hb rfl; exact pe_own hS rfl rfl rfl (d_alloc 14 hS.1.1 ty_ze_27), fun a w2 gE hF hS hd => by have hF := hF.ext1 100 (hd 6 rfl rfl rfl); exact pe_store (ia := 8) (x := 0) hS rfl (hd 8 rfl rfl rfl) trivial (fun b hptr hM hL => by have hF := hF.ext1 15 hptr; exact d_storeAgg 14 hM hL ty_sz_27 hF rfl rfl (tenC_one rfl) (by simp only [fnC_size, cells_size, vecC_size, tabC_size, planeC_size, tenC_size, smC_size, numC_size, numI_size]) (by simp only [fnC_size, cells_size, vecC_size, tabC_size, planeC_size, tenC_size, smC_size, numC_size, numI_size] <;> omega) (splice_whole _ _ rfl)), trivial⟩ ?_
          intro a w' gE hF hS hq
          obtain ⟨L, E⟩ := gE
          have hF := hF.ext1 95 (hq 0 rfl rfl rfl)
          have hF := hF.ext1 97 (hq 2 rfl rfl rfl)
          have hF := hF.ext1 99 (hq 4 rfl rfl rfl)
          have hF := hF.ext1 94 (hq 5 rfl rfl rfl)
          have hF := hF.ext1 100 (hq 6 rfl rfl rfl)
          have hF := hF.ext1 101 (hq 7 rfl rfl rfl)
          obtain ⟨b22, cs23, hptr, hkk⟩ := hq 8 rfl rfl rfl
          obtain ⟨be24, hbe24, rfl⟩ := (hS.2 _ _ hkk).2 rfl
          have hF := hF.ext1 15 hptr
          obtain ⟨⟨hM, hL⟩, -⟩ := hS
          have hL := hL.take hkk
          obtain rfl := hL.eq
          have hM := hM.keep0
          change Mem w w' [some (b1, tenC p n i o sl), some (b2, tenC p2 n2 i2 o2 sl2), none, none, some (b5, tenC 0 0 0 0 (.slice none 0 0)), some (b8, numC m (fun c => (1) + c)), some (b9, tenC p n i o (.slice (some ⟨b8, 0, none⟩) m m)), some (b10, numC m2 (fun c => (1 + m) + c)), some (b11, tenC p2 n2 i2 o2 (.slice (some ⟨b10, 0, none⟩) m2 m2)), some (b12, tenC 0 0 0 0 (.slice none 0 0)), some (b14, numI m g), some (b16, numI m2 g2), none, none, some (b22, tenC 0 0 0 0 (.slice none 0 0))] [] at hM
          change wpList Try.prog _ _ [_] _ _
          refine st hF (g_assign hF rfl) rfl fun a hF => ?_
          refine wpList_nil ?_
          refine tN ?_
          refine sq ?_
          refine sq ?_
          refine wp_region_lit ?_
          refine st hF (g_loadAgg ty_ag_27 hF rfl (hM.row 14 rfl) (by simp only [fnC_size, cells_size, vecC_size, tabC_size, planeC_size, tenC_size, smC_size, numC_size, numI_size] <;> omega) (whole rfl)) rfl fun a hF => st hF (g_loadAgg ty_ag_27 hF rfl (hM.row 4 rfl) (by simp only [fnC_size, cells_size, vecC_size, tabC_size, planeC_size, tenC_size, smC_size, numC_size, numI_size] <;> omega) (whole rfl)) rfl fun a hF => ?_
          refine stR hF (d_call Try.call17 hF (.cons rfl (.cons rfl .nil)) (eqTensor_0 _)) rfl ?_
          rintro _ w' a ⟨hx, rfl⟩ hF
          have hM := hM.ext hx
          refine st hF (g_not hF rfl) rfl fun a hF => st hF (g_move hF rfl) rfl fun a hF => stY hF rfl rfl rfl (g_move hF rfl) rfl fun a hF => stY hF rfl rfl rfl (g_move hF rfl) rfl fun a hF => stY hF rfl rfl rfl (g_neq hF rfl rfl) rfl fun a hF => st hF (g_pickF hF rfl rfl) rfl fun a hF => ?_
          refine wpList_nil ?_
          refine tN ?_
          refine c_kF hF rfl (by decide) ?_
          refine wp_skip ?_
          refine tN ?_
          refine sq ?_
          refine wp_region_lit ?_
          refine st hF (g_assign hF rfl) rfl fun a hF => ?_
          refine wpList_nil ?_
          refine tN ?_
          refine sq ?_
          refine wp_region_lit ?_
          refine st hF (g_loadAgg ty_ag_27 hF rfl (hM.row 9 rfl) (by simp only [fnC_size, cells_size, vecC_size, tabC_size, planeC_size, tenC_size, smC_size, numC_size, numI_size] <;> omega) (whole rfl)) rfl fun a hF => st hF (g_move hF rfl) rfl fun a hF => ?_
          refine stR hF (d_call Try.call21 hF (.cons rfl (.cons rfl .nil)) (heldTensor_0 (1) _ (by omega))) rfl ?_
          rintro _ w' a ⟨hx, rfl⟩ hF
          have hM := hM.ext hx
          refine st hF (g_assign hF rfl) rfl fun a hF => ?_
          refine wpList_nil ?_
          refine tN ?_
          refine sq ?_
          refine sq ?_
          refine wp_region_lit ?_
          refine st hF (g_move hF rfl) rfl fun a hF => st hF (g_lss hF rfl rfl) rfl fun a hF => ?_
          refine wpList_nil ?_
          refine tN ?_
          refine c_kF hF rfl h20 ?_
          refine wp_skip ?_
          refine tN ?_
          refine sq ?_
          refine sq ?_
          refine wp_region_lit ?_
          refine st hF (g_move hF rfl) rfl fun a hF => st hF (g_move hF rfl) rfl fun a hF => st hF (g_neq hF rfl rfl) rfl fun a hF => ?_
          refine wpList_nil ?_
          refine tN ?_
          refine c_kF hF rfl (by decide) ?_
          refine wp_skip ?_
          refine tN ?_
          refine sq ?_
          refine wp_region_lit ?_
          refine st hF (g_assign hF rfl) rfl fun a hF => ?_
          refine wpList_nil ?_
          refine tN ?_
          refine wp_ret ?_
          refine fin1 rfl hF.defers (res_tmp hF rfl) ⟨_, rfl, hM.below, ?_⟩
          show _ = _
          rfl

theorem law_SideTensorsB (p n i o r s : Nat) (sl sl2 : Value) (f h : Nat → Nat) (w : World) (hpP : primeP (p : Int)) (hn0 : 0 < n) (hn : n ≤ 6) (hwa : wl n i o) (hwb : wl n r s) (hw : wl n (i + r) (o + s)) (hfp : ∀ c, f c < p) (hhp : ∀ c, h c < p) (hs : ArgSl w sl (n ^ (i + o)) (fun c => ((f c : Nat) : Int))) (hs2 : ArgSl w sl2 (n ^ (r + s)) (fun c => ((h c : Nat) : Int))) :
    CallsR Try.prog 9 #[.agg (tenC (p : Int) (n : Int) (i : Int) (o : Int) sl), .agg (tenC (p : Int) (n : Int) (r : Int) (s : Int) sl2)] w (fun res _ => res = .bool true) := by
  refine calls_fr [.agg (tenC (p : Int) (n : Int) (i : Int) (o : Int) sl), .agg (tenC (p : Int) (n : Int) (r : Int) (s : Int) sl2)] Try.func9 rfl Try.ntmps9 rfl fun a hF => ?_
  have hM : Mem w w [none, none, none, none, none, none, none, none, none, none, none, none, none, none, none, none, none, none] [] := MemX.start w 18
  change Fr 119 a [(0, .agg (tenC (p : Int) (n : Int) (i : Int) (o : Int) sl)), (1, .agg (tenC (p : Int) (n : Int) (r : Int) (s : Int) sl2))] at hF
  have hso := hs.one
  have hso2 := hs2.one
  have hwa3 := hwa.2.2
  have hwb3 := hwb.2.2
  have hw3 := hw.2.2
  refine sq ?_
  refine wp_region_lit ?_
  refine stR hF (d_box 0 hM hF rfl) rfl ?_
  rintro _ w' a ⟨b1, rfl, hM, -⟩ hF
  change Mem w w' [some (b1, tenC (p : Int) (n : Int) (i : Int) (o : Int) sl), none, none, none, none, none, none, none, none, none, none, none, none, none, none, none, none, none] [] at hM
  refine stR hF (d_box 1 hM hF rfl) rfl ?_
  rintro _ w' a ⟨b2, rfl, hM, -⟩ hF
  change Mem w w' [some (b1, tenC (p : Int) (n : Int) (i : Int) (o : Int) sl), some (b2, tenC (p : Int) (n : Int) (r : Int) (s : Int) sl2), none, none, none, none, none, none, none, none, none, none, none, none, none, none, none, none] [] at hM
  refine st hF (g_assign hF rfl) rfl fun a hF => ?_
  refine wpList_nil ?_
  refine tN ?_
  refine sq ?_
  refine wp_region_lit ?_
  refine st hF (g_assign hF rfl) rfl fun a hF => ?_
  refine wpList_nil ?_
  refine tN ?_
  refine sq ?_
  refine wp_region_lit ?_
  refine st hF (g_loadAgg ty_ag_24 hF rfl (hM.row 0 rfl) (by simp only [fnC_size, cells_size, vecC_size, tabC_size, planeC_size, tenC_size, smC_size, numC_size, numI_size] <;> omega) (whole rfl)) rfl fun a hF => st hF (g_move hF rfl) rfl fun a hF => ?_
  refine stR hF (d_call Try.call13 hF (.cons rfl (.cons rfl .nil)) (szTensor_ok (p : Int) (n : Int) (i : Int) (o : Int) sl (n ^ (i + o)) (1048576) (fun c => ((f c : Nat) : Int)) _ (hs.ext hM.below) (by omega) (by omega))) rfl ?_
  rintro _ w' a ⟨hx, rfl⟩ hF
  have hM := hM.ext hx
  refine st hF (g_assign hF rfl) rfl fun a hF => ?_
  refine wpList_nil ?_
  refine tN ?_
  refine sq ?_
  refine sq ?_
  refine wp_region_lit ?_
  refine st hF (g_move hF rfl) rfl fun a hF => st hF (g_lss hF rfl rfl) rfl fun a hF => ?_
  refine wpList_nil ?_
  refine tN ?_
  refine c_cond hF rfl (fun h3 => ?_) (fun h3 => ?_)
  ·
    first | exact absurd rfl h3 | (exfalso; omega)
  ·
    refine wp_skip ?_
    refine tN ?_
    refine sq ?_
    refine wp_region_lit ?_
    refine st hF (g_loadAgg ty_ag_24 hF rfl (hM.row 1 rfl) (by simp only [fnC_size, cells_size, vecC_size, tabC_size, planeC_size, tenC_size, smC_size, numC_size, numI_size] <;> omega) (whole rfl)) rfl fun a hF => st hF (g_move hF rfl) rfl fun a hF => ?_
    refine stR hF (d_call Try.call13 hF (.cons rfl (.cons rfl .nil)) (szTensor_ok (p : Int) (n : Int) (r : Int) (s : Int) sl2 (n ^ (r + s)) (1048576 - (n ^ (i + o))) (fun c => ((h c : Nat) : Int)) _ (hs2.ext hM.below) (by omega) (by omega))) rfl ?_
    rintro _ w' a ⟨hx, rfl⟩ hF
    have hM := hM.ext hx
    refine st hF (g_assign hF rfl) rfl fun a hF => ?_
    refine wpList_nil ?_
    refine tN ?_
    refine sq ?_
    refine sq ?_
    refine wp_region_lit ?_
    refine st hF (g_move hF rfl) rfl fun a hF => st hF (g_lss hF rfl rfl) rfl fun a hF => ?_
    refine wpList_nil ?_
    refine tN ?_
    refine c_cond hF rfl (fun h4 => ?_) (fun h4 => ?_)
    ·
      first | exact absurd rfl h4 | (exfalso; omega)
    ·
      refine wp_skip ?_
      refine tN ?_
      refine sq ?_
      refine c_drawG (S := ParE [] w [] [some (b1, tenC (p : Int) (n : Int) (i : Int) (o : Int) sl), some (b2, tenC (p : Int) (n : Int) (r : Int) (s : Int) sl2), none, none, none, none, none, none, none, none, none, none, none, none, none, none, none, none] 5 (tenC 0 0 0 0 (.slice none 0 0)) (some (numC (n ^ ((i + r) + (o + s))) (sdF p (n ^ o) (n ^ r) (n ^ s) (n ^ (o + s)) f h))) (fun bq6 => tenC (p : Int) (n : Int) ((i + r : Nat) : Int) ((o + s : Nat) : Int) (.slice (some ⟨bq6, 0, none⟩) (n ^ ((i + r) + (o + s))) (n ^ ((i + r) + (o + s)))))) 10 9 hmix rfl rfl rfl hF rfl (fun j o hj hne => dstAll_spec (s := 9) (i := 0) rfl j o hj (by omega)) ([some (b1, tenC (p : Int) (n : Int) (i : Int) (o : Int) sl), some (b2, tenC (p : Int) (n : Int) (r : Int) (s : Int) sl2), none, none, none, none, none, none, none, none, none, none, none, none, none, none, none, none], []) ⟨⟨hM, Same.refl _ _⟩, fun b cs h => by simp at h⟩ (fun b g w h => ⟨⟨h.1.1.ext (Below.drew (Below.refl _ _)), h.1.2⟩, h.2⟩) (factsE 5 [FactE.val (.agg (tenC (p : Int) (n : Int) (i : Int) (o : Int) sl)), FactE.frz (numC (n ^ (i + o)) f) (fun bq => .agg (tenC (p : Int) (n : Int) (i : Int) (o : Int) (.slice (some ⟨bq, 0, none⟩) (n ^ (i + o)) (n ^ (i + o))))), FactE.val (.agg (tenC (p : Int) (n : Int) (r : Int) (s : Int) sl2)), FactE.frz (numC (n ^ (r + s)) h) (fun bq => .agg (tenC (p : Int) (n : Int) (r : Int) (s : Int) (.slice (some ⟨bq, 0, none⟩) (n ^ (r + s)) (n ^ (r + s))))), FactE.frz (numC (n ^ ((i + r) + (o + s))) (sdF p (n ^ o) (n ^ r) (n ^ s) (n ^ (o + s)) f h)) (fun bq => .tuple #[.agg (tenC (p : Int) (n : Int) ((i + r : Nat) : Int) ((o + s : Nat) : Int) (.slice (some ⟨bq, 0, none⟩) (n ^ ((i + r) + (o + s))) (n ^ ((i + r) + (o + s))))), .int .i64 (0)]), FactE.frz (numC (n ^ ((i + r) + (o + s))) (sdF p (n ^ o) (n ^ r) (n ^ s) (n ^ (o + s)) f h)) (fun bq4 => .tuple #[.agg (tenC (p : Int) (n : Int) ((i + r : Nat) : Int) ((o + s : Nat) : Int) (.slice (some ⟨bq4, 0, none⟩) (n ^ ((i + r) + (o + s))) (n ^ ((i + r) + (o + s))))), .int .i64 (0)]), FactE.frz (numC (n ^ ((i + r) + (o + s))) (sdF p (n ^ o) (n ^ r) (n ^ s) (n ^ (o + s)) f h)) (fun bq5 => .agg (tenC (p : Int) (n : Int) ((i + r : Nat) : Int) ((o + s : Nat) : Int) (.slice (some ⟨bq5, 0, none⟩) (n ^ ((i + r) + (o + s))) (n ^ ((i + r) + (o + s)))))), FactE.val (.int .i64 (0)), FactE.own (fun b => ptr b 0), FactE.val undef]) ⟨fun a w2 fB gE hF hS hb hd => by have hM := (Par.mem (W := [5]) hS.1 rfl).keep0; exact pe_val hS rfl (g_loadAgg ty_ag_24 hF rfl (hM.row 0 rfl) (by simp only [fnC_size, cells_size, vecC_size, tabC_size, planeC_size, tenC_size, smC_size, numC_size, numI_size] <;> omega) (whole rfl)), fun a w2 fB gE hF hS hb hd => by have hF := hF.ext1 28 (hd 0 rfl rfl rfl); have hM := (Par.mem (W := [5]) hS.1 rfl).keep0; exact pe_frz hS rfl (d_call Try.call15 hF (.cons rfl .nil) (toTensor_ok (p : Int) (n : Int) (i : Int) (o : Int) sl (n ^ (i + o)) (fun c => ((f c : Nat) : Int)) _ (hs.ext hM.below) (by omega))), fun a w2 fB gE hF hS hb hd => by have hM := (Par.mem (W := [5]) hS.1 rfl).keep0; exact pe_val hS rfl (g_loadAgg ty_ag_24 hF rfl (hM.row 1 rfl) (by simp only [fnC_size, cells_size, vecC_size, tabC_size, planeC_size, tenC_size, smC_size, numC_size, numI_size] <;> omega) (whole rfl)), fun a w2 fB gE hF hS hb hd => by have hF := hF.ext1 30 (hd 2 rfl rfl rfl); have hM := (Par.mem (W := [5]) hS.1 rfl).keep0; exact pe_frz hS rfl (d_call Try.call15 hF (.cons rfl .nil) (toTensor_ok (p : Int) (n : Int) (r : Int) (s : Int) sl2 (n ^ (r + s)) (fun c => ((h c : Nat) : Int)) _ (hs2.ext hM.below) (by omega))), fun a w2 fB gE hF hS hb hd => by obtain ⟨bq1, hbq1, hvq1⟩ := hd 1 rfl rfl rfl; have hF := hF.ext1 29 hvq1; obtain ⟨bq3, hbq3, hvq3⟩ := hd 3 rfl rfl rfl; have hF := hF.ext1 31 hvq3; have hM := (Par.mem (W := [5]) hS.1 rfl).sub [(bq1, numC (n ^ (i + o)) f), (bq3, numC (n ^ (r + s)) h)] (List.forall_mem_cons.2 ⟨by exact List.mem_append_left _ hbq1, (List.forall_mem_cons.2 ⟨by exact List.mem_append_left _ hbq3, (fun _ hx => by cases hx)⟩)⟩); exact pe_frz hS rfl (d_call Try.call31 hF (.cons rfl (.cons rfl .nil)) (SideTensorsSB p n i o r s bq1 bq3 f h _ hpP hn0 hn hwa hwb hw hfp hhp (hM.fz 0 rfl) (hM.fz 1 rfl))), fun a w2 fB gE hF hS hb hd => by obtain ⟨bq4, hbq4, hvq4⟩ := hd 4 rfl rfl rfl; have hF := hF.ext1 32 hvq4; exact pe_frzv hS rfl hbq4 (g_move hF rfl), fun a w2 fB gE hF hS hb hd => by obtain ⟨bq5, hbq5, hvq5⟩ := hd 5 rfl rfl rfl; have hF := hF.ext1 27 hvq5; exact pe_frzv hS rfl hbq5 (g_extract hF rfl rfl), fun a w2 fB gE hF hS hb hd => by obtain ⟨bq5, hbq5, hvq5⟩ := hd 5 rfl rfl rfl; have hF := hF.ext1 27 hvq5; exact pe_val hS rfl (g_extract hF rfl rfl), fun a w2 fB gE hF hS hb hd => by obtain rfl := hb rfl; exact pe_own hS rfl rfl rfl (d_alloc 5 hS.1.1 ty_ze_27), fun a w2 gE hF hS hd => by obtain ⟨bq6, hbq6, hvq6⟩ := hd 6 rfl rfl rfl; have hF := hF.ext1 33 hvq6; exact pe_store (ia := 8) (x := bq6) hS rfl (hd 8 rfl rfl rfl) hbq6 (fun b hptr hM hL => by have hF := hF.ext1 6 hptr; exact d_storeAgg 5 hM hL ty_sz_27 hF rfl rfl (tenC_one rfl) (by simp only [fnC_size, cells_size, vecC_size, tabC_size, planeC_size, tenC_size, smC_size, numC_size, numI_size]) (by simp only [fnC_size, cells_size, vecC_size, tabC_size, planeC_size, tenC_size, smC_size, numC_size, numI_size] <;> omega) (splice_whole _ _ rfl)), trivial⟩ ?_
      intro a w' gE hF hS hq
      obtain ⟨L, E⟩ := gE
      have hF := hF.ext1 28 (hq 0 rfl rfl rfl)
      have hF := hF.ext1 30 (hq 2 rfl rfl rfl)
      have hF := hF.ext1 34 (hq 7 rfl rfl rfl)
      obtain ⟨b5, cs6, hptr, hkk⟩ := hq 8 rfl rfl rfl
      obtain ⟨be7, hbe7, rfl⟩ := (hS.2 _ _ hkk).2 rfl
      have hF := hF.ext1 6 hptr
      obtain ⟨⟨hM, hL⟩, -⟩ := hS
      have hL := hL.take hkk
      obtain rfl := hL.eq
      have hM := hM.keepE hbe7
      change Mem w w' [some (b1, tenC (p : Int) (n : Int) (i : Int) (o : Int) sl), some (b2, tenC (p : Int) (n : Int) (r : Int) (s : Int) sl2), none, none, none, some (b5, tenC (p : Int) (n : Int) ((i + r : Nat) : Int) ((o + s : Nat) : Int) (.slice (some ⟨be7, 0, none⟩) (n ^ ((i + r) + (o + s))) (n ^ ((i + r) + (o + s))))), none, none, none, none, none, none, none, none, none, none, none, none] [(be7, numC (n ^ ((i + r) + (o + s))) (sdF p (n ^ o) (n ^ r) (n ^ s) (n ^ (o + s)) f h))] at hM
      change wpList Try.prog _ _ [_] _ _
      refine st hF (g_assign hF rfl) rfl fun a hF => ?_
      refine wpList_nil ?_
      refine tN ?_
      refine sq ?_
      refine wp_region_lit ?_
      refine st hF (g_loadAgg ty_ag_24 hF rfl (hM.row 0 rfl) (by simp only [fnC_size, cells_size, vecC_size, tabC_size, planeC_size, tenC_size, smC_size, numC_size, numI_size] <;> omega) (whole rfl)) rfl fun a hF => ?_
      refine stR hF (d_call Try.call15 hF (.cons rfl .nil) (toTensor_ok (p : Int) (n : Int) (i : Int) (o : Int) sl (n ^ (i + o)) (fun c => ((f c : Nat) : Int)) _ (hs.ext hM.below) (by omega))) rfl ?_
      rintro _ w' a ⟨hx, b8, rfl, hge, hbk⟩ hF
      have hM := hM.fill hx 6 hbk hge
      change Mem w w' [some (b1, tenC (p : Int) (n : Int) (i : Int) (o : Int) sl), some (b2, tenC (p : Int) (n : Int) (r : Int) (s : Int) sl2), none, none, none, some (b5, tenC (p : Int) (n : Int) ((i + r : Nat) : Int) ((o + s : Nat) : Int) (.slice (some ⟨be7, 0, none⟩) (n ^ ((i + r) + (o + s))) (n ^ ((i + r) + (o + s))))), some (b8, numC (n ^ (i + o)) f), none, none, none, none, none, none, none, none, none, none, none] [(be7, numC (n ^ ((i + r) + (o + s))) (sdF p (n ^ o) (n ^ r) (n ^ s) (n ^ (o + s)) f h))] at hM
      refine stR hF (d_alloc 7 hM ty_ze_27) rfl ?_
      rintro _ w' a ⟨b9, rfl, hM, -⟩ hF
      change Mem w w' [some (b1, tenC (p : Int) (n : Int) (i : Int) (o : Int) sl), some (b2, tenC (p : Int) (n : Int) (r : Int) (s : Int) sl2), none, none, none, some (b5, tenC (p : Int) (n : Int) ((i + r : Nat) : Int) ((o + s : Nat) : Int) (.slice (some ⟨be7, 0, none⟩) (n ^ ((i + r) + (o + s))) (n ^ ((i + r) + (o + s))))), some (b8, numC (n ^ (i + o)) f), some (b9, tenC 0 0 0 0 (.slice none 0 0)), none, none, none, none, none, none, none, none, none, none] [(be7, numC (n ^ ((i + r) + (o + s))) (sdF p (n ^ o) (n ^ r) (n ^ s) (n ^ (o + s)) f h))] at hM
      refine stN hF (d_storeAgg 7 hM rfl ty_sz_27 hF rfl rfl (tenC_one rfl) (by simp only [fnC_size, cells_size, vecC_size, tabC_size, planeC_size, tenC_size, smC_size, numC_size, numI_size]) (by simp only [fnC_size, cells_size, vecC_size, tabC_size, planeC_size, tenC_size, smC_size, numC_size, numI_size] <;> omega) (splice_whole _ _ rfl)) ?_
      intro _ w' a hM hF
      change Mem w w' [some (b1, tenC (p : Int) (n : Int) (i : Int) (o : Int) sl), some (b2, tenC (p : Int) (n : Int) (r : Int) (s : Int) sl2), none, none, none, some (b5, tenC (p : Int) (n : Int) ((i + r : Nat) : Int) ((o + s : Nat) : Int) (.slice (some ⟨be7, 0, none⟩) (n ^ ((i + r) + (o + s))) (n ^ ((i + r) + (o + s))))), some (b8, numC (n ^ (i + o)) f), some (b9, tenC (p : Int) (n : Int) (i : Int) (o : Int) (.slice (some ⟨b8, 0, none⟩) (n ^ (i + o)) (n ^ (i + o)))), none, none, none, none, none, none, none, none, none, none] [(be7, numC (n ^ ((i + r) + (o + s))) (sdF p (n ^ o) (n ^ r) (n ^ s) (n ^ (o + s)) f h))] at hM
      refine wpList_nil ?_
      refine tN ?_
      refine sq ?_
      refine wp_region_lit ?_
      refine st hF (g_loadAgg ty_ag_24 hF rfl (hM.row 1 rfl) (by simp only [fnC_size, cells_size, vecC_size, tabC_size, planeC_size, tenC_size, smC_size, numC_size, numI_size] <;> omega) (whole rfl)) rfl fun a hF => ?_
      refine stR hF (d_call Try.call15 hF (.cons rfl .nil) (toTensor_ok (p : Int) (n : Int) (r : Int) (s : Int) sl2 (n ^ (r + s)) (fun c => ((h c : Nat) : Int)) _ (hs2.ext hM.below) (by omega))) rfl ?_
      rintro _ w' a ⟨hx, b10, rfl, hge, hbk⟩ hF
      have hM := hM.fill hx 8 hbk hge
      change Mem w w' [some (b1, tenC (p : Int) (n : Int) (i : Int) (o : Int) sl), some (b2, tenC (p : Int) (n : Int) (r : Int) (s : Int) sl2), none, none, none, some (b5, tenC (p : Int) (n : Int) ((i + r : Nat) : Int) ((o + s : Nat) : Int) (.slice (some ⟨be7, 0, none⟩) (n ^ ((i + r) + (o + s))) (n ^ ((i + r) + (o + s))))), some (b8, numC (n ^ (i + o)) f), some (b9, tenC (p : Int) (n : Int) (i : Int) (o : Int) (.slice (some ⟨b8, 0, none⟩) (n ^ (i + o)) (n ^ (i + o)))), some (b10, numC (n ^ (r + s)) h), none, none, none, none, none, none, none, none, none] [(be7, numC (n ^ ((i + r) + (o + s))) (sdF p (n ^ o) (n ^ r) (n ^ s) (n ^ (o + s)) f h))] at hM
      refine stR hF (d_alloc 9 hM ty_ze_27) rfl ?_
      rintro _ w' a ⟨b11, rfl, hM, -⟩ hF
      change Mem w w' [some (b1, tenC (p : Int) (n : Int) (i : Int) (o : Int) sl), some (b2, tenC (p : Int) (n : Int) (r : Int) (s : Int) sl2), none, none, none, some (b5, tenC (p : Int) (n : Int) ((i + r : Nat) : Int) ((o + s : Nat) : Int) (.slice (some ⟨be7, 0, none⟩) (n ^ ((i + r) + (o + s))) (n ^ ((i + r) + (o + s))))), some (b8, numC (n ^ (i + o)) f), some (b9, tenC (p : Int) (n : Int) (i : Int) (o : Int) (.slice (some ⟨b8, 0, none⟩) (n ^ (i + o)) (n ^ (i + o)))), some (b10, numC (n ^ (r + s)) h), some (b11, tenC 0 0 0 0 (.slice none 0 0)), none, none, none, none, none, none, none, none] [(be7, numC (n ^ ((i + r) + (o + s))) (sdF p (n ^ o) (n ^ r) (n ^ s) (n ^ (o + s)) f h))] at hM
      refine stN hF (d_storeAgg 9 hM rfl ty_sz_27 hF rfl rfl (tenC_one rfl) (by simp only [fnC_size, cells_size, vecC_size, tabC_size, planeC_size, tenC_size, smC_size, numC_size, numI_size]) (by simp only [fnC_size, cells_size, vecC_size, tabC_size, planeC_size, tenC_size, smC_size, numC_size, numI_size] <;> omega) (splice_whole _ _ rfl)) ?_
      intro _ w' a hM hF
      change Mem w w' [some (b1, tenC (p : Int) (n : Int) (i : Int) (o : Int) sl), some (b2, tenC (p : Int) (n : Int) (r : Int) (s : Int) sl2), none, none, none, some (b5, tenC (p : Int) (n : Int) ((i + r : Nat) : Int) ((o + s : Nat) : Int) (.slice (some ⟨be7, 0, none⟩) (n ^ ((i + r) + (o + s))) (n ^ ((i + r) + (o + s))))), some (b8, numC (n ^ (i + o)) f), some (b9, tenC (p : Int) (n : Int) (i : Int) (o : Int) (.slice (some ⟨b8, 0, none⟩) (n ^ (i + o)) (n ^ (i + o)))), some (b10, numC (n ^ (r + s)) h), some (b11, tenC (p : Int) (n : Int) (r : Int) (s : Int) (.slice (some ⟨b10, 0, none⟩) (n ^ (r + s)) (n ^ (r + s)))), none, none, none, none, none, none, none, none] [(be7, numC (n ^ ((i + r) + (o + s))) (sdF p (n ^ o) (n ^ r) (n ^ s) (n ^ (o + s)) f h))] at hM
      refine wpList_nil ?_
      refine tN ?_
      refine sq ?_
      refine wp_region_lit ?_
      refine st hF (g_loadAgg ty_ag_27 hF rfl (hM.row 7 rfl) (by simp only [fnC_size, cells_size, vecC_size, tabC_size, planeC_size, tenC_size, smC_size, numC_size, numI_size] <;> omega) (whole rfl)) rfl fun a hF => st hF (g_loadAgg ty_ag_27 hF rfl (hM.row 9 rfl) (by simp only [fnC_size, cells_size, vecC_size, tabC_size, planeC_size, tenC_size, smC_size, numC_size, numI_size] <;> omega) (whole rfl)) rfl fun a hF => ?_
      refine stR hF (d_call Try.call32 hF (.cons rfl (.cons rfl .nil)) (SideTensorsIB p n i o r s b8 b10 f h _ hpP hn0 hn hwa hwb hw hfp hhp (hM.row 6 rfl) (hM.row 8 rfl))) rfl ?_
      rintro _ w' a ⟨hx, b12, rfl, hge, hbk⟩ hF
      have hM := hM.fill hx 10 hbk hge
      change Mem w w' [some (b1, tenC (p : Int) (n : Int) (i : Int) (o : Int) sl), some (b2, tenC (p : Int) (n : Int) (r : Int) (s : Int) sl2), none, none, none, some (b5, tenC (p : Int) (n : Int) ((i + r : Nat) : Int) ((o + s : Nat) : Int) (.slice (some ⟨be7, 0, none⟩) (n ^ ((i + r) + (o + s))) (n ^ ((i + r) + (o + s))))), some (b8, numC (n ^ (i + o)) f), some (b9, tenC (p : Int) (n : Int) (i : Int) (o : Int) (.slice (some ⟨b8, 0, none⟩) (n ^ (i + o)) (n ^ (i + o)))), some (b10, numC (n ^ (r + s)) h), some (b11, tenC (p : Int) (n : Int) (r : Int) (s : Int) (.slice (some ⟨b10, 0, none⟩) (n ^ (r + s)) (n ^ (r + s)))), some (b12, numC (n ^ ((i + r) + (o + s))) (sdF p (n ^ o) (n ^ r) (n ^ s) (n ^ (o + s)) f h)), none, none, none, none, none, none, none] [(be7, numC (n ^ ((i + r) + (o + s))) (sdF p (n ^ o) (n ^ r) (n ^ s) (n ^ (o + s)) f h))] at hM
      refine st hF (g_move hF rfl) rfl fun a hF => st hF (g_extract hF rfl rfl) rfl fun a hF => st hF (g_extract hF rfl rfl) rfl fun a hF => ?_
      refine stR hF (d_alloc 11 hM ty_ze_27) rfl ?_
      rintro _ w' a ⟨b13, rfl, hM, -⟩ hF
      change Mem w w' [some (b1, tenC (p : Int) (n : Int) (i : Int) (o : Int) sl), some (b2, tenC (p : Int) (n : Int) (r : Int) (s : Int) sl2), none, none, none, some (b5, tenC (p : Int) (n : Int) ((i + r : Nat) : Int) ((o + s : Nat) : Int) (.slice (some ⟨be7, 0, none⟩) (n ^ ((i + r) + (o + s))) (n ^ ((i + r) + (o + s))))), some (b8, numC (n ^ (i + o)) f), some (b9, tenC (p : Int) (n : Int) (i : Int) (o : Int) (.slice (some ⟨b8, 0, none⟩) (n ^ (i + o)) (n ^ (i + o)))), some (b10, numC (n ^ (r + s)) h), some (b11, tenC (p : Int) (n : Int) (r : Int) (s : Int) (.slice (some ⟨b10, 0, none⟩) (n ^ (r + s)) (n ^ (r + s)))), some (b12, numC (n ^ ((i + r) + (o + s))) (sdF p (n ^ o) (n ^ r) (n ^ s) (n ^ (o + s)) f h)), some (b13, tenC 0 0 0 0 (.slice none 0 0)), none, none, none, none, none, none] [(be7, numC (n ^ ((i + r) + (o + s))) (sdF p (n ^ o) (n ^ r) (n ^ s) (n ^ (o + s)) f h))] at hM
      refine stN hF (d_storeAgg 11 hM rfl ty_sz_27 hF rfl rfl (tenC_one rfl) (by simp only [fnC_size, cells_size, vecC_size, tabC_size, planeC_size, tenC_size, smC_size, numC_size, numI_size]) (by simp only [fnC_size, cells_size, vecC_size, tabC_size, planeC_size, tenC_size, smC_size, numC_size, numI_size] <;> omega) (splice_whole _ _ rfl)) ?_
      intro _ w' a hM hF
      change Mem w w' [some (b1, tenC (p : Int) (n : Int) (i : Int) (o : Int) sl), some (b2, tenC (p : Int) (n : Int) (r : Int) (s : Int) sl2), none, none, none, some (b5, tenC (p : Int) (n : Int) ((i + r : Nat) : Int) ((o + s : Nat) : Int) (.slice (some ⟨be7, 0, none⟩) (n ^ ((i + r) + (o + s))) (n ^ ((i + r) + (o + s))))), some (b8, numC (n ^ (i + o)) f), some (b9, tenC (p : Int) (n : Int) (i : Int) (o : Int) (.slice (some ⟨b8, 0, none⟩) (n ^ (i + o)) (n ^ (i + o)))), some (b10, numC (n ^ (r + s)) h), some (b11, tenC (p : Int) (n : Int) (r : Int) (s : Int) (.slice (some ⟨b10, 0, none⟩) (n ^ (r + s)) (n ^ (r + s)))), some (b12, numC (n ^ ((i + r) + (o + s))) (sdF p (n ^ o) (n ^ r) (n ^ s) (n ^ (o + s)) f h)), some (b13, tenC (p : Int) (n : Int) ((i + r : Nat) : Int) ((o + s : Nat) : Int) (.slice (some ⟨b12, 0, none⟩) (n ^ ((i + r) + (o + s))) (n ^ ((i + r) + (o + s))))), none, none, none, none, none, none] [(be7, numC (n ^ ((i + r) + (o + s))) (sdF p (n ^ o) (n ^ r) (n ^ s) (n ^ (o + s)) f h))] at hM
      refine st hF (g_assign hF rfl) rfl fun a hF => ?_
      refine wpList_nil ?_
      refine tN ?_
      refine sq ?_
      refine sq ?_
      refine wp_region_lit ?_
      refine st hF (g_loadAgg ty_ag_27 hF rfl (hM.row 11 rfl) (by simp only [fnC_size, cells_size, vecC_size, tabC_size, planeC_size, tenC_size, smC_size, numC_size, numI_size] <;> omega) (whole rfl)) rfl fun a hF => st hF (g_loadAgg ty_ag_27 hF rfl (hM.row 5 rfl) (by simp only [fnC_size, cells_size, vecC_size, tabC_size, planeC_size, tenC_size, smC_size, numC_size, numI_size] <;> omega) (whole rfl)) rfl fun a hF => ?_
      refine stR hF (d_call Try.call17 hF (.cons rfl (.cons rfl .nil)) (eqTensor_ok (p : Int) (n : Int) ((i + r : Nat) : Int) ((o + s : Nat) : Int) b12 be7 (n ^ ((i + r) + (o + s))) (fun c => (((sdF p (n ^ o) (n ^ r) (n ^ s) (n ^ (o + s)) f h) c : Nat) : Int)) (fun c => (((sdF p (n ^ o) (n ^ r) (n ^ s) (n ^ (o + s)) f h) c : Nat) : Int)) _ (hM.row 10 rfl) (hM.fz 0 rfl) (by omega) (fun _ _ => rfl))) rfl ?_
      rintro _ w' a ⟨hx, rfl⟩ hF
      have hM := hM.ext hx
      refine st hF (g_not hF rfl) rfl fun a hF => st hF (g_move hF rfl) rfl fun a hF => stY hF rfl rfl rfl (g_move hF rfl) rfl fun a hF => stY hF rfl rfl rfl (g_move hF rfl) rfl fun a hF => stY hF rfl rfl rfl (g_neq hF rfl rfl) rfl fun a hF => st hF (g_pickF hF rfl rfl) rfl fun a hF => ?_
      refine wpList_nil ?_
      refine tN ?_
      refine c_kF hF rfl (by decide) ?_
      refine wp_skip ?_
      refine tN ?_
      refine sq ?_
      refine sq ?_
      refine c_par 3 [12] [.val (.agg (tenC (p : Int) (n : Int) (i : Int) (o : Int) (.slice (some ⟨b8, 0, none⟩) (n ^ (i + o)) (n ^ (i + o))))), .val (.agg (tenC (p : Int) (n : Int) (i : Int) (o : Int) sl)), .own 12 (numC (n ^ (i + o)) f) (fun b => .agg (tenC (p : Int) (n : Int) (i : Int) (o : Int) (.slice (some ⟨b, 0, none⟩) (n ^ (i + o)) (n ^ (i + o)))))] hmix rfl hF rfl hM ⟨fun a w gG hF hS hd => by have hM := hS.mem rfl; exact par_val hS rfl (g_loadAgg ty_ag_27 hF rfl (hM.row 7 rfl) (by simp only [fnC_size, cells_size, vecC_size, tabC_size, planeC_size, tenC_size, smC_size, numC_size, numI_size] <;> omega) (whole rfl)), fun a w gG hF hS hd => by have hM := hS.mem rfl; exact par_val hS rfl (g_loadAgg ty_ag_24 hF rfl (hM.row 0 rfl) (by simp only [fnC_size, cells_size, vecC_size, tabC_size, planeC_size, tenC_size, smC_size, numC_size, numI_size] <;> omega) (whole rfl)), fun a w gG hF hS hd => by have hF := hF.ext1 55 (hd 1 rfl rfl); have hM := hS.mem rfl; exact par_own (by repeat constructor) hS rfl rfl rfl rfl (d_callOwnB 12 hS.1 (d_call Try.call15 hF (.cons rfl .nil) (toTensor_ok (p : Int) (n : Int) (i : Int) (o : Int) sl (n ^ (i + o)) (fun c => ((f c : Nat) : Int)) _ (hs.ext hM.below) (by omega)))), trivial⟩ ?_
      intro a w' L hF hS hq
      have hF := hF.ext1 54 (hq 0 rfl rfl)
      have hF := hF.ext1 55 (hq 1 rfl rfl)
      obtain ⟨hM, hL⟩ := hS
      obtain ⟨b15, hptr, hkk⟩ := hq 2 rfl rfl
      have hF := hF.ext1 56 hptr
      have hL := hL.take hkk
      obtain rfl := hL.eq
      change Mem w w' [some (b1, tenC (p : Int) (n : Int) (i : Int) (o : Int) sl), some (b2, tenC (p : Int) (n : Int) (r : Int) (s : Int) sl2), none, none, none, some (b5, tenC (p : Int) (n : Int) ((i + r : Nat) : Int) ((o + s : Nat) : Int) (.slice (some ⟨be7, 0, none⟩) (n ^ ((i + r) + (o + s))) (n ^ ((i + r) + (o + s))))), some (b8, numC (n ^ (i + o)) f), some (b9, tenC (p : Int) (n : Int) (i : Int) (o : Int) (.slice (some ⟨b8, 0, none⟩) (n ^ (i + o)) (n ^ (i + o)))), some (b10, numC (n ^ (r + s)) h), some (b11, tenC (p : Int) (n : Int) (r : Int) (s : Int) (.slice (some ⟨b10, 0, none⟩) (n ^ (r + s)) (n ^ (r + s)))), some (b12, numC (n ^ ((i + r) + (o + s))) (sdF p (n ^ o) (n ^ r) (n ^ s) (n ^ (o + s)) f h)), some (b13, tenC (p : Int) (n : Int) ((i + r : Nat) : Int) ((o + s : Nat) : Int) (.slice (some ⟨b12, 0, none⟩) (n ^ ((i + r) + (o + s))) (n ^ ((i + r) + (o + s))))), some (b15, numC (n ^ (i + o)) f), none, none, none, none, none] [(be7, numC (n ^ ((i + r) + (o + s))) (sdF p (n ^ o) (n ^ r) (n ^ s) (n ^ (o + s)) f h))] at hM
      change wpList Try.prog _ _ [_, _] _ _
      refine stR hF (d_call Try.call17 hF (.cons rfl (.cons rfl .nil)) (eqTensor_ok (p : Int) (n : Int) (i : Int) (o : Int) b8 b15 (n ^ (i + o)) (fun c => ((f c : Nat) : Int)) (fun c => ((f c : Nat) : Int)) _ (hM.row 6 rfl) (hM.row 12 rfl) (by omega) (fun _ _ => rfl))) rfl ?_
      rintro _ w' a ⟨hx, rfl⟩ hF
      have hM := hM.ext hx
      refine st hF (g_not hF rfl) rfl fun a hF => ?_
      refine wpList_nil ?_
      refine tN ?_
      refine c_Fl hF rfl ?_
      refine wp_skip ?_
      refine tN ?_
      refine sq ?_
      refine sq ?_
      refine c_par 3 [13] [.val (.agg (tenC (p : Int) (n : Int) (r : Int) (s : Int) (.slice (some ⟨b10, 0, none⟩) (n ^ (r + s)) (n ^ (r + s))))), .val (.agg (tenC (p : Int) (n : Int) (r : Int) (s : Int) sl2)), .own 13 (numC (n ^ (r + s)) h) (fun b => .agg (tenC (p : Int) (n : Int) (r : Int) (s : Int) (.slice (some ⟨b, 0, none⟩) (n ^ (r + s)) (n ^ (r + s)))))] hmix rfl hF rfl hM ⟨fun a w gG hF hS hd => by have hM := hS.mem rfl; exact par_val hS rfl (g_loadAgg ty_ag_27 hF rfl (hM.row 9 rfl) (by simp only [fnC_size, cells_size, vecC_size, tabC_size, planeC_size, tenC_size, smC_size, numC_size, numI_size] <;> omega) (whole rfl)), fun a w gG hF hS hd => by have hM := hS.mem rfl; exact par_val hS rfl (g_loadAgg ty_ag_24 hF rfl (hM.row 1 rfl) (by simp only [fnC_size, cells_size, vecC_size, tabC_size, planeC_size, tenC_size, smC_size, numC_size, numI_size] <;> omega) (whole rfl)), fun a w gG hF hS hd => by have hF := hF.ext1 60 (hd 1 rfl rfl); have hM := hS.mem rfl; exact par_own (by repeat constructor) hS rfl rfl rfl rfl (d_callOwnB 13 hS.1 (d_call Try.call15 hF (.cons rfl .nil) (toTensor_ok (p : Int) (n : Int) (r : Int) (s : Int) sl2 (n ^ (r + s)) (fun c => ((h c : Nat) : Int)) _ (hs2.ext hM.below) (by omega)))), trivial⟩ ?_
      intro a w' L hF hS hq
      have hF := hF.ext1 59 (hq 0 rfl rfl)
      have hF := hF.ext1 60 (hq 1 rfl rfl)
      obtain ⟨hM, hL⟩ := hS
      obtain ⟨b17, hptr, hkk⟩ := hq 2 rfl rfl
      have hF := hF.ext1 61 hptr
      have hL := hL.take hkk
      obtain rfl := hL.eq
      change Mem w w' [some (b1, tenC (p : Int) (n : Int) (i : Int) (o : Int) sl), some (b2, tenC (p : Int) (n : Int) (r : Int) (s : Int) sl2), none, none, none, some (b5, tenC (p : Int) (n : Int) ((i + r : Nat) : Int) ((o + s : Nat) : Int) (.slice (some ⟨be7, 0, none⟩) (n ^ ((i + r) + (o + s))) (n ^ ((i + r) + (o + s))))), some (b8, numC (n ^ (i + o)) f), some (b9, tenC (p : Int) (n : Int) (i : Int) (o : Int) (.slice (some ⟨b8, 0, none⟩) (n ^ (i + o)) (n ^ (i + o)))), some (b10, numC (n ^ (r + s)) h), some (b11, tenC (p : Int) (n : Int) (r : Int) (s : Int) (.slice (some ⟨b10, 0, none⟩) (n ^ (r + s)) (n ^ (r + s)))), some (b12, numC (n ^ ((i + r) + (o + s))) (sdF p (n ^ o) (n ^ r) (n ^ s) (n ^ (o + s)) f h)), some (b13, tenC (p : Int) (n : Int) ((i + r : Nat) : Int) ((o + s : Nat) : Int) (.slice (some ⟨b12, 0, none⟩) (n ^ ((i + r) + (o + s))) (n ^ ((i + r) + (o + s))))), some (b15, numC (n ^ (i + o)) f), some (b17, numC (n ^ (r + s)) h), none, none, none, none] [(be7, numC (n ^ ((i + r) + (o + s))) (sdF p (n ^ o) (n ^ r) (n ^ s) (n ^ (o + s)) f h))] at hM
      change wpList Try.prog _ _ [_, _] _ _
      refine stR hF (d_call Try.call17 hF (.cons rfl (.cons rfl .nil)) (eqTensor_ok (p : Int) (n : Int) (r : Int) (s : Int) b10 b17 (n ^ (r + s)) (fun c => ((h c : Nat) : Int)) (fun c => ((h c : Nat) : Int)) _ (hM.row 8 rfl) (hM.row 13 rfl) (by omega) (fun _ _ => rfl))) rfl ?_
      rintro _ w' a ⟨hx, rfl⟩ hF
      have hM := hM.ext hx
      refine st hF (g_not hF rfl) rfl fun a hF => ?_
      refine wpList_nil ?_
      refine tN ?_
      refine c_Fl hF rfl ?_
      refine wp_skip ?_
      refine tN ?_
      refine sq ?_
      refine wp_region_lit ?_
      refine st hF (g_assign hF rfl) rfl fun a hF => ?_
      refine wpList_nil ?_
      refine tN ?_
      refine sq ?_
      refine wp_region_lit ?_
      refine st hF (g_loadAgg ty_ag_27 hF rfl (hM.row 7 rfl) (by simp only [fnC_size, cells_size, vecC_size, tabC_size, planeC_size, tenC_size, smC_size, numC_size, numI_size] <;> omega) (whole rfl)) rfl fun a hF => st hF (g_move hF rfl) rfl fun a hF => ?_
      refine stR hF (d_callX Try.call20 hF (.cons rfl (.cons rfl .nil)) (markTensor_ok (p : Int) (n : Int) (i : Int) (o : Int) b8 (n ^ (i + o)) (1) (fun c => ((f c : Nat) : Int)) _ (by omega) (by omega) (hM.row 6 rfl))) rfl ?_
      rintro _ w' a ⟨hx, rfl, hbk⟩ hF
      have hM := hM.upd 6 rfl hx hbk
      change Mem w w' [some (b1, tenC (p : Int) (n : Int) (i : Int) (o : Int) sl), some (b2, tenC (p : Int) (n : Int) (r : Int) (s : Int) sl2), none, none, none, some (b5, tenC (p : Int) (n : Int) ((i + r : Nat) : Int) ((o + s : Nat) : Int) (.slice (some ⟨be7, 0, none⟩) (n ^ ((i + r) + (o + s))) (n ^ ((i + r) + (o + s))))), some (b8, numC (n ^ (i + o)) (fun c => (1) + c)), some (b9, tenC (p : Int) (n : Int) (i : Int) (o : Int) (.slice (some ⟨b8, 0, none⟩) (n ^ (i + o)) (n ^ (i + o)))), some (b10, numC (n ^ (r + s)) h), some (b11, tenC (p : Int) (n : Int) (r : Int) (s : Int) (.slice (some ⟨b10, 0, none⟩) (n ^ (r + s)) (n ^ (r + s)))), some (b12, numC (n ^ ((i + r) + (o + s))) (sdF p (n ^ o) (n ^ r) (n ^ s) (n ^ (o + s)) f h)), some (b13, tenC (p : Int) (n : Int) ((i + r : Nat) : Int) ((o + s : Nat) : Int) (.slice (some ⟨b12, 0, none⟩) (n ^ ((i + r) + (o + s))) (n ^ ((i + r) + (o + s))))), some (b15, numC (n ^ (i + o)) f), some (b17, numC (n ^ (r + s)) h), none, none, none, none] [(be7, numC (n ^ ((i + r) + (o + s))) (sdF p (n ^ o) (n ^ r) (n ^ s) (n ^ (o + s)) f h))] at hM
      refine st hF (g_assign hF rfl) rfl fun a hF => ?_
      refine wpList_nil ?_
      refine tN ?_
      refine sq ?_
      refine wp_region_lit ?_
      refine st hF (g_loadAgg ty_ag_27 hF rfl (hM.row 9 rfl) (by simp only [fnC_size, cells_size, vecC_size, tabC_size, planeC_size, tenC_size, smC_size, numC_size, numI_size] <;> omega) (whole rfl)) rfl fun a hF => st hF (g_move hF rfl) rfl fun a hF => ?_
      refine stR hF (d_callX Try.call20 hF (.cons rfl (.cons rfl .nil)) (markTensor_ok (p : Int) (n : Int) (r : Int) (s : Int) b10 (n ^ (r + s)) (1 + (n ^ (i + o))) (fun c => ((h c : Nat) : Int)) _ (by omega) (by omega) (hM.row 8 rfl))) rfl ?_
      rintro _ w' a ⟨hx, rfl, hbk⟩ hF
      have hM := hM.upd 8 rfl hx hbk
      change Mem w w' [some (b1, tenC (p : Int) (n : Int) (i : Int) (o : Int) sl), some (b2, tenC (p : Int) (n : Int) (r : Int) (s : Int) sl2), none, none, none, some (b5, tenC (p : Int) (n : Int) ((i + r : Nat) : Int) ((o + s : Nat) : Int) (.slice (some ⟨be7, 0, none⟩) (n ^ ((i + r) + (o + s))) (n ^ ((i + r) + (o + s))))), some (b8, numC (n ^ (i + o)) (fun c => (1) + c)), some (b9, tenC (p : Int) (n : Int) (i : Int) (o : Int) (.slice (some ⟨b8, 0, none⟩) (n ^ (i + o)) (n ^ (i + o)))), some (b10, numC (n ^ (r + s)) (fun c => (1 + (n ^ (i + o))) + c)), some (b11, tenC (p : Int) (n : Int) (r : Int) (s : Int) (.slice (some ⟨b10, 0, none⟩) (n ^ (r + s)) (n ^ (r + s)))), some (b12, numC (n ^ ((i + r) + (o + s))) (sdF p (n ^ o) (n ^ r) (n ^ s) (n ^ (o + s)) f h)), some (b13, tenC (p : Int) (n : Int) ((i + r : Nat) : Int) ((o + s : Nat) : Int) (.slice (some ⟨b12, 0, none⟩) (n ^ ((i + r) + (o + s))) (n ^ ((i + r) + (o + s))))), some (b15, numC (n ^ (i + o)) f), some (b17, numC (n ^ (r + s)) h), none, none, none, none] [(be7, numC (n ^ ((i + r) + (o + s))) (sdF p (n ^ o) (n ^ r) (n ^ s) (n ^ (o + s)) f h))] at hM
      refine st hF (g_assign hF rfl) rfl fun a hF => ?_
      refine wpList_nil ?_
      refine tN ?_
      refine sq ?_
      refine sq ?_
      refine wp_region_lit ?_
      refine st hF (g_move hF rfl) rfl fun a hF => st hF (g_lss hF rfl rfl) rfl fun a hF => st hF (g_move hF rfl) rfl fun a hF => ?_
      by_cases g19 : (((1 + (n ^ (i + o)) + (n ^ (r + s)) : Nat) : Int) : Int) < 0
      ·
        first | rw [decide_eq_true g19] at hF | simp only [decide_eq_true g19] at hF
        first | exact absurd rfl g19 | (exfalso; omega)
      ·
        first | rw [decide_eq_false g19] at hF | simp only [decide_eq_false g19] at hF
        refine stY hF rfl rfl rfl (g_loadAgg ty_ag_27 hF rfl (hM.row 11 rfl) (by simp only [fnC_size, cells_size, vecC_size, tabC_size, planeC_size, tenC_size, smC_size, numC_size, numI_size] <;> omega) (whole rfl)) rfl fun a hF => stY hF rfl rfl rfl (g_loadAgg ty_ag_27 hF rfl (hM.row 5 rfl) (by simp only [fnC_size, cells_size, vecC_size, tabC_size, planeC_size, tenC_size, smC_size, numC_size, numI_size] <;> omega) (whole rfl)) rfl fun a hF => ?_
        refine stYR hF rfl rfl rfl (d_call Try.call17 hF (.cons rfl (.cons rfl .nil)) (eqTensor_ok (p : Int) (n : Int) ((i + r : Nat) : Int) ((o + s : Nat) : Int) b12 be7 (n ^ ((i + r) + (o + s))) (fun c => (((sdF p (n ^ o) (n ^ r) (n ^ s) (n ^ (o + s)) f h) c : Nat) : Int)) (fun c => (((sdF p (n ^ o) (n ^ r) (n ^ s) (n ^ (o + s)) f h) c : Nat) : Int)) _ (hM.row 10 rfl) (hM.fz 0 rfl) (by omega) (fun _ _ => rfl))) rfl ?_
        rintro _ w' a ⟨hx, rfl⟩ hF
        have hM := hM.ext hx
        refine stY hF rfl rfl rfl (g_not hF rfl) rfl fun a hF => st hF (g_pickF hF rfl rfl) rfl fun a hF => st hF (g_move hF rfl) rfl fun a hF => stY hF rfl rfl rfl (g_move hF rfl) rfl fun a hF => stY hF rfl rfl rfl (g_move hF rfl) rfl fun a hF => stY hF rfl rfl rfl (g_neq hF rfl rfl) rfl fun a hF => st hF (g_pickF hF rfl rfl) rfl fun a hF => ?_
        refine wpList_nil ?_
        refine tN ?_
        refine c_kF hF rfl (by decide) ?_
        refine wp_skip ?_
        refine tN ?_
        refine sq ?_
        refine wp_region_lit ?_
        refine st hF (g_assign hF rfl) rfl fun a hF => ?_
        refine wpList_nil ?_
        refine tN ?_
        refine sq ?_
        refine wp_region_lit ?_
        refine st hF (g_loadAgg ty_ag_27 hF rfl (hM.row 11 rfl) (by simp only [fnC_size, cells_size, vecC_size, tabC_size, planeC_size, tenC_size, smC_size, numC_size, numI_size] <;> omega) (whole rfl)) rfl fun a hF => st hF (g_move hF rfl) rfl fun a hF => ?_
        refine stR hF (d_callX Try.call20 hF (.cons rfl (.cons rfl .nil)) (markTensor_ok (p : Int) (n : Int) ((i + r : Nat) : Int) ((o + s : Nat) : Int) b12 (n ^ ((i + r) + (o + s))) (1) (fun c => (((sdF p (n ^ o) (n ^ r) (n ^ s) (n ^ (o + s)) f h) c : Nat) : Int)) _ (by omega) (by omega) (hM.row 10 rfl))) rfl ?_
        rintro _ w' a ⟨hx, rfl, hbk⟩ hF
        have hM := hM.upd 10 rfl hx hbk
        change Mem w w' [some (b1, tenC (p : Int) (n : Int) (i : Int) (o : Int) sl), some (b2, tenC (p : Int) (n : Int) (r : Int) (s : Int) sl2), none, none, none, some (b5, tenC (p : Int) (n : Int) ((i + r : Nat) : Int) ((o + s : Nat) : Int) (.slice (some ⟨be7, 0, none⟩) (n ^ ((i + r) + (o + s))) (n ^ ((i + r) + (o + s))))), some (b8, numC (n ^ (i + o)) (fun c => (1) + c)), some (b9, tenC (p : Int) (n : Int) (i : Int) (o : Int) (.slice (some ⟨b8, 0, none⟩) (n ^ (i + o)) (n ^ (i + o)))), some (b10, numC (n ^ (r + s)) (fun c => (1 + (n ^ (i + o))) + c)), some (b11, tenC (p : Int) (n : Int) (r : Int) (s : Int) (.slice (some ⟨b10, 0, none⟩) (n ^ (r + s)) (n ^ (r + s)))), some (b12, numC (n ^ ((i + r) + (o + s))) (fun c => (1) + c)), some (b13, tenC (p : Int) (n : Int) ((i + r : Nat) : Int) ((o + s : Nat) : Int) (.slice (some ⟨b12, 0, none⟩) (n ^ ((i + r) + (o + s))) (n ^ ((i + r) + (o + s))))), some (b15, numC (n ^ (i + o)) f), some (b17, numC (n ^ (r + s)) h), none, none, none, none] [(be7, numC (n ^ ((i + r) + (o + s))) (sdF p (n ^ o) (n ^ r) (n ^ s) (n ^ (o + s)) f h))] at hM
        refine st hF (g_assign hF rfl) rfl fun a hF => ?_
        refine wpList_nil ?_
        refine tN ?_
        refine sq ?_
        refine wp_region_lit ?_
        refine st hF (g_assign hF rfl) rfl fun a hF => ?_
        refine wpList_nil ?_
        refine tN ?_
        refine sq ?_
        refine wp_region_lit ?_
        refine st hF (g_loadAgg ty_ag_27 hF rfl (hM.row 11 rfl) (by simp only [fnC_size, cells_size, vecC_size, tabC_size, planeC_size, tenC_size, smC_size, numC_size, numI_size] <;> omega) (whole rfl)) rfl fun a hF => st hF (g_move hF rfl) rfl fun a hF => ?_
        refine stR hF (d_call Try.call21 hF (.cons rfl (.cons rfl .nil)) (heldTensor_ok (p : Int) (n : Int) ((i + r : Nat) : Int) ((o + s : Nat) : Int) b12 (n ^ ((i + r) + (o + s))) (1) (fun c => (1) + c) _ (by omega) (by omega) (hM.row 10 rfl) (fun c _ => by omega))) rfl ?_
        rintro _ w' a ⟨hx, rfl⟩ hF
        have hM := hM.ext hx
        refine st hF (g_assign hF rfl) rfl fun a hF => ?_
        refine wpList_nil ?_
        refine tN ?_
        refine sq ?_
        refine sq ?_
        refine wp_region_lit ?_
        refine st hF (g_move hF rfl) rfl fun a hF => st hF (g_lss hF rfl rfl) rfl fun a hF => ?_
        refine wpList_nil ?_
        refine tN ?_
        refine c_cond hF rfl (fun h21 => ?_) (fun h21 => ?_)
        ·
          first | exact absurd rfl h21 | (exfalso; omega)
        ·
          refine wp_skip ?_
          refine tN ?_
          refine sq ?_
          refine sq ?_
          refine wp_region_lit ?_
          refine st hF (g_move hF rfl) rfl fun a hF => st hF (g_move hF rfl) rfl fun a hF => st hF (g_neq hF rfl rfl) rfl fun a hF => ?_
          refine wpList_nil ?_
          refine tN ?_
          refine c_cond hF rfl (fun h22 => ?_) (fun h22 => ?_)
          ·
            first | exact absurd rfl h22 | (exfalso; omega)
          ·
            refine wp_skip ?_
            refine tN ?_
            refine sq ?_
            refine c_drawG (S := ParE [] w [(be7, numC (n ^ ((i + r) + (o + s))) (sdF p (n ^ o) (n ^ r) (n ^ s) (n ^ (o + s)) f h))] [some (b1, tenC (p : Int) (n : Int) (i : Int) (o : Int) sl), some (b2, tenC (p : Int) (n : Int) (r : Int) (s : Int) sl2), none, none, none, some (b5, tenC (p : Int) (n : Int) ((i + r : Nat) : Int) ((o + s : Nat) : Int) (.slice (some ⟨be7, 0, none⟩) (n ^ ((i + r) + (o + s))) (n ^ ((i + r) + (o + s))))), some (b8, numC (n ^ (i + o)) (fun c => (1) + c)), some (b9, tenC (p : Int) (n : Int) (i : Int) (o : Int) (.slice (some ⟨b8, 0, none⟩) (n ^ (i + o)) (n ^ (i + o)))), some (b10, numC (n ^ (r + s)) (fun c => (1 + (n ^ (i + o))) + c)), some (b11, tenC (p : Int) (n : Int) (r : Int) (s : Int) (.slice (some ⟨b10, 0, none⟩) (n ^ (r + s)) (n ^ (r + s)))), some (b12, numC (n ^ ((i + r) + (o + s))) (fun c => (1) + c)), some (b13, tenC (p : Int) (n : Int) ((i + r : Nat) : Int) ((o + s : Nat) : Int) (.slice (some ⟨b12, 0, none⟩) (n ^ ((i + r) + (o + s))) (n ^ ((i + r) + (o + s))))), some (b15, numC (n ^ (i + o)) f), some (b17, numC (n ^ (r + s)) h), none, none, none, none] 17 (tenC 0 0 0 0 (.slice none 0 0)) (some (numC (n ^ ((i + r) + (o + s))) (sdF p (n ^ o) (n ^ r) (n ^ s) (n ^ (o + s)) f h))) (fun bq6 => tenC (p : Int) (n : Int) ((i + r : Nat) : Int) ((o + s : Nat) : Int) (.slice (some ⟨bq6, 0, none⟩) (n ^ ((i + r) + (o + s))) (n ^ ((i + r) + (o + s)))))) 10 9 hmix rfl rfl rfl hF rfl (fun j o hj hne => dstAll_spec (s := 9) (i := 0) rfl j o hj (by omega)) ([some (b1, tenC (p : Int) (n : Int) (i : Int) (o : Int) sl), some (b2, tenC (p : Int) (n : Int) (r : Int) (s : Int) sl2), none, none, none, some (b5, tenC (p : Int) (n : Int) ((i + r : Nat) : Int) ((o + s : Nat) : Int) (.slice (some ⟨be7, 0, none⟩) (n ^ ((i + r) + (o + s))) (n ^ ((i + r) + (o + s))))), some (b8, numC (n ^ (i + o)) (fun c => (1) + c)), some (b9, tenC (p : Int) (n : Int) (i : Int) (o : Int) (.slice (some ⟨b8, 0, none⟩) (n ^ (i + o)) (n ^ (i + o)))), some (b10, numC (n ^ (r + s)) (fun c => (1 + (n ^ (i + o))) + c)), some (b11, tenC (p : Int) (n : Int) (r : Int) (s : Int) (.slice (some ⟨b10, 0, none⟩) (n ^ (r + s)) (n ^ (r + s)))), some (b12, numC (n ^ ((i + r) + (o + s))) (fun c => (1) + c)), some (b13, tenC (p : Int) (n : Int) ((i + r : Nat) : Int) ((o + s : Nat) : Int) (.slice (some ⟨b12, 0, none⟩) (n ^ ((i + r) + (o + s))) (n ^ ((i + r) + (o + s))))), some (b15, numC (n ^ (i + o)) f), some (b17, numC (n ^ (r + s)) h), none, none, none, none], []) ⟨⟨hM, Same.refl _ _⟩, fun b cs h => by simp at h⟩ (fun b g w h => ⟨⟨h.1.1.ext (Below.drew (Below.refl _ _)), h.1.2⟩, h.2⟩) (factsE 17 [FactE.val (.agg (tenC (p : Int) (n : Int) (i : Int) (o : Int) sl)), FactE.frz (numC (n ^ (i + o)) f) (fun bq => .agg (tenC (p : Int) (n : Int) (i : Int) (o : Int) (.slice (some ⟨bq, 0, none⟩) (n ^ (i + o)) (n ^ (i + o))))), FactE.val (.agg (tenC (p : Int) (n : Int) (r : Int) (s : Int) sl2)), FactE.frz (numC (n ^ (r + s)) h) (fun bq => .agg (tenC (p : Int) (n : Int) (r : Int) (s : Int) (.slice (some ⟨bq, 0, none⟩) (n ^ (r + s)) (n ^ (r + s))))), FactE.frz (numC (n ^ ((i + r) + (o + s))) (sdF p (n ^ o) (n ^ r) (n ^ s) (n ^ (o + s)) f h)) (fun bq => .tuple #[.agg (tenC (p : Int) (n : Int) ((i + r : Nat) : Int) ((o + s : Nat) : Int) (.slice (some ⟨bq, 0, none⟩) (n ^ ((i + r) + (o + s))) (n ^ ((i + r) + (o + s))))), .int .i64 (0)]), FactE.frz (numC (n ^ ((i + r) + (o + s))) (sdF p (n ^ o) (n ^ r) (n ^ s) (n ^ (o + s)) f h)) (fun bq4 => .tuple #[.agg (tenC (p : Int) (n : Int) ((i + r : Nat) : Int) ((o + s : Nat) : Int) (.slice (some ⟨bq4, 0, none⟩) (n ^ ((i + r) + (o + s))) (n ^ ((i + r) + (o + s))))), .int .i64 (0)]), FactE.frz (numC (n ^ ((i + r) + (o + s))) (sdF p (n ^ o) (n ^ r) (n ^ s) (n ^ (o + s)) f h)) (fun bq5 => .agg (tenC (p : Int) (n : Int) ((i + r : Nat) : Int) ((o + s : Nat) : Int) (.slice (some ⟨bq5, 0, none⟩) (n ^ ((i + r) + (o + s))) (n ^ ((i + r) + (o + s)))))), FactE.val (.int .i64 (0)), FactE.own (fun b => ptr b 0), FactE.val undef]) ⟨fun a w2 fB gE hF hS hb hd => by have hM := (Par.mem (W := [17]) hS.1 rfl).keep0; exact pe_val hS rfl (g_loadAgg ty_ag_24 hF rfl (hM.row 0 rfl) (by simp only [fnC_size, cells_size, vecC_size, tabC_size, planeC_size, tenC_size, smC_size, numC_size, numI_size] <;> omega) (whole rfl)), fun a w2 fB gE hF hS hb hd => by have hF := hF.ext1 95 (hd 0 rfl rfl rfl); have hM := (Par.mem (W := [17]) hS.1 rfl).keep0; exact pe_frz hS rfl (d_call Try.call15 hF (.cons rfl .nil) (toTensor_ok (p : Int) (n : Int) (i : Int) (o : Int) sl (n ^ (i + o)) (fun c => ((f c : Nat) : Int)) _ (hs.ext hM.below) (by omega))), fun a w2 fB gE hF hS hb hd => by have hM := (Par.mem (W := [17]) hS.1 rfl).keep0; exact pe_val hS rfl (g_loadAgg ty_ag_24 hF rfl (hM.row 1 rfl) (by simp only [fnC_size, cells_size, vecC_size, tabC_size, planeC_size, tenC_size, smC_size, numC_size, numI_size] <;> omega) (whole rfl)), fun a w2 fB gE hF hS hb hd => by have hF := hF.ext1 97 (hd 2 rfl rfl rfl); have hM := (Par.mem (W := [17]) hS.1 rfl).keep0; exact pe_frz hS rfl (d_call Try.call15 hF (.cons rfl .nil) (toTensor_ok (p : Int) (n : Int) (r : Int) (s : Int) sl2 (n ^ (r + s)) (fun c => ((h c : Nat) : Int)) _ (hs2.ext hM.below) (by omega))), fun a w2 fB gE hF hS hb hd => by obtain ⟨bq1, hbq1, hvq1⟩ := hd 1 rfl rfl rfl; have hF := hF.ext1 96 hvq1; obtain ⟨bq3, hbq3, hvq3⟩ := hd 3 rfl rfl rfl; have hF := hF.ext1 98 hvq3; have hM := (Par.mem (W := [17]) hS.1 rfl).sub [(bq1, numC (n ^ (i + o)) f), (bq3, numC (n ^ (r + s)) h), (be7, numC (n ^ ((i + r) + (o + s))) (sdF p (n ^ o) (n ^ r) (n ^ s) (n ^ (o + s)) f h))] (List.forall_mem_cons.2 ⟨by exact List.mem_append_left _ hbq1, (List.forall_mem_cons.2 ⟨by exact List.mem_append_left _ hbq3, (List.forall_mem_cons.2 ⟨by exact List.mem_append_right _ (List.mem_of_getElem? (i := 0) rfl), (fun _ hx => by cases hx)⟩)⟩)⟩); exact pe_frz hS rfl (d_call Try.call32 hF (.cons rfl (.cons rfl .nil)) (SideTensorsIB p n i o r s bq1 bq3 f h _ hpP hn0 hn hwa hwb hw hfp hhp (hM.fz 0 rfl) (hM.fz 1 rfl))), fun a w2 fB gE hF hS hb hd => by obtain ⟨bq4, hbq4, hvq4⟩ := hd 4 rfl rfl rfl; have hF := hF.ext1 99 hvq4; exact pe_frzv hS rfl hbq4 (g_move hF rfl), fun a w2 fB gE hF hS hb hd => by obtain ⟨bq5, hbq5, hvq5⟩ := hd 5 rfl rfl rfl; have hF := hF.ext1 94 hvq5; exact pe_frzv hS rfl hbq5 (g_extract hF rfl rfl), fun a w2 fB gE hF hS hb hd => by obtain ⟨bq5, hbq5, hvq5⟩ := hd 5 rfl rfl rfl; have hF := hF.ext1 94 hvq5; exact pe_val hS rfl (g_extract hF rfl rfl), fun a w2 fB gE hF hS hb hd => by obtain rfl := hb rfl; exact pe_own hS rfl rfl rfl (d_alloc 17 hS.1.1 ty_ze_27), fun a w2 gE hF hS hd => by obtain ⟨bq6, hbq6, hvq6⟩ := hd 6 rfl rfl rfl; have hF := hF.ext1 100 hvq6; exact pe_store (ia := 8) (x := bq6) hS rfl (hd 8 rfl rfl rfl) hbq6 (fun b hptr hM hL => by have hF := hF.ext1 15 hptr; exact d_storeAgg 17 hM hL ty_sz_27 hF rfl rfl (tenC_one rfl) (by simp only [fnC_size, cells_size, vecC_size, tabC_size, planeC_size, tenC_size, smC_size, numC_size, numI_size]) (by simp only [fnC_size, cells_size, vecC_size, tabC_size, planeC_size, tenC_size, smC_size, numC_size, numI_size] <;> omega) (splice_whole _ _ rfl)), trivial⟩ ?_
            intro a w' gE hF hS hq
            obtain ⟨L, E⟩ := gE
            have hF := hF.ext1 95 (hq 0 rfl rfl rfl)
            have hF := hF.ext1 97 (hq 2 rfl rfl rfl)
            have hF := hF.ext1 101 (hq 7 rfl rfl rfl)
            obtain ⟨b23, cs24, hptr, hkk⟩ := hq 8 rfl rfl rfl
            obtain ⟨be25, hbe25, rfl⟩ := (hS.2 _ _ hkk).2 rfl
            have hF := hF.ext1 15 hptr
            obtain ⟨⟨hM, hL⟩, -⟩ := hS
            have hL := hL.take hkk
            obtain rfl := hL.eq
            have hM := hM.keepE hbe25
            change Mem w w' [some (b1, tenC (p : Int) (n : Int) (i : Int) (o : Int) sl), some (b2, tenC (p : Int) (n : Int) (r : Int) (s : Int) sl2), none, none, none, some (b5, tenC (p : Int) (n : Int) ((i + r : Nat) : Int) ((o + s : Nat) : Int) (.slice (some ⟨be7, 0, none⟩) (n ^ ((i + r) + (o + s))) (n ^ ((i + r) + (o + s))))), some (b8, numC (n ^ (i + o)) (fun c => (1) + c)), some (b9, tenC (p : Int) (n : Int) (i : Int) (o : Int) (.slice (some ⟨b8, 0, none⟩) (n ^ (i + o)) (n ^ (i + o)))), some (b10, numC (n ^ (r + s)) (fun c => (1 + (n ^ (i + o))) + c)), some (b11, tenC (p : Int) (n : Int) (r : Int) (s : Int) (.slice (some ⟨b10, 0, none⟩) (n ^ (r + s)) (n ^ (r + s)))), some (b12, numC (n ^ ((i + r) + (o + s))) (fun c => (1) + c)), some (b13, tenC (p : Int) (n : Int) ((i + r : Nat) : Int) ((o + s : Nat) : Int) (.slice (some ⟨b12, 0, none⟩) (n ^ ((i + r) + (o + s))) (n ^ ((i + r) + (o + s))))), some (b15, numC (n ^ (i + o)) f), some (b17, numC (n ^ (r + s)) h), none, none, none, some (b23, tenC (p : Int) (n : Int) ((i + r : Nat) : Int) ((o + s : Nat) : Int) (.slice (some ⟨be25, 0, none⟩) (n ^ ((i + r) + (o + s))) (n ^ ((i + r) + (o + s)))))] [(be25, numC (n ^ ((i + r) + (o + s))) (sdF p (n ^ o) (n ^ r) (n ^ s) (n ^ (o + s)) f h)), (be7, numC (n ^ ((i + r) + (o + s))) (sdF p (n ^ o) (n ^ r) (n ^ s) (n ^ (o + s)) f h))] at hM
            change wpList Try.prog _ _ [_] _ _
            refine st hF (g_assign hF rfl) rfl fun a hF => ?_
            refine wpList_nil ?_
            refine tN ?_
            refine sq ?_
            refine sq ?_
            refine wp_region_lit ?_
            refine st hF (g_loadAgg ty_ag_27 hF rfl (hM.row 17 rfl) (by simp only [fnC_size, cells_size, vecC_size, tabC_size, planeC_size, tenC_size, smC_size, numC_size, numI_size] <;> omega) (whole rfl)) rfl fun a hF => st hF (g_loadAgg ty_ag_27 hF rfl (hM.row 5 rfl) (by simp only [fnC_size, cells_size, vecC_size, tabC_size, planeC_size, tenC_size, smC_size, numC_size, numI_size] <;> omega) (whole rfl)) rfl fun a hF => ?_
            refine stR hF (d_call Try.call17 hF (.cons rfl (.cons rfl .nil)) (eqTensor_ok (p : Int) (n : Int) ((i + r : Nat) : Int) ((o + s : Nat) : Int) be25 be7 (n ^ ((i + r) + (o + s))) (fun c => (((sdF p (n ^ o) (n ^ r) (n ^ s) (n ^ (o + s)) f h) c : Nat) : Int)) (fun c => (((sdF p (n ^ o) (n ^ r) (n ^ s) (n ^ (o + s)) f h) c : Nat) : Int)) _ (hM.fz 0 rfl) (hM.fz 1 rfl) (by omega) (fun _ _ => rfl))) rfl ?_
            rintro _ w' a ⟨hx, rfl⟩ hF
            have hM := hM.ext hx
            refine st hF (g_not hF rfl) rfl fun a hF => st hF (g_move hF rfl) rfl fun a hF => stY hF rfl rfl rfl (g_move hF rfl) rfl fun a hF => stY hF rfl rfl rfl (g_move hF rfl) rfl fun a hF => stY hF rfl rfl rfl (g_neq hF rfl rfl) rfl fun a hF => st hF (g_pickF hF rfl rfl) rfl fun a hF => ?_
            refine wpList_nil ?_
            refine tN ?_
            refine c_kF hF rfl (by decide) ?_
            refine wp_skip ?_
            refine tN ?_
            refine sq ?_
            refine wp_region_lit ?_
            refine st hF (g_assign hF rfl) rfl fun a hF => ?_
            refine wpList_nil ?_
            refine tN ?_
            refine sq ?_
            refine wp_region_lit ?_
            refine st hF (g_loadAgg ty_ag_27 hF rfl (hM.row 11 rfl) (by simp only [fnC_size, cells_size, vecC_size, tabC_size, planeC_size, tenC_size, smC_size, numC_size, numI_size] <;> omega) (whole rfl)) rfl fun a hF => st hF (g_move hF rfl) rfl fun a hF => ?_
            refine stR hF (d_call Try.call21 hF (.cons rfl (.cons rfl .nil)) (heldTensor_ok (p : Int) (n : Int) ((i + r : Nat) : Int) ((o + s : Nat) : Int) b12 (n ^ ((i + r) + (o + s))) (1) (fun c => (1) + c) _ (by omega) (by omega) (hM.row 10 rfl) (fun c _ => by omega))) rfl ?_
            rintro _ w' a ⟨hx, rfl⟩ hF
            have hM := hM.ext hx
            refine st hF (g_assign hF rfl) rfl fun a hF => ?_
            refine wpList_nil ?_
            refine tN ?_
            refine sq ?_
            refine sq ?_
            refine wp_region_lit ?_
            refine st hF (g_move hF rfl) rfl fun a hF => st hF (g_lss hF rfl rfl) rfl fun a hF => ?_
            refine wpList_nil ?_
            refine tN ?_
            refine c_kF hF rfl h21 ?_
            refine wp_skip ?_
            refine tN ?_
            refine sq ?_
            refine sq ?_
            refine wp_region_lit ?_
            refine st hF (g_move hF rfl) rfl fun a hF => st hF (g_move hF rfl) rfl fun a hF => st hF (g_neq hF rfl rfl) rfl fun a hF => ?_
            refine wpList_nil ?_
            refine tN ?_
            refine c_kF hF rfl h22 ?_
            refine wp_skip ?_
            refine tN ?_
            refine sq ?_
            refine wp_region_lit ?_
            refine st hF (g_assign hF rfl) rfl fun a hF => ?_
            refine wpList_nil ?_
            refine tN ?_
            refine wp_ret ?_
            refine fin1 rfl hF.defers (res_tmp hF rfl) ⟨_, rfl, hM.below, ?_⟩
            show _ = _
            rfl

theorem law_SideTensors (p n i o : Int) (sl : Value) (m : Nat) (g : Nat → Int) (p2 n2 i2 o2 : Int) (sl2 : Value) (m2 : Nat) (g2 : Nat → Int) (w : World) (hs : ArgSl w sl m g) (hml : m ≤ maxLen) (hs2 : ArgSl w sl2 m2 g2) (hml2 : m2 ≤ maxLen) :
    CallsV Try.prog 9 #[.agg (tenC p n i o sl), .agg (tenC p2 n2 i2 o2 sl2)] w (.bool true) := by
  by_cases hz1 : m ≤ 1048576
  · by_cases hz2 : m + m2 ≤ 1048576
    · by_cases hA : TenP p n i o m g ∧ TenP p2 n2 i2 o2 m2 g2
      · obtain ⟨h1, h2⟩ := hA
        by_cases hR : p = p2 ∧ n = n2
        · obtain ⟨rfl, rfl⟩ := hR
          obtain ⟨p', n', i', o', f, rfl, rfl, rfl, rfl, hpP, hn0, hn, hwa, rfl, hfp, hf⟩ := h1.nat
          obtain ⟨p'', n'', r', s', h, e1, e2, rfl, rfl, -, -, -, hwb, e5, hhp, hh⟩ := h2.nat
          obtain rfl : p' = p'' := by omega
          obtain rfl : n' = n'' := by omega
          subst e5
          by_cases hw : wl n' (i' + r') (o' + s')
          · exact law_SideTensorsB p' n' i' o' r' s' sl sl2 f h w hpP hn0 hn hwa hwb hw hfp hhp (hs.congr hf) (hs2.congr hh)
          · exact law_SideTensorsL p' n' i' o' r' s' sl sl2 f h w hpP hn0 hn hwa hwb hw hfp hhp (hs.congr hf) (hs2.congr hh)
        · exact law_SideTensorsR1 p n i o p2 n2 i2 o2 sl sl2 m m2 g g2 w hs hs2 (by omega) (by omega) hz2 h1 h2 hR
      · exact law_SideTensorsA p n i o p2 n2 i2 o2 sl sl2 m m2 g g2 w hs hs2 (by omega) (by omega) hz2 hA
    · exact law_SideTensorsZ2 p n i o p2 n2 i2 o2 sl sl2 m m2 g g2 w hs hs2 hml hml2 hz1 (by omega)
  · exact law_SideTensorsZ1 p n i o p2 n2 i2 o2 sl sl2 m m2 g g2 w hs hs2 hml hml2 (by omega)

end Go.Proofs.Ythliekalhgafcaa
