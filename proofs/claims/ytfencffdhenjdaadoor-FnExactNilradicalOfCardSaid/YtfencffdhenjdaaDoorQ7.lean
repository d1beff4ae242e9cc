/- What functions of the program return, as walks over their operations; no statement of the seat is proved here. -/
import Derived.Test.YtfencffdhenjdaaDoorK5
import Derived.Test.YtfencffdhenjdaaDoorSw30
import Derived.Test.YtfencffdhenjdaaDoorSw47
import Derived.Test.YtfencffdhenjdaaDoorEch10
set_option linter.unusedVariables false
set_option linter.unusedSimpArgs false
namespace Go.Proofs.YtfencffdhenjdaaDoor
open Go Go.RowKit Go.Sw Go.Ech
open Classical

end Go.Proofs.YtfencffdhenjdaaDoor

namespace Go.Proofs.YtfencffdhenjdaaDoor
open Go Go.RowKit Go.Sw Go.Ech
open Classical
theorem ty_bs0_27 : ∀ w, (Instr.buildSlice 27 0 #[]).run Tryd.prog w = .ok (.slice (some ⟨w.heap.size, 0, none⟩) 0 0) (w.alloc (.cells #[] 30)) := by intros; kernel_rfl
theorem ty_bsg_27_1 : ∀ (v0 : Nat → Nat) (w : World), (Instr.buildSlice 27 1 #[(0, .agg (vecC v0))]).run Tryd.prog w = .ok (.slice (some ⟨w.heap.size, 0, none⟩) 1 1) (w.alloc (.cells (vecsC 1 (vAtL [v0])) 30)) := by intros; kernel_rfl
theorem ty_si_27 : slI Tryd.prog 27 = some (30, some (.agg (fnC 6 (fun _ => .int .u8 (0)))), 6, 6) := by kernel_rfl
theorem l01Vectors_ok (p n m b0 c0 : Nat) (cs0 : Array Value) (D0 : Froz) (β0 κ0 : Nat → Nat) (C0 : Nat → Array Value) (M : Nat → Nat → Nat) (w : World) (hp13 : p ≤ 13) (hn0 : 0 < n) (hn : n ≤ 6) (hm0 : 0 < m) (hm2 : m < 1000) (hM1 : ∀ i c, M i c < p) (hD0 : ∀ b cs, (b, cs) ∈ D0 → Blk w b cs) (hb0 : (b0, cs0) ∈ D0) (hg0 : ∀ i, i < m → cs0[0 + i * 1]? = some (.slice (some ⟨β0 i, 0, none⟩) n (κ0 i))) (hR0 : RowsD D0 n m β0 κ0 C0 (fun i c => .int .i64 ((M i c : Nat) : Int))) :
    CallsR Tryd.prog 38 #[.slice (some ⟨b0, 0, none⟩) (m) (c0)] w (fun u w' => OwnSl 6 w m (fun c => .int .u8 (((padN n M) (c / 6) (c % 6) : Nat) : Int)) u w') := by
  refine calls_fr [.slice (some ⟨b0, 0, none⟩) (m) (c0)] Tryd.func38 rfl Tryd.ntmps38 rfl fun a hF => ?_
  have hM : Mem w w [none, none, none] D0 := MemX.startD w 3 _ hD0
  change Fr 39 a [(0, .slice (some ⟨b0, 0, none⟩) (m) (c0))] at hF
  have hDD : ∀ x ∈ D0, x ∈ D0 := fun _ h => h
  refine sq ?_
  refine wp_region_lit ?_
  refine st hF (g_assign hF rfl) rfl fun a hF => ?_
  refine wpList_nil ?_
  refine tN ?_
  refine sq ?_
  refine wp_region_lit ?_
  refine stR hF (d_buildC 0 hM hF rfl ty_bs0_27) rfl ?_
  rintro _ w' a ⟨b1, rfl, hM, -⟩ hF
  change Mem w w' [some (b1, #[]), none, none] D0 at hM
  refine st hF (g_assign hF rfl) rfl fun a hF => ?_
  refine wpList_nil ?_
  refine tN ?_
  refine sq ?_
  refine sq ?_
  refine wp_region_lit ?_
  refine st hF (g_assign hF rfl) rfl fun a hF => ?_
  refine wpList_nil ?_
  refine tN ?_
  refine wp_block ?_
  change Mem w _ [some (b1, #[]), none, none] D0 at hM
  refine c_loop (fun (kk : Nat) a w' => kk ≤ m ∧ (True) ∧ ∃ (u3_1 : Value) (e3_1 : Option (Nat × Array Value)), Sl 6 u3_1 e3_1 (kk) (fun c => .int .u8 (((padN n M) (c / 6) (c % 6) : Nat) : Int)) ∧ Fr 39 a [(0, .slice (some ⟨b0, 0, none⟩) (m) (c0)), (2, .slice none 0 0), (7, .slice (some ⟨b1, 0, none⟩) (0) (0)), (4, .int .i64 (((kk : Nat) : Int))), (3, u3_1)] ∧ Mem w w' [e3_1, none, none] D0) (fun kk => m - kk) 0 ?_ ?_
  ·
    refine ⟨by omega, trivial, (.slice (some ⟨b1, 0, none⟩) (0) (0)), (some (b1, #[])), (Sl.empty 6 _ _), hF.sub _ (by repeat' constructor), ?_⟩
    exact hM
  ·
    clear hF hM
    rintro gi a w' ⟨hgi, hinv1, u3_1, e3_1, hsl, hF, hM⟩
    refine sq ?_
    refine sq ?_
    refine wp_region_lit ?_
    refine st hF (g_move hF rfl) rfl fun a hF => st hF (g_move hF rfl) rfl fun a hF => st hF (g_len ty_us_56 hF rfl) rfl fun a hF => st hF (g_lss hF rfl rfl) rfl fun a hF => ?_
    refine wpList_nil ?_
    refine tN ?_
    refine c_cond hF rfl (fun h2 => ?_) (fun h2 => ?_)
    ·
      refine wp_skip ?_
      refine tN ?_
      refine sq ?_
      refine wp_block ?_
      refine sq ?_
      refine wp_region_lit ?_
      refine st hF (g_build0 ty_bu_30) rfl fun a hF => ?_
      refine stR hF (d_alloc 1 hM ty_ze_30) rfl ?_
      rintro _ w' a ⟨b3, rfl, hM, -⟩ hF
      change Mem w w' [e3_1, some (b3, fnC 6 (fun _ => .int .u8 (0))), none] D0 at hM
      refine stN hF (d_storeAgg 1 hM rfl ty_sz_30 hF rfl rfl (by first | exact vecC_one | exact cells_one | (refine fnC_one fun _ _ => ?_; first | rfl | (split <;> rfl))) (by simp only [fnC_size, cells_size, vecC_size, tabC_size, planeC_size, dgC_size]) (by simp only [fnC_size, cells_size, vecC_size, tabC_size, planeC_size, dgC_size] <;> omega) (splice_whole _ _ (by simp only [fnC_size, cells_size, vecC_size, tabC_size, planeC_size, dgC_size]))) ?_
      intro _ w' a hM hF
      change Mem w w' [e3_1, some (b3, fnC 6 (fun _ => .int .u8 (0))), none] D0 at hM
      refine wpList_nil ?_
      refine tN ?_
      refine sq ?_
      refine sq ?_
      refine wp_region_lit ?_
      refine st hF (g_assign hF rfl) rfl fun a hF => ?_
      refine wpList_nil ?_
      refine tN ?_
      refine wp_block ?_
      change Mem w _ [e3_1, some (b3, fnC 6 (fun _ => .int .u8 (0))), none] D0 at hM
      refine c_loop (fun (kk : Nat) a w' => kk ≤ n ∧ (True) ∧ Fr 39 a [(0, .slice (some ⟨b0, 0, none⟩) (m) (c0)), (2, .slice none 0 0), (7, .slice (some ⟨b1, 0, none⟩) (0) (0)), (4, .int .i64 (((gi : Nat) : Int))), (3, u3_1), (8, .int .i64 (((gi : Nat) : Int))), (9, .slice (some ⟨b0, 0, none⟩) (m) (c0)), (10, .int .i64 (((m : Nat) : Int))), (11, .bool (decide ((((gi : Nat) : Int) : Int) < ((m : Nat) : Int)))), (14, .agg (fnC 6 (fun _ => .int .u8 (0)))), (5, ptr b3 (0)), (6, .int .i64 (((kk : Nat) : Int)))] ∧ Mem w w' [e3_1, some (b3, vecC (fun c => if c < kk then M gi c else 0)), none] D0) (fun kk => n - kk) 0 ?_ ?_
      ·
        refine ⟨by omega, trivial, hF.sub _ (by repeat' constructor), ?_⟩
        exact hM.rowc 1 rfl (dgC_congr (m := 6) (f := fun _ => 0) fun c hc => by simp)
      ·
        clear hF hM
        rintro gj a w' ⟨hgj, hinv2, hF, hM⟩
        have hMgj := hM1 gi gj
        refine sq ?_
        refine sq ?_
        refine wp_region_lit ?_
        refine st hF (g_move hF rfl) rfl fun a hF => st hF (g_move hF rfl) rfl fun a hF => st hF (g_move hF rfl) rfl fun a hF => st hF (g_indexSl (i := gi) ty_sl_56 hF rfl rfl rfl (by omega)) rfl fun a hF => st hF (g_load ty_on_57 hF rfl (hM.fzm (hDD _ hb0)) (hg0 (gi) (by omega))) rfl fun a hF => st hF (g_len ty_us_57 hF rfl) rfl fun a hF => st hF (g_lss hF rfl rfl) rfl fun a hF => ?_
        refine wpList_nil ?_
        refine tN ?_
        refine c_cond hF rfl (fun h4 => ?_) (fun h4 => ?_)
        ·
          refine wp_skip ?_
          refine tN ?_
          refine sq ?_
          refine wp_block ?_
          refine wp_region_lit ?_
          refine st hF (g_move hF rfl) rfl fun a hF => st hF (g_move hF rfl) rfl fun a hF => st hF (g_move hF rfl) rfl fun a hF => st hF (g_indexSl (i := gi) ty_sl_56 hF rfl rfl rfl (by omega)) rfl fun a hF => st hF (g_load ty_on_57 hF rfl (hM.fzm (hDD _ hb0)) (hg0 (gi) (by omega))) rfl fun a hF => st hF (g_move hF rfl) rfl fun a hF => st hF (g_indexSl (i := gj) ty_sl_57 hF rfl rfl rfl (by omega)) rfl fun a hF => st hF (g_load ty_on_2 hF rfl (hM.fzm (hDD _ (hR0.mem (gi) (by omega)))) (hR0.get (i := gi) (by omega) (gj) (by omega))) rfl fun a hF => st hF (g_conv ty_un_5 ty_ud_2 hF rfl (wrap_u8 (by omega) (by have := hM1 gi gj; omega))) rfl fun a hF => st hF (g_indexAddr ty_ar_30 hF rfl rfl rfl (by omega)) rfl fun a hF => ?_
          refine stN hF (d_store 1 hM rfl ty_on_5 hF rfl rfl rfl (by first | omega | (simp only [fnC_size, cells_size, vecC_size, tabC_size, planeC_size, dgC_size] <;> omega))) ?_
          intro _ w' a hM hF
          change Mem w w' [e3_1, some (b3, (vecC (fun c => if c < gj then M gi c else 0)).setIfInBounds (0 + (gj) * 1) (.int .u8 (((M (gi) (gj) : Nat) : Int)))), none] D0 at hM
          refine wpList_nil ?_
          refine iN ?_
          refine tN ?_
          refine wp_region_lit ?_
          refine st hF (g_move hF rfl) rfl fun a hF => st hF (g_add hF rfl rfl (add_nat (gj) (1) (by omega))) rfl fun a hF => st hF (g_assign hF rfl) rfl fun a hF => ?_
          refine wpList_nil ?_
          refine tN ?_
          refine ⟨gj + 1, ⟨by omega, trivial, hF.sub _ (by repeat' constructor), ?_⟩, by omega⟩
          refine hM.rowc 1 rfl (dgC_set (m := 6) (k := gj) (f := fun c => if c < gj then M gi c else 0) (g := fun c => if c < gj + 1 then M gi c else 0) (by omega) (by simp) (fun c hc he => ?_))
          have e0 : (c < gj + 1) = (c < gj) := by apply propext; omega
          simp only [e0]
        ·
          obtain rfl : n = gj := by omega
          have hM := hM.rowc (cs' := vecC ((padN n M) gi)) 1 rfl (dgC_congr (m := 6) (f := fun c => if c < n then M gi c else 0) (g := (padN n M) gi) fun c hc => rfl)
          refine wp_exit ?_
          refine tX ?_
          refine tX ?_
          refine ib_same ?_
          refine tN ?_
          refine wp_region_lit ?_
          refine st hF (g_move hF rfl) rfl fun a hF => st hF (g_loadAgg ty_ag_30 hF rfl (hM.row 1 rfl) (by simp only [fnC_size, cells_size, vecC_size, tabC_size, planeC_size, dgC_size] <;> omega) (whole (by simp only [fnC_size, cells_size, vecC_size, tabC_size, planeC_size, dgC_size]))) rfl fun a hF => ?_
          refine stR hF (d_buildC (vs := [(0, .agg (vecC ((padN n M) gi)))]) 2 hM hF (build1 hF rfl) (fun w => ty_bsg_27_1 ((padN n M) gi) w)) rfl ?_
          rintro _ w' a ⟨b5, rfl, hM, -⟩ hF
          change Mem w w' [e3_1, some (b3, vecC ((padN n M) gi)), some (b5, vecsC 1 (vAtL [((padN n M) gi)]))] D0 at hM
          refine stR hF (d_append (k := 0) (N := gi) (m := 1) (f := (fun c => .int .u8 (((padN n M) (c / 6) (c % 6) : Nat) : Int))) (g := fun q => .int .u8 ((((((padN n M) gi)) q : Nat)) : Int)) ty_si_27 rfl (by decide) hM rfl hF rfl rfl hsl (fun q hq => ((hM.row 2 rfl).cell _).trans (vecs1_get q hq)) (fun _ _ => rfl) (by decide) (by unfold maxLen; omega) (by omega)) rfl ?_
          rintro u6 w' a ⟨e7, hM, hs8⟩ hF
          change Mem w w' [e7, some (b3, vecC ((padN n M) gi)), some (b5, vecsC 1 (vAtL [((padN n M) gi)]))] D0 at hM
          refine st hF (g_assign hF rfl) rfl fun a hF => ?_
          refine wpList_nil ?_
          refine iN ?_
          refine tN ?_
          refine wp_region_lit ?_
          refine st hF (g_move hF rfl) rfl fun a hF => st hF (g_add hF rfl rfl (add_nat (gi) (1) (by omega))) rfl fun a hF => st hF (g_assign hF rfl) rfl fun a hF => ?_
          refine wpList_nil ?_
          refine tN ?_
          have hM := hM.drop 1
          have hM := hM.drop 2
          refine ⟨gi + 1, ⟨by omega, trivial, (u6), (e7), (Sl.snoc6 (N := gi) (F := (fun c => .int .u8 (((padN n M) (c / 6) (c % 6) : Nat) : Int))) (G := fun q => .int .u8 (((padN n M) gi q : Nat) : Int)) hs8 (fun q hq => by rw [show (gi * 6 + q) / 6 = gi by omega, show (gi * 6 + q) % 6 = q by omega])), hF.sub _ (by repeat' constructor), ?_⟩, by omega⟩
          exact hM
    ·
      obtain rfl : m = gi := by omega
      refine wp_exit ?_
      refine tX ?_
      refine tX ?_
      refine ib_same ?_
      refine tN ?_
      refine sq ?_
      refine wp_region_lit ?_
      refine st hF (g_move hF rfl) rfl fun a hF => st hF (g_assign hF rfl) rfl fun a hF => ?_
      refine wpList_nil ?_
      refine tN ?_
      refine wp_ret ?_
      refine fin1 rfl hF.defers (res_tmp hF rfl) ⟨_, rfl, hM.below, ?_⟩
      exact OwnSl.pos hM (k := 0) rfl hsl hm0

end Go.Proofs.YtfencffdhenjdaaDoor
