/- What functions of the program return, as walks over their operations; no statement of the seat is proved here. -/
import Derived.Test.YtbeodbfbfbefkaaDoorH4
import Derived.Test.YtbeodbfbfbefkaaDoorSw20
set_option linter.unusedVariables false
set_option linter.unusedSimpArgs false
namespace Go.Proofs.YtbeodbfbfbefkaaDoor
open Go Go.RowKit Go.Sw Go.Ech
theorem ty_mk_85_6 : ∀ w, (Instr.makeSlice 85 (.int .i64 ((6 : Nat) : Int)) (.int .i64 ((6 : Nat) : Int))).run Tryd.prog w = .ok (.slice (some ⟨w.heap.size, 0, none⟩) 6 6) (w.alloc (.cells (fnC 6 (fun _ => .int .u8 (0))) 5)) := by intros; kernel_rfl
theorem leadingPlace_row {p N k : Nat} {E : Nat → Nat → Nat} {ld : Nat → Nat} {w : World} (b c : Nat) {cs : Array Value} {i : Nat} (hb : Blk w b cs) (hg : ∀ c, c < N → cs[0 + c * 1]? = some (.int .u8 ((E i c : Nat) : Int))) (hN : N < 1000) (h : Rref p N E k ld) (hi : i < k) :
    CallsR Tryd.prog 95 #[.slice (some ⟨b, 0, none⟩) N c] w (fun res _ => res = .int .i64 ((ld i : Nat) : Int)) := by
  have := leadingPlace_ok b 0 c N cs (fun c => E i c) w hb hg hN
  rwa [leadN_row h hi] at this

theorem solveRows_ok (p m b0 c0 : Nat) (cs0 : Array Value) (γ : Nat → Nat) (M : Nat → Nat → Nat) (w : World) (hp : primeN p) (hm2 : m < 1000) (hmc : m ≤ c0) (hM1 : ∀ i c, M i c < p) (hb0 : Blk w b0 cs0) (hsz0 : m ≤ cs0.size) (hg0 : ∀ i, i < m → cs0[0 + i * 1]? = some (.slice (some ⟨γ i, 0, none⟩) 7 7)) (hbr : ∀ i, i < m → Blk w (γ i) (fnC 7 (fun c => .int .u8 ((M i c : Nat) : Int)))) (hinj : ∀ i j, i < m → j < m → γ i = γ j → i = j) (hne0 : ∀ i, i < m → γ i ≠ b0) :
    CallsX Tryd.prog (rowsX b0 m γ) 70 #[.slice (some ⟨b0, 0, none⟩) (m) (c0), .int .i64 (((p : Nat) : Int))] w (fun u _ => ∃ k E ld, Rref p 7 E k ld ∧ (∀ x, Ker p 7 E k x ↔ Ker p 7 M m x) ∧ (∀ i c, E i c < p) ∧ ((¬ isLd k ld 6 ∧ u = .tuple #[.agg (vecC (fun c => solK E ld 6 k c)), .bool true]) ∨ (isLd k ld 6 ∧ u = .tuple #[.agg (vecC (fun _ => 0)), .bool false]))) := by
  refine calls_frX [.slice (some ⟨b0, 0, none⟩) (m) (c0), .int .i64 (((p : Nat) : Int))] Tryd.func70 rfl Tryd.ntmps70 rfl fun a hF => ?_
  have hp2 := hp.two
  have hp13 := hp.le
  have hM : MemX (rowsX b0 m γ) w w [none, none] (rowsD0 b0 cs0 7 m γ M) := MemX.startXD _ w 2 _ (rowsD0_all hb0 hbr)
  change Fr 34 a [(0, .slice (some ⟨b0, 0, none⟩) (m) (c0)), (1, .int .i64 (((p : Nat) : Int)))] at hF
  refine sq (wp_region_lit ?_)
  refine stR hF (d_alloc 0 hM ty_ze_30) rfl ?_
  rintro _ w' a ⟨b1, rfl, hM, -⟩ hF
  change MemX (rowsX b0 m γ) w w' [some (b1, fnC 6 (fun _ => .int .u8 (0))), none] (rowsD0 b0 cs0 7 m γ M) at hM
  refine st hF (g_assign hF rfl) rfl fun a hF => ?_
  refine wpList_nil (tN (sq (wp_region_lit ?_)))
  refine stR hF (d_makeC (len := 6) 1 hM hF rfl rfl ty_mk_85_6) rfl ?_
  rintro _ w' a ⟨b2, rfl, hM, -⟩ hF
  change MemX (rowsX b0 m γ) w w' [some (b1, fnC 6 (fun _ => .int .u8 (0))), some (b2, fnC 6 (fun _ => .int .u8 (0)))] (rowsD0 b0 cs0 7 m γ M) at hM
  refine st hF (g_assign hF rfl) rfl fun a hF => ?_
  refine wpList_nil (tN (sq (sq (wp_region_lit ?_))))
  refine st hF (g_move hF rfl) rfl fun a hF => st hF (g_move hF rfl) rfl fun a hF => ?_
  refine stR hF (d_callX Tryd.call94 hF (.cons rfl (.cons rfl .nil)) (reduceRows_ok p 7 m b0 c0 cs0 γ M _ hp (by omega) (by omega) (by omega) hmc hM1 (hM.fzm rowsD0_0) hsz0 hg0 (fun i hi => hM.fzm (rowsD0_i hi)) hinj hne0)) rfl ?_
  rintro _ w' a ⟨hx, k, E, γ', ld, cs', rfl, hkm, hE, hKer, hE1, hb0', hg0', hbr', hgX'⟩ hF
  have hM := hM.swapD (D' := (rowsD0 b0 cs' 7 m γ' E)) hx rowsD0_Y (fun y hy => .inr hy) (rowsD0_all ⟨hb0', .inr (List.mem_cons_self ..)⟩ (fun i hi => ⟨hbr' i hi, hgX' i hi⟩))
  change MemX (rowsX b0 m γ) w w' [some (b1, fnC 6 (fun _ => .int .u8 (0))), some (b2, fnC 6 (fun _ => .int .u8 (0)))] (rowsD0 b0 cs' 7 m γ' E) at hM
  refine st hF (g_len ty_us_81 hF rfl) rfl fun a hF => st hF (g_move hF rfl) rfl fun a hF => ?_
  refine wpList_nil (tN (wp_block ?_))
  change MemX (rowsX b0 m γ) w _ [some (b1, fnC 6 (fun _ => .int .u8 (0))), some (b2, fnC 6 (fun _ => .int .u8 (0)))] (rowsD0 b0 cs' 7 m γ' E) at hM
  refine c_loop (fun (kk : Nat) a w' => kk ≤ k ∧ (∀ i, i < kk → ld i < 6) ∧ Fr 34 a [(0, .slice (some ⟨b0, 0, none⟩) (m) (c0)), (1, .int .i64 (((p : Nat) : Int))), (4, ptr b1 (0)), (10, .slice (some ⟨b2, 0, none⟩) (6) (6)), (6, .slice (some ⟨b2, 0, none⟩) (6) (6)), (11, .slice (some ⟨b0, 0, none⟩) (m) (c0)), (12, .int .i64 (((p : Nat) : Int))), (13, .slice (some ⟨b0, 0, none⟩) (k) (c0)), (14, .int .i64 (((k : Nat) : Int))), (15, .int .i64 (((kk : Nat) : Int)))] ∧ MemX (rowsX b0 m γ) w w' [some (b1, fnC 6 (fun _ => .int .u8 (0))), some (b2, fnC 6 (fun c => .int .u8 ((solK E ld 6 kk c : Nat) : Int)))] (rowsD0 b0 cs' 7 m γ' E)) (fun kk => k - kk) 0 ?_ ?_
  ·
   refine ⟨by omega, fun i hi => absurd hi (by omega), hF.sub _ (by repeat' constructor), ?_⟩
   exact hM.rowc 1 rfl (fnC_congr fun c hc => by rw [solK_zero]; rfl)
  ·
   clear hF hM
   rintro gi a w' ⟨hgi, hinv1, hF, hM⟩
   refine sq (wp_region_lit ?_)
   refine st hF (g_lss hF rfl rfl) rfl fun a hF => ?_
   refine wpList_nil (tN (sq ?_))
   refine c_cond hF rfl (fun h3 => ?_) (fun h3 => ?_)
   ·
    refine wp_skip (tN (sq (wp_block (sq (wp_region_lit ?_)))))
    refine st hF (g_indexSl (i := gi) ty_sl_81 hF rfl rfl rfl (by omega)) rfl fun a hF => st hF (g_load ty_on_85 hF rfl (hM.fzm rowsD0_0) (hg0' (gi) (by omega))) rfl fun a hF => st hF (g_assign hF rfl) rfl fun a hF => ?_
    refine wpList_nil (tN (sq ?_))
    have hlt := hE.lt gi (by omega)
    refine wp_region_lit ?_
    refine st hF (g_move hF rfl) rfl fun a hF => ?_
    refine stR hF (d_call Tryd.call95 hF (.cons rfl .nil) ((leadingPlace_row (γ' (gi)) (7) (hM.fzm (rowsD0_i (show gi < m by omega))) (fun i hi => fnC_getE i (by omega) hi rfl) (by omega) hE (i := gi) (by omega)))) rfl ?_
    rintro _ w' a ⟨hx, rfl⟩ hF
    have hM := hM.ext hx
    refine st hF (g_assign hF rfl) rfl fun a hF => ?_
    refine wpList_nil (tN (sq (sq (wp_region_lit ?_))))
    refine st hF (g_move hF rfl) rfl fun a hF => st hF (g_eql hF rfl rfl) rfl fun a hF => ?_
    refine wpList_nil (tN ?_)
    refine c_cond hF rfl (fun h4 => ?_) (fun h4 => ?_)
    ·
     refine sq (wp_region_lit ?_)
     refine st hF (g_build0 ty_bu_30) rfl fun a hF => ?_
     refine stN hF (d_storeAgg 0 hM rfl ty_sz_30 hF rfl rfl (by first | exact vecC_one | exact cells_one | (refine fnC_one fun _ _ => ?_; first | rfl | (split <;> rfl))) (by simp only [fnC_size, cells_size, vecC_size, tabC_size, planeC_size]) (by simp only [fnC_size, cells_size, vecC_size, tabC_size, planeC_size] <;> omega) (splice_whole _ _ (by simp only [fnC_size, cells_size, vecC_size, tabC_size, planeC_size]))) ?_
     intro _ w' a hM hF
     change MemX (rowsX b0 m γ) w w' [some (b1, fnC 6 (fun _ => .int .u8 (0))), some (b2, fnC 6 (fun c => .int .u8 ((solK E ld 6 gi c : Nat) : Int)))] (rowsD0 b0 cs' 7 m γ' E) at hM
     refine st hF (g_assign hF rfl) rfl fun a hF => ?_
     refine wpList_nil (tN (wp_ret (tR (iR (tR (tR (iR (tR ?_))))))))
     refine fin2 rfl hF.defers (res_agg ty_ag_30 hF rfl (hM.row 0 rfl) (by simp only [fnC_size, cells_size, vecC_size, tabC_size, planeC_size])) (res_tmp hF rfl) ⟨_, rfl, hM.bel, ?_⟩
     exact ⟨k, E, ld, hE, hKer, hE1, .inr ⟨⟨gi, by omega, by omega⟩, rfl⟩⟩
    ·
     refine wp_skip (tN (wp_region_lit ?_))
     refine st hF (g_move hF rfl) rfl fun a hF => st hF (g_move hF rfl) rfl fun a hF => st hF (g_move hF rfl) rfl fun a hF => st hF (g_indexSl (i := 6) ty_sl_85 hF rfl rfl rfl (by omega)) rfl fun a hF => st hF (g_load ty_on_5 hF rfl (hM.fzm (rowsD0_i (show gi < m by omega))) (fnC_getE (6) (by omega) (by omega) rfl)) rfl fun a hF => st hF (g_indexSl (i := ld (gi)) ty_sl_85 hF rfl rfl rfl (by omega)) rfl fun a hF => ?_
     refine stN hF (d_store 1 hM rfl ty_on_5 hF rfl rfl rfl (by first | omega | (simp only [fnC_size, cells_size, vecC_size, tabC_size, planeC_size] <;> omega) | simp)) ?_
     intro _ w' a hM hF
     rw [show (fnC 6 (fun c => .int .u8 ((solK E ld 6 gi c : Nat) : Int))).setIfInBounds (0 + (ld (gi)) * 1) (.int .u8 (((E (gi) (6) : Nat) : Int))) = fnC 6 (fun c => .int .u8 (((if c = ld (gi) then E (gi) (6) else solK E ld 6 gi c) : Nat) : Int)) from fnC_set (fun c _ => by rw [show 0 + (ld (gi)) * 1 = ld (gi) by omega]; by_cases hh : c = ld (gi) <;> simp [hh])] at hM
     change MemX (rowsX b0 m γ) w w' [some (b1, fnC 6 (fun _ => .int .u8 (0))), some (b2, fnC 6 (fun c => .int .u8 (((if c = ld (gi) then E (gi) (6) else solK E ld 6 gi c) : Nat) : Int)))] (rowsD0 b0 cs' 7 m γ' E) at hM
     refine wpList_nil (iN (tN (wp_region_lit ?_)))
     refine st hF (g_add hF rfl rfl (add_nat (gi) (1) (by omega))) rfl fun a hF => st hF (g_move hF rfl) rfl fun a hF => ?_
     refine wpList_nil (tN ?_)
     refine ⟨gi + 1, ⟨by omega, allS hinv1 (by omega), hF.sub _ (by repeat' constructor), ?_⟩, by omega⟩
     refine hM.rowc 1 rfl (fnC_congr fun c hc => congrArg (Value.int .u8) (congrArg Nat.cast (solK_succ hE (by omega)).symm))
   ·
    obtain rfl : k = gi := by omega
    refine wp_exit (tX (tX ?_))
    refine ib_same ?_
    refine tN (sq (wp_region_lit ?_))
    refine st hF (g_move hF rfl) rfl fun a hF => st hF (g_toArr ty_ua_30 hF rfl (by omega)) rfl fun a hF => st hF (g_loadAgg ty_ag_30 hF rfl (hM.row 1 rfl) (by simp only [fnC_size, cells_size, vecC_size, tabC_size, planeC_size] <;> omega) (whole (by simp only [fnC_size, cells_size, vecC_size, tabC_size, planeC_size]))) rfl fun a hF => ?_
    refine stN hF (d_storeAgg 0 hM rfl ty_sz_30 hF rfl rfl (by first | exact vecC_one | exact cells_one | (refine fnC_one fun _ _ => ?_; first | rfl | (split <;> rfl))) (by simp only [fnC_size, cells_size, vecC_size, tabC_size, planeC_size]) (by simp only [fnC_size, cells_size, vecC_size, tabC_size, planeC_size] <;> omega) (splice_whole _ _ (by simp only [fnC_size, cells_size, vecC_size, tabC_size, planeC_size]))) ?_
    intro _ w' a hM hF
    change MemX (rowsX b0 m γ) w w' [some (b1, fnC 6 (fun c => .int .u8 ((solK E ld 6 k c : Nat) : Int))), some (b2, fnC 6 (fun c => .int .u8 ((solK E ld 6 k c : Nat) : Int)))] (rowsD0 b0 cs' 7 m γ' E) at hM
    refine st hF (g_assign hF rfl) rfl fun a hF => ?_
    refine wpList_nil (tN (wp_ret ?_))
    refine fin2 rfl hF.defers (res_agg ty_ag_30 hF rfl (hM.row 0 rfl) (by simp only [fnC_size, cells_size, vecC_size, tabC_size, planeC_size])) (res_tmp hF rfl) ⟨_, rfl, hM.bel, ?_⟩
    exact ⟨k, E, ld, hE, hKer, hE1, .inl ⟨fun ⟨i, hi, e⟩ => by have := hinv1 i hi; omega, rfl⟩⟩

end Go.Proofs.YtbeodbfbfbefkaaDoor
