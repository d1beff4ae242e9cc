/- What functions of the program return, as walks over their operations; no statement of the seat is proved here. -/
import Derived.Test.YtbeodbfbfbefkaaDoorY4
set_option linter.unusedVariables false
set_option linter.unusedSimpArgs false
namespace Go.Proofs.YtbeodbfbfbefkaaDoor
open Go Go.RowKit Go.Sw Go.Ech
open Classical
theorem basisOf_ok (p n : Nat) (T : Nat → Nat → Nat → Nat) (f : Nat → Nat) (w : World) (hn0 : 0 < n) (hn : n ≤ 6) :
    CallsR Tryd.prog 71 #[.agg (algC (p : Int) (n : Int) T f)] w (fun u w' => OwnSl 6 w n (fun c => .int .u8 (((fun i q => if q = i then 1 else 0) (c / 6) (c % 6) : Nat) : Int)) u w') := by
  refine calls_fr [.agg (algC (p : Int) (n : Int) T f)] Tryd.func71 rfl Tryd.ntmps71 rfl fun a hF => ?_
  have hM : Mem w w [none, none, none] [] := MemX.start w 3
  change Fr 17 a [(0, .agg (algC (p : Int) (n : Int) T f))] at hF
  refine sq (wp_region_lit ?_)
  refine stR hF (d_box 0 hM hF rfl) rfl ?_
  rintro _ w' a ⟨b1, rfl, hM, -⟩ hF
  change Mem w w' [some (b1, algC (p : Int) (n : Int) T f), none, none] [] at hM
  refine st hF (g_assign hF rfl) rfl fun a hF => ?_
  refine wpList_nil (tN (sq (wp_region_lit ?_)))
  refine st hF (g_assign hF rfl) rfl fun a hF => ?_
  refine wpList_nil (tN (sq (sq (wp_region_lit ?_))))
  refine st hF (g_fieldAddr ty_fo_32_1 hF rfl) rfl fun a hF => st hF (g_load ty_on_2 hF rfl (hM.row 0 rfl) (algC_n (by omega))) rfl fun a hF => st hF (g_move hF rfl) rfl fun a hF => ?_
  refine wpList_nil (tN (wp_block ?_))
  change Mem w _ [some (b1, algC (p : Int) (n : Int) T f), none, none] [] at hM
  refine c_loop (fun (kk : Nat) a w' => kk ≤ n ∧ (True) ∧ ∃ (u3_1 : Value) (e3_1 : Option (Nat × Array Value)), Sl 6 u3_1 e3_1 (kk) (fun c => .int .u8 (((fun i q => if q = i then 1 else 0) (c / 6) (c % 6) : Nat) : Int)) ∧ Fr 17 a [(0, .agg (algC (p : Int) (n : Int) T f)), (1, ptr b1 (0)), (2, .slice none 0 0), (5, ptr b1 (0 + 1)), (6, .int .i64 (((n : Nat) : Int))), (7, .int .i64 (((kk : Nat) : Int))), (3, u3_1)] ∧ Mem w w' [some (b1, algC (p : Int) (n : Int) T f), none, e3_1] []) (fun kk => n - kk) 0 ?_ ?_
  ·
   refine ⟨by omega, trivial, (.slice none 0 0), (none), (Sl.nil 6 _), hF.sub _ (by repeat' constructor), ?_⟩
   exact hM
  ·
   clear hF hM
   rintro gj a w' ⟨hgj, hinv1, u3_1, e3_1, hsl, hF, hM⟩
   refine sq (wp_region_lit ?_)
   refine st hF (g_lss hF rfl rfl) rfl fun a hF => ?_
   refine wpList_nil (tN (sq ?_))
   refine c_cond hF rfl (fun h2 => ?_) (fun h2 => ?_)
   ·
    refine wp_skip (tN (sq (wp_block (sq (wp_region_lit ?_)))))
    refine st hF (g_move hF rfl) rfl fun a hF => st hF (g_assign hF rfl) rfl fun a hF => ?_
    refine wpList_nil (tN (wp_region_lit ?_))
    refine st hF (g_move hF rfl) rfl fun a hF => st hF (g_move hF rfl) rfl fun a hF => ?_
    refine stR hF (d_call Tryd.call68 hF (.cons rfl .nil) (basisVector_ok (gj) _ (by omega))) rfl ?_
    rintro _ w' a ⟨hx, rfl⟩ hF
    have hM := hM.ext hx
    refine stR hF (d_buildC (vs := [(0, .agg (vecC (fun c => if c = gj then 1 else 0)))]) 1 hM hF (build1 hF rfl) (fun w => ty_bsg_27_1 (fun c => if c = gj then 1 else 0) w)) rfl ?_
    rintro _ w' a ⟨b3, rfl, hM, -⟩ hF
    change Mem w w' [some (b1, algC (p : Int) (n : Int) T f), some (b3, vecsC 1 (vAtL [(fun c => if c = gj then 1 else 0)])), e3_1] [] at hM
    refine stR hF (d_append (k := 2) (N := gj) (m := 1) (f := (fun c => .int .u8 (((fun i q => if q = i then 1 else 0) (c / 6) (c % 6) : Nat) : Int))) (g := fun q => .int .u8 (((((fun c => if c = gj then 1 else 0)) q : Nat)) : Int)) ty_si_27 rfl (by decide) hM rfl hF rfl rfl hsl (fun q hq => ((hM.row 1 rfl).cell _).trans (vecs1_get q hq)) (fun _ _ => rfl) (by decide) (by unfold maxLen; omega) (by omega)) rfl ?_
    rintro u4 w' a ⟨e5, hM, hs6⟩ hF
    change Mem w w' [some (b1, algC (p : Int) (n : Int) T f), some (b3, vecsC 1 (vAtL [(fun c => if c = gj then 1 else 0)])), e5] [] at hM
    refine st hF (g_assign hF rfl) rfl fun a hF => ?_
    refine wpList_nil (iN (tN (wp_region_lit ?_)))
    refine st hF (g_add hF rfl rfl (add_nat (gj) (1) (by omega))) rfl fun a hF => st hF (g_move hF rfl) rfl fun a hF => ?_
    refine wpList_nil (tN ?_)
    have hM := hM.drop 1
    refine ⟨gj + 1, ⟨by omega, trivial, (u4), (e5), (Sl.snoc6 (N := gj) (F := (fun c => .int .u8 (((fun i q => if q = i then 1 else 0) (c / 6) (c % 6) : Nat) : Int))) (G := fun q => .int .u8 (((if q = gj then 1 else 0 : Nat) : Nat) : Int)) hs6 (fun q hq => by rw [show (gj * 6 + q) / 6 = gj by omega, show (gj * 6 + q) % 6 = q by omega])), hF.sub _ (by repeat' constructor), ?_⟩, by omega⟩
    exact hM
   ·
    obtain rfl : n = gj := by omega
    refine wp_exit (tX (tX ?_))
    refine ib_same ?_
    refine tN (sq (wp_region_lit ?_))
    refine st hF (g_move hF rfl) rfl fun a hF => st hF (g_assign hF rfl) rfl fun a hF => ?_
    refine wpList_nil (tN (wp_ret ?_))
    refine fin1 rfl hF.defers (res_tmp hF rfl) ⟨_, rfl, hM.below, ?_⟩
    exact OwnSl.pos hM (k := 2) rfl (hsl) hn0

theorem ker_same {p n m : Nat} {M M' : Nat → Nat → Nat} {x : Nat → Int} (e : ∀ i, i < m → ∀ c, c < n → M i c = M' i c) : Ker p n M m x ↔ Ker p n M' m x :=
  ⟨fun q i hi => by rw [← dot_same (e i hi)]; exact q i hi, fun q i hi => by rw [dot_same (e i hi)]; exact q i hi⟩
theorem isKer_same {p n m r : Nat} {M M' V : Nat → Nat → Nat} (e : ∀ i, i < m → ∀ c, c < n → M i c = M' i c) (h : IsKer p n M m r V) : IsKer p n M' m r V := by
  obtain ⟨k, E, ld, ld2, h1, h2, h3⟩ := h
  exact ⟨k, E, ld, ld2, h1, fun x => (h2 x).trans (ker_same e), h3⟩

theorem kernelOfMap_Y (p n : Nat) (T : Nat → Nat → Nat → Nat) (f : Nat → Nat) (bim cim : Nat) (csim : Array Value) (IM : Nat → Nat → Nat) (w : World) (hp : primeN p) (hn0 : 0 < n) (hn : n ≤ 6) (hIp : ∀ i c, IM i c < p) (hs1 : SlAt 6 (.slice (some ⟨bim, 0, none⟩) n cim) (some (bim, csim)) n bim cim csim (fun c => .int .u8 ((IM (c / 6) (c % 6) : Nat) : Int))) (hb1 : Blk w bim csim) (hne : ∀ k E ld, Rref p n E k ld → (∀ x, Ker p n E k x ↔ Ker p n (fun r c => IM c r) n x) → 0 < nf k ld n) (hpos : ∀ r V, IsKer p n (fun r c => IM c r) n r V → 0 < r) :
    CallsR Tryd.prog 74 #[.agg (algC (p : Int) (n : Int) T f), .slice (some ⟨bim, 0, none⟩) (n) (cim)] w (fun u w' => ∃ r V, IsKer p n (fun r c => IM c r) n r V ∧ (∀ i, i < r → ∀ c, n ≤ c → c < 6 → V i c = 0) ∧ r ≤ n ∧ OwnSl 6 w r (fun c => .int .u8 ((V (c / 6) (c % 6) : Nat) : Int)) u w') := by
  refine calls_fr [.agg (algC (p : Int) (n : Int) T f), .slice (some ⟨bim, 0, none⟩) (n) (cim)] Tryd.func74 rfl Tryd.ntmps74 rfl fun a hF => ?_
  have hM : Mem w w [none, none, none, none] [(bim, csim)] := MemX.startD w 4 _ (startD1 hb1)
  change Fr 45 a [(0, .agg (algC (p : Int) (n : Int) T f)), (1, .slice (some ⟨bim, 0, none⟩) (n) (cim))] at hF
  have hp2 := hp.two
  have hp13 := hp.le
  have hi1 : (bim, csim) ∈ [(bim, csim)] := List.mem_cons_self ..
  refine sq (wp_region_lit ?_)
  refine stR hF (d_box 0 hM hF rfl) rfl ?_
  rintro _ w' a ⟨b1, rfl, hM, -⟩ hF
  change Mem w w' [some (b1, algC (p : Int) (n : Int) T f), none, none, none] [(bim, csim)] at hM
  refine st hF (g_assign hF rfl) rfl fun a hF => ?_
  refine wpList_nil (tN (sq (wp_region_lit ?_)))
  refine st hF (g_fieldAddr ty_fo_32_1 hF rfl) rfl fun a hF => st hF (g_load ty_on_2 hF rfl (hM.row 0 rfl) (algC_n (by omega))) rfl fun a hF => ?_
  refine stR hF (d_make1 (len := n) 1 hM hF ty_si_81 rfl rfl rfl (by omega) (by decide)) rfl ?_
  rintro _ w' a ⟨bo, rfl, hM, -⟩ hF
  change Mem w w' [some (b1, algC (p : Int) (n : Int) T f), some (bo, fnC n (fun _ => .slice none 0 0)), none, none] [(bim, csim)] at hM
  refine st hF (g_assign hF rfl) rfl fun a hF => ?_
  refine wpList_nil (tN (sq (sq (wp_region_lit ?_))))
  refine st hF (g_move hF rfl) rfl fun a hF => st hF (g_len ty_us_81 hF rfl) rfl fun a hF => st hF (g_move hF rfl) rfl fun a hF => ?_
  refine wpList_nil (tN (wp_block ?_))
  change Mem w _ [some (b1, algC (p : Int) (n : Int) T f), some (bo, fnC n (fun _ => .slice none 0 0)), none, none] [(bim, csim)] at hM
  refine c_loop (fun (kk : Nat) a w' => kk ≤ n ∧ ∃ (D1 : Froz), ∃ (β : Nat → Nat), ∃ (cso : Array Value), (cso.size = n ∧ (∀ i, i < kk → cso[0 + i * 1]? = some (.slice (some ⟨β i, 0, none⟩) 6 6)) ∧ RowsB D1 6 kk β (padN n (fun r c => IM c r)) ∧ (∀ i, i < kk → w.heap.size ≤ β i) ∧ (bim, csim) ∈ D1) ∧ Fr 45 a [(0, .agg (algC (p : Int) (n : Int) T f)), (1, .slice (some ⟨bim, 0, none⟩) (n) (cim)), (2, ptr b1 (0)), (4, .slice none 0 0), (9, ptr b1 (0 + 1)), (10, .int .i64 (((n : Nat) : Int))), (11, .slice (some ⟨bo, 0, none⟩) (n) (n)), (5, .slice (some ⟨bo, 0, none⟩) (n) (n)), (12, .slice (some ⟨bo, 0, none⟩) (n) (n)), (13, .int .i64 (((n : Nat) : Int))), (14, .int .i64 (((kk : Nat) : Int)))] ∧ Mem w w' [some (b1, algC (p : Int) (n : Int) T f), some (bo, cso), none, none] D1) (fun kk => n - kk) 0 ?_ ?_
  ·
   refine ⟨by omega, [(bim, csim)], (fun _ => 0), (fnC n (fun _ => .slice none 0 0)), ⟨fnC_size _ _, fun i hi => absurd hi (by omega), RowsB.none, fun i hi => absurd hi (by omega), List.mem_cons_self ..⟩, hF.sub _ (by repeat' constructor), ?_⟩
   exact hM
  ·
   clear hF hM
   rintro gk a w' ⟨hgk, D1, β, cso, ⟨hso, hgo, hB, hbg, hi1⟩, hF, hM⟩
   refine sq (wp_region_lit ?_)
   refine st hF (g_lss hF rfl rfl) rfl fun a hF => ?_
   refine wpList_nil (tN (sq ?_))
   refine c_cond hF rfl (fun h3 => ?_) (fun h3 => ?_)
   ·
    refine wp_skip (tN (sq (wp_block (sq (wp_region_lit ?_)))))
    refine st hF (g_move hF rfl) rfl fun a hF => st hF (g_assign hF rfl) rfl fun a hF => ?_
    refine wpList_nil (tN (sq (wp_region_lit ?_)))
    refine st hF (g_move hF rfl) rfl fun a hF => st hF (g_move hF rfl) rfl fun a hF => ?_
    refine stR hF (d_makeC (len := 6) 2 hM hF rfl rfl ty_mk_85_6) rfl ?_
    rintro _ w' a ⟨b4, rfl, hM, -⟩ hF
    change Mem w w' [some (b1, algC (p : Int) (n : Int) T f), some (bo, cso), some (b4, fnC 6 (fun _ => .int .u8 (0))), none] D1 at hM
    refine st hF (g_indexSl (i := gk) ty_sl_81 hF rfl rfl rfl (by omega)) rfl fun a hF => ?_
    refine stN hF (d_store 1 hM rfl ty_on_85 hF rfl rfl rfl (by first | omega | (simp only [fnC_size, cells_size, vecC_size, tabC_size, planeC_size, dgC_size, numC_sz, ldB_size] <;> omega) | simp)) ?_
    intro _ w' a hM hF
    change Mem w w' [some (b1, algC (p : Int) (n : Int) T f), some (bo, (cso).setIfInBounds (0 + (gk) * 1) (.slice (some ⟨b4, 0, none⟩) (6) (6))), some (b4, fnC 6 (fun _ => .int .u8 (0))), none] D1 at hM
    refine wpList_nil (tN (sq ?_))
    have hself : ((cso).setIfInBounds (0 + (gk) * 1) (.slice (some ⟨b4, 0, none⟩) (6) (6)))[0 + gk * 1]? = some (.slice (some ⟨b4, 0, none⟩) 6 6) := Array.getElem?_setIfInBounds_self_of_lt (by omega)
    refine wp_region_lit ?_
    refine st hF (g_move hF rfl) rfl fun a hF => st hF (g_len ty_us_27 hF rfl) rfl fun a hF => st hF (g_move hF rfl) rfl fun a hF => ?_
    refine wpList_nil (tN (wp_block ?_))
    change Mem w _ [some (b1, algC (p : Int) (n : Int) T f), some (bo, (cso).setIfInBounds (0 + (gk) * 1) (.slice (some ⟨b4, 0, none⟩) (6) (6))), some (b4, fnC 6 (fun _ => .int .u8 (0))), none] D1 at hM
    refine c_loop (fun (kk : Nat) a w' => kk ≤ n ∧ (True) ∧ Fr 45 a [(0, .agg (algC (p : Int) (n : Int) T f)), (1, .slice (some ⟨bim, 0, none⟩) (n) (cim)), (2, ptr b1 (0)), (4, .slice none 0 0), (9, ptr b1 (0 + 1)), (10, .int .i64 (((n : Nat) : Int))), (11, .slice (some ⟨bo, 0, none⟩) (n) (n)), (5, .slice (some ⟨bo, 0, none⟩) (n) (n)), (12, .slice (some ⟨bo, 0, none⟩) (n) (n)), (13, .int .i64 (((n : Nat) : Int))), (14, .int .i64 (((gk : Nat) : Int))), (15, .bool (decide ((((gk : Nat) : Int) : Int) < ((n : Nat) : Int)))), (16, .int .i64 (((gk : Nat) : Int))), (6, .int .i64 (((gk : Nat) : Int))), (17, .slice (some ⟨bo, 0, none⟩) (n) (n)), (18, .int .i64 (((gk : Nat) : Int))), (19, .slice (some ⟨b4, 0, none⟩) (6) (6)), (20, ptr bo (0 + (gk) * 1)), (21, .slice (some ⟨bim, 0, none⟩) (n) (cim)), (22, .int .i64 (((n : Nat) : Int))), (23, .int .i64 (((kk : Nat) : Int)))] ∧ Mem w w' [some (b1, algC (p : Int) (n : Int) T f), some (bo, (cso).setIfInBounds (0 + (gk) * 1) (.slice (some ⟨b4, 0, none⟩) (6) (6))), some (b4, fnC 6 (fun c => .int .u8 ((if c < kk then IM c gk else 0 : Nat) : Int))), none] D1) (fun kk => n - kk) 0 ?_ ?_
    ·
     refine ⟨by omega, trivial, hF.sub _ (by repeat' constructor), ?_⟩
     exact hM.rowc 2 rfl (fnC_congr fun c hc => by rw [if_neg (by omega)]; rfl)
    ·
     clear hF hM
     rintro gj a w' ⟨hgj, hinv2, hF, hM⟩
     have hIgj := hIp gj gk
     refine sq (wp_region_lit ?_)
     refine st hF (g_lss hF rfl rfl) rfl fun a hF => ?_
     refine wpList_nil (tN (sq ?_))
     refine c_cond hF rfl (fun h5 => ?_) (fun h5 => ?_)
     ·
      refine wp_skip (tN (sq (wp_block (sq (wp_region_lit ?_)))))
      refine st hF (g_move hF rfl) rfl fun a hF => st hF (g_indexSl (i := gj) ty_sl_27 hF rfl rfl rfl (by omega)) rfl fun a hF => st hF (g_loadAgg ty_ag_30 hF rfl (hM.fzm hi1) (hs1.room (gj) (by omega)) (hs1.vec0 (V := IM) (gj) (by omega))) rfl fun a hF => ?_
      refine stR hF (d_alloc 3 hM ty_ze_30) rfl ?_
      rintro _ w' a ⟨b6, rfl, hM, -⟩ hF
      change Mem w w' [some (b1, algC (p : Int) (n : Int) T f), some (bo, (cso).setIfInBounds (0 + (gk) * 1) (.slice (some ⟨b4, 0, none⟩) (6) (6))), some (b4, fnC 6 (fun c => .int .u8 ((if c < gj then IM c gk else 0 : Nat) : Int))), some (b6, fnC 6 (fun _ => .int .u8 (0)))] D1 at hM
      refine st hF (g_assign hF rfl) rfl fun a hF => ?_
      refine stN hF (d_storeAgg 3 hM rfl ty_sz_30 hF rfl rfl (by first | exact vecC_one | exact cells_one | (refine fnC_one fun _ _ => ?_; first | rfl | (split <;> rfl))) (by simp only [fnC_size, cells_size, vecC_size, tabC_size, planeC_size, dgC_size, numC_sz, ldB_size]) (by simp only [fnC_size, cells_size, vecC_size, tabC_size, planeC_size, dgC_size, numC_sz, ldB_size] <;> omega) (splice_whole _ _ (by simp only [fnC_size, cells_size, vecC_size, tabC_size, planeC_size, dgC_size, numC_sz, ldB_size]))) ?_
      intro _ w' a hM hF
      change Mem w w' [some (b1, algC (p : Int) (n : Int) T f), some (bo, (cso).setIfInBounds (0 + (gk) * 1) (.slice (some ⟨b4, 0, none⟩) (6) (6))), some (b4, fnC 6 (fun c => .int .u8 ((if c < gj then IM c gk else 0 : Nat) : Int))), some (b6, vecC (IM (gj)))] D1 at hM
      refine wpList_nil (tN ?_)
      refine c_par 8 [] [.val (.slice (some ⟨bo, 0, none⟩) (n) (n)), .val (.int .i64 (((gk : Nat) : Int))), .val (ptr bo (0 + (gk) * 1)), .val (.slice (some ⟨b4, 0, none⟩) (6) (6)), .val (.int .i64 (((gj : Nat) : Int))), .val (.int .i64 (((gk : Nat) : Int))), .val (ptr b6 (0 + (gk) * 1)), .val (.int .u8 ((((IM (gj)) (gk) : Nat) : Int)))] hmix rfl hF rfl hM ⟨fun a w gG hF hS hd => by exact par_val hS rfl (g_move hF rfl), fun a w gG hF hS hd => by exact par_val hS rfl (g_move hF rfl), fun a w gG hF hS hd => by have hF := hF.ext1 28 (hd 0 rfl rfl); have hF := hF.ext1 29 (hd 1 rfl rfl); exact par_val hS rfl (g_indexSl (i := gk) ty_sl_81 hF rfl rfl rfl (by omega)), fun a w gG hF hS hd => by have hF := hF.ext1 30 (hd 2 rfl rfl); have hM := hS.mem rfl; exact par_val hS rfl (g_load ty_on_85 hF rfl (hM.row 1 rfl) hself), fun a w gG hF hS hd => by exact par_val hS rfl (g_move hF rfl), fun a w gG hF hS hd => by exact par_val hS rfl (g_move hF rfl), fun a w gG hF hS hd => by have hF := hF.ext1 33 (hd 5 rfl rfl); exact par_val hS rfl (g_indexAddr ty_ar_30 hF rfl rfl rfl (by omega)), fun a w gG hF hS hd => by have hF := hF.ext1 34 (hd 6 rfl rfl); have hM := hS.mem rfl; exact par_val hS rfl (g_load ty_on_5 hF rfl (hM.row 3 rfl) (vecC_get (gk) (by omega) (by omega))), trivial⟩ ?_
      intro a w' L hF hS hq
      have hF := hF.ext1 28 (hq 0 rfl rfl)
      have hF := hF.ext1 29 (hq 1 rfl rfl)
      have hF := hF.ext1 30 (hq 2 rfl rfl)
      have hF := hF.ext1 31 (hq 3 rfl rfl)
      have hF := hF.ext1 32 (hq 4 rfl rfl)
      have hF := hF.ext1 33 (hq 5 rfl rfl)
      have hF := hF.ext1 34 (hq 6 rfl rfl)
      have hF := hF.ext1 35 (hq 7 rfl rfl)
      have hM := hS.mem rfl
      change wpList Tryd.prog _ _ [_, _] _ _
      refine st hF (g_indexSl (i := gj) ty_sl_85 hF rfl rfl rfl (by omega)) rfl fun a hF => ?_
      refine stN hF (d_store 2 hM rfl ty_on_5 hF rfl rfl rfl (by first | omega | (simp only [fnC_size, cells_size, vecC_size, tabC_size, planeC_size, dgC_size, numC_sz, ldB_size] <;> omega) | simp)) ?_
      intro _ w' a hM hF
      rw [show (fnC 6 (fun c => .int .u8 ((if c < gj then IM c gk else 0 : Nat) : Int))).setIfInBounds (0 + (gj) * 1) (.int .u8 ((((IM (gj)) (gk) : Nat) : Int))) = fnC 6 (fun c => .int .u8 (((if c = gj then (IM (gj)) (gk) else if c < gj then IM c gk else 0) : Nat) : Int)) from fnC_set (fun c _ => by rw [show 0 + (gj) * 1 = gj by omega]; by_cases hh : c = gj <;> simp [hh])] at hM
      change Mem w w' [some (b1, algC (p : Int) (n : Int) T f), some (bo, (cso).setIfInBounds (0 + (gk) * 1) (.slice (some ⟨b4, 0, none⟩) (6) (6))), some (b4, fnC 6 (fun c => .int .u8 (((if c = gj then (IM (gj)) (gk) else if c < gj then IM c gk else 0) : Nat) : Int))), some (b6, vecC (IM (gj)))] D1 at hM
      refine wpList_nil (iN (tN (wp_region_lit ?_)))
      refine st hF (g_add hF rfl rfl (add_nat (gj) (1) (by omega))) rfl fun a hF => st hF (g_move hF rfl) rfl fun a hF => ?_
      refine wpList_nil (tN ?_)
      have hM := hM.drop 3
      refine ⟨gj + 1, ⟨by omega, trivial, hF.sub _ (by repeat' constructor), ?_⟩, by omega⟩
      refine hM.rowc 2 rfl (fnC_congr fun c hc => congrArg (Value.int .u8) (congrArg Nat.cast ?_))
      by_cases e1 : c = gj
      · simp [e1]
      · have e0 : (c < gj + 1) = (c < gj) := by apply propext; omega
        simp [e0, e1]
     ·
      obtain rfl : n = gj := by omega
      refine wp_exit (tX (tX ?_))
      refine ib_same ?_
      refine iN (tN (wp_region_lit ?_))
      refine st hF (g_add hF rfl rfl (add_nat (gk) (1) (by omega))) rfl fun a hF => st hF (g_move hF rfl) rfl fun a hF => ?_
      refine wpList_nil (tN ?_)
      have hgb := hM.ge 2 rfl
      have hnb := fun i hi => (hM.froz _ _ (hB.mem i hi)).2 2 b4 _ rfl
      have hM := hM.freeze 2 rfl
      have hB := ((hB.more (D' := (b4, fnC 6 (fun c => .int .u8 ((if c < n then IM c gk else 0 : Nat) : Int))) :: D1) (fun x hx => List.mem_cons_of_mem _ hx)).snoc (r := (padN n (fun r c => IM c r)) gk) rfl (List.mem_cons_self ..) hnb).congr (M' := (padN n (fun r c => IM c r))) (fun i hi c hc => by
        by_cases e : i = gk <;> simp [upE, e])
      have hgo : ∀ i, i < gk + 1 → ((cso).setIfInBounds (0 + (gk) * 1) (.slice (some ⟨b4, 0, none⟩) (6) (6)))[0 + i * 1]? = some (.slice (some ⟨up β gk b4 i, 0, none⟩) 6 6) := fun i hi => by
        unfold up
        by_cases e : i = gk
        · rw [if_pos e, e]; exact hself
        · rw [if_neg e, Array.getElem?_setIfInBounds_ne (by omega)]; exact hgo i (by omega)
      have hbg : ∀ i, i < gk + 1 → w.heap.size ≤ up β gk b4 i := fun i hi => by
        unfold up; split
        · exact hgb
        · exact hbg i (by omega)
      refine ⟨gk + 1, ⟨by omega, ((b4, fnC 6 (fun c => .int .u8 ((if c < n then IM c gk else 0 : Nat) : Int))) :: D1), (up β gk b4), ((cso).setIfInBounds (0 + (gk) * 1) (.slice (some ⟨b4, 0, none⟩) (6) (6))), ⟨by rw [Array.size_setIfInBounds]; exact hso, hgo, hB, hbg, List.mem_cons_of_mem _ hi1⟩, hF.sub _ (by repeat' constructor), ?_⟩, by omega⟩
      exact hM
   ·
    obtain rfl : n = gk := by omega
    refine wp_exit (tX (tX ?_))
    refine ib_same ?_
    refine tN (sq ?_)
    have hgeq := hM.ge 1 rfl
    have hnbq : ∀ i, i < n → β i ≠ bo := fun i hi e => (hM.froz _ _ (hB.mem i hi)).2 1 bo _ rfl e.symm
    have hM := hM.freeze 1 rfl
    change Mem w _ [some (b1, algC (p : Int) (n : Int) T f), none, none, none] ((bo, cso) :: D1) at hM
    refine wp_region_lit ?_
    refine st hF (g_move hF rfl) rfl fun a hF => st hF (g_fieldAddr ty_fo_32_1 hF rfl) rfl fun a hF => st hF (g_load ty_on_2 hF rfl (hM.row 0 rfl) (algC_n (by omega))) rfl fun a hF => st hF (g_fieldAddr ty_fo_32_0 hF rfl) rfl fun a hF => st hF (g_load ty_on_2 hF rfl (hM.row 0 rfl) (algC_p (by omega))) rfl fun a hF => ?_
    have hszc := hM.bel.size
    refine stR hF (d_callX Tryd.call97 hF (.cons rfl (.cons rfl (.cons rfl .nil))) (kernelOf_ok p n n bo n cso β (padN n (fun r c => IM c r)) _ hp hn0 hn (by omega) (by omega) (fun i c => by unfold padN; split; exact hIp c i; omega) (fun i _ c hc _ => padN_ge hc) (hM.fzm (List.mem_cons_self ..)) (by omega) (fun i hi => hgo i hi) (fun i hi => hM.fzm (List.mem_cons_of_mem _ (hB.mem i hi))) hB.inj hnbq (fun k E ld h1 h2 => hne k E ld h1 (fun x => (h2 x).trans (ker_same (fun i _ c hc => padN_lt (n := n) (E := (fun r c => IM c r)) (i := i) (c := c) hc)))) (fun r V h1 => hpos r V (isKer_same (fun i _ c hc => padN_lt (n := n) (E := (fun r c => IM c r)) (i := i) (c := c) hc) h1)))) rfl ?_
    rintro u w' a ⟨hx, r, V, hIK, hVz, hrn, hown⟩ hF
    have hown2 := ownSl_le hszc hown
    have hM := hM.swapD (D' := []) hx (rowsX_all (Q := fun y => ∃ cs, (y, cs) ∈ (bo, cso) :: D1) ⟨_, List.mem_cons_self ..⟩ (fun i hi => ⟨_, List.mem_cons_of_mem _ (hB.mem i hi)⟩)) (rowsX_all (Q := fun y => w.heap.size ≤ y ∨ y ∈ []) (.inl hgeq) (fun i hi => .inl (hbg i hi))) (fun _ _ h => by cases h)
    change Mem w w' [some (b1, algC (p : Int) (n : Int) T f), none, none, none] [] at hM
    refine st hF (g_assign hF rfl) rfl fun a hF => ?_
    refine wpList_nil (tN (wp_ret ?_))
    refine fin1 rfl hF.defers (res_tmp hF rfl) ⟨_, rfl, hM.below, ?_⟩
    exact ⟨r, V, isKer_same (fun i _ c hc => padN_lt (n := n) (E := (fun r c => IM c r)) (i := i) (c := c) hc) hIK, hVz, hrn, hown2⟩

end Go.Proofs.YtbeodbfbfbefkaaDoor
