/- What functions of the program return, as walks over their operations; no statement of the seat is proved here. -/
import Derived.Test.YtficgmohfabplaaTF
import Derived.Test.YtficgmohfabplaaQ5
set_option linter.unusedVariables false
set_option linter.unusedSimpArgs false
namespace Go.Proofs.Ytficgmohfabplaa
open Go Go.RowKit Go.Sw Go.Ech
open Classical
theorem LegNumberS_A (p n : Int) (T : Nat → Nat → Nat → Nat) (f : Nat → Nat) (b m : Nat) (V : Nat → Nat → Nat) (x : Int) (w : World) (hT : ∀ i j k, T i j k ≤ 255) (hf : ∀ i, f i ≤ 255) (hV : ∀ i c, V i c ≤ 255) (hm : m < 2000000) (hb : Blk w b (vecsC m V)) (hc : ¬ CodeP p n T f m V) :
    CallsR Try.prog 21 #[.agg (algC p n T f), .int .i64 (x), .slice (some ⟨b, 0, none⟩) (m) (m)] w (fun res _ => res = .tuple #[.int .i64 (0), .int .i64 (1)]) := by
  refine calls_fr [.agg (algC p n T f), .int .i64 (x), .slice (some ⟨b, 0, none⟩) (m) (m)] Try.func21 rfl Try.ntmps21 rfl fun a hF => ?_
  have hM : Mem w w [none] [(b, vecsC m V)] := MemX.startD w 1 _ (startD1 hb)
  change Fr 19 a [(0, .agg (algC p n T f)), (1, .int .i64 (x)), (2, .slice (some ⟨b, 0, none⟩) (m) (m))] at hF
  refine sq ?_
  refine wp_region_lit ?_
  refine stR hF (d_box 0 hM hF rfl) rfl ?_
  rintro _ w' a ⟨b1, rfl, hM, -⟩ hF
  change Mem w w' [some (b1, algC p n T f)] [(b, vecsC m V)] at hM
  refine st hF (g_assign hF rfl) rfl fun a hF => st hF (g_assign hF rfl) rfl fun a hF => ?_
  refine wpList_nil ?_
  refine tN ?_
  refine sq ?_
  refine wp_region_lit ?_
  refine st hF (g_loadAgg ty_ag_31 hF rfl (hM.row 0 rfl) (by simp only [fnC_size, cells_size, vecC_size, tabC_size, planeC_size, vecsC_size] <;> omega) (whole cells_size)) rfl fun a hF => st hF (g_move hF rfl) rfl fun a hF => st hF (g_move hF rfl) rfl fun a hF => ?_
  refine stR hF (d_call Try.call39 hF (.cons rfl (.cons rfl (.cons rfl .nil))) (l02Number_A p n T f b m m V (x) _ hT hf hV hm (hM.fz 0 rfl) hc)) rfl ?_
  rintro _ w' a ⟨hx, rfl⟩ hF
  have hM := hM.ext hx
  refine st hF (g_move hF rfl) rfl fun a hF => st hF (g_extract hF rfl rfl) rfl fun a hF => st hF (g_extract hF rfl rfl) rfl fun a hF => st hF (g_assign hF rfl) rfl fun a hF => st hF (g_assign hF rfl) rfl fun a hF => ?_
  refine wpList_nil ?_
  refine tN ?_
  refine sq ?_
  refine wp_region_lit ?_
  refine st hF (g_move hF rfl) rfl fun a hF => st hF (g_move hF rfl) rfl fun a hF => st hF (g_assign hF rfl) rfl fun a hF => st hF (g_assign hF rfl) rfl fun a hF => ?_
  refine wpList_nil ?_
  refine tN ?_
  refine wp_ret ?_
  refine fin2 rfl hF.defers (res_tmp hF rfl) (res_tmp hF rfl) ⟨_, rfl, hM.below, ?_⟩
  show _ = _
  rfl

theorem LegNumberS_R (p n : Nat) (T : Nat → Nat → Nat → Nat) (f : Nat → Nat) (b m : Nat) (V : Nat → Nat → Nat) (x : Int) (w : World) (hp : primeN p) (hn0 : 0 < n) (hn : n ≤ 6) (hTp : ∀ i j k, T i j k < p) (hT0 : ∀ i j k, n ≤ k → T i j k = 0) (hf : ∀ i, f i ≤ 255) (hV : ∀ i c, V i c ≤ 255) (hm : m < 2000000) (hb : Blk w b (vecsC m V)) (hk : ¬ (0 ≤ x ∧ x ≤ 30 ∧ m ≤ 6)) (hc : CodeP (p : Int) (n : Int) T f m V) :
    CallsR Try.prog 21 #[.agg (algC (p : Int) (n : Int) T f), .int .i64 (x), .slice (some ⟨b, 0, none⟩) (m) (m)] w (fun res _ => res = .tuple #[.int .i64 (0), .int .i64 (2)]) := by
  refine calls_fr [.agg (algC (p : Int) (n : Int) T f), .int .i64 (x), .slice (some ⟨b, 0, none⟩) (m) (m)] Try.func21 rfl Try.ntmps21 rfl fun a hF => ?_
  have hM : Mem w w [none] [(b, vecsC m V)] := MemX.startD w 1 _ (startD1 hb)
  change Fr 19 a [(0, .agg (algC (p : Int) (n : Int) T f)), (1, .int .i64 (x)), (2, .slice (some ⟨b, 0, none⟩) (m) (m))] at hF
  have hp2 := hp.two
  have hp13 := hp.le
  have hT : ∀ i j k, T i j k ≤ 255 := fun i j k => by have := hTp i j k; omega
  refine sq ?_
  refine wp_region_lit ?_
  refine stR hF (d_box 0 hM hF rfl) rfl ?_
  rintro _ w' a ⟨b1, rfl, hM, -⟩ hF
  change Mem w w' [some (b1, algC (p : Int) (n : Int) T f)] [(b, vecsC m V)] at hM
  refine st hF (g_assign hF rfl) rfl fun a hF => st hF (g_assign hF rfl) rfl fun a hF => ?_
  refine wpList_nil ?_
  refine tN ?_
  refine sq ?_
  refine wp_region_lit ?_
  refine st hF (g_loadAgg ty_ag_31 hF rfl (hM.row 0 rfl) (by simp only [fnC_size, cells_size, vecC_size, tabC_size, planeC_size, vecsC_size] <;> omega) (whole cells_size)) rfl fun a hF => st hF (g_move hF rfl) rfl fun a hF => st hF (g_move hF rfl) rfl fun a hF => ?_
  refine stR hF (d_call Try.call39 hF (.cons rfl (.cons rfl (.cons rfl .nil))) (l02Number_R p n T f b m m V (x) _ hp hn0 hn hTp hT0 hf hV hm (hM.fz 0 rfl) hk hc)) rfl ?_
  rintro _ w' a ⟨hx, rfl⟩ hF
  have hM := hM.ext hx
  refine st hF (g_move hF rfl) rfl fun a hF => st hF (g_extract hF rfl rfl) rfl fun a hF => st hF (g_extract hF rfl rfl) rfl fun a hF => st hF (g_assign hF rfl) rfl fun a hF => st hF (g_assign hF rfl) rfl fun a hF => ?_
  refine wpList_nil ?_
  refine tN ?_
  refine sq ?_
  refine wp_region_lit ?_
  refine st hF (g_move hF rfl) rfl fun a hF => st hF (g_move hF rfl) rfl fun a hF => st hF (g_assign hF rfl) rfl fun a hF => st hF (g_assign hF rfl) rfl fun a hF => ?_
  refine wpList_nil ?_
  refine tN ?_
  refine wp_ret ?_
  refine fin2 rfl hF.defers (res_tmp hF rfl) (res_tmp hF rfl) ⟨_, rfl, hM.below, ?_⟩
  show _ = _
  rfl

theorem LegNumberS_F (p n : Nat) (T : Nat → Nat → Nat → Nat) (f : Nat → Nat) (b m : Nat) (V : Nat → Nat → Nat) (x : Nat) (w : World) (hp : primeN p) (hn0 : 0 < n) (hn : n ≤ 6) (hTp : ∀ i j k, T i j k < p) (hT0 : ∀ i j k, n ≤ k → T i j k = 0) (hf : ∀ i, f i ≤ 255) (hV : ∀ i c, V i c ≤ 255) (hm : m < 2000000) (hb : Blk w b (vecsC m V)) (hk : x ≤ 30 ∧ m ≤ 6) (hfr : ¬ FrobN p n T f) (hc : CodeP (p : Int) (n : Int) T f m V) :
    CallsR Try.prog 21 #[.agg (algC (p : Int) (n : Int) T f), .int .i64 (((x : Nat) : Int)), .slice (some ⟨b, 0, none⟩) (m) (m)] w (fun res _ => res = .tuple #[.int .i64 (0), .int .i64 (5)]) := by
  refine calls_fr [.agg (algC (p : Int) (n : Int) T f), .int .i64 (((x : Nat) : Int)), .slice (some ⟨b, 0, none⟩) (m) (m)] Try.func21 rfl Try.ntmps21 rfl fun a hF => ?_
  have hM : Mem w w [none] [(b, vecsC m V)] := MemX.startD w 1 _ (startD1 hb)
  change Fr 19 a [(0, .agg (algC (p : Int) (n : Int) T f)), (1, .int .i64 (((x : Nat) : Int))), (2, .slice (some ⟨b, 0, none⟩) (m) (m))] at hF
  have hp2 := hp.two
  have hp13 := hp.le
  have hT : ∀ i j k, T i j k ≤ 255 := fun i j k => by have := hTp i j k; omega
  refine sq ?_
  refine wp_region_lit ?_
  refine stR hF (d_box 0 hM hF rfl) rfl ?_
  rintro _ w' a ⟨b1, rfl, hM, -⟩ hF
  change Mem w w' [some (b1, algC (p : Int) (n : Int) T f)] [(b, vecsC m V)] at hM
  refine st hF (g_assign hF rfl) rfl fun a hF => st hF (g_assign hF rfl) rfl fun a hF => ?_
  refine wpList_nil ?_
  refine tN ?_
  refine sq ?_
  refine wp_region_lit ?_
  refine st hF (g_loadAgg ty_ag_31 hF rfl (hM.row 0 rfl) (by simp only [fnC_size, cells_size, vecC_size, tabC_size, planeC_size, vecsC_size] <;> omega) (whole cells_size)) rfl fun a hF => st hF (g_move hF rfl) rfl fun a hF => st hF (g_move hF rfl) rfl fun a hF => ?_
  refine stR hF (d_call Try.call39 hF (.cons rfl (.cons rfl (.cons rfl .nil))) (l02Number_F p n T f b m m V (x) _ hp hn0 hn hTp hT0 hf hV hm (hM.fz 0 rfl) hk hfr hc)) rfl ?_
  rintro _ w' a ⟨hx, rfl⟩ hF
  have hM := hM.ext hx
  refine st hF (g_move hF rfl) rfl fun a hF => st hF (g_extract hF rfl rfl) rfl fun a hF => st hF (g_extract hF rfl rfl) rfl fun a hF => st hF (g_assign hF rfl) rfl fun a hF => st hF (g_assign hF rfl) rfl fun a hF => ?_
  refine wpList_nil ?_
  refine tN ?_
  refine sq ?_
  refine wp_region_lit ?_
  refine st hF (g_move hF rfl) rfl fun a hF => st hF (g_move hF rfl) rfl fun a hF => st hF (g_assign hF rfl) rfl fun a hF => st hF (g_assign hF rfl) rfl fun a hF => ?_
  refine wpList_nil ?_
  refine tN ?_
  refine wp_ret ?_
  refine fin2 rfl hF.defers (res_tmp hF rfl) (res_tmp hF rfl) ⟨_, rfl, hM.below, ?_⟩
  show _ = _
  rfl

theorem LegNumberS_N (p n : Nat) (T : Nat → Nat → Nat → Nat) (f : Nat → Nat) (b m : Nat) (V : Nat → Nat → Nat) (x : Nat) (w : World) (hp : primeN p) (hn0 : 0 < n) (hn : n ≤ 6) (hTp : ∀ i j k, T i j k < p) (hT0 : ∀ i j k, n ≤ k → T i j k = 0) (hf : ∀ i, f i ≤ 255) (hV : ∀ i c, V i c ≤ 255) (hm : m < 2000000) (hb : Blk w b (vecsC m V)) (hk : x ≤ 30 ∧ m ≤ 6) (hfr : FrobN p n T f) (hcom : ¬ comP T) (hc : CodeP (p : Int) (n : Int) T f m V) :
    CallsR Try.prog 21 #[.agg (algC (p : Int) (n : Int) T f), .int .i64 (((x : Nat) : Int)), .slice (some ⟨b, 0, none⟩) (m) (m)] w (fun res _ => res = .tuple #[.int .i64 (0), .int .i64 (5)]) := by
  refine calls_fr [.agg (algC (p : Int) (n : Int) T f), .int .i64 (((x : Nat) : Int)), .slice (some ⟨b, 0, none⟩) (m) (m)] Try.func21 rfl Try.ntmps21 rfl fun a hF => ?_
  have hM : Mem w w [none] [(b, vecsC m V)] := MemX.startD w 1 _ (startD1 hb)
  change Fr 19 a [(0, .agg (algC (p : Int) (n : Int) T f)), (1, .int .i64 (((x : Nat) : Int))), (2, .slice (some ⟨b, 0, none⟩) (m) (m))] at hF
  have hp2 := hp.two
  have hp13 := hp.le
  have hT : ∀ i j k, T i j k ≤ 255 := fun i j k => by have := hTp i j k; omega
  refine sq ?_
  refine wp_region_lit ?_
  refine stR hF (d_box 0 hM hF rfl) rfl ?_
  rintro _ w' a ⟨b1, rfl, hM, -⟩ hF
  change Mem w w' [some (b1, algC (p : Int) (n : Int) T f)] [(b, vecsC m V)] at hM
  refine st hF (g_assign hF rfl) rfl fun a hF => st hF (g_assign hF rfl) rfl fun a hF => ?_
  refine wpList_nil ?_
  refine tN ?_
  refine sq ?_
  refine wp_region_lit ?_
  refine st hF (g_loadAgg ty_ag_31 hF rfl (hM.row 0 rfl) (by simp only [fnC_size, cells_size, vecC_size, tabC_size, planeC_size, vecsC_size] <;> omega) (whole cells_size)) rfl fun a hF => st hF (g_move hF rfl) rfl fun a hF => st hF (g_move hF rfl) rfl fun a hF => ?_
  refine stR hF (d_call Try.call39 hF (.cons rfl (.cons rfl (.cons rfl .nil))) (l02Number_N p n T f b m m V (x) _ hp hn0 hn hTp hT0 hf hV hm (hM.fz 0 rfl) hk hfr hcom hc)) rfl ?_
  rintro _ w' a ⟨hx, rfl⟩ hF
  have hM := hM.ext hx
  refine st hF (g_move hF rfl) rfl fun a hF => st hF (g_extract hF rfl rfl) rfl fun a hF => st hF (g_extract hF rfl rfl) rfl fun a hF => st hF (g_assign hF rfl) rfl fun a hF => st hF (g_assign hF rfl) rfl fun a hF => ?_
  refine wpList_nil ?_
  refine tN ?_
  refine sq ?_
  refine wp_region_lit ?_
  refine st hF (g_move hF rfl) rfl fun a hF => st hF (g_move hF rfl) rfl fun a hF => st hF (g_assign hF rfl) rfl fun a hF => st hF (g_assign hF rfl) rfl fun a hF => ?_
  refine wpList_nil ?_
  refine tN ?_
  refine wp_ret ?_
  refine fin2 rfl hF.defers (res_tmp hF rfl) (res_tmp hF rfl) ⟨_, rfl, hM.below, ?_⟩
  show _ = _
  rfl

theorem LegNumberS_Y (p n : Nat) (T : Nat → Nat → Nat → Nat) (f : Nat → Nat) (b m : Nat) (V : Nat → Nat → Nat) (x : Nat) (w : World) (hp : primeN p) (hn0 : 0 < n) (hn : n ≤ 6) (hTp : ∀ i j k, T i j k < p) (hT0 : ∀ i j k, n ≤ k → T i j k = 0) (hf : ∀ i, f i ≤ 255) (hV : ∀ i c, V i c ≤ 255) (hm : m < 2000000) (hb : Blk w b (vecsC m V)) (hk : x ≤ 30 ∧ m ≤ 6) (hfr : FrobN p n T f) (hcom : comP T) (G : Nat → Nat → Nat) (hG : IsCop p n (formM p n T f) G) (uu : Nat → Nat) (huu : UnitI p n T uu) (hc : CodeP (p : Int) (n : Int) T f m V) :
    CallsR Try.prog 21 #[.agg (algC (p : Int) (n : Int) T f), .int .i64 (((x : Nat) : Int)), .slice (some ⟨b, 0, none⟩) (m) (m)] w (fun res _ => res = .tuple #[.int .i64 (((sumTo (fun i => ((foldW (timesV p n T) (powW (timesV p n T) uu (hdl p n T G n 0) x) V m)) i * f i) 6 % p : Nat) : Int)), .int .i64 (0)]) := by
  refine calls_fr [.agg (algC (p : Int) (n : Int) T f), .int .i64 (((x : Nat) : Int)), .slice (some ⟨b, 0, none⟩) (m) (m)] Try.func21 rfl Try.ntmps21 rfl fun a hF => ?_
  have hM : Mem w w [none] [(b, vecsC m V)] := MemX.startD w 1 _ (startD1 hb)
  change Fr 19 a [(0, .agg (algC (p : Int) (n : Int) T f)), (1, .int .i64 (((x : Nat) : Int))), (2, .slice (some ⟨b, 0, none⟩) (m) (m))] at hF
  have hp2 := hp.two
  have hp13 := hp.le
  have hT : ∀ i j k, T i j k ≤ 255 := fun i j k => by have := hTp i j k; omega
  refine sq ?_
  refine wp_region_lit ?_
  refine stR hF (d_box 0 hM hF rfl) rfl ?_
  rintro _ w' a ⟨b1, rfl, hM, -⟩ hF
  change Mem w w' [some (b1, algC (p : Int) (n : Int) T f)] [(b, vecsC m V)] at hM
  refine st hF (g_assign hF rfl) rfl fun a hF => st hF (g_assign hF rfl) rfl fun a hF => ?_
  refine wpList_nil ?_
  refine tN ?_
  refine sq ?_
  refine wp_region_lit ?_
  refine st hF (g_loadAgg ty_ag_31 hF rfl (hM.row 0 rfl) (by simp only [fnC_size, cells_size, vecC_size, tabC_size, planeC_size, vecsC_size] <;> omega) (whole cells_size)) rfl fun a hF => st hF (g_move hF rfl) rfl fun a hF => st hF (g_move hF rfl) rfl fun a hF => ?_
  refine stR hF (d_call Try.call39 hF (.cons rfl (.cons rfl (.cons rfl .nil))) (l02Number_Y p n T f b m m V (x) _ hp hn0 hn hTp hT0 hf hV hm (hM.fz 0 rfl) hk hfr hcom G hG uu huu hc)) rfl ?_
  rintro _ w' a ⟨hx, rfl⟩ hF
  have hM := hM.ext hx
  refine st hF (g_move hF rfl) rfl fun a hF => st hF (g_extract hF rfl rfl) rfl fun a hF => st hF (g_extract hF rfl rfl) rfl fun a hF => st hF (g_assign hF rfl) rfl fun a hF => st hF (g_assign hF rfl) rfl fun a hF => ?_
  refine wpList_nil ?_
  refine tN ?_
  refine sq ?_
  refine wp_region_lit ?_
  refine st hF (g_move hF rfl) rfl fun a hF => st hF (g_move hF rfl) rfl fun a hF => st hF (g_assign hF rfl) rfl fun a hF => st hF (g_assign hF rfl) rfl fun a hF => ?_
  refine wpList_nil ?_
  refine tN ?_
  refine wp_ret ?_
  refine fin2 rfl hF.defers (res_tmp hF rfl) (res_tmp hF rfl) ⟨_, rfl, hM.below, ?_⟩
  show _ = _
  rfl

theorem law_LegNumberA (p n : Int) (T : Nat → Nat → Nat → Nat) (f : Nat → Nat) (sl : Value) (m : Nat) (V : Nat → Nat → Nat) (x : Int) (w : World) (hT : ∀ i j k, T i j k ≤ 255) (hf : ∀ i, f i ≤ 255) (hV : ∀ i c, V i c ≤ 255) (hs : ArgVs w sl m V) (hm : m < 2000000) (hmx : m ≤ 1048576) (hc : ¬ CodeP p n T f m V) :
    CallsR Try.prog 7 #[.agg (algC p n T f), .int .i64 (x), sl] w (fun res _ => res = .bool true) := by
  refine calls_fr [.agg (algC p n T f), .int .i64 (x), sl] Try.func7 rfl Try.ntmps7 rfl fun a hF => ?_
  have hM : Mem w w [none, none, none, none] [] := MemX.start w 4
  change Fr 50 a [(0, .agg (algC p n T f)), (1, .int .i64 (x)), (2, sl)] at hF
  have hso := hs.one
  refine sq ?_
  refine wp_region_lit ?_
  refine stR hF (d_box 0 hM hF rfl) rfl ?_
  rintro _ w' a ⟨b1, rfl, hM, -⟩ hF
  change Mem w w' [some (b1, algC p n T f), none, none, none] [] at hM
  refine st hF (g_assign hF rfl) rfl fun a hF => ?_
  refine wpList_nil ?_
  refine tN ?_
  refine sq ?_
  refine wp_region_lit ?_
  refine st hF (g_assign hF rfl) rfl fun a hF => ?_
  refine wpList_nil ?_
  refine tN ?_
  refine sq ?_
  refine wp_region_lit ?_
  refine st hF (g_move hF rfl) rfl fun a hF => st hF (g_move hF rfl) rfl fun a hF => ?_
  refine stR hF (d_call Try.call20 hF (.cons rfl (.cons rfl .nil)) (szVectorS_ok sl m (1048576) V _ (hs.ext hM.below) (by omega) (by omega))) rfl ?_
  rintro _ w' a ⟨hx, rfl⟩ hF
  have hM := hM.ext hx
  refine st hF (g_assign hF rfl) rfl fun a hF => ?_
  refine wpList_nil ?_
  refine tN ?_
  refine sq ?_
  refine sq ?_
  refine wp_region_lit ?_
  refine st hF (g_move hF rfl) rfl fun a hF => st hF (g_lss hF rfl rfl) rfl fun a hF => ?_
  refine wpList_nil ?_
  refine tN ?_
  refine c_cond hF rfl (fun h2 => ?_) (fun h2 => ?_)
  ·
    first | exact absurd rfl h2 | (exfalso; omega)
  ·
    refine wp_skip ?_
    refine tN ?_
    refine sq ?_
    refine wp_region_lit ?_
    refine st hF (g_loadAgg ty_ag_26 hF rfl (hM.row 0 rfl) (by simp only [fnC_size, cells_size, vecC_size, tabC_size, planeC_size, vecsC_size] <;> omega) (whole cells_size)) rfl fun a hF => ?_
    refine stR hF (d_call Try.call10 hF (.cons rfl .nil) (toAlgebra_ok p n T f _)) rfl ?_
    rintro _ w' a ⟨hx, rfl⟩ hF
    have hM := hM.ext hx
    refine st hF (g_move hF rfl) rfl fun a hF => st hF (g_move hF rfl) rfl fun a hF => ?_
    refine stR hF (d_call Try.call22 hF (.cons rfl .nil) (toVectorS_ok sl m V _ (hs.ext hM.below) (by omega))) rfl ?_
    rintro _ w' a ⟨hx, b3, rfl, hge, hbk⟩ hF
    have hM := hM.fill hx 1 hbk hge
    change Mem w w' [some (b1, algC p n T f), some (b3, vecsC m V), none, none] [] at hM
    refine stR hF (d_call Try.call21 hF (.cons rfl (.cons rfl (.cons rfl .nil))) (LegNumberS_A p n T f b3 m V (x) _ hT hf hV hm (hM.row 1 rfl) hc)) rfl ?_
    rintro _ w' a ⟨hx, rfl⟩ hF
    have hM := hM.ext hx
    refine st hF (g_move hF rfl) rfl fun a hF => st hF (g_extract hF rfl rfl) rfl fun a hF => st hF (g_extract hF rfl rfl) rfl fun a hF => st hF (g_assign hF rfl) rfl fun a hF => st hF (g_assign hF rfl) rfl fun a hF => ?_
    refine wpList_nil ?_
    refine tN ?_
    refine sq ?_
    refine wp_region_lit ?_
    refine st hF (g_move hF rfl) rfl fun a hF => ?_
    refine stR hF (d_call Try.call22 hF (.cons rfl .nil) (toVectorS_ok sl m V _ (hs.ext hM.below) (by omega))) rfl ?_
    rintro _ w' a ⟨hx, b4, rfl, hge, hbk⟩ hF
    have hM := hM.fill hx 2 hbk hge
    change Mem w w' [some (b1, algC p n T f), some (b3, vecsC m V), some (b4, vecsC m V), none] [] at hM
    refine st hF (g_assign hF rfl) rfl fun a hF => ?_
    refine wpList_nil ?_
    refine tN ?_
    refine sq ?_
    refine wp_region_lit ?_
    refine st hF (g_loadAgg ty_ag_26 hF rfl (hM.row 0 rfl) (by simp only [fnC_size, cells_size, vecC_size, tabC_size, planeC_size, vecsC_size] <;> omega) (whole cells_size)) rfl fun a hF => ?_
    refine stR hF (d_call Try.call10 hF (.cons rfl .nil) (toAlgebra_ok p n T f _)) rfl ?_
    rintro _ w' a ⟨hx, rfl⟩ hF
    have hM := hM.ext hx
    refine st hF (g_move hF rfl) rfl fun a hF => st hF (g_move hF rfl) rfl fun a hF => ?_
    refine stR hF (d_call Try.call23 hF (.cons rfl (.cons rfl (.cons rfl .nil))) (LegNumberI_A p n T f b4 m m V (x) _ hT hf hV hm (hM.row 2 rfl) hc)) rfl ?_
    rintro _ w' a ⟨hx, rfl⟩ hF
    have hM := hM.ext hx
    refine st hF (g_move hF rfl) rfl fun a hF => st hF (g_extract hF rfl rfl) rfl fun a hF => st hF (g_extract hF rfl rfl) rfl fun a hF => st hF (g_assign hF rfl) rfl fun a hF => st hF (g_assign hF rfl) rfl fun a hF => ?_
    refine wpList_nil ?_
    refine tN ?_
    refine sq ?_
    refine sq ?_
    refine wp_region_lit ?_
    refine st hF (g_move hF rfl) rfl fun a hF => st hF (g_move hF rfl) rfl fun a hF => st hF (g_neq hF rfl rfl) rfl fun a hF => st hF (g_move hF rfl) rfl fun a hF => ?_
    rw [show decide ((0 : Int) ≠ 0) = false from by decide] at hF
    refine stY hF rfl rfl rfl (g_move hF rfl) rfl fun a hF => stY hF rfl rfl rfl (g_move hF rfl) rfl fun a hF => stY hF rfl rfl rfl (g_neq hF rfl rfl) rfl fun a hF => st hF (g_pickF hF rfl rfl) rfl fun a hF => ?_
    refine wpList_nil ?_
    refine tN ?_
    refine c_kF hF rfl (by decide) ?_
    refine wp_skip ?_
    refine tN ?_
    refine sq ?_
    refine sq ?_
    refine wp_region_lit ?_
    refine st hF (g_move hF rfl) rfl fun a hF => st hF (g_move hF rfl) rfl fun a hF => ?_
    refine stR hF (d_call Try.call22 hF (.cons rfl .nil) (toVectorS_ok sl m V _ (hs.ext hM.below) (by omega))) rfl ?_
    rintro _ w' a ⟨hx, b6, rfl, hge, hbk⟩ hF
    have hM := hM.fill hx 3 hbk hge
    change Mem w w' [some (b1, algC p n T f), some (b3, vecsC m V), some (b4, vecsC m V), some (b6, vecsC m V)] [] at hM
    refine stR hF (d_call Try.call24 hF (.cons rfl (.cons rfl .nil)) (eqVectorS_own b4 b6 m V _ (by omega) (hM.row 2 rfl) (hM.row 3 rfl) hV)) rfl ?_
    rintro _ w' a ⟨hx, rfl⟩ hF
    have hM := hM.ext hx
    refine st hF (g_not hF rfl) rfl fun a hF => ?_
    refine wpList_nil ?_
    refine tN ?_
    refine c_Fl hF rfl ?_
    refine wp_skip ?_
    refine tN ?_
    refine sq ?_
    refine wp_region_lit ?_
    refine st hF (g_assign hF rfl) rfl fun a hF => ?_
    refine wpList_nil ?_
    refine tN ?_
    refine wp_ret ?_
    refine fin1 rfl hF.defers (res_tmp hF rfl) ⟨_, rfl, hM.below, ?_⟩
    show _ = _
    rfl

theorem law_LegNumberR (p n : Nat) (T : Nat → Nat → Nat → Nat) (f : Nat → Nat) (sl : Value) (m : Nat) (V : Nat → Nat → Nat) (x : Int) (w : World) (hp : primeN p) (hn0 : 0 < n) (hn : n ≤ 6) (hTp : ∀ i j k, T i j k < p) (hT0 : ∀ i j k, n ≤ k → T i j k = 0) (hf : ∀ i, f i ≤ 255) (hV : ∀ i c, V i c ≤ 255) (hs : ArgVs w sl m V) (hm : m < 2000000) (hmx : m ≤ 1048576) (hk : ¬ (0 ≤ x ∧ x ≤ 30 ∧ m ≤ 6)) (hc : CodeP (p : Int) (n : Int) T f m V) :
    CallsR Try.prog 7 #[.agg (algC (p : Int) (n : Int) T f), .int .i64 (x), sl] w (fun res _ => res = .bool true) := by
  refine calls_fr [.agg (algC (p : Int) (n : Int) T f), .int .i64 (x), sl] Try.func7 rfl Try.ntmps7 rfl fun a hF => ?_
  have hM : Mem w w [none, none, none, none] [] := MemX.start w 4
  change Fr 50 a [(0, .agg (algC (p : Int) (n : Int) T f)), (1, .int .i64 (x)), (2, sl)] at hF
  have hp2 := hp.two
  have hp13 := hp.le
  have hT : ∀ i j k, T i j k ≤ 255 := fun i j k => by have := hTp i j k; omega
  have hso := hs.one
  refine sq ?_
  refine wp_region_lit ?_
  refine stR hF (d_box 0 hM hF rfl) rfl ?_
  rintro _ w' a ⟨b1, rfl, hM, -⟩ hF
  change Mem w w' [some (b1, algC (p : Int) (n : Int) T f), none, none, none] [] at hM
  refine st hF (g_assign hF rfl) rfl fun a hF => ?_
  refine wpList_nil ?_
  refine tN ?_
  refine sq ?_
  refine wp_region_lit ?_
  refine st hF (g_assign hF rfl) rfl fun a hF => ?_
  refine wpList_nil ?_
  refine tN ?_
  refine sq ?_
  refine wp_region_lit ?_
  refine st hF (g_move hF rfl) rfl fun a hF => st hF (g_move hF rfl) rfl fun a hF => ?_
  refine stR hF (d_call Try.call20 hF (.cons rfl (.cons rfl .nil)) (szVectorS_ok sl m (1048576) V _ (hs.ext hM.below) (by omega) (by omega))) rfl ?_
  rintro _ w' a ⟨hx, rfl⟩ hF
  have hM := hM.ext hx
  refine st hF (g_assign hF rfl) rfl fun a hF => ?_
  refine wpList_nil ?_
  refine tN ?_
  refine sq ?_
  refine sq ?_
  refine wp_region_lit ?_
  refine st hF (g_move hF rfl) rfl fun a hF => st hF (g_lss hF rfl rfl) rfl fun a hF => ?_
  refine wpList_nil ?_
  refine tN ?_
  refine c_cond hF rfl (fun h2 => ?_) (fun h2 => ?_)
  ·
    first | exact absurd rfl h2 | (exfalso; omega)
  ·
    refine wp_skip ?_
    refine tN ?_
    refine sq ?_
    refine wp_region_lit ?_
    refine st hF (g_loadAgg ty_ag_26 hF rfl (hM.row 0 rfl) (by simp only [fnC_size, cells_size, vecC_size, tabC_size, planeC_size, vecsC_size] <;> omega) (whole cells_size)) rfl fun a hF => ?_
    refine stR hF (d_call Try.call10 hF (.cons rfl .nil) (toAlgebra_ok (p : Int) (n : Int) T f _)) rfl ?_
    rintro _ w' a ⟨hx, rfl⟩ hF
    have hM := hM.ext hx
    refine st hF (g_move hF rfl) rfl fun a hF => st hF (g_move hF rfl) rfl fun a hF => ?_
    refine stR hF (d_call Try.call22 hF (.cons rfl .nil) (toVectorS_ok sl m V _ (hs.ext hM.below) (by omega))) rfl ?_
    rintro _ w' a ⟨hx, b3, rfl, hge, hbk⟩ hF
    have hM := hM.fill hx 1 hbk hge
    change Mem w w' [some (b1, algC (p : Int) (n : Int) T f), some (b3, vecsC m V), none, none] [] at hM
    refine stR hF (d_call Try.call21 hF (.cons rfl (.cons rfl (.cons rfl .nil))) (LegNumberS_R p n T f b3 m V (x) _ hp hn0 hn hTp hT0 hf hV hm (hM.row 1 rfl) hk hc)) rfl ?_
    rintro _ w' a ⟨hx, rfl⟩ hF
    have hM := hM.ext hx
    refine st hF (g_move hF rfl) rfl fun a hF => st hF (g_extract hF rfl rfl) rfl fun a hF => st hF (g_extract hF rfl rfl) rfl fun a hF => st hF (g_assign hF rfl) rfl fun a hF => st hF (g_assign hF rfl) rfl fun a hF => ?_
    refine wpList_nil ?_
    refine tN ?_
    refine sq ?_
    refine wp_region_lit ?_
    refine st hF (g_move hF rfl) rfl fun a hF => ?_
    refine stR hF (d_call Try.call22 hF (.cons rfl .nil) (toVectorS_ok sl m V _ (hs.ext hM.below) (by omega))) rfl ?_
    rintro _ w' a ⟨hx, b4, rfl, hge, hbk⟩ hF
    have hM := hM.fill hx 2 hbk hge
    change Mem w w' [some (b1, algC (p : Int) (n : Int) T f), some (b3, vecsC m V), some (b4, vecsC m V), none] [] at hM
    refine st hF (g_assign hF rfl) rfl fun a hF => ?_
    refine wpList_nil ?_
    refine tN ?_
    refine sq ?_
    refine wp_region_lit ?_
    refine st hF (g_loadAgg ty_ag_26 hF rfl (hM.row 0 rfl) (by simp only [fnC_size, cells_size, vecC_size, tabC_size, planeC_size, vecsC_size] <;> omega) (whole cells_size)) rfl fun a hF => ?_
    refine stR hF (d_call Try.call10 hF (.cons rfl .nil) (toAlgebra_ok (p : Int) (n : Int) T f _)) rfl ?_
    rintro _ w' a ⟨hx, rfl⟩ hF
    have hM := hM.ext hx
    refine st hF (g_move hF rfl) rfl fun a hF => st hF (g_move hF rfl) rfl fun a hF => ?_
    refine stR hF (d_call Try.call23 hF (.cons rfl (.cons rfl (.cons rfl .nil))) (LegNumberI_R p n T f b4 m m V (x) _ hp hn0 hn hTp hT0 hf hV hm (hM.row 2 rfl) hk hc)) rfl ?_
    rintro _ w' a ⟨hx, rfl⟩ hF
    have hM := hM.ext hx
    refine st hF (g_move hF rfl) rfl fun a hF => st hF (g_extract hF rfl rfl) rfl fun a hF => st hF (g_extract hF rfl rfl) rfl fun a hF => st hF (g_assign hF rfl) rfl fun a hF => st hF (g_assign hF rfl) rfl fun a hF => ?_
    refine wpList_nil ?_
    refine tN ?_
    refine sq ?_
    refine sq ?_
    refine wp_region_lit ?_
    refine st hF (g_move hF rfl) rfl fun a hF => st hF (g_move hF rfl) rfl fun a hF => st hF (g_neq hF rfl rfl) rfl fun a hF => st hF (g_move hF rfl) rfl fun a hF => ?_
    rw [show decide ((0 : Int) ≠ 0) = false from by decide] at hF
    refine stY hF rfl rfl rfl (g_move hF rfl) rfl fun a hF => stY hF rfl rfl rfl (g_move hF rfl) rfl fun a hF => stY hF rfl rfl rfl (g_neq hF rfl rfl) rfl fun a hF => st hF (g_pickF hF rfl rfl) rfl fun a hF => ?_
    refine wpList_nil ?_
    refine tN ?_
    refine c_kF hF rfl (by decide) ?_
    refine wp_skip ?_
    refine tN ?_
    refine sq ?_
    refine sq ?_
    refine wp_region_lit ?_
    refine st hF (g_move hF rfl) rfl fun a hF => st hF (g_move hF rfl) rfl fun a hF => ?_
    refine stR hF (d_call Try.call22 hF (.cons rfl .nil) (toVectorS_ok sl m V _ (hs.ext hM.below) (by omega))) rfl ?_
    rintro _ w' a ⟨hx, b6, rfl, hge, hbk⟩ hF
    have hM := hM.fill hx 3 hbk hge
    change Mem w w' [some (b1, algC (p : Int) (n : Int) T f), some (b3, vecsC m V), some (b4, vecsC m V), some (b6, vecsC m V)] [] at hM
    refine stR hF (d_call Try.call24 hF (.cons rfl (.cons rfl .nil)) (eqVectorS_own b4 b6 m V _ (by omega) (hM.row 2 rfl) (hM.row 3 rfl) hV)) rfl ?_
    rintro _ w' a ⟨hx, rfl⟩ hF
    have hM := hM.ext hx
    refine st hF (g_not hF rfl) rfl fun a hF => ?_
    refine wpList_nil ?_
    refine tN ?_
    refine c_Fl hF rfl ?_
    refine wp_skip ?_
    refine tN ?_
    refine sq ?_
    refine wp_region_lit ?_
    refine st hF (g_assign hF rfl) rfl fun a hF => ?_
    refine wpList_nil ?_
    refine tN ?_
    refine wp_ret ?_
    refine fin1 rfl hF.defers (res_tmp hF rfl) ⟨_, rfl, hM.below, ?_⟩
    show _ = _
    rfl

theorem law_LegNumberF (p n : Nat) (T : Nat → Nat → Nat → Nat) (f : Nat → Nat) (sl : Value) (m : Nat) (V : Nat → Nat → Nat) (x : Nat) (w : World) (hp : primeN p) (hn0 : 0 < n) (hn : n ≤ 6) (hTp : ∀ i j k, T i j k < p) (hT0 : ∀ i j k, n ≤ k → T i j k = 0) (hf : ∀ i, f i ≤ 255) (hV : ∀ i c, V i c ≤ 255) (hs : ArgVs w sl m V) (hm : m < 2000000) (hmx : m ≤ 1048576) (hk : x ≤ 30 ∧ m ≤ 6) (hfr : ¬ FrobN p n T f) (hc : CodeP (p : Int) (n : Int) T f m V) :
    CallsR Try.prog 7 #[.agg (algC (p : Int) (n : Int) T f), .int .i64 (((x : Nat) : Int)), sl] w (fun res _ => res = .bool true) := by
  refine calls_fr [.agg (algC (p : Int) (n : Int) T f), .int .i64 (((x : Nat) : Int)), sl] Try.func7 rfl Try.ntmps7 rfl fun a hF => ?_
  have hM : Mem w w [none, none, none, none] [] := MemX.start w 4
  change Fr 50 a [(0, .agg (algC (p : Int) (n : Int) T f)), (1, .int .i64 (((x : Nat) : Int))), (2, sl)] at hF
  have hp2 := hp.two
  have hp13 := hp.le
  have hT : ∀ i j k, T i j k ≤ 255 := fun i j k => by have := hTp i j k; omega
  have hso := hs.one
  refine sq ?_
  refine wp_region_lit ?_
  refine stR hF (d_box 0 hM hF rfl) rfl ?_
  rintro _ w' a ⟨b1, rfl, hM, -⟩ hF
  change Mem w w' [some (b1, algC (p : Int) (n : Int) T f), none, none, none] [] at hM
  refine st hF (g_assign hF rfl) rfl fun a hF => ?_
  refine wpList_nil ?_
  refine tN ?_
  refine sq ?_
  refine wp_region_lit ?_
  refine st hF (g_assign hF rfl) rfl fun a hF => ?_
  refine wpList_nil ?_
  refine tN ?_
  refine sq ?_
  refine wp_region_lit ?_
  refine st hF (g_move hF rfl) rfl fun a hF => st hF (g_move hF rfl) rfl fun a hF => ?_
  refine stR hF (d_call Try.call20 hF (.cons rfl (.cons rfl .nil)) (szVectorS_ok sl m (1048576) V _ (hs.ext hM.below) (by omega) (by omega))) rfl ?_
  rintro _ w' a ⟨hx, rfl⟩ hF
  have hM := hM.ext hx
  refine st hF (g_assign hF rfl) rfl fun a hF => ?_
  refine wpList_nil ?_
  refine tN ?_
  refine sq ?_
  refine sq ?_
  refine wp_region_lit ?_
  refine st hF (g_move hF rfl) rfl fun a hF => st hF (g_lss hF rfl rfl) rfl fun a hF => ?_
  refine wpList_nil ?_
  refine tN ?_
  refine c_cond hF rfl (fun h2 => ?_) (fun h2 => ?_)
  ·
    first | exact absurd rfl h2 | (exfalso; omega)
  ·
    refine wp_skip ?_
    refine tN ?_
    refine sq ?_
    refine wp_region_lit ?_
    refine st hF (g_loadAgg ty_ag_26 hF rfl (hM.row 0 rfl) (by simp only [fnC_size, cells_size, vecC_size, tabC_size, planeC_size, vecsC_size] <;> omega) (whole cells_size)) rfl fun a hF => ?_
    refine stR hF (d_call Try.call10 hF (.cons rfl .nil) (toAlgebra_ok (p : Int) (n : Int) T f _)) rfl ?_
    rintro _ w' a ⟨hx, rfl⟩ hF
    have hM := hM.ext hx
    refine st hF (g_move hF rfl) rfl fun a hF => st hF (g_move hF rfl) rfl fun a hF => ?_
    refine stR hF (d_call Try.call22 hF (.cons rfl .nil) (toVectorS_ok sl m V _ (hs.ext hM.below) (by omega))) rfl ?_
    rintro _ w' a ⟨hx, b3, rfl, hge, hbk⟩ hF
    have hM := hM.fill hx 1 hbk hge
    change Mem w w' [some (b1, algC (p : Int) (n : Int) T f), some (b3, vecsC m V), none, none] [] at hM
    refine stR hF (d_call Try.call21 hF (.cons rfl (.cons rfl (.cons rfl .nil))) (LegNumberS_F p n T f b3 m V (x) _ hp hn0 hn hTp hT0 hf hV hm (hM.row 1 rfl) hk hfr hc)) rfl ?_
    rintro _ w' a ⟨hx, rfl⟩ hF
    have hM := hM.ext hx
    refine st hF (g_move hF rfl) rfl fun a hF => st hF (g_extract hF rfl rfl) rfl fun a hF => st hF (g_extract hF rfl rfl) rfl fun a hF => st hF (g_assign hF rfl) rfl fun a hF => st hF (g_assign hF rfl) rfl fun a hF => ?_
    refine wpList_nil ?_
    refine tN ?_
    refine sq ?_
    refine wp_region_lit ?_
    refine st hF (g_move hF rfl) rfl fun a hF => ?_
    refine stR hF (d_call Try.call22 hF (.cons rfl .nil) (toVectorS_ok sl m V _ (hs.ext hM.below) (by omega))) rfl ?_
    rintro _ w' a ⟨hx, b4, rfl, hge, hbk⟩ hF
    have hM := hM.fill hx 2 hbk hge
    change Mem w w' [some (b1, algC (p : Int) (n : Int) T f), some (b3, vecsC m V), some (b4, vecsC m V), none] [] at hM
    refine st hF (g_assign hF rfl) rfl fun a hF => ?_
    refine wpList_nil ?_
    refine tN ?_
    refine sq ?_
    refine wp_region_lit ?_
    refine st hF (g_loadAgg ty_ag_26 hF rfl (hM.row 0 rfl) (by simp only [fnC_size, cells_size, vecC_size, tabC_size, planeC_size, vecsC_size] <;> omega) (whole cells_size)) rfl fun a hF => ?_
    refine stR hF (d_call Try.call10 hF (.cons rfl .nil) (toAlgebra_ok (p : Int) (n : Int) T f _)) rfl ?_
    rintro _ w' a ⟨hx, rfl⟩ hF
    have hM := hM.ext hx
    refine st hF (g_move hF rfl) rfl fun a hF => st hF (g_move hF rfl) rfl fun a hF => ?_
    refine stR hF (d_call Try.call23 hF (.cons rfl (.cons rfl (.cons rfl .nil))) (LegNumberI_F p n T f b4 m m V (x) _ hp hn0 hn hTp hT0 hf hV hm (hM.row 2 rfl) hk hfr hc)) rfl ?_
    rintro _ w' a ⟨hx, rfl⟩ hF
    have hM := hM.ext hx
    refine st hF (g_move hF rfl) rfl fun a hF => st hF (g_extract hF rfl rfl) rfl fun a hF => st hF (g_extract hF rfl rfl) rfl fun a hF => st hF (g_assign hF rfl) rfl fun a hF => st hF (g_assign hF rfl) rfl fun a hF => ?_
    refine wpList_nil ?_
    refine tN ?_
    refine sq ?_
    refine sq ?_
    refine wp_region_lit ?_
    refine st hF (g_move hF rfl) rfl fun a hF => st hF (g_move hF rfl) rfl fun a hF => st hF (g_neq hF rfl rfl) rfl fun a hF => st hF (g_move hF rfl) rfl fun a hF => ?_
    rw [show decide ((0 : Int) ≠ 0) = false from by decide] at hF
    refine stY hF rfl rfl rfl (g_move hF rfl) rfl fun a hF => stY hF rfl rfl rfl (g_move hF rfl) rfl fun a hF => stY hF rfl rfl rfl (g_neq hF rfl rfl) rfl fun a hF => st hF (g_pickF hF rfl rfl) rfl fun a hF => ?_
    refine wpList_nil ?_
    refine tN ?_
    refine c_kF hF rfl (by decide) ?_
    refine wp_skip ?_
    refine tN ?_
    refine sq ?_
    refine sq ?_
    refine wp_region_lit ?_
    refine st hF (g_move hF rfl) rfl fun a hF => st hF (g_move hF rfl) rfl fun a hF => ?_
    refine stR hF (d_call Try.call22 hF (.cons rfl .nil) (toVectorS_ok sl m V _ (hs.ext hM.below) (by omega))) rfl ?_
    rintro _ w' a ⟨hx, b6, rfl, hge, hbk⟩ hF
    have hM := hM.fill hx 3 hbk hge
    change Mem w w' [some (b1, algC (p : Int) (n : Int) T f), some (b3, vecsC m V), some (b4, vecsC m V), some (b6, vecsC m V)] [] at hM
    refine stR hF (d_call Try.call24 hF (.cons rfl (.cons rfl .nil)) (eqVectorS_own b4 b6 m V _ (by omega) (hM.row 2 rfl) (hM.row 3 rfl) hV)) rfl ?_
    rintro _ w' a ⟨hx, rfl⟩ hF
    have hM := hM.ext hx
    refine st hF (g_not hF rfl) rfl fun a hF => ?_
    refine wpList_nil ?_
    refine tN ?_
    refine c_Fl hF rfl ?_
    refine wp_skip ?_
    refine tN ?_
    refine sq ?_
    refine wp_region_lit ?_
    refine st hF (g_assign hF rfl) rfl fun a hF => ?_
    refine wpList_nil ?_
    refine tN ?_
    refine wp_ret ?_
    refine fin1 rfl hF.defers (res_tmp hF rfl) ⟨_, rfl, hM.below, ?_⟩
    show _ = _
    rfl

theorem law_LegNumberN (p n : Nat) (T : Nat → Nat → Nat → Nat) (f : Nat → Nat) (sl : Value) (m : Nat) (V : Nat → Nat → Nat) (x : Nat) (w : World) (hp : primeN p) (hn0 : 0 < n) (hn : n ≤ 6) (hTp : ∀ i j k, T i j k < p) (hT0 : ∀ i j k, n ≤ k → T i j k = 0) (hf : ∀ i, f i ≤ 255) (hV : ∀ i c, V i c ≤ 255) (hs : ArgVs w sl m V) (hm : m < 2000000) (hmx : m ≤ 1048576) (hk : x ≤ 30 ∧ m ≤ 6) (hfr : FrobN p n T f) (hcom : ¬ comP T) (hc : CodeP (p : Int) (n : Int) T f m V) :
    CallsR Try.prog 7 #[.agg (algC (p : Int) (n : Int) T f), .int .i64 (((x : Nat) : Int)), sl] w (fun res _ => res = .bool true) := by
  refine calls_fr [.agg (algC (p : Int) (n : Int) T f), .int .i64 (((x : Nat) : Int)), sl] Try.func7 rfl Try.ntmps7 rfl fun a hF => ?_
  have hM : Mem w w [none, none, none, none] [] := MemX.start w 4
  change Fr 50 a [(0, .agg (algC (p : Int) (n : Int) T f)), (1, .int .i64 (((x : Nat) : Int))), (2, sl)] at hF
  have hp2 := hp.two
  have hp13 := hp.le
  have hT : ∀ i j k, T i j k ≤ 255 := fun i j k => by have := hTp i j k; omega
  have hso := hs.one
  refine sq ?_
  refine wp_region_lit ?_
  refine stR hF (d_box 0 hM hF rfl) rfl ?_
  rintro _ w' a ⟨b1, rfl, hM, -⟩ hF
  change Mem w w' [some (b1, algC (p : Int) (n : Int) T f), none, none, none] [] at hM
  refine st hF (g_assign hF rfl) rfl fun a hF => ?_
  refine wpList_nil ?_
  refine tN ?_
  refine sq ?_
  refine wp_region_lit ?_
  refine st hF (g_assign hF rfl) rfl fun a hF => ?_
  refine wpList_nil ?_
  refine tN ?_
  refine sq ?_
  refine wp_region_lit ?_
  refine st hF (g_move hF rfl) rfl fun a hF => st hF (g_move hF rfl) rfl fun a hF => ?_
  refine stR hF (d_call Try.call20 hF (.cons rfl (.cons rfl .nil)) (szVectorS_ok sl m (1048576) V _ (hs.ext hM.below) (by omega) (by omega))) rfl ?_
  rintro _ w' a ⟨hx, rfl⟩ hF
  have hM := hM.ext hx
  refine st hF (g_assign hF rfl) rfl fun a hF => ?_
  refine wpList_nil ?_
  refine tN ?_
  refine sq ?_
  refine sq ?_
  refine wp_region_lit ?_
  refine st hF (g_move hF rfl) rfl fun a hF => st hF (g_lss hF rfl rfl) rfl fun a hF => ?_
  refine wpList_nil ?_
  refine tN ?_
  refine c_cond hF rfl (fun h2 => ?_) (fun h2 => ?_)
  ·
    first | exact absurd rfl h2 | (exfalso; omega)
  ·
    refine wp_skip ?_
    refine tN ?_
    refine sq ?_
    refine wp_region_lit ?_
    refine st hF (g_loadAgg ty_ag_26 hF rfl (hM.row 0 rfl) (by simp only [fnC_size, cells_size, vecC_size, tabC_size, planeC_size, vecsC_size] <;> omega) (whole cells_size)) rfl fun a hF => ?_
    refine stR hF (d_call Try.call10 hF (.cons rfl .nil) (toAlgebra_ok (p : Int) (n : Int) T f _)) rfl ?_
    rintro _ w' a ⟨hx, rfl⟩ hF
    have hM := hM.ext hx
    refine st hF (g_move hF rfl) rfl fun a hF => st hF (g_move hF rfl) rfl fun a hF => ?_
    refine stR hF (d_call Try.call22 hF (.cons rfl .nil) (toVectorS_ok sl m V _ (hs.ext hM.below) (by omega))) rfl ?_
    rintro _ w' a ⟨hx, b3, rfl, hge, hbk⟩ hF
    have hM := hM.fill hx 1 hbk hge
    change Mem w w' [some (b1, algC (p : Int) (n : Int) T f), some (b3, vecsC m V), none, none] [] at hM
    refine stR hF (d_call Try.call21 hF (.cons rfl (.cons rfl (.cons rfl .nil))) (LegNumberS_N p n T f b3 m V (x) _ hp hn0 hn hTp hT0 hf hV hm (hM.row 1 rfl) hk hfr hcom hc)) rfl ?_
    rintro _ w' a ⟨hx, rfl⟩ hF
    have hM := hM.ext hx
    refine st hF (g_move hF rfl) rfl fun a hF => st hF (g_extract hF rfl rfl) rfl fun a hF => st hF (g_extract hF rfl rfl) rfl fun a hF => st hF (g_assign hF rfl) rfl fun a hF => st hF (g_assign hF rfl) rfl fun a hF => ?_
    refine wpList_nil ?_
    refine tN ?_
    refine sq ?_
    refine wp_region_lit ?_
    refine st hF (g_move hF rfl) rfl fun a hF => ?_
    refine stR hF (d_call Try.call22 hF (.cons rfl .nil) (toVectorS_ok sl m V _ (hs.ext hM.below) (by omega))) rfl ?_
    rintro _ w' a ⟨hx, b4, rfl, hge, hbk⟩ hF
    have hM := hM.fill hx 2 hbk hge
    change Mem w w' [some (b1, algC (p : Int) (n : Int) T f), some (b3, vecsC m V), some (b4, vecsC m V), none] [] at hM
    refine st hF (g_assign hF rfl) rfl fun a hF => ?_
    refine wpList_nil ?_
    refine tN ?_
    refine sq ?_
    refine wp_region_lit ?_
    refine st hF (g_loadAgg ty_ag_26 hF rfl (hM.row 0 rfl) (by simp only [fnC_size, cells_size, vecC_size, tabC_size, planeC_size, vecsC_size] <;> omega) (whole cells_size)) rfl fun a hF => ?_
    refine stR hF (d_call Try.call10 hF (.cons rfl .nil) (toAlgebra_ok (p : Int) (n : Int) T f _)) rfl ?_
    rintro _ w' a ⟨hx, rfl⟩ hF
    have hM := hM.ext hx
    refine st hF (g_move hF rfl) rfl fun a hF => st hF (g_move hF rfl) rfl fun a hF => ?_
    refine stR hF (d_call Try.call23 hF (.cons rfl (.cons rfl (.cons rfl .nil))) (LegNumberI_N p n T f b4 m m V (x) _ hp hn0 hn hTp hT0 hf hV hm (hM.row 2 rfl) hk hfr hcom hc)) rfl ?_
    rintro _ w' a ⟨hx, rfl⟩ hF
    have hM := hM.ext hx
    refine st hF (g_move hF rfl) rfl fun a hF => st hF (g_extract hF rfl rfl) rfl fun a hF => st hF (g_extract hF rfl rfl) rfl fun a hF => st hF (g_assign hF rfl) rfl fun a hF => st hF (g_assign hF rfl) rfl fun a hF => ?_
    refine wpList_nil ?_
    refine tN ?_
    refine sq ?_
    refine sq ?_
    refine wp_region_lit ?_
    refine st hF (g_move hF rfl) rfl fun a hF => st hF (g_move hF rfl) rfl fun a hF => st hF (g_neq hF rfl rfl) rfl fun a hF => st hF (g_move hF rfl) rfl fun a hF => ?_
    rw [show decide ((0 : Int) ≠ 0) = false from by decide] at hF
    refine stY hF rfl rfl rfl (g_move hF rfl) rfl fun a hF => stY hF rfl rfl rfl (g_move hF rfl) rfl fun a hF => stY hF rfl rfl rfl (g_neq hF rfl rfl) rfl fun a hF => st hF (g_pickF hF rfl rfl) rfl fun a hF => ?_
    refine wpList_nil ?_
    refine tN ?_
    refine c_kF hF rfl (by decide) ?_
    refine wp_skip ?_
    refine tN ?_
    refine sq ?_
    refine sq ?_
    refine wp_region_lit ?_
    refine st hF (g_move hF rfl) rfl fun a hF => st hF (g_move hF rfl) rfl fun a hF => ?_
    refine stR hF (d_call Try.call22 hF (.cons rfl .nil) (toVectorS_ok sl m V _ (hs.ext hM.below) (by omega))) rfl ?_
    rintro _ w' a ⟨hx, b6, rfl, hge, hbk⟩ hF
    have hM := hM.fill hx 3 hbk hge
    change Mem w w' [some (b1, algC (p : Int) (n : Int) T f), some (b3, vecsC m V), some (b4, vecsC m V), some (b6, vecsC m V)] [] at hM
    refine stR hF (d_call Try.call24 hF (.cons rfl (.cons rfl .nil)) (eqVectorS_own b4 b6 m V _ (by omega) (hM.row 2 rfl) (hM.row 3 rfl) hV)) rfl ?_
    rintro _ w' a ⟨hx, rfl⟩ hF
    have hM := hM.ext hx
    refine st hF (g_not hF rfl) rfl fun a hF => ?_
    refine wpList_nil ?_
    refine tN ?_
    refine c_Fl hF rfl ?_
    refine wp_skip ?_
    refine tN ?_
    refine sq ?_
    refine wp_region_lit ?_
    refine st hF (g_assign hF rfl) rfl fun a hF => ?_
    refine wpList_nil ?_
    refine tN ?_
    refine wp_ret ?_
    refine fin1 rfl hF.defers (res_tmp hF rfl) ⟨_, rfl, hM.below, ?_⟩
    show _ = _
    rfl

theorem law_LegNumberY (p n : Nat) (T : Nat → Nat → Nat → Nat) (f : Nat → Nat) (sl : Value) (m : Nat) (V : Nat → Nat → Nat) (x : Nat) (w : World) (hp : primeN p) (hn0 : 0 < n) (hn : n ≤ 6) (hTp : ∀ i j k, T i j k < p) (hT0 : ∀ i j k, n ≤ k → T i j k = 0) (hf : ∀ i, f i ≤ 255) (hV : ∀ i c, V i c ≤ 255) (hs : ArgVs w sl m V) (hm : m < 2000000) (hmx : m ≤ 1048576) (hk : x ≤ 30 ∧ m ≤ 6) (hfr : FrobN p n T f) (hcom : comP T) (G : Nat → Nat → Nat) (hG : IsCop p n (formM p n T f) G) (uu : Nat → Nat) (huu : UnitI p n T uu) (hc : CodeP (p : Int) (n : Int) T f m V) :
    CallsR Try.prog 7 #[.agg (algC (p : Int) (n : Int) T f), .int .i64 (((x : Nat) : Int)), sl] w (fun res _ => res = .bool true) := by
  refine calls_fr [.agg (algC (p : Int) (n : Int) T f), .int .i64 (((x : Nat) : Int)), sl] Try.func7 rfl Try.ntmps7 rfl fun a hF => ?_
  have hM : Mem w w [none, none, none, none] [] := MemX.start w 4
  change Fr 50 a [(0, .agg (algC (p : Int) (n : Int) T f)), (1, .int .i64 (((x : Nat) : Int))), (2, sl)] at hF
  have hp2 := hp.two
  have hp13 := hp.le
  have hT : ∀ i j k, T i j k ≤ 255 := fun i j k => by have := hTp i j k; omega
  have hso := hs.one
  refine sq ?_
  refine wp_region_lit ?_
  refine stR hF (d_box 0 hM hF rfl) rfl ?_
  rintro _ w' a ⟨b1, rfl, hM, -⟩ hF
  change Mem w w' [some (b1, algC (p : Int) (n : Int) T f), none, none, none] [] at hM
  refine st hF (g_assign hF rfl) rfl fun a hF => ?_
  refine wpList_nil ?_
  refine tN ?_
  refine sq ?_
  refine wp_region_lit ?_
  refine st hF (g_assign hF rfl) rfl fun a hF => ?_
  refine wpList_nil ?_
  refine tN ?_
  refine sq ?_
  refine wp_region_lit ?_
  refine st hF (g_move hF rfl) rfl fun a hF => st hF (g_move hF rfl) rfl fun a hF => ?_
  refine stR hF (d_call Try.call20 hF (.cons rfl (.cons rfl .nil)) (szVectorS_ok sl m (1048576) V _ (hs.ext hM.below) (by omega) (by omega))) rfl ?_
  rintro _ w' a ⟨hx, rfl⟩ hF
  have hM := hM.ext hx
  refine st hF (g_assign hF rfl) rfl fun a hF => ?_
  refine wpList_nil ?_
  refine tN ?_
  refine sq ?_
  refine sq ?_
  refine wp_region_lit ?_
  refine st hF (g_move hF rfl) rfl fun a hF => st hF (g_lss hF rfl rfl) rfl fun a hF => ?_
  refine wpList_nil ?_
  refine tN ?_
  refine c_cond hF rfl (fun h2 => ?_) (fun h2 => ?_)
  ·
    first | exact absurd rfl h2 | (exfalso; omega)
  ·
    refine wp_skip ?_
    refine tN ?_
    refine sq ?_
    refine wp_region_lit ?_
    refine st hF (g_loadAgg ty_ag_26 hF rfl (hM.row 0 rfl) (by simp only [fnC_size, cells_size, vecC_size, tabC_size, planeC_size, vecsC_size] <;> omega) (whole cells_size)) rfl fun a hF => ?_
    refine stR hF (d_call Try.call10 hF (.cons rfl .nil) (toAlgebra_ok (p : Int) (n : Int) T f _)) rfl ?_
    rintro _ w' a ⟨hx, rfl⟩ hF
    have hM := hM.ext hx
    refine st hF (g_move hF rfl) rfl fun a hF => st hF (g_move hF rfl) rfl fun a hF => ?_
    refine stR hF (d_call Try.call22 hF (.cons rfl .nil) (toVectorS_ok sl m V _ (hs.ext hM.below) (by omega))) rfl ?_
    rintro _ w' a ⟨hx, b3, rfl, hge, hbk⟩ hF
    have hM := hM.fill hx 1 hbk hge
    change Mem w w' [some (b1, algC (p : Int) (n : Int) T f), some (b3, vecsC m V), none, none] [] at hM
    refine stR hF (d_call Try.call21 hF (.cons rfl (.cons rfl (.cons rfl .nil))) (LegNumberS_Y p n T f b3 m V (x) _ hp hn0 hn hTp hT0 hf hV hm (hM.row 1 rfl) hk hfr hcom G hG uu huu hc)) rfl ?_
    rintro _ w' a ⟨hx, rfl⟩ hF
    have hM := hM.ext hx
    refine st hF (g_move hF rfl) rfl fun a hF => st hF (g_extract hF rfl rfl) rfl fun a hF => st hF (g_extract hF rfl rfl) rfl fun a hF => st hF (g_assign hF rfl) rfl fun a hF => st hF (g_assign hF rfl) rfl fun a hF => ?_
    refine wpList_nil ?_
    refine tN ?_
    refine sq ?_
    refine wp_region_lit ?_
    refine st hF (g_move hF rfl) rfl fun a hF => ?_
    refine stR hF (d_call Try.call22 hF (.cons rfl .nil) (toVectorS_ok sl m V _ (hs.ext hM.below) (by omega))) rfl ?_
    rintro _ w' a ⟨hx, b4, rfl, hge, hbk⟩ hF
    have hM := hM.fill hx 2 hbk hge
    change Mem w w' [some (b1, algC (p : Int) (n : Int) T f), some (b3, vecsC m V), some (b4, vecsC m V), none] [] at hM
    refine st hF (g_assign hF rfl) rfl fun a hF => ?_
    refine wpList_nil ?_
    refine tN ?_
    refine sq ?_
    refine wp_region_lit ?_
    refine st hF (g_loadAgg ty_ag_26 hF rfl (hM.row 0 rfl) (by simp only [fnC_size, cells_size, vecC_size, tabC_size, planeC_size, vecsC_size] <;> omega) (whole cells_size)) rfl fun a hF => ?_
    refine stR hF (d_call Try.call10 hF (.cons rfl .nil) (toAlgebra_ok (p : Int) (n : Int) T f _)) rfl ?_
    rintro _ w' a ⟨hx, rfl⟩ hF
    have hM := hM.ext hx
    refine st hF (g_move hF rfl) rfl fun a hF => st hF (g_move hF rfl) rfl fun a hF => ?_
    refine stR hF (d_call Try.call23 hF (.cons rfl (.cons rfl (.cons rfl .nil))) (LegNumberI_Y p n T f b4 m m V (x) _ hp hn0 hn hTp hT0 hf hV hm (hM.row 2 rfl) hk hfr hcom G hG uu huu hc)) rfl ?_
    rintro _ w' a ⟨hx, rfl⟩ hF
    have hM := hM.ext hx
    refine st hF (g_move hF rfl) rfl fun a hF => st hF (g_extract hF rfl rfl) rfl fun a hF => st hF (g_extract hF rfl rfl) rfl fun a hF => st hF (g_assign hF rfl) rfl fun a hF => st hF (g_assign hF rfl) rfl fun a hF => ?_
    refine wpList_nil ?_
    refine tN ?_
    refine sq ?_
    refine sq ?_
    refine wp_region_lit ?_
    refine st hF (g_move hF rfl) rfl fun a hF => st hF (g_move hF rfl) rfl fun a hF => st hF (g_neq hF rfl rfl) rfl fun a hF => st hF (g_move hF rfl) rfl fun a hF => ?_
    by_cases g5 : (((sumTo (fun i => ((foldW (timesV p n T) (powW (timesV p n T) uu (hdl p n T G n 0) x) V m)) i * f i) 6 % p : Nat) : Int) : Int) ≠ ((sumTo (fun i => ((foldW (timesV p n T) (powW (timesV p n T) uu (hdl p n T G n 0) x) V m)) i * f i) 6 % p : Nat) : Int)
    ·
      first | rw [decide_eq_true g5] at hF | simp only [decide_eq_true g5] at hF
      first | exact absurd rfl g5 | (exfalso; omega)
    ·
      first | rw [decide_eq_false g5] at hF | simp only [decide_eq_false g5] at hF
      refine stY hF rfl rfl rfl (g_move hF rfl) rfl fun a hF => stY hF rfl rfl rfl (g_move hF rfl) rfl fun a hF => stY hF rfl rfl rfl (g_neq hF rfl rfl) rfl fun a hF => st hF (g_pickF hF rfl rfl) rfl fun a hF => ?_
      refine wpList_nil ?_
      refine tN ?_
      refine c_kF hF rfl (by decide) ?_
      refine wp_skip ?_
      refine tN ?_
      refine sq ?_
      refine sq ?_
      refine wp_region_lit ?_
      refine st hF (g_move hF rfl) rfl fun a hF => st hF (g_move hF rfl) rfl fun a hF => ?_
      refine stR hF (d_call Try.call22 hF (.cons rfl .nil) (toVectorS_ok sl m V _ (hs.ext hM.below) (by omega))) rfl ?_
      rintro _ w' a ⟨hx, b7, rfl, hge, hbk⟩ hF
      have hM := hM.fill hx 3 hbk hge
      change Mem w w' [some (b1, algC (p : Int) (n : Int) T f), some (b3, vecsC m V), some (b4, vecsC m V), some (b7, vecsC m V)] [] at hM
      refine stR hF (d_call Try.call24 hF (.cons rfl (.cons rfl .nil)) (eqVectorS_own b4 b7 m V _ (by omega) (hM.row 2 rfl) (hM.row 3 rfl) hV)) rfl ?_
      rintro _ w' a ⟨hx, rfl⟩ hF
      have hM := hM.ext hx
      refine st hF (g_not hF rfl) rfl fun a hF => ?_
      refine wpList_nil ?_
      refine tN ?_
      refine c_Fl hF rfl ?_
      refine wp_skip ?_
      refine tN ?_
      refine sq ?_
      refine wp_region_lit ?_
      refine st hF (g_assign hF rfl) rfl fun a hF => ?_
      refine wpList_nil ?_
      refine tN ?_
      refine wp_ret ?_
      refine fin1 rfl hF.defers (res_tmp hF rfl) ⟨_, rfl, hM.below, ?_⟩
      show _ = _
      rfl

theorem law_LegNumberZ (p n : Int) (T : Nat → Nat → Nat → Nat) (f : Nat → Nat) (sl : Value) (m : Nat) (V : Nat → Nat → Nat) (x : Int) (w : World) (hs : ArgVs w sl m V) (hmx : 1048576 < m) (hml : m ≤ maxLen) :
    CallsR Try.prog 7 #[.agg (algC p n T f), .int .i64 (x), sl] w (fun res _ => res = .bool true) := by
  refine calls_fr [.agg (algC p n T f), .int .i64 (x), sl] Try.func7 rfl Try.ntmps7 rfl fun a hF => ?_
  have hM : Mem w w [none, none, none, none] [] := MemX.start w 4
  change Fr 50 a [(0, .agg (algC p n T f)), (1, .int .i64 (x)), (2, sl)] at hF
  have hso := hs.one
  refine sq ?_
  refine wp_region_lit ?_
  refine stR hF (d_box 0 hM hF rfl) rfl ?_
  rintro _ w' a ⟨b1, rfl, hM, -⟩ hF
  change Mem w w' [some (b1, algC p n T f), none, none, none] [] at hM
  refine st hF (g_assign hF rfl) rfl fun a hF => ?_
  refine wpList_nil ?_
  refine tN ?_
  refine sq ?_
  refine wp_region_lit ?_
  refine st hF (g_assign hF rfl) rfl fun a hF => ?_
  refine wpList_nil ?_
  refine tN ?_
  refine sq ?_
  refine wp_region_lit ?_
  refine st hF (g_move hF rfl) rfl fun a hF => st hF (g_move hF rfl) rfl fun a hF => ?_
  refine stR hF (d_call Try.call20 hF (.cons rfl (.cons rfl .nil)) (szVectorS_no sl m (1048576) V _ (hs.ext hM.below) (by omega) (by omega) hml)) rfl ?_
  rintro _ w' a ⟨hx, rfl⟩ hF
  have hM := hM.ext hx
  refine st hF (g_assign hF rfl) rfl fun a hF => ?_
  refine wpList_nil ?_
  refine tN ?_
  refine sq ?_
  refine sq ?_
  refine wp_region_lit ?_
  refine st hF (g_move hF rfl) rfl fun a hF => st hF (g_lss hF rfl rfl) rfl fun a hF => ?_
  refine wpList_nil ?_
  refine tN ?_
  refine c_cond hF rfl (fun h2 => ?_) (fun h2 => ?_)
  ·
    refine sq ?_
    refine wp_region_lit ?_
    refine st hF (g_assign hF rfl) rfl fun a hF => ?_
    refine wpList_nil ?_
    refine tN ?_
    refine wp_ret ?_
    refine tR ?_
    refine fin1 rfl hF.defers (res_tmp hF rfl) ⟨_, rfl, hM.below, ?_⟩
    show _ = _
    rfl
  ·
    exfalso; omega

theorem law_LegNumber (p n : Int) (T : Nat → Nat → Nat → Nat) (f : Nat → Nat) (x : Int) (sl : Value) (m : Nat) (V : Nat → Nat → Nat) (w : World) (hT : ∀ i j k, T i j k ≤ 255) (hf : ∀ i, f i ≤ 255) (_hx : -9223372036854775808 ≤ x ∧ x ≤ 9223372036854775807) (hs : ArgVs w sl m V) (hml : m ≤ maxLen) (hV : ∀ i c, V i c ≤ 255) : CallsV Try.prog 7 #[.agg (algC p n T f), .int .i64 (x), sl] w (.bool true) := by
  by_cases hmx : m ≤ 1048576
  · by_cases hc : CodeP p n T f m V
    · have hs0 := hc.1.1
      have hp0 := primeP_pos hs0.1
      have hn := hs0.2.1
      have e1 : ((p.toNat : Nat) : Int) = p := by omega
      have e2 : ((n.toNat : Nat) : Int) = n := by omega
      have hc2 : CodeP ((p.toNat : Nat) : Int) ((n.toNat : Nat) : Int) (trunc n.toNat T) f m V := by rw [e1, e2]; exact code_trunc hc
      obtain ⟨uu, huu⟩ := hc.1.2.2
      by_cases hk : (0 ≤ x ∧ x ≤ 30) ∧ m ≤ 6
      · by_cases hfr : FrobN p.toNat n.toNat (trunc n.toNat T) f
        · by_cases hcom : comP (trunc n.toNat T)
          · obtain ⟨G, hG⟩ := cop_exists (F := formM p.toNat n.toNat (trunc n.toNat T) f) (primeN_of hs0.1) (by omega) (by omega) (fun i c h => formM_out h) (formM_lt (by omega)) hfr
            have h := law_LegNumberY p.toNat n.toNat (trunc n.toNat T) f sl m V x.toNat w (primeN_of hs0.1) (by omega) (by omega) (trunc_lt hs0) trunc_out hf hV hs (by omega) hmx (by omega) hfr hcom G hG uu huu hc2
            rw [e1, e2, ← algC_trunc hs0, show ((x.toNat : Nat) : Int) = x by omega] at h
            exact h
          · have h := law_LegNumberN p.toNat n.toNat (trunc n.toNat T) f sl m V x.toNat w (primeN_of hs0.1) (by omega) (by omega) (trunc_lt hs0) trunc_out hf hV hs (by omega) hmx (by omega) hfr hcom hc2
            rw [e1, e2, ← algC_trunc hs0, show ((x.toNat : Nat) : Int) = x by omega] at h
            exact h
        · have h := law_LegNumberF p.toNat n.toNat (trunc n.toNat T) f sl m V x.toNat w (primeN_of hs0.1) (by omega) (by omega) (trunc_lt hs0) trunc_out hf hV hs (by omega) hmx (by omega) hfr hc2
          rw [e1, e2, ← algC_trunc hs0, show ((x.toNat : Nat) : Int) = x by omega] at h
          exact h
      · have h := law_LegNumberR p.toNat n.toNat (trunc n.toNat T) f sl m V x w (primeN_of hs0.1) (by omega) (by omega) (trunc_lt hs0) trunc_out hf hV hs (by omega) hmx (by omega) hc2
        rw [e1, e2, ← algC_trunc hs0] at h
        exact h
    · exact law_LegNumberA p n T f sl m V x w hT hf hV hs (by omega) hmx hc
  · exact law_LegNumberZ p n T f sl m V x w hs (by omega) hml

end Go.Proofs.Ytficgmohfabplaa
