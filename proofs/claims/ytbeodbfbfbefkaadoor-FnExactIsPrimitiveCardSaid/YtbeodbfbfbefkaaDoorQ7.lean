/- What functions of the program return, as walks over their operations; no statement of the seat is proved here. -/
import Derived.Test.YtbeodbfbfbefkaaDoorK4
import Derived.Test.YtbeodbfbfbefkaaDoorEch5
import Derived.Test.YtbeodbfbfbefkaaDoorSw30
import Derived.Test.YtbeodbfbfbefkaaDoorEch7
import Derived.Test.YtbeodbfbfbefkaaDoorSw39
set_option linter.unusedVariables false
set_option linter.unusedSimpArgs false
namespace Go.Proofs.YtbeodbfbfbefkaaDoor
open Go Go.RowKit Go.Sw Go.Ech
open Classical
def powW (mul : (Nat → Nat) → (Nat → Nat) → Nat → Nat) (u v : Nat → Nat) : Nat → Nat → Nat
  | 0 => u
  | k + 1 => mul (powW mul u v k) v
theorem powW_le {mul : (Nat → Nat) → (Nat → Nat) → Nat → Nat} {u v : Nat → Nat} (hu : ∀ c, u c ≤ 255) (hm : ∀ x c, mul x v c ≤ 255) : ∀ k c, powW mul u v k c ≤ 255
  | 0, c => hu c
  | k + 1, c => hm _ c
theorem timesV_le {p n : Nat} {T : Nat → Nat → Nat → Nat} (hp : 0 < p) (hp2 : p < 200) (x v : Nat → Nat) (c : Nat) : timesV p n T x v c ≤ 255 := by
  unfold timesV; have := Nat.mod_lt (prodI T x v n n c) hp; omega
theorem prodI_Pr0 {n c : Nat} {T : Nat → Nat → Nat → Nat} {v u : Nat → Nat} : ((prodI T v u n n c : Nat) : Int) = Pr n T (ci v) (ci u) c := by
  unfold prodI Pr
  rw [sumTo_sI]
  refine sI_congr fun a _ => ?_
  rw [sumTo_sI]
  exact sI_congr fun b _ => by simp [ci, Int.natCast_mul]
theorem unit_timesV {p n : Nat} {T : Nat → Nat → Nat → Nat} {u v : Nat → Nat} (hT0 : ∀ i j k, n ≤ k → T i j k = 0) (hu : UnitI p n T u) (hv : ∀ c, c < 6 → v c < p) (hv0 : ∀ c, n ≤ c → c < 6 → v c = 0) : ∀ c, c < 6 → timesV p n T u v c = v c := fun c hc => by
  by_cases h : c < n
  · have hp0 : 0 < p := by have := hv c hc; omega
    refine eq_of_dvd (Nat.mod_lt _ hp0) (hv c hc) ?_
    have h1 : (p : Int) ∣ ((timesV p n T u v c : Nat) : Int) - Pr n T (ci u) (ci v) c := by
      rw [← prodI_Pr0]; unfold timesV; rw [Int.natCast_emod]; exact emod_dvd _ _
    have h2 := Int.dvd_add h1 (Pr_unit_left hu (ci v) h)
    rwa [show ∀ A B C : Int, A - B + (B - C) = A - C from fun A B C => by omega] at h2
  · rw [timesV_out hT0 (by omega), hv0 c (by omega) hc]
theorem power_ok (p n : Nat) (T : Nat → Nat → Nat → Nat) (f v : Nat → Nat) (x : Nat) (w : World) (hp : primeN p) (hn0 : 0 < n) (hn : n ≤ 6) (hTp : ∀ i j k, T i j k < p) (uu : Nat → Nat) (huu : UnitI p n T uu) (hv : ∀ i, v i ≤ 255) (hk : x ≤ 1000) (h1 : ∀ c, c < 6 → timesV p n T uu v c = v c) :
    CallsR Tryd.prog 72 #[.agg (algC (p : Int) (n : Int) T f), .agg (vecC v), .int .i64 (((x : Nat) : Int))] w (fun res _ => res = .agg (vecC (powW (timesV p n T) uu v x))) := by
  refine calls_fr [.agg (algC (p : Int) (n : Int) T f), .agg (vecC v), .int .i64 (((x : Nat) : Int))] Tryd.func72 rfl Tryd.ntmps72 rfl fun a hF => ?_
  have hM : Mem w w [none, none, none, none, none] [] := MemX.start w 5
  change Fr 29 a [(0, .agg (algC (p : Int) (n : Int) T f)), (1, .agg (vecC v)), (2, .int .i64 (((x : Nat) : Int)))] at hF
  have hp2 := hp.two
  have hp13 := hp.le
  have hT : ∀ i j k, T i j k ≤ 255 := fun i j k => by have := hTp i j k; omega
  have hvp : ∀ k c, powW (timesV p n T) uu v k c ≤ 255 := powW_le (fun c => by have := huu.small c; omega) (fun x c => timesV_le (by omega) (by omega) x v c)
  refine sq (wp_region_lit ?_)
  refine stR hF (d_box 0 hM hF rfl) rfl ?_
  rintro _ w' a ⟨b1, rfl, hM, -⟩ hF
  change Mem w w' [some (b1, algC (p : Int) (n : Int) T f), none, none, none, none] [] at hM
  refine stR hF (d_box 1 hM hF rfl) rfl ?_
  rintro _ w' a ⟨b2, rfl, hM, -⟩ hF
  change Mem w w' [some (b1, algC (p : Int) (n : Int) T f), some (b2, vecC v), none, none, none] [] at hM
  refine stR hF (d_alloc 2 hM ty_ze_30) rfl ?_
  rintro _ w' a ⟨b3, rfl, hM, -⟩ hF
  change Mem w w' [some (b1, algC (p : Int) (n : Int) T f), some (b2, vecC v), some (b3, fnC 6 (fun _ => .int .u8 (0))), none, none] [] at hM
  refine wpList_nil (tN (sq (sq (wp_region_lit ?_))))
  refine st hF (g_move hF rfl) rfl fun a hF => st hF (g_eql hF rfl rfl) rfl fun a hF => ?_
  refine wpList_nil (tN ?_)
  refine c_cond hF rfl (fun h4 => ?_) (fun h4 => ?_)
  ·
   refine sq (wp_region_lit ?_)
   refine st hF (g_loadAgg ty_ag_32 hF rfl (hM.row 0 rfl) (by simp only [fnC_size, cells_size, vecC_size, tabC_size, planeC_size] <;> omega) (whole cells_size)) rfl fun a hF => ?_
   refine stR hF (d_call Tryd.call46 hF (.cons rfl .nil) (findUnit_u p n T f uu _ hp hn0 hn hTp huu)) rfl ?_
   rintro _ w' a ⟨hx, rfl⟩ hF
   have hM := hM.ext hx
   ·
    refine st hF (g_move hF rfl) rfl fun a hF => st hF (g_extract hF rfl rfl) rfl fun a hF => st hF (g_extract hF rfl rfl) rfl fun a hF => ?_
    refine stR hF (d_alloc 3 hM ty_ze_30) rfl ?_
    rintro _ w' a ⟨b5, rfl, hM, -⟩ hF
    change Mem w w' [some (b1, algC (p : Int) (n : Int) T f), some (b2, vecC v), some (b3, fnC 6 (fun _ => .int .u8 (0))), some (b5, fnC 6 (fun _ => .int .u8 (0))), none] [] at hM
    refine stN hF (d_storeAgg 3 hM rfl ty_sz_30 hF rfl rfl (by first | exact vecC_one | exact cells_one | (refine fnC_one fun _ _ => ?_; first | rfl | (split <;> rfl))) (by simp only [fnC_size, cells_size, vecC_size, tabC_size, planeC_size]) (by simp only [fnC_size, cells_size, vecC_size, tabC_size, planeC_size] <;> omega) (splice_whole _ _ (by simp only [fnC_size, cells_size, vecC_size, tabC_size, planeC_size]))) ?_
    intro _ w' a hM hF
    change Mem w w' [some (b1, algC (p : Int) (n : Int) T f), some (b2, vecC v), some (b3, fnC 6 (fun _ => .int .u8 (0))), some (b5, vecC uu), none] [] at hM
    refine st hF (g_assign hF rfl) rfl fun a hF => ?_
    refine wpList_nil (tN (sq (wp_region_lit ?_)))
    refine st hF (g_loadAgg ty_ag_30 hF rfl (hM.row 3 rfl) (by simp only [fnC_size, cells_size, vecC_size, tabC_size, planeC_size] <;> omega) (whole (by simp only [fnC_size, cells_size, vecC_size, tabC_size, planeC_size]))) rfl fun a hF => ?_
    refine stN hF (d_storeAgg 2 hM rfl ty_sz_30 hF rfl rfl (by first | exact vecC_one | exact cells_one | (refine fnC_one fun _ _ => ?_; first | rfl | (split <;> rfl))) (by simp only [fnC_size, cells_size, vecC_size, tabC_size, planeC_size]) (by simp only [fnC_size, cells_size, vecC_size, tabC_size, planeC_size] <;> omega) (splice_whole _ _ (by simp only [fnC_size, cells_size, vecC_size, tabC_size, planeC_size]))) ?_
    intro _ w' a hM hF
    change Mem w w' [some (b1, algC (p : Int) (n : Int) T f), some (b2, vecC v), some (b3, vecC uu), some (b5, vecC uu), none] [] at hM
    refine wpList_nil (tN (wp_ret (tR ?_)))
    refine fin1 rfl hF.defers (res_agg ty_ag_30 hF rfl (hM.row 2 rfl) (by simp only [fnC_size, cells_size, vecC_size, tabC_size, planeC_size])) ⟨_, rfl, hM.below, ?_⟩
    show _ = _
    obtain rfl : x = 0 := by omega
    rfl
  ·
   refine wp_skip (tN (sq (wp_region_lit ?_)))
   refine st hF (g_loadAgg ty_ag_30 hF rfl (hM.row 1 rfl) (by simp only [fnC_size, cells_size, vecC_size, tabC_size, planeC_size] <;> omega) (whole (by simp only [fnC_size, cells_size, vecC_size, tabC_size, planeC_size]))) rfl fun a hF => ?_
   refine stR hF (d_alloc 4 hM ty_ze_30) rfl ?_
   rintro _ w' a ⟨b6, rfl, hM, -⟩ hF
   change Mem w w' [some (b1, algC (p : Int) (n : Int) T f), some (b2, vecC v), some (b3, fnC 6 (fun _ => .int .u8 (0))), none, some (b6, fnC 6 (fun _ => .int .u8 (0)))] [] at hM
   refine stN hF (d_storeAgg 4 hM rfl ty_sz_30 hF rfl rfl (by first | exact vecC_one | exact cells_one | (refine fnC_one fun _ _ => ?_; first | rfl | (split <;> rfl))) (by simp only [fnC_size, cells_size, vecC_size, tabC_size, planeC_size]) (by simp only [fnC_size, cells_size, vecC_size, tabC_size, planeC_size] <;> omega) (splice_whole _ _ (by simp only [fnC_size, cells_size, vecC_size, tabC_size, planeC_size]))) ?_
   intro _ w' a hM hF
   change Mem w w' [some (b1, algC (p : Int) (n : Int) T f), some (b2, vecC v), some (b3, fnC 6 (fun _ => .int .u8 (0))), none, some (b6, vecC v)] [] at hM
   refine wpList_nil (tN (sq (sq (wp_region_lit ?_))))
   refine st hF (g_move hF rfl) rfl fun a hF => st hF (g_sub hF rfl rfl (show _ = ((x - 1 : Nat) : Int) from (by rw [wrap_i64] <;> omega))) rfl fun a hF => st hF (g_move hF rfl) rfl fun a hF => ?_
   refine wpList_nil (tN (wp_block ?_))
   change Mem w _ [some (b1, algC (p : Int) (n : Int) T f), some (b2, vecC v), some (b3, fnC 6 (fun _ => .int .u8 (0))), none, some (b6, vecC v)] [] at hM
   refine c_loop (fun (kk : Nat) a w' => kk ≤ (x - 1) ∧ (True) ∧ Fr 29 a [(0, .agg (algC (p : Int) (n : Int) T f)), (1, .agg (vecC v)), (2, .int .i64 (((x : Nat) : Int))), (3, ptr b1 (0)), (4, ptr b2 (0)), (6, ptr b3 (0)), (10, .int .i64 (((x : Nat) : Int))), (11, .bool (decide ((((x : Nat) : Int) : Int) = 0))), (18, .agg (vecC v)), (9, ptr b6 (0)), (19, .int .i64 (((x : Nat) : Int))), (20, .int .i64 (((x - 1 : Nat) : Int))), (21, .int .i64 (((kk : Nat) : Int)))] ∧ Mem w w' [some (b1, algC (p : Int) (n : Int) T f), some (b2, vecC v), some (b3, fnC 6 (fun _ => .int .u8 (0))), none, some (b6, vecC (powW (timesV p n T) uu v (kk + 1)))] []) (fun kk => (x - 1) - kk) 0 ?_ ?_
   ·
    refine ⟨by omega, trivial, hF.sub _ (by repeat' constructor), ?_⟩
    exact hM.rowc 4 rfl (fnC_congr fun c hc => congrArg (Value.int .u8) (congrArg Nat.cast (h1 c hc).symm))
   ·
    clear hF hM
    rintro gi a w' ⟨hgi, hinv1, hF, hM⟩
    have hvt := hvp (gi + 1)
    refine sq (wp_region_lit ?_)
    refine st hF (g_lss hF rfl rfl) rfl fun a hF => ?_
    refine wpList_nil (tN (sq ?_))
    refine c_cond hF rfl (fun h7 => ?_) (fun h7 => ?_)
    ·
     refine wp_skip (tN (sq (wp_block (wp_region_lit ?_))))
     refine st hF (g_loadAgg ty_ag_32 hF rfl (hM.row 0 rfl) (by simp only [fnC_size, cells_size, vecC_size, tabC_size, planeC_size] <;> omega) (whole cells_size)) rfl fun a hF => st hF (g_loadAgg ty_ag_30 hF rfl (hM.row 4 rfl) (by simp only [fnC_size, cells_size, vecC_size, tabC_size, planeC_size] <;> omega) (whole (by simp only [fnC_size, cells_size, vecC_size, tabC_size, planeC_size]))) rfl fun a hF => st hF (g_loadAgg ty_ag_30 hF rfl (hM.row 1 rfl) (by simp only [fnC_size, cells_size, vecC_size, tabC_size, planeC_size] <;> omega) (whole (by simp only [fnC_size, cells_size, vecC_size, tabC_size, planeC_size]))) rfl fun a hF => ?_
     refine stR hF (d_call Tryd.call75 hF (.cons rfl (.cons rfl (.cons rfl .nil))) (product_ok p n T f ((powW (timesV p n T) uu v (gi + 1))) (v) _ (by omega) (by omega) (by omega) (fun _ _ _ => hT _ _ _) (fun _ => by first | exact hv _ | exact hvt _ | exact hvs _ | exact hu _ | exact hT _ _ _ | exact hf _ | omega | (split <;> omega) | (dsimp only; split <;> omega) | assumption) (fun _ => by first | exact hv _ | exact hvt _ | exact hvs _ | exact hu _ | exact hT _ _ _ | exact hf _ | omega | (split <;> omega) | (dsimp only; split <;> omega) | assumption))) rfl ?_
     rintro _ w' a ⟨hx, rfl⟩ hF
     have hM := hM.ext hx
     refine stN hF (d_storeAgg 4 hM rfl ty_sz_30 hF rfl rfl (by first | exact vecC_one | exact cells_one | (refine fnC_one fun _ _ => ?_; first | rfl | (split <;> rfl))) (by simp only [fnC_size, cells_size, vecC_size, tabC_size, planeC_size]) (by simp only [fnC_size, cells_size, vecC_size, tabC_size, planeC_size] <;> omega) (splice_whole _ _ (by simp only [fnC_size, cells_size, vecC_size, tabC_size, planeC_size]))) ?_
     intro _ w' a hM hF
     change Mem w w' [some (b1, algC (p : Int) (n : Int) T f), some (b2, vecC v), some (b3, fnC 6 (fun _ => .int .u8 (0))), none, some (b6, vecC (timesV p n T ((powW (timesV p n T) uu v (gi + 1))) (v)))] [] at hM
     refine wpList_nil (iN (tN (wp_region_lit ?_)))
     refine st hF (g_add hF rfl rfl (add_nat (gi) (1) (by omega))) rfl fun a hF => st hF (g_move hF rfl) rfl fun a hF => ?_
     refine wpList_nil (tN ?_)
     refine ⟨gi + 1, ⟨by omega, trivial, hF.sub _ (by repeat' constructor), ?_⟩, by omega⟩
     exact hM
    ·
     obtain rfl : (x - 1) = gi := by omega
     refine wp_exit (tX (tX ?_))
     refine ib_same ?_
     refine tN (sq (wp_region_lit ?_))
     refine st hF (g_loadAgg ty_ag_30 hF rfl (hM.row 4 rfl) (by simp only [fnC_size, cells_size, vecC_size, tabC_size, planeC_size] <;> omega) (whole (by simp only [fnC_size, cells_size, vecC_size, tabC_size, planeC_size]))) rfl fun a hF => ?_
     refine stN hF (d_storeAgg 2 hM rfl ty_sz_30 hF rfl rfl (by first | exact vecC_one | exact cells_one | (refine fnC_one fun _ _ => ?_; first | rfl | (split <;> rfl))) (by simp only [fnC_size, cells_size, vecC_size, tabC_size, planeC_size]) (by simp only [fnC_size, cells_size, vecC_size, tabC_size, planeC_size] <;> omega) (splice_whole _ _ (by simp only [fnC_size, cells_size, vecC_size, tabC_size, planeC_size]))) ?_
     intro _ w' a hM hF
     change Mem w w' [some (b1, algC (p : Int) (n : Int) T f), some (b2, vecC v), some (b3, vecC (powW (timesV p n T) uu v (((x - 1)) + 1))), none, some (b6, vecC (powW (timesV p n T) uu v (((x - 1)) + 1)))] [] at hM
     refine wpList_nil (tN (wp_ret ?_))
     refine fin1 rfl hF.defers (res_agg ty_ag_30 hF rfl (hM.row 2 rfl) (by simp only [fnC_size, cells_size, vecC_size, tabC_size, planeC_size])) ⟨_, rfl, hM.below, ?_⟩
     show _ = _
     rw [show x - 1 + 1 = x by omega]







end Go.Proofs.YtbeodbfbfbefkaaDoor

namespace Go.Proofs.YtbeodbfbfbefkaaDoor
open Go Go.RowKit Go.Sw Go.Ech
open Classical

end Go.Proofs.YtbeodbfbfbefkaaDoor

namespace Go.Proofs.YtbeodbfbfbefkaaDoor
open Go Go.RowKit Go.Sw Go.Ech
open Classical
theorem ty_bs0_27 : ∀ w, (Instr.buildSlice 27 0 #[]).run Tryd.prog w = .ok (.slice (some ⟨w.heap.size, 0, none⟩) 0 0) (w.alloc (.cells #[] 30)) := by intros; kernel_rfl
theorem ty_bsg_27_1 : ∀ (v0 : Nat → Nat) (w : World), (Instr.buildSlice 27 1 #[(0, .agg (vecC v0))]).run Tryd.prog w = .ok (.slice (some ⟨w.heap.size, 0, none⟩) 1 1) (w.alloc (.cells (vecsC 1 (vAtL [v0])) 30)) := by intros; kernel_rfl
theorem ty_si_27 : slI Tryd.prog 27 = some (30, some (.agg (fnC 6 (fun _ => .int .u8 (0)))), 6, 6) := by kernel_rfl
theorem l01Vectors_ok (p n m b0 c0 : Nat) (cs0 : Array Value) (D0 : Froz) (β0 κ0 : Nat → Nat) (C0 : Nat → Array Value) (M : Nat → Nat → Nat) (w : World) (hp13 : p ≤ 13) (hn0 : 0 < n) (hn : n ≤ 6) (hm0 : 0 < m) (hm2 : m < 1000) (hM1 : ∀ i c, M i c < p) (hD0 : ∀ b cs, (b, cs) ∈ D0 → Blk w b cs) (hb0 : (b0, cs0) ∈ D0) (hg0 : ∀ i, i < m → cs0[0 + i * 1]? = some (.slice (some ⟨β0 i, 0, none⟩) n (κ0 i))) (hR0 : RowsD D0 n m β0 κ0 C0 (fun i c => .int .i64 ((M i c : Nat) : Int))) :
    CallsR Tryd.prog 61 #[.slice (some ⟨b0, 0, none⟩) (m) (c0)] w (fun u w' => OwnSl 6 w m (fun c => .int .u8 (((padN n M) (c / 6) (c % 6) : Nat) : Int)) u w') := by
  refine calls_fr [.slice (some ⟨b0, 0, none⟩) (m) (c0)] Tryd.func61 rfl Tryd.ntmps61 rfl fun a hF => ?_
  have hM : Mem w w [none, none, none] D0 := MemX.startD w 3 _ hD0
  change Fr 39 a [(0, .slice (some ⟨b0, 0, none⟩) (m) (c0))] at hF
  have hDD : ∀ x ∈ D0, x ∈ D0 := fun _ h => h
  refine sq (wp_region_lit ?_)
  refine st hF (g_assign hF rfl) rfl fun a hF => ?_
  refine wpList_nil (tN (sq (wp_region_lit ?_)))
  refine stR hF (d_buildC 0 hM hF rfl ty_bs0_27) rfl ?_
  rintro _ w' a ⟨b1, rfl, hM, -⟩ hF
  change Mem w w' [some (b1, #[]), none, none] D0 at hM
  refine st hF (g_assign hF rfl) rfl fun a hF => ?_
  refine wpList_nil (tN (sq (sq (wp_region_lit ?_))))
  refine st hF (g_assign hF rfl) rfl fun a hF => ?_
  refine wpList_nil (tN (wp_block ?_))
  change Mem w _ [some (b1, #[]), none, none] D0 at hM
  refine c_loop (fun (kk : Nat) a w' => kk ≤ m ∧ (True) ∧ ∃ (u3_1 : Value) (e3_1 : Option (Nat × Array Value)), Sl 6 u3_1 e3_1 (kk) (fun c => .int .u8 (((padN n M) (c / 6) (c % 6) : Nat) : Int)) ∧ Fr 39 a [(0, .slice (some ⟨b0, 0, none⟩) (m) (c0)), (2, .slice none 0 0), (7, .slice (some ⟨b1, 0, none⟩) (0) (0)), (4, .int .i64 (((kk : Nat) : Int))), (3, u3_1)] ∧ Mem w w' [e3_1, none, none] D0) (fun kk => m - kk) 0 ?_ ?_
  ·
   refine ⟨by omega, trivial, (.slice (some ⟨b1, 0, none⟩) (0) (0)), (some (b1, #[])), (Sl.empty 6 _ _), hF.sub _ (by repeat' constructor), ?_⟩
   exact hM
  ·
   clear hF hM
   rintro gi a w' ⟨hgi, hinv1, u3_1, e3_1, hsl, hF, hM⟩
   refine sq (sq (wp_region_lit ?_))
   refine st hF (g_move hF rfl) rfl fun a hF => st hF (g_move hF rfl) rfl fun a hF => st hF (g_len ty_us_73 hF rfl) rfl fun a hF => st hF (g_lss hF rfl rfl) rfl fun a hF => ?_
   refine wpList_nil (tN ?_)
   refine c_cond hF rfl (fun h2 => ?_) (fun h2 => ?_)
   ·
    refine wp_skip (tN (sq (wp_block (sq (wp_region_lit ?_)))))
    refine st hF (g_build0 ty_bu_30) rfl fun a hF => ?_
    refine stR hF (d_alloc 1 hM ty_ze_30) rfl ?_
    rintro _ w' a ⟨b3, rfl, hM, -⟩ hF
    change Mem w w' [e3_1, some (b3, fnC 6 (fun _ => .int .u8 (0))), none] D0 at hM
    refine stN hF (d_storeAgg 1 hM rfl ty_sz_30 hF rfl rfl (by first | exact vecC_one | exact cells_one | (refine fnC_one fun _ _ => ?_; first | rfl | (split <;> rfl))) (by simp only [fnC_size, cells_size, vecC_size, tabC_size, planeC_size, dgC_size]) (by simp only [fnC_size, cells_size, vecC_size, tabC_size, planeC_size, dgC_size] <;> omega) (splice_whole _ _ (by simp only [fnC_size, cells_size, vecC_size, tabC_size, planeC_size, dgC_size]))) ?_
    intro _ w' a hM hF
    change Mem w w' [e3_1, some (b3, fnC 6 (fun _ => .int .u8 (0))), none] D0 at hM
    refine wpList_nil (tN (sq (sq (wp_region_lit ?_))))
    refine st hF (g_assign hF rfl) rfl fun a hF => ?_
    refine wpList_nil (tN (wp_block ?_))
    change Mem w _ [e3_1, some (b3, fnC 6 (fun _ => .int .u8 (0))), none] D0 at hM
    refine c_loop (fun (kk : Nat) a w' => kk ≤ n ∧ (True) ∧ Fr 39 a [(0, .slice (some ⟨b0, 0, none⟩) (m) (c0)), (2, .slice none 0 0), (7, .slice (some ⟨b1, 0, none⟩) (0) (0)), (4, .int .i64 (((gi : Nat) : Int))), (3, u3_1), (8, .int .i64 (((gi : Nat) : Int))), (9, .slice (some ⟨b0, 0, none⟩) (m) (c0)), (10, .int .i64 (((m : Nat) : Int))), (11, .bool (decide ((((gi : Nat) : Int) : Int) < ((m : Nat) : Int)))), (14, .agg (fnC 6 (fun _ => .int .u8 (0)))), (5, ptr b3 (0)), (6, .int .i64 (((kk : Nat) : Int)))] ∧ Mem w w' [e3_1, some (b3, vecC (fun c => if c < kk then M gi c else 0)), none] D0) (fun kk => n - kk) 0 ?_ ?_
    ·
     refine ⟨by omega, trivial, hF.sub _ (by repeat' constructor), ?_⟩
     exact hM.rowc 1 rfl (dgC_congr (m := 6) (f := fun _ => 0) fun c hc => by simp)
    ·
     clear hF hM
     rintro gj a w' ⟨hgj, hinv2, hF, hM⟩
     have hMgj := hM1 gi gj
     refine sq (sq (wp_region_lit ?_))
     refine st hF (g_move hF rfl) rfl fun a hF => st hF (g_move hF rfl) rfl fun a hF => st hF (g_move hF rfl) rfl fun a hF => st hF (g_indexSl (i := gi) ty_sl_73 hF rfl rfl rfl (by omega)) rfl fun a hF => st hF (g_load ty_on_70 hF rfl (hM.fzm (hDD _ hb0)) (hg0 (gi) (by omega))) rfl fun a hF => st hF (g_len ty_us_70 hF rfl) rfl fun a hF => st hF (g_lss hF rfl rfl) rfl fun a hF => ?_
     refine wpList_nil (tN ?_)
     refine c_cond hF rfl (fun h4 => ?_) (fun h4 => ?_)
     ·
      refine wp_skip (tN (sq (wp_block (wp_region_lit ?_))))
      refine st hF (g_move hF rfl) rfl fun a hF => st hF (g_move hF rfl) rfl fun a hF => st hF (g_move hF rfl) rfl fun a hF => st hF (g_indexSl (i := gi) ty_sl_73 hF rfl rfl rfl (by omega)) rfl fun a hF => st hF (g_load ty_on_70 hF rfl (hM.fzm (hDD _ hb0)) (hg0 (gi) (by omega))) rfl fun a hF => st hF (g_move hF rfl) rfl fun a hF => st hF (g_indexSl (i := gj) ty_sl_70 hF rfl rfl rfl (by omega)) rfl fun a hF => st hF (g_load ty_on_2 hF rfl (hM.fzm (hDD _ (hR0.mem (gi) (by omega)))) (hR0.get (i := gi) (by omega) (gj) (by omega))) rfl fun a hF => st hF (g_conv ty_un_5 ty_ud_2 hF rfl (wrap_u8 (by omega) (by have := hM1 gi gj; omega))) rfl fun a hF => st hF (g_indexAddr ty_ar_30 hF rfl rfl rfl (by omega)) rfl fun a hF => ?_
      refine stN hF (d_store 1 hM rfl ty_on_5 hF rfl rfl rfl (by first | omega | (simp only [fnC_size, cells_size, vecC_size, tabC_size, planeC_size, dgC_size] <;> omega) | simp)) ?_
      intro _ w' a hM hF
      change Mem w w' [e3_1, some (b3, (vecC (fun c => if c < gj then M gi c else 0)).setIfInBounds (0 + (gj) * 1) (.int .u8 (((M (gi) (gj) : Nat) : Int)))), none] D0 at hM
      refine wpList_nil (iN (tN (wp_region_lit ?_)))
      refine st hF (g_move hF rfl) rfl fun a hF => st hF (g_add hF rfl rfl (add_nat (gj) (1) (by omega))) rfl fun a hF => st hF (g_assign hF rfl) rfl fun a hF => ?_
      refine wpList_nil (tN ?_)
      refine ⟨gj + 1, ⟨by omega, trivial, hF.sub _ (by repeat' constructor), ?_⟩, by omega⟩
      refine hM.rowc 1 rfl (dgC_set (m := 6) (k := gj) (f := fun c => if c < gj then M gi c else 0) (g := fun c => if c < gj + 1 then M gi c else 0) (by omega) (by simp) (fun c hc he => ?_))
      have e0 : (c < gj + 1) = (c < gj) := by apply propext; omega
      simp only [e0]
     ·
      obtain rfl : n = gj := by omega
      have hM := hM.rowc (cs' := vecC ((padN n M) gi)) 1 rfl (dgC_congr (m := 6) (f := fun c => if c < n then M gi c else 0) (g := (padN n M) gi) fun c hc => rfl)
      refine wp_exit (tX (tX ?_))
      refine ib_same ?_
      refine tN (wp_region_lit ?_)
      refine st hF (g_move hF rfl) rfl fun a hF => st hF (g_loadAgg ty_ag_30 hF rfl (hM.row 1 rfl) (by simp only [fnC_size, cells_size, vecC_size, tabC_size, planeC_size, dgC_size] <;> omega) (whole (by simp only [fnC_size, cells_size, vecC_size, tabC_size, planeC_size, dgC_size]))) rfl fun a hF => ?_
      refine stR hF (d_buildC (vs := [(0, .agg (vecC ((padN n M) gi)))]) 2 hM hF (build1 hF rfl) (fun w => ty_bsg_27_1 ((padN n M) gi) w)) rfl ?_
      rintro _ w' a ⟨b5, rfl, hM, -⟩ hF
      change Mem w w' [e3_1, some (b3, vecC ((padN n M) gi)), some (b5, vecsC 1 (vAtL [((padN n M) gi)]))] D0 at hM
      refine stR hF (d_append (k := 0) (N := gi) (m := 1) (f := (fun c => .int .u8 (((padN n M) (c / 6) (c % 6) : Nat) : Int))) (g := fun q => .int .u8 ((((((padN n M) gi)) q : Nat)) : Int)) ty_si_27 rfl (by decide) hM rfl hF rfl rfl hsl (fun q hq => ((hM.row 2 rfl).cell _).trans (vecs1_get q hq)) (fun _ _ => rfl) (by decide) (by unfold maxLen; omega) (by omega)) rfl ?_
      rintro u6 w' a ⟨e7, hM, hs8⟩ hF
      change Mem w w' [e7, some (b3, vecC ((padN n M) gi)), some (b5, vecsC 1 (vAtL [((padN n M) gi)]))] D0 at hM
      refine st hF (g_assign hF rfl) rfl fun a hF => ?_
      refine wpList_nil (iN (tN (wp_region_lit ?_)))
      refine st hF (g_move hF rfl) rfl fun a hF => st hF (g_add hF rfl rfl (add_nat (gi) (1) (by omega))) rfl fun a hF => st hF (g_assign hF rfl) rfl fun a hF => ?_
      refine wpList_nil (tN ?_)
      have hM := hM.drop 1
      have hM := hM.drop 2
      refine ⟨gi + 1, ⟨by omega, trivial, (u6), (e7), (Sl.snoc6 (N := gi) (F := (fun c => .int .u8 (((padN n M) (c / 6) (c % 6) : Nat) : Int))) (G := fun q => .int .u8 (((padN n M) gi q : Nat) : Int)) hs8 (fun q hq => by rw [show (gi * 6 + q) / 6 = gi by omega, show (gi * 6 + q) % 6 = q by omega])), hF.sub _ (by repeat' constructor), ?_⟩, by omega⟩
      exact hM
   ·
    obtain rfl : m = gi := by omega
    refine wp_exit (tX (tX ?_))
    refine ib_same ?_
    refine tN (sq (wp_region_lit ?_))
    refine st hF (g_move hF rfl) rfl fun a hF => st hF (g_assign hF rfl) rfl fun a hF => ?_
    refine wpList_nil (tN (wp_ret ?_))
    refine fin1 rfl hF.defers (res_tmp hF rfl) ⟨_, rfl, hM.below, ?_⟩
    exact OwnSl.pos hM (k := 0) rfl hsl hm0

end Go.Proofs.YtbeodbfbfbefkaaDoor
