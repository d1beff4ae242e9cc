/- What functions of the program return, as walks over their operations; no statement of the seat is proved here. -/
import Derived.Test.YtfencffdhenjdaaDoorK3
import Derived.Test.YtfencffdhenjdaaDoorEch5
set_option linter.unusedVariables false
set_option linter.unusedSimpArgs false
namespace Go.Proofs.YtfencffdhenjdaaDoor
open Go Go.RowKit Go.Sw Go.Ech
open Classical

end Go.Proofs.YtfencffdhenjdaaDoor

namespace Go.Proofs.YtfencffdhenjdaaDoor
open Go Go.RowKit Go.Sw Go.Ech
open Classical
/-- Powers, by one factor more. -/
def powW (mul : (Nat → Nat) → (Nat → Nat) → Nat → Nat) (u v : Nat → Nat) : Nat → Nat → Nat
  | 0 => u
  | k + 1 => mul (powW mul u v k) v
theorem powW_le {mul : (Nat → Nat) → (Nat → Nat) → Nat → Nat} {u v : Nat → Nat} (hu : ∀ c, u c ≤ 255) (hm : ∀ x c, mul x v c ≤ 255) : ∀ k c, powW mul u v k c ≤ 255
  | 0, c => hu c
  | k + 1, c => hm _ c
theorem timesV_le {p n : Nat} {T : Nat → Nat → Nat → Nat} (hp : 0 < p) (hp2 : p < 200) (x v : Nat → Nat) (c : Nat) : timesV p n T x v c ≤ 255 := by
  unfold timesV; have := Nat.mod_lt (prodI T x v n n c) hp; omega
theorem prodI_Pr0 {n c : Nat} {T : Nat → Nat → Nat → Nat} {v u : Nat → Nat} : ((prodI T v u n n c : Nat) : Int) = Pr n T (ci v) (ci u) c := by
  unfold prodI Pr
  rw [sumTo_sI]
  refine sI_congr fun a _ => ?_
  rw [sumTo_sI]
  exact sI_congr fun b _ => by simp [ci, Int.natCast_mul]
/-- The unit times a vector. -/
theorem unit_timesV {p n : Nat} {T : Nat → Nat → Nat → Nat} {u v : Nat → Nat} (hT0 : ∀ i j k, n ≤ k → T i j k = 0) (hu : UnitI p n T u) (hv : ∀ c, c < 6 → v c < p) (hv0 : ∀ c, n ≤ c → c < 6 → v c = 0) : ∀ c, c < 6 → timesV p n T u v c = v c := fun c hc => by
  by_cases h : c < n
  · have hp0 : 0 < p := by have := hv c hc; omega
    refine eq_of_dvd (Nat.mod_lt _ hp0) (hv c hc) ?_
    have h1 : (p : Int) ∣ ((timesV p n T u v c : Nat) : Int) - Pr n T (ci u) (ci v) c := by
      rw [← prodI_Pr0]; unfold timesV; rw [Int.natCast_emod]; exact emod_dvd _ _
    have h2 := Int.dvd_add h1 (Pr_unit_left hu (ci v) h)
    rwa [show ∀ A B C : Int, A - B + (B - C) = A - C from fun A B C => by omega] at h2
  · rw [timesV_out hT0 (by omega), hv0 c (by omega) hc]
theorem power_ok (p n : Nat) (T : Nat → Nat → Nat → Nat) (f v : Nat → Nat) (x : Nat) (w : World) (hp : primeN p) (hn0 : 0 < n) (hn : n ≤ 6) (hTp : ∀ i j k, T i j k < p) (uu : Nat → Nat) (huu : UnitI p n T uu) (hv : ∀ i, v i ≤ 255) (hk : x ≤ 1000) (h1 : ∀ c, c < 6 → timesV p n T uu v c = v c) :
    CallsR Tryd.prog 30 #[.agg (algC (p : Int) (n : Int) T f), .agg (vecC v), .int .i64 (((x : Nat) : Int))] w (fun res _ => res = .agg (vecC (powW (timesV p n T) uu v x))) := by
  refine calls_fr [.agg (algC (p : Int) (n : Int) T f), .agg (vecC v), .int .i64 (((x : Nat) : Int))] Tryd.func30 rfl Tryd.ntmps30 rfl fun a hF => ?_
  have hM : Mem w w [none, none, none, none, none] [] := MemX.start w 5
  change Fr 29 a [(0, .agg (algC (p : Int) (n : Int) T f)), (1, .agg (vecC v)), (2, .int .i64 (((x : Nat) : Int)))] at hF
  have hp2 := hp.two
  have hp13 := hp.le
  have hT : ∀ i j k, T i j k ≤ 255 := fun i j k => by have := hTp i j k; omega
  have hvp : ∀ k c, powW (timesV p n T) uu v k c ≤ 255 := powW_le (fun c => by have := huu.small c; omega) (fun x c => timesV_le (by omega) (by omega) x v c)
  refine sq ?_
  refine wp_region_lit ?_
  refine stR hF (d_box 0 hM hF rfl) rfl ?_
  rintro _ w' a ⟨b1, rfl, hM, -⟩ hF
  change Mem w w' [some (b1, algC (p : Int) (n : Int) T f), none, none, none, none] [] at hM
  refine stR hF (d_box 1 hM hF rfl) rfl ?_
  rintro _ w' a ⟨b2, rfl, hM, -⟩ hF
  change Mem w w' [some (b1, algC (p : Int) (n : Int) T f), some (b2, vecC v), none, none, none] [] at hM
  refine stR hF (d_alloc 2 hM ty_ze_30) rfl ?_
  rintro _ w' a ⟨b3, rfl, hM, -⟩ hF
  change Mem w w' [some (b1, algC (p : Int) (n : Int) T f), some (b2, vecC v), some (b3, fnC 6 (fun _ => .int .u8 (0))), none, none] [] at hM
  refine wpList_nil ?_
  refine tN ?_
  refine sq ?_
  refine sq ?_
  refine wp_region_lit ?_
  refine st hF (g_move hF rfl) rfl fun a hF => st hF (g_eql hF rfl rfl) rfl fun a hF => ?_
  refine wpList_nil ?_
  refine tN ?_
  refine c_cond hF rfl (fun h4 => ?_) (fun h4 => ?_)
  ·
    refine sq ?_
    refine wp_region_lit ?_
    refine st hF (g_loadAgg ty_ag_32 hF rfl (hM.row 0 rfl) (by simp only [fnC_size, cells_size, vecC_size, tabC_size, planeC_size] <;> omega) (whole cells_size)) rfl fun a hF => ?_
    refine stR hF (d_call Tryd.call45 hF (.cons rfl .nil) (findUnit_u p n T f uu _ hp hn0 hn hTp huu)) rfl ?_
    rintro _ w' a ⟨hx, rfl⟩ hF
    have hM := hM.ext hx
    ·
      refine st hF (g_move hF rfl) rfl fun a hF => st hF (g_extract hF rfl rfl) rfl fun a hF => st hF (g_extract hF rfl rfl) rfl fun a hF => ?_
      refine stR hF (d_alloc 3 hM ty_ze_30) rfl ?_
      rintro _ w' a ⟨b5, rfl, hM, -⟩ hF
      change Mem w w' [some (b1, algC (p : Int) (n : Int) T f), some (b2, vecC v), some (b3, fnC 6 (fun _ => .int .u8 (0))), some (b5, fnC 6 (fun _ => .int .u8 (0))), none] [] at hM
      refine stN hF (d_storeAgg 3 hM rfl ty_sz_30 hF rfl rfl (by first | exact vecC_one | exact cells_one | (refine fnC_one fun _ _ => ?_; first | rfl | (split <;> rfl))) (by simp only [fnC_size, cells_size, vecC_size, tabC_size, planeC_size]) (by simp only [fnC_size, cells_size, vecC_size, tabC_size, planeC_size] <;> omega) (splice_whole _ _ (by simp only [fnC_size, cells_size, vecC_size, tabC_size, planeC_size]))) ?_
      intro _ w' a hM hF
      change Mem w w' [some (b1, algC (p : Int) (n : Int) T f), some (b2, vecC v), some (b3, fnC 6 (fun _ => .int .u8 (0))), some (b5, vecC uu), none] [] at hM
      refine st hF (g_assign hF rfl) rfl fun a hF => ?_
      refine wpList_nil ?_
      refine tN ?_
      refine sq ?_
      refine wp_region_lit ?_
      refine st hF (g_loadAgg ty_ag_30 hF rfl (hM.row 3 rfl) (by simp only [fnC_size, cells_size, vecC_size, tabC_size, planeC_size] <;> omega) (whole (by simp only [fnC_size, cells_size, vecC_size, tabC_size, planeC_size]))) rfl fun a hF => ?_
      refine stN hF (d_storeAgg 2 hM rfl ty_sz_30 hF rfl rfl (by first | exact vecC_one | exact cells_one | (refine fnC_one fun _ _ => ?_; first | rfl | (split <;> rfl))) (by simp only [fnC_size, cells_size, vecC_size, tabC_size, planeC_size]) (by simp only [fnC_size, cells_size, vecC_size, tabC_size, planeC_size] <;> omega) (splice_whole _ _ (by simp only [fnC_size, cells_size, vecC_size, tabC_size, planeC_size]))) ?_
      intro _ w' a hM hF
      change Mem w w' [some (b1, algC (p : Int) (n : Int) T f), some (b2, vecC v), some (b3, vecC uu), some (b5, vecC uu), none] [] at hM
      refine wpList_nil ?_
      refine tN ?_
      refine wp_ret ?_
      refine tR ?_
      refine fin1 rfl hF.defers (res_agg ty_ag_30 hF rfl (hM.row 2 rfl) (by simp only [fnC_size, cells_size, vecC_size, tabC_size, planeC_size])) ⟨_, rfl, hM.below, ?_⟩
      show _ = _
      obtain rfl : x = 0 := by omega
      rfl
  ·
    refine wp_skip ?_
    refine tN ?_
    refine sq ?_
    refine wp_region_lit ?_
    refine st hF (g_loadAgg ty_ag_30 hF rfl (hM.row 1 rfl) (by simp only [fnC_size, cells_size, vecC_size, tabC_size, planeC_size] <;> omega) (whole (by simp only [fnC_size, cells_size, vecC_size, tabC_size, planeC_size]))) rfl fun a hF => ?_
    refine stR hF (d_alloc 4 hM ty_ze_30) rfl ?_
    rintro _ w' a ⟨b6, rfl, hM, -⟩ hF
    change Mem w w' [some (b1, algC (p : Int) (n : Int) T f), some (b2, vecC v), some (b3, fnC 6 (fun _ => .int .u8 (0))), none, some (b6, fnC 6 (fun _ => .int .u8 (0)))] [] at hM
    refine stN hF (d_storeAgg 4 hM rfl ty_sz_30 hF rfl rfl (by first | exact vecC_one | exact cells_one | (refine fnC_one fun _ _ => ?_; first | rfl | (split <;> rfl))) (by simp only [fnC_size, cells_size, vecC_size, tabC_size, planeC_size]) (by simp only [fnC_size, cells_size, vecC_size, tabC_size, planeC_size] <;> omega) (splice_whole _ _ (by simp only [fnC_size, cells_size, vecC_size, tabC_size, planeC_size]))) ?_
    intro _ w' a hM hF
    change Mem w w' [some (b1, algC (p : Int) (n : Int) T f), some (b2, vecC v), some (b3, fnC 6 (fun _ => .int .u8 (0))), none, some (b6, vecC v)] [] at hM
    refine wpList_nil ?_
    refine tN ?_
    refine sq ?_
    refine sq ?_
    refine wp_region_lit ?_
    refine st hF (g_move hF rfl) rfl fun a hF => st hF (g_sub hF rfl rfl (show _ = ((x - 1 : Nat) : Int) from (by rw [wrap_i64] <;> omega))) rfl fun a hF => st hF (g_move hF rfl) rfl fun a hF => ?_
    refine wpList_nil ?_
    refine tN ?_
    refine wp_block ?_
    change Mem w _ [some (b1, algC (p : Int) (n : Int) T f), some (b2, vecC v), some (b3, fnC 6 (fun _ => .int .u8 (0))), none, some (b6, vecC v)] [] at hM
    refine c_loop (fun (kk : Nat) a w' => kk ≤ (x - 1) ∧ (True) ∧ Fr 29 a [(0, .agg (algC (p : Int) (n : Int) T f)), (1, .agg (vecC v)), (2, .int .i64 (((x : Nat) : Int))), (3, ptr b1 (0)), (4, ptr b2 (0)), (6, ptr b3 (0)), (10, .int .i64 (((x : Nat) : Int))), (11, .bool (decide ((((x : Nat) : Int) : Int) = 0))), (18, .agg (vecC v)), (9, ptr b6 (0)), (19, .int .i64 (((x : Nat) : Int))), (20, .int .i64 (((x - 1 : Nat) : Int))), (21, .int .i64 (((kk : Nat) : Int)))] ∧ Mem w w' [some (b1, algC (p : Int) (n : Int) T f), some (b2, vecC v), some (b3, fnC 6 (fun _ => .int .u8 (0))), none, some (b6, vecC (powW (timesV p n T) uu v (kk + 1)))] []) (fun kk => (x - 1) - kk) 0 ?_ ?_
    ·
      refine ⟨by omega, trivial, hF.sub _ (by repeat' constructor), ?_⟩
      exact hM.rowc 4 rfl (fnC_congr fun c hc => congrArg (Value.int .u8) (congrArg Nat.cast (h1 c hc).symm))
    ·
      clear hF hM
      rintro gi a w' ⟨hgi, hinv1, hF, hM⟩
      have hvt := hvp (gi + 1)
      refine sq ?_
      refine wp_region_lit ?_
      refine st hF (g_lss hF rfl rfl) rfl fun a hF => ?_
      refine wpList_nil ?_
      refine tN ?_
      refine sq ?_
      refine c_cond hF rfl (fun h7 => ?_) (fun h7 => ?_)
      ·
        refine wp_skip ?_
        refine tN ?_
        refine sq ?_
        refine wp_block ?_
        refine wp_region_lit ?_
        refine st hF (g_loadAgg ty_ag_32 hF rfl (hM.row 0 rfl) (by simp only [fnC_size, cells_size, vecC_size, tabC_size, planeC_size] <;> omega) (whole cells_size)) rfl fun a hF => st hF (g_loadAgg ty_ag_30 hF rfl (hM.row 4 rfl) (by simp only [fnC_size, cells_size, vecC_size, tabC_size, planeC_size] <;> omega) (whole (by simp only [fnC_size, cells_size, vecC_size, tabC_size, planeC_size]))) rfl fun a hF => st hF (g_loadAgg ty_ag_30 hF rfl (hM.row 1 rfl) (by simp only [fnC_size, cells_size, vecC_size, tabC_size, planeC_size] <;> omega) (whole (by simp only [fnC_size, cells_size, vecC_size, tabC_size, planeC_size]))) rfl fun a hF => ?_
        refine stR hF (d_call Tryd.call46 hF (.cons rfl (.cons rfl (.cons rfl .nil))) (product_ok p n T f ((powW (timesV p n T) uu v (gi + 1))) (v) _ (by omega) (by omega) (by omega) (fun _ _ _ => hT _ _ _) (fun _ => by first | exact hv _ | exact hvt _ | exact hvs _ | exact hu _ | exact hT _ _ _ | exact hf _ | omega | (split <;> omega) | (dsimp only; split <;> omega) | assumption) (fun _ => by first | exact hv _ | exact hvt _ | exact hvs _ | exact hu _ | exact hT _ _ _ | exact hf _ | omega | (split <;> omega) | (dsimp only; split <;> omega) | assumption))) rfl ?_
        rintro _ w' a ⟨hx, rfl⟩ hF
        have hM := hM.ext hx
        refine stN hF (d_storeAgg 4 hM rfl ty_sz_30 hF rfl rfl (by first | exact vecC_one | exact cells_one | (refine fnC_one fun _ _ => ?_; first | rfl | (split <;> rfl))) (by simp only [fnC_size, cells_size, vecC_size, tabC_size, planeC_size]) (by simp only [fnC_size, cells_size, vecC_size, tabC_size, planeC_size] <;> omega) (splice_whole _ _ (by simp only [fnC_size, cells_size, vecC_size, tabC_size, planeC_size]))) ?_
        intro _ w' a hM hF
        change Mem w w' [some (b1, algC (p : Int) (n : Int) T f), some (b2, vecC v), some (b3, fnC 6 (fun _ => .int .u8 (0))), none, some (b6, vecC (timesV p n T ((powW (timesV p n T) uu v (gi + 1))) (v)))] [] at hM
        refine wpList_nil ?_
        refine iN ?_
        refine tN ?_
        refine wp_region_lit ?_
        refine st hF (g_add hF rfl rfl (add_nat (gi) (1) (by omega))) rfl fun a hF => st hF (g_move hF rfl) rfl fun a hF => ?_
        refine wpList_nil ?_
        refine tN ?_
        refine ⟨gi + 1, ⟨by omega, trivial, hF.sub _ (by repeat' constructor), ?_⟩, by omega⟩
        exact hM
      ·
        obtain rfl : (x - 1) = gi := by omega
        refine wp_exit ?_
        refine tX ?_
        refine tX ?_
        refine ib_same ?_
        refine tN ?_
        refine sq ?_
        refine wp_region_lit ?_
        refine st hF (g_loadAgg ty_ag_30 hF rfl (hM.row 4 rfl) (by simp only [fnC_size, cells_size, vecC_size, tabC_size, planeC_size] <;> omega) (whole (by simp only [fnC_size, cells_size, vecC_size, tabC_size, planeC_size]))) rfl fun a hF => ?_
        refine stN hF (d_storeAgg 2 hM rfl ty_sz_30 hF rfl rfl (by first | exact vecC_one | exact cells_one | (refine fnC_one fun _ _ => ?_; first | rfl | (split <;> rfl))) (by simp only [fnC_size, cells_size, vecC_size, tabC_size, planeC_size]) (by simp only [fnC_size, cells_size, vecC_size, tabC_size, planeC_size] <;> omega) (splice_whole _ _ (by simp only [fnC_size, cells_size, vecC_size, tabC_size, planeC_size]))) ?_
        intro _ w' a hM hF
        change Mem w w' [some (b1, algC (p : Int) (n : Int) T f), some (b2, vecC v), some (b3, vecC (powW (timesV p n T) uu v (((x - 1)) + 1))), none, some (b6, vecC (powW (timesV p n T) uu v (((x - 1)) + 1)))] [] at hM
        refine wpList_nil ?_
        refine tN ?_
        refine wp_ret ?_
        refine fin1 rfl hF.defers (res_agg ty_ag_30 hF rfl (hM.row 2 rfl) (by simp only [fnC_size, cells_size, vecC_size, tabC_size, planeC_size])) ⟨_, rfl, hM.below, ?_⟩
        show _ = _
        rw [show x - 1 + 1 = x by omega]







end Go.Proofs.YtfencffdhenjdaaDoor
