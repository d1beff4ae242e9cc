/- What functions of the program return, as walks over their operations; no statement of the seat is proved here. -/
import Derived.Test.YthliekalhgafcaaT7
set_option linter.unusedVariables false
set_option linter.unusedSimpArgs false
namespace Go.Proofs.Ythliekalhgafcaa
open Go Go.RowKit Go.Sw Go.Ech
open Classical
theorem ty_bs_74 : ∀ (p : Int) (b : Option Addr) (l c : Nat) w, (Instr.build 74 #[(0, .int .i64 p), (1, .slice b l c)]).run Try.prog w = .ok (.agg (smC p (.slice b l c))) w := by intros; kernel_rfl
theorem ty_ze_74 : zeroP Try.prog 74 = some (.agg (smC 0 (.slice none 0 0))) := by kernel_rfl
theorem ty_sz_74 : sizeP Try.prog 74 = some 2 := by kernel_rfl
theorem ty_ag_74 : aggP Try.prog 74 = some 2 := by kernel_rfl
theorem TenP.nat {p n i o : Int} {m : Nat} {g : Nat → Int} (h : TenP p n i o m g) : ∃ (p' n' i' o' : Nat) (f : Nat → Nat), p = p' ∧ n = n' ∧ i = i' ∧ o = o' ∧ primeP (p' : Int) ∧ 0 < n' ∧ n' ≤ 6 ∧ wl n' i' o' ∧ m = n' ^ (i' + o') ∧ (∀ c, f c < p') ∧ ∀ c, c < m → g c = ((f c : Nat) : Int) := by
  obtain ⟨⟨hp, ⟨h1, h2⟩, ⟨h3, h4⟩, h5, h6⟩, h7, h8, h9⟩ := h
  have hp0 := primeP_pos hp
  have ep : ((p.toNat : Nat) : Int) = p := by omega
  refine ⟨p.toNat, n.toNat, i.toNat, o.toNat, fun c => if c < m then (g c).toNat else 0, by omega, by omega, by omega, by omega, by rw [ep]; exact hp, by omega, by omega, ⟨by omega, by omega, h7⟩, h8, fun c => ?_, fun c hc => ?_⟩
  · dsimp only; split
    · rename_i hc; have := h9 c hc; omega
    · omega
  · dsimp only; rw [if_pos hc]; have := h9 c hc; omega
theorem TenP.of_nat {p n i o m : Nat} {f : Nat → Nat} (hpP : primeP (p : Int)) (hn0 : 0 < n) (hn : n ≤ 6) (hw : wl n i o) (hm : m = n ^ (i + o)) (hf : ∀ c, f c < p) : TenP (p : Int) (n : Int) (i : Int) (o : Int) m (fun c => ((f c : Nat) : Int)) :=
  ⟨⟨hpP, ⟨by omega, by omega⟩, ⟨by omega, by have := hw.1; omega⟩, ⟨by omega, by have := hw.2.1; omega⟩⟩, by simp only [Int.toNat_natCast]; exact hw.2.2, by simp only [Int.toNat_natCast]; exact hm, fun c _ => ⟨by show (0 : Int) ≤ ((f c : Nat) : Int); omega, by have := hf c; show ((f c : Nat) : Int) < (p : Int); omega⟩⟩

theorem pairFault_A (p n i o p2 n2 i2 o2 : Int) (b bz m m2 : Nat) (g g2 : Nat → Int) (fit : Bool) (w : World) (hb : Blk w b (numI m g)) (hbz : Blk w bz (numI m2 g2)) (hm : m < 10000000) (hm2 : m2 < 10000000) (hA : ¬ (TenP p n i o m g ∧ TenP p2 n2 i2 o2 m2 g2)) :
    CallsR Try.prog 64 #[.agg (tenC p n i o (.slice (some ⟨b, 0, none⟩) m m)), .agg (tenC p2 n2 i2 o2 (.slice (some ⟨bz, 0, none⟩) m2 m2)), .bool (fit)] w (fun res _ => res = .int .i64 1) := by
  refine calls_fr [.agg (tenC p n i o (.slice (some ⟨b, 0, none⟩) m m)), .agg (tenC p2 n2 i2 o2 (.slice (some ⟨bz, 0, none⟩) m2 m2)), .bool (fit)] Try.func64 rfl Try.ntmps64 rfl fun a hF => ?_
  have hM : Mem w w [none, none] [(b, numI m g), (bz, numI m2 g2)] := MemX.startD w 2 _ (startD2 hb hbz)
  change Fr 31 a [(0, .agg (tenC p n i o (.slice (some ⟨b, 0, none⟩) m m))), (1, .agg (tenC p2 n2 i2 o2 (.slice (some ⟨bz, 0, none⟩) m2 m2))), (2, .bool (fit))] at hF
  refine sq ?_
  refine wp_region_lit ?_
  refine stR hF (d_box 0 hM hF rfl) rfl ?_
  rintro _ w' a ⟨b1, rfl, hM, -⟩ hF
  change Mem w w' [some (b1, tenC p n i o (.slice (some ⟨b, 0, none⟩) m m)), none] [(b, numI m g), (bz, numI m2 g2)] at hM
  refine stR hF (d_box 1 hM hF rfl) rfl ?_
  rintro _ w' a ⟨b2, rfl, hM, -⟩ hF
  change Mem w w' [some (b1, tenC p n i o (.slice (some ⟨b, 0, none⟩) m m)), some (b2, tenC p2 n2 i2 o2 (.slice (some ⟨bz, 0, none⟩) m2 m2))] [(b, numI m g), (bz, numI m2 g2)] at hM
  refine st hF (g_assign hF rfl) rfl fun a hF => ?_
  refine wpList_nil ?_
  refine tN ?_
  refine sq ?_
  refine sq ?_
  refine wp_region_lit ?_
  refine st hF (g_loadAgg ty_ag_27 hF rfl (hM.row 0 rfl) (by simp only [fnC_size, cells_size, vecC_size, tabC_size, planeC_size, tenC_size, smC_size, numC_size, numI_size] <;> omega) (whole rfl)) rfl fun a hF => ?_
  refine stR hF (d_call Try.call16 hF (.cons rfl .nil) (IsTensor_ok p n i o b m g _ (hM.fz 0 rfl) (by omega))) rfl ?_
  rintro _ w' a ⟨hx, rfl⟩ hF
  have hM := hM.ext hx
  refine st hF (g_notP hF rfl) rfl fun a hF => st hF (g_move hF rfl) rfl fun a hF => ?_
  by_cases g3 : ¬ (TenP p n i o m g)
  ·
    first | rw [decide_eq_true g3] at hF | simp only [decide_eq_true g3] at hF
    refine stS hF rfl rfl rfl rfl rfl fun a hF => stS hF rfl rfl rfl rfl rfl fun a hF => stS hF rfl rfl rfl rfl rfl fun a hF => st hF (g_pickT hF rfl rfl) rfl fun a hF => ?_
    refine wpList_nil ?_
    refine tN ?_
    refine c_T hF rfl ?_
    refine sq ?_
    refine wp_region_lit ?_
    refine st hF (g_assign hF rfl) rfl fun a hF => ?_
    refine wpList_nil ?_
    refine tN ?_
    refine wp_ret ?_
    refine tR ?_
    refine fin1 rfl hF.defers (res_tmp hF rfl) ⟨_, rfl, hM.below, ?_⟩
    show _ = _
    rfl
  ·
    first | rw [decide_eq_false g3] at hF | simp only [decide_eq_false g3] at hF
    refine stY hF rfl rfl rfl (g_loadAgg ty_ag_27 hF rfl (hM.row 1 rfl) (by simp only [fnC_size, cells_size, vecC_size, tabC_size, planeC_size, tenC_size, smC_size, numC_size, numI_size] <;> omega) (whole rfl)) rfl fun a hF => ?_
    refine stYR hF rfl rfl rfl (d_call Try.call16 hF (.cons rfl .nil) (IsTensor_ok p2 n2 i2 o2 bz m2 g2 _ (hM.fz 1 rfl) (by omega))) rfl ?_
    rintro _ w' a ⟨hx, rfl⟩ hF
    have hM := hM.ext hx
    refine stY hF rfl rfl rfl (g_notP hF rfl) rfl fun a hF => st hF (g_pickF hF rfl rfl) rfl fun a hF => ?_
    refine wpList_nil ?_
    refine tN ?_
    refine c_cond hF rfl (fun h5 => ?_) (fun h5 => ?_)
    ·
      refine sq ?_
      refine wp_region_lit ?_
      refine st hF (g_assign hF rfl) rfl fun a hF => ?_
      refine wpList_nil ?_
      refine tN ?_
      refine wp_ret ?_
      refine tR ?_
      refine fin1 rfl hF.defers (res_tmp hF rfl) ⟨_, rfl, hM.below, ?_⟩
      show _ = _
      rfl
    ·
      exact absurd ⟨Decidable.not_not.1 (by assumption), Decidable.not_not.1 (by assumption)⟩ hA

theorem pairFault_R (p n i o p2 n2 i2 o2 : Int) (b bz m m2 : Nat) (g g2 : Nat → Int) (fit : Bool) (w : World) (hb : Blk w b (numI m g)) (hbz : Blk w bz (numI m2 g2)) (hm : m < 10000000) (hm2 : m2 < 10000000) (h1 : TenP p n i o m g) (h2 : TenP p2 n2 i2 o2 m2 g2) (hR : ¬ (p = p2 ∧ n = n2 ∧ fit = true)) :
    CallsR Try.prog 64 #[.agg (tenC p n i o (.slice (some ⟨b, 0, none⟩) m m)), .agg (tenC p2 n2 i2 o2 (.slice (some ⟨bz, 0, none⟩) m2 m2)), .bool (fit)] w (fun res _ => res = .int .i64 2) := by
  refine calls_fr [.agg (tenC p n i o (.slice (some ⟨b, 0, none⟩) m m)), .agg (tenC p2 n2 i2 o2 (.slice (some ⟨bz, 0, none⟩) m2 m2)), .bool (fit)] Try.func64 rfl Try.ntmps64 rfl fun a hF => ?_
  have hM : Mem w w [none, none] [(b, numI m g), (bz, numI m2 g2)] := MemX.startD w 2 _ (startD2 hb hbz)
  change Fr 31 a [(0, .agg (tenC p n i o (.slice (some ⟨b, 0, none⟩) m m))), (1, .agg (tenC p2 n2 i2 o2 (.slice (some ⟨bz, 0, none⟩) m2 m2))), (2, .bool (fit))] at hF
  refine sq ?_
  refine wp_region_lit ?_
  refine stR hF (d_box 0 hM hF rfl) rfl ?_
  rintro _ w' a ⟨b1, rfl, hM, -⟩ hF
  change Mem w w' [some (b1, tenC p n i o (.slice (some ⟨b, 0, none⟩) m m)), none] [(b, numI m g), (bz, numI m2 g2)] at hM
  refine stR hF (d_box 1 hM hF rfl) rfl ?_
  rintro _ w' a ⟨b2, rfl, hM, -⟩ hF
  change Mem w w' [some (b1, tenC p n i o (.slice (some ⟨b, 0, none⟩) m m)), some (b2, tenC p2 n2 i2 o2 (.slice (some ⟨bz, 0, none⟩) m2 m2))] [(b, numI m g), (bz, numI m2 g2)] at hM
  refine st hF (g_assign hF rfl) rfl fun a hF => ?_
  refine wpList_nil ?_
  refine tN ?_
  refine sq ?_
  refine sq ?_
  refine wp_region_lit ?_
  refine st hF (g_loadAgg ty_ag_27 hF rfl (hM.row 0 rfl) (by simp only [fnC_size, cells_size, vecC_size, tabC_size, planeC_size, tenC_size, smC_size, numC_size, numI_size] <;> omega) (whole rfl)) rfl fun a hF => ?_
  refine stR hF (d_call Try.call16 hF (.cons rfl .nil) ((CallsR.val (IsTensor_ok p n i o b m g _ (hM.fz 0 rfl) (by omega)) (congrArg Value.bool (decide_eq_true h1))))) rfl ?_
  rintro _ w' a ⟨hx, rfl⟩ hF
  have hM := hM.ext hx
  refine st hF (g_not hF rfl) rfl fun a hF => st hF (g_move hF rfl) rfl fun a hF => stY hF rfl rfl rfl (g_loadAgg ty_ag_27 hF rfl (hM.row 1 rfl) (by simp only [fnC_size, cells_size, vecC_size, tabC_size, planeC_size, tenC_size, smC_size, numC_size, numI_size] <;> omega) (whole rfl)) rfl fun a hF => ?_
  refine stYR hF rfl rfl rfl (d_call Try.call16 hF (.cons rfl .nil) ((CallsR.val (IsTensor_ok p2 n2 i2 o2 bz m2 g2 _ (hM.fz 1 rfl) (by omega)) (congrArg Value.bool (decide_eq_true h2))))) rfl ?_
  rintro _ w' a ⟨hx, rfl⟩ hF
  have hM := hM.ext hx
  refine stY hF rfl rfl rfl (g_not hF rfl) rfl fun a hF => st hF (g_pickF hF rfl rfl) rfl fun a hF => ?_
  refine wpList_nil ?_
  refine tN ?_
  refine c_Fl hF rfl ?_
  refine wp_skip ?_
  refine tN ?_
  refine sq ?_
  refine sq ?_
  refine wp_region_lit ?_
  refine st hF (g_fieldAddr ty_fo_27_0 hF rfl) rfl fun a hF => st hF (g_load ty_on_2 hF rfl (hM.row 0 rfl) (tenC_0 (by omega))) rfl fun a hF => st hF (g_fieldAddr ty_fo_27_0 hF rfl) rfl fun a hF => st hF (g_load ty_on_2 hF rfl (hM.row 1 rfl) (tenC_0 (by omega))) rfl fun a hF => st hF (g_neq hF rfl rfl) rfl fun a hF => st hF (g_move hF rfl) rfl fun a hF => ?_
  by_cases g4 : (p : Int) ≠ p2
  ·
    first | rw [decide_eq_true g4] at hF | simp only [decide_eq_true g4] at hF
    refine stS hF rfl rfl rfl rfl rfl fun a hF => stS hF rfl rfl rfl rfl rfl fun a hF => stS hF rfl rfl rfl rfl rfl fun a hF => stS hF rfl rfl rfl rfl rfl fun a hF => stS hF rfl rfl rfl rfl rfl fun a hF => st hF (g_pickT hF rfl rfl) rfl fun a hF => st hF (g_move hF rfl) rfl fun a hF => stS hF rfl rfl rfl rfl rfl fun a hF => stS hF rfl rfl rfl rfl rfl fun a hF => st hF (g_pickT hF rfl rfl) rfl fun a hF => ?_
    refine wpList_nil ?_
    refine tN ?_
    refine c_T hF rfl ?_
    refine sq ?_
    refine wp_region_lit ?_
    refine st hF (g_assign hF rfl) rfl fun a hF => ?_
    refine wpList_nil ?_
    refine tN ?_
    refine wp_ret ?_
    refine tR ?_
    refine fin1 rfl hF.defers (res_tmp hF rfl) ⟨_, rfl, hM.below, ?_⟩
    show _ = _
    rfl
  ·
    first | rw [decide_eq_false g4] at hF | simp only [decide_eq_false g4] at hF
    refine stY hF rfl rfl rfl (g_fieldAddr ty_fo_27_1 hF rfl) rfl fun a hF => stY hF rfl rfl rfl (g_load ty_on_2 hF rfl (hM.row 0 rfl) (tenC_1 (by omega))) rfl fun a hF => stY hF rfl rfl rfl (g_fieldAddr ty_fo_27_1 hF rfl) rfl fun a hF => stY hF rfl rfl rfl (g_load ty_on_2 hF rfl (hM.row 1 rfl) (tenC_1 (by omega))) rfl fun a hF => stY hF rfl rfl rfl (g_neq hF rfl rfl) rfl fun a hF => st hF (g_pickF hF rfl rfl) rfl fun a hF => st hF (g_move hF rfl) rfl fun a hF => ?_
    by_cases g6 : (n : Int) ≠ n2
    ·
      first | rw [decide_eq_true g6] at hF | simp only [decide_eq_true g6] at hF
      refine stS hF rfl rfl rfl rfl rfl fun a hF => stS hF rfl rfl rfl rfl rfl fun a hF => st hF (g_pickT hF rfl rfl) rfl fun a hF => ?_
      refine wpList_nil ?_
      refine tN ?_
      refine c_T hF rfl ?_
      refine sq ?_
      refine wp_region_lit ?_
      refine st hF (g_assign hF rfl) rfl fun a hF => ?_
      refine wpList_nil ?_
      refine tN ?_
      refine wp_ret ?_
      refine tR ?_
      refine fin1 rfl hF.defers (res_tmp hF rfl) ⟨_, rfl, hM.below, ?_⟩
      show _ = _
      rfl
    ·
      first | rw [decide_eq_false g6] at hF | simp only [decide_eq_false g6] at hF
      refine stY hF rfl rfl rfl (g_move hF rfl) rfl fun a hF => stY hF rfl rfl rfl (g_not hF rfl) rfl fun a hF => st hF (g_pickF hF rfl rfl) rfl fun a hF => ?_
      refine wpList_nil ?_
      refine tN ?_
      refine c_condB hF rfl (fun h8 => ?_) (fun h8 => ?_)
      ·
        refine sq ?_
        refine wp_region_lit ?_
        refine st hF (g_assign hF rfl) rfl fun a hF => ?_
        refine wpList_nil ?_
        refine tN ?_
        refine wp_ret ?_
        refine tR ?_
        refine fin1 rfl hF.defers (res_tmp hF rfl) ⟨_, rfl, hM.below, ?_⟩
        show _ = _
        rfl
      ·
        exact absurd ⟨by omega, by omega, by simpa using h8⟩ hR

theorem pairFault_ok (p n i o i2 o2 : Int) (b bz m m2 : Nat) (g g2 : Nat → Int) (fit : Bool) (w : World) (hb : Blk w b (numI m g)) (hbz : Blk w bz (numI m2 g2)) (hm : m < 10000000) (hm2 : m2 < 10000000) (h1 : TenP p n i o m g) (h2 : TenP p n i2 o2 m2 g2) (hfit : fit = true) :
    CallsR Try.prog 64 #[.agg (tenC p n i o (.slice (some ⟨b, 0, none⟩) m m)), .agg (tenC p n i2 o2 (.slice (some ⟨bz, 0, none⟩) m2 m2)), .bool (fit)] w (fun res _ => res = .int .i64 0) := by
  refine calls_fr [.agg (tenC p n i o (.slice (some ⟨b, 0, none⟩) m m)), .agg (tenC p n i2 o2 (.slice (some ⟨bz, 0, none⟩) m2 m2)), .bool (fit)] Try.func64 rfl Try.ntmps64 rfl fun a hF => ?_
  have hM : Mem w w [none, none] [(b, numI m g), (bz, numI m2 g2)] := MemX.startD w 2 _ (startD2 hb hbz)
  change Fr 31 a [(0, .agg (tenC p n i o (.slice (some ⟨b, 0, none⟩) m m))), (1, .agg (tenC p n i2 o2 (.slice (some ⟨bz, 0, none⟩) m2 m2))), (2, .bool (fit))] at hF
  refine sq ?_
  refine wp_region_lit ?_
  refine stR hF (d_box 0 hM hF rfl) rfl ?_
  rintro _ w' a ⟨b1, rfl, hM, -⟩ hF
  change Mem w w' [some (b1, tenC p n i o (.slice (some ⟨b, 0, none⟩) m m)), none] [(b, numI m g), (bz, numI m2 g2)] at hM
  refine stR hF (d_box 1 hM hF rfl) rfl ?_
  rintro _ w' a ⟨b2, rfl, hM, -⟩ hF
  change Mem w w' [some (b1, tenC p n i o (.slice (some ⟨b, 0, none⟩) m m)), some (b2, tenC p n i2 o2 (.slice (some ⟨bz, 0, none⟩) m2 m2))] [(b, numI m g), (bz, numI m2 g2)] at hM
  refine st hF (g_assign hF rfl) rfl fun a hF => ?_
  refine wpList_nil ?_
  refine tN ?_
  refine sq ?_
  refine sq ?_
  refine wp_region_lit ?_
  refine st hF (g_loadAgg ty_ag_27 hF rfl (hM.row 0 rfl) (by simp only [fnC_size, cells_size, vecC_size, tabC_size, planeC_size, tenC_size, smC_size, numC_size, numI_size] <;> omega) (whole rfl)) rfl fun a hF => ?_
  refine stR hF (d_call Try.call16 hF (.cons rfl .nil) ((CallsR.val (IsTensor_ok p n i o b m g _ (hM.fz 0 rfl) (by omega)) (congrArg Value.bool (decide_eq_true h1))))) rfl ?_
  rintro _ w' a ⟨hx, rfl⟩ hF
  have hM := hM.ext hx
  refine st hF (g_not hF rfl) rfl fun a hF => st hF (g_move hF rfl) rfl fun a hF => stY hF rfl rfl rfl (g_loadAgg ty_ag_27 hF rfl (hM.row 1 rfl) (by simp only [fnC_size, cells_size, vecC_size, tabC_size, planeC_size, tenC_size, smC_size, numC_size, numI_size] <;> omega) (whole rfl)) rfl fun a hF => ?_
  refine stYR hF rfl rfl rfl (d_call Try.call16 hF (.cons rfl .nil) ((CallsR.val (IsTensor_ok p n i2 o2 bz m2 g2 _ (hM.fz 1 rfl) (by omega)) (congrArg Value.bool (decide_eq_true h2))))) rfl ?_
  rintro _ w' a ⟨hx, rfl⟩ hF
  have hM := hM.ext hx
  refine stY hF rfl rfl rfl (g_not hF rfl) rfl fun a hF => st hF (g_pickF hF rfl rfl) rfl fun a hF => ?_
  refine wpList_nil ?_
  refine tN ?_
  refine c_Fl hF rfl ?_
  refine wp_skip ?_
  refine tN ?_
  refine sq ?_
  refine sq ?_
  refine wp_region_lit ?_
  refine st hF (g_fieldAddr ty_fo_27_0 hF rfl) rfl fun a hF => st hF (g_load ty_on_2 hF rfl (hM.row 0 rfl) (tenC_0 (by omega))) rfl fun a hF => st hF (g_fieldAddr ty_fo_27_0 hF rfl) rfl fun a hF => st hF (g_load ty_on_2 hF rfl (hM.row 1 rfl) (tenC_0 (by omega))) rfl fun a hF => st hF (g_neq hF rfl rfl) rfl fun a hF => st hF (g_move hF rfl) rfl fun a hF => ?_
  by_cases g4 : (p : Int) ≠ p
  ·
    first | rw [decide_eq_true g4] at hF | simp only [decide_eq_true g4] at hF
    first | exact absurd rfl g4 | (exfalso; omega)
  ·
    first | rw [decide_eq_false g4] at hF | simp only [decide_eq_false g4] at hF
    refine stY hF rfl rfl rfl (g_fieldAddr ty_fo_27_1 hF rfl) rfl fun a hF => stY hF rfl rfl rfl (g_load ty_on_2 hF rfl (hM.row 0 rfl) (tenC_1 (by omega))) rfl fun a hF => stY hF rfl rfl rfl (g_fieldAddr ty_fo_27_1 hF rfl) rfl fun a hF => stY hF rfl rfl rfl (g_load ty_on_2 hF rfl (hM.row 1 rfl) (tenC_1 (by omega))) rfl fun a hF => stY hF rfl rfl rfl (g_neq hF rfl rfl) rfl fun a hF => st hF (g_pickF hF rfl rfl) rfl fun a hF => st hF (g_move hF rfl) rfl fun a hF => ?_
    by_cases g5 : (n : Int) ≠ n
    ·
      first | rw [decide_eq_true g5] at hF | simp only [decide_eq_true g5] at hF
      first | exact absurd rfl g5 | (exfalso; omega)
    ·
      first | rw [decide_eq_false g5] at hF | simp only [decide_eq_false g5] at hF
      refine stY hF rfl rfl rfl (g_move hF rfl) rfl fun a hF => stY hF rfl rfl rfl (g_not hF rfl) rfl fun a hF => st hF (g_pickF hF rfl rfl) rfl fun a hF => ?_
      refine wpList_nil ?_
      refine tN ?_
      refine c_condB hF rfl (fun h6 => ?_) (fun h6 => ?_)
      ·
        first | exact absurd rfl h6 | (exfalso; simp_all; done) | (exfalso; omega)
      ·
        refine wp_skip ?_
        refine tN ?_
        refine sq ?_
        refine wp_region_lit ?_
        refine st hF (g_assign hF rfl) rfl fun a hF => ?_
        refine wpList_nil ?_
        refine tN ?_
        refine wp_ret ?_
        refine fin1 rfl hF.defers (res_tmp hF rfl) ⟨_, rfl, hM.below, ?_⟩
        show _ = _
        rfl

theorem l03Two_A (p n i o p2 n2 i2 o2 : Int) (b bz m m2 : Nat) (g g2 : Nat → Int) (w : World) (hb : Blk w b (numI m g)) (hbz : Blk w bz (numI m2 g2)) (hm : m < 10000000) (hm2 : m2 < 10000000) (hA : ¬ (TenP p n i o m g ∧ TenP p2 n2 i2 o2 m2 g2)) :
    CallsR Try.prog 62 #[.agg (tenC p n i o (.slice (some ⟨b, 0, none⟩) m m)), .agg (tenC p2 n2 i2 o2 (.slice (some ⟨bz, 0, none⟩) m2 m2))] w (fun res _ => res = .int .i64 1) := by
  refine calls_fr [.agg (tenC p n i o (.slice (some ⟨b, 0, none⟩) m m)), .agg (tenC p2 n2 i2 o2 (.slice (some ⟨bz, 0, none⟩) m2 m2))] Try.func62 rfl Try.ntmps62 rfl fun a hF => ?_
  have hM : Mem w w [none, none] [(b, numI m g), (bz, numI m2 g2)] := MemX.startD w 2 _ (startD2 hb hbz)
  change Fr 27 a [(0, .agg (tenC p n i o (.slice (some ⟨b, 0, none⟩) m m))), (1, .agg (tenC p2 n2 i2 o2 (.slice (some ⟨bz, 0, none⟩) m2 m2)))] at hF
  refine sq ?_
  refine wp_region_lit ?_
  refine stR hF (d_box 0 hM hF rfl) rfl ?_
  rintro _ w' a ⟨b1, rfl, hM, -⟩ hF
  change Mem w w' [some (b1, tenC p n i o (.slice (some ⟨b, 0, none⟩) m m)), none] [(b, numI m g), (bz, numI m2 g2)] at hM
  refine stR hF (d_box 1 hM hF rfl) rfl ?_
  rintro _ w' a ⟨b2, rfl, hM, -⟩ hF
  change Mem w w' [some (b1, tenC p n i o (.slice (some ⟨b, 0, none⟩) m m)), some (b2, tenC p2 n2 i2 o2 (.slice (some ⟨bz, 0, none⟩) m2 m2))] [(b, numI m g), (bz, numI m2 g2)] at hM
  refine st hF (g_assign hF rfl) rfl fun a hF => ?_
  refine wpList_nil ?_
  refine tN ?_
  refine sq ?_
  refine wp_block ?_
  refine sq ?_
  refine wp_region_lit ?_
  refine st hF (g_loadAgg ty_ag_27 hF rfl (hM.row 0 rfl) (by simp only [fnC_size, cells_size, vecC_size, tabC_size, planeC_size, tenC_size, smC_size, numC_size, numI_size] <;> omega) (whole rfl)) rfl fun a hF => ?_
  refine stR hF (d_call Try.call40 hF (.cons rfl .nil) (l03Is_ok p n i o b m g _ (hM.fz 0 rfl) (by omega))) rfl ?_
  rintro _ w' a ⟨hx, rfl⟩ hF
  have hM := hM.ext hx
  refine st hF (g_notP hF rfl) rfl fun a hF => st hF (g_move hF rfl) rfl fun a hF => ?_
  by_cases g3 : ¬ (TenP p n i o m g)
  ·
    first | rw [decide_eq_true g3] at hF | simp only [decide_eq_true g3] at hF
    refine stS hF rfl rfl rfl rfl rfl fun a hF => stS hF rfl rfl rfl rfl rfl fun a hF => stS hF rfl rfl rfl rfl rfl fun a hF => st hF (g_pickT hF rfl rfl) rfl fun a hF => st hF (g_assign hF rfl) rfl fun a hF => ?_
    refine wpList_nil ?_
    refine tN ?_
    refine c_T hF rfl ?_
    refine sq ?_
    refine wp_region_lit ?_
    refine st hF (g_assign hF rfl) rfl fun a hF => ?_
    refine wpList_nil ?_
    refine tN ?_
    refine wp_ret ?_
    refine iR ?_
    refine tR ?_
    refine fin1 rfl hF.defers (res_tmp hF rfl) ⟨_, rfl, hM.below, ?_⟩
    show _ = _
    rfl
  ·
    first | rw [decide_eq_false g3] at hF | simp only [decide_eq_false g3] at hF
    refine stY hF rfl rfl rfl (g_loadAgg ty_ag_27 hF rfl (hM.row 1 rfl) (by simp only [fnC_size, cells_size, vecC_size, tabC_size, planeC_size, tenC_size, smC_size, numC_size, numI_size] <;> omega) (whole rfl)) rfl fun a hF => ?_
    refine stYR hF rfl rfl rfl (d_call Try.call40 hF (.cons rfl .nil) (l03Is_ok p2 n2 i2 o2 bz m2 g2 _ (hM.fz 1 rfl) (by omega))) rfl ?_
    rintro _ w' a ⟨hx, rfl⟩ hF
    have hM := hM.ext hx
    refine stY hF rfl rfl rfl (g_notP hF rfl) rfl fun a hF => st hF (g_pickF hF rfl rfl) rfl fun a hF => st hF (g_assign hF rfl) rfl fun a hF => ?_
    refine wpList_nil ?_
    refine tN ?_
    refine c_cond hF rfl (fun h5 => ?_) (fun h5 => ?_)
    ·
      refine sq ?_
      refine wp_region_lit ?_
      refine st hF (g_assign hF rfl) rfl fun a hF => ?_
      refine wpList_nil ?_
      refine tN ?_
      refine wp_ret ?_
      refine iR ?_
      refine tR ?_
      refine fin1 rfl hF.defers (res_tmp hF rfl) ⟨_, rfl, hM.below, ?_⟩
      show _ = _
      rfl
    ·
      exact absurd ⟨Decidable.not_not.1 (by assumption), Decidable.not_not.1 (by assumption)⟩ hA

theorem l03Two_R (p n i o p2 n2 i2 o2 : Int) (b bz m m2 : Nat) (g g2 : Nat → Int) (w : World) (hb : Blk w b (numI m g)) (hbz : Blk w bz (numI m2 g2)) (hm : m < 10000000) (hm2 : m2 < 10000000) (h1 : TenP p n i o m g) (h2 : TenP p2 n2 i2 o2 m2 g2) (hR : ¬ (p = p2 ∧ n = n2)) :
    CallsR Try.prog 62 #[.agg (tenC p n i o (.slice (some ⟨b, 0, none⟩) m m)), .agg (tenC p2 n2 i2 o2 (.slice (some ⟨bz, 0, none⟩) m2 m2))] w (fun res _ => res = .int .i64 2) := by
  refine calls_fr [.agg (tenC p n i o (.slice (some ⟨b, 0, none⟩) m m)), .agg (tenC p2 n2 i2 o2 (.slice (some ⟨bz, 0, none⟩) m2 m2))] Try.func62 rfl Try.ntmps62 rfl fun a hF => ?_
  have hM : Mem w w [none, none] [(b, numI m g), (bz, numI m2 g2)] := MemX.startD w 2 _ (startD2 hb hbz)
  change Fr 27 a [(0, .agg (tenC p n i o (.slice (some ⟨b, 0, none⟩) m m))), (1, .agg (tenC p2 n2 i2 o2 (.slice (some ⟨bz, 0, none⟩) m2 m2)))] at hF
  refine sq ?_
  refine wp_region_lit ?_
  refine stR hF (d_box 0 hM hF rfl) rfl ?_
  rintro _ w' a ⟨b1, rfl, hM, -⟩ hF
  change Mem w w' [some (b1, tenC p n i o (.slice (some ⟨b, 0, none⟩) m m)), none] [(b, numI m g), (bz, numI m2 g2)] at hM
  refine stR hF (d_box 1 hM hF rfl) rfl ?_
  rintro _ w' a ⟨b2, rfl, hM, -⟩ hF
  change Mem w w' [some (b1, tenC p n i o (.slice (some ⟨b, 0, none⟩) m m)), some (b2, tenC p2 n2 i2 o2 (.slice (some ⟨bz, 0, none⟩) m2 m2))] [(b, numI m g), (bz, numI m2 g2)] at hM
  refine st hF (g_assign hF rfl) rfl fun a hF => ?_
  refine wpList_nil ?_
  refine tN ?_
  refine sq ?_
  refine wp_block ?_
  refine sq ?_
  refine wp_region_lit ?_
  refine st hF (g_loadAgg ty_ag_27 hF rfl (hM.row 0 rfl) (by simp only [fnC_size, cells_size, vecC_size, tabC_size, planeC_size, tenC_size, smC_size, numC_size, numI_size] <;> omega) (whole rfl)) rfl fun a hF => ?_
  refine stR hF (d_call Try.call40 hF (.cons rfl .nil) ((CallsR.val (l03Is_ok p n i o b m g _ (hM.fz 0 rfl) (by omega)) (congrArg Value.bool (decide_eq_true h1))))) rfl ?_
  rintro _ w' a ⟨hx, rfl⟩ hF
  have hM := hM.ext hx
  refine st hF (g_not hF rfl) rfl fun a hF => st hF (g_move hF rfl) rfl fun a hF => stY hF rfl rfl rfl (g_loadAgg ty_ag_27 hF rfl (hM.row 1 rfl) (by simp only [fnC_size, cells_size, vecC_size, tabC_size, planeC_size, tenC_size, smC_size, numC_size, numI_size] <;> omega) (whole rfl)) rfl fun a hF => ?_
  refine stYR hF rfl rfl rfl (d_call Try.call40 hF (.cons rfl .nil) ((CallsR.val (l03Is_ok p2 n2 i2 o2 bz m2 g2 _ (hM.fz 1 rfl) (by omega)) (congrArg Value.bool (decide_eq_true h2))))) rfl ?_
  rintro _ w' a ⟨hx, rfl⟩ hF
  have hM := hM.ext hx
  refine stY hF rfl rfl rfl (g_not hF rfl) rfl fun a hF => st hF (g_pickF hF rfl rfl) rfl fun a hF => st hF (g_assign hF rfl) rfl fun a hF => ?_
  refine wpList_nil ?_
  refine tN ?_
  refine c_Fl hF rfl ?_
  refine sq ?_
  refine wp_region_lit ?_
  refine st hF (g_fieldAddr ty_fo_27_0 hF rfl) rfl fun a hF => st hF (g_load ty_on_2 hF rfl (hM.row 0 rfl) (tenC_0 (by omega))) rfl fun a hF => st hF (g_fieldAddr ty_fo_27_0 hF rfl) rfl fun a hF => st hF (g_load ty_on_2 hF rfl (hM.row 1 rfl) (tenC_0 (by omega))) rfl fun a hF => st hF (g_neq hF rfl rfl) rfl fun a hF => st hF (g_move hF rfl) rfl fun a hF => ?_
  by_cases g4 : (p : Int) ≠ p2
  ·
    first | rw [decide_eq_true g4] at hF | simp only [decide_eq_true g4] at hF
    refine stS hF rfl rfl rfl rfl rfl fun a hF => stS hF rfl rfl rfl rfl rfl fun a hF => stS hF rfl rfl rfl rfl rfl fun a hF => stS hF rfl rfl rfl rfl rfl fun a hF => stS hF rfl rfl rfl rfl rfl fun a hF => st hF (g_pickT hF rfl rfl) rfl fun a hF => st hF (g_assign hF rfl) rfl fun a hF => ?_
    refine wpList_nil ?_
    refine tN ?_
    refine c_T hF rfl ?_
    refine sq ?_
    refine wp_region_lit ?_
    refine st hF (g_assign hF rfl) rfl fun a hF => ?_
    refine wpList_nil ?_
    refine tN ?_
    refine wp_ret ?_
    refine iR ?_
    refine tR ?_
    refine fin1 rfl hF.defers (res_tmp hF rfl) ⟨_, rfl, hM.below, ?_⟩
    show _ = _
    rfl
  ·
    first | rw [decide_eq_false g4] at hF | simp only [decide_eq_false g4] at hF
    refine stY hF rfl rfl rfl (g_fieldAddr ty_fo_27_1 hF rfl) rfl fun a hF => stY hF rfl rfl rfl (g_load ty_on_2 hF rfl (hM.row 0 rfl) (tenC_1 (by omega))) rfl fun a hF => stY hF rfl rfl rfl (g_fieldAddr ty_fo_27_1 hF rfl) rfl fun a hF => stY hF rfl rfl rfl (g_load ty_on_2 hF rfl (hM.row 1 rfl) (tenC_1 (by omega))) rfl fun a hF => stY hF rfl rfl rfl (g_neq hF rfl rfl) rfl fun a hF => st hF (g_pickF hF rfl rfl) rfl fun a hF => st hF (g_assign hF rfl) rfl fun a hF => ?_
    refine wpList_nil ?_
    refine tN ?_
    refine c_cond hF rfl (fun h6 => ?_) (fun h6 => ?_)
    ·
      refine sq ?_
      refine wp_region_lit ?_
      refine st hF (g_assign hF rfl) rfl fun a hF => ?_
      refine wpList_nil ?_
      refine tN ?_
      refine wp_ret ?_
      refine iR ?_
      refine tR ?_
      refine fin1 rfl hF.defers (res_tmp hF rfl) ⟨_, rfl, hM.below, ?_⟩
      show _ = _
      rfl
    ·
      exfalso; omega

theorem l03Two_ok (p n i o i2 o2 : Int) (b bz m m2 : Nat) (g g2 : Nat → Int) (w : World) (hb : Blk w b (numI m g)) (hbz : Blk w bz (numI m2 g2)) (hm : m < 10000000) (hm2 : m2 < 10000000) (h1 : TenP p n i o m g) (h2 : TenP p n i2 o2 m2 g2) :
    CallsR Try.prog 62 #[.agg (tenC p n i o (.slice (some ⟨b, 0, none⟩) m m)), .agg (tenC p n i2 o2 (.slice (some ⟨bz, 0, none⟩) m2 m2))] w (fun res _ => res = .int .i64 0) := by
  refine calls_fr [.agg (tenC p n i o (.slice (some ⟨b, 0, none⟩) m m)), .agg (tenC p n i2 o2 (.slice (some ⟨bz, 0, none⟩) m2 m2))] Try.func62 rfl Try.ntmps62 rfl fun a hF => ?_
  have hM : Mem w w [none, none] [(b, numI m g), (bz, numI m2 g2)] := MemX.startD w 2 _ (startD2 hb hbz)
  change Fr 27 a [(0, .agg (tenC p n i o (.slice (some ⟨b, 0, none⟩) m m))), (1, .agg (tenC p n i2 o2 (.slice (some ⟨bz, 0, none⟩) m2 m2)))] at hF
  refine sq ?_
  refine wp_region_lit ?_
  refine stR hF (d_box 0 hM hF rfl) rfl ?_
  rintro _ w' a ⟨b1, rfl, hM, -⟩ hF
  change Mem w w' [some (b1, tenC p n i o (.slice (some ⟨b, 0, none⟩) m m)), none] [(b, numI m g), (bz, numI m2 g2)] at hM
  refine stR hF (d_box 1 hM hF rfl) rfl ?_
  rintro _ w' a ⟨b2, rfl, hM, -⟩ hF
  change Mem w w' [some (b1, tenC p n i o (.slice (some ⟨b, 0, none⟩) m m)), some (b2, tenC p n i2 o2 (.slice (some ⟨bz, 0, none⟩) m2 m2))] [(b, numI m g), (bz, numI m2 g2)] at hM
  refine st hF (g_assign hF rfl) rfl fun a hF => ?_
  refine wpList_nil ?_
  refine tN ?_
  refine sq ?_
  refine wp_block ?_
  refine sq ?_
  refine wp_region_lit ?_
  refine st hF (g_loadAgg ty_ag_27 hF rfl (hM.row 0 rfl) (by simp only [fnC_size, cells_size, vecC_size, tabC_size, planeC_size, tenC_size, smC_size, numC_size, numI_size] <;> omega) (whole rfl)) rfl fun a hF => ?_
  refine stR hF (d_call Try.call40 hF (.cons rfl .nil) ((CallsR.val (l03Is_ok p n i o b m g _ (hM.fz 0 rfl) (by omega)) (congrArg Value.bool (decide_eq_true h1))))) rfl ?_
  rintro _ w' a ⟨hx, rfl⟩ hF
  have hM := hM.ext hx
  refine st hF (g_not hF rfl) rfl fun a hF => st hF (g_move hF rfl) rfl fun a hF => stY hF rfl rfl rfl (g_loadAgg ty_ag_27 hF rfl (hM.row 1 rfl) (by simp only [fnC_size, cells_size, vecC_size, tabC_size, planeC_size, tenC_size, smC_size, numC_size, numI_size] <;> omega) (whole rfl)) rfl fun a hF => ?_
  refine stYR hF rfl rfl rfl (d_call Try.call40 hF (.cons rfl .nil) ((CallsR.val (l03Is_ok p n i2 o2 bz m2 g2 _ (hM.fz 1 rfl) (by omega)) (congrArg Value.bool (decide_eq_true h2))))) rfl ?_
  rintro _ w' a ⟨hx, rfl⟩ hF
  have hM := hM.ext hx
  refine stY hF rfl rfl rfl (g_not hF rfl) rfl fun a hF => st hF (g_pickF hF rfl rfl) rfl fun a hF => st hF (g_assign hF rfl) rfl fun a hF => ?_
  refine wpList_nil ?_
  refine tN ?_
  refine c_Fl hF rfl ?_
  refine sq ?_
  refine wp_region_lit ?_
  refine st hF (g_fieldAddr ty_fo_27_0 hF rfl) rfl fun a hF => st hF (g_load ty_on_2 hF rfl (hM.row 0 rfl) (tenC_0 (by omega))) rfl fun a hF => st hF (g_fieldAddr ty_fo_27_0 hF rfl) rfl fun a hF => st hF (g_load ty_on_2 hF rfl (hM.row 1 rfl) (tenC_0 (by omega))) rfl fun a hF => st hF (g_neq hF rfl rfl) rfl fun a hF => st hF (g_move hF rfl) rfl fun a hF => ?_
  by_cases g4 : (p : Int) ≠ p
  ·
    first | rw [decide_eq_true g4] at hF | simp only [decide_eq_true g4] at hF
    first | exact absurd rfl g4 | (exfalso; omega)
  ·
    first | rw [decide_eq_false g4] at hF | simp only [decide_eq_false g4] at hF
    refine stY hF rfl rfl rfl (g_fieldAddr ty_fo_27_1 hF rfl) rfl fun a hF => stY hF rfl rfl rfl (g_load ty_on_2 hF rfl (hM.row 0 rfl) (tenC_1 (by omega))) rfl fun a hF => stY hF rfl rfl rfl (g_fieldAddr ty_fo_27_1 hF rfl) rfl fun a hF => stY hF rfl rfl rfl (g_load ty_on_2 hF rfl (hM.row 1 rfl) (tenC_1 (by omega))) rfl fun a hF => stY hF rfl rfl rfl (g_neq hF rfl rfl) rfl fun a hF => st hF (g_pickF hF rfl rfl) rfl fun a hF => st hF (g_assign hF rfl) rfl fun a hF => ?_
    refine wpList_nil ?_
    refine tN ?_
    refine c_cond hF rfl (fun h5 => ?_) (fun h5 => ?_)
    ·
      first | exact absurd rfl h5 | (exfalso; simp_all; done) | (exfalso; omega)
    ·
      refine wp_skip ?_
      refine iN ?_
      refine tN ?_
      refine sq ?_
      refine wp_region_lit ?_
      refine st hF (g_assign hF rfl) rfl fun a hF => ?_
      refine wpList_nil ?_
      refine tN ?_
      refine wp_ret ?_
      refine fin1 rfl hF.defers (res_tmp hF rfl) ⟨_, rfl, hM.below, ?_⟩
      show _ = _
      rfl

/-- Numbers and k times other numbers together. -/
def adF (p k : Nat) (f h : Nat → Nat) (c : Nat) : Nat := (f c + k * h c) % p

end Go.Proofs.Ythliekalhgafcaa
