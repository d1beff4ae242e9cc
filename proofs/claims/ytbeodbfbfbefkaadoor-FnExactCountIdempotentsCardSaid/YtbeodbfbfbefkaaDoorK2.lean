/- What functions of the program return, as walks over their operations; no statement of the seat is proved here. -/
import Derived.Test.YtbeodbfbfbefkaaDoorH8
import Derived.Test.YtbeodbfbfbefkaaDoorEch5
set_option linter.unusedVariables false
set_option linter.unusedSimpArgs false
namespace Go.Proofs.YtbeodbfbfbefkaaDoor
open Go Go.RowKit Go.Sw Go.Ech
open Classical
theorem ty_us_27 : Tryd.prog.underlying 27 = some (.slice 30) := by kernel_rfl
theorem ty_sl_27 : sliceOf Tryd.prog 27 = some 6 := by kernel_rfl
def CodeP (p n : Int) (T : Nat → Nat → Nat → Nat) (f : Nat → Nat) (m : Nat) (V : Nat → Nat → Nat) : Prop := AlgP p n T f ∧ ∀ i, i < m → okV p n (V i)
theorem l01Code_0 (p n : Int) (T : Nat → Nat → Nat → Nat) (f : Nat → Nat) (V : Nat → Nat → Nat) (w : World) (hT : ∀ i j k, T i j k ≤ 255) (hf : ∀ i, f i ≤ 255) :
    CallsR Tryd.prog 34 #[.agg (algC p n T f), .slice none 0 0] w (fun res _ => res = .int .i64 (if CodeP p n T f 0 V then 0 else 1)) := by
  refine calls_fr [.agg (algC p n T f), .slice none 0 0] Tryd.func34 rfl Tryd.ntmps34 rfl fun a hF => ?_
  have hM : Mem w w [none] [] := MemX.start w 1
  change Fr 22 a [(0, .agg (algC p n T f)), (1, .slice none 0 0)] at hF
  refine sq (wp_region_lit ?_)
  refine stR hF (d_box 0 hM hF rfl) rfl ?_
  rintro _ w' a ⟨b1, rfl, hM, -⟩ hF
  change Mem w w' [some (b1, algC p n T f)] [] at hM
  refine st hF (g_assign hF rfl) rfl fun a hF => ?_
  refine wpList_nil (tN (sq (sq (wp_region_lit ?_))))
  refine st hF (g_loadAgg ty_ag_32 hF rfl (hM.row 0 rfl) (by simp only [fnC_size, cells_size, vecC_size, tabC_size, planeC_size] <;> omega) (whole cells_size)) rfl fun a hF => ?_
  refine stR hF (d_call Tryd.call56 hF (.cons rfl .nil) (l01Algebra_ok p n T f _ (fun _ _ _ => hT _ _ _) (fun _ => hf _))) rfl ?_
  rintro _ w' a ⟨hx, rfl⟩ hF
  have hM := hM.ext hx
  refine st hF (g_notP hF rfl) rfl fun a hF => ?_
  refine wpList_nil (tN ?_)
  refine c_cond hF rfl (fun h2 => ?_) (fun h2 => ?_)
  ·
   refine sq (wp_region_lit ?_)
   refine st hF (g_assign hF rfl) rfl fun a hF => ?_
   refine wpList_nil (tN (wp_ret (tR ?_)))
   refine fin1 rfl hF.defers (res_tmp hF rfl) ⟨_, rfl, hM.below, ?_⟩
   show _ = _
   rw [if_neg (fun hq => (by assumption : ¬ AlgP _ _ _ _) hq.1)]
  ·
   refine wp_skip (tN (sq (sq (wp_region_lit ?_))))
   refine st hF (g_assign hF rfl) rfl fun a hF => ?_
   refine wpList_nil (tN (wp_block ?_))
   change Mem w _ [some (b1, algC p n T f)] [] at hM
   refine c_loop (fun (kk : Nat) a w' => kk ≤ 0 ∧ (True) ∧ Fr 22 a [(0, .agg (algC p n T f)), (1, .slice none 0 0), (2, ptr b1 (0)), (6, .agg (algC p n T f)), (7, .bool (decide (AlgP p n T f))), (8, .bool (decide (¬ (AlgP p n T f)))), (5, .int .i64 (((kk : Nat) : Int)))] ∧ Mem w w' [some (b1, algC p n T f)] []) (fun kk => 0 - kk) 0 ?_ ?_
   ·
    refine ⟨by omega, trivial, hF.sub _ (by repeat' constructor), ?_⟩
    exact hM
   ·
    clear hF hM
    rintro gi a w' ⟨hgi, hinv1, hF, hM⟩
    refine sq (sq (wp_region_lit ?_))
    refine st hF (g_move hF rfl) rfl fun a hF => st hF (g_move hF rfl) rfl fun a hF => st hF (g_len0 ty_us_27 hF rfl) rfl fun a hF => st hF (g_lss hF rfl rfl) rfl fun a hF => ?_
    refine wpList_nil (tN ?_)
    refine c_cond hF rfl (fun h3 => ?_) (fun h3 => ?_)
    ·
     exfalso; omega
    ·
     obtain rfl : 0 = gi := by omega
     refine wp_exit (tX (tX ?_))
     refine ib_same ?_
     refine tN (sq (wp_region_lit ?_))
     refine st hF (g_assign hF rfl) rfl fun a hF => ?_
     refine wpList_nil (tN (wp_ret ?_))
     refine fin1 rfl hF.defers (res_tmp hF rfl) ⟨_, rfl, hM.below, ?_⟩
     show _ = _
     rw [if_pos ⟨Decidable.not_not.1 (by assumption), fun i hi => absurd hi (by omega)⟩]

theorem areVectors_0 (p n : Int) (T : Nat → Nat → Nat → Nat) (f : Nat → Nat) (V : Nat → Nat → Nat) (w : World) (hT : ∀ i j k, T i j k ≤ 255) (hf : ∀ i, f i ≤ 255) :
    CallsR Tryd.prog 44 #[.agg (algC p n T f), .slice none 0 0] w (fun res _ => res = .bool (decide (CodeP p n T f 0 V))) := by
  refine calls_fr [.agg (algC p n T f), .slice none 0 0] Tryd.func44 rfl Tryd.ntmps44 rfl fun a hF => ?_
  have hM : Mem w w [none, none] [] := MemX.start w 2
  change Fr 20 a [(0, .agg (algC p n T f)), (1, .slice none 0 0)] at hF
  refine sq (wp_region_lit ?_)
  refine stR hF (d_box 0 hM hF rfl) rfl ?_
  rintro _ w' a ⟨b1, rfl, hM, -⟩ hF
  change Mem w w' [some (b1, algC p n T f), none] [] at hM
  refine st hF (g_assign hF rfl) rfl fun a hF => ?_
  refine wpList_nil (tN (sq (sq (wp_region_lit ?_))))
  refine st hF (g_move hF rfl) rfl fun a hF => st hF (g_len0 ty_us_27 hF rfl) rfl fun a hF => st hF (g_move hF rfl) rfl fun a hF => ?_
  refine wpList_nil (tN (wp_block ?_))
  change Mem w _ [some (b1, algC p n T f), none] [] at hM
  refine c_loop (fun (kk : Nat) a w' => kk ≤ 0 ∧ (True) ∧ Fr 20 a [(0, .agg (algC p n T f)), (1, .slice none 0 0), (2, ptr b1 (0)), (7, .slice none 0 0), (8, .int .i64 (0)), (9, .int .i64 (((kk : Nat) : Int)))] ∧ Mem w w' [some (b1, algC p n T f), none] []) (fun kk => 0 - kk) 0 ?_ ?_
  ·
   refine ⟨by omega, trivial, hF.sub _ (by repeat' constructor), ?_⟩
   exact hM
  ·
   clear hF hM
   rintro gi a w' ⟨hgi, hinv1, hF, hM⟩
   refine sq (wp_region_lit ?_)
   refine st hF (g_lss hF rfl rfl) rfl fun a hF => ?_
   refine wpList_nil (tN (sq ?_))
   refine c_cond hF rfl (fun h2 => ?_) (fun h2 => ?_)
   ·
    exfalso; omega
   ·
    obtain rfl : 0 = gi := by omega
    refine wp_exit (tX (tX ?_))
    refine ib_same ?_
    refine tN (sq (wp_region_lit ?_))
    refine st hF (g_loadAgg ty_ag_32 hF rfl (hM.row 0 rfl) (by simp only [fnC_size, cells_size, vecC_size, tabC_size, planeC_size] <;> omega) (whole cells_size)) rfl fun a hF => ?_
    refine stR hF (d_call Tryd.call66 hF (.cons rfl .nil) (IsAlgebraI_ok p n T f _ (fun _ _ _ => hT _ _ _) (fun _ => hf _))) rfl ?_
    rintro _ w' a ⟨hx, rfl⟩ hF
    have hM := hM.ext hx
    refine st hF (g_assign hF rfl) rfl fun a hF => ?_
    refine wpList_nil (tN (wp_ret ?_))
    refine fin1 rfl hF.defers (res_tmp hF rfl) ⟨_, rfl, hM.below, ?_⟩
    show _ = _
    exact congrArg Value.bool (decide_eq_decide.2 ⟨fun h => ⟨h, fun i hi => absurd hi (by omega)⟩, fun h => h.1⟩)

















end Go.Proofs.YtbeodbfbfbefkaaDoor

namespace Go.Proofs.YtbeodbfbfbefkaaDoor
open Go Go.RowKit Go.Sw Go.Ech
open Classical
theorem trunc_idem {n : Nat} {T : Nat → Nat → Nat → Nat} : trunc n (trunc n T) = trunc n T := by
  funext i j k
  unfold trunc
  by_cases h : i < n ∧ j < n ∧ k < n
  · rw [if_pos h, if_pos h]
  · rw [if_neg h, if_neg h]
theorem code_trunc {p n : Int} {T : Nat → Nat → Nat → Nat} {f : Nat → Nat} {m : Nat} {V : Nat → Nat → Nat} (h : CodeP p n T f m V) : CodeP p n (trunc n.toNat T) f m V :=
  ⟨⟨shape_trunc h.1.1, by rw [trunc_idem]; exact h.1.2⟩, h.2⟩

end Go.Proofs.YtbeodbfbfbefkaaDoor
