/- What functions of the program return, as walks over their operations; no statement of the seat is proved here. -/
import Derived.Test.YtmlnjicajdbjlaaDoorZ12
import Derived.Test.YtmlnjicajdbjlaaDoorSw10
set_option linter.unusedVariables false
set_option linter.unusedSimpArgs false
namespace Go.Proofs.YtmlnjicajdbjlaaDoor
open Go Go.RowKit Go.Sw Go.Ech
open Classical
end Go.Proofs.YtmlnjicajdbjlaaDoor

namespace Go.Proofs.YtmlnjicajdbjlaaDoor
open Go Go.RowKit Go.Sw Go.Ech
open Classical
theorem eqV_symm {x y : Nat → Nat} (h : eqV 6 x y) : eqV 6 y x := fun c hc => (h c hc).symm
theorem noM {N : Nat} {W : Nat → Nat → Nat} {v : Nat → Nat} {g : Nat} (h : ∀ i, i < g → ¬ eqV 6 (W i) v) (e : ¬ eqV 6 (W g) v) : ∀ i, i < g + 1 → ¬ eqV 6 (W i) v := fun i hi => by
  by_cases e2 : i = g
  · rw [e2]; exact e
  · exact h i (by omega)

theorem sliceIndex_ok (bl cl N : Nat) (csl : Array Value) (W : Nat → Nat → Nat) (v : Nat → Nat) (w : World) (hl : SlAt 6 (.slice (some ⟨bl, 0, none⟩) N cl) (some (bl, csl)) N bl cl csl (fun c => .int .u8 (W (c / 6) (c % 6) : Int))) (hbl : Blk w bl csl) (hN : N ≤ 100) (hW : ∀ i c, W i c ≤ 255) (hv : ∀ i, v i ≤ 255) :
    CallsR Tryd.prog 76 #[.slice (some ⟨bl, 0, none⟩) N cl, .agg (vecC v)] w (fun u w' => ∃ x : Int, u = .int .i64 x ∧ -2 < x ∧ x < 1000 ∧ (0 ≤ x ↔ (∃ i, i < N ∧ eqV 6 (W i) v))) := by
  refine calls_fr [.slice (some ⟨bl, 0, none⟩) N cl, .agg (vecC v)] Tryd.func76 rfl Tryd.ntmps76 rfl fun a hF => ?_;have hM : Mem w w [none] [(bl, csl)] := MemX.startD w 1 _ (startD1 hbl);change Fr 19 a [(0, .slice (some ⟨bl, 0, none⟩) N cl), (1, .agg (vecC v))] at hF;have hi1 : (bl, csl) ∈ [(bl, csl)] := List.mem_cons_self ..;refine sr <| stR hF (d_box 0 hM hF rfl) rfl ?_;rintro _ w' a ⟨b1, rfl, hM, -⟩ hF;refine ag hF rfl rfl fun a hF => nt <| sq <| sr <| mv hF rfl rfl fun a hF => st hF (g_len ty_us_27 hF rfl) rfl fun a hF => mv hF rfl rfl fun a hF => nt <| wp_block ?_;change Mem w _ [some (b1, vecC v)] [(bl, csl)] at hM;refine c_loop (fun (kk : Nat) a w' => kk ≤ N ∧ (∀ i, i < kk → ¬ eqV 6 (W i) v) ∧ Fr 19 a [(0, .slice (some ⟨bl, 0, none⟩) N cl), (3, ptr b1 (0)), (7, .int .i64 (N : Int)), (8, .int .i64 (kk : Int))] ∧ Mem w w' [some (b1, vecC v)] [(bl, csl)]) (fun kk => N - kk) 0 ?_ ?_
  · refine ⟨by omega, fun i hi => absurd hi (by omega), hF.sub _ (by repeat' constructor), ?_⟩
    exact hM
  clear hF hM;rintro gi a w' ⟨hgi, hno, hF, hM⟩;have hvt := hW gi;refine sr <| st hF (g_lss hF rfl rfl) rfl fun a hF => nt <| sq <| c_cond hF rfl (fun h2 => ?_) (fun h2 => ?_)
  · refine wp_skip ?_
    refine tN <| sq <| wp_block <| sr <| mv hF rfl rfl fun a hF => ag hF rfl rfl fun a hF => nt <| sq <| c_par 5 [] [.val (.agg (vecC v)), .val (.slice (some ⟨bl, 0, none⟩) N cl), .val (.int .i64 (gi : Int)), .val (ptr bl (0 + (gi) * 6)), .val (.agg (vecC (W (gi))))] hmix rfl hF rfl hM ⟨fun a w gG hF hS hd => by have hM := hS.mem rfl; exact par_val hS rfl (g_loadAgg ty_ag_30 hF rfl (hM.row 0 rfl) (by simp only [sz0, dgC_size, numC_sz, ldB_size, rowV_size, mrk_size] <;> omega) (whole (by simp only [sz0, dgC_size, numC_sz, ldB_size, rowV_size, mrk_size]))), fun a w gG hF hS hd => by exact pmv hS rfl hF rfl, fun a w gG hF hS hd => by exact pmv hS rfl hF rfl, fun a w gG hF hS hd => by have hF := hF.ext1 12 (hd 1 rfl rfl); have hF := hF.ext1 13 (hd 2 rfl rfl); exact par_val hS rfl (g_indexSl (i := gi) ty_sl_27 hF rfl rfl rfl (by omega)), fun a w gG hF hS hd => by have hF := hF.ext1 14 (hd 3 rfl rfl); have hM := hS.mem rfl; exact par_val hS rfl (g_loadAgg ty_ag_30 hF rfl (hM.fzm hi1) (hl.room (gi) (by omega)) (hl.vec0 (V := W) (gi) (by omega))), trivial⟩ ?_;intro a w' L hF hS hq;have hF := hF.ext1 11 (hq 0 rfl rfl);have hF := hF.ext1 12 (hq 1 rfl rfl);have hF := hF.ext1 13 (hq 2 rfl rfl);have hF := hF.ext1 14 (hq 3 rfl rfl);have hF := hF.ext1 15 (hq 4 rfl rfl);have hM := hS.mem rfl;change wpList Tryd.prog _ _ [_] _ _;refine st hF (g_eqlA ty_eg_30 hF rfl rfl (eqAt_vec ty_ae_30 ty_ip_5 ty_on_5)) rfl fun a hF => nt <| c_cond hF rfl (fun h3 => ?_) (fun h3 => ?_)
    · refine sq ?_
      refine wp_region_lit <| mv hF rfl rfl fun a hF => ag hF rfl rfl fun a hF => nt <| wp_ret <| iR <| tR <| tR <| iR <| tR <| fin1 rfl hF.defers (res_tmp hF rfl) ⟨_, rfl, hM.below, ?_⟩
      first | exact ⟨_, rfl, by omega, by omega, fun _ => ⟨gi, by omega, by first | assumption | exact eqV_symm (by assumption)⟩, fun _ => by omega⟩ | exact ⟨_, rfl, by omega, by omega, fun h => by omega, fun ⟨i, h1, h2⟩ => absurd h2 (hno i h1)⟩
    refine wp_skip <| iN <| tN <| wp_region_lit <| st hF (g_add hF rfl rfl (add_nat (gi) (1) (by omega))) rfl fun a hF => mv hF rfl rfl fun a hF => nt <| ⟨gi + 1, ⟨by omega, noM (N := N) hno (by first | assumption | exact fun h => absurd (eqV_symm h) (by assumption)), hF.sub _ (by repeat' constructor), ?_⟩, by omega⟩;exact hM
  obtain rfl : N = gi := by omega
  refine wp_exit <| tX <| tX <| ib_same <| tN <| sr <| ag hF rfl rfl fun a hF => nt <| wp_ret <| fin1 rfl hF.defers (res_tmp hF rfl) ⟨_, rfl, hM.below, ?_⟩
  first | exact ⟨_, rfl, by omega, by omega, fun _ => ⟨gi, by omega, by first | assumption | exact eqV_symm (by assumption)⟩, fun _ => by omega⟩ | exact ⟨_, rfl, by omega, by omega, fun h => by omega, fun ⟨i, h1, h2⟩ => absurd h2 (hno i h1)⟩
theorem contains_ok (bl cl N : Nat) (csl : Array Value) (W : Nat → Nat → Nat) (v : Nat → Nat) (w : World) (hl : SlAt 6 (.slice (some ⟨bl, 0, none⟩) N cl) (some (bl, csl)) N bl cl csl (fun c => .int .u8 (W (c / 6) (c % 6) : Int))) (hbl : Blk w bl csl) (hN : N ≤ 100) (hW : ∀ i c, W i c ≤ 255) (hv : ∀ i, v i ≤ 255) :
    CallsR Tryd.prog 51 #[.slice (some ⟨bl, 0, none⟩) N cl, .agg (vecC v)] w (fun res _ => res = .bool (decide (∃ i, i < N ∧ eqV 6 (W i) v))) := by
  refine calls_fr [.slice (some ⟨bl, 0, none⟩) N cl, .agg (vecC v)] Tryd.func51 rfl Tryd.ntmps51 rfl fun a hF => ?_;have hM : Mem w w [none] [(bl, csl)] := MemX.startD w 1 _ (startD1 hbl);change Fr 9 a [(0, .slice (some ⟨bl, 0, none⟩) N cl), (1, .agg (vecC v))] at hF;have hi1 : (bl, csl) ∈ [(bl, csl)] := List.mem_cons_self ..;refine sr <| stR hF (d_box 0 hM hF rfl) rfl ?_;rintro _ w' a ⟨b1, rfl, hM, -⟩ hF;change Mem w w' [some (b1, vecC v)] [(bl, csl)] at hM;refine ag hF rfl rfl fun a hF => ns <| mv hF rfl rfl fun a hF => st hF (g_loadAgg ty_ag_30 hF rfl (hM.row 0 rfl) (by simp only [sz0, dgC_size, numC_sz, ldB_size, rowV_size, mrk_size] <;> omega) (whole (by simp only [sz0, dgC_size, numC_sz, ldB_size, rowV_size, mrk_size]))) rfl fun a hF => stR hF (d_call Tryd.call76 hF (.cons rfl (.cons rfl .nil)) (sliceIndex_ok bl cl N csl W v _ hl (hM.fzm hi1) hN hW hv)) rfl ?_;rintro _ w' a ⟨hx, x, rfl, hx1, hx2, hx3⟩ hF;have hM := hM.ext hx;refine st hF (g_geq hF rfl rfl) rfl fun a hF => ag hF rfl rfl fun a hF => nt <| wp_ret <| fin1 rfl hF.defers (res_tmp hF rfl) ⟨_, rfl, hM.below, ?_⟩
  show _ = _
  exact congrArg Value.bool (decide_eq_decide.2 hx3)
end Go.Proofs.YtmlnjicajdbjlaaDoor
