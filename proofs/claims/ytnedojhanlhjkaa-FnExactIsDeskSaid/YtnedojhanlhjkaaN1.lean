/- What functions of the program return, as walks over their operations; no statement of the seat is proved here. -/
import Derived.Test.YtnedojhanlhjkaaH8
import Derived.Test.YtnedojhanlhjkaaSw21
import Derived.Test.YtnedojhanlhjkaaSw30
import Derived.Test.YtnedojhanlhjkaaSw45
set_option linter.unusedVariables false
set_option linter.unusedSimpArgs false
namespace Go.Proofs.Ytnedojhanlhjkaa
open Go Go.RowKit Go.Sw Go.Ech
open Classical
theorem ty_us_60 : Try.prog.underlying 60 = some (.slice 25) := by kernel_rfl
theorem ty_sl_60 : sliceOf Try.prog 60 = some 6 := by kernel_rfl
def CodeP (p n : Int) (T : Nat → Nat → Nat → Nat) (f : Nat → Nat) (m : Nat) (V : Nat → Nat → Nat) : Prop := AlgP p n T f ∧ ∀ i, i < m → okV p n (V i)
theorem vAtL_le {l : List (Nat → Nat)} (h : ∀ v ∈ l, ∀ c, v c ≤ 255) : ∀ i c, vAtL l i c ≤ 255 := fun i c => by
  unfold vAtL
  rw [List.getD_eq_getElem?_getD]
  cases e : l[i]? with
  | none => simp
  | some v => exact h v (List.mem_of_getElem? e) c

theorem l01Vector_ok (p n : Int) (T : Nat → Nat → Nat → Nat) (f v : Nat → Nat) (w : World) (hv : ∀ i, v i ≤ 255) :
    CallsR Try.prog 35 #[.agg (algC p n T f), .agg (vecC v)] w (fun res _ => res = .bool (decide (okV p n v))) := by
  refine calls_fr [.agg (algC p n T f), .agg (vecC v)] Try.func35 rfl Try.ntmps35 rfl fun a hF => ?_;have hM : Mem w w [none, none] [] := MemX.start w 2;change Fr 11 a [(0, .agg (algC p n T f)), (1, .agg (vecC v))] at hF;refine sr <| stR hF (d_box 0 hM hF rfl) rfl ?_;rintro _ w' a ⟨b1, rfl, hM, -⟩ hF;refine stR hF (d_box 1 hM hF rfl) rfl ?_;rintro _ w' a ⟨b2, rfl, hM, -⟩ hF;change Mem w w' [some (b1, algC p n T f), some (b2, vecC v)] [] at hM;refine ag hF rfl rfl fun a hF => ns <| st hF (g_fieldAddr ty_fo_27_0 hF rfl) rfl fun a hF => st hF (g_load ty_on_2 hF rfl (hM.row 0 rfl) (algC_p (by omega))) rfl fun a hF => st hF (g_fieldAddr ty_fo_27_1 hF rfl) rfl fun a hF => st hF (g_load ty_on_2 hF rfl (hM.row 0 rfl) (algC_n (by omega))) rfl fun a hF => st hF (g_loadAgg ty_ag_25 hF rfl (hM.row 1 rfl) (by simp only [sz0] <;> omega) (whole (by simp only [sz0]))) rfl fun a hF => stR hF (d_call Try.call54 hF (.cons rfl (.cons rfl (.cons rfl .nil))) (l01Small_ok (p) (n) (v) _ (fun _ => by first | exact hv _ | exact hu _ | exact hT _ _ _ | exact hf _ | omega | (split <;> omega) | (dsimp only; split <;> omega) | assumption))) rfl ?_;rintro _ w' a ⟨hx, rfl⟩ hF;have hM := hM.ext hx;refine ag hF rfl rfl fun a hF => nt <| wp_ret <| fin1 rfl hF.defers (res_tmp hF rfl) ⟨_, rfl, hM.below, ?_⟩
  show _ = _
  rfl
theorem l01Code_ok (p n : Int) (T : Nat → Nat → Nat → Nat) (f : Nat → Nat) (b c m : Nat) (V : Nat → Nat → Nat) (w : World) (hT : ∀ i j k, T i j k ≤ 255) (hf : ∀ i, f i ≤ 255) (hV : ∀ i c, V i c ≤ 255) (hm : m < 1000) (hb : Blk w b (vecsC m V)) :
    CallsR Try.prog 17 #[.agg (algC p n T f), .slice (some ⟨b, 0, none⟩) m c] w (fun res _ => res = .int .i64 (if CodeP p n T f m V then 0 else 1)) := by
  refine calls_fr [.agg (algC p n T f), .slice (some ⟨b, 0, none⟩) m c] Try.func17 rfl Try.ntmps17 rfl fun a hF => ?_;have hM : Mem w w [none] [(b, vecsC m V)] := MemX.startD w 1 _ (startD1 hb);change Fr 22 a [(0, .agg (algC p n T f)), (1, .slice (some ⟨b, 0, none⟩) m c)] at hF;refine sr <| stR hF (d_box 0 hM hF rfl) rfl ?_;rintro _ w' a ⟨b1, rfl, hM, -⟩ hF;change Mem w w' [some (b1, algC p n T f)] [(b, vecsC m V)] at hM;refine ag hF rfl rfl fun a hF => nt <| sq <| sr <| st hF (g_loadAgg ty_ag_27 hF rfl (hM.row 0 rfl) (by simp only [sz0] <;> omega) (whole cells_size)) rfl fun a hF => stR hF (d_call Try.call34 hF (.cons rfl .nil) (l01Algebra_ok p n T f _ (fun _ _ _ => hT _ _ _) (fun _ => hf _))) rfl ?_;rintro _ w' a ⟨hx, rfl⟩ hF;have hM := hM.ext hx;refine st hF (g_notP hF rfl) rfl fun a hF => nt <| c_cond hF rfl (fun h2 => ?_) (fun h2 => ?_)
  · refine sq ?_
    refine wp_region_lit <| ag hF rfl rfl fun a hF => nt <| wp_ret <| tR <| fin1 rfl hF.defers (res_tmp hF rfl) ⟨_, rfl, hM.below, ?_⟩
    show _ = _
    rw [if_neg (fun hq => (by assumption : ¬ AlgP _ _ _ _) hq.1)]
  refine wp_skip <| tN <| sq <| sr <| ag hF rfl rfl fun a hF => nt <| wp_block ?_;change Mem w _ [some (b1, algC p n T f)] [(b, vecsC m V)] at hM;refine c_loop (fun (kk : Nat) a w' => kk ≤ m ∧ (∀ i, i < kk → okV p n (V i)) ∧ Fr 22 a [(1, .slice (some ⟨b, 0, none⟩) m c), (2, ptr b1 (0)), (8, .bool (decide (¬ (AlgP p n T f)))), (5, .int .i64 (kk : Int))] ∧ Mem w w' [some (b1, algC p n T f)] [(b, vecsC m V)]) (fun kk => m - kk) 0 ?_ ?_
  · refine ⟨by omega, fun i hi => absurd hi (by omega), hF.sub _ (by repeat' constructor), ?_⟩
    exact hM
  clear hF hM;rintro gi a w' ⟨hgi, hinv1, hF, hM⟩;have hv : ∀ c, V gi c ≤ 255 := hV gi;refine sq <| sr <| mv hF rfl rfl fun a hF => mv hF rfl rfl fun a hF => st hF (g_len ty_us_60 hF rfl) rfl fun a hF => st hF (g_lss hF rfl rfl) rfl fun a hF => nt <| c_cond hF rfl (fun h3 => ?_) (fun h3 => ?_)
  · refine wp_skip ?_
    refine tN <| sq <| wp_block <| sq <| c_par 5 [] [.val (.agg (algC p n T f)), .val (.slice (some ⟨b, 0, none⟩) m c), .val (.int .i64 (gi : Int)), .val (ptr b (0 + (gi) * 6)), .val (.agg (vecC (V (gi))))] hmix rfl hF rfl hM ⟨fun a w gG hF hS hd => by have hM := hS.mem rfl; exact par_val hS rfl (g_loadAgg ty_ag_27 hF rfl (hM.row 0 rfl) (by simp only [sz0] <;> omega) (whole cells_size)), fun a w gG hF hS hd => by exact pmv hS rfl hF rfl, fun a w gG hF hS hd => by exact pmv hS rfl hF rfl, fun a w gG hF hS hd => by have hF := hF.ext1 16 (hd 1 rfl rfl); have hF := hF.ext1 17 (hd 2 rfl rfl); exact par_val hS rfl (g_indexSl (i := gi) ty_sl_60 hF rfl rfl rfl (by omega)), fun a w gG hF hS hd => by have hF := hF.ext1 18 (hd 3 rfl rfl); have hM := hS.mem rfl; exact par_val hS rfl (g_loadAgg ty_ag_25 hF rfl (hM.fz 0 rfl) (by rw [vecsC_size]; omega) (vecsC_row (gi) (by omega) (by omega) (by omega))), trivial⟩ ?_;intro a w' L hF hS hq;have hF := hF.ext1 15 (hq 0 rfl rfl);have hF := hF.ext1 16 (hq 1 rfl rfl);have hF := hF.ext1 17 (hq 2 rfl rfl);have hF := hF.ext1 18 (hq 3 rfl rfl);have hF := hF.ext1 19 (hq 4 rfl rfl);have hM := hS.mem rfl;change wpList Try.prog _ _ [_, _] _ _;refine stR hF (d_call Try.call35 hF (.cons rfl (.cons rfl .nil)) (l01Vector_ok p n T f (V (gi)) _ (fun _ => by first | exact hv _ | exact hu _ | exact hT _ _ _ | exact hf _ | omega | (split <;> omega) | (dsimp only; split <;> omega) | assumption))) rfl ?_;rintro _ w' a ⟨hx, rfl⟩ hF;have hM := hM.ext hx;refine st hF (g_notP hF rfl) rfl fun a hF => nt <| c_cond hF rfl (fun h4 => ?_) (fun h4 => ?_)
    · refine sq ?_
      refine wp_region_lit <| ag hF rfl rfl fun a hF => nt <| wp_ret <| iR <| tR <| tR <| iR <| tR <| fin1 rfl hF.defers (res_tmp hF rfl) ⟨_, rfl, hM.below, ?_⟩
      show _ = _
      rw [if_neg (fun hq => (by assumption : ¬ okV _ _ _) (hq.2 gi (by omega)))]
    refine wp_skip <| iN <| tN <| wp_region_lit <| mv hF rfl rfl fun a hF => st hF (g_add hF rfl rfl (add_nat (gi) (1) (by omega))) rfl fun a hF => ag hF rfl rfl fun a hF => nt <| ⟨gi + 1, ⟨by omega, allS hinv1 (Decidable.not_not.1 (by assumption)), hF.sub _ (by repeat' constructor), ?_⟩, by omega⟩;exact hM
  obtain rfl : m = gi := by omega
  refine wp_exit <| tX <| tX <| ib_same <| tN <| sr <| ag hF rfl rfl fun a hF => nt <| wp_ret <| fin1 rfl hF.defers (res_tmp hF rfl) ⟨_, rfl, hM.below, ?_⟩
  show _ = _
  rw [if_pos ⟨Decidable.not_not.1 (by assumption), hinv1⟩]
theorem areVectors_ok (p n : Int) (T : Nat → Nat → Nat → Nat) (f : Nat → Nat) (b c m : Nat) (V : Nat → Nat → Nat) (w : World) (hT : ∀ i j k, T i j k ≤ 255) (hf : ∀ i, f i ≤ 255) (hV : ∀ i c, V i c ≤ 255) (hm : m < 1000) (hb : Blk w b (vecsC m V)) :
    CallsR Try.prog 21 #[.agg (algC p n T f), .slice (some ⟨b, 0, none⟩) m c] w (fun res _ => res = .bool (decide (CodeP p n T f m V))) := by
  refine calls_fr [.agg (algC p n T f), .slice (some ⟨b, 0, none⟩) m c] Try.func21 rfl Try.ntmps21 rfl fun a hF => ?_;have hM : Mem w w [none, none] [(b, vecsC m V)] := MemX.startD w 2 _ (startD1 hb);change Fr 20 a [(0, .agg (algC p n T f)), (1, .slice (some ⟨b, 0, none⟩) m c)] at hF;refine sr <| stR hF (d_box 0 hM hF rfl) rfl ?_;rintro _ w' a ⟨b1, rfl, hM, -⟩ hF;refine ag hF rfl rfl fun a hF => nt <| sq <| sr <| mv hF rfl rfl fun a hF => st hF (g_len ty_us_60 hF rfl) rfl fun a hF => mv hF rfl rfl fun a hF => nt <| wp_block ?_;change Mem w _ [some (b1, algC p n T f), none] [(b, vecsC m V)] at hM;refine c_loop (fun (kk : Nat) a w' => kk ≤ m ∧ (∀ i, i < kk → okV p n (V i)) ∧ Fr 20 a [(2, ptr b1 (0)), (7, .slice (some ⟨b, 0, none⟩) m c), (8, .int .i64 (m : Int)), (9, .int .i64 (kk : Int))] ∧ Mem w w' [some (b1, algC p n T f), none] [(b, vecsC m V)]) (fun kk => m - kk) 0 ?_ ?_
  · refine ⟨by omega, fun i hi => absurd hi (by omega), hF.sub _ (by repeat' constructor), ?_⟩
    exact hM
  clear hF hM;rintro gi a w' ⟨hgi, hinv1, hF, hM⟩;have hv : ∀ c, V gi c ≤ 255 := hV gi;refine sr <| st hF (g_lss hF rfl rfl) rfl fun a hF => nt <| sq <| c_cond hF rfl (fun h2 => ?_) (fun h2 => ?_)
  · refine wp_skip ?_
    refine tN <| sq <| wp_block <| sr <| st hF (g_indexSl (i := gi) ty_sl_60 hF rfl rfl rfl (by omega)) rfl fun a hF => st hF (g_loadAgg ty_ag_25 hF rfl (hM.fz 0 rfl) (by rw [vecsC_size]; omega) (vecsC_row (gi) (by omega) (by omega) (by omega))) rfl fun a hF => stR hF (d_alloc 1 hM ty_ze_25) rfl ?_;rintro _ w' a ⟨b3, rfl, hM, -⟩ hF;change Mem w w' [some (b1, algC p n T f), some (b3, fnC 6 (fun _ => .int .u8 (0)))] [(b, vecsC m V)] at hM;refine stN hF (d_storeAgg 1 hM rfl ty_sz_25 hF rfl rfl (by first | exact vecC_one | exact cells_one | (refine fnC_one fun _ _ => ?_; first | rfl | (split <;> rfl))) (by simp only [sz0]) (by simp only [sz0] <;> omega) (splice_whole _ _ (by simp only [sz0]))) ?_;intro _ w' a hM hF;change Mem w w' [some (b1, algC p n T f), some (b3, vecC (V (gi)))] [(b, vecsC m V)] at hM;refine ns <| st hF (g_loadAgg ty_ag_27 hF rfl (hM.row 0 rfl) (by simp only [sz0] <;> omega) (whole cells_size)) rfl fun a hF => st hF (g_loadAgg ty_ag_25 hF rfl (hM.row 1 rfl) (by simp only [sz0] <;> omega) (whole (by simp only [sz0]))) rfl fun a hF => stR hF (d_call Try.call38 hF (.cons rfl (.cons rfl .nil)) (isVector_ok p n T f ((V (gi))) _ (fun _ => by first | exact hv _ | exact hu _ | exact hT _ _ _ | exact hf _ | omega | (split <;> omega) | (dsimp only; split <;> omega) | assumption))) rfl ?_;rintro _ w' a ⟨hx, rfl⟩ hF;have hM := hM.ext hx;refine st hF (g_notP hF rfl) rfl fun a hF => nt <| c_cond hF rfl (fun h4 => ?_) (fun h4 => ?_)
    · refine sq ?_
      refine wp_region_lit <| ag hF rfl rfl fun a hF => nt <| wp_ret <| iR <| tR <| tR <| iR <| tR <| fin1 rfl hF.defers (res_tmp hF rfl) ⟨_, rfl, hM.below, ?_⟩
      show _ = _
      exact bool_f (fun hq => (by assumption : ¬ okV _ _ _) (hq.2 gi (by omega)))
    refine wp_skip <| iN <| tN <| wp_region_lit <| st hF (g_add hF rfl rfl (add_nat (gi) (1) (by omega))) rfl fun a hF => mv hF rfl rfl fun a hF => wpList_nil <| tN ?_;have hM := hM.drop 1;refine ⟨gi + 1, ⟨by omega, allS hinv1 (Decidable.not_not.1 (by assumption)), hF.sub _ (by repeat' constructor), ?_⟩, by omega⟩;exact hM
  obtain rfl : m = gi := by omega
  refine wp_exit <| tX <| tX <| ib_same <| tN <| sr <| st hF (g_loadAgg ty_ag_27 hF rfl (hM.row 0 rfl) (by simp only [sz0] <;> omega) (whole cells_size)) rfl fun a hF => stR hF (d_call Try.call39 hF (.cons rfl .nil) (IsAlgebraI_ok p n T f _ (fun _ _ _ => hT _ _ _) (fun _ => hf _))) rfl ?_;rintro _ w' a ⟨hx, rfl⟩ hF;have hM := hM.ext hx;refine ag hF rfl rfl fun a hF => nt <| wp_ret <| fin1 rfl hF.defers (res_tmp hF rfl) ⟨_, rfl, hM.below, ?_⟩
  show _ = _
  exact congrArg Value.bool (decide_eq_decide.2 ⟨fun h => ⟨h, hinv1⟩, fun h => h.1⟩)
end Go.Proofs.Ytnedojhanlhjkaa

namespace Go.Proofs.Ytnedojhanlhjkaa
open Go Go.RowKit Go.Sw Go.Ech
open Classical
end Go.Proofs.Ytnedojhanlhjkaa

namespace Go.Proofs.Ytnedojhanlhjkaa
open Go Go.RowKit Go.Sw Go.Ech
open Classical
def trT (T : Nat → Nat → Nat → Nat) (i j k : Nat) : Nat := T j i k
def comP (T : Nat → Nat → Nat → Nat) : Prop := ∀ i, i < 6 → ∀ j, j < i → eqV 6 (T i j) (T j i)
end Go.Proofs.Ytnedojhanlhjkaa

namespace Go.Proofs.Ytnedojhanlhjkaa
open Go Go.RowKit Go.Sw Go.Ech
open Classical
def pTp (pl : Nat → Nat → Int) (n a b i j k : Nat) : Nat := if (i < a ∨ (i = a ∧ j < b)) ∧ j < n ∧ (k : Int) = pl i j then 1 else 0
def dualP (i j : Nat) : Int := if i = 1 ∧ j = 1 then -1 else ((i + j : Nat) : Int)
def pairP (i j : Nat) : Int := if i = j then (i : Int) else -1
def cycP (i j : Nat) : Int := (((i + j) % 3 : Nat) : Int)

def pmT : List (List Nat) := [[0, 1, 2], [0, 2, 1], [1, 0, 2], [1, 2, 0], [2, 0, 1], [2, 1, 0]]
def pmL (i k : Nat) : Nat := (pmT.getD i []).getD k 0
def v3C (v : Nat → Nat) : Array Value := fnC 3 (fun c => .int .u8 (v c : Int))
def pm6C : Array Value := fnC 18 (fun c => .int .u8 (pmL (c / 3) (c % 3) : Int))
theorem v3C_size (v : Nat → Nat) : (v3C v).size = 3 := fnC_size _ _
theorem pm6C_size : pm6C.size = 18 := fnC_size _ _
def pmES : Array MapEntry := #[{ key := .agg (v3C (pmL 0)), val := .int .i64 ((0 : Nat) : Int), born := 0 }, { key := .agg (v3C (pmL 1)), val := .int .i64 ((1 : Nat) : Int), born := 1 }, { key := .agg (v3C (pmL 2)), val := .int .i64 ((2 : Nat) : Int), born := 2 }, { key := .agg (v3C (pmL 3)), val := .int .i64 ((3 : Nat) : Int), born := 3 }, { key := .agg (v3C (pmL 4)), val := .int .i64 ((4 : Nat) : Int), born := 4 }, { key := .agg (v3C (pmL 5)), val := .int .i64 ((5 : Nat) : Int), born := 5 }]

end Go.Proofs.Ytnedojhanlhjkaa
