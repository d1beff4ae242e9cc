/- What functions of the program return, as walks over their operations; no statement of the seat is proved here. -/
import Derived.Test.YtlpccepifehilaaT3
import Derived.Test.YtlpccepifehilaaT2
set_option linter.unusedVariables false
set_option linter.unusedSimpArgs false
namespace Go.Proofs.Ytlpccepifehilaa
open Go Go.RowKit Go.Sw Go.Ech
open Classical
def dgF (W j c : Nat) : Nat := if c % (W + 1) = 0 ∧ c / (W + 1) < j then 1 else 0
end Go.Proofs.Ytlpccepifehilaa

namespace Go.Proofs.Ytlpccepifehilaa
open Go Go.RowKit Go.Sw Go.Ech
open Classical
def tvF (n k : Nat) (V : Nat → Nat → Nat) (c : Nat) : Nat := if c < k * n then V (c / n) (c % n) else 0
end Go.Proofs.Ytlpccepifehilaa

namespace Go.Proofs.Ytlpccepifehilaa
open Go Go.RowKit Go.Sw Go.Ech
open Classical
def in6 (f : Nat → Nat) (c : Nat) : Nat := if c < 6 then f c else 0
end Go.Proofs.Ytlpccepifehilaa

namespace Go.Proofs.Ytlpccepifehilaa
open Go Go.RowKit Go.Sw Go.Ech
open Classical
def tenH (p n i o : Int) : Prop := primeP p ∧ (1 ≤ n ∧ n ≤ 6) ∧ (0 ≤ i ∧ i ≤ 8) ∧ (0 ≤ o ∧ o ≤ 8)
def TenP (p n i o : Int) (m : Nat) (g : Nat → Int) : Prop := tenH p n i o ∧ n.toNat ^ (i.toNat + o.toNat) ≤ 1296 ∧ m = n.toNat ^ (i.toNat + o.toNat) ∧ ∀ c, c < m → 0 ≤ g c ∧ g c < p
instance (p n i o : Int) (m : Nat) (g : Nat → Int) : Decidable (TenP p n i o m g) := by unfold TenP tenH; infer_instance
def NumP (p : Int) (m : Nat) (g : Nat → Int) : Prop := ∀ c, c < m → 0 ≤ g c ∧ g c < p
instance (p : Int) (m : Nat) (g : Nat → Int) : Decidable (NumP p m g) := by unfold NumP; infer_instance

theorem IsTensor_1 (p n i o : Int) (b m : Nat) (g : Nat → Int) (w : World) (hb : Blk w b (numI m g)) (hm : m < 10000000) (hA : ¬ (primeP p ∧ 1 ≤ n ∧ n ≤ 6 ∧ 0 ≤ i ∧ 0 ≤ o)) :
    CallsR Try.prog 24 #[.agg (tenC p n i o (.slice (some ⟨b, 0, none⟩) m m))] w (fun res _ => res = .bool false) := by
  refine calls_fr [.agg (tenC p n i o (.slice (some ⟨b, 0, none⟩) m m))] Try.func24 rfl Try.ntmps24 rfl fun a hF => ?_;have hM : Mem w w [none] [(b, numI m g)] := MemX.startD w 1 _ (startD1 hb);change Fr 65 a [(0, .agg (tenC p n i o (.slice (some ⟨b, 0, none⟩) m m)))] at hF;refine sr <| stR hF (d_box 0 hM hF rfl) rfl ?_;rintro _ w' a ⟨b1, rfl, hM, -⟩ hF;change Mem w w' [some (b1, tenC p n i o (.slice (some ⟨b, 0, none⟩) m m))] [(b, numI m g)] at hM;refine ag hF rfl rfl fun a hF => nt <| sq <| sr <| st hF (g_fieldAddr ty_fo_26_0 hF rfl) rfl fun a hF => st hF (g_load ty_on_2 hF rfl (hM.row 0 rfl) (tenC_0 (by omega))) rfl fun a hF => stR hF (d_call Try.call36 hF (.cons rfl .nil) (isPrime_ok (p) _)) rfl ?_;rintro _ w' a ⟨hx, rfl⟩ hF;have hM := hM.ext hx;refine st hF (g_notP hF rfl) rfl fun a hF => mv hF rfl rfl fun a hF => ?_
  by_cases g2 : ¬ (primeP (p))
  · first | rw [decide_eq_true g2] at hF | simp only [decide_eq_true g2] at hF
    refine stS hF rfl rfl rfl rfl rfl fun a hF => stS hF rfl rfl rfl rfl rfl fun a hF => stS hF rfl rfl rfl rfl rfl fun a hF => st hF (g_pickT hF rfl rfl) rfl fun a hF => mv hF rfl rfl fun a hF => stS hF rfl rfl rfl rfl rfl fun a hF => stS hF rfl rfl rfl rfl rfl fun a hF => stS hF rfl rfl rfl rfl rfl fun a hF => st hF (g_pickT hF rfl rfl) rfl fun a hF => nt <| c_T hF rfl <| sr <| ag hF rfl rfl fun a hF => nt <| wp_ret <| tR <| fin1 rfl hF.defers (res_tmp hF rfl) ⟨_, rfl, hM.below, ?_⟩
    show _ = _
    rfl
  first | rw [decide_eq_false g2] at hF | simp only [decide_eq_false g2] at hF
  refine stY hF rfl rfl rfl (g_fieldAddr ty_fo_26_1 hF rfl) rfl fun a hF => stY hF rfl rfl rfl (g_load ty_on_2 hF rfl (hM.row 0 rfl) (tenC_1 (by omega))) rfl fun a hF => stY hF rfl rfl rfl (g_lss hF rfl rfl) rfl fun a hF => st hF (g_pickF hF rfl rfl) rfl fun a hF => mv hF rfl rfl fun a hF => ?_
  by_cases g4 : (n : Int) < 1
  · first | rw [decide_eq_true g4] at hF | simp only [decide_eq_true g4] at hF
    refine stS hF rfl rfl rfl rfl rfl fun a hF => stS hF rfl rfl rfl rfl rfl fun a hF => stS hF rfl rfl rfl rfl rfl fun a hF => st hF (g_pickT hF rfl rfl) rfl fun a hF => nt <| c_T hF rfl <| sr <| ag hF rfl rfl fun a hF => nt <| wp_ret <| tR <| fin1 rfl hF.defers (res_tmp hF rfl) ⟨_, rfl, hM.below, ?_⟩
    show _ = _
    rfl
  first | rw [decide_eq_false g4] at hF | simp only [decide_eq_false g4] at hF
  refine stY hF rfl rfl rfl (g_fieldAddr ty_fo_26_1 hF rfl) rfl fun a hF => stY hF rfl rfl rfl (g_load ty_on_2 hF rfl (hM.row 0 rfl) (tenC_1 (by omega))) rfl fun a hF => stY hF rfl rfl rfl (g_gtr hF rfl rfl) rfl fun a hF => st hF (g_pickF hF rfl rfl) rfl fun a hF => nt <| c_cond hF rfl (fun h6 => ?_) (fun h6 => ?_)
  · refine sq ?_
    refine wp_region_lit <| ag hF rfl rfl fun a hF => nt <| wp_ret <| tR <| fin1 rfl hF.defers (res_tmp hF rfl) ⟨_, rfl, hM.below, ?_⟩
    show _ = _
    rfl
  refine wp_skip <| tN <| sq <| sr <| st hF (g_fieldAddr ty_fo_26_2 hF rfl) rfl fun a hF => st hF (g_load ty_on_2 hF rfl (hM.row 0 rfl) (tenC_2 (by omega))) rfl fun a hF => st hF (g_lss hF rfl rfl) rfl fun a hF => mv hF rfl rfl fun a hF => ?_
  by_cases g7 : (i : Int) < 0
  · first | rw [decide_eq_true g7] at hF | simp only [decide_eq_true g7] at hF
    refine stS hF rfl rfl rfl rfl rfl fun a hF => stS hF rfl rfl rfl rfl rfl fun a hF => stS hF rfl rfl rfl rfl rfl fun a hF => st hF (g_pickT hF rfl rfl) rfl fun a hF => mv hF rfl rfl fun a hF => stS hF rfl rfl rfl rfl rfl fun a hF => stS hF rfl rfl rfl rfl rfl fun a hF => stS hF rfl rfl rfl rfl rfl fun a hF => stS hF rfl rfl rfl rfl rfl fun a hF => stS hF rfl rfl rfl rfl rfl fun a hF => stS hF rfl rfl rfl rfl rfl fun a hF => stS hF rfl rfl rfl rfl rfl fun a hF => stS hF rfl rfl rfl rfl rfl fun a hF => st hF (g_pickT hF rfl rfl) rfl fun a hF => nt <| c_T hF rfl <| sr <| ag hF rfl rfl fun a hF => nt <| wp_ret <| tR <| fin1 rfl hF.defers (res_tmp hF rfl) ⟨_, rfl, hM.below, ?_⟩
    show _ = _
    rfl
  first | rw [decide_eq_false g7] at hF | simp only [decide_eq_false g7] at hF
  refine stY hF rfl rfl rfl (g_fieldAddr ty_fo_26_3 hF rfl) rfl fun a hF => stY hF rfl rfl rfl (g_load ty_on_2 hF rfl (hM.row 0 rfl) (tenC_3 (by omega))) rfl fun a hF => stY hF rfl rfl rfl (g_lss hF rfl rfl) rfl fun a hF => st hF (g_pickF hF rfl rfl) rfl fun a hF => mv hF rfl rfl fun a hF => ?_
  by_cases g9 : (o : Int) < 0
  · first | rw [decide_eq_true g9] at hF | simp only [decide_eq_true g9] at hF
    refine stS hF rfl rfl rfl rfl rfl fun a hF => stS hF rfl rfl rfl rfl rfl fun a hF => stS hF rfl rfl rfl rfl rfl fun a hF => stS hF rfl rfl rfl rfl rfl fun a hF => stS hF rfl rfl rfl rfl rfl fun a hF => stS hF rfl rfl rfl rfl rfl fun a hF => stS hF rfl rfl rfl rfl rfl fun a hF => stS hF rfl rfl rfl rfl rfl fun a hF => st hF (g_pickT hF rfl rfl) rfl fun a hF => nt <| c_T hF rfl <| sr <| ag hF rfl rfl fun a hF => nt <| wp_ret <| tR <| fin1 rfl hF.defers (res_tmp hF rfl) ⟨_, rfl, hM.below, ?_⟩
    show _ = _
    rfl
  first | rw [decide_eq_false g9] at hF | simp only [decide_eq_false g9] at hF
  exact absurd ⟨Decidable.not_not.1 (by assumption), by omega, by omega, by omega, by omega⟩ hA
theorem IsTensor_2 (p n i o b m : Nat) (g : Nat → Int) (w : World) (hb : Blk w b (numI m g)) (hm : m < 10000000) (hpP : primeP (p : Int)) (hn0 : 0 < n) (hn : n ≤ 6) :
    CallsR Try.prog 24 #[.agg (tenC (p : Int) (n : Int) (i : Int) (o : Int) (.slice (some ⟨b, 0, none⟩) m m))] w (fun res _ => res = .bool (decide (wl n i o ∧ m = n ^ (i + o) ∧ NumP p m g))) := by
  refine calls_fr [.agg (tenC (p : Int) (n : Int) (i : Int) (o : Int) (.slice (some ⟨b, 0, none⟩) m m))] Try.func24 rfl Try.ntmps24 rfl fun a hF => ?_;have hM : Mem w w [none] [(b, numI m g)] := MemX.startD w 1 _ (startD1 hb);change Fr 65 a [(0, .agg (tenC (p : Int) (n : Int) (i : Int) (o : Int) (.slice (some ⟨b, 0, none⟩) m m)))] at hF;have hp0 : 0 < p := by have h := hpP; unfold primeP at h; omega
  have hp2 : p < 100 := by have h := hpP; unfold primeP at h; omega
  refine sr <| stR hF (d_box 0 hM hF rfl) rfl ?_;rintro _ w' a ⟨b1, rfl, hM, -⟩ hF;change Mem w w' [some (b1, tenC (p : Int) (n : Int) (i : Int) (o : Int) (.slice (some ⟨b, 0, none⟩) m m))] [(b, numI m g)] at hM;refine ag hF rfl rfl fun a hF => nt <| sq <| sr <| st hF (g_fieldAddr ty_fo_26_0 hF rfl) rfl fun a hF => st hF (g_load ty_on_2 hF rfl (hM.row 0 rfl) (tenC_0 (by omega))) rfl fun a hF => stR hF (d_call Try.call36 hF (.cons rfl .nil) (isPrime_ok (p : Int) _)) rfl ?_;rintro _ w' a ⟨hx, rfl⟩ hF;have hM := hM.ext hx;refine st hF (g_notP hF rfl) rfl fun a hF => mv hF rfl rfl fun a hF => ?_
  by_cases g2 : ¬ (primeP (p : Int))
  · first | rw [decide_eq_true g2] at hF | simp only [decide_eq_true g2] at hF
    first | exact absurd hpP g2 | (exfalso; omega)
  first | rw [decide_eq_false g2] at hF | simp only [decide_eq_false g2] at hF
  refine stY hF rfl rfl rfl (g_fieldAddr ty_fo_26_1 hF rfl) rfl fun a hF => stY hF rfl rfl rfl (g_load ty_on_2 hF rfl (hM.row 0 rfl) (tenC_1 (by omega))) rfl fun a hF => stY hF rfl rfl rfl (g_lss hF rfl rfl) rfl fun a hF => st hF (g_pickF hF rfl rfl) rfl fun a hF => mv hF rfl rfl fun a hF => ?_
  by_cases g3 : ((n : Int) : Int) < 1
  · first | rw [decide_eq_true g3] at hF | simp only [decide_eq_true g3] at hF
    first | exact absurd hpP g3 | (exfalso; omega)
  first | rw [decide_eq_false g3] at hF | simp only [decide_eq_false g3] at hF
  refine stY hF rfl rfl rfl (g_fieldAddr ty_fo_26_1 hF rfl) rfl fun a hF => stY hF rfl rfl rfl (g_load ty_on_2 hF rfl (hM.row 0 rfl) (tenC_1 (by omega))) rfl fun a hF => stY hF rfl rfl rfl (g_gtr hF rfl rfl) rfl fun a hF => st hF (g_pickF hF rfl rfl) rfl fun a hF => nt <| c_cond hF rfl (fun h4 => ?_) (fun h4 => ?_)
  · exfalso; omega
  refine wp_skip <| tN <| sq <| sr <| st hF (g_fieldAddr ty_fo_26_2 hF rfl) rfl fun a hF => st hF (g_load ty_on_2 hF rfl (hM.row 0 rfl) (tenC_2 (by omega))) rfl fun a hF => st hF (g_lss hF rfl rfl) rfl fun a hF => mv hF rfl rfl fun a hF => ?_
  by_cases g5 : ((i : Int) : Int) < 0
  · first | rw [decide_eq_true g5] at hF | simp only [decide_eq_true g5] at hF
    first | exact absurd hpP g5 | (exfalso; omega)
  first | rw [decide_eq_false g5] at hF | simp only [decide_eq_false g5] at hF
  refine stY hF rfl rfl rfl (g_fieldAddr ty_fo_26_3 hF rfl) rfl fun a hF => stY hF rfl rfl rfl (g_load ty_on_2 hF rfl (hM.row 0 rfl) (tenC_3 (by omega))) rfl fun a hF => stY hF rfl rfl rfl (g_lss hF rfl rfl) rfl fun a hF => st hF (g_pickF hF rfl rfl) rfl fun a hF => mv hF rfl rfl fun a hF => ?_
  by_cases g6 : ((o : Int) : Int) < 0
  · first | rw [decide_eq_true g6] at hF | simp only [decide_eq_true g6] at hF
    first | exact absurd hpP g6 | (exfalso; omega)
  first | rw [decide_eq_false g6] at hF | simp only [decide_eq_false g6] at hF
  refine stY hF rfl rfl rfl (g_fieldAddr ty_fo_26_1 hF rfl) rfl fun a hF => stY hF rfl rfl rfl (g_load ty_on_2 hF rfl (hM.row 0 rfl) (tenC_1 (by omega))) rfl fun a hF => stY hF rfl rfl rfl (g_fieldAddr ty_fo_26_2 hF rfl) rfl fun a hF => stY hF rfl rfl rfl (g_load ty_on_2 hF rfl (hM.row 0 rfl) (tenC_2 (by omega))) rfl fun a hF => stY hF rfl rfl rfl (g_fieldAddr ty_fo_26_3 hF rfl) rfl fun a hF => stY hF rfl rfl rfl (g_load ty_on_2 hF rfl (hM.row 0 rfl) (tenC_3 (by omega))) rfl fun a hF => stYR hF rfl rfl rfl (d_call Try.call37 hF (.cons rfl (.cons rfl (.cons rfl .nil))) (isWithinLimits_ok (n) (i) (o) _ (by omega))) rfl ?_;rintro _ w' a ⟨hx, rfl⟩ hF;have hM := hM.ext hx;refine stY hF rfl rfl rfl (g_notP hF rfl) rfl fun a hF => st hF (g_pickF hF rfl rfl) rfl fun a hF => nt <| c_cond hF rfl (fun h7 => ?_) (fun h7 => ?_)
  · refine sq ?_
    refine wp_region_lit <| ag hF rfl rfl fun a hF => nt <| wp_ret <| tR <| fin1 rfl hF.defers (res_tmp hF rfl) ⟨_, rfl, hM.below, ?_⟩
    show _ = _
    exact bool_f (fun hq => absurd hq.1 (by assumption))
  have hwl := Decidable.not_not.1 h7;have hwl1 := hwl.1;have hwl2 := hwl.2.1;have hwl3 := hwl.2.2;refine wp_skip <| tN <| sq <| sq <| c_par 11 [] [.val (ptr b1 (0 + 4)), .val (.slice (some ⟨b, 0, none⟩) m m), .val (.int .i64 (m : Int)), .val (ptr b1 (0 + 1)), .val (.int .i64 (n : Int)), .val (ptr b1 (0 + 2)), .val (.int .i64 (i : Int)), .val (ptr b1 (0 + 3)), .val (.int .i64 (o : Int)), .val (.int .i64 (((i + o : Nat) : Int))), .val (.int .i64 ((((n) ^ (i + o) : Nat) : Int)))] hmix rfl hF rfl hM ⟨fun a w gG hF hS hd => by exact par_val hS rfl (g_fieldAddr ty_fo_26_4 hF rfl), fun a w gG hF hS hd => by have hF := hF.ext1 37 (hd 0 rfl rfl); have hM := hS.mem rfl; exact par_val hS rfl (g_load ty_on_22 hF rfl (hM.row 0 rfl) (tenC_4 (by omega))), fun a w gG hF hS hd => by have hF := hF.ext1 38 (hd 1 rfl rfl); exact par_val hS rfl (g_len ty_us_22 hF rfl), fun a w gG hF hS hd => by exact par_val hS rfl (g_fieldAddr ty_fo_26_1 hF rfl), fun a w gG hF hS hd => by have hF := hF.ext1 40 (hd 3 rfl rfl); have hM := hS.mem rfl; exact par_val hS rfl (g_load ty_on_2 hF rfl (hM.row 0 rfl) (tenC_1 (by omega))), fun a w gG hF hS hd => by exact par_val hS rfl (g_fieldAddr ty_fo_26_2 hF rfl), fun a w gG hF hS hd => by have hF := hF.ext1 42 (hd 5 rfl rfl); have hM := hS.mem rfl; exact par_val hS rfl (g_load ty_on_2 hF rfl (hM.row 0 rfl) (tenC_2 (by omega))), fun a w gG hF hS hd => by exact par_val hS rfl (g_fieldAddr ty_fo_26_3 hF rfl), fun a w gG hF hS hd => by have hF := hF.ext1 44 (hd 7 rfl rfl); have hM := hS.mem rfl; exact par_val hS rfl (g_load ty_on_2 hF rfl (hM.row 0 rfl) (tenC_3 (by omega))), fun a w gG hF hS hd => by have hF := hF.ext1 43 (hd 6 rfl rfl); have hF := hF.ext1 45 (hd 8 rfl rfl); exact par_val hS rfl (g_add hF rfl rfl (add_nat (i) (o) (by omega))), fun a w gG hF hS hd => by have hF := hF.ext1 41 (hd 4 rfl rfl); have hF := hF.ext1 46 (hd 9 rfl rfl); exact par_call (by repeat constructor) hS rfl (d_call Try.call38 hF (.cons rfl (.cons rfl .nil)) (countChoices_ok (n) (i + o) _ (by omega) (by omega))), trivial⟩ ?_;intro a w' L hF hS hq;have hF := hF.ext1 37 (hq 0 rfl rfl);have hF := hF.ext1 38 (hq 1 rfl rfl);have hF := hF.ext1 39 (hq 2 rfl rfl);have hF := hF.ext1 40 (hq 3 rfl rfl);have hF := hF.ext1 41 (hq 4 rfl rfl);have hF := hF.ext1 42 (hq 5 rfl rfl);have hF := hF.ext1 43 (hq 6 rfl rfl);have hF := hF.ext1 44 (hq 7 rfl rfl);have hF := hF.ext1 45 (hq 8 rfl rfl);have hF := hF.ext1 46 (hq 9 rfl rfl);have hF := hF.ext1 47 (hq 10 rfl rfl);have hM := hS.mem rfl;change wpList Try.prog _ _ [_] _ _;refine st hF (g_neq hF rfl rfl) rfl fun a hF => nt <| c_cond hF rfl (fun h8 => ?_) (fun h8 => ?_)
  · refine sq ?_
    refine wp_region_lit <| ag hF rfl rfl fun a hF => nt <| wp_ret <| tR <| fin1 rfl hF.defers (res_tmp hF rfl) ⟨_, rfl, hM.below, ?_⟩
    show _ = _
    exact bool_f (fun hq => by have := hq.2.1; omega)
  refine wp_skip <| tN <| sq <| sr <| st hF (g_fieldAddr ty_fo_26_4 hF rfl) rfl fun a hF => st hF (g_load ty_on_22 hF rfl (hM.row 0 rfl) (tenC_4 (by omega))) rfl fun a hF => st hF (g_len ty_us_22 hF rfl) rfl fun a hF => mv hF rfl rfl fun a hF => nt <| wp_block ?_;change Mem w _ [some (b1, tenC (p : Int) (n : Int) (i : Int) (o : Int) (.slice (some ⟨b, 0, none⟩) m m))] [(b, numI m g)] at hM;refine c_loop (fun (kk : Nat) a w' => kk ≤ m ∧ (∀ c, c < kk → 0 ≤ g c ∧ g c < (p : Int)) ∧ Fr 65 a [(1, ptr b1 (0)), (18, .bool (decide (6 < ((n : Int) : Int)))), (36, .bool (decide (¬ (wl (n) (i) (o))))), (48, .bool (decide (((m : Int) : Int) ≠ (((n) ^ (i + o) : Nat) : Int)))), (50, .slice (some ⟨b, 0, none⟩) m m), (51, .int .i64 (m : Int)), (52, .int .i64 (kk : Int))] ∧ Mem w w' [some (b1, tenC (p : Int) (n : Int) (i : Int) (o : Int) (.slice (some ⟨b, 0, none⟩) m m))] [(b, numI m g)]) (fun kk => m - kk) 0 ?_ ?_
  · refine ⟨by omega, fun c hc => absurd hc (by omega), hF.sub _ (by repeat' constructor), ?_⟩
    exact hM
  clear hF hM;rintro gk a w' ⟨hgk, hinv1, hF, hM⟩;refine sr <| st hF (g_lss hF rfl rfl) rfl fun a hF => nt <| sq <| c_cond hF rfl (fun h9 => ?_) (fun h9 => ?_)
  · refine wp_skip ?_
    refine tN <| sq <| wp_block <| sr <| st hF (g_indexSl (i := gk) ty_sl_22 hF rfl rfl rfl (by omega)) rfl fun a hF => st hF (g_load ty_on_2 hF rfl (hM.fz 0 rfl) (numI_get (k := gk) (by omega) (by omega))) rfl fun a hF => ag hF rfl rfl fun a hF => ns <| mv hF rfl rfl fun a hF => st hF (g_lss hF rfl rfl) rfl fun a hF => mv hF rfl rfl fun a hF => ?_
    by_cases g10 : (g (gk) : Int) < 0
    · first | rw [decide_eq_true g10] at hF | simp only [decide_eq_true g10] at hF
      refine stS hF rfl rfl rfl rfl rfl fun a hF => stS hF rfl rfl rfl rfl rfl fun a hF => stS hF rfl rfl rfl rfl rfl fun a hF => stS hF rfl rfl rfl rfl rfl fun a hF => st hF (g_pickT hF rfl rfl) rfl fun a hF => nt <| c_T hF rfl <| sr <| ag hF rfl rfl fun a hF => nt <| wp_ret <| iR <| tR <| tR <| iR <| tR <| fin1 rfl hF.defers (res_tmp hF rfl) ⟨_, rfl, hM.below, ?_⟩
      show _ = _
      exact bool_f (fun hq => by have := hq.2.2 gk (by omega); omega)
    first | rw [decide_eq_false g10] at hF | simp only [decide_eq_false g10] at hF
    refine stY hF rfl rfl rfl (g_move hF rfl) rfl fun a hF => stY hF rfl rfl rfl (g_fieldAddr ty_fo_26_0 hF rfl) rfl fun a hF => stY hF rfl rfl rfl (g_load ty_on_2 hF rfl (hM.row 0 rfl) (tenC_0 (by omega))) rfl fun a hF => stY hF rfl rfl rfl (g_geq hF rfl rfl) rfl fun a hF => st hF (g_pickF hF rfl rfl) rfl fun a hF => nt <| c_cond hF rfl (fun h12 => ?_) (fun h12 => ?_)
    · refine sq ?_
      refine wp_region_lit <| ag hF rfl rfl fun a hF => nt <| wp_ret <| iR <| tR <| tR <| iR <| tR <| fin1 rfl hF.defers (res_tmp hF rfl) ⟨_, rfl, hM.below, ?_⟩
      show _ = _
      exact bool_f (fun hq => by have := hq.2.2 gk (by omega); omega)
    refine wp_skip <| iN <| tN <| wp_region_lit <| st hF (g_add hF rfl rfl (add_nat (gk) (1) (by omega))) rfl fun a hF => mv hF rfl rfl fun a hF => nt <| ⟨gk + 1, ⟨by omega, allS hinv1 (by omega), hF.sub _ (by repeat' constructor), ?_⟩, by omega⟩;exact hM
  obtain rfl : m = gk := by omega
  refine wp_exit <| tX <| tX <| ib_same <| tN <| sr <| ag hF rfl rfl fun a hF => nt <| wp_ret <| fin1 rfl hF.defers (res_tmp hF rfl) ⟨_, rfl, hM.below, ?_⟩
  show _ = _
  exact bool_t ⟨Decidable.not_not.1 (by assumption), by omega, hinv1⟩
theorem l03Is_1 (p n i o : Int) (b m : Nat) (g : Nat → Int) (w : World) (hb : Blk w b (numI m g)) (hm : m < 10000000) (hA : ¬ tenH p n i o) :
    CallsR Try.prog 19 #[.agg (tenC p n i o (.slice (some ⟨b, 0, none⟩) m m))] w (fun res _ => res = .bool false) := by
  refine calls_fr [.agg (tenC p n i o (.slice (some ⟨b, 0, none⟩) m m))] Try.func19 rfl Try.ntmps19 rfl fun a hF => ?_;have hM : Mem w w [none] [(b, numI m g)] := MemX.startD w 1 _ (startD1 hb);change Fr 61 a [(0, .agg (tenC p n i o (.slice (some ⟨b, 0, none⟩) m m)))] at hF;refine sr <| stR hF (d_box 0 hM hF rfl) rfl ?_;rintro _ w' a ⟨b1, rfl, hM, -⟩ hF;change Mem w w' [some (b1, tenC p n i o (.slice (some ⟨b, 0, none⟩) m m))] [(b, numI m g)] at hM;refine ag hF rfl rfl fun a hF => nt <| sq <| sr <| st hF (g_fieldAddr ty_fo_26_0 hF rfl) rfl fun a hF => st hF (g_load ty_on_2 hF rfl (hM.row 0 rfl) (tenC_0 (by omega))) rfl fun a hF => stR hF (d_call Try.call33 hF (.cons rfl .nil) (l01Prime_ok (p) _)) rfl ?_;rintro _ w' a ⟨hx, rfl⟩ hF;have hM := hM.ext hx;refine st hF (g_notP hF rfl) rfl fun a hF => mv hF rfl rfl fun a hF => ?_
  by_cases g2 : ¬ (primeP (p))
  · first | rw [decide_eq_true g2] at hF | simp only [decide_eq_true g2] at hF
    refine stS hF rfl rfl rfl rfl rfl fun a hF => stS hF rfl rfl rfl rfl rfl fun a hF => stS hF rfl rfl rfl rfl rfl fun a hF => stS hF rfl rfl rfl rfl rfl fun a hF => st hF (g_pickT hF rfl rfl) rfl fun a hF => mv hF rfl rfl fun a hF => stS hF rfl rfl rfl rfl rfl fun a hF => stS hF rfl rfl rfl rfl rfl fun a hF => stS hF rfl rfl rfl rfl rfl fun a hF => stS hF rfl rfl rfl rfl rfl fun a hF => st hF (g_pickT hF rfl rfl) rfl fun a hF => mv hF rfl rfl fun a hF => stS hF rfl rfl rfl rfl rfl fun a hF => stS hF rfl rfl rfl rfl rfl fun a hF => stS hF rfl rfl rfl rfl rfl fun a hF => stS hF rfl rfl rfl rfl rfl fun a hF => st hF (g_pickT hF rfl rfl) rfl fun a hF => nt <| c_T hF rfl <| sr <| ag hF rfl rfl fun a hF => nt <| wp_ret <| tR <| fin1 rfl hF.defers (res_tmp hF rfl) ⟨_, rfl, hM.below, ?_⟩
    show _ = _
    rfl
  first | rw [decide_eq_false g2] at hF | simp only [decide_eq_false g2] at hF
  refine stY hF rfl rfl rfl (g_fieldAddr ty_fo_26_1 hF rfl) rfl fun a hF => stY hF rfl rfl rfl (g_load ty_on_2 hF rfl (hM.row 0 rfl) (tenC_1 (by omega))) rfl fun a hF => stYR hF rfl rfl rfl (d_call Try.call34 hF (.cons rfl (.cons rfl (.cons rfl .nil))) (l01In_ok (n) (1) (6) _)) rfl ?_;rintro _ w' a ⟨hx, rfl⟩ hF;have hM := hM.ext hx;refine stY hF rfl rfl rfl (g_notP hF rfl) rfl fun a hF => st hF (g_pickF hF rfl rfl) rfl fun a hF => mv hF rfl rfl fun a hF => ?_
  by_cases g4 : ¬ ((1 : Int) ≤ n ∧ n ≤ 6)
  · first | rw [decide_eq_true g4] at hF | simp only [decide_eq_true g4] at hF
    refine stS hF rfl rfl rfl rfl rfl fun a hF => stS hF rfl rfl rfl rfl rfl fun a hF => stS hF rfl rfl rfl rfl rfl fun a hF => stS hF rfl rfl rfl rfl rfl fun a hF => st hF (g_pickT hF rfl rfl) rfl fun a hF => mv hF rfl rfl fun a hF => stS hF rfl rfl rfl rfl rfl fun a hF => stS hF rfl rfl rfl rfl rfl fun a hF => stS hF rfl rfl rfl rfl rfl fun a hF => stS hF rfl rfl rfl rfl rfl fun a hF => st hF (g_pickT hF rfl rfl) rfl fun a hF => nt <| c_T hF rfl <| sr <| ag hF rfl rfl fun a hF => nt <| wp_ret <| tR <| fin1 rfl hF.defers (res_tmp hF rfl) ⟨_, rfl, hM.below, ?_⟩
    show _ = _
    rfl
  first | rw [decide_eq_false g4] at hF | simp only [decide_eq_false g4] at hF
  refine stY hF rfl rfl rfl (g_fieldAddr ty_fo_26_2 hF rfl) rfl fun a hF => stY hF rfl rfl rfl (g_load ty_on_2 hF rfl (hM.row 0 rfl) (tenC_2 (by omega))) rfl fun a hF => stYR hF rfl rfl rfl (d_call Try.call34 hF (.cons rfl (.cons rfl (.cons rfl .nil))) (l01In_ok (i) (0) (8) _)) rfl ?_;rintro _ w' a ⟨hx, rfl⟩ hF;have hM := hM.ext hx;refine stY hF rfl rfl rfl (g_notP hF rfl) rfl fun a hF => st hF (g_pickF hF rfl rfl) rfl fun a hF => mv hF rfl rfl fun a hF => ?_
  by_cases g6 : ¬ ((0 : Int) ≤ i ∧ i ≤ 8)
  · first | rw [decide_eq_true g6] at hF | simp only [decide_eq_true g6] at hF
    refine stS hF rfl rfl rfl rfl rfl fun a hF => stS hF rfl rfl rfl rfl rfl fun a hF => stS hF rfl rfl rfl rfl rfl fun a hF => stS hF rfl rfl rfl rfl rfl fun a hF => st hF (g_pickT hF rfl rfl) rfl fun a hF => nt <| c_T hF rfl <| sr <| ag hF rfl rfl fun a hF => nt <| wp_ret <| tR <| fin1 rfl hF.defers (res_tmp hF rfl) ⟨_, rfl, hM.below, ?_⟩
    show _ = _
    rfl
  first | rw [decide_eq_false g6] at hF | simp only [decide_eq_false g6] at hF
  refine stY hF rfl rfl rfl (g_fieldAddr ty_fo_26_3 hF rfl) rfl fun a hF => stY hF rfl rfl rfl (g_load ty_on_2 hF rfl (hM.row 0 rfl) (tenC_3 (by omega))) rfl fun a hF => stYR hF rfl rfl rfl (d_call Try.call34 hF (.cons rfl (.cons rfl (.cons rfl .nil))) (l01In_ok (o) (0) (8) _)) rfl ?_;rintro _ w' a ⟨hx, rfl⟩ hF;have hM := hM.ext hx;refine stY hF rfl rfl rfl (g_notP hF rfl) rfl fun a hF => st hF (g_pickF hF rfl rfl) rfl fun a hF => nt <| c_cond hF rfl (fun h8 => ?_) (fun h8 => ?_)
  · refine sq ?_
    refine wp_region_lit <| ag hF rfl rfl fun a hF => nt <| wp_ret <| tR <| fin1 rfl hF.defers (res_tmp hF rfl) ⟨_, rfl, hM.below, ?_⟩
    show _ = _
    rfl
  exact absurd ⟨Decidable.not_not.1 (by assumption), by omega, by omega, by omega⟩ hA
theorem l03Is_2 (p n i o b m : Nat) (g : Nat → Int) (w : World) (hb : Blk w b (numI m g)) (hm : m < 10000000) (hpP : primeP (p : Int)) (hn0 : 0 < n) (hn : n ≤ 6) (hi : i ≤ 8) (ho : o ≤ 8) :
    CallsR Try.prog 19 #[.agg (tenC (p : Int) (n : Int) (i : Int) (o : Int) (.slice (some ⟨b, 0, none⟩) m m))] w (fun res _ => res = .bool (decide (n ^ (i + o) ≤ 1296 ∧ m = n ^ (i + o) ∧ NumP p m g))) := by
  refine calls_fr [.agg (tenC (p : Int) (n : Int) (i : Int) (o : Int) (.slice (some ⟨b, 0, none⟩) m m))] Try.func19 rfl Try.ntmps19 rfl fun a hF => ?_;have hM : Mem w w [none] [(b, numI m g)] := MemX.startD w 1 _ (startD1 hb);change Fr 61 a [(0, .agg (tenC (p : Int) (n : Int) (i : Int) (o : Int) (.slice (some ⟨b, 0, none⟩) m m)))] at hF;have hpw := pwr_iff (n := n) (k := i + o) hn0;have hpe : n ^ (i + o) ≤ 1296 → pwr n (i + o) 1 = n ^ (i + o) := pwr_le hn0;have hp0 : 0 < p := by have h := hpP; unfold primeP at h; omega
  have hp2 : p < 100 := by have h := hpP; unfold primeP at h; omega
  refine sr <| stR hF (d_box 0 hM hF rfl) rfl ?_;rintro _ w' a ⟨b1, rfl, hM, -⟩ hF;change Mem w w' [some (b1, tenC (p : Int) (n : Int) (i : Int) (o : Int) (.slice (some ⟨b, 0, none⟩) m m))] [(b, numI m g)] at hM;refine ag hF rfl rfl fun a hF => nt <| sq <| sr <| st hF (g_fieldAddr ty_fo_26_0 hF rfl) rfl fun a hF => st hF (g_load ty_on_2 hF rfl (hM.row 0 rfl) (tenC_0 (by omega))) rfl fun a hF => stR hF (d_call Try.call33 hF (.cons rfl .nil) (l01Prime_ok (p : Int) _)) rfl ?_;rintro _ w' a ⟨hx, rfl⟩ hF;have hM := hM.ext hx;refine st hF (g_notP hF rfl) rfl fun a hF => mv hF rfl rfl fun a hF => ?_
  by_cases g2 : ¬ (primeP (p : Int))
  · first | rw [decide_eq_true g2] at hF | simp only [decide_eq_true g2] at hF
    first | exact absurd hpP g2 | (exfalso; omega)
  first | rw [decide_eq_false g2] at hF | simp only [decide_eq_false g2] at hF
  refine stY hF rfl rfl rfl (g_fieldAddr ty_fo_26_1 hF rfl) rfl fun a hF => stY hF rfl rfl rfl (g_load ty_on_2 hF rfl (hM.row 0 rfl) (tenC_1 (by omega))) rfl fun a hF => stYR hF rfl rfl rfl (d_call Try.call34 hF (.cons rfl (.cons rfl (.cons rfl .nil))) (l01In_ok (n : Int) (1) (6) _)) rfl ?_;rintro _ w' a ⟨hx, rfl⟩ hF;have hM := hM.ext hx;refine stY hF rfl rfl rfl (g_notP hF rfl) rfl fun a hF => st hF (g_pickF hF rfl rfl) rfl fun a hF => mv hF rfl rfl fun a hF => ?_
  by_cases g3 : ¬ ((1 : Int) ≤ (n : Int) ∧ (n : Int) ≤ 6)
  · first | rw [decide_eq_true g3] at hF | simp only [decide_eq_true g3] at hF
    first | exact absurd hpP g3 | (exfalso; omega)
  first | rw [decide_eq_false g3] at hF | simp only [decide_eq_false g3] at hF
  refine stY hF rfl rfl rfl (g_fieldAddr ty_fo_26_2 hF rfl) rfl fun a hF => stY hF rfl rfl rfl (g_load ty_on_2 hF rfl (hM.row 0 rfl) (tenC_2 (by omega))) rfl fun a hF => stYR hF rfl rfl rfl (d_call Try.call34 hF (.cons rfl (.cons rfl (.cons rfl .nil))) (l01In_ok (i : Int) (0) (8) _)) rfl ?_;rintro _ w' a ⟨hx, rfl⟩ hF;have hM := hM.ext hx;refine stY hF rfl rfl rfl (g_notP hF rfl) rfl fun a hF => st hF (g_pickF hF rfl rfl) rfl fun a hF => mv hF rfl rfl fun a hF => ?_
  by_cases g4 : ¬ ((0 : Int) ≤ (i : Int) ∧ (i : Int) ≤ 8)
  · first | rw [decide_eq_true g4] at hF | simp only [decide_eq_true g4] at hF
    first | exact absurd hpP g4 | (exfalso; omega)
  first | rw [decide_eq_false g4] at hF | simp only [decide_eq_false g4] at hF
  refine stY hF rfl rfl rfl (g_fieldAddr ty_fo_26_3 hF rfl) rfl fun a hF => stY hF rfl rfl rfl (g_load ty_on_2 hF rfl (hM.row 0 rfl) (tenC_3 (by omega))) rfl fun a hF => stYR hF rfl rfl rfl (d_call Try.call34 hF (.cons rfl (.cons rfl (.cons rfl .nil))) (l01In_ok (o : Int) (0) (8) _)) rfl ?_;rintro _ w' a ⟨hx, rfl⟩ hF;have hM := hM.ext hx;refine stY hF rfl rfl rfl (g_notP hF rfl) rfl fun a hF => st hF (g_pickF hF rfl rfl) rfl fun a hF => nt <| c_cond hF rfl (fun h5 => ?_) (fun h5 => ?_)
  · exfalso; omega
  refine wp_skip <| tN <| sr <| st hF (g_fieldAddr ty_fo_26_1 hF rfl) rfl fun a hF => st hF (g_load ty_on_2 hF rfl (hM.row 0 rfl) (tenC_1 (by omega))) rfl fun a hF => st hF (g_fieldAddr ty_fo_26_2 hF rfl) rfl fun a hF => st hF (g_load ty_on_2 hF rfl (hM.row 0 rfl) (tenC_2 (by omega))) rfl fun a hF => st hF (g_fieldAddr ty_fo_26_3 hF rfl) rfl fun a hF => st hF (g_load ty_on_2 hF rfl (hM.row 0 rfl) (tenC_3 (by omega))) rfl fun a hF => st hF (g_add hF rfl rfl (add_nat (i) (o) (by omega))) rfl fun a hF => stR hF (d_call Try.call35 hF (.cons rfl (.cons rfl .nil)) (l03Power_ok (n) (i + o) _ (by omega) (by omega) (by omega))) rfl ?_;rintro _ w' a ⟨hx, rfl⟩ hF;have hM := hM.ext hx;refine ag hF rfl rfl fun a hF => nt <| sq <| sr <| mv hF rfl rfl fun a hF => st hF (g_gtr hF rfl rfl) rfl fun a hF => mv hF rfl rfl fun a hF => ?_
  by_cases g6 : 1296 < (((pwr (n) (i + o) 1 : Nat) : Int) : Int)
  · first | rw [decide_eq_true g6] at hF | simp only [decide_eq_true g6] at hF
    refine stS hF rfl rfl rfl rfl rfl fun a hF => stS hF rfl rfl rfl rfl rfl fun a hF => stS hF rfl rfl rfl rfl rfl fun a hF => stS hF rfl rfl rfl rfl rfl fun a hF => stS hF rfl rfl rfl rfl rfl fun a hF => st hF (g_pickT hF rfl rfl) rfl fun a hF => nt <| c_T hF rfl <| sr <| ag hF rfl rfl fun a hF => nt <| wp_ret <| tR <| fin1 rfl hF.defers (res_tmp hF rfl) ⟨_, rfl, hM.below, ?_⟩
    show _ = _
    exact bool_f (fun hq => by have h1 := hq.1; omega)
  first | rw [decide_eq_false g6] at hF | simp only [decide_eq_false g6] at hF
  refine stY hF rfl rfl rfl (g_fieldAddr ty_fo_26_4 hF rfl) rfl fun a hF => stY hF rfl rfl rfl (g_load ty_on_22 hF rfl (hM.row 0 rfl) (tenC_4 (by omega))) rfl fun a hF => stY hF rfl rfl rfl (g_len ty_us_22 hF rfl) rfl fun a hF => stY hF rfl rfl rfl (g_move hF rfl) rfl fun a hF => stY hF rfl rfl rfl (g_neq hF rfl rfl) rfl fun a hF => st hF (g_pickF hF rfl rfl) rfl fun a hF => nt <| c_cond hF rfl (fun h8 => ?_) (fun h8 => ?_)
  · refine sq ?_
    refine wp_region_lit <| ag hF rfl rfl fun a hF => nt <| wp_ret <| tR <| fin1 rfl hF.defers (res_tmp hF rfl) ⟨_, rfl, hM.below, ?_⟩
    show _ = _
    exact bool_f (fun hq => by have h1 := hq.1; have h2 := hq.2.1; omega)
  refine wp_skip <| tN <| sq <| sr <| ag hF rfl rfl fun a hF => nt <| wp_block ?_;change Mem w _ [some (b1, tenC (p : Int) (n : Int) (i : Int) (o : Int) (.slice (some ⟨b, 0, none⟩) m m))] [(b, numI m g)] at hM;refine c_loop (fun (kk : Nat) a w' => kk ≤ m ∧ (∀ c, c < kk → 0 ≤ g c ∧ g c < (p : Int)) ∧ Fr 61 a [(1, ptr b1 (0)), (26, .bool (decide (¬ ((0 : Int) ≤ (o : Int) ∧ (o : Int) ≤ 8)))), (43, .bool (decide (((m : Int) : Int) ≠ ((pwr (n) (i + o) 1 : Nat) : Int)))), (4, .int .i64 (kk : Int))] ∧ Mem w w' [some (b1, tenC (p : Int) (n : Int) (i : Int) (o : Int) (.slice (some ⟨b, 0, none⟩) m m))] [(b, numI m g)]) (fun kk => m - kk) 0 ?_ ?_
  · refine ⟨by omega, fun c hc => absurd hc (by omega), hF.sub _ (by repeat' constructor), ?_⟩
    exact hM
  clear hF hM;rintro gk a w' ⟨hgk, hinv1, hF, hM⟩;refine sq <| sr <| mv hF rfl rfl fun a hF => st hF (g_fieldAddr ty_fo_26_4 hF rfl) rfl fun a hF => st hF (g_load ty_on_22 hF rfl (hM.row 0 rfl) (tenC_4 (by omega))) rfl fun a hF => st hF (g_len ty_us_22 hF rfl) rfl fun a hF => st hF (g_lss hF rfl rfl) rfl fun a hF => nt <| c_cond hF rfl (fun h9 => ?_) (fun h9 => ?_)
  · refine wp_skip ?_
    refine tN <| sq <| wp_block <| sq <| c_par 8 [] [.val (ptr b1 (0 + 4)), .val (.slice (some ⟨b, 0, none⟩) m m), .val (.int .i64 (gk : Int)), .val (ptr b (0 + (gk) * 1)), .val (.int .i64 (g (gk))), .val (ptr b1 (0 + 0)), .val (.int .i64 (p : Int)), .val (.int .i64 ((p : Int) - 1))] hmix rfl hF rfl hM ⟨fun a w gG hF hS hd => by exact par_val hS rfl (g_fieldAddr ty_fo_26_4 hF rfl), fun a w gG hF hS hd => by have hF := hF.ext1 51 (hd 0 rfl rfl); have hM := hS.mem rfl; exact par_val hS rfl (g_load ty_on_22 hF rfl (hM.row 0 rfl) (tenC_4 (by omega))), fun a w gG hF hS hd => by exact pmv hS rfl hF rfl, fun a w gG hF hS hd => by have hF := hF.ext1 52 (hd 1 rfl rfl); have hF := hF.ext1 53 (hd 2 rfl rfl); exact par_val hS rfl (g_indexSl (i := gk) ty_sl_22 hF rfl rfl rfl (by omega)), fun a w gG hF hS hd => by have hF := hF.ext1 54 (hd 3 rfl rfl); have hM := hS.mem rfl; exact par_val hS rfl (g_load ty_on_2 hF rfl (hM.fz 0 rfl) (numI_get (k := gk) (by omega) (by omega))), fun a w gG hF hS hd => by exact par_val hS rfl (g_fieldAddr ty_fo_26_0 hF rfl), fun a w gG hF hS hd => by have hF := hF.ext1 56 (hd 5 rfl rfl); have hM := hS.mem rfl; exact par_val hS rfl (g_load ty_on_2 hF rfl (hM.row 0 rfl) (tenC_0 (by omega))), fun a w gG hF hS hd => by have hF := hF.ext1 57 (hd 6 rfl rfl); exact par_val hS rfl (g_sub hF rfl rfl (wrap_i64 (by omega) (by omega))), trivial⟩ ?_;intro a w' L hF hS hq;have hF := hF.ext1 51 (hq 0 rfl rfl);have hF := hF.ext1 52 (hq 1 rfl rfl);have hF := hF.ext1 53 (hq 2 rfl rfl);have hF := hF.ext1 54 (hq 3 rfl rfl);have hF := hF.ext1 55 (hq 4 rfl rfl);have hF := hF.ext1 56 (hq 5 rfl rfl);have hF := hF.ext1 57 (hq 6 rfl rfl);have hF := hF.ext1 58 (hq 7 rfl rfl);have hM := hS.mem rfl;change wpList Try.prog _ _ [_, _] _ _;refine stR hF (d_call Try.call34 hF (.cons rfl (.cons rfl (.cons rfl .nil))) (l01In_ok (g (gk)) (0) ((p : Int) - 1) _)) rfl ?_;rintro _ w' a ⟨hx, rfl⟩ hF;have hM := hM.ext hx;refine st hF (g_notP hF rfl) rfl fun a hF => nt <| c_cond hF rfl (fun h10 => ?_) (fun h10 => ?_)
    · refine sq ?_
      refine wp_region_lit <| ag hF rfl rfl fun a hF => nt <| wp_ret <| iR <| tR <| tR <| iR <| tR <| fin1 rfl hF.defers (res_tmp hF rfl) ⟨_, rfl, hM.below, ?_⟩
      show _ = _
      exact bool_f (fun hq => by have := hq.2.2 gk (by omega); omega)
    refine wp_skip <| iN <| tN <| wp_region_lit <| mv hF rfl rfl fun a hF => st hF (g_add hF rfl rfl (add_nat (gk) (1) (by omega))) rfl fun a hF => ag hF rfl rfl fun a hF => nt <| ⟨gk + 1, ⟨by omega, allS hinv1 (by omega), hF.sub _ (by repeat' constructor), ?_⟩, by omega⟩;exact hM
  obtain rfl : m = gk := by omega
  refine wp_exit <| tX <| tX <| ib_same <| tN <| sr <| ag hF rfl rfl fun a hF => nt <| wp_ret <| fin1 rfl hF.defers (res_tmp hF rfl) ⟨_, rfl, hM.below, ?_⟩
  show _ = _
  exact bool_t ⟨by omega, by omega, hinv1⟩
theorem IsTensor_ok (p n i o : Int) (b m : Nat) (g : Nat → Int) (w : World) (hb : Blk w b (numI m g)) (hm : m < 10000000) : CallsV Try.prog 24 #[.agg (tenC p n i o (.slice (some ⟨b, 0, none⟩) m m))] w (.bool (decide (TenP p n i o m g))) := by
  by_cases hA : primeP p ∧ 1 ≤ n ∧ n ≤ 6 ∧ 0 ≤ i ∧ 0 ≤ o
  · obtain ⟨hpP, h1, h2, h3, h4⟩ := hA
    obtain ⟨p', rfl⟩ : ∃ q : Nat, p = q := ⟨p.toNat, by have := primeP_pos hpP; omega⟩;obtain ⟨n', rfl⟩ : ∃ q : Nat, n = q := ⟨n.toNat, by omega⟩;obtain ⟨i', rfl⟩ : ∃ q : Nat, i = q := ⟨i.toNat, by omega⟩;obtain ⟨o', rfl⟩ : ∃ q : Nat, o = q := ⟨o.toNat, by omega⟩;refine CallsR.val (IsTensor_2 p' n' i' o' b m g w hb hm hpP (by omega) (by omega)) (congrArg Value.bool (decide_eq_decide.2 ?_))
    first | unfold TenP tenH NumP wl | unfold TenP tenH NumP
    simp only [Int.toNat_natCast]
    constructor
    · intro h; first | exact ⟨⟨hpP, ⟨by omega, by omega⟩, ⟨by omega, by omega⟩, ⟨by omega, by omega⟩⟩, h.1.2.2, h.2.1, h.2.2⟩ | exact ⟨⟨hpP, ⟨by omega, by omega⟩, ⟨by omega, by omega⟩, ⟨by omega, by omega⟩⟩, h.1, h.2.1, h.2.2⟩
    · intro h; first | exact ⟨⟨by have := h.1.2.2.1; omega, by have := h.1.2.2.2; omega, h.2.1⟩, h.2.2.1, h.2.2.2⟩ | exact ⟨h.2.1, h.2.2.1, h.2.2.2⟩
  · refine CallsR.val (IsTensor_1 p n i o b m g w hb hm hA) (congrArg Value.bool (decide_eq_false (fun h => hA ?_)).symm)
    exact ⟨h.1.1, h.1.2.1.1, h.1.2.1.2, h.1.2.2.1.1, h.1.2.2.2.1⟩
theorem l03Is_ok (p n i o : Int) (b m : Nat) (g : Nat → Int) (w : World) (hb : Blk w b (numI m g)) (hm : m < 10000000) : CallsV Try.prog 19 #[.agg (tenC p n i o (.slice (some ⟨b, 0, none⟩) m m))] w (.bool (decide (TenP p n i o m g))) := by
  by_cases hA : tenH p n i o
  · obtain ⟨hpP, ⟨h1, h2⟩, ⟨h3, h4⟩, h5, h6⟩ := hA
    obtain ⟨p', rfl⟩ : ∃ q : Nat, p = q := ⟨p.toNat, by have := primeP_pos hpP; omega⟩;obtain ⟨n', rfl⟩ : ∃ q : Nat, n = q := ⟨n.toNat, by omega⟩;obtain ⟨i', rfl⟩ : ∃ q : Nat, i = q := ⟨i.toNat, by omega⟩;obtain ⟨o', rfl⟩ : ∃ q : Nat, o = q := ⟨o.toNat, by omega⟩;refine CallsR.val (l03Is_2 p' n' i' o' b m g w hb hm hpP (by omega) (by omega) (by omega) (by omega)) (congrArg Value.bool (decide_eq_decide.2 ?_))
    first | unfold TenP tenH NumP wl | unfold TenP tenH NumP
    simp only [Int.toNat_natCast]
    constructor
    · intro h; first | exact ⟨⟨hpP, ⟨by omega, by omega⟩, ⟨by omega, by omega⟩, ⟨by omega, by omega⟩⟩, h.1.2.2, h.2.1, h.2.2⟩ | exact ⟨⟨hpP, ⟨by omega, by omega⟩, ⟨by omega, by omega⟩, ⟨by omega, by omega⟩⟩, h.1, h.2.1, h.2.2⟩
    · intro h; first | exact ⟨⟨by have := h.1.2.2.1; omega, by have := h.1.2.2.2; omega, h.2.1⟩, h.2.2.1, h.2.2.2⟩ | exact ⟨h.2.1, h.2.2.1, h.2.2.2⟩
  · refine CallsR.val (l03Is_1 p n i o b m g w hb hm (fun h => hA h)) (congrArg Value.bool (decide_eq_false (fun h => hA ?_)).symm)
    exact h.1
end Go.Proofs.Ytlpccepifehilaa

namespace Go.Proofs.Ytlpccepifehilaa
open Go Go.RowKit Go.Sw Go.Ech
open Classical
theorem TenP.nat {p n i o : Int} {m : Nat} {g : Nat → Int} (h : TenP p n i o m g) : ∃ (p' n' i' o' : Nat) (f : Nat → Nat), p = p' ∧ n = n' ∧ i = i' ∧ o = o' ∧ primeP (p' : Int) ∧ 0 < n' ∧ n' ≤ 6 ∧ wl n' i' o' ∧ m = n' ^ (i' + o') ∧ (∀ c, f c < p') ∧ ∀ c, c < m → g c = (f c : Int) := by
  obtain ⟨⟨hp, ⟨h1, h2⟩, ⟨h3, h4⟩, h5, h6⟩, h7, h8, h9⟩ := h;have hp0 := primeP_pos hp;have ep : (p.toNat : Int) = p := by omega
  refine ⟨p.toNat, n.toNat, i.toNat, o.toNat, fun c => if c < m then (g c).toNat else 0, by omega, by omega, by omega, by omega, by rw [ep]; exact hp, by omega, by omega, ⟨by omega, by omega, h7⟩, h8, fun c => ?_, fun c hc => ?_⟩
  · dsimp only; split
    · rename_i hc; have := h9 c hc; omega
    · omega
  · dsimp only; rw [if_pos hc]; have := h9 c hc; omega
theorem TenP.of_nat {p n i o m : Nat} {f : Nat → Nat} (hpP : primeP (p : Int)) (hn0 : 0 < n) (hn : n ≤ 6) (hw : wl n i o) (hm : m = n ^ (i + o)) (hf : ∀ c, f c < p) : TenP (p : Int) (n : Int) (i : Int) (o : Int) m (fun c => (f c : Int)) :=
  ⟨⟨hpP, ⟨by omega, by omega⟩, ⟨by omega, by have := hw.1; omega⟩, ⟨by omega, by have := hw.2.1; omega⟩⟩, by simp only [Int.toNat_natCast]; exact hw.2.2, by simp only [Int.toNat_natCast]; exact hm, fun c _ => ⟨by show (0 : Int) ≤ (f c : Int); omega, by have := hf c; show (f c : Int) < (p : Int); omega⟩⟩













def adF (p k : Nat) (f h : Nat → Nat) (c : Nat) : Nat := (f c + k * h c) % p



end Go.Proofs.Ytlpccepifehilaa
