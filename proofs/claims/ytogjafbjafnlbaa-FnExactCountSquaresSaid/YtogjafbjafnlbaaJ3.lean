/- What functions of the program return, as walks over their operations; no statement of the seat is proved here. -/
import Derived.Test.YtogjafbjafnlbaaJ1
import Derived.Test.YtogjafbjafnlbaaSw10
set_option linter.unusedVariables false
set_option linter.unusedSimpArgs false
namespace Go.Proofs.Ytogjafbjafnlbaa
open Go Go.RowKit Go.Sw Go.Ech
open Classical
theorem ty_ze_29 : zeroP Try.prog 29 = some (.agg (grpC 0 (fun _ _ => 0))) := by kernel_rfl
theorem ty_fo_25_0 : fieldOff Try.prog 25 0 = some 0 := by kernel_rfl
theorem ty_fo_25_1 : fieldOff Try.prog 25 1 = some 1 := by kernel_rfl
theorem ty_sz_29 : sizeP Try.prog 29 = some 37 := by kernel_rfl
theorem IsGroupI_out (n : Int) (M : Nat → Nat → Nat) (w : World) (ho : n < 1 ∨ 6 < n) :
    CallsR Try.prog 30 #[.agg (grpC n M)] w (fun res _ => res = .bool false) := by
  refine calls_fr [.agg (grpC n M)] Try.func30 rfl Try.ntmps30 rfl fun a hF => ?_;have hM : Mem w w [none] [] := MemX.start w 1;change Fr 26 a [(0, .agg (grpC n M))] at hF;refine sr <| stR hF (d_box 0 hM hF rfl) rfl ?_;rintro _ w' a ⟨b1, rfl, hM, -⟩ hF;change Mem w w' [some (b1, grpC n M)] [] at hM;refine ag hF rfl rfl fun a hF => nt <| sq <| sr <| st hF (g_fieldAddr ty_fo_29_0 hF rfl) rfl fun a hF => st hF (g_load ty_on_2 hF rfl (hM.row 0 rfl) (grpC_n (by omega))) rfl fun a hF => st hF (g_lss hF rfl rfl) rfl fun a hF => mv hF rfl rfl fun a hF => ?_
  by_cases g2 : (n : Int) < 1
  · first | rw [decide_eq_true g2] at hF | simp only [decide_eq_true g2] at hF
    refine stS hF rfl rfl rfl rfl rfl fun a hF => stS hF rfl rfl rfl rfl rfl fun a hF => stS hF rfl rfl rfl rfl rfl fun a hF => st hF (g_pickT hF rfl rfl) rfl fun a hF => mv hF rfl rfl fun a hF => stS hF rfl rfl rfl rfl rfl fun a hF => stS hF rfl rfl rfl rfl rfl fun a hF => stS hF rfl rfl rfl rfl rfl fun a hF => st hF (g_pickT hF rfl rfl) rfl fun a hF => nt <| c_T hF rfl <| sr <| ag hF rfl rfl fun a hF => nt <| wp_ret <| tR <| fin1 rfl hF.defers (res_tmp hF rfl) ⟨_, rfl, hM.below, ?_⟩
    show _ = _
    rfl
  first | rw [decide_eq_false g2] at hF | simp only [decide_eq_false g2] at hF
  refine stY hF rfl rfl rfl (g_fieldAddr ty_fo_29_0 hF rfl) rfl fun a hF => stY hF rfl rfl rfl (g_load ty_on_2 hF rfl (hM.row 0 rfl) (grpC_n (by omega))) rfl fun a hF => stY hF rfl rfl rfl (g_gtr hF rfl rfl) rfl fun a hF => st hF (g_pickF hF rfl rfl) rfl fun a hF => mv hF rfl rfl fun a hF => ?_
  by_cases g4 : 6 < (n : Int)
  · first | rw [decide_eq_true g4] at hF | simp only [decide_eq_true g4] at hF
    refine stS hF rfl rfl rfl rfl rfl fun a hF => stS hF rfl rfl rfl rfl rfl fun a hF => stS hF rfl rfl rfl rfl rfl fun a hF => st hF (g_pickT hF rfl rfl) rfl fun a hF => nt <| c_T hF rfl <| sr <| ag hF rfl rfl fun a hF => nt <| wp_ret <| tR <| fin1 rfl hF.defers (res_tmp hF rfl) ⟨_, rfl, hM.below, ?_⟩
    show _ = _
    rfl
  first | rw [decide_eq_false g4] at hF | simp only [decide_eq_false g4] at hF
  exfalso; omega
theorem l06Is_out (n : Int) (M : Nat → Nat → Nat) (w : World) (ho : n < 1 ∨ 6 < n) :
    CallsR Try.prog 27 #[.agg (grpC n M)] w (fun res _ => res = .bool false) := by
  refine calls_fr [.agg (grpC n M)] Try.func27 rfl Try.ntmps27 rfl fun a hF => ?_;have hM : Mem w w [none] [] := MemX.start w 1;change Fr 126 a [(0, .agg (grpC n M))] at hF;refine sr <| stR hF (d_box 0 hM hF rfl) rfl ?_;rintro _ w' a ⟨b1, rfl, hM, -⟩ hF;change Mem w w' [some (b1, grpC n M)] [] at hM;refine ag hF rfl rfl fun a hF => ns <| st hF (g_fieldAddr ty_fo_29_0 hF rfl) rfl fun a hF => st hF (g_load ty_on_2 hF rfl (hM.row 0 rfl) (grpC_n (by omega))) rfl fun a hF => ag hF rfl rfl fun a hF => nt <| sq <| sr <| mv hF rfl rfl fun a hF => stR hF (d_call Try.call28 hF (.cons rfl (.cons rfl (.cons rfl .nil))) (l01In_ok (n) (1) (6) _)) rfl ?_;rintro _ w' a ⟨hx, rfl⟩ hF;have hM := hM.ext hx;refine st hF (g_notP hF rfl) rfl fun a hF => nt <| c_cond hF rfl (fun h2 => ?_) (fun h2 => ?_)
  · refine sq ?_
    refine wp_region_lit <| ag hF rfl rfl fun a hF => nt <| wp_ret <| tR <| fin1 rfl hF.defers (res_tmp hF rfl) ⟨_, rfl, hM.below, ?_⟩
    show _ = _
    rfl
  exfalso; omega
theorem isG_I (n : Int) (M : Nat → Nat → Nat) (w : World) (hB : ∀ i j, M i j ≤ 255) : CallsR Try.prog 30 #[.agg (grpC n M)] w (fun res _ => res = .bool (decide (GrpP n M))) := by
  by_cases ho : n < 1 ∨ 6 < n
  · exact CallsR.val (IsGroupI_out n M w ho) (congrArg Value.bool (decide_eq_false (fun h => by have := h.1; have := h.2.1; omega)).symm)
  · have e : (n.toNat : Int) = n := by omega
    have h := IsGroupI_ok n.toNat M w (by omega) (by omega) hB;rw [e] at h;exact CallsR.val h (congrArg Value.bool (decide_eq_decide.2 ⟨fun q => ⟨by omega, by omega, q⟩, fun q => q.2.2⟩))
theorem isG_S (n : Int) (M : Nat → Nat → Nat) (w : World) (hB : ∀ i j, M i j ≤ 255) : CallsR Try.prog 27 #[.agg (grpC n M)] w (fun res _ => res = .bool (decide (GrpP n M))) := by
  by_cases ho : n < 1 ∨ 6 < n
  · exact CallsR.val (l06Is_out n M w ho) (congrArg Value.bool (decide_eq_false (fun h => by have := h.1; have := h.2.1; omega)).symm)
  · have e : (n.toNat : Int) = n := by omega
    have h := l06Is_ok n.toNat M w (by omega) (by omega) hB;rw [e] at h;exact CallsR.val h (congrArg Value.bool (decide_eq_decide.2 ⟨fun q => ⟨by omega, by omega, q⟩, fun q => q.2.2⟩))
theorem GrpP.mk {n : Nat} {M : Nat → Nat → Nat} (hn0 : 0 < n) (hn : n ≤ 6) (hG : TabP n M) : GrpP (n : Int) M := ⟨by omega, by omega, hG⟩
theorem TabP.lt {n : Nat} {M : Nat → Nat → Nat} (h : TabP n M) {i j : Nat} (hi : i < 6) (hj : j < 6) : M i j < n := (h.1 i hi j hj).1
theorem TabP.out {n : Nat} {M : Nat → Nat → Nat} (h : TabP n M) {i j : Nat} (hi : i < 6) (hj : j < 6) (ho : n ≤ i ∨ n ≤ j) : M i j = 0 := (h.1 i hi j hj).2 (by omega)

theorem toGroup_ok (n : Int) (M : Nat → Nat → Nat) (w : World)  :
    CallsR Try.prog 7 #[.agg (grpC n M)] w (fun res _ => res = .agg (grpC n M)) := by
  refine calls_fr [.agg (grpC n M)] Try.func7 rfl Try.ntmps7 rfl fun a hF => ?_;have hM : Mem w w [none, none, none] [] := MemX.start w 3;change Fr 12 a [(0, .agg (grpC n M))] at hF;refine sr <| stR hF (d_box 0 hM hF rfl) rfl ?_;rintro _ w' a ⟨b1, rfl, hM, -⟩ hF;refine stR hF (d_alloc 1 hM ty_ze_29) rfl ?_;rintro _ w' a ⟨b2, rfl, hM, -⟩ hF;refine ns <| stR hF (d_alloc 2 hM ty_ze_29) rfl ?_;rintro _ w' a ⟨b3, rfl, hM, -⟩ hF;change Mem w w' [some (b1, grpC n M), some (b2, grpC 0 (fun _ _ => 0)), some (b3, grpC 0 (fun _ _ => 0))] [] at hM;refine ns <| st hF (g_fieldAddr ty_fo_25_0 hF rfl) rfl fun a hF => st hF (g_load ty_on_2 hF rfl (hM.row 0 rfl) (grpC_n (by omega))) rfl fun a hF => st hF (g_fieldAddr ty_fo_29_0 hF rfl) rfl fun a hF => stN hF (d_store 2 hM rfl ty_on_2 hF rfl rfl rfl (by first | omega | (simp only [sz0, grpC_size] <;> omega) | (simp only [Array.size_setIfInBounds]; omega) | simp)) ?_;intro _ w' a hM hF;rw [grpC_setn (by omega)] at hM;change Mem w w' [some (b1, grpC n M), some (b2, grpC 0 (fun _ _ => 0)), some (b3, grpC n (fun _ _ => 0))] [] at hM;refine ns <| st hF (g_fieldAddr ty_fo_25_1 hF rfl) rfl fun a hF => st hF (g_loadAgg ty_ag_23 hF rfl (hM.row 0 rfl) (by simp only [sz0, grpC_size] <;> omega) (grpC_tab (by omega) (by omega))) rfl fun a hF => stR hF (d_call Try.call19 hF (.cons rfl .nil) (toByteA6A6_ok M _)) rfl ?_;rintro _ w' a ⟨hx, rfl⟩ hF;have hM := hM.ext hx;refine st hF (g_fieldAddr ty_fo_29_1 hF rfl) rfl fun a hF => stN hF (d_storeAgg 2 hM rfl ty_sz_23 hF rfl rfl (by first | exact vecC_one | exact cells_one | (refine fnC_one fun _ _ => ?_; first | rfl | (split <;> rfl))) (by simp only [sz0, grpC_size]) (by simp only [sz0, grpC_size] <;> omega) (grpC_putT (by omega))) ?_;intro _ w' a hM hF;change Mem w w' [some (b1, grpC n M), some (b2, grpC 0 (fun _ _ => 0)), some (b3, grpC n M)] [] at hM;refine ns <| st hF (g_loadAgg ty_ag_29 hF rfl (hM.row 2 rfl) (by simp only [sz0, grpC_size] <;> omega) (whole (by simp only [sz0, grpC_size]))) rfl fun a hF => stN hF (d_storeAgg 1 hM rfl ty_sz_29 hF rfl rfl (grpC_one) (by simp only [sz0, grpC_size]) (by simp only [sz0, grpC_size] <;> omega) (splice_whole _ _ (by simp only [sz0, grpC_size]))) ?_;intro _ w' a hM hF;change Mem w w' [some (b1, grpC n M), some (b2, grpC n M), some (b3, grpC n M)] [] at hM;refine nt <| wp_ret <| fin1 rfl hF.defers (res_agg ty_ag_29 hF rfl (hM.row 1 rfl) (by simp only [sz0, grpC_size])) ⟨_, rfl, hM.below, ?_⟩
  show _ = _
  rfl
def cmF (M : Nat → Nat → Nat) (i j : Nat) : Nat := if M i j = M j i then 1 else 0
def cpI (M : Nat → Nat → Nat) (n i j : Nat) : Nat := sumTo (fun a => sumTo (fun b => cmF M a b) n) i + sumTo (fun b => cmF M i b) j
end Go.Proofs.Ytogjafbjafnlbaa

namespace Go.Proofs.Ytogjafbjafnlbaa
open Go Go.RowKit Go.Sw Go.Ech
open Classical
theorem ty_bf_57_31_412 : ∀ w, (Instr.build 57 #[(0, .int .i64 (1))]).run Try.prog w = .ok (.agg (fnC 6 (fun c => .int .i64 (((if c = 0 then 1 else 0) : Nat) : Int)))) w := by intros; kernel_rfl
theorem ty_ze_57 : zeroP Try.prog 57 = some (.agg (fnC 6 (fun _ => .int .i64 (0)))) := by kernel_rfl
theorem ty_sz_57 : sizeP Try.prog 57 = some 6 := by kernel_rfl
theorem ty_ar_57 : arrOf Try.prog 57 = some (6, 1) := by kernel_rfl
theorem ty_ag_57 : aggP Try.prog 57 = some 6 := by kernel_rfl
theorem sumTo_addf (f g : Nat → Nat) : ∀ n, sumTo (fun x => f x + g x) n = sumTo f n + sumTo g n
  | 0 => rfl
  | n + 1 => by simp only [sumTo, sumTo_addf f g n]; omega
theorem sumTo_swap (f : Nat → Nat → Nat) (m : Nat) : ∀ n, sumTo (fun x => sumTo (fun a => f x a) n) m = sumTo (fun a => sumTo (fun x => f x a) m) n
  | 0 => by
    simp only [sumTo]
    induction m with
    | zero => rfl
    | succ m ih => simp only [sumTo, ih]
  | n + 1 => by simp only [sumTo]; rw [sumTo_addf, sumTo_swap f m n]
theorem sumTo_mono {f g : Nat → Nat} : ∀ {n : Nat}, (∀ x, x < n → f x ≤ g x) → sumTo f n ≤ sumTo g n
  | 0, _ => Nat.le_refl _
  | n + 1, h => Nat.add_le_add (sumTo_mono fun x hx => h x (by omega)) (h n (by omega))
theorem sumTo_up {f : Nat → Nat} {m : Nat} : ∀ {n : Nat}, m ≤ n → sumTo f m ≤ sumTo f n
  | 0, h => by rw [show m = 0 by omega]; exact Nat.le_refl _
  | n + 1, h => by
    by_cases e : m = n + 1
    · rw [e]; exact Nat.le_refl _
    · exact Nat.le_trans (sumTo_up (f := f) (n := n) (by omega)) (Nat.le_add_right _ _)
theorem le_sumTo {f : Nat → Nat} {x : Nat} : ∀ {n : Nat}, x < n → f x ≤ sumTo f n := fun {n} h => Nat.le_trans (Nat.le_add_left _ _) (sumTo_up (f := f) (m := x + 1) (n := n) h)
theorem sumTo_one (c d : Nat) : ∀ n, sumTo (fun x => if c = x then d else 0) n ≤ d
  | 0 => Nat.zero_le _
  | n + 1 => by
    simp only [sumTo]
    by_cases e : c = n
    · have : sumTo (fun x => if c = x then d else 0) n = 0 := by
        have h := sumTo_le (f := fun x => if c = x then d else 0) (c := 0) (m := n) fun x hx => by show (if c = x then d else 0) ≤ 0; rw [if_neg (by omega)]; exact Nat.le_refl _
        omega
      rw [this, if_pos e]; omega
    · rw [if_neg e]; exact sumTo_one c d n
theorem sumTo_cong {f g : Nat → Nat} : ∀ {n : Nat}, (∀ x, x < n → f x = g x) → sumTo f n = sumTo g n
  | 0, _ => rfl
  | n + 1, h => by simp only [sumTo]; rw [sumTo_cong (f := f) (g := g) (n := n) (fun x hx => h x (by omega)), h n (by omega)]
theorem sumTo_mulr (f : Nat → Nat) (c : Nat) : ∀ n, sumTo (fun x => f x * c) n = sumTo f n * c
  | 0 => by simp [sumTo]
  | n + 1 => by simp only [sumTo, sumTo_mulr f c n, Nat.add_mul]
theorem sumTo_mull (f : Nat → Nat) (c : Nat) : ∀ n, sumTo (fun x => c * f x) n = c * sumTo f n
  | 0 => by simp [sumTo]
  | n + 1 => by simp only [sumTo, sumTo_mull f c n, Nat.mul_add]
def wA (F v : Nat → Nat → Nat) (n i j x : Nat) : Nat := sumTo (fun a => sumTo (fun b => if F a b = x then v a b else 0) n) i + sumTo (fun b => if F i b = x then v i b else 0) j
theorem wA_row {F v : Nat → Nat → Nat} {n i x : Nat} : wA F v n i n x = wA F v n (i + 1) 0 x := by unfold wA; simp [sumTo]
theorem wA_0 {F v : Nat → Nat → Nat} {n x : Nat} : wA F v n 0 0 x = 0 := by unfold wA; simp [sumTo]
theorem wA_step {F v : Nat → Nat → Nat} {n i j x : Nat} : (if x = F i j then wA F v n i j (F i j) + v i j else wA F v n i j x) = wA F v n i (j + 1) x := by
  unfold wA
  by_cases e : x = F i j
  · subst e; simp [sumTo]; omega
  · rw [if_neg e]; simp only [sumTo]; rw [if_neg (show ¬ F i j = x from fun h => e h.symm)]; omega
theorem wA_sum (F v : Nat → Nat → Nat) (n i j m : Nat) : sumTo (fun x => wA F v n i j x) m ≤ sumTo (fun a => sumTo (v a) n) i + sumTo (v i) j := by
  unfold wA
  rw [sumTo_addf];refine Nat.add_le_add ?_ ?_
  · rw [sumTo_swap]
    refine sumTo_mono fun a _ => ?_;rw [sumTo_swap];exact sumTo_mono fun b _ => sumTo_one _ _ _
  · rw [sumTo_swap]
    exact sumTo_mono fun b _ => sumTo_one _ _ _
theorem tot_le {v : Nat → Nat → Nat} {n i j : Nat} (hi : i < n) (hj : j ≤ n) : sumTo (fun a => sumTo (v a) n) i + sumTo (v i) j ≤ sumTo (fun a => sumTo (v a) n) n :=
  Nat.le_trans (Nat.add_le_add_left (sumTo_up hj) _) (sumTo_up (f := fun a => sumTo (v a) n) (m := i + 1) hi)
theorem wA_le {F v : Nat → Nat → Nat} {n i j x : Nat} (hi : i < n) (hj : j ≤ n) (hx : x < n) : wA F v n i j x ≤ sumTo (fun a => sumTo (v a) n) n :=
  Nat.le_trans (le_sumTo (f := fun x => wA F v n i j x) hx) (Nat.le_trans (wA_sum F v n i j n) (tot_le hi hj))
theorem tot_mul (f g : Nat → Nat) (n : Nat) : sumTo (fun a => sumTo (fun b => f a * g b) n) n = sumTo f n * sumTo g n := by
  rw [← sumTo_mulr];exact sumTo_cong fun a _ => sumTo_mull g (f a) n
def wy (M : Nat → Nat → Nat) (n : Nat) (e : Nat → Nat) : Nat → Nat → Nat
  | 0, x => if x = 0 then 1 else 0
  | k + 1, x => wA M (fun a b => wy M n e k a * e b) n n 0 x
def comI (M : Nat → Nat → Nat) (n a b : Nat) : Nat := M (M a b) (M (lead (M a) n) (lead (M b) n))
def comS (M : Nat → Nat → Nat) (n a b : Nat) : Nat := M (M (M (M 0 a) b) (lead (M a) n)) (lead (M b) n)
def com (M : Nat → Nat → Nat) (n x : Nat) : Nat := wA (comI M n) (fun _ _ => 1) n n 0 x
def foldM (M : Nat → Nat → Nat) (l : Nat → Nat) : Nat → Nat
  | 0 => 0
  | k + 1 => M (foldM M l k) (l k)
end Go.Proofs.Ytogjafbjafnlbaa
