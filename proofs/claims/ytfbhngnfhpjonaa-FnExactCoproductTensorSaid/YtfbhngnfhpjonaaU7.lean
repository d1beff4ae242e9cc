/- What functions of the program return, as walks over their operations; no statement of the seat is proved here. -/
import Derived.Test.YtfbhngnfhpjonaaU5
import Derived.Test.YtfbhngnfhpjonaaSw30
set_option linter.unusedVariables false
set_option linter.unusedSimpArgs false
namespace Go.Proofs.Ytfbhngnfhpjonaa
open Go Go.RowKit Go.Sw Go.Ech
open Classical
theorem wl_small {n i o : Nat} (hn : n ≤ 6) (h : i + o ≤ 3) : wl n i o := ⟨by omega, by omega, Nat.le_trans (Nat.pow_le_pow_left hn _) (Nat.le_trans (Nat.pow_le_pow_right (by decide) h) (by decide))⟩
theorem tv_one {n m : Nat} {v : Nat → Nat} : ∀ c, c < m → tvF n 1 (vAtL [v]) c = (if c < n then v c else 0) := fun c _ => by
  unfold tvF
  rw [Nat.one_mul]
  by_cases h : c < n
  · rw [if_pos h, if_pos h, Nat.div_eq_of_lt h, Nat.mod_eq_of_lt h]; rfl
  · rw [if_neg h, if_neg h]
theorem vAtL1_lt {p : Nat} {v : Nat → Nat} (hp : 0 < p) (h : ∀ c, v c < p) : ∀ i c, vAtL [v] i c < p := fun i c => by
  unfold vAtL
  rw [List.getD_eq_getElem?_getD]
  cases i with
  | zero => exact h c
  | succ i => simpa using hp
/-- A vector's numbers, 0 outside of it. -/
def in6 (f : Nat → Nat) (c : Nat) : Nat := if c < 6 then f c else 0
theorem vecC_in6 {f : Nat → Nat} : vecC f = vecC (in6 f) := fnC_congr fun c hc => by unfold in6; rw [if_pos hc]
theorem algC_in6 {p n : Int} {T : Nat → Nat → Nat → Nat} {f : Nat → Nat} : algC p n T f = algC p n T (in6 f) := by
  unfold algC
  refine fnC_congr fun c hc => ?_
  by_cases h0 : c = 0
  · rw [if_pos h0, if_pos h0]
  · rw [if_neg h0, if_neg h0]
    by_cases h1 : c = 1
    · rw [if_pos h1, if_pos h1]
    · rw [if_neg h1, if_neg h1]
      by_cases h2 : c < 218
      · rw [if_pos h2, if_pos h2]
      · rw [if_neg h2, if_neg h2]; unfold in6; rw [if_pos (by omega)]









theorem okV_in6 {p n : Int} {f : Nat → Nat} : okV p n f ↔ okV p n (in6 f) := by
  unfold okV
  constructor
  · intro h i hi; have := h i hi; unfold in6; rw [if_pos hi]; exact this
  · intro h i hi; have := h i hi; unfold in6 at this; rw [if_pos hi] at this; exact this
theorem in6_lt {p : Nat} {n : Int} {f : Nat → Nat} (hp : 0 < p) (h : okV (p : Int) n f) : ∀ c, in6 f c < p := fun c => by
  unfold in6; split
  · rename_i hc; have := h c hc; unfold okN at this; omega
  · exact hp
theorem in6_le {f : Nat → Nat} (h : ∀ i, f i ≤ 255) : ∀ c, in6 f c ≤ 255 := fun c => by
  unfold in6; split
  · exact h c
  · omega
theorem code_in6 {p n : Int} {T : Nat → Nat → Nat → Nat} {f : Nat → Nat} {m : Nat} {V : Nat → Nat → Nat} (h : CodeP p n T f m V) : CodeP p n T (in6 f) m V :=
  ⟨⟨⟨h.1.1.1, h.1.1.2.1, okV_in6.1 h.1.1.2.2.1, h.1.1.2.2.2⟩, h.1.2⟩, h.2⟩






end Go.Proofs.Ytfbhngnfhpjonaa

namespace Go.Proofs.Ytfbhngnfhpjonaa
open Go Go.RowKit Go.Sw Go.Ech
open Classical
theorem ty_bu_47 : ∀ w, (Instr.build 47 #[]).run Try.prog w = .ok (.agg (tenC 0 0 0 0 (.slice none 0 0))) w := by intros; kernel_rfl
theorem div_row' {c i N : Nat} (h : i * N ≤ c) (h2 : c < i * N + N) : c / N = i := by
  have h0 : 0 < N := by omega
  exact Nat.div_eq_of_lt_le (by omega) (by rw [Nat.succ_mul]; omega)
theorem dm_div {x y K : Nat} (h : y < K) : (x * K + y) / K = x := div_row' (by omega) (by omega)
theorem dm_mod {x y K : Nat} (h : y < K) : (x * K + y) % K = y := by
  have h1 := Nat.div_add_mod (x * K + y) K
  rw [dm_div h, Nat.mul_comm] at h1; omega
theorem cube {n : Nat} : n ^ (1 + 2) = n * n * n := by
  show n ^ 3 = _
  rw [Nat.pow_succ, Nat.pow_two]
/-- Numbers of three places. -/
def prF (n : Nat) (T : Nat → Nat → Nat → Nat) (N c : Nat) : Nat := if c < N then T (c / n / n) (c / n % n) (c % n) else 0
theorem prF_step {n i j k c : Nat} {T : Nat → Nat → Nat → Nat} (hk : k < n) (hj : j < n) : (if c = (i * n + j) * n + k then T i j k else prF n T ((i * n + j) * n + k) c) = prF n T ((i * n + j) * n + (k + 1)) c := by
  unfold prF
  by_cases e : c = (i * n + j) * n + k
  · rw [if_pos e, if_pos (by omega), e, dm_div hk, dm_mod hk, dm_div hj, dm_mod hj]
  · rw [if_neg e]
    have e1 : (c < (i * n + j) * n + (k + 1)) = (c < (i * n + j) * n + k) := by apply propext; omega
    simp only [e1]
/-- n rows more. -/
theorem rows_snoc {u : Value} {e : Option (Nat × Array Value)} {n i : Nat} {T : Nat → Nat → Nat → Nat} (h : Sl 6 u e (i * n + n) (fun c => if c < i * n * 6 then .int .u8 ((T (c / 6 / n) (c / 6 % n) (c % 6) : Nat) : Int) else .int .u8 ((T i ((c - i * n * 6) / 6) ((c - i * n * 6) % 6) : Nat) : Int))) :
    Sl 6 u e ((i + 1) * n) (fun c => .int .u8 ((T (c / 6 / n) (c / 6 % n) (c % 6) : Nat) : Int)) := by
  rw [Nat.succ_mul]
  refine h.congr fun c hc => ?_
  by_cases e : c < i * n * 6
  · rw [if_pos e]
  · rw [if_neg e]
    have e1 : (c - i * n * 6) / 6 < n := by omega
    have e2 : c / 6 = i * n + (c - i * n * 6) / 6 := by omega
    have e3 : c % 6 = (c - i * n * 6) % 6 := by omega
    rw [e2, e3, dm_div e1, dm_mod e1]

theorem CoproductTensorSA (p n : Int) (T : Nat → Nat → Nat → Nat) (f : Nat → Nat) (w : World) (hT : ∀ i j k, T i j k ≤ 255) (hf : ∀ i, f i ≤ 255) (hc : ¬ CodeP p n T f 0 (vAtL [])) :
    CallsR Try.prog 22 #[.agg (algC p n T f)] w (fun res _ => res = .tuple #[.agg (tenC 0 0 0 0 (.slice none 0 0)), .int .i64 1]) := by
  refine calls_fr [.agg (algC p n T f)] Try.func22 rfl Try.ntmps22 rfl fun a hF => ?_
  have hM : Mem w w [none, none, none, none] [] := MemX.start w 4
  change Fr 66 a [(0, .agg (algC p n T f))] at hF
  refine sq ?_
  refine wp_region_lit ?_
  refine stR hF (d_box 0 hM hF rfl) rfl ?_
  rintro _ w' a ⟨b1, rfl, hM, -⟩ hF
  change Mem w w' [some (b1, algC p n T f), none, none, none] [] at hM
  refine stR hF (d_alloc 1 hM ty_ze_47) rfl ?_
  rintro _ w' a ⟨b2, rfl, hM, -⟩ hF
  change Mem w w' [some (b1, algC p n T f), some (b2, tenC 0 0 0 0 (.slice none 0 0)), none, none] [] at hM
  refine st hF (g_assign hF rfl) rfl fun a hF => ?_
  refine wpList_nil ?_
  refine tN ?_
  refine sq ?_
  refine sq ?_
  refine wp_region_lit ?_
  refine st hF (g_loadAgg ty_ag_32 hF rfl (hM.row 0 rfl) (by simp only [fnC_size, cells_size, vecC_size, tabC_size, planeC_size, mrk_size, rowI_size, cpC_size, tenC_size, smC_size, numC_size, numI_size] <;> omega) (whole cells_size)) rfl fun a hF => ?_
  refine stR hF (d_call Try.call45 hF (.cons rfl (.cons rfl .nil)) ((CallsR.val (l01Code_0 p n T f (vAtL []) _ (fun _ _ _ => hT _ _ _) (fun _ => hf _)) (congrArg (Value.int .i64) (if_neg hc))))) rfl ?_
  rintro _ w' a ⟨hx, rfl⟩ hF
  have hM := hM.ext hx
  refine st hF (g_assign hF rfl) rfl fun a hF => ?_
  refine wpList_nil ?_
  refine tN ?_
  refine sq ?_
  refine wp_region_lit ?_
  refine st hF (g_move hF rfl) rfl fun a hF => st hF (g_neq hF rfl rfl) rfl fun a hF => ?_
  refine wpList_nil ?_
  refine tN ?_
  refine c_kT hF rfl (by decide) ?_
  refine sq ?_
  refine wp_region_lit ?_
  refine st hF (g_build0 ty_bu_47) rfl fun a hF => st hF (g_move hF rfl) rfl fun a hF => ?_
  refine stN hF (d_storeAgg 1 hM rfl ty_sz_47 hF rfl rfl (tenC_one rfl) (by simp only [fnC_size, cells_size, vecC_size, tabC_size, planeC_size, mrk_size, rowI_size, cpC_size, tenC_size, smC_size, numC_size, numI_size]) (by simp only [fnC_size, cells_size, vecC_size, tabC_size, planeC_size, mrk_size, rowI_size, cpC_size, tenC_size, smC_size, numC_size, numI_size] <;> omega) (splice_whole _ _ rfl)) ?_
  intro _ w' a hM hF
  change Mem w w' [some (b1, algC p n T f), some (b2, tenC 0 0 0 0 (.slice none 0 0)), none, none] [] at hM
  refine st hF (g_assign hF rfl) rfl fun a hF => ?_
  refine wpList_nil ?_
  refine tN ?_
  refine wp_ret ?_
  refine tR ?_
  refine fin2 rfl hF.defers (res_agg ty_ag_47 hF rfl (hM.row 1 rfl) (by simp only [fnC_size, cells_size, vecC_size, tabC_size, planeC_size, mrk_size, rowI_size, cpC_size, tenC_size, smC_size, numC_size, numI_size])) (res_tmp hF rfl) ⟨_, rfl, hM.below, ?_⟩
  show _ = _
  rfl

theorem CoproductTensorSF (p n : Nat) (T : Nat → Nat → Nat → Nat) (f : Nat → Nat) (w : World) (hp : primeN p) (hn0 : 0 < n) (hn : n ≤ 6) (hTp : ∀ i j k, T i j k < p) (hT0 : ∀ i j k, n ≤ k → T i j k = 0) (hf : ∀ i, f i ≤ 255) (hfr : ¬ FrobN p n T f) (hc : CodeP (p : Int) (n : Int) T f 0 (vAtL [])) :
    CallsR Try.prog 22 #[.agg (algC (p : Int) (n : Int) T f)] w (fun res _ => res = .tuple #[.agg (tenC 0 0 0 0 (.slice none 0 0)), .int .i64 5]) := by
  refine calls_fr [.agg (algC (p : Int) (n : Int) T f)] Try.func22 rfl Try.ntmps22 rfl fun a hF => ?_
  have hM : Mem w w [none, none, none, none] [] := MemX.start w 4
  change Fr 66 a [(0, .agg (algC (p : Int) (n : Int) T f))] at hF
  have hp2 := hp.two
  have hp13 := hp.le
  have hT : ∀ i j k, T i j k ≤ 255 := fun i j k => by have := hTp i j k; omega
  refine sq ?_
  refine wp_region_lit ?_
  refine stR hF (d_box 0 hM hF rfl) rfl ?_
  rintro _ w' a ⟨b1, rfl, hM, -⟩ hF
  change Mem w w' [some (b1, algC (p : Int) (n : Int) T f), none, none, none] [] at hM
  refine stR hF (d_alloc 1 hM ty_ze_47) rfl ?_
  rintro _ w' a ⟨b2, rfl, hM, -⟩ hF
  change Mem w w' [some (b1, algC (p : Int) (n : Int) T f), some (b2, tenC 0 0 0 0 (.slice none 0 0)), none, none] [] at hM
  refine st hF (g_assign hF rfl) rfl fun a hF => ?_
  refine wpList_nil ?_
  refine tN ?_
  refine sq ?_
  refine sq ?_
  refine wp_region_lit ?_
  refine st hF (g_loadAgg ty_ag_32 hF rfl (hM.row 0 rfl) (by simp only [fnC_size, cells_size, vecC_size, tabC_size, planeC_size, mrk_size, rowI_size, cpC_size, tenC_size, smC_size, numC_size, numI_size] <;> omega) (whole cells_size)) rfl fun a hF => ?_
  refine stR hF (d_call Try.call45 hF (.cons rfl (.cons rfl .nil)) ((CallsR.val (l01Code_0 (p : Int) (n : Int) T f (vAtL []) _ (fun _ _ _ => hT _ _ _) (fun _ => hf _)) (congrArg (Value.int .i64) (if_pos hc))))) rfl ?_
  rintro _ w' a ⟨hx, rfl⟩ hF
  have hM := hM.ext hx
  refine st hF (g_assign hF rfl) rfl fun a hF => ?_
  refine wpList_nil ?_
  refine tN ?_
  refine sq ?_
  refine wp_region_lit ?_
  refine st hF (g_move hF rfl) rfl fun a hF => st hF (g_neq hF rfl rfl) rfl fun a hF => ?_
  refine wpList_nil ?_
  refine tN ?_
  refine c_kF hF rfl (by decide) ?_
  refine wp_skip ?_
  refine tN ?_
  refine sq ?_
  refine sq ?_
  refine wp_region_lit ?_
  refine st hF (g_loadAgg ty_ag_32 hF rfl (hM.row 0 rfl) (by simp only [fnC_size, cells_size, vecC_size, tabC_size, planeC_size, mrk_size, rowI_size, cpC_size, tenC_size, smC_size, numC_size, numI_size] <;> omega) (whole cells_size)) rfl fun a hF => ?_
  refine stR hF (d_call Try.call50 hF (.cons rfl .nil) ((CallsR.val (l01Frobenius_ok p n T f _ hp hn0 hn (fun _ _ _ => hT _ _ _) (fun _ => hf _)) (congrArg Value.bool (decide_eq_false hfr))))) rfl ?_
  rintro _ w' a ⟨hx, rfl⟩ hF
  have hM := hM.ext hx
  refine st hF (g_not hF rfl) rfl fun a hF => ?_
  refine wpList_nil ?_
  refine tN ?_
  refine c_T hF rfl ?_
  refine sq ?_
  refine wp_region_lit ?_
  refine st hF (g_build0 ty_bu_47) rfl fun a hF => ?_
  refine stN hF (d_storeAgg 1 hM rfl ty_sz_47 hF rfl rfl (tenC_one rfl) (by simp only [fnC_size, cells_size, vecC_size, tabC_size, planeC_size, mrk_size, rowI_size, cpC_size, tenC_size, smC_size, numC_size, numI_size]) (by simp only [fnC_size, cells_size, vecC_size, tabC_size, planeC_size, mrk_size, rowI_size, cpC_size, tenC_size, smC_size, numC_size, numI_size] <;> omega) (splice_whole _ _ rfl)) ?_
  intro _ w' a hM hF
  change Mem w w' [some (b1, algC (p : Int) (n : Int) T f), some (b2, tenC 0 0 0 0 (.slice none 0 0)), none, none] [] at hM
  refine st hF (g_assign hF rfl) rfl fun a hF => ?_
  refine wpList_nil ?_
  refine tN ?_
  refine wp_ret ?_
  refine tR ?_
  refine fin2 rfl hF.defers (res_agg ty_ag_47 hF rfl (hM.row 1 rfl) (by simp only [fnC_size, cells_size, vecC_size, tabC_size, planeC_size, mrk_size, rowI_size, cpC_size, tenC_size, smC_size, numC_size, numI_size])) (res_tmp hF rfl) ⟨_, rfl, hM.below, ?_⟩
  show _ = _
  rfl

theorem CoproductTensorSY (p n : Nat) (T : Nat → Nat → Nat → Nat) (f : Nat → Nat) (w : World) (hp : primeN p) (hn0 : 0 < n) (hn : n ≤ 6) (hTp : ∀ i j k, T i j k < p) (hT0 : ∀ i j k, n ≤ k → T i j k = 0) (hf : ∀ i, f i ≤ 255) (hfr : FrobN p n T f) (G : Nat → Nat → Nat) (hG : IsCop p n (formM p n T f) G) (hc : CodeP (p : Int) (n : Int) T f 0 (vAtL [])) :
    CallsR Try.prog 22 #[.agg (algC (p : Int) (n : Int) T f)] w (fun v w' => TenOut0 w w' (p : Int) (n : Int) ((1 : Nat) : Int) ((2 : Nat) : Int) (n ^ (1 + 2)) (prF n (fun i j k => cpS p n T G (fun c => if c = i then 1 else 0) n j k) (n * n * n)) v) := by
  refine calls_fr [.agg (algC (p : Int) (n : Int) T f)] Try.func22 rfl Try.ntmps22 rfl fun a hF => ?_
  have hM : Mem w w [none, none, none, none] [] := MemX.start w 4
  change Fr 66 a [(0, .agg (algC (p : Int) (n : Int) T f))] at hF
  have hp2 := hp.two
  have hp13 := hp.le
  have hT : ∀ i j k, T i j k ≤ 255 := fun i j k => by have := hTp i j k; omega
  have hpP := hc.1.1.1
  have hw := wl_small (i := 1) (o := 2) hn (by omega)
  have hcb : n ^ (1 + 2) = n * n * n := cube
  have hw3 := hw.2.2
  have hnn : n ≤ n * n := Nat.le_mul_of_pos_left _ hn0
  have hnn3 : n * n ≤ n * n * n := Nat.le_mul_of_pos_right _ hn0
  have hGp := hG.lt
  have hCIv : ∀ i j k, cpI p n T G (fun c => if c = i then 1 else 0) j k < p := fun i j k => Nat.mod_lt _ (by omega)
  refine sq ?_
  refine wp_region_lit ?_
  refine stR hF (d_box 0 hM hF rfl) rfl ?_
  rintro _ w' a ⟨b1, rfl, hM, -⟩ hF
  change Mem w w' [some (b1, algC (p : Int) (n : Int) T f), none, none, none] [] at hM
  refine stR hF (d_alloc 1 hM ty_ze_47) rfl ?_
  rintro _ w' a ⟨b2, rfl, hM, -⟩ hF
  change Mem w w' [some (b1, algC (p : Int) (n : Int) T f), some (b2, tenC 0 0 0 0 (.slice none 0 0)), none, none] [] at hM
  refine st hF (g_assign hF rfl) rfl fun a hF => ?_
  refine wpList_nil ?_
  refine tN ?_
  refine sq ?_
  refine sq ?_
  refine wp_region_lit ?_
  refine st hF (g_loadAgg ty_ag_32 hF rfl (hM.row 0 rfl) (by simp only [fnC_size, cells_size, vecC_size, tabC_size, planeC_size, mrk_size, rowI_size, cpC_size, tenC_size, smC_size, numC_size, numI_size] <;> omega) (whole cells_size)) rfl fun a hF => ?_
  refine stR hF (d_call Try.call45 hF (.cons rfl (.cons rfl .nil)) ((CallsR.val (l01Code_0 (p : Int) (n : Int) T f (vAtL []) _ (fun _ _ _ => hT _ _ _) (fun _ => hf _)) (congrArg (Value.int .i64) (if_pos hc))))) rfl ?_
  rintro _ w' a ⟨hx, rfl⟩ hF
  have hM := hM.ext hx
  refine st hF (g_assign hF rfl) rfl fun a hF => ?_
  refine wpList_nil ?_
  refine tN ?_
  refine sq ?_
  refine wp_region_lit ?_
  refine st hF (g_move hF rfl) rfl fun a hF => st hF (g_neq hF rfl rfl) rfl fun a hF => ?_
  refine wpList_nil ?_
  refine tN ?_
  refine c_kF hF rfl (by decide) ?_
  refine wp_skip ?_
  refine tN ?_
  refine sq ?_
  refine sq ?_
  refine wp_region_lit ?_
  refine st hF (g_loadAgg ty_ag_32 hF rfl (hM.row 0 rfl) (by simp only [fnC_size, cells_size, vecC_size, tabC_size, planeC_size, mrk_size, rowI_size, cpC_size, tenC_size, smC_size, numC_size, numI_size] <;> omega) (whole cells_size)) rfl fun a hF => ?_
  refine stR hF (d_call Try.call50 hF (.cons rfl .nil) ((CallsR.val (l01Frobenius_ok p n T f _ hp hn0 hn (fun _ _ _ => hT _ _ _) (fun _ => hf _)) (congrArg Value.bool (decide_eq_true hfr))))) rfl ?_
  rintro _ w' a ⟨hx, rfl⟩ hF
  have hM := hM.ext hx
  refine st hF (g_not hF rfl) rfl fun a hF => ?_
  refine wpList_nil ?_
  refine tN ?_
  refine c_Fl hF rfl ?_
  refine wp_skip ?_
  refine tN ?_
  refine sq ?_
  refine wp_region_lit ?_
  refine st hF (g_fieldAddr ty_fo_32_1 hF rfl) rfl fun a hF => st hF (g_load ty_on_2 hF rfl (hM.row 0 rfl) (algC_n (by omega))) rfl fun a hF => st hF (g_assign hF rfl) rfl fun a hF => ?_
  refine wpList_nil ?_
  refine tN ?_
  refine sq ?_
  refine wp_region_lit ?_
  refine st hF (g_fieldAddr ty_fo_32_0 hF rfl) rfl fun a hF => st hF (g_load ty_on_2 hF rfl (hM.row 0 rfl) (algC_p (by omega))) rfl fun a hF => st hF (g_move hF rfl) rfl fun a hF => ?_
  refine stR hF (d_call Try.call51 hF (.cons rfl (.cons rfl (.cons rfl (.cons rfl .nil)))) (l03Empty_ok (p) (n) (1) (2) _ (by omega) (by omega) hw)) rfl ?_
  rintro _ w' a ⟨hx, b5, rfl, hge, hbk⟩ hF
  have hM := hM.fill hx 2 hbk hge
  change Mem w w' [some (b1, algC (p : Int) (n : Int) T f), some (b2, tenC 0 0 0 0 (.slice none 0 0)), some (b5, numC ((n) ^ ((1) + (2))) (fun _ => 0)), none] [] at hM
  refine stR hF (d_alloc 3 hM ty_ze_47) rfl ?_
  rintro _ w' a ⟨b6, rfl, hM, -⟩ hF
  change Mem w w' [some (b1, algC (p : Int) (n : Int) T f), some (b2, tenC 0 0 0 0 (.slice none 0 0)), some (b5, numC ((n) ^ ((1) + (2))) (fun _ => 0)), some (b6, tenC 0 0 0 0 (.slice none 0 0))] [] at hM
  refine stN hF (d_storeAgg 3 hM rfl ty_sz_47 hF rfl rfl (tenC_one rfl) (by simp only [fnC_size, cells_size, vecC_size, tabC_size, planeC_size, mrk_size, rowI_size, cpC_size, tenC_size, smC_size, numC_size, numI_size]) (by simp only [fnC_size, cells_size, vecC_size, tabC_size, planeC_size, mrk_size, rowI_size, cpC_size, tenC_size, smC_size, numC_size, numI_size] <;> omega) (splice_whole _ _ rfl)) ?_
  intro _ w' a hM hF
  change Mem w w' [some (b1, algC (p : Int) (n : Int) T f), some (b2, tenC 0 0 0 0 (.slice none 0 0)), some (b5, numC ((n) ^ ((1) + (2))) (fun _ => 0)), some (b6, tenC ((p : Nat) : Int) ((n : Nat) : Int) ((1 : Nat) : Int) ((2 : Nat) : Int) (.slice (some ⟨b5, 0, none⟩) ((n) ^ ((1) + (2))) ((n) ^ ((1) + (2)))))] [] at hM
  refine wpList_nil ?_
  refine tN ?_
  refine sq ?_
  refine sq ?_
  refine wp_region_lit ?_
  refine st hF (g_assign hF rfl) rfl fun a hF => ?_
  refine wpList_nil ?_
  refine tN ?_
  refine wp_block ?_
  change Mem w _ [some (b1, algC (p : Int) (n : Int) T f), some (b2, tenC 0 0 0 0 (.slice none 0 0)), some (b5, numC ((n) ^ ((1) + (2))) (fun _ => 0)), some (b6, tenC ((p : Nat) : Int) ((n : Nat) : Int) ((1 : Nat) : Int) ((2 : Nat) : Int) (.slice (some ⟨b5, 0, none⟩) ((n) ^ ((1) + (2))) ((n) ^ ((1) + (2)))))] [] at hM
  refine c_loop (fun (kk : Nat) a w' => kk ≤ n ∧ (True) ∧ Fr 66 a [(0, .agg (algC (p : Int) (n : Int) T f)), (1, ptr b1 (0)), (2, ptr b2 (0)), (3, .int .i64 (0)), (11, .agg (algC (p : Int) (n : Int) T f)), (12, .int .i64 (0)), (4, .int .i64 (0)), (13, .int .i64 (0)), (14, .bool (decide ((0 : Int) ≠ 0))), (17, .agg (algC (p : Int) (n : Int) T f)), (18, .bool (true)), (19, .bool (false)), (21, ptr b1 (0 + 1)), (22, .int .i64 (((n : Nat) : Int))), (5, .int .i64 (((n : Nat) : Int))), (23, ptr b1 (0 + 0)), (24, .int .i64 (((p : Nat) : Int))), (25, .int .i64 (((n : Nat) : Int))), (26, .agg (tenC ((p : Nat) : Int) ((n : Nat) : Int) ((1 : Nat) : Int) ((2 : Nat) : Int) (.slice (some ⟨b5, 0, none⟩) ((n) ^ ((1) + (2))) ((n) ^ ((1) + (2)))))), (6, ptr b6 (0)), (7, .int .i64 (((kk : Nat) : Int)))] ∧ Mem w w' [some (b1, algC (p : Int) (n : Int) T f), some (b2, tenC 0 0 0 0 (.slice none 0 0)), some (b5, numC (n ^ (1 + 2)) (prF n (fun i j k => cpS p n T G (fun c => if c = i then 1 else 0) n j k) (kk * n * n))), some (b6, tenC ((p : Nat) : Int) ((n : Nat) : Int) ((1 : Nat) : Int) ((2 : Nat) : Int) (.slice (some ⟨b5, 0, none⟩) ((n) ^ ((1) + (2))) ((n) ^ ((1) + (2)))))] []) (fun kk => n - kk) 0 ?_ ?_
  ·
    refine ⟨by omega, trivial, hF.sub _ (by repeat' constructor), ?_⟩
    refine hM.rowc 2 rfl (numC_congr fun c hc => by unfold prF; rw [if_neg (by omega)])
  ·
    clear hF hM
    rintro gi a w' ⟨hgi, hinv1, hF, hM⟩
    have hri : gi < n → gi * n + n ≤ n * n := fun h => by rw [← Nat.succ_mul]; exact Nat.mul_le_mul_right _ h
    refine sq ?_
    refine sq ?_
    refine wp_region_lit ?_
    refine st hF (g_move hF rfl) rfl fun a hF => st hF (g_move hF rfl) rfl fun a hF => st hF (g_lss hF rfl rfl) rfl fun a hF => ?_
    refine wpList_nil ?_
    refine tN ?_
    refine c_cond hF rfl (fun h7 => ?_) (fun h7 => ?_)
    ·
      refine wp_skip ?_
      refine tN ?_
      refine sq ?_
      refine wp_block ?_
      refine sq ?_
      refine c_par 3 [] [.val (.agg (algC (p : Int) (n : Int) T f)), .val (.int .i64 (((gi : Nat) : Int))), .val (.agg (vecC (fun c => if c = gi then 1 else 0)))] hmix rfl hF rfl hM ⟨fun a w gG hF hS hd => by have hM := hS.mem rfl; exact par_val hS rfl (g_loadAgg ty_ag_32 hF rfl (hM.row 0 rfl) (by simp only [fnC_size, cells_size, vecC_size, tabC_size, planeC_size, mrk_size, rowI_size, cpC_size, tenC_size, smC_size, numC_size, numI_size] <;> omega) (whole cells_size)), fun a w gG hF hS hd => by exact par_val hS rfl (g_move hF rfl), fun a w gG hF hS hd => by have hF := hF.ext1 33 (hd 1 rfl rfl); exact par_call (by repeat constructor) hS rfl (d_call Try.call53 hF (.cons rfl .nil) (l01Basis_ok (gi) _ (by omega))), trivial⟩ ?_
      intro a w' L hF hS hq
      have hF := hF.ext1 32 (hq 0 rfl rfl)
      have hF := hF.ext1 33 (hq 1 rfl rfl)
      have hF := hF.ext1 34 (hq 2 rfl rfl)
      have hM := hS.mem rfl
      change wpList Try.prog _ _ [_, _] _ _
      refine stR hF (d_call Try.call52 hF (.cons rfl (.cons rfl .nil)) (l02Coproduct_ok p n T f G (fun c => if c = gi then 1 else 0) _ hp hn0 hn hTp hT0 hf (fun c => by split <;> omega) hfr hG)) rfl ?_
      rintro u w' a ⟨hx, hr⟩ hF
      have hr := (TabOut.freshR) hM hr
      have hM := hM.ext hx
      obtain ⟨DG, βG, κG, CG, bG, cG, csG, hRG, hsG, hmG, hgG, hbG, hM⟩ := hM.addR hr
      obtain rfl := hsG.val
      have hRmG : ∀ x ∈ (DG ++ []), x ∈ (DG ++ []) := fun _ h => h
      refine st hF (g_assign hF rfl) rfl fun a hF => ?_
      refine wpList_nil ?_
      refine tN ?_
      refine sq ?_
      refine wp_region_lit ?_
      refine st hF (g_assign hF rfl) rfl fun a hF => ?_
      refine wpList_nil ?_
      refine tN ?_
      refine wp_block ?_
      change Mem w _ [some (b1, algC (p : Int) (n : Int) T f), some (b2, tenC 0 0 0 0 (.slice none 0 0)), some (b5, numC (n ^ (1 + 2)) (prF n (fun i j k => cpS p n T G (fun c => if c = i then 1 else 0) n j k) (gi * n * n))), some (b6, tenC ((p : Nat) : Int) ((n : Nat) : Int) ((1 : Nat) : Int) ((2 : Nat) : Int) (.slice (some ⟨b5, 0, none⟩) ((n) ^ ((1) + (2))) ((n) ^ ((1) + (2)))))] (DG ++ []) at hM
      refine c_loop (fun (kk : Nat) a w' => kk ≤ n ∧ (True) ∧ Fr 66 a [(35, .slice (some ⟨bG, 0, none⟩) (n) (cG)), (34, .agg (vecC (fun c => if c = gi then 1 else 0))), (33, .int .i64 (((gi : Nat) : Int))), (32, .agg (algC (p : Int) (n : Int) T f)), (0, .agg (algC (p : Int) (n : Int) T f)), (1, ptr b1 (0)), (2, ptr b2 (0)), (3, .int .i64 (0)), (11, .agg (algC (p : Int) (n : Int) T f)), (12, .int .i64 (0)), (4, .int .i64 (0)), (13, .int .i64 (0)), (14, .bool (decide ((0 : Int) ≠ 0))), (17, .agg (algC (p : Int) (n : Int) T f)), (18, .bool (true)), (19, .bool (false)), (21, ptr b1 (0 + 1)), (22, .int .i64 (((n : Nat) : Int))), (5, .int .i64 (((n : Nat) : Int))), (23, ptr b1 (0 + 0)), (24, .int .i64 (((p : Nat) : Int))), (25, .int .i64 (((n : Nat) : Int))), (26, .agg (tenC ((p : Nat) : Int) ((n : Nat) : Int) ((1 : Nat) : Int) ((2 : Nat) : Int) (.slice (some ⟨b5, 0, none⟩) ((n) ^ ((1) + (2))) ((n) ^ ((1) + (2)))))), (6, ptr b6 (0)), (7, .int .i64 (((gi : Nat) : Int))), (27, .int .i64 (((gi : Nat) : Int))), (28, .int .i64 (((n : Nat) : Int))), (29, .bool (decide ((((gi : Nat) : Int) : Int) < ((n : Nat) : Int)))), (8, .slice (some ⟨bG, 0, none⟩) (n) (cG)), (9, .int .i64 (((kk : Nat) : Int)))] ∧ Mem w w' [some (b1, algC (p : Int) (n : Int) T f), some (b2, tenC 0 0 0 0 (.slice none 0 0)), some (b5, numC (n ^ (1 + 2)) (prF n (fun i j k => cpS p n T G (fun c => if c = i then 1 else 0) n j k) ((gi * n + kk) * n))), some (b6, tenC ((p : Nat) : Int) ((n : Nat) : Int) ((1 : Nat) : Int) ((2 : Nat) : Int) (.slice (some ⟨b5, 0, none⟩) ((n) ^ ((1) + (2))) ((n) ^ ((1) + (2)))))] (DG ++ [])) (fun kk => n - kk) 0 ?_ ?_
      ·
        refine ⟨by omega, trivial, hF.sub _ (by repeat' constructor), ?_⟩
        exact hM
      ·
        clear hF hM
        rintro gj a w' ⟨hgj, hinv2, hF, hM⟩
        have hrj : (gi * n + gj) < n * n → (gi * n + gj) * n + n ≤ n * n * n := fun h => by rw [← Nat.succ_mul]; exact Nat.mul_le_mul_right _ h
        refine sq ?_
        refine sq ?_
        refine wp_region_lit ?_
        refine st hF (g_move hF rfl) rfl fun a hF => st hF (g_move hF rfl) rfl fun a hF => st hF (g_lss hF rfl rfl) rfl fun a hF => ?_
        refine wpList_nil ?_
        refine tN ?_
        refine c_cond hF rfl (fun h8 => ?_) (fun h8 => ?_)
        ·
          refine wp_skip ?_
          refine tN ?_
          refine sq ?_
          refine wp_block ?_
          refine sq ?_
          refine wp_region_lit ?_
          refine st hF (g_assign hF rfl) rfl fun a hF => ?_
          refine wpList_nil ?_
          refine tN ?_
          refine wp_block ?_
          change Mem w _ [some (b1, algC (p : Int) (n : Int) T f), some (b2, tenC 0 0 0 0 (.slice none 0 0)), some (b5, numC (n ^ (1 + 2)) (prF n (fun i j k => cpS p n T G (fun c => if c = i then 1 else 0) n j k) ((gi * n + gj) * n))), some (b6, tenC ((p : Nat) : Int) ((n : Nat) : Int) ((1 : Nat) : Int) ((2 : Nat) : Int) (.slice (some ⟨b5, 0, none⟩) ((n) ^ ((1) + (2))) ((n) ^ ((1) + (2)))))] (DG ++ []) at hM
          refine c_loop (fun (kk : Nat) a w' => kk ≤ n ∧ (True) ∧ Fr 66 a [(35, .slice (some ⟨bG, 0, none⟩) (n) (cG)), (34, .agg (vecC (fun c => if c = gi then 1 else 0))), (33, .int .i64 (((gi : Nat) : Int))), (32, .agg (algC (p : Int) (n : Int) T f)), (0, .agg (algC (p : Int) (n : Int) T f)), (1, ptr b1 (0)), (2, ptr b2 (0)), (3, .int .i64 (0)), (11, .agg (algC (p : Int) (n : Int) T f)), (12, .int .i64 (0)), (4, .int .i64 (0)), (13, .int .i64 (0)), (14, .bool (decide ((0 : Int) ≠ 0))), (17, .agg (algC (p : Int) (n : Int) T f)), (18, .bool (true)), (19, .bool (false)), (21, ptr b1 (0 + 1)), (22, .int .i64 (((n : Nat) : Int))), (5, .int .i64 (((n : Nat) : Int))), (23, ptr b1 (0 + 0)), (24, .int .i64 (((p : Nat) : Int))), (25, .int .i64 (((n : Nat) : Int))), (26, .agg (tenC ((p : Nat) : Int) ((n : Nat) : Int) ((1 : Nat) : Int) ((2 : Nat) : Int) (.slice (some ⟨b5, 0, none⟩) ((n) ^ ((1) + (2))) ((n) ^ ((1) + (2)))))), (6, ptr b6 (0)), (7, .int .i64 (((gi : Nat) : Int))), (27, .int .i64 (((gi : Nat) : Int))), (28, .int .i64 (((n : Nat) : Int))), (29, .bool (decide ((((gi : Nat) : Int) : Int) < ((n : Nat) : Int)))), (8, .slice (some ⟨bG, 0, none⟩) (n) (cG)), (9, .int .i64 (((gj : Nat) : Int))), (36, .int .i64 (((gj : Nat) : Int))), (37, .int .i64 (((n : Nat) : Int))), (38, .bool (decide ((((gj : Nat) : Int) : Int) < ((n : Nat) : Int)))), (10, .int .i64 (((kk : Nat) : Int)))] ∧ Mem w w' [some (b1, algC (p : Int) (n : Int) T f), some (b2, tenC 0 0 0 0 (.slice none 0 0)), some (b5, numC (n ^ (1 + 2)) (prF n (fun i j k => cpS p n T G (fun c => if c = i then 1 else 0) n j k) ((gi * n + gj) * n + kk))), some (b6, tenC ((p : Nat) : Int) ((n : Nat) : Int) ((1 : Nat) : Int) ((2 : Nat) : Int) (.slice (some ⟨b5, 0, none⟩) ((n) ^ ((1) + (2))) ((n) ^ ((1) + (2)))))] (DG ++ [])) (fun kk => n - kk) 0 ?_ ?_
          ·
            refine ⟨by omega, trivial, hF.sub _ (by repeat' constructor), ?_⟩
            exact hM
          ·
            clear hF hM
            rintro gk a w' ⟨hgk, hinv3, hF, hM⟩
            refine sq ?_
            refine sq ?_
            refine wp_region_lit ?_
            refine st hF (g_move hF rfl) rfl fun a hF => st hF (g_move hF rfl) rfl fun a hF => st hF (g_lss hF rfl rfl) rfl fun a hF => ?_
            refine wpList_nil ?_
            refine tN ?_
            refine c_cond hF rfl (fun h9 => ?_) (fun h9 => ?_)
            ·
              refine wp_skip ?_
              refine tN ?_
              refine sq ?_
              refine wp_block ?_
              refine c_par 18 [] [.val (ptr b6 (0 + 4)), .val (.slice (some ⟨b5, 0, none⟩) ((n) ^ ((1) + (2))) ((n) ^ ((1) + (2)))), .val (.int .i64 (((gi : Nat) : Int))), .val (.int .i64 (((n : Nat) : Int))), .val (.int .i64 ((((gi) * (n) : Nat) : Int))), .val (.int .i64 (((gj : Nat) : Int))), .val (.int .i64 ((((gi) * (n) + gj : Nat) : Int))), .val (.int .i64 (((n : Nat) : Int))), .val (.int .i64 (((((gi) * (n) + gj) * (n) : Nat) : Int))), .val (.int .i64 (((gk : Nat) : Int))), .val (.int .i64 (((((gi) * (n) + gj) * (n) + gk : Nat) : Int))), .val (.slice (some ⟨bG, 0, none⟩) (n) (cG)), .val (.int .i64 (((gj : Nat) : Int))), .val (ptr bG (0 + (gj) * 1)), .val (.slice (some ⟨βG (gj), 0, none⟩) (n) (κG (gj))), .val (.int .i64 (((gk : Nat) : Int))), .val (ptr (βG (gj)) (0 + (gk) * 1)), .val (.int .i64 ((((((fun i j k => cpS p n T G (fun c => if c = i then 1 else 0) n j k)) gi) (gj) (gk) : Nat) : Int)))] hmix rfl hF rfl hM ⟨fun a w gG hF hS hd => by exact par_val hS rfl (g_fieldAddr ty_fo_47_4 hF rfl), fun a w gG hF hS hd => by have hF := hF.ext1 46 (hd 0 rfl rfl); have hM := hS.mem rfl; exact par_val hS rfl (g_load ty_on_45 hF rfl (hM.row 3 rfl) (tenC_4 (by omega))), fun a w gG hF hS hd => by exact par_val hS rfl (g_move hF rfl), fun a w gG hF hS hd => by exact par_val hS rfl (g_move hF rfl), fun a w gG hF hS hd => by have hF := hF.ext1 48 (hd 2 rfl rfl); have hF := hF.ext1 49 (hd 3 rfl rfl); exact par_val hS rfl (g_mul hF rfl rfl (mul_nat (gi) (n) (by omega))), fun a w gG hF hS hd => by exact par_val hS rfl (g_move hF rfl), fun a w gG hF hS hd => by have hF := hF.ext1 50 (hd 4 rfl rfl); have hF := hF.ext1 51 (hd 5 rfl rfl); exact par_val hS rfl (g_add hF rfl rfl (add_nat ((gi) * (n)) (gj) (by omega))), fun a w gG hF hS hd => by exact par_val hS rfl (g_move hF rfl), fun a w gG hF hS hd => by have hF := hF.ext1 52 (hd 6 rfl rfl); have hF := hF.ext1 53 (hd 7 rfl rfl); exact par_val hS rfl (g_mul hF rfl rfl (mul_nat ((gi) * (n) + gj) (n) (by omega))), fun a w gG hF hS hd => by exact par_val hS rfl (g_move hF rfl), fun a w gG hF hS hd => by have hF := hF.ext1 54 (hd 8 rfl rfl); have hF := hF.ext1 55 (hd 9 rfl rfl); exact par_val hS rfl (g_add hF rfl rfl (add_nat (((gi) * (n) + gj) * (n)) (gk) (by omega))), fun a w gG hF hS hd => by exact par_val hS rfl (g_move hF rfl), fun a w gG hF hS hd => by exact par_val hS rfl (g_move hF rfl), fun a w gG hF hS hd => by have hF := hF.ext1 57 (hd 11 rfl rfl); have hF := hF.ext1 58 (hd 12 rfl rfl); exact par_val hS rfl (g_indexSl (i := gj) ty_sl_53 hF rfl rfl rfl (by omega)), fun a w gG hF hS hd => by have hF := hF.ext1 59 (hd 13 rfl rfl); have hM := hS.mem rfl; exact par_val hS rfl (g_load ty_on_45 hF rfl (hM.fzm hmG) (hsG.get1 (gj) (by omega))), fun a w gG hF hS hd => by exact par_val hS rfl (g_move hF rfl), fun a w gG hF hS hd => by have hF := hF.ext1 60 (hd 14 rfl rfl); have hF := hF.ext1 61 (hd 15 rfl rfl); exact par_val hS rfl (g_indexSl (i := gk) ty_sl_45 hF rfl rfl rfl (by omega)), fun a w gG hF hS hd => by have hF := hF.ext1 62 (hd 16 rfl rfl); have hM := hS.mem rfl; exact par_val hS rfl (g_load ty_on_2 hF rfl (hM.fzm (hRmG _ (hRG.mem (gj) (by omega)))) (hRG.get (i := gj) (by omega) (gk) (by omega))), trivial⟩ ?_
              intro a w' L hF hS hq
              have hF := hF.ext1 46 (hq 0 rfl rfl)
              have hF := hF.ext1 47 (hq 1 rfl rfl)
              have hF := hF.ext1 48 (hq 2 rfl rfl)
              have hF := hF.ext1 49 (hq 3 rfl rfl)
              have hF := hF.ext1 50 (hq 4 rfl rfl)
              have hF := hF.ext1 51 (hq 5 rfl rfl)
              have hF := hF.ext1 52 (hq 6 rfl rfl)
              have hF := hF.ext1 53 (hq 7 rfl rfl)
              have hF := hF.ext1 54 (hq 8 rfl rfl)
              have hF := hF.ext1 55 (hq 9 rfl rfl)
              have hF := hF.ext1 56 (hq 10 rfl rfl)
              have hF := hF.ext1 57 (hq 11 rfl rfl)
              have hF := hF.ext1 58 (hq 12 rfl rfl)
              have hF := hF.ext1 59 (hq 13 rfl rfl)
              have hF := hF.ext1 60 (hq 14 rfl rfl)
              have hF := hF.ext1 61 (hq 15 rfl rfl)
              have hF := hF.ext1 62 (hq 16 rfl rfl)
              have hF := hF.ext1 63 (hq 17 rfl rfl)
              have hM := hS.mem rfl
              change wpList Try.prog _ _ [_, _] _ _
              refine st hF (g_indexSl (i := ((gi) * (n) + gj) * (n) + gk) ty_sl_45 hF rfl rfl rfl (by omega)) rfl fun a hF => ?_
              refine stN hF (d_store 2 hM rfl ty_on_2 hF rfl rfl rfl (by first | omega | (simp only [fnC_size, cells_size, vecC_size, tabC_size, planeC_size, mrk_size, rowI_size, cpC_size, tenC_size, smC_size, numC_size, numI_size] <;> omega))) ?_
              intro _ w' a hM hF
              rw [show (numC (n ^ (1 + 2)) (prF n (fun i j k => cpS p n T G (fun c => if c = i then 1 else 0) n j k) ((gi * n + gj) * n + gk))).setIfInBounds (0 + (((gi) * (n) + gj) * (n) + gk) * 1) (.int .i64 ((((((fun i j k => cpS p n T G (fun c => if c = i then 1 else 0) n j k)) gi) (gj) (gk) : Nat) : Int))) = numC (n ^ (1 + 2)) (fun c => if c = (((gi) * (n) + gj) * (n) + gk) then (((fun i j k => cpS p n T G (fun c => if c = i then 1 else 0) n j k)) gi) (gj) (gk) else (prF n (fun i j k => cpS p n T G (fun c => if c = i then 1 else 0) n j k) ((gi * n + gj) * n + gk)) c) from numC_set (k := (((gi) * (n) + gj) * (n) + gk)) (by omega) (fun c _ => rfl)] at hM
              change Mem w w' [some (b1, algC (p : Int) (n : Int) T f), some (b2, tenC 0 0 0 0 (.slice none 0 0)), some (b5, numC (n ^ (1 + 2)) (fun c => if c = (((gi) * (n) + gj) * (n) + gk) then (((fun i j k => cpS p n T G (fun c => if c = i then 1 else 0) n j k)) gi) (gj) (gk) else (prF n (fun i j k => cpS p n T G (fun c => if c = i then 1 else 0) n j k) ((gi * n + gj) * n + gk)) c)), some (b6, tenC ((p : Nat) : Int) ((n : Nat) : Int) ((1 : Nat) : Int) ((2 : Nat) : Int) (.slice (some ⟨b5, 0, none⟩) ((n) ^ ((1) + (2))) ((n) ^ ((1) + (2)))))] (DG ++ []) at hM
              refine wpList_nil ?_
              refine iN ?_
              refine tN ?_
              refine wp_region_lit ?_
              refine st hF (g_move hF rfl) rfl fun a hF => st hF (g_add hF rfl rfl (add_nat (gk) (1) (by omega))) rfl fun a hF => st hF (g_assign hF rfl) rfl fun a hF => ?_
              refine wpList_nil ?_
              refine tN ?_
              refine ⟨gk + 1, ⟨by omega, trivial, hF.sub _ (by repeat' constructor), ?_⟩, by omega⟩
              refine hM.rowc 2 rfl (numC_congr fun c hc => prF_step (T := (fun i j k => cpS p n T G (fun c => if c = i then 1 else 0) n j k)) (by omega) (by omega))
            ·
              obtain rfl : n = gk := by omega
              refine wp_exit ?_
              refine tX ?_
              refine tX ?_
              refine ib_same ?_
              refine iN ?_
              refine tN ?_
              refine wp_region_lit ?_
              refine st hF (g_move hF rfl) rfl fun a hF => st hF (g_add hF rfl rfl (add_nat (gj) (1) (by omega))) rfl fun a hF => st hF (g_assign hF rfl) rfl fun a hF => ?_
              refine wpList_nil ?_
              refine tN ?_
              refine ⟨gj + 1, ⟨by omega, trivial, hF.sub _ (by repeat' constructor), ?_⟩, by omega⟩
              refine hM.rowc 2 rfl (numC_congr fun c hc => by rw [show (gi * n + gj) * n + n = (gi * n + (gj + 1)) * n from by rw [← Nat.succ_mul]; rfl])
        ·
          obtain rfl : n = gj := by omega
          refine wp_exit ?_
          refine tX ?_
          refine tX ?_
          refine ib_same ?_
          refine iN ?_
          refine tN ?_
          refine wp_region_lit ?_
          refine st hF (g_move hF rfl) rfl fun a hF => st hF (g_add hF rfl rfl (add_nat (gi) (1) (by omega))) rfl fun a hF => st hF (g_assign hF rfl) rfl fun a hF => ?_
          refine wpList_nil ?_
          refine tN ?_
          have hM := hM.sub [] (fun x hx => by cases hx)
          refine ⟨gi + 1, ⟨by omega, trivial, hF.sub _ (by repeat' constructor), ?_⟩, by omega⟩
          refine hM.rowc 2 rfl (numC_congr fun c hc => by rw [show gi * n + n = (gi + 1) * n from (Nat.succ_mul gi n).symm])
    ·
      obtain rfl : n = gi := by omega
      refine wp_exit ?_
      refine tX ?_
      refine tX ?_
      refine ib_same ?_
      refine tN ?_
      refine sq ?_
      refine wp_region_lit ?_
      refine st hF (g_loadAgg ty_ag_47 hF rfl (hM.row 3 rfl) (by simp only [fnC_size, cells_size, vecC_size, tabC_size, planeC_size, mrk_size, rowI_size, cpC_size, tenC_size, smC_size, numC_size, numI_size] <;> omega) (whole rfl)) rfl fun a hF => ?_
      refine stN hF (d_storeAgg 1 hM rfl ty_sz_47 hF rfl rfl (tenC_one rfl) (by simp only [fnC_size, cells_size, vecC_size, tabC_size, planeC_size, mrk_size, rowI_size, cpC_size, tenC_size, smC_size, numC_size, numI_size]) (by simp only [fnC_size, cells_size, vecC_size, tabC_size, planeC_size, mrk_size, rowI_size, cpC_size, tenC_size, smC_size, numC_size, numI_size] <;> omega) (splice_whole _ _ rfl)) ?_
      intro _ w' a hM hF
      change Mem w w' [some (b1, algC (p : Int) (n : Int) T f), some (b2, tenC ((p : Nat) : Int) ((n : Nat) : Int) ((1 : Nat) : Int) ((2 : Nat) : Int) (.slice (some ⟨b5, 0, none⟩) ((n) ^ ((1) + (2))) ((n) ^ ((1) + (2))))), some (b5, numC (n ^ (1 + 2)) (prF n (fun i j k => cpS p n T G (fun c => if c = i then 1 else 0) n j k) (n * n * n))), some (b6, tenC ((p : Nat) : Int) ((n : Nat) : Int) ((1 : Nat) : Int) ((2 : Nat) : Int) (.slice (some ⟨b5, 0, none⟩) ((n) ^ ((1) + (2))) ((n) ^ ((1) + (2)))))] [] at hM
      refine st hF (g_assign hF rfl) rfl fun a hF => ?_
      refine wpList_nil ?_
      refine tN ?_
      refine wp_ret ?_
      refine fin2 rfl hF.defers (res_agg ty_ag_47 hF rfl (hM.row 1 rfl) (by simp only [fnC_size, cells_size, vecC_size, tabC_size, planeC_size, mrk_size, rowI_size, cpC_size, tenC_size, smC_size, numC_size, numI_size])) (res_tmp hF rfl) ⟨_, rfl, hM.below, ?_⟩
      exact ⟨_, rfl, hM.ge 2 rfl, hM.row 2 rfl⟩

theorem CoproductTensorIA (p n : Int) (T : Nat → Nat → Nat → Nat) (f : Nat → Nat) (w : World) (hT : ∀ i j k, T i j k ≤ 255) (hf : ∀ i, f i ≤ 255) (hc : ¬ CodeP p n T f 0 (vAtL [])) :
    CallsR Try.prog 23 #[.agg (algC p n T f)] w (fun res _ => res = .tuple #[.agg (tenC 0 0 0 0 (.slice none 0 0)), .int .i64 1]) := by
  refine calls_fr [.agg (algC p n T f)] Try.func23 rfl Try.ntmps23 rfl fun a hF => ?_
  have hM : Mem w w [none, none, none] [] := MemX.start w 3
  change Fr 28 a [(0, .agg (algC p n T f))] at hF
  refine sq ?_
  refine wp_region_lit ?_
  refine stR hF (d_box 0 hM hF rfl) rfl ?_
  rintro _ w' a ⟨b1, rfl, hM, -⟩ hF
  change Mem w w' [some (b1, algC p n T f), none, none] [] at hM
  refine stR hF (d_alloc 1 hM ty_ze_47) rfl ?_
  rintro _ w' a ⟨b2, rfl, hM, -⟩ hF
  change Mem w w' [some (b1, algC p n T f), some (b2, tenC 0 0 0 0 (.slice none 0 0)), none] [] at hM
  refine st hF (g_assign hF rfl) rfl fun a hF => ?_
  refine wpList_nil ?_
  refine tN ?_
  refine sq ?_
  refine wp_region_lit ?_
  refine st hF (g_loadAgg ty_ag_32 hF rfl (hM.row 0 rfl) (by simp only [fnC_size, cells_size, vecC_size, tabC_size, planeC_size, mrk_size, rowI_size, cpC_size, tenC_size, smC_size, numC_size, numI_size] <;> omega) (whole cells_size)) rfl fun a hF => ?_
  refine stR hF (d_call Try.call32 hF (.cons rfl (.cons rfl .nil)) (frobeniusFault_0A p n T f _ (fun _ _ _ => hT _ _ _) (fun _ => hf _) hc)) rfl ?_
  rintro _ w' a ⟨hx, rfl⟩ hF
  have hM := hM.ext hx
  refine st hF (g_assign hF rfl) rfl fun a hF => ?_
  refine wpList_nil ?_
  refine tN ?_
  refine sq ?_
  refine sq ?_
  refine wp_region_lit ?_
  refine st hF (g_move hF rfl) rfl fun a hF => st hF (g_neq hF rfl rfl) rfl fun a hF => ?_
  refine wpList_nil ?_
  refine tN ?_
  refine c_kT hF rfl (by decide) ?_
  refine sq ?_
  refine wp_region_lit ?_
  refine st hF (g_build0 ty_bu_47) rfl fun a hF => st hF (g_move hF rfl) rfl fun a hF => ?_
  refine stN hF (d_storeAgg 1 hM rfl ty_sz_47 hF rfl rfl (tenC_one rfl) (by simp only [fnC_size, cells_size, vecC_size, tabC_size, planeC_size, mrk_size, rowI_size, cpC_size, tenC_size, smC_size, numC_size, numI_size]) (by simp only [fnC_size, cells_size, vecC_size, tabC_size, planeC_size, mrk_size, rowI_size, cpC_size, tenC_size, smC_size, numC_size, numI_size] <;> omega) (splice_whole _ _ rfl)) ?_
  intro _ w' a hM hF
  change Mem w w' [some (b1, algC p n T f), some (b2, tenC 0 0 0 0 (.slice none 0 0)), none] [] at hM
  refine st hF (g_assign hF rfl) rfl fun a hF => ?_
  refine wpList_nil ?_
  refine tN ?_
  refine wp_ret ?_
  refine tR ?_
  refine fin2 rfl hF.defers (res_agg ty_ag_47 hF rfl (hM.row 1 rfl) (by simp only [fnC_size, cells_size, vecC_size, tabC_size, planeC_size, mrk_size, rowI_size, cpC_size, tenC_size, smC_size, numC_size, numI_size])) (res_tmp hF rfl) ⟨_, rfl, hM.below, ?_⟩
  show _ = _
  rfl

theorem CoproductTensorIF (p n : Nat) (T : Nat → Nat → Nat → Nat) (f : Nat → Nat) (w : World) (hp : primeN p) (hn0 : 0 < n) (hn : n ≤ 6) (hTp : ∀ i j k, T i j k < p) (hT0 : ∀ i j k, n ≤ k → T i j k = 0) (hf : ∀ i, f i ≤ 255) (hfr : ¬ FrobN p n T f) (hc : CodeP (p : Int) (n : Int) T f 0 (vAtL [])) :
    CallsR Try.prog 23 #[.agg (algC (p : Int) (n : Int) T f)] w (fun res _ => res = .tuple #[.agg (tenC 0 0 0 0 (.slice none 0 0)), .int .i64 5]) := by
  refine calls_fr [.agg (algC (p : Int) (n : Int) T f)] Try.func23 rfl Try.ntmps23 rfl fun a hF => ?_
  have hM : Mem w w [none, none, none] [] := MemX.start w 3
  change Fr 28 a [(0, .agg (algC (p : Int) (n : Int) T f))] at hF
  have hp2 := hp.two
  have hp13 := hp.le
  have hT : ∀ i j k, T i j k ≤ 255 := fun i j k => by have := hTp i j k; omega
  refine sq ?_
  refine wp_region_lit ?_
  refine stR hF (d_box 0 hM hF rfl) rfl ?_
  rintro _ w' a ⟨b1, rfl, hM, -⟩ hF
  change Mem w w' [some (b1, algC (p : Int) (n : Int) T f), none, none] [] at hM
  refine stR hF (d_alloc 1 hM ty_ze_47) rfl ?_
  rintro _ w' a ⟨b2, rfl, hM, -⟩ hF
  change Mem w w' [some (b1, algC (p : Int) (n : Int) T f), some (b2, tenC 0 0 0 0 (.slice none 0 0)), none] [] at hM
  refine st hF (g_assign hF rfl) rfl fun a hF => ?_
  refine wpList_nil ?_
  refine tN ?_
  refine sq ?_
  refine wp_region_lit ?_
  refine st hF (g_loadAgg ty_ag_32 hF rfl (hM.row 0 rfl) (by simp only [fnC_size, cells_size, vecC_size, tabC_size, planeC_size, mrk_size, rowI_size, cpC_size, tenC_size, smC_size, numC_size, numI_size] <;> omega) (whole cells_size)) rfl fun a hF => ?_
  refine stR hF (d_call Try.call32 hF (.cons rfl (.cons rfl .nil)) (frobeniusFault_0F p n T f _ hp hn0 hn hTp hf hfr hc)) rfl ?_
  rintro _ w' a ⟨hx, rfl⟩ hF
  have hM := hM.ext hx
  refine st hF (g_assign hF rfl) rfl fun a hF => ?_
  refine wpList_nil ?_
  refine tN ?_
  refine sq ?_
  refine sq ?_
  refine wp_region_lit ?_
  refine st hF (g_move hF rfl) rfl fun a hF => st hF (g_neq hF rfl rfl) rfl fun a hF => ?_
  refine wpList_nil ?_
  refine tN ?_
  refine c_kT hF rfl (by decide) ?_
  refine sq ?_
  refine wp_region_lit ?_
  refine st hF (g_build0 ty_bu_47) rfl fun a hF => st hF (g_move hF rfl) rfl fun a hF => ?_
  refine stN hF (d_storeAgg 1 hM rfl ty_sz_47 hF rfl rfl (tenC_one rfl) (by simp only [fnC_size, cells_size, vecC_size, tabC_size, planeC_size, mrk_size, rowI_size, cpC_size, tenC_size, smC_size, numC_size, numI_size]) (by simp only [fnC_size, cells_size, vecC_size, tabC_size, planeC_size, mrk_size, rowI_size, cpC_size, tenC_size, smC_size, numC_size, numI_size] <;> omega) (splice_whole _ _ rfl)) ?_
  intro _ w' a hM hF
  change Mem w w' [some (b1, algC (p : Int) (n : Int) T f), some (b2, tenC 0 0 0 0 (.slice none 0 0)), none] [] at hM
  refine st hF (g_assign hF rfl) rfl fun a hF => ?_
  refine wpList_nil ?_
  refine tN ?_
  refine wp_ret ?_
  refine tR ?_
  refine fin2 rfl hF.defers (res_agg ty_ag_47 hF rfl (hM.row 1 rfl) (by simp only [fnC_size, cells_size, vecC_size, tabC_size, planeC_size, mrk_size, rowI_size, cpC_size, tenC_size, smC_size, numC_size, numI_size])) (res_tmp hF rfl) ⟨_, rfl, hM.below, ?_⟩
  show _ = _
  rfl

theorem CoproductTensorIY (p n : Nat) (T : Nat → Nat → Nat → Nat) (f : Nat → Nat) (w : World) (hp : primeN p) (hn0 : 0 < n) (hn : n ≤ 6) (hTp : ∀ i j k, T i j k < p) (hT0 : ∀ i j k, n ≤ k → T i j k = 0) (hf : ∀ i, f i ≤ 255) (hfr : FrobN p n T f) (G : Nat → Nat → Nat) (hG : IsCop p n (formM p n T f) G) (hc : CodeP (p : Int) (n : Int) T f 0 (vAtL [])) :
    CallsR Try.prog 23 #[.agg (algC (p : Int) (n : Int) T f)] w (fun v w' => TenOut0 w w' (p : Int) (n : Int) ((1 : Nat) : Int) ((2 : Nat) : Int) (n ^ (1 + 2)) (prF n (fun i j k => cpI p n T G (fun c => if c = i then 1 else 0) j k) (n * n * n)) v) := by
  refine calls_fr [.agg (algC (p : Int) (n : Int) T f)] Try.func23 rfl Try.ntmps23 rfl fun a hF => ?_
  have hM : Mem w w [none, none, none, none] [] := MemX.start w 4
  change Fr 28 a [(0, .agg (algC (p : Int) (n : Int) T f))] at hF
  have hp2 := hp.two
  have hp13 := hp.le
  have hT : ∀ i j k, T i j k ≤ 255 := fun i j k => by have := hTp i j k; omega
  have hpP := hc.1.1.1
  have hw := wl_small (i := 1) (o := 2) hn (by omega)
  have hcb : n ^ (1 + 2) = n * n * n := cube
  have hw3 := hw.2.2
  have hnn : n ≤ n * n := Nat.le_mul_of_pos_left _ hn0
  have hnn3 : n * n ≤ n * n * n := Nat.le_mul_of_pos_right _ hn0
  have hGp := hG.lt
  have hCIv : ∀ i j k, cpI p n T G (fun c => if c = i then 1 else 0) j k < p := fun i j k => Nat.mod_lt _ (by omega)
  refine sq ?_
  refine wp_region_lit ?_
  refine stR hF (d_box 0 hM hF rfl) rfl ?_
  rintro _ w' a ⟨b1, rfl, hM, -⟩ hF
  change Mem w w' [some (b1, algC (p : Int) (n : Int) T f), none, none, none] [] at hM
  refine stR hF (d_alloc 1 hM ty_ze_47) rfl ?_
  rintro _ w' a ⟨b2, rfl, hM, -⟩ hF
  change Mem w w' [some (b1, algC (p : Int) (n : Int) T f), some (b2, tenC 0 0 0 0 (.slice none 0 0)), none, none] [] at hM
  refine st hF (g_assign hF rfl) rfl fun a hF => ?_
  refine wpList_nil ?_
  refine tN ?_
  refine sq ?_
  refine wp_region_lit ?_
  refine st hF (g_loadAgg ty_ag_32 hF rfl (hM.row 0 rfl) (by simp only [fnC_size, cells_size, vecC_size, tabC_size, planeC_size, mrk_size, rowI_size, cpC_size, tenC_size, smC_size, numC_size, numI_size] <;> omega) (whole cells_size)) rfl fun a hF => ?_
  refine stR hF (d_call Try.call32 hF (.cons rfl (.cons rfl .nil)) (frobeniusFault_0Y p n T f _ hp hn0 hn hTp hf hfr hc)) rfl ?_
  rintro _ w' a ⟨hx, rfl⟩ hF
  have hM := hM.ext hx
  refine st hF (g_assign hF rfl) rfl fun a hF => ?_
  refine wpList_nil ?_
  refine tN ?_
  refine sq ?_
  refine sq ?_
  refine wp_region_lit ?_
  refine st hF (g_move hF rfl) rfl fun a hF => st hF (g_neq hF rfl rfl) rfl fun a hF => ?_
  refine wpList_nil ?_
  refine tN ?_
  refine c_kF hF rfl (by decide) ?_
  refine wp_skip ?_
  refine tN ?_
  refine sq ?_
  refine wp_region_lit ?_
  refine st hF (g_assign hF rfl) rfl fun a hF => ?_
  refine wpList_nil ?_
  refine tN ?_
  refine sq ?_
  refine sq ?_
  refine wp_region_lit ?_
  refine st hF (g_fieldAddr ty_fo_32_1 hF rfl) rfl fun a hF => st hF (g_load ty_on_2 hF rfl (hM.row 0 rfl) (algC_n (by omega))) rfl fun a hF => st hF (g_move hF rfl) rfl fun a hF => ?_
  refine wpList_nil ?_
  refine tN ?_
  refine wp_block ?_
  change Mem w _ [some (b1, algC (p : Int) (n : Int) T f), some (b2, tenC 0 0 0 0 (.slice none 0 0)), none, none] [] at hM
  refine c_loop (fun (kk : Nat) a w' => kk ≤ n ∧ (True) ∧ ∃ (u5_1 : Value) (e5_1 : Option (Nat × Array Value)), Sl 6 u5_1 e5_1 (kk * n) (fun c => .int .u8 ((((fun i j k => cpI p n T G (fun c => if c = i then 1 else 0) j k)) (c / 6 / n) (c / 6 % n) (c % 6) : Nat) : Int)) ∧ Fr 28 a [(0, .agg (algC (p : Int) (n : Int) T f)), (1, ptr b1 (0)), (2, ptr b2 (0)), (3, .int .i64 (0)), (7, .agg (algC (p : Int) (n : Int) T f)), (8, .int .i64 (0)), (4, .int .i64 (0)), (9, .int .i64 (0)), (10, .bool (decide ((0 : Int) ≠ 0))), (13, ptr b1 (0 + 1)), (14, .int .i64 (((n : Nat) : Int))), (15, .int .i64 (((kk : Nat) : Int))), (5, u5_1)] ∧ Mem w w' [some (b1, algC (p : Int) (n : Int) T f), some (b2, tenC 0 0 0 0 (.slice none 0 0)), none, e5_1] []) (fun kk => n - kk) 0 ?_ ?_
  ·
    refine ⟨by omega, trivial, (.slice none 0 0), (none), (by rw [Nat.zero_mul]; exact Sl.nil 6 _), hF.sub _ (by repeat' constructor), ?_⟩
    exact hM
  ·
    clear hF hM
    rintro gi a w' ⟨hgi, hinv1, u5_1, e5_1, hsl1, hF, hM⟩
    have hri : gi < n → gi * n + n ≤ n * n := fun h => by rw [← Nat.succ_mul]; exact Nat.mul_le_mul_right _ h
    refine sq ?_
    refine wp_region_lit ?_
    refine st hF (g_lss hF rfl rfl) rfl fun a hF => ?_
    refine wpList_nil ?_
    refine tN ?_
    refine sq ?_
    refine c_cond hF rfl (fun h4 => ?_) (fun h4 => ?_)
    ·
      refine wp_skip ?_
      refine tN ?_
      refine sq ?_
      refine wp_block ?_
      refine sq ?_
      refine wp_region_lit ?_
      refine st hF (g_move hF rfl) rfl fun a hF => st hF (g_assign hF rfl) rfl fun a hF => ?_
      refine wpList_nil ?_
      refine tN ?_
      refine c_par 5 [] [.val (u5_1), .val (.agg (algC (p : Int) (n : Int) T f)), .val (.int .i64 (((gi : Nat) : Int))), .val (.agg (vecC (fun c => if c = gi then 1 else 0))), .rel (FreshV w [some (b1, algC (p : Int) (n : Int) T f), some (b2, tenC 0 0 0 0 (.slice none 0 0)), none, e5_1] n (fun c => .int .u8 (((cpI p n T G (fun c => if c = gi then 1 else 0)) (c / 6) (c % 6) : Nat) : Int)))] hmix rfl hF rfl hM ⟨fun a w g hF hS hd => by have hM := hS.mem rfl; exact par_val hS rfl (g_move hF rfl), fun a w g hF hS hd => by have hM := hS.mem rfl; exact par_val hS rfl (g_loadAgg ty_ag_32 hF rfl (hM.row 0 rfl) (by simp only [fnC_size, cells_size, vecC_size, tabC_size, planeC_size, mrk_size, rowI_size, cpC_size, tenC_size, smC_size, numC_size, numI_size] <;> omega) (whole cells_size)), fun a w g hF hS hd => by have hM := hS.mem rfl; exact par_val hS rfl (g_move hF rfl), fun a w g hF hS hd => by have hF := hF.ext1 20 (hd 2 rfl rfl); have hM := hS.mem rfl; exact par_call (by exact ⟨fun _ _ _ h hx => h.last hx, trivial⟩) hS rfl (d_call Try.call55 hF (.cons rfl .nil) (basisVector_ok (gi) _ (by omega))), fun a w g hF hS hd => by have hF := hF.ext1 19 (hd 1 rfl rfl); have hF := hF.ext1 21 (hd 3 rfl rfl); have hM := hS.mem rfl; exact par_rel (by exact ⟨fun _ _ _ h hx => h.last hx, trivial⟩) hS rfl (d_call Try.call54 hF (.cons rfl (.cons rfl .nil)) (coproduct_ok p n T f G (fun c => if c = gi then 1 else 0) _ hp hn0 hn hTp hT0 hf (fun c => by split <;> omega) hfr hG)) (fun _ _ hr => OwnSl.freshV hM hr), trivial⟩ ?_
      intro a w' L hF hS hq
      have hM := hS.mem rfl
      have hF := hF.ext1 18 (hq 0 rfl rfl)
      obtain ⟨bV, cV, csV, hsV, hgV, hM⟩ := hM.addV (hq 4 rfl rfl : FreshV w [some (b1, algC (p : Int) (n : Int) T f), some (b2, tenC 0 0 0 0 (.slice none 0 0)), none, e5_1] n (fun c => .int .u8 (((cpI p n T G (fun c => if c = gi then 1 else 0)) (c / 6) (c % 6) : Nat) : Int)) _ _)
      have hF := hF.ext1 22 hsV.val
      change Mem w w' [some (b1, algC (p : Int) (n : Int) T f), some (b2, tenC 0 0 0 0 (.slice none 0 0)), none, e5_1] ((bV, csV) :: []) at hM
      change wpList Try.prog _ _ [_, _] _ _
      refine stR hF (d_append (k := 3) (N := gi * n) (m := n) (f := (fun c => .int .u8 ((((fun i j k => cpI p n T G (fun c => if c = i then 1 else 0) j k)) (c / 6 / n) (c / 6 % n) (c % 6) : Nat) : Int))) (g := fun c => .int .u8 ((((fun i j k => cpI p n T G (fun c => if c = i then 1 else 0) j k)) gi (c / 6) (c % 6) : Nat) : Int)) ty_si_27 rfl (by decide) hM rfl hF rfl rfl hsl1 (fun i hi => ((hM.fzm (List.mem_cons_self ..)).cell _).trans (by rw [Nat.zero_add]; exact hsV.get i hi)) (fun _ _ => rfl) hn0 (by unfold maxLen; omega) (by omega)) rfl ?_
      rintro u5 w' a ⟨e6, hM, hsA⟩ hF
      have hsA := rows_snoc (T := (fun i j k => cpI p n T G (fun c => if c = i then 1 else 0) j k)) hsA
      have hM := hM.sub [] (fun x hx => by cases hx)
      change Mem w w' [some (b1, algC (p : Int) (n : Int) T f), some (b2, tenC 0 0 0 0 (.slice none 0 0)), none, e6] [] at hM
      refine st hF (g_assign hF rfl) rfl fun a hF => ?_
      refine wpList_nil ?_
      refine iN ?_
      refine tN ?_
      refine wp_region_lit ?_
      refine st hF (g_add hF rfl rfl (add_nat (gi) (1) (by omega))) rfl fun a hF => st hF (g_move hF rfl) rfl fun a hF => ?_
      refine wpList_nil ?_
      refine tN ?_
      refine ⟨gi + 1, ⟨by omega, trivial, (u5), (e6), hsA, hF.sub _ (by repeat' constructor), ?_⟩, by omega⟩
      exact hM
    ·
      obtain rfl : n = gi := by omega
      refine wp_exit ?_
      refine tX ?_
      refine tX ?_
      refine ib_same ?_
      refine tN ?_
      refine sq ?_
      refine wp_region_lit ?_
      refine st hF (g_loadAgg ty_ag_32 hF rfl (hM.row 0 rfl) (by simp only [fnC_size, cells_size, vecC_size, tabC_size, planeC_size, mrk_size, rowI_size, cpC_size, tenC_size, smC_size, numC_size, numI_size] <;> omega) (whole cells_size)) rfl fun a hF => st hF (g_move hF rfl) rfl fun a hF => ?_
      obtain ⟨bP, capP, csP, hvP, heP, hsP⟩ := Sl.pos hsl1 (by omega)
      subst hvP
      subst heP
      change Mem w _ [some (b1, algC (p : Int) (n : Int) T f), some (b2, tenC 0 0 0 0 (.slice none 0 0)), none, some (bP, csP)] [] at hM
      refine stR hF (d_call Try.call56 hF (.cons rfl (.cons rfl (.cons rfl (.cons rfl .nil)))) (tensorOfVectors_ok p n 1 2 bP (capP) (n * n) csP T f (fun q => ((fun i j k => cpI p n T G (fun c => if c = i then 1 else 0) j k)) (q / n) (q % n)) _ hpP hn0 hn (wl_small hn (by omega)) (by rw [cube]; exact Nat.le_refl _) (fun q c => hCIv _ _ _) (by rw [hsP.sz]; exact Nat.mul_le_mul_right _ hsP.le) (fun q hq => hsP.vec (V := (fun q => ((fun i j k => cpI p n T G (fun c => if c = i then 1 else 0) j k)) (q / n) (q % n))) q hq) (hM.row 3 rfl))) rfl ?_
      rintro _ w' a ⟨hx, b7, rfl, hge, hbk⟩ hF
      have hM := hM.fill hx 2 hbk hge
      change Mem w w' [some (b1, algC (p : Int) (n : Int) T f), some (b2, tenC 0 0 0 0 (.slice none 0 0)), some (b7, numC (n ^ (1 + 2)) (tvF n (n * n) (fun q => ((fun i j k => cpI p n T G (fun c => if c = i then 1 else 0) j k)) (q / n) (q % n)))), some (bP, csP)] [] at hM
      refine stN hF (d_storeAgg 1 hM rfl ty_sz_47 hF rfl rfl (tenC_one rfl) (by simp only [fnC_size, cells_size, vecC_size, tabC_size, planeC_size, mrk_size, rowI_size, cpC_size, tenC_size, smC_size, numC_size, numI_size]) (by simp only [fnC_size, cells_size, vecC_size, tabC_size, planeC_size, mrk_size, rowI_size, cpC_size, tenC_size, smC_size, numC_size, numI_size] <;> omega) (splice_whole _ _ rfl)) ?_
      intro _ w' a hM hF
      change Mem w w' [some (b1, algC (p : Int) (n : Int) T f), some (b2, tenC (p : Int) (n : Int) ((1 : Nat) : Int) ((2 : Nat) : Int) (.slice (some ⟨b7, 0, none⟩) (n ^ (1 + 2)) (n ^ (1 + 2)))), some (b7, numC (n ^ (1 + 2)) (tvF n (n * n) (fun q => ((fun i j k => cpI p n T G (fun c => if c = i then 1 else 0) j k)) (q / n) (q % n)))), some (bP, csP)] [] at hM
      refine st hF (g_assign hF rfl) rfl fun a hF => ?_
      refine wpList_nil ?_
      refine tN ?_
      refine wp_ret ?_
      refine fin2 rfl hF.defers (res_agg ty_ag_47 hF rfl (hM.row 1 rfl) (by simp only [fnC_size, cells_size, vecC_size, tabC_size, planeC_size, mrk_size, rowI_size, cpC_size, tenC_size, smC_size, numC_size, numI_size])) (res_tmp hF rfl) ⟨_, rfl, hM.below, ?_⟩
      exact ⟨_, rfl, hM.ge 2 rfl, hM.row 2 rfl⟩

end Go.Proofs.Ytfbhngnfhpjonaa
