/- What functions of the program return, as walks over their operations; no statement of the seat is proved here. -/
import Derived.Test.YtfbhngnfhpjonaaU3
set_option linter.unusedVariables false
set_option linter.unusedSimpArgs false
namespace Go.Proofs.Ytfbhngnfhpjonaa
open Go Go.RowKit Go.Sw Go.Ech
open Classical
/-- Numbers that are 1 at the first j places of the diagonal. -/
def dgF (W j c : Nat) : Nat := if c % (W + 1) = 0 ∧ c / (W + 1) < j then 1 else 0
theorem dg_step {W i c : Nat} : (if c = i * W + i then 1 else dgF W i c) = dgF W (i + 1) c := by
  have e1 : i * W + i = (W + 1) * i := by rw [Nat.add_mul, Nat.mul_comm]; omega
  unfold dgF
  by_cases e : c = i * W + i
  · rw [if_pos e, if_pos]; rw [e, e1]; exact ⟨Nat.mul_mod_right _ _, by rw [Nat.mul_div_cancel_left _ (by omega)]; omega⟩
  · rw [if_neg e]
    by_cases h : c % (W + 1) = 0
    · have h1 := Nat.div_add_mod c (W + 1)
      have h2 : c / (W + 1) ≠ i := fun h3 => e (by rw [h3, h] at h1; omega)
      have h4 : (c / (W + 1) < i + 1) = (c / (W + 1) < i) := by apply propext; omega
      simp only [h4]
    · rw [if_neg (fun q => h q.1), if_neg (fun q => h q.1)]
theorem dg_0 {W c : Nat} : dgF W 0 c = 0 := by unfold dgF; rw [if_neg (fun h => Nat.not_lt_zero _ h.2)]
theorem idx_bd {n k i : Nat} (h : i < n ^ k) : i * n ^ k + n ^ k ≤ n ^ (k + k) := by
  rw [Nat.pow_add, ← Nat.succ_mul]; exact Nat.mul_le_mul_right _ h
theorem half_le {n k : Nat} (hn : 0 < n) (h : n ^ (k + k) ≤ 1296) : n ^ k ≤ 1296 := Nat.le_trans (Nat.pow_le_pow_right hn (by omega)) h
/-- The code of a prime, a size and numbers of legs. -/
theorem wl_of {n i o : Nat} (hn : 0 < n) (h : ¬ 8 < (i : Int)) (h1 : ¬ 8 < (o : Int)) (h2 : ¬ 1296 < ((pwr n (i + o) 1 : Nat) : Int)) : wl n i o := ⟨by omega, by omega, (pwr_iff hn).1 (by omega)⟩
theorem wl_not {n i o : Nat} (hn : 0 < n) (h : 8 < (i : Int) ∨ 8 < (o : Int) ∨ 1296 < ((pwr n (i + o) 1 : Nat) : Int)) : ¬ wl n i o := fun hw => by
  have := (pwr_iff hn).2 hw.2.2
  have h1 := hw.1; have h2 := hw.2.1
  omega













end Go.Proofs.Ytfbhngnfhpjonaa

namespace Go.Proofs.Ytfbhngnfhpjonaa
open Go Go.RowKit Go.Sw Go.Ech
open Classical
theorem ty_bs_101 : ∀ (p : Int) (b : Option Addr) (l c : Nat) w, (Instr.build 101 #[(0, .int .i64 p), (1, .slice b l c)]).run Try.prog w = .ok (.agg (smC p (.slice b l c))) w := by intros; kernel_rfl
/-- The numbers of k vectors, one behind the other. -/
def tvF (n k : Nat) (V : Nat → Nat → Nat) (c : Nat) : Nat := if c < k * n then V (c / n) (c % n) else 0
theorem tvF_0 {n : Nat} {V : Nat → Nat → Nat} {c : Nat} : tvF n 0 V c = 0 := by unfold tvF; rw [if_neg (by omega)]
theorem tv_step {p n g : Nat} {V : Nat → Nat → Nat} {h : Nat → Nat} {c o r : Nat} (hn : 0 < n) (hV : ∀ i c, V i c < p) (hh : ∀ c, h c = V g c) (ho : o = g * n) (hr : r = n) :
    (if o ≤ c ∧ c < o + r then (tvF n g V c + 1 * h (c - o)) % p else tvF n g V c) = tvF n (g + 1) V c := by
  subst ho hr
  unfold tvF
  have e0 : (g + 1) * r = g * r + r := Nat.succ_mul g r
  rw [e0]
  by_cases e : g * r ≤ c ∧ c < g * r + r
  · rw [if_pos e, if_neg (by omega), if_pos (by omega), hh]
    have h1 : c = r * g + (c - g * r) := by rw [Nat.mul_comm r g]; omega
    have h2 : c / r = g := by rw [h1, Nat.mul_add_div hn, Nat.div_eq_of_lt (by omega)]; rfl
    have h3 : c % r = c - g * r := by
      have := Nat.div_add_mod c r; rw [h2, Nat.mul_comm] at this; omega
    rw [h2, h3, Nat.zero_add, Nat.one_mul, Nat.mod_eq_of_lt (hV _ _)]
  · rw [if_neg e]
    have e1 : (c < g * r + r) = (c < g * r) := by apply propext; omega
    simp only [e1]
theorem tvF_le {p n k : Nat} {V : Nat → Nat → Nat} (hV : ∀ i c, V i c < p) (hp2 : p < 100) : ∀ c, tvF n k V c ≤ 255 := fun c => by
  unfold tvF; split
  · have := hV (c / n) (c % n); omega
  · omega

theorem tensorOfVectors_ok (p n i o b0 c0 k : Nat) (cs0 : Array Value) (T : Nat → Nat → Nat → Nat) (f : Nat → Nat) (V : Nat → Nat → Nat) (w : World) (hpP : primeP (p : Int)) (hn0 : 0 < n) (hn : n ≤ 6) (hw : wl n i o) (hk : k * n ≤ n ^ (i + o)) (hV : ∀ i c, V i c < p) (hsz0 : k * 6 ≤ cs0.size) (hv0 : ∀ i, i < k → cs0.extract (i * 6) (i * 6 + 6) = vecC (V i)) (hb : Blk w b0 cs0) :
    CallsR Try.prog 56 #[.agg (algC (p : Int) (n : Int) T f), .int .i64 (((i : Nat) : Int)), .int .i64 (((o : Nat) : Int)), .slice (some ⟨b0, 0, none⟩) (k) (c0)] w (fun v w' => TenOut w w' (p : Int) (n : Int) (i : Int) (o : Int) (n ^ (i + o)) (tvF n k V) v) := by
  refine calls_fr [.agg (algC (p : Int) (n : Int) T f), .int .i64 (((i : Nat) : Int)), .int .i64 (((o : Nat) : Int)), .slice (some ⟨b0, 0, none⟩) (k) (c0)] Try.func56 rfl Try.ntmps56 rfl fun a hF => ?_
  have hM : Mem w w [none, none, none, none, none] [(b0, cs0)] := MemX.startD w 5 _ (startD1 hb)
  change Fr 41 a [(0, .agg (algC (p : Int) (n : Int) T f)), (1, .int .i64 (((i : Nat) : Int))), (2, .int .i64 (((o : Nat) : Int))), (3, .slice (some ⟨b0, 0, none⟩) (k) (c0))] at hF
  have hp0 : 0 < p := by have h := hpP; unfold primeP at h; omega
  have hp2 : p < 100 := by have h := hpP; unfold primeP at h; omega
  have hw3 := hw.2.2
  have hw1 := hw.1
  have hw2 := hw.2.1
  have hkn : k ≤ k * n := Nat.le_mul_of_pos_right _ hn0
  refine sq ?_
  refine wp_region_lit ?_
  refine stR hF (d_box 0 hM hF rfl) rfl ?_
  rintro _ w' a ⟨b1, rfl, hM, -⟩ hF
  change Mem w w' [some (b1, algC (p : Int) (n : Int) T f), none, none, none, none] [(b0, cs0)] at hM
  refine stR hF (d_alloc 1 hM ty_ze_47) rfl ?_
  rintro _ w' a ⟨b2, rfl, hM, -⟩ hF
  change Mem w w' [some (b1, algC (p : Int) (n : Int) T f), some (b2, tenC 0 0 0 0 (.slice none 0 0)), none, none, none] [(b0, cs0)] at hM
  refine wpList_nil ?_
  refine tN ?_
  refine sq ?_
  refine wp_region_lit ?_
  refine st hF (g_fieldAddr ty_fo_32_0 hF rfl) rfl fun a hF => st hF (g_load ty_on_2 hF rfl (hM.row 0 rfl) (algC_p (by omega))) rfl fun a hF => st hF (g_fieldAddr ty_fo_32_1 hF rfl) rfl fun a hF => st hF (g_load ty_on_2 hF rfl (hM.row 0 rfl) (algC_n (by omega))) rfl fun a hF => st hF (g_move hF rfl) rfl fun a hF => st hF (g_move hF rfl) rfl fun a hF => ?_
  refine stR hF (d_call Try.call85 hF (.cons rfl (.cons rfl (.cons rfl (.cons rfl .nil)))) (zeroTensor_ok (p) (n) (i) (o) _ (by omega) (by omega) hw)) rfl ?_
  rintro _ w' a ⟨hx, b3, rfl, hge, hbk⟩ hF
  have hM := hM.fill hx 2 hbk hge
  change Mem w w' [some (b1, algC (p : Int) (n : Int) T f), some (b2, tenC 0 0 0 0 (.slice none 0 0)), some (b3, numC ((n) ^ ((i) + (o))) (fun _ => 0)), none, none] [(b0, cs0)] at hM
  refine stR hF (d_alloc 3 hM ty_ze_47) rfl ?_
  rintro _ w' a ⟨b4, rfl, hM, -⟩ hF
  change Mem w w' [some (b1, algC (p : Int) (n : Int) T f), some (b2, tenC 0 0 0 0 (.slice none 0 0)), some (b3, numC ((n) ^ ((i) + (o))) (fun _ => 0)), some (b4, tenC 0 0 0 0 (.slice none 0 0)), none] [(b0, cs0)] at hM
  refine stN hF (d_storeAgg 3 hM rfl ty_sz_47 hF rfl rfl (tenC_one rfl) (by simp only [fnC_size, cells_size, vecC_size, tabC_size, planeC_size, mrk_size, rowI_size, cpC_size, tenC_size, smC_size, numC_size, numI_size]) (by simp only [fnC_size, cells_size, vecC_size, tabC_size, planeC_size, mrk_size, rowI_size, cpC_size, tenC_size, smC_size, numC_size, numI_size] <;> omega) (splice_whole _ _ rfl)) ?_
  intro _ w' a hM hF
  change Mem w w' [some (b1, algC (p : Int) (n : Int) T f), some (b2, tenC 0 0 0 0 (.slice none 0 0)), some (b3, numC ((n) ^ ((i) + (o))) (fun _ => 0)), some (b4, tenC ((p : Nat) : Int) ((n : Nat) : Int) ((i : Nat) : Int) ((o : Nat) : Int) (.slice (some ⟨b3, 0, none⟩) ((n) ^ ((i) + (o))) ((n) ^ ((i) + (o))))), none] [(b0, cs0)] at hM
  refine wpList_nil ?_
  refine tN ?_
  refine sq ?_
  refine sq ?_
  refine wp_region_lit ?_
  refine st hF (g_move hF rfl) rfl fun a hF => st hF (g_len ty_us_27 hF rfl) rfl fun a hF => st hF (g_move hF rfl) rfl fun a hF => ?_
  refine wpList_nil ?_
  refine tN ?_
  refine wp_block ?_
  change Mem w _ [some (b1, algC (p : Int) (n : Int) T f), some (b2, tenC 0 0 0 0 (.slice none 0 0)), some (b3, numC ((n) ^ ((i) + (o))) (fun _ => 0)), some (b4, tenC ((p : Nat) : Int) ((n : Nat) : Int) ((i : Nat) : Int) ((o : Nat) : Int) (.slice (some ⟨b3, 0, none⟩) ((n) ^ ((i) + (o))) ((n) ^ ((i) + (o))))), none] [(b0, cs0)] at hM
  refine c_loop (fun (kk : Nat) a w' => kk ≤ k ∧ (True) ∧ Fr 41 a [(0, .agg (algC (p : Int) (n : Int) T f)), (1, .int .i64 (((i : Nat) : Int))), (2, .int .i64 (((o : Nat) : Int))), (3, .slice (some ⟨b0, 0, none⟩) (k) (c0)), (4, ptr b1 (0)), (8, ptr b2 (0)), (12, ptr b1 (0 + 0)), (13, .int .i64 (((p : Nat) : Int))), (14, ptr b1 (0 + 1)), (15, .int .i64 (((n : Nat) : Int))), (16, .int .i64 (((i : Nat) : Int))), (17, .int .i64 (((o : Nat) : Int))), (18, .agg (tenC ((p : Nat) : Int) ((n : Nat) : Int) ((i : Nat) : Int) ((o : Nat) : Int) (.slice (some ⟨b3, 0, none⟩) ((n) ^ ((i) + (o))) ((n) ^ ((i) + (o)))))), (9, ptr b4 (0)), (19, .slice (some ⟨b0, 0, none⟩) (k) (c0)), (20, .int .i64 (((k : Nat) : Int))), (21, .int .i64 (((kk : Nat) : Int)))] ∧ Mem w w' [some (b1, algC (p : Int) (n : Int) T f), some (b2, tenC 0 0 0 0 (.slice none 0 0)), some (b3, numC (n ^ (i + o)) (tvF n kk V)), some (b4, tenC ((p : Nat) : Int) ((n : Nat) : Int) ((i : Nat) : Int) ((o : Nat) : Int) (.slice (some ⟨b3, 0, none⟩) ((n) ^ ((i) + (o))) ((n) ^ ((i) + (o))))), none] [(b0, cs0)]) (fun kk => k - kk) 0 ?_ ?_
  ·
    refine ⟨by omega, trivial, hF.sub _ (by repeat' constructor), ?_⟩
    refine hM.rowc 2 rfl (numC_congr fun c hc => tvF_0.symm)
  ·
    clear hF hM
    rintro gi a w' ⟨hgi, hinv1, hF, hM⟩
    have hgn : gi < k → gi * n + n ≤ k * n := fun h => by rw [← Nat.succ_mul]; exact Nat.mul_le_mul_right _ h
    refine sq ?_
    refine wp_region_lit ?_
    refine st hF (g_lss hF rfl rfl) rfl fun a hF => ?_
    refine wpList_nil ?_
    refine tN ?_
    refine sq ?_
    refine c_cond hF rfl (fun h5 => ?_) (fun h5 => ?_)
    ·
      refine wp_skip ?_
      refine tN ?_
      refine sq ?_
      refine wp_block ?_
      refine sq ?_
      refine wp_region_lit ?_
      refine st hF (g_move hF rfl) rfl fun a hF => st hF (g_indexSl (i := gi) ty_sl_27 hF rfl rfl rfl (by omega)) rfl fun a hF => st hF (g_loadAgg ty_ag_30 hF rfl (hM.fz 0 rfl) (by omega) (by have := hv0 (gi) (by omega); simpa only [Nat.zero_add] using this)) rfl fun a hF => ?_
      refine stR hF (d_alloc 4 hM ty_ze_30) rfl ?_
      rintro _ w' a ⟨b6, rfl, hM, -⟩ hF
      change Mem w w' [some (b1, algC (p : Int) (n : Int) T f), some (b2, tenC 0 0 0 0 (.slice none 0 0)), some (b3, numC (n ^ (i + o)) (tvF n gi V)), some (b4, tenC ((p : Nat) : Int) ((n : Nat) : Int) ((i : Nat) : Int) ((o : Nat) : Int) (.slice (some ⟨b3, 0, none⟩) ((n) ^ ((i) + (o))) ((n) ^ ((i) + (o))))), some (b6, fnC 6 (fun _ => .int .u8 (0)))] [(b0, cs0)] at hM
      refine st hF (g_assign hF rfl) rfl fun a hF => ?_
      refine stN hF (d_storeAgg 4 hM rfl ty_sz_30 hF rfl rfl (by first | exact vecC_one | exact cells_one | (refine fnC_one fun _ _ => ?_; first | rfl | (split <;> rfl))) (by simp only [fnC_size, cells_size, vecC_size, tabC_size, planeC_size, mrk_size, rowI_size, cpC_size, tenC_size, smC_size, numC_size, numI_size]) (by simp only [fnC_size, cells_size, vecC_size, tabC_size, planeC_size, mrk_size, rowI_size, cpC_size, tenC_size, smC_size, numC_size, numI_size] <;> omega) (splice_whole _ _ (by simp only [fnC_size, cells_size, vecC_size, tabC_size, planeC_size, mrk_size, rowI_size, cpC_size, tenC_size, smC_size, numC_size, numI_size]))) ?_
      intro _ w' a hM hF
      change Mem w w' [some (b1, algC (p : Int) (n : Int) T f), some (b2, tenC 0 0 0 0 (.slice none 0 0)), some (b3, numC (n ^ (i + o)) (tvF n gi V)), some (b4, tenC ((p : Nat) : Int) ((n : Nat) : Int) ((i : Nat) : Int) ((o : Nat) : Int) (.slice (some ⟨b3, 0, none⟩) ((n) ^ ((i) + (o))) ((n) ^ ((i) + (o))))), some (b6, vecC (V (gi)))] [(b0, cs0)] at hM
      refine wpList_nil ?_
      refine tN ?_
      refine c_par 12 [] [.val (ptr b1 (0 + 0)), .val (.int .i64 (((p : Nat) : Int))), .val (ptr b4 (0 + 4)), .val (.slice (some ⟨b3, 0, none⟩) ((n) ^ ((i) + (o))) ((n) ^ ((i) + (o)))), .val (.int .i64 (((gi : Nat) : Int))), .val (ptr b1 (0 + 1)), .val (.int .i64 (((n : Nat) : Int))), .val (.slice (some ⟨b3, 0 + (gi) * (n) * 1, none⟩) (n) (n)), .val (.agg (smC (((p : Nat) : Int) : Int) (.slice (some ⟨b3, 0 + (gi) * (n) * 1, none⟩) (n) (n)))), .val (ptr b1 (0 + 1)), .val (.int .i64 (((n : Nat) : Int))), .val (.slice (some ⟨b6, 0, none⟩) (n) (6))] hmix rfl hF rfl hM ⟨fun a w gG hF hS hd => by exact par_val hS rfl (g_fieldAddr ty_fo_32_0 hF rfl), fun a w gG hF hS hd => by have hF := hF.ext1 26 (hd 0 rfl rfl); have hM := hS.mem rfl; exact par_val hS rfl (g_load ty_on_2 hF rfl (hM.row 0 rfl) (algC_p (by omega))), fun a w gG hF hS hd => by exact par_val hS rfl (g_fieldAddr ty_fo_47_4 hF rfl), fun a w gG hF hS hd => by have hF := hF.ext1 28 (hd 2 rfl rfl); have hM := hS.mem rfl; exact par_val hS rfl (g_load ty_on_45 hF rfl (hM.row 3 rfl) (tenC_4 (by omega))), fun a w gG hF hS hd => by exact par_val hS rfl (g_move hF rfl), fun a w gG hF hS hd => by exact par_val hS rfl (g_fieldAddr ty_fo_32_1 hF rfl), fun a w gG hF hS hd => by have hF := hF.ext1 31 (hd 5 rfl rfl); have hM := hS.mem rfl; exact par_val hS rfl (g_load ty_on_2 hF rfl (hM.row 0 rfl) (algC_n (by omega))), fun a w gG hF hS hd => by have hF := hF.ext1 29 (hd 3 rfl rfl); have hF := hF.ext1 30 (hd 4 rfl rfl); have hF := hF.ext1 32 (hd 6 rfl rfl); exact par_call (by repeat constructor) hS rfl (d_call Try.call86 hF (.cons rfl (.cons rfl (.cons rfl .nil))) (partOf_ok b3 (0) ((n) ^ ((i) + (o))) ((n) ^ ((i) + (o))) (gi) (n) _ (by omega) (by omega) (by omega))), fun a w gG hF hS hd => by have hF := hF.ext1 27 (hd 1 rfl rfl); have hF := hF.ext1 33 (hd 7 rfl rfl); exact par_val hS rfl (g_buildP hF (build2 hF rfl rfl) (fun w => ty_bs_101 _ _ _ _ w)), fun a w gG hF hS hd => by exact par_val hS rfl (g_fieldAddr ty_fo_32_1 hF rfl), fun a w gG hF hS hd => by have hF := hF.ext1 35 (hd 9 rfl rfl); have hM := hS.mem rfl; exact par_val hS rfl (g_load ty_on_2 hF rfl (hM.row 0 rfl) (algC_n (by omega))), fun a w gG hF hS hd => by have hF := hF.ext1 36 (hd 10 rfl rfl); exact par_val hS rfl (g_sliceArrHi (i := n) ty_ua_30 ty_sz_5 (by decide) hF rfl rfl rfl (by omega)), trivial⟩ ?_
      intro a w' L hF hS hq
      have hF := hF.ext1 26 (hq 0 rfl rfl)
      have hF := hF.ext1 27 (hq 1 rfl rfl)
      have hF := hF.ext1 28 (hq 2 rfl rfl)
      have hF := hF.ext1 29 (hq 3 rfl rfl)
      have hF := hF.ext1 30 (hq 4 rfl rfl)
      have hF := hF.ext1 31 (hq 5 rfl rfl)
      have hF := hF.ext1 32 (hq 6 rfl rfl)
      have hF := hF.ext1 33 (hq 7 rfl rfl)
      have hF := hF.ext1 34 (hq 8 rfl rfl)
      have hF := hF.ext1 35 (hq 9 rfl rfl)
      have hF := hF.ext1 36 (hq 10 rfl rfl)
      have hF := hF.ext1 37 (hq 11 rfl rfl)
      have hM := hS.mem rfl
      change wpList Try.prog _ _ [_] _ _
      refine stR hF (d_callX Try.call87 hF (.cons rfl (.cons rfl (.cons rfl .nil))) (addSumsB_ok (p) b3 (0 + (gi) * (n) * 1) (n) ((n ^ (i + o))) b6 (0) (6) (n) (1) _ (tvF n gi V) (V gi) _ (by omega) (by omega) (by omega) (tvF_le hV hp2) (fun c => by have := hV gi c; omega) (by omega) (by omega) (by omega) (hM.row 2 rfl) (hM.row 4 rfl) (hM.ne2 (i := 4) (j := 2) rfl rfl (by decide)) (fun q hq => vecC_get q (by omega) (by omega)))) rfl ?_
      rintro _ w' a ⟨hx, rfl, hbk⟩ hF
      have hM := hM.upd 2 rfl hx hbk
      change Mem w w' [some (b1, algC (p : Int) (n : Int) T f), some (b2, tenC 0 0 0 0 (.slice none 0 0)), some (b3, numC (n ^ (i + o)) (fun c => if 0 + (gi) * (n) * 1 ≤ c ∧ c < 0 + (gi) * (n) * 1 + (n) then ((tvF n gi V) c + 1 * (V gi) (c - (0 + (gi) * (n) * 1))) % (p) else (tvF n gi V) c)), some (b4, tenC ((p : Nat) : Int) ((n : Nat) : Int) ((i : Nat) : Int) ((o : Nat) : Int) (.slice (some ⟨b3, 0, none⟩) ((n) ^ ((i) + (o))) ((n) ^ ((i) + (o))))), some (b6, vecC (V (gi)))] [(b0, cs0)] at hM
      refine wpList_nil ?_
      refine iN ?_
      refine tN ?_
      refine wp_region_lit ?_
      refine st hF (g_add hF rfl rfl (add_nat (gi) (1) (by omega))) rfl fun a hF => st hF (g_move hF rfl) rfl fun a hF => ?_
      refine wpList_nil ?_
      refine tN ?_
      have hM := hM.drop 4
      refine ⟨gi + 1, ⟨by omega, trivial, hF.sub _ (by repeat' constructor), ?_⟩, by omega⟩
      refine hM.rowc 2 rfl (numC_congr fun c hc => tv_step hn0 hV (fun _ => rfl) (by omega) (by omega))
    ·
      obtain rfl : k = gi := by omega
      refine wp_exit ?_
      refine tX ?_
      refine tX ?_
      refine ib_same ?_
      refine tN ?_
      refine sq ?_
      refine wp_region_lit ?_
      refine st hF (g_loadAgg ty_ag_47 hF rfl (hM.row 3 rfl) (by simp only [fnC_size, cells_size, vecC_size, tabC_size, planeC_size, mrk_size, rowI_size, cpC_size, tenC_size, smC_size, numC_size, numI_size] <;> omega) (whole rfl)) rfl fun a hF => ?_
      refine stN hF (d_storeAgg 1 hM rfl ty_sz_47 hF rfl rfl (tenC_one rfl) (by simp only [fnC_size, cells_size, vecC_size, tabC_size, planeC_size, mrk_size, rowI_size, cpC_size, tenC_size, smC_size, numC_size, numI_size]) (by simp only [fnC_size, cells_size, vecC_size, tabC_size, planeC_size, mrk_size, rowI_size, cpC_size, tenC_size, smC_size, numC_size, numI_size] <;> omega) (splice_whole _ _ rfl)) ?_
      intro _ w' a hM hF
      change Mem w w' [some (b1, algC (p : Int) (n : Int) T f), some (b2, tenC ((p : Nat) : Int) ((n : Nat) : Int) ((i : Nat) : Int) ((o : Nat) : Int) (.slice (some ⟨b3, 0, none⟩) ((n) ^ ((i) + (o))) ((n) ^ ((i) + (o))))), some (b3, numC (n ^ (i + o)) (tvF n k V)), some (b4, tenC ((p : Nat) : Int) ((n : Nat) : Int) ((i : Nat) : Int) ((o : Nat) : Int) (.slice (some ⟨b3, 0, none⟩) ((n) ^ ((i) + (o))) ((n) ^ ((i) + (o))))), none] [(b0, cs0)] at hM
      refine wpList_nil ?_
      refine tN ?_
      refine wp_ret ?_
      refine fin1 rfl hF.defers (res_agg ty_ag_47 hF rfl (hM.row 1 rfl) (by simp only [fnC_size, cells_size, vecC_size, tabC_size, planeC_size, mrk_size, rowI_size, cpC_size, tenC_size, smC_size, numC_size, numI_size])) ⟨_, rfl, hM.below, ?_⟩
      exact ⟨_, rfl, hM.ge 2 rfl, hM.row 2 rfl⟩


end Go.Proofs.Ytfbhngnfhpjonaa
