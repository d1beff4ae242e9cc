/- What functions of the program return, as walks over their operations; no statement of the seat is proved here. -/
import Derived.Test.YthliekalhgafcaaT13
import Derived.Test.YthliekalhgafcaaSw15
set_option linter.unusedVariables false
set_option linter.unusedSimpArgs false
namespace Go.Proofs.Ythliekalhgafcaa
open Go Go.RowKit Go.Sw Go.Ech
open Classical
/-- Sums modulo p of J terms, one after the other. -/
def acA (p : Nat) (t : Nat → Nat → Nat → Nat) (r k : Nat) : Nat → Nat
  | 0 => 0
  | J + 1 => (acA p t r k J + t r k J) % p
theorem acA_lt {p r k J : Nat} {t : Nat → Nat → Nat → Nat} (hp : 0 < p) : acA p t r k J < p := by
  cases J with
  | zero => exact hp
  | succ J => exact Nat.mod_lt _ hp
theorem acA_sum {p r k : Nat} {t : Nat → Nat → Nat → Nat} (hp : 0 < p) : ∀ J, acA p t r k J = sumTo (t r k) J % p
  | 0 => (Nat.zero_mod p).symm
  | J + 1 => by
    show (acA p t r k J + t r k J) % p = (sumTo (t r k) J + t r k J) % p
    rw [acA_sum hp J, Nat.mod_add_mod]
def acF (p W M : Nat) (t : Nat → Nat → Nat → Nat) (i j c : Nat) : Nat := acA p t (c / W) (c % W) (if c / W < i then M else if c / W = i then j else 0)
section
variable {p W M i j c : Nat} {t : Nat → Nat → Nat → Nat}
theorem acF_lt (hp : 0 < p) : acF p W M t i j c < p := acA_lt hp
theorem acF_0 : acF p W M t 0 0 c = 0 := by
  unfold acF
  rw [if_neg (Nat.not_lt_zero _)]
  split <;> rfl
theorem acF_row : acF p W M t i M c = acF p W M t (i + 1) 0 c := by
  unfold acF
  congr 1
  by_cases h1 : c / W < i
  · rw [if_pos h1, if_pos (by omega)]
  · rw [if_neg h1]
    by_cases h2 : c / W = i
    · rw [if_pos h2, if_pos (by omega)]
    · rw [if_neg h2, if_neg (by omega)]
      split <;> rfl
theorem acF_step {o L : Nat} {h' : Nat → Nat} (hW : 0 < W) (ho : o = i * W) (hL : L = W) (hh : ∀ q, h' q = t i q j) :
    (if o ≤ c ∧ c < o + L then (acF p W M t i j c + 1 * h' (c - o)) % p else acF p W M t i j c) = acF p W M t i (j + 1) c := by
  subst ho hL
  by_cases e : c / L = i
  · rw [if_pos ((div_row hW).1 e), hh, Nat.one_mul]
    unfold acF
    rw [if_neg (by omega), if_pos e, if_neg (by omega), if_pos e, mod_row e, e]
    rfl
  · rw [if_neg (fun q => e ((div_row hW).2 q))]
    unfold acF
    rw [if_neg e, if_neg e]
end
/-- The numbers of a tensor that closing adds up. -/
def clT (n W : Nat) (f : Nat → Nat) (r k J : Nat) : Nat := f (((r * n + J) * W + k) * n + J)
theorem idx_bd1 {n i a : Nat} (h : a < n ^ i) : a * n + n ≤ n ^ (i + 1) := by
  rw [Nat.pow_succ, ← Nat.succ_mul]; exact Nat.mul_le_mul_right _ h
theorem idx_ge {n i a : Nat} (h : n ^ i ≤ a) : n ^ (i + 1) ≤ a * n := by
  rw [Nat.pow_succ]; exact Nat.mul_le_mul_right _ h

theorem endingWith_ok (b q0 c j n o : Nat) (cs : Array Value) (h : Nat → Nat) (w : World) (hn : n ≤ 6) (hj : j < n) (hW : n ^ (o + 1) ≤ 1296) (hb : Blk w b cs) (hg : ∀ i, i < n ^ (o + 1) → cs[q0 + i * 1]? = some (.int .i64 ((h i : Nat) : Int))) :
    CallsR Try.prog 69 #[.slice (some ⟨b, q0, none⟩) ((n ^ (o + 1))) (c), .int .i64 (((j : Nat) : Int)), .int .i64 (((n : Nat) : Int))] w (OwnSl 1 w (n ^ o) (fun e => .int .i64 ((h (j + n * e) : Nat) : Int))) := by
  refine calls_fr [.slice (some ⟨b, q0, none⟩) ((n ^ (o + 1))) (c), .int .i64 (((j : Nat) : Int)), .int .i64 (((n : Nat) : Int))] Try.func69 rfl Try.ntmps69 rfl fun a hF => ?_
  have hM : Mem w w [none, none] [(b, cs)] := MemX.startD w 2 _ (startD1 hb)
  change Fr 25 a [(0, .slice (some ⟨b, q0, none⟩) ((n ^ (o + 1))) (c)), (1, .int .i64 (((j : Nat) : Int))), (2, .int .i64 (((n : Nat) : Int)))] at hF
  have hW0 := pow_one_le (k := o) (show 0 < n by omega)
  have hWo : n ^ o ≤ n ^ (o + 1) := pow_le_add (by omega)
  refine sq ?_
  refine wp_region_lit ?_
  refine st hF (g_assign hF rfl) rfl fun a hF => ?_
  refine wpList_nil ?_
  refine tN ?_
  refine sq ?_
  refine wp_region_lit ?_
  refine st hF (g_assign hF rfl) rfl fun a hF => ?_
  refine wpList_nil ?_
  refine tN ?_
  refine sq ?_
  refine sq ?_
  refine wp_region_lit ?_
  refine st hF (g_move hF rfl) rfl fun a hF => st hF (g_assign hF rfl) rfl fun a hF => ?_
  refine wpList_nil ?_
  refine tN ?_
  refine wp_block ?_
  change Mem w _ [none, none] [(b, cs)] at hM
  refine c_loop (fun (kk : Nat) a w' => kk ≤ n ^ o ∧ (True) ∧ ∃ (u7_1 : Value) (e7_1 : Option (Nat × Array Value)), Sl 1 u7_1 e7_1 (kk) (fun e => .int .i64 ((h (j + n * e) : Nat) : Int)) ∧ Fr 25 a [(0, .slice (some ⟨b, q0, none⟩) ((n ^ (o + 1))) (c)), (1, .int .i64 (((j : Nat) : Int))), (2, .int .i64 (((n : Nat) : Int))), (6, .slice none 0 0), (9, .int .i64 (((j : Nat) : Int))), (8, .int .i64 (((j + n * kk : Nat) : Int))), (7, u7_1)] ∧ Mem w w' [none, e7_1] [(b, cs)]) (fun kk => n ^ o - kk) 0 ?_ ?_
  ·
    refine ⟨by omega, trivial, (.slice none 0 0), (none), Sl.nil _ _, hF.sub _ (by repeat' constructor), ?_⟩
    exact hM
  ·
    clear hF hM
    rintro gk a w' ⟨hgk, hinv1, u7_1, e7_1, hsl, hF, hM⟩
    have hgk : gk < n ^ o → gk * n + n ≤ n ^ (o + 1) := idx_bd1
    have hge : n ^ o ≤ gk → n ^ (o + 1) ≤ gk * n := idx_ge
    have hsm : n * (gk + 1) = gk * n + n := by rw [Nat.mul_comm, Nat.succ_mul]
    have hcm : n * gk = gk * n := Nat.mul_comm ..
    refine sq ?_
    refine sq ?_
    refine wp_region_lit ?_
    refine st hF (g_move hF rfl) rfl fun a hF => st hF (g_move hF rfl) rfl fun a hF => st hF (g_len ty_us_22 hF rfl) rfl fun a hF => st hF (g_lss hF rfl rfl) rfl fun a hF => ?_
    refine wpList_nil ?_
    refine tN ?_
    refine c_cond hF rfl (fun h1 => ?_) (fun h1 => ?_)
    ·
      refine wp_skip ?_
      refine tN ?_
      refine sq ?_
      refine wp_block ?_
      refine wp_region_lit ?_
      refine st hF (g_move hF rfl) rfl fun a hF => st hF (g_move hF rfl) rfl fun a hF => st hF (g_move hF rfl) rfl fun a hF => st hF (g_indexSl (i := j + n * gk) ty_sl_22 hF rfl rfl rfl (by omega)) rfl fun a hF => st hF (g_load ty_on_2 hF rfl (hM.fz 0 rfl) (hg (j + n * gk) (by omega))) rfl fun a hF => ?_
      refine stR hF (d_buildC 0 hM hF (build1 hF rfl) (ty_bs1_22 _)) rfl ?_
      rintro _ w' a ⟨b2, rfl, hM, -⟩ hF
      change Mem w w' [some (b2, #[.int .i64 (((h (j + n * gk) : Nat) : Int))]), e7_1] [(b, cs)] at hM
      refine stR hF (d_append (k := 1) (m := 1) (g := fun _ => .int .i64 (((h (j + n * gk) : Nat) : Int))) ty_si_22 rfl (by decide) hM rfl hF rfl rfl hsl (fun i hi => by rw [show i = 0 by omega]; exact (hM.row 0 rfl).cell 0) (fun _ _ => rfl) (by decide) (by unfold maxLen; omega) (by omega)) rfl ?_
      rintro u3 w' a ⟨e4, hM, hs5⟩ hF
      change Mem w w' [some (b2, #[.int .i64 (((h (j + n * gk) : Nat) : Int))]), e4] [(b, cs)] at hM
      refine st hF (g_assign hF rfl) rfl fun a hF => ?_
      refine wpList_nil ?_
      refine iN ?_
      refine tN ?_
      refine wp_region_lit ?_
      refine st hF (g_move hF rfl) rfl fun a hF => st hF (g_move hF rfl) rfl fun a hF => st hF (g_add hF rfl rfl (show _ = ((j + n * (gk + 1) : Nat) : Int) from (add_then (by omega) (by omega)))) rfl fun a hF => st hF (g_assign hF rfl) rfl fun a hF => ?_
      refine wpList_nil ?_
      refine tN ?_
      have hM := hM.drop 0
      refine ⟨gk + 1, ⟨by omega, trivial, (u3), (e4), hs5.snoc rfl, hF.sub _ (by repeat' constructor), ?_⟩, by omega⟩
      exact hM
    ·
      refine wp_exit ?_
      refine tX ?_
      refine tX ?_
      refine ib_same ?_
      refine tN ?_
      refine sq ?_
      refine wp_region_lit ?_
      refine st hF (g_move hF rfl) rfl fun a hF => st hF (g_assign hF rfl) rfl fun a hF => ?_
      refine wpList_nil ?_
      refine tN ?_
      refine wp_ret ?_
      refine fin1 rfl hF.defers (res_tmp hF rfl) ⟨_, rfl, hM.below, ?_⟩
      obtain rfl : gk = n ^ o := by omega
      exact OwnSl.pos hM (k := 1) rfl hsl (by omega)

theorem CloseTensorIA (p n i o : Int) (b m : Nat) (g : Nat → Int) (w : World) (hb : Blk w b (numI m g)) (hm : m < 10000000) (hA : ¬ TenP p n i o m g) :
    CallsR Try.prog 34 #[.agg (tenC p n i o (.slice (some ⟨b, 0, none⟩) m m))] w (fun res _ => res = .tuple #[.agg (tenC 0 0 0 0 (.slice none 0 0)), .int .i64 1]) := by
  refine calls_fr [.agg (tenC p n i o (.slice (some ⟨b, 0, none⟩) m m))] Try.func34 rfl Try.ntmps34 rfl fun a hF => ?_
  have hM : Mem w w [none, none, none, none, none] [(b, numI m g)] := MemX.startD w 5 _ (startD1 hb)
  change Fr 68 a [(0, .agg (tenC p n i o (.slice (some ⟨b, 0, none⟩) m m)))] at hF
  refine sq ?_
  refine wp_region_lit ?_
  refine stR hF (d_box 0 hM hF rfl) rfl ?_
  rintro _ w' a ⟨b1, rfl, hM, -⟩ hF
  change Mem w w' [some (b1, tenC p n i o (.slice (some ⟨b, 0, none⟩) m m)), none, none, none, none] [(b, numI m g)] at hM
  refine stR hF (d_alloc 1 hM ty_ze_27) rfl ?_
  rintro _ w' a ⟨b2, rfl, hM, -⟩ hF
  change Mem w w' [some (b1, tenC p n i o (.slice (some ⟨b, 0, none⟩) m m)), some (b2, tenC 0 0 0 0 (.slice none 0 0)), none, none, none] [(b, numI m g)] at hM
  refine st hF (g_assign hF rfl) rfl fun a hF => ?_
  refine wpList_nil ?_
  refine tN ?_
  refine sq ?_
  refine sq ?_
  refine wp_region_lit ?_
  refine st hF (g_loadAgg ty_ag_27 hF rfl (hM.row 0 rfl) (by simp only [fnC_size, cells_size, vecC_size, tabC_size, planeC_size, tenC_size, smC_size, numC_size, numI_size] <;> omega) (whole rfl)) rfl fun a hF => ?_
  refine stR hF (d_call Try.call16 hF (.cons rfl .nil) (IsTensor_ok p n i o b m g _ (hM.fz 0 rfl) (by omega))) rfl ?_
  rintro _ w' a ⟨hx, rfl⟩ hF
  have hM := hM.ext hx
  refine st hF (g_notP hF rfl) rfl fun a hF => ?_
  refine wpList_nil ?_
  refine tN ?_
  refine c_cond hF rfl (fun h3 => ?_) (fun h3 => ?_)
  ·
    refine sq ?_
    refine wp_region_lit ?_
    refine st hF (g_build0 ty_bu_27) rfl fun a hF => ?_
    refine stN hF (d_storeAgg 1 hM rfl ty_sz_27 hF rfl rfl (tenC_one rfl) (by simp only [fnC_size, cells_size, vecC_size, tabC_size, planeC_size, tenC_size, smC_size, numC_size, numI_size]) (by simp only [fnC_size, cells_size, vecC_size, tabC_size, planeC_size, tenC_size, smC_size, numC_size, numI_size] <;> omega) (splice_whole _ _ rfl)) ?_
    intro _ w' a hM hF
    change Mem w w' [some (b1, tenC p n i o (.slice (some ⟨b, 0, none⟩) m m)), some (b2, tenC 0 0 0 0 (.slice none 0 0)), none, none, none] [(b, numI m g)] at hM
    refine st hF (g_assign hF rfl) rfl fun a hF => ?_
    refine wpList_nil ?_
    refine tN ?_
    refine wp_ret ?_
    refine tR ?_
    refine fin2 rfl hF.defers (res_agg ty_ag_27 hF rfl (hM.row 1 rfl) (by simp only [fnC_size, cells_size, vecC_size, tabC_size, planeC_size, tenC_size, smC_size, numC_size, numI_size])) (res_tmp hF rfl) ⟨_, rfl, hM.below, ?_⟩
    show _ = _
    rfl
  ·
    exact absurd (Decidable.not_not.1 h3) hA

theorem CloseTensorSA (p n i o : Int) (b m : Nat) (g : Nat → Int) (w : World) (hb : Blk w b (numI m g)) (hm : m < 10000000) (hA : ¬ TenP p n i o m g) :
    CallsR Try.prog 33 #[.agg (tenC p n i o (.slice (some ⟨b, 0, none⟩) m m))] w (fun res _ => res = .tuple #[.agg (tenC 0 0 0 0 (.slice none 0 0)), .int .i64 1]) := by
  refine calls_fr [.agg (tenC p n i o (.slice (some ⟨b, 0, none⟩) m m))] Try.func33 rfl Try.ntmps33 rfl fun a hF => ?_
  have hM : Mem w w [none, none, none, none] [(b, numI m g)] := MemX.startD w 4 _ (startD1 hb)
  change Fr 99 a [(0, .agg (tenC p n i o (.slice (some ⟨b, 0, none⟩) m m)))] at hF
  refine sq ?_
  refine wp_region_lit ?_
  refine stR hF (d_box 0 hM hF rfl) rfl ?_
  rintro _ w' a ⟨b1, rfl, hM, -⟩ hF
  change Mem w w' [some (b1, tenC p n i o (.slice (some ⟨b, 0, none⟩) m m)), none, none, none] [(b, numI m g)] at hM
  refine stR hF (d_alloc 1 hM ty_ze_27) rfl ?_
  rintro _ w' a ⟨b2, rfl, hM, -⟩ hF
  change Mem w w' [some (b1, tenC p n i o (.slice (some ⟨b, 0, none⟩) m m)), some (b2, tenC 0 0 0 0 (.slice none 0 0)), none, none] [(b, numI m g)] at hM
  refine st hF (g_assign hF rfl) rfl fun a hF => ?_
  refine wpList_nil ?_
  refine tN ?_
  refine sq ?_
  refine wp_block ?_
  refine sq ?_
  refine wp_region_lit ?_
  refine st hF (g_loadAgg ty_ag_27 hF rfl (hM.row 0 rfl) (by simp only [fnC_size, cells_size, vecC_size, tabC_size, planeC_size, tenC_size, smC_size, numC_size, numI_size] <;> omega) (whole rfl)) rfl fun a hF => ?_
  refine stR hF (d_call Try.call40 hF (.cons rfl .nil) (l03Is_ok p n i o b m g _ (hM.fz 0 rfl) (by omega))) rfl ?_
  rintro _ w' a ⟨hx, rfl⟩ hF
  have hM := hM.ext hx
  refine st hF (g_notP hF rfl) rfl fun a hF => st hF (g_assign hF rfl) rfl fun a hF => ?_
  refine wpList_nil ?_
  refine tN ?_
  refine c_cond hF rfl (fun h3 => ?_) (fun h3 => ?_)
  ·
    refine sq ?_
    refine wp_region_lit ?_
    refine st hF (g_build0 ty_bu_27) rfl fun a hF => ?_
    refine stN hF (d_storeAgg 1 hM rfl ty_sz_27 hF rfl rfl (tenC_one rfl) (by simp only [fnC_size, cells_size, vecC_size, tabC_size, planeC_size, tenC_size, smC_size, numC_size, numI_size]) (by simp only [fnC_size, cells_size, vecC_size, tabC_size, planeC_size, tenC_size, smC_size, numC_size, numI_size] <;> omega) (splice_whole _ _ rfl)) ?_
    intro _ w' a hM hF
    change Mem w w' [some (b1, tenC p n i o (.slice (some ⟨b, 0, none⟩) m m)), some (b2, tenC 0 0 0 0 (.slice none 0 0)), none, none] [(b, numI m g)] at hM
    refine st hF (g_assign hF rfl) rfl fun a hF => ?_
    refine wpList_nil ?_
    refine tN ?_
    refine wp_ret ?_
    refine iR ?_
    refine tR ?_
    refine fin2 rfl hF.defers (res_agg ty_ag_27 hF rfl (hM.row 1 rfl) (by simp only [fnC_size, cells_size, vecC_size, tabC_size, planeC_size, tenC_size, smC_size, numC_size, numI_size])) (res_tmp hF rfl) ⟨_, rfl, hM.below, ?_⟩
    show _ = _
    rfl
  ·
    exact absurd (Decidable.not_not.1 h3) hA

theorem CloseTensorIR (p n i o : Int) (b m : Nat) (g : Nat → Int) (w : World) (hb : Blk w b (numI m g)) (hm : m < 10000000) (h1 : TenP p n i o m g) (hR : ¬ (1 ≤ i ∧ 1 ≤ o)) :
    CallsR Try.prog 34 #[.agg (tenC p n i o (.slice (some ⟨b, 0, none⟩) m m))] w (fun res _ => res = .tuple #[.agg (tenC 0 0 0 0 (.slice none 0 0)), .int .i64 2]) := by
  refine calls_fr [.agg (tenC p n i o (.slice (some ⟨b, 0, none⟩) m m))] Try.func34 rfl Try.ntmps34 rfl fun a hF => ?_
  have hM : Mem w w [none, none, none, none, none] [(b, numI m g)] := MemX.startD w 5 _ (startD1 hb)
  change Fr 68 a [(0, .agg (tenC p n i o (.slice (some ⟨b, 0, none⟩) m m)))] at hF
  have hi0 := h1.1.2.2.1.1
  have ho0 := h1.1.2.2.2.1
  refine sq ?_
  refine wp_region_lit ?_
  refine stR hF (d_box 0 hM hF rfl) rfl ?_
  rintro _ w' a ⟨b1, rfl, hM, -⟩ hF
  change Mem w w' [some (b1, tenC p n i o (.slice (some ⟨b, 0, none⟩) m m)), none, none, none, none] [(b, numI m g)] at hM
  refine stR hF (d_alloc 1 hM ty_ze_27) rfl ?_
  rintro _ w' a ⟨b2, rfl, hM, -⟩ hF
  change Mem w w' [some (b1, tenC p n i o (.slice (some ⟨b, 0, none⟩) m m)), some (b2, tenC 0 0 0 0 (.slice none 0 0)), none, none, none] [(b, numI m g)] at hM
  refine st hF (g_assign hF rfl) rfl fun a hF => ?_
  refine wpList_nil ?_
  refine tN ?_
  refine sq ?_
  refine sq ?_
  refine wp_region_lit ?_
  refine st hF (g_loadAgg ty_ag_27 hF rfl (hM.row 0 rfl) (by simp only [fnC_size, cells_size, vecC_size, tabC_size, planeC_size, tenC_size, smC_size, numC_size, numI_size] <;> omega) (whole rfl)) rfl fun a hF => ?_
  refine stR hF (d_call Try.call16 hF (.cons rfl .nil) ((CallsR.val (IsTensor_ok p n i o b m g _ (hM.fz 0 rfl) (by omega)) (congrArg Value.bool (decide_eq_true h1))))) rfl ?_
  rintro _ w' a ⟨hx, rfl⟩ hF
  have hM := hM.ext hx
  refine st hF (g_not hF rfl) rfl fun a hF => ?_
  refine wpList_nil ?_
  refine tN ?_
  refine c_Fl hF rfl ?_
  refine wp_skip ?_
  refine tN ?_
  refine sq ?_
  refine sq ?_
  refine wp_region_lit ?_
  refine st hF (g_fieldAddr ty_fo_27_2 hF rfl) rfl fun a hF => st hF (g_load ty_on_2 hF rfl (hM.row 0 rfl) (tenC_2 (by omega))) rfl fun a hF => st hF (g_eql hF rfl rfl) rfl fun a hF => st hF (g_move hF rfl) rfl fun a hF => ?_
  by_cases g4 : (i : Int) = 0
  ·
    first | rw [decide_eq_true g4] at hF | simp only [decide_eq_true g4] at hF
    refine stS hF rfl rfl rfl rfl rfl fun a hF => stS hF rfl rfl rfl rfl rfl fun a hF => stS hF rfl rfl rfl rfl rfl fun a hF => st hF (g_pickT hF rfl rfl) rfl fun a hF => ?_
    refine wpList_nil ?_
    refine tN ?_
    refine c_T hF rfl ?_
    refine sq ?_
    refine wp_region_lit ?_
    refine st hF (g_build0 ty_bu_27) rfl fun a hF => ?_
    refine stN hF (d_storeAgg 1 hM rfl ty_sz_27 hF rfl rfl (tenC_one rfl) (by simp only [fnC_size, cells_size, vecC_size, tabC_size, planeC_size, tenC_size, smC_size, numC_size, numI_size]) (by simp only [fnC_size, cells_size, vecC_size, tabC_size, planeC_size, tenC_size, smC_size, numC_size, numI_size] <;> omega) (splice_whole _ _ rfl)) ?_
    intro _ w' a hM hF
    change Mem w w' [some (b1, tenC p n i o (.slice (some ⟨b, 0, none⟩) m m)), some (b2, tenC 0 0 0 0 (.slice none 0 0)), none, none, none] [(b, numI m g)] at hM
    refine st hF (g_assign hF rfl) rfl fun a hF => ?_
    refine wpList_nil ?_
    refine tN ?_
    refine wp_ret ?_
    refine tR ?_
    refine fin2 rfl hF.defers (res_agg ty_ag_27 hF rfl (hM.row 1 rfl) (by simp only [fnC_size, cells_size, vecC_size, tabC_size, planeC_size, tenC_size, smC_size, numC_size, numI_size])) (res_tmp hF rfl) ⟨_, rfl, hM.below, ?_⟩
    show _ = _
    rfl
  ·
    first | rw [decide_eq_false g4] at hF | simp only [decide_eq_false g4] at hF
    refine stY hF rfl rfl rfl (g_fieldAddr ty_fo_27_3 hF rfl) rfl fun a hF => stY hF rfl rfl rfl (g_load ty_on_2 hF rfl (hM.row 0 rfl) (tenC_3 (by omega))) rfl fun a hF => stY hF rfl rfl rfl (g_eql hF rfl rfl) rfl fun a hF => st hF (g_pickF hF rfl rfl) rfl fun a hF => ?_
    refine wpList_nil ?_
    refine tN ?_
    refine c_cond hF rfl (fun h6 => ?_) (fun h6 => ?_)
    ·
      refine sq ?_
      refine wp_region_lit ?_
      refine st hF (g_build0 ty_bu_27) rfl fun a hF => ?_
      refine stN hF (d_storeAgg 1 hM rfl ty_sz_27 hF rfl rfl (tenC_one rfl) (by simp only [fnC_size, cells_size, vecC_size, tabC_size, planeC_size, tenC_size, smC_size, numC_size, numI_size]) (by simp only [fnC_size, cells_size, vecC_size, tabC_size, planeC_size, tenC_size, smC_size, numC_size, numI_size] <;> omega) (splice_whole _ _ rfl)) ?_
      intro _ w' a hM hF
      change Mem w w' [some (b1, tenC p n i o (.slice (some ⟨b, 0, none⟩) m m)), some (b2, tenC 0 0 0 0 (.slice none 0 0)), none, none, none] [(b, numI m g)] at hM
      refine st hF (g_assign hF rfl) rfl fun a hF => ?_
      refine wpList_nil ?_
      refine tN ?_
      refine wp_ret ?_
      refine tR ?_
      refine fin2 rfl hF.defers (res_agg ty_ag_27 hF rfl (hM.row 1 rfl) (by simp only [fnC_size, cells_size, vecC_size, tabC_size, planeC_size, tenC_size, smC_size, numC_size, numI_size])) (res_tmp hF rfl) ⟨_, rfl, hM.below, ?_⟩
      show _ = _
      rfl
    ·
      exfalso; omega

theorem CloseTensorSR (p n i o : Int) (b m : Nat) (g : Nat → Int) (w : World) (hb : Blk w b (numI m g)) (hm : m < 10000000) (h1 : TenP p n i o m g) (hR : ¬ (1 ≤ i ∧ 1 ≤ o)) :
    CallsR Try.prog 33 #[.agg (tenC p n i o (.slice (some ⟨b, 0, none⟩) m m))] w (fun res _ => res = .tuple #[.agg (tenC 0 0 0 0 (.slice none 0 0)), .int .i64 2]) := by
  refine calls_fr [.agg (tenC p n i o (.slice (some ⟨b, 0, none⟩) m m))] Try.func33 rfl Try.ntmps33 rfl fun a hF => ?_
  have hM : Mem w w [none, none, none, none] [(b, numI m g)] := MemX.startD w 4 _ (startD1 hb)
  change Fr 99 a [(0, .agg (tenC p n i o (.slice (some ⟨b, 0, none⟩) m m)))] at hF
  have hi0 := h1.1.2.2.1.1
  have ho0 := h1.1.2.2.2.1
  refine sq ?_
  refine wp_region_lit ?_
  refine stR hF (d_box 0 hM hF rfl) rfl ?_
  rintro _ w' a ⟨b1, rfl, hM, -⟩ hF
  change Mem w w' [some (b1, tenC p n i o (.slice (some ⟨b, 0, none⟩) m m)), none, none, none] [(b, numI m g)] at hM
  refine stR hF (d_alloc 1 hM ty_ze_27) rfl ?_
  rintro _ w' a ⟨b2, rfl, hM, -⟩ hF
  change Mem w w' [some (b1, tenC p n i o (.slice (some ⟨b, 0, none⟩) m m)), some (b2, tenC 0 0 0 0 (.slice none 0 0)), none, none] [(b, numI m g)] at hM
  refine st hF (g_assign hF rfl) rfl fun a hF => ?_
  refine wpList_nil ?_
  refine tN ?_
  refine sq ?_
  refine wp_block ?_
  refine sq ?_
  refine wp_region_lit ?_
  refine st hF (g_loadAgg ty_ag_27 hF rfl (hM.row 0 rfl) (by simp only [fnC_size, cells_size, vecC_size, tabC_size, planeC_size, tenC_size, smC_size, numC_size, numI_size] <;> omega) (whole rfl)) rfl fun a hF => ?_
  refine stR hF (d_call Try.call40 hF (.cons rfl .nil) ((CallsR.val (l03Is_ok p n i o b m g _ (hM.fz 0 rfl) (by omega)) (congrArg Value.bool (decide_eq_true h1))))) rfl ?_
  rintro _ w' a ⟨hx, rfl⟩ hF
  have hM := hM.ext hx
  refine st hF (g_not hF rfl) rfl fun a hF => st hF (g_assign hF rfl) rfl fun a hF => ?_
  refine wpList_nil ?_
  refine tN ?_
  refine c_Fl hF rfl ?_
  refine sq ?_
  refine wp_region_lit ?_
  refine st hF (g_fieldAddr ty_fo_27_2 hF rfl) rfl fun a hF => st hF (g_load ty_on_2 hF rfl (hM.row 0 rfl) (tenC_2 (by omega))) rfl fun a hF => st hF (g_lss hF rfl rfl) rfl fun a hF => st hF (g_move hF rfl) rfl fun a hF => ?_
  by_cases g4 : (i : Int) < 1
  ·
    first | rw [decide_eq_true g4] at hF | simp only [decide_eq_true g4] at hF
    refine stS hF rfl rfl rfl rfl rfl fun a hF => stS hF rfl rfl rfl rfl rfl fun a hF => stS hF rfl rfl rfl rfl rfl fun a hF => st hF (g_pickT hF rfl rfl) rfl fun a hF => st hF (g_assign hF rfl) rfl fun a hF => ?_
    refine wpList_nil ?_
    refine tN ?_
    refine c_T hF rfl ?_
    refine sq ?_
    refine wp_region_lit ?_
    refine st hF (g_build0 ty_bu_27) rfl fun a hF => ?_
    refine stN hF (d_storeAgg 1 hM rfl ty_sz_27 hF rfl rfl (tenC_one rfl) (by simp only [fnC_size, cells_size, vecC_size, tabC_size, planeC_size, tenC_size, smC_size, numC_size, numI_size]) (by simp only [fnC_size, cells_size, vecC_size, tabC_size, planeC_size, tenC_size, smC_size, numC_size, numI_size] <;> omega) (splice_whole _ _ rfl)) ?_
    intro _ w' a hM hF
    change Mem w w' [some (b1, tenC p n i o (.slice (some ⟨b, 0, none⟩) m m)), some (b2, tenC 0 0 0 0 (.slice none 0 0)), none, none] [(b, numI m g)] at hM
    refine st hF (g_assign hF rfl) rfl fun a hF => ?_
    refine wpList_nil ?_
    refine tN ?_
    refine wp_ret ?_
    refine iR ?_
    refine tR ?_
    refine fin2 rfl hF.defers (res_agg ty_ag_27 hF rfl (hM.row 1 rfl) (by simp only [fnC_size, cells_size, vecC_size, tabC_size, planeC_size, tenC_size, smC_size, numC_size, numI_size])) (res_tmp hF rfl) ⟨_, rfl, hM.below, ?_⟩
    show _ = _
    rfl
  ·
    first | rw [decide_eq_false g4] at hF | simp only [decide_eq_false g4] at hF
    refine stY hF rfl rfl rfl (g_fieldAddr ty_fo_27_3 hF rfl) rfl fun a hF => stY hF rfl rfl rfl (g_load ty_on_2 hF rfl (hM.row 0 rfl) (tenC_3 (by omega))) rfl fun a hF => stY hF rfl rfl rfl (g_lss hF rfl rfl) rfl fun a hF => st hF (g_pickF hF rfl rfl) rfl fun a hF => st hF (g_assign hF rfl) rfl fun a hF => ?_
    refine wpList_nil ?_
    refine tN ?_
    refine c_cond hF rfl (fun h6 => ?_) (fun h6 => ?_)
    ·
      refine sq ?_
      refine wp_region_lit ?_
      refine st hF (g_build0 ty_bu_27) rfl fun a hF => ?_
      refine stN hF (d_storeAgg 1 hM rfl ty_sz_27 hF rfl rfl (tenC_one rfl) (by simp only [fnC_size, cells_size, vecC_size, tabC_size, planeC_size, tenC_size, smC_size, numC_size, numI_size]) (by simp only [fnC_size, cells_size, vecC_size, tabC_size, planeC_size, tenC_size, smC_size, numC_size, numI_size] <;> omega) (splice_whole _ _ rfl)) ?_
      intro _ w' a hM hF
      change Mem w w' [some (b1, tenC p n i o (.slice (some ⟨b, 0, none⟩) m m)), some (b2, tenC 0 0 0 0 (.slice none 0 0)), none, none] [(b, numI m g)] at hM
      refine st hF (g_assign hF rfl) rfl fun a hF => ?_
      refine wpList_nil ?_
      refine tN ?_
      refine wp_ret ?_
      refine iR ?_
      refine tR ?_
      refine fin2 rfl hF.defers (res_agg ty_ag_27 hF rfl (hM.row 1 rfl) (by simp only [fnC_size, cells_size, vecC_size, tabC_size, planeC_size, tenC_size, smC_size, numC_size, numI_size])) (res_tmp hF rfl) ⟨_, rfl, hM.below, ?_⟩
      show _ = _
      rfl
    ·
      exfalso; omega

theorem CloseTensorIB (p n i o b : Nat) (f : Nat → Nat) (w : World) (hpP : primeP (p : Int)) (hn0 : 0 < n) (hn : n ≤ 6) (hwa : wl n (i + 1) (o + 1)) (hfp : ∀ c, f c < p) (hb : Blk w b (numC (n ^ ((i + 1) + (o + 1))) f)) :
    CallsR Try.prog 34 #[.agg (tenC (p : Int) (n : Int) ((i + 1 : Nat) : Int) ((o + 1 : Nat) : Int) (.slice (some ⟨b, 0, none⟩) (n ^ ((i + 1) + (o + 1))) (n ^ ((i + 1) + (o + 1)))))] w (fun v w' => TenOut0 w w' (p : Int) (n : Int) (i : Int) (o : Int) (n ^ (i + o)) (acF p (n ^ o) n (clT n (n ^ o) f) (n ^ i) 0) v) := by
  refine calls_fr [.agg (tenC (p : Int) (n : Int) ((i + 1 : Nat) : Int) ((o + 1 : Nat) : Int) (.slice (some ⟨b, 0, none⟩) (n ^ ((i + 1) + (o + 1))) (n ^ ((i + 1) + (o + 1)))))] Try.func34 rfl Try.ntmps34 rfl fun a hF => ?_
  have hM : Mem w w [none, none, none, none, none] [(b, numC (n ^ ((i + 1) + (o + 1))) f)] := MemX.startD w 5 _ (startD1 hb)
  change Fr 68 a [(0, .agg (tenC (p : Int) (n : Int) ((i + 1 : Nat) : Int) ((o + 1 : Nat) : Int) (.slice (some ⟨b, 0, none⟩) (n ^ ((i + 1) + (o + 1))) (n ^ ((i + 1) + (o + 1))))))] at hF
  have hp0 : 0 < p := by have h := hpP; unfold primeP at h; omega
  have hp2 : p < 100 := by have h := hpP; unfold primeP at h; omega
  have hwa3 := hwa.2.2
  have hwa1 := hwa.1
  have hwa2 := hwa.2.1
  have h1 := TenP.of_nat hpP hn0 hn hwa rfl hfp
  have hE : n ^ (i + o) ≤ n ^ ((i + 1) + (o + 1)) := Nat.pow_le_pow_right hn0 (by omega)
  have hw : wl n i o := ⟨by omega, by omega, by omega⟩
  have hE2 : n ^ (o + 1) ≤ n ^ ((i + 1) + (o + 1)) := pow_le_add2 hn0
  have hE3 : n ^ (i + 1) ≤ n ^ ((i + 1) + (o + 1)) := pow_le_add hn0
  have hWl : n ^ o ≤ n ^ (i + o) := pow_le_add2 hn0
  have hRl : n ^ i ≤ n ^ (i + o) := pow_le_add hn0
  have hW0 := pow_one_le (k := o) hn0
  have hWn : n ^ (o + 1) = n ^ o * n := Nat.pow_succ ..
  refine sq ?_
  refine wp_region_lit ?_
  refine stR hF (d_box 0 hM hF rfl) rfl ?_
  rintro _ w' a ⟨b1, rfl, hM, -⟩ hF
  change Mem w w' [some (b1, tenC (p : Int) (n : Int) ((i + 1 : Nat) : Int) ((o + 1 : Nat) : Int) (.slice (some ⟨b, 0, none⟩) (n ^ ((i + 1) + (o + 1))) (n ^ ((i + 1) + (o + 1))))), none, none, none, none] [(b, numC (n ^ ((i + 1) + (o + 1))) f)] at hM
  refine stR hF (d_alloc 1 hM ty_ze_27) rfl ?_
  rintro _ w' a ⟨b2, rfl, hM, -⟩ hF
  change Mem w w' [some (b1, tenC (p : Int) (n : Int) ((i + 1 : Nat) : Int) ((o + 1 : Nat) : Int) (.slice (some ⟨b, 0, none⟩) (n ^ ((i + 1) + (o + 1))) (n ^ ((i + 1) + (o + 1))))), some (b2, tenC 0 0 0 0 (.slice none 0 0)), none, none, none] [(b, numC (n ^ ((i + 1) + (o + 1))) f)] at hM
  refine st hF (g_assign hF rfl) rfl fun a hF => ?_
  refine wpList_nil ?_
  refine tN ?_
  refine sq ?_
  refine sq ?_
  refine wp_region_lit ?_
  refine st hF (g_loadAgg ty_ag_27 hF rfl (hM.row 0 rfl) (by simp only [fnC_size, cells_size, vecC_size, tabC_size, planeC_size, tenC_size, smC_size, numC_size, numI_size] <;> omega) (whole rfl)) rfl fun a hF => ?_
  refine stR hF (d_call Try.call16 hF (.cons rfl .nil) ((CallsR.val (IsTensor_ok (p : Int) (n : Int) ((i + 1 : Nat) : Int) ((o + 1 : Nat) : Int) b (n ^ ((i + 1) + (o + 1))) (fun c => ((f c : Nat) : Int)) _ (hM.fz 0 rfl) (by omega)) (congrArg Value.bool (decide_eq_true h1))))) rfl ?_
  rintro _ w' a ⟨hx, rfl⟩ hF
  have hM := hM.ext hx
  refine st hF (g_not hF rfl) rfl fun a hF => ?_
  refine wpList_nil ?_
  refine tN ?_
  refine c_Fl hF rfl ?_
  refine wp_skip ?_
  refine tN ?_
  refine sq ?_
  refine sq ?_
  refine wp_region_lit ?_
  refine st hF (g_fieldAddr ty_fo_27_2 hF rfl) rfl fun a hF => st hF (g_load ty_on_2 hF rfl (hM.row 0 rfl) (tenC_2 (by omega))) rfl fun a hF => st hF (g_eql hF rfl rfl) rfl fun a hF => st hF (g_move hF rfl) rfl fun a hF => ?_
  by_cases g4 : (((i + 1 : Nat) : Int) : Int) = 0
  ·
    first | rw [decide_eq_true g4] at hF | simp only [decide_eq_true g4] at hF
    exfalso; omega
  ·
    first | rw [decide_eq_false g4] at hF | simp only [decide_eq_false g4] at hF
    refine stY hF rfl rfl rfl (g_fieldAddr ty_fo_27_3 hF rfl) rfl fun a hF => stY hF rfl rfl rfl (g_load ty_on_2 hF rfl (hM.row 0 rfl) (tenC_3 (by omega))) rfl fun a hF => stY hF rfl rfl rfl (g_eql hF rfl rfl) rfl fun a hF => st hF (g_pickF hF rfl rfl) rfl fun a hF => ?_
    refine wpList_nil ?_
    refine tN ?_
    refine c_cond hF rfl (fun h5 => ?_) (fun h5 => ?_)
    ·
      exfalso; omega
    ·
      refine wp_skip ?_
      refine tN ?_
      refine sq ?_
      refine wp_region_lit ?_
      refine st hF (g_fieldAddr ty_fo_27_0 hF rfl) rfl fun a hF => st hF (g_load ty_on_2 hF rfl (hM.row 0 rfl) (tenC_0 (by omega))) rfl fun a hF => st hF (g_fieldAddr ty_fo_27_1 hF rfl) rfl fun a hF => st hF (g_load ty_on_2 hF rfl (hM.row 0 rfl) (tenC_1 (by omega))) rfl fun a hF => st hF (g_fieldAddr ty_fo_27_2 hF rfl) rfl fun a hF => st hF (g_load ty_on_2 hF rfl (hM.row 0 rfl) (tenC_2 (by omega))) rfl fun a hF => st hF (g_sub hF rfl rfl (show _ = ((i : Nat) : Int) from (show IntKind.i64.wrap (((i + 1 : Nat) : Int) - 1) = ((i : Nat) : Int) from by rw [wrap_i64 (by omega) (by omega)]; omega))) rfl fun a hF => st hF (g_fieldAddr ty_fo_27_3 hF rfl) rfl fun a hF => st hF (g_load ty_on_2 hF rfl (hM.row 0 rfl) (tenC_3 (by omega))) rfl fun a hF => st hF (g_sub hF rfl rfl (show _ = ((o : Nat) : Int) from (show IntKind.i64.wrap (((o + 1 : Nat) : Int) - 1) = ((o : Nat) : Int) from by rw [wrap_i64 (by omega) (by omega)]; omega))) rfl fun a hF => ?_
      refine stR hF (d_call Try.call49 hF (.cons rfl (.cons rfl (.cons rfl (.cons rfl .nil)))) (zeroTensor_ok (p) (n) (i) (o) _ (by omega) (by omega) hw)) rfl ?_
      rintro _ w' a ⟨hx, b6, rfl, hge, hbk⟩ hF
      have hM := hM.fill hx 2 hbk hge
      change Mem w w' [some (b1, tenC (p : Int) (n : Int) ((i + 1 : Nat) : Int) ((o + 1 : Nat) : Int) (.slice (some ⟨b, 0, none⟩) (n ^ ((i + 1) + (o + 1))) (n ^ ((i + 1) + (o + 1))))), some (b2, tenC 0 0 0 0 (.slice none 0 0)), some (b6, numC ((n) ^ ((i) + (o))) (fun _ => 0)), none, none] [(b, numC (n ^ ((i + 1) + (o + 1))) f)] at hM
      refine stR hF (d_alloc 3 hM ty_ze_27) rfl ?_
      rintro _ w' a ⟨b7, rfl, hM, -⟩ hF
      change Mem w w' [some (b1, tenC (p : Int) (n : Int) ((i + 1 : Nat) : Int) ((o + 1 : Nat) : Int) (.slice (some ⟨b, 0, none⟩) (n ^ ((i + 1) + (o + 1))) (n ^ ((i + 1) + (o + 1))))), some (b2, tenC 0 0 0 0 (.slice none 0 0)), some (b6, numC ((n) ^ ((i) + (o))) (fun _ => 0)), some (b7, tenC 0 0 0 0 (.slice none 0 0)), none] [(b, numC (n ^ ((i + 1) + (o + 1))) f)] at hM
      refine stN hF (d_storeAgg 3 hM rfl ty_sz_27 hF rfl rfl (tenC_one rfl) (by simp only [fnC_size, cells_size, vecC_size, tabC_size, planeC_size, tenC_size, smC_size, numC_size, numI_size]) (by simp only [fnC_size, cells_size, vecC_size, tabC_size, planeC_size, tenC_size, smC_size, numC_size, numI_size] <;> omega) (splice_whole _ _ rfl)) ?_
      intro _ w' a hM hF
      change Mem w w' [some (b1, tenC (p : Int) (n : Int) ((i + 1 : Nat) : Int) ((o + 1 : Nat) : Int) (.slice (some ⟨b, 0, none⟩) (n ^ ((i + 1) + (o + 1))) (n ^ ((i + 1) + (o + 1))))), some (b2, tenC 0 0 0 0 (.slice none 0 0)), some (b6, numC ((n) ^ ((i) + (o))) (fun _ => 0)), some (b7, tenC ((p : Nat) : Int) ((n : Nat) : Int) ((i : Nat) : Int) ((o : Nat) : Int) (.slice (some ⟨b6, 0, none⟩) ((n) ^ ((i) + (o))) ((n) ^ ((i) + (o))))), none] [(b, numC (n ^ ((i + 1) + (o + 1))) f)] at hM
      refine wpList_nil ?_
      refine tN ?_
      refine sq ?_
      refine sq ?_
      refine wp_region_lit ?_
      refine st hF (g_fieldAddr ty_fo_27_1 hF rfl) rfl fun a hF => st hF (g_load ty_on_2 hF rfl (hM.row 3 rfl) (tenC_1 (by omega))) rfl fun a hF => st hF (g_fieldAddr ty_fo_27_2 hF rfl) rfl fun a hF => st hF (g_load ty_on_2 hF rfl (hM.row 3 rfl) (tenC_2 (by omega))) rfl fun a hF => ?_
      refine stR hF (d_call Try.call44 hF (.cons rfl (.cons rfl .nil)) (countChoices_ok (n) (i) _ (by omega) (by omega))) rfl ?_
      rintro _ w' a ⟨hx, rfl⟩ hF
      have hM := hM.ext hx
      refine st hF (g_move hF rfl) rfl fun a hF => ?_
      refine wpList_nil ?_
      refine tN ?_
      refine wp_block ?_
      change Mem w _ [some (b1, tenC (p : Int) (n : Int) ((i + 1 : Nat) : Int) ((o + 1 : Nat) : Int) (.slice (some ⟨b, 0, none⟩) (n ^ ((i + 1) + (o + 1))) (n ^ ((i + 1) + (o + 1))))), some (b2, tenC 0 0 0 0 (.slice none 0 0)), some (b6, numC ((n) ^ ((i) + (o))) (fun _ => 0)), some (b7, tenC ((p : Nat) : Int) ((n : Nat) : Int) ((i : Nat) : Int) ((o : Nat) : Int) (.slice (some ⟨b6, 0, none⟩) ((n) ^ ((i) + (o))) ((n) ^ ((i) + (o))))), none] [(b, numC (n ^ ((i + 1) + (o + 1))) f)] at hM
      refine c_loop (fun (kk : Nat) a w' => kk ≤ n ^ i ∧ (True) ∧ Fr 68 a [(0, .agg (tenC (p : Int) (n : Int) ((i + 1 : Nat) : Int) ((o + 1 : Nat) : Int) (.slice (some ⟨b, 0, none⟩) (n ^ ((i + 1) + (o + 1))) (n ^ ((i + 1) + (o + 1)))))), (1, ptr b1 (0)), (2, ptr b2 (0)), (3, .int .i64 (0)), (8, .agg (tenC (p : Int) (n : Int) ((i + 1 : Nat) : Int) ((o + 1 : Nat) : Int) (.slice (some ⟨b, 0, none⟩) (n ^ ((i + 1) + (o + 1))) (n ^ ((i + 1) + (o + 1)))))), (9, .bool (true)), (10, .bool (false)), (12, ptr b1 (0 + 2)), (13, .int .i64 (((i + 1 : Nat) : Int))), (14, .bool (false)), (15, .bool (false)), (16, ptr b1 (0 + 3)), (17, .int .i64 (((o + 1 : Nat) : Int))), (18, .bool (decide ((((o + 1 : Nat) : Int) : Int) = 0))), (19, .bool (decide ((((o + 1 : Nat) : Int) : Int) = 0))), (21, ptr b1 (0 + 0)), (22, .int .i64 (((p : Nat) : Int))), (23, ptr b1 (0 + 1)), (24, .int .i64 (((n : Nat) : Int))), (25, ptr b1 (0 + 2)), (26, .int .i64 (((i + 1 : Nat) : Int))), (27, .int .i64 (((i : Nat) : Int))), (28, ptr b1 (0 + 3)), (29, .int .i64 (((o + 1 : Nat) : Int))), (30, .int .i64 (((o : Nat) : Int))), (31, .agg (tenC ((p : Nat) : Int) ((n : Nat) : Int) ((i : Nat) : Int) ((o : Nat) : Int) (.slice (some ⟨b6, 0, none⟩) ((n) ^ ((i) + (o))) ((n) ^ ((i) + (o)))))), (4, ptr b7 (0)), (32, ptr b7 (0 + 1)), (33, .int .i64 (((n : Nat) : Int))), (34, ptr b7 (0 + 2)), (35, .int .i64 (((i : Nat) : Int))), (36, .int .i64 ((((n) ^ (i) : Nat) : Int))), (37, .int .i64 (((kk : Nat) : Int)))] ∧ Mem w w' [some (b1, tenC (p : Int) (n : Int) ((i + 1 : Nat) : Int) ((o + 1 : Nat) : Int) (.slice (some ⟨b, 0, none⟩) (n ^ ((i + 1) + (o + 1))) (n ^ ((i + 1) + (o + 1))))), some (b2, tenC 0 0 0 0 (.slice none 0 0)), some (b6, numC (n ^ (i + o)) (acF p (n ^ o) n (clT n (n ^ o) f) kk 0)), some (b7, tenC ((p : Nat) : Int) ((n : Nat) : Int) ((i : Nat) : Int) ((o : Nat) : Int) (.slice (some ⟨b6, 0, none⟩) ((n) ^ ((i) + (o))) ((n) ^ ((i) + (o))))), none] [(b, numC (n ^ ((i + 1) + (o + 1))) f)]) (fun kk => n ^ i - kk) 0 ?_ ?_
      ·
        refine ⟨by omega, trivial, hF.sub _ (by repeat' constructor), ?_⟩
        refine hM.rowc 2 rfl (numC_congr fun c hc => acF_0.symm)
      ·
        clear hF hM
        rintro gi a w' ⟨hgi, hinv1, hF, hM⟩
        have hr1 : gi < n ^ i → gi * n ^ o + n ^ o ≤ n ^ (i + o) := idx_bd2
        have hr2 : gi < n ^ i → gi * n + n ≤ n ^ (i + 1) := idx_bd1
        refine sq ?_
        refine wp_region_lit ?_
        refine st hF (g_lss hF rfl rfl) rfl fun a hF => ?_
        refine wpList_nil ?_
        refine tN ?_
        refine sq ?_
        refine c_cond hF rfl (fun h8 => ?_) (fun h8 => ?_)
        ·
          refine wp_skip ?_
          refine tN ?_
          refine sq ?_
          refine wp_block ?_
          refine sq ?_
          refine wp_region_lit ?_
          refine st hF (g_move hF rfl) rfl fun a hF => st hF (g_assign hF rfl) rfl fun a hF => ?_
          refine wpList_nil ?_
          refine tN ?_
          refine sq ?_
          refine c_par 7 [4] [.val (ptr b1 (0 + 0)), .val (.int .i64 (((p : Nat) : Int))), .val (.agg (tenC ((p : Nat) : Int) ((n : Nat) : Int) ((i : Nat) : Int) ((o : Nat) : Int) (.slice (some ⟨b6, 0, none⟩) ((n) ^ ((i) + (o))) ((n) ^ ((i) + (o)))))), .val (.int .i64 (((gi : Nat) : Int))), .val (.slice (some ⟨b6, 0 + (gi) * (n) ^ (o) * 1, none⟩) ((n) ^ (o)) ((n) ^ (o))), .val (.agg (smC (((p : Nat) : Int) : Int) (.slice (some ⟨b6, 0 + (gi) * (n) ^ (o) * 1, none⟩) ((n) ^ (o)) ((n) ^ (o))))), .own 4 (smC 0 (.slice none 0 0)) (fun b => ptr b 0)] hmix rfl hF rfl hM ⟨fun a w gG hF hS hd => by exact par_val hS rfl (g_fieldAddr ty_fo_27_0 hF rfl), fun a w gG hF hS hd => by have hF := hF.ext1 40 (hd 0 rfl rfl); have hM := hS.mem rfl; exact par_val hS rfl (g_load ty_on_2 hF rfl (hM.row 0 rfl) (tenC_0 (by omega))), fun a w gG hF hS hd => by have hM := hS.mem rfl; exact par_val hS rfl (g_loadAgg ty_ag_27 hF rfl (hM.row 3 rfl) (by simp only [fnC_size, cells_size, vecC_size, tabC_size, planeC_size, tenC_size, smC_size, numC_size, numI_size] <;> omega) (whole rfl)), fun a w gG hF hS hd => by exact par_val hS rfl (g_move hF rfl), fun a w gG hF hS hd => by have hF := hF.ext1 42 (hd 2 rfl rfl); have hF := hF.ext1 43 (hd 3 rfl rfl); exact par_call (by repeat constructor) hS rfl (d_call Try.call50 hF (.cons rfl (.cons rfl .nil)) (rowOf_ok (p) (n) (i) (o) b6 ((n) ^ ((i) + (o))) (gi) _ (by omega) (by omega) (by omega) (by omega) (by omega))), fun a w gG hF hS hd => by have hF := hF.ext1 41 (hd 1 rfl rfl); have hF := hF.ext1 44 (hd 4 rfl rfl); exact par_val hS rfl (g_buildP hF (build2 hF rfl rfl) (fun w => ty_bs_74 _ _ _ _ w)), fun a w gG hF hS hd => by exact par_own (by repeat constructor) hS rfl rfl rfl rfl (d_alloc 4 hS.1 ty_ze_74), trivial⟩ ?_
          intro a w' L hF hS hq
          have hF := hF.ext1 40 (hq 0 rfl rfl)
          have hF := hF.ext1 41 (hq 1 rfl rfl)
          have hF := hF.ext1 42 (hq 2 rfl rfl)
          have hF := hF.ext1 43 (hq 3 rfl rfl)
          have hF := hF.ext1 44 (hq 4 rfl rfl)
          have hF := hF.ext1 45 (hq 5 rfl rfl)
          obtain ⟨hM, hL⟩ := hS
          obtain ⟨b9, hptr, hkk⟩ := hq 6 rfl rfl
          have hF := hF.ext1 6 hptr
          have hL := hL.take hkk
          obtain rfl := hL.eq
          change Mem w w' [some (b1, tenC (p : Int) (n : Int) ((i + 1 : Nat) : Int) ((o + 1 : Nat) : Int) (.slice (some ⟨b, 0, none⟩) (n ^ ((i + 1) + (o + 1))) (n ^ ((i + 1) + (o + 1))))), some (b2, tenC 0 0 0 0 (.slice none 0 0)), some (b6, numC (n ^ (i + o)) (acF p (n ^ o) n (clT n (n ^ o) f) gi 0)), some (b7, tenC ((p : Nat) : Int) ((n : Nat) : Int) ((i : Nat) : Int) ((o : Nat) : Int) (.slice (some ⟨b6, 0, none⟩) ((n) ^ ((i) + (o))) ((n) ^ ((i) + (o))))), some (b9, smC 0 (.slice none 0 0))] [(b, numC (n ^ ((i + 1) + (o + 1))) f)] at hM
          change wpList Try.prog _ _ [_] _ _
          refine stN hF (d_storeAgg 4 hM rfl ty_sz_74 hF rfl rfl (smC_one rfl) (by simp only [fnC_size, cells_size, vecC_size, tabC_size, planeC_size, tenC_size, smC_size, numC_size, numI_size]) (by simp only [fnC_size, cells_size, vecC_size, tabC_size, planeC_size, tenC_size, smC_size, numC_size, numI_size] <;> omega) (splice_whole _ _ (by simp only [fnC_size, cells_size, vecC_size, tabC_size, planeC_size, tenC_size, smC_size, numC_size, numI_size]))) ?_
          intro _ w' a hM hF
          change Mem w w' [some (b1, tenC (p : Int) (n : Int) ((i + 1 : Nat) : Int) ((o + 1 : Nat) : Int) (.slice (some ⟨b, 0, none⟩) (n ^ ((i + 1) + (o + 1))) (n ^ ((i + 1) + (o + 1))))), some (b2, tenC 0 0 0 0 (.slice none 0 0)), some (b6, numC (n ^ (i + o)) (acF p (n ^ o) n (clT n (n ^ o) f) gi 0)), some (b7, tenC ((p : Nat) : Int) ((n : Nat) : Int) ((i : Nat) : Int) ((o : Nat) : Int) (.slice (some ⟨b6, 0, none⟩) ((n) ^ ((i) + (o))) ((n) ^ ((i) + (o))))), some (b9, smC (((p : Nat) : Int) : Int) (.slice (some ⟨b6, 0 + (gi) * (n) ^ (o) * 1, none⟩) ((n) ^ (o)) ((n) ^ (o))))] [(b, numC (n ^ ((i + 1) + (o + 1))) f)] at hM
          refine wpList_nil ?_
          refine tN ?_
          refine sq ?_
          refine wp_region_lit ?_
          refine st hF (g_fieldAddr ty_fo_27_1 hF rfl) rfl fun a hF => st hF (g_load ty_on_2 hF rfl (hM.row 0 rfl) (tenC_1 (by omega))) rfl fun a hF => st hF (g_move hF rfl) rfl fun a hF => ?_
          refine wpList_nil ?_
          refine tN ?_
          refine wp_block ?_
          change Mem w _ [some (b1, tenC (p : Int) (n : Int) ((i + 1 : Nat) : Int) ((o + 1 : Nat) : Int) (.slice (some ⟨b, 0, none⟩) (n ^ ((i + 1) + (o + 1))) (n ^ ((i + 1) + (o + 1))))), some (b2, tenC 0 0 0 0 (.slice none 0 0)), some (b6, numC (n ^ (i + o)) (acF p (n ^ o) n (clT n (n ^ o) f) gi 0)), some (b7, tenC ((p : Nat) : Int) ((n : Nat) : Int) ((i : Nat) : Int) ((o : Nat) : Int) (.slice (some ⟨b6, 0, none⟩) ((n) ^ ((i) + (o))) ((n) ^ ((i) + (o))))), some (b9, smC (((p : Nat) : Int) : Int) (.slice (some ⟨b6, 0 + (gi) * (n) ^ (o) * 1, none⟩) ((n) ^ (o)) ((n) ^ (o))))] [(b, numC (n ^ ((i + 1) + (o + 1))) f)] at hM
          refine c_loop (fun (kk : Nat) a w' => kk ≤ n ∧ (True) ∧ Fr 68 a [(6, ptr b9 (0)), (45, .agg (smC (((p : Nat) : Int) : Int) (.slice (some ⟨b6, 0 + (gi) * (n) ^ (o) * 1, none⟩) ((n) ^ (o)) ((n) ^ (o))))), (44, .slice (some ⟨b6, 0 + (gi) * (n) ^ (o) * 1, none⟩) ((n) ^ (o)) ((n) ^ (o))), (43, .int .i64 (((gi : Nat) : Int))), (42, .agg (tenC ((p : Nat) : Int) ((n : Nat) : Int) ((i : Nat) : Int) ((o : Nat) : Int) (.slice (some ⟨b6, 0, none⟩) ((n) ^ ((i) + (o))) ((n) ^ ((i) + (o)))))), (41, .int .i64 (((p : Nat) : Int))), (40, ptr b1 (0 + 0)), (0, .agg (tenC (p : Int) (n : Int) ((i + 1 : Nat) : Int) ((o + 1 : Nat) : Int) (.slice (some ⟨b, 0, none⟩) (n ^ ((i + 1) + (o + 1))) (n ^ ((i + 1) + (o + 1)))))), (1, ptr b1 (0)), (2, ptr b2 (0)), (3, .int .i64 (0)), (8, .agg (tenC (p : Int) (n : Int) ((i + 1 : Nat) : Int) ((o + 1 : Nat) : Int) (.slice (some ⟨b, 0, none⟩) (n ^ ((i + 1) + (o + 1))) (n ^ ((i + 1) + (o + 1)))))), (9, .bool (true)), (10, .bool (false)), (12, ptr b1 (0 + 2)), (13, .int .i64 (((i + 1 : Nat) : Int))), (14, .bool (false)), (15, .bool (false)), (16, ptr b1 (0 + 3)), (17, .int .i64 (((o + 1 : Nat) : Int))), (18, .bool (decide ((((o + 1 : Nat) : Int) : Int) = 0))), (19, .bool (decide ((((o + 1 : Nat) : Int) : Int) = 0))), (21, ptr b1 (0 + 0)), (22, .int .i64 (((p : Nat) : Int))), (23, ptr b1 (0 + 1)), (24, .int .i64 (((n : Nat) : Int))), (25, ptr b1 (0 + 2)), (26, .int .i64 (((i + 1 : Nat) : Int))), (27, .int .i64 (((i : Nat) : Int))), (28, ptr b1 (0 + 3)), (29, .int .i64 (((o + 1 : Nat) : Int))), (30, .int .i64 (((o : Nat) : Int))), (31, .agg (tenC ((p : Nat) : Int) ((n : Nat) : Int) ((i : Nat) : Int) ((o : Nat) : Int) (.slice (some ⟨b6, 0, none⟩) ((n) ^ ((i) + (o))) ((n) ^ ((i) + (o)))))), (4, ptr b7 (0)), (32, ptr b7 (0 + 1)), (33, .int .i64 (((n : Nat) : Int))), (34, ptr b7 (0 + 2)), (35, .int .i64 (((i : Nat) : Int))), (36, .int .i64 ((((n) ^ (i) : Nat) : Int))), (37, .int .i64 (((gi : Nat) : Int))), (38, .bool (decide ((((gi : Nat) : Int) : Int) < (((n) ^ (i) : Nat) : Int)))), (39, .int .i64 (((gi : Nat) : Int))), (5, .int .i64 (((gi : Nat) : Int))), (46, ptr b1 (0 + 1)), (47, .int .i64 (((n : Nat) : Int))), (48, .int .i64 (((kk : Nat) : Int)))] ∧ Mem w w' [some (b1, tenC (p : Int) (n : Int) ((i + 1 : Nat) : Int) ((o + 1 : Nat) : Int) (.slice (some ⟨b, 0, none⟩) (n ^ ((i + 1) + (o + 1))) (n ^ ((i + 1) + (o + 1))))), some (b2, tenC 0 0 0 0 (.slice none 0 0)), some (b6, numC (n ^ (i + o)) (acF p (n ^ o) n (clT n (n ^ o) f) gi kk)), some (b7, tenC ((p : Nat) : Int) ((n : Nat) : Int) ((i : Nat) : Int) ((o : Nat) : Int) (.slice (some ⟨b6, 0, none⟩) ((n) ^ ((i) + (o))) ((n) ^ ((i) + (o))))), some (b9, smC (((p : Nat) : Int) : Int) (.slice (some ⟨b6, 0 + (gi) * (n) ^ (o) * 1, none⟩) ((n) ^ (o)) ((n) ^ (o))))] [(b, numC (n ^ ((i + 1) + (o + 1))) f)]) (fun kk => n - kk) 0 ?_ ?_
          ·
            refine ⟨by omega, trivial, hF.sub _ (by repeat' constructor), ?_⟩
            exact hM
          ·
            clear hF hM
            rintro gj a w' ⟨hgj, hinv2, hF, hM⟩
            have hj1 : gi * n + gj < n ^ (i + 1) → (gi * n + gj) * n ^ (o + 1) + n ^ (o + 1) ≤ n ^ ((i + 1) + (o + 1)) := idx_bd2
            refine sq ?_
            refine wp_region_lit ?_
            refine st hF (g_lss hF rfl rfl) rfl fun a hF => ?_
            refine wpList_nil ?_
            refine tN ?_
            refine sq ?_
            refine c_cond hF rfl (fun h10 => ?_) (fun h10 => ?_)
            ·
              refine wp_skip ?_
              refine tN ?_
              refine sq ?_
              refine wp_block ?_
              refine sq ?_
              refine wp_region_lit ?_
              refine st hF (g_move hF rfl) rfl fun a hF => st hF (g_assign hF rfl) rfl fun a hF => ?_
              refine wpList_nil ?_
              refine tN ?_
              refine c_par 13 [] [.val (.agg (smC (((p : Nat) : Int) : Int) (.slice (some ⟨b6, 0 + (gi) * (n) ^ (o) * 1, none⟩) ((n) ^ (o)) ((n) ^ (o))))), .val (.agg (tenC (p : Int) (n : Int) ((i + 1 : Nat) : Int) ((o + 1 : Nat) : Int) (.slice (some ⟨b, 0, none⟩) (n ^ ((i + 1) + (o + 1))) (n ^ ((i + 1) + (o + 1)))))), .val (.int .i64 (((gi : Nat) : Int))), .val (ptr b1 (0 + 1)), .val (.int .i64 (((n : Nat) : Int))), .val (.int .i64 ((((gi) * (n) : Nat) : Int))), .val (.int .i64 (((gj : Nat) : Int))), .val (.int .i64 ((((gi) * (n) + gj : Nat) : Int))), .val (.slice (some ⟨b, 0 + ((gi) * (n) + gj) * (n) ^ (o + 1) * 1, none⟩) ((n) ^ (o + 1)) ((n) ^ (o + 1))), .val (.int .i64 (((gj : Nat) : Int))), .val (ptr b1 (0 + 1)), .val (.int .i64 (((n : Nat) : Int))), .rel (FreshSl w [some (b1, tenC (p : Int) (n : Int) ((i + 1 : Nat) : Int) ((o + 1 : Nat) : Int) (.slice (some ⟨b, 0, none⟩) (n ^ ((i + 1) + (o + 1))) (n ^ ((i + 1) + (o + 1))))), some (b2, tenC 0 0 0 0 (.slice none 0 0)), some (b6, numC (n ^ (i + o)) (acF p (n ^ o) n (clT n (n ^ o) f) gi gj)), some (b7, tenC ((p : Nat) : Int) ((n : Nat) : Int) ((i : Nat) : Int) ((o : Nat) : Int) (.slice (some ⟨b6, 0, none⟩) ((n) ^ ((i) + (o))) ((n) ^ ((i) + (o))))), some (b9, smC (((p : Nat) : Int) : Int) (.slice (some ⟨b6, 0 + (gi) * (n) ^ (o) * 1, none⟩) ((n) ^ (o)) ((n) ^ (o))))] (n ^ o) (fun e => .int .i64 ((f (((gi) * (n) + gj) * (n) ^ (o + 1) + (gj + n * e)) : Nat) : Int)))] hmix rfl hF rfl hM ⟨fun a w gG hF hS hd => by have hM := hS.mem rfl; exact par_val hS rfl (g_loadAgg ty_ag_74 hF rfl (hM.row 4 rfl) (by simp only [fnC_size, cells_size, vecC_size, tabC_size, planeC_size, tenC_size, smC_size, numC_size, numI_size] <;> omega) (whole rfl)), fun a w gG hF hS hd => by have hM := hS.mem rfl; exact par_val hS rfl (g_loadAgg ty_ag_27 hF rfl (hM.row 0 rfl) (by simp only [fnC_size, cells_size, vecC_size, tabC_size, planeC_size, tenC_size, smC_size, numC_size, numI_size] <;> omega) (whole rfl)), fun a w gG hF hS hd => by exact par_val hS rfl (g_move hF rfl), fun a w gG hF hS hd => by exact par_val hS rfl (g_fieldAddr ty_fo_27_1 hF rfl), fun a w gG hF hS hd => by have hF := hF.ext1 54 (hd 3 rfl rfl); have hM := hS.mem rfl; exact par_val hS rfl (g_load ty_on_2 hF rfl (hM.row 0 rfl) (tenC_1 (by omega))), fun a w gG hF hS hd => by have hF := hF.ext1 53 (hd 2 rfl rfl); have hF := hF.ext1 55 (hd 4 rfl rfl); exact par_val hS rfl (g_mul hF rfl rfl (mul_nat (gi) (n) (by omega))), fun a w gG hF hS hd => by exact par_val hS rfl (g_move hF rfl), fun a w gG hF hS hd => by have hF := hF.ext1 56 (hd 5 rfl rfl); have hF := hF.ext1 57 (hd 6 rfl rfl); exact par_val hS rfl (g_add hF rfl rfl (add_nat ((gi) * (n)) (gj) (by omega))), fun a w gG hF hS hd => by have hF := hF.ext1 52 (hd 1 rfl rfl); have hF := hF.ext1 58 (hd 7 rfl rfl); exact par_call (by exact ⟨fun _ _ _ h hx => h.last hx, trivial⟩) hS rfl (d_call Try.call50 hF (.cons rfl (.cons rfl .nil)) (rowOf_ok (p) (n) (i + 1) (o + 1) b (n ^ ((i + 1) + (o + 1))) ((gi) * (n) + gj) _ (by omega) (by omega) (by omega) (by omega) (by omega))), fun a w gG hF hS hd => by exact par_val hS rfl (g_move hF rfl), fun a w gG hF hS hd => by exact par_val hS rfl (g_fieldAddr ty_fo_27_1 hF rfl), fun a w gG hF hS hd => by have hF := hF.ext1 61 (hd 10 rfl rfl); have hM := hS.mem rfl; exact par_val hS rfl (g_load ty_on_2 hF rfl (hM.row 0 rfl) (tenC_1 (by omega))), fun a w gG hF hS hd => by have hF := hF.ext1 59 (hd 8 rfl rfl); have hF := hF.ext1 60 (hd 9 rfl rfl); have hF := hF.ext1 62 (hd 11 rfl rfl); have hM := hS.mem rfl; exact par_rel (by exact ⟨fun _ _ _ h hx => h.last hx, trivial⟩) hS rfl (d_call Try.call69 hF (.cons rfl (.cons rfl (.cons rfl .nil))) (endingWith_ok b (0 + ((gi) * (n) + gj) * (n) ^ (o + 1) * 1) ((n) ^ (o + 1)) (gj) n o _ (fun q => f (((gi) * (n) + gj) * (n) ^ (o + 1) + q)) _ hn (by omega) (by omega) (hM.fz 0 rfl) (fun q hq => numC_get (k := ((gi) * (n) + gj) * (n) ^ (o + 1) + q) (by omega) (by omega)))) (fun _ _ hr => (OwnSl.fresh) hM hr), trivial⟩ ?_
              intro a w' L hF hS hq
              have hF := hF.ext1 51 (hq 0 rfl rfl)
              have hF := hF.ext1 52 (hq 1 rfl rfl)
              have hF := hF.ext1 53 (hq 2 rfl rfl)
              have hF := hF.ext1 54 (hq 3 rfl rfl)
              have hF := hF.ext1 55 (hq 4 rfl rfl)
              have hF := hF.ext1 56 (hq 5 rfl rfl)
              have hF := hF.ext1 57 (hq 6 rfl rfl)
              have hF := hF.ext1 58 (hq 7 rfl rfl)
              have hF := hF.ext1 59 (hq 8 rfl rfl)
              have hF := hF.ext1 60 (hq 9 rfl rfl)
              have hF := hF.ext1 61 (hq 10 rfl rfl)
              have hF := hF.ext1 62 (hq 11 rfl rfl)
              have hM := hS.mem rfl
              have hr11 := hq 12 rfl rfl
              have hF := hF.ext1 63 rfl
              obtain ⟨u, hu⟩ : ∃ u, u = a.tmps.getD 63 undef := ⟨_, rfl⟩
              change (FreshSl w [some (b1, tenC (p : Int) (n : Int) ((i + 1 : Nat) : Int) ((o + 1 : Nat) : Int) (.slice (some ⟨b, 0, none⟩) (n ^ ((i + 1) + (o + 1))) (n ^ ((i + 1) + (o + 1))))), some (b2, tenC 0 0 0 0 (.slice none 0 0)), some (b6, numC (n ^ (i + o)) (acF p (n ^ o) n (clT n (n ^ o) f) gi gj)), some (b7, tenC ((p : Nat) : Int) ((n : Nat) : Int) ((i : Nat) : Int) ((o : Nat) : Int) (.slice (some ⟨b6, 0, none⟩) ((n) ^ ((i) + (o))) ((n) ^ ((i) + (o))))), some (b9, smC (((p : Nat) : Int) : Int) (.slice (some ⟨b6, 0 + (gi) * (n) ^ (o) * 1, none⟩) ((n) ^ (o)) ((n) ^ (o))))] (n ^ o) (fun e => .int .i64 ((f (((gi) * (n) + gj) * (n) ^ (o + 1) + (gj + n * e)) : Nat) : Int))) (a.tmps.getD 63 undef) w' at hr11
              rw [← hu] at hr11 hF
              obtain ⟨be12, cap13, cse14, hse15, -, hM⟩ := hM.addF hr11
              obtain rfl := hse15.val
              change wpList Try.prog _ _ [_] _ _
              refine stR hF (d_callX Try.call65 hF (.cons rfl (.cons rfl (.cons rfl .nil))) (addSumsI_ok (p) b6 (0 + (gi) * (n) ^ (o) * 1) ((n) ^ (o)) ((n ^ (i + o))) be12 (0) (cap13) (n ^ o) (1) _ (acF p (n ^ o) n (clT n (n ^ o) f) gi gj) (fun q => f (((gi) * (n) + gj) * (n) ^ (o + 1) + (gj + n * q))) _ (by omega) (by omega) (by omega) (fun c => by have h9 := acF_lt (p := p) (W := n ^ o) (M := n) (t := (clT n (n ^ o) f)) (i := gi) (j := gj) (c := c) hp0; omega) (fun q => by have := hfp ((gi * n + gj) * n ^ (o + 1) + (gj + n * q)); omega) (by omega) (by omega) (by omega) (hM.row 2 rfl) (hM.fz 0 rfl) ((hM.froz _ _ (List.mem_of_getElem? (i := 0) rfl)).2 2 _ _ rfl).symm (fun q hq => hse15.get1 q hq))) rfl ?_
              rintro _ w' a ⟨hx, rfl, hbk⟩ hF
              have hM := hM.upd 2 rfl hx hbk
              change Mem w w' [some (b1, tenC (p : Int) (n : Int) ((i + 1 : Nat) : Int) ((o + 1 : Nat) : Int) (.slice (some ⟨b, 0, none⟩) (n ^ ((i + 1) + (o + 1))) (n ^ ((i + 1) + (o + 1))))), some (b2, tenC 0 0 0 0 (.slice none 0 0)), some (b6, numC (n ^ (i + o)) (fun c => if 0 + (gi) * (n) ^ (o) * 1 ≤ c ∧ c < 0 + (gi) * (n) ^ (o) * 1 + (n ^ o) then ((acF p (n ^ o) n (clT n (n ^ o) f) gi gj) c + 1 * (fun q => f (((gi) * (n) + gj) * (n) ^ (o + 1) + (gj + n * q))) (c - (0 + (gi) * (n) ^ (o) * 1))) % (p) else (acF p (n ^ o) n (clT n (n ^ o) f) gi gj) c)), some (b7, tenC ((p : Nat) : Int) ((n : Nat) : Int) ((i : Nat) : Int) ((o : Nat) : Int) (.slice (some ⟨b6, 0, none⟩) ((n) ^ ((i) + (o))) ((n) ^ ((i) + (o))))), some (b9, smC (((p : Nat) : Int) : Int) (.slice (some ⟨b6, 0 + (gi) * (n) ^ (o) * 1, none⟩) ((n) ^ (o)) ((n) ^ (o))))] [(be12, cse14), (b, numC (n ^ ((i + 1) + (o + 1))) f)] at hM
              refine wpList_nil ?_
              refine iN ?_
              refine tN ?_
              refine wp_region_lit ?_
              refine st hF (g_add hF rfl rfl (add_nat (gj) (1) (by omega))) rfl fun a hF => st hF (g_move hF rfl) rfl fun a hF => ?_
              refine wpList_nil ?_
              refine tN ?_
              refine ⟨gj + 1, ⟨by omega, trivial, hF.sub _ (by repeat' constructor), ?_⟩, by omega⟩
              have hM := hM.sub [(b, numC (n ^ ((i + 1) + (o + 1))) f)] (fun x hx => List.mem_cons_of_mem _ hx)
              refine hM.rowc 2 rfl (numC_congr fun c hc => acF_step (p := p) (W := n ^ o) (M := n) (t := (clT n (n ^ o) f)) (i := gi) (j := gj) (o := 0 + gi * n ^ o * 1) (L := n ^ o) (h' := fun q => f ((gi * n + gj) * n ^ (o + 1) + (gj + n * q))) (by omega) (by omega) rfl (fun q => by show f _ = f _; congr 1; rw [hWn, Nat.add_mul ((gi * n + gj) * n ^ o) q n, Nat.mul_assoc (gi * n + gj) (n ^ o) n, Nat.mul_comm n q]; omega))
            ·
              obtain rfl : n = gj := by omega
              refine wp_exit ?_
              refine tX ?_
              refine tX ?_
              refine ib_same ?_
              refine iN ?_
              refine tN ?_
              refine wp_region_lit ?_
              refine st hF (g_add hF rfl rfl (add_nat (gi) (1) (by omega))) rfl fun a hF => st hF (g_move hF rfl) rfl fun a hF => ?_
              refine wpList_nil ?_
              refine tN ?_
              have hM := hM.drop 4
              refine ⟨gi + 1, ⟨by omega, trivial, hF.sub _ (by repeat' constructor), ?_⟩, by omega⟩
              refine hM.rowc 2 rfl (numC_congr fun c hc => acF_row)
        ·
          obtain rfl : n ^ i = gi := by omega
          refine wp_exit ?_
          refine tX ?_
          refine tX ?_
          refine ib_same ?_
          refine tN ?_
          refine sq ?_
          refine wp_region_lit ?_
          refine st hF (g_loadAgg ty_ag_27 hF rfl (hM.row 3 rfl) (by simp only [fnC_size, cells_size, vecC_size, tabC_size, planeC_size, tenC_size, smC_size, numC_size, numI_size] <;> omega) (whole rfl)) rfl fun a hF => ?_
          refine stN hF (d_storeAgg 1 hM rfl ty_sz_27 hF rfl rfl (tenC_one rfl) (by simp only [fnC_size, cells_size, vecC_size, tabC_size, planeC_size, tenC_size, smC_size, numC_size, numI_size]) (by simp only [fnC_size, cells_size, vecC_size, tabC_size, planeC_size, tenC_size, smC_size, numC_size, numI_size] <;> omega) (splice_whole _ _ rfl)) ?_
          intro _ w' a hM hF
          change Mem w w' [some (b1, tenC (p : Int) (n : Int) ((i + 1 : Nat) : Int) ((o + 1 : Nat) : Int) (.slice (some ⟨b, 0, none⟩) (n ^ ((i + 1) + (o + 1))) (n ^ ((i + 1) + (o + 1))))), some (b2, tenC ((p : Nat) : Int) ((n : Nat) : Int) ((i : Nat) : Int) ((o : Nat) : Int) (.slice (some ⟨b6, 0, none⟩) ((n) ^ ((i) + (o))) ((n) ^ ((i) + (o))))), some (b6, numC (n ^ (i + o)) (acF p (n ^ o) n (clT n (n ^ o) f) (n ^ i) 0)), some (b7, tenC ((p : Nat) : Int) ((n : Nat) : Int) ((i : Nat) : Int) ((o : Nat) : Int) (.slice (some ⟨b6, 0, none⟩) ((n) ^ ((i) + (o))) ((n) ^ ((i) + (o))))), none] [(b, numC (n ^ ((i + 1) + (o + 1))) f)] at hM
          refine st hF (g_assign hF rfl) rfl fun a hF => ?_
          refine wpList_nil ?_
          refine tN ?_
          refine wp_ret ?_
          refine fin2 rfl hF.defers (res_agg ty_ag_27 hF rfl (hM.row 1 rfl) (by simp only [fnC_size, cells_size, vecC_size, tabC_size, planeC_size, tenC_size, smC_size, numC_size, numI_size])) (res_tmp hF rfl) ⟨_, rfl, hM.below, ?_⟩
          exact ⟨_, rfl, hM.ge 2 rfl, hM.row 2 rfl⟩

theorem CloseTensorSB (p n i o b : Nat) (f : Nat → Nat) (w : World) (hpP : primeP (p : Int)) (hn0 : 0 < n) (hn : n ≤ 6) (hwa : wl n (i + 1) (o + 1)) (hfp : ∀ c, f c < p) (hb : Blk w b (numC (n ^ ((i + 1) + (o + 1))) f)) :
    CallsR Try.prog 33 #[.agg (tenC (p : Int) (n : Int) ((i + 1 : Nat) : Int) ((o + 1 : Nat) : Int) (.slice (some ⟨b, 0, none⟩) (n ^ ((i + 1) + (o + 1))) (n ^ ((i + 1) + (o + 1)))))] w (fun v w' => TenOut0 w w' (p : Int) (n : Int) (i : Int) (o : Int) (n ^ (i + o)) (acF p (n ^ o) n (clT n (n ^ o) f) (n ^ i) 0) v) := by
  refine calls_fr [.agg (tenC (p : Int) (n : Int) ((i + 1 : Nat) : Int) ((o + 1 : Nat) : Int) (.slice (some ⟨b, 0, none⟩) (n ^ ((i + 1) + (o + 1))) (n ^ ((i + 1) + (o + 1)))))] Try.func33 rfl Try.ntmps33 rfl fun a hF => ?_
  have hM : Mem w w [none, none, none, none] [(b, numC (n ^ ((i + 1) + (o + 1))) f)] := MemX.startD w 4 _ (startD1 hb)
  change Fr 99 a [(0, .agg (tenC (p : Int) (n : Int) ((i + 1 : Nat) : Int) ((o + 1 : Nat) : Int) (.slice (some ⟨b, 0, none⟩) (n ^ ((i + 1) + (o + 1))) (n ^ ((i + 1) + (o + 1))))))] at hF
  have hp0 : 0 < p := by have h := hpP; unfold primeP at h; omega
  have hp2 : p < 100 := by have h := hpP; unfold primeP at h; omega
  have hwa3 := hwa.2.2
  have hwa1 := hwa.1
  have hwa2 := hwa.2.1
  have h1 := TenP.of_nat hpP hn0 hn hwa rfl hfp
  have hE : n ^ (i + o) ≤ n ^ ((i + 1) + (o + 1)) := Nat.pow_le_pow_right hn0 (by omega)
  have hw : wl n i o := ⟨by omega, by omega, by omega⟩
  have hE2 : n ^ (o + 1) ≤ n ^ ((i + 1) + (o + 1)) := pow_le_add2 hn0
  have hE3 : n ^ (i + 1) ≤ n ^ ((i + 1) + (o + 1)) := pow_le_add hn0
  have hWl : n ^ o ≤ n ^ (i + o) := pow_le_add2 hn0
  have hRl : n ^ i ≤ n ^ (i + o) := pow_le_add hn0
  have hW0 := pow_one_le (k := o) hn0
  have hWn : n ^ (o + 1) = n ^ o * n := Nat.pow_succ ..
  have hE4 : n ^ ((i + 1) + o) ≤ n ^ ((i + 1) + o + 1) := pow_le_add hn0
  have hE5 : n ^ ((i + 1) + o + 1) = n ^ ((i + 1) + (o + 1)) := rfl
  refine sq ?_
  refine wp_region_lit ?_
  refine stR hF (d_box 0 hM hF rfl) rfl ?_
  rintro _ w' a ⟨b1, rfl, hM, -⟩ hF
  change Mem w w' [some (b1, tenC (p : Int) (n : Int) ((i + 1 : Nat) : Int) ((o + 1 : Nat) : Int) (.slice (some ⟨b, 0, none⟩) (n ^ ((i + 1) + (o + 1))) (n ^ ((i + 1) + (o + 1))))), none, none, none] [(b, numC (n ^ ((i + 1) + (o + 1))) f)] at hM
  refine stR hF (d_alloc 1 hM ty_ze_27) rfl ?_
  rintro _ w' a ⟨b2, rfl, hM, -⟩ hF
  change Mem w w' [some (b1, tenC (p : Int) (n : Int) ((i + 1 : Nat) : Int) ((o + 1 : Nat) : Int) (.slice (some ⟨b, 0, none⟩) (n ^ ((i + 1) + (o + 1))) (n ^ ((i + 1) + (o + 1))))), some (b2, tenC 0 0 0 0 (.slice none 0 0)), none, none] [(b, numC (n ^ ((i + 1) + (o + 1))) f)] at hM
  refine st hF (g_assign hF rfl) rfl fun a hF => ?_
  refine wpList_nil ?_
  refine tN ?_
  refine sq ?_
  refine wp_block ?_
  refine sq ?_
  refine wp_region_lit ?_
  refine st hF (g_loadAgg ty_ag_27 hF rfl (hM.row 0 rfl) (by simp only [fnC_size, cells_size, vecC_size, tabC_size, planeC_size, tenC_size, smC_size, numC_size, numI_size] <;> omega) (whole rfl)) rfl fun a hF => ?_
  refine stR hF (d_call Try.call40 hF (.cons rfl .nil) ((CallsR.val (l03Is_ok (p : Int) (n : Int) ((i + 1 : Nat) : Int) ((o + 1 : Nat) : Int) b (n ^ ((i + 1) + (o + 1))) (fun c => ((f c : Nat) : Int)) _ (hM.fz 0 rfl) (by omega)) (congrArg Value.bool (decide_eq_true h1))))) rfl ?_
  rintro _ w' a ⟨hx, rfl⟩ hF
  have hM := hM.ext hx
  refine st hF (g_not hF rfl) rfl fun a hF => st hF (g_assign hF rfl) rfl fun a hF => ?_
  refine wpList_nil ?_
  refine tN ?_
  refine c_Fl hF rfl ?_
  refine sq ?_
  refine wp_region_lit ?_
  refine st hF (g_fieldAddr ty_fo_27_2 hF rfl) rfl fun a hF => st hF (g_load ty_on_2 hF rfl (hM.row 0 rfl) (tenC_2 (by omega))) rfl fun a hF => st hF (g_lss hF rfl rfl) rfl fun a hF => st hF (g_move hF rfl) rfl fun a hF => ?_
  by_cases g4 : (((i + 1 : Nat) : Int) : Int) < 1
  ·
    first | rw [decide_eq_true g4] at hF | simp only [decide_eq_true g4] at hF
    exfalso; omega
  ·
    first | rw [decide_eq_false g4] at hF | simp only [decide_eq_false g4] at hF
    refine stY hF rfl rfl rfl (g_fieldAddr ty_fo_27_3 hF rfl) rfl fun a hF => stY hF rfl rfl rfl (g_load ty_on_2 hF rfl (hM.row 0 rfl) (tenC_3 (by omega))) rfl fun a hF => stY hF rfl rfl rfl (g_lss hF rfl rfl) rfl fun a hF => st hF (g_pickF hF rfl rfl) rfl fun a hF => st hF (g_assign hF rfl) rfl fun a hF => ?_
    refine wpList_nil ?_
    refine tN ?_
    refine c_cond hF rfl (fun h5 => ?_) (fun h5 => ?_)
    ·
      exfalso; omega
    ·
      refine wp_skip ?_
      refine iN ?_
      refine tN ?_
      refine sq ?_
      refine wp_region_lit ?_
      refine st hF (g_fieldAddr ty_fo_27_0 hF rfl) rfl fun a hF => st hF (g_load ty_on_2 hF rfl (hM.row 0 rfl) (tenC_0 (by omega))) rfl fun a hF => st hF (g_fieldAddr ty_fo_27_1 hF rfl) rfl fun a hF => st hF (g_load ty_on_2 hF rfl (hM.row 0 rfl) (tenC_1 (by omega))) rfl fun a hF => st hF (g_fieldAddr ty_fo_27_2 hF rfl) rfl fun a hF => st hF (g_load ty_on_2 hF rfl (hM.row 0 rfl) (tenC_2 (by omega))) rfl fun a hF => st hF (g_sub hF rfl rfl (show _ = ((i : Nat) : Int) from (show IntKind.i64.wrap (((i + 1 : Nat) : Int) - 1) = ((i : Nat) : Int) from by rw [wrap_i64 (by omega) (by omega)]; omega))) rfl fun a hF => st hF (g_fieldAddr ty_fo_27_3 hF rfl) rfl fun a hF => st hF (g_load ty_on_2 hF rfl (hM.row 0 rfl) (tenC_3 (by omega))) rfl fun a hF => st hF (g_sub hF rfl rfl (show _ = ((o : Nat) : Int) from (show IntKind.i64.wrap (((o + 1 : Nat) : Int) - 1) = ((o : Nat) : Int) from by rw [wrap_i64 (by omega) (by omega)]; omega))) rfl fun a hF => ?_
      refine stR hF (d_call Try.call54 hF (.cons rfl (.cons rfl (.cons rfl (.cons rfl .nil)))) (l03Empty_ok (p) (n) (i) (o) _ (by omega) (by omega) hw)) rfl ?_
      rintro _ w' a ⟨hx, b6, rfl, hge, hbk⟩ hF
      have hM := hM.fill hx 2 hbk hge
      change Mem w w' [some (b1, tenC (p : Int) (n : Int) ((i + 1 : Nat) : Int) ((o + 1 : Nat) : Int) (.slice (some ⟨b, 0, none⟩) (n ^ ((i + 1) + (o + 1))) (n ^ ((i + 1) + (o + 1))))), some (b2, tenC 0 0 0 0 (.slice none 0 0)), some (b6, numC ((n) ^ ((i) + (o))) (fun _ => 0)), none] [(b, numC (n ^ ((i + 1) + (o + 1))) f)] at hM
      refine stR hF (d_alloc 3 hM ty_ze_27) rfl ?_
      rintro _ w' a ⟨b7, rfl, hM, -⟩ hF
      change Mem w w' [some (b1, tenC (p : Int) (n : Int) ((i + 1 : Nat) : Int) ((o + 1 : Nat) : Int) (.slice (some ⟨b, 0, none⟩) (n ^ ((i + 1) + (o + 1))) (n ^ ((i + 1) + (o + 1))))), some (b2, tenC 0 0 0 0 (.slice none 0 0)), some (b6, numC ((n) ^ ((i) + (o))) (fun _ => 0)), some (b7, tenC 0 0 0 0 (.slice none 0 0))] [(b, numC (n ^ ((i + 1) + (o + 1))) f)] at hM
      refine stN hF (d_storeAgg 3 hM rfl ty_sz_27 hF rfl rfl (tenC_one rfl) (by simp only [fnC_size, cells_size, vecC_size, tabC_size, planeC_size, tenC_size, smC_size, numC_size, numI_size]) (by simp only [fnC_size, cells_size, vecC_size, tabC_size, planeC_size, tenC_size, smC_size, numC_size, numI_size] <;> omega) (splice_whole _ _ rfl)) ?_
      intro _ w' a hM hF
      change Mem w w' [some (b1, tenC (p : Int) (n : Int) ((i + 1 : Nat) : Int) ((o + 1 : Nat) : Int) (.slice (some ⟨b, 0, none⟩) (n ^ ((i + 1) + (o + 1))) (n ^ ((i + 1) + (o + 1))))), some (b2, tenC 0 0 0 0 (.slice none 0 0)), some (b6, numC ((n) ^ ((i) + (o))) (fun _ => 0)), some (b7, tenC ((p : Nat) : Int) ((n : Nat) : Int) ((i : Nat) : Int) ((o : Nat) : Int) (.slice (some ⟨b6, 0, none⟩) ((n) ^ ((i) + (o))) ((n) ^ ((i) + (o)))))] [(b, numC (n ^ ((i + 1) + (o + 1))) f)] at hM
      refine wpList_nil ?_
      refine tN ?_
      refine sq ?_
      refine c_par 11 [] [.val (ptr b1 (0 + 1)), .val (.int .i64 (((n : Nat) : Int))), .val (ptr b1 (0 + 2)), .val (.int .i64 (((i + 1 : Nat) : Int))), .val (.int .i64 (((i : Nat) : Int))), .val (.int .i64 ((((n) ^ (i) : Nat) : Int))), .val (ptr b1 (0 + 1)), .val (.int .i64 (((n : Nat) : Int))), .val (ptr b1 (0 + 3)), .val (.int .i64 (((o + 1 : Nat) : Int))), .val (.int .i64 (((o : Nat) : Int)))] hmix rfl hF rfl hM ⟨fun a w gG hF hS hd => by exact par_val hS rfl (g_fieldAddr ty_fo_27_1 hF rfl), fun a w gG hF hS hd => by have hF := hF.ext1 37 (hd 0 rfl rfl); have hM := hS.mem rfl; exact par_val hS rfl (g_load ty_on_2 hF rfl (hM.row 0 rfl) (tenC_1 (by omega))), fun a w gG hF hS hd => by exact par_val hS rfl (g_fieldAddr ty_fo_27_2 hF rfl), fun a w gG hF hS hd => by have hF := hF.ext1 39 (hd 2 rfl rfl); have hM := hS.mem rfl; exact par_val hS rfl (g_load ty_on_2 hF rfl (hM.row 0 rfl) (tenC_2 (by omega))), fun a w gG hF hS hd => by have hF := hF.ext1 40 (hd 3 rfl rfl); exact par_val hS rfl (g_sub hF rfl rfl (show _ = ((i : Nat) : Int) from (show IntKind.i64.wrap (((i + 1 : Nat) : Int) - 1) = ((i : Nat) : Int) from by rw [wrap_i64 (by omega) (by omega)]; omega))), fun a w gG hF hS hd => by have hF := hF.ext1 38 (hd 1 rfl rfl); have hF := hF.ext1 41 (hd 4 rfl rfl); exact par_call (by repeat constructor) hS rfl (d_call Try.call68 hF (.cons rfl (.cons rfl .nil)) ((CallsR.val (l03Power_ok (n) (i) _ (by omega) (by omega) (by omega)) (congrArg (fun x : Nat => Value.int .i64 (x : Int)) (pwr_le (by omega) (by omega)))))), fun a w gG hF hS hd => by exact par_val hS rfl (g_fieldAddr ty_fo_27_1 hF rfl), fun a w gG hF hS hd => by have hF := hF.ext1 43 (hd 6 rfl rfl); have hM := hS.mem rfl; exact par_val hS rfl (g_load ty_on_2 hF rfl (hM.row 0 rfl) (tenC_1 (by omega))), fun a w gG hF hS hd => by exact par_val hS rfl (g_fieldAddr ty_fo_27_3 hF rfl), fun a w gG hF hS hd => by have hF := hF.ext1 45 (hd 8 rfl rfl); have hM := hS.mem rfl; exact par_val hS rfl (g_load ty_on_2 hF rfl (hM.row 0 rfl) (tenC_3 (by omega))), fun a w gG hF hS hd => by have hF := hF.ext1 46 (hd 9 rfl rfl); exact par_val hS rfl (g_sub hF rfl rfl (show _ = ((o : Nat) : Int) from (show IntKind.i64.wrap (((o + 1 : Nat) : Int) - 1) = ((o : Nat) : Int) from by rw [wrap_i64 (by omega) (by omega)]; omega))), trivial⟩ ?_
      intro a w' L hF hS hq
      have hF := hF.ext1 37 (hq 0 rfl rfl)
      have hF := hF.ext1 38 (hq 1 rfl rfl)
      have hF := hF.ext1 39 (hq 2 rfl rfl)
      have hF := hF.ext1 40 (hq 3 rfl rfl)
      have hF := hF.ext1 41 (hq 4 rfl rfl)
      have hF := hF.ext1 42 (hq 5 rfl rfl)
      have hF := hF.ext1 43 (hq 6 rfl rfl)
      have hF := hF.ext1 44 (hq 7 rfl rfl)
      have hF := hF.ext1 45 (hq 8 rfl rfl)
      have hF := hF.ext1 46 (hq 9 rfl rfl)
      have hF := hF.ext1 47 (hq 10 rfl rfl)
      have hM := hS.mem rfl
      change wpList Try.prog _ _ [_, _, _] _ _
      refine stR hF (d_call Try.call68 hF (.cons rfl (.cons rfl .nil)) ((CallsR.val (l03Power_ok (n) (o) _ (by omega) (by omega) (by omega)) (congrArg (fun x : Nat => Value.int .i64 (x : Int)) (pwr_le (by omega) (by omega)))))) rfl ?_
      rintro _ w' a ⟨hx, rfl⟩ hF
      have hM := hM.ext hx
      refine st hF (g_assign hF rfl) rfl fun a hF => st hF (g_assign hF rfl) rfl fun a hF => ?_
      refine wpList_nil ?_
      refine tN ?_
      refine sq ?_
      refine sq ?_
      refine wp_region_lit ?_
      refine st hF (g_assign hF rfl) rfl fun a hF => ?_
      refine wpList_nil ?_
      refine tN ?_
      refine wp_block ?_
      change Mem w _ [some (b1, tenC (p : Int) (n : Int) ((i + 1 : Nat) : Int) ((o + 1 : Nat) : Int) (.slice (some ⟨b, 0, none⟩) (n ^ ((i + 1) + (o + 1))) (n ^ ((i + 1) + (o + 1))))), some (b2, tenC 0 0 0 0 (.slice none 0 0)), some (b6, numC ((n) ^ ((i) + (o))) (fun _ => 0)), some (b7, tenC ((p : Nat) : Int) ((n : Nat) : Int) ((i : Nat) : Int) ((o : Nat) : Int) (.slice (some ⟨b6, 0, none⟩) ((n) ^ ((i) + (o))) ((n) ^ ((i) + (o)))))] [(b, numC (n ^ ((i + 1) + (o + 1))) f)] at hM
      refine c_loop (fun (kk : Nat) a w' => kk ≤ n ^ i ∧ (True) ∧ Fr 99 a [(47, .int .i64 (((o : Nat) : Int))), (46, .int .i64 (((o + 1 : Nat) : Int))), (45, ptr b1 (0 + 3)), (44, .int .i64 (((n : Nat) : Int))), (43, ptr b1 (0 + 1)), (42, .int .i64 ((((n) ^ (i) : Nat) : Int))), (41, .int .i64 (((i : Nat) : Int))), (40, .int .i64 (((i + 1 : Nat) : Int))), (39, ptr b1 (0 + 2)), (38, .int .i64 (((n : Nat) : Int))), (37, ptr b1 (0 + 1)), (0, .agg (tenC (p : Int) (n : Int) ((i + 1 : Nat) : Int) ((o + 1 : Nat) : Int) (.slice (some ⟨b, 0, none⟩) (n ^ ((i + 1) + (o + 1))) (n ^ ((i + 1) + (o + 1)))))), (1, ptr b1 (0)), (2, ptr b2 (0)), (3, .int .i64 (0)), (12, .agg (tenC (p : Int) (n : Int) ((i + 1 : Nat) : Int) ((o + 1 : Nat) : Int) (.slice (some ⟨b, 0, none⟩) (n ^ ((i + 1) + (o + 1))) (n ^ ((i + 1) + (o + 1)))))), (13, .bool (true)), (14, .bool (false)), (11, .bool (false)), (17, ptr b1 (0 + 2)), (18, .int .i64 (((i + 1 : Nat) : Int))), (19, .bool (false)), (20, .bool (false)), (21, ptr b1 (0 + 3)), (22, .int .i64 (((o + 1 : Nat) : Int))), (23, .bool (decide ((((o + 1 : Nat) : Int) : Int) < 1))), (24, .bool (decide ((((o + 1 : Nat) : Int) : Int) < 1))), (16, .bool (decide ((((o + 1 : Nat) : Int) : Int) < 1))), (26, ptr b1 (0 + 0)), (27, .int .i64 (((p : Nat) : Int))), (28, ptr b1 (0 + 1)), (29, .int .i64 (((n : Nat) : Int))), (30, ptr b1 (0 + 2)), (31, .int .i64 (((i + 1 : Nat) : Int))), (32, .int .i64 (((i : Nat) : Int))), (33, ptr b1 (0 + 3)), (34, .int .i64 (((o + 1 : Nat) : Int))), (35, .int .i64 (((o : Nat) : Int))), (36, .agg (tenC ((p : Nat) : Int) ((n : Nat) : Int) ((i : Nat) : Int) ((o : Nat) : Int) (.slice (some ⟨b6, 0, none⟩) ((n) ^ ((i) + (o))) ((n) ^ ((i) + (o)))))), (4, ptr b7 (0)), (48, .int .i64 ((((n) ^ (o) : Nat) : Int))), (5, .int .i64 ((((n) ^ (i) : Nat) : Int))), (6, .int .i64 ((((n) ^ (o) : Nat) : Int))), (7, .int .i64 (((kk : Nat) : Int)))] ∧ Mem w w' [some (b1, tenC (p : Int) (n : Int) ((i + 1 : Nat) : Int) ((o + 1 : Nat) : Int) (.slice (some ⟨b, 0, none⟩) (n ^ ((i + 1) + (o + 1))) (n ^ ((i + 1) + (o + 1))))), some (b2, tenC 0 0 0 0 (.slice none 0 0)), some (b6, numC (n ^ (i + o)) (fun c => if c < kk * n ^ o then sumTo (clT n (n ^ o) f (c / n ^ o) (c % n ^ o)) n % p else 0)), some (b7, tenC ((p : Nat) : Int) ((n : Nat) : Int) ((i : Nat) : Int) ((o : Nat) : Int) (.slice (some ⟨b6, 0, none⟩) ((n) ^ ((i) + (o))) ((n) ^ ((i) + (o)))))] [(b, numC (n ^ ((i + 1) + (o + 1))) f)]) (fun kk => n ^ i - kk) 0 ?_ ?_
      ·
        refine ⟨by omega, trivial, hF.sub _ (by repeat' constructor), ?_⟩
        refine hM.rowc 2 rfl (numC_congr fun c hc => by rw [if_neg (by omega)])
      ·
        clear hF hM
        rintro gi a w' ⟨hgi, hinv1, hF, hM⟩
        have hr1 : gi < n ^ i → gi * n ^ o + n ^ o ≤ n ^ (i + o) := idx_bd2
        have hr2 : gi < n ^ i → gi * n + n ≤ n ^ (i + 1) := idx_bd1
        refine sq ?_
        refine sq ?_
        refine wp_region_lit ?_
        refine st hF (g_move hF rfl) rfl fun a hF => st hF (g_move hF rfl) rfl fun a hF => st hF (g_lss hF rfl rfl) rfl fun a hF => ?_
        refine wpList_nil ?_
        refine tN ?_
        refine c_cond hF rfl (fun h8 => ?_) (fun h8 => ?_)
        ·
          refine wp_skip ?_
          refine tN ?_
          refine sq ?_
          refine wp_block ?_
          refine sq ?_
          refine wp_region_lit ?_
          refine st hF (g_assign hF rfl) rfl fun a hF => ?_
          refine wpList_nil ?_
          refine tN ?_
          refine wp_block ?_
          change Mem w _ [some (b1, tenC (p : Int) (n : Int) ((i + 1 : Nat) : Int) ((o + 1 : Nat) : Int) (.slice (some ⟨b, 0, none⟩) (n ^ ((i + 1) + (o + 1))) (n ^ ((i + 1) + (o + 1))))), some (b2, tenC 0 0 0 0 (.slice none 0 0)), some (b6, numC (n ^ (i + o)) (fun c => if c < gi * n ^ o then sumTo (clT n (n ^ o) f (c / n ^ o) (c % n ^ o)) n % p else 0)), some (b7, tenC ((p : Nat) : Int) ((n : Nat) : Int) ((i : Nat) : Int) ((o : Nat) : Int) (.slice (some ⟨b6, 0, none⟩) ((n) ^ ((i) + (o))) ((n) ^ ((i) + (o)))))] [(b, numC (n ^ ((i + 1) + (o + 1))) f)] at hM
          refine c_loop (fun (kk : Nat) a w' => kk ≤ n ^ o ∧ (True) ∧ Fr 99 a [(47, .int .i64 (((o : Nat) : Int))), (46, .int .i64 (((o + 1 : Nat) : Int))), (45, ptr b1 (0 + 3)), (44, .int .i64 (((n : Nat) : Int))), (43, ptr b1 (0 + 1)), (42, .int .i64 ((((n) ^ (i) : Nat) : Int))), (41, .int .i64 (((i : Nat) : Int))), (40, .int .i64 (((i + 1 : Nat) : Int))), (39, ptr b1 (0 + 2)), (38, .int .i64 (((n : Nat) : Int))), (37, ptr b1 (0 + 1)), (0, .agg (tenC (p : Int) (n : Int) ((i + 1 : Nat) : Int) ((o + 1 : Nat) : Int) (.slice (some ⟨b, 0, none⟩) (n ^ ((i + 1) + (o + 1))) (n ^ ((i + 1) + (o + 1)))))), (1, ptr b1 (0)), (2, ptr b2 (0)), (3, .int .i64 (0)), (12, .agg (tenC (p : Int) (n : Int) ((i + 1 : Nat) : Int) ((o + 1 : Nat) : Int) (.slice (some ⟨b, 0, none⟩) (n ^ ((i + 1) + (o + 1))) (n ^ ((i + 1) + (o + 1)))))), (13, .bool (true)), (14, .bool (false)), (11, .bool (false)), (17, ptr b1 (0 + 2)), (18, .int .i64 (((i + 1 : Nat) : Int))), (19, .bool (false)), (20, .bool (false)), (21, ptr b1 (0 + 3)), (22, .int .i64 (((o + 1 : Nat) : Int))), (23, .bool (decide ((((o + 1 : Nat) : Int) : Int) < 1))), (24, .bool (decide ((((o + 1 : Nat) : Int) : Int) < 1))), (16, .bool (decide ((((o + 1 : Nat) : Int) : Int) < 1))), (26, ptr b1 (0 + 0)), (27, .int .i64 (((p : Nat) : Int))), (28, ptr b1 (0 + 1)), (29, .int .i64 (((n : Nat) : Int))), (30, ptr b1 (0 + 2)), (31, .int .i64 (((i + 1 : Nat) : Int))), (32, .int .i64 (((i : Nat) : Int))), (33, ptr b1 (0 + 3)), (34, .int .i64 (((o + 1 : Nat) : Int))), (35, .int .i64 (((o : Nat) : Int))), (36, .agg (tenC ((p : Nat) : Int) ((n : Nat) : Int) ((i : Nat) : Int) ((o : Nat) : Int) (.slice (some ⟨b6, 0, none⟩) ((n) ^ ((i) + (o))) ((n) ^ ((i) + (o)))))), (4, ptr b7 (0)), (48, .int .i64 ((((n) ^ (o) : Nat) : Int))), (5, .int .i64 ((((n) ^ (i) : Nat) : Int))), (6, .int .i64 ((((n) ^ (o) : Nat) : Int))), (7, .int .i64 (((gi : Nat) : Int))), (49, .int .i64 (((gi : Nat) : Int))), (50, .int .i64 ((((n) ^ (i) : Nat) : Int))), (51, .bool (decide ((((gi : Nat) : Int) : Int) < (((n) ^ (i) : Nat) : Int)))), (8, .int .i64 (((kk : Nat) : Int)))] ∧ Mem w w' [some (b1, tenC (p : Int) (n : Int) ((i + 1 : Nat) : Int) ((o + 1 : Nat) : Int) (.slice (some ⟨b, 0, none⟩) (n ^ ((i + 1) + (o + 1))) (n ^ ((i + 1) + (o + 1))))), some (b2, tenC 0 0 0 0 (.slice none 0 0)), some (b6, numC (n ^ (i + o)) (fun c => if c < gi * n ^ o + kk then sumTo (clT n (n ^ o) f (c / n ^ o) (c % n ^ o)) n % p else 0)), some (b7, tenC ((p : Nat) : Int) ((n : Nat) : Int) ((i : Nat) : Int) ((o : Nat) : Int) (.slice (some ⟨b6, 0, none⟩) ((n) ^ ((i) + (o))) ((n) ^ ((i) + (o)))))] [(b, numC (n ^ ((i + 1) + (o + 1))) f)]) (fun kk => n ^ o - kk) 0 ?_ ?_
          ·
            refine ⟨by omega, trivial, hF.sub _ (by repeat' constructor), ?_⟩
            refine hM.rowc 2 rfl (numC_congr fun c hc => by rw [Nat.add_zero])
          ·
            clear hF hM
            rintro gj a w' ⟨hgj, hinv2, hF, hM⟩
            refine sq ?_
            refine sq ?_
            refine wp_region_lit ?_
            refine st hF (g_move hF rfl) rfl fun a hF => st hF (g_move hF rfl) rfl fun a hF => st hF (g_lss hF rfl rfl) rfl fun a hF => ?_
            refine wpList_nil ?_
            refine tN ?_
            refine c_cond hF rfl (fun h9 => ?_) (fun h9 => ?_)
            ·
              refine wp_skip ?_
              refine tN ?_
              refine sq ?_
              refine wp_block ?_
              refine sq ?_
              refine wp_region_lit ?_
              refine st hF (g_assign hF rfl) rfl fun a hF => ?_
              refine wpList_nil ?_
              refine tN ?_
              refine sq ?_
              refine sq ?_
              refine wp_region_lit ?_
              refine st hF (g_assign hF rfl) rfl fun a hF => ?_
              refine wpList_nil ?_
              refine tN ?_
              refine wp_block ?_
              change Mem w _ [some (b1, tenC (p : Int) (n : Int) ((i + 1 : Nat) : Int) ((o + 1 : Nat) : Int) (.slice (some ⟨b, 0, none⟩) (n ^ ((i + 1) + (o + 1))) (n ^ ((i + 1) + (o + 1))))), some (b2, tenC 0 0 0 0 (.slice none 0 0)), some (b6, numC (n ^ (i + o)) (fun c => if c < gi * n ^ o + gj then sumTo (clT n (n ^ o) f (c / n ^ o) (c % n ^ o)) n % p else 0)), some (b7, tenC ((p : Nat) : Int) ((n : Nat) : Int) ((i : Nat) : Int) ((o : Nat) : Int) (.slice (some ⟨b6, 0, none⟩) ((n) ^ ((i) + (o))) ((n) ^ ((i) + (o)))))] [(b, numC (n ^ ((i + 1) + (o + 1))) f)] at hM
              refine c_loop (fun (kk : Nat) a w' => kk ≤ n ∧ (True) ∧ Fr 99 a [(47, .int .i64 (((o : Nat) : Int))), (46, .int .i64 (((o + 1 : Nat) : Int))), (45, ptr b1 (0 + 3)), (44, .int .i64 (((n : Nat) : Int))), (43, ptr b1 (0 + 1)), (42, .int .i64 ((((n) ^ (i) : Nat) : Int))), (41, .int .i64 (((i : Nat) : Int))), (40, .int .i64 (((i + 1 : Nat) : Int))), (39, ptr b1 (0 + 2)), (38, .int .i64 (((n : Nat) : Int))), (37, ptr b1 (0 + 1)), (0, .agg (tenC (p : Int) (n : Int) ((i + 1 : Nat) : Int) ((o + 1 : Nat) : Int) (.slice (some ⟨b, 0, none⟩) (n ^ ((i + 1) + (o + 1))) (n ^ ((i + 1) + (o + 1)))))), (1, ptr b1 (0)), (2, ptr b2 (0)), (3, .int .i64 (0)), (12, .agg (tenC (p : Int) (n : Int) ((i + 1 : Nat) : Int) ((o + 1 : Nat) : Int) (.slice (some ⟨b, 0, none⟩) (n ^ ((i + 1) + (o + 1))) (n ^ ((i + 1) + (o + 1)))))), (13, .bool (true)), (14, .bool (false)), (11, .bool (false)), (17, ptr b1 (0 + 2)), (18, .int .i64 (((i + 1 : Nat) : Int))), (19, .bool (false)), (20, .bool (false)), (21, ptr b1 (0 + 3)), (22, .int .i64 (((o + 1 : Nat) : Int))), (23, .bool (decide ((((o + 1 : Nat) : Int) : Int) < 1))), (24, .bool (decide ((((o + 1 : Nat) : Int) : Int) < 1))), (16, .bool (decide ((((o + 1 : Nat) : Int) : Int) < 1))), (26, ptr b1 (0 + 0)), (27, .int .i64 (((p : Nat) : Int))), (28, ptr b1 (0 + 1)), (29, .int .i64 (((n : Nat) : Int))), (30, ptr b1 (0 + 2)), (31, .int .i64 (((i + 1 : Nat) : Int))), (32, .int .i64 (((i : Nat) : Int))), (33, ptr b1 (0 + 3)), (34, .int .i64 (((o + 1 : Nat) : Int))), (35, .int .i64 (((o : Nat) : Int))), (36, .agg (tenC ((p : Nat) : Int) ((n : Nat) : Int) ((i : Nat) : Int) ((o : Nat) : Int) (.slice (some ⟨b6, 0, none⟩) ((n) ^ ((i) + (o))) ((n) ^ ((i) + (o)))))), (4, ptr b7 (0)), (48, .int .i64 ((((n) ^ (o) : Nat) : Int))), (5, .int .i64 ((((n) ^ (i) : Nat) : Int))), (6, .int .i64 ((((n) ^ (o) : Nat) : Int))), (7, .int .i64 (((gi : Nat) : Int))), (49, .int .i64 (((gi : Nat) : Int))), (50, .int .i64 ((((n) ^ (i) : Nat) : Int))), (51, .bool (decide ((((gi : Nat) : Int) : Int) < (((n) ^ (i) : Nat) : Int)))), (8, .int .i64 (((gj : Nat) : Int))), (54, .int .i64 (((gj : Nat) : Int))), (55, .int .i64 ((((n) ^ (o) : Nat) : Int))), (56, .bool (decide ((((gj : Nat) : Int) : Int) < (((n) ^ (o) : Nat) : Int)))), (9, .int .i64 (((sumTo (clT n (n ^ o) f gi gj) kk : Nat) : Int))), (10, .int .i64 (((kk : Nat) : Int)))] ∧ Mem w w' [some (b1, tenC (p : Int) (n : Int) ((i + 1 : Nat) : Int) ((o + 1 : Nat) : Int) (.slice (some ⟨b, 0, none⟩) (n ^ ((i + 1) + (o + 1))) (n ^ ((i + 1) + (o + 1))))), some (b2, tenC 0 0 0 0 (.slice none 0 0)), some (b6, numC (n ^ (i + o)) (fun c => if c < gi * n ^ o + gj then sumTo (clT n (n ^ o) f (c / n ^ o) (c % n ^ o)) n % p else 0)), some (b7, tenC ((p : Nat) : Int) ((n : Nat) : Int) ((i : Nat) : Int) ((o : Nat) : Int) (.slice (some ⟨b6, 0, none⟩) ((n) ^ ((i) + (o))) ((n) ^ ((i) + (o)))))] [(b, numC (n ^ ((i + 1) + (o + 1))) f)]) (fun kk => n - kk) 0 ?_ ?_
              ·
                refine ⟨by omega, trivial, hF.sub _ (by repeat' constructor), ?_⟩
                exact hM
              ·
                clear hF hM
                rintro gk a w' ⟨hgk, hinv3, hF, hM⟩
                have hX : (gi * n + gk) < n ^ (i + 1) → (gi * n + gk) * n ^ o + n ^ o ≤ n ^ ((i + 1) + o) := idx_bd2
                have hY : (gi * n + gk) * n ^ o + gj < n ^ ((i + 1) + o) → ((gi * n + gk) * n ^ o + gj) * n + n ≤ n ^ ((i + 1) + o + 1) := idx_bd1
                have hbd := sumTo_le (m := gk) (c := 100) fun q (_ : q < gk) => (show clT n (n ^ o) f gi gj q ≤ 100 by unfold clT; have := hfp (((gi * n + q) * n ^ o + gj) * n + q); omega)
                have hfx := hfp (((gi * n + gk) * n ^ o + gj) * n + gk)
                have hgk6 : gk * 100 ≤ 6 * 100 := Nat.mul_le_mul_right _ (by omega)
                refine sq ?_
                refine sq ?_
                refine wp_region_lit ?_
                refine st hF (g_move hF rfl) rfl fun a hF => st hF (g_fieldAddr ty_fo_27_1 hF rfl) rfl fun a hF => st hF (g_load ty_on_2 hF rfl (hM.row 0 rfl) (tenC_1 (by omega))) rfl fun a hF => st hF (g_lss hF rfl rfl) rfl fun a hF => ?_
                refine wpList_nil ?_
                refine tN ?_
                refine c_cond hF rfl (fun h10 => ?_) (fun h10 => ?_)
                ·
                  refine wp_skip ?_
                  refine tN ?_
                  refine sq ?_
                  refine wp_block ?_
                  refine wp_region_lit ?_
                  refine st hF (g_move hF rfl) rfl fun a hF => st hF (g_fieldAddr ty_fo_27_4 hF rfl) rfl fun a hF => st hF (g_load ty_on_22 hF rfl (hM.row 0 rfl) (tenC_4 (by omega))) rfl fun a hF => st hF (g_move hF rfl) rfl fun a hF => st hF (g_fieldAddr ty_fo_27_1 hF rfl) rfl fun a hF => st hF (g_load ty_on_2 hF rfl (hM.row 0 rfl) (tenC_1 (by omega))) rfl fun a hF => st hF (g_mul hF rfl rfl (mul_nat (gi) (n) (by omega))) rfl fun a hF => st hF (g_move hF rfl) rfl fun a hF => st hF (g_add hF rfl rfl (add_nat ((gi) * (n)) (gk) (by omega))) rfl fun a hF => st hF (g_move hF rfl) rfl fun a hF => st hF (g_mul hF rfl rfl (mul_nat ((gi) * (n) + gk) ((n) ^ (o)) (by omega))) rfl fun a hF => st hF (g_move hF rfl) rfl fun a hF => st hF (g_add hF rfl rfl (add_nat (((gi) * (n) + gk) * ((n) ^ (o))) (gj) (by omega))) rfl fun a hF => st hF (g_fieldAddr ty_fo_27_1 hF rfl) rfl fun a hF => st hF (g_load ty_on_2 hF rfl (hM.row 0 rfl) (tenC_1 (by omega))) rfl fun a hF => st hF (g_mul hF rfl rfl (mul_nat (((gi) * (n) + gk) * ((n) ^ (o)) + gj) (n) (by omega))) rfl fun a hF => st hF (g_move hF rfl) rfl fun a hF => st hF (g_add hF rfl rfl (add_nat ((((gi) * (n) + gk) * ((n) ^ (o)) + gj) * (n)) (gk) (by omega))) rfl fun a hF => st hF (g_indexSl (i := (((gi) * (n) + gk) * ((n) ^ (o)) + gj) * (n) + gk) ty_sl_22 hF rfl rfl rfl (by omega)) rfl fun a hF => st hF (g_load ty_on_2 hF rfl (hM.fz 0 rfl) (numC_get (k := (((gi) * (n) + gk) * ((n) ^ (o)) + gj) * (n) + gk) (by omega) (by omega))) rfl fun a hF => st hF (g_add hF rfl rfl (show _ = ((sumTo (clT n (n ^ o) f gi gj) (gk + 1) : Nat) : Int) from (add_then (by omega) rfl))) rfl fun a hF => st hF (g_assign hF rfl) rfl fun a hF => ?_
                  refine wpList_nil ?_
                  refine iN ?_
                  refine tN ?_
                  refine wp_region_lit ?_
                  refine st hF (g_move hF rfl) rfl fun a hF => st hF (g_add hF rfl rfl (add_nat (gk) (1) (by omega))) rfl fun a hF => st hF (g_assign hF rfl) rfl fun a hF => ?_
                  refine wpList_nil ?_
                  refine tN ?_
                  refine ⟨gk + 1, ⟨by omega, trivial, hF.sub _ (by repeat' constructor), ?_⟩, by omega⟩
                  exact hM
                ·
                  obtain rfl : n = gk := by omega
                  refine wp_exit ?_
                  refine tX ?_
                  refine tX ?_
                  refine ib_same ?_
                  refine tN ?_
                  refine c_par 11 [] [.val (ptr b7 (0 + 4)), .val (.slice (some ⟨b6, 0, none⟩) ((n) ^ ((i) + (o))) ((n) ^ ((i) + (o)))), .val (.int .i64 (((gi : Nat) : Int))), .val (.int .i64 ((((n) ^ (o) : Nat) : Int))), .val (.int .i64 ((((gi) * ((n) ^ (o)) : Nat) : Int))), .val (.int .i64 (((gj : Nat) : Int))), .val (.int .i64 ((((gi) * ((n) ^ (o)) + gj : Nat) : Int))), .val (.int .i64 (((sumTo (clT n (n ^ o) f gi gj) n : Nat) : Int))), .val (ptr b1 (0 + 0)), .val (.int .i64 (((p : Nat) : Int))), .val (.int .i64 ((((sumTo (clT n (n ^ o) f gi gj) n) % (p) : Nat) : Int)))] hmix rfl hF rfl hM ⟨fun a w gG hF hS hd => by exact par_val hS rfl (g_fieldAddr ty_fo_27_4 hF rfl), fun a w gG hF hS hd => by have hF := hF.ext1 86 (hd 0 rfl rfl); have hM := hS.mem rfl; exact par_val hS rfl (g_load ty_on_22 hF rfl (hM.row 3 rfl) (tenC_4 (by omega))), fun a w gG hF hS hd => by exact par_val hS rfl (g_move hF rfl), fun a w gG hF hS hd => by exact par_val hS rfl (g_move hF rfl), fun a w gG hF hS hd => by have hF := hF.ext1 88 (hd 2 rfl rfl); have hF := hF.ext1 89 (hd 3 rfl rfl); exact par_val hS rfl (g_mul hF rfl rfl (mul_nat (gi) ((n) ^ (o)) (by omega))), fun a w gG hF hS hd => by exact par_val hS rfl (g_move hF rfl), fun a w gG hF hS hd => by have hF := hF.ext1 90 (hd 4 rfl rfl); have hF := hF.ext1 91 (hd 5 rfl rfl); exact par_val hS rfl (g_add hF rfl rfl (add_nat ((gi) * ((n) ^ (o))) (gj) (by omega))), fun a w gG hF hS hd => by exact par_val hS rfl (g_move hF rfl), fun a w gG hF hS hd => by exact par_val hS rfl (g_fieldAddr ty_fo_27_0 hF rfl), fun a w gG hF hS hd => by have hF := hF.ext1 94 (hd 8 rfl rfl); have hM := hS.mem rfl; exact par_val hS rfl (g_load ty_on_2 hF rfl (hM.row 0 rfl) (tenC_0 (by omega))), fun a w gG hF hS hd => by have hF := hF.ext1 93 (hd 7 rfl rfl); have hF := hF.ext1 95 (hd 9 rfl rfl); exact par_val hS rfl (g_rem hF rfl rfl (by omega) (rem_nat (sumTo (clT n (n ^ o) f gi gj) n) (p))), trivial⟩ ?_
                  intro a w' L hF hS hq
                  have hF := hF.ext1 86 (hq 0 rfl rfl)
                  have hF := hF.ext1 87 (hq 1 rfl rfl)
                  have hF := hF.ext1 88 (hq 2 rfl rfl)
                  have hF := hF.ext1 89 (hq 3 rfl rfl)
                  have hF := hF.ext1 90 (hq 4 rfl rfl)
                  have hF := hF.ext1 91 (hq 5 rfl rfl)
                  have hF := hF.ext1 92 (hq 6 rfl rfl)
                  have hF := hF.ext1 93 (hq 7 rfl rfl)
                  have hF := hF.ext1 94 (hq 8 rfl rfl)
                  have hF := hF.ext1 95 (hq 9 rfl rfl)
                  have hF := hF.ext1 96 (hq 10 rfl rfl)
                  have hM := hS.mem rfl
                  change wpList Try.prog _ _ [_, _] _ _
                  refine st hF (g_indexSl (i := (gi) * ((n) ^ (o)) + gj) ty_sl_22 hF rfl rfl rfl (by omega)) rfl fun a hF => ?_
                  refine stN hF (d_store 2 hM rfl ty_on_2 hF rfl rfl rfl (by first | omega | (simp only [fnC_size, cells_size, vecC_size, tabC_size, planeC_size, tenC_size, smC_size, numC_size, numI_size] <;> omega))) ?_
                  intro _ w' a hM hF
                  rw [show (numC (n ^ (i + o)) (fun c => if c < gi * n ^ o + gj then sumTo (clT n (n ^ o) f (c / n ^ o) (c % n ^ o)) n % p else 0)).setIfInBounds (0 + ((gi) * ((n) ^ (o)) + gj) * 1) (.int .i64 ((((sumTo (clT n (n ^ o) f gi gj) n) % (p) : Nat) : Int))) = numC (n ^ (i + o)) (fun c => if c = ((gi) * ((n) ^ (o)) + gj) then (sumTo (clT n (n ^ o) f gi gj) n) % (p) else (fun c => if c < gi * n ^ o + gj then sumTo (clT n (n ^ o) f (c / n ^ o) (c % n ^ o)) n % p else 0) c) from numC_set (k := ((gi) * ((n) ^ (o)) + gj)) (by omega) (fun c _ => rfl)] at hM
                  change Mem w w' [some (b1, tenC (p : Int) (n : Int) ((i + 1 : Nat) : Int) ((o + 1 : Nat) : Int) (.slice (some ⟨b, 0, none⟩) (n ^ ((i + 1) + (o + 1))) (n ^ ((i + 1) + (o + 1))))), some (b2, tenC 0 0 0 0 (.slice none 0 0)), some (b6, numC (n ^ (i + o)) (fun c => if c = ((gi) * ((n) ^ (o)) + gj) then (sumTo (clT n (n ^ o) f gi gj) n) % (p) else (fun c => if c < gi * n ^ o + gj then sumTo (clT n (n ^ o) f (c / n ^ o) (c % n ^ o)) n % p else 0) c)), some (b7, tenC ((p : Nat) : Int) ((n : Nat) : Int) ((i : Nat) : Int) ((o : Nat) : Int) (.slice (some ⟨b6, 0, none⟩) ((n) ^ ((i) + (o))) ((n) ^ ((i) + (o)))))] [(b, numC (n ^ ((i + 1) + (o + 1))) f)] at hM
                  refine wpList_nil ?_
                  refine iN ?_
                  refine tN ?_
                  refine wp_region_lit ?_
                  refine st hF (g_move hF rfl) rfl fun a hF => st hF (g_add hF rfl rfl (add_nat (gj) (1) (by omega))) rfl fun a hF => st hF (g_assign hF rfl) rfl fun a hF => ?_
                  refine wpList_nil ?_
                  refine tN ?_
                  refine ⟨gj + 1, ⟨by omega, trivial, hF.sub _ (by repeat' constructor), ?_⟩, by omega⟩
                  refine hM.rowc 2 rfl (numC_congr fun c hc => ?_)
                  by_cases e1 : c = gi * n ^ o + gj
                  · have e2 : c / n ^ o = gi := (div_row (by omega)).2 ⟨by omega, by omega⟩
                    have e3 : c % n ^ o = gj := by rw [mod_row e2]; omega
                    rw [if_pos e1, if_pos (by omega), e2, e3]
                  · have e0 : (c < gi * n ^ o + (gj + 1)) = (c < gi * n ^ o + gj) := by apply propext; omega
                    rw [if_neg e1]; simp only [e0]
            ·
              obtain rfl : n ^ o = gj := by omega
              refine wp_exit ?_
              refine tX ?_
              refine tX ?_
              refine ib_same ?_
              refine iN ?_
              refine tN ?_
              refine wp_region_lit ?_
              refine st hF (g_move hF rfl) rfl fun a hF => st hF (g_add hF rfl rfl (add_nat (gi) (1) (by omega))) rfl fun a hF => st hF (g_assign hF rfl) rfl fun a hF => ?_
              refine wpList_nil ?_
              refine tN ?_
              refine ⟨gi + 1, ⟨by omega, trivial, hF.sub _ (by repeat' constructor), ?_⟩, by omega⟩
              refine hM.rowc 2 rfl (numC_congr fun c hc => by rw [Nat.succ_mul])
        ·
          obtain rfl : n ^ i = gi := by omega
          refine wp_exit ?_
          refine tX ?_
          refine tX ?_
          refine ib_same ?_
          refine tN ?_
          refine sq ?_
          refine wp_region_lit ?_
          refine st hF (g_loadAgg ty_ag_27 hF rfl (hM.row 3 rfl) (by simp only [fnC_size, cells_size, vecC_size, tabC_size, planeC_size, tenC_size, smC_size, numC_size, numI_size] <;> omega) (whole rfl)) rfl fun a hF => ?_
          refine stN hF (d_storeAgg 1 hM rfl ty_sz_27 hF rfl rfl (tenC_one rfl) (by simp only [fnC_size, cells_size, vecC_size, tabC_size, planeC_size, tenC_size, smC_size, numC_size, numI_size]) (by simp only [fnC_size, cells_size, vecC_size, tabC_size, planeC_size, tenC_size, smC_size, numC_size, numI_size] <;> omega) (splice_whole _ _ rfl)) ?_
          intro _ w' a hM hF
          change Mem w w' [some (b1, tenC (p : Int) (n : Int) ((i + 1 : Nat) : Int) ((o + 1 : Nat) : Int) (.slice (some ⟨b, 0, none⟩) (n ^ ((i + 1) + (o + 1))) (n ^ ((i + 1) + (o + 1))))), some (b2, tenC ((p : Nat) : Int) ((n : Nat) : Int) ((i : Nat) : Int) ((o : Nat) : Int) (.slice (some ⟨b6, 0, none⟩) ((n) ^ ((i) + (o))) ((n) ^ ((i) + (o))))), some (b6, numC (n ^ (i + o)) (fun c => if c < (n ^ i) * n ^ o then sumTo (clT n (n ^ o) f (c / n ^ o) (c % n ^ o)) n % p else 0)), some (b7, tenC ((p : Nat) : Int) ((n : Nat) : Int) ((i : Nat) : Int) ((o : Nat) : Int) (.slice (some ⟨b6, 0, none⟩) ((n) ^ ((i) + (o))) ((n) ^ ((i) + (o)))))] [(b, numC (n ^ ((i + 1) + (o + 1))) f)] at hM
          refine st hF (g_assign hF rfl) rfl fun a hF => ?_
          refine wpList_nil ?_
          refine tN ?_
          refine wp_ret ?_
          refine fin2 rfl hF.defers (res_agg ty_ag_27 hF rfl (hM.row 1 rfl) (by simp only [fnC_size, cells_size, vecC_size, tabC_size, planeC_size, tenC_size, smC_size, numC_size, numI_size])) (res_tmp hF rfl) ⟨_, rfl, hM.below, ?_⟩
          exact ⟨_, rfl, hM.ge 2 rfl, (hM.rowc (cs' := numC (n ^ (i + o)) (acF p (n ^ o) n (clT n (n ^ o) f) (n ^ i) 0)) 2 rfl (numC_congr fun c hc => by rw [if_pos (by rw [← Nat.pow_add]; exact hc)]; unfold acF; rw [if_pos (Nat.div_lt_of_lt_mul (by rw [Nat.mul_comm, ← Nat.pow_add]; exact hc)), acA_sum hp0])).row 2 rfl⟩

end Go.Proofs.Ythliekalhgafcaa
