/- What functions of the program return, as walks over their operations; no statement of the seat is proved here. -/
import Derived.Test.YthliekalhgafcaaT9
set_option linter.unusedVariables false
set_option linter.unusedSimpArgs false
namespace Go.Proofs.Ythliekalhgafcaa
open Go Go.RowKit Go.Sw Go.Ech
open Classical
theorem div_row {W c i : Nat} (hW : 0 < W) : c / W = i ↔ i * W ≤ c ∧ c < i * W + W := by
  constructor
  · intro h
    have h1 := Nat.div_add_mod c W
    have h2 := Nat.mod_lt c hW
    rw [h, Nat.mul_comm] at h1
    omega
  · rintro ⟨h1, h2⟩
    exact Nat.div_eq_of_lt_le h1 (by rw [Nat.succ_mul]; exact h2)
theorem mod_row {W c i : Nat} (h : c / W = i) : c % W = c - i * W := by
  have h1 := Nat.div_add_mod c W
  rw [h, Nat.mul_comm] at h1
  omega
/-- A number of a composition, J numbers of the middle done. -/
def cmpA (p W M : Nat) (f h : Nat → Nat) (r k : Nat) : Nat → Nat
  | 0 => 0
  | J + 1 => (cmpA p W M f h r k J + f (r * M + J) * h (J * W + k)) % p
theorem cmpA_lt {p W M r k J : Nat} {f h : Nat → Nat} (hp : 0 < p) : cmpA p W M f h r k J < p := by
  cases J with
  | zero => exact hp
  | succ J => exact Nat.mod_lt _ hp
/-- Rows before i done, of row i the first j numbers of the middle. -/
def cmpF (p W M : Nat) (f h : Nat → Nat) (i j c : Nat) : Nat := cmpA p W M f h (c / W) (c % W) (if c / W < i then M else if c / W = i then j else 0)
def cmpG (p W M : Nat) (f h : Nat → Nat) (i j k c : Nat) : Nat := cmpA p W M f h (c / W) (c % W) (if c / W < i then M else if c / W = i then (if c % W < k then j + 1 else j) else 0)
section
variable {p W M i j k c : Nat} {f h : Nat → Nat}
theorem cmpF_0 : cmpF p W M f h 0 0 c = 0 := by
  unfold cmpF
  rw [if_neg (Nat.not_lt_zero _)]
  split <;> rfl
theorem cmp_row : cmpF p W M f h i M c = cmpF p W M f h (i + 1) 0 c := by
  unfold cmpF
  congr 1
  by_cases h1 : c / W < i
  · rw [if_pos h1, if_pos (by omega)]
  · rw [if_neg h1]
    by_cases h2 : c / W = i
    · rw [if_pos h2, if_pos (by omega)]
    · rw [if_neg h2, if_neg (by omega)]
      split <;> rfl
theorem cmp_step {o L x : Nat} {h' : Nat → Nat} (hW : 0 < W) (ho : o = i * W) (hL : L = W) (hx : x = f (i * M + j)) (hh : ∀ q, h' q = h (j * W + q)) :
    (if o ≤ c ∧ c < o + L then (cmpF p W M f h i j c + x * h' (c - o)) % p else cmpF p W M f h i j c) = cmpF p W M f h i (j + 1) c := by
  subst ho hL hx
  by_cases e : c / L = i
  · rw [if_pos ((div_row hW).1 e), hh]
    unfold cmpF
    rw [if_neg (by omega), if_pos e, if_neg (by omega), if_pos e, mod_row e, e]
    rfl
  · rw [if_neg (fun q => e ((div_row hW).2 q))]
    unfold cmpF
    rw [if_neg e, if_neg e]
theorem cmpG_0 : cmpG p W M f h i j 0 c = cmpF p W M f h i j c := by
  unfold cmpG cmpF
  rw [if_neg (Nat.not_lt_zero _)]
theorem cmpG_full (hW : 0 < W) (hk : ¬ k < W) : cmpG p W M f h i j k c = cmpF p W M f h i (j + 1) c := by
  have := Nat.mod_lt c hW
  unfold cmpG cmpF
  rw [if_pos (show c % W < k by omega)]
theorem cmpG_zero (hp : 0 < p) (hx : f (i * M + j) = 0) : cmpG p W M f h i j k c = cmpF p W M f h i (j + 1) c := by
  unfold cmpG cmpF
  by_cases e : c / W = i
  · have n1 : ¬ c / W < i := by omega
    rw [if_neg n1, if_pos e, if_neg n1, if_pos e]
    by_cases e2 : c % W < k
    · rw [if_pos e2]
    · rw [if_neg e2]
      show _ = (cmpA p W M f h (c / W) (c % W) j + f (c / W * M + j) * _) % p
      rw [e, hx, Nat.zero_mul, Nat.add_zero, Nat.mod_eq_of_lt (cmpA_lt hp)]
  · rw [if_neg e, if_neg e]
theorem cmpG_lt (hp : 0 < p) : cmpG p W M f h i j k c < p := cmpA_lt hp
theorem cmpG_step {a x y : Nat} (hW : 0 < W) (hk : k < W) (ha : a = i * W + k) (hx : x = f (i * M + j)) (hy : y = h (j * W + k)) :
    (if c = a then (cmpG p W M f h i j k a + x * y) % p else cmpG p W M f h i j k c) = cmpG p W M f h i j (k + 1) c := by
  subst ha hx hy
  have e1 : (i * W + k) / W = i := (div_row hW).2 ⟨by omega, by omega⟩
  have e2 : (i * W + k) % W = k := by rw [mod_row e1]; omega
  by_cases e : c = i * W + k
  · subst e
    rw [if_pos rfl]
    unfold cmpG
    rw [e1, e2, if_neg (Nat.lt_irrefl i), if_pos rfl, if_neg (Nat.lt_irrefl k), if_neg (Nat.lt_irrefl i), if_pos rfl, if_pos (Nat.lt_succ_self k)]
    rfl
  · rw [if_neg e]
    unfold cmpG
    by_cases e3 : c / W = i
    · have e4 := mod_row e3
      have e5 := (div_row hW).1 e3
      have e6 : (c % W < k + 1) = (c % W < k) := by apply propext; omega
      simp only [e6]
    · rw [if_neg e3, if_neg e3]
end
theorem idx_bd2 {n i o a : Nat} (h : a < n ^ i) : a * n ^ o + n ^ o ≤ n ^ (i + o) := by
  rw [Nat.pow_add, ← Nat.succ_mul]; exact Nat.mul_le_mul_right _ h
theorem pow_le_add {n i o : Nat} (hn : 0 < n) : n ^ i ≤ n ^ (i + o) := Nat.pow_le_pow_right hn (by omega)
theorem pow_le_add2 {n i o : Nat} (hn : 0 < n) : n ^ o ≤ n ^ (i + o) := Nat.pow_le_pow_right hn (by omega)

theorem ComposeTensorsIA (p n i o p2 n2 i2 o2 : Int) (b bz m m2 : Nat) (g g2 : Nat → Int) (w : World) (hb : Blk w b (numI m g)) (hbz : Blk w bz (numI m2 g2)) (hm : m < 10000000) (hm2 : m2 < 10000000) (hA : ¬ (TenP p n i o m g ∧ TenP p2 n2 i2 o2 m2 g2)) :
    CallsR Try.prog 30 #[.agg (tenC p n i o (.slice (some ⟨b, 0, none⟩) m m)), .agg (tenC p2 n2 i2 o2 (.slice (some ⟨bz, 0, none⟩) m2 m2))] w (fun res _ => res = .tuple #[.agg (tenC 0 0 0 0 (.slice none 0 0)), .int .i64 1]) := by
  refine calls_fr [.agg (tenC p n i o (.slice (some ⟨b, 0, none⟩) m m)), .agg (tenC p2 n2 i2 o2 (.slice (some ⟨bz, 0, none⟩) m2 m2))] Try.func30 rfl Try.ntmps30 rfl fun a hF => ?_
  have hM : Mem w w [none, none, none, none, none, none] [(b, numI m g), (bz, numI m2 g2)] := MemX.startD w 6 _ (startD2 hb hbz)
  change Fr 74 a [(0, .agg (tenC p n i o (.slice (some ⟨b, 0, none⟩) m m))), (1, .agg (tenC p2 n2 i2 o2 (.slice (some ⟨bz, 0, none⟩) m2 m2)))] at hF
  refine sq ?_
  refine wp_region_lit ?_
  refine stR hF (d_box 0 hM hF rfl) rfl ?_
  rintro _ w' a ⟨b1, rfl, hM, -⟩ hF
  change Mem w w' [some (b1, tenC p n i o (.slice (some ⟨b, 0, none⟩) m m)), none, none, none, none, none] [(b, numI m g), (bz, numI m2 g2)] at hM
  refine stR hF (d_box 1 hM hF rfl) rfl ?_
  rintro _ w' a ⟨b2, rfl, hM, -⟩ hF
  change Mem w w' [some (b1, tenC p n i o (.slice (some ⟨b, 0, none⟩) m m)), some (b2, tenC p2 n2 i2 o2 (.slice (some ⟨bz, 0, none⟩) m2 m2)), none, none, none, none] [(b, numI m g), (bz, numI m2 g2)] at hM
  refine stR hF (d_alloc 2 hM ty_ze_27) rfl ?_
  rintro _ w' a ⟨b3, rfl, hM, -⟩ hF
  change Mem w w' [some (b1, tenC p n i o (.slice (some ⟨b, 0, none⟩) m m)), some (b2, tenC p2 n2 i2 o2 (.slice (some ⟨bz, 0, none⟩) m2 m2)), some (b3, tenC 0 0 0 0 (.slice none 0 0)), none, none, none] [(b, numI m g), (bz, numI m2 g2)] at hM
  refine st hF (g_assign hF rfl) rfl fun a hF => ?_
  refine wpList_nil ?_
  refine tN ?_
  refine sq ?_
  refine wp_region_lit ?_
  refine st hF (g_loadAgg ty_ag_27 hF rfl (hM.row 0 rfl) (by simp only [fnC_size, cells_size, vecC_size, tabC_size, planeC_size, tenC_size, smC_size, numC_size, numI_size] <;> omega) (whole rfl)) rfl fun a hF => st hF (g_loadAgg ty_ag_27 hF rfl (hM.row 1 rfl) (by simp only [fnC_size, cells_size, vecC_size, tabC_size, planeC_size, tenC_size, smC_size, numC_size, numI_size] <;> omega) (whole rfl)) rfl fun a hF => st hF (g_fieldAddr ty_fo_27_3 hF rfl) rfl fun a hF => st hF (g_load ty_on_2 hF rfl (hM.row 0 rfl) (tenC_3 (by omega))) rfl fun a hF => st hF (g_fieldAddr ty_fo_27_2 hF rfl) rfl fun a hF => st hF (g_load ty_on_2 hF rfl (hM.row 1 rfl) (tenC_2 (by omega))) rfl fun a hF => st hF (g_eql hF rfl rfl) rfl fun a hF => ?_
  refine stR hF (d_call Try.call64 hF (.cons rfl (.cons rfl (.cons rfl .nil))) (pairFault_A p n i o p2 n2 i2 o2 b bz m m2 g g2 ((decide ((o : Int) = i2))) _ (hM.fz 0 rfl) (hM.fz 1 rfl) (by omega) (by omega) hA)) rfl ?_
  rintro _ w' a ⟨hx, rfl⟩ hF
  have hM := hM.ext hx
  refine st hF (g_assign hF rfl) rfl fun a hF => ?_
  refine wpList_nil ?_
  refine tN ?_
  refine sq ?_
  refine sq ?_
  refine wp_region_lit ?_
  refine st hF (g_move hF rfl) rfl fun a hF => st hF (g_neq hF rfl rfl) rfl fun a hF => ?_
  refine wpList_nil ?_
  refine tN ?_
  refine c_kT hF rfl (by decide) ?_
  refine sq ?_
  refine wp_region_lit ?_
  refine st hF (g_build0 ty_bu_27) rfl fun a hF => st hF (g_move hF rfl) rfl fun a hF => ?_
  refine stN hF (d_storeAgg 2 hM rfl ty_sz_27 hF rfl rfl (tenC_one rfl) (by simp only [fnC_size, cells_size, vecC_size, tabC_size, planeC_size, tenC_size, smC_size, numC_size, numI_size]) (by simp only [fnC_size, cells_size, vecC_size, tabC_size, planeC_size, tenC_size, smC_size, numC_size, numI_size] <;> omega) (splice_whole _ _ rfl)) ?_
  intro _ w' a hM hF
  change Mem w w' [some (b1, tenC p n i o (.slice (some ⟨b, 0, none⟩) m m)), some (b2, tenC p2 n2 i2 o2 (.slice (some ⟨bz, 0, none⟩) m2 m2)), some (b3, tenC 0 0 0 0 (.slice none 0 0)), none, none, none] [(b, numI m g), (bz, numI m2 g2)] at hM
  refine st hF (g_assign hF rfl) rfl fun a hF => ?_
  refine wpList_nil ?_
  refine tN ?_
  refine wp_ret ?_
  refine tR ?_
  refine fin2 rfl hF.defers (res_agg ty_ag_27 hF rfl (hM.row 2 rfl) (by simp only [fnC_size, cells_size, vecC_size, tabC_size, planeC_size, tenC_size, smC_size, numC_size, numI_size])) (res_tmp hF rfl) ⟨_, rfl, hM.below, ?_⟩
  show _ = _
  rfl

theorem ComposeTensorsSA (p n i o p2 n2 i2 o2 : Int) (b bz m m2 : Nat) (g g2 : Nat → Int) (w : World) (hb : Blk w b (numI m g)) (hbz : Blk w bz (numI m2 g2)) (hm : m < 10000000) (hm2 : m2 < 10000000) (hA : ¬ (TenP p n i o m g ∧ TenP p2 n2 i2 o2 m2 g2)) :
    CallsR Try.prog 29 #[.agg (tenC p n i o (.slice (some ⟨b, 0, none⟩) m m)), .agg (tenC p2 n2 i2 o2 (.slice (some ⟨bz, 0, none⟩) m2 m2))] w (fun res _ => res = .tuple #[.agg (tenC 0 0 0 0 (.slice none 0 0)), .int .i64 1]) := by
  refine calls_fr [.agg (tenC p n i o (.slice (some ⟨b, 0, none⟩) m m)), .agg (tenC p2 n2 i2 o2 (.slice (some ⟨bz, 0, none⟩) m2 m2))] Try.func29 rfl Try.ntmps29 rfl fun a hF => ?_
  have hM : Mem w w [none, none, none] [(b, numI m g), (bz, numI m2 g2)] := MemX.startD w 3 _ (startD2 hb hbz)
  change Fr 37 a [(0, .agg (tenC p n i o (.slice (some ⟨b, 0, none⟩) m m))), (1, .agg (tenC p2 n2 i2 o2 (.slice (some ⟨bz, 0, none⟩) m2 m2)))] at hF
  refine sq ?_
  refine wp_region_lit ?_
  refine stR hF (d_box 0 hM hF rfl) rfl ?_
  rintro _ w' a ⟨b1, rfl, hM, -⟩ hF
  change Mem w w' [some (b1, tenC p n i o (.slice (some ⟨b, 0, none⟩) m m)), none, none] [(b, numI m g), (bz, numI m2 g2)] at hM
  refine stR hF (d_box 1 hM hF rfl) rfl ?_
  rintro _ w' a ⟨b2, rfl, hM, -⟩ hF
  change Mem w w' [some (b1, tenC p n i o (.slice (some ⟨b, 0, none⟩) m m)), some (b2, tenC p2 n2 i2 o2 (.slice (some ⟨bz, 0, none⟩) m2 m2)), none] [(b, numI m g), (bz, numI m2 g2)] at hM
  refine stR hF (d_alloc 2 hM ty_ze_27) rfl ?_
  rintro _ w' a ⟨b3, rfl, hM, -⟩ hF
  change Mem w w' [some (b1, tenC p n i o (.slice (some ⟨b, 0, none⟩) m m)), some (b2, tenC p2 n2 i2 o2 (.slice (some ⟨bz, 0, none⟩) m2 m2)), some (b3, tenC 0 0 0 0 (.slice none 0 0))] [(b, numI m g), (bz, numI m2 g2)] at hM
  refine st hF (g_assign hF rfl) rfl fun a hF => ?_
  refine wpList_nil ?_
  refine tN ?_
  refine sq ?_
  refine wp_region_lit ?_
  refine st hF (g_loadAgg ty_ag_27 hF rfl (hM.row 0 rfl) (by simp only [fnC_size, cells_size, vecC_size, tabC_size, planeC_size, tenC_size, smC_size, numC_size, numI_size] <;> omega) (whole rfl)) rfl fun a hF => st hF (g_loadAgg ty_ag_27 hF rfl (hM.row 1 rfl) (by simp only [fnC_size, cells_size, vecC_size, tabC_size, planeC_size, tenC_size, smC_size, numC_size, numI_size] <;> omega) (whole rfl)) rfl fun a hF => ?_
  refine stR hF (d_call Try.call62 hF (.cons rfl (.cons rfl .nil)) (l03Two_A p n i o p2 n2 i2 o2 b bz m m2 g g2 _ (hM.fz 0 rfl) (hM.fz 1 rfl) (by omega) (by omega) hA)) rfl ?_
  rintro _ w' a ⟨hx, rfl⟩ hF
  have hM := hM.ext hx
  refine st hF (g_assign hF rfl) rfl fun a hF => ?_
  refine wpList_nil ?_
  refine tN ?_
  refine sq ?_
  refine sq ?_
  refine wp_region_lit ?_
  refine st hF (g_move hF rfl) rfl fun a hF => st hF (g_eql hF rfl rfl) rfl fun a hF => st hF (g_move hF rfl) rfl fun a hF => ?_
  rw [show decide ((1 : Int) = 0) = false from by decide] at hF
  refine stS hF rfl rfl rfl rfl rfl fun a hF => stS hF rfl rfl rfl rfl rfl fun a hF => stS hF rfl rfl rfl rfl rfl fun a hF => stS hF rfl rfl rfl rfl rfl fun a hF => stS hF rfl rfl rfl rfl rfl fun a hF => st hF (g_pickF hF rfl rfl) rfl fun a hF => ?_
  refine wpList_nil ?_
  refine tN ?_
  refine c_Fl hF rfl ?_
  refine wp_skip ?_
  refine tN ?_
  refine sq ?_
  refine sq ?_
  refine wp_region_lit ?_
  refine st hF (g_move hF rfl) rfl fun a hF => st hF (g_eql hF rfl rfl) rfl fun a hF => ?_
  refine wpList_nil ?_
  refine tN ?_
  refine c_kF hF rfl (by decide) ?_
  refine wp_skip ?_
  refine tN ?_
  refine sq ?_
  refine sq ?_
  refine wp_region_lit ?_
  refine st hF (g_move hF rfl) rfl fun a hF => st hF (g_neq hF rfl rfl) rfl fun a hF => ?_
  refine wpList_nil ?_
  refine tN ?_
  refine c_kT hF rfl (by decide) ?_
  refine sq ?_
  refine wp_region_lit ?_
  refine st hF (g_build0 ty_bu_27) rfl fun a hF => st hF (g_move hF rfl) rfl fun a hF => ?_
  refine stN hF (d_storeAgg 2 hM rfl ty_sz_27 hF rfl rfl (tenC_one rfl) (by simp only [fnC_size, cells_size, vecC_size, tabC_size, planeC_size, tenC_size, smC_size, numC_size, numI_size]) (by simp only [fnC_size, cells_size, vecC_size, tabC_size, planeC_size, tenC_size, smC_size, numC_size, numI_size] <;> omega) (splice_whole _ _ rfl)) ?_
  intro _ w' a hM hF
  change Mem w w' [some (b1, tenC p n i o (.slice (some ⟨b, 0, none⟩) m m)), some (b2, tenC p2 n2 i2 o2 (.slice (some ⟨bz, 0, none⟩) m2 m2)), some (b3, tenC 0 0 0 0 (.slice none 0 0))] [(b, numI m g), (bz, numI m2 g2)] at hM
  refine st hF (g_assign hF rfl) rfl fun a hF => ?_
  refine wpList_nil ?_
  refine tN ?_
  refine wp_ret ?_
  refine tR ?_
  refine fin2 rfl hF.defers (res_agg ty_ag_27 hF rfl (hM.row 2 rfl) (by simp only [fnC_size, cells_size, vecC_size, tabC_size, planeC_size, tenC_size, smC_size, numC_size, numI_size])) (res_tmp hF rfl) ⟨_, rfl, hM.below, ?_⟩
  show _ = _
  rfl

theorem ComposeTensorsIR1 (p n i o p2 n2 i2 o2 : Int) (b bz m m2 : Nat) (g g2 : Nat → Int) (w : World) (hb : Blk w b (numI m g)) (hbz : Blk w bz (numI m2 g2)) (hm : m < 10000000) (hm2 : m2 < 10000000) (h1 : TenP p n i o m g) (h2 : TenP p2 n2 i2 o2 m2 g2) (hR : ¬ (p = p2 ∧ n = n2)) :
    CallsR Try.prog 30 #[.agg (tenC p n i o (.slice (some ⟨b, 0, none⟩) m m)), .agg (tenC p2 n2 i2 o2 (.slice (some ⟨bz, 0, none⟩) m2 m2))] w (fun res _ => res = .tuple #[.agg (tenC 0 0 0 0 (.slice none 0 0)), .int .i64 2]) := by
  refine calls_fr [.agg (tenC p n i o (.slice (some ⟨b, 0, none⟩) m m)), .agg (tenC p2 n2 i2 o2 (.slice (some ⟨bz, 0, none⟩) m2 m2))] Try.func30 rfl Try.ntmps30 rfl fun a hF => ?_
  have hM : Mem w w [none, none, none, none, none, none] [(b, numI m g), (bz, numI m2 g2)] := MemX.startD w 6 _ (startD2 hb hbz)
  change Fr 74 a [(0, .agg (tenC p n i o (.slice (some ⟨b, 0, none⟩) m m))), (1, .agg (tenC p2 n2 i2 o2 (.slice (some ⟨bz, 0, none⟩) m2 m2)))] at hF
  refine sq ?_
  refine wp_region_lit ?_
  refine stR hF (d_box 0 hM hF rfl) rfl ?_
  rintro _ w' a ⟨b1, rfl, hM, -⟩ hF
  change Mem w w' [some (b1, tenC p n i o (.slice (some ⟨b, 0, none⟩) m m)), none, none, none, none, none] [(b, numI m g), (bz, numI m2 g2)] at hM
  refine stR hF (d_box 1 hM hF rfl) rfl ?_
  rintro _ w' a ⟨b2, rfl, hM, -⟩ hF
  change Mem w w' [some (b1, tenC p n i o (.slice (some ⟨b, 0, none⟩) m m)), some (b2, tenC p2 n2 i2 o2 (.slice (some ⟨bz, 0, none⟩) m2 m2)), none, none, none, none] [(b, numI m g), (bz, numI m2 g2)] at hM
  refine stR hF (d_alloc 2 hM ty_ze_27) rfl ?_
  rintro _ w' a ⟨b3, rfl, hM, -⟩ hF
  change Mem w w' [some (b1, tenC p n i o (.slice (some ⟨b, 0, none⟩) m m)), some (b2, tenC p2 n2 i2 o2 (.slice (some ⟨bz, 0, none⟩) m2 m2)), some (b3, tenC 0 0 0 0 (.slice none 0 0)), none, none, none] [(b, numI m g), (bz, numI m2 g2)] at hM
  refine st hF (g_assign hF rfl) rfl fun a hF => ?_
  refine wpList_nil ?_
  refine tN ?_
  refine sq ?_
  refine wp_region_lit ?_
  refine st hF (g_loadAgg ty_ag_27 hF rfl (hM.row 0 rfl) (by simp only [fnC_size, cells_size, vecC_size, tabC_size, planeC_size, tenC_size, smC_size, numC_size, numI_size] <;> omega) (whole rfl)) rfl fun a hF => st hF (g_loadAgg ty_ag_27 hF rfl (hM.row 1 rfl) (by simp only [fnC_size, cells_size, vecC_size, tabC_size, planeC_size, tenC_size, smC_size, numC_size, numI_size] <;> omega) (whole rfl)) rfl fun a hF => st hF (g_fieldAddr ty_fo_27_3 hF rfl) rfl fun a hF => st hF (g_load ty_on_2 hF rfl (hM.row 0 rfl) (tenC_3 (by omega))) rfl fun a hF => st hF (g_fieldAddr ty_fo_27_2 hF rfl) rfl fun a hF => st hF (g_load ty_on_2 hF rfl (hM.row 1 rfl) (tenC_2 (by omega))) rfl fun a hF => st hF (g_eql hF rfl rfl) rfl fun a hF => ?_
  refine stR hF (d_call Try.call64 hF (.cons rfl (.cons rfl (.cons rfl .nil))) (pairFault_R p n i o p2 n2 i2 o2 b bz m m2 g g2 ((decide ((o : Int) = i2))) _ (hM.fz 0 rfl) (hM.fz 1 rfl) (by omega) (by omega) h1 h2 (fun q => hR ⟨q.1, q.2.1⟩))) rfl ?_
  rintro _ w' a ⟨hx, rfl⟩ hF
  have hM := hM.ext hx
  refine st hF (g_assign hF rfl) rfl fun a hF => ?_
  refine wpList_nil ?_
  refine tN ?_
  refine sq ?_
  refine sq ?_
  refine wp_region_lit ?_
  refine st hF (g_move hF rfl) rfl fun a hF => st hF (g_neq hF rfl rfl) rfl fun a hF => ?_
  refine wpList_nil ?_
  refine tN ?_
  refine c_kT hF rfl (by decide) ?_
  refine sq ?_
  refine wp_region_lit ?_
  refine st hF (g_build0 ty_bu_27) rfl fun a hF => st hF (g_move hF rfl) rfl fun a hF => ?_
  refine stN hF (d_storeAgg 2 hM rfl ty_sz_27 hF rfl rfl (tenC_one rfl) (by simp only [fnC_size, cells_size, vecC_size, tabC_size, planeC_size, tenC_size, smC_size, numC_size, numI_size]) (by simp only [fnC_size, cells_size, vecC_size, tabC_size, planeC_size, tenC_size, smC_size, numC_size, numI_size] <;> omega) (splice_whole _ _ rfl)) ?_
  intro _ w' a hM hF
  change Mem w w' [some (b1, tenC p n i o (.slice (some ⟨b, 0, none⟩) m m)), some (b2, tenC p2 n2 i2 o2 (.slice (some ⟨bz, 0, none⟩) m2 m2)), some (b3, tenC 0 0 0 0 (.slice none 0 0)), none, none, none] [(b, numI m g), (bz, numI m2 g2)] at hM
  refine st hF (g_assign hF rfl) rfl fun a hF => ?_
  refine wpList_nil ?_
  refine tN ?_
  refine wp_ret ?_
  refine tR ?_
  refine fin2 rfl hF.defers (res_agg ty_ag_27 hF rfl (hM.row 2 rfl) (by simp only [fnC_size, cells_size, vecC_size, tabC_size, planeC_size, tenC_size, smC_size, numC_size, numI_size])) (res_tmp hF rfl) ⟨_, rfl, hM.below, ?_⟩
  show _ = _
  rfl

theorem ComposeTensorsSR1 (p n i o p2 n2 i2 o2 : Int) (b bz m m2 : Nat) (g g2 : Nat → Int) (w : World) (hb : Blk w b (numI m g)) (hbz : Blk w bz (numI m2 g2)) (hm : m < 10000000) (hm2 : m2 < 10000000) (h1 : TenP p n i o m g) (h2 : TenP p2 n2 i2 o2 m2 g2) (hR : ¬ (p = p2 ∧ n = n2)) :
    CallsR Try.prog 29 #[.agg (tenC p n i o (.slice (some ⟨b, 0, none⟩) m m)), .agg (tenC p2 n2 i2 o2 (.slice (some ⟨bz, 0, none⟩) m2 m2))] w (fun res _ => res = .tuple #[.agg (tenC 0 0 0 0 (.slice none 0 0)), .int .i64 2]) := by
  refine calls_fr [.agg (tenC p n i o (.slice (some ⟨b, 0, none⟩) m m)), .agg (tenC p2 n2 i2 o2 (.slice (some ⟨bz, 0, none⟩) m2 m2))] Try.func29 rfl Try.ntmps29 rfl fun a hF => ?_
  have hM : Mem w w [none, none, none] [(b, numI m g), (bz, numI m2 g2)] := MemX.startD w 3 _ (startD2 hb hbz)
  change Fr 37 a [(0, .agg (tenC p n i o (.slice (some ⟨b, 0, none⟩) m m))), (1, .agg (tenC p2 n2 i2 o2 (.slice (some ⟨bz, 0, none⟩) m2 m2)))] at hF
  refine sq ?_
  refine wp_region_lit ?_
  refine stR hF (d_box 0 hM hF rfl) rfl ?_
  rintro _ w' a ⟨b1, rfl, hM, -⟩ hF
  change Mem w w' [some (b1, tenC p n i o (.slice (some ⟨b, 0, none⟩) m m)), none, none] [(b, numI m g), (bz, numI m2 g2)] at hM
  refine stR hF (d_box 1 hM hF rfl) rfl ?_
  rintro _ w' a ⟨b2, rfl, hM, -⟩ hF
  change Mem w w' [some (b1, tenC p n i o (.slice (some ⟨b, 0, none⟩) m m)), some (b2, tenC p2 n2 i2 o2 (.slice (some ⟨bz, 0, none⟩) m2 m2)), none] [(b, numI m g), (bz, numI m2 g2)] at hM
  refine stR hF (d_alloc 2 hM ty_ze_27) rfl ?_
  rintro _ w' a ⟨b3, rfl, hM, -⟩ hF
  change Mem w w' [some (b1, tenC p n i o (.slice (some ⟨b, 0, none⟩) m m)), some (b2, tenC p2 n2 i2 o2 (.slice (some ⟨bz, 0, none⟩) m2 m2)), some (b3, tenC 0 0 0 0 (.slice none 0 0))] [(b, numI m g), (bz, numI m2 g2)] at hM
  refine st hF (g_assign hF rfl) rfl fun a hF => ?_
  refine wpList_nil ?_
  refine tN ?_
  refine sq ?_
  refine wp_region_lit ?_
  refine st hF (g_loadAgg ty_ag_27 hF rfl (hM.row 0 rfl) (by simp only [fnC_size, cells_size, vecC_size, tabC_size, planeC_size, tenC_size, smC_size, numC_size, numI_size] <;> omega) (whole rfl)) rfl fun a hF => st hF (g_loadAgg ty_ag_27 hF rfl (hM.row 1 rfl) (by simp only [fnC_size, cells_size, vecC_size, tabC_size, planeC_size, tenC_size, smC_size, numC_size, numI_size] <;> omega) (whole rfl)) rfl fun a hF => ?_
  refine stR hF (d_call Try.call62 hF (.cons rfl (.cons rfl .nil)) (l03Two_R p n i o p2 n2 i2 o2 b bz m m2 g g2 _ (hM.fz 0 rfl) (hM.fz 1 rfl) (by omega) (by omega) h1 h2 hR)) rfl ?_
  rintro _ w' a ⟨hx, rfl⟩ hF
  have hM := hM.ext hx
  refine st hF (g_assign hF rfl) rfl fun a hF => ?_
  refine wpList_nil ?_
  refine tN ?_
  refine sq ?_
  refine sq ?_
  refine wp_region_lit ?_
  refine st hF (g_move hF rfl) rfl fun a hF => st hF (g_eql hF rfl rfl) rfl fun a hF => st hF (g_move hF rfl) rfl fun a hF => ?_
  rw [show decide ((2 : Int) = 0) = false from by decide] at hF
  refine stS hF rfl rfl rfl rfl rfl fun a hF => stS hF rfl rfl rfl rfl rfl fun a hF => stS hF rfl rfl rfl rfl rfl fun a hF => stS hF rfl rfl rfl rfl rfl fun a hF => stS hF rfl rfl rfl rfl rfl fun a hF => st hF (g_pickF hF rfl rfl) rfl fun a hF => ?_
  refine wpList_nil ?_
  refine tN ?_
  refine c_Fl hF rfl ?_
  refine wp_skip ?_
  refine tN ?_
  refine sq ?_
  refine sq ?_
  refine wp_region_lit ?_
  refine st hF (g_move hF rfl) rfl fun a hF => st hF (g_eql hF rfl rfl) rfl fun a hF => ?_
  refine wpList_nil ?_
  refine tN ?_
  refine c_kF hF rfl (by decide) ?_
  refine wp_skip ?_
  refine tN ?_
  refine sq ?_
  refine sq ?_
  refine wp_region_lit ?_
  refine st hF (g_move hF rfl) rfl fun a hF => st hF (g_neq hF rfl rfl) rfl fun a hF => ?_
  refine wpList_nil ?_
  refine tN ?_
  refine c_kT hF rfl (by decide) ?_
  refine sq ?_
  refine wp_region_lit ?_
  refine st hF (g_build0 ty_bu_27) rfl fun a hF => st hF (g_move hF rfl) rfl fun a hF => ?_
  refine stN hF (d_storeAgg 2 hM rfl ty_sz_27 hF rfl rfl (tenC_one rfl) (by simp only [fnC_size, cells_size, vecC_size, tabC_size, planeC_size, tenC_size, smC_size, numC_size, numI_size]) (by simp only [fnC_size, cells_size, vecC_size, tabC_size, planeC_size, tenC_size, smC_size, numC_size, numI_size] <;> omega) (splice_whole _ _ rfl)) ?_
  intro _ w' a hM hF
  change Mem w w' [some (b1, tenC p n i o (.slice (some ⟨b, 0, none⟩) m m)), some (b2, tenC p2 n2 i2 o2 (.slice (some ⟨bz, 0, none⟩) m2 m2)), some (b3, tenC 0 0 0 0 (.slice none 0 0))] [(b, numI m g), (bz, numI m2 g2)] at hM
  refine st hF (g_assign hF rfl) rfl fun a hF => ?_
  refine wpList_nil ?_
  refine tN ?_
  refine wp_ret ?_
  refine tR ?_
  refine fin2 rfl hF.defers (res_agg ty_ag_27 hF rfl (hM.row 2 rfl) (by simp only [fnC_size, cells_size, vecC_size, tabC_size, planeC_size, tenC_size, smC_size, numC_size, numI_size])) (res_tmp hF rfl) ⟨_, rfl, hM.below, ?_⟩
  show _ = _
  rfl

theorem ComposeTensorsIR2 (p n i o i2 o2 : Int) (b bz m m2 : Nat) (g g2 : Nat → Int) (w : World) (hb : Blk w b (numI m g)) (hbz : Blk w bz (numI m2 g2)) (hm : m < 10000000) (hm2 : m2 < 10000000) (h1 : TenP p n i o m g) (h2 : TenP p n i2 o2 m2 g2) (hR2 : ¬ o = i2) :
    CallsR Try.prog 30 #[.agg (tenC p n i o (.slice (some ⟨b, 0, none⟩) m m)), .agg (tenC p n i2 o2 (.slice (some ⟨bz, 0, none⟩) m2 m2))] w (fun res _ => res = .tuple #[.agg (tenC 0 0 0 0 (.slice none 0 0)), .int .i64 2]) := by
  refine calls_fr [.agg (tenC p n i o (.slice (some ⟨b, 0, none⟩) m m)), .agg (tenC p n i2 o2 (.slice (some ⟨bz, 0, none⟩) m2 m2))] Try.func30 rfl Try.ntmps30 rfl fun a hF => ?_
  have hM : Mem w w [none, none, none, none, none, none] [(b, numI m g), (bz, numI m2 g2)] := MemX.startD w 6 _ (startD2 hb hbz)
  change Fr 74 a [(0, .agg (tenC p n i o (.slice (some ⟨b, 0, none⟩) m m))), (1, .agg (tenC p n i2 o2 (.slice (some ⟨bz, 0, none⟩) m2 m2)))] at hF
  refine sq ?_
  refine wp_region_lit ?_
  refine stR hF (d_box 0 hM hF rfl) rfl ?_
  rintro _ w' a ⟨b1, rfl, hM, -⟩ hF
  change Mem w w' [some (b1, tenC p n i o (.slice (some ⟨b, 0, none⟩) m m)), none, none, none, none, none] [(b, numI m g), (bz, numI m2 g2)] at hM
  refine stR hF (d_box 1 hM hF rfl) rfl ?_
  rintro _ w' a ⟨b2, rfl, hM, -⟩ hF
  change Mem w w' [some (b1, tenC p n i o (.slice (some ⟨b, 0, none⟩) m m)), some (b2, tenC p n i2 o2 (.slice (some ⟨bz, 0, none⟩) m2 m2)), none, none, none, none] [(b, numI m g), (bz, numI m2 g2)] at hM
  refine stR hF (d_alloc 2 hM ty_ze_27) rfl ?_
  rintro _ w' a ⟨b3, rfl, hM, -⟩ hF
  change Mem w w' [some (b1, tenC p n i o (.slice (some ⟨b, 0, none⟩) m m)), some (b2, tenC p n i2 o2 (.slice (some ⟨bz, 0, none⟩) m2 m2)), some (b3, tenC 0 0 0 0 (.slice none 0 0)), none, none, none] [(b, numI m g), (bz, numI m2 g2)] at hM
  refine st hF (g_assign hF rfl) rfl fun a hF => ?_
  refine wpList_nil ?_
  refine tN ?_
  refine sq ?_
  refine wp_region_lit ?_
  refine st hF (g_loadAgg ty_ag_27 hF rfl (hM.row 0 rfl) (by simp only [fnC_size, cells_size, vecC_size, tabC_size, planeC_size, tenC_size, smC_size, numC_size, numI_size] <;> omega) (whole rfl)) rfl fun a hF => st hF (g_loadAgg ty_ag_27 hF rfl (hM.row 1 rfl) (by simp only [fnC_size, cells_size, vecC_size, tabC_size, planeC_size, tenC_size, smC_size, numC_size, numI_size] <;> omega) (whole rfl)) rfl fun a hF => st hF (g_fieldAddr ty_fo_27_3 hF rfl) rfl fun a hF => st hF (g_load ty_on_2 hF rfl (hM.row 0 rfl) (tenC_3 (by omega))) rfl fun a hF => st hF (g_fieldAddr ty_fo_27_2 hF rfl) rfl fun a hF => st hF (g_load ty_on_2 hF rfl (hM.row 1 rfl) (tenC_2 (by omega))) rfl fun a hF => st hF (g_eql hF rfl rfl) rfl fun a hF => ?_
  refine stR hF (d_call Try.call64 hF (.cons rfl (.cons rfl (.cons rfl .nil))) (pairFault_R p n i o p n i2 o2 b bz m m2 g g2 ((decide ((o : Int) = i2))) _ (hM.fz 0 rfl) (hM.fz 1 rfl) (by omega) (by omega) h1 h2 (by rintro ⟨-, -, q⟩; first | (cases q; done) | (have q := of_decide_eq_true q; omega)))) rfl ?_
  rintro _ w' a ⟨hx, rfl⟩ hF
  have hM := hM.ext hx
  refine st hF (g_assign hF rfl) rfl fun a hF => ?_
  refine wpList_nil ?_
  refine tN ?_
  refine sq ?_
  refine sq ?_
  refine wp_region_lit ?_
  refine st hF (g_move hF rfl) rfl fun a hF => st hF (g_neq hF rfl rfl) rfl fun a hF => ?_
  refine wpList_nil ?_
  refine tN ?_
  refine c_kT hF rfl (by decide) ?_
  refine sq ?_
  refine wp_region_lit ?_
  refine st hF (g_build0 ty_bu_27) rfl fun a hF => st hF (g_move hF rfl) rfl fun a hF => ?_
  refine stN hF (d_storeAgg 2 hM rfl ty_sz_27 hF rfl rfl (tenC_one rfl) (by simp only [fnC_size, cells_size, vecC_size, tabC_size, planeC_size, tenC_size, smC_size, numC_size, numI_size]) (by simp only [fnC_size, cells_size, vecC_size, tabC_size, planeC_size, tenC_size, smC_size, numC_size, numI_size] <;> omega) (splice_whole _ _ rfl)) ?_
  intro _ w' a hM hF
  change Mem w w' [some (b1, tenC p n i o (.slice (some ⟨b, 0, none⟩) m m)), some (b2, tenC p n i2 o2 (.slice (some ⟨bz, 0, none⟩) m2 m2)), some (b3, tenC 0 0 0 0 (.slice none 0 0)), none, none, none] [(b, numI m g), (bz, numI m2 g2)] at hM
  refine st hF (g_assign hF rfl) rfl fun a hF => ?_
  refine wpList_nil ?_
  refine tN ?_
  refine wp_ret ?_
  refine tR ?_
  refine fin2 rfl hF.defers (res_agg ty_ag_27 hF rfl (hM.row 2 rfl) (by simp only [fnC_size, cells_size, vecC_size, tabC_size, planeC_size, tenC_size, smC_size, numC_size, numI_size])) (res_tmp hF rfl) ⟨_, rfl, hM.below, ?_⟩
  show _ = _
  rfl

theorem ComposeTensorsSR2 (p n i o i2 o2 : Int) (b bz m m2 : Nat) (g g2 : Nat → Int) (w : World) (hb : Blk w b (numI m g)) (hbz : Blk w bz (numI m2 g2)) (hm : m < 10000000) (hm2 : m2 < 10000000) (h1 : TenP p n i o m g) (h2 : TenP p n i2 o2 m2 g2) (hR2 : ¬ o = i2) :
    CallsR Try.prog 29 #[.agg (tenC p n i o (.slice (some ⟨b, 0, none⟩) m m)), .agg (tenC p n i2 o2 (.slice (some ⟨bz, 0, none⟩) m2 m2))] w (fun res _ => res = .tuple #[.agg (tenC 0 0 0 0 (.slice none 0 0)), .int .i64 2]) := by
  refine calls_fr [.agg (tenC p n i o (.slice (some ⟨b, 0, none⟩) m m)), .agg (tenC p n i2 o2 (.slice (some ⟨bz, 0, none⟩) m2 m2))] Try.func29 rfl Try.ntmps29 rfl fun a hF => ?_
  have hM : Mem w w [none, none, none] [(b, numI m g), (bz, numI m2 g2)] := MemX.startD w 3 _ (startD2 hb hbz)
  change Fr 37 a [(0, .agg (tenC p n i o (.slice (some ⟨b, 0, none⟩) m m))), (1, .agg (tenC p n i2 o2 (.slice (some ⟨bz, 0, none⟩) m2 m2)))] at hF
  refine sq ?_
  refine wp_region_lit ?_
  refine stR hF (d_box 0 hM hF rfl) rfl ?_
  rintro _ w' a ⟨b1, rfl, hM, -⟩ hF
  change Mem w w' [some (b1, tenC p n i o (.slice (some ⟨b, 0, none⟩) m m)), none, none] [(b, numI m g), (bz, numI m2 g2)] at hM
  refine stR hF (d_box 1 hM hF rfl) rfl ?_
  rintro _ w' a ⟨b2, rfl, hM, -⟩ hF
  change Mem w w' [some (b1, tenC p n i o (.slice (some ⟨b, 0, none⟩) m m)), some (b2, tenC p n i2 o2 (.slice (some ⟨bz, 0, none⟩) m2 m2)), none] [(b, numI m g), (bz, numI m2 g2)] at hM
  refine stR hF (d_alloc 2 hM ty_ze_27) rfl ?_
  rintro _ w' a ⟨b3, rfl, hM, -⟩ hF
  change Mem w w' [some (b1, tenC p n i o (.slice (some ⟨b, 0, none⟩) m m)), some (b2, tenC p n i2 o2 (.slice (some ⟨bz, 0, none⟩) m2 m2)), some (b3, tenC 0 0 0 0 (.slice none 0 0))] [(b, numI m g), (bz, numI m2 g2)] at hM
  refine st hF (g_assign hF rfl) rfl fun a hF => ?_
  refine wpList_nil ?_
  refine tN ?_
  refine sq ?_
  refine wp_region_lit ?_
  refine st hF (g_loadAgg ty_ag_27 hF rfl (hM.row 0 rfl) (by simp only [fnC_size, cells_size, vecC_size, tabC_size, planeC_size, tenC_size, smC_size, numC_size, numI_size] <;> omega) (whole rfl)) rfl fun a hF => st hF (g_loadAgg ty_ag_27 hF rfl (hM.row 1 rfl) (by simp only [fnC_size, cells_size, vecC_size, tabC_size, planeC_size, tenC_size, smC_size, numC_size, numI_size] <;> omega) (whole rfl)) rfl fun a hF => ?_
  refine stR hF (d_call Try.call62 hF (.cons rfl (.cons rfl .nil)) (l03Two_ok p n i o i2 o2 b bz m m2 g g2 _ (hM.fz 0 rfl) (hM.fz 1 rfl) (by omega) (by omega) h1 h2)) rfl ?_
  rintro _ w' a ⟨hx, rfl⟩ hF
  have hM := hM.ext hx
  refine st hF (g_assign hF rfl) rfl fun a hF => ?_
  refine wpList_nil ?_
  refine tN ?_
  refine sq ?_
  refine sq ?_
  refine wp_region_lit ?_
  refine st hF (g_move hF rfl) rfl fun a hF => st hF (g_eql hF rfl rfl) rfl fun a hF => st hF (g_move hF rfl) rfl fun a hF => ?_
  rw [show decide ((0 : Int) = 0) = true from by decide] at hF
  refine stY hF rfl rfl rfl (g_fieldAddr ty_fo_27_3 hF rfl) rfl fun a hF => stY hF rfl rfl rfl (g_load ty_on_2 hF rfl (hM.row 0 rfl) (tenC_3 (by omega))) rfl fun a hF => stY hF rfl rfl rfl (g_fieldAddr ty_fo_27_2 hF rfl) rfl fun a hF => stY hF rfl rfl rfl (g_load ty_on_2 hF rfl (hM.row 1 rfl) (tenC_2 (by omega))) rfl fun a hF => stY hF rfl rfl rfl (g_neq hF rfl rfl) rfl fun a hF => st hF (g_pickT hF rfl rfl) rfl fun a hF => ?_
  refine wpList_nil ?_
  refine tN ?_
  refine c_cond hF rfl (fun h4 => ?_) (fun h4 => ?_)
  ·
    refine wp_region_lit ?_
    refine st hF (g_assign hF rfl) rfl fun a hF => ?_
    refine wpList_nil ?_
    refine tN ?_
    refine sq ?_
    refine sq ?_
    refine wp_region_lit ?_
    refine st hF (g_move hF rfl) rfl fun a hF => st hF (g_eql hF rfl rfl) rfl fun a hF => ?_
    refine wpList_nil ?_
    refine tN ?_
    refine c_kF hF rfl (by decide) ?_
    refine wp_skip ?_
    refine tN ?_
    refine sq ?_
    refine sq ?_
    refine wp_region_lit ?_
    refine st hF (g_move hF rfl) rfl fun a hF => st hF (g_neq hF rfl rfl) rfl fun a hF => ?_
    refine wpList_nil ?_
    refine tN ?_
    refine c_kT hF rfl (by decide) ?_
    refine sq ?_
    refine wp_region_lit ?_
    refine st hF (g_build0 ty_bu_27) rfl fun a hF => st hF (g_move hF rfl) rfl fun a hF => ?_
    refine stN hF (d_storeAgg 2 hM rfl ty_sz_27 hF rfl rfl (tenC_one rfl) (by simp only [fnC_size, cells_size, vecC_size, tabC_size, planeC_size, tenC_size, smC_size, numC_size, numI_size]) (by simp only [fnC_size, cells_size, vecC_size, tabC_size, planeC_size, tenC_size, smC_size, numC_size, numI_size] <;> omega) (splice_whole _ _ rfl)) ?_
    intro _ w' a hM hF
    change Mem w w' [some (b1, tenC p n i o (.slice (some ⟨b, 0, none⟩) m m)), some (b2, tenC p n i2 o2 (.slice (some ⟨bz, 0, none⟩) m2 m2)), some (b3, tenC 0 0 0 0 (.slice none 0 0))] [(b, numI m g), (bz, numI m2 g2)] at hM
    refine st hF (g_assign hF rfl) rfl fun a hF => ?_
    refine wpList_nil ?_
    refine tN ?_
    refine wp_ret ?_
    refine tR ?_
    refine fin2 rfl hF.defers (res_agg ty_ag_27 hF rfl (hM.row 2 rfl) (by simp only [fnC_size, cells_size, vecC_size, tabC_size, planeC_size, tenC_size, smC_size, numC_size, numI_size])) (res_tmp hF rfl) ⟨_, rfl, hM.below, ?_⟩
    show _ = _
    rfl
  ·
    exfalso; omega

theorem ComposeTensorsIL (p n i l o b bz : Nat) (f h : Nat → Nat) (w : World) (hpP : primeP (p : Int)) (hn0 : 0 < n) (hn : n ≤ 6) (hwa : wl n i l) (hwb : wl n l o) (hw : ¬ wl n i o) (hfp : ∀ c, f c < p) (hhp : ∀ c, h c < p) (hb : Blk w b (numC (n ^ (i + l)) f)) (hbz : Blk w bz (numC (n ^ (l + o)) h)) :
    CallsR Try.prog 30 #[.agg (tenC (p : Int) (n : Int) (i : Int) (l : Int) (.slice (some ⟨b, 0, none⟩) (n ^ (i + l)) (n ^ (i + l)))), .agg (tenC (p : Int) (n : Int) (l : Int) (o : Int) (.slice (some ⟨bz, 0, none⟩) (n ^ (l + o)) (n ^ (l + o))))] w (fun res _ => res = .tuple #[.agg (tenC 0 0 0 0 (.slice none 0 0)), .int .i64 3]) := by
  refine calls_fr [.agg (tenC (p : Int) (n : Int) (i : Int) (l : Int) (.slice (some ⟨b, 0, none⟩) (n ^ (i + l)) (n ^ (i + l)))), .agg (tenC (p : Int) (n : Int) (l : Int) (o : Int) (.slice (some ⟨bz, 0, none⟩) (n ^ (l + o)) (n ^ (l + o))))] Try.func30 rfl Try.ntmps30 rfl fun a hF => ?_
  have hM : Mem w w [none, none, none, none, none, none] [(b, numC (n ^ (i + l)) f), (bz, numC (n ^ (l + o)) h)] := MemX.startD w 6 _ (startD2 hb hbz)
  change Fr 74 a [(0, .agg (tenC (p : Int) (n : Int) (i : Int) (l : Int) (.slice (some ⟨b, 0, none⟩) (n ^ (i + l)) (n ^ (i + l))))), (1, .agg (tenC (p : Int) (n : Int) (l : Int) (o : Int) (.slice (some ⟨bz, 0, none⟩) (n ^ (l + o)) (n ^ (l + o)))))] at hF
  have hp0 : 0 < p := by have h := hpP; unfold primeP at h; omega
  have hp2 : p < 100 := by have h := hpP; unfold primeP at h; omega
  have hwa3 := hwa.2.2
  have hwb3 := hwb.2.2
  have hwa1 := hwa.1
  have hwa2 := hwa.2.1
  have hwb1 := hwb.1
  have hwb2 := hwb.2.1
  have hMl := pow_one_le (k := l) hn0
  have hRl : n ^ i ≤ n ^ (i + l) := pow_le_add hn0
  have hMl2 : n ^ l ≤ n ^ (i + l) := pow_le_add2 hn0
  have h1 := TenP.of_nat hpP hn0 hn hwa rfl hfp
  have h2 := TenP.of_nat hpP hn0 hn hwb rfl hhp
  refine sq ?_
  refine wp_region_lit ?_
  refine stR hF (d_box 0 hM hF rfl) rfl ?_
  rintro _ w' a ⟨b1, rfl, hM, -⟩ hF
  change Mem w w' [some (b1, tenC (p : Int) (n : Int) (i : Int) (l : Int) (.slice (some ⟨b, 0, none⟩) (n ^ (i + l)) (n ^ (i + l)))), none, none, none, none, none] [(b, numC (n ^ (i + l)) f), (bz, numC (n ^ (l + o)) h)] at hM
  refine stR hF (d_box 1 hM hF rfl) rfl ?_
  rintro _ w' a ⟨b2, rfl, hM, -⟩ hF
  change Mem w w' [some (b1, tenC (p : Int) (n : Int) (i : Int) (l : Int) (.slice (some ⟨b, 0, none⟩) (n ^ (i + l)) (n ^ (i + l)))), some (b2, tenC (p : Int) (n : Int) (l : Int) (o : Int) (.slice (some ⟨bz, 0, none⟩) (n ^ (l + o)) (n ^ (l + o)))), none, none, none, none] [(b, numC (n ^ (i + l)) f), (bz, numC (n ^ (l + o)) h)] at hM
  refine stR hF (d_alloc 2 hM ty_ze_27) rfl ?_
  rintro _ w' a ⟨b3, rfl, hM, -⟩ hF
  change Mem w w' [some (b1, tenC (p : Int) (n : Int) (i : Int) (l : Int) (.slice (some ⟨b, 0, none⟩) (n ^ (i + l)) (n ^ (i + l)))), some (b2, tenC (p : Int) (n : Int) (l : Int) (o : Int) (.slice (some ⟨bz, 0, none⟩) (n ^ (l + o)) (n ^ (l + o)))), some (b3, tenC 0 0 0 0 (.slice none 0 0)), none, none, none] [(b, numC (n ^ (i + l)) f), (bz, numC (n ^ (l + o)) h)] at hM
  refine st hF (g_assign hF rfl) rfl fun a hF => ?_
  refine wpList_nil ?_
  refine tN ?_
  refine sq ?_
  refine wp_region_lit ?_
  refine st hF (g_loadAgg ty_ag_27 hF rfl (hM.row 0 rfl) (by simp only [fnC_size, cells_size, vecC_size, tabC_size, planeC_size, tenC_size, smC_size, numC_size, numI_size] <;> omega) (whole rfl)) rfl fun a hF => st hF (g_loadAgg ty_ag_27 hF rfl (hM.row 1 rfl) (by simp only [fnC_size, cells_size, vecC_size, tabC_size, planeC_size, tenC_size, smC_size, numC_size, numI_size] <;> omega) (whole rfl)) rfl fun a hF => st hF (g_fieldAddr ty_fo_27_3 hF rfl) rfl fun a hF => st hF (g_load ty_on_2 hF rfl (hM.row 0 rfl) (tenC_3 (by omega))) rfl fun a hF => st hF (g_fieldAddr ty_fo_27_2 hF rfl) rfl fun a hF => st hF (g_load ty_on_2 hF rfl (hM.row 1 rfl) (tenC_2 (by omega))) rfl fun a hF => st hF (g_eql hF rfl rfl) rfl fun a hF => ?_
  refine stR hF (d_call Try.call64 hF (.cons rfl (.cons rfl (.cons rfl .nil))) (pairFault_ok (p : Int) (n : Int) (i : Int) (l : Int) (l : Int) (o : Int) b bz (n ^ (i + l)) (n ^ (l + o)) (fun c => ((f c : Nat) : Int)) (fun c => ((h c : Nat) : Int)) ((decide ((((l : Nat) : Int) : Int) = ((l : Nat) : Int)))) _ (hM.fz 0 rfl) (hM.fz 1 rfl) (by omega) (by omega) h1 h2 (by first | rfl | exact decide_eq_true (by omega)))) rfl ?_
  rintro _ w' a ⟨hx, rfl⟩ hF
  have hM := hM.ext hx
  refine st hF (g_assign hF rfl) rfl fun a hF => ?_
  refine wpList_nil ?_
  refine tN ?_
  refine sq ?_
  refine sq ?_
  refine wp_region_lit ?_
  refine st hF (g_move hF rfl) rfl fun a hF => st hF (g_neq hF rfl rfl) rfl fun a hF => ?_
  refine wpList_nil ?_
  refine tN ?_
  refine c_kF hF rfl (by decide) ?_
  refine wp_skip ?_
  refine tN ?_
  refine sq ?_
  refine sq ?_
  refine wp_region_lit ?_
  refine st hF (g_fieldAddr ty_fo_27_1 hF rfl) rfl fun a hF => st hF (g_load ty_on_2 hF rfl (hM.row 0 rfl) (tenC_1 (by omega))) rfl fun a hF => st hF (g_fieldAddr ty_fo_27_2 hF rfl) rfl fun a hF => st hF (g_load ty_on_2 hF rfl (hM.row 0 rfl) (tenC_2 (by omega))) rfl fun a hF => st hF (g_fieldAddr ty_fo_27_3 hF rfl) rfl fun a hF => st hF (g_load ty_on_2 hF rfl (hM.row 1 rfl) (tenC_3 (by omega))) rfl fun a hF => ?_
  refine stR hF (d_call Try.call43 hF (.cons rfl (.cons rfl (.cons rfl .nil))) (isWithinLimits_ok (n) (i) (o) _ (by omega))) rfl ?_
  rintro _ w' a ⟨hx, rfl⟩ hF
  have hM := hM.ext hx
  refine st hF (g_notP hF rfl) rfl fun a hF => ?_
  refine wpList_nil ?_
  refine tN ?_
  refine c_cond hF rfl (fun h5 => ?_) (fun h5 => ?_)
  ·
    refine sq ?_
    refine wp_region_lit ?_
    refine st hF (g_build0 ty_bu_27) rfl fun a hF => ?_
    refine stN hF (d_storeAgg 2 hM rfl ty_sz_27 hF rfl rfl (tenC_one rfl) (by simp only [fnC_size, cells_size, vecC_size, tabC_size, planeC_size, tenC_size, smC_size, numC_size, numI_size]) (by simp only [fnC_size, cells_size, vecC_size, tabC_size, planeC_size, tenC_size, smC_size, numC_size, numI_size] <;> omega) (splice_whole _ _ rfl)) ?_
    intro _ w' a hM hF
    change Mem w w' [some (b1, tenC (p : Int) (n : Int) (i : Int) (l : Int) (.slice (some ⟨b, 0, none⟩) (n ^ (i + l)) (n ^ (i + l)))), some (b2, tenC (p : Int) (n : Int) (l : Int) (o : Int) (.slice (some ⟨bz, 0, none⟩) (n ^ (l + o)) (n ^ (l + o)))), some (b3, tenC 0 0 0 0 (.slice none 0 0)), none, none, none] [(b, numC (n ^ (i + l)) f), (bz, numC (n ^ (l + o)) h)] at hM
    refine st hF (g_assign hF rfl) rfl fun a hF => ?_
    refine wpList_nil ?_
    refine tN ?_
    refine wp_ret ?_
    refine tR ?_
    refine fin2 rfl hF.defers (res_agg ty_ag_27 hF rfl (hM.row 2 rfl) (by simp only [fnC_size, cells_size, vecC_size, tabC_size, planeC_size, tenC_size, smC_size, numC_size, numI_size])) (res_tmp hF rfl) ⟨_, rfl, hM.below, ?_⟩
    show _ = _
    rfl
  ·
    exact absurd (Decidable.not_not.1 h5) hw

theorem ComposeTensorsSL (p n i l o b bz : Nat) (f h : Nat → Nat) (w : World) (hpP : primeP (p : Int)) (hn0 : 0 < n) (hn : n ≤ 6) (hwa : wl n i l) (hwb : wl n l o) (hw : ¬ wl n i o) (hfp : ∀ c, f c < p) (hhp : ∀ c, h c < p) (hb : Blk w b (numC (n ^ (i + l)) f)) (hbz : Blk w bz (numC (n ^ (l + o)) h)) :
    CallsR Try.prog 29 #[.agg (tenC (p : Int) (n : Int) (i : Int) (l : Int) (.slice (some ⟨b, 0, none⟩) (n ^ (i + l)) (n ^ (i + l)))), .agg (tenC (p : Int) (n : Int) (l : Int) (o : Int) (.slice (some ⟨bz, 0, none⟩) (n ^ (l + o)) (n ^ (l + o))))] w (fun res _ => res = .tuple #[.agg (tenC 0 0 0 0 (.slice none 0 0)), .int .i64 3]) := by
  refine calls_fr [.agg (tenC (p : Int) (n : Int) (i : Int) (l : Int) (.slice (some ⟨b, 0, none⟩) (n ^ (i + l)) (n ^ (i + l)))), .agg (tenC (p : Int) (n : Int) (l : Int) (o : Int) (.slice (some ⟨bz, 0, none⟩) (n ^ (l + o)) (n ^ (l + o))))] Try.func29 rfl Try.ntmps29 rfl fun a hF => ?_
  have hM : Mem w w [none, none, none] [(b, numC (n ^ (i + l)) f), (bz, numC (n ^ (l + o)) h)] := MemX.startD w 3 _ (startD2 hb hbz)
  change Fr 37 a [(0, .agg (tenC (p : Int) (n : Int) (i : Int) (l : Int) (.slice (some ⟨b, 0, none⟩) (n ^ (i + l)) (n ^ (i + l))))), (1, .agg (tenC (p : Int) (n : Int) (l : Int) (o : Int) (.slice (some ⟨bz, 0, none⟩) (n ^ (l + o)) (n ^ (l + o)))))] at hF
  have hp0 : 0 < p := by have h := hpP; unfold primeP at h; omega
  have hp2 : p < 100 := by have h := hpP; unfold primeP at h; omega
  have hwa3 := hwa.2.2
  have hwb3 := hwb.2.2
  have hwa1 := hwa.1
  have hwa2 := hwa.2.1
  have hwb1 := hwb.1
  have hwb2 := hwb.2.1
  have hMl := pow_one_le (k := l) hn0
  have hRl : n ^ i ≤ n ^ (i + l) := pow_le_add hn0
  have hMl2 : n ^ l ≤ n ^ (i + l) := pow_le_add2 hn0
  have h1 := TenP.of_nat hpP hn0 hn hwa rfl hfp
  have h2 := TenP.of_nat hpP hn0 hn hwb rfl hhp
  refine sq ?_
  refine wp_region_lit ?_
  refine stR hF (d_box 0 hM hF rfl) rfl ?_
  rintro _ w' a ⟨b1, rfl, hM, -⟩ hF
  change Mem w w' [some (b1, tenC (p : Int) (n : Int) (i : Int) (l : Int) (.slice (some ⟨b, 0, none⟩) (n ^ (i + l)) (n ^ (i + l)))), none, none] [(b, numC (n ^ (i + l)) f), (bz, numC (n ^ (l + o)) h)] at hM
  refine stR hF (d_box 1 hM hF rfl) rfl ?_
  rintro _ w' a ⟨b2, rfl, hM, -⟩ hF
  change Mem w w' [some (b1, tenC (p : Int) (n : Int) (i : Int) (l : Int) (.slice (some ⟨b, 0, none⟩) (n ^ (i + l)) (n ^ (i + l)))), some (b2, tenC (p : Int) (n : Int) (l : Int) (o : Int) (.slice (some ⟨bz, 0, none⟩) (n ^ (l + o)) (n ^ (l + o)))), none] [(b, numC (n ^ (i + l)) f), (bz, numC (n ^ (l + o)) h)] at hM
  refine stR hF (d_alloc 2 hM ty_ze_27) rfl ?_
  rintro _ w' a ⟨b3, rfl, hM, -⟩ hF
  change Mem w w' [some (b1, tenC (p : Int) (n : Int) (i : Int) (l : Int) (.slice (some ⟨b, 0, none⟩) (n ^ (i + l)) (n ^ (i + l)))), some (b2, tenC (p : Int) (n : Int) (l : Int) (o : Int) (.slice (some ⟨bz, 0, none⟩) (n ^ (l + o)) (n ^ (l + o)))), some (b3, tenC 0 0 0 0 (.slice none 0 0))] [(b, numC (n ^ (i + l)) f), (bz, numC (n ^ (l + o)) h)] at hM
  refine st hF (g_assign hF rfl) rfl fun a hF => ?_
  refine wpList_nil ?_
  refine tN ?_
  refine sq ?_
  refine wp_region_lit ?_
  refine st hF (g_loadAgg ty_ag_27 hF rfl (hM.row 0 rfl) (by simp only [fnC_size, cells_size, vecC_size, tabC_size, planeC_size, tenC_size, smC_size, numC_size, numI_size] <;> omega) (whole rfl)) rfl fun a hF => st hF (g_loadAgg ty_ag_27 hF rfl (hM.row 1 rfl) (by simp only [fnC_size, cells_size, vecC_size, tabC_size, planeC_size, tenC_size, smC_size, numC_size, numI_size] <;> omega) (whole rfl)) rfl fun a hF => ?_
  refine stR hF (d_call Try.call62 hF (.cons rfl (.cons rfl .nil)) (l03Two_ok (p : Int) (n : Int) (i : Int) (l : Int) (l : Int) (o : Int) b bz (n ^ (i + l)) (n ^ (l + o)) (fun c => ((f c : Nat) : Int)) (fun c => ((h c : Nat) : Int)) _ (hM.fz 0 rfl) (hM.fz 1 rfl) (by omega) (by omega) h1 h2)) rfl ?_
  rintro _ w' a ⟨hx, rfl⟩ hF
  have hM := hM.ext hx
  refine st hF (g_assign hF rfl) rfl fun a hF => ?_
  refine wpList_nil ?_
  refine tN ?_
  refine sq ?_
  refine sq ?_
  refine wp_region_lit ?_
  refine st hF (g_move hF rfl) rfl fun a hF => st hF (g_eql hF rfl rfl) rfl fun a hF => st hF (g_move hF rfl) rfl fun a hF => ?_
  rw [show decide ((0 : Int) = 0) = true from by decide] at hF
  refine stY hF rfl rfl rfl (g_fieldAddr ty_fo_27_3 hF rfl) rfl fun a hF => stY hF rfl rfl rfl (g_load ty_on_2 hF rfl (hM.row 0 rfl) (tenC_3 (by omega))) rfl fun a hF => stY hF rfl rfl rfl (g_fieldAddr ty_fo_27_2 hF rfl) rfl fun a hF => stY hF rfl rfl rfl (g_load ty_on_2 hF rfl (hM.row 1 rfl) (tenC_2 (by omega))) rfl fun a hF => stY hF rfl rfl rfl (g_neq hF rfl rfl) rfl fun a hF => st hF (g_pickT hF rfl rfl) rfl fun a hF => ?_
  refine wpList_nil ?_
  refine tN ?_
  refine c_cond hF rfl (fun h4 => ?_) (fun h4 => ?_)
  ·
    first | exact absurd rfl h4 | (exfalso; omega)
  ·
    refine wp_skip ?_
    refine tN ?_
    refine sq ?_
    refine sq ?_
    refine wp_region_lit ?_
    refine st hF (g_move hF rfl) rfl fun a hF => st hF (g_eql hF rfl rfl) rfl fun a hF => ?_
    refine wpList_nil ?_
    refine tN ?_
    refine c_kT hF rfl (by decide) ?_
    refine wp_region_lit ?_
    refine st hF (g_fieldAddr ty_fo_27_0 hF rfl) rfl fun a hF => st hF (g_load ty_on_2 hF rfl (hM.row 0 rfl) (tenC_0 (by omega))) rfl fun a hF => st hF (g_fieldAddr ty_fo_27_1 hF rfl) rfl fun a hF => st hF (g_load ty_on_2 hF rfl (hM.row 0 rfl) (tenC_1 (by omega))) rfl fun a hF => st hF (g_fieldAddr ty_fo_27_2 hF rfl) rfl fun a hF => st hF (g_load ty_on_2 hF rfl (hM.row 0 rfl) (tenC_2 (by omega))) rfl fun a hF => st hF (g_fieldAddr ty_fo_27_3 hF rfl) rfl fun a hF => st hF (g_load ty_on_2 hF rfl (hM.row 1 rfl) (tenC_3 (by omega))) rfl fun a hF => ?_
    refine stR hF (d_call Try.call47 hF (.cons rfl (.cons rfl (.cons rfl (.cons rfl .nil)))) ((CallsR.val (l03Sizes_ok (((p : Nat) : Int)) (n) (i) (o) _ hpP (by omega) (by omega) (by omega) (by omega)) (congrArg (Value.int .i64) (if_neg hw))))) rfl ?_
    rintro _ w' a ⟨hx, rfl⟩ hF
    have hM := hM.ext hx
    refine st hF (g_assign hF rfl) rfl fun a hF => ?_
    refine wpList_nil ?_
    refine tN ?_
    refine sq ?_
    refine sq ?_
    refine wp_region_lit ?_
    refine st hF (g_move hF rfl) rfl fun a hF => st hF (g_neq hF rfl rfl) rfl fun a hF => ?_
    refine wpList_nil ?_
    refine tN ?_
    refine c_kT hF rfl (by decide) ?_
    refine sq ?_
    refine wp_region_lit ?_
    refine st hF (g_build0 ty_bu_27) rfl fun a hF => st hF (g_move hF rfl) rfl fun a hF => ?_
    refine stN hF (d_storeAgg 2 hM rfl ty_sz_27 hF rfl rfl (tenC_one rfl) (by simp only [fnC_size, cells_size, vecC_size, tabC_size, planeC_size, tenC_size, smC_size, numC_size, numI_size]) (by simp only [fnC_size, cells_size, vecC_size, tabC_size, planeC_size, tenC_size, smC_size, numC_size, numI_size] <;> omega) (splice_whole _ _ rfl)) ?_
    intro _ w' a hM hF
    change Mem w w' [some (b1, tenC (p : Int) (n : Int) (i : Int) (l : Int) (.slice (some ⟨b, 0, none⟩) (n ^ (i + l)) (n ^ (i + l)))), some (b2, tenC (p : Int) (n : Int) (l : Int) (o : Int) (.slice (some ⟨bz, 0, none⟩) (n ^ (l + o)) (n ^ (l + o)))), some (b3, tenC 0 0 0 0 (.slice none 0 0))] [(b, numC (n ^ (i + l)) f), (bz, numC (n ^ (l + o)) h)] at hM
    refine st hF (g_assign hF rfl) rfl fun a hF => ?_
    refine wpList_nil ?_
    refine tN ?_
    refine wp_ret ?_
    refine tR ?_
    refine fin2 rfl hF.defers (res_agg ty_ag_27 hF rfl (hM.row 2 rfl) (by simp only [fnC_size, cells_size, vecC_size, tabC_size, planeC_size, tenC_size, smC_size, numC_size, numI_size])) (res_tmp hF rfl) ⟨_, rfl, hM.below, ?_⟩
    show _ = _
    rfl

theorem ComposeTensorsIB (p n i l o b bz : Nat) (f h : Nat → Nat) (w : World) (hpP : primeP (p : Int)) (hn0 : 0 < n) (hn : n ≤ 6) (hwa : wl n i l) (hwb : wl n l o) (hw : wl n i o) (hfp : ∀ c, f c < p) (hhp : ∀ c, h c < p) (hb : Blk w b (numC (n ^ (i + l)) f)) (hbz : Blk w bz (numC (n ^ (l + o)) h)) :
    CallsR Try.prog 30 #[.agg (tenC (p : Int) (n : Int) (i : Int) (l : Int) (.slice (some ⟨b, 0, none⟩) (n ^ (i + l)) (n ^ (i + l)))), .agg (tenC (p : Int) (n : Int) (l : Int) (o : Int) (.slice (some ⟨bz, 0, none⟩) (n ^ (l + o)) (n ^ (l + o))))] w (fun v w' => TenOut0 w w' (p : Int) (n : Int) (i : Int) (o : Int) (n ^ (i + o)) (cmpF p (n ^ o) (n ^ l) f h (n ^ i) 0) v) := by
  refine calls_fr [.agg (tenC (p : Int) (n : Int) (i : Int) (l : Int) (.slice (some ⟨b, 0, none⟩) (n ^ (i + l)) (n ^ (i + l)))), .agg (tenC (p : Int) (n : Int) (l : Int) (o : Int) (.slice (some ⟨bz, 0, none⟩) (n ^ (l + o)) (n ^ (l + o))))] Try.func30 rfl Try.ntmps30 rfl fun a hF => ?_
  have hM : Mem w w [none, none, none, none, none, none] [(b, numC (n ^ (i + l)) f), (bz, numC (n ^ (l + o)) h)] := MemX.startD w 6 _ (startD2 hb hbz)
  change Fr 74 a [(0, .agg (tenC (p : Int) (n : Int) (i : Int) (l : Int) (.slice (some ⟨b, 0, none⟩) (n ^ (i + l)) (n ^ (i + l))))), (1, .agg (tenC (p : Int) (n : Int) (l : Int) (o : Int) (.slice (some ⟨bz, 0, none⟩) (n ^ (l + o)) (n ^ (l + o)))))] at hF
  have hp0 : 0 < p := by have h := hpP; unfold primeP at h; omega
  have hp2 : p < 100 := by have h := hpP; unfold primeP at h; omega
  have hw3 := hw.2.2
  have hw1 := hw.1
  have hw2 := hw.2.1
  have hwa3 := hwa.2.2
  have hwb3 := hwb.2.2
  have hwa1 := hwa.1
  have hwa2 := hwa.2.1
  have hwb1 := hwb.1
  have hwb2 := hwb.2.1
  have hW := pow_one_le (k := o) hn0
  have hMl := pow_one_le (k := l) hn0
  have hRl : n ^ i ≤ n ^ (i + l) := pow_le_add hn0
  have hMl2 : n ^ l ≤ n ^ (i + l) := pow_le_add2 hn0
  have hWl : n ^ o ≤ n ^ (i + o) := pow_le_add2 hn0
  have h1 := TenP.of_nat hpP hn0 hn hwa rfl hfp
  have h2 := TenP.of_nat hpP hn0 hn hwb rfl hhp
  refine sq ?_
  refine wp_region_lit ?_
  refine stR hF (d_box 0 hM hF rfl) rfl ?_
  rintro _ w' a ⟨b1, rfl, hM, -⟩ hF
  change Mem w w' [some (b1, tenC (p : Int) (n : Int) (i : Int) (l : Int) (.slice (some ⟨b, 0, none⟩) (n ^ (i + l)) (n ^ (i + l)))), none, none, none, none, none] [(b, numC (n ^ (i + l)) f), (bz, numC (n ^ (l + o)) h)] at hM
  refine stR hF (d_box 1 hM hF rfl) rfl ?_
  rintro _ w' a ⟨b2, rfl, hM, -⟩ hF
  change Mem w w' [some (b1, tenC (p : Int) (n : Int) (i : Int) (l : Int) (.slice (some ⟨b, 0, none⟩) (n ^ (i + l)) (n ^ (i + l)))), some (b2, tenC (p : Int) (n : Int) (l : Int) (o : Int) (.slice (some ⟨bz, 0, none⟩) (n ^ (l + o)) (n ^ (l + o)))), none, none, none, none] [(b, numC (n ^ (i + l)) f), (bz, numC (n ^ (l + o)) h)] at hM
  refine stR hF (d_alloc 2 hM ty_ze_27) rfl ?_
  rintro _ w' a ⟨b3, rfl, hM, -⟩ hF
  change Mem w w' [some (b1, tenC (p : Int) (n : Int) (i : Int) (l : Int) (.slice (some ⟨b, 0, none⟩) (n ^ (i + l)) (n ^ (i + l)))), some (b2, tenC (p : Int) (n : Int) (l : Int) (o : Int) (.slice (some ⟨bz, 0, none⟩) (n ^ (l + o)) (n ^ (l + o)))), some (b3, tenC 0 0 0 0 (.slice none 0 0)), none, none, none] [(b, numC (n ^ (i + l)) f), (bz, numC (n ^ (l + o)) h)] at hM
  refine st hF (g_assign hF rfl) rfl fun a hF => ?_
  refine wpList_nil ?_
  refine tN ?_
  refine sq ?_
  refine wp_region_lit ?_
  refine st hF (g_loadAgg ty_ag_27 hF rfl (hM.row 0 rfl) (by simp only [fnC_size, cells_size, vecC_size, tabC_size, planeC_size, tenC_size, smC_size, numC_size, numI_size] <;> omega) (whole rfl)) rfl fun a hF => st hF (g_loadAgg ty_ag_27 hF rfl (hM.row 1 rfl) (by simp only [fnC_size, cells_size, vecC_size, tabC_size, planeC_size, tenC_size, smC_size, numC_size, numI_size] <;> omega) (whole rfl)) rfl fun a hF => st hF (g_fieldAddr ty_fo_27_3 hF rfl) rfl fun a hF => st hF (g_load ty_on_2 hF rfl (hM.row 0 rfl) (tenC_3 (by omega))) rfl fun a hF => st hF (g_fieldAddr ty_fo_27_2 hF rfl) rfl fun a hF => st hF (g_load ty_on_2 hF rfl (hM.row 1 rfl) (tenC_2 (by omega))) rfl fun a hF => st hF (g_eql hF rfl rfl) rfl fun a hF => ?_
  refine stR hF (d_call Try.call64 hF (.cons rfl (.cons rfl (.cons rfl .nil))) (pairFault_ok (p : Int) (n : Int) (i : Int) (l : Int) (l : Int) (o : Int) b bz (n ^ (i + l)) (n ^ (l + o)) (fun c => ((f c : Nat) : Int)) (fun c => ((h c : Nat) : Int)) ((decide ((((l : Nat) : Int) : Int) = ((l : Nat) : Int)))) _ (hM.fz 0 rfl) (hM.fz 1 rfl) (by omega) (by omega) h1 h2 (by first | rfl | exact decide_eq_true (by omega)))) rfl ?_
  rintro _ w' a ⟨hx, rfl⟩ hF
  have hM := hM.ext hx
  refine st hF (g_assign hF rfl) rfl fun a hF => ?_
  refine wpList_nil ?_
  refine tN ?_
  refine sq ?_
  refine sq ?_
  refine wp_region_lit ?_
  refine st hF (g_move hF rfl) rfl fun a hF => st hF (g_neq hF rfl rfl) rfl fun a hF => ?_
  refine wpList_nil ?_
  refine tN ?_
  refine c_kF hF rfl (by decide) ?_
  refine wp_skip ?_
  refine tN ?_
  refine sq ?_
  refine sq ?_
  refine wp_region_lit ?_
  refine st hF (g_fieldAddr ty_fo_27_1 hF rfl) rfl fun a hF => st hF (g_load ty_on_2 hF rfl (hM.row 0 rfl) (tenC_1 (by omega))) rfl fun a hF => st hF (g_fieldAddr ty_fo_27_2 hF rfl) rfl fun a hF => st hF (g_load ty_on_2 hF rfl (hM.row 0 rfl) (tenC_2 (by omega))) rfl fun a hF => st hF (g_fieldAddr ty_fo_27_3 hF rfl) rfl fun a hF => st hF (g_load ty_on_2 hF rfl (hM.row 1 rfl) (tenC_3 (by omega))) rfl fun a hF => ?_
  refine stR hF (d_call Try.call43 hF (.cons rfl (.cons rfl (.cons rfl .nil))) (isWithinLimits_ok (n) (i) (o) _ (by omega))) rfl ?_
  rintro _ w' a ⟨hx, rfl⟩ hF
  have hM := hM.ext hx
  refine st hF (g_notP hF rfl) rfl fun a hF => ?_
  refine wpList_nil ?_
  refine tN ?_
  refine c_cond hF rfl (fun h5 => ?_) (fun h5 => ?_)
  ·
    exact absurd hw h5
  ·
    refine wp_skip ?_
    refine tN ?_
    refine sq ?_
    refine wp_region_lit ?_
    refine st hF (g_fieldAddr ty_fo_27_0 hF rfl) rfl fun a hF => st hF (g_load ty_on_2 hF rfl (hM.row 0 rfl) (tenC_0 (by omega))) rfl fun a hF => st hF (g_fieldAddr ty_fo_27_1 hF rfl) rfl fun a hF => st hF (g_load ty_on_2 hF rfl (hM.row 0 rfl) (tenC_1 (by omega))) rfl fun a hF => st hF (g_fieldAddr ty_fo_27_2 hF rfl) rfl fun a hF => st hF (g_load ty_on_2 hF rfl (hM.row 0 rfl) (tenC_2 (by omega))) rfl fun a hF => st hF (g_fieldAddr ty_fo_27_3 hF rfl) rfl fun a hF => st hF (g_load ty_on_2 hF rfl (hM.row 1 rfl) (tenC_3 (by omega))) rfl fun a hF => ?_
    refine stR hF (d_call Try.call49 hF (.cons rfl (.cons rfl (.cons rfl (.cons rfl .nil)))) (zeroTensor_ok (p) (n) (i) (o) _ (by omega) (by omega) hw)) rfl ?_
    rintro _ w' a ⟨hx, b6, rfl, hge, hbk⟩ hF
    have hM := hM.fill hx 3 hbk hge
    change Mem w w' [some (b1, tenC (p : Int) (n : Int) (i : Int) (l : Int) (.slice (some ⟨b, 0, none⟩) (n ^ (i + l)) (n ^ (i + l)))), some (b2, tenC (p : Int) (n : Int) (l : Int) (o : Int) (.slice (some ⟨bz, 0, none⟩) (n ^ (l + o)) (n ^ (l + o)))), some (b3, tenC 0 0 0 0 (.slice none 0 0)), some (b6, numC ((n) ^ ((i) + (o))) (fun _ => 0)), none, none] [(b, numC (n ^ (i + l)) f), (bz, numC (n ^ (l + o)) h)] at hM
    refine stR hF (d_alloc 4 hM ty_ze_27) rfl ?_
    rintro _ w' a ⟨b7, rfl, hM, -⟩ hF
    change Mem w w' [some (b1, tenC (p : Int) (n : Int) (i : Int) (l : Int) (.slice (some ⟨b, 0, none⟩) (n ^ (i + l)) (n ^ (i + l)))), some (b2, tenC (p : Int) (n : Int) (l : Int) (o : Int) (.slice (some ⟨bz, 0, none⟩) (n ^ (l + o)) (n ^ (l + o)))), some (b3, tenC 0 0 0 0 (.slice none 0 0)), some (b6, numC ((n) ^ ((i) + (o))) (fun _ => 0)), some (b7, tenC 0 0 0 0 (.slice none 0 0)), none] [(b, numC (n ^ (i + l)) f), (bz, numC (n ^ (l + o)) h)] at hM
    refine stN hF (d_storeAgg 4 hM rfl ty_sz_27 hF rfl rfl (tenC_one rfl) (by simp only [fnC_size, cells_size, vecC_size, tabC_size, planeC_size, tenC_size, smC_size, numC_size, numI_size]) (by simp only [fnC_size, cells_size, vecC_size, tabC_size, planeC_size, tenC_size, smC_size, numC_size, numI_size] <;> omega) (splice_whole _ _ rfl)) ?_
    intro _ w' a hM hF
    change Mem w w' [some (b1, tenC (p : Int) (n : Int) (i : Int) (l : Int) (.slice (some ⟨b, 0, none⟩) (n ^ (i + l)) (n ^ (i + l)))), some (b2, tenC (p : Int) (n : Int) (l : Int) (o : Int) (.slice (some ⟨bz, 0, none⟩) (n ^ (l + o)) (n ^ (l + o)))), some (b3, tenC 0 0 0 0 (.slice none 0 0)), some (b6, numC ((n) ^ ((i) + (o))) (fun _ => 0)), some (b7, tenC ((p : Nat) : Int) ((n : Nat) : Int) ((i : Nat) : Int) ((o : Nat) : Int) (.slice (some ⟨b6, 0, none⟩) ((n) ^ ((i) + (o))) ((n) ^ ((i) + (o))))), none] [(b, numC (n ^ (i + l)) f), (bz, numC (n ^ (l + o)) h)] at hM
    refine wpList_nil ?_
    refine tN ?_
    refine sq ?_
    refine sq ?_
    refine wp_region_lit ?_
    refine st hF (g_fieldAddr ty_fo_27_1 hF rfl) rfl fun a hF => st hF (g_load ty_on_2 hF rfl (hM.row 0 rfl) (tenC_1 (by omega))) rfl fun a hF => st hF (g_fieldAddr ty_fo_27_2 hF rfl) rfl fun a hF => st hF (g_load ty_on_2 hF rfl (hM.row 0 rfl) (tenC_2 (by omega))) rfl fun a hF => ?_
    refine stR hF (d_call Try.call44 hF (.cons rfl (.cons rfl .nil)) (countChoices_ok (n) (i) _ (by omega) (by omega))) rfl ?_
    rintro _ w' a ⟨hx, rfl⟩ hF
    have hM := hM.ext hx
    refine st hF (g_move hF rfl) rfl fun a hF => ?_
    refine wpList_nil ?_
    refine tN ?_
    refine wp_block ?_
    change Mem w _ [some (b1, tenC (p : Int) (n : Int) (i : Int) (l : Int) (.slice (some ⟨b, 0, none⟩) (n ^ (i + l)) (n ^ (i + l)))), some (b2, tenC (p : Int) (n : Int) (l : Int) (o : Int) (.slice (some ⟨bz, 0, none⟩) (n ^ (l + o)) (n ^ (l + o)))), some (b3, tenC 0 0 0 0 (.slice none 0 0)), some (b6, numC ((n) ^ ((i) + (o))) (fun _ => 0)), some (b7, tenC ((p : Nat) : Int) ((n : Nat) : Int) ((i : Nat) : Int) ((o : Nat) : Int) (.slice (some ⟨b6, 0, none⟩) ((n) ^ ((i) + (o))) ((n) ^ ((i) + (o))))), none] [(b, numC (n ^ (i + l)) f), (bz, numC (n ^ (l + o)) h)] at hM
    refine c_loop (fun (kk : Nat) a w' => kk ≤ n ^ i ∧ (True) ∧ Fr 74 a [(0, .agg (tenC (p : Int) (n : Int) (i : Int) (l : Int) (.slice (some ⟨b, 0, none⟩) (n ^ (i + l)) (n ^ (i + l))))), (1, .agg (tenC (p : Int) (n : Int) (l : Int) (o : Int) (.slice (some ⟨bz, 0, none⟩) (n ^ (l + o)) (n ^ (l + o))))), (2, ptr b1 (0)), (3, ptr b2 (0)), (4, ptr b3 (0)), (5, .int .i64 (0)), (12, .agg (tenC (p : Int) (n : Int) (i : Int) (l : Int) (.slice (some ⟨b, 0, none⟩) (n ^ (i + l)) (n ^ (i + l))))), (13, .agg (tenC (p : Int) (n : Int) (l : Int) (o : Int) (.slice (some ⟨bz, 0, none⟩) (n ^ (l + o)) (n ^ (l + o))))), (14, ptr b1 (0 + 3)), (15, .int .i64 (((l : Nat) : Int))), (16, ptr b2 (0 + 2)), (17, .int .i64 (((l : Nat) : Int))), (18, .bool (decide ((((l : Nat) : Int) : Int) = ((l : Nat) : Int)))), (19, .int .i64 (0)), (6, .int .i64 (0)), (20, .int .i64 (0)), (21, .bool (decide ((0 : Int) ≠ 0))), (24, ptr b1 (0 + 1)), (25, .int .i64 (((n : Nat) : Int))), (26, ptr b1 (0 + 2)), (27, .int .i64 (((i : Nat) : Int))), (28, ptr b2 (0 + 3)), (29, .int .i64 (((o : Nat) : Int))), (30, .bool (decide (wl (n) (i) (o)))), (31, .bool (decide (¬ (wl (n) (i) (o))))), (33, ptr b1 (0 + 0)), (34, .int .i64 (((p : Nat) : Int))), (35, ptr b1 (0 + 1)), (36, .int .i64 (((n : Nat) : Int))), (37, ptr b1 (0 + 2)), (38, .int .i64 (((i : Nat) : Int))), (39, ptr b2 (0 + 3)), (40, .int .i64 (((o : Nat) : Int))), (41, .agg (tenC ((p : Nat) : Int) ((n : Nat) : Int) ((i : Nat) : Int) ((o : Nat) : Int) (.slice (some ⟨b6, 0, none⟩) ((n) ^ ((i) + (o))) ((n) ^ ((i) + (o)))))), (7, ptr b7 (0)), (42, ptr b1 (0 + 1)), (43, .int .i64 (((n : Nat) : Int))), (44, ptr b1 (0 + 2)), (45, .int .i64 (((i : Nat) : Int))), (46, .int .i64 ((((n) ^ (i) : Nat) : Int))), (47, .int .i64 (((kk : Nat) : Int)))] ∧ Mem w w' [some (b1, tenC (p : Int) (n : Int) (i : Int) (l : Int) (.slice (some ⟨b, 0, none⟩) (n ^ (i + l)) (n ^ (i + l)))), some (b2, tenC (p : Int) (n : Int) (l : Int) (o : Int) (.slice (some ⟨bz, 0, none⟩) (n ^ (l + o)) (n ^ (l + o)))), some (b3, tenC 0 0 0 0 (.slice none 0 0)), some (b6, numC (n ^ (i + o)) (cmpF p (n ^ o) (n ^ l) f h kk 0)), some (b7, tenC ((p : Nat) : Int) ((n : Nat) : Int) ((i : Nat) : Int) ((o : Nat) : Int) (.slice (some ⟨b6, 0, none⟩) ((n) ^ ((i) + (o))) ((n) ^ ((i) + (o))))), none] [(b, numC (n ^ (i + l)) f), (bz, numC (n ^ (l + o)) h)]) (fun kk => n ^ i - kk) 0 ?_ ?_
    ·
      refine ⟨by omega, trivial, hF.sub _ (by repeat' constructor), ?_⟩
      refine hM.rowc 3 rfl (numC_congr fun c hc => cmpF_0.symm)
    ·
      clear hF hM
      rintro gi a w' ⟨hgi, hinv1, hF, hM⟩
      have hr1 : gi < n ^ i → gi * n ^ o + n ^ o ≤ n ^ (i + o) := idx_bd2
      have hr2 : gi < n ^ i → gi * n ^ l + n ^ l ≤ n ^ (i + l) := idx_bd2
      refine sq ?_
      refine wp_region_lit ?_
      refine st hF (g_lss hF rfl rfl) rfl fun a hF => ?_
      refine wpList_nil ?_
      refine tN ?_
      refine sq ?_
      refine c_cond hF rfl (fun h8 => ?_) (fun h8 => ?_)
      ·
        refine wp_skip ?_
        refine tN ?_
        refine sq ?_
        refine wp_block ?_
        refine sq ?_
        refine wp_region_lit ?_
        refine st hF (g_move hF rfl) rfl fun a hF => st hF (g_assign hF rfl) rfl fun a hF => ?_
        refine wpList_nil ?_
        refine tN ?_
        refine sq ?_
        refine c_par 7 [5] [.val (ptr b1 (0 + 0)), .val (.int .i64 (((p : Nat) : Int))), .val (.agg (tenC ((p : Nat) : Int) ((n : Nat) : Int) ((i : Nat) : Int) ((o : Nat) : Int) (.slice (some ⟨b6, 0, none⟩) ((n) ^ ((i) + (o))) ((n) ^ ((i) + (o)))))), .val (.int .i64 (((gi : Nat) : Int))), .val (.slice (some ⟨b6, 0 + (gi) * (n) ^ (o) * 1, none⟩) ((n) ^ (o)) ((n) ^ (o))), .val (.agg (smC (((p : Nat) : Int) : Int) (.slice (some ⟨b6, 0 + (gi) * (n) ^ (o) * 1, none⟩) ((n) ^ (o)) ((n) ^ (o))))), .own 5 (smC 0 (.slice none 0 0)) (fun b => ptr b 0)] hmix rfl hF rfl hM ⟨fun a w gG hF hS hd => by exact par_val hS rfl (g_fieldAddr ty_fo_27_0 hF rfl), fun a w gG hF hS hd => by have hF := hF.ext1 50 (hd 0 rfl rfl); have hM := hS.mem rfl; exact par_val hS rfl (g_load ty_on_2 hF rfl (hM.row 0 rfl) (tenC_0 (by omega))), fun a w gG hF hS hd => by have hM := hS.mem rfl; exact par_val hS rfl (g_loadAgg ty_ag_27 hF rfl (hM.row 4 rfl) (by simp only [fnC_size, cells_size, vecC_size, tabC_size, planeC_size, tenC_size, smC_size, numC_size, numI_size] <;> omega) (whole rfl)), fun a w gG hF hS hd => by exact par_val hS rfl (g_move hF rfl), fun a w gG hF hS hd => by have hF := hF.ext1 52 (hd 2 rfl rfl); have hF := hF.ext1 53 (hd 3 rfl rfl); exact par_call (by repeat constructor) hS rfl (d_call Try.call50 hF (.cons rfl (.cons rfl .nil)) (rowOf_ok (p) (n) (i) (o) b6 ((n) ^ ((i) + (o))) (gi) _ (by omega) (by omega) (by omega) (by omega) (by omega))), fun a w gG hF hS hd => by have hF := hF.ext1 51 (hd 1 rfl rfl); have hF := hF.ext1 54 (hd 4 rfl rfl); exact par_val hS rfl (g_buildP hF (build2 hF rfl rfl) (fun w => ty_bs_74 _ _ _ _ w)), fun a w gG hF hS hd => by exact par_own (by repeat constructor) hS rfl rfl rfl rfl (d_alloc 5 hS.1 ty_ze_74), trivial⟩ ?_
        intro a w' L hF hS hq
        have hF := hF.ext1 50 (hq 0 rfl rfl)
        have hF := hF.ext1 51 (hq 1 rfl rfl)
        have hF := hF.ext1 52 (hq 2 rfl rfl)
        have hF := hF.ext1 53 (hq 3 rfl rfl)
        have hF := hF.ext1 54 (hq 4 rfl rfl)
        have hF := hF.ext1 55 (hq 5 rfl rfl)
        obtain ⟨hM, hL⟩ := hS
        obtain ⟨b9, hptr, hkk⟩ := hq 6 rfl rfl
        have hF := hF.ext1 9 hptr
        have hL := hL.take hkk
        obtain rfl := hL.eq
        change Mem w w' [some (b1, tenC (p : Int) (n : Int) (i : Int) (l : Int) (.slice (some ⟨b, 0, none⟩) (n ^ (i + l)) (n ^ (i + l)))), some (b2, tenC (p : Int) (n : Int) (l : Int) (o : Int) (.slice (some ⟨bz, 0, none⟩) (n ^ (l + o)) (n ^ (l + o)))), some (b3, tenC 0 0 0 0 (.slice none 0 0)), some (b6, numC (n ^ (i + o)) (cmpF p (n ^ o) (n ^ l) f h gi 0)), some (b7, tenC ((p : Nat) : Int) ((n : Nat) : Int) ((i : Nat) : Int) ((o : Nat) : Int) (.slice (some ⟨b6, 0, none⟩) ((n) ^ ((i) + (o))) ((n) ^ ((i) + (o))))), some (b9, smC 0 (.slice none 0 0))] [(b, numC (n ^ (i + l)) f), (bz, numC (n ^ (l + o)) h)] at hM
        change wpList Try.prog _ _ [_] _ _
        refine stN hF (d_storeAgg 5 hM rfl ty_sz_74 hF rfl rfl (smC_one rfl) (by simp only [fnC_size, cells_size, vecC_size, tabC_size, planeC_size, tenC_size, smC_size, numC_size, numI_size]) (by simp only [fnC_size, cells_size, vecC_size, tabC_size, planeC_size, tenC_size, smC_size, numC_size, numI_size] <;> omega) (splice_whole _ _ (by simp only [fnC_size, cells_size, vecC_size, tabC_size, planeC_size, tenC_size, smC_size, numC_size, numI_size]))) ?_
        intro _ w' a hM hF
        change Mem w w' [some (b1, tenC (p : Int) (n : Int) (i : Int) (l : Int) (.slice (some ⟨b, 0, none⟩) (n ^ (i + l)) (n ^ (i + l)))), some (b2, tenC (p : Int) (n : Int) (l : Int) (o : Int) (.slice (some ⟨bz, 0, none⟩) (n ^ (l + o)) (n ^ (l + o)))), some (b3, tenC 0 0 0 0 (.slice none 0 0)), some (b6, numC (n ^ (i + o)) (cmpF p (n ^ o) (n ^ l) f h gi 0)), some (b7, tenC ((p : Nat) : Int) ((n : Nat) : Int) ((i : Nat) : Int) ((o : Nat) : Int) (.slice (some ⟨b6, 0, none⟩) ((n) ^ ((i) + (o))) ((n) ^ ((i) + (o))))), some (b9, smC (((p : Nat) : Int) : Int) (.slice (some ⟨b6, 0 + (gi) * (n) ^ (o) * 1, none⟩) ((n) ^ (o)) ((n) ^ (o))))] [(b, numC (n ^ (i + l)) f), (bz, numC (n ^ (l + o)) h)] at hM
        refine wpList_nil ?_
        refine tN ?_
        refine sq ?_
        refine wp_region_lit ?_
        refine st hF (g_loadAgg ty_ag_27 hF rfl (hM.row 0 rfl) (by simp only [fnC_size, cells_size, vecC_size, tabC_size, planeC_size, tenC_size, smC_size, numC_size, numI_size] <;> omega) (whole rfl)) rfl fun a hF => st hF (g_move hF rfl) rfl fun a hF => ?_
        refine stR hF (d_call Try.call50 hF (.cons rfl (.cons rfl .nil)) (rowOf_ok (p) (n) (i) (l) b (n ^ (i + l)) (gi) _ (by omega) (by omega) (by omega) (by omega) (by omega))) rfl ?_
        rintro _ w' a ⟨hx, rfl⟩ hF
        have hM := hM.ext hx
        refine st hF (g_len ty_us_22 hF rfl) rfl fun a hF => st hF (g_move hF rfl) rfl fun a hF => ?_
        refine wpList_nil ?_
        refine tN ?_
        refine wp_block ?_
        change Mem w _ [some (b1, tenC (p : Int) (n : Int) (i : Int) (l : Int) (.slice (some ⟨b, 0, none⟩) (n ^ (i + l)) (n ^ (i + l)))), some (b2, tenC (p : Int) (n : Int) (l : Int) (o : Int) (.slice (some ⟨bz, 0, none⟩) (n ^ (l + o)) (n ^ (l + o)))), some (b3, tenC 0 0 0 0 (.slice none 0 0)), some (b6, numC (n ^ (i + o)) (cmpF p (n ^ o) (n ^ l) f h gi 0)), some (b7, tenC ((p : Nat) : Int) ((n : Nat) : Int) ((i : Nat) : Int) ((o : Nat) : Int) (.slice (some ⟨b6, 0, none⟩) ((n) ^ ((i) + (o))) ((n) ^ ((i) + (o))))), some (b9, smC (((p : Nat) : Int) : Int) (.slice (some ⟨b6, 0 + (gi) * (n) ^ (o) * 1, none⟩) ((n) ^ (o)) ((n) ^ (o))))] [(b, numC (n ^ (i + l)) f), (bz, numC (n ^ (l + o)) h)] at hM
        refine c_loop (fun (kk : Nat) a w' => kk ≤ n ^ l ∧ (True) ∧ Fr 74 a [(9, ptr b9 (0)), (55, .agg (smC (((p : Nat) : Int) : Int) (.slice (some ⟨b6, 0 + (gi) * (n) ^ (o) * 1, none⟩) ((n) ^ (o)) ((n) ^ (o))))), (54, .slice (some ⟨b6, 0 + (gi) * (n) ^ (o) * 1, none⟩) ((n) ^ (o)) ((n) ^ (o))), (53, .int .i64 (((gi : Nat) : Int))), (52, .agg (tenC ((p : Nat) : Int) ((n : Nat) : Int) ((i : Nat) : Int) ((o : Nat) : Int) (.slice (some ⟨b6, 0, none⟩) ((n) ^ ((i) + (o))) ((n) ^ ((i) + (o)))))), (51, .int .i64 (((p : Nat) : Int))), (50, ptr b1 (0 + 0)), (0, .agg (tenC (p : Int) (n : Int) (i : Int) (l : Int) (.slice (some ⟨b, 0, none⟩) (n ^ (i + l)) (n ^ (i + l))))), (1, .agg (tenC (p : Int) (n : Int) (l : Int) (o : Int) (.slice (some ⟨bz, 0, none⟩) (n ^ (l + o)) (n ^ (l + o))))), (2, ptr b1 (0)), (3, ptr b2 (0)), (4, ptr b3 (0)), (5, .int .i64 (0)), (12, .agg (tenC (p : Int) (n : Int) (i : Int) (l : Int) (.slice (some ⟨b, 0, none⟩) (n ^ (i + l)) (n ^ (i + l))))), (13, .agg (tenC (p : Int) (n : Int) (l : Int) (o : Int) (.slice (some ⟨bz, 0, none⟩) (n ^ (l + o)) (n ^ (l + o))))), (14, ptr b1 (0 + 3)), (15, .int .i64 (((l : Nat) : Int))), (16, ptr b2 (0 + 2)), (17, .int .i64 (((l : Nat) : Int))), (18, .bool (decide ((((l : Nat) : Int) : Int) = ((l : Nat) : Int)))), (19, .int .i64 (0)), (6, .int .i64 (0)), (20, .int .i64 (0)), (21, .bool (decide ((0 : Int) ≠ 0))), (24, ptr b1 (0 + 1)), (25, .int .i64 (((n : Nat) : Int))), (26, ptr b1 (0 + 2)), (27, .int .i64 (((i : Nat) : Int))), (28, ptr b2 (0 + 3)), (29, .int .i64 (((o : Nat) : Int))), (30, .bool (decide (wl (n) (i) (o)))), (31, .bool (decide (¬ (wl (n) (i) (o))))), (33, ptr b1 (0 + 0)), (34, .int .i64 (((p : Nat) : Int))), (35, ptr b1 (0 + 1)), (36, .int .i64 (((n : Nat) : Int))), (37, ptr b1 (0 + 2)), (38, .int .i64 (((i : Nat) : Int))), (39, ptr b2 (0 + 3)), (40, .int .i64 (((o : Nat) : Int))), (41, .agg (tenC ((p : Nat) : Int) ((n : Nat) : Int) ((i : Nat) : Int) ((o : Nat) : Int) (.slice (some ⟨b6, 0, none⟩) ((n) ^ ((i) + (o))) ((n) ^ ((i) + (o)))))), (7, ptr b7 (0)), (42, ptr b1 (0 + 1)), (43, .int .i64 (((n : Nat) : Int))), (44, ptr b1 (0 + 2)), (45, .int .i64 (((i : Nat) : Int))), (46, .int .i64 ((((n) ^ (i) : Nat) : Int))), (47, .int .i64 (((gi : Nat) : Int))), (48, .bool (decide ((((gi : Nat) : Int) : Int) < (((n) ^ (i) : Nat) : Int)))), (49, .int .i64 (((gi : Nat) : Int))), (8, .int .i64 (((gi : Nat) : Int))), (56, .agg (tenC (p : Int) (n : Int) (i : Int) (l : Int) (.slice (some ⟨b, 0, none⟩) (n ^ (i + l)) (n ^ (i + l))))), (57, .int .i64 (((gi : Nat) : Int))), (58, .slice (some ⟨b, 0 + (gi) * (n) ^ (l) * 1, none⟩) ((n) ^ (l)) ((n) ^ (l))), (59, .int .i64 ((((n) ^ (l) : Nat) : Int))), (60, .int .i64 (((kk : Nat) : Int)))] ∧ Mem w w' [some (b1, tenC (p : Int) (n : Int) (i : Int) (l : Int) (.slice (some ⟨b, 0, none⟩) (n ^ (i + l)) (n ^ (i + l)))), some (b2, tenC (p : Int) (n : Int) (l : Int) (o : Int) (.slice (some ⟨bz, 0, none⟩) (n ^ (l + o)) (n ^ (l + o)))), some (b3, tenC 0 0 0 0 (.slice none 0 0)), some (b6, numC (n ^ (i + o)) (cmpF p (n ^ o) (n ^ l) f h gi kk)), some (b7, tenC ((p : Nat) : Int) ((n : Nat) : Int) ((i : Nat) : Int) ((o : Nat) : Int) (.slice (some ⟨b6, 0, none⟩) ((n) ^ ((i) + (o))) ((n) ^ ((i) + (o))))), some (b9, smC (((p : Nat) : Int) : Int) (.slice (some ⟨b6, 0 + (gi) * (n) ^ (o) * 1, none⟩) ((n) ^ (o)) ((n) ^ (o))))] [(b, numC (n ^ (i + l)) f), (bz, numC (n ^ (l + o)) h)]) (fun kk => n ^ l - kk) 0 ?_ ?_
        ·
          refine ⟨by omega, trivial, hF.sub _ (by repeat' constructor), ?_⟩
          exact hM
        ·
          clear hF hM
          rintro gj a w' ⟨hgj, hinv2, hF, hM⟩
          have hj1 : gj < n ^ l → gj * n ^ o + n ^ o ≤ n ^ (l + o) := idx_bd2
          have hfx := hfp (gi * n ^ l + gj)
          refine sq ?_
          refine wp_region_lit ?_
          refine st hF (g_lss hF rfl rfl) rfl fun a hF => ?_
          refine wpList_nil ?_
          refine tN ?_
          refine sq ?_
          refine c_cond hF rfl (fun h10 => ?_) (fun h10 => ?_)
          ·
            refine wp_skip ?_
            refine tN ?_
            refine sq ?_
            refine wp_block ?_
            refine sq ?_
            refine wp_region_lit ?_
            refine st hF (g_move hF rfl) rfl fun a hF => st hF (g_indexSl (i := gj) ty_sl_22 hF rfl rfl rfl (by omega)) rfl fun a hF => st hF (g_load ty_on_2 hF rfl (hM.fz 0 rfl) (numC_get (k := (gi) * (n) ^ (l) + (gj)) (by omega) (by omega))) rfl fun a hF => st hF (g_assign hF rfl) rfl fun a hF => st hF (g_assign hF rfl) rfl fun a hF => ?_
            refine wpList_nil ?_
            refine tN ?_
            refine c_par 5 [] [.val (.agg (smC (((p : Nat) : Int) : Int) (.slice (some ⟨b6, 0 + (gi) * (n) ^ (o) * 1, none⟩) ((n) ^ (o)) ((n) ^ (o))))), .val (.agg (tenC (p : Int) (n : Int) (l : Int) (o : Int) (.slice (some ⟨bz, 0, none⟩) (n ^ (l + o)) (n ^ (l + o))))), .val (.int .i64 (((gj : Nat) : Int))), .val (.slice (some ⟨bz, 0 + (gj) * (n) ^ (o) * 1, none⟩) ((n) ^ (o)) ((n) ^ (o))), .val (.int .i64 (((f ((gi) * (n) ^ (l) + (gj)) : Nat) : Int)))] hmix rfl hF rfl hM ⟨fun a w gG hF hS hd => by have hM := hS.mem rfl; exact par_val hS rfl (g_loadAgg ty_ag_74 hF rfl (hM.row 5 rfl) (by simp only [fnC_size, cells_size, vecC_size, tabC_size, planeC_size, tenC_size, smC_size, numC_size, numI_size] <;> omega) (whole rfl)), fun a w gG hF hS hd => by have hM := hS.mem rfl; exact par_val hS rfl (g_loadAgg ty_ag_27 hF rfl (hM.row 1 rfl) (by simp only [fnC_size, cells_size, vecC_size, tabC_size, planeC_size, tenC_size, smC_size, numC_size, numI_size] <;> omega) (whole rfl)), fun a w gG hF hS hd => by exact par_val hS rfl (g_move hF rfl), fun a w gG hF hS hd => by have hF := hF.ext1 66 (hd 1 rfl rfl); have hF := hF.ext1 67 (hd 2 rfl rfl); exact par_call (by repeat constructor) hS rfl (d_call Try.call50 hF (.cons rfl (.cons rfl .nil)) (rowOf_ok (p) (n) (l) (o) bz (n ^ (l + o)) (gj) _ (by omega) (by omega) (by omega) (by omega) (by omega))), fun a w gG hF hS hd => by exact par_val hS rfl (g_move hF rfl), trivial⟩ ?_
            intro a w' L hF hS hq
            have hF := hF.ext1 65 (hq 0 rfl rfl)
            have hF := hF.ext1 66 (hq 1 rfl rfl)
            have hF := hF.ext1 67 (hq 2 rfl rfl)
            have hF := hF.ext1 68 (hq 3 rfl rfl)
            have hF := hF.ext1 69 (hq 4 rfl rfl)
            have hM := hS.mem rfl
            change wpList Try.prog _ _ [_] _ _
            refine stR hF (d_callX Try.call65 hF (.cons rfl (.cons rfl (.cons rfl .nil))) (addSumsI_ok (p) b6 (0 + (gi) * (n) ^ (o) * 1) ((n) ^ (o)) ((n ^ (i + o))) bz (0 + (gj) * (n) ^ (o) * 1) ((n) ^ (o)) ((n) ^ (o)) (f ((gi) * (n) ^ (l) + (gj))) _ (cmpF p (n ^ o) (n ^ l) f h gi gj) (fun q => h ((gj) * (n) ^ (o) + q)) _ (by omega) (by omega) (by omega) (fun c => by have := cmpA_lt (p := p) (W := n ^ o) (M := n ^ l) (f := f) (h := h) (r := c / n ^ o) (k := c % n ^ o) (J := (if c / n ^ o < gi then n ^ l else if c / n ^ o = gi then gj else 0)) hp0; exact Nat.le_of_lt (Nat.lt_of_lt_of_le this (by omega))) (fun q => by have := hhp (gj * n ^ o + q); omega) (by omega) (by omega) (by omega) (hM.row 3 rfl) (hM.fz 1 rfl) ((hM.froz _ _ (List.mem_of_getElem? (i := 1) rfl)).2 3 _ _ rfl).symm (fun q hq => numC_get (k := (gj) * (n) ^ (o) + q) (by omega) (by omega)))) rfl ?_
            rintro _ w' a ⟨hx, rfl, hbk⟩ hF
            have hM := hM.upd 3 rfl hx hbk
            change Mem w w' [some (b1, tenC (p : Int) (n : Int) (i : Int) (l : Int) (.slice (some ⟨b, 0, none⟩) (n ^ (i + l)) (n ^ (i + l)))), some (b2, tenC (p : Int) (n : Int) (l : Int) (o : Int) (.slice (some ⟨bz, 0, none⟩) (n ^ (l + o)) (n ^ (l + o)))), some (b3, tenC 0 0 0 0 (.slice none 0 0)), some (b6, numC (n ^ (i + o)) (fun c => if 0 + (gi) * (n) ^ (o) * 1 ≤ c ∧ c < 0 + (gi) * (n) ^ (o) * 1 + ((n) ^ (o)) then ((cmpF p (n ^ o) (n ^ l) f h gi gj) c + f ((gi) * (n) ^ (l) + (gj)) * (fun q => h ((gj) * (n) ^ (o) + q)) (c - (0 + (gi) * (n) ^ (o) * 1))) % (p) else (cmpF p (n ^ o) (n ^ l) f h gi gj) c)), some (b7, tenC ((p : Nat) : Int) ((n : Nat) : Int) ((i : Nat) : Int) ((o : Nat) : Int) (.slice (some ⟨b6, 0, none⟩) ((n) ^ ((i) + (o))) ((n) ^ ((i) + (o))))), some (b9, smC (((p : Nat) : Int) : Int) (.slice (some ⟨b6, 0 + (gi) * (n) ^ (o) * 1, none⟩) ((n) ^ (o)) ((n) ^ (o))))] [(b, numC (n ^ (i + l)) f), (bz, numC (n ^ (l + o)) h)] at hM
            refine wpList_nil ?_
            refine iN ?_
            refine tN ?_
            refine wp_region_lit ?_
            refine st hF (g_add hF rfl rfl (add_nat (gj) (1) (by omega))) rfl fun a hF => st hF (g_move hF rfl) rfl fun a hF => ?_
            refine wpList_nil ?_
            refine tN ?_
            refine ⟨gj + 1, ⟨by omega, trivial, hF.sub _ (by repeat' constructor), ?_⟩, by omega⟩
            refine hM.rowc 3 rfl (numC_congr fun c hc => cmp_step (by omega) (by omega) (by omega) rfl (fun _ => rfl))
          ·
            obtain rfl : n ^ l = gj := by omega
            refine wp_exit ?_
            refine tX ?_
            refine tX ?_
            refine ib_same ?_
            refine iN ?_
            refine tN ?_
            refine wp_region_lit ?_
            refine st hF (g_add hF rfl rfl (add_nat (gi) (1) (by omega))) rfl fun a hF => st hF (g_move hF rfl) rfl fun a hF => ?_
            refine wpList_nil ?_
            refine tN ?_
            have hM := hM.drop 5
            refine ⟨gi + 1, ⟨by omega, trivial, hF.sub _ (by repeat' constructor), ?_⟩, by omega⟩
            refine hM.rowc 3 rfl (numC_congr fun c hc => cmp_row)
      ·
        obtain rfl : n ^ i = gi := by omega
        refine wp_exit ?_
        refine tX ?_
        refine tX ?_
        refine ib_same ?_
        refine tN ?_
        refine sq ?_
        refine wp_region_lit ?_
        refine st hF (g_loadAgg ty_ag_27 hF rfl (hM.row 4 rfl) (by simp only [fnC_size, cells_size, vecC_size, tabC_size, planeC_size, tenC_size, smC_size, numC_size, numI_size] <;> omega) (whole rfl)) rfl fun a hF => ?_
        refine stN hF (d_storeAgg 2 hM rfl ty_sz_27 hF rfl rfl (tenC_one rfl) (by simp only [fnC_size, cells_size, vecC_size, tabC_size, planeC_size, tenC_size, smC_size, numC_size, numI_size]) (by simp only [fnC_size, cells_size, vecC_size, tabC_size, planeC_size, tenC_size, smC_size, numC_size, numI_size] <;> omega) (splice_whole _ _ rfl)) ?_
        intro _ w' a hM hF
        change Mem w w' [some (b1, tenC (p : Int) (n : Int) (i : Int) (l : Int) (.slice (some ⟨b, 0, none⟩) (n ^ (i + l)) (n ^ (i + l)))), some (b2, tenC (p : Int) (n : Int) (l : Int) (o : Int) (.slice (some ⟨bz, 0, none⟩) (n ^ (l + o)) (n ^ (l + o)))), some (b3, tenC ((p : Nat) : Int) ((n : Nat) : Int) ((i : Nat) : Int) ((o : Nat) : Int) (.slice (some ⟨b6, 0, none⟩) ((n) ^ ((i) + (o))) ((n) ^ ((i) + (o))))), some (b6, numC (n ^ (i + o)) (cmpF p (n ^ o) (n ^ l) f h (n ^ i) 0)), some (b7, tenC ((p : Nat) : Int) ((n : Nat) : Int) ((i : Nat) : Int) ((o : Nat) : Int) (.slice (some ⟨b6, 0, none⟩) ((n) ^ ((i) + (o))) ((n) ^ ((i) + (o))))), none] [(b, numC (n ^ (i + l)) f), (bz, numC (n ^ (l + o)) h)] at hM
        refine st hF (g_assign hF rfl) rfl fun a hF => ?_
        refine wpList_nil ?_
        refine tN ?_
        refine wp_ret ?_
        refine fin2 rfl hF.defers (res_agg ty_ag_27 hF rfl (hM.row 2 rfl) (by simp only [fnC_size, cells_size, vecC_size, tabC_size, planeC_size, tenC_size, smC_size, numC_size, numI_size])) (res_tmp hF rfl) ⟨_, rfl, hM.below, ?_⟩
        exact ⟨_, rfl, hM.ge 3 rfl, hM.row 3 rfl⟩

theorem l03Compose_ok (p n i l o b bz : Nat) (f h : Nat → Nat) (w : World) (hpP : primeP (p : Int)) (hn0 : 0 < n) (hn : n ≤ 6) (hwa : wl n i l) (hwb : wl n l o) (hw : wl n i o) (hfp : ∀ c, f c < p) (hhp : ∀ c, h c < p) (hb : Blk w b (numC (n ^ (i + l)) f)) (hbz : Blk w bz (numC (n ^ (l + o)) h)) :
    CallsR Try.prog 63 #[.agg (tenC (p : Int) (n : Int) (i : Int) (l : Int) (.slice (some ⟨b, 0, none⟩) (n ^ (i + l)) (n ^ (i + l)))), .agg (tenC (p : Int) (n : Int) (l : Int) (o : Int) (.slice (some ⟨bz, 0, none⟩) (n ^ (l + o)) (n ^ (l + o))))] w (fun v w' => TenOut w w' (p : Int) (n : Int) (i : Int) (o : Int) (n ^ (i + o)) (cmpF p (n ^ o) (n ^ l) f h (n ^ i) 0) v) := by
  refine calls_fr [.agg (tenC (p : Int) (n : Int) (i : Int) (l : Int) (.slice (some ⟨b, 0, none⟩) (n ^ (i + l)) (n ^ (i + l)))), .agg (tenC (p : Int) (n : Int) (l : Int) (o : Int) (.slice (some ⟨bz, 0, none⟩) (n ^ (l + o)) (n ^ (l + o))))] Try.func63 rfl Try.ntmps63 rfl fun a hF => ?_
  have hM : Mem w w [none, none, none, none, none] [(b, numC (n ^ (i + l)) f), (bz, numC (n ^ (l + o)) h)] := MemX.startD w 5 _ (startD2 hb hbz)
  change Fr 96 a [(0, .agg (tenC (p : Int) (n : Int) (i : Int) (l : Int) (.slice (some ⟨b, 0, none⟩) (n ^ (i + l)) (n ^ (i + l))))), (1, .agg (tenC (p : Int) (n : Int) (l : Int) (o : Int) (.slice (some ⟨bz, 0, none⟩) (n ^ (l + o)) (n ^ (l + o)))))] at hF
  have hp0 : 0 < p := by have h := hpP; unfold primeP at h; omega
  have hp2 : p < 100 := by have h := hpP; unfold primeP at h; omega
  have hw3 := hw.2.2
  have hw1 := hw.1
  have hw2 := hw.2.1
  have hwa3 := hwa.2.2
  have hwb3 := hwb.2.2
  have hwa1 := hwa.1
  have hwa2 := hwa.2.1
  have hwb1 := hwb.1
  have hwb2 := hwb.2.1
  have hW := pow_one_le (k := o) hn0
  have hMl := pow_one_le (k := l) hn0
  have hRl : n ^ i ≤ n ^ (i + l) := pow_le_add hn0
  have hMl2 : n ^ l ≤ n ^ (i + l) := pow_le_add2 hn0
  have hWl : n ^ o ≤ n ^ (i + o) := pow_le_add2 hn0
  have h1 := TenP.of_nat hpP hn0 hn hwa rfl hfp
  have h2 := TenP.of_nat hpP hn0 hn hwb rfl hhp
  refine sq ?_
  refine wp_region_lit ?_
  refine stR hF (d_box 0 hM hF rfl) rfl ?_
  rintro _ w' a ⟨b1, rfl, hM, -⟩ hF
  change Mem w w' [some (b1, tenC (p : Int) (n : Int) (i : Int) (l : Int) (.slice (some ⟨b, 0, none⟩) (n ^ (i + l)) (n ^ (i + l)))), none, none, none, none] [(b, numC (n ^ (i + l)) f), (bz, numC (n ^ (l + o)) h)] at hM
  refine stR hF (d_box 1 hM hF rfl) rfl ?_
  rintro _ w' a ⟨b2, rfl, hM, -⟩ hF
  change Mem w w' [some (b1, tenC (p : Int) (n : Int) (i : Int) (l : Int) (.slice (some ⟨b, 0, none⟩) (n ^ (i + l)) (n ^ (i + l)))), some (b2, tenC (p : Int) (n : Int) (l : Int) (o : Int) (.slice (some ⟨bz, 0, none⟩) (n ^ (l + o)) (n ^ (l + o)))), none, none, none] [(b, numC (n ^ (i + l)) f), (bz, numC (n ^ (l + o)) h)] at hM
  refine stR hF (d_alloc 2 hM ty_ze_27) rfl ?_
  rintro _ w' a ⟨b3, rfl, hM, -⟩ hF
  change Mem w w' [some (b1, tenC (p : Int) (n : Int) (i : Int) (l : Int) (.slice (some ⟨b, 0, none⟩) (n ^ (i + l)) (n ^ (i + l)))), some (b2, tenC (p : Int) (n : Int) (l : Int) (o : Int) (.slice (some ⟨bz, 0, none⟩) (n ^ (l + o)) (n ^ (l + o)))), some (b3, tenC 0 0 0 0 (.slice none 0 0)), none, none] [(b, numC (n ^ (i + l)) f), (bz, numC (n ^ (l + o)) h)] at hM
  refine wpList_nil ?_
  refine tN ?_
  refine sq ?_
  refine wp_region_lit ?_
  refine st hF (g_fieldAddr ty_fo_27_0 hF rfl) rfl fun a hF => st hF (g_load ty_on_2 hF rfl (hM.row 0 rfl) (tenC_0 (by omega))) rfl fun a hF => st hF (g_fieldAddr ty_fo_27_1 hF rfl) rfl fun a hF => st hF (g_load ty_on_2 hF rfl (hM.row 0 rfl) (tenC_1 (by omega))) rfl fun a hF => st hF (g_fieldAddr ty_fo_27_2 hF rfl) rfl fun a hF => st hF (g_load ty_on_2 hF rfl (hM.row 0 rfl) (tenC_2 (by omega))) rfl fun a hF => st hF (g_fieldAddr ty_fo_27_3 hF rfl) rfl fun a hF => st hF (g_load ty_on_2 hF rfl (hM.row 1 rfl) (tenC_3 (by omega))) rfl fun a hF => ?_
  refine stR hF (d_call Try.call54 hF (.cons rfl (.cons rfl (.cons rfl (.cons rfl .nil)))) (l03Empty_ok (p) (n) (i) (o) _ (by omega) (by omega) hw)) rfl ?_
  rintro _ w' a ⟨hx, b4, rfl, hge, hbk⟩ hF
  have hM := hM.fill hx 3 hbk hge
  change Mem w w' [some (b1, tenC (p : Int) (n : Int) (i : Int) (l : Int) (.slice (some ⟨b, 0, none⟩) (n ^ (i + l)) (n ^ (i + l)))), some (b2, tenC (p : Int) (n : Int) (l : Int) (o : Int) (.slice (some ⟨bz, 0, none⟩) (n ^ (l + o)) (n ^ (l + o)))), some (b3, tenC 0 0 0 0 (.slice none 0 0)), some (b4, numC ((n) ^ ((i) + (o))) (fun _ => 0)), none] [(b, numC (n ^ (i + l)) f), (bz, numC (n ^ (l + o)) h)] at hM
  refine stR hF (d_alloc 4 hM ty_ze_27) rfl ?_
  rintro _ w' a ⟨b5, rfl, hM, -⟩ hF
  change Mem w w' [some (b1, tenC (p : Int) (n : Int) (i : Int) (l : Int) (.slice (some ⟨b, 0, none⟩) (n ^ (i + l)) (n ^ (i + l)))), some (b2, tenC (p : Int) (n : Int) (l : Int) (o : Int) (.slice (some ⟨bz, 0, none⟩) (n ^ (l + o)) (n ^ (l + o)))), some (b3, tenC 0 0 0 0 (.slice none 0 0)), some (b4, numC ((n) ^ ((i) + (o))) (fun _ => 0)), some (b5, tenC 0 0 0 0 (.slice none 0 0))] [(b, numC (n ^ (i + l)) f), (bz, numC (n ^ (l + o)) h)] at hM
  refine stN hF (d_storeAgg 4 hM rfl ty_sz_27 hF rfl rfl (tenC_one rfl) (by simp only [fnC_size, cells_size, vecC_size, tabC_size, planeC_size, tenC_size, smC_size, numC_size, numI_size]) (by simp only [fnC_size, cells_size, vecC_size, tabC_size, planeC_size, tenC_size, smC_size, numC_size, numI_size] <;> omega) (splice_whole _ _ rfl)) ?_
  intro _ w' a hM hF
  change Mem w w' [some (b1, tenC (p : Int) (n : Int) (i : Int) (l : Int) (.slice (some ⟨b, 0, none⟩) (n ^ (i + l)) (n ^ (i + l)))), some (b2, tenC (p : Int) (n : Int) (l : Int) (o : Int) (.slice (some ⟨bz, 0, none⟩) (n ^ (l + o)) (n ^ (l + o)))), some (b3, tenC 0 0 0 0 (.slice none 0 0)), some (b4, numC ((n) ^ ((i) + (o))) (fun _ => 0)), some (b5, tenC ((p : Nat) : Int) ((n : Nat) : Int) ((i : Nat) : Int) ((o : Nat) : Int) (.slice (some ⟨b4, 0, none⟩) ((n) ^ ((i) + (o))) ((n) ^ ((i) + (o)))))] [(b, numC (n ^ (i + l)) f), (bz, numC (n ^ (l + o)) h)] at hM
  refine wpList_nil ?_
  refine tN ?_
  refine sq ?_
  refine c_par 14 [] [.val (ptr b1 (0 + 1)), .val (.int .i64 (((n : Nat) : Int))), .val (ptr b1 (0 + 2)), .val (.int .i64 (((i : Nat) : Int))), .val (.int .i64 ((((n) ^ (i) : Nat) : Int))), .val (ptr b1 (0 + 1)), .val (.int .i64 (((n : Nat) : Int))), .val (ptr b1 (0 + 3)), .val (.int .i64 (((l : Nat) : Int))), .val (.int .i64 ((((n) ^ (l) : Nat) : Int))), .val (ptr b1 (0 + 1)), .val (.int .i64 (((n : Nat) : Int))), .val (ptr b2 (0 + 3)), .val (.int .i64 (((o : Nat) : Int)))] hmix rfl hF rfl hM ⟨fun a w gG hF hS hd => by exact par_val hS rfl (g_fieldAddr ty_fo_27_1 hF rfl), fun a w gG hF hS hd => by have hF := hF.ext1 23 (hd 0 rfl rfl); have hM := hS.mem rfl; exact par_val hS rfl (g_load ty_on_2 hF rfl (hM.row 0 rfl) (tenC_1 (by omega))), fun a w gG hF hS hd => by exact par_val hS rfl (g_fieldAddr ty_fo_27_2 hF rfl), fun a w gG hF hS hd => by have hF := hF.ext1 25 (hd 2 rfl rfl); have hM := hS.mem rfl; exact par_val hS rfl (g_load ty_on_2 hF rfl (hM.row 0 rfl) (tenC_2 (by omega))), fun a w gG hF hS hd => by have hF := hF.ext1 24 (hd 1 rfl rfl); have hF := hF.ext1 26 (hd 3 rfl rfl); exact par_call (by repeat constructor) hS rfl (d_call Try.call68 hF (.cons rfl (.cons rfl .nil)) ((CallsR.val (l03Power_ok (n) (i) _ (by omega) (by omega) (by omega)) (congrArg (fun x : Nat => Value.int .i64 (x : Int)) (pwr_le (by omega) (by omega)))))), fun a w gG hF hS hd => by exact par_val hS rfl (g_fieldAddr ty_fo_27_1 hF rfl), fun a w gG hF hS hd => by have hF := hF.ext1 28 (hd 5 rfl rfl); have hM := hS.mem rfl; exact par_val hS rfl (g_load ty_on_2 hF rfl (hM.row 0 rfl) (tenC_1 (by omega))), fun a w gG hF hS hd => by exact par_val hS rfl (g_fieldAddr ty_fo_27_3 hF rfl), fun a w gG hF hS hd => by have hF := hF.ext1 30 (hd 7 rfl rfl); have hM := hS.mem rfl; exact par_val hS rfl (g_load ty_on_2 hF rfl (hM.row 0 rfl) (tenC_3 (by omega))), fun a w gG hF hS hd => by have hF := hF.ext1 29 (hd 6 rfl rfl); have hF := hF.ext1 31 (hd 8 rfl rfl); exact par_call (by repeat constructor) hS rfl (d_call Try.call68 hF (.cons rfl (.cons rfl .nil)) ((CallsR.val (l03Power_ok (n) (l) _ (by omega) (by omega) (by omega)) (congrArg (fun x : Nat => Value.int .i64 (x : Int)) (pwr_le (by omega) (by omega)))))), fun a w gG hF hS hd => by exact par_val hS rfl (g_fieldAddr ty_fo_27_1 hF rfl), fun a w gG hF hS hd => by have hF := hF.ext1 33 (hd 10 rfl rfl); have hM := hS.mem rfl; exact par_val hS rfl (g_load ty_on_2 hF rfl (hM.row 0 rfl) (tenC_1 (by omega))), fun a w gG hF hS hd => by exact par_val hS rfl (g_fieldAddr ty_fo_27_3 hF rfl), fun a w gG hF hS hd => by have hF := hF.ext1 35 (hd 12 rfl rfl); have hM := hS.mem rfl; exact par_val hS rfl (g_load ty_on_2 hF rfl (hM.row 1 rfl) (tenC_3 (by omega))), trivial⟩ ?_
  intro a w' L hF hS hq
  have hF := hF.ext1 23 (hq 0 rfl rfl)
  have hF := hF.ext1 24 (hq 1 rfl rfl)
  have hF := hF.ext1 25 (hq 2 rfl rfl)
  have hF := hF.ext1 26 (hq 3 rfl rfl)
  have hF := hF.ext1 27 (hq 4 rfl rfl)
  have hF := hF.ext1 28 (hq 5 rfl rfl)
  have hF := hF.ext1 29 (hq 6 rfl rfl)
  have hF := hF.ext1 30 (hq 7 rfl rfl)
  have hF := hF.ext1 31 (hq 8 rfl rfl)
  have hF := hF.ext1 32 (hq 9 rfl rfl)
  have hF := hF.ext1 33 (hq 10 rfl rfl)
  have hF := hF.ext1 34 (hq 11 rfl rfl)
  have hF := hF.ext1 35 (hq 12 rfl rfl)
  have hF := hF.ext1 36 (hq 13 rfl rfl)
  have hM := hS.mem rfl
  change wpList Try.prog _ _ [_, _, _, _] _ _
  refine stR hF (d_call Try.call68 hF (.cons rfl (.cons rfl .nil)) ((CallsR.val (l03Power_ok (n) (o) _ (by omega) (by omega) (by omega)) (congrArg (fun x : Nat => Value.int .i64 (x : Int)) (pwr_le (by omega) (by omega)))))) rfl ?_
  rintro _ w' a ⟨hx, rfl⟩ hF
  have hM := hM.ext hx
  refine st hF (g_assign hF rfl) rfl fun a hF => st hF (g_assign hF rfl) rfl fun a hF => st hF (g_assign hF rfl) rfl fun a hF => ?_
  refine wpList_nil ?_
  refine tN ?_
  refine sq ?_
  refine sq ?_
  refine wp_region_lit ?_
  refine st hF (g_assign hF rfl) rfl fun a hF => ?_
  refine wpList_nil ?_
  refine tN ?_
  refine wp_block ?_
  change Mem w _ [some (b1, tenC (p : Int) (n : Int) (i : Int) (l : Int) (.slice (some ⟨b, 0, none⟩) (n ^ (i + l)) (n ^ (i + l)))), some (b2, tenC (p : Int) (n : Int) (l : Int) (o : Int) (.slice (some ⟨bz, 0, none⟩) (n ^ (l + o)) (n ^ (l + o)))), some (b3, tenC 0 0 0 0 (.slice none 0 0)), some (b4, numC ((n) ^ ((i) + (o))) (fun _ => 0)), some (b5, tenC ((p : Nat) : Int) ((n : Nat) : Int) ((i : Nat) : Int) ((o : Nat) : Int) (.slice (some ⟨b4, 0, none⟩) ((n) ^ ((i) + (o))) ((n) ^ ((i) + (o)))))] [(b, numC (n ^ (i + l)) f), (bz, numC (n ^ (l + o)) h)] at hM
  refine c_loop (fun (kk : Nat) a w' => kk ≤ n ^ i ∧ (True) ∧ Fr 96 a [(36, .int .i64 (((o : Nat) : Int))), (35, ptr b2 (0 + 3)), (34, .int .i64 (((n : Nat) : Int))), (33, ptr b1 (0 + 1)), (32, .int .i64 ((((n) ^ (l) : Nat) : Int))), (31, .int .i64 (((l : Nat) : Int))), (30, ptr b1 (0 + 3)), (29, .int .i64 (((n : Nat) : Int))), (28, ptr b1 (0 + 1)), (27, .int .i64 ((((n) ^ (i) : Nat) : Int))), (26, .int .i64 (((i : Nat) : Int))), (25, ptr b1 (0 + 2)), (24, .int .i64 (((n : Nat) : Int))), (23, ptr b1 (0 + 1)), (0, .agg (tenC (p : Int) (n : Int) (i : Int) (l : Int) (.slice (some ⟨b, 0, none⟩) (n ^ (i + l)) (n ^ (i + l))))), (1, .agg (tenC (p : Int) (n : Int) (l : Int) (o : Int) (.slice (some ⟨bz, 0, none⟩) (n ^ (l + o)) (n ^ (l + o))))), (2, ptr b1 (0)), (3, ptr b2 (0)), (4, ptr b3 (0)), (14, ptr b1 (0 + 0)), (15, .int .i64 (((p : Nat) : Int))), (16, ptr b1 (0 + 1)), (17, .int .i64 (((n : Nat) : Int))), (18, ptr b1 (0 + 2)), (19, .int .i64 (((i : Nat) : Int))), (20, ptr b2 (0 + 3)), (21, .int .i64 (((o : Nat) : Int))), (22, .agg (tenC ((p : Nat) : Int) ((n : Nat) : Int) ((i : Nat) : Int) ((o : Nat) : Int) (.slice (some ⟨b4, 0, none⟩) ((n) ^ ((i) + (o))) ((n) ^ ((i) + (o)))))), (5, ptr b5 (0)), (37, .int .i64 ((((n) ^ (o) : Nat) : Int))), (6, .int .i64 ((((n) ^ (i) : Nat) : Int))), (7, .int .i64 ((((n) ^ (l) : Nat) : Int))), (8, .int .i64 ((((n) ^ (o) : Nat) : Int))), (9, .int .i64 (((kk : Nat) : Int)))] ∧ Mem w w' [some (b1, tenC (p : Int) (n : Int) (i : Int) (l : Int) (.slice (some ⟨b, 0, none⟩) (n ^ (i + l)) (n ^ (i + l)))), some (b2, tenC (p : Int) (n : Int) (l : Int) (o : Int) (.slice (some ⟨bz, 0, none⟩) (n ^ (l + o)) (n ^ (l + o)))), some (b3, tenC 0 0 0 0 (.slice none 0 0)), some (b4, numC (n ^ (i + o)) (cmpF p (n ^ o) (n ^ l) f h kk 0)), some (b5, tenC ((p : Nat) : Int) ((n : Nat) : Int) ((i : Nat) : Int) ((o : Nat) : Int) (.slice (some ⟨b4, 0, none⟩) ((n) ^ ((i) + (o))) ((n) ^ ((i) + (o)))))] [(b, numC (n ^ (i + l)) f), (bz, numC (n ^ (l + o)) h)]) (fun kk => n ^ i - kk) 0 ?_ ?_
  ·
    refine ⟨by omega, trivial, hF.sub _ (by repeat' constructor), ?_⟩
    refine hM.rowc 3 rfl (numC_congr fun c hc => cmpF_0.symm)
  ·
    clear hF hM
    rintro gi a w' ⟨hgi, hinv1, hF, hM⟩
    have hr1 : gi < n ^ i → gi * n ^ o + n ^ o ≤ n ^ (i + o) := idx_bd2
    have hr2 : gi < n ^ i → gi * n ^ l + n ^ l ≤ n ^ (i + l) := idx_bd2
    refine sq ?_
    refine sq ?_
    refine wp_region_lit ?_
    refine st hF (g_move hF rfl) rfl fun a hF => st hF (g_move hF rfl) rfl fun a hF => st hF (g_lss hF rfl rfl) rfl fun a hF => ?_
    refine wpList_nil ?_
    refine tN ?_
    refine c_cond hF rfl (fun h6 => ?_) (fun h6 => ?_)
    ·
      refine wp_skip ?_
      refine tN ?_
      refine sq ?_
      refine wp_block ?_
      refine sq ?_
      refine wp_region_lit ?_
      refine st hF (g_assign hF rfl) rfl fun a hF => ?_
      refine wpList_nil ?_
      refine tN ?_
      refine wp_block ?_
      change Mem w _ [some (b1, tenC (p : Int) (n : Int) (i : Int) (l : Int) (.slice (some ⟨b, 0, none⟩) (n ^ (i + l)) (n ^ (i + l)))), some (b2, tenC (p : Int) (n : Int) (l : Int) (o : Int) (.slice (some ⟨bz, 0, none⟩) (n ^ (l + o)) (n ^ (l + o)))), some (b3, tenC 0 0 0 0 (.slice none 0 0)), some (b4, numC (n ^ (i + o)) (cmpF p (n ^ o) (n ^ l) f h gi 0)), some (b5, tenC ((p : Nat) : Int) ((n : Nat) : Int) ((i : Nat) : Int) ((o : Nat) : Int) (.slice (some ⟨b4, 0, none⟩) ((n) ^ ((i) + (o))) ((n) ^ ((i) + (o)))))] [(b, numC (n ^ (i + l)) f), (bz, numC (n ^ (l + o)) h)] at hM
      refine c_loop (fun (kk : Nat) a w' => kk ≤ n ^ l ∧ (True) ∧ Fr 96 a [(36, .int .i64 (((o : Nat) : Int))), (35, ptr b2 (0 + 3)), (34, .int .i64 (((n : Nat) : Int))), (33, ptr b1 (0 + 1)), (32, .int .i64 ((((n) ^ (l) : Nat) : Int))), (31, .int .i64 (((l : Nat) : Int))), (30, ptr b1 (0 + 3)), (29, .int .i64 (((n : Nat) : Int))), (28, ptr b1 (0 + 1)), (27, .int .i64 ((((n) ^ (i) : Nat) : Int))), (26, .int .i64 (((i : Nat) : Int))), (25, ptr b1 (0 + 2)), (24, .int .i64 (((n : Nat) : Int))), (23, ptr b1 (0 + 1)), (0, .agg (tenC (p : Int) (n : Int) (i : Int) (l : Int) (.slice (some ⟨b, 0, none⟩) (n ^ (i + l)) (n ^ (i + l))))), (1, .agg (tenC (p : Int) (n : Int) (l : Int) (o : Int) (.slice (some ⟨bz, 0, none⟩) (n ^ (l + o)) (n ^ (l + o))))), (2, ptr b1 (0)), (3, ptr b2 (0)), (4, ptr b3 (0)), (14, ptr b1 (0 + 0)), (15, .int .i64 (((p : Nat) : Int))), (16, ptr b1 (0 + 1)), (17, .int .i64 (((n : Nat) : Int))), (18, ptr b1 (0 + 2)), (19, .int .i64 (((i : Nat) : Int))), (20, ptr b2 (0 + 3)), (21, .int .i64 (((o : Nat) : Int))), (22, .agg (tenC ((p : Nat) : Int) ((n : Nat) : Int) ((i : Nat) : Int) ((o : Nat) : Int) (.slice (some ⟨b4, 0, none⟩) ((n) ^ ((i) + (o))) ((n) ^ ((i) + (o)))))), (5, ptr b5 (0)), (37, .int .i64 ((((n) ^ (o) : Nat) : Int))), (6, .int .i64 ((((n) ^ (i) : Nat) : Int))), (7, .int .i64 ((((n) ^ (l) : Nat) : Int))), (8, .int .i64 ((((n) ^ (o) : Nat) : Int))), (9, .int .i64 (((gi : Nat) : Int))), (38, .int .i64 (((gi : Nat) : Int))), (39, .int .i64 ((((n) ^ (i) : Nat) : Int))), (40, .bool (decide ((((gi : Nat) : Int) : Int) < (((n) ^ (i) : Nat) : Int)))), (10, .int .i64 (((kk : Nat) : Int)))] ∧ Mem w w' [some (b1, tenC (p : Int) (n : Int) (i : Int) (l : Int) (.slice (some ⟨b, 0, none⟩) (n ^ (i + l)) (n ^ (i + l)))), some (b2, tenC (p : Int) (n : Int) (l : Int) (o : Int) (.slice (some ⟨bz, 0, none⟩) (n ^ (l + o)) (n ^ (l + o)))), some (b3, tenC 0 0 0 0 (.slice none 0 0)), some (b4, numC (n ^ (i + o)) (cmpF p (n ^ o) (n ^ l) f h gi kk)), some (b5, tenC ((p : Nat) : Int) ((n : Nat) : Int) ((i : Nat) : Int) ((o : Nat) : Int) (.slice (some ⟨b4, 0, none⟩) ((n) ^ ((i) + (o))) ((n) ^ ((i) + (o)))))] [(b, numC (n ^ (i + l)) f), (bz, numC (n ^ (l + o)) h)]) (fun kk => n ^ l - kk) 0 ?_ ?_
      ·
        refine ⟨by omega, trivial, hF.sub _ (by repeat' constructor), ?_⟩
        exact hM
      ·
        clear hF hM
        rintro gj a w' ⟨hgj, hinv2, hF, hM⟩
        have hj1 : gj < n ^ l → gj * n ^ o + n ^ o ≤ n ^ (l + o) := idx_bd2
        have hfx := hfp (gi * n ^ l + gj)
        refine sq ?_
        refine sq ?_
        refine wp_region_lit ?_
        refine st hF (g_move hF rfl) rfl fun a hF => st hF (g_move hF rfl) rfl fun a hF => st hF (g_lss hF rfl rfl) rfl fun a hF => ?_
        refine wpList_nil ?_
        refine tN ?_
        refine c_cond hF rfl (fun h7 => ?_) (fun h7 => ?_)
        ·
          refine wp_skip ?_
          refine tN ?_
          refine sq ?_
          refine wp_block ?_
          refine sq ?_
          refine wp_region_lit ?_
          refine st hF (g_fieldAddr ty_fo_27_4 hF rfl) rfl fun a hF => st hF (g_load ty_on_22 hF rfl (hM.row 0 rfl) (tenC_4 (by omega))) rfl fun a hF => st hF (g_move hF rfl) rfl fun a hF => st hF (g_move hF rfl) rfl fun a hF => st hF (g_mul hF rfl rfl (mul_nat (gi) ((n) ^ (l)) (by omega))) rfl fun a hF => st hF (g_move hF rfl) rfl fun a hF => st hF (g_add hF rfl rfl (add_nat ((gi) * ((n) ^ (l))) (gj) (by omega))) rfl fun a hF => st hF (g_indexSl (i := (gi) * ((n) ^ (l)) + gj) ty_sl_22 hF rfl rfl rfl (by omega)) rfl fun a hF => st hF (g_load ty_on_2 hF rfl (hM.fz 0 rfl) (numC_get (k := (gi) * ((n) ^ (l)) + gj) (by omega) (by omega))) rfl fun a hF => st hF (g_assign hF rfl) rfl fun a hF => ?_
          refine wpList_nil ?_
          refine tN ?_
          refine sq ?_
          refine wp_region_lit ?_
          refine st hF (g_assign hF rfl) rfl fun a hF => ?_
          refine wpList_nil ?_
          refine tN ?_
          refine wp_block ?_
          change Mem w _ [some (b1, tenC (p : Int) (n : Int) (i : Int) (l : Int) (.slice (some ⟨b, 0, none⟩) (n ^ (i + l)) (n ^ (i + l)))), some (b2, tenC (p : Int) (n : Int) (l : Int) (o : Int) (.slice (some ⟨bz, 0, none⟩) (n ^ (l + o)) (n ^ (l + o)))), some (b3, tenC 0 0 0 0 (.slice none 0 0)), some (b4, numC (n ^ (i + o)) (cmpF p (n ^ o) (n ^ l) f h gi gj)), some (b5, tenC ((p : Nat) : Int) ((n : Nat) : Int) ((i : Nat) : Int) ((o : Nat) : Int) (.slice (some ⟨b4, 0, none⟩) ((n) ^ ((i) + (o))) ((n) ^ ((i) + (o)))))] [(b, numC (n ^ (i + l)) f), (bz, numC (n ^ (l + o)) h)] at hM
          refine c_loop (fun (kk : Nat) a w' => kk ≤ n ^ o ∧ (True) ∧ Fr 96 a [(36, .int .i64 (((o : Nat) : Int))), (35, ptr b2 (0 + 3)), (34, .int .i64 (((n : Nat) : Int))), (33, ptr b1 (0 + 1)), (32, .int .i64 ((((n) ^ (l) : Nat) : Int))), (31, .int .i64 (((l : Nat) : Int))), (30, ptr b1 (0 + 3)), (29, .int .i64 (((n : Nat) : Int))), (28, ptr b1 (0 + 1)), (27, .int .i64 ((((n) ^ (i) : Nat) : Int))), (26, .int .i64 (((i : Nat) : Int))), (25, ptr b1 (0 + 2)), (24, .int .i64 (((n : Nat) : Int))), (23, ptr b1 (0 + 1)), (0, .agg (tenC (p : Int) (n : Int) (i : Int) (l : Int) (.slice (some ⟨b, 0, none⟩) (n ^ (i + l)) (n ^ (i + l))))), (1, .agg (tenC (p : Int) (n : Int) (l : Int) (o : Int) (.slice (some ⟨bz, 0, none⟩) (n ^ (l + o)) (n ^ (l + o))))), (2, ptr b1 (0)), (3, ptr b2 (0)), (4, ptr b3 (0)), (14, ptr b1 (0 + 0)), (15, .int .i64 (((p : Nat) : Int))), (16, ptr b1 (0 + 1)), (17, .int .i64 (((n : Nat) : Int))), (18, ptr b1 (0 + 2)), (19, .int .i64 (((i : Nat) : Int))), (20, ptr b2 (0 + 3)), (21, .int .i64 (((o : Nat) : Int))), (22, .agg (tenC ((p : Nat) : Int) ((n : Nat) : Int) ((i : Nat) : Int) ((o : Nat) : Int) (.slice (some ⟨b4, 0, none⟩) ((n) ^ ((i) + (o))) ((n) ^ ((i) + (o)))))), (5, ptr b5 (0)), (37, .int .i64 ((((n) ^ (o) : Nat) : Int))), (6, .int .i64 ((((n) ^ (i) : Nat) : Int))), (7, .int .i64 ((((n) ^ (l) : Nat) : Int))), (8, .int .i64 ((((n) ^ (o) : Nat) : Int))), (9, .int .i64 (((gi : Nat) : Int))), (38, .int .i64 (((gi : Nat) : Int))), (39, .int .i64 ((((n) ^ (i) : Nat) : Int))), (40, .bool (decide ((((gi : Nat) : Int) : Int) < (((n) ^ (i) : Nat) : Int)))), (10, .int .i64 (((gj : Nat) : Int))), (43, .int .i64 (((gj : Nat) : Int))), (44, .int .i64 ((((n) ^ (l) : Nat) : Int))), (45, .bool (decide ((((gj : Nat) : Int) : Int) < (((n) ^ (l) : Nat) : Int)))), (48, ptr b1 (0 + 4)), (49, .slice (some ⟨b, 0, none⟩) (n ^ (i + l)) (n ^ (i + l))), (50, .int .i64 (((gi : Nat) : Int))), (51, .int .i64 ((((n) ^ (l) : Nat) : Int))), (52, .int .i64 ((((gi) * ((n) ^ (l)) : Nat) : Int))), (53, .int .i64 (((gj : Nat) : Int))), (54, .int .i64 ((((gi) * ((n) ^ (l)) + gj : Nat) : Int))), (55, ptr b (0 + ((gi) * ((n) ^ (l)) + gj) * 1)), (56, .int .i64 (((f ((gi) * ((n) ^ (l)) + gj) : Nat) : Int))), (11, .int .i64 (((f ((gi) * ((n) ^ (l)) + gj) : Nat) : Int))), (12, .int .i64 (((kk : Nat) : Int)))] ∧ Mem w w' [some (b1, tenC (p : Int) (n : Int) (i : Int) (l : Int) (.slice (some ⟨b, 0, none⟩) (n ^ (i + l)) (n ^ (i + l)))), some (b2, tenC (p : Int) (n : Int) (l : Int) (o : Int) (.slice (some ⟨bz, 0, none⟩) (n ^ (l + o)) (n ^ (l + o)))), some (b3, tenC 0 0 0 0 (.slice none 0 0)), some (b4, numC (n ^ (i + o)) (cmpG p (n ^ o) (n ^ l) f h gi gj kk)), some (b5, tenC ((p : Nat) : Int) ((n : Nat) : Int) ((i : Nat) : Int) ((o : Nat) : Int) (.slice (some ⟨b4, 0, none⟩) ((n) ^ ((i) + (o))) ((n) ^ ((i) + (o)))))] [(b, numC (n ^ (i + l)) f), (bz, numC (n ^ (l + o)) h)]) (fun kk => n ^ o - kk) 0 ?_ ?_
          ·
            refine ⟨by omega, trivial, hF.sub _ (by repeat' constructor), ?_⟩
            refine hM.rowc 3 rfl (numC_congr fun c hc => cmpG_0.symm)
          ·
            clear hF hM
            rintro gk a w' ⟨hgk, hinv3, hF, hM⟩
            have hhx := hhp (gj * n ^ o + gk)
            have hgx := cmpG_lt (p := p) (W := n ^ o) (M := n ^ l) (f := f) (h := h) (i := gi) (j := gj) (k := gk) (c := gi * n ^ o + gk) hp0
            have hml : f (gi * n ^ l + gj) * h (gj * n ^ o + gk) ≤ 100 * 100 := Nat.mul_le_mul (by omega) (by omega)
            refine sq ?_
            refine sq ?_
            refine wp_region_lit ?_
            refine st hF (g_move hF rfl) rfl fun a hF => st hF (g_move hF rfl) rfl fun a hF => st hF (g_lss hF rfl rfl) rfl fun a hF => st hF (g_move hF rfl) rfl fun a hF => ?_
            by_cases g8 : (((gk : Nat) : Int) : Int) < (((n) ^ (o) : Nat) : Int)
            ·
              first | rw [decide_eq_true g8] at hF | simp only [decide_eq_true g8] at hF
              refine stY hF rfl rfl rfl (g_move hF rfl) rfl fun a hF => stY hF rfl rfl rfl (g_neq hF rfl rfl) rfl fun a hF => st hF (g_pickT hF rfl rfl) rfl fun a hF => ?_
              refine wpList_nil ?_
              refine tN ?_
              refine c_cond hF rfl (fun h9 => ?_) (fun h9 => ?_)
              ·
                refine wp_skip ?_
                refine tN ?_
                refine sq ?_
                refine wp_block ?_
                refine sq ?_
                refine wp_region_lit ?_
                refine st hF (g_move hF rfl) rfl fun a hF => st hF (g_move hF rfl) rfl fun a hF => st hF (g_mul hF rfl rfl (mul_nat (gi) ((n) ^ (o)) (by omega))) rfl fun a hF => st hF (g_move hF rfl) rfl fun a hF => st hF (g_add hF rfl rfl (add_nat ((gi) * ((n) ^ (o))) (gk) (by omega))) rfl fun a hF => st hF (g_assign hF rfl) rfl fun a hF => ?_
                refine wpList_nil ?_
                refine tN ?_
                refine c_par 23 [] [.val (ptr b5 (0 + 4)), .val (.slice (some ⟨b4, 0, none⟩) ((n) ^ ((i) + (o))) ((n) ^ ((i) + (o)))), .val (.int .i64 ((((gi) * ((n) ^ (o)) + gk : Nat) : Int))), .val (ptr b5 (0 + 4)), .val (.slice (some ⟨b4, 0, none⟩) ((n) ^ ((i) + (o))) ((n) ^ ((i) + (o)))), .val (.int .i64 ((((gi) * ((n) ^ (o)) + gk : Nat) : Int))), .val (ptr b4 (0 + ((gi) * ((n) ^ (o)) + gk) * 1)), .val (.int .i64 ((((cmpG p (n ^ o) (n ^ l) f h gi gj gk) (((gi) * ((n) ^ (o)) + gk)) : Nat) : Int))), .val (.int .i64 (((f ((gi) * ((n) ^ (l)) + gj) : Nat) : Int))), .val (ptr b2 (0 + 4)), .val (.slice (some ⟨bz, 0, none⟩) (n ^ (l + o)) (n ^ (l + o))), .val (.int .i64 (((gj : Nat) : Int))), .val (.int .i64 ((((n) ^ (o) : Nat) : Int))), .val (.int .i64 ((((gj) * ((n) ^ (o)) : Nat) : Int))), .val (.int .i64 (((gk : Nat) : Int))), .val (.int .i64 ((((gj) * ((n) ^ (o)) + gk : Nat) : Int))), .val (ptr bz (0 + ((gj) * ((n) ^ (o)) + gk) * 1)), .val (.int .i64 (((h ((gj) * ((n) ^ (o)) + gk) : Nat) : Int))), .val (.int .i64 ((((f ((gi) * ((n) ^ (l)) + gj)) * (h ((gj) * ((n) ^ (o)) + gk)) : Nat) : Int))), .val (.int .i64 ((((cmpG p (n ^ o) (n ^ l) f h gi gj gk) (((gi) * ((n) ^ (o)) + gk)) + (f ((gi) * ((n) ^ (l)) + gj)) * (h ((gj) * ((n) ^ (o)) + gk)) : Nat) : Int))), .val (ptr b1 (0 + 0)), .val (.int .i64 (((p : Nat) : Int))), .val (.int .i64 (((((cmpG p (n ^ o) (n ^ l) f h gi gj gk) (((gi) * ((n) ^ (o)) + gk)) + (f ((gi) * ((n) ^ (l)) + gj)) * (h ((gj) * ((n) ^ (o)) + gk))) % (p) : Nat) : Int)))] hmix rfl hF rfl hM ⟨fun a w gG hF hS hd => by exact par_val hS rfl (g_fieldAddr ty_fo_27_4 hF rfl), fun a w gG hF hS hd => by have hF := hF.ext1 71 (hd 0 rfl rfl); have hM := hS.mem rfl; exact par_val hS rfl (g_load ty_on_22 hF rfl (hM.row 4 rfl) (tenC_4 (by omega))), fun a w gG hF hS hd => by exact par_val hS rfl (g_move hF rfl), fun a w gG hF hS hd => by exact par_val hS rfl (g_fieldAddr ty_fo_27_4 hF rfl), fun a w gG hF hS hd => by have hF := hF.ext1 74 (hd 3 rfl rfl); have hM := hS.mem rfl; exact par_val hS rfl (g_load ty_on_22 hF rfl (hM.row 4 rfl) (tenC_4 (by omega))), fun a w gG hF hS hd => by exact par_val hS rfl (g_move hF rfl), fun a w gG hF hS hd => by have hF := hF.ext1 75 (hd 4 rfl rfl); have hF := hF.ext1 76 (hd 5 rfl rfl); exact par_val hS rfl (g_indexSl (i := (gi) * ((n) ^ (o)) + gk) ty_sl_22 hF rfl rfl rfl (by omega)), fun a w gG hF hS hd => by have hF := hF.ext1 77 (hd 6 rfl rfl); have hM := hS.mem rfl; exact par_val hS rfl (g_load ty_on_2 hF rfl (hM.row 3 rfl) (numC_get (k := ((gi) * ((n) ^ (o)) + gk)) (by omega) (by omega))), fun a w gG hF hS hd => by exact par_val hS rfl (g_move hF rfl), fun a w gG hF hS hd => by exact par_val hS rfl (g_fieldAddr ty_fo_27_4 hF rfl), fun a w gG hF hS hd => by have hF := hF.ext1 80 (hd 9 rfl rfl); have hM := hS.mem rfl; exact par_val hS rfl (g_load ty_on_22 hF rfl (hM.row 1 rfl) (tenC_4 (by omega))), fun a w gG hF hS hd => by exact par_val hS rfl (g_move hF rfl), fun a w gG hF hS hd => by exact par_val hS rfl (g_move hF rfl), fun a w gG hF hS hd => by have hF := hF.ext1 82 (hd 11 rfl rfl); have hF := hF.ext1 83 (hd 12 rfl rfl); exact par_val hS rfl (g_mul hF rfl rfl (mul_nat (gj) ((n) ^ (o)) (by omega))), fun a w gG hF hS hd => by exact par_val hS rfl (g_move hF rfl), fun a w gG hF hS hd => by have hF := hF.ext1 84 (hd 13 rfl rfl); have hF := hF.ext1 85 (hd 14 rfl rfl); exact par_val hS rfl (g_add hF rfl rfl (add_nat ((gj) * ((n) ^ (o))) (gk) (by omega))), fun a w gG hF hS hd => by have hF := hF.ext1 81 (hd 10 rfl rfl); have hF := hF.ext1 86 (hd 15 rfl rfl); exact par_val hS rfl (g_indexSl (i := (gj) * ((n) ^ (o)) + gk) ty_sl_22 hF rfl rfl rfl (by omega)), fun a w gG hF hS hd => by have hF := hF.ext1 87 (hd 16 rfl rfl); have hM := hS.mem rfl; exact par_val hS rfl (g_load ty_on_2 hF rfl (hM.fz 1 rfl) (numC_get (k := (gj) * ((n) ^ (o)) + gk) (by omega) (by omega))), fun a w gG hF hS hd => by have hF := hF.ext1 79 (hd 8 rfl rfl); have hF := hF.ext1 88 (hd 17 rfl rfl); exact par_val hS rfl (g_mul hF rfl rfl (mul_nat (f ((gi) * ((n) ^ (l)) + gj)) (h ((gj) * ((n) ^ (o)) + gk)) (by omega))), fun a w gG hF hS hd => by have hF := hF.ext1 78 (hd 7 rfl rfl); have hF := hF.ext1 89 (hd 18 rfl rfl); exact par_val hS rfl (g_add hF rfl rfl (add_nat ((cmpG p (n ^ o) (n ^ l) f h gi gj gk) (((gi) * ((n) ^ (o)) + gk))) ((f ((gi) * ((n) ^ (l)) + gj)) * (h ((gj) * ((n) ^ (o)) + gk))) (by omega))), fun a w gG hF hS hd => by exact par_val hS rfl (g_fieldAddr ty_fo_27_0 hF rfl), fun a w gG hF hS hd => by have hF := hF.ext1 91 (hd 20 rfl rfl); have hM := hS.mem rfl; exact par_val hS rfl (g_load ty_on_2 hF rfl (hM.row 0 rfl) (tenC_0 (by omega))), fun a w gG hF hS hd => by have hF := hF.ext1 90 (hd 19 rfl rfl); have hF := hF.ext1 92 (hd 21 rfl rfl); exact par_val hS rfl (g_rem hF rfl rfl (by omega) (rem_nat ((cmpG p (n ^ o) (n ^ l) f h gi gj gk) (((gi) * ((n) ^ (o)) + gk)) + (f ((gi) * ((n) ^ (l)) + gj)) * (h ((gj) * ((n) ^ (o)) + gk))) (p))), trivial⟩ ?_
                intro a w' L hF hS hq
                have hF := hF.ext1 71 (hq 0 rfl rfl)
                have hF := hF.ext1 72 (hq 1 rfl rfl)
                have hF := hF.ext1 73 (hq 2 rfl rfl)
                have hF := hF.ext1 74 (hq 3 rfl rfl)
                have hF := hF.ext1 75 (hq 4 rfl rfl)
                have hF := hF.ext1 76 (hq 5 rfl rfl)
                have hF := hF.ext1 77 (hq 6 rfl rfl)
                have hF := hF.ext1 78 (hq 7 rfl rfl)
                have hF := hF.ext1 79 (hq 8 rfl rfl)
                have hF := hF.ext1 80 (hq 9 rfl rfl)
                have hF := hF.ext1 81 (hq 10 rfl rfl)
                have hF := hF.ext1 82 (hq 11 rfl rfl)
                have hF := hF.ext1 83 (hq 12 rfl rfl)
                have hF := hF.ext1 84 (hq 13 rfl rfl)
                have hF := hF.ext1 85 (hq 14 rfl rfl)
                have hF := hF.ext1 86 (hq 15 rfl rfl)
                have hF := hF.ext1 87 (hq 16 rfl rfl)
                have hF := hF.ext1 88 (hq 17 rfl rfl)
                have hF := hF.ext1 89 (hq 18 rfl rfl)
                have hF := hF.ext1 90 (hq 19 rfl rfl)
                have hF := hF.ext1 91 (hq 20 rfl rfl)
                have hF := hF.ext1 92 (hq 21 rfl rfl)
                have hF := hF.ext1 93 (hq 22 rfl rfl)
                have hM := hS.mem rfl
                change wpList Try.prog _ _ [_, _] _ _
                refine st hF (g_indexSl (i := (gi) * ((n) ^ (o)) + gk) ty_sl_22 hF rfl rfl rfl (by omega)) rfl fun a hF => ?_
                refine stN hF (d_store 3 hM rfl ty_on_2 hF rfl rfl rfl (by first | omega | (simp only [fnC_size, cells_size, vecC_size, tabC_size, planeC_size, tenC_size, smC_size, numC_size, numI_size] <;> omega))) ?_
                intro _ w' a hM hF
                rw [show (numC (n ^ (i + o)) (cmpG p (n ^ o) (n ^ l) f h gi gj gk)).setIfInBounds (0 + ((gi) * ((n) ^ (o)) + gk) * 1) (.int .i64 (((((cmpG p (n ^ o) (n ^ l) f h gi gj gk) (((gi) * ((n) ^ (o)) + gk)) + (f ((gi) * ((n) ^ (l)) + gj)) * (h ((gj) * ((n) ^ (o)) + gk))) % (p) : Nat) : Int))) = numC (n ^ (i + o)) (fun c => if c = ((gi) * ((n) ^ (o)) + gk) then ((cmpG p (n ^ o) (n ^ l) f h gi gj gk) (((gi) * ((n) ^ (o)) + gk)) + (f ((gi) * ((n) ^ (l)) + gj)) * (h ((gj) * ((n) ^ (o)) + gk))) % (p) else (cmpG p (n ^ o) (n ^ l) f h gi gj gk) c) from numC_set (k := ((gi) * ((n) ^ (o)) + gk)) (by omega) (fun c _ => rfl)] at hM
                change Mem w w' [some (b1, tenC (p : Int) (n : Int) (i : Int) (l : Int) (.slice (some ⟨b, 0, none⟩) (n ^ (i + l)) (n ^ (i + l)))), some (b2, tenC (p : Int) (n : Int) (l : Int) (o : Int) (.slice (some ⟨bz, 0, none⟩) (n ^ (l + o)) (n ^ (l + o)))), some (b3, tenC 0 0 0 0 (.slice none 0 0)), some (b4, numC (n ^ (i + o)) (fun c => if c = ((gi) * ((n) ^ (o)) + gk) then ((cmpG p (n ^ o) (n ^ l) f h gi gj gk) (((gi) * ((n) ^ (o)) + gk)) + (f ((gi) * ((n) ^ (l)) + gj)) * (h ((gj) * ((n) ^ (o)) + gk))) % (p) else (cmpG p (n ^ o) (n ^ l) f h gi gj gk) c)), some (b5, tenC ((p : Nat) : Int) ((n : Nat) : Int) ((i : Nat) : Int) ((o : Nat) : Int) (.slice (some ⟨b4, 0, none⟩) ((n) ^ ((i) + (o))) ((n) ^ ((i) + (o)))))] [(b, numC (n ^ (i + l)) f), (bz, numC (n ^ (l + o)) h)] at hM
                refine wpList_nil ?_
                refine iN ?_
                refine tN ?_
                refine wp_region_lit ?_
                refine st hF (g_move hF rfl) rfl fun a hF => st hF (g_add hF rfl rfl (add_nat (gk) (1) (by omega))) rfl fun a hF => st hF (g_assign hF rfl) rfl fun a hF => ?_
                refine wpList_nil ?_
                refine tN ?_
                refine ⟨gk + 1, ⟨by omega, trivial, hF.sub _ (by repeat' constructor), ?_⟩, by omega⟩
                refine hM.rowc 3 rfl (numC_congr fun c hc => cmpG_step (by omega) (by omega) (by omega) rfl rfl)
              ·
                refine wp_exit ?_
                refine tX ?_
                refine tX ?_
                refine ib_same ?_
                refine iN ?_
                refine tN ?_
                refine wp_region_lit ?_
                refine st hF (g_move hF rfl) rfl fun a hF => st hF (g_add hF rfl rfl (add_nat (gj) (1) (by omega))) rfl fun a hF => st hF (g_assign hF rfl) rfl fun a hF => ?_
                refine wpList_nil ?_
                refine tN ?_
                refine ⟨gj + 1, ⟨by omega, trivial, hF.sub _ (by repeat' constructor), ?_⟩, by omega⟩
                refine hM.rowc 3 rfl (numC_congr fun c hc => by first | exact cmpG_full (by omega) (by omega) | exact cmpG_zero (by omega) (by omega))
            ·
              first | rw [decide_eq_false g8] at hF | simp only [decide_eq_false g8] at hF
              refine stS hF rfl rfl rfl rfl rfl fun a hF => stS hF rfl rfl rfl rfl rfl fun a hF => st hF (g_pickF hF rfl rfl) rfl fun a hF => ?_
              refine wpList_nil ?_
              refine tN ?_
              refine c_Fl hF rfl ?_
              refine wp_exit ?_
              refine tX ?_
              refine tX ?_
              refine ib_same ?_
              refine iN ?_
              refine tN ?_
              refine wp_region_lit ?_
              refine st hF (g_move hF rfl) rfl fun a hF => st hF (g_add hF rfl rfl (add_nat (gj) (1) (by omega))) rfl fun a hF => st hF (g_assign hF rfl) rfl fun a hF => ?_
              refine wpList_nil ?_
              refine tN ?_
              refine ⟨gj + 1, ⟨by omega, trivial, hF.sub _ (by repeat' constructor), ?_⟩, by omega⟩
              refine hM.rowc 3 rfl (numC_congr fun c hc => by first | exact cmpG_full (by omega) (by omega) | exact cmpG_zero (by omega) (by omega))
        ·
          obtain rfl : n ^ l = gj := by omega
          refine wp_exit ?_
          refine tX ?_
          refine tX ?_
          refine ib_same ?_
          refine iN ?_
          refine tN ?_
          refine wp_region_lit ?_
          refine st hF (g_move hF rfl) rfl fun a hF => st hF (g_add hF rfl rfl (add_nat (gi) (1) (by omega))) rfl fun a hF => st hF (g_assign hF rfl) rfl fun a hF => ?_
          refine wpList_nil ?_
          refine tN ?_
          refine ⟨gi + 1, ⟨by omega, trivial, hF.sub _ (by repeat' constructor), ?_⟩, by omega⟩
          refine hM.rowc 3 rfl (numC_congr fun c hc => cmp_row)
    ·
      obtain rfl : n ^ i = gi := by omega
      refine wp_exit ?_
      refine tX ?_
      refine tX ?_
      refine ib_same ?_
      refine tN ?_
      refine sq ?_
      refine wp_region_lit ?_
      refine st hF (g_loadAgg ty_ag_27 hF rfl (hM.row 4 rfl) (by simp only [fnC_size, cells_size, vecC_size, tabC_size, planeC_size, tenC_size, smC_size, numC_size, numI_size] <;> omega) (whole rfl)) rfl fun a hF => ?_
      refine stN hF (d_storeAgg 2 hM rfl ty_sz_27 hF rfl rfl (tenC_one rfl) (by simp only [fnC_size, cells_size, vecC_size, tabC_size, planeC_size, tenC_size, smC_size, numC_size, numI_size]) (by simp only [fnC_size, cells_size, vecC_size, tabC_size, planeC_size, tenC_size, smC_size, numC_size, numI_size] <;> omega) (splice_whole _ _ rfl)) ?_
      intro _ w' a hM hF
      change Mem w w' [some (b1, tenC (p : Int) (n : Int) (i : Int) (l : Int) (.slice (some ⟨b, 0, none⟩) (n ^ (i + l)) (n ^ (i + l)))), some (b2, tenC (p : Int) (n : Int) (l : Int) (o : Int) (.slice (some ⟨bz, 0, none⟩) (n ^ (l + o)) (n ^ (l + o)))), some (b3, tenC ((p : Nat) : Int) ((n : Nat) : Int) ((i : Nat) : Int) ((o : Nat) : Int) (.slice (some ⟨b4, 0, none⟩) ((n) ^ ((i) + (o))) ((n) ^ ((i) + (o))))), some (b4, numC (n ^ (i + o)) (cmpF p (n ^ o) (n ^ l) f h (n ^ i) 0)), some (b5, tenC ((p : Nat) : Int) ((n : Nat) : Int) ((i : Nat) : Int) ((o : Nat) : Int) (.slice (some ⟨b4, 0, none⟩) ((n) ^ ((i) + (o))) ((n) ^ ((i) + (o)))))] [(b, numC (n ^ (i + l)) f), (bz, numC (n ^ (l + o)) h)] at hM
      refine wpList_nil ?_
      refine tN ?_
      refine wp_ret ?_
      refine fin1 rfl hF.defers (res_agg ty_ag_27 hF rfl (hM.row 2 rfl) (by simp only [fnC_size, cells_size, vecC_size, tabC_size, planeC_size, tenC_size, smC_size, numC_size, numI_size])) ⟨_, rfl, hM.below, ?_⟩
      exact ⟨_, rfl, hM.ge 3 rfl, hM.row 3 rfl⟩

theorem ComposeTensorsSB (p n i l o b bz : Nat) (f h : Nat → Nat) (w : World) (hpP : primeP (p : Int)) (hn0 : 0 < n) (hn : n ≤ 6) (hwa : wl n i l) (hwb : wl n l o) (hw : wl n i o) (hfp : ∀ c, f c < p) (hhp : ∀ c, h c < p) (hb : Blk w b (numC (n ^ (i + l)) f)) (hbz : Blk w bz (numC (n ^ (l + o)) h)) :
    CallsR Try.prog 29 #[.agg (tenC (p : Int) (n : Int) (i : Int) (l : Int) (.slice (some ⟨b, 0, none⟩) (n ^ (i + l)) (n ^ (i + l)))), .agg (tenC (p : Int) (n : Int) (l : Int) (o : Int) (.slice (some ⟨bz, 0, none⟩) (n ^ (l + o)) (n ^ (l + o))))] w (fun v w' => TenOut0 w w' (p : Int) (n : Int) (i : Int) (o : Int) (n ^ (i + o)) (cmpF p (n ^ o) (n ^ l) f h (n ^ i) 0) v) := by
  refine calls_fr [.agg (tenC (p : Int) (n : Int) (i : Int) (l : Int) (.slice (some ⟨b, 0, none⟩) (n ^ (i + l)) (n ^ (i + l)))), .agg (tenC (p : Int) (n : Int) (l : Int) (o : Int) (.slice (some ⟨bz, 0, none⟩) (n ^ (l + o)) (n ^ (l + o))))] Try.func29 rfl Try.ntmps29 rfl fun a hF => ?_
  have hM : Mem w w [none, none, none, none] [(b, numC (n ^ (i + l)) f), (bz, numC (n ^ (l + o)) h)] := MemX.startD w 4 _ (startD2 hb hbz)
  change Fr 37 a [(0, .agg (tenC (p : Int) (n : Int) (i : Int) (l : Int) (.slice (some ⟨b, 0, none⟩) (n ^ (i + l)) (n ^ (i + l))))), (1, .agg (tenC (p : Int) (n : Int) (l : Int) (o : Int) (.slice (some ⟨bz, 0, none⟩) (n ^ (l + o)) (n ^ (l + o)))))] at hF
  have hp0 : 0 < p := by have h := hpP; unfold primeP at h; omega
  have hp2 : p < 100 := by have h := hpP; unfold primeP at h; omega
  have hw3 := hw.2.2
  have hw1 := hw.1
  have hw2 := hw.2.1
  have hwa3 := hwa.2.2
  have hwb3 := hwb.2.2
  have hwa1 := hwa.1
  have hwa2 := hwa.2.1
  have hwb1 := hwb.1
  have hwb2 := hwb.2.1
  have hW := pow_one_le (k := o) hn0
  have hMl := pow_one_le (k := l) hn0
  have hRl : n ^ i ≤ n ^ (i + l) := pow_le_add hn0
  have hMl2 : n ^ l ≤ n ^ (i + l) := pow_le_add2 hn0
  have hWl : n ^ o ≤ n ^ (i + o) := pow_le_add2 hn0
  have h1 := TenP.of_nat hpP hn0 hn hwa rfl hfp
  have h2 := TenP.of_nat hpP hn0 hn hwb rfl hhp
  refine sq ?_
  refine wp_region_lit ?_
  refine stR hF (d_box 0 hM hF rfl) rfl ?_
  rintro _ w' a ⟨b1, rfl, hM, -⟩ hF
  change Mem w w' [some (b1, tenC (p : Int) (n : Int) (i : Int) (l : Int) (.slice (some ⟨b, 0, none⟩) (n ^ (i + l)) (n ^ (i + l)))), none, none, none] [(b, numC (n ^ (i + l)) f), (bz, numC (n ^ (l + o)) h)] at hM
  refine stR hF (d_box 1 hM hF rfl) rfl ?_
  rintro _ w' a ⟨b2, rfl, hM, -⟩ hF
  change Mem w w' [some (b1, tenC (p : Int) (n : Int) (i : Int) (l : Int) (.slice (some ⟨b, 0, none⟩) (n ^ (i + l)) (n ^ (i + l)))), some (b2, tenC (p : Int) (n : Int) (l : Int) (o : Int) (.slice (some ⟨bz, 0, none⟩) (n ^ (l + o)) (n ^ (l + o)))), none, none] [(b, numC (n ^ (i + l)) f), (bz, numC (n ^ (l + o)) h)] at hM
  refine stR hF (d_alloc 2 hM ty_ze_27) rfl ?_
  rintro _ w' a ⟨b3, rfl, hM, -⟩ hF
  change Mem w w' [some (b1, tenC (p : Int) (n : Int) (i : Int) (l : Int) (.slice (some ⟨b, 0, none⟩) (n ^ (i + l)) (n ^ (i + l)))), some (b2, tenC (p : Int) (n : Int) (l : Int) (o : Int) (.slice (some ⟨bz, 0, none⟩) (n ^ (l + o)) (n ^ (l + o)))), some (b3, tenC 0 0 0 0 (.slice none 0 0)), none] [(b, numC (n ^ (i + l)) f), (bz, numC (n ^ (l + o)) h)] at hM
  refine st hF (g_assign hF rfl) rfl fun a hF => ?_
  refine wpList_nil ?_
  refine tN ?_
  refine sq ?_
  refine wp_region_lit ?_
  refine st hF (g_loadAgg ty_ag_27 hF rfl (hM.row 0 rfl) (by simp only [fnC_size, cells_size, vecC_size, tabC_size, planeC_size, tenC_size, smC_size, numC_size, numI_size] <;> omega) (whole rfl)) rfl fun a hF => st hF (g_loadAgg ty_ag_27 hF rfl (hM.row 1 rfl) (by simp only [fnC_size, cells_size, vecC_size, tabC_size, planeC_size, tenC_size, smC_size, numC_size, numI_size] <;> omega) (whole rfl)) rfl fun a hF => ?_
  refine stR hF (d_call Try.call62 hF (.cons rfl (.cons rfl .nil)) (l03Two_ok (p : Int) (n : Int) (i : Int) (l : Int) (l : Int) (o : Int) b bz (n ^ (i + l)) (n ^ (l + o)) (fun c => ((f c : Nat) : Int)) (fun c => ((h c : Nat) : Int)) _ (hM.fz 0 rfl) (hM.fz 1 rfl) (by omega) (by omega) h1 h2)) rfl ?_
  rintro _ w' a ⟨hx, rfl⟩ hF
  have hM := hM.ext hx
  refine st hF (g_assign hF rfl) rfl fun a hF => ?_
  refine wpList_nil ?_
  refine tN ?_
  refine sq ?_
  refine sq ?_
  refine wp_region_lit ?_
  refine st hF (g_move hF rfl) rfl fun a hF => st hF (g_eql hF rfl rfl) rfl fun a hF => st hF (g_move hF rfl) rfl fun a hF => ?_
  rw [show decide ((0 : Int) = 0) = true from by decide] at hF
  refine stY hF rfl rfl rfl (g_fieldAddr ty_fo_27_3 hF rfl) rfl fun a hF => stY hF rfl rfl rfl (g_load ty_on_2 hF rfl (hM.row 0 rfl) (tenC_3 (by omega))) rfl fun a hF => stY hF rfl rfl rfl (g_fieldAddr ty_fo_27_2 hF rfl) rfl fun a hF => stY hF rfl rfl rfl (g_load ty_on_2 hF rfl (hM.row 1 rfl) (tenC_2 (by omega))) rfl fun a hF => stY hF rfl rfl rfl (g_neq hF rfl rfl) rfl fun a hF => st hF (g_pickT hF rfl rfl) rfl fun a hF => ?_
  refine wpList_nil ?_
  refine tN ?_
  refine c_cond hF rfl (fun h4 => ?_) (fun h4 => ?_)
  ·
    first | exact absurd rfl h4 | (exfalso; omega)
  ·
    refine wp_skip ?_
    refine tN ?_
    refine sq ?_
    refine sq ?_
    refine wp_region_lit ?_
    refine st hF (g_move hF rfl) rfl fun a hF => st hF (g_eql hF rfl rfl) rfl fun a hF => ?_
    refine wpList_nil ?_
    refine tN ?_
    refine c_kT hF rfl (by decide) ?_
    refine wp_region_lit ?_
    refine st hF (g_fieldAddr ty_fo_27_0 hF rfl) rfl fun a hF => st hF (g_load ty_on_2 hF rfl (hM.row 0 rfl) (tenC_0 (by omega))) rfl fun a hF => st hF (g_fieldAddr ty_fo_27_1 hF rfl) rfl fun a hF => st hF (g_load ty_on_2 hF rfl (hM.row 0 rfl) (tenC_1 (by omega))) rfl fun a hF => st hF (g_fieldAddr ty_fo_27_2 hF rfl) rfl fun a hF => st hF (g_load ty_on_2 hF rfl (hM.row 0 rfl) (tenC_2 (by omega))) rfl fun a hF => st hF (g_fieldAddr ty_fo_27_3 hF rfl) rfl fun a hF => st hF (g_load ty_on_2 hF rfl (hM.row 1 rfl) (tenC_3 (by omega))) rfl fun a hF => ?_
    refine stR hF (d_call Try.call47 hF (.cons rfl (.cons rfl (.cons rfl (.cons rfl .nil)))) ((CallsR.val (l03Sizes_ok (((p : Nat) : Int)) (n) (i) (o) _ hpP (by omega) (by omega) (by omega) (by omega)) (congrArg (Value.int .i64) (if_pos hw))))) rfl ?_
    rintro _ w' a ⟨hx, rfl⟩ hF
    have hM := hM.ext hx
    refine st hF (g_assign hF rfl) rfl fun a hF => ?_
    refine wpList_nil ?_
    refine tN ?_
    refine sq ?_
    refine sq ?_
    refine wp_region_lit ?_
    refine st hF (g_move hF rfl) rfl fun a hF => st hF (g_neq hF rfl rfl) rfl fun a hF => ?_
    refine wpList_nil ?_
    refine tN ?_
    refine c_kF hF rfl (by decide) ?_
    refine wp_skip ?_
    refine tN ?_
    refine sq ?_
    refine wp_region_lit ?_
    refine st hF (g_loadAgg ty_ag_27 hF rfl (hM.row 0 rfl) (by simp only [fnC_size, cells_size, vecC_size, tabC_size, planeC_size, tenC_size, smC_size, numC_size, numI_size] <;> omega) (whole rfl)) rfl fun a hF => st hF (g_loadAgg ty_ag_27 hF rfl (hM.row 1 rfl) (by simp only [fnC_size, cells_size, vecC_size, tabC_size, planeC_size, tenC_size, smC_size, numC_size, numI_size] <;> omega) (whole rfl)) rfl fun a hF => ?_
    refine stR hF (d_call Try.call63 hF (.cons rfl (.cons rfl .nil)) (l03Compose_ok p n i l o b bz f h _ hpP hn0 hn hwa hwb hw hfp hhp (hM.fz 0 rfl) (hM.fz 1 rfl))) rfl ?_
    rintro _ w' a ⟨hx, b7, rfl, hge, hbk⟩ hF
    have hM := hM.fill hx 3 hbk hge
    change Mem w w' [some (b1, tenC (p : Int) (n : Int) (i : Int) (l : Int) (.slice (some ⟨b, 0, none⟩) (n ^ (i + l)) (n ^ (i + l)))), some (b2, tenC (p : Int) (n : Int) (l : Int) (o : Int) (.slice (some ⟨bz, 0, none⟩) (n ^ (l + o)) (n ^ (l + o)))), some (b3, tenC 0 0 0 0 (.slice none 0 0)), some (b7, numC (n ^ (i + o)) (cmpF p (n ^ o) (n ^ l) f h (n ^ i) 0))] [(b, numC (n ^ (i + l)) f), (bz, numC (n ^ (l + o)) h)] at hM
    refine stN hF (d_storeAgg 2 hM rfl ty_sz_27 hF rfl rfl (tenC_one rfl) (by simp only [fnC_size, cells_size, vecC_size, tabC_size, planeC_size, tenC_size, smC_size, numC_size, numI_size]) (by simp only [fnC_size, cells_size, vecC_size, tabC_size, planeC_size, tenC_size, smC_size, numC_size, numI_size] <;> omega) (splice_whole _ _ rfl)) ?_
    intro _ w' a hM hF
    change Mem w w' [some (b1, tenC (p : Int) (n : Int) (i : Int) (l : Int) (.slice (some ⟨b, 0, none⟩) (n ^ (i + l)) (n ^ (i + l)))), some (b2, tenC (p : Int) (n : Int) (l : Int) (o : Int) (.slice (some ⟨bz, 0, none⟩) (n ^ (l + o)) (n ^ (l + o)))), some (b3, tenC (p : Int) (n : Int) (i : Int) (o : Int) (.slice (some ⟨b7, 0, none⟩) (n ^ (i + o)) (n ^ (i + o)))), some (b7, numC (n ^ (i + o)) (cmpF p (n ^ o) (n ^ l) f h (n ^ i) 0))] [(b, numC (n ^ (i + l)) f), (bz, numC (n ^ (l + o)) h)] at hM
    refine st hF (g_assign hF rfl) rfl fun a hF => ?_
    refine wpList_nil ?_
    refine tN ?_
    refine wp_ret ?_
    refine fin2 rfl hF.defers (res_agg ty_ag_27 hF rfl (hM.row 2 rfl) (by simp only [fnC_size, cells_size, vecC_size, tabC_size, planeC_size, tenC_size, smC_size, numC_size, numI_size])) (res_tmp hF rfl) ⟨_, rfl, hM.below, ?_⟩
    exact ⟨_, rfl, hM.ge 3 rfl, hM.row 3 rfl⟩

end Go.Proofs.Ythliekalhgafcaa
