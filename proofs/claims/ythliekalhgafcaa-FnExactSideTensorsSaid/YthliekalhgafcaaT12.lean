/- What functions of the program return, as walks over their operations; no statement of the seat is proved here. -/
import Derived.Test.YthliekalhgafcaaT11
set_option linter.unusedVariables false
set_option linter.unusedSimpArgs false
namespace Go.Proofs.Ythliekalhgafcaa
open Go Go.RowKit Go.Sw Go.Ech
open Classical
/-- The place of the first factor, and of the second one, of a number of tensors side by side. -/
def sdI (B C D W c : Nat) : Nat := c / W / C * B + c % W / D
def sdJ (C D W c : Nat) : Nat := c / W % C * D + c % W % D
def sdF (p B C D W : Nat) (f h : Nat → Nat) (c : Nat) : Nat := f (sdI B C D W c) * h (sdJ C D W c) % p
def sdL (p B C D W : Nat) (f h : Nat → Nat) (N c : Nat) : Nat := if c < N then sdF p B C D W f h c else 0
def sdM (p B C D W : Nat) (f h : Nat → Nat) (i j c : Nat) : Nat := if sdI B C D W c < i ∨ (sdI B C D W c = i ∧ sdJ C D W c < j) then sdF p B C D W f h c else 0
theorem dm_div {x y K : Nat} (h : y < K) : (x * K + y) / K = x := (div_row (by omega)).2 ⟨by omega, by omega⟩
theorem dm_mod {x y K : Nat} (h : y < K) : (x * K + y) % K = y := by rw [mod_row (dm_div h)]; omega
section
variable {p B C D W i j c : Nat} {f h : Nat → Nat}
theorem sd_at (hB : 0 < B) (hC : 0 < C) (hD : 0 < D) (hW : W = B * D) (hj : j < C * D) : c = ((i / B * C + j / D) * B + i % B) * D + j % D ↔ sdI B C D W c = i ∧ sdJ C D W c = j := by
  have hW0 : 0 < W := by rw [hW]; exact Nat.mul_pos hB hD
  constructor
  · intro e
    have hjC : j / D < C := Nat.div_lt_of_lt_mul (by rw [Nat.mul_comm]; exact hj)
    have hiB := Nat.mod_lt i hB
    have hjD := Nat.mod_lt j hD
    have hlow : i % B * D + j % D < W := by
      have h1 : i % B * D + D ≤ B * D := by rw [← Nat.succ_mul]; exact Nat.mul_le_mul_right _ hiB
      omega
    have ec : c = (i / B * C + j / D) * W + (i % B * D + j % D) := by
      rw [e, hW, Nat.add_mul ((i / B * C + j / D) * B) (i % B) D, Nat.mul_assoc (i / B * C + j / D) B D]; omega
    have e1 : c / W = i / B * C + j / D := by rw [ec]; exact dm_div hlow
    have e2 : c % W = i % B * D + j % D := by rw [ec]; exact dm_mod hlow
    unfold sdI sdJ
    rw [e1, e2, dm_div hjC, dm_mod hjC, dm_div hjD, dm_mod hjD]
    have h3 := Nat.div_add_mod i B
    have h4 := Nat.div_add_mod j D
    rw [Nat.mul_comm] at h3 h4
    exact ⟨h3, h4⟩
  · rintro ⟨rfl, rfl⟩
    unfold sdI sdJ
    have hY : c % W / D < B := Nat.div_lt_of_lt_mul (by rw [Nat.mul_comm, ← hW]; exact Nat.mod_lt _ hW0)
    have hV := Nat.mod_lt (c % W) hD
    rw [dm_div hY, dm_mod hY, dm_div hV, dm_mod hV]
    have h1 := Nat.div_add_mod (c / W) C
    have h2 := Nat.div_add_mod (c % W) D
    have h3 := Nat.div_add_mod c W
    rw [Nat.mul_comm] at h1 h2 h3
    rw [h1, Nat.add_mul, Nat.mul_assoc, ← hW]
    omega
theorem sdF_lt (hp : 0 < p) : sdF p B C D W f h c < p := Nat.mod_lt _ hp
theorem sdL_lt {N : Nat} (hp : 0 < p) : sdL p B C D W f h N c < p := by
  unfold sdL; split
  · exact sdF_lt hp
  · exact hp
theorem sdL_step {o L x : Nat} {h' : Nat → Nat} (hD : 0 < D) (hjB : j < B) (hW : W = B * D) (ho : o = i * W + j * D) (hL : L = D) (hx : x = f (i / C * B + j)) (hh : ∀ q, h' q = h (i % C * D + q)) :
    (if o ≤ c ∧ c < o + L then (sdL p B C D W f h (i * W + j * D) c + x * h' (c - o)) % p else sdL p B C D W f h (i * W + j * D) c) = sdL p B C D W f h (i * W + (j + 1) * D) c := by
  have e0 : (j + 1) * D = j * D + D := Nat.succ_mul j D
  have hjD : j * D + D ≤ W := by rw [hW, ← Nat.succ_mul]; exact Nat.mul_le_mul_right _ hjB
  have hW0 : 0 < W := by omega
  rw [e0]
  unfold sdL
  by_cases e : o ≤ c ∧ c < o + L
  · rw [if_pos e, if_neg (by omega), if_pos (by omega), hh, hx, Nat.zero_add]
    have e1 : c / W = i := (div_row hW0).2 ⟨by omega, by omega⟩
    have e2 : c % W = j * D + (c - o) := by rw [mod_row e1]; omega
    unfold sdF sdI sdJ
    rw [e1, e2, dm_div (show c - o < D by omega), dm_mod (show c - o < D by omega)]
  · rw [if_neg e]
    have e1 : (c < i * W + (j * D + D)) = (c < i * W + j * D) := by apply propext; omega
    simp only [e1]
theorem sdL_row (hW : W = B * D) : sdL p B C D W f h (i * W + B * D) c = sdL p B C D W f h ((i + 1) * W) c := by
  rw [← hW, ← Nat.succ_mul]
theorem sdM_step {a x y : Nat} (hB : 0 < B) (hC : 0 < C) (hD : 0 < D) (hW : W = B * D) (hj : j < C * D) (ha : a = ((i / B * C + j / D) * B + i % B) * D + j % D) (hx : x = f i) (hy : y = h j) :
    (if c = a then x * y % p else sdM p B C D W f h i j c) = sdM p B C D W f h i (j + 1) c := by
  subst ha hx hy
  by_cases e : c = ((i / B * C + j / D) * B + i % B) * D + j % D
  · rw [if_pos e]
    obtain ⟨h1, h2⟩ := (sd_at hB hC hD hW hj).1 e
    unfold sdM sdF
    rw [h1, h2, if_pos (by omega)]
  · rw [if_neg e]
    have h1 : ¬ (sdI B C D W c = i ∧ sdJ C D W c = j) := fun q => e ((sd_at hB hC hD hW hj).2 q)
    unfold sdM
    have h2 : (sdI B C D W c < i ∨ (sdI B C D W c = i ∧ sdJ C D W c < j + 1)) = (sdI B C D W c < i ∨ (sdI B C D W c = i ∧ sdJ C D W c < j)) := by apply propext; omega
    simp only [h2]
theorem sdM_0 : sdM p B C D W f h 0 0 c = 0 := by unfold sdM; rw [if_neg (by omega)]
theorem sdJ_lt (hD : 0 < D) (hC : 0 < C) : sdJ C D W c < C * D := by
  unfold sdJ
  have h1 := Nat.mod_lt (c / W) hC
  have h2 := Nat.mod_lt (c % W) hD
  have h3 : c / W % C * D + D ≤ C * D := by rw [← Nat.succ_mul]; exact Nat.mul_le_mul_right _ h1
  omega
theorem sdM_row (hD : 0 < D) (hC : 0 < C) : sdM p B C D W f h i (C * D) c = sdM p B C D W f h (i + 1) 0 c := by
  have := sdJ_lt (W := W) (c := c) hD hC
  unfold sdM
  have h2 : (sdI B C D W c < i ∨ (sdI B C D W c = i ∧ sdJ C D W c < C * D)) = (sdI B C D W c < i + 1 ∨ (sdI B C D W c = i + 1 ∧ sdJ C D W c < 0)) := by apply propext; omega
  simp only [h2]
theorem sdM_all {A : Nat} (hB : 0 < B) (hD : 0 < D) (hW : W = B * D) (hc : c < A * C * W) : sdM p B C D W f h (A * B) 0 c = sdF p B C D W f h c := by
  have hW0 : 0 < W := by rw [hW]; exact Nat.mul_pos hB hD
  unfold sdM
  rw [if_pos]
  left
  unfold sdI
  have h1 : c / W < A * C := Nat.div_lt_of_lt_mul (by rw [Nat.mul_comm]; exact hc)
  have h2 : c / W / C < A := Nat.div_lt_of_lt_mul (by rw [Nat.mul_comm]; exact h1)
  have h3 : c % W / D < B := Nat.div_lt_of_lt_mul (by rw [Nat.mul_comm, ← hW]; exact Nat.mod_lt _ hW0)
  have h4 : c / W / C * B + B ≤ A * B := by rw [← Nat.succ_mul]; exact Nat.mul_le_mul_right _ h2
  omega
end
theorem div_pow {n i r a : Nat} (h : a < n ^ (i + r)) : a / n ^ r < n ^ i := Nat.div_lt_of_lt_mul (by rw [Nat.mul_comm, ← Nat.pow_add]; exact h)

theorem SideTensorsIA (p n i o p2 n2 i2 o2 : Int) (b bz m m2 : Nat) (g g2 : Nat → Int) (w : World) (hb : Blk w b (numI m g)) (hbz : Blk w bz (numI m2 g2)) (hm : m < 10000000) (hm2 : m2 < 10000000) (hA : ¬ (TenP p n i o m g ∧ TenP p2 n2 i2 o2 m2 g2)) :
    CallsR Try.prog 32 #[.agg (tenC p n i o (.slice (some ⟨b, 0, none⟩) m m)), .agg (tenC p2 n2 i2 o2 (.slice (some ⟨bz, 0, none⟩) m2 m2))] w (fun res _ => res = .tuple #[.agg (tenC 0 0 0 0 (.slice none 0 0)), .int .i64 1]) := by
  refine calls_fr [.agg (tenC p n i o (.slice (some ⟨b, 0, none⟩) m m)), .agg (tenC p2 n2 i2 o2 (.slice (some ⟨bz, 0, none⟩) m2 m2))] Try.func32 rfl Try.ntmps32 rfl fun a hF => ?_
  have hM : Mem w w [none, none, none, none, none] [(b, numI m g), (bz, numI m2 g2)] := MemX.startD w 5 _ (startD2 hb hbz)
  change Fr 99 a [(0, .agg (tenC p n i o (.slice (some ⟨b, 0, none⟩) m m))), (1, .agg (tenC p2 n2 i2 o2 (.slice (some ⟨bz, 0, none⟩) m2 m2)))] at hF
  refine sq ?_
  refine wp_region_lit ?_
  refine stR hF (d_box 0 hM hF rfl) rfl ?_
  rintro _ w' a ⟨b1, rfl, hM, -⟩ hF
  change Mem w w' [some (b1, tenC p n i o (.slice (some ⟨b, 0, none⟩) m m)), none, none, none, none] [(b, numI m g), (bz, numI m2 g2)] at hM
  refine stR hF (d_box 1 hM hF rfl) rfl ?_
  rintro _ w' a ⟨b2, rfl, hM, -⟩ hF
  change Mem w w' [some (b1, tenC p n i o (.slice (some ⟨b, 0, none⟩) m m)), some (b2, tenC p2 n2 i2 o2 (.slice (some ⟨bz, 0, none⟩) m2 m2)), none, none, none] [(b, numI m g), (bz, numI m2 g2)] at hM
  refine stR hF (d_alloc 2 hM ty_ze_27) rfl ?_
  rintro _ w' a ⟨b3, rfl, hM, -⟩ hF
  change Mem w w' [some (b1, tenC p n i o (.slice (some ⟨b, 0, none⟩) m m)), some (b2, tenC p2 n2 i2 o2 (.slice (some ⟨bz, 0, none⟩) m2 m2)), some (b3, tenC 0 0 0 0 (.slice none 0 0)), none, none] [(b, numI m g), (bz, numI m2 g2)] at hM
  refine st hF (g_assign hF rfl) rfl fun a hF => ?_
  refine wpList_nil ?_
  refine tN ?_
  refine sq ?_
  refine wp_region_lit ?_
  refine st hF (g_loadAgg ty_ag_27 hF rfl (hM.row 0 rfl) (by simp only [fnC_size, cells_size, vecC_size, tabC_size, planeC_size, tenC_size, smC_size, numC_size, numI_size] <;> omega) (whole rfl)) rfl fun a hF => st hF (g_loadAgg ty_ag_27 hF rfl (hM.row 1 rfl) (by simp only [fnC_size, cells_size, vecC_size, tabC_size, planeC_size, tenC_size, smC_size, numC_size, numI_size] <;> omega) (whole rfl)) rfl fun a hF => ?_
  refine stR hF (d_call Try.call64 hF (.cons rfl (.cons rfl (.cons rfl .nil))) (pairFault_A p n i o p2 n2 i2 o2 b bz m m2 g g2 ((true)) _ (hM.fz 0 rfl) (hM.fz 1 rfl) (by omega) (by omega) hA)) rfl ?_
  rintro _ w' a ⟨hx, rfl⟩ hF
  have hM := hM.ext hx
  refine st hF (g_assign hF rfl) rfl fun a hF => ?_
  refine wpList_nil ?_
  refine tN ?_
  refine sq ?_
  refine sq ?_
  refine wp_region_lit ?_
  refine st hF (g_move hF rfl) rfl fun a hF => st hF (g_neq hF rfl rfl) rfl fun a hF => ?_
  refine wpList_nil ?_
  refine tN ?_
  refine c_kT hF rfl (by decide) ?_
  refine sq ?_
  refine wp_region_lit ?_
  refine st hF (g_build0 ty_bu_27) rfl fun a hF => st hF (g_move hF rfl) rfl fun a hF => ?_
  refine stN hF (d_storeAgg 2 hM rfl ty_sz_27 hF rfl rfl (tenC_one rfl) (by simp only [fnC_size, cells_size, vecC_size, tabC_size, planeC_size, tenC_size, smC_size, numC_size, numI_size]) (by simp only [fnC_size, cells_size, vecC_size, tabC_size, planeC_size, tenC_size, smC_size, numC_size, numI_size] <;> omega) (splice_whole _ _ rfl)) ?_
  intro _ w' a hM hF
  change Mem w w' [some (b1, tenC p n i o (.slice (some ⟨b, 0, none⟩) m m)), some (b2, tenC p2 n2 i2 o2 (.slice (some ⟨bz, 0, none⟩) m2 m2)), some (b3, tenC 0 0 0 0 (.slice none 0 0)), none, none] [(b, numI m g), (bz, numI m2 g2)] at hM
  refine st hF (g_assign hF rfl) rfl fun a hF => ?_
  refine wpList_nil ?_
  refine tN ?_
  refine wp_ret ?_
  refine tR ?_
  refine fin2 rfl hF.defers (res_agg ty_ag_27 hF rfl (hM.row 2 rfl) (by simp only [fnC_size, cells_size, vecC_size, tabC_size, planeC_size, tenC_size, smC_size, numC_size, numI_size])) (res_tmp hF rfl) ⟨_, rfl, hM.below, ?_⟩
  show _ = _
  rfl

theorem SideTensorsIR1 (p n i o p2 n2 i2 o2 : Int) (b bz m m2 : Nat) (g g2 : Nat → Int) (w : World) (hb : Blk w b (numI m g)) (hbz : Blk w bz (numI m2 g2)) (hm : m < 10000000) (hm2 : m2 < 10000000) (h1 : TenP p n i o m g) (h2 : TenP p2 n2 i2 o2 m2 g2) (hR : ¬ (p = p2 ∧ n = n2)) :
    CallsR Try.prog 32 #[.agg (tenC p n i o (.slice (some ⟨b, 0, none⟩) m m)), .agg (tenC p2 n2 i2 o2 (.slice (some ⟨bz, 0, none⟩) m2 m2))] w (fun res _ => res = .tuple #[.agg (tenC 0 0 0 0 (.slice none 0 0)), .int .i64 2]) := by
  refine calls_fr [.agg (tenC p n i o (.slice (some ⟨b, 0, none⟩) m m)), .agg (tenC p2 n2 i2 o2 (.slice (some ⟨bz, 0, none⟩) m2 m2))] Try.func32 rfl Try.ntmps32 rfl fun a hF => ?_
  have hM : Mem w w [none, none, none, none, none] [(b, numI m g), (bz, numI m2 g2)] := MemX.startD w 5 _ (startD2 hb hbz)
  change Fr 99 a [(0, .agg (tenC p n i o (.slice (some ⟨b, 0, none⟩) m m))), (1, .agg (tenC p2 n2 i2 o2 (.slice (some ⟨bz, 0, none⟩) m2 m2)))] at hF
  refine sq ?_
  refine wp_region_lit ?_
  refine stR hF (d_box 0 hM hF rfl) rfl ?_
  rintro _ w' a ⟨b1, rfl, hM, -⟩ hF
  change Mem w w' [some (b1, tenC p n i o (.slice (some ⟨b, 0, none⟩) m m)), none, none, none, none] [(b, numI m g), (bz, numI m2 g2)] at hM
  refine stR hF (d_box 1 hM hF rfl) rfl ?_
  rintro _ w' a ⟨b2, rfl, hM, -⟩ hF
  change Mem w w' [some (b1, tenC p n i o (.slice (some ⟨b, 0, none⟩) m m)), some (b2, tenC p2 n2 i2 o2 (.slice (some ⟨bz, 0, none⟩) m2 m2)), none, none, none] [(b, numI m g), (bz, numI m2 g2)] at hM
  refine stR hF (d_alloc 2 hM ty_ze_27) rfl ?_
  rintro _ w' a ⟨b3, rfl, hM, -⟩ hF
  change Mem w w' [some (b1, tenC p n i o (.slice (some ⟨b, 0, none⟩) m m)), some (b2, tenC p2 n2 i2 o2 (.slice (some ⟨bz, 0, none⟩) m2 m2)), some (b3, tenC 0 0 0 0 (.slice none 0 0)), none, none] [(b, numI m g), (bz, numI m2 g2)] at hM
  refine st hF (g_assign hF rfl) rfl fun a hF => ?_
  refine wpList_nil ?_
  refine tN ?_
  refine sq ?_
  refine wp_region_lit ?_
  refine st hF (g_loadAgg ty_ag_27 hF rfl (hM.row 0 rfl) (by simp only [fnC_size, cells_size, vecC_size, tabC_size, planeC_size, tenC_size, smC_size, numC_size, numI_size] <;> omega) (whole rfl)) rfl fun a hF => st hF (g_loadAgg ty_ag_27 hF rfl (hM.row 1 rfl) (by simp only [fnC_size, cells_size, vecC_size, tabC_size, planeC_size, tenC_size, smC_size, numC_size, numI_size] <;> omega) (whole rfl)) rfl fun a hF => ?_
  refine stR hF (d_call Try.call64 hF (.cons rfl (.cons rfl (.cons rfl .nil))) (pairFault_R p n i o p2 n2 i2 o2 b bz m m2 g g2 ((true)) _ (hM.fz 0 rfl) (hM.fz 1 rfl) (by omega) (by omega) h1 h2 (fun q => hR ⟨q.1, q.2.1⟩))) rfl ?_
  rintro _ w' a ⟨hx, rfl⟩ hF
  have hM := hM.ext hx
  refine st hF (g_assign hF rfl) rfl fun a hF => ?_
  refine wpList_nil ?_
  refine tN ?_
  refine sq ?_
  refine sq ?_
  refine wp_region_lit ?_
  refine st hF (g_move hF rfl) rfl fun a hF => st hF (g_neq hF rfl rfl) rfl fun a hF => ?_
  refine wpList_nil ?_
  refine tN ?_
  refine c_kT hF rfl (by decide) ?_
  refine sq ?_
  refine wp_region_lit ?_
  refine st hF (g_build0 ty_bu_27) rfl fun a hF => st hF (g_move hF rfl) rfl fun a hF => ?_
  refine stN hF (d_storeAgg 2 hM rfl ty_sz_27 hF rfl rfl (tenC_one rfl) (by simp only [fnC_size, cells_size, vecC_size, tabC_size, planeC_size, tenC_size, smC_size, numC_size, numI_size]) (by simp only [fnC_size, cells_size, vecC_size, tabC_size, planeC_size, tenC_size, smC_size, numC_size, numI_size] <;> omega) (splice_whole _ _ rfl)) ?_
  intro _ w' a hM hF
  change Mem w w' [some (b1, tenC p n i o (.slice (some ⟨b, 0, none⟩) m m)), some (b2, tenC p2 n2 i2 o2 (.slice (some ⟨bz, 0, none⟩) m2 m2)), some (b3, tenC 0 0 0 0 (.slice none 0 0)), none, none] [(b, numI m g), (bz, numI m2 g2)] at hM
  refine st hF (g_assign hF rfl) rfl fun a hF => ?_
  refine wpList_nil ?_
  refine tN ?_
  refine wp_ret ?_
  refine tR ?_
  refine fin2 rfl hF.defers (res_agg ty_ag_27 hF rfl (hM.row 2 rfl) (by simp only [fnC_size, cells_size, vecC_size, tabC_size, planeC_size, tenC_size, smC_size, numC_size, numI_size])) (res_tmp hF rfl) ⟨_, rfl, hM.below, ?_⟩
  show _ = _
  rfl

theorem SideTensorsSA (p n i o p2 n2 i2 o2 : Int) (b bz m m2 : Nat) (g g2 : Nat → Int) (w : World) (hb : Blk w b (numI m g)) (hbz : Blk w bz (numI m2 g2)) (hm : m < 10000000) (hm2 : m2 < 10000000) (hA : ¬ (TenP p n i o m g ∧ TenP p2 n2 i2 o2 m2 g2)) :
    CallsR Try.prog 31 #[.agg (tenC p n i o (.slice (some ⟨b, 0, none⟩) m m)), .agg (tenC p2 n2 i2 o2 (.slice (some ⟨bz, 0, none⟩) m2 m2))] w (fun res _ => res = .tuple #[.agg (tenC 0 0 0 0 (.slice none 0 0)), .int .i64 1]) := by
  refine calls_fr [.agg (tenC p n i o (.slice (some ⟨b, 0, none⟩) m m)), .agg (tenC p2 n2 i2 o2 (.slice (some ⟨bz, 0, none⟩) m2 m2))] Try.func31 rfl Try.ntmps31 rfl fun a hF => ?_
  have hM : Mem w w [none, none, none] [(b, numI m g), (bz, numI m2 g2)] := MemX.startD w 3 _ (startD2 hb hbz)
  change Fr 34 a [(0, .agg (tenC p n i o (.slice (some ⟨b, 0, none⟩) m m))), (1, .agg (tenC p2 n2 i2 o2 (.slice (some ⟨bz, 0, none⟩) m2 m2)))] at hF
  refine sq ?_
  refine wp_region_lit ?_
  refine stR hF (d_box 0 hM hF rfl) rfl ?_
  rintro _ w' a ⟨b1, rfl, hM, -⟩ hF
  change Mem w w' [some (b1, tenC p n i o (.slice (some ⟨b, 0, none⟩) m m)), none, none] [(b, numI m g), (bz, numI m2 g2)] at hM
  refine stR hF (d_box 1 hM hF rfl) rfl ?_
  rintro _ w' a ⟨b2, rfl, hM, -⟩ hF
  change Mem w w' [some (b1, tenC p n i o (.slice (some ⟨b, 0, none⟩) m m)), some (b2, tenC p2 n2 i2 o2 (.slice (some ⟨bz, 0, none⟩) m2 m2)), none] [(b, numI m g), (bz, numI m2 g2)] at hM
  refine stR hF (d_alloc 2 hM ty_ze_27) rfl ?_
  rintro _ w' a ⟨b3, rfl, hM, -⟩ hF
  change Mem w w' [some (b1, tenC p n i o (.slice (some ⟨b, 0, none⟩) m m)), some (b2, tenC p2 n2 i2 o2 (.slice (some ⟨bz, 0, none⟩) m2 m2)), some (b3, tenC 0 0 0 0 (.slice none 0 0))] [(b, numI m g), (bz, numI m2 g2)] at hM
  refine st hF (g_assign hF rfl) rfl fun a hF => ?_
  refine wpList_nil ?_
  refine tN ?_
  refine sq ?_
  refine wp_region_lit ?_
  refine st hF (g_loadAgg ty_ag_27 hF rfl (hM.row 0 rfl) (by simp only [fnC_size, cells_size, vecC_size, tabC_size, planeC_size, tenC_size, smC_size, numC_size, numI_size] <;> omega) (whole rfl)) rfl fun a hF => st hF (g_loadAgg ty_ag_27 hF rfl (hM.row 1 rfl) (by simp only [fnC_size, cells_size, vecC_size, tabC_size, planeC_size, tenC_size, smC_size, numC_size, numI_size] <;> omega) (whole rfl)) rfl fun a hF => ?_
  refine stR hF (d_call Try.call62 hF (.cons rfl (.cons rfl .nil)) (l03Two_A p n i o p2 n2 i2 o2 b bz m m2 g g2 _ (hM.fz 0 rfl) (hM.fz 1 rfl) (by omega) (by omega) hA)) rfl ?_
  rintro _ w' a ⟨hx, rfl⟩ hF
  have hM := hM.ext hx
  refine st hF (g_assign hF rfl) rfl fun a hF => ?_
  refine wpList_nil ?_
  refine tN ?_
  refine sq ?_
  refine sq ?_
  refine wp_region_lit ?_
  refine st hF (g_move hF rfl) rfl fun a hF => st hF (g_eql hF rfl rfl) rfl fun a hF => ?_
  refine wpList_nil ?_
  refine tN ?_
  refine c_kF hF rfl (by decide) ?_
  refine wp_skip ?_
  refine tN ?_
  refine sq ?_
  refine sq ?_
  refine wp_region_lit ?_
  refine st hF (g_move hF rfl) rfl fun a hF => st hF (g_neq hF rfl rfl) rfl fun a hF => ?_
  refine wpList_nil ?_
  refine tN ?_
  refine c_kT hF rfl (by decide) ?_
  refine sq ?_
  refine wp_region_lit ?_
  refine st hF (g_build0 ty_bu_27) rfl fun a hF => st hF (g_move hF rfl) rfl fun a hF => ?_
  refine stN hF (d_storeAgg 2 hM rfl ty_sz_27 hF rfl rfl (tenC_one rfl) (by simp only [fnC_size, cells_size, vecC_size, tabC_size, planeC_size, tenC_size, smC_size, numC_size, numI_size]) (by simp only [fnC_size, cells_size, vecC_size, tabC_size, planeC_size, tenC_size, smC_size, numC_size, numI_size] <;> omega) (splice_whole _ _ rfl)) ?_
  intro _ w' a hM hF
  change Mem w w' [some (b1, tenC p n i o (.slice (some ⟨b, 0, none⟩) m m)), some (b2, tenC p2 n2 i2 o2 (.slice (some ⟨bz, 0, none⟩) m2 m2)), some (b3, tenC 0 0 0 0 (.slice none 0 0))] [(b, numI m g), (bz, numI m2 g2)] at hM
  refine st hF (g_assign hF rfl) rfl fun a hF => ?_
  refine wpList_nil ?_
  refine tN ?_
  refine wp_ret ?_
  refine tR ?_
  refine fin2 rfl hF.defers (res_agg ty_ag_27 hF rfl (hM.row 2 rfl) (by simp only [fnC_size, cells_size, vecC_size, tabC_size, planeC_size, tenC_size, smC_size, numC_size, numI_size])) (res_tmp hF rfl) ⟨_, rfl, hM.below, ?_⟩
  show _ = _
  rfl

theorem SideTensorsSR1 (p n i o p2 n2 i2 o2 : Int) (b bz m m2 : Nat) (g g2 : Nat → Int) (w : World) (hb : Blk w b (numI m g)) (hbz : Blk w bz (numI m2 g2)) (hm : m < 10000000) (hm2 : m2 < 10000000) (h1 : TenP p n i o m g) (h2 : TenP p2 n2 i2 o2 m2 g2) (hR : ¬ (p = p2 ∧ n = n2)) :
    CallsR Try.prog 31 #[.agg (tenC p n i o (.slice (some ⟨b, 0, none⟩) m m)), .agg (tenC p2 n2 i2 o2 (.slice (some ⟨bz, 0, none⟩) m2 m2))] w (fun res _ => res = .tuple #[.agg (tenC 0 0 0 0 (.slice none 0 0)), .int .i64 2]) := by
  refine calls_fr [.agg (tenC p n i o (.slice (some ⟨b, 0, none⟩) m m)), .agg (tenC p2 n2 i2 o2 (.slice (some ⟨bz, 0, none⟩) m2 m2))] Try.func31 rfl Try.ntmps31 rfl fun a hF => ?_
  have hM : Mem w w [none, none, none] [(b, numI m g), (bz, numI m2 g2)] := MemX.startD w 3 _ (startD2 hb hbz)
  change Fr 34 a [(0, .agg (tenC p n i o (.slice (some ⟨b, 0, none⟩) m m))), (1, .agg (tenC p2 n2 i2 o2 (.slice (some ⟨bz, 0, none⟩) m2 m2)))] at hF
  refine sq ?_
  refine wp_region_lit ?_
  refine stR hF (d_box 0 hM hF rfl) rfl ?_
  rintro _ w' a ⟨b1, rfl, hM, -⟩ hF
  change Mem w w' [some (b1, tenC p n i o (.slice (some ⟨b, 0, none⟩) m m)), none, none] [(b, numI m g), (bz, numI m2 g2)] at hM
  refine stR hF (d_box 1 hM hF rfl) rfl ?_
  rintro _ w' a ⟨b2, rfl, hM, -⟩ hF
  change Mem w w' [some (b1, tenC p n i o (.slice (some ⟨b, 0, none⟩) m m)), some (b2, tenC p2 n2 i2 o2 (.slice (some ⟨bz, 0, none⟩) m2 m2)), none] [(b, numI m g), (bz, numI m2 g2)] at hM
  refine stR hF (d_alloc 2 hM ty_ze_27) rfl ?_
  rintro _ w' a ⟨b3, rfl, hM, -⟩ hF
  change Mem w w' [some (b1, tenC p n i o (.slice (some ⟨b, 0, none⟩) m m)), some (b2, tenC p2 n2 i2 o2 (.slice (some ⟨bz, 0, none⟩) m2 m2)), some (b3, tenC 0 0 0 0 (.slice none 0 0))] [(b, numI m g), (bz, numI m2 g2)] at hM
  refine st hF (g_assign hF rfl) rfl fun a hF => ?_
  refine wpList_nil ?_
  refine tN ?_
  refine sq ?_
  refine wp_region_lit ?_
  refine st hF (g_loadAgg ty_ag_27 hF rfl (hM.row 0 rfl) (by simp only [fnC_size, cells_size, vecC_size, tabC_size, planeC_size, tenC_size, smC_size, numC_size, numI_size] <;> omega) (whole rfl)) rfl fun a hF => st hF (g_loadAgg ty_ag_27 hF rfl (hM.row 1 rfl) (by simp only [fnC_size, cells_size, vecC_size, tabC_size, planeC_size, tenC_size, smC_size, numC_size, numI_size] <;> omega) (whole rfl)) rfl fun a hF => ?_
  refine stR hF (d_call Try.call62 hF (.cons rfl (.cons rfl .nil)) (l03Two_R p n i o p2 n2 i2 o2 b bz m m2 g g2 _ (hM.fz 0 rfl) (hM.fz 1 rfl) (by omega) (by omega) h1 h2 hR)) rfl ?_
  rintro _ w' a ⟨hx, rfl⟩ hF
  have hM := hM.ext hx
  refine st hF (g_assign hF rfl) rfl fun a hF => ?_
  refine wpList_nil ?_
  refine tN ?_
  refine sq ?_
  refine sq ?_
  refine wp_region_lit ?_
  refine st hF (g_move hF rfl) rfl fun a hF => st hF (g_eql hF rfl rfl) rfl fun a hF => ?_
  refine wpList_nil ?_
  refine tN ?_
  refine c_kF hF rfl (by decide) ?_
  refine wp_skip ?_
  refine tN ?_
  refine sq ?_
  refine sq ?_
  refine wp_region_lit ?_
  refine st hF (g_move hF rfl) rfl fun a hF => st hF (g_neq hF rfl rfl) rfl fun a hF => ?_
  refine wpList_nil ?_
  refine tN ?_
  refine c_kT hF rfl (by decide) ?_
  refine sq ?_
  refine wp_region_lit ?_
  refine st hF (g_build0 ty_bu_27) rfl fun a hF => st hF (g_move hF rfl) rfl fun a hF => ?_
  refine stN hF (d_storeAgg 2 hM rfl ty_sz_27 hF rfl rfl (tenC_one rfl) (by simp only [fnC_size, cells_size, vecC_size, tabC_size, planeC_size, tenC_size, smC_size, numC_size, numI_size]) (by simp only [fnC_size, cells_size, vecC_size, tabC_size, planeC_size, tenC_size, smC_size, numC_size, numI_size] <;> omega) (splice_whole _ _ rfl)) ?_
  intro _ w' a hM hF
  change Mem w w' [some (b1, tenC p n i o (.slice (some ⟨b, 0, none⟩) m m)), some (b2, tenC p2 n2 i2 o2 (.slice (some ⟨bz, 0, none⟩) m2 m2)), some (b3, tenC 0 0 0 0 (.slice none 0 0))] [(b, numI m g), (bz, numI m2 g2)] at hM
  refine st hF (g_assign hF rfl) rfl fun a hF => ?_
  refine wpList_nil ?_
  refine tN ?_
  refine wp_ret ?_
  refine tR ?_
  refine fin2 rfl hF.defers (res_agg ty_ag_27 hF rfl (hM.row 2 rfl) (by simp only [fnC_size, cells_size, vecC_size, tabC_size, planeC_size, tenC_size, smC_size, numC_size, numI_size])) (res_tmp hF rfl) ⟨_, rfl, hM.below, ?_⟩
  show _ = _
  rfl

theorem SideTensorsIL (p n i o r s b bz : Nat) (f h : Nat → Nat) (w : World) (hpP : primeP (p : Int)) (hn0 : 0 < n) (hn : n ≤ 6) (hwa : wl n i o) (hwb : wl n r s) (hw : ¬ wl n (i + r) (o + s)) (hfp : ∀ c, f c < p) (hhp : ∀ c, h c < p) (hb : Blk w b (numC (n ^ (i + o)) f)) (hbz : Blk w bz (numC (n ^ (r + s)) h)) :
    CallsR Try.prog 32 #[.agg (tenC (p : Int) (n : Int) (i : Int) (o : Int) (.slice (some ⟨b, 0, none⟩) (n ^ (i + o)) (n ^ (i + o)))), .agg (tenC (p : Int) (n : Int) (r : Int) (s : Int) (.slice (some ⟨bz, 0, none⟩) (n ^ (r + s)) (n ^ (r + s))))] w (fun res _ => res = .tuple #[.agg (tenC 0 0 0 0 (.slice none 0 0)), .int .i64 3]) := by
  refine calls_fr [.agg (tenC (p : Int) (n : Int) (i : Int) (o : Int) (.slice (some ⟨b, 0, none⟩) (n ^ (i + o)) (n ^ (i + o)))), .agg (tenC (p : Int) (n : Int) (r : Int) (s : Int) (.slice (some ⟨bz, 0, none⟩) (n ^ (r + s)) (n ^ (r + s))))] Try.func32 rfl Try.ntmps32 rfl fun a hF => ?_
  have hM : Mem w w [none, none, none, none, none] [(b, numC (n ^ (i + o)) f), (bz, numC (n ^ (r + s)) h)] := MemX.startD w 5 _ (startD2 hb hbz)
  change Fr 99 a [(0, .agg (tenC (p : Int) (n : Int) (i : Int) (o : Int) (.slice (some ⟨b, 0, none⟩) (n ^ (i + o)) (n ^ (i + o))))), (1, .agg (tenC (p : Int) (n : Int) (r : Int) (s : Int) (.slice (some ⟨bz, 0, none⟩) (n ^ (r + s)) (n ^ (r + s)))))] at hF
  have hp0 : 0 < p := by have h := hpP; unfold primeP at h; omega
  have hp2 : p < 100 := by have h := hpP; unfold primeP at h; omega
  have hwa3 := hwa.2.2
  have hwb3 := hwb.2.2
  have hwa1 := hwa.1
  have hwa2 := hwa.2.1
  have hwb1 := hwb.1
  have hwb2 := hwb.2.1
  have h1 := TenP.of_nat hpP hn0 hn hwa rfl hfp
  have h2 := TenP.of_nat hpP hn0 hn hwb rfl hhp
  refine sq ?_
  refine wp_region_lit ?_
  refine stR hF (d_box 0 hM hF rfl) rfl ?_
  rintro _ w' a ⟨b1, rfl, hM, -⟩ hF
  change Mem w w' [some (b1, tenC (p : Int) (n : Int) (i : Int) (o : Int) (.slice (some ⟨b, 0, none⟩) (n ^ (i + o)) (n ^ (i + o)))), none, none, none, none] [(b, numC (n ^ (i + o)) f), (bz, numC (n ^ (r + s)) h)] at hM
  refine stR hF (d_box 1 hM hF rfl) rfl ?_
  rintro _ w' a ⟨b2, rfl, hM, -⟩ hF
  change Mem w w' [some (b1, tenC (p : Int) (n : Int) (i : Int) (o : Int) (.slice (some ⟨b, 0, none⟩) (n ^ (i + o)) (n ^ (i + o)))), some (b2, tenC (p : Int) (n : Int) (r : Int) (s : Int) (.slice (some ⟨bz, 0, none⟩) (n ^ (r + s)) (n ^ (r + s)))), none, none, none] [(b, numC (n ^ (i + o)) f), (bz, numC (n ^ (r + s)) h)] at hM
  refine stR hF (d_alloc 2 hM ty_ze_27) rfl ?_
  rintro _ w' a ⟨b3, rfl, hM, -⟩ hF
  change Mem w w' [some (b1, tenC (p : Int) (n : Int) (i : Int) (o : Int) (.slice (some ⟨b, 0, none⟩) (n ^ (i + o)) (n ^ (i + o)))), some (b2, tenC (p : Int) (n : Int) (r : Int) (s : Int) (.slice (some ⟨bz, 0, none⟩) (n ^ (r + s)) (n ^ (r + s)))), some (b3, tenC 0 0 0 0 (.slice none 0 0)), none, none] [(b, numC (n ^ (i + o)) f), (bz, numC (n ^ (r + s)) h)] at hM
  refine st hF (g_assign hF rfl) rfl fun a hF => ?_
  refine wpList_nil ?_
  refine tN ?_
  refine sq ?_
  refine wp_region_lit ?_
  refine st hF (g_loadAgg ty_ag_27 hF rfl (hM.row 0 rfl) (by simp only [fnC_size, cells_size, vecC_size, tabC_size, planeC_size, tenC_size, smC_size, numC_size, numI_size] <;> omega) (whole rfl)) rfl fun a hF => st hF (g_loadAgg ty_ag_27 hF rfl (hM.row 1 rfl) (by simp only [fnC_size, cells_size, vecC_size, tabC_size, planeC_size, tenC_size, smC_size, numC_size, numI_size] <;> omega) (whole rfl)) rfl fun a hF => ?_
  refine stR hF (d_call Try.call64 hF (.cons rfl (.cons rfl (.cons rfl .nil))) (pairFault_ok (p : Int) (n : Int) (i : Int) (o : Int) (r : Int) (s : Int) b bz (n ^ (i + o)) (n ^ (r + s)) (fun c => ((f c : Nat) : Int)) (fun c => ((h c : Nat) : Int)) ((true)) _ (hM.fz 0 rfl) (hM.fz 1 rfl) (by omega) (by omega) h1 h2 (by first | rfl | exact decide_eq_true (by omega)))) rfl ?_
  rintro _ w' a ⟨hx, rfl⟩ hF
  have hM := hM.ext hx
  refine st hF (g_assign hF rfl) rfl fun a hF => ?_
  refine wpList_nil ?_
  refine tN ?_
  refine sq ?_
  refine sq ?_
  refine wp_region_lit ?_
  refine st hF (g_move hF rfl) rfl fun a hF => st hF (g_neq hF rfl rfl) rfl fun a hF => ?_
  refine wpList_nil ?_
  refine tN ?_
  refine c_kF hF rfl (by decide) ?_
  refine wp_skip ?_
  refine tN ?_
  refine sq ?_
  refine sq ?_
  refine wp_region_lit ?_
  refine st hF (g_fieldAddr ty_fo_27_1 hF rfl) rfl fun a hF => st hF (g_load ty_on_2 hF rfl (hM.row 0 rfl) (tenC_1 (by omega))) rfl fun a hF => st hF (g_fieldAddr ty_fo_27_2 hF rfl) rfl fun a hF => st hF (g_load ty_on_2 hF rfl (hM.row 0 rfl) (tenC_2 (by omega))) rfl fun a hF => st hF (g_fieldAddr ty_fo_27_2 hF rfl) rfl fun a hF => st hF (g_load ty_on_2 hF rfl (hM.row 1 rfl) (tenC_2 (by omega))) rfl fun a hF => st hF (g_add hF rfl rfl (add_nat (i) (r) (by omega))) rfl fun a hF => st hF (g_fieldAddr ty_fo_27_3 hF rfl) rfl fun a hF => st hF (g_load ty_on_2 hF rfl (hM.row 0 rfl) (tenC_3 (by omega))) rfl fun a hF => st hF (g_fieldAddr ty_fo_27_3 hF rfl) rfl fun a hF => st hF (g_load ty_on_2 hF rfl (hM.row 1 rfl) (tenC_3 (by omega))) rfl fun a hF => st hF (g_add hF rfl rfl (add_nat (o) (s) (by omega))) rfl fun a hF => ?_
  refine stR hF (d_call Try.call43 hF (.cons rfl (.cons rfl (.cons rfl .nil))) (isWithinLimits_ok (n) (i + r) (o + s) _ (by omega))) rfl ?_
  rintro _ w' a ⟨hx, rfl⟩ hF
  have hM := hM.ext hx
  refine st hF (g_notP hF rfl) rfl fun a hF => ?_
  refine wpList_nil ?_
  refine tN ?_
  refine c_cond hF rfl (fun h5 => ?_) (fun h5 => ?_)
  ·
    refine sq ?_
    refine wp_region_lit ?_
    refine st hF (g_build0 ty_bu_27) rfl fun a hF => ?_
    refine stN hF (d_storeAgg 2 hM rfl ty_sz_27 hF rfl rfl (tenC_one rfl) (by simp only [fnC_size, cells_size, vecC_size, tabC_size, planeC_size, tenC_size, smC_size, numC_size, numI_size]) (by simp only [fnC_size, cells_size, vecC_size, tabC_size, planeC_size, tenC_size, smC_size, numC_size, numI_size] <;> omega) (splice_whole _ _ rfl)) ?_
    intro _ w' a hM hF
    change Mem w w' [some (b1, tenC (p : Int) (n : Int) (i : Int) (o : Int) (.slice (some ⟨b, 0, none⟩) (n ^ (i + o)) (n ^ (i + o)))), some (b2, tenC (p : Int) (n : Int) (r : Int) (s : Int) (.slice (some ⟨bz, 0, none⟩) (n ^ (r + s)) (n ^ (r + s)))), some (b3, tenC 0 0 0 0 (.slice none 0 0)), none, none] [(b, numC (n ^ (i + o)) f), (bz, numC (n ^ (r + s)) h)] at hM
    refine st hF (g_assign hF rfl) rfl fun a hF => ?_
    refine wpList_nil ?_
    refine tN ?_
    refine wp_ret ?_
    refine tR ?_
    refine fin2 rfl hF.defers (res_agg ty_ag_27 hF rfl (hM.row 2 rfl) (by simp only [fnC_size, cells_size, vecC_size, tabC_size, planeC_size, tenC_size, smC_size, numC_size, numI_size])) (res_tmp hF rfl) ⟨_, rfl, hM.below, ?_⟩
    show _ = _
    rfl
  ·
    exact absurd (Decidable.not_not.1 h5) hw

theorem SideTensorsSL (p n i o r s b bz : Nat) (f h : Nat → Nat) (w : World) (hpP : primeP (p : Int)) (hn0 : 0 < n) (hn : n ≤ 6) (hwa : wl n i o) (hwb : wl n r s) (hw : ¬ wl n (i + r) (o + s)) (hfp : ∀ c, f c < p) (hhp : ∀ c, h c < p) (hb : Blk w b (numC (n ^ (i + o)) f)) (hbz : Blk w bz (numC (n ^ (r + s)) h)) :
    CallsR Try.prog 31 #[.agg (tenC (p : Int) (n : Int) (i : Int) (o : Int) (.slice (some ⟨b, 0, none⟩) (n ^ (i + o)) (n ^ (i + o)))), .agg (tenC (p : Int) (n : Int) (r : Int) (s : Int) (.slice (some ⟨bz, 0, none⟩) (n ^ (r + s)) (n ^ (r + s))))] w (fun res _ => res = .tuple #[.agg (tenC 0 0 0 0 (.slice none 0 0)), .int .i64 3]) := by
  refine calls_fr [.agg (tenC (p : Int) (n : Int) (i : Int) (o : Int) (.slice (some ⟨b, 0, none⟩) (n ^ (i + o)) (n ^ (i + o)))), .agg (tenC (p : Int) (n : Int) (r : Int) (s : Int) (.slice (some ⟨bz, 0, none⟩) (n ^ (r + s)) (n ^ (r + s))))] Try.func31 rfl Try.ntmps31 rfl fun a hF => ?_
  have hM : Mem w w [none, none, none] [(b, numC (n ^ (i + o)) f), (bz, numC (n ^ (r + s)) h)] := MemX.startD w 3 _ (startD2 hb hbz)
  change Fr 34 a [(0, .agg (tenC (p : Int) (n : Int) (i : Int) (o : Int) (.slice (some ⟨b, 0, none⟩) (n ^ (i + o)) (n ^ (i + o))))), (1, .agg (tenC (p : Int) (n : Int) (r : Int) (s : Int) (.slice (some ⟨bz, 0, none⟩) (n ^ (r + s)) (n ^ (r + s)))))] at hF
  have hp0 : 0 < p := by have h := hpP; unfold primeP at h; omega
  have hp2 : p < 100 := by have h := hpP; unfold primeP at h; omega
  have hwa3 := hwa.2.2
  have hwb3 := hwb.2.2
  have hwa1 := hwa.1
  have hwa2 := hwa.2.1
  have hwb1 := hwb.1
  have hwb2 := hwb.2.1
  have h1 := TenP.of_nat hpP hn0 hn hwa rfl hfp
  have h2 := TenP.of_nat hpP hn0 hn hwb rfl hhp
  refine sq ?_
  refine wp_region_lit ?_
  refine stR hF (d_box 0 hM hF rfl) rfl ?_
  rintro _ w' a ⟨b1, rfl, hM, -⟩ hF
  change Mem w w' [some (b1, tenC (p : Int) (n : Int) (i : Int) (o : Int) (.slice (some ⟨b, 0, none⟩) (n ^ (i + o)) (n ^ (i + o)))), none, none] [(b, numC (n ^ (i + o)) f), (bz, numC (n ^ (r + s)) h)] at hM
  refine stR hF (d_box 1 hM hF rfl) rfl ?_
  rintro _ w' a ⟨b2, rfl, hM, -⟩ hF
  change Mem w w' [some (b1, tenC (p : Int) (n : Int) (i : Int) (o : Int) (.slice (some ⟨b, 0, none⟩) (n ^ (i + o)) (n ^ (i + o)))), some (b2, tenC (p : Int) (n : Int) (r : Int) (s : Int) (.slice (some ⟨bz, 0, none⟩) (n ^ (r + s)) (n ^ (r + s)))), none] [(b, numC (n ^ (i + o)) f), (bz, numC (n ^ (r + s)) h)] at hM
  refine stR hF (d_alloc 2 hM ty_ze_27) rfl ?_
  rintro _ w' a ⟨b3, rfl, hM, -⟩ hF
  change Mem w w' [some (b1, tenC (p : Int) (n : Int) (i : Int) (o : Int) (.slice (some ⟨b, 0, none⟩) (n ^ (i + o)) (n ^ (i + o)))), some (b2, tenC (p : Int) (n : Int) (r : Int) (s : Int) (.slice (some ⟨bz, 0, none⟩) (n ^ (r + s)) (n ^ (r + s)))), some (b3, tenC 0 0 0 0 (.slice none 0 0))] [(b, numC (n ^ (i + o)) f), (bz, numC (n ^ (r + s)) h)] at hM
  refine st hF (g_assign hF rfl) rfl fun a hF => ?_
  refine wpList_nil ?_
  refine tN ?_
  refine sq ?_
  refine wp_region_lit ?_
  refine st hF (g_loadAgg ty_ag_27 hF rfl (hM.row 0 rfl) (by simp only [fnC_size, cells_size, vecC_size, tabC_size, planeC_size, tenC_size, smC_size, numC_size, numI_size] <;> omega) (whole rfl)) rfl fun a hF => st hF (g_loadAgg ty_ag_27 hF rfl (hM.row 1 rfl) (by simp only [fnC_size, cells_size, vecC_size, tabC_size, planeC_size, tenC_size, smC_size, numC_size, numI_size] <;> omega) (whole rfl)) rfl fun a hF => ?_
  refine stR hF (d_call Try.call62 hF (.cons rfl (.cons rfl .nil)) (l03Two_ok (p : Int) (n : Int) (i : Int) (o : Int) (r : Int) (s : Int) b bz (n ^ (i + o)) (n ^ (r + s)) (fun c => ((f c : Nat) : Int)) (fun c => ((h c : Nat) : Int)) _ (hM.fz 0 rfl) (hM.fz 1 rfl) (by omega) (by omega) h1 h2)) rfl ?_
  rintro _ w' a ⟨hx, rfl⟩ hF
  have hM := hM.ext hx
  refine st hF (g_assign hF rfl) rfl fun a hF => ?_
  refine wpList_nil ?_
  refine tN ?_
  refine sq ?_
  refine sq ?_
  refine wp_region_lit ?_
  refine st hF (g_move hF rfl) rfl fun a hF => st hF (g_eql hF rfl rfl) rfl fun a hF => ?_
  refine wpList_nil ?_
  refine tN ?_
  refine c_kT hF rfl (by decide) ?_
  refine wp_region_lit ?_
  refine st hF (g_fieldAddr ty_fo_27_0 hF rfl) rfl fun a hF => st hF (g_load ty_on_2 hF rfl (hM.row 0 rfl) (tenC_0 (by omega))) rfl fun a hF => st hF (g_fieldAddr ty_fo_27_1 hF rfl) rfl fun a hF => st hF (g_load ty_on_2 hF rfl (hM.row 0 rfl) (tenC_1 (by omega))) rfl fun a hF => st hF (g_fieldAddr ty_fo_27_2 hF rfl) rfl fun a hF => st hF (g_load ty_on_2 hF rfl (hM.row 0 rfl) (tenC_2 (by omega))) rfl fun a hF => st hF (g_fieldAddr ty_fo_27_2 hF rfl) rfl fun a hF => st hF (g_load ty_on_2 hF rfl (hM.row 1 rfl) (tenC_2 (by omega))) rfl fun a hF => st hF (g_add hF rfl rfl (add_nat (i) (r) (by omega))) rfl fun a hF => st hF (g_fieldAddr ty_fo_27_3 hF rfl) rfl fun a hF => st hF (g_load ty_on_2 hF rfl (hM.row 0 rfl) (tenC_3 (by omega))) rfl fun a hF => st hF (g_fieldAddr ty_fo_27_3 hF rfl) rfl fun a hF => st hF (g_load ty_on_2 hF rfl (hM.row 1 rfl) (tenC_3 (by omega))) rfl fun a hF => st hF (g_add hF rfl rfl (add_nat (o) (s) (by omega))) rfl fun a hF => ?_
  refine stR hF (d_call Try.call47 hF (.cons rfl (.cons rfl (.cons rfl (.cons rfl .nil)))) ((CallsR.val (l03Sizes_ok (((p : Nat) : Int)) (n) (i + r) (o + s) _ hpP (by omega) (by omega) (by omega) (by omega)) (congrArg (Value.int .i64) (if_neg hw))))) rfl ?_
  rintro _ w' a ⟨hx, rfl⟩ hF
  have hM := hM.ext hx
  refine st hF (g_assign hF rfl) rfl fun a hF => ?_
  refine wpList_nil ?_
  refine tN ?_
  refine sq ?_
  refine sq ?_
  refine wp_region_lit ?_
  refine st hF (g_move hF rfl) rfl fun a hF => st hF (g_neq hF rfl rfl) rfl fun a hF => ?_
  refine wpList_nil ?_
  refine tN ?_
  refine c_kT hF rfl (by decide) ?_
  refine sq ?_
  refine wp_region_lit ?_
  refine st hF (g_build0 ty_bu_27) rfl fun a hF => st hF (g_move hF rfl) rfl fun a hF => ?_
  refine stN hF (d_storeAgg 2 hM rfl ty_sz_27 hF rfl rfl (tenC_one rfl) (by simp only [fnC_size, cells_size, vecC_size, tabC_size, planeC_size, tenC_size, smC_size, numC_size, numI_size]) (by simp only [fnC_size, cells_size, vecC_size, tabC_size, planeC_size, tenC_size, smC_size, numC_size, numI_size] <;> omega) (splice_whole _ _ rfl)) ?_
  intro _ w' a hM hF
  change Mem w w' [some (b1, tenC (p : Int) (n : Int) (i : Int) (o : Int) (.slice (some ⟨b, 0, none⟩) (n ^ (i + o)) (n ^ (i + o)))), some (b2, tenC (p : Int) (n : Int) (r : Int) (s : Int) (.slice (some ⟨bz, 0, none⟩) (n ^ (r + s)) (n ^ (r + s)))), some (b3, tenC 0 0 0 0 (.slice none 0 0))] [(b, numC (n ^ (i + o)) f), (bz, numC (n ^ (r + s)) h)] at hM
  refine st hF (g_assign hF rfl) rfl fun a hF => ?_
  refine wpList_nil ?_
  refine tN ?_
  refine wp_ret ?_
  refine tR ?_
  refine fin2 rfl hF.defers (res_agg ty_ag_27 hF rfl (hM.row 2 rfl) (by simp only [fnC_size, cells_size, vecC_size, tabC_size, planeC_size, tenC_size, smC_size, numC_size, numI_size])) (res_tmp hF rfl) ⟨_, rfl, hM.below, ?_⟩
  show _ = _
  rfl

theorem SideTensorsIB (p n i o r s b bz : Nat) (f h : Nat → Nat) (w : World) (hpP : primeP (p : Int)) (hn0 : 0 < n) (hn : n ≤ 6) (hwa : wl n i o) (hwb : wl n r s) (hw : wl n (i + r) (o + s)) (hfp : ∀ c, f c < p) (hhp : ∀ c, h c < p) (hb : Blk w b (numC (n ^ (i + o)) f)) (hbz : Blk w bz (numC (n ^ (r + s)) h)) :
    CallsR Try.prog 32 #[.agg (tenC (p : Int) (n : Int) (i : Int) (o : Int) (.slice (some ⟨b, 0, none⟩) (n ^ (i + o)) (n ^ (i + o)))), .agg (tenC (p : Int) (n : Int) (r : Int) (s : Int) (.slice (some ⟨bz, 0, none⟩) (n ^ (r + s)) (n ^ (r + s))))] w (fun v w' => TenOut0 w w' (p : Int) (n : Int) ((i + r : Nat) : Int) ((o + s : Nat) : Int) (n ^ ((i + r) + (o + s))) (sdF p (n ^ o) (n ^ r) (n ^ s) (n ^ (o + s)) f h) v) := by
  refine calls_fr [.agg (tenC (p : Int) (n : Int) (i : Int) (o : Int) (.slice (some ⟨b, 0, none⟩) (n ^ (i + o)) (n ^ (i + o)))), .agg (tenC (p : Int) (n : Int) (r : Int) (s : Int) (.slice (some ⟨bz, 0, none⟩) (n ^ (r + s)) (n ^ (r + s))))] Try.func32 rfl Try.ntmps32 rfl fun a hF => ?_
  have hM : Mem w w [none, none, none, none, none] [(b, numC (n ^ (i + o)) f), (bz, numC (n ^ (r + s)) h)] := MemX.startD w 5 _ (startD2 hb hbz)
  change Fr 99 a [(0, .agg (tenC (p : Int) (n : Int) (i : Int) (o : Int) (.slice (some ⟨b, 0, none⟩) (n ^ (i + o)) (n ^ (i + o))))), (1, .agg (tenC (p : Int) (n : Int) (r : Int) (s : Int) (.slice (some ⟨bz, 0, none⟩) (n ^ (r + s)) (n ^ (r + s)))))] at hF
  have hp0 : 0 < p := by have h := hpP; unfold primeP at h; omega
  have hp2 : p < 100 := by have h := hpP; unfold primeP at h; omega
  have hwa3 := hwa.2.2
  have hwb3 := hwb.2.2
  have hwa1 := hwa.1
  have hwa2 := hwa.2.1
  have hwb1 := hwb.1
  have hwb2 := hwb.2.1
  have h1 := TenP.of_nat hpP hn0 hn hwa rfl hfp
  have h2 := TenP.of_nat hpP hn0 hn hwb rfl hhp
  have hw3 := hw.2.2
  have hw1 := hw.1
  have hw2 := hw.2.1
  have hA0 := pow_one_le (k := i) hn0
  have hB0 := pow_one_le (k := o) hn0
  have hC0 := pow_one_le (k := r) hn0
  have hD0 := pow_one_le (k := s) hn0
  have hWe : n ^ (o + s) = n ^ o * n ^ s := Nat.pow_add ..
  have hRl : n ^ (i + r) ≤ n ^ ((i + r) + (o + s)) := pow_le_add hn0
  have hWl : n ^ (o + s) ≤ n ^ ((i + r) + (o + s)) := pow_le_add2 hn0
  have hBl : n ^ o ≤ n ^ (o + s) := pow_le_add hn0
  have hDl : n ^ s ≤ n ^ (o + s) := pow_le_add2 hn0
  have hAl : n ^ i ≤ n ^ (i + r) := pow_le_add hn0
  have hCl : n ^ r ≤ n ^ (i + r) := pow_le_add2 hn0
  refine sq ?_
  refine wp_region_lit ?_
  refine stR hF (d_box 0 hM hF rfl) rfl ?_
  rintro _ w' a ⟨b1, rfl, hM, -⟩ hF
  change Mem w w' [some (b1, tenC (p : Int) (n : Int) (i : Int) (o : Int) (.slice (some ⟨b, 0, none⟩) (n ^ (i + o)) (n ^ (i + o)))), none, none, none, none] [(b, numC (n ^ (i + o)) f), (bz, numC (n ^ (r + s)) h)] at hM
  refine stR hF (d_box 1 hM hF rfl) rfl ?_
  rintro _ w' a ⟨b2, rfl, hM, -⟩ hF
  change Mem w w' [some (b1, tenC (p : Int) (n : Int) (i : Int) (o : Int) (.slice (some ⟨b, 0, none⟩) (n ^ (i + o)) (n ^ (i + o)))), some (b2, tenC (p : Int) (n : Int) (r : Int) (s : Int) (.slice (some ⟨bz, 0, none⟩) (n ^ (r + s)) (n ^ (r + s)))), none, none, none] [(b, numC (n ^ (i + o)) f), (bz, numC (n ^ (r + s)) h)] at hM
  refine stR hF (d_alloc 2 hM ty_ze_27) rfl ?_
  rintro _ w' a ⟨b3, rfl, hM, -⟩ hF
  change Mem w w' [some (b1, tenC (p : Int) (n : Int) (i : Int) (o : Int) (.slice (some ⟨b, 0, none⟩) (n ^ (i + o)) (n ^ (i + o)))), some (b2, tenC (p : Int) (n : Int) (r : Int) (s : Int) (.slice (some ⟨bz, 0, none⟩) (n ^ (r + s)) (n ^ (r + s)))), some (b3, tenC 0 0 0 0 (.slice none 0 0)), none, none] [(b, numC (n ^ (i + o)) f), (bz, numC (n ^ (r + s)) h)] at hM
  refine st hF (g_assign hF rfl) rfl fun a hF => ?_
  refine wpList_nil ?_
  refine tN ?_
  refine sq ?_
  refine wp_region_lit ?_
  refine st hF (g_loadAgg ty_ag_27 hF rfl (hM.row 0 rfl) (by simp only [fnC_size, cells_size, vecC_size, tabC_size, planeC_size, tenC_size, smC_size, numC_size, numI_size] <;> omega) (whole rfl)) rfl fun a hF => st hF (g_loadAgg ty_ag_27 hF rfl (hM.row 1 rfl) (by simp only [fnC_size, cells_size, vecC_size, tabC_size, planeC_size, tenC_size, smC_size, numC_size, numI_size] <;> omega) (whole rfl)) rfl fun a hF => ?_
  refine stR hF (d_call Try.call64 hF (.cons rfl (.cons rfl (.cons rfl .nil))) (pairFault_ok (p : Int) (n : Int) (i : Int) (o : Int) (r : Int) (s : Int) b bz (n ^ (i + o)) (n ^ (r + s)) (fun c => ((f c : Nat) : Int)) (fun c => ((h c : Nat) : Int)) ((true)) _ (hM.fz 0 rfl) (hM.fz 1 rfl) (by omega) (by omega) h1 h2 (by first | rfl | exact decide_eq_true (by omega)))) rfl ?_
  rintro _ w' a ⟨hx, rfl⟩ hF
  have hM := hM.ext hx
  refine st hF (g_assign hF rfl) rfl fun a hF => ?_
  refine wpList_nil ?_
  refine tN ?_
  refine sq ?_
  refine sq ?_
  refine wp_region_lit ?_
  refine st hF (g_move hF rfl) rfl fun a hF => st hF (g_neq hF rfl rfl) rfl fun a hF => ?_
  refine wpList_nil ?_
  refine tN ?_
  refine c_kF hF rfl (by decide) ?_
  refine wp_skip ?_
  refine tN ?_
  refine sq ?_
  refine sq ?_
  refine wp_region_lit ?_
  refine st hF (g_fieldAddr ty_fo_27_1 hF rfl) rfl fun a hF => st hF (g_load ty_on_2 hF rfl (hM.row 0 rfl) (tenC_1 (by omega))) rfl fun a hF => st hF (g_fieldAddr ty_fo_27_2 hF rfl) rfl fun a hF => st hF (g_load ty_on_2 hF rfl (hM.row 0 rfl) (tenC_2 (by omega))) rfl fun a hF => st hF (g_fieldAddr ty_fo_27_2 hF rfl) rfl fun a hF => st hF (g_load ty_on_2 hF rfl (hM.row 1 rfl) (tenC_2 (by omega))) rfl fun a hF => st hF (g_add hF rfl rfl (add_nat (i) (r) (by omega))) rfl fun a hF => st hF (g_fieldAddr ty_fo_27_3 hF rfl) rfl fun a hF => st hF (g_load ty_on_2 hF rfl (hM.row 0 rfl) (tenC_3 (by omega))) rfl fun a hF => st hF (g_fieldAddr ty_fo_27_3 hF rfl) rfl fun a hF => st hF (g_load ty_on_2 hF rfl (hM.row 1 rfl) (tenC_3 (by omega))) rfl fun a hF => st hF (g_add hF rfl rfl (add_nat (o) (s) (by omega))) rfl fun a hF => ?_
  refine stR hF (d_call Try.call43 hF (.cons rfl (.cons rfl (.cons rfl .nil))) (isWithinLimits_ok (n) (i + r) (o + s) _ (by omega))) rfl ?_
  rintro _ w' a ⟨hx, rfl⟩ hF
  have hM := hM.ext hx
  refine st hF (g_notP hF rfl) rfl fun a hF => ?_
  refine wpList_nil ?_
  refine tN ?_
  refine c_cond hF rfl (fun h5 => ?_) (fun h5 => ?_)
  ·
    exact absurd hw h5
  ·
    refine wp_skip ?_
    refine tN ?_
    refine sq ?_
    refine wp_region_lit ?_
    refine st hF (g_fieldAddr ty_fo_27_0 hF rfl) rfl fun a hF => st hF (g_load ty_on_2 hF rfl (hM.row 0 rfl) (tenC_0 (by omega))) rfl fun a hF => st hF (g_fieldAddr ty_fo_27_1 hF rfl) rfl fun a hF => st hF (g_load ty_on_2 hF rfl (hM.row 0 rfl) (tenC_1 (by omega))) rfl fun a hF => st hF (g_fieldAddr ty_fo_27_2 hF rfl) rfl fun a hF => st hF (g_load ty_on_2 hF rfl (hM.row 0 rfl) (tenC_2 (by omega))) rfl fun a hF => st hF (g_fieldAddr ty_fo_27_2 hF rfl) rfl fun a hF => st hF (g_load ty_on_2 hF rfl (hM.row 1 rfl) (tenC_2 (by omega))) rfl fun a hF => st hF (g_add hF rfl rfl (add_nat (i) (r) (by omega))) rfl fun a hF => st hF (g_fieldAddr ty_fo_27_3 hF rfl) rfl fun a hF => st hF (g_load ty_on_2 hF rfl (hM.row 0 rfl) (tenC_3 (by omega))) rfl fun a hF => st hF (g_fieldAddr ty_fo_27_3 hF rfl) rfl fun a hF => st hF (g_load ty_on_2 hF rfl (hM.row 1 rfl) (tenC_3 (by omega))) rfl fun a hF => st hF (g_add hF rfl rfl (add_nat (o) (s) (by omega))) rfl fun a hF => ?_
    refine stR hF (d_call Try.call49 hF (.cons rfl (.cons rfl (.cons rfl (.cons rfl .nil)))) (zeroTensor_ok (p) (n) (i + r) (o + s) _ (by omega) (by omega) hw)) rfl ?_
    rintro _ w' a ⟨hx, b6, rfl, hge, hbk⟩ hF
    have hM := hM.fill hx 3 hbk hge
    change Mem w w' [some (b1, tenC (p : Int) (n : Int) (i : Int) (o : Int) (.slice (some ⟨b, 0, none⟩) (n ^ (i + o)) (n ^ (i + o)))), some (b2, tenC (p : Int) (n : Int) (r : Int) (s : Int) (.slice (some ⟨bz, 0, none⟩) (n ^ (r + s)) (n ^ (r + s)))), some (b3, tenC 0 0 0 0 (.slice none 0 0)), some (b6, numC ((n) ^ ((i + r) + (o + s))) (fun _ => 0)), none] [(b, numC (n ^ (i + o)) f), (bz, numC (n ^ (r + s)) h)] at hM
    refine stR hF (d_alloc 4 hM ty_ze_27) rfl ?_
    rintro _ w' a ⟨b7, rfl, hM, -⟩ hF
    change Mem w w' [some (b1, tenC (p : Int) (n : Int) (i : Int) (o : Int) (.slice (some ⟨b, 0, none⟩) (n ^ (i + o)) (n ^ (i + o)))), some (b2, tenC (p : Int) (n : Int) (r : Int) (s : Int) (.slice (some ⟨bz, 0, none⟩) (n ^ (r + s)) (n ^ (r + s)))), some (b3, tenC 0 0 0 0 (.slice none 0 0)), some (b6, numC ((n) ^ ((i + r) + (o + s))) (fun _ => 0)), some (b7, tenC 0 0 0 0 (.slice none 0 0))] [(b, numC (n ^ (i + o)) f), (bz, numC (n ^ (r + s)) h)] at hM
    refine stN hF (d_storeAgg 4 hM rfl ty_sz_27 hF rfl rfl (tenC_one rfl) (by simp only [fnC_size, cells_size, vecC_size, tabC_size, planeC_size, tenC_size, smC_size, numC_size, numI_size]) (by simp only [fnC_size, cells_size, vecC_size, tabC_size, planeC_size, tenC_size, smC_size, numC_size, numI_size] <;> omega) (splice_whole _ _ rfl)) ?_
    intro _ w' a hM hF
    change Mem w w' [some (b1, tenC (p : Int) (n : Int) (i : Int) (o : Int) (.slice (some ⟨b, 0, none⟩) (n ^ (i + o)) (n ^ (i + o)))), some (b2, tenC (p : Int) (n : Int) (r : Int) (s : Int) (.slice (some ⟨bz, 0, none⟩) (n ^ (r + s)) (n ^ (r + s)))), some (b3, tenC 0 0 0 0 (.slice none 0 0)), some (b6, numC ((n) ^ ((i + r) + (o + s))) (fun _ => 0)), some (b7, tenC ((p : Nat) : Int) ((n : Nat) : Int) ((i + r : Nat) : Int) ((o + s : Nat) : Int) (.slice (some ⟨b6, 0, none⟩) ((n) ^ ((i + r) + (o + s))) ((n) ^ ((i + r) + (o + s)))))] [(b, numC (n ^ (i + o)) f), (bz, numC (n ^ (r + s)) h)] at hM
    refine wpList_nil ?_
    refine tN ?_
    refine sq ?_
    refine wp_region_lit ?_
    refine st hF (g_fieldAddr ty_fo_27_1 hF rfl) rfl fun a hF => st hF (g_load ty_on_2 hF rfl (hM.row 1 rfl) (tenC_1 (by omega))) rfl fun a hF => st hF (g_fieldAddr ty_fo_27_2 hF rfl) rfl fun a hF => st hF (g_load ty_on_2 hF rfl (hM.row 1 rfl) (tenC_2 (by omega))) rfl fun a hF => ?_
    refine stR hF (d_call Try.call44 hF (.cons rfl (.cons rfl .nil)) (countChoices_ok (n) (r) _ (by omega) (by omega))) rfl ?_
    rintro _ w' a ⟨hx, rfl⟩ hF
    have hM := hM.ext hx
    refine st hF (g_assign hF rfl) rfl fun a hF => ?_
    refine wpList_nil ?_
    refine tN ?_
    refine sq ?_
    refine sq ?_
    refine wp_region_lit ?_
    refine st hF (g_fieldAddr ty_fo_27_1 hF rfl) rfl fun a hF => st hF (g_load ty_on_2 hF rfl (hM.row 4 rfl) (tenC_1 (by omega))) rfl fun a hF => st hF (g_fieldAddr ty_fo_27_2 hF rfl) rfl fun a hF => st hF (g_load ty_on_2 hF rfl (hM.row 4 rfl) (tenC_2 (by omega))) rfl fun a hF => ?_
    refine stR hF (d_call Try.call44 hF (.cons rfl (.cons rfl .nil)) (countChoices_ok (n) (i + r) _ (by omega) (by omega))) rfl ?_
    rintro _ w' a ⟨hx, rfl⟩ hF
    have hM := hM.ext hx
    refine st hF (g_move hF rfl) rfl fun a hF => ?_
    refine wpList_nil ?_
    refine tN ?_
    refine wp_block ?_
    change Mem w _ [some (b1, tenC (p : Int) (n : Int) (i : Int) (o : Int) (.slice (some ⟨b, 0, none⟩) (n ^ (i + o)) (n ^ (i + o)))), some (b2, tenC (p : Int) (n : Int) (r : Int) (s : Int) (.slice (some ⟨bz, 0, none⟩) (n ^ (r + s)) (n ^ (r + s)))), some (b3, tenC 0 0 0 0 (.slice none 0 0)), some (b6, numC ((n) ^ ((i + r) + (o + s))) (fun _ => 0)), some (b7, tenC ((p : Nat) : Int) ((n : Nat) : Int) ((i + r : Nat) : Int) ((o + s : Nat) : Int) (.slice (some ⟨b6, 0, none⟩) ((n) ^ ((i + r) + (o + s))) ((n) ^ ((i + r) + (o + s)))))] [(b, numC (n ^ (i + o)) f), (bz, numC (n ^ (r + s)) h)] at hM
    refine c_loop (fun (kk : Nat) a w' => kk ≤ n ^ (i + r) ∧ (True) ∧ Fr 99 a [(0, .agg (tenC (p : Int) (n : Int) (i : Int) (o : Int) (.slice (some ⟨b, 0, none⟩) (n ^ (i + o)) (n ^ (i + o))))), (1, .agg (tenC (p : Int) (n : Int) (r : Int) (s : Int) (.slice (some ⟨bz, 0, none⟩) (n ^ (r + s)) (n ^ (r + s))))), (2, ptr b1 (0)), (3, ptr b2 (0)), (4, ptr b3 (0)), (5, .int .i64 (0)), (15, .agg (tenC (p : Int) (n : Int) (i : Int) (o : Int) (.slice (some ⟨b, 0, none⟩) (n ^ (i + o)) (n ^ (i + o))))), (16, .agg (tenC (p : Int) (n : Int) (r : Int) (s : Int) (.slice (some ⟨bz, 0, none⟩) (n ^ (r + s)) (n ^ (r + s))))), (17, .int .i64 (0)), (6, .int .i64 (0)), (18, .int .i64 (0)), (19, .bool (decide ((0 : Int) ≠ 0))), (22, ptr b1 (0 + 1)), (23, .int .i64 (((n : Nat) : Int))), (24, ptr b1 (0 + 2)), (25, .int .i64 (((i : Nat) : Int))), (26, ptr b2 (0 + 2)), (27, .int .i64 (((r : Nat) : Int))), (28, .int .i64 (((i + r : Nat) : Int))), (29, ptr b1 (0 + 3)), (30, .int .i64 (((o : Nat) : Int))), (31, ptr b2 (0 + 3)), (32, .int .i64 (((s : Nat) : Int))), (33, .int .i64 (((o + s : Nat) : Int))), (34, .bool (decide (wl (n) (i + r) (o + s)))), (35, .bool (decide (¬ (wl (n) (i + r) (o + s))))), (37, ptr b1 (0 + 0)), (38, .int .i64 (((p : Nat) : Int))), (39, ptr b1 (0 + 1)), (40, .int .i64 (((n : Nat) : Int))), (41, ptr b1 (0 + 2)), (42, .int .i64 (((i : Nat) : Int))), (43, ptr b2 (0 + 2)), (44, .int .i64 (((r : Nat) : Int))), (45, .int .i64 (((i + r : Nat) : Int))), (46, ptr b1 (0 + 3)), (47, .int .i64 (((o : Nat) : Int))), (48, ptr b2 (0 + 3)), (49, .int .i64 (((s : Nat) : Int))), (50, .int .i64 (((o + s : Nat) : Int))), (51, .agg (tenC ((p : Nat) : Int) ((n : Nat) : Int) ((i + r : Nat) : Int) ((o + s : Nat) : Int) (.slice (some ⟨b6, 0, none⟩) ((n) ^ ((i + r) + (o + s))) ((n) ^ ((i + r) + (o + s)))))), (7, ptr b7 (0)), (52, ptr b2 (0 + 1)), (53, .int .i64 (((n : Nat) : Int))), (54, ptr b2 (0 + 2)), (55, .int .i64 (((r : Nat) : Int))), (56, .int .i64 ((((n) ^ (r) : Nat) : Int))), (8, .int .i64 ((((n) ^ (r) : Nat) : Int))), (57, ptr b7 (0 + 1)), (58, .int .i64 (((n : Nat) : Int))), (59, ptr b7 (0 + 2)), (60, .int .i64 (((i + r : Nat) : Int))), (61, .int .i64 ((((n) ^ (i + r) : Nat) : Int))), (62, .int .i64 (((kk : Nat) : Int)))] ∧ Mem w w' [some (b1, tenC (p : Int) (n : Int) (i : Int) (o : Int) (.slice (some ⟨b, 0, none⟩) (n ^ (i + o)) (n ^ (i + o)))), some (b2, tenC (p : Int) (n : Int) (r : Int) (s : Int) (.slice (some ⟨bz, 0, none⟩) (n ^ (r + s)) (n ^ (r + s)))), some (b3, tenC 0 0 0 0 (.slice none 0 0)), some (b6, numC (n ^ ((i + r) + (o + s))) (sdL p (n ^ o) (n ^ r) (n ^ s) (n ^ (o + s)) f h (kk * n ^ (o + s)))), some (b7, tenC ((p : Nat) : Int) ((n : Nat) : Int) ((i + r : Nat) : Int) ((o + s : Nat) : Int) (.slice (some ⟨b6, 0, none⟩) ((n) ^ ((i + r) + (o + s))) ((n) ^ ((i + r) + (o + s)))))] [(b, numC (n ^ (i + o)) f), (bz, numC (n ^ (r + s)) h)]) (fun kk => n ^ (i + r) - kk) 0 ?_ ?_
    ·
      refine ⟨by omega, trivial, hF.sub _ (by repeat' constructor), ?_⟩
      refine hM.rowc 3 rfl (numC_congr fun c hc => by unfold sdL; rw [if_neg (by omega)])
    ·
      clear hF hM
      rintro gi a w' ⟨hgi, hinv1, hF, hM⟩
      have hr0 : gi < n ^ (i + r) → gi * n ^ (o + s) + n ^ (o + s) ≤ n ^ ((i + r) + (o + s)) := idx_bd2
      have hrq : gi < n ^ (i + r) → gi / n ^ r * n ^ o + n ^ o ≤ n ^ (i + o) := fun h => idx_bd2 (div_pow h)
      have hrm : gi % n ^ r * n ^ s + n ^ s ≤ n ^ (r + s) := idx_bd2 (Nat.mod_lt _ hC0)
      refine sq ?_
      refine wp_region_lit ?_
      refine st hF (g_lss hF rfl rfl) rfl fun a hF => ?_
      refine wpList_nil ?_
      refine tN ?_
      refine sq ?_
      refine c_cond hF rfl (fun h8 => ?_) (fun h8 => ?_)
      ·
        refine wp_skip ?_
        refine tN ?_
        refine sq ?_
        refine wp_block ?_
        refine sq ?_
        refine wp_region_lit ?_
        refine st hF (g_move hF rfl) rfl fun a hF => st hF (g_assign hF rfl) rfl fun a hF => ?_
        refine wpList_nil ?_
        refine tN ?_
        refine sq ?_
        refine c_par 7 [] [.val (.agg (tenC ((p : Nat) : Int) ((n : Nat) : Int) ((i + r : Nat) : Int) ((o + s : Nat) : Int) (.slice (some ⟨b6, 0, none⟩) ((n) ^ ((i + r) + (o + s))) ((n) ^ ((i + r) + (o + s)))))), .val (.int .i64 (((gi : Nat) : Int))), .val (.slice (some ⟨b6, 0 + (gi) * (n) ^ (o + s) * 1, none⟩) ((n) ^ (o + s)) ((n) ^ (o + s))), .val (.agg (tenC (p : Int) (n : Int) (r : Int) (s : Int) (.slice (some ⟨bz, 0, none⟩) (n ^ (r + s)) (n ^ (r + s))))), .val (.int .i64 (((gi : Nat) : Int))), .val (.int .i64 ((((n) ^ (r) : Nat) : Int))), .val (.int .i64 ((((gi) % ((n) ^ (r)) : Nat) : Int)))] hmix rfl hF rfl hM ⟨fun a w gG hF hS hd => by have hM := hS.mem rfl; exact par_val hS rfl (g_loadAgg ty_ag_27 hF rfl (hM.row 4 rfl) (by simp only [fnC_size, cells_size, vecC_size, tabC_size, planeC_size, tenC_size, smC_size, numC_size, numI_size] <;> omega) (whole rfl)), fun a w gG hF hS hd => by exact par_val hS rfl (g_move hF rfl), fun a w gG hF hS hd => by have hF := hF.ext1 65 (hd 0 rfl rfl); have hF := hF.ext1 66 (hd 1 rfl rfl); exact par_call (by repeat constructor) hS rfl (d_call Try.call50 hF (.cons rfl (.cons rfl .nil)) (rowOf_ok (p) (n) (i + r) (o + s) b6 ((n) ^ ((i + r) + (o + s))) (gi) _ (by omega) (by omega) (by omega) (by omega) (by omega))), fun a w gG hF hS hd => by have hM := hS.mem rfl; exact par_val hS rfl (g_loadAgg ty_ag_27 hF rfl (hM.row 1 rfl) (by simp only [fnC_size, cells_size, vecC_size, tabC_size, planeC_size, tenC_size, smC_size, numC_size, numI_size] <;> omega) (whole rfl)), fun a w gG hF hS hd => by exact par_val hS rfl (g_move hF rfl), fun a w gG hF hS hd => by exact par_val hS rfl (g_move hF rfl), fun a w gG hF hS hd => by have hF := hF.ext1 69 (hd 4 rfl rfl); have hF := hF.ext1 70 (hd 5 rfl rfl); exact par_val hS rfl (g_rem hF rfl rfl (by omega) (rem_nat (gi) ((n) ^ (r)))), trivial⟩ ?_
        intro a w' L hF hS hq
        have hF := hF.ext1 65 (hq 0 rfl rfl)
        have hF := hF.ext1 66 (hq 1 rfl rfl)
        have hF := hF.ext1 67 (hq 2 rfl rfl)
        have hF := hF.ext1 68 (hq 3 rfl rfl)
        have hF := hF.ext1 69 (hq 4 rfl rfl)
        have hF := hF.ext1 70 (hq 5 rfl rfl)
        have hF := hF.ext1 71 (hq 6 rfl rfl)
        have hM := hS.mem rfl
        change wpList Try.prog _ _ [_, _, _] _ _
        refine stR hF (d_call Try.call50 hF (.cons rfl (.cons rfl .nil)) (rowOf_ok (p) (n) (r) (s) bz (n ^ (r + s)) ((gi) % ((n) ^ (r))) _ (by omega) (by omega) (by omega) (by omega) (by omega))) rfl ?_
        rintro _ w' a ⟨hx, rfl⟩ hF
        have hM := hM.ext hx
        refine st hF (g_assign hF rfl) rfl fun a hF => st hF (g_assign hF rfl) rfl fun a hF => ?_
        refine wpList_nil ?_
        refine tN ?_
        refine sq ?_
        refine c_par 7 [] [.val (.agg (tenC (p : Int) (n : Int) (i : Int) (o : Int) (.slice (some ⟨b, 0, none⟩) (n ^ (i + o)) (n ^ (i + o))))), .val (.int .i64 (((gi : Nat) : Int))), .val (.int .i64 ((((n) ^ (r) : Nat) : Int))), .val (.int .i64 ((((gi) / ((n) ^ (r)) : Nat) : Int))), .val (.slice (some ⟨b, 0 + ((gi) / ((n) ^ (r))) * (n) ^ (o) * 1, none⟩) ((n) ^ (o)) ((n) ^ (o))), .val (.int .i64 ((((n) ^ (o) : Nat) : Int))), .val (.int .i64 (0))] hmix rfl hF rfl hM ⟨fun a w gG hF hS hd => by have hM := hS.mem rfl; exact par_val hS rfl (g_loadAgg ty_ag_27 hF rfl (hM.row 0 rfl) (by simp only [fnC_size, cells_size, vecC_size, tabC_size, planeC_size, tenC_size, smC_size, numC_size, numI_size] <;> omega) (whole rfl)), fun a w gG hF hS hd => by exact par_val hS rfl (g_move hF rfl), fun a w gG hF hS hd => by exact par_val hS rfl (g_move hF rfl), fun a w gG hF hS hd => by have hF := hF.ext1 74 (hd 1 rfl rfl); have hF := hF.ext1 75 (hd 2 rfl rfl); exact par_val hS rfl (g_quo hF rfl rfl (by omega) (quo_nat (gi) ((n) ^ (r)) (by omega))), fun a w gG hF hS hd => by have hF := hF.ext1 73 (hd 0 rfl rfl); have hF := hF.ext1 76 (hd 3 rfl rfl); exact par_call (by repeat constructor) hS rfl (d_call Try.call50 hF (.cons rfl (.cons rfl .nil)) (rowOf_ok (p) (n) (i) (o) b (n ^ (i + o)) ((gi) / ((n) ^ (r))) _ (by omega) (by omega) (by omega) (by omega) (by omega))), fun a w gG hF hS hd => by have hF := hF.ext1 77 (hd 4 rfl rfl); exact par_val hS rfl (g_len ty_us_22 hF rfl), fun a w gG hF hS hd => by exact par_val hS rfl (g_move hF rfl), trivial⟩ ?_
        intro a w' L hF hS hq
        have hF := hF.ext1 73 (hq 0 rfl rfl)
        have hF := hF.ext1 74 (hq 1 rfl rfl)
        have hF := hF.ext1 75 (hq 2 rfl rfl)
        have hF := hF.ext1 76 (hq 3 rfl rfl)
        have hF := hF.ext1 77 (hq 4 rfl rfl)
        have hF := hF.ext1 78 (hq 5 rfl rfl)
        have hF := hF.ext1 79 (hq 6 rfl rfl)
        have hM := hS.mem rfl
        change wpList Try.prog _ _ [] _ _
        refine wpList_nil ?_
        refine tN ?_
        refine wp_block ?_
        change Mem w _ [some (b1, tenC (p : Int) (n : Int) (i : Int) (o : Int) (.slice (some ⟨b, 0, none⟩) (n ^ (i + o)) (n ^ (i + o)))), some (b2, tenC (p : Int) (n : Int) (r : Int) (s : Int) (.slice (some ⟨bz, 0, none⟩) (n ^ (r + s)) (n ^ (r + s)))), some (b3, tenC 0 0 0 0 (.slice none 0 0)), some (b6, numC (n ^ ((i + r) + (o + s))) (sdL p (n ^ o) (n ^ r) (n ^ s) (n ^ (o + s)) f h (gi * n ^ (o + s)))), some (b7, tenC ((p : Nat) : Int) ((n : Nat) : Int) ((i + r : Nat) : Int) ((o + s : Nat) : Int) (.slice (some ⟨b6, 0, none⟩) ((n) ^ ((i + r) + (o + s))) ((n) ^ ((i + r) + (o + s)))))] [(b, numC (n ^ (i + o)) f), (bz, numC (n ^ (r + s)) h)] at hM
        refine c_loop (fun (kk : Nat) a w' => kk ≤ n ^ o ∧ (True) ∧ Fr 99 a [(78, .int .i64 ((((n) ^ (o) : Nat) : Int))), (77, .slice (some ⟨b, 0 + ((gi) / ((n) ^ (r))) * (n) ^ (o) * 1, none⟩) ((n) ^ (o)) ((n) ^ (o))), (76, .int .i64 ((((gi) / ((n) ^ (r)) : Nat) : Int))), (75, .int .i64 ((((n) ^ (r) : Nat) : Int))), (74, .int .i64 (((gi : Nat) : Int))), (73, .agg (tenC (p : Int) (n : Int) (i : Int) (o : Int) (.slice (some ⟨b, 0, none⟩) (n ^ (i + o)) (n ^ (i + o))))), (71, .int .i64 ((((gi) % ((n) ^ (r)) : Nat) : Int))), (70, .int .i64 ((((n) ^ (r) : Nat) : Int))), (69, .int .i64 (((gi : Nat) : Int))), (68, .agg (tenC (p : Int) (n : Int) (r : Int) (s : Int) (.slice (some ⟨bz, 0, none⟩) (n ^ (r + s)) (n ^ (r + s))))), (67, .slice (some ⟨b6, 0 + (gi) * (n) ^ (o + s) * 1, none⟩) ((n) ^ (o + s)) ((n) ^ (o + s))), (66, .int .i64 (((gi : Nat) : Int))), (65, .agg (tenC ((p : Nat) : Int) ((n : Nat) : Int) ((i + r : Nat) : Int) ((o + s : Nat) : Int) (.slice (some ⟨b6, 0, none⟩) ((n) ^ ((i + r) + (o + s))) ((n) ^ ((i + r) + (o + s)))))), (0, .agg (tenC (p : Int) (n : Int) (i : Int) (o : Int) (.slice (some ⟨b, 0, none⟩) (n ^ (i + o)) (n ^ (i + o))))), (1, .agg (tenC (p : Int) (n : Int) (r : Int) (s : Int) (.slice (some ⟨bz, 0, none⟩) (n ^ (r + s)) (n ^ (r + s))))), (2, ptr b1 (0)), (3, ptr b2 (0)), (4, ptr b3 (0)), (5, .int .i64 (0)), (15, .agg (tenC (p : Int) (n : Int) (i : Int) (o : Int) (.slice (some ⟨b, 0, none⟩) (n ^ (i + o)) (n ^ (i + o))))), (16, .agg (tenC (p : Int) (n : Int) (r : Int) (s : Int) (.slice (some ⟨bz, 0, none⟩) (n ^ (r + s)) (n ^ (r + s))))), (17, .int .i64 (0)), (6, .int .i64 (0)), (18, .int .i64 (0)), (19, .bool (decide ((0 : Int) ≠ 0))), (22, ptr b1 (0 + 1)), (23, .int .i64 (((n : Nat) : Int))), (24, ptr b1 (0 + 2)), (25, .int .i64 (((i : Nat) : Int))), (26, ptr b2 (0 + 2)), (27, .int .i64 (((r : Nat) : Int))), (28, .int .i64 (((i + r : Nat) : Int))), (29, ptr b1 (0 + 3)), (30, .int .i64 (((o : Nat) : Int))), (31, ptr b2 (0 + 3)), (32, .int .i64 (((s : Nat) : Int))), (33, .int .i64 (((o + s : Nat) : Int))), (34, .bool (decide (wl (n) (i + r) (o + s)))), (35, .bool (decide (¬ (wl (n) (i + r) (o + s))))), (37, ptr b1 (0 + 0)), (38, .int .i64 (((p : Nat) : Int))), (39, ptr b1 (0 + 1)), (40, .int .i64 (((n : Nat) : Int))), (41, ptr b1 (0 + 2)), (42, .int .i64 (((i : Nat) : Int))), (43, ptr b2 (0 + 2)), (44, .int .i64 (((r : Nat) : Int))), (45, .int .i64 (((i + r : Nat) : Int))), (46, ptr b1 (0 + 3)), (47, .int .i64 (((o : Nat) : Int))), (48, ptr b2 (0 + 3)), (49, .int .i64 (((s : Nat) : Int))), (50, .int .i64 (((o + s : Nat) : Int))), (51, .agg (tenC ((p : Nat) : Int) ((n : Nat) : Int) ((i + r : Nat) : Int) ((o + s : Nat) : Int) (.slice (some ⟨b6, 0, none⟩) ((n) ^ ((i + r) + (o + s))) ((n) ^ ((i + r) + (o + s)))))), (7, ptr b7 (0)), (52, ptr b2 (0 + 1)), (53, .int .i64 (((n : Nat) : Int))), (54, ptr b2 (0 + 2)), (55, .int .i64 (((r : Nat) : Int))), (56, .int .i64 ((((n) ^ (r) : Nat) : Int))), (8, .int .i64 ((((n) ^ (r) : Nat) : Int))), (57, ptr b7 (0 + 1)), (58, .int .i64 (((n : Nat) : Int))), (59, ptr b7 (0 + 2)), (60, .int .i64 (((i + r : Nat) : Int))), (61, .int .i64 ((((n) ^ (i + r) : Nat) : Int))), (62, .int .i64 (((gi : Nat) : Int))), (63, .bool (decide ((((gi : Nat) : Int) : Int) < (((n) ^ (i + r) : Nat) : Int)))), (64, .int .i64 (((gi : Nat) : Int))), (9, .int .i64 (((gi : Nat) : Int))), (72, .slice (some ⟨bz, 0 + ((gi) % ((n) ^ (r))) * (n) ^ (s) * 1, none⟩) ((n) ^ (s)) ((n) ^ (s))), (10, .slice (some ⟨b6, 0 + (gi) * (n) ^ (o + s) * 1, none⟩) ((n) ^ (o + s)) ((n) ^ (o + s))), (11, .slice (some ⟨bz, 0 + ((gi) % ((n) ^ (r))) * (n) ^ (s) * 1, none⟩) ((n) ^ (s)) ((n) ^ (s))), (79, .int .i64 (((kk : Nat) : Int)))] ∧ Mem w w' [some (b1, tenC (p : Int) (n : Int) (i : Int) (o : Int) (.slice (some ⟨b, 0, none⟩) (n ^ (i + o)) (n ^ (i + o)))), some (b2, tenC (p : Int) (n : Int) (r : Int) (s : Int) (.slice (some ⟨bz, 0, none⟩) (n ^ (r + s)) (n ^ (r + s)))), some (b3, tenC 0 0 0 0 (.slice none 0 0)), some (b6, numC (n ^ ((i + r) + (o + s))) (sdL p (n ^ o) (n ^ r) (n ^ s) (n ^ (o + s)) f h (gi * n ^ (o + s) + kk * n ^ s))), some (b7, tenC ((p : Nat) : Int) ((n : Nat) : Int) ((i + r : Nat) : Int) ((o + s : Nat) : Int) (.slice (some ⟨b6, 0, none⟩) ((n) ^ ((i + r) + (o + s))) ((n) ^ ((i + r) + (o + s)))))] [(b, numC (n ^ (i + o)) f), (bz, numC (n ^ (r + s)) h)]) (fun kk => n ^ o - kk) 0 ?_ ?_
        ·
          refine ⟨by omega, trivial, hF.sub _ (by repeat' constructor), ?_⟩
          refine hM.rowc 3 rfl (numC_congr fun c hc => by rw [Nat.zero_mul, Nat.add_zero])
        ·
          clear hF hM
          rintro gj a w' ⟨hgj, hinv2, hF, hM⟩
          have hj0 : gj < n ^ o → gj * n ^ s + n ^ s ≤ n ^ (o + s) := idx_bd2
          have hfx := hfp (gi / n ^ r * n ^ o + gj)
          refine sq ?_
          refine wp_region_lit ?_
          refine st hF (g_lss hF rfl rfl) rfl fun a hF => ?_
          refine wpList_nil ?_
          refine tN ?_
          refine sq ?_
          refine c_cond hF rfl (fun h9 => ?_) (fun h9 => ?_)
          ·
            refine wp_skip ?_
            refine tN ?_
            refine sq ?_
            refine wp_block ?_
            refine sq ?_
            refine wp_region_lit ?_
            refine st hF (g_move hF rfl) rfl fun a hF => st hF (g_indexSl (i := gj) ty_sl_22 hF rfl rfl rfl (by omega)) rfl fun a hF => st hF (g_load ty_on_2 hF rfl (hM.fz 0 rfl) (numC_get (k := ((gi) / ((n) ^ (r))) * (n) ^ (o) + (gj)) (by omega) (by omega))) rfl fun a hF => st hF (g_assign hF rfl) rfl fun a hF => st hF (g_assign hF rfl) rfl fun a hF => ?_
            refine wpList_nil ?_
            refine tN ?_
            refine sq ?_
            refine wp_region_lit ?_
            refine st hF (g_move hF rfl) rfl fun a hF => st hF (g_move hF rfl) rfl fun a hF => st hF (g_move hF rfl) rfl fun a hF => st hF (g_len ty_us_22 hF rfl) rfl fun a hF => ?_
            refine stR hF (d_call Try.call67 hF (.cons rfl (.cons rfl (.cons rfl .nil))) (partOf_ok b6 (0 + (gi) * (n) ^ (o + s) * 1) ((n) ^ (o + s)) ((n) ^ (o + s)) (gj) ((n) ^ (s)) _ (by omega) (by omega) (by omega))) rfl ?_
            rintro _ w' a ⟨hx, rfl⟩ hF
            have hM := hM.ext hx
            refine st hF (g_assign hF rfl) rfl fun a hF => ?_
            refine wpList_nil ?_
            refine tN ?_
            refine wp_region_lit ?_
            refine st hF (g_fieldAddr ty_fo_27_0 hF rfl) rfl fun a hF => st hF (g_load ty_on_2 hF rfl (hM.row 0 rfl) (tenC_0 (by omega))) rfl fun a hF => st hF (g_move hF rfl) rfl fun a hF => st hF (g_buildP hF (build2 hF rfl rfl) (fun w => ty_bs_74 _ _ _ _ w)) rfl fun a hF => st hF (g_move hF rfl) rfl fun a hF => st hF (g_move hF rfl) rfl fun a hF => ?_
            refine stR hF (d_callX Try.call65 hF (.cons rfl (.cons rfl (.cons rfl .nil))) (addSumsI_ok (p) b6 (0 + (gi) * (n) ^ (o + s) * 1 + (gj) * ((n) ^ (s)) * 1) ((n) ^ (s)) ((n ^ ((i + r) + (o + s)))) bz (0 + ((gi) % ((n) ^ (r))) * (n) ^ (s) * 1) ((n) ^ (s)) ((n) ^ (s)) (f (((gi) / ((n) ^ (r))) * (n) ^ (o) + (gj))) _ (sdL p (n ^ o) (n ^ r) (n ^ s) (n ^ (o + s)) f h (gi * n ^ (o + s) + gj * n ^ s)) (fun q => h (((gi) % ((n) ^ (r))) * (n) ^ (s) + q)) _ (by omega) (by omega) (by omega) (fun c => Nat.le_of_lt (Nat.lt_of_lt_of_le (sdL_lt hp0) (by omega))) (fun q => by have := hhp (gi % n ^ r * n ^ s + q); omega) (by omega) (by omega) (by omega) (hM.row 3 rfl) (hM.fz 1 rfl) ((hM.froz _ _ (List.mem_of_getElem? (i := 1) rfl)).2 3 _ _ rfl).symm (fun q hq => numC_get (k := ((gi) % ((n) ^ (r))) * (n) ^ (s) + q) (by omega) (by omega)))) rfl ?_
            rintro _ w' a ⟨hx, rfl, hbk⟩ hF
            have hM := hM.upd 3 rfl hx hbk
            change Mem w w' [some (b1, tenC (p : Int) (n : Int) (i : Int) (o : Int) (.slice (some ⟨b, 0, none⟩) (n ^ (i + o)) (n ^ (i + o)))), some (b2, tenC (p : Int) (n : Int) (r : Int) (s : Int) (.slice (some ⟨bz, 0, none⟩) (n ^ (r + s)) (n ^ (r + s)))), some (b3, tenC 0 0 0 0 (.slice none 0 0)), some (b6, numC (n ^ ((i + r) + (o + s))) (fun c => if 0 + (gi) * (n) ^ (o + s) * 1 + (gj) * ((n) ^ (s)) * 1 ≤ c ∧ c < 0 + (gi) * (n) ^ (o + s) * 1 + (gj) * ((n) ^ (s)) * 1 + ((n) ^ (s)) then ((sdL p (n ^ o) (n ^ r) (n ^ s) (n ^ (o + s)) f h (gi * n ^ (o + s) + gj * n ^ s)) c + f (((gi) / ((n) ^ (r))) * (n) ^ (o) + (gj)) * (fun q => h (((gi) % ((n) ^ (r))) * (n) ^ (s) + q)) (c - (0 + (gi) * (n) ^ (o + s) * 1 + (gj) * ((n) ^ (s)) * 1))) % (p) else (sdL p (n ^ o) (n ^ r) (n ^ s) (n ^ (o + s)) f h (gi * n ^ (o + s) + gj * n ^ s)) c)), some (b7, tenC ((p : Nat) : Int) ((n : Nat) : Int) ((i + r : Nat) : Int) ((o + s : Nat) : Int) (.slice (some ⟨b6, 0, none⟩) ((n) ^ ((i + r) + (o + s))) ((n) ^ ((i + r) + (o + s)))))] [(b, numC (n ^ (i + o)) f), (bz, numC (n ^ (r + s)) h)] at hM
            refine wpList_nil ?_
            refine iN ?_
            refine tN ?_
            refine wp_region_lit ?_
            refine st hF (g_add hF rfl rfl (add_nat (gj) (1) (by omega))) rfl fun a hF => st hF (g_move hF rfl) rfl fun a hF => ?_
            refine wpList_nil ?_
            refine tN ?_
            refine ⟨gj + 1, ⟨by omega, trivial, hF.sub _ (by repeat' constructor), ?_⟩, by omega⟩
            refine hM.rowc 3 rfl (numC_congr fun c hc => sdL_step (by omega) (by omega) hWe (by omega) rfl rfl (fun _ => rfl))
          ·
            obtain rfl : n ^ o = gj := by omega
            refine wp_exit ?_
            refine tX ?_
            refine tX ?_
            refine ib_same ?_
            refine iN ?_
            refine tN ?_
            refine wp_region_lit ?_
            refine st hF (g_add hF rfl rfl (add_nat (gi) (1) (by omega))) rfl fun a hF => st hF (g_move hF rfl) rfl fun a hF => ?_
            refine wpList_nil ?_
            refine tN ?_
            refine ⟨gi + 1, ⟨by omega, trivial, hF.sub _ (by repeat' constructor), ?_⟩, by omega⟩
            refine hM.rowc 3 rfl (numC_congr fun c hc => sdL_row hWe)
      ·
        obtain rfl : n ^ (i + r) = gi := by omega
        refine wp_exit ?_
        refine tX ?_
        refine tX ?_
        refine ib_same ?_
        refine tN ?_
        refine sq ?_
        refine wp_region_lit ?_
        refine st hF (g_loadAgg ty_ag_27 hF rfl (hM.row 4 rfl) (by simp only [fnC_size, cells_size, vecC_size, tabC_size, planeC_size, tenC_size, smC_size, numC_size, numI_size] <;> omega) (whole rfl)) rfl fun a hF => ?_
        refine stN hF (d_storeAgg 2 hM rfl ty_sz_27 hF rfl rfl (tenC_one rfl) (by simp only [fnC_size, cells_size, vecC_size, tabC_size, planeC_size, tenC_size, smC_size, numC_size, numI_size]) (by simp only [fnC_size, cells_size, vecC_size, tabC_size, planeC_size, tenC_size, smC_size, numC_size, numI_size] <;> omega) (splice_whole _ _ rfl)) ?_
        intro _ w' a hM hF
        change Mem w w' [some (b1, tenC (p : Int) (n : Int) (i : Int) (o : Int) (.slice (some ⟨b, 0, none⟩) (n ^ (i + o)) (n ^ (i + o)))), some (b2, tenC (p : Int) (n : Int) (r : Int) (s : Int) (.slice (some ⟨bz, 0, none⟩) (n ^ (r + s)) (n ^ (r + s)))), some (b3, tenC ((p : Nat) : Int) ((n : Nat) : Int) ((i + r : Nat) : Int) ((o + s : Nat) : Int) (.slice (some ⟨b6, 0, none⟩) ((n) ^ ((i + r) + (o + s))) ((n) ^ ((i + r) + (o + s))))), some (b6, numC (n ^ ((i + r) + (o + s))) (sdL p (n ^ o) (n ^ r) (n ^ s) (n ^ (o + s)) f h ((n ^ (i + r)) * n ^ (o + s)))), some (b7, tenC ((p : Nat) : Int) ((n : Nat) : Int) ((i + r : Nat) : Int) ((o + s : Nat) : Int) (.slice (some ⟨b6, 0, none⟩) ((n) ^ ((i + r) + (o + s))) ((n) ^ ((i + r) + (o + s)))))] [(b, numC (n ^ (i + o)) f), (bz, numC (n ^ (r + s)) h)] at hM
        refine st hF (g_assign hF rfl) rfl fun a hF => ?_
        refine wpList_nil ?_
        refine tN ?_
        refine wp_ret ?_
        refine fin2 rfl hF.defers (res_agg ty_ag_27 hF rfl (hM.row 2 rfl) (by simp only [fnC_size, cells_size, vecC_size, tabC_size, planeC_size, tenC_size, smC_size, numC_size, numI_size])) (res_tmp hF rfl) ⟨_, rfl, hM.below, ?_⟩
        exact ⟨_, rfl, hM.ge 3 rfl, (hM.rowc (cs' := numC (n ^ ((i + r) + (o + s))) (sdF p (n ^ o) (n ^ r) (n ^ s) (n ^ (o + s)) f h)) 3 rfl (numC_congr fun c hc => by unfold sdL; rw [if_pos (by rw [← Nat.pow_add]; exact hc)])).row 3 rfl⟩

theorem l03Side_ok (p n i o r s b bz : Nat) (f h : Nat → Nat) (w : World) (hpP : primeP (p : Int)) (hn0 : 0 < n) (hn : n ≤ 6) (hwa : wl n i o) (hwb : wl n r s) (hw : wl n (i + r) (o + s)) (hfp : ∀ c, f c < p) (hhp : ∀ c, h c < p) (hb : Blk w b (numC (n ^ (i + o)) f)) (hbz : Blk w bz (numC (n ^ (r + s)) h)) :
    CallsR Try.prog 66 #[.agg (tenC (p : Int) (n : Int) (i : Int) (o : Int) (.slice (some ⟨b, 0, none⟩) (n ^ (i + o)) (n ^ (i + o)))), .agg (tenC (p : Int) (n : Int) (r : Int) (s : Int) (.slice (some ⟨bz, 0, none⟩) (n ^ (r + s)) (n ^ (r + s))))] w (fun v w' => TenOut w w' (p : Int) (n : Int) ((i + r : Nat) : Int) ((o + s : Nat) : Int) (n ^ ((i + r) + (o + s))) (sdF p (n ^ o) (n ^ r) (n ^ s) (n ^ (o + s)) f h) v) := by
  refine calls_fr [.agg (tenC (p : Int) (n : Int) (i : Int) (o : Int) (.slice (some ⟨b, 0, none⟩) (n ^ (i + o)) (n ^ (i + o)))), .agg (tenC (p : Int) (n : Int) (r : Int) (s : Int) (.slice (some ⟨bz, 0, none⟩) (n ^ (r + s)) (n ^ (r + s))))] Try.func66 rfl Try.ntmps66 rfl fun a hF => ?_
  have hM : Mem w w [none, none, none, none, none] [(b, numC (n ^ (i + o)) f), (bz, numC (n ^ (r + s)) h)] := MemX.startD w 5 _ (startD2 hb hbz)
  change Fr 102 a [(0, .agg (tenC (p : Int) (n : Int) (i : Int) (o : Int) (.slice (some ⟨b, 0, none⟩) (n ^ (i + o)) (n ^ (i + o))))), (1, .agg (tenC (p : Int) (n : Int) (r : Int) (s : Int) (.slice (some ⟨bz, 0, none⟩) (n ^ (r + s)) (n ^ (r + s)))))] at hF
  have hp0 : 0 < p := by have h := hpP; unfold primeP at h; omega
  have hp2 : p < 100 := by have h := hpP; unfold primeP at h; omega
  have hwa3 := hwa.2.2
  have hwb3 := hwb.2.2
  have hwa1 := hwa.1
  have hwa2 := hwa.2.1
  have hwb1 := hwb.1
  have hwb2 := hwb.2.1
  have h1 := TenP.of_nat hpP hn0 hn hwa rfl hfp
  have h2 := TenP.of_nat hpP hn0 hn hwb rfl hhp
  have hw3 := hw.2.2
  have hw1 := hw.1
  have hw2 := hw.2.1
  have hA0 := pow_one_le (k := i) hn0
  have hB0 := pow_one_le (k := o) hn0
  have hC0 := pow_one_le (k := r) hn0
  have hD0 := pow_one_le (k := s) hn0
  have hWe : n ^ (o + s) = n ^ o * n ^ s := Nat.pow_add ..
  have hRl : n ^ (i + r) ≤ n ^ ((i + r) + (o + s)) := pow_le_add hn0
  have hWl : n ^ (o + s) ≤ n ^ ((i + r) + (o + s)) := pow_le_add2 hn0
  have hBl : n ^ o ≤ n ^ (o + s) := pow_le_add hn0
  have hDl : n ^ s ≤ n ^ (o + s) := pow_le_add2 hn0
  have hAl : n ^ i ≤ n ^ (i + r) := pow_le_add hn0
  have hCl : n ^ r ≤ n ^ (i + r) := pow_le_add2 hn0
  have hAB : n ^ i * n ^ o = n ^ (i + o) := (Nat.pow_add ..).symm
  have hCD : n ^ r * n ^ s = n ^ (r + s) := (Nat.pow_add ..).symm
  have hE1 : n ^ ((i + r) + o) ≤ n ^ ((i + r) + o + s) := pow_le_add hn0
  have hE2 : n ^ ((i + r) + o + s) = n ^ ((i + r) + (o + s)) := by rw [Nat.add_assoc (i + r) o s]
  refine sq ?_
  refine wp_region_lit ?_
  refine stR hF (d_box 0 hM hF rfl) rfl ?_
  rintro _ w' a ⟨b1, rfl, hM, -⟩ hF
  change Mem w w' [some (b1, tenC (p : Int) (n : Int) (i : Int) (o : Int) (.slice (some ⟨b, 0, none⟩) (n ^ (i + o)) (n ^ (i + o)))), none, none, none, none] [(b, numC (n ^ (i + o)) f), (bz, numC (n ^ (r + s)) h)] at hM
  refine stR hF (d_box 1 hM hF rfl) rfl ?_
  rintro _ w' a ⟨b2, rfl, hM, -⟩ hF
  change Mem w w' [some (b1, tenC (p : Int) (n : Int) (i : Int) (o : Int) (.slice (some ⟨b, 0, none⟩) (n ^ (i + o)) (n ^ (i + o)))), some (b2, tenC (p : Int) (n : Int) (r : Int) (s : Int) (.slice (some ⟨bz, 0, none⟩) (n ^ (r + s)) (n ^ (r + s)))), none, none, none] [(b, numC (n ^ (i + o)) f), (bz, numC (n ^ (r + s)) h)] at hM
  refine stR hF (d_alloc 2 hM ty_ze_27) rfl ?_
  rintro _ w' a ⟨b3, rfl, hM, -⟩ hF
  change Mem w w' [some (b1, tenC (p : Int) (n : Int) (i : Int) (o : Int) (.slice (some ⟨b, 0, none⟩) (n ^ (i + o)) (n ^ (i + o)))), some (b2, tenC (p : Int) (n : Int) (r : Int) (s : Int) (.slice (some ⟨bz, 0, none⟩) (n ^ (r + s)) (n ^ (r + s)))), some (b3, tenC 0 0 0 0 (.slice none 0 0)), none, none] [(b, numC (n ^ (i + o)) f), (bz, numC (n ^ (r + s)) h)] at hM
  refine wpList_nil ?_
  refine tN ?_
  refine sq ?_
  refine wp_region_lit ?_
  refine st hF (g_fieldAddr ty_fo_27_0 hF rfl) rfl fun a hF => st hF (g_load ty_on_2 hF rfl (hM.row 0 rfl) (tenC_0 (by omega))) rfl fun a hF => st hF (g_fieldAddr ty_fo_27_1 hF rfl) rfl fun a hF => st hF (g_load ty_on_2 hF rfl (hM.row 0 rfl) (tenC_1 (by omega))) rfl fun a hF => st hF (g_fieldAddr ty_fo_27_2 hF rfl) rfl fun a hF => st hF (g_load ty_on_2 hF rfl (hM.row 0 rfl) (tenC_2 (by omega))) rfl fun a hF => st hF (g_fieldAddr ty_fo_27_2 hF rfl) rfl fun a hF => st hF (g_load ty_on_2 hF rfl (hM.row 1 rfl) (tenC_2 (by omega))) rfl fun a hF => st hF (g_add hF rfl rfl (add_nat (i) (r) (by omega))) rfl fun a hF => st hF (g_fieldAddr ty_fo_27_3 hF rfl) rfl fun a hF => st hF (g_load ty_on_2 hF rfl (hM.row 0 rfl) (tenC_3 (by omega))) rfl fun a hF => st hF (g_fieldAddr ty_fo_27_3 hF rfl) rfl fun a hF => st hF (g_load ty_on_2 hF rfl (hM.row 1 rfl) (tenC_3 (by omega))) rfl fun a hF => st hF (g_add hF rfl rfl (add_nat (o) (s) (by omega))) rfl fun a hF => ?_
  refine stR hF (d_call Try.call54 hF (.cons rfl (.cons rfl (.cons rfl (.cons rfl .nil)))) (l03Empty_ok (p) (n) (i + r) (o + s) _ (by omega) (by omega) hw)) rfl ?_
  rintro _ w' a ⟨hx, b4, rfl, hge, hbk⟩ hF
  have hM := hM.fill hx 3 hbk hge
  change Mem w w' [some (b1, tenC (p : Int) (n : Int) (i : Int) (o : Int) (.slice (some ⟨b, 0, none⟩) (n ^ (i + o)) (n ^ (i + o)))), some (b2, tenC (p : Int) (n : Int) (r : Int) (s : Int) (.slice (some ⟨bz, 0, none⟩) (n ^ (r + s)) (n ^ (r + s)))), some (b3, tenC 0 0 0 0 (.slice none 0 0)), some (b4, numC ((n) ^ ((i + r) + (o + s))) (fun _ => 0)), none] [(b, numC (n ^ (i + o)) f), (bz, numC (n ^ (r + s)) h)] at hM
  refine stR hF (d_alloc 4 hM ty_ze_27) rfl ?_
  rintro _ w' a ⟨b5, rfl, hM, -⟩ hF
  change Mem w w' [some (b1, tenC (p : Int) (n : Int) (i : Int) (o : Int) (.slice (some ⟨b, 0, none⟩) (n ^ (i + o)) (n ^ (i + o)))), some (b2, tenC (p : Int) (n : Int) (r : Int) (s : Int) (.slice (some ⟨bz, 0, none⟩) (n ^ (r + s)) (n ^ (r + s)))), some (b3, tenC 0 0 0 0 (.slice none 0 0)), some (b4, numC ((n) ^ ((i + r) + (o + s))) (fun _ => 0)), some (b5, tenC 0 0 0 0 (.slice none 0 0))] [(b, numC (n ^ (i + o)) f), (bz, numC (n ^ (r + s)) h)] at hM
  refine stN hF (d_storeAgg 4 hM rfl ty_sz_27 hF rfl rfl (tenC_one rfl) (by simp only [fnC_size, cells_size, vecC_size, tabC_size, planeC_size, tenC_size, smC_size, numC_size, numI_size]) (by simp only [fnC_size, cells_size, vecC_size, tabC_size, planeC_size, tenC_size, smC_size, numC_size, numI_size] <;> omega) (splice_whole _ _ rfl)) ?_
  intro _ w' a hM hF
  change Mem w w' [some (b1, tenC (p : Int) (n : Int) (i : Int) (o : Int) (.slice (some ⟨b, 0, none⟩) (n ^ (i + o)) (n ^ (i + o)))), some (b2, tenC (p : Int) (n : Int) (r : Int) (s : Int) (.slice (some ⟨bz, 0, none⟩) (n ^ (r + s)) (n ^ (r + s)))), some (b3, tenC 0 0 0 0 (.slice none 0 0)), some (b4, numC ((n) ^ ((i + r) + (o + s))) (fun _ => 0)), some (b5, tenC ((p : Nat) : Int) ((n : Nat) : Int) ((i + r : Nat) : Int) ((o + s : Nat) : Int) (.slice (some ⟨b4, 0, none⟩) ((n) ^ ((i + r) + (o + s))) ((n) ^ ((i + r) + (o + s)))))] [(b, numC (n ^ (i + o)) f), (bz, numC (n ^ (r + s)) h)] at hM
  refine wpList_nil ?_
  refine tN ?_
  refine sq ?_
  refine c_par 19 [] [.val (ptr b1 (0 + 1)), .val (.int .i64 (((n : Nat) : Int))), .val (ptr b1 (0 + 2)), .val (.int .i64 (((i : Nat) : Int))), .val (.int .i64 ((((n) ^ (i) : Nat) : Int))), .val (ptr b1 (0 + 1)), .val (.int .i64 (((n : Nat) : Int))), .val (ptr b2 (0 + 2)), .val (.int .i64 (((r : Nat) : Int))), .val (.int .i64 ((((n) ^ (r) : Nat) : Int))), .val (ptr b1 (0 + 1)), .val (.int .i64 (((n : Nat) : Int))), .val (ptr b1 (0 + 3)), .val (.int .i64 (((o : Nat) : Int))), .val (.int .i64 ((((n) ^ (o) : Nat) : Int))), .val (ptr b1 (0 + 1)), .val (.int .i64 (((n : Nat) : Int))), .val (ptr b2 (0 + 3)), .val (.int .i64 (((s : Nat) : Int)))] hmix rfl hF rfl hM ⟨fun a w gG hF hS hd => by exact par_val hS rfl (g_fieldAddr ty_fo_27_1 hF rfl), fun a w gG hF hS hd => by have hF := hF.ext1 28 (hd 0 rfl rfl); have hM := hS.mem rfl; exact par_val hS rfl (g_load ty_on_2 hF rfl (hM.row 0 rfl) (tenC_1 (by omega))), fun a w gG hF hS hd => by exact par_val hS rfl (g_fieldAddr ty_fo_27_2 hF rfl), fun a w gG hF hS hd => by have hF := hF.ext1 30 (hd 2 rfl rfl); have hM := hS.mem rfl; exact par_val hS rfl (g_load ty_on_2 hF rfl (hM.row 0 rfl) (tenC_2 (by omega))), fun a w gG hF hS hd => by have hF := hF.ext1 29 (hd 1 rfl rfl); have hF := hF.ext1 31 (hd 3 rfl rfl); exact par_call (by repeat constructor) hS rfl (d_call Try.call68 hF (.cons rfl (.cons rfl .nil)) ((CallsR.val (l03Power_ok (n) (i) _ (by omega) (by omega) (by omega)) (congrArg (fun x : Nat => Value.int .i64 (x : Int)) (pwr_le (by omega) (by omega)))))), fun a w gG hF hS hd => by exact par_val hS rfl (g_fieldAddr ty_fo_27_1 hF rfl), fun a w gG hF hS hd => by have hF := hF.ext1 33 (hd 5 rfl rfl); have hM := hS.mem rfl; exact par_val hS rfl (g_load ty_on_2 hF rfl (hM.row 0 rfl) (tenC_1 (by omega))), fun a w gG hF hS hd => by exact par_val hS rfl (g_fieldAddr ty_fo_27_2 hF rfl), fun a w gG hF hS hd => by have hF := hF.ext1 35 (hd 7 rfl rfl); have hM := hS.mem rfl; exact par_val hS rfl (g_load ty_on_2 hF rfl (hM.row 1 rfl) (tenC_2 (by omega))), fun a w gG hF hS hd => by have hF := hF.ext1 34 (hd 6 rfl rfl); have hF := hF.ext1 36 (hd 8 rfl rfl); exact par_call (by repeat constructor) hS rfl (d_call Try.call68 hF (.cons rfl (.cons rfl .nil)) ((CallsR.val (l03Power_ok (n) (r) _ (by omega) (by omega) (by omega)) (congrArg (fun x : Nat => Value.int .i64 (x : Int)) (pwr_le (by omega) (by omega)))))), fun a w gG hF hS hd => by exact par_val hS rfl (g_fieldAddr ty_fo_27_1 hF rfl), fun a w gG hF hS hd => by have hF := hF.ext1 38 (hd 10 rfl rfl); have hM := hS.mem rfl; exact par_val hS rfl (g_load ty_on_2 hF rfl (hM.row 0 rfl) (tenC_1 (by omega))), fun a w gG hF hS hd => by exact par_val hS rfl (g_fieldAddr ty_fo_27_3 hF rfl), fun a w gG hF hS hd => by have hF := hF.ext1 40 (hd 12 rfl rfl); have hM := hS.mem rfl; exact par_val hS rfl (g_load ty_on_2 hF rfl (hM.row 0 rfl) (tenC_3 (by omega))), fun a w gG hF hS hd => by have hF := hF.ext1 39 (hd 11 rfl rfl); have hF := hF.ext1 41 (hd 13 rfl rfl); exact par_call (by repeat constructor) hS rfl (d_call Try.call68 hF (.cons rfl (.cons rfl .nil)) ((CallsR.val (l03Power_ok (n) (o) _ (by omega) (by omega) (by omega)) (congrArg (fun x : Nat => Value.int .i64 (x : Int)) (pwr_le (by omega) (by omega)))))), fun a w gG hF hS hd => by exact par_val hS rfl (g_fieldAddr ty_fo_27_1 hF rfl), fun a w gG hF hS hd => by have hF := hF.ext1 43 (hd 15 rfl rfl); have hM := hS.mem rfl; exact par_val hS rfl (g_load ty_on_2 hF rfl (hM.row 0 rfl) (tenC_1 (by omega))), fun a w gG hF hS hd => by exact par_val hS rfl (g_fieldAddr ty_fo_27_3 hF rfl), fun a w gG hF hS hd => by have hF := hF.ext1 45 (hd 17 rfl rfl); have hM := hS.mem rfl; exact par_val hS rfl (g_load ty_on_2 hF rfl (hM.row 1 rfl) (tenC_3 (by omega))), trivial⟩ ?_
  intro a w' L hF hS hq
  have hF := hF.ext1 28 (hq 0 rfl rfl)
  have hF := hF.ext1 29 (hq 1 rfl rfl)
  have hF := hF.ext1 30 (hq 2 rfl rfl)
  have hF := hF.ext1 31 (hq 3 rfl rfl)
  have hF := hF.ext1 32 (hq 4 rfl rfl)
  have hF := hF.ext1 33 (hq 5 rfl rfl)
  have hF := hF.ext1 34 (hq 6 rfl rfl)
  have hF := hF.ext1 35 (hq 7 rfl rfl)
  have hF := hF.ext1 36 (hq 8 rfl rfl)
  have hF := hF.ext1 37 (hq 9 rfl rfl)
  have hF := hF.ext1 38 (hq 10 rfl rfl)
  have hF := hF.ext1 39 (hq 11 rfl rfl)
  have hF := hF.ext1 40 (hq 12 rfl rfl)
  have hF := hF.ext1 41 (hq 13 rfl rfl)
  have hF := hF.ext1 42 (hq 14 rfl rfl)
  have hF := hF.ext1 43 (hq 15 rfl rfl)
  have hF := hF.ext1 44 (hq 16 rfl rfl)
  have hF := hF.ext1 45 (hq 17 rfl rfl)
  have hF := hF.ext1 46 (hq 18 rfl rfl)
  have hM := hS.mem rfl
  change wpList Try.prog _ _ [_, _, _, _, _] _ _
  refine stR hF (d_call Try.call68 hF (.cons rfl (.cons rfl .nil)) ((CallsR.val (l03Power_ok (n) (s) _ (by omega) (by omega) (by omega)) (congrArg (fun x : Nat => Value.int .i64 (x : Int)) (pwr_le (by omega) (by omega)))))) rfl ?_
  rintro _ w' a ⟨hx, rfl⟩ hF
  have hM := hM.ext hx
  refine st hF (g_assign hF rfl) rfl fun a hF => st hF (g_assign hF rfl) rfl fun a hF => st hF (g_assign hF rfl) rfl fun a hF => st hF (g_assign hF rfl) rfl fun a hF => ?_
  refine wpList_nil ?_
  refine tN ?_
  refine sq ?_
  refine sq ?_
  refine wp_region_lit ?_
  refine st hF (g_assign hF rfl) rfl fun a hF => ?_
  refine wpList_nil ?_
  refine tN ?_
  refine wp_block ?_
  change Mem w _ [some (b1, tenC (p : Int) (n : Int) (i : Int) (o : Int) (.slice (some ⟨b, 0, none⟩) (n ^ (i + o)) (n ^ (i + o)))), some (b2, tenC (p : Int) (n : Int) (r : Int) (s : Int) (.slice (some ⟨bz, 0, none⟩) (n ^ (r + s)) (n ^ (r + s)))), some (b3, tenC 0 0 0 0 (.slice none 0 0)), some (b4, numC ((n) ^ ((i + r) + (o + s))) (fun _ => 0)), some (b5, tenC ((p : Nat) : Int) ((n : Nat) : Int) ((i + r : Nat) : Int) ((o + s : Nat) : Int) (.slice (some ⟨b4, 0, none⟩) ((n) ^ ((i + r) + (o + s))) ((n) ^ ((i + r) + (o + s)))))] [(b, numC (n ^ (i + o)) f), (bz, numC (n ^ (r + s)) h)] at hM
  refine c_loop (fun (kk : Nat) a w' => kk ≤ n ^ i * n ^ o ∧ (True) ∧ Fr 102 a [(46, .int .i64 (((s : Nat) : Int))), (45, ptr b2 (0 + 3)), (44, .int .i64 (((n : Nat) : Int))), (43, ptr b1 (0 + 1)), (42, .int .i64 ((((n) ^ (o) : Nat) : Int))), (41, .int .i64 (((o : Nat) : Int))), (40, ptr b1 (0 + 3)), (39, .int .i64 (((n : Nat) : Int))), (38, ptr b1 (0 + 1)), (37, .int .i64 ((((n) ^ (r) : Nat) : Int))), (36, .int .i64 (((r : Nat) : Int))), (35, ptr b2 (0 + 2)), (34, .int .i64 (((n : Nat) : Int))), (33, ptr b1 (0 + 1)), (32, .int .i64 ((((n) ^ (i) : Nat) : Int))), (31, .int .i64 (((i : Nat) : Int))), (30, ptr b1 (0 + 2)), (29, .int .i64 (((n : Nat) : Int))), (28, ptr b1 (0 + 1)), (0, .agg (tenC (p : Int) (n : Int) (i : Int) (o : Int) (.slice (some ⟨b, 0, none⟩) (n ^ (i + o)) (n ^ (i + o))))), (1, .agg (tenC (p : Int) (n : Int) (r : Int) (s : Int) (.slice (some ⟨bz, 0, none⟩) (n ^ (r + s)) (n ^ (r + s))))), (2, ptr b1 (0)), (3, ptr b2 (0)), (4, ptr b3 (0)), (13, ptr b1 (0 + 0)), (14, .int .i64 (((p : Nat) : Int))), (15, ptr b1 (0 + 1)), (16, .int .i64 (((n : Nat) : Int))), (17, ptr b1 (0 + 2)), (18, .int .i64 (((i : Nat) : Int))), (19, ptr b2 (0 + 2)), (20, .int .i64 (((r : Nat) : Int))), (21, .int .i64 (((i + r : Nat) : Int))), (22, ptr b1 (0 + 3)), (23, .int .i64 (((o : Nat) : Int))), (24, ptr b2 (0 + 3)), (25, .int .i64 (((s : Nat) : Int))), (26, .int .i64 (((o + s : Nat) : Int))), (27, .agg (tenC ((p : Nat) : Int) ((n : Nat) : Int) ((i + r : Nat) : Int) ((o + s : Nat) : Int) (.slice (some ⟨b4, 0, none⟩) ((n) ^ ((i + r) + (o + s))) ((n) ^ ((i + r) + (o + s)))))), (5, ptr b5 (0)), (47, .int .i64 ((((n) ^ (s) : Nat) : Int))), (6, .int .i64 ((((n) ^ (i) : Nat) : Int))), (7, .int .i64 ((((n) ^ (r) : Nat) : Int))), (8, .int .i64 ((((n) ^ (o) : Nat) : Int))), (9, .int .i64 ((((n) ^ (s) : Nat) : Int))), (10, .int .i64 (((kk : Nat) : Int)))] ∧ Mem w w' [some (b1, tenC (p : Int) (n : Int) (i : Int) (o : Int) (.slice (some ⟨b, 0, none⟩) (n ^ (i + o)) (n ^ (i + o)))), some (b2, tenC (p : Int) (n : Int) (r : Int) (s : Int) (.slice (some ⟨bz, 0, none⟩) (n ^ (r + s)) (n ^ (r + s)))), some (b3, tenC 0 0 0 0 (.slice none 0 0)), some (b4, numC (n ^ ((i + r) + (o + s))) (sdM p (n ^ o) (n ^ r) (n ^ s) (n ^ (o + s)) f h kk 0)), some (b5, tenC ((p : Nat) : Int) ((n : Nat) : Int) ((i + r : Nat) : Int) ((o + s : Nat) : Int) (.slice (some ⟨b4, 0, none⟩) ((n) ^ ((i + r) + (o + s))) ((n) ^ ((i + r) + (o + s)))))] [(b, numC (n ^ (i + o)) f), (bz, numC (n ^ (r + s)) h)]) (fun kk => n ^ i * n ^ o - kk) 0 ?_ ?_
  ·
    refine ⟨by omega, trivial, hF.sub _ (by repeat' constructor), ?_⟩
    refine hM.rowc 3 rfl (numC_congr fun c hc => sdM_0.symm)
  ·
    clear hF hM
    rintro gi a w' ⟨hgi, hinv1, hF, hM⟩
    have hX : gi < n ^ i * n ^ o → gi / n ^ o * n ^ r + n ^ r ≤ n ^ (i + r) := fun h => idx_bd2 (div_pow (by rw [Nat.pow_add]; exact h))
    have hio := Nat.mod_lt gi hB0
    refine sq ?_
    refine sq ?_
    refine wp_region_lit ?_
    refine st hF (g_move hF rfl) rfl fun a hF => st hF (g_move hF rfl) rfl fun a hF => st hF (g_move hF rfl) rfl fun a hF => st hF (g_mul hF rfl rfl (mul_nat ((n) ^ (i)) ((n) ^ (o)) (by omega))) rfl fun a hF => st hF (g_lss hF rfl rfl) rfl fun a hF => ?_
    refine wpList_nil ?_
    refine tN ?_
    refine c_cond hF rfl (fun h6 => ?_) (fun h6 => ?_)
    ·
      refine wp_skip ?_
      refine tN ?_
      refine sq ?_
      refine wp_block ?_
      refine sq ?_
      refine wp_region_lit ?_
      refine st hF (g_assign hF rfl) rfl fun a hF => ?_
      refine wpList_nil ?_
      refine tN ?_
      refine wp_block ?_
      change Mem w _ [some (b1, tenC (p : Int) (n : Int) (i : Int) (o : Int) (.slice (some ⟨b, 0, none⟩) (n ^ (i + o)) (n ^ (i + o)))), some (b2, tenC (p : Int) (n : Int) (r : Int) (s : Int) (.slice (some ⟨bz, 0, none⟩) (n ^ (r + s)) (n ^ (r + s)))), some (b3, tenC 0 0 0 0 (.slice none 0 0)), some (b4, numC (n ^ ((i + r) + (o + s))) (sdM p (n ^ o) (n ^ r) (n ^ s) (n ^ (o + s)) f h gi 0)), some (b5, tenC ((p : Nat) : Int) ((n : Nat) : Int) ((i + r : Nat) : Int) ((o + s : Nat) : Int) (.slice (some ⟨b4, 0, none⟩) ((n) ^ ((i + r) + (o + s))) ((n) ^ ((i + r) + (o + s)))))] [(b, numC (n ^ (i + o)) f), (bz, numC (n ^ (r + s)) h)] at hM
      refine c_loop (fun (kk : Nat) a w' => kk ≤ n ^ r * n ^ s ∧ (True) ∧ Fr 102 a [(46, .int .i64 (((s : Nat) : Int))), (45, ptr b2 (0 + 3)), (44, .int .i64 (((n : Nat) : Int))), (43, ptr b1 (0 + 1)), (42, .int .i64 ((((n) ^ (o) : Nat) : Int))), (41, .int .i64 (((o : Nat) : Int))), (40, ptr b1 (0 + 3)), (39, .int .i64 (((n : Nat) : Int))), (38, ptr b1 (0 + 1)), (37, .int .i64 ((((n) ^ (r) : Nat) : Int))), (36, .int .i64 (((r : Nat) : Int))), (35, ptr b2 (0 + 2)), (34, .int .i64 (((n : Nat) : Int))), (33, ptr b1 (0 + 1)), (32, .int .i64 ((((n) ^ (i) : Nat) : Int))), (31, .int .i64 (((i : Nat) : Int))), (30, ptr b1 (0 + 2)), (29, .int .i64 (((n : Nat) : Int))), (28, ptr b1 (0 + 1)), (0, .agg (tenC (p : Int) (n : Int) (i : Int) (o : Int) (.slice (some ⟨b, 0, none⟩) (n ^ (i + o)) (n ^ (i + o))))), (1, .agg (tenC (p : Int) (n : Int) (r : Int) (s : Int) (.slice (some ⟨bz, 0, none⟩) (n ^ (r + s)) (n ^ (r + s))))), (2, ptr b1 (0)), (3, ptr b2 (0)), (4, ptr b3 (0)), (13, ptr b1 (0 + 0)), (14, .int .i64 (((p : Nat) : Int))), (15, ptr b1 (0 + 1)), (16, .int .i64 (((n : Nat) : Int))), (17, ptr b1 (0 + 2)), (18, .int .i64 (((i : Nat) : Int))), (19, ptr b2 (0 + 2)), (20, .int .i64 (((r : Nat) : Int))), (21, .int .i64 (((i + r : Nat) : Int))), (22, ptr b1 (0 + 3)), (23, .int .i64 (((o : Nat) : Int))), (24, ptr b2 (0 + 3)), (25, .int .i64 (((s : Nat) : Int))), (26, .int .i64 (((o + s : Nat) : Int))), (27, .agg (tenC ((p : Nat) : Int) ((n : Nat) : Int) ((i + r : Nat) : Int) ((o + s : Nat) : Int) (.slice (some ⟨b4, 0, none⟩) ((n) ^ ((i + r) + (o + s))) ((n) ^ ((i + r) + (o + s)))))), (5, ptr b5 (0)), (47, .int .i64 ((((n) ^ (s) : Nat) : Int))), (6, .int .i64 ((((n) ^ (i) : Nat) : Int))), (7, .int .i64 ((((n) ^ (r) : Nat) : Int))), (8, .int .i64 ((((n) ^ (o) : Nat) : Int))), (9, .int .i64 ((((n) ^ (s) : Nat) : Int))), (10, .int .i64 (((gi : Nat) : Int))), (48, .int .i64 (((gi : Nat) : Int))), (49, .int .i64 ((((n) ^ (i) : Nat) : Int))), (50, .int .i64 ((((n) ^ (o) : Nat) : Int))), (51, .int .i64 (((((n) ^ (i)) * ((n) ^ (o)) : Nat) : Int))), (52, .bool (decide ((((gi : Nat) : Int) : Int) < ((((n) ^ (i)) * ((n) ^ (o)) : Nat) : Int)))), (11, .int .i64 (((kk : Nat) : Int)))] ∧ Mem w w' [some (b1, tenC (p : Int) (n : Int) (i : Int) (o : Int) (.slice (some ⟨b, 0, none⟩) (n ^ (i + o)) (n ^ (i + o)))), some (b2, tenC (p : Int) (n : Int) (r : Int) (s : Int) (.slice (some ⟨bz, 0, none⟩) (n ^ (r + s)) (n ^ (r + s)))), some (b3, tenC 0 0 0 0 (.slice none 0 0)), some (b4, numC (n ^ ((i + r) + (o + s))) (sdM p (n ^ o) (n ^ r) (n ^ s) (n ^ (o + s)) f h gi kk)), some (b5, tenC ((p : Nat) : Int) ((n : Nat) : Int) ((i + r : Nat) : Int) ((o + s : Nat) : Int) (.slice (some ⟨b4, 0, none⟩) ((n) ^ ((i + r) + (o + s))) ((n) ^ ((i + r) + (o + s)))))] [(b, numC (n ^ (i + o)) f), (bz, numC (n ^ (r + s)) h)]) (fun kk => n ^ r * n ^ s - kk) 0 ?_ ?_
      ·
        refine ⟨by omega, trivial, hF.sub _ (by repeat' constructor), ?_⟩
        exact hM
      ·
        clear hF hM
        rintro gj a w' ⟨hgj, hinv2, hF, hM⟩
        have hU : gj < n ^ r * n ^ s → gj / n ^ s < n ^ r := fun h => div_pow (by rw [Nat.pow_add]; exact h)
        have hjs := Nat.mod_lt gj hD0
        have hZ : gi / n ^ o * n ^ r + gj / n ^ s < n ^ (i + r) → (gi / n ^ o * n ^ r + gj / n ^ s) * n ^ o + n ^ o ≤ n ^ ((i + r) + o) := idx_bd2
        have hV : (gi / n ^ o * n ^ r + gj / n ^ s) * n ^ o + gi % n ^ o < n ^ ((i + r) + o) → ((gi / n ^ o * n ^ r + gj / n ^ s) * n ^ o + gi % n ^ o) * n ^ s + n ^ s ≤ n ^ ((i + r) + o + s) := idx_bd2
        have hfx := hfp gi
        have hhx := hhp gj
        have hml : f gi * h gj ≤ 100 * 100 := Nat.mul_le_mul (by omega) (by omega)
        refine sq ?_
        refine sq ?_
        refine wp_region_lit ?_
        refine st hF (g_move hF rfl) rfl fun a hF => st hF (g_move hF rfl) rfl fun a hF => st hF (g_move hF rfl) rfl fun a hF => st hF (g_mul hF rfl rfl (mul_nat ((n) ^ (r)) ((n) ^ (s)) (by omega))) rfl fun a hF => st hF (g_lss hF rfl rfl) rfl fun a hF => ?_
        refine wpList_nil ?_
        refine tN ?_
        refine c_cond hF rfl (fun h7 => ?_) (fun h7 => ?_)
        ·
          refine wp_skip ?_
          refine tN ?_
          refine sq ?_
          refine wp_block ?_
          refine sq ?_
          refine c_par 20 [] [.val (.int .i64 (((gi : Nat) : Int))), .val (.int .i64 ((((n) ^ (o) : Nat) : Int))), .val (.int .i64 ((((gi) / ((n) ^ (o)) : Nat) : Int))), .val (.int .i64 ((((n) ^ (r) : Nat) : Int))), .val (.int .i64 (((((gi) / ((n) ^ (o))) * ((n) ^ (r)) : Nat) : Int))), .val (.int .i64 (((gj : Nat) : Int))), .val (.int .i64 ((((n) ^ (s) : Nat) : Int))), .val (.int .i64 ((((gj) / ((n) ^ (s)) : Nat) : Int))), .val (.int .i64 (((((gi) / ((n) ^ (o))) * ((n) ^ (r)) + (gj) / ((n) ^ (s)) : Nat) : Int))), .val (.int .i64 ((((n) ^ (o) : Nat) : Int))), .val (.int .i64 ((((((gi) / ((n) ^ (o))) * ((n) ^ (r)) + (gj) / ((n) ^ (s))) * ((n) ^ (o)) : Nat) : Int))), .val (.int .i64 (((gi : Nat) : Int))), .val (.int .i64 ((((n) ^ (o) : Nat) : Int))), .val (.int .i64 ((((gi) % ((n) ^ (o)) : Nat) : Int))), .val (.int .i64 ((((((gi) / ((n) ^ (o))) * ((n) ^ (r)) + (gj) / ((n) ^ (s))) * ((n) ^ (o)) + (gi) % ((n) ^ (o)) : Nat) : Int))), .val (.int .i64 ((((n) ^ (s) : Nat) : Int))), .val (.int .i64 (((((((gi) / ((n) ^ (o))) * ((n) ^ (r)) + (gj) / ((n) ^ (s))) * ((n) ^ (o)) + (gi) % ((n) ^ (o))) * ((n) ^ (s)) : Nat) : Int))), .val (.int .i64 (((gj : Nat) : Int))), .val (.int .i64 ((((n) ^ (s) : Nat) : Int))), .val (.int .i64 ((((gj) % ((n) ^ (s)) : Nat) : Int)))] hmix rfl hF rfl hM ⟨fun a w gG hF hS hd => by exact par_val hS rfl (g_move hF rfl), fun a w gG hF hS hd => by exact par_val hS rfl (g_move hF rfl), fun a w gG hF hS hd => by have hF := hF.ext1 62 (hd 0 rfl rfl); have hF := hF.ext1 63 (hd 1 rfl rfl); exact par_val hS rfl (g_quo hF rfl rfl (by omega) (quo_nat (gi) ((n) ^ (o)) (by omega))), fun a w gG hF hS hd => by exact par_val hS rfl (g_move hF rfl), fun a w gG hF hS hd => by have hF := hF.ext1 64 (hd 2 rfl rfl); have hF := hF.ext1 65 (hd 3 rfl rfl); exact par_val hS rfl (g_mul hF rfl rfl (mul_nat ((gi) / ((n) ^ (o))) ((n) ^ (r)) (by omega))), fun a w gG hF hS hd => by exact par_val hS rfl (g_move hF rfl), fun a w gG hF hS hd => by exact par_val hS rfl (g_move hF rfl), fun a w gG hF hS hd => by have hF := hF.ext1 67 (hd 5 rfl rfl); have hF := hF.ext1 68 (hd 6 rfl rfl); exact par_val hS rfl (g_quo hF rfl rfl (by omega) (quo_nat (gj) ((n) ^ (s)) (by omega))), fun a w gG hF hS hd => by have hF := hF.ext1 66 (hd 4 rfl rfl); have hF := hF.ext1 69 (hd 7 rfl rfl); exact par_val hS rfl (g_add hF rfl rfl (add_nat (((gi) / ((n) ^ (o))) * ((n) ^ (r))) ((gj) / ((n) ^ (s))) (by omega))), fun a w gG hF hS hd => by exact par_val hS rfl (g_move hF rfl), fun a w gG hF hS hd => by have hF := hF.ext1 70 (hd 8 rfl rfl); have hF := hF.ext1 71 (hd 9 rfl rfl); exact par_val hS rfl (g_mul hF rfl rfl (mul_nat (((gi) / ((n) ^ (o))) * ((n) ^ (r)) + (gj) / ((n) ^ (s))) ((n) ^ (o)) (by omega))), fun a w gG hF hS hd => by exact par_val hS rfl (g_move hF rfl), fun a w gG hF hS hd => by exact par_val hS rfl (g_move hF rfl), fun a w gG hF hS hd => by have hF := hF.ext1 73 (hd 11 rfl rfl); have hF := hF.ext1 74 (hd 12 rfl rfl); exact par_val hS rfl (g_rem hF rfl rfl (by omega) (rem_nat (gi) ((n) ^ (o)))), fun a w gG hF hS hd => by have hF := hF.ext1 72 (hd 10 rfl rfl); have hF := hF.ext1 75 (hd 13 rfl rfl); exact par_val hS rfl (g_add hF rfl rfl (add_nat ((((gi) / ((n) ^ (o))) * ((n) ^ (r)) + (gj) / ((n) ^ (s))) * ((n) ^ (o))) ((gi) % ((n) ^ (o))) (by omega))), fun a w gG hF hS hd => by exact par_val hS rfl (g_move hF rfl), fun a w gG hF hS hd => by have hF := hF.ext1 76 (hd 14 rfl rfl); have hF := hF.ext1 77 (hd 15 rfl rfl); exact par_val hS rfl (g_mul hF rfl rfl (mul_nat ((((gi) / ((n) ^ (o))) * ((n) ^ (r)) + (gj) / ((n) ^ (s))) * ((n) ^ (o)) + (gi) % ((n) ^ (o))) ((n) ^ (s)) (by omega))), fun a w gG hF hS hd => by exact par_val hS rfl (g_move hF rfl), fun a w gG hF hS hd => by exact par_val hS rfl (g_move hF rfl), fun a w gG hF hS hd => by have hF := hF.ext1 79 (hd 17 rfl rfl); have hF := hF.ext1 80 (hd 18 rfl rfl); exact par_val hS rfl (g_rem hF rfl rfl (by omega) (rem_nat (gj) ((n) ^ (s)))), trivial⟩ ?_
          intro a w' L hF hS hq
          have hF := hF.ext1 62 (hq 0 rfl rfl)
          have hF := hF.ext1 63 (hq 1 rfl rfl)
          have hF := hF.ext1 64 (hq 2 rfl rfl)
          have hF := hF.ext1 65 (hq 3 rfl rfl)
          have hF := hF.ext1 66 (hq 4 rfl rfl)
          have hF := hF.ext1 67 (hq 5 rfl rfl)
          have hF := hF.ext1 68 (hq 6 rfl rfl)
          have hF := hF.ext1 69 (hq 7 rfl rfl)
          have hF := hF.ext1 70 (hq 8 rfl rfl)
          have hF := hF.ext1 71 (hq 9 rfl rfl)
          have hF := hF.ext1 72 (hq 10 rfl rfl)
          have hF := hF.ext1 73 (hq 11 rfl rfl)
          have hF := hF.ext1 74 (hq 12 rfl rfl)
          have hF := hF.ext1 75 (hq 13 rfl rfl)
          have hF := hF.ext1 76 (hq 14 rfl rfl)
          have hF := hF.ext1 77 (hq 15 rfl rfl)
          have hF := hF.ext1 78 (hq 16 rfl rfl)
          have hF := hF.ext1 79 (hq 17 rfl rfl)
          have hF := hF.ext1 80 (hq 18 rfl rfl)
          have hF := hF.ext1 81 (hq 19 rfl rfl)
          have hM := hS.mem rfl
          change wpList Try.prog _ _ [_, _] _ _
          refine st hF (g_add hF rfl rfl (add_nat (((((gi) / ((n) ^ (o))) * ((n) ^ (r)) + (gj) / ((n) ^ (s))) * ((n) ^ (o)) + (gi) % ((n) ^ (o))) * ((n) ^ (s))) ((gj) % ((n) ^ (s))) (by omega))) rfl fun a hF => st hF (g_assign hF rfl) rfl fun a hF => ?_
          refine wpList_nil ?_
          refine tN ?_
          refine c_par 17 [] [.val (ptr b5 (0 + 4)), .val (.slice (some ⟨b4, 0, none⟩) ((n) ^ ((i + r) + (o + s))) ((n) ^ ((i + r) + (o + s)))), .val (.int .i64 (((((((gi) / ((n) ^ (o))) * ((n) ^ (r)) + (gj) / ((n) ^ (s))) * ((n) ^ (o)) + (gi) % ((n) ^ (o))) * ((n) ^ (s)) + (gj) % ((n) ^ (s)) : Nat) : Int))), .val (ptr b1 (0 + 4)), .val (.slice (some ⟨b, 0, none⟩) (n ^ (i + o)) (n ^ (i + o))), .val (.int .i64 (((gi : Nat) : Int))), .val (ptr b (0 + (gi) * 1)), .val (.int .i64 (((f (gi) : Nat) : Int))), .val (ptr b2 (0 + 4)), .val (.slice (some ⟨bz, 0, none⟩) (n ^ (r + s)) (n ^ (r + s))), .val (.int .i64 (((gj : Nat) : Int))), .val (ptr bz (0 + (gj) * 1)), .val (.int .i64 (((h (gj) : Nat) : Int))), .val (.int .i64 ((((f (gi)) * (h (gj)) : Nat) : Int))), .val (ptr b1 (0 + 0)), .val (.int .i64 (((p : Nat) : Int))), .val (.int .i64 (((((f (gi)) * (h (gj))) % (p) : Nat) : Int)))] hmix rfl hF rfl hM ⟨fun a w gG hF hS hd => by exact par_val hS rfl (g_fieldAddr ty_fo_27_4 hF rfl), fun a w gG hF hS hd => by have hF := hF.ext1 83 (hd 0 rfl rfl); have hM := hS.mem rfl; exact par_val hS rfl (g_load ty_on_22 hF rfl (hM.row 4 rfl) (tenC_4 (by omega))), fun a w gG hF hS hd => by exact par_val hS rfl (g_move hF rfl), fun a w gG hF hS hd => by exact par_val hS rfl (g_fieldAddr ty_fo_27_4 hF rfl), fun a w gG hF hS hd => by have hF := hF.ext1 86 (hd 3 rfl rfl); have hM := hS.mem rfl; exact par_val hS rfl (g_load ty_on_22 hF rfl (hM.row 0 rfl) (tenC_4 (by omega))), fun a w gG hF hS hd => by exact par_val hS rfl (g_move hF rfl), fun a w gG hF hS hd => by have hF := hF.ext1 87 (hd 4 rfl rfl); have hF := hF.ext1 88 (hd 5 rfl rfl); exact par_val hS rfl (g_indexSl (i := gi) ty_sl_22 hF rfl rfl rfl (by omega)), fun a w gG hF hS hd => by have hF := hF.ext1 89 (hd 6 rfl rfl); have hM := hS.mem rfl; exact par_val hS rfl (g_load ty_on_2 hF rfl (hM.fz 0 rfl) (numC_get (k := gi) (by omega) (by omega))), fun a w gG hF hS hd => by exact par_val hS rfl (g_fieldAddr ty_fo_27_4 hF rfl), fun a w gG hF hS hd => by have hF := hF.ext1 91 (hd 8 rfl rfl); have hM := hS.mem rfl; exact par_val hS rfl (g_load ty_on_22 hF rfl (hM.row 1 rfl) (tenC_4 (by omega))), fun a w gG hF hS hd => by exact par_val hS rfl (g_move hF rfl), fun a w gG hF hS hd => by have hF := hF.ext1 92 (hd 9 rfl rfl); have hF := hF.ext1 93 (hd 10 rfl rfl); exact par_val hS rfl (g_indexSl (i := gj) ty_sl_22 hF rfl rfl rfl (by omega)), fun a w gG hF hS hd => by have hF := hF.ext1 94 (hd 11 rfl rfl); have hM := hS.mem rfl; exact par_val hS rfl (g_load ty_on_2 hF rfl (hM.fz 1 rfl) (numC_get (k := gj) (by omega) (by omega))), fun a w gG hF hS hd => by have hF := hF.ext1 90 (hd 7 rfl rfl); have hF := hF.ext1 95 (hd 12 rfl rfl); exact par_val hS rfl (g_mul hF rfl rfl (mul_nat (f (gi)) (h (gj)) (by omega))), fun a w gG hF hS hd => by exact par_val hS rfl (g_fieldAddr ty_fo_27_0 hF rfl), fun a w gG hF hS hd => by have hF := hF.ext1 97 (hd 14 rfl rfl); have hM := hS.mem rfl; exact par_val hS rfl (g_load ty_on_2 hF rfl (hM.row 0 rfl) (tenC_0 (by omega))), fun a w gG hF hS hd => by have hF := hF.ext1 96 (hd 13 rfl rfl); have hF := hF.ext1 98 (hd 15 rfl rfl); exact par_val hS rfl (g_rem hF rfl rfl (by omega) (rem_nat ((f (gi)) * (h (gj))) (p))), trivial⟩ ?_
          intro a w' L hF hS hq
          have hF := hF.ext1 83 (hq 0 rfl rfl)
          have hF := hF.ext1 84 (hq 1 rfl rfl)
          have hF := hF.ext1 85 (hq 2 rfl rfl)
          have hF := hF.ext1 86 (hq 3 rfl rfl)
          have hF := hF.ext1 87 (hq 4 rfl rfl)
          have hF := hF.ext1 88 (hq 5 rfl rfl)
          have hF := hF.ext1 89 (hq 6 rfl rfl)
          have hF := hF.ext1 90 (hq 7 rfl rfl)
          have hF := hF.ext1 91 (hq 8 rfl rfl)
          have hF := hF.ext1 92 (hq 9 rfl rfl)
          have hF := hF.ext1 93 (hq 10 rfl rfl)
          have hF := hF.ext1 94 (hq 11 rfl rfl)
          have hF := hF.ext1 95 (hq 12 rfl rfl)
          have hF := hF.ext1 96 (hq 13 rfl rfl)
          have hF := hF.ext1 97 (hq 14 rfl rfl)
          have hF := hF.ext1 98 (hq 15 rfl rfl)
          have hF := hF.ext1 99 (hq 16 rfl rfl)
          have hM := hS.mem rfl
          change wpList Try.prog _ _ [_, _] _ _
          refine st hF (g_indexSl (i := ((((gi) / ((n) ^ (o))) * ((n) ^ (r)) + (gj) / ((n) ^ (s))) * ((n) ^ (o)) + (gi) % ((n) ^ (o))) * ((n) ^ (s)) + (gj) % ((n) ^ (s))) ty_sl_22 hF rfl rfl rfl (by omega)) rfl fun a hF => ?_
          refine stN hF (d_store 3 hM rfl ty_on_2 hF rfl rfl rfl (by first | omega | (simp only [fnC_size, cells_size, vecC_size, tabC_size, planeC_size, tenC_size, smC_size, numC_size, numI_size] <;> omega))) ?_
          intro _ w' a hM hF
          rw [show (numC (n ^ ((i + r) + (o + s))) (sdM p (n ^ o) (n ^ r) (n ^ s) (n ^ (o + s)) f h gi gj)).setIfInBounds (0 + (((((gi) / ((n) ^ (o))) * ((n) ^ (r)) + (gj) / ((n) ^ (s))) * ((n) ^ (o)) + (gi) % ((n) ^ (o))) * ((n) ^ (s)) + (gj) % ((n) ^ (s))) * 1) (.int .i64 (((((f (gi)) * (h (gj))) % (p) : Nat) : Int))) = numC (n ^ ((i + r) + (o + s))) (fun c => if c = (((((gi) / ((n) ^ (o))) * ((n) ^ (r)) + (gj) / ((n) ^ (s))) * ((n) ^ (o)) + (gi) % ((n) ^ (o))) * ((n) ^ (s)) + (gj) % ((n) ^ (s))) then ((f (gi)) * (h (gj))) % (p) else (sdM p (n ^ o) (n ^ r) (n ^ s) (n ^ (o + s)) f h gi gj) c) from numC_set (k := (((((gi) / ((n) ^ (o))) * ((n) ^ (r)) + (gj) / ((n) ^ (s))) * ((n) ^ (o)) + (gi) % ((n) ^ (o))) * ((n) ^ (s)) + (gj) % ((n) ^ (s)))) (by omega) (fun c _ => rfl)] at hM
          change Mem w w' [some (b1, tenC (p : Int) (n : Int) (i : Int) (o : Int) (.slice (some ⟨b, 0, none⟩) (n ^ (i + o)) (n ^ (i + o)))), some (b2, tenC (p : Int) (n : Int) (r : Int) (s : Int) (.slice (some ⟨bz, 0, none⟩) (n ^ (r + s)) (n ^ (r + s)))), some (b3, tenC 0 0 0 0 (.slice none 0 0)), some (b4, numC (n ^ ((i + r) + (o + s))) (fun c => if c = (((((gi) / ((n) ^ (o))) * ((n) ^ (r)) + (gj) / ((n) ^ (s))) * ((n) ^ (o)) + (gi) % ((n) ^ (o))) * ((n) ^ (s)) + (gj) % ((n) ^ (s))) then ((f (gi)) * (h (gj))) % (p) else (sdM p (n ^ o) (n ^ r) (n ^ s) (n ^ (o + s)) f h gi gj) c)), some (b5, tenC ((p : Nat) : Int) ((n : Nat) : Int) ((i + r : Nat) : Int) ((o + s : Nat) : Int) (.slice (some ⟨b4, 0, none⟩) ((n) ^ ((i + r) + (o + s))) ((n) ^ ((i + r) + (o + s)))))] [(b, numC (n ^ (i + o)) f), (bz, numC (n ^ (r + s)) h)] at hM
          refine wpList_nil ?_
          refine iN ?_
          refine tN ?_
          refine wp_region_lit ?_
          refine st hF (g_move hF rfl) rfl fun a hF => st hF (g_add hF rfl rfl (add_nat (gj) (1) (by omega))) rfl fun a hF => st hF (g_assign hF rfl) rfl fun a hF => ?_
          refine wpList_nil ?_
          refine tN ?_
          refine ⟨gj + 1, ⟨by omega, trivial, hF.sub _ (by repeat' constructor), ?_⟩, by omega⟩
          refine hM.rowc 3 rfl (numC_congr fun c hc => sdM_step (by omega) (by omega) (by omega) hWe (by omega) rfl rfl rfl)
        ·
          obtain rfl : n ^ r * n ^ s = gj := by omega
          refine wp_exit ?_
          refine tX ?_
          refine tX ?_
          refine ib_same ?_
          refine iN ?_
          refine tN ?_
          refine wp_region_lit ?_
          refine st hF (g_move hF rfl) rfl fun a hF => st hF (g_add hF rfl rfl (add_nat (gi) (1) (by omega))) rfl fun a hF => st hF (g_assign hF rfl) rfl fun a hF => ?_
          refine wpList_nil ?_
          refine tN ?_
          refine ⟨gi + 1, ⟨by omega, trivial, hF.sub _ (by repeat' constructor), ?_⟩, by omega⟩
          refine hM.rowc 3 rfl (numC_congr fun c hc => sdM_row (by omega) (by omega))
    ·
      obtain rfl : n ^ i * n ^ o = gi := by omega
      refine wp_exit ?_
      refine tX ?_
      refine tX ?_
      refine ib_same ?_
      refine tN ?_
      refine sq ?_
      refine wp_region_lit ?_
      refine st hF (g_loadAgg ty_ag_27 hF rfl (hM.row 4 rfl) (by simp only [fnC_size, cells_size, vecC_size, tabC_size, planeC_size, tenC_size, smC_size, numC_size, numI_size] <;> omega) (whole rfl)) rfl fun a hF => ?_
      refine stN hF (d_storeAgg 2 hM rfl ty_sz_27 hF rfl rfl (tenC_one rfl) (by simp only [fnC_size, cells_size, vecC_size, tabC_size, planeC_size, tenC_size, smC_size, numC_size, numI_size]) (by simp only [fnC_size, cells_size, vecC_size, tabC_size, planeC_size, tenC_size, smC_size, numC_size, numI_size] <;> omega) (splice_whole _ _ rfl)) ?_
      intro _ w' a hM hF
      change Mem w w' [some (b1, tenC (p : Int) (n : Int) (i : Int) (o : Int) (.slice (some ⟨b, 0, none⟩) (n ^ (i + o)) (n ^ (i + o)))), some (b2, tenC (p : Int) (n : Int) (r : Int) (s : Int) (.slice (some ⟨bz, 0, none⟩) (n ^ (r + s)) (n ^ (r + s)))), some (b3, tenC ((p : Nat) : Int) ((n : Nat) : Int) ((i + r : Nat) : Int) ((o + s : Nat) : Int) (.slice (some ⟨b4, 0, none⟩) ((n) ^ ((i + r) + (o + s))) ((n) ^ ((i + r) + (o + s))))), some (b4, numC (n ^ ((i + r) + (o + s))) (sdM p (n ^ o) (n ^ r) (n ^ s) (n ^ (o + s)) f h (n ^ i * n ^ o) 0)), some (b5, tenC ((p : Nat) : Int) ((n : Nat) : Int) ((i + r : Nat) : Int) ((o + s : Nat) : Int) (.slice (some ⟨b4, 0, none⟩) ((n) ^ ((i + r) + (o + s))) ((n) ^ ((i + r) + (o + s)))))] [(b, numC (n ^ (i + o)) f), (bz, numC (n ^ (r + s)) h)] at hM
      refine wpList_nil ?_
      refine tN ?_
      refine wp_ret ?_
      refine fin1 rfl hF.defers (res_agg ty_ag_27 hF rfl (hM.row 2 rfl) (by simp only [fnC_size, cells_size, vecC_size, tabC_size, planeC_size, tenC_size, smC_size, numC_size, numI_size])) ⟨_, rfl, hM.below, ?_⟩
      exact ⟨_, rfl, hM.ge 3 rfl, (hM.rowc (cs' := numC (n ^ ((i + r) + (o + s))) (sdF p (n ^ o) (n ^ r) (n ^ s) (n ^ (o + s)) f h)) 3 rfl (numC_congr fun c hc => sdM_all (by omega) (by omega) hWe (by rw [← Nat.pow_add, ← Nat.pow_add]; exact hc))).row 3 rfl⟩

theorem SideTensorsSB (p n i o r s b bz : Nat) (f h : Nat → Nat) (w : World) (hpP : primeP (p : Int)) (hn0 : 0 < n) (hn : n ≤ 6) (hwa : wl n i o) (hwb : wl n r s) (hw : wl n (i + r) (o + s)) (hfp : ∀ c, f c < p) (hhp : ∀ c, h c < p) (hb : Blk w b (numC (n ^ (i + o)) f)) (hbz : Blk w bz (numC (n ^ (r + s)) h)) :
    CallsR Try.prog 31 #[.agg (tenC (p : Int) (n : Int) (i : Int) (o : Int) (.slice (some ⟨b, 0, none⟩) (n ^ (i + o)) (n ^ (i + o)))), .agg (tenC (p : Int) (n : Int) (r : Int) (s : Int) (.slice (some ⟨bz, 0, none⟩) (n ^ (r + s)) (n ^ (r + s))))] w (fun v w' => TenOut0 w w' (p : Int) (n : Int) ((i + r : Nat) : Int) ((o + s : Nat) : Int) (n ^ ((i + r) + (o + s))) (sdF p (n ^ o) (n ^ r) (n ^ s) (n ^ (o + s)) f h) v) := by
  refine calls_fr [.agg (tenC (p : Int) (n : Int) (i : Int) (o : Int) (.slice (some ⟨b, 0, none⟩) (n ^ (i + o)) (n ^ (i + o)))), .agg (tenC (p : Int) (n : Int) (r : Int) (s : Int) (.slice (some ⟨bz, 0, none⟩) (n ^ (r + s)) (n ^ (r + s))))] Try.func31 rfl Try.ntmps31 rfl fun a hF => ?_
  have hM : Mem w w [none, none, none, none] [(b, numC (n ^ (i + o)) f), (bz, numC (n ^ (r + s)) h)] := MemX.startD w 4 _ (startD2 hb hbz)
  change Fr 34 a [(0, .agg (tenC (p : Int) (n : Int) (i : Int) (o : Int) (.slice (some ⟨b, 0, none⟩) (n ^ (i + o)) (n ^ (i + o))))), (1, .agg (tenC (p : Int) (n : Int) (r : Int) (s : Int) (.slice (some ⟨bz, 0, none⟩) (n ^ (r + s)) (n ^ (r + s)))))] at hF
  have hp0 : 0 < p := by have h := hpP; unfold primeP at h; omega
  have hp2 : p < 100 := by have h := hpP; unfold primeP at h; omega
  have hwa3 := hwa.2.2
  have hwb3 := hwb.2.2
  have hwa1 := hwa.1
  have hwa2 := hwa.2.1
  have hwb1 := hwb.1
  have hwb2 := hwb.2.1
  have h1 := TenP.of_nat hpP hn0 hn hwa rfl hfp
  have h2 := TenP.of_nat hpP hn0 hn hwb rfl hhp
  have hw3 := hw.2.2
  have hw1 := hw.1
  have hw2 := hw.2.1
  have hA0 := pow_one_le (k := i) hn0
  have hB0 := pow_one_le (k := o) hn0
  have hC0 := pow_one_le (k := r) hn0
  have hD0 := pow_one_le (k := s) hn0
  have hWe : n ^ (o + s) = n ^ o * n ^ s := Nat.pow_add ..
  have hRl : n ^ (i + r) ≤ n ^ ((i + r) + (o + s)) := pow_le_add hn0
  have hWl : n ^ (o + s) ≤ n ^ ((i + r) + (o + s)) := pow_le_add2 hn0
  have hBl : n ^ o ≤ n ^ (o + s) := pow_le_add hn0
  have hDl : n ^ s ≤ n ^ (o + s) := pow_le_add2 hn0
  have hAl : n ^ i ≤ n ^ (i + r) := pow_le_add hn0
  have hCl : n ^ r ≤ n ^ (i + r) := pow_le_add2 hn0
  refine sq ?_
  refine wp_region_lit ?_
  refine stR hF (d_box 0 hM hF rfl) rfl ?_
  rintro _ w' a ⟨b1, rfl, hM, -⟩ hF
  change Mem w w' [some (b1, tenC (p : Int) (n : Int) (i : Int) (o : Int) (.slice (some ⟨b, 0, none⟩) (n ^ (i + o)) (n ^ (i + o)))), none, none, none] [(b, numC (n ^ (i + o)) f), (bz, numC (n ^ (r + s)) h)] at hM
  refine stR hF (d_box 1 hM hF rfl) rfl ?_
  rintro _ w' a ⟨b2, rfl, hM, -⟩ hF
  change Mem w w' [some (b1, tenC (p : Int) (n : Int) (i : Int) (o : Int) (.slice (some ⟨b, 0, none⟩) (n ^ (i + o)) (n ^ (i + o)))), some (b2, tenC (p : Int) (n : Int) (r : Int) (s : Int) (.slice (some ⟨bz, 0, none⟩) (n ^ (r + s)) (n ^ (r + s)))), none, none] [(b, numC (n ^ (i + o)) f), (bz, numC (n ^ (r + s)) h)] at hM
  refine stR hF (d_alloc 2 hM ty_ze_27) rfl ?_
  rintro _ w' a ⟨b3, rfl, hM, -⟩ hF
  change Mem w w' [some (b1, tenC (p : Int) (n : Int) (i : Int) (o : Int) (.slice (some ⟨b, 0, none⟩) (n ^ (i + o)) (n ^ (i + o)))), some (b2, tenC (p : Int) (n : Int) (r : Int) (s : Int) (.slice (some ⟨bz, 0, none⟩) (n ^ (r + s)) (n ^ (r + s)))), some (b3, tenC 0 0 0 0 (.slice none 0 0)), none] [(b, numC (n ^ (i + o)) f), (bz, numC (n ^ (r + s)) h)] at hM
  refine st hF (g_assign hF rfl) rfl fun a hF => ?_
  refine wpList_nil ?_
  refine tN ?_
  refine sq ?_
  refine wp_region_lit ?_
  refine st hF (g_loadAgg ty_ag_27 hF rfl (hM.row 0 rfl) (by simp only [fnC_size, cells_size, vecC_size, tabC_size, planeC_size, tenC_size, smC_size, numC_size, numI_size] <;> omega) (whole rfl)) rfl fun a hF => st hF (g_loadAgg ty_ag_27 hF rfl (hM.row 1 rfl) (by simp only [fnC_size, cells_size, vecC_size, tabC_size, planeC_size, tenC_size, smC_size, numC_size, numI_size] <;> omega) (whole rfl)) rfl fun a hF => ?_
  refine stR hF (d_call Try.call62 hF (.cons rfl (.cons rfl .nil)) (l03Two_ok (p : Int) (n : Int) (i : Int) (o : Int) (r : Int) (s : Int) b bz (n ^ (i + o)) (n ^ (r + s)) (fun c => ((f c : Nat) : Int)) (fun c => ((h c : Nat) : Int)) _ (hM.fz 0 rfl) (hM.fz 1 rfl) (by omega) (by omega) h1 h2)) rfl ?_
  rintro _ w' a ⟨hx, rfl⟩ hF
  have hM := hM.ext hx
  refine st hF (g_assign hF rfl) rfl fun a hF => ?_
  refine wpList_nil ?_
  refine tN ?_
  refine sq ?_
  refine sq ?_
  refine wp_region_lit ?_
  refine st hF (g_move hF rfl) rfl fun a hF => st hF (g_eql hF rfl rfl) rfl fun a hF => ?_
  refine wpList_nil ?_
  refine tN ?_
  refine c_kT hF rfl (by decide) ?_
  refine wp_region_lit ?_
  refine st hF (g_fieldAddr ty_fo_27_0 hF rfl) rfl fun a hF => st hF (g_load ty_on_2 hF rfl (hM.row 0 rfl) (tenC_0 (by omega))) rfl fun a hF => st hF (g_fieldAddr ty_fo_27_1 hF rfl) rfl fun a hF => st hF (g_load ty_on_2 hF rfl (hM.row 0 rfl) (tenC_1 (by omega))) rfl fun a hF => st hF (g_fieldAddr ty_fo_27_2 hF rfl) rfl fun a hF => st hF (g_load ty_on_2 hF rfl (hM.row 0 rfl) (tenC_2 (by omega))) rfl fun a hF => st hF (g_fieldAddr ty_fo_27_2 hF rfl) rfl fun a hF => st hF (g_load ty_on_2 hF rfl (hM.row 1 rfl) (tenC_2 (by omega))) rfl fun a hF => st hF (g_add hF rfl rfl (add_nat (i) (r) (by omega))) rfl fun a hF => st hF (g_fieldAddr ty_fo_27_3 hF rfl) rfl fun a hF => st hF (g_load ty_on_2 hF rfl (hM.row 0 rfl) (tenC_3 (by omega))) rfl fun a hF => st hF (g_fieldAddr ty_fo_27_3 hF rfl) rfl fun a hF => st hF (g_load ty_on_2 hF rfl (hM.row 1 rfl) (tenC_3 (by omega))) rfl fun a hF => st hF (g_add hF rfl rfl (add_nat (o) (s) (by omega))) rfl fun a hF => ?_
  refine stR hF (d_call Try.call47 hF (.cons rfl (.cons rfl (.cons rfl (.cons rfl .nil)))) ((CallsR.val (l03Sizes_ok (((p : Nat) : Int)) (n) (i + r) (o + s) _ hpP (by omega) (by omega) (by omega) (by omega)) (congrArg (Value.int .i64) (if_pos hw))))) rfl ?_
  rintro _ w' a ⟨hx, rfl⟩ hF
  have hM := hM.ext hx
  refine st hF (g_assign hF rfl) rfl fun a hF => ?_
  refine wpList_nil ?_
  refine tN ?_
  refine sq ?_
  refine sq ?_
  refine wp_region_lit ?_
  refine st hF (g_move hF rfl) rfl fun a hF => st hF (g_neq hF rfl rfl) rfl fun a hF => ?_
  refine wpList_nil ?_
  refine tN ?_
  refine c_kF hF rfl (by decide) ?_
  refine wp_skip ?_
  refine tN ?_
  refine sq ?_
  refine wp_region_lit ?_
  refine st hF (g_loadAgg ty_ag_27 hF rfl (hM.row 0 rfl) (by simp only [fnC_size, cells_size, vecC_size, tabC_size, planeC_size, tenC_size, smC_size, numC_size, numI_size] <;> omega) (whole rfl)) rfl fun a hF => st hF (g_loadAgg ty_ag_27 hF rfl (hM.row 1 rfl) (by simp only [fnC_size, cells_size, vecC_size, tabC_size, planeC_size, tenC_size, smC_size, numC_size, numI_size] <;> omega) (whole rfl)) rfl fun a hF => ?_
  refine stR hF (d_call Try.call66 hF (.cons rfl (.cons rfl .nil)) (l03Side_ok p n i o r s b bz f h _ hpP hn0 hn hwa hwb hw hfp hhp (hM.fz 0 rfl) (hM.fz 1 rfl))) rfl ?_
  rintro _ w' a ⟨hx, b6, rfl, hge, hbk⟩ hF
  have hM := hM.fill hx 3 hbk hge
  change Mem w w' [some (b1, tenC (p : Int) (n : Int) (i : Int) (o : Int) (.slice (some ⟨b, 0, none⟩) (n ^ (i + o)) (n ^ (i + o)))), some (b2, tenC (p : Int) (n : Int) (r : Int) (s : Int) (.slice (some ⟨bz, 0, none⟩) (n ^ (r + s)) (n ^ (r + s)))), some (b3, tenC 0 0 0 0 (.slice none 0 0)), some (b6, numC (n ^ ((i + r) + (o + s))) (sdF p (n ^ o) (n ^ r) (n ^ s) (n ^ (o + s)) f h))] [(b, numC (n ^ (i + o)) f), (bz, numC (n ^ (r + s)) h)] at hM
  refine stN hF (d_storeAgg 2 hM rfl ty_sz_27 hF rfl rfl (tenC_one rfl) (by simp only [fnC_size, cells_size, vecC_size, tabC_size, planeC_size, tenC_size, smC_size, numC_size, numI_size]) (by simp only [fnC_size, cells_size, vecC_size, tabC_size, planeC_size, tenC_size, smC_size, numC_size, numI_size] <;> omega) (splice_whole _ _ rfl)) ?_
  intro _ w' a hM hF
  change Mem w w' [some (b1, tenC (p : Int) (n : Int) (i : Int) (o : Int) (.slice (some ⟨b, 0, none⟩) (n ^ (i + o)) (n ^ (i + o)))), some (b2, tenC (p : Int) (n : Int) (r : Int) (s : Int) (.slice (some ⟨bz, 0, none⟩) (n ^ (r + s)) (n ^ (r + s)))), some (b3, tenC (p : Int) (n : Int) ((i + r : Nat) : Int) ((o + s : Nat) : Int) (.slice (some ⟨b6, 0, none⟩) (n ^ ((i + r) + (o + s))) (n ^ ((i + r) + (o + s))))), some (b6, numC (n ^ ((i + r) + (o + s))) (sdF p (n ^ o) (n ^ r) (n ^ s) (n ^ (o + s)) f h))] [(b, numC (n ^ (i + o)) f), (bz, numC (n ^ (r + s)) h)] at hM
  refine st hF (g_assign hF rfl) rfl fun a hF => ?_
  refine wpList_nil ?_
  refine tN ?_
  refine wp_ret ?_
  refine fin2 rfl hF.defers (res_agg ty_ag_27 hF rfl (hM.row 2 rfl) (by simp only [fnC_size, cells_size, vecC_size, tabC_size, planeC_size, tenC_size, smC_size, numC_size, numI_size])) (res_tmp hF rfl) ⟨_, rfl, hM.below, ?_⟩
  exact ⟨_, rfl, hM.ge 3 rfl, hM.row 3 rfl⟩

end Go.Proofs.Ythliekalhgafcaa
