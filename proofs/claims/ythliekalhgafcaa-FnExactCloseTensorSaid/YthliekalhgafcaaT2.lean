/- What functions of the program return, as walks over their operations; no statement of the seat is proved here. -/
import Derived.Test.YthliekalhgafcaaT1
set_option linter.unusedVariables false
set_option linter.unusedSimpArgs false
namespace Go.Proofs.Ythliekalhgafcaa
open Go Go.RowKit Go.Sw Go.Ech
open Classical
theorem ty_sz_2 : sizeP Try.prog 2 = some 1 := by kernel_rfl
theorem ty_fo_27_4 : fieldOff Try.prog 27 4 = some 4 := by kernel_rfl
theorem ty_fo_27_1 : fieldOff Try.prog 27 1 = some 1 := by kernel_rfl
theorem ty_fo_27_3 : fieldOff Try.prog 27 3 = some 3 := by kernel_rfl
theorem ty_fo_85_1 : fieldOff Try.prog 85 1 = some 1 := by kernel_rfl
theorem ty_fo_85_0 : fieldOff Try.prog 85 0 = some 0 := by kernel_rfl
theorem ty_fo_74_1 : fieldOff Try.prog 74 1 = some 1 := by kernel_rfl
theorem ty_fo_74_0 : fieldOff Try.prog 74 0 = some 0 := by kernel_rfl
theorem partOf_ok (b o l c q z : Nat) (w : World) (hz : 0 < z) (hc : q * z + z ≤ c) (hc2 : c < 1000000000) :
    CallsR Try.prog 67 #[.slice (some ⟨b, o, none⟩) (l) (c), .int .i64 (((q : Nat) : Int)), .int .i64 (((z : Nat) : Int))] w (fun res _ => res = .slice (some ⟨b, o + q * z * 1, none⟩) z z) := by
  refine calls_fr [.slice (some ⟨b, o, none⟩) (l) (c), .int .i64 (((q : Nat) : Int)), .int .i64 (((z : Nat) : Int))] Try.func67 rfl Try.ntmps67 rfl fun a hF => ?_
  have hM : Mem w w [] [] := MemX.start w 0
  change Fr 20 a [(0, .slice (some ⟨b, o, none⟩) (l) (c)), (1, .int .i64 (((q : Nat) : Int))), (2, .int .i64 (((z : Nat) : Int)))] at hF
  refine sq ?_
  refine wp_region_lit ?_
  refine st hF (g_assign hF rfl) rfl fun a hF => ?_
  refine wpList_nil ?_
  refine tN ?_
  refine sq ?_
  refine wp_region_lit ?_
  refine st hF (g_move hF rfl) rfl fun a hF => st hF (g_move hF rfl) rfl fun a hF => st hF (g_mul hF rfl rfl (mul_nat (q) (z) (by omega))) rfl fun a hF => st hF (g_assign hF rfl) rfl fun a hF => ?_
  refine wpList_nil ?_
  refine tN ?_
  refine sq ?_
  refine wp_region_lit ?_
  refine st hF (g_move hF rfl) rfl fun a hF => st hF (g_move hF rfl) rfl fun a hF => st hF (g_add hF rfl rfl (add_nat ((q) * (z)) (z) (by omega))) rfl fun a hF => st hF (g_assign hF rfl) rfl fun a hF => ?_
  refine wpList_nil ?_
  refine tN ?_
  refine sq ?_
  refine wp_region_lit ?_
  refine st hF (g_move hF rfl) rfl fun a hF => st hF (g_move hF rfl) rfl fun a hF => st hF (g_move hF rfl) rfl fun a hF => st hF (g_move hF rfl) rfl fun a hF => st hF (g_slice3 (lo := (q) * (z)) (hi := (q) * (z) + z) (mx := (q) * (z) + z) (L := z) (C := z) ty_us_22 ty_sz_2 hF rfl rfl rfl rfl rfl rfl rfl (by omega) (by omega) (by omega) (by omega) (by omega)) rfl fun a hF => st hF (g_assign hF rfl) rfl fun a hF => ?_
  refine wpList_nil ?_
  refine tN ?_
  refine wp_ret ?_
  refine fin1 rfl hF.defers (res_tmp hF rfl) ⟨_, rfl, hM.below, ?_⟩
  show _ = _
  rfl

theorem rowOf_ok (p n i o b m q : Nat) (w : World) (hn0 : 0 < n) (hn : n ≤ 6) (ho : o ≤ 8) (hq : q * n ^ o + n ^ o ≤ m) (hm : m < 1000000000) :
    CallsR Try.prog 50 #[.agg (tenC (p : Int) (n : Int) (i : Int) (o : Int) (.slice (some ⟨b, 0, none⟩) m m)), .int .i64 (((q : Nat) : Int))] w (fun res _ => res = .slice (some ⟨b, 0 + q * n ^ o * 1, none⟩) (n ^ o) (n ^ o)) := by
  refine calls_fr [.agg (tenC (p : Int) (n : Int) (i : Int) (o : Int) (.slice (some ⟨b, 0, none⟩) m m)), .int .i64 (((q : Nat) : Int))] Try.func50 rfl Try.ntmps50 rfl fun a hF => ?_
  have hM : Mem w w [none] [] := MemX.start w 1
  change Fr 14 a [(0, .agg (tenC (p : Int) (n : Int) (i : Int) (o : Int) (.slice (some ⟨b, 0, none⟩) m m))), (1, .int .i64 (((q : Nat) : Int)))] at hF
  have hno := pow_one_le (k := o) hn0
  refine sq ?_
  refine wp_region_lit ?_
  refine stR hF (d_box 0 hM hF rfl) rfl ?_
  rintro _ w' a ⟨b1, rfl, hM, -⟩ hF
  change Mem w w' [some (b1, tenC (p : Int) (n : Int) (i : Int) (o : Int) (.slice (some ⟨b, 0, none⟩) m m))] [] at hM
  refine st hF (g_assign hF rfl) rfl fun a hF => ?_
  refine wpList_nil ?_
  refine tN ?_
  refine sq ?_
  refine c_par 8 [] [.val (ptr b1 (0 + 4)), .val (.slice (some ⟨b, 0, none⟩) (m) (m)), .val (.int .i64 (((q : Nat) : Int))), .val (ptr b1 (0 + 1)), .val (.int .i64 (((n : Nat) : Int))), .val (ptr b1 (0 + 3)), .val (.int .i64 (((o : Nat) : Int))), .val (.int .i64 ((((n) ^ (o) : Nat) : Int)))] hmix rfl hF rfl hM ⟨fun a w g hF hS hd => by exact par_val hS rfl (g_fieldAddr ty_fo_27_4 hF rfl), fun a w g hF hS hd => by have hF := hF.ext1 5 (hd 0 rfl rfl); have hM := hS.mem rfl; exact par_val hS rfl (g_load ty_on_22 hF rfl (hM.row 0 rfl) (tenC_4 (by omega))), fun a w g hF hS hd => by exact par_val hS rfl (g_move hF rfl), fun a w g hF hS hd => by exact par_val hS rfl (g_fieldAddr ty_fo_27_1 hF rfl), fun a w g hF hS hd => by have hF := hF.ext1 8 (hd 3 rfl rfl); have hM := hS.mem rfl; exact par_val hS rfl (g_load ty_on_2 hF rfl (hM.row 0 rfl) (tenC_1 (by omega))), fun a w g hF hS hd => by exact par_val hS rfl (g_fieldAddr ty_fo_27_3 hF rfl), fun a w g hF hS hd => by have hF := hF.ext1 10 (hd 5 rfl rfl); have hM := hS.mem rfl; exact par_val hS rfl (g_load ty_on_2 hF rfl (hM.row 0 rfl) (tenC_3 (by omega))), fun a w g hF hS hd => by have hF := hF.ext1 9 (hd 4 rfl rfl); have hF := hF.ext1 11 (hd 6 rfl rfl); exact par_call (by repeat constructor) hS rfl (d_call Try.call44 hF (.cons rfl (.cons rfl .nil)) (countChoices_ok (n) (o) _ (by omega) (by omega))), trivial⟩ ?_
  intro a w' L hF hS hq
  have hF := hF.ext1 5 (hq 0 rfl rfl)
  have hF := hF.ext1 6 (hq 1 rfl rfl)
  have hF := hF.ext1 7 (hq 2 rfl rfl)
  have hF := hF.ext1 8 (hq 3 rfl rfl)
  have hF := hF.ext1 9 (hq 4 rfl rfl)
  have hF := hF.ext1 10 (hq 5 rfl rfl)
  have hF := hF.ext1 11 (hq 6 rfl rfl)
  have hF := hF.ext1 12 (hq 7 rfl rfl)
  have hM := hS.mem rfl
  change wpList Try.prog _ _ [_, _] _ _
  refine stR hF (d_call Try.call67 hF (.cons rfl (.cons rfl (.cons rfl .nil))) (partOf_ok b (0) (m) (m) (q) ((n) ^ (o)) _ (by omega) (by omega) (by omega))) rfl ?_
  rintro _ w' a ⟨hx, rfl⟩ hF
  have hM := hM.ext hx
  refine st hF (g_assign hF rfl) rfl fun a hF => ?_
  refine wpList_nil ?_
  refine tN ?_
  refine wp_ret ?_
  refine fin1 rfl hF.defers (res_tmp hF rfl) ⟨_, rfl, hM.below, ?_⟩
  show _ = _
  rfl

theorem addSumsB_ok (p b o z m b2 o2 c2 r x : Nat) (cs2 : Array Value) (f h : Nat → Nat) (w : World) (hp : 0 < p) (hp2 : p < 100) (hx : x ≤ 255) (hf : ∀ c, f c ≤ 255) (hh : ∀ c, h c ≤ 255) (hr : r ≤ z) (hz : o + z ≤ m) (hm : m < 1000000) (hb : Blk w b (numC m f)) (hb2 : Blk w b2 cs2) (hne : b2 ≠ b) (hg2 : ∀ i, i < r → cs2[o2 + i * 1]? = some (.int .u8 ((h i : Nat) : Int))) :
    CallsX Try.prog [b] 84 #[.agg (smC (p : Int) (.slice (some ⟨b, o, none⟩) z z)), .slice (some ⟨b2, o2, none⟩) (r) (c2), .int .i64 (((x : Nat) : Int))] w (fun v w' => v = .tuple #[] ∧ Blk w' b (numC m (fun c => if o ≤ c ∧ c < o + r then (f c + x * h (c - o)) % p else f c))) := by
  refine calls_frX [.agg (smC (p : Int) (.slice (some ⟨b, o, none⟩) z z)), .slice (some ⟨b2, o2, none⟩) (r) (c2), .int .i64 (((x : Nat) : Int))] Try.func84 rfl Try.ntmps84 rfl fun a hF => ?_
  have hM : MemX [b] w w [some (b, numC m f), none] [(b2, cs2)] := MemX.startX1D 1 hb (startXD1 hb2 hne)
  change Fr 33 a [(0, .agg (smC (p : Int) (.slice (some ⟨b, o, none⟩) z z))), (1, .slice (some ⟨b2, o2, none⟩) (r) (c2)), (2, .int .i64 (((x : Nat) : Int)))] at hF
  refine sq ?_
  refine wp_region_lit ?_
  refine stR hF (d_box 1 hM hF rfl) rfl ?_
  rintro _ w' a ⟨b1, rfl, hM, -⟩ hF
  change MemX [b] w w' [some (b, numC m f), some (b1, smC (p : Int) (.slice (some ⟨b, o, none⟩) z z))] [(b2, cs2)] at hM
  refine wpList_nil ?_
  refine tN ?_
  refine sq ?_
  refine wp_region_lit ?_
  refine st hF (g_move hF rfl) rfl fun a hF => st hF (g_len ty_us_87 hF rfl) rfl fun a hF => st hF (g_move hF rfl) rfl fun a hF => ?_
  refine wpList_nil ?_
  refine tN ?_
  refine wp_block ?_
  change MemX [b] w _ [some (b, numC m f), some (b1, smC (p : Int) (.slice (some ⟨b, o, none⟩) z z))] [(b2, cs2)] at hM
  refine c_loop (fun (kk : Nat) a w' => kk ≤ r ∧ (True) ∧ Fr 33 a [(0, .agg (smC (p : Int) (.slice (some ⟨b, o, none⟩) z z))), (1, .slice (some ⟨b2, o2, none⟩) (r) (c2)), (2, .int .i64 (((x : Nat) : Int))), (3, ptr b1 (0)), (8, .slice (some ⟨b2, o2, none⟩) (r) (c2)), (9, .int .i64 (((r : Nat) : Int))), (10, .int .i64 (((kk : Nat) : Int)))] ∧ MemX [b] w w' [some (b, numC m (fun c => if o ≤ c ∧ c < o + kk then (f c + x * h (c - o)) % p else f c)), some (b1, smC (p : Int) (.slice (some ⟨b, o, none⟩) z z))] [(b2, cs2)]) (fun kk => r - kk) 0 ?_ ?_
  ·
    refine ⟨by omega, trivial, hF.sub _ (by repeat' constructor), ?_⟩
    exact hM.rowc 0 rfl (numC_congr fun c hc => by rw [if_neg (by omega)])
  ·
    clear hF hM
    rintro gk a w' ⟨hgk, hinv1, hF, hM⟩
    have hfk := hf (o + gk)
    have hhk := hh gk
    have hxh : x * h gk ≤ 255 * 255 := Nat.mul_le_mul hx (hh gk)
    have hml := Nat.mod_lt (f (o + gk) + x * h gk) hp
    refine sq ?_
    refine wp_region_lit ?_
    refine st hF (g_lss hF rfl rfl) rfl fun a hF => ?_
    refine wpList_nil ?_
    refine tN ?_
    refine sq ?_
    refine c_cond hF rfl (fun h2 => ?_) (fun h2 => ?_)
    ·
      refine wp_skip ?_
      refine tN ?_
      refine sq ?_
      refine wp_block ?_
      refine sq ?_
      refine wp_region_lit ?_
      refine st hF (g_move hF rfl) rfl fun a hF => st hF (g_indexSl (i := gk) ty_sl_87 hF rfl rfl rfl (by omega)) rfl fun a hF => st hF (g_load ty_on_5 hF rfl (hM.fz 0 rfl) (hg2 (gk) (by omega))) rfl fun a hF => st hF (g_assign hF rfl) rfl fun a hF => st hF (g_assign hF rfl) rfl fun a hF => ?_
      refine wpList_nil ?_
      refine tN ?_
      refine c_par 16 [] [.val (ptr b1 (0 + 1)), .val (.slice (some ⟨b, o, none⟩) (z) (z)), .val (.int .i64 (((gk : Nat) : Int))), .val (ptr b1 (0 + 1)), .val (.slice (some ⟨b, o, none⟩) (z) (z)), .val (.int .i64 (((gk : Nat) : Int))), .val (ptr b (o + (gk) * 1)), .val (.int .i64 (((f (o + gk) : Nat) : Int))), .val (.int .i64 (((x : Nat) : Int))), .val (.int .u8 (((h (gk) : Nat) : Int))), .val (.int .i64 (((h (gk) : Nat) : Int))), .val (.int .i64 ((((x) * (h (gk)) : Nat) : Int))), .val (.int .i64 (((f (o + gk) + (x) * (h (gk)) : Nat) : Int))), .val (ptr b1 (0 + 0)), .val (.int .i64 (((p : Nat) : Int))), .val (.int .i64 ((((f (o + gk) + (x) * (h (gk))) % (p) : Nat) : Int)))] hmix rfl hF rfl hM ⟨fun a w g hF hS hd => by exact par_val hS rfl (g_fieldAddr ty_fo_85_1 hF rfl), fun a w g hF hS hd => by have hF := hF.ext1 15 (hd 0 rfl rfl); have hM := hS.mem rfl; exact par_val hS rfl (g_load ty_on_22 hF rfl (hM.row 1 rfl) (smC_1 (by omega))), fun a w g hF hS hd => by exact par_val hS rfl (g_move hF rfl), fun a w g hF hS hd => by exact par_val hS rfl (g_fieldAddr ty_fo_85_1 hF rfl), fun a w g hF hS hd => by have hF := hF.ext1 18 (hd 3 rfl rfl); have hM := hS.mem rfl; exact par_val hS rfl (g_load ty_on_22 hF rfl (hM.row 1 rfl) (smC_1 (by omega))), fun a w g hF hS hd => by exact par_val hS rfl (g_move hF rfl), fun a w g hF hS hd => by have hF := hF.ext1 19 (hd 4 rfl rfl); have hF := hF.ext1 20 (hd 5 rfl rfl); exact par_val hS rfl (g_indexSl (i := gk) ty_sl_22 hF rfl rfl rfl (by omega)), fun a w g hF hS hd => by have hF := hF.ext1 21 (hd 6 rfl rfl); have hM := hS.mem rfl; exact par_val hS rfl (g_load ty_on_2 hF rfl (hM.row 0 rfl) (by rw [numC_get (k := o + gk) (by omega) (by omega), if_neg (by omega)])), fun a w g hF hS hd => by exact par_val hS rfl (g_move hF rfl), fun a w g hF hS hd => by exact par_val hS rfl (g_move hF rfl), fun a w g hF hS hd => by have hF := hF.ext1 24 (hd 9 rfl rfl); exact par_val hS rfl (g_conv ty_un_2 ty_ud_5 hF rfl (wrap_i64 (by omega) (by omega))), fun a w g hF hS hd => by have hF := hF.ext1 23 (hd 8 rfl rfl); have hF := hF.ext1 25 (hd 10 rfl rfl); exact par_val hS rfl (g_mul hF rfl rfl (mul_nat x (h gk) (by omega))), fun a w g hF hS hd => by have hF := hF.ext1 22 (hd 7 rfl rfl); have hF := hF.ext1 26 (hd 11 rfl rfl); exact par_val hS rfl (g_add hF rfl rfl (add_nat (f (o + gk)) ((x) * (h (gk))) (by omega))), fun a w g hF hS hd => by exact par_val hS rfl (g_fieldAddr ty_fo_85_0 hF rfl), fun a w g hF hS hd => by have hF := hF.ext1 28 (hd 13 rfl rfl); have hM := hS.mem rfl; exact par_val hS rfl (g_load ty_on_2 hF rfl (hM.row 1 rfl) (smC_0 (by omega))), fun a w g hF hS hd => by have hF := hF.ext1 27 (hd 12 rfl rfl); have hF := hF.ext1 29 (hd 14 rfl rfl); exact par_val hS rfl (g_rem hF rfl rfl (by omega) (rem_nat (f (o + gk) + (x) * (h (gk))) (p))), trivial⟩ ?_
      intro a w' L hF hS hq
      have hF := hF.ext1 15 (hq 0 rfl rfl)
      have hF := hF.ext1 16 (hq 1 rfl rfl)
      have hF := hF.ext1 17 (hq 2 rfl rfl)
      have hF := hF.ext1 18 (hq 3 rfl rfl)
      have hF := hF.ext1 19 (hq 4 rfl rfl)
      have hF := hF.ext1 20 (hq 5 rfl rfl)
      have hF := hF.ext1 21 (hq 6 rfl rfl)
      have hF := hF.ext1 22 (hq 7 rfl rfl)
      have hF := hF.ext1 23 (hq 8 rfl rfl)
      have hF := hF.ext1 24 (hq 9 rfl rfl)
      have hF := hF.ext1 25 (hq 10 rfl rfl)
      have hF := hF.ext1 26 (hq 11 rfl rfl)
      have hF := hF.ext1 27 (hq 12 rfl rfl)
      have hF := hF.ext1 28 (hq 13 rfl rfl)
      have hF := hF.ext1 29 (hq 14 rfl rfl)
      have hF := hF.ext1 30 (hq 15 rfl rfl)
      have hM := hS.mem rfl
      change wpList Try.prog _ _ [_, _] _ _
      refine st hF (g_indexSl (i := gk) ty_sl_22 hF rfl rfl rfl (by omega)) rfl fun a hF => ?_
      refine stN hF (d_store 0 hM rfl ty_on_2 hF rfl rfl rfl (by first | omega | (simp only [fnC_size, cells_size, vecC_size, tabC_size, planeC_size, tenC_size, smC_size, numC_size] <;> omega))) ?_
      intro _ w' a hM hF
      rw [show (numC m (fun c => if o ≤ c ∧ c < o + gk then (f c + x * h (c - o)) % p else f c)).setIfInBounds (o + (gk) * 1) (.int .i64 ((((f (o + gk) + (x) * (h (gk))) % (p) : Nat) : Int))) = numC m (fun c => if c = o + (gk) then (f (o + gk) + (x) * (h (gk))) % (p) else (fun c => if o ≤ c ∧ c < o + gk then (f c + x * h (c - o)) % p else f c) c) from numC_set (k := o + (gk)) (by omega) (fun c _ => rfl)] at hM
      change MemX [b] w w' [some (b, numC m (fun c => if c = o + (gk) then (f (o + gk) + (x) * (h (gk))) % (p) else (fun c => if o ≤ c ∧ c < o + gk then (f c + x * h (c - o)) % p else f c) c)), some (b1, smC (p : Int) (.slice (some ⟨b, o, none⟩) z z))] [(b2, cs2)] at hM
      refine wpList_nil ?_
      refine iN ?_
      refine tN ?_
      refine wp_region_lit ?_
      refine st hF (g_add hF rfl rfl (add_nat (gk) (1) (by omega))) rfl fun a hF => st hF (g_move hF rfl) rfl fun a hF => ?_
      refine wpList_nil ?_
      refine tN ?_
      refine ⟨gk + 1, ⟨by omega, trivial, hF.sub _ (by repeat' constructor), ?_⟩, by omega⟩
      refine hM.rowc 0 rfl (numC_congr fun c hc => ?_)
      by_cases e1 : c = o + gk
      · subst e1; rw [if_pos rfl, if_pos (by omega), show o + gk - o = gk by omega]
      · rw [if_neg e1]
        dsimp only
        by_cases e2 : o ≤ c ∧ c < o + gk
        · rw [if_pos e2, if_pos (by omega)]
        · rw [if_neg e2, if_neg (by omega)]
    ·
      obtain rfl : r = gk := by omega
      refine wp_exit ?_
      refine tX ?_
      refine tX ?_
      refine ib_same ?_
      refine fin0n rfl hF.defers  ⟨_, rfl, hM.bel, ?_⟩
      exact ⟨rfl, hM.row 0 rfl⟩

theorem addSumsI_ok (p b o z m b2 o2 c2 r x : Nat) (cs2 : Array Value) (f h : Nat → Nat) (w : World) (hp : 0 < p) (hp2 : p < 100) (hx : x ≤ 255) (hf : ∀ c, f c ≤ 255) (hh : ∀ c, h c ≤ 255) (hr : r ≤ z) (hz : o + z ≤ m) (hm : m < 1000000) (hb : Blk w b (numC m f)) (hb2 : Blk w b2 cs2) (hne : b2 ≠ b) (hg2 : ∀ i, i < r → cs2[o2 + i * 1]? = some (.int .i64 ((h i : Nat) : Int))) :
    CallsX Try.prog [b] 65 #[.agg (smC (p : Int) (.slice (some ⟨b, o, none⟩) z z)), .slice (some ⟨b2, o2, none⟩) (r) (c2), .int .i64 (((x : Nat) : Int))] w (fun v w' => v = .tuple #[] ∧ Blk w' b (numC m (fun c => if o ≤ c ∧ c < o + r then (f c + x * h (c - o)) % p else f c))) := by
  refine calls_frX [.agg (smC (p : Int) (.slice (some ⟨b, o, none⟩) z z)), .slice (some ⟨b2, o2, none⟩) (r) (c2), .int .i64 (((x : Nat) : Int))] Try.func65 rfl Try.ntmps65 rfl fun a hF => ?_
  have hM : MemX [b] w w [some (b, numC m f), none] [(b2, cs2)] := MemX.startX1D 1 hb (startXD1 hb2 hne)
  change Fr 32 a [(0, .agg (smC (p : Int) (.slice (some ⟨b, o, none⟩) z z))), (1, .slice (some ⟨b2, o2, none⟩) (r) (c2)), (2, .int .i64 (((x : Nat) : Int)))] at hF
  refine sq ?_
  refine wp_region_lit ?_
  refine stR hF (d_box 1 hM hF rfl) rfl ?_
  rintro _ w' a ⟨b1, rfl, hM, -⟩ hF
  change MemX [b] w w' [some (b, numC m f), some (b1, smC (p : Int) (.slice (some ⟨b, o, none⟩) z z))] [(b2, cs2)] at hM
  refine wpList_nil ?_
  refine tN ?_
  refine sq ?_
  refine wp_region_lit ?_
  refine st hF (g_move hF rfl) rfl fun a hF => st hF (g_len ty_us_22 hF rfl) rfl fun a hF => st hF (g_move hF rfl) rfl fun a hF => ?_
  refine wpList_nil ?_
  refine tN ?_
  refine wp_block ?_
  change MemX [b] w _ [some (b, numC m f), some (b1, smC (p : Int) (.slice (some ⟨b, o, none⟩) z z))] [(b2, cs2)] at hM
  refine c_loop (fun (kk : Nat) a w' => kk ≤ r ∧ (True) ∧ Fr 32 a [(0, .agg (smC (p : Int) (.slice (some ⟨b, o, none⟩) z z))), (1, .slice (some ⟨b2, o2, none⟩) (r) (c2)), (2, .int .i64 (((x : Nat) : Int))), (3, ptr b1 (0)), (8, .slice (some ⟨b2, o2, none⟩) (r) (c2)), (9, .int .i64 (((r : Nat) : Int))), (10, .int .i64 (((kk : Nat) : Int)))] ∧ MemX [b] w w' [some (b, numC m (fun c => if o ≤ c ∧ c < o + kk then (f c + x * h (c - o)) % p else f c)), some (b1, smC (p : Int) (.slice (some ⟨b, o, none⟩) z z))] [(b2, cs2)]) (fun kk => r - kk) 0 ?_ ?_
  ·
    refine ⟨by omega, trivial, hF.sub _ (by repeat' constructor), ?_⟩
    exact hM.rowc 0 rfl (numC_congr fun c hc => by rw [if_neg (by omega)])
  ·
    clear hF hM
    rintro gk a w' ⟨hgk, hinv1, hF, hM⟩
    have hfk := hf (o + gk)
    have hhk := hh gk
    have hxh : x * h gk ≤ 255 * 255 := Nat.mul_le_mul hx (hh gk)
    have hml := Nat.mod_lt (f (o + gk) + x * h gk) hp
    refine sq ?_
    refine wp_region_lit ?_
    refine st hF (g_lss hF rfl rfl) rfl fun a hF => ?_
    refine wpList_nil ?_
    refine tN ?_
    refine sq ?_
    refine c_cond hF rfl (fun h2 => ?_) (fun h2 => ?_)
    ·
      refine wp_skip ?_
      refine tN ?_
      refine sq ?_
      refine wp_block ?_
      refine sq ?_
      refine wp_region_lit ?_
      refine st hF (g_move hF rfl) rfl fun a hF => st hF (g_indexSl (i := gk) ty_sl_22 hF rfl rfl rfl (by omega)) rfl fun a hF => st hF (g_load ty_on_2 hF rfl (hM.fz 0 rfl) (hg2 (gk) (by omega))) rfl fun a hF => st hF (g_assign hF rfl) rfl fun a hF => st hF (g_assign hF rfl) rfl fun a hF => ?_
      refine wpList_nil ?_
      refine tN ?_
      refine c_par 15 [] [.val (ptr b1 (0 + 1)), .val (.slice (some ⟨b, o, none⟩) (z) (z)), .val (.int .i64 (((gk : Nat) : Int))), .val (ptr b1 (0 + 1)), .val (.slice (some ⟨b, o, none⟩) (z) (z)), .val (.int .i64 (((gk : Nat) : Int))), .val (ptr b (o + (gk) * 1)), .val (.int .i64 (((f (o + gk) : Nat) : Int))), .val (.int .i64 (((x : Nat) : Int))), .val (.int .i64 (((h (gk) : Nat) : Int))), .val (.int .i64 ((((x) * (h (gk)) : Nat) : Int))), .val (.int .i64 (((f (o + gk) + (x) * (h (gk)) : Nat) : Int))), .val (ptr b1 (0 + 0)), .val (.int .i64 (((p : Nat) : Int))), .val (.int .i64 ((((f (o + gk) + (x) * (h (gk))) % (p) : Nat) : Int)))] hmix rfl hF rfl hM ⟨fun a w g hF hS hd => by exact par_val hS rfl (g_fieldAddr ty_fo_74_1 hF rfl), fun a w g hF hS hd => by have hF := hF.ext1 15 (hd 0 rfl rfl); have hM := hS.mem rfl; exact par_val hS rfl (g_load ty_on_22 hF rfl (hM.row 1 rfl) (smC_1 (by omega))), fun a w g hF hS hd => by exact par_val hS rfl (g_move hF rfl), fun a w g hF hS hd => by exact par_val hS rfl (g_fieldAddr ty_fo_74_1 hF rfl), fun a w g hF hS hd => by have hF := hF.ext1 18 (hd 3 rfl rfl); have hM := hS.mem rfl; exact par_val hS rfl (g_load ty_on_22 hF rfl (hM.row 1 rfl) (smC_1 (by omega))), fun a w g hF hS hd => by exact par_val hS rfl (g_move hF rfl), fun a w g hF hS hd => by have hF := hF.ext1 19 (hd 4 rfl rfl); have hF := hF.ext1 20 (hd 5 rfl rfl); exact par_val hS rfl (g_indexSl (i := gk) ty_sl_22 hF rfl rfl rfl (by omega)), fun a w g hF hS hd => by have hF := hF.ext1 21 (hd 6 rfl rfl); have hM := hS.mem rfl; exact par_val hS rfl (g_load ty_on_2 hF rfl (hM.row 0 rfl) (by rw [numC_get (k := o + gk) (by omega) (by omega), if_neg (by omega)])), fun a w g hF hS hd => by exact par_val hS rfl (g_move hF rfl), fun a w g hF hS hd => by exact par_val hS rfl (g_move hF rfl), fun a w g hF hS hd => by have hF := hF.ext1 23 (hd 8 rfl rfl); have hF := hF.ext1 24 (hd 9 rfl rfl); exact par_val hS rfl (g_mul hF rfl rfl (mul_nat x (h gk) (by omega))), fun a w g hF hS hd => by have hF := hF.ext1 22 (hd 7 rfl rfl); have hF := hF.ext1 25 (hd 10 rfl rfl); exact par_val hS rfl (g_add hF rfl rfl (add_nat (f (o + gk)) ((x) * (h (gk))) (by omega))), fun a w g hF hS hd => by exact par_val hS rfl (g_fieldAddr ty_fo_74_0 hF rfl), fun a w g hF hS hd => by have hF := hF.ext1 27 (hd 12 rfl rfl); have hM := hS.mem rfl; exact par_val hS rfl (g_load ty_on_2 hF rfl (hM.row 1 rfl) (smC_0 (by omega))), fun a w g hF hS hd => by have hF := hF.ext1 26 (hd 11 rfl rfl); have hF := hF.ext1 28 (hd 13 rfl rfl); exact par_val hS rfl (g_rem hF rfl rfl (by omega) (rem_nat (f (o + gk) + (x) * (h (gk))) (p))), trivial⟩ ?_
      intro a w' L hF hS hq
      have hF := hF.ext1 15 (hq 0 rfl rfl)
      have hF := hF.ext1 16 (hq 1 rfl rfl)
      have hF := hF.ext1 17 (hq 2 rfl rfl)
      have hF := hF.ext1 18 (hq 3 rfl rfl)
      have hF := hF.ext1 19 (hq 4 rfl rfl)
      have hF := hF.ext1 20 (hq 5 rfl rfl)
      have hF := hF.ext1 21 (hq 6 rfl rfl)
      have hF := hF.ext1 22 (hq 7 rfl rfl)
      have hF := hF.ext1 23 (hq 8 rfl rfl)
      have hF := hF.ext1 24 (hq 9 rfl rfl)
      have hF := hF.ext1 25 (hq 10 rfl rfl)
      have hF := hF.ext1 26 (hq 11 rfl rfl)
      have hF := hF.ext1 27 (hq 12 rfl rfl)
      have hF := hF.ext1 28 (hq 13 rfl rfl)
      have hF := hF.ext1 29 (hq 14 rfl rfl)
      have hM := hS.mem rfl
      change wpList Try.prog _ _ [_, _] _ _
      refine st hF (g_indexSl (i := gk) ty_sl_22 hF rfl rfl rfl (by omega)) rfl fun a hF => ?_
      refine stN hF (d_store 0 hM rfl ty_on_2 hF rfl rfl rfl (by first | omega | (simp only [fnC_size, cells_size, vecC_size, tabC_size, planeC_size, tenC_size, smC_size, numC_size] <;> omega))) ?_
      intro _ w' a hM hF
      rw [show (numC m (fun c => if o ≤ c ∧ c < o + gk then (f c + x * h (c - o)) % p else f c)).setIfInBounds (o + (gk) * 1) (.int .i64 ((((f (o + gk) + (x) * (h (gk))) % (p) : Nat) : Int))) = numC m (fun c => if c = o + (gk) then (f (o + gk) + (x) * (h (gk))) % (p) else (fun c => if o ≤ c ∧ c < o + gk then (f c + x * h (c - o)) % p else f c) c) from numC_set (k := o + (gk)) (by omega) (fun c _ => rfl)] at hM
      change MemX [b] w w' [some (b, numC m (fun c => if c = o + (gk) then (f (o + gk) + (x) * (h (gk))) % (p) else (fun c => if o ≤ c ∧ c < o + gk then (f c + x * h (c - o)) % p else f c) c)), some (b1, smC (p : Int) (.slice (some ⟨b, o, none⟩) z z))] [(b2, cs2)] at hM
      refine wpList_nil ?_
      refine iN ?_
      refine tN ?_
      refine wp_region_lit ?_
      refine st hF (g_add hF rfl rfl (add_nat (gk) (1) (by omega))) rfl fun a hF => st hF (g_move hF rfl) rfl fun a hF => ?_
      refine wpList_nil ?_
      refine tN ?_
      refine ⟨gk + 1, ⟨by omega, trivial, hF.sub _ (by repeat' constructor), ?_⟩, by omega⟩
      refine hM.rowc 0 rfl (numC_congr fun c hc => ?_)
      by_cases e1 : c = o + gk
      · subst e1; rw [if_pos rfl, if_pos (by omega), show o + gk - o = gk by omega]
      · rw [if_neg e1]
        dsimp only
        by_cases e2 : o ≤ c ∧ c < o + gk
        · rw [if_pos e2, if_pos (by omega)]
        · rw [if_neg e2, if_neg (by omega)]
    ·
      obtain rfl : r = gk := by omega
      refine wp_exit ?_
      refine tX ?_
      refine tX ?_
      refine ib_same ?_
      refine fin0n rfl hF.defers  ⟨_, rfl, hM.bel, ?_⟩
      exact ⟨rfl, hM.row 0 rfl⟩

end Go.Proofs.Ythliekalhgafcaa
