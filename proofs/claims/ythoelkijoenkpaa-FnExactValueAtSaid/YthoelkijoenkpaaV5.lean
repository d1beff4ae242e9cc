/- What functions of the program return, as walks over their operations; no statement of the seat is proved here. -/
import Derived.Test.YthoelkijoenkpaaV4
set_option linter.unusedVariables false
set_option linter.unusedSimpArgs false
namespace Go.Proofs.Ythoelkijoenkpaa
open Go Go.RowKit Go.Sw Go.Ech
open Classical
def valG (p n i W : Nat) (V : Nat → Nat → Nat) (f : Nat → Nat) (k j c : Nat) : Nat := if c < j then valV p n i W V f (k + 1) c else valV p n i W V f k c
theorem valG_step {p n i W k j c x : Nat} {V : Nat → Nat → Nat} {f : Nat → Nat} (hx : x = (valV p n i W V f k j + facV p n i k V i * f (k * W + j)) % p) : (if c = j then x else valG p n i W V f k j c) = valG p n i W V f k (j + 1) c := by
  unfold valG
  by_cases e : c = j
  · subst e; rw [if_pos rfl, if_pos (by omega), hx]; rfl
  · rw [if_neg e]
    have e0 : (c < j + 1) = (c < j) := by apply propext; omega
    simp only [e0]
theorem valG_end {p n i W k j c : Nat} {V : Nat → Nat → Nat} {f : Nat → Nat} (hp : 0 < p) (hc : c < W) (h : j = W ∨ facV p n i k V i = 0) : valG p n i W V f k j c = valV p n i W V f (k + 1) c := by
  unfold valG
  by_cases e : c < j
  · rw [if_pos e]
  · rw [if_neg e]
    rcases h with q | q
    · omega
    · show _ = (valV p n i W V f k c + facV p n i k V i * f (k * W + c)) % p
      rw [q, Nat.zero_mul, Nat.add_zero, Nat.mod_eq_of_lt (valV_lt hp _ _)]

theorem l03Digits_ok (k sz lg : Nat) (w : World) (hs0 : 0 < sz) (hsz : sz ≤ 6) (hlg : lg ≤ 16) (hk : k < 1000000) :
    CallsR Try.prog 29 #[.int .i64 (((k : Nat) : Int)), .int .i64 (((sz : Nat) : Int)), .int .i64 (((lg : Nat) : Int))] w (fun v w' => ∃ b, v = .slice (some ⟨b, 0, none⟩) lg lg ∧ w.heap.size ≤ b ∧ Blk w' b (numC lg (Rw.digF sz lg k))) := by
  refine calls_fr [.int .i64 (((k : Nat) : Int)), .int .i64 (((sz : Nat) : Int)), .int .i64 (((lg : Nat) : Int))] Try.func29 rfl Try.ntmps29 rfl fun a hF => ?_
  have hM : Mem w w [none] [] := MemX.start w 1
  change Fr 27 a [(0, .int .i64 (((k : Nat) : Int))), (1, .int .i64 (((sz : Nat) : Int))), (2, .int .i64 (((lg : Nat) : Int)))] at hF
  refine sq ?_
  refine wp_region_lit ?_
  refine st hF (g_assign hF rfl) rfl fun a hF => ?_
  refine wpList_nil ?_
  refine tN ?_
  refine sq ?_
  refine wp_region_lit ?_
  refine st hF (g_move hF rfl) rfl fun a hF => ?_
  refine stR hF (d_make1 (len := lg) 0 hM hF ty_si_22 rfl rfl rfl (by omega) (by decide)) rfl ?_
  rintro _ w' a ⟨b2, rfl, hM, -⟩ hF
  change Mem w w' [some (b2, numC (lg) (fun _ => 0))] [] at hM
  refine st hF (g_assign hF rfl) rfl fun a hF => ?_
  refine wpList_nil ?_
  refine tN ?_
  refine sq ?_
  refine sq ?_
  refine wp_region_lit ?_
  refine st hF (g_move hF rfl) rfl fun a hF => st hF (g_sub hF rfl rfl (wrap_i64 (by omega) (by omega))) rfl fun a hF => st hF (g_assign hF rfl) rfl fun a hF => ?_
  refine wpList_nil ?_
  refine tN ?_
  refine wp_block ?_
  change Mem w _ [some (b2, numC (lg) (fun _ => 0))] [] at hM
  refine c_loop (fun (kk : Nat) a w' => kk ≤ lg ∧ ∃ (rr : Nat), ∃ (ll : Int), (rr = k / sz ^ kk ∧ ll = ((lg : Nat) : Int) - 1 - ((kk : Nat) : Int)) ∧ Fr 27 a [(1, .int .i64 (((sz : Nat) : Int))), (6, .slice none 0 0), (7, .slice (some ⟨b2, 0, none⟩) (lg) (lg)), (0, .int .i64 (((rr : Nat) : Int))), (8, .int .i64 (ll))] ∧ Mem w w' [some (b2, numC (lg) (Rw.digG sz lg k kk))] []) (fun kk => lg - kk) 0 ?_ ?_
  ·
   refine ⟨by omega, k, (((lg : Nat) : Int) - 1), ⟨by rw [Nat.pow_zero, Nat.div_one], by omega⟩, hF.sub _ (by repeat' constructor), ?_⟩
   exact hM.rowc 0 rfl (numC_congr fun c hc => (if_neg (by omega)).symm)
  ·
   clear hF hM
   rintro gj a w' ⟨hgj, rr, ll, hinv1, hF, hM⟩
   have hrr : rr ≤ k := by rw [hinv1.1]; exact Nat.div_le_self _ _
   have hrs := Nat.div_le_self rr sz
   refine sq ?_
   refine sq ?_
   refine wp_region_lit ?_
   refine st hF (g_move hF rfl) rfl fun a hF => st hF (g_geq hF rfl rfl) rfl fun a hF => ?_
   refine wpList_nil ?_
   refine tN ?_
   refine c_cond hF rfl (fun h3 => ?_) (fun h3 => ?_)
   ·
    refine wp_skip ?_
    refine tN ?_
    refine sq ?_
    refine wp_block ?_
    refine sq ?_
    refine wp_region_lit ?_
    refine st hF (g_move hF rfl) rfl fun a hF => st hF (g_move hF rfl) rfl fun a hF => st hF (g_move hF rfl) rfl fun a hF => st hF (g_move hF rfl) rfl fun a hF => st hF (g_rem hF rfl rfl (by omega) (rem_nat (rr) (sz))) rfl fun a hF => st hF (g_indexSl (i := lg - 1 - gj) ty_sl_22 hF rfl rfl (by omega) (by omega)) rfl fun a hF => ?_
    refine stN hF (d_store 0 hM rfl ty_on_2 hF rfl rfl rfl (by first | omega | (simp only [fnC_size, cells_size, vecC_size, tabC_size, planeC_size, tenC_size, smC_size, numC_size, numI_size, vecsC_size] <;> omega) | (simp only [Array.size_setIfInBounds]; omega) | simp)) ?_
    intro _ w' a hM hF
    rw [show (numC (lg) (Rw.digG sz lg k gj)).setIfInBounds (0 + (lg - 1 - gj) * 1) (.int .i64 ((((rr) % (sz) : Nat) : Int))) = numC (lg) (fun c => if c = (lg - 1 - gj) then (rr) % (sz) else (Rw.digG sz lg k gj) c) from numC_set (k := (lg - 1 - gj)) (by omega) (fun c _ => rfl)] at hM
    change Mem w w' [some (b2, numC (lg) (fun c => if c = (lg - 1 - gj) then (rr) % (sz) else (Rw.digG sz lg k gj) c))] [] at hM
    refine wpList_nil ?_
    refine tN ?_
    refine wp_region_lit ?_
    refine st hF (g_move hF rfl) rfl fun a hF => st hF (g_move hF rfl) rfl fun a hF => st hF (g_quo hF rfl rfl (by omega) (quo_nat (rr) (sz) (by omega))) rfl fun a hF => st hF (g_assign hF rfl) rfl fun a hF => ?_
    refine wpList_nil ?_
    refine iN ?_
    refine tN ?_
    refine wp_region_lit ?_
    refine st hF (g_move hF rfl) rfl fun a hF => st hF (g_sub hF rfl rfl (wrap_i64 (by omega) (by omega))) rfl fun a hF => st hF (g_assign hF rfl) rfl fun a hF => ?_
    refine wpList_nil ?_
    refine tN ?_
    refine ⟨gj + 1, ⟨by omega, (rr / sz), (ll - 1), ⟨by rw [hinv1.1]; exact Rw.div_step, by omega⟩, hF.sub _ (by repeat' constructor), ?_⟩, by omega⟩
    exact hM.rowc 0 rfl (numC_congr fun c hc => by rw [← Rw.digG_put (by omega), ← hinv1.1])
   ·
    obtain rfl : lg = gj := by omega
    refine wp_exit ?_
    refine tX ?_
    refine tX ?_
    refine ib_same ?_
    refine tN ?_
    refine sq ?_
    refine wp_region_lit ?_
    refine st hF (g_move hF rfl) rfl fun a hF => st hF (g_assign hF rfl) rfl fun a hF => ?_
    refine wpList_nil ?_
    refine tN ?_
    refine wp_ret ?_
    refine fin1 rfl hF.defers (res_tmp hF rfl) ⟨_, rfl, hM.below, ?_⟩
    exact ⟨_, rfl, hM.ge 0 rfl, (hM.rowc (cs' := numC lg (Rw.digF sz lg k)) 0 rfl (numC_congr fun c hc => if_pos (by omega))).row 0 rfl⟩

theorem ValueS_A (p n i o : Int) (b m0 : Nat) (g : Nat → Int) (bv cv m : Nat) (V : Nat → Nat → Nat) (w : World) (hV : ∀ i c, V i c ≤ 255) (hm0 : m0 < 10000000) (hm : m < 2000000) (hb : Blk w b (numI m0 g)) (hbv : Blk w bv (vecsC m V)) (hAB : ¬ (TenP p n i o m0 g ∧ VecsP p n m V)) :
    CallsR Try.prog 12 #[.agg (tenC p n i o (.slice (some ⟨b, 0, none⟩) m0 m0)), .slice (some ⟨bv, 0, none⟩) (m) (cv)] w (fun res _ => res = .tuple #[.slice none 0 0, .int .i64 1]) := by
  refine calls_fr [.agg (tenC p n i o (.slice (some ⟨b, 0, none⟩) m0 m0)), .slice (some ⟨bv, 0, none⟩) (m) (cv)] Try.func12 rfl Try.ntmps12 rfl fun a hF => ?_
  have hM : Mem w w [none, none, none] [(b, numI m0 g), (bv, vecsC m V)] := MemX.startD w 3 _ (startD2 hb hbv)
  change Fr 113 a [(0, .agg (tenC p n i o (.slice (some ⟨b, 0, none⟩) m0 m0))), (1, .slice (some ⟨bv, 0, none⟩) (m) (cv))] at hF
  refine sq ?_
  refine wp_region_lit ?_
  refine stR hF (d_box 0 hM hF rfl) rfl ?_
  rintro _ w' a ⟨b1, rfl, hM, -⟩ hF
  change Mem w w' [some (b1, tenC p n i o (.slice (some ⟨b, 0, none⟩) m0 m0)), none, none] [(b, numI m0 g), (bv, vecsC m V)] at hM
  refine st hF (g_assign hF rfl) rfl fun a hF => st hF (g_assign hF rfl) rfl fun a hF => ?_
  refine wpList_nil ?_
  refine tN ?_
  refine sq ?_
  refine sq ?_
  refine wp_region_lit ?_
  refine st hF (g_loadAgg ty_ag_24 hF rfl (hM.row 0 rfl) (by simp only [fnC_size, cells_size, vecC_size, tabC_size, planeC_size, tenC_size, smC_size, numC_size, numI_size, vecsC_size] <;> omega) (whole rfl)) rfl fun a hF => ?_
  refine stR hF (d_call Try.call26 hF (.cons rfl .nil) (l03Is_ok p n i o b m0 g _ (hM.fz 0 rfl) (by omega))) rfl ?_
  rintro _ w' a ⟨hx, rfl⟩ hF
  have hM := hM.ext hx
  refine st hF (g_notP hF rfl) rfl fun a hF => ?_
  refine wpList_nil ?_
  refine tN ?_
  refine c_cond hF rfl (fun h2 => ?_) (fun h2 => ?_)
  ·
   refine sq ?_
   refine wp_region_lit ?_
   refine st hF (g_assign hF rfl) rfl fun a hF => st hF (g_assign hF rfl) rfl fun a hF => ?_
   refine wpList_nil ?_
   refine tN ?_
   refine wp_ret ?_
   refine tR ?_
   refine fin2 rfl hF.defers (res_tmp hF rfl) (res_tmp hF rfl) ⟨_, rfl, hM.below, ?_⟩
   show _ = _
   rfl
  ·
   refine wp_skip ?_
   refine tN ?_
   refine sq ?_
   refine sq ?_
   refine wp_region_lit ?_
   refine st hF (g_assign hF rfl) rfl fun a hF => ?_
   refine wpList_nil ?_
   refine tN ?_
   refine wp_block ?_
   change Mem w _ [some (b1, tenC p n i o (.slice (some ⟨b, 0, none⟩) m0 m0)), none, none] [(b, numI m0 g), (bv, vecsC m V)] at hM
   refine c_loop (fun (kk : Nat) a w' => kk ≤ m ∧ (∀ i, i < kk → okV p n (V i)) ∧ Fr 113 a [(1, .slice (some ⟨bv, 0, none⟩) (m) (cv)), (2, ptr b1 (0)), (16, .bool (decide (¬ (TenP p n i o m0 g)))), (6, .int .i64 (((kk : Nat) : Int)))] ∧ Mem w w' [some (b1, tenC p n i o (.slice (some ⟨b, 0, none⟩) m0 m0)), none, none] [(b, numI m0 g), (bv, vecsC m V)]) (fun kk => m - kk) 0 ?_ ?_
   ·
    refine ⟨by omega, fun i hi => absurd hi (by omega), hF.sub _ (by repeat' constructor), ?_⟩
    exact hM
   ·
    clear hF hM
    rintro gi a w' ⟨hgi, hinv1, hF, hM⟩
    have hv : ∀ c, V gi c ≤ 255 := hV gi
    refine sq ?_
    refine sq ?_
    refine wp_region_lit ?_
    refine st hF (g_move hF rfl) rfl fun a hF => st hF (g_move hF rfl) rfl fun a hF => st hF (g_len ty_us_37 hF rfl) rfl fun a hF => st hF (g_lss hF rfl rfl) rfl fun a hF => ?_
    refine wpList_nil ?_
    refine tN ?_
    refine c_cond hF rfl (fun h3 => ?_) (fun h3 => ?_)
    ·
     refine wp_skip ?_
     refine tN ?_
     refine sq ?_
     refine wp_block ?_
     refine sq ?_
     refine c_par 8 [] [.val (ptr b1 (0 + 0)), .val (.int .i64 (p)), .val (ptr b1 (0 + 1)), .val (.int .i64 (n)), .val (.slice (some ⟨bv, 0, none⟩) (m) (cv)), .val (.int .i64 (((gi : Nat) : Int))), .val (ptr bv (0 + (gi) * 6)), .val (.agg (vecC (V (gi))))] hmix rfl hF rfl hM ⟨fun a w gG hF hS hd => by exact par_val hS rfl (g_fieldAddr ty_fo_24_0 hF rfl), fun a w gG hF hS hd => by have hF := hF.ext1 23 (hd 0 rfl rfl); have hM := hS.mem rfl; exact par_val hS rfl (g_load ty_on_2 hF rfl (hM.row 0 rfl) (tenC_0 (by omega))), fun a w gG hF hS hd => by exact par_val hS rfl (g_fieldAddr ty_fo_24_1 hF rfl), fun a w gG hF hS hd => by have hF := hF.ext1 25 (hd 2 rfl rfl); have hM := hS.mem rfl; exact par_val hS rfl (g_load ty_on_2 hF rfl (hM.row 0 rfl) (tenC_1 (by omega))), fun a w gG hF hS hd => by exact par_val hS rfl (g_move hF rfl), fun a w gG hF hS hd => by exact par_val hS rfl (g_move hF rfl), fun a w gG hF hS hd => by have hF := hF.ext1 27 (hd 4 rfl rfl); have hF := hF.ext1 28 (hd 5 rfl rfl); exact par_val hS rfl (g_indexSl (i := gi) ty_sl_37 hF rfl rfl rfl (by omega)), fun a w gG hF hS hd => by have hF := hF.ext1 29 (hd 6 rfl rfl); have hM := hS.mem rfl; exact par_val hS rfl (g_loadAgg ty_ag_51 hF rfl (hM.fzm (b := bv) (cs := vecsC m V) (by simp)) (by rw [vecsC_size]; omega) (vecsC_row (gi) (by omega) (by omega) (by omega))), trivial⟩ ?_
     intro a w' L hF hS hq
     have hF := hF.ext1 23 (hq 0 rfl rfl)
     have hF := hF.ext1 24 (hq 1 rfl rfl)
     have hF := hF.ext1 25 (hq 2 rfl rfl)
     have hF := hF.ext1 26 (hq 3 rfl rfl)
     have hF := hF.ext1 27 (hq 4 rfl rfl)
     have hF := hF.ext1 28 (hq 5 rfl rfl)
     have hF := hF.ext1 29 (hq 6 rfl rfl)
     have hF := hF.ext1 30 (hq 7 rfl rfl)
     have hM := hS.mem rfl
     change wpList Try.prog _ _ [_, _] _ _
     refine stR hF (d_call Try.call27 hF (.cons rfl (.cons rfl (.cons rfl .nil))) (l01Small_ok (p) (n) (V (gi)) _ hv)) rfl ?_
     rintro _ w' a ⟨hx, rfl⟩ hF
     have hM := hM.ext hx
     refine st hF (g_notP hF rfl) rfl fun a hF => ?_
     refine wpList_nil ?_
     refine tN ?_
     refine c_cond hF rfl (fun h4 => ?_) (fun h4 => ?_)
     ·
      refine sq ?_
      refine wp_region_lit ?_
      refine st hF (g_assign hF rfl) rfl fun a hF => st hF (g_assign hF rfl) rfl fun a hF => ?_
      refine wpList_nil ?_
      refine tN ?_
      refine wp_ret ?_
      refine iR ?_
      refine tR ?_
      refine tR ?_
      refine iR ?_
      refine tR ?_
      refine fin2 rfl hF.defers (res_tmp hF rfl) (res_tmp hF rfl) ⟨_, rfl, hM.below, ?_⟩
      show _ = _
      rfl
     ·
      refine wp_skip ?_
      refine iN ?_
      refine tN ?_
      refine wp_region_lit ?_
      refine st hF (g_move hF rfl) rfl fun a hF => st hF (g_add hF rfl rfl (add_nat (gi) (1) (by omega))) rfl fun a hF => st hF (g_assign hF rfl) rfl fun a hF => ?_
      refine wpList_nil ?_
      refine tN ?_
      refine ⟨gi + 1, ⟨by omega, allS hinv1 (Decidable.not_not.1 (by assumption)), hF.sub _ (by repeat' constructor), ?_⟩, by omega⟩
      exact hM
    ·
     obtain rfl : m = gi := by omega
     refine wp_exit ?_
     refine tX ?_
     refine tX ?_
     refine ib_same ?_
     refine tN ?_
     refine sq ?_
     refine sq ?_
     refine wp_region_lit ?_
     refine st hF (g_move hF rfl) rfl fun a hF => st hF (g_len ty_us_37 hF rfl) rfl fun a hF => st hF (g_fieldAddr ty_fo_24_2 hF rfl) rfl fun a hF => st hF (g_load ty_on_2 hF rfl (hM.row 0 rfl) (tenC_2 (by omega))) rfl fun a hF => st hF (g_neq hF rfl rfl) rfl fun a hF => ?_
     refine wpList_nil ?_
     refine tN ?_
     refine c_cond hF rfl (fun h5 => ?_) (fun h5 => ?_)
     ·
      exact absurd ⟨Decidable.not_not.1 (by assumption), hinv1⟩ hAB
     ·
      exact absurd ⟨Decidable.not_not.1 (by assumption), hinv1⟩ hAB

theorem ValueS_R (p n i o : Int) (b m0 : Nat) (g : Nat → Int) (bv cv m : Nat) (V : Nat → Nat → Nat) (w : World) (hV : ∀ i c, V i c ≤ 255) (hm0 : m0 < 10000000) (hm : m < 2000000) (hb : Blk w b (numI m0 g)) (hbv : Blk w bv (vecsC m V)) (hT : TenP p n i o m0 g) (hvs : VecsP p n m V) (hR : ¬ (m : Int) = i) :
    CallsR Try.prog 12 #[.agg (tenC p n i o (.slice (some ⟨b, 0, none⟩) m0 m0)), .slice (some ⟨bv, 0, none⟩) (m) (cv)] w (fun res _ => res = .tuple #[.slice none 0 0, .int .i64 2]) := by
  refine calls_fr [.agg (tenC p n i o (.slice (some ⟨b, 0, none⟩) m0 m0)), .slice (some ⟨bv, 0, none⟩) (m) (cv)] Try.func12 rfl Try.ntmps12 rfl fun a hF => ?_
  have hM : Mem w w [none, none, none] [(b, numI m0 g), (bv, vecsC m V)] := MemX.startD w 3 _ (startD2 hb hbv)
  change Fr 113 a [(0, .agg (tenC p n i o (.slice (some ⟨b, 0, none⟩) m0 m0))), (1, .slice (some ⟨bv, 0, none⟩) (m) (cv))] at hF
  refine sq ?_
  refine wp_region_lit ?_
  refine stR hF (d_box 0 hM hF rfl) rfl ?_
  rintro _ w' a ⟨b1, rfl, hM, -⟩ hF
  change Mem w w' [some (b1, tenC p n i o (.slice (some ⟨b, 0, none⟩) m0 m0)), none, none] [(b, numI m0 g), (bv, vecsC m V)] at hM
  refine st hF (g_assign hF rfl) rfl fun a hF => st hF (g_assign hF rfl) rfl fun a hF => ?_
  refine wpList_nil ?_
  refine tN ?_
  refine sq ?_
  refine sq ?_
  refine wp_region_lit ?_
  refine st hF (g_loadAgg ty_ag_24 hF rfl (hM.row 0 rfl) (by simp only [fnC_size, cells_size, vecC_size, tabC_size, planeC_size, tenC_size, smC_size, numC_size, numI_size, vecsC_size] <;> omega) (whole rfl)) rfl fun a hF => ?_
  refine stR hF (d_call Try.call26 hF (.cons rfl .nil) ((CallsR.val (l03Is_ok p n i o b m0 g _ (hM.fz 0 rfl) (by omega)) (congrArg Value.bool (decide_eq_true hT))))) rfl ?_
  rintro _ w' a ⟨hx, rfl⟩ hF
  have hM := hM.ext hx
  refine st hF (g_not hF rfl) rfl fun a hF => ?_
  refine wpList_nil ?_
  refine tN ?_
  refine c_Fl hF rfl ?_
  refine wp_skip ?_
  refine tN ?_
  refine sq ?_
  refine sq ?_
  refine wp_region_lit ?_
  refine st hF (g_assign hF rfl) rfl fun a hF => ?_
  refine wpList_nil ?_
  refine tN ?_
  refine wp_block ?_
  change Mem w _ [some (b1, tenC p n i o (.slice (some ⟨b, 0, none⟩) m0 m0)), none, none] [(b, numI m0 g), (bv, vecsC m V)] at hM
  refine c_loop (fun (kk : Nat) a w' => kk ≤ m ∧ (True) ∧ Fr 113 a [(1, .slice (some ⟨bv, 0, none⟩) (m) (cv)), (2, ptr b1 (0)), (16, .bool (false)), (6, .int .i64 (((kk : Nat) : Int)))] ∧ Mem w w' [some (b1, tenC p n i o (.slice (some ⟨b, 0, none⟩) m0 m0)), none, none] [(b, numI m0 g), (bv, vecsC m V)]) (fun kk => m - kk) 0 ?_ ?_
  ·
   refine ⟨by omega, trivial, hF.sub _ (by repeat' constructor), ?_⟩
   exact hM
  ·
   clear hF hM
   rintro gi a w' ⟨hgi, hinv1, hF, hM⟩
   have hv : ∀ c, V gi c ≤ 255 := hV gi
   refine sq ?_
   refine sq ?_
   refine wp_region_lit ?_
   refine st hF (g_move hF rfl) rfl fun a hF => st hF (g_move hF rfl) rfl fun a hF => st hF (g_len ty_us_37 hF rfl) rfl fun a hF => st hF (g_lss hF rfl rfl) rfl fun a hF => ?_
   refine wpList_nil ?_
   refine tN ?_
   refine c_cond hF rfl (fun h3 => ?_) (fun h3 => ?_)
   ·
    refine wp_skip ?_
    refine tN ?_
    refine sq ?_
    refine wp_block ?_
    refine sq ?_
    refine c_par 8 [] [.val (ptr b1 (0 + 0)), .val (.int .i64 (p)), .val (ptr b1 (0 + 1)), .val (.int .i64 (n)), .val (.slice (some ⟨bv, 0, none⟩) (m) (cv)), .val (.int .i64 (((gi : Nat) : Int))), .val (ptr bv (0 + (gi) * 6)), .val (.agg (vecC (V (gi))))] hmix rfl hF rfl hM ⟨fun a w gG hF hS hd => by exact par_val hS rfl (g_fieldAddr ty_fo_24_0 hF rfl), fun a w gG hF hS hd => by have hF := hF.ext1 23 (hd 0 rfl rfl); have hM := hS.mem rfl; exact par_val hS rfl (g_load ty_on_2 hF rfl (hM.row 0 rfl) (tenC_0 (by omega))), fun a w gG hF hS hd => by exact par_val hS rfl (g_fieldAddr ty_fo_24_1 hF rfl), fun a w gG hF hS hd => by have hF := hF.ext1 25 (hd 2 rfl rfl); have hM := hS.mem rfl; exact par_val hS rfl (g_load ty_on_2 hF rfl (hM.row 0 rfl) (tenC_1 (by omega))), fun a w gG hF hS hd => by exact par_val hS rfl (g_move hF rfl), fun a w gG hF hS hd => by exact par_val hS rfl (g_move hF rfl), fun a w gG hF hS hd => by have hF := hF.ext1 27 (hd 4 rfl rfl); have hF := hF.ext1 28 (hd 5 rfl rfl); exact par_val hS rfl (g_indexSl (i := gi) ty_sl_37 hF rfl rfl rfl (by omega)), fun a w gG hF hS hd => by have hF := hF.ext1 29 (hd 6 rfl rfl); have hM := hS.mem rfl; exact par_val hS rfl (g_loadAgg ty_ag_51 hF rfl (hM.fzm (b := bv) (cs := vecsC m V) (by simp)) (by rw [vecsC_size]; omega) (vecsC_row (gi) (by omega) (by omega) (by omega))), trivial⟩ ?_
    intro a w' L hF hS hq
    have hF := hF.ext1 23 (hq 0 rfl rfl)
    have hF := hF.ext1 24 (hq 1 rfl rfl)
    have hF := hF.ext1 25 (hq 2 rfl rfl)
    have hF := hF.ext1 26 (hq 3 rfl rfl)
    have hF := hF.ext1 27 (hq 4 rfl rfl)
    have hF := hF.ext1 28 (hq 5 rfl rfl)
    have hF := hF.ext1 29 (hq 6 rfl rfl)
    have hF := hF.ext1 30 (hq 7 rfl rfl)
    have hM := hS.mem rfl
    change wpList Try.prog _ _ [_, _] _ _
    refine stR hF (d_call Try.call27 hF (.cons rfl (.cons rfl (.cons rfl .nil))) ((CallsR.val (l01Small_ok (p) (n) (V (gi)) _ hv) (congrArg Value.bool (decide_eq_true (hvs gi (by omega))))))) rfl ?_
    rintro _ w' a ⟨hx, rfl⟩ hF
    have hM := hM.ext hx
    refine st hF (g_not hF rfl) rfl fun a hF => ?_
    refine wpList_nil ?_
    refine tN ?_
    refine c_Fl hF rfl ?_
    refine wp_skip ?_
    refine iN ?_
    refine tN ?_
    refine wp_region_lit ?_
    refine st hF (g_move hF rfl) rfl fun a hF => st hF (g_add hF rfl rfl (add_nat (gi) (1) (by omega))) rfl fun a hF => st hF (g_assign hF rfl) rfl fun a hF => ?_
    refine wpList_nil ?_
    refine tN ?_
    refine ⟨gi + 1, ⟨by omega, trivial, hF.sub _ (by repeat' constructor), ?_⟩, by omega⟩
    exact hM
   ·
    obtain rfl : m = gi := by omega
    refine wp_exit ?_
    refine tX ?_
    refine tX ?_
    refine ib_same ?_
    refine tN ?_
    refine sq ?_
    refine sq ?_
    refine wp_region_lit ?_
    refine st hF (g_move hF rfl) rfl fun a hF => st hF (g_len ty_us_37 hF rfl) rfl fun a hF => st hF (g_fieldAddr ty_fo_24_2 hF rfl) rfl fun a hF => st hF (g_load ty_on_2 hF rfl (hM.row 0 rfl) (tenC_2 (by omega))) rfl fun a hF => st hF (g_neq hF rfl rfl) rfl fun a hF => ?_
    refine wpList_nil ?_
    refine tN ?_
    refine c_cond hF rfl (fun h5 => ?_) (fun h5 => ?_)
    ·
     refine sq ?_
     refine wp_region_lit ?_
     refine st hF (g_assign hF rfl) rfl fun a hF => st hF (g_assign hF rfl) rfl fun a hF => ?_
     refine wpList_nil ?_
     refine tN ?_
     refine wp_ret ?_
     refine tR ?_
     refine fin2 rfl hF.defers (res_tmp hF rfl) (res_tmp hF rfl) ⟨_, rfl, hM.below, ?_⟩
     show _ = _
     rfl
    ·
     exfalso; omega

set_option maxRecDepth 100000 in
theorem ValueS_V (p n i o b : Nat) (f : Nat → Nat) (bv cv : Nat) (V : Nat → Nat → Nat) (w : World) (hpP : primeP (p : Int)) (hn0 : 0 < n) (hn : n ≤ 6) (hw : wl n i o) (hfp : ∀ c, f c < p) (hV : ∀ i c, V i c ≤ 255) (hvs : VecsP (p : Int) (n : Int) i V) (hb : Blk w b (numC (n ^ (i + o)) f)) (hbv : Blk w bv (vecsC i V)) :
    CallsR Try.prog 12 #[.agg (tenC (p : Int) (n : Int) (i : Int) (o : Int) (.slice (some ⟨b, 0, none⟩) (n ^ (i + o)) (n ^ (i + o)))), .slice (some ⟨bv, 0, none⟩) (i) (cv)] w (fun v w' => ∃ br, v = .tuple #[.slice (some ⟨br, 0, none⟩) (n ^ o) (n ^ o), .int .i64 0] ∧ w.heap.size ≤ br ∧ Blk w' br (numC (n ^ o) (valV p n i (n ^ o) V f (n ^ i)))) := by
  refine calls_fr [.agg (tenC (p : Int) (n : Int) (i : Int) (o : Int) (.slice (some ⟨b, 0, none⟩) (n ^ (i + o)) (n ^ (i + o)))), .slice (some ⟨bv, 0, none⟩) (i) (cv)] Try.func12 rfl Try.ntmps12 rfl fun a hF => ?_
  have hM : Mem w w [none, none, none] [(b, numC (n ^ (i + o)) f), (bv, vecsC i V)] := MemX.startD w 3 _ (startD2 hb hbv)
  change Fr 113 a [(0, .agg (tenC (p : Int) (n : Int) (i : Int) (o : Int) (.slice (some ⟨b, 0, none⟩) (n ^ (i + o)) (n ^ (i + o))))), (1, .slice (some ⟨bv, 0, none⟩) (i) (cv))] at hF
  have hp0 : 0 < p := by have h := hpP; unfold primeP at h; omega
  have hp2 : p < 100 := by have h := hpP; unfold primeP at h; omega
  have hw3 := hw.2.2
  have hw1 := hw.1
  have hw2 := hw.2.1
  have hT := TenP.of_nat hpP hn0 hn hw rfl hfp
  have hW := pow_one_le (k := o) hn0
  have hWl : n ^ o ≤ n ^ (i + o) := Nat.pow_le_pow_right hn0 (by omega)
  have hRl : n ^ i ≤ n ^ (i + o) := Nat.pow_le_pow_right hn0 (by omega)
  have hp1 : 1 < p := by have h := hpP; unfold primeP at h; omega
  have hWo : n ^ o ≤ 1296 := by omega
  have hRi : n ^ i ≤ 1296 := by omega
  refine sq ?_
  refine wp_region_lit ?_
  refine stR hF (d_box 0 hM hF rfl) rfl ?_
  rintro _ w' a ⟨b1, rfl, hM, -⟩ hF
  change Mem w w' [some (b1, tenC (p : Int) (n : Int) (i : Int) (o : Int) (.slice (some ⟨b, 0, none⟩) (n ^ (i + o)) (n ^ (i + o)))), none, none] [(b, numC (n ^ (i + o)) f), (bv, vecsC i V)] at hM
  refine st hF (g_assign hF rfl) rfl fun a hF => st hF (g_assign hF rfl) rfl fun a hF => ?_
  refine wpList_nil ?_
  refine tN ?_
  refine sq ?_
  refine sq ?_
  refine wp_region_lit ?_
  refine st hF (g_loadAgg ty_ag_24 hF rfl (hM.row 0 rfl) (by simp only [fnC_size, cells_size, vecC_size, tabC_size, planeC_size, tenC_size, smC_size, numC_size, numI_size, vecsC_size] <;> omega) (whole rfl)) rfl fun a hF => ?_
  refine stR hF (d_call Try.call26 hF (.cons rfl .nil) ((CallsR.val (l03Is_ok (p : Int) (n : Int) (i : Int) (o : Int) b (n ^ (i + o)) (fun c => ((f c : Nat) : Int)) _ (hM.fz 0 rfl) (by omega)) (congrArg Value.bool (decide_eq_true hT))))) rfl ?_
  rintro _ w' a ⟨hx, rfl⟩ hF
  have hM := hM.ext hx
  refine st hF (g_not hF rfl) rfl fun a hF => ?_
  refine wpList_nil ?_
  refine tN ?_
  refine c_Fl hF rfl ?_
  refine wp_skip ?_
  refine tN ?_
  refine sq ?_
  refine sq ?_
  refine wp_region_lit ?_
  refine st hF (g_assign hF rfl) rfl fun a hF => ?_
  refine wpList_nil ?_
  refine tN ?_
  refine wp_block ?_
  change Mem w _ [some (b1, tenC (p : Int) (n : Int) (i : Int) (o : Int) (.slice (some ⟨b, 0, none⟩) (n ^ (i + o)) (n ^ (i + o)))), none, none] [(b, numC (n ^ (i + o)) f), (bv, vecsC i V)] at hM
  refine c_loop (fun (kk : Nat) a w' => kk ≤ i ∧ (True) ∧ Fr 113 a [(1, .slice (some ⟨bv, 0, none⟩) (i) (cv)), (2, ptr b1 (0)), (16, .bool (false)), (6, .int .i64 (((kk : Nat) : Int)))] ∧ Mem w w' [some (b1, tenC (p : Int) (n : Int) (i : Int) (o : Int) (.slice (some ⟨b, 0, none⟩) (n ^ (i + o)) (n ^ (i + o)))), none, none] [(b, numC (n ^ (i + o)) f), (bv, vecsC i V)]) (fun kk => i - kk) 0 ?_ ?_
  ·
   refine ⟨by omega, trivial, hF.sub _ (by repeat' constructor), ?_⟩
   exact hM
  ·
   clear hF hM
   rintro gi a w' ⟨hgi, hinv1, hF, hM⟩
   have hv : ∀ c, V gi c ≤ 255 := hV gi
   refine sq ?_
   refine sq ?_
   refine wp_region_lit ?_
   refine st hF (g_move hF rfl) rfl fun a hF => st hF (g_move hF rfl) rfl fun a hF => st hF (g_len ty_us_37 hF rfl) rfl fun a hF => st hF (g_lss hF rfl rfl) rfl fun a hF => ?_
   refine wpList_nil ?_
   refine tN ?_
   refine c_cond hF rfl (fun h3 => ?_) (fun h3 => ?_)
   ·
    refine wp_skip ?_
    refine tN ?_
    refine sq ?_
    refine wp_block ?_
    refine sq ?_
    refine c_par 8 [] [.val (ptr b1 (0 + 0)), .val (.int .i64 (((p : Nat) : Int))), .val (ptr b1 (0 + 1)), .val (.int .i64 (((n : Nat) : Int))), .val (.slice (some ⟨bv, 0, none⟩) (i) (cv)), .val (.int .i64 (((gi : Nat) : Int))), .val (ptr bv (0 + (gi) * 6)), .val (.agg (vecC (V (gi))))] hmix rfl hF rfl hM ⟨fun a w gG hF hS hd => by exact par_val hS rfl (g_fieldAddr ty_fo_24_0 hF rfl), fun a w gG hF hS hd => by have hF := hF.ext1 23 (hd 0 rfl rfl); have hM := hS.mem rfl; exact par_val hS rfl (g_load ty_on_2 hF rfl (hM.row 0 rfl) (tenC_0 (by omega))), fun a w gG hF hS hd => by exact par_val hS rfl (g_fieldAddr ty_fo_24_1 hF rfl), fun a w gG hF hS hd => by have hF := hF.ext1 25 (hd 2 rfl rfl); have hM := hS.mem rfl; exact par_val hS rfl (g_load ty_on_2 hF rfl (hM.row 0 rfl) (tenC_1 (by omega))), fun a w gG hF hS hd => by exact par_val hS rfl (g_move hF rfl), fun a w gG hF hS hd => by exact par_val hS rfl (g_move hF rfl), fun a w gG hF hS hd => by have hF := hF.ext1 27 (hd 4 rfl rfl); have hF := hF.ext1 28 (hd 5 rfl rfl); exact par_val hS rfl (g_indexSl (i := gi) ty_sl_37 hF rfl rfl rfl (by omega)), fun a w gG hF hS hd => by have hF := hF.ext1 29 (hd 6 rfl rfl); have hM := hS.mem rfl; exact par_val hS rfl (g_loadAgg ty_ag_51 hF rfl (hM.fzm (b := bv) (cs := vecsC i V) (by simp)) (by rw [vecsC_size]; omega) (vecsC_row (gi) (by omega) (by omega) (by omega))), trivial⟩ ?_
    intro a w' L hF hS hq
    have hF := hF.ext1 23 (hq 0 rfl rfl)
    have hF := hF.ext1 24 (hq 1 rfl rfl)
    have hF := hF.ext1 25 (hq 2 rfl rfl)
    have hF := hF.ext1 26 (hq 3 rfl rfl)
    have hF := hF.ext1 27 (hq 4 rfl rfl)
    have hF := hF.ext1 28 (hq 5 rfl rfl)
    have hF := hF.ext1 29 (hq 6 rfl rfl)
    have hF := hF.ext1 30 (hq 7 rfl rfl)
    have hM := hS.mem rfl
    change wpList Try.prog _ _ [_, _] _ _
    refine stR hF (d_call Try.call27 hF (.cons rfl (.cons rfl (.cons rfl .nil))) ((CallsR.val (l01Small_ok (((p : Nat) : Int)) (((n : Nat) : Int)) (V (gi)) _ hv) (congrArg Value.bool (decide_eq_true (hvs gi (by omega))))))) rfl ?_
    rintro _ w' a ⟨hx, rfl⟩ hF
    have hM := hM.ext hx
    refine st hF (g_not hF rfl) rfl fun a hF => ?_
    refine wpList_nil ?_
    refine tN ?_
    refine c_Fl hF rfl ?_
    refine wp_skip ?_
    refine iN ?_
    refine tN ?_
    refine wp_region_lit ?_
    refine st hF (g_move hF rfl) rfl fun a hF => st hF (g_add hF rfl rfl (add_nat (gi) (1) (by omega))) rfl fun a hF => st hF (g_assign hF rfl) rfl fun a hF => ?_
    refine wpList_nil ?_
    refine tN ?_
    refine ⟨gi + 1, ⟨by omega, trivial, hF.sub _ (by repeat' constructor), ?_⟩, by omega⟩
    exact hM
   ·
    obtain rfl : i = gi := by omega
    refine wp_exit ?_
    refine tX ?_
    refine tX ?_
    refine ib_same ?_
    refine tN ?_
    refine sq ?_
    refine sq ?_
    refine wp_region_lit ?_
    refine st hF (g_move hF rfl) rfl fun a hF => st hF (g_len ty_us_37 hF rfl) rfl fun a hF => st hF (g_fieldAddr ty_fo_24_2 hF rfl) rfl fun a hF => st hF (g_load ty_on_2 hF rfl (hM.row 0 rfl) (tenC_2 (by omega))) rfl fun a hF => st hF (g_neq hF rfl rfl) rfl fun a hF => ?_
    refine wpList_nil ?_
    refine tN ?_
    refine c_cond hF rfl (fun h5 => ?_) (fun h5 => ?_)
    ·
     first | exact absurd rfl h5 | (exfalso; omega)
    ·
     refine wp_skip ?_
     refine tN ?_
     refine sq ?_
     refine wp_region_lit ?_
     refine st hF (g_fieldAddr ty_fo_24_1 hF rfl) rfl fun a hF => st hF (g_load ty_on_2 hF rfl (hM.row 0 rfl) (tenC_1 (by omega))) rfl fun a hF => st hF (g_fieldAddr ty_fo_24_3 hF rfl) rfl fun a hF => st hF (g_load ty_on_2 hF rfl (hM.row 0 rfl) (tenC_3 (by omega))) rfl fun a hF => ?_
     refine stR hF (d_call Try.call28 hF (.cons rfl (.cons rfl .nil)) ((CallsR.val (l03Power_ok (n) (o) _ (by omega) (by omega) (by omega)) (congrArg (fun x : Nat => Value.int .i64 (x : Int)) (pwr_le (by omega) hWo))))) rfl ?_
     rintro _ w' a ⟨hx, rfl⟩ hF
     have hM := hM.ext hx
     refine st hF (g_assign hF rfl) rfl fun a hF => ?_
     refine wpList_nil ?_
     refine tN ?_
     refine sq ?_
     refine wp_region_lit ?_
     refine st hF (g_move hF rfl) rfl fun a hF => ?_
     refine stR hF (d_make1 (len := (n) ^ (o)) 1 hM hF ty_si_22 rfl rfl rfl (by omega) (by decide)) rfl ?_
     rintro _ w' a ⟨b7, rfl, hM, -⟩ hF
     change Mem w w' [some (b1, tenC (p : Int) (n : Int) (i : Int) (o : Int) (.slice (some ⟨b, 0, none⟩) (n ^ (i + o)) (n ^ (i + o)))), some (b7, numC ((n) ^ (o)) (fun _ => 0)), none] [(b, numC (n ^ (i + o)) f), (bv, vecsC i V)] at hM
     refine st hF (g_assign hF rfl) rfl fun a hF => ?_
     refine wpList_nil ?_
     refine tN ?_
     refine sq ?_
     refine sq ?_
     refine wp_region_lit ?_
     refine st hF (g_assign hF rfl) rfl fun a hF => ?_
     refine wpList_nil ?_
     refine tN ?_
     refine wp_block ?_
     change Mem w _ [some (b1, tenC (p : Int) (n : Int) (i : Int) (o : Int) (.slice (some ⟨b, 0, none⟩) (n ^ (i + o)) (n ^ (i + o)))), some (b7, numC ((n) ^ (o)) (fun _ => 0)), none] [(b, numC (n ^ (i + o)) f), (bv, vecsC i V)] at hM
     refine c_loop (fun (kk : Nat) a w' => kk ≤ n ^ i ∧ (True) ∧ Fr 113 a [(1, .slice (some ⟨bv, 0, none⟩) (i) (cv)), (2, ptr b1 (0)), (16, .bool (false)), (6, .int .i64 (((i : Nat) : Int))), (17, .int .i64 (((i : Nat) : Int))), (18, .slice (some ⟨bv, 0, none⟩) (i) (cv)), (19, .int .i64 (((i : Nat) : Int))), (20, .bool (decide ((((i : Nat) : Int) : Int) < ((i : Nat) : Int)))), (33, .slice (some ⟨bv, 0, none⟩) (i) (cv)), (34, .int .i64 (((i : Nat) : Int))), (35, ptr b1 (0 + 2)), (36, .int .i64 (((i : Nat) : Int))), (37, .bool (decide ((((i : Nat) : Int) : Int) ≠ ((i : Nat) : Int)))), (38, ptr b1 (0 + 1)), (39, .int .i64 (((n : Nat) : Int))), (40, ptr b1 (0 + 3)), (41, .int .i64 (((o : Nat) : Int))), (42, .int .i64 ((((n) ^ (o) : Nat) : Int))), (7, .int .i64 ((((n) ^ (o) : Nat) : Int))), (43, .int .i64 ((((n) ^ (o) : Nat) : Int))), (44, .slice (some ⟨b7, 0, none⟩) ((n) ^ (o)) ((n) ^ (o))), (8, .slice (some ⟨b7, 0, none⟩) ((n) ^ (o)) ((n) ^ (o))), (9, .int .i64 (((kk : Nat) : Int)))] ∧ Mem w w' [some (b1, tenC (p : Int) (n : Int) (i : Int) (o : Int) (.slice (some ⟨b, 0, none⟩) (n ^ (i + o)) (n ^ (i + o)))), some (b7, numC (n ^ o) (valV p n i (n ^ o) V f (kk))), none] [(b, numC (n ^ (i + o)) f), (bv, vecsC i V)]) (fun kk => n ^ i - kk) 0 ?_ ?_
     ·
      refine ⟨by omega, trivial, hF.sub _ (by repeat' constructor), ?_⟩
      exact hM.rowc 1 rfl (numC_congr fun c hc => rfl)
     ·
      clear hF hM
      rintro gi a w' ⟨hgi, hinv2, hF, hM⟩
      have hr1 : gi < n ^ i → gi * n ^ o + n ^ o ≤ n ^ (i + o) := idx_bdV
      have hdg : ∀ c, Rw.digF n i gi c < n := fun c => Rw.digF_lt hn0
      refine sq ?_
      refine sq ?_
      refine wp_region_lit ?_
      refine st hF (g_move hF rfl) rfl fun a hF => st hF (g_fieldAddr ty_fo_24_1 hF rfl) rfl fun a hF => st hF (g_load ty_on_2 hF rfl (hM.row 0 rfl) (tenC_1 (by omega))) rfl fun a hF => st hF (g_fieldAddr ty_fo_24_2 hF rfl) rfl fun a hF => st hF (g_load ty_on_2 hF rfl (hM.row 0 rfl) (tenC_2 (by omega))) rfl fun a hF => ?_
      refine stR hF (d_call Try.call28 hF (.cons rfl (.cons rfl .nil)) ((CallsR.val (l03Power_ok (n) (i) _ (by omega) (by omega) (by omega)) (congrArg (fun x : Nat => Value.int .i64 (x : Int)) (pwr_le (by omega) hRi))))) rfl ?_
      rintro _ w' a ⟨hx, rfl⟩ hF
      have hM := hM.ext hx
      refine st hF (g_lss hF rfl rfl) rfl fun a hF => ?_
      refine wpList_nil ?_
      refine tN ?_
      refine c_cond hF rfl (fun h8 => ?_) (fun h8 => ?_)
      ·
       refine wp_skip ?_
       refine tN ?_
       refine sq ?_
       refine wp_block ?_
       refine sq ?_
       refine wp_region_lit ?_
       refine st hF (g_move hF rfl) rfl fun a hF => st hF (g_fieldAddr ty_fo_24_1 hF rfl) rfl fun a hF => st hF (g_load ty_on_2 hF rfl (hM.row 0 rfl) (tenC_1 (by omega))) rfl fun a hF => st hF (g_fieldAddr ty_fo_24_2 hF rfl) rfl fun a hF => st hF (g_load ty_on_2 hF rfl (hM.row 0 rfl) (tenC_2 (by omega))) rfl fun a hF => ?_
       refine stR hF (d_call Try.call29 hF (.cons rfl (.cons rfl (.cons rfl .nil))) (l03Digits_ok (gi) (n) (i) _ (by omega) (by omega) (by omega) (by omega))) rfl ?_
       rintro _ w' a ⟨hx, b9, rfl, hge, hbk⟩ hF
       have hM := hM.fill hx 2 hbk hge
       change Mem w w' [some (b1, tenC (p : Int) (n : Int) (i : Int) (o : Int) (.slice (some ⟨b, 0, none⟩) (n ^ (i + o)) (n ^ (i + o)))), some (b7, numC (n ^ o) (valV p n i (n ^ o) V f (gi))), some (b9, numC (i) (Rw.digF (n) (i) (gi)))] [(b, numC (n ^ (i + o)) f), (bv, vecsC i V)] at hM
       refine st hF (g_assign hF rfl) rfl fun a hF => st hF (g_assign hF rfl) rfl fun a hF => ?_
       refine wpList_nil ?_
       refine tN ?_
       refine sq ?_
       refine sq ?_
       refine wp_region_lit ?_
       refine st hF (g_assign hF rfl) rfl fun a hF => ?_
       refine wpList_nil ?_
       refine tN ?_
       refine wp_block ?_
       change Mem w _ [some (b1, tenC (p : Int) (n : Int) (i : Int) (o : Int) (.slice (some ⟨b, 0, none⟩) (n ^ (i + o)) (n ^ (i + o)))), some (b7, numC (n ^ o) (valV p n i (n ^ o) V f (gi))), some (b9, numC (i) (Rw.digF (n) (i) (gi)))] [(b, numC (n ^ (i + o)) f), (bv, vecsC i V)] at hM
       refine c_loop (fun (kk : Nat) a w' => kk ≤ i ∧ (True) ∧ Fr 113 a [(1, .slice (some ⟨bv, 0, none⟩) (i) (cv)), (2, ptr b1 (0)), (16, .bool (false)), (6, .int .i64 (((i : Nat) : Int))), (17, .int .i64 (((i : Nat) : Int))), (18, .slice (some ⟨bv, 0, none⟩) (i) (cv)), (19, .int .i64 (((i : Nat) : Int))), (20, .bool (decide ((((i : Nat) : Int) : Int) < ((i : Nat) : Int)))), (33, .slice (some ⟨bv, 0, none⟩) (i) (cv)), (34, .int .i64 (((i : Nat) : Int))), (35, ptr b1 (0 + 2)), (36, .int .i64 (((i : Nat) : Int))), (37, .bool (decide ((((i : Nat) : Int) : Int) ≠ ((i : Nat) : Int)))), (38, ptr b1 (0 + 1)), (39, .int .i64 (((n : Nat) : Int))), (40, ptr b1 (0 + 3)), (41, .int .i64 (((o : Nat) : Int))), (42, .int .i64 ((((n) ^ (o) : Nat) : Int))), (7, .int .i64 ((((n) ^ (o) : Nat) : Int))), (43, .int .i64 ((((n) ^ (o) : Nat) : Int))), (44, .slice (some ⟨b7, 0, none⟩) ((n) ^ (o)) ((n) ^ (o))), (8, .slice (some ⟨b7, 0, none⟩) ((n) ^ (o)) ((n) ^ (o))), (9, .int .i64 (((gi : Nat) : Int))), (45, .int .i64 (((gi : Nat) : Int))), (46, ptr b1 (0 + 1)), (47, .int .i64 (((n : Nat) : Int))), (48, ptr b1 (0 + 2)), (49, .int .i64 (((i : Nat) : Int))), (50, .int .i64 ((((n) ^ (i) : Nat) : Int))), (51, .bool (decide ((((gi : Nat) : Int) : Int) < (((n) ^ (i) : Nat) : Int)))), (54, .int .i64 (((gi : Nat) : Int))), (55, ptr b1 (0 + 1)), (56, .int .i64 (((n : Nat) : Int))), (57, ptr b1 (0 + 2)), (58, .int .i64 (((i : Nat) : Int))), (59, .slice (some ⟨b9, 0, none⟩) (i) (i)), (10, .slice (some ⟨b9, 0, none⟩) (i) (i)), (12, .int .i64 (((kk : Nat) : Int))), (11, .int .i64 (((facV p n i gi V kk : Nat) : Int)))] ∧ Mem w w' [some (b1, tenC (p : Int) (n : Int) (i : Int) (o : Int) (.slice (some ⟨b, 0, none⟩) (n ^ (i + o)) (n ^ (i + o)))), some (b7, numC (n ^ o) (valV p n i (n ^ o) V f (gi))), some (b9, numC (i) (Rw.digF (n) (i) (gi)))] [(b, numC (n ^ (i + o)) f), (bv, vecsC i V)]) (fun kk => i - kk) 0 ?_ ?_
       ·
        refine ⟨by omega, trivial, hF.sub _ (by repeat' constructor), ?_⟩
        exact hM
       ·
        clear hF hM
        rintro gl a w' ⟨hgl, hinv3, hF, hM⟩
        have hfl := facV_lt (p := p) (n := n) (i := i) (k := gi) (V := V) hp1 gl
        have hvl := hV gl (Rw.digF n i gi gl)
        have hdl := hdg gl
        have hfm : facV p n i gi V gl * V gl (Rw.digF n i gi gl) ≤ 100 * 255 := Nat.mul_le_mul (by omega) hvl
        refine sq ?_
        refine sq ?_
        refine wp_region_lit ?_
        refine st hF (g_move hF rfl) rfl fun a hF => st hF (g_move hF rfl) rfl fun a hF => st hF (g_len ty_us_22 hF rfl) rfl fun a hF => st hF (g_lss hF rfl rfl) rfl fun a hF => ?_
        refine wpList_nil ?_
        refine tN ?_
        refine c_cond hF rfl (fun h10 => ?_) (fun h10 => ?_)
        ·
         refine wp_skip ?_
         refine tN ?_
         refine sq ?_
         refine wp_block ?_
         refine c_par 14 [] [.val (.int .i64 (((facV p n i gi V gl : Nat) : Int))), .val (.slice (some ⟨bv, 0, none⟩) (i) (cv)), .val (.int .i64 (((gl : Nat) : Int))), .val (.slice (some ⟨b9, 0, none⟩) (i) (i)), .val (.int .i64 (((gl : Nat) : Int))), .val (ptr b9 (0 + (gl) * 1)), .val (.int .i64 ((((Rw.digF (n) (i) (gi)) ((gl)) : Nat) : Int))), .val (ptr bv (0 + (gl) * 6)), .val (ptr bv (0 + (gl) * 6 + ((Rw.digF (n) (i) (gi)) ((gl))) * 1)), .val (.int .u8 (((V (gl) ((Rw.digF (n) (i) (gi)) ((gl))) : Nat) : Int))), .val (.int .i64 (((V (gl) ((Rw.digF (n) (i) (gi)) ((gl))) : Nat) : Int))), .val (.int .i64 ((((facV p n i gi V gl) * (V (gl) ((Rw.digF (n) (i) (gi)) ((gl)))) : Nat) : Int))), .val (ptr b1 (0 + 0)), .val (.int .i64 (((p : Nat) : Int)))] hmix rfl hF rfl hM ⟨fun a w gG hF hS hd => by exact par_val hS rfl (g_move hF rfl), fun a w gG hF hS hd => by exact par_val hS rfl (g_move hF rfl), fun a w gG hF hS hd => by exact par_val hS rfl (g_move hF rfl), fun a w gG hF hS hd => by exact par_val hS rfl (g_move hF rfl), fun a w gG hF hS hd => by exact par_val hS rfl (g_move hF rfl), fun a w gG hF hS hd => by have hF := hF.ext1 69 (hd 3 rfl rfl); have hF := hF.ext1 70 (hd 4 rfl rfl); exact par_val hS rfl (g_indexSl (i := gl) ty_sl_22 hF rfl rfl rfl (by omega)), fun a w gG hF hS hd => by have hF := hF.ext1 71 (hd 5 rfl rfl); have hM := hS.mem rfl; exact par_val hS rfl (g_load ty_on_2 hF rfl (hM.row 2 rfl) (numC_get (k := (gl)) (by omega) (by omega))), fun a w gG hF hS hd => by have hF := hF.ext1 67 (hd 1 rfl rfl); have hF := hF.ext1 68 (hd 2 rfl rfl); exact par_val hS rfl (g_indexSl (i := gl) ty_sl_37 hF rfl rfl rfl (by omega)), fun a w gG hF hS hd => by have hF := hF.ext1 72 (hd 6 rfl rfl); have hF := hF.ext1 73 (hd 7 rfl rfl); exact par_val hS rfl (g_indexAddr ty_ar_51 hF rfl rfl rfl (by omega)), fun a w gG hF hS hd => by have hF := hF.ext1 74 (hd 8 rfl rfl); have hM := hS.mem rfl; exact par_val hS rfl (g_load ty_on_5 hF rfl (hM.fzm (b := bv) (cs := vecsC i V) (by simp)) (vecsC_cell (gl) ((Rw.digF (n) (i) (gi)) ((gl))) (by omega) (by omega) (by omega))), fun a w gG hF hS hd => by have hF := hF.ext1 75 (hd 9 rfl rfl); exact par_val hS rfl (g_conv ty_un_2 ty_ud_5 hF rfl (wrap_i64 (by omega) (by omega))), fun a w gG hF hS hd => by have hF := hF.ext1 66 (hd 0 rfl rfl); have hF := hF.ext1 76 (hd 10 rfl rfl); exact par_val hS rfl (g_mul hF rfl rfl (mul_nat (facV p n i gi V gl) (V (gl) ((Rw.digF (n) (i) (gi)) ((gl)))) (by omega))), fun a w gG hF hS hd => by exact par_val hS rfl (g_fieldAddr ty_fo_24_0 hF rfl), fun a w gG hF hS hd => by have hF := hF.ext1 78 (hd 12 rfl rfl); have hM := hS.mem rfl; exact par_val hS rfl (g_load ty_on_2 hF rfl (hM.row 0 rfl) (tenC_0 (by omega))), trivial⟩ ?_
         intro a w' L hF hS hq
         have hF := hF.ext1 66 (hq 0 rfl rfl)
         have hF := hF.ext1 67 (hq 1 rfl rfl)
         have hF := hF.ext1 68 (hq 2 rfl rfl)
         have hF := hF.ext1 69 (hq 3 rfl rfl)
         have hF := hF.ext1 70 (hq 4 rfl rfl)
         have hF := hF.ext1 71 (hq 5 rfl rfl)
         have hF := hF.ext1 72 (hq 6 rfl rfl)
         have hF := hF.ext1 73 (hq 7 rfl rfl)
         have hF := hF.ext1 74 (hq 8 rfl rfl)
         have hF := hF.ext1 75 (hq 9 rfl rfl)
         have hF := hF.ext1 76 (hq 10 rfl rfl)
         have hF := hF.ext1 77 (hq 11 rfl rfl)
         have hF := hF.ext1 78 (hq 12 rfl rfl)
         have hF := hF.ext1 79 (hq 13 rfl rfl)
         have hM := hS.mem rfl
         change wpList Try.prog _ _ [_, _] _ _
         refine st hF (g_rem hF rfl rfl (by omega) (rem_nat ((facV p n i gi V gl) * (V (gl) ((Rw.digF (n) (i) (gi)) ((gl))))) (p))) rfl fun a hF => st hF (g_assign hF rfl) rfl fun a hF => ?_
         refine wpList_nil ?_
         refine iN ?_
         refine tN ?_
         refine wp_region_lit ?_
         refine st hF (g_move hF rfl) rfl fun a hF => st hF (g_add hF rfl rfl (add_nat (gl) (1) (by omega))) rfl fun a hF => st hF (g_assign hF rfl) rfl fun a hF => ?_
         refine wpList_nil ?_
         refine tN ?_
         rw [show facV p n i gi V gl * V gl (Rw.digF n i gi gl) % p = facV p n i gi V (gl + 1) from rfl] at hF
         refine ⟨gl + 1, ⟨by omega, trivial, hF.sub _ (by repeat' constructor), ?_⟩, by omega⟩
         exact hM
        ·
         obtain rfl : i = gl := by omega
         refine wp_exit ?_
         refine tX ?_
         refine tX ?_
         refine ib_same ?_
         refine tN ?_
         refine sq ?_
         refine wp_region_lit ?_
         refine st hF (g_assign hF rfl) rfl fun a hF => ?_
         refine wpList_nil ?_
         refine tN ?_
         refine wp_block ?_
         change Mem w _ [some (b1, tenC (p : Int) (n : Int) (i : Int) (o : Int) (.slice (some ⟨b, 0, none⟩) (n ^ (i + o)) (n ^ (i + o)))), some (b7, numC (n ^ o) (valV p n i (n ^ o) V f (gi))), some (b9, numC (i) (Rw.digF (n) (i) (gi)))] [(b, numC (n ^ (i + o)) f), (bv, vecsC i V)] at hM
         refine c_loop (fun (kk : Nat) a w' => kk ≤ n ^ o ∧ (True) ∧ Fr 113 a [(1, .slice (some ⟨bv, 0, none⟩) (i) (cv)), (2, ptr b1 (0)), (16, .bool (false)), (6, .int .i64 (((i : Nat) : Int))), (17, .int .i64 (((i : Nat) : Int))), (18, .slice (some ⟨bv, 0, none⟩) (i) (cv)), (19, .int .i64 (((i : Nat) : Int))), (20, .bool (decide ((((i : Nat) : Int) : Int) < ((i : Nat) : Int)))), (33, .slice (some ⟨bv, 0, none⟩) (i) (cv)), (34, .int .i64 (((i : Nat) : Int))), (35, ptr b1 (0 + 2)), (36, .int .i64 (((i : Nat) : Int))), (37, .bool (decide ((((i : Nat) : Int) : Int) ≠ ((i : Nat) : Int)))), (38, ptr b1 (0 + 1)), (39, .int .i64 (((n : Nat) : Int))), (40, ptr b1 (0 + 3)), (41, .int .i64 (((o : Nat) : Int))), (42, .int .i64 ((((n) ^ (o) : Nat) : Int))), (7, .int .i64 ((((n) ^ (o) : Nat) : Int))), (43, .int .i64 ((((n) ^ (o) : Nat) : Int))), (44, .slice (some ⟨b7, 0, none⟩) ((n) ^ (o)) ((n) ^ (o))), (8, .slice (some ⟨b7, 0, none⟩) ((n) ^ (o)) ((n) ^ (o))), (9, .int .i64 (((gi : Nat) : Int))), (45, .int .i64 (((gi : Nat) : Int))), (46, ptr b1 (0 + 1)), (47, .int .i64 (((n : Nat) : Int))), (48, ptr b1 (0 + 2)), (49, .int .i64 (((i : Nat) : Int))), (50, .int .i64 ((((n) ^ (i) : Nat) : Int))), (51, .bool (decide ((((gi : Nat) : Int) : Int) < (((n) ^ (i) : Nat) : Int)))), (54, .int .i64 (((gi : Nat) : Int))), (55, ptr b1 (0 + 1)), (56, .int .i64 (((n : Nat) : Int))), (57, ptr b1 (0 + 2)), (58, .int .i64 (((i : Nat) : Int))), (59, .slice (some ⟨b9, 0, none⟩) (i) (i)), (10, .slice (some ⟨b9, 0, none⟩) (i) (i)), (12, .int .i64 (((i : Nat) : Int))), (11, .int .i64 (((facV p n i gi V i : Nat) : Int))), (60, .int .i64 (((i : Nat) : Int))), (61, .slice (some ⟨b9, 0, none⟩) (i) (i)), (62, .int .i64 (((i : Nat) : Int))), (63, .bool (decide ((((i : Nat) : Int) : Int) < ((i : Nat) : Int)))), (13, .int .i64 (((kk : Nat) : Int)))] ∧ Mem w w' [some (b1, tenC (p : Int) (n : Int) (i : Int) (o : Int) (.slice (some ⟨b, 0, none⟩) (n ^ (i + o)) (n ^ (i + o)))), some (b7, numC (n ^ o) (valG p n i (n ^ o) V f gi kk)), some (b9, numC (i) (Rw.digF (n) (i) (gi)))] [(b, numC (n ^ (i + o)) f), (bv, vecsC i V)]) (fun kk => n ^ o - kk) 0 ?_ ?_
         ·
          refine ⟨by omega, trivial, hF.sub _ (by repeat' constructor), ?_⟩
          exact hM.rowc 1 rfl (numC_congr fun c hc => (if_neg (Nat.not_lt_zero _)).symm)
         ·
          clear hF hM
          rintro gj a w' ⟨hgj, hinv4, hF, hM⟩
          have hvj := valV_lt (p := p) (n := n) (i := i) (W := n ^ o) (V := V) (f := f) hp0 gi gj
          have hfi := facV_lt (p := p) (n := n) (i := i) (k := gi) (V := V) hp1 i
          have hff := hfp (gi * n ^ o + gj)
          have hfm : facV p n i gi V i * f (gi * n ^ o + gj) ≤ 100 * 100 := Nat.mul_le_mul (by omega) (by omega)
          refine sq ?_
          refine sq ?_
          refine wp_region_lit ?_
          refine st hF (g_move hF rfl) rfl fun a hF => st hF (g_move hF rfl) rfl fun a hF => st hF (g_lss hF rfl rfl) rfl fun a hF => st hF (g_move hF rfl) rfl fun a hF => ?_
          by_cases g11 : (((gj : Nat) : Int) : Int) < (((n) ^ (o) : Nat) : Int)
          ·
           first | rw [decide_eq_true g11] at hF | simp only [decide_eq_true g11] at hF
           refine stY hF rfl rfl rfl (g_move hF rfl) rfl fun a hF => stY hF rfl rfl rfl (g_neq hF rfl rfl) rfl fun a hF => st hF (g_pickT hF rfl rfl) rfl fun a hF => ?_
           refine wpList_nil ?_
           refine tN ?_
           refine c_cond hF rfl (fun h12 => ?_) (fun h12 => ?_)
           ·
            refine wp_skip ?_
            refine tN ?_
            refine sq ?_
            refine wp_block ?_
            refine c_par 21 [] [.val (.slice (some ⟨b7, 0, none⟩) ((n) ^ (o)) ((n) ^ (o))), .val (.int .i64 (((gj : Nat) : Int))), .val (.slice (some ⟨b7, 0, none⟩) ((n) ^ (o)) ((n) ^ (o))), .val (.int .i64 (((gj : Nat) : Int))), .val (ptr b7 (0 + (gj) * 1)), .val (.int .i64 (((valV p n i (n ^ o) V f gi gj : Nat) : Int))), .val (.int .i64 (((facV p n i gi V i : Nat) : Int))), .val (ptr b1 (0 + 4)), .val (.slice (some ⟨b, 0, none⟩) (n ^ (i + o)) (n ^ (i + o))), .val (.int .i64 (((gi : Nat) : Int))), .val (.int .i64 ((((n) ^ (o) : Nat) : Int))), .val (.int .i64 ((((gi) * ((n) ^ (o)) : Nat) : Int))), .val (.int .i64 (((gj : Nat) : Int))), .val (.int .i64 ((((gi) * ((n) ^ (o)) + gj : Nat) : Int))), .val (ptr b (0 + ((gi) * ((n) ^ (o)) + gj) * 1)), .val (.int .i64 (((f ((gi) * ((n) ^ (o)) + gj) : Nat) : Int))), .val (.int .i64 ((((facV p n i gi V i) * (f ((gi) * ((n) ^ (o)) + gj)) : Nat) : Int))), .val (.int .i64 (((valV p n i (n ^ o) V f gi gj + (facV p n i gi V i) * (f ((gi) * ((n) ^ (o)) + gj)) : Nat) : Int))), .val (ptr b1 (0 + 0)), .val (.int .i64 (((p : Nat) : Int))), .val (.int .i64 ((((valV p n i (n ^ o) V f gi gj + (facV p n i gi V i) * (f ((gi) * ((n) ^ (o)) + gj))) % (p) : Nat) : Int)))] hmix rfl hF rfl hM ⟨fun a w gG hF hS hd => by exact par_val hS rfl (g_move hF rfl), fun a w gG hF hS hd => by exact par_val hS rfl (g_move hF rfl), fun a w gG hF hS hd => by exact par_val hS rfl (g_move hF rfl), fun a w gG hF hS hd => by exact par_val hS rfl (g_move hF rfl), fun a w gG hF hS hd => by have hF := hF.ext1 92 (hd 2 rfl rfl); have hF := hF.ext1 93 (hd 3 rfl rfl); exact par_val hS rfl (g_indexSl (i := gj) ty_sl_22 hF rfl rfl rfl (by omega)), fun a w gG hF hS hd => by have hF := hF.ext1 94 (hd 4 rfl rfl); have hM := hS.mem rfl; exact par_val hS rfl (g_load ty_on_2 hF rfl (hM.row 1 rfl) ((numC_get (k := gj) (by omega) (by omega)).trans (congrArg (fun q : Nat => some (Value.int .i64 (q : Int))) (if_neg (Nat.lt_irrefl _))))), fun a w gG hF hS hd => by exact par_val hS rfl (g_move hF rfl), fun a w gG hF hS hd => by exact par_val hS rfl (g_fieldAddr ty_fo_24_4 hF rfl), fun a w gG hF hS hd => by have hF := hF.ext1 97 (hd 7 rfl rfl); have hM := hS.mem rfl; exact par_val hS rfl (g_load ty_on_22 hF rfl (hM.row 0 rfl) (tenC_4 (by omega))), fun a w gG hF hS hd => by exact par_val hS rfl (g_move hF rfl), fun a w gG hF hS hd => by exact par_val hS rfl (g_move hF rfl), fun a w gG hF hS hd => by have hF := hF.ext1 99 (hd 9 rfl rfl); have hF := hF.ext1 100 (hd 10 rfl rfl); exact par_val hS rfl (g_mul hF rfl rfl (mul_nat (gi) ((n) ^ (o)) (by omega))), fun a w gG hF hS hd => by exact par_val hS rfl (g_move hF rfl), fun a w gG hF hS hd => by have hF := hF.ext1 101 (hd 11 rfl rfl); have hF := hF.ext1 102 (hd 12 rfl rfl); exact par_val hS rfl (g_add hF rfl rfl (add_nat ((gi) * ((n) ^ (o))) (gj) (by omega))), fun a w gG hF hS hd => by have hF := hF.ext1 98 (hd 8 rfl rfl); have hF := hF.ext1 103 (hd 13 rfl rfl); exact par_val hS rfl (g_indexSl (i := (gi) * ((n) ^ (o)) + gj) ty_sl_22 hF rfl rfl rfl (by omega)), fun a w gG hF hS hd => by have hF := hF.ext1 104 (hd 14 rfl rfl); have hM := hS.mem rfl; exact par_val hS rfl (g_load ty_on_2 hF rfl (hM.fz 0 rfl) (numC_get (k := (gi) * ((n) ^ (o)) + gj) (by omega) (by omega))), fun a w gG hF hS hd => by have hF := hF.ext1 96 (hd 6 rfl rfl); have hF := hF.ext1 105 (hd 15 rfl rfl); exact par_val hS rfl (g_mul hF rfl rfl (mul_nat (facV p n i gi V i) (f ((gi) * ((n) ^ (o)) + gj)) (by omega))), fun a w gG hF hS hd => by have hF := hF.ext1 95 (hd 5 rfl rfl); have hF := hF.ext1 106 (hd 16 rfl rfl); exact par_val hS rfl (g_add hF rfl rfl (add_nat (valV p n i (n ^ o) V f gi gj) ((facV p n i gi V i) * (f ((gi) * ((n) ^ (o)) + gj))) (by omega))), fun a w gG hF hS hd => by exact par_val hS rfl (g_fieldAddr ty_fo_24_0 hF rfl), fun a w gG hF hS hd => by have hF := hF.ext1 108 (hd 18 rfl rfl); have hM := hS.mem rfl; exact par_val hS rfl (g_load ty_on_2 hF rfl (hM.row 0 rfl) (tenC_0 (by omega))), fun a w gG hF hS hd => by have hF := hF.ext1 107 (hd 17 rfl rfl); have hF := hF.ext1 109 (hd 19 rfl rfl); exact par_val hS rfl (g_rem hF rfl rfl (by omega) (rem_nat (valV p n i (n ^ o) V f gi gj + (facV p n i gi V i) * (f ((gi) * ((n) ^ (o)) + gj))) (p))), trivial⟩ ?_
            intro a w' L hF hS hq
            have hF := hF.ext1 90 (hq 0 rfl rfl)
            have hF := hF.ext1 91 (hq 1 rfl rfl)
            have hF := hF.ext1 92 (hq 2 rfl rfl)
            have hF := hF.ext1 93 (hq 3 rfl rfl)
            have hF := hF.ext1 94 (hq 4 rfl rfl)
            have hF := hF.ext1 95 (hq 5 rfl rfl)
            have hF := hF.ext1 96 (hq 6 rfl rfl)
            have hF := hF.ext1 97 (hq 7 rfl rfl)
            have hF := hF.ext1 98 (hq 8 rfl rfl)
            have hF := hF.ext1 99 (hq 9 rfl rfl)
            have hF := hF.ext1 100 (hq 10 rfl rfl)
            have hF := hF.ext1 101 (hq 11 rfl rfl)
            have hF := hF.ext1 102 (hq 12 rfl rfl)
            have hF := hF.ext1 103 (hq 13 rfl rfl)
            have hF := hF.ext1 104 (hq 14 rfl rfl)
            have hF := hF.ext1 105 (hq 15 rfl rfl)
            have hF := hF.ext1 106 (hq 16 rfl rfl)
            have hF := hF.ext1 107 (hq 17 rfl rfl)
            have hF := hF.ext1 108 (hq 18 rfl rfl)
            have hF := hF.ext1 109 (hq 19 rfl rfl)
            have hF := hF.ext1 110 (hq 20 rfl rfl)
            have hM := hS.mem rfl
            change wpList Try.prog _ _ [_, _] _ _
            refine st hF (g_indexSl (i := gj) ty_sl_22 hF rfl rfl rfl (by omega)) rfl fun a hF => ?_
            refine stN hF (d_store 1 hM rfl ty_on_2 hF rfl rfl rfl (by first | omega | (simp only [fnC_size, cells_size, vecC_size, tabC_size, planeC_size, tenC_size, smC_size, numC_size, numI_size, vecsC_size] <;> omega) | (simp only [Array.size_setIfInBounds]; omega) | simp)) ?_
            intro _ w' a hM hF
            rw [show (numC (n ^ o) (valG p n i (n ^ o) V f gi gj)).setIfInBounds (0 + (gj) * 1) (.int .i64 ((((valV p n i (n ^ o) V f gi gj + (facV p n i gi V i) * (f ((gi) * ((n) ^ (o)) + gj))) % (p) : Nat) : Int))) = numC (n ^ o) (fun c => if c = (gj) then (valV p n i (n ^ o) V f gi gj + (facV p n i gi V i) * (f ((gi) * ((n) ^ (o)) + gj))) % (p) else (valG p n i (n ^ o) V f gi gj) c) from numC_set (k := (gj)) (by omega) (fun c _ => rfl)] at hM
            change Mem w w' [some (b1, tenC (p : Int) (n : Int) (i : Int) (o : Int) (.slice (some ⟨b, 0, none⟩) (n ^ (i + o)) (n ^ (i + o)))), some (b7, numC (n ^ o) (fun c => if c = (gj) then (valV p n i (n ^ o) V f gi gj + (facV p n i gi V i) * (f ((gi) * ((n) ^ (o)) + gj))) % (p) else (valG p n i (n ^ o) V f gi gj) c)), some (b9, numC (i) (Rw.digF (n) (i) (gi)))] [(b, numC (n ^ (i + o)) f), (bv, vecsC i V)] at hM
            refine wpList_nil ?_
            refine iN ?_
            refine tN ?_
            refine wp_region_lit ?_
            refine st hF (g_move hF rfl) rfl fun a hF => st hF (g_add hF rfl rfl (add_nat (gj) (1) (by omega))) rfl fun a hF => st hF (g_assign hF rfl) rfl fun a hF => ?_
            refine wpList_nil ?_
            refine tN ?_
            refine ⟨gj + 1, ⟨by omega, trivial, hF.sub _ (by repeat' constructor), ?_⟩, by omega⟩
            exact hM.rowc 1 rfl (numC_congr fun c hc => valG_step rfl)
           ·
            refine wp_exit ?_
            refine tX ?_
            refine tX ?_
            refine ib_same ?_
            refine iN ?_
            refine tN ?_
            refine wp_region_lit ?_
            refine st hF (g_move hF rfl) rfl fun a hF => st hF (g_add hF rfl rfl (add_nat (gi) (1) (by omega))) rfl fun a hF => st hF (g_assign hF rfl) rfl fun a hF => ?_
            refine wpList_nil ?_
            refine tN ?_
            have hM := hM.drop 2
            refine ⟨gi + 1, ⟨by omega, trivial, hF.sub _ (by repeat' constructor), ?_⟩, by omega⟩
            exact hM.rowc 1 rfl (numC_congr fun c hc => valG_end hp0 hc (by first | exact .inr (by omega) | exact .inl (by omega)))
          ·
           first | rw [decide_eq_false g11] at hF | simp only [decide_eq_false g11] at hF
           refine stS hF rfl rfl rfl rfl rfl fun a hF => stS hF rfl rfl rfl rfl rfl fun a hF => st hF (g_pickF hF rfl rfl) rfl fun a hF => ?_
           refine wpList_nil ?_
           refine tN ?_
           refine c_Fl hF rfl ?_
           refine wp_exit ?_
           refine tX ?_
           refine tX ?_
           refine ib_same ?_
           refine iN ?_
           refine tN ?_
           refine wp_region_lit ?_
           refine st hF (g_move hF rfl) rfl fun a hF => st hF (g_add hF rfl rfl (add_nat (gi) (1) (by omega))) rfl fun a hF => st hF (g_assign hF rfl) rfl fun a hF => ?_
           refine wpList_nil ?_
           refine tN ?_
           have hM := hM.drop 2
           refine ⟨gi + 1, ⟨by omega, trivial, hF.sub _ (by repeat' constructor), ?_⟩, by omega⟩
           exact hM.rowc 1 rfl (numC_congr fun c hc => valG_end hp0 hc (by first | exact .inr (by omega) | exact .inl (by omega)))
      ·
       obtain rfl : n ^ i = gi := by omega
       refine wp_exit ?_
       refine tX ?_
       refine tX ?_
       refine ib_same ?_
       refine tN ?_
       refine sq ?_
       refine wp_region_lit ?_
       refine st hF (g_move hF rfl) rfl fun a hF => st hF (g_assign hF rfl) rfl fun a hF => st hF (g_assign hF rfl) rfl fun a hF => ?_
       refine wpList_nil ?_
       refine tN ?_
       refine wp_ret ?_
       refine fin2 rfl hF.defers (res_tmp hF rfl) (res_tmp hF rfl) ⟨_, rfl, hM.below, ?_⟩
       exact ⟨_, rfl, hM.ge 1 rfl, hM.row 1 rfl⟩

end Go.Proofs.Ythoelkijoenkpaa
