/- What functions of the program return, as walks over their operations; no statement of the seat is proved here. -/
import Derived.Test.YtlpccepifehilaaV11
set_option linter.unusedVariables false
set_option linter.unusedSimpArgs false
namespace Go.Proofs.Ytlpccepifehilaa
open Go Go.RowKit Go.Sw Go.Ech
open Classical
theorem ty_bu_60 : ∀ w, (Instr.build 60 #[]).run Try.prog w = .ok (.agg (fnC 8 (fun _ => .bool (false)))) w := by intros; kernel_rfl
theorem ty_ze_60 : zeroP Try.prog 60 = some (.agg (fnC 8 (fun _ => .bool (false)))) := by kernel_rfl
theorem ty_sz_60 : sizeP Try.prog 60 = some 8 := by kernel_rfl
theorem ty_ar_60 : arrOf Try.prog 60 = some (8, 1) := by kernel_rfl
theorem ty_on_4 : oneP Try.prog 4 = true := by kernel_rfl
theorem l03Digits_ok (k sz lg : Nat) (w : World) (hs0 : 0 < sz) (hsz : sz ≤ 6) (hlg : lg ≤ 16) (hk : k < 1000000) :
    CallsR Try.prog 22 #[.int .i64 (((k : Nat) : Int)), .int .i64 (((sz : Nat) : Int)), .int .i64 (((lg : Nat) : Int))] w (fun v w' => ∃ b, v = .slice (some ⟨b, 0, none⟩) lg lg ∧ w.heap.size ≤ b ∧ Blk w' b (numC lg (Rw.digF sz lg k))) := by
  refine calls_fr [.int .i64 (((k : Nat) : Int)), .int .i64 (((sz : Nat) : Int)), .int .i64 (((lg : Nat) : Int))] Try.func22 rfl Try.ntmps22 rfl fun a hF => ?_
  have hM : Mem w w [none] [] := MemX.start w 1
  change Fr 27 a [(0, .int .i64 (((k : Nat) : Int))), (1, .int .i64 (((sz : Nat) : Int))), (2, .int .i64 (((lg : Nat) : Int)))] at hF
  refine sq ?_
  refine wp_region_lit ?_
  refine st hF (g_assign hF rfl) rfl fun a hF => ?_
  refine wpList_nil ?_
  refine tN ?_
  refine sq ?_
  refine wp_region_lit ?_
  refine st hF (g_move hF rfl) rfl fun a hF => ?_
  refine stR hF (d_make1 (len := lg) 0 hM hF ty_si_22 rfl rfl rfl (by omega) (by decide)) rfl ?_
  rintro _ w' a ⟨b2, rfl, hM, -⟩ hF
  change Mem w w' [some (b2, numC (lg) (fun _ => 0))] [] at hM
  refine st hF (g_assign hF rfl) rfl fun a hF => ?_
  refine wpList_nil ?_
  refine tN ?_
  refine sq ?_
  refine sq ?_
  refine wp_region_lit ?_
  refine st hF (g_move hF rfl) rfl fun a hF => st hF (g_sub hF rfl rfl (wrap_i64 (by omega) (by omega))) rfl fun a hF => st hF (g_assign hF rfl) rfl fun a hF => ?_
  refine wpList_nil ?_
  refine tN ?_
  refine wp_block ?_
  change Mem w _ [some (b2, numC (lg) (fun _ => 0))] [] at hM
  refine c_loop (fun (kk : Nat) a w' => kk ≤ lg ∧ ∃ (rr : Nat), ∃ (ll : Int), (rr = k / sz ^ kk ∧ ll = ((lg : Nat) : Int) - 1 - ((kk : Nat) : Int)) ∧ Fr 27 a [(1, .int .i64 (((sz : Nat) : Int))), (6, .slice none 0 0), (7, .slice (some ⟨b2, 0, none⟩) (lg) (lg)), (0, .int .i64 (((rr : Nat) : Int))), (8, .int .i64 (ll))] ∧ Mem w w' [some (b2, numC (lg) (Rw.digG sz lg k kk))] []) (fun kk => lg - kk) 0 ?_ ?_
  ·
   refine ⟨by omega, k, (((lg : Nat) : Int) - 1), ⟨by rw [Nat.pow_zero, Nat.div_one], by omega⟩, hF.sub _ (by repeat' constructor), ?_⟩
   exact hM.rowc 0 rfl (numC_congr fun c hc => (if_neg (by omega)).symm)
  ·
   clear hF hM
   rintro gj a w' ⟨hgj, rr, ll, hinv1, hF, hM⟩
   have hrr : rr ≤ k := by rw [hinv1.1]; exact Nat.div_le_self _ _
   have hrs := Nat.div_le_self rr sz
   refine sq ?_
   refine sq ?_
   refine wp_region_lit ?_
   refine st hF (g_move hF rfl) rfl fun a hF => st hF (g_geq hF rfl rfl) rfl fun a hF => ?_
   refine wpList_nil ?_
   refine tN ?_
   refine c_cond hF rfl (fun h3 => ?_) (fun h3 => ?_)
   ·
    refine wp_skip ?_
    refine tN ?_
    refine sq ?_
    refine wp_block ?_
    refine sq ?_
    refine wp_region_lit ?_
    refine st hF (g_move hF rfl) rfl fun a hF => st hF (g_move hF rfl) rfl fun a hF => st hF (g_move hF rfl) rfl fun a hF => st hF (g_move hF rfl) rfl fun a hF => st hF (g_rem hF rfl rfl (by omega) (rem_nat (rr) (sz))) rfl fun a hF => st hF (g_indexSl (i := lg - 1 - gj) ty_sl_22 hF rfl rfl (by omega) (by omega)) rfl fun a hF => ?_
    refine stN hF (d_store 0 hM rfl ty_on_2 hF rfl rfl rfl (by first | omega | (simp only [fnC_size, cells_size, vecC_size, tabC_size, planeC_size, tenC_size, smC_size, numC_size, numI_size, rowJ_size] <;> omega) | (simp only [Array.size_setIfInBounds]; omega) | simp)) ?_
    intro _ w' a hM hF
    rw [show (numC (lg) (Rw.digG sz lg k gj)).setIfInBounds (0 + (lg - 1 - gj) * 1) (.int .i64 ((((rr) % (sz) : Nat) : Int))) = numC (lg) (fun c => if c = (lg - 1 - gj) then (rr) % (sz) else (Rw.digG sz lg k gj) c) from numC_set (k := (lg - 1 - gj)) (by omega) (fun c _ => rfl)] at hM
    change Mem w w' [some (b2, numC (lg) (fun c => if c = (lg - 1 - gj) then (rr) % (sz) else (Rw.digG sz lg k gj) c))] [] at hM
    refine wpList_nil ?_
    refine tN ?_
    refine wp_region_lit ?_
    refine st hF (g_move hF rfl) rfl fun a hF => st hF (g_move hF rfl) rfl fun a hF => st hF (g_quo hF rfl rfl (by omega) (quo_nat (rr) (sz) (by omega))) rfl fun a hF => st hF (g_assign hF rfl) rfl fun a hF => ?_
    refine wpList_nil ?_
    refine iN ?_
    refine tN ?_
    refine wp_region_lit ?_
    refine st hF (g_move hF rfl) rfl fun a hF => st hF (g_sub hF rfl rfl (wrap_i64 (by omega) (by omega))) rfl fun a hF => st hF (g_assign hF rfl) rfl fun a hF => ?_
    refine wpList_nil ?_
    refine tN ?_
    refine ⟨gj + 1, ⟨by omega, (rr / sz), (ll - 1), ⟨by rw [hinv1.1]; exact Rw.div_step, by omega⟩, hF.sub _ (by repeat' constructor), ?_⟩, by omega⟩
    exact hM.rowc 0 rfl (numC_congr fun c hc => by rw [← Rw.digG_put (by omega), ← hinv1.1])
   ·
    obtain rfl : lg = gj := by omega
    refine wp_exit ?_
    refine tX ?_
    refine tX ?_
    refine ib_same ?_
    refine tN ?_
    refine sq ?_
    refine wp_region_lit ?_
    refine st hF (g_move hF rfl) rfl fun a hF => st hF (g_assign hF rfl) rfl fun a hF => ?_
    refine wpList_nil ?_
    refine tN ?_
    refine wp_ret ?_
    refine fin1 rfl hF.defers (res_tmp hF rfl) ⟨_, rfl, hM.below, ?_⟩
    exact ⟨_, rfl, hM.ge 0 rfl, (hM.rowc (cs' := numC lg (Rw.digF sz lg k)) 0 rfl (numC_congr fun c hc => if_pos (by omega))).row 0 rfl⟩

theorem l03Place_ok (s b c l : Nat) (g : Nat → Nat) (w : World) (hs : s ≤ 6) (hl : l ≤ 16) (hg : ∀ c, g c < s) (hb : Blk w b (numC l g)) :
    CallsR Try.prog 23 #[.slice (some ⟨b, 0, none⟩) (l) (c), .int .i64 (((s : Nat) : Int))] w (fun res _ => res = .int .i64 ((Rw.plF s g l : Nat) : Int)) := by
  refine calls_fr [.slice (some ⟨b, 0, none⟩) (l) (c), .int .i64 (((s : Nat) : Int))] Try.func23 rfl Try.ntmps23 rfl fun a hF => ?_
  have hM : Mem w w [] [(b, numC l g)] := MemX.startD w 0 _ (startD1 hb)
  change Fr 22 a [(0, .slice (some ⟨b, 0, none⟩) (l) (c)), (1, .int .i64 (((s : Nat) : Int)))] at hF
  refine sq ?_
  refine wp_region_lit ?_
  refine st hF (g_assign hF rfl) rfl fun a hF => ?_
  refine wpList_nil ?_
  refine tN ?_
  refine sq ?_
  refine wp_region_lit ?_
  refine st hF (g_assign hF rfl) rfl fun a hF => ?_
  refine wpList_nil ?_
  refine tN ?_
  refine sq ?_
  refine sq ?_
  refine wp_region_lit ?_
  refine st hF (g_assign hF rfl) rfl fun a hF => ?_
  refine wpList_nil ?_
  refine tN ?_
  refine wp_block ?_
  change Mem w _ [] [(b, numC l g)] at hM
  refine c_loop (fun (kk : Nat) a w' => kk ≤ l ∧ (True) ∧ Fr 22 a [(0, .slice (some ⟨b, 0, none⟩) (l) (c)), (1, .int .i64 (((s : Nat) : Int))), (4, .int .i64 (0)), (6, .int .i64 (((kk : Nat) : Int))), (5, .int .i64 (((Rw.plF s g kk : Nat) : Int)))] ∧ Mem w w' [] [(b, numC l g)]) (fun kk => l - kk) 0 ?_ ?_
  ·
   refine ⟨by omega, trivial, hF.sub _ (by repeat' constructor), ?_⟩
   exact hM
  ·
   clear hF hM
   rintro gk a w' ⟨hgk, hinv1, hF, hM⟩
   have hgk2 := hg gk
   have hpl : gk < l → Rw.plF s g gk < 2821109907457 := fun q => plF_bd hs (by omega) hg
   have hpm : Rw.plF s g gk * s ≤ Rw.plF s g gk * 6 := Nat.mul_le_mul_left _ hs
   refine sq ?_
   refine sq ?_
   refine wp_region_lit ?_
   refine st hF (g_move hF rfl) rfl fun a hF => st hF (g_move hF rfl) rfl fun a hF => st hF (g_len ty_us_22 hF rfl) rfl fun a hF => st hF (g_lss hF rfl rfl) rfl fun a hF => ?_
   refine wpList_nil ?_
   refine tN ?_
   refine c_cond hF rfl (fun h1 => ?_) (fun h1 => ?_)
   ·
    refine wp_skip ?_
    refine tN ?_
    refine sq ?_
    refine wp_block ?_
    refine wp_region_lit ?_
    refine st hF (g_move hF rfl) rfl fun a hF => st hF (g_move hF rfl) rfl fun a hF => st hF (g_mul hF rfl rfl (mul_nat (Rw.plF s g gk) (s) (by omega))) rfl fun a hF => st hF (g_move hF rfl) rfl fun a hF => st hF (g_move hF rfl) rfl fun a hF => st hF (g_indexSl (i := gk) ty_sl_22 hF rfl rfl rfl (by omega)) rfl fun a hF => st hF (g_load ty_on_2 hF rfl (hM.fz 0 rfl) (numC_get (k := gk) (by omega) (by omega))) rfl fun a hF => st hF (g_add hF rfl rfl (add_nat ((Rw.plF s g gk) * (s)) (g (gk)) (by omega))) rfl fun a hF => st hF (g_assign hF rfl) rfl fun a hF => ?_
    refine wpList_nil ?_
    refine iN ?_
    refine tN ?_
    refine wp_region_lit ?_
    refine st hF (g_move hF rfl) rfl fun a hF => st hF (g_add hF rfl rfl (add_nat (gk) (1) (by omega))) rfl fun a hF => st hF (g_assign hF rfl) rfl fun a hF => ?_
    refine wpList_nil ?_
    refine tN ?_
    rw [show Rw.plF s g gk * s + g gk = Rw.plF s g (gk + 1) from rfl] at hF
    refine ⟨gk + 1, ⟨by omega, trivial, hF.sub _ (by repeat' constructor), ?_⟩, by omega⟩
    exact hM
   ·
    obtain rfl : l = gk := by omega
    refine wp_exit ?_
    refine tX ?_
    refine tX ?_
    refine ib_same ?_
    refine tN ?_
    refine sq ?_
    refine wp_region_lit ?_
    refine st hF (g_move hF rfl) rfl fun a hF => st hF (g_assign hF rfl) rfl fun a hF => ?_
    refine wpList_nil ?_
    refine tN ?_
    refine wp_ret ?_
    refine fin1 rfl hF.defers (res_tmp hF rfl) ⟨_, rfl, hM.below, ?_⟩
    show _ = _
    rfl

def metB (F : Nat → Int) : Nat → Nat → Bool
  | 0, _ => false
  | k + 1, c => if F k = (c : Int) then true else metB F k c
theorem metB_iff {F : Nat → Int} : ∀ {k c : Nat}, metB F k c = true ↔ ∃ j, j < k ∧ F j = (c : Int)
  | 0, c => ⟨fun h => by simp [metB] at h, fun ⟨j, h, _⟩ => absurd h (by omega)⟩
  | k + 1, c => by
    have ih := metB_iff (F := F) (k := k) (c := c)
    simp only [metB]
    by_cases e : F k = (c : Int)
    · rw [if_pos e]; exact ⟨fun _ => ⟨k, by omega, e⟩, fun _ => rfl⟩
    · rw [if_neg e, ih]
      constructor
      · rintro ⟨j, h1, h2⟩; exact ⟨j, by omega, h2⟩
      · rintro ⟨j, h1, h2⟩
        by_cases q : j = k
        · subst q; exact absurd h2 e
        · exact ⟨j, by omega, h2⟩
theorem metB_set {F : Nat → Int} {k c : Nat} (h : 0 ≤ F k) : (if c = (F k).toNat then true else metB F k c) = metB F (k + 1) c := by
  simp only [metB]
  by_cases e : F k = (c : Int)
  · rw [if_pos (by omega), if_pos e]
  · rw [if_neg (by omega), if_neg e]
theorem legs_step {F : Nat → Int} {k : Nat} {ln : Int} (h : (∀ x, x < k → 0 ≤ F x ∧ F x < ln) ∧ ∀ x y, x < y → y < k → F x ≠ F y) (hr : 0 ≤ F k ∧ F k ≤ ln - 1) (hm : metB F k (F k).toNat = false) : (∀ x, x < k + 1 → 0 ≤ F x ∧ F x < ln) ∧ ∀ x y, x < y → y < k + 1 → F x ≠ F y := by
  refine ⟨fun x hx => ?_, fun x y hxy hy e => ?_⟩
  · by_cases q : x = k
    · subst q; omega
    · exact h.1 x (by omega)
  · by_cases q : y = k
    · subst q
      have : metB F y (F y).toNat = true := metB_iff.2 ⟨x, hxy, by omega⟩
      rw [hm] at this; cases this
    · exact h.2 x y hxy (by omega) e
theorem fnB_set {f : Nat → Bool} {o i : Nat} {v : Bool} (h : o = i) : (fnC 8 (fun c => .bool (f c))).setIfInBounds o (.bool v) = fnC 8 (fun c => .bool (if c = i then v else f c)) := by
  subst h
  exact fnC_set fun c _ => by by_cases e : c = o <;> simp [e]

theorem l03Legs_ok (b m : Nat) (F : Nat → Int) (ln : Int) (w : World) (hl0 : 0 ≤ ln) (hl : ln ≤ 8) (hm : m < 10000000) (hb : Blk w b (numI m F)) :
    CallsR Try.prog 20 #[.slice (some ⟨b, 0, none⟩) (m) (m), .int .i64 (ln)] w (fun res _ => res = .bool (decide ((m : Int) = ln ∧ LegP m F))) := by
  refine calls_fr [.slice (some ⟨b, 0, none⟩) (m) (m), .int .i64 (ln)] Try.func20 rfl Try.ntmps20 rfl fun a hF => ?_
  have hM : Mem w w [none] [(b, numI m F)] := MemX.startD w 1 _ (startD1 hb)
  change Fr 39 a [(0, .slice (some ⟨b, 0, none⟩) (m) (m)), (1, .int .i64 (ln))] at hF
  refine sq ?_
  refine wp_region_lit ?_
  refine st hF (g_assign hF rfl) rfl fun a hF => ?_
  refine wpList_nil ?_
  refine tN ?_
  refine sq ?_
  refine wp_region_lit ?_
  refine st hF (g_build0 ty_bu_60) rfl fun a hF => ?_
  refine stR hF (d_alloc 0 hM ty_ze_60) rfl ?_
  rintro _ w' a ⟨b1, rfl, hM, -⟩ hF
  change Mem w w' [some (b1, fnC 8 (fun _ => .bool (false)))] [(b, numI m F)] at hM
  refine stN hF (d_storeAgg 0 hM rfl ty_sz_60 hF rfl rfl (by first | exact vecC_one | exact cells_one | (refine fnC_one fun _ _ => ?_; first | rfl | (split <;> rfl))) (by simp only [fnC_size, cells_size, vecC_size, tabC_size, planeC_size, tenC_size, smC_size, numC_size, numI_size, rowJ_size]) (by simp only [fnC_size, cells_size, vecC_size, tabC_size, planeC_size, tenC_size, smC_size, numC_size, numI_size, rowJ_size] <;> omega) (splice_whole _ _ (by simp only [fnC_size, cells_size, vecC_size, tabC_size, planeC_size, tenC_size, smC_size, numC_size, numI_size, rowJ_size]))) ?_
  intro _ w' a hM hF
  change Mem w w' [some (b1, fnC 8 (fun _ => .bool (false)))] [(b, numI m F)] at hM
  refine wpList_nil ?_
  refine tN ?_
  refine sq ?_
  refine sq ?_
  refine wp_region_lit ?_
  refine st hF (g_assign hF rfl) rfl fun a hF => ?_
  refine wpList_nil ?_
  refine tN ?_
  refine wp_block ?_
  change Mem w _ [some (b1, fnC 8 (fun _ => .bool (false)))] [(b, numI m F)] at hM
  refine c_loop (fun (kk : Nat) a w' => kk ≤ m ∧ ((∀ x, x < kk → 0 ≤ F x ∧ F x < ln) ∧ ∀ x y, x < y → y < kk → F x ≠ F y) ∧ Fr 39 a [(0, .slice (some ⟨b, 0, none⟩) (m) (m)), (1, .int .i64 (ln)), (5, ptr b1 (0)), (6, .int .i64 (((kk : Nat) : Int)))] ∧ Mem w w' [some (b1, fnC 8 (fun c => .bool (metB F (kk) c)))] [(b, numI m F)]) (fun kk => m - kk) 0 ?_ ?_
  ·
   refine ⟨by omega, ⟨fun x hx => absurd hx (by omega), fun x y _ hy => absurd hy (by omega)⟩, hF.sub _ (by repeat' constructor), ?_⟩
   exact hM.rowc 0 rfl (fnC_congr fun c hc => rfl)
  ·
   clear hF hM
   rintro gi a w' ⟨hgi, hinv1, hF, hM⟩
   refine sq ?_
   refine sq ?_
   refine wp_region_lit ?_
   refine st hF (g_move hF rfl) rfl fun a hF => st hF (g_move hF rfl) rfl fun a hF => st hF (g_len ty_us_22 hF rfl) rfl fun a hF => st hF (g_lss hF rfl rfl) rfl fun a hF => ?_
   refine wpList_nil ?_
   refine tN ?_
   refine c_cond hF rfl (fun h2 => ?_) (fun h2 => ?_)
   ·
    refine wp_skip ?_
    refine tN ?_
    refine sq ?_
    refine wp_block ?_
    refine sq ?_
    refine sq ?_
    refine wp_region_lit ?_
    refine st hF (g_move hF rfl) rfl fun a hF => st hF (g_move hF rfl) rfl fun a hF => st hF (g_indexSl (i := gi) ty_sl_22 hF rfl rfl rfl (by omega)) rfl fun a hF => st hF (g_load ty_on_2 hF rfl (hM.fzm (b := b) (cs := numI m F) (by simp)) (numI_get (k := gi) (by omega) (by omega))) rfl fun a hF => st hF (g_move hF rfl) rfl fun a hF => st hF (g_sub hF rfl rfl (wrap_i64 (by omega) (by omega))) rfl fun a hF => ?_
    refine stR hF (d_call Try.call34 hF (.cons rfl (.cons rfl (.cons rfl .nil))) (l01In_ok (F (gi)) (0) (ln - 1) _)) rfl ?_
    rintro _ w' a ⟨hx, rfl⟩ hF
    have hM := hM.ext hx
    refine st hF (g_notP hF rfl) rfl fun a hF => st hF (g_move hF rfl) rfl fun a hF => ?_
    by_cases g3 : ¬ ((0 : Int) ≤ F (gi) ∧ F (gi) ≤ ln - 1)
    ·
     first | rw [decide_eq_true g3] at hF | simp only [decide_eq_true g3] at hF
     refine stS hF rfl rfl rfl rfl rfl fun a hF => stS hF rfl rfl rfl rfl rfl fun a hF => stS hF rfl rfl rfl rfl rfl fun a hF => stS hF rfl rfl rfl rfl rfl fun a hF => stS hF rfl rfl rfl rfl rfl fun a hF => stS hF rfl rfl rfl rfl rfl fun a hF => st hF (g_pickT hF rfl rfl) rfl fun a hF => ?_
     refine wpList_nil ?_
     refine tN ?_
     refine c_T hF rfl ?_
     refine sq ?_
     refine wp_region_lit ?_
     refine st hF (g_assign hF rfl) rfl fun a hF => ?_
     refine wpList_nil ?_
     refine tN ?_
     refine wp_ret ?_
     refine tR ?_
     refine iR ?_
     refine tR ?_
     refine tR ?_
     refine iR ?_
     refine tR ?_
     refine fin1 rfl hF.defers (res_tmp hF rfl) ⟨_, rfl, hM.below, ?_⟩
     show _ = _
     exact bool_f (fun hq => by
       have z2 := hq.2.1 gi (by omega)
       have z1 := hq.1
       first | omega | (obtain ⟨j, hj, e⟩ := metB_iff.1 (by assumption : metB F gi (F gi).toNat = true); exact hq.2.2 j gi hj (by omega) (by omega)))
    ·
     first | rw [decide_eq_false g3] at hF | simp only [decide_eq_false g3] at hF
     refine stY hF rfl rfl rfl (g_move hF rfl) rfl fun a hF => stY hF rfl rfl rfl (g_move hF rfl) rfl fun a hF => stY hF rfl rfl rfl (g_indexSl (i := gi) ty_sl_22 hF rfl rfl rfl (by omega)) rfl fun a hF => stY hF rfl rfl rfl (g_load ty_on_2 hF rfl (hM.fzm (b := b) (cs := numI m F) (by simp)) (numI_get (k := gi) (by omega) (by omega))) rfl fun a hF => stY hF rfl rfl rfl (g_indexAddr (i := (F (gi)).toNat) ty_ar_60 hF rfl rfl (by omega) (by omega)) rfl fun a hF => stY hF rfl rfl rfl (g_load ty_on_4 hF rfl (hM.row 0 rfl) (fnC_getE ((F (gi)).toNat) (by omega) (by omega) rfl)) rfl fun a hF => st hF (g_pickF hF rfl rfl) rfl fun a hF => ?_
     refine wpList_nil ?_
     refine tN ?_
     refine c_condB hF rfl (fun h5 => ?_) (fun h5 => ?_)
     ·
      refine sq ?_
      refine wp_region_lit ?_
      refine st hF (g_assign hF rfl) rfl fun a hF => ?_
      refine wpList_nil ?_
      refine tN ?_
      refine wp_ret ?_
      refine tR ?_
      refine iR ?_
      refine tR ?_
      refine tR ?_
      refine iR ?_
      refine tR ?_
      refine fin1 rfl hF.defers (res_tmp hF rfl) ⟨_, rfl, hM.below, ?_⟩
      show _ = _
      exact bool_f (fun hq => by
        have z2 := hq.2.1 gi (by omega)
        have z1 := hq.1
        first | omega | (obtain ⟨j, hj, e⟩ := metB_iff.1 (by assumption : metB F gi (F gi).toNat = true); exact hq.2.2 j gi hj (by omega) (by omega)))
     ·
      refine wp_skip ?_
      refine tN ?_
      refine wp_region_lit ?_
      refine st hF (g_move hF rfl) rfl fun a hF => st hF (g_move hF rfl) rfl fun a hF => st hF (g_indexSl (i := gi) ty_sl_22 hF rfl rfl rfl (by omega)) rfl fun a hF => st hF (g_load ty_on_2 hF rfl (hM.fzm (b := b) (cs := numI m F) (by simp)) (numI_get (k := gi) (by omega) (by omega))) rfl fun a hF => st hF (g_indexAddr (i := (F (gi)).toNat) ty_ar_60 hF rfl rfl (by omega) (by omega)) rfl fun a hF => ?_
      refine stN hF (d_store 0 hM rfl ty_on_4 hF rfl rfl rfl (by first | omega | (simp only [fnC_size, cells_size, vecC_size, tabC_size, planeC_size, tenC_size, smC_size, numC_size, numI_size, rowJ_size] <;> omega) | (simp only [Array.size_setIfInBounds]; omega) | simp)) ?_
      intro _ w' a hM hF
      rw [(show (fnC 8 (fun c => .bool (metB F (gi) c))).setIfInBounds (0 + ((F (gi)).toNat) * 1) (.bool true) = fnC 8 (fun c => .bool (if c = (F (gi)).toNat then true else metB F (gi) c)) from fnB_set (by omega))] at hM
      change Mem w w' [some (b1, fnC 8 (fun c => .bool (if c = (F (gi)).toNat then true else metB F (gi) c)))] [(b, numI m F)] at hM
      refine wpList_nil ?_
      refine iN ?_
      refine tN ?_
      refine wp_region_lit ?_
      refine st hF (g_move hF rfl) rfl fun a hF => st hF (g_add hF rfl rfl (add_nat (gi) (1) (by omega))) rfl fun a hF => st hF (g_assign hF rfl) rfl fun a hF => ?_
      refine wpList_nil ?_
      refine tN ?_
      refine ⟨gi + 1, ⟨by omega, legs_step hinv1 (by omega) (by assumption), hF.sub _ (by repeat' constructor), ?_⟩, by omega⟩
      exact hM.rowc 0 rfl (fnC_congr fun c hc => congrArg Value.bool (metB_set (by omega)))
   ·
    obtain rfl : m = gi := by omega
    refine wp_exit ?_
    refine tX ?_
    refine tX ?_
    refine ib_same ?_
    refine tN ?_
    refine sq ?_
    refine wp_region_lit ?_
    refine st hF (g_move hF rfl) rfl fun a hF => st hF (g_len ty_us_22 hF rfl) rfl fun a hF => st hF (g_move hF rfl) rfl fun a hF => st hF (g_eql hF rfl rfl) rfl fun a hF => st hF (g_assign hF rfl) rfl fun a hF => ?_
    refine wpList_nil ?_
    refine tN ?_
    refine wp_ret ?_
    refine fin1 rfl hF.defers (res_tmp hF rfl) ⟨_, rfl, hM.below, ?_⟩
    show _ = _
    exact congrArg Value.bool (decide_eq_decide.2 ⟨fun h => ⟨h, fun x hx => by have := hinv1.1 x hx; omega, hinv1.2⟩, fun h => h.1⟩)

theorem PermS_A (p n i o : Int) (b m0 : Nat) (g : Nat → Int) (bi m1 : Nat) (F : Nat → Int) (bu m2 : Nat) (G : Nat → Int) (w : World) (hm1 : m1 < 10000000) (hm2 : m2 < 10000000) (hm0 : m0 < 10000000) (hb : Blk w b (numI m0 g)) (hb1 : Blk w bi (numI m1 F)) (hb2 : Blk w bu (numI m2 G)) (hA : ¬ TenP p n i o m0 g) :
    CallsR Try.prog 6 #[.agg (tenC p n i o (.slice (some ⟨b, 0, none⟩) m0 m0)), .slice (some ⟨bi, 0, none⟩) (m1) (m1), .slice (some ⟨bu, 0, none⟩) (m2) (m2)] w (fun res _ => res = .tuple #[.agg (tenC 0 0 0 0 (.slice none 0 0)), .int .i64 1]) := by
  refine calls_fr [.agg (tenC p n i o (.slice (some ⟨b, 0, none⟩) m0 m0)), .slice (some ⟨bi, 0, none⟩) (m1) (m1), .slice (some ⟨bu, 0, none⟩) (m2) (m2)] Try.func6 rfl Try.ntmps6 rfl fun a hF => ?_
  have hM : Mem w w [none, none, none, none, none, none] [(b, numI m0 g), (bi, numI m1 F), (bu, numI m2 G)] := MemX.startD w 6 _ (startD3 hb hb1 hb2)
  change Fr 112 a [(0, .agg (tenC p n i o (.slice (some ⟨b, 0, none⟩) m0 m0))), (1, .slice (some ⟨bi, 0, none⟩) (m1) (m1)), (2, .slice (some ⟨bu, 0, none⟩) (m2) (m2))] at hF
  refine sq ?_
  refine wp_region_lit ?_
  refine stR hF (d_box 0 hM hF rfl) rfl ?_
  rintro _ w' a ⟨b1, rfl, hM, -⟩ hF
  change Mem w w' [some (b1, tenC p n i o (.slice (some ⟨b, 0, none⟩) m0 m0)), none, none, none, none, none] [(b, numI m0 g), (bi, numI m1 F), (bu, numI m2 G)] at hM
  refine stR hF (d_alloc 1 hM ty_ze_26) rfl ?_
  rintro _ w' a ⟨b2, rfl, hM, -⟩ hF
  change Mem w w' [some (b1, tenC p n i o (.slice (some ⟨b, 0, none⟩) m0 m0)), some (b2, tenC 0 0 0 0 (.slice none 0 0)), none, none, none, none] [(b, numI m0 g), (bi, numI m1 F), (bu, numI m2 G)] at hM
  refine st hF (g_assign hF rfl) rfl fun a hF => ?_
  refine wpList_nil ?_
  refine tN ?_
  refine sq ?_
  refine wp_block ?_
  refine sq ?_
  refine wp_region_lit ?_
  refine st hF (g_loadAgg ty_ag_26 hF rfl (hM.row 0 rfl) (by simp only [fnC_size, cells_size, vecC_size, tabC_size, planeC_size, tenC_size, smC_size, numC_size, numI_size, rowJ_size] <;> omega) (whole rfl)) rfl fun a hF => ?_
  refine stR hF (d_call Try.call19 hF (.cons rfl .nil) (l03Is_ok p n i o b m0 g _ (hM.fz 0 rfl) (by omega))) rfl ?_
  rintro _ w' a ⟨hx, rfl⟩ hF
  have hM := hM.ext hx
  refine st hF (g_notP hF rfl) rfl fun a hF => st hF (g_assign hF rfl) rfl fun a hF => ?_
  refine wpList_nil ?_
  refine tN ?_
  refine c_cond hF rfl (fun h3 => ?_) (fun h3 => ?_)
  ·
   refine sq ?_
   refine wp_region_lit ?_
   refine st hF (g_build0 ty_bu_26) rfl fun a hF => ?_
   refine stN hF (d_storeAgg 1 hM rfl ty_sz_26 hF rfl rfl (tenC_one rfl) (by simp only [fnC_size, cells_size, vecC_size, tabC_size, planeC_size, tenC_size, smC_size, numC_size, numI_size, rowJ_size]) (by simp only [fnC_size, cells_size, vecC_size, tabC_size, planeC_size, tenC_size, smC_size, numC_size, numI_size, rowJ_size] <;> omega) (splice_whole _ _ rfl)) ?_
   intro _ w' a hM hF
   change Mem w w' [some (b1, tenC p n i o (.slice (some ⟨b, 0, none⟩) m0 m0)), some (b2, tenC 0 0 0 0 (.slice none 0 0)), none, none, none, none] [(b, numI m0 g), (bi, numI m1 F), (bu, numI m2 G)] at hM
   refine st hF (g_assign hF rfl) rfl fun a hF => ?_
   refine wpList_nil ?_
   refine tN ?_
   refine wp_ret ?_
   refine iR ?_
   refine tR ?_
   refine fin2 rfl hF.defers (res_agg ty_ag_26 hF rfl (hM.row 1 rfl) (by simp only [fnC_size, cells_size, vecC_size, tabC_size, planeC_size, tenC_size, smC_size, numC_size, numI_size, rowJ_size])) (res_tmp hF rfl) ⟨_, rfl, hM.below, ?_⟩
   show _ = _
   rfl
  ·
   exact absurd (by first | assumption | exact Decidable.not_not.1 (by assumption)) hA

theorem PermS_R (p n i o : Int) (b m0 : Nat) (g : Nat → Int) (bi m1 : Nat) (F : Nat → Int) (bu m2 : Nat) (G : Nat → Int) (w : World) (hm1 : m1 < 10000000) (hm2 : m2 < 10000000) (hm0 : m0 < 10000000) (hb : Blk w b (numI m0 g)) (hb1 : Blk w bi (numI m1 F)) (hb2 : Blk w bu (numI m2 G)) (hT : TenP p n i o m0 g) (hR : ¬ (((m1 : Int) = i ∧ LegP m1 F) ∧ ((m2 : Int) = o ∧ LegP m2 G))) :
    CallsR Try.prog 6 #[.agg (tenC p n i o (.slice (some ⟨b, 0, none⟩) m0 m0)), .slice (some ⟨bi, 0, none⟩) (m1) (m1), .slice (some ⟨bu, 0, none⟩) (m2) (m2)] w (fun res _ => res = .tuple #[.agg (tenC 0 0 0 0 (.slice none 0 0)), .int .i64 2]) := by
  refine calls_fr [.agg (tenC p n i o (.slice (some ⟨b, 0, none⟩) m0 m0)), .slice (some ⟨bi, 0, none⟩) (m1) (m1), .slice (some ⟨bu, 0, none⟩) (m2) (m2)] Try.func6 rfl Try.ntmps6 rfl fun a hF => ?_
  have hM : Mem w w [none, none, none, none, none, none] [(b, numI m0 g), (bi, numI m1 F), (bu, numI m2 G)] := MemX.startD w 6 _ (startD3 hb hb1 hb2)
  change Fr 112 a [(0, .agg (tenC p n i o (.slice (some ⟨b, 0, none⟩) m0 m0))), (1, .slice (some ⟨bi, 0, none⟩) (m1) (m1)), (2, .slice (some ⟨bu, 0, none⟩) (m2) (m2))] at hF
  have hi12 : i ≤ 8 := hT.1.2.2.1.2
  have ho12 : o ≤ 8 := hT.1.2.2.2.2
  have hi0 : 0 ≤ i := hT.1.2.2.1.1
  have ho0 : 0 ≤ o := hT.1.2.2.2.1
  refine sq ?_
  refine wp_region_lit ?_
  refine stR hF (d_box 0 hM hF rfl) rfl ?_
  rintro _ w' a ⟨b1, rfl, hM, -⟩ hF
  change Mem w w' [some (b1, tenC p n i o (.slice (some ⟨b, 0, none⟩) m0 m0)), none, none, none, none, none] [(b, numI m0 g), (bi, numI m1 F), (bu, numI m2 G)] at hM
  refine stR hF (d_alloc 1 hM ty_ze_26) rfl ?_
  rintro _ w' a ⟨b2, rfl, hM, -⟩ hF
  change Mem w w' [some (b1, tenC p n i o (.slice (some ⟨b, 0, none⟩) m0 m0)), some (b2, tenC 0 0 0 0 (.slice none 0 0)), none, none, none, none] [(b, numI m0 g), (bi, numI m1 F), (bu, numI m2 G)] at hM
  refine st hF (g_assign hF rfl) rfl fun a hF => ?_
  refine wpList_nil ?_
  refine tN ?_
  refine sq ?_
  refine wp_block ?_
  refine sq ?_
  refine wp_region_lit ?_
  refine st hF (g_loadAgg ty_ag_26 hF rfl (hM.row 0 rfl) (by simp only [fnC_size, cells_size, vecC_size, tabC_size, planeC_size, tenC_size, smC_size, numC_size, numI_size, rowJ_size] <;> omega) (whole rfl)) rfl fun a hF => ?_
  refine stR hF (d_call Try.call19 hF (.cons rfl .nil) ((CallsR.val (l03Is_ok p n i o b m0 g _ (hM.fz 0 rfl) (by omega)) (congrArg Value.bool (decide_eq_true hT))))) rfl ?_
  rintro _ w' a ⟨hx, rfl⟩ hF
  have hM := hM.ext hx
  refine st hF (g_not hF rfl) rfl fun a hF => st hF (g_assign hF rfl) rfl fun a hF => ?_
  refine wpList_nil ?_
  refine tN ?_
  refine c_Fl hF rfl ?_
  refine sq ?_
  refine wp_region_lit ?_
  refine st hF (g_move hF rfl) rfl fun a hF => st hF (g_fieldAddr ty_fo_26_2 hF rfl) rfl fun a hF => st hF (g_load ty_on_2 hF rfl (hM.row 0 rfl) (tenC_2 (by omega))) rfl fun a hF => ?_
  refine stR hF (d_call Try.call20 hF (.cons rfl (.cons rfl .nil)) (l03Legs_ok bi m1 F (i) _ (by omega) (by omega) (by omega) (hM.fzm (b := bi) (cs := numI m1 F) (by simp)))) rfl ?_
  rintro _ w' a ⟨hx, rfl⟩ hF
  have hM := hM.ext hx
  refine st hF (g_notP hF rfl) rfl fun a hF => st hF (g_move hF rfl) rfl fun a hF => ?_
  by_cases g4 : ¬ (((m1 : Nat) : Int) = i ∧ LegP m1 F)
  ·
   first | rw [decide_eq_true g4] at hF | simp only [decide_eq_true g4] at hF
   refine stS hF rfl rfl rfl rfl rfl fun a hF => stS hF rfl rfl rfl rfl rfl fun a hF => stS hF rfl rfl rfl rfl rfl fun a hF => stS hF rfl rfl rfl rfl rfl fun a hF => stS hF rfl rfl rfl rfl rfl fun a hF => st hF (g_pickT hF rfl rfl) rfl fun a hF => st hF (g_assign hF rfl) rfl fun a hF => ?_
   refine wpList_nil ?_
   refine tN ?_
   refine c_T hF rfl ?_
   refine sq ?_
   refine wp_region_lit ?_
   refine st hF (g_build0 ty_bu_26) rfl fun a hF => ?_
   refine stN hF (d_storeAgg 1 hM rfl ty_sz_26 hF rfl rfl (tenC_one rfl) (by simp only [fnC_size, cells_size, vecC_size, tabC_size, planeC_size, tenC_size, smC_size, numC_size, numI_size, rowJ_size]) (by simp only [fnC_size, cells_size, vecC_size, tabC_size, planeC_size, tenC_size, smC_size, numC_size, numI_size, rowJ_size] <;> omega) (splice_whole _ _ rfl)) ?_
   intro _ w' a hM hF
   change Mem w w' [some (b1, tenC p n i o (.slice (some ⟨b, 0, none⟩) m0 m0)), some (b2, tenC 0 0 0 0 (.slice none 0 0)), none, none, none, none] [(b, numI m0 g), (bi, numI m1 F), (bu, numI m2 G)] at hM
   refine st hF (g_assign hF rfl) rfl fun a hF => ?_
   refine wpList_nil ?_
   refine tN ?_
   refine wp_ret ?_
   refine iR ?_
   refine tR ?_
   refine fin2 rfl hF.defers (res_agg ty_ag_26 hF rfl (hM.row 1 rfl) (by simp only [fnC_size, cells_size, vecC_size, tabC_size, planeC_size, tenC_size, smC_size, numC_size, numI_size, rowJ_size])) (res_tmp hF rfl) ⟨_, rfl, hM.below, ?_⟩
   show _ = _
   rfl
  ·
   first | rw [decide_eq_false g4] at hF | simp only [decide_eq_false g4] at hF
   refine stY hF rfl rfl rfl (g_move hF rfl) rfl fun a hF => stY hF rfl rfl rfl (g_fieldAddr ty_fo_26_3 hF rfl) rfl fun a hF => stY hF rfl rfl rfl (g_load ty_on_2 hF rfl (hM.row 0 rfl) (tenC_3 (by omega))) rfl fun a hF => ?_
   refine stYR hF rfl rfl rfl (d_call Try.call20 hF (.cons rfl (.cons rfl .nil)) (l03Legs_ok bu m2 G (o) _ (by omega) (by omega) (by omega) (hM.fzm (b := bu) (cs := numI m2 G) (by simp)))) rfl ?_
   rintro _ w' a ⟨hx, rfl⟩ hF
   have hM := hM.ext hx
   refine stY hF rfl rfl rfl (g_notP hF rfl) rfl fun a hF => st hF (g_pickF hF rfl rfl) rfl fun a hF => st hF (g_assign hF rfl) rfl fun a hF => ?_
   refine wpList_nil ?_
   refine tN ?_
   refine c_cond hF rfl (fun h6 => ?_) (fun h6 => ?_)
   ·
    refine sq ?_
    refine wp_region_lit ?_
    refine st hF (g_build0 ty_bu_26) rfl fun a hF => ?_
    refine stN hF (d_storeAgg 1 hM rfl ty_sz_26 hF rfl rfl (tenC_one rfl) (by simp only [fnC_size, cells_size, vecC_size, tabC_size, planeC_size, tenC_size, smC_size, numC_size, numI_size, rowJ_size]) (by simp only [fnC_size, cells_size, vecC_size, tabC_size, planeC_size, tenC_size, smC_size, numC_size, numI_size, rowJ_size] <;> omega) (splice_whole _ _ rfl)) ?_
    intro _ w' a hM hF
    change Mem w w' [some (b1, tenC p n i o (.slice (some ⟨b, 0, none⟩) m0 m0)), some (b2, tenC 0 0 0 0 (.slice none 0 0)), none, none, none, none] [(b, numI m0 g), (bi, numI m1 F), (bu, numI m2 G)] at hM
    refine st hF (g_assign hF rfl) rfl fun a hF => ?_
    refine wpList_nil ?_
    refine tN ?_
    refine wp_ret ?_
    refine iR ?_
    refine tR ?_
    refine fin2 rfl hF.defers (res_agg ty_ag_26 hF rfl (hM.row 1 rfl) (by simp only [fnC_size, cells_size, vecC_size, tabC_size, planeC_size, tenC_size, smC_size, numC_size, numI_size, rowJ_size])) (res_tmp hF rfl) ⟨_, rfl, hM.below, ?_⟩
    show _ = _
    rfl
   ·
    exact absurd ⟨by first | assumption | exact Decidable.not_not.1 (by assumption), by first | assumption | exact Decidable.not_not.1 (by assumption)⟩ hR

set_option maxRecDepth 100000 in
theorem PermS_V (p n i o b : Nat) (f : Nat → Nat) (bi : Nat) (ua : Nat → Nat) (bu : Nat) (ub : Nat → Nat) (w : World) (hpP : primeP (p : Int)) (hn0 : 0 < n) (hn : n ≤ 6) (hw : wl n i o) (hfp : ∀ c, f c < p) (hua : ∀ c, c < i → ua c < i) (hub : ∀ c, c < o → ub c < o) (hLa : LegP i (fun c => ((ua c : Nat) : Int))) (hLb : LegP o (fun c => ((ub c : Nat) : Int))) (hb : Blk w b (numC (n ^ (i + o)) f)) (hb1 : Blk w bi (numC i ua)) (hb2 : Blk w bu (numC o ub)) :
    CallsR Try.prog 6 #[.agg (tenC (p : Int) (n : Int) (i : Int) (o : Int) (.slice (some ⟨b, 0, none⟩) (n ^ (i + o)) (n ^ (i + o)))), .slice (some ⟨bi, 0, none⟩) (i) (i), .slice (some ⟨bu, 0, none⟩) (o) (o)] w (fun v w' => TenOut0 w w' (p : Int) (n : Int) (i : Int) (o : Int) (n ^ (i + o)) (Rw.pmF n (i + o) (ordF i ua ub) f) v) := by
  refine calls_fr [.agg (tenC (p : Int) (n : Int) (i : Int) (o : Int) (.slice (some ⟨b, 0, none⟩) (n ^ (i + o)) (n ^ (i + o)))), .slice (some ⟨bi, 0, none⟩) (i) (i), .slice (some ⟨bu, 0, none⟩) (o) (o)] Try.func6 rfl Try.ntmps6 rfl fun a hF => ?_
  have hM : Mem w w [none, none, none, none, none, none] [(b, numC (n ^ (i + o)) f), (bi, numC i ua), (bu, numC o ub)] := MemX.startD w 6 _ (startD3 hb hb1 hb2)
  change Fr 112 a [(0, .agg (tenC (p : Int) (n : Int) (i : Int) (o : Int) (.slice (some ⟨b, 0, none⟩) (n ^ (i + o)) (n ^ (i + o))))), (1, .slice (some ⟨bi, 0, none⟩) (i) (i)), (2, .slice (some ⟨bu, 0, none⟩) (o) (o))] at hF
  have hp0 : 0 < p := by have h := hpP; unfold primeP at h; omega
  have hp2 : p < 100 := by have h := hpP; unfold primeP at h; omega
  have hw3 := hw.2.2
  have hw1 := hw.1
  have hw2 := hw.2.1
  have hT := TenP.of_nat hpP hn0 hn hw rfl hfp
  have hw1 := hw.1
  have hw2 := hw.2.1
  have hMT := hw.2.2
  refine sq ?_
  refine wp_region_lit ?_
  refine stR hF (d_box 0 hM hF rfl) rfl ?_
  rintro _ w' a ⟨b1, rfl, hM, -⟩ hF
  change Mem w w' [some (b1, tenC (p : Int) (n : Int) (i : Int) (o : Int) (.slice (some ⟨b, 0, none⟩) (n ^ (i + o)) (n ^ (i + o)))), none, none, none, none, none] [(b, numC (n ^ (i + o)) f), (bi, numC i ua), (bu, numC o ub)] at hM
  refine stR hF (d_alloc 1 hM ty_ze_26) rfl ?_
  rintro _ w' a ⟨b2, rfl, hM, -⟩ hF
  change Mem w w' [some (b1, tenC (p : Int) (n : Int) (i : Int) (o : Int) (.slice (some ⟨b, 0, none⟩) (n ^ (i + o)) (n ^ (i + o)))), some (b2, tenC 0 0 0 0 (.slice none 0 0)), none, none, none, none] [(b, numC (n ^ (i + o)) f), (bi, numC i ua), (bu, numC o ub)] at hM
  refine st hF (g_assign hF rfl) rfl fun a hF => ?_
  refine wpList_nil ?_
  refine tN ?_
  refine sq ?_
  refine wp_block ?_
  refine sq ?_
  refine wp_region_lit ?_
  refine st hF (g_loadAgg ty_ag_26 hF rfl (hM.row 0 rfl) (by simp only [fnC_size, cells_size, vecC_size, tabC_size, planeC_size, tenC_size, smC_size, numC_size, numI_size, rowJ_size] <;> omega) (whole rfl)) rfl fun a hF => ?_
  refine stR hF (d_call Try.call19 hF (.cons rfl .nil) ((CallsR.val (l03Is_ok (p : Int) (n : Int) (i : Int) (o : Int) b (n ^ (i + o)) (fun c => ((f c : Nat) : Int)) _ (hM.fz 0 rfl) (by omega)) (congrArg Value.bool (decide_eq_true hT))))) rfl ?_
  rintro _ w' a ⟨hx, rfl⟩ hF
  have hM := hM.ext hx
  refine st hF (g_not hF rfl) rfl fun a hF => st hF (g_assign hF rfl) rfl fun a hF => ?_
  refine wpList_nil ?_
  refine tN ?_
  refine c_Fl hF rfl ?_
  refine sq ?_
  refine wp_region_lit ?_
  refine st hF (g_move hF rfl) rfl fun a hF => st hF (g_fieldAddr ty_fo_26_2 hF rfl) rfl fun a hF => st hF (g_load ty_on_2 hF rfl (hM.row 0 rfl) (tenC_2 (by omega))) rfl fun a hF => ?_
  refine stR hF (d_call Try.call20 hF (.cons rfl (.cons rfl .nil)) ((CallsR.val (l03Legs_ok bi i (fun c => ((ua c : Nat) : Int)) (((i : Nat) : Int)) _ (by omega) (by omega) (by omega) (hM.fzm (b := bi) (cs := numC i ua) (by simp))) (congrArg Value.bool (decide_eq_true ⟨rfl, hLa⟩))))) rfl ?_
  rintro _ w' a ⟨hx, rfl⟩ hF
  have hM := hM.ext hx
  refine st hF (g_not hF rfl) rfl fun a hF => st hF (g_move hF rfl) rfl fun a hF => stY hF rfl rfl rfl (g_move hF rfl) rfl fun a hF => stY hF rfl rfl rfl (g_fieldAddr ty_fo_26_3 hF rfl) rfl fun a hF => stY hF rfl rfl rfl (g_load ty_on_2 hF rfl (hM.row 0 rfl) (tenC_3 (by omega))) rfl fun a hF => ?_
  refine stYR hF rfl rfl rfl (d_call Try.call20 hF (.cons rfl (.cons rfl .nil)) ((CallsR.val (l03Legs_ok bu o (fun c => ((ub c : Nat) : Int)) (((o : Nat) : Int)) _ (by omega) (by omega) (by omega) (hM.fzm (b := bu) (cs := numC o ub) (by simp))) (congrArg Value.bool (decide_eq_true ⟨rfl, hLb⟩))))) rfl ?_
  rintro _ w' a ⟨hx, rfl⟩ hF
  have hM := hM.ext hx
  refine stY hF rfl rfl rfl (g_not hF rfl) rfl fun a hF => st hF (g_pickF hF rfl rfl) rfl fun a hF => st hF (g_assign hF rfl) rfl fun a hF => ?_
  refine wpList_nil ?_
  refine tN ?_
  refine c_Fl hF rfl ?_
  refine wp_skip ?_
  refine iN ?_
  refine tN ?_
  refine sq ?_
  refine wp_region_lit ?_
  refine st hF (g_fieldAddr ty_fo_26_0 hF rfl) rfl fun a hF => st hF (g_load ty_on_2 hF rfl (hM.row 0 rfl) (tenC_0 (by omega))) rfl fun a hF => st hF (g_fieldAddr ty_fo_26_1 hF rfl) rfl fun a hF => st hF (g_load ty_on_2 hF rfl (hM.row 0 rfl) (tenC_1 (by omega))) rfl fun a hF => st hF (g_fieldAddr ty_fo_26_2 hF rfl) rfl fun a hF => st hF (g_load ty_on_2 hF rfl (hM.row 0 rfl) (tenC_2 (by omega))) rfl fun a hF => st hF (g_fieldAddr ty_fo_26_3 hF rfl) rfl fun a hF => st hF (g_load ty_on_2 hF rfl (hM.row 0 rfl) (tenC_3 (by omega))) rfl fun a hF => ?_
  refine stR hF (d_call Try.call21 hF (.cons rfl (.cons rfl (.cons rfl (.cons rfl .nil)))) (l03Empty_ok (p) (n) (i) (o) _ (by omega) (by omega) hw)) rfl ?_
  rintro _ w' a ⟨hx, b5, rfl, hge, hbk⟩ hF
  have hM := hM.fill hx 2 hbk hge
  change Mem w w' [some (b1, tenC (p : Int) (n : Int) (i : Int) (o : Int) (.slice (some ⟨b, 0, none⟩) (n ^ (i + o)) (n ^ (i + o)))), some (b2, tenC 0 0 0 0 (.slice none 0 0)), some (b5, numC ((n) ^ ((i) + (o))) (fun _ => 0)), none, none, none] [(b, numC (n ^ (i + o)) f), (bi, numC i ua), (bu, numC o ub)] at hM
  refine stR hF (d_alloc 3 hM ty_ze_26) rfl ?_
  rintro _ w' a ⟨b6, rfl, hM, -⟩ hF
  change Mem w w' [some (b1, tenC (p : Int) (n : Int) (i : Int) (o : Int) (.slice (some ⟨b, 0, none⟩) (n ^ (i + o)) (n ^ (i + o)))), some (b2, tenC 0 0 0 0 (.slice none 0 0)), some (b5, numC ((n) ^ ((i) + (o))) (fun _ => 0)), some (b6, tenC 0 0 0 0 (.slice none 0 0)), none, none] [(b, numC (n ^ (i + o)) f), (bi, numC i ua), (bu, numC o ub)] at hM
  refine stN hF (d_storeAgg 3 hM rfl ty_sz_26 hF rfl rfl (tenC_one rfl) (by simp only [fnC_size, cells_size, vecC_size, tabC_size, planeC_size, tenC_size, smC_size, numC_size, numI_size, rowJ_size]) (by simp only [fnC_size, cells_size, vecC_size, tabC_size, planeC_size, tenC_size, smC_size, numC_size, numI_size, rowJ_size] <;> omega) (splice_whole _ _ rfl)) ?_
  intro _ w' a hM hF
  change Mem w w' [some (b1, tenC (p : Int) (n : Int) (i : Int) (o : Int) (.slice (some ⟨b, 0, none⟩) (n ^ (i + o)) (n ^ (i + o)))), some (b2, tenC 0 0 0 0 (.slice none 0 0)), some (b5, numC ((n) ^ ((i) + (o))) (fun _ => 0)), some (b6, tenC ((p : Nat) : Int) ((n : Nat) : Int) ((i : Nat) : Int) ((o : Nat) : Int) (.slice (some ⟨b5, 0, none⟩) ((n) ^ ((i) + (o))) ((n) ^ ((i) + (o))))), none, none] [(b, numC (n ^ (i + o)) f), (bi, numC i ua), (bu, numC o ub)] at hM
  refine wpList_nil ?_
  refine tN ?_
  refine sq ?_
  refine sq ?_
  refine wp_region_lit ?_
  refine st hF (g_assign hF rfl) rfl fun a hF => ?_
  refine wpList_nil ?_
  refine tN ?_
  refine wp_block ?_
  change Mem w _ [some (b1, tenC (p : Int) (n : Int) (i : Int) (o : Int) (.slice (some ⟨b, 0, none⟩) (n ^ (i + o)) (n ^ (i + o)))), some (b2, tenC 0 0 0 0 (.slice none 0 0)), some (b5, numC ((n) ^ ((i) + (o))) (fun _ => 0)), some (b6, tenC ((p : Nat) : Int) ((n : Nat) : Int) ((i : Nat) : Int) ((o : Nat) : Int) (.slice (some ⟨b5, 0, none⟩) ((n) ^ ((i) + (o))) ((n) ^ ((i) + (o))))), none, none] [(b, numC (n ^ (i + o)) f), (bi, numC i ua), (bu, numC o ub)] at hM
  refine c_loop (fun (kk : Nat) a w' => kk ≤ n ^ (i + o) ∧ (True) ∧ Fr 112 a [(1, .slice (some ⟨bi, 0, none⟩) (i) (i)), (2, .slice (some ⟨bu, 0, none⟩) (o) (o)), (3, ptr b1 (0)), (6, ptr b2 (0)), (7, .int .i64 (0)), (14, .bool (false)), (19, .bool (false)), (8, ptr b6 (0)), (9, .int .i64 (((kk : Nat) : Int)))] ∧ Mem w w' [some (b1, tenC (p : Int) (n : Int) (i : Int) (o : Int) (.slice (some ⟨b, 0, none⟩) (n ^ (i + o)) (n ^ (i + o)))), some (b2, tenC 0 0 0 0 (.slice none 0 0)), some (b5, numC (n ^ (i + o)) (fun c => if c < kk then Rw.pmF n (i + o) (ordF i ua ub) f c else 0)), some (b6, tenC ((p : Nat) : Int) ((n : Nat) : Int) ((i : Nat) : Int) ((o : Nat) : Int) (.slice (some ⟨b5, 0, none⟩) ((n) ^ ((i) + (o))) ((n) ^ ((i) + (o))))), none, none] [(b, numC (n ^ (i + o)) f), (bi, numC i ua), (bu, numC o ub)]) (fun kk => n ^ (i + o) - kk) 0 ?_ ?_
  ·
   refine ⟨by omega, trivial, hF.sub _ (by repeat' constructor), ?_⟩
   exact hM.rowc 2 rfl (numC_congr fun c hc => (if_neg (Nat.not_lt_zero _)).symm)
  ·
   clear hF hM
   rintro gi a w' ⟨hgi, hinv1, hF, hM⟩
   have hdg : ∀ c, Rw.digF n (i + o) gi c < n := fun c => Rw.digF_lt hn0
   have hog : ∀ c, Rw.orgF (ordF i ua ub) (Rw.digF n (i + o) gi) (i + o) c < n := fun c => Rw.orgF_lt hn0 hdg _ _
   have hplb := Rw.plF_lt hog (i + o)
   refine sq ?_
   refine sq ?_
   refine wp_region_lit ?_
   refine st hF (g_move hF rfl) rfl fun a hF => st hF (g_fieldAddr ty_fo_26_4 hF rfl) rfl fun a hF => st hF (g_load ty_on_22 hF rfl (hM.row 3 rfl) (tenC_4 (by omega))) rfl fun a hF => st hF (g_len ty_us_22 hF rfl) rfl fun a hF => st hF (g_lss hF rfl rfl) rfl fun a hF => ?_
   refine wpList_nil ?_
   refine tN ?_
   refine c_cond hF rfl (fun h7 => ?_) (fun h7 => ?_)
   ·
    refine wp_skip ?_
    refine tN ?_
    refine sq ?_
    refine wp_block ?_
    refine sq ?_
    refine wp_region_lit ?_
    refine st hF (g_move hF rfl) rfl fun a hF => st hF (g_fieldAddr ty_fo_26_1 hF rfl) rfl fun a hF => st hF (g_load ty_on_2 hF rfl (hM.row 0 rfl) (tenC_1 (by omega))) rfl fun a hF => st hF (g_fieldAddr ty_fo_26_2 hF rfl) rfl fun a hF => st hF (g_load ty_on_2 hF rfl (hM.row 0 rfl) (tenC_2 (by omega))) rfl fun a hF => st hF (g_fieldAddr ty_fo_26_3 hF rfl) rfl fun a hF => st hF (g_load ty_on_2 hF rfl (hM.row 0 rfl) (tenC_3 (by omega))) rfl fun a hF => st hF (g_add hF rfl rfl (add_nat (i) (o) (by omega))) rfl fun a hF => ?_
    refine stR hF (d_call Try.call22 hF (.cons rfl (.cons rfl (.cons rfl .nil))) (l03Digits_ok (gi) (n) (i + o) _ (by omega) (by omega) (by omega) (by omega))) rfl ?_
    rintro _ w' a ⟨hx, b8, rfl, hge, hbk⟩ hF
    have hM := hM.fill hx 4 hbk hge
    change Mem w w' [some (b1, tenC (p : Int) (n : Int) (i : Int) (o : Int) (.slice (some ⟨b, 0, none⟩) (n ^ (i + o)) (n ^ (i + o)))), some (b2, tenC 0 0 0 0 (.slice none 0 0)), some (b5, numC (n ^ (i + o)) (fun c => if c < gi then Rw.pmF n (i + o) (ordF i ua ub) f c else 0)), some (b6, tenC ((p : Nat) : Int) ((n : Nat) : Int) ((i : Nat) : Int) ((o : Nat) : Int) (.slice (some ⟨b5, 0, none⟩) ((n) ^ ((i) + (o))) ((n) ^ ((i) + (o))))), some (b8, numC (i + o) (Rw.digF (n) (i + o) (gi))), none] [(b, numC (n ^ (i + o)) f), (bi, numC i ua), (bu, numC o ub)] at hM
    refine st hF (g_assign hF rfl) rfl fun a hF => ?_
    refine wpList_nil ?_
    refine tN ?_
    refine sq ?_
    refine wp_region_lit ?_
    refine st hF (g_move hF rfl) rfl fun a hF => st hF (g_len ty_us_22 hF rfl) rfl fun a hF => ?_
    refine stR hF (d_make1 (len := i + o) 5 hM hF ty_si_22 rfl rfl rfl (by omega) (by decide)) rfl ?_
    rintro _ w' a ⟨b10, rfl, hM, -⟩ hF
    change Mem w w' [some (b1, tenC (p : Int) (n : Int) (i : Int) (o : Int) (.slice (some ⟨b, 0, none⟩) (n ^ (i + o)) (n ^ (i + o)))), some (b2, tenC 0 0 0 0 (.slice none 0 0)), some (b5, numC (n ^ (i + o)) (fun c => if c < gi then Rw.pmF n (i + o) (ordF i ua ub) f c else 0)), some (b6, tenC ((p : Nat) : Int) ((n : Nat) : Int) ((i : Nat) : Int) ((o : Nat) : Int) (.slice (some ⟨b5, 0, none⟩) ((n) ^ ((i) + (o))) ((n) ^ ((i) + (o))))), some (b8, numC (i + o) (Rw.digF (n) (i + o) (gi))), some (b10, numC (i + o) (fun _ => 0))] [(b, numC (n ^ (i + o)) f), (bi, numC i ua), (bu, numC o ub)] at hM
    refine st hF (g_assign hF rfl) rfl fun a hF => ?_
    refine wpList_nil ?_
    refine tN ?_
    refine sq ?_
    refine sq ?_
    refine wp_region_lit ?_
    refine st hF (g_assign hF rfl) rfl fun a hF => ?_
    refine wpList_nil ?_
    refine tN ?_
    refine wp_block ?_
    change Mem w _ [some (b1, tenC (p : Int) (n : Int) (i : Int) (o : Int) (.slice (some ⟨b, 0, none⟩) (n ^ (i + o)) (n ^ (i + o)))), some (b2, tenC 0 0 0 0 (.slice none 0 0)), some (b5, numC (n ^ (i + o)) (fun c => if c < gi then Rw.pmF n (i + o) (ordF i ua ub) f c else 0)), some (b6, tenC ((p : Nat) : Int) ((n : Nat) : Int) ((i : Nat) : Int) ((o : Nat) : Int) (.slice (some ⟨b5, 0, none⟩) ((n) ^ ((i) + (o))) ((n) ^ ((i) + (o))))), some (b8, numC (i + o) (Rw.digF (n) (i + o) (gi))), some (b10, numC (i + o) (fun _ => 0))] [(b, numC (n ^ (i + o)) f), (bi, numC i ua), (bu, numC o ub)] at hM
    refine c_loop (fun (kk : Nat) a w' => kk ≤ i ∧ (True) ∧ Fr 112 a [(1, .slice (some ⟨bi, 0, none⟩) (i) (i)), (2, .slice (some ⟨bu, 0, none⟩) (o) (o)), (3, ptr b1 (0)), (6, ptr b2 (0)), (7, .int .i64 (0)), (14, .bool (false)), (19, .bool (false)), (8, ptr b6 (0)), (9, .int .i64 (((gi : Nat) : Int))), (42, .int .i64 (((gi : Nat) : Int))), (43, ptr b6 (0 + 4)), (44, .slice (some ⟨b5, 0, none⟩) ((n) ^ ((i) + (o))) ((n) ^ ((i) + (o)))), (45, .int .i64 ((((n) ^ ((i) + (o)) : Nat) : Int))), (46, .bool (decide ((((gi : Nat) : Int) : Int) < (((n) ^ ((i) + (o)) : Nat) : Int)))), (49, .int .i64 (((gi : Nat) : Int))), (50, ptr b1 (0 + 1)), (51, .int .i64 (((n : Nat) : Int))), (52, ptr b1 (0 + 2)), (53, .int .i64 (((i : Nat) : Int))), (54, ptr b1 (0 + 3)), (55, .int .i64 (((o : Nat) : Int))), (56, .int .i64 (((i + o : Nat) : Int))), (57, .slice (some ⟨b8, 0, none⟩) (i + o) (i + o)), (10, .slice (some ⟨b8, 0, none⟩) (i + o) (i + o)), (58, .slice (some ⟨b8, 0, none⟩) (i + o) (i + o)), (59, .int .i64 (((i + o : Nat) : Int))), (60, .slice (some ⟨b10, 0, none⟩) (i + o) (i + o)), (11, .slice (some ⟨b10, 0, none⟩) (i + o) (i + o)), (12, .int .i64 (((kk : Nat) : Int)))] ∧ Mem w w' [some (b1, tenC (p : Int) (n : Int) (i : Int) (o : Int) (.slice (some ⟨b, 0, none⟩) (n ^ (i + o)) (n ^ (i + o)))), some (b2, tenC 0 0 0 0 (.slice none 0 0)), some (b5, numC (n ^ (i + o)) (fun c => if c < gi then Rw.pmF n (i + o) (ordF i ua ub) f c else 0)), some (b6, tenC ((p : Nat) : Int) ((n : Nat) : Int) ((i : Nat) : Int) ((o : Nat) : Int) (.slice (some ⟨b5, 0, none⟩) ((n) ^ ((i) + (o))) ((n) ^ ((i) + (o))))), some (b8, numC (i + o) (Rw.digF (n) (i + o) (gi))), some (b10, numC (i + o) (Rw.orgF (ordF i ua ub) (Rw.digF n (i + o) gi) (kk)))] [(b, numC (n ^ (i + o)) f), (bi, numC i ua), (bu, numC o ub)]) (fun kk => i - kk) 0 ?_ ?_
    ·
     refine ⟨by omega, trivial, hF.sub _ (by repeat' constructor), ?_⟩
     exact hM.rowc 5 rfl (numC_congr fun c hc => rfl)
    ·
     clear hF hM
     rintro gx a w' ⟨hgx, hinv2, hF, hM⟩
     have hux := hua gx
     have hdx := hdg gx
     refine sq ?_
     refine sq ?_
     refine wp_region_lit ?_
     refine st hF (g_move hF rfl) rfl fun a hF => st hF (g_move hF rfl) rfl fun a hF => st hF (g_len ty_us_22 hF rfl) rfl fun a hF => st hF (g_lss hF rfl rfl) rfl fun a hF => ?_
     refine wpList_nil ?_
     refine tN ?_
     refine c_cond hF rfl (fun h11 => ?_) (fun h11 => ?_)
     ·
      refine wp_skip ?_
      refine tN ?_
      refine sq ?_
      refine wp_block ?_
      refine c_par 9 [] [.val (.slice (some ⟨b10, 0, none⟩) (i + o) (i + o)), .val (.slice (some ⟨bi, 0, none⟩) (i) (i)), .val (.int .i64 (((gx : Nat) : Int))), .val (ptr bi (0 + (gx) * 1)), .val (.int .i64 (((ua (gx) : Nat) : Int))), .val (.slice (some ⟨b8, 0, none⟩) (i + o) (i + o)), .val (.int .i64 (((gx : Nat) : Int))), .val (ptr b8 (0 + (gx) * 1)), .val (.int .i64 ((((Rw.digF (n) (i + o) (gi)) ((gx)) : Nat) : Int)))] hmix rfl hF rfl hM ⟨fun a w gG hF hS hd => by exact par_val hS rfl (g_move hF rfl), fun a w gG hF hS hd => by exact par_val hS rfl (g_move hF rfl), fun a w gG hF hS hd => by exact par_val hS rfl (g_move hF rfl), fun a w gG hF hS hd => by have hF := hF.ext1 68 (hd 1 rfl rfl); have hF := hF.ext1 69 (hd 2 rfl rfl); exact par_val hS rfl (g_indexSl (i := gx) ty_sl_22 hF rfl rfl rfl (by omega)), fun a w gG hF hS hd => by have hF := hF.ext1 70 (hd 3 rfl rfl); have hM := hS.mem rfl; exact par_val hS rfl (g_load ty_on_2 hF rfl (hM.fzm (b := bi) (cs := numC i ua) (by simp)) (numC_get (k := gx) (by omega) (by omega))), fun a w gG hF hS hd => by exact par_val hS rfl (g_move hF rfl), fun a w gG hF hS hd => by exact par_val hS rfl (g_move hF rfl), fun a w gG hF hS hd => by have hF := hF.ext1 72 (hd 5 rfl rfl); have hF := hF.ext1 73 (hd 6 rfl rfl); exact par_val hS rfl (g_indexSl (i := gx) ty_sl_22 hF rfl rfl rfl (by omega)), fun a w gG hF hS hd => by have hF := hF.ext1 74 (hd 7 rfl rfl); have hM := hS.mem rfl; exact par_val hS rfl (g_load ty_on_2 hF rfl (hM.row 4 rfl) (numC_get (k := (gx)) (by omega) (by omega))), trivial⟩ ?_
      intro a w' L hF hS hq
      have hF := hF.ext1 67 (hq 0 rfl rfl)
      have hF := hF.ext1 68 (hq 1 rfl rfl)
      have hF := hF.ext1 69 (hq 2 rfl rfl)
      have hF := hF.ext1 70 (hq 3 rfl rfl)
      have hF := hF.ext1 71 (hq 4 rfl rfl)
      have hF := hF.ext1 72 (hq 5 rfl rfl)
      have hF := hF.ext1 73 (hq 6 rfl rfl)
      have hF := hF.ext1 74 (hq 7 rfl rfl)
      have hF := hF.ext1 75 (hq 8 rfl rfl)
      have hM := hS.mem rfl
      change wpList Try.prog _ _ [_, _] _ _
      refine st hF (g_indexSl (i := ua (gx)) ty_sl_22 hF rfl rfl rfl (by omega)) rfl fun a hF => ?_
      refine stN hF (d_store 5 hM rfl ty_on_2 hF rfl rfl rfl (by first | omega | (simp only [fnC_size, cells_size, vecC_size, tabC_size, planeC_size, tenC_size, smC_size, numC_size, numI_size, rowJ_size] <;> omega) | (simp only [Array.size_setIfInBounds]; omega) | simp)) ?_
      intro _ w' a hM hF
      rw [show (numC (i + o) (Rw.orgF (ordF i ua ub) (Rw.digF n (i + o) gi) (gx))).setIfInBounds (0 + (ua (gx)) * 1) (.int .i64 ((((Rw.digF (n) (i + o) (gi)) ((gx)) : Nat) : Int))) = numC (i + o) (fun c => if c = (ua (gx)) then (Rw.digF (n) (i + o) (gi)) ((gx)) else (Rw.orgF (ordF i ua ub) (Rw.digF n (i + o) gi) (gx)) c) from numC_set (k := (ua (gx))) (by omega) (fun c _ => rfl)] at hM
      change Mem w w' [some (b1, tenC (p : Int) (n : Int) (i : Int) (o : Int) (.slice (some ⟨b, 0, none⟩) (n ^ (i + o)) (n ^ (i + o)))), some (b2, tenC 0 0 0 0 (.slice none 0 0)), some (b5, numC (n ^ (i + o)) (fun c => if c < gi then Rw.pmF n (i + o) (ordF i ua ub) f c else 0)), some (b6, tenC ((p : Nat) : Int) ((n : Nat) : Int) ((i : Nat) : Int) ((o : Nat) : Int) (.slice (some ⟨b5, 0, none⟩) ((n) ^ ((i) + (o))) ((n) ^ ((i) + (o))))), some (b8, numC (i + o) (Rw.digF (n) (i + o) (gi))), some (b10, numC (i + o) (fun c => if c = (ua (gx)) then (Rw.digF (n) (i + o) (gi)) ((gx)) else (Rw.orgF (ordF i ua ub) (Rw.digF n (i + o) gi) (gx)) c))] [(b, numC (n ^ (i + o)) f), (bi, numC i ua), (bu, numC o ub)] at hM
      refine wpList_nil ?_
      refine iN ?_
      refine tN ?_
      refine wp_region_lit ?_
      refine st hF (g_move hF rfl) rfl fun a hF => st hF (g_add hF rfl rfl (add_nat (gx) (1) (by omega))) rfl fun a hF => st hF (g_assign hF rfl) rfl fun a hF => ?_
      refine wpList_nil ?_
      refine tN ?_
      refine ⟨gx + 1, ⟨by omega, trivial, hF.sub _ (by repeat' constructor), ?_⟩, by omega⟩
      exact hM.rowc 5 rfl (numC_congr fun c hc => by rw [← ordF_lo (i := i) (ua := ua) (ub := ub) (show gx < i by omega)]; rfl)
     ·
      obtain rfl : i = gx := by omega
      refine wp_exit ?_
      refine tX ?_
      refine tX ?_
      refine ib_same ?_
      refine tN ?_
      refine sq ?_
      refine sq ?_
      refine wp_region_lit ?_
      refine st hF (g_assign hF rfl) rfl fun a hF => ?_
      refine wpList_nil ?_
      refine tN ?_
      refine wp_block ?_
      change Mem w _ [some (b1, tenC (p : Int) (n : Int) (i : Int) (o : Int) (.slice (some ⟨b, 0, none⟩) (n ^ (i + o)) (n ^ (i + o)))), some (b2, tenC 0 0 0 0 (.slice none 0 0)), some (b5, numC (n ^ (i + o)) (fun c => if c < gi then Rw.pmF n (i + o) (ordF i ua ub) f c else 0)), some (b6, tenC ((p : Nat) : Int) ((n : Nat) : Int) ((i : Nat) : Int) ((o : Nat) : Int) (.slice (some ⟨b5, 0, none⟩) ((n) ^ ((i) + (o))) ((n) ^ ((i) + (o))))), some (b8, numC (i + o) (Rw.digF (n) (i + o) (gi))), some (b10, numC (i + o) (Rw.orgF (ordF i ua ub) (Rw.digF n (i + o) gi) (i)))] [(b, numC (n ^ (i + o)) f), (bi, numC i ua), (bu, numC o ub)] at hM
      refine c_loop (fun (kk : Nat) a w' => kk ≤ o ∧ (True) ∧ Fr 112 a [(1, .slice (some ⟨bi, 0, none⟩) (i) (i)), (2, .slice (some ⟨bu, 0, none⟩) (o) (o)), (3, ptr b1 (0)), (6, ptr b2 (0)), (7, .int .i64 (0)), (14, .bool (false)), (19, .bool (false)), (8, ptr b6 (0)), (9, .int .i64 (((gi : Nat) : Int))), (42, .int .i64 (((gi : Nat) : Int))), (43, ptr b6 (0 + 4)), (44, .slice (some ⟨b5, 0, none⟩) ((n) ^ ((i) + (o))) ((n) ^ ((i) + (o)))), (45, .int .i64 ((((n) ^ ((i) + (o)) : Nat) : Int))), (46, .bool (decide ((((gi : Nat) : Int) : Int) < (((n) ^ ((i) + (o)) : Nat) : Int)))), (49, .int .i64 (((gi : Nat) : Int))), (50, ptr b1 (0 + 1)), (51, .int .i64 (((n : Nat) : Int))), (52, ptr b1 (0 + 2)), (53, .int .i64 (((i : Nat) : Int))), (54, ptr b1 (0 + 3)), (55, .int .i64 (((o : Nat) : Int))), (56, .int .i64 (((i + o : Nat) : Int))), (57, .slice (some ⟨b8, 0, none⟩) (i + o) (i + o)), (10, .slice (some ⟨b8, 0, none⟩) (i + o) (i + o)), (58, .slice (some ⟨b8, 0, none⟩) (i + o) (i + o)), (59, .int .i64 (((i + o : Nat) : Int))), (60, .slice (some ⟨b10, 0, none⟩) (i + o) (i + o)), (11, .slice (some ⟨b10, 0, none⟩) (i + o) (i + o)), (12, .int .i64 (((i : Nat) : Int))), (61, .int .i64 (((i : Nat) : Int))), (62, .slice (some ⟨bi, 0, none⟩) (i) (i)), (63, .int .i64 (((i : Nat) : Int))), (64, .bool (decide ((((i : Nat) : Int) : Int) < ((i : Nat) : Int)))), (13, .int .i64 (((kk : Nat) : Int)))] ∧ Mem w w' [some (b1, tenC (p : Int) (n : Int) (i : Int) (o : Int) (.slice (some ⟨b, 0, none⟩) (n ^ (i + o)) (n ^ (i + o)))), some (b2, tenC 0 0 0 0 (.slice none 0 0)), some (b5, numC (n ^ (i + o)) (fun c => if c < gi then Rw.pmF n (i + o) (ordF i ua ub) f c else 0)), some (b6, tenC ((p : Nat) : Int) ((n : Nat) : Int) ((i : Nat) : Int) ((o : Nat) : Int) (.slice (some ⟨b5, 0, none⟩) ((n) ^ ((i) + (o))) ((n) ^ ((i) + (o))))), some (b8, numC (i + o) (Rw.digF (n) (i + o) (gi))), some (b10, numC (i + o) (Rw.orgF (ordF i ua ub) (Rw.digF n (i + o) gi) (i + kk)))] [(b, numC (n ^ (i + o)) f), (bi, numC i ua), (bu, numC o ub)]) (fun kk => o - kk) 0 ?_ ?_
      ·
       refine ⟨by omega, trivial, hF.sub _ (by repeat' constructor), ?_⟩
       exact hM
      ·
       clear hF hM
       rintro gy a w' ⟨hgy, hinv3, hF, hM⟩
       have huy := hub gy
       have hdy := hdg (i + gy)
       refine sq ?_
       refine sq ?_
       refine wp_region_lit ?_
       refine st hF (g_move hF rfl) rfl fun a hF => st hF (g_move hF rfl) rfl fun a hF => st hF (g_len ty_us_22 hF rfl) rfl fun a hF => st hF (g_lss hF rfl rfl) rfl fun a hF => ?_
       refine wpList_nil ?_
       refine tN ?_
       refine c_cond hF rfl (fun h12 => ?_) (fun h12 => ?_)
       ·
        refine wp_skip ?_
        refine tN ?_
        refine sq ?_
        refine wp_block ?_
        refine c_par 15 [] [.val (.slice (some ⟨b10, 0, none⟩) (i + o) (i + o)), .val (ptr b1 (0 + 2)), .val (.int .i64 (((i : Nat) : Int))), .val (.slice (some ⟨bu, 0, none⟩) (o) (o)), .val (.int .i64 (((gy : Nat) : Int))), .val (ptr bu (0 + (gy) * 1)), .val (.int .i64 (((ub (gy) : Nat) : Int))), .val (.int .i64 (((i + ub (gy) : Nat) : Int))), .val (.slice (some ⟨b8, 0, none⟩) (i + o) (i + o)), .val (ptr b1 (0 + 2)), .val (.int .i64 (((i : Nat) : Int))), .val (.int .i64 (((gy : Nat) : Int))), .val (.int .i64 (((i + gy : Nat) : Int))), .val (ptr b8 (0 + (i + gy) * 1)), .val (.int .i64 ((((Rw.digF (n) (i + o) (gi)) ((i + gy)) : Nat) : Int)))] hmix rfl hF rfl hM ⟨fun a w gG hF hS hd => by exact par_val hS rfl (g_move hF rfl), fun a w gG hF hS hd => by exact par_val hS rfl (g_fieldAddr ty_fo_26_2 hF rfl), fun a w gG hF hS hd => by have hF := hF.ext1 84 (hd 1 rfl rfl); have hM := hS.mem rfl; exact par_val hS rfl (g_load ty_on_2 hF rfl (hM.row 0 rfl) (tenC_2 (by omega))), fun a w gG hF hS hd => by exact par_val hS rfl (g_move hF rfl), fun a w gG hF hS hd => by exact par_val hS rfl (g_move hF rfl), fun a w gG hF hS hd => by have hF := hF.ext1 86 (hd 3 rfl rfl); have hF := hF.ext1 87 (hd 4 rfl rfl); exact par_val hS rfl (g_indexSl (i := gy) ty_sl_22 hF rfl rfl rfl (by omega)), fun a w gG hF hS hd => by have hF := hF.ext1 88 (hd 5 rfl rfl); have hM := hS.mem rfl; exact par_val hS rfl (g_load ty_on_2 hF rfl (hM.fzm (b := bu) (cs := numC o ub) (by simp)) (numC_get (k := gy) (by omega) (by omega))), fun a w gG hF hS hd => by have hF := hF.ext1 85 (hd 2 rfl rfl); have hF := hF.ext1 89 (hd 6 rfl rfl); exact par_val hS rfl (g_add hF rfl rfl (add_nat (i) (ub (gy)) (by omega))), fun a w gG hF hS hd => by exact par_val hS rfl (g_move hF rfl), fun a w gG hF hS hd => by exact par_val hS rfl (g_fieldAddr ty_fo_26_2 hF rfl), fun a w gG hF hS hd => by have hF := hF.ext1 92 (hd 9 rfl rfl); have hM := hS.mem rfl; exact par_val hS rfl (g_load ty_on_2 hF rfl (hM.row 0 rfl) (tenC_2 (by omega))), fun a w gG hF hS hd => by exact par_val hS rfl (g_move hF rfl), fun a w gG hF hS hd => by have hF := hF.ext1 93 (hd 10 rfl rfl); have hF := hF.ext1 94 (hd 11 rfl rfl); exact par_val hS rfl (g_add hF rfl rfl (add_nat (i) (gy) (by omega))), fun a w gG hF hS hd => by have hF := hF.ext1 91 (hd 8 rfl rfl); have hF := hF.ext1 95 (hd 12 rfl rfl); exact par_val hS rfl (g_indexSl (i := i + gy) ty_sl_22 hF rfl rfl rfl (by omega)), fun a w gG hF hS hd => by have hF := hF.ext1 96 (hd 13 rfl rfl); have hM := hS.mem rfl; exact par_val hS rfl (g_load ty_on_2 hF rfl (hM.row 4 rfl) (numC_get (k := (i + gy)) (by omega) (by omega))), trivial⟩ ?_
        intro a w' L hF hS hq
        have hF := hF.ext1 83 (hq 0 rfl rfl)
        have hF := hF.ext1 84 (hq 1 rfl rfl)
        have hF := hF.ext1 85 (hq 2 rfl rfl)
        have hF := hF.ext1 86 (hq 3 rfl rfl)
        have hF := hF.ext1 87 (hq 4 rfl rfl)
        have hF := hF.ext1 88 (hq 5 rfl rfl)
        have hF := hF.ext1 89 (hq 6 rfl rfl)
        have hF := hF.ext1 90 (hq 7 rfl rfl)
        have hF := hF.ext1 91 (hq 8 rfl rfl)
        have hF := hF.ext1 92 (hq 9 rfl rfl)
        have hF := hF.ext1 93 (hq 10 rfl rfl)
        have hF := hF.ext1 94 (hq 11 rfl rfl)
        have hF := hF.ext1 95 (hq 12 rfl rfl)
        have hF := hF.ext1 96 (hq 13 rfl rfl)
        have hF := hF.ext1 97 (hq 14 rfl rfl)
        have hM := hS.mem rfl
        change wpList Try.prog _ _ [_, _] _ _
        refine st hF (g_indexSl (i := i + ub (gy)) ty_sl_22 hF rfl rfl rfl (by omega)) rfl fun a hF => ?_
        refine stN hF (d_store 5 hM rfl ty_on_2 hF rfl rfl rfl (by first | omega | (simp only [fnC_size, cells_size, vecC_size, tabC_size, planeC_size, tenC_size, smC_size, numC_size, numI_size, rowJ_size] <;> omega) | (simp only [Array.size_setIfInBounds]; omega) | simp)) ?_
        intro _ w' a hM hF
        rw [show (numC (i + o) (Rw.orgF (ordF i ua ub) (Rw.digF n (i + o) gi) (i + gy))).setIfInBounds (0 + (i + ub (gy)) * 1) (.int .i64 ((((Rw.digF (n) (i + o) (gi)) ((i + gy)) : Nat) : Int))) = numC (i + o) (fun c => if c = (i + ub (gy)) then (Rw.digF (n) (i + o) (gi)) ((i + gy)) else (Rw.orgF (ordF i ua ub) (Rw.digF n (i + o) gi) (i + gy)) c) from numC_set (k := (i + ub (gy))) (by omega) (fun c _ => rfl)] at hM
        change Mem w w' [some (b1, tenC (p : Int) (n : Int) (i : Int) (o : Int) (.slice (some ⟨b, 0, none⟩) (n ^ (i + o)) (n ^ (i + o)))), some (b2, tenC 0 0 0 0 (.slice none 0 0)), some (b5, numC (n ^ (i + o)) (fun c => if c < gi then Rw.pmF n (i + o) (ordF i ua ub) f c else 0)), some (b6, tenC ((p : Nat) : Int) ((n : Nat) : Int) ((i : Nat) : Int) ((o : Nat) : Int) (.slice (some ⟨b5, 0, none⟩) ((n) ^ ((i) + (o))) ((n) ^ ((i) + (o))))), some (b8, numC (i + o) (Rw.digF (n) (i + o) (gi))), some (b10, numC (i + o) (fun c => if c = (i + ub (gy)) then (Rw.digF (n) (i + o) (gi)) ((i + gy)) else (Rw.orgF (ordF i ua ub) (Rw.digF n (i + o) gi) (i + gy)) c))] [(b, numC (n ^ (i + o)) f), (bi, numC i ua), (bu, numC o ub)] at hM
        refine wpList_nil ?_
        refine iN ?_
        refine tN ?_
        refine wp_region_lit ?_
        refine st hF (g_move hF rfl) rfl fun a hF => st hF (g_add hF rfl rfl (add_nat (gy) (1) (by omega))) rfl fun a hF => st hF (g_assign hF rfl) rfl fun a hF => ?_
        refine wpList_nil ?_
        refine tN ?_
        refine ⟨gy + 1, ⟨by omega, trivial, hF.sub _ (by repeat' constructor), ?_⟩, by omega⟩
        exact hM.rowc 5 rfl (numC_congr fun c hc => by rw [← ordF_hi (i := i) (c := gy) (ua := ua) (ub := ub)]; rfl)
       ·
        obtain rfl : o = gy := by omega
        refine wp_exit ?_
        refine tX ?_
        refine tX ?_
        refine ib_same ?_
        refine tN ?_
        refine c_par 11 [] [.val (ptr b6 (0 + 4)), .val (.slice (some ⟨b5, 0, none⟩) ((n) ^ ((i) + (o))) ((n) ^ ((i) + (o)))), .val (.int .i64 (((gi : Nat) : Int))), .val (ptr b1 (0 + 4)), .val (.slice (some ⟨b, 0, none⟩) (n ^ (i + o)) (n ^ (i + o))), .val (.slice (some ⟨b10, 0, none⟩) (i + o) (i + o)), .val (ptr b1 (0 + 1)), .val (.int .i64 (((n : Nat) : Int))), .val (.int .i64 (((Rw.plF n (Rw.orgF (ordF i ua ub) (Rw.digF n (i + o) gi) (i + o)) (i + o) : Nat) : Int))), .val (ptr b (0 + (Rw.plF n (Rw.orgF (ordF i ua ub) (Rw.digF n (i + o) gi) (i + o)) (i + o)) * 1)), .val (.int .i64 (((f (Rw.plF n (Rw.orgF (ordF i ua ub) (Rw.digF n (i + o) gi) (i + o)) (i + o)) : Nat) : Int)))] hmix rfl hF rfl hM ⟨fun a w gG hF hS hd => by exact par_val hS rfl (g_fieldAddr ty_fo_26_4 hF rfl), fun a w gG hF hS hd => by have hF := hF.ext1 99 (hd 0 rfl rfl); have hM := hS.mem rfl; exact par_val hS rfl (g_load ty_on_22 hF rfl (hM.row 3 rfl) (tenC_4 (by omega))), fun a w gG hF hS hd => by exact par_val hS rfl (g_move hF rfl), fun a w gG hF hS hd => by exact par_val hS rfl (g_fieldAddr ty_fo_26_4 hF rfl), fun a w gG hF hS hd => by have hF := hF.ext1 102 (hd 3 rfl rfl); have hM := hS.mem rfl; exact par_val hS rfl (g_load ty_on_22 hF rfl (hM.row 0 rfl) (tenC_4 (by omega))), fun a w gG hF hS hd => by exact par_val hS rfl (g_move hF rfl), fun a w gG hF hS hd => by exact par_val hS rfl (g_fieldAddr ty_fo_26_1 hF rfl), fun a w gG hF hS hd => by have hF := hF.ext1 105 (hd 6 rfl rfl); have hM := hS.mem rfl; exact par_val hS rfl (g_load ty_on_2 hF rfl (hM.row 0 rfl) (tenC_1 (by omega))), fun a w gG hF hS hd => by have hF := hF.ext1 104 (hd 5 rfl rfl); have hF := hF.ext1 106 (hd 7 rfl rfl); have hM := hS.mem rfl; exact par_call (by repeat constructor) hS rfl (d_call Try.call23 hF (.cons rfl (.cons rfl .nil)) (l03Place_ok n b10 (i + o) (i + o) (Rw.orgF (ordF i ua ub) (Rw.digF n (i + o) gi) (i + o)) _ hn (by omega) hog (hM.row 5 rfl))), fun a w gG hF hS hd => by have hF := hF.ext1 103 (hd 4 rfl rfl); have hF := hF.ext1 107 (hd 8 rfl rfl); exact par_val hS rfl (g_indexSl (i := Rw.plF n (Rw.orgF (ordF i ua ub) (Rw.digF n (i + o) gi) (i + o)) (i + o)) ty_sl_22 hF rfl rfl rfl (by omega)), fun a w gG hF hS hd => by have hF := hF.ext1 108 (hd 9 rfl rfl); have hM := hS.mem rfl; exact par_val hS rfl (g_load ty_on_2 hF rfl (hM.fz 0 rfl) (numC_get (k := Rw.plF n (Rw.orgF (ordF i ua ub) (Rw.digF n (i + o) gi) (i + o)) (i + o)) (by omega) (by omega))), trivial⟩ ?_
        intro a w' L hF hS hq
        have hF := hF.ext1 99 (hq 0 rfl rfl)
        have hF := hF.ext1 100 (hq 1 rfl rfl)
        have hF := hF.ext1 101 (hq 2 rfl rfl)
        have hF := hF.ext1 102 (hq 3 rfl rfl)
        have hF := hF.ext1 103 (hq 4 rfl rfl)
        have hF := hF.ext1 104 (hq 5 rfl rfl)
        have hF := hF.ext1 105 (hq 6 rfl rfl)
        have hF := hF.ext1 106 (hq 7 rfl rfl)
        have hF := hF.ext1 107 (hq 8 rfl rfl)
        have hF := hF.ext1 108 (hq 9 rfl rfl)
        have hF := hF.ext1 109 (hq 10 rfl rfl)
        have hM := hS.mem rfl
        change wpList Try.prog _ _ [_, _] _ _
        refine st hF (g_indexSl (i := gi) ty_sl_22 hF rfl rfl rfl (by omega)) rfl fun a hF => ?_
        refine stN hF (d_store 2 hM rfl ty_on_2 hF rfl rfl rfl (by first | omega | (simp only [fnC_size, cells_size, vecC_size, tabC_size, planeC_size, tenC_size, smC_size, numC_size, numI_size, rowJ_size] <;> omega) | (simp only [Array.size_setIfInBounds]; omega) | simp)) ?_
        intro _ w' a hM hF
        rw [show (numC (n ^ (i + o)) (fun c => if c < gi then Rw.pmF n (i + o) (ordF i ua ub) f c else 0)).setIfInBounds (0 + (gi) * 1) (.int .i64 (((f (Rw.plF n (Rw.orgF (ordF i ua ub) (Rw.digF n (i + o) gi) (i + o)) (i + o)) : Nat) : Int))) = numC (n ^ (i + o)) (fun c => if c = (gi) then f (Rw.plF n (Rw.orgF (ordF i ua ub) (Rw.digF n (i + o) gi) (i + o)) (i + o)) else (fun c => if c < gi then Rw.pmF n (i + o) (ordF i ua ub) f c else 0) c) from numC_set (k := (gi)) (by omega) (fun c _ => rfl)] at hM
        change Mem w w' [some (b1, tenC (p : Int) (n : Int) (i : Int) (o : Int) (.slice (some ⟨b, 0, none⟩) (n ^ (i + o)) (n ^ (i + o)))), some (b2, tenC 0 0 0 0 (.slice none 0 0)), some (b5, numC (n ^ (i + o)) (fun c => if c = (gi) then f (Rw.plF n (Rw.orgF (ordF i ua ub) (Rw.digF n (i + o) gi) (i + o)) (i + o)) else (fun c => if c < gi then Rw.pmF n (i + o) (ordF i ua ub) f c else 0) c)), some (b6, tenC ((p : Nat) : Int) ((n : Nat) : Int) ((i : Nat) : Int) ((o : Nat) : Int) (.slice (some ⟨b5, 0, none⟩) ((n) ^ ((i) + (o))) ((n) ^ ((i) + (o))))), some (b8, numC (i + o) (Rw.digF (n) (i + o) (gi))), some (b10, numC (i + o) (Rw.orgF (ordF i ua ub) (Rw.digF n (i + o) gi) (i + o)))] [(b, numC (n ^ (i + o)) f), (bi, numC i ua), (bu, numC o ub)] at hM
        refine wpList_nil ?_
        refine iN ?_
        refine tN ?_
        refine wp_region_lit ?_
        refine st hF (g_move hF rfl) rfl fun a hF => st hF (g_add hF rfl rfl (add_nat (gi) (1) (by omega))) rfl fun a hF => st hF (g_assign hF rfl) rfl fun a hF => ?_
        refine wpList_nil ?_
        refine tN ?_
        have hM := hM.drop 4
        have hM := hM.drop 5
        refine ⟨gi + 1, ⟨by omega, trivial, hF.sub _ (by repeat' constructor), ?_⟩, by omega⟩
        exact hM.rowc 2 rfl (numC_congr fun c hc => by
          by_cases e1 : c = gi
          · subst e1; rw [if_pos rfl, if_pos (by omega)]; rfl
          · have e0 : (c < gi + 1) = (c < gi) := by apply propext; omega
            simp only [e0, if_neg e1])
   ·
    obtain rfl : n ^ (i + o) = gi := by omega
    refine wp_exit ?_
    refine tX ?_
    refine tX ?_
    refine ib_same ?_
    refine tN ?_
    refine sq ?_
    refine wp_region_lit ?_
    refine st hF (g_loadAgg ty_ag_26 hF rfl (hM.row 3 rfl) (by simp only [fnC_size, cells_size, vecC_size, tabC_size, planeC_size, tenC_size, smC_size, numC_size, numI_size, rowJ_size] <;> omega) (whole rfl)) rfl fun a hF => ?_
    refine stN hF (d_storeAgg 1 hM rfl ty_sz_26 hF rfl rfl (tenC_one rfl) (by simp only [fnC_size, cells_size, vecC_size, tabC_size, planeC_size, tenC_size, smC_size, numC_size, numI_size, rowJ_size]) (by simp only [fnC_size, cells_size, vecC_size, tabC_size, planeC_size, tenC_size, smC_size, numC_size, numI_size, rowJ_size] <;> omega) (splice_whole _ _ rfl)) ?_
    intro _ w' a hM hF
    change Mem w w' [some (b1, tenC (p : Int) (n : Int) (i : Int) (o : Int) (.slice (some ⟨b, 0, none⟩) (n ^ (i + o)) (n ^ (i + o)))), some (b2, tenC ((p : Nat) : Int) ((n : Nat) : Int) ((i : Nat) : Int) ((o : Nat) : Int) (.slice (some ⟨b5, 0, none⟩) ((n) ^ ((i) + (o))) ((n) ^ ((i) + (o))))), some (b5, numC (n ^ (i + o)) (fun c => if c < (n ^ (i + o)) then Rw.pmF n (i + o) (ordF i ua ub) f c else 0)), some (b6, tenC ((p : Nat) : Int) ((n : Nat) : Int) ((i : Nat) : Int) ((o : Nat) : Int) (.slice (some ⟨b5, 0, none⟩) ((n) ^ ((i) + (o))) ((n) ^ ((i) + (o))))), none, none] [(b, numC (n ^ (i + o)) f), (bi, numC i ua), (bu, numC o ub)] at hM
    refine st hF (g_assign hF rfl) rfl fun a hF => ?_
    refine wpList_nil ?_
    refine tN ?_
    refine wp_ret ?_
    refine fin2 rfl hF.defers (res_agg ty_ag_26 hF rfl (hM.row 1 rfl) (by simp only [fnC_size, cells_size, vecC_size, tabC_size, planeC_size, tenC_size, smC_size, numC_size, numI_size, rowJ_size])) (res_tmp hF rfl) ⟨_, rfl, hM.below, ?_⟩
    exact ⟨_, rfl, hM.ge 2 rfl, (hM.rowc (cs' := numC (n ^ (i + o)) (Rw.pmF n (i + o) (ordF i ua ub) f)) 2 rfl (numC_congr fun c hc => if_pos hc)).row 2 rfl⟩

end Go.Proofs.Ytlpccepifehilaa
