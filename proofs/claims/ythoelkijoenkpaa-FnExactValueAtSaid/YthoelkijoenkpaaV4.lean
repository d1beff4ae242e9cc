/- What functions of the program return, as walks over their operations; no statement of the seat is proved here. -/
import Derived.Test.YthoelkijoenkpaaV3x
import Derived.Test.YthoelkijoenkpaaSw63
import Derived.Test.YthoelkijoenkpaaSw10
set_option linter.unusedVariables false
set_option linter.unusedSimpArgs false
namespace Go.Proofs.Ythoelkijoenkpaa
open Go Go.RowKit Go.Sw Go.Ech
open Classical
theorem ty_us_37 : Try.prog.underlying 37 = some (.slice 51) := by kernel_rfl
theorem ty_sl_37 : sliceOf Try.prog 37 = some 6 := by kernel_rfl
theorem ty_ba_72 : ∀ (p n : Int) w, (Instr.build 72 #[(0, .int .i64 p), (1, .int .i64 n)]).run Try.prog w = .ok (.agg (algC p n (fun _ _ _ => 0) (fun _ => 0))) w := by intros; kernel_rfl
theorem ty_on_37 : oneP Try.prog 37 = true := by kernel_rfl
theorem ty_bs_58 : ∀ (p : Int) (b : Option Addr) (l c : Nat) w, (Instr.build 58 #[(0, .int .i64 p), (1, .slice b l c)]).run Try.prog w = .ok (.agg (smC p (.slice b l c))) w := by intros; kernel_rfl
theorem ty_ze_58 : zeroP Try.prog 58 = some (.agg (smC 0 (.slice none 0 0))) := by kernel_rfl
theorem ty_sz_58 : sizeP Try.prog 58 = some 2 := by kernel_rfl
theorem ty_ag_58 : aggP Try.prog 58 = some 2 := by kernel_rfl
theorem vecsC_cell {m o : Nat} {V : Nat → Nat → Nat} (i j : Nat) (h : o = i * 6 + j) (hi : i < m) (hj : j < 6) : (vecsC m V)[o]? = some (.int .u8 ((V i j : Nat) : Int)) := by
  subst h
  unfold vecsC
  rw [fnC_get (by omega), show (i * 6 + j) / 6 = i by omega, show (i * 6 + j) % 6 = j by omega]
def VecsP (p n : Int) (m : Nat) (V : Nat → Nat → Nat) : Prop := ∀ i, i < m → okV p n (V i)
def facV (p n i k : Nat) (V : Nat → Nat → Nat) : Nat → Nat
  | 0 => 1
  | j + 1 => facV p n i k V j * V j (Rw.digF n i k j) % p
def valV (p n i W : Nat) (V : Nat → Nat → Nat) (f : Nat → Nat) : Nat → Nat → Nat
  | 0, _ => 0
  | k + 1, j => (valV p n i W V f k j + facV p n i k V i * f (k * W + j)) % p
theorem facV_lt {p n i k : Nat} {V : Nat → Nat → Nat} (hp : 1 < p) : ∀ j, facV p n i k V j < p
  | 0 => hp
  | j + 1 => Nat.mod_lt _ (by omega)
theorem valV_lt {p n i W : Nat} {V : Nat → Nat → Nat} {f : Nat → Nat} (hp : 0 < p) : ∀ k j, valV p n i W V f k j < p
  | 0, _ => hp
  | k + 1, j => Nat.mod_lt _ hp

theorem haveNumbersFor_ok (p n i o : Int) (b m0 : Nat) (g : Nat → Int) (bv cv m : Nat) (V : Nat → Nat → Nat) (w : World) (hV : ∀ i c, V i c ≤ 255) (hm : m < 2000000) (hb : Blk w b (numI m0 g)) (hbv : Blk w bv (vecsC m V)) :
    CallsR Try.prog 33 #[.agg (tenC p n i o (.slice (some ⟨b, 0, none⟩) m0 m0)), .slice (some ⟨bv, 0, none⟩) (m) (cv)] w (fun res _ => res = .bool (decide (VecsP p n m V))) := by
  refine calls_fr [.agg (tenC p n i o (.slice (some ⟨b, 0, none⟩) m0 m0)), .slice (some ⟨bv, 0, none⟩) (m) (cv)] Try.func33 rfl Try.ntmps33 rfl fun a hF => ?_
  have hM : Mem w w [none, none] [(b, numI m0 g), (bv, vecsC m V)] := MemX.startD w 2 _ (startD2 hb hbv)
  change Fr 22 a [(0, .agg (tenC p n i o (.slice (some ⟨b, 0, none⟩) m0 m0))), (1, .slice (some ⟨bv, 0, none⟩) (m) (cv))] at hF
  refine sq ?_
  refine wp_region_lit ?_
  refine stR hF (d_box 0 hM hF rfl) rfl ?_
  rintro _ w' a ⟨b1, rfl, hM, -⟩ hF
  change Mem w w' [some (b1, tenC p n i o (.slice (some ⟨b, 0, none⟩) m0 m0)), none] [(b, numI m0 g), (bv, vecsC m V)] at hM
  refine st hF (g_assign hF rfl) rfl fun a hF => ?_
  refine wpList_nil ?_
  refine tN ?_
  refine sq ?_
  refine sq ?_
  refine wp_region_lit ?_
  refine st hF (g_move hF rfl) rfl fun a hF => st hF (g_len ty_us_37 hF rfl) rfl fun a hF => st hF (g_move hF rfl) rfl fun a hF => ?_
  refine wpList_nil ?_
  refine tN ?_
  refine wp_block ?_
  change Mem w _ [some (b1, tenC p n i o (.slice (some ⟨b, 0, none⟩) m0 m0)), none] [(b, numI m0 g), (bv, vecsC m V)] at hM
  refine c_loop (fun (kk : Nat) a w' => kk ≤ m ∧ (∀ i, i < kk → okV p n (V i)) ∧ Fr 22 a [(2, ptr b1 (0)), (7, .slice (some ⟨bv, 0, none⟩) (m) (cv)), (8, .int .i64 (((m : Nat) : Int))), (9, .int .i64 (((kk : Nat) : Int)))] ∧ Mem w w' [some (b1, tenC p n i o (.slice (some ⟨b, 0, none⟩) m0 m0)), none] [(b, numI m0 g), (bv, vecsC m V)]) (fun kk => m - kk) 0 ?_ ?_
  ·
   refine ⟨by omega, fun i hi => absurd hi (by omega), hF.sub _ (by repeat' constructor), ?_⟩
   exact hM
  ·
   clear hF hM
   rintro gi a w' ⟨hgi, hinv1, hF, hM⟩
   have hv : ∀ c, V gi c ≤ 255 := hV gi
   refine sq ?_
   refine wp_region_lit ?_
   refine st hF (g_lss hF rfl rfl) rfl fun a hF => ?_
   refine wpList_nil ?_
   refine tN ?_
   refine sq ?_
   refine c_cond hF rfl (fun h2 => ?_) (fun h2 => ?_)
   ·
    refine wp_skip ?_
    refine tN ?_
    refine sq ?_
    refine wp_block ?_
    refine sq ?_
    refine wp_region_lit ?_
    refine st hF (g_indexSl (i := gi) ty_sl_37 hF rfl rfl rfl (by omega)) rfl fun a hF => st hF (g_loadAgg ty_ag_51 hF rfl (hM.fzm (b := bv) (cs := vecsC m V) (by simp)) (by rw [vecsC_size]; omega) (vecsC_row (gi) (by omega) (by omega) (by omega))) rfl fun a hF => ?_
    refine stR hF (d_alloc 1 hM ty_ze_51) rfl ?_
    rintro _ w' a ⟨b3, rfl, hM, -⟩ hF
    change Mem w w' [some (b1, tenC p n i o (.slice (some ⟨b, 0, none⟩) m0 m0)), some (b3, fnC 6 (fun _ => .int .u8 (0)))] [(b, numI m0 g), (bv, vecsC m V)] at hM
    refine stN hF (d_storeAgg 1 hM rfl ty_sz_51 hF rfl rfl (by first | exact vecC_one | exact cells_one | (refine fnC_one fun _ _ => ?_; first | rfl | (split <;> rfl))) (by simp only [fnC_size, cells_size, vecC_size, tabC_size, planeC_size, tenC_size, smC_size, numC_size, numI_size, vecsC_size]) (by simp only [fnC_size, cells_size, vecC_size, tabC_size, planeC_size, tenC_size, smC_size, numC_size, numI_size, vecsC_size] <;> omega) (splice_whole _ _ (by simp only [fnC_size, cells_size, vecC_size, tabC_size, planeC_size, tenC_size, smC_size, numC_size, numI_size, vecsC_size]))) ?_
    intro _ w' a hM hF
    change Mem w w' [some (b1, tenC p n i o (.slice (some ⟨b, 0, none⟩) m0 m0)), some (b3, vecC (V (gi)))] [(b, numI m0 g), (bv, vecsC m V)] at hM
    refine wpList_nil ?_
    refine tN ?_
    refine sq ?_
    refine wp_region_lit ?_
    refine st hF (g_fieldAddr ty_fo_24_0 hF rfl) rfl fun a hF => st hF (g_load ty_on_2 hF rfl (hM.row 0 rfl) (tenC_0 (by omega))) rfl fun a hF => st hF (g_fieldAddr ty_fo_24_1 hF rfl) rfl fun a hF => st hF (g_load ty_on_2 hF rfl (hM.row 0 rfl) (tenC_1 (by omega))) rfl fun a hF => st hF (g_buildP hF (build2 hF rfl rfl) (fun w => ty_ba_72 _ _ w)) rfl fun a hF => st hF (g_loadAgg ty_ag_51 hF rfl (hM.row 1 rfl) (by simp only [fnC_size, cells_size, vecC_size, tabC_size, planeC_size, tenC_size, smC_size, numC_size, numI_size, vecsC_size] <;> omega) (whole (by simp only [fnC_size, cells_size, vecC_size, tabC_size, planeC_size, tenC_size, smC_size, numC_size, numI_size, vecsC_size]))) rfl fun a hF => ?_
    refine stR hF (d_call Try.call45 hF (.cons rfl (.cons rfl .nil)) (isVector_ok p n (fun _ _ _ => 0) (fun _ => 0) (V (gi)) _ hv)) rfl ?_
    rintro _ w' a ⟨hx, rfl⟩ hF
    have hM := hM.ext hx
    refine st hF (g_notP hF rfl) rfl fun a hF => ?_
    refine wpList_nil ?_
    refine tN ?_
    refine c_cond hF rfl (fun h4 => ?_) (fun h4 => ?_)
    ·
     refine sq ?_
     refine wp_region_lit ?_
     refine st hF (g_assign hF rfl) rfl fun a hF => ?_
     refine wpList_nil ?_
     refine tN ?_
     refine wp_ret ?_
     refine iR ?_
     refine tR ?_
     refine tR ?_
     refine iR ?_
     refine tR ?_
     refine fin1 rfl hF.defers (res_tmp hF rfl) ⟨_, rfl, hM.below, ?_⟩
     show _ = _
     exact bool_f (fun hq => (by assumption : ¬ okV p n (V gi)) (hq gi (by omega)))
    ·
     refine wp_skip ?_
     refine iN ?_
     refine tN ?_
     refine wp_region_lit ?_
     refine st hF (g_add hF rfl rfl (add_nat (gi) (1) (by omega))) rfl fun a hF => st hF (g_move hF rfl) rfl fun a hF => ?_
     refine wpList_nil ?_
     refine tN ?_
     have hM := hM.drop 1
     refine ⟨gi + 1, ⟨by omega, allS hinv1 (Decidable.not_not.1 (by assumption)), hF.sub _ (by repeat' constructor), ?_⟩, by omega⟩
     exact hM
   ·
    obtain rfl : m = gi := by omega
    refine wp_exit ?_
    refine tX ?_
    refine tX ?_
    refine ib_same ?_
    refine tN ?_
    refine sq ?_
    refine wp_region_lit ?_
    refine st hF (g_assign hF rfl) rfl fun a hF => ?_
    refine wpList_nil ?_
    refine tN ?_
    refine wp_ret ?_
    refine fin1 rfl hF.defers (res_tmp hF rfl) ⟨_, rfl, hM.below, ?_⟩
    show _ = _
    exact bool_t hinv1

theorem ValueI_A (p n i o : Int) (b m0 : Nat) (g : Nat → Int) (bv cv m : Nat) (V : Nat → Nat → Nat) (w : World) (hV : ∀ i c, V i c ≤ 255) (hm0 : m0 < 10000000) (hm : m < 2000000) (hb : Blk w b (numI m0 g)) (hbv : Blk w bv (vecsC m V)) (hAB : ¬ (TenP p n i o m0 g ∧ VecsP p n m V)) :
    CallsR Try.prog 15 #[.agg (tenC p n i o (.slice (some ⟨b, 0, none⟩) m0 m0)), .slice (some ⟨bv, 0, none⟩) (m) (cv)] w (fun res _ => res = .tuple #[.slice none 0 0, .int .i64 1]) := by
  refine calls_fr [.agg (tenC p n i o (.slice (some ⟨b, 0, none⟩) m0 m0)), .slice (some ⟨bv, 0, none⟩) (m) (cv)] Try.func15 rfl Try.ntmps15 rfl fun a hF => ?_
  have hM : Mem w w [none, none, none, none] [(b, numI m0 g), (bv, vecsC m V)] := MemX.startD w 4 _ (startD2 hb hbv)
  change Fr 70 a [(0, .agg (tenC p n i o (.slice (some ⟨b, 0, none⟩) m0 m0))), (1, .slice (some ⟨bv, 0, none⟩) (m) (cv))] at hF
  refine sq ?_
  refine wp_region_lit ?_
  refine stR hF (d_box 0 hM hF rfl) rfl ?_
  rintro _ w' a ⟨b1, rfl, hM, -⟩ hF
  change Mem w w' [some (b1, tenC p n i o (.slice (some ⟨b, 0, none⟩) m0 m0)), none, none, none] [(b, numI m0 g), (bv, vecsC m V)] at hM
  refine stR hF (d_box 1 hM hF rfl) rfl ?_
  rintro _ w' a ⟨b2, rfl, hM, -⟩ hF
  change Mem w w' [some (b1, tenC p n i o (.slice (some ⟨b, 0, none⟩) m0 m0)), some (b2, #[.slice (some ⟨bv, 0, none⟩) (m) (cv)]), none, none] [(b, numI m0 g), (bv, vecsC m V)] at hM
  refine st hF (g_assign hF rfl) rfl fun a hF => st hF (g_assign hF rfl) rfl fun a hF => ?_
  refine wpList_nil ?_
  refine tN ?_
  refine sq ?_
  refine sq ?_
  refine wp_region_lit ?_
  refine st hF (g_loadAgg ty_ag_24 hF rfl (hM.row 0 rfl) (by simp only [fnC_size, cells_size, vecC_size, tabC_size, planeC_size, tenC_size, smC_size, numC_size, numI_size, vecsC_size] <;> omega) (whole rfl)) rfl fun a hF => ?_
  refine stR hF (d_call Try.call32 hF (.cons rfl .nil) (IsTensor_ok p n i o b m0 g _ (hM.fz 0 rfl) (by omega))) rfl ?_
  rintro _ w' a ⟨hx, rfl⟩ hF
  have hM := hM.ext hx
  refine st hF (g_notP hF rfl) rfl fun a hF => st hF (g_move hF rfl) rfl fun a hF => ?_
  by_cases g3 : ¬ (TenP p n i o m0 g)
  ·
   first | rw [decide_eq_true g3] at hF | simp only [decide_eq_true g3] at hF
   refine stS hF rfl rfl rfl rfl rfl fun a hF => stS hF rfl rfl rfl rfl rfl fun a hF => stS hF rfl rfl rfl rfl rfl fun a hF => stS hF rfl rfl rfl rfl rfl fun a hF => st hF (g_pickT hF rfl rfl) rfl fun a hF => ?_
   refine wpList_nil ?_
   refine tN ?_
   refine c_T hF rfl ?_
   refine sq ?_
   refine wp_region_lit ?_
   refine st hF (g_assign hF rfl) rfl fun a hF => st hF (g_assign hF rfl) rfl fun a hF => ?_
   refine wpList_nil ?_
   refine tN ?_
   refine wp_ret ?_
   refine tR ?_
   refine fin2 rfl hF.defers (res_tmp hF rfl) (res_tmp hF rfl) ⟨_, rfl, hM.below, ?_⟩
   show _ = _
   rfl
  ·
   first | rw [decide_eq_false g3] at hF | simp only [decide_eq_false g3] at hF
   refine stY hF rfl rfl rfl (g_loadAgg ty_ag_24 hF rfl (hM.row 0 rfl) (by simp only [fnC_size, cells_size, vecC_size, tabC_size, planeC_size, tenC_size, smC_size, numC_size, numI_size, vecsC_size] <;> omega) (whole rfl)) rfl fun a hF => stY hF rfl rfl rfl (g_load ty_on_37 hF rfl (hM.row 1 rfl) rfl) rfl fun a hF => ?_
   refine stYR hF rfl rfl rfl (d_call Try.call33 hF (.cons rfl (.cons rfl .nil)) (haveNumbersFor_ok p n i o b m0 g bv cv (m) V _ hV (by omega) (hM.fz 0 rfl) (hM.fzm (by simp)))) rfl ?_
   rintro _ w' a ⟨hx, rfl⟩ hF
   have hM := hM.ext hx
   refine stY hF rfl rfl rfl (g_notP hF rfl) rfl fun a hF => st hF (g_pickF hF rfl rfl) rfl fun a hF => ?_
   refine wpList_nil ?_
   refine tN ?_
   refine c_cond hF rfl (fun h5 => ?_) (fun h5 => ?_)
   ·
    refine sq ?_
    refine wp_region_lit ?_
    refine st hF (g_assign hF rfl) rfl fun a hF => st hF (g_assign hF rfl) rfl fun a hF => ?_
    refine wpList_nil ?_
    refine tN ?_
    refine wp_ret ?_
    refine tR ?_
    refine fin2 rfl hF.defers (res_tmp hF rfl) (res_tmp hF rfl) ⟨_, rfl, hM.below, ?_⟩
    show _ = _
    rfl
   ·
    exact absurd ⟨Decidable.not_not.1 (by assumption), Decidable.not_not.1 h5⟩ hAB

theorem ValueI_R (p n i o : Int) (b m0 : Nat) (g : Nat → Int) (bv cv m : Nat) (V : Nat → Nat → Nat) (w : World) (hV : ∀ i c, V i c ≤ 255) (hm0 : m0 < 10000000) (hm : m < 2000000) (hb : Blk w b (numI m0 g)) (hbv : Blk w bv (vecsC m V)) (hT : TenP p n i o m0 g) (hvs : VecsP p n m V) (hR : ¬ (m : Int) = i) :
    CallsR Try.prog 15 #[.agg (tenC p n i o (.slice (some ⟨b, 0, none⟩) m0 m0)), .slice (some ⟨bv, 0, none⟩) (m) (cv)] w (fun res _ => res = .tuple #[.slice none 0 0, .int .i64 2]) := by
  refine calls_fr [.agg (tenC p n i o (.slice (some ⟨b, 0, none⟩) m0 m0)), .slice (some ⟨bv, 0, none⟩) (m) (cv)] Try.func15 rfl Try.ntmps15 rfl fun a hF => ?_
  have hM : Mem w w [none, none, none, none] [(b, numI m0 g), (bv, vecsC m V)] := MemX.startD w 4 _ (startD2 hb hbv)
  change Fr 70 a [(0, .agg (tenC p n i o (.slice (some ⟨b, 0, none⟩) m0 m0))), (1, .slice (some ⟨bv, 0, none⟩) (m) (cv))] at hF
  refine sq ?_
  refine wp_region_lit ?_
  refine stR hF (d_box 0 hM hF rfl) rfl ?_
  rintro _ w' a ⟨b1, rfl, hM, -⟩ hF
  change Mem w w' [some (b1, tenC p n i o (.slice (some ⟨b, 0, none⟩) m0 m0)), none, none, none] [(b, numI m0 g), (bv, vecsC m V)] at hM
  refine stR hF (d_box 1 hM hF rfl) rfl ?_
  rintro _ w' a ⟨b2, rfl, hM, -⟩ hF
  change Mem w w' [some (b1, tenC p n i o (.slice (some ⟨b, 0, none⟩) m0 m0)), some (b2, #[.slice (some ⟨bv, 0, none⟩) (m) (cv)]), none, none] [(b, numI m0 g), (bv, vecsC m V)] at hM
  refine st hF (g_assign hF rfl) rfl fun a hF => st hF (g_assign hF rfl) rfl fun a hF => ?_
  refine wpList_nil ?_
  refine tN ?_
  refine sq ?_
  refine sq ?_
  refine wp_region_lit ?_
  refine st hF (g_loadAgg ty_ag_24 hF rfl (hM.row 0 rfl) (by simp only [fnC_size, cells_size, vecC_size, tabC_size, planeC_size, tenC_size, smC_size, numC_size, numI_size, vecsC_size] <;> omega) (whole rfl)) rfl fun a hF => ?_
  refine stR hF (d_call Try.call32 hF (.cons rfl .nil) ((CallsR.val (IsTensor_ok p n i o b m0 g _ (hM.fz 0 rfl) (by omega)) (congrArg Value.bool (decide_eq_true hT))))) rfl ?_
  rintro _ w' a ⟨hx, rfl⟩ hF
  have hM := hM.ext hx
  refine st hF (g_not hF rfl) rfl fun a hF => st hF (g_move hF rfl) rfl fun a hF => stY hF rfl rfl rfl (g_loadAgg ty_ag_24 hF rfl (hM.row 0 rfl) (by simp only [fnC_size, cells_size, vecC_size, tabC_size, planeC_size, tenC_size, smC_size, numC_size, numI_size, vecsC_size] <;> omega) (whole rfl)) rfl fun a hF => stY hF rfl rfl rfl (g_load ty_on_37 hF rfl (hM.row 1 rfl) rfl) rfl fun a hF => ?_
  refine stYR hF rfl rfl rfl (d_call Try.call33 hF (.cons rfl (.cons rfl .nil)) ((CallsR.val (haveNumbersFor_ok p n i o b m0 g bv cv (m) V _ hV (by omega) (hM.fz 0 rfl) (hM.fzm (by simp))) (congrArg Value.bool (decide_eq_true hvs))))) rfl ?_
  rintro _ w' a ⟨hx, rfl⟩ hF
  have hM := hM.ext hx
  refine stY hF rfl rfl rfl (g_not hF rfl) rfl fun a hF => st hF (g_pickF hF rfl rfl) rfl fun a hF => ?_
  refine wpList_nil ?_
  refine tN ?_
  refine c_Fl hF rfl ?_
  refine wp_skip ?_
  refine tN ?_
  refine sq ?_
  refine sq ?_
  refine wp_region_lit ?_
  refine st hF (g_load ty_on_37 hF rfl (hM.row 1 rfl) rfl) rfl fun a hF => st hF (g_len ty_us_37 hF rfl) rfl fun a hF => st hF (g_fieldAddr ty_fo_24_2 hF rfl) rfl fun a hF => st hF (g_load ty_on_2 hF rfl (hM.row 0 rfl) (tenC_2 (by omega))) rfl fun a hF => st hF (g_neq hF rfl rfl) rfl fun a hF => ?_
  refine wpList_nil ?_
  refine tN ?_
  refine c_cond hF rfl (fun h4 => ?_) (fun h4 => ?_)
  ·
   refine sq ?_
   refine wp_region_lit ?_
   refine st hF (g_assign hF rfl) rfl fun a hF => st hF (g_assign hF rfl) rfl fun a hF => ?_
   refine wpList_nil ?_
   refine tN ?_
   refine wp_ret ?_
   refine tR ?_
   refine fin2 rfl hF.defers (res_tmp hF rfl) (res_tmp hF rfl) ⟨_, rfl, hM.below, ?_⟩
   show _ = _
   rfl
  ·
   exfalso; omega

theorem numC_noslice {m j : Nat} {f : Nat → Nat} {cs : Array Value} {ad : Option Addr} {l c : Nat} (h : cs = numC m f) (hj : cs[j]? = some (.slice ad l c)) : False := by
  rw [h] at hj
  by_cases e : j < m
  · rw [numC_get (k := j) rfl e] at hj; cases hj
  · unfold numC at hj
    rw [Array.getElem?_eq_none (by rw [fnC_size]; omega)] at hj; cases hj
theorem idx_bdV {n i o a : Nat} (h : a < n ^ i) : a * n ^ o + n ^ o ≤ n ^ (i + o) := by
  rw [Nat.pow_add, ← Nat.succ_mul]; exact Nat.mul_le_mul_right _ h

set_option maxRecDepth 100000 in
theorem ValueI_V (p n i o b : Nat) (f : Nat → Nat) (bv cv : Nat) (V : Nat → Nat → Nat) (w : World) (hpP : primeP (p : Int)) (hn0 : 0 < n) (hn : n ≤ 6) (hw : wl n i o) (hfp : ∀ c, f c < p) (hV : ∀ i c, V i c ≤ 255) (hvs : VecsP (p : Int) (n : Int) i V) (hb : Blk w b (numC (n ^ (i + o)) f)) (hbv : Blk w bv (vecsC i V)) :
    CallsR Try.prog 15 #[.agg (tenC (p : Int) (n : Int) (i : Int) (o : Int) (.slice (some ⟨b, 0, none⟩) (n ^ (i + o)) (n ^ (i + o)))), .slice (some ⟨bv, 0, none⟩) (i) (cv)] w (fun v w' => ∃ br, v = .tuple #[.slice (some ⟨br, 0, none⟩) (n ^ o) (n ^ o), .int .i64 0] ∧ w.heap.size ≤ br ∧ Blk w' br (numC (n ^ o) (valV p n i (n ^ o) V f (n ^ i)))) := by
  refine Rw.calls_frM [.agg (tenC (p : Int) (n : Int) (i : Int) (o : Int) (.slice (some ⟨b, 0, none⟩) (n ^ (i + o)) (n ^ (i + o)))), .slice (some ⟨bv, 0, none⟩) (i) (cv)] Try.func15 rfl Try.ntmps15 rfl fun a hF => ?_
  have hM : Mem w w [none, none, none, none] [(b, numC (n ^ (i + o)) f), (bv, vecsC i V)] := MemX.startD w 4 _ (startD2 hb hbv)
  change Fr 70 a [(0, .agg (tenC (p : Int) (n : Int) (i : Int) (o : Int) (.slice (some ⟨b, 0, none⟩) (n ^ (i + o)) (n ^ (i + o))))), (1, .slice (some ⟨bv, 0, none⟩) (i) (cv))] at hF
  have hp0 : 0 < p := by have h := hpP; unfold primeP at h; omega
  have hp2 : p < 100 := by have h := hpP; unfold primeP at h; omega
  have hw3 := hw.2.2
  have hw1 := hw.1
  have hw2 := hw.2.1
  have hT := TenP.of_nat hpP hn0 hn hw rfl hfp
  have hW := pow_one_le (k := o) hn0
  have hWl : n ^ o ≤ n ^ (i + o) := Nat.pow_le_pow_right hn0 (by omega)
  have hRl : n ^ i ≤ n ^ (i + o) := Nat.pow_le_pow_right hn0 (by omega)
  have hp1 : 1 < p := by have h := hpP; unfold primeP at h; omega
  have hDlt : ∀ c ds, (c, ds) ∈ ([(b, numC (n ^ (i + o)) f), (bv, vecsC i V)] : Froz) → c < w.heap.size := fun c ds hc => (startD2 hb hbv c ds hc).lt
  refine sq ?_
  refine wp_region_lit ?_
  refine stR hF (d_box 0 hM hF rfl) rfl ?_
  rintro _ w' a ⟨b1, rfl, hM, -⟩ hF
  change Mem w w' [some (b1, tenC (p : Int) (n : Int) (i : Int) (o : Int) (.slice (some ⟨b, 0, none⟩) (n ^ (i + o)) (n ^ (i + o)))), none, none, none] [(b, numC (n ^ (i + o)) f), (bv, vecsC i V)] at hM
  refine stR hF (d_box 1 hM hF rfl) rfl ?_
  rintro _ w' a ⟨b2, rfl, hM, -⟩ hF
  change Mem w w' [some (b1, tenC (p : Int) (n : Int) (i : Int) (o : Int) (.slice (some ⟨b, 0, none⟩) (n ^ (i + o)) (n ^ (i + o)))), some (b2, #[.slice (some ⟨bv, 0, none⟩) (i) (cv)]), none, none] [(b, numC (n ^ (i + o)) f), (bv, vecsC i V)] at hM
  refine st hF (g_assign hF rfl) rfl fun a hF => st hF (g_assign hF rfl) rfl fun a hF => ?_
  refine wpList_nil ?_
  refine tN ?_
  refine sq ?_
  refine sq ?_
  refine wp_region_lit ?_
  refine st hF (g_loadAgg ty_ag_24 hF rfl (hM.row 0 rfl) (by simp only [fnC_size, cells_size, vecC_size, tabC_size, planeC_size, tenC_size, smC_size, numC_size, numI_size, vecsC_size] <;> omega) (whole rfl)) rfl fun a hF => ?_
  refine stR hF (d_call Try.call32 hF (.cons rfl .nil) ((CallsR.val (IsTensor_ok (p : Int) (n : Int) (i : Int) (o : Int) b (n ^ (i + o)) (fun c => ((f c : Nat) : Int)) _ (hM.fz 0 rfl) (by omega)) (congrArg Value.bool (decide_eq_true hT))))) rfl ?_
  rintro _ w' a ⟨hx, rfl⟩ hF
  have hM := hM.ext hx
  refine st hF (g_not hF rfl) rfl fun a hF => st hF (g_move hF rfl) rfl fun a hF => stY hF rfl rfl rfl (g_loadAgg ty_ag_24 hF rfl (hM.row 0 rfl) (by simp only [fnC_size, cells_size, vecC_size, tabC_size, planeC_size, tenC_size, smC_size, numC_size, numI_size, vecsC_size] <;> omega) (whole rfl)) rfl fun a hF => stY hF rfl rfl rfl (g_load ty_on_37 hF rfl (hM.row 1 rfl) rfl) rfl fun a hF => ?_
  refine stYR hF rfl rfl rfl (d_call Try.call33 hF (.cons rfl (.cons rfl .nil)) ((CallsR.val (haveNumbersFor_ok (p : Int) (n : Int) (i : Int) (o : Int) b (n ^ (i + o)) (fun c => ((f c : Nat) : Int)) bv cv (i) V _ hV (by omega) (hM.fz 0 rfl) (hM.fzm (by simp))) (congrArg Value.bool (decide_eq_true hvs))))) rfl ?_
  rintro _ w' a ⟨hx, rfl⟩ hF
  have hM := hM.ext hx
  refine stY hF rfl rfl rfl (g_not hF rfl) rfl fun a hF => st hF (g_pickF hF rfl rfl) rfl fun a hF => ?_
  refine wpList_nil ?_
  refine tN ?_
  refine c_Fl hF rfl ?_
  refine wp_skip ?_
  refine tN ?_
  refine sq ?_
  refine sq ?_
  refine wp_region_lit ?_
  refine st hF (g_load ty_on_37 hF rfl (hM.row 1 rfl) rfl) rfl fun a hF => st hF (g_len ty_us_37 hF rfl) rfl fun a hF => st hF (g_fieldAddr ty_fo_24_2 hF rfl) rfl fun a hF => st hF (g_load ty_on_2 hF rfl (hM.row 0 rfl) (tenC_2 (by omega))) rfl fun a hF => st hF (g_neq hF rfl rfl) rfl fun a hF => ?_
  refine wpList_nil ?_
  refine tN ?_
  refine c_cond hF rfl (fun h4 => ?_) (fun h4 => ?_)
  ·
   first | exact absurd rfl h4 | (exfalso; omega)
  ·
   refine wp_skip ?_
   refine tN ?_
   refine sq ?_
   have hMr := hM
   refine c_par 10 [3] [.val (ptr b1 (0 + 0)), .val (.int .i64 (((p : Nat) : Int))), .val (ptr b1 (0 + 1)), .val (.int .i64 (((n : Nat) : Int))), .val (ptr b1 (0 + 3)), .val (.int .i64 (((o : Nat) : Int))), .val (.int .i64 ((((n) ^ (o) : Nat) : Int))), .rel (fun u w2 => NewNum w w2 (n ^ o) u), .rel (fun u w2 => NewSm w w2 (p : Int) (n ^ o) u), .own 3 (smC 0 (.slice none 0 0)) (fun b => ptr b 0)] hmix rfl hF rfl hM ⟨fun a w2 gG hF hS hd => by exact par_val hS rfl (g_fieldAddr ty_fo_24_0 hF rfl), fun a w2 gG hF hS hd => by have hF := hF.ext1 26 (hd 0 rfl rfl); have hM := hS.mem rfl; exact par_val hS rfl (g_load ty_on_2 hF rfl (hM.row 0 rfl) (tenC_0 (by omega))), fun a w2 gG hF hS hd => by exact par_val hS rfl (g_fieldAddr ty_fo_24_1 hF rfl), fun a w2 gG hF hS hd => by have hF := hF.ext1 28 (hd 2 rfl rfl); have hM := hS.mem rfl; exact par_val hS rfl (g_load ty_on_2 hF rfl (hM.row 0 rfl) (tenC_1 (by omega))), fun a w2 gG hF hS hd => by exact par_val hS rfl (g_fieldAddr ty_fo_24_3 hF rfl), fun a w2 gG hF hS hd => by have hF := hF.ext1 30 (hd 4 rfl rfl); have hM := hS.mem rfl; exact par_val hS rfl (g_load ty_on_2 hF rfl (hM.row 0 rfl) (tenC_3 (by omega))), fun a w2 gG hF hS hd => by have hF := hF.ext1 29 (hd 3 rfl rfl); have hF := hF.ext1 31 (hd 5 rfl rfl); exact par_call (by exact ⟨fun _ _ _ h hx => h.last hx, ⟨fun _ _ _ h hx => h.last hx, trivial⟩⟩) hS rfl (d_call Try.call34 hF (.cons rfl (.cons rfl .nil)) (countChoices_ok (n) (o) _ (by omega) (by omega))), fun a w2 gG hF hS hd => by have hF := hF.ext1 32 (hd 6 rfl rfl); have hM := hS.mem rfl; exact par_rel (by exact ⟨fun _ _ _ h hx => h.last hx, ⟨fun _ _ _ h hx => h.last hx, trivial⟩⟩) hS rfl (d_makeR (len := n ^ o) hF ty_si_22 rfl rfl (by omega) (by decide)) (fun _ _ hr => NewNum.mono hr hM.bel.size), fun a w2 gG hF hS hd => by have hF := hF.ext1 27 (hd 1 rfl rfl); obtain ⟨bq, hbq, hgq, hkq⟩ := hd 7 rfl rfl; have hF := hF.ext1 33 hbq; exact par_relG hS rfl (g_buildP hF (build2 hF rfl rfl) (fun w => ty_bs_58 _ _ _ _ w)) ⟨bq, rfl, hgq, hkq⟩, fun a w2 gG hF hS hd => by exact par_own (by exact ⟨fun _ _ _ h hx => h.last hx, ⟨fun _ _ _ h hx => h.last hx, trivial⟩⟩) hS rfl rfl rfl rfl (d_alloc 3 hS.1 ty_ze_58), trivial⟩ ?_
   intro a w' L hF hS hq
   obtain ⟨b5, hv8, hg5, hk5⟩ := (hq 8 rfl rfl : NewSm w w' (p : Int) (n ^ o) _)
   obtain ⟨hM, hL⟩ := hS
   obtain ⟨b6, hptr, hkk⟩ := hq 9 rfl rfl
   have hL := hL.take hkk
   obtain rfl := hL.eq
   have hF := hF.ext1 26 (hq 0 rfl rfl)
   have hF := hF.ext1 27 (hq 1 rfl rfl)
   have hF := hF.ext1 28 (hq 2 rfl rfl)
   have hF := hF.ext1 29 (hq 3 rfl rfl)
   have hF := hF.ext1 30 (hq 4 rfl rfl)
   have hF := hF.ext1 31 (hq 5 rfl rfl)
   have hF := hF.ext1 32 (hq 6 rfl rfl)
   have hF := hF.ext1 34 hv8
   have hF := hF.ext1 6 hptr
   change Mem w w' [some (b1, tenC (p : Int) (n : Int) (i : Int) (o : Int) (.slice (some ⟨b, 0, none⟩) (n ^ (i + o)) (n ^ (i + o)))), some (b2, #[.slice (some ⟨bv, 0, none⟩) (i) (cv)]), none, some (b6, smC 0 (.slice none 0 0))] [(b, numC (n ^ (i + o)) f), (bv, vecsC i V)] at hM
   have hap : ∀ (j : Nat) c ds, ([some (b1, tenC (p : Int) (n : Int) (i : Int) (o : Int) (.slice (some ⟨b, 0, none⟩) (n ^ (i + o)) (n ^ (i + o)))), some (b2, #[.slice (some ⟨bv, 0, none⟩) (i) (cv)]), none, some (b6, smC 0 (.slice none 0 0))] : Own)[j]? = some (some (c, ds)) → c ≠ b5 := fun j c ds hj e => by
     subst e
     have hsame := (hM.blk j c ds hj).2.same hk5
     rcases (by omega : j = 0 ∨ j = 1 ∨ j = 2 ∨ j = 3 ∨ 4 ≤ j) with rfl | rfl | rfl | rfl | h4
     · simp only [List.getElem?_cons_zero, Option.some.injEq, Prod.mk.injEq] at hj; rw [← hj.2] at hsame; exact numC_noslice hsame (j := 4) (by rfl)
     · simp only [List.getElem?_cons_succ, List.getElem?_cons_zero, Option.some.injEq, Prod.mk.injEq] at hj; rw [← hj.2] at hsame; exact numC_noslice hsame (j := 0) (by rfl)
     · simp at hj
     · simp only [List.getElem?_cons_succ, List.getElem?_cons_zero, Option.some.injEq, Prod.mk.injEq] at hj; rw [← hj.2] at hsame; exact numC_noslice hsame (j := 1) (by rfl)
     · obtain ⟨r, rfl⟩ : ∃ r, j = r + 4 := ⟨j - 4, by omega⟩
       simp at hj
   have hM := hM.addBlk 2 hk5 hg5 hap (fun c ds hc e => by
     have h1 := hDlt c ds hc
     omega)
   have hF := hF.sub [(6, ptr b6 (0)), (34, .agg (smC (p : Int) (.slice (some ⟨b5, 0, none⟩) ((n ^ o)) ((n ^ o))))), (32, .int .i64 ((((n) ^ (o) : Nat) : Int))), (31, .int .i64 (((o : Nat) : Int))), (30, ptr b1 (0 + 3)), (29, .int .i64 (((n : Nat) : Int))), (28, ptr b1 (0 + 1)), (27, .int .i64 (((p : Nat) : Int))), (26, ptr b1 (0 + 0)), (0, .agg (tenC (p : Int) (n : Int) (i : Int) (o : Int) (.slice (some ⟨b, 0, none⟩) (n ^ (i + o)) (n ^ (i + o))))), (1, .slice (some ⟨bv, 0, none⟩) (i) (cv)), (2, ptr b1 (0)), (3, ptr b2 (0)), (4, .slice none 0 0), (5, .int .i64 (0)), (12, .agg (tenC (p : Int) (n : Int) (i : Int) (o : Int) (.slice (some ⟨b, 0, none⟩) (n ^ (i + o)) (n ^ (i + o))))), (13, .bool (true)), (14, .bool (false)), (15, .bool (false)), (16, .agg (tenC (p : Int) (n : Int) (i : Int) (o : Int) (.slice (some ⟨b, 0, none⟩) (n ^ (i + o)) (n ^ (i + o))))), (17, .slice (some ⟨bv, 0, none⟩) (i) (cv)), (18, .bool (true)), (19, .bool (false)), (20, .bool (false)), (21, .slice (some ⟨bv, 0, none⟩) (i) (cv)), (22, .int .i64 (((i : Nat) : Int))), (23, ptr b1 (0 + 2)), (24, .int .i64 (((i : Nat) : Int))), (25, .bool (decide ((((i : Nat) : Int) : Int) ≠ ((i : Nat) : Int))))] (by repeat' constructor)
   change Mem w w' [some (b1, tenC (p : Int) (n : Int) (i : Int) (o : Int) (.slice (some ⟨b, 0, none⟩) (n ^ (i + o)) (n ^ (i + o)))), some (b2, #[.slice (some ⟨bv, 0, none⟩) (i) (cv)]), some (b5, numC ((n) ^ (o)) (fun _ => 0)), some (b6, smC 0 (.slice none 0 0))] [(b, numC (n ^ (i + o)) f), (bv, vecsC i V)] at hM
   change wpList Try.prog _ _ [_] _ _
   refine stN hF (d_storeAgg 3 hM rfl ty_sz_58 hF rfl rfl (smC_one rfl) (by simp only [fnC_size, cells_size, vecC_size, tabC_size, planeC_size, tenC_size, smC_size, numC_size, numI_size, vecsC_size]) (by simp only [fnC_size, cells_size, vecC_size, tabC_size, planeC_size, tenC_size, smC_size, numC_size, numI_size, vecsC_size] <;> omega) (splice_whole _ _ (by simp only [fnC_size, cells_size, vecC_size, tabC_size, planeC_size, tenC_size, smC_size, numC_size, numI_size, vecsC_size]))) ?_
   intro _ w' a hM hF
   change Mem w w' [some (b1, tenC (p : Int) (n : Int) (i : Int) (o : Int) (.slice (some ⟨b, 0, none⟩) (n ^ (i + o)) (n ^ (i + o)))), some (b2, #[.slice (some ⟨bv, 0, none⟩) (i) (cv)]), some (b5, numC ((n) ^ (o)) (fun _ => 0)), some (b6, smC (p : Int) (.slice (some ⟨b5, 0, none⟩) ((n ^ o)) ((n ^ o))))] [(b, numC (n ^ (i + o)) f), (bv, vecsC i V)] at hM
   refine wpList_nil ?_
   refine tN ?_
   refine sq ?_
   refine sq ?_
   refine wp_region_lit ?_
   refine st hF (g_fieldAddr ty_fo_24_1 hF rfl) rfl fun a hF => st hF (g_load ty_on_2 hF rfl (hM.row 0 rfl) (tenC_1 (by omega))) rfl fun a hF => st hF (g_fieldAddr ty_fo_24_2 hF rfl) rfl fun a hF => st hF (g_load ty_on_2 hF rfl (hM.row 0 rfl) (tenC_2 (by omega))) rfl fun a hF => ?_
   refine stR hF (d_call Try.call35 hF (.cons rfl (.cons rfl .nil)) (choices_ok (n) (i) _)) rfl ?_
   rintro _ w' a ⟨hx, bs, bl, rfl, hgs, hgl, hcs, hcl⟩ hF
   have hM := hM.addD (D' := [(bs, #[.int .i64 ((n : Nat) : Int)]), (bl, #[.int .i64 ((i : Nat) : Int)])]) hx (fun b cs hm => by
     rcases List.mem_cons.1 hm with e | hm
     · simp only [Prod.mk.injEq] at e; obtain ⟨rfl, rfl⟩ := e; exact ⟨hgs, hcs⟩
     · simp only [List.mem_singleton, Prod.mk.injEq] at hm; obtain ⟨rfl, rfl⟩ := hm; exact ⟨hgl, hcl⟩)
   change Mem w w' [some (b1, tenC (p : Int) (n : Int) (i : Int) (o : Int) (.slice (some ⟨b, 0, none⟩) (n ^ (i + o)) (n ^ (i + o)))), some (b2, #[.slice (some ⟨bv, 0, none⟩) (i) (cv)]), some (b5, numC ((n) ^ (o)) (fun _ => 0)), some (b6, smC (p : Int) (.slice (some ⟨b5, 0, none⟩) ((n ^ o)) ((n ^ o))))] [(bs, #[.int .i64 ((n : Nat) : Int)]), (bl, #[.int .i64 ((i : Nat) : Int)]), (b, numC (n ^ (i + o)) f), (bv, vecsC i V)] at hM
   refine wpList_nil ?_
   refine tN ?_
   refine wp_block ?_
   have hszR := hM.bel.size
   have hM : Mem w _ [some (b1, tenC (p : Int) (n : Int) (i : Int) (o : Int) (.slice (some ⟨b, 0, none⟩) (n ^ (i + o)) (n ^ (i + o)))), some (b2, #[.slice (some ⟨bv, 0, none⟩) (i) (cv)]), some (b5, numC ((n) ^ (o)) (valV p n i (n ^ o) V f (0))), some (b6, smC (p : Int) (.slice (some ⟨b5, 0, none⟩) ((n ^ o)) ((n ^ o))))] [(bs, #[.int .i64 ((n : Nat) : Int)]), (bl, #[.int .i64 ((i : Nat) : Int)]), (b, numC (n ^ (i + o)) f), (bv, vecsC i V)] := hM.rowc 2 rfl (numC_congr fun c hc => rfl)
   refine Rw.c_rangeFn (N := (n) ^ (i)) (arg := Rw.ArgCh (n) (i)) (K := Rw.CapK bs bl (n) (i)) hF.defers (hF.eval rfl) Try.call46 (choicesIt bs bl (n) (i) (by omega) (by omega) (by omega)) ?_ ?_ (fun k W => Mem w W [some (b1, tenC (p : Int) (n : Int) (i : Int) (o : Int) (.slice (some ⟨b, 0, none⟩) (n ^ (i + o)) (n ^ (i + o)))), some (b2, #[.slice (some ⟨bv, 0, none⟩) (i) (cv)]), some (b5, numC ((n) ^ (o)) (valV p n i (n ^ o) V f (k))), some (b6, smC (p : Int) (.slice (some ⟨b5, 0, none⟩) ((n ^ o)) ((n ^ o))))] [(bs, #[.int .i64 ((n : Nat) : Int)]), (bl, #[.int .i64 ((i : Nat) : Int)]), (b, numC (n ^ (i + o)) f), (bv, vecsC i V)]) (fun _ => False) ?_ ?_ ?_ ?_ hM (fun args a1 => ∃ k bn, args = #[.int .i64 ((k : Nat) : Int), .slice (some ⟨bn, 0, none⟩) (i) (i)] ∧ Fr 70 a1 [(8, .slice (some ⟨bn, 0, none⟩) (i) (i)), (7, .int .i64 (((k : Nat) : Int))), (6, ptr b6 (0)), (34, .agg (smC (p : Int) (.slice (some ⟨b5, 0, none⟩) ((n ^ o)) ((n ^ o))))), (32, .int .i64 ((((n) ^ (o) : Nat) : Int))), (31, .int .i64 (((o : Nat) : Int))), (30, ptr b1 (0 + 3)), (29, .int .i64 (((n : Nat) : Int))), (28, ptr b1 (0 + 1)), (27, .int .i64 (((p : Nat) : Int))), (26, ptr b1 (0 + 0)), (0, .agg (tenC (p : Int) (n : Int) (i : Int) (o : Int) (.slice (some ⟨b, 0, none⟩) (n ^ (i + o)) (n ^ (i + o))))), (1, .slice (some ⟨bv, 0, none⟩) (i) (cv)), (2, ptr b1 (0)), (3, ptr b2 (0)), (4, .slice none 0 0), (5, .int .i64 (0)), (12, .agg (tenC (p : Int) (n : Int) (i : Int) (o : Int) (.slice (some ⟨b, 0, none⟩) (n ^ (i + o)) (n ^ (i + o))))), (13, .bool (true)), (14, .bool (false)), (15, .bool (false)), (16, .agg (tenC (p : Int) (n : Int) (i : Int) (o : Int) (.slice (some ⟨b, 0, none⟩) (n ^ (i + o)) (n ^ (i + o))))), (17, .slice (some ⟨bv, 0, none⟩) (i) (cv)), (18, .bool (true)), (19, .bool (false)), (20, .bool (false)), (21, .slice (some ⟨bv, 0, none⟩) (i) (cv)), (22, .int .i64 (((i : Nat) : Int))), (23, ptr b1 (0 + 2)), (24, .int .i64 (((i : Nat) : Int))), (25, .bool (decide ((((i : Nat) : Int) : Int) ≠ ((i : Nat) : Int)))), (35, ptr b1 (0 + 1)), (36, .int .i64 (((n : Nat) : Int))), (37, ptr b1 (0 + 2)), (38, .int .i64 (((i : Nat) : Int))), (39, .func (.func 46) #[] #[ptr bs 0, ptr bl 0])]) ?_ ?_ ?_ ?_
   · rintro k A B args ⟨bn, rfl, _, _⟩; rfl
   · exact fun k A B args l o o' h hA hB => Rw.argCh_put A B args l o o' h hB
   · exact fun _ _ _ h hx => h.ext hx
   · exact fun _ _ _ _ o' hge h hl => Rw.mem_put h o' hl (fun _ _ e => by cases e) (Nat.le_trans hszR hge)
   · exact fun _ _ _ _ _ h _ => h.elim
   · exact fun _ _ h => ⟨h.fzm (by simp), h.fzm (by simp)⟩
   ·
    rintro l k A B args K ⟨bn, rfl, hgebn, hbn⟩ hK
    have hF := Rw.round2 (p := 40) (q := 41) (u := .int .i64 ((k : Nat) : Int)) (v := .slice (some ⟨bn, 0, none⟩) (i) (i)) hF rfl rfl
    refine Rw.sq ?_
    refine Rw.wp_region_lit ?_
    refine st hF (g_assign hF rfl) rfl fun a hF => ?_
    refine wpList_nil ?_
    refine tN ?_
    refine Rw.wp_region_lit ?_
    refine st hF (g_assign hF rfl) rfl fun a hF => ?_
    refine wpList_nil ?_
    refine tN ?_
    exact hK _ ⟨k, bn, rfl, hF.sub _ (by repeat' constructor)⟩
   ·
    rintro l gk A w args a hgk hA hxA ⟨bn, rfl, hgebn, hbn⟩ ⟨k', bn', he, hF⟩
    obtain ⟨rfl, rfl⟩ := Rw.args_inj he
    clear he
    have hA2 := hA.addD (D' := [(bn, numC (i) (Rw.digF (n) (i) gk))]) hxA (fun b cs hm => by simp only [List.mem_singleton, Prod.mk.injEq] at hm; obtain ⟨rfl, rfl⟩ := hm; exact ⟨hgebn, hbn⟩)
    have hM := Rw.rebase hA2
    change MemX (Rw.blks [some (b1, tenC (p : Int) (n : Int) (i : Int) (o : Int) (.slice (some ⟨b, 0, none⟩) (n ^ (i + o)) (n ^ (i + o)))), some (b2, #[.slice (some ⟨bv, 0, none⟩) (i) (cv)]), some (b5, numC ((n) ^ (o)) (valV p n i (n ^ o) V f (gk))), some (b6, smC (p : Int) (.slice (some ⟨b5, 0, none⟩) ((n ^ o)) ((n ^ o))))]) w w [some (b1, tenC (p : Int) (n : Int) (i : Int) (o : Int) (.slice (some ⟨b, 0, none⟩) (n ^ (i + o)) (n ^ (i + o)))), some (b2, #[.slice (some ⟨bv, 0, none⟩) (i) (cv)]), some (b5, numC ((n) ^ (o)) (valV p n i (n ^ o) V f (gk))), some (b6, smC (p : Int) (.slice (some ⟨b5, 0, none⟩) ((n ^ o)) ((n ^ o))))] [(bn, numC (i) (Rw.digF (n) (i) gk)), (bs, #[.int .i64 ((n : Nat) : Int)]), (bl, #[.int .i64 ((i : Nat) : Int)]), (b, numC (n ^ (i + o)) f), (bv, vecsC i V)] at hM
    have hdg : ∀ c, Rw.digF n i gk c < n := fun c => Rw.digF_lt hn0
    have hr1 : gk * n ^ o + n ^ o ≤ n ^ (i + o) := idx_bdV hgk
    refine Rw.wp_block ?_
    refine Rw.sq ?_
    refine Rw.wp_region_lit ?_
    refine st hF (g_assign hF rfl) rfl fun a hF => ?_
    refine wpList_nil ?_
    refine tN ?_
    refine Rw.sq ?_
    refine Rw.sq ?_
    refine Rw.wp_region_lit ?_
    refine st hF (g_move hF rfl) rfl fun a hF => st hF (g_len ty_us_22 hF rfl) rfl fun a hF => st hF (g_move hF rfl) rfl fun a hF => ?_
    refine wpList_nil ?_
    refine tN ?_
    refine Rw.wp_block ?_
    change MemX (Rw.blks [some (b1, tenC (p : Int) (n : Int) (i : Int) (o : Int) (.slice (some ⟨b, 0, none⟩) (n ^ (i + o)) (n ^ (i + o)))), some (b2, #[.slice (some ⟨bv, 0, none⟩) (i) (cv)]), some (b5, numC ((n) ^ (o)) (valV p n i (n ^ o) V f (gk))), some (b6, smC (p : Int) (.slice (some ⟨b5, 0, none⟩) ((n ^ o)) ((n ^ o))))]) w _ [some (b1, tenC (p : Int) (n : Int) (i : Int) (o : Int) (.slice (some ⟨b, 0, none⟩) (n ^ (i + o)) (n ^ (i + o)))), some (b2, #[.slice (some ⟨bv, 0, none⟩) (i) (cv)]), some (b5, numC ((n) ^ (o)) (valV p n i (n ^ o) V f (gk))), some (b6, smC (p : Int) (.slice (some ⟨b5, 0, none⟩) ((n ^ o)) ((n ^ o))))] [(bn, numC (i) (Rw.digF (n) (i) gk)), (bs, #[.int .i64 ((n : Nat) : Int)]), (bl, #[.int .i64 ((i : Nat) : Int)]), (b, numC (n ^ (i + o)) f), (bv, vecsC i V)] at hM
    refine Rw.c_loop (fun (kk : Nat) a w' => kk ≤ i ∧ (True) ∧ Fr 70 a [(7, .int .i64 (((gk : Nat) : Int))), (6, ptr b6 (0)), (2, ptr b1 (0)), (3, ptr b2 (0)), (4, .slice none 0 0), (5, .int .i64 (0)), (20, .bool (false)), (25, .bool (decide ((((i : Nat) : Int) : Int) ≠ ((i : Nat) : Int)))), (42, .slice (some ⟨bn, 0, none⟩) (i) (i)), (43, .int .i64 (((i : Nat) : Int))), (44, .int .i64 (((kk : Nat) : Int))), (9, .int .i64 (((facV p n i gk V kk : Nat) : Int)))] ∧ MemX (Rw.blks [some (b1, tenC (p : Int) (n : Int) (i : Int) (o : Int) (.slice (some ⟨b, 0, none⟩) (n ^ (i + o)) (n ^ (i + o)))), some (b2, #[.slice (some ⟨bv, 0, none⟩) (i) (cv)]), some (b5, numC ((n) ^ (o)) (valV p n i (n ^ o) V f (gk))), some (b6, smC (p : Int) (.slice (some ⟨b5, 0, none⟩) ((n ^ o)) ((n ^ o))))]) w w' [some (b1, tenC (p : Int) (n : Int) (i : Int) (o : Int) (.slice (some ⟨b, 0, none⟩) (n ^ (i + o)) (n ^ (i + o)))), some (b2, #[.slice (some ⟨bv, 0, none⟩) (i) (cv)]), some (b5, numC ((n) ^ (o)) (valV p n i (n ^ o) V f (gk))), some (b6, smC (p : Int) (.slice (some ⟨b5, 0, none⟩) ((n ^ o)) ((n ^ o))))] [(bn, numC (i) (Rw.digF (n) (i) gk)), (bs, #[.int .i64 ((n : Nat) : Int)]), (bl, #[.int .i64 ((i : Nat) : Int)]), (b, numC (n ^ (i + o)) f), (bv, vecsC i V)]) (fun kk => i - kk) 0 ?_ ?_
    ·
     refine ⟨by omega, trivial, hF.sub _ (by repeat' constructor), ?_⟩
     exact hM
    ·
     clear hF hM
     rintro gl a w' ⟨hgl, hinv1, hF, hM⟩
     have hfl := facV_lt (p := p) (n := n) (i := i) (k := gk) (V := V) hp1 gl
     have hvl := hV gl (Rw.digF n i gk gl)
     have hdl := hdg gl
     have hfm : facV p n i gk V gl * V gl (Rw.digF n i gk gl) ≤ 100 * 255 := Nat.mul_le_mul (by omega) hvl
     refine Rw.sq ?_
     refine Rw.wp_region_lit ?_
     refine st hF (g_lss hF rfl rfl) rfl fun a hF => ?_
     refine wpList_nil ?_
     refine tN ?_
     refine Rw.sq ?_
     refine Rw.c_cond hF rfl (fun h5 => ?_) (fun h5 => ?_)
     ·
      refine Rw.wp_skip ?_
      refine tN ?_
      refine Rw.sq ?_
      refine Rw.wp_block ?_
      refine Rw.sq ?_
      refine Rw.wp_region_lit ?_
      refine st hF (g_move hF rfl) rfl fun a hF => st hF (g_indexSl (i := gl) ty_sl_22 hF rfl rfl rfl (by omega)) rfl fun a hF => st hF (g_load ty_on_2 hF rfl (hM.fzm (List.mem_cons_self ..)) (numC_get (k := gl) (by omega) (by omega))) rfl fun a hF => st hF (g_assign hF rfl) rfl fun a hF => st hF (g_assign hF rfl) rfl fun a hF => ?_
      refine wpList_nil ?_
      refine tN ?_
      refine Rw.c_par 11 [] [.val (.int .i64 (((facV p n i gk V gl : Nat) : Int))), .val (.slice (some ⟨bv, 0, none⟩) (i) (cv)), .val (.int .i64 (((gl : Nat) : Int))), .val (.int .i64 (((Rw.digF (n) (i) gk (gl) : Nat) : Int))), .val (ptr bv (0 + (gl) * 6)), .val (ptr bv (0 + (gl) * 6 + (Rw.digF (n) (i) gk (gl)) * 1)), .val (.int .u8 (((V (gl) (Rw.digF (n) (i) gk (gl)) : Nat) : Int))), .val (.int .i64 (((V (gl) (Rw.digF (n) (i) gk (gl)) : Nat) : Int))), .val (.int .i64 ((((facV p n i gk V gl) * (V (gl) (Rw.digF (n) (i) gk (gl))) : Nat) : Int))), .val (ptr b1 (0 + 0)), .val (.int .i64 (((p : Nat) : Int)))] hmix rfl hF rfl hM ⟨fun a w gG hF hS hd => by exact par_val hS rfl (g_move hF rfl), fun a w gG hF hS hd => by have hM := hS.mem rfl; exact par_val hS rfl (g_load ty_on_37 hF rfl (hM.row 1 rfl) rfl), fun a w gG hF hS hd => by exact par_val hS rfl (g_move hF rfl), fun a w gG hF hS hd => by exact par_val hS rfl (g_move hF rfl), fun a w gG hF hS hd => by have hF := hF.ext1 50 (hd 1 rfl rfl); have hF := hF.ext1 51 (hd 2 rfl rfl); exact par_val hS rfl (g_indexSl (i := gl) ty_sl_37 hF rfl rfl rfl (by omega)), fun a w gG hF hS hd => by have hF := hF.ext1 52 (hd 3 rfl rfl); have hF := hF.ext1 53 (hd 4 rfl rfl); exact par_val hS rfl (g_indexAddr ty_ar_51 hF rfl rfl rfl (by omega)), fun a w gG hF hS hd => by have hF := hF.ext1 54 (hd 5 rfl rfl); have hM := hS.mem rfl; exact par_val hS rfl (g_load ty_on_5 hF rfl (hM.fzm (b := bv) (cs := vecsC i V) (by simp)) (vecsC_cell (gl) (Rw.digF (n) (i) gk (gl)) (by omega) (by omega) (by omega))), fun a w gG hF hS hd => by have hF := hF.ext1 55 (hd 6 rfl rfl); exact par_val hS rfl (g_conv ty_un_2 ty_ud_5 hF rfl (wrap_i64 (by omega) (by omega))), fun a w gG hF hS hd => by have hF := hF.ext1 49 (hd 0 rfl rfl); have hF := hF.ext1 56 (hd 7 rfl rfl); exact par_val hS rfl (g_mul hF rfl rfl (mul_nat (facV p n i gk V gl) (V (gl) (Rw.digF (n) (i) gk (gl))) (by omega))), fun a w gG hF hS hd => by exact par_val hS rfl (g_fieldAddr ty_fo_24_0 hF rfl), fun a w gG hF hS hd => by have hF := hF.ext1 58 (hd 9 rfl rfl); have hM := hS.mem rfl; exact par_val hS rfl (g_load ty_on_2 hF rfl (hM.row 0 rfl) (tenC_0 (by omega))), trivial⟩ ?_
      intro a w' L hF hS hq
      have hF := hF.ext1 49 (hq 0 rfl rfl)
      have hF := hF.ext1 50 (hq 1 rfl rfl)
      have hF := hF.ext1 51 (hq 2 rfl rfl)
      have hF := hF.ext1 52 (hq 3 rfl rfl)
      have hF := hF.ext1 53 (hq 4 rfl rfl)
      have hF := hF.ext1 54 (hq 5 rfl rfl)
      have hF := hF.ext1 55 (hq 6 rfl rfl)
      have hF := hF.ext1 56 (hq 7 rfl rfl)
      have hF := hF.ext1 57 (hq 8 rfl rfl)
      have hF := hF.ext1 58 (hq 9 rfl rfl)
      have hF := hF.ext1 59 (hq 10 rfl rfl)
      have hM := hS.mem rfl
      change wpList Try.prog _ _ [_, _] _ _
      refine st hF (g_rem hF rfl rfl (by omega) (rem_nat ((facV p n i gk V gl) * (V (gl) (Rw.digF (n) (i) gk (gl)))) (p))) rfl fun a hF => st hF (g_assign hF rfl) rfl fun a hF => ?_
      refine wpList_nil ?_
      refine iN ?_
      refine tN ?_
      refine Rw.wp_region_lit ?_
      refine st hF (g_add hF rfl rfl (add_nat (gl) (1) (by omega))) rfl fun a hF => st hF (g_move hF rfl) rfl fun a hF => ?_
      refine wpList_nil ?_
      refine tN ?_
      rw [show facV p n i gk V gl * V gl (Rw.digF n i gk gl) % p = facV p n i gk V (gl + 1) from rfl] at hF
      refine ⟨gl + 1, ⟨by omega, trivial, hF.sub _ (by repeat' constructor), ?_⟩, by omega⟩
      exact hM
     ·
      obtain rfl : i = gl := by omega
      refine Rw.wp_exit ?_
      refine tX ?_
      refine tX ?_
      refine ib_same ?_
      refine tN ?_
      refine Rw.c_par 5 [] [.val (.agg (smC (p : Int) (.slice (some ⟨b5, 0, none⟩) ((n ^ o)) ((n ^ o))))), .val (.agg (tenC (p : Int) (n : Int) (i : Int) (o : Int) (.slice (some ⟨b, 0, none⟩) (n ^ (i + o)) (n ^ (i + o))))), .val (.int .i64 (((gk : Nat) : Int))), .val (.slice (some ⟨b, 0 + (gk) * (n) ^ (o) * 1, none⟩) ((n) ^ (o)) ((n) ^ (o))), .val (.int .i64 (((facV p n i gk V i : Nat) : Int)))] hmix rfl hF rfl hM ⟨fun a w gG hF hS hd => by have hM := hS.mem rfl; exact par_val hS rfl (g_loadAgg ty_ag_58 hF rfl (hM.row 3 rfl) (by simp only [fnC_size, cells_size, vecC_size, tabC_size, planeC_size, tenC_size, smC_size, numC_size, numI_size, vecsC_size] <;> omega) (whole rfl)), fun a w gG hF hS hd => by have hM := hS.mem rfl; exact par_val hS rfl (g_loadAgg ty_ag_24 hF rfl (hM.row 0 rfl) (by simp only [fnC_size, cells_size, vecC_size, tabC_size, planeC_size, tenC_size, smC_size, numC_size, numI_size, vecsC_size] <;> omega) (whole rfl)), fun a w gG hF hS hd => by exact par_val hS rfl (g_move hF rfl), fun a w gG hF hS hd => by have hF := hF.ext1 63 (hd 1 rfl rfl); have hF := hF.ext1 64 (hd 2 rfl rfl); exact par_call (by repeat constructor) hS rfl (d_call Try.call37 hF (.cons rfl (.cons rfl .nil)) (rowOf_ok (p) (n) (i) (o) b (n ^ (i + o)) (gk) _ (by omega) (by omega) (by omega) hr1 (by omega))), fun a w gG hF hS hd => by exact par_val hS rfl (g_move hF rfl), trivial⟩ ?_
      intro a w' L hF hS hq
      have hF := hF.ext1 62 (hq 0 rfl rfl)
      have hF := hF.ext1 63 (hq 1 rfl rfl)
      have hF := hF.ext1 64 (hq 2 rfl rfl)
      have hF := hF.ext1 65 (hq 3 rfl rfl)
      have hF := hF.ext1 66 (hq 4 rfl rfl)
      have hM := hS.mem rfl
      change wpList Try.prog _ _ [_] _ _
      refine stR hF (d_callX Try.call36 hF (.cons rfl (.cons rfl (.cons rfl .nil))) (addSumsI_ok (p) b5 (0) (n ^ o) (((n) ^ (o))) b (0 + (gk) * (n) ^ (o) * 1) ((n) ^ (o)) ((n) ^ (o)) (facV p n i gk V i) _ (valV p n i (n ^ o) V f (gk)) (fun q => f ((gk) * (n) ^ (o) + q)) _ (by omega) (by omega) (by omega) (fun c => by have := valV_lt (p := p) (n := n) (i := i) (W := n ^ o) (V := V) (f := f) hp0 gk c; omega) (fun q => by have := hfp (gk * n ^ o + q); omega) (by omega) (by omega) (by omega) (hM.row 2 rfl) (hM.fz 3 rfl) ((hM.froz _ _ (List.mem_of_getElem? (i := 3) rfl)).2 2 _ _ rfl).symm (fun q hq => numC_get (k := (gk) * (n) ^ (o) + q) (by omega) (by omega)))) rfl ?_
      rintro _ w' a ⟨hx, rfl, hbk⟩ hF
      have hM := hM.upd 2 rfl hx hbk
      change MemX (Rw.blks [some (b1, tenC (p : Int) (n : Int) (i : Int) (o : Int) (.slice (some ⟨b, 0, none⟩) (n ^ (i + o)) (n ^ (i + o)))), some (b2, #[.slice (some ⟨bv, 0, none⟩) (i) (cv)]), some (b5, numC ((n) ^ (o)) (valV p n i (n ^ o) V f (gk))), some (b6, smC (p : Int) (.slice (some ⟨b5, 0, none⟩) ((n ^ o)) ((n ^ o))))]) w w' [some (b1, tenC (p : Int) (n : Int) (i : Int) (o : Int) (.slice (some ⟨b, 0, none⟩) (n ^ (i + o)) (n ^ (i + o)))), some (b2, #[.slice (some ⟨bv, 0, none⟩) (i) (cv)]), some (b5, numC ((n) ^ (o)) (fun c => if 0 ≤ c ∧ c < 0 + ((n) ^ (o)) then ((valV p n i (n ^ o) V f (gk)) c + facV p n i gk V i * (fun q => f ((gk) * (n) ^ (o) + q)) (c - (0))) % (p) else (valV p n i (n ^ o) V f (gk)) c)), some (b6, smC (p : Int) (.slice (some ⟨b5, 0, none⟩) ((n ^ o)) ((n ^ o))))] [(bn, numC (i) (Rw.digF (n) (i) gk)), (bs, #[.int .i64 ((n : Nat) : Int)]), (bl, #[.int .i64 ((i : Nat) : Int)]), (b, numC (n ^ (i + o)) f), (bv, vecsC i V)] at hM
      refine wpList_nil ?_
      refine iN ?_
      have hM := hM.rowc (cs' := numC ((n) ^ (o)) (valV p n i (n ^ o) V f (gk + 1))) 2 rfl (numC_congr fun c hc => by
        first | rw [if_pos ⟨by omega, by omega⟩] | rfl
        simp only [Nat.sub_zero]; rfl)
      refine ⟨Rw.keeps hA2 hM, Rw.unbase (hA.ext hxA) hM (fun x hx => List.mem_cons_of_mem _ hx)⟩
   ·
    intro D0 w hgD hM0 hD0
    rw [Rw.addD_mark hF]
    have hM := Rw.rebase hM0
    change MemX (Rw.blks [some (b1, tenC (p : Int) (n : Int) (i : Int) (o : Int) (.slice (some ⟨b, 0, none⟩) (n ^ (i + o)) (n ^ (i + o)))), some (b2, #[.slice (some ⟨bv, 0, none⟩) (i) (cv)]), some (b5, numC ((n) ^ (o)) (valV p n i (n ^ o) V f ((n) ^ (i)))), some (b6, smC (p : Int) (.slice (some ⟨b5, 0, none⟩) ((n ^ o)) ((n ^ o))))]) w w [some (b1, tenC (p : Int) (n : Int) (i : Int) (o : Int) (.slice (some ⟨b, 0, none⟩) (n ^ (i + o)) (n ^ (i + o)))), some (b2, #[.slice (some ⟨bv, 0, none⟩) (i) (cv)]), some (b5, numC ((n) ^ (o)) (valV p n i (n ^ o) V f ((n) ^ (i)))), some (b6, smC (p : Int) (.slice (some ⟨b5, 0, none⟩) ((n ^ o)) ((n ^ o))))] [(bs, #[.int .i64 ((n : Nat) : Int)]), (bl, #[.int .i64 ((i : Nat) : Int)]), (b, numC (n ^ (i + o)) f), (bv, vecsC i V)] at hM
    refine iN ?_
    refine tN ?_
    refine sq ?_
    refine wp_regionD ?_
    refine st hF (g_fieldAddr ty_fo_58_1 hF rfl) rfl fun a hF => st hF (g_load ty_on_22 hF rfl (hM.row 3 rfl) (smC_1 (by omega))) rfl fun a hF => st hF (g_assign hF rfl) rfl fun a hF => st hF (g_assign hF rfl) rfl fun a hF => ?_
    refine wpList_nil ?_
    refine tN ?_
    refine wp_ret ?_
    have hMu := Rw.unbase hM0 hM (fun x hx => hx)
    have hD1 := Rw.keeps hM0 hM _ _ hD0 (fun _ _ e => by cases e)
    have hMD := Rw.mem_put (o := .deferred (some [])) hMu (.deferred none) hD1 (fun _ _ e => by cases e) (Nat.le_trans hszR hgD)
    refine Rw.fin2K rfl hF.defers hD1 (res_tmp hF rfl) (res_tmp hF rfl) ⟨_, rfl, hMD.below, ?_⟩
    exact ⟨_, rfl, hMD.ge 2 rfl, hMD.row 2 rfl⟩
   · exact fun _ _ _ h _ => h.elim

end Go.Proofs.Ythoelkijoenkpaa
