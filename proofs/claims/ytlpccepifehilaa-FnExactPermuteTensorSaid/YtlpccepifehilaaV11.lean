/- What functions of the program return, as walks over their operations; no statement of the seat is proved here. -/
import Derived.Test.YtlpccepifehilaaV10
import Derived.Test.YtlpccepifehilaaSw10
set_option linter.unusedVariables false
set_option linter.unusedSimpArgs false
namespace Go.Proofs.Ytlpccepifehilaa
open Go Go.RowKit Go.Sw Go.Ech
open Classical
theorem ty_bs0_22 : ∀ w, (Instr.buildSlice 22 0 #[]).run Try.prog w = .ok (.slice (some ⟨w.heap.size, 0, none⟩) 0 0) (w.alloc (.cells #[] 2)) := by intros; kernel_rfl
theorem ty_bu_26 : ∀ w, (Instr.build 26 #[]).run Try.prog w = .ok (.agg (tenC 0 0 0 0 (.slice none 0 0))) w := by intros; kernel_rfl
def ordF (i : Nat) (ua ub : Nat → Nat) (c : Nat) : Nat := if c < i then ua c else i + ub (c - i)
theorem ordF_lo {i c : Nat} {ua ub : Nat → Nat} (h : c < i) : ordF i ua ub c = ua c := if_pos h
theorem ordF_hi {i c : Nat} {ua ub : Nat → Nat} : ordF i ua ub (i + c) = i + ub c := by unfold ordF; rw [if_neg (by omega), Nat.add_sub_cancel_left]
theorem ordF_lt {i o c : Nat} {ua ub : Nat → Nat} (ha : ∀ c, c < i → ua c < i) (hb : ∀ c, c < o → ub c < o) (h : c < i + o) : ordF i ua ub c < i + o := by
  unfold ordF
  split
  · have := ha c (by assumption); omega
  · have := hb (c - i) (by omega); omega
theorem slAt_empty {b : Nat} {f : Nat → Value} : SlAt 1 (.slice (some ⟨b, 0, none⟩) 0 0) (some (b, #[])) 0 b 0 #[] f := ⟨rfl, rfl, Nat.le_refl _, by unfold maxLen; omega, rfl, fun i hi => absurd hi (by omega)⟩
theorem slAt_congr {u : Value} {e : Option (Nat × Array Value)} {m m' b cap : Nat} {cs : Array Value} {f g : Nat → Value} (h : SlAt 1 u e m b cap cs f) (hm : m = m') (hf : ∀ i, i < m → f i = g i) : SlAt 1 u e m' b cap cs g := by
  subst hm
  exact ⟨h.val, h.ent, h.le, h.max, h.sz, fun i hi => by rw [← hf i (by omega)]; exact h.get i hi⟩

theorem clone_ok (b m : Nat) (F : Nat → Int) (w : World) (hm : m < 1000000) (hb : Blk w b (numI m F)) :
    CallsR Try.prog 26 #[.slice (some ⟨b, 0, none⟩) (m) (m)] w (OwnSl 1 w m (fun i => .int .i64 (F i))) := by
  refine calls_fr [.slice (some ⟨b, 0, none⟩) (m) (m)] Try.func26 rfl Try.ntmps26 rfl fun a hF => ?_
  have hM : Mem w w [none] [(b, numI m F)] := MemX.startD w 1 _ (startD1 hb)
  change Fr 8 a [(0, .slice (some ⟨b, 0, none⟩) (m) (m))] at hF
  refine sq ?_
  refine wp_region_lit ?_
  refine st hF (g_assign hF rfl) rfl fun a hF => ?_
  refine wpList_nil ?_
  refine tN ?_
  refine sq ?_
  refine sq ?_
  refine wp_region_lit ?_
  refine st hF (g_move hF rfl) rfl fun a hF => st hF (g_eqlNil ty_us_22 hF rfl rfl) rfl fun a hF => ?_
  refine wpList_nil ?_
  refine tN ?_
  refine c_Fl hF rfl ?_
  refine wp_skip ?_
  refine tN ?_
  refine sq ?_
  refine wp_region_lit ?_
  refine stR hF (d_buildC 0 hM hF rfl ty_bs0_22) rfl ?_
  rintro _ w' a ⟨b2, rfl, hM, -⟩ hF
  change Mem w w' [some (b2, #[])] [(b, numI m F)] at hM
  refine st hF (g_move hF rfl) rfl fun a hF => ?_
  refine stR hF (d_appendA (k := 0) (N := 0) (m := m) (f := (fun i => .int .i64 (F i))) (g := (fun i => .int .i64 (F i))) ty_si_22 rfl (by decide) hM rfl hF rfl rfl slAt_empty (fun i hi => ((hM.fzm (b := b) (cs := numI m F) (by simp)).cell _).trans (numI_get (k := i) (by omega) (by omega))) (fun _ _ => rfl) (by unfold maxLen; omega) (by omega)) rfl ?_
  rintro _ w' a ⟨bc, cc, csc, rfl, hM, hsc⟩ hF
  change Mem w w' [some (bc, csc)] [(b, numI m F)] at hM
  refine st hF (g_assign hF rfl) rfl fun a hF => ?_
  refine wpList_nil ?_
  refine tN ?_
  refine wp_ret ?_
  refine fin1 rfl hF.defers (res_tmp hF rfl) ⟨_, rfl, hM.below, ?_⟩
  have hsc2 : SlAt 1 (.slice (some ⟨bc, 0, none⟩) m cc) (some (bc, csc)) m bc cc csc (fun i => .int .i64 (F i)) := by
    have h := slAt_congr (m' := m) (g := (fun i => .int .i64 (F i))) hsc (by omega) (fun i hi => by rw [if_neg (by omega)]; rfl)
    rwa [Nat.zero_add] at h
  rw [Nat.zero_add]
  exact ⟨_, _, _, hsc2, hM.ge 0 rfl, hM.row 0 rfl⟩

theorem startD3 {w : World} {b1 b2 b3 : Nat} {c1 c2 c3 : Array Value} (h1 : Blk w b1 c1) (h2 : Blk w b2 c2) (h3 : Blk w b3 c3) : ∀ c ds, (c, ds) ∈ ([(b1, c1), (b2, c2), (b3, c3)] : Froz) → Blk w c ds := fun c ds hm => by
  simp only [List.mem_cons, Prod.mk.injEq, List.not_mem_nil, or_false] at hm
  rcases hm with ⟨rfl, rfl⟩ | ⟨rfl, rfl⟩ | ⟨rfl, rfl⟩
  · exact h1
  · exact h2
  · exact h3

theorem PermI_A (p n i o : Int) (b m0 : Nat) (g : Nat → Int) (bi m1 : Nat) (F : Nat → Int) (bu m2 : Nat) (G : Nat → Int) (w : World) (hm0 : m0 < 10000000) (hb : Blk w b (numI m0 g)) (hb1 : Blk w bi (numI m1 F)) (hb2 : Blk w bu (numI m2 G)) (hA : ¬ TenP p n i o m0 g) :
    CallsR Try.prog 9 #[.agg (tenC p n i o (.slice (some ⟨b, 0, none⟩) m0 m0)), .slice (some ⟨bi, 0, none⟩) (m1) (m1), .slice (some ⟨bu, 0, none⟩) (m2) (m2)] w (fun res _ => res = .tuple #[.agg (tenC 0 0 0 0 (.slice none 0 0)), .int .i64 1]) := by
  refine calls_fr [.agg (tenC p n i o (.slice (some ⟨b, 0, none⟩) m0 m0)), .slice (some ⟨bi, 0, none⟩) (m1) (m1), .slice (some ⟨bu, 0, none⟩) (m2) (m2)] Try.func9 rfl Try.ntmps9 rfl fun a hF => ?_
  have hM : Mem w w [none, none, none] [(b, numI m0 g), (bi, numI m1 F), (bu, numI m2 G)] := MemX.startD w 3 _ (startD3 hb hb1 hb2)
  change Fr 47 a [(0, .agg (tenC p n i o (.slice (some ⟨b, 0, none⟩) m0 m0))), (1, .slice (some ⟨bi, 0, none⟩) (m1) (m1)), (2, .slice (some ⟨bu, 0, none⟩) (m2) (m2))] at hF
  refine sq ?_
  refine wp_region_lit ?_
  refine stR hF (d_box 0 hM hF rfl) rfl ?_
  rintro _ w' a ⟨b1, rfl, hM, -⟩ hF
  change Mem w w' [some (b1, tenC p n i o (.slice (some ⟨b, 0, none⟩) m0 m0)), none, none] [(b, numI m0 g), (bi, numI m1 F), (bu, numI m2 G)] at hM
  refine stR hF (d_alloc 1 hM ty_ze_26) rfl ?_
  rintro _ w' a ⟨b2, rfl, hM, -⟩ hF
  change Mem w w' [some (b1, tenC p n i o (.slice (some ⟨b, 0, none⟩) m0 m0)), some (b2, tenC 0 0 0 0 (.slice none 0 0)), none] [(b, numI m0 g), (bi, numI m1 F), (bu, numI m2 G)] at hM
  refine st hF (g_assign hF rfl) rfl fun a hF => ?_
  refine wpList_nil ?_
  refine tN ?_
  refine sq ?_
  refine sq ?_
  refine wp_region_lit ?_
  refine st hF (g_loadAgg ty_ag_26 hF rfl (hM.row 0 rfl) (by simp only [fnC_size, cells_size, vecC_size, tabC_size, planeC_size, tenC_size, smC_size, numC_size, numI_size, rowJ_size] <;> omega) (whole rfl)) rfl fun a hF => ?_
  refine stR hF (d_call Try.call24 hF (.cons rfl .nil) (IsTensor_ok p n i o b m0 g _ (hM.fz 0 rfl) (by omega))) rfl ?_
  rintro _ w' a ⟨hx, rfl⟩ hF
  have hM := hM.ext hx
  refine st hF (g_notP hF rfl) rfl fun a hF => ?_
  refine wpList_nil ?_
  refine tN ?_
  refine c_cond hF rfl (fun h3 => ?_) (fun h3 => ?_)
  ·
   refine sq ?_
   refine wp_region_lit ?_
   refine st hF (g_build0 ty_bu_26) rfl fun a hF => ?_
   refine stN hF (d_storeAgg 1 hM rfl ty_sz_26 hF rfl rfl (tenC_one rfl) (by simp only [fnC_size, cells_size, vecC_size, tabC_size, planeC_size, tenC_size, smC_size, numC_size, numI_size, rowJ_size]) (by simp only [fnC_size, cells_size, vecC_size, tabC_size, planeC_size, tenC_size, smC_size, numC_size, numI_size, rowJ_size] <;> omega) (splice_whole _ _ rfl)) ?_
   intro _ w' a hM hF
   change Mem w w' [some (b1, tenC p n i o (.slice (some ⟨b, 0, none⟩) m0 m0)), some (b2, tenC 0 0 0 0 (.slice none 0 0)), none] [(b, numI m0 g), (bi, numI m1 F), (bu, numI m2 G)] at hM
   refine st hF (g_assign hF rfl) rfl fun a hF => ?_
   refine wpList_nil ?_
   refine tN ?_
   refine wp_ret ?_
   refine tR ?_
   refine fin2 rfl hF.defers (res_agg ty_ag_26 hF rfl (hM.row 1 rfl) (by simp only [fnC_size, cells_size, vecC_size, tabC_size, planeC_size, tenC_size, smC_size, numC_size, numI_size, rowJ_size])) (res_tmp hF rfl) ⟨_, rfl, hM.below, ?_⟩
   show _ = _
   rfl
  ·
   exact absurd (by first | assumption | exact Decidable.not_not.1 (by assumption)) hA

theorem PermI_R (p n i o : Int) (b m0 : Nat) (g : Nat → Int) (bi m1 : Nat) (F : Nat → Int) (bu m2 : Nat) (G : Nat → Int) (w : World) (hm0 : m0 < 10000000) (hb : Blk w b (numI m0 g)) (hb1 : Blk w bi (numI m1 F)) (hb2 : Blk w bu (numI m2 G)) (hT : TenP p n i o m0 g) (hR : ¬ (((m1 : Int) = i ∧ LegP m1 F) ∧ ((m2 : Int) = o ∧ LegP m2 G))) :
    CallsR Try.prog 9 #[.agg (tenC p n i o (.slice (some ⟨b, 0, none⟩) m0 m0)), .slice (some ⟨bi, 0, none⟩) (m1) (m1), .slice (some ⟨bu, 0, none⟩) (m2) (m2)] w (fun res _ => res = .tuple #[.agg (tenC 0 0 0 0 (.slice none 0 0)), .int .i64 2]) := by
  refine calls_fr [.agg (tenC p n i o (.slice (some ⟨b, 0, none⟩) m0 m0)), .slice (some ⟨bi, 0, none⟩) (m1) (m1), .slice (some ⟨bu, 0, none⟩) (m2) (m2)] Try.func9 rfl Try.ntmps9 rfl fun a hF => ?_
  have hM : Mem w w [none, none, none] [(b, numI m0 g), (bi, numI m1 F), (bu, numI m2 G)] := MemX.startD w 3 _ (startD3 hb hb1 hb2)
  change Fr 47 a [(0, .agg (tenC p n i o (.slice (some ⟨b, 0, none⟩) m0 m0))), (1, .slice (some ⟨bi, 0, none⟩) (m1) (m1)), (2, .slice (some ⟨bu, 0, none⟩) (m2) (m2))] at hF
  have hi12 : i ≤ 8 := hT.1.2.2.1.2
  have ho12 : o ≤ 8 := hT.1.2.2.2.2
  refine sq ?_
  refine wp_region_lit ?_
  refine stR hF (d_box 0 hM hF rfl) rfl ?_
  rintro _ w' a ⟨b1, rfl, hM, -⟩ hF
  change Mem w w' [some (b1, tenC p n i o (.slice (some ⟨b, 0, none⟩) m0 m0)), none, none] [(b, numI m0 g), (bi, numI m1 F), (bu, numI m2 G)] at hM
  refine stR hF (d_alloc 1 hM ty_ze_26) rfl ?_
  rintro _ w' a ⟨b2, rfl, hM, -⟩ hF
  change Mem w w' [some (b1, tenC p n i o (.slice (some ⟨b, 0, none⟩) m0 m0)), some (b2, tenC 0 0 0 0 (.slice none 0 0)), none] [(b, numI m0 g), (bi, numI m1 F), (bu, numI m2 G)] at hM
  refine st hF (g_assign hF rfl) rfl fun a hF => ?_
  refine wpList_nil ?_
  refine tN ?_
  refine sq ?_
  refine sq ?_
  refine wp_region_lit ?_
  refine st hF (g_loadAgg ty_ag_26 hF rfl (hM.row 0 rfl) (by simp only [fnC_size, cells_size, vecC_size, tabC_size, planeC_size, tenC_size, smC_size, numC_size, numI_size, rowJ_size] <;> omega) (whole rfl)) rfl fun a hF => ?_
  refine stR hF (d_call Try.call24 hF (.cons rfl .nil) ((CallsR.val (IsTensor_ok p n i o b m0 g _ (hM.fz 0 rfl) (by omega)) (congrArg Value.bool (decide_eq_true hT))))) rfl ?_
  rintro _ w' a ⟨hx, rfl⟩ hF
  have hM := hM.ext hx
  refine st hF (g_not hF rfl) rfl fun a hF => ?_
  refine wpList_nil ?_
  refine tN ?_
  refine c_Fl hF rfl ?_
  refine wp_skip ?_
  refine tN ?_
  refine sq ?_
  refine sq ?_
  refine wp_region_lit ?_
  refine st hF (g_move hF rfl) rfl fun a hF => st hF (g_fieldAddr ty_fo_26_2 hF rfl) rfl fun a hF => st hF (g_load ty_on_2 hF rfl (hM.row 0 rfl) (tenC_2 (by omega))) rfl fun a hF => ?_
  refine stR hF (d_call Try.call25 hF (.cons rfl (.cons rfl .nil)) (isPerm_ok bi m1 F (i) _ (by omega) (hM.fzm (b := bi) (cs := numI m1 F) (by simp)))) rfl ?_
  rintro _ w' a ⟨hx, rfl⟩ hF
  have hM := hM.ext hx
  refine st hF (g_notP hF rfl) rfl fun a hF => st hF (g_move hF rfl) rfl fun a hF => ?_
  by_cases g4 : ¬ (((m1 : Nat) : Int) = i ∧ LegP m1 F)
  ·
   first | rw [decide_eq_true g4] at hF | simp only [decide_eq_true g4] at hF
   refine stS hF rfl rfl rfl rfl rfl fun a hF => stS hF rfl rfl rfl rfl rfl fun a hF => stS hF rfl rfl rfl rfl rfl fun a hF => stS hF rfl rfl rfl rfl rfl fun a hF => stS hF rfl rfl rfl rfl rfl fun a hF => st hF (g_pickT hF rfl rfl) rfl fun a hF => ?_
   refine wpList_nil ?_
   refine tN ?_
   refine c_T hF rfl ?_
   refine sq ?_
   refine wp_region_lit ?_
   refine st hF (g_build0 ty_bu_26) rfl fun a hF => ?_
   refine stN hF (d_storeAgg 1 hM rfl ty_sz_26 hF rfl rfl (tenC_one rfl) (by simp only [fnC_size, cells_size, vecC_size, tabC_size, planeC_size, tenC_size, smC_size, numC_size, numI_size, rowJ_size]) (by simp only [fnC_size, cells_size, vecC_size, tabC_size, planeC_size, tenC_size, smC_size, numC_size, numI_size, rowJ_size] <;> omega) (splice_whole _ _ rfl)) ?_
   intro _ w' a hM hF
   change Mem w w' [some (b1, tenC p n i o (.slice (some ⟨b, 0, none⟩) m0 m0)), some (b2, tenC 0 0 0 0 (.slice none 0 0)), none] [(b, numI m0 g), (bi, numI m1 F), (bu, numI m2 G)] at hM
   refine st hF (g_assign hF rfl) rfl fun a hF => ?_
   refine wpList_nil ?_
   refine tN ?_
   refine wp_ret ?_
   refine tR ?_
   refine fin2 rfl hF.defers (res_agg ty_ag_26 hF rfl (hM.row 1 rfl) (by simp only [fnC_size, cells_size, vecC_size, tabC_size, planeC_size, tenC_size, smC_size, numC_size, numI_size, rowJ_size])) (res_tmp hF rfl) ⟨_, rfl, hM.below, ?_⟩
   show _ = _
   rfl
  ·
   first | rw [decide_eq_false g4] at hF | simp only [decide_eq_false g4] at hF
   refine stY hF rfl rfl rfl (g_move hF rfl) rfl fun a hF => stY hF rfl rfl rfl (g_fieldAddr ty_fo_26_3 hF rfl) rfl fun a hF => stY hF rfl rfl rfl (g_load ty_on_2 hF rfl (hM.row 0 rfl) (tenC_3 (by omega))) rfl fun a hF => ?_
   refine stYR hF rfl rfl rfl (d_call Try.call25 hF (.cons rfl (.cons rfl .nil)) (isPerm_ok bu m2 G (o) _ (by omega) (hM.fzm (b := bu) (cs := numI m2 G) (by simp)))) rfl ?_
   rintro _ w' a ⟨hx, rfl⟩ hF
   have hM := hM.ext hx
   refine stY hF rfl rfl rfl (g_notP hF rfl) rfl fun a hF => st hF (g_pickF hF rfl rfl) rfl fun a hF => ?_
   refine wpList_nil ?_
   refine tN ?_
   refine c_cond hF rfl (fun h6 => ?_) (fun h6 => ?_)
   ·
    refine sq ?_
    refine wp_region_lit ?_
    refine st hF (g_build0 ty_bu_26) rfl fun a hF => ?_
    refine stN hF (d_storeAgg 1 hM rfl ty_sz_26 hF rfl rfl (tenC_one rfl) (by simp only [fnC_size, cells_size, vecC_size, tabC_size, planeC_size, tenC_size, smC_size, numC_size, numI_size, rowJ_size]) (by simp only [fnC_size, cells_size, vecC_size, tabC_size, planeC_size, tenC_size, smC_size, numC_size, numI_size, rowJ_size] <;> omega) (splice_whole _ _ rfl)) ?_
    intro _ w' a hM hF
    change Mem w w' [some (b1, tenC p n i o (.slice (some ⟨b, 0, none⟩) m0 m0)), some (b2, tenC 0 0 0 0 (.slice none 0 0)), none] [(b, numI m0 g), (bi, numI m1 F), (bu, numI m2 G)] at hM
    refine st hF (g_assign hF rfl) rfl fun a hF => ?_
    refine wpList_nil ?_
    refine tN ?_
    refine wp_ret ?_
    refine tR ?_
    refine fin2 rfl hF.defers (res_agg ty_ag_26 hF rfl (hM.row 1 rfl) (by simp only [fnC_size, cells_size, vecC_size, tabC_size, planeC_size, tenC_size, smC_size, numC_size, numI_size, rowJ_size])) (res_tmp hF rfl) ⟨_, rfl, hM.below, ?_⟩
    show _ = _
    rfl
   ·
    exact absurd ⟨by first | assumption | exact Decidable.not_not.1 (by assumption), by first | assumption | exact Decidable.not_not.1 (by assumption)⟩ hR

set_option maxRecDepth 100000 in
theorem PermI_V (p n i o b : Nat) (f : Nat → Nat) (bi : Nat) (ua : Nat → Nat) (bu : Nat) (ub : Nat → Nat) (w : World) (hpP : primeP (p : Int)) (hn0 : 0 < n) (hn : n ≤ 6) (hw : wl n i o) (hfp : ∀ c, f c < p) (hua : ∀ c, c < i → ua c < i) (hub : ∀ c, c < o → ub c < o) (hLa : LegP i (fun c => ((ua c : Nat) : Int))) (hLb : LegP o (fun c => ((ub c : Nat) : Int))) (hb : Blk w b (numC (n ^ (i + o)) f)) (hb1 : Blk w bi (numC i ua)) (hb2 : Blk w bu (numC o ub)) :
    CallsR Try.prog 9 #[.agg (tenC (p : Int) (n : Int) (i : Int) (o : Int) (.slice (some ⟨b, 0, none⟩) (n ^ (i + o)) (n ^ (i + o)))), .slice (some ⟨bi, 0, none⟩) (i) (i), .slice (some ⟨bu, 0, none⟩) (o) (o)] w (fun v w' => TenOut0 w w' (p : Int) (n : Int) (i : Int) (o : Int) (n ^ (i + o)) (Rw.pmF n (i + o) (ordF i ua ub) f) v) := by
  refine calls_fr [.agg (tenC (p : Int) (n : Int) (i : Int) (o : Int) (.slice (some ⟨b, 0, none⟩) (n ^ (i + o)) (n ^ (i + o)))), .slice (some ⟨bi, 0, none⟩) (i) (i), .slice (some ⟨bu, 0, none⟩) (o) (o)] Try.func9 rfl Try.ntmps9 rfl fun a hF => ?_
  have hM : Mem w w [none, none, none, none, none] [(b, numC (n ^ (i + o)) f), (bi, numC i ua), (bu, numC o ub)] := MemX.startD w 5 _ (startD3 hb hb1 hb2)
  change Fr 47 a [(0, .agg (tenC (p : Int) (n : Int) (i : Int) (o : Int) (.slice (some ⟨b, 0, none⟩) (n ^ (i + o)) (n ^ (i + o))))), (1, .slice (some ⟨bi, 0, none⟩) (i) (i)), (2, .slice (some ⟨bu, 0, none⟩) (o) (o))] at hF
  have hp0 : 0 < p := by have h := hpP; unfold primeP at h; omega
  have hp2 : p < 100 := by have h := hpP; unfold primeP at h; omega
  have hw3 := hw.2.2
  have hw1 := hw.1
  have hw2 := hw.2.1
  have hT := TenP.of_nat hpP hn0 hn hw rfl hfp
  have hw1 := hw.1
  have hw2 := hw.2.1
  refine sq ?_
  refine wp_region_lit ?_
  refine stR hF (d_box 0 hM hF rfl) rfl ?_
  rintro _ w' a ⟨b1, rfl, hM, -⟩ hF
  change Mem w w' [some (b1, tenC (p : Int) (n : Int) (i : Int) (o : Int) (.slice (some ⟨b, 0, none⟩) (n ^ (i + o)) (n ^ (i + o)))), none, none, none, none] [(b, numC (n ^ (i + o)) f), (bi, numC i ua), (bu, numC o ub)] at hM
  refine stR hF (d_alloc 1 hM ty_ze_26) rfl ?_
  rintro _ w' a ⟨b2, rfl, hM, -⟩ hF
  change Mem w w' [some (b1, tenC (p : Int) (n : Int) (i : Int) (o : Int) (.slice (some ⟨b, 0, none⟩) (n ^ (i + o)) (n ^ (i + o)))), some (b2, tenC 0 0 0 0 (.slice none 0 0)), none, none, none] [(b, numC (n ^ (i + o)) f), (bi, numC i ua), (bu, numC o ub)] at hM
  refine st hF (g_assign hF rfl) rfl fun a hF => ?_
  refine wpList_nil ?_
  refine tN ?_
  refine sq ?_
  refine sq ?_
  refine wp_region_lit ?_
  refine st hF (g_loadAgg ty_ag_26 hF rfl (hM.row 0 rfl) (by simp only [fnC_size, cells_size, vecC_size, tabC_size, planeC_size, tenC_size, smC_size, numC_size, numI_size, rowJ_size] <;> omega) (whole rfl)) rfl fun a hF => ?_
  refine stR hF (d_call Try.call24 hF (.cons rfl .nil) ((CallsR.val (IsTensor_ok (p : Int) (n : Int) (i : Int) (o : Int) b (n ^ (i + o)) (fun c => ((f c : Nat) : Int)) _ (hM.fz 0 rfl) (by omega)) (congrArg Value.bool (decide_eq_true hT))))) rfl ?_
  rintro _ w' a ⟨hx, rfl⟩ hF
  have hM := hM.ext hx
  refine st hF (g_not hF rfl) rfl fun a hF => ?_
  refine wpList_nil ?_
  refine tN ?_
  refine c_Fl hF rfl ?_
  refine wp_skip ?_
  refine tN ?_
  refine sq ?_
  refine sq ?_
  refine wp_region_lit ?_
  refine st hF (g_move hF rfl) rfl fun a hF => st hF (g_fieldAddr ty_fo_26_2 hF rfl) rfl fun a hF => st hF (g_load ty_on_2 hF rfl (hM.row 0 rfl) (tenC_2 (by omega))) rfl fun a hF => ?_
  refine stR hF (d_call Try.call25 hF (.cons rfl (.cons rfl .nil)) ((CallsR.val (isPerm_ok bi i (fun c => ((ua c : Nat) : Int)) (((i : Nat) : Int)) _ (by omega) (hM.fzm (b := bi) (cs := numC i ua) (by simp))) (congrArg Value.bool (decide_eq_true ⟨rfl, hLa⟩))))) rfl ?_
  rintro _ w' a ⟨hx, rfl⟩ hF
  have hM := hM.ext hx
  refine st hF (g_not hF rfl) rfl fun a hF => st hF (g_move hF rfl) rfl fun a hF => stY hF rfl rfl rfl (g_move hF rfl) rfl fun a hF => stY hF rfl rfl rfl (g_fieldAddr ty_fo_26_3 hF rfl) rfl fun a hF => stY hF rfl rfl rfl (g_load ty_on_2 hF rfl (hM.row 0 rfl) (tenC_3 (by omega))) rfl fun a hF => ?_
  refine stYR hF rfl rfl rfl (d_call Try.call25 hF (.cons rfl (.cons rfl .nil)) ((CallsR.val (isPerm_ok bu o (fun c => ((ub c : Nat) : Int)) (((o : Nat) : Int)) _ (by omega) (hM.fzm (b := bu) (cs := numC o ub) (by simp))) (congrArg Value.bool (decide_eq_true ⟨rfl, hLb⟩))))) rfl ?_
  rintro _ w' a ⟨hx, rfl⟩ hF
  have hM := hM.ext hx
  refine stY hF rfl rfl rfl (g_not hF rfl) rfl fun a hF => st hF (g_pickF hF rfl rfl) rfl fun a hF => ?_
  refine wpList_nil ?_
  refine tN ?_
  refine c_Fl hF rfl ?_
  refine wp_skip ?_
  refine tN ?_
  refine sq ?_
  refine wp_region_lit ?_
  refine st hF (g_move hF rfl) rfl fun a hF => ?_
  refine stR hF (d_callOwn (k := 2) hM (d_call Try.call26 hF (.cons rfl .nil) (clone_ok bi i (fun c => ((ua c : Nat) : Int)) _ (by omega) (hM.fzm (b := bi) (cs := numC i ua) (by simp))))) rfl ?_
  rintro u w' a ⟨b5, cap6, cs7, hs8, hM, -⟩ hF
  obtain rfl := hs8.val
  change Mem w w' [some (b1, tenC (p : Int) (n : Int) (i : Int) (o : Int) (.slice (some ⟨b, 0, none⟩) (n ^ (i + o)) (n ^ (i + o)))), some (b2, tenC 0 0 0 0 (.slice none 0 0)), some (b5, cs7), none, none] [(b, numC (n ^ (i + o)) f), (bi, numC i ua), (bu, numC o ub)] at hM
  refine st hF (g_assign hF rfl) rfl fun a hF => ?_
  refine wpList_nil ?_
  refine tN ?_
  refine sq ?_
  refine sq ?_
  refine wp_region_lit ?_
  refine st hF (g_move hF rfl) rfl fun a hF => st hF (g_len ty_us_22 hF rfl) rfl fun a hF => st hF (g_move hF rfl) rfl fun a hF => ?_
  refine wpList_nil ?_
  refine tN ?_
  refine wp_block ?_
  change Mem w _ [some (b1, tenC (p : Int) (n : Int) (i : Int) (o : Int) (.slice (some ⟨b, 0, none⟩) (n ^ (i + o)) (n ^ (i + o)))), some (b2, tenC 0 0 0 0 (.slice none 0 0)), some (b5, cs7), none, none] [(b, numC (n ^ (i + o)) f), (bi, numC i ua), (bu, numC o ub)] at hM
  refine c_loop (fun (kk : Nat) a w' => kk ≤ o ∧ ∃ (bq : Nat), ∃ (cq : Nat), ∃ (csq : Array Value), (SlAt 1 (.slice (some ⟨bq, 0, none⟩) (i + kk) cq) (some (bq, csq)) (i + kk) bq cq csq (fun c => .int .i64 ((ordF i ua ub c : Nat) : Int))) ∧ Fr 47 a [(3, ptr b1 (0)), (6, ptr b2 (0)), (7, .int .i64 (0)), (13, .bool (false)), (26, .bool (false)), (30, .slice (some ⟨bu, 0, none⟩) (o) (o)), (31, .int .i64 (((o : Nat) : Int))), (32, .int .i64 (((kk : Nat) : Int))), (8, .slice (some ⟨bq, 0, none⟩) ((i + kk)) (cq))] ∧ Mem w w' [some (b1, tenC (p : Int) (n : Int) (i : Int) (o : Int) (.slice (some ⟨b, 0, none⟩) (n ^ (i + o)) (n ^ (i + o)))), some (b2, tenC 0 0 0 0 (.slice none 0 0)), some (bq, csq), none, none] [(b, numC (n ^ (i + o)) f), (bi, numC i ua), (bu, numC o ub)]) (fun kk => o - kk) 0 ?_ ?_
  ·
   refine ⟨by omega, b5, cap6, cs7, (slAt_congr hs8 rfl (fun c hc => congrArg (fun q : Nat => Value.int .i64 (q : Int)) (ordF_lo hc).symm)), hF.sub _ (by repeat' constructor), ?_⟩
   exact hM
  ·
   clear hF hM
   rintro gk a w' ⟨hgk, bq, cq, csq, hq, hF, hM⟩
   have hubk := hub gk
   refine sq ?_
   refine wp_region_lit ?_
   refine st hF (g_lss hF rfl rfl) rfl fun a hF => ?_
   refine wpList_nil ?_
   refine tN ?_
   refine sq ?_
   refine c_cond hF rfl (fun h9 => ?_) (fun h9 => ?_)
   ·
    refine wp_skip ?_
    refine tN ?_
    refine sq ?_
    refine wp_block ?_
    refine sq ?_
    refine wp_region_lit ?_
    refine st hF (g_indexSl (i := gk) ty_sl_22 hF rfl rfl rfl (by omega)) rfl fun a hF => st hF (g_load ty_on_2 hF rfl (hM.fzm (b := bu) (cs := numC o ub) (by simp)) (numC_get (k := gk) (by omega) (by omega))) rfl fun a hF => st hF (g_assign hF rfl) rfl fun a hF => ?_
    refine wpList_nil ?_
    refine tN ?_
    refine wp_region_lit ?_
    refine st hF (g_move hF rfl) rfl fun a hF => st hF (g_fieldAddr ty_fo_26_2 hF rfl) rfl fun a hF => st hF (g_load ty_on_2 hF rfl (hM.row 0 rfl) (tenC_2 (by omega))) rfl fun a hF => st hF (g_move hF rfl) rfl fun a hF => st hF (g_add hF rfl rfl (add_nat (i) (ub (gk)) (by omega))) rfl fun a hF => ?_
    refine stR hF (d_buildC 3 hM hF (build1 hF rfl) (ty_bs1_22 _)) rfl ?_
    rintro _ w' a ⟨b10, rfl, hM, -⟩ hF
    change Mem w w' [some (b1, tenC (p : Int) (n : Int) (i : Int) (o : Int) (.slice (some ⟨b, 0, none⟩) (n ^ (i + o)) (n ^ (i + o)))), some (b2, tenC 0 0 0 0 (.slice none 0 0)), some (bq, csq), some (b10, #[.int .i64 (((i + ub (gk) : Nat) : Int))]), none] [(b, numC (n ^ (i + o)) f), (bi, numC i ua), (bu, numC o ub)] at hM
    refine stR hF (d_appendA (k := 2) (N := i + gk) (m := 1) (f := (fun c => .int .i64 ((ordF i ua ub c : Nat) : Int))) (g := fun _ => .int .i64 (((i + ub (gk) : Nat) : Int))) ty_si_22 rfl (by decide) hM rfl hF rfl rfl hq (fun q hq => by rw [show q = 0 by omega]; exact (hM.row 3 rfl).cell 0) (fun _ _ => rfl) (by unfold maxLen; omega) (by omega)) rfl ?_
    rintro _ w' a ⟨bq2, cq2, csq2, rfl, hM, hq2⟩ hF
    change Mem w w' [some (b1, tenC (p : Int) (n : Int) (i : Int) (o : Int) (.slice (some ⟨b, 0, none⟩) (n ^ (i + o)) (n ^ (i + o)))), some (b2, tenC 0 0 0 0 (.slice none 0 0)), some (bq2, csq2), some (b10, #[.int .i64 (((i + ub (gk) : Nat) : Int))]), none] [(b, numC (n ^ (i + o)) f), (bi, numC i ua), (bu, numC o ub)] at hM
    refine st hF (g_assign hF rfl) rfl fun a hF => ?_
    refine wpList_nil ?_
    refine iN ?_
    refine tN ?_
    refine wp_region_lit ?_
    refine st hF (g_add hF rfl rfl (add_nat (gk) (1) (by omega))) rfl fun a hF => st hF (g_move hF rfl) rfl fun a hF => ?_
    refine wpList_nil ?_
    refine tN ?_
    have hM := hM.drop 3
    refine ⟨gk + 1, ⟨by omega, bq2, cq2, csq2, (slAt_congr hq2 rfl (fun c hc => by
            by_cases e : c < i + gk
            · rw [if_pos (by omega)]
            · rw [if_neg (by omega), show c = i + gk by omega, ordF_hi])), hF.sub _ (by repeat' constructor), ?_⟩, by omega⟩
    exact hM
   ·
    obtain rfl : o = gk := by omega
    refine wp_exit ?_
    refine tX ?_
    refine tX ?_
    refine ib_same ?_
    refine tN ?_
    refine sq ?_
    refine wp_region_lit ?_
    refine st hF (g_loadAgg ty_ag_26 hF rfl (hM.row 0 rfl) (by simp only [fnC_size, cells_size, vecC_size, tabC_size, planeC_size, tenC_size, smC_size, numC_size, numI_size, rowJ_size] <;> omega) (whole rfl)) rfl fun a hF => st hF (g_move hF rfl) rfl fun a hF => ?_
    refine stR hF (d_call Try.call27 hF (.cons rfl (.cons rfl .nil)) (permuted_ok p n i o b bq cq f (ordF i ua ub) csq _ hn0 hn hw (fun c => by have := hfp c; omega) (hM.fzm (b := b) (cs := numC (n ^ (i + o)) f) (by simp)) (hM.row 2 rfl) (fun c hc => hq.get1 c (by omega)) (fun c hc => ordF_lt hua hub hc))) rfl ?_
    rintro _ w' a ⟨hx, b11, rfl, hge, hbk⟩ hF
    have hM := hM.fill hx 4 hbk hge
    change Mem w w' [some (b1, tenC (p : Int) (n : Int) (i : Int) (o : Int) (.slice (some ⟨b, 0, none⟩) (n ^ (i + o)) (n ^ (i + o)))), some (b2, tenC 0 0 0 0 (.slice none 0 0)), some (bq, csq), none, some (b11, numC (n ^ (i + o)) (Rw.pmF n (i + o) (ordF i ua ub) f))] [(b, numC (n ^ (i + o)) f), (bi, numC i ua), (bu, numC o ub)] at hM
    refine stN hF (d_storeAgg 1 hM rfl ty_sz_26 hF rfl rfl (tenC_one rfl) (by simp only [fnC_size, cells_size, vecC_size, tabC_size, planeC_size, tenC_size, smC_size, numC_size, numI_size, rowJ_size]) (by simp only [fnC_size, cells_size, vecC_size, tabC_size, planeC_size, tenC_size, smC_size, numC_size, numI_size, rowJ_size] <;> omega) (splice_whole _ _ rfl)) ?_
    intro _ w' a hM hF
    change Mem w w' [some (b1, tenC (p : Int) (n : Int) (i : Int) (o : Int) (.slice (some ⟨b, 0, none⟩) (n ^ (i + o)) (n ^ (i + o)))), some (b2, tenC ((p : Nat) : Int) ((n : Nat) : Int) ((i : Nat) : Int) ((o : Nat) : Int) (.slice (some ⟨b11, 0, none⟩) (n ^ (i + o)) (n ^ (i + o)))), some (bq, csq), none, some (b11, numC (n ^ (i + o)) (Rw.pmF n (i + o) (ordF i ua ub) f))] [(b, numC (n ^ (i + o)) f), (bi, numC i ua), (bu, numC o ub)] at hM
    refine st hF (g_assign hF rfl) rfl fun a hF => ?_
    refine wpList_nil ?_
    refine tN ?_
    refine wp_ret ?_
    refine fin2 rfl hF.defers (res_agg ty_ag_26 hF rfl (hM.row 1 rfl) (by simp only [fnC_size, cells_size, vecC_size, tabC_size, planeC_size, tenC_size, smC_size, numC_size, numI_size, rowJ_size])) (res_tmp hF rfl) ⟨_, rfl, hM.below, ?_⟩
    exact ⟨_, rfl, hM.ge 4 rfl, hM.row 4 rfl⟩

end Go.Proofs.Ytlpccepifehilaa
