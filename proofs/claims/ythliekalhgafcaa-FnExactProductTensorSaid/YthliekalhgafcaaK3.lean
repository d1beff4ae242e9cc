/- What functions of the program return, as walks over their operations; no statement of the seat is proved here. -/
import Derived.Test.YthliekalhgafcaaK1
set_option linter.unusedVariables false
set_option linter.unusedSimpArgs false
namespace Go.Proofs.Ythliekalhgafcaa
open Go Go.RowKit Go.Sw Go.Ech
open Classical
theorem trunc_idem {n : Nat} {T : Nat → Nat → Nat → Nat} : trunc n (trunc n T) = trunc n T := by
  funext i j k
  unfold trunc
  by_cases h : i < n ∧ j < n ∧ k < n
  · rw [if_pos h, if_pos h]
  · rw [if_neg h, if_neg h]
theorem code_trunc {p n : Int} {T : Nat → Nat → Nat → Nat} {f : Nat → Nat} {m : Nat} {V : Nat → Nat → Nat} (h : CodeP p n T f m V) : CodeP p n (trunc n.toNat T) f m V :=
  ⟨⟨shape_trunc h.1.1, by rw [trunc_idem]; exact h.1.2⟩, h.2⟩

end Go.Proofs.Ythliekalhgafcaa

namespace Go.Proofs.Ythliekalhgafcaa
open Go Go.RowKit Go.Sw Go.Ech
open Classical
theorem tabC_putRow {T : Nat → Nat → Nat → Nat} {v : Nat → Nat} {o : Nat} (a b : Nat) (h : o = a * 36 + b * 6) (ha : a < 6) (hb : b < 6) : splice (tabC T) o (vecC v) = tabC (fun i j k => if i = a ∧ j = b then v k else T i j k) := by
  subst h
  have hz : a * 36 + b * 6 + (vecC v).size ≤ (tabC T).size := by rw [vecC_size, tabC_size]; omega
  apply fnC_ext (by rw [splice_size _ _ _ hz, tabC_size])
  intro i hi
  rw [splice_get _ _ _ _ hz, vecC_size]
  by_cases e : a * 36 + b * 6 ≤ i ∧ i < a * 36 + b * 6 + 6
  · rw [if_pos e, vecC_get (i - (a * 36 + b * 6)) rfl (by omega)]; dsimp only; rw [if_pos ⟨by omega, by omega⟩, show i - (a * 36 + b * 6) = i % 6 by omega]
  · rw [if_neg e, tabC_get (i / 36) (i / 6 % 6) (i % 6) (by omega) (by omega) (by omega) (by omega)]; dsimp only; rw [if_neg (by omega)]
theorem algC_putRow {p n : Int} {T : Nat → Nat → Nat → Nat} {f v : Nat → Nat} {o : Nat} (a b : Nat) (h : o = 2 + a * 36 + b * 6) (ha : a < 6) (hb : b < 6) : splice (algC p n T f) o (vecC v) = algC p n (fun i j k => if i = a ∧ j = b then v k else T i j k) f := by
  subst h
  have hz : 2 + a * 36 + b * 6 + (vecC v).size ≤ (algC p n T f).size := by rw [vecC_size, cells_size]; omega
  refine algC_eq (by rw [splice_size _ _ _ hz, cells_size]) ?_ ?_ ?_ ?_
  · rw [splice_get _ _ _ _ hz, if_neg (by omega)]; exact algC_p rfl
  · rw [splice_get _ _ _ _ hz, if_neg (by omega)]; exact algC_n rfl
  · intro i j k hi hj hk
    rw [splice_get _ _ _ _ hz, vecC_size]
    by_cases e : i = a ∧ j = b
    · rw [if_pos (by omega), if_pos e]; exact vecC_get k (by omega) hk
    · rw [if_neg (by omega), if_neg e]; exact algC_T i j k rfl hi hj hk
  · intro i hi; rw [splice_get _ _ _ _ hz, vecC_size, if_neg (by omega)]; exact algC_f i rfl hi
theorem tabC_congr {T U : Nat → Nat → Nat → Nat} (h : ∀ i, i < 6 → ∀ j, j < 6 → ∀ k, k < 6 → T i j k = U i j k) : tabC T = tabC U := by
  unfold tabC
  exact fnC_congr fun c hc => by rw [h _ (by omega) _ (by omega) _ (by omega)]
theorem algC_congr {p n : Int} {T U : Nat → Nat → Nat → Nat} {f : Nat → Nat} (h : ∀ i, i < 6 → ∀ j, j < 6 → ∀ k, k < 6 → T i j k = U i j k) : algC p n T f = algC p n U f := by
  unfold algC
  refine fnC_congr fun c hc => ?_
  by_cases h0 : c = 0
  · rw [if_pos h0, if_pos h0]
  · rw [if_neg h0, if_neg h0]
    by_cases h1 : c = 1
    · rw [if_pos h1, if_pos h1]
    · rw [if_neg h1, if_neg h1]
      by_cases h2 : c < 218
      · rw [if_pos h2, if_pos h2, h _ (by omega) _ (by omega) _ (by omega)]
      · rw [if_neg h2, if_neg h2]
/-- The table with its rows and columns exchanged. -/
def trT (T : Nat → Nat → Nat → Nat) (i j k : Nat) : Nat := T j i k
theorem eqAt_tab {P : Program} {d : Nat} {t1 t2 t3 e : TypeId} {T U : Nat → Nat → Nat → Nat} (h1 : arrE P t1 = some (6, t2, 36)) (a1 : aggP P t2 = some 36) (h2 : arrE P t2 = some (6, t3, 6)) (a2 : aggP P t3 = some 6) (h3 : arrE P t3 = some (6, e, 1)) (he : intP P e = true) (ho : oneP P e = true) :
    Go.Sw.EqAt P (d + 4) t1 (.agg (tabC T)) (.agg (tabC U)) (eqT T U) :=
  (eqAt_aggs (q := fun i => eqM (T i) (U i)) h1 a1 fun i hi => by
    rw [tabC_plane i rfl rfl hi, tabC_plane i rfl rfl hi]
    exact (eqAt_aggs (q := fun j => eqV 6 (T i j) (U i j)) h2 a2 fun j hj => by
      rw [planeC_row j rfl rfl hj, planeC_row j rfl rfl hj]
      exact eqAt_vec h3 he ho).congr Iff.rfl).congr Iff.rfl
theorem l01Find_u (p n : Nat) (T : Nat → Nat → Nat → Nat) (f uu : Nat → Nat) (w : World) (hp : primeN p) (hn0 : 0 < n) (hn : n ≤ 6) (hTp : ∀ i j k, T i j k < p) (huu : UnitI p n T uu) : CallsV Try.prog 85 #[.agg (algC (p : Int) (n : Int) T f)] w (.tuple #[.agg (vecC uu), .bool true]) :=
  (l01Find_ok p n T f w hp hn0 hn hTp).mono fun v w' _ h => by
    rcases h with ⟨u, hu, rfl⟩ | ⟨hu, rfl⟩
    · rw [huu.unique hu]
    · exact absurd huu (hu uu)
theorem findUnit_u (p n : Nat) (T : Nat → Nat → Nat → Nat) (f uu : Nat → Nat) (w : World) (hp : primeN p) (hn0 : 0 < n) (hn : n ≤ 6) (hTp : ∀ i j k, T i j k < p) (huu : UnitI p n T uu) : CallsV Try.prog 83 #[.agg (algC (p : Int) (n : Int) T f)] w (.tuple #[.agg (vecC uu), .bool true]) :=
  (findUnit_ok p n T f w hp hn0 hn hTp).mono fun v w' _ h => by
    rcases h with ⟨u, hu, rfl⟩ | ⟨hu, rfl⟩
    · rw [huu.unique hu]
    · exact absurd huu (hu uu)



def comP (T : Nat → Nat → Nat → Nat) : Prop := ∀ i, i < 6 → ∀ j, j < i → eqV 6 (T i j) (T j i)
theorem comP_iff {T : Nat → Nat → Nat → Nat} : eqT T (trT T) ↔ comP T := by
  constructor
  · intro h i hi j hj; exact h i hi j (by omega)
  · intro h i hi j hj k hk
    show T i j k = T j i k
    rcases Nat.lt_trichotomy i j with e | e | e
    · exact (h j hj i e k hk).symm
    · rw [e]
    · exact h i hi j e k hk


theorem l01Unit_ok (p n : Nat) (T : Nat → Nat → Nat → Nat) (f : Nat → Nat) (w : World) (hp : primeN p) (hn0 : 0 < n) (hn : n ≤ 6) (hTp : ∀ i j k, T i j k < p) (uu : Nat → Nat) (huu : UnitI p n T uu) :
    CallsR Try.prog 60 #[.agg (algC (p : Int) (n : Int) T f)] w (fun res _ => res = .agg (vecC uu)) := by
  refine calls_fr [.agg (algC (p : Int) (n : Int) T f)] Try.func60 rfl Try.ntmps60 rfl fun a hF => ?_
  have hM : Mem w w [none, none, none] [] := MemX.start w 3
  change Fr 11 a [(0, .agg (algC (p : Int) (n : Int) T f))] at hF
  refine sq ?_
  refine wp_region_lit ?_
  refine stR hF (d_box 0 hM hF rfl) rfl ?_
  rintro _ w' a ⟨b1, rfl, hM, -⟩ hF
  change Mem w w' [some (b1, algC (p : Int) (n : Int) T f), none, none] [] at hM
  refine stR hF (d_alloc 1 hM ty_ze_41) rfl ?_
  rintro _ w' a ⟨b2, rfl, hM, -⟩ hF
  change Mem w w' [some (b1, algC (p : Int) (n : Int) T f), some (b2, fnC 6 (fun _ => .int .u8 (0))), none] [] at hM
  refine wpList_nil ?_
  refine tN ?_
  refine sq ?_
  refine wp_region_lit ?_
  refine st hF (g_loadAgg ty_ag_43 hF rfl (hM.row 0 rfl) (by simp only [fnC_size, cells_size, vecC_size, tabC_size, planeC_size] <;> omega) (whole cells_size)) rfl fun a hF => ?_
  refine stR hF (d_call Try.call85 hF (.cons rfl .nil) (l01Find_u p n T f uu _ hp hn0 hn hTp huu)) rfl ?_
  rintro _ w' a ⟨hx, rfl⟩ hF
  have hM := hM.ext hx
  ·
    refine st hF (g_move hF rfl) rfl fun a hF => st hF (g_extract hF rfl rfl) rfl fun a hF => st hF (g_extract hF rfl rfl) rfl fun a hF => ?_
    refine stR hF (d_alloc 2 hM ty_ze_41) rfl ?_
    rintro _ w' a ⟨b3, rfl, hM, -⟩ hF
    change Mem w w' [some (b1, algC (p : Int) (n : Int) T f), some (b2, fnC 6 (fun _ => .int .u8 (0))), some (b3, fnC 6 (fun _ => .int .u8 (0)))] [] at hM
    refine stN hF (d_storeAgg 2 hM rfl ty_sz_41 hF rfl rfl (by first | exact vecC_one | exact cells_one | (refine fnC_one fun _ _ => ?_; first | rfl | (split <;> rfl))) (by simp only [fnC_size, cells_size, vecC_size, tabC_size, planeC_size]) (by simp only [fnC_size, cells_size, vecC_size, tabC_size, planeC_size] <;> omega) (splice_whole _ _ (by simp only [fnC_size, cells_size, vecC_size, tabC_size, planeC_size]))) ?_
    intro _ w' a hM hF
    change Mem w w' [some (b1, algC (p : Int) (n : Int) T f), some (b2, fnC 6 (fun _ => .int .u8 (0))), some (b3, vecC uu)] [] at hM
    refine st hF (g_assign hF rfl) rfl fun a hF => ?_
    refine wpList_nil ?_
    refine tN ?_
    refine sq ?_
    refine wp_region_lit ?_
    refine st hF (g_loadAgg ty_ag_41 hF rfl (hM.row 2 rfl) (by simp only [fnC_size, cells_size, vecC_size, tabC_size, planeC_size] <;> omega) (whole (by simp only [fnC_size, cells_size, vecC_size, tabC_size, planeC_size]))) rfl fun a hF => ?_
    refine stN hF (d_storeAgg 1 hM rfl ty_sz_41 hF rfl rfl (by first | exact vecC_one | exact cells_one | (refine fnC_one fun _ _ => ?_; first | rfl | (split <;> rfl))) (by simp only [fnC_size, cells_size, vecC_size, tabC_size, planeC_size]) (by simp only [fnC_size, cells_size, vecC_size, tabC_size, planeC_size] <;> omega) (splice_whole _ _ (by simp only [fnC_size, cells_size, vecC_size, tabC_size, planeC_size]))) ?_
    intro _ w' a hM hF
    change Mem w w' [some (b1, algC (p : Int) (n : Int) T f), some (b2, vecC uu), some (b3, vecC uu)] [] at hM
    refine wpList_nil ?_
    refine tN ?_
    refine wp_ret ?_
    refine fin1 rfl hF.defers (res_agg ty_ag_41 hF rfl (hM.row 1 rfl) (by simp only [fnC_size, cells_size, vecC_size, tabC_size, planeC_size])) ⟨_, rfl, hM.below, ?_⟩
    show _ = _
    rfl



theorem UnitOfIA (p n : Int) (T : Nat → Nat → Nat → Nat) (f : Nat → Nat) (w : World) (hT : ∀ i j k, T i j k ≤ 255) (hf : ∀ i, f i ≤ 255) (hc : ¬ CodeP p n T f 0 (vAtL [])) :
    CallsR Try.prog 61 #[.agg (algC p n T f)] w (fun res _ => res = .tuple #[.agg (vecC (fun _ => 0)), .int .i64 1]) := by
  refine calls_fr [.agg (algC p n T f)] Try.func61 rfl Try.ntmps61 rfl fun a hF => ?_
  have hM : Mem w w [none, none, none] [] := MemX.start w 3
  change Fr 16 a [(0, .agg (algC p n T f))] at hF
  refine sq ?_
  refine wp_region_lit ?_
  refine stR hF (d_box 0 hM hF rfl) rfl ?_
  rintro _ w' a ⟨b1, rfl, hM, -⟩ hF
  change Mem w w' [some (b1, algC p n T f), none, none] [] at hM
  refine stR hF (d_alloc 1 hM ty_ze_41) rfl ?_
  rintro _ w' a ⟨b2, rfl, hM, -⟩ hF
  change Mem w w' [some (b1, algC p n T f), some (b2, fnC 6 (fun _ => .int .u8 (0))), none] [] at hM
  refine st hF (g_assign hF rfl) rfl fun a hF => ?_
  refine wpList_nil ?_
  refine tN ?_
  refine sq ?_
  refine sq ?_
  refine wp_region_lit ?_
  refine st hF (g_loadAgg ty_ag_43 hF rfl (hM.row 0 rfl) (by simp only [fnC_size, cells_size, vecC_size, tabC_size, planeC_size] <;> omega) (whole cells_size)) rfl fun a hF => ?_
  refine stR hF (d_call Try.call57 hF (.cons rfl .nil) ((CallsR.val (IsAlgebraI_ok p n T f _ (fun _ _ _ => hT _ _ _) (fun _ => hf _)) (congrArg Value.bool (decide_eq_false (fun h => hc ⟨h, fun i hi => absurd hi (by omega)⟩)))))) rfl ?_
  rintro _ w' a ⟨hx, rfl⟩ hF
  have hM := hM.ext hx
  refine st hF (g_not hF rfl) rfl fun a hF => ?_
  refine wpList_nil ?_
  refine tN ?_
  refine c_T hF rfl ?_
  refine sq ?_
  refine wp_region_lit ?_
  refine st hF (g_build0 ty_bu_41) rfl fun a hF => ?_
  refine stN hF (d_storeAgg 1 hM rfl ty_sz_41 hF rfl rfl (by first | exact vecC_one | exact cells_one | (refine fnC_one fun _ _ => ?_; first | rfl | (split <;> rfl))) (by simp only [fnC_size, cells_size, vecC_size, tabC_size, planeC_size]) (by simp only [fnC_size, cells_size, vecC_size, tabC_size, planeC_size] <;> omega) (splice_whole _ _ (by simp only [fnC_size, cells_size, vecC_size, tabC_size, planeC_size]))) ?_
  intro _ w' a hM hF
  change Mem w w' [some (b1, algC p n T f), some (b2, fnC 6 (fun _ => .int .u8 (0))), none] [] at hM
  refine st hF (g_assign hF rfl) rfl fun a hF => ?_
  refine wpList_nil ?_
  refine tN ?_
  refine wp_ret ?_
  refine tR ?_
  refine fin2 rfl hF.defers (res_agg ty_ag_41 hF rfl (hM.row 1 rfl) (by simp only [fnC_size, cells_size, vecC_size, tabC_size, planeC_size])) (res_tmp hF rfl) ⟨_, rfl, hM.below, ?_⟩
  show _ = _
  rfl

theorem UnitOfIB (p n : Nat) (T : Nat → Nat → Nat → Nat) (f : Nat → Nat) (w : World) (hp : primeN p) (hn0 : 0 < n) (hn : n ≤ 6) (hTp : ∀ i j k, T i j k < p) (hT0 : ∀ i j k, n ≤ k → T i j k = 0) (hf : ∀ i, f i ≤ 255) (uu : Nat → Nat) (huu : UnitI p n T uu) (hc : CodeP (p : Int) (n : Int) T f 0 (vAtL [])) :
    CallsR Try.prog 61 #[.agg (algC (p : Int) (n : Int) T f)] w (fun res _ => res = .tuple #[.agg (vecC uu), .int .i64 0]) := by
  refine calls_fr [.agg (algC (p : Int) (n : Int) T f)] Try.func61 rfl Try.ntmps61 rfl fun a hF => ?_
  have hM : Mem w w [none, none, none] [] := MemX.start w 3
  change Fr 16 a [(0, .agg (algC (p : Int) (n : Int) T f))] at hF
  have hp2 := hp.two
  have hp13 := hp.le
  have hT : ∀ i j k, T i j k ≤ 255 := fun i j k => by have := hTp i j k; omega
  refine sq ?_
  refine wp_region_lit ?_
  refine stR hF (d_box 0 hM hF rfl) rfl ?_
  rintro _ w' a ⟨b1, rfl, hM, -⟩ hF
  change Mem w w' [some (b1, algC (p : Int) (n : Int) T f), none, none] [] at hM
  refine stR hF (d_alloc 1 hM ty_ze_41) rfl ?_
  rintro _ w' a ⟨b2, rfl, hM, -⟩ hF
  change Mem w w' [some (b1, algC (p : Int) (n : Int) T f), some (b2, fnC 6 (fun _ => .int .u8 (0))), none] [] at hM
  refine st hF (g_assign hF rfl) rfl fun a hF => ?_
  refine wpList_nil ?_
  refine tN ?_
  refine sq ?_
  refine sq ?_
  refine wp_region_lit ?_
  refine st hF (g_loadAgg ty_ag_43 hF rfl (hM.row 0 rfl) (by simp only [fnC_size, cells_size, vecC_size, tabC_size, planeC_size] <;> omega) (whole cells_size)) rfl fun a hF => ?_
  refine stR hF (d_call Try.call57 hF (.cons rfl .nil) ((CallsR.val (IsAlgebraI_ok (p : Int) (n : Int) T f _ (fun _ _ _ => hT _ _ _) (fun _ => hf _)) (congrArg Value.bool (decide_eq_true hc.1))))) rfl ?_
  rintro _ w' a ⟨hx, rfl⟩ hF
  have hM := hM.ext hx
  refine st hF (g_not hF rfl) rfl fun a hF => ?_
  refine wpList_nil ?_
  refine tN ?_
  refine c_Fl hF rfl ?_
  refine wp_skip ?_
  refine tN ?_
  refine sq ?_
  refine wp_region_lit ?_
  refine st hF (g_loadAgg ty_ag_43 hF rfl (hM.row 0 rfl) (by simp only [fnC_size, cells_size, vecC_size, tabC_size, planeC_size] <;> omega) (whole cells_size)) rfl fun a hF => ?_
  refine stR hF (d_call Try.call83 hF (.cons rfl .nil) (findUnit_u p n T f uu _ hp hn0 hn hTp huu)) rfl ?_
  rintro _ w' a ⟨hx, rfl⟩ hF
  have hM := hM.ext hx
  ·
    refine st hF (g_move hF rfl) rfl fun a hF => st hF (g_extract hF rfl rfl) rfl fun a hF => st hF (g_extract hF rfl rfl) rfl fun a hF => ?_
    refine stR hF (d_alloc 2 hM ty_ze_41) rfl ?_
    rintro _ w' a ⟨b4, rfl, hM, -⟩ hF
    change Mem w w' [some (b1, algC (p : Int) (n : Int) T f), some (b2, fnC 6 (fun _ => .int .u8 (0))), some (b4, fnC 6 (fun _ => .int .u8 (0)))] [] at hM
    refine stN hF (d_storeAgg 2 hM rfl ty_sz_41 hF rfl rfl (by first | exact vecC_one | exact cells_one | (refine fnC_one fun _ _ => ?_; first | rfl | (split <;> rfl))) (by simp only [fnC_size, cells_size, vecC_size, tabC_size, planeC_size]) (by simp only [fnC_size, cells_size, vecC_size, tabC_size, planeC_size] <;> omega) (splice_whole _ _ (by simp only [fnC_size, cells_size, vecC_size, tabC_size, planeC_size]))) ?_
    intro _ w' a hM hF
    change Mem w w' [some (b1, algC (p : Int) (n : Int) T f), some (b2, fnC 6 (fun _ => .int .u8 (0))), some (b4, vecC uu)] [] at hM
    refine st hF (g_assign hF rfl) rfl fun a hF => ?_
    refine wpList_nil ?_
    refine tN ?_
    refine sq ?_
    refine wp_region_lit ?_
    refine st hF (g_loadAgg ty_ag_41 hF rfl (hM.row 2 rfl) (by simp only [fnC_size, cells_size, vecC_size, tabC_size, planeC_size] <;> omega) (whole (by simp only [fnC_size, cells_size, vecC_size, tabC_size, planeC_size]))) rfl fun a hF => ?_
    refine stN hF (d_storeAgg 1 hM rfl ty_sz_41 hF rfl rfl (by first | exact vecC_one | exact cells_one | (refine fnC_one fun _ _ => ?_; first | rfl | (split <;> rfl))) (by simp only [fnC_size, cells_size, vecC_size, tabC_size, planeC_size]) (by simp only [fnC_size, cells_size, vecC_size, tabC_size, planeC_size] <;> omega) (splice_whole _ _ (by simp only [fnC_size, cells_size, vecC_size, tabC_size, planeC_size]))) ?_
    intro _ w' a hM hF
    change Mem w w' [some (b1, algC (p : Int) (n : Int) T f), some (b2, vecC uu), some (b4, vecC uu)] [] at hM
    refine st hF (g_assign hF rfl) rfl fun a hF => ?_
    refine wpList_nil ?_
    refine tN ?_
    refine wp_ret ?_
    refine fin2 rfl hF.defers (res_agg ty_ag_41 hF rfl (hM.row 1 rfl) (by simp only [fnC_size, cells_size, vecC_size, tabC_size, planeC_size])) (res_tmp hF rfl) ⟨_, rfl, hM.below, ?_⟩
    show _ = _
    rfl









end Go.Proofs.Ythliekalhgafcaa
