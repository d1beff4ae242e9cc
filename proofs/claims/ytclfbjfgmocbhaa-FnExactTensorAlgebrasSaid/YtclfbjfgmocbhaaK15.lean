/- What functions of the program return, as walks over their operations; no statement of the seat is proved here. -/
import Derived.Test.YtclfbjfgmocbhaaK12
set_option linter.unusedVariables false
set_option linter.unusedSimpArgs false
namespace Go.Proofs.Ytclfbjfgmocbhaa
open Go Go.RowKit Go.Sw Go.Ech
open Classical
/-- The model's equations for a vector behind. -/
def bL (p n : Nat) (T : Nat → Nat → Nat → Nat) (v uu : Nat → Nat) (k j : Nat) : Nat := if j < n then timesS p n T v (fun y => if y = j then 1 else 0) k else uu k
theorem bL_lt {p n : Nat} {T : Nat → Nat → Nat → Nat} {v uu : Nat → Nat} (hp : 0 < p) (hu : ∀ c, uu c < p) : ∀ k j, bL p n T v uu k j < p := fun k j => by
  unfold bL; split
  · unfold timesS; split
    · unfold timesV; exact Nat.mod_lt _ hp
    · exact hp
  · exact hu k
theorem bL_ker {p n : Nat} {T : Nat → Nat → Nat → Nat} {v uu x : Nat → Nat} : Ker p (n + 1) (bL p n T v uu) n (aug n x) ↔ ∀ c, c < n → (p : Int) ∣ Pr n T (ci v) (ci x) c - (uu c : Int) := by
  unfold Ker
  refine forall_congr' fun c => imp_congr_right fun hc => ?_
  rw [← left_iff]
  have e : dot (n + 1) (ci (bL p n T v uu c)) (aug n x) = sI (fun a => (x a : Int) * ((timesV p n T v (fun y => if y = a then 1 else 0) c : Nat) : Int)) n - (uu c : Int) := by
    unfold dot
    simp only [sI]
    have e1 : sI (fun j => ci (bL p n T v uu c) j * aug n x j) n = sI (fun a => (x a : Int) * ((timesV p n T v (fun y => if y = a then 1 else 0) c : Nat) : Int)) n := sI_congr fun j hj => by
      rw [aug_lt hj]; simp only [ci, bL, if_pos hj, timesS, if_pos hc]; exact Int.mul_comm _ _
    have e2 : ci (bL p n T v uu c) n = (uu c : Int) := by simp only [ci, bL]; rw [if_neg (by omega)]
    rw [e1, e2, aug_n]; omega
  rw [e]
theorem Pr_lin {n : Nat} {T : Nat → Nat → Nat → Nat} {v A B C : Nat → Int} {d : Nat} : Pr n T v (fun c => A c - B c + C c) d = Pr n T v A d - Pr n T v B d + Pr n T v C d := by
  simp only [Pr_right]
  rw [sI_sub, ← sI_add]
  exact sI_congr fun b _ => by grind
/-- What is the only one to solve v x = u is the inverse from both sides. -/
theorem left_two {p n : Nat} {T : Nat → Nat → Nat → Nat} {uu v x : Nat → Nat} (hp : 0 < p) (ha : AssI p n T) (hu : UnitI p n T uu) (hvx : ∀ c, c < n → (p : Int) ∣ Pr n T (ci v) (ci x) c - (uu c : Int))
    (hq : ∀ y : Nat → Nat, (∀ i, i < n → y i < p) → (∀ c, c < n → (p : Int) ∣ Pr n T (ci v) (ci y) c - (uu c : Int)) → ∀ i, i < n → y i = x i) : ∀ c, c < n → (p : Int) ∣ Pr n T (ci x) (ci v) c - (uu c : Int) := by
  intro c hc
  let z : Nat → Int := fun c => Pr n T (ci x) (ci v) c - ci uu c + ci x c
  let y : Nat → Nat := fun c => (z c % (p : Int)).toNat
  have hp' : (0 : Int) < p := by omega
  have hyz : ∀ c, (p : Int) ∣ ci y c - z c := fun c => by
    have h1 : ci y c = z c % (p : Int) := by
      have := Int.emod_nonneg (z c) (show (p : Int) ≠ 0 by omega)
      simp only [ci, y]; omega
    rw [h1]; exact emod_dvd _ _
  have hy1 : ∀ i, i < n → y i < p := fun i _ => by
    have h1 := Int.emod_nonneg (z i) (show (p : Int) ≠ 0 by omega)
    have h2 := Int.emod_lt_of_pos (z i) hp'
    simp only [y]; omega
  have hy2 : ∀ d, d < n → (p : Int) ∣ Pr n T (ci v) (ci y) d - (uu d : Int) := fun d hd => by
    have a1 : (p : Int) ∣ Pr n T (ci v) (ci y) d - Pr n T (ci v) z d := Pr_congr (fun a _ => by simp) (fun b _ => hyz b) d
    have a2 : Pr n T (ci v) z d = Pr n T (ci v) (Pr n T (ci x) (ci v)) d - Pr n T (ci v) (ci uu) d + Pr n T (ci v) (ci x) d := Pr_lin
    have a3 := Pr_assoc ha (ci v) (ci x) (ci v) hd
    have a4 : (p : Int) ∣ Pr n T (Pr n T (ci v) (ci x)) (ci v) d - Pr n T (ci uu) (ci v) d := Pr_congr (fun a h => hvx a h) (fun b _ => by simp) d
    have a5 := Pr_unit_left hu (ci v) hd
    have a6 := Pr_unit_right hu (ci v) hd
    have a7 := hvx d hd
    rw [a2] at a1
    have b1 := Int.dvd_add a1 a7
    have b2 := Int.dvd_sub b1 a3
    have b3 := Int.dvd_add b2 a4
    have b4 := Int.dvd_add b3 a5
    have b5 := Int.dvd_sub b4 a6
    have e : ∀ Y A U X W Q V u : Int, Y - (A - U + X) + (X - u) - (W - A) + (W - Q) + (Q - V) - (U - V) = Y - u := by intro Y A U X W Q V u; omega
    rwa [e] at b5
  have h3 := hq y hy1 hy2 c hc
  have h4 := hyz c
  have e : ci y c = ci x c := by simp only [ci]; rw [h3]
  rw [e] at h4
  have h5 := Int.dvd_neg.2 h4
  rwa [show -(ci x c - z c) = Pr n T (ci x) (ci v) c - (uu c : Int) by simp only [z, ci]; omega] at h5
theorem left_yes {p n k : Nat} {E : Nat → Nat → Nat} {ld : Nat → Nat} {T : Nat → Nat → Nat → Nat} {uu v : Nat → Nat} (hp : 0 < p) (ha : AssI p n T) (hu : UnitI p n T uu) (h : Rref p (n + 1) E k ld) (hK : ∀ x, Ker p (n + 1) E k x ↔ Ker p (n + 1) (bL p n T v uu) n x) (hf : Full p n E k ld) : InvI p n T uu v (fun c => if c < n then E c n else 0) := by
  have hkk := hf.k
  have hl : ∀ c, c < n → (p : Int) ∣ Pr n T (ci v) (ci (fun c => if c < n then E c n else 0)) c - (uu c : Int) :=
    bL_ker.1 ((hK _).1 ((full_sol h hf (fun c => if c < n then E c n else 0) (fun i hi => by simp only [if_pos hi]; exact h.small i (by omega) n (by omega))).2 (fun i hi => by simp only [if_pos hi])))
  refine ⟨fun c => ?_, fun c hc => by simp [show ¬ c < n by omega], ?_, hl⟩
  · split
    · rename_i hc; exact h.small c (by omega) n (by omega)
    · exact hp
  · exact left_two hp ha hu hl fun y hy hyK i hi => by
      have := (full_sol h hf y hy).1 ((hK _).2 (bL_ker.2 hyK)) i hi
      rw [this, if_pos hi]
theorem left_full {p n k : Nat} {E : Nat → Nat → Nat} {ld : Nat → Nat} {T : Nat → Nat → Nat → Nat} {uu v w : Nat → Nat} (hp : 2 ≤ p) (ha : AssI p n T) (hu : UnitI p n T uu) (h : Rref p (n + 1) E k ld) (hK : ∀ x, Ker p (n + 1) E k x ↔ Ker p (n + 1) (bL p n T v uu) n x) (hw : InvI p n T uu v w) : Full p n E k ld := by
  refine full_of_unique hp h w (fun i _ => hw.small i) ((hK _).2 (bL_ker.2 hw.left)) (fun y hy hyK i hi => eq_of_dvd (hy i hi) (hw.small i) ?_)
  have hyl := bL_ker.1 ((hK _).1 hyK)
  -- w v = u and v y = u: y is w
  have h1 := Pr_assoc ha (ci w) (ci v) (ci y) hi
  have h2 : (p : Int) ∣ Pr n T (Pr n T (ci w) (ci v)) (ci y) i - Pr n T (ci uu) (ci y) i := Pr_congr (fun a h => hw.right a h) (fun b _ => by simp) i
  have h3 : (p : Int) ∣ Pr n T (ci w) (Pr n T (ci v) (ci y)) i - Pr n T (ci w) (ci uu) i := Pr_congr (fun a _ => by simp) (fun b h => hyl b h) i
  have h4 := Pr_unit_left hu (ci y) hi
  have h5 := Pr_unit_right hu (ci w) hi
  have e : ci y i - ci w i = (Pr n T (Pr n T (ci w) (ci v)) (ci y) i - Pr n T (ci w) (Pr n T (ci v) (ci y)) i) - (Pr n T (Pr n T (ci w) (ci v)) (ci y) i - Pr n T (ci uu) (ci y) i) - (Pr n T (ci uu) (ci y) i - ci y i) + (Pr n T (ci w) (Pr n T (ci v) (ci y)) i - Pr n T (ci w) (ci uu) i) + (Pr n T (ci w) (ci uu) i - ci w i) := by omega
  show (p : Int) ∣ ci y i - ci w i
  rw [e]
  exact Int.dvd_add (Int.dvd_add (Int.dvd_sub (Int.dvd_sub h1 h2) h4) h3) h5

end Go.Proofs.Ytclfbjfgmocbhaa

namespace Go.Proofs.Ytclfbjfgmocbhaa
open Go Go.RowKit Go.Sw Go.Ech
open Classical
theorem l02Inverse_ok (p n : Nat) (T : Nat → Nat → Nat → Nat) (f v : Nat → Nat) (w : World) (hp : primeN p) (hn0 : 0 < n) (hn : n ≤ 6) (hTp : ∀ i j k, T i j k < p) (hT0 : ∀ i j k, n ≤ k → T i j k = 0) (hv : ∀ i, v i ≤ 255) (uu : Nat → Nat) (huu : UnitI p n T uu) (has : asS p n T) :
    CallsR Try.prog 84 #[.agg (algC (p : Int) (n : Int) T f), .agg (vecC v)] w (fun res _ => ∃ x b, res = .tuple #[.agg (vecC x), .bool b] ∧ ((b = true ∧ InvI p n T uu v x) ∨ (b = false ∧ ∀ q, ¬ InvI p n T uu v q))) := by
  refine calls_fr [.agg (algC (p : Int) (n : Int) T f), .agg (vecC v)] Try.func84 rfl Try.ntmps84 rfl fun a hF => ?_
  have hM : Mem w w [none, none, none, none, none, none, none, none, none, none] [] := MemX.start w 10
  change Fr 75 a [(0, .agg (algC (p : Int) (n : Int) T f)), (1, .agg (vecC v))] at hF
  have hp2 := hp.two
  have hp13 := hp.le
  have hT : ∀ i j k, T i j k ≤ 255 := fun i j k => by have := hTp i j k; omega
  have hub : ∀ c, uu c ≤ 255 := fun c => by have := huu.small c; omega
  refine sq ?_
  refine wp_region_lit ?_
  refine stR hF (d_box 0 hM hF rfl) rfl ?_
  rintro _ w' a ⟨b1, rfl, hM, -⟩ hF
  change Mem w w' [some (b1, algC (p : Int) (n : Int) T f), none, none, none, none, none, none, none, none, none] [] at hM
  refine stR hF (d_box 1 hM hF rfl) rfl ?_
  rintro _ w' a ⟨b2, rfl, hM, -⟩ hF
  change Mem w w' [some (b1, algC (p : Int) (n : Int) T f), some (b2, vecC v), none, none, none, none, none, none, none, none] [] at hM
  refine stR hF (d_alloc 2 hM ty_ze_30) rfl ?_
  rintro _ w' a ⟨b3, rfl, hM, -⟩ hF
  change Mem w w' [some (b1, algC (p : Int) (n : Int) T f), some (b2, vecC v), some (b3, fnC 6 (fun _ => .int .u8 (0))), none, none, none, none, none, none, none] [] at hM
  refine st hF (g_assign hF rfl) rfl fun a hF => ?_
  refine wpList_nil ?_
  refine tN ?_
  refine sq ?_
  refine wp_region_lit ?_
  refine st hF (g_loadAgg ty_ag_32 hF rfl (hM.row 0 rfl) (by simp only [fnC_size, cells_size, vecC_size, tabC_size, planeC_size] <;> omega) (whole cells_size)) rfl fun a hF => ?_
  refine stR hF (d_call Try.call117 hF (.cons rfl .nil) (l01Unit_ok p n T f _ hp hn0 hn hTp uu huu)) rfl ?_
  rintro _ w' a ⟨hx, rfl⟩ hF
  have hM := hM.ext hx
  refine stR hF (d_buildC 3 hM hF rfl ty_bs0_41) rfl ?_
  rintro _ w' a ⟨b4, rfl, hM, -⟩ hF
  change Mem w w' [some (b1, algC (p : Int) (n : Int) T f), some (b2, vecC v), some (b3, fnC 6 (fun _ => .int .u8 (0))), some (b4, #[]), none, none, none, none, none, none] [] at hM
  refine stR hF (d_alloc 4 hM ty_ze_30) rfl ?_
  rintro _ w' a ⟨b5, rfl, hM, -⟩ hF
  change Mem w w' [some (b1, algC (p : Int) (n : Int) T f), some (b2, vecC v), some (b3, fnC 6 (fun _ => .int .u8 (0))), some (b4, #[]), some (b5, fnC 6 (fun _ => .int .u8 (0))), none, none, none, none, none] [] at hM
  refine stN hF (d_storeAgg 4 hM rfl ty_sz_30 hF rfl rfl (by first | exact vecC_one | exact cells_one | (refine fnC_one fun _ _ => ?_; first | rfl | (split <;> rfl))) (by simp only [fnC_size, cells_size, vecC_size, tabC_size, planeC_size]) (by simp only [fnC_size, cells_size, vecC_size, tabC_size, planeC_size] <;> omega) (splice_whole _ _ (by simp only [fnC_size, cells_size, vecC_size, tabC_size, planeC_size]))) ?_
  intro _ w' a hM hF
  change Mem w w' [some (b1, algC (p : Int) (n : Int) T f), some (b2, vecC v), some (b3, fnC 6 (fun _ => .int .u8 (0))), some (b4, #[]), some (b5, vecC uu), none, none, none, none, none] [] at hM
  refine st hF (g_assign hF rfl) rfl fun a hF => ?_
  refine wpList_nil ?_
  refine tN ?_
  refine sq ?_
  refine sq ?_
  refine wp_region_lit ?_
  refine st hF (g_assign hF rfl) rfl fun a hF => ?_
  refine wpList_nil ?_
  refine tN ?_
  refine wp_block ?_
  change Mem w _ [some (b1, algC (p : Int) (n : Int) T f), some (b2, vecC v), some (b3, fnC 6 (fun _ => .int .u8 (0))), some (b4, #[]), some (b5, vecC uu), none, none, none, none, none] [] at hM
  refine c_loop (fun (kk : Nat) a w' => kk ≤ n ∧ ∃ (D1 : Froz), ∃ (β : Nat → Nat), ∃ (κ : Nat → Nat), ∃ (C : Nat → Array Value), (RowsD D1 (n + 1) kk β κ C (fun i c => .int .i64 ((bL p n T v uu i c : Nat) : Int))) ∧ ∃ (u7_1 : Value) (e7_1 : Option (Nat × Array Value)), Sl 1 u7_1 e7_1 (kk) (fun i => .slice (some ⟨β i, 0, none⟩) (n + 1) (κ i)) ∧ Fr 75 a [(0, .agg (algC (p : Int) (n : Int) T f)), (1, .agg (vecC v)), (2, ptr b1 (0)), (3, ptr b2 (0)), (4, ptr b3 (0)), (5, .bool (false)), (15, .agg (algC (p : Int) (n : Int) T f)), (16, .agg (vecC uu)), (17, .slice (some ⟨b4, 0, none⟩) (0) (0)), (6, ptr b5 (0)), (8, .int .i64 (((kk : Nat) : Int))), (7, u7_1)] ∧ Mem w w' [some (b1, algC (p : Int) (n : Int) T f), some (b2, vecC v), some (b3, fnC 6 (fun _ => .int .u8 (0))), e7_1, some (b5, vecC uu), none, none, none, none, none] D1) (fun kk => n - kk) 0 ?_ ?_
  ·
    refine ⟨by omega, [], (fun _ => 0), (fun _ => 0), (fun _ => #[]), RowsD.none, (.slice (some ⟨b4, 0, none⟩) (0) (0)), (some (b4, #[])), Sl.empty _ _ _, hF.sub _ (by repeat' constructor), ?_⟩
    exact hM
  ·
    clear hF hM
    rintro gk a w' ⟨hgk, D1, β, κ, C, hR, u7_1, e7_1, hsl, hF, hM⟩
    have hubk := hub gk
    refine sq ?_
    refine sq ?_
    refine wp_region_lit ?_
    refine st hF (g_move hF rfl) rfl fun a hF => st hF (g_fieldAddr ty_fo_32_1 hF rfl) rfl fun a hF => st hF (g_load ty_on_2 hF rfl (hM.row 0 rfl) (algC_n (by omega))) rfl fun a hF => st hF (g_lss hF rfl rfl) rfl fun a hF => ?_
    refine wpList_nil ?_
    refine tN ?_
    refine c_cond hF rfl (fun h6 => ?_) (fun h6 => ?_)
    ·
      refine wp_skip ?_
      refine tN ?_
      refine sq ?_
      refine wp_block ?_
      refine sq ?_
      refine wp_region_lit ?_
      refine stR hF (d_buildC 5 hM hF rfl ty_bs0_81) rfl ?_
      rintro _ w' a ⟨b7, rfl, hM, -⟩ hF
      change Mem w w' [some (b1, algC (p : Int) (n : Int) T f), some (b2, vecC v), some (b3, fnC 6 (fun _ => .int .u8 (0))), e7_1, some (b5, vecC uu), some (b7, #[]), none, none, none, none] D1 at hM
      refine st hF (g_assign hF rfl) rfl fun a hF => ?_
      refine wpList_nil ?_
      refine tN ?_
      refine sq ?_
      refine sq ?_
      refine wp_region_lit ?_
      refine st hF (g_assign hF rfl) rfl fun a hF => ?_
      refine wpList_nil ?_
      refine tN ?_
      refine wp_block ?_
      change Mem w _ [some (b1, algC (p : Int) (n : Int) T f), some (b2, vecC v), some (b3, fnC 6 (fun _ => .int .u8 (0))), e7_1, some (b5, vecC uu), some (b7, #[]), none, none, none, none] D1 at hM
      refine c_loop (fun (kk : Nat) a w' => kk ≤ n ∧ (True) ∧ ∃ (u9_2 : Value) (e9_2 : Option (Nat × Array Value)), Sl 1 u9_2 e9_2 (kk) (fun c => .int .i64 ((timesS p n T v (fun y => if y = c then 1 else 0) gk : Nat) : Int)) ∧ Fr 75 a [(0, .agg (algC (p : Int) (n : Int) T f)), (1, .agg (vecC v)), (2, ptr b1 (0)), (3, ptr b2 (0)), (4, ptr b3 (0)), (5, .bool (false)), (15, .agg (algC (p : Int) (n : Int) T f)), (16, .agg (vecC uu)), (17, .slice (some ⟨b4, 0, none⟩) (0) (0)), (6, ptr b5 (0)), (8, .int .i64 (((gk : Nat) : Int))), (7, u7_1), (18, .int .i64 (((gk : Nat) : Int))), (19, ptr b1 (0 + 1)), (20, .int .i64 (((n : Nat) : Int))), (21, .bool (decide ((((gk : Nat) : Int) : Int) < ((n : Nat) : Int)))), (24, .slice (some ⟨b7, 0, none⟩) (0) (0)), (10, .int .i64 (((kk : Nat) : Int))), (9, u9_2)] ∧ Mem w w' [some (b1, algC (p : Int) (n : Int) T f), some (b2, vecC v), some (b3, fnC 6 (fun _ => .int .u8 (0))), e7_1, some (b5, vecC uu), e9_2, none, none, none, none] D1) (fun kk => n - kk) 0 ?_ ?_
      ·
        refine ⟨by omega, trivial, (.slice (some ⟨b7, 0, none⟩) (0) (0)), (some (b7, #[])), Sl.empty _ _ _, hF.sub _ (by repeat' constructor), ?_⟩
        exact hM
      ·
        clear hF hM
        rintro gj a w' ⟨hgj, hinv2, u9_2, e9_2, hrow, hF, hM⟩
        have htg : timesS p n T v (fun c => if c = gj then 1 else 0) gk ≤ 255 := timesS_le (by omega) (by omega) _ _ _
        refine sq ?_
        refine sq ?_
        refine wp_region_lit ?_
        refine st hF (g_move hF rfl) rfl fun a hF => st hF (g_fieldAddr ty_fo_32_1 hF rfl) rfl fun a hF => st hF (g_load ty_on_2 hF rfl (hM.row 0 rfl) (algC_n (by omega))) rfl fun a hF => st hF (g_lss hF rfl rfl) rfl fun a hF => ?_
        refine wpList_nil ?_
        refine tN ?_
        refine c_cond hF rfl (fun h8 => ?_) (fun h8 => ?_)
        ·
          refine wp_skip ?_
          refine tN ?_
          refine sq ?_
          refine wp_block ?_
          refine c_par 10 [6] [.val (u9_2), .val (.agg (algC (p : Int) (n : Int) T f)), .val (.agg (vecC v)), .val (.int .i64 (((gj : Nat) : Int))), .val (.agg (vecC (fun c => if c = gj then 1 else 0))), .val (.agg (vecC (timesS p n T (v) ((fun c => if c = gj then 1 else 0))))), .val (.int .i64 (((gk : Nat) : Int))), .val (.int .u8 ((((timesS p n T (v) ((fun c => if c = gj then 1 else 0))) (gk) : Nat) : Int))), .val (.int .i64 ((((timesS p n T (v) ((fun c => if c = gj then 1 else 0))) (gk) : Nat) : Int))), .own 6 (#[.int .i64 ((((timesS p n T (v) ((fun c => if c = gj then 1 else 0))) (gk) : Nat) : Int))]) (fun b => .slice (some ⟨b, 0, none⟩) 1 1)] hmix rfl hF rfl hM ⟨fun a w g hF hS hd => by exact par_val hS rfl (g_move hF rfl), fun a w g hF hS hd => by have hM := hS.mem rfl; exact par_val hS rfl (g_loadAgg ty_ag_32 hF rfl (hM.row 0 rfl) (by simp only [fnC_size, cells_size, vecC_size, tabC_size, planeC_size] <;> omega) (whole cells_size)), fun a w g hF hS hd => by have hM := hS.mem rfl; exact par_val hS rfl (g_loadAgg ty_ag_30 hF rfl (hM.row 1 rfl) (by simp only [fnC_size, cells_size, vecC_size, tabC_size, planeC_size] <;> omega) (whole (by simp only [fnC_size, cells_size, vecC_size, tabC_size, planeC_size]))), fun a w g hF hS hd => by exact par_val hS rfl (g_move hF rfl), fun a w g hF hS hd => by have hF := hF.ext1 34 (hd 3 rfl rfl); exact par_call (by repeat constructor) hS rfl (d_call Try.call111 hF (.cons rfl .nil) (l01Basis_ok (gj) _ (by omega))), fun a w g hF hS hd => by have hF := hF.ext1 32 (hd 1 rfl rfl); have hF := hF.ext1 33 (hd 2 rfl rfl); have hF := hF.ext1 35 (hd 4 rfl rfl); exact par_call (by repeat constructor) hS rfl (d_call Try.call110 hF (.cons rfl (.cons rfl (.cons rfl .nil))) (l01Times_ok p n T f (v) ((fun c => if c = gj then 1 else 0)) _ (by omega) (by omega) (by omega) (fun _ _ _ => hT _ _ _) (fun _ => by first | exact hv _ | exact hvt _ | exact hvs _ | exact hu _ | exact hT _ _ _ | exact hf _ | omega | (split <;> omega) | (dsimp only; split <;> omega) | assumption) (fun _ => by first | exact hv _ | exact hvt _ | exact hvs _ | exact hu _ | exact hT _ _ _ | exact hf _ | omega | (split <;> omega) | (dsimp only; split <;> omega) | assumption))), fun a w g hF hS hd => by exact par_val hS rfl (g_move hF rfl), fun a w g hF hS hd => by have hF := hF.ext1 36 (hd 5 rfl rfl); have hF := hF.ext1 37 (hd 6 rfl rfl); exact par_val hS rfl (g_index ty_ua_30 ty_on_5 hF rfl rfl rfl (by omega) (vecC_get (gk) (by omega) (by omega))), fun a w g hF hS hd => by have hF := hF.ext1 38 (hd 7 rfl rfl); exact par_val hS rfl (g_conv ty_un_2 ty_ud_5 hF rfl (wrap_i64 (by omega) (by omega))), fun a w g hF hS hd => by have hF := hF.ext1 39 (hd 8 rfl rfl); exact par_own (by repeat constructor) hS rfl rfl rfl rfl (d_buildC 6 hS.1 hF (build1 hF rfl) (ty_bs1_81 _)), trivial⟩ ?_
          intro a w' L hF hS hq
          have hF := hF.ext1 31 (hq 0 rfl rfl)
          have hF := hF.ext1 32 (hq 1 rfl rfl)
          have hF := hF.ext1 33 (hq 2 rfl rfl)
          have hF := hF.ext1 34 (hq 3 rfl rfl)
          have hF := hF.ext1 35 (hq 4 rfl rfl)
          have hF := hF.ext1 36 (hq 5 rfl rfl)
          have hF := hF.ext1 37 (hq 6 rfl rfl)
          have hF := hF.ext1 38 (hq 7 rfl rfl)
          have hF := hF.ext1 39 (hq 8 rfl rfl)
          obtain ⟨hM, hL⟩ := hS
          obtain ⟨b9, hptr, hkk⟩ := hq 9 rfl rfl
          have hF := hF.ext1 40 hptr
          have hL := hL.take hkk
          obtain rfl := hL.eq
          change Mem w w' [some (b1, algC (p : Int) (n : Int) T f), some (b2, vecC v), some (b3, fnC 6 (fun _ => .int .u8 (0))), e7_1, some (b5, vecC uu), e9_2, some (b9, #[.int .i64 ((((timesS p n T (v) ((fun c => if c = gj then 1 else 0))) (gk) : Nat) : Int))]), none, none, none] D1 at hM
          change wpList Try.prog _ _ [_, _] _ _
          refine stR hF (d_append (k := 5) (m := 1) (g := fun _ => .int .i64 ((((timesS p n T (v) ((fun c => if c = gj then 1 else 0))) (gk) : Nat) : Int))) ty_si_81 rfl (by decide) hM rfl hF rfl rfl hrow (fun i hi => by rw [show i = 0 by omega]; exact (hM.row 6 rfl).cell 0) (fun _ _ => rfl) (by decide) (by unfold maxLen; omega) (by omega)) rfl ?_
          rintro u10 w' a ⟨e11, hM, hs12⟩ hF
          change Mem w w' [some (b1, algC (p : Int) (n : Int) T f), some (b2, vecC v), some (b3, fnC 6 (fun _ => .int .u8 (0))), e7_1, some (b5, vecC uu), e11, some (b9, #[.int .i64 ((((timesS p n T (v) ((fun c => if c = gj then 1 else 0))) (gk) : Nat) : Int))]), none, none, none] D1 at hM
          refine st hF (g_assign hF rfl) rfl fun a hF => ?_
          refine wpList_nil ?_
          refine iN ?_
          refine tN ?_
          refine wp_region_lit ?_
          refine st hF (g_move hF rfl) rfl fun a hF => st hF (g_add hF rfl rfl (add_nat (gj) (1) (by omega))) rfl fun a hF => st hF (g_assign hF rfl) rfl fun a hF => ?_
          refine wpList_nil ?_
          refine tN ?_
          have hM := hM.drop 6
          refine ⟨gj + 1, ⟨by omega, trivial, (u10), (e11), hs12.snoc rfl, hF.sub _ (by repeat' constructor), ?_⟩, by omega⟩
          exact hM
        ·
          obtain rfl : n = gj := by omega
          refine wp_exit ?_
          refine tX ?_
          refine tX ?_
          refine ib_same ?_
          refine tN ?_
          refine wp_region_lit ?_
          refine st hF (g_move hF rfl) rfl fun a hF => st hF (g_move hF rfl) rfl fun a hF => st hF (g_move hF rfl) rfl fun a hF => st hF (g_indexAddr ty_ar_30 hF rfl rfl rfl (by omega)) rfl fun a hF => st hF (g_load ty_on_5 hF rfl (hM.row 4 rfl) (vecC_get (gk) (by omega) (by omega))) rfl fun a hF => st hF (g_conv ty_un_2 ty_ud_5 hF rfl (wrap_i64 (by omega) (by omega))) rfl fun a hF => ?_
          refine stR hF (d_buildC 7 hM hF (build1 hF rfl) (ty_bs1_81 _)) rfl ?_
          rintro _ w' a ⟨b13, rfl, hM, -⟩ hF
          change Mem w w' [some (b1, algC (p : Int) (n : Int) T f), some (b2, vecC v), some (b3, fnC 6 (fun _ => .int .u8 (0))), e7_1, some (b5, vecC uu), e9_2, none, some (b13, #[.int .i64 (((uu (gk) : Nat) : Int))]), none, none] D1 at hM
          refine stR hF (d_append (k := 5) (m := 1) (g := fun _ => .int .i64 (((uu (gk) : Nat) : Int))) ty_si_81 rfl (by decide) hM rfl hF rfl rfl hrow (fun i hi => by rw [show i = 0 by omega]; exact (hM.row 7 rfl).cell 0) (fun _ _ => rfl) (by decide) (by unfold maxLen; omega) (by omega)) rfl ?_
          rintro u14 w' a ⟨e15, hM, hs16⟩ hF
          change Mem w w' [some (b1, algC (p : Int) (n : Int) T f), some (b2, vecC v), some (b3, fnC 6 (fun _ => .int .u8 (0))), e7_1, some (b5, vecC uu), e15, none, some (b13, #[.int .i64 (((uu (gk) : Nat) : Int))]), none, none] D1 at hM
          obtain ⟨bR, capR, csR, rfl, rfl, hsR⟩ := hs16.pos (by omega)
          have hsR := hsR.congr (g := fun c => .int .i64 ((bL p n T v uu gk c : Nat) : Int)) (fun c hc => by
            by_cases e : c < n
            · rw [if_pos (by omega)]; unfold bL; rw [if_pos e]
            · rw [if_neg (by omega)]; unfold bL; rw [if_neg e])
          have hM := hM.freeze 5 rfl
          have hR2 := (hR.more (D' := (bR, csR) :: D1) (fun x hx => List.mem_cons_of_mem _ hx)).snoc (List.mem_cons_self ..) hsR
          change Mem w _ [some (b1, algC (p : Int) (n : Int) T f), some (b2, vecC v), some (b3, fnC 6 (fun _ => .int .u8 (0))), e7_1, some (b5, vecC uu), none, none, some (b13, #[.int .i64 (((uu (gk) : Nat) : Int))]), none, none] ((bR, csR) :: D1) at hM
          refine stR hF (d_buildC 8 hM hF (build1 hF rfl) (ty_bsv_41 _ _ _)) rfl ?_
          rintro _ w' a ⟨b17, rfl, hM, -⟩ hF
          change Mem w w' [some (b1, algC (p : Int) (n : Int) T f), some (b2, vecC v), some (b3, fnC 6 (fun _ => .int .u8 (0))), e7_1, some (b5, vecC uu), none, none, some (b13, #[.int .i64 (((uu (gk) : Nat) : Int))]), some (b17, #[.slice (some ⟨bR, 0, none⟩) ((n + 1)) (capR)]), none] ((bR, csR) :: D1) at hM
          refine stR hF (d_append (k := 3) (m := 1) (g := fun _ => .slice (some ⟨bR, 0, none⟩) ((n + 1)) (capR)) ty_si_41 rfl (by decide) hM rfl hF rfl rfl hsl (fun i hi => by rw [show i = 0 by omega]; exact (hM.row 8 rfl).cell 0) (fun _ _ => rfl) (by decide) (by unfold maxLen; omega) (by omega)) rfl ?_
          rintro u18 w' a ⟨e19, hM, hs20⟩ hF
          change Mem w w' [some (b1, algC (p : Int) (n : Int) T f), some (b2, vecC v), some (b3, fnC 6 (fun _ => .int .u8 (0))), e19, some (b5, vecC uu), none, none, some (b13, #[.int .i64 (((uu (gk) : Nat) : Int))]), some (b17, #[.slice (some ⟨bR, 0, none⟩) ((n + 1)) (capR)]), none] ((bR, csR) :: D1) at hM
          refine st hF (g_assign hF rfl) rfl fun a hF => ?_
          refine wpList_nil ?_
          refine iN ?_
          refine tN ?_
          refine wp_region_lit ?_
          refine st hF (g_move hF rfl) rfl fun a hF => st hF (g_add hF rfl rfl (add_nat (gk) (1) (by omega))) rfl fun a hF => st hF (g_assign hF rfl) rfl fun a hF => ?_
          refine wpList_nil ?_
          refine tN ?_
          have hsl := hs20.snocR
          have hR2 := hR2.congr (g := fun i c => .int .i64 ((bL p n T v uu i c : Nat) : Int)) (fun i hi c hc => by
            by_cases e : i = gk
            · rw [e]; simp only [up_eq]
            · simp only [up_ne e])
          have hM := hM.drop 7
          have hM := hM.drop 8
          refine ⟨gk + 1, ⟨by omega, ((bR, csR) :: D1), (up β gk bR), (up κ gk capR), (up C gk csR), hR2, (u18), (e19), hsl, hF.sub _ (by repeat' constructor), ?_⟩, by omega⟩
          exact hM
    ·
      obtain rfl : n = gk := by omega
      obtain ⟨b0, c0, cs0, rfl, rfl, hs0⟩ := hsl.pos hn0
      have hM := hM.freeze 3 rfl
      have hb0 : (b0, cs0) ∈ (b0, cs0) :: D1 := List.mem_cons_self ..
      have hRm0 : ∀ x ∈ D1, x ∈ (b0, cs0) :: D1 := fun x hx => List.mem_cons_of_mem _ hx
      have hfM1 := bL_lt (n := n) (T := T) (v := v) (show 0 < p by omega) huu.small
      change Mem w _ [some (b1, algC (p : Int) (n : Int) T f), some (b2, vecC v), some (b3, fnC 6 (fun _ => .int .u8 (0))), none, some (b5, vecC uu), none, none, none, none, none] ((b0, cs0) :: D1) at hM
      refine wp_exit ?_
      refine tX ?_
      refine tX ?_
      refine ib_same ?_
      refine tN ?_
      refine sq ?_
      refine wp_region_lit ?_
      refine st hF (g_fieldAddr ty_fo_32_0 hF rfl) rfl fun a hF => st hF (g_load ty_on_2 hF rfl (hM.row 0 rfl) (algC_p (by omega))) rfl fun a hF => st hF (g_move hF rfl) rfl fun a hF => ?_
      refine stR hF (d_call Try.call89 hF (.cons rfl (.cons rfl .nil)) (l01Solve_ok p n (n) (b0) (c0) (cs0) ((b0, cs0) :: D1) β κ C (bL p n T v uu) _ hp (by omega) (by omega) (by omega) (by omega) hfM1 (fun _ _ hm => hM.fzm hm) hb0 (fun i hi => hs0.get1 i hi) (hR.more hRm0))) rfl ?_
      rintro _ w' a ⟨hx, kE, E, ld, hE, hKer, hE1, ⟨hk, hld, ul, rfl, hown⟩ | ⟨hno, rfl⟩⟩ hF
      ·
        have hfr := hown.fresh hM
        have hM := hM.ext hx
        obtain ⟨bl, capl, csl, hsl, -, hM⟩ := hM.addF hfr
        obtain rfl := hsl.val
        have hblm : (bl, csl) ∈ ((bl, csl) :: ((b0, cs0) :: D1)) := List.mem_cons_self ..
        refine st hF (g_move hF rfl) rfl fun a hF => st hF (g_extract hF rfl rfl) rfl fun a hF => st hF (g_extract hF rfl rfl) rfl fun a hF => st hF (g_assign hF rfl) rfl fun a hF => st hF (g_assign hF rfl) rfl fun a hF => ?_
        refine wpList_nil ?_
        refine tN ?_
        refine sq ?_
        refine wp_region_lit ?_
        refine st hF (g_build0 ty_bu_30) rfl fun a hF => ?_
        refine stR hF (d_alloc 9 hM ty_ze_30) rfl ?_
        rintro _ w' a ⟨b21, rfl, hM, -⟩ hF
        change Mem w w' [some (b1, algC (p : Int) (n : Int) T f), some (b2, vecC v), some (b3, fnC 6 (fun _ => .int .u8 (0))), none, some (b5, vecC uu), none, none, none, none, some (b21, fnC 6 (fun _ => .int .u8 (0)))] ((bl, csl) :: ((b0, cs0) :: D1)) at hM
        refine stN hF (d_storeAgg 9 hM rfl ty_sz_30 hF rfl rfl (by first | exact vecC_one | exact cells_one | (refine fnC_one fun _ _ => ?_; first | rfl | (split <;> rfl))) (by simp only [fnC_size, cells_size, vecC_size, tabC_size, planeC_size]) (by simp only [fnC_size, cells_size, vecC_size, tabC_size, planeC_size] <;> omega) (splice_whole _ _ (by simp only [fnC_size, cells_size, vecC_size, tabC_size, planeC_size]))) ?_
        intro _ w' a hM hF
        change Mem w w' [some (b1, algC (p : Int) (n : Int) T f), some (b2, vecC v), some (b3, fnC 6 (fun _ => .int .u8 (0))), none, some (b5, vecC uu), none, none, none, none, some (b21, fnC 6 (fun _ => .int .u8 (0)))] ((bl, csl) :: ((b0, cs0) :: D1)) at hM
        refine wpList_nil ?_
        refine tN ?_
        refine sq ?_
        refine sq ?_
        refine wp_region_lit ?_
        refine st hF (g_assign hF rfl) rfl fun a hF => ?_
        refine wpList_nil ?_
        refine tN ?_
        refine wp_block ?_
        change Mem w _ [some (b1, algC (p : Int) (n : Int) T f), some (b2, vecC v), some (b3, fnC 6 (fun _ => .int .u8 (0))), none, some (b5, vecC uu), none, none, none, none, some (b21, fnC 6 (fun _ => .int .u8 (0)))] ((bl, csl) :: ((b0, cs0) :: D1)) at hM
        refine c_loop (fun (kk : Nat) a w' => kk ≤ n ∧ (True) ∧ Fr 75 a [(56, .tuple #[.slice (some ⟨bl, 0, none⟩) (n) (capl), .bool (true)]), (0, .agg (algC (p : Int) (n : Int) T f)), (1, .agg (vecC v)), (2, ptr b1 (0)), (3, ptr b2 (0)), (4, ptr b3 (0)), (5, .bool (false)), (15, .agg (algC (p : Int) (n : Int) T f)), (16, .agg (vecC uu)), (17, .slice (some ⟨b4, 0, none⟩) (0) (0)), (6, ptr b5 (0)), (8, .int .i64 (((n : Nat) : Int))), (7, .slice (some ⟨b0, 0, none⟩) (n) (c0)), (18, .int .i64 (((n : Nat) : Int))), (19, ptr b1 (0 + 1)), (20, .int .i64 (((n : Nat) : Int))), (21, .bool (decide ((((n : Nat) : Int) : Int) < ((n : Nat) : Int)))), (53, ptr b1 (0 + 0)), (54, .int .i64 (((p : Nat) : Int))), (55, .slice (some ⟨b0, 0, none⟩) (n) (c0)), (52, .tuple #[.slice (some ⟨bl, 0, none⟩) (n) (capl), .bool (true)]), (57, .slice (some ⟨bl, 0, none⟩) (n) (capl)), (58, .bool (true)), (11, .slice (some ⟨bl, 0, none⟩) (n) (capl)), (12, .bool (true)), (59, .agg (fnC 6 (fun _ => .int .u8 (0)))), (13, ptr b21 (0)), (14, .int .i64 (((kk : Nat) : Int)))] ∧ Mem w w' [some (b1, algC (p : Int) (n : Int) T f), some (b2, vecC v), some (b3, fnC 6 (fun _ => .int .u8 (0))), none, some (b5, vecC uu), none, none, none, none, some (b21, fnC 6 (fun c => .int .u8 ((if c < kk then E c n else 0 : Nat) : Int)))] ((bl, csl) :: ((b0, cs0) :: D1))) (fun kk => n - kk) 0 ?_ ?_
        ·
          refine ⟨by omega, trivial, hF.sub _ (by repeat' constructor), ?_⟩
          exact hM.cast (by simp)
        ·
          clear hF hM
          rintro gl a w' ⟨hgl, hinv3, hF, hM⟩
          have hel := hE1 gl n
          refine sq ?_
          refine sq ?_
          refine wp_region_lit ?_
          refine st hF (g_move hF rfl) rfl fun a hF => st hF (g_move hF rfl) rfl fun a hF => st hF (g_len ty_us_81 hF rfl) rfl fun a hF => st hF (g_lss hF rfl rfl) rfl fun a hF => ?_
          refine wpList_nil ?_
          refine tN ?_
          refine c_cond hF rfl (fun h22 => ?_) (fun h22 => ?_)
          ·
            refine wp_skip ?_
            refine tN ?_
            refine sq ?_
            refine wp_block ?_
            refine wp_region_lit ?_
            refine st hF (g_move hF rfl) rfl fun a hF => st hF (g_move hF rfl) rfl fun a hF => st hF (g_move hF rfl) rfl fun a hF => st hF (g_indexSl (i := gl) ty_sl_81 hF rfl rfl rfl (by omega)) rfl fun a hF => st hF (g_load ty_on_2 hF rfl (hM.fzm hblm) (hsl.get1 (gl) (by omega))) rfl fun a hF => st hF (g_conv ty_un_5 ty_ud_2 hF rfl (wrap_u8 (by omega) (by have := hE1 gl n; omega))) rfl fun a hF => st hF (g_indexAddr ty_ar_30 hF rfl rfl rfl (by omega)) rfl fun a hF => ?_
            refine stN hF (d_store 9 hM rfl ty_on_5 hF rfl rfl rfl (by first | omega | (simp only [fnC_size, cells_size, vecC_size, tabC_size, planeC_size] <;> omega))) ?_
            intro _ w' a hM hF
            rw [show (fnC 6 (fun c => .int .u8 ((if c < gl then E c n else 0 : Nat) : Int))).setIfInBounds (0 + (gl) * 1) (.int .u8 (((E (gl) n : Nat) : Int))) = fnC 6 (fun c => .int .u8 (((if c = gl then E (gl) n else if c < gl then E c n else 0) : Nat) : Int)) from fnC_set (fun c _ => by rw [show 0 + (gl) * 1 = gl by omega]; by_cases hh : c = gl <;> simp [hh])] at hM
            change Mem w w' [some (b1, algC (p : Int) (n : Int) T f), some (b2, vecC v), some (b3, fnC 6 (fun _ => .int .u8 (0))), none, some (b5, vecC uu), none, none, none, none, some (b21, fnC 6 (fun c => .int .u8 (((if c = gl then E (gl) n else if c < gl then E c n else 0) : Nat) : Int)))] ((bl, csl) :: ((b0, cs0) :: D1)) at hM
            refine wpList_nil ?_
            refine iN ?_
            refine tN ?_
            refine wp_region_lit ?_
            refine st hF (g_move hF rfl) rfl fun a hF => st hF (g_add hF rfl rfl (add_nat (gl) (1) (by omega))) rfl fun a hF => st hF (g_assign hF rfl) rfl fun a hF => ?_
            refine wpList_nil ?_
            refine tN ?_
            refine ⟨gl + 1, ⟨by omega, trivial, hF.sub _ (by repeat' constructor), ?_⟩, by omega⟩
            refine hM.rowc 9 rfl (fnC_congr fun c hc => congrArg (Value.int .u8) (congrArg Nat.cast ?_))
            by_cases e1 : c = gl
            · simp [e1]
            · have e0 : (c < gl + 1) = (c < gl) := by apply propext; omega
              simp [e0, e1]
          ·
            obtain rfl : n = gl := by omega
            have hM := hM.rowc (cs' := vecC (fun c => if c < n then E c n else 0)) 9 rfl rfl
            refine wp_exit ?_
            refine tX ?_
            refine tX ?_
            refine ib_same ?_
            refine tN ?_
            refine sq ?_
            refine wp_region_lit ?_
            refine st hF (g_loadAgg ty_ag_30 hF rfl (hM.row 9 rfl) (by simp only [fnC_size, cells_size, vecC_size, tabC_size, planeC_size] <;> omega) (whole (by simp only [fnC_size, cells_size, vecC_size, tabC_size, planeC_size]))) rfl fun a hF => st hF (g_move hF rfl) rfl fun a hF => ?_
            refine stN hF (d_storeAgg 2 hM rfl ty_sz_30 hF rfl rfl (by first | exact vecC_one | exact cells_one | (refine fnC_one fun _ _ => ?_; first | rfl | (split <;> rfl))) (by simp only [fnC_size, cells_size, vecC_size, tabC_size, planeC_size]) (by simp only [fnC_size, cells_size, vecC_size, tabC_size, planeC_size] <;> omega) (splice_whole _ _ (by simp only [fnC_size, cells_size, vecC_size, tabC_size, planeC_size]))) ?_
            intro _ w' a hM hF
            change Mem w w' [some (b1, algC (p : Int) (n : Int) T f), some (b2, vecC v), some (b3, vecC (fun c => if c < n then E c n else 0)), none, some (b5, vecC uu), none, none, none, none, some (b21, vecC (fun c => if c < n then E c n else 0))] ((bl, csl) :: ((b0, cs0) :: D1)) at hM
            refine st hF (g_assign hF rfl) rfl fun a hF => ?_
            refine wpList_nil ?_
            refine tN ?_
            refine wp_ret ?_
            refine fin2 rfl hF.defers (res_agg ty_ag_30 hF rfl (hM.row 2 rfl) (by simp only [fnC_size, cells_size, vecC_size, tabC_size, planeC_size])) (res_tmp hF rfl) ⟨_, rfl, hM.below, ?_⟩
            exact ⟨_, true, rfl, .inl ⟨rfl, left_yes (by omega) (AssI_of hn has) huu hE hKer ⟨hk, hld⟩⟩⟩
      ·
        have hM := hM.ext hx
        refine st hF (g_move hF rfl) rfl fun a hF => st hF (g_extract hF rfl rfl) rfl fun a hF => st hF (g_extract hF rfl rfl) rfl fun a hF => st hF (g_assign hF rfl) rfl fun a hF => st hF (g_assign hF rfl) rfl fun a hF => ?_
        refine wpList_nil ?_
        refine tN ?_
        refine sq ?_
        refine wp_region_lit ?_
        refine st hF (g_build0 ty_bu_30) rfl fun a hF => ?_
        refine stR hF (d_alloc 9 hM ty_ze_30) rfl ?_
        rintro _ w' a ⟨b23, rfl, hM, -⟩ hF
        change Mem w w' [some (b1, algC (p : Int) (n : Int) T f), some (b2, vecC v), some (b3, fnC 6 (fun _ => .int .u8 (0))), none, some (b5, vecC uu), none, none, none, none, some (b23, fnC 6 (fun _ => .int .u8 (0)))] ((b0, cs0) :: D1) at hM
        refine stN hF (d_storeAgg 9 hM rfl ty_sz_30 hF rfl rfl (by first | exact vecC_one | exact cells_one | (refine fnC_one fun _ _ => ?_; first | rfl | (split <;> rfl))) (by simp only [fnC_size, cells_size, vecC_size, tabC_size, planeC_size]) (by simp only [fnC_size, cells_size, vecC_size, tabC_size, planeC_size] <;> omega) (splice_whole _ _ (by simp only [fnC_size, cells_size, vecC_size, tabC_size, planeC_size]))) ?_
        intro _ w' a hM hF
        change Mem w w' [some (b1, algC (p : Int) (n : Int) T f), some (b2, vecC v), some (b3, fnC 6 (fun _ => .int .u8 (0))), none, some (b5, vecC uu), none, none, none, none, some (b23, fnC 6 (fun _ => .int .u8 (0)))] ((b0, cs0) :: D1) at hM
        refine wpList_nil ?_
        refine tN ?_
        refine sq ?_
        refine sq ?_
        refine wp_region_lit ?_
        refine st hF (g_assign hF rfl) rfl fun a hF => ?_
        refine wpList_nil ?_
        refine tN ?_
        refine wp_block ?_
        refine wp_loop_rounds 1 ?_
        refine rnd ?_
        refine sq ?_
        refine sq ?_
        refine wp_region_lit ?_
        refine st hF (g_move hF rfl) rfl fun a hF => st hF (g_move hF rfl) rfl fun a hF => st hF (g_len0 ty_us_81 hF rfl) rfl fun a hF => st hF (g_lss hF rfl rfl) rfl fun a hF => ?_
        refine wpList_nil ?_
        refine tN ?_
        refine c_cond hF rfl (fun h24 => ?_) (fun h24 => ?_)
        ·
          exact absurd h24 (by omega)
        ·
          refine wp_exit ?_
          refine tX ?_
          refine tX ?_
          refine ib_same ?_
          refine tN ?_
          refine sq ?_
          refine wp_region_lit ?_
          refine st hF (g_loadAgg ty_ag_30 hF rfl (hM.row 9 rfl) (by simp only [fnC_size, cells_size, vecC_size, tabC_size, planeC_size] <;> omega) (whole (by simp only [fnC_size, cells_size, vecC_size, tabC_size, planeC_size]))) rfl fun a hF => st hF (g_move hF rfl) rfl fun a hF => ?_
          refine stN hF (d_storeAgg 2 hM rfl ty_sz_30 hF rfl rfl (by first | exact vecC_one | exact cells_one | (refine fnC_one fun _ _ => ?_; first | rfl | (split <;> rfl))) (by simp only [fnC_size, cells_size, vecC_size, tabC_size, planeC_size]) (by simp only [fnC_size, cells_size, vecC_size, tabC_size, planeC_size] <;> omega) (splice_whole _ _ (by simp only [fnC_size, cells_size, vecC_size, tabC_size, planeC_size]))) ?_
          intro _ w' a hM hF
          change Mem w w' [some (b1, algC (p : Int) (n : Int) T f), some (b2, vecC v), some (b3, fnC 6 (fun _ => .int .u8 (0))), none, some (b5, vecC uu), none, none, none, none, some (b23, fnC 6 (fun _ => .int .u8 (0)))] ((b0, cs0) :: D1) at hM
          refine st hF (g_assign hF rfl) rfl fun a hF => ?_
          refine wpList_nil ?_
          refine tN ?_
          refine wp_ret ?_
          refine fin2 rfl hF.defers (res_agg ty_ag_30 hF rfl (hM.row 2 rfl) (by simp only [fnC_size, cells_size, vecC_size, tabC_size, planeC_size])) (res_tmp hF rfl) ⟨_, rfl, hM.below, ?_⟩
          exact ⟨fun _ => 0, false, rfl, .inr ⟨rfl, fun q hq => hno ⟨(left_full hp2 (AssI_of hn has) huu hE hKer hq).k, (left_full hp2 (AssI_of hn has) huu hE hKer hq).ld⟩⟩⟩

end Go.Proofs.Ytclfbjfgmocbhaa
