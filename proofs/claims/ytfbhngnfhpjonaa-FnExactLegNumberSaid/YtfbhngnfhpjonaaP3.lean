/- What functions of the program return, as walks over their operations; no statement of the seat is proved here. -/
import Derived.Test.YtfbhngnfhpjonaaK9
import Derived.Test.YtfbhngnfhpjonaaEch5
import Derived.Test.YtfbhngnfhpjonaaP2
import Derived.Test.YtfbhngnfhpjonaaSw32
set_option linter.unusedVariables false
set_option linter.unusedSimpArgs false
namespace Go.Proofs.Ytfbhngnfhpjonaa
open Go Go.RowKit Go.Sw Go.Ech
open Classical
theorem prodI_Pr {n c : Nat} {T : Nat → Nat → Nat → Nat} {v u : Nat → Nat} : ((prodI T v u n n c : Nat) : Int) = Pr n T (ci v) (ci u) c := by
  unfold prodI Pr
  rw [sumTo_sI]
  refine sI_congr fun a _ => ?_
  rw [sumTo_sI]
  exact sI_congr fun b _ => by simp [ci, Int.natCast_mul]
theorem mod_dvd {p a : Nat} : (p : Int) ∣ ((a % p : Nat) : Int) - (a : Int) := by
  have := emod_dvd (p : Int) (a : Int)
  rwa [← Int.natCast_emod] at this
theorem timesV_dvd {p n c : Nat} {T : Nat → Nat → Nat → Nat} {v u : Nat → Nat} : (p : Int) ∣ ((timesV p n T v u c : Nat) : Int) - Pr n T (ci v) (ci u) c := by
  rw [← prodI_Pr]; exact mod_dvd
theorem AssI_of {p n : Nat} {T : Nat → Nat → Nat → Nat} (hn : n ≤ 6) (h : asS p n T) : AssI p n T := by
  intro i hi j hj k hk d hd
  have h1 := h i hi j hj k hk d (by omega)
  unfold timesS at h1
  rw [if_pos hd, if_pos hd] at h1
  have a1 : (p : Int) ∣ ((timesV p n T (T i j) (fun c => if c = k then 1 else 0) d : Nat) : Int) - ((prodI T (T i j) (fun c => if c = k then 1 else 0) n n d : Nat) : Int) := mod_dvd
  have a2 : (p : Int) ∣ ((timesV p n T (fun c => if c = i then 1 else 0) (T j k) d : Nat) : Int) - ((prodI T (fun c => if c = i then 1 else 0) (T j k) n n d : Nat) : Int) := mod_dvd
  rw [prodI_right hk] at a1
  rw [prodI_left hi] at a2
  rw [h1] at a1
  have := Int.dvd_sub a2 a1
  rwa [show ∀ A B C : Int, A - B - (A - C) = C - B from fun A B C => by omega] at this
/-- Coefficients modulo p do as well. -/
theorem coef_dvd {p n : Nat} {x : Nat → Int} {R S : Nat → Int} {u : Int} (h : ∀ a, a < n → (p : Int) ∣ R a - S a) : (p : Int) ∣ sI (fun a => x a * R a) n - u ↔ (p : Int) ∣ sI (fun a => x a * S a) n - u := by
  refine dvd_iff_sub ?_
  rw [show ∀ A B : Int, A - u - (B - u) = A - B from fun A B => by omega, sI_sub]
  exact sI_dvd fun a ha => by rw [← Int.mul_sub]; exact Int.dvd_mul_of_dvd_right (h a ha)
theorem right_iff {p n c : Nat} {T : Nat → Nat → Nat → Nat} {v x : Nat → Nat} {u : Int} : (p : Int) ∣ sI (fun a => (x a : Int) * ((timesV p n T (fun y => if y = a then 1 else 0) v c : Nat) : Int)) n - u ↔ (p : Int) ∣ Pr n T (ci x) (ci v) c - u := by
  rw [Pr_left]
  refine coef_dvd (x := ci x) fun a ha => ?_
  have := mod_dvd (p := p) (a := prodI T (fun y => if y = a then 1 else 0) v n n c)
  rwa [prodI_left ha] at this
theorem left_iff {p n c : Nat} {T : Nat → Nat → Nat → Nat} {v x : Nat → Nat} {u : Int} : (p : Int) ∣ sI (fun a => (x a : Int) * ((timesV p n T v (fun y => if y = a then 1 else 0) c : Nat) : Int)) n - u ↔ (p : Int) ∣ Pr n T (ci v) (ci x) c - u := by
  rw [Pr_right]
  refine coef_dvd (x := ci x) fun a ha => ?_
  have := mod_dvd (p := p) (a := prodI T v (fun y => if y = a then 1 else 0) n n c)
  rwa [prodI_right ha] at this
theorem inv2_yes {p n k : Nat} {E : Nat → Nat → Nat} {ld : Nat → Nat} {T : Nat → Nat → Nat → Nat} {uu v : Nat → Nat} (hp : 2 ≤ p) (hn0 : 0 < n) (hn : n ≤ 6) (hE1 : ∀ i c, E i c < p) (h : Rref p 7 E k ld) (hK : ∀ x, Ker p 7 E k x ↔ Ker p 7 (eqG p n T v uu n) (2 * n) x) (hl : ¬ isLd k ld 6) :
    InvI p n T uu v (fun c => solK E ld 6 k c) := by
  have h1 := (eqG_ker hn0 hn).1 ((hK _).1 (sol_ker h hl))
  refine ⟨fun c => solK_lt (k := k) (by omega) hE1 (p := p) (N := 7), fun c hc => solK_out fun hlc => ?_, fun c hc => right_iff.1 (h1.1 c hc), fun c hc => left_iff.1 (h1.2 c hc)⟩
  obtain ⟨j, hj, e⟩ := hlc
  have h3 := h.lt j hj
  by_cases e6 : c = 6
  · exact hl ⟨j, hj, by omega⟩
  · exact no_lead hp h hK (c := c) (by omega) (fun i _ => by unfold eqG; rw [if_neg (by omega), if_neg (by omega)]) ⟨j, hj, e⟩
theorem inv2_no {p n k : Nat} {E : Nat → Nat → Nat} {ld : Nat → Nat} {T : Nat → Nat → Nat → Nat} {uu v : Nat → Nat} (hp : 2 ≤ p) (hn0 : 0 < n) (hn : n ≤ 6) (h : Rref p 7 E k ld) (hK : ∀ x, Ker p 7 E k x ↔ Ker p 7 (eqG p n T v uu n) (2 * n) x) (hl : isLd k ld 6) (w : Nat → Nat) : ¬ InvI p n T uu v w :=
  fun hw => no_sol hp h hl ((hK _).2 ((eqG_ker hn0 hn).2 ⟨fun c hc => right_iff.2 (hw.right c hc), fun c hc => left_iff.2 (hw.left c hc)⟩))
/-- The model's equations for an inverse. -/
def bM (p n : Nat) (T : Nat → Nat → Nat → Nat) (v uu : Nat → Nat) (k j : Nat) : Nat := if j < n then timesS p n T (fun y => if y = j then 1 else 0) v k else uu k
theorem bM_lt {p n : Nat} {T : Nat → Nat → Nat → Nat} {v uu : Nat → Nat} (hp : 0 < p) (hu : ∀ c, uu c < p) : ∀ k j, bM p n T v uu k j < p := fun k j => by
  unfold bM; split
  · unfold timesS; split
    · unfold timesV; exact Nat.mod_lt _ hp
    · exact hp
  · exact hu k
theorem bM_ker {p n : Nat} {T : Nat → Nat → Nat → Nat} {v uu x : Nat → Nat} : Ker p (n + 1) (bM p n T v uu) n (aug n x) ↔ ∀ c, c < n → (p : Int) ∣ Pr n T (ci x) (ci v) c - (uu c : Int) := by
  unfold Ker
  refine forall_congr' fun c => imp_congr_right fun hc => ?_
  rw [← right_iff]
  have e : dot (n + 1) (ci (bM p n T v uu c)) (aug n x) = sI (fun a => (x a : Int) * ((timesV p n T (fun y => if y = a then 1 else 0) v c : Nat) : Int)) n - (uu c : Int) := by
    unfold dot
    simp only [sI]
    have e1 : sI (fun j => ci (bM p n T v uu c) j * aug n x j) n = sI (fun a => (x a : Int) * ((timesV p n T (fun y => if y = a then 1 else 0) v c : Nat) : Int)) n := sI_congr fun j hj => by
      rw [aug_lt hj]; simp only [ci, bM, if_pos hj, timesS, if_pos hc]; exact Int.mul_comm _ _
    have e2 : ci (bM p n T v uu c) n = (uu c : Int) := by simp only [ci, bM]; rw [if_neg (by omega)]
    rw [e1, e2, aug_n]; omega
  rw [e]
theorem check_iff {p n : Nat} {T : Nat → Nat → Nat → Nat} {v uu x : Nat → Nat} (hn : n ≤ 6) (hu : ∀ c, uu c < p) (hu0 : ∀ c, n ≤ c → uu c = 0) : eqV 6 (timesS p n T v x) uu ↔ ∀ c, c < n → (p : Int) ∣ Pr n T (ci v) (ci x) c - (uu c : Int) := by
  have key : ∀ c, c < n → (timesS p n T v x c = uu c ↔ (p : Int) ∣ Pr n T (ci v) (ci x) c - (uu c : Int)) := fun c hc => by
    unfold timesS; rw [if_pos hc, ← prodI_Pr, dvd_iff_mod (hu c)]; rfl
  constructor
  · intro h c hc; exact (key c hc).1 (h c (by omega))
  · intro h c _
    by_cases hc : c < n
    · exact (key c hc).2 (h c hc)
    · unfold timesS; rw [if_neg hc, hu0 c (by omega)]
theorem back_yes {p n k : Nat} {E : Nat → Nat → Nat} {ld : Nat → Nat} {T : Nat → Nat → Nat → Nat} {uu v : Nat → Nat} (hp : 0 < p) (hn : n ≤ 6) (hu : UnitI p n T uu) (h : Rref p (n + 1) E k ld) (hK : ∀ x, Ker p (n + 1) E k x ↔ Ker p (n + 1) (bM p n T v uu) n x) (hf : Full p n E k ld)
    (hc : eqV 6 (timesS p n T v (fun c => if c < n then E c n else 0)) uu) : InvI p n T uu v (fun c => if c < n then E c n else 0) := by
  have hkk := hf.k
  refine ⟨fun c => ?_, fun c hc => by simp [show ¬ c < n by omega], ?_, (check_iff hn hu.small hu.out).1 hc⟩
  · split
    · rename_i hc; exact h.small c (by omega) n (by omega)
    · exact hp
  · have := (full_sol h hf (fun c => if c < n then E c n else 0) (fun i hi => by simp only [if_pos hi]; exact h.small i (by omega) n (by omega))).2 (fun i hi => by simp only [if_pos hi])
    exact bM_ker.1 ((hK _).1 this)
theorem back_full {p n k : Nat} {E : Nat → Nat → Nat} {ld : Nat → Nat} {T : Nat → Nat → Nat → Nat} {uu v w : Nat → Nat} (hp : 2 ≤ p) (hn : n ≤ 6) (ha : AssI p n T) (hu : UnitI p n T uu) (h : Rref p (n + 1) E k ld) (hK : ∀ x, Ker p (n + 1) E k x ↔ Ker p (n + 1) (bM p n T v uu) n x) (hw : InvI p n T uu v w) :
    Full p n E k ld ∧ (fun c => if c < n then E c n else 0) = w := by
  have hk := (hK _).2 (bM_ker.2 hw.right)
  have hf := full_of_unique hp h w (fun i _ => hw.small i) hk (fun y hy hyK i hi => eq_of_dvd (hy i hi) (hw.small i) (inv_same ha hu hw.left (bM_ker.1 ((hK _).1 hyK)) hi))
  refine ⟨hf, funext fun c => ?_⟩
  by_cases hc : c < n
  · rw [if_pos hc]; exact ((full_sol h hf w (fun i _ => hw.small i)).1 hk c hc).symm
  · rw [if_neg hc, hw.out c (by omega)]

end Go.Proofs.Ytfbhngnfhpjonaa

namespace Go.Proofs.Ytfbhngnfhpjonaa
open Go Go.RowKit Go.Sw Go.Ech
open Classical
theorem timesE {p n i j : Nat} {T : Nat → Nat → Nat → Nat} (hTp : ∀ i j k, T i j k < p) (hT0 : ∀ i j k, n ≤ k → T i j k = 0) (hi : i < n) (hj : j < n) : timesS p n T (fun c => if c = i then 1 else 0) (fun c => if c = j then 1 else 0) = T i j := by
  funext k
  unfold timesS
  by_cases hk : k < n
  · rw [if_pos hk]; unfold timesV
    have e : ((prodI T (fun c => if c = i then 1 else 0) (fun c => if c = j then 1 else 0) n n k : Nat) : Int) = ((T i j k : Nat) : Int) := by
      rw [prodI_Pr]; unfold Pr
      rw [sI_one hi (fun a _ hne => sI_zero fun b _ => by simp [ci, hne]), sI_one hj (fun b _ hne => by simp [ci, hne])]
      simp [ci]
    rw [Int.ofNat.inj e]; exact Nat.mod_eq_of_lt (hTp i j k)
  · rw [if_neg hk, hT0 i j k (by omega)]
theorem timesE' {p n i j : Nat} {T : Nat → Nat → Nat → Nat} (hTp : ∀ i j k, T i j k < p) (hT0 : ∀ i j k, n ≤ k → T i j k = 0) (hi : i < n) (hj : j < n) : timesV p n T (fun c => if c = i then 1 else 0) (fun c => if c = j then 1 else 0) = T i j := by
  rw [times_eq hT0]; exact timesE hTp hT0 hi hj

theorem l02Table_ok (p n : Nat) (T : Nat → Nat → Nat → Nat) (f : Nat → Nat) (w : World) (hp : primeN p) (hn0 : 0 < n) (hn : n ≤ 6) (hTp : ∀ i j k, T i j k < p) (hT0 : ∀ i j k, n ≤ k → T i j k = 0) (hf : ∀ i, f i ≤ 255) :
    CallsR Try.prog 28 #[.agg (algC (p : Int) (n : Int) T f)] w (fun u w' => TabOut w w' n n (fun i c => .int .i64 ((formM p n T f i c : Nat) : Int)) u) := by
  refine calls_fr [.agg (algC (p : Int) (n : Int) T f)] Try.func28 rfl Try.ntmps28 rfl fun a hF => ?_
  have hM : Mem w w [none, none, none, none, none] [] := MemX.start w 5
  change Fr 37 a [(0, .agg (algC (p : Int) (n : Int) T f))] at hF
  have hp2 := hp.two
  have hp13 := hp.le
  have hT : ∀ i j k, T i j k ≤ 255 := fun i j k => by have := hTp i j k; omega
  refine sq ?_
  refine wp_region_lit ?_
  refine stR hF (d_box 0 hM hF rfl) rfl ?_
  rintro _ w' a ⟨b1, rfl, hM, -⟩ hF
  change Mem w w' [some (b1, algC (p : Int) (n : Int) T f), none, none, none, none] [] at hM
  refine st hF (g_assign hF rfl) rfl fun a hF => ?_
  refine wpList_nil ?_
  refine tN ?_
  refine sq ?_
  refine wp_region_lit ?_
  refine stR hF (d_buildC 1 hM hF rfl ty_bs0_53) rfl ?_
  rintro _ w' a ⟨b2, rfl, hM, -⟩ hF
  change Mem w w' [some (b1, algC (p : Int) (n : Int) T f), some (b2, #[]), none, none, none] [] at hM
  refine st hF (g_assign hF rfl) rfl fun a hF => ?_
  refine wpList_nil ?_
  refine tN ?_
  refine sq ?_
  refine sq ?_
  refine wp_region_lit ?_
  refine st hF (g_assign hF rfl) rfl fun a hF => ?_
  refine wpList_nil ?_
  refine tN ?_
  refine wp_block ?_
  change Mem w _ [some (b1, algC (p : Int) (n : Int) T f), some (b2, #[]), none, none, none] [] at hM
  refine c_loop (fun (kk : Nat) a w' => kk ≤ n ∧ ∃ (D1 : Froz), ∃ (β : Nat → Nat), ∃ (κ : Nat → Nat), ∃ (C : Nat → Array Value), (RowsD D1 n kk β κ C (fun i c => .int .i64 ((formM p n T f i c : Nat) : Int)) ∧ (∀ i, i < kk → w.heap.size ≤ β i) ∧ ∀ i j, i < kk → j < kk → β i = β j → i = j) ∧ ∃ (u3_1 : Value) (e3_1 : Option (Nat × Array Value)), Sl 1 u3_1 e3_1 (kk) (fun i => .slice (some ⟨β i, 0, none⟩) n (κ i)) ∧ Fr 37 a [(0, .agg (algC (p : Int) (n : Int) T f)), (1, ptr b1 (0)), (2, .slice none 0 0), (7, .slice (some ⟨b2, 0, none⟩) (0) (0)), (4, .int .i64 (((kk : Nat) : Int))), (3, u3_1)] ∧ Mem w w' [some (b1, algC (p : Int) (n : Int) T f), e3_1, none, none, none] D1) (fun kk => n - kk) 0 ?_ ?_
  ·
    refine ⟨by omega, [], (fun _ => 0), (fun _ => 0), (fun _ => #[]), ⟨RowsD.none, fun i hi => absurd hi (by omega), fun i j hi => absurd hi (by omega)⟩, (.slice (some ⟨b2, 0, none⟩) (0) (0)), (some (b2, #[])), Sl.empty _ _ _, hF.sub _ (by repeat' constructor), ?_⟩
    exact hM
  ·
    clear hF hM
    rintro gi a w' ⟨hgi, D1, β, κ, C, ⟨hR, hbg, hinj⟩, u3_1, e3_1, hsl, hF, hM⟩
    refine sq ?_
    refine sq ?_
    refine wp_region_lit ?_
    refine st hF (g_move hF rfl) rfl fun a hF => st hF (g_fieldAddr ty_fo_32_1 hF rfl) rfl fun a hF => st hF (g_load ty_on_2 hF rfl (hM.row 0 rfl) (algC_n (by omega))) rfl fun a hF => st hF (g_lss hF rfl rfl) rfl fun a hF => ?_
    refine wpList_nil ?_
    refine tN ?_
    refine c_cond hF rfl (fun h3 => ?_) (fun h3 => ?_)
    ·
      refine wp_skip ?_
      refine tN ?_
      refine sq ?_
      refine wp_block ?_
      refine sq ?_
      refine wp_region_lit ?_
      refine stR hF (d_buildC 2 hM hF rfl ty_bs0_45) rfl ?_
      rintro _ w' a ⟨b4, rfl, hM, -⟩ hF
      change Mem w w' [some (b1, algC (p : Int) (n : Int) T f), e3_1, some (b4, #[]), none, none] D1 at hM
      refine st hF (g_assign hF rfl) rfl fun a hF => ?_
      refine wpList_nil ?_
      refine tN ?_
      refine sq ?_
      refine sq ?_
      refine wp_region_lit ?_
      refine st hF (g_assign hF rfl) rfl fun a hF => ?_
      refine wpList_nil ?_
      refine tN ?_
      refine wp_block ?_
      change Mem w _ [some (b1, algC (p : Int) (n : Int) T f), e3_1, some (b4, #[]), none, none] D1 at hM
      refine c_loop (fun (kk : Nat) a w' => kk ≤ n ∧ (True) ∧ ∃ (u5_2 : Value) (e5_2 : Option (Nat × Array Value)), Sl 1 u5_2 e5_2 (kk) (fun c => .int .i64 ((formM p n T f gi c : Nat) : Int)) ∧ Fr 37 a [(0, .agg (algC (p : Int) (n : Int) T f)), (1, ptr b1 (0)), (2, .slice none 0 0), (7, .slice (some ⟨b2, 0, none⟩) (0) (0)), (4, .int .i64 (((gi : Nat) : Int))), (3, u3_1), (8, .int .i64 (((gi : Nat) : Int))), (9, ptr b1 (0 + 1)), (10, .int .i64 (((n : Nat) : Int))), (11, .bool (decide ((((gi : Nat) : Int) : Int) < ((n : Nat) : Int)))), (14, .slice (some ⟨b4, 0, none⟩) (0) (0)), (6, .int .i64 (((kk : Nat) : Int))), (5, u5_2)] ∧ Mem w w' [some (b1, algC (p : Int) (n : Int) T f), e3_1, e5_2, none, none] D1) (fun kk => n - kk) 0 ?_ ?_
      ·
        refine ⟨by omega, trivial, (.slice (some ⟨b4, 0, none⟩) (0) (0)), (some (b4, #[])), Sl.empty _ _ _, hF.sub _ (by repeat' constructor), ?_⟩
        exact hM
      ·
        clear hF hM
        rintro gj a w' ⟨hgj, hinv2, u5_2, e5_2, hrow, hF, hM⟩
        refine sq ?_
        refine sq ?_
        refine wp_region_lit ?_
        refine st hF (g_move hF rfl) rfl fun a hF => st hF (g_fieldAddr ty_fo_32_1 hF rfl) rfl fun a hF => st hF (g_load ty_on_2 hF rfl (hM.row 0 rfl) (algC_n (by omega))) rfl fun a hF => st hF (g_lss hF rfl rfl) rfl fun a hF => ?_
        refine wpList_nil ?_
        refine tN ?_
        refine c_cond hF rfl (fun h5 => ?_) (fun h5 => ?_)
        ·
          refine wp_skip ?_
          refine tN ?_
          refine sq ?_
          refine wp_block ?_
          refine c_par 10 [3] [.val (u5_2), .val (.agg (algC (p : Int) (n : Int) T f)), .val (.agg (algC (p : Int) (n : Int) T f)), .val (.int .i64 (((gi : Nat) : Int))), .val (.agg (vecC (fun c => if c = gi then 1 else 0))), .val (.int .i64 (((gj : Nat) : Int))), .val (.agg (vecC (fun c => if c = gj then 1 else 0))), .val (.agg (vecC (T gi gj))), .val (.int .i64 (((sumTo (fun i => f i * ((T gi gj)) i) 6 % p : Nat) : Int))), .own 3 (#[.int .i64 (((sumTo (fun i => f i * ((T gi gj)) i) 6 % p : Nat) : Int))]) (fun b => .slice (some ⟨b, 0, none⟩) 1 1)] hmix rfl hF rfl hM ⟨fun a w gG hF hS hd => by exact par_val hS rfl (g_move hF rfl), fun a w gG hF hS hd => by have hM := hS.mem rfl; exact par_val hS rfl (g_loadAgg ty_ag_32 hF rfl (hM.row 0 rfl) (by simp only [fnC_size, cells_size, vecC_size, tabC_size, planeC_size] <;> omega) (whole cells_size)), fun a w gG hF hS hd => by have hM := hS.mem rfl; exact par_val hS rfl (g_loadAgg ty_ag_32 hF rfl (hM.row 0 rfl) (by simp only [fnC_size, cells_size, vecC_size, tabC_size, planeC_size] <;> omega) (whole cells_size)), fun a w gG hF hS hd => by exact par_val hS rfl (g_move hF rfl), fun a w gG hF hS hd => by have hF := hF.ext1 24 (hd 3 rfl rfl); exact par_call (by repeat constructor) hS rfl (d_call Try.call53 hF (.cons rfl .nil) (l01Basis_ok (gi) _ (by omega))), fun a w gG hF hS hd => by exact par_val hS rfl (g_move hF rfl), fun a w gG hF hS hd => by have hF := hF.ext1 26 (hd 5 rfl rfl); exact par_call (by repeat constructor) hS rfl (d_call Try.call53 hF (.cons rfl .nil) (l01Basis_ok (gj) _ (by omega))), fun a w gG hF hS hd => by have hF := hF.ext1 23 (hd 2 rfl rfl); have hF := hF.ext1 25 (hd 4 rfl rfl); have hF := hF.ext1 27 (hd 6 rfl rfl); exact par_call (by repeat constructor) hS rfl (d_call Try.call61 hF (.cons rfl (.cons rfl (.cons rfl .nil))) ((CallsR.val (l01Times_ok p n T f ((fun c => if c = gi then 1 else 0)) ((fun c => if c = gj then 1 else 0)) _ (by omega) (by omega) (by omega) (fun _ _ _ => hT _ _ _) (fun _ => by first | exact hv _ | exact hvt _ | exact hvs _ | exact hu _ | exact hT _ _ _ | exact hf _ | omega | (split <;> omega) | (dsimp only; split <;> omega) | assumption) (fun _ => by first | exact hv _ | exact hvt _ | exact hvs _ | exact hu _ | exact hT _ _ _ | exact hf _ | omega | (split <;> omega) | (dsimp only; split <;> omega) | assumption)) (congrArg (fun v => Value.agg (vecC v)) (timesE hTp hT0 (i := gi) (j := gj) (by omega) (by omega)))))), fun a w gG hF hS hd => by have hF := hF.ext1 22 (hd 1 rfl rfl); have hF := hF.ext1 28 (hd 7 rfl rfl); exact par_call (by repeat constructor) hS rfl (d_call Try.call60 hF (.cons rfl (.cons rfl .nil)) (l01Form_ok p n T f ((T gi gj)) _ (by omega) (fun _ => by first | exact hv _ | exact hvt _ | exact hvs _ | exact hu _ | exact hT _ _ _ | exact hf _ | omega | (split <;> omega) | (dsimp only; split <;> omega) | assumption) (fun _ => by first | exact hv _ | exact hvt _ | exact hvs _ | exact hu _ | exact hT _ _ _ | exact hf _ | omega | (split <;> omega) | (dsimp only; split <;> omega) | assumption))), fun a w gG hF hS hd => by have hF := hF.ext1 29 (hd 8 rfl rfl); exact par_own (by repeat constructor) hS rfl rfl rfl rfl (d_buildC 3 hS.1 hF (build1 hF rfl) (ty_bs1_45 _)), trivial⟩ ?_
          intro a w' L hF hS hq
          have hF := hF.ext1 21 (hq 0 rfl rfl)
          have hF := hF.ext1 22 (hq 1 rfl rfl)
          have hF := hF.ext1 23 (hq 2 rfl rfl)
          have hF := hF.ext1 24 (hq 3 rfl rfl)
          have hF := hF.ext1 25 (hq 4 rfl rfl)
          have hF := hF.ext1 26 (hq 5 rfl rfl)
          have hF := hF.ext1 27 (hq 6 rfl rfl)
          have hF := hF.ext1 28 (hq 7 rfl rfl)
          have hF := hF.ext1 29 (hq 8 rfl rfl)
          obtain ⟨hM, hL⟩ := hS
          obtain ⟨b6, hptr, hkk⟩ := hq 9 rfl rfl
          have hF := hF.ext1 30 hptr
          have hL := hL.take hkk
          obtain rfl := hL.eq
          change Mem w w' [some (b1, algC (p : Int) (n : Int) T f), e3_1, e5_2, some (b6, #[.int .i64 (((sumTo (fun i => f i * ((T gi gj)) i) 6 % p : Nat) : Int))]), none] D1 at hM
          change wpList Try.prog _ _ [_, _] _ _
          refine stR hF (d_append (k := 2) (m := 1) (g := fun _ => .int .i64 (((sumTo (fun i => f i * ((T gi gj)) i) 6 % p : Nat) : Int))) ty_si_45 rfl (by decide) hM rfl hF rfl rfl hrow (fun i hi => by rw [show i = 0 by omega]; exact (hM.row 3 rfl).cell 0) (fun _ _ => rfl) (by decide) (by unfold maxLen; omega) (by omega)) rfl ?_
          rintro u7 w' a ⟨e8, hM, hs9⟩ hF
          change Mem w w' [some (b1, algC (p : Int) (n : Int) T f), e3_1, e8, some (b6, #[.int .i64 (((sumTo (fun i => f i * ((T gi gj)) i) 6 % p : Nat) : Int))]), none] D1 at hM
          refine st hF (g_assign hF rfl) rfl fun a hF => ?_
          refine wpList_nil ?_
          refine iN ?_
          refine tN ?_
          refine wp_region_lit ?_
          refine st hF (g_move hF rfl) rfl fun a hF => st hF (g_add hF rfl rfl (add_nat (gj) (1) (by omega))) rfl fun a hF => st hF (g_assign hF rfl) rfl fun a hF => ?_
          refine wpList_nil ?_
          refine tN ?_
          have hM := hM.drop 3
          refine ⟨gj + 1, ⟨by omega, trivial, (u7), (e8), (hs9.snoc (by simp only [formM]; rw [if_pos (by omega)]; simp only [Nat.mul_comm])), hF.sub _ (by repeat' constructor), ?_⟩, by omega⟩
          exact hM
        ·
          obtain rfl : n = gj := by omega
          refine wp_exit ?_
          refine tX ?_
          refine tX ?_
          refine ib_same ?_
          refine tN ?_
          obtain ⟨bR, capR, csR, rfl, rfl, hsR⟩ := hrow.pos (by omega)
          have hgR := hM.ge 2 rfl
          have hnR := fun i hi => (hM.froz _ _ (hR.mem i hi)).2 2 bR _ rfl
          have hM := hM.freeze 2 rfl
          have hR2 := (hR.more (D' := (bR, csR) :: D1) (fun x hx => List.mem_cons_of_mem _ hx)).snoc (List.mem_cons_self ..) hsR
          change Mem w _ [some (b1, algC (p : Int) (n : Int) T f), e3_1, none, none, none] ((bR, csR) :: D1) at hM
          refine wp_region_lit ?_
          refine st hF (g_move hF rfl) rfl fun a hF => st hF (g_move hF rfl) rfl fun a hF => ?_
          refine stR hF (d_buildC 4 hM hF (build1 hF rfl) (ty_bsv_53 _ _ _)) rfl ?_
          rintro _ w' a ⟨b10, rfl, hM, -⟩ hF
          change Mem w w' [some (b1, algC (p : Int) (n : Int) T f), e3_1, none, none, some (b10, #[.slice (some ⟨bR, 0, none⟩) (n) (capR)])] ((bR, csR) :: D1) at hM
          refine stR hF (d_append (k := 1) (m := 1) (g := fun _ => .slice (some ⟨bR, 0, none⟩) (n) (capR)) ty_si_53 rfl (by decide) hM rfl hF rfl rfl hsl (fun i hi => by rw [show i = 0 by omega]; exact (hM.row 4 rfl).cell 0) (fun _ _ => rfl) (by decide) (by unfold maxLen; omega) (by omega)) rfl ?_
          rintro u11 w' a ⟨e12, hM, hs13⟩ hF
          change Mem w w' [some (b1, algC (p : Int) (n : Int) T f), e12, none, none, some (b10, #[.slice (some ⟨bR, 0, none⟩) (n) (capR)])] ((bR, csR) :: D1) at hM
          refine st hF (g_assign hF rfl) rfl fun a hF => ?_
          refine wpList_nil ?_
          refine iN ?_
          refine tN ?_
          refine wp_region_lit ?_
          refine st hF (g_move hF rfl) rfl fun a hF => st hF (g_add hF rfl rfl (add_nat (gi) (1) (by omega))) rfl fun a hF => st hF (g_assign hF rfl) rfl fun a hF => ?_
          refine wpList_nil ?_
          refine tN ?_
          have hsl := hs13.snocR
          have hR2 := hR2.congr (g := fun i c => .int .i64 ((formM p n T f i c : Nat) : Int)) (fun i hi c hc => by
            by_cases e : i = gi
            · rw [e]; simp only [up_eq]
            · simp only [up_ne e])
          have hM := hM.drop 4
          refine ⟨gi + 1, ⟨by omega, ((bR, csR) :: D1), (up β gi bR), (up κ gi capR), (up C gi csR), ⟨hR2, fun i hi => by unfold up; split; exact hgR; exact hbg i (by omega), up_inj hinj hnR⟩, (u11), (e12), hsl, hF.sub _ (by repeat' constructor), ?_⟩, by omega⟩
          exact hM
    ·
      obtain rfl : n = gi := by omega
      refine wp_exit ?_
      refine tX ?_
      refine tX ?_
      refine ib_same ?_
      refine tN ?_
      refine sq ?_
      refine wp_region_lit ?_
      refine st hF (g_move hF rfl) rfl fun a hF => st hF (g_assign hF rfl) rfl fun a hF => ?_
      refine wpList_nil ?_
      refine tN ?_
      refine wp_ret ?_
      refine fin1 rfl hF.defers (res_tmp hF rfl) ⟨_, rfl, hM.below, ?_⟩
      obtain ⟨b0, c0, cs0, rfl, rfl, hs0⟩ := hsl.pos hn0
      exact TabOut.of (q := 1) hM hR rfl hs0 hbg hinj

end Go.Proofs.Ytfbhngnfhpjonaa
