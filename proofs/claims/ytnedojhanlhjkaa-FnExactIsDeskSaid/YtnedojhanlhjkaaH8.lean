/- What functions of the program return, as walks over their operations; no statement of the seat is proved here. -/
import Derived.Test.YtnedojhanlhjkaaH7
set_option linter.unusedVariables false
set_option linter.unusedSimpArgs false
namespace Go.Proofs.Ytnedojhanlhjkaa
open Go Go.RowKit Go.Sw Go.Ech
open Classical
theorem CallsR.val {P : Program} {f : FuncId} {args : Array Value} {w : World} {v v' : Value} (h : CallsR P f args w (fun u _ => u = v)) (e : v = v') : CallsR P f args w (fun u _ => u = v') := e ▸ h
def asS (p n : Nat) (T : Nat → Nat → Nat → Nat) : Prop := ∀ i, i < n → ∀ j, j < n → ∀ k, k < n → eqV 6 (timesS p n T (T i j) (fun c => if c = k then 1 else 0)) (timesS p n T (fun c => if c = i then 1 else 0) (T j k))
def AlgN (p n : Nat) (T : Nat → Nat → Nat → Nat) : Prop := asS p n T ∧ ∃ u, UnitI p n T u
def trunc (n : Nat) (T : Nat → Nat → Nat → Nat) (i j k : Nat) : Nat := if i < n ∧ j < n ∧ k < n then T i j k else 0
def AlgP (p n : Int) (T : Nat → Nat → Nat → Nat) (f : Nat → Nat) : Prop := shapeP p n T f ∧ AlgN p.toNat n.toNat (trunc n.toNat T)
theorem sumTo_zero {f : Nat → Nat} {n : Nat} (h : ∀ i, i < n → f i = 0) : sumTo f n = 0 := by
  induction n with
  | zero => rfl
  | succ n ih => simp only [sumTo]; rw [ih (fun i hi => h i (by omega)), h n (by omega)]
theorem timesV_out {p n c : Nat} {T : Nat → Nat → Nat → Nat} {v u : Nat → Nat} (hT0 : ∀ i j k, n ≤ k → T i j k = 0) (hc : n ≤ c) : timesV p n T v u c = 0 := by
  unfold timesV prodI
  rw [sumTo_zero (fun i _ => sumTo_zero fun j _ => by rw [hT0 i j c hc]; simp)]
  simp
theorem times_eq {p n : Nat} {T : Nat → Nat → Nat → Nat} (hT0 : ∀ i j k, n ≤ k → T i j k = 0) (v u : Nat → Nat) : timesV p n T v u = timesS p n T v u := by
  funext c
  unfold timesS
  by_cases h : c < n
  · rw [if_pos h]
  · rw [if_neg h, timesV_out hT0 (by omega)]
theorem asP_iff {p n : Nat} {T : Nat → Nat → Nat → Nat} (hT0 : ∀ i j k, n ≤ k → T i j k = 0) : asP p n T ↔ asS p n T := by
  unfold asP asJ asT asS
  simp only [times_eq hT0];exact ⟨fun h i hi j hj k hk => h j hj i hi k hk, fun h j hj i hi k hk => h i hi j hj k hk⟩
theorem okE_iff {p n : Int} {T : Nat → Nat → Nat → Nat} {i j : Nat} (hp : 0 < p) : okE p n T i j ↔ okS2 p n T i j := by
  unfold okE okS2
  by_cases h : (i : Int) ≥ n ∨ (j : Int) ≥ n
  · rw [if_pos h]
    constructor
    · intro h1 c hc
      have h2 : eqV 6 (T i j) (fun _ => 0) := Classical.byContradiction fun h3 => h1 (.inl ⟨by omega, h3⟩);have h4 := h2 c hc
      dsimp only at h4
      unfold okN; omega
    · intro h1 h2
      have h0 : ∀ c, c < 6 → T i j c = 0 := fun c hc => by have := h1 c hc; unfold okN at this; omega
      rcases h2 with ⟨_, h3⟩ | h3
      · exact h3 h0
      · exact h3 fun c hc => by have := h0 c hc; unfold okN; omega
  · rw [if_neg h]
    constructor
    · intro h1; exact Classical.byContradiction fun h3 => h1 (.inr h3)
    · rintro h1 (⟨h2, _⟩ | h2)
      · exact h2 ⟨by omega, by omega⟩
      · exact h2 h1
theorem table_iff {p n : Int} {T : Nat → Nat → Nat → Nat} (hp : 0 < p) : all2 6 (okE p n T) ↔ all2 6 (okS2 p n T) := by
  unfold all2
  simp only [okE_iff hp]
theorem primeP_pos {p : Int} (h : primeP p) : 0 < p := by unfold primeP at h; omega
theorem algC_trunc {p n : Int} {T : Nat → Nat → Nat → Nat} {f : Nat → Nat} (h : shapeP p n T f) : algC p n T f = algC p n (trunc n.toNat T) f := by
  obtain ⟨_, hn, _, hT⟩ := h
  unfold algC
  refine fnC_congr fun c hc => ?_
  by_cases h0 : c = 0
  · rw [if_pos h0, if_pos h0]
  · rw [if_neg h0, if_neg h0]
    by_cases h1 : c = 1
    · rw [if_pos h1, if_pos h1]
    · rw [if_neg h1, if_neg h1]
      by_cases h2 : c < 218
      · rw [if_pos h2, if_pos h2]
        have := hT ((c - 2) / 36) (by omega) ((c - 2) / 6 % 6) (by omega) ((c - 2) % 6) (by omega);have e : trunc n.toNat T ((c - 2) / 36) ((c - 2) / 6 % 6) ((c - 2) % 6) = T ((c - 2) / 36) ((c - 2) / 6 % 6) ((c - 2) % 6) := by
          unfold trunc; split
          · rfl
          · rename_i hno
            unfold okN at this
            split at this <;> omega
        rw [e]
      · rw [if_neg h2, if_neg h2]
theorem trunc_lt {p n : Int} {T : Nat → Nat → Nat → Nat} {f : Nat → Nat} (h : shapeP p n T f) (i j k : Nat) : trunc n.toNat T i j k < p.toNat := by
  obtain ⟨hp, hn, _, hT⟩ := h;have hp0 := primeP_pos hp
  unfold trunc; split
  · rename_i hh
    have := hT i (by omega) j (by omega) k (by omega)
    unfold okN at this
    omega
  · omega
theorem trunc_out {n : Nat} {T : Nat → Nat → Nat → Nat} (i j k : Nat) (h : n ≤ k) : trunc n T i j k = 0 := by unfold trunc; rw [if_neg (by omega)]
theorem shape_trunc {p n : Int} {T : Nat → Nat → Nat → Nat} {f : Nat → Nat} (h : shapeP p n T f) : shapeP p n (trunc n.toNat T) f := by
  refine ⟨h.1, h.2.1, h.2.2.1, fun i hi j hj c hc => ?_⟩;have h1 := h.2.2.2 i hi j hj c hc;have hp := primeP_pos h.1
  by_cases e : i < n.toNat ∧ j < n.toNat ∧ c < n.toNat
  · have e2 : trunc n.toNat T i j c = T i j c := by unfold trunc; rw [if_pos e]
    rw [e2]; exact h1
  · have e2 : trunc n.toNat T i j c = 0 := by unfold trunc; rw [if_neg e]
    rw [e2]; unfold okN; omega
theorem primeN_of {p : Int} (h : primeP p) : primeN p.toNat := by unfold primeP at h; unfold primeN; omega

theorem l01AlgebraA (p n : Int) (T : Nat → Nat → Nat → Nat) (f : Nat → Nat) (w : World) (hT : ∀ i j k, T i j k ≤ 255) (hf : ∀ i, f i ≤ 255) (hsh : ¬ shapeP p n T f) :
    CallsR Try.prog 34 #[.agg (algC p n T f)] w (fun res _ => res = .bool false) := by
  refine calls_fr [.agg (algC p n T f)] Try.func34 rfl Try.ntmps34 rfl fun a hF => ?_;have hM : Mem w w [none, none] [] := MemX.start w 2;change Fr 56 a [(0, .agg (algC p n T f))] at hF;refine sr <| stR hF (d_box 0 hM hF rfl) rfl ?_;rintro _ w' a ⟨b1, rfl, hM, -⟩ hF;change Mem w w' [some (b1, algC p n T f), none] [] at hM;refine ag hF rfl rfl fun a hF => nt <| sq <| sr <| st hF (g_loadAgg ty_ag_27 hF rfl (hM.row 0 rfl) (by simp only [sz0] <;> omega) (whole cells_size)) rfl fun a hF => stR hF (d_call Try.call50 hF (.cons rfl .nil) ((CallsR.val (l01Shape_ok p n T f _ (fun _ _ _ => hT _ _ _) (fun _ => hf _)) (congrArg Value.bool (decide_eq_false hsh))))) rfl ?_;rintro _ w' a ⟨hx, rfl⟩ hF;have hM := hM.ext hx;refine st hF (g_not (b := false) hF rfl) rfl fun a hF => nt <| c_T hF rfl <| sr <| ag hF rfl rfl fun a hF => nt <| wp_ret <| tR <| fin1 rfl hF.defers (res_tmp hF rfl) ⟨_, rfl, hM.below, ?_⟩
  show _ = _
  rfl
theorem l01AlgebraB (p n : Nat) (T : Nat → Nat → Nat → Nat) (f : Nat → Nat) (w : World) (hp : primeN p) (hn0 : 0 < n) (hn : n ≤ 6) (hTp : ∀ i j k, T i j k < p) (hT0 : ∀ i j k, n ≤ k → T i j k = 0) (hf : ∀ i, f i ≤ 255) (hsh : shapeP (p : Int) (n : Int) T f) :
    CallsR Try.prog 34 #[.agg (algC (p : Int) (n : Int) T f)] w (fun res _ => res = .bool (decide (AlgN p n T))) := by
  refine calls_fr [.agg (algC (p : Int) (n : Int) T f)] Try.func34 rfl Try.ntmps34 rfl fun a hF => ?_;have hM : Mem w w [none, none] [] := MemX.start w 2;change Fr 56 a [(0, .agg (algC (p : Int) (n : Int) T f))] at hF;have hp2 := hp.two;have hp13 := hp.le;have hT : ∀ i j k, T i j k ≤ 255 := fun i j k => by have := hTp i j k; omega
  refine sr <| stR hF (d_box 0 hM hF rfl) rfl ?_;rintro _ w' a ⟨b1, rfl, hM, -⟩ hF;change Mem w w' [some (b1, algC (p : Int) (n : Int) T f), none] [] at hM;refine ag hF rfl rfl fun a hF => nt <| sq <| sr <| st hF (g_loadAgg ty_ag_27 hF rfl (hM.row 0 rfl) (by simp only [sz0] <;> omega) (whole cells_size)) rfl fun a hF => stR hF (d_call Try.call50 hF (.cons rfl .nil) ((CallsR.val (l01Shape_ok (p : Int) (n : Int) T f _ (fun _ _ _ => hT _ _ _) (fun _ => hf _)) (congrArg Value.bool (decide_eq_true hsh))))) rfl ?_;rintro _ w' a ⟨hx, rfl⟩ hF;have hM := hM.ext hx;refine st hF (g_not (b := true) hF rfl) rfl fun a hF => nt <| c_Fl hF rfl <| wp_skip <| tN <| sq <| sr <| ag hF rfl rfl fun a hF => nt <| wp_block ?_;change Mem w _ [some (b1, algC (p : Int) (n : Int) T f), none] [] at hM;refine c_loop (fun (kk : Nat) a w' => kk ≤ n ∧ (∀ i, i < kk → ∀ j, j < n → ∀ k, k < n → eqV 6 (timesS p n T (T i j) (fun c => if c = k then 1 else 0)) (timesS p n T (fun c => if c = i then 1 else 0) (T j k))) ∧ Fr 56 a [(1, ptr b1 (0)), (10, .bool (false)), (3, .int .i64 (kk : Int))] ∧ Mem w w' [some (b1, algC (p : Int) (n : Int) T f), none] []) (fun kk => n - kk) 0 ?_ ?_
  · refine ⟨by omega, fun i hi => absurd hi (by omega), hF.sub _ (by repeat' constructor), ?_⟩
    exact hM
  clear hF hM;rintro gi a w' ⟨hgi, hinv1, hF, hM⟩;refine sq <| sr <| mv hF rfl rfl fun a hF => st hF (g_fieldAddr ty_fo_27_1 hF rfl) rfl fun a hF => st hF (g_load ty_on_2 hF rfl (hM.row 0 rfl) (algC_n (by omega))) rfl fun a hF => st hF (g_lss hF rfl rfl) rfl fun a hF => nt <| c_cond hF rfl (fun h3 => ?_) (fun h3 => ?_)
  · refine wp_skip ?_
    refine tN <| sq <| wp_block <| sr <| ag hF rfl rfl fun a hF => nt <| wp_block ?_;change Mem w _ [some (b1, algC (p : Int) (n : Int) T f), none] [] at hM;refine c_loop (fun (kk : Nat) a w' => kk ≤ n ∧ (∀ j, j < kk → ∀ k, k < n → eqV 6 (timesS p n T (T gi j) (fun c => if c = k then 1 else 0)) (timesS p n T (fun c => if c = gi then 1 else 0) (T j k))) ∧ Fr 56 a [(1, ptr b1 (0)), (10, .bool (false)), (3, .int .i64 (gi : Int)), (11, .int .i64 (gi : Int)), (12, ptr b1 (0 + 1)), (13, .int .i64 (n : Int)), (14, .bool (decide (((gi : Int) : Int) < (n : Int)))), (4, .int .i64 (kk : Int))] ∧ Mem w w' [some (b1, algC (p : Int) (n : Int) T f), none] []) (fun kk => n - kk) 0 ?_ ?_
    · refine ⟨by omega, fun i hi => absurd hi (by omega), hF.sub _ (by repeat' constructor), ?_⟩
      exact hM
    clear hF hM;rintro gj a w' ⟨hgj, hinv2, hF, hM⟩;refine sq <| sr <| mv hF rfl rfl fun a hF => st hF (g_fieldAddr ty_fo_27_1 hF rfl) rfl fun a hF => st hF (g_load ty_on_2 hF rfl (hM.row 0 rfl) (algC_n (by omega))) rfl fun a hF => st hF (g_lss hF rfl rfl) rfl fun a hF => nt <| c_cond hF rfl (fun h4 => ?_) (fun h4 => ?_)
    · refine wp_skip ?_
      refine tN <| sq <| wp_block <| sr <| ag hF rfl rfl fun a hF => nt <| wp_block ?_;change Mem w _ [some (b1, algC (p : Int) (n : Int) T f), none] [] at hM;refine c_loop (fun (kk : Nat) a w' => kk ≤ n ∧ (∀ k, k < kk → eqV 6 (timesS p n T (T gi gj) (fun c => if c = k then 1 else 0)) (timesS p n T (fun c => if c = gi then 1 else 0) (T gj k))) ∧ Fr 56 a [(1, ptr b1 (0)), (10, .bool (false)), (3, .int .i64 (gi : Int)), (11, .int .i64 (gi : Int)), (12, ptr b1 (0 + 1)), (13, .int .i64 (n : Int)), (14, .bool (decide (((gi : Int) : Int) < (n : Int)))), (4, .int .i64 (gj : Int)), (17, .int .i64 (gj : Int)), (18, ptr b1 (0 + 1)), (19, .int .i64 (n : Int)), (20, .bool (decide (((gj : Int) : Int) < (n : Int)))), (5, .int .i64 (kk : Int))] ∧ Mem w w' [some (b1, algC (p : Int) (n : Int) T f), none] []) (fun kk => n - kk) 0 ?_ ?_
      · refine ⟨by omega, fun i hi => absurd hi (by omega), hF.sub _ (by repeat' constructor), ?_⟩
        exact hM
      clear hF hM;rintro gk a w' ⟨hgk, hinv3, hF, hM⟩;refine sq <| sr <| mv hF rfl rfl fun a hF => st hF (g_fieldAddr ty_fo_27_1 hF rfl) rfl fun a hF => st hF (g_load ty_on_2 hF rfl (hM.row 0 rfl) (algC_n (by omega))) rfl fun a hF => st hF (g_lss hF rfl rfl) rfl fun a hF => nt <| c_cond hF rfl (fun h5 => ?_) (fun h5 => ?_)
      · refine wp_skip ?_
        refine tN <| sq <| wp_block <| sq <| c_par 19 [] [.val (.agg (algC (p : Int) (n : Int) T f)), .val (.int .i64 (gi : Int)), .val (.int .i64 (gj : Int)), .val (ptr b1 (0 + 2)), .val (ptr b1 (0 + 2 + (gi) * 36)), .val (ptr b1 (0 + 2 + (gi) * 36 + (gj) * 6)), .val (.agg (vecC (T (gi) (gj)))), .val (.int .i64 (gk : Int)), .val (.agg (vecC (fun c => if c = gk then 1 else 0))), .val (.agg (vecC (timesS p n T ((T (gi) (gj))) ((fun c => if c = gk then 1 else 0))))), .val (.agg (algC (p : Int) (n : Int) T f)), .val (.int .i64 (gi : Int)), .val (.agg (vecC (fun c => if c = gi then 1 else 0))), .val (.int .i64 (gj : Int)), .val (.int .i64 (gk : Int)), .val (ptr b1 (0 + 2)), .val (ptr b1 (0 + 2 + (gj) * 36)), .val (ptr b1 (0 + 2 + (gj) * 36 + (gk) * 6)), .val (.agg (vecC (T (gj) (gk))))] hmix rfl hF rfl hM ⟨fun a w gG hF hS hd => by have hM := hS.mem rfl; exact par_val hS rfl (g_loadAgg ty_ag_27 hF rfl (hM.row 0 rfl) (by simp only [sz0] <;> omega) (whole cells_size)), fun a w gG hF hS hd => by exact pmv hS rfl hF rfl, fun a w gG hF hS hd => by exact pmv hS rfl hF rfl, fun a w gG hF hS hd => by exact par_val hS rfl (g_fieldAddr ty_fo_27_2 hF rfl), fun a w gG hF hS hd => by have hF := hF.ext1 30 (hd 1 rfl rfl); have hF := hF.ext1 32 (hd 3 rfl rfl); exact par_val hS rfl (g_indexAddr ty_ar_24 hF rfl rfl rfl (by omega)), fun a w gG hF hS hd => by have hF := hF.ext1 31 (hd 2 rfl rfl); have hF := hF.ext1 33 (hd 4 rfl rfl); exact par_val hS rfl (g_indexAddr ty_ar_23 hF rfl rfl rfl (by omega)), fun a w gG hF hS hd => by have hF := hF.ext1 34 (hd 5 rfl rfl); have hM := hS.mem rfl; exact par_val hS rfl (g_loadAgg ty_ag_22 hF rfl (hM.row 0 rfl) (by simp only [sz0] <;> omega) (algC_row (gi) (gj) (by omega) (by omega) (by omega) (by omega))), fun a w gG hF hS hd => by exact pmv hS rfl hF rfl, fun a w gG hF hS hd => by have hF := hF.ext1 36 (hd 7 rfl rfl); exact par_call (by repeat constructor) hS rfl (d_call Try.call52 hF (.cons rfl .nil) (l01Basis_ok (gk) _ (by omega))), fun a w gG hF hS hd => by have hF := hF.ext1 29 (hd 0 rfl rfl); have hF := hF.ext1 35 (hd 6 rfl rfl); have hF := hF.ext1 37 (hd 8 rfl rfl); exact par_call (by repeat constructor) hS rfl (d_call Try.call51 hF (.cons rfl (.cons rfl (.cons rfl .nil))) (l01Times_ok p n T f ((T (gi) (gj))) ((fun c => if c = gk then 1 else 0)) _ (by omega) (by omega) (by omega) (fun _ _ _ => hT _ _ _) (fun _ => by first | exact hv _ | exact hu _ | exact hT _ _ _ | exact hf _ | omega | (split <;> omega) | (dsimp only; split <;> omega) | assumption) (fun _ => by first | exact hv _ | exact hu _ | exact hT _ _ _ | exact hf _ | omega | (split <;> omega) | (dsimp only; split <;> omega) | assumption))), fun a w gG hF hS hd => by have hM := hS.mem rfl; exact par_val hS rfl (g_loadAgg ty_ag_27 hF rfl (hM.row 0 rfl) (by simp only [sz0] <;> omega) (whole cells_size)), fun a w gG hF hS hd => by exact pmv hS rfl hF rfl, fun a w gG hF hS hd => by have hF := hF.ext1 40 (hd 11 rfl rfl); exact par_call (by repeat constructor) hS rfl (d_call Try.call52 hF (.cons rfl .nil) (l01Basis_ok (gi) _ (by omega))), fun a w gG hF hS hd => by exact pmv hS rfl hF rfl, fun a w gG hF hS hd => by exact pmv hS rfl hF rfl, fun a w gG hF hS hd => by exact par_val hS rfl (g_fieldAddr ty_fo_27_2 hF rfl), fun a w gG hF hS hd => by have hF := hF.ext1 42 (hd 13 rfl rfl); have hF := hF.ext1 44 (hd 15 rfl rfl); exact par_val hS rfl (g_indexAddr ty_ar_24 hF rfl rfl rfl (by omega)), fun a w gG hF hS hd => by have hF := hF.ext1 43 (hd 14 rfl rfl); have hF := hF.ext1 45 (hd 16 rfl rfl); exact par_val hS rfl (g_indexAddr ty_ar_23 hF rfl rfl rfl (by omega)), fun a w gG hF hS hd => by have hF := hF.ext1 46 (hd 17 rfl rfl); have hM := hS.mem rfl; exact par_val hS rfl (g_loadAgg ty_ag_22 hF rfl (hM.row 0 rfl) (by simp only [sz0] <;> omega) (algC_row (gj) (gk) (by omega) (by omega) (by omega) (by omega))), trivial⟩ ?_;intro a w' L hF hS hq;have hF := hF.ext1 29 (hq 0 rfl rfl);have hF := hF.ext1 30 (hq 1 rfl rfl)
        have hF := hF.ext1 31 (hq 2 rfl rfl);have hF := hF.ext1 32 (hq 3 rfl rfl);have hF := hF.ext1 33 (hq 4 rfl rfl);have hF := hF.ext1 34 (hq 5 rfl rfl);have hF := hF.ext1 35 (hq 6 rfl rfl);have hF := hF.ext1 36 (hq 7 rfl rfl);have hF := hF.ext1 37 (hq 8 rfl rfl);have hF := hF.ext1 38 (hq 9 rfl rfl);have hF := hF.ext1 39 (hq 10 rfl rfl);have hF := hF.ext1 40 (hq 11 rfl rfl);have hF := hF.ext1 41 (hq 12 rfl rfl);have hF := hF.ext1 42 (hq 13 rfl rfl);have hF := hF.ext1 43 (hq 14 rfl rfl);have hF := hF.ext1 44 (hq 15 rfl rfl);have hF := hF.ext1 45 (hq 16 rfl rfl);have hF := hF.ext1 46 (hq 17 rfl rfl);have hF := hF.ext1 47 (hq 18 rfl rfl);have hM := hS.mem rfl;change wpList Try.prog _ _ [_, _] _ _;refine stR hF (d_call Try.call51 hF (.cons rfl (.cons rfl (.cons rfl .nil))) (l01Times_ok p n T f ((fun c => if c = gi then 1 else 0)) ((T (gj) (gk))) _ (by omega) (by omega) (by omega) (fun _ _ _ => hT _ _ _) (fun _ => by first | exact hv _ | exact hu _ | exact hT _ _ _ | exact hf _ | omega | (split <;> omega) | (dsimp only; split <;> omega) | assumption) (fun _ => by first | exact hv _ | exact hu _ | exact hT _ _ _ | exact hf _ | omega | (split <;> omega) | (dsimp only; split <;> omega) | assumption))) rfl ?_;rintro _ w' a ⟨hx, rfl⟩ hF;have hM := hM.ext hx;refine st hF (g_neqA ty_eg_25 hF rfl rfl (eqAt_vec ty_ae_25 ty_ip_5 ty_on_5)) rfl fun a hF => nt <| c_cond hF rfl (fun h6 => ?_) (fun h6 => ?_)
        · refine sq ?_
          refine wp_region_lit <| ag hF rfl rfl fun a hF => nt <| wp_ret <| iR <| tR <| tR <| iR <| iR <| tR <| tR <| iR <| iR <| tR <| tR <| iR <| tR <| fin1 rfl hF.defers (res_tmp hF rfl) ⟨_, rfl, hM.below, ?_⟩
          show _ = _
          exact bool_f (fun hq => (by assumption : ¬ eqV 6 _ _) (hq.1 gi (by omega) gj (by omega) gk (by omega)))
        refine wp_skip <| iN <| tN <| wp_region_lit <| mv hF rfl rfl fun a hF => st hF (g_add hF rfl rfl (add_nat (gk) (1) (by omega))) rfl fun a hF => ag hF rfl rfl fun a hF => nt <| ⟨gk + 1, ⟨by omega, allS hinv3 (Decidable.not_not.1 (by assumption)), hF.sub _ (by repeat' constructor), ?_⟩, by omega⟩;exact hM
      obtain rfl : n = gk := by omega
      refine wp_exit <| tX <| tX <| ib_same <| iN <| tN <| wp_region_lit <| mv hF rfl rfl fun a hF => st hF (g_add hF rfl rfl (add_nat (gj) (1) (by omega))) rfl fun a hF => ag hF rfl rfl fun a hF => nt <| ⟨gj + 1, ⟨by omega, allS hinv2 hinv3, hF.sub _ (by repeat' constructor), ?_⟩, by omega⟩;exact hM
    obtain rfl : n = gj := by omega
    refine wp_exit <| tX <| tX <| ib_same <| iN <| tN <| wp_region_lit <| mv hF rfl rfl fun a hF => st hF (g_add hF rfl rfl (add_nat (gi) (1) (by omega))) rfl fun a hF => ag hF rfl rfl fun a hF => nt <| ⟨gi + 1, ⟨by omega, allS hinv1 hinv2, hF.sub _ (by repeat' constructor), ?_⟩, by omega⟩;exact hM
  obtain rfl : n = gi := by omega
  refine wp_exit <| tX <| tX <| ib_same <| tN <| sr <| st hF (g_loadAgg ty_ag_27 hF rfl (hM.row 0 rfl) (by simp only [sz0] <;> omega) (whole cells_size)) rfl fun a hF => stR hF (d_call Try.call53 hF (.cons rfl .nil) (l01Find_ok p n T f _ hp hn0 hn hTp)) rfl ?_;rintro _ w' a ⟨hx, ⟨uu, huu, rfl⟩ | ⟨huu, rfl⟩⟩ hF
  · have hM := hM.ext hx
    refine mv hF rfl rfl fun a hF => st hF (g_extract hF rfl rfl) rfl fun a hF => st hF (g_extract hF rfl rfl) rfl fun a hF => stR hF (d_alloc 1 hM ty_ze_25) rfl ?_;rintro _ w' a ⟨b7, rfl, hM, -⟩ hF;change Mem w w' [some (b1, algC (p : Int) (n : Int) T f), some (b7, fnC 6 (fun _ => .int .u8 (0)))] [] at hM;refine stN hF (d_storeAgg 1 hM rfl ty_sz_25 hF rfl rfl (by first | exact vecC_one | exact cells_one | (refine fnC_one fun _ _ => ?_; first | rfl | (split <;> rfl))) (by simp only [sz0]) (by simp only [sz0] <;> omega) (splice_whole _ _ (by simp only [sz0]))) ?_;intro _ w' a hM hF;change Mem w w' [some (b1, algC (p : Int) (n : Int) T f), some (b7, vecC uu)] [] at hM;refine ag hF rfl rfl fun a hF => ns <| mv hF rfl rfl fun a hF => ag hF rfl rfl fun a hF => nt <| wp_ret <| fin1 rfl hF.defers (res_tmp hF rfl) ⟨_, rfl, hM.below, ?_⟩
    show _ = _
    exact bool_t ⟨hinv1, _, huu⟩
  have hM := hM.ext hx;refine mv hF rfl rfl fun a hF => st hF (g_extract hF rfl rfl) rfl fun a hF => st hF (g_extract hF rfl rfl) rfl fun a hF => stR hF (d_alloc 1 hM ty_ze_25) rfl ?_;rintro _ w' a ⟨b8, rfl, hM, -⟩ hF;change Mem w w' [some (b1, algC (p : Int) (n : Int) T f), some (b8, fnC 6 (fun _ => .int .u8 (0)))] [] at hM;refine stN hF (d_storeAgg 1 hM rfl ty_sz_25 hF rfl rfl (by first | exact vecC_one | exact cells_one | (refine fnC_one fun _ _ => ?_; first | rfl | (split <;> rfl))) (by simp only [sz0]) (by simp only [sz0] <;> omega) (splice_whole _ _ (by simp only [sz0]))) ?_;intro _ w' a hM hF;change Mem w w' [some (b1, algC (p : Int) (n : Int) T f), some (b8, vecC (fun _ => 0))] [] at hM;refine ag hF rfl rfl fun a hF => ns <| mv hF rfl rfl fun a hF => ag hF rfl rfl fun a hF => nt <| wp_ret <| fin1 rfl hF.defers (res_tmp hF rfl) ⟨_, rfl, hM.below, ?_⟩
  show _ = _
  exact bool_f (fun hq => by obtain ⟨u, hu⟩ := hq.2; exact huu u hu)
theorem IsAlgebraA (p n : Int) (T : Nat → Nat → Nat → Nat) (f : Nat → Nat) (w : World) (hT : ∀ i j k, T i j k ≤ 255) (hf : ∀ i, f i ≤ 255) (hsh : ¬ shapeP p n T f) :
    CallsR Try.prog 39 #[.agg (algC p n T f)] w (fun res _ => res = .bool false) := by
  refine calls_fr [.agg (algC p n T f)] Try.func39 rfl Try.ntmps39 rfl fun a hF => ?_;have hM : Mem w w [none, none] [] := MemX.start w 2;change Fr 40 a [(0, .agg (algC p n T f))] at hF;refine sr <| stR hF (d_box 0 hM hF rfl) rfl ?_;rintro _ w' a ⟨b1, rfl, hM, -⟩ hF;change Mem w w' [some (b1, algC p n T f), none] [] at hM;refine ag hF rfl rfl fun a hF => nt <| sq <| sr <| st hF (g_fieldAddr ty_fo_27_0 hF rfl) rfl fun a hF => st hF (g_load ty_on_2 hF rfl (hM.row 0 rfl) (algC_p (by omega))) rfl fun a hF => stR hF (d_call Try.call25 hF (.cons rfl .nil) (isPrime_ok (p) _)) rfl ?_;rintro _ w' a ⟨hx, rfl⟩ hF;have hM := hM.ext hx;refine st hF (g_notP hF rfl) rfl fun a hF => mv hF rfl rfl fun a hF => ?_
  by_cases g2 : ¬ (primeP (p))
  · first | rw [decide_eq_true g2] at hF | simp only [decide_eq_true g2] at hF
    refine stS hF rfl rfl rfl rfl rfl fun a hF => stS hF rfl rfl rfl rfl rfl fun a hF => stS hF rfl rfl rfl rfl rfl fun a hF => st hF (g_pickT hF rfl rfl) rfl fun a hF => mv hF rfl rfl fun a hF => stS hF rfl rfl rfl rfl rfl fun a hF => stS hF rfl rfl rfl rfl rfl fun a hF => stS hF rfl rfl rfl rfl rfl fun a hF => st hF (g_pickT hF rfl rfl) rfl fun a hF => nt <| c_T hF rfl <| sr <| ag hF rfl rfl fun a hF => nt <| wp_ret <| tR <| fin1 rfl hF.defers (res_tmp hF rfl) ⟨_, rfl, hM.below, ?_⟩
    show _ = _
    rfl
  first | rw [decide_eq_false g2] at hF | simp only [decide_eq_false g2] at hF
  refine stY hF rfl rfl rfl (g_fieldAddr ty_fo_27_1 hF rfl) rfl fun a hF => stY hF rfl rfl rfl (g_load ty_on_2 hF rfl (hM.row 0 rfl) (algC_n (by omega))) rfl fun a hF => stY hF rfl rfl rfl (g_lss hF rfl rfl) rfl fun a hF => st hF (g_pickF hF rfl rfl) rfl fun a hF => mv hF rfl rfl fun a hF => ?_
  by_cases g4 : (n : Int) < 1
  · first | rw [decide_eq_true g4] at hF | simp only [decide_eq_true g4] at hF
    refine stS hF rfl rfl rfl rfl rfl fun a hF => stS hF rfl rfl rfl rfl rfl fun a hF => stS hF rfl rfl rfl rfl rfl fun a hF => st hF (g_pickT hF rfl rfl) rfl fun a hF => nt <| c_T hF rfl <| sr <| ag hF rfl rfl fun a hF => nt <| wp_ret <| tR <| fin1 rfl hF.defers (res_tmp hF rfl) ⟨_, rfl, hM.below, ?_⟩
    show _ = _
    rfl
  first | rw [decide_eq_false g4] at hF | simp only [decide_eq_false g4] at hF
  refine stY hF rfl rfl rfl (g_fieldAddr ty_fo_27_1 hF rfl) rfl fun a hF => stY hF rfl rfl rfl (g_load ty_on_2 hF rfl (hM.row 0 rfl) (algC_n (by omega))) rfl fun a hF => stY hF rfl rfl rfl (g_gtr hF rfl rfl) rfl fun a hF => st hF (g_pickF hF rfl rfl) rfl fun a hF => nt <| c_cond hF rfl (fun h6 => ?_) (fun h6 => ?_)
  · refine sq ?_
    refine wp_region_lit <| ag hF rfl rfl fun a hF => nt <| wp_ret <| tR <| fin1 rfl hF.defers (res_tmp hF rfl) ⟨_, rfl, hM.below, ?_⟩
    show _ = _
    rfl
  refine wp_skip <| tN <| sq <| sr <| st hF (g_loadAgg ty_ag_27 hF rfl (hM.row 0 rfl) (by simp only [sz0] <;> omega) (whole cells_size)) rfl fun a hF => st hF (g_fieldAddr ty_fo_27_3 hF rfl) rfl fun a hF => st hF (g_loadAgg ty_ag_25 hF rfl (hM.row 0 rfl) (by simp only [sz0] <;> omega) (algC_form (by omega) (by omega))) rfl fun a hF => stR hF (d_call Try.call38 hF (.cons rfl (.cons rfl .nil)) (isVector_ok p n T f (f) _ (fun _ => by first | exact hv _ | exact hu _ | exact hT _ _ _ | exact hf _ | omega | (split <;> omega) | (dsimp only; split <;> omega) | assumption))) rfl ?_;rintro _ w' a ⟨hx, rfl⟩ hF;have hM := hM.ext hx;refine st hF (g_notP hF rfl) rfl fun a hF => mv hF rfl rfl fun a hF => ?_
  by_cases g7 : ¬ (okV p n (f))
  · first | rw [decide_eq_true g7] at hF | simp only [decide_eq_true g7] at hF
    refine stS hF rfl rfl rfl rfl rfl fun a hF => stS hF rfl rfl rfl rfl rfl fun a hF => stS hF rfl rfl rfl rfl rfl fun a hF => st hF (g_pickT hF rfl rfl) rfl fun a hF => mv hF rfl rfl fun a hF => stS hF rfl rfl rfl rfl rfl fun a hF => stS hF rfl rfl rfl rfl rfl fun a hF => stS hF rfl rfl rfl rfl rfl fun a hF => st hF (g_pickT hF rfl rfl) rfl fun a hF => nt <| c_T hF rfl <| sr <| ag hF rfl rfl fun a hF => nt <| wp_ret <| tR <| fin1 rfl hF.defers (res_tmp hF rfl) ⟨_, rfl, hM.below, ?_⟩
    show _ = _
    rfl
  first | rw [decide_eq_false g7] at hF | simp only [decide_eq_false g7] at hF
  refine stY hF rfl rfl rfl (g_loadAgg ty_ag_27 hF rfl (hM.row 0 rfl) (by simp only [sz0] <;> omega) (whole cells_size)) rfl fun a hF => stYR hF rfl rfl rfl (d_call Try.call58 hF (.cons rfl .nil) (hasTable_ok p n T f _ (fun _ _ _ => hT _ _ _) (fun _ => hf _))) rfl ?_;rintro _ w' a ⟨hx, rfl⟩ hF;have hM := hM.ext hx;refine stY hF rfl rfl rfl (g_notP hF rfl) rfl fun a hF => st hF (g_pickF hF rfl rfl) rfl fun a hF => mv hF rfl rfl fun a hF => ?_
  by_cases g9 : ¬ (all2 6 (okE p n T))
  · first | rw [decide_eq_true g9] at hF | simp only [decide_eq_true g9] at hF
    refine stS hF rfl rfl rfl rfl rfl fun a hF => stS hF rfl rfl rfl rfl rfl fun a hF => stS hF rfl rfl rfl rfl rfl fun a hF => st hF (g_pickT hF rfl rfl) rfl fun a hF => nt <| c_T hF rfl <| sr <| ag hF rfl rfl fun a hF => nt <| wp_ret <| tR <| fin1 rfl hF.defers (res_tmp hF rfl) ⟨_, rfl, hM.below, ?_⟩
    show _ = _
    rfl
  first | rw [decide_eq_false g9] at hF | simp only [decide_eq_false g9] at hF
  exact absurd (show shapeP p n T f from ⟨Decidable.not_not.1 (by assumption), ⟨by omega, by omega⟩, Decidable.not_not.1 (by assumption), (table_iff (primeP_pos (Decidable.not_not.1 (by assumption)))).1 (Decidable.not_not.1 (by assumption))⟩) hsh
theorem IsAlgebraB (p n : Nat) (T : Nat → Nat → Nat → Nat) (f : Nat → Nat) (w : World) (hp : primeN p) (hn0 : 0 < n) (hn : n ≤ 6) (hTp : ∀ i j k, T i j k < p) (hT0 : ∀ i j k, n ≤ k → T i j k = 0) (hf : ∀ i, f i ≤ 255) (hsh : shapeP (p : Int) (n : Int) T f) :
    CallsR Try.prog 39 #[.agg (algC (p : Int) (n : Int) T f)] w (fun res _ => res = .bool (decide (AlgN p n T))) := by
  refine calls_fr [.agg (algC (p : Int) (n : Int) T f)] Try.func39 rfl Try.ntmps39 rfl fun a hF => ?_;have hM : Mem w w [none, none] [] := MemX.start w 2;change Fr 40 a [(0, .agg (algC (p : Int) (n : Int) T f))] at hF;have hp2 := hp.two;have hp13 := hp.le;have hT : ∀ i j k, T i j k ≤ 255 := fun i j k => by have := hTp i j k; omega
  refine sr <| stR hF (d_box 0 hM hF rfl) rfl ?_;rintro _ w' a ⟨b1, rfl, hM, -⟩ hF;change Mem w w' [some (b1, algC (p : Int) (n : Int) T f), none] [] at hM;refine ag hF rfl rfl fun a hF => nt <| sq <| sr <| st hF (g_fieldAddr ty_fo_27_0 hF rfl) rfl fun a hF => st hF (g_load ty_on_2 hF rfl (hM.row 0 rfl) (algC_p (by omega))) rfl fun a hF => stR hF (d_call Try.call25 hF (.cons rfl .nil) ((CallsR.val (isPrime_ok (p : Int) _) (congrArg Value.bool (decide_eq_true (hsh.1)))))) rfl ?_;rintro _ w' a ⟨hx, rfl⟩ hF;have hM := hM.ext hx;refine st hF (g_not (b := true) hF rfl) rfl fun a hF => mv hF rfl rfl fun a hF => stY hF rfl rfl rfl (g_fieldAddr ty_fo_27_1 hF rfl) rfl fun a hF => stY hF rfl rfl rfl (g_load ty_on_2 hF rfl (hM.row 0 rfl) (algC_n (by omega))) rfl fun a hF => stY hF rfl rfl rfl (g_lss hF rfl rfl) rfl fun a hF => st hF (g_pickF hF rfl rfl) rfl fun a hF => mv hF rfl rfl fun a hF => ?_
  by_cases g2 : ((n : Int) : Int) < 1
  · first | rw [decide_eq_true g2] at hF | simp only [decide_eq_true g2] at hF
    exfalso; omega
  first | rw [decide_eq_false g2] at hF | simp only [decide_eq_false g2] at hF
  refine stY hF rfl rfl rfl (g_fieldAddr ty_fo_27_1 hF rfl) rfl fun a hF => stY hF rfl rfl rfl (g_load ty_on_2 hF rfl (hM.row 0 rfl) (algC_n (by omega))) rfl fun a hF => stY hF rfl rfl rfl (g_gtr hF rfl rfl) rfl fun a hF => st hF (g_pickF hF rfl rfl) rfl fun a hF => nt <| c_cond hF rfl (fun h3 => ?_) (fun h3 => ?_)
  · exfalso; omega
  refine wp_skip <| tN <| sq <| sr <| st hF (g_loadAgg ty_ag_27 hF rfl (hM.row 0 rfl) (by simp only [sz0] <;> omega) (whole cells_size)) rfl fun a hF => st hF (g_fieldAddr ty_fo_27_3 hF rfl) rfl fun a hF => st hF (g_loadAgg ty_ag_25 hF rfl (hM.row 0 rfl) (by simp only [sz0] <;> omega) (algC_form (by omega) (by omega))) rfl fun a hF => stR hF (d_call Try.call38 hF (.cons rfl (.cons rfl .nil)) ((CallsR.val (isVector_ok (p : Int) (n : Int) T f (f) _ (fun _ => by first | exact hv _ | exact hu _ | exact hT _ _ _ | exact hf _ | omega | (split <;> omega) | (dsimp only; split <;> omega) | assumption)) (congrArg Value.bool (decide_eq_true (hsh.2.2.1)))))) rfl ?_;rintro _ w' a ⟨hx, rfl⟩ hF;have hM := hM.ext hx;refine st hF (g_not (b := true) hF rfl) rfl fun a hF => mv hF rfl rfl fun a hF => stY hF rfl rfl rfl (g_loadAgg ty_ag_27 hF rfl (hM.row 0 rfl) (by simp only [sz0] <;> omega) (whole cells_size)) rfl fun a hF => stYR hF rfl rfl rfl (d_call Try.call58 hF (.cons rfl .nil) ((CallsR.val (hasTable_ok (p : Int) (n : Int) T f _ (fun _ _ _ => hT _ _ _) (fun _ => hf _)) (congrArg Value.bool (decide_eq_true ((table_iff (primeP_pos hsh.1)).2 hsh.2.2.2)))))) rfl ?_;rintro _ w' a ⟨hx, rfl⟩ hF;have hM := hM.ext hx;refine stY hF rfl rfl rfl (g_not (b := true) hF rfl) rfl fun a hF => st hF (g_pickF hF rfl rfl) rfl fun a hF => mv hF rfl rfl fun a hF => stY hF rfl rfl rfl (g_loadAgg ty_ag_27 hF rfl (hM.row 0 rfl) (by simp only [sz0] <;> omega) (whole cells_size)) rfl fun a hF => stYR hF rfl rfl rfl (d_call Try.call59 hF (.cons rfl .nil) (isAssociative_ok p n T f _ (by omega) (by omega) (by omega) (fun _ _ _ => hT _ _ _) (fun _ => hf _))) rfl ?_;rintro _ w' a ⟨hx, rfl⟩ hF;have hM := hM.ext hx;refine stY hF rfl rfl rfl (g_notP hF rfl) rfl fun a hF => st hF (g_pickF hF rfl rfl) rfl fun a hF => nt <| c_cond hF rfl (fun h4 => ?_) (fun h4 => ?_)
  · refine sq ?_
    refine wp_region_lit <| ag hF rfl rfl fun a hF => nt <| wp_ret <| tR <| fin1 rfl hF.defers (res_tmp hF rfl) ⟨_, rfl, hM.below, ?_⟩
    show _ = _
    exact bool_f (fun hq => (by assumption : ¬ asP p n T) ((asP_iff hT0).2 hq.1))
  refine wp_skip <| tN <| sr <| st hF (g_loadAgg ty_ag_27 hF rfl (hM.row 0 rfl) (by simp only [sz0] <;> omega) (whole cells_size)) rfl fun a hF => stR hF (d_call Try.call32 hF (.cons rfl .nil) (findUnit_ok p n T f _ hp hn0 hn hTp)) rfl ?_;rintro _ w' a ⟨hx, ⟨uu, huu, rfl⟩ | ⟨huu, rfl⟩⟩ hF
  · have hM := hM.ext hx
    refine mv hF rfl rfl fun a hF => st hF (g_extract hF rfl rfl) rfl fun a hF => st hF (g_extract hF rfl rfl) rfl fun a hF => stR hF (d_alloc 1 hM ty_ze_25) rfl ?_;rintro _ w' a ⟨b5, rfl, hM, -⟩ hF;change Mem w w' [some (b1, algC (p : Int) (n : Int) T f), some (b5, fnC 6 (fun _ => .int .u8 (0)))] [] at hM;refine stN hF (d_storeAgg 1 hM rfl ty_sz_25 hF rfl rfl (by first | exact vecC_one | exact cells_one | (refine fnC_one fun _ _ => ?_; first | rfl | (split <;> rfl))) (by simp only [sz0]) (by simp only [sz0] <;> omega) (splice_whole _ _ (by simp only [sz0]))) ?_;intro _ w' a hM hF;change Mem w w' [some (b1, algC (p : Int) (n : Int) T f), some (b5, vecC uu)] [] at hM;refine ag hF rfl rfl fun a hF => ns <| mv hF rfl rfl fun a hF => ag hF rfl rfl fun a hF => nt <| wp_ret <| fin1 rfl hF.defers (res_tmp hF rfl) ⟨_, rfl, hM.below, ?_⟩
    show _ = _
    exact bool_t ⟨(asP_iff hT0).1 (Decidable.not_not.1 (by assumption)), _, huu⟩
  have hM := hM.ext hx;refine mv hF rfl rfl fun a hF => st hF (g_extract hF rfl rfl) rfl fun a hF => st hF (g_extract hF rfl rfl) rfl fun a hF => stR hF (d_alloc 1 hM ty_ze_25) rfl ?_;rintro _ w' a ⟨b6, rfl, hM, -⟩ hF;change Mem w w' [some (b1, algC (p : Int) (n : Int) T f), some (b6, fnC 6 (fun _ => .int .u8 (0)))] [] at hM;refine stN hF (d_storeAgg 1 hM rfl ty_sz_25 hF rfl rfl (by first | exact vecC_one | exact cells_one | (refine fnC_one fun _ _ => ?_; first | rfl | (split <;> rfl))) (by simp only [sz0]) (by simp only [sz0] <;> omega) (splice_whole _ _ (by simp only [sz0]))) ?_;intro _ w' a hM hF;change Mem w w' [some (b1, algC (p : Int) (n : Int) T f), some (b6, vecC (fun _ => 0))] [] at hM;refine ag hF rfl rfl fun a hF => ns <| mv hF rfl rfl fun a hF => ag hF rfl rfl fun a hF => nt <| wp_ret <| fin1 rfl hF.defers (res_tmp hF rfl) ⟨_, rfl, hM.below, ?_⟩
  show _ = _
  exact bool_f (fun hq => by obtain ⟨u, hu⟩ := hq.2; exact huu u hu)
theorem IsAlgebraI_ok (p n : Int) (T : Nat → Nat → Nat → Nat) (f : Nat → Nat) (w : World) (hT : ∀ i j k, T i j k ≤ 255) (hf : ∀ i, f i ≤ 255) : CallsV Try.prog 39 #[.agg (algC p n T f)] w (.bool (decide (AlgP p n T f))) := by
  by_cases hs : shapeP p n T f
  · have hp0 := primeP_pos hs.1
    have hn := hs.2.1;have h := IsAlgebraB p.toNat n.toNat (trunc n.toNat T) f w (primeN_of hs.1) (by omega) (by omega) (trunc_lt hs) trunc_out hf;rw [show (p.toNat : Int) = p by omega, show (n.toNat : Int) = n by omega, ← algC_trunc hs] at h;exact CallsR.val (h (shape_trunc hs)) (congrArg Value.bool (decide_eq_decide.2 ⟨fun h => ⟨hs, h⟩, fun h => h.2⟩))
  · exact CallsR.val (IsAlgebraA p n T f w hT hf hs) (congrArg Value.bool (decide_eq_false (fun h => hs h.1)).symm)
theorem l01Algebra_ok (p n : Int) (T : Nat → Nat → Nat → Nat) (f : Nat → Nat) (w : World) (hT : ∀ i j k, T i j k ≤ 255) (hf : ∀ i, f i ≤ 255) : CallsV Try.prog 34 #[.agg (algC p n T f)] w (.bool (decide (AlgP p n T f))) := by
  by_cases hs : shapeP p n T f
  · have hp0 := primeP_pos hs.1
    have hn := hs.2.1;have h := l01AlgebraB p.toNat n.toNat (trunc n.toNat T) f w (primeN_of hs.1) (by omega) (by omega) (trunc_lt hs) trunc_out hf;rw [show (p.toNat : Int) = p by omega, show (n.toNat : Int) = n by omega, ← algC_trunc hs] at h;exact CallsR.val (h (shape_trunc hs)) (congrArg Value.bool (decide_eq_decide.2 ⟨fun h => ⟨hs, h⟩, fun h => h.2⟩))
  · exact CallsR.val (l01AlgebraA p n T f w hT hf hs) (congrArg Value.bool (decide_eq_false (fun h => hs h.1)).symm)
end Go.Proofs.Ytnedojhanlhjkaa
