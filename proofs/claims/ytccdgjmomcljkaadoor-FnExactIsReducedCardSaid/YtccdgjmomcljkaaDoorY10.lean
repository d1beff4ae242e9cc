/- What functions of the program return, as walks over their operations; no statement of the seat is proved here. -/
import Derived.Test.YtccdgjmomcljkaaDoorY9
import Derived.Test.YtccdgjmomcljkaaDoorSw47
import Derived.Test.YtccdgjmomcljkaaDoorSw10
set_option linter.unusedVariables false
set_option linter.unusedSimpArgs false
namespace Go.Proofs.YtccdgjmomcljkaaDoor
open Go Go.RowKit Go.Sw Go.Ech
open Classical
theorem ty_ag_26 : aggP Tryd.prog 26 = some 224 := by kernel_rfl
theorem ty_ub_4 : Tryd.prog.underlying 4 = some .bool := by kernel_rfl
theorem dvd_small {p x : Nat} (h : (p : Int) ∣ (x : Int)) (hx : x < p) : x = 0 := Nat.eq_zero_of_dvd_of_lt (Int.natCast_dvd_natCast.1 h) hx
theorem hpos_of {p n m : Nat} {M : Nat → Nat → Nat} (hp : 2 ≤ p) (hne : ∀ k E ld, Rref p n E k ld → (∀ x, Ker p n E k x ↔ Ker p n M m x) → 0 < nf k ld n) : ∀ r V, IsKer p n M m r V → 0 < r := fun r V h => by
  obtain ⟨k, E, ld, ld2, h1, h2, h3, h4⟩ := h
  obtain ⟨c, hc, hf, _⟩ := nf_at n 0 (hne k E ld h1 h2)
  refine Decidable.byContradiction fun h0 => ?_
  have h5 := (h4 (fun d => if d = c then 1 else 0)).1 (fun i hi => absurd hi (by omega)) c hc hf
  have e : dot n (ci (sol p E k ld c)) (fun d => if d = c then 1 else 0) = ((1 : Nat) : Int) := by
    unfold dot
    rw [sI_one hc]
    · unfold ci sol; simp
    · intro j _ hne2; simp [hne2]
  rw [e] at h5;have := dvd_small h5 (by omega)
  omega
def cutR (n R : Nat) (W : Nat → Nat → Nat) (i c : Nat) : Nat := if i < R ∧ c < n then W i c else 0
theorem nf_cases {p n m : Nat} {M : Nat → Nat → Nat} (hp : primeN p) (hM : ∀ i c, M i c < p) : (∀ k E ld, Rref p n E k ld → (∀ x, Ker p n E k x ↔ Ker p n M m x) → 0 < nf k ld n) ∨ (∀ k E ld, Rref p n E k ld → (∀ x, Ker p n E k x ↔ Ker p n M m x) → nf k ld n = 0) := by
  obtain ⟨k0, E0, ld0, h0, _, hk0⟩ := rref_exists (N := n) (m := m) hp hM;have key : ∀ k E ld, Rref p n E k ld → (∀ x, Ker p n E k x ↔ Ker p n M m x) → nf k ld n = nf k0 ld0 n := fun k E ld h hk => by
    obtain ⟨rfl, e1, _⟩ := rref_unique hp.two h h0 (fun x => (hk x).trans (hk0 x).symm);exact nf_congr e1 n
  by_cases e : nf k0 ld0 n = 0
  · exact .inr fun k E ld h hk => by rw [key k E ld h hk, e]
  · exact .inl fun k E ld h hk => by rw [key k E ld h hk]; omega
theorem law_IsReducedA (p n : Int) (T : Nat → Nat → Nat → Nat) (f : Nat → Nat) (w : World) (hT : ∀ i j k, T i j k ≤ 255) (hf : ∀ i, f i ≤ 255) (hc : ¬ CodeP p n T f 0 (vAtL [])) :
    CallsR Tryd.prog 4 #[.agg (algC p n T f)] w (fun res _ => res = .bool true) := by
  refine calls_fr [.agg (algC p n T f)] Tryd.func4 rfl Tryd.ntmps4 rfl fun a hF => ?_;have hM : Mem w w [none] [] := MemX.start w 1;change Fr 27 a [(0, .agg (algC p n T f))] at hF;refine sr <| stR hF (d_box 0 hM hF rfl) rfl ?_;rintro _ w' a ⟨b1, rfl, hM, -⟩ hF;change Mem w w' [some (b1, algC p n T f)] [] at hM;refine ag hF rfl rfl fun a hF => ns <| st hF (g_loadAgg ty_ag_26 hF rfl (hM.row 0 rfl) (by simp only [sz0, dgC_size, numC_sz, ldB_size] <;> omega) (whole cells_size)) rfl fun a hF => stR hF (d_call Tryd.call10 hF (.cons rfl .nil) (toAlgebra_ok p n T f _)) rfl ?_;rintro _ w' a ⟨hx, rfl⟩ hF;have hM := hM.ext hx;refine stR hF (d_call Tryd.call15 hF (.cons rfl .nil) (IsReducedS_A p n T f _ hT hf hc)) rfl ?_;rintro _ w' a ⟨hx, rfl⟩ hF;have hM := hM.ext hx;refine mv hF rfl rfl fun a hF => st hF (g_extract hF rfl rfl) rfl fun a hF => st hF (g_extract hF rfl rfl) rfl fun a hF => ag hF rfl rfl fun a hF => ag hF rfl rfl fun a hF => ns <| st hF (g_loadAgg ty_ag_26 hF rfl (hM.row 0 rfl) (by simp only [sz0, dgC_size, numC_sz, ldB_size] <;> omega) (whole cells_size)) rfl fun a hF => stR hF (d_call Tryd.call10 hF (.cons rfl .nil) (toAlgebra_ok p n T f _)) rfl ?_;rintro _ w' a ⟨hx, rfl⟩ hF;have hM := hM.ext hx;refine stR hF (d_call Tryd.call16 hF (.cons rfl .nil) (IsReducedI_A p n T f _ hT hf hc)) rfl ?_;rintro _ w' a ⟨hx, rfl⟩ hF;have hM := hM.ext hx;refine mv hF rfl rfl fun a hF => st hF (g_extract hF rfl rfl) rfl fun a hF => st hF (g_extract hF rfl rfl) rfl fun a hF => ag hF rfl rfl fun a hF => ag hF rfl rfl fun a hF => nt <| sq <| sr <| mv hF rfl rfl fun a hF => mv hF rfl rfl fun a hF => st hF (g_neqBo ty_ub_4 hF rfl rfl) rfl fun a hF => mv hF rfl rfl fun a hF => ?_
  by_cases g2 : (false : Bool) ≠ (false : Bool)
  · first | rw [decide_eq_true g2] at hF | simp only [decide_eq_true g2] at hF
    first | exact absurd rfl g2 | (exfalso; omega)
  first | rw [decide_eq_false g2] at hF | simp only [decide_eq_false g2] at hF
  refine stY hF rfl rfl rfl (g_move hF rfl) rfl fun a hF => stY hF rfl rfl rfl (g_move hF rfl) rfl fun a hF => stY hF rfl rfl rfl (g_neq hF rfl rfl) rfl fun a hF => st hF (g_pickF hF rfl rfl) rfl fun a hF => nt <| c_kF hF rfl (by decide) <| wp_skip <| tN <| sr <| ag hF rfl rfl fun a hF => nt <| wp_ret <| fin1 rfl hF.defers (res_tmp hF rfl) ⟨_, rfl, hM.below, ?_⟩
  show _ = _
  rfl
theorem law_IsReducedN (p n : Nat) (T : Nat → Nat → Nat → Nat) (f : Nat → Nat) (ev : Value) (w : World) (hp : primeN p) (hn0 : 0 < n) (hn : n ≤ 6) (hTp : ∀ i j k, T i j k < p) (hT0 : ∀ i j k, n ≤ k → T i j k = 0) (hf : ∀ i, f i ≤ 255) (hc : CodeP (p : Int) (n : Int) T f 0 (vAtL [])) (hcom : ¬ comP T) (hg : Blk w 0 #[.iface 108 ev]) :
    CallsR Tryd.prog 4 #[.agg (algC (p : Int) (n : Int) T f)] w (fun res _ => res = .bool true) := by
  refine calls_fr [.agg (algC (p : Int) (n : Int) T f)] Tryd.func4 rfl Tryd.ntmps4 rfl fun a hF => ?_;have hM : Mem w w [none] [(0, #[.iface 108 ev])] := MemX.startD w 1 _ (startD1 hg);change Fr 27 a [(0, .agg (algC (p : Int) (n : Int) T f))] at hF;have hp2 := hp.two;have hp13 := hp.le;have hT : ∀ i j k, T i j k ≤ 255 := fun i j k => by have := hTp i j k; omega
  refine sr <| stR hF (d_box 0 hM hF rfl) rfl ?_;rintro _ w' a ⟨b1, rfl, hM, -⟩ hF;change Mem w w' [some (b1, algC (p : Int) (n : Int) T f)] [(0, #[.iface 108 ev])] at hM;refine ag hF rfl rfl fun a hF => ns <| st hF (g_loadAgg ty_ag_26 hF rfl (hM.row 0 rfl) (by simp only [sz0, dgC_size, numC_sz, ldB_size] <;> omega) (whole cells_size)) rfl fun a hF => stR hF (d_call Tryd.call10 hF (.cons rfl .nil) (toAlgebra_ok (p : Int) (n : Int) T f _)) rfl ?_;rintro _ w' a ⟨hx, rfl⟩ hF;have hM := hM.ext hx;refine stR hF (d_call Tryd.call15 hF (.cons rfl .nil) (IsReducedS_N p n T f _ hp hn0 hn hTp hT0 hf hc hcom)) rfl ?_;rintro _ w' a ⟨hx, rfl⟩ hF;have hM := hM.ext hx;refine mv hF rfl rfl fun a hF => st hF (g_extract hF rfl rfl) rfl fun a hF => st hF (g_extract hF rfl rfl) rfl fun a hF => ag hF rfl rfl fun a hF => ag hF rfl rfl fun a hF => ns <| st hF (g_loadAgg ty_ag_26 hF rfl (hM.row 0 rfl) (by simp only [sz0, dgC_size, numC_sz, ldB_size] <;> omega) (whole cells_size)) rfl fun a hF => stR hF (d_call Tryd.call10 hF (.cons rfl .nil) (toAlgebra_ok (p : Int) (n : Int) T f _)) rfl ?_;rintro _ w' a ⟨hx, rfl⟩ hF;have hM := hM.ext hx;refine stR hF (d_call Tryd.call16 hF (.cons rfl .nil) (IsReducedI_N p n T f ev _ hp hn0 hn hTp hT0 hf hc hcom (hM.fz 0 rfl))) rfl ?_;rintro _ w' a ⟨hx, rfl⟩ hF;have hM := hM.ext hx;refine mv hF rfl rfl fun a hF => st hF (g_extract hF rfl rfl) rfl fun a hF => st hF (g_extract hF rfl rfl) rfl fun a hF => ag hF rfl rfl fun a hF => ag hF rfl rfl fun a hF => nt <| sq <| sr <| mv hF rfl rfl fun a hF => mv hF rfl rfl fun a hF => st hF (g_neqBo ty_ub_4 hF rfl rfl) rfl fun a hF => mv hF rfl rfl fun a hF => ?_
  by_cases g2 : (false : Bool) ≠ (false : Bool)
  · first | rw [decide_eq_true g2] at hF | simp only [decide_eq_true g2] at hF
    first | exact absurd rfl g2 | (exfalso; omega)
  first | rw [decide_eq_false g2] at hF | simp only [decide_eq_false g2] at hF
  refine stY hF rfl rfl rfl (g_move hF rfl) rfl fun a hF => stY hF rfl rfl rfl (g_move hF rfl) rfl fun a hF => stY hF rfl rfl rfl (g_neq hF rfl rfl) rfl fun a hF => st hF (g_pickF hF rfl rfl) rfl fun a hF => nt <| c_kF hF rfl (by decide) <| wp_skip <| tN <| sr <| ag hF rfl rfl fun a hF => nt <| wp_ret <| fin1 rfl hF.defers (res_tmp hF rfl) ⟨_, rfl, hM.below, ?_⟩
  show _ = _
  rfl
theorem law_IsReducedY (p n : Nat) (T : Nat → Nat → Nat → Nat) (f : Nat → Nat) (w : World) (hp : primeN p) (hn0 : 0 < n) (hn : n ≤ 6) (hTp : ∀ i j k, T i j k < p) (hT0 : ∀ i j k, n ≤ k → T i j k = 0) (hf : ∀ i, f i ≤ 255) (hc : CodeP (p : Int) (n : Int) T f 0 (vAtL [])) (hcom : comP T) (uu : Nat → Nat) (huu : UnitI p n T uu) (hne : ∀ k E ld, Rref p n E k ld → (∀ x, Ker p n E k x ↔ Ker p n (fun r c => imP p n T uu (kkE p (nilE p n)) c r) n x) → 0 < nf k ld n) (hpos : ∀ r V, IsKer p n (fun r c => imP p n T uu (kkE p (nilE p n)) c r) n r V → 0 < r) :
    CallsR Tryd.prog 4 #[.agg (algC (p : Int) (n : Int) T f)] w (fun res _ => res = .bool true) := by
  refine calls_fr [.agg (algC (p : Int) (n : Int) T f)] Tryd.func4 rfl Tryd.ntmps4 rfl fun a hF => ?_;have hM : Mem w w [none] [] := MemX.start w 1;change Fr 27 a [(0, .agg (algC (p : Int) (n : Int) T f))] at hF;have hp2 := hp.two;have hp13 := hp.le;have hT : ∀ i j k, T i j k ≤ 255 := fun i j k => by have := hTp i j k; omega
  refine sr <| stR hF (d_box 0 hM hF rfl) rfl ?_;rintro _ w' a ⟨b1, rfl, hM, -⟩ hF;change Mem w w' [some (b1, algC (p : Int) (n : Int) T f)] [] at hM;refine ag hF rfl rfl fun a hF => ns <| st hF (g_loadAgg ty_ag_26 hF rfl (hM.row 0 rfl) (by simp only [sz0, dgC_size, numC_sz, ldB_size] <;> omega) (whole cells_size)) rfl fun a hF => stR hF (d_call Tryd.call10 hF (.cons rfl .nil) (toAlgebra_ok (p : Int) (n : Int) T f _)) rfl ?_;rintro _ w' a ⟨hx, rfl⟩ hF;have hM := hM.ext hx;refine stR hF (d_call Tryd.call15 hF (.cons rfl .nil) (IsReducedS_Y p n T f _ hp hn0 hn hTp hT0 hf hc hcom uu huu hne hpos)) rfl ?_;rintro _ w' a ⟨hx, rfl⟩ hF;have hM := hM.ext hx;refine mv hF rfl rfl fun a hF => st hF (g_extract hF rfl rfl) rfl fun a hF => st hF (g_extract hF rfl rfl) rfl fun a hF => ag hF rfl rfl fun a hF => ag hF rfl rfl fun a hF => ns <| st hF (g_loadAgg ty_ag_26 hF rfl (hM.row 0 rfl) (by simp only [sz0, dgC_size, numC_sz, ldB_size] <;> omega) (whole cells_size)) rfl fun a hF => stR hF (d_call Tryd.call10 hF (.cons rfl .nil) (toAlgebra_ok (p : Int) (n : Int) T f _)) rfl ?_;rintro _ w' a ⟨hx, rfl⟩ hF;have hM := hM.ext hx;refine stR hF (d_call Tryd.call16 hF (.cons rfl .nil) (IsReducedI_Y p n T f _ hp hn0 hn hTp hT0 hf hc hcom uu huu hne hpos)) rfl ?_;rintro _ w' a ⟨hx, rfl⟩ hF;have hM := hM.ext hx;refine mv hF rfl rfl fun a hF => st hF (g_extract hF rfl rfl) rfl fun a hF => st hF (g_extract hF rfl rfl) rfl fun a hF => ag hF rfl rfl fun a hF => ag hF rfl rfl fun a hF => nt <| sq <| sr <| mv hF rfl rfl fun a hF => mv hF rfl rfl fun a hF => st hF (g_neqBo ty_ub_4 hF rfl rfl) rfl fun a hF => mv hF rfl rfl fun a hF => ?_
  by_cases g2 : (false : Bool) ≠ (false : Bool)
  · first | rw [decide_eq_true g2] at hF | simp only [decide_eq_true g2] at hF
    first | exact absurd rfl g2 | (exfalso; omega)
  first | rw [decide_eq_false g2] at hF | simp only [decide_eq_false g2] at hF
  refine stY hF rfl rfl rfl (g_move hF rfl) rfl fun a hF => stY hF rfl rfl rfl (g_move hF rfl) rfl fun a hF => stY hF rfl rfl rfl (g_neq hF rfl rfl) rfl fun a hF => st hF (g_pickF hF rfl rfl) rfl fun a hF => nt <| c_kF hF rfl (by decide) <| wp_skip <| tN <| sr <| ag hF rfl rfl fun a hF => nt <| wp_ret <| fin1 rfl hF.defers (res_tmp hF rfl) ⟨_, rfl, hM.below, ?_⟩
  show _ = _
  rfl
theorem law_IsReducedZ (p n : Nat) (T : Nat → Nat → Nat → Nat) (f : Nat → Nat) (w : World) (hp : primeN p) (hn0 : 0 < n) (hn : n ≤ 6) (hTp : ∀ i j k, T i j k < p) (hT0 : ∀ i j k, n ≤ k → T i j k = 0) (hf : ∀ i, f i ≤ 255) (hc : CodeP (p : Int) (n : Int) T f 0 (vAtL [])) (hcom : comP T) (uu : Nat → Nat) (huu : UnitI p n T uu) (hzk : ∀ k E ld, Rref p n E k ld → (∀ x, Ker p n E k x ↔ Ker p n (fun r c => imP p n T uu (kkE p (nilE p n)) c r) n x) → nf k ld n = 0) :
    CallsR Tryd.prog 4 #[.agg (algC (p : Int) (n : Int) T f)] w (fun res _ => res = .bool true) := by
  refine calls_fr [.agg (algC (p : Int) (n : Int) T f)] Tryd.func4 rfl Tryd.ntmps4 rfl fun a hF => ?_;have hM : Mem w w [none] [] := MemX.start w 1;change Fr 27 a [(0, .agg (algC (p : Int) (n : Int) T f))] at hF;have hp2 := hp.two;have hp13 := hp.le;have hT : ∀ i j k, T i j k ≤ 255 := fun i j k => by have := hTp i j k; omega
  refine sr <| stR hF (d_box 0 hM hF rfl) rfl ?_;rintro _ w' a ⟨b1, rfl, hM, -⟩ hF;change Mem w w' [some (b1, algC (p : Int) (n : Int) T f)] [] at hM;refine ag hF rfl rfl fun a hF => ns <| st hF (g_loadAgg ty_ag_26 hF rfl (hM.row 0 rfl) (by simp only [sz0, dgC_size, numC_sz, ldB_size] <;> omega) (whole cells_size)) rfl fun a hF => stR hF (d_call Tryd.call10 hF (.cons rfl .nil) (toAlgebra_ok (p : Int) (n : Int) T f _)) rfl ?_;rintro _ w' a ⟨hx, rfl⟩ hF;have hM := hM.ext hx;refine stR hF (d_call Tryd.call15 hF (.cons rfl .nil) (IsReducedS_Z p n T f _ hp hn0 hn hTp hT0 hf hc hcom uu huu hzk)) rfl ?_;rintro _ w' a ⟨hx, rfl⟩ hF;have hM := hM.ext hx;refine mv hF rfl rfl fun a hF => st hF (g_extract hF rfl rfl) rfl fun a hF => st hF (g_extract hF rfl rfl) rfl fun a hF => ag hF rfl rfl fun a hF => ag hF rfl rfl fun a hF => ns <| st hF (g_loadAgg ty_ag_26 hF rfl (hM.row 0 rfl) (by simp only [sz0, dgC_size, numC_sz, ldB_size] <;> omega) (whole cells_size)) rfl fun a hF => stR hF (d_call Tryd.call10 hF (.cons rfl .nil) (toAlgebra_ok (p : Int) (n : Int) T f _)) rfl ?_;rintro _ w' a ⟨hx, rfl⟩ hF;have hM := hM.ext hx;refine stR hF (d_call Tryd.call16 hF (.cons rfl .nil) (IsReducedI_Z p n T f _ hp hn0 hn hTp hT0 hf hc hcom uu huu hzk)) rfl ?_;rintro _ w' a ⟨hx, rfl⟩ hF;have hM := hM.ext hx;refine mv hF rfl rfl fun a hF => st hF (g_extract hF rfl rfl) rfl fun a hF => st hF (g_extract hF rfl rfl) rfl fun a hF => ag hF rfl rfl fun a hF => ag hF rfl rfl fun a hF => nt <| sq <| sr <| mv hF rfl rfl fun a hF => mv hF rfl rfl fun a hF => st hF (g_neqBo ty_ub_4 hF rfl rfl) rfl fun a hF => mv hF rfl rfl fun a hF => ?_
  by_cases g2 : (true : Bool) ≠ (true : Bool)
  · first | rw [decide_eq_true g2] at hF | simp only [decide_eq_true g2] at hF
    first | exact absurd rfl g2 | (exfalso; omega)
  first | rw [decide_eq_false g2] at hF | simp only [decide_eq_false g2] at hF
  refine stY hF rfl rfl rfl (g_move hF rfl) rfl fun a hF => stY hF rfl rfl rfl (g_move hF rfl) rfl fun a hF => stY hF rfl rfl rfl (g_neq hF rfl rfl) rfl fun a hF => st hF (g_pickF hF rfl rfl) rfl fun a hF => nt <| c_kF hF rfl (by decide) <| wp_skip <| tN <| sr <| ag hF rfl rfl fun a hF => nt <| wp_ret <| fin1 rfl hF.defers (res_tmp hF rfl) ⟨_, rfl, hM.below, ?_⟩
  show _ = _
  rfl
theorem law_IsReduced (p n : Int) (T : Nat → Nat → Nat → Nat) (f : Nat → Nat) (ev : Value) (w : World) (hT : ∀ i j k, T i j k ≤ 255) (hf : ∀ i, f i ≤ 255) (hg : Blk w 0 #[.iface 108 ev]) : CallsV Tryd.prog 4 #[.agg (algC p n T f)] w (.bool true) := by
  by_cases hc : CodeP p n T f 0 (vAtL [])
  · have hs0 := hc.1.1
    have hp0 := primeP_pos hs0.1;have hn := hs0.2.1;have e1 : (p.toNat : Int) = p := by omega
    have e2 : (n.toNat : Int) = n := by omega
    have hc2 : CodeP (p.toNat : Int) (n.toNat : Int) (trunc n.toNat T) f 0 (vAtL []) := by rw [e1, e2]; exact code_trunc hc
    obtain ⟨uu, huu⟩ := hc.1.2.2;have hpp := primeN_of hs0.1
    by_cases hcom : comP (trunc n.toNat T)
    · rcases nf_cases (n := n.toNat) (m := n.toNat) (M := fun r c => imP p.toNat n.toNat (trunc n.toNat T) uu (kkE p.toNat (nilE p.toNat n.toNat)) c r) hpp (fun i c => imP_lt huu.small c i) with hne | hzk
      · have hpos := hpos_of hpp.two hne
        have h := law_IsReducedY p.toNat n.toNat (trunc n.toNat T) f w hpp (by omega) (by omega) (trunc_lt hs0) trunc_out hf hc2 hcom uu huu hne hpos;rw [e1, e2, ← algC_trunc hs0] at h;exact h
      · have h := law_IsReducedZ p.toNat n.toNat (trunc n.toNat T) f w hpp (by omega) (by omega) (trunc_lt hs0) trunc_out hf hc2 hcom uu huu hzk
        rw [e1, e2, ← algC_trunc hs0] at h;exact h
    · have h := law_IsReducedN p.toNat n.toNat (trunc n.toNat T) f ev w hpp (by omega) (by omega) (trunc_lt hs0) trunc_out hf hc2 hcom hg
      rw [e1, e2, ← algC_trunc hs0] at h;exact h
  · exact law_IsReducedA p n T f w hT hf hc
end Go.Proofs.YtccdgjmomcljkaaDoor
