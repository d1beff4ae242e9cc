/- What functions of the program return, as walks over their operations; no statement of the seat is proved here. -/
import Derived.Test.YtjfmachfdpmdcaaK10
import Derived.Test.YtjfmachfdpmdcaaSw37
set_option linter.unusedVariables false
set_option linter.unusedSimpArgs false
namespace Go.Proofs.Ytjfmachfdpmdcaa
open Go Go.RowKit Go.Sw Go.Ech
open Classical
theorem timesE {p n i j : Nat} {T : Nat → Nat → Nat → Nat} (hTp : ∀ i j k, T i j k < p) (hT0 : ∀ i j k, n ≤ k → T i j k = 0) (hi : i < n) (hj : j < n) : timesS p n T (fun c => if c = i then 1 else 0) (fun c => if c = j then 1 else 0) = T i j := by
  funext k
  unfold timesS
  by_cases hk : k < n
  · rw [if_pos hk]; unfold timesV
    have e : (prodI T (fun c => if c = i then 1 else 0) (fun c => if c = j then 1 else 0) n n k : Int) = (T i j k : Int) := by
      rw [prodI_Pr]; unfold Pr;rw [sI_one hi (fun a _ hne => sI_zero fun b _ => by simp [ci, hne]), sI_one hj (fun b _ hne => by simp [ci, hne])]
      simp [ci]
    rw [Int.ofNat.inj e]; exact Nat.mod_eq_of_lt (hTp i j k)
  · rw [if_neg hk, hT0 i j k (by omega)]
theorem l02Table_ok (p n : Nat) (T : Nat → Nat → Nat → Nat) (f : Nat → Nat) (w : World) (hp : primeN p) (hn0 : 0 < n) (hn : n ≤ 6) (hTp : ∀ i j k, T i j k < p) (hT0 : ∀ i j k, n ≤ k → T i j k = 0) (hf : ∀ i, f i ≤ 255) :
    CallsR Try.prog 36 #[.agg (algC (p : Int) (n : Int) T f)] w (fun u w' => TabOut w w' n n (fun i c => .int .i64 (formM p n T f i c : Int)) u) := by
  refine calls_fr [.agg (algC (p : Int) (n : Int) T f)] Try.func36 rfl Try.ntmps36 rfl fun a hF => ?_;have hM : Mem w w [none, none, none, none, none] [] := MemX.start w 5;change Fr 37 a [(0, .agg (algC (p : Int) (n : Int) T f))] at hF;have hp2 := hp.two;have hp13 := hp.le;have hT : ∀ i j k, T i j k ≤ 255 := fun i j k => by have := hTp i j k; omega
  refine sr <| stR hF (d_box 0 hM hF rfl) rfl ?_;rintro _ w' a ⟨b1, rfl, hM, -⟩ hF;refine ag hF rfl rfl fun a hF => ns <| stR hF (d_buildC 1 hM hF rfl ty_bs0_54) rfl ?_;rintro _ w' a ⟨b2, rfl, hM, -⟩ hF;refine ag hF rfl rfl fun a hF => nt <| sq <| sr <| ag hF rfl rfl fun a hF => nt <| wp_block ?_;change Mem w _ [some (b1, algC (p : Int) (n : Int) T f), some (b2, #[]), none, none, none] [] at hM;refine c_loop (fun (kk : Nat) a w' => kk ≤ n ∧ ∃ (D1 : Froz), ∃ (β : Nat → Nat), ∃ (κ : Nat → Nat), ∃ (C : Nat → Array Value), (RowsD D1 n kk β κ C (fun i c => .int .i64 (formM p n T f i c : Int)) ∧ (∀ i, i < kk → w.heap.size ≤ β i) ∧ ∀ i j, i < kk → j < kk → β i = β j → i = j) ∧ ∃ (u3_1 : Value) (e3_1 : Option (Nat × Array Value)), Sl 1 u3_1 e3_1 (kk) (fun i => .slice (some ⟨β i, 0, none⟩) n (κ i)) ∧ Fr 37 a [(1, ptr b1 (0)), (2, .slice none 0 0), (4, .int .i64 (kk : Int)), (3, u3_1)] ∧ Mem w w' [some (b1, algC (p : Int) (n : Int) T f), e3_1, none, none, none] D1) (fun kk => n - kk) 0 ?_ ?_
  · refine ⟨by omega, [], (fun _ => 0), (fun _ => 0), (fun _ => #[]), ⟨RowsD.none, fun i hi => absurd hi (by omega), fun i j hi => absurd hi (by omega)⟩, (.slice (some ⟨b2, 0, none⟩) 0 0), (some (b2, #[])), Sl.empty _ _ _, hF.sub _ (by repeat' constructor), ?_⟩
    exact hM
  clear hF hM;rintro gi a w' ⟨hgi, D1, β, κ, C, ⟨hR, hbg, hinj⟩, u3_1, e3_1, hsl, hF, hM⟩;refine sq <| sr <| mv hF rfl rfl fun a hF => st hF (g_fieldAddr ty_fo_32_1 hF rfl) rfl fun a hF => st hF (g_load ty_on_2 hF rfl (hM.row 0 rfl) (algC_n (by omega))) rfl fun a hF => st hF (g_lss hF rfl rfl) rfl fun a hF => nt <| c_cond hF rfl (fun h3 => ?_) (fun h3 => ?_)
  · refine wp_skip ?_
    refine tN <| sq <| wp_block <| sr <| stR hF (d_buildC 2 hM hF rfl ty_bs0_55) rfl ?_;rintro _ w' a ⟨b4, rfl, hM, -⟩ hF;refine ag hF rfl rfl fun a hF => nt <| sq <| sr <| ag hF rfl rfl fun a hF => nt <| wp_block ?_;change Mem w _ [some (b1, algC (p : Int) (n : Int) T f), e3_1, some (b4, #[]), none, none] D1 at hM;refine c_loop (fun (kk : Nat) a w' => kk ≤ n ∧ (True) ∧ ∃ (u5_2 : Value) (e5_2 : Option (Nat × Array Value)), Sl 1 u5_2 e5_2 (kk) (fun c => .int .i64 (formM p n T f gi c : Int)) ∧ Fr 37 a [(1, ptr b1 (0)), (2, .slice none 0 0), (4, .int .i64 (gi : Int)), (3, u3_1), (8, .int .i64 (gi : Int)), (9, ptr b1 (0 + 1)), (10, .int .i64 (n : Int)), (11, .bool (decide (((gi : Int) : Int) < (n : Int)))), (14, .slice (some ⟨b4, 0, none⟩) 0 0), (6, .int .i64 (kk : Int)), (5, u5_2)] ∧ Mem w w' [some (b1, algC (p : Int) (n : Int) T f), e3_1, e5_2, none, none] D1) (fun kk => n - kk) 0 ?_ ?_
    · refine ⟨by omega, trivial, (.slice (some ⟨b4, 0, none⟩) 0 0), (some (b4, #[])), Sl.empty _ _ _, hF.sub _ (by repeat' constructor), ?_⟩
      exact hM
    clear hF hM;rintro gj a w' ⟨hgj, hinv2, u5_2, e5_2, hrow, hF, hM⟩;refine sq <| sr <| mv hF rfl rfl fun a hF => st hF (g_fieldAddr ty_fo_32_1 hF rfl) rfl fun a hF => st hF (g_load ty_on_2 hF rfl (hM.row 0 rfl) (algC_n (by omega))) rfl fun a hF => st hF (g_lss hF rfl rfl) rfl fun a hF => nt <| c_cond hF rfl (fun h5 => ?_) (fun h5 => ?_)
    · refine wp_skip ?_
      refine tN <| sq <| wp_block <| c_par 10 [3] [.val (u5_2), .val (.agg (algC (p : Int) (n : Int) T f)), .val (.agg (algC (p : Int) (n : Int) T f)), .val (.int .i64 (gi : Int)), .val (.agg (vecC (fun c => if c = gi then 1 else 0))), .val (.int .i64 (gj : Int)), .val (.agg (vecC (fun c => if c = gj then 1 else 0))), .val (.agg (vecC (T gi gj))), .val (.int .i64 (((sumTo (fun i => f i * ((T gi gj)) i) 6 % p : Nat) : Int))), .own 3 (#[.int .i64 (((sumTo (fun i => f i * ((T gi gj)) i) 6 % p : Nat) : Int))]) (fun b => .slice (some ⟨b, 0, none⟩) 1 1)] hmix rfl hF rfl hM ⟨fun a w gG hF hS hd => by exact pmv hS rfl hF rfl, fun a w gG hF hS hd => by have hM := hS.mem rfl; exact par_val hS rfl (g_loadAgg ty_ag_32 hF rfl (hM.row 0 rfl) (by simp only [sz0] <;> omega) (whole cells_size)), fun a w gG hF hS hd => by have hM := hS.mem rfl; exact par_val hS rfl (g_loadAgg ty_ag_32 hF rfl (hM.row 0 rfl) (by simp only [sz0] <;> omega) (whole cells_size)), fun a w gG hF hS hd => by exact pmv hS rfl hF rfl, fun a w gG hF hS hd => by have hF := hF.ext1 24 (hd 3 rfl rfl); exact par_call (by repeat constructor) hS rfl (d_call Try.call20 hF (.cons rfl .nil) (l01Basis_ok (gi) _ (by omega))), fun a w gG hF hS hd => by exact pmv hS rfl hF rfl, fun a w gG hF hS hd => by have hF := hF.ext1 26 (hd 5 rfl rfl); exact par_call (by repeat constructor) hS rfl (d_call Try.call20 hF (.cons rfl .nil) (l01Basis_ok (gj) _ (by omega))), fun a w gG hF hS hd => by have hF := hF.ext1 23 (hd 2 rfl rfl); have hF := hF.ext1 25 (hd 4 rfl rfl); have hF := hF.ext1 27 (hd 6 rfl rfl); exact par_call (by repeat constructor) hS rfl (d_call Try.call19 hF (.cons rfl (.cons rfl (.cons rfl .nil))) ((CallsR.val (l01Times_ok p n T f ((fun c => if c = gi then 1 else 0)) ((fun c => if c = gj then 1 else 0)) _ (by omega) (by omega) (by omega) (fun _ _ _ => hT _ _ _) (fun _ => by first | exact hv _ | exact hvt _ | exact hvs _ | exact hu _ | exact hT _ _ _ | exact hf _ | omega | (split <;> omega) | (dsimp only; split <;> omega) | assumption) (fun _ => by first | exact hv _ | exact hvt _ | exact hvs _ | exact hu _ | exact hT _ _ _ | exact hf _ | omega | (split <;> omega) | (dsimp only; split <;> omega) | assumption)) (congrArg (fun v => Value.agg (vecC v)) (timesE hTp hT0 (i := gi) (j := gj) (by omega) (by omega)))))), fun a w gG hF hS hd => by have hF := hF.ext1 22 (hd 1 rfl rfl); have hF := hF.ext1 28 (hd 7 rfl rfl); exact par_call (by repeat constructor) hS rfl (d_call Try.call34 hF (.cons rfl (.cons rfl .nil)) (l01Form_ok p n T f ((T gi gj)) _ (by omega) (fun _ => by first | exact hv _ | exact hvt _ | exact hvs _ | exact hu _ | exact hT _ _ _ | exact hf _ | omega | (split <;> omega) | (dsimp only; split <;> omega) | assumption) (fun _ => by first | exact hv _ | exact hvt _ | exact hvs _ | exact hu _ | exact hT _ _ _ | exact hf _ | omega | (split <;> omega) | (dsimp only; split <;> omega) | assumption))), fun a w gG hF hS hd => by have hF := hF.ext1 29 (hd 8 rfl rfl); exact par_own (by repeat constructor) hS rfl rfl rfl rfl (d_buildC 3 hS.1 hF (build1 hF rfl) (ty_bs1_55 _)), trivial⟩ ?_;intro a w' L hF hS hq;have hF := hF.ext1 21 (hq 0 rfl rfl);have hF := hF.ext1 22 (hq 1 rfl rfl);have hF := hF.ext1 23 (hq 2 rfl rfl);have hF := hF.ext1 24 (hq 3 rfl rfl);have hF := hF.ext1 25 (hq 4 rfl rfl);have hF := hF.ext1 26 (hq 5 rfl rfl);have hF := hF.ext1 27 (hq 6 rfl rfl);have hF := hF.ext1 28 (hq 7 rfl rfl);have hF := hF.ext1 29 (hq 8 rfl rfl);obtain ⟨hM, hL⟩ := hS;obtain ⟨b6, hptr, hkk⟩ := hq 9 rfl rfl;have hF := hF.ext1 30 hptr;have hL := hL.take hkk;obtain rfl := hL.eq;change Mem w w' [some (b1, algC (p : Int) (n : Int) T f), e3_1, e5_2, some (b6, #[.int .i64 (((sumTo (fun i => f i * ((T gi gj)) i) 6 % p : Nat) : Int))]), none] D1 at hM;change wpList Try.prog _ _ [_, _] _ _;refine stR hF (d_append (k := 2) (m := 1) (g := fun _ => .int .i64 (((sumTo (fun i => f i * ((T gi gj)) i) 6 % p : Nat) : Int))) ty_si_55 rfl (by decide) hM rfl hF rfl rfl hrow (fun i hi => by rw [show i = 0 by omega]; exact (hM.row 3 rfl).cell 0) (fun _ _ => rfl) (by decide) (by unfold maxLen; omega) (by omega)) rfl ?_
      rintro u7 w' a ⟨e8, hM, hs9⟩ hF;change Mem w w' [some (b1, algC (p : Int) (n : Int) T f), e3_1, e8, some (b6, #[.int .i64 (((sumTo (fun i => f i * ((T gi gj)) i) 6 % p : Nat) : Int))]), none] D1 at hM;refine ag hF rfl rfl fun a hF => wpList_nil <| iN <| tN <| wp_region_lit <| mv hF rfl rfl fun a hF => st hF (g_add hF rfl rfl (add_nat (gj) (1) (by omega))) rfl fun a hF => ag hF rfl rfl fun a hF => wpList_nil <| tN ?_;have hM := hM.drop 3;refine ⟨gj + 1, ⟨by omega, trivial, (u7), (e8), (hs9.snoc (by simp only [formM]; rw [if_pos (by omega)]; simp only [Nat.mul_comm])), hF.sub _ (by repeat' constructor), ?_⟩, by omega⟩;exact hM
    obtain rfl : n = gj := by omega
    refine wp_exit <| tX <| tX <| ib_same <| tN ?_;obtain ⟨bR, capR, csR, rfl, rfl, hsR⟩ := hrow.pos (by omega);have hgR := hM.ge 2 rfl;have hnR := fun i hi => (hM.froz _ _ (hR.mem i hi)).2 2 bR _ rfl;have hM := hM.freeze 2 rfl;have hR2 := (hR.more (D' := (bR, csR) :: D1) (fun x hx => List.mem_cons_of_mem _ hx)).snoc (List.mem_cons_self ..) hsR;refine wp_region_lit <| mv hF rfl rfl fun a hF => mv hF rfl rfl fun a hF => stR hF (d_buildC 4 hM hF (build1 hF rfl) (ty_bsv_54 _ _ _)) rfl ?_;rintro _ w' a ⟨b10, rfl, hM, -⟩ hF;change Mem w w' [some (b1, algC (p : Int) (n : Int) T f), e3_1, none, none, some (b10, #[.slice (some ⟨bR, 0, none⟩) n capR])] ((bR, csR) :: D1) at hM;refine stR hF (d_append (k := 1) (m := 1) (g := fun _ => .slice (some ⟨bR, 0, none⟩) n capR) ty_si_54 rfl (by decide) hM rfl hF rfl rfl hsl (fun i hi => by rw [show i = 0 by omega]; exact (hM.row 4 rfl).cell 0) (fun _ _ => rfl) (by decide) (by unfold maxLen; omega) (by omega)) rfl ?_;rintro u11 w' a ⟨e12, hM, hs13⟩ hF;change Mem w w' [some (b1, algC (p : Int) (n : Int) T f), e12, none, none, some (b10, #[.slice (some ⟨bR, 0, none⟩) n capR])] ((bR, csR) :: D1) at hM;refine ag hF rfl rfl fun a hF => wpList_nil <| iN <| tN <| wp_region_lit <| mv hF rfl rfl fun a hF => st hF (g_add hF rfl rfl (add_nat (gi) (1) (by omega))) rfl fun a hF => ag hF rfl rfl fun a hF => wpList_nil <| tN ?_;have hsl := hs13.snocR;have hR2 := hR2.congr (g := fun i c => .int .i64 (formM p n T f i c : Int)) (fun i hi c hc => by
      by_cases e : i = gi
      · rw [e]; simp only [up_eq]
      · simp only [up_ne e])
    have hM := hM.drop 4;refine ⟨gi + 1, ⟨by omega, ((bR, csR) :: D1), (up β gi bR), (up κ gi capR), (up C gi csR), ⟨hR2, fun i hi => by unfold up; split; exact hgR; exact hbg i (by omega), up_inj hinj hnR⟩, (u11), (e12), hsl, hF.sub _ (by repeat' constructor), ?_⟩, by omega⟩;exact hM
  obtain rfl : n = gi := by omega
  refine wp_exit <| tX <| tX <| ib_same <| tN <| sr <| mv hF rfl rfl fun a hF => ag hF rfl rfl fun a hF => nt <| wp_ret <| fin1 rfl hF.defers (res_tmp hF rfl) ⟨_, rfl, hM.below, ?_⟩;obtain ⟨b0, c0, cs0, rfl, rfl, hs0⟩ := hsl.pos hn0;exact TabOut.of (q := 1) hM hR rfl hs0 hbg hinj
end Go.Proofs.Ytjfmachfdpmdcaa

namespace Go.Proofs.Ytjfmachfdpmdcaa
open Go Go.RowKit Go.Sw Go.Ech
open Classical

end Go.Proofs.Ytjfmachfdpmdcaa

namespace Go.Proofs.Ytjfmachfdpmdcaa
open Go Go.RowKit Go.Sw Go.Ech
open Classical

end Go.Proofs.Ytjfmachfdpmdcaa

namespace Go.Proofs.Ytjfmachfdpmdcaa
open Go Go.RowKit Go.Sw Go.Ech
open Classical

end Go.Proofs.Ytjfmachfdpmdcaa

namespace Go.Proofs.Ytjfmachfdpmdcaa
open Go Go.RowKit Go.Sw Go.Ech
open Classical









end Go.Proofs.Ytjfmachfdpmdcaa

namespace Go.Proofs.Ytjfmachfdpmdcaa
open Go Go.RowKit Go.Sw Go.Ech
open Classical
def bL (p n : Nat) (T : Nat → Nat → Nat → Nat) (v uu : Nat → Nat) (k j : Nat) : Nat := if j < n then timesS p n T v (fun y => if y = j then 1 else 0) k else uu k
end Go.Proofs.Ytjfmachfdpmdcaa

namespace Go.Proofs.Ytjfmachfdpmdcaa
open Go Go.RowKit Go.Sw Go.Ech
open Classical

end Go.Proofs.Ytjfmachfdpmdcaa

namespace Go.Proofs.Ytjfmachfdpmdcaa
open Go Go.RowKit Go.Sw Go.Ech
open Classical

end Go.Proofs.Ytjfmachfdpmdcaa

namespace Go.Proofs.Ytjfmachfdpmdcaa
open Go Go.RowKit Go.Sw Go.Ech
open Classical
theorem frobeniusFault_0A (p n : Int) (T : Nat → Nat → Nat → Nat) (f : Nat → Nat) (w : World) (hT : ∀ i j k, T i j k ≤ 255) (hf : ∀ i, f i ≤ 255) (hc : ¬ CodeP p n T f 0 (vAtL [])) :
    CallsR Try.prog 24 #[.agg (algC p n T f), .slice none 0 0] w (fun res _ => res = .int .i64 1) := by
  refine calls_fr [.agg (algC p n T f), .slice none 0 0] Try.func24 rfl Try.ntmps24 rfl fun a hF => ?_;have hM : Mem w w [none] [] := MemX.start w 1;change Fr 12 a [(0, .agg (algC p n T f)), (1, .slice none 0 0)] at hF;refine sr <| stR hF (d_box 0 hM hF rfl) rfl ?_;rintro _ w' a ⟨b1, rfl, hM, -⟩ hF;change Mem w w' [some (b1, algC p n T f)] [] at hM;refine ag hF rfl rfl fun a hF => nt <| sq <| sr <| st hF (g_loadAgg ty_ag_32 hF rfl (hM.row 0 rfl) (by simp only [sz0] <;> omega) (whole cells_size)) rfl fun a hF => mv hF rfl rfl fun a hF => stR hF (d_call Try.call40 hF (.cons rfl (.cons rfl .nil)) ((CallsR.val (areVectors_0 p n T f (vAtL []) _ (fun _ _ _ => hT _ _ _) (fun _ => hf _)) (congrArg Value.bool (decide_eq_false hc))))) rfl ?_;rintro _ w' a ⟨hx, rfl⟩ hF;have hM := hM.ext hx;refine st hF (g_not (b := false) hF rfl) rfl fun a hF => nt <| c_T hF rfl <| sr <| ag hF rfl rfl fun a hF => nt <| wp_ret <| tR <| fin1 rfl hF.defers (res_tmp hF rfl) ⟨_, rfl, hM.below, ?_⟩
  show _ = _
  rfl
theorem frobeniusFault_0F (p n : Nat) (T : Nat → Nat → Nat → Nat) (f : Nat → Nat) (w : World) (hp : primeN p) (hn0 : 0 < n) (hn : n ≤ 6) (hTp : ∀ i j k, T i j k < p) (hf : ∀ i, f i ≤ 255) (hfr : ¬ FrobN p n T f) (hc : CodeP (p : Int) (n : Int) T f 0 (vAtL [])) :
    CallsR Try.prog 24 #[.agg (algC (p : Int) (n : Int) T f), .slice none 0 0] w (fun res _ => res = .int .i64 5) := by
  refine calls_fr [.agg (algC (p : Int) (n : Int) T f), .slice none 0 0] Try.func24 rfl Try.ntmps24 rfl fun a hF => ?_;have hM : Mem w w [none] [] := MemX.start w 1;change Fr 12 a [(0, .agg (algC (p : Int) (n : Int) T f)), (1, .slice none 0 0)] at hF;have hp2 := hp.two;have hp13 := hp.le;have hT : ∀ i j k, T i j k ≤ 255 := fun i j k => by have := hTp i j k; omega
  refine sr <| stR hF (d_box 0 hM hF rfl) rfl ?_;rintro _ w' a ⟨b1, rfl, hM, -⟩ hF;change Mem w w' [some (b1, algC (p : Int) (n : Int) T f)] [] at hM;refine ag hF rfl rfl fun a hF => nt <| sq <| sr <| st hF (g_loadAgg ty_ag_32 hF rfl (hM.row 0 rfl) (by simp only [sz0] <;> omega) (whole cells_size)) rfl fun a hF => mv hF rfl rfl fun a hF => stR hF (d_call Try.call40 hF (.cons rfl (.cons rfl .nil)) ((CallsR.val (areVectors_0 (p : Int) (n : Int) T f (vAtL []) _ (fun _ _ _ => hT _ _ _) (fun _ => hf _)) (congrArg Value.bool (decide_eq_true hc))))) rfl ?_;rintro _ w' a ⟨hx, rfl⟩ hF;have hM := hM.ext hx;refine st hF (g_not (b := true) hF rfl) rfl fun a hF => nt <| c_Fl hF rfl <| wp_skip <| tN <| sq <| sr <| st hF (g_loadAgg ty_ag_32 hF rfl (hM.row 0 rfl) (by simp only [sz0] <;> omega) (whole cells_size)) rfl fun a hF => stR hF (d_call Try.call41 hF (.cons rfl .nil) ((CallsR.val (hasFullForm_ok p n T f _ hp hn0 hn (fun _ _ _ => hT _ _ _) (fun _ => hf _)) (congrArg Value.bool (decide_eq_false hfr))))) rfl ?_;rintro _ w' a ⟨hx, rfl⟩ hF;have hM := hM.ext hx;refine st hF (g_not (b := false) hF rfl) rfl fun a hF => nt <| c_T hF rfl <| sr <| ag hF rfl rfl fun a hF => nt <| wp_ret <| tR <| fin1 rfl hF.defers (res_tmp hF rfl) ⟨_, rfl, hM.below, ?_⟩
  show _ = _
  rfl
theorem frobeniusFault_0Y (p n : Nat) (T : Nat → Nat → Nat → Nat) (f : Nat → Nat) (w : World) (hp : primeN p) (hn0 : 0 < n) (hn : n ≤ 6) (hTp : ∀ i j k, T i j k < p) (hf : ∀ i, f i ≤ 255) (hfr : FrobN p n T f) (hc : CodeP (p : Int) (n : Int) T f 0 (vAtL [])) :
    CallsR Try.prog 24 #[.agg (algC (p : Int) (n : Int) T f), .slice none 0 0] w (fun res _ => res = .int .i64 0) := by
  refine calls_fr [.agg (algC (p : Int) (n : Int) T f), .slice none 0 0] Try.func24 rfl Try.ntmps24 rfl fun a hF => ?_;have hM : Mem w w [none] [] := MemX.start w 1;change Fr 12 a [(0, .agg (algC (p : Int) (n : Int) T f)), (1, .slice none 0 0)] at hF;have hp2 := hp.two;have hp13 := hp.le;have hT : ∀ i j k, T i j k ≤ 255 := fun i j k => by have := hTp i j k; omega
  refine sr <| stR hF (d_box 0 hM hF rfl) rfl ?_;rintro _ w' a ⟨b1, rfl, hM, -⟩ hF;change Mem w w' [some (b1, algC (p : Int) (n : Int) T f)] [] at hM;refine ag hF rfl rfl fun a hF => nt <| sq <| sr <| st hF (g_loadAgg ty_ag_32 hF rfl (hM.row 0 rfl) (by simp only [sz0] <;> omega) (whole cells_size)) rfl fun a hF => mv hF rfl rfl fun a hF => stR hF (d_call Try.call40 hF (.cons rfl (.cons rfl .nil)) ((CallsR.val (areVectors_0 (p : Int) (n : Int) T f (vAtL []) _ (fun _ _ _ => hT _ _ _) (fun _ => hf _)) (congrArg Value.bool (decide_eq_true hc))))) rfl ?_;rintro _ w' a ⟨hx, rfl⟩ hF;have hM := hM.ext hx;refine st hF (g_not (b := true) hF rfl) rfl fun a hF => nt <| c_Fl hF rfl <| wp_skip <| tN <| sq <| sr <| st hF (g_loadAgg ty_ag_32 hF rfl (hM.row 0 rfl) (by simp only [sz0] <;> omega) (whole cells_size)) rfl fun a hF => stR hF (d_call Try.call41 hF (.cons rfl .nil) ((CallsR.val (hasFullForm_ok p n T f _ hp hn0 hn (fun _ _ _ => hT _ _ _) (fun _ => hf _)) (congrArg Value.bool (decide_eq_true hfr))))) rfl ?_;rintro _ w' a ⟨hx, rfl⟩ hF;have hM := hM.ext hx;refine st hF (g_not (b := true) hF rfl) rfl fun a hF => nt <| c_Fl hF rfl <| wp_skip <| tN <| sr <| ag hF rfl rfl fun a hF => nt <| wp_ret <| fin1 rfl hF.defers (res_tmp hF rfl) ⟨_, rfl, hM.below, ?_⟩
  show _ = _
  rfl
end Go.Proofs.Ytjfmachfdpmdcaa
