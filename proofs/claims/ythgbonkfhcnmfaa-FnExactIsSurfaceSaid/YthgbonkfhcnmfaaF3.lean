/- What functions of the program return, as walks over their operations; no statement of the seat is proved here. -/
import Derived.Test.YthgbonkfhcnmfaaF2
set_option linter.unusedVariables false
set_option linter.unusedSimpArgs false
namespace Go.Proofs.Ythgbonkfhcnmfaa
open Go Go.RowKit Go.Sw Go.Ech
open Classical
theorem ty_ub_4 : Try.prog.underlying 4 = some .bool := by kernel_rfl
theorem ss_len {Ln : Nat → Nat} {m k : Nat} (h : m + sumTo Ln m ≤ k) (hk : k < 10000000) : ∀ i, i < m → Ln i < 10000000 := fun i hi => by
  have := le_sumTo (f := Ln) hi
  omega

theorem IsSurface_ok (sl : Value) (m : Nat) (Ln : Nat → Nat) (R : Nat → Nat → Int) (xs : Nat → Option Addr) (ca be ob : Nat → Nat) (w : World) (hss : ArgSS w sl m Ln R xs ca be ob) (hm2 : m ≤ maxLen) (hl : ∀ i, i < m → Ln i < 10000000) : CallsR Try.prog 10 #[sl] w (fun res _ => res = .bool (decide (SurfP m Ln R))) := by
  by_cases hm : SizeP m
  · obtain ⟨b, o, c, rfl, hcell⟩ := hss.cell (by unfold SizeP at hm; omega)
    exact IsSurface_M b o c m Ln R xs ca be ob w hm hss hcell hl
  · obtain ⟨x, c, rfl⟩ := hss.out
    exact CallsR.val (IsSurface_L x m c w hm hm2) (congrArg Value.bool (decide_eq_false (fun h => hm h.1)).symm)
theorem l07Is_ok (sl : Value) (m : Nat) (Ln : Nat → Nat) (R : Nat → Nat → Int) (xs : Nat → Option Addr) (ca be ob : Nat → Nat) (w : World) (hss : ArgSS w sl m Ln R xs ca be ob) (hm2 : m ≤ maxLen) (hl : ∀ i, i < m → Ln i < 10000000) : CallsR Try.prog 22 #[sl] w (fun res _ => res = .bool (decide (SurfP m Ln R))) := by
  by_cases hm : SizeP m
  · obtain ⟨b, o, c, rfl, hcell⟩ := hss.cell (by unfold SizeP at hm; omega)
    exact l07Is_M b o c m Ln R xs ca be ob w hm hss hcell hl
  · obtain ⟨x, c, rfl⟩ := hss.out
    exact CallsR.val (l07Is_L x m c w hm hm2) (congrArg Value.bool (decide_eq_false (fun h => hm h.1)).symm)
theorem IsSurfaceS_ok (sl : Value) (m : Nat) (Ln : Nat → Nat) (R : Nat → Nat → Int) (xs : Nat → Option Addr) (ca be ob : Nat → Nat) (w : World)  (hss : ArgSS w sl m Ln R xs ca be ob) (hm2 : m ≤ maxLen) (hl : ∀ i, i < m → Ln i < 10000000) :
    CallsR Try.prog 8 #[sl] w (fun res _ => res = .bool (decide (SurfP m Ln R))) := by
  refine calls_fr [sl] Try.func8 rfl Try.ntmps8 rfl fun a hF => ?_;have hM : Mem w w [] [] := MemX.start w 0;change Fr 5 a [(0, sl)] at hF;refine sr <| ag hF rfl rfl fun a hF => ns <| mv hF rfl rfl fun a hF => stR hF (d_call Try.call22 hF (.cons rfl .nil) (l07Is_ok sl m Ln R xs ca be ob _ (hss.ext hM.below) hm2 hl)) rfl ?_;rintro _ w' a ⟨hx, rfl⟩ hF;have hM := hM.ext hx;refine ag hF rfl rfl fun a hF => nt <| wp_ret <| fin1 rfl hF.defers (res_tmp hF rfl) ⟨_, rfl, hM.below, ?_⟩
  show _ = _
  rfl
theorem law_IsSurface_N (sl : Value) (m : Nat) (Ln : Nat → Nat) (R : Nat → Nat → Int) (xs : Nat → Option Addr) (ca be ob : Nat → Nat) (w : World) (hss : ArgSS w sl m Ln R xs ca be ob) (hm2 : m ≤ maxLen) (hL2 : ∀ i, Ln i ≤ maxLen) (hSz : ¬ m + sumTo Ln m ≤ 1048576) :
    CallsR Try.prog 3 #[sl] w (fun res _ => res = .bool true) := by
  refine calls_fr [sl] Try.func3 rfl Try.ntmps3 rfl fun a hF => ?_;have hM : Mem w w [] [] := MemX.start w 0;change Fr 27 a [(0, sl)] at hF;refine sr <| ag hF rfl rfl fun a hF => ns <| ag hF rfl rfl fun a hF => ns <| mv hF rfl rfl fun a hF => mv hF rfl rfl fun a hF => stR hF (d_call Try.call7 hF (.cons rfl (.cons rfl .nil)) ((CallsR.val (szSS_ok sl m Ln R xs ca be ob (1048576) _ (hss.ext hM.below) (by omega) hm2 hL2) (congrArg (Value.int .i64) (szV_no hSz))))) rfl ?_;rintro _ w' a ⟨hx, rfl⟩ hF;have hM := hM.ext hx;refine ag hF rfl rfl fun a hF => nt <| sq <| sr <| mv hF rfl rfl fun a hF => st hF (g_lss hF rfl rfl) rfl fun a hF => nt <| c_cond hF rfl (fun h1 => ?_) (fun h1 => ?_)
  · refine sq ?_
    refine wp_region_lit <| ag hF rfl rfl fun a hF => nt <| wp_ret <| tR <| fin1 rfl hF.defers (res_tmp hF rfl) ⟨_, rfl, hM.below, ?_⟩
    show _ = _
    rfl
  exfalso; omega
theorem law_IsSurface_Y (sl : Value) (m : Nat) (Ln : Nat → Nat) (R : Nat → Nat → Int) (xs : Nat → Option Addr) (ca be ob : Nat → Nat) (w : World) (hss : ArgSS w sl m Ln R xs ca be ob) (hm2 : m ≤ maxLen) (hL2 : ∀ i, Ln i ≤ maxLen) (hSz : m + sumTo Ln m ≤ 1048576) :
    CallsR Try.prog 3 #[sl] w (fun res _ => res = .bool true) := by
  refine calls_fr [sl] Try.func3 rfl Try.ntmps3 rfl fun a hF => ?_;have hM : Mem w w [] [] := MemX.start w 0;change Fr 27 a [(0, sl)] at hF;have hl := ss_len hSz (by omega);refine sr <| ag hF rfl rfl fun a hF => ns <| ag hF rfl rfl fun a hF => ns <| mv hF rfl rfl fun a hF => mv hF rfl rfl fun a hF => stR hF (d_call Try.call7 hF (.cons rfl (.cons rfl .nil)) ((CallsR.val (szSS_ok sl m Ln R xs ca be ob (1048576) _ (hss.ext hM.below) (by omega) hm2 hL2) (congrArg (Value.int .i64) (szV_yes hSz))))) rfl ?_;rintro _ w' a ⟨hx, rfl⟩ hF;have hM := hM.ext hx;refine ag hF rfl rfl fun a hF => nt <| sq <| sr <| mv hF rfl rfl fun a hF => st hF (g_lss hF rfl rfl) rfl fun a hF => nt <| c_cond hF rfl (fun h1 => ?_) (fun h1 => ?_)
  · first | exact absurd rfl h1 | (exfalso; omega)
  refine wp_skip <| tN <| sr <| mv hF rfl rfl fun a hF => stR hF (d_call Try.call9 hF (.cons rfl .nil) (toSS_ok sl m Ln R xs ca be ob _ (hss.ext hM.below) (by omega) hl)) rfl ?_;rintro uq2 w' a ⟨hx, Dq2, bq2, beq2, hDq2, hsq2⟩ hF;have hM := hM.addD hx hDq2;change Mem w w' [] (Dq2 ++ []) at hM;refine stR hF (d_call Try.call8 hF (.cons rfl .nil) (IsSurfaceS_ok uq2 m Ln R (fun i => some ⟨beq2 i, 0, none⟩) Ln beq2 (fun _ => 0) _ (SSD.arg (hsq2.more (fun x hx => by simp [hx])) (fun c ds h => hM.fzm h)) hm2 hl)) rfl ?_;rintro _ w' a ⟨hx, rfl⟩ hF;have hM := hM.ext hx;refine ag hF rfl rfl fun a hF => ns <| mv hF rfl rfl fun a hF => stR hF (d_call Try.call9 hF (.cons rfl .nil) (toSS_ok sl m Ln R xs ca be ob _ (hss.ext hM.below) (by omega) hl)) rfl ?_;rintro uq3 w' a ⟨hx, Dq3, bq3, beq3, hDq3, hsq3⟩ hF;have hM := hM.addD hx hDq3;change Mem w w' [] (Dq3 ++ (Dq2 ++ [])) at hM;refine ag hF rfl rfl fun a hF => ns <| mv hF rfl rfl fun a hF => stR hF (d_call Try.call10 hF (.cons rfl .nil) (IsSurface_ok uq3 m Ln R (fun i => some ⟨beq3 i, 0, none⟩) Ln beq3 (fun _ => 0) _ (SSD.arg (hsq3.more (fun x hx => by simp [hx])) (fun c ds h => hM.fzm h)) hm2 hl)) rfl ?_;rintro _ w' a ⟨hx, rfl⟩ hF;have hM := hM.ext hx;refine ag hF rfl rfl fun a hF => nt <| sq <| sr <| mv hF rfl rfl fun a hF => mv hF rfl rfl fun a hF => st hF (g_neqBo ty_ub_4 hF rfl rfl) rfl fun a hF => nt <| c_cond hF rfl (fun h4 => ?_) (fun h4 => ?_)
  · first | exact absurd rfl h4 | (exfalso; omega)
  refine wp_skip <| tN <| sq <| sr <| mv hF rfl rfl fun a hF => mv hF rfl rfl fun a hF => stR hF (d_call Try.call9 hF (.cons rfl .nil) (toSS_ok sl m Ln R xs ca be ob _ (hss.ext hM.below) (by omega) hl)) rfl ?_;rintro uq5 w' a ⟨hx, Dq5, bq5, beq5, hDq5, hsq5⟩ hF;have hM := hM.addD hx hDq5;change Mem w w' [] (Dq5 ++ (Dq3 ++ (Dq2 ++ []))) at hM;refine stR hF (d_call Try.call11 hF (.cons rfl (.cons rfl .nil)) (eqSS_ok ((Dq5 ++ (Dq3 ++ (Dq2 ++ [])))) uq3 uq5 bq3 bq5 m Ln beq3 beq5 R _ (fun c ds h => hM.fzm h) (hsq3.more (fun x hx => by simp [hx])) (hsq5.more (fun x hx => by simp [hx])) (by omega) hl)) rfl ?_;rintro _ w' a ⟨hx, rfl⟩ hF;have hM := hM.ext hx;refine st hF (g_not hF rfl) rfl fun a hF => nt <| c_Fl hF rfl <| wp_skip <| tN <| sr <| ag hF rfl rfl fun a hF => nt <| wp_ret <| fin1 rfl hF.defers (res_tmp hF rfl) ⟨_, rfl, hM.below, ?_⟩
  show _ = _
  rfl
theorem law_IsSurface (sl : Value) (m : Nat) (Ln : Nat → Nat) (R : Nat → Nat → Int) (xs : Nat → Option Addr) (ca be ob : Nat → Nat) (w : World) (hss : ArgSS w sl m Ln R xs ca be ob) (hm2 : m ≤ maxLen) (hL2 : ∀ i, Ln i ≤ maxLen) : CallsV Try.prog 3 #[sl] w (.bool true) := by
  by_cases hSz : m + sumTo Ln m ≤ 1048576
  · exact law_IsSurface_Y sl m Ln R xs ca be ob w hss hm2 hL2 hSz
  · exact law_IsSurface_N sl m Ln R xs ca be ob w hss hm2 hL2 hSz
end Go.Proofs.Ythgbonkfhcnmfaa
