/- What functions of the program return, as walks over their operations; no statement of the seat is proved here. -/
import Derived.Test.YtockjnhdllcfpaaB3
set_option linter.unusedVariables false
set_option linter.unusedSimpArgs false
namespace Go.Proofs.Ytockjnhdllcfpaa
open Go Go.RowKit Go.Sw Go.Ech
open Classical
def natF (m : Nat) (F : Nat → Int) (i : Nat) : Nat := if i < m then (F i).toNat else 0
theorem polP_nat {p : Int} {m : Nat} {F : Nat → Int} (h : PolP p m F) : (p.toNat : Int) = p ∧ numI m F = numC m (natF m F) ∧ PolP (p.toNat : Int) m (fun i => (natF m F i : Int)) ∧ ∀ i, natF m F i < p.toNat := by
  have h1 := primeP_pos2 h.1;have e : (p.toNat : Int) = p := by omega
  have e2 : ∀ i, i < m → F i = (natF m F i : Int) := fun i hi => by
    have := h.2.2 i hi
    unfold natF; rw [if_pos hi]; omega
  refine ⟨e, fnC_congr fun i hi => by rw [e2 i hi], ?_, fun i => ?_⟩
  · rw [e]
    exact ⟨h.1, h.2.1, fun i hi => by have z := h.2.2 i hi; rw [e2 i hi] at z; exact z⟩
  · unfold natF
    split
    · have := h.2.2 i (by assumption)
      omega
    · omega
theorem law_RootNumberW (p : Int) (x : Option Addr) (m c0 : Nat) (F : Nat → Int) (gg : Int) (N0 C0 : Int) (w : World) (hs : ArgSl w (.slice x m c0) m F) (hm : m ≤ 1048576) (hSS : ∀ b w1, Blk w1 b (numI m F) → CallsR Try.prog 21 #[.int .i64 p, .slice (some ⟨b, 0, none⟩) m m, .int .i64 gg] w1 (fun u _ => u = .tuple #[.int .i64 N0, .int .i64 C0])) (hII : ∀ b w1, Blk w1 b (numI m F) → CallsR Try.prog 22 #[.int .i64 p, .slice (some ⟨b, 0, none⟩) m m, .int .i64 gg] w1 (fun u _ => u = .tuple #[.int .i64 N0, .int .i64 C0])) :
    CallsR Try.prog 6 #[.int .i64 (p), .slice x m c0, .int .i64 (gg)] w (fun res _ => res = .bool true) := by
  refine calls_fr [.int .i64 (p), .slice x m c0, .int .i64 (gg)] Try.func6 rfl Try.ntmps6 rfl fun a hF => ?_;have hM : Mem w w [none, none, none] [] := MemX.start w 3;change Fr 45 a [(0, .int .i64 (p)), (1, .slice x m c0), (2, .int .i64 (gg))] at hF;refine sr <| ag hF rfl rfl fun a hF => nt <| sq <| sr <| mv hF rfl rfl fun a hF => st hF (g_lenX ty_us_22 hF rfl) rfl fun a hF => st hF (g_gtr hF rfl rfl) rfl fun a hF => nt <| c_cond hF rfl (fun h1 => ?_) (fun h1 => ?_)
  · first | exact absurd rfl h1 | exact absurd (fun _ _ => rfl) h1 | (exfalso; omega)
  refine wp_skip <| tN <| sr <| mv hF rfl rfl fun a hF => mv hF rfl rfl fun a hF => stR hF (d_call Try.call11 hF (.cons rfl .nil) (toInt64S_ok (.slice x m c0) m F _ (hs.ext hM.below) (by omega))) rfl ?_;rintro _ w' a ⟨hx, b2, rfl, hge, hbk⟩ hF;have hM := hM.fill hx 0 hbk hge;change Mem w w' [some (b2, numI m F), none, none] [] at hM;refine mv hF rfl rfl fun a hF => stR hF (d_call Try.call21 hF (.cons rfl (.cons rfl (.cons rfl .nil))) (hSS b2 _ (hM.row 0 rfl))) rfl ?_;rintro _ w' a ⟨hx, rfl⟩ hF;have hM := hM.ext hx;refine mv hF rfl rfl fun a hF => st hF (g_extract hF rfl rfl) rfl fun a hF => st hF (g_extract hF rfl rfl) rfl fun a hF => ag hF rfl rfl fun a hF => ag hF rfl rfl fun a hF => ns <| mv hF rfl rfl fun a hF => stR hF (d_call Try.call11 hF (.cons rfl .nil) (toInt64S_ok (.slice x m c0) m F _ (hs.ext hM.below) (by omega))) rfl ?_;rintro _ w' a ⟨hx, b3, rfl, hge, hbk⟩ hF;have hM := hM.fill hx 1 hbk hge;change Mem w w' [some (b2, numI m F), some (b3, numI m F), none] [] at hM;refine ag hF rfl rfl fun a hF => ns <| mv hF rfl rfl fun a hF => mv hF rfl rfl fun a hF => mv hF rfl rfl fun a hF => stR hF (d_call Try.call22 hF (.cons rfl (.cons rfl (.cons rfl .nil))) (hII b3 _ (hM.row 1 rfl))) rfl ?_;rintro _ w' a ⟨hx, rfl⟩ hF;have hM := hM.ext hx;refine mv hF rfl rfl fun a hF => st hF (g_extract hF rfl rfl) rfl fun a hF => st hF (g_extract hF rfl rfl) rfl fun a hF => ag hF rfl rfl fun a hF => ag hF rfl rfl fun a hF => nt <| sq <| sr <| mv hF rfl rfl fun a hF => mv hF rfl rfl fun a hF => st hF (g_neq hF rfl rfl) rfl fun a hF => mv hF rfl rfl fun a hF => ?_
  by_cases g4 : (N0 : Int) ≠ N0
  · first | rw [decide_eq_true g4] at hF | simp only [decide_eq_true g4] at hF
    first | exact absurd rfl g4 | exact absurd (fun _ _ => rfl) g4 | (exfalso; omega)
  first | rw [decide_eq_false g4] at hF | simp only [decide_eq_false g4] at hF
  refine stY hF rfl rfl rfl (g_move hF rfl) rfl fun a hF => stY hF rfl rfl rfl (g_move hF rfl) rfl fun a hF => stY hF rfl rfl rfl (g_neq hF rfl rfl) rfl fun a hF => st hF (g_pickF hF rfl rfl) rfl fun a hF => nt <| c_cond hF rfl (fun h5 => ?_) (fun h5 => ?_)
  · first | exact absurd rfl h5 | exact absurd (fun _ _ => rfl) h5 | (exfalso; omega)
  refine wp_skip <| tN <| sq <| sr <| mv hF rfl rfl fun a hF => mv hF rfl rfl fun a hF => stR hF (d_call Try.call11 hF (.cons rfl .nil) (toInt64S_ok (.slice x m c0) m F _ (hs.ext hM.below) (by omega))) rfl ?_;rintro _ w' a ⟨hx, b6, rfl, hge, hbk⟩ hF;have hM := hM.fill hx 2 hbk hge;change Mem w w' [some (b2, numI m F), some (b3, numI m F), some (b6, numI m F)] [] at hM;refine stR hF (d_call Try.call14 hF (.cons rfl (.cons rfl .nil)) (eqInt64S_ok b3 b6 m F _ (hM.row 1 rfl) (hM.row 2 rfl) (by omega))) rfl ?_;rintro _ w' a ⟨hx, rfl⟩ hF;have hM := hM.ext hx;refine st hF (g_not hF rfl) rfl fun a hF => nt <| c_Fl hF rfl <| wp_skip <| tN <| sr <| ag hF rfl rfl fun a hF => nt <| wp_ret <| fin1 rfl hF.defers (res_tmp hF rfl) ⟨_, rfl, hM.below, ?_⟩
  show _ = _
  rfl
theorem law_RootNumberZ (p : Int) (x : Option Addr) (m c0 : Nat) (F : Nat → Int) (gg : Int) (w : World) (hm : ¬ m ≤ 1048576) :
    CallsR Try.prog 6 #[.int .i64 (p), .slice x m c0, .int .i64 (gg)] w (fun res _ => res = .bool true) := by
  refine calls_fr [.int .i64 (p), .slice x m c0, .int .i64 (gg)] Try.func6 rfl Try.ntmps6 rfl fun a hF => ?_;have hM : Mem w w [none, none, none] [] := MemX.start w 3;change Fr 45 a [(0, .int .i64 (p)), (1, .slice x m c0), (2, .int .i64 (gg))] at hF;refine sr <| ag hF rfl rfl fun a hF => nt <| sq <| sr <| mv hF rfl rfl fun a hF => st hF (g_lenX ty_us_22 hF rfl) rfl fun a hF => st hF (g_gtr hF rfl rfl) rfl fun a hF => nt <| c_cond hF rfl (fun h1 => ?_) (fun h1 => ?_)
  · refine sq ?_
    refine wp_region_lit <| ag hF rfl rfl fun a hF => nt <| wp_ret <| tR <| fin1 rfl hF.defers (res_tmp hF rfl) ⟨_, rfl, hM.below, ?_⟩
    show _ = _
    rfl
  exfalso; omega
theorem law_RootNumber (p : Int) (sl : Value) (m : Nat) (F : Nat → Int) (gg : Int) (w : World) (_hp : -9223372036854775808 ≤ p ∧ p ≤ 9223372036854775807) (hs : ArgSl w sl m F) (_hm2 : m ≤ maxLen) (_hg : ∀ i, -9223372036854775808 ≤ F i ∧ F i ≤ 9223372036854775807) (_hgg : -9223372036854775808 ≤ gg ∧ gg ≤ 9223372036854775807) : CallsV Try.prog 6 #[.int .i64 p, sl, .int .i64 gg] w (.bool true) := by
  have hs2 := hs;obtain ⟨⟨x, c0, rfl⟩, -⟩ := hs2
  by_cases hm : m ≤ 1048576
  · by_cases hR : PolP p m F ∧ 0 ≤ gg ∧ gg ≤ 30
    · have hPP := hR.1
      obtain ⟨ep, en, hP2, hcp⟩ := polP_nat hPP;have hg := hR.2;have hle := roots_le (primeP_nat hP2.1) m (natF m F)
      by_cases hN : rtN (natF m F) m p.toNat = m
      · -- as many roots as the degree tells
        have hSS : ∀ b w1, Blk w1 b (numI m F) → CallsR Try.prog 21 #[.int .i64 p, .slice (some ⟨b, 0, none⟩) m m, .int .i64 gg] w1 (fun u _ => u = .tuple #[.int .i64 ((sumTo (fun i => trm p.toNat (slN (natF m F) m (rtA (natF m F) m p.toNat i) m % p.toNat) gg.toNat) m % p.toNat : Nat) : Int), .int .i64 ((0 : Nat) : Int)]) := fun b w1 hb => by
          have h := RootNumberS_V p.toNat b m (natF m F) gg.toNat w1 hP2 hcp (by rw [← en]; exact hb) (by omega) hN;rw [ep, show (gg.toNat : Int) = gg by omega] at h;exact h
        have hII : ∀ b w1, Blk w1 b (numI m F) → CallsR Try.prog 22 #[.int .i64 p, .slice (some ⟨b, 0, none⟩) m m, .int .i64 gg] w1 (fun u _ => u = .tuple #[.int .i64 ((sumTo (fun i => trm p.toNat (slN (natF m F) m (rtA (natF m F) m p.toNat i) m % p.toNat) gg.toNat) m % p.toNat : Nat) : Int), .int .i64 ((0 : Nat) : Int)]) := fun b w1 hb => by
          have h := RootNumberI_V p.toNat b m (natF m F) gg.toNat w1 hP2 hcp (by rw [← en]; exact hb) (by omega) hN;rw [ep, show (gg.toNat : Int) = gg by omega] at h;exact h
        exact law_RootNumberW p x m c0 F gg _ _ w hs hm hSS hII
      · have hN2 : rtN (natF m F) m p.toNat < m := by unfold rtN at hN ⊢; omega
        have hSS : ∀ b w1, Blk w1 b (numI m F) → CallsR Try.prog 21 #[.int .i64 p, .slice (some ⟨b, 0, none⟩) m m, .int .i64 gg] w1 (fun u _ => u = .tuple #[.int .i64 ((0 : Nat) : Int), .int .i64 ((5 : Nat) : Int)]) := fun b w1 hb => by
          have h := RootNumberS_T p.toNat b m (natF m F) gg.toNat w1 hP2 hcp (by rw [← en]; exact hb) (by omega) hN2;rw [ep, show (gg.toNat : Int) = gg by omega] at h;exact h
        have hII : ∀ b w1, Blk w1 b (numI m F) → CallsR Try.prog 22 #[.int .i64 p, .slice (some ⟨b, 0, none⟩) m m, .int .i64 gg] w1 (fun u _ => u = .tuple #[.int .i64 ((0 : Nat) : Int), .int .i64 ((5 : Nat) : Int)]) := fun b w1 hb => by
          have h := RootNumberI_T p.toNat b m (natF m F) gg.toNat w1 hP2 hcp (by rw [← en]; exact hb) (by omega) hN2;rw [ep, show (gg.toNat : Int) = gg by omega] at h;exact h
        exact law_RootNumberW p x m c0 F gg _ _ w hs hm hSS hII
    · -- the range
      have hSS : ∀ b w1, Blk w1 b (numI m F) → CallsR Try.prog 21 #[.int .i64 p, .slice (some ⟨b, 0, none⟩) m m, .int .i64 gg] w1 (fun u _ => u = .tuple #[.int .i64 ((0 : Nat) : Int), .int .i64 ((2 : Nat) : Int)]) := fun b w1 hb => by
        exact RootNumberS_R p b m F gg w1 (by omega) hb hR
      have hII : ∀ b w1, Blk w1 b (numI m F) → CallsR Try.prog 22 #[.int .i64 p, .slice (some ⟨b, 0, none⟩) m m, .int .i64 gg] w1 (fun u _ => u = .tuple #[.int .i64 ((0 : Nat) : Int), .int .i64 ((2 : Nat) : Int)]) := fun b w1 hb => by
        exact RootNumberI_R p b m F gg w1 (by omega) hb hR
      exact law_RootNumberW p x m c0 F gg _ _ w hs hm hSS hII
  · exact law_RootNumberZ p x m c0 F gg w hm
end Go.Proofs.Ytockjnhdllcfpaa
