/- What functions of the program return, as walks over their operations; no statement of the seat is proved here. -/
import Derived.Test.YtcheokblafncbaaJ5
set_option linter.unusedVariables false
set_option linter.unusedSimpArgs false
namespace Go.Proofs.Ytcheokblafncbaa
open Go Go.RowKit Go.Sw Go.Ech
open Classical
def NumP (len lo hi : Int) (l : Nat) (f : Nat → Int) : Prop := (l : Int) = len ∧ ∀ j, j < l → lo ≤ f j ∧ f j ≤ hi
def ShP (p : Int) (n m : Nat) (Ln : Nat → Nat) (R : Nat → Nat → Int) : Prop := m = n ∧ ∀ i, i < m → Ln i = n ∧ ∀ j, j < n → 0 ≤ R i j ∧ R i j ≤ p - 1
def rOf (R : Nat → Nat → Int) (i j : Nat) : Nat := (R i j).toNat
structure ShT (w : World) (b o n p : Nat) (ca be ob : Nat → Nat) (r : Nat → Nat → Nat) : Prop where
  cell : ∀ i, i < n → w.cell? ⟨b, o + i * 1, none⟩ = some (.slice (some ⟨be i, ob i, none⟩) n (ca i))
  num : ∀ i, i < n → ∀ j, j < n → w.cell? ⟨be i, ob i + j * 1, none⟩ = some (.int .i64 (r i j : Int))
  lt : ∀ i, i < n → ∀ j, j < n → r i j < p
theorem ShT.ext {w w' : World} {b o n p : Nat} {ca be ob : Nat → Nat} {r : Nat → Nat → Nat} (h : ShT w b o n p ca be ob r) (hx : Ext w w') : ShT w' b o n p ca be ob r :=
  ⟨fun i hi => cell_ext (h.cell i hi) hx, fun i hi j hj => cell_ext (h.num i hi j hj) hx, h.lt⟩
def cocT (p : Nat) (M r : Nat → Nat → Nat) (i j k : Nat) : Prop := (r i j * r (M i j) k) % p = (r j k * r i (M j k)) % p
def CocP (p n : Nat) (M r : Nat → Nat → Nat) : Prop := (∀ i, i < n → ∀ j, j < n → r i j ≠ 0 ∧ ∀ k, k < n → cocT p M r i j k) ∧ r 0 0 = 1
theorem primeP_pos2 {p : Int} (h : primeP p) : 2 ≤ p ∧ p ≤ 13 := by unfold primeP at h; omega

theorem hasNumbers_P (b o c m : Nat) (f : Nat → Int) (len lo hi : Int) (w : World) (hm0 : 0 < m) (hc : ∀ i, i < m → w.cell? ⟨b, o + i * 1, none⟩ = some (.int .i64 (f i))) (hm : m < 10000000) :
    CallsR Try.prog 54 #[.slice (some ⟨b, o, none⟩) m c, .int .i64 (len), .int .i64 (lo), .int .i64 (hi)] w (fun res _ => res = .bool (decide (NumP len lo hi m f))) := by
  refine calls_fr [.slice (some ⟨b, o, none⟩) m c, .int .i64 (len), .int .i64 (lo), .int .i64 (hi)] Try.func54 rfl Try.ntmps54 rfl fun a hF => ?_;have hM : Mem w w [] [] := MemX.start w 0;change Fr 30 a [(0, .slice (some ⟨b, o, none⟩) m c), (1, .int .i64 (len)), (2, .int .i64 (lo)), (3, .int .i64 (hi))] at hF;refine sr <| ag hF rfl rfl fun a hF => nt <| sq <| sr <| mv hF rfl rfl fun a hF => st hF (g_len ty_us_50 hF rfl) rfl fun a hF => mv hF rfl rfl fun a hF => st hF (g_neq hF rfl rfl) rfl fun a hF => nt <| c_cond hF rfl (fun h1 => ?_) (fun h1 => ?_)
  · refine sq ?_
    refine wp_region_lit <| ag hF rfl rfl fun a hF => nt <| wp_ret <| tR <| fin1 rfl hF.defers (res_tmp hF rfl) ⟨_, rfl, hM.below, ?_⟩
    show _ = _
    exact bool_f (fun hq => by first | exact absurd hq.1 (by omega) | (have z := hq.2 gk (by omega); omega))
  refine wp_skip <| tN <| sq <| sr <| mv hF rfl rfl fun a hF => st hF (g_len ty_us_50 hF rfl) rfl fun a hF => mv hF rfl rfl fun a hF => nt <| wp_block ?_;change Mem w _ [] [] at hM;refine c_loop (fun (kk : Nat) a w' => kk ≤ m ∧ (∀ j, j < kk → lo ≤ f j ∧ f j ≤ hi) ∧ Fr 30 a [(2, .int .i64 (lo)), (3, .int .i64 (hi)), (14, .bool (decide (((m : Int) : Int) ≠ len))), (15, .slice (some ⟨b, o, none⟩) m c), (16, .int .i64 (m : Int)), (17, .int .i64 (kk : Int))] ∧ Mem w w' [] []) (fun kk => m - kk) 0 ?_ ?_
  · refine ⟨by omega, fun i hq => absurd hq (by omega), hF.sub _ (by repeat' constructor), ?_⟩
    exact hM
  clear hF hM;rintro gk a w' ⟨hgk, hinv1, hF, hM⟩;refine sr <| st hF (g_lss hF rfl rfl) rfl fun a hF => nt <| sq <| c_cond hF rfl (fun h2 => ?_) (fun h2 => ?_)
  · refine wp_skip ?_
    refine tN <| sq <| wp_block <| sr <| st hF (g_indexSl (i := gk) ty_sl_50 hF rfl rfl rfl (by omega)) rfl fun a hF => st hF (g_loadC ty_on_2 hF rfl (cell_ext (hc (gk) (by omega)) hM.below)) rfl fun a hF => ag hF rfl rfl fun a hF => ns <| mv hF rfl rfl fun a hF => mv hF rfl rfl fun a hF => st hF (g_lss hF rfl rfl) rfl fun a hF => mv hF rfl rfl fun a hF => ?_
    by_cases g3 : (f (gk) : Int) < lo
    · first | rw [decide_eq_true g3] at hF | simp only [decide_eq_true g3] at hF
      refine stS hF rfl rfl rfl rfl rfl fun a hF => stS hF rfl rfl rfl rfl rfl fun a hF => stS hF rfl rfl rfl rfl rfl fun a hF => st hF (g_pickT hF rfl rfl) rfl fun a hF => nt <| c_T hF rfl <| sr <| ag hF rfl rfl fun a hF => nt <| wp_ret <| iR <| tR <| tR <| iR <| tR <| fin1 rfl hF.defers (res_tmp hF rfl) ⟨_, rfl, hM.below, ?_⟩
      show _ = _
      exact bool_f (fun hq => by first | exact absurd hq.1 (by omega) | (have z := hq.2 gk (by omega); omega))
    first | rw [decide_eq_false g3] at hF | simp only [decide_eq_false g3] at hF
    refine stY hF rfl rfl rfl (g_move hF rfl) rfl fun a hF => stY hF rfl rfl rfl (g_move hF rfl) rfl fun a hF => stY hF rfl rfl rfl (g_gtr hF rfl rfl) rfl fun a hF => st hF (g_pickF hF rfl rfl) rfl fun a hF => nt <| c_cond hF rfl (fun h5 => ?_) (fun h5 => ?_)
    · refine sq ?_
      refine wp_region_lit <| ag hF rfl rfl fun a hF => nt <| wp_ret <| iR <| tR <| tR <| iR <| tR <| fin1 rfl hF.defers (res_tmp hF rfl) ⟨_, rfl, hM.below, ?_⟩
      show _ = _
      exact bool_f (fun hq => by first | exact absurd hq.1 (by omega) | (have z := hq.2 gk (by omega); omega))
    refine wp_skip <| iN <| tN <| wp_region_lit <| st hF (g_add hF rfl rfl (add_nat (gk) (1) (by omega))) rfl fun a hF => mv hF rfl rfl fun a hF => nt <| ⟨gk + 1, ⟨by omega, allS hinv1 (by omega), hF.sub _ (by repeat' constructor), ?_⟩, by omega⟩;exact hM
  obtain rfl : m = gk := by omega
  refine wp_exit <| tX <| tX <| ib_same <| tN <| sr <| ag hF rfl rfl fun a hF => nt <| wp_ret <| fin1 rfl hF.defers (res_tmp hF rfl) ⟨_, rfl, hM.below, ?_⟩
  show _ = _
  exact bool_t ⟨by omega, hinv1⟩
theorem hasNumbers_Z (x : Option Addr) (c : Nat) (f : Nat → Int) (len lo hi : Int) (w : World)  :
    CallsR Try.prog 54 #[.slice x 0 c, .int .i64 (len), .int .i64 (lo), .int .i64 (hi)] w (fun res _ => res = .bool (decide (NumP len lo hi 0 f))) := by
  refine calls_fr [.slice x 0 c, .int .i64 (len), .int .i64 (lo), .int .i64 (hi)] Try.func54 rfl Try.ntmps54 rfl fun a hF => ?_;have hM : Mem w w [] [] := MemX.start w 0;change Fr 30 a [(0, .slice x 0 c), (1, .int .i64 (len)), (2, .int .i64 (lo)), (3, .int .i64 (hi))] at hF;refine sr <| ag hF rfl rfl fun a hF => nt <| sq <| sr <| mv hF rfl rfl fun a hF => st hF (g_lenX ty_us_50 hF rfl) rfl fun a hF => mv hF rfl rfl fun a hF => st hF (g_neq hF rfl rfl) rfl fun a hF => nt <| c_cond hF rfl (fun h1 => ?_) (fun h1 => ?_)
  · refine sq ?_
    refine wp_region_lit <| ag hF rfl rfl fun a hF => nt <| wp_ret <| tR <| fin1 rfl hF.defers (res_tmp hF rfl) ⟨_, rfl, hM.below, ?_⟩
    show _ = _
    exact bool_f (fun hq => by first | exact absurd hq.1 (by omega) | (exfalso; omega))
  refine wp_skip <| tN <| sq <| sr <| mv hF rfl rfl fun a hF => st hF (g_lenX ty_us_50 hF rfl) rfl fun a hF => mv hF rfl rfl fun a hF => nt <| wp_block ?_;change Mem w _ [] [] at hM;refine c_loop (fun (kk : Nat) a w' => kk ≤ 0 ∧ (True) ∧ Fr 30 a [(2, .int .i64 (lo)), (3, .int .i64 (hi)), (14, .bool (decide ((0 : Int) ≠ len))), (15, .slice x 0 c), (16, .int .i64 (0)), (17, .int .i64 (kk : Int))] ∧ Mem w w' [] []) (fun kk => 0 - kk) 0 ?_ ?_
  · refine ⟨by omega, trivial, hF.sub _ (by repeat' constructor), ?_⟩
    exact hM
  clear hF hM;rintro gk a w' ⟨hgk, hinv1, hF, hM⟩;refine sr <| st hF (g_lss hF rfl rfl) rfl fun a hF => nt <| sq <| c_cond hF rfl (fun h2 => ?_) (fun h2 => ?_)
  · exfalso; omega
  obtain rfl : 0 = gk := by omega
  refine wp_exit <| tX <| tX <| ib_same <| tN <| sr <| ag hF rfl rfl fun a hF => nt <| wp_ret <| fin1 rfl hF.defers (res_tmp hF rfl) ⟨_, rfl, hM.below, ?_⟩
  show _ = _
  exact bool_t ⟨by omega, fun j hj => absurd hj (by omega)⟩
theorem hasNumbers_ok (sl : Value) (m : Nat) (f : Nat → Int) (len lo hi : Int) (w : World) (hs : ArgSl w sl m f) (hm : m < 10000000) : CallsR Try.prog 54 #[sl, .int .i64 len, .int .i64 lo, .int .i64 hi] w (fun res _ => res = .bool (decide (NumP len lo hi m f))) := by
  by_cases h0 : 0 < m
  · obtain ⟨b, o, c, rfl, hc⟩ := hs.2 h0
    exact hasNumbers_P b o c m f len lo hi w h0 hc hm
  · obtain ⟨⟨x, c, rfl⟩, -⟩ := hs
    obtain rfl : m = 0 := by omega
    exact hasNumbers_Z x c f len lo hi w
end Go.Proofs.Ytcheokblafncbaa
