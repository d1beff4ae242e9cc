/- What functions of the program return, as walks over their operations; no statement of the seat is proved here. -/
import Derived.Test.YtcheokblafncbaaJ4
import Derived.Test.YtcheokblafncbaaSw29
set_option linter.unusedVariables false
set_option linter.unusedSimpArgs false
namespace Go.Proofs.Ytcheokblafncbaa
open Go Go.RowKit Go.Sw Go.Ech
open Classical
theorem ty_us_42 : Try.prog.underlying 42 = some (.slice 50) := by kernel_rfl
theorem ty_sl_42 : sliceOf Try.prog 42 = some 1 := by kernel_rfl
theorem ty_on_50 : oneP Try.prog 50 = true := by kernel_rfl
theorem ty_si_50 : slI Try.prog 50 = some (2, some (.int .i64 (0)), 1, 8) := by kernel_rfl
theorem ty_mk_50_0 : ∀ w, (Instr.makeSlice 50 (.int .i64 ((0 : Nat) : Int)) (.int .i64 ((0 : Nat) : Int))).run Try.prog w = .ok (.slice (some ⟨w.heap.size, 0, none⟩) 0 0) (w.alloc (.cells (fnC 0 (fun _ => .int .i64 (0))) 2)) := by intros; kernel_rfl
theorem ty_si_42 : slI Try.prog 42 = some (50, some (.slice none 0 0), 1, 24) := by kernel_rfl
def szV (k l : Nat) : Int := if l ≤ k then ((k - l : Nat) : Int) else -1
theorem toInt64S_P (b o c m : Nat) (g : Nat → Int) (w : World) (hm0 : 0 < m) (hm : m < 10000000) (hc : ∀ i, i < m → w.cell? ⟨b, o + i * 1, none⟩ = some (.int .i64 (g i))) :
    CallsR Try.prog 28 #[.slice (some ⟨b, o, none⟩) m c] w (fun v w' => ∃ b, v = .slice (some ⟨b, 0, none⟩) m m ∧ w.heap.size ≤ b ∧ Blk w' b (numI m g)) := by
  refine calls_fr [.slice (some ⟨b, o, none⟩) m c] Try.func28 rfl Try.ntmps28 rfl fun a hF => ?_;have hM : Mem w w [none] [] := MemX.start w 1;change Fr 22 a [(0, .slice (some ⟨b, o, none⟩) m c)] at hF;refine sr <| ag hF rfl rfl fun a hF => ns <| mv hF rfl rfl fun a hF => st hF (g_len ty_us_50 hF rfl) rfl fun a hF => stR hF (d_make1b (len := m) 0 hM hF ty_si_50 rfl rfl rfl (by omega) (by decide)) rfl ?_;rintro _ w' a ⟨b2, rfl, hM, -⟩ hF;refine ag hF rfl rfl fun a hF => nt <| sq <| sr <| ag hF rfl rfl fun a hF => nt <| wp_block ?_;change Mem w _ [some (b2, numI m (fun _ => 0))] [] at hM;refine c_loop (fun (kk : Nat) a w' => kk ≤ m ∧ (True) ∧ Fr 22 a [(0, .slice (some ⟨b, o, none⟩) m c), (2, .slice none 0 0), (3, .slice (some ⟨b2, 0, none⟩) m m), (4, .int .i64 (kk : Int))] ∧ Mem w w' [some (b2, numI m (fun c => if c < kk then g c else 0))] []) (fun kk => m - kk) 0 ?_ ?_
  · refine ⟨by omega, trivial, hF.sub _ (by repeat' constructor), ?_⟩
    exact hM.rowc 0 rfl (numI_congr fun c hc => by simp)
  clear hF hM;rintro gk a w' ⟨hgk, hinv1, hF, hM⟩;refine sq <| sr <| mv hF rfl rfl fun a hF => mv hF rfl rfl fun a hF => st hF (g_len ty_us_50 hF rfl) rfl fun a hF => st hF (g_lss hF rfl rfl) rfl fun a hF => nt <| c_cond hF rfl (fun h3 => ?_) (fun h3 => ?_)
  · refine wp_skip ?_
    refine tN <| sq <| wp_block <| wp_region_lit <| mv hF rfl rfl fun a hF => mv hF rfl rfl fun a hF => mv hF rfl rfl fun a hF => mv hF rfl rfl fun a hF => st hF (g_indexSl (i := gk) ty_sl_50 hF rfl rfl rfl (by omega)) rfl fun a hF => st hF (g_loadC ty_on_2 hF rfl (cell_ext (hc (gk) (by omega)) hM.below)) rfl fun a hF => st hF (g_indexSl (i := gk) ty_sl_50 hF rfl rfl rfl (by omega)) rfl fun a hF => stN hF (d_store 0 hM rfl ty_on_2 hF rfl rfl rfl (by first | omega | (simp only [sz0, grpC_size, numI_size] <;> omega) | simp)) ?_;intro _ w' a hM hF;rw [show (numI m (fun c => if c < gk then g c else 0)).setIfInBounds (0 + (gk) * 1) (.int .i64 (g (gk))) = numI m (fun c => if c = gk then (g (gk) : Int) else (fun c => if c < gk then g c else 0) c) from numI_set (k := gk) (by omega) (fun c _ => rfl)] at hM;change Mem w w' [some (b2, numI m (fun c => if c = gk then (g (gk) : Int) else (fun c => if c < gk then g c else 0) c))] [] at hM;refine wpList_nil <| iN <| tN <| wp_region_lit <| mv hF rfl rfl fun a hF => st hF (g_add hF rfl rfl (add_nat (gk) (1) (by omega))) rfl fun a hF => ag hF rfl rfl fun a hF => nt <| ⟨gk + 1, ⟨by omega, trivial, hF.sub _ (by repeat' constructor), ?_⟩, by omega⟩;refine hM.rowc 0 rfl (numI_congr fun c hc => ?_)
    by_cases e1 : c = gk
    · subst e1; simp
    · have e0 : (c < gk + 1) = (c < gk) := by apply propext; omega
      simp [e0, e1]
  obtain rfl : m = gk := by omega
  have hM := hM.rowc (cs' := numI m g) 0 rfl (numI_congr fun c hc => by rw [if_pos hc]);refine wp_exit <| tX <| tX <| ib_same <| tN <| sr <| mv hF rfl rfl fun a hF => ag hF rfl rfl fun a hF => nt <| wp_ret <| fin1 rfl hF.defers (res_tmp hF rfl) ⟨_, rfl, hM.below, ?_⟩;exact ⟨_, rfl, hM.ge 0 rfl, hM.row 0 rfl⟩
theorem toInt64S_Z (x : Option Addr) (c : Nat) (g : Nat → Int) (w : World)  :
    CallsR Try.prog 28 #[.slice x 0 c] w (fun v w' => ∃ b, v = .slice (some ⟨b, 0, none⟩) 0 0 ∧ w.heap.size ≤ b ∧ Blk w' b (numI 0 g)) := by
  refine calls_fr [.slice x 0 c] Try.func28 rfl Try.ntmps28 rfl fun a hF => ?_;have hM : Mem w w [none] [] := MemX.start w 1;change Fr 22 a [(0, .slice x 0 c)] at hF;refine sr <| ag hF rfl rfl fun a hF => ns <| mv hF rfl rfl fun a hF => st hF (g_lenX ty_us_50 hF rfl) rfl fun a hF => stR hF (d_makeC (len := 0) 0 hM hF rfl rfl ty_mk_50_0) rfl ?_;rintro _ w' a ⟨b1, rfl, hM, -⟩ hF;refine ag hF rfl rfl fun a hF => nt <| sq <| sr <| ag hF rfl rfl fun a hF => nt <| wp_block ?_;change Mem w _ [some (b1, fnC 0 (fun _ => .int .i64 (0)))] [] at hM;refine c_loop (fun (kk : Nat) a w' => kk ≤ 0 ∧ (True) ∧ Fr 22 a [(0, .slice x 0 c), (2, .slice none 0 0), (3, .slice (some ⟨b1, 0, none⟩) 0 0), (4, .int .i64 (kk : Int))] ∧ Mem w w' [some (b1, numI 0 (fun c => if c < kk then g c else 0))] []) (fun kk => 0 - kk) 0 ?_ ?_
  · refine ⟨by omega, trivial, hF.sub _ (by repeat' constructor), ?_⟩
    exact hM.rowc 0 rfl (numI_congr fun c hc => by simp)
  clear hF hM;rintro gk a w' ⟨hgk, hinv1, hF, hM⟩;refine sq <| sr <| mv hF rfl rfl fun a hF => mv hF rfl rfl fun a hF => st hF (g_lenX ty_us_50 hF rfl) rfl fun a hF => st hF (g_lss hF rfl rfl) rfl fun a hF => nt <| c_cond hF rfl (fun h2 => ?_) (fun h2 => ?_)
  · exfalso; omega
  obtain rfl : 0 = gk := by omega
  refine wp_exit <| tX <| tX <| ib_same <| tN <| sr <| mv hF rfl rfl fun a hF => ag hF rfl rfl fun a hF => nt <| wp_ret <| fin1 rfl hF.defers (res_tmp hF rfl) ⟨_, rfl, hM.below, ?_⟩;exact ⟨_, rfl, hM.ge 0 rfl, (hM.rowc (cs' := numI 0 g) 0 rfl (numI_congr fun c hc => absurd hc (by omega))).row 0 rfl⟩
theorem toInt64S_ok (sl : Value) (m : Nat) (g : Nat → Int) (w : World) (hs : ArgSl w sl m g) (hm : m < 10000000) : CallsR Try.prog 28 #[sl] w (fun v w' => ∃ b, v = .slice (some ⟨b, 0, none⟩) m m ∧ w.heap.size ≤ b ∧ Blk w' b (numI m g)) := by
  by_cases h0 : 0 < m
  · obtain ⟨b, o, c, rfl, hc⟩ := hs.2 h0
    exact toInt64S_P b o c m g w h0 hm hc
  · obtain ⟨⟨x, c, rfl⟩, -⟩ := hs
    obtain rfl : m = 0 := by omega
    exact toInt64S_Z x c g w
theorem eqInt64S_ok (b bz m : Nat) (f : Nat → Int) (w : World) (hb : Blk w b (numI m f)) (hbz : Blk w bz (numI m f)) (hm : m < 10000000) :
    CallsR Try.prog 30 #[.slice (some ⟨b, 0, none⟩) m m, .slice (some ⟨bz, 0, none⟩) m m] w (fun res _ => res = .bool true) := by
  refine calls_fr [.slice (some ⟨b, 0, none⟩) m m, .slice (some ⟨bz, 0, none⟩) m m] Try.func30 rfl Try.ntmps30 rfl fun a hF => ?_;have hM : Mem w w [] [(b, numI m f), (bz, numI m f)] := MemX.startD w 0 _ (startD2 hb hbz);change Fr 26 a [(0, .slice (some ⟨b, 0, none⟩) m m), (1, .slice (some ⟨bz, 0, none⟩) m m)] at hF;refine sr <| ag hF rfl rfl fun a hF => nt <| sq <| sr <| mv hF rfl rfl fun a hF => st hF (g_len ty_us_50 hF rfl) rfl fun a hF => mv hF rfl rfl fun a hF => st hF (g_len ty_us_50 hF rfl) rfl fun a hF => st hF (g_neq hF rfl rfl) rfl fun a hF => nt <| c_cond hF rfl (fun h1 => ?_) (fun h1 => ?_)
  · first | exact absurd rfl h1 | (exfalso; omega)
  refine wp_skip <| tN <| sq <| sr <| ag hF rfl rfl fun a hF => nt <| wp_block ?_;change Mem w _ [] [(b, numI m f), (bz, numI m f)] at hM;refine c_loop (fun (kk : Nat) a w' => kk ≤ m ∧ (True) ∧ Fr 26 a [(0, .slice (some ⟨b, 0, none⟩) m m), (1, .slice (some ⟨bz, 0, none⟩) m m), (10, .bool (decide (((m : Int) : Int) ≠ (m : Int)))), (5, .int .i64 (kk : Int))] ∧ Mem w w' [] [(b, numI m f), (bz, numI m f)]) (fun kk => m - kk) 0 ?_ ?_
  · refine ⟨by omega, trivial, hF.sub _ (by repeat' constructor), ?_⟩
    exact hM
  clear hF hM;rintro gk a w' ⟨hgk, hinv1, hF, hM⟩;refine sq <| sr <| mv hF rfl rfl fun a hF => mv hF rfl rfl fun a hF => st hF (g_len ty_us_50 hF rfl) rfl fun a hF => st hF (g_lss hF rfl rfl) rfl fun a hF => nt <| c_cond hF rfl (fun h2 => ?_) (fun h2 => ?_)
  · refine wp_skip ?_
    refine tN <| sq <| wp_block <| sq <| c_par 8 [] [.val (.slice (some ⟨b, 0, none⟩) m m), .val (.int .i64 (gk : Int)), .val (ptr b (0 + (gk) * 1)), .val (.int .i64 (f (gk))), .val (.slice (some ⟨bz, 0, none⟩) m m), .val (.int .i64 (gk : Int)), .val (ptr bz (0 + (gk) * 1)), .val (.int .i64 (f (gk)))] hmix rfl hF rfl hM ⟨fun a w gG hF hS hd => by exact pmv hS rfl hF rfl, fun a w gG hF hS hd => by exact pmv hS rfl hF rfl, fun a w gG hF hS hd => by have hF := hF.ext1 17 (hd 0 rfl rfl); have hF := hF.ext1 18 (hd 1 rfl rfl); exact par_val hS rfl (g_indexSl (i := gk) ty_sl_50 hF rfl rfl rfl (by omega)), fun a w gG hF hS hd => by have hF := hF.ext1 19 (hd 2 rfl rfl); have hM := hS.mem rfl; exact par_val hS rfl (g_load ty_on_2 hF rfl (hM.fz 0 rfl) (numI_get (k := gk) (by omega) (by omega))), fun a w gG hF hS hd => by exact pmv hS rfl hF rfl, fun a w gG hF hS hd => by exact pmv hS rfl hF rfl, fun a w gG hF hS hd => by have hF := hF.ext1 21 (hd 4 rfl rfl); have hF := hF.ext1 22 (hd 5 rfl rfl); exact par_val hS rfl (g_indexSl (i := gk) ty_sl_50 hF rfl rfl rfl (by omega)), fun a w gG hF hS hd => by have hF := hF.ext1 23 (hd 6 rfl rfl); have hM := hS.mem rfl; exact par_val hS rfl (g_load ty_on_2 hF rfl (hM.fz 1 rfl) (numI_get (k := gk) (by omega) (by omega))), trivial⟩ ?_;intro a w' L hF hS hq;have hF := hF.ext1 17 (hq 0 rfl rfl);have hF := hF.ext1 18 (hq 1 rfl rfl);have hF := hF.ext1 19 (hq 2 rfl rfl);have hF := hF.ext1 20 (hq 3 rfl rfl);have hF := hF.ext1 21 (hq 4 rfl rfl);have hF := hF.ext1 22 (hq 5 rfl rfl);have hF := hF.ext1 23 (hq 6 rfl rfl);have hF := hF.ext1 24 (hq 7 rfl rfl);have hM := hS.mem rfl;change wpList Try.prog _ _ [_] _ _;refine st hF (g_neq hF rfl rfl) rfl fun a hF => nt <| c_cond hF rfl (fun h3 => ?_) (fun h3 => ?_)
    · first | exact absurd rfl h3 | (exfalso; omega)
    refine wp_skip <| iN <| tN <| wp_region_lit <| mv hF rfl rfl fun a hF => st hF (g_add hF rfl rfl (add_nat (gk) (1) (by omega))) rfl fun a hF => ag hF rfl rfl fun a hF => nt <| ⟨gk + 1, ⟨by omega, trivial, hF.sub _ (by repeat' constructor), ?_⟩, by omega⟩;exact hM
  obtain rfl : m = gk := by omega
  refine wp_exit <| tX <| tX <| ib_same <| tN <| sr <| ag hF rfl rfl fun a hF => nt <| wp_ret <| fin1 rfl hF.defers (res_tmp hF rfl) ⟨_, rfl, hM.below, ?_⟩
  show _ = _
  rfl
end Go.Proofs.Ytcheokblafncbaa
