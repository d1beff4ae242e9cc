/- What functions of the program return, as walks over their operations; no statement of the seat is proved here. -/
import Derived.Test.YtockjnhdllcfpaaG12
import Derived.Test.YtockjnhdllcfpaaSw29
set_option linter.unusedVariables false
set_option linter.unusedSimpArgs false
namespace Go.Proofs.Ytockjnhdllcfpaa
open Go Go.RowKit Go.Sw Go.Ech
open Classical
theorem CallsR.val {P : Program} {f : FuncId} {args : Array Value} {w : World} {v v' : Value} (h : CallsR P f args w (fun u _ => u = v)) (e : v = v') : CallsR P f args w (fun u _ => u = v') := e ▸ h

def lead (f : Nat → Nat) : Nat → Nat
  | 0 => 0
  | m + 1 => if lead f m < m then lead f m else if f m = 0 then m else m + 1
theorem lead_spec (f : Nat → Nat) : ∀ n, lead f n ≤ n ∧ (∀ j, j < lead f n → f j ≠ 0) ∧ (lead f n < n → f (lead f n) = 0)
  | 0 => ⟨Nat.le_refl _, fun j h => absurd h (by simp [lead]), fun h => absurd h (by simp [lead])⟩
  | m + 1 => by
    obtain ⟨h1, h2, h3⟩ := lead_spec f m
    by_cases e : lead f m < m
    · have e0 : lead f (m + 1) = lead f m := by simp only [lead]; rw [if_pos e]
      rw [e0]
      exact ⟨by omega, h2, fun _ => h3 e⟩
    · have e1 : lead f m = m := by omega
      by_cases e2 : f m = 0
      · have e0 : lead f (m + 1) = m := by simp only [lead]; rw [if_neg e, if_pos e2]
        rw [e0]
        exact ⟨by omega, fun j hj => h2 j (by omega), fun _ => e2⟩
      · have e0 : lead f (m + 1) = m + 1 := by simp only [lead]; rw [if_neg e, if_neg e2]
        rw [e0]
        refine ⟨by omega, fun j hj => ?_, fun h => absurd h (by omega)⟩
        by_cases e3 : j = m
        · rw [e3]; exact e2
        · exact h2 j (by omega)
theorem lead_lt {f : Nat → Nat} {n : Nat} (h : ∃ j, j < n ∧ f j = 0) : lead f n < n := by
  obtain ⟨h1, h2, h3⟩ := lead_spec f n;obtain ⟨j, hj, h0⟩ := h;have a2 : ¬ j < lead f n := fun hl => h2 j hl h0
  omega
def gElt (n : Nat) (M : Nat → Nat → Nat) (i j : Nat) : Prop := M i j < n ∧ (¬ (i < n ∧ j < n) → M i j = 0)
def ElP (n : Nat) (M : Nat → Nat → Nat) : Prop := ∀ i, i < 6 → ∀ j, j < 6 → gElt n M i j
def UnP (n : Nat) (M : Nat → Nat → Nat) : Prop := ∀ i, i < n → M 0 i = i ∧ M i 0 = i
def InP (n : Nat) (M : Nat → Nat → Nat) : Prop := ∀ i, i < n → ∃ j, j < n ∧ M i j = 0
def AsP (n : Nat) (M : Nat → Nat → Nat) : Prop := ∀ i, i < n → ∀ j, j < n → ∀ k, k < n → M (M i j) k = M i (M j k)
def TabP (n : Nat) (M : Nat → Nat → Nat) : Prop := ElP n M ∧ UnP n M ∧ InP n M ∧ AsP n M
def GrpP (n : Int) (M : Nat → Nat → Nat) : Prop := 1 ≤ n ∧ n ≤ 6 ∧ TabP n.toNat M
theorem TabP.two {n : Nat} {M : Nat → Nat → Nat} (hn0 : 0 < n) (hn : n ≤ 6) (h : TabP n M) {i : Nat} (hi : i < n) : ∃ j, j < n ∧ M i j = 0 ∧ M j i = 0 := by
  obtain ⟨he, hu, hv, ha⟩ := h;obtain ⟨j, hj, h1⟩ := hv i hi;obtain ⟨k, hk, h2⟩ := hv j hj;have hc : ∀ a b, a < n → b < n → M a b < n := fun a b h3 h4 => (he a (by omega) b (by omega)).1;refine ⟨j, hj, h1, ?_⟩;have e1 := ha (M j i) (hc _ _ hj hi) j hj k hk;have e2 := ha j hj i hi j hj;rw [h2, e2, h1, (hu j hj).2, h2, (hu _ (hc _ _ hj hi)).2] at e1;exact e1.symm
instance (n : Nat) (M : Nat → Nat → Nat) (i j : Nat) : Decidable (gElt n M i j) := by unfold gElt; infer_instance





def invI (n : Nat) (M : Nat → Nat → Nat) (i : Nat) : Int := if lead (M i) n < n then (lead (M i) n : Int) else -1

theorem ElP.lt {n : Nat} {M : Nat → Nat → Nat} (h : ElP n M) {i j : Nat} (hi : i < 6) (hj : j < 6) : M i j < n := (h i hi j hj).1





end Go.Proofs.Ytockjnhdllcfpaa

namespace Go.Proofs.Ytockjnhdllcfpaa
open Go Go.RowKit Go.Sw Go.Ech
open Classical




theorem GrpP.mk {n : Nat} {M : Nat → Nat → Nat} (hn0 : 0 < n) (hn : n ≤ 6) (hG : TabP n M) : GrpP (n : Int) M := ⟨by omega, by omega, hG⟩
theorem TabP.lt {n : Nat} {M : Nat → Nat → Nat} (h : TabP n M) {i j : Nat} (hi : i < 6) (hj : j < 6) : M i j < n := (h.1 i hi j hj).1
theorem TabP.out {n : Nat} {M : Nat → Nat → Nat} (h : TabP n M) {i j : Nat} (hi : i < 6) (hj : j < 6) (ho : n ≤ i ∨ n ≤ j) : M i j = 0 := (h.1 i hi j hj).2 (by omega)




def cmF (M : Nat → Nat → Nat) (i j : Nat) : Nat := if M i j = M j i then 1 else 0
def cpI (M : Nat → Nat → Nat) (n i j : Nat) : Nat := sumTo (fun a => sumTo (fun b => cmF M a b) n) i + sumTo (fun b => cmF M i b) j
end Go.Proofs.Ytockjnhdllcfpaa

namespace Go.Proofs.Ytockjnhdllcfpaa
open Go Go.RowKit Go.Sw Go.Ech
open Classical
def wA (F v : Nat → Nat → Nat) (n i j x : Nat) : Nat := sumTo (fun a => sumTo (fun b => if F a b = x then v a b else 0) n) i + sumTo (fun b => if F i b = x then v i b else 0) j
def wy (M : Nat → Nat → Nat) (n : Nat) (e : Nat → Nat) : Nat → Nat → Nat
  | 0, x => if x = 0 then 1 else 0
  | k + 1, x => wA M (fun a b => wy M n e k a * e b) n n 0 x
def comI (M : Nat → Nat → Nat) (n a b : Nat) : Nat := M (M a b) (M (lead (M a) n) (lead (M b) n))
def comS (M : Nat → Nat → Nat) (n a b : Nat) : Nat := M (M (M (M 0 a) b) (lead (M a) n)) (lead (M b) n)
theorem TabP.inv {n : Nat} {M : Nat → Nat → Nat} (h : TabP n M) {i : Nat} (hi : i < n) : lead (M i) n < n := lead_lt (h.2.2.1 i hi)
def com (M : Nat → Nat → Nat) (n x : Nat) : Nat := wA (comI M n) (fun _ _ => 1) n n 0 x
def foldM (M : Nat → Nat → Nat) (l : Nat → Nat) : Nat → Nat
  | 0 => 0
  | k + 1 => M (foldM M l k) (l k)
end Go.Proofs.Ytockjnhdllcfpaa

namespace Go.Proofs.Ytockjnhdllcfpaa
open Go Go.RowKit Go.Sw Go.Ech
open Classical
def gTp (n : Nat) (M : Nat → Nat → Nat) (i0 j0 i j k : Nat) : Nat := if (i < i0 ∨ (i = i0 ∧ j < j0)) ∧ j < n ∧ k = M i j then 1 else 0
def gT (n : Nat) (M : Nat → Nat → Nat) (i j k : Nat) : Nat := if i < n ∧ j < n ∧ k = M i j then 1 else 0
def e0F (c : Nat) : Nat := if c = 0 then 1 else 0



















end Go.Proofs.Ytockjnhdllcfpaa

namespace Go.Proofs.Ytockjnhdllcfpaa
open Go Go.RowKit Go.Sw Go.Ech
open Classical
theorem ty_us_22 : Try.prog.underlying 22 = some (.slice 2) := by kernel_rfl
theorem ty_sl_22 : sliceOf Try.prog 22 = some 1 := by kernel_rfl
theorem ty_mk_22_0 : ∀ w, (Instr.makeSlice 22 (.int .i64 ((0 : Nat) : Int)) (.int .i64 ((0 : Nat) : Int))).run Try.prog w = .ok (.slice (some ⟨w.heap.size, 0, none⟩) 0 0) (w.alloc (.cells (fnC 0 (fun _ => .int .i64 (0))) 2)) := by intros; kernel_rfl
def szV (k l : Nat) : Int := if l ≤ k then ((k - l : Nat) : Int) else -1
theorem toInt64S_P (b o c m : Nat) (g : Nat → Int) (w : World) (hm0 : 0 < m) (hm : m < 10000000) (hc : ∀ i, i < m → w.cell? ⟨b, o + i * 1, none⟩ = some (.int .i64 (g i))) :
    CallsR Try.prog 11 #[.slice (some ⟨b, o, none⟩) m c] w (fun v w' => ∃ b, v = .slice (some ⟨b, 0, none⟩) m m ∧ w.heap.size ≤ b ∧ Blk w' b (numI m g)) := by
  refine calls_fr [.slice (some ⟨b, o, none⟩) m c] Try.func11 rfl Try.ntmps11 rfl fun a hF => ?_;have hM : Mem w w [none] [] := MemX.start w 1;change Fr 22 a [(0, .slice (some ⟨b, o, none⟩) m c)] at hF;refine sr <| ag hF rfl rfl fun a hF => ns <| mv hF rfl rfl fun a hF => st hF (g_len ty_us_22 hF rfl) rfl fun a hF => stR hF (d_make1b (len := m) 0 hM hF ty_si_22 rfl rfl rfl (by omega) (by decide)) rfl ?_;rintro _ w' a ⟨b2, rfl, hM, -⟩ hF;refine ag hF rfl rfl fun a hF => nt <| sq <| sr <| ag hF rfl rfl fun a hF => nt <| wp_block ?_;change Mem w _ [some (b2, numI m (fun _ => 0))] [] at hM;refine c_loop (fun (kk : Nat) a w' => kk ≤ m ∧ (True) ∧ Fr 22 a [(0, .slice (some ⟨b, o, none⟩) m c), (2, .slice none 0 0), (3, .slice (some ⟨b2, 0, none⟩) m m), (4, .int .i64 (kk : Int))] ∧ Mem w w' [some (b2, numI m (fun c => if c < kk then g c else 0))] []) (fun kk => m - kk) 0 ?_ ?_
  · refine ⟨by omega, trivial, hF.sub _ (by repeat' constructor), ?_⟩
    exact hM.rowc 0 rfl (numI_congr fun c hc => by simp)
  clear hF hM;rintro gk a w' ⟨hgk, hinv1, hF, hM⟩;refine sq <| sr <| mv hF rfl rfl fun a hF => mv hF rfl rfl fun a hF => st hF (g_len ty_us_22 hF rfl) rfl fun a hF => st hF (g_lss hF rfl rfl) rfl fun a hF => nt <| c_cond hF rfl (fun h3 => ?_) (fun h3 => ?_)
  · refine wp_skip ?_
    refine tN <| sq <| wp_block <| wp_region_lit <| mv hF rfl rfl fun a hF => mv hF rfl rfl fun a hF => mv hF rfl rfl fun a hF => mv hF rfl rfl fun a hF => st hF (g_indexSl (i := gk) ty_sl_22 hF rfl rfl rfl (by omega)) rfl fun a hF => st hF (g_loadC ty_on_2 hF rfl (cell_ext (hc (gk) (by omega)) hM.below)) rfl fun a hF => st hF (g_indexSl (i := gk) ty_sl_22 hF rfl rfl rfl (by omega)) rfl fun a hF => stN hF (d_store 0 hM rfl ty_on_2 hF rfl rfl rfl (by first | omega | (simp only [sz0, grpC_size, numI_size] <;> omega) | (simp only [Array.size_setIfInBounds]; omega) | simp)) ?_;intro _ w' a hM hF;rw [show (numI m (fun c => if c < gk then g c else 0)).setIfInBounds (0 + (gk) * 1) (.int .i64 (g (gk))) = numI m (fun c => if c = gk then (g (gk) : Int) else (fun c => if c < gk then g c else 0) c) from numI_set (k := gk) (by omega) (fun c _ => rfl)] at hM;change Mem w w' [some (b2, numI m (fun c => if c = gk then (g (gk) : Int) else (fun c => if c < gk then g c else 0) c))] [] at hM;refine wpList_nil <| iN <| tN <| wp_region_lit <| mv hF rfl rfl fun a hF => st hF (g_add hF rfl rfl (add_nat (gk) (1) (by omega))) rfl fun a hF => ag hF rfl rfl fun a hF => nt <| ⟨gk + 1, ⟨by omega, trivial, hF.sub _ (by repeat' constructor), ?_⟩, by omega⟩;refine hM.rowc 0 rfl (numI_congr fun c hc => ?_)
    by_cases e1 : c = gk
    · subst e1; simp
    · have e0 : (c < gk + 1) = (c < gk) := by apply propext; omega
      simp [e0, e1]
  obtain rfl : m = gk := by omega
  have hM := hM.rowc (cs' := numI m g) 0 rfl (numI_congr fun c hc => by rw [if_pos hc]);refine wp_exit <| tX <| tX <| ib_same <| tN <| sr <| mv hF rfl rfl fun a hF => ag hF rfl rfl fun a hF => nt <| wp_ret <| fin1 rfl hF.defers (res_tmp hF rfl) ⟨_, rfl, hM.below, ?_⟩;exact ⟨_, rfl, hM.ge 0 rfl, hM.row 0 rfl⟩
theorem toInt64S_Z (x : Option Addr) (c : Nat) (g : Nat → Int) (w : World)  :
    CallsR Try.prog 11 #[.slice x 0 c] w (fun v w' => ∃ b, v = .slice (some ⟨b, 0, none⟩) 0 0 ∧ w.heap.size ≤ b ∧ Blk w' b (numI 0 g)) := by
  refine calls_fr [.slice x 0 c] Try.func11 rfl Try.ntmps11 rfl fun a hF => ?_;have hM : Mem w w [none] [] := MemX.start w 1;change Fr 22 a [(0, .slice x 0 c)] at hF;refine sr <| ag hF rfl rfl fun a hF => ns <| mv hF rfl rfl fun a hF => st hF (g_lenX ty_us_22 hF rfl) rfl fun a hF => stR hF (d_makeC (len := 0) 0 hM hF rfl rfl ty_mk_22_0) rfl ?_;rintro _ w' a ⟨b1, rfl, hM, -⟩ hF;refine ag hF rfl rfl fun a hF => nt <| sq <| sr <| ag hF rfl rfl fun a hF => nt <| wp_block ?_;change Mem w _ [some (b1, fnC 0 (fun _ => .int .i64 (0)))] [] at hM;refine c_loop (fun (kk : Nat) a w' => kk ≤ 0 ∧ (True) ∧ Fr 22 a [(0, .slice x 0 c), (2, .slice none 0 0), (3, .slice (some ⟨b1, 0, none⟩) 0 0), (4, .int .i64 (kk : Int))] ∧ Mem w w' [some (b1, numI 0 (fun c => if c < kk then g c else 0))] []) (fun kk => 0 - kk) 0 ?_ ?_
  · refine ⟨by omega, trivial, hF.sub _ (by repeat' constructor), ?_⟩
    exact hM.rowc 0 rfl (numI_congr fun c hc => by simp)
  clear hF hM;rintro gk a w' ⟨hgk, hinv1, hF, hM⟩;refine sq <| sr <| mv hF rfl rfl fun a hF => mv hF rfl rfl fun a hF => st hF (g_lenX ty_us_22 hF rfl) rfl fun a hF => st hF (g_lss hF rfl rfl) rfl fun a hF => nt <| c_cond hF rfl (fun h2 => ?_) (fun h2 => ?_)
  · exfalso; omega
  obtain rfl : 0 = gk := by omega
  refine wp_exit <| tX <| tX <| ib_same <| tN <| sr <| mv hF rfl rfl fun a hF => ag hF rfl rfl fun a hF => nt <| wp_ret <| fin1 rfl hF.defers (res_tmp hF rfl) ⟨_, rfl, hM.below, ?_⟩;exact ⟨_, rfl, hM.ge 0 rfl, (hM.rowc (cs' := numI 0 g) 0 rfl (numI_congr fun c hc => absurd hc (by omega))).row 0 rfl⟩
theorem toInt64S_ok (sl : Value) (m : Nat) (g : Nat → Int) (w : World) (hs : ArgSl w sl m g) (hm : m < 10000000) : CallsR Try.prog 11 #[sl] w (fun v w' => ∃ b, v = .slice (some ⟨b, 0, none⟩) m m ∧ w.heap.size ≤ b ∧ Blk w' b (numI m g)) := by
  by_cases h0 : 0 < m
  · obtain ⟨b, o, c, rfl, hc⟩ := hs.2 h0
    exact toInt64S_P b o c m g w h0 hm hc
  · obtain ⟨⟨x, c, rfl⟩, -⟩ := hs
    obtain rfl : m = 0 := by omega
    exact toInt64S_Z x c g w
theorem eqInt64S_ok (b bz m : Nat) (f : Nat → Int) (w : World) (hb : Blk w b (numI m f)) (hbz : Blk w bz (numI m f)) (hm : m < 10000000) :
    CallsR Try.prog 14 #[.slice (some ⟨b, 0, none⟩) m m, .slice (some ⟨bz, 0, none⟩) m m] w (fun res _ => res = .bool true) := by
  refine calls_fr [.slice (some ⟨b, 0, none⟩) m m, .slice (some ⟨bz, 0, none⟩) m m] Try.func14 rfl Try.ntmps14 rfl fun a hF => ?_;have hM : Mem w w [] [(b, numI m f), (bz, numI m f)] := MemX.startD w 0 _ (startD2 hb hbz);change Fr 26 a [(0, .slice (some ⟨b, 0, none⟩) m m), (1, .slice (some ⟨bz, 0, none⟩) m m)] at hF;refine sr <| ag hF rfl rfl fun a hF => nt <| sq <| sr <| mv hF rfl rfl fun a hF => st hF (g_len ty_us_22 hF rfl) rfl fun a hF => mv hF rfl rfl fun a hF => st hF (g_len ty_us_22 hF rfl) rfl fun a hF => st hF (g_neq hF rfl rfl) rfl fun a hF => nt <| c_cond hF rfl (fun h1 => ?_) (fun h1 => ?_)
  · first | exact absurd rfl h1 | (exfalso; omega)
  refine wp_skip <| tN <| sq <| sr <| ag hF rfl rfl fun a hF => nt <| wp_block ?_;change Mem w _ [] [(b, numI m f), (bz, numI m f)] at hM;refine c_loop (fun (kk : Nat) a w' => kk ≤ m ∧ (True) ∧ Fr 26 a [(0, .slice (some ⟨b, 0, none⟩) m m), (1, .slice (some ⟨bz, 0, none⟩) m m), (10, .bool (decide (((m : Int) : Int) ≠ (m : Int)))), (5, .int .i64 (kk : Int))] ∧ Mem w w' [] [(b, numI m f), (bz, numI m f)]) (fun kk => m - kk) 0 ?_ ?_
  · refine ⟨by omega, trivial, hF.sub _ (by repeat' constructor), ?_⟩
    exact hM
  clear hF hM;rintro gk a w' ⟨hgk, hinv1, hF, hM⟩;refine sq <| sr <| mv hF rfl rfl fun a hF => mv hF rfl rfl fun a hF => st hF (g_len ty_us_22 hF rfl) rfl fun a hF => st hF (g_lss hF rfl rfl) rfl fun a hF => nt <| c_cond hF rfl (fun h2 => ?_) (fun h2 => ?_)
  · refine wp_skip ?_
    refine tN <| sq <| wp_block <| sq <| c_par 8 [] [.val (.slice (some ⟨b, 0, none⟩) m m), .val (.int .i64 (gk : Int)), .val (ptr b (0 + (gk) * 1)), .val (.int .i64 (f (gk))), .val (.slice (some ⟨bz, 0, none⟩) m m), .val (.int .i64 (gk : Int)), .val (ptr bz (0 + (gk) * 1)), .val (.int .i64 (f (gk)))] hmix rfl hF rfl hM ⟨fun a w gG hF hS hd => by exact pmv hS rfl hF rfl, fun a w gG hF hS hd => by exact pmv hS rfl hF rfl, fun a w gG hF hS hd => by have hF := hF.ext1 17 (hd 0 rfl rfl); have hF := hF.ext1 18 (hd 1 rfl rfl); exact par_val hS rfl (g_indexSl (i := gk) ty_sl_22 hF rfl rfl rfl (by omega)), fun a w gG hF hS hd => by have hF := hF.ext1 19 (hd 2 rfl rfl); have hM := hS.mem rfl; exact par_val hS rfl (g_load ty_on_2 hF rfl (hM.fz 0 rfl) (numI_get (k := gk) (by omega) (by omega))), fun a w gG hF hS hd => by exact pmv hS rfl hF rfl, fun a w gG hF hS hd => by exact pmv hS rfl hF rfl, fun a w gG hF hS hd => by have hF := hF.ext1 21 (hd 4 rfl rfl); have hF := hF.ext1 22 (hd 5 rfl rfl); exact par_val hS rfl (g_indexSl (i := gk) ty_sl_22 hF rfl rfl rfl (by omega)), fun a w gG hF hS hd => by have hF := hF.ext1 23 (hd 6 rfl rfl); have hM := hS.mem rfl; exact par_val hS rfl (g_load ty_on_2 hF rfl (hM.fz 1 rfl) (numI_get (k := gk) (by omega) (by omega))), trivial⟩ ?_;intro a w' L hF hS hq;have hF := hF.ext1 17 (hq 0 rfl rfl);have hF := hF.ext1 18 (hq 1 rfl rfl);have hF := hF.ext1 19 (hq 2 rfl rfl);have hF := hF.ext1 20 (hq 3 rfl rfl);have hF := hF.ext1 21 (hq 4 rfl rfl);have hF := hF.ext1 22 (hq 5 rfl rfl);have hF := hF.ext1 23 (hq 6 rfl rfl);have hF := hF.ext1 24 (hq 7 rfl rfl);have hM := hS.mem rfl;change wpList Try.prog _ _ [_] _ _;refine st hF (g_neq hF rfl rfl) rfl fun a hF => nt <| c_cond hF rfl (fun h3 => ?_) (fun h3 => ?_)
    · first | exact absurd rfl h3 | (exfalso; omega)
    refine wp_skip <| iN <| tN <| wp_region_lit <| mv hF rfl rfl fun a hF => st hF (g_add hF rfl rfl (add_nat (gk) (1) (by omega))) rfl fun a hF => ag hF rfl rfl fun a hF => nt <| ⟨gk + 1, ⟨by omega, trivial, hF.sub _ (by repeat' constructor), ?_⟩, by omega⟩;exact hM
  obtain rfl : m = gk := by omega
  refine wp_exit <| tX <| tX <| ib_same <| tN <| sr <| ag hF rfl rfl fun a hF => nt <| wp_ret <| fin1 rfl hF.defers (res_tmp hF rfl) ⟨_, rfl, hM.below, ?_⟩
  show _ = _
  rfl
end Go.Proofs.Ytockjnhdllcfpaa

namespace Go.Proofs.Ytockjnhdllcfpaa
open Go Go.RowKit Go.Sw Go.Ech
open Classical
def NumP (len lo hi : Int) (l : Nat) (f : Nat → Int) : Prop := (l : Int) = len ∧ ∀ j, j < l → lo ≤ f j ∧ f j ≤ hi
def ShP (p : Int) (n m : Nat) (Ln : Nat → Nat) (R : Nat → Nat → Int) : Prop := m = n ∧ ∀ i, i < m → Ln i = n ∧ ∀ j, j < n → 0 ≤ R i j ∧ R i j ≤ p - 1
def rOf (R : Nat → Nat → Int) (i j : Nat) : Nat := (R i j).toNat
structure ShT (w : World) (b o n p : Nat) (ca be ob : Nat → Nat) (r : Nat → Nat → Nat) : Prop where
  cell : ∀ i, i < n → w.cell? ⟨b, o + i * 1, none⟩ = some (.slice (some ⟨be i, ob i, none⟩) n (ca i))
  num : ∀ i, i < n → ∀ j, j < n → w.cell? ⟨be i, ob i + j * 1, none⟩ = some (.int .i64 (r i j : Int))
  lt : ∀ i, i < n → ∀ j, j < n → r i j < p
theorem ShT.ext {w w' : World} {b o n p : Nat} {ca be ob : Nat → Nat} {r : Nat → Nat → Nat} (h : ShT w b o n p ca be ob r) (hx : Ext w w') : ShT w' b o n p ca be ob r :=
  ⟨fun i hi => cell_ext (h.cell i hi) hx, fun i hi j hj => cell_ext (h.num i hi j hj) hx, h.lt⟩
def cocT (p : Nat) (M r : Nat → Nat → Nat) (i j k : Nat) : Prop := (r i j * r (M i j) k) % p = (r j k * r i (M j k)) % p
def CocP (p n : Nat) (M r : Nat → Nat → Nat) : Prop := (∀ i, i < n → ∀ j, j < n → r i j ≠ 0 ∧ ∀ k, k < n → cocT p M r i j k) ∧ r 0 0 = 1
theorem primeP_pos2 {p : Int} (h : primeP p) : 2 ≤ p ∧ p ≤ 13 := by unfold primeP at h; omega

end Go.Proofs.Ytockjnhdllcfpaa

namespace Go.Proofs.Ytockjnhdllcfpaa
open Go Go.RowKit Go.Sw Go.Ech
open Classical


end Go.Proofs.Ytockjnhdllcfpaa
