/- What functions of the program return, as walks over their operations; no statement of the seat is proved here. -/
import Derived.Test.YtlpccepifehilaaG12
import Derived.Test.YtlpccepifehilaaSw14
import Derived.Test.YtlpccepifehilaaEch3
import Derived.Test.YtlpccepifehilaaSw19
import Derived.Test.YtlpccepifehilaaEch5
import Derived.Test.YtlpccepifehilaaSw9
set_option linter.unusedVariables false
set_option linter.unusedSimpArgs false
namespace Go.Proofs.Ytlpccepifehilaa
open Go Go.RowKit Go.Sw Go.Ech

end Go.Proofs.Ytlpccepifehilaa

namespace Go.Proofs.Ytlpccepifehilaa
open Go Go.RowKit Go.Sw Go.Ech
def EchRel (w0 : World) (L : Own) (p N m : Nat) (M : Nat → Nat → Nat) (u : Value) (w' : World) : Prop := ∃ k E ld, Rref p N E k ld ∧ (∀ x, Ker p N E k x ↔ Ker p N M m x) ∧ (∀ i c, E i c < p) ∧ k ≤ m ∧ RowsFr w0 L N k (fun i c => .int .i64 (E i c : Int)) u w'
theorem EchRel.last {w0 w w' : World} {L : Own} {p N m : Nat} {M : Nat → Nat → Nat} {u : Value} (h : EchRel w0 L p N m M u w) (hx : Ext w w') : EchRel w0 L p N m M u w' := by
  obtain ⟨k, E, ld, h1, h2, h3, h4, h5⟩ := h;exact ⟨k, E, ld, h1, h2, h3, h4, h5.last hx⟩
theorem EchRel.of {X : List Nat} {w0 w w' : World} {L : Own} {D : Froz} {p N m : Nat} {M : Nat → Nat → Nat} {u : Value} (hM : MemX X w0 w L D) (h : ∃ k E ld, Rref p N E k ld ∧ (∀ x, Ker p N E k x ↔ Ker p N M m x) ∧ (∀ i c, E i c < p) ∧ k ≤ m ∧ RowsOut w w' N k (fun i c => .int .i64 (E i c : Int)) u) : EchRel w0 L p N m M u w' := by
  obtain ⟨k, E, ld, h1, h2, h3, h4, h5⟩ := h;exact ⟨k, E, ld, h1, h2, h3, h4, h5.fresh hM⟩
end Go.Proofs.Ytlpccepifehilaa

namespace Go.Proofs.Ytlpccepifehilaa
open Go Go.RowKit Go.Sw Go.Ech
end Go.Proofs.Ytlpccepifehilaa

namespace Go.Proofs.Ytlpccepifehilaa
open Go Go.RowKit Go.Sw Go.Ech
def mixM (p : Nat) (M : Nat → Nat → Nat) (d t : Nat) (sc : Nat → Nat) (g i : Nat) : Nat → Nat := if i < g ∧ i ≠ d then lsM p (M i) sc (M i t) else if i = d then sc else M i
theorem parS_val {P : Program} {o : Oper} {a : Act} {w : World} {S : Bool → World → Prop} {b : Bool} {v : Value} (hS : S b w) (hg : Gives P o a w v) : Does P o a w (fun u w' => S b w' ∧ u = v) :=
  hg.mono fun _ _ ⟨h1, h2⟩ => ⟨h2 ▸ hS, h1⟩
def vAt (l : List Value) (i : Nat) (v : Value) : Prop := v = l.getD i undef


end Go.Proofs.Ytlpccepifehilaa

namespace Go.Proofs.Ytlpccepifehilaa
open Go Go.RowKit Go.Sw Go.Ech

end Go.Proofs.Ytlpccepifehilaa

namespace Go.Proofs.Ytlpccepifehilaa
open Go Go.RowKit Go.Sw Go.Ech
def eqG (p n : Nat) (T : Nat → Nat → Nat → Nat) (bb cc : Nat → Nat) (g r c : Nat) : Nat := if c < g then (if r < n then timesV p n T (fun x => if x = c then 1 else 0) bb r else timesV p n T bb (fun x => if x = c then 1 else 0) (r - n)) else if c = 6 then cc (r % n) else 0
def eqH (p n : Nat) (T : Nat → Nat → Nat → Nat) (bb cc : Nat → Nat) (g k r c : Nat) : Nat := if c = g ∧ (r < k ∨ (n ≤ r ∧ r < n + k)) then eqG p n T bb cc (g + 1) r c else eqG p n T bb cc g r c
end Go.Proofs.Ytlpccepifehilaa

namespace Go.Proofs.Ytlpccepifehilaa
open Go Go.RowKit Go.Sw Go.Ech
def bE (i : Nat) : Nat → Nat := fun x => if x = i then 1 else 0
def bigM (p n : Nat) (T : Nat → Nat → Nat → Nat) (r : Nat) : Nat → Nat := eqG p n T (bE (r / (2 * n))) (bE (r / (2 * n))) n (r % (2 * n))
end Go.Proofs.Ytlpccepifehilaa

namespace Go.Proofs.Ytlpccepifehilaa
open Go Go.RowKit Go.Sw Go.Ech
open Classical
theorem CallsR.val {P : Program} {f : FuncId} {args : Array Value} {w : World} {v v' : Value} (h : CallsR P f args w (fun u _ => u = v)) (e : v = v') : CallsR P f args w (fun u _ => u = v') := e ▸ h
def asS (p n : Nat) (T : Nat → Nat → Nat → Nat) : Prop := ∀ i, i < n → ∀ j, j < n → ∀ k, k < n → eqV 6 (timesS p n T (T i j) (fun c => if c = k then 1 else 0)) (timesS p n T (fun c => if c = i then 1 else 0) (T j k))
def AlgN (p n : Nat) (T : Nat → Nat → Nat → Nat) : Prop := asS p n T ∧ ∃ u, UnitI p n T u
def trunc (n : Nat) (T : Nat → Nat → Nat → Nat) (i j k : Nat) : Nat := if i < n ∧ j < n ∧ k < n then T i j k else 0
def AlgP (p n : Int) (T : Nat → Nat → Nat → Nat) (f : Nat → Nat) : Prop := shapeP p n T f ∧ AlgN p.toNat n.toNat (trunc n.toNat T)
theorem primeP_pos {p : Int} (h : primeP p) : 0 < p := by unfold primeP at h; omega
end Go.Proofs.Ytlpccepifehilaa

namespace Go.Proofs.Ytlpccepifehilaa
open Go Go.RowKit Go.Sw Go.Ech
open Classical
def CodeP (p n : Int) (T : Nat → Nat → Nat → Nat) (f : Nat → Nat) (m : Nat) (V : Nat → Nat → Nat) : Prop := AlgP p n T f ∧ ∀ i, i < m → okV p n (V i)
end Go.Proofs.Ytlpccepifehilaa

namespace Go.Proofs.Ytlpccepifehilaa
open Go Go.RowKit Go.Sw Go.Ech
open Classical
end Go.Proofs.Ytlpccepifehilaa

namespace Go.Proofs.Ytlpccepifehilaa
open Go Go.RowKit Go.Sw Go.Ech
open Classical
def trT (T : Nat → Nat → Nat → Nat) (i j k : Nat) : Nat := T j i k



def comP (T : Nat → Nat → Nat → Nat) : Prop := ∀ i, i < 6 → ∀ j, j < i → eqV 6 (T i j) (T j i)
end Go.Proofs.Ytlpccepifehilaa

namespace Go.Proofs.Ytlpccepifehilaa
open Go Go.RowKit Go.Sw Go.Ech
open Classical

end Go.Proofs.Ytlpccepifehilaa

namespace Go.Proofs.Ytlpccepifehilaa
open Go Go.RowKit Go.Sw Go.Ech
open Classical
def powW (mul : (Nat → Nat) → (Nat → Nat) → Nat → Nat) (u v : Nat → Nat) : Nat → Nat → Nat
  | 0 => u
  | k + 1 => mul (powW mul u v k) v
end Go.Proofs.Ytlpccepifehilaa

namespace Go.Proofs.Ytlpccepifehilaa
open Go Go.RowKit Go.Sw Go.Ech
open Classical

end Go.Proofs.Ytlpccepifehilaa

namespace Go.Proofs.Ytlpccepifehilaa
open Go Go.RowKit Go.Sw Go.Ech
open Classical
def formM (p n : Nat) (T : Nat → Nat → Nat → Nat) (f : Nat → Nat) (i c : Nat) : Nat := if c < n then sumTo (fun k => T i c k * f k) 6 % p else 0
def FrobN (p n : Nat) (T : Nat → Nat → Nat → Nat) (f : Nat → Nat) : Prop := ∃ E ld, Rref p 6 E n ld ∧ ∀ x, Ker p 6 E n x ↔ Ker p 6 (formM p n T f) n x
end Go.Proofs.Ytlpccepifehilaa

namespace Go.Proofs.Ytlpccepifehilaa
open Go Go.RowKit Go.Sw Go.Ech
open Classical

end Go.Proofs.Ytlpccepifehilaa

namespace Go.Proofs.Ytlpccepifehilaa
open Go Go.RowKit Go.Sw Go.Ech
open Classical





end Go.Proofs.Ytlpccepifehilaa

namespace Go.Proofs.Ytlpccepifehilaa
open Go Go.RowKit Go.Sw Go.Ech
open Classical
theorem ty_ze_26 : zeroP Try.prog 26 = some (.agg (tenC 0 0 0 0 (.slice none 0 0))) := by kernel_rfl
theorem ty_si_22 : slI Try.prog 22 = some (2, some (.int .i64 (0)), 1, 8) := by kernel_rfl
theorem ty_bt_26 : ∀ (p n i o : Int) (b : Option Addr) (l c : Nat) w, (Instr.build 26 #[(0, .int .i64 p), (1, .int .i64 n), (2, .int .i64 i), (3, .int .i64 o), (4, .slice b l c)]).run Try.prog w = .ok (.agg (tenC p n i o (.slice b l c))) w := by intros; kernel_rfl
theorem ty_sz_26 : sizeP Try.prog 26 = some 5 := by kernel_rfl
theorem ty_ag_26 : aggP Try.prog 26 = some 5 := by kernel_rfl
theorem countChoices_ok (n l : Nat) (w : World) (hn : n ≤ 6) (hl : l ≤ 16) :
    CallsR Try.prog 38 #[.int .i64 (n : Int), .int .i64 (l : Int)] w (fun res _ => res = .int .i64 ((n ^ l : Nat) : Int)) := by
  refine calls_fr [.int .i64 (n : Int), .int .i64 (l : Int)] Try.func38 rfl Try.ntmps38 rfl fun a hF => ?_;have hM : Mem w w [] [] := MemX.start w 0;change Fr 14 a [(0, .int .i64 (n : Int)), (1, .int .i64 (l : Int))] at hF;refine sr <| ag hF rfl rfl fun a hF => ns <| ag hF rfl rfl fun a hF => nt <| sq <| sr <| mv hF rfl rfl fun a hF => mv hF rfl rfl fun a hF => nt <| wp_block ?_;change Mem w _ [] [] at hM;refine c_loop (fun (kk : Nat) a w' => kk ≤ l ∧ (True) ∧ Fr 14 a [(0, .int .i64 (n : Int)), (4, .int .i64 (0)), (6, .int .i64 (l : Int)), (7, .int .i64 (kk : Int)), (5, .int .i64 (((n ^ kk : Nat) : Int)))] ∧ Mem w w' [] []) (fun kk => l - kk) 0 ?_ ?_
  · refine ⟨by omega, trivial, hF.sub _ (by repeat' constructor), ?_⟩
    exact hM
  clear hF hM;rintro gk a w' ⟨hgk, hinv1, hF, hM⟩;refine sr <| st hF (g_lss hF rfl rfl) rfl fun a hF => nt <| sq <| c_cond hF rfl (fun h1 => ?_) (fun h1 => ?_)
  · refine wp_skip ?_
    refine tN <| sq <| wp_block <| wp_region_lit <| mv hF rfl rfl fun a hF => mv hF rfl rfl fun a hF => st hF (g_mul hF rfl rfl (show _ = ((n ^ (gk + 1) : Nat) : Int) from (by have hb := pow_bd hn (show gk + 1 ≤ 16 by omega); rw [Nat.pow_succ] at hb ⊢; exact mul_nat (n ^ gk) n (by omega)))) rfl fun a hF => ag hF rfl rfl fun a hF => wpList_nil <| iN <| tN <| wp_region_lit <| st hF (g_add hF rfl rfl (add_nat (gk) (1) (by omega))) rfl fun a hF => mv hF rfl rfl fun a hF => nt <| ⟨gk + 1, ⟨by omega, trivial, hF.sub _ (by repeat' constructor), ?_⟩, by omega⟩;exact hM
  obtain rfl : l = gk := by omega
  refine wp_exit <| tX <| tX <| ib_same <| tN <| sr <| mv hF rfl rfl fun a hF => ag hF rfl rfl fun a hF => nt <| wp_ret <| fin1 rfl hF.defers (res_tmp hF rfl) ⟨_, rfl, hM.below, ?_⟩
  show _ = _
  rfl
theorem l03Power_ok (n k : Nat) (w : World) (hn0 : 0 < n) (hn : n ≤ 6) (hk : k < 1000) :
    CallsR Try.prog 35 #[.int .i64 (n : Int), .int .i64 (k : Int)] w (fun res _ => res = .int .i64 ((pwr n k 1 : Nat) : Int)) := by
  refine calls_fr [.int .i64 (n : Int), .int .i64 (k : Int)] Try.func35 rfl Try.ntmps35 rfl fun a hF => ?_;have hM : Mem w w [] [] := MemX.start w 0;change Fr 18 a [(0, .int .i64 (n : Int)), (1, .int .i64 (k : Int))] at hF;refine sr <| ag hF rfl rfl fun a hF => ns <| ag hF rfl rfl fun a hF => nt <| sq <| wp_block ?_;change Mem w _ [] [] at hM;refine c_loop (fun (kk : Nat) a w' => kk ≤ k ∧ ∃ (q : Nat), (pwr n (k - kk) q = pwr n k 1 ∧ q ≤ 8000) ∧ Fr 18 a [(0, .int .i64 (n : Int)), (4, .int .i64 (0)), (5, .int .i64 (q : Int)), (1, .int .i64 (((k - kk : Nat) : Int)))] ∧ Mem w w' [] []) (fun kk => k - kk) 0 ?_ ?_
  · refine ⟨by omega, 1, ⟨rfl, by omega⟩, hF.sub _ (by repeat' constructor), ?_⟩
    exact hM
  clear hF hM;rintro gk a w' ⟨hgk, q, ⟨hq, hqb⟩, hF, hM⟩;refine sq <| sr <| mv hF rfl rfl fun a hF => st hF (g_gtr hF rfl rfl) rfl fun a hF => mv hF rfl rfl fun a hF => ?_
  by_cases g1 : 0 < (((k - gk : Nat) : Int) : Int)
  · first | rw [decide_eq_true g1] at hF | simp only [decide_eq_true g1] at hF
    refine stY hF rfl rfl rfl (g_move hF rfl) rfl fun a hF => stY hF rfl rfl rfl (g_leq hF rfl rfl) rfl fun a hF => st hF (g_pickT hF rfl rfl) rfl fun a hF => nt <| c_cond hF rfl (fun h2 => ?_) (fun h2 => ?_)
    · refine wp_skip ?_
      refine tN <| sq <| wp_block <| wp_region_lit <| mv hF rfl rfl fun a hF => mv hF rfl rfl fun a hF => st hF (g_mul hF rfl rfl (mul_nat q n (by have : q * n ≤ 1296 * 6 := Nat.mul_le_mul (by omega) hn; omega))) rfl fun a hF => ag hF rfl rfl fun a hF => wpList_nil <| iN <| tN <| wp_region_lit <| mv hF rfl rfl fun a hF => st hF (g_sub hF rfl rfl (show _ = ((k - (gk + 1) : Nat) : Int) from (show IntKind.i64.wrap (((k - gk : Nat) : Int) - 1) = ((k - (gk + 1) : Nat) : Int) from by rw [wrap_i64 (by omega) (by omega)]; omega))) rfl fun a hF => ag hF rfl rfl fun a hF => wpList_nil <| tN ?_;have hqn : q * n ≤ 1296 * 6 := Nat.mul_le_mul (by omega) hn;refine ⟨gk + 1, ⟨by omega, q * n, ⟨by rw [← hq, pwr_step (q := q) (by omega) (by omega), Nat.sub_sub], by omega⟩, hF.sub _ (by repeat' constructor), ?_⟩, by omega⟩;exact hM
    refine wp_exit <| tX <| tX <| ib_same <| tN <| sr <| mv hF rfl rfl fun a hF => ag hF rfl rfl fun a hF => nt <| wp_ret <| fin1 rfl hF.defers (res_tmp hF rfl) ⟨_, rfl, hM.below, ?_⟩
    show _ = _
    rw [← hq, pwr_stop (by omega)]
  first | rw [decide_eq_false g1] at hF | simp only [decide_eq_false g1] at hF
  refine stS hF rfl rfl rfl rfl rfl fun a hF => stS hF rfl rfl rfl rfl rfl fun a hF => st hF (g_pickF hF rfl rfl) rfl fun a hF => nt <| c_Fl hF rfl <| wp_exit <| tX <| tX <| ib_same <| tN <| sr <| mv hF rfl rfl fun a hF => ag hF rfl rfl fun a hF => nt <| wp_ret <| fin1 rfl hF.defers (res_tmp hF rfl) ⟨_, rfl, hM.below, ?_⟩
  show _ = _
  rw [← hq, show k - gk = 0 by omega]; rfl
theorem isWithinLimits_ok (n i o : Nat) (w : World) (hn : n ≤ 6) :
    CallsR Try.prog 37 #[.int .i64 (n : Int), .int .i64 (i : Int), .int .i64 (o : Int)] w (fun res _ => res = .bool (decide (wl n i o))) := by
  refine calls_fr [.int .i64 (n : Int), .int .i64 (i : Int), .int .i64 (o : Int)] Try.func37 rfl Try.ntmps37 rfl fun a hF => ?_;have hM : Mem w w [] [] := MemX.start w 0;change Fr 21 a [(0, .int .i64 (n : Int)), (1, .int .i64 (i : Int)), (2, .int .i64 (o : Int))] at hF;refine sr <| ag hF rfl rfl fun a hF => ns <| mv hF rfl rfl fun a hF => st hF (g_leq hF rfl rfl) rfl fun a hF => mv hF rfl rfl fun a hF => ?_
  by_cases g1 : ((i : Int) : Int) ≤ 8
  · first | rw [decide_eq_true g1] at hF | simp only [decide_eq_true g1] at hF
    refine stY hF rfl rfl rfl (g_move hF rfl) rfl fun a hF => stY hF rfl rfl rfl (g_leq hF rfl rfl) rfl fun a hF => st hF (g_pickT hF rfl rfl) rfl fun a hF => mv hF rfl rfl fun a hF => ?_
    by_cases g2 : ((o : Int) : Int) ≤ 8
    · first | rw [decide_eq_true g2] at hF | simp only [decide_eq_true g2] at hF
      refine stY hF rfl rfl rfl (g_move hF rfl) rfl fun a hF => stY hF rfl rfl rfl (g_move hF rfl) rfl fun a hF => stY hF rfl rfl rfl (g_move hF rfl) rfl fun a hF => stY hF rfl rfl rfl (g_add hF rfl rfl (add_nat (i) (o) (by omega))) rfl fun a hF => stYR hF rfl rfl rfl (d_call Try.call38 hF (.cons rfl (.cons rfl .nil)) (countChoices_ok (n) (i + o) _ (by omega) (by omega))) rfl ?_;rintro _ w' a ⟨hx, rfl⟩ hF;have hM := hM.ext hx;refine stY hF rfl rfl rfl (g_leq hF rfl rfl) rfl fun a hF => st hF (g_pickT hF rfl rfl) rfl fun a hF => ag hF rfl rfl fun a hF => nt <| wp_ret <| fin1 rfl hF.defers (res_tmp hF rfl) ⟨_, rfl, hM.below, ?_⟩
      show _ = _
      exact congrArg Value.bool (decide_eq_decide.2 ⟨fun h => ⟨by omega, by omega, by omega⟩, fun h => by have := h.2.2; omega⟩)
    first | rw [decide_eq_false g2] at hF | simp only [decide_eq_false g2] at hF
    refine stS hF rfl rfl rfl rfl rfl fun a hF => stS hF rfl rfl rfl rfl rfl fun a hF => stS hF rfl rfl rfl rfl rfl fun a hF => stS hF rfl rfl rfl rfl rfl fun a hF => stS hF rfl rfl rfl rfl rfl fun a hF => stS hF rfl rfl rfl rfl rfl fun a hF => st hF (g_pickF hF rfl rfl) rfl fun a hF => ag hF rfl rfl fun a hF => nt <| wp_ret <| fin1 rfl hF.defers (res_tmp hF rfl) ⟨_, rfl, hM.below, ?_⟩
    show _ = _
    exact bool_f (fun h => by unfold wl at h; omega)
  first | rw [decide_eq_false g1] at hF | simp only [decide_eq_false g1] at hF
  refine stS hF rfl rfl rfl rfl rfl fun a hF => stS hF rfl rfl rfl rfl rfl fun a hF => st hF (g_pickF hF rfl rfl) rfl fun a hF => mv hF rfl rfl fun a hF => stS hF rfl rfl rfl rfl rfl fun a hF => stS hF rfl rfl rfl rfl rfl fun a hF => stS hF rfl rfl rfl rfl rfl fun a hF => stS hF rfl rfl rfl rfl rfl fun a hF => stS hF rfl rfl rfl rfl rfl fun a hF => stS hF rfl rfl rfl rfl rfl fun a hF => st hF (g_pickF hF rfl rfl) rfl fun a hF => ag hF rfl rfl fun a hF => nt <| wp_ret <| fin1 rfl hF.defers (res_tmp hF rfl) ⟨_, rfl, hM.below, ?_⟩
  show _ = _
  exact bool_f (fun h => by unfold wl at h; omega)
theorem zeroTensor_ok (p n i o : Nat) (w : World) (hn0 : 0 < n) (hn : n ≤ 6) (hw : wl n i o) :
    CallsR Try.prog 41 #[.int .i64 (p : Int), .int .i64 (n : Int), .int .i64 (i : Int), .int .i64 (o : Int)] w (fun v w' => TenOut w w' (p : Int) (n : Int) (i : Int) (o : Int) (n ^ (i + o)) (fun _ => 0) v) := by
  refine calls_fr [.int .i64 (p : Int), .int .i64 (n : Int), .int .i64 (i : Int), .int .i64 (o : Int)] Try.func41 rfl Try.ntmps41 rfl fun a hF => ?_;have hM : Mem w w [none, none] [] := MemX.start w 2;change Fr 20 a [(0, .int .i64 (p : Int)), (1, .int .i64 (n : Int)), (2, .int .i64 (i : Int)), (3, .int .i64 (o : Int))] at hF;have hw3 := hw.2.2;have hw1 := hw.1;have hw2 := hw.2.1;refine sr <| stR hF (d_alloc 0 hM ty_ze_26) rfl ?_;rintro _ w' a ⟨b1, rfl, hM, -⟩ hF;refine ns <| mv hF rfl rfl fun a hF => mv hF rfl rfl fun a hF => mv hF rfl rfl fun a hF => mv hF rfl rfl fun a hF => mv hF rfl rfl fun a hF => mv hF rfl rfl fun a hF => mv hF rfl rfl fun a hF => st hF (g_add hF rfl rfl (add_nat (i) (o) (by omega))) rfl fun a hF => stR hF (d_call Try.call38 hF (.cons rfl (.cons rfl .nil)) (countChoices_ok (n) (i + o) _ (by omega) (by omega))) rfl ?_;rintro _ w' a ⟨hx, rfl⟩ hF;have hM := hM.ext hx;refine stR hF (d_make1 (len := (n) ^ (i + o)) 1 hM hF ty_si_22 rfl rfl rfl (by omega) (by decide)) rfl ?_;rintro _ w' a ⟨b3, rfl, hM, -⟩ hF;change Mem w w' [some (b1, tenC 0 0 0 0 (.slice none 0 0)), some (b3, numC ((n) ^ (i + o)) (fun _ => 0))] [] at hM;refine st hF (g_buildP hF (build5 hF rfl rfl rfl rfl rfl) (fun w => ty_bt_26 _ _ _ _ _ _ _ w)) rfl fun a hF => stN hF (d_storeAgg 0 hM rfl ty_sz_26 hF rfl rfl (tenC_one rfl) (by simp only [sz0, tenC_size, smC_size, numC_size]) (by simp only [sz0, tenC_size, smC_size, numC_size] <;> omega) (splice_whole _ _ rfl)) ?_;intro _ w' a hM hF;change Mem w w' [some (b1, tenC ((p : Int) : Int) ((n : Int) : Int) ((i : Int) : Int) ((o : Int) : Int) (.slice (some ⟨b3, 0, none⟩) ((n) ^ (i + o)) ((n) ^ (i + o)))), some (b3, numC ((n) ^ (i + o)) (fun _ => 0))] [] at hM;refine nt <| wp_ret <| fin1 rfl hF.defers (res_agg ty_ag_26 hF rfl (hM.row 0 rfl) (by simp only [sz0, tenC_size, smC_size, numC_size])) ⟨_, rfl, hM.below, ?_⟩;exact ⟨_, rfl, hM.ge 1 rfl, hM.row 1 rfl⟩
theorem l03Empty_ok (p n i o : Nat) (w : World) (hn0 : 0 < n) (hn : n ≤ 6) (hw : wl n i o) :
    CallsR Try.prog 21 #[.int .i64 (p : Int), .int .i64 (n : Int), .int .i64 (i : Int), .int .i64 (o : Int)] w (fun v w' => TenOut w w' (p : Int) (n : Int) (i : Int) (o : Int) (n ^ (i + o)) (fun _ => 0) v) := by
  refine calls_fr [.int .i64 (p : Int), .int .i64 (n : Int), .int .i64 (i : Int), .int .i64 (o : Int)] Try.func21 rfl Try.ntmps21 rfl fun a hF => ?_;have hM : Mem w w [none, none] [] := MemX.start w 2;change Fr 20 a [(0, .int .i64 (p : Int)), (1, .int .i64 (n : Int)), (2, .int .i64 (i : Int)), (3, .int .i64 (o : Int))] at hF;have hw3 := hw.2.2;have hw1 := hw.1;have hw2 := hw.2.1;refine sr <| stR hF (d_alloc 0 hM ty_ze_26) rfl ?_;rintro _ w' a ⟨b1, rfl, hM, -⟩ hF;change Mem w w' [some (b1, tenC 0 0 0 0 (.slice none 0 0)), none] [] at hM;refine ns <| mv hF rfl rfl fun a hF => mv hF rfl rfl fun a hF => mv hF rfl rfl fun a hF => mv hF rfl rfl fun a hF => mv hF rfl rfl fun a hF => mv hF rfl rfl fun a hF => mv hF rfl rfl fun a hF => st hF (g_add hF rfl rfl (add_nat (i) (o) (by omega))) rfl fun a hF => stR hF (d_call Try.call35 hF (.cons rfl (.cons rfl .nil)) ((CallsR.val (l03Power_ok (n) (i + o) _ (by omega) (by omega) (by omega)) (congrArg (fun x : Nat => Value.int .i64 (x : Int)) (pwr_le (by omega) hw.2.2))))) rfl ?_;rintro _ w' a ⟨hx, rfl⟩ hF;have hM := hM.ext hx;refine stR hF (d_make1 (len := (n) ^ (i + o)) 1 hM hF ty_si_22 rfl rfl rfl (by omega) (by decide)) rfl ?_;rintro _ w' a ⟨b3, rfl, hM, -⟩ hF;change Mem w w' [some (b1, tenC 0 0 0 0 (.slice none 0 0)), some (b3, numC ((n) ^ (i + o)) (fun _ => 0))] [] at hM;refine st hF (g_buildP hF (build5 hF rfl rfl rfl rfl rfl) (fun w => ty_bt_26 _ _ _ _ _ _ _ w)) rfl fun a hF => stN hF (d_storeAgg 0 hM rfl ty_sz_26 hF rfl rfl (tenC_one rfl) (by simp only [sz0, tenC_size, smC_size, numC_size]) (by simp only [sz0, tenC_size, smC_size, numC_size] <;> omega) (splice_whole _ _ rfl)) ?_;intro _ w' a hM hF;change Mem w w' [some (b1, tenC ((p : Int) : Int) ((n : Int) : Int) ((i : Int) : Int) ((o : Int) : Int) (.slice (some ⟨b3, 0, none⟩) ((n) ^ (i + o)) ((n) ^ (i + o)))), some (b3, numC ((n) ^ (i + o)) (fun _ => 0))] [] at hM;refine nt <| wp_ret <| fin1 rfl hF.defers (res_agg ty_ag_26 hF rfl (hM.row 0 rfl) (by simp only [sz0, tenC_size, smC_size, numC_size])) ⟨_, rfl, hM.below, ?_⟩;exact ⟨_, rfl, hM.ge 1 rfl, hM.row 1 rfl⟩
end Go.Proofs.Ytlpccepifehilaa

namespace Go.Proofs.Ytlpccepifehilaa
open Go Go.RowKit Go.Sw Go.Ech
open Classical


end Go.Proofs.Ytlpccepifehilaa
