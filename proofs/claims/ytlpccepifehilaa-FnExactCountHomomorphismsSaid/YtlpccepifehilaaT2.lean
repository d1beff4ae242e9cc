/- What functions of the program return, as walks over their operations; no statement of the seat is proved here. -/
import Derived.Test.YtlpccepifehilaaG12
import Derived.Test.YtlpccepifehilaaSw14
import Derived.Test.YtlpccepifehilaaEch3
import Derived.Test.YtlpccepifehilaaSw19
import Derived.Test.YtlpccepifehilaaEch5
import Derived.Test.YtlpccepifehilaaSw9
set_option linter.unusedVariables false
set_option linter.unusedSimpArgs false
namespace Go.Proofs.Ytlpccepifehilaa
open Go Go.RowKit Go.Sw Go.Ech

end Go.Proofs.Ytlpccepifehilaa

namespace Go.Proofs.Ytlpccepifehilaa
open Go Go.RowKit Go.Sw Go.Ech
def EchRel (w0 : World) (L : Own) (p N m : Nat) (M : Nat → Nat → Nat) (u : Value) (w' : World) : Prop := ∃ k E ld, Rref p N E k ld ∧ (∀ x, Ker p N E k x ↔ Ker p N M m x) ∧ (∀ i c, E i c < p) ∧ k ≤ m ∧ RowsFr w0 L N k (fun i c => .int .i64 (E i c : Int)) u w'
theorem EchRel.last {w0 w w' : World} {L : Own} {p N m : Nat} {M : Nat → Nat → Nat} {u : Value} (h : EchRel w0 L p N m M u w) (hx : Ext w w') : EchRel w0 L p N m M u w' := by
  obtain ⟨k, E, ld, h1, h2, h3, h4, h5⟩ := h;exact ⟨k, E, ld, h1, h2, h3, h4, h5.last hx⟩
theorem EchRel.of {X : List Nat} {w0 w w' : World} {L : Own} {D : Froz} {p N m : Nat} {M : Nat → Nat → Nat} {u : Value} (hM : MemX X w0 w L D) (h : ∃ k E ld, Rref p N E k ld ∧ (∀ x, Ker p N E k x ↔ Ker p N M m x) ∧ (∀ i c, E i c < p) ∧ k ≤ m ∧ RowsOut w w' N k (fun i c => .int .i64 (E i c : Int)) u) : EchRel w0 L p N m M u w' := by
  obtain ⟨k, E, ld, h1, h2, h3, h4, h5⟩ := h;exact ⟨k, E, ld, h1, h2, h3, h4, h5.fresh hM⟩
end Go.Proofs.Ytlpccepifehilaa

namespace Go.Proofs.Ytlpccepifehilaa
open Go Go.RowKit Go.Sw Go.Ech
end Go.Proofs.Ytlpccepifehilaa

namespace Go.Proofs.Ytlpccepifehilaa
open Go Go.RowKit Go.Sw Go.Ech
def mixM (p : Nat) (M : Nat → Nat → Nat) (d t : Nat) (sc : Nat → Nat) (g i : Nat) : Nat → Nat := if i < g ∧ i ≠ d then lsM p (M i) sc (M i t) else if i = d then sc else M i
def vAt (l : List Value) (i : Nat) (v : Value) : Prop := v = l.getD i undef


end Go.Proofs.Ytlpccepifehilaa

namespace Go.Proofs.Ytlpccepifehilaa
open Go Go.RowKit Go.Sw Go.Ech

end Go.Proofs.Ytlpccepifehilaa

namespace Go.Proofs.Ytlpccepifehilaa
open Go Go.RowKit Go.Sw Go.Ech
def eqG (p n : Nat) (T : Nat → Nat → Nat → Nat) (bb cc : Nat → Nat) (g r c : Nat) : Nat := if c < g then (if r < n then timesV p n T (fun x => if x = c then 1 else 0) bb r else timesV p n T bb (fun x => if x = c then 1 else 0) (r - n)) else if c = 6 then cc (r % n) else 0
def eqH (p n : Nat) (T : Nat → Nat → Nat → Nat) (bb cc : Nat → Nat) (g k r c : Nat) : Nat := if c = g ∧ (r < k ∨ (n ≤ r ∧ r < n + k)) then eqG p n T bb cc (g + 1) r c else eqG p n T bb cc g r c
end Go.Proofs.Ytlpccepifehilaa

namespace Go.Proofs.Ytlpccepifehilaa
open Go Go.RowKit Go.Sw Go.Ech
def bE (i : Nat) : Nat → Nat := fun x => if x = i then 1 else 0
def bigM (p n : Nat) (T : Nat → Nat → Nat → Nat) (r : Nat) : Nat → Nat := eqG p n T (bE (r / (2 * n))) (bE (r / (2 * n))) n (r % (2 * n))
end Go.Proofs.Ytlpccepifehilaa

namespace Go.Proofs.Ytlpccepifehilaa
open Go Go.RowKit Go.Sw Go.Ech
open Classical
theorem CallsR.val {P : Program} {f : FuncId} {args : Array Value} {w : World} {v v' : Value} (h : CallsR P f args w (fun u _ => u = v)) (e : v = v') : CallsR P f args w (fun u _ => u = v') := e ▸ h
def asS (p n : Nat) (T : Nat → Nat → Nat → Nat) : Prop := ∀ i, i < n → ∀ j, j < n → ∀ k, k < n → eqV 6 (timesS p n T (T i j) (fun c => if c = k then 1 else 0)) (timesS p n T (fun c => if c = i then 1 else 0) (T j k))
def AlgN (p n : Nat) (T : Nat → Nat → Nat → Nat) : Prop := asS p n T ∧ ∃ u, UnitI p n T u
def trunc (n : Nat) (T : Nat → Nat → Nat → Nat) (i j k : Nat) : Nat := if i < n ∧ j < n ∧ k < n then T i j k else 0
def AlgP (p n : Int) (T : Nat → Nat → Nat → Nat) (f : Nat → Nat) : Prop := shapeP p n T f ∧ AlgN p.toNat n.toNat (trunc n.toNat T)
end Go.Proofs.Ytlpccepifehilaa

namespace Go.Proofs.Ytlpccepifehilaa
open Go Go.RowKit Go.Sw Go.Ech
open Classical
def CodeP (p n : Int) (T : Nat → Nat → Nat → Nat) (f : Nat → Nat) (m : Nat) (V : Nat → Nat → Nat) : Prop := AlgP p n T f ∧ ∀ i, i < m → okV p n (V i)
end Go.Proofs.Ytlpccepifehilaa

namespace Go.Proofs.Ytlpccepifehilaa
open Go Go.RowKit Go.Sw Go.Ech
open Classical
end Go.Proofs.Ytlpccepifehilaa

namespace Go.Proofs.Ytlpccepifehilaa
open Go Go.RowKit Go.Sw Go.Ech
open Classical
def trT (T : Nat → Nat → Nat → Nat) (i j k : Nat) : Nat := T j i k



def comP (T : Nat → Nat → Nat → Nat) : Prop := ∀ i, i < 6 → ∀ j, j < i → eqV 6 (T i j) (T j i)
end Go.Proofs.Ytlpccepifehilaa

namespace Go.Proofs.Ytlpccepifehilaa
open Go Go.RowKit Go.Sw Go.Ech
open Classical

end Go.Proofs.Ytlpccepifehilaa

namespace Go.Proofs.Ytlpccepifehilaa
open Go Go.RowKit Go.Sw Go.Ech
open Classical
def powW (mul : (Nat → Nat) → (Nat → Nat) → Nat → Nat) (u v : Nat → Nat) : Nat → Nat → Nat
  | 0 => u
  | k + 1 => mul (powW mul u v k) v
end Go.Proofs.Ytlpccepifehilaa

namespace Go.Proofs.Ytlpccepifehilaa
open Go Go.RowKit Go.Sw Go.Ech
open Classical

end Go.Proofs.Ytlpccepifehilaa

namespace Go.Proofs.Ytlpccepifehilaa
open Go Go.RowKit Go.Sw Go.Ech
open Classical
def formM (p n : Nat) (T : Nat → Nat → Nat → Nat) (f : Nat → Nat) (i c : Nat) : Nat := if c < n then sumTo (fun k => T i c k * f k) 6 % p else 0
def FrobN (p n : Nat) (T : Nat → Nat → Nat → Nat) (f : Nat → Nat) : Prop := ∃ E ld, Rref p 6 E n ld ∧ ∀ x, Ker p 6 E n x ↔ Ker p 6 (formM p n T f) n x
end Go.Proofs.Ytlpccepifehilaa

namespace Go.Proofs.Ytlpccepifehilaa
open Go Go.RowKit Go.Sw Go.Ech
open Classical

end Go.Proofs.Ytlpccepifehilaa

namespace Go.Proofs.Ytlpccepifehilaa
open Go Go.RowKit Go.Sw Go.Ech
open Classical





end Go.Proofs.Ytlpccepifehilaa

namespace Go.Proofs.Ytlpccepifehilaa
open Go Go.RowKit Go.Sw Go.Ech
open Classical
theorem ty_si_22 : slI Try.prog 22 = some (2, some (.int .i64 (0)), 1, 8) := by kernel_rfl
theorem countChoices_ok (n l : Nat) (w : World) (hn : n ≤ 6) (hl : l ≤ 16) :
    CallsR Try.prog 38 #[.int .i64 (n : Int), .int .i64 (l : Int)] w (fun res _ => res = .int .i64 ((n ^ l : Nat) : Int)) := by
  refine calls_fr [.int .i64 (n : Int), .int .i64 (l : Int)] Try.func38 rfl Try.ntmps38 rfl fun a hF => ?_;have hM : Mem w w [] [] := MemX.start w 0;change Fr 14 a [(0, .int .i64 (n : Int)), (1, .int .i64 (l : Int))] at hF;refine sr <| ag hF rfl rfl fun a hF => ns <| ag hF rfl rfl fun a hF => nt <| sq <| sr <| mv hF rfl rfl fun a hF => mv hF rfl rfl fun a hF => nt <| wp_block ?_;change Mem w _ [] [] at hM;refine c_loop (fun (kk : Nat) a w' => kk ≤ l ∧ (True) ∧ Fr 14 a [(0, .int .i64 (n : Int)), (4, .int .i64 (0)), (6, .int .i64 (l : Int)), (7, .int .i64 (kk : Int)), (5, .int .i64 (((n ^ kk : Nat) : Int)))] ∧ Mem w w' [] []) (fun kk => l - kk) 0 ?_ ?_
  · refine ⟨by omega, trivial, hF.sub _ (by repeat' constructor), ?_⟩
    exact hM
  clear hF hM;rintro gk a w' ⟨hgk, hinv1, hF, hM⟩;refine sr <| st hF (g_lss hF rfl rfl) rfl fun a hF => nt <| sq <| c_cond hF rfl (fun h1 => ?_) (fun h1 => ?_)
  · refine wp_skip ?_
    refine tN <| sq <| wp_block <| wp_region_lit <| mv hF rfl rfl fun a hF => mv hF rfl rfl fun a hF => st hF (g_mul hF rfl rfl (show _ = ((n ^ (gk + 1) : Nat) : Int) from (by have hb := pow_bd hn (show gk + 1 ≤ 16 by omega); rw [Nat.pow_succ] at hb ⊢; exact mul_nat (n ^ gk) n (by omega)))) rfl fun a hF => ag hF rfl rfl fun a hF => wpList_nil <| iN <| tN <| wp_region_lit <| st hF (g_add hF rfl rfl (add_nat (gk) (1) (by omega))) rfl fun a hF => mv hF rfl rfl fun a hF => nt <| ⟨gk + 1, ⟨by omega, trivial, hF.sub _ (by repeat' constructor), ?_⟩, by omega⟩;exact hM
  obtain rfl : l = gk := by omega
  refine wp_exit <| tX <| tX <| ib_same <| tN <| sr <| mv hF rfl rfl fun a hF => ag hF rfl rfl fun a hF => nt <| wp_ret <| fin1 rfl hF.defers (res_tmp hF rfl) ⟨_, rfl, hM.below, ?_⟩
  show _ = _
  rfl
end Go.Proofs.Ytlpccepifehilaa

namespace Go.Proofs.Ytlpccepifehilaa
open Go Go.RowKit Go.Sw Go.Ech
open Classical


end Go.Proofs.Ytlpccepifehilaa
