/- What functions of the program return, as walks over their operations; no statement of the seat is proved here. -/
import Derived.Test.YtjfmachfdpmdcaaDoorK17
import Derived.Test.YtjfmachfdpmdcaaDoorSw37
set_option linter.unusedVariables false
set_option linter.unusedSimpArgs false
namespace Go.Proofs.YtjfmachfdpmdcaaDoor
open Go Go.RowKit Go.Sw Go.Ech
open Classical
def hdl (p n : Nat) (T : Nat → Nat → Nat → Nat) (G : Nat → Nat → Nat) (k l c : Nat) : Nat := (sumTo (fun a => sumTo (fun b => G a b * T a b c) n) k + sumTo (fun b => G k b * T k b c) l) % p
def klV (p n : Nat) (T : Nat → Nat → Nat → Nat) (G V : Nat → Nat → Nat) (k c : Nat) : Nat := sumTo (fun a => timesV p n T (V a) (G a) c) k % p
def apV (p : Nat) (V : Nat → Nat → Nat) (v : Nat → Nat) (k c : Nat) : Nat := sumTo (fun i => v i * V i c) k % p
theorem apV_lt {p : Nat} {V : Nat → Nat → Nat} {v : Nat → Nat} {k c : Nat} (hp : 0 < p) : apV p V v k c < p := Nat.mod_lt _ hp
theorem apV_stepM {p : Nat} {V : Nat → Nat → Nat} {v : Nat → Nat} {k : Nat} : addM p (apV p V v k) (V k) (v k) = apV p V v (k + 1) := by
  funext c
  unfold addM apV; simp only [sumTo]
  rw [Nat.add_mod, Nat.mod_mod, ← Nat.add_mod]
theorem apV_step {p : Nat} {V : Nat → Nat → Nat} {v : Nat → Nat} {k : Nat} : addN p (apV p V v k) (V k) (v k : Int) = apV p V v (k + 1) := by
  rw [← apV_stepM]; funext c; exact addN_addM
theorem basis_ok (p n : Nat) (T : Nat → Nat → Nat → Nat) (f : Nat → Nat) (w : World) (hn0 : 0 < n) (hn : n ≤ 6) :
    CallsR Tryd.prog 71 #[.agg (algC (p : Int) (n : Int) T f)] w (fun u w' => OwnSl 6 w n (fun c => .int .u8 (((fun i q => if q = i then 1 else 0) (c / 6) (c % 6) : Nat) : Int)) u w') := by
  refine calls_fr [.agg (algC (p : Int) (n : Int) T f)] Tryd.func71 rfl Tryd.ntmps71 rfl fun a hF => ?_;have hM : Mem w w [none, none, none] [] := MemX.start w 3;change Fr 17 a [(0, .agg (algC (p : Int) (n : Int) T f))] at hF;refine sr <| stR hF (d_box 0 hM hF rfl) rfl ?_;rintro _ w' a ⟨b1, rfl, hM, -⟩ hF;change Mem w w' [some (b1, algC (p : Int) (n : Int) T f), none, none] [] at hM;refine ag hF rfl rfl fun a hF => ns <| ag hF rfl rfl fun a hF => nt <| sq <| sr <| st hF (g_fieldAddr ty_fo_33_1 hF rfl) rfl fun a hF => st hF (g_load ty_on_2 hF rfl (hM.row 0 rfl) (algC_n (by omega))) rfl fun a hF => mv hF rfl rfl fun a hF => nt <| wp_block ?_;change Mem w _ [some (b1, algC (p : Int) (n : Int) T f), none, none] [] at hM;refine c_loop (fun (kk : Nat) a w' => kk ≤ n ∧ (True) ∧ ∃ (u3_1 : Value) (e3_1 : Option (Nat × Array Value)), Sl 6 u3_1 e3_1 (kk) (fun c => .int .u8 (((fun i q => if q = i then 1 else 0) (c / 6) (c % 6) : Nat) : Int)) ∧ Fr 17 a [(2, .slice none 0 0), (6, .int .i64 (n : Int)), (7, .int .i64 (kk : Int)), (3, u3_1)] ∧ Mem w w' [some (b1, algC (p : Int) (n : Int) T f), none, e3_1] []) (fun kk => n - kk) 0 ?_ ?_
  · refine ⟨by omega, trivial, (.slice none 0 0), (none), (Sl.nil 6 _), hF.sub _ (by repeat' constructor), ?_⟩
    exact hM
  clear hF hM;rintro gj a w' ⟨hgj, hinv1, u3_1, e3_1, hsl, hF, hM⟩;refine sr <| st hF (g_lss hF rfl rfl) rfl fun a hF => nt <| sq <| c_cond hF rfl (fun h2 => ?_) (fun h2 => ?_)
  · refine wp_skip ?_
    refine tN <| sq <| wp_block <| sr <| mv hF rfl rfl fun a hF => ag hF rfl rfl fun a hF => nt <| wp_region_lit <| mv hF rfl rfl fun a hF => mv hF rfl rfl fun a hF => stR hF (d_call Tryd.call89 hF (.cons rfl .nil) (basisVector_ok (gj) _ (by omega))) rfl ?_;rintro _ w' a ⟨hx, rfl⟩ hF;have hM := hM.ext hx;refine stR hF (d_buildC (vs := [(0, .agg (vecC (fun c => if c = gj then 1 else 0)))]) 1 hM hF (build1 hF rfl) (fun w => ty_bsg_75_1 (fun c => if c = gj then 1 else 0) w)) rfl ?_;rintro _ w' a ⟨b3, rfl, hM, -⟩ hF;change Mem w w' [some (b1, algC (p : Int) (n : Int) T f), some (b3, vecsC 1 (vAtL [(fun c => if c = gj then 1 else 0)])), e3_1] [] at hM;refine stR hF (d_append (k := 2) (N := gj) (m := 1) (f := (fun c => .int .u8 (((fun i q => if q = i then 1 else 0) (c / 6) (c % 6) : Nat) : Int))) (g := fun q => .int .u8 (((((fun c => if c = gj then 1 else 0)) q : Nat)) : Int)) ty_si_75 rfl (by decide) hM rfl hF rfl rfl hsl (fun q hq => ((hM.row 1 rfl).cell _).trans (vecs1_get q hq)) (fun _ _ => rfl) (by decide) (by unfold maxLen; omega) (by omega)) rfl ?_;rintro u4 w' a ⟨e5, hM, hs6⟩ hF;change Mem w w' [some (b1, algC (p : Int) (n : Int) T f), some (b3, vecsC 1 (vAtL [(fun c => if c = gj then 1 else 0)])), e5] [] at hM;refine ag hF rfl rfl fun a hF => wpList_nil <| iN <| tN <| wp_region_lit <| st hF (g_add hF rfl rfl (add_nat (gj) (1) (by omega))) rfl fun a hF => mv hF rfl rfl fun a hF => wpList_nil <| tN ?_;have hM := hM.drop 1;refine ⟨gj + 1, ⟨by omega, trivial, (u4), (e5), (Sl.snoc6 (N := gj) (F := (fun c => .int .u8 (((fun i q => if q = i then 1 else 0) (c / 6) (c % 6) : Nat) : Int))) (G := fun q => .int .u8 (((if q = gj then 1 else 0 : Nat) : Nat) : Int)) hs6 (fun q hq => by rw [show (gj * 6 + q) / 6 = gj by omega, show (gj * 6 + q) % 6 = q by omega])), hF.sub _ (by repeat' constructor), ?_⟩, by omega⟩;exact hM
  obtain rfl : n = gj := by omega
  refine wp_exit <| tX <| tX <| ib_same <| tN <| sr <| mv hF rfl rfl fun a hF => ag hF rfl rfl fun a hF => nt <| wp_ret <| fin1 rfl hF.defers (res_tmp hF rfl) ⟨_, rfl, hM.below, ?_⟩;exact OwnSl.pos hM (k := 2) rfl (hsl) hn0
end Go.Proofs.YtjfmachfdpmdcaaDoor

namespace Go.Proofs.YtjfmachfdpmdcaaDoor
open Go Go.RowKit Go.Sw Go.Ech
open Classical

end Go.Proofs.YtjfmachfdpmdcaaDoor

namespace Go.Proofs.YtjfmachfdpmdcaaDoor
open Go Go.RowKit Go.Sw Go.Ech
open Classical






end Go.Proofs.YtjfmachfdpmdcaaDoor

namespace Go.Proofs.YtjfmachfdpmdcaaDoor
open Go Go.RowKit Go.Sw Go.Ech
open Classical
end Go.Proofs.YtjfmachfdpmdcaaDoor
