/- What functions of the program return, as walks over their operations; no statement of the seat is proved here. -/
import Derived.Test.YtjfmachfdpmdcaaDoorP8
import Derived.Test.YtjfmachfdpmdcaaDoorSw46
import Derived.Test.YtjfmachfdpmdcaaDoorSw69
set_option linter.unusedVariables false
set_option linter.unusedSimpArgs false
namespace Go.Proofs.YtjfmachfdpmdcaaDoor
open Go Go.RowKit Go.Sw Go.Ech
open Classical
theorem ty_um_114 : Tryd.prog.underlying 114 = some (.map 33 4) := by kernel_rfl
theorem ty_ze_4 : zeroP Tryd.prog 4 = some (.bool (false)) := by kernel_rfl
theorem keyAlg : WideMaps.KeyLaw Tryd.prog 33 := deep_law (m := 8) (by decide) (by kernel_rfl) (by kernel_rfl) (by kernel_rfl)
theorem keyLeafs : leafs Tryd.prog (Tryd.prog.types.size + 1) 33 (.i64 :: .i64 :: List.replicate 222 .u8) = true := by kernel_rfl
theorem keyType32 : Tryd.prog.keyType 33 = true := by kernel_rfl
theorem keyCells : Tryd.prog.cellsOf 33 = 224 := by kernel_rfl
theorem keyWide : wideB Tryd.prog 33 = true := by kernel_rfl
theorem keyLit {p n : Nat} {T : Nat → Nat → Nat → Nat} {f : Nat → Nat} (hp : p < 1000) (hn : n < 1000) (hT : ∀ i j k, T i j k ≤ 255) (hf : ∀ i, f i ≤ 255) : ∃ l, keyOf Tryd.prog 33 (.agg (algC (p : Int) (n : Int) T f)) = some l :=
  keyOf_leafs keyWide keyType32 keyLeafs (by rw [keyCells, List.length_cons, List.length_cons, List.length_replicate]) (leafy_alg (by omega) (by omega) hT hf)
theorem keyEq {p n : Int} {T : Nat → Nat → Nat → Nat} {f : Nat → Nat} : Value.agg (algC p n T f) = Value.agg (algC p n (trT T) f) ↔ eqT T (trT T) := by
  constructor
  · intro h i hi j hj k hk
    have h1 := congrArg (fun v : Value => match v with | .agg c => c[2 + i * 36 + j * 6 + k]? | _ => none) h
    dsimp only at h1
    rw [algC_T i j k rfl hi hj hk, algC_T i j k rfl hi hj hk] at h1;have h2 := Option.some.inj h1
    injection h2 with _ h3
    exact Int.ofNat.inj h3
  · intro h
    exact congrArg Value.agg (algC_congr fun i hi j hj k hk => h i hi j hj k hk)
theorem gives_ite {P : Program} {q : Prop} [Decidable q] {o : Oper} {a : Act} {w : World} (h : Gives P o a w (if q then .bool true else .bool false)) : Gives P o a w (.bool (decide q)) := by
  by_cases e : q
  · rw [if_pos e] at h; rw [decide_eq_true e]; exact h
  · rw [if_neg e] at h; rw [decide_eq_false e]; exact h
def foldW (mul : (Nat → Nat) → (Nat → Nat) → Nat → Nat) (u : Nat → Nat) (V : Nat → Nat → Nat) : Nat → Nat → Nat
  | 0 => u
  | k + 1 => mul (foldW mul u V k) (V k)
theorem isOwnOpposite_ok (p n : Nat) (T : Nat → Nat → Nat → Nat) (f : Nat → Nat) (w : World) (hp2 : p < 1000) (hn2 : n < 1000) (hT : ∀ i j k, T i j k ≤ 255) (hf : ∀ i, f i ≤ 255) :
    CallsR Tryd.prog 108 #[.agg (algC (p : Int) (n : Int) T f)] w (fun res _ => res = .bool (decide (eqT T (trT T)))) := by
  refine calls_fr [.agg (algC (p : Int) (n : Int) T f)] Tryd.func108 rfl Tryd.ntmps108 rfl fun a hF => ?_;have hM : Mem w w [none] [] := MemX.start w 1;change Fr 11 a [(0, .agg (algC (p : Int) (n : Int) T f))] at hF;refine sr <| stR hF (d_box 0 hM hF rfl) rfl ?_;rintro _ w' a ⟨b1, rfl, hM, -⟩ hF;refine ag hF rfl rfl fun a hF => ns <| stR hF (d_makeMap hM) rfl ?_;rintro _ w' a ⟨bm2, rfl, hM, hgebm2, hisbm2⟩ hF;change Mem w w' [some (b1, algC (p : Int) (n : Int) T f)] [] at hM;refine st hF (g_loadAgg ty_ag_33 hF rfl (hM.row 0 rfl) (by simp only [sz0, mrk_size] <;> omega) (whole cells_size)) rfl fun a hF => ?_;obtain ⟨lkbm2, hlkbm2⟩ := keyLit (p := p) (n := n) (T := T) (f := f) (by omega) (by omega) hT hf;refine stN hF (d_insert keyAlg ty_um_114 hM hisbm2 hgebm2 hF rfl rfl rfl hlkbm2) ?_;rintro _ w' a ⟨hM, hisbm2⟩ hF;change Mem w w' [some (b1, algC (p : Int) (n : Int) T f)] [] at hM;refine mv hF rfl rfl fun a hF => ag hF rfl rfl fun a hF => ns <| mv hF rfl rfl fun a hF => st hF (g_loadAgg ty_ag_33 hF rfl (hM.row 0 rfl) (by simp only [sz0, mrk_size] <;> omega) (whole cells_size)) rfl fun a hF => stR hF (d_call Tryd.call88 hF (.cons rfl .nil) (oppositeTo_ok (p : Int) (n : Int) T f _)) rfl ?_;rintro _ w' a ⟨hx, rfl⟩ hF;have hM := hM.ext hx;have hisbm2 := hisbm2.ext hx;refine st hF (gives_ite (g_lookup1 (p := eqT T (trT T)) (z0 := .bool (false)) keyAlg ty_um_114 ty_ze_4 hisbm2 hF rfl rfl (keyLit (by omega) (by omega) (fun i j k => hT j i k) hf).choose_spec hlkbm2 keyEq)) rfl fun a hF => ag hF rfl rfl fun a hF => nt <| wp_ret <| fin1 rfl hF.defers (res_tmp hF rfl) ⟨_, rfl, hM.below, ?_⟩
  show _ = _
  rfl
theorem form_comm {p : Nat} {f v : Nat → Nat} : sumTo (fun i => f i * v i) 6 % p = sumTo (fun i => v i * f i) 6 % p := by
  rw [show (fun i => f i * v i) = (fun i => v i * f i) from funext fun i => Nat.mul_comm _ _]
end Go.Proofs.YtjfmachfdpmdcaaDoor

namespace Go.Proofs.YtjfmachfdpmdcaaDoor
open Go Go.RowKit Go.Sw Go.Ech
open Classical

end Go.Proofs.YtjfmachfdpmdcaaDoor

namespace Go.Proofs.YtjfmachfdpmdcaaDoor
open Go Go.RowKit Go.Sw Go.Ech
open Classical



def ListP (p n : Int) (m : Nat) (Z : Nat → Nat → Nat) : Prop := (m : Int) = n ∧ ∀ i, i < m → okV p n (Z i)













end Go.Proofs.YtjfmachfdpmdcaaDoor

namespace Go.Proofs.YtjfmachfdpmdcaaDoor
open Go Go.RowKit Go.Sw Go.Ech
open Classical
def starS (p n : Nat) (T : Nat → Nat → Nat → Nat) (f : Nat → Nat) (Z : Nat → Nat → Nat) (i : Nat) : Prop := eqV 6 (apV p Z (Z i) n) (fun c => if c = i then 1 else 0) ∧ sumTo (fun c => (Z i) c * f c) 6 % p = f i ∧ ∀ j, j < n → eqV 6 (apV p Z (T i j) n) (timesV p n T (Z j) (Z i))
def StarP (p n : Nat) (T : Nat → Nat → Nat → Nat) (f : Nat → Nat) (Z : Nat → Nat → Nat) : Prop := ∀ i, i < n → starS p n T f Z i



end Go.Proofs.YtjfmachfdpmdcaaDoor

namespace Go.Proofs.YtjfmachfdpmdcaaDoor
open Go Go.RowKit Go.Sw Go.Ech
open Classical
def XT (p n : Nat) (T : Nat → Nat → Nat → Nat) (Z : Nat → Nat → Nat) (a b c : Nat) : Nat := timesV p n T (Z a) (fun c => if c = b then 1 else 0) c
def CrossP (p n : Nat) (T : Nat → Nat → Nat → Nat) (Z : Nat → Nat → Nat) (t kl : Nat → Nat) : Prop := eqV 6 (timesV p n T t t) kl ∧ ∀ i, i < n → eqV 6 (apV p Z (timesV p n T t (fun c => if c = i then 1 else 0)) n) (timesV p n T t (fun c => if c = i then 1 else 0))


















end Go.Proofs.YtjfmachfdpmdcaaDoor
