/- What functions of the program return, as walks over their operations; no statement of the seat is proved here. -/
import Derived.Test.YtjfmachfdpmdcaaK17
import Derived.Test.YtjfmachfdpmdcaaSw37
import Derived.Test.YtjfmachfdpmdcaaSw46
import Derived.Test.YtjfmachfdpmdcaaSw69
set_option linter.unusedVariables false
set_option linter.unusedSimpArgs false
namespace Go.Proofs.Ytjfmachfdpmdcaa
open Go Go.RowKit Go.Sw Go.Ech
open Classical
theorem ty_bsg_50_1 : ∀ (v0 : Nat → Nat) (w : World), (Instr.buildSlice 50 1 #[(0, .agg (vecC v0))]).run Try.prog w = .ok (.slice (some ⟨w.heap.size, 0, none⟩) 1 1) (w.alloc (.cells (vecsC 1 (vAtL [v0])) 30)) := by intros; kernel_rfl
theorem ty_si_50 : slI Try.prog 50 = some (30, some (.agg (fnC 6 (fun _ => .int .u8 (0)))), 6, 6) := by kernel_rfl
theorem ty_sz_5 : sizeP Try.prog 5 = some 1 := by kernel_rfl
def hdl (p n : Nat) (T : Nat → Nat → Nat → Nat) (G : Nat → Nat → Nat) (k l c : Nat) : Nat := (sumTo (fun a => sumTo (fun b => G a b * T a b c) n) k + sumTo (fun b => G k b * T k b c) l) % p
def klV (p n : Nat) (T : Nat → Nat → Nat → Nat) (G V : Nat → Nat → Nat) (k c : Nat) : Nat := sumTo (fun a => timesV p n T (V a) (G a) c) k % p
def apV (p : Nat) (V : Nat → Nat → Nat) (v : Nat → Nat) (k c : Nat) : Nat := sumTo (fun i => v i * V i c) k % p
theorem apV_lt {p : Nat} {V : Nat → Nat → Nat} {v : Nat → Nat} {k c : Nat} (hp : 0 < p) : apV p V v k c < p := Nat.mod_lt _ hp
theorem apV_stepM {p : Nat} {V : Nat → Nat → Nat} {v : Nat → Nat} {k : Nat} : addM p (apV p V v k) (V k) (v k) = apV p V v (k + 1) := by
  funext c
  unfold addM apV; simp only [sumTo]
  rw [Nat.add_mod, Nat.mod_mod, ← Nat.add_mod]
theorem apV_step {p : Nat} {V : Nat → Nat → Nat} {v : Nat → Nat} {k : Nat} : addN p (apV p V v k) (V k) (v k : Int) = apV p V v (k + 1) := by
  rw [← apV_stepM]; funext c; exact addN_addM
theorem basis_ok (p n : Nat) (T : Nat → Nat → Nat → Nat) (f : Nat → Nat) (w : World) (hn0 : 0 < n) (hn : n ≤ 6) :
    CallsR Try.prog 44 #[.agg (algC (p : Int) (n : Int) T f)] w (fun u w' => OwnSl 6 w n (fun c => .int .u8 (((fun i q => if q = i then 1 else 0) (c / 6) (c % 6) : Nat) : Int)) u w') := by
  refine calls_fr [.agg (algC (p : Int) (n : Int) T f)] Try.func44 rfl Try.ntmps44 rfl fun a hF => ?_;have hM : Mem w w [none, none, none] [] := MemX.start w 3;change Fr 17 a [(0, .agg (algC (p : Int) (n : Int) T f))] at hF;refine sr <| stR hF (d_box 0 hM hF rfl) rfl ?_;rintro _ w' a ⟨b1, rfl, hM, -⟩ hF;change Mem w w' [some (b1, algC (p : Int) (n : Int) T f), none, none] [] at hM;refine ag hF rfl rfl fun a hF => ns <| ag hF rfl rfl fun a hF => nt <| sq <| sr <| st hF (g_fieldAddr ty_fo_32_1 hF rfl) rfl fun a hF => st hF (g_load ty_on_2 hF rfl (hM.row 0 rfl) (algC_n (by omega))) rfl fun a hF => mv hF rfl rfl fun a hF => nt <| wp_block ?_;change Mem w _ [some (b1, algC (p : Int) (n : Int) T f), none, none] [] at hM;refine c_loop (fun (kk : Nat) a w' => kk ≤ n ∧ (True) ∧ ∃ (u3_1 : Value) (e3_1 : Option (Nat × Array Value)), Sl 6 u3_1 e3_1 (kk) (fun c => .int .u8 (((fun i q => if q = i then 1 else 0) (c / 6) (c % 6) : Nat) : Int)) ∧ Fr 17 a [(2, .slice none 0 0), (6, .int .i64 (n : Int)), (7, .int .i64 (kk : Int)), (3, u3_1)] ∧ Mem w w' [some (b1, algC (p : Int) (n : Int) T f), none, e3_1] []) (fun kk => n - kk) 0 ?_ ?_
  · refine ⟨by omega, trivial, (.slice none 0 0), (none), (Sl.nil 6 _), hF.sub _ (by repeat' constructor), ?_⟩
    exact hM
  clear hF hM;rintro gj a w' ⟨hgj, hinv1, u3_1, e3_1, hsl, hF, hM⟩;refine sr <| st hF (g_lss hF rfl rfl) rfl fun a hF => nt <| sq <| c_cond hF rfl (fun h2 => ?_) (fun h2 => ?_)
  · refine wp_skip ?_
    refine tN <| sq <| wp_block <| sr <| mv hF rfl rfl fun a hF => ag hF rfl rfl fun a hF => nt <| wp_region_lit <| mv hF rfl rfl fun a hF => mv hF rfl rfl fun a hF => stR hF (d_call Try.call47 hF (.cons rfl .nil) (basisVector_ok (gj) _ (by omega))) rfl ?_;rintro _ w' a ⟨hx, rfl⟩ hF;have hM := hM.ext hx;refine stR hF (d_buildC (vs := [(0, .agg (vecC (fun c => if c = gj then 1 else 0)))]) 1 hM hF (build1 hF rfl) (fun w => ty_bsg_50_1 (fun c => if c = gj then 1 else 0) w)) rfl ?_;rintro _ w' a ⟨b3, rfl, hM, -⟩ hF;change Mem w w' [some (b1, algC (p : Int) (n : Int) T f), some (b3, vecsC 1 (vAtL [(fun c => if c = gj then 1 else 0)])), e3_1] [] at hM;refine stR hF (d_append (k := 2) (N := gj) (m := 1) (f := (fun c => .int .u8 (((fun i q => if q = i then 1 else 0) (c / 6) (c % 6) : Nat) : Int))) (g := fun q => .int .u8 (((((fun c => if c = gj then 1 else 0)) q : Nat)) : Int)) ty_si_50 rfl (by decide) hM rfl hF rfl rfl hsl (fun q hq => ((hM.row 1 rfl).cell _).trans (vecs1_get q hq)) (fun _ _ => rfl) (by decide) (by unfold maxLen; omega) (by omega)) rfl ?_;rintro u4 w' a ⟨e5, hM, hs6⟩ hF;change Mem w w' [some (b1, algC (p : Int) (n : Int) T f), some (b3, vecsC 1 (vAtL [(fun c => if c = gj then 1 else 0)])), e5] [] at hM;refine ag hF rfl rfl fun a hF => wpList_nil <| iN <| tN <| wp_region_lit <| st hF (g_add hF rfl rfl (add_nat (gj) (1) (by omega))) rfl fun a hF => mv hF rfl rfl fun a hF => wpList_nil <| tN ?_;have hM := hM.drop 1;refine ⟨gj + 1, ⟨by omega, trivial, (u4), (e5), (Sl.snoc6 (N := gj) (F := (fun c => .int .u8 (((fun i q => if q = i then 1 else 0) (c / 6) (c % 6) : Nat) : Int))) (G := fun q => .int .u8 (((if q = gj then 1 else 0 : Nat) : Nat) : Int)) hs6 (fun q hq => by rw [show (gj * 6 + q) / 6 = gj by omega, show (gj * 6 + q) % 6 = q by omega])), hF.sub _ (by repeat' constructor), ?_⟩, by omega⟩;exact hM
  obtain rfl : n = gj := by omega
  refine wp_exit <| tX <| tX <| ib_same <| tN <| sr <| mv hF rfl rfl fun a hF => ag hF rfl rfl fun a hF => nt <| wp_ret <| fin1 rfl hF.defers (res_tmp hF rfl) ⟨_, rfl, hM.below, ?_⟩;exact OwnSl.pos hM (k := 2) rfl (hsl) hn0
end Go.Proofs.Ytjfmachfdpmdcaa

namespace Go.Proofs.Ytjfmachfdpmdcaa
open Go Go.RowKit Go.Sw Go.Ech
open Classical

end Go.Proofs.Ytjfmachfdpmdcaa

namespace Go.Proofs.Ytjfmachfdpmdcaa
open Go Go.RowKit Go.Sw Go.Ech
open Classical






end Go.Proofs.Ytjfmachfdpmdcaa

namespace Go.Proofs.Ytjfmachfdpmdcaa
open Go Go.RowKit Go.Sw Go.Ech
open Classical

end Go.Proofs.Ytjfmachfdpmdcaa

namespace Go.Proofs.Ytjfmachfdpmdcaa
open Go Go.RowKit Go.Sw Go.Ech
open Classical
theorem ty_um_63 : Try.prog.underlying 63 = some (.map 32 4) := by kernel_rfl
theorem ty_ze_4 : zeroP Try.prog 4 = some (.bool (false)) := by kernel_rfl
theorem keyAlg : WideMaps.KeyLaw Try.prog 32 := deep_law (m := 8) (by decide) (by kernel_rfl) (by kernel_rfl) (by kernel_rfl)
theorem keyLeafs : leafs Try.prog (Try.prog.types.size + 1) 32 (.i64 :: .i64 :: List.replicate 222 .u8) = true := by kernel_rfl
theorem keyType32 : Try.prog.keyType 32 = true := by kernel_rfl
theorem keyCells : Try.prog.cellsOf 32 = 224 := by kernel_rfl
theorem keyWide : wideB Try.prog 32 = true := by kernel_rfl
theorem keyLit {p n : Nat} {T : Nat → Nat → Nat → Nat} {f : Nat → Nat} (hp : p < 1000) (hn : n < 1000) (hT : ∀ i j k, T i j k ≤ 255) (hf : ∀ i, f i ≤ 255) : ∃ l, keyOf Try.prog 32 (.agg (algC (p : Int) (n : Int) T f)) = some l :=
  keyOf_leafs keyWide keyType32 keyLeafs (by rw [keyCells, List.length_cons, List.length_cons, List.length_replicate]) (leafy_alg (by omega) (by omega) hT hf)
theorem keyEq {p n : Int} {T : Nat → Nat → Nat → Nat} {f : Nat → Nat} : Value.agg (algC p n T f) = Value.agg (algC p n (trT T) f) ↔ eqT T (trT T) := by
  constructor
  · intro h i hi j hj k hk
    have h1 := congrArg (fun v : Value => match v with | .agg c => c[2 + i * 36 + j * 6 + k]? | _ => none) h
    dsimp only at h1
    rw [algC_T i j k rfl hi hj hk, algC_T i j k rfl hi hj hk] at h1;have h2 := Option.some.inj h1
    injection h2 with _ h3
    exact Int.ofNat.inj h3
  · intro h
    exact congrArg Value.agg (algC_congr fun i hi j hj k hk => h i hi j hj k hk)
theorem gives_ite {P : Program} {q : Prop} [Decidable q] {o : Oper} {a : Act} {w : World} (h : Gives P o a w (if q then .bool true else .bool false)) : Gives P o a w (.bool (decide q)) := by
  by_cases e : q
  · rw [if_pos e] at h; rw [decide_eq_true e]; exact h
  · rw [if_neg e] at h; rw [decide_eq_false e]; exact h
def foldW (mul : (Nat → Nat) → (Nat → Nat) → Nat → Nat) (u : Nat → Nat) (V : Nat → Nat → Nat) : Nat → Nat → Nat
  | 0 => u
  | k + 1 => mul (foldW mul u V k) (V k)
theorem isOwnOpposite_ok (p n : Nat) (T : Nat → Nat → Nat → Nat) (f : Nat → Nat) (w : World) (hp2 : p < 1000) (hn2 : n < 1000) (hT : ∀ i j k, T i j k ≤ 255) (hf : ∀ i, f i ≤ 255) :
    CallsR Try.prog 25 #[.agg (algC (p : Int) (n : Int) T f)] w (fun res _ => res = .bool (decide (eqT T (trT T)))) := by
  refine calls_fr [.agg (algC (p : Int) (n : Int) T f)] Try.func25 rfl Try.ntmps25 rfl fun a hF => ?_;have hM : Mem w w [none] [] := MemX.start w 1;change Fr 11 a [(0, .agg (algC (p : Int) (n : Int) T f))] at hF;refine sr <| stR hF (d_box 0 hM hF rfl) rfl ?_;rintro _ w' a ⟨b1, rfl, hM, -⟩ hF;refine ag hF rfl rfl fun a hF => ns <| stR hF (d_makeMap hM) rfl ?_;rintro _ w' a ⟨bm2, rfl, hM, hgebm2, hisbm2⟩ hF;change Mem w w' [some (b1, algC (p : Int) (n : Int) T f)] [] at hM;refine st hF (g_loadAgg ty_ag_32 hF rfl (hM.row 0 rfl) (by simp only [sz0, mrk_size] <;> omega) (whole cells_size)) rfl fun a hF => ?_;obtain ⟨lkbm2, hlkbm2⟩ := keyLit (p := p) (n := n) (T := T) (f := f) (by omega) (by omega) hT hf;refine stN hF (d_insert keyAlg ty_um_63 hM hisbm2 hgebm2 hF rfl rfl rfl hlkbm2) ?_;rintro _ w' a ⟨hM, hisbm2⟩ hF;change Mem w w' [some (b1, algC (p : Int) (n : Int) T f)] [] at hM;refine mv hF rfl rfl fun a hF => ag hF rfl rfl fun a hF => ns <| mv hF rfl rfl fun a hF => st hF (g_loadAgg ty_ag_32 hF rfl (hM.row 0 rfl) (by simp only [sz0, mrk_size] <;> omega) (whole cells_size)) rfl fun a hF => stR hF (d_call Try.call42 hF (.cons rfl .nil) (oppositeTo_ok (p : Int) (n : Int) T f _)) rfl ?_;rintro _ w' a ⟨hx, rfl⟩ hF;have hM := hM.ext hx;have hisbm2 := hisbm2.ext hx;refine st hF (gives_ite (g_lookup1 (p := eqT T (trT T)) (z0 := .bool (false)) keyAlg ty_um_63 ty_ze_4 hisbm2 hF rfl rfl (keyLit (by omega) (by omega) (fun i j k => hT j i k) hf).choose_spec hlkbm2 keyEq)) rfl fun a hF => ag hF rfl rfl fun a hF => nt <| wp_ret <| fin1 rfl hF.defers (res_tmp hF rfl) ⟨_, rfl, hM.below, ?_⟩
  show _ = _
  rfl
end Go.Proofs.Ytjfmachfdpmdcaa

namespace Go.Proofs.Ytjfmachfdpmdcaa
open Go Go.RowKit Go.Sw Go.Ech
open Classical

end Go.Proofs.Ytjfmachfdpmdcaa

namespace Go.Proofs.Ytjfmachfdpmdcaa
open Go Go.RowKit Go.Sw Go.Ech
open Classical



def ListP (p n : Int) (m : Nat) (Z : Nat → Nat → Nat) : Prop := (m : Int) = n ∧ ∀ i, i < m → okV p n (Z i)













end Go.Proofs.Ytjfmachfdpmdcaa

namespace Go.Proofs.Ytjfmachfdpmdcaa
open Go Go.RowKit Go.Sw Go.Ech
open Classical
def starS (p n : Nat) (T : Nat → Nat → Nat → Nat) (f : Nat → Nat) (Z : Nat → Nat → Nat) (i : Nat) : Prop := eqV 6 (apV p Z (Z i) n) (fun c => if c = i then 1 else 0) ∧ sumTo (fun c => (Z i) c * f c) 6 % p = f i ∧ ∀ j, j < n → eqV 6 (apV p Z (T i j) n) (timesV p n T (Z j) (Z i))
def StarP (p n : Nat) (T : Nat → Nat → Nat → Nat) (f : Nat → Nat) (Z : Nat → Nat → Nat) : Prop := ∀ i, i < n → starS p n T f Z i



end Go.Proofs.Ytjfmachfdpmdcaa

namespace Go.Proofs.Ytjfmachfdpmdcaa
open Go Go.RowKit Go.Sw Go.Ech
open Classical
def XT (p n : Nat) (T : Nat → Nat → Nat → Nat) (Z : Nat → Nat → Nat) (a b c : Nat) : Nat := timesV p n T (Z a) (fun c => if c = b then 1 else 0) c
def CrossP (p n : Nat) (T : Nat → Nat → Nat → Nat) (Z : Nat → Nat → Nat) (t kl : Nat → Nat) : Prop := eqV 6 (timesV p n T t t) kl ∧ ∀ i, i < n → eqV 6 (apV p Z (timesV p n T t (fun c => if c = i then 1 else 0)) n) (timesV p n T t (fun c => if c = i then 1 else 0))


















end Go.Proofs.Ytjfmachfdpmdcaa
