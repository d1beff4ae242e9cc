/- What functions of the program return, as walks over their operations; no statement of the seat is proved here. -/
import Derived.Test.YtnedojhanlhjkaaN5
import Derived.Test.YtnedojhanlhjkaaSw45
set_option linter.unusedVariables false
set_option linter.unusedSimpArgs false
namespace Go.Proofs.Ytnedojhanlhjkaa
open Go Go.RowKit Go.Sw Go.Ech
open Classical
theorem ty_bf_25_13_214 : ∀ w, (Instr.build 25 #[(0, .int .u8 (1)), (1, .int .u8 (1))]).run Try.prog w = .ok (.agg (vecC (fun c => if c = 0 then 1 else if c = 1 then 1 else 0))) w := by intros; kernel_rfl
def pmP (i j : Nat) : Int := (pmV i j : Int)
theorem NamedI_P (s : ByteArray) (p : Int) (w : World) (hP : primeP p) (nF : ¬ (s : ByteArray).toList = (⟨#[102, 105, 101, 108, 100]⟩ : ByteArray).toList) (nD : ¬ (s : ByteArray).toList = (⟨#[100, 117, 97, 108]⟩ : ByteArray).toList) (nP : (s : ByteArray).toList = (⟨#[112, 97, 105, 114]⟩ : ByteArray).toList) :
    CallsR Try.prog 13 #[.string (s), .int .i64 (p)] w (fun res _ => res = .tuple #[.agg (algC p ((2 : Nat) : Int) (pTp pairP 2 2 0) (fun c => if c = 0 then 1 else if c = 1 then 1 else 0)), .int .i64 0]) := by
  refine calls_fr [.string (s), .int .i64 (p)] Try.func13 rfl Try.ntmps13 rfl fun a hF => ?_;have hM : Mem w w [none] [] := MemX.start w 1;change Fr 44 a [(0, .string (s)), (1, .int .i64 (p))] at hF;refine sr <| stR hF (d_alloc 0 hM ty_ze_27) rfl ?_;rintro _ w' a ⟨b1, rfl, hM, -⟩ hF;change Mem w w' [some (b1, algC 0 0 (fun _ _ _ => 0) (fun _ => 0))] [] at hM;refine ag hF rfl rfl fun a hF => nt <| sq <| sr <| mv hF rfl rfl fun a hF => stR hF (d_call Try.call25 hF (.cons rfl .nil) (isPrime_ok (p) _)) rfl ?_;rintro _ w' a ⟨hx, rfl⟩ hF;have hM := hM.ext hx;refine st hF (g_notP hF rfl) rfl fun a hF => nt <| c_cond hF rfl (fun h2 => ?_) (fun h2 => ?_)
  · first | contradiction | exact absurd (by assumption) hP | exact absurd hP (by assumption) | exact absurd hP (Decidable.not_not.1 (by assumption))
  refine wp_skip <| tN <| sq <| sr <| mv hF rfl rfl fun a hF => nt <| wp_block <| sr <| st hF (g_eqlS hF rfl rfl) rfl fun a hF => ag hF rfl rfl fun a hF => nt <| c_cond hF rfl (fun h3 => ?_) (fun h3 => ?_)
  · first | contradiction | exact absurd (by assumption) hP | exact absurd hP (by assumption) | exact absurd hP (Decidable.not_not.1 (by assumption))
  refine sr <| st hF (g_eqlS hF rfl rfl) rfl fun a hF => ag hF rfl rfl fun a hF => nt <| c_cond hF rfl (fun h4 => ?_) (fun h4 => ?_)
  · first | contradiction | exact absurd (by assumption) hP | exact absurd hP (by assumption) | exact absurd hP (Decidable.not_not.1 (by assumption))
  refine sr <| st hF (g_eqlS hF rfl rfl) rfl fun a hF => ag hF rfl rfl fun a hF => nt <| c_cond hF rfl (fun h5 => ?_) (fun h5 => ?_)
  · refine sq ?_
    refine wp_region_lit <| mv hF rfl rfl fun a hF => st hF (g_buildP hF (build2 hF rfl rfl) ty_bf_25_13_214) rfl fun a hF => stR hF (d_call Try.call26 hF (.cons rfl (.cons rfl (.cons rfl (.cons rfl .nil)))) (algebraOfPlaces_ok (p) 2 (fun c => if c = 0 then 1 else if c = 1 then 1 else 0) 27 [] pairP _ (by omega) Try.call27 (fun i j hi hj w2 _ => pairPlace_ok i j w2 (by omega) (by omega)) (fun i j hi hj => by unfold pairP; split <;> omega))) rfl ?_;rintro _ w' a ⟨hx, rfl⟩ hF;have hM := hM.ext hx;change Mem w w' [some (b1, algC 0 0 (fun _ _ _ => 0) (fun _ => 0))] [] at hM;refine stN hF (d_storeAgg 0 hM rfl ty_sz_27 hF rfl rfl (by first | exact vecC_one | exact cells_one | (refine fnC_one fun _ _ => ?_; first | rfl | (split <;> rfl))) (by simp only [sz0, grpC_size, v3C_size, pm6C_size, v4C_size, sq4C_size]) (by simp only [sz0, grpC_size, v3C_size, pm6C_size, v4C_size, sq4C_size] <;> omega) (splice_whole _ _ (by simp only [sz0, grpC_size, v3C_size, pm6C_size, v4C_size, sq4C_size]))) ?_;intro _ w' a hM hF;change Mem w w' [some (b1, algC p ((2 : Nat) : Int) (pTp pairP 2 2 0) (fun c => if c = 0 then 1 else if c = 1 then 1 else 0))] [] at hM;refine ag hF rfl rfl fun a hF => nt <| wp_ret <| iR <| tR <| fin2 rfl hF.defers (res_agg ty_ag_27 hF rfl (hM.row 0 rfl) (by simp only [sz0, grpC_size, v3C_size, pm6C_size, v4C_size, sq4C_size])) (res_tmp hF rfl) ⟨_, rfl, hM.below, ?_⟩
    show _ = _
    rfl
  first | contradiction | exact absurd (by assumption) hP | exact absurd hP (by assumption) | exact absurd hP (Decidable.not_not.1 (by assumption))
end Go.Proofs.Ytnedojhanlhjkaa

namespace Go.Proofs.Ytnedojhanlhjkaa
open Go Go.RowKit Go.Sw Go.Ech
open Classical
def w3C (v : Nat → Nat) : Array Value := fnC 3 (fun c => .int .i64 (v c : Int))
def pm6I : Array Value := fnC 18 (fun c => .int .i64 (pmL (c / 3) (c % 3) : Int))
theorem w3C_size (v : Nat → Nat) : (w3C v).size = 3 := fnC_size _ _
theorem pm6I_size : pm6I.size = 18 := fnC_size _ _
end Go.Proofs.Ytnedojhanlhjkaa
