/- What functions of the program return, as walks over their operations; no statement of the seat is proved here. -/
import Derived.Test.YtiafijbifmcflaaN5
import Derived.Test.YtiafijbifmcflaaSw114
set_option linter.unusedVariables false
set_option linter.unusedSimpArgs false
namespace Go.Proofs.Ytiafijbifmcflaa
open Go Go.RowKit Go.Sw Go.Ech
open Classical
theorem ty_bf_25_11_210 : ∀ w, (Instr.build 25 #[(0, .int .u8 (1))]).run Try.prog w = .ok (.agg (vecC (fun c => if c = 0 then 1 else 0))) w := by intros; kernel_rfl
theorem ty_bf_25_11_220 : ∀ w, (Instr.build 25 #[(0, .int .u8 (1)), (1, .int .u8 (0)), (2, .int .u8 (0)), (3, .int .u8 (1))]).run Try.prog w = .ok (.agg (vecC (fun c => if c = 0 then 1 else if c = 1 then 0 else if c = 2 then 0 else if c = 3 then 1 else 0))) w := by intros; kernel_rfl
def pmP (i j : Nat) : Int := (pmV i j : Int)
theorem Blk.extE {w w' : World} {b : Nat} {cs : Array Value} (h : Blk w b cs) (hx : Ext w w') : Blk w' b cs := Blk.ext h hx

theorem NamedI_F (s : ByteArray) (p : Int) (w : World) (hP : primeP p) (nF : (s : ByteArray).toList = (⟨#[102, 105, 101, 108, 100]⟩ : ByteArray).toList) :
    CallsR Try.prog 11 #[.string (s), .int .i64 (p)] w (fun res _ => res = .tuple #[.agg (algC p ((1 : Nat) : Int) (pTp pairP 1 1 0) (fun c => if c = 0 then 1 else 0)), .int .i64 0]) := by
  refine calls_fr [.string (s), .int .i64 (p)] Try.func11 rfl Try.ntmps11 rfl fun a hF => ?_;have hM : Mem w w [none] [] := MemX.start w 1;change Fr 44 a [(0, .string (s)), (1, .int .i64 (p))] at hF;refine sr <| stR hF (d_alloc 0 hM ty_ze_27) rfl ?_;rintro _ w' a ⟨b1, rfl, hM, -⟩ hF;change Mem w w' [some (b1, algC 0 0 (fun _ _ _ => 0) (fun _ => 0))] [] at hM;refine ag hF rfl rfl fun a hF => nt <| sq <| sr <| mv hF rfl rfl fun a hF => stR hF (d_call Try.call10 hF (.cons rfl .nil) (isPrime_ok (p) _)) rfl ?_;rintro _ w' a ⟨hx, rfl⟩ hF;have hM := hM.ext hx;refine st hF (g_notP hF rfl) rfl fun a hF => nt <| c_cond hF rfl (fun h2 => ?_) (fun h2 => ?_)
  · first | contradiction | exact absurd (by assumption) hP | exact absurd hP (by assumption) | exact absurd hP (Decidable.not_not.1 (by assumption))
  refine wp_skip <| tN <| sq <| sr <| mv hF rfl rfl fun a hF => nt <| wp_block <| sr <| st hF (g_eqlS hF rfl rfl) rfl fun a hF => ag hF rfl rfl fun a hF => nt <| c_cond hF rfl (fun h3 => ?_) (fun h3 => ?_)
  · refine sq ?_
    refine wp_region_lit <| mv hF rfl rfl fun a hF => st hF (g_buildP hF (build1 hF rfl) ty_bf_25_11_210) rfl fun a hF => stR hF (d_call Try.call18 hF (.cons rfl (.cons rfl (.cons rfl (.cons rfl .nil)))) (algebraOfPlaces_ok (p) 1 (fun c => if c = 0 then 1 else 0) 19 [] pairP _ (by omega) Try.call19 (fun i j hi hj w2 _ => pairPlace_ok i j w2 (by omega) (by omega)) (fun i j hi hj => by unfold pairP; split <;> omega))) rfl ?_;rintro _ w' a ⟨hx, rfl⟩ hF;have hM := hM.ext hx;change Mem w w' [some (b1, algC 0 0 (fun _ _ _ => 0) (fun _ => 0))] [] at hM;refine stN hF (d_storeAgg 0 hM rfl ty_sz_27 hF rfl rfl (by first | exact vecC_one | exact cells_one | (refine fnC_one fun _ _ => ?_; first | rfl | (split <;> rfl))) (by simp only [sz0, grpC_size, v3C_size, pm6C_size, v4C_size, sq4C_size]) (by simp only [sz0, grpC_size, v3C_size, pm6C_size, v4C_size, sq4C_size] <;> omega) (splice_whole _ _ (by simp only [sz0, grpC_size, v3C_size, pm6C_size, v4C_size, sq4C_size]))) ?_;intro _ w' a hM hF;change Mem w w' [some (b1, algC p ((1 : Nat) : Int) (pTp pairP 1 1 0) (fun c => if c = 0 then 1 else 0))] [] at hM;refine ag hF rfl rfl fun a hF => nt <| wp_ret <| iR <| tR <| fin2 rfl hF.defers (res_agg ty_ag_27 hF rfl (hM.row 0 rfl) (by simp only [sz0, grpC_size, v3C_size, pm6C_size, v4C_size, sq4C_size])) (res_tmp hF rfl) ⟨_, rfl, hM.below, ?_⟩
    show _ = _
    rfl
  first | contradiction | exact absurd (by assumption) hP | exact absurd hP (by assumption) | exact absurd hP (Decidable.not_not.1 (by assumption))
theorem NamedI_M (s : ByteArray) (p : Int) (w : World) (hP : primeP p) (nF : ¬ (s : ByteArray).toList = (⟨#[102, 105, 101, 108, 100]⟩ : ByteArray).toList) (nD : ¬ (s : ByteArray).toList = (⟨#[100, 117, 97, 108]⟩ : ByteArray).toList) (nP : ¬ (s : ByteArray).toList = (⟨#[112, 97, 105, 114]⟩ : ByteArray).toList) (nC : ¬ (s : ByteArray).toList = (⟨#[99, 121, 99, 108, 105, 99, 51]⟩ : ByteArray).toList) (nS : ¬ (s : ByteArray).toList = (⟨#[115, 121, 109, 109, 101, 116, 114, 105, 99]⟩ : ByteArray).toList) (nM : (s : ByteArray).toList = (⟨#[109, 97, 116, 114, 105, 120]⟩ : ByteArray).toList) :
    CallsR Try.prog 11 #[.string (s), .int .i64 (p)] w (fun res _ => res = .tuple #[.agg (algC p ((4 : Nat) : Int) (pTp sqV 4 4 0) (fun c => if c = 0 then 1 else if c = 1 then 0 else if c = 2 then 0 else if c = 3 then 1 else 0)), .int .i64 0]) := by
  refine calls_fr [.string (s), .int .i64 (p)] Try.func11 rfl Try.ntmps11 rfl fun a hF => ?_;have hM : Mem w w [none] [] := MemX.start w 1;change Fr 44 a [(0, .string (s)), (1, .int .i64 (p))] at hF;refine sr <| stR hF (d_alloc 0 hM ty_ze_27) rfl ?_;rintro _ w' a ⟨b1, rfl, hM, -⟩ hF;change Mem w w' [some (b1, algC 0 0 (fun _ _ _ => 0) (fun _ => 0))] [] at hM;refine ag hF rfl rfl fun a hF => nt <| sq <| sr <| mv hF rfl rfl fun a hF => stR hF (d_call Try.call10 hF (.cons rfl .nil) (isPrime_ok (p) _)) rfl ?_;rintro _ w' a ⟨hx, rfl⟩ hF;have hM := hM.ext hx;refine st hF (g_notP hF rfl) rfl fun a hF => nt <| c_cond hF rfl (fun h2 => ?_) (fun h2 => ?_)
  · first | contradiction | exact absurd (by assumption) hP | exact absurd hP (by assumption) | exact absurd hP (Decidable.not_not.1 (by assumption))
  refine wp_skip <| tN <| sq <| sr <| mv hF rfl rfl fun a hF => nt <| wp_block <| sr <| st hF (g_eqlS hF rfl rfl) rfl fun a hF => ag hF rfl rfl fun a hF => nt <| c_cond hF rfl (fun h3 => ?_) (fun h3 => ?_)
  · first | contradiction | exact absurd (by assumption) hP | exact absurd hP (by assumption) | exact absurd hP (Decidable.not_not.1 (by assumption))
  refine sr <| st hF (g_eqlS hF rfl rfl) rfl fun a hF => ag hF rfl rfl fun a hF => nt <| c_cond hF rfl (fun h4 => ?_) (fun h4 => ?_)
  · first | contradiction | exact absurd (by assumption) hP | exact absurd hP (by assumption) | exact absurd hP (Decidable.not_not.1 (by assumption))
  refine sr <| st hF (g_eqlS hF rfl rfl) rfl fun a hF => ag hF rfl rfl fun a hF => nt <| c_cond hF rfl (fun h5 => ?_) (fun h5 => ?_)
  · first | contradiction | exact absurd (by assumption) hP | exact absurd hP (by assumption) | exact absurd hP (Decidable.not_not.1 (by assumption))
  refine sr <| st hF (g_eqlS hF rfl rfl) rfl fun a hF => ag hF rfl rfl fun a hF => nt <| c_cond hF rfl (fun h6 => ?_) (fun h6 => ?_)
  · first | contradiction | exact absurd (by assumption) hP | exact absurd hP (by assumption) | exact absurd hP (Decidable.not_not.1 (by assumption))
  refine sr <| st hF (g_eqlS hF rfl rfl) rfl fun a hF => ag hF rfl rfl fun a hF => nt <| c_cond hF rfl (fun h7 => ?_) (fun h7 => ?_)
  · first | contradiction | exact absurd (by assumption) hP | exact absurd hP (by assumption) | exact absurd hP (Decidable.not_not.1 (by assumption))
  refine sr <| st hF (g_eqlS hF rfl rfl) rfl fun a hF => ag hF rfl rfl fun a hF => nt <| c_cond hF rfl (fun h8 => ?_) (fun h8 => ?_)
  · refine sq ?_
    refine wp_region_lit <| mv hF rfl rfl fun a hF => st hF (g_buildP hF (build4 hF rfl rfl rfl rfl) ty_bf_25_11_220) rfl fun a hF => stR hF (d_call Try.call23 hF .nil (squarePlaces_ok _)) rfl ?_;rintro _ w' a ⟨hx, pA, bS, pB, bM, rfl, hk1, hk2, hk3, hkm⟩ hF;have hM := hM.ext hx;refine stR hF (d_call Try.call18 hF (.cons rfl (.cons rfl (.cons rfl (.cons rfl .nil)))) (algebraOfPlaces_ok (p) 4 (fun c => if c = 0 then 1 else if c = 1 then 0 else if c = 2 then 0 else if c = 3 then 1 else 0) 33 [ptr pB 0, ptr pA 0] sqV _ (by omega) Try.call33 (fun i j hi hj w2 hx2 => squared_ok i j pA bS pB bM w2 hi hj (Blk.extE hk1 hx2) (Blk.extE hk2 hx2) (Blk.extE hk3 hx2) (hkm.ext hx2)) (fun i j hi hj => by have := sqQ_lt hi hj; unfold sqV; omega))) rfl ?_;rintro _ w' a ⟨hx, rfl⟩ hF;have hM := hM.ext hx;change Mem w w' [some (b1, algC 0 0 (fun _ _ _ => 0) (fun _ => 0))] [] at hM;refine stN hF (d_storeAgg 0 hM rfl ty_sz_27 hF rfl rfl (by first | exact vecC_one | exact cells_one | (refine fnC_one fun _ _ => ?_; first | rfl | (split <;> rfl))) (by simp only [sz0, grpC_size, v3C_size, pm6C_size, v4C_size, sq4C_size]) (by simp only [sz0, grpC_size, v3C_size, pm6C_size, v4C_size, sq4C_size] <;> omega) (splice_whole _ _ (by simp only [sz0, grpC_size, v3C_size, pm6C_size, v4C_size, sq4C_size]))) ?_;intro _ w' a hM hF;change Mem w w' [some (b1, algC p ((4 : Nat) : Int) (pTp sqV 4 4 0) (fun c => if c = 0 then 1 else if c = 1 then 0 else if c = 2 then 0 else if c = 3 then 1 else 0))] [] at hM;refine ag hF rfl rfl fun a hF => nt <| wp_ret <| iR <| tR <| fin2 rfl hF.defers (res_agg ty_ag_27 hF rfl (hM.row 0 rfl) (by simp only [sz0, grpC_size, v3C_size, pm6C_size, v4C_size, sq4C_size])) (res_tmp hF rfl) ⟨_, rfl, hM.below, ?_⟩
    show _ = _
    rfl
  first | contradiction | exact absurd (by assumption) hP | exact absurd hP (by assumption) | exact absurd hP (Decidable.not_not.1 (by assumption))
end Go.Proofs.Ytiafijbifmcflaa

namespace Go.Proofs.Ytiafijbifmcflaa
open Go Go.RowKit Go.Sw Go.Ech
open Classical
def w3C (v : Nat → Nat) : Array Value := fnC 3 (fun c => .int .i64 (v c : Int))
def pm6I : Array Value := fnC 18 (fun c => .int .i64 (pmL (c / 3) (c % 3) : Int))
theorem w3C_size (v : Nat → Nat) : (w3C v).size = 3 := fnC_size _ _
theorem pm6I_size : pm6I.size = 18 := fnC_size _ _
end Go.Proofs.Ytiafijbifmcflaa
