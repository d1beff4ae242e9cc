/- What functions of the program return, as walks over their operations; no statement of the seat is proved here. -/
import Derived.Test.YtnedojhanlhjkaaN8
import Derived.Test.YtnedojhanlhjkaaSw45
import Derived.Test.YtnedojhanlhjkaaSw14
set_option linter.unusedVariables false
set_option linter.unusedSimpArgs false
namespace Go.Proofs.Ytnedojhanlhjkaa
open Go Go.RowKit Go.Sw Go.Ech
open Classical
theorem ty_fo_93_1 : fieldOff Try.prog 93 1 = some 1 := by kernel_rfl
theorem ty_fo_93_2 : fieldOff Try.prog 93 2 = some 2 := by kernel_rfl
theorem legsOfPiece_ok (c : Nat) (w : World) (hc : c < 256) :
    CallsR Try.prog 71 #[.int .u8 (c : Int)] w (fun res _ => res = .tuple #[.int .i64 (inL c : Int), .int .i64 (outL c : Int), .bool (pcB c)]) := by
  refine calls_fr [.int .u8 (c : Int)] Try.func71 rfl Try.ntmps71 rfl fun a hF => ?_;have hM : Mem w w [] [] := MemX.start w 0;change Fr 18 a [(0, .int .u8 (c : Int))] at hF;refine sr <| ag hF rfl rfl fun a hF => ag hF rfl rfl fun a hF => ag hF rfl rfl fun a hF => nt <| sq <| sr <| mv hF rfl rfl fun a hF => nt <| wp_block <| sr <| st hF (g_eql hF rfl rfl) rfl fun a hF => ag hF rfl rfl fun a hF => nt <| c_cond hF rfl (fun h1 => ?_) (fun h1 => ?_)
  · refine sq ?_
    refine wp_region_lit <| ag hF rfl rfl fun a hF => ag hF rfl rfl fun a hF => ag hF rfl rfl fun a hF => nt <| wp_ret <| iR <| tR <| fin3 rfl hF.defers (res_tmp hF rfl) (res_tmp hF rfl) (res_tmp hF rfl) ⟨_, rfl, hM.below, ?_⟩
    show _ = _
    obtain rfl : c = 105 := by omega
    rfl
  refine sr <| st hF (g_eql hF rfl rfl) rfl fun a hF => ag hF rfl rfl fun a hF => nt <| c_cond hF rfl (fun h2 => ?_) (fun h2 => ?_)
  · refine sq ?_
    refine wp_region_lit <| ag hF rfl rfl fun a hF => ag hF rfl rfl fun a hF => ag hF rfl rfl fun a hF => nt <| wp_ret <| iR <| tR <| fin3 rfl hF.defers (res_tmp hF rfl) (res_tmp hF rfl) (res_tmp hF rfl) ⟨_, rfl, hM.below, ?_⟩
    show _ = _
    obtain rfl : c = 120 := by omega
    rfl
  refine sr <| st hF (g_eql hF rfl rfl) rfl fun a hF => ag hF rfl rfl fun a hF => nt <| c_cond hF rfl (fun h3 => ?_) (fun h3 => ?_)
  · refine sq ?_
    refine wp_region_lit <| ag hF rfl rfl fun a hF => ag hF rfl rfl fun a hF => ag hF rfl rfl fun a hF => nt <| wp_ret <| iR <| tR <| fin3 rfl hF.defers (res_tmp hF rfl) (res_tmp hF rfl) (res_tmp hF rfl) ⟨_, rfl, hM.below, ?_⟩
    show _ = _
    obtain rfl : c = 109 := by omega
    rfl
  refine sr <| st hF (g_eql hF rfl rfl) rfl fun a hF => ag hF rfl rfl fun a hF => nt <| c_cond hF rfl (fun h4 => ?_) (fun h4 => ?_)
  · refine sq ?_
    refine wp_region_lit <| ag hF rfl rfl fun a hF => ag hF rfl rfl fun a hF => ag hF rfl rfl fun a hF => nt <| wp_ret <| iR <| tR <| fin3 rfl hF.defers (res_tmp hF rfl) (res_tmp hF rfl) (res_tmp hF rfl) ⟨_, rfl, hM.below, ?_⟩
    show _ = _
    obtain rfl : c = 115 := by omega
    rfl
  refine sr <| st hF (g_eql hF rfl rfl) rfl fun a hF => ag hF rfl rfl fun a hF => nt <| c_cond hF rfl (fun h5 => ?_) (fun h5 => ?_)
  · refine sq ?_
    refine wp_region_lit <| ag hF rfl rfl fun a hF => ag hF rfl rfl fun a hF => ag hF rfl rfl fun a hF => nt <| wp_ret <| iR <| tR <| fin3 rfl hF.defers (res_tmp hF rfl) (res_tmp hF rfl) (res_tmp hF rfl) ⟨_, rfl, hM.below, ?_⟩
    show _ = _
    obtain rfl : c = 117 := by omega
    rfl
  refine sr <| st hF (g_eql hF rfl rfl) rfl fun a hF => ag hF rfl rfl fun a hF => nt <| c_cond hF rfl (fun h6 => ?_) (fun h6 => ?_)
  · refine sq ?_
    refine wp_region_lit <| ag hF rfl rfl fun a hF => ag hF rfl rfl fun a hF => ag hF rfl rfl fun a hF => nt <| wp_ret <| iR <| tR <| fin3 rfl hF.defers (res_tmp hF rfl) (res_tmp hF rfl) (res_tmp hF rfl) ⟨_, rfl, hM.below, ?_⟩
    show _ = _
    obtain rfl : c = 101 := by omega
    rfl
  refine wp_skip <| iN <| tN <| sr <| ag hF rfl rfl fun a hF => ag hF rfl rfl fun a hF => ag hF rfl rfl fun a hF => nt <| wp_ret <| fin3 rfl hF.defers (res_tmp hF rfl) (res_tmp hF rfl) (res_tmp hF rfl) ⟨_, rfl, hM.below, ?_⟩
  show _ = _
  obtain ⟨q1, q2, q3⟩ := pc_no (c := c) ⟨by omega, by omega, by omega, by omega, by omega, by omega⟩;rw [q1, q2, q3]; rfl
theorem l04Legs_ok (c : Nat) (w : World) (hc : c < 256) :
    CallsR Try.prog 69 #[.int .u8 (c : Int)] w (fun res _ => res = .tuple #[.int .i64 (inL c : Int), .int .i64 (outL c : Int), .bool (pcB c)]) := by
  refine calls_fr [.int .u8 (c : Int)] Try.func69 rfl Try.ntmps69 rfl fun a hF => ?_;have hM : Mem w w [] [] := MemX.start w 0;change Fr 18 a [(0, .int .u8 (c : Int))] at hF;refine sr <| ag hF rfl rfl fun a hF => ag hF rfl rfl fun a hF => ag hF rfl rfl fun a hF => nt <| sq <| sr <| mv hF rfl rfl fun a hF => nt <| wp_block <| sr <| st hF (g_eql hF rfl rfl) rfl fun a hF => ag hF rfl rfl fun a hF => nt <| c_cond hF rfl (fun h1 => ?_) (fun h1 => ?_)
  · refine sq ?_
    refine wp_region_lit <| ag hF rfl rfl fun a hF => ag hF rfl rfl fun a hF => ag hF rfl rfl fun a hF => nt <| wp_ret <| iR <| tR <| fin3 rfl hF.defers (res_tmp hF rfl) (res_tmp hF rfl) (res_tmp hF rfl) ⟨_, rfl, hM.below, ?_⟩
    show _ = _
    obtain rfl : c = 105 := by omega
    rfl
  refine sr <| st hF (g_eql hF rfl rfl) rfl fun a hF => ag hF rfl rfl fun a hF => nt <| c_cond hF rfl (fun h2 => ?_) (fun h2 => ?_)
  · refine sq ?_
    refine wp_region_lit <| ag hF rfl rfl fun a hF => ag hF rfl rfl fun a hF => ag hF rfl rfl fun a hF => nt <| wp_ret <| iR <| tR <| fin3 rfl hF.defers (res_tmp hF rfl) (res_tmp hF rfl) (res_tmp hF rfl) ⟨_, rfl, hM.below, ?_⟩
    show _ = _
    obtain rfl : c = 120 := by omega
    rfl
  refine sr <| st hF (g_eql hF rfl rfl) rfl fun a hF => ag hF rfl rfl fun a hF => nt <| c_cond hF rfl (fun h3 => ?_) (fun h3 => ?_)
  · refine sq ?_
    refine wp_region_lit <| ag hF rfl rfl fun a hF => ag hF rfl rfl fun a hF => ag hF rfl rfl fun a hF => nt <| wp_ret <| iR <| tR <| fin3 rfl hF.defers (res_tmp hF rfl) (res_tmp hF rfl) (res_tmp hF rfl) ⟨_, rfl, hM.below, ?_⟩
    show _ = _
    obtain rfl : c = 109 := by omega
    rfl
  refine sr <| st hF (g_eql hF rfl rfl) rfl fun a hF => ag hF rfl rfl fun a hF => nt <| c_cond hF rfl (fun h4 => ?_) (fun h4 => ?_)
  · refine sq ?_
    refine wp_region_lit <| ag hF rfl rfl fun a hF => ag hF rfl rfl fun a hF => ag hF rfl rfl fun a hF => nt <| wp_ret <| iR <| tR <| fin3 rfl hF.defers (res_tmp hF rfl) (res_tmp hF rfl) (res_tmp hF rfl) ⟨_, rfl, hM.below, ?_⟩
    show _ = _
    obtain rfl : c = 115 := by omega
    rfl
  refine sr <| st hF (g_eql hF rfl rfl) rfl fun a hF => ag hF rfl rfl fun a hF => nt <| c_cond hF rfl (fun h5 => ?_) (fun h5 => ?_)
  · refine sq ?_
    refine wp_region_lit <| ag hF rfl rfl fun a hF => ag hF rfl rfl fun a hF => ag hF rfl rfl fun a hF => nt <| wp_ret <| iR <| tR <| fin3 rfl hF.defers (res_tmp hF rfl) (res_tmp hF rfl) (res_tmp hF rfl) ⟨_, rfl, hM.below, ?_⟩
    show _ = _
    obtain rfl : c = 117 := by omega
    rfl
  refine sr <| st hF (g_eql hF rfl rfl) rfl fun a hF => ag hF rfl rfl fun a hF => nt <| c_cond hF rfl (fun h6 => ?_) (fun h6 => ?_)
  · refine sq ?_
    refine wp_region_lit <| ag hF rfl rfl fun a hF => ag hF rfl rfl fun a hF => ag hF rfl rfl fun a hF => nt <| wp_ret <| iR <| tR <| fin3 rfl hF.defers (res_tmp hF rfl) (res_tmp hF rfl) (res_tmp hF rfl) ⟨_, rfl, hM.below, ?_⟩
    show _ = _
    obtain rfl : c = 101 := by omega
    rfl
  refine wp_skip <| iN <| tN <| sr <| ag hF rfl rfl fun a hF => ag hF rfl rfl fun a hF => ag hF rfl rfl fun a hF => nt <| wp_ret <| fin3 rfl hF.defers (res_tmp hF rfl) (res_tmp hF rfl) (res_tmp hF rfl) ⟨_, rfl, hM.below, ?_⟩
  show _ = _
  obtain ⟨q1, q2, q3⟩ := pc_no (c := c) ⟨by omega, by omega, by omega, by omega, by omega, by omega⟩;rw [q1, q2, q3]; rfl
theorem addPiece_ok (bq c x y : Nat) (t : ByteArray) (w : World) (hc : c < 256) (hx : x < 10000000) (hy : y < 10000000) (hb : Blk w bq (layC t (x : Int) (y : Int))) :
    CallsX Try.prog [bq] 60 #[ptr bq (0), .int .u8 (c : Int)] w (fun v w' => v = .bool (pcB c) ∧ Blk w' bq (layC t ((x + inL c : Nat) : Int) ((y + outL c : Nat) : Int))) := by
  refine calls_frX [ptr bq (0), .int .u8 (c : Int)] Try.func60 rfl Try.ntmps60 rfl fun a hF => ?_;have hM : MemX [bq] w w [some (bq, layC t (x : Int) (y : Int))] [] := MemX.startX1 0 hb;change Fr 31 a [(0, ptr bq (0)), (1, .int .u8 (c : Int))] at hF;have hi2 := inL_le (c := c);have ho2 := outL_le (c := c);refine sr <| ag hF rfl rfl fun a hF => ns <| mv hF rfl rfl fun a hF => stR hF (d_call Try.call71 hF (.cons rfl .nil) (legsOfPiece_ok (c) _ (by first | exact byt_lt | omega))) rfl ?_;rintro _ w' a ⟨hx, rfl⟩ hF;have hM := hM.ext hx;refine mv hF rfl rfl fun a hF => st hF (g_extract hF rfl rfl) rfl fun a hF => st hF (g_extract hF rfl rfl) rfl fun a hF => st hF (g_extract hF rfl rfl) rfl fun a hF => ag hF rfl rfl fun a hF => ag hF rfl rfl fun a hF => ag hF rfl rfl fun a hF => ns <| mv hF rfl rfl fun a hF => st hF (g_nilCheck hF rfl) rfl fun a hF => st hF (g_fieldAddr ty_fo_93_1 hF rfl) rfl fun a hF => st hF (g_load ty_on_2 hF rfl (hM.row 0 rfl) (layC_1 rfl)) rfl fun a hF => mv hF rfl rfl fun a hF => st hF (g_add hF rfl rfl (add_nat (x) (inL (c)) (by omega))) rfl fun a hF => st hF (g_nilCheck hF rfl) rfl fun a hF => st hF (g_fieldAddr ty_fo_93_1 hF rfl) rfl fun a hF => stN hF (d_store 0 hM rfl ty_on_2 hF rfl rfl rfl (by first | omega | (simp only [sz0, grpC_size, v3C_size, pm6C_size, v4C_size, sq4C_size, w3C_size, pm6I_size, layC_size] <;> omega) | (simp only [Array.size_setIfInBounds]; omega) | simp)) ?_;intro _ w' a hM hF;rw [show (layC t (x : Int) (y : Int)).setIfInBounds (0 + 1) (.int .i64 (((x + inL (c) : Nat) : Int))) = layC t (((x + inL (c) : Nat) : Int)) (y : Int) from layC_set1 rfl] at hM;change MemX [bq] w w' [some (bq, layC t (((x + inL (c) : Nat) : Int)) (y : Int))] [] at hM;refine ns <| mv hF rfl rfl fun a hF => st hF (g_nilCheck hF rfl) rfl fun a hF => st hF (g_fieldAddr ty_fo_93_2 hF rfl) rfl fun a hF => st hF (g_load ty_on_2 hF rfl (hM.row 0 rfl) (layC_2 rfl)) rfl fun a hF => mv hF rfl rfl fun a hF => st hF (g_add hF rfl rfl (add_nat (y) (outL (c)) (by omega))) rfl fun a hF => st hF (g_nilCheck hF rfl) rfl fun a hF => st hF (g_fieldAddr ty_fo_93_2 hF rfl) rfl fun a hF => stN hF (d_store 0 hM rfl ty_on_2 hF rfl rfl rfl (by first | omega | (simp only [sz0, grpC_size, v3C_size, pm6C_size, v4C_size, sq4C_size, w3C_size, pm6I_size, layC_size] <;> omega) | (simp only [Array.size_setIfInBounds]; omega) | simp)) ?_;intro _ w' a hM hF;rw [show (layC t (((x + inL (c) : Nat) : Int)) (y : Int)).setIfInBounds (0 + 2) (.int .i64 (((y + outL (c) : Nat) : Int))) = layC t (((x + inL (c) : Nat) : Int)) (((y + outL (c) : Nat) : Int)) from layC_set2 rfl] at hM;change MemX [bq] w w' [some (bq, layC t (((x + inL (c) : Nat) : Int)) (((y + outL (c) : Nat) : Int)))] [] at hM;refine ns <| mv hF rfl rfl fun a hF => ag hF rfl rfl fun a hF => nt <| wp_ret <| fin1 rfl hF.defers (res_tmp hF rfl) ⟨_, rfl, hM.bel, ?_⟩;exact ⟨rfl, hM.row 0 rfl⟩
end Go.Proofs.Ytnedojhanlhjkaa
