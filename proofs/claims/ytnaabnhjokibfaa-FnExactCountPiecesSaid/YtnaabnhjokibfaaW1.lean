/- What functions of the program return, as walks over their operations; no statement of the seat is proved here. -/
import Derived.Test.YtnaabnhjokibfaaChecked
import Derived.Test.YtnaabnhjokibfaaSw42
set_option linter.unusedVariables false
set_option linter.unusedSimpArgs false
namespace Go.Proofs.Ytnaabnhjokibfaa
open Go Go.RowKit Go.Sw
open Classical
theorem ty_fo_69_1 : fieldOff Try.prog 69 1 = some 1 := by kernel_rfl
theorem ty_on_2 : oneP Try.prog 2 = true := by kernel_rfl
theorem ty_fo_69_2 : fieldOff Try.prog 69 2 = some 2 := by kernel_rfl
theorem hmix : Try.prog.follows .mixedOrders = true := by kernel_rfl
theorem whole {c : Array Value} {n : Nat} (h : c.size = n) : c.extract 0 (0 + n) = c := by subst h; simp

theorem legsOfPiece_ok (c : Nat) (w : World) (hc : c < 256) :
    CallsR Try.prog 67 #[.int .u8 (((c : Nat) : Int))] w (fun res _ => res = .tuple #[.int .i64 ((inL c : Nat) : Int), .int .i64 ((outL c : Nat) : Int), .bool (pcB c)]) := by
  refine calls_fr [.int .u8 (((c : Nat) : Int))] Try.func67 rfl Try.ntmps67 rfl fun a hF => ?_
  have hM : Mem w w [] [] := MemX.start w 0
  change Fr 18 a [(0, .int .u8 (((c : Nat) : Int)))] at hF
  refine sq ?_
  refine wp_region_lit ?_
  refine st hF (g_assign hF rfl) rfl fun a hF => st hF (g_assign hF rfl) rfl fun a hF => st hF (g_assign hF rfl) rfl fun a hF => ?_
  refine wpList_nil ?_
  refine tN ?_
  refine sq ?_
  refine sq ?_
  refine wp_region_lit ?_
  refine st hF (g_move hF rfl) rfl fun a hF => ?_
  refine wpList_nil ?_
  refine tN ?_
  refine wp_block ?_
  refine sq ?_
  refine wp_region_lit ?_
  refine st hF (g_eql hF rfl rfl) rfl fun a hF => st hF (g_assign hF rfl) rfl fun a hF => ?_
  refine wpList_nil ?_
  refine tN ?_
  refine c_cond hF rfl (fun h1 => ?_) (fun h1 => ?_)
  ·
    refine sq ?_
    refine wp_region_lit ?_
    refine st hF (g_assign hF rfl) rfl fun a hF => st hF (g_assign hF rfl) rfl fun a hF => st hF (g_assign hF rfl) rfl fun a hF => ?_
    refine wpList_nil ?_
    refine tN ?_
    refine wp_ret ?_
    refine iR ?_
    refine tR ?_
    refine fin3 rfl hF.defers (res_tmp hF rfl) (res_tmp hF rfl) (res_tmp hF rfl) ⟨_, rfl, hM.below, ?_⟩
    show _ = _
    obtain rfl : c = 105 := by omega
    rfl
  ·
    refine sq ?_
    refine wp_region_lit ?_
    refine st hF (g_eql hF rfl rfl) rfl fun a hF => st hF (g_assign hF rfl) rfl fun a hF => ?_
    refine wpList_nil ?_
    refine tN ?_
    refine c_cond hF rfl (fun h2 => ?_) (fun h2 => ?_)
    ·
      refine sq ?_
      refine wp_region_lit ?_
      refine st hF (g_assign hF rfl) rfl fun a hF => st hF (g_assign hF rfl) rfl fun a hF => st hF (g_assign hF rfl) rfl fun a hF => ?_
      refine wpList_nil ?_
      refine tN ?_
      refine wp_ret ?_
      refine iR ?_
      refine tR ?_
      refine fin3 rfl hF.defers (res_tmp hF rfl) (res_tmp hF rfl) (res_tmp hF rfl) ⟨_, rfl, hM.below, ?_⟩
      show _ = _
      obtain rfl : c = 120 := by omega
      rfl
    ·
      refine sq ?_
      refine wp_region_lit ?_
      refine st hF (g_eql hF rfl rfl) rfl fun a hF => st hF (g_assign hF rfl) rfl fun a hF => ?_
      refine wpList_nil ?_
      refine tN ?_
      refine c_cond hF rfl (fun h3 => ?_) (fun h3 => ?_)
      ·
        refine sq ?_
        refine wp_region_lit ?_
        refine st hF (g_assign hF rfl) rfl fun a hF => st hF (g_assign hF rfl) rfl fun a hF => st hF (g_assign hF rfl) rfl fun a hF => ?_
        refine wpList_nil ?_
        refine tN ?_
        refine wp_ret ?_
        refine iR ?_
        refine tR ?_
        refine fin3 rfl hF.defers (res_tmp hF rfl) (res_tmp hF rfl) (res_tmp hF rfl) ⟨_, rfl, hM.below, ?_⟩
        show _ = _
        obtain rfl : c = 109 := by omega
        rfl
      ·
        refine sq ?_
        refine wp_region_lit ?_
        refine st hF (g_eql hF rfl rfl) rfl fun a hF => st hF (g_assign hF rfl) rfl fun a hF => ?_
        refine wpList_nil ?_
        refine tN ?_
        refine c_cond hF rfl (fun h4 => ?_) (fun h4 => ?_)
        ·
          refine sq ?_
          refine wp_region_lit ?_
          refine st hF (g_assign hF rfl) rfl fun a hF => st hF (g_assign hF rfl) rfl fun a hF => st hF (g_assign hF rfl) rfl fun a hF => ?_
          refine wpList_nil ?_
          refine tN ?_
          refine wp_ret ?_
          refine iR ?_
          refine tR ?_
          refine fin3 rfl hF.defers (res_tmp hF rfl) (res_tmp hF rfl) (res_tmp hF rfl) ⟨_, rfl, hM.below, ?_⟩
          show _ = _
          obtain rfl : c = 115 := by omega
          rfl
        ·
          refine sq ?_
          refine wp_region_lit ?_
          refine st hF (g_eql hF rfl rfl) rfl fun a hF => st hF (g_assign hF rfl) rfl fun a hF => ?_
          refine wpList_nil ?_
          refine tN ?_
          refine c_cond hF rfl (fun h5 => ?_) (fun h5 => ?_)
          ·
            refine sq ?_
            refine wp_region_lit ?_
            refine st hF (g_assign hF rfl) rfl fun a hF => st hF (g_assign hF rfl) rfl fun a hF => st hF (g_assign hF rfl) rfl fun a hF => ?_
            refine wpList_nil ?_
            refine tN ?_
            refine wp_ret ?_
            refine iR ?_
            refine tR ?_
            refine fin3 rfl hF.defers (res_tmp hF rfl) (res_tmp hF rfl) (res_tmp hF rfl) ⟨_, rfl, hM.below, ?_⟩
            show _ = _
            obtain rfl : c = 117 := by omega
            rfl
          ·
            refine sq ?_
            refine wp_region_lit ?_
            refine st hF (g_eql hF rfl rfl) rfl fun a hF => st hF (g_assign hF rfl) rfl fun a hF => ?_
            refine wpList_nil ?_
            refine tN ?_
            refine c_cond hF rfl (fun h6 => ?_) (fun h6 => ?_)
            ·
              refine sq ?_
              refine wp_region_lit ?_
              refine st hF (g_assign hF rfl) rfl fun a hF => st hF (g_assign hF rfl) rfl fun a hF => st hF (g_assign hF rfl) rfl fun a hF => ?_
              refine wpList_nil ?_
              refine tN ?_
              refine wp_ret ?_
              refine iR ?_
              refine tR ?_
              refine fin3 rfl hF.defers (res_tmp hF rfl) (res_tmp hF rfl) (res_tmp hF rfl) ⟨_, rfl, hM.below, ?_⟩
              show _ = _
              obtain rfl : c = 101 := by omega
              rfl
            ·
              refine wp_skip ?_
              refine iN ?_
              refine tN ?_
              refine sq ?_
              refine wp_region_lit ?_
              refine st hF (g_assign hF rfl) rfl fun a hF => st hF (g_assign hF rfl) rfl fun a hF => st hF (g_assign hF rfl) rfl fun a hF => ?_
              refine wpList_nil ?_
              refine tN ?_
              refine wp_ret ?_
              refine fin3 rfl hF.defers (res_tmp hF rfl) (res_tmp hF rfl) (res_tmp hF rfl) ⟨_, rfl, hM.below, ?_⟩
              show _ = _
              obtain ⟨q1, q2, q3⟩ := pc_no (c := c) ⟨by omega, by omega, by omega, by omega, by omega, by omega⟩
              rw [q1, q2, q3]; rfl

theorem l04Legs_ok (c : Nat) (w : World) (hc : c < 256) :
    CallsR Try.prog 68 #[.int .u8 (((c : Nat) : Int))] w (fun res _ => res = .tuple #[.int .i64 ((inL c : Nat) : Int), .int .i64 ((outL c : Nat) : Int), .bool (pcB c)]) := by
  refine calls_fr [.int .u8 (((c : Nat) : Int))] Try.func68 rfl Try.ntmps68 rfl fun a hF => ?_
  have hM : Mem w w [] [] := MemX.start w 0
  change Fr 18 a [(0, .int .u8 (((c : Nat) : Int)))] at hF
  refine sq ?_
  refine wp_region_lit ?_
  refine st hF (g_assign hF rfl) rfl fun a hF => st hF (g_assign hF rfl) rfl fun a hF => st hF (g_assign hF rfl) rfl fun a hF => ?_
  refine wpList_nil ?_
  refine tN ?_
  refine sq ?_
  refine sq ?_
  refine wp_region_lit ?_
  refine st hF (g_move hF rfl) rfl fun a hF => ?_
  refine wpList_nil ?_
  refine tN ?_
  refine wp_block ?_
  refine sq ?_
  refine wp_region_lit ?_
  refine st hF (g_eql hF rfl rfl) rfl fun a hF => st hF (g_assign hF rfl) rfl fun a hF => ?_
  refine wpList_nil ?_
  refine tN ?_
  refine c_cond hF rfl (fun h1 => ?_) (fun h1 => ?_)
  ·
    refine sq ?_
    refine wp_region_lit ?_
    refine st hF (g_assign hF rfl) rfl fun a hF => st hF (g_assign hF rfl) rfl fun a hF => st hF (g_assign hF rfl) rfl fun a hF => ?_
    refine wpList_nil ?_
    refine tN ?_
    refine wp_ret ?_
    refine iR ?_
    refine tR ?_
    refine fin3 rfl hF.defers (res_tmp hF rfl) (res_tmp hF rfl) (res_tmp hF rfl) ⟨_, rfl, hM.below, ?_⟩
    show _ = _
    obtain rfl : c = 105 := by omega
    rfl
  ·
    refine sq ?_
    refine wp_region_lit ?_
    refine st hF (g_eql hF rfl rfl) rfl fun a hF => st hF (g_assign hF rfl) rfl fun a hF => ?_
    refine wpList_nil ?_
    refine tN ?_
    refine c_cond hF rfl (fun h2 => ?_) (fun h2 => ?_)
    ·
      refine sq ?_
      refine wp_region_lit ?_
      refine st hF (g_assign hF rfl) rfl fun a hF => st hF (g_assign hF rfl) rfl fun a hF => st hF (g_assign hF rfl) rfl fun a hF => ?_
      refine wpList_nil ?_
      refine tN ?_
      refine wp_ret ?_
      refine iR ?_
      refine tR ?_
      refine fin3 rfl hF.defers (res_tmp hF rfl) (res_tmp hF rfl) (res_tmp hF rfl) ⟨_, rfl, hM.below, ?_⟩
      show _ = _
      obtain rfl : c = 120 := by omega
      rfl
    ·
      refine sq ?_
      refine wp_region_lit ?_
      refine st hF (g_eql hF rfl rfl) rfl fun a hF => st hF (g_assign hF rfl) rfl fun a hF => ?_
      refine wpList_nil ?_
      refine tN ?_
      refine c_cond hF rfl (fun h3 => ?_) (fun h3 => ?_)
      ·
        refine sq ?_
        refine wp_region_lit ?_
        refine st hF (g_assign hF rfl) rfl fun a hF => st hF (g_assign hF rfl) rfl fun a hF => st hF (g_assign hF rfl) rfl fun a hF => ?_
        refine wpList_nil ?_
        refine tN ?_
        refine wp_ret ?_
        refine iR ?_
        refine tR ?_
        refine fin3 rfl hF.defers (res_tmp hF rfl) (res_tmp hF rfl) (res_tmp hF rfl) ⟨_, rfl, hM.below, ?_⟩
        show _ = _
        obtain rfl : c = 109 := by omega
        rfl
      ·
        refine sq ?_
        refine wp_region_lit ?_
        refine st hF (g_eql hF rfl rfl) rfl fun a hF => st hF (g_assign hF rfl) rfl fun a hF => ?_
        refine wpList_nil ?_
        refine tN ?_
        refine c_cond hF rfl (fun h4 => ?_) (fun h4 => ?_)
        ·
          refine sq ?_
          refine wp_region_lit ?_
          refine st hF (g_assign hF rfl) rfl fun a hF => st hF (g_assign hF rfl) rfl fun a hF => st hF (g_assign hF rfl) rfl fun a hF => ?_
          refine wpList_nil ?_
          refine tN ?_
          refine wp_ret ?_
          refine iR ?_
          refine tR ?_
          refine fin3 rfl hF.defers (res_tmp hF rfl) (res_tmp hF rfl) (res_tmp hF rfl) ⟨_, rfl, hM.below, ?_⟩
          show _ = _
          obtain rfl : c = 115 := by omega
          rfl
        ·
          refine sq ?_
          refine wp_region_lit ?_
          refine st hF (g_eql hF rfl rfl) rfl fun a hF => st hF (g_assign hF rfl) rfl fun a hF => ?_
          refine wpList_nil ?_
          refine tN ?_
          refine c_cond hF rfl (fun h5 => ?_) (fun h5 => ?_)
          ·
            refine sq ?_
            refine wp_region_lit ?_
            refine st hF (g_assign hF rfl) rfl fun a hF => st hF (g_assign hF rfl) rfl fun a hF => st hF (g_assign hF rfl) rfl fun a hF => ?_
            refine wpList_nil ?_
            refine tN ?_
            refine wp_ret ?_
            refine iR ?_
            refine tR ?_
            refine fin3 rfl hF.defers (res_tmp hF rfl) (res_tmp hF rfl) (res_tmp hF rfl) ⟨_, rfl, hM.below, ?_⟩
            show _ = _
            obtain rfl : c = 117 := by omega
            rfl
          ·
            refine sq ?_
            refine wp_region_lit ?_
            refine st hF (g_eql hF rfl rfl) rfl fun a hF => st hF (g_assign hF rfl) rfl fun a hF => ?_
            refine wpList_nil ?_
            refine tN ?_
            refine c_cond hF rfl (fun h6 => ?_) (fun h6 => ?_)
            ·
              refine sq ?_
              refine wp_region_lit ?_
              refine st hF (g_assign hF rfl) rfl fun a hF => st hF (g_assign hF rfl) rfl fun a hF => st hF (g_assign hF rfl) rfl fun a hF => ?_
              refine wpList_nil ?_
              refine tN ?_
              refine wp_ret ?_
              refine iR ?_
              refine tR ?_
              refine fin3 rfl hF.defers (res_tmp hF rfl) (res_tmp hF rfl) (res_tmp hF rfl) ⟨_, rfl, hM.below, ?_⟩
              show _ = _
              obtain rfl : c = 101 := by omega
              rfl
            ·
              refine wp_skip ?_
              refine iN ?_
              refine tN ?_
              refine sq ?_
              refine wp_region_lit ?_
              refine st hF (g_assign hF rfl) rfl fun a hF => st hF (g_assign hF rfl) rfl fun a hF => st hF (g_assign hF rfl) rfl fun a hF => ?_
              refine wpList_nil ?_
              refine tN ?_
              refine wp_ret ?_
              refine fin3 rfl hF.defers (res_tmp hF rfl) (res_tmp hF rfl) (res_tmp hF rfl) ⟨_, rfl, hM.below, ?_⟩
              show _ = _
              obtain ⟨q1, q2, q3⟩ := pc_no (c := c) ⟨by omega, by omega, by omega, by omega, by omega, by omega⟩
              rw [q1, q2, q3]; rfl

theorem eulerOfPiece_ok (c : Nat) (w : World) (hc : c < 256) :
    CallsR Try.prog 37 #[.int .u8 (((c : Nat) : Int))] w (fun res _ => res = .int .i64 (eulL c)) := by
  refine calls_fr [.int .u8 (((c : Nat) : Int))] Try.func37 rfl Try.ntmps37 rfl fun a hF => ?_
  have hM : Mem w w [] [] := MemX.start w 0
  change Fr 10 a [(0, .int .u8 (((c : Nat) : Int)))] at hF
  refine sq ?_
  refine wp_region_lit ?_
  refine st hF (g_assign hF rfl) rfl fun a hF => ?_
  refine wpList_nil ?_
  refine tN ?_
  refine sq ?_
  refine sq ?_
  refine wp_region_lit ?_
  refine st hF (g_move hF rfl) rfl fun a hF => ?_
  refine wpList_nil ?_
  refine tN ?_
  refine wp_block ?_
  refine sq ?_
  refine sq ?_
  refine wp_region_lit ?_
  refine st hF (g_eql hF rfl rfl) rfl fun a hF => st hF (g_assign hF rfl) rfl fun a hF => ?_
  refine wpList_nil ?_
  refine tN ?_
  refine c_cond hF rfl (fun h1 => ?_) (fun h1 => ?_)
  ·
    refine wp_skip ?_
    refine tN ?_
    refine c_kT hF rfl h1 ?_
    refine sq ?_
    refine wp_region_lit ?_
    refine st hF (g_assign hF rfl) rfl fun a hF => ?_
    refine wpList_nil ?_
    refine tN ?_
    refine wp_ret ?_
    refine iR ?_
    refine tR ?_
    refine fin1 rfl hF.defers (res_tmp hF rfl) ⟨_, rfl, hM.below, ?_⟩
    show _ = _
    unfold eulL
    first | rw [if_pos (by omega)] | rw [if_neg (by omega), if_pos (by omega)] | rw [if_neg (by omega), if_neg (by omega), if_pos (by omega)] | rw [if_neg (by omega), if_neg (by omega), if_neg (by omega), if_pos (by omega)] | rw [if_neg (by omega), if_neg (by omega), if_neg (by omega), if_neg (by omega)]
  ·
    refine wp_region_lit ?_
    refine st hF (g_eql hF rfl rfl) rfl fun a hF => st hF (g_assign hF rfl) rfl fun a hF => ?_
    refine wpList_nil ?_
    refine tN ?_
    refine c_cond hF rfl (fun h3 => ?_) (fun h3 => ?_)
    ·
      refine sq ?_
      refine wp_region_lit ?_
      refine st hF (g_assign hF rfl) rfl fun a hF => ?_
      refine wpList_nil ?_
      refine tN ?_
      refine wp_ret ?_
      refine iR ?_
      refine tR ?_
      refine fin1 rfl hF.defers (res_tmp hF rfl) ⟨_, rfl, hM.below, ?_⟩
      show _ = _
      unfold eulL
      first | rw [if_pos (by omega)] | rw [if_neg (by omega), if_pos (by omega)] | rw [if_neg (by omega), if_neg (by omega), if_pos (by omega)] | rw [if_neg (by omega), if_neg (by omega), if_neg (by omega), if_pos (by omega)] | rw [if_neg (by omega), if_neg (by omega), if_neg (by omega), if_neg (by omega)]
    ·
      refine sq ?_
      refine sq ?_
      refine wp_region_lit ?_
      refine st hF (g_eql hF rfl rfl) rfl fun a hF => st hF (g_assign hF rfl) rfl fun a hF => ?_
      refine wpList_nil ?_
      refine tN ?_
      refine c_cond hF rfl (fun h4 => ?_) (fun h4 => ?_)
      ·
        refine wp_skip ?_
        refine tN ?_
        refine c_kT hF rfl h4 ?_
        refine sq ?_
        refine wp_region_lit ?_
        refine st hF (g_assign hF rfl) rfl fun a hF => ?_
        refine wpList_nil ?_
        refine tN ?_
        refine wp_ret ?_
        refine iR ?_
        refine tR ?_
        refine fin1 rfl hF.defers (res_tmp hF rfl) ⟨_, rfl, hM.below, ?_⟩
        show _ = _
        unfold eulL
        first | rw [if_pos (by omega)] | rw [if_neg (by omega), if_pos (by omega)] | rw [if_neg (by omega), if_neg (by omega), if_pos (by omega)] | rw [if_neg (by omega), if_neg (by omega), if_neg (by omega), if_pos (by omega)] | rw [if_neg (by omega), if_neg (by omega), if_neg (by omega), if_neg (by omega)]
      ·
        refine wp_region_lit ?_
        refine st hF (g_eql hF rfl rfl) rfl fun a hF => st hF (g_assign hF rfl) rfl fun a hF => ?_
        refine wpList_nil ?_
        refine tN ?_
        refine c_cond hF rfl (fun h6 => ?_) (fun h6 => ?_)
        ·
          refine sq ?_
          refine wp_region_lit ?_
          refine st hF (g_assign hF rfl) rfl fun a hF => ?_
          refine wpList_nil ?_
          refine tN ?_
          refine wp_ret ?_
          refine iR ?_
          refine tR ?_
          refine fin1 rfl hF.defers (res_tmp hF rfl) ⟨_, rfl, hM.below, ?_⟩
          show _ = _
          unfold eulL
          first | rw [if_pos (by omega)] | rw [if_neg (by omega), if_pos (by omega)] | rw [if_neg (by omega), if_neg (by omega), if_pos (by omega)] | rw [if_neg (by omega), if_neg (by omega), if_neg (by omega), if_pos (by omega)] | rw [if_neg (by omega), if_neg (by omega), if_neg (by omega), if_neg (by omega)]
        ·
          refine wp_skip ?_
          refine iN ?_
          refine tN ?_
          refine sq ?_
          refine wp_region_lit ?_
          refine st hF (g_assign hF rfl) rfl fun a hF => ?_
          refine wpList_nil ?_
          refine tN ?_
          refine wp_ret ?_
          refine fin1 rfl hF.defers (res_tmp hF rfl) ⟨_, rfl, hM.below, ?_⟩
          show _ = _
          unfold eulL
          first | rw [if_pos (by omega)] | rw [if_neg (by omega), if_pos (by omega)] | rw [if_neg (by omega), if_neg (by omega), if_pos (by omega)] | rw [if_neg (by omega), if_neg (by omega), if_neg (by omega), if_pos (by omega)] | rw [if_neg (by omega), if_neg (by omega), if_neg (by omega), if_neg (by omega)]

theorem l04Euler_ok (c : Nat) (w : World) (hc : c < 256) :
    CallsR Try.prog 36 #[.int .u8 (((c : Nat) : Int))] w (fun res _ => res = .int .i64 (eulL c)) := by
  refine calls_fr [.int .u8 (((c : Nat) : Int))] Try.func36 rfl Try.ntmps36 rfl fun a hF => ?_
  have hM : Mem w w [] [] := MemX.start w 0
  change Fr 10 a [(0, .int .u8 (((c : Nat) : Int)))] at hF
  refine sq ?_
  refine wp_region_lit ?_
  refine st hF (g_assign hF rfl) rfl fun a hF => ?_
  refine wpList_nil ?_
  refine tN ?_
  refine sq ?_
  refine sq ?_
  refine wp_region_lit ?_
  refine st hF (g_move hF rfl) rfl fun a hF => ?_
  refine wpList_nil ?_
  refine tN ?_
  refine wp_block ?_
  refine sq ?_
  refine sq ?_
  refine wp_region_lit ?_
  refine st hF (g_eql hF rfl rfl) rfl fun a hF => st hF (g_assign hF rfl) rfl fun a hF => ?_
  refine wpList_nil ?_
  refine tN ?_
  refine c_cond hF rfl (fun h1 => ?_) (fun h1 => ?_)
  ·
    refine wp_skip ?_
    refine tN ?_
    refine c_kT hF rfl h1 ?_
    refine sq ?_
    refine wp_region_lit ?_
    refine st hF (g_assign hF rfl) rfl fun a hF => ?_
    refine wpList_nil ?_
    refine tN ?_
    refine wp_ret ?_
    refine iR ?_
    refine tR ?_
    refine fin1 rfl hF.defers (res_tmp hF rfl) ⟨_, rfl, hM.below, ?_⟩
    show _ = _
    unfold eulL
    first | rw [if_pos (by omega)] | rw [if_neg (by omega), if_pos (by omega)] | rw [if_neg (by omega), if_neg (by omega), if_pos (by omega)] | rw [if_neg (by omega), if_neg (by omega), if_neg (by omega), if_pos (by omega)] | rw [if_neg (by omega), if_neg (by omega), if_neg (by omega), if_neg (by omega)]
  ·
    refine wp_region_lit ?_
    refine st hF (g_eql hF rfl rfl) rfl fun a hF => st hF (g_assign hF rfl) rfl fun a hF => ?_
    refine wpList_nil ?_
    refine tN ?_
    refine c_cond hF rfl (fun h3 => ?_) (fun h3 => ?_)
    ·
      refine sq ?_
      refine wp_region_lit ?_
      refine st hF (g_assign hF rfl) rfl fun a hF => ?_
      refine wpList_nil ?_
      refine tN ?_
      refine wp_ret ?_
      refine iR ?_
      refine tR ?_
      refine fin1 rfl hF.defers (res_tmp hF rfl) ⟨_, rfl, hM.below, ?_⟩
      show _ = _
      unfold eulL
      first | rw [if_pos (by omega)] | rw [if_neg (by omega), if_pos (by omega)] | rw [if_neg (by omega), if_neg (by omega), if_pos (by omega)] | rw [if_neg (by omega), if_neg (by omega), if_neg (by omega), if_pos (by omega)] | rw [if_neg (by omega), if_neg (by omega), if_neg (by omega), if_neg (by omega)]
    ·
      refine sq ?_
      refine sq ?_
      refine wp_region_lit ?_
      refine st hF (g_eql hF rfl rfl) rfl fun a hF => st hF (g_assign hF rfl) rfl fun a hF => ?_
      refine wpList_nil ?_
      refine tN ?_
      refine c_cond hF rfl (fun h4 => ?_) (fun h4 => ?_)
      ·
        refine wp_skip ?_
        refine tN ?_
        refine c_kT hF rfl h4 ?_
        refine sq ?_
        refine wp_region_lit ?_
        refine st hF (g_assign hF rfl) rfl fun a hF => ?_
        refine wpList_nil ?_
        refine tN ?_
        refine wp_ret ?_
        refine iR ?_
        refine tR ?_
        refine fin1 rfl hF.defers (res_tmp hF rfl) ⟨_, rfl, hM.below, ?_⟩
        show _ = _
        unfold eulL
        first | rw [if_pos (by omega)] | rw [if_neg (by omega), if_pos (by omega)] | rw [if_neg (by omega), if_neg (by omega), if_pos (by omega)] | rw [if_neg (by omega), if_neg (by omega), if_neg (by omega), if_pos (by omega)] | rw [if_neg (by omega), if_neg (by omega), if_neg (by omega), if_neg (by omega)]
      ·
        refine wp_region_lit ?_
        refine st hF (g_eql hF rfl rfl) rfl fun a hF => st hF (g_assign hF rfl) rfl fun a hF => ?_
        refine wpList_nil ?_
        refine tN ?_
        refine c_cond hF rfl (fun h6 => ?_) (fun h6 => ?_)
        ·
          refine sq ?_
          refine wp_region_lit ?_
          refine st hF (g_assign hF rfl) rfl fun a hF => ?_
          refine wpList_nil ?_
          refine tN ?_
          refine wp_ret ?_
          refine iR ?_
          refine tR ?_
          refine fin1 rfl hF.defers (res_tmp hF rfl) ⟨_, rfl, hM.below, ?_⟩
          show _ = _
          unfold eulL
          first | rw [if_pos (by omega)] | rw [if_neg (by omega), if_pos (by omega)] | rw [if_neg (by omega), if_neg (by omega), if_pos (by omega)] | rw [if_neg (by omega), if_neg (by omega), if_neg (by omega), if_pos (by omega)] | rw [if_neg (by omega), if_neg (by omega), if_neg (by omega), if_neg (by omega)]
        ·
          refine wp_skip ?_
          refine iN ?_
          refine tN ?_
          refine sq ?_
          refine wp_region_lit ?_
          refine st hF (g_assign hF rfl) rfl fun a hF => ?_
          refine wpList_nil ?_
          refine tN ?_
          refine wp_ret ?_
          refine fin1 rfl hF.defers (res_tmp hF rfl) ⟨_, rfl, hM.below, ?_⟩
          show _ = _
          unfold eulL
          first | rw [if_pos (by omega)] | rw [if_neg (by omega), if_pos (by omega)] | rw [if_neg (by omega), if_neg (by omega), if_pos (by omega)] | rw [if_neg (by omega), if_neg (by omega), if_neg (by omega), if_pos (by omega)] | rw [if_neg (by omega), if_neg (by omega), if_neg (by omega), if_neg (by omega)]

theorem addPiece_ok (bq c x y : Nat) (t : ByteArray) (w : World) (hc : c < 256) (hx : x < 10000000) (hy : y < 10000000) (hb : Blk w bq (layC t ((x : Nat) : Int) ((y : Nat) : Int))) :
    CallsX Try.prog [bq] 53 #[ptr bq (0), .int .u8 (((c : Nat) : Int))] w (fun v w' => v = .bool (pcB c) ∧ Blk w' bq (layC t ((x + inL c : Nat) : Int) ((y + outL c : Nat) : Int))) := by
  refine calls_frX [ptr bq (0), .int .u8 (((c : Nat) : Int))] Try.func53 rfl Try.ntmps53 rfl fun a hF => ?_
  have hM : MemX [bq] w w [some (bq, layC t ((x : Nat) : Int) ((y : Nat) : Int))] [] := MemX.startX1 0 hb
  change Fr 31 a [(0, ptr bq (0)), (1, .int .u8 (((c : Nat) : Int)))] at hF
  have hi2 := inL_le (c := c)
  have ho2 := outL_le (c := c)
  refine sq ?_
  refine wp_region_lit ?_
  refine st hF (g_assign hF rfl) rfl fun a hF => ?_
  refine wpList_nil ?_
  refine tN ?_
  refine sq ?_
  refine wp_region_lit ?_
  refine st hF (g_move hF rfl) rfl fun a hF => ?_
  refine stR hF (d_call Try.call67 hF (.cons rfl .nil) (legsOfPiece_ok (c) _ (by first | exact byt_lt | omega))) rfl ?_
  rintro _ w' a ⟨hx, rfl⟩ hF
  have hM := hM.ext hx
  refine st hF (g_move hF rfl) rfl fun a hF => st hF (g_extract hF rfl rfl) rfl fun a hF => st hF (g_extract hF rfl rfl) rfl fun a hF => st hF (g_extract hF rfl rfl) rfl fun a hF => st hF (g_assign hF rfl) rfl fun a hF => st hF (g_assign hF rfl) rfl fun a hF => st hF (g_assign hF rfl) rfl fun a hF => ?_
  refine wpList_nil ?_
  refine tN ?_
  refine sq ?_
  refine wp_region_lit ?_
  refine st hF (g_move hF rfl) rfl fun a hF => st hF (g_nilCheck hF rfl) rfl fun a hF => st hF (g_fieldAddr ty_fo_69_1 hF rfl) rfl fun a hF => st hF (g_load ty_on_2 hF rfl (hM.row 0 rfl) (layC_1 rfl)) rfl fun a hF => st hF (g_move hF rfl) rfl fun a hF => st hF (g_add hF rfl rfl (add_nat (x) (inL (c)) (by omega))) rfl fun a hF => st hF (g_nilCheck hF rfl) rfl fun a hF => st hF (g_fieldAddr ty_fo_69_1 hF rfl) rfl fun a hF => ?_
  refine stN hF (d_store 0 hM rfl ty_on_2 hF rfl rfl rfl (by first | omega | (simp only [fnC_size, cells_size, vecC_size, tabC_size, planeC_size, layC_size] <;> omega))) ?_
  intro _ w' a hM hF
  rw [show (layC t ((x : Nat) : Int) ((y : Nat) : Int)).setIfInBounds (0 + 1) (.int .i64 (((x + inL (c) : Nat) : Int))) = layC t (((x + inL (c) : Nat) : Int)) ((y : Nat) : Int) from layC_set1 rfl] at hM
  change MemX [bq] w w' [some (bq, layC t (((x + inL (c) : Nat) : Int)) ((y : Nat) : Int))] [] at hM
  refine wpList_nil ?_
  refine tN ?_
  refine sq ?_
  refine wp_region_lit ?_
  refine st hF (g_move hF rfl) rfl fun a hF => st hF (g_nilCheck hF rfl) rfl fun a hF => st hF (g_fieldAddr ty_fo_69_2 hF rfl) rfl fun a hF => st hF (g_load ty_on_2 hF rfl (hM.row 0 rfl) (layC_2 rfl)) rfl fun a hF => st hF (g_move hF rfl) rfl fun a hF => st hF (g_add hF rfl rfl (add_nat (y) (outL (c)) (by omega))) rfl fun a hF => st hF (g_nilCheck hF rfl) rfl fun a hF => st hF (g_fieldAddr ty_fo_69_2 hF rfl) rfl fun a hF => ?_
  refine stN hF (d_store 0 hM rfl ty_on_2 hF rfl rfl rfl (by first | omega | (simp only [fnC_size, cells_size, vecC_size, tabC_size, planeC_size, layC_size] <;> omega))) ?_
  intro _ w' a hM hF
  rw [show (layC t (((x + inL (c) : Nat) : Int)) ((y : Nat) : Int)).setIfInBounds (0 + 2) (.int .i64 (((y + outL (c) : Nat) : Int))) = layC t (((x + inL (c) : Nat) : Int)) (((y + outL (c) : Nat) : Int)) from layC_set2 rfl] at hM
  change MemX [bq] w w' [some (bq, layC t (((x + inL (c) : Nat) : Int)) (((y + outL (c) : Nat) : Int)))] [] at hM
  refine wpList_nil ?_
  refine tN ?_
  refine sq ?_
  refine wp_region_lit ?_
  refine st hF (g_move hF rfl) rfl fun a hF => st hF (g_assign hF rfl) rfl fun a hF => ?_
  refine wpList_nil ?_
  refine tN ?_
  refine wp_ret ?_
  refine fin1 rfl hF.defers (res_tmp hF rfl) ⟨_, rfl, hM.bel, ?_⟩
  exact ⟨rfl, hM.row 0 rfl⟩

end Go.Proofs.Ytnaabnhjokibfaa
