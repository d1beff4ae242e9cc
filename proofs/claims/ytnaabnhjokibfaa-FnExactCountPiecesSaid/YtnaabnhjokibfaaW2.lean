/- What functions of the program return, as walks over their operations; no statement of the seat is proved here. -/
import Derived.Test.YtnaabnhjokibfaaW1
import Derived.Test.YtnaabnhjokibfaaSw43
import Derived.Test.YtnaabnhjokibfaaSw44
set_option linter.unusedVariables false
set_option linter.unusedSimpArgs false
namespace Go.Proofs.Ytnaabnhjokibfaa
open Go Go.RowKit Go.Sw
open Classical
theorem ty_fo_69_0 : fieldOff Try.prog 69 0 = some 0 := by kernel_rfl
theorem ty_on_9 : oneP Try.prog 9 = true := by kernel_rfl
theorem ty_us_49 : Try.prog.underlying 49 = some (.slice 69) := by kernel_rfl
theorem ty_sl_49 : sliceOf Try.prog 49 = some 3 := by kernel_rfl
theorem ty_ze_69 : zeroP Try.prog 69 = some (.agg (layC ⟨#[]⟩ 0 0)) := by kernel_rfl
theorem ty_ut_9 : Try.prog.underlying 9 = some .string := by kernel_rfl
theorem ty_ag_69 : aggP Try.prog 69 = some 3 := by kernel_rfl
theorem ty_bsl_49 : ∀ (t : ByteArray) (p q : Int) (w : World), (Instr.buildSlice 49 1 #[(0, .agg (layC t p q))]).run Try.prog w = .ok (.slice (some ⟨w.heap.size, 0, none⟩) 1 1) (w.alloc (.cells (layC t p q) 69)) := by intros; kernel_rfl
theorem ty_si_49 : slI Try.prog 49 = some (69, some (.agg (layC ⟨#[]⟩ 0 0)), 3, 32) := by kernel_rfl
theorem ty_bu_69 : ∀ w, (Instr.build 69 #[]).run Try.prog w = .ok (.agg (layC ⟨#[]⟩ 0 0)) w := by intros; kernel_rfl
theorem ty_sz_69 : sizeP Try.prog 69 = some 3 := by kernel_rfl
theorem CallsR.val {P : Program} {f : FuncId} {args : Array Value} {w : World} {v v' : Value} (h : CallsR P f args w (fun u _ => u = v)) (e : v = v') : CallsR P f args w (fun u _ => u = v') := e ▸ h

theorem fitsOn_0 (t : ByteArray) (x y c0 : Nat) (x0 : Option Addr) (w : World) (hx : x < 100000) (hy : y < 100000) :
    CallsR Try.prog 54 #[.agg (layC t ((x : Nat) : Int) ((y : Nat) : Int)), .slice x0 0 c0] w (fun res _ => res = .bool (decide (fitP t.size x y 0 0))) := by
  refine calls_fr [.agg (layC t ((x : Nat) : Int) ((y : Nat) : Int)), .slice x0 0 c0] Try.func54 rfl Try.ntmps54 rfl fun a hF => ?_
  have hM : Mem w w [none] [] := MemX.start w 1
  change Fr 33 a [(0, .agg (layC t ((x : Nat) : Int) ((y : Nat) : Int))), (1, .slice x0 0 c0)] at hF
  refine sq ?_
  refine wp_region_lit ?_
  refine stR hF (d_box 0 hM hF rfl) rfl ?_
  rintro _ w' a ⟨b1, rfl, hM, -⟩ hF
  change Mem w w' [some (b1, layC t ((x : Nat) : Int) ((y : Nat) : Int))] [] at hM
  refine st hF (g_assign hF rfl) rfl fun a hF => ?_
  refine wpList_nil ?_
  refine tN ?_
  refine sq ?_
  refine sq ?_
  refine wp_region_lit ?_
  refine st hF (g_fieldAddr ty_fo_69_0 hF rfl) rfl fun a hF => st hF (g_load ty_on_9 hF rfl (hM.row 0 rfl) (layC_0 rfl)) rfl fun a hF => st hF (g_eqlS hF rfl rfl) rfl fun a hF => st hF (g_move hF rfl) rfl fun a hF => ?_
  by_cases g2 : (t : ByteArray).toList = (⟨#[]⟩ : ByteArray).toList
  ·
    first | rw [decide_eq_true g2] at hF | simp only [decide_eq_true g2] at hF
    have hz : t.size = 0 := str_iff.1 g2
    refine stS hF rfl rfl rfl rfl rfl fun a hF => stS hF rfl rfl rfl rfl rfl fun a hF => stS hF rfl rfl rfl rfl rfl fun a hF => st hF (g_pickT hF rfl rfl) rfl fun a hF => st hF (g_move hF rfl) rfl fun a hF => stS hF rfl rfl rfl rfl rfl fun a hF => stS hF rfl rfl rfl rfl rfl fun a hF => stS hF rfl rfl rfl rfl rfl fun a hF => st hF (g_pickT hF rfl rfl) rfl fun a hF => ?_
    refine wpList_nil ?_
    refine tN ?_
    refine c_T hF rfl ?_
    refine sq ?_
    refine wp_region_lit ?_
    refine st hF (g_assign hF rfl) rfl fun a hF => ?_
    refine wpList_nil ?_
    refine tN ?_
    refine wp_ret ?_
    refine tR ?_
    refine fin1 rfl hF.defers (res_tmp hF rfl) ⟨_, rfl, hM.below, ?_⟩
    show _ = _
    first | exact congrArg Value.bool (decide_eq_false (by unfold fitP; omega)).symm | exact congrArg Value.bool (decide_eq_true (by unfold fitP; omega)).symm | exact congrArg Value.bool (decide_eq_decide.2 (by unfold fitP; omega))
  ·
    first | rw [decide_eq_false g2] at hF | simp only [decide_eq_false g2] at hF
    have hz : ¬ t.size = 0 := fun e => g2 (str_iff.2 e)
    refine stY hF rfl rfl rfl (g_fieldAddr ty_fo_69_1 hF rfl) rfl fun a hF => stY hF rfl rfl rfl (g_load ty_on_2 hF rfl (hM.row 0 rfl) (layC_1 rfl)) rfl fun a hF => stY hF rfl rfl rfl (g_gtr hF rfl rfl) rfl fun a hF => st hF (g_pickF hF rfl rfl) rfl fun a hF => st hF (g_move hF rfl) rfl fun a hF => ?_
    by_cases g4 : 6 < (((x : Nat) : Int) : Int)
    ·
      first | rw [decide_eq_true g4] at hF | simp only [decide_eq_true g4] at hF
      refine stS hF rfl rfl rfl rfl rfl fun a hF => stS hF rfl rfl rfl rfl rfl fun a hF => stS hF rfl rfl rfl rfl rfl fun a hF => st hF (g_pickT hF rfl rfl) rfl fun a hF => ?_
      refine wpList_nil ?_
      refine tN ?_
      refine c_T hF rfl ?_
      refine sq ?_
      refine wp_region_lit ?_
      refine st hF (g_assign hF rfl) rfl fun a hF => ?_
      refine wpList_nil ?_
      refine tN ?_
      refine wp_ret ?_
      refine tR ?_
      refine fin1 rfl hF.defers (res_tmp hF rfl) ⟨_, rfl, hM.below, ?_⟩
      show _ = _
      first | exact congrArg Value.bool (decide_eq_false (by unfold fitP; omega)).symm | exact congrArg Value.bool (decide_eq_true (by unfold fitP; omega)).symm | exact congrArg Value.bool (decide_eq_decide.2 (by unfold fitP; omega))
    ·
      first | rw [decide_eq_false g4] at hF | simp only [decide_eq_false g4] at hF
      refine stY hF rfl rfl rfl (g_fieldAddr ty_fo_69_2 hF rfl) rfl fun a hF => stY hF rfl rfl rfl (g_load ty_on_2 hF rfl (hM.row 0 rfl) (layC_2 rfl)) rfl fun a hF => stY hF rfl rfl rfl (g_gtr hF rfl rfl) rfl fun a hF => st hF (g_pickF hF rfl rfl) rfl fun a hF => ?_
      refine wpList_nil ?_
      refine tN ?_
      refine c_cond hF rfl (fun h6 => ?_) (fun h6 => ?_)
      ·
        refine sq ?_
        refine wp_region_lit ?_
        refine st hF (g_assign hF rfl) rfl fun a hF => ?_
        refine wpList_nil ?_
        refine tN ?_
        refine wp_ret ?_
        refine tR ?_
        refine fin1 rfl hF.defers (res_tmp hF rfl) ⟨_, rfl, hM.below, ?_⟩
        show _ = _
        first | exact congrArg Value.bool (decide_eq_false (by unfold fitP; omega)).symm | exact congrArg Value.bool (decide_eq_true (by unfold fitP; omega)).symm | exact congrArg Value.bool (decide_eq_decide.2 (by unfold fitP; omega))
      ·
        refine wp_skip ?_
        refine tN ?_
        refine sq ?_
        refine c_parQ 13 [] [.val (.slice x0 0 c0), .val (.int .i64 (0)), .val (.bool (true)), .val (.bool (true)), .val undef, .val undef, .val undef, .val undef, .val undef, .val undef, .val undef, .val undef, .val undef] hmix rfl hF rfl hM ⟨fun a w gG hF hS hd => q_none rfl (by exact par_val hS rfl (g_move hF rfl)), fun a w gG hF hS hd => q_none rfl (by have hF := hF.ext1 18 (hd 0 rfl rfl); exact par_val hS rfl (g_lenX ty_us_49 hF rfl)), fun a w gG hF hS hd => q_none rfl (by have hF := hF.ext1 19 (hd 1 rfl rfl); exact par_val hS rfl (gives_eq (g_eql hF rfl rfl) (congrArg Value.bool (decide_eq_true (by omega))))), fun a w gG hF hS hd => q_none rfl (by have hF := hF.ext1 20 (hd 2 rfl rfl); exact par_val hS rfl (g_move hF rfl)), fun a w gG hF hS hd => q_no rfl (hF.ext1 21 (hd 3 rfl rfl)) rfl rfl rfl rfl ⟨gG, hS, fact_get rfl rfl, fun _ _ _ h => h⟩, fun a w gG hF hS hd => q_no rfl (hF.ext1 21 (hd 3 rfl rfl)) rfl rfl rfl rfl ⟨gG, hS, fact_get rfl rfl, fun _ _ _ h => h⟩, fun a w gG hF hS hd => q_no rfl (hF.ext1 21 (hd 3 rfl rfl)) rfl rfl rfl rfl ⟨gG, hS, fact_get rfl rfl, fun _ _ _ h => h⟩, fun a w gG hF hS hd => q_no rfl (hF.ext1 21 (hd 3 rfl rfl)) rfl rfl rfl rfl ⟨gG, hS, fact_get rfl rfl, fun _ _ _ h => h⟩, fun a w gG hF hS hd => q_no rfl (hF.ext1 21 (hd 3 rfl rfl)) rfl rfl rfl rfl ⟨gG, hS, fact_get rfl rfl, fun _ _ _ h => h⟩, fun a w gG hF hS hd => q_no rfl (hF.ext1 21 (hd 3 rfl rfl)) rfl rfl rfl rfl ⟨gG, hS, fact_get rfl rfl, fun _ _ _ h => h⟩, fun a w gG hF hS hd => q_no rfl (hF.ext1 21 (hd 3 rfl rfl)) rfl rfl rfl rfl ⟨gG, hS, fact_get rfl rfl, fun _ _ _ h => h⟩, fun a w gG hF hS hd => q_no rfl (hF.ext1 21 (hd 3 rfl rfl)) rfl rfl rfl rfl ⟨gG, hS, fact_get rfl rfl, fun _ _ _ h => h⟩, fun a w gG hF hS hd => q_no rfl (hF.ext1 21 (hd 3 rfl rfl)) rfl rfl rfl rfl ⟨gG, hS, fact_get rfl rfl, fun _ _ _ h => h⟩, trivial⟩ ?_
        intro a w' L hF hS hq
        have hM := hS.mem rfl
        have hF := hF.ext1 18 (hq 0 rfl rfl)
        have hF := hF.ext1 19 (hq 1 rfl rfl)
        have hF := hF.ext1 20 (hq 2 rfl rfl)
        have hF := hF.ext1 21 (hq 3 rfl rfl)
        have hF := hF.ext1 22 (hq 4 rfl rfl)
        have hF := hF.ext1 23 (hq 5 rfl rfl)
        have hF := hF.ext1 24 (hq 6 rfl rfl)
        have hF := hF.ext1 25 (hq 7 rfl rfl)
        have hF := hF.ext1 26 (hq 8 rfl rfl)
        have hF := hF.ext1 27 (hq 9 rfl rfl)
        have hF := hF.ext1 28 (hq 10 rfl rfl)
        have hF := hF.ext1 29 (hq 11 rfl rfl)
        have hF := hF.ext1 30 (hq 12 rfl rfl)
        change Mem w w' [some (b1, layC t ((x : Nat) : Int) ((y : Nat) : Int))] [] at hM
        change wpList Try.prog _ _ [_, _, _] _ _
        refine stS hF rfl rfl rfl rfl rfl fun a hF => st hF (g_pickT hF rfl rfl) rfl fun a hF => st hF (g_assign hF rfl) rfl fun a hF => ?_
        refine wpList_nil ?_
        refine tN ?_
        refine wp_ret ?_
        refine fin1 rfl hF.defers (res_tmp hF rfl) ⟨_, rfl, hM.below, ?_⟩
        show _ = _
        first | exact congrArg Value.bool (decide_eq_false (by unfold fitP; omega)).symm | exact congrArg Value.bool (decide_eq_true (by unfold fitP; omega)).symm | exact congrArg Value.bool (decide_eq_decide.2 (by unfold fitP; omega))

theorem fitsOn_S (t s : ByteArray) (x y k bl cl : Nat) (cs : Array Value) (v : Value) (e : Option (Nat × Array Value)) (w : World) (hx : x < 100000) (hy : y < 100000) (hk0 : 0 < k) (hk : k < 100000) (hs : SlAt 3 v e k bl cl cs (layF s)) (hb : Blk w bl cs) :
    CallsR Try.prog 54 #[.agg (layC t ((x : Nat) : Int) ((y : Nat) : Int)), .slice (some ⟨bl, 0, none⟩) (k) (cl)] w (fun res _ => res = .bool (decide (fitP t.size x y k (outR s (sgB s 47 (k - 1)))))) := by
  refine calls_fr [.agg (layC t ((x : Nat) : Int) ((y : Nat) : Int)), .slice (some ⟨bl, 0, none⟩) (k) (cl)] Try.func54 rfl Try.ntmps54 rfl fun a hF => ?_
  have hM : Mem w w [none] [(bl, cs)] := MemX.startD w 1 _ (startD1 hb)
  change Fr 33 a [(0, .agg (layC t ((x : Nat) : Int) ((y : Nat) : Int))), (1, .slice (some ⟨bl, 0, none⟩) (k) (cl))] at hF
  refine sq ?_
  refine wp_region_lit ?_
  refine stR hF (d_box 0 hM hF rfl) rfl ?_
  rintro _ w' a ⟨b1, rfl, hM, -⟩ hF
  change Mem w w' [some (b1, layC t ((x : Nat) : Int) ((y : Nat) : Int))] [(bl, cs)] at hM
  refine st hF (g_assign hF rfl) rfl fun a hF => ?_
  refine wpList_nil ?_
  refine tN ?_
  refine sq ?_
  refine sq ?_
  refine wp_region_lit ?_
  refine st hF (g_fieldAddr ty_fo_69_0 hF rfl) rfl fun a hF => st hF (g_load ty_on_9 hF rfl (hM.row 0 rfl) (layC_0 rfl)) rfl fun a hF => st hF (g_eqlS hF rfl rfl) rfl fun a hF => st hF (g_move hF rfl) rfl fun a hF => ?_
  by_cases g2 : (t : ByteArray).toList = (⟨#[]⟩ : ByteArray).toList
  ·
    first | rw [decide_eq_true g2] at hF | simp only [decide_eq_true g2] at hF
    have hz : t.size = 0 := str_iff.1 g2
    refine stS hF rfl rfl rfl rfl rfl fun a hF => stS hF rfl rfl rfl rfl rfl fun a hF => stS hF rfl rfl rfl rfl rfl fun a hF => st hF (g_pickT hF rfl rfl) rfl fun a hF => st hF (g_move hF rfl) rfl fun a hF => stS hF rfl rfl rfl rfl rfl fun a hF => stS hF rfl rfl rfl rfl rfl fun a hF => stS hF rfl rfl rfl rfl rfl fun a hF => st hF (g_pickT hF rfl rfl) rfl fun a hF => ?_
    refine wpList_nil ?_
    refine tN ?_
    refine c_T hF rfl ?_
    refine sq ?_
    refine wp_region_lit ?_
    refine st hF (g_assign hF rfl) rfl fun a hF => ?_
    refine wpList_nil ?_
    refine tN ?_
    refine wp_ret ?_
    refine tR ?_
    refine fin1 rfl hF.defers (res_tmp hF rfl) ⟨_, rfl, hM.below, ?_⟩
    show _ = _
    first | exact congrArg Value.bool (decide_eq_false (by unfold fitP; omega)).symm | exact congrArg Value.bool (decide_eq_true (by unfold fitP; omega)).symm | exact congrArg Value.bool (decide_eq_decide.2 (by unfold fitP; omega))
  ·
    first | rw [decide_eq_false g2] at hF | simp only [decide_eq_false g2] at hF
    have hz : ¬ t.size = 0 := fun e => g2 (str_iff.2 e)
    refine stY hF rfl rfl rfl (g_fieldAddr ty_fo_69_1 hF rfl) rfl fun a hF => stY hF rfl rfl rfl (g_load ty_on_2 hF rfl (hM.row 0 rfl) (layC_1 rfl)) rfl fun a hF => stY hF rfl rfl rfl (g_gtr hF rfl rfl) rfl fun a hF => st hF (g_pickF hF rfl rfl) rfl fun a hF => st hF (g_move hF rfl) rfl fun a hF => ?_
    by_cases g4 : 6 < (((x : Nat) : Int) : Int)
    ·
      first | rw [decide_eq_true g4] at hF | simp only [decide_eq_true g4] at hF
      refine stS hF rfl rfl rfl rfl rfl fun a hF => stS hF rfl rfl rfl rfl rfl fun a hF => stS hF rfl rfl rfl rfl rfl fun a hF => st hF (g_pickT hF rfl rfl) rfl fun a hF => ?_
      refine wpList_nil ?_
      refine tN ?_
      refine c_T hF rfl ?_
      refine sq ?_
      refine wp_region_lit ?_
      refine st hF (g_assign hF rfl) rfl fun a hF => ?_
      refine wpList_nil ?_
      refine tN ?_
      refine wp_ret ?_
      refine tR ?_
      refine fin1 rfl hF.defers (res_tmp hF rfl) ⟨_, rfl, hM.below, ?_⟩
      show _ = _
      first | exact congrArg Value.bool (decide_eq_false (by unfold fitP; omega)).symm | exact congrArg Value.bool (decide_eq_true (by unfold fitP; omega)).symm | exact congrArg Value.bool (decide_eq_decide.2 (by unfold fitP; omega))
    ·
      first | rw [decide_eq_false g4] at hF | simp only [decide_eq_false g4] at hF
      refine stY hF rfl rfl rfl (g_fieldAddr ty_fo_69_2 hF rfl) rfl fun a hF => stY hF rfl rfl rfl (g_load ty_on_2 hF rfl (hM.row 0 rfl) (layC_2 rfl)) rfl fun a hF => stY hF rfl rfl rfl (g_gtr hF rfl rfl) rfl fun a hF => st hF (g_pickF hF rfl rfl) rfl fun a hF => ?_
      refine wpList_nil ?_
      refine tN ?_
      refine c_cond hF rfl (fun h6 => ?_) (fun h6 => ?_)
      ·
        refine sq ?_
        refine wp_region_lit ?_
        refine st hF (g_assign hF rfl) rfl fun a hF => ?_
        refine wpList_nil ?_
        refine tN ?_
        refine wp_ret ?_
        refine tR ?_
        refine fin1 rfl hF.defers (res_tmp hF rfl) ⟨_, rfl, hM.below, ?_⟩
        show _ = _
        first | exact congrArg Value.bool (decide_eq_false (by unfold fitP; omega)).symm | exact congrArg Value.bool (decide_eq_true (by unfold fitP; omega)).symm | exact congrArg Value.bool (decide_eq_decide.2 (by unfold fitP; omega))
      ·
        refine wp_skip ?_
        refine tN ?_
        refine sq ?_
        refine c_parQ 13 [] [.val (.slice (some ⟨bl, 0, none⟩) (k) (cl)), .val (.int .i64 (((k : Nat) : Int))), .val (.bool (false)), .val (.bool (false)), .val (.slice (some ⟨bl, 0, none⟩) (k) (cl)), .val (.slice (some ⟨bl, 0, none⟩) (k) (cl)), .val (.int .i64 (((k : Nat) : Int))), .val (.int .i64 (((k - 1 : Nat) : Int))), .val (ptr bl (0 + (k - 1) * 3)), .val (ptr bl (0 + (k - 1) * 3 + 2)), .val (.int .i64 (((outR s (sgB s 47 (k - 1)) : Nat) : Int))), .val (ptr b1 (0 + 1)), .val (.int .i64 (((x : Nat) : Int)))] hmix rfl hF rfl hM ⟨fun a w gG hF hS hd => q_none rfl (by exact par_val hS rfl (g_move hF rfl)), fun a w gG hF hS hd => q_none rfl (by have hF := hF.ext1 18 (hd 0 rfl rfl); exact par_val hS rfl (g_len ty_us_49 hF rfl)), fun a w gG hF hS hd => q_none rfl (by have hF := hF.ext1 19 (hd 1 rfl rfl); exact par_val hS rfl (gives_eq (g_eql hF rfl rfl) (congrArg Value.bool (decide_eq_false (by omega))))), fun a w gG hF hS hd => q_none rfl (by have hF := hF.ext1 20 (hd 2 rfl rfl); exact par_val hS rfl (g_move hF rfl)), fun a w gG hF hS hd => q_yes rfl (hF.ext1 21 (hd 3 rfl rfl)) rfl rfl rfl (by exact par_val hS rfl (g_move hF rfl)), fun a w gG hF hS hd => q_yes rfl (hF.ext1 21 (hd 3 rfl rfl)) rfl rfl rfl (by exact par_val hS rfl (g_move hF rfl)), fun a w gG hF hS hd => q_yes rfl (hF.ext1 21 (hd 3 rfl rfl)) rfl rfl rfl (by have hF := hF.ext1 23 (hd 5 rfl rfl); exact par_val hS rfl (g_len ty_us_49 hF rfl)), fun a w gG hF hS hd => q_yes rfl (hF.ext1 21 (hd 3 rfl rfl)) rfl rfl rfl (by have hF := hF.ext1 24 (hd 6 rfl rfl); exact par_val hS rfl (g_sub hF rfl rfl (show _ = ((k - 1 : Nat) : Int) from (by rw [wrap_i64] <;> omega)))), fun a w gG hF hS hd => q_yes rfl (hF.ext1 21 (hd 3 rfl rfl)) rfl rfl rfl (by have hF := hF.ext1 22 (hd 4 rfl rfl); have hF := hF.ext1 25 (hd 7 rfl rfl); exact par_val hS rfl (g_indexSl (i := k - 1) ty_sl_49 hF rfl rfl rfl (by omega))), fun a w gG hF hS hd => q_yes rfl (hF.ext1 21 (hd 3 rfl rfl)) rfl rfl rfl (by have hF := hF.ext1 26 (hd 8 rfl rfl); exact par_val hS rfl (g_fieldAddr ty_fo_69_2 hF rfl)), fun a w gG hF hS hd => q_yes rfl (hF.ext1 21 (hd 3 rfl rfl)) rfl rfl rfl (by have hF := hF.ext1 27 (hd 9 rfl rfl); have hM := hS.mem rfl; exact par_val hS rfl (g_load ty_on_2 hF rfl (hM.fz 0 rfl) ((hs.get3 (k - 1) 2 (by omega) (by omega) (by omega)).trans (congrArg some (layF_2 (k - 1) rfl))))), fun a w gG hF hS hd => q_yes rfl (hF.ext1 21 (hd 3 rfl rfl)) rfl rfl rfl (by exact par_val hS rfl (g_fieldAddr ty_fo_69_1 hF rfl)), fun a w gG hF hS hd => q_yes rfl (hF.ext1 21 (hd 3 rfl rfl)) rfl rfl rfl (by have hF := hF.ext1 29 (hd 11 rfl rfl); have hM := hS.mem rfl; exact par_val hS rfl (g_load ty_on_2 hF rfl (hM.row 0 rfl) (layC_1 rfl))), trivial⟩ ?_
        intro a w' L hF hS hq
        have hM := hS.mem rfl
        have hF := hF.ext1 18 (hq 0 rfl rfl)
        have hF := hF.ext1 19 (hq 1 rfl rfl)
        have hF := hF.ext1 20 (hq 2 rfl rfl)
        have hF := hF.ext1 21 (hq 3 rfl rfl)
        have hF := hF.ext1 22 (hq 4 rfl rfl)
        have hF := hF.ext1 23 (hq 5 rfl rfl)
        have hF := hF.ext1 24 (hq 6 rfl rfl)
        have hF := hF.ext1 25 (hq 7 rfl rfl)
        have hF := hF.ext1 26 (hq 8 rfl rfl)
        have hF := hF.ext1 27 (hq 9 rfl rfl)
        have hF := hF.ext1 28 (hq 10 rfl rfl)
        have hF := hF.ext1 29 (hq 11 rfl rfl)
        have hF := hF.ext1 30 (hq 12 rfl rfl)
        change Mem w w' [some (b1, layC t ((x : Nat) : Int) ((y : Nat) : Int))] [(bl, cs)] at hM
        change wpList Try.prog _ _ [_, _, _] _ _
        refine stY hF rfl rfl rfl (g_eql hF rfl rfl) rfl fun a hF => st hF (g_pickF hF rfl rfl) rfl fun a hF => st hF (g_assign hF rfl) rfl fun a hF => ?_
        refine wpList_nil ?_
        refine tN ?_
        refine wp_ret ?_
        refine fin1 rfl hF.defers (res_tmp hF rfl) ⟨_, rfl, hM.below, ?_⟩
        show _ = _
        first | exact congrArg Value.bool (decide_eq_false (by unfold fitP; omega)).symm | exact congrArg Value.bool (decide_eq_true (by unfold fitP; omega)).symm | exact congrArg Value.bool (decide_eq_decide.2 (by unfold fitP; omega))

theorem fitsOn_ok (t s : ByteArray) (x y k : Nat) (u : Value) (e : Option (Nat × Array Value)) (w : World) (hx : x < 100000) (hy : y < 100000) (hk : k < 100000) (hs : Sl 3 u e k (layF s)) (hb : ∀ b cs, e = some (b, cs) → Blk w b cs) :
    CallsR Try.prog 54 #[.agg (layC t ((x : Nat) : Int) ((y : Nat) : Int)), u] w (fun res _ => res = .bool (decide (fitP t.size x y k (outR s (sgB s 47 (k - 1)))))) := by
  have h0 : ∀ x0 c0, k = 0 → CallsR Try.prog 54 #[.agg (layC t ((x : Nat) : Int) ((y : Nat) : Int)), .slice x0 0 c0] w (fun res _ => res = .bool (decide (fitP t.size x y k (outR s (sgB s 47 (k - 1)))))) := fun x0 c0 hk0 =>
    CallsR.val (fitsOn_0 t x y c0 x0 w hx hy) (congrArg Value.bool (decide_eq_decide.2 (by subst hk0; unfold fitP; omega)))
  rcases hs with ⟨rfl, rfl, h⟩ | ⟨b, cap, cs, h⟩
  · exact h0 none 0 h
  · obtain rfl := h.val
    by_cases hk0 : k = 0
    · rw [hk0]; rw [hk0] at h0; exact h0 _ _ rfl
    · exact fitsOn_S t s x y k b cap cs _ _ w hx hy (by omega) hk h (hb _ _ h.ent)

theorem layersOf_E  (w : World)  :
    CallsR Try.prog 33 #[.string (⟨#[]⟩)] w (fun res _ => res = .tuple #[.slice none 0 0, .bool true]) := by
  refine calls_fr [.string (⟨#[]⟩)] Try.func33 rfl Try.ntmps33 rfl fun a hF => ?_
  have hM : Mem w w [none, none, none] [] := MemX.start w 3
  change Fr 56 a [(0, .string (⟨#[]⟩))] at hF
  refine sq ?_
  refine wp_region_lit ?_
  refine st hF (g_assign hF rfl) rfl fun a hF => st hF (g_assign hF rfl) rfl fun a hF => ?_
  refine wpList_nil ?_
  refine tN ?_
  refine wp_scope_straight ?_
  refine sq ?_
  refine wp_region_lit ?_
  refine st hF (g_assign hF rfl) rfl fun a hF => ?_
  refine wpList_nil ?_
  refine tN ?_
  refine sq ?_
  refine wp_region_lit ?_
  refine stR hF (d_alloc 0 hM ty_ze_69) rfl ?_
  rintro _ w' a ⟨b1, rfl, hM, -⟩ hF
  change Mem w w' [some (b1, layC ⟨#[]⟩ 0 0), none, none] [] at hM
  refine wpList_nil ?_
  refine tN ?_
  refine sq ?_
  refine wp_region_lit ?_
  refine st hF (g_assign hF rfl) rfl fun a hF => st hF (g_assign hF rfl) rfl fun a hF => ?_
  refine wpList_nil ?_
  refine tN ?_
  refine sq ?_
  refine sq ?_
  refine wp_region_lit ?_
  refine st hF (g_move hF rfl) rfl fun a hF => st hF (g_eqlS hF rfl rfl) rfl fun a hF => st hF (g_move hF rfl) rfl fun a hF => ?_
  by_cases g2 : (⟨#[]⟩ : ByteArray).toList = (⟨#[]⟩ : ByteArray).toList
  ·
    first | rw [decide_eq_true g2] at hF | simp only [decide_eq_true g2] at hF
    refine stS hF rfl rfl rfl rfl rfl fun a hF => stS hF rfl rfl rfl rfl rfl fun a hF => stS hF rfl rfl rfl rfl rfl fun a hF => st hF (g_pickT hF rfl rfl) rfl fun a hF => ?_
    refine wpList_nil ?_
    refine tN ?_
    refine c_T hF rfl ?_
    refine sq ?_
    refine wp_region_lit ?_
    refine st hF (g_move hF rfl) rfl fun a hF => st hF (g_eqlS hF rfl rfl) rfl fun a hF => st hF (g_assign hF rfl) rfl fun a hF => st hF (g_assign hF rfl) rfl fun a hF => ?_
    refine wpList_nil ?_
    refine tN ?_
    refine wp_ret ?_
    refine tR ?_
    refine sR ?_
    refine fin2 rfl hF.defers (res_tmp hF rfl) (res_tmp hF rfl) ⟨_, rfl, hM.below, ?_⟩
    show _ = _
    exact congrArg (fun b => Value.tuple #[.slice none 0 0, .bool b]) (decide_eq_true rfl)
  ·
    first | rw [decide_eq_false g2] at hF | simp only [decide_eq_false g2] at hF
    exact absurd rfl g2

theorem layersOf_L (s : ByteArray) (w : World) (h0 : 300 < s.size) :
    CallsR Try.prog 33 #[.string (s)] w (fun res _ => res = .tuple #[.slice none 0 0, .bool false]) := by
  refine calls_fr [.string (s)] Try.func33 rfl Try.ntmps33 rfl fun a hF => ?_
  have hM : Mem w w [none, none, none] [] := MemX.start w 3
  change Fr 56 a [(0, .string (s))] at hF
  refine sq ?_
  refine wp_region_lit ?_
  refine st hF (g_assign hF rfl) rfl fun a hF => st hF (g_assign hF rfl) rfl fun a hF => ?_
  refine wpList_nil ?_
  refine tN ?_
  refine wp_scope_straight ?_
  refine sq ?_
  refine wp_region_lit ?_
  refine st hF (g_assign hF rfl) rfl fun a hF => ?_
  refine wpList_nil ?_
  refine tN ?_
  refine sq ?_
  refine wp_region_lit ?_
  refine stR hF (d_alloc 0 hM ty_ze_69) rfl ?_
  rintro _ w' a ⟨b1, rfl, hM, -⟩ hF
  change Mem w w' [some (b1, layC ⟨#[]⟩ 0 0), none, none] [] at hM
  refine wpList_nil ?_
  refine tN ?_
  refine sq ?_
  refine wp_region_lit ?_
  refine st hF (g_assign hF rfl) rfl fun a hF => st hF (g_assign hF rfl) rfl fun a hF => ?_
  refine wpList_nil ?_
  refine tN ?_
  refine sq ?_
  refine sq ?_
  refine wp_region_lit ?_
  refine st hF (g_move hF rfl) rfl fun a hF => st hF (g_eqlS hF rfl rfl) rfl fun a hF => st hF (g_move hF rfl) rfl fun a hF => ?_
  by_cases g2 : (s : ByteArray).toList = (⟨#[]⟩ : ByteArray).toList
  ·
    first | rw [decide_eq_true g2] at hF | simp only [decide_eq_true g2] at hF
    exact absurd (str_iff.1 g2) (by omega)
  ·
    first | rw [decide_eq_false g2] at hF | simp only [decide_eq_false g2] at hF
    refine stY hF rfl rfl rfl (g_move hF rfl) rfl fun a hF => stY hF rfl rfl rfl (g_lenS ty_ut_9 hF rfl) rfl fun a hF => stY hF rfl rfl rfl (g_gtr hF rfl rfl) rfl fun a hF => st hF (g_pickF hF rfl rfl) rfl fun a hF => ?_
    refine wpList_nil ?_
    refine tN ?_
    refine c_cond hF rfl (fun h3 => ?_) (fun h3 => ?_)
    ·
      refine sq ?_
      refine wp_region_lit ?_
      refine st hF (g_move hF rfl) rfl fun a hF => st hF (g_eqlS hF rfl rfl) rfl fun a hF => st hF (g_assign hF rfl) rfl fun a hF => st hF (g_assign hF rfl) rfl fun a hF => ?_
      refine wpList_nil ?_
      refine tN ?_
      refine wp_ret ?_
      refine tR ?_
      refine sR ?_
      refine fin2 rfl hF.defers (res_tmp hF rfl) (res_tmp hF rfl) ⟨_, rfl, hM.below, ?_⟩
      show _ = _
      exact congrArg (fun b => Value.tuple #[.slice none 0 0, .bool b]) (decide_eq_false (fun e => by have := str_iff.1 e; omega))
    ·
      exfalso; omega

theorem layersOf_N (s : ByteArray) (w : World) (hW : ¬ WordP s) (h0 : 0 < s.size) (h3 : s.size ≤ 300) :
    CallsR Try.prog 33 #[.string (s)] w (fun res _ => res = .tuple #[.slice none 0 0, .bool false]) := by
  refine calls_fr [.string (s)] Try.func33 rfl Try.ntmps33 rfl fun a hF => ?_
  have hM : Mem w w [none, none, none] [] := MemX.start w 3
  change Fr 56 a [(0, .string (s))] at hF
  refine sq ?_
  refine wp_region_lit ?_
  refine st hF (g_assign hF rfl) rfl fun a hF => st hF (g_assign hF rfl) rfl fun a hF => ?_
  refine wpList_nil ?_
  refine tN ?_
  refine wp_scope_labels (fun l m a w' => (l = 1 ∧ ∃ (at_ : Nat), ∃ (st_ : Nat), ∃ (x_ : Nat), ∃ (y_ : Nat), ∃ (k_ : Nat), ∃ (b5 : Nat), ∃ (u4_1 : Value) (e4_1 : Option (Nat × Array Value)), m = 2 * (s.size - at_) + 1 ∧ (at_ ≤ s.size ∧ st_ = sta s 47 at_ ∧ x_ = inR s at_ ∧ y_ = outR s at_ ∧ k_ = cnt s 47 at_ ∧ (∀ i, i < at_ → byt s i = 47 ∨ pcB (byt s i) = true) ∧ (∀ b, b < at_ → byt s b = 47 → layP s b)) ∧ Sl 3 u4_1 e4_1 (k_) (layF s) ∧ Fr 56 a [(0, .string (s)), (5, ptr b5 (0)), (6, .int .i64 (((st_ : Nat) : Int))), (7, .int .i64 (((at_ : Nat) : Int))), (4, u4_1)] ∧ Mem w w' [some (b5, layC ⟨#[]⟩ ((x_ : Nat) : Int) ((y_ : Nat) : Int)), none, e4_1] []) ∨ (l = 0 ∧ ∃ (at_ : Nat), ∃ (st_ : Nat), ∃ (x_ : Nat), ∃ (y_ : Nat), ∃ (k_ : Nat), ∃ (b5 : Nat), ∃ (u4_0 : Value) (e4_0 : Option (Nat × Array Value)), m = 2 * (s.size - at_) ∧ (at_ ≤ s.size ∧ st_ = sta s 47 at_ ∧ x_ = inR s at_ ∧ y_ = outR s at_ ∧ k_ = cnt s 47 at_ ∧ (∀ i, i < at_ → byt s i = 47 ∨ pcB (byt s i) = true) ∧ (∀ b, b < at_ → byt s b = 47 → layP s b) ∧ isB s at_) ∧ Sl 3 u4_0 e4_0 (k_) (layF s) ∧ Fr 56 a [(0, .string (s)), (5, ptr b5 (0)), (6, .int .i64 (((st_ : Nat) : Int))), (7, .int .i64 (((at_ : Nat) : Int))), (4, u4_0)] ∧ Mem w w' [some (b5, layC ⟨#[]⟩ ((x_ : Nat) : Int) ((y_ : Nat) : Int)), none, e4_0] [])) ?_ ?_ ?_
  ·
    rintro l m a w' (⟨rfl, -⟩ | ⟨rfl, -⟩) <;> exact ⟨_, rfl⟩
  ·
    clear hF hM
    rintro l m a w' (⟨rfl, at_, st_, x_, y_, k_, b5, u4_1, e4_1, hm, ⟨ha, hst, hx1, hy1, hk1, hpc, hly⟩, hsl4, hF, hM⟩ | ⟨rfl, at_, st_, x_, y_, k_, b5, u4_0, e4_0, hm, ⟨ha, hst, hx1, hy1, hk1, hpc, hly, hB⟩, hsl4, hF, hM⟩) x hx
    ·
      injection hx with hx; injection hx with hx1 hx2; subst hx2; clear hx1
      have hsl1 := sta_le (s := s) (c := 47) at_
      have hr1 := inR_le (s := s) at_
      have hr2 := outR_le (s := s) at_
      have hc1 := cnt_le (s := s) (c := 47) at_
      refine sq ?_
      refine sq ?_
      refine wp_region_lit ?_
      refine st hF (g_move hF rfl) rfl fun a hF => st hF (g_move hF rfl) rfl fun a hF => st hF (g_lenS ty_ut_9 hF rfl) rfl fun a hF => st hF (g_eql hF rfl rfl) rfl fun a hF => st hF (g_move hF rfl) rfl fun a hF => ?_
      by_cases g1 : (((at_ : Nat) : Int) : Int) = ((s.size : Nat) : Int)
      ·
        first | rw [decide_eq_true g1] at hF | simp only [decide_eq_true g1] at hF
        refine stS hF rfl rfl rfl rfl rfl fun a hF => stS hF rfl rfl rfl rfl rfl fun a hF => stS hF rfl rfl rfl rfl rfl fun a hF => stS hF rfl rfl rfl rfl rfl fun a hF => st hF (g_pickT hF rfl rfl) rfl fun a hF => ?_
        refine wpList_nil ?_
        refine tN ?_
        refine c_T hF rfl ?_
        refine wp_goto ?_
        refine tG ?_
        refine gG ⟨_, ?_, Or.inr (⟨rfl, at_, st_, x_, y_, k_, b5, (u4_1), (e4_1), rfl, ⟨ha, hst, hx1, hy1, hk1, hpc, hly, by first | exact Or.inl (by omega) | exact Or.inr ⟨by omega, by omega⟩⟩, hsl4, hF.sub _ (by repeat' constructor), hM⟩)⟩
        omega
      ·
        first | rw [decide_eq_false g1] at hF | simp only [decide_eq_false g1] at hF
        refine stY hF rfl rfl rfl (g_move hF rfl) rfl fun a hF => stY hF rfl rfl rfl (g_move hF rfl) rfl fun a hF => stY hF rfl rfl rfl (g_indexS (i := at_) ty_ut_9 hF rfl rfl rfl (by omega)) rfl fun a hF => stY hF rfl rfl rfl (g_eql hF rfl rfl) rfl fun a hF => st hF (g_pickF hF rfl rfl) rfl fun a hF => ?_
        refine wpList_nil ?_
        refine tN ?_
        refine c_cond hF rfl (fun h3 => ?_) (fun h3 => ?_)
        ·
          refine wp_goto ?_
          refine tG ?_
          refine gG ⟨_, ?_, Or.inr (⟨rfl, at_, st_, x_, y_, k_, b5, (u4_1), (e4_1), rfl, ⟨ha, hst, hx1, hy1, hk1, hpc, hly, by first | exact Or.inl (by omega) | exact Or.inr ⟨by omega, by omega⟩⟩, hsl4, hF.sub _ (by repeat' constructor), hM⟩)⟩
          omega
        ·
          have hne : ¬ byt s at_ = 47 := by omega
          refine wp_skip ?_
          refine tN ?_
          refine sq ?_
          refine sq ?_
          refine wp_region_lit ?_
          refine st hF (g_move hF rfl) rfl fun a hF => st hF (g_move hF rfl) rfl fun a hF => st hF (g_indexS (i := at_) ty_ut_9 hF rfl rfl rfl (by omega)) rfl fun a hF => ?_
          refine stR hF (d_callX Try.call53 hF (.cons rfl (.cons rfl .nil)) (addPiece_ok b5 (byt s (at_)) (x_) (y_) ⟨#[]⟩ _ byt_lt (by omega) (by omega) (hM.row 0 rfl))) rfl ?_
          rintro _ w' a ⟨hx, rfl, hbk⟩ hF
          have hM := hM.upd 0 rfl hx hbk
          change Mem w w' [some (b5, layC ⟨#[]⟩ (((x_) + inL (byt s (at_)) : Nat) : Int) (((y_) + outL (byt s (at_)) : Nat) : Int)), none, e4_1] [] at hM
          refine st hF (g_not hF rfl) rfl fun a hF => ?_
          refine wpList_nil ?_
          refine tN ?_
          refine c_condB hF rfl (fun h4 => ?_) (fun h4 => ?_)
          ·
            refine sq ?_
            refine wp_region_lit ?_
            refine st hF (g_assign hF rfl) rfl fun a hF => st hF (g_assign hF rfl) rfl fun a hF => ?_
            refine wpList_nil ?_
            refine tN ?_
            refine wp_ret ?_
            refine tR ?_
            refine gR ?_
            refine fin2 rfl hF.defers (res_tmp hF rfl) (res_tmp hF rfl) ⟨_, rfl, hM.below, ?_⟩
            show _ = _
            rfl
          ·
            have hpb : pcB (byt s at_) = true := by simpa using h4
            refine wp_skip ?_
            refine tN ?_
            refine sq ?_
            refine wp_region_lit ?_
            refine st hF (g_move hF rfl) rfl fun a hF => st hF (g_add hF rfl rfl (add_nat (at_) (1) (by omega))) rfl fun a hF => st hF (g_assign hF rfl) rfl fun a hF => ?_
            refine wpList_nil ?_
            refine tN ?_
            refine sq ?_
            refine wp_goto ?_
            refine tG ?_
            refine gG ⟨_, ?_, Or.inl ⟨rfl, at_ + 1, st_, (x_) + inL (byt s (at_)), (y_) + outL (byt s (at_)), k_, b5, (u4_1), (e4_1), rfl, ⟨by omega, by rw [sta_no hne]; exact hst, by rw [inR_no hne, hx1], by rw [outR_no hne, hy1], by rw [cnt_no hne]; exact hk1, fun i hi => by by_cases e : i = at_; (rw [e]; exact .inr hpb); (exact hpc i (by omega)), fun b hb h => by by_cases e : b = at_; (rw [e] at h; exact absurd h hne); (exact hly b (by omega) h)⟩, hsl4, hF.sub _ (by repeat' constructor), hM⟩⟩
            omega
    ·
      injection hx with hx; injection hx with hx1 hx2; subst hx2; clear hx1
      have hsl1 := sta_le (s := s) (c := 47) at_
      have hr1 := inR_le (s := s) at_
      have hr2 := outR_le (s := s) at_
      have hc1 := cnt_le (s := s) (c := 47) at_
      refine sq ?_
      refine wp_region_lit ?_
      refine st hF (g_move hF rfl) rfl fun a hF => st hF (g_move hF rfl) rfl fun a hF => st hF (g_move hF rfl) rfl fun a hF => st hF (g_sliceS (i := st_) (j := at_) ty_ut_9 hF rfl rfl rfl rfl rfl (by omega) (by omega)) rfl fun a hF => st hF (g_fieldAddr ty_fo_69_0 hF rfl) rfl fun a hF => ?_
      refine stN hF (d_store 0 hM rfl ty_on_9 hF rfl rfl rfl (by first | omega | (simp only [fnC_size, cells_size, vecC_size, tabC_size, planeC_size, layC_size] <;> omega))) ?_
      intro _ w' a hM hF
      rw [show (layC ⟨#[]⟩ ((x_ : Nat) : Int) ((y_ : Nat) : Int)).setIfInBounds (0 + 0) (.string ((s.extract (st_) (at_)))) = layC (s.extract (st_) (at_)) ((x_ : Nat) : Int) ((y_ : Nat) : Int) from layC_set0 rfl] at hM
      change Mem w w' [some (b5, layC (s.extract (st_) (at_)) ((x_ : Nat) : Int) ((y_ : Nat) : Int)), none, e4_0] [] at hM
      refine wpList_nil ?_
      refine tN ?_
      refine sq ?_
      refine sq ?_
      refine wp_region_lit ?_
      refine st hF (g_loadAgg ty_ag_69 hF rfl (hM.row 0 rfl) (by simp only [fnC_size, cells_size, vecC_size, tabC_size, planeC_size, layC_size] <;> omega) (whole (by simp only [fnC_size, cells_size, vecC_size, tabC_size, planeC_size, layC_size]))) rfl fun a hF => st hF (g_move hF rfl) rfl fun a hF => ?_
      refine stR hF (d_call Try.call54 hF (.cons rfl (.cons rfl .nil)) ((CallsR.val (fitsOn_ok (s.extract (st_) (at_)) s (x_) (y_) (k_) u4_0 e4_0 _ (by omega) (by omega) (by omega) hsl4 (fun b cs he => hM.row 2 (by rw [← he]; rfl))) (fit_bool ha hst hx1 hy1 hk1)))) rfl ?_
      rintro _ w' a ⟨hx, rfl⟩ hF
      have hM := hM.ext hx
      refine st hF (g_notP hF rfl) rfl fun a hF => ?_
      refine wpList_nil ?_
      refine tN ?_
      refine c_cond hF rfl (fun h5 => ?_) (fun h5 => ?_)
      ·
        refine sq ?_
        refine wp_region_lit ?_
        refine st hF (g_assign hF rfl) rfl fun a hF => st hF (g_assign hF rfl) rfl fun a hF => ?_
        refine wpList_nil ?_
        refine tN ?_
        refine wp_ret ?_
        refine tR ?_
        refine gR ?_
        refine fin2 rfl hF.defers (res_tmp hF rfl) (res_tmp hF rfl) ⟨_, rfl, hM.below, ?_⟩
        show _ = _
        rfl
      ·
        have hfit : layP s at_ := Decidable.not_not.1 h5
        refine wp_skip ?_
        refine tN ?_
        refine sq ?_
        refine wp_region_lit ?_
        refine st hF (g_move hF rfl) rfl fun a hF => st hF (g_loadAgg ty_ag_69 hF rfl (hM.row 0 rfl) (by simp only [fnC_size, cells_size, vecC_size, tabC_size, planeC_size, layC_size] <;> omega) (whole (by simp only [fnC_size, cells_size, vecC_size, tabC_size, planeC_size, layC_size]))) rfl fun a hF => ?_
        refine stR hF (d_buildC 1 hM hF (build1 hF rfl) (ty_bsl_49 _ _ _)) rfl ?_
        rintro _ w' a ⟨b6, rfl, hM, -⟩ hF
        change Mem w w' [some (b5, layC (s.extract (st_) (at_)) ((x_ : Nat) : Int) ((y_ : Nat) : Int)), some (b6, layC (s.extract (st_) (at_)) ((x_ : Nat) : Int) ((y_ : Nat) : Int)), e4_0] [] at hM
        refine stR hF (d_append (k := 2) (N := k_) (m := 1) (f := layF s) (g := fun q => (layC (s.extract (st_) (at_)) ((x_ : Nat) : Int) ((y_ : Nat) : Int))[q]?.getD undef) ty_si_49 rfl (by decide) hM rfl hF rfl rfl hsl4 (fun i hi => ((hM.row 1 rfl).cell _).trans (lay_lit i hi)) (fun i hi => lay_litone i hi) (by decide) (by unfold maxLen; omega) (by omega)) rfl ?_
        rintro u7 w' a ⟨e8, hM, hsl5⟩ hF
        have hsl5 := layF_snoc' hB hst hx1 hy1 hk1 hsl5
        change Mem w w' [some (b5, layC (s.extract (st_) (at_)) ((x_ : Nat) : Int) ((y_ : Nat) : Int)), some (b6, layC (s.extract (st_) (at_)) ((x_ : Nat) : Int) ((y_ : Nat) : Int)), e8] [] at hM
        refine st hF (g_assign hF rfl) rfl fun a hF => ?_
        refine wpList_nil ?_
        refine tN ?_
        refine sq ?_
        refine sq ?_
        refine wp_region_lit ?_
        refine st hF (g_move hF rfl) rfl fun a hF => st hF (g_move hF rfl) rfl fun a hF => st hF (g_lenS ty_ut_9 hF rfl) rfl fun a hF => st hF (g_eql hF rfl rfl) rfl fun a hF => ?_
        refine wpList_nil ?_
        refine tN ?_
        refine c_cond hF rfl (fun h9 => ?_) (fun h9 => ?_)
        ·
          exact absurd (word_all (by omega) (by omega) hpc hly hfit) hW
        ·
          have h47 : byt s at_ = 47 := by rcases hB with e | e; (omega); (exact e.2)
          refine wp_skip ?_
          refine tN ?_
          refine sq ?_
          refine wp_region_lit ?_
          refine st hF (g_build0 ty_bu_69) rfl fun a hF => ?_
          refine stN hF (d_storeAgg 0 hM rfl ty_sz_69 hF rfl rfl (layC_one) (by simp only [fnC_size, cells_size, vecC_size, tabC_size, planeC_size, layC_size]) (by simp only [fnC_size, cells_size, vecC_size, tabC_size, planeC_size, layC_size] <;> omega) (splice_whole _ _ (by simp only [fnC_size, cells_size, vecC_size, tabC_size, planeC_size, layC_size]))) ?_
          intro _ w' a hM hF
          change Mem w w' [some (b5, layC ⟨#[]⟩ 0 0), some (b6, layC (s.extract (st_) (at_)) ((x_ : Nat) : Int) ((y_ : Nat) : Int)), e8] [] at hM
          refine wpList_nil ?_
          refine tN ?_
          refine sq ?_
          refine wp_region_lit ?_
          refine st hF (g_move hF rfl) rfl fun a hF => st hF (g_add hF rfl rfl (add_nat (at_) (1) (by omega))) rfl fun a hF => st hF (g_assign hF rfl) rfl fun a hF => ?_
          refine wpList_nil ?_
          refine tN ?_
          refine sq ?_
          refine wp_region_lit ?_
          refine st hF (g_move hF rfl) rfl fun a hF => st hF (g_assign hF rfl) rfl fun a hF => ?_
          refine wpList_nil ?_
          refine tN ?_
          refine wp_goto ?_
          have hM := hM.drop 1
          refine gG ⟨_, ?_, Or.inl ⟨rfl, at_ + 1, at_ + 1, 0, 0, k_ + 1, b5, (u7), (e8), rfl, ⟨by omega, (sta_yes h47).symm, (inR_yes h47).symm, (outR_yes h47).symm, by rw [cnt_yes h47, hk1], fun i hi => by by_cases e : i = at_; (rw [e]; exact .inl h47); (exact hpc i (by omega)), fun b hb h => by by_cases e : b = at_; (rw [e]; exact hfit); (exact hly b (by omega) h)⟩, hsl5, hF.sub _ (by repeat' constructor), hM⟩⟩
          omega
  ·
    intro hK
    refine sq ?_
    refine wp_region_lit ?_
    refine st hF (g_assign hF rfl) rfl fun a hF => ?_
    refine wpList_nil ?_
    refine tN ?_
    refine sq ?_
    refine wp_region_lit ?_
    refine stR hF (d_alloc 0 hM ty_ze_69) rfl ?_
    rintro _ w' a ⟨b10, rfl, hM, -⟩ hF
    change Mem w w' [some (b10, layC ⟨#[]⟩ 0 0), none, none] [] at hM
    refine wpList_nil ?_
    refine tN ?_
    refine sq ?_
    refine wp_region_lit ?_
    refine st hF (g_assign hF rfl) rfl fun a hF => st hF (g_assign hF rfl) rfl fun a hF => ?_
    refine wpList_nil ?_
    refine tN ?_
    refine sq ?_
    refine sq ?_
    refine wp_region_lit ?_
    refine st hF (g_move hF rfl) rfl fun a hF => st hF (g_eqlS hF rfl rfl) rfl fun a hF => st hF (g_move hF rfl) rfl fun a hF => ?_
    by_cases g11 : (s : ByteArray).toList = (⟨#[]⟩ : ByteArray).toList
    ·
      first | rw [decide_eq_true g11] at hF | simp only [decide_eq_true g11] at hF
      exact absurd (str_iff.1 g11) (by omega)
    ·
      first | rw [decide_eq_false g11] at hF | simp only [decide_eq_false g11] at hF
      refine stY hF rfl rfl rfl (g_move hF rfl) rfl fun a hF => stY hF rfl rfl rfl (g_lenS ty_ut_9 hF rfl) rfl fun a hF => stY hF rfl rfl rfl (g_gtr hF rfl rfl) rfl fun a hF => st hF (g_pickF hF rfl rfl) rfl fun a hF => ?_
      refine wpList_nil ?_
      refine tN ?_
      refine c_cond hF rfl (fun h12 => ?_) (fun h12 => ?_)
      ·
        exfalso; omega
      ·
        refine wp_skip ?_
        refine tN ?_
        refine sq (wp_label (tN ?_))
        exact hK _ _ _ _ (Or.inl ⟨rfl, 0, 0, 0, 0, 0, b10, (.slice none 0 0), (none), rfl, ⟨Nat.zero_le _, rfl, rfl, rfl, rfl, fun i hi => absurd hi (by omega), fun b hb => absurd hb (by omega)⟩, (Sl.nil 3 _), hF.sub _ (by repeat' constructor), hM⟩) _ rfl

theorem layersOf_Y (s : ByteArray) (w : World) (hW : WordP s) (h0 : 0 < s.size) :
    CallsR Try.prog 33 #[.string (s)] w (fun u w' => ∃ l, u = .tuple #[l, .bool true] ∧ OwnSl 3 w (nSg s 47) (layF s) l w') := by
  refine calls_fr [.string (s)] Try.func33 rfl Try.ntmps33 rfl fun a hF => ?_
  have hM : Mem w w [none, none, none] [] := MemX.start w 3
  change Fr 56 a [(0, .string (s))] at hF
  have h3 := hW.1
  refine sq ?_
  refine wp_region_lit ?_
  refine st hF (g_assign hF rfl) rfl fun a hF => st hF (g_assign hF rfl) rfl fun a hF => ?_
  refine wpList_nil ?_
  refine tN ?_
  refine wp_scope_labels (fun l m a w' => (l = 1 ∧ ∃ (at_ : Nat), ∃ (st_ : Nat), ∃ (x_ : Nat), ∃ (y_ : Nat), ∃ (k_ : Nat), ∃ (b5 : Nat), ∃ (u4_1 : Value) (e4_1 : Option (Nat × Array Value)), m = 2 * (s.size - at_) + 1 ∧ (at_ ≤ s.size ∧ st_ = sta s 47 at_ ∧ x_ = inR s at_ ∧ y_ = outR s at_ ∧ k_ = cnt s 47 at_ ∧ (∀ i, i < at_ → byt s i = 47 ∨ pcB (byt s i) = true) ∧ (∀ b, b < at_ → byt s b = 47 → layP s b)) ∧ Sl 3 u4_1 e4_1 (k_) (layF s) ∧ Fr 56 a [(0, .string (s)), (5, ptr b5 (0)), (6, .int .i64 (((st_ : Nat) : Int))), (7, .int .i64 (((at_ : Nat) : Int))), (4, u4_1)] ∧ Mem w w' [some (b5, layC ⟨#[]⟩ ((x_ : Nat) : Int) ((y_ : Nat) : Int)), none, e4_1] []) ∨ (l = 0 ∧ ∃ (at_ : Nat), ∃ (st_ : Nat), ∃ (x_ : Nat), ∃ (y_ : Nat), ∃ (k_ : Nat), ∃ (b5 : Nat), ∃ (u4_0 : Value) (e4_0 : Option (Nat × Array Value)), m = 2 * (s.size - at_) ∧ (at_ ≤ s.size ∧ st_ = sta s 47 at_ ∧ x_ = inR s at_ ∧ y_ = outR s at_ ∧ k_ = cnt s 47 at_ ∧ (∀ i, i < at_ → byt s i = 47 ∨ pcB (byt s i) = true) ∧ (∀ b, b < at_ → byt s b = 47 → layP s b) ∧ isB s at_) ∧ Sl 3 u4_0 e4_0 (k_) (layF s) ∧ Fr 56 a [(0, .string (s)), (5, ptr b5 (0)), (6, .int .i64 (((st_ : Nat) : Int))), (7, .int .i64 (((at_ : Nat) : Int))), (4, u4_0)] ∧ Mem w w' [some (b5, layC ⟨#[]⟩ ((x_ : Nat) : Int) ((y_ : Nat) : Int)), none, e4_0] [])) ?_ ?_ ?_
  ·
    rintro l m a w' (⟨rfl, -⟩ | ⟨rfl, -⟩) <;> exact ⟨_, rfl⟩
  ·
    clear hF hM
    rintro l m a w' (⟨rfl, at_, st_, x_, y_, k_, b5, u4_1, e4_1, hm, ⟨ha, hst, hx1, hy1, hk1, hpc, hly⟩, hsl4, hF, hM⟩ | ⟨rfl, at_, st_, x_, y_, k_, b5, u4_0, e4_0, hm, ⟨ha, hst, hx1, hy1, hk1, hpc, hly, hB⟩, hsl4, hF, hM⟩) x hx
    ·
      injection hx with hx; injection hx with hx1 hx2; subst hx2; clear hx1
      have hsl1 := sta_le (s := s) (c := 47) at_
      have hr1 := inR_le (s := s) at_
      have hr2 := outR_le (s := s) at_
      have hc1 := cnt_le (s := s) (c := 47) at_
      refine sq ?_
      refine sq ?_
      refine wp_region_lit ?_
      refine st hF (g_move hF rfl) rfl fun a hF => st hF (g_move hF rfl) rfl fun a hF => st hF (g_lenS ty_ut_9 hF rfl) rfl fun a hF => st hF (g_eql hF rfl rfl) rfl fun a hF => st hF (g_move hF rfl) rfl fun a hF => ?_
      by_cases g1 : (((at_ : Nat) : Int) : Int) = ((s.size : Nat) : Int)
      ·
        first | rw [decide_eq_true g1] at hF | simp only [decide_eq_true g1] at hF
        refine stS hF rfl rfl rfl rfl rfl fun a hF => stS hF rfl rfl rfl rfl rfl fun a hF => stS hF rfl rfl rfl rfl rfl fun a hF => stS hF rfl rfl rfl rfl rfl fun a hF => st hF (g_pickT hF rfl rfl) rfl fun a hF => ?_
        refine wpList_nil ?_
        refine tN ?_
        refine c_T hF rfl ?_
        refine wp_goto ?_
        refine tG ?_
        refine gG ⟨_, ?_, Or.inr (⟨rfl, at_, st_, x_, y_, k_, b5, (u4_1), (e4_1), rfl, ⟨ha, hst, hx1, hy1, hk1, hpc, hly, by first | exact Or.inl (by omega) | exact Or.inr ⟨by omega, by omega⟩⟩, hsl4, hF.sub _ (by repeat' constructor), hM⟩)⟩
        omega
      ·
        first | rw [decide_eq_false g1] at hF | simp only [decide_eq_false g1] at hF
        refine stY hF rfl rfl rfl (g_move hF rfl) rfl fun a hF => stY hF rfl rfl rfl (g_move hF rfl) rfl fun a hF => stY hF rfl rfl rfl (g_indexS (i := at_) ty_ut_9 hF rfl rfl rfl (by omega)) rfl fun a hF => stY hF rfl rfl rfl (g_eql hF rfl rfl) rfl fun a hF => st hF (g_pickF hF rfl rfl) rfl fun a hF => ?_
        refine wpList_nil ?_
        refine tN ?_
        refine c_cond hF rfl (fun h3 => ?_) (fun h3 => ?_)
        ·
          refine wp_goto ?_
          refine tG ?_
          refine gG ⟨_, ?_, Or.inr (⟨rfl, at_, st_, x_, y_, k_, b5, (u4_1), (e4_1), rfl, ⟨ha, hst, hx1, hy1, hk1, hpc, hly, by first | exact Or.inl (by omega) | exact Or.inr ⟨by omega, by omega⟩⟩, hsl4, hF.sub _ (by repeat' constructor), hM⟩)⟩
          omega
        ·
          have hne : ¬ byt s at_ = 47 := by omega
          refine wp_skip ?_
          refine tN ?_
          refine sq ?_
          refine sq ?_
          refine wp_region_lit ?_
          refine st hF (g_move hF rfl) rfl fun a hF => st hF (g_move hF rfl) rfl fun a hF => st hF (g_indexS (i := at_) ty_ut_9 hF rfl rfl rfl (by omega)) rfl fun a hF => ?_
          refine stR hF (d_callX Try.call53 hF (.cons rfl (.cons rfl .nil)) (addPiece_ok b5 (byt s (at_)) (x_) (y_) ⟨#[]⟩ _ byt_lt (by omega) (by omega) (hM.row 0 rfl))) rfl ?_
          rintro _ w' a ⟨hx, rfl, hbk⟩ hF
          have hM := hM.upd 0 rfl hx hbk
          change Mem w w' [some (b5, layC ⟨#[]⟩ (((x_) + inL (byt s (at_)) : Nat) : Int) (((y_) + outL (byt s (at_)) : Nat) : Int)), none, e4_1] [] at hM
          refine st hF (g_not hF rfl) rfl fun a hF => ?_
          refine wpList_nil ?_
          refine tN ?_
          refine c_condB hF rfl (fun h4 => ?_) (fun h4 => ?_)
          ·
            rcases hW.2.1 at_ (by omega) with e | e
            · exact absurd e hne
            · rw [e] at h4; cases h4
          ·
            have hpb : pcB (byt s at_) = true := by simpa using h4
            refine wp_skip ?_
            refine tN ?_
            refine sq ?_
            refine wp_region_lit ?_
            refine st hF (g_move hF rfl) rfl fun a hF => st hF (g_add hF rfl rfl (add_nat (at_) (1) (by omega))) rfl fun a hF => st hF (g_assign hF rfl) rfl fun a hF => ?_
            refine wpList_nil ?_
            refine tN ?_
            refine sq ?_
            refine wp_goto ?_
            refine tG ?_
            refine gG ⟨_, ?_, Or.inl ⟨rfl, at_ + 1, st_, (x_) + inL (byt s (at_)), (y_) + outL (byt s (at_)), k_, b5, (u4_1), (e4_1), rfl, ⟨by omega, by rw [sta_no hne]; exact hst, by rw [inR_no hne, hx1], by rw [outR_no hne, hy1], by rw [cnt_no hne]; exact hk1, fun i hi => by by_cases e : i = at_; (rw [e]; exact .inr hpb); (exact hpc i (by omega)), fun b hb h => by by_cases e : b = at_; (rw [e] at h; exact absurd h hne); (exact hly b (by omega) h)⟩, hsl4, hF.sub _ (by repeat' constructor), hM⟩⟩
            omega
    ·
      injection hx with hx; injection hx with hx1 hx2; subst hx2; clear hx1
      have hsl1 := sta_le (s := s) (c := 47) at_
      have hr1 := inR_le (s := s) at_
      have hr2 := outR_le (s := s) at_
      have hc1 := cnt_le (s := s) (c := 47) at_
      refine sq ?_
      refine wp_region_lit ?_
      refine st hF (g_move hF rfl) rfl fun a hF => st hF (g_move hF rfl) rfl fun a hF => st hF (g_move hF rfl) rfl fun a hF => st hF (g_sliceS (i := st_) (j := at_) ty_ut_9 hF rfl rfl rfl rfl rfl (by omega) (by omega)) rfl fun a hF => st hF (g_fieldAddr ty_fo_69_0 hF rfl) rfl fun a hF => ?_
      refine stN hF (d_store 0 hM rfl ty_on_9 hF rfl rfl rfl (by first | omega | (simp only [fnC_size, cells_size, vecC_size, tabC_size, planeC_size, layC_size] <;> omega))) ?_
      intro _ w' a hM hF
      rw [show (layC ⟨#[]⟩ ((x_ : Nat) : Int) ((y_ : Nat) : Int)).setIfInBounds (0 + 0) (.string ((s.extract (st_) (at_)))) = layC (s.extract (st_) (at_)) ((x_ : Nat) : Int) ((y_ : Nat) : Int) from layC_set0 rfl] at hM
      change Mem w w' [some (b5, layC (s.extract (st_) (at_)) ((x_ : Nat) : Int) ((y_ : Nat) : Int)), none, e4_0] [] at hM
      refine wpList_nil ?_
      refine tN ?_
      refine sq ?_
      refine sq ?_
      refine wp_region_lit ?_
      refine st hF (g_loadAgg ty_ag_69 hF rfl (hM.row 0 rfl) (by simp only [fnC_size, cells_size, vecC_size, tabC_size, planeC_size, layC_size] <;> omega) (whole (by simp only [fnC_size, cells_size, vecC_size, tabC_size, planeC_size, layC_size]))) rfl fun a hF => st hF (g_move hF rfl) rfl fun a hF => ?_
      refine stR hF (d_call Try.call54 hF (.cons rfl (.cons rfl .nil)) ((CallsR.val (fitsOn_ok (s.extract (st_) (at_)) s (x_) (y_) (k_) u4_0 e4_0 _ (by omega) (by omega) (by omega) hsl4 (fun b cs he => hM.row 2 (by rw [← he]; rfl))) (fit_bool ha hst hx1 hy1 hk1)))) rfl ?_
      rintro _ w' a ⟨hx, rfl⟩ hF
      have hM := hM.ext hx
      refine st hF (g_notP hF rfl) rfl fun a hF => ?_
      refine wpList_nil ?_
      refine tN ?_
      refine c_cond hF rfl (fun h5 => ?_) (fun h5 => ?_)
      ·
        exact absurd (hW.2.2 at_ ha hB) h5
      ·
        have hfit : layP s at_ := Decidable.not_not.1 h5
        refine wp_skip ?_
        refine tN ?_
        refine sq ?_
        refine wp_region_lit ?_
        refine st hF (g_move hF rfl) rfl fun a hF => st hF (g_loadAgg ty_ag_69 hF rfl (hM.row 0 rfl) (by simp only [fnC_size, cells_size, vecC_size, tabC_size, planeC_size, layC_size] <;> omega) (whole (by simp only [fnC_size, cells_size, vecC_size, tabC_size, planeC_size, layC_size]))) rfl fun a hF => ?_
        refine stR hF (d_buildC 1 hM hF (build1 hF rfl) (ty_bsl_49 _ _ _)) rfl ?_
        rintro _ w' a ⟨b6, rfl, hM, -⟩ hF
        change Mem w w' [some (b5, layC (s.extract (st_) (at_)) ((x_ : Nat) : Int) ((y_ : Nat) : Int)), some (b6, layC (s.extract (st_) (at_)) ((x_ : Nat) : Int) ((y_ : Nat) : Int)), e4_0] [] at hM
        refine stR hF (d_append (k := 2) (N := k_) (m := 1) (f := layF s) (g := fun q => (layC (s.extract (st_) (at_)) ((x_ : Nat) : Int) ((y_ : Nat) : Int))[q]?.getD undef) ty_si_49 rfl (by decide) hM rfl hF rfl rfl hsl4 (fun i hi => ((hM.row 1 rfl).cell _).trans (lay_lit i hi)) (fun i hi => lay_litone i hi) (by decide) (by unfold maxLen; omega) (by omega)) rfl ?_
        rintro u7 w' a ⟨e8, hM, hsl5⟩ hF
        have hsl5 := layF_snoc' hB hst hx1 hy1 hk1 hsl5
        change Mem w w' [some (b5, layC (s.extract (st_) (at_)) ((x_ : Nat) : Int) ((y_ : Nat) : Int)), some (b6, layC (s.extract (st_) (at_)) ((x_ : Nat) : Int) ((y_ : Nat) : Int)), e8] [] at hM
        refine st hF (g_assign hF rfl) rfl fun a hF => ?_
        refine wpList_nil ?_
        refine tN ?_
        refine sq ?_
        refine sq ?_
        refine wp_region_lit ?_
        refine st hF (g_move hF rfl) rfl fun a hF => st hF (g_move hF rfl) rfl fun a hF => st hF (g_lenS ty_ut_9 hF rfl) rfl fun a hF => st hF (g_eql hF rfl rfl) rfl fun a hF => ?_
        refine wpList_nil ?_
        refine tN ?_
        refine c_cond hF rfl (fun h9 => ?_) (fun h9 => ?_)
        ·
          have hen : at_ = s.size := by omega
          refine sq ?_
          refine wp_region_lit ?_
          refine st hF (g_move hF rfl) rfl fun a hF => st hF (g_assign hF rfl) rfl fun a hF => st hF (g_assign hF rfl) rfl fun a hF => ?_
          refine wpList_nil ?_
          refine tN ?_
          refine wp_ret ?_
          refine tR ?_
          refine gR ?_
          refine fin2 rfl hF.defers (res_tmp hF rfl) (res_tmp hF rfl) ⟨_, rfl, hM.below, ?_⟩
          have hn : nSg s 47 = k_ + 1 := by unfold nSg; rw [hk1, hen]
          rw [hn]
          exact ⟨_, rfl, OwnSl.pos hM (k := 2) rfl hsl5 (by omega)⟩
        ·
          have h47 : byt s at_ = 47 := by rcases hB with e | e; (omega); (exact e.2)
          refine wp_skip ?_
          refine tN ?_
          refine sq ?_
          refine wp_region_lit ?_
          refine st hF (g_build0 ty_bu_69) rfl fun a hF => ?_
          refine stN hF (d_storeAgg 0 hM rfl ty_sz_69 hF rfl rfl (layC_one) (by simp only [fnC_size, cells_size, vecC_size, tabC_size, planeC_size, layC_size]) (by simp only [fnC_size, cells_size, vecC_size, tabC_size, planeC_size, layC_size] <;> omega) (splice_whole _ _ (by simp only [fnC_size, cells_size, vecC_size, tabC_size, planeC_size, layC_size]))) ?_
          intro _ w' a hM hF
          change Mem w w' [some (b5, layC ⟨#[]⟩ 0 0), some (b6, layC (s.extract (st_) (at_)) ((x_ : Nat) : Int) ((y_ : Nat) : Int)), e8] [] at hM
          refine wpList_nil ?_
          refine tN ?_
          refine sq ?_
          refine wp_region_lit ?_
          refine st hF (g_move hF rfl) rfl fun a hF => st hF (g_add hF rfl rfl (add_nat (at_) (1) (by omega))) rfl fun a hF => st hF (g_assign hF rfl) rfl fun a hF => ?_
          refine wpList_nil ?_
          refine tN ?_
          refine sq ?_
          refine wp_region_lit ?_
          refine st hF (g_move hF rfl) rfl fun a hF => st hF (g_assign hF rfl) rfl fun a hF => ?_
          refine wpList_nil ?_
          refine tN ?_
          refine wp_goto ?_
          have hM := hM.drop 1
          refine gG ⟨_, ?_, Or.inl ⟨rfl, at_ + 1, at_ + 1, 0, 0, k_ + 1, b5, (u7), (e8), rfl, ⟨by omega, (sta_yes h47).symm, (inR_yes h47).symm, (outR_yes h47).symm, by rw [cnt_yes h47, hk1], fun i hi => by by_cases e : i = at_; (rw [e]; exact .inl h47); (exact hpc i (by omega)), fun b hb h => by by_cases e : b = at_; (rw [e]; exact hfit); (exact hly b (by omega) h)⟩, hsl5, hF.sub _ (by repeat' constructor), hM⟩⟩
          omega
  ·
    intro hK
    refine sq ?_
    refine wp_region_lit ?_
    refine st hF (g_assign hF rfl) rfl fun a hF => ?_
    refine wpList_nil ?_
    refine tN ?_
    refine sq ?_
    refine wp_region_lit ?_
    refine stR hF (d_alloc 0 hM ty_ze_69) rfl ?_
    rintro _ w' a ⟨b10, rfl, hM, -⟩ hF
    change Mem w w' [some (b10, layC ⟨#[]⟩ 0 0), none, none] [] at hM
    refine wpList_nil ?_
    refine tN ?_
    refine sq ?_
    refine wp_region_lit ?_
    refine st hF (g_assign hF rfl) rfl fun a hF => st hF (g_assign hF rfl) rfl fun a hF => ?_
    refine wpList_nil ?_
    refine tN ?_
    refine sq ?_
    refine sq ?_
    refine wp_region_lit ?_
    refine st hF (g_move hF rfl) rfl fun a hF => st hF (g_eqlS hF rfl rfl) rfl fun a hF => st hF (g_move hF rfl) rfl fun a hF => ?_
    by_cases g11 : (s : ByteArray).toList = (⟨#[]⟩ : ByteArray).toList
    ·
      first | rw [decide_eq_true g11] at hF | simp only [decide_eq_true g11] at hF
      exact absurd (str_iff.1 g11) (by omega)
    ·
      first | rw [decide_eq_false g11] at hF | simp only [decide_eq_false g11] at hF
      refine stY hF rfl rfl rfl (g_move hF rfl) rfl fun a hF => stY hF rfl rfl rfl (g_lenS ty_ut_9 hF rfl) rfl fun a hF => stY hF rfl rfl rfl (g_gtr hF rfl rfl) rfl fun a hF => st hF (g_pickF hF rfl rfl) rfl fun a hF => ?_
      refine wpList_nil ?_
      refine tN ?_
      refine c_cond hF rfl (fun h12 => ?_) (fun h12 => ?_)
      ·
        exfalso; omega
      ·
        refine wp_skip ?_
        refine tN ?_
        refine sq (wp_label (tN ?_))
        exact hK _ _ _ _ (Or.inl ⟨rfl, 0, 0, 0, 0, 0, b10, (.slice none 0 0), (none), rfl, ⟨Nat.zero_le _, rfl, rfl, rfl, rfl, fun i hi => absurd hi (by omega), fun b hb => absurd hb (by omega)⟩, (Sl.nil 3 _), hF.sub _ (by repeat' constructor), hM⟩) _ rfl

end Go.Proofs.Ytnaabnhjokibfaa
