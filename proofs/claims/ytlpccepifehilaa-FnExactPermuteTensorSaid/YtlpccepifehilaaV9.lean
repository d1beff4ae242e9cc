/- What functions of the program return, as walks over their operations; no statement of the seat is proved here. -/
import Derived.Test.YtlpccepifehilaaV3
import Derived.Test.YtlpccepifehilaaSw10
set_option linter.unusedVariables false
set_option linter.unusedSimpArgs false
namespace Go.Proofs.Ytlpccepifehilaa
open Go Go.RowKit Go.Sw Go.Ech
open Classical
theorem ty_ud_3 : Try.prog.underlying 3 = some (.int .i64) := by kernel_rfl
theorem ty_un_78 : Try.prog.underlying 78 = some (.int .u64) := by kernel_rfl
theorem isNaN_ok (x : Int) (w : World)  :
    CallsR Try.prog 76 #[.int .i64 (x)] w (fun res _ => res = .bool false) := by
  refine calls_fr [.int .i64 (x)] Try.func76 rfl Try.ntmps76 rfl fun a hF => ?_
  have hM : Mem w w [] [] := MemX.start w 0
  change Fr 6 a [(0, .int .i64 (x))] at hF
  refine sq ?_
  refine wp_region_lit ?_
  refine st hF (g_assign hF rfl) rfl fun a hF => ?_
  refine wpList_nil ?_
  refine tN ?_
  refine sq ?_
  refine wp_region_lit ?_
  refine st hF (g_move hF rfl) rfl fun a hF => st hF (g_move hF rfl) rfl fun a hF => st hF (g_neq hF rfl rfl) rfl fun a hF => st hF (g_assign hF rfl) rfl fun a hF => ?_
  refine wpList_nil ?_
  refine tN ?_
  refine wp_ret ?_
  refine fin1 rfl hF.defers (res_tmp hF rfl) ⟨_, rfl, hM.below, ?_⟩
  show _ = _
  exact congrArg Value.bool (decide_eq_false (fun h => h rfl))

theorem less_ok (x y : Int) (w : World)  :
    CallsR Try.prog 66 #[.int .i64 (x), .int .i64 (y)] w (fun res _ => res = .bool (decide (x < y))) := by
  refine calls_fr [.int .i64 (x), .int .i64 (y)] Try.func66 rfl Try.ntmps66 rfl fun a hF => ?_
  have hM : Mem w w [] [] := MemX.start w 0
  change Fr 17 a [(0, .int .i64 (x)), (1, .int .i64 (y))] at hF
  refine sq ?_
  refine wp_region_lit ?_
  refine st hF (g_assign hF rfl) rfl fun a hF => ?_
  refine wpList_nil ?_
  refine tN ?_
  refine sq ?_
  refine wp_region_lit ?_
  refine st hF (g_move hF rfl) rfl fun a hF => ?_
  refine stR hF (d_call Try.call76 hF (.cons rfl .nil) (isNaN_ok (x) _)) rfl ?_
  rintro _ w' a ⟨hx, rfl⟩ hF
  have hM := hM.ext hx
  refine st hF (g_move hF rfl) rfl fun a hF => stS hF rfl rfl rfl rfl rfl fun a hF => stS hF rfl rfl rfl rfl rfl fun a hF => stS hF rfl rfl rfl rfl rfl fun a hF => st hF (g_pickF hF rfl rfl) rfl fun a hF => st hF (g_move hF rfl) rfl fun a hF => stY hF rfl rfl rfl (g_move hF rfl) rfl fun a hF => stY hF rfl rfl rfl (g_move hF rfl) rfl fun a hF => stY hF rfl rfl rfl (g_lss hF rfl rfl) rfl fun a hF => st hF (g_pickF hF rfl rfl) rfl fun a hF => st hF (g_assign hF rfl) rfl fun a hF => ?_
  refine wpList_nil ?_
  refine tN ?_
  refine wp_ret ?_
  refine fin1 rfl hF.defers (res_tmp hF rfl) ⟨_, rfl, hM.below, ?_⟩
  show _ = _
  rfl

theorem insertionSort_ok (b1 c1 nn : Nat) (cs1 : Array Value) (ls : Nat → Int) (w : World) (hnn : 0 < nn) (hnn2 : nn ≤ 12) (hsz1 : nn ≤ cs1.size) (hb : Blk w b1 (rowJ cs1 nn ls)) :
    CallsX Try.prog [b1] 60 #[.slice (some ⟨b1, 0, none⟩) (nn) (c1), .int .i64 (0), .int .i64 (((nn : Nat) : Int))] w (fun v w' => v = .tuple #[] ∧ ∃ D, Blk w' b1 (rowJ cs1 nn D) ∧ AscJ nn D ∧ SameSetJ nn D ls) := by
  refine calls_frX [.slice (some ⟨b1, 0, none⟩) (nn) (c1), .int .i64 (0), .int .i64 (((nn : Nat) : Int))] Try.func60 rfl Try.ntmps60 rfl fun a hF => ?_
  have hM : MemX [b1] w w [some (b1, rowJ cs1 nn ls)] [] := MemX.startX1 0 hb
  change Fr 49 a [(0, .slice (some ⟨b1, 0, none⟩) (nn) (c1)), (1, .int .i64 (0)), (2, .int .i64 (((nn : Nat) : Int)))] at hF
  refine sq ?_
  refine wp_region_lit ?_
  refine st hF (g_move hF rfl) rfl fun a hF => st hF (g_add hF rfl rfl (add_nat (0) (1) (by omega))) rfl fun a hF => st hF (g_assign hF rfl) rfl fun a hF => ?_
  refine wpList_nil ?_
  refine tN ?_
  refine wp_block ?_
  change MemX [b1] w _ [some (b1, rowJ cs1 nn ls)] [] at hM
  refine c_loop (fun (kk : Nat) a w' => kk ≤ (nn - 1) ∧ ∃ (D1 : Nat → Int), (AscJ (kk + 1) D1 ∧ SameSetJ nn D1 ls) ∧ Fr 49 a [(0, .slice (some ⟨b1, 0, none⟩) (nn) (c1)), (1, .int .i64 (0)), (2, .int .i64 (((nn : Nat) : Int))), (6, .int .i64 (((kk + 1 : Nat) : Int)))] ∧ MemX [b1] w w' [some (b1, rowJ cs1 nn D1)] []) (fun kk => (nn - 1) - kk) 0 ?_ ?_
  ·
   refine ⟨by omega, ls, ⟨fun a b h1 h2 => absurd h2 (by omega), SameSetJ.rfl'⟩, hF.sub _ (by repeat' constructor), ?_⟩
   exact hM
  ·
   clear hF hM
   rintro gi a w' ⟨hgi, D1, hinv1, hF, hM⟩
   refine sq ?_
   refine sq ?_
   refine wp_region_lit ?_
   refine st hF (g_move hF rfl) rfl fun a hF => st hF (g_move hF rfl) rfl fun a hF => st hF (g_lss hF rfl rfl) rfl fun a hF => ?_
   refine wpList_nil ?_
   refine tN ?_
   refine c_cond hF rfl (fun h1 => ?_) (fun h1 => ?_)
   ·
    refine wp_skip ?_
    refine tN ?_
    refine sq ?_
    refine wp_block ?_
    refine sq ?_
    refine wp_region_lit ?_
    refine st hF (g_move hF rfl) rfl fun a hF => st hF (g_assign hF rfl) rfl fun a hF => ?_
    refine wpList_nil ?_
    refine tN ?_
    refine wp_block ?_
    change MemX [b1] w _ [some (b1, rowJ cs1 nn D1)] [] at hM
    refine c_loop (fun (kk : Nat) a w' => kk ≤ (gi + 1) ∧ ∃ (D2 : Nat → Int), (AscButJ (gi + 1 + 1) (gi + 1 - kk) D2 ∧ SameSetJ nn D2 ls) ∧ Fr 49 a [(0, .slice (some ⟨b1, 0, none⟩) (nn) (c1)), (1, .int .i64 (0)), (2, .int .i64 (((nn : Nat) : Int))), (6, .int .i64 (((gi + 1 : Nat) : Int))), (10, .int .i64 (((gi + 1 : Nat) : Int))), (11, .int .i64 (((nn : Nat) : Int))), (12, .bool (decide ((((gi + 1 : Nat) : Int) : Int) < ((nn : Nat) : Int)))), (15, .int .i64 (((gi + 1 : Nat) : Int))), (7, .int .i64 ((((gi + 1 - kk) : Nat) : Int)))] ∧ MemX [b1] w w' [some (b1, rowJ cs1 nn D2)] []) (fun kk => (gi + 1) - kk) 0 ?_ ?_
    ·
     refine ⟨by omega, D1, ⟨AscButJ.start hinv1.1, hinv1.2⟩, hF.sub _ (by repeat' constructor), ?_⟩
     exact hM
    ·
     clear hF hM
     rintro gk a w' ⟨hgk, D2, hinv2, hF, hM⟩
     refine sq ?_
     refine sq ?_
     by_cases hj0 : 0 < (gi + 1 - gk)
     ·
       refine c_parQ 13 [] [.val (.int .i64 ((((gi + 1 - gk) : Nat) : Int))), .val (.int .i64 (0)), .val (.bool (true)), .val (.bool (true)), .val (.slice (some ⟨b1, 0, none⟩) (nn) (c1)), .val (.int .i64 ((((gi + 1 - gk) : Nat) : Int))), .val (ptr b1 (0 + ((gi + 1 - gk)) * 1)), .val (.int .i64 (D2 ((gi + 1 - gk)))), .val (.slice (some ⟨b1, 0, none⟩) (nn) (c1)), .val (.int .i64 ((((gi + 1 - gk) : Nat) : Int))), .val (.int .i64 ((((gi + 1 - gk) - 1 : Nat) : Int))), .val (ptr b1 (0 + ((gi + 1 - gk) - 1) * 1)), .val (.int .i64 (D2 ((gi + 1 - gk) - 1)))] hmix rfl hF rfl hM ⟨fun a w gG hF hS hd => q_none rfl (by exact par_val hS rfl (g_move hF rfl)), fun a w gG hF hS hd => q_none rfl (by exact par_val hS rfl (g_move hF rfl)), fun a w gG hF hS hd => q_none rfl (by have hF := hF.ext1 16 (hd 0 rfl rfl); have hF := hF.ext1 17 (hd 1 rfl rfl); exact par_val hS rfl (gives_eq (g_gtr hF rfl rfl) (congrArg Value.bool (decide_eq_true (by omega))))), fun a w gG hF hS hd => q_none rfl (by have hF := hF.ext1 18 (hd 2 rfl rfl); exact par_val hS rfl (g_move hF rfl)), fun a w gG hF hS hd => q_yes rfl (hF.ext1 19 (hd 3 rfl rfl)) rfl rfl rfl (by exact par_val hS rfl (g_move hF rfl)), fun a w gG hF hS hd => q_yes rfl (hF.ext1 19 (hd 3 rfl rfl)) rfl rfl rfl (by exact par_val hS rfl (g_move hF rfl)), fun a w gG hF hS hd => q_yes rfl (hF.ext1 19 (hd 3 rfl rfl)) rfl rfl rfl (by have hF := hF.ext1 20 (hd 4 rfl rfl); have hF := hF.ext1 21 (hd 5 rfl rfl); exact par_val hS rfl (g_indexSl (i := (gi + 1 - gk)) ty_sl_22 hF rfl rfl rfl (by omega))), fun a w gG hF hS hd => q_yes rfl (hF.ext1 19 (hd 3 rfl rfl)) rfl rfl rfl (by have hF := hF.ext1 22 (hd 6 rfl rfl); have hM := hS.mem rfl; exact par_val hS rfl (g_load ty_on_2 hF rfl (hM.row 0 rfl) (rowJ_get hsz1 ((gi + 1 - gk)) (by omega) (by omega)))), fun a w gG hF hS hd => q_yes rfl (hF.ext1 19 (hd 3 rfl rfl)) rfl rfl rfl (by exact par_val hS rfl (g_move hF rfl)), fun a w gG hF hS hd => q_yes rfl (hF.ext1 19 (hd 3 rfl rfl)) rfl rfl rfl (by exact par_val hS rfl (g_move hF rfl)), fun a w gG hF hS hd => q_yes rfl (hF.ext1 19 (hd 3 rfl rfl)) rfl rfl rfl (by have hF := hF.ext1 25 (hd 9 rfl rfl); exact par_val hS rfl (g_sub hF rfl rfl (show _ = (((gi + 1 - gk) - 1 : Nat) : Int) from (by rw [wrap_i64] <;> omega)))), fun a w gG hF hS hd => q_yes rfl (hF.ext1 19 (hd 3 rfl rfl)) rfl rfl rfl (by have hF := hF.ext1 24 (hd 8 rfl rfl); have hF := hF.ext1 26 (hd 10 rfl rfl); exact par_val hS rfl (g_indexSl (i := (gi + 1 - gk) - 1) ty_sl_22 hF rfl rfl rfl (by omega))), fun a w gG hF hS hd => q_yes rfl (hF.ext1 19 (hd 3 rfl rfl)) rfl rfl rfl (by have hF := hF.ext1 27 (hd 11 rfl rfl); have hM := hS.mem rfl; exact par_val hS rfl (g_load ty_on_2 hF rfl (hM.row 0 rfl) (rowJ_get hsz1 ((gi + 1 - gk) - 1) (by omega) (by omega)))), trivial⟩ ?_
       intro a w' L hF hS hq
       have hM := hS.mem rfl
       have hF := hF.ext1 16 (hq 0 rfl rfl)
       have hF := hF.ext1 17 (hq 1 rfl rfl)
       have hF := hF.ext1 18 (hq 2 rfl rfl)
       have hF := hF.ext1 19 (hq 3 rfl rfl)
       have hF := hF.ext1 20 (hq 4 rfl rfl)
       have hF := hF.ext1 21 (hq 5 rfl rfl)
       have hF := hF.ext1 22 (hq 6 rfl rfl)
       have hF := hF.ext1 23 (hq 7 rfl rfl)
       have hF := hF.ext1 24 (hq 8 rfl rfl)
       have hF := hF.ext1 25 (hq 9 rfl rfl)
       have hF := hF.ext1 26 (hq 10 rfl rfl)
       have hF := hF.ext1 27 (hq 11 rfl rfl)
       have hF := hF.ext1 28 (hq 12 rfl rfl)
       change MemX [b1] w w' [some (b1, rowJ cs1 nn D2)] [] at hM
       change wpList Try.prog _ _ [_, _] _ _
       refine stYR hF rfl rfl rfl (d_call Try.call66 hF (.cons rfl (.cons rfl .nil)) (less_ok (D2 ((gi + 1 - gk))) (D2 ((gi + 1 - gk) - 1)) _)) rfl ?_
       rintro _ w' a ⟨hx, rfl⟩ hF
       have hM := hM.ext hx
       refine st hF (g_pickT hF rfl rfl) rfl fun a hF => ?_
       refine wpList_nil ?_
       refine tN ?_
       refine c_cond hF rfl (fun h2 => ?_) (fun h2 => ?_)
       ·
        refine wp_skip ?_
        refine tN ?_
        refine sq ?_
        refine wp_block ?_
        refine c_drawS (S := fun (b : Bool) w2 => MemX [b1] w w2 [some (b1, if b then rowJ cs1 nn (putJ D2 (gi + 1 - gk) (D2 ((gi + 1 - gk) - 1))) else rowJ cs1 nn D2)] []) 16 15 hmix rfl rfl rfl hF rfl (fun j o hj hne => dstAll_spec (s := 15) (i := 0) rfl j o hj (by omega)) hM (fun b w h => h.ext (Below.drew (Below.refl _ _))) (vAt [.slice (some ⟨b1, 0, none⟩) (nn) (c1), .int .i64 ((((gi + 1 - gk) : Nat) : Int)), .slice (some ⟨b1, 0, none⟩) (nn) (c1), .int .i64 ((((gi + 1 - gk) : Nat) : Int)), .int .i64 ((((gi + 1 - gk) - 1 : Nat) : Int)), .slice (some ⟨b1, 0, none⟩) (nn) (c1), .int .i64 ((((gi + 1 - gk) : Nat) : Int)), .int .i64 ((((gi + 1 - gk) - 1 : Nat) : Int)), ptr b1 (0 + ((gi + 1 - gk) - 1) * 1), .int .i64 (D2 ((gi + 1 - gk) - 1)), .slice (some ⟨b1, 0, none⟩) (nn) (c1), .int .i64 ((((gi + 1 - gk) : Nat) : Int)), ptr b1 (0 + ((gi + 1 - gk)) * 1), .int .i64 (D2 ((gi + 1 - gk))), ptr b1 (0 + ((gi + 1 - gk)) * 1), undef]) ⟨fun a w2 b hF hS hb hd => by exact parS_val (S := fun (b : Bool) w2 => MemX [b1] w w2 [some (b1, if b then rowJ cs1 nn (putJ D2 (gi + 1 - gk) (D2 ((gi + 1 - gk) - 1))) else rowJ cs1 nn D2)] []) hS (g_move hF rfl), fun a w2 b hF hS hb hd => by exact parS_val (S := fun (b : Bool) w2 => MemX [b1] w w2 [some (b1, if b then rowJ cs1 nn (putJ D2 (gi + 1 - gk) (D2 ((gi + 1 - gk) - 1))) else rowJ cs1 nn D2)] []) hS (g_move hF rfl), fun a w2 b hF hS hb hd => by exact parS_val (S := fun (b : Bool) w2 => MemX [b1] w w2 [some (b1, if b then rowJ cs1 nn (putJ D2 (gi + 1 - gk) (D2 ((gi + 1 - gk) - 1))) else rowJ cs1 nn D2)] []) hS (g_move hF rfl), fun a w2 b hF hS hb hd => by exact parS_val (S := fun (b : Bool) w2 => MemX [b1] w w2 [some (b1, if b then rowJ cs1 nn (putJ D2 (gi + 1 - gk) (D2 ((gi + 1 - gk) - 1))) else rowJ cs1 nn D2)] []) hS (g_move hF rfl), fun a w2 b hF hS hb hd => by have hF := hF.ext1 36 (hd 3 rfl rfl rfl); exact parS_val (S := fun (b : Bool) w2 => MemX [b1] w w2 [some (b1, if b then rowJ cs1 nn (putJ D2 (gi + 1 - gk) (D2 ((gi + 1 - gk) - 1))) else rowJ cs1 nn D2)] []) hS (g_sub hF rfl rfl (show _ = (((gi + 1 - gk) - 1 : Nat) : Int) from (by rw [wrap_i64] <;> omega))), fun a w2 b hF hS hb hd => by exact parS_val (S := fun (b : Bool) w2 => MemX [b1] w w2 [some (b1, if b then rowJ cs1 nn (putJ D2 (gi + 1 - gk) (D2 ((gi + 1 - gk) - 1))) else rowJ cs1 nn D2)] []) hS (g_move hF rfl), fun a w2 b hF hS hb hd => by exact parS_val (S := fun (b : Bool) w2 => MemX [b1] w w2 [some (b1, if b then rowJ cs1 nn (putJ D2 (gi + 1 - gk) (D2 ((gi + 1 - gk) - 1))) else rowJ cs1 nn D2)] []) hS (g_move hF rfl), fun a w2 b hF hS hb hd => by have hF := hF.ext1 39 (hd 6 rfl rfl rfl); exact parS_val (S := fun (b : Bool) w2 => MemX [b1] w w2 [some (b1, if b then rowJ cs1 nn (putJ D2 (gi + 1 - gk) (D2 ((gi + 1 - gk) - 1))) else rowJ cs1 nn D2)] []) hS (g_sub hF rfl rfl (show _ = (((gi + 1 - gk) - 1 : Nat) : Int) from (by rw [wrap_i64] <;> omega))), fun a w2 b hF hS hb hd => by have hF := hF.ext1 38 (hd 5 rfl rfl rfl); have hF := hF.ext1 40 (hd 7 rfl rfl rfl); exact parS_val (S := fun (b : Bool) w2 => MemX [b1] w w2 [some (b1, if b then rowJ cs1 nn (putJ D2 (gi + 1 - gk) (D2 ((gi + 1 - gk) - 1))) else rowJ cs1 nn D2)] []) hS (g_indexSl (i := (gi + 1 - gk) - 1) ty_sl_22 hF rfl rfl rfl (by omega)), fun a w2 b hF hS hb hd => by have hF := hF.ext1 41 (hd 8 rfl rfl rfl); obtain rfl := hb rfl; have hM : MemX [b1] w w2 [some (b1, rowJ cs1 nn D2)] [] := hS; exact parS_val (S := fun (b : Bool) w2 => MemX [b1] w w2 [some (b1, if b then rowJ cs1 nn (putJ D2 (gi + 1 - gk) (D2 ((gi + 1 - gk) - 1))) else rowJ cs1 nn D2)] []) (b := false) hS (g_load ty_on_2 hF rfl (hM.row 0 rfl) (rowJ_get hsz1 ((gi + 1 - gk) - 1) (by omega) (by omega))), fun a w2 b hF hS hb hd => by exact parS_val (S := fun (b : Bool) w2 => MemX [b1] w w2 [some (b1, if b then rowJ cs1 nn (putJ D2 (gi + 1 - gk) (D2 ((gi + 1 - gk) - 1))) else rowJ cs1 nn D2)] []) hS (g_move hF rfl), fun a w2 b hF hS hb hd => by exact parS_val (S := fun (b : Bool) w2 => MemX [b1] w w2 [some (b1, if b then rowJ cs1 nn (putJ D2 (gi + 1 - gk) (D2 ((gi + 1 - gk) - 1))) else rowJ cs1 nn D2)] []) hS (g_move hF rfl), fun a w2 b hF hS hb hd => by have hF := hF.ext1 43 (hd 10 rfl rfl rfl); have hF := hF.ext1 44 (hd 11 rfl rfl rfl); exact parS_val (S := fun (b : Bool) w2 => MemX [b1] w w2 [some (b1, if b then rowJ cs1 nn (putJ D2 (gi + 1 - gk) (D2 ((gi + 1 - gk) - 1))) else rowJ cs1 nn D2)] []) hS (g_indexSl (i := (gi + 1 - gk)) ty_sl_22 hF rfl rfl rfl (by omega)), fun a w2 b hF hS hb hd => by have hF := hF.ext1 45 (hd 12 rfl rfl rfl); obtain rfl := hb rfl; have hM : MemX [b1] w w2 [some (b1, rowJ cs1 nn D2)] [] := hS; exact parS_val (S := fun (b : Bool) w2 => MemX [b1] w w2 [some (b1, if b then rowJ cs1 nn (putJ D2 (gi + 1 - gk) (D2 ((gi + 1 - gk) - 1))) else rowJ cs1 nn D2)] []) (b := false) hS (g_load ty_on_2 hF rfl (hM.row 0 rfl) (rowJ_get hsz1 ((gi + 1 - gk)) (by omega) (by omega))), fun a w2 b hF hS hb hd => by have hF := hF.ext1 33 (hd 0 rfl rfl rfl); have hF := hF.ext1 34 (hd 1 rfl rfl rfl); exact parS_val (S := fun (b : Bool) w2 => MemX [b1] w w2 [some (b1, if b then rowJ cs1 nn (putJ D2 (gi + 1 - gk) (D2 ((gi + 1 - gk) - 1))) else rowJ cs1 nn D2)] []) hS (g_indexSl (i := (gi + 1 - gk)) ty_sl_22 hF rfl rfl rfl (by omega)), fun a w2 hF hS hd => by have hF := hF.ext1 42 (hd 9 rfl rfl rfl); have hF := hF.ext1 47 (hd 14 rfl rfl rfl); have hM : MemX [b1] w w2 [some (b1, rowJ cs1 nn D2)] [] := hS; exact d_storeQ 0 hM rfl ty_on_2 hF rfl rfl rfl (by simp only [fnC_size, cells_size, vecC_size, tabC_size, planeC_size, tenC_size, smC_size, numC_size, numI_size, rowJ_size] <;> omega) (rowJ_put hsz1 (gi + 1 - gk) (by omega) (by omega)), trivial⟩ ?_
        intro a w' hF hS hq
        have hM : MemX [b1] w w' [some (b1, rowJ cs1 nn (putJ D2 (gi + 1 - gk) (D2 ((gi + 1 - gk) - 1))))] [] := hS
        have hF := hF.ext1 35 (show _ = (.slice (some ⟨b1, 0, none⟩) (nn) (c1) : Value) from hq 2 rfl rfl rfl)
        have hF := hF.ext1 37 (show _ = (.int .i64 ((((gi + 1 - gk) - 1 : Nat) : Int)) : Value) from hq 4 rfl rfl rfl)
        have hF := hF.ext1 46 (show _ = (.int .i64 (D2 ((gi + 1 - gk))) : Value) from hq 13 rfl rfl rfl)
        change wpList Try.prog _ _ [_, _] _ _
        refine st hF (g_indexSl (i := (gi + 1 - gk) - 1) ty_sl_22 hF rfl rfl rfl (by omega)) rfl fun a hF => ?_
        refine stN hF (d_store 0 hM rfl ty_on_2 hF rfl rfl rfl (by first | omega | (simp only [fnC_size, cells_size, vecC_size, tabC_size, planeC_size, tenC_size, smC_size, numC_size, numI_size, rowJ_size] <;> omega) | (simp only [Array.size_setIfInBounds]; omega) | simp)) ?_
        intro _ w' a hM hF
        rw [show (rowJ cs1 nn (putJ D2 (gi + 1 - gk) (D2 ((gi + 1 - gk) - 1)))).setIfInBounds (0 + ((gi + 1 - gk) - 1) * 1) (.int .i64 (D2 ((gi + 1 - gk)))) = rowJ cs1 nn (putJ (putJ D2 (gi + 1 - gk) (D2 ((gi + 1 - gk) - 1))) ((gi + 1 - gk) - 1) (D2 ((gi + 1 - gk)))) from rowJ_put hsz1 ((gi + 1 - gk) - 1) (by omega) (by omega)] at hM
        change MemX [b1] w w' [some (b1, rowJ cs1 nn (putJ (putJ D2 (gi + 1 - gk) (D2 ((gi + 1 - gk) - 1))) ((gi + 1 - gk) - 1) (D2 ((gi + 1 - gk)))))] [] at hM
        refine wpList_nil ?_
        refine iN ?_
        refine tN ?_
        refine wp_region_lit ?_
        refine st hF (g_move hF rfl) rfl fun a hF => st hF (g_sub hF rfl rfl (show _ = (((gi + 1 - gk) - 1 : Nat) : Int) from (by rw [wrap_i64] <;> omega))) rfl fun a hF => st hF (g_assign hF rfl) rfl fun a hF => ?_
        refine wpList_nil ?_
        refine tN ?_
        refine ⟨gk + 1, ⟨by omega, (putJ (putJ D2 (gi + 1 - gk) (D2 ((gi + 1 - gk) - 1))) ((gi + 1 - gk) - 1) (D2 ((gi + 1 - gk)))), ⟨AscButJ.step (j := gi + 1 - gk) hinv2.1 (by omega) (by omega) (by omega), SameSetJ.swap hinv2.2 (i := gi + 1 - gk - 1) (j := gi + 1 - gk) (by omega) (by omega)⟩, hF.sub _ (by repeat' constructor), ?_⟩, by omega⟩
        exact hM
       ·
        refine wp_exit ?_
        refine tX ?_
        refine tX ?_
        refine ib_same ?_
        refine iN ?_
        refine tN ?_
        refine wp_region_lit ?_
        refine st hF (g_move hF rfl) rfl fun a hF => st hF (g_add hF rfl rfl (add_nat (gi + 1) (1) (by omega))) rfl fun a hF => st hF (g_assign hF rfl) rfl fun a hF => ?_
        refine wpList_nil ?_
        refine tN ?_
        refine ⟨gi + 1, ⟨by omega, D2, ⟨AscButJ.done hinv2.1 (by first | exact .inl (by omega) | exact .inr (by omega)), hinv2.2⟩, hF.sub _ (by repeat' constructor), ?_⟩, by omega⟩
        exact hM
     ·
       refine c_parQ 13 [] [.val (.int .i64 ((((gi + 1 - gk) : Nat) : Int))), .val (.int .i64 (0)), .val (.bool (false)), .val (.bool (false)), .val undef, .val undef, .val undef, .val undef, .val undef, .val undef, .val undef, .val undef, .val undef] hmix rfl hF rfl hM ⟨fun a w gG hF hS hd => q_none rfl (by exact par_val hS rfl (g_move hF rfl)), fun a w gG hF hS hd => q_none rfl (by exact par_val hS rfl (g_move hF rfl)), fun a w gG hF hS hd => q_none rfl (by have hF := hF.ext1 16 (hd 0 rfl rfl); have hF := hF.ext1 17 (hd 1 rfl rfl); exact par_val hS rfl (gives_eq (g_gtr hF rfl rfl) (congrArg Value.bool (decide_eq_false (by omega))))), fun a w gG hF hS hd => q_none rfl (by have hF := hF.ext1 18 (hd 2 rfl rfl); exact par_val hS rfl (g_move hF rfl)), fun a w gG hF hS hd => q_no rfl (hF.ext1 19 (hd 3 rfl rfl)) rfl rfl rfl rfl ⟨gG, hS, fact_get rfl rfl, fun _ _ _ h => h⟩, fun a w gG hF hS hd => q_no rfl (hF.ext1 19 (hd 3 rfl rfl)) rfl rfl rfl rfl ⟨gG, hS, fact_get rfl rfl, fun _ _ _ h => h⟩, fun a w gG hF hS hd => q_no rfl (hF.ext1 19 (hd 3 rfl rfl)) rfl rfl rfl rfl ⟨gG, hS, fact_get rfl rfl, fun _ _ _ h => h⟩, fun a w gG hF hS hd => q_no rfl (hF.ext1 19 (hd 3 rfl rfl)) rfl rfl rfl rfl ⟨gG, hS, fact_get rfl rfl, fun _ _ _ h => h⟩, fun a w gG hF hS hd => q_no rfl (hF.ext1 19 (hd 3 rfl rfl)) rfl rfl rfl rfl ⟨gG, hS, fact_get rfl rfl, fun _ _ _ h => h⟩, fun a w gG hF hS hd => q_no rfl (hF.ext1 19 (hd 3 rfl rfl)) rfl rfl rfl rfl ⟨gG, hS, fact_get rfl rfl, fun _ _ _ h => h⟩, fun a w gG hF hS hd => q_no rfl (hF.ext1 19 (hd 3 rfl rfl)) rfl rfl rfl rfl ⟨gG, hS, fact_get rfl rfl, fun _ _ _ h => h⟩, fun a w gG hF hS hd => q_no rfl (hF.ext1 19 (hd 3 rfl rfl)) rfl rfl rfl rfl ⟨gG, hS, fact_get rfl rfl, fun _ _ _ h => h⟩, fun a w gG hF hS hd => q_no rfl (hF.ext1 19 (hd 3 rfl rfl)) rfl rfl rfl rfl ⟨gG, hS, fact_get rfl rfl, fun _ _ _ h => h⟩, trivial⟩ ?_
       intro a w' L hF hS hq
       have hM := hS.mem rfl
       have hF := hF.ext1 16 (hq 0 rfl rfl)
       have hF := hF.ext1 17 (hq 1 rfl rfl)
       have hF := hF.ext1 18 (hq 2 rfl rfl)
       have hF := hF.ext1 19 (hq 3 rfl rfl)
       have hF := hF.ext1 20 (hq 4 rfl rfl)
       have hF := hF.ext1 21 (hq 5 rfl rfl)
       have hF := hF.ext1 22 (hq 6 rfl rfl)
       have hF := hF.ext1 23 (hq 7 rfl rfl)
       have hF := hF.ext1 24 (hq 8 rfl rfl)
       have hF := hF.ext1 25 (hq 9 rfl rfl)
       have hF := hF.ext1 26 (hq 10 rfl rfl)
       have hF := hF.ext1 27 (hq 11 rfl rfl)
       have hF := hF.ext1 28 (hq 12 rfl rfl)
       change MemX [b1] w w' [some (b1, rowJ cs1 nn D2)] [] at hM
       change wpList Try.prog _ _ [_, _] _ _
       refine stS hF rfl rfl rfl rfl rfl fun a hF => st hF (g_pickF hF rfl rfl) rfl fun a hF => ?_
       refine wpList_nil ?_
       refine tN ?_
       refine c_Fl hF rfl ?_
       refine wp_exit ?_
       refine tX ?_
       refine tX ?_
       refine ib_same ?_
       refine iN ?_
       refine tN ?_
       refine wp_region_lit ?_
       refine st hF (g_move hF rfl) rfl fun a hF => st hF (g_add hF rfl rfl (add_nat (gi + 1) (1) (by omega))) rfl fun a hF => st hF (g_assign hF rfl) rfl fun a hF => ?_
       refine wpList_nil ?_
       refine tN ?_
       refine ⟨gi + 1, ⟨by omega, D2, ⟨AscButJ.done hinv2.1 (by first | exact .inl (by omega) | exact .inr (by omega)), hinv2.2⟩, hF.sub _ (by repeat' constructor), ?_⟩, by omega⟩
       exact hM
   ·
    obtain rfl : (nn - 1) = gi := by omega
    refine wp_exit ?_
    refine tX ?_
    refine tX ?_
    refine ib_same ?_
    refine fin0n rfl hF.defers  ⟨_, rfl, hM.bel, ?_⟩
    exact ⟨rfl, D1, hM.row 0 rfl, by have h9 := hinv1.1; rwa [show nn - 1 + 1 = nn by omega] at h9, hinv1.2⟩

theorem wrap_u64 {x : Int} (h1 : 0 ≤ x) (h2 : x < 18446744073709551616) : IntKind.u64.wrap x = x := by
  unfold IntKind.wrap IntKind.bits IntKind.signed
  simp
  omega
theorem bitsLen_ok (n : Nat) (w : World) (h : n ≤ 1000) : CallsR Try.prog 59 #[.int .u64 ((n : Nat) : Int)] w (fun v _ => ∃ l : Int, v = .int .i64 l) :=
  (Try.bits_Len ((n : Nat) : Int) w (by omega) (by omega)).mono fun e w' ⟨he, hw⟩ => ⟨_, he, hw ▸ Ext.refl _, _, rfl⟩

theorem pdqsort_ok (b1 c1 nn : Nat) (cs1 : Array Value) (ls : Nat → Int) (lim : Int) (w : World) (hnn : 0 < nn) (hnn2 : nn ≤ 12) (hsz1 : nn ≤ cs1.size) (hb : Blk w b1 (rowJ cs1 nn ls)) :
    CallsX Try.prog [b1] 58 #[.slice (some ⟨b1, 0, none⟩) (nn) (c1), .int .i64 (0), .int .i64 (((nn : Nat) : Int)), .int .i64 (lim)] w (fun v w' => v = .tuple #[] ∧ ∃ D, Blk w' b1 (rowJ cs1 nn D) ∧ AscJ nn D ∧ SameSetJ nn D ls) := by
  refine calls_frX [.slice (some ⟨b1, 0, none⟩) (nn) (c1), .int .i64 (0), .int .i64 (((nn : Nat) : Int)), .int .i64 (lim)] Try.func58 rfl Try.ntmps58 rfl fun a hF => ?_
  have hM : MemX [b1] w w [some (b1, rowJ cs1 nn ls)] [] := MemX.startX1 0 hb
  change Fr 134 a [(0, .slice (some ⟨b1, 0, none⟩) (nn) (c1)), (1, .int .i64 (0)), (2, .int .i64 (((nn : Nat) : Int))), (3, .int .i64 (lim))] at hF
  refine sq ?_
  refine wp_region_lit ?_
  refine st hF (g_assign hF rfl) rfl fun a hF => ?_
  refine wpList_nil ?_
  refine tN ?_
  refine sq ?_
  refine wp_region_lit ?_
  refine st hF (g_assign hF rfl) rfl fun a hF => ?_
  refine wpList_nil ?_
  refine tN ?_
  refine wp_block ?_
  refine wp_loop_rounds 1 ?_
  refine rnd ?_
  refine wp_block ?_
  refine sq ?_
  refine wp_region_lit ?_
  refine st hF (g_move hF rfl) rfl fun a hF => st hF (g_move hF rfl) rfl fun a hF => st hF (g_sub hF rfl rfl (show _ = ((nn : Nat) : Int) from (by rw [wrap_i64] <;> omega))) rfl fun a hF => st hF (g_assign hF rfl) rfl fun a hF => ?_
  refine wpList_nil ?_
  refine tN ?_
  refine sq ?_
  refine sq ?_
  refine wp_region_lit ?_
  refine st hF (g_move hF rfl) rfl fun a hF => st hF (g_leq hF rfl rfl) rfl fun a hF => ?_
  refine wpList_nil ?_
  refine tN ?_
  refine c_cond hF rfl (fun h1 => ?_) (fun h1 => ?_)
  ·
   refine sq ?_
   refine wp_region_lit ?_
   refine st hF (g_move hF rfl) rfl fun a hF => st hF (g_move hF rfl) rfl fun a hF => st hF (g_move hF rfl) rfl fun a hF => ?_
   refine stR hF (d_callX Try.call60 hF (.cons rfl (.cons rfl (.cons rfl .nil))) (insertionSort_ok b1 c1 nn cs1 ls _ hnn hnn2 hsz1 (hM.row 0 rfl))) rfl ?_
   rintro _ w' a ⟨hx, rfl, D4, hbk, hA4, hS4⟩ hF
   have hM := hM.upd (cs' := rowJ cs1 nn D4) 0 rfl hx hbk
   change MemX [b1] w w' [some (b1, rowJ cs1 nn D4)] [] at hM
   refine wpList_nil ?_
   refine tN ?_
   refine wp_ret ?_
   refine tR ?_
   refine iR ?_
   refine tR ?_
   refine iR ?_
   refine fin0 rfl hF.defers  ⟨_, rfl, hM.bel, ?_⟩
   exact ⟨rfl, D4, hM.row 0 rfl, hA4, hS4⟩
  ·
   exfalso; omega

theorem sort_ok (b1 c1 nn : Nat) (cs1 : Array Value) (ls : Nat → Int) (w : World) (hnn : 0 < nn) (hnn2 : nn ≤ 12) (hsz1 : nn ≤ cs1.size) (hb : Blk w b1 (rowJ cs1 nn ls)) :
    CallsX Try.prog [b1] 52 #[.slice (some ⟨b1, 0, none⟩) (nn) (c1)] w (fun v w' => v = .tuple #[] ∧ ∃ D, Blk w' b1 (rowJ cs1 nn D) ∧ AscJ nn D ∧ SameSetJ nn D ls) := by
  refine calls_frX [.slice (some ⟨b1, 0, none⟩) (nn) (c1)] Try.func52 rfl Try.ntmps52 rfl fun a hF => ?_
  have hM : MemX [b1] w w [some (b1, rowJ cs1 nn ls)] [] := MemX.startX1 0 hb
  change Fr 11 a [(0, .slice (some ⟨b1, 0, none⟩) (nn) (c1))] at hF
  refine sq ?_
  refine wp_region_lit ?_
  refine st hF (g_move hF rfl) rfl fun a hF => st hF (g_len ty_us_22 hF rfl) rfl fun a hF => st hF (g_assign hF rfl) rfl fun a hF => ?_
  refine wpList_nil ?_
  refine tN ?_
  refine wp_region_lit ?_
  refine st hF (g_move hF rfl) rfl fun a hF => st hF (g_move hF rfl) rfl fun a hF => st hF (g_move hF rfl) rfl fun a hF => st hF (g_conv ty_un_78 ty_ud_3 hF rfl (wrap_u64 (by omega) (by omega))) rfl fun a hF => ?_
  refine stR hF (d_call Try.call59 hF (.cons rfl .nil) (bitsLen_ok (nn) _ (by omega))) rfl ?_
  rintro _ w' a ⟨hx, lim, rfl⟩ hF
  have hM := hM.ext hx
  refine stR hF (d_callX Try.call58 hF (.cons rfl (.cons rfl (.cons rfl (.cons rfl .nil)))) (pdqsort_ok b1 c1 nn cs1 ls lim _ hnn hnn2 hsz1 (hM.row 0 rfl))) rfl ?_
  rintro _ w' a ⟨hx, rfl, D4, hbk, hA4, hS4⟩ hF
  have hM := hM.upd (cs' := rowJ cs1 nn D4) 0 rfl hx hbk
  change MemX [b1] w w' [some (b1, rowJ cs1 nn D4)] [] at hM
  refine wpList_nil ?_
  refine fin0n rfl hF.defers  ⟨_, rfl, hM.bel, ?_⟩
  exact ⟨rfl, D4, hM.row 0 rfl, hA4, hS4⟩

end Go.Proofs.Ytlpccepifehilaa
