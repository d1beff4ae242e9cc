/- What functions of the program return, as walks over their operations; no statement of the seat is proved here. -/
import Derived.Test.YtnaabnhjokibfaaW2
set_option linter.unusedVariables false
set_option linter.unusedSimpArgs false
namespace Go.Proofs.Ytnaabnhjokibfaa
open Go Go.RowKit Go.Sw
open Classical
theorem IsWordI_E  (w : World)  :
    CallsR Try.prog 12 #[.string (⟨#[]⟩)] w (fun res _ => res = .bool true) := by
  refine calls_fr [.string (⟨#[]⟩)] Try.func12 rfl Try.ntmps12 rfl fun a hF => ?_
  have hM : Mem w w [] [] := MemX.start w 0
  change Fr 11 a [(0, .string (⟨#[]⟩))] at hF
  have he0 : (⟨#[]⟩ : ByteArray).size = 0 := rfl
  refine sq ?_
  refine wp_region_lit ?_
  refine st hF (g_assign hF rfl) rfl fun a hF => ?_
  refine wpList_nil ?_
  refine tN ?_
  refine sq ?_
  refine wp_region_lit ?_
  refine st hF (g_move hF rfl) rfl fun a hF => ?_
  refine stR hF (d_call Try.call33 hF (.cons rfl .nil) (layersOf_E _)) rfl ?_
  rintro _ w' a ⟨hx, rfl⟩ hF
  have hM := hM.ext hx
  refine st hF (g_move hF rfl) rfl fun a hF => st hF (g_extract hF rfl rfl) rfl fun a hF => st hF (g_extract hF rfl rfl) rfl fun a hF => st hF (g_assign hF rfl) rfl fun a hF => st hF (g_assign hF rfl) rfl fun a hF => ?_
  refine wpList_nil ?_
  refine tN ?_
  refine sq ?_
  refine wp_region_lit ?_
  refine st hF (g_move hF rfl) rfl fun a hF => st hF (g_assign hF rfl) rfl fun a hF => ?_
  refine wpList_nil ?_
  refine tN ?_
  refine wp_ret ?_
  refine fin1 rfl hF.defers (res_tmp hF rfl) ⟨_, rfl, hM.below, ?_⟩
  show _ = _
  rfl

theorem IsWordI_L (s : ByteArray) (w : World) (h0 : 300 < s.size) :
    CallsR Try.prog 12 #[.string (s)] w (fun res _ => res = .bool false) := by
  refine calls_fr [.string (s)] Try.func12 rfl Try.ntmps12 rfl fun a hF => ?_
  have hM : Mem w w [] [] := MemX.start w 0
  change Fr 11 a [(0, .string (s))] at hF
  refine sq ?_
  refine wp_region_lit ?_
  refine st hF (g_assign hF rfl) rfl fun a hF => ?_
  refine wpList_nil ?_
  refine tN ?_
  refine sq ?_
  refine wp_region_lit ?_
  refine st hF (g_move hF rfl) rfl fun a hF => ?_
  refine stR hF (d_call Try.call33 hF (.cons rfl .nil) (layersOf_L s _ h0)) rfl ?_
  rintro _ w' a ⟨hx, rfl⟩ hF
  have hM := hM.ext hx
  refine st hF (g_move hF rfl) rfl fun a hF => st hF (g_extract hF rfl rfl) rfl fun a hF => st hF (g_extract hF rfl rfl) rfl fun a hF => st hF (g_assign hF rfl) rfl fun a hF => st hF (g_assign hF rfl) rfl fun a hF => ?_
  refine wpList_nil ?_
  refine tN ?_
  refine sq ?_
  refine wp_region_lit ?_
  refine st hF (g_move hF rfl) rfl fun a hF => st hF (g_assign hF rfl) rfl fun a hF => ?_
  refine wpList_nil ?_
  refine tN ?_
  refine wp_ret ?_
  refine fin1 rfl hF.defers (res_tmp hF rfl) ⟨_, rfl, hM.below, ?_⟩
  show _ = _
  rfl

theorem IsWordI_N (s : ByteArray) (w : World) (hW : ¬ WordP s) (h0 : 0 < s.size) (h3 : s.size ≤ 300) :
    CallsR Try.prog 12 #[.string (s)] w (fun res _ => res = .bool false) := by
  refine calls_fr [.string (s)] Try.func12 rfl Try.ntmps12 rfl fun a hF => ?_
  have hM : Mem w w [] [] := MemX.start w 0
  change Fr 11 a [(0, .string (s))] at hF
  refine sq ?_
  refine wp_region_lit ?_
  refine st hF (g_assign hF rfl) rfl fun a hF => ?_
  refine wpList_nil ?_
  refine tN ?_
  refine sq ?_
  refine wp_region_lit ?_
  refine st hF (g_move hF rfl) rfl fun a hF => ?_
  refine stR hF (d_call Try.call33 hF (.cons rfl .nil) (layersOf_N s _ hW h0 h3)) rfl ?_
  rintro _ w' a ⟨hx, rfl⟩ hF
  have hM := hM.ext hx
  refine st hF (g_move hF rfl) rfl fun a hF => st hF (g_extract hF rfl rfl) rfl fun a hF => st hF (g_extract hF rfl rfl) rfl fun a hF => st hF (g_assign hF rfl) rfl fun a hF => st hF (g_assign hF rfl) rfl fun a hF => ?_
  refine wpList_nil ?_
  refine tN ?_
  refine sq ?_
  refine wp_region_lit ?_
  refine st hF (g_move hF rfl) rfl fun a hF => st hF (g_assign hF rfl) rfl fun a hF => ?_
  refine wpList_nil ?_
  refine tN ?_
  refine wp_ret ?_
  refine fin1 rfl hF.defers (res_tmp hF rfl) ⟨_, rfl, hM.below, ?_⟩
  show _ = _
  rfl

theorem IsWordI_Y (s : ByteArray) (w : World) (hW : WordP s) (h0 : 0 < s.size) :
    CallsR Try.prog 12 #[.string (s)] w (fun res _ => res = .bool true) := by
  refine calls_fr [.string (s)] Try.func12 rfl Try.ntmps12 rfl fun a hF => ?_
  have hM : Mem w w [none] [] := MemX.start w 1
  change Fr 11 a [(0, .string (s))] at hF
  have h3 := hW.1
  have hns : nSg s 47 = cnt s 47 s.size + 1 := rfl
  have hcl := cnt_le (s := s) (c := 47) s.size
  refine sq ?_
  refine wp_region_lit ?_
  refine st hF (g_assign hF rfl) rfl fun a hF => ?_
  refine wpList_nil ?_
  refine tN ?_
  refine sq ?_
  refine wp_region_lit ?_
  refine st hF (g_move hF rfl) rfl fun a hF => ?_
  refine stR hF (d_call Try.call33 hF (.cons rfl .nil) (layersOf_Y s _ hW h0)) rfl ?_
  rintro u w' a ⟨hx, ul, rfl, bW, cW, csW, hs, hgW, hbW⟩ hF
  obtain rfl := hs.val
  have hM := hM.fill hx 0 hbW hgW
  change Mem w w' [some (bW, csW)] [] at hM
  refine st hF (g_move hF rfl) rfl fun a hF => st hF (g_extract hF rfl rfl) rfl fun a hF => st hF (g_extract hF rfl rfl) rfl fun a hF => st hF (g_assign hF rfl) rfl fun a hF => st hF (g_assign hF rfl) rfl fun a hF => ?_
  refine wpList_nil ?_
  refine tN ?_
  refine sq ?_
  refine wp_region_lit ?_
  refine st hF (g_move hF rfl) rfl fun a hF => st hF (g_assign hF rfl) rfl fun a hF => ?_
  refine wpList_nil ?_
  refine tN ?_
  refine wp_ret ?_
  refine fin1 rfl hF.defers (res_tmp hF rfl) ⟨_, rfl, hM.below, ?_⟩
  show _ = _
  rfl

theorem endsOf_nil  (w : World)  :
    CallsR Try.prog 35 #[.slice none 0 0] w (fun res _ => res = .tuple #[.int .i64 0, .int .i64 0]) := by
  refine calls_fr [.slice none 0 0] Try.func35 rfl Try.ntmps35 rfl fun a hF => ?_
  have hM : Mem w w [] [] := MemX.start w 0
  change Fr 18 a [(0, .slice none 0 0)] at hF
  refine sq ?_
  refine wp_region_lit ?_
  refine st hF (g_assign hF rfl) rfl fun a hF => st hF (g_assign hF rfl) rfl fun a hF => ?_
  refine wpList_nil ?_
  refine tN ?_
  refine sq ?_
  refine sq ?_
  refine wp_region_lit ?_
  refine st hF (g_move hF rfl) rfl fun a hF => st hF (g_len0 ty_us_49 hF rfl) rfl fun a hF => st hF (g_eql hF rfl rfl) rfl fun a hF => ?_
  refine wpList_nil ?_
  refine tN ?_
  refine c_kT hF rfl (by decide) ?_
  refine sq ?_
  refine wp_region_lit ?_
  refine st hF (g_assign hF rfl) rfl fun a hF => st hF (g_assign hF rfl) rfl fun a hF => ?_
  refine wpList_nil ?_
  refine tN ?_
  refine wp_ret ?_
  refine tR ?_
  refine fin2 rfl hF.defers (res_tmp hF rfl) (res_tmp hF rfl) ⟨_, rfl, hM.below, ?_⟩
  show _ = _
  rfl

theorem endsOf_S (s : ByteArray) (bl cl : Nat) (cs : Array Value) (v : Value) (e : Option (Nat × Array Value)) (w : World) (hs : SlAt 3 v e (nSg s 47) bl cl cs (layF s)) (hb : Blk w bl cs) (hk : s.size < 10000000) :
    CallsR Try.prog 35 #[.slice (some ⟨bl, 0, none⟩) (nSg s 47) (cl)] w (fun res _ => res = .tuple #[.int .i64 (((inR s (sgB s 47 (0)) : Nat) : Int)), .int .i64 (((outR s (sgB s 47 (nSg s 47 - 1)) : Nat) : Int))]) := by
  refine calls_fr [.slice (some ⟨bl, 0, none⟩) (nSg s 47) (cl)] Try.func35 rfl Try.ntmps35 rfl fun a hF => ?_
  have hM : Mem w w [] [(bl, cs)] := MemX.startD w 0 _ (startD1 hb)
  change Fr 18 a [(0, .slice (some ⟨bl, 0, none⟩) (nSg s 47) (cl))] at hF
  have hns : nSg s 47 = cnt s 47 s.size + 1 := rfl
  have hcl := cnt_le (s := s) (c := 47) s.size
  refine sq ?_
  refine wp_region_lit ?_
  refine st hF (g_assign hF rfl) rfl fun a hF => st hF (g_assign hF rfl) rfl fun a hF => ?_
  refine wpList_nil ?_
  refine tN ?_
  refine sq ?_
  refine sq ?_
  refine wp_region_lit ?_
  refine st hF (g_move hF rfl) rfl fun a hF => st hF (g_len ty_us_49 hF rfl) rfl fun a hF => st hF (g_eql hF rfl rfl) rfl fun a hF => ?_
  refine wpList_nil ?_
  refine tN ?_
  refine c_cond hF rfl (fun h1 => ?_) (fun h1 => ?_)
  ·
    exfalso; omega
  ·
    refine wp_skip ?_
    refine tN ?_
    refine sq ?_
    have hF := hF.sub [(0, .slice (some ⟨bl, 0, none⟩) (nSg s 47) (cl)), (3, .int .i64 (0)), (4, .slice (some ⟨bl, 0, none⟩) (nSg s 47) (cl)), (5, .int .i64 (((nSg s 47 : Nat) : Int))), (6, .bool (decide ((((nSg s 47 : Nat) : Int) : Int) = 0)))] (by repeat' constructor)
    refine c_par 12 [] [.val (.slice (some ⟨bl, 0, none⟩) (nSg s 47) (cl)), .val (ptr bl (0 + (0) * 3)), .val (ptr bl (0 + (0) * 3 + 1)), .val (.int .i64 (((inR s (sgB s 47 (0)) : Nat) : Int))), .val (.slice (some ⟨bl, 0, none⟩) (nSg s 47) (cl)), .val (.slice (some ⟨bl, 0, none⟩) (nSg s 47) (cl)), .val (.int .i64 (((nSg s 47 : Nat) : Int))), .val (.int .i64 (((nSg s 47 - 1 : Nat) : Int))), .val (ptr bl (0 + (nSg s 47 - 1) * 3)), .val (ptr bl (0 + (nSg s 47 - 1) * 3 + 2)), .val (.int .i64 (((outR s (sgB s 47 (nSg s 47 - 1)) : Nat) : Int))), .val (.int .i64 (((inR s (sgB s 47 (0)) : Nat) : Int)))] hmix rfl hF rfl hM ⟨fun a w gG hF hS hd => by exact par_val hS rfl (g_move hF rfl), fun a w gG hF hS hd => by have hF := hF.ext1 7 (hd 0 rfl rfl); exact par_val hS rfl (g_indexSl (i := 0) ty_sl_49 hF rfl rfl rfl (by omega)), fun a w gG hF hS hd => by have hF := hF.ext1 8 (hd 1 rfl rfl); exact par_val hS rfl (g_fieldAddr ty_fo_69_1 hF rfl), fun a w gG hF hS hd => by have hF := hF.ext1 9 (hd 2 rfl rfl); have hM := hS.mem rfl; exact par_val hS rfl (g_load ty_on_2 hF rfl (hM.fz 0 rfl) ((hs.get3 (0) 1 (by omega) (by omega) (by omega)).trans (congrArg some (layF_1 (0) rfl)))), fun a w gG hF hS hd => by exact par_val hS rfl (g_move hF rfl), fun a w gG hF hS hd => by exact par_val hS rfl (g_move hF rfl), fun a w gG hF hS hd => by have hF := hF.ext1 12 (hd 5 rfl rfl); exact par_val hS rfl (g_len ty_us_49 hF rfl), fun a w gG hF hS hd => by have hF := hF.ext1 13 (hd 6 rfl rfl); exact par_val hS rfl (g_sub hF rfl rfl (show _ = ((nSg s 47 - 1 : Nat) : Int) from (by rw [wrap_i64] <;> omega))), fun a w gG hF hS hd => by have hF := hF.ext1 11 (hd 4 rfl rfl); have hF := hF.ext1 14 (hd 7 rfl rfl); exact par_val hS rfl (g_indexSl (i := nSg s 47 - 1) ty_sl_49 hF rfl rfl rfl (by omega)), fun a w gG hF hS hd => by have hF := hF.ext1 15 (hd 8 rfl rfl); exact par_val hS rfl (g_fieldAddr ty_fo_69_2 hF rfl), fun a w gG hF hS hd => by have hF := hF.ext1 16 (hd 9 rfl rfl); have hM := hS.mem rfl; exact par_val hS rfl (g_load ty_on_2 hF rfl (hM.fz 0 rfl) ((hs.get3 (nSg s 47 - 1) 2 (by omega) (by omega) (by omega)).trans (congrArg some (layF_2 (nSg s 47 - 1) rfl)))), fun a w gG hF hS hd => by have hF := hF.ext1 10 (hd 3 rfl rfl); exact par_val hS rfl (g_assign hF rfl), trivial⟩ ?_
    intro a w' L hF hS hq
    have hF := hF.ext1 7 (hq 0 rfl rfl)
    have hF := hF.ext1 8 (hq 1 rfl rfl)
    have hF := hF.ext1 9 (hq 2 rfl rfl)
    have hF := hF.ext1 10 (hq 3 rfl rfl)
    have hF := hF.ext1 11 (hq 4 rfl rfl)
    have hF := hF.ext1 12 (hq 5 rfl rfl)
    have hF := hF.ext1 13 (hq 6 rfl rfl)
    have hF := hF.ext1 14 (hq 7 rfl rfl)
    have hF := hF.ext1 15 (hq 8 rfl rfl)
    have hF := hF.ext1 16 (hq 9 rfl rfl)
    have hF := hF.ext1 17 (hq 10 rfl rfl)
    have hF := hF.ext1 2 (hq 11 rfl rfl)
    have hM := hS.mem rfl
    change wpList Try.prog _ _ [_] _ _
    refine st hF (g_assign hF rfl) rfl fun a hF => ?_
    refine wpList_nil ?_
    refine tN ?_
    refine wp_ret ?_
    refine fin2 rfl hF.defers (res_tmp hF rfl) (res_tmp hF rfl) ⟨_, rfl, hM.below, ?_⟩
    show _ = _
    rfl

def eulS (s : ByteArray) : Nat → Int
  | 0 => 0
  | i + 1 => eulS s i + eulL (byt s i)
theorem eulS_b {s : ByteArray} : ∀ i : Nat, -(i : Int) ≤ eulS s i ∧ eulS s i ≤ (i : Int)
  | 0 => ⟨by show (0 : Int) ≤ 0; omega, by show (0 : Int) ≤ 0; omega⟩
  | i + 1 => by
    have h1 := eulS_b (s := s) i
    have h2 := eulL_b (c := byt s i)
    rw [eulS]; omega

theorem LegsOfI_E  (w : World)  :
    CallsR Try.prog 14 #[.string (⟨#[]⟩)] w (fun res _ => res = .tuple #[.int .i64 (0), .int .i64 (0), .int .i64 (0)]) := by
  refine calls_fr [.string (⟨#[]⟩)] Try.func14 rfl Try.ntmps14 rfl fun a hF => ?_
  have hM : Mem w w [] [] := MemX.start w 0
  change Fr 23 a [(0, .string (⟨#[]⟩))] at hF
  have he0 : (⟨#[]⟩ : ByteArray).size = 0 := rfl
  refine sq ?_
  refine wp_region_lit ?_
  refine st hF (g_assign hF rfl) rfl fun a hF => st hF (g_assign hF rfl) rfl fun a hF => st hF (g_assign hF rfl) rfl fun a hF => ?_
  refine wpList_nil ?_
  refine tN ?_
  refine sq ?_
  refine wp_region_lit ?_
  refine st hF (g_move hF rfl) rfl fun a hF => ?_
  refine stR hF (d_call Try.call33 hF (.cons rfl .nil) (layersOf_E _)) rfl ?_
  rintro _ w' a ⟨hx, rfl⟩ hF
  have hM := hM.ext hx
  refine st hF (g_move hF rfl) rfl fun a hF => st hF (g_extract hF rfl rfl) rfl fun a hF => st hF (g_extract hF rfl rfl) rfl fun a hF => st hF (g_assign hF rfl) rfl fun a hF => st hF (g_assign hF rfl) rfl fun a hF => ?_
  refine wpList_nil ?_
  refine tN ?_
  refine sq ?_
  refine sq ?_
  refine wp_region_lit ?_
  refine st hF (g_move hF rfl) rfl fun a hF => st hF (g_not hF rfl) rfl fun a hF => ?_
  refine wpList_nil ?_
  refine tN ?_
  refine c_Fl hF rfl ?_
  refine wp_skip ?_
  refine tN ?_
  refine sq ?_
  refine wp_region_lit ?_
  refine st hF (g_move hF rfl) rfl fun a hF => ?_
  refine stR hF (d_call Try.call35 hF (.cons rfl .nil) (endsOf_nil _)) rfl ?_
  rintro _ w' a ⟨hx, rfl⟩ hF
  have hM := hM.ext hx
  refine st hF (g_move hF rfl) rfl fun a hF => st hF (g_extract hF rfl rfl) rfl fun a hF => st hF (g_extract hF rfl rfl) rfl fun a hF => st hF (g_assign hF rfl) rfl fun a hF => st hF (g_assign hF rfl) rfl fun a hF => ?_
  refine wpList_nil ?_
  refine tN ?_
  refine sq ?_
  refine wp_region_lit ?_
  refine st hF (g_move hF rfl) rfl fun a hF => st hF (g_move hF rfl) rfl fun a hF => st hF (g_assign hF rfl) rfl fun a hF => st hF (g_assign hF rfl) rfl fun a hF => st hF (g_assign hF rfl) rfl fun a hF => ?_
  refine wpList_nil ?_
  refine tN ?_
  refine wp_ret ?_
  refine fin3 rfl hF.defers (res_tmp hF rfl) (res_tmp hF rfl) (res_tmp hF rfl) ⟨_, rfl, hM.below, ?_⟩
  show _ = _
  rfl

theorem EulerOfI_E  (w : World)  :
    CallsR Try.prog 16 #[.string (⟨#[]⟩)] w (fun res _ => res = .tuple #[.int .i64 (0), .int .i64 (0)]) := by
  refine calls_fr [.string (⟨#[]⟩)] Try.func16 rfl Try.ntmps16 rfl fun a hF => ?_
  have hM : Mem w w [] [] := MemX.start w 0
  change Fr 22 a [(0, .string (⟨#[]⟩))] at hF
  have he0 : (⟨#[]⟩ : ByteArray).size = 0 := rfl
  refine sq ?_
  refine wp_region_lit ?_
  refine st hF (g_assign hF rfl) rfl fun a hF => st hF (g_assign hF rfl) rfl fun a hF => ?_
  refine wpList_nil ?_
  refine tN ?_
  refine sq ?_
  refine sq ?_
  refine wp_region_lit ?_
  refine st hF (g_move hF rfl) rfl fun a hF => ?_
  refine stR hF (d_call Try.call12 hF (.cons rfl .nil) (IsWordI_E _)) rfl ?_
  rintro _ w' a ⟨hx, rfl⟩ hF
  have hM := hM.ext hx
  refine st hF (g_not hF rfl) rfl fun a hF => ?_
  refine wpList_nil ?_
  refine tN ?_
  refine c_Fl hF rfl ?_
  refine wp_skip ?_
  refine tN ?_
  refine sq ?_
  refine wp_region_lit ?_
  refine st hF (g_assign hF rfl) rfl fun a hF => ?_
  refine wpList_nil ?_
  refine tN ?_
  refine sq ?_
  refine sq ?_
  refine wp_region_lit ?_
  refine st hF (g_move hF rfl) rfl fun a hF => st hF (g_lenS ty_ut_9 hF rfl) rfl fun a hF => st hF (g_move hF rfl) rfl fun a hF => ?_
  refine wpList_nil ?_
  refine tN ?_
  refine wp_block ?_
  change Mem w _ [] [] at hM
  refine c_loop (fun (kk : Nat) a w' => kk ≤ 0 ∧ (True) ∧ Fr 22 a [(0, .string (⟨#[]⟩)), (2, .int .i64 (0)), (3, .int .i64 (0)), (6, .string (⟨#[]⟩)), (7, .bool (true)), (8, .bool (false)), (9, .string (⟨#[]⟩)), (10, .int .i64 ((((⟨#[]⟩ : ByteArray).size : Nat) : Int))), (11, .int .i64 (((kk : Nat) : Int))), (4, .int .i64 (0))] ∧ Mem w w' [] []) (fun kk => 0 - kk) 0 ?_ ?_
  ·
    refine ⟨by omega, trivial, hF.sub _ (by repeat' constructor), ?_⟩
    exact hM
  ·
    clear hF hM
    rintro gi a w' ⟨hgi, hinv1, hF, hM⟩
    refine sq ?_
    refine wp_region_lit ?_
    refine st hF (g_lss hF rfl rfl) rfl fun a hF => ?_
    refine wpList_nil ?_
    refine tN ?_
    refine sq ?_
    refine c_cond hF rfl (fun h2 => ?_) (fun h2 => ?_)
    ·
      first | (exfalso; omega) | (exfalso; simp_all; done)
    ·
      obtain rfl : 0 = gi := by omega
      refine wp_exit ?_
      refine tX ?_
      refine tX ?_
      refine ib_same ?_
      refine tN ?_
      refine sq ?_
      refine wp_region_lit ?_
      refine st hF (g_move hF rfl) rfl fun a hF => st hF (g_assign hF rfl) rfl fun a hF => st hF (g_assign hF rfl) rfl fun a hF => ?_
      refine wpList_nil ?_
      refine tN ?_
      refine wp_ret ?_
      refine fin2 rfl hF.defers (res_tmp hF rfl) (res_tmp hF rfl) ⟨_, rfl, hM.below, ?_⟩
      show _ = _
      rfl

theorem LegsOfI_L (s : ByteArray) (w : World) (h0 : 300 < s.size) :
    CallsR Try.prog 14 #[.string (s)] w (fun res _ => res = .tuple #[.int .i64 (0), .int .i64 (0), .int .i64 (1)]) := by
  refine calls_fr [.string (s)] Try.func14 rfl Try.ntmps14 rfl fun a hF => ?_
  have hM : Mem w w [] [] := MemX.start w 0
  change Fr 23 a [(0, .string (s))] at hF
  refine sq ?_
  refine wp_region_lit ?_
  refine st hF (g_assign hF rfl) rfl fun a hF => st hF (g_assign hF rfl) rfl fun a hF => st hF (g_assign hF rfl) rfl fun a hF => ?_
  refine wpList_nil ?_
  refine tN ?_
  refine sq ?_
  refine wp_region_lit ?_
  refine st hF (g_move hF rfl) rfl fun a hF => ?_
  refine stR hF (d_call Try.call33 hF (.cons rfl .nil) (layersOf_L s _ h0)) rfl ?_
  rintro _ w' a ⟨hx, rfl⟩ hF
  have hM := hM.ext hx
  refine st hF (g_move hF rfl) rfl fun a hF => st hF (g_extract hF rfl rfl) rfl fun a hF => st hF (g_extract hF rfl rfl) rfl fun a hF => st hF (g_assign hF rfl) rfl fun a hF => st hF (g_assign hF rfl) rfl fun a hF => ?_
  refine wpList_nil ?_
  refine tN ?_
  refine sq ?_
  refine sq ?_
  refine wp_region_lit ?_
  refine st hF (g_move hF rfl) rfl fun a hF => st hF (g_not hF rfl) rfl fun a hF => ?_
  refine wpList_nil ?_
  refine tN ?_
  refine c_T hF rfl ?_
  refine sq ?_
  refine wp_region_lit ?_
  refine st hF (g_assign hF rfl) rfl fun a hF => st hF (g_assign hF rfl) rfl fun a hF => st hF (g_assign hF rfl) rfl fun a hF => ?_
  refine wpList_nil ?_
  refine tN ?_
  refine wp_ret ?_
  refine tR ?_
  refine fin3 rfl hF.defers (res_tmp hF rfl) (res_tmp hF rfl) (res_tmp hF rfl) ⟨_, rfl, hM.below, ?_⟩
  show _ = _
  rfl

theorem EulerOfI_L (s : ByteArray) (w : World) (h0 : 300 < s.size) :
    CallsR Try.prog 16 #[.string (s)] w (fun res _ => res = .tuple #[.int .i64 (0), .int .i64 (1)]) := by
  refine calls_fr [.string (s)] Try.func16 rfl Try.ntmps16 rfl fun a hF => ?_
  have hM : Mem w w [] [] := MemX.start w 0
  change Fr 22 a [(0, .string (s))] at hF
  refine sq ?_
  refine wp_region_lit ?_
  refine st hF (g_assign hF rfl) rfl fun a hF => st hF (g_assign hF rfl) rfl fun a hF => ?_
  refine wpList_nil ?_
  refine tN ?_
  refine sq ?_
  refine sq ?_
  refine wp_region_lit ?_
  refine st hF (g_move hF rfl) rfl fun a hF => ?_
  refine stR hF (d_call Try.call12 hF (.cons rfl .nil) (IsWordI_L s _ h0)) rfl ?_
  rintro _ w' a ⟨hx, rfl⟩ hF
  have hM := hM.ext hx
  refine st hF (g_not hF rfl) rfl fun a hF => ?_
  refine wpList_nil ?_
  refine tN ?_
  refine c_T hF rfl ?_
  refine sq ?_
  refine wp_region_lit ?_
  refine st hF (g_assign hF rfl) rfl fun a hF => st hF (g_assign hF rfl) rfl fun a hF => ?_
  refine wpList_nil ?_
  refine tN ?_
  refine wp_ret ?_
  refine tR ?_
  refine fin2 rfl hF.defers (res_tmp hF rfl) (res_tmp hF rfl) ⟨_, rfl, hM.below, ?_⟩
  show _ = _
  rfl

theorem LegsOfI_N (s : ByteArray) (w : World) (hW : ¬ WordP s) (h0 : 0 < s.size) (h3 : s.size ≤ 300) :
    CallsR Try.prog 14 #[.string (s)] w (fun res _ => res = .tuple #[.int .i64 (0), .int .i64 (0), .int .i64 (1)]) := by
  refine calls_fr [.string (s)] Try.func14 rfl Try.ntmps14 rfl fun a hF => ?_
  have hM : Mem w w [] [] := MemX.start w 0
  change Fr 23 a [(0, .string (s))] at hF
  refine sq ?_
  refine wp_region_lit ?_
  refine st hF (g_assign hF rfl) rfl fun a hF => st hF (g_assign hF rfl) rfl fun a hF => st hF (g_assign hF rfl) rfl fun a hF => ?_
  refine wpList_nil ?_
  refine tN ?_
  refine sq ?_
  refine wp_region_lit ?_
  refine st hF (g_move hF rfl) rfl fun a hF => ?_
  refine stR hF (d_call Try.call33 hF (.cons rfl .nil) (layersOf_N s _ hW h0 h3)) rfl ?_
  rintro _ w' a ⟨hx, rfl⟩ hF
  have hM := hM.ext hx
  refine st hF (g_move hF rfl) rfl fun a hF => st hF (g_extract hF rfl rfl) rfl fun a hF => st hF (g_extract hF rfl rfl) rfl fun a hF => st hF (g_assign hF rfl) rfl fun a hF => st hF (g_assign hF rfl) rfl fun a hF => ?_
  refine wpList_nil ?_
  refine tN ?_
  refine sq ?_
  refine sq ?_
  refine wp_region_lit ?_
  refine st hF (g_move hF rfl) rfl fun a hF => st hF (g_not hF rfl) rfl fun a hF => ?_
  refine wpList_nil ?_
  refine tN ?_
  refine c_T hF rfl ?_
  refine sq ?_
  refine wp_region_lit ?_
  refine st hF (g_assign hF rfl) rfl fun a hF => st hF (g_assign hF rfl) rfl fun a hF => st hF (g_assign hF rfl) rfl fun a hF => ?_
  refine wpList_nil ?_
  refine tN ?_
  refine wp_ret ?_
  refine tR ?_
  refine fin3 rfl hF.defers (res_tmp hF rfl) (res_tmp hF rfl) (res_tmp hF rfl) ⟨_, rfl, hM.below, ?_⟩
  show _ = _
  rfl

theorem EulerOfI_N (s : ByteArray) (w : World) (hW : ¬ WordP s) (h0 : 0 < s.size) (h3 : s.size ≤ 300) :
    CallsR Try.prog 16 #[.string (s)] w (fun res _ => res = .tuple #[.int .i64 (0), .int .i64 (1)]) := by
  refine calls_fr [.string (s)] Try.func16 rfl Try.ntmps16 rfl fun a hF => ?_
  have hM : Mem w w [] [] := MemX.start w 0
  change Fr 22 a [(0, .string (s))] at hF
  refine sq ?_
  refine wp_region_lit ?_
  refine st hF (g_assign hF rfl) rfl fun a hF => st hF (g_assign hF rfl) rfl fun a hF => ?_
  refine wpList_nil ?_
  refine tN ?_
  refine sq ?_
  refine sq ?_
  refine wp_region_lit ?_
  refine st hF (g_move hF rfl) rfl fun a hF => ?_
  refine stR hF (d_call Try.call12 hF (.cons rfl .nil) (IsWordI_N s _ hW h0 h3)) rfl ?_
  rintro _ w' a ⟨hx, rfl⟩ hF
  have hM := hM.ext hx
  refine st hF (g_not hF rfl) rfl fun a hF => ?_
  refine wpList_nil ?_
  refine tN ?_
  refine c_T hF rfl ?_
  refine sq ?_
  refine wp_region_lit ?_
  refine st hF (g_assign hF rfl) rfl fun a hF => st hF (g_assign hF rfl) rfl fun a hF => ?_
  refine wpList_nil ?_
  refine tN ?_
  refine wp_ret ?_
  refine tR ?_
  refine fin2 rfl hF.defers (res_tmp hF rfl) (res_tmp hF rfl) ⟨_, rfl, hM.below, ?_⟩
  show _ = _
  rfl

theorem LegsOfI_Y (s : ByteArray) (w : World) (hW : WordP s) (h0 : 0 < s.size) :
    CallsR Try.prog 14 #[.string (s)] w (fun res _ => res = .tuple #[.int .i64 (((inR s (sgB s 47 (0)) : Nat) : Int)), .int .i64 (((outR s (sgB s 47 (nSg s 47 - 1)) : Nat) : Int)), .int .i64 (0)]) := by
  refine calls_fr [.string (s)] Try.func14 rfl Try.ntmps14 rfl fun a hF => ?_
  have hM : Mem w w [none] [] := MemX.start w 1
  change Fr 23 a [(0, .string (s))] at hF
  have h3 := hW.1
  have hns : nSg s 47 = cnt s 47 s.size + 1 := rfl
  have hcl := cnt_le (s := s) (c := 47) s.size
  refine sq ?_
  refine wp_region_lit ?_
  refine st hF (g_assign hF rfl) rfl fun a hF => st hF (g_assign hF rfl) rfl fun a hF => st hF (g_assign hF rfl) rfl fun a hF => ?_
  refine wpList_nil ?_
  refine tN ?_
  refine sq ?_
  refine wp_region_lit ?_
  refine st hF (g_move hF rfl) rfl fun a hF => ?_
  refine stR hF (d_call Try.call33 hF (.cons rfl .nil) (layersOf_Y s _ hW h0)) rfl ?_
  rintro u w' a ⟨hx, ul, rfl, bW, cW, csW, hs, hgW, hbW⟩ hF
  obtain rfl := hs.val
  have hM := hM.fill hx 0 hbW hgW
  change Mem w w' [some (bW, csW)] [] at hM
  refine st hF (g_move hF rfl) rfl fun a hF => st hF (g_extract hF rfl rfl) rfl fun a hF => st hF (g_extract hF rfl rfl) rfl fun a hF => st hF (g_assign hF rfl) rfl fun a hF => st hF (g_assign hF rfl) rfl fun a hF => ?_
  refine wpList_nil ?_
  refine tN ?_
  refine sq ?_
  refine sq ?_
  refine wp_region_lit ?_
  refine st hF (g_move hF rfl) rfl fun a hF => st hF (g_not hF rfl) rfl fun a hF => ?_
  refine wpList_nil ?_
  refine tN ?_
  refine c_Fl hF rfl ?_
  refine wp_skip ?_
  refine tN ?_
  refine sq ?_
  refine wp_region_lit ?_
  refine st hF (g_move hF rfl) rfl fun a hF => ?_
  refine stR hF (d_call Try.call35 hF (.cons rfl .nil) (endsOf_S s bW cW csW _ _ _ hs (hM.row 0 rfl) (by omega))) rfl ?_
  rintro _ w' a ⟨hx, rfl⟩ hF
  have hM := hM.ext hx
  refine st hF (g_move hF rfl) rfl fun a hF => st hF (g_extract hF rfl rfl) rfl fun a hF => st hF (g_extract hF rfl rfl) rfl fun a hF => st hF (g_assign hF rfl) rfl fun a hF => st hF (g_assign hF rfl) rfl fun a hF => ?_
  refine wpList_nil ?_
  refine tN ?_
  refine sq ?_
  refine wp_region_lit ?_
  refine st hF (g_move hF rfl) rfl fun a hF => st hF (g_move hF rfl) rfl fun a hF => st hF (g_assign hF rfl) rfl fun a hF => st hF (g_assign hF rfl) rfl fun a hF => st hF (g_assign hF rfl) rfl fun a hF => ?_
  refine wpList_nil ?_
  refine tN ?_
  refine wp_ret ?_
  refine fin3 rfl hF.defers (res_tmp hF rfl) (res_tmp hF rfl) (res_tmp hF rfl) ⟨_, rfl, hM.below, ?_⟩
  show _ = _
  rfl

theorem EulerOfI_Y (s : ByteArray) (w : World) (hW : WordP s) (h0 : 0 < s.size) :
    CallsR Try.prog 16 #[.string (s)] w (fun res _ => res = .tuple #[.int .i64 (eulS s s.size), .int .i64 (0)]) := by
  refine calls_fr [.string (s)] Try.func16 rfl Try.ntmps16 rfl fun a hF => ?_
  have hM : Mem w w [none] [] := MemX.start w 1
  change Fr 22 a [(0, .string (s))] at hF
  have h3 := hW.1
  have hns : nSg s 47 = cnt s 47 s.size + 1 := rfl
  have hcl := cnt_le (s := s) (c := 47) s.size
  refine sq ?_
  refine wp_region_lit ?_
  refine st hF (g_assign hF rfl) rfl fun a hF => st hF (g_assign hF rfl) rfl fun a hF => ?_
  refine wpList_nil ?_
  refine tN ?_
  refine sq ?_
  refine sq ?_
  refine wp_region_lit ?_
  refine st hF (g_move hF rfl) rfl fun a hF => ?_
  refine stR hF (d_call Try.call12 hF (.cons rfl .nil) (IsWordI_Y s _ hW h0)) rfl ?_
  rintro _ w' a ⟨hx, rfl⟩ hF
  have hM := hM.ext hx
  refine st hF (g_not hF rfl) rfl fun a hF => ?_
  refine wpList_nil ?_
  refine tN ?_
  refine c_Fl hF rfl ?_
  refine wp_skip ?_
  refine tN ?_
  refine sq ?_
  refine wp_region_lit ?_
  refine st hF (g_assign hF rfl) rfl fun a hF => ?_
  refine wpList_nil ?_
  refine tN ?_
  refine sq ?_
  refine sq ?_
  refine wp_region_lit ?_
  refine st hF (g_move hF rfl) rfl fun a hF => st hF (g_lenS ty_ut_9 hF rfl) rfl fun a hF => st hF (g_move hF rfl) rfl fun a hF => ?_
  refine wpList_nil ?_
  refine tN ?_
  refine wp_block ?_
  change Mem w _ [none] [] at hM
  refine c_loop (fun (kk : Nat) a w' => kk ≤ s.size ∧ (True) ∧ Fr 22 a [(0, .string (s)), (2, .int .i64 (0)), (3, .int .i64 (0)), (6, .string (s)), (7, .bool (true)), (8, .bool (false)), (9, .string (s)), (10, .int .i64 (((s.size : Nat) : Int))), (11, .int .i64 (((kk : Nat) : Int))), (4, .int .i64 (eulS s kk))] ∧ Mem w w' [none] []) (fun kk => s.size - kk) 0 ?_ ?_
  ·
    refine ⟨by omega, trivial, hF.sub _ (by repeat' constructor), ?_⟩
    exact hM
  ·
    clear hF hM
    rintro gi a w' ⟨hgi, hinv1, hF, hM⟩
    have heb := eulS_b (s := s) gi
    have hel := eulL_b (c := byt s gi)
    refine sq ?_
    refine wp_region_lit ?_
    refine st hF (g_lss hF rfl rfl) rfl fun a hF => ?_
    refine wpList_nil ?_
    refine tN ?_
    refine sq ?_
    refine c_cond hF rfl (fun h2 => ?_) (fun h2 => ?_)
    ·
      refine wp_skip ?_
      refine tN ?_
      refine sq ?_
      refine wp_block ?_
      refine sq ?_
      refine wp_region_lit ?_
      refine st hF (g_move hF rfl) rfl fun a hF => st hF (g_assign hF rfl) rfl fun a hF => ?_
      refine wpList_nil ?_
      refine tN ?_
      refine wp_region_lit ?_
      refine st hF (g_move hF rfl) rfl fun a hF => st hF (g_move hF rfl) rfl fun a hF => st hF (g_move hF rfl) rfl fun a hF => st hF (g_indexS (i := gi) ty_ut_9 hF rfl rfl rfl (by omega)) rfl fun a hF => ?_
      refine stR hF (d_call Try.call37 hF (.cons rfl .nil) (eulerOfPiece_ok (byt s (gi)) _ (by first | exact byt_lt | omega))) rfl ?_
      rintro _ w' a ⟨hx, rfl⟩ hF
      have hM := hM.ext hx
      refine st hF (g_add hF rfl rfl (wrap_i64 (by omega) (by omega))) rfl fun a hF => st hF (g_assign hF rfl) rfl fun a hF => ?_
      refine wpList_nil ?_
      refine iN ?_
      refine tN ?_
      refine wp_region_lit ?_
      refine st hF (g_add hF rfl rfl (add_nat (gi) (1) (by omega))) rfl fun a hF => st hF (g_move hF rfl) rfl fun a hF => ?_
      refine wpList_nil ?_
      refine tN ?_
      rw [show eulS s gi + eulL (byt s (gi)) = eulS s (gi + 1) from rfl] at hF
      refine ⟨gi + 1, ⟨by omega, trivial, hF.sub _ (by repeat' constructor), ?_⟩, by omega⟩
      exact hM
    ·
      obtain rfl : s.size = gi := by omega
      refine wp_exit ?_
      refine tX ?_
      refine tX ?_
      refine ib_same ?_
      refine tN ?_
      refine sq ?_
      refine wp_region_lit ?_
      refine st hF (g_move hF rfl) rfl fun a hF => st hF (g_assign hF rfl) rfl fun a hF => st hF (g_assign hF rfl) rfl fun a hF => ?_
      refine wpList_nil ?_
      refine tN ?_
      refine wp_ret ?_
      refine fin2 rfl hF.defers (res_tmp hF rfl) (res_tmp hF rfl) ⟨_, rfl, hM.below, ?_⟩
      show _ = _
      rfl

end Go.Proofs.Ytnaabnhjokibfaa
