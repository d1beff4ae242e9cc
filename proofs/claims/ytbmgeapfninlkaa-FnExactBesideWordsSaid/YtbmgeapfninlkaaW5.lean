/- What functions of the program return, as walks over their operations; no statement of the seat is proved here. -/
import Derived.Test.YtbmgeapfninlkaaW2
set_option linter.unusedVariables false
set_option linter.unusedSimpArgs false
namespace Go.Proofs.Ytbmgeapfninlkaa
open Go Go.RowKit Go.Sw
open Classical
theorem IsWordI_E  (w : World)  :
    CallsR Try.prog 27 #[.string (⟨#[]⟩)] w (fun res _ => res = .bool true) := by
  refine calls_fr [.string (⟨#[]⟩)] Try.func27 rfl Try.ntmps27 rfl fun a hF => ?_;have hM : Mem w w [] [] := MemX.start w 0;change Fr 11 a [(0, .string (⟨#[]⟩))] at hF;have he0 : (⟨#[]⟩ : ByteArray).size = 0 := rfl;refine sr <| ag hF rfl rfl fun a hF => ns <| mv hF rfl rfl fun a hF => stR hF (d_call Try.call20 hF (.cons rfl .nil) (layersOf_E _)) rfl ?_;rintro _ w' a ⟨hx, rfl⟩ hF;have hM := hM.ext hx;refine mv hF rfl rfl fun a hF => st hF (g_extract hF rfl rfl) rfl fun a hF => st hF (g_extract hF rfl rfl) rfl fun a hF => ag hF rfl rfl fun a hF => ag hF rfl rfl fun a hF => ns <| mv hF rfl rfl fun a hF => ag hF rfl rfl fun a hF => nt <| wp_ret <| fin1 rfl hF.defers (res_tmp hF rfl) ⟨_, rfl, hM.below, ?_⟩
  show _ = _
  rfl
theorem IsWordI_L (s : ByteArray) (w : World) (h0 : 300 < s.size) :
    CallsR Try.prog 27 #[.string (s)] w (fun res _ => res = .bool false) := by
  refine calls_fr [.string (s)] Try.func27 rfl Try.ntmps27 rfl fun a hF => ?_;have hM : Mem w w [] [] := MemX.start w 0;change Fr 11 a [(0, .string (s))] at hF;refine sr <| ag hF rfl rfl fun a hF => ns <| mv hF rfl rfl fun a hF => stR hF (d_call Try.call20 hF (.cons rfl .nil) (layersOf_L s _ h0)) rfl ?_;rintro _ w' a ⟨hx, rfl⟩ hF;have hM := hM.ext hx;refine mv hF rfl rfl fun a hF => st hF (g_extract hF rfl rfl) rfl fun a hF => st hF (g_extract hF rfl rfl) rfl fun a hF => ag hF rfl rfl fun a hF => ag hF rfl rfl fun a hF => ns <| mv hF rfl rfl fun a hF => ag hF rfl rfl fun a hF => nt <| wp_ret <| fin1 rfl hF.defers (res_tmp hF rfl) ⟨_, rfl, hM.below, ?_⟩
  show _ = _
  rfl
theorem IsWordI_N (s : ByteArray) (w : World) (hW : ¬ WordP s) (h0 : 0 < s.size) (h3 : s.size ≤ 300) :
    CallsR Try.prog 27 #[.string (s)] w (fun res _ => res = .bool false) := by
  refine calls_fr [.string (s)] Try.func27 rfl Try.ntmps27 rfl fun a hF => ?_;have hM : Mem w w [] [] := MemX.start w 0;change Fr 11 a [(0, .string (s))] at hF;refine sr <| ag hF rfl rfl fun a hF => ns <| mv hF rfl rfl fun a hF => stR hF (d_call Try.call20 hF (.cons rfl .nil) (layersOf_N s _ hW h0 h3)) rfl ?_;rintro _ w' a ⟨hx, rfl⟩ hF;have hM := hM.ext hx;refine mv hF rfl rfl fun a hF => st hF (g_extract hF rfl rfl) rfl fun a hF => st hF (g_extract hF rfl rfl) rfl fun a hF => ag hF rfl rfl fun a hF => ag hF rfl rfl fun a hF => ns <| mv hF rfl rfl fun a hF => ag hF rfl rfl fun a hF => nt <| wp_ret <| fin1 rfl hF.defers (res_tmp hF rfl) ⟨_, rfl, hM.below, ?_⟩
  show _ = _
  rfl
theorem IsWordI_Y (s : ByteArray) (w : World) (hW : WordP s) (h0 : 0 < s.size) :
    CallsR Try.prog 27 #[.string (s)] w (fun res _ => res = .bool true) := by
  refine calls_fr [.string (s)] Try.func27 rfl Try.ntmps27 rfl fun a hF => ?_;have hM : Mem w w [none] [] := MemX.start w 1;change Fr 11 a [(0, .string (s))] at hF;have h3 := hW.1;have hns : nSg s 47 = cnt s 47 s.size + 1 := rfl;have hcl := cnt_le (s := s) (c := 47) s.size;refine sr <| ag hF rfl rfl fun a hF => ns <| mv hF rfl rfl fun a hF => stR hF (d_call Try.call20 hF (.cons rfl .nil) (layersOf_Y s _ hW h0)) rfl ?_;rintro u w' a ⟨hx, ul, rfl, bW, cW, csW, hs, hgW, hbW⟩ hF;obtain rfl := hs.val;have hM := hM.fill hx 0 hbW hgW;change Mem w w' [some (bW, csW)] [] at hM;refine mv hF rfl rfl fun a hF => st hF (g_extract hF rfl rfl) rfl fun a hF => st hF (g_extract hF rfl rfl) rfl fun a hF => ag hF rfl rfl fun a hF => ag hF rfl rfl fun a hF => ns <| mv hF rfl rfl fun a hF => ag hF rfl rfl fun a hF => nt <| wp_ret <| fin1 rfl hF.defers (res_tmp hF rfl) ⟨_, rfl, hM.below, ?_⟩
  show _ = _
  rfl
theorem endsOf_nil  (w : World)  :
    CallsR Try.prog 21 #[.slice none 0 0] w (fun res _ => res = .tuple #[.int .i64 0, .int .i64 0]) := by
  refine calls_fr [.slice none 0 0] Try.func21 rfl Try.ntmps21 rfl fun a hF => ?_;have hM : Mem w w [] [] := MemX.start w 0;change Fr 18 a [(0, .slice none 0 0)] at hF;refine sr <| ag hF rfl rfl fun a hF => ag hF rfl rfl fun a hF => nt <| sq <| sr <| mv hF rfl rfl fun a hF => st hF (g_len0 ty_us_35 hF rfl) rfl fun a hF => st hF (g_eql hF rfl rfl) rfl fun a hF => nt <| c_kT hF rfl (by decide) <| sr <| ag hF rfl rfl fun a hF => ag hF rfl rfl fun a hF => nt <| wp_ret <| tR <| fin2 rfl hF.defers (res_tmp hF rfl) (res_tmp hF rfl) ⟨_, rfl, hM.below, ?_⟩
  show _ = _
  rfl
theorem endsOf_S (s : ByteArray) (bl cl : Nat) (cs : Array Value) (v : Value) (e : Option (Nat × Array Value)) (w : World) (hs : SlAt 3 v e (nSg s 47) bl cl cs (layF s)) (hb : Blk w bl cs) (hk : s.size < 10000000) :
    CallsR Try.prog 21 #[.slice (some ⟨bl, 0, none⟩) (nSg s 47) (cl)] w (fun res _ => res = .tuple #[.int .i64 ((inR s (sgB s 47 (0)) : Int)), .int .i64 ((outR s (sgB s 47 (nSg s 47 - 1)) : Int))]) := by
  refine calls_fr [.slice (some ⟨bl, 0, none⟩) (nSg s 47) (cl)] Try.func21 rfl Try.ntmps21 rfl fun a hF => ?_;have hM : Mem w w [] [(bl, cs)] := MemX.startD w 0 _ (startD1 hb);change Fr 18 a [(0, .slice (some ⟨bl, 0, none⟩) (nSg s 47) (cl))] at hF;have hns : nSg s 47 = cnt s 47 s.size + 1 := rfl;have hcl := cnt_le (s := s) (c := 47) s.size;refine sr <| ag hF rfl rfl fun a hF => ag hF rfl rfl fun a hF => nt <| sq <| sr <| mv hF rfl rfl fun a hF => st hF (g_len ty_us_35 hF rfl) rfl fun a hF => st hF (g_eql hF rfl rfl) rfl fun a hF => nt <| c_cond hF rfl (fun h1 => ?_) (fun h1 => ?_)
  · exfalso; omega
  refine wp_skip <| tN <| sq ?_;have hF := hF.sub [(0, .slice (some ⟨bl, 0, none⟩) (nSg s 47) (cl)), (3, .int .i64 (0)), (4, .slice (some ⟨bl, 0, none⟩) (nSg s 47) (cl)), (5, .int .i64 (((nSg s 47 : Nat) : Int))), (6, .bool (decide ((((nSg s 47 : Nat) : Int) : Int) = 0)))] (by repeat' constructor);refine c_par 12 [] [.val (.slice (some ⟨bl, 0, none⟩) (nSg s 47) (cl)), .val (ptr bl (0 + (0) * 3)), .val (ptr bl (0 + (0) * 3 + 1)), .val (.int .i64 ((inR s (sgB s 47 (0)) : Int))), .val (.slice (some ⟨bl, 0, none⟩) (nSg s 47) (cl)), .val (.slice (some ⟨bl, 0, none⟩) (nSg s 47) (cl)), .val (.int .i64 (((nSg s 47 : Nat) : Int))), .val (.int .i64 (((nSg s 47 - 1 : Nat) : Int))), .val (ptr bl (0 + (nSg s 47 - 1) * 3)), .val (ptr bl (0 + (nSg s 47 - 1) * 3 + 2)), .val (.int .i64 ((outR s (sgB s 47 (nSg s 47 - 1)) : Int))), .val (.int .i64 ((inR s (sgB s 47 (0)) : Int)))] hmix rfl hF rfl hM ⟨fun a w gG hF hS hd => by exact pmv hS rfl hF rfl, fun a w gG hF hS hd => by have hF := hF.ext1 7 (hd 0 rfl rfl); exact par_val hS rfl (g_indexSl (i := 0) ty_sl_35 hF rfl rfl rfl (by omega)), fun a w gG hF hS hd => by have hF := hF.ext1 8 (hd 1 rfl rfl); exact par_val hS rfl (g_fieldAddr ty_fo_48_1 hF rfl), fun a w gG hF hS hd => by have hF := hF.ext1 9 (hd 2 rfl rfl); have hM := hS.mem rfl; exact par_val hS rfl (g_load ty_on_2 hF rfl (hM.fz 0 rfl) ((hs.get3 (0) 1 (by omega) (by omega) (by omega)).trans (congrArg some (layF_1 (0) rfl)))), fun a w gG hF hS hd => by exact pmv hS rfl hF rfl, fun a w gG hF hS hd => by exact pmv hS rfl hF rfl, fun a w gG hF hS hd => by have hF := hF.ext1 12 (hd 5 rfl rfl); exact par_val hS rfl (g_len ty_us_35 hF rfl), fun a w gG hF hS hd => by have hF := hF.ext1 13 (hd 6 rfl rfl); exact par_val hS rfl (g_sub hF rfl rfl (show _ = ((nSg s 47 - 1 : Nat) : Int) from (by rw [wrap_i64] <;> omega))), fun a w gG hF hS hd => by have hF := hF.ext1 11 (hd 4 rfl rfl); have hF := hF.ext1 14 (hd 7 rfl rfl); exact par_val hS rfl (g_indexSl (i := nSg s 47 - 1) ty_sl_35 hF rfl rfl rfl (by omega)), fun a w gG hF hS hd => by have hF := hF.ext1 15 (hd 8 rfl rfl); exact par_val hS rfl (g_fieldAddr ty_fo_48_2 hF rfl), fun a w gG hF hS hd => by have hF := hF.ext1 16 (hd 9 rfl rfl); have hM := hS.mem rfl; exact par_val hS rfl (g_load ty_on_2 hF rfl (hM.fz 0 rfl) ((hs.get3 (nSg s 47 - 1) 2 (by omega) (by omega) (by omega)).trans (congrArg some (layF_2 (nSg s 47 - 1) rfl)))), fun a w gG hF hS hd => by have hF := hF.ext1 10 (hd 3 rfl rfl); exact par_val hS rfl (g_assign hF rfl), trivial⟩ ?_;intro a w' L hF hS hq;have hF := hF.ext1 7 (hq 0 rfl rfl);have hF := hF.ext1 8 (hq 1 rfl rfl);have hF := hF.ext1 9 (hq 2 rfl rfl);have hF := hF.ext1 10 (hq 3 rfl rfl);have hF := hF.ext1 11 (hq 4 rfl rfl);have hF := hF.ext1 12 (hq 5 rfl rfl);have hF := hF.ext1 13 (hq 6 rfl rfl);have hF := hF.ext1 14 (hq 7 rfl rfl);have hF := hF.ext1 15 (hq 8 rfl rfl);have hF := hF.ext1 16 (hq 9 rfl rfl);have hF := hF.ext1 17 (hq 10 rfl rfl);have hF := hF.ext1 2 (hq 11 rfl rfl);have hM := hS.mem rfl;change wpList Try.prog _ _ [_] _ _;refine ag hF rfl rfl fun a hF => nt <| wp_ret <| fin2 rfl hF.defers (res_tmp hF rfl) (res_tmp hF rfl) ⟨_, rfl, hM.below, ?_⟩
  show _ = _
  rfl
def eulS (s : ByteArray) : Nat → Int
  | 0 => 0
  | i + 1 => eulS s i + eulL (byt s i)
end Go.Proofs.Ytbmgeapfninlkaa

namespace Go.Proofs.Ytbmgeapfninlkaa
open Go Go.RowKit Go.Sw
open Classical
theorem ty_bs0_27 : ∀ w, (Instr.buildSlice 27 0 #[]).run Try.prog w = .ok (.slice (some ⟨w.heap.size, 0, none⟩) 0 0) (w.alloc (.cells #[] 9)) := by intros; kernel_rfl
theorem ty_bst_27 : ∀ (t : ByteArray) (w : World), (Instr.buildSlice 27 1 #[(0, .string t)]).run Try.prog w = .ok (.slice (some ⟨w.heap.size, 0, none⟩) 1 1) (w.alloc (.cells #[.string t] 9)) := by intros; kernel_rfl
theorem ty_si_27 : slI Try.prog 27 = some (9, some (.string ByteArray.empty), 1, 16) := by kernel_rfl
def inT (t : ByteArray) : Nat → Nat
  | 0 => 0
  | i + 1 => inT t i + inL (byt t i)
def outT (t : ByteArray) : Nat → Nat
  | 0 => 0
  | i + 1 => outT t i + outL (byt t i)
theorem inT_le {t : ByteArray} : ∀ i : Nat, inT t i ≤ 2 * i
  | 0 => Nat.le_refl _
  | i + 1 => by have := inT_le (t := t) i; have := inL_le (c := byt t i); rw [inT]; omega
theorem outT_le {t : ByteArray} : ∀ i : Nat, outT t i ≤ 2 * i
  | 0 => Nat.le_refl _
  | i + 1 => by have := outT_le (t := t) i; have := outL_le (c := byt t i); rw [outT]; omega
def pcT (t : ByteArray) : Prop := ∀ i, i < t.size → pcB (byt t i) = true
def lyT (t : ByteArray) : Prop := 0 < t.size ∧ inT t t.size ≤ 6 ∧ outT t t.size ≤ 6
instance (t : ByteArray) : Decidable (lyT t) := by unfold lyT; infer_instance

theorem l04Layer_P (t : ByteArray) (w : World) (hz : t.size < 10000000) (hp : pcT t) :
    CallsR Try.prog 28 #[.string (t)] w (fun res _ => res = .tuple #[.int .i64 (inT t t.size : Int), .int .i64 (outT t t.size : Int), .bool (decide (lyT t))]) := by
  refine calls_fr [.string (t)] Try.func28 rfl Try.ntmps28 rfl fun a hF => ?_;have hM : Mem w w [] [] := MemX.start w 0;change Fr 46 a [(0, .string (t))] at hF;have hi9 := inT_le (t := t) t.size;have ho9 := outT_le (t := t) t.size;refine sr <| ag hF rfl rfl fun a hF => ag hF rfl rfl fun a hF => ag hF rfl rfl fun a hF => ns <| ag hF rfl rfl fun a hF => ag hF rfl rfl fun a hF => nt <| sq <| sr <| ag hF rfl rfl fun a hF => nt <| wp_block ?_;change Mem w _ [] [] at hM;refine c_loop (fun (kk : Nat) a w' => kk ≤ t.size ∧ (True) ∧ Fr 46 a [(0, .string (t)), (7, .int .i64 (kk : Int)), (5, .int .i64 ((inT t kk : Int))), (6, .int .i64 ((outT t kk : Int)))] ∧ Mem w w' [] []) (fun kk => t.size - kk) 0 ?_ ?_
  · refine ⟨by omega, trivial, hF.sub _ (by repeat' constructor), ?_⟩
    exact hM
  clear hF hM;rintro gi a w' ⟨hgi, hinv1, hF, hM⟩;have hi1 := inT_le (t := t) gi;have ho1 := outT_le (t := t) gi;have hi2 := inL_le (c := byt t gi);have ho2 := outL_le (c := byt t gi);refine sq <| sr <| mv hF rfl rfl fun a hF => mv hF rfl rfl fun a hF => st hF (g_lenS ty_ut_9 hF rfl) rfl fun a hF => st hF (g_lss hF rfl rfl) rfl fun a hF => nt <| c_cond hF rfl (fun h1 => ?_) (fun h1 => ?_)
  · refine wp_skip ?_
    refine tN <| sq <| wp_block <| sr <| mv hF rfl rfl fun a hF => mv hF rfl rfl fun a hF => st hF (g_indexS (i := gi) ty_ut_9 hF rfl rfl rfl (by omega)) rfl fun a hF => stR hF (d_call Try.call38 hF (.cons rfl .nil) (l04Legs_ok (byt t (gi)) _ (by first | exact byt_lt | omega))) rfl ?_;rintro _ w' a ⟨hx, rfl⟩ hF;have hM := hM.ext hx;refine mv hF rfl rfl fun a hF => st hF (g_extract hF rfl rfl) rfl fun a hF => st hF (g_extract hF rfl rfl) rfl fun a hF => st hF (g_extract hF rfl rfl) rfl fun a hF => ag hF rfl rfl fun a hF => ag hF rfl rfl fun a hF => ag hF rfl rfl fun a hF => nt <| sq <| sr <| mv hF rfl rfl fun a hF => st hF (g_not hF rfl) rfl fun a hF => nt <| c_condB hF rfl (fun h2 => ?_) (fun h2 => ?_)
    · rw [hp gi (by omega)] at h2; cases h2
    refine wp_skip <| tN <| sr <| mv hF rfl rfl fun a hF => mv hF rfl rfl fun a hF => st hF (g_add hF rfl rfl (add_nat (inT t gi) (inL (byt t (gi))) (by omega))) rfl fun a hF => ag hF rfl rfl fun a hF => nt <| wp_region_lit <| mv hF rfl rfl fun a hF => mv hF rfl rfl fun a hF => st hF (g_add hF rfl rfl (add_nat (outT t gi) (outL (byt t (gi))) (by omega))) rfl fun a hF => ag hF rfl rfl fun a hF => wpList_nil <| iN <| tN <| wp_region_lit <| mv hF rfl rfl fun a hF => st hF (g_add hF rfl rfl (add_nat (gi) (1) (by omega))) rfl fun a hF => ag hF rfl rfl fun a hF => wpList_nil <| tN ?_;rw [show inT t gi + inL (byt t (gi)) = inT t (gi + 1) from rfl, show outT t gi + outL (byt t (gi)) = outT t (gi + 1) from rfl] at hF;refine ⟨gi + 1, ⟨by omega, trivial, hF.sub _ (by repeat' constructor), ?_⟩, by omega⟩;exact hM
  obtain rfl : t.size = gi := by omega
  refine wp_exit <| tX <| tX <| ib_same <| tN <| sr <| mv hF rfl rfl fun a hF => mv hF rfl rfl fun a hF => mv hF rfl rfl fun a hF => st hF (g_lenS ty_ut_9 hF rfl) rfl fun a hF => st hF (g_gtr hF rfl rfl) rfl fun a hF => mv hF rfl rfl fun a hF => ?_
  by_cases g3 : 0 < ((t.size : Int) : Int)
  · first | rw [decide_eq_true g3] at hF | simp only [decide_eq_true g3] at hF
    refine stY hF rfl rfl rfl (g_move hF rfl) rfl fun a hF => stY hF rfl rfl rfl (g_leq hF rfl rfl) rfl fun a hF => st hF (g_pickT hF rfl rfl) rfl fun a hF => mv hF rfl rfl fun a hF => ?_
    by_cases g4 : ((inT t (t.size) : Int) : Int) ≤ 6
    · first | rw [decide_eq_true g4] at hF | simp only [decide_eq_true g4] at hF
      refine stY hF rfl rfl rfl (g_move hF rfl) rfl fun a hF => stY hF rfl rfl rfl (g_leq hF rfl rfl) rfl fun a hF => st hF (g_pickT hF rfl rfl) rfl fun a hF => ag hF rfl rfl fun a hF => ag hF rfl rfl fun a hF => ag hF rfl rfl fun a hF => nt <| wp_ret <| fin3 rfl hF.defers (res_tmp hF rfl) (res_tmp hF rfl) (res_tmp hF rfl) ⟨_, rfl, hM.below, ?_⟩
      show _ = _
      first | exact congrArg (fun b => Value.tuple #[.int .i64 (inT t t.size : Int), .int .i64 (outT t t.size : Int), .bool b]) (decide_eq_false (by unfold lyT; omega)).symm | exact congrArg (fun b => Value.tuple #[.int .i64 (inT t t.size : Int), .int .i64 (outT t t.size : Int), .bool b]) (decide_eq_true (by unfold lyT; omega)).symm | exact congrArg (fun b => Value.tuple #[.int .i64 (inT t t.size : Int), .int .i64 (outT t t.size : Int), .bool b]) (decide_eq_decide.2 (by unfold lyT; omega))
    first | rw [decide_eq_false g4] at hF | simp only [decide_eq_false g4] at hF
    refine stS hF rfl rfl rfl rfl rfl fun a hF => stS hF rfl rfl rfl rfl rfl fun a hF => st hF (g_pickF hF rfl rfl) rfl fun a hF => ag hF rfl rfl fun a hF => ag hF rfl rfl fun a hF => ag hF rfl rfl fun a hF => nt <| wp_ret <| fin3 rfl hF.defers (res_tmp hF rfl) (res_tmp hF rfl) (res_tmp hF rfl) ⟨_, rfl, hM.below, ?_⟩
    show _ = _
    first | exact congrArg (fun b => Value.tuple #[.int .i64 (inT t t.size : Int), .int .i64 (outT t t.size : Int), .bool b]) (decide_eq_false (by unfold lyT; omega)).symm | exact congrArg (fun b => Value.tuple #[.int .i64 (inT t t.size : Int), .int .i64 (outT t t.size : Int), .bool b]) (decide_eq_true (by unfold lyT; omega)).symm | exact congrArg (fun b => Value.tuple #[.int .i64 (inT t t.size : Int), .int .i64 (outT t t.size : Int), .bool b]) (decide_eq_decide.2 (by unfold lyT; omega))
  first | rw [decide_eq_false g3] at hF | simp only [decide_eq_false g3] at hF
  refine stS hF rfl rfl rfl rfl rfl fun a hF => stS hF rfl rfl rfl rfl rfl fun a hF => st hF (g_pickF hF rfl rfl) rfl fun a hF => mv hF rfl rfl fun a hF => stS hF rfl rfl rfl rfl rfl fun a hF => stS hF rfl rfl rfl rfl rfl fun a hF => st hF (g_pickF hF rfl rfl) rfl fun a hF => ag hF rfl rfl fun a hF => ag hF rfl rfl fun a hF => ag hF rfl rfl fun a hF => nt <| wp_ret <| fin3 rfl hF.defers (res_tmp hF rfl) (res_tmp hF rfl) (res_tmp hF rfl) ⟨_, rfl, hM.below, ?_⟩
  show _ = _
  first | exact congrArg (fun b => Value.tuple #[.int .i64 (inT t t.size : Int), .int .i64 (outT t t.size : Int), .bool b]) (decide_eq_false (by unfold lyT; omega)).symm | exact congrArg (fun b => Value.tuple #[.int .i64 (inT t t.size : Int), .int .i64 (outT t t.size : Int), .bool b]) (decide_eq_true (by unfold lyT; omega)).symm | exact congrArg (fun b => Value.tuple #[.int .i64 (inT t t.size : Int), .int .i64 (outT t t.size : Int), .bool b]) (decide_eq_decide.2 (by unfold lyT; omega))
theorem l04Layer_G (t : ByteArray) (w : World) (hz : t.size < 10000000) (hp : ¬ pcT t) :
    CallsR Try.prog 28 #[.string (t)] w (fun res _ => res = .tuple #[.int .i64 0, .int .i64 0, .bool false]) := by
  refine calls_fr [.string (t)] Try.func28 rfl Try.ntmps28 rfl fun a hF => ?_;have hM : Mem w w [] [] := MemX.start w 0;change Fr 46 a [(0, .string (t))] at hF;refine sr <| ag hF rfl rfl fun a hF => ag hF rfl rfl fun a hF => ag hF rfl rfl fun a hF => ns <| ag hF rfl rfl fun a hF => ag hF rfl rfl fun a hF => nt <| sq <| sr <| ag hF rfl rfl fun a hF => nt <| wp_block ?_;change Mem w _ [] [] at hM;refine c_loop (fun (kk : Nat) a w' => kk ≤ t.size ∧ (∀ i, i < kk → pcB (byt t i) = true) ∧ Fr 46 a [(0, .string (t)), (7, .int .i64 (kk : Int)), (5, .int .i64 ((inT t kk : Int))), (6, .int .i64 ((outT t kk : Int)))] ∧ Mem w w' [] []) (fun kk => t.size - kk) 0 ?_ ?_
  · refine ⟨by omega, fun i hi => absurd hi (by omega), hF.sub _ (by repeat' constructor), ?_⟩
    exact hM
  clear hF hM;rintro gi a w' ⟨hgi, hinv1, hF, hM⟩;have hi1 := inT_le (t := t) gi;have ho1 := outT_le (t := t) gi;have hi2 := inL_le (c := byt t gi);have ho2 := outL_le (c := byt t gi);refine sq <| sr <| mv hF rfl rfl fun a hF => mv hF rfl rfl fun a hF => st hF (g_lenS ty_ut_9 hF rfl) rfl fun a hF => st hF (g_lss hF rfl rfl) rfl fun a hF => nt <| c_cond hF rfl (fun h1 => ?_) (fun h1 => ?_)
  · refine wp_skip ?_
    refine tN <| sq <| wp_block <| sr <| mv hF rfl rfl fun a hF => mv hF rfl rfl fun a hF => st hF (g_indexS (i := gi) ty_ut_9 hF rfl rfl rfl (by omega)) rfl fun a hF => stR hF (d_call Try.call38 hF (.cons rfl .nil) (l04Legs_ok (byt t (gi)) _ (by first | exact byt_lt | omega))) rfl ?_;rintro _ w' a ⟨hx, rfl⟩ hF;have hM := hM.ext hx;refine mv hF rfl rfl fun a hF => st hF (g_extract hF rfl rfl) rfl fun a hF => st hF (g_extract hF rfl rfl) rfl fun a hF => st hF (g_extract hF rfl rfl) rfl fun a hF => ag hF rfl rfl fun a hF => ag hF rfl rfl fun a hF => ag hF rfl rfl fun a hF => nt <| sq <| sr <| mv hF rfl rfl fun a hF => st hF (g_not hF rfl) rfl fun a hF => nt <| c_condB hF rfl (fun h2 => ?_) (fun h2 => ?_)
    · refine sq ?_
      refine wp_region_lit <| ag hF rfl rfl fun a hF => ag hF rfl rfl fun a hF => ag hF rfl rfl fun a hF => nt <| wp_ret <| tR <| iR <| tR <| tR <| iR <| tR <| fin3 rfl hF.defers (res_tmp hF rfl) (res_tmp hF rfl) (res_tmp hF rfl) ⟨_, rfl, hM.below, ?_⟩
      show _ = _
      rfl
    have hpb : pcB (byt t gi) = true := by simpa using h2
    refine wp_skip <| tN <| sr <| mv hF rfl rfl fun a hF => mv hF rfl rfl fun a hF => st hF (g_add hF rfl rfl (add_nat (inT t gi) (inL (byt t (gi))) (by omega))) rfl fun a hF => ag hF rfl rfl fun a hF => nt <| wp_region_lit <| mv hF rfl rfl fun a hF => mv hF rfl rfl fun a hF => st hF (g_add hF rfl rfl (add_nat (outT t gi) (outL (byt t (gi))) (by omega))) rfl fun a hF => ag hF rfl rfl fun a hF => wpList_nil <| iN <| tN <| wp_region_lit <| mv hF rfl rfl fun a hF => st hF (g_add hF rfl rfl (add_nat (gi) (1) (by omega))) rfl fun a hF => ag hF rfl rfl fun a hF => wpList_nil <| tN ?_;rw [show inT t gi + inL (byt t (gi)) = inT t (gi + 1) from rfl, show outT t gi + outL (byt t (gi)) = outT t (gi + 1) from rfl] at hF;refine ⟨gi + 1, ⟨by omega, (fun i hi => by by_cases e : i = gi; (rw [e]; exact hpb); (exact hinv1 i (by omega))), hF.sub _ (by repeat' constructor), ?_⟩, by omega⟩;exact hM
  obtain rfl : t.size = gi := by omega
  exact absurd hinv1 hp
theorem segF_snoc0 {s : ByteArray} {c b : Nat} {u : Value} {e : Option (Nat × Array Value)} (hB : b = s.size ∨ (b < s.size ∧ byt s b = c)) (h : Sl 1 u e (cnt s c b + 1) (fun i => if i < cnt s c b * 1 then segF s c i else (fun _ => Value.string (s.extract (sta s c b) b)) (i - cnt s c b * 1))) : Sl 1 u e (cnt s c b + 1) (segF s c) :=
  h.congr fun i hi => by
    by_cases hlt : i < cnt s c b
    · rw [if_pos (by omega)]
    · rw [if_neg (by omega), show i = cnt s c b by omega]
      unfold segF; rw [seg_b hB]
theorem segF_snoc {s : ByteArray} {c b st k : Nat} {u : Value} {e : Option (Nat × Array Value)} (hB : b = s.size ∨ (b < s.size ∧ byt s b = c)) (h1 : st = sta s c b) (h2 : k = cnt s c b) (h : Sl 1 u e (k + 1) (fun i => if i < k * 1 then segF s c i else (fun _ => Value.string (s.extract st b)) (i - k * 1))) : Sl 1 u e (k + 1) (segF s c) := by
  subst h1; subst h2; exact segF_snoc0 hB h
theorem l01Split_ok (s : ByteArray) (c : Nat) (w : World) (hz : s.size < 10000000) (hc : c < 256) :
    CallsR Try.prog 31 #[.string (s), .int .u8 (c : Int)] w (fun u w' => OwnSl 1 w (nSg s c) (segF s c) u w') := by
  refine calls_fr [.string (s), .int .u8 (c : Int)] Try.func31 rfl Try.ntmps31 rfl fun a hF => ?_;have hM : Mem w w [none, none, none] [] := MemX.start w 3;change Fr 35 a [(0, .string (s)), (1, .int .u8 (c : Int))] at hF;have hc9 := cnt_le (s := s) (c := c) s.size;have hs9 := sta_le (s := s) (c := c) s.size;refine sr <| ag hF rfl rfl fun a hF => ns <| stR hF (d_buildC 0 hM hF rfl ty_bs0_27) rfl ?_;rintro _ w' a ⟨b1, rfl, hM, -⟩ hF;refine ag hF rfl rfl fun a hF => ns <| ag hF rfl rfl fun a hF => nt <| sq <| sr <| ag hF rfl rfl fun a hF => nt <| wp_block ?_;change Mem w _ [some (b1, #[]), none, none] [] at hM;refine c_loop (fun (kk : Nat) a w' => kk ≤ s.size ∧ ∃ (st_ : Nat), ∃ (k_ : Nat), (st_ = sta s c kk ∧ k_ = cnt s c kk) ∧ ∃ (u5_1 : Value) (e5_1 : Option (Nat × Array Value)), Sl 1 u5_1 e5_1 (k_) (segF s c) ∧ Fr 35 a [(0, .string (s)), (1, .int .u8 (c : Int)), (4, .slice none 0 0), (7, .int .i64 (kk : Int)), (6, .int .i64 (st_ : Int)), (5, u5_1)] ∧ Mem w w' [e5_1, none, none] []) (fun kk => s.size - kk) 0 ?_ ?_
  · refine ⟨by omega, 0, 0, ⟨rfl, rfl⟩, (.slice (some ⟨b1, 0, none⟩) 0 0), (some (b1, #[])), (Sl.empty 1 _ _), hF.sub _ (by repeat' constructor), ?_⟩
    exact hM
  clear hF hM;rintro gi a w' ⟨hgi, st_, k_, ⟨hst, hk1⟩, u5_1, e5_1, hsl, hF, hM⟩;have hs1 := sta_le (s := s) (c := c) gi;have hc1 := cnt_le (s := s) (c := c) gi;refine sq <| sr <| mv hF rfl rfl fun a hF => mv hF rfl rfl fun a hF => st hF (g_lenS ty_ut_9 hF rfl) rfl fun a hF => st hF (g_lss hF rfl rfl) rfl fun a hF => nt <| c_cond hF rfl (fun h2 => ?_) (fun h2 => ?_)
  · refine wp_skip ?_
    refine tN <| sq <| wp_block <| sr <| mv hF rfl rfl fun a hF => mv hF rfl rfl fun a hF => st hF (g_indexS (i := gi) ty_ut_9 hF rfl rfl rfl (by omega)) rfl fun a hF => mv hF rfl rfl fun a hF => st hF (g_eql hF rfl rfl) rfl fun a hF => nt <| c_cond hF rfl (fun h3 => ?_) (fun h3 => ?_)
    · have hyb : byt s gi = c := by omega
      have hbb : gi = s.size ∨ (gi < s.size ∧ byt s gi = c) := .inr ⟨by omega, hyb⟩;refine sr <| mv hF rfl rfl fun a hF => mv hF rfl rfl fun a hF => mv hF rfl rfl fun a hF => mv hF rfl rfl fun a hF => st hF (g_sliceS (i := st_) (j := gi) ty_ut_9 hF rfl rfl rfl rfl rfl (by omega) (by omega)) rfl fun a hF => stR hF (d_buildC 1 hM hF (build1 hF rfl) (ty_bst_27 _)) rfl ?_;rintro _ w' a ⟨b4, rfl, hM, -⟩ hF;change Mem w w' [e5_1, some (b4, #[.string ((s.extract (st_) (gi)))]), none] [] at hM;refine stR hF (d_append (k := 0) (N := k_) (m := 1) (f := segF s c) (g := fun _ => .string ((s.extract (st_) (gi)))) ty_si_27 rfl (by decide) hM rfl hF rfl rfl hsl (fun i hi => by rw [show i = 0 by omega]; exact (hM.row 1 rfl).cell 0) (fun _ _ => rfl) (by decide) (by unfold maxLen; omega) (by omega)) rfl ?_;rintro u5 w' a ⟨e6, hM, hsl5⟩ hF;have hsl5 := segF_snoc hbb hst hk1 hsl5;change Mem w w' [e6, some (b4, #[.string ((s.extract (st_) (gi)))]), none] [] at hM;refine ag hF rfl rfl fun a hF => nt <| wp_region_lit <| mv hF rfl rfl fun a hF => st hF (g_add hF rfl rfl (add_nat (gi) (1) (by omega))) rfl fun a hF => ag hF rfl rfl fun a hF => wpList_nil <| iN <| tN <| wp_region_lit <| mv hF rfl rfl fun a hF => st hF (g_add hF rfl rfl (add_nat (gi) (1) (by omega))) rfl fun a hF => ag hF rfl rfl fun a hF => wpList_nil <| tN ?_;have hM := hM.drop 1;refine ⟨gi + 1, ⟨by omega, gi + 1, k_ + 1, ⟨(sta_yes hyb).symm, by rw [cnt_yes hyb, hk1]⟩, (u5), (e6), hsl5, hF.sub _ (by repeat' constructor), ?_⟩, by omega⟩;exact hM
    have hnb : ¬ byt s gi = c := by omega
    refine wp_skip <| iN <| tN <| wp_region_lit <| mv hF rfl rfl fun a hF => st hF (g_add hF rfl rfl (add_nat (gi) (1) (by omega))) rfl fun a hF => ag hF rfl rfl fun a hF => nt <| ⟨gi + 1, ⟨by omega, st_, k_, ⟨by rw [sta_no hnb]; exact hst, by rw [cnt_no hnb]; exact hk1⟩, (u5_1), (e5_1), hsl, hF.sub _ (by repeat' constructor), ?_⟩, by omega⟩;exact hM
  obtain rfl : s.size = gi := by omega
  have hbb : s.size = s.size ∨ (s.size < s.size ∧ byt s s.size = c) := .inl rfl;refine wp_exit <| tX <| tX <| ib_same <| tN <| sr <| mv hF rfl rfl fun a hF => mv hF rfl rfl fun a hF => mv hF rfl rfl fun a hF => st hF (g_sliceSLo (i := st_) ty_ut_9 hF rfl rfl rfl (by omega)) rfl fun a hF => stR hF (d_buildC 2 hM hF (build1 hF rfl) (ty_bst_27 _)) rfl ?_;rintro _ w' a ⟨b7, rfl, hM, -⟩ hF;change Mem w w' [e5_1, none, some (b7, #[.string ((s.extract (st_) s.size))])] [] at hM;refine stR hF (d_append (k := 0) (N := k_) (m := 1) (f := segF s c) (g := fun _ => .string ((s.extract (st_) s.size))) ty_si_27 rfl (by decide) hM rfl hF rfl rfl hsl (fun i hi => by rw [show i = 0 by omega]; exact (hM.row 2 rfl).cell 0) (fun _ _ => rfl) (by decide) (by unfold maxLen; omega) (by omega)) rfl ?_;rintro u8 w' a ⟨e9, hM, hsl5⟩ hF;have hsl5 := segF_snoc hbb hst hk1 hsl5;change Mem w w' [e9, none, some (b7, #[.string ((s.extract (st_) s.size))])] [] at hM;refine ag hF rfl rfl fun a hF => nt <| wp_ret <| fin1 rfl hF.defers (res_tmp hF rfl) ⟨_, rfl, hM.below, ?_⟩;rw [show nSg s c = k_ + 1 by unfold nSg; rw [hk1]];exact OwnSl.pos hM (k := 0) rfl hsl5 (by omega)
end Go.Proofs.Ytbmgeapfninlkaa

namespace Go.Proofs.Ytbmgeapfninlkaa
open Go Go.RowKit Go.Sw
open Classical
theorem inT_ext {s : ByteArray} {a b : Nat} (hb : b ≤ s.size) (ha : a = sta s 47 b) : ∀ j, j ≤ b - a → inT (s.extract a b) j = inR s (a + j) ∧ outT (s.extract a b) j = outR s (a + j)
  | 0, _ => by subst ha; exact ⟨(inR_sta b).symm, (outR_sta b).symm⟩
  | j + 1, h => by
    obtain ⟨h1, h2⟩ := inT_ext hb ha j (by omega)
    have hle := sta_le (s := s) (c := 47) b
    have hne : ¬ byt s (a + j) = 47 := sta_ne (j := b) (by omega) (by omega)
    refine ⟨?_, ?_⟩
    · rw [inT, h1, byt_ext hb (by omega), show a + (j + 1) = a + j + 1 by omega, inR_no hne]
    · rw [outT, h2, byt_ext hb (by omega), show a + (j + 1) = a + j + 1 by omega, outR_no hne]
section
variable {s : ByteArray}
theorem seg_size {k : Nat} (h : k < nSg s 47) : (seg s 47 k).size = sgB s 47 k - sta s 47 (sgB s 47 k) := by
  unfold seg; rw [ext_size (sgB_le h), sgA_sta h]
theorem seg_in {k : Nat} (h : k < nSg s 47) : inT (seg s 47 k) (seg s 47 k).size = inR s (sgB s 47 k) ∧ outT (seg s 47 k) (seg s 47 k).size = outR s (sgB s 47 k) := by
  rw [seg_size h];have := inT_ext (s := s) (sgB_le h) rfl (sgB s 47 k - sta s 47 (sgB s 47 k)) (Nat.le_refl _);have hle := sta_le (s := s) (c := 47) (sgB s 47 k);rw [show sta s 47 (sgB s 47 k) + (sgB s 47 k - sta s 47 (sgB s 47 k)) = sgB s 47 k by omega] at this
  unfold seg
  rw [sgA_sta h];exact this
theorem seg_pc {k : Nat} (h : k < nSg s 47) : pcT (seg s 47 k) ↔ ∀ i, sta s 47 (sgB s 47 k) ≤ i → i < sgB s 47 k → pcB (byt s i) = true := by
  unfold pcT
  rw [seg_size h];have e : ∀ j, j < sgB s 47 k - sta s 47 (sgB s 47 k) → byt (seg s 47 k) j = byt s (sta s 47 (sgB s 47 k) + j) := fun j hj => by
    unfold seg; rw [sgA_sta h]; exact byt_ext (sgB_le h) hj
  constructor
  · intro hp i h1 h2
    have := hp (i - sta s 47 (sgB s 47 k)) (by omega)
    rwa [e _ (by omega), show sta s 47 (sgB s 47 k) + (i - sta s 47 (sgB s 47 k)) = i by omega] at this
  · intro hp j hj
    rw [e j hj]; exact hp _ (by omega) (by omega)
theorem byte_in {i : Nat} (hi : i < s.size) (h : ¬ byt s i = 47) : cnt s 47 i < nSg s 47 ∧ sta s 47 (sgB s 47 (cnt s 47 i)) ≤ i ∧ i < sgB s 47 (cnt s 47 i) := by
  have hk : cnt s 47 i < nSg s 47 := by unfold nSg; have := cnt_mono (s := s) (c := 47) (i := i) (j := s.size) (by omega); omega
  have h1 := sgB_spec hk;have hlt : i < sgB s 47 (cnt s 47 i) := by
    refine Decidable.byContradiction fun hno => ?_
    rcases h1.1 with e | ⟨e, hb⟩
    · omega
    · have hm := cnt_mono (s := s) (c := 47) (show sgB s 47 (cnt s 47 i) + 1 ≤ i from by
        by_cases e2 : sgB s 47 (cnt s 47 i) = i
        · rw [e2] at hb; exact absurd hb h
        · omega)
      rw [cnt_yes hb, h1.2] at hm
      omega
  refine ⟨hk, ?_, hlt⟩;rw [← sgA_sta hk, sgA_cnt (by omega)];exact sta_le i
def lyOk (s : ByteArray) (k : Nat) : Prop := pcT (seg s 47 k) ∧ lyT (seg s 47 k) ∧ (0 < k → inR s (sgB s 47 k) = outR s (sgB s 47 (k - 1)))
theorem lyOk_lay {k : Nat} (h : k < nSg s 47) : lyT (seg s 47 k) ∧ (0 < k → inR s (sgB s 47 k) = outR s (sgB s 47 (k - 1))) ↔ layP s (sgB s 47 k) := by
  obtain ⟨h1, h2⟩ := seg_in h;have h3 := seg_size h;have h4 := (sgB_spec h).2;have h5 := cnt_pos (sgB_le h);rw [h4] at h5
  unfold lyT layP
  rw [h1, h2, h3, ← h5];have hle := sta_le (s := s) (c := 47) (sgB s 47 k)
  constructor
  · rintro ⟨⟨q1, q2, q3⟩, q4⟩
    exact ⟨by omega, q2, q3, fun q => by rw [q4 q]; have := prev_out (sgB_le h) (by rw [h4]; exact q); rw [h4] at this; rw [this]⟩
  · rintro ⟨q1, q2, q3, q4⟩
    exact ⟨⟨by omega, q2, q3⟩, fun q => by rw [q4 q]; have := prev_out (sgB_le h) (by rw [h4]; exact q); rw [h4] at this; rw [this]⟩
theorem word_ok (hW : WordP s) {k : Nat} (h : k < nSg s 47) : lyOk s k := by
  obtain ⟨h1, h2⟩ := (lyOk_lay h).2 (word_at hW h);refine ⟨(seg_pc h).2 fun i ha hb => ?_, h1, h2⟩;have hn := sgB_le h
  rcases hW.2.1 i (by omega) with e | e
  · exact absurd e (sta_ne ha hb)
  · exact e
theorem ok_word (h3 : s.size ≤ 300) (h : ∀ k, k < nSg s 47 → lyOk s k) : WordP s :=
  word_of h3 (fun i hi => by
    by_cases e : byt s i = 47
    · exact .inl e
    · obtain ⟨h1, h2, h4⟩ := byte_in hi e
      exact .inr ((seg_pc h1).1 (h _ h1).1 i h2 h4)) fun k hk => (lyOk_lay hk).1 ⟨(h k hk).2.1, (h k hk).2.2⟩
end

end Go.Proofs.Ytbmgeapfninlkaa
