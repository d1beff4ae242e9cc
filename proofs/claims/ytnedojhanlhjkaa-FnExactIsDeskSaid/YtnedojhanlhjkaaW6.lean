/- What functions of the program return, as walks over their operations; no statement of the seat is proved here. -/
import Derived.Test.YtnedojhanlhjkaaW2
set_option linter.unusedVariables false
set_option linter.unusedSimpArgs false
namespace Go.Proofs.Ytnedojhanlhjkaa
open Go Go.RowKit Go.Sw Go.Ech
open Classical
theorem IsWordI_E  (w : World)  :
    CallsR Try.prog 22 #[.string (⟨#[]⟩)] w (fun res _ => res = .bool true) := by
  refine calls_fr [.string (⟨#[]⟩)] Try.func22 rfl Try.ntmps22 rfl fun a hF => ?_;have hM : Mem w w [] [] := MemX.start w 0;change Fr 11 a [(0, .string (⟨#[]⟩))] at hF;have he0 : (⟨#[]⟩ : ByteArray).size = 0 := rfl;refine sr <| ag hF rfl rfl fun a hF => ns <| mv hF rfl rfl fun a hF => stR hF (d_call Try.call40 hF (.cons rfl .nil) (layersOf_E _)) rfl ?_;rintro _ w' a ⟨hx, rfl⟩ hF;have hM := hM.ext hx;refine mv hF rfl rfl fun a hF => st hF (g_extract hF rfl rfl) rfl fun a hF => st hF (g_extract hF rfl rfl) rfl fun a hF => ag hF rfl rfl fun a hF => ag hF rfl rfl fun a hF => ns <| mv hF rfl rfl fun a hF => ag hF rfl rfl fun a hF => nt <| wp_ret <| fin1 rfl hF.defers (res_tmp hF rfl) ⟨_, rfl, hM.below, ?_⟩
  show _ = _
  rfl
theorem IsWordI_L (s : ByteArray) (w : World) (h0 : 300 < s.size) :
    CallsR Try.prog 22 #[.string (s)] w (fun res _ => res = .bool false) := by
  refine calls_fr [.string (s)] Try.func22 rfl Try.ntmps22 rfl fun a hF => ?_;have hM : Mem w w [] [] := MemX.start w 0;change Fr 11 a [(0, .string (s))] at hF;refine sr <| ag hF rfl rfl fun a hF => ns <| mv hF rfl rfl fun a hF => stR hF (d_call Try.call40 hF (.cons rfl .nil) (layersOf_L s _ h0)) rfl ?_;rintro _ w' a ⟨hx, rfl⟩ hF;have hM := hM.ext hx;refine mv hF rfl rfl fun a hF => st hF (g_extract hF rfl rfl) rfl fun a hF => st hF (g_extract hF rfl rfl) rfl fun a hF => ag hF rfl rfl fun a hF => ag hF rfl rfl fun a hF => ns <| mv hF rfl rfl fun a hF => ag hF rfl rfl fun a hF => nt <| wp_ret <| fin1 rfl hF.defers (res_tmp hF rfl) ⟨_, rfl, hM.below, ?_⟩
  show _ = _
  rfl
theorem IsWordI_N (s : ByteArray) (w : World) (hW : ¬ WordP s) (h0 : 0 < s.size) (h3 : s.size ≤ 300) :
    CallsR Try.prog 22 #[.string (s)] w (fun res _ => res = .bool false) := by
  refine calls_fr [.string (s)] Try.func22 rfl Try.ntmps22 rfl fun a hF => ?_;have hM : Mem w w [] [] := MemX.start w 0;change Fr 11 a [(0, .string (s))] at hF;refine sr <| ag hF rfl rfl fun a hF => ns <| mv hF rfl rfl fun a hF => stR hF (d_call Try.call40 hF (.cons rfl .nil) (layersOf_N s _ hW h0 h3)) rfl ?_;rintro _ w' a ⟨hx, rfl⟩ hF;have hM := hM.ext hx;refine mv hF rfl rfl fun a hF => st hF (g_extract hF rfl rfl) rfl fun a hF => st hF (g_extract hF rfl rfl) rfl fun a hF => ag hF rfl rfl fun a hF => ag hF rfl rfl fun a hF => ns <| mv hF rfl rfl fun a hF => ag hF rfl rfl fun a hF => nt <| wp_ret <| fin1 rfl hF.defers (res_tmp hF rfl) ⟨_, rfl, hM.below, ?_⟩
  show _ = _
  rfl
theorem IsWordI_Y (s : ByteArray) (w : World) (hW : WordP s) (h0 : 0 < s.size) :
    CallsR Try.prog 22 #[.string (s)] w (fun res _ => res = .bool true) := by
  refine calls_fr [.string (s)] Try.func22 rfl Try.ntmps22 rfl fun a hF => ?_;have hM : Mem w w [none] [] := MemX.start w 1;change Fr 11 a [(0, .string (s))] at hF;have h3 := hW.1;have hns : nSg s 47 = cnt s 47 s.size + 1 := rfl;have hcl := cnt_le (s := s) (c := 47) s.size;refine sr <| ag hF rfl rfl fun a hF => ns <| mv hF rfl rfl fun a hF => stR hF (d_call Try.call40 hF (.cons rfl .nil) (layersOf_Y s _ hW h0)) rfl ?_;rintro u w' a ⟨hx, ul, rfl, bW, cW, csW, hs, hgW, hbW⟩ hF;obtain rfl := hs.val;have hM := hM.fill hx 0 hbW hgW;change Mem w w' [some (bW, csW)] [] at hM;refine mv hF rfl rfl fun a hF => st hF (g_extract hF rfl rfl) rfl fun a hF => st hF (g_extract hF rfl rfl) rfl fun a hF => ag hF rfl rfl fun a hF => ag hF rfl rfl fun a hF => ns <| mv hF rfl rfl fun a hF => ag hF rfl rfl fun a hF => nt <| wp_ret <| fin1 rfl hF.defers (res_tmp hF rfl) ⟨_, rfl, hM.below, ?_⟩
  show _ = _
  rfl
def eulS (s : ByteArray) : Nat → Int
  | 0 => 0
  | i + 1 => eulS s i + eulL (byt s i)
end Go.Proofs.Ytnedojhanlhjkaa

namespace Go.Proofs.Ytnedojhanlhjkaa
open Go Go.RowKit Go.Sw Go.Ech
open Classical
theorem ty_bs0_63 : ∀ w, (Instr.buildSlice 63 0 #[]).run Try.prog w = .ok (.slice (some ⟨w.heap.size, 0, none⟩) 0 0) (w.alloc (.cells #[] 9)) := by intros; kernel_rfl
theorem ty_bst_63 : ∀ (t : ByteArray) (w : World), (Instr.buildSlice 63 1 #[(0, .string t)]).run Try.prog w = .ok (.slice (some ⟨w.heap.size, 0, none⟩) 1 1) (w.alloc (.cells #[.string t] 9)) := by intros; kernel_rfl
theorem ty_si_63 : slI Try.prog 63 = some (9, some (.string ByteArray.empty), 1, 16) := by kernel_rfl
def inT (t : ByteArray) : Nat → Nat
  | 0 => 0
  | i + 1 => inT t i + inL (byt t i)
def outT (t : ByteArray) : Nat → Nat
  | 0 => 0
  | i + 1 => outT t i + outL (byt t i)
theorem inT_le {t : ByteArray} : ∀ i : Nat, inT t i ≤ 2 * i
  | 0 => Nat.le_refl _
  | i + 1 => by have := inT_le (t := t) i; have := inL_le (c := byt t i); rw [inT]; omega
theorem outT_le {t : ByteArray} : ∀ i : Nat, outT t i ≤ 2 * i
  | 0 => Nat.le_refl _
  | i + 1 => by have := outT_le (t := t) i; have := outL_le (c := byt t i); rw [outT]; omega
def pcT (t : ByteArray) : Prop := ∀ i, i < t.size → pcB (byt t i) = true
def lyT (t : ByteArray) : Prop := 0 < t.size ∧ inT t t.size ≤ 6 ∧ outT t t.size ≤ 6
instance (t : ByteArray) : Decidable (lyT t) := by unfold lyT; infer_instance

theorem l04Layer_P (t : ByteArray) (w : World) (hz : t.size < 10000000) (hp : pcT t) :
    CallsR Try.prog 56 #[.string (t)] w (fun res _ => res = .tuple #[.int .i64 (inT t t.size : Int), .int .i64 (outT t t.size : Int), .bool (decide (lyT t))]) := by
  refine calls_fr [.string (t)] Try.func56 rfl Try.ntmps56 rfl fun a hF => ?_;have hM : Mem w w [] [] := MemX.start w 0;change Fr 46 a [(0, .string (t))] at hF;have hi9 := inT_le (t := t) t.size;have ho9 := outT_le (t := t) t.size;refine sr <| ag hF rfl rfl fun a hF => ag hF rfl rfl fun a hF => ag hF rfl rfl fun a hF => ns <| ag hF rfl rfl fun a hF => ag hF rfl rfl fun a hF => nt <| sq <| sr <| ag hF rfl rfl fun a hF => nt <| wp_block ?_;change Mem w _ [] [] at hM;refine c_loop (fun (kk : Nat) a w' => kk ≤ t.size ∧ (True) ∧ Fr 46 a [(0, .string (t)), (7, .int .i64 (kk : Int)), (5, .int .i64 ((inT t kk : Int))), (6, .int .i64 ((outT t kk : Int)))] ∧ Mem w w' [] []) (fun kk => t.size - kk) 0 ?_ ?_
  · refine ⟨by omega, trivial, hF.sub _ (by repeat' constructor), ?_⟩
    exact hM
  clear hF hM;rintro gi a w' ⟨hgi, hinv1, hF, hM⟩;have hi1 := inT_le (t := t) gi;have ho1 := outT_le (t := t) gi;have hi2 := inL_le (c := byt t gi);have ho2 := outL_le (c := byt t gi);refine sq <| sr <| mv hF rfl rfl fun a hF => mv hF rfl rfl fun a hF => st hF (g_lenS ty_ut_9 hF rfl) rfl fun a hF => st hF (g_lss hF rfl rfl) rfl fun a hF => nt <| c_cond hF rfl (fun h1 => ?_) (fun h1 => ?_)
  · refine wp_skip ?_
    refine tN <| sq <| wp_block <| sr <| mv hF rfl rfl fun a hF => mv hF rfl rfl fun a hF => st hF (g_indexS (i := gi) ty_ut_9 hF rfl rfl rfl (by omega)) rfl fun a hF => stR hF (d_call Try.call69 hF (.cons rfl .nil) (l04Legs_ok (byt t (gi)) _ (by first | exact byt_lt | omega))) rfl ?_;rintro _ w' a ⟨hx, rfl⟩ hF;have hM := hM.ext hx;refine mv hF rfl rfl fun a hF => st hF (g_extract hF rfl rfl) rfl fun a hF => st hF (g_extract hF rfl rfl) rfl fun a hF => st hF (g_extract hF rfl rfl) rfl fun a hF => ag hF rfl rfl fun a hF => ag hF rfl rfl fun a hF => ag hF rfl rfl fun a hF => nt <| sq <| sr <| mv hF rfl rfl fun a hF => st hF (g_not hF rfl) rfl fun a hF => nt <| c_condB hF rfl (fun h2 => ?_) (fun h2 => ?_)
    · rw [hp gi (by omega)] at h2; cases h2
    refine wp_skip <| tN <| sr <| mv hF rfl rfl fun a hF => mv hF rfl rfl fun a hF => st hF (g_add hF rfl rfl (add_nat (inT t gi) (inL (byt t (gi))) (by omega))) rfl fun a hF => ag hF rfl rfl fun a hF => nt <| wp_region_lit <| mv hF rfl rfl fun a hF => mv hF rfl rfl fun a hF => st hF (g_add hF rfl rfl (add_nat (outT t gi) (outL (byt t (gi))) (by omega))) rfl fun a hF => ag hF rfl rfl fun a hF => wpList_nil <| iN <| tN <| wp_region_lit <| mv hF rfl rfl fun a hF => st hF (g_add hF rfl rfl (add_nat (gi) (1) (by omega))) rfl fun a hF => ag hF rfl rfl fun a hF => wpList_nil <| tN ?_;rw [show inT t gi + inL (byt t (gi)) = inT t (gi + 1) from rfl, show outT t gi + outL (byt t (gi)) = outT t (gi + 1) from rfl] at hF;refine ⟨gi + 1, ⟨by omega, trivial, hF.sub _ (by repeat' constructor), ?_⟩, by omega⟩;exact hM
  obtain rfl : t.size = gi := by omega
  refine wp_exit <| tX <| tX <| ib_same <| tN <| sr <| mv hF rfl rfl fun a hF => mv hF rfl rfl fun a hF => mv hF rfl rfl fun a hF => st hF (g_lenS ty_ut_9 hF rfl) rfl fun a hF => st hF (g_gtr hF rfl rfl) rfl fun a hF => mv hF rfl rfl fun a hF => ?_
  by_cases g3 : 0 < ((t.size : Int) : Int)
  · first | rw [decide_eq_true g3] at hF | simp only [decide_eq_true g3] at hF
    refine stY hF rfl rfl rfl (g_move hF rfl) rfl fun a hF => stY hF rfl rfl rfl (g_leq hF rfl rfl) rfl fun a hF => st hF (g_pickT hF rfl rfl) rfl fun a hF => mv hF rfl rfl fun a hF => ?_
    by_cases g4 : ((inT t (t.size) : Int) : Int) ≤ 6
    · first | rw [decide_eq_true g4] at hF | simp only [decide_eq_true g4] at hF
      refine stY hF rfl rfl rfl (g_move hF rfl) rfl fun a hF => stY hF rfl rfl rfl (g_leq hF rfl rfl) rfl fun a hF => st hF (g_pickT hF rfl rfl) rfl fun a hF => ag hF rfl rfl fun a hF => ag hF rfl rfl fun a hF => ag hF rfl rfl fun a hF => nt <| wp_ret <| fin3 rfl hF.defers (res_tmp hF rfl) (res_tmp hF rfl) (res_tmp hF rfl) ⟨_, rfl, hM.below, ?_⟩
      show _ = _
      first | exact congrArg (fun b => Value.tuple #[.int .i64 (inT t t.size : Int), .int .i64 (outT t t.size : Int), .bool b]) (decide_eq_false (by unfold lyT; omega)).symm | exact congrArg (fun b => Value.tuple #[.int .i64 (inT t t.size : Int), .int .i64 (outT t t.size : Int), .bool b]) (decide_eq_true (by unfold lyT; omega)).symm | exact congrArg (fun b => Value.tuple #[.int .i64 (inT t t.size : Int), .int .i64 (outT t t.size : Int), .bool b]) (decide_eq_decide.2 (by unfold lyT; omega))
    first | rw [decide_eq_false g4] at hF | simp only [decide_eq_false g4] at hF
    refine stS hF rfl rfl rfl rfl rfl fun a hF => stS hF rfl rfl rfl rfl rfl fun a hF => st hF (g_pickF hF rfl rfl) rfl fun a hF => ag hF rfl rfl fun a hF => ag hF rfl rfl fun a hF => ag hF rfl rfl fun a hF => nt <| wp_ret <| fin3 rfl hF.defers (res_tmp hF rfl) (res_tmp hF rfl) (res_tmp hF rfl) ⟨_, rfl, hM.below, ?_⟩
    show _ = _
    first | exact congrArg (fun b => Value.tuple #[.int .i64 (inT t t.size : Int), .int .i64 (outT t t.size : Int), .bool b]) (decide_eq_false (by unfold lyT; omega)).symm | exact congrArg (fun b => Value.tuple #[.int .i64 (inT t t.size : Int), .int .i64 (outT t t.size : Int), .bool b]) (decide_eq_true (by unfold lyT; omega)).symm | exact congrArg (fun b => Value.tuple #[.int .i64 (inT t t.size : Int), .int .i64 (outT t t.size : Int), .bool b]) (decide_eq_decide.2 (by unfold lyT; omega))
  first | rw [decide_eq_false g3] at hF | simp only [decide_eq_false g3] at hF
  refine stS hF rfl rfl rfl rfl rfl fun a hF => stS hF rfl rfl rfl rfl rfl fun a hF => st hF (g_pickF hF rfl rfl) rfl fun a hF => mv hF rfl rfl fun a hF => stS hF rfl rfl rfl rfl rfl fun a hF => stS hF rfl rfl rfl rfl rfl fun a hF => st hF (g_pickF hF rfl rfl) rfl fun a hF => ag hF rfl rfl fun a hF => ag hF rfl rfl fun a hF => ag hF rfl rfl fun a hF => nt <| wp_ret <| fin3 rfl hF.defers (res_tmp hF rfl) (res_tmp hF rfl) (res_tmp hF rfl) ⟨_, rfl, hM.below, ?_⟩
  show _ = _
  first | exact congrArg (fun b => Value.tuple #[.int .i64 (inT t t.size : Int), .int .i64 (outT t t.size : Int), .bool b]) (decide_eq_false (by unfold lyT; omega)).symm | exact congrArg (fun b => Value.tuple #[.int .i64 (inT t t.size : Int), .int .i64 (outT t t.size : Int), .bool b]) (decide_eq_true (by unfold lyT; omega)).symm | exact congrArg (fun b => Value.tuple #[.int .i64 (inT t t.size : Int), .int .i64 (outT t t.size : Int), .bool b]) (decide_eq_decide.2 (by unfold lyT; omega))
theorem l04Layer_G (t : ByteArray) (w : World) (hz : t.size < 10000000) (hp : ¬ pcT t) :
    CallsR Try.prog 56 #[.string (t)] w (fun res _ => res = .tuple #[.int .i64 0, .int .i64 0, .bool false]) := by
  refine calls_fr [.string (t)] Try.func56 rfl Try.ntmps56 rfl fun a hF => ?_;have hM : Mem w w [] [] := MemX.start w 0;change Fr 46 a [(0, .string (t))] at hF;refine sr <| ag hF rfl rfl fun a hF => ag hF rfl rfl fun a hF => ag hF rfl rfl fun a hF => ns <| ag hF rfl rfl fun a hF => ag hF rfl rfl fun a hF => nt <| sq <| sr <| ag hF rfl rfl fun a hF => nt <| wp_block ?_;change Mem w _ [] [] at hM;refine c_loop (fun (kk : Nat) a w' => kk ≤ t.size ∧ (∀ i, i < kk → pcB (byt t i) = true) ∧ Fr 46 a [(0, .string (t)), (7, .int .i64 (kk : Int)), (5, .int .i64 ((inT t kk : Int))), (6, .int .i64 ((outT t kk : Int)))] ∧ Mem w w' [] []) (fun kk => t.size - kk) 0 ?_ ?_
  · refine ⟨by omega, fun i hi => absurd hi (by omega), hF.sub _ (by repeat' constructor), ?_⟩
    exact hM
  clear hF hM;rintro gi a w' ⟨hgi, hinv1, hF, hM⟩;have hi1 := inT_le (t := t) gi;have ho1 := outT_le (t := t) gi;have hi2 := inL_le (c := byt t gi);have ho2 := outL_le (c := byt t gi);refine sq <| sr <| mv hF rfl rfl fun a hF => mv hF rfl rfl fun a hF => st hF (g_lenS ty_ut_9 hF rfl) rfl fun a hF => st hF (g_lss hF rfl rfl) rfl fun a hF => nt <| c_cond hF rfl (fun h1 => ?_) (fun h1 => ?_)
  · refine wp_skip ?_
    refine tN <| sq <| wp_block <| sr <| mv hF rfl rfl fun a hF => mv hF rfl rfl fun a hF => st hF (g_indexS (i := gi) ty_ut_9 hF rfl rfl rfl (by omega)) rfl fun a hF => stR hF (d_call Try.call69 hF (.cons rfl .nil) (l04Legs_ok (byt t (gi)) _ (by first | exact byt_lt | omega))) rfl ?_;rintro _ w' a ⟨hx, rfl⟩ hF;have hM := hM.ext hx;refine mv hF rfl rfl fun a hF => st hF (g_extract hF rfl rfl) rfl fun a hF => st hF (g_extract hF rfl rfl) rfl fun a hF => st hF (g_extract hF rfl rfl) rfl fun a hF => ag hF rfl rfl fun a hF => ag hF rfl rfl fun a hF => ag hF rfl rfl fun a hF => nt <| sq <| sr <| mv hF rfl rfl fun a hF => st hF (g_not hF rfl) rfl fun a hF => nt <| c_condB hF rfl (fun h2 => ?_) (fun h2 => ?_)
    · refine sq ?_
      refine wp_region_lit <| ag hF rfl rfl fun a hF => ag hF rfl rfl fun a hF => ag hF rfl rfl fun a hF => nt <| wp_ret <| tR <| iR <| tR <| tR <| iR <| tR <| fin3 rfl hF.defers (res_tmp hF rfl) (res_tmp hF rfl) (res_tmp hF rfl) ⟨_, rfl, hM.below, ?_⟩
      show _ = _
      rfl
    have hpb : pcB (byt t gi) = true := by simpa using h2
    refine wp_skip <| tN <| sr <| mv hF rfl rfl fun a hF => mv hF rfl rfl fun a hF => st hF (g_add hF rfl rfl (add_nat (inT t gi) (inL (byt t (gi))) (by omega))) rfl fun a hF => ag hF rfl rfl fun a hF => nt <| wp_region_lit <| mv hF rfl rfl fun a hF => mv hF rfl rfl fun a hF => st hF (g_add hF rfl rfl (add_nat (outT t gi) (outL (byt t (gi))) (by omega))) rfl fun a hF => ag hF rfl rfl fun a hF => wpList_nil <| iN <| tN <| wp_region_lit <| mv hF rfl rfl fun a hF => st hF (g_add hF rfl rfl (add_nat (gi) (1) (by omega))) rfl fun a hF => ag hF rfl rfl fun a hF => wpList_nil <| tN ?_;rw [show inT t gi + inL (byt t (gi)) = inT t (gi + 1) from rfl, show outT t gi + outL (byt t (gi)) = outT t (gi + 1) from rfl] at hF;refine ⟨gi + 1, ⟨by omega, (fun i hi => by by_cases e : i = gi; (rw [e]; exact hpb); (exact hinv1 i (by omega))), hF.sub _ (by repeat' constructor), ?_⟩, by omega⟩;exact hM
  obtain rfl : t.size = gi := by omega
  exact absurd hinv1 hp
theorem segF_snoc0 {s : ByteArray} {c b : Nat} {u : Value} {e : Option (Nat × Array Value)} (hB : b = s.size ∨ (b < s.size ∧ byt s b = c)) (h : Sl 1 u e (cnt s c b + 1) (fun i => if i < cnt s c b * 1 then segF s c i else (fun _ => Value.string (s.extract (sta s c b) b)) (i - cnt s c b * 1))) : Sl 1 u e (cnt s c b + 1) (segF s c) :=
  h.congr fun i hi => by
    by_cases hlt : i < cnt s c b
    · rw [if_pos (by omega)]
    · rw [if_neg (by omega), show i = cnt s c b by omega]
      unfold segF; rw [seg_b hB]
theorem segF_snoc {s : ByteArray} {c b st k : Nat} {u : Value} {e : Option (Nat × Array Value)} (hB : b = s.size ∨ (b < s.size ∧ byt s b = c)) (h1 : st = sta s c b) (h2 : k = cnt s c b) (h : Sl 1 u e (k + 1) (fun i => if i < k * 1 then segF s c i else (fun _ => Value.string (s.extract st b)) (i - k * 1))) : Sl 1 u e (k + 1) (segF s c) := by
  subst h1; subst h2; exact segF_snoc0 hB h
theorem l01Split_ok (s : ByteArray) (c : Nat) (w : World) (hz : s.size < 10000000) (hc : c < 256) :
    CallsR Try.prog 55 #[.string (s), .int .u8 (c : Int)] w (fun u w' => OwnSl 1 w (nSg s c) (segF s c) u w') := by
  refine calls_fr [.string (s), .int .u8 (c : Int)] Try.func55 rfl Try.ntmps55 rfl fun a hF => ?_;have hM : Mem w w [none, none, none] [] := MemX.start w 3;change Fr 35 a [(0, .string (s)), (1, .int .u8 (c : Int))] at hF;have hc9 := cnt_le (s := s) (c := c) s.size;have hs9 := sta_le (s := s) (c := c) s.size;refine sr <| ag hF rfl rfl fun a hF => ns <| stR hF (d_buildC 0 hM hF rfl ty_bs0_63) rfl ?_;rintro _ w' a ⟨b1, rfl, hM, -⟩ hF;refine ag hF rfl rfl fun a hF => ns <| ag hF rfl rfl fun a hF => nt <| sq <| sr <| ag hF rfl rfl fun a hF => nt <| wp_block ?_;change Mem w _ [some (b1, #[]), none, none] [] at hM;refine c_loop (fun (kk : Nat) a w' => kk ≤ s.size ∧ ∃ (st_ : Nat), ∃ (k_ : Nat), (st_ = sta s c kk ∧ k_ = cnt s c kk) ∧ ∃ (u5_1 : Value) (e5_1 : Option (Nat × Array Value)), Sl 1 u5_1 e5_1 (k_) (segF s c) ∧ Fr 35 a [(0, .string (s)), (1, .int .u8 (c : Int)), (4, .slice none 0 0), (7, .int .i64 (kk : Int)), (6, .int .i64 (st_ : Int)), (5, u5_1)] ∧ Mem w w' [e5_1, none, none] []) (fun kk => s.size - kk) 0 ?_ ?_
  · refine ⟨by omega, 0, 0, ⟨rfl, rfl⟩, (.slice (some ⟨b1, 0, none⟩) 0 0), (some (b1, #[])), (Sl.empty 1 _ _), hF.sub _ (by repeat' constructor), ?_⟩
    exact hM
  clear hF hM;rintro gi a w' ⟨hgi, st_, k_, ⟨hst, hk1⟩, u5_1, e5_1, hsl, hF, hM⟩;have hs1 := sta_le (s := s) (c := c) gi;have hc1 := cnt_le (s := s) (c := c) gi;refine sq <| sr <| mv hF rfl rfl fun a hF => mv hF rfl rfl fun a hF => st hF (g_lenS ty_ut_9 hF rfl) rfl fun a hF => st hF (g_lss hF rfl rfl) rfl fun a hF => nt <| c_cond hF rfl (fun h2 => ?_) (fun h2 => ?_)
  · refine wp_skip ?_
    refine tN <| sq <| wp_block <| sr <| mv hF rfl rfl fun a hF => mv hF rfl rfl fun a hF => st hF (g_indexS (i := gi) ty_ut_9 hF rfl rfl rfl (by omega)) rfl fun a hF => mv hF rfl rfl fun a hF => st hF (g_eql hF rfl rfl) rfl fun a hF => nt <| c_cond hF rfl (fun h3 => ?_) (fun h3 => ?_)
    · have hyb : byt s gi = c := by omega
      have hbb : gi = s.size ∨ (gi < s.size ∧ byt s gi = c) := .inr ⟨by omega, hyb⟩;refine sr <| mv hF rfl rfl fun a hF => mv hF rfl rfl fun a hF => mv hF rfl rfl fun a hF => mv hF rfl rfl fun a hF => st hF (g_sliceS (i := st_) (j := gi) ty_ut_9 hF rfl rfl rfl rfl rfl (by omega) (by omega)) rfl fun a hF => stR hF (d_buildC 1 hM hF (build1 hF rfl) (ty_bst_63 _)) rfl ?_;rintro _ w' a ⟨b4, rfl, hM, -⟩ hF;change Mem w w' [e5_1, some (b4, #[.string ((s.extract (st_) (gi)))]), none] [] at hM;refine stR hF (d_append (k := 0) (N := k_) (m := 1) (f := segF s c) (g := fun _ => .string ((s.extract (st_) (gi)))) ty_si_63 rfl (by decide) hM rfl hF rfl rfl hsl (fun i hi => by rw [show i = 0 by omega]; exact (hM.row 1 rfl).cell 0) (fun _ _ => rfl) (by decide) (by unfold maxLen; omega) (by omega)) rfl ?_;rintro u5 w' a ⟨e6, hM, hsl5⟩ hF;have hsl5 := segF_snoc hbb hst hk1 hsl5;change Mem w w' [e6, some (b4, #[.string ((s.extract (st_) (gi)))]), none] [] at hM;refine ag hF rfl rfl fun a hF => nt <| wp_region_lit <| mv hF rfl rfl fun a hF => st hF (g_add hF rfl rfl (add_nat (gi) (1) (by omega))) rfl fun a hF => ag hF rfl rfl fun a hF => wpList_nil <| iN <| tN <| wp_region_lit <| mv hF rfl rfl fun a hF => st hF (g_add hF rfl rfl (add_nat (gi) (1) (by omega))) rfl fun a hF => ag hF rfl rfl fun a hF => wpList_nil <| tN ?_;have hM := hM.drop 1;refine ⟨gi + 1, ⟨by omega, gi + 1, k_ + 1, ⟨(sta_yes hyb).symm, by rw [cnt_yes hyb, hk1]⟩, (u5), (e6), hsl5, hF.sub _ (by repeat' constructor), ?_⟩, by omega⟩;exact hM
    have hnb : ¬ byt s gi = c := by omega
    refine wp_skip <| iN <| tN <| wp_region_lit <| mv hF rfl rfl fun a hF => st hF (g_add hF rfl rfl (add_nat (gi) (1) (by omega))) rfl fun a hF => ag hF rfl rfl fun a hF => nt <| ⟨gi + 1, ⟨by omega, st_, k_, ⟨by rw [sta_no hnb]; exact hst, by rw [cnt_no hnb]; exact hk1⟩, (u5_1), (e5_1), hsl, hF.sub _ (by repeat' constructor), ?_⟩, by omega⟩;exact hM
  obtain rfl : s.size = gi := by omega
  have hbb : s.size = s.size ∨ (s.size < s.size ∧ byt s s.size = c) := .inl rfl;refine wp_exit <| tX <| tX <| ib_same <| tN <| sr <| mv hF rfl rfl fun a hF => mv hF rfl rfl fun a hF => mv hF rfl rfl fun a hF => st hF (g_sliceSLo (i := st_) ty_ut_9 hF rfl rfl rfl (by omega)) rfl fun a hF => stR hF (d_buildC 2 hM hF (build1 hF rfl) (ty_bst_63 _)) rfl ?_;rintro _ w' a ⟨b7, rfl, hM, -⟩ hF;change Mem w w' [e5_1, none, some (b7, #[.string ((s.extract (st_) s.size))])] [] at hM;refine stR hF (d_append (k := 0) (N := k_) (m := 1) (f := segF s c) (g := fun _ => .string ((s.extract (st_) s.size))) ty_si_63 rfl (by decide) hM rfl hF rfl rfl hsl (fun i hi => by rw [show i = 0 by omega]; exact (hM.row 2 rfl).cell 0) (fun _ _ => rfl) (by decide) (by unfold maxLen; omega) (by omega)) rfl ?_;rintro u8 w' a ⟨e9, hM, hsl5⟩ hF;have hsl5 := segF_snoc hbb hst hk1 hsl5;change Mem w w' [e9, none, some (b7, #[.string ((s.extract (st_) s.size))])] [] at hM;refine ag hF rfl rfl fun a hF => nt <| wp_ret <| fin1 rfl hF.defers (res_tmp hF rfl) ⟨_, rfl, hM.below, ?_⟩;rw [show nSg s c = k_ + 1 by unfold nSg; rw [hk1]];exact OwnSl.pos hM (k := 0) rfl hsl5 (by omega)
end Go.Proofs.Ytnedojhanlhjkaa

namespace Go.Proofs.Ytnedojhanlhjkaa
open Go Go.RowKit Go.Sw Go.Ech
open Classical
theorem inT_ext {s : ByteArray} {a b : Nat} (hb : b ≤ s.size) (ha : a = sta s 47 b) : ∀ j, j ≤ b - a → inT (s.extract a b) j = inR s (a + j) ∧ outT (s.extract a b) j = outR s (a + j)
  | 0, _ => by subst ha; exact ⟨(inR_sta b).symm, (outR_sta b).symm⟩
  | j + 1, h => by
    obtain ⟨h1, h2⟩ := inT_ext hb ha j (by omega)
    have hle := sta_le (s := s) (c := 47) b
    have hne : ¬ byt s (a + j) = 47 := sta_ne (j := b) (by omega) (by omega)
    refine ⟨?_, ?_⟩
    · rw [inT, h1, byt_ext hb (by omega), show a + (j + 1) = a + j + 1 by omega, inR_no hne]
    · rw [outT, h2, byt_ext hb (by omega), show a + (j + 1) = a + j + 1 by omega, outR_no hne]
section
variable {s : ByteArray}
theorem seg_size {k : Nat} (h : k < nSg s 47) : (seg s 47 k).size = sgB s 47 k - sta s 47 (sgB s 47 k) := by
  unfold seg; rw [ext_size (sgB_le h), sgA_sta h]
theorem seg_in {k : Nat} (h : k < nSg s 47) : inT (seg s 47 k) (seg s 47 k).size = inR s (sgB s 47 k) ∧ outT (seg s 47 k) (seg s 47 k).size = outR s (sgB s 47 k) := by
  rw [seg_size h];have := inT_ext (s := s) (sgB_le h) rfl (sgB s 47 k - sta s 47 (sgB s 47 k)) (Nat.le_refl _);have hle := sta_le (s := s) (c := 47) (sgB s 47 k);rw [show sta s 47 (sgB s 47 k) + (sgB s 47 k - sta s 47 (sgB s 47 k)) = sgB s 47 k by omega] at this
  unfold seg
  rw [sgA_sta h];exact this
theorem seg_pc {k : Nat} (h : k < nSg s 47) : pcT (seg s 47 k) ↔ ∀ i, sta s 47 (sgB s 47 k) ≤ i → i < sgB s 47 k → pcB (byt s i) = true := by
  unfold pcT
  rw [seg_size h];have e : ∀ j, j < sgB s 47 k - sta s 47 (sgB s 47 k) → byt (seg s 47 k) j = byt s (sta s 47 (sgB s 47 k) + j) := fun j hj => by
    unfold seg; rw [sgA_sta h]; exact byt_ext (sgB_le h) hj
  constructor
  · intro hp i h1 h2
    have := hp (i - sta s 47 (sgB s 47 k)) (by omega)
    rwa [e _ (by omega), show sta s 47 (sgB s 47 k) + (i - sta s 47 (sgB s 47 k)) = i by omega] at this
  · intro hp j hj
    rw [e j hj]; exact hp _ (by omega) (by omega)
theorem byte_in {i : Nat} (hi : i < s.size) (h : ¬ byt s i = 47) : cnt s 47 i < nSg s 47 ∧ sta s 47 (sgB s 47 (cnt s 47 i)) ≤ i ∧ i < sgB s 47 (cnt s 47 i) := by
  have hk : cnt s 47 i < nSg s 47 := by unfold nSg; have := cnt_mono (s := s) (c := 47) (i := i) (j := s.size) (by omega); omega
  have h1 := sgB_spec hk;have hlt : i < sgB s 47 (cnt s 47 i) := by
    refine Decidable.byContradiction fun hno => ?_
    rcases h1.1 with e | ⟨e, hb⟩
    · omega
    · have hm := cnt_mono (s := s) (c := 47) (show sgB s 47 (cnt s 47 i) + 1 ≤ i from by
        by_cases e2 : sgB s 47 (cnt s 47 i) = i
        · rw [e2] at hb; exact absurd hb h
        · omega)
      rw [cnt_yes hb, h1.2] at hm
      omega
  refine ⟨hk, ?_, hlt⟩;rw [← sgA_sta hk, sgA_cnt (by omega)];exact sta_le i
def lyOk (s : ByteArray) (k : Nat) : Prop := pcT (seg s 47 k) ∧ lyT (seg s 47 k) ∧ (0 < k → inR s (sgB s 47 k) = outR s (sgB s 47 (k - 1)))
theorem lyOk_lay {k : Nat} (h : k < nSg s 47) : lyT (seg s 47 k) ∧ (0 < k → inR s (sgB s 47 k) = outR s (sgB s 47 (k - 1))) ↔ layP s (sgB s 47 k) := by
  obtain ⟨h1, h2⟩ := seg_in h;have h3 := seg_size h;have h4 := (sgB_spec h).2;have h5 := cnt_pos (sgB_le h);rw [h4] at h5
  unfold lyT layP
  rw [h1, h2, h3, ← h5];have hle := sta_le (s := s) (c := 47) (sgB s 47 k)
  constructor
  · rintro ⟨⟨q1, q2, q3⟩, q4⟩
    exact ⟨by omega, q2, q3, fun q => by rw [q4 q]; have := prev_out (sgB_le h) (by rw [h4]; exact q); rw [h4] at this; rw [this]⟩
  · rintro ⟨q1, q2, q3, q4⟩
    exact ⟨⟨by omega, q2, q3⟩, fun q => by rw [q4 q]; have := prev_out (sgB_le h) (by rw [h4]; exact q); rw [h4] at this; rw [this]⟩
theorem word_ok (hW : WordP s) {k : Nat} (h : k < nSg s 47) : lyOk s k := by
  obtain ⟨h1, h2⟩ := (lyOk_lay h).2 (word_at hW h);refine ⟨(seg_pc h).2 fun i ha hb => ?_, h1, h2⟩;have hn := sgB_le h
  rcases hW.2.1 i (by omega) with e | e
  · exact absurd e (sta_ne ha hb)
  · exact e
theorem ok_word (h3 : s.size ≤ 300) (h : ∀ k, k < nSg s 47 → lyOk s k) : WordP s :=
  word_of h3 (fun i hi => by
    by_cases e : byt s i = 47
    · exact .inl e
    · obtain ⟨h1, h2, h4⟩ := byte_in hi e
      exact .inr ((seg_pc h1).1 (h _ h1).1 i h2 h4)) fun k hk => (lyOk_lay hk).1 ⟨(h k hk).2.1, (h k hk).2.2⟩
end

end Go.Proofs.Ytnedojhanlhjkaa

namespace Go.Proofs.Ytnedojhanlhjkaa
open Go Go.RowKit Go.Sw Go.Ech
open Classical
theorem ty_us_63 : Try.prog.underlying 63 = some (.slice 9) := by kernel_rfl
theorem ty_sl_63 : sliceOf Try.prog 63 = some 1 := by kernel_rfl
theorem l04Layers_E  (w : World)  :
    CallsR Try.prog 36 #[.string (⟨#[]⟩)] w (fun u w' => ∃ x, u = .tuple #[.slice x 0 0, .bool true]) := by
  refine calls_fr [.string (⟨#[]⟩)] Try.func36 rfl Try.ntmps36 rfl fun a hF => ?_;have hM : Mem w w [none, none] [] := MemX.start w 2;change Fr 46 a [(0, .string (⟨#[]⟩))] at hF;have he0 : (⟨#[]⟩ : ByteArray).size = 0 := rfl;refine sr <| ag hF rfl rfl fun a hF => ag hF rfl rfl fun a hF => nt <| sq <| sr <| mv hF rfl rfl fun a hF => st hF (g_eqlS hF rfl rfl) rfl fun a hF => nt <| c_cond hF rfl (fun h1 => ?_) (fun h1 => ?_)
  · refine sq ?_
    refine wp_region_lit <| stR hF (d_buildC 0 hM hF rfl ty_bs0_63) rfl ?_;rintro _ w' a ⟨b2, rfl, hM, -⟩ hF;change Mem w w' [some (b2, #[]), none] [] at hM;refine ag hF rfl rfl fun a hF => ag hF rfl rfl fun a hF => nt <| wp_ret <| tR <| fin2 rfl hF.defers (res_tmp hF rfl) (res_tmp hF rfl) ⟨_, rfl, hM.below, ?_⟩;exact ⟨_, rfl⟩
  exact absurd rfl h1
theorem l04Layers_N (s : ByteArray) (w : World) (hW : ¬ WordP s) (h0 : 0 < s.size) (hz : s.size < 10000000) :
    CallsR Try.prog 36 #[.string (s)] w (fun u w' => ∃ l, u = .tuple #[l, .bool false]) := by
  refine calls_fr [.string (s)] Try.func36 rfl Try.ntmps36 rfl fun a hF => ?_;have hM : Mem w w [none, none] [] := MemX.start w 2;change Fr 46 a [(0, .string (s))] at hF;have hns : nSg s 47 = cnt s 47 s.size + 1 := rfl;have hcl := cnt_le (s := s) (c := 47) s.size;refine sr <| ag hF rfl rfl fun a hF => ag hF rfl rfl fun a hF => nt <| sq <| sr <| mv hF rfl rfl fun a hF => st hF (g_eqlS hF rfl rfl) rfl fun a hF => nt <| c_cond hF rfl (fun h1 => ?_) (fun h1 => ?_)
  · exact absurd (str_iff.1 h1) (by omega)
  refine wp_skip <| tN <| sr <| mv hF rfl rfl fun a hF => stR hF (d_call Try.call55 hF (.cons rfl (.cons rfl .nil)) (l01Split_ok s (47) _ (by omega) (by omega))) rfl ?_;rintro u w' a ⟨hx, bW, cW, csW, hsW, hgW, hbW⟩ hF;obtain rfl := hsW.val;have hM := hM.fill hx 1 hbW hgW;refine ag hF rfl rfl fun a hF => ag hF rfl rfl fun a hF => nt <| sq <| sr <| ag hF rfl rfl fun a hF => nt <| wp_block ?_;change Mem w _ [none, some (bW, csW)] [] at hM;refine c_loop (fun (kk : Nat) a w' => kk ≤ nSg s 47 ∧ ∃ (lg_ : Nat), ((0 < kk → lg_ = outR s (sgB s 47 (kk - 1))) ∧ ∀ k, k < kk → lyOk s k) ∧ Fr 46 a [(0, .string (s)), (11, .bool (decide ((s : ByteArray).toList = (⟨#[]⟩ : ByteArray).toList))), (4, .slice (some ⟨bW, 0, none⟩) (nSg s 47) (cW)), (6, .int .i64 (kk : Int)), (5, .int .i64 (lg_ : Int))] ∧ Mem w w' [none, some (bW, csW)] []) (fun kk => nSg s 47 - kk) 0 ?_ ?_
  · refine ⟨by omega, 0, ⟨fun q => absurd q (by omega), fun k hk => absurd hk (by omega)⟩, hF.sub _ (by repeat' constructor), ?_⟩
    exact hM
  clear hF hM;rintro gi a w' ⟨hgi, lg_, ⟨hlg, hoks⟩, hF, hM⟩;refine sq <| sr <| mv hF rfl rfl fun a hF => mv hF rfl rfl fun a hF => st hF (g_len ty_us_63 hF rfl) rfl fun a hF => st hF (g_lss hF rfl rfl) rfl fun a hF => nt <| c_cond hF rfl (fun h2 => ?_) (fun h2 => ?_)
  · refine wp_skip ?_
    refine tN <| sq <| wp_block <| sr <| mv hF rfl rfl fun a hF => mv hF rfl rfl fun a hF => st hF (g_indexSl (i := gi) ty_sl_63 hF rfl rfl rfl (by omega)) rfl fun a hF => st hF (g_load ty_on_9 hF rfl (hM.row 1 rfl) (hsW.get1 (gi) (by omega))) rfl fun a hF => ?_
    by_cases hp : pcT (seg s 47 (gi))
    · obtain ⟨hsi, hso⟩ := seg_in (s := s) (k := (gi)) (by omega)
      have hsz9 := seg_size (s := s) (k := (gi)) (by omega);have hsl9 := sgB_le (s := s) (c := 47) (k := (gi)) (by omega);refine stR hF (d_call Try.call56 hF (.cons rfl .nil) (CallsR.val (l04Layer_P (seg s 47 (gi)) _ (by omega) hp) (show _ = Value.tuple #[.int .i64 (inR s (sgB s 47 (gi)) : Int), .int .i64 (outR s (sgB s 47 (gi)) : Int), .bool (decide (lyT (seg s 47 (gi))))] from by rw [hsi, hso]))) rfl ?_;rintro _ w' a ⟨hx, rfl⟩ hF;have hM := hM.ext hx;refine mv hF rfl rfl fun a hF => st hF (g_extract hF rfl rfl) rfl fun a hF => st hF (g_extract hF rfl rfl) rfl fun a hF => st hF (g_extract hF rfl rfl) rfl fun a hF => ag hF rfl rfl fun a hF => ag hF rfl rfl fun a hF => ag hF rfl rfl fun a hF => nt <| sq <| sr <| mv hF rfl rfl fun a hF => st hF (g_notP hF rfl) rfl fun a hF => mv hF rfl rfl fun a hF => ?_
      by_cases g3 : ¬ (lyT (seg s 47 (gi)))
      · first | rw [decide_eq_true g3] at hF | simp only [decide_eq_true g3] at hF
        refine stS hF rfl rfl rfl rfl rfl fun a hF => stS hF rfl rfl rfl rfl rfl fun a hF => stS hF rfl rfl rfl rfl rfl fun a hF => stU hF rfl rfl rfl rfl fun a hF => stU hF rfl rfl rfl rfl fun a hF => stU hF rfl rfl rfl rfl fun a hF => stS hF rfl rfl rfl rfl rfl fun a hF => st hF (g_pickT hF rfl rfl) rfl fun a hF => nt <| c_T hF rfl <| sr <| ag hF rfl rfl fun a hF => ag hF rfl rfl fun a hF => nt <| wp_ret <| tR <| iR <| tR <| tR <| iR <| tR <| fin2 rfl hF.defers (res_tmp hF rfl) (res_tmp hF rfl) ⟨_, rfl, hM.below, ?_⟩
        first | exact ⟨_, rfl⟩ | exact ⟨_, congrArg (fun b => Value.tuple #[_, .bool b]) (decide_eq_false (fun e => hW (ok_word (by omega) hoks)))⟩
      first | rw [decide_eq_false g3] at hF | simp only [decide_eq_false g3] at hF
      refine stY hF rfl rfl rfl (g_move hF rfl) rfl fun a hF => stY hF rfl rfl rfl (g_gtr hF rfl rfl) rfl fun a hF => stY hF rfl rfl rfl (g_move hF rfl) rfl fun a hF => ?_
      by_cases g5 : 0 < ((gi : Int) : Int)
      · first | rw [decide_eq_true g5] at hF | simp only [decide_eq_true g5] at hF
        have hlg1 := hlg (by omega);refine stY hF rfl rfl rfl (g_move hF rfl) rfl fun a hF => stY hF rfl rfl rfl (g_move hF rfl) rfl fun a hF => stY hF rfl rfl rfl (g_neq hF rfl rfl) rfl fun a hF => stY hF rfl rfl rfl (g_pickT hF rfl rfl) rfl fun a hF => st hF (g_pickF hF rfl rfl) rfl fun a hF => nt <| c_cond hF rfl (fun h6 => ?_) (fun h6 => ?_)
        · refine sq ?_
          refine wp_region_lit <| ag hF rfl rfl fun a hF => ag hF rfl rfl fun a hF => nt <| wp_ret <| tR <| iR <| tR <| tR <| iR <| tR <| fin2 rfl hF.defers (res_tmp hF rfl) (res_tmp hF rfl) ⟨_, rfl, hM.below, ?_⟩
          first | exact ⟨_, rfl⟩ | exact ⟨_, congrArg (fun b => Value.tuple #[_, .bool b]) (decide_eq_false (fun e => hW (ok_word (by omega) hoks)))⟩
        have hok : lyOk s gi := ⟨hp, by first | assumption | exact Decidable.not_not.1 (by assumption), fun q => by have := hlg q; omega⟩;refine wp_skip <| tN <| wp_region_lit <| mv hF rfl rfl fun a hF => ag hF rfl rfl fun a hF => wpList_nil <| iN <| tN <| wp_region_lit <| mv hF rfl rfl fun a hF => st hF (g_add hF rfl rfl (add_nat (gi) (1) (by omega))) rfl fun a hF => ag hF rfl rfl fun a hF => nt <| ⟨gi + 1, ⟨by omega, outR s (sgB s 47 (gi)), ⟨fun _ => by rw [Nat.add_sub_cancel], fun k hk => by by_cases e : k = gi; (rw [e]; first | exact hok | exact ⟨hp, by first | assumption | exact Decidable.not_not.1 (by assumption), fun q => absurd q (by omega)⟩); (exact hoks k (by omega))⟩, hF.sub _ (by repeat' constructor), ?_⟩, by omega⟩;exact hM
      first | rw [decide_eq_false g5] at hF | simp only [decide_eq_false g5] at hF
      refine stS hF rfl rfl rfl rfl rfl fun a hF => stS hF rfl rfl rfl rfl rfl fun a hF => stS hF rfl rfl rfl rfl rfl fun a hF => stY hF rfl rfl rfl (g_pickF hF rfl rfl) rfl fun a hF => st hF (g_pickF hF rfl rfl) rfl fun a hF => nt <| c_Fl hF rfl <| wp_skip <| tN <| wp_region_lit <| mv hF rfl rfl fun a hF => ag hF rfl rfl fun a hF => wpList_nil <| iN <| tN <| wp_region_lit <| mv hF rfl rfl fun a hF => st hF (g_add hF rfl rfl (add_nat (gi) (1) (by omega))) rfl fun a hF => ag hF rfl rfl fun a hF => nt <| ⟨gi + 1, ⟨by omega, outR s (sgB s 47 (gi)), ⟨fun _ => by rw [Nat.add_sub_cancel], fun k hk => by by_cases e : k = gi; (rw [e]; first | exact hok | exact ⟨hp, by first | assumption | exact Decidable.not_not.1 (by assumption), fun q => absurd q (by omega)⟩); (exact hoks k (by omega))⟩, hF.sub _ (by repeat' constructor), ?_⟩, by omega⟩;exact hM
    have hsz9 := seg_size (s := s) (k := (gi)) (by omega);have hsl9 := sgB_le (s := s) (c := 47) (k := (gi)) (by omega);refine stR hF (d_call Try.call56 hF (.cons rfl .nil) (l04Layer_G (seg s 47 (gi)) _ (by omega) hp)) rfl ?_;rintro _ w' a ⟨hx, rfl⟩ hF;have hM := hM.ext hx;refine mv hF rfl rfl fun a hF => st hF (g_extract hF rfl rfl) rfl fun a hF => st hF (g_extract hF rfl rfl) rfl fun a hF => st hF (g_extract hF rfl rfl) rfl fun a hF => ag hF rfl rfl fun a hF => ag hF rfl rfl fun a hF => ag hF rfl rfl fun a hF => nt <| sq <| sr <| mv hF rfl rfl fun a hF => st hF (g_not (b := false) hF rfl) rfl fun a hF => mv hF rfl rfl fun a hF => stS hF rfl rfl rfl rfl rfl fun a hF => stS hF rfl rfl rfl rfl rfl fun a hF => stS hF rfl rfl rfl rfl rfl fun a hF => stU hF rfl rfl rfl rfl fun a hF => stU hF rfl rfl rfl rfl fun a hF => stU hF rfl rfl rfl rfl fun a hF => stS hF rfl rfl rfl rfl rfl fun a hF => st hF (g_pickT hF rfl rfl) rfl fun a hF => nt <| c_T hF rfl <| sr <| ag hF rfl rfl fun a hF => ag hF rfl rfl fun a hF => nt <| wp_ret <| tR <| iR <| tR <| tR <| iR <| tR <| fin2 rfl hF.defers (res_tmp hF rfl) (res_tmp hF rfl) ⟨_, rfl, hM.below, ?_⟩
    first | exact ⟨_, rfl⟩ | exact ⟨_, congrArg (fun b => Value.tuple #[_, .bool b]) (decide_eq_false (fun e => hW (ok_word (by omega) hoks)))⟩
  obtain rfl : nSg s 47 = gi := by omega
  refine wp_exit <| tX <| tX <| ib_same <| tN <| sr <| mv hF rfl rfl fun a hF => mv hF rfl rfl fun a hF => st hF (g_lenS ty_ut_9 hF rfl) rfl fun a hF => st hF (g_leq hF rfl rfl) rfl fun a hF => ag hF rfl rfl fun a hF => ag hF rfl rfl fun a hF => nt <| wp_ret <| fin2 rfl hF.defers (res_tmp hF rfl) (res_tmp hF rfl) ⟨_, rfl, hM.below, ?_⟩
  first | exact ⟨_, rfl⟩ | exact ⟨_, congrArg (fun b => Value.tuple #[_, .bool b]) (decide_eq_false (fun e => hW (ok_word (by omega) hoks)))⟩
theorem l04Layers_Y (s : ByteArray) (w : World) (hW : WordP s) (h0 : 0 < s.size) :
    CallsR Try.prog 36 #[.string (s)] w (fun u w' => ∃ l, u = .tuple #[l, .bool true] ∧ OwnSl 1 w (nSg s 47) (segF s 47) l w') := by
  refine calls_fr [.string (s)] Try.func36 rfl Try.ntmps36 rfl fun a hF => ?_;have hM : Mem w w [none, none] [] := MemX.start w 2;change Fr 46 a [(0, .string (s))] at hF;have h3 := hW.1;have hns : nSg s 47 = cnt s 47 s.size + 1 := rfl;have hcl := cnt_le (s := s) (c := 47) s.size;refine sr <| ag hF rfl rfl fun a hF => ag hF rfl rfl fun a hF => nt <| sq <| sr <| mv hF rfl rfl fun a hF => st hF (g_eqlS hF rfl rfl) rfl fun a hF => nt <| c_cond hF rfl (fun h1 => ?_) (fun h1 => ?_)
  · exact absurd (str_iff.1 h1) (by omega)
  refine wp_skip <| tN <| sr <| mv hF rfl rfl fun a hF => stR hF (d_call Try.call55 hF (.cons rfl (.cons rfl .nil)) (l01Split_ok s (47) _ (by omega) (by omega))) rfl ?_;rintro u w' a ⟨hx, bW, cW, csW, hsW, hgW, hbW⟩ hF;obtain rfl := hsW.val;have hM := hM.fill hx 1 hbW hgW;refine ag hF rfl rfl fun a hF => ag hF rfl rfl fun a hF => nt <| sq <| sr <| ag hF rfl rfl fun a hF => nt <| wp_block ?_;change Mem w _ [none, some (bW, csW)] [] at hM;refine c_loop (fun (kk : Nat) a w' => kk ≤ nSg s 47 ∧ ∃ (lg_ : Nat), ((0 < kk → lg_ = outR s (sgB s 47 (kk - 1)))) ∧ Fr 46 a [(0, .string (s)), (11, .bool (decide ((s : ByteArray).toList = (⟨#[]⟩ : ByteArray).toList))), (4, .slice (some ⟨bW, 0, none⟩) (nSg s 47) (cW)), (6, .int .i64 (kk : Int)), (5, .int .i64 (lg_ : Int))] ∧ Mem w w' [none, some (bW, csW)] []) (fun kk => nSg s 47 - kk) 0 ?_ ?_
  · refine ⟨by omega, 0, fun q => absurd q (by omega), hF.sub _ (by repeat' constructor), ?_⟩
    exact hM
  clear hF hM;rintro gi a w' ⟨hgi, lg_, hlg, hF, hM⟩;have hlg2 : gi < nSg s 47 → 0 < gi → inR s (sgB s 47 gi) = lg_ := fun q1 q2 => by rw [hlg q2]; exact (word_ok hW q1).2.2 q2
  refine sq <| sr <| mv hF rfl rfl fun a hF => mv hF rfl rfl fun a hF => st hF (g_len ty_us_63 hF rfl) rfl fun a hF => st hF (g_lss hF rfl rfl) rfl fun a hF => nt <| c_cond hF rfl (fun h2 => ?_) (fun h2 => ?_)
  · refine wp_skip ?_
    refine tN <| sq <| wp_block <| sr <| mv hF rfl rfl fun a hF => mv hF rfl rfl fun a hF => st hF (g_indexSl (i := gi) ty_sl_63 hF rfl rfl rfl (by omega)) rfl fun a hF => st hF (g_load ty_on_9 hF rfl (hM.row 1 rfl) (hsW.get1 (gi) (by omega))) rfl fun a hF => ?_;have hok := word_ok hW (k := (gi)) (by omega);obtain ⟨hsi, hso⟩ := seg_in (s := s) (k := (gi)) (by omega);have hsz9 := seg_size (s := s) (k := (gi)) (by omega);have hsl9 := sgB_le (s := s) (c := 47) (k := (gi)) (by omega);refine stR hF (d_call Try.call56 hF (.cons rfl .nil) (CallsR.val (l04Layer_P (seg s 47 (gi)) _ (by omega) hok.1) (show _ = Value.tuple #[.int .i64 (inR s (sgB s 47 (gi)) : Int), .int .i64 (outR s (sgB s 47 (gi)) : Int), .bool (decide (lyT (seg s 47 (gi))))] from by rw [hsi, hso]))) rfl ?_;rintro _ w' a ⟨hx, rfl⟩ hF;have hM := hM.ext hx;refine mv hF rfl rfl fun a hF => st hF (g_extract hF rfl rfl) rfl fun a hF => st hF (g_extract hF rfl rfl) rfl fun a hF => st hF (g_extract hF rfl rfl) rfl fun a hF => ag hF rfl rfl fun a hF => ag hF rfl rfl fun a hF => ag hF rfl rfl fun a hF => nt <| sq <| sr <| mv hF rfl rfl fun a hF => st hF (g_notP hF rfl) rfl fun a hF => mv hF rfl rfl fun a hF => ?_
    by_cases g3 : ¬ (lyT (seg s 47 (gi)))
    · first | rw [decide_eq_true g3] at hF | simp only [decide_eq_true g3] at hF
      exact absurd hok.2.1 g3
    first | rw [decide_eq_false g3] at hF | simp only [decide_eq_false g3] at hF
    refine stY hF rfl rfl rfl (g_move hF rfl) rfl fun a hF => stY hF rfl rfl rfl (g_gtr hF rfl rfl) rfl fun a hF => stY hF rfl rfl rfl (g_move hF rfl) rfl fun a hF => ?_
    by_cases g4 : 0 < ((gi : Int) : Int)
    · first | rw [decide_eq_true g4] at hF | simp only [decide_eq_true g4] at hF
      have hlg1 := hlg (by omega);refine stY hF rfl rfl rfl (g_move hF rfl) rfl fun a hF => stY hF rfl rfl rfl (g_move hF rfl) rfl fun a hF => stY hF rfl rfl rfl (g_neq hF rfl rfl) rfl fun a hF => stY hF rfl rfl rfl (g_pickT hF rfl rfl) rfl fun a hF => st hF (g_pickF hF rfl rfl) rfl fun a hF => nt <| c_cond hF rfl (fun h5 => ?_) (fun h5 => ?_)
      · first | (exfalso; omega) | exact absurd hok.2.1 (by assumption)
      refine wp_skip <| tN <| wp_region_lit <| mv hF rfl rfl fun a hF => ag hF rfl rfl fun a hF => wpList_nil <| iN <| tN <| wp_region_lit <| mv hF rfl rfl fun a hF => st hF (g_add hF rfl rfl (add_nat (gi) (1) (by omega))) rfl fun a hF => ag hF rfl rfl fun a hF => nt <| ⟨gi + 1, ⟨by omega, outR s (sgB s 47 (gi)), fun _ => by rw [Nat.add_sub_cancel], hF.sub _ (by repeat' constructor), ?_⟩, by omega⟩;exact hM
    first | rw [decide_eq_false g4] at hF | simp only [decide_eq_false g4] at hF
    refine stS hF rfl rfl rfl rfl rfl fun a hF => stS hF rfl rfl rfl rfl rfl fun a hF => stS hF rfl rfl rfl rfl rfl fun a hF => stY hF rfl rfl rfl (g_pickF hF rfl rfl) rfl fun a hF => st hF (g_pickF hF rfl rfl) rfl fun a hF => nt <| c_Fl hF rfl <| wp_skip <| tN <| wp_region_lit <| mv hF rfl rfl fun a hF => ag hF rfl rfl fun a hF => wpList_nil <| iN <| tN <| wp_region_lit <| mv hF rfl rfl fun a hF => st hF (g_add hF rfl rfl (add_nat (gi) (1) (by omega))) rfl fun a hF => ag hF rfl rfl fun a hF => nt <| ⟨gi + 1, ⟨by omega, outR s (sgB s 47 (gi)), fun _ => by rw [Nat.add_sub_cancel], hF.sub _ (by repeat' constructor), ?_⟩, by omega⟩;exact hM
  obtain rfl : nSg s 47 = gi := by omega
  refine wp_exit <| tX <| tX <| ib_same <| tN <| sr <| mv hF rfl rfl fun a hF => mv hF rfl rfl fun a hF => st hF (g_lenS ty_ut_9 hF rfl) rfl fun a hF => st hF (g_leq hF rfl rfl) rfl fun a hF => ag hF rfl rfl fun a hF => ag hF rfl rfl fun a hF => nt <| wp_ret <| fin2 rfl hF.defers (res_tmp hF rfl) (res_tmp hF rfl) ⟨_, rfl, hM.below, ?_⟩;exact ⟨_, congrArg (fun b => Value.tuple #[_, .bool b]) (decide_eq_true (by omega)), _, _, _, hsW, hM.ge 1 rfl, hM.row 1 rfl⟩
end Go.Proofs.Ytnedojhanlhjkaa
