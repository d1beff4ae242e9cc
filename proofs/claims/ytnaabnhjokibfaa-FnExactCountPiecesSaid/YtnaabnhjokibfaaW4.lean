/- What functions of the program return, as walks over their operations; no statement of the seat is proved here. -/
import Derived.Test.YtnaabnhjokibfaaW3
set_option linter.unusedVariables false
set_option linter.unusedSimpArgs false
namespace Go.Proofs.Ytnaabnhjokibfaa
open Go Go.RowKit Go.Sw
open Classical
theorem ty_bs0_59 : ∀ w, (Instr.buildSlice 59 0 #[]).run Try.prog w = .ok (.slice (some ⟨w.heap.size, 0, none⟩) 0 0) (w.alloc (.cells #[] 9)) := by intros; kernel_rfl
theorem ty_bst_59 : ∀ (t : ByteArray) (w : World), (Instr.buildSlice 59 1 #[(0, .string t)]).run Try.prog w = .ok (.slice (some ⟨w.heap.size, 0, none⟩) 1 1) (w.alloc (.cells #[.string t] 9)) := by intros; kernel_rfl
theorem ty_si_59 : slI Try.prog 59 = some (9, some (.string ByteArray.empty), 1, 16) := by kernel_rfl
/-- Sums over a text's bytes. -/
def inT (t : ByteArray) : Nat → Nat
  | 0 => 0
  | i + 1 => inT t i + inL (byt t i)
def outT (t : ByteArray) : Nat → Nat
  | 0 => 0
  | i + 1 => outT t i + outL (byt t i)
theorem inT_le {t : ByteArray} : ∀ i : Nat, inT t i ≤ 2 * i
  | 0 => Nat.le_refl _
  | i + 1 => by have := inT_le (t := t) i; have := inL_le (c := byt t i); rw [inT]; omega
theorem outT_le {t : ByteArray} : ∀ i : Nat, outT t i ≤ 2 * i
  | 0 => Nat.le_refl _
  | i + 1 => by have := outT_le (t := t) i; have := outL_le (c := byt t i); rw [outT]; omega
def pcT (t : ByteArray) : Prop := ∀ i, i < t.size → pcB (byt t i) = true
def lyT (t : ByteArray) : Prop := 0 < t.size ∧ inT t t.size ≤ 6 ∧ outT t t.size ≤ 6
instance (t : ByteArray) : Decidable (lyT t) := by unfold lyT; infer_instance

theorem l04Layer_P (t : ByteArray) (w : World) (hz : t.size < 10000000) (hp : pcT t) :
    CallsR Try.prog 55 #[.string (t)] w (fun res _ => res = .tuple #[.int .i64 ((inT t t.size : Nat) : Int), .int .i64 ((outT t t.size : Nat) : Int), .bool (decide (lyT t))]) := by
  refine calls_fr [.string (t)] Try.func55 rfl Try.ntmps55 rfl fun a hF => ?_
  have hM : Mem w w [] [] := MemX.start w 0
  change Fr 46 a [(0, .string (t))] at hF
  have hi9 := inT_le (t := t) t.size
  have ho9 := outT_le (t := t) t.size
  refine sq ?_
  refine wp_region_lit ?_
  refine st hF (g_assign hF rfl) rfl fun a hF => st hF (g_assign hF rfl) rfl fun a hF => st hF (g_assign hF rfl) rfl fun a hF => ?_
  refine wpList_nil ?_
  refine tN ?_
  refine sq ?_
  refine wp_region_lit ?_
  refine st hF (g_assign hF rfl) rfl fun a hF => st hF (g_assign hF rfl) rfl fun a hF => ?_
  refine wpList_nil ?_
  refine tN ?_
  refine sq ?_
  refine sq ?_
  refine wp_region_lit ?_
  refine st hF (g_assign hF rfl) rfl fun a hF => ?_
  refine wpList_nil ?_
  refine tN ?_
  refine wp_block ?_
  change Mem w _ [] [] at hM
  refine c_loop (fun (kk : Nat) a w' => kk ≤ t.size ∧ (True) ∧ Fr 46 a [(0, .string (t)), (7, .int .i64 (((kk : Nat) : Int))), (5, .int .i64 (((inT t kk : Nat) : Int))), (6, .int .i64 (((outT t kk : Nat) : Int)))] ∧ Mem w w' [] []) (fun kk => t.size - kk) 0 ?_ ?_
  ·
    refine ⟨by omega, trivial, hF.sub _ (by repeat' constructor), ?_⟩
    exact hM
  ·
    clear hF hM
    rintro gi a w' ⟨hgi, hinv1, hF, hM⟩
    have hi1 := inT_le (t := t) gi
    have ho1 := outT_le (t := t) gi
    have hi2 := inL_le (c := byt t gi)
    have ho2 := outL_le (c := byt t gi)
    refine sq ?_
    refine sq ?_
    refine wp_region_lit ?_
    refine st hF (g_move hF rfl) rfl fun a hF => st hF (g_move hF rfl) rfl fun a hF => st hF (g_lenS ty_ut_9 hF rfl) rfl fun a hF => st hF (g_lss hF rfl rfl) rfl fun a hF => ?_
    refine wpList_nil ?_
    refine tN ?_
    refine c_cond hF rfl (fun h1 => ?_) (fun h1 => ?_)
    ·
      refine wp_skip ?_
      refine tN ?_
      refine sq ?_
      refine wp_block ?_
      refine sq ?_
      refine wp_region_lit ?_
      refine st hF (g_move hF rfl) rfl fun a hF => st hF (g_move hF rfl) rfl fun a hF => st hF (g_indexS (i := gi) ty_ut_9 hF rfl rfl rfl (by omega)) rfl fun a hF => ?_
      refine stR hF (d_call Try.call68 hF (.cons rfl .nil) (l04Legs_ok (byt t (gi)) _ (by first | exact byt_lt | omega))) rfl ?_
      rintro _ w' a ⟨hx, rfl⟩ hF
      have hM := hM.ext hx
      refine st hF (g_move hF rfl) rfl fun a hF => st hF (g_extract hF rfl rfl) rfl fun a hF => st hF (g_extract hF rfl rfl) rfl fun a hF => st hF (g_extract hF rfl rfl) rfl fun a hF => st hF (g_assign hF rfl) rfl fun a hF => st hF (g_assign hF rfl) rfl fun a hF => st hF (g_assign hF rfl) rfl fun a hF => ?_
      refine wpList_nil ?_
      refine tN ?_
      refine sq ?_
      refine sq ?_
      refine wp_region_lit ?_
      refine st hF (g_move hF rfl) rfl fun a hF => st hF (g_not hF rfl) rfl fun a hF => ?_
      refine wpList_nil ?_
      refine tN ?_
      refine c_condB hF rfl (fun h2 => ?_) (fun h2 => ?_)
      ·
        rw [hp gi (by omega)] at h2; cases h2
      ·
        refine wp_skip ?_
        refine tN ?_
        refine sq ?_
        refine wp_region_lit ?_
        refine st hF (g_move hF rfl) rfl fun a hF => st hF (g_move hF rfl) rfl fun a hF => st hF (g_add hF rfl rfl (add_nat (inT t gi) (inL (byt t (gi))) (by omega))) rfl fun a hF => st hF (g_assign hF rfl) rfl fun a hF => ?_
        refine wpList_nil ?_
        refine tN ?_
        refine wp_region_lit ?_
        refine st hF (g_move hF rfl) rfl fun a hF => st hF (g_move hF rfl) rfl fun a hF => st hF (g_add hF rfl rfl (add_nat (outT t gi) (outL (byt t (gi))) (by omega))) rfl fun a hF => st hF (g_assign hF rfl) rfl fun a hF => ?_
        refine wpList_nil ?_
        refine iN ?_
        refine tN ?_
        refine wp_region_lit ?_
        refine st hF (g_move hF rfl) rfl fun a hF => st hF (g_add hF rfl rfl (add_nat (gi) (1) (by omega))) rfl fun a hF => st hF (g_assign hF rfl) rfl fun a hF => ?_
        refine wpList_nil ?_
        refine tN ?_
        rw [show inT t gi + inL (byt t (gi)) = inT t (gi + 1) from rfl, show outT t gi + outL (byt t (gi)) = outT t (gi + 1) from rfl] at hF
        refine ⟨gi + 1, ⟨by omega, trivial, hF.sub _ (by repeat' constructor), ?_⟩, by omega⟩
        exact hM
    ·
      obtain rfl : t.size = gi := by omega
      refine wp_exit ?_
      refine tX ?_
      refine tX ?_
      refine ib_same ?_
      refine tN ?_
      refine sq ?_
      refine wp_region_lit ?_
      refine st hF (g_move hF rfl) rfl fun a hF => st hF (g_move hF rfl) rfl fun a hF => st hF (g_move hF rfl) rfl fun a hF => st hF (g_lenS ty_ut_9 hF rfl) rfl fun a hF => st hF (g_gtr hF rfl rfl) rfl fun a hF => st hF (g_move hF rfl) rfl fun a hF => ?_
      by_cases g3 : 0 < (((t.size : Nat) : Int) : Int)
      ·
        first | rw [decide_eq_true g3] at hF | simp only [decide_eq_true g3] at hF
        refine stY hF rfl rfl rfl (g_move hF rfl) rfl fun a hF => stY hF rfl rfl rfl (g_leq hF rfl rfl) rfl fun a hF => st hF (g_pickT hF rfl rfl) rfl fun a hF => st hF (g_move hF rfl) rfl fun a hF => ?_
        by_cases g4 : (((inT t (t.size) : Nat) : Int) : Int) ≤ 6
        ·
          first | rw [decide_eq_true g4] at hF | simp only [decide_eq_true g4] at hF
          refine stY hF rfl rfl rfl (g_move hF rfl) rfl fun a hF => stY hF rfl rfl rfl (g_leq hF rfl rfl) rfl fun a hF => st hF (g_pickT hF rfl rfl) rfl fun a hF => st hF (g_assign hF rfl) rfl fun a hF => st hF (g_assign hF rfl) rfl fun a hF => st hF (g_assign hF rfl) rfl fun a hF => ?_
          refine wpList_nil ?_
          refine tN ?_
          refine wp_ret ?_
          refine fin3 rfl hF.defers (res_tmp hF rfl) (res_tmp hF rfl) (res_tmp hF rfl) ⟨_, rfl, hM.below, ?_⟩
          show _ = _
          first | exact congrArg (fun b => Value.tuple #[.int .i64 ((inT t t.size : Nat) : Int), .int .i64 ((outT t t.size : Nat) : Int), .bool b]) (decide_eq_false (by unfold lyT; omega)).symm | exact congrArg (fun b => Value.tuple #[.int .i64 ((inT t t.size : Nat) : Int), .int .i64 ((outT t t.size : Nat) : Int), .bool b]) (decide_eq_true (by unfold lyT; omega)).symm | exact congrArg (fun b => Value.tuple #[.int .i64 ((inT t t.size : Nat) : Int), .int .i64 ((outT t t.size : Nat) : Int), .bool b]) (decide_eq_decide.2 (by unfold lyT; omega))
        ·
          first | rw [decide_eq_false g4] at hF | simp only [decide_eq_false g4] at hF
          refine stS hF rfl rfl rfl rfl rfl fun a hF => stS hF rfl rfl rfl rfl rfl fun a hF => st hF (g_pickF hF rfl rfl) rfl fun a hF => st hF (g_assign hF rfl) rfl fun a hF => st hF (g_assign hF rfl) rfl fun a hF => st hF (g_assign hF rfl) rfl fun a hF => ?_
          refine wpList_nil ?_
          refine tN ?_
          refine wp_ret ?_
          refine fin3 rfl hF.defers (res_tmp hF rfl) (res_tmp hF rfl) (res_tmp hF rfl) ⟨_, rfl, hM.below, ?_⟩
          show _ = _
          first | exact congrArg (fun b => Value.tuple #[.int .i64 ((inT t t.size : Nat) : Int), .int .i64 ((outT t t.size : Nat) : Int), .bool b]) (decide_eq_false (by unfold lyT; omega)).symm | exact congrArg (fun b => Value.tuple #[.int .i64 ((inT t t.size : Nat) : Int), .int .i64 ((outT t t.size : Nat) : Int), .bool b]) (decide_eq_true (by unfold lyT; omega)).symm | exact congrArg (fun b => Value.tuple #[.int .i64 ((inT t t.size : Nat) : Int), .int .i64 ((outT t t.size : Nat) : Int), .bool b]) (decide_eq_decide.2 (by unfold lyT; omega))
      ·
        first | rw [decide_eq_false g3] at hF | simp only [decide_eq_false g3] at hF
        refine stS hF rfl rfl rfl rfl rfl fun a hF => stS hF rfl rfl rfl rfl rfl fun a hF => st hF (g_pickF hF rfl rfl) rfl fun a hF => st hF (g_move hF rfl) rfl fun a hF => stS hF rfl rfl rfl rfl rfl fun a hF => stS hF rfl rfl rfl rfl rfl fun a hF => st hF (g_pickF hF rfl rfl) rfl fun a hF => st hF (g_assign hF rfl) rfl fun a hF => st hF (g_assign hF rfl) rfl fun a hF => st hF (g_assign hF rfl) rfl fun a hF => ?_
        refine wpList_nil ?_
        refine tN ?_
        refine wp_ret ?_
        refine fin3 rfl hF.defers (res_tmp hF rfl) (res_tmp hF rfl) (res_tmp hF rfl) ⟨_, rfl, hM.below, ?_⟩
        show _ = _
        first | exact congrArg (fun b => Value.tuple #[.int .i64 ((inT t t.size : Nat) : Int), .int .i64 ((outT t t.size : Nat) : Int), .bool b]) (decide_eq_false (by unfold lyT; omega)).symm | exact congrArg (fun b => Value.tuple #[.int .i64 ((inT t t.size : Nat) : Int), .int .i64 ((outT t t.size : Nat) : Int), .bool b]) (decide_eq_true (by unfold lyT; omega)).symm | exact congrArg (fun b => Value.tuple #[.int .i64 ((inT t t.size : Nat) : Int), .int .i64 ((outT t t.size : Nat) : Int), .bool b]) (decide_eq_decide.2 (by unfold lyT; omega))

theorem l04Layer_G (t : ByteArray) (w : World) (hz : t.size < 10000000) (hp : ¬ pcT t) :
    CallsR Try.prog 55 #[.string (t)] w (fun res _ => res = .tuple #[.int .i64 0, .int .i64 0, .bool false]) := by
  refine calls_fr [.string (t)] Try.func55 rfl Try.ntmps55 rfl fun a hF => ?_
  have hM : Mem w w [] [] := MemX.start w 0
  change Fr 46 a [(0, .string (t))] at hF
  refine sq ?_
  refine wp_region_lit ?_
  refine st hF (g_assign hF rfl) rfl fun a hF => st hF (g_assign hF rfl) rfl fun a hF => st hF (g_assign hF rfl) rfl fun a hF => ?_
  refine wpList_nil ?_
  refine tN ?_
  refine sq ?_
  refine wp_region_lit ?_
  refine st hF (g_assign hF rfl) rfl fun a hF => st hF (g_assign hF rfl) rfl fun a hF => ?_
  refine wpList_nil ?_
  refine tN ?_
  refine sq ?_
  refine sq ?_
  refine wp_region_lit ?_
  refine st hF (g_assign hF rfl) rfl fun a hF => ?_
  refine wpList_nil ?_
  refine tN ?_
  refine wp_block ?_
  change Mem w _ [] [] at hM
  refine c_loop (fun (kk : Nat) a w' => kk ≤ t.size ∧ (∀ i, i < kk → pcB (byt t i) = true) ∧ Fr 46 a [(0, .string (t)), (7, .int .i64 (((kk : Nat) : Int))), (5, .int .i64 (((inT t kk : Nat) : Int))), (6, .int .i64 (((outT t kk : Nat) : Int)))] ∧ Mem w w' [] []) (fun kk => t.size - kk) 0 ?_ ?_
  ·
    refine ⟨by omega, fun i hi => absurd hi (by omega), hF.sub _ (by repeat' constructor), ?_⟩
    exact hM
  ·
    clear hF hM
    rintro gi a w' ⟨hgi, hinv1, hF, hM⟩
    have hi1 := inT_le (t := t) gi
    have ho1 := outT_le (t := t) gi
    have hi2 := inL_le (c := byt t gi)
    have ho2 := outL_le (c := byt t gi)
    refine sq ?_
    refine sq ?_
    refine wp_region_lit ?_
    refine st hF (g_move hF rfl) rfl fun a hF => st hF (g_move hF rfl) rfl fun a hF => st hF (g_lenS ty_ut_9 hF rfl) rfl fun a hF => st hF (g_lss hF rfl rfl) rfl fun a hF => ?_
    refine wpList_nil ?_
    refine tN ?_
    refine c_cond hF rfl (fun h1 => ?_) (fun h1 => ?_)
    ·
      refine wp_skip ?_
      refine tN ?_
      refine sq ?_
      refine wp_block ?_
      refine sq ?_
      refine wp_region_lit ?_
      refine st hF (g_move hF rfl) rfl fun a hF => st hF (g_move hF rfl) rfl fun a hF => st hF (g_indexS (i := gi) ty_ut_9 hF rfl rfl rfl (by omega)) rfl fun a hF => ?_
      refine stR hF (d_call Try.call68 hF (.cons rfl .nil) (l04Legs_ok (byt t (gi)) _ (by first | exact byt_lt | omega))) rfl ?_
      rintro _ w' a ⟨hx, rfl⟩ hF
      have hM := hM.ext hx
      refine st hF (g_move hF rfl) rfl fun a hF => st hF (g_extract hF rfl rfl) rfl fun a hF => st hF (g_extract hF rfl rfl) rfl fun a hF => st hF (g_extract hF rfl rfl) rfl fun a hF => st hF (g_assign hF rfl) rfl fun a hF => st hF (g_assign hF rfl) rfl fun a hF => st hF (g_assign hF rfl) rfl fun a hF => ?_
      refine wpList_nil ?_
      refine tN ?_
      refine sq ?_
      refine sq ?_
      refine wp_region_lit ?_
      refine st hF (g_move hF rfl) rfl fun a hF => st hF (g_not hF rfl) rfl fun a hF => ?_
      refine wpList_nil ?_
      refine tN ?_
      refine c_condB hF rfl (fun h2 => ?_) (fun h2 => ?_)
      ·
        refine sq ?_
        refine wp_region_lit ?_
        refine st hF (g_assign hF rfl) rfl fun a hF => st hF (g_assign hF rfl) rfl fun a hF => st hF (g_assign hF rfl) rfl fun a hF => ?_
        refine wpList_nil ?_
        refine tN ?_
        refine wp_ret ?_
        refine tR ?_
        refine iR ?_
        refine tR ?_
        refine tR ?_
        refine iR ?_
        refine tR ?_
        refine fin3 rfl hF.defers (res_tmp hF rfl) (res_tmp hF rfl) (res_tmp hF rfl) ⟨_, rfl, hM.below, ?_⟩
        show _ = _
        rfl
      ·
        have hpb : pcB (byt t gi) = true := by simpa using h2
        refine wp_skip ?_
        refine tN ?_
        refine sq ?_
        refine wp_region_lit ?_
        refine st hF (g_move hF rfl) rfl fun a hF => st hF (g_move hF rfl) rfl fun a hF => st hF (g_add hF rfl rfl (add_nat (inT t gi) (inL (byt t (gi))) (by omega))) rfl fun a hF => st hF (g_assign hF rfl) rfl fun a hF => ?_
        refine wpList_nil ?_
        refine tN ?_
        refine wp_region_lit ?_
        refine st hF (g_move hF rfl) rfl fun a hF => st hF (g_move hF rfl) rfl fun a hF => st hF (g_add hF rfl rfl (add_nat (outT t gi) (outL (byt t (gi))) (by omega))) rfl fun a hF => st hF (g_assign hF rfl) rfl fun a hF => ?_
        refine wpList_nil ?_
        refine iN ?_
        refine tN ?_
        refine wp_region_lit ?_
        refine st hF (g_move hF rfl) rfl fun a hF => st hF (g_add hF rfl rfl (add_nat (gi) (1) (by omega))) rfl fun a hF => st hF (g_assign hF rfl) rfl fun a hF => ?_
        refine wpList_nil ?_
        refine tN ?_
        rw [show inT t gi + inL (byt t (gi)) = inT t (gi + 1) from rfl, show outT t gi + outL (byt t (gi)) = outT t (gi + 1) from rfl] at hF
        refine ⟨gi + 1, ⟨by omega, (fun i hi => by by_cases e : i = gi; (rw [e]; exact hpb); (exact hinv1 i (by omega))), hF.sub _ (by repeat' constructor), ?_⟩, by omega⟩
        exact hM
    ·
      obtain rfl : t.size = gi := by omega
      exact absurd hinv1 hp

theorem segF_snoc0 {s : ByteArray} {c b : Nat} {u : Value} {e : Option (Nat × Array Value)} (hB : b = s.size ∨ (b < s.size ∧ byt s b = c)) (h : Sl 1 u e (cnt s c b + 1) (fun i => if i < cnt s c b * 1 then segF s c i else (fun _ => Value.string (s.extract (sta s c b) b)) (i - cnt s c b * 1))) : Sl 1 u e (cnt s c b + 1) (segF s c) :=
  h.congr fun i hi => by
    by_cases hlt : i < cnt s c b
    · rw [if_pos (by omega)]
    · rw [if_neg (by omega), show i = cnt s c b by omega]
      unfold segF; rw [seg_b hB]
theorem segF_snoc {s : ByteArray} {c b st k : Nat} {u : Value} {e : Option (Nat × Array Value)} (hB : b = s.size ∨ (b < s.size ∧ byt s b = c)) (h1 : st = sta s c b) (h2 : k = cnt s c b) (h : Sl 1 u e (k + 1) (fun i => if i < k * 1 then segF s c i else (fun _ => Value.string (s.extract st b)) (i - k * 1))) : Sl 1 u e (k + 1) (segF s c) := by
  subst h1; subst h2; exact segF_snoc0 hB h

theorem l01Split_ok (s : ByteArray) (c : Nat) (w : World) (hz : s.size < 10000000) (hc : c < 256) :
    CallsR Try.prog 66 #[.string (s), .int .u8 (((c : Nat) : Int))] w (fun u w' => OwnSl 1 w (nSg s c) (segF s c) u w') := by
  refine calls_fr [.string (s), .int .u8 (((c : Nat) : Int))] Try.func66 rfl Try.ntmps66 rfl fun a hF => ?_
  have hM : Mem w w [none, none, none] [] := MemX.start w 3
  change Fr 35 a [(0, .string (s)), (1, .int .u8 (((c : Nat) : Int)))] at hF
  have hc9 := cnt_le (s := s) (c := c) s.size
  have hs9 := sta_le (s := s) (c := c) s.size
  refine sq ?_
  refine wp_region_lit ?_
  refine st hF (g_assign hF rfl) rfl fun a hF => ?_
  refine wpList_nil ?_
  refine tN ?_
  refine sq ?_
  refine wp_region_lit ?_
  refine stR hF (d_buildC 0 hM hF rfl ty_bs0_59) rfl ?_
  rintro _ w' a ⟨b1, rfl, hM, -⟩ hF
  change Mem w w' [some (b1, #[]), none, none] [] at hM
  refine st hF (g_assign hF rfl) rfl fun a hF => ?_
  refine wpList_nil ?_
  refine tN ?_
  refine sq ?_
  refine wp_region_lit ?_
  refine st hF (g_assign hF rfl) rfl fun a hF => ?_
  refine wpList_nil ?_
  refine tN ?_
  refine sq ?_
  refine sq ?_
  refine wp_region_lit ?_
  refine st hF (g_assign hF rfl) rfl fun a hF => ?_
  refine wpList_nil ?_
  refine tN ?_
  refine wp_block ?_
  change Mem w _ [some (b1, #[]), none, none] [] at hM
  refine c_loop (fun (kk : Nat) a w' => kk ≤ s.size ∧ ∃ (st_ : Nat), ∃ (k_ : Nat), (st_ = sta s c kk ∧ k_ = cnt s c kk) ∧ ∃ (u5_1 : Value) (e5_1 : Option (Nat × Array Value)), Sl 1 u5_1 e5_1 (k_) (segF s c) ∧ Fr 35 a [(0, .string (s)), (1, .int .u8 (((c : Nat) : Int))), (4, .slice none 0 0), (8, .slice (some ⟨b1, 0, none⟩) (0) (0)), (7, .int .i64 (((kk : Nat) : Int))), (6, .int .i64 (((st_ : Nat) : Int))), (5, u5_1)] ∧ Mem w w' [e5_1, none, none] []) (fun kk => s.size - kk) 0 ?_ ?_
  ·
    refine ⟨by omega, 0, 0, ⟨rfl, rfl⟩, (.slice (some ⟨b1, 0, none⟩) (0) (0)), (some (b1, #[])), (Sl.empty 1 _ _), hF.sub _ (by repeat' constructor), ?_⟩
    exact hM
  ·
    clear hF hM
    rintro gi a w' ⟨hgi, st_, k_, ⟨hst, hk1⟩, u5_1, e5_1, hsl, hF, hM⟩
    have hs1 := sta_le (s := s) (c := c) gi
    have hc1 := cnt_le (s := s) (c := c) gi
    refine sq ?_
    refine sq ?_
    refine wp_region_lit ?_
    refine st hF (g_move hF rfl) rfl fun a hF => st hF (g_move hF rfl) rfl fun a hF => st hF (g_lenS ty_ut_9 hF rfl) rfl fun a hF => st hF (g_lss hF rfl rfl) rfl fun a hF => ?_
    refine wpList_nil ?_
    refine tN ?_
    refine c_cond hF rfl (fun h2 => ?_) (fun h2 => ?_)
    ·
      refine wp_skip ?_
      refine tN ?_
      refine sq ?_
      refine wp_block ?_
      refine sq ?_
      refine wp_region_lit ?_
      refine st hF (g_move hF rfl) rfl fun a hF => st hF (g_move hF rfl) rfl fun a hF => st hF (g_indexS (i := gi) ty_ut_9 hF rfl rfl rfl (by omega)) rfl fun a hF => st hF (g_move hF rfl) rfl fun a hF => st hF (g_eql hF rfl rfl) rfl fun a hF => ?_
      refine wpList_nil ?_
      refine tN ?_
      refine c_cond hF rfl (fun h3 => ?_) (fun h3 => ?_)
      ·
        have hyb : byt s gi = c := by omega
        have hbb : gi = s.size ∨ (gi < s.size ∧ byt s gi = c) := .inr ⟨by omega, hyb⟩
        refine sq ?_
        refine wp_region_lit ?_
        refine st hF (g_move hF rfl) rfl fun a hF => st hF (g_move hF rfl) rfl fun a hF => st hF (g_move hF rfl) rfl fun a hF => st hF (g_move hF rfl) rfl fun a hF => st hF (g_sliceS (i := st_) (j := gi) ty_ut_9 hF rfl rfl rfl rfl rfl (by omega) (by omega)) rfl fun a hF => ?_
        refine stR hF (d_buildC 1 hM hF (build1 hF rfl) (ty_bst_59 _)) rfl ?_
        rintro _ w' a ⟨b4, rfl, hM, -⟩ hF
        change Mem w w' [e5_1, some (b4, #[.string ((s.extract (st_) (gi)))]), none] [] at hM
        refine stR hF (d_append (k := 0) (N := k_) (m := 1) (f := segF s c) (g := fun _ => .string ((s.extract (st_) (gi)))) ty_si_59 rfl (by decide) hM rfl hF rfl rfl hsl (fun i hi => by rw [show i = 0 by omega]; exact (hM.row 1 rfl).cell 0) (fun _ _ => rfl) (by decide) (by unfold maxLen; omega) (by omega)) rfl ?_
        rintro u5 w' a ⟨e6, hM, hsl5⟩ hF
        have hsl5 := segF_snoc hbb hst hk1 hsl5
        change Mem w w' [e6, some (b4, #[.string ((s.extract (st_) (gi)))]), none] [] at hM
        refine st hF (g_assign hF rfl) rfl fun a hF => ?_
        refine wpList_nil ?_
        refine tN ?_
        refine wp_region_lit ?_
        refine st hF (g_move hF rfl) rfl fun a hF => st hF (g_add hF rfl rfl (add_nat (gi) (1) (by omega))) rfl fun a hF => st hF (g_assign hF rfl) rfl fun a hF => ?_
        refine wpList_nil ?_
        refine iN ?_
        refine tN ?_
        refine wp_region_lit ?_
        refine st hF (g_move hF rfl) rfl fun a hF => st hF (g_add hF rfl rfl (add_nat (gi) (1) (by omega))) rfl fun a hF => st hF (g_assign hF rfl) rfl fun a hF => ?_
        refine wpList_nil ?_
        refine tN ?_
        have hM := hM.drop 1
        refine ⟨gi + 1, ⟨by omega, gi + 1, k_ + 1, ⟨(sta_yes hyb).symm, by rw [cnt_yes hyb, hk1]⟩, (u5), (e6), hsl5, hF.sub _ (by repeat' constructor), ?_⟩, by omega⟩
        exact hM
      ·
        have hnb : ¬ byt s gi = c := by omega
        refine wp_skip ?_
        refine iN ?_
        refine tN ?_
        refine wp_region_lit ?_
        refine st hF (g_move hF rfl) rfl fun a hF => st hF (g_add hF rfl rfl (add_nat (gi) (1) (by omega))) rfl fun a hF => st hF (g_assign hF rfl) rfl fun a hF => ?_
        refine wpList_nil ?_
        refine tN ?_
        refine ⟨gi + 1, ⟨by omega, st_, k_, ⟨by rw [sta_no hnb]; exact hst, by rw [cnt_no hnb]; exact hk1⟩, (u5_1), (e5_1), hsl, hF.sub _ (by repeat' constructor), ?_⟩, by omega⟩
        exact hM
    ·
      obtain rfl : s.size = gi := by omega
      have hbb : s.size = s.size ∨ (s.size < s.size ∧ byt s s.size = c) := .inl rfl
      refine wp_exit ?_
      refine tX ?_
      refine tX ?_
      refine ib_same ?_
      refine tN ?_
      refine sq ?_
      refine wp_region_lit ?_
      refine st hF (g_move hF rfl) rfl fun a hF => st hF (g_move hF rfl) rfl fun a hF => st hF (g_move hF rfl) rfl fun a hF => st hF (g_sliceSLo (i := st_) ty_ut_9 hF rfl rfl rfl (by omega)) rfl fun a hF => ?_
      refine stR hF (d_buildC 2 hM hF (build1 hF rfl) (ty_bst_59 _)) rfl ?_
      rintro _ w' a ⟨b7, rfl, hM, -⟩ hF
      change Mem w w' [e5_1, none, some (b7, #[.string ((s.extract (st_) s.size))])] [] at hM
      refine stR hF (d_append (k := 0) (N := k_) (m := 1) (f := segF s c) (g := fun _ => .string ((s.extract (st_) s.size))) ty_si_59 rfl (by decide) hM rfl hF rfl rfl hsl (fun i hi => by rw [show i = 0 by omega]; exact (hM.row 2 rfl).cell 0) (fun _ _ => rfl) (by decide) (by unfold maxLen; omega) (by omega)) rfl ?_
      rintro u8 w' a ⟨e9, hM, hsl5⟩ hF
      have hsl5 := segF_snoc hbb hst hk1 hsl5
      change Mem w w' [e9, none, some (b7, #[.string ((s.extract (st_) s.size))])] [] at hM
      refine st hF (g_assign hF rfl) rfl fun a hF => ?_
      refine wpList_nil ?_
      refine tN ?_
      refine wp_ret ?_
      refine fin1 rfl hF.defers (res_tmp hF rfl) ⟨_, rfl, hM.below, ?_⟩
      rw [show nSg s c = k_ + 1 by unfold nSg; rw [hk1]]
      exact OwnSl.pos hM (k := 0) rfl hsl5 (by omega)

end Go.Proofs.Ytnaabnhjokibfaa
