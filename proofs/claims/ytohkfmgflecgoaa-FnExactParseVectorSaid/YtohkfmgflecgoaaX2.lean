/- What functions of the program return, as walks over their operations; no statement of the seat is proved here. -/
import Derived.Test.YtohkfmgflecgoaaK2
import Derived.Test.YtohkfmgflecgoaaSw47
import Derived.Test.YtohkfmgflecgoaaV2
set_option linter.unusedVariables false
set_option linter.unusedSimpArgs false
namespace Go.Proofs.Ytohkfmgflecgoaa
open Go Go.RowKit Go.Sw Go.Ech
open Classical
theorem ty_ut_9 : Try.prog.underlying 9 = some .string := by kernel_rfl
theorem ty_ud_3 : Try.prog.underlying 3 = some (.int .i64) := by kernel_rfl
/-- The number of a letter; 255 for no letter. -/
def num (c : Nat) : Nat := if 48 ≤ c ∧ c ≤ 57 then c - 48 else if 97 ≤ c ∧ c ≤ 99 then c - 87 else 255
theorem num_spec (c : Nat) : (48 ≤ c ∧ c ≤ 57 ∧ num c = c - 48) ∨ (97 ≤ c ∧ c ≤ 99 ∧ num c = c - 87) ∨ (¬ (48 ≤ c ∧ c ≤ 57) ∧ ¬ (97 ≤ c ∧ c ≤ 99) ∧ num c = 255) := by
  unfold num; split
  · omega
  · split <;> omega
def zi (c : Nat) : Int := if num c = 255 then -1 else (num c : Int)
theorem zi_spec (c : Nat) : (num c ≤ 12 ∧ zi c = (num c : Int)) ∨ (num c = 255 ∧ zi c = -1) := by
  have h := num_spec c
  unfold zi
  split <;> omega
theorem zi_digs : ∀ c : Fin 256, Go.Lib.indexByte digs.data.toList (((c.1 : Nat) : Int)).toNat.toUInt8 = zi c.1 := by decide +kernel
theorem idxB_ok (c : Nat) (w : World) (hc : c < 256) : CallsR Try.prog 22 #[.string digs, .int .u8 ((c : Nat) : Int)] w (fun u _ => u = .int .i64 (zi c)) := by
  refine (Try.strings_IndexByte digs ((c : Nat) : Int) w).mono fun e w' ⟨he, hw⟩ => ⟨_, he, hw ▸ Ext.refl _, ?_⟩
  rw [zi_digs ⟨c, hc⟩]
def rdP (p n : Nat) (s : ByteArray) : Prop := s.size = n ∧ ∀ i, i < n → num (byt s i) < p
def rdV (n : Nat) (s : ByteArray) (c : Nat) : Nat := if c < n then num (byt s c) else 0
theorem okV_rd {p n : Nat} {s : ByteArray} (hp0 : 0 < p) (hn : n ≤ 6) : okV (p : Int) (n : Int) (rdV n s) ↔ ∀ i, i < n → num (byt s i) < p := by
  unfold okV okN rdV
  constructor
  · intro h i hi
    have := h i (by omega)
    rw [if_pos hi] at this
    omega
  · intro h i hi
    by_cases e : i < n
    · rw [if_pos e]; have := h i e; omega
    · rw [if_neg e]; omega
theorem rdV_le {n : Nat} {s : ByteArray} : ∀ c, rdV n s c ≤ 255 := fun c => by
  unfold rdV; split
  · have := num_spec (byt s c); omega
  · omega

theorem readVector_Y (p n : Nat) (T : Nat → Nat → Nat → Nat) (f : Nat → Nat) (s : ByteArray) (w : World) (hp0 : 0 < p) (hp13 : p ≤ 13) (hn0 : 0 < n) (hn : n ≤ 6) (hz : s.size < 10000000) (hr : rdP p n s) :
    CallsR Try.prog 13 #[.agg (algC (p : Int) (n : Int) T f), .string (s)] w (fun res _ => res = .tuple #[.agg (vecC (rdV n s)), .bool true]) := by
  refine calls_fr [.agg (algC (p : Int) (n : Int) T f), .string (s)] Try.func13 rfl Try.ntmps13 rfl fun a hF => ?_
  have hM : Mem w w [none, none, none] [] := MemX.start w 3
  change Fr 43 a [(0, .agg (algC (p : Int) (n : Int) T f)), (1, .string (s))] at hF
  have hsz := hr.1
  refine sq ?_
  refine wp_region_lit ?_
  refine stR hF (d_box 0 hM hF rfl) rfl ?_
  rintro _ w' a ⟨b1, rfl, hM, -⟩ hF
  change Mem w w' [some (b1, algC (p : Int) (n : Int) T f), none, none] [] at hM
  refine stR hF (d_alloc 1 hM ty_ze_27) rfl ?_
  rintro _ w' a ⟨b2, rfl, hM, -⟩ hF
  change Mem w w' [some (b1, algC (p : Int) (n : Int) T f), some (b2, fnC 6 (fun _ => .int .u8 (0))), none] [] at hM
  refine st hF (g_assign hF rfl) rfl fun a hF => ?_
  refine wpList_nil ?_
  refine tN ?_
  refine sq ?_
  refine sq ?_
  refine wp_region_lit ?_
  refine st hF (g_move hF rfl) rfl fun a hF => st hF (g_lenS ty_ut_9 hF rfl) rfl fun a hF => st hF (g_fieldAddr ty_fo_31_1 hF rfl) rfl fun a hF => st hF (g_load ty_on_2 hF rfl (hM.row 0 rfl) (algC_n (by omega))) rfl fun a hF => st hF (g_neq hF rfl rfl) rfl fun a hF => ?_
  refine wpList_nil ?_
  refine tN ?_
  refine c_cond hF rfl (fun h3 => ?_) (fun h3 => ?_)
  ·
    first | (exfalso; omega) | exact absurd rfl h3
  ·
    refine wp_skip ?_
    refine tN ?_
    refine sq ?_
    refine wp_region_lit ?_
    refine stR hF (d_makeC (len := 6) 2 hM hF rfl rfl ty_mk_46_6) rfl ?_
    rintro _ w' a ⟨b4, rfl, hM, -⟩ hF
    change Mem w w' [some (b1, algC (p : Int) (n : Int) T f), some (b2, fnC 6 (fun _ => .int .u8 (0))), some (b4, fnC 6 (fun _ => .int .u8 (0)))] [] at hM
    refine st hF (g_assign hF rfl) rfl fun a hF => ?_
    refine wpList_nil ?_
    refine tN ?_
    refine sq ?_
    refine sq ?_
    refine wp_region_lit ?_
    refine st hF (g_move hF rfl) rfl fun a hF => st hF (g_lenS ty_ut_9 hF rfl) rfl fun a hF => st hF (g_move hF rfl) rfl fun a hF => ?_
    refine wpList_nil ?_
    refine tN ?_
    refine wp_block ?_
    change Mem w _ [some (b1, algC (p : Int) (n : Int) T f), some (b2, fnC 6 (fun _ => .int .u8 (0))), some (b4, fnC 6 (fun _ => .int .u8 (0)))] [] at hM
    refine c_loop (fun (kk : Nat) a w' => kk ≤ s.size ∧ (True) ∧ Fr 43 a [(0, .agg (algC (p : Int) (n : Int) T f)), (1, .string (s)), (2, ptr b1 (0)), (4, ptr b2 (0)), (9, .string (s)), (10, .int .i64 (((s.size : Nat) : Int))), (11, ptr b1 (0 + 1)), (12, .int .i64 (((n : Nat) : Int))), (13, .bool (decide ((((s.size : Nat) : Int) : Int) ≠ ((n : Nat) : Int)))), (15, .slice (some ⟨b4, 0, none⟩) (6) (6)), (6, .slice (some ⟨b4, 0, none⟩) (6) (6)), (16, .string (s)), (17, .int .i64 (((s.size : Nat) : Int))), (18, .int .i64 (((kk : Nat) : Int)))] ∧ Mem w w' [some (b1, algC (p : Int) (n : Int) T f), some (b2, fnC 6 (fun _ => .int .u8 (0))), some (b4, dgC 6 (fun c => if c < kk then num (byt s c) else 0))] []) (fun kk => s.size - kk) 0 ?_ ?_
    ·
      refine ⟨by omega, trivial, hF.sub _ (by repeat' constructor), ?_⟩
      exact hM.rowc 2 rfl (dgC_congr (m := 6) (f := fun _ => 0) fun c hc => by simp)
    ·
      clear hF hM
      rintro gi a w' ⟨hgi, hinv1, hF, hM⟩
      have hzs := zi_spec (byt s gi)
      have hns := num_spec (byt s gi)
      have hrg : gi < n → num (byt s gi) < p := hr.2 gi
      refine sq ?_
      refine wp_region_lit ?_
      refine st hF (g_lss hF rfl rfl) rfl fun a hF => ?_
      refine wpList_nil ?_
      refine tN ?_
      refine sq ?_
      refine c_cond hF rfl (fun h5 => ?_) (fun h5 => ?_)
      ·
        refine wp_skip ?_
        refine tN ?_
        refine sq ?_
        refine wp_block ?_
        refine sq ?_
        refine wp_region_lit ?_
        refine st hF (g_move hF rfl) rfl fun a hF => st hF (g_assign hF rfl) rfl fun a hF => ?_
        refine wpList_nil ?_
        refine tN ?_
        refine sq ?_
        refine wp_region_lit ?_
        refine st hF (g_move hF rfl) rfl fun a hF => st hF (g_move hF rfl) rfl fun a hF => st hF (g_indexS (i := gi) ty_ut_9 hF rfl rfl rfl (by omega)) rfl fun a hF => ?_
        refine stR hF (d_call Try.call22 hF (.cons rfl (.cons rfl .nil)) (idxB_ok (byt s (gi)) _ byt_lt)) rfl ?_
        rintro _ w' a ⟨hx, rfl⟩ hF
        have hM := hM.ext hx
        refine st hF (g_assign hF rfl) rfl fun a hF => ?_
        refine wpList_nil ?_
        refine tN ?_
        refine sq ?_
        refine sq ?_
        refine wp_region_lit ?_
        refine st hF (g_move hF rfl) rfl fun a hF => st hF (g_lss hF rfl rfl) rfl fun a hF => st hF (g_move hF rfl) rfl fun a hF => ?_
        by_cases g6 : (zi (byt s (gi)) : Int) < 0
        ·
          first | rw [decide_eq_true g6] at hF | simp only [decide_eq_true g6] at hF
          first | (exfalso; omega) | exact absurd rfl g6
        ·
          first | rw [decide_eq_false g6] at hF | simp only [decide_eq_false g6] at hF
          refine stY hF rfl rfl rfl (g_move hF rfl) rfl fun a hF => stY hF rfl rfl rfl (g_fieldAddr ty_fo_31_0 hF rfl) rfl fun a hF => stY hF rfl rfl rfl (g_load ty_on_2 hF rfl (hM.row 0 rfl) (algC_p (by omega))) rfl fun a hF => stY hF rfl rfl rfl (g_geq hF rfl rfl) rfl fun a hF => st hF (g_pickF hF rfl rfl) rfl fun a hF => ?_
          refine wpList_nil ?_
          refine tN ?_
          refine c_cond hF rfl (fun h7 => ?_) (fun h7 => ?_)
          ·
            first | (exfalso; omega) | exact absurd rfl h7
          ·
            refine wp_skip ?_
            refine tN ?_
            refine wp_region_lit ?_
            refine st hF (g_move hF rfl) rfl fun a hF => st hF (g_move hF rfl) rfl fun a hF => st hF (g_move hF rfl) rfl fun a hF => st hF (g_conv ty_un_5 ty_ud_3 hF rfl (wrap_u8 (by omega) (by omega))) rfl fun a hF => st hF (g_indexSl (i := gi) ty_sl_46 hF rfl rfl rfl (by omega)) rfl fun a hF => ?_
            refine stN hF (d_store 2 hM rfl ty_on_5 hF rfl rfl rfl (by first | omega | (simp only [fnC_size, cells_size, vecC_size, tabC_size, planeC_size, dgC_size] <;> omega))) ?_
            intro _ w' a hM hF
            change Mem w w' [some (b1, algC (p : Int) (n : Int) T f), some (b2, fnC 6 (fun _ => .int .u8 (0))), some (b4, (dgC 6 (fun c => if c < gi then num (byt s c) else 0)).setIfInBounds (0 + (gi) * 1) (.int .u8 (zi (byt s (gi)))))] [] at hM
            refine wpList_nil ?_
            refine iN ?_
            refine tN ?_
            refine wp_region_lit ?_
            refine st hF (g_add hF rfl rfl (add_nat (gi) (1) (by omega))) rfl fun a hF => st hF (g_move hF rfl) rfl fun a hF => ?_
            refine wpList_nil ?_
            refine tN ?_
            refine ⟨gi + 1, ⟨by omega, trivial, hF.sub _ (by repeat' constructor), ?_⟩, by omega⟩
            refine hM.rowc 2 rfl (dgC_set (m := 6) (k := gi) (f := fun c => if c < gi then num (byt s c) else 0) (g := fun c => if c < gi + 1 then num (byt s c) else 0) (by omega) ((by simp; omega)) (fun c hc he => ?_))
            have e0 : (c < gi + 1) = (c < gi) := by apply propext; omega
            simp only [e0]
      ·
        obtain rfl : s.size = gi := by omega
        have hM := hM.rowc (cs' := vecC (rdV n s)) 2 rfl (dgC_congr (m := 6) (f := fun c => if c < s.size then num (byt s c) else 0) (g := rdV n s) fun c hc => by unfold rdV; rw [hsz])
        refine wp_exit ?_
        refine tX ?_
        refine tX ?_
        refine ib_same ?_
        refine tN ?_
        refine sq ?_
        refine wp_region_lit ?_
        refine st hF (g_move hF rfl) rfl fun a hF => st hF (g_toArr ty_ua_27 hF rfl (by omega)) rfl fun a hF => st hF (g_loadAgg ty_ag_27 hF rfl (hM.row 2 rfl) (by simp only [fnC_size, cells_size, vecC_size, tabC_size, planeC_size, dgC_size] <;> omega) (whole (by simp only [fnC_size, cells_size, vecC_size, tabC_size, planeC_size, dgC_size]))) rfl fun a hF => ?_
        refine stN hF (d_storeAgg 1 hM rfl ty_sz_27 hF rfl rfl (by first | exact vecC_one | exact cells_one | (refine fnC_one fun _ _ => ?_; first | rfl | (split <;> rfl))) (by simp only [fnC_size, cells_size, vecC_size, tabC_size, planeC_size, dgC_size]) (by simp only [fnC_size, cells_size, vecC_size, tabC_size, planeC_size, dgC_size] <;> omega) (splice_whole _ _ (by simp only [fnC_size, cells_size, vecC_size, tabC_size, planeC_size, dgC_size]))) ?_
        intro _ w' a hM hF
        change Mem w w' [some (b1, algC (p : Int) (n : Int) T f), some (b2, vecC (rdV n s)), some (b4, vecC (rdV n s))] [] at hM
        refine st hF (g_assign hF rfl) rfl fun a hF => ?_
        refine wpList_nil ?_
        refine tN ?_
        refine wp_ret ?_
        refine fin2 rfl hF.defers (res_agg ty_ag_27 hF rfl (hM.row 1 rfl) (by simp only [fnC_size, cells_size, vecC_size, tabC_size, planeC_size, dgC_size])) (res_tmp hF rfl) ⟨_, rfl, hM.below, ?_⟩
        show _ = _
        rfl

theorem readVector_N (p n : Nat) (T : Nat → Nat → Nat → Nat) (f : Nat → Nat) (s : ByteArray) (w : World) (hp0 : 0 < p) (hp13 : p ≤ 13) (hn0 : 0 < n) (hn : n ≤ 6) (hz : s.size < 10000000) (hr : ¬ rdP p n s) :
    CallsR Try.prog 13 #[.agg (algC (p : Int) (n : Int) T f), .string (s)] w (fun res _ => res = .tuple #[.agg (vecC (fun _ => 0)), .bool false]) := by
  refine calls_fr [.agg (algC (p : Int) (n : Int) T f), .string (s)] Try.func13 rfl Try.ntmps13 rfl fun a hF => ?_
  have hM : Mem w w [none, none, none] [] := MemX.start w 3
  change Fr 43 a [(0, .agg (algC (p : Int) (n : Int) T f)), (1, .string (s))] at hF
  refine sq ?_
  refine wp_region_lit ?_
  refine stR hF (d_box 0 hM hF rfl) rfl ?_
  rintro _ w' a ⟨b1, rfl, hM, -⟩ hF
  change Mem w w' [some (b1, algC (p : Int) (n : Int) T f), none, none] [] at hM
  refine stR hF (d_alloc 1 hM ty_ze_27) rfl ?_
  rintro _ w' a ⟨b2, rfl, hM, -⟩ hF
  change Mem w w' [some (b1, algC (p : Int) (n : Int) T f), some (b2, fnC 6 (fun _ => .int .u8 (0))), none] [] at hM
  refine st hF (g_assign hF rfl) rfl fun a hF => ?_
  refine wpList_nil ?_
  refine tN ?_
  refine sq ?_
  refine sq ?_
  refine wp_region_lit ?_
  refine st hF (g_move hF rfl) rfl fun a hF => st hF (g_lenS ty_ut_9 hF rfl) rfl fun a hF => st hF (g_fieldAddr ty_fo_31_1 hF rfl) rfl fun a hF => st hF (g_load ty_on_2 hF rfl (hM.row 0 rfl) (algC_n (by omega))) rfl fun a hF => st hF (g_neq hF rfl rfl) rfl fun a hF => ?_
  refine wpList_nil ?_
  refine tN ?_
  refine c_cond hF rfl (fun h3 => ?_) (fun h3 => ?_)
  ·
    refine sq ?_
    refine wp_region_lit ?_
    refine st hF (g_build0 ty_bu_27) rfl fun a hF => ?_
    refine stN hF (d_storeAgg 1 hM rfl ty_sz_27 hF rfl rfl (by first | exact vecC_one | exact cells_one | (refine fnC_one fun _ _ => ?_; first | rfl | (split <;> rfl))) (by simp only [fnC_size, cells_size, vecC_size, tabC_size, planeC_size, dgC_size]) (by simp only [fnC_size, cells_size, vecC_size, tabC_size, planeC_size, dgC_size] <;> omega) (splice_whole _ _ (by simp only [fnC_size, cells_size, vecC_size, tabC_size, planeC_size, dgC_size]))) ?_
    intro _ w' a hM hF
    change Mem w w' [some (b1, algC (p : Int) (n : Int) T f), some (b2, fnC 6 (fun _ => .int .u8 (0))), none] [] at hM
    refine st hF (g_assign hF rfl) rfl fun a hF => ?_
    refine wpList_nil ?_
    refine tN ?_
    refine wp_ret ?_
    refine tR ?_
    refine fin2 rfl hF.defers (res_agg ty_ag_27 hF rfl (hM.row 1 rfl) (by simp only [fnC_size, cells_size, vecC_size, tabC_size, planeC_size, dgC_size])) (res_tmp hF rfl) ⟨_, rfl, hM.below, ?_⟩
    show _ = _
    rfl
  ·
    have hsz : s.size = n := by omega
    refine wp_skip ?_
    refine tN ?_
    refine sq ?_
    refine wp_region_lit ?_
    refine stR hF (d_makeC (len := 6) 2 hM hF rfl rfl ty_mk_46_6) rfl ?_
    rintro _ w' a ⟨b4, rfl, hM, -⟩ hF
    change Mem w w' [some (b1, algC (p : Int) (n : Int) T f), some (b2, fnC 6 (fun _ => .int .u8 (0))), some (b4, fnC 6 (fun _ => .int .u8 (0)))] [] at hM
    refine st hF (g_assign hF rfl) rfl fun a hF => ?_
    refine wpList_nil ?_
    refine tN ?_
    refine sq ?_
    refine sq ?_
    refine wp_region_lit ?_
    refine st hF (g_move hF rfl) rfl fun a hF => st hF (g_lenS ty_ut_9 hF rfl) rfl fun a hF => st hF (g_move hF rfl) rfl fun a hF => ?_
    refine wpList_nil ?_
    refine tN ?_
    refine wp_block ?_
    change Mem w _ [some (b1, algC (p : Int) (n : Int) T f), some (b2, fnC 6 (fun _ => .int .u8 (0))), some (b4, fnC 6 (fun _ => .int .u8 (0)))] [] at hM
    refine c_loop (fun (kk : Nat) a w' => kk ≤ s.size ∧ (∀ i, i < kk → num (byt s i) < p) ∧ Fr 43 a [(0, .agg (algC (p : Int) (n : Int) T f)), (1, .string (s)), (2, ptr b1 (0)), (4, ptr b2 (0)), (9, .string (s)), (10, .int .i64 (((s.size : Nat) : Int))), (11, ptr b1 (0 + 1)), (12, .int .i64 (((n : Nat) : Int))), (13, .bool (decide ((((s.size : Nat) : Int) : Int) ≠ ((n : Nat) : Int)))), (15, .slice (some ⟨b4, 0, none⟩) (6) (6)), (6, .slice (some ⟨b4, 0, none⟩) (6) (6)), (16, .string (s)), (17, .int .i64 (((s.size : Nat) : Int))), (18, .int .i64 (((kk : Nat) : Int)))] ∧ Mem w w' [some (b1, algC (p : Int) (n : Int) T f), some (b2, fnC 6 (fun _ => .int .u8 (0))), some (b4, dgC 6 (fun c => if c < kk then num (byt s c) else 0))] []) (fun kk => s.size - kk) 0 ?_ ?_
    ·
      refine ⟨by omega, fun i hi => absurd hi (by omega), hF.sub _ (by repeat' constructor), ?_⟩
      exact hM.rowc 2 rfl (dgC_congr (m := 6) (f := fun _ => 0) fun c hc => by simp)
    ·
      clear hF hM
      rintro gi a w' ⟨hgi, hinv1, hF, hM⟩
      have hzs := zi_spec (byt s gi)
      have hns := num_spec (byt s gi)
      refine sq ?_
      refine wp_region_lit ?_
      refine st hF (g_lss hF rfl rfl) rfl fun a hF => ?_
      refine wpList_nil ?_
      refine tN ?_
      refine sq ?_
      refine c_cond hF rfl (fun h5 => ?_) (fun h5 => ?_)
      ·
        refine wp_skip ?_
        refine tN ?_
        refine sq ?_
        refine wp_block ?_
        refine sq ?_
        refine wp_region_lit ?_
        refine st hF (g_move hF rfl) rfl fun a hF => st hF (g_assign hF rfl) rfl fun a hF => ?_
        refine wpList_nil ?_
        refine tN ?_
        refine sq ?_
        refine wp_region_lit ?_
        refine st hF (g_move hF rfl) rfl fun a hF => st hF (g_move hF rfl) rfl fun a hF => st hF (g_indexS (i := gi) ty_ut_9 hF rfl rfl rfl (by omega)) rfl fun a hF => ?_
        refine stR hF (d_call Try.call22 hF (.cons rfl (.cons rfl .nil)) (idxB_ok (byt s (gi)) _ byt_lt)) rfl ?_
        rintro _ w' a ⟨hx, rfl⟩ hF
        have hM := hM.ext hx
        refine st hF (g_assign hF rfl) rfl fun a hF => ?_
        refine wpList_nil ?_
        refine tN ?_
        refine sq ?_
        refine sq ?_
        refine wp_region_lit ?_
        refine st hF (g_move hF rfl) rfl fun a hF => st hF (g_lss hF rfl rfl) rfl fun a hF => st hF (g_move hF rfl) rfl fun a hF => ?_
        by_cases g6 : (zi (byt s (gi)) : Int) < 0
        ·
          first | rw [decide_eq_true g6] at hF | simp only [decide_eq_true g6] at hF
          refine stS hF rfl rfl rfl rfl rfl fun a hF => stS hF rfl rfl rfl rfl rfl fun a hF => stS hF rfl rfl rfl rfl rfl fun a hF => stS hF rfl rfl rfl rfl rfl fun a hF => st hF (g_pickT hF rfl rfl) rfl fun a hF => ?_
          refine wpList_nil ?_
          refine tN ?_
          refine c_T hF rfl ?_
          refine sq ?_
          refine wp_region_lit ?_
          refine st hF (g_build0 ty_bu_27) rfl fun a hF => ?_
          refine stN hF (d_storeAgg 1 hM rfl ty_sz_27 hF rfl rfl (by first | exact vecC_one | exact cells_one | (refine fnC_one fun _ _ => ?_; first | rfl | (split <;> rfl))) (by simp only [fnC_size, cells_size, vecC_size, tabC_size, planeC_size, dgC_size]) (by simp only [fnC_size, cells_size, vecC_size, tabC_size, planeC_size, dgC_size] <;> omega) (splice_whole _ _ (by simp only [fnC_size, cells_size, vecC_size, tabC_size, planeC_size, dgC_size]))) ?_
          intro _ w' a hM hF
          change Mem w w' [some (b1, algC (p : Int) (n : Int) T f), some (b2, fnC 6 (fun _ => .int .u8 (0))), some (b4, dgC 6 (fun c => if c < gi then num (byt s c) else 0))] [] at hM
          refine st hF (g_assign hF rfl) rfl fun a hF => ?_
          refine wpList_nil ?_
          refine tN ?_
          refine wp_ret ?_
          refine tR ?_
          refine iR ?_
          refine tR ?_
          refine tR ?_
          refine iR ?_
          refine tR ?_
          refine fin2 rfl hF.defers (res_agg ty_ag_27 hF rfl (hM.row 1 rfl) (by simp only [fnC_size, cells_size, vecC_size, tabC_size, planeC_size, dgC_size])) (res_tmp hF rfl) ⟨_, rfl, hM.below, ?_⟩
          show _ = _
          rfl
        ·
          first | rw [decide_eq_false g6] at hF | simp only [decide_eq_false g6] at hF
          refine stY hF rfl rfl rfl (g_move hF rfl) rfl fun a hF => stY hF rfl rfl rfl (g_fieldAddr ty_fo_31_0 hF rfl) rfl fun a hF => stY hF rfl rfl rfl (g_load ty_on_2 hF rfl (hM.row 0 rfl) (algC_p (by omega))) rfl fun a hF => stY hF rfl rfl rfl (g_geq hF rfl rfl) rfl fun a hF => st hF (g_pickF hF rfl rfl) rfl fun a hF => ?_
          refine wpList_nil ?_
          refine tN ?_
          refine c_cond hF rfl (fun h8 => ?_) (fun h8 => ?_)
          ·
            refine sq ?_
            refine wp_region_lit ?_
            refine st hF (g_build0 ty_bu_27) rfl fun a hF => ?_
            refine stN hF (d_storeAgg 1 hM rfl ty_sz_27 hF rfl rfl (by first | exact vecC_one | exact cells_one | (refine fnC_one fun _ _ => ?_; first | rfl | (split <;> rfl))) (by simp only [fnC_size, cells_size, vecC_size, tabC_size, planeC_size, dgC_size]) (by simp only [fnC_size, cells_size, vecC_size, tabC_size, planeC_size, dgC_size] <;> omega) (splice_whole _ _ (by simp only [fnC_size, cells_size, vecC_size, tabC_size, planeC_size, dgC_size]))) ?_
            intro _ w' a hM hF
            change Mem w w' [some (b1, algC (p : Int) (n : Int) T f), some (b2, fnC 6 (fun _ => .int .u8 (0))), some (b4, dgC 6 (fun c => if c < gi then num (byt s c) else 0))] [] at hM
            refine st hF (g_assign hF rfl) rfl fun a hF => ?_
            refine wpList_nil ?_
            refine tN ?_
            refine wp_ret ?_
            refine tR ?_
            refine iR ?_
            refine tR ?_
            refine tR ?_
            refine iR ?_
            refine tR ?_
            refine fin2 rfl hF.defers (res_agg ty_ag_27 hF rfl (hM.row 1 rfl) (by simp only [fnC_size, cells_size, vecC_size, tabC_size, planeC_size, dgC_size])) (res_tmp hF rfl) ⟨_, rfl, hM.below, ?_⟩
            show _ = _
            rfl
          ·
            refine wp_skip ?_
            refine tN ?_
            refine wp_region_lit ?_
            refine st hF (g_move hF rfl) rfl fun a hF => st hF (g_move hF rfl) rfl fun a hF => st hF (g_move hF rfl) rfl fun a hF => st hF (g_conv ty_un_5 ty_ud_3 hF rfl (wrap_u8 (by omega) (by omega))) rfl fun a hF => st hF (g_indexSl (i := gi) ty_sl_46 hF rfl rfl rfl (by omega)) rfl fun a hF => ?_
            refine stN hF (d_store 2 hM rfl ty_on_5 hF rfl rfl rfl (by first | omega | (simp only [fnC_size, cells_size, vecC_size, tabC_size, planeC_size, dgC_size] <;> omega))) ?_
            intro _ w' a hM hF
            change Mem w w' [some (b1, algC (p : Int) (n : Int) T f), some (b2, fnC 6 (fun _ => .int .u8 (0))), some (b4, (dgC 6 (fun c => if c < gi then num (byt s c) else 0)).setIfInBounds (0 + (gi) * 1) (.int .u8 (zi (byt s (gi)))))] [] at hM
            refine wpList_nil ?_
            refine iN ?_
            refine tN ?_
            refine wp_region_lit ?_
            refine st hF (g_add hF rfl rfl (add_nat (gi) (1) (by omega))) rfl fun a hF => st hF (g_move hF rfl) rfl fun a hF => ?_
            refine wpList_nil ?_
            refine tN ?_
            refine ⟨gi + 1, ⟨by omega, (fun i hi => by by_cases e : i = gi; (rw [e]; omega); (exact hinv1 i (by omega))), hF.sub _ (by repeat' constructor), ?_⟩, by omega⟩
            refine hM.rowc 2 rfl (dgC_set (m := 6) (k := gi) (f := fun c => if c < gi then num (byt s c) else 0) (g := fun c => if c < gi + 1 then num (byt s c) else 0) (by omega) ((by simp; omega)) (fun c hc he => ?_))
            have e0 : (c < gi + 1) = (c < gi) := by apply propext; omega
            simp only [e0]
      ·
        obtain rfl : s.size = gi := by omega
        exact absurd ⟨hsz, fun i hi => hinv1 i (by omega)⟩ hr

theorem l01ReadVector_Y (p n : Nat) (T : Nat → Nat → Nat → Nat) (f : Nat → Nat) (s : ByteArray) (w : World) (hp0 : 0 < p) (hp13 : p ≤ 13) (hn0 : 0 < n) (hn : n ≤ 6) (hz : s.size < 10000000) (hr : rdP p n s) :
    CallsR Try.prog 9 #[.agg (algC (p : Int) (n : Int) T f), .string (s)] w (fun res _ => res = .tuple #[.agg (vecC (rdV n s)), .bool true]) := by
  refine calls_fr [.agg (algC (p : Int) (n : Int) T f), .string (s)] Try.func9 rfl Try.ntmps9 rfl fun a hF => ?_
  have hM : Mem w w [none, none, none] [] := MemX.start w 3
  change Fr 60 a [(0, .agg (algC (p : Int) (n : Int) T f)), (1, .string (s))] at hF
  have hsz := hr.1
  have hv := rdV_le (n := n) (s := s)
  refine sq ?_
  refine wp_region_lit ?_
  refine stR hF (d_box 0 hM hF rfl) rfl ?_
  rintro _ w' a ⟨b1, rfl, hM, -⟩ hF
  change Mem w w' [some (b1, algC (p : Int) (n : Int) T f), none, none] [] at hM
  refine stR hF (d_alloc 1 hM ty_ze_27) rfl ?_
  rintro _ w' a ⟨b2, rfl, hM, -⟩ hF
  change Mem w w' [some (b1, algC (p : Int) (n : Int) T f), some (b2, fnC 6 (fun _ => .int .u8 (0))), none] [] at hM
  refine st hF (g_assign hF rfl) rfl fun a hF => ?_
  refine wpList_nil ?_
  refine tN ?_
  refine sq ?_
  refine wp_region_lit ?_
  refine st hF (g_build0 ty_bu_27) rfl fun a hF => ?_
  refine stR hF (d_alloc 2 hM ty_ze_27) rfl ?_
  rintro _ w' a ⟨b3, rfl, hM, -⟩ hF
  change Mem w w' [some (b1, algC (p : Int) (n : Int) T f), some (b2, fnC 6 (fun _ => .int .u8 (0))), some (b3, fnC 6 (fun _ => .int .u8 (0)))] [] at hM
  refine stN hF (d_storeAgg 2 hM rfl ty_sz_27 hF rfl rfl (by first | exact vecC_one | exact cells_one | (refine fnC_one fun _ _ => ?_; first | rfl | (split <;> rfl))) (by simp only [fnC_size, cells_size, vecC_size, tabC_size, planeC_size, dgC_size]) (by simp only [fnC_size, cells_size, vecC_size, tabC_size, planeC_size, dgC_size] <;> omega) (splice_whole _ _ (by simp only [fnC_size, cells_size, vecC_size, tabC_size, planeC_size, dgC_size]))) ?_
  intro _ w' a hM hF
  change Mem w w' [some (b1, algC (p : Int) (n : Int) T f), some (b2, fnC 6 (fun _ => .int .u8 (0))), some (b3, fnC 6 (fun _ => .int .u8 (0)))] [] at hM
  refine wpList_nil ?_
  refine tN ?_
  refine sq ?_
  refine sq ?_
  refine wp_region_lit ?_
  refine st hF (g_move hF rfl) rfl fun a hF => st hF (g_lenS ty_ut_9 hF rfl) rfl fun a hF => st hF (g_fieldAddr ty_fo_31_1 hF rfl) rfl fun a hF => st hF (g_load ty_on_2 hF rfl (hM.row 0 rfl) (algC_n (by omega))) rfl fun a hF => st hF (g_neq hF rfl rfl) rfl fun a hF => st hF (g_move hF rfl) rfl fun a hF => ?_
  by_cases g4 : (((s.size : Nat) : Int) : Int) ≠ ((n : Nat) : Int)
  ·
    first | rw [decide_eq_true g4] at hF | simp only [decide_eq_true g4] at hF
    first | (exfalso; omega) | exact absurd rfl g4
  ·
    first | rw [decide_eq_false g4] at hF | simp only [decide_eq_false g4] at hF
    refine stY hF rfl rfl rfl (g_move hF rfl) rfl fun a hF => stY hF rfl rfl rfl (g_lenS ty_ut_9 hF rfl) rfl fun a hF => stY hF rfl rfl rfl (g_gtr hF rfl rfl) rfl fun a hF => st hF (g_pickF hF rfl rfl) rfl fun a hF => ?_
    refine wpList_nil ?_
    refine tN ?_
    refine c_cond hF rfl (fun h5 => ?_) (fun h5 => ?_)
    ·
      first | (exfalso; omega) | exact absurd rfl h5
    ·
      refine wp_skip ?_
      refine tN ?_
      refine sq ?_
      refine sq ?_
      refine wp_region_lit ?_
      refine st hF (g_assign hF rfl) rfl fun a hF => ?_
      refine wpList_nil ?_
      refine tN ?_
      refine wp_block ?_
      change Mem w _ [some (b1, algC (p : Int) (n : Int) T f), some (b2, fnC 6 (fun _ => .int .u8 (0))), some (b3, fnC 6 (fun _ => .int .u8 (0)))] [] at hM
      refine c_loop (fun (kk : Nat) a w' => kk ≤ s.size ∧ (True) ∧ Fr 60 a [(0, .agg (algC (p : Int) (n : Int) T f)), (1, .string (s)), (2, ptr b1 (0)), (4, ptr b2 (0)), (9, .agg (fnC 6 (fun _ => .int .u8 (0)))), (6, ptr b3 (0)), (10, .string (s)), (11, .int .i64 (((s.size : Nat) : Int))), (12, ptr b1 (0 + 1)), (13, .int .i64 (((n : Nat) : Int))), (14, .bool (false)), (15, .bool (false)), (16, .string (s)), (17, .int .i64 (((s.size : Nat) : Int))), (18, .bool (decide (6 < (((s.size : Nat) : Int) : Int)))), (19, .bool (decide (6 < (((s.size : Nat) : Int) : Int)))), (7, .int .i64 (((kk : Nat) : Int)))] ∧ Mem w w' [some (b1, algC (p : Int) (n : Int) T f), some (b2, fnC 6 (fun _ => .int .u8 (0))), some (b3, vecC (fun c => if c < kk then num (byt s c) else 0))] []) (fun kk => s.size - kk) 0 ?_ ?_
      ·
        refine ⟨by omega, trivial, hF.sub _ (by repeat' constructor), ?_⟩
        exact hM.rowc 2 rfl (dgC_congr (m := 6) (f := fun _ => 0) fun c hc => by simp)
      ·
        clear hF hM
        rintro gi a w' ⟨hgi, hinv1, hF, hM⟩
        have hzs := zi_spec (byt s gi)
        have hns := num_spec (byt s gi)
        have hrg : gi < n → num (byt s gi) < p := hr.2 gi
        refine sq ?_
        refine sq ?_
        refine wp_region_lit ?_
        refine st hF (g_move hF rfl) rfl fun a hF => st hF (g_move hF rfl) rfl fun a hF => st hF (g_lenS ty_ut_9 hF rfl) rfl fun a hF => st hF (g_lss hF rfl rfl) rfl fun a hF => ?_
        refine wpList_nil ?_
        refine tN ?_
        refine c_cond hF rfl (fun h6 => ?_) (fun h6 => ?_)
        ·
          refine wp_skip ?_
          refine tN ?_
          refine sq ?_
          refine wp_block ?_
          refine sq ?_
          refine wp_region_lit ?_
          refine st hF (g_move hF rfl) rfl fun a hF => st hF (g_move hF rfl) rfl fun a hF => st hF (g_indexS (i := gi) ty_ut_9 hF rfl rfl rfl (by omega)) rfl fun a hF => st hF (g_assign hF rfl) rfl fun a hF => ?_
          refine wpList_nil ?_
          refine tN ?_
          refine wp_block ?_
          refine sq ?_
          refine wp_region_lit ?_
          refine st hF (g_move hF rfl) rfl fun a hF => st hF (g_geq hF rfl rfl) rfl fun a hF => st hF (g_move hF rfl) rfl fun a hF => ?_
          by_cases g7 : 48 ≤ (((byt s (gi) : Nat) : Int) : Int)
          ·
            first | rw [decide_eq_true g7] at hF | simp only [decide_eq_true g7] at hF
            refine stY hF rfl rfl rfl (g_move hF rfl) rfl fun a hF => stY hF rfl rfl rfl (g_leq hF rfl rfl) rfl fun a hF => st hF (g_pickT hF rfl rfl) rfl fun a hF => st hF (g_assign hF rfl) rfl fun a hF => ?_
            refine wpList_nil ?_
            refine tN ?_
            refine c_cond hF rfl (fun h8 => ?_) (fun h8 => ?_)
            ·
              refine wp_region_lit ?_
              refine st hF (g_move hF rfl) rfl fun a hF => st hF (g_move hF rfl) rfl fun a hF => st hF (g_sub hF rfl rfl (wrap_u8 (by omega) (by omega))) rfl fun a hF => st hF (g_indexAddr ty_ar_27 hF rfl rfl rfl (by omega)) rfl fun a hF => ?_
              refine stN hF (d_store 2 hM rfl ty_on_5 hF rfl rfl rfl (by first | omega | (simp only [fnC_size, cells_size, vecC_size, tabC_size, planeC_size, dgC_size] <;> omega))) ?_
              intro _ w' a hM hF
              change Mem w w' [some (b1, algC (p : Int) (n : Int) T f), some (b2, fnC 6 (fun _ => .int .u8 (0))), some (b3, (vecC (fun c => if c < gi then num (byt s c) else 0)).setIfInBounds (0 + (gi) * 1) (.int .u8 (((byt s (gi) : Nat) : Int) - 48)))] [] at hM
              refine wpList_nil ?_
              refine iN ?_
              refine iN ?_
              refine tN ?_
              refine wp_region_lit ?_
              refine st hF (g_move hF rfl) rfl fun a hF => st hF (g_add hF rfl rfl (add_nat (gi) (1) (by omega))) rfl fun a hF => st hF (g_assign hF rfl) rfl fun a hF => ?_
              refine wpList_nil ?_
              refine tN ?_
              refine ⟨gi + 1, ⟨by omega, trivial, hF.sub _ (by repeat' constructor), ?_⟩, by omega⟩
              refine hM.rowc 2 rfl (dgC_set (m := 6) (k := gi) (f := fun c => if c < gi then num (byt s c) else 0) (g := fun c => if c < gi + 1 then num (byt s c) else 0) (by omega) ((by simp; omega)) (fun c hc he => ?_))
              have e0 : (c < gi + 1) = (c < gi) := by apply propext; omega
              simp only [e0]
            ·
              refine sq ?_
              refine wp_region_lit ?_
              refine st hF (g_move hF rfl) rfl fun a hF => st hF (g_geq hF rfl rfl) rfl fun a hF => st hF (g_move hF rfl) rfl fun a hF => ?_
              by_cases g9 : 97 ≤ (((byt s (gi) : Nat) : Int) : Int)
              ·
                first | rw [decide_eq_true g9] at hF | simp only [decide_eq_true g9] at hF
                refine stY hF rfl rfl rfl (g_move hF rfl) rfl fun a hF => stY hF rfl rfl rfl (g_leq hF rfl rfl) rfl fun a hF => st hF (g_pickT hF rfl rfl) rfl fun a hF => st hF (g_assign hF rfl) rfl fun a hF => ?_
                refine wpList_nil ?_
                refine tN ?_
                refine c_cond hF rfl (fun h10 => ?_) (fun h10 => ?_)
                ·
                  refine wp_region_lit ?_
                  refine st hF (g_move hF rfl) rfl fun a hF => st hF (g_move hF rfl) rfl fun a hF => st hF (g_sub hF rfl rfl (wrap_u8 (by omega) (by omega))) rfl fun a hF => st hF (g_add hF rfl rfl (wrap_u8 (by omega) (by omega))) rfl fun a hF => st hF (g_indexAddr ty_ar_27 hF rfl rfl rfl (by omega)) rfl fun a hF => ?_
                  refine stN hF (d_store 2 hM rfl ty_on_5 hF rfl rfl rfl (by first | omega | (simp only [fnC_size, cells_size, vecC_size, tabC_size, planeC_size, dgC_size] <;> omega))) ?_
                  intro _ w' a hM hF
                  change Mem w w' [some (b1, algC (p : Int) (n : Int) T f), some (b2, fnC 6 (fun _ => .int .u8 (0))), some (b3, (vecC (fun c => if c < gi then num (byt s c) else 0)).setIfInBounds (0 + (gi) * 1) (.int .u8 (((byt s (gi) : Nat) : Int) - 97 + 10)))] [] at hM
                  refine wpList_nil ?_
                  refine iN ?_
                  refine iN ?_
                  refine tN ?_
                  refine wp_region_lit ?_
                  refine st hF (g_move hF rfl) rfl fun a hF => st hF (g_add hF rfl rfl (add_nat (gi) (1) (by omega))) rfl fun a hF => st hF (g_assign hF rfl) rfl fun a hF => ?_
                  refine wpList_nil ?_
                  refine tN ?_
                  refine ⟨gi + 1, ⟨by omega, trivial, hF.sub _ (by repeat' constructor), ?_⟩, by omega⟩
                  refine hM.rowc 2 rfl (dgC_set (m := 6) (k := gi) (f := fun c => if c < gi then num (byt s c) else 0) (g := fun c => if c < gi + 1 then num (byt s c) else 0) (by omega) ((by simp; omega)) (fun c hc he => ?_))
                  have e0 : (c < gi + 1) = (c < gi) := by apply propext; omega
                  simp only [e0]
                ·
                  refine sq ?_
                  refine wp_region_lit ?_
                  refine st hF (g_build0 ty_bu_27) rfl fun a hF => ?_
                  refine stN hF (d_storeAgg 1 hM rfl ty_sz_27 hF rfl rfl (by first | exact vecC_one | exact cells_one | (refine fnC_one fun _ _ => ?_; first | rfl | (split <;> rfl))) (by simp only [fnC_size, cells_size, vecC_size, tabC_size, planeC_size, dgC_size]) (by simp only [fnC_size, cells_size, vecC_size, tabC_size, planeC_size, dgC_size] <;> omega) (splice_whole _ _ (by simp only [fnC_size, cells_size, vecC_size, tabC_size, planeC_size, dgC_size]))) ?_
                  intro _ w' a hM hF
                  change Mem w w' [some (b1, algC (p : Int) (n : Int) T f), some (b2, fnC 6 (fun _ => .int .u8 (0))), some (b3, vecC (fun c => if c < gi then num (byt s c) else 0))] [] at hM
                  refine st hF (g_assign hF rfl) rfl fun a hF => ?_
                  refine wpList_nil ?_
                  refine tN ?_
                  refine wp_ret ?_
                  refine iR ?_
                  refine iR ?_
                  refine tR ?_
                  refine tR ?_
                  refine iR ?_
                  refine tR ?_
                  refine fin2 rfl hF.defers (res_agg ty_ag_27 hF rfl (hM.row 1 rfl) (by simp only [fnC_size, cells_size, vecC_size, tabC_size, planeC_size, dgC_size])) (res_tmp hF rfl) ⟨_, rfl, hM.below, ?_⟩
                  show _ = _
                  exfalso; omega
              ·
                first | rw [decide_eq_false g9] at hF | simp only [decide_eq_false g9] at hF
                refine stS hF rfl rfl rfl rfl rfl fun a hF => stS hF rfl rfl rfl rfl rfl fun a hF => st hF (g_pickF hF rfl rfl) rfl fun a hF => st hF (g_assign hF rfl) rfl fun a hF => ?_
                refine wpList_nil ?_
                refine tN ?_
                refine c_Fl hF rfl ?_
                refine sq ?_
                refine wp_region_lit ?_
                refine st hF (g_build0 ty_bu_27) rfl fun a hF => ?_
                refine stN hF (d_storeAgg 1 hM rfl ty_sz_27 hF rfl rfl (by first | exact vecC_one | exact cells_one | (refine fnC_one fun _ _ => ?_; first | rfl | (split <;> rfl))) (by simp only [fnC_size, cells_size, vecC_size, tabC_size, planeC_size, dgC_size]) (by simp only [fnC_size, cells_size, vecC_size, tabC_size, planeC_size, dgC_size] <;> omega) (splice_whole _ _ (by simp only [fnC_size, cells_size, vecC_size, tabC_size, planeC_size, dgC_size]))) ?_
                intro _ w' a hM hF
                change Mem w w' [some (b1, algC (p : Int) (n : Int) T f), some (b2, fnC 6 (fun _ => .int .u8 (0))), some (b3, vecC (fun c => if c < gi then num (byt s c) else 0))] [] at hM
                refine st hF (g_assign hF rfl) rfl fun a hF => ?_
                refine wpList_nil ?_
                refine tN ?_
                refine wp_ret ?_
                refine iR ?_
                refine iR ?_
                refine tR ?_
                refine tR ?_
                refine iR ?_
                refine tR ?_
                refine fin2 rfl hF.defers (res_agg ty_ag_27 hF rfl (hM.row 1 rfl) (by simp only [fnC_size, cells_size, vecC_size, tabC_size, planeC_size, dgC_size])) (res_tmp hF rfl) ⟨_, rfl, hM.below, ?_⟩
                show _ = _
                exfalso; omega
          ·
            first | rw [decide_eq_false g7] at hF | simp only [decide_eq_false g7] at hF
            refine stS hF rfl rfl rfl rfl rfl fun a hF => stS hF rfl rfl rfl rfl rfl fun a hF => st hF (g_pickF hF rfl rfl) rfl fun a hF => st hF (g_assign hF rfl) rfl fun a hF => ?_
            refine wpList_nil ?_
            refine tN ?_
            refine c_Fl hF rfl ?_
            refine sq ?_
            refine wp_region_lit ?_
            refine st hF (g_move hF rfl) rfl fun a hF => st hF (g_geq hF rfl rfl) rfl fun a hF => st hF (g_move hF rfl) rfl fun a hF => ?_
            by_cases g13 : 97 ≤ (((byt s (gi) : Nat) : Int) : Int)
            ·
              first | rw [decide_eq_true g13] at hF | simp only [decide_eq_true g13] at hF
              refine stY hF rfl rfl rfl (g_move hF rfl) rfl fun a hF => stY hF rfl rfl rfl (g_leq hF rfl rfl) rfl fun a hF => st hF (g_pickT hF rfl rfl) rfl fun a hF => st hF (g_assign hF rfl) rfl fun a hF => ?_
              refine wpList_nil ?_
              refine tN ?_
              refine c_cond hF rfl (fun h14 => ?_) (fun h14 => ?_)
              ·
                refine wp_region_lit ?_
                refine st hF (g_move hF rfl) rfl fun a hF => st hF (g_move hF rfl) rfl fun a hF => st hF (g_sub hF rfl rfl (wrap_u8 (by omega) (by omega))) rfl fun a hF => st hF (g_add hF rfl rfl (wrap_u8 (by omega) (by omega))) rfl fun a hF => st hF (g_indexAddr ty_ar_27 hF rfl rfl rfl (by omega)) rfl fun a hF => ?_
                refine stN hF (d_store 2 hM rfl ty_on_5 hF rfl rfl rfl (by first | omega | (simp only [fnC_size, cells_size, vecC_size, tabC_size, planeC_size, dgC_size] <;> omega))) ?_
                intro _ w' a hM hF
                change Mem w w' [some (b1, algC (p : Int) (n : Int) T f), some (b2, fnC 6 (fun _ => .int .u8 (0))), some (b3, (vecC (fun c => if c < gi then num (byt s c) else 0)).setIfInBounds (0 + (gi) * 1) (.int .u8 (((byt s (gi) : Nat) : Int) - 97 + 10)))] [] at hM
                refine wpList_nil ?_
                refine iN ?_
                refine iN ?_
                refine tN ?_
                refine wp_region_lit ?_
                refine st hF (g_move hF rfl) rfl fun a hF => st hF (g_add hF rfl rfl (add_nat (gi) (1) (by omega))) rfl fun a hF => st hF (g_assign hF rfl) rfl fun a hF => ?_
                refine wpList_nil ?_
                refine tN ?_
                refine ⟨gi + 1, ⟨by omega, trivial, hF.sub _ (by repeat' constructor), ?_⟩, by omega⟩
                refine hM.rowc 2 rfl (dgC_set (m := 6) (k := gi) (f := fun c => if c < gi then num (byt s c) else 0) (g := fun c => if c < gi + 1 then num (byt s c) else 0) (by omega) ((by simp; omega)) (fun c hc he => ?_))
                have e0 : (c < gi + 1) = (c < gi) := by apply propext; omega
                simp only [e0]
              ·
                refine sq ?_
                refine wp_region_lit ?_
                refine st hF (g_build0 ty_bu_27) rfl fun a hF => ?_
                refine stN hF (d_storeAgg 1 hM rfl ty_sz_27 hF rfl rfl (by first | exact vecC_one | exact cells_one | (refine fnC_one fun _ _ => ?_; first | rfl | (split <;> rfl))) (by simp only [fnC_size, cells_size, vecC_size, tabC_size, planeC_size, dgC_size]) (by simp only [fnC_size, cells_size, vecC_size, tabC_size, planeC_size, dgC_size] <;> omega) (splice_whole _ _ (by simp only [fnC_size, cells_size, vecC_size, tabC_size, planeC_size, dgC_size]))) ?_
                intro _ w' a hM hF
                change Mem w w' [some (b1, algC (p : Int) (n : Int) T f), some (b2, fnC 6 (fun _ => .int .u8 (0))), some (b3, vecC (fun c => if c < gi then num (byt s c) else 0))] [] at hM
                refine st hF (g_assign hF rfl) rfl fun a hF => ?_
                refine wpList_nil ?_
                refine tN ?_
                refine wp_ret ?_
                refine iR ?_
                refine iR ?_
                refine tR ?_
                refine tR ?_
                refine iR ?_
                refine tR ?_
                refine fin2 rfl hF.defers (res_agg ty_ag_27 hF rfl (hM.row 1 rfl) (by simp only [fnC_size, cells_size, vecC_size, tabC_size, planeC_size, dgC_size])) (res_tmp hF rfl) ⟨_, rfl, hM.below, ?_⟩
                show _ = _
                exfalso; omega
            ·
              first | rw [decide_eq_false g13] at hF | simp only [decide_eq_false g13] at hF
              refine stS hF rfl rfl rfl rfl rfl fun a hF => stS hF rfl rfl rfl rfl rfl fun a hF => st hF (g_pickF hF rfl rfl) rfl fun a hF => st hF (g_assign hF rfl) rfl fun a hF => ?_
              refine wpList_nil ?_
              refine tN ?_
              refine c_Fl hF rfl ?_
              refine sq ?_
              refine wp_region_lit ?_
              refine st hF (g_build0 ty_bu_27) rfl fun a hF => ?_
              refine stN hF (d_storeAgg 1 hM rfl ty_sz_27 hF rfl rfl (by first | exact vecC_one | exact cells_one | (refine fnC_one fun _ _ => ?_; first | rfl | (split <;> rfl))) (by simp only [fnC_size, cells_size, vecC_size, tabC_size, planeC_size, dgC_size]) (by simp only [fnC_size, cells_size, vecC_size, tabC_size, planeC_size, dgC_size] <;> omega) (splice_whole _ _ (by simp only [fnC_size, cells_size, vecC_size, tabC_size, planeC_size, dgC_size]))) ?_
              intro _ w' a hM hF
              change Mem w w' [some (b1, algC (p : Int) (n : Int) T f), some (b2, fnC 6 (fun _ => .int .u8 (0))), some (b3, vecC (fun c => if c < gi then num (byt s c) else 0))] [] at hM
              refine st hF (g_assign hF rfl) rfl fun a hF => ?_
              refine wpList_nil ?_
              refine tN ?_
              refine wp_ret ?_
              refine iR ?_
              refine iR ?_
              refine tR ?_
              refine tR ?_
              refine iR ?_
              refine tR ?_
              refine fin2 rfl hF.defers (res_agg ty_ag_27 hF rfl (hM.row 1 rfl) (by simp only [fnC_size, cells_size, vecC_size, tabC_size, planeC_size, dgC_size])) (res_tmp hF rfl) ⟨_, rfl, hM.below, ?_⟩
              show _ = _
              exfalso; omega
        ·
          obtain rfl : s.size = gi := by omega
          have hM := hM.rowc (cs' := vecC (rdV n s)) 2 rfl (dgC_congr (m := 6) (f := fun c => if c < s.size then num (byt s c) else 0) (g := rdV n s) fun c hc => by unfold rdV; rw [hsz])
          refine wp_exit ?_
          refine tX ?_
          refine tX ?_
          refine ib_same ?_
          refine tN ?_
          refine sq ?_
          refine sq ?_
          refine wp_region_lit ?_
          refine st hF (g_loadAgg ty_ag_31 hF rfl (hM.row 0 rfl) (by simp only [fnC_size, cells_size, vecC_size, tabC_size, planeC_size, dgC_size] <;> omega) (whole cells_size)) rfl fun a hF => st hF (g_loadAgg ty_ag_27 hF rfl (hM.row 2 rfl) (by simp only [fnC_size, cells_size, vecC_size, tabC_size, planeC_size, dgC_size] <;> omega) (whole (by simp only [fnC_size, cells_size, vecC_size, tabC_size, planeC_size, dgC_size]))) rfl fun a hF => ?_
          refine stR hF (d_call Try.call15 hF (.cons rfl (.cons rfl .nil)) (l01Vector_ok (p : Int) (n : Int) T f (rdV n s) _ (fun _ => by first | exact hv _ | exact hu _ | exact hT _ _ _ | exact hf _ | omega | (split <;> omega) | (dsimp only; split <;> omega) | assumption))) rfl ?_
          rintro _ w' a ⟨hx, rfl⟩ hF
          have hM := hM.ext hx
          refine st hF (g_notP hF rfl) rfl fun a hF => ?_
          refine wpList_nil ?_
          refine tN ?_
          refine c_cond hF rfl (fun h16 => ?_) (fun h16 => ?_)
          ·
            exact absurd ((okV_rd hp0 hn).2 hr.2) h16
          ·
            refine wp_skip ?_
            refine tN ?_
            refine sq ?_
            refine wp_region_lit ?_
            refine st hF (g_loadAgg ty_ag_27 hF rfl (hM.row 2 rfl) (by simp only [fnC_size, cells_size, vecC_size, tabC_size, planeC_size, dgC_size] <;> omega) (whole (by simp only [fnC_size, cells_size, vecC_size, tabC_size, planeC_size, dgC_size]))) rfl fun a hF => ?_
            refine stN hF (d_storeAgg 1 hM rfl ty_sz_27 hF rfl rfl (by first | exact vecC_one | exact cells_one | (refine fnC_one fun _ _ => ?_; first | rfl | (split <;> rfl))) (by simp only [fnC_size, cells_size, vecC_size, tabC_size, planeC_size, dgC_size]) (by simp only [fnC_size, cells_size, vecC_size, tabC_size, planeC_size, dgC_size] <;> omega) (splice_whole _ _ (by simp only [fnC_size, cells_size, vecC_size, tabC_size, planeC_size, dgC_size]))) ?_
            intro _ w' a hM hF
            change Mem w w' [some (b1, algC (p : Int) (n : Int) T f), some (b2, vecC (rdV n s)), some (b3, vecC (rdV n s))] [] at hM
            refine st hF (g_assign hF rfl) rfl fun a hF => ?_
            refine wpList_nil ?_
            refine tN ?_
            refine wp_ret ?_
            refine fin2 rfl hF.defers (res_agg ty_ag_27 hF rfl (hM.row 1 rfl) (by simp only [fnC_size, cells_size, vecC_size, tabC_size, planeC_size, dgC_size])) (res_tmp hF rfl) ⟨_, rfl, hM.below, ?_⟩
            show _ = _
            rfl

theorem l01ReadVector_N (p n : Nat) (T : Nat → Nat → Nat → Nat) (f : Nat → Nat) (s : ByteArray) (w : World) (hp0 : 0 < p) (hp13 : p ≤ 13) (hn0 : 0 < n) (hn : n ≤ 6) (hz : s.size < 10000000) (hr : ¬ rdP p n s) :
    CallsR Try.prog 9 #[.agg (algC (p : Int) (n : Int) T f), .string (s)] w (fun res _ => res = .tuple #[.agg (vecC (fun _ => 0)), .bool false]) := by
  refine calls_fr [.agg (algC (p : Int) (n : Int) T f), .string (s)] Try.func9 rfl Try.ntmps9 rfl fun a hF => ?_
  have hM : Mem w w [none, none, none] [] := MemX.start w 3
  change Fr 60 a [(0, .agg (algC (p : Int) (n : Int) T f)), (1, .string (s))] at hF
  have hv := rdV_le (n := n) (s := s)
  refine sq ?_
  refine wp_region_lit ?_
  refine stR hF (d_box 0 hM hF rfl) rfl ?_
  rintro _ w' a ⟨b1, rfl, hM, -⟩ hF
  change Mem w w' [some (b1, algC (p : Int) (n : Int) T f), none, none] [] at hM
  refine stR hF (d_alloc 1 hM ty_ze_27) rfl ?_
  rintro _ w' a ⟨b2, rfl, hM, -⟩ hF
  change Mem w w' [some (b1, algC (p : Int) (n : Int) T f), some (b2, fnC 6 (fun _ => .int .u8 (0))), none] [] at hM
  refine st hF (g_assign hF rfl) rfl fun a hF => ?_
  refine wpList_nil ?_
  refine tN ?_
  refine sq ?_
  refine wp_region_lit ?_
  refine st hF (g_build0 ty_bu_27) rfl fun a hF => ?_
  refine stR hF (d_alloc 2 hM ty_ze_27) rfl ?_
  rintro _ w' a ⟨b3, rfl, hM, -⟩ hF
  change Mem w w' [some (b1, algC (p : Int) (n : Int) T f), some (b2, fnC 6 (fun _ => .int .u8 (0))), some (b3, fnC 6 (fun _ => .int .u8 (0)))] [] at hM
  refine stN hF (d_storeAgg 2 hM rfl ty_sz_27 hF rfl rfl (by first | exact vecC_one | exact cells_one | (refine fnC_one fun _ _ => ?_; first | rfl | (split <;> rfl))) (by simp only [fnC_size, cells_size, vecC_size, tabC_size, planeC_size, dgC_size]) (by simp only [fnC_size, cells_size, vecC_size, tabC_size, planeC_size, dgC_size] <;> omega) (splice_whole _ _ (by simp only [fnC_size, cells_size, vecC_size, tabC_size, planeC_size, dgC_size]))) ?_
  intro _ w' a hM hF
  change Mem w w' [some (b1, algC (p : Int) (n : Int) T f), some (b2, fnC 6 (fun _ => .int .u8 (0))), some (b3, fnC 6 (fun _ => .int .u8 (0)))] [] at hM
  refine wpList_nil ?_
  refine tN ?_
  refine sq ?_
  refine sq ?_
  refine wp_region_lit ?_
  refine st hF (g_move hF rfl) rfl fun a hF => st hF (g_lenS ty_ut_9 hF rfl) rfl fun a hF => st hF (g_fieldAddr ty_fo_31_1 hF rfl) rfl fun a hF => st hF (g_load ty_on_2 hF rfl (hM.row 0 rfl) (algC_n (by omega))) rfl fun a hF => st hF (g_neq hF rfl rfl) rfl fun a hF => st hF (g_move hF rfl) rfl fun a hF => ?_
  by_cases g4 : (((s.size : Nat) : Int) : Int) ≠ ((n : Nat) : Int)
  ·
    first | rw [decide_eq_true g4] at hF | simp only [decide_eq_true g4] at hF
    refine stS hF rfl rfl rfl rfl rfl fun a hF => stS hF rfl rfl rfl rfl rfl fun a hF => stS hF rfl rfl rfl rfl rfl fun a hF => st hF (g_pickT hF rfl rfl) rfl fun a hF => ?_
    refine wpList_nil ?_
    refine tN ?_
    refine c_T hF rfl ?_
    refine sq ?_
    refine wp_region_lit ?_
    refine st hF (g_build0 ty_bu_27) rfl fun a hF => ?_
    refine stN hF (d_storeAgg 1 hM rfl ty_sz_27 hF rfl rfl (by first | exact vecC_one | exact cells_one | (refine fnC_one fun _ _ => ?_; first | rfl | (split <;> rfl))) (by simp only [fnC_size, cells_size, vecC_size, tabC_size, planeC_size, dgC_size]) (by simp only [fnC_size, cells_size, vecC_size, tabC_size, planeC_size, dgC_size] <;> omega) (splice_whole _ _ (by simp only [fnC_size, cells_size, vecC_size, tabC_size, planeC_size, dgC_size]))) ?_
    intro _ w' a hM hF
    change Mem w w' [some (b1, algC (p : Int) (n : Int) T f), some (b2, fnC 6 (fun _ => .int .u8 (0))), some (b3, fnC 6 (fun _ => .int .u8 (0)))] [] at hM
    refine st hF (g_assign hF rfl) rfl fun a hF => ?_
    refine wpList_nil ?_
    refine tN ?_
    refine wp_ret ?_
    refine tR ?_
    refine fin2 rfl hF.defers (res_agg ty_ag_27 hF rfl (hM.row 1 rfl) (by simp only [fnC_size, cells_size, vecC_size, tabC_size, planeC_size, dgC_size])) (res_tmp hF rfl) ⟨_, rfl, hM.below, ?_⟩
    show _ = _
    rfl
  ·
    first | rw [decide_eq_false g4] at hF | simp only [decide_eq_false g4] at hF
    refine stY hF rfl rfl rfl (g_move hF rfl) rfl fun a hF => stY hF rfl rfl rfl (g_lenS ty_ut_9 hF rfl) rfl fun a hF => stY hF rfl rfl rfl (g_gtr hF rfl rfl) rfl fun a hF => st hF (g_pickF hF rfl rfl) rfl fun a hF => ?_
    refine wpList_nil ?_
    refine tN ?_
    refine c_cond hF rfl (fun h6 => ?_) (fun h6 => ?_)
    ·
      refine sq ?_
      refine wp_region_lit ?_
      refine st hF (g_build0 ty_bu_27) rfl fun a hF => ?_
      refine stN hF (d_storeAgg 1 hM rfl ty_sz_27 hF rfl rfl (by first | exact vecC_one | exact cells_one | (refine fnC_one fun _ _ => ?_; first | rfl | (split <;> rfl))) (by simp only [fnC_size, cells_size, vecC_size, tabC_size, planeC_size, dgC_size]) (by simp only [fnC_size, cells_size, vecC_size, tabC_size, planeC_size, dgC_size] <;> omega) (splice_whole _ _ (by simp only [fnC_size, cells_size, vecC_size, tabC_size, planeC_size, dgC_size]))) ?_
      intro _ w' a hM hF
      change Mem w w' [some (b1, algC (p : Int) (n : Int) T f), some (b2, fnC 6 (fun _ => .int .u8 (0))), some (b3, fnC 6 (fun _ => .int .u8 (0)))] [] at hM
      refine st hF (g_assign hF rfl) rfl fun a hF => ?_
      refine wpList_nil ?_
      refine tN ?_
      refine wp_ret ?_
      refine tR ?_
      refine fin2 rfl hF.defers (res_agg ty_ag_27 hF rfl (hM.row 1 rfl) (by simp only [fnC_size, cells_size, vecC_size, tabC_size, planeC_size, dgC_size])) (res_tmp hF rfl) ⟨_, rfl, hM.below, ?_⟩
      show _ = _
      rfl
    ·
      have hsz : s.size = n := by omega
      refine wp_skip ?_
      refine tN ?_
      refine sq ?_
      refine sq ?_
      refine wp_region_lit ?_
      refine st hF (g_assign hF rfl) rfl fun a hF => ?_
      refine wpList_nil ?_
      refine tN ?_
      refine wp_block ?_
      change Mem w _ [some (b1, algC (p : Int) (n : Int) T f), some (b2, fnC 6 (fun _ => .int .u8 (0))), some (b3, fnC 6 (fun _ => .int .u8 (0)))] [] at hM
      refine c_loop (fun (kk : Nat) a w' => kk ≤ s.size ∧ (True) ∧ Fr 60 a [(0, .agg (algC (p : Int) (n : Int) T f)), (1, .string (s)), (2, ptr b1 (0)), (4, ptr b2 (0)), (9, .agg (fnC 6 (fun _ => .int .u8 (0)))), (6, ptr b3 (0)), (10, .string (s)), (11, .int .i64 (((s.size : Nat) : Int))), (12, ptr b1 (0 + 1)), (13, .int .i64 (((n : Nat) : Int))), (14, .bool (false)), (15, .bool (false)), (16, .string (s)), (17, .int .i64 (((s.size : Nat) : Int))), (18, .bool (decide (6 < (((s.size : Nat) : Int) : Int)))), (19, .bool (decide (6 < (((s.size : Nat) : Int) : Int)))), (7, .int .i64 (((kk : Nat) : Int)))] ∧ Mem w w' [some (b1, algC (p : Int) (n : Int) T f), some (b2, fnC 6 (fun _ => .int .u8 (0))), some (b3, vecC (fun c => if c < kk then num (byt s c) else 0))] []) (fun kk => s.size - kk) 0 ?_ ?_
      ·
        refine ⟨by omega, trivial, hF.sub _ (by repeat' constructor), ?_⟩
        exact hM.rowc 2 rfl (dgC_congr (m := 6) (f := fun _ => 0) fun c hc => by simp)
      ·
        clear hF hM
        rintro gi a w' ⟨hgi, hinv1, hF, hM⟩
        have hzs := zi_spec (byt s gi)
        have hns := num_spec (byt s gi)
        refine sq ?_
        refine sq ?_
        refine wp_region_lit ?_
        refine st hF (g_move hF rfl) rfl fun a hF => st hF (g_move hF rfl) rfl fun a hF => st hF (g_lenS ty_ut_9 hF rfl) rfl fun a hF => st hF (g_lss hF rfl rfl) rfl fun a hF => ?_
        refine wpList_nil ?_
        refine tN ?_
        refine c_cond hF rfl (fun h7 => ?_) (fun h7 => ?_)
        ·
          refine wp_skip ?_
          refine tN ?_
          refine sq ?_
          refine wp_block ?_
          refine sq ?_
          refine wp_region_lit ?_
          refine st hF (g_move hF rfl) rfl fun a hF => st hF (g_move hF rfl) rfl fun a hF => st hF (g_indexS (i := gi) ty_ut_9 hF rfl rfl rfl (by omega)) rfl fun a hF => st hF (g_assign hF rfl) rfl fun a hF => ?_
          refine wpList_nil ?_
          refine tN ?_
          refine wp_block ?_
          refine sq ?_
          refine wp_region_lit ?_
          refine st hF (g_move hF rfl) rfl fun a hF => st hF (g_geq hF rfl rfl) rfl fun a hF => st hF (g_move hF rfl) rfl fun a hF => ?_
          by_cases g8 : 48 ≤ (((byt s (gi) : Nat) : Int) : Int)
          ·
            first | rw [decide_eq_true g8] at hF | simp only [decide_eq_true g8] at hF
            refine stY hF rfl rfl rfl (g_move hF rfl) rfl fun a hF => stY hF rfl rfl rfl (g_leq hF rfl rfl) rfl fun a hF => st hF (g_pickT hF rfl rfl) rfl fun a hF => st hF (g_assign hF rfl) rfl fun a hF => ?_
            refine wpList_nil ?_
            refine tN ?_
            refine c_cond hF rfl (fun h9 => ?_) (fun h9 => ?_)
            ·
              refine wp_region_lit ?_
              refine st hF (g_move hF rfl) rfl fun a hF => st hF (g_move hF rfl) rfl fun a hF => st hF (g_sub hF rfl rfl (wrap_u8 (by omega) (by omega))) rfl fun a hF => st hF (g_indexAddr ty_ar_27 hF rfl rfl rfl (by omega)) rfl fun a hF => ?_
              refine stN hF (d_store 2 hM rfl ty_on_5 hF rfl rfl rfl (by first | omega | (simp only [fnC_size, cells_size, vecC_size, tabC_size, planeC_size, dgC_size] <;> omega))) ?_
              intro _ w' a hM hF
              change Mem w w' [some (b1, algC (p : Int) (n : Int) T f), some (b2, fnC 6 (fun _ => .int .u8 (0))), some (b3, (vecC (fun c => if c < gi then num (byt s c) else 0)).setIfInBounds (0 + (gi) * 1) (.int .u8 (((byt s (gi) : Nat) : Int) - 48)))] [] at hM
              refine wpList_nil ?_
              refine iN ?_
              refine iN ?_
              refine tN ?_
              refine wp_region_lit ?_
              refine st hF (g_move hF rfl) rfl fun a hF => st hF (g_add hF rfl rfl (add_nat (gi) (1) (by omega))) rfl fun a hF => st hF (g_assign hF rfl) rfl fun a hF => ?_
              refine wpList_nil ?_
              refine tN ?_
              refine ⟨gi + 1, ⟨by omega, trivial, hF.sub _ (by repeat' constructor), ?_⟩, by omega⟩
              refine hM.rowc 2 rfl (dgC_set (m := 6) (k := gi) (f := fun c => if c < gi then num (byt s c) else 0) (g := fun c => if c < gi + 1 then num (byt s c) else 0) (by omega) ((by simp; omega)) (fun c hc he => ?_))
              have e0 : (c < gi + 1) = (c < gi) := by apply propext; omega
              simp only [e0]
            ·
              refine sq ?_
              refine wp_region_lit ?_
              refine st hF (g_move hF rfl) rfl fun a hF => st hF (g_geq hF rfl rfl) rfl fun a hF => st hF (g_move hF rfl) rfl fun a hF => ?_
              by_cases g10 : 97 ≤ (((byt s (gi) : Nat) : Int) : Int)
              ·
                first | rw [decide_eq_true g10] at hF | simp only [decide_eq_true g10] at hF
                refine stY hF rfl rfl rfl (g_move hF rfl) rfl fun a hF => stY hF rfl rfl rfl (g_leq hF rfl rfl) rfl fun a hF => st hF (g_pickT hF rfl rfl) rfl fun a hF => st hF (g_assign hF rfl) rfl fun a hF => ?_
                refine wpList_nil ?_
                refine tN ?_
                refine c_cond hF rfl (fun h11 => ?_) (fun h11 => ?_)
                ·
                  refine wp_region_lit ?_
                  refine st hF (g_move hF rfl) rfl fun a hF => st hF (g_move hF rfl) rfl fun a hF => st hF (g_sub hF rfl rfl (wrap_u8 (by omega) (by omega))) rfl fun a hF => st hF (g_add hF rfl rfl (wrap_u8 (by omega) (by omega))) rfl fun a hF => st hF (g_indexAddr ty_ar_27 hF rfl rfl rfl (by omega)) rfl fun a hF => ?_
                  refine stN hF (d_store 2 hM rfl ty_on_5 hF rfl rfl rfl (by first | omega | (simp only [fnC_size, cells_size, vecC_size, tabC_size, planeC_size, dgC_size] <;> omega))) ?_
                  intro _ w' a hM hF
                  change Mem w w' [some (b1, algC (p : Int) (n : Int) T f), some (b2, fnC 6 (fun _ => .int .u8 (0))), some (b3, (vecC (fun c => if c < gi then num (byt s c) else 0)).setIfInBounds (0 + (gi) * 1) (.int .u8 (((byt s (gi) : Nat) : Int) - 97 + 10)))] [] at hM
                  refine wpList_nil ?_
                  refine iN ?_
                  refine iN ?_
                  refine tN ?_
                  refine wp_region_lit ?_
                  refine st hF (g_move hF rfl) rfl fun a hF => st hF (g_add hF rfl rfl (add_nat (gi) (1) (by omega))) rfl fun a hF => st hF (g_assign hF rfl) rfl fun a hF => ?_
                  refine wpList_nil ?_
                  refine tN ?_
                  refine ⟨gi + 1, ⟨by omega, trivial, hF.sub _ (by repeat' constructor), ?_⟩, by omega⟩
                  refine hM.rowc 2 rfl (dgC_set (m := 6) (k := gi) (f := fun c => if c < gi then num (byt s c) else 0) (g := fun c => if c < gi + 1 then num (byt s c) else 0) (by omega) ((by simp; omega)) (fun c hc he => ?_))
                  have e0 : (c < gi + 1) = (c < gi) := by apply propext; omega
                  simp only [e0]
                ·
                  refine sq ?_
                  refine wp_region_lit ?_
                  refine st hF (g_build0 ty_bu_27) rfl fun a hF => ?_
                  refine stN hF (d_storeAgg 1 hM rfl ty_sz_27 hF rfl rfl (by first | exact vecC_one | exact cells_one | (refine fnC_one fun _ _ => ?_; first | rfl | (split <;> rfl))) (by simp only [fnC_size, cells_size, vecC_size, tabC_size, planeC_size, dgC_size]) (by simp only [fnC_size, cells_size, vecC_size, tabC_size, planeC_size, dgC_size] <;> omega) (splice_whole _ _ (by simp only [fnC_size, cells_size, vecC_size, tabC_size, planeC_size, dgC_size]))) ?_
                  intro _ w' a hM hF
                  change Mem w w' [some (b1, algC (p : Int) (n : Int) T f), some (b2, fnC 6 (fun _ => .int .u8 (0))), some (b3, vecC (fun c => if c < gi then num (byt s c) else 0))] [] at hM
                  refine st hF (g_assign hF rfl) rfl fun a hF => ?_
                  refine wpList_nil ?_
                  refine tN ?_
                  refine wp_ret ?_
                  refine iR ?_
                  refine iR ?_
                  refine tR ?_
                  refine tR ?_
                  refine iR ?_
                  refine tR ?_
                  refine fin2 rfl hF.defers (res_agg ty_ag_27 hF rfl (hM.row 1 rfl) (by simp only [fnC_size, cells_size, vecC_size, tabC_size, planeC_size, dgC_size])) (res_tmp hF rfl) ⟨_, rfl, hM.below, ?_⟩
                  show _ = _
                  rfl
              ·
                first | rw [decide_eq_false g10] at hF | simp only [decide_eq_false g10] at hF
                refine stS hF rfl rfl rfl rfl rfl fun a hF => stS hF rfl rfl rfl rfl rfl fun a hF => st hF (g_pickF hF rfl rfl) rfl fun a hF => st hF (g_assign hF rfl) rfl fun a hF => ?_
                refine wpList_nil ?_
                refine tN ?_
                refine c_Fl hF rfl ?_
                refine sq ?_
                refine wp_region_lit ?_
                refine st hF (g_build0 ty_bu_27) rfl fun a hF => ?_
                refine stN hF (d_storeAgg 1 hM rfl ty_sz_27 hF rfl rfl (by first | exact vecC_one | exact cells_one | (refine fnC_one fun _ _ => ?_; first | rfl | (split <;> rfl))) (by simp only [fnC_size, cells_size, vecC_size, tabC_size, planeC_size, dgC_size]) (by simp only [fnC_size, cells_size, vecC_size, tabC_size, planeC_size, dgC_size] <;> omega) (splice_whole _ _ (by simp only [fnC_size, cells_size, vecC_size, tabC_size, planeC_size, dgC_size]))) ?_
                intro _ w' a hM hF
                change Mem w w' [some (b1, algC (p : Int) (n : Int) T f), some (b2, fnC 6 (fun _ => .int .u8 (0))), some (b3, vecC (fun c => if c < gi then num (byt s c) else 0))] [] at hM
                refine st hF (g_assign hF rfl) rfl fun a hF => ?_
                refine wpList_nil ?_
                refine tN ?_
                refine wp_ret ?_
                refine iR ?_
                refine iR ?_
                refine tR ?_
                refine tR ?_
                refine iR ?_
                refine tR ?_
                refine fin2 rfl hF.defers (res_agg ty_ag_27 hF rfl (hM.row 1 rfl) (by simp only [fnC_size, cells_size, vecC_size, tabC_size, planeC_size, dgC_size])) (res_tmp hF rfl) ⟨_, rfl, hM.below, ?_⟩
                show _ = _
                rfl
          ·
            first | rw [decide_eq_false g8] at hF | simp only [decide_eq_false g8] at hF
            refine stS hF rfl rfl rfl rfl rfl fun a hF => stS hF rfl rfl rfl rfl rfl fun a hF => st hF (g_pickF hF rfl rfl) rfl fun a hF => st hF (g_assign hF rfl) rfl fun a hF => ?_
            refine wpList_nil ?_
            refine tN ?_
            refine c_Fl hF rfl ?_
            refine sq ?_
            refine wp_region_lit ?_
            refine st hF (g_move hF rfl) rfl fun a hF => st hF (g_geq hF rfl rfl) rfl fun a hF => st hF (g_move hF rfl) rfl fun a hF => ?_
            by_cases g14 : 97 ≤ (((byt s (gi) : Nat) : Int) : Int)
            ·
              first | rw [decide_eq_true g14] at hF | simp only [decide_eq_true g14] at hF
              refine stY hF rfl rfl rfl (g_move hF rfl) rfl fun a hF => stY hF rfl rfl rfl (g_leq hF rfl rfl) rfl fun a hF => st hF (g_pickT hF rfl rfl) rfl fun a hF => st hF (g_assign hF rfl) rfl fun a hF => ?_
              refine wpList_nil ?_
              refine tN ?_
              refine c_cond hF rfl (fun h15 => ?_) (fun h15 => ?_)
              ·
                refine wp_region_lit ?_
                refine st hF (g_move hF rfl) rfl fun a hF => st hF (g_move hF rfl) rfl fun a hF => st hF (g_sub hF rfl rfl (wrap_u8 (by omega) (by omega))) rfl fun a hF => st hF (g_add hF rfl rfl (wrap_u8 (by omega) (by omega))) rfl fun a hF => st hF (g_indexAddr ty_ar_27 hF rfl rfl rfl (by omega)) rfl fun a hF => ?_
                refine stN hF (d_store 2 hM rfl ty_on_5 hF rfl rfl rfl (by first | omega | (simp only [fnC_size, cells_size, vecC_size, tabC_size, planeC_size, dgC_size] <;> omega))) ?_
                intro _ w' a hM hF
                change Mem w w' [some (b1, algC (p : Int) (n : Int) T f), some (b2, fnC 6 (fun _ => .int .u8 (0))), some (b3, (vecC (fun c => if c < gi then num (byt s c) else 0)).setIfInBounds (0 + (gi) * 1) (.int .u8 (((byt s (gi) : Nat) : Int) - 97 + 10)))] [] at hM
                refine wpList_nil ?_
                refine iN ?_
                refine iN ?_
                refine tN ?_
                refine wp_region_lit ?_
                refine st hF (g_move hF rfl) rfl fun a hF => st hF (g_add hF rfl rfl (add_nat (gi) (1) (by omega))) rfl fun a hF => st hF (g_assign hF rfl) rfl fun a hF => ?_
                refine wpList_nil ?_
                refine tN ?_
                refine ⟨gi + 1, ⟨by omega, trivial, hF.sub _ (by repeat' constructor), ?_⟩, by omega⟩
                refine hM.rowc 2 rfl (dgC_set (m := 6) (k := gi) (f := fun c => if c < gi then num (byt s c) else 0) (g := fun c => if c < gi + 1 then num (byt s c) else 0) (by omega) ((by simp; omega)) (fun c hc he => ?_))
                have e0 : (c < gi + 1) = (c < gi) := by apply propext; omega
                simp only [e0]
              ·
                refine sq ?_
                refine wp_region_lit ?_
                refine st hF (g_build0 ty_bu_27) rfl fun a hF => ?_
                refine stN hF (d_storeAgg 1 hM rfl ty_sz_27 hF rfl rfl (by first | exact vecC_one | exact cells_one | (refine fnC_one fun _ _ => ?_; first | rfl | (split <;> rfl))) (by simp only [fnC_size, cells_size, vecC_size, tabC_size, planeC_size, dgC_size]) (by simp only [fnC_size, cells_size, vecC_size, tabC_size, planeC_size, dgC_size] <;> omega) (splice_whole _ _ (by simp only [fnC_size, cells_size, vecC_size, tabC_size, planeC_size, dgC_size]))) ?_
                intro _ w' a hM hF
                change Mem w w' [some (b1, algC (p : Int) (n : Int) T f), some (b2, fnC 6 (fun _ => .int .u8 (0))), some (b3, vecC (fun c => if c < gi then num (byt s c) else 0))] [] at hM
                refine st hF (g_assign hF rfl) rfl fun a hF => ?_
                refine wpList_nil ?_
                refine tN ?_
                refine wp_ret ?_
                refine iR ?_
                refine iR ?_
                refine tR ?_
                refine tR ?_
                refine iR ?_
                refine tR ?_
                refine fin2 rfl hF.defers (res_agg ty_ag_27 hF rfl (hM.row 1 rfl) (by simp only [fnC_size, cells_size, vecC_size, tabC_size, planeC_size, dgC_size])) (res_tmp hF rfl) ⟨_, rfl, hM.below, ?_⟩
                show _ = _
                rfl
            ·
              first | rw [decide_eq_false g14] at hF | simp only [decide_eq_false g14] at hF
              refine stS hF rfl rfl rfl rfl rfl fun a hF => stS hF rfl rfl rfl rfl rfl fun a hF => st hF (g_pickF hF rfl rfl) rfl fun a hF => st hF (g_assign hF rfl) rfl fun a hF => ?_
              refine wpList_nil ?_
              refine tN ?_
              refine c_Fl hF rfl ?_
              refine sq ?_
              refine wp_region_lit ?_
              refine st hF (g_build0 ty_bu_27) rfl fun a hF => ?_
              refine stN hF (d_storeAgg 1 hM rfl ty_sz_27 hF rfl rfl (by first | exact vecC_one | exact cells_one | (refine fnC_one fun _ _ => ?_; first | rfl | (split <;> rfl))) (by simp only [fnC_size, cells_size, vecC_size, tabC_size, planeC_size, dgC_size]) (by simp only [fnC_size, cells_size, vecC_size, tabC_size, planeC_size, dgC_size] <;> omega) (splice_whole _ _ (by simp only [fnC_size, cells_size, vecC_size, tabC_size, planeC_size, dgC_size]))) ?_
              intro _ w' a hM hF
              change Mem w w' [some (b1, algC (p : Int) (n : Int) T f), some (b2, fnC 6 (fun _ => .int .u8 (0))), some (b3, vecC (fun c => if c < gi then num (byt s c) else 0))] [] at hM
              refine st hF (g_assign hF rfl) rfl fun a hF => ?_
              refine wpList_nil ?_
              refine tN ?_
              refine wp_ret ?_
              refine iR ?_
              refine iR ?_
              refine tR ?_
              refine tR ?_
              refine iR ?_
              refine tR ?_
              refine fin2 rfl hF.defers (res_agg ty_ag_27 hF rfl (hM.row 1 rfl) (by simp only [fnC_size, cells_size, vecC_size, tabC_size, planeC_size, dgC_size])) (res_tmp hF rfl) ⟨_, rfl, hM.below, ?_⟩
              show _ = _
              rfl
        ·
          obtain rfl : s.size = gi := by omega
          have hM := hM.rowc (cs' := vecC (rdV n s)) 2 rfl (dgC_congr (m := 6) (f := fun c => if c < s.size then num (byt s c) else 0) (g := rdV n s) fun c hc => by unfold rdV; rw [hsz])
          refine wp_exit ?_
          refine tX ?_
          refine tX ?_
          refine ib_same ?_
          refine tN ?_
          refine sq ?_
          refine sq ?_
          refine wp_region_lit ?_
          refine st hF (g_loadAgg ty_ag_31 hF rfl (hM.row 0 rfl) (by simp only [fnC_size, cells_size, vecC_size, tabC_size, planeC_size, dgC_size] <;> omega) (whole cells_size)) rfl fun a hF => st hF (g_loadAgg ty_ag_27 hF rfl (hM.row 2 rfl) (by simp only [fnC_size, cells_size, vecC_size, tabC_size, planeC_size, dgC_size] <;> omega) (whole (by simp only [fnC_size, cells_size, vecC_size, tabC_size, planeC_size, dgC_size]))) rfl fun a hF => ?_
          refine stR hF (d_call Try.call15 hF (.cons rfl (.cons rfl .nil)) (l01Vector_ok (p : Int) (n : Int) T f (rdV n s) _ (fun _ => by first | exact hv _ | exact hu _ | exact hT _ _ _ | exact hf _ | omega | (split <;> omega) | (dsimp only; split <;> omega) | assumption))) rfl ?_
          rintro _ w' a ⟨hx, rfl⟩ hF
          have hM := hM.ext hx
          refine st hF (g_notP hF rfl) rfl fun a hF => ?_
          refine wpList_nil ?_
          refine tN ?_
          refine c_cond hF rfl (fun h17 => ?_) (fun h17 => ?_)
          ·
            refine sq ?_
            refine wp_region_lit ?_
            refine st hF (g_build0 ty_bu_27) rfl fun a hF => ?_
            refine stN hF (d_storeAgg 1 hM rfl ty_sz_27 hF rfl rfl (by first | exact vecC_one | exact cells_one | (refine fnC_one fun _ _ => ?_; first | rfl | (split <;> rfl))) (by simp only [fnC_size, cells_size, vecC_size, tabC_size, planeC_size, dgC_size]) (by simp only [fnC_size, cells_size, vecC_size, tabC_size, planeC_size, dgC_size] <;> omega) (splice_whole _ _ (by simp only [fnC_size, cells_size, vecC_size, tabC_size, planeC_size, dgC_size]))) ?_
            intro _ w' a hM hF
            change Mem w w' [some (b1, algC (p : Int) (n : Int) T f), some (b2, fnC 6 (fun _ => .int .u8 (0))), some (b3, vecC (rdV n s))] [] at hM
            refine st hF (g_assign hF rfl) rfl fun a hF => ?_
            refine wpList_nil ?_
            refine tN ?_
            refine wp_ret ?_
            refine tR ?_
            refine fin2 rfl hF.defers (res_agg ty_ag_27 hF rfl (hM.row 1 rfl) (by simp only [fnC_size, cells_size, vecC_size, tabC_size, planeC_size, dgC_size])) (res_tmp hF rfl) ⟨_, rfl, hM.below, ?_⟩
            show _ = _
            rfl
          ·
            exact absurd ⟨hsz, (okV_rd hp0 hn).1 (Decidable.not_not.1 h17)⟩ hr

end Go.Proofs.Ytohkfmgflecgoaa
