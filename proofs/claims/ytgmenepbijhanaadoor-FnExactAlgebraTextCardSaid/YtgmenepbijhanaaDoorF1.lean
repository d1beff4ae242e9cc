/- What functions of the program return, as walks over their operations; no statement of the seat is proved here. -/
import Derived.Shelf.Strings.Builder1
import Derived.Shelf.Strings.Builder2
import Derived.Shelf.Strings.OnBuilder
import Derived.Shelf.Strconv.Itoa0
import Derived.Shelf.Strconv.Itoa1
import Derived.Shelf.LaysM
import Derived.Shelf.Strconv.Itoa2
import Derived.Shelf.Strconv.Itoa3
import Derived.Shelf.Strconv.Itoa4
import Derived.Test.YtgmenepbijhanaaDoorProg
import Derived.Test.YtgmenepbijhanaaDoorK2
import Derived.Test.YtgmenepbijhanaaDoorSw48
set_option linter.unusedVariables false
set_option linter.unusedSimpArgs false

namespace Go.Proofs
open Go.Shelf
def Tryd.lays156_ren : Go.Shelf.Ren := ⟨fun | 156 => 14 | 165 => 26 | 166 => 27 | 169 => 28 | 240 => 43 | 241 => 44 | 276 => 56 | 277 => 57 | n => n, fun | 31 => 39 | 9 => 9 | 3 => 3 | 4 => 4 | 0 => 0 | 20 => 20 | 72 => 53 | 76 => 57 | 70 => 51 | 37 => 50 | 75 => 56 | 127 => 74 | 164 => 92 | 5 => 5 | 80 => 59 | n => n, fun | n => n⟩
theorem Tryd.lays156 : Go.Proofs.Lays.n156 Tryd.prog Tryd.lays156_ren := {
  mixed := by kernel_rfl
  f156 := Tryd.func14.trans (congrArg some (by kernel_rfl))
  f165 := Tryd.func26.trans (congrArg some (by kernel_rfl))
  f166 := Tryd.func27.trans (congrArg some (by kernel_rfl))
  f169 := Tryd.func28.trans (congrArg some (by kernel_rfl))
  f240 := Tryd.func43.trans (congrArg some (by kernel_rfl))
  f241 := Tryd.func44.trans (congrArg some (by kernel_rfl))
  f276 := Tryd.func56.trans (congrArg some (by kernel_rfl))
  f277 := Tryd.func57.trans (congrArg some (by kernel_rfl))
  t0 := Tryd.underlying0
  a0 := Tryd.isAgg0
  z0 := Tryd.sizeOf0
  v0 := Tryd.zeroValue0
  t3 := Tryd.underlying3
  a3 := Tryd.isAgg3
  z3 := Tryd.sizeOf3
  v3 := Tryd.zeroValue3
  t4 := Tryd.underlying4
  a4 := Tryd.isAgg4
  z4 := Tryd.sizeOf4
  v4 := Tryd.zeroValue4
  t9 := Tryd.underlying9
  a9 := Tryd.isAgg9
  z9 := Tryd.sizeOf9
  v9 := Tryd.zeroValue9
  t20 := Tryd.underlying20
  a20 := Tryd.isAgg20
  z20 := Tryd.sizeOf20
  v20 := Tryd.zeroValue20
  t31 := Tryd.underlying39
  a31 := Tryd.isAgg39
  z31 := Tryd.sizeOf39
  v31 := Tryd.zeroValue39
  t37 := Tryd.underlying50
  a37 := Tryd.isAgg50
  z37 := Tryd.sizeOf50
  v37 := Tryd.zeroValue50
  t70 := Tryd.underlying51
  a70 := Tryd.isAgg51
  z70 := Tryd.sizeOf51
  v70 := Tryd.zeroValue51
  t72 := Tryd.underlying53
  a72 := Tryd.isAgg53
  z72 := Tryd.sizeOf53
  v72 := Tryd.zeroValue53
  t75 := Tryd.underlying56
  a75 := Tryd.isAgg56
  z75 := Tryd.sizeOf56
  v75 := Tryd.zeroValue56
  t76 := Tryd.underlying57
  a76 := Tryd.isAgg57
  z76 := Tryd.sizeOf57
  v76 := Tryd.zeroValue57
  t127 := Tryd.underlying74
  a127 := Tryd.isAgg74
  z127 := Tryd.sizeOf74
  v127 := Tryd.zeroValue74
  t164 := Tryd.underlying92
  a164 := Tryd.isAgg92
  z164 := Tryd.sizeOf92
  v164 := Tryd.zeroValue92 }
theorem Tryd.Builder_Extra_156 : Builder.Extra Tryd.prog Tryd.lays156_ren := {
  sizeBuilder := by kernel_rfl
  liesBuilder := by kernel_rfl
  t5 := Tryd.underlying5
  a5 := Tryd.isAgg5
  z5 := Tryd.sizeOf5
  v5 := Tryd.zeroValue5
  infoByte := by kernel_rfl
  cellsByte := by kernel_rfl
  sizeByte := by kernel_rfl
  neB5 := by decide }
open Go.RowKit in

open Go.RowKit in

theorem Tryd.strings_Join (bk o c : Nat) (xs : List ByteArray) (sep : ByteArray) (w : World) (hcells : ∀ (j : Nat) x, xs[j]? = some x → w.cell? ⟨bk, o + j, none⟩ = some (.string x)) (hbk : bk < w.heap.size) (hN : xs.length ≤ 140737488355328) (hcap : xs.length ≤ c) (hlen : (Lib.join (xs.map (·.data.toList)) sep.data.toList).length ≤ 140737488355328) :
    Calls Tryd.prog 14 #[.slice (some ⟨bk, o, none⟩) xs.length c, .string sep] w fun e w' => e = .returned (.string ⟨(Lib.join (xs.map (·.data.toList)) sep.data.toList).toArray⟩) ∧ Below w.heap.size w w' := Any.strings_Join Tryd.lays156 Tryd.Builder_Extra_156 bk o c xs sep w hcells hbk hN hcap hlen
def Tryd.lays173_ren : Go.Shelf.Ren := ⟨fun | 173 => 13 | 246 => 25 | 283 => 39 | 284 => 40 | 285 => 41 | 286 => 42 | 129 => 52 | 317 => 51 | 318 => 53 | 319 => 54 | 320 => 55 | 337 => 62 | 338 => 63 | n => n, fun | 2 => 2 | 3 => 3 | 9 => 9 | 4 => 4 | 171 => 68 | 0 => 0 | 53 => 69 | 37 => 50 | 5 => 5 | 173 => 72 | 212 => 86 | 51 => 87 | 20 => 20 | 213 => 88 | 46 => 90 | 232 => 103 | 233 => 104 | n => n, fun | 17 => 0 | 18 => 2 | 19 => 3 | n => n⟩
theorem Tryd.lays173 : Go.Proofs.Lays.n173 Tryd.prog Tryd.lays173_ren := {
  mixed := by kernel_rfl
  f129 := Tryd.func52.trans (congrArg some (by kernel_rfl))
  f173 := Tryd.func13.trans (congrArg some (by kernel_rfl))
  f246 := Tryd.func25.trans (congrArg some (by kernel_rfl))
  f283 := Tryd.func39.trans (congrArg some (by kernel_rfl))
  f284 := Tryd.func40.trans (congrArg some (by kernel_rfl))
  f285 := Tryd.func41.trans (congrArg some (by kernel_rfl))
  f286 := Tryd.func42.trans (congrArg some (by kernel_rfl))
  f317 := Tryd.func51.trans (congrArg some (by kernel_rfl))
  f318 := Tryd.func53.trans (congrArg some (by kernel_rfl))
  f319 := Tryd.func54.trans (congrArg some (by kernel_rfl))
  f320 := Tryd.func55.trans (congrArg some (by kernel_rfl))
  f337 := Tryd.func62.trans (congrArg some (by kernel_rfl))
  f338 := Tryd.func63.trans (congrArg some (by kernel_rfl))
  t0 := Tryd.underlying0
  a0 := Tryd.isAgg0
  z0 := Tryd.sizeOf0
  v0 := Tryd.zeroValue0
  t2 := Tryd.underlying2
  a2 := Tryd.isAgg2
  z2 := Tryd.sizeOf2
  v2 := Tryd.zeroValue2
  t3 := Tryd.underlying3
  a3 := Tryd.isAgg3
  z3 := Tryd.sizeOf3
  v3 := Tryd.zeroValue3
  t4 := Tryd.underlying4
  a4 := Tryd.isAgg4
  z4 := Tryd.sizeOf4
  v4 := Tryd.zeroValue4
  t5 := Tryd.underlying5
  a5 := Tryd.isAgg5
  z5 := Tryd.sizeOf5
  v5 := Tryd.zeroValue5
  t9 := Tryd.underlying9
  a9 := Tryd.isAgg9
  z9 := Tryd.sizeOf9
  v9 := Tryd.zeroValue9
  t20 := Tryd.underlying20
  a20 := Tryd.isAgg20
  z20 := Tryd.sizeOf20
  v20 := Tryd.zeroValue20
  t37 := Tryd.underlying50
  a37 := Tryd.isAgg50
  z37 := Tryd.sizeOf50
  v37 := Tryd.zeroValue50
  t46 := Tryd.underlying90
  a46 := Tryd.isAgg90
  z46 := Tryd.sizeOf90
  v46 := Tryd.zeroValue90
  t51 := Tryd.underlying87
  a51 := Tryd.isAgg87
  z51 := Tryd.sizeOf87
  v51 := Tryd.zeroValue87
  t53 := Tryd.underlying69
  a53 := Tryd.isAgg69
  z53 := Tryd.sizeOf69
  v53 := Tryd.zeroValue69
  t171 := Tryd.underlying68
  a171 := Tryd.isAgg68
  z171 := Tryd.sizeOf68
  v171 := Tryd.zeroValue68
  t173 := Tryd.underlying72
  a173 := Tryd.isAgg72
  z173 := Tryd.sizeOf72
  v173 := Tryd.zeroValue72
  t212 := Tryd.underlying86
  a212 := Tryd.isAgg86
  z212 := Tryd.sizeOf86
  v212 := Tryd.zeroValue86
  t213 := Tryd.underlying88
  a213 := Tryd.isAgg88
  z213 := Tryd.sizeOf88
  t232 := Tryd.underlying103
  a232 := Tryd.isAgg103
  z232 := Tryd.sizeOf103
  v232 := Tryd.zeroValue103
  t233 := Tryd.underlying104
  a233 := Tryd.isAgg104
  z233 := Tryd.sizeOf104
  v233 := Tryd.zeroValue104
  g17 := by kernel_rfl
  g18 := by kernel_rfl
  g19 := by kernel_rfl }
open Go.RowKit Go.Sort Go.Lib in

theorem Tryd.strconv_FormatInt_10_small (i : Nat) (hi : i < 100) (w : World) :
    Calls Tryd.prog 13 #[.int .i64 i, .int .i64 10] w fun e w' => e = .returned (.string ⟨(Lib.decDigits i).toArray⟩) ∧ w' = w := Any.strconv_FormatInt_10_small Tryd.lays173 i hi w
end Go.Proofs

namespace Go.Proofs.YtgmenepbijhanaaDoor
open Go Go.RowKit Go.Sw Go.Ech
open Classical
theorem ty_si_50 : slI Tryd.prog 50 = some (5, some (.int .u8 (0)), 1, 1) := by kernel_rfl
theorem ty_ut_9 : Tryd.prog.underlying 9 = some .string := by kernel_rfl
theorem ty_bs0_50 : ∀ w, (Instr.buildSlice 50 0 #[]).run Tryd.prog w = .ok (.slice (some ⟨w.heap.size, 0, none⟩) 0 0) (w.alloc (.cells #[] 5)) := by intros; kernel_rfl
theorem ty_bs1_50 : ∀ (x : Int) (w : World), (Instr.buildSlice 50 1 #[(0, .int .u8 x)]).run Tryd.prog w = .ok (.slice (some ⟨w.heap.size, 0, none⟩) 1 1) (w.alloc (.cells #[.int .u8 x] 5)) := by intros; kernel_rfl
theorem ty_bst_39 : ∀ (t : ByteArray) (w : World), (Instr.buildSlice 39 1 #[(0, .string t)]).run Tryd.prog w = .ok (.slice (some ⟨w.heap.size, 0, none⟩) 1 1) (w.alloc (.cells #[.string t] 9)) := by intros; kernel_rfl
theorem ty_si_39 : slI Tryd.prog 39 = some (9, some (.string ByteArray.empty), 1, 16) := by kernel_rfl
theorem textOf_ok (p n : Nat) (T : Nat → Nat → Nat → Nat) (f v : Nat → Nat) (w : World) (hn0 : 0 < n) (hn : n ≤ 6) (hv13 : ∀ i, i < 6 → v i < 13) :
    CallsR Tryd.prog 12 #[.agg (algC (p : Int) (n : Int) T f), .agg (vecC v)] w (fun res _ => res = .string (txt n (fun i => dig (v i)))) := by
  refine calls_fr [.agg (algC (p : Int) (n : Int) T f), .agg (vecC v)] Tryd.func12 rfl Tryd.ntmps12 rfl fun a hF => ?_;have hM : Mem w w [none, none, none] [] := MemX.start w 3;change Fr 25 a [(0, .agg (algC (p : Int) (n : Int) T f)), (1, .agg (vecC v))] at hF;refine sr <| stR hF (d_box 0 hM hF rfl) rfl ?_;rintro _ w' a ⟨b1, rfl, hM, -⟩ hF;refine stR hF (d_box 1 hM hF rfl) rfl ?_;rintro _ w' a ⟨b2, rfl, hM, -⟩ hF;change Mem w w' [some (b1, algC (p : Int) (n : Int) T f), some (b2, vecC v), none] [] at hM;refine ag hF rfl rfl fun a hF => ns <| st hF (g_fieldAddr ty_fo_31_1 hF rfl) rfl fun a hF => st hF (g_load ty_on_2 hF rfl (hM.row 0 rfl) (algC_n (by omega))) rfl fun a hF => stR hF (d_make1b (len := n) 2 hM hF ty_si_50 rfl rfl rfl (by omega) (by decide)) rfl ?_;rintro _ w' a ⟨b4, rfl, hM, -⟩ hF;refine ag hF rfl rfl fun a hF => nt <| sq <| sr <| mv hF rfl rfl fun a hF => st hF (g_len ty_us_50 hF rfl) rfl fun a hF => mv hF rfl rfl fun a hF => nt <| wp_block ?_;change Mem w _ [some (b1, algC (p : Int) (n : Int) T f), some (b2, vecC v), some (b4, dgC n (fun _ => 0))] [] at hM;refine c_loop (fun (kk : Nat) a w' => kk ≤ n ∧ (True) ∧ Fr 25 a [(3, ptr b2 (0)), (4, .string (⟨#[]⟩)), (5, .slice (some ⟨b4, 0, none⟩) n n), (11, .int .i64 (n : Int)), (12, .int .i64 (kk : Int))] ∧ Mem w w' [some (b1, algC (p : Int) (n : Int) T f), some (b2, vecC v), some (b4, dgC n (fun c => if c < kk then dig (v c) else 0))] []) (fun kk => n - kk) 0 ?_ ?_
  · refine ⟨by omega, trivial, hF.sub _ (by repeat' constructor), ?_⟩
    exact hM.rowc 2 rfl (dgC_congr fun c hc => by simp)
  clear hF hM;rintro gi a w' ⟨hgi, hinv1, hF, hM⟩;have hvk : gi < 6 → v gi < 13 := hv13 gi;refine sr <| st hF (g_lss hF rfl rfl) rfl fun a hF => nt <| sq <| c_cond hF rfl (fun h5 => ?_) (fun h5 => ?_)
  · refine wp_skip ?_
    refine tN <| sq <| wp_block <| sr <| mv hF rfl rfl fun a hF => ag hF rfl rfl fun a hF => nt <| wp_region_lit <| mv hF rfl rfl fun a hF => mv hF rfl rfl fun a hF => mv hF rfl rfl fun a hF => st hF (g_indexAddr ty_ar_29 hF rfl rfl rfl (by omega)) rfl fun a hF => st hF (g_load ty_on_5 hF rfl (hM.row 1 rfl) (vecC_get (gi) (by omega) (by omega))) rfl fun a hF => st hF (g_indexS (s := digs) (i := v (gi)) ty_ut_9 hF rfl rfl rfl (digs_size (hv13 _ (by omega)))) rfl fun a hF => st hF (g_indexSl (i := gi) ty_sl_50 hF rfl rfl rfl (by omega)) rfl fun a hF => stN hF (d_store 2 hM rfl ty_on_5 hF rfl rfl rfl (by first | omega | (simp only [sz0, dgC_size] <;> omega) | (simp only [Array.size_setIfInBounds]; omega) | simp)) ?_;intro _ w' a hM hF;change Mem w w' [some (b1, algC (p : Int) (n : Int) T f), some (b2, vecC v), some (b4, (dgC n (fun c => if c < gi then dig (v c) else 0)).setIfInBounds (0 + (gi) * 1) (.int .u8 ((byt digs (v (gi)) : Int))))] [] at hM;refine wpList_nil <| iN <| tN <| wp_region_lit <| st hF (g_add hF rfl rfl (add_nat (gi) (1) (by omega))) rfl fun a hF => mv hF rfl rfl fun a hF => nt <| ⟨gi + 1, ⟨by omega, trivial, hF.sub _ (by repeat' constructor), ?_⟩, by omega⟩;refine hM.rowc 2 rfl (dgC_set (k := gi) (by omega) (congrArg Nat.cast (by rw [byt_digs (hvk (by omega))]; simp)) (fun c hc he => ?_));have e0 : (c < gi + 1) = (c < gi) := by apply propext; omega
    simp only [e0]
  obtain rfl : n = gi := by omega
  have hM := hM.rowc (cs' := dgC n (fun i => dig (v i))) 2 rfl (dgC_congr fun c hc => if_pos hc);refine wp_exit <| tX <| tX <| ib_same <| tN <| sr <| mv hF rfl rfl fun a hF => st hF (g_b2sN (g := (fun i => dig (v i))) ty_us_50 ty_ut_9 ty_un_5 hF rfl (hM.row 2 rfl) (fun i hi => dgC_get (k := i) (by omega) (by omega))) rfl fun a hF => ag hF rfl rfl fun a hF => nt <| wp_ret <| fin1 rfl hF.defers (res_tmp hF rfl) ⟨_, rfl, hM.below, ?_⟩
  show _ = _
  rfl
theorem l01VectorText_ok (p n : Nat) (T : Nat → Nat → Nat → Nat) (f v : Nat → Nat) (w : World) (hn0 : 0 < n) (hn : n ≤ 6) (hv13 : ∀ i, i < 6 → v i < 13) :
    CallsR Tryd.prog 18 #[.agg (algC (p : Int) (n : Int) T f), .agg (vecC v)] w (fun res _ => res = .string (txt n (fun i => dig (v i)))) := by
  refine calls_fr [.agg (algC (p : Int) (n : Int) T f), .agg (vecC v)] Tryd.func18 rfl Tryd.ntmps18 rfl fun a hF => ?_;have hM : Mem w w [none, none, none, none, none] [] := MemX.start w 5;change Fr 35 a [(0, .agg (algC (p : Int) (n : Int) T f)), (1, .agg (vecC v))] at hF;refine sr <| stR hF (d_box 0 hM hF rfl) rfl ?_;rintro _ w' a ⟨b1, rfl, hM, -⟩ hF;refine stR hF (d_box 1 hM hF rfl) rfl ?_;rintro _ w' a ⟨b2, rfl, hM, -⟩ hF;refine ag hF rfl rfl fun a hF => ns <| stR hF (d_buildC 2 hM hF rfl ty_bs0_50) rfl ?_;rintro _ w' a ⟨b3, rfl, hM, -⟩ hF;refine ag hF rfl rfl fun a hF => nt <| sq <| sr <| ag hF rfl rfl fun a hF => nt <| wp_block ?_;change Mem w _ [some (b1, algC (p : Int) (n : Int) T f), some (b2, vecC v), some (b3, #[]), none, none] [] at hM;refine c_loop (fun (kk : Nat) a w' => kk ≤ n ∧ (True) ∧ ∃ (u5_1 : Value) (e5_1 : Option (Nat × Array Value)), Sl 1 u5_1 e5_1 (kk) (fun i => .int .u8 (dig (v i) : Int)) ∧ Fr 35 a [(2, ptr b1 (0)), (3, ptr b2 (0)), (4, .string (⟨#[]⟩)), (6, .int .i64 (kk : Int)), (5, u5_1)] ∧ Mem w w' [some (b1, algC (p : Int) (n : Int) T f), some (b2, vecC v), e5_1, none, none] []) (fun kk => n - kk) 0 ?_ ?_
  · refine ⟨by omega, trivial, (.slice (some ⟨b3, 0, none⟩) 0 0), (some (b3, #[])), Sl.empty _ _ _, hF.sub _ (by repeat' constructor), ?_⟩
    exact hM
  clear hF hM;rintro gi a w' ⟨hgi, hinv1, u5_1, e5_1, hsl, hF, hM⟩;have hvk : gi < 6 → v gi < 13 := hv13 gi;refine sq <| sr <| mv hF rfl rfl fun a hF => st hF (g_fieldAddr ty_fo_31_1 hF rfl) rfl fun a hF => st hF (g_load ty_on_2 hF rfl (hM.row 0 rfl) (algC_n (by omega))) rfl fun a hF => st hF (g_lss hF rfl rfl) rfl fun a hF => nt <| c_cond hF rfl (fun h4 => ?_) (fun h4 => ?_)
  · refine wp_skip ?_
    refine tN <| sq <| wp_block <| sr <| mv hF rfl rfl fun a hF => st hF (g_indexAddr ty_ar_29 hF rfl rfl rfl (by omega)) rfl fun a hF => st hF (g_load ty_on_5 hF rfl (hM.row 1 rfl) (vecC_get (gi) (by omega) (by omega))) rfl fun a hF => st hF (g_lss hF rfl rfl) rfl fun a hF => nt <| c_cond hF rfl (fun h5 => ?_) (fun h5 => ?_)
    · refine wp_region_lit ?_
      refine mv hF rfl rfl fun a hF => mv hF rfl rfl fun a hF => st hF (g_indexAddr ty_ar_29 hF rfl rfl rfl (by omega)) rfl fun a hF => st hF (g_load ty_on_5 hF rfl (hM.row 1 rfl) (vecC_get (gi) (by omega) (by omega))) rfl fun a hF => st hF (g_add hF rfl rfl (show _ = ((48 + v gi : Nat) : Int) from (by rw [wrap_u8 (by omega) (by omega)]; omega))) rfl fun a hF => stR hF (d_buildC 3 hM hF (build1 hF rfl) (ty_bs1_50 _)) rfl ?_;rintro _ w' a ⟨b6, rfl, hM, -⟩ hF;change Mem w w' [some (b1, algC (p : Int) (n : Int) T f), some (b2, vecC v), e5_1, some (b6, #[.int .u8 (((48 + v gi : Nat) : Int))]), none] [] at hM;refine stR hF (d_append (k := 2) (m := 1) (g := fun _ => .int .u8 (((48 + v gi : Nat) : Int))) ty_si_50 rfl (by decide) hM rfl hF rfl rfl hsl (fun i hi => by rw [show i = 0 by omega]; exact (hM.row 3 rfl).cell 0) (fun _ _ => rfl) (by decide) (by unfold maxLen; omega) (by omega)) rfl ?_;rintro u7 w' a ⟨e8, hM, hs9⟩ hF;change Mem w w' [some (b1, algC (p : Int) (n : Int) T f), some (b2, vecC v), e8, some (b6, #[.int .u8 (((48 + v gi : Nat) : Int))]), none] [] at hM;refine ag hF rfl rfl fun a hF => wpList_nil <| iN <| tN <| wp_region_lit <| mv hF rfl rfl fun a hF => st hF (g_add hF rfl rfl (add_nat (gi) (1) (by omega))) rfl fun a hF => ag hF rfl rfl fun a hF => wpList_nil <| tN ?_;have hM := hM.drop 3;refine ⟨gi + 1, ⟨by omega, trivial, (u7), (e8), (hs9.snoc (congrArg (Value.int .u8) (by unfold dig; split <;> omega))), hF.sub _ (by repeat' constructor), ?_⟩, by omega⟩;exact hM
    refine wp_region_lit <| mv hF rfl rfl fun a hF => mv hF rfl rfl fun a hF => st hF (g_indexAddr ty_ar_29 hF rfl rfl rfl (by omega)) rfl fun a hF => st hF (g_load ty_on_5 hF rfl (hM.row 1 rfl) (vecC_get (gi) (by omega) (by omega))) rfl fun a hF => st hF (g_add hF rfl rfl (show _ = ((97 + v gi : Nat) : Int) from (by rw [wrap_u8 (by omega) (by omega)]; omega))) rfl fun a hF => st hF (g_sub hF rfl rfl (wrap_u8 (by omega) (by omega))) rfl fun a hF => stR hF (d_buildC 4 hM hF (build1 hF rfl) (ty_bs1_50 _)) rfl ?_;rintro _ w' a ⟨b10, rfl, hM, -⟩ hF;change Mem w w' [some (b1, algC (p : Int) (n : Int) T f), some (b2, vecC v), e5_1, none, some (b10, #[.int .u8 (((97 + v gi : Nat) : Int) - 10)])] [] at hM;refine stR hF (d_append (k := 2) (m := 1) (g := fun _ => .int .u8 (((97 + v gi : Nat) : Int) - 10)) ty_si_50 rfl (by decide) hM rfl hF rfl rfl hsl (fun i hi => by rw [show i = 0 by omega]; exact (hM.row 4 rfl).cell 0) (fun _ _ => rfl) (by decide) (by unfold maxLen; omega) (by omega)) rfl ?_;rintro u11 w' a ⟨e12, hM, hs13⟩ hF;change Mem w w' [some (b1, algC (p : Int) (n : Int) T f), some (b2, vecC v), e12, none, some (b10, #[.int .u8 (((97 + v gi : Nat) : Int) - 10)])] [] at hM;refine ag hF rfl rfl fun a hF => wpList_nil <| iN <| tN <| wp_region_lit <| mv hF rfl rfl fun a hF => st hF (g_add hF rfl rfl (add_nat (gi) (1) (by omega))) rfl fun a hF => ag hF rfl rfl fun a hF => wpList_nil <| tN ?_;have hM := hM.drop 4;refine ⟨gi + 1, ⟨by omega, trivial, (u11), (e12), (hs13.snoc (congrArg (Value.int .u8) (by unfold dig; split <;> omega))), hF.sub _ (by repeat' constructor), ?_⟩, by omega⟩;exact hM
  obtain rfl : n = gi := by omega
  obtain ⟨b0, c0, cs0, rfl, rfl, hs0⟩ := hsl.pos hn0;change Mem w _ [some (b1, algC (p : Int) (n : Int) T f), some (b2, vecC v), some (b0, cs0), none, none] [] at hM;refine wp_exit <| tX <| tX <| ib_same <| tN <| sr <| mv hF rfl rfl fun a hF => st hF (g_b2sN (g := (fun i => dig (v i))) ty_us_50 ty_ut_9 ty_un_5 hF rfl (hM.row 2 rfl) hs0.get1) rfl fun a hF => ag hF rfl rfl fun a hF => nt <| wp_ret <| fin1 rfl hF.defers (res_tmp hF rfl) ⟨_, rfl, hM.below, ?_⟩
  show _ = _
  rfl
def rowT (n : Nat) (T : Nat → Nat → Nat → Nat) (i : Nat) : ByteArray := txt n (fun c => dig (T (i / n) (i % n) c))
theorem rowT_at {n i j : Nat} {T : Nat → Nat → Nat → Nat} (hj : j < n) : rowT n T (i * n + j) = txt n (fun c => dig (T i j c)) := by
  unfold rowT
  rw [show (i * n + j) / n = i by rw [Nat.mul_comm, Nat.mul_add_div (by omega), Nat.div_eq_of_lt hj]; rfl, show (i * n + j) % n = j by rw [Nat.mul_comm, Nat.mul_add_mod]; exact Nat.mod_eq_of_lt hj]
theorem rowT_size {n : Nat} {T : Nat → Nat → Nat → Nat} (hn : n ≤ 6) (i : Nat) : (rowT n T i).size ≤ 6 := by
  unfold rowT; rw [txt_size]; exact hn
theorem mul_in {n i j : Nat} (hn : n ≤ 6) (hi : i < n) (hj : j < n) : i * n + j < n * n ∧ i * n + j < 36 ∧ i * n + n ≤ n * n ∧ n * n ≤ 36 := by
  have h1 : (i + 1) * n ≤ n * n := Nat.mul_le_mul_right n hi;have h2 : n * n ≤ 6 * 6 := Nat.mul_le_mul hn hn;rw [Nat.succ_mul] at h1
  omega
theorem dec_eq : ∀ i, i < 14 → (⟨(Go.Lib.decDigits i).toArray⟩ : ByteArray) = decT i := by decide +kernel
theorem joinC_ok (b cap k : Nat) (cs : Array Value) (F : Nat → ByteArray) (w : World) (hk : k < 100000) (hF : ∀ i, (F i).size ≤ 1000) (hat : SlAt 1 (.slice (some ⟨b, 0, none⟩) k cap) (some (b, cs)) k b cap cs (fun i => .string (F i))) (hblk : Blk w b cs) : CallsR Tryd.prog 14 #[.slice (some ⟨b, 0, none⟩) k cap, .string (⟨#[44]⟩ : ByteArray)] w (fun r _ => r = .string (jn F k)) := by
  have hlen : ((List.range k).map F).length = k := by simp
  have hmap : ((List.range k).map F).map (·.data.toList) = (List.range k).map fun i => (F i).data.toList := by rw [List.map_map]; rfl
  have hsz := jn_size hF k;have hj : (Go.Lib.join (((List.range k).map F).map (·.data.toList)) (⟨#[44]⟩ : ByteArray).data.toList) = (jn F k).data.toList := by rw [hmap]; exact join_jn k
  have h := Tryd.strings_Join b 0 cap ((List.range k).map F) ⟨#[44]⟩ w (fun j x hj => by
    rw [List.getElem?_map] at hj
    cases hr : (List.range k)[j]? with
    | none => rw [hr] at hj; cases hj
    | some q =>
      rw [hr] at hj;obtain rfl := Option.some.inj hj;have hq := List.getElem?_eq_some_iff.1 hr;obtain ⟨h1, h2⟩ := hq
      simp at h1 h2
      subst h2;rw [Nat.zero_add, hblk.cell j];exact hat.get j (by omega)) (hblk.lt) (by rw [hlen]; omega) (by rw [hlen]; exact hat.le) (by
    rw [hj, Array.length_toList]
    show (jn F k).size ≤ _
    have : k * (1000 + 1) ≤ 100000 * (1000 + 1) := Nat.mul_le_mul_right _ (by omega)
    omega)
  rw [hlen] at h;exact h.mono fun e w' ⟨h1, h2⟩ => ⟨_, h1, h2, by rw [hj]⟩
theorem fmt_ok (i : Nat) (hi : i < 14) (w : World) : CallsR Tryd.prog 13 #[.int .i64 (i : Int), .int .i64 ((10 : Nat) : Int)] w (fun r _ => r = .string (decT i)) :=
  (Tryd.strconv_FormatInt_10_small i (by omega) w).mono fun e w' ⟨h1, h2⟩ => ⟨_, h1, h2 ▸ Ext.refl _, by rw [← dec_eq i hi]⟩

theorem dec1_ok (k : Nat) (w : World) (hk : k < 10) :
    CallsR Tryd.prog 17 #[.int .i64 (k : Int)] w (fun res _ => res = .string ⟨#[UInt8.ofNat ((48 + k : Nat) : Int).toNat]⟩) := by
  refine calls_fr [.int .i64 (k : Int)] Tryd.func17 rfl Tryd.ntmps17 rfl fun a hF => ?_;have hM : Mem w w [none, none] [] := MemX.start w 2;change Fr 26 a [(0, .int .i64 (k : Int))] at hF;refine sr <| ag hF rfl rfl fun a hF => nt <| sq <| sr <| mv hF rfl rfl fun a hF => st hF (g_lss hF rfl rfl) rfl fun a hF => nt <| c_cond hF rfl (fun h1 => ?_) (fun h1 => ?_)
  · exfalso; omega
  refine wp_skip <| tN <| sq <| sr <| mv hF rfl rfl fun a hF => st hF (g_lss hF rfl rfl) rfl fun a hF => nt <| c_cond hF rfl (fun h2 => ?_) (fun h2 => ?_)
  · refine sq ?_
    refine wp_region_lit <| mv hF rfl rfl fun a hF => st hF (g_add hF rfl rfl (add_nat (48) (k) (by omega))) rfl fun a hF => st hF (g_conv ty_un_5 ty_ud_2 hF rfl (wrap_u8 (by omega) (by omega))) rfl fun a hF => stR hF (d_buildC 0 hM hF (build1 hF rfl) (ty_bs1_50 _)) rfl ?_;rintro _ w' a ⟨b3, rfl, hM, -⟩ hF;change Mem w w' [some (b3, #[.int .u8 (((48 + k : Nat) : Int))]), none] [] at hM;refine st hF (g_b2s1 ty_us_50 ty_ut_9 ty_un_5 hF rfl (hM.row 0 rfl) rfl) rfl fun a hF => ag hF rfl rfl fun a hF => nt <| wp_ret <| tR <| fin1 rfl hF.defers (res_tmp hF rfl) ⟨_, rfl, hM.below, ?_⟩
    show _ = _
    rfl
  exfalso; omega
theorem dec2_ok (k : Nat) (w : World) (hk0 : 10 ≤ k) (hk : k < 100) :
    CallsR Tryd.prog 17 #[.int .i64 (k : Int)] w (fun res _ => res = .string ((⟨#[UInt8.ofNat ((48 + k / 10 : Nat) : Int).toNat]⟩ : ByteArray) ++ (⟨#[UInt8.ofNat ((48 + k % 10 : Nat) : Int).toNat]⟩ : ByteArray))) := by
  refine calls_fr [.int .i64 (k : Int)] Tryd.func17 rfl Tryd.ntmps17 rfl fun a hF => ?_;have hM : Mem w w [none, none] [] := MemX.start w 2;change Fr 26 a [(0, .int .i64 (k : Int))] at hF;refine sr <| ag hF rfl rfl fun a hF => nt <| sq <| sr <| mv hF rfl rfl fun a hF => st hF (g_lss hF rfl rfl) rfl fun a hF => nt <| c_cond hF rfl (fun h1 => ?_) (fun h1 => ?_)
  · exfalso; omega
  refine wp_skip <| tN <| sq <| sr <| mv hF rfl rfl fun a hF => st hF (g_lss hF rfl rfl) rfl fun a hF => nt <| c_cond hF rfl (fun h2 => ?_) (fun h2 => ?_)
  · exfalso; omega
  refine wp_skip <| tN <| sq <| c_par 9 [1] [.val (.int .i64 (k : Int)), .val (.int .i64 ((((k) / (10) : Nat) : Int))), .val (.string (⟨#[UInt8.ofNat ((48 + ((k) / (10)) : Nat) : Int).toNat]⟩)), .val (.int .i64 (k : Int)), .val (.int .i64 ((((k) % (10) : Nat) : Int))), .val (.int .i64 (((48 + (k) % (10) : Nat) : Int))), .val (.int .u8 (((48 + (k) % (10) : Nat) : Int))), .own 1 (#[.int .u8 (((48 + (k) % (10) : Nat) : Int))]) (fun b => .slice (some ⟨b, 0, none⟩) 1 1), .val (.string (⟨#[UInt8.ofNat ((((48 + (k) % (10) : Nat) : Int) : Int)).toNat]⟩))] hmix rfl hF rfl hM ⟨fun a w gG hF hS hd => by exact pmv hS rfl hF rfl, fun a w gG hF hS hd => by have hF := hF.ext1 16 (hd 0 rfl rfl); exact par_val hS rfl (g_quo hF rfl rfl (by omega) (quo_nat (k) (10) (by omega))), fun a w gG hF hS hd => by have hF := hF.ext1 17 (hd 1 rfl rfl); exact par_call (by repeat constructor) hS rfl (d_call Tryd.call17 hF (.cons rfl .nil) (dec1_ok ((k) / (10)) _ (by omega))), fun a w gG hF hS hd => by exact pmv hS rfl hF rfl, fun a w gG hF hS hd => by have hF := hF.ext1 19 (hd 3 rfl rfl); exact par_val hS rfl (g_rem hF rfl rfl (by omega) (rem_nat (k) (10))), fun a w gG hF hS hd => by have hF := hF.ext1 20 (hd 4 rfl rfl); exact par_val hS rfl (g_add hF rfl rfl (add_nat (48) ((k) % (10)) (by omega))), fun a w gG hF hS hd => by have hF := hF.ext1 21 (hd 5 rfl rfl); exact par_val hS rfl (g_conv ty_un_5 ty_ud_2 hF rfl (wrap_u8 (by omega) (by omega))), fun a w gG hF hS hd => by have hF := hF.ext1 22 (hd 6 rfl rfl); exact par_own (by repeat constructor) hS rfl rfl rfl rfl (d_buildC 1 hS.1 hF (build1 hF rfl) (ty_bs1_50 _)), fun a w gG hF hS hd => by obtain ⟨bq7, hq7, hkq7⟩ := hd 7 rfl rfl; have hF := hF.ext1 23 hq7; exact par_val hS rfl (g_b2s1 ty_us_50 ty_ut_9 ty_un_5 hF rfl (hS.1.row 1 hkq7) rfl), trivial⟩ ?_;intro a w' L hF hS hq;have hF := hF.ext1 16 (hq 0 rfl rfl);have hF := hF.ext1 17 (hq 1 rfl rfl);have hF := hF.ext1 18 (hq 2 rfl rfl);have hF := hF.ext1 19 (hq 3 rfl rfl);have hF := hF.ext1 20 (hq 4 rfl rfl);have hF := hF.ext1 21 (hq 5 rfl rfl);have hF := hF.ext1 22 (hq 6 rfl rfl);have hF := hF.ext1 24 (hq 8 rfl rfl);obtain ⟨hM, hL⟩ := hS;obtain ⟨b3, hptr, hkk⟩ := hq 7 rfl rfl;have hF := hF.ext1 23 hptr;have hL := hL.take hkk;obtain rfl := hL.eq;change Mem w w' [none, some (b3, #[.int .u8 (((48 + (k) % (10) : Nat) : Int))])] [] at hM;change wpList Tryd.prog _ _ [_, _] _ _;refine st hF (g_addS hF rfl rfl (of_decide_eq_true rfl)) rfl fun a hF => ag hF rfl rfl fun a hF => nt <| wp_ret <| fin1 rfl hF.defers (res_tmp hF rfl) ⟨_, rfl, hM.below, ?_⟩
  show _ = _
  rfl
theorem l01Dec_ok (k : Nat) (w : World) (hk : k < 100) : CallsR Tryd.prog 17 #[.int .i64 (k : Int)] w (fun r _ => r = .string (decT k)) := by
  by_cases h : k < 10
  · exact CallsR.val (dec1_ok k w h) (congrArg Value.string (by unfold decT; rw [if_pos h]; rfl))
  · exact CallsR.val (dec2_ok k w (by omega) hk) (congrArg Value.string (by unfold decT; rw [if_neg h]; rfl))
theorem AlgebraTextI_Y (p n : Nat) (T : Nat → Nat → Nat → Nat) (f : Nat → Nat) (w : World) (hp : primeN p) (hn0 : 0 < n) (hn : n ≤ 6) (hTp : ∀ i j k, T i j k < p) (hT0 : ∀ i j k, n ≤ k → T i j k = 0) (hf : ∀ i, f i ≤ 255) (hfp : ∀ i, i < 6 → f i < 13) (hc : CodeP (p : Int) (n : Int) T f 0 (vAtL [])) :
    CallsR Tryd.prog 6 #[.agg (algC (p : Int) (n : Int) T f)] w (fun res _ => res = .tuple #[.string ((((((((decT p) ++ ⟨#[58]⟩) ++ (decT n)) ++ ⟨#[58]⟩)) ++ (jn (rowT n T) (n * n))) ++ ⟨#[58]⟩) ++ (txt n (fun i => dig (f i)))), .int .i64 0]) := by
  refine calls_fr [.agg (algC (p : Int) (n : Int) T f)] Tryd.func6 rfl Tryd.ntmps6 rfl fun a hF => ?_;have hM : Mem w w [none, none, none] [] := MemX.start w 3;change Fr 55 a [(0, .agg (algC (p : Int) (n : Int) T f))] at hF;have hp2 := hp.two;have hp13 := hp.le;have hT : ∀ i j k, T i j k ≤ 255 := fun i j k => by have := hTp i j k; omega
  have hp2 := hp.two;have hp13 := hp.le;have hv13 := hfp;have hdp := decT_size (k := p);have hdn := decT_size (k := n);have hjs := jn_size (F := rowT n T) (N := 6) (rowT_size hn);have htx : ∀ g : Nat → Nat, (txt n g).size = n := fun g => txt_size;have hc1 : (⟨#[58]⟩ : ByteArray).size = 1 := rfl;have hc2 : (⟨#[44]⟩ : ByteArray).size = 1 := rfl;have hnn : n * n ≤ 6 * 6 := Nat.mul_le_mul hn hn;have hjn := hjs (n * n);refine sr <| stR hF (d_box 0 hM hF rfl) rfl ?_;rintro _ w' a ⟨b1, rfl, hM, -⟩ hF;change Mem w w' [some (b1, algC (p : Int) (n : Int) T f), none, none] [] at hM;refine ag hF rfl rfl fun a hF => ag hF rfl rfl fun a hF => nt <| sq <| sr <| st hF (g_loadAgg ty_ag_31 hF rfl (hM.row 0 rfl) (by simp only [sz0, dgC_size] <;> omega) (whole cells_size)) rfl fun a hF => stR hF (d_call Tryd.call11 hF (.cons rfl .nil) ((CallsR.val (IsAlgebraI_ok (p : Int) (n : Int) T f _ (fun _ _ _ => hT _ _ _) (fun _ => hf _)) (congrArg Value.bool (decide_eq_true hc.1))))) rfl ?_;rintro _ w' a ⟨hx, rfl⟩ hF;have hM := hM.ext hx;refine st hF (g_not hF rfl) rfl fun a hF => nt <| c_Fl hF rfl <| wp_skip <| tN <| sr <| ag hF rfl rfl fun a hF => nt <| sq <| sr <| st hF (g_fieldAddr ty_fo_31_1 hF rfl) rfl fun a hF => st hF (g_load ty_on_2 hF rfl (hM.row 0 rfl) (algC_n (by omega))) rfl fun a hF => mv hF rfl rfl fun a hF => nt <| wp_block ?_;change Mem w _ [some (b1, algC (p : Int) (n : Int) T f), none, none] [] at hM;refine c_loop (fun (kk : Nat) a w' => kk ≤ n ∧ (True) ∧ ∃ (u4_1 : Value) (e4_1 : Option (Nat × Array Value)), Sl 1 u4_1 e4_1 (kk * n) (fun i => .string (rowT n T i)) ∧ Fr 55 a [(1, ptr b1 (0)), (2, .string (⟨#[]⟩)), (3, .int .i64 (0)), (11, .bool (false)), (13, .int .i64 (n : Int)), (14, .int .i64 (kk : Int)), (4, u4_1)] ∧ Mem w w' [some (b1, algC (p : Int) (n : Int) T f), none, e4_1] []) (fun kk => n - kk) 0 ?_ ?_
  · refine ⟨by omega, trivial, (.slice none 0 0), (none), (by rw [Nat.zero_mul]; exact Sl.nil 1 _), hF.sub _ (by repeat' constructor), ?_⟩
    exact hM
  clear hF hM;rintro gi a w' ⟨hgi, hinv1, u4_1, e4_1, hsl, hF, hM⟩;refine sr <| st hF (g_lss hF rfl rfl) rfl fun a hF => nt <| sq <| c_cond hF rfl (fun h3 => ?_) (fun h3 => ?_)
  · refine wp_skip ?_
    refine tN <| sq <| wp_block <| sr <| mv hF rfl rfl fun a hF => ag hF rfl rfl fun a hF => ns <| st hF (g_fieldAddr ty_fo_31_1 hF rfl) rfl fun a hF => st hF (g_load ty_on_2 hF rfl (hM.row 0 rfl) (algC_n (by omega))) rfl fun a hF => mv hF rfl rfl fun a hF => nt <| wp_block ?_;change Mem w _ [some (b1, algC (p : Int) (n : Int) T f), none, e4_1] [] at hM;refine c_loop (fun (kk : Nat) a w' => kk ≤ n ∧ (True) ∧ ∃ (u4_2 : Value) (e4_2 : Option (Nat × Array Value)), Sl 1 u4_2 e4_2 (gi * n + kk) (fun i => .string (rowT n T i)) ∧ Fr 55 a [(1, ptr b1 (0)), (2, .string (⟨#[]⟩)), (3, .int .i64 (0)), (11, .bool (false)), (13, .int .i64 (n : Int)), (14, .int .i64 (gi : Int)), (15, .bool (decide (((gi : Int) : Int) < (n : Int)))), (16, .int .i64 (gi : Int)), (5, .int .i64 (gi : Int)), (17, ptr b1 (0 + 1)), (18, .int .i64 (n : Int)), (19, .int .i64 (kk : Int)), (4, u4_2)] ∧ Mem w w' [some (b1, algC (p : Int) (n : Int) T f), none, e4_2] []) (fun kk => n - kk) 0 ?_ ?_
    · refine ⟨by omega, trivial, (u4_1), (e4_1), hsl, hF.sub _ (by repeat' constructor), ?_⟩
      exact hM
    clear hF hM;rintro gj a w' ⟨hgj, hinv2, u4_2, e4_2, hsl2, hF, hM⟩;have hv13 : ∀ c, c < 6 → T gi gj c < 13 := fun c _ => by have := hTp gi gj c; omega
    have hmi : gi < n → gj < n → _ := fun q1 q2 => mul_in (n := n) (i := gi) (j := gj) hn q1 q2;have hmj := hmi;refine sr <| st hF (g_lss hF rfl rfl) rfl fun a hF => nt <| sq <| c_cond hF rfl (fun h4 => ?_) (fun h4 => ?_)
    · refine wp_skip ?_
      refine tN <| sq <| wp_block <| sr <| mv hF rfl rfl fun a hF => ag hF rfl rfl fun a hF => nt <| c_par 10 [1] [.val (u4_2), .val (.agg (algC (p : Int) (n : Int) T f)), .val (.int .i64 (gi : Int)), .val (.int .i64 (gj : Int)), .val (ptr b1 (0 + 2)), .val (ptr b1 (0 + 2 + (gi) * 36)), .val (ptr b1 (0 + 2 + (gi) * 36 + (gj) * 6)), .val (.agg (vecC (T (gi) (gj)))), .val (.string ((txt n (fun i => dig (((T (gi) (gj))) i))))), .own 1 (#[.string ((txt n (fun i => dig (((T (gi) (gj))) i))))]) (fun b => .slice (some ⟨b, 0, none⟩) 1 1)] hmix rfl hF rfl hM ⟨fun a w gG hF hS hd => by exact pmv hS rfl hF rfl, fun a w gG hF hS hd => by have hM := hS.mem rfl; exact par_val hS rfl (g_loadAgg ty_ag_31 hF rfl (hM.row 0 rfl) (by simp only [sz0, dgC_size] <;> omega) (whole cells_size)), fun a w gG hF hS hd => by exact pmv hS rfl hF rfl, fun a w gG hF hS hd => by exact pmv hS rfl hF rfl, fun a w gG hF hS hd => by exact par_val hS rfl (g_fieldAddr ty_fo_31_2 hF rfl), fun a w gG hF hS hd => by have hF := hF.ext1 24 (hd 2 rfl rfl); have hF := hF.ext1 26 (hd 4 rfl rfl); exact par_val hS rfl (g_indexAddr ty_ar_24 hF rfl rfl rfl (by omega)), fun a w gG hF hS hd => by have hF := hF.ext1 25 (hd 3 rfl rfl); have hF := hF.ext1 27 (hd 5 rfl rfl); exact par_val hS rfl (g_indexAddr ty_ar_23 hF rfl rfl rfl (by omega)), fun a w gG hF hS hd => by have hF := hF.ext1 28 (hd 6 rfl rfl); have hM := hS.mem rfl; exact par_val hS rfl (g_loadAgg ty_ag_22 hF rfl (hM.row 0 rfl) (by simp only [sz0, dgC_size] <;> omega) (algC_row (gi) (gj) (by omega) (by omega) (by omega) (by omega))), fun a w gG hF hS hd => by have hF := hF.ext1 23 (hd 1 rfl rfl); have hF := hF.ext1 29 (hd 7 rfl rfl); exact par_call (by repeat constructor) hS rfl (d_call Tryd.call12 hF (.cons rfl (.cons rfl .nil)) (textOf_ok p n T f ((T (gi) (gj))) _ hn0 hn hv13)), fun a w gG hF hS hd => by have hF := hF.ext1 30 (hd 8 rfl rfl); exact par_own (by repeat constructor) hS rfl rfl rfl rfl (d_buildC 1 hS.1 hF (build1 hF rfl) (ty_bst_39 _)), trivial⟩ ?_;intro a w' L hF hS hq;have hF := hF.ext1 22 (hq 0 rfl rfl);have hF := hF.ext1 23 (hq 1 rfl rfl);have hF := hF.ext1 24 (hq 2 rfl rfl);have hF := hF.ext1 25 (hq 3 rfl rfl);have hF := hF.ext1 26 (hq 4 rfl rfl);have hF := hF.ext1 27 (hq 5 rfl rfl);have hF := hF.ext1 28 (hq 6 rfl rfl);have hF := hF.ext1 29 (hq 7 rfl rfl);have hF := hF.ext1 30 (hq 8 rfl rfl);obtain ⟨hM, hL⟩ := hS;obtain ⟨b5, hptr, hkk⟩ := hq 9 rfl rfl;have hF := hF.ext1 31 hptr;have hL := hL.take hkk;obtain rfl := hL.eq;change Mem w w' [some (b1, algC (p : Int) (n : Int) T f), some (b5, #[.string ((txt n (fun i => dig (((T (gi) (gj))) i))))]), e4_2] [] at hM;change wpList Tryd.prog _ _ [_, _] _ _;refine stR hF (d_append (k := 2) (m := 1) (g := fun _ => .string ((txt n (fun i => dig (((T (gi) (gj))) i))))) ty_si_39 rfl (by decide) hM rfl hF rfl rfl hsl2 (fun i hi => by rw [show i = 0 by omega]; exact (hM.row 1 rfl).cell 0) (fun _ _ => rfl) (by decide) (by unfold maxLen; omega) (by omega)) rfl ?_;rintro u6 w' a ⟨e7, hM, hs8⟩ hF;change Mem w w' [some (b1, algC (p : Int) (n : Int) T f), some (b5, #[.string ((txt n (fun i => dig (((T (gi) (gj))) i))))]), e7] [] at hM;refine ag hF rfl rfl fun a hF => wpList_nil <| iN <| tN <| wp_region_lit <| st hF (g_add hF rfl rfl (add_nat (gj) (1) (by omega))) rfl fun a hF => mv hF rfl rfl fun a hF => wpList_nil <| tN ?_;have hM := hM.drop 1;refine ⟨gj + 1, ⟨by omega, trivial, (u6), (e7), (by rw [← Nat.add_assoc]; exact hs8.snoc (congrArg Value.string (rowT_at (by omega)).symm)), hF.sub _ (by repeat' constructor), ?_⟩, by omega⟩;exact hM
    obtain rfl : n = gj := by omega
    refine wp_exit <| tX <| tX <| ib_same <| iN <| tN <| wp_region_lit <| st hF (g_add hF rfl rfl (add_nat (gi) (1) (by omega))) rfl fun a hF => mv hF rfl rfl fun a hF => nt <| ⟨gi + 1, ⟨by omega, trivial, (u4_2), (e4_2), (by rw [Nat.succ_mul]; exact hsl2), hF.sub _ (by repeat' constructor), ?_⟩, by omega⟩;exact hM
  obtain rfl : n = gi := by omega
  obtain ⟨bJ, capJ, csJ, hvJ, heJ, hsJ⟩ := hsl.pos (Nat.mul_pos hn0 hn0);subst hvJ;subst heJ;change Mem w _ [some (b1, algC (p : Int) (n : Int) T f), none, some (bJ, csJ)] [] at hM;refine wp_exit <| tX <| tX <| ib_same <| tN <| sq <| c_par 5 [] [.val (ptr b1 (0 + 0)), .val (.int .i64 (p : Int)), .val (.string ((decT (p)))), .val (ptr b1 (0 + 1)), .val (.int .i64 (n : Int))] hmix rfl hF rfl hM ⟨fun a w gG hF hS hd => by exact par_val hS rfl (g_fieldAddr ty_fo_31_0 hF rfl), fun a w gG hF hS hd => by have hF := hF.ext1 35 (hd 0 rfl rfl); have hM := hS.mem rfl; exact par_val hS rfl (g_load ty_on_2 hF rfl (hM.row 0 rfl) (algC_p (by omega))), fun a w gG hF hS hd => by have hF := hF.ext1 36 (hd 1 rfl rfl); exact par_call (by repeat constructor) hS rfl (d_call Tryd.call13 hF (.cons rfl (.cons rfl .nil)) (fmt_ok (p) (by omega) _)), fun a w gG hF hS hd => by exact par_val hS rfl (g_fieldAddr ty_fo_31_1 hF rfl), fun a w gG hF hS hd => by have hF := hF.ext1 38 (hd 3 rfl rfl); have hM := hS.mem rfl; exact par_val hS rfl (g_load ty_on_2 hF rfl (hM.row 0 rfl) (algC_n (by omega))), trivial⟩ ?_;intro a w' L hF hS hq;have hF := hF.ext1 35 (hq 0 rfl rfl);have hF := hF.ext1 36 (hq 1 rfl rfl);have hF := hF.ext1 37 (hq 2 rfl rfl);have hF := hF.ext1 38 (hq 3 rfl rfl);have hF := hF.ext1 39 (hq 4 rfl rfl);have hM := hS.mem rfl;change wpList Tryd.prog _ _ [_, _, _] _ _;refine stR hF (d_call Tryd.call13 hF (.cons rfl (.cons rfl .nil)) (fmt_ok (n) (by omega) _)) rfl ?_;rintro _ w' a ⟨hx, rfl⟩ hF;have hM := hM.ext hx;refine ag hF rfl rfl fun a hF => ag hF rfl rfl fun a hF => nt <| sq <| c_par 13 [] [.val (.string ((decT (p)))), .val (.string (((decT (p)) : ByteArray) ++ (⟨#[58]⟩ : ByteArray))), .val (.string ((decT (n)))), .val (.string ((((decT (p)) : ByteArray) ++ (⟨#[58]⟩ : ByteArray) : ByteArray) ++ ((decT (n)) : ByteArray))), .val (.string (((((decT (p)) : ByteArray) ++ (⟨#[58]⟩ : ByteArray) : ByteArray) ++ ((decT (n)) : ByteArray) : ByteArray) ++ (⟨#[58]⟩ : ByteArray))), .val (.slice (some ⟨bJ, 0, none⟩) (n * n) (capJ)), .val (.string ((jn (rowT n T) (n * n)))), .val (.string ((((((decT (p)) : ByteArray) ++ (⟨#[58]⟩ : ByteArray) : ByteArray) ++ ((decT (n)) : ByteArray) : ByteArray) ++ (⟨#[58]⟩ : ByteArray) : ByteArray) ++ ((jn (rowT n T) (n * n)) : ByteArray))), .val (.string (((((((decT (p)) : ByteArray) ++ (⟨#[58]⟩ : ByteArray) : ByteArray) ++ ((decT (n)) : ByteArray) : ByteArray) ++ (⟨#[58]⟩ : ByteArray) : ByteArray) ++ ((jn (rowT n T) (n * n)) : ByteArray) : ByteArray) ++ (⟨#[58]⟩ : ByteArray))), .val (.agg (algC (p : Int) (n : Int) T f)), .val (ptr b1 (0 + 218)), .val (.agg (vecC f)), .val (.string ((txt n (fun i => dig ((f) i)))))] hmix rfl hF rfl hM ⟨fun a w gG hF hS hd => by exact pmv hS rfl hF rfl, fun a w gG hF hS hd => by have hF := hF.ext1 41 (hd 0 rfl rfl); exact par_val hS rfl (g_addS hF rfl rfl (by first | omega | (simp only [ByteArray.size_append, htx]; omega))), fun a w gG hF hS hd => by exact pmv hS rfl hF rfl, fun a w gG hF hS hd => by have hF := hF.ext1 42 (hd 1 rfl rfl); have hF := hF.ext1 43 (hd 2 rfl rfl); exact par_val hS rfl (g_addS hF rfl rfl (by first | omega | (simp only [ByteArray.size_append, htx]; omega))), fun a w gG hF hS hd => by have hF := hF.ext1 44 (hd 3 rfl rfl); exact par_val hS rfl (g_addS hF rfl rfl (by first | omega | (simp only [ByteArray.size_append, htx]; omega))), fun a w gG hF hS hd => by exact pmv hS rfl hF rfl, fun a w gG hF hS hd => by have hF := hF.ext1 46 (hd 5 rfl rfl); have hM := hS.mem rfl; exact par_call (by repeat constructor) hS rfl (d_call Tryd.call14 hF (.cons rfl (.cons rfl .nil)) (joinC_ok bJ capJ (n * n) csJ (rowT n T) _ (by omega) (fun i => Nat.le_trans (rowT_size hn i) (by omega)) hsJ (hM.row 2 rfl))), fun a w gG hF hS hd => by have hF := hF.ext1 45 (hd 4 rfl rfl); have hF := hF.ext1 47 (hd 6 rfl rfl); exact par_val hS rfl (g_addS hF rfl rfl (by first | omega | (simp only [ByteArray.size_append, htx]; omega))), fun a w gG hF hS hd => by have hF := hF.ext1 48 (hd 7 rfl rfl); exact par_val hS rfl (g_addS hF rfl rfl (by first | omega | (simp only [ByteArray.size_append, htx]; omega))), fun a w gG hF hS hd => by have hM := hS.mem rfl; exact par_val hS rfl (g_loadAgg ty_ag_31 hF rfl (hM.row 0 rfl) (by simp only [sz0, dgC_size] <;> omega) (whole cells_size)), fun a w gG hF hS hd => by exact par_val hS rfl (g_fieldAddr ty_fo_31_3 hF rfl), fun a w gG hF hS hd => by have hF := hF.ext1 51 (hd 10 rfl rfl); have hM := hS.mem rfl; exact par_val hS rfl (g_loadAgg ty_ag_29 hF rfl (hM.row 0 rfl) (by simp only [sz0, dgC_size] <;> omega) (algC_form (by omega) (by omega))), fun a w gG hF hS hd => by have hF := hF.ext1 50 (hd 9 rfl rfl); have hF := hF.ext1 52 (hd 11 rfl rfl); exact par_call (by repeat constructor) hS rfl (d_call Tryd.call12 hF (.cons rfl (.cons rfl .nil)) (textOf_ok p n T f (f) _ hn0 hn hv13)), trivial⟩ ?_
  intro a w' L hF hS hq;have hF := hF.ext1 41 (hq 0 rfl rfl);have hF := hF.ext1 42 (hq 1 rfl rfl);have hF := hF.ext1 43 (hq 2 rfl rfl);have hF := hF.ext1 44 (hq 3 rfl rfl);have hF := hF.ext1 45 (hq 4 rfl rfl);have hF := hF.ext1 46 (hq 5 rfl rfl);have hF := hF.ext1 47 (hq 6 rfl rfl);have hF := hF.ext1 48 (hq 7 rfl rfl);have hF := hF.ext1 49 (hq 8 rfl rfl);have hF := hF.ext1 50 (hq 9 rfl rfl);have hF := hF.ext1 51 (hq 10 rfl rfl);have hF := hF.ext1 52 (hq 11 rfl rfl);have hF := hF.ext1 53 (hq 12 rfl rfl);have hM := hS.mem rfl;change wpList Tryd.prog _ _ [_, _, _] _ _;refine st hF (g_addS hF rfl rfl (by first | omega | (simp only [ByteArray.size_append, htx]; omega))) rfl fun a hF => ag hF rfl rfl fun a hF => ag hF rfl rfl fun a hF => nt <| wp_ret <| fin2 rfl hF.defers (res_tmp hF rfl) (res_tmp hF rfl) ⟨_, rfl, hM.below, ?_⟩
  show _ = _
  rfl
theorem AlgebraTextI_A (p n : Int) (T : Nat → Nat → Nat → Nat) (f : Nat → Nat) (w : World) (hT : ∀ i j k, T i j k ≤ 255) (hf : ∀ i, f i ≤ 255) (hc : ¬ CodeP p n T f 0 (vAtL [])) :
    CallsR Tryd.prog 6 #[.agg (algC p n T f)] w (fun res _ => res = .tuple #[.string ⟨#[]⟩, .int .i64 1]) := by
  refine calls_fr [.agg (algC p n T f)] Tryd.func6 rfl Tryd.ntmps6 rfl fun a hF => ?_;have hM : Mem w w [none, none] [] := MemX.start w 2;change Fr 55 a [(0, .agg (algC p n T f))] at hF;refine sr <| stR hF (d_box 0 hM hF rfl) rfl ?_;rintro _ w' a ⟨b1, rfl, hM, -⟩ hF;change Mem w w' [some (b1, algC p n T f), none] [] at hM;refine ag hF rfl rfl fun a hF => ag hF rfl rfl fun a hF => nt <| sq <| sr <| st hF (g_loadAgg ty_ag_31 hF rfl (hM.row 0 rfl) (by simp only [sz0, dgC_size] <;> omega) (whole cells_size)) rfl fun a hF => stR hF (d_call Tryd.call11 hF (.cons rfl .nil) ((CallsR.val (IsAlgebraI_ok p n T f _ (fun _ _ _ => hT _ _ _) (fun _ => hf _)) (congrArg Value.bool (decide_eq_false (fun h => hc ⟨h, fun i hi => absurd hi (by omega)⟩)))))) rfl ?_;rintro _ w' a ⟨hx, rfl⟩ hF;have hM := hM.ext hx;refine st hF (g_not hF rfl) rfl fun a hF => nt <| c_T hF rfl <| sr <| ag hF rfl rfl fun a hF => ag hF rfl rfl fun a hF => nt <| wp_ret <| tR <| fin2 rfl hF.defers (res_tmp hF rfl) (res_tmp hF rfl) ⟨_, rfl, hM.below, ?_⟩
  show _ = _
  rfl
end Go.Proofs.YtgmenepbijhanaaDoor
