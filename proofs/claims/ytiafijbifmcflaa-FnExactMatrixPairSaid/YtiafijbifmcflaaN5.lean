/- What functions of the program return, as walks over their operations; no statement of the seat is proved here. -/
import Derived.Test.YtiafijbifmcflaaN2
set_option linter.unusedVariables false
set_option linter.unusedSimpArgs false
namespace Go.Proofs.Ytiafijbifmcflaa
open Go Go.RowKit Go.Sw Go.Ech
open Classical
def pmVT : List (List Nat) := [[0, 1, 2, 3, 4, 5], [1, 0, 4, 5, 2, 3], [2, 3, 0, 1, 5, 4], [3, 2, 5, 4, 0, 1], [4, 5, 1, 0, 3, 2], [5, 4, 3, 2, 1, 0]]
def pmV (i j : Nat) : Nat := (pmVT.getD i []).getD j 0
theorem startD3 {w : World} {b1 b2 b3 : Nat} {c1 c2 c3 : Array Value} (h1 : Blk w b1 c1) (h2 : Blk w b2 c2) (h3 : Blk w b3 c3) : ∀ b cs, (b, cs) ∈ [(b1, c1), (b2, c2), (b3, c3)] → Blk w b cs := fun b cs h => by
  simp only [List.mem_cons, Prod.mk.injEq, List.not_mem_nil, or_false] at h
  rcases h with ⟨rfl, rfl⟩ | ⟨rfl, rfl⟩ | ⟨rfl, rfl⟩
  · exact h1
  · exact h2
  · exact h3

end Go.Proofs.Ytiafijbifmcflaa

namespace Go.Proofs.Ytiafijbifmcflaa
open Go Go.RowKit Go.Sw Go.Ech
open Classical
def sqT : List (List Nat) := [[1, 0, 0, 0], [0, 1, 0, 0], [0, 0, 1, 0], [0, 0, 0, 1]]
def sqL (i k : Nat) : Nat := (sqT.getD i []).getD k 0
def v4C (v : Nat → Nat) : Array Value := fnC 4 (fun c => .int .u8 (v c : Int))
def sq4C : Array Value := fnC 16 (fun c => .int .u8 (sqL (c / 4) (c % 4) : Int))
def sqE (q c : Nat) : Nat := if q = 0 then 0 else sqL (q - 1) c
theorem v4C_size (v : Nat → Nat) : (v4C v).size = 4 := fnC_size _ _
theorem sq4C_size : sq4C.size = 16 := fnC_size _ _
theorem sq4_row {o e : Nat} (k : Nat) (ho : o = k * 4) (he : e = o + 4) (hk : k < 4) : sq4C.extract o e = v4C (sqL k) := by
  subst ho;exact extract_ext he (by rw [sq4C_size]; omega) fun c hc => by
    unfold sq4C
    rw [fnC_get (by omega), show (k * 4 + c) / 4 = k by omega, show (k * 4 + c) % 4 = c by omega]
theorem v4_get {v : Nat → Nat} {o : Nat} (c : Nat) (ho : o = c) (hc : c < 4) : (v4C v)[o]? = some (.int .u8 (v c : Int)) := by
  subst ho; exact fnC_get hc
theorem v4_set {v : Nat → Nat} {o x : Nat} (c : Nat) (ho : o = c) : (v4C v).setIfInBounds o (.int .u8 (x : Int)) = v4C (fun d => if d = c then x else v d) := by
  subst ho
  unfold v4C
  exact fnC_set fun d hd => by by_cases e : d = o <;> simp [e]
theorem v4_congr {f g : Nat → Nat} (h : ∀ c, c < 4 → f c = g c) : v4C f = v4C g := fnC_congr fun c hc => by rw [h c hc]
theorem v4_inj {f g : Nat → Nat} (h : v4C f = v4C g) : ∀ c, c < 4 → f c = g c := fun c hc => by
  have h1 : (v4C f)[c]? = (v4C g)[c]? := by rw [h]
  rw [v4_get c rfl hc, v4_get c rfl hc] at h1
  have h2 := Option.some.inj h1
  injection h2 with _ h3
  exact Int.ofNat.inj h3
def mulSq (f g : Nat → Nat) (c : Nat) : Nat := f (c / 2 * 2) * g (c % 2) + f (c / 2 * 2 + 1) * g (2 + c % 2)
def sqQT : List (List Nat) := [[1, 2, 0, 0], [0, 0, 1, 2], [3, 4, 0, 0], [0, 0, 3, 4]]
def sqQ (i j : Nat) : Nat := (sqQT.getD i []).getD j 0
def sqV (i j : Nat) : Int := (sqQ i j : Int) - 1
theorem sqQ_lt {i j : Nat} (hi : i < 4) (hj : j < 4) : sqQ i j < 5 := by
  have h : ∀ i, i < 4 → ∀ j, j < 4 → sqQ i j < 5 := by decide
  exact h i hi j hj
theorem sq_mul {i j : Nat} (hi : i < 4) (hj : j < 4) : ∀ c, c < 4 → mulSq (sqL i) (sqL j) c = sqE (sqQ i j) c := by
  have h : ∀ i, i < 4 → ∀ j, j < 4 → ∀ c, c < 4 → mulSq (sqL i) (sqL j) c = sqE (sqQ i j) c := by decide
  exact h i hi j hj
theorem sqL_le {i c : Nat} (hi : i < 4) (hc : c < 4) : sqL i c ≤ 1 := by
  have h : ∀ i, i < 4 → ∀ c, c < 4 → sqL i c ≤ 1 := by decide
  exact h i hi c hc
theorem sqE_inj {k q : Nat} (hk : k < 5) (hq : q < 5) (h : ∀ c, c < 4 → sqE k c = sqE q c) : k = q := by
  have h2 : ∀ k, k < 5 → ∀ q, q < 5 → (∀ c, c < 4 → sqE k c = sqE q c) → k = q := by decide
  exact h2 k hk q hq h
def sqES : Array MapEntry := #[{ key := .agg (v4C (sqE 0)), val := .int .i64 (((0 : Nat) : Int) - 1), born := 0 }, { key := .agg (v4C (sqE 1)), val := .int .i64 (((1 : Nat) : Int) - 1), born := 1 }, { key := .agg (v4C (sqE 2)), val := .int .i64 (((2 : Nat) : Int) - 1), born := 2 }, { key := .agg (v4C (sqE 3)), val := .int .i64 (((3 : Nat) : Int) - 1), born := 3 }, { key := .agg (v4C (sqE 4)), val := .int .i64 (((4 : Nat) : Int) - 1), born := 4 }]

end Go.Proofs.Ytiafijbifmcflaa

namespace Go.Proofs.Ytiafijbifmcflaa
open Go Go.RowKit Go.Sw Go.Ech
open Classical
theorem ty_bf2_63_10 : ∀ w, (Instr.build 63 #[(0, .int .u8 (1)), (1, .int .u8 (0))]).run Try.prog w = .ok (.agg #[.int .u8 (1), .int .u8 (0)]) w := by intros; kernel_rfl
theorem ty_bf2_63_00 : ∀ w, (Instr.build 63 #[(0, .int .u8 (0)), (1, .int .u8 (0))]).run Try.prog w = .ok (.agg #[.int .u8 (0), .int .u8 (0)]) w := by intros; kernel_rfl
theorem ty_bf4_65_0 : ∀ w, (Instr.build 65 #[(0, .agg (#[.int .u8 (1), .int .u8 (0)])), (1, .agg (#[.int .u8 (0), .int .u8 (0)]))]).run Try.prog w = .ok (.agg (v4C (sqL 0))) w := by intros; kernel_rfl
theorem ty_bf2_63_01 : ∀ w, (Instr.build 63 #[(0, .int .u8 (0)), (1, .int .u8 (1))]).run Try.prog w = .ok (.agg #[.int .u8 (0), .int .u8 (1)]) w := by intros; kernel_rfl
theorem ty_bf4_65_1 : ∀ w, (Instr.build 65 #[(0, .agg (#[.int .u8 (0), .int .u8 (1)])), (1, .agg (#[.int .u8 (0), .int .u8 (0)]))]).run Try.prog w = .ok (.agg (v4C (sqL 1))) w := by intros; kernel_rfl
theorem ty_bf4_65_2 : ∀ w, (Instr.build 65 #[(0, .agg (#[.int .u8 (0), .int .u8 (0)])), (1, .agg (#[.int .u8 (1), .int .u8 (0)]))]).run Try.prog w = .ok (.agg (v4C (sqL 2))) w := by intros; kernel_rfl
theorem ty_bf4_65_3 : ∀ w, (Instr.build 65 #[(0, .agg (#[.int .u8 (0), .int .u8 (0)])), (1, .agg (#[.int .u8 (0), .int .u8 (1)]))]).run Try.prog w = .ok (.agg (v4C (sqL 3))) w := by intros; kernel_rfl
theorem ty_bls_66 : ∀ w, (Instr.buildSlice 66 4 #[(0, .agg (v4C (sqL 0))), (1, .agg (v4C (sqL 1))), (2, .agg (v4C (sqL 2))), (3, .agg (v4C (sqL 3)))]).run Try.prog w = .ok (.slice (some ⟨w.heap.size, 0, none⟩) 4 4) (w.alloc (.cells (sq4C) 65)) := by intros; kernel_rfl
theorem ty_ze_66 : zeroP Try.prog 66 = some (.slice none 0 0) := by kernel_rfl
theorem ty_on_66 : oneP Try.prog 66 = true := by kernel_rfl
theorem ty_bu_65 : ∀ w, (Instr.build 65 #[]).run Try.prog w = .ok (.agg (fnC 4 (fun _ => .int .u8 (0)))) w := by intros; kernel_rfl
theorem ty_um_67 : Try.prog.underlying 67 = some (.map 65 2) := by kernel_rfl
theorem ty_ze_67 : zeroP Try.prog 67 = some (.map none) := by kernel_rfl
theorem ty_on_67 : oneP Try.prog 67 = true := by kernel_rfl
theorem ty_us_66 : Try.prog.underlying 66 = some (.slice 65) := by kernel_rfl
theorem ty_sl_66 : sliceOf Try.prog 66 = some 4 := by kernel_rfl
theorem ty_ag_65 : aggP Try.prog 65 = some 4 := by kernel_rfl
theorem ty_ze_65 : zeroP Try.prog 65 = some (.agg (fnC 4 (fun _ => .int .u8 (0)))) := by kernel_rfl
theorem ty_sz_65 : sizeP Try.prog 65 = some 4 := by kernel_rfl
theorem squarePlaces_ok  (w : World)  :
    CallsR Try.prog 23 #[] w (fun v w' => ∃ b1 bS b2 bM, v = .func (.func 33) #[] #[ptr b2 0, ptr b1 0] ∧ Blk w' b1 #[.slice (some ⟨bS, 0, none⟩) 4 4] ∧ Blk w' bS sq4C ∧ Blk w' b2 #[.map (some bM)] ∧ IsMap w' bM sqES 5) := by
  refine calls_fr [] Try.func23 rfl Try.ntmps23 rfl fun a hF => ?_;have hM : Mem w w [none, none, none, none] [] := MemX.start w 4;change Fr 33 a [] at hF;refine sr <| ag hF rfl rfl fun a hF => ns <| st hF (g_buildP hF (build2 hF rfl rfl) ty_bf2_63_10) rfl fun a hF => st hF (g_buildP hF (build2 hF rfl rfl) ty_bf2_63_00) rfl fun a hF => st hF (g_buildP hF (build2 hF rfl rfl) ty_bf4_65_0) rfl fun a hF => st hF (g_buildP hF (build2 hF rfl rfl) ty_bf2_63_01) rfl fun a hF => st hF (g_buildP hF (build2 hF rfl rfl) ty_bf2_63_00) rfl fun a hF => st hF (g_buildP hF (build2 hF rfl rfl) ty_bf4_65_1) rfl fun a hF => st hF (g_buildP hF (build2 hF rfl rfl) ty_bf2_63_00) rfl fun a hF => st hF (g_buildP hF (build2 hF rfl rfl) ty_bf2_63_10) rfl fun a hF => st hF (g_buildP hF (build2 hF rfl rfl) ty_bf4_65_2) rfl fun a hF => st hF (g_buildP hF (build2 hF rfl rfl) ty_bf2_63_00) rfl fun a hF => st hF (g_buildP hF (build2 hF rfl rfl) ty_bf2_63_01) rfl fun a hF => st hF (g_buildP hF (build2 hF rfl rfl) ty_bf4_65_3) rfl fun a hF => stR hF (d_buildC (vs := [(0, .agg (v4C (sqL 0))), (1, .agg (v4C (sqL 1))), (2, .agg (v4C (sqL 2))), (3, .agg (v4C (sqL 3)))]) 0 hM hF (build4 hF rfl rfl rfl rfl) ty_bls_66) rfl ?_;rintro _ w' a ⟨b1, rfl, hM, -⟩ hF;refine stR hF (d_alloc 1 hM ty_ze_66) rfl ?_;rintro _ w' a ⟨b2, rfl, hM, -⟩ hF;change Mem w w' [some (b1, sq4C), some (b2, #[.slice none 0 0]), none, none] [] at hM;refine stN hF (d_store 1 hM rfl ty_on_66 hF rfl rfl rfl (by first | omega | (simp only [sz0, grpC_size, v3C_size, pm6C_size, v4C_size, sq4C_size] <;> omega) | (simp only [Array.size_setIfInBounds]; omega) | simp)) ?_;intro _ w' a hM hF;refine ns <| stR hF (d_makeMap hM) rfl ?_;rintro _ w' a ⟨bm3, rfl, hM, hgebm3, hisbm3⟩ hF;refine st hF (g_build0 ty_bu_65) rfl fun a hF => stN hF (d_insK ty_um_67 hM hisbm3 hgebm3 hF rfl rfl rfl (fun w => by kernel_rfl) (fun w => by kernel_rfl)) ?_;rintro _ w' a ⟨hM, hisbm3⟩ hF;refine mv hF rfl rfl fun a hF => stR hF (d_alloc 2 hM ty_ze_67) rfl ?_;rintro _ w' a ⟨b4, rfl, hM, hxk⟩ hF; have hisbm3 := hisbm3.ext hxk;change Mem w w' [some (b1, sq4C), some (b2, #[.slice (some ⟨b1, 0, none⟩) 4 4]), some (b4, #[.map none]), none] [] at hM;refine stN hF (d_storeM 2 hM rfl ty_on_67 hF rfl rfl rfl (by first | omega | (simp only [sz0, grpC_size, v3C_size, pm6C_size, v4C_size, sq4C_size] <;> omega) | (simp only [Array.size_setIfInBounds]; omega) | simp)) ?_;rintro _ w' a ⟨hM, hkm⟩ hF; have hisbm3 := hkm _ _ _ hisbm3;change Mem w w' [some (b1, sq4C), some (b2, #[.slice (some ⟨b1, 0, none⟩) 4 4]), some (b4, #[.map (some bm3)]), none] [] at hM;refine nt <| sq <| sr <| st hF (g_load ty_on_66 hF rfl (hM.row 1 rfl) rfl) rfl fun a hF => st hF (g_len ty_us_66 hF rfl) rfl fun a hF => mv hF rfl rfl fun a hF => nt <| wp_block <| wp_loop_rounds 5 <| rnd <| sr <| st hF (g_lss hF rfl rfl) rfl fun a hF => nt <| sq <| c_cond hF rfl (fun h5 => ?_) (fun h5 => ?_)
  · refine wp_skip ?_
    refine tN <| sq <| wp_block <| sr <| mv hF rfl rfl fun a hF => st hF (g_indexSl (i := 0) ty_sl_66 hF rfl rfl rfl (by omega)) rfl fun a hF => st hF (g_loadAgg ty_ag_65 hF rfl (hM.row 0 rfl) (by simp only [sz0, grpC_size, v3C_size, pm6C_size, v4C_size, sq4C_size] <;> omega) (sq4_row (0) (by omega) (by omega) (by omega))) rfl fun a hF => stR hF (d_alloc 3 hM ty_ze_65) rfl ?_;rintro _ w' a ⟨b6, rfl, hM, hxk⟩ hF; have hisbm3 := hisbm3.ext hxk;change Mem w w' [some (b1, sq4C), some (b2, #[.slice (some ⟨b1, 0, none⟩) 4 4]), some (b4, #[.map (some bm3)]), some (b6, fnC 4 (fun _ => .int .u8 (0)))] [] at hM;refine ag hF rfl rfl fun a hF => stN hF (d_storeAggM 3 hM rfl ty_sz_65 hF rfl rfl (fnC_one fun _ _ => rfl) (by simp only [sz0, grpC_size, v3C_size, pm6C_size, v4C_size, sq4C_size]) (by simp only [sz0, grpC_size, v3C_size, pm6C_size, v4C_size, sq4C_size] <;> omega) (splice_whole _ _ rfl)) ?_;rintro _ w' a ⟨hM, hkm⟩ hF; have hisbm3 := hkm _ _ _ hisbm3;change Mem w w' [some (b1, sq4C), some (b2, #[.slice (some ⟨b1, 0, none⟩) 4 4]), some (b4, #[.map (some bm3)]), some (b6, v4C (sqL (0)))] [] at hM;refine nt <| wp_region_lit <| st hF (g_load ty_on_67 hF rfl (hM.row 2 rfl) rfl) rfl fun a hF => st hF (g_loadAgg ty_ag_65 hF rfl (hM.row 3 rfl) (by simp only [sz0, grpC_size, v3C_size, pm6C_size, v4C_size, sq4C_size] <;> omega) (extract_whole _ _ rfl)) rfl fun a hF => mv hF rfl rfl fun a hF => stN hF (d_mapUpd ty_um_67 hM hisbm3 hgebm3 hF rfl rfl rfl (fun w => by kernel_rfl) (fun w => by kernel_rfl)) ?_;rintro _ w' a ⟨hM, hisbm3⟩ hF;change Mem w w' [some (b1, sq4C), some (b2, #[.slice (some ⟨b1, 0, none⟩) 4 4]), some (b4, #[.map (some bm3)]), some (b6, v4C (sqL (0)))] [] at hM;refine wpList_nil <| iN <| tN <| wp_region_lit <| st hF (g_add hF rfl rfl (add_nat (0) (1) (by omega))) rfl fun a hF => mv hF rfl rfl fun a hF => nt <| rnd <| sr <| st hF (g_lss hF rfl rfl) rfl fun a hF => nt <| sq <| c_cond hF rfl (fun h7 => ?_) (fun h7 => ?_)
    · refine wp_skip ?_
      refine tN <| sq <| wp_block <| sr <| mv hF rfl rfl fun a hF => st hF (g_indexSl (i := 0 + 1) ty_sl_66 hF rfl rfl rfl (by omega)) rfl fun a hF => st hF (g_loadAgg ty_ag_65 hF rfl (hM.row 0 rfl) (by simp only [sz0, grpC_size, v3C_size, pm6C_size, v4C_size, sq4C_size] <;> omega) (sq4_row (0 + 1) (by omega) (by omega) (by omega))) rfl fun a hF => ?_;have hM := hM.drop 3;refine stR hF (d_alloc 3 hM ty_ze_65) rfl ?_;rintro _ w' a ⟨b8, rfl, hM, hxk⟩ hF; have hisbm3 := hisbm3.ext hxk;change Mem w w' [some (b1, sq4C), some (b2, #[.slice (some ⟨b1, 0, none⟩) 4 4]), some (b4, #[.map (some bm3)]), some (b8, fnC 4 (fun _ => .int .u8 (0)))] [] at hM;refine ag hF rfl rfl fun a hF => stN hF (d_storeAggM 3 hM rfl ty_sz_65 hF rfl rfl (fnC_one fun _ _ => rfl) (by simp only [sz0, grpC_size, v3C_size, pm6C_size, v4C_size, sq4C_size]) (by simp only [sz0, grpC_size, v3C_size, pm6C_size, v4C_size, sq4C_size] <;> omega) (splice_whole _ _ rfl)) ?_;rintro _ w' a ⟨hM, hkm⟩ hF; have hisbm3 := hkm _ _ _ hisbm3;change Mem w w' [some (b1, sq4C), some (b2, #[.slice (some ⟨b1, 0, none⟩) 4 4]), some (b4, #[.map (some bm3)]), some (b8, v4C (sqL (0 + 1)))] [] at hM;refine nt <| wp_region_lit <| st hF (g_load ty_on_67 hF rfl (hM.row 2 rfl) rfl) rfl fun a hF => st hF (g_loadAgg ty_ag_65 hF rfl (hM.row 3 rfl) (by simp only [sz0, grpC_size, v3C_size, pm6C_size, v4C_size, sq4C_size] <;> omega) (extract_whole _ _ rfl)) rfl fun a hF => mv hF rfl rfl fun a hF => stN hF (d_mapUpd ty_um_67 hM hisbm3 hgebm3 hF rfl rfl rfl (fun w => by kernel_rfl) (fun w => by kernel_rfl)) ?_;rintro _ w' a ⟨hM, hisbm3⟩ hF;change Mem w w' [some (b1, sq4C), some (b2, #[.slice (some ⟨b1, 0, none⟩) 4 4]), some (b4, #[.map (some bm3)]), some (b8, v4C (sqL (0 + 1)))] [] at hM;refine wpList_nil <| iN <| tN <| wp_region_lit <| st hF (g_add hF rfl rfl (add_nat (0 + 1) (1) (by omega))) rfl fun a hF => mv hF rfl rfl fun a hF => nt <| rnd <| sr <| st hF (g_lss hF rfl rfl) rfl fun a hF => nt <| sq <| c_cond hF rfl (fun h9 => ?_) (fun h9 => ?_)
      · refine wp_skip ?_
        refine tN <| sq <| wp_block <| sr <| mv hF rfl rfl fun a hF => st hF (g_indexSl (i := 0 + 1 + 1) ty_sl_66 hF rfl rfl rfl (by omega)) rfl fun a hF => st hF (g_loadAgg ty_ag_65 hF rfl (hM.row 0 rfl) (by simp only [sz0, grpC_size, v3C_size, pm6C_size, v4C_size, sq4C_size] <;> omega) (sq4_row (0 + 1 + 1) (by omega) (by omega) (by omega))) rfl fun a hF => ?_;have hM := hM.drop 3;refine stR hF (d_alloc 3 hM ty_ze_65) rfl ?_;rintro _ w' a ⟨b10, rfl, hM, hxk⟩ hF; have hisbm3 := hisbm3.ext hxk;change Mem w w' [some (b1, sq4C), some (b2, #[.slice (some ⟨b1, 0, none⟩) 4 4]), some (b4, #[.map (some bm3)]), some (b10, fnC 4 (fun _ => .int .u8 (0)))] [] at hM;refine ag hF rfl rfl fun a hF => stN hF (d_storeAggM 3 hM rfl ty_sz_65 hF rfl rfl (fnC_one fun _ _ => rfl) (by simp only [sz0, grpC_size, v3C_size, pm6C_size, v4C_size, sq4C_size]) (by simp only [sz0, grpC_size, v3C_size, pm6C_size, v4C_size, sq4C_size] <;> omega) (splice_whole _ _ rfl)) ?_;rintro _ w' a ⟨hM, hkm⟩ hF; have hisbm3 := hkm _ _ _ hisbm3;change Mem w w' [some (b1, sq4C), some (b2, #[.slice (some ⟨b1, 0, none⟩) 4 4]), some (b4, #[.map (some bm3)]), some (b10, v4C (sqL (0 + 1 + 1)))] [] at hM;refine nt <| wp_region_lit <| st hF (g_load ty_on_67 hF rfl (hM.row 2 rfl) rfl) rfl fun a hF => st hF (g_loadAgg ty_ag_65 hF rfl (hM.row 3 rfl) (by simp only [sz0, grpC_size, v3C_size, pm6C_size, v4C_size, sq4C_size] <;> omega) (extract_whole _ _ rfl)) rfl fun a hF => mv hF rfl rfl fun a hF => stN hF (d_mapUpd ty_um_67 hM hisbm3 hgebm3 hF rfl rfl rfl (fun w => by kernel_rfl) (fun w => by kernel_rfl)) ?_;rintro _ w' a ⟨hM, hisbm3⟩ hF;change Mem w w' [some (b1, sq4C), some (b2, #[.slice (some ⟨b1, 0, none⟩) 4 4]), some (b4, #[.map (some bm3)]), some (b10, v4C (sqL (0 + 1 + 1)))] [] at hM;refine wpList_nil <| iN <| tN <| wp_region_lit <| st hF (g_add hF rfl rfl (add_nat (0 + 1 + 1) (1) (by omega))) rfl fun a hF => mv hF rfl rfl fun a hF => nt <| rnd <| sr <| st hF (g_lss hF rfl rfl) rfl fun a hF => nt <| sq <| c_cond hF rfl (fun h11 => ?_) (fun h11 => ?_)
        · refine wp_skip ?_
          refine tN <| sq <| wp_block <| sr <| mv hF rfl rfl fun a hF => st hF (g_indexSl (i := 0 + 1 + 1 + 1) ty_sl_66 hF rfl rfl rfl (by omega)) rfl fun a hF => st hF (g_loadAgg ty_ag_65 hF rfl (hM.row 0 rfl) (by simp only [sz0, grpC_size, v3C_size, pm6C_size, v4C_size, sq4C_size] <;> omega) (sq4_row (0 + 1 + 1 + 1) (by omega) (by omega) (by omega))) rfl fun a hF => ?_;have hM := hM.drop 3;refine stR hF (d_alloc 3 hM ty_ze_65) rfl ?_;rintro _ w' a ⟨b12, rfl, hM, hxk⟩ hF; have hisbm3 := hisbm3.ext hxk;change Mem w w' [some (b1, sq4C), some (b2, #[.slice (some ⟨b1, 0, none⟩) 4 4]), some (b4, #[.map (some bm3)]), some (b12, fnC 4 (fun _ => .int .u8 (0)))] [] at hM;refine ag hF rfl rfl fun a hF => stN hF (d_storeAggM 3 hM rfl ty_sz_65 hF rfl rfl (fnC_one fun _ _ => rfl) (by simp only [sz0, grpC_size, v3C_size, pm6C_size, v4C_size, sq4C_size]) (by simp only [sz0, grpC_size, v3C_size, pm6C_size, v4C_size, sq4C_size] <;> omega) (splice_whole _ _ rfl)) ?_;rintro _ w' a ⟨hM, hkm⟩ hF; have hisbm3 := hkm _ _ _ hisbm3;change Mem w w' [some (b1, sq4C), some (b2, #[.slice (some ⟨b1, 0, none⟩) 4 4]), some (b4, #[.map (some bm3)]), some (b12, v4C (sqL (0 + 1 + 1 + 1)))] [] at hM;refine nt <| wp_region_lit <| st hF (g_load ty_on_67 hF rfl (hM.row 2 rfl) rfl) rfl fun a hF => st hF (g_loadAgg ty_ag_65 hF rfl (hM.row 3 rfl) (by simp only [sz0, grpC_size, v3C_size, pm6C_size, v4C_size, sq4C_size] <;> omega) (extract_whole _ _ rfl)) rfl fun a hF => mv hF rfl rfl fun a hF => stN hF (d_mapUpd ty_um_67 hM hisbm3 hgebm3 hF rfl rfl rfl (fun w => by kernel_rfl) (fun w => by kernel_rfl)) ?_;rintro _ w' a ⟨hM, hisbm3⟩ hF;change Mem w w' [some (b1, sq4C), some (b2, #[.slice (some ⟨b1, 0, none⟩) 4 4]), some (b4, #[.map (some bm3)]), some (b12, v4C (sqL (0 + 1 + 1 + 1)))] [] at hM;refine wpList_nil <| iN <| tN <| wp_region_lit <| st hF (g_add hF rfl rfl (add_nat (0 + 1 + 1 + 1) (1) (by omega))) rfl fun a hF => mv hF rfl rfl fun a hF => nt <| rnd <| sr <| st hF (g_lss hF rfl rfl) rfl fun a hF => nt <| sq <| c_cond hF rfl (fun h13 => ?_) (fun h13 => ?_)
          · exfalso; omega
          refine wp_exit <| tX <| tX <| ib_same <| tN <| sr <| st hF (g_makeFunc2 hF rfl rfl) rfl fun a hF => ag hF rfl rfl fun a hF => nt <| wp_ret <| fin1 rfl hF.defers (res_tmp hF rfl) ⟨_, rfl, hM.below, ?_⟩;exact ⟨_, _, _, _, rfl, hM.row 1 rfl, hM.row 0 rfl, hM.row 2 rfl, hisbm3⟩
        exfalso; omega
      exfalso; omega
    exfalso; omega
  exfalso; omega
end Go.Proofs.Ytiafijbifmcflaa

namespace Go.Proofs.Ytiafijbifmcflaa
open Go Go.RowKit Go.Sw Go.Ech
open Classical
theorem ty_ar_65 : arrOf Try.prog 65 = some (2, 2) := by kernel_rfl
theorem ty_ar_63 : arrOf Try.prog 63 = some (2, 1) := by kernel_rfl
def mqP (f g : Nat → Nat) (r c d : Nat) : Nat := if d < r * 2 + c then mulSq f g d else 0
theorem mulSq_at {f g : Nat → Nat} {r c : Nat} (hc : c < 2) : f (r * 2 + 0) * g (0 * 2 + c) + f (r * 2 + 1) * g (1 * 2 + c) = mulSq f g (r * 2 + c) := by
  unfold mulSq
  rw [show (r * 2 + c) / 2 * 2 = r * 2 by omega, show (r * 2 + c) % 2 = c by omega, show 0 * 2 + c = c by omega]; rfl
theorem mqP_step {f g : Nat → Nat} {r c d x : Nat} (hx : x = mulSq f g (r * 2 + c)) : (if d = r * 2 + c then x else mqP f g r c d) = mqP f g r (c + 1) d := by
  unfold mqP
  by_cases e : d = r * 2 + c
  · subst e; rw [if_pos rfl, if_pos (by omega), hx]
  · rw [if_neg e]
    have e : (d < r * 2 + c) = (d < r * 2 + (c + 1)) := by apply propext; omega
    simp only [e]
theorem keySq : WideMaps.KeyLaw Try.prog 65 := deep_law (m := 8) (by decide) (by kernel_rfl) (by kernel_rfl) (by kernel_rfl)
theorem sq_key {q : Nat} (hq : q < 5) : ∃ l, keyOf Try.prog 65 (.agg (v4C (sqE q))) = some l := by
  have h : q = 0 ∨ q = 1 ∨ q = 2 ∨ q = 3 ∨ q = 4 := by omega
  rcases h with rfl | rfl | rfl | rfl | rfl
  · exact Option.isSome_iff_exists.1 (show (keyOf Try.prog 65 (.agg (v4C (sqE 0)))).isSome = true by kernel_rfl)
  · exact Option.isSome_iff_exists.1 (show (keyOf Try.prog 65 (.agg (v4C (sqE 1)))).isSome = true by kernel_rfl)
  · exact Option.isSome_iff_exists.1 (show (keyOf Try.prog 65 (.agg (v4C (sqE 2)))).isSome = true by kernel_rfl)
  · exact Option.isSome_iff_exists.1 (show (keyOf Try.prog 65 (.agg (v4C (sqE 3)))).isSome = true by kernel_rfl)
  · exact Option.isSome_iff_exists.1 (show (keyOf Try.prog 65 (.agg (v4C (sqE 4)))).isSome = true by kernel_rfl)
theorem sq_mem {e : MapEntry} : e ∈ sqES.toList ↔ ∃ k, k < 5 ∧ e = { key := .agg (v4C (sqE k)), val := .int .i64 (((k : Nat) : Int) - 1), born := k } := by
  simp only [sqES, List.mem_cons, List.not_mem_nil, or_false]
  constructor
  · rintro (rfl | rfl | rfl | rfl | rfl)
    · exact ⟨0, by omega, rfl⟩
    · exact ⟨1, by omega, rfl⟩
    · exact ⟨2, by omega, rfl⟩
    · exact ⟨3, by omega, rfl⟩
    · exact ⟨4, by omega, rfl⟩
  · rintro ⟨k, hk, rfl⟩
    have h : k = 0 ∨ k = 1 ∨ k = 2 ∨ k = 3 ∨ k = 4 := by omega
    rcases h with rfl | rfl | rfl | rfl | rfl
    · exact .inl rfl
    · exact .inr (.inl rfl)
    · exact .inr (.inr (.inl rfl))
    · exact .inr (.inr (.inr (.inl rfl)))
    · exact .inr (.inr (.inr (.inr rfl)))
theorem sq_hes : ∀ e ∈ sqES.toList, ∃ l, keyOf Try.prog 65 e.key = some l := fun e he => by
  obtain ⟨k, hk, rfl⟩ := sq_mem.1 he
  exact sq_key hk
theorem sq_hex {q : Nat} (hq : q < 5) : ∃ e ∈ sqES.toList, e.key = .agg (v4C (sqE q)) := ⟨_, sq_mem.2 ⟨q, hq, rfl⟩, rfl⟩
theorem sq_hv {q : Nat} (hq : q < 5) : ∀ e ∈ sqES.toList, e.key = .agg (v4C (sqE q)) → e.val = .int .i64 ((q : Int) - 1) := fun e he h => by
  obtain ⟨k, hk, rfl⟩ := sq_mem.1 he
  injection h with h
  rw [sqE_inj hk hq (v4_inj h)]

theorem multiplySquares_ok (f g : Nat → Nat) (w : World) (hf : ∀ c, c < 4 → f c ≤ 1) (hg : ∀ c, c < 4 → g c ≤ 1) :
    CallsR Try.prog 34 #[.agg (v4C f), .agg (v4C g)] w (fun res _ => res = .agg (v4C (mulSq f g))) := by
  refine calls_fr [.agg (v4C f), .agg (v4C g)] Try.func34 rfl Try.ntmps34 rfl fun a hF => ?_;have hM : Mem w w [none, none, none, none] [] := MemX.start w 4;change Fr 40 a [(0, .agg (v4C f)), (1, .agg (v4C g))] at hF;refine sr <| stR hF (d_box 0 hM hF rfl) rfl ?_;rintro _ w' a ⟨b1, rfl, hM, -⟩ hF;refine stR hF (d_box 1 hM hF rfl) rfl ?_;rintro _ w' a ⟨b2, rfl, hM, -⟩ hF;refine stR hF (d_alloc 2 hM ty_ze_65) rfl ?_;rintro _ w' a ⟨b3, rfl, hM, -⟩ hF;refine ns <| stR hF (d_alloc 3 hM ty_ze_65) rfl ?_;rintro _ w' a ⟨b4, rfl, hM, -⟩ hF;refine nt <| sq <| sr <| mv hF rfl rfl fun a hF => nt <| wp_block ?_;change Mem w _ [some (b1, v4C f), some (b2, v4C g), some (b3, fnC 4 (fun _ => .int .u8 (0))), some (b4, fnC 4 (fun _ => .int .u8 (0)))] [] at hM;refine c_loop (fun (kk : Nat) a w' => kk ≤ 2 ∧ (True) ∧ Fr 40 a [(2, ptr b1 (0)), (3, ptr b2 (0)), (4, ptr b3 (0)), (5, ptr b4 (0)), (8, .int .i64 (kk : Int))] ∧ Mem w w' [some (b1, v4C f), some (b2, v4C g), some (b3, fnC 4 (fun _ => .int .u8 (0))), some (b4, v4C (mqP f g kk 0))] []) (fun kk => 2 - kk) 0 ?_ ?_
  · refine ⟨by omega, trivial, hF.sub _ (by repeat' constructor), ?_⟩
    exact hM.rowc 3 rfl (fnC_congr fun d hd => by simp [mqP])
  clear hF hM;rintro gr a w' ⟨hgr, hinv1, hF, hM⟩;refine sr <| st hF (g_lss hF rfl rfl) rfl fun a hF => nt <| sq <| c_cond hF rfl (fun h5 => ?_) (fun h5 => ?_)
  · refine wp_skip ?_
    refine tN <| sq <| wp_block <| sr <| mv hF rfl rfl fun a hF => ag hF rfl rfl fun a hF => ns <| mv hF rfl rfl fun a hF => nt <| wp_block ?_;change Mem w _ [some (b1, v4C f), some (b2, v4C g), some (b3, fnC 4 (fun _ => .int .u8 (0))), some (b4, v4C (mqP f g gr 0))] [] at hM;refine c_loop (fun (kk : Nat) a w' => kk ≤ 2 ∧ (True) ∧ Fr 40 a [(2, ptr b1 (0)), (3, ptr b2 (0)), (4, ptr b3 (0)), (5, ptr b4 (0)), (8, .int .i64 (gr : Int)), (9, .bool (decide (((gr : Int) : Int) < 2))), (10, .int .i64 (gr : Int)), (6, .int .i64 (gr : Int)), (11, .int .i64 (kk : Int))] ∧ Mem w w' [some (b1, v4C f), some (b2, v4C g), some (b3, fnC 4 (fun _ => .int .u8 (0))), some (b4, v4C (mqP f g gr kk))] []) (fun kk => 2 - kk) 0 ?_ ?_
    · refine ⟨by omega, trivial, hF.sub _ (by repeat' constructor), ?_⟩
      exact hM
    clear hF hM;rintro gc a w' ⟨hgc, hinv2, hF, hM⟩;have m1 : gr < 2 → f ((gr) * 2 + 0) ≤ 1 := fun q => hf _ (by omega);have m2 : gc < 2 → g (0 * 2 + (gc)) ≤ 1 := fun q => hg _ (by omega);have m3 : gr < 2 → f ((gr) * 2 + 1) ≤ 1 := fun q => hf _ (by omega);have m4 : gc < 2 → g (1 * 2 + (gc)) ≤ 1 := fun q => hg _ (by omega);have m5 : gr < 2 → gc < 2 → (f ((gr) * 2 + 0)) * (g (0 * 2 + (gc))) ≤ 1 := fun p q => Nat.mul_le_mul (m1 p) (m2 q);have m6 : gr < 2 → gc < 2 → (f ((gr) * 2 + 1)) * (g (1 * 2 + (gc))) ≤ 1 := fun p q => Nat.mul_le_mul (m3 p) (m4 q);refine sr <| st hF (g_lss hF rfl rfl) rfl fun a hF => nt <| sq <| c_cond hF rfl (fun h6 => ?_) (fun h6 => ?_)
    · refine wp_skip ?_
      refine tN <| sq <| wp_block <| sr <| mv hF rfl rfl fun a hF => ag hF rfl rfl fun a hF => nt <| c_par 22 [] [.val (.int .i64 (gr : Int)), .val (.int .i64 (gc : Int)), .val (.int .i64 (gr : Int)), .val (ptr b1 (0 + (gr) * 2)), .val (ptr b1 (0 + (gr) * 2 + (0) * 1)), .val (.int .u8 ((f ((gr) * 2 + (0)) : Int))), .val (.int .i64 (gc : Int)), .val (ptr b2 (0 + (0) * 2)), .val (ptr b2 (0 + (0) * 2 + (gc) * 1)), .val (.int .u8 ((g ((0) * 2 + (gc)) : Int))), .val (.int .u8 ((((f ((gr) * 2 + 0)) * (g (0 * 2 + (gc))) : Nat) : Int))), .val (.int .i64 (gr : Int)), .val (ptr b1 (0 + (gr) * 2)), .val (ptr b1 (0 + (gr) * 2 + (1) * 1)), .val (.int .u8 ((f ((gr) * 2 + (1)) : Int))), .val (.int .i64 (gc : Int)), .val (ptr b2 (0 + (1) * 2)), .val (ptr b2 (0 + (1) * 2 + (gc) * 1)), .val (.int .u8 ((g ((1) * 2 + (gc)) : Int))), .val (.int .u8 ((((f ((gr) * 2 + 1)) * (g (1 * 2 + (gc))) : Nat) : Int))), .val (.int .u8 (((((f ((gr) * 2 + 0)) * (g (0 * 2 + (gc))) + (f ((gr) * 2 + 1)) * (g (1 * 2 + (gc)))) : Nat) : Int))), .val (ptr b4 (0 + (gr) * 2))] hmix rfl hF rfl hM ⟨fun a w gG hF hS hd => by exact pmv hS rfl hF rfl, fun a w gG hF hS hd => by exact pmv hS rfl hF rfl, fun a w gG hF hS hd => by exact pmv hS rfl hF rfl, fun a w gG hF hS hd => by have hF := hF.ext1 16 (hd 2 rfl rfl); exact par_val hS rfl (g_indexAddr ty_ar_65 hF rfl rfl rfl (by omega)), fun a w gG hF hS hd => by have hF := hF.ext1 17 (hd 3 rfl rfl); exact par_val hS rfl (g_indexAddr (i := 0) ty_ar_63 hF rfl rfl rfl (by omega)), fun a w gG hF hS hd => by have hF := hF.ext1 18 (hd 4 rfl rfl); have hM := hS.mem rfl; exact par_val hS rfl (g_load ty_on_5 hF rfl (hM.row 0 rfl) (v4_get ((gr) * 2 + (0)) (by omega) (by omega))), fun a w gG hF hS hd => by exact pmv hS rfl hF rfl, fun a w gG hF hS hd => by exact par_val hS rfl (g_indexAddr (i := 0) ty_ar_65 hF rfl rfl rfl (by omega)), fun a w gG hF hS hd => by have hF := hF.ext1 20 (hd 6 rfl rfl); have hF := hF.ext1 21 (hd 7 rfl rfl); exact par_val hS rfl (g_indexAddr ty_ar_63 hF rfl rfl rfl (by omega)), fun a w gG hF hS hd => by have hF := hF.ext1 22 (hd 8 rfl rfl); have hM := hS.mem rfl; exact par_val hS rfl (g_load ty_on_5 hF rfl (hM.row 1 rfl) (v4_get ((0) * 2 + (gc)) (by omega) (by omega))), fun a w gG hF hS hd => by have hF := hF.ext1 19 (hd 5 rfl rfl); have hF := hF.ext1 23 (hd 9 rfl rfl); exact par_val hS rfl (g_mul hF rfl rfl (show _ = (((f ((gr) * 2 + 0)) * (g (0 * 2 + (gc))) : Nat) : Int) from (by rw [← Int.natCast_mul, wrap_u8 (by omega) (by omega)]))), fun a w gG hF hS hd => by exact pmv hS rfl hF rfl, fun a w gG hF hS hd => by have hF := hF.ext1 25 (hd 11 rfl rfl); exact par_val hS rfl (g_indexAddr ty_ar_65 hF rfl rfl rfl (by omega)), fun a w gG hF hS hd => by have hF := hF.ext1 26 (hd 12 rfl rfl); exact par_val hS rfl (g_indexAddr (i := 1) ty_ar_63 hF rfl rfl rfl (by omega)), fun a w gG hF hS hd => by have hF := hF.ext1 27 (hd 13 rfl rfl); have hM := hS.mem rfl; exact par_val hS rfl (g_load ty_on_5 hF rfl (hM.row 0 rfl) (v4_get ((gr) * 2 + (1)) (by omega) (by omega))), fun a w gG hF hS hd => by exact pmv hS rfl hF rfl, fun a w gG hF hS hd => by exact par_val hS rfl (g_indexAddr (i := 1) ty_ar_65 hF rfl rfl rfl (by omega)), fun a w gG hF hS hd => by have hF := hF.ext1 29 (hd 15 rfl rfl); have hF := hF.ext1 30 (hd 16 rfl rfl); exact par_val hS rfl (g_indexAddr ty_ar_63 hF rfl rfl rfl (by omega)), fun a w gG hF hS hd => by have hF := hF.ext1 31 (hd 17 rfl rfl); have hM := hS.mem rfl; exact par_val hS rfl (g_load ty_on_5 hF rfl (hM.row 1 rfl) (v4_get ((1) * 2 + (gc)) (by omega) (by omega))), fun a w gG hF hS hd => by have hF := hF.ext1 28 (hd 14 rfl rfl); have hF := hF.ext1 32 (hd 18 rfl rfl); exact par_val hS rfl (g_mul hF rfl rfl (show _ = (((f ((gr) * 2 + 1)) * (g (1 * 2 + (gc))) : Nat) : Int) from (by rw [← Int.natCast_mul, wrap_u8 (by omega) (by omega)]))), fun a w gG hF hS hd => by have hF := hF.ext1 24 (hd 10 rfl rfl); have hF := hF.ext1 33 (hd 19 rfl rfl); exact par_val hS rfl (g_add hF rfl rfl (show _ = ((((f ((gr) * 2 + 0)) * (g (0 * 2 + (gc))) + (f ((gr) * 2 + 1)) * (g (1 * 2 + (gc)))) : Nat) : Int) from (by rw [← Int.natCast_add, wrap_u8 (by omega) (by omega)]))), fun a w gG hF hS hd => by have hF := hF.ext1 14 (hd 0 rfl rfl); exact par_val hS rfl (g_indexAddr ty_ar_65 hF rfl rfl rfl (by omega)), trivial⟩ ?_
      intro a w' L hF hS hq;have hF := hF.ext1 14 (hq 0 rfl rfl);have hF := hF.ext1 15 (hq 1 rfl rfl);have hF := hF.ext1 16 (hq 2 rfl rfl);have hF := hF.ext1 17 (hq 3 rfl rfl);have hF := hF.ext1 18 (hq 4 rfl rfl);have hF := hF.ext1 19 (hq 5 rfl rfl);have hF := hF.ext1 20 (hq 6 rfl rfl);have hF := hF.ext1 21 (hq 7 rfl rfl);have hF := hF.ext1 22 (hq 8 rfl rfl);have hF := hF.ext1 23 (hq 9 rfl rfl);have hF := hF.ext1 24 (hq 10 rfl rfl);have hF := hF.ext1 25 (hq 11 rfl rfl);have hF := hF.ext1 26 (hq 12 rfl rfl);have hF := hF.ext1 27 (hq 13 rfl rfl);have hF := hF.ext1 28 (hq 14 rfl rfl);have hF := hF.ext1 29 (hq 15 rfl rfl);have hF := hF.ext1 30 (hq 16 rfl rfl);have hF := hF.ext1 31 (hq 17 rfl rfl);have hF := hF.ext1 32 (hq 18 rfl rfl);have hF := hF.ext1 33 (hq 19 rfl rfl);have hF := hF.ext1 34 (hq 20 rfl rfl);have hF := hF.ext1 35 (hq 21 rfl rfl);have hM := hS.mem rfl;change wpList Try.prog _ _ [_, _] _ _;refine st hF (g_indexAddr ty_ar_63 hF rfl rfl rfl (by omega)) rfl fun a hF => stN hF (d_store 3 hM rfl ty_on_5 hF rfl rfl rfl (by first | omega | (simp only [sz0, grpC_size, v3C_size, pm6C_size, v4C_size, sq4C_size] <;> omega) | (simp only [Array.size_setIfInBounds]; omega) | simp)) ?_;intro _ w' a hM hF;rw [show (v4C (mqP f g gr gc)).setIfInBounds (0 + (gr) * 2 + (gc) * 1) (.int .u8 (((((f ((gr) * 2 + 0)) * (g (0 * 2 + (gc))) + (f ((gr) * 2 + 1)) * (g (1 * 2 + (gc)))) : Nat) : Int))) = v4C (fun d => if d = (gr) * 2 + (gc) then ((f ((gr) * 2 + 0)) * (g (0 * 2 + (gc))) + (f ((gr) * 2 + 1)) * (g (1 * 2 + (gc)))) else (mqP f g gr gc) d) from v4_set ((gr) * 2 + (gc)) (by omega)] at hM;change Mem w w' [some (b1, v4C f), some (b2, v4C g), some (b3, fnC 4 (fun _ => .int .u8 (0))), some (b4, v4C (fun d => if d = (gr) * 2 + (gc) then ((f ((gr) * 2 + 0)) * (g (0 * 2 + (gc))) + (f ((gr) * 2 + 1)) * (g (1 * 2 + (gc)))) else (mqP f g gr gc) d))] [] at hM;refine wpList_nil <| iN <| tN <| wp_region_lit <| st hF (g_add hF rfl rfl (add_nat (gc) (1) (by omega))) rfl fun a hF => mv hF rfl rfl fun a hF => nt <| ⟨gc + 1, ⟨by omega, trivial, hF.sub _ (by repeat' constructor), ?_⟩, by omega⟩;exact hM.rowc 3 rfl (v4_congr fun d hd => mqP_step (mulSq_at (by omega)))
    obtain rfl : 2 = gc := by omega
    refine wp_exit <| tX <| tX <| ib_same <| iN <| tN <| wp_region_lit <| st hF (g_add hF rfl rfl (add_nat (gr) (1) (by omega))) rfl fun a hF => mv hF rfl rfl fun a hF => nt <| ⟨gr + 1, ⟨by omega, trivial, hF.sub _ (by repeat' constructor), ?_⟩, by omega⟩;exact hM.rowc 3 rfl (v4_congr fun d hd => by unfold mqP; rw [show gr * 2 + 2 = (gr + 1) * 2 + 0 by omega])
  obtain rfl : 2 = gr := by omega
  have hM := hM.rowc (cs' := v4C (mulSq f g)) 3 rfl (v4_congr fun d hd => by unfold mqP; rw [if_pos (by omega)]);refine wp_exit <| tX <| tX <| ib_same <| tN <| sr <| st hF (g_loadAgg ty_ag_65 hF rfl (hM.row 3 rfl) (by simp only [sz0, grpC_size, v3C_size, pm6C_size, v4C_size, sq4C_size] <;> omega) (extract_whole _ _ rfl)) rfl fun a hF => stN hF (d_storeAgg 2 hM rfl ty_sz_65 hF rfl rfl (fnC_one fun _ _ => rfl) (by simp only [sz0, grpC_size, v3C_size, pm6C_size, v4C_size, sq4C_size]) (by simp only [sz0, grpC_size, v3C_size, pm6C_size, v4C_size, sq4C_size] <;> omega) (splice_whole _ _ rfl)) ?_;intro _ w' a hM hF;change Mem w w' [some (b1, v4C f), some (b2, v4C g), some (b3, v4C (mulSq f g)), some (b4, v4C (mulSq f g))] [] at hM;refine nt <| wp_ret <| fin1 rfl hF.defers (res_agg ty_ag_65 hF rfl (hM.row 2 rfl) (by simp only [sz0, grpC_size, v3C_size, pm6C_size, v4C_size, sq4C_size])) ⟨_, rfl, hM.below, ?_⟩
  show _ = _
  rfl
theorem squared_ok (i j pA bS pB bM : Nat) (w : World) (hi : i < 4) (hj : j < 4) (h1 : Blk w pA #[.slice (some ⟨bS, 0, none⟩) 4 4]) (h2 : Blk w bS sq4C) (h3 : Blk w pB #[.map (some bM)]) (hmp : IsMap w bM sqES 5) :
    CallsR Try.prog 33 #[.int .i64 (i : Int), .int .i64 (j : Int), ptr pB (0), ptr pA (0)] w (fun res _ => res = .int .i64 (sqV i j)) := by
  refine calls_fr [.int .i64 (i : Int), .int .i64 (j : Int), ptr pB (0), ptr pA (0)] Try.func33 rfl Try.ntmps33 rfl fun a hF => ?_;have hM : Mem w w [] [(pA, #[.slice (some ⟨bS, 0, none⟩) 4 4]), (bS, sq4C), (pB, #[.map (some bM)])] := MemX.startD w 0 _ (startD3 h1 h2 h3);change Fr 18 a [(0, .int .i64 (i : Int)), (1, .int .i64 (j : Int)), (2, ptr pB (0)), (3, ptr pA (0))] at hF;refine sr <| ag hF rfl rfl fun a hF => nt <| sq <| c_par 10 [] [.val (.map (some bM)), .val (.slice (some ⟨bS, 0, none⟩) 4 4), .val (.int .i64 (i : Int)), .val (ptr bS (0 + (i) * 4)), .val (.agg (v4C (sqL (i)))), .val (.slice (some ⟨bS, 0, none⟩) 4 4), .val (.int .i64 (j : Int)), .val (ptr bS (0 + (j) * 4)), .val (.agg (v4C (sqL (j)))), .val (.agg (v4C (sqE (sqQ i j))))] hmix rfl hF rfl hM ⟨fun a w gG hF hS hd => by have hM := hS.mem rfl; exact par_val hS rfl (g_load ty_on_67 hF rfl (hM.fz 2 rfl) rfl), fun a w gG hF hS hd => by have hM := hS.mem rfl; exact par_val hS rfl (g_load ty_on_66 hF rfl (hM.fz 0 rfl) rfl), fun a w gG hF hS hd => by exact pmv hS rfl hF rfl, fun a w gG hF hS hd => by have hF := hF.ext1 8 (hd 1 rfl rfl); have hF := hF.ext1 9 (hd 2 rfl rfl); exact par_val hS rfl (g_indexSl (i := i) ty_sl_66 hF rfl rfl rfl (by omega)), fun a w gG hF hS hd => by have hF := hF.ext1 10 (hd 3 rfl rfl); have hM := hS.mem rfl; exact par_val hS rfl (g_loadAgg ty_ag_65 hF rfl (hM.fz 1 rfl) (by rw [sq4C_size]; omega) (sq4_row (i) (by omega) (by omega) (by omega))), fun a w gG hF hS hd => by have hM := hS.mem rfl; exact par_val hS rfl (g_load ty_on_66 hF rfl (hM.fz 0 rfl) rfl), fun a w gG hF hS hd => by exact pmv hS rfl hF rfl, fun a w gG hF hS hd => by have hF := hF.ext1 12 (hd 5 rfl rfl); have hF := hF.ext1 13 (hd 6 rfl rfl); exact par_val hS rfl (g_indexSl (i := j) ty_sl_66 hF rfl rfl rfl (by omega)), fun a w gG hF hS hd => by have hF := hF.ext1 14 (hd 7 rfl rfl); have hM := hS.mem rfl; exact par_val hS rfl (g_loadAgg ty_ag_65 hF rfl (hM.fz 1 rfl) (by rw [sq4C_size]; omega) (sq4_row (j) (by omega) (by omega) (by omega))), fun a w gG hF hS hd => by have hF := hF.ext1 11 (hd 4 rfl rfl); have hF := hF.ext1 15 (hd 8 rfl rfl); exact par_call (by repeat constructor) hS rfl (d_call Try.call34 hF (.cons rfl (.cons rfl .nil)) ((CallsR.val (multiplySquares_ok (sqL (i)) (sqL (j)) _ (fun c hc => sqL_le (by omega) hc) (fun c hc => sqL_le (by omega) hc)) (congrArg Value.agg (v4_congr (sq_mul hi hj)))))), trivial⟩ ?_;intro a w' L hF hS hq;have hF := hF.ext1 7 (hq 0 rfl rfl);have hF := hF.ext1 8 (hq 1 rfl rfl);have hF := hF.ext1 9 (hq 2 rfl rfl);have hF := hF.ext1 10 (hq 3 rfl rfl);have hF := hF.ext1 11 (hq 4 rfl rfl);have hF := hF.ext1 12 (hq 5 rfl rfl);have hF := hF.ext1 13 (hq 6 rfl rfl);have hF := hF.ext1 14 (hq 7 rfl rfl);have hF := hF.ext1 15 (hq 8 rfl rfl);have hF := hF.ext1 16 (hq 9 rfl rfl);have hM := hS.mem rfl;change wpList Try.prog _ _ [_, _] _ _;refine st hF (g_lookupK keySq ty_um_67 (hmp.ext hM.below) hF rfl rfl (sq_key (sqQ_lt hi hj)).choose_spec sq_hes (sq_hex (sqQ_lt hi hj)) (sq_hv (sqQ_lt hi hj))) rfl fun a hF => ag hF rfl rfl fun a hF => nt <| wp_ret <| fin1 rfl hF.defers (res_tmp hF rfl) ⟨_, rfl, hM.below, ?_⟩
  show _ = _
  rfl
end Go.Proofs.Ytiafijbifmcflaa
