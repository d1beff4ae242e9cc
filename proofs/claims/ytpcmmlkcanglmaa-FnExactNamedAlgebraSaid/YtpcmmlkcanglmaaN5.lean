/- What functions of the program return, as walks over their operations; no statement of the seat is proved here. -/
import Derived.Test.YtpcmmlkcanglmaaN2
set_option linter.unusedVariables false
set_option linter.unusedSimpArgs false
namespace Go.Proofs.Ytpcmmlkcanglmaa
open Go Go.RowKit Go.Sw Go.Ech
open Classical
theorem ty_ua_42 : Try.prog.underlying 42 = some (.array 3 5) := by kernel_rfl
theorem ty_ar_42 : arrOf Try.prog 42 = some (3, 1) := by kernel_rfl
def pmVT : List (List Nat) := [[0, 1, 2, 3, 4, 5], [1, 0, 4, 5, 2, 3], [2, 3, 0, 1, 5, 4], [3, 2, 5, 4, 0, 1], [4, 5, 1, 0, 3, 2], [5, 4, 3, 2, 1, 0]]
def pmV (i j : Nat) : Nat := (pmVT.getD i []).getD j 0
theorem pmV_lt {i j : Nat} (hi : i < 6) (hj : j < 6) : pmV i j < 6 := by
  have h : ∀ i, i < 6 → ∀ j, j < 6 → pmV i j < 6 := by decide
  exact h i hi j hj
theorem pm_comp {i j : Nat} (hi : i < 6) (hj : j < 6) : ∀ d, d < 3 → pmL i (pmL j d) = pmL (pmV i j) d := by
  have h : ∀ i, i < 6 → ∀ j, j < 6 → ∀ d, d < 3 → pmL i (pmL j d) = pmL (pmV i j) d := by decide
  exact h i hi j hj
theorem pmL_lt {i d : Nat} (hi : i < 6) (hd : d < 3) : pmL i d < 3 := by
  have h : ∀ i, i < 6 → ∀ d, d < 3 → pmL i d < 3 := by decide
  exact h i hi d hd
theorem pm_inj {k q : Nat} (hk : k < 6) (hq : q < 6) (h : ∀ c, c < 3 → pmL k c = pmL q c) : k = q := by
  have h2 : ∀ k, k < 6 → ∀ q, q < 6 → (∀ c, c < 3 → pmL k c = pmL q c) → k = q := by decide
  exact h2 k hk q hq h
theorem v3_inj {f g : Nat → Nat} (h : v3C f = v3C g) : ∀ c, c < 3 → f c = g c := fun c hc => by
  have h1 : (v3C f)[c]? = (v3C g)[c]? := by rw [h]
  rw [v3_get c rfl hc, v3_get c rfl hc] at h1
  have h2 := Option.some.inj h1
  injection h2 with _ h3
  exact Int.ofNat.inj h3
theorem v3_congr {f g : Nat → Nat} (h : ∀ c, c < 3 → f c = g c) : v3C f = v3C g := fnC_congr fun c hc => by rw [h c hc]
theorem keyPm : WideMaps.KeyLaw Try.prog 42 := deep_law (m := 8) (by decide) (by kernel_rfl) (by kernel_rfl) (by kernel_rfl)
theorem pm_key {q : Nat} (hq : q < 6) : ∃ l, keyOf Try.prog 42 (.agg (v3C (pmL q))) = some l := by
  have h : q = 0 ∨ q = 1 ∨ q = 2 ∨ q = 3 ∨ q = 4 ∨ q = 5 := by omega
  rcases h with rfl | rfl | rfl | rfl | rfl | rfl
  · exact Option.isSome_iff_exists.1 (show (keyOf Try.prog 42 (.agg (v3C (pmL 0)))).isSome = true by kernel_rfl)
  · exact Option.isSome_iff_exists.1 (show (keyOf Try.prog 42 (.agg (v3C (pmL 1)))).isSome = true by kernel_rfl)
  · exact Option.isSome_iff_exists.1 (show (keyOf Try.prog 42 (.agg (v3C (pmL 2)))).isSome = true by kernel_rfl)
  · exact Option.isSome_iff_exists.1 (show (keyOf Try.prog 42 (.agg (v3C (pmL 3)))).isSome = true by kernel_rfl)
  · exact Option.isSome_iff_exists.1 (show (keyOf Try.prog 42 (.agg (v3C (pmL 4)))).isSome = true by kernel_rfl)
  · exact Option.isSome_iff_exists.1 (show (keyOf Try.prog 42 (.agg (v3C (pmL 5)))).isSome = true by kernel_rfl)
theorem pm_mem {e : MapEntry} : e ∈ pmES.toList ↔ ∃ k, k < 6 ∧ e = { key := .agg (v3C (pmL k)), val := .int .i64 ((k : Nat) : Int), born := k } := by
  simp only [pmES, List.mem_cons, List.not_mem_nil, or_false]
  constructor
  · rintro (rfl | rfl | rfl | rfl | rfl | rfl)
    · exact ⟨0, by omega, rfl⟩
    · exact ⟨1, by omega, rfl⟩
    · exact ⟨2, by omega, rfl⟩
    · exact ⟨3, by omega, rfl⟩
    · exact ⟨4, by omega, rfl⟩
    · exact ⟨5, by omega, rfl⟩
  · rintro ⟨k, hk, rfl⟩
    have h : k = 0 ∨ k = 1 ∨ k = 2 ∨ k = 3 ∨ k = 4 ∨ k = 5 := by omega
    rcases h with rfl | rfl | rfl | rfl | rfl | rfl
    · exact .inl rfl
    · exact .inr (.inl rfl)
    · exact .inr (.inr (.inl rfl))
    · exact .inr (.inr (.inr (.inl rfl)))
    · exact .inr (.inr (.inr (.inr (.inl rfl))))
    · exact .inr (.inr (.inr (.inr (.inr rfl))))
theorem pm_hes : ∀ e ∈ pmES.toList, ∃ l, keyOf Try.prog 42 e.key = some l := fun e he => by
  obtain ⟨k, hk, rfl⟩ := pm_mem.1 he
  exact pm_key hk
theorem pm_hex {q : Nat} (hq : q < 6) : ∃ e ∈ pmES.toList, e.key = .agg (v3C (pmL q)) := ⟨_, pm_mem.2 ⟨q, hq, rfl⟩, rfl⟩
theorem pm_hv {q : Nat} (hq : q < 6) : ∀ e ∈ pmES.toList, e.key = .agg (v3C (pmL q)) → e.val = .int .i64 (q : Int) := fun e he h => by
  obtain ⟨k, hk, rfl⟩ := pm_mem.1 he
  injection h with h
  rw [pm_inj hk hq (v3_inj h)]

theorem startD3 {w : World} {b1 b2 b3 : Nat} {c1 c2 c3 : Array Value} (h1 : Blk w b1 c1) (h2 : Blk w b2 c2) (h3 : Blk w b3 c3) : ∀ b cs, (b, cs) ∈ [(b1, c1), (b2, c2), (b3, c3)] → Blk w b cs := fun b cs h => by
  simp only [List.mem_cons, Prod.mk.injEq, List.not_mem_nil, or_false] at h
  rcases h with ⟨rfl, rfl⟩ | ⟨rfl, rfl⟩ | ⟨rfl, rfl⟩
  · exact h1
  · exact h2
  · exact h3

theorem permuted_ok (i j pA bS pB bM : Nat) (w : World) (hi : i < 6) (hj : j < 6) (h1 : Blk w pA #[.slice (some ⟨bS, 0, none⟩) 6 6]) (h2 : Blk w bS pm6C) (h3 : Blk w pB #[.map (some bM)]) (hmp : IsMap w bM pmES 6) :
    CallsR Try.prog 20 #[.int .i64 (i : Int), .int .i64 (j : Int), ptr pA (0), ptr pB (0)] w (fun res _ => res = .int .i64 (pmV i j : Int)) := by
  refine calls_fr [.int .i64 (i : Int), .int .i64 (j : Int), ptr pA (0), ptr pB (0)] Try.func20 rfl Try.ntmps20 rfl fun a hF => ?_;have hM : Mem w w [none] [(pA, #[.slice (some ⟨bS, 0, none⟩) 6 6]), (bS, pm6C), (pB, #[.map (some bM)])] := MemX.startD w 1 _ (startD3 h1 h2 h3);change Fr 30 a [(0, .int .i64 (i : Int)), (1, .int .i64 (j : Int)), (2, ptr pA (0)), (3, ptr pB (0))] at hF;refine sr <| ag hF rfl rfl fun a hF => ns <| stR hF (d_alloc 0 hM ty_ze_42) rfl ?_;rintro _ w' a ⟨b1, rfl, hM, hxk⟩ hF; have hmp := hmp.ext hxk;change Mem w w' [some (b1, fnC 3 (fun _ => .int .u8 (0)))] [(pA, #[.slice (some ⟨bS, 0, none⟩) 6 6]), (bS, pm6C), (pB, #[.map (some bM)])] at hM;refine nt <| sq <| sr <| st hF (g_load ty_on_43 hF rfl (hM.fz 0 rfl) rfl) rfl fun a hF => mv hF rfl rfl fun a hF => st hF (g_indexSl (i := j) ty_sl_43 hF rfl rfl rfl (by omega)) rfl fun a hF => st hF (g_loadAgg ty_ag_42 hF rfl (hM.fz 1 rfl) (by rw [pm6C_size]; omega) (pm6_row (j) (by omega) (by omega) (by omega))) rfl fun a hF => mv hF rfl rfl fun a hF => nt <| wp_block ?_;change Mem w _ [some (b1, fnC 3 (fun _ => .int .u8 (0)))] [(pA, #[.slice (some ⟨bS, 0, none⟩) 6 6]), (bS, pm6C), (pB, #[.map (some bM)])] at hM;refine c_loop (fun (kk : Nat) a w' => kk ≤ 3 ∧ (IsMap w' bM pmES 6) ∧ Fr 30 a [(0, .int .i64 (i : Int)), (2, ptr pA (0)), (3, ptr pB (0)), (6, .int .i64 (0)), (7, ptr b1 (0)), (13, .agg (v3C (pmL (j)))), (14, .int .i64 (kk : Int))] ∧ Mem w w' [some (b1, v3C (fun d => if d < kk then pmL i (pmL j d) else 0))] [(pA, #[.slice (some ⟨bS, 0, none⟩) 6 6]), (bS, pm6C), (pB, #[.map (some bM)])]) (fun kk => 3 - kk) 0 ?_ ?_
  · refine ⟨by omega, hmp, hF.sub _ (by repeat' constructor), ?_⟩
    exact hM.rowc 0 rfl (fnC_congr fun d hd => by simp)
  clear hF hM;rintro gk a w' ⟨hgk, hmp, hF, hM⟩;have hp1 : gk < 3 → pmL (j) (gk) < 3 := fun q => pmL_lt hj q;have hp2 : gk < 3 → pmL (i) (pmL (j) (gk)) < 3 := fun q => pmL_lt hi (hp1 q);refine sr <| st hF (g_lss hF rfl rfl) rfl fun a hF => nt <| sq <| c_cond hF rfl (fun h2 => ?_) (fun h2 => ?_)
  · refine wp_skip ?_
    refine tN <| sq <| wp_block <| sr <| mv hF rfl rfl fun a hF => st hF (g_index ty_ua_42 ty_on_5 hF rfl rfl rfl (by omega) (v3_get (gk) (by omega) (by omega))) rfl fun a hF => ag hF rfl rfl fun a hF => ag hF rfl rfl fun a hF => nt <| wp_region_lit <| mv hF rfl rfl fun a hF => st hF (g_load ty_on_43 hF rfl (hM.fz 0 rfl) rfl) rfl fun a hF => mv hF rfl rfl fun a hF => mv hF rfl rfl fun a hF => st hF (g_indexSl (i := i) ty_sl_43 hF rfl rfl rfl (by omega)) rfl fun a hF => st hF (g_indexAddr ty_ar_42 hF rfl rfl rfl (by omega)) rfl fun a hF => st hF (g_load ty_on_5 hF rfl (hM.fz 1 rfl) (pm6_get (i) ((pmL (j)) (gk)) (by omega) (by omega) (by omega))) rfl fun a hF => st hF (g_indexAddr ty_ar_42 hF rfl rfl rfl (by omega)) rfl fun a hF => stN hF (d_storeM 0 hM rfl ty_on_5 hF rfl rfl rfl (by first | omega | (simp only [sz0, grpC_size, v3C_size, pm6C_size] <;> omega) | simp)) ?_;rintro _ w' a ⟨hM, hkm⟩ hF; have hmp := hkm _ _ _ hmp;rw [show (v3C (fun d => if d < gk then pmL i (pmL j d) else 0)).setIfInBounds (0 + (gk) * 1) (.int .u8 (((pmL (i) ((pmL (j)) (gk)) : Nat) : Int))) = v3C (fun d => if d = gk then pmL (i) ((pmL (j)) (gk)) else (fun d => if d < gk then pmL i (pmL j d) else 0) d) from v3_set (gk) (by omega)] at hM;change Mem w w' [some (b1, v3C (fun d => if d = gk then pmL (i) ((pmL (j)) (gk)) else (fun d => if d < gk then pmL i (pmL j d) else 0) d))] [(pA, #[.slice (some ⟨bS, 0, none⟩) 6 6]), (bS, pm6C), (pB, #[.map (some bM)])] at hM;refine wpList_nil <| iN <| tN <| wp_region_lit <| st hF (g_add hF rfl rfl (add_nat (gk) (1) (by omega))) rfl fun a hF => mv hF rfl rfl fun a hF => nt <| ⟨gk + 1, ⟨by omega, hmp, hF.sub _ (by repeat' constructor), ?_⟩, by omega⟩;refine hM.rowc 0 rfl (v3_congr fun d hd => ?_)
    by_cases e1 : d = gk
    · subst e1; rw [if_pos rfl, if_pos (by omega)]
    · have e0 : (d < gk + 1) = (d < gk) := by apply propext; omega
      rw [if_neg e1]; simp only [e0]
  obtain rfl : 3 = gk := by omega
  have hM := hM.rowc (cs' := v3C (pmL (pmV i j))) 0 rfl (v3_congr fun d hd => by rw [if_pos hd]; exact pm_comp hi hj d hd);refine wp_exit <| tX <| tX <| ib_same <| tN <| sr <| st hF (g_load ty_on_44 hF rfl (hM.fz 2 rfl) rfl) rfl fun a hF => st hF (g_loadAgg ty_ag_42 hF rfl (hM.row 0 rfl) (by simp only [sz0, grpC_size, v3C_size, pm6C_size] <;> omega) (extract_whole _ _ rfl)) rfl fun a hF => st hF (g_lookupK keyPm ty_um_44 hmp hF rfl rfl (pm_key (pmV_lt hi hj)).choose_spec pm_hes (pm_hex (pmV_lt hi hj)) (pm_hv (pmV_lt hi hj))) rfl fun a hF => ag hF rfl rfl fun a hF => nt <| wp_ret <| fin1 rfl hF.defers (res_tmp hF rfl) ⟨_, rfl, hM.below, ?_⟩
  show _ = _
  rfl
end Go.Proofs.Ytpcmmlkcanglmaa

namespace Go.Proofs.Ytpcmmlkcanglmaa
open Go Go.RowKit Go.Sw Go.Ech
open Classical
def sqT : List (List Nat) := [[1, 0, 0, 0], [0, 1, 0, 0], [0, 0, 1, 0], [0, 0, 0, 1]]
def sqL (i k : Nat) : Nat := (sqT.getD i []).getD k 0
def v4C (v : Nat → Nat) : Array Value := fnC 4 (fun c => .int .u8 (v c : Int))
def sq4C : Array Value := fnC 16 (fun c => .int .u8 (sqL (c / 4) (c % 4) : Int))
def sqE (q c : Nat) : Nat := if q = 0 then 0 else sqL (q - 1) c
theorem v4C_size (v : Nat → Nat) : (v4C v).size = 4 := fnC_size _ _
theorem sq4C_size : sq4C.size = 16 := fnC_size _ _
theorem sq4_row {o e : Nat} (k : Nat) (ho : o = k * 4) (he : e = o + 4) (hk : k < 4) : sq4C.extract o e = v4C (sqL k) := by
  subst ho;exact extract_ext he (by rw [sq4C_size]; omega) fun c hc => by
    unfold sq4C
    rw [fnC_get (by omega), show (k * 4 + c) / 4 = k by omega, show (k * 4 + c) % 4 = c by omega]
theorem v4_get {v : Nat → Nat} {o : Nat} (c : Nat) (ho : o = c) (hc : c < 4) : (v4C v)[o]? = some (.int .u8 (v c : Int)) := by
  subst ho; exact fnC_get hc
theorem v4_set {v : Nat → Nat} {o x : Nat} (c : Nat) (ho : o = c) : (v4C v).setIfInBounds o (.int .u8 (x : Int)) = v4C (fun d => if d = c then x else v d) := by
  subst ho
  unfold v4C
  exact fnC_set fun d hd => by by_cases e : d = o <;> simp [e]
theorem v4_congr {f g : Nat → Nat} (h : ∀ c, c < 4 → f c = g c) : v4C f = v4C g := fnC_congr fun c hc => by rw [h c hc]
theorem v4_inj {f g : Nat → Nat} (h : v4C f = v4C g) : ∀ c, c < 4 → f c = g c := fun c hc => by
  have h1 : (v4C f)[c]? = (v4C g)[c]? := by rw [h]
  rw [v4_get c rfl hc, v4_get c rfl hc] at h1
  have h2 := Option.some.inj h1
  injection h2 with _ h3
  exact Int.ofNat.inj h3
def mulSq (f g : Nat → Nat) (c : Nat) : Nat := f (c / 2 * 2) * g (c % 2) + f (c / 2 * 2 + 1) * g (2 + c % 2)
def sqQT : List (List Nat) := [[1, 2, 0, 0], [0, 0, 1, 2], [3, 4, 0, 0], [0, 0, 3, 4]]
def sqQ (i j : Nat) : Nat := (sqQT.getD i []).getD j 0
def sqV (i j : Nat) : Int := (sqQ i j : Int) - 1
theorem sqQ_lt {i j : Nat} (hi : i < 4) (hj : j < 4) : sqQ i j < 5 := by
  have h : ∀ i, i < 4 → ∀ j, j < 4 → sqQ i j < 5 := by decide
  exact h i hi j hj
theorem sq_mul {i j : Nat} (hi : i < 4) (hj : j < 4) : ∀ c, c < 4 → mulSq (sqL i) (sqL j) c = sqE (sqQ i j) c := by
  have h : ∀ i, i < 4 → ∀ j, j < 4 → ∀ c, c < 4 → mulSq (sqL i) (sqL j) c = sqE (sqQ i j) c := by decide
  exact h i hi j hj
theorem sqL_le {i c : Nat} (hi : i < 4) (hc : c < 4) : sqL i c ≤ 1 := by
  have h : ∀ i, i < 4 → ∀ c, c < 4 → sqL i c ≤ 1 := by decide
  exact h i hi c hc
theorem sqE_inj {k q : Nat} (hk : k < 5) (hq : q < 5) (h : ∀ c, c < 4 → sqE k c = sqE q c) : k = q := by
  have h2 : ∀ k, k < 5 → ∀ q, q < 5 → (∀ c, c < 4 → sqE k c = sqE q c) → k = q := by decide
  exact h2 k hk q hq h
def sqES : Array MapEntry := #[{ key := .agg (v4C (sqE 0)), val := .int .i64 (((0 : Nat) : Int) - 1), born := 0 }, { key := .agg (v4C (sqE 1)), val := .int .i64 (((1 : Nat) : Int) - 1), born := 1 }, { key := .agg (v4C (sqE 2)), val := .int .i64 (((2 : Nat) : Int) - 1), born := 2 }, { key := .agg (v4C (sqE 3)), val := .int .i64 (((3 : Nat) : Int) - 1), born := 3 }, { key := .agg (v4C (sqE 4)), val := .int .i64 (((4 : Nat) : Int) - 1), born := 4 }]

end Go.Proofs.Ytpcmmlkcanglmaa

namespace Go.Proofs.Ytpcmmlkcanglmaa
open Go Go.RowKit Go.Sw Go.Ech
open Classical
theorem ty_bf2_45_10 : ∀ w, (Instr.build 45 #[(0, .int .u8 (1)), (1, .int .u8 (0))]).run Try.prog w = .ok (.agg #[.int .u8 (1), .int .u8 (0)]) w := by intros; kernel_rfl
theorem ty_bf2_45_00 : ∀ w, (Instr.build 45 #[(0, .int .u8 (0)), (1, .int .u8 (0))]).run Try.prog w = .ok (.agg #[.int .u8 (0), .int .u8 (0)]) w := by intros; kernel_rfl
theorem ty_bf4_47_0 : ∀ w, (Instr.build 47 #[(0, .agg (#[.int .u8 (1), .int .u8 (0)])), (1, .agg (#[.int .u8 (0), .int .u8 (0)]))]).run Try.prog w = .ok (.agg (v4C (sqL 0))) w := by intros; kernel_rfl
theorem ty_bf2_45_01 : ∀ w, (Instr.build 45 #[(0, .int .u8 (0)), (1, .int .u8 (1))]).run Try.prog w = .ok (.agg #[.int .u8 (0), .int .u8 (1)]) w := by intros; kernel_rfl
theorem ty_bf4_47_1 : ∀ w, (Instr.build 47 #[(0, .agg (#[.int .u8 (0), .int .u8 (1)])), (1, .agg (#[.int .u8 (0), .int .u8 (0)]))]).run Try.prog w = .ok (.agg (v4C (sqL 1))) w := by intros; kernel_rfl
theorem ty_bf4_47_2 : ∀ w, (Instr.build 47 #[(0, .agg (#[.int .u8 (0), .int .u8 (0)])), (1, .agg (#[.int .u8 (1), .int .u8 (0)]))]).run Try.prog w = .ok (.agg (v4C (sqL 2))) w := by intros; kernel_rfl
theorem ty_bf4_47_3 : ∀ w, (Instr.build 47 #[(0, .agg (#[.int .u8 (0), .int .u8 (0)])), (1, .agg (#[.int .u8 (0), .int .u8 (1)]))]).run Try.prog w = .ok (.agg (v4C (sqL 3))) w := by intros; kernel_rfl
theorem ty_bls_48 : ∀ w, (Instr.buildSlice 48 4 #[(0, .agg (v4C (sqL 0))), (1, .agg (v4C (sqL 1))), (2, .agg (v4C (sqL 2))), (3, .agg (v4C (sqL 3)))]).run Try.prog w = .ok (.slice (some ⟨w.heap.size, 0, none⟩) 4 4) (w.alloc (.cells (sq4C) 47)) := by intros; kernel_rfl
theorem ty_ze_48 : zeroP Try.prog 48 = some (.slice none 0 0) := by kernel_rfl
theorem ty_on_48 : oneP Try.prog 48 = true := by kernel_rfl
theorem ty_bu_47 : ∀ w, (Instr.build 47 #[]).run Try.prog w = .ok (.agg (fnC 4 (fun _ => .int .u8 (0)))) w := by intros; kernel_rfl
theorem ty_um_49 : Try.prog.underlying 49 = some (.map 47 2) := by kernel_rfl
theorem ty_ze_49 : zeroP Try.prog 49 = some (.map none) := by kernel_rfl
theorem ty_on_49 : oneP Try.prog 49 = true := by kernel_rfl
theorem ty_us_48 : Try.prog.underlying 48 = some (.slice 47) := by kernel_rfl
theorem ty_sl_48 : sliceOf Try.prog 48 = some 4 := by kernel_rfl
theorem ty_ag_47 : aggP Try.prog 47 = some 4 := by kernel_rfl
theorem ty_ze_47 : zeroP Try.prog 47 = some (.agg (fnC 4 (fun _ => .int .u8 (0)))) := by kernel_rfl
theorem ty_sz_47 : sizeP Try.prog 47 = some 4 := by kernel_rfl
theorem squarePlaces_ok  (w : World)  :
    CallsR Try.prog 15 #[] w (fun v w' => ∃ b1 bS b2 bM, v = .func (.func 21) #[] #[ptr b2 0, ptr b1 0] ∧ Blk w' b1 #[.slice (some ⟨bS, 0, none⟩) 4 4] ∧ Blk w' bS sq4C ∧ Blk w' b2 #[.map (some bM)] ∧ IsMap w' bM sqES 5) := by
  refine calls_fr [] Try.func15 rfl Try.ntmps15 rfl fun a hF => ?_;have hM : Mem w w [none, none, none, none] [] := MemX.start w 4;change Fr 33 a [] at hF;refine sr <| ag hF rfl rfl fun a hF => ns <| st hF (g_buildP hF (build2 hF rfl rfl) ty_bf2_45_10) rfl fun a hF => st hF (g_buildP hF (build2 hF rfl rfl) ty_bf2_45_00) rfl fun a hF => st hF (g_buildP hF (build2 hF rfl rfl) ty_bf4_47_0) rfl fun a hF => st hF (g_buildP hF (build2 hF rfl rfl) ty_bf2_45_01) rfl fun a hF => st hF (g_buildP hF (build2 hF rfl rfl) ty_bf2_45_00) rfl fun a hF => st hF (g_buildP hF (build2 hF rfl rfl) ty_bf4_47_1) rfl fun a hF => st hF (g_buildP hF (build2 hF rfl rfl) ty_bf2_45_00) rfl fun a hF => st hF (g_buildP hF (build2 hF rfl rfl) ty_bf2_45_10) rfl fun a hF => st hF (g_buildP hF (build2 hF rfl rfl) ty_bf4_47_2) rfl fun a hF => st hF (g_buildP hF (build2 hF rfl rfl) ty_bf2_45_00) rfl fun a hF => st hF (g_buildP hF (build2 hF rfl rfl) ty_bf2_45_01) rfl fun a hF => st hF (g_buildP hF (build2 hF rfl rfl) ty_bf4_47_3) rfl fun a hF => stR hF (d_buildC (vs := [(0, .agg (v4C (sqL 0))), (1, .agg (v4C (sqL 1))), (2, .agg (v4C (sqL 2))), (3, .agg (v4C (sqL 3)))]) 0 hM hF (build4 hF rfl rfl rfl rfl) ty_bls_48) rfl ?_;rintro _ w' a ⟨b1, rfl, hM, -⟩ hF;refine stR hF (d_alloc 1 hM ty_ze_48) rfl ?_;rintro _ w' a ⟨b2, rfl, hM, -⟩ hF;change Mem w w' [some (b1, sq4C), some (b2, #[.slice none 0 0]), none, none] [] at hM;refine stN hF (d_store 1 hM rfl ty_on_48 hF rfl rfl rfl (by first | omega | (simp only [sz0, grpC_size, v3C_size, pm6C_size, v4C_size, sq4C_size] <;> omega) | simp)) ?_;intro _ w' a hM hF;refine ns <| stR hF (d_makeMap hM) rfl ?_;rintro _ w' a ⟨bm3, rfl, hM, hgebm3, hisbm3⟩ hF;refine st hF (g_build0 ty_bu_47) rfl fun a hF => stN hF (d_insK ty_um_49 hM hisbm3 hgebm3 hF rfl rfl rfl (fun w => by kernel_rfl) (fun w => by kernel_rfl)) ?_;rintro _ w' a ⟨hM, hisbm3⟩ hF;refine mv hF rfl rfl fun a hF => stR hF (d_alloc 2 hM ty_ze_49) rfl ?_;rintro _ w' a ⟨b4, rfl, hM, hxk⟩ hF; have hisbm3 := hisbm3.ext hxk;change Mem w w' [some (b1, sq4C), some (b2, #[.slice (some ⟨b1, 0, none⟩) 4 4]), some (b4, #[.map none]), none] [] at hM;refine stN hF (d_storeM 2 hM rfl ty_on_49 hF rfl rfl rfl (by first | omega | (simp only [sz0, grpC_size, v3C_size, pm6C_size, v4C_size, sq4C_size] <;> omega) | simp)) ?_;rintro _ w' a ⟨hM, hkm⟩ hF; have hisbm3 := hkm _ _ _ hisbm3;change Mem w w' [some (b1, sq4C), some (b2, #[.slice (some ⟨b1, 0, none⟩) 4 4]), some (b4, #[.map (some bm3)]), none] [] at hM;refine nt <| sq <| sr <| st hF (g_load ty_on_48 hF rfl (hM.row 1 rfl) rfl) rfl fun a hF => st hF (g_len ty_us_48 hF rfl) rfl fun a hF => mv hF rfl rfl fun a hF => nt <| wp_block <| wp_loop_rounds 5 <| rnd <| sr <| st hF (g_lss hF rfl rfl) rfl fun a hF => nt <| sq <| c_cond hF rfl (fun h5 => ?_) (fun h5 => ?_)
  · refine wp_skip ?_
    refine tN <| sq <| wp_block <| sr <| mv hF rfl rfl fun a hF => st hF (g_indexSl (i := 0) ty_sl_48 hF rfl rfl rfl (by omega)) rfl fun a hF => st hF (g_loadAgg ty_ag_47 hF rfl (hM.row 0 rfl) (by simp only [sz0, grpC_size, v3C_size, pm6C_size, v4C_size, sq4C_size] <;> omega) (sq4_row (0) (by omega) (by omega) (by omega))) rfl fun a hF => stR hF (d_alloc 3 hM ty_ze_47) rfl ?_;rintro _ w' a ⟨b6, rfl, hM, hxk⟩ hF; have hisbm3 := hisbm3.ext hxk;change Mem w w' [some (b1, sq4C), some (b2, #[.slice (some ⟨b1, 0, none⟩) 4 4]), some (b4, #[.map (some bm3)]), some (b6, fnC 4 (fun _ => .int .u8 (0)))] [] at hM;refine ag hF rfl rfl fun a hF => stN hF (d_storeAggM 3 hM rfl ty_sz_47 hF rfl rfl (fnC_one fun _ _ => rfl) (by simp only [sz0, grpC_size, v3C_size, pm6C_size, v4C_size, sq4C_size]) (by simp only [sz0, grpC_size, v3C_size, pm6C_size, v4C_size, sq4C_size] <;> omega) (splice_whole _ _ rfl)) ?_;rintro _ w' a ⟨hM, hkm⟩ hF; have hisbm3 := hkm _ _ _ hisbm3;change Mem w w' [some (b1, sq4C), some (b2, #[.slice (some ⟨b1, 0, none⟩) 4 4]), some (b4, #[.map (some bm3)]), some (b6, v4C (sqL (0)))] [] at hM;refine nt <| wp_region_lit <| st hF (g_load ty_on_49 hF rfl (hM.row 2 rfl) rfl) rfl fun a hF => st hF (g_loadAgg ty_ag_47 hF rfl (hM.row 3 rfl) (by simp only [sz0, grpC_size, v3C_size, pm6C_size, v4C_size, sq4C_size] <;> omega) (extract_whole _ _ rfl)) rfl fun a hF => mv hF rfl rfl fun a hF => stN hF (d_mapUpd ty_um_49 hM hisbm3 hgebm3 hF rfl rfl rfl (fun w => by kernel_rfl) (fun w => by kernel_rfl)) ?_;rintro _ w' a ⟨hM, hisbm3⟩ hF;change Mem w w' [some (b1, sq4C), some (b2, #[.slice (some ⟨b1, 0, none⟩) 4 4]), some (b4, #[.map (some bm3)]), some (b6, v4C (sqL (0)))] [] at hM;refine wpList_nil <| iN <| tN <| wp_region_lit <| st hF (g_add hF rfl rfl (add_nat (0) (1) (by omega))) rfl fun a hF => mv hF rfl rfl fun a hF => nt <| rnd <| sr <| st hF (g_lss hF rfl rfl) rfl fun a hF => nt <| sq <| c_cond hF rfl (fun h7 => ?_) (fun h7 => ?_)
    · refine wp_skip ?_
      refine tN <| sq <| wp_block <| sr <| mv hF rfl rfl fun a hF => st hF (g_indexSl (i := 0 + 1) ty_sl_48 hF rfl rfl rfl (by omega)) rfl fun a hF => st hF (g_loadAgg ty_ag_47 hF rfl (hM.row 0 rfl) (by simp only [sz0, grpC_size, v3C_size, pm6C_size, v4C_size, sq4C_size] <;> omega) (sq4_row (0 + 1) (by omega) (by omega) (by omega))) rfl fun a hF => ?_;have hM := hM.drop 3;refine stR hF (d_alloc 3 hM ty_ze_47) rfl ?_;rintro _ w' a ⟨b8, rfl, hM, hxk⟩ hF; have hisbm3 := hisbm3.ext hxk;change Mem w w' [some (b1, sq4C), some (b2, #[.slice (some ⟨b1, 0, none⟩) 4 4]), some (b4, #[.map (some bm3)]), some (b8, fnC 4 (fun _ => .int .u8 (0)))] [] at hM;refine ag hF rfl rfl fun a hF => stN hF (d_storeAggM 3 hM rfl ty_sz_47 hF rfl rfl (fnC_one fun _ _ => rfl) (by simp only [sz0, grpC_size, v3C_size, pm6C_size, v4C_size, sq4C_size]) (by simp only [sz0, grpC_size, v3C_size, pm6C_size, v4C_size, sq4C_size] <;> omega) (splice_whole _ _ rfl)) ?_;rintro _ w' a ⟨hM, hkm⟩ hF; have hisbm3 := hkm _ _ _ hisbm3;change Mem w w' [some (b1, sq4C), some (b2, #[.slice (some ⟨b1, 0, none⟩) 4 4]), some (b4, #[.map (some bm3)]), some (b8, v4C (sqL (0 + 1)))] [] at hM;refine nt <| wp_region_lit <| st hF (g_load ty_on_49 hF rfl (hM.row 2 rfl) rfl) rfl fun a hF => st hF (g_loadAgg ty_ag_47 hF rfl (hM.row 3 rfl) (by simp only [sz0, grpC_size, v3C_size, pm6C_size, v4C_size, sq4C_size] <;> omega) (extract_whole _ _ rfl)) rfl fun a hF => mv hF rfl rfl fun a hF => stN hF (d_mapUpd ty_um_49 hM hisbm3 hgebm3 hF rfl rfl rfl (fun w => by kernel_rfl) (fun w => by kernel_rfl)) ?_;rintro _ w' a ⟨hM, hisbm3⟩ hF;change Mem w w' [some (b1, sq4C), some (b2, #[.slice (some ⟨b1, 0, none⟩) 4 4]), some (b4, #[.map (some bm3)]), some (b8, v4C (sqL (0 + 1)))] [] at hM;refine wpList_nil <| iN <| tN <| wp_region_lit <| st hF (g_add hF rfl rfl (add_nat (0 + 1) (1) (by omega))) rfl fun a hF => mv hF rfl rfl fun a hF => nt <| rnd <| sr <| st hF (g_lss hF rfl rfl) rfl fun a hF => nt <| sq <| c_cond hF rfl (fun h9 => ?_) (fun h9 => ?_)
      · refine wp_skip ?_
        refine tN <| sq <| wp_block <| sr <| mv hF rfl rfl fun a hF => st hF (g_indexSl (i := 0 + 1 + 1) ty_sl_48 hF rfl rfl rfl (by omega)) rfl fun a hF => st hF (g_loadAgg ty_ag_47 hF rfl (hM.row 0 rfl) (by simp only [sz0, grpC_size, v3C_size, pm6C_size, v4C_size, sq4C_size] <;> omega) (sq4_row (0 + 1 + 1) (by omega) (by omega) (by omega))) rfl fun a hF => ?_;have hM := hM.drop 3;refine stR hF (d_alloc 3 hM ty_ze_47) rfl ?_;rintro _ w' a ⟨b10, rfl, hM, hxk⟩ hF; have hisbm3 := hisbm3.ext hxk;change Mem w w' [some (b1, sq4C), some (b2, #[.slice (some ⟨b1, 0, none⟩) 4 4]), some (b4, #[.map (some bm3)]), some (b10, fnC 4 (fun _ => .int .u8 (0)))] [] at hM;refine ag hF rfl rfl fun a hF => stN hF (d_storeAggM 3 hM rfl ty_sz_47 hF rfl rfl (fnC_one fun _ _ => rfl) (by simp only [sz0, grpC_size, v3C_size, pm6C_size, v4C_size, sq4C_size]) (by simp only [sz0, grpC_size, v3C_size, pm6C_size, v4C_size, sq4C_size] <;> omega) (splice_whole _ _ rfl)) ?_;rintro _ w' a ⟨hM, hkm⟩ hF; have hisbm3 := hkm _ _ _ hisbm3;change Mem w w' [some (b1, sq4C), some (b2, #[.slice (some ⟨b1, 0, none⟩) 4 4]), some (b4, #[.map (some bm3)]), some (b10, v4C (sqL (0 + 1 + 1)))] [] at hM;refine nt <| wp_region_lit <| st hF (g_load ty_on_49 hF rfl (hM.row 2 rfl) rfl) rfl fun a hF => st hF (g_loadAgg ty_ag_47 hF rfl (hM.row 3 rfl) (by simp only [sz0, grpC_size, v3C_size, pm6C_size, v4C_size, sq4C_size] <;> omega) (extract_whole _ _ rfl)) rfl fun a hF => mv hF rfl rfl fun a hF => stN hF (d_mapUpd ty_um_49 hM hisbm3 hgebm3 hF rfl rfl rfl (fun w => by kernel_rfl) (fun w => by kernel_rfl)) ?_;rintro _ w' a ⟨hM, hisbm3⟩ hF;change Mem w w' [some (b1, sq4C), some (b2, #[.slice (some ⟨b1, 0, none⟩) 4 4]), some (b4, #[.map (some bm3)]), some (b10, v4C (sqL (0 + 1 + 1)))] [] at hM;refine wpList_nil <| iN <| tN <| wp_region_lit <| st hF (g_add hF rfl rfl (add_nat (0 + 1 + 1) (1) (by omega))) rfl fun a hF => mv hF rfl rfl fun a hF => nt <| rnd <| sr <| st hF (g_lss hF rfl rfl) rfl fun a hF => nt <| sq <| c_cond hF rfl (fun h11 => ?_) (fun h11 => ?_)
        · refine wp_skip ?_
          refine tN <| sq <| wp_block <| sr <| mv hF rfl rfl fun a hF => st hF (g_indexSl (i := 0 + 1 + 1 + 1) ty_sl_48 hF rfl rfl rfl (by omega)) rfl fun a hF => st hF (g_loadAgg ty_ag_47 hF rfl (hM.row 0 rfl) (by simp only [sz0, grpC_size, v3C_size, pm6C_size, v4C_size, sq4C_size] <;> omega) (sq4_row (0 + 1 + 1 + 1) (by omega) (by omega) (by omega))) rfl fun a hF => ?_;have hM := hM.drop 3;refine stR hF (d_alloc 3 hM ty_ze_47) rfl ?_;rintro _ w' a ⟨b12, rfl, hM, hxk⟩ hF; have hisbm3 := hisbm3.ext hxk;change Mem w w' [some (b1, sq4C), some (b2, #[.slice (some ⟨b1, 0, none⟩) 4 4]), some (b4, #[.map (some bm3)]), some (b12, fnC 4 (fun _ => .int .u8 (0)))] [] at hM;refine ag hF rfl rfl fun a hF => stN hF (d_storeAggM 3 hM rfl ty_sz_47 hF rfl rfl (fnC_one fun _ _ => rfl) (by simp only [sz0, grpC_size, v3C_size, pm6C_size, v4C_size, sq4C_size]) (by simp only [sz0, grpC_size, v3C_size, pm6C_size, v4C_size, sq4C_size] <;> omega) (splice_whole _ _ rfl)) ?_;rintro _ w' a ⟨hM, hkm⟩ hF; have hisbm3 := hkm _ _ _ hisbm3;change Mem w w' [some (b1, sq4C), some (b2, #[.slice (some ⟨b1, 0, none⟩) 4 4]), some (b4, #[.map (some bm3)]), some (b12, v4C (sqL (0 + 1 + 1 + 1)))] [] at hM;refine nt <| wp_region_lit <| st hF (g_load ty_on_49 hF rfl (hM.row 2 rfl) rfl) rfl fun a hF => st hF (g_loadAgg ty_ag_47 hF rfl (hM.row 3 rfl) (by simp only [sz0, grpC_size, v3C_size, pm6C_size, v4C_size, sq4C_size] <;> omega) (extract_whole _ _ rfl)) rfl fun a hF => mv hF rfl rfl fun a hF => stN hF (d_mapUpd ty_um_49 hM hisbm3 hgebm3 hF rfl rfl rfl (fun w => by kernel_rfl) (fun w => by kernel_rfl)) ?_;rintro _ w' a ⟨hM, hisbm3⟩ hF;change Mem w w' [some (b1, sq4C), some (b2, #[.slice (some ⟨b1, 0, none⟩) 4 4]), some (b4, #[.map (some bm3)]), some (b12, v4C (sqL (0 + 1 + 1 + 1)))] [] at hM;refine wpList_nil <| iN <| tN <| wp_region_lit <| st hF (g_add hF rfl rfl (add_nat (0 + 1 + 1 + 1) (1) (by omega))) rfl fun a hF => mv hF rfl rfl fun a hF => nt <| rnd <| sr <| st hF (g_lss hF rfl rfl) rfl fun a hF => nt <| sq <| c_cond hF rfl (fun h13 => ?_) (fun h13 => ?_)
          · exfalso; omega
          refine wp_exit <| tX <| tX <| ib_same <| tN <| sr <| st hF (g_makeFunc2 hF rfl rfl) rfl fun a hF => ag hF rfl rfl fun a hF => nt <| wp_ret <| fin1 rfl hF.defers (res_tmp hF rfl) ⟨_, rfl, hM.below, ?_⟩;exact ⟨_, _, _, _, rfl, hM.row 1 rfl, hM.row 0 rfl, hM.row 2 rfl, hisbm3⟩
        exfalso; omega
      exfalso; omega
    exfalso; omega
  exfalso; omega
end Go.Proofs.Ytpcmmlkcanglmaa

namespace Go.Proofs.Ytpcmmlkcanglmaa
open Go Go.RowKit Go.Sw Go.Ech
open Classical
theorem ty_ar_47 : arrOf Try.prog 47 = some (2, 2) := by kernel_rfl
theorem ty_ar_45 : arrOf Try.prog 45 = some (2, 1) := by kernel_rfl
def mqP (f g : Nat → Nat) (r c d : Nat) : Nat := if d < r * 2 + c then mulSq f g d else 0
theorem mulSq_at {f g : Nat → Nat} {r c : Nat} (hc : c < 2) : f (r * 2 + 0) * g (0 * 2 + c) + f (r * 2 + 1) * g (1 * 2 + c) = mulSq f g (r * 2 + c) := by
  unfold mulSq
  rw [show (r * 2 + c) / 2 * 2 = r * 2 by omega, show (r * 2 + c) % 2 = c by omega, show 0 * 2 + c = c by omega]; rfl
theorem mqP_step {f g : Nat → Nat} {r c d x : Nat} (hx : x = mulSq f g (r * 2 + c)) : (if d = r * 2 + c then x else mqP f g r c d) = mqP f g r (c + 1) d := by
  unfold mqP
  by_cases e : d = r * 2 + c
  · subst e; rw [if_pos rfl, if_pos (by omega), hx]
  · rw [if_neg e]
    have e : (d < r * 2 + c) = (d < r * 2 + (c + 1)) := by apply propext; omega
    simp only [e]
theorem keySq : WideMaps.KeyLaw Try.prog 47 := deep_law (m := 8) (by decide) (by kernel_rfl) (by kernel_rfl) (by kernel_rfl)
theorem sq_key {q : Nat} (hq : q < 5) : ∃ l, keyOf Try.prog 47 (.agg (v4C (sqE q))) = some l := by
  have h : q = 0 ∨ q = 1 ∨ q = 2 ∨ q = 3 ∨ q = 4 := by omega
  rcases h with rfl | rfl | rfl | rfl | rfl
  · exact Option.isSome_iff_exists.1 (show (keyOf Try.prog 47 (.agg (v4C (sqE 0)))).isSome = true by kernel_rfl)
  · exact Option.isSome_iff_exists.1 (show (keyOf Try.prog 47 (.agg (v4C (sqE 1)))).isSome = true by kernel_rfl)
  · exact Option.isSome_iff_exists.1 (show (keyOf Try.prog 47 (.agg (v4C (sqE 2)))).isSome = true by kernel_rfl)
  · exact Option.isSome_iff_exists.1 (show (keyOf Try.prog 47 (.agg (v4C (sqE 3)))).isSome = true by kernel_rfl)
  · exact Option.isSome_iff_exists.1 (show (keyOf Try.prog 47 (.agg (v4C (sqE 4)))).isSome = true by kernel_rfl)
theorem sq_mem {e : MapEntry} : e ∈ sqES.toList ↔ ∃ k, k < 5 ∧ e = { key := .agg (v4C (sqE k)), val := .int .i64 (((k : Nat) : Int) - 1), born := k } := by
  simp only [sqES, List.mem_cons, List.not_mem_nil, or_false]
  constructor
  · rintro (rfl | rfl | rfl | rfl | rfl)
    · exact ⟨0, by omega, rfl⟩
    · exact ⟨1, by omega, rfl⟩
    · exact ⟨2, by omega, rfl⟩
    · exact ⟨3, by omega, rfl⟩
    · exact ⟨4, by omega, rfl⟩
  · rintro ⟨k, hk, rfl⟩
    have h : k = 0 ∨ k = 1 ∨ k = 2 ∨ k = 3 ∨ k = 4 := by omega
    rcases h with rfl | rfl | rfl | rfl | rfl
    · exact .inl rfl
    · exact .inr (.inl rfl)
    · exact .inr (.inr (.inl rfl))
    · exact .inr (.inr (.inr (.inl rfl)))
    · exact .inr (.inr (.inr (.inr rfl)))
theorem sq_hes : ∀ e ∈ sqES.toList, ∃ l, keyOf Try.prog 47 e.key = some l := fun e he => by
  obtain ⟨k, hk, rfl⟩ := sq_mem.1 he
  exact sq_key hk
theorem sq_hex {q : Nat} (hq : q < 5) : ∃ e ∈ sqES.toList, e.key = .agg (v4C (sqE q)) := ⟨_, sq_mem.2 ⟨q, hq, rfl⟩, rfl⟩
theorem sq_hv {q : Nat} (hq : q < 5) : ∀ e ∈ sqES.toList, e.key = .agg (v4C (sqE q)) → e.val = .int .i64 ((q : Int) - 1) := fun e he h => by
  obtain ⟨k, hk, rfl⟩ := sq_mem.1 he
  injection h with h
  rw [sqE_inj hk hq (v4_inj h)]

theorem multiplySquares_ok (f g : Nat → Nat) (w : World) (hf : ∀ c, c < 4 → f c ≤ 1) (hg : ∀ c, c < 4 → g c ≤ 1) :
    CallsR Try.prog 22 #[.agg (v4C f), .agg (v4C g)] w (fun res _ => res = .agg (v4C (mulSq f g))) := by
  refine calls_fr [.agg (v4C f), .agg (v4C g)] Try.func22 rfl Try.ntmps22 rfl fun a hF => ?_;have hM : Mem w w [none, none, none, none] [] := MemX.start w 4;change Fr 40 a [(0, .agg (v4C f)), (1, .agg (v4C g))] at hF;refine sr <| stR hF (d_box 0 hM hF rfl) rfl ?_;rintro _ w' a ⟨b1, rfl, hM, -⟩ hF;refine stR hF (d_box 1 hM hF rfl) rfl ?_;rintro _ w' a ⟨b2, rfl, hM, -⟩ hF;refine stR hF (d_alloc 2 hM ty_ze_47) rfl ?_;rintro _ w' a ⟨b3, rfl, hM, -⟩ hF;refine ns <| stR hF (d_alloc 3 hM ty_ze_47) rfl ?_;rintro _ w' a ⟨b4, rfl, hM, -⟩ hF;refine nt <| sq <| sr <| mv hF rfl rfl fun a hF => nt <| wp_block ?_;change Mem w _ [some (b1, v4C f), some (b2, v4C g), some (b3, fnC 4 (fun _ => .int .u8 (0))), some (b4, fnC 4 (fun _ => .int .u8 (0)))] [] at hM;refine c_loop (fun (kk : Nat) a w' => kk ≤ 2 ∧ (True) ∧ Fr 40 a [(2, ptr b1 (0)), (3, ptr b2 (0)), (4, ptr b3 (0)), (5, ptr b4 (0)), (8, .int .i64 (kk : Int))] ∧ Mem w w' [some (b1, v4C f), some (b2, v4C g), some (b3, fnC 4 (fun _ => .int .u8 (0))), some (b4, v4C (mqP f g kk 0))] []) (fun kk => 2 - kk) 0 ?_ ?_
  · refine ⟨by omega, trivial, hF.sub _ (by repeat' constructor), ?_⟩
    exact hM.rowc 3 rfl (fnC_congr fun d hd => by simp [mqP])
  clear hF hM;rintro gr a w' ⟨hgr, hinv1, hF, hM⟩;refine sr <| st hF (g_lss hF rfl rfl) rfl fun a hF => nt <| sq <| c_cond hF rfl (fun h5 => ?_) (fun h5 => ?_)
  · refine wp_skip ?_
    refine tN <| sq <| wp_block <| sr <| mv hF rfl rfl fun a hF => ag hF rfl rfl fun a hF => ns <| mv hF rfl rfl fun a hF => nt <| wp_block ?_;change Mem w _ [some (b1, v4C f), some (b2, v4C g), some (b3, fnC 4 (fun _ => .int .u8 (0))), some (b4, v4C (mqP f g gr 0))] [] at hM;refine c_loop (fun (kk : Nat) a w' => kk ≤ 2 ∧ (True) ∧ Fr 40 a [(2, ptr b1 (0)), (3, ptr b2 (0)), (4, ptr b3 (0)), (5, ptr b4 (0)), (8, .int .i64 (gr : Int)), (9, .bool (decide (((gr : Int) : Int) < 2))), (10, .int .i64 (gr : Int)), (6, .int .i64 (gr : Int)), (11, .int .i64 (kk : Int))] ∧ Mem w w' [some (b1, v4C f), some (b2, v4C g), some (b3, fnC 4 (fun _ => .int .u8 (0))), some (b4, v4C (mqP f g gr kk))] []) (fun kk => 2 - kk) 0 ?_ ?_
    · refine ⟨by omega, trivial, hF.sub _ (by repeat' constructor), ?_⟩
      exact hM
    clear hF hM;rintro gc a w' ⟨hgc, hinv2, hF, hM⟩;have m1 : gr < 2 → f ((gr) * 2 + 0) ≤ 1 := fun q => hf _ (by omega);have m2 : gc < 2 → g (0 * 2 + (gc)) ≤ 1 := fun q => hg _ (by omega);have m3 : gr < 2 → f ((gr) * 2 + 1) ≤ 1 := fun q => hf _ (by omega);have m4 : gc < 2 → g (1 * 2 + (gc)) ≤ 1 := fun q => hg _ (by omega);have m5 : gr < 2 → gc < 2 → (f ((gr) * 2 + 0)) * (g (0 * 2 + (gc))) ≤ 1 := fun p q => Nat.mul_le_mul (m1 p) (m2 q);have m6 : gr < 2 → gc < 2 → (f ((gr) * 2 + 1)) * (g (1 * 2 + (gc))) ≤ 1 := fun p q => Nat.mul_le_mul (m3 p) (m4 q);refine sr <| st hF (g_lss hF rfl rfl) rfl fun a hF => nt <| sq <| c_cond hF rfl (fun h6 => ?_) (fun h6 => ?_)
    · refine wp_skip ?_
      refine tN <| sq <| wp_block <| sr <| mv hF rfl rfl fun a hF => ag hF rfl rfl fun a hF => nt <| c_par 22 [] [.val (.int .i64 (gr : Int)), .val (.int .i64 (gc : Int)), .val (.int .i64 (gr : Int)), .val (ptr b1 (0 + (gr) * 2)), .val (ptr b1 (0 + (gr) * 2 + (0) * 1)), .val (.int .u8 ((f ((gr) * 2 + (0)) : Int))), .val (.int .i64 (gc : Int)), .val (ptr b2 (0 + (0) * 2)), .val (ptr b2 (0 + (0) * 2 + (gc) * 1)), .val (.int .u8 ((g ((0) * 2 + (gc)) : Int))), .val (.int .u8 ((((f ((gr) * 2 + 0)) * (g (0 * 2 + (gc))) : Nat) : Int))), .val (.int .i64 (gr : Int)), .val (ptr b1 (0 + (gr) * 2)), .val (ptr b1 (0 + (gr) * 2 + (1) * 1)), .val (.int .u8 ((f ((gr) * 2 + (1)) : Int))), .val (.int .i64 (gc : Int)), .val (ptr b2 (0 + (1) * 2)), .val (ptr b2 (0 + (1) * 2 + (gc) * 1)), .val (.int .u8 ((g ((1) * 2 + (gc)) : Int))), .val (.int .u8 ((((f ((gr) * 2 + 1)) * (g (1 * 2 + (gc))) : Nat) : Int))), .val (.int .u8 (((((f ((gr) * 2 + 0)) * (g (0 * 2 + (gc))) + (f ((gr) * 2 + 1)) * (g (1 * 2 + (gc)))) : Nat) : Int))), .val (ptr b4 (0 + (gr) * 2))] hmix rfl hF rfl hM ⟨fun a w gG hF hS hd => by exact pmv hS rfl hF rfl, fun a w gG hF hS hd => by exact pmv hS rfl hF rfl, fun a w gG hF hS hd => by exact pmv hS rfl hF rfl, fun a w gG hF hS hd => by have hF := hF.ext1 16 (hd 2 rfl rfl); exact par_val hS rfl (g_indexAddr ty_ar_47 hF rfl rfl rfl (by omega)), fun a w gG hF hS hd => by have hF := hF.ext1 17 (hd 3 rfl rfl); exact par_val hS rfl (g_indexAddr (i := 0) ty_ar_45 hF rfl rfl rfl (by omega)), fun a w gG hF hS hd => by have hF := hF.ext1 18 (hd 4 rfl rfl); have hM := hS.mem rfl; exact par_val hS rfl (g_load ty_on_5 hF rfl (hM.row 0 rfl) (v4_get ((gr) * 2 + (0)) (by omega) (by omega))), fun a w gG hF hS hd => by exact pmv hS rfl hF rfl, fun a w gG hF hS hd => by exact par_val hS rfl (g_indexAddr (i := 0) ty_ar_47 hF rfl rfl rfl (by omega)), fun a w gG hF hS hd => by have hF := hF.ext1 20 (hd 6 rfl rfl); have hF := hF.ext1 21 (hd 7 rfl rfl); exact par_val hS rfl (g_indexAddr ty_ar_45 hF rfl rfl rfl (by omega)), fun a w gG hF hS hd => by have hF := hF.ext1 22 (hd 8 rfl rfl); have hM := hS.mem rfl; exact par_val hS rfl (g_load ty_on_5 hF rfl (hM.row 1 rfl) (v4_get ((0) * 2 + (gc)) (by omega) (by omega))), fun a w gG hF hS hd => by have hF := hF.ext1 19 (hd 5 rfl rfl); have hF := hF.ext1 23 (hd 9 rfl rfl); exact par_val hS rfl (g_mul hF rfl rfl (show _ = (((f ((gr) * 2 + 0)) * (g (0 * 2 + (gc))) : Nat) : Int) from (by rw [← Int.natCast_mul, wrap_u8 (by omega) (by omega)]))), fun a w gG hF hS hd => by exact pmv hS rfl hF rfl, fun a w gG hF hS hd => by have hF := hF.ext1 25 (hd 11 rfl rfl); exact par_val hS rfl (g_indexAddr ty_ar_47 hF rfl rfl rfl (by omega)), fun a w gG hF hS hd => by have hF := hF.ext1 26 (hd 12 rfl rfl); exact par_val hS rfl (g_indexAddr (i := 1) ty_ar_45 hF rfl rfl rfl (by omega)), fun a w gG hF hS hd => by have hF := hF.ext1 27 (hd 13 rfl rfl); have hM := hS.mem rfl; exact par_val hS rfl (g_load ty_on_5 hF rfl (hM.row 0 rfl) (v4_get ((gr) * 2 + (1)) (by omega) (by omega))), fun a w gG hF hS hd => by exact pmv hS rfl hF rfl, fun a w gG hF hS hd => by exact par_val hS rfl (g_indexAddr (i := 1) ty_ar_47 hF rfl rfl rfl (by omega)), fun a w gG hF hS hd => by have hF := hF.ext1 29 (hd 15 rfl rfl); have hF := hF.ext1 30 (hd 16 rfl rfl); exact par_val hS rfl (g_indexAddr ty_ar_45 hF rfl rfl rfl (by omega)), fun a w gG hF hS hd => by have hF := hF.ext1 31 (hd 17 rfl rfl); have hM := hS.mem rfl; exact par_val hS rfl (g_load ty_on_5 hF rfl (hM.row 1 rfl) (v4_get ((1) * 2 + (gc)) (by omega) (by omega))), fun a w gG hF hS hd => by have hF := hF.ext1 28 (hd 14 rfl rfl); have hF := hF.ext1 32 (hd 18 rfl rfl); exact par_val hS rfl (g_mul hF rfl rfl (show _ = (((f ((gr) * 2 + 1)) * (g (1 * 2 + (gc))) : Nat) : Int) from (by rw [← Int.natCast_mul, wrap_u8 (by omega) (by omega)]))), fun a w gG hF hS hd => by have hF := hF.ext1 24 (hd 10 rfl rfl); have hF := hF.ext1 33 (hd 19 rfl rfl); exact par_val hS rfl (g_add hF rfl rfl (show _ = ((((f ((gr) * 2 + 0)) * (g (0 * 2 + (gc))) + (f ((gr) * 2 + 1)) * (g (1 * 2 + (gc)))) : Nat) : Int) from (by rw [← Int.natCast_add, wrap_u8 (by omega) (by omega)]))), fun a w gG hF hS hd => by have hF := hF.ext1 14 (hd 0 rfl rfl); exact par_val hS rfl (g_indexAddr ty_ar_47 hF rfl rfl rfl (by omega)), trivial⟩ ?_
      intro a w' L hF hS hq;have hF := hF.ext1 14 (hq 0 rfl rfl);have hF := hF.ext1 15 (hq 1 rfl rfl);have hF := hF.ext1 16 (hq 2 rfl rfl);have hF := hF.ext1 17 (hq 3 rfl rfl);have hF := hF.ext1 18 (hq 4 rfl rfl);have hF := hF.ext1 19 (hq 5 rfl rfl);have hF := hF.ext1 20 (hq 6 rfl rfl);have hF := hF.ext1 21 (hq 7 rfl rfl);have hF := hF.ext1 22 (hq 8 rfl rfl);have hF := hF.ext1 23 (hq 9 rfl rfl);have hF := hF.ext1 24 (hq 10 rfl rfl);have hF := hF.ext1 25 (hq 11 rfl rfl);have hF := hF.ext1 26 (hq 12 rfl rfl);have hF := hF.ext1 27 (hq 13 rfl rfl);have hF := hF.ext1 28 (hq 14 rfl rfl);have hF := hF.ext1 29 (hq 15 rfl rfl);have hF := hF.ext1 30 (hq 16 rfl rfl);have hF := hF.ext1 31 (hq 17 rfl rfl);have hF := hF.ext1 32 (hq 18 rfl rfl);have hF := hF.ext1 33 (hq 19 rfl rfl);have hF := hF.ext1 34 (hq 20 rfl rfl);have hF := hF.ext1 35 (hq 21 rfl rfl);have hM := hS.mem rfl;change wpList Try.prog _ _ [_, _] _ _;refine st hF (g_indexAddr ty_ar_45 hF rfl rfl rfl (by omega)) rfl fun a hF => stN hF (d_store 3 hM rfl ty_on_5 hF rfl rfl rfl (by first | omega | (simp only [sz0, grpC_size, v3C_size, pm6C_size, v4C_size, sq4C_size] <;> omega) | simp)) ?_;intro _ w' a hM hF;rw [show (v4C (mqP f g gr gc)).setIfInBounds (0 + (gr) * 2 + (gc) * 1) (.int .u8 (((((f ((gr) * 2 + 0)) * (g (0 * 2 + (gc))) + (f ((gr) * 2 + 1)) * (g (1 * 2 + (gc)))) : Nat) : Int))) = v4C (fun d => if d = (gr) * 2 + (gc) then ((f ((gr) * 2 + 0)) * (g (0 * 2 + (gc))) + (f ((gr) * 2 + 1)) * (g (1 * 2 + (gc)))) else (mqP f g gr gc) d) from v4_set ((gr) * 2 + (gc)) (by omega)] at hM;change Mem w w' [some (b1, v4C f), some (b2, v4C g), some (b3, fnC 4 (fun _ => .int .u8 (0))), some (b4, v4C (fun d => if d = (gr) * 2 + (gc) then ((f ((gr) * 2 + 0)) * (g (0 * 2 + (gc))) + (f ((gr) * 2 + 1)) * (g (1 * 2 + (gc)))) else (mqP f g gr gc) d))] [] at hM;refine wpList_nil <| iN <| tN <| wp_region_lit <| st hF (g_add hF rfl rfl (add_nat (gc) (1) (by omega))) rfl fun a hF => mv hF rfl rfl fun a hF => nt <| ⟨gc + 1, ⟨by omega, trivial, hF.sub _ (by repeat' constructor), ?_⟩, by omega⟩;exact hM.rowc 3 rfl (v4_congr fun d hd => mqP_step (mulSq_at (by omega)))
    obtain rfl : 2 = gc := by omega
    refine wp_exit <| tX <| tX <| ib_same <| iN <| tN <| wp_region_lit <| st hF (g_add hF rfl rfl (add_nat (gr) (1) (by omega))) rfl fun a hF => mv hF rfl rfl fun a hF => nt <| ⟨gr + 1, ⟨by omega, trivial, hF.sub _ (by repeat' constructor), ?_⟩, by omega⟩;exact hM.rowc 3 rfl (v4_congr fun d hd => by unfold mqP; rw [show gr * 2 + 2 = (gr + 1) * 2 + 0 by omega])
  obtain rfl : 2 = gr := by omega
  have hM := hM.rowc (cs' := v4C (mulSq f g)) 3 rfl (v4_congr fun d hd => by unfold mqP; rw [if_pos (by omega)]);refine wp_exit <| tX <| tX <| ib_same <| tN <| sr <| st hF (g_loadAgg ty_ag_47 hF rfl (hM.row 3 rfl) (by simp only [sz0, grpC_size, v3C_size, pm6C_size, v4C_size, sq4C_size] <;> omega) (extract_whole _ _ rfl)) rfl fun a hF => stN hF (d_storeAgg 2 hM rfl ty_sz_47 hF rfl rfl (fnC_one fun _ _ => rfl) (by simp only [sz0, grpC_size, v3C_size, pm6C_size, v4C_size, sq4C_size]) (by simp only [sz0, grpC_size, v3C_size, pm6C_size, v4C_size, sq4C_size] <;> omega) (splice_whole _ _ rfl)) ?_;intro _ w' a hM hF;change Mem w w' [some (b1, v4C f), some (b2, v4C g), some (b3, v4C (mulSq f g)), some (b4, v4C (mulSq f g))] [] at hM;refine nt <| wp_ret <| fin1 rfl hF.defers (res_agg ty_ag_47 hF rfl (hM.row 2 rfl) (by simp only [sz0, grpC_size, v3C_size, pm6C_size, v4C_size, sq4C_size])) ⟨_, rfl, hM.below, ?_⟩
  show _ = _
  rfl
theorem squared_ok (i j pA bS pB bM : Nat) (w : World) (hi : i < 4) (hj : j < 4) (h1 : Blk w pA #[.slice (some ⟨bS, 0, none⟩) 4 4]) (h2 : Blk w bS sq4C) (h3 : Blk w pB #[.map (some bM)]) (hmp : IsMap w bM sqES 5) :
    CallsR Try.prog 21 #[.int .i64 (i : Int), .int .i64 (j : Int), ptr pB (0), ptr pA (0)] w (fun res _ => res = .int .i64 (sqV i j)) := by
  refine calls_fr [.int .i64 (i : Int), .int .i64 (j : Int), ptr pB (0), ptr pA (0)] Try.func21 rfl Try.ntmps21 rfl fun a hF => ?_;have hM : Mem w w [] [(pA, #[.slice (some ⟨bS, 0, none⟩) 4 4]), (bS, sq4C), (pB, #[.map (some bM)])] := MemX.startD w 0 _ (startD3 h1 h2 h3);change Fr 18 a [(0, .int .i64 (i : Int)), (1, .int .i64 (j : Int)), (2, ptr pB (0)), (3, ptr pA (0))] at hF;refine sr <| ag hF rfl rfl fun a hF => nt <| sq <| c_par 10 [] [.val (.map (some bM)), .val (.slice (some ⟨bS, 0, none⟩) 4 4), .val (.int .i64 (i : Int)), .val (ptr bS (0 + (i) * 4)), .val (.agg (v4C (sqL (i)))), .val (.slice (some ⟨bS, 0, none⟩) 4 4), .val (.int .i64 (j : Int)), .val (ptr bS (0 + (j) * 4)), .val (.agg (v4C (sqL (j)))), .val (.agg (v4C (sqE (sqQ i j))))] hmix rfl hF rfl hM ⟨fun a w gG hF hS hd => by have hM := hS.mem rfl; exact par_val hS rfl (g_load ty_on_49 hF rfl (hM.fz 2 rfl) rfl), fun a w gG hF hS hd => by have hM := hS.mem rfl; exact par_val hS rfl (g_load ty_on_48 hF rfl (hM.fz 0 rfl) rfl), fun a w gG hF hS hd => by exact pmv hS rfl hF rfl, fun a w gG hF hS hd => by have hF := hF.ext1 8 (hd 1 rfl rfl); have hF := hF.ext1 9 (hd 2 rfl rfl); exact par_val hS rfl (g_indexSl (i := i) ty_sl_48 hF rfl rfl rfl (by omega)), fun a w gG hF hS hd => by have hF := hF.ext1 10 (hd 3 rfl rfl); have hM := hS.mem rfl; exact par_val hS rfl (g_loadAgg ty_ag_47 hF rfl (hM.fz 1 rfl) (by rw [sq4C_size]; omega) (sq4_row (i) (by omega) (by omega) (by omega))), fun a w gG hF hS hd => by have hM := hS.mem rfl; exact par_val hS rfl (g_load ty_on_48 hF rfl (hM.fz 0 rfl) rfl), fun a w gG hF hS hd => by exact pmv hS rfl hF rfl, fun a w gG hF hS hd => by have hF := hF.ext1 12 (hd 5 rfl rfl); have hF := hF.ext1 13 (hd 6 rfl rfl); exact par_val hS rfl (g_indexSl (i := j) ty_sl_48 hF rfl rfl rfl (by omega)), fun a w gG hF hS hd => by have hF := hF.ext1 14 (hd 7 rfl rfl); have hM := hS.mem rfl; exact par_val hS rfl (g_loadAgg ty_ag_47 hF rfl (hM.fz 1 rfl) (by rw [sq4C_size]; omega) (sq4_row (j) (by omega) (by omega) (by omega))), fun a w gG hF hS hd => by have hF := hF.ext1 11 (hd 4 rfl rfl); have hF := hF.ext1 15 (hd 8 rfl rfl); exact par_call (by repeat constructor) hS rfl (d_call Try.call22 hF (.cons rfl (.cons rfl .nil)) ((CallsR.val (multiplySquares_ok (sqL (i)) (sqL (j)) _ (fun c hc => sqL_le (by omega) hc) (fun c hc => sqL_le (by omega) hc)) (congrArg Value.agg (v4_congr (sq_mul hi hj)))))), trivial⟩ ?_;intro a w' L hF hS hq;have hF := hF.ext1 7 (hq 0 rfl rfl);have hF := hF.ext1 8 (hq 1 rfl rfl);have hF := hF.ext1 9 (hq 2 rfl rfl);have hF := hF.ext1 10 (hq 3 rfl rfl);have hF := hF.ext1 11 (hq 4 rfl rfl);have hF := hF.ext1 12 (hq 5 rfl rfl);have hF := hF.ext1 13 (hq 6 rfl rfl);have hF := hF.ext1 14 (hq 7 rfl rfl);have hF := hF.ext1 15 (hq 8 rfl rfl);have hF := hF.ext1 16 (hq 9 rfl rfl);have hM := hS.mem rfl;change wpList Try.prog _ _ [_, _] _ _;refine st hF (g_lookupK keySq ty_um_49 (hmp.ext hM.below) hF rfl rfl (sq_key (sqQ_lt hi hj)).choose_spec sq_hes (sq_hex (sqQ_lt hi hj)) (sq_hv (sqQ_lt hi hj))) rfl fun a hF => ag hF rfl rfl fun a hF => nt <| wp_ret <| fin1 rfl hF.defers (res_tmp hF rfl) ⟨_, rfl, hM.below, ?_⟩
  show _ = _
  rfl
end Go.Proofs.Ytpcmmlkcanglmaa
