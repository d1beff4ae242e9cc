/- What functions of the program return, as walks over their operations; no statement of the seat is proved here. -/
import Derived.Test.YtnedojhanlhjkaaH8
import Derived.Test.YtnedojhanlhjkaaSw21
import Derived.Test.YtnedojhanlhjkaaSw30
import Derived.Test.YtnedojhanlhjkaaSw45
set_option linter.unusedVariables false
set_option linter.unusedSimpArgs false
namespace Go.Proofs.Ytnedojhanlhjkaa
open Go Go.RowKit Go.Sw Go.Ech
open Classical
def CodeP (p n : Int) (T : Nat → Nat → Nat → Nat) (f : Nat → Nat) (m : Nat) (V : Nat → Nat → Nat) : Prop := AlgP p n T f ∧ ∀ i, i < m → okV p n (V i)
end Go.Proofs.Ytnedojhanlhjkaa

namespace Go.Proofs.Ytnedojhanlhjkaa
open Go Go.RowKit Go.Sw Go.Ech
open Classical
end Go.Proofs.Ytnedojhanlhjkaa

namespace Go.Proofs.Ytnedojhanlhjkaa
open Go Go.RowKit Go.Sw Go.Ech
open Classical
theorem algC_putRow {p n : Int} {T : Nat → Nat → Nat → Nat} {f v : Nat → Nat} {o : Nat} (a b : Nat) (h : o = 2 + a * 36 + b * 6) (ha : a < 6) (hb : b < 6) : splice (algC p n T f) o (vecC v) = algC p n (fun i j k => if i = a ∧ j = b then v k else T i j k) f := by
  subst h;have hz : 2 + a * 36 + b * 6 + (vecC v).size ≤ (algC p n T f).size := by rw [vecC_size, cells_size]; omega
  refine algC_eq (by rw [splice_size _ _ _ hz, cells_size]) ?_ ?_ ?_ ?_
  · rw [splice_get _ _ _ _ hz, if_neg (by omega)]; exact algC_p rfl
  · rw [splice_get _ _ _ _ hz, if_neg (by omega)]; exact algC_n rfl
  · intro i j k hi hj hk
    rw [splice_get _ _ _ _ hz, vecC_size]
    by_cases e : i = a ∧ j = b
    · rw [if_pos (by omega), if_pos e]; exact vecC_get k (by omega) hk
    · rw [if_neg (by omega), if_neg e]; exact algC_T i j k rfl hi hj hk
  · intro i hi; rw [splice_get _ _ _ _ hz, vecC_size, if_neg (by omega)]; exact algC_f i rfl hi
theorem algC_congr {p n : Int} {T U : Nat → Nat → Nat → Nat} {f : Nat → Nat} (h : ∀ i, i < 6 → ∀ j, j < 6 → ∀ k, k < 6 → T i j k = U i j k) : algC p n T f = algC p n U f := by
  unfold algC
  refine fnC_congr fun c hc => ?_
  by_cases h0 : c = 0
  · rw [if_pos h0, if_pos h0]
  · rw [if_neg h0, if_neg h0]
    by_cases h1 : c = 1
    · rw [if_pos h1, if_pos h1]
    · rw [if_neg h1, if_neg h1]
      by_cases h2 : c < 218
      · rw [if_pos h2, if_pos h2, h _ (by omega) _ (by omega) _ (by omega)]
      · rw [if_neg h2, if_neg h2]
def trT (T : Nat → Nat → Nat → Nat) (i j k : Nat) : Nat := T j i k
theorem l01Find_u (p n : Nat) (T : Nat → Nat → Nat → Nat) (f uu : Nat → Nat) (w : World) (hp : primeN p) (hn0 : 0 < n) (hn : n ≤ 6) (hTp : ∀ i j k, T i j k < p) (huu : UnitI p n T uu) : CallsV Try.prog 53 #[.agg (algC (p : Int) (n : Int) T f)] w (.tuple #[.agg (vecC uu), .bool true]) :=
  (l01Find_ok p n T f w hp hn0 hn hTp).mono fun v w' _ h => by
    rcases h with ⟨u, hu, rfl⟩ | ⟨hu, rfl⟩
    · rw [huu.unique hu]
    · exact absurd huu (hu uu)
theorem findUnit_u (p n : Nat) (T : Nat → Nat → Nat → Nat) (f uu : Nat → Nat) (w : World) (hp : primeN p) (hn0 : 0 < n) (hn : n ≤ 6) (hTp : ∀ i j k, T i j k < p) (huu : UnitI p n T uu) : CallsV Try.prog 32 #[.agg (algC (p : Int) (n : Int) T f)] w (.tuple #[.agg (vecC uu), .bool true]) :=
  (findUnit_ok p n T f w hp hn0 hn hTp).mono fun v w' _ h => by
    rcases h with ⟨u, hu, rfl⟩ | ⟨hu, rfl⟩
    · rw [huu.unique hu]
    · exact absurd huu (hu uu)

def comP (T : Nat → Nat → Nat → Nat) : Prop := ∀ i, i < 6 → ∀ j, j < i → eqV 6 (T i j) (T j i)
theorem l01Unit_ok (p n : Nat) (T : Nat → Nat → Nat → Nat) (f : Nat → Nat) (w : World) (hp : primeN p) (hn0 : 0 < n) (hn : n ≤ 6) (hTp : ∀ i j k, T i j k < p) (uu : Nat → Nat) (huu : UnitI p n T uu) :
    CallsR Try.prog 42 #[.agg (algC (p : Int) (n : Int) T f)] w (fun res _ => res = .agg (vecC uu)) := by
  refine calls_fr [.agg (algC (p : Int) (n : Int) T f)] Try.func42 rfl Try.ntmps42 rfl fun a hF => ?_;have hM : Mem w w [none, none, none] [] := MemX.start w 3;change Fr 11 a [(0, .agg (algC (p : Int) (n : Int) T f))] at hF;refine sr <| stR hF (d_box 0 hM hF rfl) rfl ?_;rintro _ w' a ⟨b1, rfl, hM, -⟩ hF;refine stR hF (d_alloc 1 hM ty_ze_25) rfl ?_;rintro _ w' a ⟨b2, rfl, hM, -⟩ hF;change Mem w w' [some (b1, algC (p : Int) (n : Int) T f), some (b2, fnC 6 (fun _ => .int .u8 (0))), none] [] at hM;refine ns <| st hF (g_loadAgg ty_ag_27 hF rfl (hM.row 0 rfl) (by simp only [sz0] <;> omega) (whole cells_size)) rfl fun a hF => stR hF (d_call Try.call53 hF (.cons rfl .nil) (l01Find_u p n T f uu _ hp hn0 hn hTp huu)) rfl ?_;rintro _ w' a ⟨hx, rfl⟩ hF;have hM := hM.ext hx;refine mv hF rfl rfl fun a hF => st hF (g_extract hF rfl rfl) rfl fun a hF => st hF (g_extract hF rfl rfl) rfl fun a hF => stR hF (d_alloc 2 hM ty_ze_25) rfl ?_;rintro _ w' a ⟨b3, rfl, hM, -⟩ hF;change Mem w w' [some (b1, algC (p : Int) (n : Int) T f), some (b2, fnC 6 (fun _ => .int .u8 (0))), some (b3, fnC 6 (fun _ => .int .u8 (0)))] [] at hM;refine stN hF (d_storeAgg 2 hM rfl ty_sz_25 hF rfl rfl (by first | exact vecC_one | exact cells_one | (refine fnC_one fun _ _ => ?_; first | rfl | (split <;> rfl))) (by simp only [sz0]) (by simp only [sz0] <;> omega) (splice_whole _ _ (by simp only [sz0]))) ?_;intro _ w' a hM hF;change Mem w w' [some (b1, algC (p : Int) (n : Int) T f), some (b2, fnC 6 (fun _ => .int .u8 (0))), some (b3, vecC uu)] [] at hM;refine ag hF rfl rfl fun a hF => ns <| st hF (g_loadAgg ty_ag_25 hF rfl (hM.row 2 rfl) (by simp only [sz0] <;> omega) (whole (by simp only [sz0]))) rfl fun a hF => stN hF (d_storeAgg 1 hM rfl ty_sz_25 hF rfl rfl (by first | exact vecC_one | exact cells_one | (refine fnC_one fun _ _ => ?_; first | rfl | (split <;> rfl))) (by simp only [sz0]) (by simp only [sz0] <;> omega) (splice_whole _ _ (by simp only [sz0]))) ?_;intro _ w' a hM hF;change Mem w w' [some (b1, algC (p : Int) (n : Int) T f), some (b2, vecC uu), some (b3, vecC uu)] [] at hM;refine nt <| wp_ret <| fin1 rfl hF.defers (res_agg ty_ag_25 hF rfl (hM.row 1 rfl) (by simp only [sz0])) ⟨_, rfl, hM.below, ?_⟩
  show _ = _
  rfl
end Go.Proofs.Ytnedojhanlhjkaa

namespace Go.Proofs.Ytnedojhanlhjkaa
open Go Go.RowKit Go.Sw Go.Ech
open Classical
theorem ty_bp_27_3 : ∀ (p n : Int) (f : Nat → Nat) w, (Instr.build 27 #[(0, .int .i64 p), (1, .int .i64 n), (3, .agg (vecC f))]).run Try.prog w = .ok (.agg (algC p n (fun _ _ _ => 0) f)) w := by intros; kernel_rfl
def pTp (pl : Nat → Nat → Int) (n a b i j k : Nat) : Nat := if (i < a ∨ (i = a ∧ j < b)) ∧ j < n ∧ (k : Int) = pl i j then 1 else 0
theorem pTp_0 {pl : Nat → Nat → Int} {n i j k : Nat} : pTp pl n 0 0 i j k = 0 := by unfold pTp; rw [if_neg (by omega)]
theorem pTp_row {pl : Nat → Nat → Int} {n a i j k : Nat} : pTp pl n a n i j k = pTp pl n (a + 1) 0 i j k := by
  unfold pTp
  have e : ((i < a ∨ (i = a ∧ j < n)) ∧ j < n ∧ (k : Int) = pl i j) = ((i < a + 1 ∨ (i = a + 1 ∧ j < 0)) ∧ j < n ∧ (k : Int) = pl i j) := by apply propext; omega
  simp only [e]
theorem pTp_yes {pl : Nat → Nat → Int} {n a b i j k q : Nat} (hb : b < n) (h : pl a b = (q : Int)) : (if i = a ∧ j = b then (if k = q then 1 else 0) else pTp pl n a b i j k) = pTp pl n a (b + 1) i j k := by
  unfold pTp
  by_cases e : i = a ∧ j = b
  · obtain ⟨rfl, rfl⟩ := e
    rw [if_pos ⟨rfl, rfl⟩, h]
    by_cases h2 : k = q
    · rw [if_pos h2, if_pos (by omega)]
    · rw [if_neg h2, if_neg (by omega)]
  · rw [if_neg e]
    have e : ((i < a ∨ (i = a ∧ j < b)) ∧ j < n ∧ (k : Int) = pl i j) = ((i < a ∨ (i = a ∧ j < b + 1)) ∧ j < n ∧ (k : Int) = pl i j) := by apply propext; omega
    simp only [e]
theorem pTp_no {pl : Nat → Nat → Int} {n a b i j k : Nat} (h : pl a b = -1) : pTp pl n a b i j k = pTp pl n a (b + 1) i j k := by
  unfold pTp
  have e : ((i < a ∨ (i = a ∧ j < b)) ∧ j < n ∧ (k : Int) = pl i j) = ((i < a ∨ (i = a ∧ j < b + 1)) ∧ j < n ∧ (k : Int) = pl i j) := by
    apply propext
    by_cases q : i = a ∧ j = b
    · obtain ⟨rfl, rfl⟩ := q
      rw [h]; omega
    · omega
  simp only [e]
def dualP (i j : Nat) : Int := if i = 1 ∧ j = 1 then -1 else ((i + j : Nat) : Int)
def pairP (i j : Nat) : Int := if i = j then (i : Int) else -1
def cycP (i j : Nat) : Int := (((i + j) % 3 : Nat) : Int)

theorem algebraOfPlaces_ok (p : Int) (n : Nat) (f : Nat → Nat) (F : FuncId) (cap : List Value) (pl : Nat → Nat → Int) (w : World) (hn : n ≤ 6) (hcf : ∀ args w, (callFunc F args).run Try.prog w = .ok (.enter F args) w) (hpl : ∀ i j, i < n → j < n → ∀ w2, Ext w w2 → CallsR Try.prog F ([Value.int .i64 (i : Int), Value.int .i64 (j : Int)] ++ cap).toArray w2 (fun u _ => u = .int .i64 (pl i j))) (hpr : ∀ i j, i < n → j < n → -1 ≤ pl i j ∧ pl i j < 6) :
    CallsR Try.prog 26 #[.int .i64 (p), .int .i64 (n : Int), .agg (vecC f), .func (.func F) #[] cap.toArray] w (fun res _ => res = .agg (algC p (n : Int) (pTp pl n n 0) f)) := by
  refine calls_fr [.int .i64 (p), .int .i64 (n : Int), .agg (vecC f), .func (.func F) #[] cap.toArray] Try.func26 rfl Try.ntmps26 rfl fun a hF => ?_;have hM : Mem w w [none, none, none] [] := MemX.start w 3;change Fr 41 a [(0, .int .i64 (p)), (1, .int .i64 (n : Int)), (2, .agg (vecC f)), (3, .func (.func F) #[] cap.toArray)] at hF;refine sr <| stR hF (d_box 0 hM hF rfl) rfl ?_;rintro _ w' a ⟨b1, rfl, hM, -⟩ hF;refine stR hF (d_alloc 1 hM ty_ze_27) rfl ?_;rintro _ w' a ⟨b2, rfl, hM, -⟩ hF;change Mem w w' [some (b1, vecC f), some (b2, algC 0 0 (fun _ _ _ => 0) (fun _ => 0)), none] [] at hM;refine ns <| mv hF rfl rfl fun a hF => mv hF rfl rfl fun a hF => st hF (g_loadAgg ty_ag_25 hF rfl (hM.row 0 rfl) (by simp only [sz0, grpC_size] <;> omega) (whole (by simp only [sz0, grpC_size]))) rfl fun a hF => st hF (g_buildP hF (build013 hF rfl rfl rfl) (fun w => ty_bp_27_3 _ _ _ w)) rfl fun a hF => stR hF (d_alloc 2 hM ty_ze_27) rfl ?_;rintro _ w' a ⟨b3, rfl, hM, -⟩ hF;change Mem w w' [some (b1, vecC f), some (b2, algC 0 0 (fun _ _ _ => 0) (fun _ => 0)), some (b3, algC 0 0 (fun _ _ _ => 0) (fun _ => 0))] [] at hM;refine stN hF (d_storeAgg 2 hM rfl ty_sz_27 hF rfl rfl (by first | exact vecC_one | exact cells_one | (refine fnC_one fun _ _ => ?_; first | rfl | (split <;> rfl))) (by simp only [sz0, grpC_size]) (by simp only [sz0, grpC_size] <;> omega) (splice_whole _ _ (by simp only [sz0, grpC_size]))) ?_;intro _ w' a hM hF;refine nt <| sq <| sr <| mv hF rfl rfl fun a hF => mv hF rfl rfl fun a hF => nt <| wp_block ?_;change Mem w _ [some (b1, vecC f), some (b2, algC 0 0 (fun _ _ _ => 0) (fun _ => 0)), some (b3, algC (p) (n : Int) (fun _ _ _ => 0) f)] [] at hM;refine c_loop (fun (kk : Nat) a w' => kk ≤ n ∧ (True) ∧ Fr 41 a [(1, .int .i64 (n : Int)), (3, .func (.func F) #[] cap.toArray), (8, ptr b2 (0)), (9, ptr b3 (0)), (17, .int .i64 (n : Int)), (18, .int .i64 (kk : Int))] ∧ Mem w w' [some (b1, vecC f), some (b2, algC 0 0 (fun _ _ _ => 0) (fun _ => 0)), some (b3, algC p (n : Int) (pTp pl n (kk) (0)) f)] []) (fun kk => n - kk) 0 ?_ ?_
  · refine ⟨by omega, trivial, hF.sub _ (by repeat' constructor), ?_⟩
    exact hM.rowc 2 rfl (algC_congr fun i hi j hj k hk => pTp_0.symm)
  clear hF hM;rintro gi a w' ⟨hgi, hinv1, hF, hM⟩;refine sr <| st hF (g_lss hF rfl rfl) rfl fun a hF => nt <| sq <| c_cond hF rfl (fun h4 => ?_) (fun h4 => ?_)
  · refine wp_skip ?_
    refine tN <| sq <| wp_block <| sr <| mv hF rfl rfl fun a hF => ag hF rfl rfl fun a hF => ns <| mv hF rfl rfl fun a hF => mv hF rfl rfl fun a hF => nt <| wp_block ?_;change Mem w _ [some (b1, vecC f), some (b2, algC 0 0 (fun _ _ _ => 0) (fun _ => 0)), some (b3, algC p (n : Int) (pTp pl n (gi) (0)) f)] [] at hM;refine c_loop (fun (kk : Nat) a w' => kk ≤ n ∧ (True) ∧ Fr 41 a [(1, .int .i64 (n : Int)), (3, .func (.func F) #[] cap.toArray), (8, ptr b2 (0)), (9, ptr b3 (0)), (17, .int .i64 (n : Int)), (18, .int .i64 (gi : Int)), (19, .bool (decide (((gi : Int) : Int) < (n : Int)))), (20, .int .i64 (gi : Int)), (10, .int .i64 (gi : Int)), (21, .int .i64 (n : Int)), (22, .int .i64 (kk : Int))] ∧ Mem w w' [some (b1, vecC f), some (b2, algC 0 0 (fun _ _ _ => 0) (fun _ => 0)), some (b3, algC p (n : Int) (pTp pl n (gi) (kk)) f)] []) (fun kk => n - kk) 0 ?_ ?_
    · refine ⟨by omega, trivial, hF.sub _ (by repeat' constructor), ?_⟩
      exact hM
    clear hF hM;rintro gj a w' ⟨hgj, hinv2, hF, hM⟩;refine sr <| st hF (g_lss hF rfl rfl) rfl fun a hF => nt <| sq <| c_cond hF rfl (fun h5 => ?_) (fun h5 => ?_)
    · refine wp_skip ?_
      refine tN <| sq <| wp_block <| sr <| mv hF rfl rfl fun a hF => ag hF rfl rfl fun a hF => ns <| mv hF rfl rfl fun a hF => mv hF rfl rfl fun a hF => mv hF rfl rfl fun a hF => stR hF (d_callV (f := F) (cap := cap) hcf hF rfl (.cons rfl (.cons rfl .nil)) (hpl (gi) (gj) (by omega) (by omega) _ hM.below)) rfl ?_;rintro _ w' a ⟨hx, rfl⟩ hF;have hM := hM.ext hx;refine ag hF rfl rfl fun a hF => ns <| mv hF rfl rfl fun a hF => st hF (g_neq hF rfl rfl) rfl fun a hF => nt <| c_cond hF rfl (fun h6 => ?_) (fun h6 => ?_)
      · obtain ⟨pn, hpn⟩ : ∃ pn : Nat, pl gi gj = (pn : Int) := ⟨(pl gi gj).toNat, (Int.toNat_of_nonneg (by have := hpr gi gj (by omega) (by omega); omega)).symm⟩
        have hpn6 : pn < 6 := by have := hpr gi gj (by omega) (by omega); omega
        rw [hpn] at hF;refine c_par 6 [] [.val (.int .i64 (gi : Int)), .val (.int .i64 (gj : Int)), .val (.int .i64 (pn : Int)), .val (.agg (vecC (fun c => if c = pn then 1 else 0))), .val (ptr b3 (0 + 2)), .val (ptr b3 (0 + 2 + (gi) * 36))] hmix rfl hF rfl hM ⟨fun a w gG hF hS hd => by exact pmv hS rfl hF rfl, fun a w gG hF hS hd => by exact pmv hS rfl hF rfl, fun a w gG hF hS hd => by exact pmv hS rfl hF rfl, fun a w gG hF hS hd => by have hF := hF.ext1 33 (hd 2 rfl rfl); exact par_call (by repeat constructor) hS rfl (d_call Try.call43 hF (.cons rfl .nil) (basisVector_ok (pn) _ (by omega))), fun a w gG hF hS hd => by exact par_val hS rfl (g_fieldAddr ty_fo_27_2 hF rfl), fun a w gG hF hS hd => by have hF := hF.ext1 31 (hd 0 rfl rfl); have hF := hF.ext1 35 (hd 4 rfl rfl); exact par_val hS rfl (g_indexAddr ty_ar_24 hF rfl rfl rfl (by omega)), trivial⟩ ?_;intro a w' L hF hS hq;have hF := hF.ext1 31 (hq 0 rfl rfl);have hF := hF.ext1 32 (hq 1 rfl rfl);have hF := hF.ext1 33 (hq 2 rfl rfl);have hF := hF.ext1 34 (hq 3 rfl rfl);have hF := hF.ext1 35 (hq 4 rfl rfl);have hF := hF.ext1 36 (hq 5 rfl rfl);have hM := hS.mem rfl;change wpList Try.prog _ _ [_, _] _ _;refine st hF (g_indexAddr ty_ar_23 hF rfl rfl rfl (by omega)) rfl fun a hF => stN hF (d_storeAgg 2 hM rfl ty_sz_22 hF rfl rfl (by first | exact vecC_one | exact cells_one | (refine fnC_one fun _ _ => ?_; first | rfl | (split <;> rfl))) (by simp only [sz0, grpC_size]) (by simp only [sz0, grpC_size] <;> omega) (algC_putRow (gi) (gj) (by omega) (by omega) (by omega))) ?_;intro _ w' a hM hF;change Mem w w' [some (b1, vecC f), some (b2, algC 0 0 (fun _ _ _ => 0) (fun _ => 0)), some (b3, algC p (n : Int) (fun i j k => if i = gi ∧ j = gj then ((fun c => if c = pn then 1 else 0)) k else ((pTp pl n (gi) (gj))) i j k) f)] [] at hM;refine wpList_nil <| iN <| tN <| wp_region_lit <| st hF (g_add hF rfl rfl (add_nat (gj) (1) (by omega))) rfl fun a hF => mv hF rfl rfl fun a hF => nt <| ⟨gj + 1, ⟨by omega, trivial, hF.sub _ (by repeat' constructor), ?_⟩, by omega⟩
        first | exact hM.rowc 2 rfl (algC_congr fun i hi j hj k hk => pTp_yes (by omega) hpn) | exact hM.rowc 2 rfl (algC_congr fun i hi j hj k hk => pTp_no (by omega))
      refine wp_skip <| iN <| tN <| wp_region_lit <| st hF (g_add hF rfl rfl (add_nat (gj) (1) (by omega))) rfl fun a hF => mv hF rfl rfl fun a hF => nt <| ⟨gj + 1, ⟨by omega, trivial, hF.sub _ (by repeat' constructor), ?_⟩, by omega⟩
      first | exact hM.rowc 2 rfl (algC_congr fun i hi j hj k hk => pTp_yes (by omega) hpn) | exact hM.rowc 2 rfl (algC_congr fun i hi j hj k hk => pTp_no (by omega))
    obtain rfl : n = gj := by omega
    refine wp_exit <| tX <| tX <| ib_same <| iN <| tN <| wp_region_lit <| st hF (g_add hF rfl rfl (add_nat (gi) (1) (by omega))) rfl fun a hF => mv hF rfl rfl fun a hF => nt <| ⟨gi + 1, ⟨by omega, trivial, hF.sub _ (by repeat' constructor), ?_⟩, by omega⟩;exact hM.rowc 2 rfl (algC_congr fun i hi j hj k hk => pTp_row)
  obtain rfl : n = gi := by omega
  refine wp_exit <| tX <| tX <| ib_same <| tN <| sr <| st hF (g_loadAgg ty_ag_27 hF rfl (hM.row 2 rfl) (by simp only [sz0, grpC_size] <;> omega) (whole cells_size)) rfl fun a hF => stN hF (d_storeAgg 1 hM rfl ty_sz_27 hF rfl rfl (by first | exact vecC_one | exact cells_one | (refine fnC_one fun _ _ => ?_; first | rfl | (split <;> rfl))) (by simp only [sz0, grpC_size]) (by simp only [sz0, grpC_size] <;> omega) (splice_whole _ _ (by simp only [sz0, grpC_size]))) ?_;intro _ w' a hM hF;change Mem w w' [some (b1, vecC f), some (b2, algC p (n : Int) (pTp pl n (n) (0)) f), some (b3, algC p (n : Int) (pTp pl n (n) (0)) f)] [] at hM;refine nt <| wp_ret <| fin1 rfl hF.defers (res_agg ty_ag_27 hF rfl (hM.row 1 rfl) (by simp only [sz0, grpC_size])) ⟨_, rfl, hM.below, ?_⟩
  show _ = _
  rfl
theorem pairPlace_ok (i j : Nat) (w : World) (hi : i < 6) (hj : j < 6) :
    CallsR Try.prog 27 #[.int .i64 (i : Int), .int .i64 (j : Int)] w (fun res _ => res = .int .i64 (pairP i j)) := by
  refine calls_fr [.int .i64 (i : Int), .int .i64 (j : Int)] Try.func27 rfl Try.ntmps27 rfl fun a hF => ?_;have hM : Mem w w [] [] := MemX.start w 0;change Fr 9 a [(0, .int .i64 (i : Int)), (1, .int .i64 (j : Int))] at hF;refine sr <| ag hF rfl rfl fun a hF => nt <| sq <| sr <| mv hF rfl rfl fun a hF => mv hF rfl rfl fun a hF => st hF (g_neq hF rfl rfl) rfl fun a hF => nt <| c_cond hF rfl (fun h1 => ?_) (fun h1 => ?_)
  · refine sq ?_
    refine wp_region_lit <| ag hF rfl rfl fun a hF => nt <| wp_ret <| tR <| fin1 rfl hF.defers (res_tmp hF rfl) ⟨_, rfl, hM.below, ?_⟩
    show _ = _
    exact congrArg (Value.int .i64) (by unfold pairP; first | (rw [if_pos (by omega)]; done) | (rw [if_neg (by omega)]; done))
  refine wp_skip <| tN <| sr <| mv hF rfl rfl fun a hF => ag hF rfl rfl fun a hF => nt <| wp_ret <| fin1 rfl hF.defers (res_tmp hF rfl) ⟨_, rfl, hM.below, ?_⟩
  show _ = _
  exact congrArg (Value.int .i64) (by unfold pairP; first | (rw [if_pos (by omega)]; done) | (rw [if_neg (by omega)]; done))
def pmT : List (List Nat) := [[0, 1, 2], [0, 2, 1], [1, 0, 2], [1, 2, 0], [2, 0, 1], [2, 1, 0]]
def pmL (i k : Nat) : Nat := (pmT.getD i []).getD k 0
def v3C (v : Nat → Nat) : Array Value := fnC 3 (fun c => .int .u8 (v c : Int))
def pm6C : Array Value := fnC 18 (fun c => .int .u8 (pmL (c / 3) (c % 3) : Int))
theorem v3C_size (v : Nat → Nat) : (v3C v).size = 3 := fnC_size _ _
theorem pm6C_size : pm6C.size = 18 := fnC_size _ _
def pmES : Array MapEntry := #[{ key := .agg (v3C (pmL 0)), val := .int .i64 ((0 : Nat) : Int), born := 0 }, { key := .agg (v3C (pmL 1)), val := .int .i64 ((1 : Nat) : Int), born := 1 }, { key := .agg (v3C (pmL 2)), val := .int .i64 ((2 : Nat) : Int), born := 2 }, { key := .agg (v3C (pmL 3)), val := .int .i64 ((3 : Nat) : Int), born := 3 }, { key := .agg (v3C (pmL 4)), val := .int .i64 ((4 : Nat) : Int), born := 4 }, { key := .agg (v3C (pmL 5)), val := .int .i64 ((5 : Nat) : Int), born := 5 }]

end Go.Proofs.Ytnedojhanlhjkaa
