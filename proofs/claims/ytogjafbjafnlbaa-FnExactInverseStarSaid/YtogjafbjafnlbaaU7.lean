/- What functions of the program return, as walks over their operations; no statement of the seat is proved here. -/
import Derived.Test.YtogjafbjafnlbaaU6
import Derived.Test.YtogjafbjafnlbaaSw65
import Derived.Test.YtogjafbjafnlbaaSw66
set_option linter.unusedVariables false
set_option linter.unusedSimpArgs false
namespace Go.Proofs.Ytogjafbjafnlbaa
open Go Go.RowKit Go.Sw Go.Ech
open Classical
theorem mem_iff9 {n : Nat} {M : Nat → Nat → Nat} {k x : Nat} (hx : x < n) : (∃ c, c < sC M n k ∧ eC M n k c = x) ↔ inC M n (rC M n k) x = true := by
  constructor
  · rintro ⟨c, h1, rfl⟩; exact (asc_of h1).2.1
  · intro h; exact ⟨cnt (inC M n (rC M n k)) x, cnt_lt h hx, asc_at h hx⟩
theorem cls_ex {n : Nat} {M : Nat → Nat → Nat} (hn0 : 0 < n) (hn : n ≤ 6) (hG : TabP n M) {x : Nat} (hx : x < n) : ∃ k, k < nC M n ∧ inC M n (rC M n k) x = true := by
  by_cases h : isRep M n x = true
  · exact ⟨cnt (isRep M n) x, cnt_lt h hx, by rw [show rC M n (cnt (isRep M n) x) = x from asc_at h hx]; exact inC_refl hn0 hG hx⟩
  · have h2 : ∃ i, i < x ∧ isRep M n i = true ∧ inC M n i x = true := Classical.byContradiction fun hq => h ((rep_met hn0 hn hG hx).2 hq)
    obtain ⟨i, hi, h3, h4⟩ := h2;exact ⟨cnt (isRep M n) i, cnt_lt h3 (by omega), by rw [show rC M n (cnt (isRep M n) i) = i from asc_at h3 (by omega)]; exact h4⟩
theorem cls_un {n : Nat} {M : Nat → Nat → Nat} (hn0 : 0 < n) (hn : n ≤ 6) (hG : TabP n M) {x k j : Nat} (hx : x < n) (hk : k < nC M n) (hj : j < nC M n) (h1 : inC M n (rC M n k) x = true) (h2 : inC M n (rC M n j) x = true) : k = j := by
  have key : ∀ {k j : Nat}, k < nC M n → j < nC M n → inC M n (rC M n k) x = true → inC M n (rC M n j) x = true → ¬ rC M n k < rC M n j := fun {k j} hk hj h1 h2 hlt =>
    (isRep_iff.1 (rC_rep hj)) _ hlt (inC_trans hn0 hn hG (rC_lt hk) h1 (inC_symm hn0 hn hG (rC_lt hj) h2))
  have a1 := key hk hj h1 h2;have a2 := key hj hk h2 h1;have e : rC M n k = rC M n j := by omega
  have b1 := (asc_of hk).2.2;have b2 := (asc_of hj).2.2;have e2 : asc (isRep M n) n k = asc (isRep M n) n j := e;rw [e2] at b1
  omega
def bkC (M : Nat → Nat → Nat) (n i : Nat) : Nat := lead (M (eC M n i 0)) n
theorem bkC_lt {n : Nat} {M : Nat → Nat → Nat} (hn0 : 0 < n) (hG : TabP n M) {i : Nat} (hi : i < nC M n) : bkC M n i < n := hG.inv (eC_lt (sC_pos hn0 hG hi))
def IsPl (n : Nat) (M : Nat → Nat → Nat) (Q : Nat → Nat) : Prop := ∀ i, i < nC M n → Q i < nC M n ∧ inC M n (rC M n (Q i)) (bkC M n i) = true
theorem pl_ex {n : Nat} {M : Nat → Nat → Nat} (hn0 : 0 < n) (hn : n ≤ 6) (hG : TabP n M) : ∃ Q, IsPl n M Q := by
  have h : ∀ i, ∃ q, i < nC M n → q < nC M n ∧ inC M n (rC M n q) (bkC M n i) = true := fun i => by
    by_cases hi : i < nC M n
    · obtain ⟨k, h1, h2⟩ := cls_ex hn0 hn hG (bkC_lt hn0 hG hi)
      exact ⟨k, fun _ => ⟨h1, h2⟩⟩
    · exact ⟨0, fun h => absurd h hi⟩
  exact ⟨fun i => Classical.choose (h i), fun i => Classical.choose_spec (h i)⟩
theorem nC_pos9 {n : Nat} {M : Nat → Nat → Nat} (hn0 : 0 < n) (hn : n ≤ 6) (hG : TabP n M) : 0 < nC M n := by
  obtain ⟨k, hk, _⟩ := cls_ex hn0 hn hG hn0
  omega
theorem index9_ok (b c m x : Nat) (cs : Array Value) (E : Nat → Nat) (w : World) (hb1 : Blk w b cs) (hx1 : ∀ i, i < m → cs[0 + i * 1]? = some (.int .i64 (E i : Int))) (hm : m ≤ 6) :
    CallsR Try.prog 41 #[.slice (some ⟨b, 0, none⟩) m c, .int .i64 (x : Int)] w (fun v w' => ∃ r : Int, v = .int .i64 r ∧ (r ≥ 0 ↔ ∃ i, i < m ∧ E i = x)) := by
  refine calls_fr [.slice (some ⟨b, 0, none⟩) m c, .int .i64 (x : Int)] Try.func41 rfl Try.ntmps41 rfl fun a hF => ?_;have hM : Mem w w [] [(b, cs)] := MemX.startD w 0 _ (startD1 hb1);change Fr 19 a [(0, .slice (some ⟨b, 0, none⟩) m c), (1, .int .i64 (x : Int))] at hF;refine sr <| ag hF rfl rfl fun a hF => nt <| sq <| sr <| mv hF rfl rfl fun a hF => st hF (g_len ty_us_46 hF rfl) rfl fun a hF => mv hF rfl rfl fun a hF => nt <| wp_block ?_;change Mem w _ [] [(b, cs)] at hM;refine c_loop (fun (kk : Nat) a w' => kk ≤ m ∧ (∀ i, i < kk → ¬ E i = x) ∧ Fr 19 a [(0, .slice (some ⟨b, 0, none⟩) m c), (1, .int .i64 (x : Int)), (7, .int .i64 (m : Int)), (8, .int .i64 (kk : Int))] ∧ Mem w w' [] [(b, cs)]) (fun kk => m - kk) 0 ?_ ?_
  · refine ⟨by omega, fun i hi => absurd hi (by omega), hF.sub _ (by repeat' constructor), ?_⟩
    exact hM
  clear hF hM;rintro gi a w' ⟨hgi, hinv1, hF, hM⟩;refine sr <| st hF (g_lss hF rfl rfl) rfl fun a hF => nt <| sq <| c_cond hF rfl (fun h1 => ?_) (fun h1 => ?_)
  · refine wp_skip ?_
    refine tN <| sq <| wp_block <| sr <| mv hF rfl rfl fun a hF => ag hF rfl rfl fun a hF => ns <| mv hF rfl rfl fun a hF => mv hF rfl rfl fun a hF => mv hF rfl rfl fun a hF => st hF (g_indexSl (i := gi) ty_sl_46 hF rfl rfl rfl (by omega)) rfl fun a hF => st hF (g_load ty_on_2 hF rfl (hM.fz 0 rfl) (hx1 (gi) (by omega))) rfl fun a hF => st hF (g_eql hF rfl rfl) rfl fun a hF => nt <| c_cond hF rfl (fun h2 => ?_) (fun h2 => ?_)
    · refine sq ?_
      refine wp_region_lit <| mv hF rfl rfl fun a hF => ag hF rfl rfl fun a hF => nt <| wp_ret <| iR <| tR <| tR <| iR <| tR <| fin1 rfl hF.defers (res_tmp hF rfl) ⟨_, rfl, hM.below, ?_⟩;exact ⟨_, rfl, fun _ => ⟨gi, by omega, by omega⟩, fun _ => by omega⟩
    refine wp_skip <| iN <| tN <| wp_region_lit <| st hF (g_add hF rfl rfl (add_nat (gi) (1) (by omega))) rfl fun a hF => mv hF rfl rfl fun a hF => nt <| ⟨gi + 1, ⟨by omega, allS hinv1 (by omega), hF.sub _ (by repeat' constructor), ?_⟩, by omega⟩;exact hM
  obtain rfl : m = gi := by omega
  refine wp_exit <| tX <| tX <| ib_same <| tN <| sr <| ag hF rfl rfl fun a hF => nt <| wp_ret <| fin1 rfl hF.defers (res_tmp hF rfl) ⟨_, rfl, hM.below, ?_⟩;exact ⟨_, rfl, by omega, fun h => by obtain ⟨i, hi, h⟩ := h; exact absurd h (hinv1 i hi)⟩
theorem contains9_ok (b c m x : Nat) (cs : Array Value) (E : Nat → Nat) (w : World) (hb1 : Blk w b cs) (hx1 : ∀ i, i < m → cs[0 + i * 1]? = some (.int .i64 (E i : Int))) (hm : m ≤ 6) :
    CallsR Try.prog 25 #[.slice (some ⟨b, 0, none⟩) m c, .int .i64 (x : Int)] w (fun res _ => res = .bool (decide (∃ i, i < m ∧ E i = x))) := by
  refine calls_fr [.slice (some ⟨b, 0, none⟩) m c, .int .i64 (x : Int)] Try.func25 rfl Try.ntmps25 rfl fun a hF => ?_;have hM : Mem w w [] [(b, cs)] := MemX.startD w 0 _ (startD1 hb1);change Fr 9 a [(0, .slice (some ⟨b, 0, none⟩) m c), (1, .int .i64 (x : Int))] at hF;refine sr <| ag hF rfl rfl fun a hF => ns <| mv hF rfl rfl fun a hF => mv hF rfl rfl fun a hF => stR hF (d_call Try.call41 hF (.cons rfl (.cons rfl .nil)) (index9_ok b c m x cs E _ (hM.fz 0 rfl) hx1 hm)) rfl ?_;rintro _ w' a ⟨hx, r, rfl, hr⟩ hF;have hM := hM.ext hx;refine st hF (g_geq hF rfl rfl) rfl fun a hF => ag hF rfl rfl fun a hF => nt <| wp_ret <| fin1 rfl hF.defers (res_tmp hF rfl) ⟨_, rfl, hM.below, ?_⟩
  show _ = _
  exact congrArg Value.bool (decide_eq_decide.2 hr)
theorem clo9_ok (b c m x : Nat) (cs : Array Value) (E : Nat → Nat) (bp : Nat) (w : World) (hb1 : Blk w b cs) (hx1 : ∀ i, i < m → cs[0 + i * 1]? = some (.int .i64 (E i : Int))) (hm : m ≤ 6) (hbp : Blk w bp #[.int .i64 (x : Int)]) :
    CallsR Try.prog 24 #[.slice (some ⟨b, 0, none⟩) m c, ptr bp (0)] w (fun res _ => res = .bool (decide (∃ i, i < m ∧ E i = x))) := by
  refine calls_fr [.slice (some ⟨b, 0, none⟩) m c, ptr bp (0)] Try.func24 rfl Try.ntmps24 rfl fun a hF => ?_;have hM : Mem w w [] [(b, cs), (bp, #[.int .i64 (x : Int)])] := MemX.startD w 0 _ (startD2 hb1 hbp);change Fr 7 a [(0, .slice (some ⟨b, 0, none⟩) m c), (1, ptr bp (0))] at hF;refine sr <| ag hF rfl rfl fun a hF => ns <| mv hF rfl rfl fun a hF => st hF (g_load ty_on_2 hF rfl (hM.fz 1 rfl) rfl) rfl fun a hF => stR hF (d_call Try.call25 hF (.cons rfl (.cons rfl .nil)) (contains9_ok b c m x cs E _ (hM.fz 0 rfl) hx1 hm)) rfl ?_;rintro _ w' a ⟨hx, rfl⟩ hF;have hM := hM.ext hx;refine ag hF rfl rfl fun a hF => nt <| wp_ret <| fin1 rfl hF.defers (res_tmp hF rfl) ⟨_, rfl, hM.below, ?_⟩
  show _ = _
  rfl
theorem indexK_ok (n : Nat) (M : Nat → Nat → Nat) (DK : Froz) (bK cK bp x q : Nat) (csK : Array Value) (βK κK : Nat → Nat) (CK : Nat → Array Value) (w : World) (hn0 : 0 < n) (hn : n ≤ 6) (hG : TabP n M) (hDK : ∀ y ds, (y, ds) ∈ DK → Blk w y ds) (hsK : SSR DK (.slice (some ⟨bK, 0, none⟩) (nC M n) cK) (nC M n) (sC M n) (eI M n) bK cK csK βK κK CK) (hbp : Blk w bp #[.int .i64 (x : Int)]) (hx : x < n) (hq : q < nC M n ∧ inC M n (rC M n q) x = true) :
    CallsR Try.prog 23 #[.slice (some ⟨bK, 0, none⟩) ((nC M n)) (cK), .func (.func 24) #[] #[ptr bp (0)]] w (fun res _ => res = .int .i64 (q : Int)) := by
  refine calls_fr [.slice (some ⟨bK, 0, none⟩) ((nC M n)) (cK), .func (.func 24) #[] #[ptr bp (0)]] Try.func23 rfl Try.ntmps23 rfl fun a hF => ?_;have hM : Mem w w [] ((bp, #[.int .i64 (x : Int)]) :: DK) := MemX.startD w 0 _ (fun y ds h => by rcases List.mem_cons.1 h with e | h; injection e with e1 e2; subst e1; subst e2; exact hbp; exact hDK y ds h);change Fr 19 a [(0, .slice (some ⟨bK, 0, none⟩) ((nC M n)) (cK)), (1, .func (.func 24) #[] #[ptr bp (0)])] at hF;have hnc := nC_le (M := M) hn;refine sr <| ag hF rfl rfl fun a hF => nt <| sq <| sr <| mv hF rfl rfl fun a hF => st hF (g_len ty_us_44 hF rfl) rfl fun a hF => mv hF rfl rfl fun a hF => nt <| wp_block ?_;change Mem w _ [] ((bp, #[.int .i64 (x : Int)]) :: DK) at hM;refine c_loop (fun (kk : Nat) a w' => kk ≤ (nC M n) ∧ (∀ i, i < kk → ¬ ∃ c, c < sC M n i ∧ eC M n i c = x) ∧ Fr 19 a [(0, .slice (some ⟨bK, 0, none⟩) ((nC M n)) (cK)), (1, .func (.func 24) #[] #[ptr bp (0)]), (7, .int .i64 ((((nC M n) : Nat) : Int))), (8, .int .i64 (kk : Int))] ∧ Mem w w' [] ((bp, #[.int .i64 (x : Int)]) :: DK)) (fun kk => (nC M n) - kk) 0 ?_ ?_
  · refine ⟨by omega, fun i hi => absurd hi (by omega), hF.sub _ (by repeat' constructor), ?_⟩
    exact hM
  clear hF hM;rintro gi a w' ⟨hgi, hinv1, hF, hM⟩;refine sr <| st hF (g_lss hF rfl rfl) rfl fun a hF => nt <| sq <| c_cond hF rfl (fun h1 => ?_) (fun h1 => ?_)
  · refine wp_skip ?_
    refine tN <| sq <| wp_block <| sr <| mv hF rfl rfl fun a hF => ag hF rfl rfl fun a hF => ns <| mv hF rfl rfl fun a hF => mv hF rfl rfl fun a hF => mv hF rfl rfl fun a hF => st hF (g_indexSl (i := gi) ty_sl_44 hF rfl rfl rfl (by omega)) rfl fun a hF => st hF (g_load ty_on_46 hF rfl (hM.fzm (List.mem_cons_of_mem _ hsK.out)) (hsK.cell (gi) (by omega))) rfl fun a hF => stR hF (d_callV (f := 24) (cap := [ptr bp (0)]) Try.call24 hF rfl (.cons rfl .nil) (clo9_ok (βK gi) (κK gi) (sC M n gi) x (CK gi) (eC M n gi) bp _ (hM.fzm (List.mem_cons_of_mem _ (hsK.rows.mem gi (by omega)))) (fun c hc => hsK.num gi (by omega) c hc) (sC_le hn gi) (hM.fz 0 rfl))) rfl ?_;rintro _ w' a ⟨hx9, rfl⟩ hF;have hM := hM.ext hx9;refine nt <| c_cond hF rfl (fun h2 => ?_) (fun h2 => ?_)
    · refine sq ?_
      refine wp_region_lit <| mv hF rfl rfl fun a hF => ag hF rfl rfl fun a hF => nt <| wp_ret <| iR <| tR <| tR <| iR <| tR <| fin1 rfl hF.defers (res_tmp hF rfl) ⟨_, rfl, hM.below, ?_⟩
      show _ = _
      exact congrArg (fun z : Nat => Value.int .i64 (z : Int)) (cls_un hn0 hn hG hx (by omega) hq.1 ((mem_iff9 hx).1 (by assumption)) hq.2)
    refine wp_skip <| iN <| tN <| wp_region_lit <| st hF (g_add hF rfl rfl (add_nat (gi) (1) (by omega))) rfl fun a hF => mv hF rfl rfl fun a hF => nt <| ⟨gi + 1, ⟨by omega, allS hinv1 (by assumption), hF.sub _ (by repeat' constructor), ?_⟩, by omega⟩;exact hM
  obtain rfl : (nC M n) = gi := by omega
  refine wp_exit <| tX <| tX <| ib_same <| tN <| sr <| ag hF rfl rfl fun a hF => nt <| wp_ret <| fin1 rfl hF.defers (res_tmp hF rfl) ⟨_, rfl, hM.below, ?_⟩
  show _ = _
  exact absurd ((mem_iff9 hx).2 hq.2) (hinv1 q (by omega))
end Go.Proofs.Ytogjafbjafnlbaa
