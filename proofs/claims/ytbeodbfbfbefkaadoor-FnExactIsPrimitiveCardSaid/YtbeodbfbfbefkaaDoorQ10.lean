/- What functions of the program return, as walks over their operations; no statement of the seat is proved here. -/
import Derived.Test.YtbeodbfbfbefkaaDoorQ9
import Derived.Test.YtbeodbfbfbefkaaDoorH5
set_option linter.unusedVariables false
set_option linter.unusedSimpArgs false
namespace Go.Proofs.YtbeodbfbfbefkaaDoor
open Go Go.RowKit Go.Sw Go.Ech
open Classical
theorem ty_ze_129 : zeroP Tryd.prog 129 = some (.agg (fnC 6 (fun _ => .bool (false)))) := by kernel_rfl
theorem ty_ar_129 : arrOf Tryd.prog 129 = some (6, 1) := by kernel_rfl
theorem ty_on_4 : oneP Tryd.prog 4 = true := by kernel_rfl
theorem ty_bsv_81 : ∀ (x : Option Addr) (n c : Nat) (w : World), (Instr.buildSlice 81 1 #[(0, .slice x n c)]).run Tryd.prog w = .ok (.slice (some ⟨w.heap.size, 0, none⟩) 1 1) (w.alloc (.cells #[.slice x n c] 85)) := by intros; kernel_rfl
theorem isLd_succ {q c : Nat} {ld : Nat → Nat} : isLd (q + 1) ld c ↔ isLd q ld c ∨ ld q = c := by
  constructor
  · rintro ⟨i, hi, e⟩
    by_cases h : i = q
    · subst h; exact .inr e
    · exact .inl ⟨i, by omega, e⟩
  · rintro (⟨i, hi, e⟩ | e)
    · exact ⟨i, by omega, e⟩
    · exact ⟨q, by omega, e⟩
def ldB (q : Nat) (ld : Nat → Nat) : Array Value := fnC 6 (fun c => .bool (decide (isLd q ld c)))
theorem ldB_size {q : Nat} {ld : Nat → Nat} : (ldB q ld).size = 6 := fnC_size _ _
theorem ldB_zero {ld : Nat → Nat} : fnC 6 (fun _ => .bool false) = ldB 0 ld := fnC_congr fun c hc => congrArg Value.bool (decide_eq_false (fun ⟨i, hi, _⟩ => absurd hi (by omega))).symm
theorem ldB_set {q o : Nat} {ld : Nat → Nat} (ho : o = ld q) : (ldB q ld).setIfInBounds o (.bool true) = ldB (q + 1) ld := by
  subst ho
  refine fnC_set fun c hc => ?_
  by_cases e : c = ld q
  · rw [if_pos e]; exact congrArg Value.bool (decide_eq_true (isLd_succ.2 (.inr e.symm)))
  · rw [if_neg e]; exact congrArg Value.bool (decide_eq_decide.2 (isLd_succ.trans ⟨fun h => h.elim id (fun h2 => absurd h2.symm e), .inl⟩))
theorem ldB_get {q o c : Nat} {ld : Nat → Nat} (h : o = c) (hc : c < 6) : (ldB q ld)[o]? = some (.bool (decide (isLd q ld c))) := by subst h; exact fnC_get hc
theorem sol_zero {p c d : Nat} {E : Nat → Nat → Nat} {ld : Nat → Nat} : sol p E 0 ld c d = if d = c then 1 else 0 := by
  unfold sol; split
  · rfl
  · rfl
theorem sol_step {p N k q c : Nat} {E : Nat → Nat → Nat} {ld : Nat → Nat} (h : Rref p N E k ld) (hq : q < k) (hf : ¬ isLd k ld c) (d : Nat) (hd : d ≠ ld q) : sol p E (q + 1) ld c d = sol p E q ld c d := by
  have e : ldAt (q + 1) ld d = ldAt q ld d := by rw [ldAt_succ, if_neg (fun e => hd e.symm)]; simp
  unfold sol
  rw [e]
theorem sol_at {p N k q c : Nat} {E : Nat → Nat → Nat} {ld : Nat → Nat} (h : Rref p N E k ld) (hq : q < k) (hf : ¬ isLd k ld c) : sol p E (q + 1) ld c (ld q) = (p - E q c) % p := by
  have hne : ld q ≠ c := fun e => hf ⟨q, hq, e⟩
  unfold sol
  rw [if_neg hne, ldAt_succ]
  have : ldAt q ld (ld q) = none := by
    cases h2 : ldAt q ld (ld q) with
    | none => rfl
    | some j => have := ldAt_some h2; have := h.mono j q this.1 hq; omega
  rw [this]; simp
theorem solR_pad {p n k : Nat} {E S : Nat → Nat → Nat} {ld : Nat → Nat} (h : Rref p n E k ld) (hS : SolR p n E k ld S) : ∀ i, i < nf k ld n → ∀ c, n ≤ c → c < 6 → S i c = 0 := fun i hi c hc _ => by
  obtain ⟨d, hd, hf, rfl⟩ := nf_at n i hi
  rw [hS d hd hf c]
  unfold sol
  rw [if_neg (by omega)]
  cases h2 : ldAt k ld c with
  | none => rfl
  | some j => have := ldAt_some h2; have := h.lt j this.1; omega
theorem rowsX_all {Q : Nat → Prop} {b0 m : Nat} {γ : Nat → Nat} (h0 : Q b0) (hr : ∀ i, i < m → Q (γ i)) : ∀ y ∈ rowsX b0 m γ, Q y := fun y hy => by
  rcases List.mem_cons.1 hy with rfl | hy
  · exact h0
  · obtain ⟨i, hi, rfl⟩ := List.mem_map.1 hy
    exact hr i (List.mem_range.1 hi)
theorem ownSl_le {w0 w w' : World} {size m : Nat} {f : Nat → Value} {u : Value} (hs : w0.heap.size ≤ w.heap.size) (h : OwnSl size w m f u w') : OwnSl size w0 m f u w' := by
  obtain ⟨b, cap, cs, h1, h2, h3⟩ := h; exact ⟨b, cap, cs, h1, Nat.le_trans hs h2, h3⟩
theorem fnC6_vecK {M : Nat → Nat} : (fnC 6 (fun c => .int .u8 ((M c : Nat) : Int))).extract 0 (0 + 6) = vecC M := extract_ext rfl (by rw [fnC_size]; decide) fun q hq => by rw [Nat.zero_add]; exact fnC_get hq

theorem vectorsOfC_ok (n b0 c0 : Nat) (cs0 : Array Value) (D0 : Froz) (β : Nat → Nat) (M : Nat → Nat → Nat) (w : World) (hn0 : 0 < n) (hn : n ≤ 6) (hD0 : ∀ b cs, (b, cs) ∈ D0 → Blk w b cs) (hb0 : (b0, cs0) ∈ D0) (hg0 : ∀ i, i < n → cs0[0 + i * 1]? = some (.slice (some ⟨β i, 0, none⟩) 6 6)) (hB : ∀ i, i < n → (β i, fnC 6 (fun c => .int .u8 ((M i c : Nat) : Int))) ∈ D0) :
    CallsR Tryd.prog 118 #[.slice (some ⟨b0, 0, none⟩) (n) (c0)] w (fun u w' => OwnSl 6 w n (fun c => .int .u8 ((M (c / 6) (c % 6) : Nat) : Int)) u w') := by
  refine calls_fr [.slice (some ⟨b0, 0, none⟩) (n) (c0)] Tryd.func118 rfl Tryd.ntmps118 rfl fun a hF => ?_
  have hM : Mem w w [none, none] D0 := MemX.startD w 2 _ hD0
  change Fr 20 a [(0, .slice (some ⟨b0, 0, none⟩) (n) (c0))] at hF
  refine sq (wp_region_lit ?_)
  refine st hF (g_assign hF rfl) rfl fun a hF => ?_
  refine wpList_nil (tN (sq (wp_region_lit ?_)))
  refine st hF (g_assign hF rfl) rfl fun a hF => ?_
  refine wpList_nil (tN (sq (sq (wp_region_lit ?_))))
  refine st hF (g_move hF rfl) rfl fun a hF => st hF (g_len ty_us_81 hF rfl) rfl fun a hF => st hF (g_move hF rfl) rfl fun a hF => ?_
  refine wpList_nil (tN (wp_block ?_))
  change Mem w _ [none, none] D0 at hM
  refine c_loop (fun (kk : Nat) a w' => kk ≤ n ∧ (True) ∧ ∃ (u3_1 : Value) (e3_1 : Option (Nat × Array Value)), Sl 6 u3_1 e3_1 (kk) (fun c => .int .u8 ((M (c / 6) (c % 6) : Nat) : Int)) ∧ Fr 20 a [(0, .slice (some ⟨b0, 0, none⟩) (n) (c0)), (2, .slice none 0 0), (6, .slice (some ⟨b0, 0, none⟩) (n) (c0)), (7, .int .i64 (((n : Nat) : Int))), (8, .int .i64 (((kk : Nat) : Int))), (3, u3_1)] ∧ Mem w w' [none, e3_1] D0) (fun kk => n - kk) 0 ?_ ?_
  ·
   refine ⟨by omega, trivial, (.slice none 0 0), (none), (Sl.nil 6 _), hF.sub _ (by repeat' constructor), ?_⟩
   exact hM
  ·
   clear hF hM
   rintro gj a w' ⟨hgj, hinv1, u3_1, e3_1, hslj, hF, hM⟩
   refine sq (wp_region_lit ?_)
   refine st hF (g_lss hF rfl rfl) rfl fun a hF => ?_
   refine wpList_nil (tN (sq ?_))
   refine c_cond hF rfl (fun h1 => ?_) (fun h1 => ?_)
   ·
    refine wp_skip (tN (sq (wp_block (sq (wp_region_lit ?_)))))
    refine st hF (g_indexSl (i := gj) ty_sl_81 hF rfl rfl rfl (by omega)) rfl fun a hF => st hF (g_load ty_on_85 hF rfl (hM.fzm hb0) (hg0 (gj) (by omega))) rfl fun a hF => st hF (g_assign hF rfl) rfl fun a hF => ?_
    refine wpList_nil (tN (wp_region_lit ?_))
    refine st hF (g_move hF rfl) rfl fun a hF => st hF (g_move hF rfl) rfl fun a hF => st hF (g_toArr ty_ua_30 hF rfl (by omega)) rfl fun a hF => st hF (g_loadAgg ty_ag_30 hF rfl (hM.fzm (hB (gj) (by omega))) (by rw [fnC_size]; decide) fnC6_vecK) rfl fun a hF => ?_
    refine stR hF (d_buildC (vs := [(0, .agg (vecC (M (gj))))]) 0 hM hF (build1 hF rfl) (fun w => ty_bsg_27_1 (M (gj)) w)) rfl ?_
    rintro _ w' a ⟨b2, rfl, hM, -⟩ hF
    change Mem w w' [some (b2, vecsC 1 (vAtL [(M (gj))])), e3_1] D0 at hM
    refine stR hF (d_append (k := 1) (N := gj) (m := 1) (f := (fun c => .int .u8 ((M (c / 6) (c % 6) : Nat) : Int))) (g := fun q => .int .u8 (((((M (gj))) q : Nat)) : Int)) ty_si_27 rfl (by decide) hM rfl hF rfl rfl hslj (fun q hq => ((hM.row 0 rfl).cell _).trans (vecs1_get q hq)) (fun _ _ => rfl) (by decide) (by unfold maxLen; omega) (by omega)) rfl ?_
    rintro u3 w' a ⟨e4, hM, hs5⟩ hF
    change Mem w w' [some (b2, vecsC 1 (vAtL [(M (gj))])), e4] D0 at hM
    refine st hF (g_assign hF rfl) rfl fun a hF => ?_
    refine wpList_nil (iN (tN (wp_region_lit ?_)))
    refine st hF (g_add hF rfl rfl (add_nat (gj) (1) (by omega))) rfl fun a hF => st hF (g_move hF rfl) rfl fun a hF => ?_
    refine wpList_nil (tN ?_)
    have hM := hM.drop 0
    refine ⟨gj + 1, ⟨by omega, trivial, (u3), (e4), (Sl.snoc6 (N := gj) (F := (fun c => .int .u8 ((M (c / 6) (c % 6) : Nat) : Int))) (G := fun q => .int .u8 ((M gj q : Nat) : Int)) hs5 (fun q hq => by rw [show (gj * 6 + q) / 6 = gj by omega, show (gj * 6 + q) % 6 = q by omega])), hF.sub _ (by repeat' constructor), ?_⟩, by omega⟩
    exact hM
   ·
    obtain rfl : n = gj := by omega
    refine wp_exit (tX (tX ?_))
    refine ib_same ?_
    refine tN (sq (wp_region_lit ?_))
    refine st hF (g_move hF rfl) rfl fun a hF => st hF (g_assign hF rfl) rfl fun a hF => ?_
    refine wpList_nil (tN (wp_ret ?_))
    refine fin1 rfl hF.defers (res_tmp hF rfl) ⟨_, rfl, hM.below, ?_⟩
    exact OwnSl.pos hM (k := 1) rfl (hslj) hn0

theorem kernelOf_ok (p n m b0 c0 : Nat) (cs0 : Array Value) (γ : Nat → Nat) (M : Nat → Nat → Nat) (w : World) (hp : primeN p) (hn0 : 0 < n) (hn : n ≤ 6) (hm2 : m < 1000) (hmc : m ≤ c0) (hM1 : ∀ i c, M i c < p) (hM0 : ∀ i, i < m → ∀ c, n ≤ c → c < 6 → M i c = 0) (hb0 : Blk w b0 cs0) (hsz0 : m ≤ cs0.size) (hg0 : ∀ i, i < m → cs0[0 + i * 1]? = some (.slice (some ⟨γ i, 0, none⟩) 6 6)) (hbr : ∀ i, i < m → Blk w (γ i) (fnC 6 (fun c => .int .u8 ((M i c : Nat) : Int)))) (hinj : ∀ i j, i < m → j < m → γ i = γ j → i = j) (hne0 : ∀ i, i < m → γ i ≠ b0) (hne : ∀ k E ld, Rref p n E k ld → (∀ x, Ker p n E k x ↔ Ker p n M m x) → 0 < nf k ld n) (hpos : ∀ r V, IsKer p n M m r V → 0 < r) :
    CallsX Tryd.prog (rowsX b0 m γ) 97 #[.slice (some ⟨b0, 0, none⟩) (m) (c0), .int .i64 (((n : Nat) : Int)), .int .i64 (((p : Nat) : Int))] w (fun u w' => ∃ r V, IsKer p n M m r V ∧ (∀ i, i < r → ∀ c, n ≤ c → c < 6 → V i c = 0) ∧ r ≤ n ∧ OwnSl 6 w r (fun c => .int .u8 ((V (c / 6) (c % 6) : Nat) : Int)) u w') := by
  refine calls_frX [.slice (some ⟨b0, 0, none⟩) (m) (c0), .int .i64 (((n : Nat) : Int)), .int .i64 (((p : Nat) : Int))] Tryd.func97 rfl Tryd.ntmps97 rfl fun a hF => ?_
  have hp2 := hp.two
  have hp13 := hp.le
  have hM : MemX (rowsX b0 m γ) w w [none, none, none, none] (rowsD0 b0 cs0 6 m γ M) := MemX.startXD _ w 4 _ (rowsD0_all hb0 hbr)
  change Fr 68 a [(0, .slice (some ⟨b0, 0, none⟩) (m) (c0)), (1, .int .i64 (((n : Nat) : Int))), (2, .int .i64 (((p : Nat) : Int)))] at hF
  refine sq (wp_region_lit ?_)
  refine st hF (g_assign hF rfl) rfl fun a hF => ?_
  refine wpList_nil (tN (sq (wp_region_lit ?_)))
  refine st hF (g_move hF rfl) rfl fun a hF => st hF (g_move hF rfl) rfl fun a hF => ?_
  refine stR hF (d_callX Tryd.call94 hF (.cons rfl (.cons rfl .nil)) (reduceRows_ok p 6 m b0 c0 cs0 γ M _ hp (by omega) (by omega) (by omega) hmc hM1 (hM.fzm rowsD0_0) hsz0 hg0 (fun i hi => hM.fzm (rowsD0_i hi)) hinj hne0)) rfl ?_
  rintro _ w' a ⟨hx, k, E, γ', ld, cs', rfl, hkm, hE, hKer, hE1, hb0', hg0', hbr', hgX'⟩ hF
  have hM := hM.swapD (D' := (rowsD0 b0 cs' 6 m γ' E)) hx rowsD0_Y (fun y hy => .inr hy) (rowsD0_all ⟨hb0', .inr (List.mem_cons_self ..)⟩ (fun i hi => ⟨hbr' i hi, hgX' i hi⟩))
  change MemX (rowsX b0 m γ) w w' [none, none, none, none] (rowsD0 b0 cs' 6 m γ' E) at hM
  refine st hF (g_assign hF rfl) rfl fun a hF => ?_
  refine wpList_nil (tN (sq ?_))
  obtain ⟨hEn, hKn, hEz⟩ := rref_pad hp hn hM1 hM0 hE hKer
  have hRm : ∀ x ∈ (rowsD0 b0 cs' 6 m γ' E), x ∈ (rowsD0 b0 cs' 6 m γ' E) := fun _ h => h
  have hnf := hne k E ld hEn hKn
  have hnfn := nf_le (k := k) (ld := ld) n
  refine wp_region_lit ?_
  refine stR hF (d_alloc 0 hM ty_ze_129) rfl ?_
  rintro _ w' a ⟨b1, rfl, hM, -⟩ hF
  change MemX (rowsX b0 m γ) w w' [some (b1, fnC 6 (fun _ => .bool (false))), none, none, none] (rowsD0 b0 cs' 6 m γ' E) at hM
  refine wpList_nil (tN (sq (sq (wp_region_lit ?_))))
  refine st hF (g_move hF rfl) rfl fun a hF => st hF (g_len ty_us_81 hF rfl) rfl fun a hF => st hF (g_move hF rfl) rfl fun a hF => ?_
  refine wpList_nil (tN (wp_block ?_))
  change MemX (rowsX b0 m γ) w _ [some (b1, fnC 6 (fun _ => .bool (false))), none, none, none] (rowsD0 b0 cs' 6 m γ' E) at hM
  refine c_loop (fun (kk : Nat) a w' => kk ≤ k ∧ (True) ∧ Fr 68 a [(0, .slice (some ⟨b0, 0, none⟩) (m) (c0)), (1, .int .i64 (((n : Nat) : Int))), (2, .int .i64 (((p : Nat) : Int))), (6, .slice none 0 0), (16, .slice (some ⟨b0, 0, none⟩) (m) (c0)), (17, .int .i64 (((p : Nat) : Int))), (18, .slice (some ⟨b0, 0, none⟩) (k) (c0)), (7, .slice (some ⟨b0, 0, none⟩) (k) (c0)), (8, ptr b1 (0)), (19, .slice (some ⟨b0, 0, none⟩) (k) (c0)), (20, .int .i64 (((k : Nat) : Int))), (21, .int .i64 (((kk : Nat) : Int)))] ∧ MemX (rowsX b0 m γ) w w' [some (b1, ldB kk ld), none, none, none] (rowsD0 b0 cs' 6 m γ' E)) (fun kk => k - kk) 0 ?_ ?_
  ·
   refine ⟨by omega, trivial, hF.sub _ (by repeat' constructor), ?_⟩
   exact hM.rowc 0 rfl ldB_zero
  ·
   clear hF hM
   rintro gi a w' ⟨hgi, hinv1, hF, hM⟩
   have hlg : gi < k → ld gi < n := fun h => hEn.lt gi h
   refine sq (wp_region_lit ?_)
   refine st hF (g_lss hF rfl rfl) rfl fun a hF => ?_
   refine wpList_nil (tN (sq ?_))
   refine c_cond hF rfl (fun h2 => ?_) (fun h2 => ?_)
   ·
    refine wp_skip (tN (sq (wp_block (sq (wp_region_lit ?_)))))
    refine st hF (g_indexSl (i := gi) ty_sl_81 hF rfl rfl rfl (by omega)) rfl fun a hF => st hF (g_load ty_on_85 hF rfl (hM.fzm (hRm _ rowsD0_0)) (hg0' (gi) (by omega))) rfl fun a hF => st hF (g_assign hF rfl) rfl fun a hF => ?_
    refine wpList_nil (tN (wp_region_lit ?_))
    refine st hF (g_move hF rfl) rfl fun a hF => ?_
    refine stR hF (d_call Tryd.call95 hF (.cons rfl .nil) ((leadingPlace_row (γ' (gi)) (6) (hM.fzm (hRm _ (rowsD0_i (show gi < m by omega)))) (fun i hi => fnC_getE i (by omega) hi rfl) (by omega) hE (i := gi) (by omega)))) rfl ?_
    rintro _ w' a ⟨hx, rfl⟩ hF
    have hM := hM.ext hx
    refine st hF (g_indexAddr ty_ar_129 hF rfl rfl rfl (by omega)) rfl fun a hF => ?_
    refine stN hF (d_store 0 hM rfl ty_on_4 hF rfl rfl rfl (by first | omega | (simp only [fnC_size, cells_size, vecC_size, tabC_size, planeC_size, dgC_size, numC_sz, ldB_size] <;> omega) | simp)) ?_
    intro _ w' a hM hF
    change MemX (rowsX b0 m γ) w w' [some (b1, (ldB gi ld).setIfInBounds (0 + (ld (gi)) * 1) (.bool (true))), none, none, none] (rowsD0 b0 cs' 6 m γ' E) at hM
    refine wpList_nil (iN (tN (wp_region_lit ?_)))
    refine st hF (g_add hF rfl rfl (add_nat (gi) (1) (by omega))) rfl fun a hF => st hF (g_move hF rfl) rfl fun a hF => ?_
    refine wpList_nil (tN ?_)
    refine ⟨gi + 1, ⟨by omega, trivial, hF.sub _ (by repeat' constructor), ?_⟩, by omega⟩
    exact hM.rowc 0 rfl (ldB_set (by omega))
   ·
    obtain rfl : k = gi := by omega
    refine wp_exit (tX (tX ?_))
    refine ib_same ?_
    refine tN (sq (wp_region_lit ?_))
    refine st hF (g_assign hF rfl) rfl fun a hF => ?_
    refine wpList_nil (tN (sq (sq (wp_region_lit ?_))))
    refine st hF (g_move hF rfl) rfl fun a hF => st hF (g_move hF rfl) rfl fun a hF => ?_
    refine wpList_nil (tN (wp_block ?_))
    change MemX (rowsX b0 m γ) w _ [some (b1, ldB k ld), none, none, none] (rowsD0 b0 cs' 6 m γ' E) at hM
    refine c_loop (fun (kk : Nat) a w' => kk ≤ n ∧ ∃ (D2 : Froz), ∃ (β2 : Nat → Nat), ∃ (S : Nat → Nat → Nat), (RowsB D2 6 (nf k ld kk) β2 S ∧ SolR p kk E k ld S ∧ (∀ i c, S i c < p) ∧ (∀ x ∈ (rowsD0 b0 cs' 6 m γ' E), x ∈ D2) ∧ ∀ i, i < nf k ld kk → w.heap.size ≤ β2 i ∨ β2 i ∈ (rowsX b0 m γ)) ∧ ∃ (u11_2 : Value) (e11_2 : Option (Nat × Array Value)), Sl 1 u11_2 e11_2 (nf k ld kk) (fun i => .slice (some ⟨β2 i, 0, none⟩) 6 6) ∧ Fr 68 a [(0, .slice (some ⟨b0, 0, none⟩) (m) (c0)), (1, .int .i64 (((n : Nat) : Int))), (2, .int .i64 (((p : Nat) : Int))), (6, .slice none 0 0), (16, .slice (some ⟨b0, 0, none⟩) (m) (c0)), (17, .int .i64 (((p : Nat) : Int))), (18, .slice (some ⟨b0, 0, none⟩) (k) (c0)), (7, .slice (some ⟨b0, 0, none⟩) (k) (c0)), (8, ptr b1 (0)), (19, .slice (some ⟨b0, 0, none⟩) (k) (c0)), (20, .int .i64 (((k : Nat) : Int))), (21, .int .i64 (((k : Nat) : Int))), (22, .bool (decide ((((k : Nat) : Int) : Int) < ((k : Nat) : Int)))), (29, .int .i64 (((n : Nat) : Int))), (30, .int .i64 (((kk : Nat) : Int))), (11, u11_2)] ∧ MemX (rowsX b0 m γ) w w' [some (b1, ldB k ld), none, none, e11_2] D2) (fun kk => n - kk) 0 ?_ ?_
    ·
     refine ⟨by omega, (rowsD0 b0 cs' 6 m γ' E), (fun _ => 0), (fun _ _ => 0), ⟨RowsB.none, solR_zero, fun _ _ => (by show 0 < p; omega), fun _ h => h, fun i hi => absurd hi (by rw [nf]; omega)⟩, (.slice none 0 0), (none), Sl.nil 1 _, hF.sub _ (by repeat' constructor), ?_⟩
     exact hM
    ·
     clear hF hM
     rintro gc a w' ⟨hgc, D2, β2, S, ⟨hB2, hS, hSp, hRm2, hge2⟩, u11_2, e11_2, hsl, hF, hM⟩
     have hRm := hRm2
     have hncf := nf_le (k := k) (ld := ld) gc
     refine sq (wp_region_lit ?_)
     refine st hF (g_lss hF rfl rfl) rfl fun a hF => ?_
     refine wpList_nil (tN (sq ?_))
     refine c_cond hF rfl (fun h3 => ?_) (fun h3 => ?_)
     ·
      refine wp_skip (tN (sq (wp_block (sq (wp_region_lit ?_)))))
      refine st hF (g_move hF rfl) rfl fun a hF => st hF (g_assign hF rfl) rfl fun a hF => ?_
      refine wpList_nil (tN (sq (sq (wp_region_lit ?_))))
      refine st hF (g_move hF rfl) rfl fun a hF => st hF (g_indexAddr ty_ar_129 hF rfl rfl rfl (by omega)) rfl fun a hF => st hF (g_load ty_on_4 hF rfl (hM.row 0 rfl) (ldB_get (c := gc) (by omega) (by omega))) rfl fun a hF => ?_
      refine wpList_nil (tN ?_)
      refine c_cond hF rfl (fun h4 => ?_) (fun h4 => ?_)
      ·
       have hl : isLd k ld gc := h4
       refine wp_exit (tX ?_)
       refine ib_same ?_
       refine tN (wp_region_lit ?_)
       refine st hF (g_add hF rfl rfl (add_nat (gc) (1) (by omega))) rfl fun a hF => st hF (g_move hF rfl) rfl fun a hF => ?_
       refine wpList_nil (tN ?_)
       refine ⟨gc + 1, ⟨by omega, D2, β2, S, (by first | exact ⟨by rw [nf_lead hl]; exact hB2, solR_lead hS hl, hSp, hRm2, by rw [nf_lead hl]; exact hge2⟩ | exact ⟨by rw [nf_free hl]; exact hB3, solR_free hS, upE_small hSp (fun _ => sol_lt hp2), fun x hx => List.mem_cons_of_mem _ (hRm2 x hx), fun i hi => by rw [nf_free hl] at hi; unfold up; split; exact hgN; exact hge2 i (by omega)⟩), (u11_2), (e11_2), (by first | (rw [nf_free hl]; exact hsl) | (rw [nf_lead hl]; exact hsl)), hF.sub _ (by repeat' constructor), ?_⟩, by omega⟩
       exact hM
      ·
       have hl : ¬ isLd k ld gc := h4
       refine wp_skip (tN (sq (wp_region_lit ?_)))
       refine stR hF (d_makeC (len := 6) 1 hM hF rfl rfl ty_mk_85_6) rfl ?_
       rintro _ w' a ⟨b5, rfl, hM, -⟩ hF
       change MemX (rowsX b0 m γ) w w' [some (b1, ldB k ld), some (b5, fnC 6 (fun _ => .int .u8 (0))), none, e11_2] D2 at hM
       refine st hF (g_assign hF rfl) rfl fun a hF => ?_
       refine wpList_nil (tN (sq (wp_region_lit ?_)))
       refine st hF (g_move hF rfl) rfl fun a hF => st hF (g_move hF rfl) rfl fun a hF => st hF (g_indexSl (i := gc) ty_sl_85 hF rfl rfl rfl (by omega)) rfl fun a hF => ?_
       refine stN hF (d_store 1 hM rfl ty_on_5 hF rfl rfl rfl (by first | omega | (simp only [fnC_size, cells_size, vecC_size, tabC_size, planeC_size, dgC_size, numC_sz, ldB_size] <;> omega) | simp)) ?_
       intro _ w' a hM hF
       change MemX (rowsX b0 m γ) w w' [some (b1, ldB k ld), some (b5, (fnC 6 (fun _ => .int .u8 (0))).setIfInBounds (0 + (gc) * 1) (.int .u8 (1))), none, e11_2] D2 at hM
       refine wpList_nil (tN (sq (sq (wp_region_lit ?_))))
       refine st hF (g_move hF rfl) rfl fun a hF => st hF (g_len ty_us_81 hF rfl) rfl fun a hF => st hF (g_move hF rfl) rfl fun a hF => ?_
       refine wpList_nil (tN (wp_block ?_))
       change MemX (rowsX b0 m γ) w _ [some (b1, ldB k ld), some (b5, (fnC 6 (fun _ => .int .u8 (0))).setIfInBounds (0 + (gc) * 1) (.int .u8 (1))), none, e11_2] D2 at hM
       refine c_loop (fun (kk : Nat) a w' => kk ≤ k ∧ (True) ∧ Fr 68 a [(0, .slice (some ⟨b0, 0, none⟩) (m) (c0)), (1, .int .i64 (((n : Nat) : Int))), (2, .int .i64 (((p : Nat) : Int))), (6, .slice none 0 0), (16, .slice (some ⟨b0, 0, none⟩) (m) (c0)), (17, .int .i64 (((p : Nat) : Int))), (18, .slice (some ⟨b0, 0, none⟩) (k) (c0)), (7, .slice (some ⟨b0, 0, none⟩) (k) (c0)), (8, ptr b1 (0)), (19, .slice (some ⟨b0, 0, none⟩) (k) (c0)), (20, .int .i64 (((k : Nat) : Int))), (21, .int .i64 (((k : Nat) : Int))), (22, .bool (decide ((((k : Nat) : Int) : Int) < ((k : Nat) : Int)))), (29, .int .i64 (((n : Nat) : Int))), (30, .int .i64 (((gc : Nat) : Int))), (11, u11_2), (31, .bool (decide ((((gc : Nat) : Int) : Int) < ((n : Nat) : Int)))), (32, .int .i64 (((gc : Nat) : Int))), (12, .int .i64 (((gc : Nat) : Int))), (33, .int .i64 (((gc : Nat) : Int))), (34, ptr b1 (0 + (gc) * 1)), (35, .bool (decide (isLd k ld (gc)))), (36, .slice (some ⟨b5, 0, none⟩) (6) (6)), (13, .slice (some ⟨b5, 0, none⟩) (6) (6)), (37, .slice (some ⟨b5, 0, none⟩) (6) (6)), (38, .int .i64 (((gc : Nat) : Int))), (39, ptr b5 (0 + (gc) * 1)), (40, .slice (some ⟨b0, 0, none⟩) (k) (c0)), (41, .int .i64 (((k : Nat) : Int))), (42, .int .i64 (((kk : Nat) : Int)))] ∧ MemX (rowsX b0 m γ) w w' [some (b1, ldB k ld), some (b5, dgC 6 (sol p E kk ld gc)), none, e11_2] D2) (fun kk => k - kk) 0 ?_ ?_
       ·
        refine ⟨by omega, trivial, hF.sub _ (by repeat' constructor), ?_⟩
        exact hM.rowc 1 rfl (dgC_set (m := 6) (k := gc) (f := fun _ => 0) (g := sol p E 0 ld gc) (by omega) (by rw [sol_zero, if_pos rfl]; rfl) (fun c hc he => by rw [sol_zero, if_neg he]))
       ·
        clear hF hM
        rintro gq a w' ⟨hgq, hinv3, hF, hM⟩
        have hlg2 : gq < k → ld gq < n := fun h => hEn.lt gq h
        have hEb := hE1 gq gc
        refine sq (wp_region_lit ?_)
        refine st hF (g_lss hF rfl rfl) rfl fun a hF => ?_
        refine wpList_nil (tN (sq ?_))
        refine c_cond hF rfl (fun h6 => ?_) (fun h6 => ?_)
        ·
         refine wp_skip (tN (sq (wp_block (sq (wp_region_lit ?_)))))
         refine st hF (g_indexSl (i := gq) ty_sl_81 hF rfl rfl rfl (by omega)) rfl fun a hF => st hF (g_load ty_on_85 hF rfl (hM.fzm (hRm _ rowsD0_0)) (hg0' (gq) (by omega))) rfl fun a hF => st hF (g_assign hF rfl) rfl fun a hF => ?_
         refine wpList_nil (tN ?_)
         refine c_drawS (S := fun (b : Bool) w2 => MemX (rowsX b0 m γ) w w2 [some (b1, ldB k ld), some (b5, if b then (dgC 6 (sol p E gq ld gc)).setIfInBounds (0 + (ld gq) * 1) (.int .u8 ((((p - E (gq) (gc)) % p : Nat) : Int))) else dgC 6 (sol p E gq ld gc)), none, e11_2] D2) 13 12 hmix rfl rfl rfl hF rfl (fun j o hj hne => dstAll_spec (s := 12) (i := 0) rfl j o hj (by omega)) hM (fun b w h => h.ext (Below.drew (Below.refl _ _))) (vAt [.slice (some ⟨b5, 0, none⟩) (6) (6), .slice (some ⟨γ' (gq), 0, none⟩) (6) (6), .int .i64 (((ld (gq) : Nat) : Int)), .slice (some ⟨γ' (gq), 0, none⟩) (6) (6), .int .i64 (((gc : Nat) : Int)), ptr (γ' (gq)) (0 + (gc) * 1), .int .u8 (((E (gq) (gc) : Nat) : Int)), .int .i64 (((E (gq) (gc) : Nat) : Int)), .int .i64 (-(((E (gq) (gc) : Nat) : Int))), .int .i64 (((p : Nat) : Int)), .int .u8 ((((p - E (gq) (gc)) % p : Nat) : Int)), ptr b5 (0 + (ld (gq)) * 1), undef]) ⟨fun a w2 b hF hS hb hd => by exact parS_val (S := fun (b : Bool) w2 => MemX (rowsX b0 m γ) w w2 [some (b1, ldB k ld), some (b5, if b then (dgC 6 (sol p E gq ld gc)).setIfInBounds (0 + (ld gq) * 1) (.int .u8 ((((p - E (gq) (gc)) % p : Nat) : Int))) else dgC 6 (sol p E gq ld gc)), none, e11_2] D2) hS (g_move hF rfl), fun a w2 b hF hS hb hd => by exact parS_val (S := fun (b : Bool) w2 => MemX (rowsX b0 m γ) w w2 [some (b1, ldB k ld), some (b5, if b then (dgC 6 (sol p E gq ld gc)).setIfInBounds (0 + (ld gq) * 1) (.int .u8 ((((p - E (gq) (gc)) % p : Nat) : Int))) else dgC 6 (sol p E gq ld gc)), none, e11_2] D2) hS (g_move hF rfl), fun a w2 b hF hS hb hd => by have hF := hF.ext1 47 (hd 1 rfl rfl rfl); have hM := hS; exact parS_call (S := fun (b : Bool) w2 => MemX (rowsX b0 m γ) w w2 [some (b1, ldB k ld), some (b5, if b then (dgC 6 (sol p E gq ld gc)).setIfInBounds (0 + (ld gq) * 1) (.int .u8 ((((p - E (gq) (gc)) % p : Nat) : Int))) else dgC 6 (sol p E gq ld gc)), none, e11_2] D2) (fun _ hx => hS.ext hx) (d_call Tryd.call95 hF (.cons rfl .nil) ((leadingPlace_row (γ' (gq)) (6) (hM.fzm (hRm _ (rowsD0_i (show gq < m by omega)))) (fun i hi => fnC_getE i (by omega) hi rfl) (by omega) hE (i := gq) (by omega)))), fun a w2 b hF hS hb hd => by exact parS_val (S := fun (b : Bool) w2 => MemX (rowsX b0 m γ) w w2 [some (b1, ldB k ld), some (b5, if b then (dgC 6 (sol p E gq ld gc)).setIfInBounds (0 + (ld gq) * 1) (.int .u8 ((((p - E (gq) (gc)) % p : Nat) : Int))) else dgC 6 (sol p E gq ld gc)), none, e11_2] D2) hS (g_move hF rfl), fun a w2 b hF hS hb hd => by exact parS_val (S := fun (b : Bool) w2 => MemX (rowsX b0 m γ) w w2 [some (b1, ldB k ld), some (b5, if b then (dgC 6 (sol p E gq ld gc)).setIfInBounds (0 + (ld gq) * 1) (.int .u8 ((((p - E (gq) (gc)) % p : Nat) : Int))) else dgC 6 (sol p E gq ld gc)), none, e11_2] D2) hS (g_move hF rfl), fun a w2 b hF hS hb hd => by have hF := hF.ext1 49 (hd 3 rfl rfl rfl); have hF := hF.ext1 50 (hd 4 rfl rfl rfl); exact parS_val (S := fun (b : Bool) w2 => MemX (rowsX b0 m γ) w w2 [some (b1, ldB k ld), some (b5, if b then (dgC 6 (sol p E gq ld gc)).setIfInBounds (0 + (ld gq) * 1) (.int .u8 ((((p - E (gq) (gc)) % p : Nat) : Int))) else dgC 6 (sol p E gq ld gc)), none, e11_2] D2) hS (g_indexSl (i := gc) ty_sl_85 hF rfl rfl rfl (by omega)), fun a w2 b hF hS hb hd => by have hF := hF.ext1 51 (hd 5 rfl rfl rfl); obtain rfl := hb rfl; have hM : MemX (rowsX b0 m γ) w w2 [some (b1, ldB k ld), some (b5, dgC 6 (sol p E gq ld gc)), none, e11_2] D2 := hS; exact parS_val (S := fun (b : Bool) w2 => MemX (rowsX b0 m γ) w w2 [some (b1, ldB k ld), some (b5, if b then (dgC 6 (sol p E gq ld gc)).setIfInBounds (0 + (ld gq) * 1) (.int .u8 ((((p - E (gq) (gc)) % p : Nat) : Int))) else dgC 6 (sol p E gq ld gc)), none, e11_2] D2) (b := false) hS (g_load ty_on_5 hF rfl (hM.fzm (hRm _ (rowsD0_i (show gq < m by omega)))) (fnC_getE (gc) (by omega) (by omega) rfl)), fun a w2 b hF hS hb hd => by have hF := hF.ext1 52 (hd 6 rfl rfl rfl); exact parS_val (S := fun (b : Bool) w2 => MemX (rowsX b0 m γ) w w2 [some (b1, ldB k ld), some (b5, if b then (dgC 6 (sol p E gq ld gc)).setIfInBounds (0 + (ld gq) * 1) (.int .u8 ((((p - E (gq) (gc)) % p : Nat) : Int))) else dgC 6 (sol p E gq ld gc)), none, e11_2] D2) hS (g_conv ty_un_2 ty_ud_5 hF rfl (wrap_i64 (by omega) (by omega))), fun a w2 b hF hS hb hd => by have hF := hF.ext1 53 (hd 7 rfl rfl rfl); exact parS_val (S := fun (b : Bool) w2 => MemX (rowsX b0 m γ) w w2 [some (b1, ldB k ld), some (b5, if b then (dgC 6 (sol p E gq ld gc)).setIfInBounds (0 + (ld gq) * 1) (.int .u8 ((((p - E (gq) (gc)) % p : Nat) : Int))) else dgC 6 (sol p E gq ld gc)), none, e11_2] D2) hS (g_neg hF rfl (wrap_i64 (by omega) (by omega))), fun a w2 b hF hS hb hd => by exact parS_val (S := fun (b : Bool) w2 => MemX (rowsX b0 m γ) w w2 [some (b1, ldB k ld), some (b5, if b then (dgC 6 (sol p E gq ld gc)).setIfInBounds (0 + (ld gq) * 1) (.int .u8 ((((p - E (gq) (gc)) % p : Nat) : Int))) else dgC 6 (sol p E gq ld gc)), none, e11_2] D2) hS (g_move hF rfl), fun a w2 b hF hS hb hd => by have hF := hF.ext1 54 (hd 8 rfl rfl rfl); have hF := hF.ext1 55 (hd 9 rfl rfl rfl); exact parS_call (S := fun (b : Bool) w2 => MemX (rowsX b0 m γ) w w2 [some (b1, ldB k ld), some (b5, if b then (dgC 6 (sol p E gq ld gc)).setIfInBounds (0 + (ld gq) * 1) (.int .u8 ((((p - E (gq) (gc)) % p : Nat) : Int))) else dgC 6 (sol p E gq ld gc)), none, e11_2] D2) (fun _ hx => hS.ext hx) (d_call Tryd.call96 hF (.cons rfl (.cons rfl .nil)) ((CallsR.val (residue_ok (-(((E (gq) (gc) : Nat) : Int))) (p) _ (by omega) (by omega) (by omega) (by omega)) (congrArg (Value.int .u8) (neg_mod (by omega) (by omega)))))), fun a w2 b hF hS hb hd => by have hF := hF.ext1 46 (hd 0 rfl rfl rfl); have hF := hF.ext1 48 (hd 2 rfl rfl rfl); exact parS_val (S := fun (b : Bool) w2 => MemX (rowsX b0 m γ) w w2 [some (b1, ldB k ld), some (b5, if b then (dgC 6 (sol p E gq ld gc)).setIfInBounds (0 + (ld gq) * 1) (.int .u8 ((((p - E (gq) (gc)) % p : Nat) : Int))) else dgC 6 (sol p E gq ld gc)), none, e11_2] D2) hS (g_indexSl (i := ld (gq)) ty_sl_85 hF rfl rfl rfl (by omega)), fun a w2 hF hS hd => by have hF := hF.ext1 56 (hd 10 rfl rfl rfl); have hF := hF.ext1 57 (hd 11 rfl rfl rfl); have hM : MemX (rowsX b0 m γ) w w2 [some (b1, ldB k ld), some (b5, dgC 6 (sol p E gq ld gc)), none, e11_2] D2 := hS; exact d_store 1 hM rfl ty_on_5 hF rfl rfl rfl (by simp only [fnC_size, cells_size, vecC_size, tabC_size, planeC_size, dgC_size, numC_sz, ldB_size] <;> omega), trivial⟩ ?_
         intro a w' hF hS hq
         have hM : MemX (rowsX b0 m γ) w w' [some (b1, ldB k ld), some (b5, (dgC 6 (sol p E gq ld gc)).setIfInBounds (0 + (ld gq) * 1) (.int .u8 ((((p - E (gq) (gc)) % p : Nat) : Int)))), none, e11_2] D2 := hS
         refine wpList_nil (iN (tN (wp_region_lit ?_)))
         refine st hF (g_add hF rfl rfl (add_nat (gq) (1) (by omega))) rfl fun a hF => st hF (g_move hF rfl) rfl fun a hF => ?_
         refine wpList_nil (tN ?_)
         refine ⟨gq + 1, ⟨by omega, trivial, hF.sub _ (by repeat' constructor), ?_⟩, by omega⟩
         exact hM.rowc 1 rfl (dgC_set (m := 6) (k := ld gq) (f := (sol p E gq ld gc)) (g := sol p E (gq + 1) ld gc) (by omega) (congrArg Nat.cast (sol_at hE (by omega) hl).symm) (fun c hc he => sol_step hE (by omega) hl c he))
        ·
         obtain rfl : k = gq := by omega
         refine wp_exit (tX (tX ?_))
         refine ib_same ?_
         refine tN ?_
         have hgN := (hM.blk 1 _ _ rfl).1
         have hnb := fun i hi => (hM.froz _ _ (hB2.mem i hi)).2 1 b5 _ rfl
         have hM := hM.freeze 1 rfl
         have hB3 := (hB2.more (D' := (b5, dgC 6 (sol p E k ld gc)) :: D2) (fun x hx => List.mem_cons_of_mem _ hx)).snoc (r := sol p E k ld gc) rfl (List.mem_cons_self ..) hnb
         change MemX (rowsX b0 m γ) w _ [some (b1, ldB k ld), none, none, e11_2] ((b5, dgC 6 (sol p E k ld gc)) :: D2) at hM
         refine wp_region_lit ?_
         refine st hF (g_move hF rfl) rfl fun a hF => st hF (g_move hF rfl) rfl fun a hF => ?_
         refine stR hF (d_buildC 2 hM hF (build1 hF rfl) (ty_bsv_81 _ _ _)) rfl ?_
         rintro _ w' a ⟨b7, rfl, hM, -⟩ hF
         change MemX (rowsX b0 m γ) w w' [some (b1, ldB k ld), none, some (b7, #[.slice (some ⟨b5, 0, none⟩) (6) (6)]), e11_2] ((b5, dgC 6 (sol p E k ld gc)) :: D2) at hM
         refine stR hF (d_append (k := 3) (m := 1) (g := fun _ => .slice (some ⟨b5, 0, none⟩) (6) (6)) ty_si_81 rfl (by decide) hM rfl hF rfl rfl hsl (fun i hi => by rw [show i = 0 by omega]; exact (hM.row 2 rfl).cell 0) (fun _ _ => rfl) (by decide) (by unfold maxLen; omega) (by omega)) rfl ?_
         rintro u8 w' a ⟨e9, hM, hs10⟩ hF
         change MemX (rowsX b0 m γ) w w' [some (b1, ldB k ld), none, some (b7, #[.slice (some ⟨b5, 0, none⟩) (6) (6)]), e9] ((b5, dgC 6 (sol p E k ld gc)) :: D2) at hM
         refine st hF (g_assign hF rfl) rfl fun a hF => ?_
         refine wpList_nil (iN (tN (wp_region_lit ?_)))
         refine st hF (g_add hF rfl rfl (add_nat (gc) (1) (by omega))) rfl fun a hF => st hF (g_move hF rfl) rfl fun a hF => ?_
         refine wpList_nil (tN ?_)
         have hsl := (hs10).congr (g := fun i => .slice (some ⟨up β2 (nf k ld gc) b5 i, 0, none⟩) 6 6) (fun i hi => by
           by_cases e : i < nf k ld gc
           · rw [if_pos (by omega)]; simp only [up_ne (show i ≠ nf k ld gc by omega)]
           · rw [if_neg (by omega), show i = nf k ld gc by omega]; simp only [up_eq])
         have hM := hM.drop 2
         refine ⟨gc + 1, ⟨by omega, ((b5, dgC 6 (sol p E k ld gc)) :: D2), (up β2 (nf k ld gc) b5), (upE S (nf k ld gc) (sol p E k ld gc)), (by first | exact ⟨by rw [nf_lead hl]; exact hB2, solR_lead hS hl, hSp, hRm2, by rw [nf_lead hl]; exact hge2⟩ | exact ⟨by rw [nf_free hl]; exact hB3, solR_free hS, upE_small hSp (fun _ => sol_lt hp2), fun x hx => List.mem_cons_of_mem _ (hRm2 x hx), fun i hi => by rw [nf_free hl] at hi; unfold up; split; exact hgN; exact hge2 i (by omega)⟩), (u8), (e9), (by first | (rw [nf_free hl]; exact hsl) | (rw [nf_lead hl]; exact hsl)), hF.sub _ (by repeat' constructor), ?_⟩, by omega⟩
         exact hM
     ·
      obtain rfl : n = gc := by omega
      obtain ⟨bk, ck, csk, rfl, rfl, hsk⟩ := hsl.pos hnf
      have hgek := (hM.blk 3 _ _ rfl).1
      have hnbk : ∀ i, i < nf k ld n → β2 i ≠ bk := fun i hi e => (hM.froz _ _ (hB2.mem i hi)).2 3 bk _ rfl e.symm
      have hM := hM.freeze 3 rfl
      have hSo := hS
      have hS0 := solR_pad hEn hS
      generalize hN2 : nf k ld n = N2 at *
      have hM := hM.drop 0
      change MemX (rowsX b0 m γ) w _ [none, none, none, none] ((bk, csk) :: D2) at hM
      refine wp_exit (tX (tX ?_))
      refine ib_same ?_
      refine tN (sq (wp_region_lit ?_))
      refine st hF (g_move hF rfl) rfl fun a hF => st hF (g_move hF rfl) rfl fun a hF => ?_
      refine stR hF (d_callX Tryd.call94 hF (.cons rfl (.cons rfl .nil)) (reduceRows_ok p 6 N2 bk ck csk β2 S _ hp (by omega) (by omega) (by omega) hsk.le hSp (hM.fzm (List.mem_cons_self ..)) (by have := hsk.sz; have := hsk.le; omega) (fun i hi => hsk.get1 i hi) (fun i hi => hM.fzm (List.mem_cons_of_mem _ (hB2.mem i hi))) hB2.inj hnbk)) rfl ?_
      rintro _ w' a ⟨hx, k, E, γ', ld, cs', rfl, hkm, hE, hKer, hE1, hb0', hg0', hbr', hgX'⟩ hF
      have hM := hM.swapD (D' := (rowsD0 bk cs' 6 N2 γ' E)) hx (rowsX_all (Q := fun y => ∃ cs, (y, cs) ∈ (bk, csk) :: D2) ⟨_, List.mem_cons_self ..⟩ (fun i hi => ⟨_, List.mem_cons_of_mem _ (hB2.mem i hi)⟩)) (fun y hy => rowsX_all (Q := fun y => w.heap.size ≤ y ∨ y ∈ (rowsX b0 m γ)) hgek hge2 y hy) (rowsD0_all ⟨hb0', .inr (List.mem_cons_self ..)⟩ (fun i hi => ⟨hbr' i hi, hgX' i hi⟩))
      change MemX (rowsX b0 m γ) w w' [none, none, none, none] (rowsD0 bk cs' 6 N2 γ' E) at hM
      obtain ⟨hE2n, hK2n, hEz2⟩ := rref_pad hp hn hSp hS0 hE hKer
      have hIK := isKer_of hEn hKn hSo hE2n (by rw [hN2]; exact hK2n)
      have hr0 := hpos _ _ hIK
      have hszc := hM.bel.size
      refine stR hF (d_call Tryd.call118 hF (.cons rfl .nil) (vectorsOfC_ok k bk ck cs' (rowsD0 bk cs' 6 N2 γ' E) γ' E _ hr0 (by omega) (fun _ _ hm => hM.fzm hm) rowsD0_0 (fun i hi => hg0' i (by omega)) (fun i hi => rowsD0_i (by omega)))) rfl ?_
      rintro u w' a ⟨hx, hown⟩ hF
      have hown2 := ownSl_le hszc hown
      have hM := hM.ext hx
      refine st hF (g_assign hF rfl) rfl fun a hF => ?_
      refine wpList_nil (tN (wp_ret ?_))
      refine fin1 rfl hF.defers (res_tmp hF rfl) ⟨_, rfl, hM.bel, ?_⟩
      exact ⟨_, _, hIK, hEz2, by omega, hown2⟩

end Go.Proofs.YtbeodbfbfbefkaaDoor
