/- What functions of the program return, as walks over their operations; no statement of the seat is proved here. -/
import Derived.Test.YtbeodbfbfbefkaaDoorY1
import Derived.Test.YtbeodbfbfbefkaaDoorEch7
set_option linter.unusedVariables false
set_option linter.unusedSimpArgs false
namespace Go.Proofs.YtbeodbfbfbefkaaDoor
open Go Go.RowKit Go.Sw Go.Ech
open Classical
def spE (p n : Nat) (T : Nat → Nat → Nat → Nat) (uu : Nat → Nat) (K t : Nat) (i c : Nat) : Nat := addN p (powW (timesV p n T) uu (fun q => if q = c then 1 else 0) K) (fun q => if q = c then 1 else 0) (-((t : Nat) : Int)) i
theorem spE_lt {p n : Nat} {T : Nat → Nat → Nat → Nat} {uu : Nat → Nat} {K t : Nat} (hp : 0 < p) : ∀ i c, spE p n T uu K t i c < p := fun i c => addN_lt hp
theorem slAt_zero {b : Nat} {f : Nat → Value} : SlAt 1 (.slice (some ⟨b, 0, none⟩) 0 0) (some (b, #[])) 0 b 0 #[] f :=
  ⟨rfl, rfl, Nat.le_refl _, by unfold maxLen; omega, by decide, fun i hi => absurd hi (by omega)⟩
theorem eb_le {c : Nat} : ∀ q, (fun q => if q = c then 1 else 0 : Nat → Nat) q ≤ 255 := fun q => by dsimp only; split <;> omega

theorem l05Space_Y (p n : Nat) (T : Nat → Nat → Nat → Nat) (f : Nat → Nat) (K t : Nat) (w : World) (hp : primeN p) (hn0 : 0 < n) (hn : n ≤ 6) (hTp : ∀ i j k, T i j k < p) (hT0 : ∀ i j k, n ≤ k → T i j k = 0) (hf : ∀ i, f i ≤ 255) (uu : Nat → Nat) (huu : UnitI p n T uu) (hK : K ≤ 3000) (ht : t ≤ 1) (hne : ∀ k E ld, Rref p n E k ld → (∀ x, Ker p n E k x ↔ Ker p n (spE p n T uu K t) n x) → 0 < nf k ld n) (hpos : ∀ r V, IsKer p n (spE p n T uu K t) n r V → 0 < r) :
    CallsR Tryd.prog 37 #[.agg (algC (p : Int) (n : Int) T f), .int .i64 (((K : Nat) : Int)), .int .i64 (((t : Nat) : Int))] w (fun u w' => ∃ r V, IsKer p n (spE p n T uu K t) n r V ∧ OwnSl 6 w r (fun c => .int .u8 (((padN n V) (c / 6) (c % 6) : Nat) : Int)) u w') := by
  refine calls_fr [.agg (algC (p : Int) (n : Int) T f), .int .i64 (((K : Nat) : Int)), .int .i64 (((t : Nat) : Int))] Tryd.func37 rfl Tryd.ntmps37 rfl fun a hF => ?_
  have hM : Mem w w [none, none, none, none, none, none, none, none] [] := MemX.start w 8
  change Fr 67 a [(0, .agg (algC (p : Int) (n : Int) T f)), (1, .int .i64 (((K : Nat) : Int))), (2, .int .i64 (((t : Nat) : Int)))] at hF
  have hp2 := hp.two
  have hp13 := hp.le
  have hT : ∀ i j k, T i j k ≤ 255 := fun i j k => by have := hTp i j k; omega
  have hp2 := hp.two
  have hp13 := hp.le
  refine sq (wp_region_lit ?_)
  refine stR hF (d_box 0 hM hF rfl) rfl ?_
  rintro _ w' a ⟨b1, rfl, hM, -⟩ hF
  change Mem w w' [some (b1, algC (p : Int) (n : Int) T f), none, none, none, none, none, none, none] [] at hM
  refine st hF (g_assign hF rfl) rfl fun a hF => ?_
  refine wpList_nil (tN (sq (wp_region_lit ?_)))
  refine stR hF (d_buildC 1 hM hF rfl ty_bs0_73) rfl ?_
  rintro _ w' a ⟨b2, rfl, hM, -⟩ hF
  change Mem w w' [some (b1, algC (p : Int) (n : Int) T f), some (b2, #[]), none, none, none, none, none, none] [] at hM
  refine st hF (g_assign hF rfl) rfl fun a hF => ?_
  refine wpList_nil (tN (sq (sq (wp_region_lit ?_))))
  refine st hF (g_assign hF rfl) rfl fun a hF => ?_
  refine wpList_nil (tN (wp_block ?_))
  change Mem w _ [some (b1, algC (p : Int) (n : Int) T f), some (b2, #[]), none, none, none, none, none, none] [] at hM
  refine c_loop (fun (kk : Nat) a w' => kk ≤ n ∧ ∃ (D1 : Froz), ∃ (β : Nat → Nat), ∃ (κ : Nat → Nat), ∃ (C : Nat → Array Value), (RowsD D1 0 kk β κ C (fun i c => .int .i64 (((spE p n T uu K t) i c : Nat) : Int)) ∧ (∀ i j, i < kk → j < kk → β i = β j → i = j) ∧ ∀ i, i < kk → w.heap.size ≤ β i) ∧ ∃ (u7_1 : Value) (e7_1 : Option (Nat × Array Value)), Sl 1 u7_1 e7_1 (kk) (fun i => .slice (some ⟨β i, 0, none⟩) 0 (κ i)) ∧ Fr 67 a [(0, .agg (algC (p : Int) (n : Int) T f)), (1, .int .i64 (((K : Nat) : Int))), (2, .int .i64 (((t : Nat) : Int))), (3, ptr b1 (0)), (6, .slice none 0 0), (12, .slice (some ⟨b2, 0, none⟩) (0) (0)), (8, .int .i64 (((kk : Nat) : Int))), (7, u7_1)] ∧ Mem w w' [some (b1, algC (p : Int) (n : Int) T f), e7_1, none, none, none, none, none, none] D1) (fun kk => n - kk) 0 ?_ ?_
  ·
   refine ⟨by omega, [], (fun _ => 0), (fun _ => 0), (fun _ => #[]), ⟨RowsD.none, fun i j hi => absurd hi (by omega), fun i hi => absurd hi (by omega)⟩, (.slice (some ⟨b2, 0, none⟩) (0) (0)), (some (b2, #[])), Sl.empty _ _ _, hF.sub _ (by repeat' constructor), ?_⟩
   exact hM
  ·
   clear hF hM
   rintro gi a w' ⟨hgi, D1, β, κ, C, ⟨hR, hinj, hbg⟩, u7_1, e7_1, hsl, hF, hM⟩
   refine sq (sq (wp_region_lit ?_))
   refine st hF (g_move hF rfl) rfl fun a hF => st hF (g_fieldAddr ty_fo_32_1 hF rfl) rfl fun a hF => st hF (g_load ty_on_2 hF rfl (hM.row 0 rfl) (algC_n (by omega))) rfl fun a hF => st hF (g_lss hF rfl rfl) rfl fun a hF => ?_
   refine wpList_nil (tN ?_)
   refine c_cond hF rfl (fun h3 => ?_) (fun h3 => ?_)
   ·
    refine wp_skip (tN (sq (wp_block (wp_region_lit ?_))))
    refine st hF (g_move hF rfl) rfl fun a hF => ?_
    refine stR hF (d_buildC 2 hM hF rfl ty_bs0_70) rfl ?_
    rintro _ w' a ⟨b4, rfl, hM, -⟩ hF
    change Mem w w' [some (b1, algC (p : Int) (n : Int) T f), e7_1, some (b4, #[]), none, none, none, none, none] D1 at hM
    refine stR hF (d_buildC 3 hM hF (build1 hF rfl) (ty_bsv_73 _ _ _)) rfl ?_
    rintro _ w' a ⟨b5, rfl, hM, -⟩ hF
    change Mem w w' [some (b1, algC (p : Int) (n : Int) T f), e7_1, some (b4, #[]), some (b5, #[.slice (some ⟨b4, 0, none⟩) (0) (0)]), none, none, none, none] D1 at hM
    refine stR hF (d_append (k := 1) (m := 1) (g := fun _ => .slice (some ⟨b4, 0, none⟩) (0) (0)) ty_si_73 rfl (by decide) hM rfl hF rfl rfl hsl (fun i hi => by rw [show i = 0 by omega]; exact (hM.row 3 rfl).cell 0) (fun _ _ => rfl) (by decide) (by unfold maxLen; omega) (by omega)) rfl ?_
    rintro u6 w' a ⟨e7, hM, hs8⟩ hF
    change Mem w w' [some (b1, algC (p : Int) (n : Int) T f), e7, some (b4, #[]), some (b5, #[.slice (some ⟨b4, 0, none⟩) (0) (0)]), none, none, none, none] D1 at hM
    refine st hF (g_assign hF rfl) rfl fun a hF => ?_
    refine wpList_nil (iN (tN (wp_region_lit ?_)))
    refine st hF (g_move hF rfl) rfl fun a hF => st hF (g_add hF rfl rfl (add_nat (gi) (1) (by omega))) rfl fun a hF => st hF (g_assign hF rfl) rfl fun a hF => ?_
    refine wpList_nil (tN ?_)
    have hgN := hM.ge 2 rfl
    have hnb := fun i hi => (hM.froz _ _ (hR.mem i hi)).2 2 b4 _ rfl
    have hM := hM.freeze 2 rfl
    have hR2 := ((hR.more (D' := (b4, #[]) :: D1) (fun x hx => List.mem_cons_of_mem _ hx)).snoc (List.mem_cons_self ..) (slAt_zero (b := b4) (f := fun c => .int .i64 (((spE p n T uu K t) gi c : Nat) : Int)))).congr (g := (fun i c => .int .i64 (((spE p n T uu K t) i c : Nat) : Int))) (fun i hi c hc => absurd hc (by omega))
    have hsl := (hs8).congr (g := fun i => .slice (some ⟨up β gi b4 i, 0, none⟩) 0 (up κ gi 0 i)) (fun i hi => by
      by_cases e : i < gi
      · rw [if_pos (by omega)]; simp only [up_ne (show i ≠ gi by omega)]
      · rw [if_neg (by omega), show i = gi by omega]; simp only [up_eq])
    have hinj2 : ∀ i j, i < gi + 1 → j < gi + 1 → up β gi b4 i = up β gi b4 j → i = j := fun i j hi hj e => by
      by_cases e1 : i = gi <;> by_cases e2 : j = gi
      · omega
      · rw [e1, up_eq, up_ne e2] at e; exact absurd e (hnb j (by omega))
      · rw [e2, up_eq, up_ne e1] at e; exact absurd e.symm (hnb i (by omega))
      · rw [up_ne e1, up_ne e2] at e; exact hinj i j (by omega) (by omega) e
    have hbg2 : ∀ i, i < gi + 1 → w.heap.size ≤ up β gi b4 i := fun i hi => by
      unfold up; split
      · exact hgN
      · exact hbg i (by omega)
    have hM := hM.drop 3
    refine ⟨gi + 1, ⟨by omega, ((b4, #[]) :: D1), (up β gi b4), (up κ gi 0), (up C gi #[]), ⟨hR2, hinj2, hbg2⟩, (u6), (e7), hsl, hF.sub _ (by repeat' constructor), ?_⟩, by omega⟩
    exact hM
   ·
    obtain rfl : n = gi := by omega
    obtain ⟨bt, ct, cst, rfl, rfl, hst⟩ := hsl.pos hn0
    change Mem w _ [some (b1, algC (p : Int) (n : Int) T f), some (bt, cst), none, none, none, none, none, none] D1 at hM
    refine wp_exit (tX (tX ?_))
    refine ib_same ?_
    refine tN (sq (sq (wp_region_lit ?_)))
    refine st hF (g_assign hF rfl) rfl fun a hF => ?_
    refine wpList_nil (tN (wp_block ?_))
    change Mem w _ [some (b1, algC (p : Int) (n : Int) T f), some (bt, cst), none, none, none, none, none, none] D1 at hM
    refine c_loop (fun (kk : Nat) a w' => kk ≤ n ∧ ∃ (D2 : Froz), ∃ (β : Nat → Nat), ∃ (κ : Nat → Nat), ∃ (C : Nat → Array Value), ∃ (cs2 : Array Value), (n ≤ cs2.size ∧ (∀ i, i < n → cs2[0 + i * 1]? = some (.slice (some ⟨β i, 0, none⟩) kk (κ i))) ∧ RowsD D2 kk n β κ C (fun i c => .int .i64 (((spE p n T uu K t) i c : Nat) : Int)) ∧ (∀ i j, i < n → j < n → β i = β j → i = j) ∧ ∀ i, i < n → w.heap.size ≤ β i) ∧ Fr 67 a [(0, .agg (algC (p : Int) (n : Int) T f)), (1, .int .i64 (((K : Nat) : Int))), (2, .int .i64 (((t : Nat) : Int))), (3, ptr b1 (0)), (6, .slice none 0 0), (12, .slice (some ⟨b2, 0, none⟩) (0) (0)), (8, .int .i64 (((n : Nat) : Int))), (7, .slice (some ⟨bt, 0, none⟩) (n) (ct)), (13, .int .i64 (((n : Nat) : Int))), (14, ptr b1 (0 + 1)), (15, .int .i64 (((n : Nat) : Int))), (16, .bool (decide ((((n : Nat) : Int) : Int) < ((n : Nat) : Int)))), (9, .int .i64 (((kk : Nat) : Int)))] ∧ Mem w w' [some (b1, algC (p : Int) (n : Int) T f), some (bt, cs2), none, none, none, none, none, none] D2) (fun kk => n - kk) 0 ?_ ?_
    ·
     refine ⟨by omega, D1, β, κ, C, cst, ⟨by have := hst.sz; have := hst.le; omega, fun i hi => hst.get1 i hi, hR, hinj, hbg⟩, hF.sub _ (by repeat' constructor), ?_⟩
     exact hM
    ·
     clear hF hM
     rintro gj a w' ⟨hgj, D2, β, κ, C, cs2, ⟨hsz2, hgo, hR, hinj, hbg⟩, hF, hM⟩
     have hvt : ∀ c, powW (timesV p n T) uu (fun q => if q = gj then 1 else 0) K c ≤ 255 := powW_le (fun c => by have := huu.small c; omega) (fun x c => timesV_le (by omega) (by omega) x _ c) K
     refine sq (sq (wp_region_lit ?_))
     refine st hF (g_move hF rfl) rfl fun a hF => st hF (g_fieldAddr ty_fo_32_1 hF rfl) rfl fun a hF => st hF (g_load ty_on_2 hF rfl (hM.row 0 rfl) (algC_n (by omega))) rfl fun a hF => st hF (g_lss hF rfl rfl) rfl fun a hF => ?_
     refine wpList_nil (tN ?_)
     refine c_cond hF rfl (fun h9 => ?_) (fun h9 => ?_)
     ·
      refine wp_skip (tN (sq (wp_block (sq ?_))))
      refine c_par 13 [4] [.val (ptr b1 (0 + 0)), .val (.int .i64 (((p : Nat) : Int))), .val (.agg (algC (p : Int) (n : Int) T f)), .val (.int .i64 (((gj : Nat) : Int))), .val (.agg (vecC (fun c => if c = gj then 1 else 0))), .val (.int .i64 (((K : Nat) : Int))), .val (.agg (vecC (powW (timesV p n T) uu ((fun c => if c = gj then 1 else 0)) (K)))), .val (.int .i64 (((gj : Nat) : Int))), .val (.agg (vecC (fun c => if c = gj then 1 else 0))), .val (.int .i64 (((t : Nat) : Int))), .val (.int .i64 (-(((t : Nat) : Int)))), .val (.agg (vecC (addN p ((powW (timesV p n T) uu ((fun c => if c = gj then 1 else 0)) (K))) ((fun c => if c = gj then 1 else 0)) (-(((t : Nat) : Int)))))), .own 4 (fnC 6 (fun _ => .int .u8 (0))) (fun b => ptr b 0)] hmix rfl hF rfl hM ⟨fun a w gG hF hS hd => by exact par_val hS rfl (g_fieldAddr ty_fo_32_0 hF rfl), fun a w gG hF hS hd => by have hF := hF.ext1 29 (hd 0 rfl rfl); have hM := hS.mem rfl; exact par_val hS rfl (g_load ty_on_2 hF rfl (hM.row 0 rfl) (algC_p (by omega))), fun a w gG hF hS hd => by have hM := hS.mem rfl; exact par_val hS rfl (g_loadAgg ty_ag_32 hF rfl (hM.row 0 rfl) (by simp only [fnC_size, cells_size, vecC_size, tabC_size, planeC_size, dgC_size, numC_sz, ldB_size] <;> omega) (whole cells_size)), fun a w gG hF hS hd => by exact par_val hS rfl (g_move hF rfl), fun a w gG hF hS hd => by have hF := hF.ext1 32 (hd 3 rfl rfl); exact par_call (by repeat constructor) hS rfl (d_call Tryd.call60 hF (.cons rfl .nil) (l01Basis_ok (gj) _ (by omega))), fun a w gG hF hS hd => by exact par_val hS rfl (g_move hF rfl), fun a w gG hF hS hd => by have hF := hF.ext1 31 (hd 2 rfl rfl); have hF := hF.ext1 33 (hd 4 rfl rfl); have hF := hF.ext1 34 (hd 5 rfl rfl); exact par_call (by repeat constructor) hS rfl (d_call Tryd.call59 hF (.cons rfl (.cons rfl (.cons rfl .nil))) (l05Power_ok p n T f ((fun c => if c = gj then 1 else 0)) (K) _ hp hn0 hn hTp hT0 hf (fun i => by first | exact eb_le i | exact hvp _ _ i | exact hvt i | exact hv i) uu huu (by omega))), fun a w gG hF hS hd => by exact par_val hS rfl (g_move hF rfl), fun a w gG hF hS hd => by have hF := hF.ext1 36 (hd 7 rfl rfl); exact par_call (by repeat constructor) hS rfl (d_call Tryd.call60 hF (.cons rfl .nil) (l01Basis_ok (gj) _ (by omega))), fun a w gG hF hS hd => by exact par_val hS rfl (g_move hF rfl), fun a w gG hF hS hd => by have hF := hF.ext1 38 (hd 9 rfl rfl); exact par_val hS rfl (g_neg hF rfl (wrap_i64 (by omega) (by omega))), fun a w gG hF hS hd => by have hF := hF.ext1 30 (hd 1 rfl rfl); have hF := hF.ext1 35 (hd 6 rfl rfl); have hF := hF.ext1 37 (hd 8 rfl rfl); have hF := hF.ext1 39 (hd 10 rfl rfl); exact par_call (by repeat constructor) hS rfl (d_call Tryd.call38 hF (.cons rfl (.cons rfl (.cons rfl (.cons rfl .nil)))) (l01AddI_ok (p) ((powW (timesV p n T) uu ((fun c => if c = gj then 1 else 0)) (K))) ((fun c => if c = gj then 1 else 0)) (-(((t : Nat) : Int))) _ (by omega) (by omega) (by omega) (by omega) (fun i => by first | exact eb_le i | exact hvp _ _ i | exact hvt i | exact hv i) (fun i => by first | exact eb_le i | exact hvp _ _ i | exact hvt i | exact hv i))), fun a w gG hF hS hd => by exact par_own (by repeat constructor) hS rfl rfl rfl rfl (d_alloc 4 hS.1 ty_ze_30), trivial⟩ ?_
      intro a w' L hF hS hq
      have hF := hF.ext1 29 (hq 0 rfl rfl)
      have hF := hF.ext1 30 (hq 1 rfl rfl)
      have hF := hF.ext1 31 (hq 2 rfl rfl)
      have hF := hF.ext1 32 (hq 3 rfl rfl)
      have hF := hF.ext1 33 (hq 4 rfl rfl)
      have hF := hF.ext1 34 (hq 5 rfl rfl)
      have hF := hF.ext1 35 (hq 6 rfl rfl)
      have hF := hF.ext1 36 (hq 7 rfl rfl)
      have hF := hF.ext1 37 (hq 8 rfl rfl)
      have hF := hF.ext1 38 (hq 9 rfl rfl)
      have hF := hF.ext1 39 (hq 10 rfl rfl)
      have hF := hF.ext1 40 (hq 11 rfl rfl)
      obtain ⟨hM, hL⟩ := hS
      obtain ⟨b10, hptr, hkk⟩ := hq 12 rfl rfl
      have hF := hF.ext1 10 hptr
      have hL := hL.take hkk
      obtain rfl := hL.eq
      change Mem w w' [some (b1, algC (p : Int) (n : Int) T f), some (bt, cs2), none, none, some (b10, fnC 6 (fun _ => .int .u8 (0))), none, none, none] D2 at hM
      change wpList Tryd.prog _ _ [_] _ _
      refine stN hF (d_storeAgg 4 hM rfl ty_sz_30 hF rfl rfl (by first | exact vecC_one | exact cells_one | (refine fnC_one fun _ _ => ?_; first | rfl | (split <;> rfl))) (by simp only [fnC_size, cells_size, vecC_size, tabC_size, planeC_size, dgC_size, numC_sz, ldB_size]) (by simp only [fnC_size, cells_size, vecC_size, tabC_size, planeC_size, dgC_size, numC_sz, ldB_size] <;> omega) (splice_whole _ _ (by simp only [fnC_size, cells_size, vecC_size, tabC_size, planeC_size, dgC_size, numC_sz, ldB_size]))) ?_
      intro _ w' a hM hF
      change Mem w w' [some (b1, algC (p : Int) (n : Int) T f), some (bt, cs2), none, none, some (b10, vecC (addN p ((powW (timesV p n T) uu ((fun c => if c = gj then 1 else 0)) (K))) ((fun c => if c = gj then 1 else 0)) (-(((t : Nat) : Int))))), none, none, none] D2 at hM
      refine wpList_nil (tN (sq (wp_region_lit ?_)))
      refine st hF (g_assign hF rfl) rfl fun a hF => ?_
      refine wpList_nil (tN (wp_block ?_))
      change Mem w _ [some (b1, algC (p : Int) (n : Int) T f), some (bt, cs2), none, none, some (b10, vecC (addN p ((powW (timesV p n T) uu ((fun c => if c = gj then 1 else 0)) (K))) ((fun c => if c = gj then 1 else 0)) (-(((t : Nat) : Int))))), none, none, none] D2 at hM
      refine c_loop (fun (kk : Nat) a w' => kk ≤ n ∧ ∃ (D3 : Froz), ∃ (β3 : Nat → Nat), ∃ (κ3 : Nat → Nat), ∃ (C3 : Nat → Array Value), ∃ (cs3 : Array Value), (n ≤ cs3.size ∧ (∀ i, i < kk → cs3[0 + i * 1]? = some (.slice (some ⟨β3 i, 0, none⟩) (gj + 1) (κ3 i))) ∧ (∀ i, kk ≤ i → i < n → cs3[0 + i * 1]? = some (.slice (some ⟨β i, 0, none⟩) gj (κ i))) ∧ RowsD D3 (gj + 1) kk β3 κ3 C3 (fun i c => .int .i64 (((spE p n T uu K t) i c : Nat) : Int)) ∧ (∀ i, kk ≤ i → i < n → (β i, C i) ∈ D3) ∧ (∀ i, i < kk → ∀ j, kk ≤ j → j < n → β3 i ≠ β j) ∧ (∀ i j, i < kk → j < kk → β3 i = β3 j → i = j) ∧ ∀ i, i < kk → w.heap.size ≤ β3 i) ∧ Fr 67 a [(10, ptr b10 (0)), (40, .agg (vecC (addN p ((powW (timesV p n T) uu ((fun c => if c = gj then 1 else 0)) (K))) ((fun c => if c = gj then 1 else 0)) (-(((t : Nat) : Int)))))), (39, .int .i64 (-(((t : Nat) : Int)))), (38, .int .i64 (((t : Nat) : Int))), (37, .agg (vecC (fun c => if c = gj then 1 else 0))), (36, .int .i64 (((gj : Nat) : Int))), (35, .agg (vecC (powW (timesV p n T) uu ((fun c => if c = gj then 1 else 0)) (K)))), (34, .int .i64 (((K : Nat) : Int))), (33, .agg (vecC (fun c => if c = gj then 1 else 0))), (32, .int .i64 (((gj : Nat) : Int))), (31, .agg (algC (p : Int) (n : Int) T f)), (30, .int .i64 (((p : Nat) : Int))), (29, ptr b1 (0 + 0)), (0, .agg (algC (p : Int) (n : Int) T f)), (1, .int .i64 (((K : Nat) : Int))), (2, .int .i64 (((t : Nat) : Int))), (3, ptr b1 (0)), (6, .slice none 0 0), (12, .slice (some ⟨b2, 0, none⟩) (0) (0)), (8, .int .i64 (((n : Nat) : Int))), (7, .slice (some ⟨bt, 0, none⟩) (n) (ct)), (13, .int .i64 (((n : Nat) : Int))), (14, ptr b1 (0 + 1)), (15, .int .i64 (((n : Nat) : Int))), (16, .bool (decide ((((n : Nat) : Int) : Int) < ((n : Nat) : Int)))), (9, .int .i64 (((gj : Nat) : Int))), (23, .int .i64 (((gj : Nat) : Int))), (24, ptr b1 (0 + 1)), (25, .int .i64 (((n : Nat) : Int))), (26, .bool (decide ((((gj : Nat) : Int) : Int) < ((n : Nat) : Int)))), (11, .int .i64 (((kk : Nat) : Int)))] ∧ Mem w w' [some (b1, algC (p : Int) (n : Int) T f), some (bt, cs3), none, none, some (b10, vecC (addN p ((powW (timesV p n T) uu ((fun c => if c = gj then 1 else 0)) (K))) ((fun c => if c = gj then 1 else 0)) (-(((t : Nat) : Int))))), none, none, none] D3) (fun kk => n - kk) 0 ?_ ?_
      ·
       refine ⟨by omega, D2, (fun _ => 0), (fun _ => 0), (fun _ => #[]), cs2, ⟨hsz2, fun i hi => absurd hi (by omega), fun i _ hi => hgo i hi, RowsD.none, fun i _ hi => hR.mem i hi, fun i hi => absurd hi (by omega), fun i j hi => absurd hi (by omega), fun i hi => absurd hi (by omega)⟩, hF.sub _ (by repeat' constructor), ?_⟩
       exact hM
      ·
       clear hF hM
       rintro gk a w' ⟨hgk, D3, β3, κ3, C3, cs3, ⟨hsz3, hgo1, hgo2, hR3, hold, hsep3, hinj3, hbg3⟩, hF, hM⟩
       have hyl : addN p (powW (timesV p n T) uu (fun q => if q = gj then 1 else 0) K) (fun q => if q = gj then 1 else 0) (-((t : Nat) : Int)) gk < p := addN_lt (by omega)
       refine sq (sq (wp_region_lit ?_))
       refine st hF (g_move hF rfl) rfl fun a hF => st hF (g_fieldAddr ty_fo_32_1 hF rfl) rfl fun a hF => st hF (g_load ty_on_2 hF rfl (hM.row 0 rfl) (algC_n (by omega))) rfl fun a hF => st hF (g_lss hF rfl rfl) rfl fun a hF => ?_
       refine wpList_nil (tN ?_)
       refine c_cond hF rfl (fun h11 => ?_) (fun h11 => ?_)
       ·
        refine wp_skip (tN (sq (wp_block ?_)))
        have hmg := hold gk (Nat.le_refl _) (by omega)
        have hM := hM.thaw 7 hmg (hbg gk (by omega))
        refine c_drawH (S := fun (bb : Bool) (g : Own × Option (Nat × Nat × Array Value)) w2 => (MemX [] w w2 g.1 (offD D3 (β gk)) ∧ Same [5, 7] [some (b1, algC (p : Int) (n : Int) T f), some (bt, cs3), none, none, some (b10, vecC (addN p ((powW (timesV p n T) uu ((fun c => if c = gj then 1 else 0)) (K))) ((fun c => if c = gj then 1 else 0)) (-(((t : Nat) : Int))))), none, none, none] g.1) ∧ (bb = false → g.2 = none ∧ g.1[7]? = some (some (β gk, C gk))) ∧ (bb = true → ∃ b9 k9 c9, g.2 = some (b9, k9, c9) ∧ g.1[7]? = some (some (b9, c9)) ∧ SlAt 1 (.slice (some ⟨b9, 0, none⟩) (gj + 1) k9) (some (b9, c9)) (gj + 1) b9 k9 c9 (fun i => if i < gj * 1 then (fun c => .int .i64 (((spE p n T uu K t) (gk) c : Nat) : Int)) i else (fun _ => .int .i64 ((((spE p n T uu K t) (gk) (gj) : Nat)) : Int)) (i - gj * 1)))) 13 11 hmix rfl rfl rfl hF rfl (dstEvery_spec rfl) (_, none) ⟨⟨hM, (Same.refl [5, 7] ([some (b1, algC (p : Int) (n : Int) T f), some (bt, cs3), none, none, some (b10, vecC (addN p ((powW (timesV p n T) uu ((fun c => if c = gj then 1 else 0)) (K))) ((fun c => if c = gj then 1 else 0)) (-(((t : Nat) : Int))))), none, none, none])).set 7 rfl (some (β gk, C gk))⟩, fun _ => ⟨rfl, rfl⟩, fun e => by cases e⟩ (fun bb g w h => ⟨⟨h.1.1.ext (Below.drew (Below.refl _ _)), h.1.2⟩, h.2⟩) (fun i (g : Own × Option (Nat × Nat × Array Value)) u w2 => match i with | 0 => u = .slice (some ⟨bt, 0, none⟩) (n) (ct) | 1 => u = .int .i64 (((gk : Nat) : Int)) | 2 => u = .slice (some ⟨bt, 0, none⟩) (n) (ct) | 3 => u = .int .i64 (((gk : Nat) : Int)) | 4 => u = ptr bt (0 + (gk) * 1) | 5 => u = .slice (some ⟨β (gk), 0, none⟩) (gj) (κ (gk)) | 6 => u = .int .i64 (((gk : Nat) : Int)) | 7 => u = ptr b10 (0 + (gk) * 1) | 8 => u = .int .u8 ((((addN p ((powW (timesV p n T) uu ((fun c => if c = gj then 1 else 0)) (K))) ((fun c => if c = gj then 1 else 0)) (-(((t : Nat) : Int)))) (gk) : Nat) : Int)) | 9 => u = .int .i64 ((((addN p ((powW (timesV p n T) uu ((fun c => if c = gj then 1 else 0)) (K))) ((fun c => if c = gj then 1 else 0)) (-(((t : Nat) : Int)))) (gk) : Nat) : Int)) | 12 => u = ptr bt (0 + (gk) * 1) | 10 => ∃ b8, u = .slice (some ⟨b8, 0, none⟩) 1 1 ∧ g.1[5]? = some (some (b8, #[.int .i64 ((((spE p n T uu K t) (gk) (gj) : Nat)) : Int)])) | 11 => ∃ b9 k9 c9, g.2 = some (b9, k9, c9) ∧ u = .slice (some ⟨b9, 0, none⟩) (gj + 1) k9 | _ => True) ⟨fun a w2 bb g hF hS hb hd => by exact ph_val hS rfl (g_move hF rfl), fun a w2 bb g hF hS hb hd => by exact ph_val hS rfl (g_move hF rfl), fun a w2 bb g hF hS hb hd => by exact ph_val hS rfl (g_move hF rfl), fun a w2 bb g hF hS hb hd => by exact ph_val hS rfl (g_move hF rfl), fun a w2 bb g hF hS hb hd => by have hF := hF.ext1 49 (hd 2 rfl rfl); have hF := hF.ext1 50 (hd 3 rfl rfl); exact ph_val hS rfl (g_indexSl (i := gk) ty_sl_73 hF rfl rfl rfl (by omega)), fun a w2 bb g hF hS hb hd => by have hF := hF.ext1 51 (hd 4 rfl rfl); have hM := Par.mem (W := [5, 7]) hS.1 rfl; exact ph_val hS rfl (g_load ty_on_70 hF rfl (hM.row 1 rfl) (hgo2 (gk) (by omega) (by omega))), fun a w2 bb g hF hS hb hd => by exact ph_val hS rfl (g_move hF rfl), fun a w2 bb g hF hS hb hd => by have hF := hF.ext1 53 (hd 6 rfl rfl); exact ph_val hS rfl (g_indexAddr ty_ar_30 hF rfl rfl rfl (by omega)), fun a w2 bb g hF hS hb hd => by have hF := hF.ext1 54 (hd 7 rfl rfl); have hM := Par.mem (W := [5, 7]) hS.1 rfl; exact ph_val hS rfl (g_load ty_on_5 hF rfl (hM.row 4 rfl) (vecC_get (gk) (by omega) (by omega))), fun a w2 bb g hF hS hb hd => by have hF := hF.ext1 55 (hd 8 rfl rfl); exact ph_val hS rfl (g_conv ty_un_2 ty_ud_5 hF rfl (wrap_i64 (by omega) (by omega))), fun a w2 bb g hF hS hb hd => by
          have hF := hF.ext1 56 (hd 9 rfl rfl)
          obtain ⟨L9, r9⟩ := g
          have hl9 : L9.length = 8 := hS.1.2.1
          exact (d_buildC 5 hS.1.1 hF (build1 hF rfl) (ty_bs1_70 _)).mono fun u w3 ⟨b8, hu, hM, hx⟩ => ⟨(L9.set 5 (some (b8, #[.int .i64 ((((spE p n T uu K t) (gk) (gj) : Nat)) : Int)])), r9), ⟨⟨hM, hS.1.2.set 5 rfl _⟩, fun e => ⟨(hS.2.1 e).1, by show (L9.set _ _)[_]? = _; rw [List.getElem?_set_ne (by decide)]; exact (hS.2.1 e).2⟩, fun e => by
              obtain ⟨b9, k9, c9, h1, h2, h3⟩ := hS.2.2 e
              exact ⟨b9, k9, c9, h1, by show (L9.set _ _)[_]? = _; rw [List.getElem?_set_ne (by decide)]; exact h2, h3⟩⟩, ⟨b8, hu, by show (L9.set _ _)[_]? = _; rw [List.getElem?_set_self (by omega)]⟩, fun j u hj h => by rcases j with _ | _ | _ | _ | _ | _ | _ | _ | _ | _ | _ | _ | _ | j <;> first | exact h | exact absurd rfl hj⟩, fun a w2 g hF hS hd => by
          obtain ⟨b8, hu8, hL8⟩ := hd 10 rfl rfl
          have hF := hF.ext1 57 hu8
          have hF := hF.ext1 52 (hd 5 rfl rfl)
          obtain ⟨L9, r9⟩ := g
          have hl9 : L9.length = 8 := hS.1.2.1
          obtain ⟨h0, hQ⟩ := hS.2.1 rfl
          exact (d_append (k := 7) (N := gj) (m := 1) (f := (fun c => .int .i64 (((spE p n T uu K t) (gk) c : Nat) : Int))) (g := fun _ => .int .i64 ((((spE p n T uu K t) (gk) (gj) : Nat)) : Int)) ty_si_70 rfl (by decide) hS.1.1 hQ hF rfl rfl (.inr ⟨_, _, _, hR.sl gk (by omega)⟩) (fun i hi => by rw [show i = 0 by omega]; exact (hS.1.1.row 5 hL8).cell 0) (fun _ _ => rfl) (by decide) (by unfold maxLen; omega) (by omega)).mono fun u w3 ⟨ea, hM, hsa⟩ => by
            obtain ⟨b9, k9, c9, hu9, rfl, hsR⟩ := hsa.pos (by omega)
            subst hu9
            exact ⟨(L9.set 7 (some (b9, c9)), some (b9, k9, c9)), ⟨⟨hM, hS.1.2.set 7 rfl _⟩, (fun e => by cases e), fun _ => ⟨b9, k9, c9, rfl, by show (L9.set _ _)[_]? = _; rw [List.getElem?_set_self (by omega)], hsR⟩⟩, ⟨b9, k9, c9, rfl, rfl⟩, fun j u hj h => by rcases j with _ | _ | _ | _ | _ | _ | _ | _ | _ | _ | _ | _ | _ | j <;> first | exact h | exact absurd rfl hj | (obtain ⟨b7, h7, h6⟩ := h; exact ⟨b7, h7, by show (L9.set _ _)[_]? = _; rw [List.getElem?_set_ne (by decide)]; exact h6⟩) | (obtain ⟨b7, k7, c7, h7, h6⟩ := h; rw [show r9 = none from h0] at h7; cases h7)⟩, fun a w2 bb g hF hS hb hd => by have hF := hF.ext1 47 (hd 0 rfl rfl); have hF := hF.ext1 48 (hd 1 rfl rfl); exact ph_val hS rfl (g_indexSl (i := gk) ty_sl_73 hF rfl rfl rfl (by omega)), trivial⟩ ?_
        intro a w' g hF hS hq
        obtain ⟨L9, r9⟩ := g
        obtain ⟨bR, capR, csR, hr9, hLQ, hsR⟩ := hS.2.2 rfl
        obtain ⟨b8, hu8, hL8⟩ := hq 10 rfl rfl
        obtain ⟨b7, k7, c7, h7, hu7⟩ := hq 11 rfl rfl
        obtain ⟨rfl, rfl, rfl⟩ : bR = b7 ∧ capR = k7 ∧ csR = c7 := by rw [show r9 = _ from hr9] at h7; cases h7; exact ⟨rfl, rfl, rfl⟩
        have hF := hF.ext1 58 hu7
        have hF := hF.ext1 59 (hq 12 rfl rfl)
        obtain ⟨⟨hM, hL⟩, -⟩ := hS
        have hL := hL.take hL8
        have hL := hL.take hLQ
        obtain rfl := hL.eq
        change Mem w w' [some (b1, algC (p : Int) (n : Int) T f), some (bt, cs3), none, none, some (b10, vecC (addN p ((powW (timesV p n T) uu ((fun c => if c = gj then 1 else 0)) (K))) ((fun c => if c = gj then 1 else 0)) (-(((t : Nat) : Int))))), some (b8, #[.int .i64 ((((spE p n T uu K t) (gk) (gj) : Nat)) : Int)]), none, some (bR, csR)] (offD D3 (β gk)) at hM
        change wpList Tryd.prog _ _ [_] _ _
        refine stN hF (d_store 1 hM rfl ty_on_70 hF rfl rfl rfl (by first | omega | (simp only [fnC_size, cells_size, vecC_size, tabC_size, planeC_size, dgC_size, numC_sz, ldB_size] <;> omega) | simp)) ?_
        intro _ w' a hM hF
        change Mem w w' [some (b1, algC (p : Int) (n : Int) T f), some (bt, (cs3).setIfInBounds (0 + (gk) * 1) (.slice (some ⟨bR, 0, none⟩) (gj + 1) (capR))), none, none, some (b10, vecC (addN p ((powW (timesV p n T) uu ((fun c => if c = gj then 1 else 0)) (K))) ((fun c => if c = gj then 1 else 0)) (-(((t : Nat) : Int))))), some (b8, #[.int .i64 ((((spE p n T uu K t) (gk) (gj) : Nat)) : Int)]), none, some (bR, csR)] (offD D3 (β gk)) at hM
        refine wpList_nil (iN (tN (wp_region_lit ?_)))
        refine st hF (g_move hF rfl) rfl fun a hF => st hF (g_add hF rfl rfl (add_nat (gk) (1) (by omega))) rfl fun a hF => st hF (g_assign hF rfl) rfl fun a hF => ?_
        refine wpList_nil (tN ?_)
        have hgR := hM.ge 7 rfl
        have hnR : ∀ x ∈ offD D3 (β gk), bR ≠ x.1 := fun x hx => (hM.froz x.1 x.2 hx).2 7 bR _ rfl
        have hM := hM.freeze 7 rfl
        have hsR := hsR.congr (g := fun c => .int .i64 (((spE p n T uu K t) gk c : Nat) : Int)) (fun c hc => by
          by_cases e : c < gj
          · rw [if_pos (by omega)]
          · rw [if_neg (by omega), show c = gj by omega])
        have hm3 : ∀ i, i < gk → (β3 i, C3 i) ∈ offD D3 (β gk) := fun i hi => mem_offD.2 ⟨hR3.mem i hi, hsep3 i hi gk (Nat.le_refl _) (by omega)⟩
        have hR3 : RowsD ((bR, csR) :: offD D3 (β gk)) (gj + 1) gk β3 κ3 C3 (fun i c => .int .i64 (((spE p n T uu K t) i c : Nat) : Int)) := ⟨fun i hi => List.mem_cons_of_mem _ (hm3 i hi), hR3.sl⟩
        have hR3 := (hR3.snoc (List.mem_cons_self ..) hsR).congr (g := (fun i c => .int .i64 (((spE p n T uu K t) i c : Nat) : Int))) (fun i hi c hc => by
          by_cases e : i = gk
          · rw [e]; simp only [up_eq]
          · simp only [up_ne e])
        have hgo1 : ∀ i, i < gk + 1 → ((cs3).setIfInBounds (0 + (gk) * 1) (.slice (some ⟨bR, 0, none⟩) (gj + 1) (capR)))[0 + i * 1]? = some (.slice (some ⟨up β3 gk bR i, 0, none⟩) (gj + 1) (up κ3 gk capR i)) := fun i hi => by
          by_cases e : i = gk
          · rw [e, up_eq, up_eq, Array.getElem?_setIfInBounds_self_of_lt (by omega)]
          · rw [up_ne e, up_ne e, Array.getElem?_setIfInBounds_ne (by omega)]; exact hgo1 i (by omega)
        have hgo2 : ∀ i, gk + 1 ≤ i → i < n → ((cs3).setIfInBounds (0 + (gk) * 1) (.slice (some ⟨bR, 0, none⟩) (gj + 1) (capR)))[0 + i * 1]? = some (.slice (some ⟨β i, 0, none⟩) gj (κ i)) := fun i h1 h2 => by rw [Array.getElem?_setIfInBounds_ne (by omega)]; exact hgo2 i (by omega) h2
        have hold2 : ∀ i, gk + 1 ≤ i → i < n → (β i, C i) ∈ offD D3 (β gk) := fun i h1 h2 => mem_offD.2 ⟨hold i (by omega) h2, fun e => by have := hinj i gk h2 (by omega) e; omega⟩
        have hsep3 : ∀ i, i < gk + 1 → ∀ j, gk + 1 ≤ j → j < n → up β3 gk bR i ≠ β j := fun i hi j h1 h2 => by
          unfold up; split
          · exact hnR _ (hold2 j h1 h2)
          · exact hsep3 i (by omega) j (by omega) h2
        have hinj3 : ∀ i j, i < gk + 1 → j < gk + 1 → up β3 gk bR i = up β3 gk bR j → i = j := fun i j hi hj e => by
          by_cases e1 : i = gk <;> by_cases e2 : j = gk
          · omega
          · rw [e1, up_eq, up_ne e2] at e; exact absurd e (hnR _ (hm3 j (by omega)))
          · rw [e2, up_eq, up_ne e1] at e; exact absurd e.symm (hnR _ (hm3 i (by omega)))
          · rw [up_ne e1, up_ne e2] at e; exact hinj3 i j (by omega) (by omega) e
        have hbg3 : ∀ i, i < gk + 1 → w.heap.size ≤ up β3 gk bR i := fun i hi => by
          unfold up; split
          · exact hgR
          · exact hbg3 i (by omega)
        have hM := hM.drop 5
        refine ⟨gk + 1, ⟨by omega, ((bR, csR) :: offD D3 (β gk)), (up β3 gk bR), (up κ3 gk capR), (up C3 gk csR), ((cs3).setIfInBounds (0 + (gk) * 1) (.slice (some ⟨bR, 0, none⟩) (gj + 1) (capR))), ⟨by rw [Array.size_setIfInBounds]; exact hsz3, hgo1, hgo2, hR3, fun i h1 h2 => List.mem_cons_of_mem _ (hold2 i h1 h2), hsep3, hinj3, hbg3⟩, hF.sub _ (by repeat' constructor), ?_⟩, by omega⟩
        exact hM
       ·
        obtain rfl : n = gk := by omega
        refine wp_exit (tX (tX ?_))
        refine ib_same ?_
        refine iN (tN (wp_region_lit ?_))
        refine st hF (g_move hF rfl) rfl fun a hF => st hF (g_add hF rfl rfl (add_nat (gj) (1) (by omega))) rfl fun a hF => st hF (g_assign hF rfl) rfl fun a hF => ?_
        refine wpList_nil (tN ?_)
        have hM := hM.drop 4
        refine ⟨gj + 1, ⟨by omega, D3, β3, κ3, C3, cs3, ⟨hsz3, fun i hi => hgo1 i hi, hR3, hinj3, hbg3⟩, hF.sub _ (by repeat' constructor), ?_⟩, by omega⟩
        exact hM
     ·
      obtain rfl : n = gj := by omega
      refine wp_exit (tX (tX ?_))
      refine ib_same ?_
      refine tN (sq ?_)
      have hRm : ∀ x ∈ D2, x ∈ (bt, cs2) :: D2 := fun x hx => List.mem_cons_of_mem _ hx
      have hM := hM.freeze 1 rfl
      change Mem w _ [some (b1, algC (p : Int) (n : Int) T f), none, none, none, none, none, none, none] ((bt, cs2) :: D2) at hM
      have hb0 : (bt, cs2) ∈ (bt, cs2) :: D2 := List.mem_cons_self ..
      refine wp_region_lit ?_
      refine st hF (g_fieldAddr ty_fo_32_0 hF rfl) rfl fun a hF => st hF (g_load ty_on_2 hF rfl (hM.row 0 rfl) (algC_p (by omega))) rfl fun a hF => st hF (g_fieldAddr ty_fo_32_1 hF rfl) rfl fun a hF => st hF (g_load ty_on_2 hF rfl (hM.row 0 rfl) (algC_n (by omega))) rfl fun a hF => st hF (g_move hF rfl) rfl fun a hF => ?_
      refine stR hF (d_call Tryd.call62 hF (.cons rfl (.cons rfl (.cons rfl .nil))) (l01Kernel_ok p n (n) (bt) (ct) (cs2) ((bt, cs2) :: D2) β κ C (spE p n T uu K t) _ hp hn0 hn (by omega) (spE_lt (by omega)) (fun _ _ hm => hM.fzm hm) hb0 (fun i hi => (fun i hi => hgo i hi) i hi) (hR.more hRm) hne)) rfl ?_
      rintro u w' a ⟨hx, hr⟩ hF
      have hr := (KerRel.of) hM hr
      have hM := hM.ext hx
      obtain ⟨r, V, hIK, hV, hrn, hrr⟩ := hr
      obtain ⟨DV, β9, κ9, C9, ob9, oc9, ocs9, hR9, hos9, hom9, hbg9, hobg9, hM⟩ := hM.addR hrr
      obtain rfl := hos9.val
      have hRm9 : ∀ x ∈ (DV ++ ((bt, cs2) :: D2)), x ∈ (DV ++ ((bt, cs2) :: D2)) := fun _ h => h
      have hr0 := hpos r V hIK
      refine stR hF (d_callOwn (k := 6) hM (d_call Tryd.call61 hF (.cons rfl .nil) (l01Vectors_ok p n (r) (ob9) (oc9) (ocs9) (DV ++ ((bt, cs2) :: D2)) β9 κ9 C9 V _ hp13 hn0 hn hr0 (by omega) hV (fun _ _ hm => hM.fzm hm) hom9 (fun i hi => hos9.get1 i hi) (hR9.more hRm9)))) rfl ?_
      rintro u w' a ⟨b12, cap13, cs14, hs15, hM, -⟩ hF
      obtain rfl := hs15.val
      change Mem w w' [some (b1, algC (p : Int) (n : Int) T f), none, none, none, none, none, some (b12, cs14), none] (DV ++ ((bt, cs2) :: D2)) at hM
      refine st hF (g_assign hF rfl) rfl fun a hF => ?_
      refine wpList_nil (tN (wp_ret ?_))
      refine fin1 rfl hF.defers (res_tmp hF rfl) ⟨_, rfl, hM.below, ?_⟩
      exact ⟨r, V, hIK, _, _, _, hs15, hM.ge 6 rfl, hM.row 6 rfl⟩

end Go.Proofs.YtbeodbfbfbefkaaDoor
