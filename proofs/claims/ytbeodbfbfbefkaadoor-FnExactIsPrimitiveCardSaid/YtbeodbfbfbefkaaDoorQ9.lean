/- What functions of the program return, as walks over their operations; no statement of the seat is proved here. -/
import Derived.Test.YtbeodbfbfbefkaaDoorQ7
import Derived.Test.YtbeodbfbfbefkaaDoorSw39
set_option linter.unusedVariables false
set_option linter.unusedSimpArgs false
namespace Go.Proofs.YtbeodbfbfbefkaaDoor
open Go Go.RowKit Go.Sw Go.Ech
open Classical
theorem slAt_numC {b m : Nat} {f : Nat → Nat} (h : m ≤ maxLen) : SlAt 1 (.slice (some ⟨b, 0, none⟩) m m) (some (b, numC m f)) m b m (numC m f) (fun c => .int .i64 ((f c : Nat) : Int)) :=
  ⟨rfl, rfl, Nat.le_refl _, h, by rw [Nat.mul_one]; exact fnC_size _ _, fun i hi => numC_get rfl (by omega)⟩
theorem echOut {w0 w w' : World} {L : Own} {D : Froz} {p N m : Nat} {M : Nat → Nat → Nat} {u : Value} (hM : MemX [] w0 w L D) (h : ∃ k E ld, Rref p N E k ld ∧ (∀ x, Ker p N E k x ↔ Ker p N M m x) ∧ (∀ i c, E i c < p) ∧ k ≤ m ∧ RowsOut w w' N k (fun i c => .int .i64 ((E i c : Nat) : Int)) u) :
    ∃ k E ld, Rref p N E k ld ∧ (∀ x, Ker p N E k x ↔ Ker p N M m x) ∧ (∀ i c, E i c < p) ∧ k ≤ m ∧ RowsOut w0 w' N k (fun i c => .int .i64 ((E i c : Nat) : Int)) u := by
  obtain ⟨k, E, ld, h1, h2, h3, h4, h5⟩ := h
  exact ⟨k, E, ld, h1, h2, h3, h4, rowsOut_le hM.bel.size h5⟩
theorem solR_zero {p k : Nat} {E S : Nat → Nat → Nat} {ld : Nat → Nat} : SolR p 0 E k ld S := fun c hc => absurd hc (by omega)
theorem solR_lead {p k c : Nat} {E S : Nat → Nat → Nat} {ld : Nat → Nat} (h : SolR p c E k ld S) (hl : isLd k ld c) : SolR p (c + 1) E k ld S := fun d hd hf e => by
  by_cases hc : d = c
  · subst hc; exact absurd hl hf
  · exact h d (by omega) hf e
theorem solR_free {p k c : Nat} {E S : Nat → Nat → Nat} {ld : Nat → Nat} (h : SolR p c E k ld S) : SolR p (c + 1) E k ld (upE S (nf k ld c) (sol p E k ld c)) := fun d hd hf e => by
  unfold upE
  by_cases hc : d = c
  · subst hc; rw [if_pos rfl]
  · have := nf_lt (k := k) (ld := ld) (show d < c by omega) hf
    rw [if_neg (by omega)]; exact h d (by omega) hf e
theorem upE_small {p m : Nat} {S : Nat → Nat → Nat} {r : Nat → Nat} (h : ∀ i c, S i c < p) (hr : ∀ c, r c < p) : ∀ i c, upE S m r i c < p := fun i c => by
  unfold upE; split
  · exact hr c
  · exact h i c
def owF (p : Nat) (E : Nat → Nat → Nat) (k : Nat) (ld : Nat → Nat) (c q d : Nat) : Nat := if d < q then sol p E k ld c d else if d = c then 1 else 0
theorem ow_yes {p k c q : Nat} {E : Nat → Nat → Nat} {ld : Nat → Nat} (hl : 0 < lv ld k q) (hne : q ≠ c) (d : Nat) : (if d = q then (p - E (lv ld k q - 1) c) % p else owF p E k ld c q d) = owF p E k ld c (q + 1) d := by
  unfold owF
  by_cases e : d = q
  · subst e; rw [if_pos rfl, if_pos (by omega), sol_lead hl hne]
  · have e0 : (d < q + 1) = (d < q) := by apply propext; omega
    simp only [if_neg e, e0]
theorem ow_no {p k c q : Nat} {E : Nat → Nat → Nat} {ld : Nat → Nat} (hl : ¬ 0 < lv ld k q) (d : Nat) : owF p E k ld c q d = owF p E k ld c (q + 1) d := by
  unfold owF
  by_cases e : d = q
  · subst e; rw [if_neg (Nat.lt_irrefl d), if_pos (Nat.lt_succ_self d), sol_free hl]
  · have e0 : (d < q + 1) = (d < q) := by apply propext; omega
    simp only [e0]

theorem numC_sz {m : Nat} {f : Nat → Nat} : (numC m f).size = m := fnC_size _ _

theorem l01Kernel_ok (p n m b0 c0 : Nat) (cs0 : Array Value) (D0 : Froz) (β0 κ0 : Nat → Nat) (C0 : Nat → Array Value) (M : Nat → Nat → Nat) (w : World) (hp : primeN p) (hn0 : 0 < n) (hn : n ≤ 6) (hm2 : m < 1000) (hM1 : ∀ i c, M i c < p) (hD0 : ∀ b cs, (b, cs) ∈ D0 → Blk w b cs) (hb0 : (b0, cs0) ∈ D0) (hg0 : ∀ i, i < m → cs0[0 + i * 1]? = some (.slice (some ⟨β0 i, 0, none⟩) n (κ0 i))) (hR0 : RowsD D0 n m β0 κ0 C0 (fun i c => .int .i64 ((M i c : Nat) : Int))) (hne : ∀ k E ld, Rref p n E k ld → (∀ x, Ker p n E k x ↔ Ker p n M m x) → 0 < nf k ld n) :
    CallsR Tryd.prog 62 #[.int .i64 (((p : Nat) : Int)), .int .i64 (((n : Nat) : Int)), .slice (some ⟨b0, 0, none⟩) (m) (c0)] w (fun u w' => ∃ r V, IsKer p n M m r V ∧ (∀ i c, V i c < p) ∧ r ≤ n ∧ RowsOut w w' n r (fun i c => .int .i64 ((V i c : Nat) : Int)) u) := by
  refine calls_fr [.int .i64 (((p : Nat) : Int)), .int .i64 (((n : Nat) : Int)), .slice (some ⟨b0, 0, none⟩) (m) (c0)] Tryd.func62 rfl Tryd.ntmps62 rfl fun a hF => ?_
  have hM : Mem w w [none, none, none, none] D0 := MemX.startD w 4 _ hD0
  change Fr 84 a [(0, .int .i64 (((p : Nat) : Int))), (1, .int .i64 (((n : Nat) : Int))), (2, .slice (some ⟨b0, 0, none⟩) (m) (c0))] at hF
  have hp2 := hp.two
  have hp13 := hp.le
  have hDD : ∀ x ∈ D0, x ∈ D0 := fun _ h => h
  refine sq (wp_region_lit ?_)
  refine st hF (g_assign hF rfl) rfl fun a hF => ?_
  refine wpList_nil (tN (sq ?_))
  refine c_par 8 [1] [.val (.int .i64 ((p : Nat) : Int)), .val (.slice (some ⟨b0, 0, none⟩) (m) (c0)), .rel (KRel w p n (m) M), .rel (EmpN w), .val (.int .i64 ((n : Nat) : Int)), .own 1 (numC n (fun _ => 0)) (fun b => .slice (some ⟨b, 0, none⟩) n n), .rel (KRel w p n (m) M), .rel (EmpN w)] hmix rfl hF rfl hM ⟨fun a w gG hF hS hd => by exact par_val hS rfl (g_move hF rfl), fun a w gG hF hS hd => by exact par_val hS rfl (g_move hF rfl), fun a w gG hF hS hd => by have hF := hF.ext1 14 (hd 0 rfl rfl); have hF := hF.ext1 15 (hd 1 rfl rfl); have hM := hS.mem rfl; exact par_rel (by exact ⟨fun _ _ _ h hx => h.last hx, fun _ _ _ h hx => h.last hx, fun _ _ _ h hx => h.last hx, fun _ _ _ h hx => h.last hx, trivial⟩) hS rfl (d_call Tryd.call88 hF (.cons rfl (.cons rfl .nil)) (l01Echelon_ok p n (m) (b0) (c0) (cs0) D0 β0 κ0 C0 M _ hp (by omega) (by omega) (by omega) hM1 (fun _ _ hm => hM.fzm hm) (hDD _ hb0) (fun i hi => hg0 i hi) (hR0.more hDD))) (fun _ _ hr => KRel.of hM hr), fun a w gG hF hS hd => by exact par_rel (by exact ⟨fun _ _ _ h hx => h.last hx, fun _ _ _ h hx => h.last hx, fun _ _ _ h hx => h.last hx, fun _ _ _ h hx => h.last hx, trivial⟩) hS rfl (EmpN.build (k := 0) (by rw [hS.2.1]; decide) (d_buildC (vs := []) 0 hS.1 hF rfl ty_bs0_73)) (fun _ _ hr => hr), fun a w gG hF hS hd => by exact par_val hS rfl (g_move hF rfl), fun a w gG hF hS hd => by have hF := hF.ext1 18 (hd 4 rfl rfl); exact par_own (by exact ⟨fun _ _ _ h hx => h.last hx, fun _ _ _ h hx => h.last hx, fun _ _ _ h hx => h.last hx, fun _ _ _ h hx => h.last hx, trivial⟩) hS rfl rfl rfl rfl (d_make1b (len := n) 1 hS.1 hF ty_si_70 rfl rfl rfl (by omega) (by decide)), fun a w gG hF hS hd => by have hF := hF.ext1 16 (v := a.tmps.getD 16 undef) rfl; exact par_relG hS rfl (g_assign hF rfl) (hd 2 rfl rfl), fun a w gG hF hS hd => by have hF := hF.ext1 17 (v := a.tmps.getD 17 undef) rfl; exact par_relG hS rfl (g_assign hF rfl) (hd 3 rfl rfl), trivial⟩ ?_
  intro a w' L hF hS hq
  obtain ⟨hM, hL⟩ := hS
  obtain ⟨bl, hptr, hkk⟩ := hq 5 rfl rfl
  have hF := hF.ext1 19 hptr
  have hL := hL.take hkk
  obtain rfl := hL.eq
  change Mem w w' [none, some (bl, numC n (fun _ => 0)), none, none] D0 at hM
  obtain ⟨k, E, ld, hE, hKer, hE1, hkm, hrr⟩ := (hq 6 rfl rfl : KRel _ _ _ _ _ _ _)
  have hLz : ∀ (j : Nat) c ds, ([none, some (bl, numC n (fun _ => 0)), none, none] : Own)[j]? = some (some (c, ds)) → ds = numC n (fun _ => 0) := fun j c ds hj => by
    rcases j with _ | _ | _ | _ | _ | _ | j <;> simp at hj <;> exact hj.2.symm
  obtain ⟨DE, β, κ, C, ob, oc, ocs, be, hR, hos, hom, hue, hM⟩ := kern_put 0 hM hLz hn0 hE hrr (hq 7 rfl rfl) hD0
  have hF := hF.ext1 7 hos.val
  have hF := hF.ext1 8 hue
  have hRm : ∀ x ∈ DE ++ D0, x ∈ DE ++ D0 := fun _ h => h
  have hDD := fun x hx => List.mem_append_right DE (hDD x hx)
  change Mem w w' [some (be, #[]), some (bl, numC n (fun _ => 0)), none, none] (DE ++ D0) at hM
  change wpList Tryd.prog _ _ [_] _ _
  refine st hF (g_assign hF rfl) rfl fun a hF => ?_
  refine wpList_nil (tN (sq (sq (wp_region_lit ?_))))
  refine st hF (g_assign hF rfl) rfl fun a hF => ?_
  refine wpList_nil (tN (wp_block ?_))
  change Mem w _ [some (be, #[]), some (bl, numC n (fun _ => 0)), none, none] (DE ++ D0) at hM
  refine c_loop (fun (kk : Nat) a w' => kk ≤ k ∧ (True) ∧ Fr 84 a [(8, .slice (some ⟨be, 0, none⟩) (0) (0)), (7, .slice (some ⟨ob, 0, none⟩) (k) (oc)), (19, .slice (some ⟨bl, 0, none⟩) (n) (n)), (0, .int .i64 (((p : Nat) : Int))), (1, .int .i64 (((n : Nat) : Int))), (2, .slice (some ⟨b0, 0, none⟩) (m) (c0)), (6, .slice none 0 0), (9, .slice (some ⟨bl, 0, none⟩) (n) (n)), (10, .int .i64 (((kk : Nat) : Int)))] ∧ Mem w w' [some (be, #[]), some (bl, numC n (lv ld kk)), none, none] (DE ++ D0)) (fun kk => k - kk) 0 ?_ ?_
  ·
   refine ⟨by omega, trivial, hF.sub _ (by repeat' constructor), ?_⟩
   exact hM.rowc 1 rfl (numC_congr fun c hc => rfl)
  ·
   clear hF hM
   rintro gi a w' ⟨hgi, hinv1, hF, hM⟩
   have hlg : gi < k → ld gi < n := fun h => hE.lt gi h
   refine sq (sq (wp_region_lit ?_))
   refine st hF (g_move hF rfl) rfl fun a hF => st hF (g_move hF rfl) rfl fun a hF => st hF (g_len ty_us_73 hF rfl) rfl fun a hF => st hF (g_lss hF rfl rfl) rfl fun a hF => ?_
   refine wpList_nil (tN ?_)
   refine c_cond hF rfl (fun h1 => ?_) (fun h1 => ?_)
   ·
    refine wp_skip (tN (sq (wp_block (wp_region_lit ?_))))
    refine st hF (g_move hF rfl) rfl fun a hF => st hF (g_move hF rfl) rfl fun a hF => st hF (g_move hF rfl) rfl fun a hF => st hF (g_indexSl (i := gi) ty_sl_73 hF rfl rfl rfl (by omega)) rfl fun a hF => st hF (g_load ty_on_70 hF rfl (hM.fzm (hom (by omega))) (hos.get1 (gi) (by omega))) rfl fun a hF => ?_
    refine stR hF (d_call Tryd.call89 hF (.cons rfl .nil) ((l01Lead_row (β (gi)) (κ (gi)) (hM.fzm (hRm _ (hR.mem (gi) (by omega)))) (fun i hi => (hR.get (i := gi) (by omega) (i) hi)) (by omega) hE (i := gi) (by omega)))) rfl ?_
    rintro _ w' a ⟨hx, rfl⟩ hF
    have hM := hM.ext hx
    refine st hF (g_move hF rfl) rfl fun a hF => st hF (g_add hF rfl rfl (add_nat (gi) (1) (by omega))) rfl fun a hF => st hF (g_indexSl (i := ld (gi)) ty_sl_70 hF rfl rfl rfl (by omega)) rfl fun a hF => ?_
    refine stN hF (d_store 1 hM rfl ty_on_2 hF rfl rfl rfl (by first | omega | (simp only [fnC_size, cells_size, vecC_size, tabC_size, planeC_size, dgC_size, numC_sz] <;> omega) | simp)) ?_
    intro _ w' a hM hF
    rw [show (numC n (lv ld gi)).setIfInBounds (0 + (ld (gi)) * 1) (.int .i64 (((gi + 1 : Nat) : Int))) = numC n (fun c => if c = ld (gi) then gi + 1 else (lv ld gi) c) from numC_set (k := ld (gi)) (by omega) (fun c _ => rfl)] at hM
    change Mem w w' [some (be, #[]), some (bl, numC n (fun c => if c = ld (gi) then gi + 1 else (lv ld gi) c)), none, none] (DE ++ D0) at hM
    refine wpList_nil (iN (tN (wp_region_lit ?_)))
    refine st hF (g_move hF rfl) rfl fun a hF => st hF (g_add hF rfl rfl (add_nat (gi) (1) (by omega))) rfl fun a hF => st hF (g_assign hF rfl) rfl fun a hF => ?_
    refine wpList_nil (tN ?_)
    refine ⟨gi + 1, ⟨by omega, trivial, hF.sub _ (by repeat' constructor), ?_⟩, by omega⟩
    exact hM.rowc 1 rfl (numC_congr fun c hc => (lv_step hE (by omega) c).symm)
   ·
    obtain rfl : k = gi := by omega
    refine wp_exit (tX (tX ?_))
    refine ib_same ?_
    refine tN (sq (sq (wp_region_lit ?_)))
    refine st hF (g_assign hF rfl) rfl fun a hF => ?_
    refine wpList_nil (tN (wp_block ?_))
    change Mem w _ [some (be, #[]), some (bl, numC n (lv ld k)), none, none] (DE ++ D0) at hM
    refine c_loop (fun (kk : Nat) a w' => kk ≤ n ∧ ∃ (D2 : Froz), ∃ (β2 : Nat → Nat), ∃ (κ2 : Nat → Nat), ∃ (C2 : Nat → Array Value), ∃ (S : Nat → Nat → Nat), (RowsD D2 n (nf k ld kk) β2 κ2 C2 (fun i c => .int .i64 ((S i c : Nat) : Int)) ∧ SolR p kk E k ld S ∧ (∀ i c, S i c < p) ∧ ∀ x ∈ (DE ++ D0), x ∈ D2) ∧ ∃ (u8_2 : Value) (e8_2 : Option (Nat × Array Value)), Sl 1 u8_2 e8_2 (nf k ld kk) (fun i => .slice (some ⟨β2 i, 0, none⟩) n (κ2 i)) ∧ Fr 84 a [(7, .slice (some ⟨ob, 0, none⟩) (k) (oc)), (19, .slice (some ⟨bl, 0, none⟩) (n) (n)), (0, .int .i64 (((p : Nat) : Int))), (1, .int .i64 (((n : Nat) : Int))), (2, .slice (some ⟨b0, 0, none⟩) (m) (c0)), (6, .slice none 0 0), (9, .slice (some ⟨bl, 0, none⟩) (n) (n)), (10, .int .i64 (((k : Nat) : Int))), (20, .int .i64 (((k : Nat) : Int))), (21, .slice (some ⟨ob, 0, none⟩) (k) (oc)), (22, .int .i64 (((k : Nat) : Int))), (23, .bool (decide ((((k : Nat) : Int) : Int) < ((k : Nat) : Int)))), (11, .int .i64 (((kk : Nat) : Int))), (8, u8_2)] ∧ Mem w w' [e8_2, some (bl, numC n (lv ld k)), none, none] D2) (fun kk => n - kk) 0 ?_ ?_
    ·
     refine ⟨by omega, (DE ++ D0), (fun _ => 0), (fun _ => 0), (fun _ => #[]), (fun _ _ => 0), ⟨RowsD.none, solR_zero, fun _ _ => (by show 0 < p; omega), fun _ h => h⟩, (.slice (some ⟨be, 0, none⟩) (0) (0)), (some (be, #[])), Sl.empty _ _ _, hF.sub _ (by repeat' constructor), ?_⟩
     exact hM
    ·
     clear hF hM
     rintro gc a w' ⟨hgc, D2, β2, κ2, C2, S, ⟨hR2, hS, hSp, hRm2⟩, u8_2, e8_2, hsl, hF, hM⟩
     have hom := fun h => hRm2 _ (hom h)
     have hRm := hRm2
     have hncf := nf_le (k := k) (ld := ld) gc
     refine sq (sq (wp_region_lit ?_))
     refine st hF (g_move hF rfl) rfl fun a hF => st hF (g_move hF rfl) rfl fun a hF => st hF (g_lss hF rfl rfl) rfl fun a hF => ?_
     refine wpList_nil (tN ?_)
     refine c_cond hF rfl (fun h2 => ?_) (fun h2 => ?_)
     ·
      refine wp_skip (tN (sq (wp_block (sq (sq (wp_region_lit ?_))))))
      refine st hF (g_move hF rfl) rfl fun a hF => st hF (g_move hF rfl) rfl fun a hF => st hF (g_indexSl (i := gc) ty_sl_70 hF rfl rfl rfl (by omega)) rfl fun a hF => st hF (g_load ty_on_2 hF rfl (hM.row 1 rfl) (numC_get (k := gc) (by omega) (by omega))) rfl fun a hF => st hF (g_gtr hF rfl rfl) rfl fun a hF => ?_
      refine wpList_nil (tN ?_)
      refine c_cond hF rfl (fun h3 => ?_) (fun h3 => ?_)
      ·
       have hl : isLd k ld gc := lv_pos.1 (by omega)
       refine wp_exit (tX ?_)
       refine ib_same ?_
       refine tN (wp_region_lit ?_)
       refine st hF (g_move hF rfl) rfl fun a hF => st hF (g_add hF rfl rfl (add_nat (gc) (1) (by omega))) rfl fun a hF => st hF (g_assign hF rfl) rfl fun a hF => ?_
       refine wpList_nil (tN ?_)
       refine ⟨gc + 1, ⟨by omega, D2, β2, κ2, C2, S, (by first | exact ⟨by rw [nf_lead hl]; exact hR2, solR_lead hS hl, hSp, hRm2⟩ | exact ⟨by rw [nf_free hl]; exact hR4, solR_free hS, upE_small hSp (fun _ => sol_lt hp2), fun x hx => List.mem_cons_of_mem _ (hRm2 x hx)⟩), (u8_2), (e8_2), (by first | (rw [nf_free hl]; exact hsl) | (rw [nf_lead hl]; exact hsl)), hF.sub _ (by repeat' constructor), ?_⟩, by omega⟩
       exact hM
      ·
       have hl : ¬ isLd k ld gc := fun h => by have := lv_pos.2 h; omega
       refine wp_skip (tN (sq (wp_region_lit ?_)))
       refine st hF (g_move hF rfl) rfl fun a hF => ?_
       refine stR hF (d_make1b (len := n) 2 hM hF ty_si_70 rfl rfl rfl (by omega) (by decide)) rfl ?_
       rintro _ w' a ⟨b5, rfl, hM, -⟩ hF
       change Mem w w' [e8_2, some (bl, numC n (lv ld k)), some (b5, numC n (fun _ => 0)), none] D2 at hM
       refine st hF (g_assign hF rfl) rfl fun a hF => ?_
       refine wpList_nil (tN (sq (wp_region_lit ?_)))
       refine st hF (g_move hF rfl) rfl fun a hF => st hF (g_move hF rfl) rfl fun a hF => st hF (g_indexSl (i := gc) ty_sl_70 hF rfl rfl rfl (by omega)) rfl fun a hF => ?_
       refine stN hF (d_store 2 hM rfl ty_on_2 hF rfl rfl rfl (by first | omega | (simp only [fnC_size, cells_size, vecC_size, tabC_size, planeC_size, dgC_size, numC_sz] <;> omega) | simp)) ?_
       intro _ w' a hM hF
       rw [show (numC n (fun _ => 0)).setIfInBounds (0 + (gc) * 1) (.int .i64 (1)) = numC n (fun c => if c = gc then 1 else (fun _ => 0) c) from numC_set (k := gc) (by omega) (fun c _ => rfl)] at hM
       change Mem w w' [e8_2, some (bl, numC n (lv ld k)), some (b5, numC n (fun c => if c = gc then 1 else (fun _ => 0) c)), none] D2 at hM
       refine wpList_nil (tN (sq (sq (wp_region_lit ?_))))
       refine st hF (g_assign hF rfl) rfl fun a hF => ?_
       refine wpList_nil (tN (wp_block ?_))
       change Mem w _ [e8_2, some (bl, numC n (lv ld k)), some (b5, numC n (fun c => if c = gc then 1 else (fun _ => 0) c)), none] D2 at hM
       refine c_loop (fun (kk : Nat) a w' => kk ≤ n ∧ (True) ∧ Fr 84 a [(7, .slice (some ⟨ob, 0, none⟩) (k) (oc)), (19, .slice (some ⟨bl, 0, none⟩) (n) (n)), (0, .int .i64 (((p : Nat) : Int))), (1, .int .i64 (((n : Nat) : Int))), (2, .slice (some ⟨b0, 0, none⟩) (m) (c0)), (6, .slice none 0 0), (9, .slice (some ⟨bl, 0, none⟩) (n) (n)), (10, .int .i64 (((k : Nat) : Int))), (20, .int .i64 (((k : Nat) : Int))), (21, .slice (some ⟨ob, 0, none⟩) (k) (oc)), (22, .int .i64 (((k : Nat) : Int))), (23, .bool (decide ((((k : Nat) : Int) : Int) < ((k : Nat) : Int)))), (11, .int .i64 (((gc : Nat) : Int))), (8, u8_2), (35, .int .i64 (((gc : Nat) : Int))), (36, .int .i64 (((n : Nat) : Int))), (37, .bool (decide ((((gc : Nat) : Int) : Int) < ((n : Nat) : Int)))), (40, .slice (some ⟨bl, 0, none⟩) (n) (n)), (41, .int .i64 (((gc : Nat) : Int))), (42, ptr bl (0 + (gc) * 1)), (43, .int .i64 ((((lv ld k) (gc) : Nat) : Int))), (44, .bool (decide (0 < ((((lv ld k) (gc) : Nat) : Int) : Int)))), (45, .int .i64 (((n : Nat) : Int))), (46, .slice (some ⟨b5, 0, none⟩) (n) (n)), (12, .slice (some ⟨b5, 0, none⟩) (n) (n)), (47, .slice (some ⟨b5, 0, none⟩) (n) (n)), (48, .int .i64 (((gc : Nat) : Int))), (49, ptr b5 (0 + (gc) * 1)), (13, .int .i64 (((kk : Nat) : Int)))] ∧ Mem w w' [e8_2, some (bl, numC n (lv ld k)), some (b5, numC n (owF p E k ld gc kk)), none] D2) (fun kk => n - kk) 0 ?_ ?_
       ·
        refine ⟨by omega, trivial, hF.sub _ (by repeat' constructor), ?_⟩
        exact hM.rowc 2 rfl (numC_congr fun c hc => by unfold owF; simp)
       ·
        clear hF hM
        rintro gd a w' ⟨hgd, hinv3, hF, hM⟩
        refine sq (sq (wp_region_lit ?_))
        refine st hF (g_move hF rfl) rfl fun a hF => st hF (g_move hF rfl) rfl fun a hF => st hF (g_lss hF rfl rfl) rfl fun a hF => ?_
        refine wpList_nil (tN ?_)
        refine c_cond hF rfl (fun h6 => ?_) (fun h6 => ?_)
        ·
         refine wp_skip (tN (sq (wp_block (sq (wp_region_lit ?_)))))
         refine st hF (g_move hF rfl) rfl fun a hF => st hF (g_move hF rfl) rfl fun a hF => st hF (g_indexSl (i := gd) ty_sl_70 hF rfl rfl rfl (by omega)) rfl fun a hF => st hF (g_load ty_on_2 hF rfl (hM.row 1 rfl) (numC_get (k := gd) (by omega) (by omega))) rfl fun a hF => st hF (g_gtr hF rfl rfl) rfl fun a hF => ?_
         refine wpList_nil (tN ?_)
         refine c_cond hF rfl (fun h7 => ?_) (fun h7 => ?_)
         ·
          have hlp : 0 < lv ld k gd := by omega
          have hne2 : gd ≠ gc := fun e => hl (by rw [← e]; exact lv_pos.1 hlp)
          have hlk := lv_le (ld := ld) (q := k) (c := gd)
          have hEb := hE1 (lv ld k gd - 1) gc
          refine wp_region_lit ?_
          refine st hF (g_move hF rfl) rfl fun a hF => st hF (g_move hF rfl) rfl fun a hF => st hF (g_move hF rfl) rfl fun a hF => st hF (g_move hF rfl) rfl fun a hF => st hF (g_move hF rfl) rfl fun a hF => st hF (g_move hF rfl) rfl fun a hF => st hF (g_indexSl (i := gd) ty_sl_70 hF rfl rfl rfl (by omega)) rfl fun a hF => st hF (g_load ty_on_2 hF rfl (hM.row 1 rfl) (numC_get (k := gd) (by omega) (by omega))) rfl fun a hF => st hF (g_sub hF rfl rfl (show _ = ((lv ld k gd - 1 : Nat) : Int) from (by rw [wrap_i64 (by omega) (by omega)]; omega))) rfl fun a hF => st hF (g_indexSl (i := lv ld k gd - 1) ty_sl_73 hF rfl rfl rfl (by omega)) rfl fun a hF => st hF (g_load ty_on_70 hF rfl (hM.fzm (hom (by omega))) (hos.get1 (lv ld k gd - 1) (by omega))) rfl fun a hF => st hF (g_move hF rfl) rfl fun a hF => st hF (g_indexSl (i := gc) ty_sl_70 hF rfl rfl rfl (by omega)) rfl fun a hF => st hF (g_load ty_on_2 hF rfl (hM.fzm (hRm _ (hR.mem (lv ld k gd - 1) (by omega)))) (hR.get (i := lv ld k gd - 1) (by omega) (gc) (by omega))) rfl fun a hF => st hF (g_neg hF rfl (wrap_i64 (by omega) (by omega))) rfl fun a hF => ?_
          refine stR hF (d_call Tryd.call63 hF (.cons rfl (.cons rfl .nil)) ((CallsR.val (l01Mod_ok (-(((E (lv ld k gd - 1) (gc) : Nat) : Int))) (p) _ (by omega) (by omega) (by omega) (by omega)) (congrArg (Value.int .i64) (neg_mod (by omega) (by omega)))))) rfl ?_
          rintro _ w' a ⟨hx, rfl⟩ hF
          have hM := hM.ext hx
          refine st hF (g_indexSl (i := gd) ty_sl_70 hF rfl rfl rfl (by omega)) rfl fun a hF => ?_
          refine stN hF (d_store 2 hM rfl ty_on_2 hF rfl rfl rfl (by first | omega | (simp only [fnC_size, cells_size, vecC_size, tabC_size, planeC_size, dgC_size, numC_sz] <;> omega) | simp)) ?_
          intro _ w' a hM hF
          rw [show (numC n (owF p E k ld gc gd)).setIfInBounds (0 + (gd) * 1) (.int .i64 ((((p - E (lv ld k gd - 1) (gc)) % p : Nat) : Int))) = numC n (fun c => if c = gd then (p - E (lv ld k gd - 1) (gc)) % p else (owF p E k ld gc gd) c) from numC_set (k := gd) (by omega) (fun c _ => rfl)] at hM
          change Mem w w' [e8_2, some (bl, numC n (lv ld k)), some (b5, numC n (fun c => if c = gd then (p - E (lv ld k gd - 1) (gc)) % p else (owF p E k ld gc gd) c)), none] D2 at hM
          refine wpList_nil (iN (tN (wp_region_lit ?_)))
          refine st hF (g_move hF rfl) rfl fun a hF => st hF (g_add hF rfl rfl (add_nat (gd) (1) (by omega))) rfl fun a hF => st hF (g_assign hF rfl) rfl fun a hF => ?_
          refine wpList_nil (tN ?_)
          refine ⟨gd + 1, ⟨by omega, trivial, hF.sub _ (by repeat' constructor), ?_⟩, by omega⟩
          first | exact hM.rowc 2 rfl (numC_congr fun c hc => ow_yes hlp hne2 c) | exact hM.rowc 2 rfl (numC_congr fun c hc => ow_no hln c)
         ·
          have hln : ¬ 0 < lv ld k gd := by omega
          refine wp_skip (iN (tN (wp_region_lit ?_)))
          refine st hF (g_move hF rfl) rfl fun a hF => st hF (g_add hF rfl rfl (add_nat (gd) (1) (by omega))) rfl fun a hF => st hF (g_assign hF rfl) rfl fun a hF => ?_
          refine wpList_nil (tN ?_)
          refine ⟨gd + 1, ⟨by omega, trivial, hF.sub _ (by repeat' constructor), ?_⟩, by omega⟩
          first | exact hM.rowc 2 rfl (numC_congr fun c hc => ow_yes hlp hne2 c) | exact hM.rowc 2 rfl (numC_congr fun c hc => ow_no hln c)
        ·
         obtain rfl : n = gd := by omega
         have hM := hM.rowc (cs' := numC n (sol p E k ld gc)) 2 rfl (numC_congr fun c hc => if_pos hc)
         refine wp_exit (tX (tX ?_))
         refine ib_same ?_
         refine tN ?_
         have hM := hM.freeze 2 rfl
         have hR3 := (hR2.more (D' := (b5, numC n (sol p E k ld gc)) :: D2) (fun x hx => List.mem_cons_of_mem _ hx)).snoc (List.mem_cons_self ..) (slAt_numC (b := b5) (m := n) (f := (sol p E k ld gc)) (by unfold maxLen; omega))
         have hR4 := hR3.congr (g := fun i c => .int .i64 ((upE S (nf k ld gc) (sol p E k ld gc) i c : Nat) : Int)) (fun i hi c hc => by
           by_cases e : i = (nf k ld gc)
           · rw [e]; simp only [up_eq, upE, if_true]
           · simp only [up_ne e, upE, if_neg e])
         change Mem w _ [e8_2, some (bl, numC n (lv ld k)), none, none] ((b5, numC n (sol p E k ld gc)) :: D2) at hM
         refine wp_region_lit ?_
         refine st hF (g_move hF rfl) rfl fun a hF => st hF (g_move hF rfl) rfl fun a hF => ?_
         refine stR hF (d_buildC 3 hM hF (build1 hF rfl) (ty_bsv_73 _ _ _)) rfl ?_
         rintro _ w' a ⟨b8, rfl, hM, -⟩ hF
         change Mem w w' [e8_2, some (bl, numC n (lv ld k)), none, some (b8, #[.slice (some ⟨b5, 0, none⟩) (n) (n)])] ((b5, numC n (sol p E k ld gc)) :: D2) at hM
         refine stR hF (d_append (k := 0) (m := 1) (g := fun _ => .slice (some ⟨b5, 0, none⟩) (n) (n)) ty_si_73 rfl (by decide) hM rfl hF rfl rfl hsl (fun i hi => by rw [show i = 0 by omega]; exact (hM.row 3 rfl).cell 0) (fun _ _ => rfl) (by decide) (by unfold maxLen; omega) (by omega)) rfl ?_
         rintro u9 w' a ⟨e10, hM, hs11⟩ hF
         change Mem w w' [e10, some (bl, numC n (lv ld k)), none, some (b8, #[.slice (some ⟨b5, 0, none⟩) (n) (n)])] ((b5, numC n (sol p E k ld gc)) :: D2) at hM
         refine st hF (g_assign hF rfl) rfl fun a hF => ?_
         refine wpList_nil (iN (tN (wp_region_lit ?_)))
         refine st hF (g_move hF rfl) rfl fun a hF => st hF (g_add hF rfl rfl (add_nat (gc) (1) (by omega))) rfl fun a hF => st hF (g_assign hF rfl) rfl fun a hF => ?_
         refine wpList_nil (tN ?_)
         have hsl := hs11.snocR
         have hM := hM.drop 3
         refine ⟨gc + 1, ⟨by omega, ((b5, numC n (sol p E k ld gc)) :: D2), (up β2 (nf k ld gc) b5), (up κ2 (nf k ld gc) n), (up C2 (nf k ld gc) (numC n (sol p E k ld gc))), (upE S (nf k ld gc) (sol p E k ld gc)), (by first | exact ⟨by rw [nf_lead hl]; exact hR2, solR_lead hS hl, hSp, hRm2⟩ | exact ⟨by rw [nf_free hl]; exact hR4, solR_free hS, upE_small hSp (fun _ => sol_lt hp2), fun x hx => List.mem_cons_of_mem _ (hRm2 x hx)⟩), (u9), (e10), (by first | (rw [nf_free hl]; exact hsl) | (rw [nf_lead hl]; exact hsl)), hF.sub _ (by repeat' constructor), ?_⟩, by omega⟩
         exact hM
     ·
      obtain rfl : n = gc := by omega
      have hnf := hne k E ld hE hKer
      obtain ⟨bk, ck, csk, rfl, rfl, hsk⟩ := hsl.pos hnf
      have hM := hM.freeze 0 rfl
      have hbk : (bk, csk) ∈ (bk, csk) :: D2 := List.mem_cons_self ..
      have hRmk : ∀ x ∈ D2, x ∈ (bk, csk) :: D2 := fun x hx => List.mem_cons_of_mem _ hx
      have hnfn := nf_le (k := k) (ld := ld) n
      change Mem w _ [none, some (bl, numC n (lv ld k)), none, none] ((bk, csk) :: D2) at hM
      refine wp_exit (tX (tX ?_))
      refine ib_same ?_
      refine tN (sq (wp_region_lit ?_))
      refine st hF (g_move hF rfl) rfl fun a hF => st hF (g_move hF rfl) rfl fun a hF => ?_
      refine stR hF (d_call Tryd.call88 hF (.cons rfl (.cons rfl .nil)) (l01Echelon_ok p n (nf k ld n) (bk) (ck) (csk) ((bk, csk) :: D2) β2 κ2 C2 S _ hp (by omega) (by omega) (by omega) hSp (fun _ _ hm => hM.fzm hm) hbk (fun i hi => hsk.get1 i hi) (hR2.more hRmk))) rfl ?_
      rintro u w' a ⟨hx, hr⟩ hF
      have hr := (echOut) hM hr
      have hM := hM.ext hx
      obtain ⟨r, V, ld2, hE2, hKer2, hV, hrm, hout⟩ := hr
      refine st hF (g_assign hF rfl) rfl fun a hF => ?_
      refine wpList_nil (tN (wp_ret ?_))
      refine fin1 rfl hF.defers (res_tmp hF rfl) ⟨_, rfl, hM.below, ?_⟩
      exact ⟨r, V, isKer_of hE hKer hS hE2 hKer2, hV, Nat.le_trans hrm hnfn, hout⟩

end Go.Proofs.YtbeodbfbfbefkaaDoor

namespace Go.Proofs.YtbeodbfbfbefkaaDoor
open Go Go.RowKit Go.Sw Go.Ech
open Classical
def eqC (p n : Nat) (T : Nat → Nat → Nat → Nat) (r c : Nat) : Nat := ((((T c (r / n) (r % n) : Nat) : Int) - ((T (r / n) c (r % n) : Nat) : Int)) % (p : Int)).toNat
def KerRel (w0 : World) (L : Own) (p n m : Nat) (M : Nat → Nat → Nat) (u : Value) (w' : World) : Prop := ∃ r V, IsKer p n M m r V ∧ (∀ i c, V i c < p) ∧ r ≤ n ∧ RowsFr w0 L n r (fun i c => .int .i64 ((V i c : Nat) : Int)) u w'
theorem KerRel.of {X : List Nat} {w0 w w' : World} {L : Own} {D : Froz} {p n m : Nat} {M : Nat → Nat → Nat} {u : Value} (hM : MemX X w0 w L D) (h : ∃ r V, IsKer p n M m r V ∧ (∀ i c, V i c < p) ∧ r ≤ n ∧ RowsOut w w' n r (fun i c => .int .i64 ((V i c : Nat) : Int)) u) : KerRel w0 L p n m M u w' := by
  obtain ⟨r, V, h1, h2, h3, h4⟩ := h
  exact ⟨r, V, h1, h2, h3, h4.fresh hM⟩


end Go.Proofs.YtbeodbfbfbefkaaDoor
