/- What functions of the program return, as walks over their operations; no statement of the seat is proved here. -/
import Derived.Test.YtbeodbfbfbefkaaDoorH1
import Derived.Test.YtbeodbfbfbefkaaDoorEch3
set_option linter.unusedVariables false
set_option linter.unusedSimpArgs false
namespace Go.Proofs.YtbeodbfbfbefkaaDoor
open Go Go.RowKit Go.Sw Go.Ech
def EchRel (w0 : World) (L : Own) (p N m : Nat) (M : Nat → Nat → Nat) (u : Value) (w' : World) : Prop := ∃ k E ld, Rref p N E k ld ∧ (∀ x, Ker p N E k x ↔ Ker p N M m x) ∧ (∀ i c, E i c < p) ∧ k ≤ m ∧ RowsFr w0 L N k (fun i c => .int .i64 ((E i c : Nat) : Int)) u w'
theorem EchRel.last {w0 w w' : World} {L : Own} {p N m : Nat} {M : Nat → Nat → Nat} {u : Value} (h : EchRel w0 L p N m M u w) (hx : Ext w w') : EchRel w0 L p N m M u w' := by
  obtain ⟨k, E, ld, h1, h2, h3, h4, h5⟩ := h
  exact ⟨k, E, ld, h1, h2, h3, h4, h5.last hx⟩
theorem EchRel.of {X : List Nat} {w0 w w' : World} {L : Own} {D : Froz} {p N m : Nat} {M : Nat → Nat → Nat} {u : Value} (hM : MemX X w0 w L D) (h : ∃ k E ld, Rref p N E k ld ∧ (∀ x, Ker p N E k x ↔ Ker p N M m x) ∧ (∀ i c, E i c < p) ∧ k ≤ m ∧ RowsOut w w' N k (fun i c => .int .i64 ((E i c : Nat) : Int)) u) : EchRel w0 L p N m M u w' := by
  obtain ⟨k, E, ld, h1, h2, h3, h4, h5⟩ := h
  exact ⟨k, E, ld, h1, h2, h3, h4, h5.fresh hM⟩

theorem l01Solve_ok (p n m b0 c0 : Nat) (cs0 : Array Value) (D0 : Froz) (β0 κ0 : Nat → Nat) (C0 : Nat → Array Value) (M : Nat → Nat → Nat) (w : World) (hp : primeN p) (hn0 : 0 < n) (hN2 : n < 90) (hm0 : 0 < m) (hm2 : m < 1000) (hM1 : ∀ i c, M i c < p) (hD0 : ∀ b cs, (b, cs) ∈ D0 → Blk w b cs) (hb0 : (b0, cs0) ∈ D0) (hg0 : ∀ i, i < m → cs0[0 + i * 1]? = some (.slice (some ⟨β0 i, 0, none⟩) (n + 1) (κ0 i))) (hR0 : RowsD D0 (n + 1) m β0 κ0 C0 (fun i c => .int .i64 ((M i c : Nat) : Int))) :
    CallsR Tryd.prog 87 #[.int .i64 (((p : Nat) : Int)), .slice (some ⟨b0, 0, none⟩) (m) (c0)] w (fun res w' => ∃ k E ld, Rref p (n + 1) E k ld ∧ (∀ x, Ker p (n + 1) E k x ↔ Ker p (n + 1) M m x) ∧ (∀ i c, E i c < p) ∧ ((k = n ∧ (∀ i, i < n → ld i = i) ∧ ∃ u, res = .tuple #[u, .bool true] ∧ OwnSl 1 w n (fun i => .int .i64 ((E i n : Nat) : Int)) u w') ∨ (¬ (k = n ∧ ∀ i, i < n → ld i = i) ∧ res = .tuple #[.slice none 0 0, .bool false]))) := by
  refine calls_fr [.int .i64 (((p : Nat) : Int)), .slice (some ⟨b0, 0, none⟩) (m) (c0)] Tryd.func87 rfl Tryd.ntmps87 rfl fun a hF => ?_
  have hM : Mem w w [none, none] D0 := MemX.startD w 2 _ hD0
  change Fr 49 a [(0, .int .i64 (((p : Nat) : Int))), (1, .slice (some ⟨b0, 0, none⟩) (m) (c0))] at hF
  have hp2 := hp.two
  have hp13 := hp.le
  have hDD : ∀ x ∈ D0, x ∈ D0 := fun _ h => h
  refine sq (wp_region_lit ?_)
  refine st hF (g_assign hF rfl) rfl fun a hF => st hF (g_assign hF rfl) rfl fun a hF => ?_
  refine wpList_nil (tN (sq (sq (wp_region_lit ?_))))
  refine st hF (g_move hF rfl) rfl fun a hF => st hF (g_len ty_us_73 hF rfl) rfl fun a hF => st hF (g_eql hF rfl rfl) rfl fun a hF => ?_
  refine wpList_nil (tN ?_)
  refine c_cond hF rfl (fun h1 => ?_) (fun h1 => ?_)
  ·
   exfalso; omega
  ·
   refine wp_skip (tN (sq ?_))
   refine c_par 8 [] [.val (.slice (some ⟨b0, 0, none⟩) (m) (c0)), .val (ptr b0 (0 + (0) * 1)), .val (.slice (some ⟨β0 (0), 0, none⟩) ((n + 1)) (κ0 (0))), .val (.int .i64 ((((n + 1) : Nat) : Int))), .val (.int .i64 (((n : Nat) : Int))), .val (.int .i64 (((p : Nat) : Int))), .val (.slice (some ⟨b0, 0, none⟩) (m) (c0)), .rel (EchRel w [none, none] p (n + 1) (m) M)] hmix rfl hF rfl hM ⟨fun a w gG hF hS hd => by exact par_val hS rfl (g_move hF rfl), fun a w gG hF hS hd => by have hF := hF.ext1 13 (hd 0 rfl rfl); exact par_val hS rfl (g_indexSl (i := 0) ty_sl_73 hF rfl rfl rfl (by omega)), fun a w gG hF hS hd => by have hF := hF.ext1 14 (hd 1 rfl rfl); have hM := hS.mem rfl; exact par_val hS rfl (g_load ty_on_70 hF rfl (hM.fzm (hDD _ hb0)) (hg0 (0) (by omega))), fun a w gG hF hS hd => by have hF := hF.ext1 15 (hd 2 rfl rfl); exact par_val hS rfl (g_len ty_us_70 hF rfl), fun a w gG hF hS hd => by have hF := hF.ext1 16 (hd 3 rfl rfl); exact par_val hS rfl (g_sub hF rfl rfl (show _ = ((n : Nat) : Int) from (by rw [wrap_i64] <;> omega))), fun a w gG hF hS hd => by exact par_val hS rfl (g_move hF rfl), fun a w gG hF hS hd => by exact par_val hS rfl (g_move hF rfl), fun a w gG hF hS hd => by have hF := hF.ext1 18 (hd 5 rfl rfl); have hF := hF.ext1 19 (hd 6 rfl rfl); have hM := hS.mem rfl; exact par_rel (by exact ⟨fun _ _ _ h hx => h.last hx, trivial⟩) hS rfl (d_call Tryd.call88 hF (.cons rfl (.cons rfl .nil)) (l01Echelon_ok p (n + 1) (m) (b0) (c0) (cs0) D0 β0 κ0 C0 M _ hp (by omega) (by omega) (by omega) hM1 (fun _ _ hm => hM.fzm hm) (hDD _ hb0) (fun i hi => hg0 i hi) (hR0.more hDD))) (fun _ _ hr => (EchRel.of) hM hr), trivial⟩ ?_
   intro a w' L hF hS hq
   have hF := hF.ext1 13 (hq 0 rfl rfl)
   have hF := hF.ext1 14 (hq 1 rfl rfl)
   have hF := hF.ext1 15 (hq 2 rfl rfl)
   have hF := hF.ext1 16 (hq 3 rfl rfl)
   have hF := hF.ext1 17 (hq 4 rfl rfl)
   have hF := hF.ext1 18 (hq 5 rfl rfl)
   have hF := hF.ext1 19 (hq 6 rfl rfl)
   have hM := hS.mem rfl
   have hr2 := hq 7 rfl rfl
   have hF := hF.ext1 20 rfl
   obtain ⟨u, hu⟩ : ∃ u, u = a.tmps.getD 20 undef := ⟨_, rfl⟩
   change (EchRel w [none, none] p (n + 1) (m) M) (a.tmps.getD 20 undef) w' at hr2
   rw [← hu] at hr2 hF
   obtain ⟨k, E, ld, hE, hKer, hE1, hkm, hrr⟩ := hr2
   obtain ⟨DE, β, κ, C, ob, oc, ocs, hR, hos, hom, hbg, hobg, hM⟩ := hM.addR hrr
   obtain rfl := hos.val
   have hRm : ∀ x ∈ (DE ++ D0), x ∈ (DE ++ D0) := fun _ h => h
   have hDD := fun x hx => List.mem_append_right DE (hDD x hx)
   change wpList Tryd.prog _ _ [_, _] _ _
   refine st hF (g_assign hF rfl) rfl fun a hF => st hF (g_assign hF rfl) rfl fun a hF => ?_
   refine wpList_nil (tN (sq (sq (wp_region_lit ?_))))
   refine st hF (g_move hF rfl) rfl fun a hF => st hF (g_len ty_us_73 hF rfl) rfl fun a hF => st hF (g_move hF rfl) rfl fun a hF => st hF (g_neq hF rfl rfl) rfl fun a hF => ?_
   refine wpList_nil (tN ?_)
   refine c_cond hF rfl (fun h3 => ?_) (fun h3 => ?_)
   ·
    refine sq (wp_region_lit ?_)
    refine st hF (g_assign hF rfl) rfl fun a hF => st hF (g_assign hF rfl) rfl fun a hF => ?_
    refine wpList_nil (tN (wp_ret (tR ?_)))
    refine fin2 rfl hF.defers (res_tmp hF rfl) (res_tmp hF rfl) ⟨_, rfl, hM.below, ?_⟩
    refine ⟨k, E, ld, hE, hKer, hE1, .inr ⟨?_, rfl⟩⟩
    exact fun hq => by omega
   ·
    refine wp_skip (tN (sq (wp_region_lit ?_)))
    refine stR hF (d_buildC 0 hM hF rfl ty_bs0_70) rfl ?_
    rintro _ w' a ⟨b4, rfl, hM, -⟩ hF
    change Mem w w' [some (b4, #[]), none] (DE ++ D0) at hM
    refine st hF (g_assign hF rfl) rfl fun a hF => ?_
    refine wpList_nil (tN (sq (sq (wp_region_lit ?_))))
    refine st hF (g_assign hF rfl) rfl fun a hF => ?_
    refine wpList_nil (tN (wp_block ?_))
    change Mem w _ [some (b4, #[]), none] (DE ++ D0) at hM
    refine c_loop (fun (kk : Nat) a w' => kk ≤ n ∧ (∀ i, i < kk → ld i = i) ∧ ∃ (u8_1 : Value) (e8_1 : Option (Nat × Array Value)), Sl 1 u8_1 e8_1 (kk) (fun i => .int .i64 ((E i n : Nat) : Int)) ∧ Fr 49 a [(20, .slice (some ⟨ob, 0, none⟩) (k) (oc)), (19, .slice (some ⟨b0, 0, none⟩) (m) (c0)), (18, .int .i64 (((p : Nat) : Int))), (17, .int .i64 (((n : Nat) : Int))), (16, .int .i64 ((((n + 1) : Nat) : Int))), (15, .slice (some ⟨β0 (0), 0, none⟩) ((n + 1)) (κ0 (0))), (14, ptr b0 (0 + (0) * 1)), (13, .slice (some ⟨b0, 0, none⟩) (m) (c0)), (0, .int .i64 (((p : Nat) : Int))), (1, .slice (some ⟨b0, 0, none⟩) (m) (c0)), (10, .slice (some ⟨b0, 0, none⟩) (m) (c0)), (11, .int .i64 (((m : Nat) : Int))), (12, .bool (decide ((((m : Nat) : Int) : Int) = 0))), (6, .int .i64 (((n : Nat) : Int))), (7, .slice (some ⟨ob, 0, none⟩) (k) (oc)), (21, .slice (some ⟨ob, 0, none⟩) (k) (oc)), (22, .int .i64 (((k : Nat) : Int))), (23, .int .i64 (((n : Nat) : Int))), (24, .bool (decide ((((k : Nat) : Int) : Int) ≠ ((n : Nat) : Int)))), (25, .slice (some ⟨b4, 0, none⟩) (0) (0)), (9, .int .i64 (((kk : Nat) : Int))), (8, u8_1)] ∧ Mem w w' [e8_1, none] (DE ++ D0)) (fun kk => n - kk) 0 ?_ ?_
    ·
     refine ⟨by omega, fun i hi => absurd hi (by omega), (.slice (some ⟨b4, 0, none⟩) (0) (0)), (some (b4, #[])), Sl.empty _ _ _, hF.sub _ (by repeat' constructor), ?_⟩
     exact hM
    ·
     clear hF hM
     rintro gi a w' ⟨hgi, hinv1, u8_1, e8_1, hsl, hF, hM⟩
     refine sq (sq (wp_region_lit ?_))
     refine st hF (g_move hF rfl) rfl fun a hF => st hF (g_move hF rfl) rfl fun a hF => st hF (g_lss hF rfl rfl) rfl fun a hF => ?_
     refine wpList_nil (tN ?_)
     refine c_cond hF rfl (fun h5 => ?_) (fun h5 => ?_)
     ·
      refine wp_skip (tN (sq (wp_block (sq (sq (wp_region_lit ?_))))))
      refine st hF (g_move hF rfl) rfl fun a hF => st hF (g_move hF rfl) rfl fun a hF => st hF (g_indexSl (i := gi) ty_sl_73 hF rfl rfl rfl (by omega)) rfl fun a hF => st hF (g_load ty_on_70 hF rfl (hM.fzm hom) (hos.get1 (gi) (by omega))) rfl fun a hF => ?_
      refine stR hF (d_call Tryd.call89 hF (.cons rfl .nil) ((l01Lead_row (β (gi)) (κ (gi)) (hM.fzm (hRm _ (hR.mem (gi) (by omega)))) (fun i hi => (hR.get (i := gi) (by omega) (i) hi)) (by omega) hE (i := gi) (by omega)))) rfl ?_
      rintro _ w' a ⟨hx, rfl⟩ hF
      have hM := hM.ext hx
      refine st hF (g_move hF rfl) rfl fun a hF => st hF (g_neq hF rfl rfl) rfl fun a hF => ?_
      refine wpList_nil (tN ?_)
      refine c_cond hF rfl (fun h6 => ?_) (fun h6 => ?_)
      ·
       refine sq (wp_region_lit ?_)
       refine st hF (g_assign hF rfl) rfl fun a hF => st hF (g_assign hF rfl) rfl fun a hF => ?_
       refine wpList_nil (tN (wp_ret (tR (iR (tR (tR (iR (tR ?_))))))))
       refine fin2 rfl hF.defers (res_tmp hF rfl) (res_tmp hF rfl) ⟨_, rfl, hM.below, ?_⟩
       refine ⟨k, E, ld, hE, hKer, hE1, .inr ⟨?_, rfl⟩⟩
       exact fun hq => (by assumption : _ ≠ _) (by have := hq.2 gi (by omega); omega)
      ·
       refine wp_skip (tN (wp_region_lit ?_))
       refine st hF (g_move hF rfl) rfl fun a hF => st hF (g_move hF rfl) rfl fun a hF => st hF (g_move hF rfl) rfl fun a hF => st hF (g_indexSl (i := gi) ty_sl_73 hF rfl rfl rfl (by omega)) rfl fun a hF => st hF (g_load ty_on_70 hF rfl (hM.fzm hom) (hos.get1 (gi) (by omega))) rfl fun a hF => st hF (g_move hF rfl) rfl fun a hF => st hF (g_indexSl (i := n) ty_sl_70 hF rfl rfl rfl (by omega)) rfl fun a hF => st hF (g_load ty_on_2 hF rfl (hM.fzm (hRm _ (hR.mem (gi) (by omega)))) (hR.get (i := gi) (by omega) (n) (by omega))) rfl fun a hF => ?_
       refine stR hF (d_buildC 1 hM hF (build1 hF rfl) (ty_bs1_70 _)) rfl ?_
       rintro _ w' a ⟨b7, rfl, hM, -⟩ hF
       change Mem w w' [e8_1, some (b7, #[.int .i64 (((E (gi) (n) : Nat) : Int))])] (DE ++ D0) at hM
       refine stR hF (d_append (k := 0) (m := 1) (g := fun _ => .int .i64 (((E (gi) (n) : Nat) : Int))) ty_si_70 rfl (by decide) hM rfl hF rfl rfl hsl (fun i hi => by rw [show i = 0 by omega]; exact (hM.row 1 rfl).cell 0) (fun _ _ => rfl) (by decide) (by unfold maxLen; omega) (by omega)) rfl ?_
       rintro u8 w' a ⟨e9, hM, hs10⟩ hF
       change Mem w w' [e9, some (b7, #[.int .i64 (((E (gi) (n) : Nat) : Int))])] (DE ++ D0) at hM
       refine st hF (g_assign hF rfl) rfl fun a hF => ?_
       refine wpList_nil (iN (tN (wp_region_lit ?_)))
       refine st hF (g_move hF rfl) rfl fun a hF => st hF (g_add hF rfl rfl (add_nat (gi) (1) (by omega))) rfl fun a hF => st hF (g_assign hF rfl) rfl fun a hF => ?_
       refine wpList_nil (tN ?_)
       have hM := hM.drop 1
       refine ⟨gi + 1, ⟨by omega, allS hinv1 (by omega), (u8), (e9), hs10.snoc rfl, hF.sub _ (by repeat' constructor), ?_⟩, by omega⟩
       exact hM
     ·
      obtain rfl : n = gi := by omega
      have hkn : k = n := by omega
      refine wp_exit (tX (tX ?_))
      refine ib_same ?_
      refine tN (sq (wp_region_lit ?_))
      refine st hF (g_move hF rfl) rfl fun a hF => st hF (g_assign hF rfl) rfl fun a hF => st hF (g_assign hF rfl) rfl fun a hF => ?_
      refine wpList_nil (tN (wp_ret ?_))
      refine fin2 rfl hF.defers (res_tmp hF rfl) (res_tmp hF rfl) ⟨_, rfl, hM.below, ?_⟩
      exact ⟨k, E, ld, hE, hKer, hE1, .inl ⟨by omega, hinv1, _, rfl, OwnSl.pos hM (k := 0) rfl hsl hn0⟩⟩

end Go.Proofs.YtbeodbfbfbefkaaDoor
