/- What functions of the program return, as walks over their operations; no statement of the seat is proved here. -/
import Derived.Test.YtlpccepifehilaaT8
import Derived.Test.YtlpccepifehilaaSw93
import Derived.Test.YtlpccepifehilaaSw10
import Derived.Shelf.Small.Bits
import Derived.Shelf.Strconv.Itoa0
import Derived.Test.YtlpccepifehilaaProg
set_option linter.unusedVariables false
set_option linter.unusedSimpArgs false
namespace Go.Proofs.Ytlpccepifehilaa
open Go Go.RowKit Go.Sw Go.Ech
open Classical
theorem choices_ok (sz lg : Nat) (w : World)  :
    CallsR Try.prog 42 #[.int .i64 (((sz : Nat) : Int)), .int .i64 (((lg : Nat) : Int))] w (fun v w' => ∃ bs bl, v = .func (.func 54) #[] #[ptr bs 0, ptr bl 0] ∧ w.heap.size ≤ bs ∧ w.heap.size ≤ bl ∧ Rw.CapK bs bl sz lg w') := by
  refine calls_fr [.int .i64 (((sz : Nat) : Int)), .int .i64 (((lg : Nat) : Int))] Try.func42 rfl Try.ntmps42 rfl fun a hF => ?_
  have hM : Mem w w [none, none] [] := MemX.start w 2
  change Fr 6 a [(0, .int .i64 (((sz : Nat) : Int))), (1, .int .i64 (((lg : Nat) : Int)))] at hF
  refine sq ?_
  refine wp_region_lit ?_
  refine stR hF (d_box 0 hM hF rfl) rfl ?_
  rintro _ w' a ⟨b1, rfl, hM, -⟩ hF
  change Mem w w' [some (b1, #[.int .i64 (((sz : Nat) : Int))]), none] [] at hM
  refine stR hF (d_box 1 hM hF rfl) rfl ?_
  rintro _ w' a ⟨b2, rfl, hM, -⟩ hF
  change Mem w w' [some (b1, #[.int .i64 (((sz : Nat) : Int))]), some (b2, #[.int .i64 (((lg : Nat) : Int))])] [] at hM
  refine st hF (g_assign hF rfl) rfl fun a hF => ?_
  refine wpList_nil ?_
  refine tN ?_
  refine sq ?_
  refine wp_region_lit ?_
  refine st hF (g_makeFunc2 hF rfl rfl) rfl fun a hF => st hF (g_assign hF rfl) rfl fun a hF => ?_
  refine wpList_nil ?_
  refine tN ?_
  refine wp_ret ?_
  refine fin1 rfl hF.defers (res_tmp hF rfl) ⟨_, rfl, hM.below, ?_⟩
  exact ⟨b1, b2, rfl, hM.ge 0 rfl, hM.ge 1 rfl, hM.row 0 rfl, hM.row 1 rfl⟩

theorem choicesIt (bs bl sz lg : Nat) (hs0 : 0 < sz) (hsz : sz ≤ 6) (hlg : lg ≤ 16) : Rw.IterC Try.prog 54 #[ptr bs 0, ptr bl 0] (sz ^ lg) (Rw.ArgCh sz lg) (Rw.CapK bs bl sz lg) := by
  intro l J Jx w hJe hJK hY h0
  rw [show ((#[.func (.yield l) #[] #[]] : Array Value) ++ #[ptr bs 0, ptr bl 0]) = [.func (.yield l) #[] #[], ptr bs (0), ptr bl (0)].toArray from by simp]
  refine Rw.callsW_fr [.func (.yield l) #[] #[], ptr bs (0), ptr bl (0)] Try.func54 rfl Try.ntmps54 rfl fun a hF => ?_
  have hpb := pow_bd hsz hlg
  have hcap := hJK 0 w h0
  have hM : Mem w w [none] [(bs, #[.int .i64 ((sz : Nat) : Int)]), (bl, #[.int .i64 ((lg : Nat) : Int)])] := MemX.startD w 1 _ (startD2 hcap.1 hcap.2)
  change Fr 38 a [(0, .func (.yield l) #[] #[]), (1, ptr bs (0)), (2, ptr bl (0))] at hF
  refine sq ?_
  refine wp_region_lit ?_
  refine st hF (g_load ty_on_2 hF rfl (hM.fz 0 rfl) rfl) rfl fun a hF => st hF (g_load ty_on_2 hF rfl (hM.fz 1 rfl) rfl) rfl fun a hF => ?_
  refine stR hF (d_call Try.call38 hF (.cons rfl (.cons rfl .nil)) (countChoices_ok (sz) (lg) _ (by omega) (by omega))) rfl ?_
  rintro _ w' a ⟨hx, rfl⟩ hF
  have hM := hM.ext hx
  refine st hF (g_move hF rfl) rfl fun a hF => ?_
  refine wpList_nil ?_
  refine tN ?_
  refine wp_block ?_
  change Mem w _ [none] [(bs, #[.int .i64 ((sz : Nat) : Int)]), (bl, #[.int .i64 ((lg : Nat) : Int)])] at hM
  refine c_loop (fun (kk : Nat) a w' => kk ≤ sz ^ lg ∧ ∃ (w : World), (J kk w) ∧ Fr 38 a [(0, .func (.yield l) #[] #[]), (1, ptr bs (0)), (2, ptr bl (0)), (10, .int .i64 ((((sz) ^ (lg) : Nat) : Int))), (11, .int .i64 (((kk : Nat) : Int)))] ∧ Mem w w' [none] [(bs, #[.int .i64 ((sz : Nat) : Int)]), (bl, #[.int .i64 ((lg : Nat) : Int)])]) (fun kk => sz ^ lg - kk) 0 ?_ ?_
  ·
   refine ⟨by omega, w, h0, hF.sub _ (by repeat' constructor), ?_⟩
   exact hM
  ·
   clear hF hM
   rintro gk a w' ⟨hgk, w, hJ, hF, hM⟩
   refine sq ?_
   refine wp_region_lit ?_
   refine st hF (g_lss hF rfl rfl) rfl fun a hF => ?_
   refine wpList_nil ?_
   refine tN ?_
   refine sq ?_
   refine c_cond hF rfl (fun h1 => ?_) (fun h1 => ?_)
   ·
    refine wp_skip ?_
    refine tN ?_
    refine sq ?_
    refine wp_block ?_
    refine sq ?_
    refine wp_region_lit ?_
    refine st hF (g_move hF rfl) rfl fun a hF => st hF (g_assign hF rfl) rfl fun a hF => ?_
    refine wpList_nil ?_
    refine tN ?_
    refine sq ?_
    refine wp_region_lit ?_
    refine st hF (g_load ty_on_2 hF rfl (hM.fz 1 rfl) rfl) rfl fun a hF => ?_
    refine stR hF (d_make1 (len := lg) 0 hM hF ty_si_22 rfl rfl rfl (by omega) (by decide)) rfl ?_
    rintro _ w' a ⟨b3, rfl, hM, -⟩ hF
    change Mem w w' [some (b3, numC (lg) (fun _ => 0))] [(bs, #[.int .i64 ((sz : Nat) : Int)]), (bl, #[.int .i64 ((lg : Nat) : Int)])] at hM
    refine st hF (g_assign hF rfl) rfl fun a hF => ?_
    refine wpList_nil ?_
    refine tN ?_
    refine sq ?_
    refine wp_region_lit ?_
    refine st hF (g_move hF rfl) rfl fun a hF => st hF (g_assign hF rfl) rfl fun a hF => ?_
    refine wpList_nil ?_
    refine tN ?_
    refine sq ?_
    refine sq ?_
    refine wp_region_lit ?_
    refine st hF (g_load ty_on_2 hF rfl (hM.fz 1 rfl) rfl) rfl fun a hF => st hF (g_sub hF rfl rfl (wrap_i64 (by omega) (by omega))) rfl fun a hF => st hF (g_assign hF rfl) rfl fun a hF => ?_
    refine wpList_nil ?_
    refine tN ?_
    refine wp_block ?_
    change Mem w _ [some (b3, numC (lg) (fun _ => 0))] [(bs, #[.int .i64 ((sz : Nat) : Int)]), (bl, #[.int .i64 ((lg : Nat) : Int)])] at hM
    refine c_loop (fun (kk : Nat) a w' => kk ≤ lg ∧ ∃ (rr : Nat), ∃ (ll : Int), (rr = gk / sz ^ kk ∧ ll = ((lg : Nat) : Int) - 1 - ((kk : Nat) : Int)) ∧ Fr 38 a [(0, .func (.yield l) #[] #[]), (1, ptr bs (0)), (2, ptr bl (0)), (10, .int .i64 ((((sz) ^ (lg) : Nat) : Int))), (11, .int .i64 (((gk : Nat) : Int))), (12, .bool (decide ((((gk : Nat) : Int) : Int) < (((sz) ^ (lg) : Nat) : Int)))), (13, .int .i64 (((gk : Nat) : Int))), (4, .int .i64 (((gk : Nat) : Int))), (14, .int .i64 (((lg : Nat) : Int))), (15, .slice (some ⟨b3, 0, none⟩) (lg) (lg)), (5, .slice (some ⟨b3, 0, none⟩) (lg) (lg)), (16, .int .i64 (((gk : Nat) : Int))), (17, .int .i64 (((lg : Nat) : Int))), (18, .int .i64 (((lg : Nat) : Int) - 1)), (6, .int .i64 (((rr : Nat) : Int))), (7, .int .i64 (ll))] ∧ Mem w w' [some (b3, numC (lg) (Rw.digG sz lg gk kk))] [(bs, #[.int .i64 ((sz : Nat) : Int)]), (bl, #[.int .i64 ((lg : Nat) : Int)])]) (fun kk => lg - kk) 0 ?_ ?_
    ·
     refine ⟨by omega, gk, (((lg : Nat) : Int) - 1), ⟨by rw [Nat.pow_zero, Nat.div_one], by omega⟩, hF.sub _ (by repeat' constructor), ?_⟩
     exact hM.rowc 0 rfl (numC_congr fun c hc => (if_neg (by omega)).symm)
    ·
     clear hF hM
     rintro gj a w' ⟨hgj, rr, ll, hinv2, hF, hM⟩
     have hrr : rr ≤ gk := by rw [hinv2.1]; exact Nat.div_le_self _ _
     have hrs := Nat.div_le_self rr sz
     refine sq ?_
     refine sq ?_
     refine wp_region_lit ?_
     refine st hF (g_move hF rfl) rfl fun a hF => st hF (g_geq hF rfl rfl) rfl fun a hF => ?_
     refine wpList_nil ?_
     refine tN ?_
     refine c_cond hF rfl (fun h4 => ?_) (fun h4 => ?_)
     ·
      refine wp_skip ?_
      refine tN ?_
      refine sq ?_
      refine wp_block ?_
      refine sq ?_
      refine wp_region_lit ?_
      refine st hF (g_move hF rfl) rfl fun a hF => st hF (g_move hF rfl) rfl fun a hF => st hF (g_move hF rfl) rfl fun a hF => st hF (g_load ty_on_2 hF rfl (hM.fz 0 rfl) rfl) rfl fun a hF => st hF (g_rem hF rfl rfl (by omega) (rem_nat (rr) (sz))) rfl fun a hF => st hF (g_indexSl (i := lg - 1 - gj) ty_sl_22 hF rfl rfl (by omega) (by omega)) rfl fun a hF => ?_
      refine stN hF (d_store 0 hM rfl ty_on_2 hF rfl rfl rfl (by first | omega | (simp only [fnC_size, cells_size, vecC_size, tabC_size, planeC_size, tenC_size, smC_size, numC_size, numI_size] <;> omega) | (simp only [Array.size_setIfInBounds]; omega) | simp)) ?_
      intro _ w' a hM hF
      rw [show (numC (lg) (Rw.digG sz lg gk gj)).setIfInBounds (0 + (lg - 1 - gj) * 1) (.int .i64 ((((rr) % (sz) : Nat) : Int))) = numC (lg) (fun c => if c = (lg - 1 - gj) then (rr) % (sz) else (Rw.digG sz lg gk gj) c) from numC_set (k := (lg - 1 - gj)) (by omega) (fun c _ => rfl)] at hM
      change Mem w w' [some (b3, numC (lg) (fun c => if c = (lg - 1 - gj) then (rr) % (sz) else (Rw.digG sz lg gk gj) c))] [(bs, #[.int .i64 ((sz : Nat) : Int)]), (bl, #[.int .i64 ((lg : Nat) : Int)])] at hM
      refine wpList_nil ?_
      refine tN ?_
      refine wp_region_lit ?_
      refine st hF (g_move hF rfl) rfl fun a hF => st hF (g_load ty_on_2 hF rfl (hM.fz 0 rfl) rfl) rfl fun a hF => st hF (g_quo hF rfl rfl (by omega) (quo_nat (rr) (sz) (by omega))) rfl fun a hF => st hF (g_assign hF rfl) rfl fun a hF => ?_
      refine wpList_nil ?_
      refine iN ?_
      refine tN ?_
      refine wp_region_lit ?_
      refine st hF (g_move hF rfl) rfl fun a hF => st hF (g_sub hF rfl rfl (wrap_i64 (by omega) (by omega))) rfl fun a hF => st hF (g_assign hF rfl) rfl fun a hF => ?_
      refine wpList_nil ?_
      refine tN ?_
      refine ⟨gj + 1, ⟨by omega, (rr / sz), (ll - 1), ⟨by rw [hinv2.1]; exact Rw.div_step, by omega⟩, hF.sub _ (by repeat' constructor), ?_⟩, by omega⟩
      exact hM.rowc 0 rfl (numC_congr fun c hc => by rw [← Rw.digG_put (by omega), ← hinv2.1])
     ·
      obtain rfl : lg = gj := by omega
      refine wp_exit ?_
      refine tX ?_
      refine tX ?_
      refine ib_same ?_
      refine tN ?_
      refine sq ?_
      have hM := hM.rowc (cs' := numC (lg) (Rw.digF sz lg gk)) 0 rfl (numC_congr fun c hc => if_pos (by omega))
      refine Rw.region_W ?_
      refine Rw.stW hF (g_move hF rfl) rfl fun a hF => ?_
      refine Rw.stW hF (g_move hF rfl) rfl fun a hF => ?_
      refine Rw.stW hF (g_move hF rfl) rfl fun a hF => ?_
      obtain ⟨fy, ty, ay, by', hy, hR⟩ := hY gk w _ _ (by omega) hJ hM.below ⟨b3, rfl, hM.ge 0 rfl, hM.row 0 rfl⟩
      refine Rw.stYield (R := fun v W' => (v = .bool true ∧ J (gk + 1) W') ∨ (v = .bool false ∧ Jx W')) hF rfl (.cons rfl (.cons rfl .nil)) rfl ⟨fy, ty, ay, by', hy, hR.mono fun e W' h => h.elim (fun h => ⟨_, h.1, .inl ⟨rfl, h.2⟩⟩) (fun h => ⟨_, h.1, .inr ⟨rfl, h.2⟩⟩)⟩ ?_
      rintro v w' a (⟨rfl, hJ3⟩ | ⟨rfl, hX3⟩) hF
      ·
       refine Rw.stW hF (g_not hF rfl) rfl fun a hF => ?_
       refine Rw.nilW ?_
       have hcap := hJK _ _ hJ3
       have hM : Mem w' w' [none] [(bs, #[.int .i64 ((sz : Nat) : Int)]), (bl, #[.int .i64 ((lg : Nat) : Int)])] := MemX.startD w' 1 _ (startD2 hcap.1 hcap.2)
       refine tN ?_
       refine c_Fl hF rfl ?_
       refine wp_skip ?_
       refine iN ?_
       refine tN ?_
       refine wp_region_lit ?_
       refine st hF (g_add hF rfl rfl (add_nat (gk) (1) (by omega))) rfl fun a hF => st hF (g_move hF rfl) rfl fun a hF => ?_
       refine wpList_nil ?_
       refine tN ?_
       refine ⟨gk + 1, ⟨by omega, w', hJ3, hF.sub _ (by repeat' constructor), ?_⟩, by omega⟩
       exact hM
      ·
       refine Rw.stW hF (g_not hF rfl) rfl fun a hF => ?_
       refine Rw.nilW ?_
       refine tN ?_
       refine c_T hF rfl ?_
       refine wp_ret ?_
       refine iR ?_
       refine tR ?_
       refine tR ?_
       refine iR ?_
       refine fin0 rfl hF.defers ⟨⟨_, rfl⟩, ?_⟩
       exact .inr hX3
   ·
    obtain rfl : sz ^ lg = gk := by omega
    refine wp_exit ?_
    refine tX ?_
    refine tX ?_
    refine ib_same ?_
    refine fin0n rfl hF.defers ⟨⟨_, rfl⟩, ?_⟩
    exact .inl (hJe _ _ _ hJ hM.below)

end Go.Proofs.Ytlpccepifehilaa

namespace Go.Proofs.Ytlpccepifehilaa
open Go Go.RowKit Go.Sw Go.Ech
open Classical
theorem plF_bd {s j : Nat} {g : Nat → Nat} (hs : s ≤ 6) (hj : j ≤ 16) (h : ∀ c, g c < s) : Rw.plF s g j < 2821109907457 := by
  have h1 := Rw.plF_lt h j
  have h2 := pow_bd hs hj
  omega

theorem placeOf_ok (s b c l : Nat) (g : Nat → Nat) (w : World) (hs : s ≤ 6) (hl : l ≤ 16) (hg : ∀ c, g c < s) (hb : Blk w b (numC l g)) :
    CallsR Try.prog 43 #[.int .i64 (((s : Nat) : Int)), .slice (some ⟨b, 0, none⟩) (l) (c)] w (fun res _ => res = .int .i64 ((Rw.plF s g l : Nat) : Int)) := by
  refine calls_fr [.int .i64 (((s : Nat) : Int)), .slice (some ⟨b, 0, none⟩) (l) (c)] Try.func43 rfl Try.ntmps43 rfl fun a hF => ?_
  have hM : Mem w w [] [(b, numC l g)] := MemX.startD w 0 _ (startD1 hb)
  change Fr 21 a [(0, .int .i64 (((s : Nat) : Int))), (1, .slice (some ⟨b, 0, none⟩) (l) (c))] at hF
  refine sq ?_
  refine wp_region_lit ?_
  refine st hF (g_assign hF rfl) rfl fun a hF => ?_
  refine wpList_nil ?_
  refine tN ?_
  refine sq ?_
  refine wp_region_lit ?_
  refine st hF (g_assign hF rfl) rfl fun a hF => ?_
  refine wpList_nil ?_
  refine tN ?_
  refine sq ?_
  refine sq ?_
  refine wp_region_lit ?_
  refine st hF (g_move hF rfl) rfl fun a hF => st hF (g_len ty_us_22 hF rfl) rfl fun a hF => st hF (g_move hF rfl) rfl fun a hF => ?_
  refine wpList_nil ?_
  refine tN ?_
  refine wp_block ?_
  change Mem w _ [] [(b, numC l g)] at hM
  refine c_loop (fun (kk : Nat) a w' => kk ≤ l ∧ (True) ∧ Fr 21 a [(0, .int .i64 (((s : Nat) : Int))), (4, .int .i64 (0)), (8, .slice (some ⟨b, 0, none⟩) (l) (c)), (9, .int .i64 (((l : Nat) : Int))), (10, .int .i64 (((kk : Nat) : Int))), (5, .int .i64 (((Rw.plF s g kk : Nat) : Int)))] ∧ Mem w w' [] [(b, numC l g)]) (fun kk => l - kk) 0 ?_ ?_
  ·
   refine ⟨by omega, trivial, hF.sub _ (by repeat' constructor), ?_⟩
   exact hM
  ·
   clear hF hM
   rintro gk a w' ⟨hgk, hinv1, hF, hM⟩
   have hgk2 := hg gk
   have hpl : gk < l → Rw.plF s g gk < 2821109907457 := fun q => plF_bd hs (by omega) hg
   have hpm : Rw.plF s g gk * s ≤ Rw.plF s g gk * 6 := Nat.mul_le_mul_left _ hs
   refine sq ?_
   refine wp_region_lit ?_
   refine st hF (g_lss hF rfl rfl) rfl fun a hF => ?_
   refine wpList_nil ?_
   refine tN ?_
   refine sq ?_
   refine c_cond hF rfl (fun h1 => ?_) (fun h1 => ?_)
   ·
    refine wp_skip ?_
    refine tN ?_
    refine sq ?_
    refine wp_block ?_
    refine sq ?_
    refine wp_region_lit ?_
    refine st hF (g_indexSl (i := gk) ty_sl_22 hF rfl rfl rfl (by omega)) rfl fun a hF => st hF (g_load ty_on_2 hF rfl (hM.fz 0 rfl) (numC_get (k := gk) (by omega) (by omega))) rfl fun a hF => st hF (g_assign hF rfl) rfl fun a hF => ?_
    refine wpList_nil ?_
    refine tN ?_
    refine wp_region_lit ?_
    refine st hF (g_move hF rfl) rfl fun a hF => st hF (g_move hF rfl) rfl fun a hF => st hF (g_mul hF rfl rfl (mul_nat (Rw.plF s g gk) s (by omega))) rfl fun a hF => st hF (g_move hF rfl) rfl fun a hF => st hF (g_add hF rfl rfl (show _ = ((Rw.plF s g (gk + 1) : Nat) : Int) from (add_nat (Rw.plF s g gk * s) (g gk) (by omega)))) rfl fun a hF => st hF (g_assign hF rfl) rfl fun a hF => ?_
    refine wpList_nil ?_
    refine iN ?_
    refine tN ?_
    refine wp_region_lit ?_
    refine st hF (g_add hF rfl rfl (add_nat (gk) (1) (by omega))) rfl fun a hF => st hF (g_move hF rfl) rfl fun a hF => ?_
    refine wpList_nil ?_
    refine tN ?_
    refine ⟨gk + 1, ⟨by omega, trivial, hF.sub _ (by repeat' constructor), ?_⟩, by omega⟩
    exact hM
   ·
    obtain rfl : l = gk := by omega
    refine wp_exit ?_
    refine tX ?_
    refine tX ?_
    refine ib_same ?_
    refine tN ?_
    refine sq ?_
    refine wp_region_lit ?_
    refine st hF (g_move hF rfl) rfl fun a hF => st hF (g_assign hF rfl) rfl fun a hF => ?_
    refine wpList_nil ?_
    refine tN ?_
    refine wp_ret ?_
    refine fin1 rfl hF.defers (res_tmp hF rfl) ⟨_, rfl, hM.below, ?_⟩
    show _ = _
    rfl

set_option maxRecDepth 100000 in
theorem permuted_ok (p n i o b bo co : Nat) (f ord : Nat → Nat) (cso : Array Value) (w : World) (hn0 : 0 < n) (hn : n ≤ 6) (hw : wl n i o) (hff : ∀ c, f c < 1000) (hb : Blk w b (numC (n ^ (i + o)) f)) (hbo : Blk w bo cso) (hgo : ∀ c, c < i + o → cso[0 + c * 1]? = some (.int .i64 ((ord c : Nat) : Int))) (hord : ∀ c, c < i + o → ord c < i + o) :
    CallsR Try.prog 27 #[.agg (tenC (p : Int) (n : Int) (i : Int) (o : Int) (.slice (some ⟨b, 0, none⟩) (n ^ (i + o)) (n ^ (i + o)))), .slice (some ⟨bo, 0, none⟩) ((i + o)) (co)] w (fun v w' => TenOut w w' (p : Int) (n : Int) (i : Int) (o : Int) (n ^ (i + o)) (Rw.pmF n (i + o) ord f) v) := by
  refine Rw.calls_frM [.agg (tenC (p : Int) (n : Int) (i : Int) (o : Int) (.slice (some ⟨b, 0, none⟩) (n ^ (i + o)) (n ^ (i + o)))), .slice (some ⟨bo, 0, none⟩) ((i + o)) (co)] Try.func27 rfl Try.ntmps27 rfl fun a hF => ?_
  have hM : Mem w w [none, none, none, none, none, none] [(b, numC (n ^ (i + o)) f), (bo, cso)] := MemX.startD w 6 _ (startD2 hb hbo)
  change Fr 61 a [(0, .agg (tenC (p : Int) (n : Int) (i : Int) (o : Int) (.slice (some ⟨b, 0, none⟩) (n ^ (i + o)) (n ^ (i + o))))), (1, .slice (some ⟨bo, 0, none⟩) ((i + o)) (co))] at hF
  have hw3 := hw.2.2
  have hw1 := hw.1
  have hw2 := hw.2.1
  have hmo : (bo, cso) ∈ ([(b, numC (n ^ (i + o)) f), (bo, cso)] : Froz) := List.mem_cons_of_mem _ (List.mem_cons_self ..)
  refine sq ?_
  refine wp_region_lit ?_
  refine stR hF (d_box 0 hM hF rfl) rfl ?_
  rintro _ w' a ⟨b1, rfl, hM, -⟩ hF
  change Mem w w' [some (b1, tenC (p : Int) (n : Int) (i : Int) (o : Int) (.slice (some ⟨b, 0, none⟩) (n ^ (i + o)) (n ^ (i + o)))), none, none, none, none, none] [(b, numC (n ^ (i + o)) f), (bo, cso)] at hM
  refine stR hF (d_box 1 hM hF rfl) rfl ?_
  rintro _ w' a ⟨b2, rfl, hM, -⟩ hF
  change Mem w w' [some (b1, tenC (p : Int) (n : Int) (i : Int) (o : Int) (.slice (some ⟨b, 0, none⟩) (n ^ (i + o)) (n ^ (i + o)))), some (b2, #[.slice (some ⟨bo, 0, none⟩) ((i + o)) (co)]), none, none, none, none] [(b, numC (n ^ (i + o)) f), (bo, cso)] at hM
  refine stR hF (d_alloc 2 hM ty_ze_26) rfl ?_
  rintro _ w' a ⟨b3, rfl, hM, -⟩ hF
  change Mem w w' [some (b1, tenC (p : Int) (n : Int) (i : Int) (o : Int) (.slice (some ⟨b, 0, none⟩) (n ^ (i + o)) (n ^ (i + o)))), some (b2, #[.slice (some ⟨bo, 0, none⟩) ((i + o)) (co)]), some (b3, tenC 0 0 0 0 (.slice none 0 0)), none, none, none] [(b, numC (n ^ (i + o)) f), (bo, cso)] at hM
  refine wpList_nil ?_
  refine tN ?_
  refine sq ?_
  refine wp_region_lit ?_
  refine st hF (g_fieldAddr ty_fo_26_0 hF rfl) rfl fun a hF => st hF (g_load ty_on_2 hF rfl (hM.row 0 rfl) (tenC_0 (by omega))) rfl fun a hF => st hF (g_fieldAddr ty_fo_26_1 hF rfl) rfl fun a hF => st hF (g_load ty_on_2 hF rfl (hM.row 0 rfl) (tenC_1 (by omega))) rfl fun a hF => st hF (g_fieldAddr ty_fo_26_2 hF rfl) rfl fun a hF => st hF (g_load ty_on_2 hF rfl (hM.row 0 rfl) (tenC_2 (by omega))) rfl fun a hF => st hF (g_fieldAddr ty_fo_26_3 hF rfl) rfl fun a hF => st hF (g_load ty_on_2 hF rfl (hM.row 0 rfl) (tenC_3 (by omega))) rfl fun a hF => ?_
  refine stR hF (d_call Try.call41 hF (.cons rfl (.cons rfl (.cons rfl (.cons rfl .nil)))) (zeroTensor_ok (p) (n) (i) (o) _ (by omega) (by omega) hw)) rfl ?_
  rintro _ w' a ⟨hx, b4, rfl, hge, hbk⟩ hF
  have hM := hM.fill hx 3 hbk hge
  change Mem w w' [some (b1, tenC (p : Int) (n : Int) (i : Int) (o : Int) (.slice (some ⟨b, 0, none⟩) (n ^ (i + o)) (n ^ (i + o)))), some (b2, #[.slice (some ⟨bo, 0, none⟩) ((i + o)) (co)]), some (b3, tenC 0 0 0 0 (.slice none 0 0)), some (b4, numC ((n) ^ ((i) + (o))) (fun _ => 0)), none, none] [(b, numC (n ^ (i + o)) f), (bo, cso)] at hM
  refine stR hF (d_alloc 4 hM ty_ze_26) rfl ?_
  rintro _ w' a ⟨b5, rfl, hM, -⟩ hF
  change Mem w w' [some (b1, tenC (p : Int) (n : Int) (i : Int) (o : Int) (.slice (some ⟨b, 0, none⟩) (n ^ (i + o)) (n ^ (i + o)))), some (b2, #[.slice (some ⟨bo, 0, none⟩) ((i + o)) (co)]), some (b3, tenC 0 0 0 0 (.slice none 0 0)), some (b4, numC ((n) ^ ((i) + (o))) (fun _ => 0)), some (b5, tenC 0 0 0 0 (.slice none 0 0)), none] [(b, numC (n ^ (i + o)) f), (bo, cso)] at hM
  refine stN hF (d_storeAgg 4 hM rfl ty_sz_26 hF rfl rfl (tenC_one rfl) (by simp only [fnC_size, cells_size, vecC_size, tabC_size, planeC_size, tenC_size, smC_size, numC_size, numI_size]) (by simp only [fnC_size, cells_size, vecC_size, tabC_size, planeC_size, tenC_size, smC_size, numC_size, numI_size] <;> omega) (splice_whole _ _ rfl)) ?_
  intro _ w' a hM hF
  change Mem w w' [some (b1, tenC (p : Int) (n : Int) (i : Int) (o : Int) (.slice (some ⟨b, 0, none⟩) (n ^ (i + o)) (n ^ (i + o)))), some (b2, #[.slice (some ⟨bo, 0, none⟩) ((i + o)) (co)]), some (b3, tenC 0 0 0 0 (.slice none 0 0)), some (b4, numC ((n) ^ ((i) + (o))) (fun _ => 0)), some (b5, tenC ((p : Nat) : Int) ((n : Nat) : Int) ((i : Nat) : Int) ((o : Nat) : Int) (.slice (some ⟨b4, 0, none⟩) ((n) ^ ((i) + (o))) ((n) ^ ((i) + (o))))), none] [(b, numC (n ^ (i + o)) f), (bo, cso)] at hM
  refine wpList_nil ?_
  refine tN ?_
  refine sq ?_
  refine sq ?_
  refine wp_region_lit ?_
  refine st hF (g_fieldAddr ty_fo_26_1 hF rfl) rfl fun a hF => st hF (g_load ty_on_2 hF rfl (hM.row 0 rfl) (tenC_1 (by omega))) rfl fun a hF => st hF (g_fieldAddr ty_fo_26_2 hF rfl) rfl fun a hF => st hF (g_load ty_on_2 hF rfl (hM.row 0 rfl) (tenC_2 (by omega))) rfl fun a hF => st hF (g_fieldAddr ty_fo_26_3 hF rfl) rfl fun a hF => st hF (g_load ty_on_2 hF rfl (hM.row 0 rfl) (tenC_3 (by omega))) rfl fun a hF => st hF (g_add hF rfl rfl (add_nat (i) (o) (by omega))) rfl fun a hF => ?_
  refine stR hF (d_call Try.call42 hF (.cons rfl (.cons rfl .nil)) (choices_ok (n) (i + o) _)) rfl ?_
  rintro _ w' a ⟨hx, bs, bl, rfl, hgs, hgl, hcs, hcl⟩ hF
  have hM := hM.addD (D' := [(bs, #[.int .i64 ((n : Nat) : Int)]), (bl, #[.int .i64 ((i + o : Nat) : Int)])]) hx (fun b cs hm => by
    rcases List.mem_cons.1 hm with e | hm
    · simp only [Prod.mk.injEq] at e; obtain ⟨rfl, rfl⟩ := e; exact ⟨hgs, hcs⟩
    · simp only [List.mem_singleton, Prod.mk.injEq] at hm; obtain ⟨rfl, rfl⟩ := hm; exact ⟨hgl, hcl⟩)
  change Mem w w' [some (b1, tenC (p : Int) (n : Int) (i : Int) (o : Int) (.slice (some ⟨b, 0, none⟩) (n ^ (i + o)) (n ^ (i + o)))), some (b2, #[.slice (some ⟨bo, 0, none⟩) ((i + o)) (co)]), some (b3, tenC 0 0 0 0 (.slice none 0 0)), some (b4, numC ((n) ^ ((i) + (o))) (fun _ => 0)), some (b5, tenC ((p : Nat) : Int) ((n : Nat) : Int) ((i : Nat) : Int) ((o : Nat) : Int) (.slice (some ⟨b4, 0, none⟩) ((n) ^ ((i) + (o))) ((n) ^ ((i) + (o))))), none] [(bs, #[.int .i64 ((n : Nat) : Int)]), (bl, #[.int .i64 ((i + o : Nat) : Int)]), (b, numC (n ^ (i + o)) f), (bo, cso)] at hM
  refine wpList_nil ?_
  refine tN ?_
  refine wp_block ?_
  have hszR := hM.bel.size
  have hM : Mem w _ [some (b1, tenC (p : Int) (n : Int) (i : Int) (o : Int) (.slice (some ⟨b, 0, none⟩) (n ^ (i + o)) (n ^ (i + o)))), some (b2, #[.slice (some ⟨bo, 0, none⟩) ((i + o)) (co)]), some (b3, tenC 0 0 0 0 (.slice none 0 0)), some (b4, numC (n ^ (i + o)) (fun c => if c < 0 then Rw.pmF n (i + o) ord f c else 0)), some (b5, tenC ((p : Nat) : Int) ((n : Nat) : Int) ((i : Nat) : Int) ((o : Nat) : Int) (.slice (some ⟨b4, 0, none⟩) ((n) ^ ((i) + (o))) ((n) ^ ((i) + (o))))), none] [(bs, #[.int .i64 ((n : Nat) : Int)]), (bl, #[.int .i64 ((i + o : Nat) : Int)]), (b, numC (n ^ (i + o)) f), (bo, cso)] := hM.rowc 3 rfl (numC_congr fun c hc => (if_neg (Nat.not_lt_zero _)).symm)
  refine Rw.c_rangeFn (N := (n) ^ (i + o)) (arg := Rw.ArgCh (n) (i + o)) (K := Rw.CapK bs bl (n) (i + o)) hF.defers (hF.eval rfl) Try.call54 (choicesIt bs bl (n) (i + o) (by omega) (by omega) (by omega)) ?_ ?_ (fun k W => Mem w W [some (b1, tenC (p : Int) (n : Int) (i : Int) (o : Int) (.slice (some ⟨b, 0, none⟩) (n ^ (i + o)) (n ^ (i + o)))), some (b2, #[.slice (some ⟨bo, 0, none⟩) ((i + o)) (co)]), some (b3, tenC 0 0 0 0 (.slice none 0 0)), some (b4, numC (n ^ (i + o)) (fun c => if c < k then Rw.pmF n (i + o) ord f c else 0)), some (b5, tenC ((p : Nat) : Int) ((n : Nat) : Int) ((i : Nat) : Int) ((o : Nat) : Int) (.slice (some ⟨b4, 0, none⟩) ((n) ^ ((i) + (o))) ((n) ^ ((i) + (o))))), none] [(bs, #[.int .i64 ((n : Nat) : Int)]), (bl, #[.int .i64 ((i + o : Nat) : Int)]), (b, numC (n ^ (i + o)) f), (bo, cso)]) (fun _ => False) ?_ ?_ ?_ ?_ hM (fun args a1 => ∃ k bn, args = #[.int .i64 ((k : Nat) : Int), .slice (some ⟨bn, 0, none⟩) (i + o) (i + o)] ∧ Fr 61 a1 [(7, .slice (some ⟨bn, 0, none⟩) (i + o) (i + o)), (6, .int .i64 (((k : Nat) : Int))), (0, .agg (tenC (p : Int) (n : Int) (i : Int) (o : Int) (.slice (some ⟨b, 0, none⟩) (n ^ (i + o)) (n ^ (i + o))))), (1, .slice (some ⟨bo, 0, none⟩) ((i + o)) (co)), (2, ptr b1 (0)), (3, ptr b2 (0)), (4, ptr b3 (0)), (11, ptr b1 (0 + 0)), (12, .int .i64 (((p : Nat) : Int))), (13, ptr b1 (0 + 1)), (14, .int .i64 (((n : Nat) : Int))), (15, ptr b1 (0 + 2)), (16, .int .i64 (((i : Nat) : Int))), (17, ptr b1 (0 + 3)), (18, .int .i64 (((o : Nat) : Int))), (19, .agg (tenC ((p : Nat) : Int) ((n : Nat) : Int) ((i : Nat) : Int) ((o : Nat) : Int) (.slice (some ⟨b4, 0, none⟩) ((n) ^ ((i) + (o))) ((n) ^ ((i) + (o)))))), (5, ptr b5 (0)), (20, ptr b1 (0 + 1)), (21, .int .i64 (((n : Nat) : Int))), (22, ptr b1 (0 + 2)), (23, .int .i64 (((i : Nat) : Int))), (24, ptr b1 (0 + 3)), (25, .int .i64 (((o : Nat) : Int))), (26, .int .i64 (((i + o : Nat) : Int))), (27, .func (.func 54) #[] #[ptr bs 0, ptr bl 0])]) ?_ ?_ ?_ ?_
  · rintro k A B args ⟨bn, rfl, _, _⟩; rfl
  · exact fun k A B args l o o' h hA hB => Rw.argCh_put A B args l o o' h hB
  · exact fun _ _ _ h hx => h.ext hx
  · exact fun _ _ _ _ o' hge h hl => Rw.mem_put h o' hl (fun _ _ e => by cases e) (Nat.le_trans hszR hge)
  · exact fun _ _ _ _ _ h _ => h.elim
  · exact fun _ _ h => ⟨h.fzm (by simp), h.fzm (by simp)⟩
  ·
   rintro l k A B args K ⟨bn, rfl, hgebn, hbn⟩ hK
   have hF := Rw.round2 (p := 28) (q := 29) (u := .int .i64 ((k : Nat) : Int)) (v := .slice (some ⟨bn, 0, none⟩) (i + o) (i + o)) hF rfl rfl
   refine Rw.sq ?_
   refine Rw.wp_region_lit ?_
   refine st hF (g_assign hF rfl) rfl fun a hF => ?_
   refine wpList_nil ?_
   refine tN ?_
   refine Rw.wp_region_lit ?_
   refine st hF (g_assign hF rfl) rfl fun a hF => ?_
   refine wpList_nil ?_
   refine tN ?_
   exact hK _ ⟨k, bn, rfl, hF.sub _ (by repeat' constructor)⟩
  ·
   rintro l gk A w args a hgk hA hxA ⟨bn, rfl, hgebn, hbn⟩ ⟨k', bn', he, hF⟩
   obtain ⟨rfl, rfl⟩ := Rw.args_inj he
   clear he
   have hA2 := hA.addD (D' := [(bn, numC (i + o) (Rw.digF (n) (i + o) gk))]) hxA (fun b cs hm => by simp only [List.mem_singleton, Prod.mk.injEq] at hm; obtain ⟨rfl, rfl⟩ := hm; exact ⟨hgebn, hbn⟩)
   have hM := Rw.rebase hA2
   change MemX (Rw.blks [some (b1, tenC (p : Int) (n : Int) (i : Int) (o : Int) (.slice (some ⟨b, 0, none⟩) (n ^ (i + o)) (n ^ (i + o)))), some (b2, #[.slice (some ⟨bo, 0, none⟩) ((i + o)) (co)]), some (b3, tenC 0 0 0 0 (.slice none 0 0)), some (b4, numC (n ^ (i + o)) (fun c => if c < gk then Rw.pmF n (i + o) ord f c else 0)), some (b5, tenC ((p : Nat) : Int) ((n : Nat) : Int) ((i : Nat) : Int) ((o : Nat) : Int) (.slice (some ⟨b4, 0, none⟩) ((n) ^ ((i) + (o))) ((n) ^ ((i) + (o))))), none]) w w [some (b1, tenC (p : Int) (n : Int) (i : Int) (o : Int) (.slice (some ⟨b, 0, none⟩) (n ^ (i + o)) (n ^ (i + o)))), some (b2, #[.slice (some ⟨bo, 0, none⟩) ((i + o)) (co)]), some (b3, tenC 0 0 0 0 (.slice none 0 0)), some (b4, numC (n ^ (i + o)) (fun c => if c < gk then Rw.pmF n (i + o) ord f c else 0)), some (b5, tenC ((p : Nat) : Int) ((n : Nat) : Int) ((i : Nat) : Int) ((o : Nat) : Int) (.slice (some ⟨b4, 0, none⟩) ((n) ^ ((i) + (o))) ((n) ^ ((i) + (o))))), none] [(bn, numC (i + o) (Rw.digF (n) (i + o) gk)), (bs, #[.int .i64 ((n : Nat) : Int)]), (bl, #[.int .i64 ((i + o : Nat) : Int)]), (b, numC (n ^ (i + o)) f), (bo, cso)] at hM
   have hdg : ∀ c, Rw.digF n (i + o) gk c < n := fun c => Rw.digF_lt hn0
   have hog : ∀ c, Rw.orgF ord (Rw.digF n (i + o) gk) (i + o) c < n := fun c => Rw.orgF_lt hn0 hdg _ _
   have hplb := Rw.plF_lt hog (i + o)
   refine Rw.wp_block ?_
   refine Rw.sq ?_
   refine Rw.wp_region_lit ?_
   refine st hF (g_load ty_on_22 hF rfl (hM.row 1 rfl) rfl) rfl fun a hF => st hF (g_len ty_us_22 hF rfl) rfl fun a hF => ?_
   refine stR hF (d_make1 (len := (i + o)) 5 hM hF ty_si_22 rfl rfl rfl (by omega) (by decide)) rfl ?_
   rintro _ w' a ⟨b7, rfl, hM, -⟩ hF
   change MemX (Rw.blks [some (b1, tenC (p : Int) (n : Int) (i : Int) (o : Int) (.slice (some ⟨b, 0, none⟩) (n ^ (i + o)) (n ^ (i + o)))), some (b2, #[.slice (some ⟨bo, 0, none⟩) ((i + o)) (co)]), some (b3, tenC 0 0 0 0 (.slice none 0 0)), some (b4, numC (n ^ (i + o)) (fun c => if c < gk then Rw.pmF n (i + o) ord f c else 0)), some (b5, tenC ((p : Nat) : Int) ((n : Nat) : Int) ((i : Nat) : Int) ((o : Nat) : Int) (.slice (some ⟨b4, 0, none⟩) ((n) ^ ((i) + (o))) ((n) ^ ((i) + (o))))), none]) w w' [some (b1, tenC (p : Int) (n : Int) (i : Int) (o : Int) (.slice (some ⟨b, 0, none⟩) (n ^ (i + o)) (n ^ (i + o)))), some (b2, #[.slice (some ⟨bo, 0, none⟩) ((i + o)) (co)]), some (b3, tenC 0 0 0 0 (.slice none 0 0)), some (b4, numC (n ^ (i + o)) (fun c => if c < gk then Rw.pmF n (i + o) ord f c else 0)), some (b5, tenC ((p : Nat) : Int) ((n : Nat) : Int) ((i : Nat) : Int) ((o : Nat) : Int) (.slice (some ⟨b4, 0, none⟩) ((n) ^ ((i) + (o))) ((n) ^ ((i) + (o))))), some (b7, numC ((i + o)) (fun _ => 0))] [(bn, numC (i + o) (Rw.digF (n) (i + o) gk)), (bs, #[.int .i64 ((n : Nat) : Int)]), (bl, #[.int .i64 ((i + o : Nat) : Int)]), (b, numC (n ^ (i + o)) f), (bo, cso)] at hM
   refine st hF (g_assign hF rfl) rfl fun a hF => ?_
   refine wpList_nil ?_
   refine tN ?_
   refine Rw.sq ?_
   refine Rw.sq ?_
   refine Rw.wp_region_lit ?_
   refine st hF (g_move hF rfl) rfl fun a hF => st hF (g_len ty_us_22 hF rfl) rfl fun a hF => st hF (g_move hF rfl) rfl fun a hF => ?_
   refine wpList_nil ?_
   refine tN ?_
   refine Rw.wp_block ?_
   change MemX (Rw.blks [some (b1, tenC (p : Int) (n : Int) (i : Int) (o : Int) (.slice (some ⟨b, 0, none⟩) (n ^ (i + o)) (n ^ (i + o)))), some (b2, #[.slice (some ⟨bo, 0, none⟩) ((i + o)) (co)]), some (b3, tenC 0 0 0 0 (.slice none 0 0)), some (b4, numC (n ^ (i + o)) (fun c => if c < gk then Rw.pmF n (i + o) ord f c else 0)), some (b5, tenC ((p : Nat) : Int) ((n : Nat) : Int) ((i : Nat) : Int) ((o : Nat) : Int) (.slice (some ⟨b4, 0, none⟩) ((n) ^ ((i) + (o))) ((n) ^ ((i) + (o))))), none]) w _ [some (b1, tenC (p : Int) (n : Int) (i : Int) (o : Int) (.slice (some ⟨b, 0, none⟩) (n ^ (i + o)) (n ^ (i + o)))), some (b2, #[.slice (some ⟨bo, 0, none⟩) ((i + o)) (co)]), some (b3, tenC 0 0 0 0 (.slice none 0 0)), some (b4, numC (n ^ (i + o)) (fun c => if c < gk then Rw.pmF n (i + o) ord f c else 0)), some (b5, tenC ((p : Nat) : Int) ((n : Nat) : Int) ((i : Nat) : Int) ((o : Nat) : Int) (.slice (some ⟨b4, 0, none⟩) ((n) ^ ((i) + (o))) ((n) ^ ((i) + (o))))), some (b7, numC ((i + o)) (fun _ => 0))] [(bn, numC (i + o) (Rw.digF (n) (i + o) gk)), (bs, #[.int .i64 ((n : Nat) : Int)]), (bl, #[.int .i64 ((i + o : Nat) : Int)]), (b, numC (n ^ (i + o)) f), (bo, cso)] at hM
   refine Rw.c_loop (fun (kk : Nat) a w' => kk ≤ (i + o) ∧ (True) ∧ Fr 61 a [(6, .int .i64 (((gk : Nat) : Int))), (2, ptr b1 (0)), (3, ptr b2 (0)), (4, ptr b3 (0)), (5, ptr b5 (0)), (8, .slice (some ⟨b7, 0, none⟩) ((i + o)) ((i + o))), (33, .slice (some ⟨bn, 0, none⟩) (i + o) (i + o)), (34, .int .i64 (((i + o : Nat) : Int))), (35, .int .i64 (((kk : Nat) : Int)))] ∧ MemX (Rw.blks [some (b1, tenC (p : Int) (n : Int) (i : Int) (o : Int) (.slice (some ⟨b, 0, none⟩) (n ^ (i + o)) (n ^ (i + o)))), some (b2, #[.slice (some ⟨bo, 0, none⟩) ((i + o)) (co)]), some (b3, tenC 0 0 0 0 (.slice none 0 0)), some (b4, numC (n ^ (i + o)) (fun c => if c < gk then Rw.pmF n (i + o) ord f c else 0)), some (b5, tenC ((p : Nat) : Int) ((n : Nat) : Int) ((i : Nat) : Int) ((o : Nat) : Int) (.slice (some ⟨b4, 0, none⟩) ((n) ^ ((i) + (o))) ((n) ^ ((i) + (o))))), none]) w w' [some (b1, tenC (p : Int) (n : Int) (i : Int) (o : Int) (.slice (some ⟨b, 0, none⟩) (n ^ (i + o)) (n ^ (i + o)))), some (b2, #[.slice (some ⟨bo, 0, none⟩) ((i + o)) (co)]), some (b3, tenC 0 0 0 0 (.slice none 0 0)), some (b4, numC (n ^ (i + o)) (fun c => if c < gk then Rw.pmF n (i + o) ord f c else 0)), some (b5, tenC ((p : Nat) : Int) ((n : Nat) : Int) ((i : Nat) : Int) ((o : Nat) : Int) (.slice (some ⟨b4, 0, none⟩) ((n) ^ ((i) + (o))) ((n) ^ ((i) + (o))))), some (b7, numC (i + o) (Rw.orgF ord (Rw.digF (n) (i + o) gk) kk))] [(bn, numC (i + o) (Rw.digF (n) (i + o) gk)), (bs, #[.int .i64 ((n : Nat) : Int)]), (bl, #[.int .i64 ((i + o : Nat) : Int)]), (b, numC (n ^ (i + o)) f), (bo, cso)]) (fun kk => (i + o) - kk) 0 ?_ ?_
   ·
    refine ⟨by omega, trivial, hF.sub _ (by repeat' constructor), ?_⟩
    exact hM.rowc 5 rfl (numC_congr fun c hc => rfl)
   ·
    clear hF hM
    rintro gl a w' ⟨hgl, hinv1, hF, hM⟩
    have hol := hord gl
    have hdl := hdg gl
    refine Rw.sq ?_
    refine Rw.wp_region_lit ?_
    refine st hF (g_lss hF rfl rfl) rfl fun a hF => ?_
    refine wpList_nil ?_
    refine tN ?_
    refine Rw.sq ?_
    refine Rw.c_cond hF rfl (fun h8 => ?_) (fun h8 => ?_)
    ·
     refine Rw.wp_skip ?_
     refine tN ?_
     refine Rw.sq ?_
     refine Rw.wp_block ?_
     refine Rw.sq ?_
     refine Rw.wp_region_lit ?_
     refine st hF (g_move hF rfl) rfl fun a hF => st hF (g_indexSl (i := gl) ty_sl_22 hF rfl rfl rfl (by omega)) rfl fun a hF => st hF (g_load ty_on_2 hF rfl (hM.fzm (List.mem_cons_self ..)) (numC_get (k := gl) (by omega) (by omega))) rfl fun a hF => st hF (g_assign hF rfl) rfl fun a hF => st hF (g_assign hF rfl) rfl fun a hF => ?_
     refine wpList_nil ?_
     refine tN ?_
     refine Rw.wp_region_lit ?_
     refine st hF (g_move hF rfl) rfl fun a hF => st hF (g_load ty_on_22 hF rfl (hM.row 1 rfl) rfl) rfl fun a hF => st hF (g_move hF rfl) rfl fun a hF => st hF (g_indexSl (i := gl) ty_sl_22 hF rfl rfl rfl (by omega)) rfl fun a hF => st hF (g_load ty_on_2 hF rfl (hM.fzm (b := bo) (cs := cso) (by simp)) (hgo (gl) (by omega))) rfl fun a hF => st hF (g_move hF rfl) rfl fun a hF => st hF (g_indexSl (i := ord (gl)) ty_sl_22 hF rfl rfl rfl (by omega)) rfl fun a hF => ?_
     refine stN hF (d_store 5 hM rfl ty_on_2 hF rfl rfl rfl (by first | omega | (simp only [fnC_size, cells_size, vecC_size, tabC_size, planeC_size, tenC_size, smC_size, numC_size, numI_size] <;> omega) | (simp only [Array.size_setIfInBounds]; omega) | simp)) ?_
     intro _ w' a hM hF
     rw [show (numC (i + o) (Rw.orgF ord (Rw.digF (n) (i + o) gk) gl)).setIfInBounds (0 + (ord (gl)) * 1) (.int .i64 (((Rw.digF (n) (i + o) gk (gl) : Nat) : Int))) = numC (i + o) (fun c => if c = (ord (gl)) then Rw.digF (n) (i + o) gk (gl) else (Rw.orgF ord (Rw.digF (n) (i + o) gk) gl) c) from numC_set (k := (ord (gl))) (by omega) (fun c _ => rfl)] at hM
     change MemX (Rw.blks [some (b1, tenC (p : Int) (n : Int) (i : Int) (o : Int) (.slice (some ⟨b, 0, none⟩) (n ^ (i + o)) (n ^ (i + o)))), some (b2, #[.slice (some ⟨bo, 0, none⟩) ((i + o)) (co)]), some (b3, tenC 0 0 0 0 (.slice none 0 0)), some (b4, numC (n ^ (i + o)) (fun c => if c < gk then Rw.pmF n (i + o) ord f c else 0)), some (b5, tenC ((p : Nat) : Int) ((n : Nat) : Int) ((i : Nat) : Int) ((o : Nat) : Int) (.slice (some ⟨b4, 0, none⟩) ((n) ^ ((i) + (o))) ((n) ^ ((i) + (o))))), none]) w w' [some (b1, tenC (p : Int) (n : Int) (i : Int) (o : Int) (.slice (some ⟨b, 0, none⟩) (n ^ (i + o)) (n ^ (i + o)))), some (b2, #[.slice (some ⟨bo, 0, none⟩) ((i + o)) (co)]), some (b3, tenC 0 0 0 0 (.slice none 0 0)), some (b4, numC (n ^ (i + o)) (fun c => if c < gk then Rw.pmF n (i + o) ord f c else 0)), some (b5, tenC ((p : Nat) : Int) ((n : Nat) : Int) ((i : Nat) : Int) ((o : Nat) : Int) (.slice (some ⟨b4, 0, none⟩) ((n) ^ ((i) + (o))) ((n) ^ ((i) + (o))))), some (b7, numC (i + o) (fun c => if c = (ord (gl)) then Rw.digF (n) (i + o) gk (gl) else (Rw.orgF ord (Rw.digF (n) (i + o) gk) gl) c))] [(bn, numC (i + o) (Rw.digF (n) (i + o) gk)), (bs, #[.int .i64 ((n : Nat) : Int)]), (bl, #[.int .i64 ((i + o : Nat) : Int)]), (b, numC (n ^ (i + o)) f), (bo, cso)] at hM
     refine wpList_nil ?_
     refine iN ?_
     refine tN ?_
     refine Rw.wp_region_lit ?_
     refine st hF (g_add hF rfl rfl (add_nat (gl) (1) (by omega))) rfl fun a hF => st hF (g_move hF rfl) rfl fun a hF => ?_
     refine wpList_nil ?_
     refine tN ?_
     refine ⟨gl + 1, ⟨by omega, trivial, hF.sub _ (by repeat' constructor), ?_⟩, by omega⟩
     exact hM.rowc 5 rfl (numC_congr fun c hc => rfl)
    ·
     obtain rfl : (i + o) = gl := by omega
     refine Rw.wp_exit ?_
     refine tX ?_
     refine tX ?_
     refine ib_same ?_
     refine tN ?_
     refine Rw.c_par 11 [] [.val (ptr b5 (0 + 4)), .val (.slice (some ⟨b4, 0, none⟩) ((n) ^ ((i) + (o))) ((n) ^ ((i) + (o)))), .val (.int .i64 (((gk : Nat) : Int))), .val (ptr b1 (0 + 4)), .val (.slice (some ⟨b, 0, none⟩) (n ^ (i + o)) (n ^ (i + o))), .val (ptr b1 (0 + 1)), .val (.int .i64 (((n : Nat) : Int))), .val (.slice (some ⟨b7, 0, none⟩) ((i + o)) ((i + o))), .val (.int .i64 (((Rw.plF (n) (Rw.orgF ord (Rw.digF (n) (i + o) gk) ((i + o))) ((i + o)) : Nat) : Int))), .val (ptr b (0 + (Rw.plF (n) (Rw.orgF ord (Rw.digF (n) (i + o) gk) ((i + o))) ((i + o))) * 1)), .val (.int .i64 (((f (Rw.plF (n) (Rw.orgF ord (Rw.digF (n) (i + o) gk) ((i + o))) ((i + o))) : Nat) : Int)))] hmix rfl hF rfl hM ⟨fun a w gG hF hS hd => by exact par_val hS rfl (g_fieldAddr ty_fo_26_4 hF rfl), fun a w gG hF hS hd => by have hF := hF.ext1 48 (hd 0 rfl rfl); have hM := hS.mem rfl; exact par_val hS rfl (g_load ty_on_22 hF rfl (hM.row 4 rfl) (tenC_4 (by omega))), fun a w gG hF hS hd => by exact par_val hS rfl (g_move hF rfl), fun a w gG hF hS hd => by exact par_val hS rfl (g_fieldAddr ty_fo_26_4 hF rfl), fun a w gG hF hS hd => by have hF := hF.ext1 51 (hd 3 rfl rfl); have hM := hS.mem rfl; exact par_val hS rfl (g_load ty_on_22 hF rfl (hM.row 0 rfl) (tenC_4 (by omega))), fun a w gG hF hS hd => by exact par_val hS rfl (g_fieldAddr ty_fo_26_1 hF rfl), fun a w gG hF hS hd => by have hF := hF.ext1 53 (hd 5 rfl rfl); have hM := hS.mem rfl; exact par_val hS rfl (g_load ty_on_2 hF rfl (hM.row 0 rfl) (tenC_1 (by omega))), fun a w gG hF hS hd => by exact par_val hS rfl (g_move hF rfl), fun a w gG hF hS hd => by have hF := hF.ext1 54 (hd 6 rfl rfl); have hF := hF.ext1 55 (hd 7 rfl rfl); have hM := hS.mem rfl; exact par_call (by repeat constructor) hS rfl (d_call Try.call43 hF (.cons rfl (.cons rfl .nil)) (placeOf_ok (n) b7 ((i + o)) ((i + o)) (Rw.orgF ord (Rw.digF (n) (i + o) gk) ((i + o))) _ (by omega) (by omega) hog (hM.row 5 rfl))), fun a w gG hF hS hd => by have hF := hF.ext1 52 (hd 4 rfl rfl); have hF := hF.ext1 56 (hd 8 rfl rfl); exact par_val hS rfl (g_indexSl (i := Rw.plF (n) (Rw.orgF ord (Rw.digF (n) (i + o) gk) ((i + o))) ((i + o))) ty_sl_22 hF rfl rfl rfl (by omega)), fun a w gG hF hS hd => by have hF := hF.ext1 57 (hd 9 rfl rfl); have hM := hS.mem rfl; exact par_val hS rfl (g_load ty_on_2 hF rfl (hM.fz 3 rfl) (numC_get (k := Rw.plF (n) (Rw.orgF ord (Rw.digF (n) (i + o) gk) ((i + o))) ((i + o))) (by omega) (by omega))), trivial⟩ ?_
     intro a w' L hF hS hq
     have hF := hF.ext1 48 (hq 0 rfl rfl)
     have hF := hF.ext1 49 (hq 1 rfl rfl)
     have hF := hF.ext1 50 (hq 2 rfl rfl)
     have hF := hF.ext1 51 (hq 3 rfl rfl)
     have hF := hF.ext1 52 (hq 4 rfl rfl)
     have hF := hF.ext1 53 (hq 5 rfl rfl)
     have hF := hF.ext1 54 (hq 6 rfl rfl)
     have hF := hF.ext1 55 (hq 7 rfl rfl)
     have hF := hF.ext1 56 (hq 8 rfl rfl)
     have hF := hF.ext1 57 (hq 9 rfl rfl)
     have hF := hF.ext1 58 (hq 10 rfl rfl)
     have hM := hS.mem rfl
     change wpList Try.prog _ _ [_, _] _ _
     refine st hF (g_indexSl (i := gk) ty_sl_22 hF rfl rfl rfl (by omega)) rfl fun a hF => ?_
     refine stN hF (d_store 3 hM rfl ty_on_2 hF rfl rfl rfl (by first | omega | (simp only [fnC_size, cells_size, vecC_size, tabC_size, planeC_size, tenC_size, smC_size, numC_size, numI_size] <;> omega) | (simp only [Array.size_setIfInBounds]; omega) | simp)) ?_
     intro _ w' a hM hF
     rw [show (numC (n ^ (i + o)) (fun c => if c < gk then Rw.pmF n (i + o) ord f c else 0)).setIfInBounds (0 + (gk) * 1) (.int .i64 (((f (Rw.plF (n) (Rw.orgF ord (Rw.digF (n) (i + o) gk) ((i + o))) ((i + o))) : Nat) : Int))) = numC (n ^ (i + o)) (fun c => if c = (gk) then f (Rw.plF (n) (Rw.orgF ord (Rw.digF (n) (i + o) gk) ((i + o))) ((i + o))) else (fun c => if c < gk then Rw.pmF n (i + o) ord f c else 0) c) from numC_set (k := (gk)) (by omega) (fun c _ => rfl)] at hM
     change MemX (Rw.blks [some (b1, tenC (p : Int) (n : Int) (i : Int) (o : Int) (.slice (some ⟨b, 0, none⟩) (n ^ (i + o)) (n ^ (i + o)))), some (b2, #[.slice (some ⟨bo, 0, none⟩) ((i + o)) (co)]), some (b3, tenC 0 0 0 0 (.slice none 0 0)), some (b4, numC (n ^ (i + o)) (fun c => if c < gk then Rw.pmF n (i + o) ord f c else 0)), some (b5, tenC ((p : Nat) : Int) ((n : Nat) : Int) ((i : Nat) : Int) ((o : Nat) : Int) (.slice (some ⟨b4, 0, none⟩) ((n) ^ ((i) + (o))) ((n) ^ ((i) + (o))))), none]) w w' [some (b1, tenC (p : Int) (n : Int) (i : Int) (o : Int) (.slice (some ⟨b, 0, none⟩) (n ^ (i + o)) (n ^ (i + o)))), some (b2, #[.slice (some ⟨bo, 0, none⟩) ((i + o)) (co)]), some (b3, tenC 0 0 0 0 (.slice none 0 0)), some (b4, numC (n ^ (i + o)) (fun c => if c = (gk) then f (Rw.plF (n) (Rw.orgF ord (Rw.digF (n) (i + o) gk) ((i + o))) ((i + o))) else (fun c => if c < gk then Rw.pmF n (i + o) ord f c else 0) c)), some (b5, tenC ((p : Nat) : Int) ((n : Nat) : Int) ((i : Nat) : Int) ((o : Nat) : Int) (.slice (some ⟨b4, 0, none⟩) ((n) ^ ((i) + (o))) ((n) ^ ((i) + (o))))), some (b7, numC (i + o) (Rw.orgF ord (Rw.digF (n) (i + o) gk) ((i + o))))] [(bn, numC (i + o) (Rw.digF (n) (i + o) gk)), (bs, #[.int .i64 ((n : Nat) : Int)]), (bl, #[.int .i64 ((i + o : Nat) : Int)]), (b, numC (n ^ (i + o)) f), (bo, cso)] at hM
     refine wpList_nil ?_
     refine iN ?_
     have hM := hM.drop 5
     have hM := hM.rowc (cs' := numC (n ^ (i + o)) (fun c => if c < (gk + 1) then Rw.pmF n (i + o) ord f c else 0)) 3 rfl (numC_congr fun c hc => by
       by_cases e1 : c = gk
       · subst e1; rw [if_pos rfl, if_pos (by omega)]; rfl
       · have e0 : (c < gk + 1) = (c < gk) := by apply propext; omega
         simp only [e0, if_neg e1])
     refine ⟨Rw.keeps hA2 hM, Rw.unbase (hA.ext hxA) hM (fun x hx => List.mem_cons_of_mem _ hx)⟩
  ·
   intro D0 w hgD hM0 hD0
   rw [Rw.addD_mark hF]
   have hM := Rw.rebase hM0
   change MemX (Rw.blks [some (b1, tenC (p : Int) (n : Int) (i : Int) (o : Int) (.slice (some ⟨b, 0, none⟩) (n ^ (i + o)) (n ^ (i + o)))), some (b2, #[.slice (some ⟨bo, 0, none⟩) ((i + o)) (co)]), some (b3, tenC 0 0 0 0 (.slice none 0 0)), some (b4, numC (n ^ (i + o)) (fun c => if c < (n) ^ (i + o) then Rw.pmF n (i + o) ord f c else 0)), some (b5, tenC ((p : Nat) : Int) ((n : Nat) : Int) ((i : Nat) : Int) ((o : Nat) : Int) (.slice (some ⟨b4, 0, none⟩) ((n) ^ ((i) + (o))) ((n) ^ ((i) + (o))))), none]) w w [some (b1, tenC (p : Int) (n : Int) (i : Int) (o : Int) (.slice (some ⟨b, 0, none⟩) (n ^ (i + o)) (n ^ (i + o)))), some (b2, #[.slice (some ⟨bo, 0, none⟩) ((i + o)) (co)]), some (b3, tenC 0 0 0 0 (.slice none 0 0)), some (b4, numC (n ^ (i + o)) (fun c => if c < (n) ^ (i + o) then Rw.pmF n (i + o) ord f c else 0)), some (b5, tenC ((p : Nat) : Int) ((n : Nat) : Int) ((i : Nat) : Int) ((o : Nat) : Int) (.slice (some ⟨b4, 0, none⟩) ((n) ^ ((i) + (o))) ((n) ^ ((i) + (o))))), none] [(bs, #[.int .i64 ((n : Nat) : Int)]), (bl, #[.int .i64 ((i + o : Nat) : Int)]), (b, numC (n ^ (i + o)) f), (bo, cso)] at hM
   refine iN ?_
   refine tN ?_
   refine sq ?_
   refine wp_regionD ?_
   refine st hF (g_loadAgg ty_ag_26 hF rfl (hM.row 4 rfl) (by simp only [fnC_size, cells_size, vecC_size, tabC_size, planeC_size, tenC_size, smC_size, numC_size, numI_size] <;> omega) (whole rfl)) rfl fun a hF => ?_
   refine stN hF (d_storeAgg 2 hM rfl ty_sz_26 hF rfl rfl (tenC_one rfl) (by simp only [fnC_size, cells_size, vecC_size, tabC_size, planeC_size, tenC_size, smC_size, numC_size, numI_size]) (by simp only [fnC_size, cells_size, vecC_size, tabC_size, planeC_size, tenC_size, smC_size, numC_size, numI_size] <;> omega) (splice_whole _ _ rfl)) ?_
   intro _ w' a hM hF
   change MemX (Rw.blks [some (b1, tenC (p : Int) (n : Int) (i : Int) (o : Int) (.slice (some ⟨b, 0, none⟩) (n ^ (i + o)) (n ^ (i + o)))), some (b2, #[.slice (some ⟨bo, 0, none⟩) ((i + o)) (co)]), some (b3, tenC 0 0 0 0 (.slice none 0 0)), some (b4, numC (n ^ (i + o)) (fun c => if c < (n) ^ (i + o) then Rw.pmF n (i + o) ord f c else 0)), some (b5, tenC ((p : Nat) : Int) ((n : Nat) : Int) ((i : Nat) : Int) ((o : Nat) : Int) (.slice (some ⟨b4, 0, none⟩) ((n) ^ ((i) + (o))) ((n) ^ ((i) + (o))))), none]) w w' [some (b1, tenC (p : Int) (n : Int) (i : Int) (o : Int) (.slice (some ⟨b, 0, none⟩) (n ^ (i + o)) (n ^ (i + o)))), some (b2, #[.slice (some ⟨bo, 0, none⟩) ((i + o)) (co)]), some (b3, tenC ((p : Nat) : Int) ((n : Nat) : Int) ((i : Nat) : Int) ((o : Nat) : Int) (.slice (some ⟨b4, 0, none⟩) ((n) ^ ((i) + (o))) ((n) ^ ((i) + (o))))), some (b4, numC (n ^ (i + o)) (fun c => if c < (n) ^ (i + o) then Rw.pmF n (i + o) ord f c else 0)), some (b5, tenC ((p : Nat) : Int) ((n : Nat) : Int) ((i : Nat) : Int) ((o : Nat) : Int) (.slice (some ⟨b4, 0, none⟩) ((n) ^ ((i) + (o))) ((n) ^ ((i) + (o))))), none] [(bs, #[.int .i64 ((n : Nat) : Int)]), (bl, #[.int .i64 ((i + o : Nat) : Int)]), (b, numC (n ^ (i + o)) f), (bo, cso)] at hM
   refine wpList_nil ?_
   refine tN ?_
   refine wp_ret ?_
   have hMu := Rw.unbase hM0 hM (fun x hx => hx)
   have hD1 := Rw.keeps hM0 hM _ _ hD0 (fun _ _ e => by cases e)
   have hMD := Rw.mem_put (o := .deferred (some [])) hMu (.deferred none) hD1 (fun _ _ e => by cases e) (Nat.le_trans hszR hgD)
   refine Rw.fin1K rfl hF.defers hD1 (res_agg ty_ag_26 hF rfl (hMD.row 2 rfl) (by simp only [fnC_size, cells_size, vecC_size, tabC_size, planeC_size, tenC_size, smC_size, numC_size, numI_size])) ⟨_, rfl, hMD.below, ?_⟩
   exact ⟨_, rfl, hMD.ge 3 rfl, (hMD.rowc (cs' := numC (n ^ (i + o)) (Rw.pmF n (i + o) ord f)) 3 rfl (numC_congr fun c hc => if_pos hc)).row 3 rfl⟩
  · exact fun _ _ _ h _ => h.elim

end Go.Proofs.Ytlpccepifehilaa

namespace Go.Proofs
open Go.Shelf
def Try.lays128_ren : Go.Shelf.Ren := ⟨fun | 128 => 69 | n => n, fun | 51 => 89 | 3 => 3 | 4 => 4 | 46 => 78 | 5 => 5 | 9 => 9 | n => n, fun | n => n⟩
def Try.lays125_ren : Go.Shelf.Ren := ⟨fun | 125 => 59 | 128 => 69 | 129 => 70 | n => n, fun | 46 => 78 | 3 => 3 | 51 => 89 | 53 => 91 | 4 => 4 | 5 => 5 | 9 => 9 | n => n, fun | n => n⟩
theorem Try.lays125 : Go.Proofs.Lays.n125 Try.prog Try.lays125_ren := {
  mixed := by kernel_rfl
  f125 := Try.func59.trans (congrArg some (by kernel_rfl))
  f128 := Try.func69.trans (congrArg some (by kernel_rfl))
  f129 := Try.func70.trans (congrArg some (by kernel_rfl))
  t3 := Try.underlying3
  a3 := Try.isAgg3
  z3 := Try.sizeOf3
  v3 := Try.zeroValue3
  t4 := Try.underlying4
  a4 := Try.isAgg4
  z4 := Try.sizeOf4
  v4 := Try.zeroValue4
  t5 := Try.underlying5
  a5 := Try.isAgg5
  z5 := Try.sizeOf5
  v5 := Try.zeroValue5
  t9 := Try.underlying9
  a9 := Try.isAgg9
  z9 := Try.sizeOf9
  v9 := Try.zeroValue9
  t46 := Try.underlying78
  a46 := Try.isAgg78
  z46 := Try.sizeOf78
  v46 := Try.zeroValue78
  t51 := Try.underlying89
  a51 := Try.isAgg89
  z51 := Try.sizeOf89
  v51 := Try.zeroValue89
  t53 := Try.underlying91
  a53 := Try.isAgg91
  z53 := Try.sizeOf91
  v53 := Try.zeroValue91 }
theorem Try.bits_Len (x : Int) (w : World) (h0 : 0 ≤ x) (h1 : x ≤ 18446744073709551615) :
    Calls Try.prog 59 #[.int .u64 x] w fun e w' => e = .returned (.int .i64 (Lib.bitLen x.toNat)) ∧ w' = w := Any.bits_Len Try.lays125 x w h0 h1
def Try.lays129_ren : Go.Shelf.Ren := ⟨fun | 129 => 70 | n => n, fun | 53 => 91 | 3 => 3 | 4 => 4 | 46 => 78 | 5 => 5 | 9 => 9 | n => n, fun | n => n⟩
end Go.Proofs
