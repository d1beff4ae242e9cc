/- What functions of the program return, as walks over their operations; no statement of the seat is proved here. -/
import Derived.Test.YtlpccepifehilaaV9
import Derived.Test.YtlpccepifehilaaSw10
set_option linter.unusedVariables false
set_option linter.unusedSimpArgs false
namespace Go.Proofs.Ytlpccepifehilaa
open Go Go.RowKit Go.Sw Go.Ech
open Classical
theorem ty_bs1_22 : ∀ (x : Int) (w : World), (Instr.buildSlice 22 1 #[(0, .int .i64 x)]).run Try.prog w = .ok (.slice (some ⟨w.heap.size, 0, none⟩) 1 1) (w.alloc (.cells #[.int .i64 x] 2)) := by intros; kernel_rfl
theorem values_ok (b m : Nat) (w : World)  :
    CallsR Try.prog 40 #[.slice (some ⟨b, 0, none⟩) (m) (m)] w (fun v w' => ∃ bx, v = .func (.func 53) #[] #[ptr bx 0] ∧ w.heap.size ≤ bx ∧ Blk w' bx #[.slice (some ⟨b, 0, none⟩) (m) (m)]) := by
  refine calls_fr [.slice (some ⟨b, 0, none⟩) (m) (m)] Try.func40 rfl Try.ntmps40 rfl fun a hF => ?_
  have hM : Mem w w [none] [] := MemX.start w 1
  change Fr 4 a [(0, .slice (some ⟨b, 0, none⟩) (m) (m))] at hF
  refine sq ?_
  refine wp_region_lit ?_
  refine stR hF (d_box 0 hM hF rfl) rfl ?_
  rintro _ w' a ⟨b1, rfl, hM, -⟩ hF
  change Mem w w' [some (b1, #[.slice (some ⟨b, 0, none⟩) (m) (m)])] [] at hM
  refine st hF (g_assign hF rfl) rfl fun a hF => ?_
  refine wpList_nil ?_
  refine tN ?_
  refine sq ?_
  refine wp_region_lit ?_
  refine st hF (g_makeFunc hF rfl) rfl fun a hF => st hF (g_assign hF rfl) rfl fun a hF => ?_
  refine wpList_nil ?_
  refine tN ?_
  refine wp_ret ?_
  refine fin1 rfl hF.defers (res_tmp hF rfl) ⟨_, rfl, hM.below, ?_⟩
  exact ⟨_, rfl, hM.ge 0 rfl, hM.row 0 rfl⟩

theorem valuesIt (bx b m : Nat) (F : Nat → Int) (hm : m < 1000000) : Rw.IterC Try.prog 53 #[ptr bx 0] m (Rw.ArgE F) (Rw.CapS bx b m F) := by
  intro l J Jx w hJe hJK hY h0
  rw [show ((#[.func (.yield l) #[] #[]] : Array Value) ++ #[ptr bx 0]) = [.func (.yield l) #[] #[], ptr bx (0)].toArray from by simp]
  refine Rw.callsW_fr [.func (.yield l) #[] #[], ptr bx (0)] Try.func53 rfl Try.ntmps53 rfl fun a hF => ?_
  have hcap := hJK 0 w h0
  have hM : Mem w w [] [(bx, #[.slice (some ⟨b, 0, none⟩) (m) (m)]), (b, numI m F)] := MemX.startD w 0 _ (startD2 hcap.1 hcap.2)
  change Fr 16 a [(0, .func (.yield l) #[] #[]), (1, ptr bx (0))] at hF
  refine sq ?_
  refine wp_region_lit ?_
  refine st hF (g_load ty_on_22 hF rfl (hM.fzm (b := bx) (cs := #[.slice (some ⟨b, 0, none⟩) (m) (m)]) (by simp)) rfl) rfl fun a hF => st hF (g_len ty_us_22 hF rfl) rfl fun a hF => st hF (g_move hF rfl) rfl fun a hF => ?_
  refine wpList_nil ?_
  refine tN ?_
  refine wp_block ?_
  change Mem w _ [] [(bx, #[.slice (some ⟨b, 0, none⟩) (m) (m)]), (b, numI m F)] at hM
  refine c_loop (fun (kk : Nat) a w' => kk ≤ m ∧ ∃ (w : World), (J kk w) ∧ Fr 16 a [(0, .func (.yield l) #[] #[]), (5, .slice (some ⟨b, 0, none⟩) (m) (m)), (6, .int .i64 (((m : Nat) : Int))), (7, .int .i64 (((kk : Nat) : Int)))] ∧ Mem w w' [] [(bx, #[.slice (some ⟨b, 0, none⟩) (m) (m)]), (b, numI m F)]) (fun kk => m - kk) 0 ?_ ?_
  ·
   refine ⟨by omega, w, h0, hF.sub _ (by repeat' constructor), ?_⟩
   exact hM
  ·
   clear hF hM
   rintro gk a w' ⟨hgk, w, hJ, hF, hM⟩
   refine sq ?_
   refine wp_region_lit ?_
   refine st hF (g_lss hF rfl rfl) rfl fun a hF => ?_
   refine wpList_nil ?_
   refine tN ?_
   refine sq ?_
   refine c_cond hF rfl (fun h1 => ?_) (fun h1 => ?_)
   ·
    refine wp_skip ?_
    refine tN ?_
    refine sq ?_
    refine wp_block ?_
    refine sq ?_
    refine wp_region_lit ?_
    refine st hF (g_indexSl (i := gk) ty_sl_22 hF rfl rfl rfl (by omega)) rfl fun a hF => st hF (g_load ty_on_2 hF rfl (hM.fzm (b := b) (cs := numI m F) (by simp)) (numI_get (k := gk) (by omega) (by omega))) rfl fun a hF => st hF (g_assign hF rfl) rfl fun a hF => ?_
    refine wpList_nil ?_
    refine tN ?_
    refine sq ?_
    refine Rw.region_W ?_
    refine Rw.stW hF (g_move hF rfl) rfl fun a hF => ?_
    refine Rw.stW hF (g_move hF rfl) rfl fun a hF => ?_
    obtain ⟨fy, ty, ay, by', hy, hR⟩ := hY gk w _ _ (by omega) hJ hM.below rfl
    refine Rw.stYield (R := fun v W' => (v = .bool true ∧ J (gk + 1) W') ∨ (v = .bool false ∧ Jx W')) hF rfl (.cons rfl .nil) rfl ⟨fy, ty, ay, by', hy, hR.mono fun e W' h => h.elim (fun h => ⟨_, h.1, .inl ⟨rfl, h.2⟩⟩) (fun h => ⟨_, h.1, .inr ⟨rfl, h.2⟩⟩)⟩ ?_
    rintro v w' a (⟨rfl, hJ3⟩ | ⟨rfl, hX3⟩) hF
    ·
     refine Rw.stW hF (g_not hF rfl) rfl fun a hF => ?_
     refine Rw.nilW ?_
     have hcap := hJK _ _ hJ3
     have hM : Mem w' w' [] [(bx, #[.slice (some ⟨b, 0, none⟩) (m) (m)]), (b, numI m F)] := MemX.startD w' 0 _ (startD2 hcap.1 hcap.2)
     refine tN ?_
     refine c_Fl hF rfl ?_
     refine wp_skip ?_
     refine iN ?_
     refine tN ?_
     refine wp_region_lit ?_
     refine st hF (g_add hF rfl rfl (add_nat (gk) (1) (by omega))) rfl fun a hF => st hF (g_move hF rfl) rfl fun a hF => ?_
     refine wpList_nil ?_
     refine tN ?_
     refine ⟨gk + 1, ⟨by omega, w', hJ3, hF.sub _ (by repeat' constructor), ?_⟩, by omega⟩
     exact hM
    ·
     refine Rw.stW hF (g_not hF rfl) rfl fun a hF => ?_
     refine Rw.nilW ?_
     refine tN ?_
     refine c_T hF rfl ?_
     refine wp_ret ?_
     refine iR ?_
     refine tR ?_
     refine tR ?_
     refine iR ?_
     refine fin0 rfl hF.defers ⟨⟨_, rfl⟩, ?_⟩
     exact .inr hX3
   ·
    obtain rfl : m = gk := by omega
    refine wp_exit ?_
    refine tX ?_
    refine tX ?_
    refine ib_same ?_
    refine fin0n rfl hF.defers ⟨⟨_, rfl⟩, ?_⟩
    exact .inl (hJe _ _ _ hJ hM.below)

theorem appendSeq_ok (bx b m : Nat) (F : Nat → Int) (w : World) (hm0 : 0 < m) (hm : m < 1000000) (hbx : Blk w bx #[.slice (some ⟨b, 0, none⟩) (m) (m)]) (hb : Blk w b (numI m F)) :
    CallsR Try.prog 57 #[.slice none 0 0, .func (.func 53) #[] #[ptr bx 0]] w (OwnSl 1 w m (fun i => .int .i64 (F i))) := by
  refine Rw.calls_frM [.slice none 0 0, .func (.func 53) #[] #[ptr bx 0]] Try.func57 rfl Try.ntmps57 rfl fun a hF => ?_
  have hM : Mem w w [none, none, none] [(bx, #[.slice (some ⟨b, 0, none⟩) (m) (m)]), (b, numI m F)] := MemX.startD w 3 _ (startD2 hbx hb)
  change Fr 13 a [(0, .slice none 0 0), (1, .func (.func 53) #[] #[ptr bx 0])] at hF
  refine sq ?_
  refine wp_region_lit ?_
  refine stR hF (d_box 0 hM hF rfl) rfl ?_
  rintro _ w' a ⟨b1, rfl, hM, -⟩ hF
  change Mem w w' [some (b1, #[.slice none 0 0]), none, none] [(bx, #[.slice (some ⟨b, 0, none⟩) (m) (m)]), (b, numI m F)] at hM
  refine st hF (g_assign hF rfl) rfl fun a hF => ?_
  refine wpList_nil ?_
  refine tN ?_
  refine sq ?_
  refine sq ?_
  refine wp_region_lit ?_
  refine st hF (g_move hF rfl) rfl fun a hF => ?_
  refine wpList_nil ?_
  refine tN ?_
  refine wp_block ?_
  have hszR := hM.bel.size
  refine Rw.c_rangeFn (N := m) (arg := Rw.ArgE F) (K := Rw.CapS bx b m F) hF.defers (hF.eval rfl) Try.call53 (valuesIt bx b m F hm) ?_ ?_ (fun k W => ∃ u e, Sl 1 u e k (fun i => .int .i64 (F i)) ∧ Mem w W [some (b1, #[u]), none, e] [(bx, #[.slice (some ⟨b, 0, none⟩) (m) (m)]), (b, numI m F)]) (fun _ => False) ?_ ?_ ?_ ?_ ⟨_, _, Sl.nil 1 _, hM⟩ (fun args a1 => ∃ x, args = #[x] ∧ Fr 13 a1 [(5, x), (0, .slice none 0 0), (1, .func (.func 53) #[] #[ptr bx 0]), (2, ptr b1 (0)), (4, .slice none 0 0), (6, .func (.func 53) #[] #[ptr bx 0])]) ?_ ?_ ?_ ?_
  · rintro k A B args rfl; rfl
  · exact fun k A B args l o o' h hA hB => h
  · exact fun _ _ _ ⟨u, e, h1, h⟩ hx => ⟨u, e, h1, h.ext hx⟩
  · exact fun _ _ _ _ o' hge ⟨u, e, h1, h⟩ hl => ⟨u, e, h1, Rw.mem_put h o' hl (fun _ _ e => by cases e) (Nat.le_trans hszR hge)⟩
  · exact fun _ _ _ _ _ h _ => h.elim
  · exact fun _ _ ⟨u, e, h1, h⟩ => ⟨h.fzm (by simp), h.fzm (by simp)⟩
  ·
   rintro l k A B args K rfl hK
   have hF := Rw.round1 (p := 7) (u := .int .i64 (F k)) hF rfl
   refine Rw.wp_region_lit ?_
   refine st hF (g_assign hF rfl) rfl fun a hF => ?_
   refine wpList_nil ?_
   refine tN ?_
   exact hK _ ⟨_, rfl, hF.sub _ (by repeat' constructor)⟩
  ·
   rintro l gk A w args a hgk ⟨u, e, hsl, hA⟩ hxA rfl ⟨x, he, hF⟩
   have he : Value.int .i64 (F gk) = x := by simpa using he
   subst he
   have hA2 := hA.ext hxA
   have hM := Rw.rebase hA2
   change MemX (Rw.blks [some (b1, #[u]), none, e]) w w [some (b1, #[u]), none, e] [(bx, #[.slice (some ⟨b, 0, none⟩) (m) (m)]), (b, numI m F)] at hM
   refine Rw.wp_block ?_
   refine Rw.wp_region_lit ?_
   refine st hF (g_load ty_on_22 hF rfl (hM.row 0 rfl) rfl) rfl fun a hF => st hF (g_move hF rfl) rfl fun a hF => ?_
   refine stR hF (d_buildC 1 hM hF (build1 hF rfl) (ty_bs1_22 _)) rfl ?_
   rintro _ w' a ⟨b2, rfl, hM, -⟩ hF
   change MemX (Rw.blks [some (b1, #[u]), none, e]) w w' [some (b1, #[u]), some (b2, #[.int .i64 (F gk)]), e] [(bx, #[.slice (some ⟨b, 0, none⟩) (m) (m)]), (b, numI m F)] at hM
   refine stR hF (d_append (k := 2) (m := 1) (g := fun _ => .int .i64 (F gk)) ty_si_22 rfl (by decide) hM rfl hF rfl rfl hsl (fun i hi => by rw [show i = 0 by omega]; exact (hM.row 1 rfl).cell 0) (fun _ _ => rfl) (by decide) (by unfold maxLen; omega) (by omega)) rfl ?_
   rintro u3 w' a ⟨e4, hM, hs5⟩ hF
   change MemX (Rw.blks [some (b1, #[u]), none, e]) w w' [some (b1, #[u]), some (b2, #[.int .i64 (F gk)]), e4] [(bx, #[.slice (some ⟨b, 0, none⟩) (m) (m)]), (b, numI m F)] at hM
   obtain ⟨bq, capq, csq, rfl, rfl, hat⟩ := (Sl.snoc (f := (fun i => .int .i64 (F i))) hs5 rfl).pos (by omega)
   refine stN hF (d_store 0 hM rfl ty_on_22 hF rfl rfl rfl (by simp)) ?_
   intro _ w' a hM hF
   change MemX (Rw.blks [some (b1, #[u]), none, e]) w w' [some (b1, #[.slice (some ⟨bq, 0, none⟩) ((gk + 1)) (capq)]), some (b2, #[.int .i64 (F gk)]), some (bq, csq)] [(bx, #[.slice (some ⟨b, 0, none⟩) (m) (m)]), (b, numI m F)] at hM
   refine wpList_nil ?_
   refine iN ?_
   have hM := hM.drop 1
   exact ⟨Rw.keeps hA2 hM, _, _, .inr ⟨_, _, _, hat⟩, Rw.unbase hA2 hM (fun x hx => hx)⟩
  ·
   rintro D0 w hgD ⟨u, e, hsl, hM0⟩ hD0
   rw [Rw.addD_mark hF]
   have hM := Rw.rebase hM0
   change MemX (Rw.blks [some (b1, #[u]), none, e]) w w [some (b1, #[u]), none, e] [(bx, #[.slice (some ⟨b, 0, none⟩) (m) (m)]), (b, numI m F)] at hM
   refine iN ?_
   refine tN ?_
   refine sq ?_
   refine wp_regionD ?_
   refine st hF (g_load ty_on_22 hF rfl (hM.row 0 rfl) rfl) rfl fun a hF => st hF (g_assign hF rfl) rfl fun a hF => ?_
   refine wpList_nil ?_
   refine tN ?_
   refine wp_ret ?_
   have hMu := Rw.unbase hM0 hM (fun x hx => hx)
   have hD1 := Rw.keeps hM0 hM _ _ hD0 (fun _ _ e => by cases e)
   have hMD := Rw.mem_put (o := .deferred (some [])) hMu (.deferred none) hD1 (fun _ _ e => by cases e) (Nat.le_trans hszR hgD)
   refine Rw.fin1K rfl hF.defers hD1 (res_tmp hF rfl) ⟨_, rfl, hMD.below, ?_⟩
   exact OwnSl.pos hMD (k := 2) rfl hsl hm0
  · exact fun _ _ _ h _ => h.elim

theorem collect_ok (bx b m : Nat) (F : Nat → Int) (w : World) (hm0 : 0 < m) (hm : m < 1000000) (hbx : Blk w bx #[.slice (some ⟨b, 0, none⟩) (m) (m)]) (hb : Blk w b (numI m F)) :
    CallsR Try.prog 51 #[.func (.func 53) #[] #[ptr bx 0]] w (OwnSl 1 w m (fun i => .int .i64 (F i))) := by
  refine calls_fr [.func (.func 53) #[] #[ptr bx 0]] Try.func51 rfl Try.ntmps51 rfl fun a hF => ?_
  have hM : Mem w w [none] [(bx, #[.slice (some ⟨b, 0, none⟩) (m) (m)]), (b, numI m F)] := MemX.startD w 1 _ (startD2 hbx hb)
  change Fr 5 a [(0, .func (.func 53) #[] #[ptr bx 0])] at hF
  refine sq ?_
  refine wp_region_lit ?_
  refine st hF (g_assign hF rfl) rfl fun a hF => ?_
  refine wpList_nil ?_
  refine tN ?_
  refine sq ?_
  refine wp_region_lit ?_
  refine st hF (g_move hF rfl) rfl fun a hF => ?_
  refine stR hF (d_callOwn (k := 0) hM (d_call Try.call57 hF (.cons rfl (.cons rfl .nil)) (appendSeq_ok bx b m F _ hm0 hm (hM.fzm (by simp)) (hM.fzm (by simp))))) rfl ?_
  rintro u w' a ⟨b1, cap2, cs3, hs4, hM, -⟩ hF
  obtain rfl := hs4.val
  change Mem w w' [some (b1, cs3)] [(bx, #[.slice (some ⟨b, 0, none⟩) (m) (m)]), (b, numI m F)] at hM
  refine st hF (g_assign hF rfl) rfl fun a hF => ?_
  refine wpList_nil ?_
  refine tN ?_
  refine wp_ret ?_
  refine fin1 rfl hF.defers (res_tmp hF rfl) ⟨_, rfl, hM.below, ?_⟩
  exact ⟨_, _, _, hs4, hM.ge 0 rfl, hM.row 0 rfl⟩

theorem sorted_ok (bx b m : Nat) (F : Nat → Int) (w : World) (hm0 : 0 < m) (hm12 : m ≤ 12) (hbx : Blk w bx #[.slice (some ⟨b, 0, none⟩) (m) (m)]) (hb : Blk w b (numI m F)) :
    CallsR Try.prog 39 #[.func (.func 53) #[] #[ptr bx 0]] w (fun v w' => Rw.OutJ w w' m F v) := by
  refine calls_fr [.func (.func 53) #[] #[ptr bx 0]] Try.func39 rfl Try.ntmps39 rfl fun a hF => ?_
  have hM : Mem w w [none] [(bx, #[.slice (some ⟨b, 0, none⟩) (m) (m)]), (b, numI m F)] := MemX.startD w 1 _ (startD2 hbx hb)
  change Fr 9 a [(0, .func (.func 53) #[] #[ptr bx 0])] at hF
  have hm : m < 1000000 := by omega
  refine sq ?_
  refine wp_region_lit ?_
  refine st hF (g_assign hF rfl) rfl fun a hF => ?_
  refine wpList_nil ?_
  refine tN ?_
  refine sq ?_
  refine wp_region_lit ?_
  refine st hF (g_move hF rfl) rfl fun a hF => ?_
  refine stR hF (d_callOwn (k := 0) hM (d_call Try.call51 hF (.cons rfl .nil) (collect_ok bx b m F _ hm0 hm (hM.fzm (by simp)) (hM.fzm (by simp))))) rfl ?_
  rintro u w' a ⟨b1, cap2, cs3, hs4, hM, -⟩ hF
  obtain rfl := hs4.val
  change Mem w w' [some (b1, cs3)] [(bx, #[.slice (some ⟨b, 0, none⟩) (m) (m)]), (b, numI m F)] at hM
  refine st hF (g_assign hF rfl) rfl fun a hF => ?_
  refine wpList_nil ?_
  refine tN ?_
  refine sq ?_
  refine wp_region_lit ?_
  refine st hF (g_move hF rfl) rfl fun a hF => ?_
  have hleS := hs4.le
  have hszS : m ≤ (cs3).size := by rw [hs4.sz]; omega
  have hM := hM.rowc (cs' := rowJ cs3 m F) 0 rfl (rowJ_of hs4)
  refine stR hF (d_callX Try.call52 hF (.cons rfl .nil) (sort_ok b1 cap2 m cs3 F _ hm0 hm12 hszS (hM.row 0 rfl))) rfl ?_
  rintro _ w' a ⟨hx, rfl, D4, hbk, hA4, hS4⟩ hF
  have hM := hM.upd (cs' := rowJ cs3 m D4) 0 rfl hx hbk
  change Mem w w' [some (b1, rowJ cs3 m D4)] [(bx, #[.slice (some ⟨b, 0, none⟩) (m) (m)]), (b, numI m F)] at hM
  refine wpList_nil ?_
  refine tN ?_
  refine sq ?_
  refine wp_region_lit ?_
  refine st hF (g_move hF rfl) rfl fun a hF => st hF (g_assign hF rfl) rfl fun a hF => ?_
  refine wpList_nil ?_
  refine tN ?_
  refine wp_ret ?_
  refine fin1 rfl hF.defers (res_tmp hF rfl) ⟨_, rfl, hM.below, ?_⟩
  exact ⟨_, _, _, D4, rfl, hM.ge 0 rfl, hszS, hM.row 0 rfl, hA4, hS4⟩

theorem isPerm_pos (b m : Nat) (F : Nat → Int) (ln : Int) (w : World) (hm0 : 0 < m) (hm12 : m ≤ 12) (hb : Blk w b (numI m F)) :
    CallsR Try.prog 25 #[.slice (some ⟨b, 0, none⟩) (m) (m), .int .i64 (ln)] w (fun res _ => res = .bool (decide ((m : Int) = ln ∧ LegP m F))) := by
  refine calls_fr [.slice (some ⟨b, 0, none⟩) (m) (m), .int .i64 (ln)] Try.func25 rfl Try.ntmps25 rfl fun a hF => ?_
  have hM : Mem w w [] [(b, numI m F)] := MemX.startD w 0 _ (startD1 hb)
  change Fr 24 a [(0, .slice (some ⟨b, 0, none⟩) (m) (m)), (1, .int .i64 (ln))] at hF
  refine sq ?_
  refine wp_region_lit ?_
  refine st hF (g_assign hF rfl) rfl fun a hF => ?_
  refine wpList_nil ?_
  refine tN ?_
  refine sq ?_
  refine sq ?_
  refine wp_region_lit ?_
  refine st hF (g_move hF rfl) rfl fun a hF => st hF (g_len ty_us_22 hF rfl) rfl fun a hF => st hF (g_move hF rfl) rfl fun a hF => st hF (g_neq hF rfl rfl) rfl fun a hF => ?_
  refine wpList_nil ?_
  refine tN ?_
  refine c_cond hF rfl (fun h1 => ?_) (fun h1 => ?_)
  ·
   refine sq ?_
   refine wp_region_lit ?_
   refine st hF (g_assign hF rfl) rfl fun a hF => ?_
   refine wpList_nil ?_
   refine tN ?_
   refine wp_ret ?_
   refine tR ?_
   refine fin1 rfl hF.defers (res_tmp hF rfl) ⟨_, rfl, hM.below, ?_⟩
   show _ = _
   exact bool_f (fun hq => by first | (have z1 := hq.1; omega) | (have z1 := (leg_sorted hA4 hS4).2 hq.2 gi (by omega); omega))
  ·
   refine wp_skip ?_
   refine tN ?_
   refine sq ?_
   refine sq ?_
   refine wp_region_lit ?_
   refine st hF (g_move hF rfl) rfl fun a hF => ?_
   refine stR hF (d_call Try.call40 hF (.cons rfl .nil) (values_ok b (m) _)) rfl ?_
   rintro _ w' a ⟨hx, bx, rfl, hgx, hbx⟩ hF
   have hM := hM.addD (D' := [(bx, #[.slice (some ⟨b, 0, none⟩) (m) (m)])]) hx (fun b cs hm => by simp only [List.mem_singleton, Prod.mk.injEq] at hm; obtain ⟨rfl, rfl⟩ := hm; exact ⟨hgx, hbx⟩)
   change Mem w w' [] [(bx, #[.slice (some ⟨b, 0, none⟩) (m) (m)]), (b, numI m F)] at hM
   refine stR hF (d_call Try.call39 hF (.cons rfl .nil) (sorted_ok bx b m F _ hm0 hm12 (hM.fzm (by simp)) (hM.fzm (by simp)))) rfl ?_
   rintro _ w' a ⟨hx, bS, cS, csS, DS, rfl, hgS, hszS, hbS, hA4, hS4⟩ hF
   have hM := hM.addD (D' := [(bS, rowJ csS m DS)]) hx (fun b cs hm => by simp only [List.mem_singleton, Prod.mk.injEq] at hm; obtain ⟨rfl, rfl⟩ := hm; exact ⟨hgS, hbS⟩)
   change Mem w w' [] [(bS, rowJ csS m DS), (bx, #[.slice (some ⟨b, 0, none⟩) (m) (m)]), (b, numI m F)] at hM
   refine st hF (g_len ty_us_22 hF rfl) rfl fun a hF => st hF (g_move hF rfl) rfl fun a hF => ?_
   refine wpList_nil ?_
   refine tN ?_
   refine wp_block ?_
   change Mem w _ [] [(bS, rowJ csS m DS), (bx, #[.slice (some ⟨b, 0, none⟩) (m) (m)]), (b, numI m F)] at hM
   refine c_loop (fun (kk : Nat) a w' => kk ≤ m ∧ (∀ i, i < kk → DS i = (i : Int)) ∧ Fr 24 a [(10, .bool (decide ((((m : Nat) : Int) : Int) ≠ ln))), (13, .slice (some ⟨bS, 0, none⟩) (m) (cS)), (14, .int .i64 (((m : Nat) : Int))), (15, .int .i64 (((kk : Nat) : Int)))] ∧ Mem w w' [] [(bS, rowJ csS m DS), (bx, #[.slice (some ⟨b, 0, none⟩) (m) (m)]), (b, numI m F)]) (fun kk => m - kk) 0 ?_ ?_
   ·
    refine ⟨by omega, fun i hi => absurd hi (by omega), hF.sub _ (by repeat' constructor), ?_⟩
    exact hM
   ·
    clear hF hM
    rintro gi a w' ⟨hgi, hinv1, hF, hM⟩
    refine sq ?_
    refine wp_region_lit ?_
    refine st hF (g_lss hF rfl rfl) rfl fun a hF => ?_
    refine wpList_nil ?_
    refine tN ?_
    refine sq ?_
    refine c_cond hF rfl (fun h2 => ?_) (fun h2 => ?_)
    ·
     refine wp_skip ?_
     refine tN ?_
     refine sq ?_
     refine wp_block ?_
     refine sq ?_
     refine wp_region_lit ?_
     refine st hF (g_move hF rfl) rfl fun a hF => st hF (g_indexSl (i := gi) ty_sl_22 hF rfl rfl rfl (by omega)) rfl fun a hF => st hF (g_load ty_on_2 hF rfl (hM.fzm (b := bS) (cs := rowJ csS m DS) (by simp)) (rowJ_get hszS (gi) (by omega) (by omega))) rfl fun a hF => st hF (g_assign hF rfl) rfl fun a hF => st hF (g_assign hF rfl) rfl fun a hF => ?_
     refine wpList_nil ?_
     refine tN ?_
     refine sq ?_
     refine wp_region_lit ?_
     refine st hF (g_move hF rfl) rfl fun a hF => st hF (g_move hF rfl) rfl fun a hF => st hF (g_neq hF rfl rfl) rfl fun a hF => ?_
     refine wpList_nil ?_
     refine tN ?_
     refine c_cond hF rfl (fun h3 => ?_) (fun h3 => ?_)
     ·
      refine sq ?_
      refine wp_region_lit ?_
      refine st hF (g_assign hF rfl) rfl fun a hF => ?_
      refine wpList_nil ?_
      refine tN ?_
      refine wp_ret ?_
      refine iR ?_
      refine tR ?_
      refine tR ?_
      refine iR ?_
      refine tR ?_
      refine fin1 rfl hF.defers (res_tmp hF rfl) ⟨_, rfl, hM.below, ?_⟩
      show _ = _
      exact bool_f (fun hq => by first | (have z1 := hq.1; omega) | (have z1 := (leg_sorted hA4 hS4).2 hq.2 gi (by omega); omega))
     ·
      refine wp_skip ?_
      refine iN ?_
      refine tN ?_
      refine wp_region_lit ?_
      refine st hF (g_add hF rfl rfl (add_nat (gi) (1) (by omega))) rfl fun a hF => st hF (g_move hF rfl) rfl fun a hF => ?_
      refine wpList_nil ?_
      refine tN ?_
      refine ⟨gi + 1, ⟨by omega, allS hinv1 (by omega), hF.sub _ (by repeat' constructor), ?_⟩, by omega⟩
      exact hM
    ·
     obtain rfl : m = gi := by omega
     refine wp_exit ?_
     refine tX ?_
     refine tX ?_
     refine ib_same ?_
     refine tN ?_
     refine sq ?_
     refine wp_region_lit ?_
     refine st hF (g_assign hF rfl) rfl fun a hF => ?_
     refine wpList_nil ?_
     refine tN ?_
     refine wp_ret ?_
     refine fin1 rfl hF.defers (res_tmp hF rfl) ⟨_, rfl, hM.below, ?_⟩
     show _ = _
     exact bool_t ⟨by omega, (leg_sorted hA4 hS4).1 hinv1⟩

theorem insertionSort_0  (w : World)  :
    CallsR Try.prog 60 #[.slice none 0 0, .int .i64 (0), .int .i64 (0)] w (fun res _ => res = .tuple #[]) := by
  refine calls_fr [.slice none 0 0, .int .i64 (0), .int .i64 (0)] Try.func60 rfl Try.ntmps60 rfl fun a hF => ?_
  have hM : Mem w w [] [] := MemX.start w 0
  change Fr 49 a [(0, .slice none 0 0), (1, .int .i64 (0)), (2, .int .i64 (0))] at hF
  refine sq ?_
  refine wp_region_lit ?_
  refine st hF (g_move hF rfl) rfl fun a hF => st hF (g_add hF rfl rfl (add_nat (0) (1) (by omega))) rfl fun a hF => st hF (g_assign hF rfl) rfl fun a hF => ?_
  refine wpList_nil ?_
  refine tN ?_
  refine wp_block ?_
  change Mem w _ [] [] at hM
  refine c_loop (fun (kk : Nat) a w' => kk ≤ 0 ∧ (True) ∧ Fr 49 a [(0, .slice none 0 0), (1, .int .i64 (0)), (2, .int .i64 (0)), (6, .int .i64 (((kk + 1 : Nat) : Int)))] ∧ Mem w w' [] []) (fun kk => 0 - kk) 0 ?_ ?_
  ·
   refine ⟨by omega, trivial, hF.sub _ (by repeat' constructor), ?_⟩
   exact hM
  ·
   clear hF hM
   rintro gi a w' ⟨hgi, hinv1, hF, hM⟩
   refine sq ?_
   refine sq ?_
   refine wp_region_lit ?_
   refine st hF (g_move hF rfl) rfl fun a hF => st hF (g_move hF rfl) rfl fun a hF => st hF (g_lss hF rfl rfl) rfl fun a hF => ?_
   refine wpList_nil ?_
   refine tN ?_
   refine c_cond hF rfl (fun h1 => ?_) (fun h1 => ?_)
   ·
    exfalso; omega
   ·
    refine wp_exit ?_
    refine tX ?_
    refine tX ?_
    refine ib_same ?_
    refine fin0n rfl hF.defers  ⟨_, rfl, hM.below, ?_⟩
    show _ = _
    rfl

theorem pdqsort_0 (lim : Int) (w : World)  :
    CallsR Try.prog 58 #[.slice none 0 0, .int .i64 (0), .int .i64 (0), .int .i64 (lim)] w (fun res _ => res = .tuple #[]) := by
  refine calls_fr [.slice none 0 0, .int .i64 (0), .int .i64 (0), .int .i64 (lim)] Try.func58 rfl Try.ntmps58 rfl fun a hF => ?_
  have hM : Mem w w [] [] := MemX.start w 0
  change Fr 134 a [(0, .slice none 0 0), (1, .int .i64 (0)), (2, .int .i64 (0)), (3, .int .i64 (lim))] at hF
  refine sq ?_
  refine wp_region_lit ?_
  refine st hF (g_assign hF rfl) rfl fun a hF => ?_
  refine wpList_nil ?_
  refine tN ?_
  refine sq ?_
  refine wp_region_lit ?_
  refine st hF (g_assign hF rfl) rfl fun a hF => ?_
  refine wpList_nil ?_
  refine tN ?_
  refine wp_block ?_
  refine wp_loop_rounds 1 ?_
  refine rnd ?_
  refine wp_block ?_
  refine sq ?_
  refine wp_region_lit ?_
  refine st hF (g_move hF rfl) rfl fun a hF => st hF (g_move hF rfl) rfl fun a hF => st hF (g_sub hF rfl rfl (show _ = ((0 : Nat) : Int) from (by rw [wrap_i64] <;> omega))) rfl fun a hF => st hF (g_assign hF rfl) rfl fun a hF => ?_
  refine wpList_nil ?_
  refine tN ?_
  refine sq ?_
  refine sq ?_
  refine wp_region_lit ?_
  refine st hF (g_move hF rfl) rfl fun a hF => st hF (g_leq hF rfl rfl) rfl fun a hF => ?_
  refine wpList_nil ?_
  refine tN ?_
  refine c_cond hF rfl (fun h1 => ?_) (fun h1 => ?_)
  ·
   refine sq ?_
   refine wp_region_lit ?_
   refine st hF (g_move hF rfl) rfl fun a hF => st hF (g_move hF rfl) rfl fun a hF => st hF (g_move hF rfl) rfl fun a hF => ?_
   refine stR hF (d_call Try.call60 hF (.cons rfl (.cons rfl (.cons rfl .nil))) (insertionSort_0 _)) rfl ?_
   rintro _ w' a ⟨hx, rfl⟩ hF
   have hM := hM.ext hx
   refine wpList_nil ?_
   refine tN ?_
   refine wp_ret ?_
   refine tR ?_
   refine iR ?_
   refine tR ?_
   refine iR ?_
   refine fin0 rfl hF.defers  ⟨_, rfl, hM.below, ?_⟩
   show _ = _
   rfl
  ·
   exfalso; omega

theorem sort_0  (w : World)  :
    CallsR Try.prog 52 #[.slice none 0 0] w (fun res _ => res = .tuple #[]) := by
  refine calls_fr [.slice none 0 0] Try.func52 rfl Try.ntmps52 rfl fun a hF => ?_
  have hM : Mem w w [] [] := MemX.start w 0
  change Fr 11 a [(0, .slice none 0 0)] at hF
  refine sq ?_
  refine wp_region_lit ?_
  refine st hF (g_move hF rfl) rfl fun a hF => st hF (g_len0 ty_us_22 hF rfl) rfl fun a hF => st hF (g_assign hF rfl) rfl fun a hF => ?_
  refine wpList_nil ?_
  refine tN ?_
  refine wp_region_lit ?_
  refine st hF (g_move hF rfl) rfl fun a hF => st hF (g_move hF rfl) rfl fun a hF => st hF (g_move hF rfl) rfl fun a hF => st hF (g_conv ty_un_78 ty_ud_3 hF rfl (wrap_u64 (by omega) (by omega))) rfl fun a hF => ?_
  refine stR hF (d_call Try.call59 hF (.cons rfl .nil) (bitsLen_ok (0) _ (by omega))) rfl ?_
  rintro _ w' a ⟨hx, lim, rfl⟩ hF
  have hM := hM.ext hx
  refine stR hF (d_call Try.call58 hF (.cons rfl (.cons rfl (.cons rfl (.cons rfl .nil)))) (pdqsort_0 lim _)) rfl ?_
  rintro _ w' a ⟨hx, rfl⟩ hF
  have hM := hM.ext hx
  refine wpList_nil ?_
  refine fin0n rfl hF.defers  ⟨_, rfl, hM.below, ?_⟩
  show _ = _
  rfl

theorem appendSeq_0 (bx b : Nat) (F : Nat → Int) (w : World) (hbx : Blk w bx #[.slice (some ⟨b, 0, none⟩) (0) (0)]) (hb : Blk w b (numI 0 F)) :
    CallsR Try.prog 57 #[.slice none 0 0, .func (.func 53) #[] #[ptr bx 0]] w (fun res _ => res = .slice none 0 0) := by
  refine Rw.calls_frM [.slice none 0 0, .func (.func 53) #[] #[ptr bx 0]] Try.func57 rfl Try.ntmps57 rfl fun a hF => ?_
  have hM : Mem w w [none, none, none] [(bx, #[.slice (some ⟨b, 0, none⟩) (0) (0)]), (b, numI 0 F)] := MemX.startD w 3 _ (startD2 hbx hb)
  change Fr 13 a [(0, .slice none 0 0), (1, .func (.func 53) #[] #[ptr bx 0])] at hF
  refine sq ?_
  refine wp_region_lit ?_
  refine stR hF (d_box 0 hM hF rfl) rfl ?_
  rintro _ w' a ⟨b1, rfl, hM, -⟩ hF
  change Mem w w' [some (b1, #[.slice none 0 0]), none, none] [(bx, #[.slice (some ⟨b, 0, none⟩) (0) (0)]), (b, numI 0 F)] at hM
  refine st hF (g_assign hF rfl) rfl fun a hF => ?_
  refine wpList_nil ?_
  refine tN ?_
  refine sq ?_
  refine sq ?_
  refine wp_region_lit ?_
  refine st hF (g_move hF rfl) rfl fun a hF => ?_
  refine wpList_nil ?_
  refine tN ?_
  refine wp_block ?_
  have hszR := hM.bel.size
  refine Rw.c_rangeFn (N := 0) (arg := Rw.ArgE F) (K := Rw.CapS bx b 0 F) hF.defers (hF.eval rfl) Try.call53 (valuesIt bx b 0 F (by omega)) ?_ ?_ (fun _ W => Mem w W [some (b1, #[.slice none 0 0]), none, none] [(bx, #[.slice (some ⟨b, 0, none⟩) (0) (0)]), (b, numI 0 F)]) (fun _ => False) ?_ ?_ ?_ ?_ hM (fun _ _ => True) ?_ ?_ ?_ ?_
  · rintro k A B args rfl; rfl
  · exact fun k A B args l o o' h hA hB => h
  · exact fun _ _ _ h hx => h.ext hx
  · exact fun _ _ _ _ o' hge h hl => Rw.mem_put h o' hl (fun _ _ e => by cases e) (Nat.le_trans hszR hge)
  · exact fun _ _ _ _ _ h _ => h.elim
  · exact fun _ _ h => ⟨h.fzm (by simp), h.fzm (by simp)⟩
  ·
   rintro l k A B args K rfl hK
   have hF := Rw.round1 (p := 7) (u := .int .i64 (F k)) hF rfl
   refine Rw.wp_region_lit ?_
   refine st hF (g_assign hF rfl) rfl fun a hF => ?_
   refine wpList_nil ?_
   refine tN ?_
   exact hK _ trivial
  · exact fun l k A B args a1 hk => absurd hk (by omega)
  ·
   rintro D0 w hgD hM0 hD0
   rw [Rw.addD_mark hF]
   have hM := Rw.rebase hM0
   change MemX (Rw.blks [some (b1, #[.slice none 0 0]), none, none]) w w [some (b1, #[.slice none 0 0]), none, none] [(bx, #[.slice (some ⟨b, 0, none⟩) (0) (0)]), (b, numI 0 F)] at hM
   refine iN ?_
   refine tN ?_
   refine sq ?_
   refine wp_regionD ?_
   refine st hF (g_load ty_on_22 hF rfl (hM.row 0 rfl) rfl) rfl fun a hF => st hF (g_assign hF rfl) rfl fun a hF => ?_
   refine wpList_nil ?_
   refine tN ?_
   refine wp_ret ?_
   have hMu := Rw.unbase hM0 hM (fun x hx => hx)
   have hD1 := Rw.keeps hM0 hM _ _ hD0 (fun _ _ e => by cases e)
   have hMD := Rw.mem_put (o := .deferred (some [])) hMu (.deferred none) hD1 (fun _ _ e => by cases e) (Nat.le_trans hszR hgD)
   refine Rw.fin1K rfl hF.defers hD1 (res_tmp hF rfl) ⟨_, rfl, hMD.below, ?_⟩
   rfl
  · exact fun _ _ _ h _ => h.elim

theorem collect_0 (bx b : Nat) (F : Nat → Int) (w : World) (hbx : Blk w bx #[.slice (some ⟨b, 0, none⟩) (0) (0)]) (hb : Blk w b (numI 0 F)) :
    CallsR Try.prog 51 #[.func (.func 53) #[] #[ptr bx 0]] w (fun res _ => res = .slice none 0 0) := by
  refine calls_fr [.func (.func 53) #[] #[ptr bx 0]] Try.func51 rfl Try.ntmps51 rfl fun a hF => ?_
  have hM : Mem w w [] [(bx, #[.slice (some ⟨b, 0, none⟩) (0) (0)]), (b, numI 0 F)] := MemX.startD w 0 _ (startD2 hbx hb)
  change Fr 5 a [(0, .func (.func 53) #[] #[ptr bx 0])] at hF
  refine sq ?_
  refine wp_region_lit ?_
  refine st hF (g_assign hF rfl) rfl fun a hF => ?_
  refine wpList_nil ?_
  refine tN ?_
  refine sq ?_
  refine wp_region_lit ?_
  refine st hF (g_move hF rfl) rfl fun a hF => ?_
  refine stR hF (d_call Try.call57 hF (.cons rfl (.cons rfl .nil)) (appendSeq_0 bx b F _ (hM.fzm (by simp)) (hM.fzm (by simp)))) rfl ?_
  rintro _ w' a ⟨hx, rfl⟩ hF
  have hM := hM.ext hx
  refine st hF (g_assign hF rfl) rfl fun a hF => ?_
  refine wpList_nil ?_
  refine tN ?_
  refine wp_ret ?_
  refine fin1 rfl hF.defers (res_tmp hF rfl) ⟨_, rfl, hM.below, ?_⟩
  show _ = _
  rfl

theorem sorted_0 (bx b : Nat) (F : Nat → Int) (w : World) (hbx : Blk w bx #[.slice (some ⟨b, 0, none⟩) (0) (0)]) (hb : Blk w b (numI 0 F)) :
    CallsR Try.prog 39 #[.func (.func 53) #[] #[ptr bx 0]] w (fun res _ => res = .slice none 0 0) := by
  refine calls_fr [.func (.func 53) #[] #[ptr bx 0]] Try.func39 rfl Try.ntmps39 rfl fun a hF => ?_
  have hM : Mem w w [] [(bx, #[.slice (some ⟨b, 0, none⟩) (0) (0)]), (b, numI 0 F)] := MemX.startD w 0 _ (startD2 hbx hb)
  change Fr 9 a [(0, .func (.func 53) #[] #[ptr bx 0])] at hF
  refine sq ?_
  refine wp_region_lit ?_
  refine st hF (g_assign hF rfl) rfl fun a hF => ?_
  refine wpList_nil ?_
  refine tN ?_
  refine sq ?_
  refine wp_region_lit ?_
  refine st hF (g_move hF rfl) rfl fun a hF => ?_
  refine stR hF (d_call Try.call51 hF (.cons rfl .nil) (collect_0 bx b F _ (hM.fzm (by simp)) (hM.fzm (by simp)))) rfl ?_
  rintro _ w' a ⟨hx, rfl⟩ hF
  have hM := hM.ext hx
  refine st hF (g_assign hF rfl) rfl fun a hF => ?_
  refine wpList_nil ?_
  refine tN ?_
  refine sq ?_
  refine wp_region_lit ?_
  refine st hF (g_move hF rfl) rfl fun a hF => ?_
  refine stR hF (d_call Try.call52 hF (.cons rfl .nil) (sort_0 _)) rfl ?_
  rintro _ w' a ⟨hx, rfl⟩ hF
  have hM := hM.ext hx
  refine wpList_nil ?_
  refine tN ?_
  refine sq ?_
  refine wp_region_lit ?_
  refine st hF (g_move hF rfl) rfl fun a hF => st hF (g_assign hF rfl) rfl fun a hF => ?_
  refine wpList_nil ?_
  refine tN ?_
  refine wp_ret ?_
  refine fin1 rfl hF.defers (res_tmp hF rfl) ⟨_, rfl, hM.below, ?_⟩
  show _ = _
  rfl

theorem isPerm_0 (b : Nat) (F : Nat → Int) (ln : Int) (w : World) (hb : Blk w b (numI 0 F)) :
    CallsR Try.prog 25 #[.slice (some ⟨b, 0, none⟩) (0) (0), .int .i64 (ln)] w (fun res _ => res = .bool (decide (((0 : Nat) : Int) = ln ∧ LegP 0 F))) := by
  refine calls_fr [.slice (some ⟨b, 0, none⟩) (0) (0), .int .i64 (ln)] Try.func25 rfl Try.ntmps25 rfl fun a hF => ?_
  have hM : Mem w w [] [(b, numI 0 F)] := MemX.startD w 0 _ (startD1 hb)
  change Fr 24 a [(0, .slice (some ⟨b, 0, none⟩) (0) (0)), (1, .int .i64 (ln))] at hF
  refine sq ?_
  refine wp_region_lit ?_
  refine st hF (g_assign hF rfl) rfl fun a hF => ?_
  refine wpList_nil ?_
  refine tN ?_
  refine sq ?_
  refine sq ?_
  refine wp_region_lit ?_
  refine st hF (g_move hF rfl) rfl fun a hF => st hF (g_len ty_us_22 hF rfl) rfl fun a hF => st hF (g_move hF rfl) rfl fun a hF => st hF (g_neq hF rfl rfl) rfl fun a hF => ?_
  refine wpList_nil ?_
  refine tN ?_
  refine c_cond hF rfl (fun h1 => ?_) (fun h1 => ?_)
  ·
   refine sq ?_
   refine wp_region_lit ?_
   refine st hF (g_assign hF rfl) rfl fun a hF => ?_
   refine wpList_nil ?_
   refine tN ?_
   refine wp_ret ?_
   refine tR ?_
   refine fin1 rfl hF.defers (res_tmp hF rfl) ⟨_, rfl, hM.below, ?_⟩
   show _ = _
   exact bool_f (fun hq => by have z1 := hq.1; omega)
  ·
   refine wp_skip ?_
   refine tN ?_
   refine sq ?_
   refine sq ?_
   refine wp_region_lit ?_
   refine st hF (g_move hF rfl) rfl fun a hF => ?_
   refine stR hF (d_call Try.call40 hF (.cons rfl .nil) (values_ok b (0) _)) rfl ?_
   rintro _ w' a ⟨hx, bx, rfl, hgx, hbx⟩ hF
   have hM := hM.addD (D' := [(bx, #[.slice (some ⟨b, 0, none⟩) (0) (0)])]) hx (fun b cs hm => by simp only [List.mem_singleton, Prod.mk.injEq] at hm; obtain ⟨rfl, rfl⟩ := hm; exact ⟨hgx, hbx⟩)
   change Mem w w' [] [(bx, #[.slice (some ⟨b, 0, none⟩) (0) (0)]), (b, numI 0 F)] at hM
   refine stR hF (d_call Try.call39 hF (.cons rfl .nil) (sorted_0 bx b F _ (hM.fzm (by simp)) (hM.fzm (by simp)))) rfl ?_
   rintro _ w' a ⟨hx, rfl⟩ hF
   have hM := hM.ext hx
   refine st hF (g_len0 ty_us_22 hF rfl) rfl fun a hF => st hF (g_move hF rfl) rfl fun a hF => ?_
   refine wpList_nil ?_
   refine tN ?_
   refine wp_block ?_
   change Mem w _ [] [(bx, #[.slice (some ⟨b, 0, none⟩) (0) (0)]), (b, numI 0 F)] at hM
   refine c_loop (fun (kk : Nat) a w' => kk ≤ 0 ∧ (True) ∧ Fr 24 a [(10, .bool (decide ((0 : Int) ≠ ln))), (13, .slice none 0 0), (14, .int .i64 (0)), (15, .int .i64 (((kk : Nat) : Int)))] ∧ Mem w w' [] [(bx, #[.slice (some ⟨b, 0, none⟩) (0) (0)]), (b, numI 0 F)]) (fun kk => 0 - kk) 0 ?_ ?_
   ·
    refine ⟨by omega, trivial, hF.sub _ (by repeat' constructor), ?_⟩
    exact hM
   ·
    clear hF hM
    rintro gi a w' ⟨hgi, hinv1, hF, hM⟩
    refine sq ?_
    refine wp_region_lit ?_
    refine st hF (g_lss hF rfl rfl) rfl fun a hF => ?_
    refine wpList_nil ?_
    refine tN ?_
    refine sq ?_
    refine c_cond hF rfl (fun h2 => ?_) (fun h2 => ?_)
    ·
     exfalso; omega
    ·
     obtain rfl : 0 = gi := by omega
     refine wp_exit ?_
     refine tX ?_
     refine tX ?_
     refine ib_same ?_
     refine tN ?_
     refine sq ?_
     refine wp_region_lit ?_
     refine st hF (g_assign hF rfl) rfl fun a hF => ?_
     refine wpList_nil ?_
     refine tN ?_
     refine wp_ret ?_
     refine fin1 rfl hF.defers (res_tmp hF rfl) ⟨_, rfl, hM.below, ?_⟩
     show _ = _
     exact bool_t ⟨by omega, fun i hi => absurd hi (by omega), fun i j _ hj => absurd hj (by omega)⟩

theorem isPerm_no (b m : Nat) (F : Nat → Int) (ln : Int) (w : World) (hne : ¬ (m : Int) = ln) (hb : Blk w b (numI m F)) :
    CallsR Try.prog 25 #[.slice (some ⟨b, 0, none⟩) (m) (m), .int .i64 (ln)] w (fun res _ => res = .bool false) := by
  refine calls_fr [.slice (some ⟨b, 0, none⟩) (m) (m), .int .i64 (ln)] Try.func25 rfl Try.ntmps25 rfl fun a hF => ?_
  have hM : Mem w w [] [(b, numI m F)] := MemX.startD w 0 _ (startD1 hb)
  change Fr 24 a [(0, .slice (some ⟨b, 0, none⟩) (m) (m)), (1, .int .i64 (ln))] at hF
  refine sq ?_
  refine wp_region_lit ?_
  refine st hF (g_assign hF rfl) rfl fun a hF => ?_
  refine wpList_nil ?_
  refine tN ?_
  refine sq ?_
  refine sq ?_
  refine wp_region_lit ?_
  refine st hF (g_move hF rfl) rfl fun a hF => st hF (g_len ty_us_22 hF rfl) rfl fun a hF => st hF (g_move hF rfl) rfl fun a hF => st hF (g_neq hF rfl rfl) rfl fun a hF => ?_
  refine wpList_nil ?_
  refine tN ?_
  refine c_cond hF rfl (fun h1 => ?_) (fun h1 => ?_)
  ·
   refine sq ?_
   refine wp_region_lit ?_
   refine st hF (g_assign hF rfl) rfl fun a hF => ?_
   refine wpList_nil ?_
   refine tN ?_
   refine wp_ret ?_
   refine tR ?_
   refine fin1 rfl hF.defers (res_tmp hF rfl) ⟨_, rfl, hM.below, ?_⟩
   show _ = _
   rfl
  ·
   exfalso; omega

theorem isPerm_ok (b m : Nat) (F : Nat → Int) (ln : Int) (w : World) (hl : ln ≤ 12) (hb : Blk w b (numI m F)) : CallsR Try.prog 25 #[.slice (some ⟨b, 0, none⟩) m m, .int .i64 ln] w (fun res _ => res = .bool (decide ((m : Int) = ln ∧ LegP m F))) := by
  by_cases hne : (m : Int) = ln
  · rcases Nat.eq_zero_or_pos m with h0 | h0
    · subst h0; exact isPerm_0 b F ln w hb
    · exact isPerm_pos b m F ln w h0 (by omega) hb
  · exact CallsR.val (isPerm_no b m F ln w hne hb) (congrArg Value.bool (decide_eq_false (fun h => hne h.1)).symm)

end Go.Proofs.Ytlpccepifehilaa
