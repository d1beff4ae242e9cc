/- What functions of the program return, as walks over their operations; no statement of the seat is proved here. -/
import Derived.Test.YtfakhcmamdefiaaU1
import Derived.Test.YtfakhcmamdefiaaSw85
set_option linter.unusedVariables false
set_option linter.unusedSimpArgs false
namespace Go.Proofs.Ytfakhcmamdefiaa
open Go Go.RowKit Go.Sw Go.Ech
open Classical
theorem ty_bn_54 : ∀ (i : Nat) w, (Instr.build 54 #[(0, .int .i64 (i : Int))]).run Try.prog w = .ok (.agg (trC i (fun _ => .pointer none))) w := by intros; kernel_rfl
theorem ty_bn_51 : ∀ (k : Int) (b : Nat) w, (Instr.build 51 #[(0, .int .i64 k), (1, ptr b 0)]).run Try.prog w = .ok (.agg (sdC k (ptr b 0) (.pointer none) (.pointer none) (.pointer none) (.pointer none) 0)) w := by intros; kernel_rfl
theorem ty_fo_54_1 : fieldOff Try.prog 54 1 = some 1 := by kernel_rfl
theorem ty_ar_52 : arrOf Try.prog 52 = some (3, 1) := by kernel_rfl
theorem ty_ag_52 : aggP Try.prog 52 = some 3 := by kernel_rfl
theorem ty_ua_52 : Try.prog.underlying 52 = some (.array 3 46) := by kernel_rfl
theorem ty_fo_51_2 : fieldOff Try.prog 51 2 = some 2 := by kernel_rfl
theorem ty_bsp_39 : ∀ (b : Nat) (w : World), (Instr.buildSlice 39 1 #[(0, ptr b 0)]).run Try.prog w = .ok (.slice (some ⟨w.heap.size, 0, none⟩) 1 1) (w.alloc (.cells #[ptr b 0] 48)) := by intros; kernel_rfl
theorem ty_si_39 : slI Try.prog 39 = some (48, some (.pointer none), 1, 8) := by kernel_rfl
def plK (R : Nat → Nat → Int) (x : Nat) : Int := R (x / 3) (x % 3)
theorem plK_at {R : Nat → Nat → Int} {i j : Nat} (h : j < 3) : plK R (i * 3 + j) = R i j := by
  unfold plK; rw [show (i * 3 + j) / 3 = i by omega, show (i * 3 + j) % 3 = j by omega]
def LinkOut (w w' : World) (m : Nat) (R : Nat → Nat → Int) (tw : Nat → Nat) (v : Value) : Prop := ∃ (D : Froz) (b cap : Nat) (cs : Array Value) (τ σ φ ψ : Nat → Nat), w.heap.size ≤ b ∧ Blk w' b cs ∧ SlAt 1 v (some (b, cs)) m b cap cs (fun i => ptr (τ i) 0) ∧ (∀ x ds, (x, ds) ∈ D → Blk w' x ds ∧ x ≠ b) ∧ Gr D w.heap.size (m * 3) (plK R) tw (m * 3) (m * 3) m τ σ φ ψ
theorem Sl.snocP {u : Value} {e : Option (Nat × Array Value)} {n b : Nat} {τ : Nat → Nat} (h : Sl 1 u e (n + 1) (fun i => if i < n * 1 then (fun i => ptr (τ i) 0) i else (fun _ => ptr b 0) (i - n * 1))) : Sl 1 u e (n + 1) (fun i => ptr (up τ n b i) 0) :=
  h.congr fun i hi => by
    by_cases e : i < n
    · rw [if_pos (by omega)]; simp only [up_ne (show i ≠ n by omega)]
    · obtain rfl : i = n := by omega
      rw [if_neg (by omega)]; simp only [up_eq]

theorem linked_ok (b o c m : Nat) (R : Nat → Nat → Int) (ca be ob : Nat → Nat) (tw : Nat → Nat) (w : World) (hm0 : 0 < m) (hm : m ≤ 12) (hTw : TwP (m * 3) (plK R) tw) (hK : ∀ i, i < m → ∀ j, j < 3 → (R i j).natAbs ≤ 18) (hT : Tri w b o m R ca be ob) :
    CallsR Try.prog 29 #[.slice (some ⟨b, o, none⟩) m c] w (fun v w' => LinkOut w w' m R tw v) := by
  refine calls_fr [.slice (some ⟨b, o, none⟩) m c] Try.func29 rfl Try.ntmps29 rfl fun a hF => ?_;have hM : Mem w w [none, none, none, none] [] := MemX.start w 4;change Fr 74 a [(0, .slice (some ⟨b, o, none⟩) m c)] at hF;refine sr <| ag hF rfl rfl fun a hF => ns <| ag hF rfl rfl fun a hF => ns <| stR hF (d_makeMap hM) rfl ?_;rintro _ w' a ⟨bm1, rfl, hM, hgebm1, hisbm1⟩ hF;refine ag hF rfl rfl fun a hF => nt <| sq <| sr <| mv hF rfl rfl fun a hF => st hF (g_len ty_us_22 hF rfl) rfl fun a hF => mv hF rfl rfl fun a hF => nt <| wp_block ?_;change Mem w _ [none, none, none, none] [] at hM;refine c_loop (fun (kk : Nat) a w' => kk ≤ m ∧ ∃ (D2 : Froz), ∃ (ta : Nat → Nat), ∃ (si : Nat → Nat), ∃ (fi : Nat → Nat), ∃ (ps : Nat → Nat), ∃ (es : Array MapEntry), ∃ (ec : Nat), (Gr D2 w.heap.size (m * 3) (plK R) tw (kk * 3) (kk * 3) (kk) ta si fi ps ∧ MpOk es.toList (plK R) tw si (kk * 3) ∧ IsMap w' bm1 es ec) ∧ ∃ (u3_1 : Value) (e3_1 : Option (Nat × Array Value)), Sl 1 u3_1 e3_1 (kk) (fun i => ptr (ta i) 0) ∧ Fr 74 a [(2, .slice none 0 0), (4, .map (some bm1)), (13, .slice (some ⟨b, o, none⟩) m c), (14, .int .i64 (m : Int)), (15, .int .i64 (kk : Int)), (3, u3_1)] ∧ Mem w w' [none, none, none, e3_1] D2) (fun kk => m - kk) 0 ?_ ?_
  · refine ⟨by omega, [], fun _ => 0, fun _ => 0, fun _ => 0, fun _ => 0, #[], 0, ⟨Gr.none, MpOk.none, hisbm1⟩, (.slice none 0 0), (none), (Sl.nil 1 _), hF.sub _ (by repeat' constructor), ?_⟩
    exact hM
  clear hF hM;rintro gi a w' ⟨hgi, D2, ta, si, fi, ps, es, ec, ⟨hG1, hP1, hmap⟩, u3_1, e3_1, hout, hF, hM⟩;refine sr <| st hF (g_lss hF rfl rfl) rfl fun a hF => nt <| sq <| c_cond hF rfl (fun h2 => ?_) (fun h2 => ?_)
  · refine wp_skip ?_
    refine tN <| sq <| wp_block <| sr <| mv hF rfl rfl fun a hF => st hF (g_indexSl (i := gi) ty_sl_22 hF rfl rfl rfl (by omega)) rfl fun a hF => st hF (g_loadC ty_on_36 hF rfl ((hT.ext hM.below).cell (gi) (by omega))) rfl fun a hF => ag hF rfl rfl fun a hF => ag hF rfl rfl fun a hF => ns <| mv hF rfl rfl fun a hF => st hF (g_buildP hF (build1 hF rfl) (fun w => ty_bn_54 _ w)) rfl fun a hF => stR hF (d_box 0 hM hF rfl) rfl ?_;rintro _ w' a ⟨b3, rfl, hM, hxk⟩ hF; have hmap := hmap.ext hxk;refine ag hF rfl rfl fun a hF => nt <| sq <| sr <| mv hF rfl rfl fun a hF => st hF (g_len ty_us_36 hF rfl) rfl fun a hF => mv hF rfl rfl fun a hF => nt <| wp_block ?_;change Mem w _ [some (b3, trC (gi) (fun _ => .pointer none)), none, none, e3_1] D2 at hM;refine c_loop (fun (kk : Nat) a w' => kk ≤ 3 ∧ ∃ (D3 : Froz), ∃ (si2 : Nat → Nat), ∃ (fi2 : Nat → Nat), ∃ (ps2 : Nat → Nat), ∃ (es2 : Array MapEntry), ∃ (ec2 : Nat), (Gr D3 w.heap.size (m * 3) (plK R) tw (gi * 3 + kk) (gi * 3) (gi) (up ta gi b3) si2 fi2 ps2 ∧ MpOk es2.toList (plK R) tw si2 (gi * 3 + kk) ∧ IsMap w' bm1 es2 ec2) ∧ Fr 74 a [(2, .slice none 0 0), (4, .map (some bm1)), (13, .slice (some ⟨b, o, none⟩) m c), (14, .int .i64 (m : Int)), (15, .int .i64 (gi : Int)), (3, u3_1), (16, .bool (decide (((gi : Int) : Int) < (m : Int)))), (17, .int .i64 (gi : Int)), (18, ptr b (o + (gi) * 1)), (19, .slice (some ⟨be (gi), ob (gi), none⟩) (3) (ca (gi))), (5, .int .i64 (gi : Int)), (6, .slice (some ⟨be (gi), ob (gi), none⟩) (3) (ca (gi))), (20, .int .i64 (gi : Int)), (21, .agg (trC (gi) (fun _ => .pointer none))), (22, ptr b3 (0)), (7, ptr b3 (0)), (23, .slice (some ⟨be (gi), ob (gi), none⟩) (3) (ca (gi))), (24, .int .i64 (3)), (25, .int .i64 (kk : Int))] ∧ Mem w w' [some (b3, trC gi (fun c => if c < kk then ptr (si2 (gi * 3 + c)) 0 else .pointer none)), none, none, e3_1] D3) (fun kk => 3 - kk) 0 ?_ ?_
    · refine ⟨by omega, D2, si, fi, ps, es, ec, ⟨hG1.begin _, hP1, hmap⟩, hF.sub _ (by repeat' constructor), ?_⟩
      exact hM.rowc 0 rfl (trC_congr fun c hc => by rw [if_neg (by omega)])
    clear hF hM;rintro gj a w' ⟨hgj, D3, si2, fi2, ps2, es2, ec2, hinv2, hF, hM⟩;have hmap := hinv2.2.2;refine sr <| st hF (g_lss hF rfl rfl) rfl fun a hF => nt <| sq <| c_cond hF rfl (fun h4 => ?_) (fun h4 => ?_)
    · refine wp_skip ?_
      refine tN <| sq <| wp_block <| sr <| mv hF rfl rfl fun a hF => st hF (g_indexSl (i := gj) ty_sl_36 hF rfl rfl rfl (by omega)) rfl fun a hF => st hF (g_loadC ty_on_2 hF rfl ((hT.ext hM.below).num (gi) (by omega) (gj) (by omega))) rfl fun a hF => ag hF rfl rfl fun a hF => ag hF rfl rfl fun a hF => ns <| mv hF rfl rfl fun a hF => mv hF rfl rfl fun a hF => mv hF rfl rfl fun a hF => mv hF rfl rfl fun a hF => st hF (g_buildP hF (build2 hF rfl rfl) (fun w => ty_bn_51 _ _ w)) rfl fun a hF => stR hF (d_box 1 hM hF rfl) rfl ?_;rintro _ w' a ⟨b5, rfl, hM, hxk⟩ hF; have hmap := hmap.ext hxk;change Mem w w' [some (b3, trC gi (fun c => if c < gj then ptr (si2 (gi * 3 + c)) 0 else .pointer none)), some (b5, sdC (R (gi) (gj)) (ptr b3 0) (.pointer none) (.pointer none) (.pointer none) (.pointer none) 0), none, e3_1] D3 at hM;refine st hF (g_nilCheck hF rfl) rfl fun a hF => st hF (g_fieldAddr ty_fo_54_1 hF rfl) rfl fun a hF => st hF (g_indexAddr ty_ar_52 hF rfl rfl rfl (by omega)) rfl fun a hF => stN hF (d_storeM 0 hM rfl ty_on_46 hF rfl rfl rfl (by first | omega | (simp only [sz0, grpC_size, numI_size, sdC_size, trC_size] <;> omega) | simp)) ?_;rintro _ w' a ⟨hM, hkm⟩ hF; have hmap := hkm _ _ _ hmap;rw [show (trC gi (fun c => if c < gj then ptr (si2 (gi * 3 + c)) 0 else .pointer none)).setIfInBounds (0 + 1 + (gj) * 1) (ptr b5 (0)) = trC gi (fun c => if c = gj then (ptr b5 (0)) else (fun c => if c < gj then ptr (si2 (gi * 3 + c)) 0 else .pointer none) c) from trC_set (j := gj) (by omega) (by omega)] at hM;change Mem w w' [some (b3, trC gi (fun c => if c = gj then (ptr b5 (0)) else (fun c => if c < gj then ptr (si2 (gi * 3 + c)) 0 else .pointer none) c)), some (b5, sdC (R (gi) (gj)) (ptr b3 0) (.pointer none) (.pointer none) (.pointer none) (.pointer none) 0), none, e3_1] D3 at hM;refine nt <| wp_region_lit <| mv hF rfl rfl fun a hF => mv hF rfl rfl fun a hF => st hF (g_nilCheck hF rfl) rfl fun a hF => st hF (g_fieldAddr ty_fo_54_1 hF rfl) rfl fun a hF => st hF (g_indexAddr ty_ar_52 hF rfl rfl rfl (by omega)) rfl fun a hF => st hF (g_load ty_on_46 hF rfl (hM.row 0 rfl) ((trC_get (j := gj) (by omega) (by omega)).trans (congrArg some (if_pos rfl)))) rfl fun a hF => mv hF rfl rfl fun a hF => ?_;have hqN : gi * 3 + gj < m * 3 := by omega
      have hq3 : (gi * 3 + gj) / 3 = gi := by omega
      have hKq : plK R (gi * 3 + gj) = R gi gj := plK_at (by omega);have hkb := hK gi (by omega) gj (by omega);have htq : up ta gi b3 ((gi * 3 + gj) / 3) = b3 := by rw [hq3, up_eq]
      have hneq := hTw.ne (gi * 3 + gj) hqN;have hgS := hM.ge 1 rfl;have hbSn : ∀ y ds, (y, ds) ∈ D3 → y ≠ b5 := fun y ds hy e => (hM.froz y ds hy).2 1 _ _ rfl e.symm;have hM := hM.freeze 1 rfl;change Mem w _ [some (b3, trC gi (fun c => if c = gj then (ptr b5 (0)) else (fun c => if c < gj then ptr (si2 (gi * 3 + c)) 0 else .pointer none) c)), none, none, e3_1] ((b5, sdC (R (gi) (gj)) (ptr b3 0) (.pointer none) (.pointer none) (.pointer none) (.pointer none) 0) :: D3) at hM
      rcases Nat.lt_or_gt_of_ne hneq with hsec | hfst
      · have hyi := hTw.inv hqN
        have hyf : (tw (gi * 3 + gj)) < tw (tw (gi * 3 + gj)) := by rw [hyi]; exact hsec
        have hya := hTw.abs (gi * 3 + gj) hqN;have hyb := hinv2.1.sid (tw (gi * 3 + gj)) hsec;have hold := SC_old (K := plK R) (tw := tw) (τ := up ta gi b3) (σ := si2) (φ := fi2) (ψ := ps2) (q := (gi * 3 + gj)) (u := gi * 3) hyf (by omega);rw [hold] at hyb;obtain ⟨ix, hix⟩ := hinv2.2.1.yes (tw (gi * 3 + gj)) hsec hyf;rw [hya, hKq] at hix;have hxy : b5 ≠ si2 (tw (gi * 3 + gj)) := fun e => hbSn _ _ hyb e.symm;refine stR hF (d_callX Try.call47 hF (.cons rfl (.cons rfl .nil)) (link_S (R gi gj) (plK R (tw (gi * 3 + gj))) (ptr b3 0) (.pointer none) (ptr (up ta gi b3 ((tw (gi * 3 + gj)) / 3)) 0) (onP ((tw (gi * 3 + gj)) < gi * 3) (si2 (nxt (tw (gi * 3 + gj))))) (.pointer none) (fi2 (tw (gi * 3 + gj))) (ps2 (tw (gi * 3 + gj))) b5 (si2 (tw (gi * 3 + gj))) bm1 ix es2 ec2 _ (by omega) (hM.fzm (List.mem_cons_self ..)) (hM.fzm (List.mem_cons_of_mem _ hyb)) hxy hmap hix)) rfl ?_;rintro uv w' a ⟨hx, hbx, hby⟩ hF;have hmap := hmap.keep hx (fun hy => by
          simp only [List.mem_cons, List.not_mem_nil, or_false] at hy
          rcases hy with e | e
          · exact (hM.fzm (List.mem_cons_self ..)).no_map (e ▸ hmap)
          · exact (hM.fzm (List.mem_cons_of_mem _ hyb)).no_map (e ▸ hmap))
        have hsame : ∀ b cs ds, (b, cs) ∈ D3 → (b, ds) ∈ D3 → cs = ds := fun b cs ds h1 h2 => (hM.fzm (List.mem_cons_of_mem _ h1)).same (hM.fzm (List.mem_cons_of_mem _ h2));have hM := link_memS hM hyb hgS (hinv2.1.ge _ _ hyb) hbSn hx hbx hby
        have hSC := SC_second (K := plK R) (tw := tw) (τ := up ta gi b3) (σ := si2) (φ := fi2) (ψ := ps2) (u := gi * 3) (bx := b5) (show gi * 3 ≤ (gi * 3 + gj) by omega) hsec htq hKq;have hSY := SC_twin (K := plK R) (tw := tw) (τ := up ta gi b3) (σ := si2) (φ := fi2) (ψ := ps2) (q := (gi * 3 + gj)) (u := gi * 3) (bx := b5) hyf hyi (fun h => by have := nxt_lt (q := gi * 3) h (Nat.le_refl _) (.inl (by omega)); omega);rw [← hSC, ← hSY] at hM;have hGn := hinv2.1.second hTw hqN hsec (by omega) (by omega) (by omega) hsame hbSn hgS;have hMn := hinv2.2.1.second (bx := b5) hTw hqN hsec;change Mem w w' [some (b3, trC gi (fun c => if c = gj then (ptr b5 (0)) else (fun c => if c < gj then ptr (si2 (gi * 3 + c)) 0 else .pointer none) c)), none, none, e3_1] ((b5, SC (plK R) tw (up ta gi b3) (up si2 (gi * 3 + gj) b5) fi2 ps2 ((gi * 3 + gj) + 1) (gi * 3) (gi * 3 + gj)) :: updD D3 (si2 (tw (gi * 3 + gj))) (SC (plK R) tw (up ta gi b3) (up si2 (gi * 3 + gj) b5) fi2 ps2 ((gi * 3 + gj) + 1) (gi * 3) (tw (gi * 3 + gj)))) at hM;refine wpList_nil <| iN <| tN <| wp_region_lit <| st hF (g_add hF rfl rfl (add_nat (gj) (1) (by omega))) rfl fun a hF => mv hF rfl rfl fun a hF => wpList_nil <| tN ?_;have hMn2 : MpOk (es2).toList (plK R) tw (up si2 (gi * 3 + gj) b5) (gi * 3 + gj + 1) := by first | exact hMn | (rw [Array.toList_push]; exact hMn)
        refine ⟨gj + 1, ⟨by omega, ((b5, SC (plK R) tw (up ta gi b3) (up si2 (gi * 3 + gj) b5) fi2 ps2 ((gi * 3 + gj) + 1) (gi * 3) (gi * 3 + gj)) :: updD D3 (si2 (tw (gi * 3 + gj))) (SC (plK R) tw (up ta gi b3) (up si2 (gi * 3 + gj) b5) fi2 ps2 ((gi * 3 + gj) + 1) (gi * 3) (tw (gi * 3 + gj)))), (up si2 (gi * 3 + gj) b5), fi2, ps2, es2, ec2, ⟨hGn, hMn2, hmap⟩, hF.sub _ (by repeat' constructor), ?_⟩, by omega⟩;refine hM.rowc 0 rfl (trC_congr fun c hc => ?_)
        by_cases e1 : c = gj
        · subst e1; rw [if_pos rfl, if_pos (by omega), up_eq]
        · rw [if_neg e1]; dsimp only
          by_cases e2 : c < gj
          · rw [if_pos e2, if_pos (by omega), up_ne (by omega)]
          · rw [if_neg e2, if_neg (by omega)]
      refine stR hF (d_callX Try.call47 hF (.cons rfl (.cons rfl .nil)) (link_F (R gi gj) (ptr b3 0) (.pointer none) b5 bm1 es2 ec2 _ (by omega) (hM.fzm (List.mem_cons_self ..)) hmap (by rw [← hKq]; exact hinv2.2.1.no _ (fun y hy e => by rcases hTw.only (gi * 3 + gj) y hqN (by omega) e with e | e <;> omega)))) rfl ?_;rintro uv w' a ⟨hx, b1, b2, h12, hg1, hg2, hbx, hb1, hb2, hmap1⟩ hF;have hd1 : ∀ y ds, (y, ds) ∈ D3 → y ≠ b1 := fun y ds hy e => by have := (hM.fzm (List.mem_cons_of_mem _ hy)).lt; omega
      have hd2 : ∀ y ds, (y, ds) ∈ D3 → y ≠ b2 := fun y ds hy e => by have := (hM.fzm (List.mem_cons_of_mem _ hy)).lt; omega
      have hw1 := Nat.le_trans hM.bel.size hg1;have hw2 := Nat.le_trans hM.bel.size hg2;have hM := link_memF hM hmap hgebm1 hgS hbSn hx hbx hb1 hb2 hg1 hg2;have hmap := hmap1;have hSC := SC_first (K := plK R) (tw := tw) (τ := up ta gi b3) (σ := si2) (φ := fi2) (ψ := ps2) (u := gi * 3) (bx := b5) (b1 := b1) (b2 := b2) (show gi * 3 ≤ (gi * 3 + gj) by omega) hfst htq hKq;rw [← hSC] at hM;have hGn := hinv2.1.first hTw hqN hfst (by omega) (by omega) (by omega) (D' := ((b5, SC (plK R) tw (up ta gi b3) (up si2 (gi * 3 + gj) b5) (up fi2 (gi * 3 + gj) b1) (up ps2 (gi * 3 + gj) b2) ((gi * 3 + gj) + 1) (gi * 3) (gi * 3 + gj)) :: (b1, #[(.pointer none)]) :: (b2, #[(.pointer none)]) :: D3)) (fun x hx => List.mem_cons_of_mem _ (List.mem_cons_of_mem _ (List.mem_cons_of_mem _ hx))) (List.mem_cons_self ..) (List.mem_cons_of_mem _ (List.mem_cons_self ..)) (List.mem_cons_of_mem _ (List.mem_cons_of_mem _ (List.mem_cons_self ..))) hbSn hd1 hd2 h12 (fun b cs hb => by
        rcases List.mem_cons.1 hb with e | hb3
        · simp only [Prod.mk.injEq] at e; rw [e.1]; exact hgS
        rcases List.mem_cons.1 hb3 with e | hb4
        · simp only [Prod.mk.injEq] at e; rw [e.1]; exact hw1
        rcases List.mem_cons.1 hb4 with e | hb5
        · simp only [Prod.mk.injEq] at e; rw [e.1]; exact hw2
        · exact hinv2.1.ge _ _ hb5)
      have hMn := hinv2.2.1.first (c := ec2) (bx := b5) hTw hqN hfst;rw [hKq] at hMn;change Mem w w' [some (b3, trC gi (fun c => if c = gj then (ptr b5 (0)) else (fun c => if c < gj then ptr (si2 (gi * 3 + c)) 0 else .pointer none) c)), none, none, e3_1] ((b5, SC (plK R) tw (up ta gi b3) (up si2 (gi * 3 + gj) b5) (up fi2 (gi * 3 + gj) b1) (up ps2 (gi * 3 + gj) b2) ((gi * 3 + gj) + 1) (gi * 3) (gi * 3 + gj)) :: (b1, #[(.pointer none)]) :: (b2, #[(.pointer none)]) :: D3) at hM;refine wpList_nil <| iN <| tN <| wp_region_lit <| st hF (g_add hF rfl rfl (add_nat (gj) (1) (by omega))) rfl fun a hF => mv hF rfl rfl fun a hF => wpList_nil <| tN ?_;have hMn2 : MpOk ((es2.push { key := iKey (((R gi gj).natAbs : Nat) : Int), val := ptr b5 0, born := ec2 })).toList (plK R) tw (up si2 (gi * 3 + gj) b5) (gi * 3 + gj + 1) := by first | exact hMn | (rw [Array.toList_push]; exact hMn)
      refine ⟨gj + 1, ⟨by omega, ((b5, SC (plK R) tw (up ta gi b3) (up si2 (gi * 3 + gj) b5) (up fi2 (gi * 3 + gj) b1) (up ps2 (gi * 3 + gj) b2) ((gi * 3 + gj) + 1) (gi * 3) (gi * 3 + gj)) :: (b1, #[(.pointer none)]) :: (b2, #[(.pointer none)]) :: D3), (up si2 (gi * 3 + gj) b5), (up fi2 (gi * 3 + gj) b1), (up ps2 (gi * 3 + gj) b2), (es2.push { key := iKey (((R gi gj).natAbs : Nat) : Int), val := ptr b5 0, born := ec2 }), (ec2 + 1), ⟨hGn, hMn2, hmap⟩, hF.sub _ (by repeat' constructor), ?_⟩, by omega⟩;refine hM.rowc 0 rfl (trC_congr fun c hc => ?_)
      by_cases e1 : c = gj
      · subst e1; rw [if_pos rfl, if_pos (by omega), up_eq]
      · rw [if_neg e1]; dsimp only
        by_cases e2 : c < gj
        · rw [if_pos e2, if_pos (by omega), up_ne (by omega)]
        · rw [if_neg e2, if_neg (by omega)]
    obtain rfl : 3 = gj := by omega
    have hM := hM.rowc (cs' := trC gi (fun c => ptr (si2 (gi * 3 + c)) 0)) 0 rfl (trC_congr fun c hc => by rw [if_pos hc]);refine wp_exit <| tX <| tX <| ib_same <| tN <| sq <| sr <| mv hF rfl rfl fun a hF => st hF (g_nilCheck hF rfl) rfl fun a hF => st hF (g_fieldAddr ty_fo_54_1 hF rfl) rfl fun a hF => st hF (g_loadAgg ty_ag_52 hF rfl (hM.row 0 rfl) (by simp only [sz0, grpC_size, numI_size, sdC_size, trC_size] <;> omega) (trC_sides (by omega))) rfl fun a hF => mv hF rfl rfl fun a hF => nt <| wp_block ?_;change Mem w _ [some (b3, trC gi (fun c => ptr (si2 (gi * 3 + c)) 0)), none, none, e3_1] D3 at hM;refine c_loop (fun (kk : Nat) a w' => kk ≤ 3 ∧ ∃ (D4 : Froz), (Gr D4 w.heap.size (m * 3) (plK R) tw (gi * 3 + 3) (gi * 3 + kk) (gi) (up ta gi b3) si2 fi2 ps2 ∧ MpOk es2.toList (plK R) tw si2 (gi * 3 + 3) ∧ IsMap w' bm1 es2 ec2) ∧ Fr 74 a [(2, .slice none 0 0), (4, .map (some bm1)), (13, .slice (some ⟨b, o, none⟩) m c), (14, .int .i64 (m : Int)), (15, .int .i64 (gi : Int)), (3, u3_1), (16, .bool (decide (((gi : Int) : Int) < (m : Int)))), (17, .int .i64 (gi : Int)), (18, ptr b (o + (gi) * 1)), (19, .slice (some ⟨be (gi), ob (gi), none⟩) (3) (ca (gi))), (5, .int .i64 (gi : Int)), (6, .slice (some ⟨be (gi), ob (gi), none⟩) (3) (ca (gi))), (20, .int .i64 (gi : Int)), (21, .agg (trC (gi) (fun _ => .pointer none))), (22, ptr b3 (0)), (7, ptr b3 (0)), (23, .slice (some ⟨be (gi), ob (gi), none⟩) (3) (ca (gi))), (24, .int .i64 (3)), (25, .int .i64 (((3 : Nat) : Int))), (26, .bool (decide ((((3 : Nat) : Int) : Int) < 3))), (48, ptr b3 (0)), (49, ptr b3 (0)), (50, ptr b3 (0 + 1)), (51, .agg (fnC 3 (fun c => ptr (si2 (gi * 3 + c)) 0))), (52, .int .i64 (kk : Int))] ∧ Mem w w' [some (b3, trC gi (fun c => ptr (si2 (gi * 3 + c)) 0)), none, none, e3_1] D4) (fun kk => 3 - kk) 0 ?_ ?_
    · refine ⟨by omega, D3, hinv2, hF.sub _ (by repeat' constructor), ?_⟩
      exact hM
    clear hF hM;rintro gk a w' ⟨hgk, D4, hinv3, hF, hM⟩;have hmap := hinv3.2.2;refine sr <| st hF (g_lss hF rfl rfl) rfl fun a hF => nt <| sq <| c_cond hF rfl (fun h6 => ?_) (fun h6 => ?_)
    · refine wp_skip ?_
      refine tN <| sq <| wp_block <| sr <| mv hF rfl rfl fun a hF => st hF (g_index ty_ua_52 ty_on_46 hF rfl rfl rfl (by omega) (fnC_getE (gk) (by omega) (by omega) rfl)) rfl fun a hF => ag hF rfl rfl fun a hF => ag hF rfl rfl fun a hF => nt <| wp_region_lit <| mv hF rfl rfl fun a hF => mv hF rfl rfl fun a hF => mv hF rfl rfl fun a hF => st hF (g_add hF rfl rfl (add_nat (gk) (1) (by omega))) rfl fun a hF => st hF (g_rem hF rfl rfl (by omega) (rem_nat (gk + 1) (3))) rfl fun a hF => st hF (g_nilCheck hF rfl) rfl fun a hF => st hF (g_fieldAddr ty_fo_54_1 hF rfl) rfl fun a hF => st hF (g_indexAddr ty_ar_52 hF rfl rfl rfl (by omega)) rfl fun a hF => st hF (g_load ty_on_46 hF rfl (hM.row 0 rfl) (trC_get (j := (gk + 1) % (3)) (by omega) (by omega))) rfl fun a hF => st hF (g_nilCheck hF rfl) rfl fun a hF => st hF (g_fieldAddr ty_fo_51_2 hF rfl) rfl fun a hF => ?_;have hu3 : nxt (gi * 3 + gk) = gi * 3 + ((gk + 1) % 3) := by unfold nxt; omega
      have hsd := hinv3.1.sid (gi * 3 + gk) (by omega);have hsame : ∀ b cs ds, (b, cs) ∈ D4 → (b, ds) ∈ D4 → cs = ds := fun b cs ds h1 h2 => (hM.fzm h1).same (hM.fzm h2);refine stN hF (d_storeDM hM hsd (.inl (hinv3.1.ge _ _ hsd)) ty_on_46 hF rfl rfl rfl (by rw [SC_size]; omega)) ?_;rintro _ w' a ⟨hM, hkm⟩ hF;have hmap := hkm _ _ _ hmap;have hSN := SC_next (K := plK R) (tw := tw) (τ := up ta gi b3) (σ := si2) (φ := fi2) (ψ := ps2) (q := gi * 3 + 3) (u := (gi * 3 + gk));rw [hu3] at hSN;rw [show (SC _ _ _ _ _ _ _ _ _).setIfInBounds _ _ = _ from hSN] at hM;have hGn := hinv3.1.next (by omega) hsame;change Mem w w' [some (b3, trC gi (fun c => ptr (si2 (gi * 3 + c)) 0)), none, none, e3_1] (updD D4 (si2 (gi * 3 + gk)) (SC (plK R) tw (up ta gi b3) si2 fi2 ps2 (gi * 3 + 3) ((gi * 3 + gk) + 1) (gi * 3 + gk))) at hM;refine wpList_nil <| iN <| tN <| wp_region_lit <| st hF (g_add hF rfl rfl (add_nat (gk) (1) (by omega))) rfl fun a hF => mv hF rfl rfl fun a hF => nt <| ⟨gk + 1, ⟨by omega, (updD D4 (si2 (gi * 3 + gk)) (SC (plK R) tw (up ta gi b3) si2 fi2 ps2 (gi * 3 + 3) ((gi * 3 + gk) + 1) (gi * 3 + gk))), ⟨hGn, hinv3.2.1, hmap⟩, hF.sub _ (by repeat' constructor), ?_⟩, by omega⟩;exact hM
    obtain rfl : 3 = gk := by omega
    refine wp_exit <| tX <| tX <| ib_same <| tN <| wp_region_lit <| mv hF rfl rfl fun a hF => mv hF rfl rfl fun a hF => stR hF (d_buildC 2 hM hF (build1 hF rfl) (ty_bsp_39 _)) rfl ?_;rintro _ w' a ⟨b7, rfl, hM, hxk⟩ hF; have hmap := hmap.ext hxk;change Mem w w' [some (b3, trC gi (fun c => ptr (si2 (gi * 3 + c)) 0)), none, some (b7, #[ptr b3 (0)]), e3_1] D4 at hM;refine stR hF (d_appendM (k := 3) (m := 1) (g := fun _ => ptr b3 (0)) ty_si_39 rfl (by decide) hM rfl hF rfl rfl hout (fun i hi => by rw [show i = 0 by omega]; exact (hM.row 2 rfl).cell 0) (fun _ _ => rfl) (by decide) (by unfold maxLen; omega) (by omega)) rfl ?_;rintro u8 w' a ⟨e9, hM, hs10, hkm⟩ hF; have hmap := hkm _ _ _ hmap;change Mem w w' [some (b3, trC gi (fun c => ptr (si2 (gi * 3 + c)) 0)), none, some (b7, #[ptr b3 (0)]), e9] D4 at hM;refine ag hF rfl rfl fun a hF => wpList_nil <| iN <| tN <| wp_region_lit <| st hF (g_add hF rfl rfl (add_nat (gi) (1) (by omega))) rfl fun a hF => mv hF rfl rfl fun a hF => wpList_nil <| tN ?_;have hgT := hM.ge 0 rfl;have hM := hM.freeze 0 rfl;change Mem w _ [none, none, some (b7, #[ptr b3 (0)]), e9] ((b3, trC gi (fun c => ptr (si2 (gi * 3 + c)) 0)) :: D4) at hM;have hGn := hinv3.1.ready (b := b3) (by rw [up_eq]) hgT;have hM := hM.drop 2;refine ⟨gi + 1, ⟨by omega, ((b3, trC gi (fun c => ptr (si2 (gi * 3 + c)) 0)) :: D4), (up ta gi b3), si2, fi2, ps2, es2, ec2, ⟨by rw [show (gi + 1) * 3 = gi * 3 + 3 by omega]; exact hGn, by rw [show (gi + 1) * 3 = gi * 3 + 3 by omega]; exact hinv3.2.1, hmap⟩, (u8), (e9), (Sl.snocP hs10), hF.sub _ (by repeat' constructor), ?_⟩, by omega⟩;exact hM
  obtain rfl : m = gi := by omega
  refine wp_exit <| tX <| tX <| ib_same <| tN <| sr <| mv hF rfl rfl fun a hF => ag hF rfl rfl fun a hF => nt <| wp_ret <| fin1 rfl hF.defers (res_tmp hF rfl) ⟨_, rfl, hM.below, ?_⟩;obtain ⟨bO, cO, csO, hvO, heO, hsO⟩ := hout.pos hm0;subst heO;exact ⟨D2, bO, cO, csO, ta, si, fi, ps, hM.ge 3 rfl, hM.row 3 rfl, hsO, fun x ds hx => ⟨hM.fzm hx, fun e => (hM.froz _ _ hx).2 3 _ _ rfl e.symm⟩, hG1⟩
end Go.Proofs.Ytfakhcmamdefiaa

namespace Go.Proofs.Ytfakhcmamdefiaa
open Go Go.RowKit Go.Sw Go.Ech
open Classical
theorem ty_us_39 : Try.prog.underlying 39 = some (.slice 48) := by kernel_rfl
theorem ty_sl_39 : sliceOf Try.prog 39 = some 1 := by kernel_rfl
theorem ty_on_48 : oneP Try.prog 48 = true := by kernel_rfl
theorem two_cnt {S : Nat → Bool} {N i j : Nat} (hi : S i = true) (hj : S j = true) (h : i < j) (hN : j < N) : 2 ≤ cnt S N := by
  have h1 := cnt_lt hi h;have h2 := cnt_lt hj hN
  omega
theorem usP_iff {R : Nat → Nat → Int} {k x : Nat} : usP R k x = true ↔ (plK R x).natAbs = k := by unfold usP plK; exact ⟨of_decide_eq_true, decide_eq_true⟩
theorem surf_tw {m : Nat} {Ln : Nat → Nat} {R : Nat → Nat → Int} (hS : SurfP m Ln R) : ∃ tw, TwP (m * 3) (plK R) tw := by
  have key : ∀ x, x < m * 3 → ∃ y, y < m * 3 ∧ y ≠ x ∧ (plK R y).natAbs = (plK R x).natAbs ∧ ∀ z, z < m * 3 → (plK R z).natAbs = (plK R x).natAbs → z = x ∨ z = y := by
    intro x hx;have ha := rowsG_abs hS.2.1 x hx;have h2 := hS.2.2 (plK R x).natAbs ha.1 ha.2
    unfold us at h2
    obtain ⟨j0, h01, h02, h03⟩ := cnt_ex (S := usP R (plK R x).natAbs) (n := m * 3) (k := 0) (by omega);obtain ⟨j1, h11, h12, h13⟩ := cnt_ex (S := usP R (plK R x).natAbs) (n := m * 3) (k := 1) (by omega);have hall : ∀ z, z < m * 3 → (plK R z).natAbs = (plK R x).natAbs → z = j0 ∨ z = j1 := fun z hz e => by
      have hs := usP_iff.2 e;have hl := cnt_lt hs hz
      rcases (by omega : cnt (usP R (plK R x).natAbs) z = 0 ∨ cnt (usP R (plK R x).natAbs) z = 1) with q | q
      · exact .inl (cnt_inj hs h02 (by omega))
      · exact .inr (cnt_inj hs h12 (by omega))
    have hne : j0 ≠ j1 := fun e => by subst e; omega
    rcases hall x hx rfl with e | e
    · subst e
      exact ⟨j1, h11, fun q => hne q.symm, usP_iff.1 h12, hall⟩
    · subst e
      exact ⟨j0, h01, hne, usP_iff.1 h02, fun z hz q => (hall z hz q).symm⟩
  refine ⟨fun x => if h : x < m * 3 then Classical.choose (key x h) else 0, fun x hx => ?_, fun x hx => ?_, fun x hx => ?_, fun x y hx hy e => ?_⟩ <;> simp only [dif_pos hx]
  · exact (Classical.choose_spec (key x hx)).1
  · exact (Classical.choose_spec (key x hx)).2.1
  · exact (Classical.choose_spec (key x hx)).2.2.1
  · exact (Classical.choose_spec (key x hx)).2.2.2 y hy e
theorem surf_18 {m : Nat} {Ln : Nat → Nat} {R : Nat → Nat → Int} (hS : SurfP m Ln R) : ∀ i, i < m → ∀ j, j < 3 → (R i j).natAbs ≤ 18 := fun i hi j hj => by
  have h := good_abs ((hS.2.1 i hi).2 j hj)
  have h1 := hS.1
  unfold SizeP at h1
  omega
def OrP (m : Nat) (R : Nat → Nat → Int) (tw : Nat → Nat) : Prop := ∀ i, i < m → ∀ j, j < 3 → plK R (i * 3 + j) ≠ plK R (tw (i * 3 + j))
section
variable {K : Nat → Int} {tw τ σ φ ψ : Nat → Nat} {q u x o : Nat}
theorem SC_g0 (h : o = 0) : (SC K tw τ σ φ ψ q u x)[o]? = some (.int .i64 (K x)) := by subst h; rfl
theorem SC_g1 (h : o = 1) : (SC K tw τ σ φ ψ q u x)[o]? = some (ptr (τ (x / 3)) 0) := by subst h; rfl
theorem SC_g3 (h : o = 3) (hx : tw x < q) : (SC K tw τ σ φ ψ q u x)[o]? = some (ptr (σ (tw x)) 0) := by subst h; exact congrArg some (if_pos hx)
end
theorem TCv_sides {σ : Nat → Nat} {i o : Nat} (h : o = 1) : (TCv σ i).extract o (o + 3) = fnC 3 (fun j => ptr (σ (i * 3 + j)) 0) := trC_sides h
end Go.Proofs.Ytfakhcmamdefiaa
