/- What functions of the program return, as walks over their operations; no statement of the seat is proved here. -/
import Derived.Test.YtficgmohfabplaaK7
set_option linter.unusedVariables false
set_option linter.unusedSimpArgs false
namespace Go.Proofs.Ytficgmohfabplaa
open Go Go.RowKit Go.Sw Go.Ech
open Classical
theorem hasFullForm_ok (p n : Nat) (T : Nat → Nat → Nat → Nat) (f : Nat → Nat) (w : World) (hp : primeN p) (hn0 : 0 < n) (hn : n ≤ 6) (hT : ∀ i j k, T i j k ≤ 255) (hf : ∀ i, f i ≤ 255) :
    CallsR Try.prog 40 #[.agg (algC (p : Int) (n : Int) T f)] w (fun res _ => res = .bool (decide (FrobN p n T f))) := by
  refine calls_fr [.agg (algC (p : Int) (n : Int) T f)] Try.func40 rfl Try.ntmps40 rfl fun a hF => ?_
  have hM : Mem w w [none] [] := MemX.start w 1
  change Fr 12 a [(0, .agg (algC (p : Int) (n : Int) T f))] at hF
  have hp2 := hp.two
  have hp13 := hp.le
  refine sq ?_
  refine wp_region_lit ?_
  refine stR hF (d_box 0 hM hF rfl) rfl ?_
  rintro _ w' a ⟨b1, rfl, hM, -⟩ hF
  change Mem w w' [some (b1, algC (p : Int) (n : Int) T f)] [] at hM
  refine st hF (g_assign hF rfl) rfl fun a hF => ?_
  refine wpList_nil ?_
  refine tN ?_
  refine sq ?_
  refine c_drawH (S := fun (bb : Bool) (g : Option Nat) w2 => bb = g.isSome ∧ MemX [] w w2 [some (b1, algC (p : Int) (n : Int) T f)] [] ∧ ∀ k, g = some k → ∃ E ld, Rref p 6 E k ld ∧ (∀ x, Ker p 6 E k x ↔ Ker p 6 (formM p n T f) n x)) 9 4 hmix rfl rfl rfl hF rfl (dstEvery_spec rfl) none ⟨rfl, hM, fun k e => by cases e⟩ (fun bb g w h => ⟨h.1, h.2.1.ext (Below.drew (Below.refl _ _)), h.2.2⟩) (fun i (g : Option Nat) u w2 => match i with | 0 => u = .agg (algC (p : Int) (n : Int) T f) | 1 => g = none → BytesFr w [some (b1, algC (p : Int) (n : Int) T f)] 6 n (formM p n T f) u w2 | 2 => u = ptr b1 (0 + 0) | 3 => u = .int .i64 (((p : Nat) : Int)) | 4 => ∃ k b cap, g = some k ∧ u = .slice (some ⟨b, 0, none⟩) k cap | 5 => ∃ k, g = some k ∧ u = .int .i64 ((k : Nat) : Int) | 6 => u = ptr b1 (0 + 1) | 7 => u = .int .i64 (((n : Nat) : Int)) | 8 => ∃ k, g = some k ∧ u = .bool (decide (((k : Nat) : Int) = ((n : Nat) : Int))) | _ => True) ⟨fun a w2 bb g hF hS hb hd => by have hM := hS.2.1; exact ph_val hS rfl (g_loadAgg ty_ag_31 hF rfl (hM.row 0 rfl) (by simp only [fnC_size, cells_size, vecC_size, tabC_size, planeC_size] <;> omega) (whole cells_size)), fun a w2 bb g hF hS hb hd => by have hF := hF.ext1 3 (hd 0 rfl rfl); exact (d_call Try.call60 hF (.cons rfl .nil) (formRows_ok p n T f _ (by omega) (by omega) (by omega) (by omega) hT hf)).mono fun u w3 ⟨hx, hr⟩ => ⟨g, ⟨hS.1, hS.2.1.ext hx, hS.2.2⟩, fun _ => hr.fresh hS.2.1, fun j u hj h => by rcases j with _ | _ | _ | _ | _ | _ | _ | _ | _ | j <;> first | exact h | exact absurd rfl hj⟩, fun a w2 bb g hF hS hb hd => by have hM := hS.2.1; exact ph_val hS rfl (g_fieldAddr ty_fo_31_0 hF rfl), fun a w2 bb g hF hS hb hd => by have hF := hF.ext1 5 (hd 2 rfl rfl); have hM := hS.2.1; exact ph_val hS rfl (g_load ty_on_2 hF rfl (hM.row 0 rfl) (algC_p (by omega))), fun a w2 g hF hS hd => by
    obtain rfl : g = none := by (cases g; rfl; exact absurd hS.1 (by simp))
    obtain ⟨D, β, br, cs, h1, hB, hu, hsz, hgc, hbm, hne⟩ := hd 1 rfl rfl rfl
    have hF := hF.ext1 4 hu
    have hF := hF.ext1 6 (hd 3 rfl rfl)
    exact (d_callX Try.call59 hF (.cons rfl (.cons rfl .nil)) (reduceRows_ok p 6 n br n cs β (formM p n T f) _ hp (by omega) (by omega) (by omega) (Nat.le_refl _) (formM_lt (by omega)) (h1 _ _ hbm).2.1 (by omega) hgc (fun i hi => (h1 _ _ (hB.mem i hi)).2.1) hB.inj hne)).mono fun u w3 ⟨hx, k, E, γ', ld, cs', hu3, hkm, hE, hKer, _⟩ => ⟨some k, ⟨rfl, hS.2.1.extY hx (fun y hy => by
      rcases List.mem_cons.1 hy with e | hy
      · rw [e]; exact ⟨(h1 _ _ hbm).1, (h1 _ _ hbm).2.2, fun _ _ h => by cases h⟩
      · obtain ⟨i, hi, rfl⟩ := List.mem_map.1 hy
        have hm := hB.mem i (by simpa using hi)
        exact ⟨(h1 _ _ hm).1, (h1 _ _ hm).2.2, fun _ _ h => by cases h⟩), fun k' e => by cases e; exact ⟨E, ld, hE, hKer⟩⟩, ⟨k, br, n, rfl, hu3⟩, fun j u hj h => by
      rcases j with _ | _ | _ | _ | _ | _ | _ | _ | _ | j <;> first | exact h | exact absurd rfl hj | exact (fun e => by cases e) | (obtain ⟨k', e, _⟩ := h; cases e)⟩, fun a w2 bb g hF hS hb hd => by obtain ⟨k, b, cap, rfl, hu⟩ := hd 4 rfl rfl; have hF := hF.ext1 7 hu; exact ph_val hS ⟨k, rfl, rfl⟩ (g_len ty_us_76 hF rfl), fun a w2 bb g hF hS hb hd => by have hM := hS.2.1; exact ph_val hS rfl (g_fieldAddr ty_fo_31_1 hF rfl), fun a w2 bb g hF hS hb hd => by have hF := hF.ext1 9 (hd 6 rfl rfl); have hM := hS.2.1; exact ph_val hS rfl (g_load ty_on_2 hF rfl (hM.row 0 rfl) (algC_n (by omega))), fun a w2 bb g hF hS hb hd => by obtain ⟨k, rfl, hu⟩ := hd 5 rfl rfl; have hF := hF.ext1 8 hu; have hF := hF.ext1 10 (hd 7 rfl rfl); exact ph_val hS ⟨k, rfl, rfl⟩ (g_eql hF rfl rfl), trivial⟩ ?_
  intro a w' g hF hS hq
  obtain ⟨k, rfl, hu8⟩ := hq 8 rfl rfl
  obtain ⟨-, hM, hE0⟩ := hS
  obtain ⟨E, ld, hE, hKer⟩ := hE0 k rfl
  have hF := hF.ext1 11 hu8
  change Mem w w' [some (b1, algC (p : Int) (n : Int) T f)] [] at hM
  change wpList Try.prog _ _ [_] _ _
  refine st hF (g_assign hF rfl) rfl fun a hF => ?_
  refine wpList_nil ?_
  refine tN ?_
  refine wp_ret ?_
  refine fin1 rfl hF.defers (res_tmp hF rfl) ⟨_, rfl, hM.below, ?_⟩
  show _ = _
  exact congrArg Value.bool (decide_eq_decide.2 (frob_iff hp2 hE hKer))

end Go.Proofs.Ytficgmohfabplaa

namespace Go.Proofs.Ytficgmohfabplaa
open Go Go.RowKit Go.Sw Go.Ech
open Classical
theorem l01Frobenius_ok (p n : Nat) (T : Nat → Nat → Nat → Nat) (f : Nat → Nat) (w : World) (hp : primeN p) (hn0 : 0 < n) (hn : n ≤ 6) (hT : ∀ i j k, T i j k ≤ 255) (hf : ∀ i, f i ≤ 255) :
    CallsR Try.prog 55 #[.agg (algC (p : Int) (n : Int) T f)] w (fun res _ => res = .bool (decide (FrobN p n T f))) := by
  refine calls_fr [.agg (algC (p : Int) (n : Int) T f)] Try.func55 rfl Try.ntmps55 rfl fun a hF => ?_
  have hM : Mem w w [none, none, none, none, none] [] := MemX.start w 5
  change Fr 44 a [(0, .agg (algC (p : Int) (n : Int) T f))] at hF
  have hp2 := hp.two
  have hp13 := hp.le
  refine sq ?_
  refine wp_region_lit ?_
  refine stR hF (d_box 0 hM hF rfl) rfl ?_
  rintro _ w' a ⟨b1, rfl, hM, -⟩ hF
  change Mem w w' [some (b1, algC (p : Int) (n : Int) T f), none, none, none, none] [] at hM
  refine st hF (g_assign hF rfl) rfl fun a hF => ?_
  refine wpList_nil ?_
  refine tN ?_
  refine sq ?_
  refine wp_region_lit ?_
  refine stR hF (d_buildC 1 hM hF rfl ty_bs0_64) rfl ?_
  rintro _ w' a ⟨b2, rfl, hM, -⟩ hF
  change Mem w w' [some (b1, algC (p : Int) (n : Int) T f), some (b2, #[]), none, none, none] [] at hM
  refine st hF (g_assign hF rfl) rfl fun a hF => ?_
  refine wpList_nil ?_
  refine tN ?_
  refine sq ?_
  refine sq ?_
  refine wp_region_lit ?_
  refine st hF (g_assign hF rfl) rfl fun a hF => ?_
  refine wpList_nil ?_
  refine tN ?_
  refine wp_block ?_
  change Mem w _ [some (b1, algC (p : Int) (n : Int) T f), some (b2, #[]), none, none, none] [] at hM
  refine c_loop (fun (kk : Nat) a w' => kk ≤ n ∧ ∃ (D1 : Froz), ∃ (β : Nat → Nat), ∃ (κ : Nat → Nat), ∃ (C : Nat → Array Value), (RowsD D1 n kk β κ C (fun i c => .int .i64 ((formM p n T f i c : Nat) : Int))) ∧ ∃ (u3_1 : Value) (e3_1 : Option (Nat × Array Value)), Sl 1 u3_1 e3_1 (kk) (fun i => .slice (some ⟨β i, 0, none⟩) n (κ i)) ∧ Fr 44 a [(0, .agg (algC (p : Int) (n : Int) T f)), (1, ptr b1 (0)), (2, .bool (false)), (7, .slice (some ⟨b2, 0, none⟩) (0) (0)), (4, .int .i64 (((kk : Nat) : Int))), (3, u3_1)] ∧ Mem w w' [some (b1, algC (p : Int) (n : Int) T f), e3_1, none, none, none] D1) (fun kk => n - kk) 0 ?_ ?_
  ·
    refine ⟨by omega, [], (fun _ => 0), (fun _ => 0), (fun _ => #[]), RowsD.none, (.slice (some ⟨b2, 0, none⟩) (0) (0)), (some (b2, #[])), Sl.empty _ _ _, hF.sub _ (by repeat' constructor), ?_⟩
    exact hM
  ·
    clear hF hM
    rintro gi a w' ⟨hgi, D1, β, κ, C, hR, u3_1, e3_1, hsl, hF, hM⟩
    refine sq ?_
    refine sq ?_
    refine wp_region_lit ?_
    refine st hF (g_move hF rfl) rfl fun a hF => st hF (g_fieldAddr ty_fo_31_1 hF rfl) rfl fun a hF => st hF (g_load ty_on_2 hF rfl (hM.row 0 rfl) (algC_n (by omega))) rfl fun a hF => st hF (g_lss hF rfl rfl) rfl fun a hF => ?_
    refine wpList_nil ?_
    refine tN ?_
    refine c_cond hF rfl (fun h3 => ?_) (fun h3 => ?_)
    ·
      refine wp_skip ?_
      refine tN ?_
      refine sq ?_
      refine wp_block ?_
      refine sq ?_
      refine wp_region_lit ?_
      refine stR hF (d_buildC 2 hM hF rfl ty_bs0_50) rfl ?_
      rintro _ w' a ⟨b4, rfl, hM, -⟩ hF
      change Mem w w' [some (b1, algC (p : Int) (n : Int) T f), e3_1, some (b4, #[]), none, none] D1 at hM
      refine st hF (g_assign hF rfl) rfl fun a hF => ?_
      refine wpList_nil ?_
      refine tN ?_
      refine sq ?_
      refine sq ?_
      refine wp_region_lit ?_
      refine st hF (g_assign hF rfl) rfl fun a hF => ?_
      refine wpList_nil ?_
      refine tN ?_
      refine wp_block ?_
      change Mem w _ [some (b1, algC (p : Int) (n : Int) T f), e3_1, some (b4, #[]), none, none] D1 at hM
      refine c_loop (fun (kk : Nat) a w' => kk ≤ n ∧ (True) ∧ ∃ (u5_2 : Value) (e5_2 : Option (Nat × Array Value)), Sl 1 u5_2 e5_2 (kk) (fun c => .int .i64 ((formM p n T f gi c : Nat) : Int)) ∧ Fr 44 a [(0, .agg (algC (p : Int) (n : Int) T f)), (1, ptr b1 (0)), (2, .bool (false)), (7, .slice (some ⟨b2, 0, none⟩) (0) (0)), (4, .int .i64 (((gi : Nat) : Int))), (3, u3_1), (8, .int .i64 (((gi : Nat) : Int))), (9, ptr b1 (0 + 1)), (10, .int .i64 (((n : Nat) : Int))), (11, .bool (decide ((((gi : Nat) : Int) : Int) < ((n : Nat) : Int)))), (14, .slice (some ⟨b4, 0, none⟩) (0) (0)), (6, .int .i64 (((kk : Nat) : Int))), (5, u5_2)] ∧ Mem w w' [some (b1, algC (p : Int) (n : Int) T f), e3_1, e5_2, none, none] D1) (fun kk => n - kk) 0 ?_ ?_
      ·
        refine ⟨by omega, trivial, (.slice (some ⟨b4, 0, none⟩) (0) (0)), (some (b4, #[])), Sl.empty _ _ _, hF.sub _ (by repeat' constructor), ?_⟩
        exact hM
      ·
        clear hF hM
        rintro gj a w' ⟨hgj, hinv2, u5_2, e5_2, hrow, hF, hM⟩
        refine sq ?_
        refine sq ?_
        refine wp_region_lit ?_
        refine st hF (g_move hF rfl) rfl fun a hF => st hF (g_fieldAddr ty_fo_31_1 hF rfl) rfl fun a hF => st hF (g_load ty_on_2 hF rfl (hM.row 0 rfl) (algC_n (by omega))) rfl fun a hF => st hF (g_lss hF rfl rfl) rfl fun a hF => ?_
        refine wpList_nil ?_
        refine tN ?_
        refine c_cond hF rfl (fun h5 => ?_) (fun h5 => ?_)
        ·
          refine wp_skip ?_
          refine tN ?_
          refine sq ?_
          refine wp_block ?_
          refine c_par 10 [3] [.val (u5_2), .val (.agg (algC (p : Int) (n : Int) T f)), .val (.int .i64 (((gi : Nat) : Int))), .val (.int .i64 (((gj : Nat) : Int))), .val (ptr b1 (0 + 2)), .val (ptr b1 (0 + 2 + (gi) * 36)), .val (ptr b1 (0 + 2 + (gi) * 36 + (gj) * 6)), .val (.agg (vecC (T (gi) (gj)))), .val (.int .i64 (((sumTo (fun i => f i * ((T (gi) (gj))) i) 6 % p : Nat) : Int))), .own 3 (#[.int .i64 (((sumTo (fun i => f i * ((T (gi) (gj))) i) 6 % p : Nat) : Int))]) (fun b => .slice (some ⟨b, 0, none⟩) 1 1)] hmix rfl hF rfl hM ⟨fun a w gG hF hS hd => by exact par_val hS rfl (g_move hF rfl), fun a w gG hF hS hd => by have hM := hS.mem rfl; exact par_val hS rfl (g_loadAgg ty_ag_31 hF rfl (hM.row 0 rfl) (by simp only [fnC_size, cells_size, vecC_size, tabC_size, planeC_size] <;> omega) (whole cells_size)), fun a w gG hF hS hd => by exact par_val hS rfl (g_move hF rfl), fun a w gG hF hS hd => by exact par_val hS rfl (g_move hF rfl), fun a w gG hF hS hd => by exact par_val hS rfl (g_fieldAddr ty_fo_31_2 hF rfl), fun a w gG hF hS hd => by have hF := hF.ext1 23 (hd 2 rfl rfl); have hF := hF.ext1 25 (hd 4 rfl rfl); exact par_val hS rfl (g_indexAddr ty_ar_24 hF rfl rfl rfl (by omega)), fun a w gG hF hS hd => by have hF := hF.ext1 24 (hd 3 rfl rfl); have hF := hF.ext1 26 (hd 5 rfl rfl); exact par_val hS rfl (g_indexAddr ty_ar_23 hF rfl rfl rfl (by omega)), fun a w gG hF hS hd => by have hF := hF.ext1 27 (hd 6 rfl rfl); have hM := hS.mem rfl; exact par_val hS rfl (g_loadAgg ty_ag_22 hF rfl (hM.row 0 rfl) (by simp only [fnC_size, cells_size, vecC_size, tabC_size, planeC_size] <;> omega) (algC_row (gi) (gj) (by omega) (by omega) (by omega) (by omega))), fun a w gG hF hS hd => by have hF := hF.ext1 22 (hd 1 rfl rfl); have hF := hF.ext1 28 (hd 7 rfl rfl); exact par_call (by repeat constructor) hS rfl (d_call Try.call58 hF (.cons rfl (.cons rfl .nil)) (l01Form_ok p n T f ((T (gi) (gj))) _ (by omega) (fun _ => by first | exact hv _ | exact hvt _ | exact hvs _ | exact hu _ | exact hT _ _ _ | exact hf _ | omega | (split <;> omega) | (dsimp only; split <;> omega) | assumption) (fun _ => by first | exact hv _ | exact hvt _ | exact hvs _ | exact hu _ | exact hT _ _ _ | exact hf _ | omega | (split <;> omega) | (dsimp only; split <;> omega) | assumption))), fun a w gG hF hS hd => by have hF := hF.ext1 29 (hd 8 rfl rfl); exact par_own (by repeat constructor) hS rfl rfl rfl rfl (d_buildC 3 hS.1 hF (build1 hF rfl) (ty_bs1_50 _)), trivial⟩ ?_
          intro a w' L hF hS hq
          have hF := hF.ext1 21 (hq 0 rfl rfl)
          have hF := hF.ext1 22 (hq 1 rfl rfl)
          have hF := hF.ext1 23 (hq 2 rfl rfl)
          have hF := hF.ext1 24 (hq 3 rfl rfl)
          have hF := hF.ext1 25 (hq 4 rfl rfl)
          have hF := hF.ext1 26 (hq 5 rfl rfl)
          have hF := hF.ext1 27 (hq 6 rfl rfl)
          have hF := hF.ext1 28 (hq 7 rfl rfl)
          have hF := hF.ext1 29 (hq 8 rfl rfl)
          obtain ⟨hM, hL⟩ := hS
          obtain ⟨b6, hptr, hkk⟩ := hq 9 rfl rfl
          have hF := hF.ext1 30 hptr
          have hL := hL.take hkk
          obtain rfl := hL.eq
          change Mem w w' [some (b1, algC (p : Int) (n : Int) T f), e3_1, e5_2, some (b6, #[.int .i64 (((sumTo (fun i => f i * ((T (gi) (gj))) i) 6 % p : Nat) : Int))]), none] D1 at hM
          change wpList Try.prog _ _ [_, _] _ _
          refine stR hF (d_append (k := 2) (m := 1) (g := fun _ => .int .i64 (((sumTo (fun i => f i * ((T (gi) (gj))) i) 6 % p : Nat) : Int))) ty_si_50 rfl (by decide) hM rfl hF rfl rfl hrow (fun i hi => by rw [show i = 0 by omega]; exact (hM.row 3 rfl).cell 0) (fun _ _ => rfl) (by decide) (by unfold maxLen; omega) (by omega)) rfl ?_
          rintro u7 w' a ⟨e8, hM, hs9⟩ hF
          change Mem w w' [some (b1, algC (p : Int) (n : Int) T f), e3_1, e8, some (b6, #[.int .i64 (((sumTo (fun i => f i * ((T (gi) (gj))) i) 6 % p : Nat) : Int))]), none] D1 at hM
          refine st hF (g_assign hF rfl) rfl fun a hF => ?_
          refine wpList_nil ?_
          refine iN ?_
          refine tN ?_
          refine wp_region_lit ?_
          refine st hF (g_move hF rfl) rfl fun a hF => st hF (g_add hF rfl rfl (add_nat (gj) (1) (by omega))) rfl fun a hF => st hF (g_assign hF rfl) rfl fun a hF => ?_
          refine wpList_nil ?_
          refine tN ?_
          have hM := hM.drop 3
          refine ⟨gj + 1, ⟨by omega, trivial, (u7), (e8), (hs9.snoc (by simp only [formM]; rw [if_pos (by omega)]; simp only [Nat.mul_comm])), hF.sub _ (by repeat' constructor), ?_⟩, by omega⟩
          exact hM
        ·
          obtain rfl : n = gj := by omega
          refine wp_exit ?_
          refine tX ?_
          refine tX ?_
          refine ib_same ?_
          refine tN ?_
          obtain ⟨bR, capR, csR, rfl, rfl, hsR⟩ := hrow.pos (by omega)
          have hM := hM.freeze 2 rfl
          have hR2 := (hR.more (D' := (bR, csR) :: D1) (fun x hx => List.mem_cons_of_mem _ hx)).snoc (List.mem_cons_self ..) hsR
          change Mem w _ [some (b1, algC (p : Int) (n : Int) T f), e3_1, none, none, none] ((bR, csR) :: D1) at hM
          refine wp_region_lit ?_
          refine st hF (g_move hF rfl) rfl fun a hF => st hF (g_move hF rfl) rfl fun a hF => ?_
          refine stR hF (d_buildC 4 hM hF (build1 hF rfl) (ty_bsv_64 _ _ _)) rfl ?_
          rintro _ w' a ⟨b10, rfl, hM, -⟩ hF
          change Mem w w' [some (b1, algC (p : Int) (n : Int) T f), e3_1, none, none, some (b10, #[.slice (some ⟨bR, 0, none⟩) (n) (capR)])] ((bR, csR) :: D1) at hM
          refine stR hF (d_append (k := 1) (m := 1) (g := fun _ => .slice (some ⟨bR, 0, none⟩) (n) (capR)) ty_si_64 rfl (by decide) hM rfl hF rfl rfl hsl (fun i hi => by rw [show i = 0 by omega]; exact (hM.row 4 rfl).cell 0) (fun _ _ => rfl) (by decide) (by unfold maxLen; omega) (by omega)) rfl ?_
          rintro u11 w' a ⟨e12, hM, hs13⟩ hF
          change Mem w w' [some (b1, algC (p : Int) (n : Int) T f), e12, none, none, some (b10, #[.slice (some ⟨bR, 0, none⟩) (n) (capR)])] ((bR, csR) :: D1) at hM
          refine st hF (g_assign hF rfl) rfl fun a hF => ?_
          refine wpList_nil ?_
          refine iN ?_
          refine tN ?_
          refine wp_region_lit ?_
          refine st hF (g_move hF rfl) rfl fun a hF => st hF (g_add hF rfl rfl (add_nat (gi) (1) (by omega))) rfl fun a hF => st hF (g_assign hF rfl) rfl fun a hF => ?_
          refine wpList_nil ?_
          refine tN ?_
          have hsl := hs13.snocR
          have hR2 := hR2.congr (g := fun i c => .int .i64 ((formM p n T f i c : Nat) : Int)) (fun i hi c hc => by
            by_cases e : i = gi
            · rw [e]; simp only [up_eq]
            · simp only [up_ne e])
          have hM := hM.drop 4
          refine ⟨gi + 1, ⟨by omega, ((bR, csR) :: D1), (up β gi bR), (up κ gi capR), (up C gi csR), hR2, (u11), (e12), hsl, hF.sub _ (by repeat' constructor), ?_⟩, by omega⟩
          exact hM
    ·
      obtain rfl : n = gi := by omega
      obtain ⟨b0, c0, cs0, rfl, rfl, hs0⟩ := hsl.pos hn0
      have hM := hM.freeze 1 rfl
      have hb0 : (b0, cs0) ∈ (b0, cs0) :: D1 := List.mem_cons_self ..
      have hRm0 : ∀ x ∈ D1, x ∈ (b0, cs0) :: D1 := fun x hx => List.mem_cons_of_mem _ hx
      have hfM1 := formM_lt (n := n) (T := T) (f := f) (show 0 < p by omega)
      change Mem w _ [some (b1, algC (p : Int) (n : Int) T f), none, none, none, none] ((b0, cs0) :: D1) at hM
      refine wp_exit ?_
      refine tX ?_
      refine tX ?_
      refine ib_same ?_
      refine tN ?_
      refine sq ?_
      refine c_par 8 [] [.val (ptr b1 (0 + 0)), .val (.int .i64 (((p : Nat) : Int))), .val (.slice (some ⟨b0, 0, none⟩) (n) (c0)), .rel (EchRel w [some (b1, algC (p : Int) (n : Int) T f), none, none, none, none] p n (n) (formM p n T f)), .rel (fun u _ => ∃ k, u = .int .i64 ((k : Nat) : Int) ∧ ∃ E ld, Rref p n E k ld ∧ ∀ x, Ker p n E k x ↔ Ker p n (formM p n T f) n x), .val (ptr b1 (0 + 1)), .val (.int .i64 (((n : Nat) : Int))), .rel (fun u _ => ∃ k, u = .bool (decide (((k : Nat) : Int) = ((n : Nat) : Int))) ∧ ∃ E ld, Rref p n E k ld ∧ ∀ x, Ker p n E k x ↔ Ker p n (formM p n T f) n x)] hmix rfl hF rfl hM ⟨fun a w g hF hS hd => by exact par_val hS rfl (g_fieldAddr ty_fo_31_0 hF rfl), fun a w g hF hS hd => by have hF := hF.ext1 36 (hd 0 rfl rfl); have hM := hS.mem rfl; exact par_val hS rfl (g_load ty_on_2 hF rfl (hM.row 0 rfl) (algC_p (by omega))), fun a w g hF hS hd => by exact par_val hS rfl (g_move hF rfl), fun a w g hF hS hd => by have hF := hF.ext1 37 (hd 1 rfl rfl); have hF := hF.ext1 38 (hd 2 rfl rfl); have hM := hS.mem rfl; exact par_rel (by exact ⟨fun _ _ _ h hx => h.last hx, fun _ _ _ h _ => h, fun _ _ _ h _ => h, trivial⟩) hS rfl (d_call Try.call65 hF (.cons rfl (.cons rfl .nil)) (l01Echelon_ok p n (n) (b0) (c0) (cs0) ((b0, cs0) :: D1) β κ C (formM p n T f) _ hp (by omega) (by omega) (by omega) hfM1 (fun _ _ hm => hM.fzm hm) hb0 (fun i hi => hs0.get1 i hi) (hR.more hRm0))) (fun _ _ hr => EchRel.of hM hr), fun a w g hF hS hd => by obtain ⟨k, E, ld, h1, h2, h3, h4, D, β', κ', C', b', cap', cs', h5, h6, h7, h8⟩ := (hd 3 rfl rfl : EchRel _ _ _ _ _ _ _ _); have hF := hF.ext1 39 h7.val; exact par_relG hS rfl (g_len ty_us_64 hF rfl) ⟨k, rfl, E, ld, h1, h2⟩, fun a w g hF hS hd => by exact par_val hS rfl (g_fieldAddr ty_fo_31_1 hF rfl), fun a w g hF hS hd => by have hF := hF.ext1 41 (hd 5 rfl rfl); have hM := hS.mem rfl; exact par_val hS rfl (g_load ty_on_2 hF rfl (hM.row 0 rfl) (algC_n (by omega))), fun a w g hF hS hd => by obtain ⟨k, hu, hk⟩ := (hd 4 rfl rfl : ∃ k, _); have hF := hF.ext1 40 hu; have hF := hF.ext1 42 (hd 6 rfl rfl); exact par_relG hS rfl (g_eql hF rfl rfl) ⟨k, rfl, hk⟩, trivial⟩ ?_
      intro a w' L hF hS hq
      have hM := hS.mem rfl
      obtain ⟨k, hu7, E, ld, hE, hKer⟩ := (hq 7 rfl rfl : ∃ k, _)
      have hF := hF.ext1 43 hu7
      change wpList Try.prog _ _ [_] _ _
      refine st hF (g_assign hF rfl) rfl fun a hF => ?_
      refine wpList_nil ?_
      refine tN ?_
      refine wp_ret ?_
      refine fin1 rfl hF.defers (res_tmp hF rfl) ⟨_, rfl, hM.below, ?_⟩
      show _ = _
      exact congrArg Value.bool (decide_eq_decide.2 (frob_iff hp2 (Go.Sw.Rref.wid (N := 6) (by omega) hn hE) (fun x => (ker_wid hn).trans ((hKer x).trans (by rw [← ker_wid hn, show wid n (formM p n T f) = formM p n T f from funext fun i => funext fun c => by unfold wid formM; split <;> rfl])))))





end Go.Proofs.Ytficgmohfabplaa
