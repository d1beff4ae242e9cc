/- What functions of the program return, as walks over their operations; no statement of the seat is proved here. -/
import Derived.Test.YtbeodbfbfbefkaaDoorG12
import Derived.Test.YtbeodbfbfbefkaaDoorEch
import Derived.Test.YtbeodbfbfbefkaaDoorEch3
set_option linter.unusedVariables false
set_option linter.unusedSimpArgs false
namespace Go.Proofs.YtbeodbfbfbefkaaDoor
open Go Go.RowKit Go.Sw Go.Ech
theorem ty_bs0_73 : ∀ w, (Instr.buildSlice 73 0 #[]).run Tryd.prog w = .ok (.slice (some ⟨w.heap.size, 0, none⟩) 0 0) (w.alloc (.cells #[] 70)) := by intros; kernel_rfl
theorem ty_us_73 : Tryd.prog.underlying 73 = some (.slice 70) := by kernel_rfl
theorem ty_sl_73 : sliceOf Tryd.prog 73 = some 1 := by kernel_rfl
theorem ty_on_70 : oneP Tryd.prog 70 = true := by kernel_rfl
theorem ty_bsv_73 : ∀ (x : Option Addr) (n c : Nat) (w : World), (Instr.buildSlice 73 1 #[(0, .slice x n c)]).run Tryd.prog w = .ok (.slice (some ⟨w.heap.size, 0, none⟩) 1 1) (w.alloc (.cells #[.slice x n c] 70)) := by intros; kernel_rfl
theorem ty_si_73 : slI Tryd.prog 73 = some (70, some (.slice none 0 0), 1, 24) := by kernel_rfl
theorem leadN_row {p N k : Nat} {E : Nat → Nat → Nat} {ld : Nat → Nat} (h : Rref p N E k ld) {i : Nat} (hi : i < k) : leadN (fun c => ((E i c : Nat) : Int)) N = ld i :=
  leadN_some (h.lt i hi) (fun c hc => by rw [h.left i hi c hc]; rfl) (by rw [h.one i hi]; decide)
theorem l01Lead_row {p N k : Nat} {E : Nat → Nat → Nat} {ld : Nat → Nat} {w : World} (b c : Nat) {cs : Array Value} {i : Nat} (hb : Blk w b cs) (hg : ∀ c, c < N → cs[0 + c * 1]? = some (.int .i64 ((E i c : Nat) : Int))) (hN : N < 1000) (h : Rref p N E k ld) (hi : i < k) :
    CallsR Tryd.prog 89 #[.slice (some ⟨b, 0, none⟩) N c] w (fun res _ => res = .int .i64 ((ld i : Nat) : Int)) := by
  have := l01Lead_ok b 0 c N cs (fun c => ((E i c : Nat) : Int)) w hb hg hN
  rwa [leadN_row h hi, if_pos (h.lt i hi)] at this
theorem leadN_spec {f : Nat → Int} {n : Nat} : (leadN f n < n ∧ f (leadN f n) ≠ 0 ∧ ∀ i, i < leadN f n → f i = 0) ∨ (leadN f n = n ∧ ∀ i, i < n → f i = 0) := by
  by_cases h : ∃ k, k < n ∧ f k ≠ 0
  · left
    have key : ∀ m, m ≤ n → (∃ k, k < m ∧ f k ≠ 0) → ∃ k, k < m ∧ f k ≠ 0 ∧ ∀ i, i < k → f i = 0 := by
      intro m
      induction m with
      | zero => rintro _ ⟨k, hk, _⟩; omega
      | succ m ih =>
        rintro hm ⟨k, hk, hf⟩
        by_cases h2 : ∃ k, k < m ∧ f k ≠ 0
        · obtain ⟨k, h3, h4⟩ := ih (by omega) h2; exact ⟨k, by omega, h4⟩
        · refine ⟨k, hk, hf, fun i hi => Classical.byContradiction fun h5 => h2 ⟨i, by omega, h5⟩⟩
    obtain ⟨k, h1, h2, h3⟩ := key n (Nat.le_refl _) h
    rw [leadN_some h1 h3 h2]; exact ⟨h1, h2, h3⟩
  · right
    have h0 : ∀ i, i < n → f i = 0 := fun i hi => Classical.byContradiction fun h5 => h ⟨i, hi, h5⟩
    exact ⟨leadN_none h0, h0⟩
theorem invN_lt {x p : Nat} (hp : 0 < p) : invN x p < p := by
  unfold invN
  cases e : (List.range p).find? (fun c => c * x % p == 1) with
  | none => exact hp
  | some c => have := List.mem_of_find?_eq_some e; simpa using this
theorem invN_ok {x p : Nat} (hp : primeN p) (hx : x < p) (h0 : x ≠ 0) : x * invN x p % p = 1 := by
  have h : ∀ q ∈ [2, 3, 5, 7, 11, 13], ∀ y, y < q → y ≠ 0 → y * invN y q % q = 1 := by decide
  exact h p (by unfold primeN at hp; simp; omega) x hx h0

theorem l01Echelon_ok (p N m b0 c0 : Nat) (cs0 : Array Value) (D0 : Froz) (β0 κ0 : Nat → Nat) (C0 : Nat → Array Value) (M : Nat → Nat → Nat) (w : World) (hp : primeN p) (hN : 0 < N) (hN2 : N < 100) (hm2 : m < 1000) (hM1 : ∀ i c, M i c < p) (hD0 : ∀ b cs, (b, cs) ∈ D0 → Blk w b cs) (hb0 : (b0, cs0) ∈ D0) (hg0 : ∀ i, i < m → cs0[0 + i * 1]? = some (.slice (some ⟨β0 i, 0, none⟩) N (κ0 i))) (hR0 : RowsD D0 N m β0 κ0 C0 (fun i c => .int .i64 ((M i c : Nat) : Int))) :
    CallsR Tryd.prog 88 #[.int .i64 (((p : Nat) : Int)), .slice (some ⟨b0, 0, none⟩) (m) (c0)] w (fun u w' => ∃ k E ld, Rref p N E k ld ∧ (∀ x, Ker p N E k x ↔ Ker p N M m x) ∧ (∀ i c, E i c < p) ∧ k ≤ m ∧ RowsOut w w' N k (fun i c => .int .i64 ((E i c : Nat) : Int)) u) := by
  refine calls_fr [.int .i64 (((p : Nat) : Int)), .slice (some ⟨b0, 0, none⟩) (m) (c0)] Tryd.func88 rfl Tryd.ntmps88 rfl fun a hF => ?_
  have hM : Mem w w [none, none, none, none, none, none, none, none] D0 := MemX.startD w 8 _ hD0
  change Fr 124 a [(0, .int .i64 (((p : Nat) : Int))), (1, .slice (some ⟨b0, 0, none⟩) (m) (c0))] at hF
  have hp2 := hp.two
  have hp13 := hp.le
  refine sq (wp_region_lit ?_)
  refine st hF (g_assign hF rfl) rfl fun a hF => ?_
  refine wpList_nil (tN (sq (wp_region_lit ?_)))
  refine stR hF (d_buildC 0 hM hF rfl ty_bs0_73) rfl ?_
  rintro _ w' a ⟨b1, rfl, hM, -⟩ hF
  change Mem w w' [some (b1, #[]), none, none, none, none, none, none, none] D0 at hM
  refine st hF (g_assign hF rfl) rfl fun a hF => ?_
  refine wpList_nil (tN (sq (sq (wp_region_lit ?_))))
  refine st hF (g_assign hF rfl) rfl fun a hF => ?_
  refine wpList_nil (tN (wp_block ?_))
  have hgeq := hM.ge 0 rfl
  have hM := hM.freeze 0 rfl
  change Mem w _ [none, none, none, none, none, none, none, none] ((b1, #[]) :: D0) at hM
  change Mem w _ [none, none, none, none, none, none, none, none] ((b1, #[]) :: D0) at hM
  refine c_loop (fun (kk : Nat) a w' => kk ≤ m ∧ ∃ (D1 : Froz), ∃ (k : Nat), ∃ (E : Nat → Nat → Nat), ∃ (ld : Nat → Nat), ∃ (β : Nat → Nat), ∃ (κ : Nat → Nat), ∃ (C : Nat → Array Value), ∃ (ob : Nat), ∃ (oc : Nat), ∃ (ocs : Array Value), ((∀ x ∈ D0, x ∈ D1) ∧ RowsD D1 N k β κ C (fun i c => .int .i64 ((E i c : Nat) : Int)) ∧ SlAt 1 (.slice (some ⟨ob, 0, none⟩) k oc) (some (ob, ocs)) k ob oc ocs (fun i => .slice (some ⟨β i, 0, none⟩) N (κ i)) ∧ (ob, ocs) ∈ D1 ∧ Rref p N E k ld ∧ (∀ i c, E i c < p) ∧ (∀ x, Ker p N E k x ↔ Ker p N M kk x) ∧ (∀ i, i < k → w.heap.size ≤ β i) ∧ w.heap.size ≤ ob ∧ k ≤ kk) ∧ Fr 124 a [(0, .int .i64 (((p : Nat) : Int))), (1, .slice (some ⟨b0, 0, none⟩) (m) (c0)), (4, .slice none 0 0), (16, .slice (some ⟨b1, 0, none⟩) (0) (0)), (6, .int .i64 (((kk : Nat) : Int))), (5, .slice (some ⟨ob, 0, none⟩) (k) (oc))] ∧ Mem w w' [none, none, none, none, none, none, none, none] D1) (fun kk => m - kk) 0 ?_ ?_
  ·
   refine ⟨by omega, ((b1, #[]) :: D0), 0, (fun _ _ => 0), (fun _ => 0), (fun _ => 0), (fun _ => 0), (fun _ => #[]), b1, 0, #[], ⟨fun x hx => List.mem_cons_of_mem _ hx, RowsD.none, ⟨rfl, rfl, Nat.le_refl _, Nat.zero_le _, rfl, fun i hi => absurd hi (by omega)⟩, List.mem_cons_self .., ⟨fun i hi => absurd hi (by omega), fun i j _ hi => absurd hi (by omega), fun i hi => absurd hi (by omega), fun i hi => absurd hi (by omega), fun i j hi => absurd hi (by omega), fun i hi => absurd hi (by omega)⟩, fun _ _ => by show 0 < p; omega, fun x => ⟨fun _ i hi => absurd hi (by omega), fun _ i hi => absurd hi (by omega)⟩, fun i hi => absurd hi (by omega), hgeq, by omega⟩, hF.sub _ (by repeat' constructor), ?_⟩
   exact hM
  ·
   clear hF hM
   rintro gi a w' ⟨hgi, D1, k, E, ld, β, κ, C, ob, oc, ocs, ⟨hDD, hR, hos, hom, hE, hE1, hKer, hbg, hobg, hkg⟩, hF, hM⟩
   have hRm : ∀ x ∈ D1, x ∈ D1 := fun _ h => h
   refine sq (sq (wp_region_lit ?_))
   refine st hF (g_move hF rfl) rfl fun a hF => st hF (g_move hF rfl) rfl fun a hF => st hF (g_len ty_us_73 hF rfl) rfl fun a hF => st hF (g_lss hF rfl rfl) rfl fun a hF => ?_
   refine wpList_nil (tN ?_)
   refine c_cond hF rfl (fun h2 => ?_) (fun h2 => ?_)
   ·
    refine wp_skip (tN (sq (wp_block (sq (wp_region_lit ?_)))))
    refine st hF (g_move hF rfl) rfl fun a hF => st hF (g_move hF rfl) rfl fun a hF => st hF (g_indexSl (i := gi) ty_sl_73 hF rfl rfl rfl (by omega)) rfl fun a hF => st hF (g_load ty_on_70 hF rfl (hM.fzm (hDD _ hb0)) (hg0 (gi) (by omega))) rfl fun a hF => ?_
    refine stR hF (d_callOwn (k := 1) hM (d_call Tryd.call115 hF (.cons rfl .nil) (l01Own_ok (β0 (gi)) 0 (κ0 (gi)) N _ (fun c => ((M (gi) c : Nat) : Int)) _ (hM.fzm (hDD _ (hR0.mem (gi) (by omega)))) (fun i hi => (hR0.get (i := gi) (by omega) (i) hi)) hN (by omega)))) rfl ?_
    rintro u w' a ⟨b3, cap4, cs5, hs6, hM, -⟩ hF
    obtain rfl := hs6.val
    change Mem w w' [none, some (b3, cs5), none, none, none, none, none, none] D1 at hM
    refine st hF (g_assign hF rfl) rfl fun a hF => ?_
    refine wpList_nil (tN (sq (sq (wp_region_lit ?_))))
    refine st hF (g_assign hF rfl) rfl fun a hF => ?_
    refine wpList_nil (tN (wp_block ?_))
    change Mem w _ [none, some (b3, cs5), none, none, none, none, none, none] D1 at hM
    refine c_loop (fun (kk : Nat) a w' => kk ≤ k ∧ ∃ (o : Nat → Nat), ∃ (b : Nat), ∃ (cap : Nat), ∃ (cs : Array Value), (SlAt 1 (.slice (some ⟨b, 0, none⟩) N cap) (some (b, cs)) N b cap cs (fun c => .int .i64 ((o c : Nat) : Int)) ∧ Own p N E k ld (M gi) o kk ∧ (∀ c, o c < p)) ∧ Fr 124 a [(0, .int .i64 (((p : Nat) : Int))), (1, .slice (some ⟨b0, 0, none⟩) (m) (c0)), (4, .slice none 0 0), (16, .slice (some ⟨b1, 0, none⟩) (0) (0)), (6, .int .i64 (((gi : Nat) : Int))), (5, .slice (some ⟨ob, 0, none⟩) (k) (oc)), (17, .int .i64 (((gi : Nat) : Int))), (18, .slice (some ⟨b0, 0, none⟩) (m) (c0)), (19, .int .i64 (((m : Nat) : Int))), (20, .bool (decide ((((gi : Nat) : Int) : Int) < ((m : Nat) : Int)))), (23, .slice (some ⟨b0, 0, none⟩) (m) (c0)), (24, .int .i64 (((gi : Nat) : Int))), (25, ptr b0 (0 + (gi) * 1)), (26, .slice (some ⟨β0 (gi), 0, none⟩) (N) (κ0 (gi))), (27, .slice (some ⟨b3, 0, none⟩) (N) (cap4)), (8, .int .i64 (((kk : Nat) : Int))), (7, .slice (some ⟨b, 0, none⟩) (N) (cap))] ∧ Mem w w' [none, some (b, cs), none, none, none, none, none, none] D1) (fun kk => k - kk) 0 ?_ ?_
    ·
     refine ⟨by omega, (M gi), b3, cap4, cs5, ⟨hs6, ⟨fun _ _ => hM1 _ _, fun i hi => absurd hi (by omega), fun _ _ => Iff.rfl⟩, fun _ => hM1 _ _⟩, hF.sub _ (by repeat' constructor), ?_⟩
     exact hM
    ·
     clear hF hM
     rintro gj a w' ⟨hgj, o, b, cap, cs, ⟨hso, hown, ho1⟩, hF, hM⟩
     refine sq (sq (wp_region_lit ?_))
     refine st hF (g_move hF rfl) rfl fun a hF => st hF (g_move hF rfl) rfl fun a hF => st hF (g_len ty_us_73 hF rfl) rfl fun a hF => st hF (g_lss hF rfl rfl) rfl fun a hF => ?_
     refine wpList_nil (tN ?_)
     refine c_cond hF rfl (fun h7 => ?_) (fun h7 => ?_)
     ·
      refine wp_skip (tN (sq (wp_block (sq (wp_region_lit ?_)))))
      refine st hF (g_move hF rfl) rfl fun a hF => st hF (g_move hF rfl) rfl fun a hF => st hF (g_indexSl (i := gj) ty_sl_73 hF rfl rfl rfl (by omega)) rfl fun a hF => st hF (g_load ty_on_70 hF rfl (hM.fzm hom) (hos.get1 (gj) (by omega))) rfl fun a hF => ?_
      refine stR hF (d_call Tryd.call89 hF (.cons rfl .nil) ((l01Lead_row (β (gj)) (κ (gj)) (hM.fzm (hRm _ (hR.mem (gj) (by omega)))) (fun i hi => (hR.get (i := gj) (by omega) (i) hi)) (by omega) hE (i := gj) (by omega)))) rfl ?_
      rintro _ w' a ⟨hx, rfl⟩ hF
      have hM := hM.ext hx
      refine st hF (g_assign hF rfl) rfl fun a hF => ?_
      refine wpList_nil (tN ?_)
      have hldj := hE.lt gj (by omega)
      refine c_par 10 [] [.val (.int .i64 (((p : Nat) : Int))), .val (.slice (some ⟨b, 0, none⟩) (N) (cap)), .val (.slice (some ⟨ob, 0, none⟩) (k) (oc)), .val (.int .i64 (((gj : Nat) : Int))), .val (ptr ob (0 + (gj) * 1)), .val (.slice (some ⟨β (gj), 0, none⟩) (N) (κ (gj))), .val (.slice (some ⟨b, 0, none⟩) (N) (cap)), .val (.int .i64 (((ld (gj) : Nat) : Int))), .val (ptr b (0 + (ld (gj)) * 1)), .val (.int .i64 (((o (ld (gj)) : Nat) : Int)))] hmix rfl hF rfl hM ⟨fun a w gG hF hS hd => by exact par_val hS rfl (g_move hF rfl), fun a w gG hF hS hd => by exact par_val hS rfl (g_move hF rfl), fun a w gG hF hS hd => by exact par_val hS rfl (g_move hF rfl), fun a w gG hF hS hd => by exact par_val hS rfl (g_move hF rfl), fun a w gG hF hS hd => by have hF := hF.ext1 41 (hd 2 rfl rfl); have hF := hF.ext1 42 (hd 3 rfl rfl); exact par_val hS rfl (g_indexSl (i := gj) ty_sl_73 hF rfl rfl rfl (by omega)), fun a w gG hF hS hd => by have hF := hF.ext1 43 (hd 4 rfl rfl); have hM := hS.mem rfl; exact par_val hS rfl (g_load ty_on_70 hF rfl (hM.fzm hom) (hos.get1 (gj) (by omega))), fun a w gG hF hS hd => by exact par_val hS rfl (g_move hF rfl), fun a w gG hF hS hd => by exact par_val hS rfl (g_move hF rfl), fun a w gG hF hS hd => by have hF := hF.ext1 45 (hd 6 rfl rfl); have hF := hF.ext1 46 (hd 7 rfl rfl); exact par_val hS rfl (g_indexSl (i := ld (gj)) ty_sl_70 hF rfl rfl rfl (by omega)), fun a w gG hF hS hd => by have hF := hF.ext1 47 (hd 8 rfl rfl); have hM := hS.mem rfl; exact par_val hS rfl (g_load ty_on_2 hF rfl (hM.row 1 rfl) (hso.get1 (ld (gj)) (by omega))), trivial⟩ ?_
      intro a w' L hF hS hq
      have hF := hF.ext1 39 (hq 0 rfl rfl)
      have hF := hF.ext1 40 (hq 1 rfl rfl)
      have hF := hF.ext1 41 (hq 2 rfl rfl)
      have hF := hF.ext1 42 (hq 3 rfl rfl)
      have hF := hF.ext1 43 (hq 4 rfl rfl)
      have hF := hF.ext1 44 (hq 5 rfl rfl)
      have hF := hF.ext1 45 (hq 6 rfl rfl)
      have hF := hF.ext1 46 (hq 7 rfl rfl)
      have hF := hF.ext1 47 (hq 8 rfl rfl)
      have hF := hF.ext1 48 (hq 9 rfl rfl)
      have hM := hS.mem rfl
      change wpList Tryd.prog _ _ [_, _] _ _
      refine stR hF (d_callOwn (k := 1) hM (d_call Tryd.call116 hF (.cons rfl (.cons rfl (.cons rfl (.cons rfl .nil)))) ((CallsR.mono (l01Less_ok p (b) 0 (cap) (β (gj)) 0 (κ (gj)) N (o (ld (gj))) _ _ (o) (E (gj)) _ (by omega) (by omega) (hM.row 1 rfl) (hM.fzm (hRm _ (hR.mem (gj) (by omega)))) (fun i hi => hso.get1 i hi) (fun i hi => (hR.get (i := gj) (by omega) (i) hi)) hN (by omega) (fun _ => ho1 _) (fun _ => hE1 _ _) (ho1 _) ) (fun _ _ _ hr => hr.congr (fun c _ => congrArg (Value.int .i64) (lsM_int (f := o) (h := E (gj)) (k := o (ld (gj))) (c := c) (by omega)).symm)))))) rfl ?_
      rintro u w' a ⟨b8, cap9, cs10, hs11, hM, -⟩ hF
      obtain rfl := hs11.val
      change Mem w w' [none, some (b8, cs10), none, none, none, none, none, none] D1 at hM
      refine st hF (g_assign hF rfl) rfl fun a hF => ?_
      refine wpList_nil (iN (tN (wp_region_lit ?_)))
      refine st hF (g_move hF rfl) rfl fun a hF => st hF (g_add hF rfl rfl (add_nat (gj) (1) (by omega))) rfl fun a hF => st hF (g_assign hF rfl) rfl fun a hF => ?_
      refine wpList_nil (tN ?_)
      refine ⟨gj + 1, ⟨by omega, (lsM p o (E gj) (o (ld gj))), b8, cap9, cs10, ⟨hs11, hown.step (by omega) hE (by omega), fun _ => lsM_lt (by omega)⟩, hF.sub _ (by repeat' constructor), ?_⟩, by omega⟩
      exact hM
     ·
      obtain rfl : k = gj := by omega
      refine wp_exit (tX (tX ?_))
      refine ib_same ?_
      refine tN (sq (wp_region_lit ?_))
      refine st hF (g_move hF rfl) rfl fun a hF => ?_
      refine stR hF (d_call Tryd.call89 hF (.cons rfl .nil) (l01Lead_ok (b) 0 (cap) N _ (fun c => ((o c : Nat) : Int)) _ (hM.row 1 rfl) (fun i hi => hso.get1 i hi) (by omega))) rfl ?_
      rintro _ w' a ⟨hx, rfl⟩ hF
      have hM := hM.ext hx
      refine st hF (g_assign hF rfl) rfl fun a hF => ?_
      refine wpList_nil (tN (sq (sq (wp_region_lit ?_))))
      refine st hF (g_move hF rfl) rfl fun a hF => st hF (g_lss hF rfl rfl) rfl fun a hF => ?_
      refine wpList_nil (tN ?_)
      refine c_cond hF rfl (fun h12 => ?_) (fun h12 => ?_)
      ·
       have hz : ∀ c, c < N → o c = 0 := by
         rcases leadN_spec (f := fun c => ((o c : Nat) : Int)) (n := N) with ⟨q1, q2, q3⟩ | ⟨q1, q2⟩
         · rw [if_pos q1] at h12; omega
         · intro c hc; have := q2 c hc; omega
       refine wp_exit (tX ?_)
       refine ib_same ?_
       refine tN (wp_region_lit ?_)
       refine st hF (g_move hF rfl) rfl fun a hF => st hF (g_add hF rfl rfl (add_nat (gi) (1) (by omega))) rfl fun a hF => st hF (g_assign hF rfl) rfl fun a hF => ?_
       refine wpList_nil (tN ?_)
       have hM := hM.drop 1
       refine ⟨gi + 1, ⟨by omega, D1, k, E, ld, β, κ, C, ob, oc, ocs, ⟨hDD, hR, hos, hom, hE, hE1, fun x => ⟨fun h => Ker.snoc.2 ⟨(hKer x).1 h, (hown.ker x h).1 (dot_zero hz)⟩, fun h => (hKer x).2 (Ker.snoc.1 h).1⟩, hbg, hobg, by omega⟩, hF.sub _ (by repeat' constructor), ?_⟩, by omega⟩
       exact hM
      ·
       obtain ⟨htN, ht0, htl⟩ : leadN (fun c => ((o c : Nat) : Int)) N < N ∧ ((o (leadN (fun c => ((o c : Nat) : Int)) N) : Nat) : Int) ≠ 0 ∧ ∀ c, c < leadN (fun c => ((o c : Nat) : Int)) N → ((o c : Nat) : Int) = 0 := by
         rcases leadN_spec (f := fun c => ((o c : Nat) : Int)) (n := N) with ⟨q1, q2, q3⟩ | ⟨q1, q2⟩
         · exact ⟨q1, q2, q3⟩
         · rw [if_neg (by omega)] at h12; omega
       rw [if_pos htN] at hF
       clear h12
       generalize leadN (fun c => ((o c : Nat) : Int)) N = t at hF htN ht0 htl
       have hF := hF.sub [(0, .int .i64 (((p : Nat) : Int))), (1, .slice (some ⟨b0, 0, none⟩) (m) (c0)), (4, .slice none 0 0), (16, .slice (some ⟨b1, 0, none⟩) (0) (0)), (6, .int .i64 (((gi : Nat) : Int))), (5, .slice (some ⟨ob, 0, none⟩) (k) (oc)), (17, .int .i64 (((gi : Nat) : Int))), (18, .slice (some ⟨b0, 0, none⟩) (m) (c0)), (19, .int .i64 (((m : Nat) : Int))), (20, .bool (decide ((((gi : Nat) : Int) : Int) < ((m : Nat) : Int)))), (23, .slice (some ⟨b0, 0, none⟩) (m) (c0)), (24, .int .i64 (((gi : Nat) : Int))), (25, ptr b0 (0 + (gi) * 1)), (26, .slice (some ⟨β0 (gi), 0, none⟩) (N) (κ0 (gi))), (27, .slice (some ⟨b3, 0, none⟩) (N) (cap4)), (8, .int .i64 (((k : Nat) : Int))), (7, .slice (some ⟨b, 0, none⟩) (N) (cap)), (28, .int .i64 (((k : Nat) : Int))), (29, .slice (some ⟨ob, 0, none⟩) (k) (oc)), (30, .int .i64 (((k : Nat) : Int))), (31, .bool (decide ((((k : Nat) : Int) : Int) < ((k : Nat) : Int)))), (50, .slice (some ⟨b, 0, none⟩) (N) (cap)), (51, .int .i64 (((t : Nat) : Int))), (10, .int .i64 (((t : Nat) : Int))), (52, .int .i64 (((t : Nat) : Int)))] (by repeat' constructor)
       refine wp_skip (tN (sq (wp_region_lit ?_)))
       refine st hF (g_move hF rfl) rfl fun a hF => st hF (g_move hF rfl) rfl fun a hF => st hF (g_move hF rfl) rfl fun a hF => st hF (g_indexSl (i := t) ty_sl_70 hF rfl rfl rfl (by omega)) rfl fun a hF => st hF (g_load ty_on_2 hF rfl (hM.row 1 rfl) (hso.get1 (t) (by omega))) rfl fun a hF => ?_
       refine stR hF (d_call Tryd.call40 hF (.cons rfl (.cons rfl .nil)) (l01Inverse_ok (o (t)) (p) _ (by omega) (by omega) (by first | omega | exact ho1 _))) rfl ?_
       rintro _ w' a ⟨hx, rfl⟩ hF
       have hM := hM.ext hx
       refine st hF (g_assign hF rfl) rfl fun a hF => ?_
       refine wpList_nil (tN (sq (sq (wp_region_lit ?_))))
       refine st hF (g_assign hF rfl) rfl fun a hF => ?_
       refine wpList_nil (tN (wp_block ?_))
       change Mem w _ [none, some (b, cs), none, none, none, none, none, none] D1 at hM
       refine c_loop (fun (kk : Nat) a w' => kk ≤ N ∧ ∃ (cs3 : Array Value), (SlAt 1 (.slice (some ⟨b, 0, none⟩) N cap) (some (b, cs3)) N b cap cs3 (fun c => .int .i64 ((if c < kk then o c * invN (o t) p % p else o c : Nat) : Int))) ∧ Fr 124 a [(0, .int .i64 (((p : Nat) : Int))), (1, .slice (some ⟨b0, 0, none⟩) (m) (c0)), (4, .slice none 0 0), (16, .slice (some ⟨b1, 0, none⟩) (0) (0)), (6, .int .i64 (((gi : Nat) : Int))), (5, .slice (some ⟨ob, 0, none⟩) (k) (oc)), (17, .int .i64 (((gi : Nat) : Int))), (18, .slice (some ⟨b0, 0, none⟩) (m) (c0)), (19, .int .i64 (((m : Nat) : Int))), (20, .bool (decide ((((gi : Nat) : Int) : Int) < ((m : Nat) : Int)))), (23, .slice (some ⟨b0, 0, none⟩) (m) (c0)), (24, .int .i64 (((gi : Nat) : Int))), (25, ptr b0 (0 + (gi) * 1)), (26, .slice (some ⟨β0 (gi), 0, none⟩) (N) (κ0 (gi))), (27, .slice (some ⟨b3, 0, none⟩) (N) (cap4)), (8, .int .i64 (((k : Nat) : Int))), (7, .slice (some ⟨b, 0, none⟩) (N) (cap)), (28, .int .i64 (((k : Nat) : Int))), (29, .slice (some ⟨ob, 0, none⟩) (k) (oc)), (30, .int .i64 (((k : Nat) : Int))), (31, .bool (decide ((((k : Nat) : Int) : Int) < ((k : Nat) : Int)))), (50, .slice (some ⟨b, 0, none⟩) (N) (cap)), (51, .int .i64 (((t : Nat) : Int))), (10, .int .i64 (((t : Nat) : Int))), (52, .int .i64 (((t : Nat) : Int))), (54, .int .i64 (((p : Nat) : Int))), (55, .slice (some ⟨b, 0, none⟩) (N) (cap)), (56, .int .i64 (((t : Nat) : Int))), (57, ptr b (0 + (t) * 1)), (58, .int .i64 (((o (t) : Nat) : Int))), (59, .int .i64 (((invN (o (t)) (p) : Nat) : Int))), (11, .int .i64 (((invN (o (t)) (p) : Nat) : Int))), (12, .int .i64 (((kk : Nat) : Int)))] ∧ Mem w w' [none, some (b, cs3), none, none, none, none, none, none] D1) (fun kk => N - kk) 0 ?_ ?_
       ·
        refine ⟨by omega, cs, hso.congr (fun c _ => by simp), hF.sub _ (by repeat' constructor), ?_⟩
        exact hM
       ·
        clear hF hM
        rintro gc a w' ⟨hgc, cs3, hs3, hF, hM⟩
        have hinv := invN_lt (x := o t) (p := p) (by omega)
        have hsz := hs3.sz
        have hle := hs3.le
        refine sq (sq (wp_region_lit ?_))
        refine st hF (g_move hF rfl) rfl fun a hF => st hF (g_move hF rfl) rfl fun a hF => st hF (g_len ty_us_70 hF rfl) rfl fun a hF => st hF (g_lss hF rfl rfl) rfl fun a hF => ?_
        refine wpList_nil (tN ?_)
        refine c_cond hF rfl (fun h13 => ?_) (fun h13 => ?_)
        ·
         refine wp_skip (tN (sq (wp_block (wp_region_lit ?_))))
         refine st hF (g_move hF rfl) rfl fun a hF => st hF (g_move hF rfl) rfl fun a hF => st hF (g_move hF rfl) rfl fun a hF => st hF (g_move hF rfl) rfl fun a hF => st hF (g_indexSl (i := gc) ty_sl_70 hF rfl rfl rfl (by omega)) rfl fun a hF => st hF (g_load ty_on_2 hF rfl (hM.row 1 rfl) (hs3.get1e (gc) (by omega) (by simp))) rfl fun a hF => st hF (g_move hF rfl) rfl fun a hF => st hF (g_mul hF rfl rfl (mul_nat (o gc) (invN (o t) p) (by have := Nat.mul_le_mul (show o gc ≤ 13 by have := ho1 gc; omega) (show invN (o t) p ≤ 13 by omega); omega))) rfl fun a hF => st hF (g_move hF rfl) rfl fun a hF => st hF (g_rem hF rfl rfl (by omega) (rem_nat ((o (gc)) * (invN (o (t)) (p))) (p))) rfl fun a hF => st hF (g_indexSl (i := gc) ty_sl_70 hF rfl rfl rfl (by omega)) rfl fun a hF => ?_
         refine stN hF (d_store 1 hM rfl ty_on_2 hF rfl rfl rfl (by first | omega | (simp only [fnC_size, cells_size, vecC_size, tabC_size, planeC_size] <;> omega) | simp)) ?_
         intro _ w' a hM hF
         change Mem w w' [none, some (b, (cs3).setIfInBounds (0 + (gc) * 1) (.int .i64 (((((o (gc)) * (invN (o (t)) (p))) % (p) : Nat) : Int)))), none, none, none, none, none, none] D1 at hM
         refine wpList_nil (iN (tN (wp_region_lit ?_)))
         refine st hF (g_move hF rfl) rfl fun a hF => st hF (g_add hF rfl rfl (add_nat (gc) (1) (by omega))) rfl fun a hF => st hF (g_assign hF rfl) rfl fun a hF => ?_
         refine wpList_nil (tN ?_)
         refine ⟨gc + 1, ⟨by omega, ((cs3).setIfInBounds (0 + (gc) * 1) (.int .i64 (((((o (gc)) * (invN (o (t)) (p))) % (p) : Nat) : Int)))), hs3.set gc (by omega) (by omega) (fun j hj => by by_cases e : j = gc; (subst e; simp); (have e0 : (j < gc + 1) = (j < gc) := by (apply propext; omega)); simp [e0, e]), hF.sub _ (by repeat' constructor), ?_⟩, by omega⟩
         exact hM
        ·
         obtain rfl : N = gc := by omega
         obtain ⟨on, hon⟩ : ∃ on : Nat → Nat, on = fun c => o c * invN (o t) p % p := ⟨_, rfl⟩
         have hs4 : SlAt 1 (.slice (some ⟨b, 0, none⟩) N cap) (some (b, cs3)) N b cap cs3 (fun c => .int .i64 ((on c : Nat) : Int)) := hs3.congr (fun c hc => by subst hon; simp [show c < N by omega])
         have hon1 : ∀ c, on c < p := fun c => by subst hon; exact Nat.mod_lt _ (by omega)
         have hot : o t ≠ 0 := fun e => ht0 (by rw [e]; rfl)
         have hscale : ∀ x, (p : Int) ∣ dot N (ci on) x ↔ (p : Int) ∣ dot N (ci o) x := fun x => scale_ker (u := o t) (fun c _ => by subst hon; rfl) (invN_ok hp (ho1 t) hot)
         obtain ⟨q, hq⟩ : ∃ q, q = below k ld t := ⟨_, rfl⟩
         have hbel := below_spec hE (t := t) (fun i hi e => hot (by rw [← e]; exact hown.zero i hi))
         rw [← hq] at hbel
         have hfit : Fits p N E k ld on t q := ⟨htN, by subst hon; exact invN_ok hp (ho1 t) hot, fun c hc => by subst hon; have := htl c hc; simp [show o c = 0 by omega], fun c _ => hon1 c, fun i hi => by subst hon; simp [hown.zero i hi], hbel.1, hbel.2.1, hbel.2.2⟩
         have hqk := hbel.1
         have hins1 : ∀ i c, ins q (fun i => lsM p (E i) on (E i t)) on i c < p := fun i c => by unfold ins; split; exact lsM_lt (by omega); split; exact hon1 c; exact lsM_lt (by omega)
         have hgb := hM.ge 1 rfl
         have hM := hM.freeze 1 rfl
         change Mem w _ [none, none, none, none, none, none, none, none] ((b, cs3) :: D1) at hM
         have hDD : ∀ x ∈ D0, x ∈ (b, cs3) :: D1 := fun x hx => List.mem_cons_of_mem _ (hDD x hx)
         have hRm : ∀ x ∈ D1, x ∈ (b, cs3) :: D1 := fun x hx => List.mem_cons_of_mem _ hx
         have hom : (ob, ocs) ∈ (b, cs3) :: D1 := List.mem_cons_of_mem _ hom
         have honm : (b, cs3) ∈ (b, cs3) :: D1 := List.mem_cons_self ..
         refine wp_exit (tX (tX ?_))
         refine ib_same ?_
         refine tN (sq (wp_region_lit ?_))
         refine stR hF (d_buildC 3 hM hF rfl ty_bs0_73) rfl ?_
         rintro _ w' a ⟨b14, rfl, hM, -⟩ hF
         change Mem w w' [none, none, none, some (b14, #[]), none, none, none, none] ((b, cs3) :: D1) at hM
         refine st hF (g_assign hF rfl) rfl fun a hF => st hF (g_assign hF rfl) rfl fun a hF => ?_
         refine wpList_nil (tN (sq (sq (wp_region_lit ?_))))
         refine st hF (g_assign hF rfl) rfl fun a hF => ?_
         refine wpList_nil (tN (wp_block ?_))
         change Mem w _ [none, none, none, some (b14, #[]), none, none, none, none] ((b, cs3) :: D1) at hM
         rw [show false = decide (q < 0) from (decide_eq_false (by omega)).symm] at hF
         refine c_loop (fun (kk : Nat) a w' => kk ≤ k ∧ ∃ (D2 : Froz), ∃ (β2 : Nat → Nat), ∃ (κ2 : Nat → Nat), ∃ (C2 : Nat → Array Value), ((∀ x ∈ (b, cs3) :: D1, x ∈ D2) ∧ RowsD D2 N (if q < kk then kk + 1 else kk) β2 κ2 C2 (fun i c => .int .i64 ((ins q (fun i => lsM p (E i) on (E i t)) on i c : Nat) : Int)) ∧ (∀ i, i < (if q < kk then kk + 1 else kk) → w.heap.size ≤ β2 i)) ∧ ∃ (u13_4 : Value) (e13_4 : Option (Nat × Array Value)), Sl 1 u13_4 e13_4 ((if q < kk then kk + 1 else kk)) (fun i => .slice (some ⟨β2 i, 0, none⟩) N (κ2 i)) ∧ Fr 124 a [(0, .int .i64 (((p : Nat) : Int))), (1, .slice (some ⟨b0, 0, none⟩) (m) (c0)), (4, .slice none 0 0), (16, .slice (some ⟨b1, 0, none⟩) (0) (0)), (6, .int .i64 (((gi : Nat) : Int))), (5, .slice (some ⟨ob, 0, none⟩) (k) (oc)), (17, .int .i64 (((gi : Nat) : Int))), (18, .slice (some ⟨b0, 0, none⟩) (m) (c0)), (19, .int .i64 (((m : Nat) : Int))), (20, .bool (decide ((((gi : Nat) : Int) : Int) < ((m : Nat) : Int)))), (23, .slice (some ⟨b0, 0, none⟩) (m) (c0)), (24, .int .i64 (((gi : Nat) : Int))), (25, ptr b0 (0 + (gi) * 1)), (26, .slice (some ⟨β0 (gi), 0, none⟩) (N) (κ0 (gi))), (27, .slice (some ⟨b3, 0, none⟩) (N) (cap4)), (8, .int .i64 (((k : Nat) : Int))), (7, .slice (some ⟨b, 0, none⟩) (N) (cap)), (28, .int .i64 (((k : Nat) : Int))), (29, .slice (some ⟨ob, 0, none⟩) (k) (oc)), (30, .int .i64 (((k : Nat) : Int))), (31, .bool (decide ((((k : Nat) : Int) : Int) < ((k : Nat) : Int)))), (50, .slice (some ⟨b, 0, none⟩) (N) (cap)), (51, .int .i64 (((t : Nat) : Int))), (10, .int .i64 (((t : Nat) : Int))), (52, .int .i64 (((t : Nat) : Int))), (54, .int .i64 (((p : Nat) : Int))), (55, .slice (some ⟨b, 0, none⟩) (N) (cap)), (56, .int .i64 (((t : Nat) : Int))), (57, ptr b (0 + (t) * 1)), (58, .int .i64 (((o (t) : Nat) : Int))), (59, .int .i64 (((invN (o (t)) (p) : Nat) : Int))), (11, .int .i64 (((invN (o (t)) (p) : Nat) : Int))), (12, .int .i64 (((N : Nat) : Int))), (60, .int .i64 (((N : Nat) : Int))), (61, .slice (some ⟨b, 0, none⟩) (N) (cap)), (62, .int .i64 (((N : Nat) : Int))), (63, .bool (decide ((((N : Nat) : Int) : Int) < ((N : Nat) : Int)))), (77, .slice (some ⟨b14, 0, none⟩) (0) (0)), (15, .int .i64 (((kk : Nat) : Int))), (14, .bool (decide (q < kk))), (13, u13_4)] ∧ Mem w w' [none, none, none, e13_4, none, none, none, none] D2) (fun kk => k - kk) 0 ?_ ?_
         ·
          refine ⟨by omega, ((b, cs3) :: D1), (fun _ => 0), (fun _ => 0), (fun _ => #[]), ⟨fun _ h => h, by rw [if_neg (by omega)]; exact RowsD.none, fun i hi => by rw [if_neg (by omega)] at hi; omega⟩, (.slice (some ⟨b14, 0, none⟩) (0) (0)), (some (b14, #[])), (by rw [if_neg (by omega)]; exact Sl.empty _ _ _), hF.sub _ (by repeat' constructor), ?_⟩
          exact hM
         ·
          clear hF hM
          rintro gl a w' ⟨hgl, D2, β2, κ2, C2, ⟨hD2, hR2, hb2g⟩, u13_4, e13_4, hsl, hF, hM⟩
          have hDD : ∀ x ∈ D0, x ∈ D2 := fun x hx => hD2 x (hDD x hx)
          have hRm : ∀ x ∈ D1, x ∈ D2 := fun x hx => hD2 x (hRm x hx)
          have hom : (ob, ocs) ∈ D2 := hD2 _ hom
          have honm : (b, cs3) ∈ D2 := hD2 _ honm
          refine sq (sq (wp_region_lit ?_))
          refine st hF (g_move hF rfl) rfl fun a hF => st hF (g_move hF rfl) rfl fun a hF => st hF (g_len ty_us_73 hF rfl) rfl fun a hF => st hF (g_lss hF rfl rfl) rfl fun a hF => ?_
          refine wpList_nil (tN ?_)
          refine c_cond hF rfl (fun h15 => ?_) (fun h15 => ?_)
          ·
           refine wp_skip (tN (sq (wp_block (sq (sq (wp_region_lit ?_))))))
           refine st hF (g_move hF rfl) rfl fun a hF => st hF (g_notP hF rfl) rfl fun a hF => st hF (g_move hF rfl) rfl fun a hF => ?_
           by_cases g16 : ¬ (q < gl)
           ·
            first | rw [decide_eq_true g16] at hF | simp only [decide_eq_true g16] at hF
            rw [if_neg g16] at hR2 hb2g hsl
            refine stY hF rfl rfl rfl (g_move hF rfl) rfl fun a hF => stY hF rfl rfl rfl (g_move hF rfl) rfl fun a hF => stY hF rfl rfl rfl (g_indexSl (i := gl) ty_sl_73 hF rfl rfl rfl (by omega)) rfl fun a hF => stY hF rfl rfl rfl (g_load ty_on_70 hF rfl (hM.fzm hom) (hos.get1 (gl) (by omega))) rfl fun a hF => ?_
            refine stYR hF rfl rfl rfl (d_call Tryd.call89 hF (.cons rfl .nil) ((l01Lead_row (β (gl)) (κ (gl)) (hM.fzm (hRm _ (hR.mem (gl) (by omega)))) (fun i hi => (hR.get (i := gl) (by omega) (i) hi)) (by omega) hE (i := gl) (by omega)))) rfl ?_
            rintro _ w' a ⟨hx, rfl⟩ hF
            have hM := hM.ext hx
            refine stY hF rfl rfl rfl (g_move hF rfl) rfl fun a hF => stY hF rfl rfl rfl (g_gtr hF rfl rfl) rfl fun a hF => st hF (g_pickT hF rfl rfl) rfl fun a hF => ?_
            refine wpList_nil (tN ?_)
            refine c_cond hF rfl (fun h17 => ?_) (fun h17 => ?_)
            ·
             have hA := h17
             have hq2 : q = gl := Classical.byContradiction fun e => by have := hfit.lo gl; have := hfit.hi gl; omega
             refine sq (wp_region_lit ?_)
             refine st hF (g_move hF rfl) rfl fun a hF => st hF (g_move hF rfl) rfl fun a hF => ?_
             refine stR hF (d_buildC 4 hM hF (build1 hF rfl) (ty_bsv_73 _ _ _)) rfl ?_
             rintro _ w' a ⟨b18, rfl, hM, -⟩ hF
             change Mem w w' [none, none, none, e13_4, some (b18, #[.slice (some ⟨b, 0, none⟩) (N) (cap)]), none, none, none] D2 at hM
             refine stR hF (d_append (k := 3) (m := 1) (g := fun _ => .slice (some ⟨b, 0, none⟩) (N) (cap)) ty_si_73 rfl (by decide) hM rfl hF rfl rfl hsl (fun i hi => by rw [show i = 0 by omega]; exact (hM.row 4 rfl).cell 0) (fun _ _ => rfl) (by decide) (by unfold maxLen; omega) (by omega)) rfl ?_
             rintro u19 w' a ⟨e20, hM, hs21⟩ hF
             change Mem w w' [none, none, none, e20, some (b18, #[.slice (some ⟨b, 0, none⟩) (N) (cap)]), none, none, none] D2 at hM
             refine st hF (g_assign hF rfl) rfl fun a hF => ?_
             refine wpList_nil (tN ?_)
             have hsl := hs21.snocR
             have hR2 := (hR2.snoc honm hs4).congr (g := fun i c => .int .i64 ((ins q (fun i => lsM p (E i) on (E i t)) on i c : Nat) : Int)) (fun i hi c hc => by
               by_cases e : i = gl
               · rw [e]; simp only [up_eq]; subst hq2; rw [ins_eq]
               · simp only [up_ne e])
             have hb2g : ∀ i, i < gl + 1 → w.heap.size ≤ up β2 (gl) b i := fun i hi => by
               by_cases e : i = gl
               · rw [e, up_eq]; omega
               · rw [up_ne e]; exact hb2g i (by omega)
             refine wp_region_lit ?_
             refine st hF (g_assign hF rfl) rfl fun a hF => ?_
             refine wpList_nil (tN ?_)
             refine c_par 16 [] [.val (u19), .val (.int .i64 (((p : Nat) : Int))), .val (.slice (some ⟨ob, 0, none⟩) (k) (oc)), .val (.int .i64 (((gl : Nat) : Int))), .val (ptr ob (0 + (gl) * 1)), .val (.slice (some ⟨β (gl), 0, none⟩) (N) (κ (gl))), .val (.slice (some ⟨b, 0, none⟩) (N) (cap)), .val (.slice (some ⟨ob, 0, none⟩) (k) (oc)), .val (.int .i64 (((gl : Nat) : Int))), .val (ptr ob (0 + (gl) * 1)), .val (.slice (some ⟨β (gl), 0, none⟩) (N) (κ (gl))), .val (.int .i64 (((t : Nat) : Int))), .val (ptr (β (gl)) (0 + (t) * 1)), .val (.int .i64 (((E (gl) (t) : Nat) : Int))), .rel (FreshSl w [none, none, none, e20, some (b18, #[.slice (some ⟨b, 0, none⟩) (N) (cap)]), none, none, none] N (fun c => .int .i64 ((lsM p (E gl) on (E gl t) c : Nat) : Int))), .rel (LitF w [none, none, none, e20, some (b18, #[.slice (some ⟨b, 0, none⟩) (N) (cap)]), none, none, none] N (fun c => .int .i64 ((lsM p (E gl) on (E gl t) c : Nat) : Int)))] hmix rfl hF rfl hM ⟨fun a w2 g hF hS hd => by exact par_val hS rfl (g_move hF rfl), fun a w2 g hF hS hd => by exact par_val hS rfl (g_move hF rfl), fun a w2 g hF hS hd => by exact par_val hS rfl (g_move hF rfl), fun a w2 g hF hS hd => by exact par_val hS rfl (g_move hF rfl), fun a w2 g hF hS hd => by have hF := hF.ext1 101 (hd 2 rfl rfl); have hF := hF.ext1 102 (hd 3 rfl rfl); exact par_val hS rfl (g_indexSl (i := gl) ty_sl_73 hF rfl rfl rfl (by omega)), fun a w2 g hF hS hd => by have hF := hF.ext1 103 (hd 4 rfl rfl); have hM := hS.mem rfl; exact par_val hS rfl (g_load ty_on_70 hF rfl (hM.fzm hom) (hos.get1 (gl) (by omega))), fun a w2 g hF hS hd => by exact par_val hS rfl (g_move hF rfl), fun a w2 g hF hS hd => by exact par_val hS rfl (g_move hF rfl), fun a w2 g hF hS hd => by exact par_val hS rfl (g_move hF rfl), fun a w2 g hF hS hd => by have hF := hF.ext1 106 (hd 7 rfl rfl); have hF := hF.ext1 107 (hd 8 rfl rfl); exact par_val hS rfl (g_indexSl (i := gl) ty_sl_73 hF rfl rfl rfl (by omega)), fun a w2 g hF hS hd => by have hF := hF.ext1 108 (hd 9 rfl rfl); have hM := hS.mem rfl; exact par_val hS rfl (g_load ty_on_70 hF rfl (hM.fzm hom) (hos.get1 (gl) (by omega))), fun a w2 g hF hS hd => by exact par_val hS rfl (g_move hF rfl), fun a w2 g hF hS hd => by have hF := hF.ext1 109 (hd 10 rfl rfl); have hF := hF.ext1 110 (hd 11 rfl rfl); exact par_val hS rfl (g_indexSl (i := t) ty_sl_70 hF rfl rfl rfl (by omega)), fun a w2 g hF hS hd => by have hF := hF.ext1 111 (hd 12 rfl rfl); have hM := hS.mem rfl; exact par_val hS rfl (g_load ty_on_2 hF rfl (hM.fzm (hRm _ (hR.mem (gl) (by omega)))) (hR.get (i := gl) (by omega) (t) (by omega))), fun a w2 g hF hS hd => by have hF := hF.ext1 100 (hd 1 rfl rfl); have hF := hF.ext1 104 (hd 5 rfl rfl); have hF := hF.ext1 105 (hd 6 rfl rfl); have hF := hF.ext1 112 (hd 13 rfl rfl); have hM := hS.mem rfl; exact par_fresh (by exact ⟨fun _ _ _ h hx => h.last hx, fun _ _ _ h hx => h.last hx, trivial⟩) hS rfl (d_call Tryd.call116 hF (.cons rfl (.cons rfl (.cons rfl (.cons rfl .nil)))) ((CallsR.mono (l01Less_ok p (β (gl)) 0 (κ (gl)) (b) 0 (cap) N (E (gl) (t)) _ _ (E (gl)) (on) _ (by omega) (by omega) (hM.fzm (hRm _ (hR.mem (gl) (by omega)))) (hM.fzm honm) (fun i hi => (hR.get (i := gl) (by omega) (i) hi)) (fun i hi => hs4.get1 i hi) hN (by omega) (fun _ => hE1 _ _) (fun _ => hon1 _) (hE1 _ _) ) (fun _ _ _ hr => hr.congr (fun c _ => congrArg (Value.int .i64) (lsM_int (f := E (gl)) (h := on) (k := E (gl) (t)) (c := c) (by omega)).symm))))), fun a w2 g hF hS hd => by have hF := hF.ext1 113 rfl; exact par_rel (by exact ⟨fun _ _ _ h hx => h.last hx, fun _ _ _ h hx => h.last hx, trivial⟩) hS rfl (d_lit1 hF rfl (hd 14 rfl rfl) ty_bsv_73) (fun _ _ h => h), trivial⟩ ?_
             intro a w' L hF hS hq3
             have hM := hS.mem rfl
             obtain ⟨bl, xl, hul, hbl, hfr⟩ := hq3 15 rfl rfl
             have hF := hF.ext1 114 hul
             have hF := hF.ext1 99 (hq3 0 rfl rfl)
             obtain ⟨bx, capx, csx, hsx, hgx, hM⟩ := hM.addF hfr
             obtain rfl := hsx.val
             change wpList Tryd.prog _ _ [_, _] _ _
             refine stR hF (d_append (k := 3) (m := 1) (g := fun _ => .slice (some ⟨bx, 0, none⟩) N capx) ty_si_73 rfl (by decide) hM rfl hF rfl rfl hsl (fun i hi => by rw [show i = 0 by omega]; exact hbl.cell 0) (fun _ _ => rfl) (by decide) (by unfold maxLen; omega) (by omega)) rfl ?_
             rintro u22 w' a ⟨e23, hM, hs24⟩ hF
             change Mem w w' [none, none, none, e23, some (b18, #[.slice (some ⟨b, 0, none⟩) (N) (cap)]), none, none, none] ((bx, csx) :: D2) at hM
             have hsl := hs24.snocR
             have hR2 := hR2.more (D' := ((bx, csx) :: D2)) (fun x hx => List.mem_cons_of_mem _ hx)
             have hR2 := (hR2.snoc (List.mem_cons_self ..) hsx).congr (g := fun i c => .int .i64 ((ins q (fun i => lsM p (E i) on (E i t)) on i c : Nat) : Int)) (fun i hi c hc => by
               by_cases e : i = gl + 1
               · rw [e]; simp only [up_eq]; rw [ins_gt (by omega), Nat.add_sub_cancel]
               · simp only [up_ne e])
             have hb2g : ∀ i, i < gl + 1 + 1 → w.heap.size ≤ up (up β2 (gl) b) (gl + 1) bx i := fun i hi => by
               by_cases e : i = gl + 1
               · rw [e, up_eq]; omega
               · rw [up_ne e]; exact hb2g i (by omega)
             refine st hF (g_assign hF rfl) rfl fun a hF => ?_
             refine wpList_nil (iN (tN (wp_region_lit ?_)))
             refine st hF (g_move hF rfl) rfl fun a hF => st hF (g_add hF rfl rfl (add_nat (gl) (1) (by omega))) rfl fun a hF => st hF (g_assign hF rfl) rfl fun a hF => ?_
             refine wpList_nil (tN ?_)
             have hM := hM.drop 4
             rw [show true = decide (q < gl + 1) from (decide_eq_true (by omega)).symm] at hF
             have en : (if q < gl + 1 then gl + 1 + 1 else gl + 1) = gl + 1 + 1 := if_pos (by omega)
             refine ⟨gl + 1, ⟨by omega, ((bx, csx) :: D2), (up (up β2 (gl) b) (gl + 1) bx), (up (up κ2 (gl) cap) (gl + 1) capx), (up (up C2 (gl) cs3) (gl + 1) csx), ⟨fun x hx => List.mem_cons_of_mem _ (hD2 x hx), by rw [en]; exact hR2, by rw [en]; exact hb2g⟩, (u22), (e23), (by rw [en]; exact hsl), hF.sub _ (by repeat' constructor), ?_⟩, by omega⟩
             exact hM
            ·
             have hA := h17
             have hq2 : gl < q := by have := hfit.hi gl; omega
             refine wp_skip (tN ?_)
             refine c_par 16 [] [.val (u13_4), .val (.int .i64 (((p : Nat) : Int))), .val (.slice (some ⟨ob, 0, none⟩) (k) (oc)), .val (.int .i64 (((gl : Nat) : Int))), .val (ptr ob (0 + (gl) * 1)), .val (.slice (some ⟨β (gl), 0, none⟩) (N) (κ (gl))), .val (.slice (some ⟨b, 0, none⟩) (N) (cap)), .val (.slice (some ⟨ob, 0, none⟩) (k) (oc)), .val (.int .i64 (((gl : Nat) : Int))), .val (ptr ob (0 + (gl) * 1)), .val (.slice (some ⟨β (gl), 0, none⟩) (N) (κ (gl))), .val (.int .i64 (((t : Nat) : Int))), .val (ptr (β (gl)) (0 + (t) * 1)), .val (.int .i64 (((E (gl) (t) : Nat) : Int))), .rel (FreshSl w [none, none, none, e13_4, none, none, none, none] N (fun c => .int .i64 ((lsM p (E gl) on (E gl t) c : Nat) : Int))), .rel (LitF w [none, none, none, e13_4, none, none, none, none] N (fun c => .int .i64 ((lsM p (E gl) on (E gl t) c : Nat) : Int)))] hmix rfl hF rfl hM ⟨fun a w2 g hF hS hd => by exact par_val hS rfl (g_move hF rfl), fun a w2 g hF hS hd => by exact par_val hS rfl (g_move hF rfl), fun a w2 g hF hS hd => by exact par_val hS rfl (g_move hF rfl), fun a w2 g hF hS hd => by exact par_val hS rfl (g_move hF rfl), fun a w2 g hF hS hd => by have hF := hF.ext1 101 (hd 2 rfl rfl); have hF := hF.ext1 102 (hd 3 rfl rfl); exact par_val hS rfl (g_indexSl (i := gl) ty_sl_73 hF rfl rfl rfl (by omega)), fun a w2 g hF hS hd => by have hF := hF.ext1 103 (hd 4 rfl rfl); have hM := hS.mem rfl; exact par_val hS rfl (g_load ty_on_70 hF rfl (hM.fzm hom) (hos.get1 (gl) (by omega))), fun a w2 g hF hS hd => by exact par_val hS rfl (g_move hF rfl), fun a w2 g hF hS hd => by exact par_val hS rfl (g_move hF rfl), fun a w2 g hF hS hd => by exact par_val hS rfl (g_move hF rfl), fun a w2 g hF hS hd => by have hF := hF.ext1 106 (hd 7 rfl rfl); have hF := hF.ext1 107 (hd 8 rfl rfl); exact par_val hS rfl (g_indexSl (i := gl) ty_sl_73 hF rfl rfl rfl (by omega)), fun a w2 g hF hS hd => by have hF := hF.ext1 108 (hd 9 rfl rfl); have hM := hS.mem rfl; exact par_val hS rfl (g_load ty_on_70 hF rfl (hM.fzm hom) (hos.get1 (gl) (by omega))), fun a w2 g hF hS hd => by exact par_val hS rfl (g_move hF rfl), fun a w2 g hF hS hd => by have hF := hF.ext1 109 (hd 10 rfl rfl); have hF := hF.ext1 110 (hd 11 rfl rfl); exact par_val hS rfl (g_indexSl (i := t) ty_sl_70 hF rfl rfl rfl (by omega)), fun a w2 g hF hS hd => by have hF := hF.ext1 111 (hd 12 rfl rfl); have hM := hS.mem rfl; exact par_val hS rfl (g_load ty_on_2 hF rfl (hM.fzm (hRm _ (hR.mem (gl) (by omega)))) (hR.get (i := gl) (by omega) (t) (by omega))), fun a w2 g hF hS hd => by have hF := hF.ext1 100 (hd 1 rfl rfl); have hF := hF.ext1 104 (hd 5 rfl rfl); have hF := hF.ext1 105 (hd 6 rfl rfl); have hF := hF.ext1 112 (hd 13 rfl rfl); have hM := hS.mem rfl; exact par_fresh (by exact ⟨fun _ _ _ h hx => h.last hx, fun _ _ _ h hx => h.last hx, trivial⟩) hS rfl (d_call Tryd.call116 hF (.cons rfl (.cons rfl (.cons rfl (.cons rfl .nil)))) ((CallsR.mono (l01Less_ok p (β (gl)) 0 (κ (gl)) (b) 0 (cap) N (E (gl) (t)) _ _ (E (gl)) (on) _ (by omega) (by omega) (hM.fzm (hRm _ (hR.mem (gl) (by omega)))) (hM.fzm honm) (fun i hi => (hR.get (i := gl) (by omega) (i) hi)) (fun i hi => hs4.get1 i hi) hN (by omega) (fun _ => hE1 _ _) (fun _ => hon1 _) (hE1 _ _) ) (fun _ _ _ hr => hr.congr (fun c _ => congrArg (Value.int .i64) (lsM_int (f := E (gl)) (h := on) (k := E (gl) (t)) (c := c) (by omega)).symm))))), fun a w2 g hF hS hd => by have hF := hF.ext1 113 rfl; exact par_rel (by exact ⟨fun _ _ _ h hx => h.last hx, fun _ _ _ h hx => h.last hx, trivial⟩) hS rfl (d_lit1 hF rfl (hd 14 rfl rfl) ty_bsv_73) (fun _ _ h => h), trivial⟩ ?_
             intro a w' L hF hS hq3
             have hM := hS.mem rfl
             obtain ⟨bl, xl, hul, hbl, hfr⟩ := hq3 15 rfl rfl
             have hF := hF.ext1 114 hul
             have hF := hF.ext1 99 (hq3 0 rfl rfl)
             obtain ⟨bx, capx, csx, hsx, hgx, hM⟩ := hM.addF hfr
             obtain rfl := hsx.val
             change wpList Tryd.prog _ _ [_, _] _ _
             refine stR hF (d_append (k := 3) (m := 1) (g := fun _ => .slice (some ⟨bx, 0, none⟩) N capx) ty_si_73 rfl (by decide) hM rfl hF rfl rfl hsl (fun i hi => by rw [show i = 0 by omega]; exact hbl.cell 0) (fun _ _ => rfl) (by decide) (by unfold maxLen; omega) (by omega)) rfl ?_
             rintro u25 w' a ⟨e26, hM, hs27⟩ hF
             change Mem w w' [none, none, none, e26, none, none, none, none] ((bx, csx) :: D2) at hM
             have hsl := hs27.snocR
             have hR2 := hR2.more (D' := ((bx, csx) :: D2)) (fun x hx => List.mem_cons_of_mem _ hx)
             have hR2 := (hR2.snoc (List.mem_cons_self ..) hsx).congr (g := fun i c => .int .i64 ((ins q (fun i => lsM p (E i) on (E i t)) on i c : Nat) : Int)) (fun i hi c hc => by
               by_cases e : i = gl
               · rw [e]; simp only [up_eq]; rw [ins_lt (by omega)]
               · simp only [up_ne e])
             have hb2g : ∀ i, i < gl + 1 → w.heap.size ≤ up β2 (gl) bx i := fun i hi => by
               by_cases e : i = gl
               · rw [e, up_eq]; omega
               · rw [up_ne e]; exact hb2g i (by omega)
             refine st hF (g_assign hF rfl) rfl fun a hF => ?_
             refine wpList_nil (iN (tN (wp_region_lit ?_)))
             refine st hF (g_move hF rfl) rfl fun a hF => st hF (g_add hF rfl rfl (add_nat (gl) (1) (by omega))) rfl fun a hF => st hF (g_assign hF rfl) rfl fun a hF => ?_
             refine wpList_nil (tN ?_)
             rw [show decide (q < gl) = decide (q < gl + 1) from decide_eq_decide.2 (by omega)] at hF
             have en : (if q < gl + 1 then gl + 1 + 1 else gl + 1) = gl + 1 := if_neg (by omega)
             refine ⟨gl + 1, ⟨by omega, ((bx, csx) :: D2), (up β2 (gl) bx), (up κ2 (gl) capx), (up C2 (gl) csx), ⟨fun x hx => List.mem_cons_of_mem _ (hD2 x hx), by rw [en]; exact hR2, by rw [en]; exact hb2g⟩, (u25), (e26), (by rw [en]; exact hsl), hF.sub _ (by repeat' constructor), ?_⟩, by omega⟩
             exact hM
           ·
            first | rw [decide_eq_false g16] at hF | simp only [decide_eq_false g16] at hF
            have gq := Decidable.not_not.1 g16
            rw [if_pos gq] at hR2 hb2g hsl
            refine stS hF rfl rfl rfl rfl rfl fun a hF => stS hF rfl rfl rfl rfl rfl fun a hF => stS hF rfl rfl rfl rfl rfl fun a hF => stS hF rfl rfl rfl rfl rfl fun a hF => stS hF rfl rfl rfl rfl rfl fun a hF => stS hF rfl rfl rfl rfl rfl fun a hF => stS hF rfl rfl rfl rfl rfl fun a hF => st hF (g_pickF hF rfl rfl) rfl fun a hF => ?_
            refine wpList_nil (tN ?_)
            refine c_Fl hF rfl ?_
            refine wp_skip (tN ?_)
            refine c_par 16 [] [.val (u13_4), .val (.int .i64 (((p : Nat) : Int))), .val (.slice (some ⟨ob, 0, none⟩) (k) (oc)), .val (.int .i64 (((gl : Nat) : Int))), .val (ptr ob (0 + (gl) * 1)), .val (.slice (some ⟨β (gl), 0, none⟩) (N) (κ (gl))), .val (.slice (some ⟨b, 0, none⟩) (N) (cap)), .val (.slice (some ⟨ob, 0, none⟩) (k) (oc)), .val (.int .i64 (((gl : Nat) : Int))), .val (ptr ob (0 + (gl) * 1)), .val (.slice (some ⟨β (gl), 0, none⟩) (N) (κ (gl))), .val (.int .i64 (((t : Nat) : Int))), .val (ptr (β (gl)) (0 + (t) * 1)), .val (.int .i64 (((E (gl) (t) : Nat) : Int))), .rel (FreshSl w [none, none, none, e13_4, none, none, none, none] N (fun c => .int .i64 ((lsM p (E gl) on (E gl t) c : Nat) : Int))), .rel (LitF w [none, none, none, e13_4, none, none, none, none] N (fun c => .int .i64 ((lsM p (E gl) on (E gl t) c : Nat) : Int)))] hmix rfl hF rfl hM ⟨fun a w2 g hF hS hd => by exact par_val hS rfl (g_move hF rfl), fun a w2 g hF hS hd => by exact par_val hS rfl (g_move hF rfl), fun a w2 g hF hS hd => by exact par_val hS rfl (g_move hF rfl), fun a w2 g hF hS hd => by exact par_val hS rfl (g_move hF rfl), fun a w2 g hF hS hd => by have hF := hF.ext1 101 (hd 2 rfl rfl); have hF := hF.ext1 102 (hd 3 rfl rfl); exact par_val hS rfl (g_indexSl (i := gl) ty_sl_73 hF rfl rfl rfl (by omega)), fun a w2 g hF hS hd => by have hF := hF.ext1 103 (hd 4 rfl rfl); have hM := hS.mem rfl; exact par_val hS rfl (g_load ty_on_70 hF rfl (hM.fzm hom) (hos.get1 (gl) (by omega))), fun a w2 g hF hS hd => by exact par_val hS rfl (g_move hF rfl), fun a w2 g hF hS hd => by exact par_val hS rfl (g_move hF rfl), fun a w2 g hF hS hd => by exact par_val hS rfl (g_move hF rfl), fun a w2 g hF hS hd => by have hF := hF.ext1 106 (hd 7 rfl rfl); have hF := hF.ext1 107 (hd 8 rfl rfl); exact par_val hS rfl (g_indexSl (i := gl) ty_sl_73 hF rfl rfl rfl (by omega)), fun a w2 g hF hS hd => by have hF := hF.ext1 108 (hd 9 rfl rfl); have hM := hS.mem rfl; exact par_val hS rfl (g_load ty_on_70 hF rfl (hM.fzm hom) (hos.get1 (gl) (by omega))), fun a w2 g hF hS hd => by exact par_val hS rfl (g_move hF rfl), fun a w2 g hF hS hd => by have hF := hF.ext1 109 (hd 10 rfl rfl); have hF := hF.ext1 110 (hd 11 rfl rfl); exact par_val hS rfl (g_indexSl (i := t) ty_sl_70 hF rfl rfl rfl (by omega)), fun a w2 g hF hS hd => by have hF := hF.ext1 111 (hd 12 rfl rfl); have hM := hS.mem rfl; exact par_val hS rfl (g_load ty_on_2 hF rfl (hM.fzm (hRm _ (hR.mem (gl) (by omega)))) (hR.get (i := gl) (by omega) (t) (by omega))), fun a w2 g hF hS hd => by have hF := hF.ext1 100 (hd 1 rfl rfl); have hF := hF.ext1 104 (hd 5 rfl rfl); have hF := hF.ext1 105 (hd 6 rfl rfl); have hF := hF.ext1 112 (hd 13 rfl rfl); have hM := hS.mem rfl; exact par_fresh (by exact ⟨fun _ _ _ h hx => h.last hx, fun _ _ _ h hx => h.last hx, trivial⟩) hS rfl (d_call Tryd.call116 hF (.cons rfl (.cons rfl (.cons rfl (.cons rfl .nil)))) ((CallsR.mono (l01Less_ok p (β (gl)) 0 (κ (gl)) (b) 0 (cap) N (E (gl) (t)) _ _ (E (gl)) (on) _ (by omega) (by omega) (hM.fzm (hRm _ (hR.mem (gl) (by omega)))) (hM.fzm honm) (fun i hi => (hR.get (i := gl) (by omega) (i) hi)) (fun i hi => hs4.get1 i hi) hN (by omega) (fun _ => hE1 _ _) (fun _ => hon1 _) (hE1 _ _) ) (fun _ _ _ hr => hr.congr (fun c _ => congrArg (Value.int .i64) (lsM_int (f := E (gl)) (h := on) (k := E (gl) (t)) (c := c) (by omega)).symm))))), fun a w2 g hF hS hd => by have hF := hF.ext1 113 rfl; exact par_rel (by exact ⟨fun _ _ _ h hx => h.last hx, fun _ _ _ h hx => h.last hx, trivial⟩) hS rfl (d_lit1 hF rfl (hd 14 rfl rfl) ty_bsv_73) (fun _ _ h => h), trivial⟩ ?_
            intro a w' L hF hS hq3
            have hM := hS.mem rfl
            obtain ⟨bl, xl, hul, hbl, hfr⟩ := hq3 15 rfl rfl
            have hF := hF.ext1 114 hul
            have hF := hF.ext1 99 (hq3 0 rfl rfl)
            obtain ⟨bx, capx, csx, hsx, hgx, hM⟩ := hM.addF hfr
            obtain rfl := hsx.val
            change wpList Tryd.prog _ _ [_, _] _ _
            refine stR hF (d_append (k := 3) (m := 1) (g := fun _ => .slice (some ⟨bx, 0, none⟩) N capx) ty_si_73 rfl (by decide) hM rfl hF rfl rfl hsl (fun i hi => by rw [show i = 0 by omega]; exact hbl.cell 0) (fun _ _ => rfl) (by decide) (by unfold maxLen; omega) (by omega)) rfl ?_
            rintro u29 w' a ⟨e30, hM, hs31⟩ hF
            change Mem w w' [none, none, none, e30, none, none, none, none] ((bx, csx) :: D2) at hM
            have hsl := hs31.snocR
            have hR2 := hR2.more (D' := ((bx, csx) :: D2)) (fun x hx => List.mem_cons_of_mem _ hx)
            have hR2 := (hR2.snoc (List.mem_cons_self ..) hsx).congr (g := fun i c => .int .i64 ((ins q (fun i => lsM p (E i) on (E i t)) on i c : Nat) : Int)) (fun i hi c hc => by
              by_cases e : i = gl + 1
              · rw [e]; simp only [up_eq]; rw [ins_gt (by omega), Nat.add_sub_cancel]
              · simp only [up_ne e])
            have hb2g : ∀ i, i < gl + 1 + 1 → w.heap.size ≤ up β2 (gl + 1) bx i := fun i hi => by
              by_cases e : i = gl + 1
              · rw [e, up_eq]; omega
              · rw [up_ne e]; exact hb2g i (by omega)
            refine st hF (g_assign hF rfl) rfl fun a hF => ?_
            refine wpList_nil (iN (tN (wp_region_lit ?_)))
            refine st hF (g_move hF rfl) rfl fun a hF => st hF (g_add hF rfl rfl (add_nat (gl) (1) (by omega))) rfl fun a hF => st hF (g_assign hF rfl) rfl fun a hF => ?_
            refine wpList_nil (tN ?_)
            rw [show decide (q < gl) = decide (q < gl + 1) from decide_eq_decide.2 (by omega)] at hF
            have en : (if q < gl + 1 then gl + 1 + 1 else gl + 1) = gl + 1 + 1 := if_pos (by omega)
            refine ⟨gl + 1, ⟨by omega, ((bx, csx) :: D2), (up β2 (gl + 1) bx), (up κ2 (gl + 1) capx), (up C2 (gl + 1) csx), ⟨fun x hx => List.mem_cons_of_mem _ (hD2 x hx), by rw [en]; exact hR2, by rw [en]; exact hb2g⟩, (u29), (e30), (by rw [en]; exact hsl), hF.sub _ (by repeat' constructor), ?_⟩, by omega⟩
            exact hM
          ·
           obtain rfl : k = gl := by omega
           refine wp_exit (tX (tX ?_))
           refine ib_same ?_
           refine tN (sq (sq (wp_region_lit ?_)))
           refine st hF (g_move hF rfl) rfl fun a hF => st hF (g_notP hF rfl) rfl fun a hF => ?_
           refine wpList_nil (tN ?_)
           refine c_cond hF rfl (fun h32 => ?_) (fun h32 => ?_)
           ·
            rw [if_neg h32] at hR2 hb2g hsl
            refine wp_region_lit ?_
            refine st hF (g_move hF rfl) rfl fun a hF => st hF (g_move hF rfl) rfl fun a hF => ?_
            refine stR hF (d_buildC 7 hM hF (build1 hF rfl) (ty_bsv_73 _ _ _)) rfl ?_
            rintro _ w' a ⟨b33, rfl, hM, -⟩ hF
            change Mem w w' [none, none, none, e13_4, none, none, none, some (b33, #[.slice (some ⟨b, 0, none⟩) (N) (cap)])] D2 at hM
            refine stR hF (d_append (k := 3) (m := 1) (g := fun _ => .slice (some ⟨b, 0, none⟩) (N) (cap)) ty_si_73 rfl (by decide) hM rfl hF rfl rfl hsl (fun i hi => by rw [show i = 0 by omega]; exact (hM.row 7 rfl).cell 0) (fun _ _ => rfl) (by decide) (by unfold maxLen; omega) (by omega)) rfl ?_
            rintro u34 w' a ⟨e35, hM, hs36⟩ hF
            change Mem w w' [none, none, none, e35, none, none, none, some (b33, #[.slice (some ⟨b, 0, none⟩) (N) (cap)])] D2 at hM
            refine st hF (g_assign hF rfl) rfl fun a hF => ?_
            refine wpList_nil (tN ?_)
            have hsl := hs36.snocR
            have hR2 := (hR2.snoc honm hs4).congr (g := fun i c => .int .i64 ((ins q (fun i => lsM p (E i) on (E i t)) on i c : Nat) : Int)) (fun i hi c hc => by
              by_cases e : i = k
              · rw [e]; simp only [up_eq]; rw [show k = q by omega, ins_eq]
              · simp only [up_ne e])
            have hb2g : ∀ i, i < k + 1 → w.heap.size ≤ up β2 (k) b i := fun i hi => by
              by_cases e : i = k
              · rw [e, up_eq]; omega
              · rw [up_ne e]; exact hb2g i (by omega)
            refine wp_region_lit ?_
            refine st hF (g_move hF rfl) rfl fun a hF => st hF (g_assign hF rfl) rfl fun a hF => ?_
            refine wpList_nil (iN (tN (wp_region_lit ?_)))
            refine st hF (g_move hF rfl) rfl fun a hF => st hF (g_add hF rfl rfl (add_nat (gi) (1) (by omega))) rfl fun a hF => st hF (g_assign hF rfl) rfl fun a hF => ?_
            refine wpList_nil (tN ?_)
            obtain ⟨bn, capn, csn, rfl, rfl, hsn⟩ := hsl.pos (by omega)
            have hgn := hM.ge 3 rfl
            have hM := hM.freeze 3 rfl
            have hEn := hE.insert (by omega) hfit
            have hKn := fun x => ker_insert (p := p) (N := N) (k := k) (q := q) (t := t) (E := E) (o := on) (x := x) (by omega) hfit.qk
            have hM := hM.drop 7
            refine ⟨gi + 1, ⟨by omega, ((bn, csn) :: D2), (k + 1), (ins q (fun i => lsM p (E i) on (E i t)) on), (ins q ld t), (up β2 (k) b), (up κ2 (k) cap), (up C2 (k) cs3), bn, capn, csn, ⟨fun x hx => List.mem_cons_of_mem _ (hDD x hx), hR2.more (fun x hx => List.mem_cons_of_mem _ hx), hsn, List.mem_cons_self .., hEn, hins1, fun x => (hKn x).trans ⟨fun h => Ker.snoc.2 ⟨(hKer x).1 h.1, (hown.ker x h.1).1 ((hscale x).1 h.2)⟩, fun h => ⟨(hKer x).2 (Ker.snoc.1 h).1, (hscale x).2 ((hown.ker x ((hKer x).2 (Ker.snoc.1 h).1)).2 (Ker.snoc.1 h).2)⟩⟩, hb2g, hgn, by omega⟩, hF.sub _ (by repeat' constructor), ?_⟩, by omega⟩
            exact hM
           ·
            rw [if_pos (Decidable.not_not.1 h32)] at hR2 hb2g hsl
            refine wp_skip (tN (wp_region_lit ?_))
            refine st hF (g_move hF rfl) rfl fun a hF => st hF (g_assign hF rfl) rfl fun a hF => ?_
            refine wpList_nil (iN (tN (wp_region_lit ?_)))
            refine st hF (g_move hF rfl) rfl fun a hF => st hF (g_add hF rfl rfl (add_nat (gi) (1) (by omega))) rfl fun a hF => st hF (g_assign hF rfl) rfl fun a hF => ?_
            refine wpList_nil (tN ?_)
            obtain ⟨bn, capn, csn, rfl, rfl, hsn⟩ := hsl.pos (by omega)
            have hgn := hM.ge 3 rfl
            have hM := hM.freeze 3 rfl
            have hEn := hE.insert (by omega) hfit
            have hKn := fun x => ker_insert (p := p) (N := N) (k := k) (q := q) (t := t) (E := E) (o := on) (x := x) (by omega) hfit.qk
            refine ⟨gi + 1, ⟨by omega, ((bn, csn) :: D2), (k + 1), (ins q (fun i => lsM p (E i) on (E i t)) on), (ins q ld t), β2, κ2, C2, bn, capn, csn, ⟨fun x hx => List.mem_cons_of_mem _ (hDD x hx), hR2.more (fun x hx => List.mem_cons_of_mem _ hx), hsn, List.mem_cons_self .., hEn, hins1, fun x => (hKn x).trans ⟨fun h => Ker.snoc.2 ⟨(hKer x).1 h.1, (hown.ker x h.1).1 ((hscale x).1 h.2)⟩, fun h => ⟨(hKer x).2 (Ker.snoc.1 h).1, (hscale x).2 ((hown.ker x ((hKer x).2 (Ker.snoc.1 h).1)).2 (Ker.snoc.1 h).2)⟩⟩, hb2g, hgn, by omega⟩, hF.sub _ (by repeat' constructor), ?_⟩, by omega⟩
            exact hM
   ·
    obtain rfl : m = gi := by omega
    refine wp_exit (tX (tX ?_))
    refine ib_same ?_
    refine tN (sq (wp_region_lit ?_))
    refine st hF (g_move hF rfl) rfl fun a hF => st hF (g_assign hF rfl) rfl fun a hF => ?_
    refine wpList_nil (tN (wp_ret ?_))
    refine fin1 rfl hF.defers (res_tmp hF rfl) ⟨_, rfl, hM.below, ?_⟩
    exact ⟨k, E, ld, hE, hKer, hE1, by omega, RowsOut.of hM hR hos hom hbg hobg⟩

end Go.Proofs.YtbeodbfbfbefkaaDoor
