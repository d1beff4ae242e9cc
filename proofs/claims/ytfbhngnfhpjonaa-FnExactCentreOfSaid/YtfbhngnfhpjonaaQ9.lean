/- What functions of the program return, as walks over their operations; no statement of the seat is proved here. -/
import Derived.Test.YtfbhngnfhpjonaaQ8
set_option linter.unusedVariables false
set_option linter.unusedSimpArgs false
namespace Go.Proofs.Ytfbhngnfhpjonaa
open Go Go.RowKit Go.Sw Go.Ech
open Classical
/-- The equations of the centre, n * n rows. -/
def eqC (p n : Nat) (T : Nat → Nat → Nat → Nat) (r c : Nat) : Nat := ((((T c (r / n) (r % n) : Nat) : Int) - ((T (r / n) c (r % n) : Nat) : Int)) % (p : Int)).toNat
theorem eqC_lt {p n : Nat} {T : Nat → Nat → Nat → Nat} (hp : 2 ≤ p) : ∀ r c, eqC p n T r c < p := fun r c => by
  unfold eqC
  have h1 := Int.emod_lt_of_pos (((T c (r / n) (r % n) : Nat) : Int) - ((T (r / n) c (r % n) : Nat) : Int)) (show (0 : Int) < (p : Int) by omega)
  have h2 := Int.emod_nonneg (((T c (r / n) (r % n) : Nat) : Int) - ((T (r / n) c (r % n) : Nat) : Int)) (show (p : Int) ≠ 0 by omega)
  omega
theorem eqC_row {p n i k c : Nat} {T : Nat → Nat → Nat → Nat} (hp : 2 ≤ p) (hk : k < n) : ((eqC p n T (i * n + k) c : Nat) : Int) = (((T c i k : Nat) : Int) - ((T i c k : Nat) : Int)) % (p : Int) := by
  have e1 : (i * n + k) / n = i := by rw [Nat.mul_comm, Nat.mul_add_div (by omega), Nat.div_eq_of_lt hk]; omega
  have e2 : (i * n + k) % n = k := by rw [Nat.mul_comm, Nat.mul_add_mod, Nat.mod_eq_of_lt hk]
  unfold eqC; rw [e1, e2]
  exact Int.toNat_of_nonneg (Int.emod_nonneg _ (by omega))
def KerRel (w0 : World) (L : Own) (p n m : Nat) (M : Nat → Nat → Nat) (u : Value) (w' : World) : Prop := ∃ r V, IsKer p n M m r V ∧ (∀ i c, V i c < p) ∧ r ≤ n ∧ RowsFr w0 L n r (fun i c => .int .i64 ((V i c : Nat) : Int)) u w'
theorem KerRel.of {X : List Nat} {w0 w w' : World} {L : Own} {D : Froz} {p n m : Nat} {M : Nat → Nat → Nat} {u : Value} (hM : MemX X w0 w L D) (h : ∃ r V, IsKer p n M m r V ∧ (∀ i c, V i c < p) ∧ r ≤ n ∧ RowsOut w w' n r (fun i c => .int .i64 ((V i c : Nat) : Int)) u) : KerRel w0 L p n m M u w' := by
  obtain ⟨r, V, h1, h2, h3, h4⟩ := h
  exact ⟨r, V, h1, h2, h3, h4.fresh hM⟩

theorem l01Centre_ok (p n : Nat) (T : Nat → Nat → Nat → Nat) (f : Nat → Nat) (w : World) (hp : primeN p) (hn0 : 0 < n) (hn : n ≤ 6) (hT : ∀ i j k, T i j k ≤ 255) (hne : ∀ k E ld, Rref p n E k ld → (∀ x, Ker p n E k x ↔ Ker p n (eqC p n T) (n * n) x) → 0 < nf k ld n) (hpos : ∀ r V, IsKer p n (eqC p n T) (n * n) r V → 0 < r) :
    CallsR Try.prog 46 #[.agg (algC (p : Int) (n : Int) T f)] w (fun u w' => ∃ r V, IsKer p n (eqC p n T) (n * n) r V ∧ OwnSl 6 w r (fun c => .int .u8 (((padN n V) (c / 6) (c % 6) : Nat) : Int)) u w') := by
  refine calls_fr [.agg (algC (p : Int) (n : Int) T f)] Try.func46 rfl Try.ntmps46 rfl fun a hF => ?_
  have hM : Mem w w [none, none, none, none, none, none] [] := MemX.start w 6
  change Fr 64 a [(0, .agg (algC (p : Int) (n : Int) T f))] at hF
  have hp2 := hp.two
  have hp13 := hp.le
  refine sq ?_
  refine wp_region_lit ?_
  refine stR hF (d_box 0 hM hF rfl) rfl ?_
  rintro _ w' a ⟨b1, rfl, hM, -⟩ hF
  change Mem w w' [some (b1, algC (p : Int) (n : Int) T f), none, none, none, none, none] [] at hM
  refine st hF (g_assign hF rfl) rfl fun a hF => ?_
  refine wpList_nil ?_
  refine tN ?_
  refine sq ?_
  refine wp_region_lit ?_
  refine stR hF (d_buildC 1 hM hF rfl ty_bs0_53) rfl ?_
  rintro _ w' a ⟨b2, rfl, hM, -⟩ hF
  change Mem w w' [some (b1, algC (p : Int) (n : Int) T f), some (b2, #[]), none, none, none, none] [] at hM
  refine st hF (g_assign hF rfl) rfl fun a hF => ?_
  refine wpList_nil ?_
  refine tN ?_
  refine sq ?_
  refine sq ?_
  refine wp_region_lit ?_
  refine st hF (g_assign hF rfl) rfl fun a hF => ?_
  refine wpList_nil ?_
  refine tN ?_
  refine wp_block ?_
  change Mem w _ [some (b1, algC (p : Int) (n : Int) T f), some (b2, #[]), none, none, none, none] [] at hM
  refine c_loop (fun (kk : Nat) a w' => kk ≤ n ∧ ∃ (D1 : Froz), ∃ (β : Nat → Nat), ∃ (κ : Nat → Nat), ∃ (C : Nat → Array Value), (RowsD D1 n (kk * n) β κ C (fun i c => .int .i64 ((eqC p n T i c : Nat) : Int))) ∧ ∃ (u3_1 : Value) (e3_1 : Option (Nat × Array Value)), Sl 1 u3_1 e3_1 (kk * n) (fun i => .slice (some ⟨β i, 0, none⟩) n (κ i)) ∧ Fr 64 a [(0, .agg (algC (p : Int) (n : Int) T f)), (1, ptr b1 (0)), (2, .slice none 0 0), (8, .slice (some ⟨b2, 0, none⟩) (0) (0)), (4, .int .i64 (((kk : Nat) : Int))), (3, u3_1)] ∧ Mem w w' [some (b1, algC (p : Int) (n : Int) T f), e3_1, none, none, none, none] D1) (fun kk => n - kk) 0 ?_ ?_
  ·
    refine ⟨by omega, [], (fun _ => 0), (fun _ => 0), (fun _ => #[]), (by rw [Nat.zero_mul]; exact RowsD.none), (.slice (some ⟨b2, 0, none⟩) (0) (0)), (some (b2, #[])), (by rw [Nat.zero_mul]; exact Sl.empty _ _ _), hF.sub _ (by repeat' constructor), ?_⟩
    exact hM
  ·
    clear hF hM
    rintro gi a w' ⟨hgi, D1, β, κ, C, hR, u3_1, e3_1, hsl, hF, hM⟩
    have hgin := Nat.le_trans (Nat.mul_le_mul_right n hgi) (Nat.mul_le_mul hn hn)
    refine sq ?_
    refine sq ?_
    refine wp_region_lit ?_
    refine st hF (g_move hF rfl) rfl fun a hF => st hF (g_fieldAddr ty_fo_32_1 hF rfl) rfl fun a hF => st hF (g_load ty_on_2 hF rfl (hM.row 0 rfl) (algC_n (by omega))) rfl fun a hF => st hF (g_lss hF rfl rfl) rfl fun a hF => ?_
    refine wpList_nil ?_
    refine tN ?_
    refine c_cond hF rfl (fun h3 => ?_) (fun h3 => ?_)
    ·
      refine wp_skip ?_
      refine tN ?_
      refine sq ?_
      refine wp_block ?_
      refine sq ?_
      refine wp_region_lit ?_
      refine st hF (g_assign hF rfl) rfl fun a hF => ?_
      refine wpList_nil ?_
      refine tN ?_
      refine wp_block ?_
      change Mem w _ [some (b1, algC (p : Int) (n : Int) T f), e3_1, none, none, none, none] D1 at hM
      refine c_loop (fun (kk : Nat) a w' => kk ≤ n ∧ ∃ (D2 : Froz), ∃ (β2 : Nat → Nat), ∃ (κ2 : Nat → Nat), ∃ (C2 : Nat → Array Value), (RowsD D2 n (gi * n + kk) β2 κ2 C2 (fun i c => .int .i64 ((eqC p n T i c : Nat) : Int))) ∧ ∃ (u3_2 : Value) (e3_2 : Option (Nat × Array Value)), Sl 1 u3_2 e3_2 (gi * n + kk) (fun i => .slice (some ⟨β2 i, 0, none⟩) n (κ2 i)) ∧ Fr 64 a [(0, .agg (algC (p : Int) (n : Int) T f)), (1, ptr b1 (0)), (2, .slice none 0 0), (8, .slice (some ⟨b2, 0, none⟩) (0) (0)), (4, .int .i64 (((gi : Nat) : Int))), (9, .int .i64 (((gi : Nat) : Int))), (10, ptr b1 (0 + 1)), (11, .int .i64 (((n : Nat) : Int))), (12, .bool (decide ((((gi : Nat) : Int) : Int) < ((n : Nat) : Int)))), (5, .int .i64 (((kk : Nat) : Int))), (3, u3_2)] ∧ Mem w w' [some (b1, algC (p : Int) (n : Int) T f), e3_2, none, none, none, none] D2) (fun kk => n - kk) 0 ?_ ?_
      ·
        refine ⟨by omega, D1, β, κ, C, hR, (u3_1), (e3_1), hsl, hF.sub _ (by repeat' constructor), ?_⟩
        exact hM
      ·
        clear hF hM
        rintro gk a w' ⟨hgk, D2, β2, κ2, C2, hR2, u3_2, e3_2, hsl, hF, hM⟩
        refine sq ?_
        refine sq ?_
        refine wp_region_lit ?_
        refine st hF (g_move hF rfl) rfl fun a hF => st hF (g_fieldAddr ty_fo_32_1 hF rfl) rfl fun a hF => st hF (g_load ty_on_2 hF rfl (hM.row 0 rfl) (algC_n (by omega))) rfl fun a hF => st hF (g_lss hF rfl rfl) rfl fun a hF => ?_
        refine wpList_nil ?_
        refine tN ?_
        refine c_cond hF rfl (fun h4 => ?_) (fun h4 => ?_)
        ·
          refine wp_skip ?_
          refine tN ?_
          refine sq ?_
          refine wp_block ?_
          refine sq ?_
          refine wp_region_lit ?_
          refine stR hF (d_buildC 2 hM hF rfl ty_bs0_45) rfl ?_
          rintro _ w' a ⟨b5, rfl, hM, -⟩ hF
          change Mem w w' [some (b1, algC (p : Int) (n : Int) T f), e3_2, some (b5, #[]), none, none, none] D2 at hM
          refine st hF (g_assign hF rfl) rfl fun a hF => ?_
          refine wpList_nil ?_
          refine tN ?_
          refine sq ?_
          refine sq ?_
          refine wp_region_lit ?_
          refine st hF (g_assign hF rfl) rfl fun a hF => ?_
          refine wpList_nil ?_
          refine tN ?_
          refine wp_block ?_
          change Mem w _ [some (b1, algC (p : Int) (n : Int) T f), e3_2, some (b5, #[]), none, none, none] D2 at hM
          refine c_loop (fun (kk : Nat) a w' => kk ≤ n ∧ (True) ∧ ∃ (u6_3 : Value) (e6_3 : Option (Nat × Array Value)), Sl 1 u6_3 e6_3 (kk) (fun c => .int .i64 ((eqC p n T (gi * n + gk) c : Nat) : Int)) ∧ Fr 64 a [(0, .agg (algC (p : Int) (n : Int) T f)), (1, ptr b1 (0)), (2, .slice none 0 0), (8, .slice (some ⟨b2, 0, none⟩) (0) (0)), (4, .int .i64 (((gi : Nat) : Int))), (9, .int .i64 (((gi : Nat) : Int))), (10, ptr b1 (0 + 1)), (11, .int .i64 (((n : Nat) : Int))), (12, .bool (decide ((((gi : Nat) : Int) : Int) < ((n : Nat) : Int)))), (5, .int .i64 (((gk : Nat) : Int))), (3, u3_2), (15, .int .i64 (((gk : Nat) : Int))), (16, ptr b1 (0 + 1)), (17, .int .i64 (((n : Nat) : Int))), (18, .bool (decide ((((gk : Nat) : Int) : Int) < ((n : Nat) : Int)))), (21, .slice (some ⟨b5, 0, none⟩) (0) (0)), (7, .int .i64 (((kk : Nat) : Int))), (6, u6_3)] ∧ Mem w w' [some (b1, algC (p : Int) (n : Int) T f), e3_2, e6_3, none, none, none] D2) (fun kk => n - kk) 0 ?_ ?_
          ·
            refine ⟨by omega, trivial, (.slice (some ⟨b5, 0, none⟩) (0) (0)), (some (b5, #[])), Sl.empty _ _ _, hF.sub _ (by repeat' constructor), ?_⟩
            exact hM
          ·
            clear hF hM
            rintro gj a w' ⟨hgj, hinv3, u6_3, e6_3, hrow, hF, hM⟩
            have htb := hT gj gi gk
            have htb2 := hT gi gj gk
            refine sq ?_
            refine sq ?_
            refine wp_region_lit ?_
            refine st hF (g_move hF rfl) rfl fun a hF => st hF (g_fieldAddr ty_fo_32_1 hF rfl) rfl fun a hF => st hF (g_load ty_on_2 hF rfl (hM.row 0 rfl) (algC_n (by omega))) rfl fun a hF => st hF (g_lss hF rfl rfl) rfl fun a hF => ?_
            refine wpList_nil ?_
            refine tN ?_
            refine c_cond hF rfl (fun h6 => ?_) (fun h6 => ?_)
            ·
              refine wp_skip ?_
              refine tN ?_
              refine sq ?_
              refine wp_block ?_
              refine c_par 24 [3] [.val (u6_3), .val (ptr b1 (0 + 0)), .val (.int .i64 (((p : Nat) : Int))), .val (.int .i64 (((gj : Nat) : Int))), .val (.int .i64 (((gi : Nat) : Int))), .val (.int .i64 (((gk : Nat) : Int))), .val (ptr b1 (0 + 2)), .val (ptr b1 (0 + 2 + (gj) * 36)), .val (ptr b1 (0 + 2 + (gj) * 36 + (gi) * 6)), .val (ptr b1 (0 + 2 + (gj) * 36 + (gi) * 6 + (gk) * 1)), .val (.int .u8 (((T (gj) (gi) (gk) : Nat) : Int))), .val (.int .i64 (((T (gj) (gi) (gk) : Nat) : Int))), .val (.int .i64 (((gi : Nat) : Int))), .val (.int .i64 (((gj : Nat) : Int))), .val (.int .i64 (((gk : Nat) : Int))), .val (ptr b1 (0 + 2)), .val (ptr b1 (0 + 2 + (gi) * 36)), .val (ptr b1 (0 + 2 + (gi) * 36 + (gj) * 6)), .val (ptr b1 (0 + 2 + (gi) * 36 + (gj) * 6 + (gk) * 1)), .val (.int .u8 (((T (gi) (gj) (gk) : Nat) : Int))), .val (.int .i64 (((T (gi) (gj) (gk) : Nat) : Int))), .val (.int .i64 (((T (gj) (gi) (gk) : Nat) : Int) - ((T (gi) (gj) (gk) : Nat) : Int))), .val (.int .i64 ((((T (gj) (gi) (gk) : Nat) : Int) - ((T (gi) (gj) (gk) : Nat) : Int)) % ((p : Nat) : Int))), .own 3 (#[.int .i64 ((((T (gj) (gi) (gk) : Nat) : Int) - ((T (gi) (gj) (gk) : Nat) : Int)) % ((p : Nat) : Int))]) (fun b => .slice (some ⟨b, 0, none⟩) 1 1)] hmix rfl hF rfl hM ⟨fun a w gG hF hS hd => by exact par_val hS rfl (g_move hF rfl), fun a w gG hF hS hd => by exact par_val hS rfl (g_fieldAddr ty_fo_32_0 hF rfl), fun a w gG hF hS hd => by have hF := hF.ext1 29 (hd 1 rfl rfl); have hM := hS.mem rfl; exact par_val hS rfl (g_load ty_on_2 hF rfl (hM.row 0 rfl) (algC_p (by omega))), fun a w gG hF hS hd => by exact par_val hS rfl (g_move hF rfl), fun a w gG hF hS hd => by exact par_val hS rfl (g_move hF rfl), fun a w gG hF hS hd => by exact par_val hS rfl (g_move hF rfl), fun a w gG hF hS hd => by exact par_val hS rfl (g_fieldAddr ty_fo_32_2 hF rfl), fun a w gG hF hS hd => by have hF := hF.ext1 31 (hd 3 rfl rfl); have hF := hF.ext1 34 (hd 6 rfl rfl); exact par_val hS rfl (g_indexAddr ty_ar_24 hF rfl rfl rfl (by omega)), fun a w gG hF hS hd => by have hF := hF.ext1 32 (hd 4 rfl rfl); have hF := hF.ext1 35 (hd 7 rfl rfl); exact par_val hS rfl (g_indexAddr ty_ar_23 hF rfl rfl rfl (by omega)), fun a w gG hF hS hd => by have hF := hF.ext1 33 (hd 5 rfl rfl); have hF := hF.ext1 36 (hd 8 rfl rfl); exact par_val hS rfl (g_indexAddr ty_ar_22 hF rfl rfl rfl (by omega)), fun a w gG hF hS hd => by have hF := hF.ext1 37 (hd 9 rfl rfl); have hM := hS.mem rfl; exact par_val hS rfl (g_load ty_on_5 hF rfl (hM.row 0 rfl) (algC_T (gj) (gi) (gk) (by omega) (by omega) (by omega) (by omega))), fun a w gG hF hS hd => by have hF := hF.ext1 38 (hd 10 rfl rfl); exact par_val hS rfl (g_conv ty_un_2 ty_ud_5 hF rfl (wrap_i64 (by omega) (by omega))), fun a w gG hF hS hd => by exact par_val hS rfl (g_move hF rfl), fun a w gG hF hS hd => by exact par_val hS rfl (g_move hF rfl), fun a w gG hF hS hd => by exact par_val hS rfl (g_move hF rfl), fun a w gG hF hS hd => by exact par_val hS rfl (g_fieldAddr ty_fo_32_2 hF rfl), fun a w gG hF hS hd => by have hF := hF.ext1 40 (hd 12 rfl rfl); have hF := hF.ext1 43 (hd 15 rfl rfl); exact par_val hS rfl (g_indexAddr ty_ar_24 hF rfl rfl rfl (by omega)), fun a w gG hF hS hd => by have hF := hF.ext1 41 (hd 13 rfl rfl); have hF := hF.ext1 44 (hd 16 rfl rfl); exact par_val hS rfl (g_indexAddr ty_ar_23 hF rfl rfl rfl (by omega)), fun a w gG hF hS hd => by have hF := hF.ext1 42 (hd 14 rfl rfl); have hF := hF.ext1 45 (hd 17 rfl rfl); exact par_val hS rfl (g_indexAddr ty_ar_22 hF rfl rfl rfl (by omega)), fun a w gG hF hS hd => by have hF := hF.ext1 46 (hd 18 rfl rfl); have hM := hS.mem rfl; exact par_val hS rfl (g_load ty_on_5 hF rfl (hM.row 0 rfl) (algC_T (gi) (gj) (gk) (by omega) (by omega) (by omega) (by omega))), fun a w gG hF hS hd => by have hF := hF.ext1 47 (hd 19 rfl rfl); exact par_val hS rfl (g_conv ty_un_2 ty_ud_5 hF rfl (wrap_i64 (by omega) (by omega))), fun a w gG hF hS hd => by have hF := hF.ext1 39 (hd 11 rfl rfl); have hF := hF.ext1 48 (hd 20 rfl rfl); exact par_val hS rfl (g_sub hF rfl rfl (wrap_i64 (by omega) (by omega))), fun a w gG hF hS hd => by have hF := hF.ext1 30 (hd 2 rfl rfl); have hF := hF.ext1 49 (hd 21 rfl rfl); exact par_call (by repeat constructor) hS rfl (d_call Try.call75 hF (.cons rfl (.cons rfl .nil)) (l01Mod_ok (((T (gj) (gi) (gk) : Nat) : Int) - ((T (gi) (gj) (gk) : Nat) : Int)) (p) _ (by omega) (by omega) (by omega) (by omega))), fun a w gG hF hS hd => by have hF := hF.ext1 50 (hd 22 rfl rfl); exact par_own (by repeat constructor) hS rfl rfl rfl rfl (d_buildC 3 hS.1 hF (build1 hF rfl) (ty_bs1_45 _)), trivial⟩ ?_
              intro a w' L hF hS hq
              have hF := hF.ext1 28 (hq 0 rfl rfl)
              have hF := hF.ext1 29 (hq 1 rfl rfl)
              have hF := hF.ext1 30 (hq 2 rfl rfl)
              have hF := hF.ext1 31 (hq 3 rfl rfl)
              have hF := hF.ext1 32 (hq 4 rfl rfl)
              have hF := hF.ext1 33 (hq 5 rfl rfl)
              have hF := hF.ext1 34 (hq 6 rfl rfl)
              have hF := hF.ext1 35 (hq 7 rfl rfl)
              have hF := hF.ext1 36 (hq 8 rfl rfl)
              have hF := hF.ext1 37 (hq 9 rfl rfl)
              have hF := hF.ext1 38 (hq 10 rfl rfl)
              have hF := hF.ext1 39 (hq 11 rfl rfl)
              have hF := hF.ext1 40 (hq 12 rfl rfl)
              have hF := hF.ext1 41 (hq 13 rfl rfl)
              have hF := hF.ext1 42 (hq 14 rfl rfl)
              have hF := hF.ext1 43 (hq 15 rfl rfl)
              have hF := hF.ext1 44 (hq 16 rfl rfl)
              have hF := hF.ext1 45 (hq 17 rfl rfl)
              have hF := hF.ext1 46 (hq 18 rfl rfl)
              have hF := hF.ext1 47 (hq 19 rfl rfl)
              have hF := hF.ext1 48 (hq 20 rfl rfl)
              have hF := hF.ext1 49 (hq 21 rfl rfl)
              have hF := hF.ext1 50 (hq 22 rfl rfl)
              obtain ⟨hM, hL⟩ := hS
              obtain ⟨b7, hptr, hkk⟩ := hq 23 rfl rfl
              have hF := hF.ext1 51 hptr
              have hL := hL.take hkk
              obtain rfl := hL.eq
              change Mem w w' [some (b1, algC (p : Int) (n : Int) T f), e3_2, e6_3, some (b7, #[.int .i64 ((((T (gj) (gi) (gk) : Nat) : Int) - ((T (gi) (gj) (gk) : Nat) : Int)) % ((p : Nat) : Int))]), none, none] D2 at hM
              change wpList Try.prog _ _ [_, _] _ _
              refine stR hF (d_append (k := 2) (m := 1) (g := fun _ => .int .i64 ((((T (gj) (gi) (gk) : Nat) : Int) - ((T (gi) (gj) (gk) : Nat) : Int)) % ((p : Nat) : Int))) ty_si_45 rfl (by decide) hM rfl hF rfl rfl hrow (fun i hi => by rw [show i = 0 by omega]; exact (hM.row 3 rfl).cell 0) (fun _ _ => rfl) (by decide) (by unfold maxLen; omega) (by omega)) rfl ?_
              rintro u8 w' a ⟨e9, hM, hs10⟩ hF
              change Mem w w' [some (b1, algC (p : Int) (n : Int) T f), e3_2, e9, some (b7, #[.int .i64 ((((T (gj) (gi) (gk) : Nat) : Int) - ((T (gi) (gj) (gk) : Nat) : Int)) % ((p : Nat) : Int))]), none, none] D2 at hM
              refine st hF (g_assign hF rfl) rfl fun a hF => ?_
              refine wpList_nil ?_
              refine iN ?_
              refine tN ?_
              refine wp_region_lit ?_
              refine st hF (g_move hF rfl) rfl fun a hF => st hF (g_add hF rfl rfl (add_nat (gj) (1) (by omega))) rfl fun a hF => st hF (g_assign hF rfl) rfl fun a hF => ?_
              refine wpList_nil ?_
              refine tN ?_
              have hM := hM.drop 3
              refine ⟨gj + 1, ⟨by omega, trivial, (u8), (e9), (hs10.snoc (congrArg (Value.int .i64) (eqC_row hp2 (by omega)).symm)), hF.sub _ (by repeat' constructor), ?_⟩, by omega⟩
              exact hM
            ·
              obtain rfl : n = gj := by omega
              refine wp_exit ?_
              refine tX ?_
              refine tX ?_
              refine ib_same ?_
              refine tN ?_
              obtain ⟨bR, capR, csR, rfl, rfl, hsR⟩ := hrow.pos (by omega)
              have hM := hM.freeze 2 rfl
              have hR2 := (hR2.more (D' := (bR, csR) :: D2) (fun x hx => List.mem_cons_of_mem _ hx)).snoc (List.mem_cons_self ..) hsR
              change Mem w _ [some (b1, algC (p : Int) (n : Int) T f), e3_2, none, none, none, none] ((bR, csR) :: D2) at hM
              refine wp_region_lit ?_
              refine st hF (g_move hF rfl) rfl fun a hF => st hF (g_move hF rfl) rfl fun a hF => ?_
              refine stR hF (d_buildC 4 hM hF (build1 hF rfl) (ty_bsv_53 _ _ _)) rfl ?_
              rintro _ w' a ⟨b11, rfl, hM, -⟩ hF
              change Mem w w' [some (b1, algC (p : Int) (n : Int) T f), e3_2, none, none, some (b11, #[.slice (some ⟨bR, 0, none⟩) (n) (capR)]), none] ((bR, csR) :: D2) at hM
              refine stR hF (d_append (k := 1) (m := 1) (g := fun _ => .slice (some ⟨bR, 0, none⟩) (n) (capR)) ty_si_53 rfl (by decide) hM rfl hF rfl rfl hsl (fun i hi => by rw [show i = 0 by omega]; exact (hM.row 4 rfl).cell 0) (fun _ _ => rfl) (by decide) (by unfold maxLen; omega) (by omega)) rfl ?_
              rintro u12 w' a ⟨e13, hM, hs14⟩ hF
              change Mem w w' [some (b1, algC (p : Int) (n : Int) T f), e13, none, none, some (b11, #[.slice (some ⟨bR, 0, none⟩) (n) (capR)]), none] ((bR, csR) :: D2) at hM
              refine st hF (g_assign hF rfl) rfl fun a hF => ?_
              refine wpList_nil ?_
              refine iN ?_
              refine tN ?_
              refine wp_region_lit ?_
              refine st hF (g_move hF rfl) rfl fun a hF => st hF (g_add hF rfl rfl (add_nat (gk) (1) (by omega))) rfl fun a hF => st hF (g_assign hF rfl) rfl fun a hF => ?_
              refine wpList_nil ?_
              refine tN ?_
              have hsl := hs14.snocR
              have hR2 := hR2.congr (g := fun i c => .int .i64 ((eqC p n T i c : Nat) : Int)) (fun i hi c hc => by
                by_cases e : i = gi * n + gk
                · rw [e]; simp only [up_eq]
                · simp only [up_ne e])
              have hM := hM.drop 4
              refine ⟨gk + 1, ⟨by omega, ((bR, csR) :: D2), (up β2 (gi * n + gk) bR), (up κ2 (gi * n + gk) capR), (up C2 (gi * n + gk) csR), hR2, (u12), (e13), hsl, hF.sub _ (by repeat' constructor), ?_⟩, by omega⟩
              exact hM
        ·
          obtain rfl : n = gk := by omega
          refine wp_exit ?_
          refine tX ?_
          refine tX ?_
          refine ib_same ?_
          refine iN ?_
          refine tN ?_
          refine wp_region_lit ?_
          refine st hF (g_move hF rfl) rfl fun a hF => st hF (g_add hF rfl rfl (add_nat (gi) (1) (by omega))) rfl fun a hF => st hF (g_assign hF rfl) rfl fun a hF => ?_
          refine wpList_nil ?_
          refine tN ?_
          refine ⟨gi + 1, ⟨by omega, D2, β2, κ2, C2, (by rw [Nat.succ_mul]; exact hR2), (u3_2), (e3_2), (by rw [Nat.succ_mul]; exact hsl), hF.sub _ (by repeat' constructor), ?_⟩, by omega⟩
          exact hM
    ·
      obtain rfl : n = gi := by omega
      have hnn : 0 < n * n := Nat.mul_pos (by omega) (by omega)
      obtain ⟨b0, c0, cs0, rfl, rfl, hs0⟩ := hsl.pos hnn
      have hM := hM.freeze 1 rfl
      have hb0 : (b0, cs0) ∈ (b0, cs0) :: D1 := List.mem_cons_self ..
      have hRm0 : ∀ x ∈ D1, x ∈ (b0, cs0) :: D1 := fun x hx => List.mem_cons_of_mem _ hx
      have hfM1 := eqC_lt (n := n) (T := T) hp2
      have hnn2 := Nat.mul_le_mul hn hn
      change Mem w _ [some (b1, algC (p : Int) (n : Int) T f), none, none, none, none, none] ((b0, cs0) :: D1) at hM
      refine wp_exit ?_
      refine tX ?_
      refine tX ?_
      refine ib_same ?_
      refine tN ?_
      refine sq ?_
      refine wp_region_lit ?_
      refine st hF (g_fieldAddr ty_fo_32_0 hF rfl) rfl fun a hF => st hF (g_load ty_on_2 hF rfl (hM.row 0 rfl) (algC_p (by omega))) rfl fun a hF => st hF (g_fieldAddr ty_fo_32_1 hF rfl) rfl fun a hF => st hF (g_load ty_on_2 hF rfl (hM.row 0 rfl) (algC_n (by omega))) rfl fun a hF => st hF (g_move hF rfl) rfl fun a hF => ?_
      refine stR hF (d_call Try.call77 hF (.cons rfl (.cons rfl (.cons rfl .nil))) (l01Kernel_ok p n (n * n) (b0) (c0) (cs0) ((b0, cs0) :: D1) β κ C (eqC p n T) _ hp hn0 hn (by omega) hfM1 (fun _ _ hm => hM.fzm hm) hb0 (fun i hi => hs0.get1 i hi) (hR.more hRm0) hne)) rfl ?_
      rintro u w' a ⟨hx, hr⟩ hF
      have hr := (KerRel.of) hM hr
      have hM := hM.ext hx
      obtain ⟨r, V, hIK, hV, hrn, hrr⟩ := hr
      obtain ⟨DV, β9, κ9, C9, ob9, oc9, ocs9, hR9, hos9, hom9, hbg9, hobg9, hM⟩ := hM.addR hrr
      obtain rfl := hos9.val
      have hRm9 : ∀ x ∈ (DV ++ ((b0, cs0) :: D1)), x ∈ (DV ++ ((b0, cs0) :: D1)) := fun _ h => h
      have hr0 := hpos r V hIK
      refine stR hF (d_callOwn (k := 5) hM (d_call Try.call76 hF (.cons rfl .nil) (l01Vectors_ok p n (r) (ob9) (oc9) (ocs9) (DV ++ ((b0, cs0) :: D1)) β9 κ9 C9 V _ hp13 hn0 hn hr0 (by omega) hV (fun _ _ hm => hM.fzm hm) hom9 (fun i hi => hos9.get1 i hi) (hR9.more hRm9)))) rfl ?_
      rintro u w' a ⟨b15, cap16, cs17, hs18, hM, -⟩ hF
      obtain rfl := hs18.val
      change Mem w w' [some (b1, algC (p : Int) (n : Int) T f), none, none, none, none, some (b15, cs17)] (DV ++ ((b0, cs0) :: D1)) at hM
      refine st hF (g_assign hF rfl) rfl fun a hF => ?_
      refine wpList_nil ?_
      refine tN ?_
      refine wp_ret ?_
      refine fin1 rfl hF.defers (res_tmp hF rfl) ⟨_, rfl, hM.below, ?_⟩
      exact ⟨r, V, hIK, _, _, _, hs18, hM.ge 5 rfl, hM.row 5 rfl⟩

end Go.Proofs.Ytfbhngnfhpjonaa
