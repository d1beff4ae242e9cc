/- What functions of the program return, as walks over their operations; no statement of the seat is proved here. -/
import Derived.Test.YtfencffdhenjdaaDoorY3
import Derived.Test.YtfencffdhenjdaaDoorSw51
set_option linter.unusedVariables false
set_option linter.unusedSimpArgs false
namespace Go.Proofs.YtfencffdhenjdaaDoor
open Go Go.RowKit Go.Sw Go.Ech
open Classical
theorem reduceRows_0 (p : Nat) (w : World)  :
    CallsR Tryd.prog 63 #[.slice none 0 0, .int .i64 (((p : Nat) : Int))] w (fun res _ => res = .slice none 0 0) := by
  refine calls_fr [.slice none 0 0, .int .i64 (((p : Nat) : Int))] Tryd.func63 rfl Tryd.ntmps63 rfl fun a hF => ?_
  have hM : Mem w w [] [] := MemX.start w 0
  change Fr 97 a [(0, .slice none 0 0), (1, .int .i64 (((p : Nat) : Int)))] at hF
  refine sq ?_
  refine wp_region_lit ?_
  refine st hF (g_assign hF rfl) rfl fun a hF => ?_
  refine wpList_nil ?_
  refine tN ?_
  refine sq ?_
  refine wp_region_lit ?_
  refine st hF (g_assign hF rfl) rfl fun a hF => ?_
  refine wpList_nil ?_
  refine tN ?_
  refine sq ?_
  refine wp_block ?_
  change Mem w _ [] [] at hM
  refine c_loop (fun (kk : Nat) a w' => kk ≤ 0 ∧ (True) ∧ Fr 97 a [(0, .slice none 0 0), (1, .int .i64 (((p : Nat) : Int))), (4, .slice none 0 0), (5, .int .i64 (((kk : Nat) : Int)))] ∧ Mem w w' [] []) (fun kk => 0 - kk) 0 ?_ ?_
  ·
    refine ⟨by omega, trivial, hF.sub _ (by repeat' constructor), ?_⟩
    exact hM
  ·
    clear hF hM
    rintro gi a w' ⟨hgi, hinv1, hF, hM⟩
    refine sq ?_
    refine sq ?_
    refine wp_region_lit ?_
    refine st hF (g_move hF rfl) rfl fun a hF => st hF (g_move hF rfl) rfl fun a hF => st hF (g_len0 ty_us_68 hF rfl) rfl fun a hF => st hF (g_lss hF rfl rfl) rfl fun a hF => ?_
    refine wpList_nil ?_
    refine tN ?_
    refine c_cond hF rfl (fun h1 => ?_) (fun h1 => ?_)
    ·
      exfalso; omega
    ·
      obtain rfl : 0 = gi := by omega
      refine wp_exit ?_
      refine tX ?_
      refine tX ?_
      refine ib_same ?_
      refine tN ?_
      refine sq ?_
      refine wp_region_lit ?_
      refine st hF (g_move hF rfl) rfl fun a hF => st hF (g_move hF rfl) rfl fun a hF => st hF (g_sliceNil ty_us_68 ty_sz_69 hF rfl rfl rfl) rfl fun a hF => st hF (g_assign hF rfl) rfl fun a hF => ?_
      refine wpList_nil ?_
      refine tN ?_
      refine wp_ret ?_
      refine fin1 rfl hF.defers (res_tmp hF rfl) ⟨_, rfl, hM.below, ?_⟩
      show _ = _
      rfl

theorem vectorsOf_0  (w : World)  :
    CallsR Tryd.prog 65 #[.slice none 0 0] w (fun res _ => res = .slice none 0 0) := by
  refine calls_fr [.slice none 0 0] Tryd.func65 rfl Tryd.ntmps65 rfl fun a hF => ?_
  have hM : Mem w w [none] [] := MemX.start w 1
  change Fr 20 a [(0, .slice none 0 0)] at hF
  refine sq ?_
  refine wp_region_lit ?_
  refine st hF (g_assign hF rfl) rfl fun a hF => ?_
  refine wpList_nil ?_
  refine tN ?_
  refine sq ?_
  refine wp_region_lit ?_
  refine st hF (g_assign hF rfl) rfl fun a hF => ?_
  refine wpList_nil ?_
  refine tN ?_
  refine sq ?_
  refine sq ?_
  refine wp_region_lit ?_
  refine st hF (g_move hF rfl) rfl fun a hF => st hF (g_len0 ty_us_68 hF rfl) rfl fun a hF => st hF (g_move hF rfl) rfl fun a hF => ?_
  refine wpList_nil ?_
  refine tN ?_
  refine wp_block ?_
  change Mem w _ [none] [] at hM
  refine c_loop (fun (kk : Nat) a w' => kk ≤ 0 ∧ (True) ∧ Fr 20 a [(0, .slice none 0 0), (2, .slice none 0 0), (6, .slice none 0 0), (7, .int .i64 (0)), (8, .int .i64 (((kk : Nat) : Int))), (3, .slice none 0 0)] ∧ Mem w w' [none] []) (fun kk => 0 - kk) 0 ?_ ?_
  ·
    refine ⟨by omega, trivial, hF.sub _ (by repeat' constructor), ?_⟩
    exact hM
  ·
    clear hF hM
    rintro gi a w' ⟨hgi, hinv1, hF, hM⟩
    refine sq ?_
    refine wp_region_lit ?_
    refine st hF (g_lss hF rfl rfl) rfl fun a hF => ?_
    refine wpList_nil ?_
    refine tN ?_
    refine sq ?_
    refine c_cond hF rfl (fun h1 => ?_) (fun h1 => ?_)
    ·
      exfalso; omega
    ·
      obtain rfl : 0 = gi := by omega
      refine wp_exit ?_
      refine tX ?_
      refine tX ?_
      refine ib_same ?_
      refine tN ?_
      refine sq ?_
      refine wp_region_lit ?_
      refine st hF (g_move hF rfl) rfl fun a hF => st hF (g_assign hF rfl) rfl fun a hF => ?_
      refine wpList_nil ?_
      refine tN ?_
      refine wp_ret ?_
      refine fin1 rfl hF.defers (res_tmp hF rfl) ⟨_, rfl, hM.below, ?_⟩
      show _ = _
      rfl

theorem kernelOf_Z (p n m b0 c0 : Nat) (cs0 : Array Value) (γ : Nat → Nat) (M : Nat → Nat → Nat) (w : World) (hp : primeN p) (hn0 : 0 < n) (hn : n ≤ 6) (hm2 : m < 1000) (hmc : m ≤ c0) (hM1 : ∀ i c, M i c < p) (hM0 : ∀ i, i < m → ∀ c, n ≤ c → c < 6 → M i c = 0) (hb0 : Blk w b0 cs0) (hsz0 : m ≤ cs0.size) (hg0 : ∀ i, i < m → cs0[0 + i * 1]? = some (.slice (some ⟨γ i, 0, none⟩) 6 6)) (hbr : ∀ i, i < m → Blk w (γ i) (fnC 6 (fun c => .int .u8 ((M i c : Nat) : Int)))) (hinj : ∀ i j, i < m → j < m → γ i = γ j → i = j) (hne0 : ∀ i, i < m → γ i ≠ b0) (hzk : ∀ k E ld, Rref p n E k ld → (∀ x, Ker p n E k x ↔ Ker p n M m x) → nf k ld n = 0) :
    CallsX Tryd.prog (rowsX b0 m γ) 47 #[.slice (some ⟨b0, 0, none⟩) (m) (c0), .int .i64 (((n : Nat) : Int)), .int .i64 (((p : Nat) : Int))] w (fun res _ => res = .slice none 0 0) := by
  refine calls_frX [.slice (some ⟨b0, 0, none⟩) (m) (c0), .int .i64 (((n : Nat) : Int)), .int .i64 (((p : Nat) : Int))] Tryd.func47 rfl Tryd.ntmps47 rfl fun a hF => ?_
  have hp2 := hp.two
  have hp13 := hp.le
  have hM : MemX (rowsX b0 m γ) w w [none, none, none, none] (rowsD0 b0 cs0 6 m γ M) := MemX.startXD _ w 4 _ (rowsD0_all hb0 hbr)
  change Fr 68 a [(0, .slice (some ⟨b0, 0, none⟩) (m) (c0)), (1, .int .i64 (((n : Nat) : Int))), (2, .int .i64 (((p : Nat) : Int)))] at hF
  refine sq ?_
  refine wp_region_lit ?_
  refine st hF (g_assign hF rfl) rfl fun a hF => ?_
  refine wpList_nil ?_
  refine tN ?_
  refine sq ?_
  refine wp_region_lit ?_
  refine st hF (g_move hF rfl) rfl fun a hF => st hF (g_move hF rfl) rfl fun a hF => ?_
  refine stR hF (d_callX Tryd.call63 hF (.cons rfl (.cons rfl .nil)) (reduceRows_ok p 6 m b0 c0 cs0 γ M _ hp (by omega) (by omega) (by omega) hmc hM1 (hM.fzm rowsD0_0) hsz0 hg0 (fun i hi => hM.fzm (rowsD0_i hi)) hinj hne0)) rfl ?_
  rintro _ w' a ⟨hx, k, E, γ', ld, cs', rfl, hkm, hE, hKer, hE1, hb0', hg0', hbr', hgX'⟩ hF
  have hM := hM.swapD (D' := (rowsD0 b0 cs' 6 m γ' E)) hx rowsD0_Y (fun y hy => .inr hy) (rowsD0_all ⟨hb0', .inr (List.mem_cons_self ..)⟩ (fun i hi => ⟨hbr' i hi, hgX' i hi⟩))
  change MemX (rowsX b0 m γ) w w' [none, none, none, none] (rowsD0 b0 cs' 6 m γ' E) at hM
  refine st hF (g_assign hF rfl) rfl fun a hF => ?_
  refine wpList_nil ?_
  refine tN ?_
  refine sq ?_
  obtain ⟨hEn, hKn, hEz⟩ := rref_pad hp hn hM1 hM0 hE hKer
  have hRm : ∀ x ∈ (rowsD0 b0 cs' 6 m γ' E), x ∈ (rowsD0 b0 cs' 6 m γ' E) := fun _ h => h
  have hnf := hzk k E ld hEn hKn
  refine wp_region_lit ?_
  refine stR hF (d_alloc 0 hM ty_ze_82) rfl ?_
  rintro _ w' a ⟨b1, rfl, hM, -⟩ hF
  change MemX (rowsX b0 m γ) w w' [some (b1, fnC 6 (fun _ => .bool (false))), none, none, none] (rowsD0 b0 cs' 6 m γ' E) at hM
  refine wpList_nil ?_
  refine tN ?_
  refine sq ?_
  refine sq ?_
  refine wp_region_lit ?_
  refine st hF (g_move hF rfl) rfl fun a hF => st hF (g_len ty_us_68 hF rfl) rfl fun a hF => st hF (g_move hF rfl) rfl fun a hF => ?_
  refine wpList_nil ?_
  refine tN ?_
  refine wp_block ?_
  change MemX (rowsX b0 m γ) w _ [some (b1, fnC 6 (fun _ => .bool (false))), none, none, none] (rowsD0 b0 cs' 6 m γ' E) at hM
  refine c_loop (fun (kk : Nat) a w' => kk ≤ k ∧ (True) ∧ Fr 68 a [(0, .slice (some ⟨b0, 0, none⟩) (m) (c0)), (1, .int .i64 (((n : Nat) : Int))), (2, .int .i64 (((p : Nat) : Int))), (6, .slice none 0 0), (16, .slice (some ⟨b0, 0, none⟩) (m) (c0)), (17, .int .i64 (((p : Nat) : Int))), (18, .slice (some ⟨b0, 0, none⟩) (k) (c0)), (7, .slice (some ⟨b0, 0, none⟩) (k) (c0)), (8, ptr b1 (0)), (19, .slice (some ⟨b0, 0, none⟩) (k) (c0)), (20, .int .i64 (((k : Nat) : Int))), (21, .int .i64 (((kk : Nat) : Int)))] ∧ MemX (rowsX b0 m γ) w w' [some (b1, ldB kk ld), none, none, none] (rowsD0 b0 cs' 6 m γ' E)) (fun kk => k - kk) 0 ?_ ?_
  ·
    refine ⟨by omega, trivial, hF.sub _ (by repeat' constructor), ?_⟩
    exact hM.rowc 0 rfl ldB_zero
  ·
    clear hF hM
    rintro gi a w' ⟨hgi, hinv1, hF, hM⟩
    have hlg : gi < k → ld gi < n := fun h => hEn.lt gi h
    refine sq ?_
    refine wp_region_lit ?_
    refine st hF (g_lss hF rfl rfl) rfl fun a hF => ?_
    refine wpList_nil ?_
    refine tN ?_
    refine sq ?_
    refine c_cond hF rfl (fun h2 => ?_) (fun h2 => ?_)
    ·
      refine wp_skip ?_
      refine tN ?_
      refine sq ?_
      refine wp_block ?_
      refine sq ?_
      refine wp_region_lit ?_
      refine st hF (g_indexSl (i := gi) ty_sl_68 hF rfl rfl rfl (by omega)) rfl fun a hF => st hF (g_load ty_on_69 hF rfl (hM.fzm (hRm _ rowsD0_0)) (hg0' (gi) (by omega))) rfl fun a hF => st hF (g_assign hF rfl) rfl fun a hF => ?_
      refine wpList_nil ?_
      refine tN ?_
      refine wp_region_lit ?_
      refine st hF (g_move hF rfl) rfl fun a hF => ?_
      refine stR hF (d_call Tryd.call64 hF (.cons rfl .nil) ((leadingPlace_row (γ' (gi)) (6) (hM.fzm (hRm _ (rowsD0_i (show gi < m by omega)))) (fun i hi => fnC_getE i (by omega) hi rfl) (by omega) hE (i := gi) (by omega)))) rfl ?_
      rintro _ w' a ⟨hx, rfl⟩ hF
      have hM := hM.ext hx
      refine st hF (g_indexAddr ty_ar_82 hF rfl rfl rfl (by omega)) rfl fun a hF => ?_
      refine stN hF (d_store 0 hM rfl ty_on_4 hF rfl rfl rfl (by first | omega | (simp only [fnC_size, cells_size, vecC_size, tabC_size, planeC_size, dgC_size, numC_sz, ldB_size] <;> omega))) ?_
      intro _ w' a hM hF
      change MemX (rowsX b0 m γ) w w' [some (b1, (ldB gi ld).setIfInBounds (0 + (ld (gi)) * 1) (.bool (true))), none, none, none] (rowsD0 b0 cs' 6 m γ' E) at hM
      refine wpList_nil ?_
      refine iN ?_
      refine tN ?_
      refine wp_region_lit ?_
      refine st hF (g_add hF rfl rfl (add_nat (gi) (1) (by omega))) rfl fun a hF => st hF (g_move hF rfl) rfl fun a hF => ?_
      refine wpList_nil ?_
      refine tN ?_
      refine ⟨gi + 1, ⟨by omega, trivial, hF.sub _ (by repeat' constructor), ?_⟩, by omega⟩
      exact hM.rowc 0 rfl (ldB_set (by omega))
    ·
      obtain rfl : k = gi := by omega
      refine wp_exit ?_
      refine tX ?_
      refine tX ?_
      refine ib_same ?_
      refine tN ?_
      refine sq ?_
      refine wp_region_lit ?_
      refine st hF (g_assign hF rfl) rfl fun a hF => ?_
      refine wpList_nil ?_
      refine tN ?_
      refine sq ?_
      refine sq ?_
      refine wp_region_lit ?_
      refine st hF (g_move hF rfl) rfl fun a hF => st hF (g_move hF rfl) rfl fun a hF => ?_
      refine wpList_nil ?_
      refine tN ?_
      refine wp_block ?_
      change MemX (rowsX b0 m γ) w _ [some (b1, ldB k ld), none, none, none] (rowsD0 b0 cs' 6 m γ' E) at hM
      refine c_loop (fun (kk : Nat) a w' => kk ≤ n ∧ (True) ∧ Fr 68 a [(0, .slice (some ⟨b0, 0, none⟩) (m) (c0)), (1, .int .i64 (((n : Nat) : Int))), (2, .int .i64 (((p : Nat) : Int))), (6, .slice none 0 0), (16, .slice (some ⟨b0, 0, none⟩) (m) (c0)), (17, .int .i64 (((p : Nat) : Int))), (18, .slice (some ⟨b0, 0, none⟩) (k) (c0)), (7, .slice (some ⟨b0, 0, none⟩) (k) (c0)), (8, ptr b1 (0)), (19, .slice (some ⟨b0, 0, none⟩) (k) (c0)), (20, .int .i64 (((k : Nat) : Int))), (21, .int .i64 (((k : Nat) : Int))), (22, .bool (decide ((((k : Nat) : Int) : Int) < ((k : Nat) : Int)))), (29, .int .i64 (((n : Nat) : Int))), (30, .int .i64 (((kk : Nat) : Int))), (11, .slice none 0 0)] ∧ MemX (rowsX b0 m γ) w w' [some (b1, ldB k ld), none, none, none] (rowsD0 b0 cs' 6 m γ' E)) (fun kk => n - kk) 0 ?_ ?_
      ·
        refine ⟨by omega, trivial, hF.sub _ (by repeat' constructor), ?_⟩
        exact hM
      ·
        clear hF hM
        rintro gc a w' ⟨hgc, hinv2, hF, hM⟩
        refine sq ?_
        refine wp_region_lit ?_
        refine st hF (g_lss hF rfl rfl) rfl fun a hF => ?_
        refine wpList_nil ?_
        refine tN ?_
        refine sq ?_
        refine c_cond hF rfl (fun h3 => ?_) (fun h3 => ?_)
        ·
          refine wp_skip ?_
          refine tN ?_
          refine sq ?_
          refine wp_block ?_
          refine sq ?_
          refine wp_region_lit ?_
          refine st hF (g_move hF rfl) rfl fun a hF => st hF (g_assign hF rfl) rfl fun a hF => ?_
          refine wpList_nil ?_
          refine tN ?_
          refine sq ?_
          refine sq ?_
          refine wp_region_lit ?_
          refine st hF (g_move hF rfl) rfl fun a hF => st hF (g_indexAddr ty_ar_82 hF rfl rfl rfl (by omega)) rfl fun a hF => st hF (g_load ty_on_4 hF rfl (hM.row 0 rfl) (ldB_get (c := gc) (by omega) (by omega))) rfl fun a hF => ?_
          refine wpList_nil ?_
          refine tN ?_
          refine c_cond hF rfl (fun h4 => ?_) (fun h4 => ?_)
          ·
            refine wp_exit ?_
            refine tX ?_
            refine ib_same ?_
            refine tN ?_
            refine wp_region_lit ?_
            refine st hF (g_add hF rfl rfl (add_nat (gc) (1) (by omega))) rfl fun a hF => st hF (g_move hF rfl) rfl fun a hF => ?_
            refine wpList_nil ?_
            refine tN ?_
            refine ⟨gc + 1, ⟨by omega, trivial, hF.sub _ (by repeat' constructor), ?_⟩, by omega⟩
            exact hM
          ·
            exact absurd (nf_all hnf gc (by omega)) h4
        ·
          obtain rfl : n = gc := by omega
          refine wp_exit ?_
          refine tX ?_
          refine tX ?_
          refine ib_same ?_
          refine tN ?_
          refine sq ?_
          refine wp_region_lit ?_
          refine st hF (g_move hF rfl) rfl fun a hF => st hF (g_move hF rfl) rfl fun a hF => ?_
          refine stR hF (d_call Tryd.call63 hF (.cons rfl (.cons rfl .nil)) (reduceRows_0 p _)) rfl ?_
          rintro _ w' a ⟨hx, rfl⟩ hF
          have hM := hM.ext hx
          refine stR hF (d_call Tryd.call65 hF (.cons rfl .nil) (vectorsOf_0 _)) rfl ?_
          rintro _ w' a ⟨hx, rfl⟩ hF
          have hM := hM.ext hx
          refine st hF (g_assign hF rfl) rfl fun a hF => ?_
          refine wpList_nil ?_
          refine tN ?_
          refine wp_ret ?_
          refine fin1 rfl hF.defers (res_tmp hF rfl) ⟨_, rfl, hM.bel, ?_⟩
          show _ = _
          rfl

end Go.Proofs.YtfencffdhenjdaaDoor

namespace Go.Proofs.YtfencffdhenjdaaDoor
open Go Go.RowKit Go.Sw Go.Ech
open Classical
theorem basisOf_ok (p n : Nat) (T : Nat → Nat → Nat → Nat) (f : Nat → Nat) (w : World) (hn0 : 0 < n) (hn : n ≤ 6) :
    CallsR Tryd.prog 29 #[.agg (algC (p : Int) (n : Int) T f)] w (fun u w' => OwnSl 6 w n (fun c => .int .u8 (((fun i q => if q = i then 1 else 0) (c / 6) (c % 6) : Nat) : Int)) u w') := by
  refine calls_fr [.agg (algC (p : Int) (n : Int) T f)] Tryd.func29 rfl Tryd.ntmps29 rfl fun a hF => ?_
  have hM : Mem w w [none, none, none] [] := MemX.start w 3
  change Fr 17 a [(0, .agg (algC (p : Int) (n : Int) T f))] at hF
  refine sq ?_
  refine wp_region_lit ?_
  refine stR hF (d_box 0 hM hF rfl) rfl ?_
  rintro _ w' a ⟨b1, rfl, hM, -⟩ hF
  change Mem w w' [some (b1, algC (p : Int) (n : Int) T f), none, none] [] at hM
  refine st hF (g_assign hF rfl) rfl fun a hF => ?_
  refine wpList_nil ?_
  refine tN ?_
  refine sq ?_
  refine wp_region_lit ?_
  refine st hF (g_assign hF rfl) rfl fun a hF => ?_
  refine wpList_nil ?_
  refine tN ?_
  refine sq ?_
  refine sq ?_
  refine wp_region_lit ?_
  refine st hF (g_fieldAddr ty_fo_32_1 hF rfl) rfl fun a hF => st hF (g_load ty_on_2 hF rfl (hM.row 0 rfl) (algC_n (by omega))) rfl fun a hF => st hF (g_move hF rfl) rfl fun a hF => ?_
  refine wpList_nil ?_
  refine tN ?_
  refine wp_block ?_
  change Mem w _ [some (b1, algC (p : Int) (n : Int) T f), none, none] [] at hM
  refine c_loop (fun (kk : Nat) a w' => kk ≤ n ∧ (True) ∧ ∃ (u3_1 : Value) (e3_1 : Option (Nat × Array Value)), Sl 6 u3_1 e3_1 (kk) (fun c => .int .u8 (((fun i q => if q = i then 1 else 0) (c / 6) (c % 6) : Nat) : Int)) ∧ Fr 17 a [(0, .agg (algC (p : Int) (n : Int) T f)), (1, ptr b1 (0)), (2, .slice none 0 0), (5, ptr b1 (0 + 1)), (6, .int .i64 (((n : Nat) : Int))), (7, .int .i64 (((kk : Nat) : Int))), (3, u3_1)] ∧ Mem w w' [some (b1, algC (p : Int) (n : Int) T f), none, e3_1] []) (fun kk => n - kk) 0 ?_ ?_
  ·
    refine ⟨by omega, trivial, (.slice none 0 0), (none), (Sl.nil 6 _), hF.sub _ (by repeat' constructor), ?_⟩
    exact hM
  ·
    clear hF hM
    rintro gj a w' ⟨hgj, hinv1, u3_1, e3_1, hsl, hF, hM⟩
    refine sq ?_
    refine wp_region_lit ?_
    refine st hF (g_lss hF rfl rfl) rfl fun a hF => ?_
    refine wpList_nil ?_
    refine tN ?_
    refine sq ?_
    refine c_cond hF rfl (fun h2 => ?_) (fun h2 => ?_)
    ·
      refine wp_skip ?_
      refine tN ?_
      refine sq ?_
      refine wp_block ?_
      refine sq ?_
      refine wp_region_lit ?_
      refine st hF (g_move hF rfl) rfl fun a hF => st hF (g_assign hF rfl) rfl fun a hF => ?_
      refine wpList_nil ?_
      refine tN ?_
      refine wp_region_lit ?_
      refine st hF (g_move hF rfl) rfl fun a hF => st hF (g_move hF rfl) rfl fun a hF => ?_
      refine stR hF (d_call Tryd.call44 hF (.cons rfl .nil) (basisVector_ok (gj) _ (by omega))) rfl ?_
      rintro _ w' a ⟨hx, rfl⟩ hF
      have hM := hM.ext hx
      refine stR hF (d_buildC (vs := [(0, .agg (vecC (fun c => if c = gj then 1 else 0)))]) 1 hM hF (build1 hF rfl) (fun w => ty_bsg_27_1 (fun c => if c = gj then 1 else 0) w)) rfl ?_
      rintro _ w' a ⟨b3, rfl, hM, -⟩ hF
      change Mem w w' [some (b1, algC (p : Int) (n : Int) T f), some (b3, vecsC 1 (vAtL [(fun c => if c = gj then 1 else 0)])), e3_1] [] at hM
      refine stR hF (d_append (k := 2) (N := gj) (m := 1) (f := (fun c => .int .u8 (((fun i q => if q = i then 1 else 0) (c / 6) (c % 6) : Nat) : Int))) (g := fun q => .int .u8 (((((fun c => if c = gj then 1 else 0)) q : Nat)) : Int)) ty_si_27 rfl (by decide) hM rfl hF rfl rfl hsl (fun q hq => ((hM.row 1 rfl).cell _).trans (vecs1_get q hq)) (fun _ _ => rfl) (by decide) (by unfold maxLen; omega) (by omega)) rfl ?_
      rintro u4 w' a ⟨e5, hM, hs6⟩ hF
      change Mem w w' [some (b1, algC (p : Int) (n : Int) T f), some (b3, vecsC 1 (vAtL [(fun c => if c = gj then 1 else 0)])), e5] [] at hM
      refine st hF (g_assign hF rfl) rfl fun a hF => ?_
      refine wpList_nil ?_
      refine iN ?_
      refine tN ?_
      refine wp_region_lit ?_
      refine st hF (g_add hF rfl rfl (add_nat (gj) (1) (by omega))) rfl fun a hF => st hF (g_move hF rfl) rfl fun a hF => ?_
      refine wpList_nil ?_
      refine tN ?_
      have hM := hM.drop 1
      refine ⟨gj + 1, ⟨by omega, trivial, (u4), (e5), (Sl.snoc6 (N := gj) (F := (fun c => .int .u8 (((fun i q => if q = i then 1 else 0) (c / 6) (c % 6) : Nat) : Int))) (G := fun q => .int .u8 (((if q = gj then 1 else 0 : Nat) : Nat) : Int)) hs6 (fun q hq => by rw [show (gj * 6 + q) / 6 = gj by omega, show (gj * 6 + q) % 6 = q by omega])), hF.sub _ (by repeat' constructor), ?_⟩, by omega⟩
      exact hM
    ·
      obtain rfl : n = gj := by omega
      refine wp_exit ?_
      refine tX ?_
      refine tX ?_
      refine ib_same ?_
      refine tN ?_
      refine sq ?_
      refine wp_region_lit ?_
      refine st hF (g_move hF rfl) rfl fun a hF => st hF (g_assign hF rfl) rfl fun a hF => ?_
      refine wpList_nil ?_
      refine tN ?_
      refine wp_ret ?_
      refine fin1 rfl hF.defers (res_tmp hF rfl) ⟨_, rfl, hM.below, ?_⟩
      exact OwnSl.pos hM (k := 2) rfl (hsl) hn0

theorem ker_same {p n m : Nat} {M M' : Nat → Nat → Nat} {x : Nat → Int} (e : ∀ i, i < m → ∀ c, c < n → M i c = M' i c) : Ker p n M m x ↔ Ker p n M' m x :=
  ⟨fun q i hi => by rw [← dot_same (e i hi)]; exact q i hi, fun q i hi => by rw [dot_same (e i hi)]; exact q i hi⟩
theorem isKer_same {p n m r : Nat} {M M' V : Nat → Nat → Nat} (e : ∀ i, i < m → ∀ c, c < n → M i c = M' i c) (h : IsKer p n M m r V) : IsKer p n M' m r V := by
  obtain ⟨k, E, ld, ld2, h1, h2, h3⟩ := h
  exact ⟨k, E, ld, ld2, h1, fun x => (h2 x).trans (ker_same e), h3⟩

theorem kernelOfMap_Y (p n : Nat) (T : Nat → Nat → Nat → Nat) (f : Nat → Nat) (bim cim : Nat) (csim : Array Value) (IM : Nat → Nat → Nat) (w : World) (hp : primeN p) (hn0 : 0 < n) (hn : n ≤ 6) (hIp : ∀ i c, IM i c < p) (hs1 : SlAt 6 (.slice (some ⟨bim, 0, none⟩) n cim) (some (bim, csim)) n bim cim csim (fun c => .int .u8 ((IM (c / 6) (c % 6) : Nat) : Int))) (hb1 : Blk w bim csim) (hne : ∀ k E ld, Rref p n E k ld → (∀ x, Ker p n E k x ↔ Ker p n (fun r c => IM c r) n x) → 0 < nf k ld n) (hpos : ∀ r V, IsKer p n (fun r c => IM c r) n r V → 0 < r) :
    CallsR Tryd.prog 31 #[.agg (algC (p : Int) (n : Int) T f), .slice (some ⟨bim, 0, none⟩) (n) (cim)] w (fun u w' => ∃ r V, IsKer p n (fun r c => IM c r) n r V ∧ (∀ i, i < r → ∀ c, n ≤ c → c < 6 → V i c = 0) ∧ r ≤ n ∧ OwnSl 6 w r (fun c => .int .u8 ((V (c / 6) (c % 6) : Nat) : Int)) u w') := by
  refine calls_fr [.agg (algC (p : Int) (n : Int) T f), .slice (some ⟨bim, 0, none⟩) (n) (cim)] Tryd.func31 rfl Tryd.ntmps31 rfl fun a hF => ?_
  have hM : Mem w w [none, none, none, none] [(bim, csim)] := MemX.startD w 4 _ (startD1 hb1)
  change Fr 45 a [(0, .agg (algC (p : Int) (n : Int) T f)), (1, .slice (some ⟨bim, 0, none⟩) (n) (cim))] at hF
  have hp2 := hp.two
  have hp13 := hp.le
  have hi1 : (bim, csim) ∈ [(bim, csim)] := List.mem_cons_self ..
  refine sq ?_
  refine wp_region_lit ?_
  refine stR hF (d_box 0 hM hF rfl) rfl ?_
  rintro _ w' a ⟨b1, rfl, hM, -⟩ hF
  change Mem w w' [some (b1, algC (p : Int) (n : Int) T f), none, none, none] [(bim, csim)] at hM
  refine st hF (g_assign hF rfl) rfl fun a hF => ?_
  refine wpList_nil ?_
  refine tN ?_
  refine sq ?_
  refine wp_region_lit ?_
  refine st hF (g_fieldAddr ty_fo_32_1 hF rfl) rfl fun a hF => st hF (g_load ty_on_2 hF rfl (hM.row 0 rfl) (algC_n (by omega))) rfl fun a hF => ?_
  refine stR hF (d_make1 (len := n) 1 hM hF ty_si_68 rfl rfl rfl (by omega) (by decide)) rfl ?_
  rintro _ w' a ⟨bo, rfl, hM, -⟩ hF
  change Mem w w' [some (b1, algC (p : Int) (n : Int) T f), some (bo, fnC n (fun _ => .slice none 0 0)), none, none] [(bim, csim)] at hM
  refine st hF (g_assign hF rfl) rfl fun a hF => ?_
  refine wpList_nil ?_
  refine tN ?_
  refine sq ?_
  refine sq ?_
  refine wp_region_lit ?_
  refine st hF (g_move hF rfl) rfl fun a hF => st hF (g_len ty_us_68 hF rfl) rfl fun a hF => st hF (g_move hF rfl) rfl fun a hF => ?_
  refine wpList_nil ?_
  refine tN ?_
  refine wp_block ?_
  change Mem w _ [some (b1, algC (p : Int) (n : Int) T f), some (bo, fnC n (fun _ => .slice none 0 0)), none, none] [(bim, csim)] at hM
  refine c_loop (fun (kk : Nat) a w' => kk ≤ n ∧ ∃ (D1 : Froz), ∃ (β : Nat → Nat), ∃ (cso : Array Value), (cso.size = n ∧ (∀ i, i < kk → cso[0 + i * 1]? = some (.slice (some ⟨β i, 0, none⟩) 6 6)) ∧ RowsB D1 6 kk β (padN n (fun r c => IM c r)) ∧ (∀ i, i < kk → w.heap.size ≤ β i) ∧ (bim, csim) ∈ D1) ∧ Fr 45 a [(0, .agg (algC (p : Int) (n : Int) T f)), (1, .slice (some ⟨bim, 0, none⟩) (n) (cim)), (2, ptr b1 (0)), (4, .slice none 0 0), (9, ptr b1 (0 + 1)), (10, .int .i64 (((n : Nat) : Int))), (11, .slice (some ⟨bo, 0, none⟩) (n) (n)), (5, .slice (some ⟨bo, 0, none⟩) (n) (n)), (12, .slice (some ⟨bo, 0, none⟩) (n) (n)), (13, .int .i64 (((n : Nat) : Int))), (14, .int .i64 (((kk : Nat) : Int)))] ∧ Mem w w' [some (b1, algC (p : Int) (n : Int) T f), some (bo, cso), none, none] D1) (fun kk => n - kk) 0 ?_ ?_
  ·
    refine ⟨by omega, [(bim, csim)], (fun _ => 0), (fnC n (fun _ => .slice none 0 0)), ⟨fnC_size _ _, fun i hi => absurd hi (by omega), RowsB.none, fun i hi => absurd hi (by omega), List.mem_cons_self ..⟩, hF.sub _ (by repeat' constructor), ?_⟩
    exact hM
  ·
    clear hF hM
    rintro gk a w' ⟨hgk, D1, β, cso, ⟨hso, hgo, hB, hbg, hi1⟩, hF, hM⟩
    refine sq ?_
    refine wp_region_lit ?_
    refine st hF (g_lss hF rfl rfl) rfl fun a hF => ?_
    refine wpList_nil ?_
    refine tN ?_
    refine sq ?_
    refine c_cond hF rfl (fun h3 => ?_) (fun h3 => ?_)
    ·
      refine wp_skip ?_
      refine tN ?_
      refine sq ?_
      refine wp_block ?_
      refine sq ?_
      refine wp_region_lit ?_
      refine st hF (g_move hF rfl) rfl fun a hF => st hF (g_assign hF rfl) rfl fun a hF => ?_
      refine wpList_nil ?_
      refine tN ?_
      refine sq ?_
      refine wp_region_lit ?_
      refine st hF (g_move hF rfl) rfl fun a hF => st hF (g_move hF rfl) rfl fun a hF => ?_
      refine stR hF (d_makeC (len := 6) 2 hM hF rfl rfl ty_mk_69_6) rfl ?_
      rintro _ w' a ⟨b4, rfl, hM, -⟩ hF
      change Mem w w' [some (b1, algC (p : Int) (n : Int) T f), some (bo, cso), some (b4, fnC 6 (fun _ => .int .u8 (0))), none] D1 at hM
      refine st hF (g_indexSl (i := gk) ty_sl_68 hF rfl rfl rfl (by omega)) rfl fun a hF => ?_
      refine stN hF (d_store 1 hM rfl ty_on_69 hF rfl rfl rfl (by first | omega | (simp only [fnC_size, cells_size, vecC_size, tabC_size, planeC_size, dgC_size, numC_sz, ldB_size] <;> omega))) ?_
      intro _ w' a hM hF
      change Mem w w' [some (b1, algC (p : Int) (n : Int) T f), some (bo, (cso).setIfInBounds (0 + (gk) * 1) (.slice (some ⟨b4, 0, none⟩) (6) (6))), some (b4, fnC 6 (fun _ => .int .u8 (0))), none] D1 at hM
      refine wpList_nil ?_
      refine tN ?_
      refine sq ?_
      have hself : ((cso).setIfInBounds (0 + (gk) * 1) (.slice (some ⟨b4, 0, none⟩) (6) (6)))[0 + gk * 1]? = some (.slice (some ⟨b4, 0, none⟩) 6 6) := Array.getElem?_setIfInBounds_self_of_lt (by omega)
      refine wp_region_lit ?_
      refine st hF (g_move hF rfl) rfl fun a hF => st hF (g_len ty_us_27 hF rfl) rfl fun a hF => st hF (g_move hF rfl) rfl fun a hF => ?_
      refine wpList_nil ?_
      refine tN ?_
      refine wp_block ?_
      change Mem w _ [some (b1, algC (p : Int) (n : Int) T f), some (bo, (cso).setIfInBounds (0 + (gk) * 1) (.slice (some ⟨b4, 0, none⟩) (6) (6))), some (b4, fnC 6 (fun _ => .int .u8 (0))), none] D1 at hM
      refine c_loop (fun (kk : Nat) a w' => kk ≤ n ∧ (True) ∧ Fr 45 a [(0, .agg (algC (p : Int) (n : Int) T f)), (1, .slice (some ⟨bim, 0, none⟩) (n) (cim)), (2, ptr b1 (0)), (4, .slice none 0 0), (9, ptr b1 (0 + 1)), (10, .int .i64 (((n : Nat) : Int))), (11, .slice (some ⟨bo, 0, none⟩) (n) (n)), (5, .slice (some ⟨bo, 0, none⟩) (n) (n)), (12, .slice (some ⟨bo, 0, none⟩) (n) (n)), (13, .int .i64 (((n : Nat) : Int))), (14, .int .i64 (((gk : Nat) : Int))), (15, .bool (decide ((((gk : Nat) : Int) : Int) < ((n : Nat) : Int)))), (16, .int .i64 (((gk : Nat) : Int))), (6, .int .i64 (((gk : Nat) : Int))), (17, .slice (some ⟨bo, 0, none⟩) (n) (n)), (18, .int .i64 (((gk : Nat) : Int))), (19, .slice (some ⟨b4, 0, none⟩) (6) (6)), (20, ptr bo (0 + (gk) * 1)), (21, .slice (some ⟨bim, 0, none⟩) (n) (cim)), (22, .int .i64 (((n : Nat) : Int))), (23, .int .i64 (((kk : Nat) : Int)))] ∧ Mem w w' [some (b1, algC (p : Int) (n : Int) T f), some (bo, (cso).setIfInBounds (0 + (gk) * 1) (.slice (some ⟨b4, 0, none⟩) (6) (6))), some (b4, fnC 6 (fun c => .int .u8 ((if c < kk then IM c gk else 0 : Nat) : Int))), none] D1) (fun kk => n - kk) 0 ?_ ?_
      ·
        refine ⟨by omega, trivial, hF.sub _ (by repeat' constructor), ?_⟩
        exact hM.rowc 2 rfl (fnC_congr fun c hc => by rw [if_neg (by omega)]; rfl)
      ·
        clear hF hM
        rintro gj a w' ⟨hgj, hinv2, hF, hM⟩
        have hIgj := hIp gj gk
        refine sq ?_
        refine wp_region_lit ?_
        refine st hF (g_lss hF rfl rfl) rfl fun a hF => ?_
        refine wpList_nil ?_
        refine tN ?_
        refine sq ?_
        refine c_cond hF rfl (fun h5 => ?_) (fun h5 => ?_)
        ·
          refine wp_skip ?_
          refine tN ?_
          refine sq ?_
          refine wp_block ?_
          refine sq ?_
          refine wp_region_lit ?_
          refine st hF (g_move hF rfl) rfl fun a hF => st hF (g_indexSl (i := gj) ty_sl_27 hF rfl rfl rfl (by omega)) rfl fun a hF => st hF (g_loadAgg ty_ag_30 hF rfl (hM.fzm hi1) (hs1.room (gj) (by omega)) (hs1.vec0 (V := IM) (gj) (by omega))) rfl fun a hF => ?_
          refine stR hF (d_alloc 3 hM ty_ze_30) rfl ?_
          rintro _ w' a ⟨b6, rfl, hM, -⟩ hF
          change Mem w w' [some (b1, algC (p : Int) (n : Int) T f), some (bo, (cso).setIfInBounds (0 + (gk) * 1) (.slice (some ⟨b4, 0, none⟩) (6) (6))), some (b4, fnC 6 (fun c => .int .u8 ((if c < gj then IM c gk else 0 : Nat) : Int))), some (b6, fnC 6 (fun _ => .int .u8 (0)))] D1 at hM
          refine st hF (g_assign hF rfl) rfl fun a hF => ?_
          refine stN hF (d_storeAgg 3 hM rfl ty_sz_30 hF rfl rfl (by first | exact vecC_one | exact cells_one | (refine fnC_one fun _ _ => ?_; first | rfl | (split <;> rfl))) (by simp only [fnC_size, cells_size, vecC_size, tabC_size, planeC_size, dgC_size, numC_sz, ldB_size]) (by simp only [fnC_size, cells_size, vecC_size, tabC_size, planeC_size, dgC_size, numC_sz, ldB_size] <;> omega) (splice_whole _ _ (by simp only [fnC_size, cells_size, vecC_size, tabC_size, planeC_size, dgC_size, numC_sz, ldB_size]))) ?_
          intro _ w' a hM hF
          change Mem w w' [some (b1, algC (p : Int) (n : Int) T f), some (bo, (cso).setIfInBounds (0 + (gk) * 1) (.slice (some ⟨b4, 0, none⟩) (6) (6))), some (b4, fnC 6 (fun c => .int .u8 ((if c < gj then IM c gk else 0 : Nat) : Int))), some (b6, vecC (IM (gj)))] D1 at hM
          refine wpList_nil ?_
          refine tN ?_
          refine c_par 8 [] [.val (.slice (some ⟨bo, 0, none⟩) (n) (n)), .val (.int .i64 (((gk : Nat) : Int))), .val (ptr bo (0 + (gk) * 1)), .val (.slice (some ⟨b4, 0, none⟩) (6) (6)), .val (.int .i64 (((gj : Nat) : Int))), .val (.int .i64 (((gk : Nat) : Int))), .val (ptr b6 (0 + (gk) * 1)), .val (.int .u8 ((((IM (gj)) (gk) : Nat) : Int)))] hmix rfl hF rfl hM ⟨fun a w gG hF hS hd => by exact par_val hS rfl (g_move hF rfl), fun a w gG hF hS hd => by exact par_val hS rfl (g_move hF rfl), fun a w gG hF hS hd => by have hF := hF.ext1 28 (hd 0 rfl rfl); have hF := hF.ext1 29 (hd 1 rfl rfl); exact par_val hS rfl (g_indexSl (i := gk) ty_sl_68 hF rfl rfl rfl (by omega)), fun a w gG hF hS hd => by have hF := hF.ext1 30 (hd 2 rfl rfl); have hM := hS.mem rfl; exact par_val hS rfl (g_load ty_on_69 hF rfl (hM.row 1 rfl) hself), fun a w gG hF hS hd => by exact par_val hS rfl (g_move hF rfl), fun a w gG hF hS hd => by exact par_val hS rfl (g_move hF rfl), fun a w gG hF hS hd => by have hF := hF.ext1 33 (hd 5 rfl rfl); exact par_val hS rfl (g_indexAddr ty_ar_30 hF rfl rfl rfl (by omega)), fun a w gG hF hS hd => by have hF := hF.ext1 34 (hd 6 rfl rfl); have hM := hS.mem rfl; exact par_val hS rfl (g_load ty_on_5 hF rfl (hM.row 3 rfl) (vecC_get (gk) (by omega) (by omega))), trivial⟩ ?_
          intro a w' L hF hS hq
          have hF := hF.ext1 28 (hq 0 rfl rfl)
          have hF := hF.ext1 29 (hq 1 rfl rfl)
          have hF := hF.ext1 30 (hq 2 rfl rfl)
          have hF := hF.ext1 31 (hq 3 rfl rfl)
          have hF := hF.ext1 32 (hq 4 rfl rfl)
          have hF := hF.ext1 33 (hq 5 rfl rfl)
          have hF := hF.ext1 34 (hq 6 rfl rfl)
          have hF := hF.ext1 35 (hq 7 rfl rfl)
          have hM := hS.mem rfl
          change wpList Tryd.prog _ _ [_, _] _ _
          refine st hF (g_indexSl (i := gj) ty_sl_69 hF rfl rfl rfl (by omega)) rfl fun a hF => ?_
          refine stN hF (d_store 2 hM rfl ty_on_5 hF rfl rfl rfl (by first | omega | (simp only [fnC_size, cells_size, vecC_size, tabC_size, planeC_size, dgC_size, numC_sz, ldB_size] <;> omega))) ?_
          intro _ w' a hM hF
          rw [show (fnC 6 (fun c => .int .u8 ((if c < gj then IM c gk else 0 : Nat) : Int))).setIfInBounds (0 + (gj) * 1) (.int .u8 ((((IM (gj)) (gk) : Nat) : Int))) = fnC 6 (fun c => .int .u8 (((if c = gj then (IM (gj)) (gk) else if c < gj then IM c gk else 0) : Nat) : Int)) from fnC_set (fun c _ => by rw [show 0 + (gj) * 1 = gj by omega]; by_cases hh : c = gj <;> simp [hh])] at hM
          change Mem w w' [some (b1, algC (p : Int) (n : Int) T f), some (bo, (cso).setIfInBounds (0 + (gk) * 1) (.slice (some ⟨b4, 0, none⟩) (6) (6))), some (b4, fnC 6 (fun c => .int .u8 (((if c = gj then (IM (gj)) (gk) else if c < gj then IM c gk else 0) : Nat) : Int))), some (b6, vecC (IM (gj)))] D1 at hM
          refine wpList_nil ?_
          refine iN ?_
          refine tN ?_
          refine wp_region_lit ?_
          refine st hF (g_add hF rfl rfl (add_nat (gj) (1) (by omega))) rfl fun a hF => st hF (g_move hF rfl) rfl fun a hF => ?_
          refine wpList_nil ?_
          refine tN ?_
          have hM := hM.drop 3
          refine ⟨gj + 1, ⟨by omega, trivial, hF.sub _ (by repeat' constructor), ?_⟩, by omega⟩
          refine hM.rowc 2 rfl (fnC_congr fun c hc => congrArg (Value.int .u8) (congrArg Nat.cast ?_))
          by_cases e1 : c = gj
          · simp [e1]
          · have e0 : (c < gj + 1) = (c < gj) := by apply propext; omega
            simp [e0, e1]
        ·
          obtain rfl : n = gj := by omega
          refine wp_exit ?_
          refine tX ?_
          refine tX ?_
          refine ib_same ?_
          refine iN ?_
          refine tN ?_
          refine wp_region_lit ?_
          refine st hF (g_add hF rfl rfl (add_nat (gk) (1) (by omega))) rfl fun a hF => st hF (g_move hF rfl) rfl fun a hF => ?_
          refine wpList_nil ?_
          refine tN ?_
          have hgb := hM.ge 2 rfl
          have hnb := fun i hi => (hM.froz _ _ (hB.mem i hi)).2 2 b4 _ rfl
          have hM := hM.freeze 2 rfl
          have hB := ((hB.more (D' := (b4, fnC 6 (fun c => .int .u8 ((if c < n then IM c gk else 0 : Nat) : Int))) :: D1) (fun x hx => List.mem_cons_of_mem _ hx)).snoc (r := (padN n (fun r c => IM c r)) gk) rfl (List.mem_cons_self ..) hnb).congr (M' := (padN n (fun r c => IM c r))) (fun i hi c hc => by
            by_cases e : i = gk <;> simp [upE, e])
          have hgo : ∀ i, i < gk + 1 → ((cso).setIfInBounds (0 + (gk) * 1) (.slice (some ⟨b4, 0, none⟩) (6) (6)))[0 + i * 1]? = some (.slice (some ⟨up β gk b4 i, 0, none⟩) 6 6) := fun i hi => by
            unfold up
            by_cases e : i = gk
            · rw [if_pos e, e]; exact hself
            · rw [if_neg e, Array.getElem?_setIfInBounds_ne (by omega)]; exact hgo i (by omega)
          have hbg : ∀ i, i < gk + 1 → w.heap.size ≤ up β gk b4 i := fun i hi => by
            unfold up; split
            · exact hgb
            · exact hbg i (by omega)
          refine ⟨gk + 1, ⟨by omega, ((b4, fnC 6 (fun c => .int .u8 ((if c < n then IM c gk else 0 : Nat) : Int))) :: D1), (up β gk b4), ((cso).setIfInBounds (0 + (gk) * 1) (.slice (some ⟨b4, 0, none⟩) (6) (6))), ⟨by rw [Array.size_setIfInBounds]; exact hso, hgo, hB, hbg, List.mem_cons_of_mem _ hi1⟩, hF.sub _ (by repeat' constructor), ?_⟩, by omega⟩
          exact hM
    ·
      obtain rfl : n = gk := by omega
      refine wp_exit ?_
      refine tX ?_
      refine tX ?_
      refine ib_same ?_
      refine tN ?_
      refine sq ?_
      have hgeq := hM.ge 1 rfl
      have hnbq : ∀ i, i < n → β i ≠ bo := fun i hi e => (hM.froz _ _ (hB.mem i hi)).2 1 bo _ rfl e.symm
      have hM := hM.freeze 1 rfl
      change Mem w _ [some (b1, algC (p : Int) (n : Int) T f), none, none, none] ((bo, cso) :: D1) at hM
      refine wp_region_lit ?_
      refine st hF (g_move hF rfl) rfl fun a hF => st hF (g_fieldAddr ty_fo_32_1 hF rfl) rfl fun a hF => st hF (g_load ty_on_2 hF rfl (hM.row 0 rfl) (algC_n (by omega))) rfl fun a hF => st hF (g_fieldAddr ty_fo_32_0 hF rfl) rfl fun a hF => st hF (g_load ty_on_2 hF rfl (hM.row 0 rfl) (algC_p (by omega))) rfl fun a hF => ?_
      have hszc := hM.bel.size
      refine stR hF (d_callX Tryd.call47 hF (.cons rfl (.cons rfl (.cons rfl .nil))) (kernelOf_ok p n n bo n cso β (padN n (fun r c => IM c r)) _ hp hn0 hn (by omega) (by omega) (fun i c => by unfold padN; split; exact hIp c i; omega) (fun i _ c hc _ => padN_ge hc) (hM.fzm (List.mem_cons_self ..)) (by omega) (fun i hi => hgo i hi) (fun i hi => hM.fzm (List.mem_cons_of_mem _ (hB.mem i hi))) hB.inj hnbq (fun k E ld h1 h2 => hne k E ld h1 (fun x => (h2 x).trans (ker_same (fun i _ c hc => padN_lt (n := n) (E := (fun r c => IM c r)) (i := i) (c := c) hc)))) (fun r V h1 => hpos r V (isKer_same (fun i _ c hc => padN_lt (n := n) (E := (fun r c => IM c r)) (i := i) (c := c) hc) h1)))) rfl ?_
      rintro u w' a ⟨hx, r, V, hIK, hVz, hrn, hown⟩ hF
      have hown2 := ownSl_le hszc hown
      have hM := hM.swapD (D' := []) hx (rowsX_all (Q := fun y => ∃ cs, (y, cs) ∈ (bo, cso) :: D1) ⟨_, List.mem_cons_self ..⟩ (fun i hi => ⟨_, List.mem_cons_of_mem _ (hB.mem i hi)⟩)) (rowsX_all (Q := fun y => w.heap.size ≤ y ∨ y ∈ []) (.inl hgeq) (fun i hi => .inl (hbg i hi))) (fun _ _ h => by cases h)
      change Mem w w' [some (b1, algC (p : Int) (n : Int) T f), none, none, none] [] at hM
      refine st hF (g_assign hF rfl) rfl fun a hF => ?_
      refine wpList_nil ?_
      refine tN ?_
      refine wp_ret ?_
      refine fin1 rfl hF.defers (res_tmp hF rfl) ⟨_, rfl, hM.below, ?_⟩
      exact ⟨r, V, isKer_same (fun i _ c hc => padN_lt (n := n) (E := (fun r c => IM c r)) (i := i) (c := c) hc) hIK, hVz, hrn, hown2⟩

theorem kernelOfMap_Z (p n : Nat) (T : Nat → Nat → Nat → Nat) (f : Nat → Nat) (bim cim : Nat) (csim : Array Value) (IM : Nat → Nat → Nat) (w : World) (hp : primeN p) (hn0 : 0 < n) (hn : n ≤ 6) (hIp : ∀ i c, IM i c < p) (hs1 : SlAt 6 (.slice (some ⟨bim, 0, none⟩) n cim) (some (bim, csim)) n bim cim csim (fun c => .int .u8 ((IM (c / 6) (c % 6) : Nat) : Int))) (hb1 : Blk w bim csim) (hzk : ∀ k E ld, Rref p n E k ld → (∀ x, Ker p n E k x ↔ Ker p n (fun r c => IM c r) n x) → nf k ld n = 0) :
    CallsR Tryd.prog 31 #[.agg (algC (p : Int) (n : Int) T f), .slice (some ⟨bim, 0, none⟩) (n) (cim)] w (fun res _ => res = .slice none 0 0) := by
  refine calls_fr [.agg (algC (p : Int) (n : Int) T f), .slice (some ⟨bim, 0, none⟩) (n) (cim)] Tryd.func31 rfl Tryd.ntmps31 rfl fun a hF => ?_
  have hM : Mem w w [none, none, none, none] [(bim, csim)] := MemX.startD w 4 _ (startD1 hb1)
  change Fr 45 a [(0, .agg (algC (p : Int) (n : Int) T f)), (1, .slice (some ⟨bim, 0, none⟩) (n) (cim))] at hF
  have hp2 := hp.two
  have hp13 := hp.le
  have hi1 : (bim, csim) ∈ [(bim, csim)] := List.mem_cons_self ..
  refine sq ?_
  refine wp_region_lit ?_
  refine stR hF (d_box 0 hM hF rfl) rfl ?_
  rintro _ w' a ⟨b1, rfl, hM, -⟩ hF
  change Mem w w' [some (b1, algC (p : Int) (n : Int) T f), none, none, none] [(bim, csim)] at hM
  refine st hF (g_assign hF rfl) rfl fun a hF => ?_
  refine wpList_nil ?_
  refine tN ?_
  refine sq ?_
  refine wp_region_lit ?_
  refine st hF (g_fieldAddr ty_fo_32_1 hF rfl) rfl fun a hF => st hF (g_load ty_on_2 hF rfl (hM.row 0 rfl) (algC_n (by omega))) rfl fun a hF => ?_
  refine stR hF (d_make1 (len := n) 1 hM hF ty_si_68 rfl rfl rfl (by omega) (by decide)) rfl ?_
  rintro _ w' a ⟨bo, rfl, hM, -⟩ hF
  change Mem w w' [some (b1, algC (p : Int) (n : Int) T f), some (bo, fnC n (fun _ => .slice none 0 0)), none, none] [(bim, csim)] at hM
  refine st hF (g_assign hF rfl) rfl fun a hF => ?_
  refine wpList_nil ?_
  refine tN ?_
  refine sq ?_
  refine sq ?_
  refine wp_region_lit ?_
  refine st hF (g_move hF rfl) rfl fun a hF => st hF (g_len ty_us_68 hF rfl) rfl fun a hF => st hF (g_move hF rfl) rfl fun a hF => ?_
  refine wpList_nil ?_
  refine tN ?_
  refine wp_block ?_
  change Mem w _ [some (b1, algC (p : Int) (n : Int) T f), some (bo, fnC n (fun _ => .slice none 0 0)), none, none] [(bim, csim)] at hM
  refine c_loop (fun (kk : Nat) a w' => kk ≤ n ∧ ∃ (D1 : Froz), ∃ (β : Nat → Nat), ∃ (cso : Array Value), (cso.size = n ∧ (∀ i, i < kk → cso[0 + i * 1]? = some (.slice (some ⟨β i, 0, none⟩) 6 6)) ∧ RowsB D1 6 kk β (padN n (fun r c => IM c r)) ∧ (∀ i, i < kk → w.heap.size ≤ β i) ∧ (bim, csim) ∈ D1) ∧ Fr 45 a [(0, .agg (algC (p : Int) (n : Int) T f)), (1, .slice (some ⟨bim, 0, none⟩) (n) (cim)), (2, ptr b1 (0)), (4, .slice none 0 0), (9, ptr b1 (0 + 1)), (10, .int .i64 (((n : Nat) : Int))), (11, .slice (some ⟨bo, 0, none⟩) (n) (n)), (5, .slice (some ⟨bo, 0, none⟩) (n) (n)), (12, .slice (some ⟨bo, 0, none⟩) (n) (n)), (13, .int .i64 (((n : Nat) : Int))), (14, .int .i64 (((kk : Nat) : Int)))] ∧ Mem w w' [some (b1, algC (p : Int) (n : Int) T f), some (bo, cso), none, none] D1) (fun kk => n - kk) 0 ?_ ?_
  ·
    refine ⟨by omega, [(bim, csim)], (fun _ => 0), (fnC n (fun _ => .slice none 0 0)), ⟨fnC_size _ _, fun i hi => absurd hi (by omega), RowsB.none, fun i hi => absurd hi (by omega), List.mem_cons_self ..⟩, hF.sub _ (by repeat' constructor), ?_⟩
    exact hM
  ·
    clear hF hM
    rintro gk a w' ⟨hgk, D1, β, cso, ⟨hso, hgo, hB, hbg, hi1⟩, hF, hM⟩
    refine sq ?_
    refine wp_region_lit ?_
    refine st hF (g_lss hF rfl rfl) rfl fun a hF => ?_
    refine wpList_nil ?_
    refine tN ?_
    refine sq ?_
    refine c_cond hF rfl (fun h3 => ?_) (fun h3 => ?_)
    ·
      refine wp_skip ?_
      refine tN ?_
      refine sq ?_
      refine wp_block ?_
      refine sq ?_
      refine wp_region_lit ?_
      refine st hF (g_move hF rfl) rfl fun a hF => st hF (g_assign hF rfl) rfl fun a hF => ?_
      refine wpList_nil ?_
      refine tN ?_
      refine sq ?_
      refine wp_region_lit ?_
      refine st hF (g_move hF rfl) rfl fun a hF => st hF (g_move hF rfl) rfl fun a hF => ?_
      refine stR hF (d_makeC (len := 6) 2 hM hF rfl rfl ty_mk_69_6) rfl ?_
      rintro _ w' a ⟨b4, rfl, hM, -⟩ hF
      change Mem w w' [some (b1, algC (p : Int) (n : Int) T f), some (bo, cso), some (b4, fnC 6 (fun _ => .int .u8 (0))), none] D1 at hM
      refine st hF (g_indexSl (i := gk) ty_sl_68 hF rfl rfl rfl (by omega)) rfl fun a hF => ?_
      refine stN hF (d_store 1 hM rfl ty_on_69 hF rfl rfl rfl (by first | omega | (simp only [fnC_size, cells_size, vecC_size, tabC_size, planeC_size, dgC_size, numC_sz, ldB_size] <;> omega))) ?_
      intro _ w' a hM hF
      change Mem w w' [some (b1, algC (p : Int) (n : Int) T f), some (bo, (cso).setIfInBounds (0 + (gk) * 1) (.slice (some ⟨b4, 0, none⟩) (6) (6))), some (b4, fnC 6 (fun _ => .int .u8 (0))), none] D1 at hM
      refine wpList_nil ?_
      refine tN ?_
      refine sq ?_
      have hself : ((cso).setIfInBounds (0 + (gk) * 1) (.slice (some ⟨b4, 0, none⟩) (6) (6)))[0 + gk * 1]? = some (.slice (some ⟨b4, 0, none⟩) 6 6) := Array.getElem?_setIfInBounds_self_of_lt (by omega)
      refine wp_region_lit ?_
      refine st hF (g_move hF rfl) rfl fun a hF => st hF (g_len ty_us_27 hF rfl) rfl fun a hF => st hF (g_move hF rfl) rfl fun a hF => ?_
      refine wpList_nil ?_
      refine tN ?_
      refine wp_block ?_
      change Mem w _ [some (b1, algC (p : Int) (n : Int) T f), some (bo, (cso).setIfInBounds (0 + (gk) * 1) (.slice (some ⟨b4, 0, none⟩) (6) (6))), some (b4, fnC 6 (fun _ => .int .u8 (0))), none] D1 at hM
      refine c_loop (fun (kk : Nat) a w' => kk ≤ n ∧ (True) ∧ Fr 45 a [(0, .agg (algC (p : Int) (n : Int) T f)), (1, .slice (some ⟨bim, 0, none⟩) (n) (cim)), (2, ptr b1 (0)), (4, .slice none 0 0), (9, ptr b1 (0 + 1)), (10, .int .i64 (((n : Nat) : Int))), (11, .slice (some ⟨bo, 0, none⟩) (n) (n)), (5, .slice (some ⟨bo, 0, none⟩) (n) (n)), (12, .slice (some ⟨bo, 0, none⟩) (n) (n)), (13, .int .i64 (((n : Nat) : Int))), (14, .int .i64 (((gk : Nat) : Int))), (15, .bool (decide ((((gk : Nat) : Int) : Int) < ((n : Nat) : Int)))), (16, .int .i64 (((gk : Nat) : Int))), (6, .int .i64 (((gk : Nat) : Int))), (17, .slice (some ⟨bo, 0, none⟩) (n) (n)), (18, .int .i64 (((gk : Nat) : Int))), (19, .slice (some ⟨b4, 0, none⟩) (6) (6)), (20, ptr bo (0 + (gk) * 1)), (21, .slice (some ⟨bim, 0, none⟩) (n) (cim)), (22, .int .i64 (((n : Nat) : Int))), (23, .int .i64 (((kk : Nat) : Int)))] ∧ Mem w w' [some (b1, algC (p : Int) (n : Int) T f), some (bo, (cso).setIfInBounds (0 + (gk) * 1) (.slice (some ⟨b4, 0, none⟩) (6) (6))), some (b4, fnC 6 (fun c => .int .u8 ((if c < kk then IM c gk else 0 : Nat) : Int))), none] D1) (fun kk => n - kk) 0 ?_ ?_
      ·
        refine ⟨by omega, trivial, hF.sub _ (by repeat' constructor), ?_⟩
        exact hM.rowc 2 rfl (fnC_congr fun c hc => by rw [if_neg (by omega)]; rfl)
      ·
        clear hF hM
        rintro gj a w' ⟨hgj, hinv2, hF, hM⟩
        have hIgj := hIp gj gk
        refine sq ?_
        refine wp_region_lit ?_
        refine st hF (g_lss hF rfl rfl) rfl fun a hF => ?_
        refine wpList_nil ?_
        refine tN ?_
        refine sq ?_
        refine c_cond hF rfl (fun h5 => ?_) (fun h5 => ?_)
        ·
          refine wp_skip ?_
          refine tN ?_
          refine sq ?_
          refine wp_block ?_
          refine sq ?_
          refine wp_region_lit ?_
          refine st hF (g_move hF rfl) rfl fun a hF => st hF (g_indexSl (i := gj) ty_sl_27 hF rfl rfl rfl (by omega)) rfl fun a hF => st hF (g_loadAgg ty_ag_30 hF rfl (hM.fzm hi1) (hs1.room (gj) (by omega)) (hs1.vec0 (V := IM) (gj) (by omega))) rfl fun a hF => ?_
          refine stR hF (d_alloc 3 hM ty_ze_30) rfl ?_
          rintro _ w' a ⟨b6, rfl, hM, -⟩ hF
          change Mem w w' [some (b1, algC (p : Int) (n : Int) T f), some (bo, (cso).setIfInBounds (0 + (gk) * 1) (.slice (some ⟨b4, 0, none⟩) (6) (6))), some (b4, fnC 6 (fun c => .int .u8 ((if c < gj then IM c gk else 0 : Nat) : Int))), some (b6, fnC 6 (fun _ => .int .u8 (0)))] D1 at hM
          refine st hF (g_assign hF rfl) rfl fun a hF => ?_
          refine stN hF (d_storeAgg 3 hM rfl ty_sz_30 hF rfl rfl (by first | exact vecC_one | exact cells_one | (refine fnC_one fun _ _ => ?_; first | rfl | (split <;> rfl))) (by simp only [fnC_size, cells_size, vecC_size, tabC_size, planeC_size, dgC_size, numC_sz, ldB_size]) (by simp only [fnC_size, cells_size, vecC_size, tabC_size, planeC_size, dgC_size, numC_sz, ldB_size] <;> omega) (splice_whole _ _ (by simp only [fnC_size, cells_size, vecC_size, tabC_size, planeC_size, dgC_size, numC_sz, ldB_size]))) ?_
          intro _ w' a hM hF
          change Mem w w' [some (b1, algC (p : Int) (n : Int) T f), some (bo, (cso).setIfInBounds (0 + (gk) * 1) (.slice (some ⟨b4, 0, none⟩) (6) (6))), some (b4, fnC 6 (fun c => .int .u8 ((if c < gj then IM c gk else 0 : Nat) : Int))), some (b6, vecC (IM (gj)))] D1 at hM
          refine wpList_nil ?_
          refine tN ?_
          refine c_par 8 [] [.val (.slice (some ⟨bo, 0, none⟩) (n) (n)), .val (.int .i64 (((gk : Nat) : Int))), .val (ptr bo (0 + (gk) * 1)), .val (.slice (some ⟨b4, 0, none⟩) (6) (6)), .val (.int .i64 (((gj : Nat) : Int))), .val (.int .i64 (((gk : Nat) : Int))), .val (ptr b6 (0 + (gk) * 1)), .val (.int .u8 ((((IM (gj)) (gk) : Nat) : Int)))] hmix rfl hF rfl hM ⟨fun a w gG hF hS hd => by exact par_val hS rfl (g_move hF rfl), fun a w gG hF hS hd => by exact par_val hS rfl (g_move hF rfl), fun a w gG hF hS hd => by have hF := hF.ext1 28 (hd 0 rfl rfl); have hF := hF.ext1 29 (hd 1 rfl rfl); exact par_val hS rfl (g_indexSl (i := gk) ty_sl_68 hF rfl rfl rfl (by omega)), fun a w gG hF hS hd => by have hF := hF.ext1 30 (hd 2 rfl rfl); have hM := hS.mem rfl; exact par_val hS rfl (g_load ty_on_69 hF rfl (hM.row 1 rfl) hself), fun a w gG hF hS hd => by exact par_val hS rfl (g_move hF rfl), fun a w gG hF hS hd => by exact par_val hS rfl (g_move hF rfl), fun a w gG hF hS hd => by have hF := hF.ext1 33 (hd 5 rfl rfl); exact par_val hS rfl (g_indexAddr ty_ar_30 hF rfl rfl rfl (by omega)), fun a w gG hF hS hd => by have hF := hF.ext1 34 (hd 6 rfl rfl); have hM := hS.mem rfl; exact par_val hS rfl (g_load ty_on_5 hF rfl (hM.row 3 rfl) (vecC_get (gk) (by omega) (by omega))), trivial⟩ ?_
          intro a w' L hF hS hq
          have hF := hF.ext1 28 (hq 0 rfl rfl)
          have hF := hF.ext1 29 (hq 1 rfl rfl)
          have hF := hF.ext1 30 (hq 2 rfl rfl)
          have hF := hF.ext1 31 (hq 3 rfl rfl)
          have hF := hF.ext1 32 (hq 4 rfl rfl)
          have hF := hF.ext1 33 (hq 5 rfl rfl)
          have hF := hF.ext1 34 (hq 6 rfl rfl)
          have hF := hF.ext1 35 (hq 7 rfl rfl)
          have hM := hS.mem rfl
          change wpList Tryd.prog _ _ [_, _] _ _
          refine st hF (g_indexSl (i := gj) ty_sl_69 hF rfl rfl rfl (by omega)) rfl fun a hF => ?_
          refine stN hF (d_store 2 hM rfl ty_on_5 hF rfl rfl rfl (by first | omega | (simp only [fnC_size, cells_size, vecC_size, tabC_size, planeC_size, dgC_size, numC_sz, ldB_size] <;> omega))) ?_
          intro _ w' a hM hF
          rw [show (fnC 6 (fun c => .int .u8 ((if c < gj then IM c gk else 0 : Nat) : Int))).setIfInBounds (0 + (gj) * 1) (.int .u8 ((((IM (gj)) (gk) : Nat) : Int))) = fnC 6 (fun c => .int .u8 (((if c = gj then (IM (gj)) (gk) else if c < gj then IM c gk else 0) : Nat) : Int)) from fnC_set (fun c _ => by rw [show 0 + (gj) * 1 = gj by omega]; by_cases hh : c = gj <;> simp [hh])] at hM
          change Mem w w' [some (b1, algC (p : Int) (n : Int) T f), some (bo, (cso).setIfInBounds (0 + (gk) * 1) (.slice (some ⟨b4, 0, none⟩) (6) (6))), some (b4, fnC 6 (fun c => .int .u8 (((if c = gj then (IM (gj)) (gk) else if c < gj then IM c gk else 0) : Nat) : Int))), some (b6, vecC (IM (gj)))] D1 at hM
          refine wpList_nil ?_
          refine iN ?_
          refine tN ?_
          refine wp_region_lit ?_
          refine st hF (g_add hF rfl rfl (add_nat (gj) (1) (by omega))) rfl fun a hF => st hF (g_move hF rfl) rfl fun a hF => ?_
          refine wpList_nil ?_
          refine tN ?_
          have hM := hM.drop 3
          refine ⟨gj + 1, ⟨by omega, trivial, hF.sub _ (by repeat' constructor), ?_⟩, by omega⟩
          refine hM.rowc 2 rfl (fnC_congr fun c hc => congrArg (Value.int .u8) (congrArg Nat.cast ?_))
          by_cases e1 : c = gj
          · simp [e1]
          · have e0 : (c < gj + 1) = (c < gj) := by apply propext; omega
            simp [e0, e1]
        ·
          obtain rfl : n = gj := by omega
          refine wp_exit ?_
          refine tX ?_
          refine tX ?_
          refine ib_same ?_
          refine iN ?_
          refine tN ?_
          refine wp_region_lit ?_
          refine st hF (g_add hF rfl rfl (add_nat (gk) (1) (by omega))) rfl fun a hF => st hF (g_move hF rfl) rfl fun a hF => ?_
          refine wpList_nil ?_
          refine tN ?_
          have hgb := hM.ge 2 rfl
          have hnb := fun i hi => (hM.froz _ _ (hB.mem i hi)).2 2 b4 _ rfl
          have hM := hM.freeze 2 rfl
          have hB := ((hB.more (D' := (b4, fnC 6 (fun c => .int .u8 ((if c < n then IM c gk else 0 : Nat) : Int))) :: D1) (fun x hx => List.mem_cons_of_mem _ hx)).snoc (r := (padN n (fun r c => IM c r)) gk) rfl (List.mem_cons_self ..) hnb).congr (M' := (padN n (fun r c => IM c r))) (fun i hi c hc => by
            by_cases e : i = gk <;> simp [upE, e])
          have hgo : ∀ i, i < gk + 1 → ((cso).setIfInBounds (0 + (gk) * 1) (.slice (some ⟨b4, 0, none⟩) (6) (6)))[0 + i * 1]? = some (.slice (some ⟨up β gk b4 i, 0, none⟩) 6 6) := fun i hi => by
            unfold up
            by_cases e : i = gk
            · rw [if_pos e, e]; exact hself
            · rw [if_neg e, Array.getElem?_setIfInBounds_ne (by omega)]; exact hgo i (by omega)
          have hbg : ∀ i, i < gk + 1 → w.heap.size ≤ up β gk b4 i := fun i hi => by
            unfold up; split
            · exact hgb
            · exact hbg i (by omega)
          refine ⟨gk + 1, ⟨by omega, ((b4, fnC 6 (fun c => .int .u8 ((if c < n then IM c gk else 0 : Nat) : Int))) :: D1), (up β gk b4), ((cso).setIfInBounds (0 + (gk) * 1) (.slice (some ⟨b4, 0, none⟩) (6) (6))), ⟨by rw [Array.size_setIfInBounds]; exact hso, hgo, hB, hbg, List.mem_cons_of_mem _ hi1⟩, hF.sub _ (by repeat' constructor), ?_⟩, by omega⟩
          exact hM
    ·
      obtain rfl : n = gk := by omega
      refine wp_exit ?_
      refine tX ?_
      refine tX ?_
      refine ib_same ?_
      refine tN ?_
      refine sq ?_
      have hgeq := hM.ge 1 rfl
      have hnbq : ∀ i, i < n → β i ≠ bo := fun i hi e => (hM.froz _ _ (hB.mem i hi)).2 1 bo _ rfl e.symm
      have hM := hM.freeze 1 rfl
      change Mem w _ [some (b1, algC (p : Int) (n : Int) T f), none, none, none] ((bo, cso) :: D1) at hM
      refine wp_region_lit ?_
      refine st hF (g_move hF rfl) rfl fun a hF => st hF (g_fieldAddr ty_fo_32_1 hF rfl) rfl fun a hF => st hF (g_load ty_on_2 hF rfl (hM.row 0 rfl) (algC_n (by omega))) rfl fun a hF => st hF (g_fieldAddr ty_fo_32_0 hF rfl) rfl fun a hF => st hF (g_load ty_on_2 hF rfl (hM.row 0 rfl) (algC_p (by omega))) rfl fun a hF => ?_
      have hszc := hM.bel.size
      refine stR hF (d_callX Tryd.call47 hF (.cons rfl (.cons rfl (.cons rfl .nil))) (kernelOf_Z p n n bo n cso β (padN n (fun r c => IM c r)) _ hp hn0 hn (by omega) (by omega) (fun i c => by unfold padN; split; exact hIp c i; omega) (fun i _ c hc _ => padN_ge hc) (hM.fzm (List.mem_cons_self ..)) (by omega) (fun i hi => hgo i hi) (fun i hi => hM.fzm (List.mem_cons_of_mem _ (hB.mem i hi))) hB.inj hnbq (fun k E ld h1 h2 => hzk k E ld h1 (fun x => (h2 x).trans (ker_same (fun i _ c hc => padN_lt (n := n) (E := (fun r c => IM c r)) (i := i) (c := c) hc)))))) rfl ?_
      rintro _ w' a ⟨hx, rfl⟩ hF
      have hM := hM.swapD (D' := []) hx (rowsX_all (Q := fun y => ∃ cs, (y, cs) ∈ (bo, cso) :: D1) ⟨_, List.mem_cons_self ..⟩ (fun i hi => ⟨_, List.mem_cons_of_mem _ (hB.mem i hi)⟩)) (rowsX_all (Q := fun y => w.heap.size ≤ y ∨ y ∈ []) (.inl hgeq) (fun i hi => .inl (hbg i hi))) (fun _ _ h => by cases h)
      change Mem w w' [some (b1, algC (p : Int) (n : Int) T f), none, none, none] [] at hM
      refine st hF (g_assign hF rfl) rfl fun a hF => ?_
      refine wpList_nil ?_
      refine tN ?_
      refine wp_ret ?_
      refine fin1 rfl hF.defers (res_tmp hF rfl) ⟨_, rfl, hM.below, ?_⟩
      show _ = _
      rfl

end Go.Proofs.YtfencffdhenjdaaDoor
