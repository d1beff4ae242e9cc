/- What functions of the program return, as walks over their operations; no statement of the seat is proved here. -/
import Derived.Test.YtbeodbfbfbefkaaDoorH3
import Derived.Test.YtbeodbfbfbefkaaDoorSw17
set_option linter.unusedVariables false
set_option linter.unusedSimpArgs false
namespace Go.Proofs.YtbeodbfbfbefkaaDoor
open Go Go.RowKit Go.Sw Go.Ech
theorem ty_us_81 : Tryd.prog.underlying 81 = some (.slice 85) := by kernel_rfl
theorem ty_sl_81 : sliceOf Tryd.prog 81 = some 1 := by kernel_rfl
theorem ty_on_85 : oneP Tryd.prog 85 = true := by kernel_rfl
theorem ty_sz_85 : sizeP Tryd.prog 85 = some 1 := by kernel_rfl
theorem addN_self {p : Nat} {f : Nat → Nat} {v c : Nat} : addN p f f ((v : Int) - 1) c = f c * v % p := by
  unfold addN
  rw [show (f c : Int) + ((v : Int) - 1) * (f c : Int) = ((f c * v : Nat) : Int) by rw [Int.natCast_mul]; grind, ← Int.natCast_emod]
  rfl
theorem addN_neg {p : Nat} {f h : Nat → Nat} {k c : Nat} : addN p f h (-(k : Int)) c = lsM p f h k c := by
  unfold addN lsM
  rw [show (f c : Int) + -(k : Int) * (h c : Int) = (f c : Int) - (k : Int) * (h c : Int) by grind]
def mixM (p : Nat) (M : Nat → Nat → Nat) (d t : Nat) (sc : Nat → Nat) (g i : Nat) : Nat → Nat := if i < g ∧ i ≠ d then lsM p (M i) sc (M i t) else if i = d then sc else M i
theorem mixM_zero {p d t : Nat} {M : Nat → Nat → Nat} {sc : Nat → Nat} (i : Nat) : upE M d sc i = mixM p M d t sc 0 i := by
  by_cases e : i = d <;> simp [upE, mixM, e]
theorem mixM_step {p d t g : Nat} {M : Nat → Nat → Nat} {sc : Nat → Nat} (hg : g ≠ d) (i : Nat) : upE (mixM p M d t sc g) g (lsM p (M g) sc (M g t)) i = mixM p M d t sc (g + 1) i := by
  by_cases e : i = g
  · simp [upE, mixM, e, hg]
  · have e0 : (i < g + 1) = (i < g) := by apply propext; omega
    simp [upE, mixM, e, e0]
theorem mixM_skip {p d t : Nat} {M : Nat → Nat → Nat} {sc : Nat → Nat} (i : Nat) : mixM p M d t sc d i = mixM p M d t sc (d + 1) i := by
  by_cases e : i = d
  · simp [mixM, e]
  · have e0 : (i < d + 1) = (i < d) := by apply propext; omega
    simp [mixM, e, e0]
theorem mixM_all {p d t m i : Nat} {M : Nat → Nat → Nat} {sc : Nat → Nat} (hi : i < m) : mixM p M d t sc m i = elimM p M d t sc i := by
  by_cases e : i = d <;> simp [mixM, elimM, e, hi]
theorem parS_val {P : Program} {o : Oper} {a : Act} {w : World} {S : Bool → World → Prop} {b : Bool} {v : Value} (hS : S b w) (hg : Gives P o a w v) : Does P o a w (fun u w' => S b w' ∧ u = v) :=
  hg.mono fun _ _ ⟨h1, h2⟩ => ⟨h2 ▸ hS, h1⟩
theorem parS_call {P : Program} {o : Oper} {a : Act} {w : World} {S : Bool → World → Prop} {b : Bool} {v : Value} (hS : ∀ w', Ext w w' → S b w') (hg : Does P o a w (fun u w' => Ext w w' ∧ u = v)) : Does P o a w (fun u w' => S b w' ∧ u = v) :=
  hg.mono fun _ _ ⟨h1, h2⟩ => ⟨hS _ h1, h2⟩
def vAt (l : List Value) (i : Nat) (v : Value) : Prop := v = l.getD i undef

theorem reduceRows_ok (p N m b0 c0 : Nat) (cs0 : Array Value) (γ : Nat → Nat) (M : Nat → Nat → Nat) (w : World) (hp : primeN p) (hN : 0 < N) (hN2 : N < 100) (hm2 : m < 1000) (hmc : m ≤ c0) (hM1 : ∀ i c, M i c < p) (hb0 : Blk w b0 cs0) (hsz0 : m ≤ cs0.size) (hg0 : ∀ i, i < m → cs0[0 + i * 1]? = some (.slice (some ⟨γ i, 0, none⟩) N N)) (hbr : ∀ i, i < m → Blk w (γ i) (fnC N (fun c => .int .u8 ((M i c : Nat) : Int)))) (hinj : ∀ i j, i < m → j < m → γ i = γ j → i = j) (hne0 : ∀ i, i < m → γ i ≠ b0) :
    CallsX Tryd.prog (rowsX b0 m γ) 94 #[.slice (some ⟨b0, 0, none⟩) (m) (c0), .int .i64 (((p : Nat) : Int))] w (fun u w' => ∃ (k : Nat) (M' : Nat → Nat → Nat) (γ' : Nat → Nat) (ld : Nat → Nat) (cs' : Array Value), u = .slice (some ⟨b0, 0, none⟩) k c0 ∧ k ≤ m ∧ Rref p N M' k ld ∧ (∀ x, Ker p N M' k x ↔ Ker p N M m x) ∧ (∀ i c, M' i c < p) ∧ Blk w' b0 cs' ∧ (∀ i, i < m → cs'[0 + i * 1]? = some (.slice (some ⟨γ' i, 0, none⟩) N N)) ∧ (∀ i, i < m → Blk w' (γ' i) (fnC N (fun c => .int .u8 ((M' i c : Nat) : Int)))) ∧ (∀ i, i < m → w.heap.size ≤ γ' i ∨ γ' i ∈ rowsX b0 m γ)) := by
  refine calls_frX [.slice (some ⟨b0, 0, none⟩) (m) (c0), .int .i64 (((p : Nat) : Int))] Tryd.func94 rfl Tryd.ntmps94 rfl fun a hF => ?_
  obtain ⟨hM, hRL0, hL0⟩ := MemX.startRows hb0 hbr hinj hne0
  have hp2 := hp.two
  have hp13 := hp.le
  change Fr 97 a [(0, .slice (some ⟨b0, 0, none⟩) (m) (c0)), (1, .int .i64 (((p : Nat) : Int)))] at hF
  refine sq (wp_region_lit ?_)
  refine st hF (g_assign hF rfl) rfl fun a hF => ?_
  refine wpList_nil (tN (sq (wp_region_lit ?_)))
  refine st hF (g_assign hF rfl) rfl fun a hF => ?_
  refine wpList_nil (tN (sq (wp_block ?_)))
  change MemX (rowsX b0 m γ) w _ (rowsL0 b0 cs0 N m γ M) [] at hM
  refine c_loop (fun (kk : Nat) a w' => kk ≤ m ∧ ∃ (L1 : Own), ∃ (γ1 : Nat → Nat), ∃ (pos1 : Nat → Nat), ∃ (M1 : Nat → Nat → Nat), ∃ (cs1 : Array Value), ∃ (ld : Nat → Nat), (L1[0]? = some (some (b0, cs1)) ∧ m ≤ cs1.size ∧ (∀ i, i < m → cs1[0 + i * 1]? = some (.slice (some ⟨γ1 i, 0, none⟩) N N)) ∧ RowsL L1 N m γ1 pos1 M1 ∧ Red p N m M1 kk ld ∧ (∀ x, Ker p N M1 m x ↔ Ker p N M m x) ∧ (∀ i c, M1 i c < p) ∧ (∀ i, i < m → w.heap.size ≤ γ1 i ∨ γ1 i ∈ (rowsX b0 m γ))) ∧ Fr 97 a [(0, .slice (some ⟨b0, 0, none⟩) (m) (c0)), (1, .int .i64 (((p : Nat) : Int))), (4, .slice none 0 0), (5, .int .i64 (((kk : Nat) : Int)))] ∧ MemX (rowsX b0 m γ) w w' L1 []) (fun kk => m - kk) 0 ?_ ?_
  ·
   refine ⟨by omega, (rowsL0 b0 cs0 N m γ M), γ, (fun i => i + 1), M, cs0, (fun _ => 0), ⟨hL0, hsz0, hg0, hRL0, Red.start, fun _ => Iff.rfl, hM1, fun i hi => .inr (List.mem_cons_of_mem _ (List.mem_map.2 ⟨i, by simpa using hi, rfl⟩))⟩, hF.sub _ (by repeat' constructor), ?_⟩
   exact hM
  ·
   clear hF hM
   rintro gd a w' ⟨hgd, L1, γ1, pos1, M1, cs1, ld, ⟨hL1, hsz1, hg1, hRL1, hRed1, hKer1, hM11, hgX1⟩, hF, hM⟩
   refine sq (sq (wp_region_lit ?_))
   refine st hF (g_move hF rfl) rfl fun a hF => st hF (g_move hF rfl) rfl fun a hF => st hF (g_len ty_us_81 hF rfl) rfl fun a hF => st hF (g_lss hF rfl rfl) rfl fun a hF => ?_
   refine wpList_nil (tN ?_)
   refine c_cond hF rfl (fun h1 => ?_) (fun h1 => ?_)
   ·
    refine wp_skip (tN (wp_block (sq (wp_region_lit ?_))))
    refine st hF (g_move hF rfl) rfl fun a hF => st hF (g_assign hF rfl) rfl fun a hF => ?_
    refine wpList_nil (tN (sq (sq (wp_region_lit ?_))))
    refine st hF (g_move hF rfl) rfl fun a hF => st hF (g_assign hF rfl) rfl fun a hF => ?_
    refine wpList_nil (tN (wp_block ?_))
    change MemX (rowsX b0 m γ) w _ L1 [] at hM
    refine c_loop (fun (kk : Nat) a w' => kk ≤ m ∧ ∃ (nx : Nat), (gd ≤ kk ∧ gd ≤ nx ∧ nx < m ∧ ∀ j, gd ≤ j → j < kk → leadN (fun c => ((M1 nx c : Nat) : Int)) N ≤ leadN (fun c => ((M1 j c : Nat) : Int)) N) ∧ Fr 97 a [(0, .slice (some ⟨b0, 0, none⟩) (m) (c0)), (1, .int .i64 (((p : Nat) : Int))), (4, .slice none 0 0), (5, .int .i64 (((gd : Nat) : Int))), (12, .int .i64 (((gd : Nat) : Int))), (13, .slice (some ⟨b0, 0, none⟩) (m) (c0)), (14, .int .i64 (((m : Nat) : Int))), (15, .bool (decide ((((gd : Nat) : Int) : Int) < ((m : Nat) : Int)))), (16, .int .i64 (((gd : Nat) : Int))), (17, .int .i64 (((gd : Nat) : Int))), (7, .int .i64 (((kk : Nat) : Int))), (6, .int .i64 (((nx : Nat) : Int)))] ∧ MemX (rowsX b0 m γ) w w' L1 []) (fun kk => m - kk) gd ?_ ?_
    ·
     refine ⟨by omega, gd, ⟨Nat.le_refl _, Nat.le_refl _, by omega, fun j h1 h2 => absurd h2 (by omega)⟩, hF.sub _ (by repeat' constructor), ?_⟩
     exact hM
    ·
     clear hF hM
     rintro ga a w' ⟨hga, nx, ⟨hga2, hnx1, hnx2, hmn⟩, hF, hM⟩
     refine sq (sq (wp_region_lit ?_))
     refine st hF (g_move hF rfl) rfl fun a hF => st hF (g_move hF rfl) rfl fun a hF => st hF (g_len ty_us_81 hF rfl) rfl fun a hF => st hF (g_lss hF rfl rfl) rfl fun a hF => ?_
     refine wpList_nil (tN ?_)
     refine c_cond hF rfl (fun h2 => ?_) (fun h2 => ?_)
     ·
      refine wp_skip (tN (sq (wp_block (sq ?_))))
      refine c_par 9 [] [.val (.slice (some ⟨b0, 0, none⟩) (m) (c0)), .val (.int .i64 (((ga : Nat) : Int))), .val (ptr b0 (0 + (ga) * 1)), .val (.slice (some ⟨γ1 (ga), 0, none⟩) (N) (N)), .val (.int .i64 (((leadN (fun c => ((M1 (ga) c : Nat) : Int)) N : Nat) : Int))), .val (.slice (some ⟨b0, 0, none⟩) (m) (c0)), .val (.int .i64 (((nx : Nat) : Int))), .val (ptr b0 (0 + (nx) * 1)), .val (.slice (some ⟨γ1 (nx), 0, none⟩) (N) (N))] hmix rfl hF rfl hM ⟨fun a w gG hF hS hd => by exact par_val hS rfl (g_move hF rfl), fun a w gG hF hS hd => by exact par_val hS rfl (g_move hF rfl), fun a w gG hF hS hd => by have hF := hF.ext1 24 (hd 0 rfl rfl); have hF := hF.ext1 25 (hd 1 rfl rfl); exact par_val hS rfl (g_indexSl (i := ga) ty_sl_81 hF rfl rfl rfl (by omega)), fun a w gG hF hS hd => by have hF := hF.ext1 26 (hd 2 rfl rfl); have hM := hS.mem rfl; exact par_val hS rfl (g_load ty_on_85 hF rfl (hM.row 0 hL1) (hg1 (ga) (by omega))), fun a w gG hF hS hd => by have hF := hF.ext1 27 (hd 3 rfl rfl); have hM := hS.mem rfl; exact par_call (by repeat constructor) hS rfl (d_call Tryd.call95 hF (.cons rfl .nil) (leadingPlace_ok (γ1 (ga)) 0 (N) N _ (M1 (ga)) _ (hM.row _ (hRL1.at_ (ga) (by omega))) (fun i hi => fnC_getE i (by omega) hi rfl) (by omega))), fun a w gG hF hS hd => by exact par_val hS rfl (g_move hF rfl), fun a w gG hF hS hd => by exact par_val hS rfl (g_move hF rfl), fun a w gG hF hS hd => by have hF := hF.ext1 29 (hd 5 rfl rfl); have hF := hF.ext1 30 (hd 6 rfl rfl); exact par_val hS rfl (g_indexSl (i := nx) ty_sl_81 hF rfl rfl rfl (by omega)), fun a w gG hF hS hd => by have hF := hF.ext1 31 (hd 7 rfl rfl); have hM := hS.mem rfl; exact par_val hS rfl (g_load ty_on_85 hF rfl (hM.row 0 hL1) (hg1 (nx) (by omega))), trivial⟩ ?_
      intro a w' L hF hS hq
      have hF := hF.ext1 24 (hq 0 rfl rfl)
      have hF := hF.ext1 25 (hq 1 rfl rfl)
      have hF := hF.ext1 26 (hq 2 rfl rfl)
      have hF := hF.ext1 27 (hq 3 rfl rfl)
      have hF := hF.ext1 28 (hq 4 rfl rfl)
      have hF := hF.ext1 29 (hq 5 rfl rfl)
      have hF := hF.ext1 30 (hq 6 rfl rfl)
      have hF := hF.ext1 31 (hq 7 rfl rfl)
      have hF := hF.ext1 32 (hq 8 rfl rfl)
      have hM := hS.mem rfl
      change wpList Tryd.prog _ _ [_, _] _ _
      refine stR hF (d_call Tryd.call95 hF (.cons rfl .nil) (leadingPlace_ok (γ1 (nx)) 0 (N) N _ (M1 (nx)) _ (hM.row _ (hRL1.at_ (nx) (by omega))) (fun i hi => fnC_getE i (by omega) hi rfl) (by omega))) rfl ?_
      rintro _ w' a ⟨hx, rfl⟩ hF
      have hM := hM.ext hx
      refine st hF (g_lss hF rfl rfl) rfl fun a hF => ?_
      refine wpList_nil (tN ?_)
      refine c_cond hF rfl (fun h3 => ?_) (fun h3 => ?_)
      ·
       refine wp_region_lit ?_
       refine st hF (g_move hF rfl) rfl fun a hF => st hF (g_assign hF rfl) rfl fun a hF => ?_
       refine wpList_nil (iN (tN (wp_region_lit ?_)))
       refine st hF (g_move hF rfl) rfl fun a hF => st hF (g_add hF rfl rfl (add_nat (ga) (1) (by omega))) rfl fun a hF => st hF (g_assign hF rfl) rfl fun a hF => ?_
       refine wpList_nil (tN ?_)
       refine ⟨ga + 1, ⟨by omega, ga, ⟨by omega, by omega, by omega, fun j h1 h2 => by by_cases e : j = ga; (rw [e]; exact Nat.le_refl _); (have := hmn j h1 (by omega); omega)⟩, hF.sub _ (by repeat' constructor), ?_⟩, by omega⟩
       exact hM
      ·
       refine wp_skip (iN (tN (wp_region_lit ?_)))
       refine st hF (g_move hF rfl) rfl fun a hF => st hF (g_add hF rfl rfl (add_nat (ga) (1) (by omega))) rfl fun a hF => st hF (g_assign hF rfl) rfl fun a hF => ?_
       refine wpList_nil (tN ?_)
       refine ⟨ga + 1, ⟨by omega, nx, ⟨by omega, by omega, by omega, fun j h1 h2 => by by_cases e : j = ga; (rw [e]; omega); (exact hmn j h1 (by omega))⟩, hF.sub _ (by repeat' constructor), ?_⟩, by omega⟩
       exact hM
     ·
      obtain rfl : m = ga := by omega
      refine wp_exit (tX (tX ?_))
      refine ib_same ?_
      refine tN (sq ?_)
      have hF := hF.sub [(0, .slice (some ⟨b0, 0, none⟩) (m) (c0)), (1, .int .i64 (((p : Nat) : Int))), (4, .slice none 0 0), (5, .int .i64 (((gd : Nat) : Int))), (6, .int .i64 (((nx : Nat) : Int)))] (by repeat' constructor)
      refine c_drawS (S := fun (b : Bool) w2 => MemX (rowsX b0 m γ) w w2 (if b then L1.set 0 (some (b0, (cs1.setIfInBounds (0 + (gd) * 1) (.slice (some ⟨γ1 (nx), 0, none⟩) (N) (N))))) else L1) []) 14 13 hmix rfl rfl rfl hF rfl (fun j o hj hne => dstAll_spec (s := 13) (i := 0) rfl j o hj (by omega)) hM (fun b w h => h.ext (Below.drew (Below.refl _ _))) (vAt [.slice (some ⟨b0, 0, none⟩) (m) (c0), .int .i64 (((gd : Nat) : Int)), .slice (some ⟨b0, 0, none⟩) (m) (c0), .int .i64 (((nx : Nat) : Int)), .slice (some ⟨b0, 0, none⟩) (m) (c0), .int .i64 (((nx : Nat) : Int)), ptr b0 (0 + (nx) * 1), .slice (some ⟨γ1 (nx), 0, none⟩) (N) (N), .slice (some ⟨b0, 0, none⟩) (m) (c0), .int .i64 (((gd : Nat) : Int)), ptr b0 (0 + (gd) * 1), .slice (some ⟨γ1 (gd), 0, none⟩) (N) (N), ptr b0 (0 + (gd) * 1), undef]) ⟨fun a w2 b hF hS hb hd => by exact parS_val (S := fun (b : Bool) w2 => MemX (rowsX b0 m γ) w w2 (if b then L1.set 0 (some (b0, (cs1.setIfInBounds (0 + (gd) * 1) (.slice (some ⟨γ1 (nx), 0, none⟩) (N) (N))))) else L1) []) hS (g_move hF rfl), fun a w2 b hF hS hb hd => by exact parS_val (S := fun (b : Bool) w2 => MemX (rowsX b0 m γ) w w2 (if b then L1.set 0 (some (b0, (cs1.setIfInBounds (0 + (gd) * 1) (.slice (some ⟨γ1 (nx), 0, none⟩) (N) (N))))) else L1) []) hS (g_move hF rfl), fun a w2 b hF hS hb hd => by exact parS_val (S := fun (b : Bool) w2 => MemX (rowsX b0 m γ) w w2 (if b then L1.set 0 (some (b0, (cs1.setIfInBounds (0 + (gd) * 1) (.slice (some ⟨γ1 (nx), 0, none⟩) (N) (N))))) else L1) []) hS (g_move hF rfl), fun a w2 b hF hS hb hd => by exact parS_val (S := fun (b : Bool) w2 => MemX (rowsX b0 m γ) w w2 (if b then L1.set 0 (some (b0, (cs1.setIfInBounds (0 + (gd) * 1) (.slice (some ⟨γ1 (nx), 0, none⟩) (N) (N))))) else L1) []) hS (g_move hF rfl), fun a w2 b hF hS hb hd => by exact parS_val (S := fun (b : Bool) w2 => MemX (rowsX b0 m γ) w w2 (if b then L1.set 0 (some (b0, (cs1.setIfInBounds (0 + (gd) * 1) (.slice (some ⟨γ1 (nx), 0, none⟩) (N) (N))))) else L1) []) hS (g_move hF rfl), fun a w2 b hF hS hb hd => by exact parS_val (S := fun (b : Bool) w2 => MemX (rowsX b0 m γ) w w2 (if b then L1.set 0 (some (b0, (cs1.setIfInBounds (0 + (gd) * 1) (.slice (some ⟨γ1 (nx), 0, none⟩) (N) (N))))) else L1) []) hS (g_move hF rfl), fun a w2 b hF hS hb hd => by have hF := hF.ext1 40 (hd 4 rfl rfl rfl); have hF := hF.ext1 41 (hd 5 rfl rfl rfl); exact parS_val (S := fun (b : Bool) w2 => MemX (rowsX b0 m γ) w w2 (if b then L1.set 0 (some (b0, (cs1.setIfInBounds (0 + (gd) * 1) (.slice (some ⟨γ1 (nx), 0, none⟩) (N) (N))))) else L1) []) hS (g_indexSl (i := nx) ty_sl_81 hF rfl rfl rfl (by omega)), fun a w2 b hF hS hb hd => by have hF := hF.ext1 42 (hd 6 rfl rfl rfl); obtain rfl := hb rfl; have hM : MemX (rowsX b0 m γ) w w2 L1 [] := hS; exact parS_val (S := fun (b : Bool) w2 => MemX (rowsX b0 m γ) w w2 (if b then L1.set 0 (some (b0, (cs1.setIfInBounds (0 + (gd) * 1) (.slice (some ⟨γ1 (nx), 0, none⟩) (N) (N))))) else L1) []) (b := false) hS (g_load ty_on_85 hF rfl (hM.row 0 hL1) (hg1 (nx) (by omega))), fun a w2 b hF hS hb hd => by exact parS_val (S := fun (b : Bool) w2 => MemX (rowsX b0 m γ) w w2 (if b then L1.set 0 (some (b0, (cs1.setIfInBounds (0 + (gd) * 1) (.slice (some ⟨γ1 (nx), 0, none⟩) (N) (N))))) else L1) []) hS (g_move hF rfl), fun a w2 b hF hS hb hd => by exact parS_val (S := fun (b : Bool) w2 => MemX (rowsX b0 m γ) w w2 (if b then L1.set 0 (some (b0, (cs1.setIfInBounds (0 + (gd) * 1) (.slice (some ⟨γ1 (nx), 0, none⟩) (N) (N))))) else L1) []) hS (g_move hF rfl), fun a w2 b hF hS hb hd => by have hF := hF.ext1 44 (hd 8 rfl rfl rfl); have hF := hF.ext1 45 (hd 9 rfl rfl rfl); exact parS_val (S := fun (b : Bool) w2 => MemX (rowsX b0 m γ) w w2 (if b then L1.set 0 (some (b0, (cs1.setIfInBounds (0 + (gd) * 1) (.slice (some ⟨γ1 (nx), 0, none⟩) (N) (N))))) else L1) []) hS (g_indexSl (i := gd) ty_sl_81 hF rfl rfl rfl (by omega)), fun a w2 b hF hS hb hd => by have hF := hF.ext1 46 (hd 10 rfl rfl rfl); obtain rfl := hb rfl; have hM : MemX (rowsX b0 m γ) w w2 L1 [] := hS; exact parS_val (S := fun (b : Bool) w2 => MemX (rowsX b0 m γ) w w2 (if b then L1.set 0 (some (b0, (cs1.setIfInBounds (0 + (gd) * 1) (.slice (some ⟨γ1 (nx), 0, none⟩) (N) (N))))) else L1) []) (b := false) hS (g_load ty_on_85 hF rfl (hM.row 0 hL1) (hg1 (gd) (by omega))), fun a w2 b hF hS hb hd => by have hF := hF.ext1 36 (hd 0 rfl rfl rfl); have hF := hF.ext1 37 (hd 1 rfl rfl rfl); exact parS_val (S := fun (b : Bool) w2 => MemX (rowsX b0 m γ) w w2 (if b then L1.set 0 (some (b0, (cs1.setIfInBounds (0 + (gd) * 1) (.slice (some ⟨γ1 (nx), 0, none⟩) (N) (N))))) else L1) []) hS (g_indexSl (i := gd) ty_sl_81 hF rfl rfl rfl (by omega)), fun a w2 hF hS hd => by have hF := hF.ext1 43 (hd 7 rfl rfl rfl); have hF := hF.ext1 48 (hd 12 rfl rfl rfl); have hM : MemX (rowsX b0 m γ) w w2 L1 [] := hS; exact d_store 0 hM hL1 ty_on_85 hF rfl rfl rfl (by omega), trivial⟩ ?_
      intro a w' hF hS hq
      have hM : MemX (rowsX b0 m γ) w w' (L1.set 0 (some (b0, (cs1.setIfInBounds (0 + (gd) * 1) (.slice (some ⟨γ1 (nx), 0, none⟩) (N) (N)))))) [] := hS
      have hF := hF.ext1 38 (hq 2 rfl rfl rfl)
      have hF := hF.ext1 39 (hq 3 rfl rfl rfl)
      have hF := hF.ext1 47 (hq 11 rfl rfl rfl)
      change wpList Tryd.prog _ _ [_, _] _ _
      refine st hF (g_indexSl ty_sl_81 hF rfl rfl rfl (by omega)) rfl fun a hF => ?_
      refine stN hF (d_store 0 hM (by rw [List.getElem?_set, if_pos rfl, if_pos (List.getElem?_eq_some_iff.1 hL1).1]) ty_on_85 hF rfl rfl rfl (by rw [Array.size_setIfInBounds]; omega)) ?_
      intro _ w' a hM hF
      have hM : MemX (rowsX b0 m γ) w w' ((L1.set 0 (some (b0, (cs1.setIfInBounds (0 + (gd) * 1) (.slice (some ⟨γ1 (nx), 0, none⟩) (N) (N)))))).set 0 (some (b0, ((cs1.setIfInBounds (0 + (gd) * 1) (.slice (some ⟨γ1 (nx), 0, none⟩) (N) (N))).setIfInBounds (0 + (nx) * 1) (.slice (some ⟨γ1 (gd), 0, none⟩) (N) (N)))))) [] := hM
      obtain ⟨L2, γ2, pos2, M2, cs2, hM, hL2, hsz2, hg2, hRL2, hRed2, hKer2, hM21, hmin2, hgX2⟩ : ∃ (L2 : Own) (γ2 pos2 : Nat → Nat) (M2 : Nat → Nat → Nat) (cs2 : Array Value), MemX (rowsX b0 m γ) w w' L2 [] ∧ L2[0]? = some (some (b0, cs2)) ∧ m ≤ cs2.size ∧ (∀ i, i < m → cs2[0 + i * 1]? = some (.slice (some ⟨γ2 i, 0, none⟩) N N)) ∧ RowsL L2 N m γ2 pos2 M2 ∧ Red p N m M2 gd ld ∧ (∀ x, Ker p N M2 m x ↔ Ker p N M m x) ∧ (∀ i c, M2 i c < p) ∧ (∀ j, gd ≤ j → j < m → leadN (fun c => ((M2 gd c : Nat) : Int)) N ≤ leadN (fun c => ((M2 j c : Nat) : Int)) N) ∧ (∀ i, i < m → w.heap.size ≤ γ2 i ∨ γ2 i ∈ (rowsX b0 m γ)) := by
        refine ⟨_, Go.Ech.sw gd nx γ1, Go.Ech.sw gd nx pos1, Go.Ech.sw gd nx M1, ((cs1.setIfInBounds (0 + (gd) * 1) (.slice (some ⟨γ1 (nx), 0, none⟩) (N) (N))).setIfInBounds (0 + (nx) * 1) (.slice (some ⟨γ1 (gd), 0, none⟩) (N) (N))), hM, ?_, ?_, ?_, ((hRL1.swap (by omega) (by omega)).set0 _).set0 _, hRed1.swap (by omega) (by omega) (by omega) (by omega) (by omega), fun x => (ker_swap (by omega) (by omega)).trans (hKer1 x), fun i c => ?_, fun j h1 h2 => ?_, fun i hi => ?_⟩
        · rw [List.getElem?_set, if_pos rfl, if_pos (by rw [List.length_set]; exact (List.getElem?_eq_some_iff.1 hL1).1)]
        · rw [Array.size_setIfInBounds, Array.size_setIfInBounds]; exact hsz1
        · intro i hi
          rw [Array.getElem?_setIfInBounds, Array.size_setIfInBounds]
          unfold Go.Ech.sw
          by_cases e1 : i = nx
          · rw [if_pos (by omega), if_pos (by omega)]; by_cases e2 : i = gd
            · rw [if_pos e2, show gd = nx by omega]
            · rw [if_neg e2, if_pos e1]
          · rw [if_neg (by omega), Array.getElem?_setIfInBounds]; by_cases e2 : i = gd
            · rw [if_pos (by omega), if_pos (by omega), if_pos e2]
            · rw [if_neg (by omega), if_neg e2, if_neg e1]; exact hg1 i hi
        · unfold Go.Ech.sw; split; exact hM11 _ _; split; exact hM11 _ _; exact hM11 _ _
        · have ea : Go.Ech.sw gd nx M1 gd = M1 nx := by simp [Go.Ech.sw]
          rw [ea]
          unfold Go.Ech.sw; split
          · exact Nat.le_refl _
          · split
            · exact hmn gd (Nat.le_refl _) (by omega)
            · exact hmn j h1 h2
        · unfold Go.Ech.sw; split; exact hgX1 _ (by omega); split; exact hgX1 _ (by omega); exact hgX1 _ hi
      have hF := hF.sub [(0, .slice (some ⟨b0, 0, none⟩) (m) (c0)), (1, .int .i64 (((p : Nat) : Int))), (4, .slice none 0 0), (5, .int .i64 (((gd : Nat) : Int)))] (by repeat' constructor)
      refine wpList_nil (tN (sq (wp_region_lit ?_)))
      refine st hF (g_move hF rfl) rfl fun a hF => st hF (g_move hF rfl) rfl fun a hF => st hF (g_indexSl (i := gd) ty_sl_81 hF rfl rfl rfl (by omega)) rfl fun a hF => st hF (g_load ty_on_85 hF rfl (hM.row 0 hL2) (hg2 (gd) (by omega))) rfl fun a hF => st hF (g_assign hF rfl) rfl fun a hF => ?_
      refine wpList_nil (tN (sq (wp_region_lit ?_)))
      refine st hF (g_move hF rfl) rfl fun a hF => ?_
      refine stR hF (d_call Tryd.call95 hF (.cons rfl .nil) (leadingPlace_ok (γ2 (gd)) 0 (N) N _ (M2 (gd)) _ (hM.row _ (hRL2.at_ (gd) (by omega))) (fun i hi => fnC_getE i (by omega) hi rfl) (by omega))) rfl ?_
      rintro _ w' a ⟨hx, rfl⟩ hF
      have hM := hM.ext hx
      refine st hF (g_assign hF rfl) rfl fun a hF => ?_
      refine wpList_nil (tN (sq (sq (wp_region_lit ?_))))
      refine st hF (g_move hF rfl) rfl fun a hF => st hF (g_move hF rfl) rfl fun a hF => st hF (g_len ty_us_85 hF rfl) rfl fun a hF => st hF (g_eql hF rfl rfl) rfl fun a hF => ?_
      refine wpList_nil (tN ?_)
      refine c_cond hF rfl (fun h4 => ?_) (fun h4 => ?_)
      ·
       have hz : ∀ j, gd ≤ j → j < m → ∀ c, c < N → M2 j c = 0 := fun j h1 h2 c hc => by
         have q := hmin2 j h1 h2
         rcases leadN_spec (f := fun c => ((M2 j c : Nat) : Int)) (n := N) with ⟨q1, q2, q3⟩ | ⟨q1, q2⟩
         · omega
         · have := q2 c hc; omega
       refine wp_exit (tX ?_)
       refine ib_other rfl ?_
       refine tX ?_
       refine ib_same ?_
       refine tN (sq (wp_region_lit ?_))
       refine st hF (g_move hF rfl) rfl fun a hF => st hF (g_move hF rfl) rfl fun a hF => st hF (g_sliceHi ty_us_81 ty_sz_85 hF rfl rfl rfl (by omega)) rfl fun a hF => st hF (g_assign hF rfl) rfl fun a hF => ?_
       refine wpList_nil (tN (wp_ret ?_))
       refine fin1 rfl hF.defers (res_tmp hF rfl) ⟨_, rfl, hM.bel, ?_⟩
       exact ⟨gd, M2, γ2, ld, cs2, rfl, by omega, hRed2.done hM21 (by omega), fun x => (ker_cut (by omega) hz).trans (hKer2 x), hM21, hM.row 0 hL2, hg2, fun i hi => hM.row _ (hRL2.at_ i hi), hgX2⟩
      ·
       obtain ⟨htN, ht0, htl⟩ : leadN (fun c => ((M2 (gd) c : Nat) : Int)) N < N ∧ M2 gd (leadN (fun c => ((M2 (gd) c : Nat) : Int)) N) ≠ 0 ∧ ∀ j, gd ≤ j → j < m → ∀ c, c < leadN (fun c => ((M2 (gd) c : Nat) : Int)) N → M2 j c = 0 := by
         rcases leadN_spec (f := fun c => ((M2 gd c : Nat) : Int)) (n := N) with ⟨q1, q2, q3⟩ | ⟨q1, q2⟩
         · refine ⟨q1, fun e => q2 (by rw [e]; rfl), fun j h1 h2 c hc => ?_⟩
           have q := hmin2 j h1 h2
           rcases leadN_spec (f := fun c => ((M2 j c : Nat) : Int)) (n := N) with ⟨r1, r2, r3⟩ | ⟨r1, r2⟩
           · have := r3 c (by omega); omega
           · have := r2 c (by omega); omega
         · omega
       clear h4
       generalize leadN (fun c => ((M2 (gd) c : Nat) : Int)) N = t at hF htN ht0 htl
       have hinv := invN_lt (x := M2 gd t) (p := p) (by omega)
       have hF := hF.sub [(0, .slice (some ⟨b0, 0, none⟩) (m) (c0)), (1, .int .i64 (((p : Nat) : Int))), (4, .slice none 0 0), (5, .int .i64 (((gd : Nat) : Int))), (50, .slice (some ⟨b0, 0, none⟩) (m) (c0)), (51, .int .i64 (((gd : Nat) : Int))), (52, ptr b0 (0 + (gd) * 1)), (53, .slice (some ⟨γ2 (gd), 0, none⟩) (N) (N)), (8, .slice (some ⟨γ2 (gd), 0, none⟩) (N) (N)), (54, .slice (some ⟨γ2 (gd), 0, none⟩) (N) (N)), (55, .int .i64 (((t : Nat) : Int))), (9, .int .i64 (((t : Nat) : Int))), (56, .int .i64 (((t : Nat) : Int))), (57, .slice (some ⟨γ2 (gd), 0, none⟩) (N) (N)), (58, .int .i64 (((N : Nat) : Int)))] (by repeat' constructor)
       refine wp_skip (tN (sq (wp_region_lit ?_)))
       refine st hF (g_move hF rfl) rfl fun a hF => st hF (g_move hF rfl) rfl fun a hF => st hF (g_move hF rfl) rfl fun a hF => st hF (g_move hF rfl) rfl fun a hF => st hF (g_indexSl (i := t) ty_sl_85 hF rfl rfl rfl (by omega)) rfl fun a hF => st hF (g_load ty_on_5 hF rfl (hM.row _ (hRL2.at_ (gd) (by omega))) (fnC_getE (t) (by omega) (by omega) rfl)) rfl fun a hF => st hF (g_move hF rfl) rfl fun a hF => ?_
       refine stR hF (d_call Tryd.call117 hF (.cons rfl (.cons rfl .nil)) (inverseNumber_ok (M2 (gd) (t)) (p) _ (by omega) (by omega) (by first | omega | exact Nat.le_of_lt (Nat.lt_of_lt_of_le (hM21 _ _) (by omega))))) rfl ?_
       rintro _ w' a ⟨hx, rfl⟩ hF
       have hM := hM.ext hx
       refine st hF (g_sub hF rfl rfl (wrap_i64 (by omega) (by omega))) rfl fun a hF => st hF (g_move hF rfl) rfl fun a hF => ?_
       refine stR hF (d_callX Tryd.call73 hF (.cons rfl (.cons rfl (.cons rfl (.cons rfl .nil)))) (addRowSelf_ok p (γ2 gd) N N (M2 gd) (((((invN (M2 (gd) (t)) (p) : Nat) : Int) - 1)) ) _ (by omega) (by omega) (by omega) (by omega) (by omega) (fun i => by have := hM21 gd i; omega) (hM.row _ (hRL2.at_ (gd) (by omega))))) rfl ?_
       rintro u w' a ⟨hx, rfl, hbk⟩ hF
       obtain ⟨sc, hsc⟩ : ∃ sc : Nat → Nat, ∀ c, sc c = M2 gd c * invN (M2 gd t) p % p := ⟨_, fun _ => rfl⟩
       have hbk : Blk w' (γ2 gd) (fnC N (fun c => .int .u8 ((sc c : Nat) : Int))) := by
         have e : sc = addN p (M2 gd) (M2 gd) (((invN (M2 gd t) p : Nat) : Int) - 1) := funext fun c => by rw [hsc, addN_self]
         rw [e]; exact hbk
       obtain ⟨L3, hM, hRL3, hL3⟩ := hM.updRow hRL2 (by omega) hx sc hbk
       rw [hL2] at hL3
       change MemX (rowsX b0 m γ) w w' L3 [] at hM
       refine wpList_nil (tN (sq (sq (wp_region_lit ?_))))
       refine st hF (g_move hF rfl) rfl fun a hF => st hF (g_len ty_us_81 hF rfl) rfl fun a hF => st hF (g_move hF rfl) rfl fun a hF => ?_
       refine wpList_nil (tN (wp_block ?_))
       change MemX (rowsX b0 m γ) w _ L3 [] at hM
       refine c_loop (fun (kk : Nat) a w' => kk ≤ m ∧ ∃ (L4 : Own), (L4[0]? = some (some (b0, cs2)) ∧ RowsL L4 N m γ2 pos2 (mixM p M2 gd t sc kk)) ∧ Fr 97 a [(0, .slice (some ⟨b0, 0, none⟩) (m) (c0)), (1, .int .i64 (((p : Nat) : Int))), (4, .slice none 0 0), (5, .int .i64 (((gd : Nat) : Int))), (50, .slice (some ⟨b0, 0, none⟩) (m) (c0)), (51, .int .i64 (((gd : Nat) : Int))), (52, ptr b0 (0 + (gd) * 1)), (53, .slice (some ⟨γ2 (gd), 0, none⟩) (N) (N)), (8, .slice (some ⟨γ2 (gd), 0, none⟩) (N) (N)), (54, .slice (some ⟨γ2 (gd), 0, none⟩) (N) (N)), (55, .int .i64 (((t : Nat) : Int))), (9, .int .i64 (((t : Nat) : Int))), (56, .int .i64 (((t : Nat) : Int))), (57, .slice (some ⟨γ2 (gd), 0, none⟩) (N) (N)), (58, .int .i64 (((N : Nat) : Int))), (60, .slice (some ⟨γ2 (gd), 0, none⟩) (N) (N)), (61, .slice (some ⟨γ2 (gd), 0, none⟩) (N) (N)), (62, .slice (some ⟨γ2 (gd), 0, none⟩) (N) (N)), (63, .int .i64 (((t : Nat) : Int))), (64, ptr (γ2 (gd)) (0 + (t) * 1)), (65, .int .u8 (((M2 (gd) (t) : Nat) : Int))), (66, .int .i64 (((p : Nat) : Int))), (67, .int .i64 (((invN (M2 (gd) (t)) (p) : Nat) : Int))), (68, .int .i64 (((invN (M2 (gd) (t)) (p) : Nat) : Int) - 1)), (69, .int .i64 (((p : Nat) : Int))), (70, .tuple #[]), (71, .slice (some ⟨b0, 0, none⟩) (m) (c0)), (72, .int .i64 (((m : Nat) : Int))), (73, .int .i64 (((kk : Nat) : Int)))] ∧ MemX (rowsX b0 m γ) w w' L4 []) (fun kk => m - kk) 0 ?_ ?_
       ·
        refine ⟨by omega, L3, ⟨hL3, hRL3.congr (fun i _ => mixM_zero i)⟩, hF.sub _ (by repeat' constructor), ?_⟩
        exact hM
       ·
        clear hF hM
        rintro gr a w' ⟨hgr, L4, ⟨hL4, hRL4⟩, hF, hM⟩
        have hmx : ∀ i c, mixM p M2 gd t sc gr i c < p := fun i c => by (unfold mixM; split; exact lsM_lt (by omega); split; (rw [hsc]; exact Nat.mod_lt _ (by omega)); exact hM21 i c)
        have hmt := hmx gr t
        refine sq (wp_region_lit ?_)
        refine st hF (g_lss hF rfl rfl) rfl fun a hF => ?_
        refine wpList_nil (tN (sq ?_))
        refine c_cond hF rfl (fun h5 => ?_) (fun h5 => ?_)
        ·
         refine wp_skip (tN (sq (wp_block (sq (wp_region_lit ?_)))))
         refine st hF (g_move hF rfl) rfl fun a hF => st hF (g_indexSl (i := gr) ty_sl_81 hF rfl rfl rfl (by omega)) rfl fun a hF => st hF (g_load ty_on_85 hF rfl (hM.row 0 hL4) (hg2 (gr) (by omega))) rfl fun a hF => st hF (g_assign hF rfl) rfl fun a hF => st hF (g_assign hF rfl) rfl fun a hF => ?_
         refine wpList_nil (tN (sq (wp_region_lit ?_)))
         refine st hF (g_move hF rfl) rfl fun a hF => st hF (g_move hF rfl) rfl fun a hF => st hF (g_neq hF rfl rfl) rfl fun a hF => ?_
         refine wpList_nil (tN ?_)
         refine c_cond hF rfl (fun h6 => ?_) (fun h6 => ?_)
         ·
          refine wp_region_lit ?_
          refine st hF (g_move hF rfl) rfl fun a hF => st hF (g_move hF rfl) rfl fun a hF => st hF (g_move hF rfl) rfl fun a hF => st hF (g_move hF rfl) rfl fun a hF => st hF (g_indexSl (i := t) ty_sl_85 hF rfl rfl rfl (by omega)) rfl fun a hF => st hF (g_load ty_on_5 hF rfl (hM.row _ (hRL4.at_ (gr) (by omega))) (fnC_getE (t) (by omega) (by omega) rfl)) rfl fun a hF => st hF (g_conv ty_un_2 ty_ud_5 hF rfl (wrap_i64 (by omega) (by omega))) rfl fun a hF => st hF (g_neg hF rfl (wrap_i64 (by have := hmx gr t; omega) (by have := hmx gr t; omega))) rfl fun a hF => st hF (g_move hF rfl) rfl fun a hF => ?_
          refine stR hF (d_callX Tryd.call73 hF (.cons rfl (.cons rfl (.cons rfl (.cons rfl .nil)))) (addRow_ok p (γ2 gr) N (γ2 gd) 0 N N _ (mixM p M2 gd t sc gr gr) (mixM p M2 gd t sc gr gd) (-((((mixM p M2 gd t sc gr) (gr) (t) : Nat) : Int))) _ (by omega) (by omega) (by omega) (by omega) (by omega) (fun i => by have := hmx gr i; omega) (hM.row _ (hRL4.at_ (gr) (by omega))) (fun i => by have := hmx gd i; omega) (hRL4.apart hM (by omega) (by omega) (fun e => by omega)) (hM.row _ (hRL4.at_ (gd) (by omega))) (fun i hi => fnC_getE i (by omega) hi rfl))) rfl ?_
          rintro u w' a ⟨hx, rfl, hbk⟩ hF
          have hbk : Blk w' (γ2 gr) (fnC N (fun c => .int .u8 ((lsM p (M2 gr) sc (M2 gr t) c : Nat) : Int))) := by
            have e1 : mixM p M2 gd t sc gr gr = M2 gr := by unfold mixM; rw [if_neg (by omega), if_neg (by omega)]
            have e2 : mixM p M2 gd t sc gr gd = sc := by unfold mixM; rw [if_neg (by omega), if_pos rfl]
            have e : lsM p (M2 gr) sc (M2 gr t) = addN p (mixM p M2 gd t sc gr gr) (mixM p M2 gd t sc gr gd) (-((mixM p M2 gd t sc gr gr t : Nat) : Int)) := funext fun c => by rw [addN_neg, e1, e2]
            rw [e]; exact hbk
          obtain ⟨L5, hM, hRL5, hL5⟩ := hM.updRow hRL4 (by omega) hx _ hbk
          rw [hL4] at hL5
          change MemX (rowsX b0 m γ) w w' L5 [] at hM
          refine wpList_nil (iN (tN (wp_region_lit ?_)))
          refine st hF (g_add hF rfl rfl (add_nat (gr) (1) (by omega))) rfl fun a hF => st hF (g_move hF rfl) rfl fun a hF => ?_
          refine wpList_nil (tN ?_)
          refine ⟨gr + 1, ⟨by omega, L5, ⟨hL5, hRL5.congr (fun i _ => mixM_step (by omega) i)⟩, hF.sub _ (by repeat' constructor), ?_⟩, by omega⟩
          exact hM
         ·
          refine wp_skip (iN (tN (wp_region_lit ?_)))
          refine st hF (g_add hF rfl rfl (add_nat (gr) (1) (by omega))) rfl fun a hF => st hF (g_move hF rfl) rfl fun a hF => ?_
          refine wpList_nil (tN ?_)
          refine ⟨gr + 1, ⟨by omega, L4, ⟨hL4, hRL4.congr (fun i _ => by have e : gr = gd := (by omega); rw [e]; exact mixM_skip i)⟩, hF.sub _ (by repeat' constructor), ?_⟩, by omega⟩
          exact hM
        ·
         obtain rfl : m = gr := by omega
         refine wp_exit (tX (tX ?_))
         refine ib_same ?_
         refine tN (wp_region_lit ?_)
         refine st hF (g_move hF rfl) rfl fun a hF => st hF (g_add hF rfl rfl (add_nat (gd) (1) (by omega))) rfl fun a hF => st hF (g_assign hF rfl) rfl fun a hF => ?_
         refine wpList_nil (iN (tN ?_))
         have h1v := invN_ok hp (hM21 gd t) ht0
         refine ⟨gd + 1, ⟨by omega, L4, γ2, pos2, (elimM p M2 gd t sc), cs2, (upE ld gd t), ⟨hL4, hsz2, hg2, hRL4.congr (fun i hi => mixM_all hi), hRed2.step (by omega) hM21 (by omega) htN ht0 htl hsc h1v, fun x => (elim_ker (by omega) (by omega) hsc h1v).trans (hKer2 x), fun i c => by (unfold elimM; split; (rw [hsc]; exact Nat.mod_lt _ (by omega)); exact lsM_lt (by omega)), hgX2⟩, hF.sub _ (by repeat' constructor), ?_⟩, by omega⟩
         exact hM
   ·
    obtain rfl : m = gd := by omega
    refine wp_exit (tX (tX ?_))
    refine ib_same ?_
    refine tN (sq (wp_region_lit ?_))
    refine st hF (g_move hF rfl) rfl fun a hF => st hF (g_move hF rfl) rfl fun a hF => st hF (g_sliceHi ty_us_81 ty_sz_85 hF rfl rfl rfl (by omega)) rfl fun a hF => st hF (g_assign hF rfl) rfl fun a hF => ?_
    refine wpList_nil (tN (wp_ret ?_))
    refine fin1 rfl hF.defers (res_tmp hF rfl) ⟨_, rfl, hM.bel, ?_⟩
    exact ⟨m, M1, γ1, ld, cs1, rfl, Nat.le_refl _, hRed1.done hM11 (Nat.le_refl _), hKer1, hM11, hM.row 0 hL1, hg1, fun i hi => hM.row _ (hRL1.at_ i hi), hgX1⟩

end Go.Proofs.YtbeodbfbfbefkaaDoor
