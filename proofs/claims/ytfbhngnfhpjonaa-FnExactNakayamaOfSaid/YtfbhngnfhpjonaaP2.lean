/- What functions of the program return, as walks over their operations; no statement of the seat is proved here. -/
import Derived.Test.YtfbhngnfhpjonaaK9
import Derived.Test.YtfbhngnfhpjonaaSw30
import Derived.Test.YtfbhngnfhpjonaaSw31
set_option linter.unusedVariables false
set_option linter.unusedSimpArgs false
namespace Go.Proofs.Ytfbhngnfhpjonaa
open Go Go.RowKit Go.Sw Go.Ech
open Classical
theorem getRowP {m K gk : Nat} {F G : Nat → Nat} {x : Nat → Value} (i : Nat) (hi : gk ≤ i ∧ i < m ∧ m ≤ K) : (fnC K (fun c => if c < m then .int .u8 ((if c < gk then G c else F c : Nat) : Int) else x c))[0 + i * 1]? = some (.int .u8 ((F i : Nat) : Int)) :=
  fnC_getE i (by omega) (by omega) (by rw [if_pos hi.2.1, if_neg (by omega)])

theorem addRowSelfP_ok (p b K m : Nat) (f : Nat → Nat) (xs : Nat → Value) (x : Int) (w : World) (hp : 0 < p) (hp2 : p < 100) (hx : -100 < x) (hx2 : x < 100) (hm : m < 1000) (hK : m ≤ K) (hf : ∀ i, f i ≤ 255) (hb : Blk w b (rowP m K f xs)) :
    CallsX Try.prog [b] 35 #[.slice (some ⟨b, 0, none⟩) (m) (K), .slice (some ⟨b, 0, none⟩) (m) (K), .int .i64 (x), .int .i64 (((p : Nat) : Int))] w (fun v w' => v = .tuple #[] ∧ Blk w' b (rowP m K (addN p f f x) xs)) := by
  refine calls_frX [.slice (some ⟨b, 0, none⟩) (m) (K), .slice (some ⟨b, 0, none⟩) (m) (K), .int .i64 (x), .int .i64 (((p : Nat) : Int))] Try.func35 rfl Try.ntmps35 rfl fun a hF => ?_
  have hM : MemX [b] w w [some (b, fnC K (fun c => if c < m then .int .u8 ((f c : Nat) : Int) else xs c))] [] := MemX.startX1 0 hb
  change Fr 33 a [(0, .slice (some ⟨b, 0, none⟩) (m) (K)), (1, .slice (some ⟨b, 0, none⟩) (m) (K)), (2, .int .i64 (x)), (3, .int .i64 (((p : Nat) : Int)))] at hF
  refine sq ?_
  refine wp_region_lit ?_
  refine st hF (g_move hF rfl) rfl fun a hF => st hF (g_len ty_us_62 hF rfl) rfl fun a hF => st hF (g_move hF rfl) rfl fun a hF => ?_
  refine wpList_nil ?_
  refine tN ?_
  refine wp_block ?_
  change MemX [b] w _ [some (b, fnC K (fun c => if c < m then .int .u8 ((f c : Nat) : Int) else xs c))] [] at hM
  refine c_loop (fun (kk : Nat) a w' => kk ≤ m ∧ (True) ∧ Fr 33 a [(0, .slice (some ⟨b, 0, none⟩) (m) (K)), (1, .slice (some ⟨b, 0, none⟩) (m) (K)), (2, .int .i64 (x)), (3, .int .i64 (((p : Nat) : Int))), (10, .slice (some ⟨b, 0, none⟩) (m) (K)), (11, .int .i64 (((m : Nat) : Int))), (12, .int .i64 (((kk : Nat) : Int)))] ∧ MemX [b] w w' [some (b, fnC K (fun c => if c < m then .int .u8 ((if c < kk then addN p f f x c else f c : Nat) : Int) else xs c))] []) (fun kk => m - kk) 0 ?_ ?_
  ·
    refine ⟨by omega, trivial, hF.sub _ (by repeat' constructor), ?_⟩
    exact hM.rowc 0 rfl (fnC_congr fun c hc => by simp)
  ·
    clear hF hM
    rintro gk a w' ⟨hgk, hinv1, hF, hM⟩
    have hfk := hf gk
    have hhk := hf gk
    have hxh := mulB hx hx2 (hf gk)
    refine sq ?_
    refine wp_region_lit ?_
    refine st hF (g_lss hF rfl rfl) rfl fun a hF => ?_
    refine wpList_nil ?_
    refine tN ?_
    refine sq ?_
    refine c_cond hF rfl (fun h1 => ?_) (fun h1 => ?_)
    ·
      refine wp_skip ?_
      refine tN ?_
      refine sq ?_
      refine wp_block ?_
      refine sq ?_
      refine wp_region_lit ?_
      refine st hF (g_move hF rfl) rfl fun a hF => st hF (g_indexSl (i := gk) ty_sl_62 hF rfl rfl rfl (by omega)) rfl fun a hF => st hF (g_load ty_on_5 hF rfl (hM.row 0 rfl) (getRowP (gk) (by omega))) rfl fun a hF => st hF (g_assign hF rfl) rfl fun a hF => st hF (g_assign hF rfl) rfl fun a hF => ?_
      refine wpList_nil ?_
      refine tN ?_
      refine wp_region_lit ?_
      refine st hF (g_move hF rfl) rfl fun a hF => st hF (g_move hF rfl) rfl fun a hF => st hF (g_move hF rfl) rfl fun a hF => st hF (g_move hF rfl) rfl fun a hF => st hF (g_indexSl (i := gk) ty_sl_62 hF rfl rfl rfl (by omega)) rfl fun a hF => st hF (g_load ty_on_5 hF rfl (hM.row 0 rfl) (getRowP (gk) (by omega))) rfl fun a hF => st hF (g_conv ty_un_2 ty_ud_5 hF rfl (wrap_i64 (by omega) (by omega))) rfl fun a hF => st hF (g_move hF rfl) rfl fun a hF => st hF (g_move hF rfl) rfl fun a hF => st hF (g_conv ty_un_2 ty_ud_5 hF rfl (wrap_i64 (by omega) (by omega))) rfl fun a hF => st hF (g_mul hF rfl rfl (wrap_i64 (by omega) (by omega))) rfl fun a hF => st hF (g_add hF rfl rfl (wrap_i64 (by omega) (by omega))) rfl fun a hF => st hF (g_move hF rfl) rfl fun a hF => ?_
      refine stR hF (d_call Try.call48 hF (.cons rfl (.cons rfl .nil)) (residue_ok (((f (gk) : Nat) : Int) + (x) * (((f (gk) : Nat) : Int))) (p) _ (by omega) (by omega) (by omega) (by omega))) rfl ?_
      rintro _ w' a ⟨hx, rfl⟩ hF
      have hM := hM.ext hx
      refine st hF (g_indexSl (i := gk) ty_sl_62 hF rfl rfl rfl (by omega)) rfl fun a hF => ?_
      refine stN hF (d_store 0 hM rfl ty_on_5 hF rfl rfl rfl (by first | omega | (simp only [fnC_size, cells_size, vecC_size, tabC_size, planeC_size] <;> omega))) ?_
      intro _ w' a hM hF
      rw [show (fnC K (fun c => if c < m then .int .u8 ((if c < gk then addN p f f x c else f c : Nat) : Int) else xs c)).setIfInBounds (0 + (gk) * 1) (.int .u8 ((((f (gk) : Nat) : Int) + (x) * (((f (gk) : Nat) : Int))) % (((p : Nat) : Int)))) = fnC K (fun c => if c = gk then .int .u8 ((((f (gk) : Nat) : Int) + (x) * (((f (gk) : Nat) : Int))) % (((p : Nat) : Int))) else if c < m then .int .u8 ((if c < gk then addN p f f x c else f c : Nat) : Int) else xs c) from fnC_set (fun c _ => by rw [show 0 + (gk) * 1 = gk by omega])] at hM
      change MemX [b] w w' [some (b, fnC K (fun c => if c = gk then .int .u8 ((((f (gk) : Nat) : Int) + (x) * (((f (gk) : Nat) : Int))) % (((p : Nat) : Int))) else if c < m then .int .u8 ((if c < gk then addN p f f x c else f c : Nat) : Int) else xs c))] [] at hM
      refine wpList_nil ?_
      refine iN ?_
      refine tN ?_
      refine wp_region_lit ?_
      refine st hF (g_add hF rfl rfl (add_nat (gk) (1) (by omega))) rfl fun a hF => st hF (g_move hF rfl) rfl fun a hF => ?_
      refine wpList_nil ?_
      refine tN ?_
      refine ⟨gk + 1, ⟨by omega, trivial, hF.sub _ (by repeat' constructor), ?_⟩, by omega⟩
      refine hM.rowc 0 rfl (fnC_congr fun c hc => ?_)
      by_cases e1 : c = gk
      · subst e1; rw [if_pos rfl, if_pos (by omega), if_pos (by omega)]; exact congrArg (Value.int .u8) (addN_int hp).symm
      · have e0 : (c < gk + 1) = (c < gk) := by apply propext; omega
        simp [e0, e1]
    ·
      obtain rfl : m = gk := by omega
      refine wp_exit ?_
      refine tX ?_
      refine tX ?_
      refine ib_same ?_
      refine fin0n rfl hF.defers  ⟨_, rfl, hM.bel, ?_⟩
      exact ⟨rfl, (hM.rowc (cs' := rowP m K (addN p f f x) xs) 0 rfl (fnC_congr fun c hc => by by_cases e : c < m <;> simp [e])).row 0 rfl⟩

theorem addRowP_ok (p b K b2 o2 c2 m : Nat) (cs2 : Array Value) (f h : Nat → Nat) (xs : Nat → Value) (x : Int) (w : World) (hp : 0 < p) (hp2 : p < 100) (hx : -100 < x) (hx2 : x < 100) (hm : m < 1000) (hK : m ≤ K) (hf : ∀ i, f i ≤ 255) (hb : Blk w b (rowP m K f xs)) (hh : ∀ i, h i ≤ 255) (hne : b2 ≠ b) (hb2 : Blk w b2 cs2) (hg2 : ∀ i, i < m → cs2[o2 + i * 1]? = some (.int .u8 ((h i : Nat) : Int))) :
    CallsX Try.prog [b] 35 #[.slice (some ⟨b, 0, none⟩) (m) (K), .slice (some ⟨b2, o2, none⟩) (m) (c2), .int .i64 (x), .int .i64 (((p : Nat) : Int))] w (fun v w' => v = .tuple #[] ∧ Blk w' b (rowP m K (addN p f h x) xs)) := by
  refine calls_frX [.slice (some ⟨b, 0, none⟩) (m) (K), .slice (some ⟨b2, o2, none⟩) (m) (c2), .int .i64 (x), .int .i64 (((p : Nat) : Int))] Try.func35 rfl Try.ntmps35 rfl fun a hF => ?_
  have hM : MemX [b] w w [some (b, fnC K (fun c => if c < m then .int .u8 ((f c : Nat) : Int) else xs c))] [(b2, cs2)] := MemX.startX1D 0 hb (startXD1 hb2 hne)
  change Fr 33 a [(0, .slice (some ⟨b, 0, none⟩) (m) (K)), (1, .slice (some ⟨b2, o2, none⟩) (m) (c2)), (2, .int .i64 (x)), (3, .int .i64 (((p : Nat) : Int)))] at hF
  refine sq ?_
  refine wp_region_lit ?_
  refine st hF (g_move hF rfl) rfl fun a hF => st hF (g_len ty_us_62 hF rfl) rfl fun a hF => st hF (g_move hF rfl) rfl fun a hF => ?_
  refine wpList_nil ?_
  refine tN ?_
  refine wp_block ?_
  change MemX [b] w _ [some (b, fnC K (fun c => if c < m then .int .u8 ((f c : Nat) : Int) else xs c))] [(b2, cs2)] at hM
  refine c_loop (fun (kk : Nat) a w' => kk ≤ m ∧ (True) ∧ Fr 33 a [(0, .slice (some ⟨b, 0, none⟩) (m) (K)), (1, .slice (some ⟨b2, o2, none⟩) (m) (c2)), (2, .int .i64 (x)), (3, .int .i64 (((p : Nat) : Int))), (10, .slice (some ⟨b2, o2, none⟩) (m) (c2)), (11, .int .i64 (((m : Nat) : Int))), (12, .int .i64 (((kk : Nat) : Int)))] ∧ MemX [b] w w' [some (b, fnC K (fun c => if c < m then .int .u8 ((if c < kk then addN p f h x c else f c : Nat) : Int) else xs c))] [(b2, cs2)]) (fun kk => m - kk) 0 ?_ ?_
  ·
    refine ⟨by omega, trivial, hF.sub _ (by repeat' constructor), ?_⟩
    exact hM.rowc 0 rfl (fnC_congr fun c hc => by simp)
  ·
    clear hF hM
    rintro gk a w' ⟨hgk, hinv1, hF, hM⟩
    have hfk := hf gk
    have hhk := hh gk
    have hxh := mulB hx hx2 (hh gk)
    refine sq ?_
    refine wp_region_lit ?_
    refine st hF (g_lss hF rfl rfl) rfl fun a hF => ?_
    refine wpList_nil ?_
    refine tN ?_
    refine sq ?_
    refine c_cond hF rfl (fun h1 => ?_) (fun h1 => ?_)
    ·
      refine wp_skip ?_
      refine tN ?_
      refine sq ?_
      refine wp_block ?_
      refine sq ?_
      refine wp_region_lit ?_
      refine st hF (g_move hF rfl) rfl fun a hF => st hF (g_indexSl (i := gk) ty_sl_62 hF rfl rfl rfl (by omega)) rfl fun a hF => st hF (g_load ty_on_5 hF rfl (hM.fz 0 rfl) (hg2 (gk) (by omega))) rfl fun a hF => st hF (g_assign hF rfl) rfl fun a hF => st hF (g_assign hF rfl) rfl fun a hF => ?_
      refine wpList_nil ?_
      refine tN ?_
      refine wp_region_lit ?_
      refine st hF (g_move hF rfl) rfl fun a hF => st hF (g_move hF rfl) rfl fun a hF => st hF (g_move hF rfl) rfl fun a hF => st hF (g_move hF rfl) rfl fun a hF => st hF (g_indexSl (i := gk) ty_sl_62 hF rfl rfl rfl (by omega)) rfl fun a hF => st hF (g_load ty_on_5 hF rfl (hM.row 0 rfl) (getRowP (gk) (by omega))) rfl fun a hF => st hF (g_conv ty_un_2 ty_ud_5 hF rfl (wrap_i64 (by omega) (by omega))) rfl fun a hF => st hF (g_move hF rfl) rfl fun a hF => st hF (g_move hF rfl) rfl fun a hF => st hF (g_conv ty_un_2 ty_ud_5 hF rfl (wrap_i64 (by omega) (by omega))) rfl fun a hF => st hF (g_mul hF rfl rfl (wrap_i64 (by omega) (by omega))) rfl fun a hF => st hF (g_add hF rfl rfl (wrap_i64 (by omega) (by omega))) rfl fun a hF => st hF (g_move hF rfl) rfl fun a hF => ?_
      refine stR hF (d_call Try.call48 hF (.cons rfl (.cons rfl .nil)) (residue_ok (((f (gk) : Nat) : Int) + (x) * (((h (gk) : Nat) : Int))) (p) _ (by omega) (by omega) (by omega) (by omega))) rfl ?_
      rintro _ w' a ⟨hx, rfl⟩ hF
      have hM := hM.ext hx
      refine st hF (g_indexSl (i := gk) ty_sl_62 hF rfl rfl rfl (by omega)) rfl fun a hF => ?_
      refine stN hF (d_store 0 hM rfl ty_on_5 hF rfl rfl rfl (by first | omega | (simp only [fnC_size, cells_size, vecC_size, tabC_size, planeC_size] <;> omega))) ?_
      intro _ w' a hM hF
      rw [show (fnC K (fun c => if c < m then .int .u8 ((if c < gk then addN p f h x c else f c : Nat) : Int) else xs c)).setIfInBounds (0 + (gk) * 1) (.int .u8 ((((f (gk) : Nat) : Int) + (x) * (((h (gk) : Nat) : Int))) % (((p : Nat) : Int)))) = fnC K (fun c => if c = gk then .int .u8 ((((f (gk) : Nat) : Int) + (x) * (((h (gk) : Nat) : Int))) % (((p : Nat) : Int))) else if c < m then .int .u8 ((if c < gk then addN p f h x c else f c : Nat) : Int) else xs c) from fnC_set (fun c _ => by rw [show 0 + (gk) * 1 = gk by omega])] at hM
      change MemX [b] w w' [some (b, fnC K (fun c => if c = gk then .int .u8 ((((f (gk) : Nat) : Int) + (x) * (((h (gk) : Nat) : Int))) % (((p : Nat) : Int))) else if c < m then .int .u8 ((if c < gk then addN p f h x c else f c : Nat) : Int) else xs c))] [(b2, cs2)] at hM
      refine wpList_nil ?_
      refine iN ?_
      refine tN ?_
      refine wp_region_lit ?_
      refine st hF (g_add hF rfl rfl (add_nat (gk) (1) (by omega))) rfl fun a hF => st hF (g_move hF rfl) rfl fun a hF => ?_
      refine wpList_nil ?_
      refine tN ?_
      refine ⟨gk + 1, ⟨by omega, trivial, hF.sub _ (by repeat' constructor), ?_⟩, by omega⟩
      refine hM.rowc 0 rfl (fnC_congr fun c hc => ?_)
      by_cases e1 : c = gk
      · subst e1; rw [if_pos rfl, if_pos (by omega), if_pos (by omega)]; exact congrArg (Value.int .u8) (addN_int hp).symm
      · have e0 : (c < gk + 1) = (c < gk) := by apply propext; omega
        simp [e0, e1]
    ·
      obtain rfl : m = gk := by omega
      refine wp_exit ?_
      refine tX ?_
      refine tX ?_
      refine ib_same ?_
      refine fin0n rfl hF.defers  ⟨_, rfl, hM.bel, ?_⟩
      exact ⟨rfl, (hM.rowc (cs' := rowP m K (addN p f h x) xs) 0 rfl (fnC_congr fun c hc => by by_cases e : c < m <;> simp [e])).row 0 rfl⟩

theorem reduceRowsP_ok (p N m b0 c0 : Nat) (cs0 : Array Value) (κ : Nat → Nat) (Xs : Nat → Nat → Value) (γ : Nat → Nat) (M : Nat → Nat → Nat) (w : World) (hp : primeN p) (hκ : ∀ b, N ≤ κ b) (hN : 0 < N) (hN2 : N < 100) (hm2 : m < 1000) (hmc : m ≤ c0) (hM1 : ∀ i c, M i c < p) (hb0 : Blk w b0 cs0) (hsz0 : m ≤ cs0.size) (hg0 : ∀ i, i < m → cs0[0 + i * 1]? = some (.slice (some ⟨γ i, 0, none⟩) N (κ (γ i)))) (hbr : ∀ i, i < m → Blk w (γ i) (rowP N (κ (γ i)) (M i) (Xs (γ i)))) (hinj : ∀ i j, i < m → j < m → γ i = γ j → i = j) (hne0 : ∀ i, i < m → γ i ≠ b0) :
    CallsX Try.prog (rowsX b0 m γ) 71 #[.slice (some ⟨b0, 0, none⟩) (m) (c0), .int .i64 (((p : Nat) : Int))] w (fun u w' => ∃ (k : Nat) (M' : Nat → Nat → Nat) (γ' : Nat → Nat) (ld : Nat → Nat) (cs' : Array Value), u = .slice (some ⟨b0, 0, none⟩) k c0 ∧ k ≤ m ∧ Rref p N M' k ld ∧ (∀ x, Ker p N M' k x ↔ Ker p N M m x) ∧ (∀ i c, M' i c < p) ∧ Blk w' b0 cs' ∧ (∀ i, i < m → cs'[0 + i * 1]? = some (.slice (some ⟨γ' i, 0, none⟩) N (κ (γ' i)))) ∧ (∀ i, i < m → Blk w' (γ' i) (rowP N (κ (γ' i)) (M' i) (Xs (γ' i)))) ∧ (∀ i, i < m → w.heap.size ≤ γ' i ∨ γ' i ∈ rowsX b0 m γ)) := by
  refine calls_frX [.slice (some ⟨b0, 0, none⟩) (m) (c0), .int .i64 (((p : Nat) : Int))] Try.func71 rfl Try.ntmps71 rfl fun a hF => ?_
  obtain ⟨hM, hRL0, hL0⟩ := MemX.startRowsP hb0 hbr hinj hne0
  have hp2 := hp.two
  have hp13 := hp.le
  change Fr 97 a [(0, .slice (some ⟨b0, 0, none⟩) (m) (c0)), (1, .int .i64 (((p : Nat) : Int)))] at hF
  refine sq ?_
  refine wp_region_lit ?_
  refine st hF (g_assign hF rfl) rfl fun a hF => ?_
  refine wpList_nil ?_
  refine tN ?_
  refine sq ?_
  refine wp_region_lit ?_
  refine st hF (g_assign hF rfl) rfl fun a hF => ?_
  refine wpList_nil ?_
  refine tN ?_
  refine sq ?_
  refine wp_block ?_
  change MemX (rowsX b0 m γ) w _ (rowsLP0 b0 cs0 N m κ Xs γ M) [] at hM
  refine c_loop (fun (kk : Nat) a w' => kk ≤ m ∧ ∃ (L1 : Own), ∃ (γ1 : Nat → Nat), ∃ (pos1 : Nat → Nat), ∃ (M1 : Nat → Nat → Nat), ∃ (cs1 : Array Value), ∃ (ld : Nat → Nat), (L1[0]? = some (some (b0, cs1)) ∧ m ≤ cs1.size ∧ (∀ i, i < m → cs1[0 + i * 1]? = some (.slice (some ⟨γ1 i, 0, none⟩) N (κ (γ1 i)))) ∧ RowsLP L1 N m κ Xs γ1 pos1 M1 ∧ Red p N m M1 kk ld ∧ (∀ x, Ker p N M1 m x ↔ Ker p N M m x) ∧ (∀ i c, M1 i c < p) ∧ (∀ i, i < m → w.heap.size ≤ γ1 i ∨ γ1 i ∈ (rowsX b0 m γ))) ∧ Fr 97 a [(0, .slice (some ⟨b0, 0, none⟩) (m) (c0)), (1, .int .i64 (((p : Nat) : Int))), (4, .slice none 0 0), (5, .int .i64 (((kk : Nat) : Int)))] ∧ MemX (rowsX b0 m γ) w w' L1 []) (fun kk => m - kk) 0 ?_ ?_
  ·
    refine ⟨by omega, (rowsLP0 b0 cs0 N m κ Xs γ M), γ, (fun i => i + 1), M, cs0, (fun _ => 0), ⟨hL0, hsz0, hg0, hRL0, Red.start, fun _ => Iff.rfl, hM1, fun i hi => .inr (List.mem_cons_of_mem _ (List.mem_map.2 ⟨i, by simpa using hi, rfl⟩))⟩, hF.sub _ (by repeat' constructor), ?_⟩
    exact hM
  ·
    clear hF hM
    rintro gd a w' ⟨hgd, L1, γ1, pos1, M1, cs1, ld, ⟨hL1, hsz1, hg1, hRL1, hRed1, hKer1, hM11, hgX1⟩, hF, hM⟩
    refine sq ?_
    refine sq ?_
    refine wp_region_lit ?_
    refine st hF (g_move hF rfl) rfl fun a hF => st hF (g_move hF rfl) rfl fun a hF => st hF (g_len ty_us_60 hF rfl) rfl fun a hF => st hF (g_lss hF rfl rfl) rfl fun a hF => ?_
    refine wpList_nil ?_
    refine tN ?_
    refine c_cond hF rfl (fun h1 => ?_) (fun h1 => ?_)
    ·
      refine wp_skip ?_
      refine tN ?_
      refine wp_block ?_
      refine sq ?_
      refine wp_region_lit ?_
      refine st hF (g_move hF rfl) rfl fun a hF => st hF (g_assign hF rfl) rfl fun a hF => ?_
      refine wpList_nil ?_
      refine tN ?_
      refine sq ?_
      refine sq ?_
      refine wp_region_lit ?_
      refine st hF (g_move hF rfl) rfl fun a hF => st hF (g_assign hF rfl) rfl fun a hF => ?_
      refine wpList_nil ?_
      refine tN ?_
      refine wp_block ?_
      change MemX (rowsX b0 m γ) w _ L1 [] at hM
      refine c_loop (fun (kk : Nat) a w' => kk ≤ m ∧ ∃ (nx : Nat), (gd ≤ kk ∧ gd ≤ nx ∧ nx < m ∧ ∀ j, gd ≤ j → j < kk → leadN (fun c => ((M1 nx c : Nat) : Int)) N ≤ leadN (fun c => ((M1 j c : Nat) : Int)) N) ∧ Fr 97 a [(0, .slice (some ⟨b0, 0, none⟩) (m) (c0)), (1, .int .i64 (((p : Nat) : Int))), (4, .slice none 0 0), (5, .int .i64 (((gd : Nat) : Int))), (12, .int .i64 (((gd : Nat) : Int))), (13, .slice (some ⟨b0, 0, none⟩) (m) (c0)), (14, .int .i64 (((m : Nat) : Int))), (15, .bool (decide ((((gd : Nat) : Int) : Int) < ((m : Nat) : Int)))), (16, .int .i64 (((gd : Nat) : Int))), (17, .int .i64 (((gd : Nat) : Int))), (7, .int .i64 (((kk : Nat) : Int))), (6, .int .i64 (((nx : Nat) : Int)))] ∧ MemX (rowsX b0 m γ) w w' L1 []) (fun kk => m - kk) gd ?_ ?_
      ·
        refine ⟨by omega, gd, ⟨Nat.le_refl _, Nat.le_refl _, by omega, fun j h1 h2 => absurd h2 (by omega)⟩, hF.sub _ (by repeat' constructor), ?_⟩
        exact hM
      ·
        clear hF hM
        rintro ga a w' ⟨hga, nx, ⟨hga2, hnx1, hnx2, hmn⟩, hF, hM⟩
        refine sq ?_
        refine sq ?_
        refine wp_region_lit ?_
        refine st hF (g_move hF rfl) rfl fun a hF => st hF (g_move hF rfl) rfl fun a hF => st hF (g_len ty_us_60 hF rfl) rfl fun a hF => st hF (g_lss hF rfl rfl) rfl fun a hF => ?_
        refine wpList_nil ?_
        refine tN ?_
        refine c_cond hF rfl (fun h2 => ?_) (fun h2 => ?_)
        ·
          refine wp_skip ?_
          refine tN ?_
          refine sq ?_
          refine wp_block ?_
          refine sq ?_
          refine c_par 9 [] [.val (.slice (some ⟨b0, 0, none⟩) (m) (c0)), .val (.int .i64 (((ga : Nat) : Int))), .val (ptr b0 (0 + (ga) * 1)), .val (.slice (some ⟨γ1 (ga), 0, none⟩) (N) (κ (γ1 (ga)))), .val (.int .i64 (((leadN (fun c => ((M1 (ga) c : Nat) : Int)) N : Nat) : Int))), .val (.slice (some ⟨b0, 0, none⟩) (m) (c0)), .val (.int .i64 (((nx : Nat) : Int))), .val (ptr b0 (0 + (nx) * 1)), .val (.slice (some ⟨γ1 (nx), 0, none⟩) (N) (κ (γ1 (nx))))] hmix rfl hF rfl hM ⟨fun a w gG hF hS hd => by exact par_val hS rfl (g_move hF rfl), fun a w gG hF hS hd => by exact par_val hS rfl (g_move hF rfl), fun a w gG hF hS hd => by have hF := hF.ext1 24 (hd 0 rfl rfl); have hF := hF.ext1 25 (hd 1 rfl rfl); exact par_val hS rfl (g_indexSl (i := ga) ty_sl_60 hF rfl rfl rfl (by omega)), fun a w gG hF hS hd => by have hF := hF.ext1 26 (hd 2 rfl rfl); have hM := hS.mem rfl; exact par_val hS rfl (g_load ty_on_62 hF rfl (hM.row 0 hL1) (hg1 (ga) (by omega))), fun a w gG hF hS hd => by have hF := hF.ext1 27 (hd 3 rfl rfl); have hM := hS.mem rfl; exact par_call (by repeat constructor) hS rfl (d_call Try.call81 hF (.cons rfl .nil) (leadingPlace_ok (γ1 (ga)) 0 (κ (γ1 (ga))) N _ (M1 (ga)) _ (hM.row _ (hRL1.at_ (ga) (by omega))) (fun i hi => rowP_get i (by omega) hi (hκ _)) (by omega))), fun a w gG hF hS hd => by exact par_val hS rfl (g_move hF rfl), fun a w gG hF hS hd => by exact par_val hS rfl (g_move hF rfl), fun a w gG hF hS hd => by have hF := hF.ext1 29 (hd 5 rfl rfl); have hF := hF.ext1 30 (hd 6 rfl rfl); exact par_val hS rfl (g_indexSl (i := nx) ty_sl_60 hF rfl rfl rfl (by omega)), fun a w gG hF hS hd => by have hF := hF.ext1 31 (hd 7 rfl rfl); have hM := hS.mem rfl; exact par_val hS rfl (g_load ty_on_62 hF rfl (hM.row 0 hL1) (hg1 (nx) (by omega))), trivial⟩ ?_
          intro a w' L hF hS hq
          have hF := hF.ext1 24 (hq 0 rfl rfl)
          have hF := hF.ext1 25 (hq 1 rfl rfl)
          have hF := hF.ext1 26 (hq 2 rfl rfl)
          have hF := hF.ext1 27 (hq 3 rfl rfl)
          have hF := hF.ext1 28 (hq 4 rfl rfl)
          have hF := hF.ext1 29 (hq 5 rfl rfl)
          have hF := hF.ext1 30 (hq 6 rfl rfl)
          have hF := hF.ext1 31 (hq 7 rfl rfl)
          have hF := hF.ext1 32 (hq 8 rfl rfl)
          have hM := hS.mem rfl
          change wpList Try.prog _ _ [_, _] _ _
          refine stR hF (d_call Try.call81 hF (.cons rfl .nil) (leadingPlace_ok (γ1 (nx)) 0 (κ (γ1 (nx))) N _ (M1 (nx)) _ (hM.row _ (hRL1.at_ (nx) (by omega))) (fun i hi => rowP_get i (by omega) hi (hκ _)) (by omega))) rfl ?_
          rintro _ w' a ⟨hx, rfl⟩ hF
          have hM := hM.ext hx
          refine st hF (g_lss hF rfl rfl) rfl fun a hF => ?_
          refine wpList_nil ?_
          refine tN ?_
          refine c_cond hF rfl (fun h3 => ?_) (fun h3 => ?_)
          ·
            refine wp_region_lit ?_
            refine st hF (g_move hF rfl) rfl fun a hF => st hF (g_assign hF rfl) rfl fun a hF => ?_
            refine wpList_nil ?_
            refine iN ?_
            refine tN ?_
            refine wp_region_lit ?_
            refine st hF (g_move hF rfl) rfl fun a hF => st hF (g_add hF rfl rfl (add_nat (ga) (1) (by omega))) rfl fun a hF => st hF (g_assign hF rfl) rfl fun a hF => ?_
            refine wpList_nil ?_
            refine tN ?_
            refine ⟨ga + 1, ⟨by omega, ga, ⟨by omega, by omega, by omega, fun j h1 h2 => by by_cases e : j = ga; (rw [e]; exact Nat.le_refl _); (have := hmn j h1 (by omega); omega)⟩, hF.sub _ (by repeat' constructor), ?_⟩, by omega⟩
            exact hM
          ·
            refine wp_skip ?_
            refine iN ?_
            refine tN ?_
            refine wp_region_lit ?_
            refine st hF (g_move hF rfl) rfl fun a hF => st hF (g_add hF rfl rfl (add_nat (ga) (1) (by omega))) rfl fun a hF => st hF (g_assign hF rfl) rfl fun a hF => ?_
            refine wpList_nil ?_
            refine tN ?_
            refine ⟨ga + 1, ⟨by omega, nx, ⟨by omega, by omega, by omega, fun j h1 h2 => by by_cases e : j = ga; (rw [e]; omega); (exact hmn j h1 (by omega))⟩, hF.sub _ (by repeat' constructor), ?_⟩, by omega⟩
            exact hM
        ·
          obtain rfl : m = ga := by omega
          refine wp_exit ?_
          refine tX ?_
          refine tX ?_
          refine ib_same ?_
          refine tN ?_
          refine sq ?_
          have hF := hF.sub [(0, .slice (some ⟨b0, 0, none⟩) (m) (c0)), (1, .int .i64 (((p : Nat) : Int))), (4, .slice none 0 0), (5, .int .i64 (((gd : Nat) : Int))), (6, .int .i64 (((nx : Nat) : Int)))] (by repeat' constructor)
          refine c_drawS (S := fun (b : Bool) w2 => MemX (rowsX b0 m γ) w w2 (if b then L1.set 0 (some (b0, (cs1.setIfInBounds (0 + (gd) * 1) (.slice (some ⟨γ1 (nx), 0, none⟩) (N) (κ (γ1 (nx))))))) else L1) []) 14 13 hmix rfl rfl rfl hF rfl (fun j o hj hne => dstAll_spec (s := 13) (i := 0) rfl j o hj (by omega)) hM (fun b w h => h.ext (Below.drew (Below.refl _ _))) (vAt [.slice (some ⟨b0, 0, none⟩) (m) (c0), .int .i64 (((gd : Nat) : Int)), .slice (some ⟨b0, 0, none⟩) (m) (c0), .int .i64 (((nx : Nat) : Int)), .slice (some ⟨b0, 0, none⟩) (m) (c0), .int .i64 (((nx : Nat) : Int)), ptr b0 (0 + (nx) * 1), .slice (some ⟨γ1 (nx), 0, none⟩) (N) (κ (γ1 (nx))), .slice (some ⟨b0, 0, none⟩) (m) (c0), .int .i64 (((gd : Nat) : Int)), ptr b0 (0 + (gd) * 1), .slice (some ⟨γ1 (gd), 0, none⟩) (N) (κ (γ1 (gd))), ptr b0 (0 + (gd) * 1), undef]) ⟨fun a w2 b hF hS hb hd => by exact parS_val (S := fun (b : Bool) w2 => MemX (rowsX b0 m γ) w w2 (if b then L1.set 0 (some (b0, (cs1.setIfInBounds (0 + (gd) * 1) (.slice (some ⟨γ1 (nx), 0, none⟩) (N) (κ (γ1 (nx))))))) else L1) []) hS (g_move hF rfl), fun a w2 b hF hS hb hd => by exact parS_val (S := fun (b : Bool) w2 => MemX (rowsX b0 m γ) w w2 (if b then L1.set 0 (some (b0, (cs1.setIfInBounds (0 + (gd) * 1) (.slice (some ⟨γ1 (nx), 0, none⟩) (N) (κ (γ1 (nx))))))) else L1) []) hS (g_move hF rfl), fun a w2 b hF hS hb hd => by exact parS_val (S := fun (b : Bool) w2 => MemX (rowsX b0 m γ) w w2 (if b then L1.set 0 (some (b0, (cs1.setIfInBounds (0 + (gd) * 1) (.slice (some ⟨γ1 (nx), 0, none⟩) (N) (κ (γ1 (nx))))))) else L1) []) hS (g_move hF rfl), fun a w2 b hF hS hb hd => by exact parS_val (S := fun (b : Bool) w2 => MemX (rowsX b0 m γ) w w2 (if b then L1.set 0 (some (b0, (cs1.setIfInBounds (0 + (gd) * 1) (.slice (some ⟨γ1 (nx), 0, none⟩) (N) (κ (γ1 (nx))))))) else L1) []) hS (g_move hF rfl), fun a w2 b hF hS hb hd => by exact parS_val (S := fun (b : Bool) w2 => MemX (rowsX b0 m γ) w w2 (if b then L1.set 0 (some (b0, (cs1.setIfInBounds (0 + (gd) * 1) (.slice (some ⟨γ1 (nx), 0, none⟩) (N) (κ (γ1 (nx))))))) else L1) []) hS (g_move hF rfl), fun a w2 b hF hS hb hd => by exact parS_val (S := fun (b : Bool) w2 => MemX (rowsX b0 m γ) w w2 (if b then L1.set 0 (some (b0, (cs1.setIfInBounds (0 + (gd) * 1) (.slice (some ⟨γ1 (nx), 0, none⟩) (N) (κ (γ1 (nx))))))) else L1) []) hS (g_move hF rfl), fun a w2 b hF hS hb hd => by have hF := hF.ext1 40 (hd 4 rfl rfl rfl); have hF := hF.ext1 41 (hd 5 rfl rfl rfl); exact parS_val (S := fun (b : Bool) w2 => MemX (rowsX b0 m γ) w w2 (if b then L1.set 0 (some (b0, (cs1.setIfInBounds (0 + (gd) * 1) (.slice (some ⟨γ1 (nx), 0, none⟩) (N) (κ (γ1 (nx))))))) else L1) []) hS (g_indexSl (i := nx) ty_sl_60 hF rfl rfl rfl (by omega)), fun a w2 b hF hS hb hd => by have hF := hF.ext1 42 (hd 6 rfl rfl rfl); obtain rfl := hb rfl; have hM : MemX (rowsX b0 m γ) w w2 L1 [] := hS; exact parS_val (S := fun (b : Bool) w2 => MemX (rowsX b0 m γ) w w2 (if b then L1.set 0 (some (b0, (cs1.setIfInBounds (0 + (gd) * 1) (.slice (some ⟨γ1 (nx), 0, none⟩) (N) (κ (γ1 (nx))))))) else L1) []) (b := false) hS (g_load ty_on_62 hF rfl (hM.row 0 hL1) (hg1 (nx) (by omega))), fun a w2 b hF hS hb hd => by exact parS_val (S := fun (b : Bool) w2 => MemX (rowsX b0 m γ) w w2 (if b then L1.set 0 (some (b0, (cs1.setIfInBounds (0 + (gd) * 1) (.slice (some ⟨γ1 (nx), 0, none⟩) (N) (κ (γ1 (nx))))))) else L1) []) hS (g_move hF rfl), fun a w2 b hF hS hb hd => by exact parS_val (S := fun (b : Bool) w2 => MemX (rowsX b0 m γ) w w2 (if b then L1.set 0 (some (b0, (cs1.setIfInBounds (0 + (gd) * 1) (.slice (some ⟨γ1 (nx), 0, none⟩) (N) (κ (γ1 (nx))))))) else L1) []) hS (g_move hF rfl), fun a w2 b hF hS hb hd => by have hF := hF.ext1 44 (hd 8 rfl rfl rfl); have hF := hF.ext1 45 (hd 9 rfl rfl rfl); exact parS_val (S := fun (b : Bool) w2 => MemX (rowsX b0 m γ) w w2 (if b then L1.set 0 (some (b0, (cs1.setIfInBounds (0 + (gd) * 1) (.slice (some ⟨γ1 (nx), 0, none⟩) (N) (κ (γ1 (nx))))))) else L1) []) hS (g_indexSl (i := gd) ty_sl_60 hF rfl rfl rfl (by omega)), fun a w2 b hF hS hb hd => by have hF := hF.ext1 46 (hd 10 rfl rfl rfl); obtain rfl := hb rfl; have hM : MemX (rowsX b0 m γ) w w2 L1 [] := hS; exact parS_val (S := fun (b : Bool) w2 => MemX (rowsX b0 m γ) w w2 (if b then L1.set 0 (some (b0, (cs1.setIfInBounds (0 + (gd) * 1) (.slice (some ⟨γ1 (nx), 0, none⟩) (N) (κ (γ1 (nx))))))) else L1) []) (b := false) hS (g_load ty_on_62 hF rfl (hM.row 0 hL1) (hg1 (gd) (by omega))), fun a w2 b hF hS hb hd => by have hF := hF.ext1 36 (hd 0 rfl rfl rfl); have hF := hF.ext1 37 (hd 1 rfl rfl rfl); exact parS_val (S := fun (b : Bool) w2 => MemX (rowsX b0 m γ) w w2 (if b then L1.set 0 (some (b0, (cs1.setIfInBounds (0 + (gd) * 1) (.slice (some ⟨γ1 (nx), 0, none⟩) (N) (κ (γ1 (nx))))))) else L1) []) hS (g_indexSl (i := gd) ty_sl_60 hF rfl rfl rfl (by omega)), fun a w2 hF hS hd => by have hF := hF.ext1 43 (hd 7 rfl rfl rfl); have hF := hF.ext1 48 (hd 12 rfl rfl rfl); have hM : MemX (rowsX b0 m γ) w w2 L1 [] := hS; exact d_store 0 hM hL1 ty_on_62 hF rfl rfl rfl (by omega), trivial⟩ ?_
          intro a w' hF hS hq
          have hM : MemX (rowsX b0 m γ) w w' (L1.set 0 (some (b0, (cs1.setIfInBounds (0 + (gd) * 1) (.slice (some ⟨γ1 (nx), 0, none⟩) (N) (κ (γ1 (nx)))))))) [] := hS
          have hF := hF.ext1 38 (hq 2 rfl rfl rfl)
          have hF := hF.ext1 39 (hq 3 rfl rfl rfl)
          have hF := hF.ext1 47 (hq 11 rfl rfl rfl)
          change wpList Try.prog _ _ [_, _] _ _
          refine st hF (g_indexSl ty_sl_60 hF rfl rfl rfl (by omega)) rfl fun a hF => ?_
          refine stN hF (d_store 0 hM (by rw [List.getElem?_set, if_pos rfl, if_pos (List.getElem?_eq_some_iff.1 hL1).1]) ty_on_62 hF rfl rfl rfl (by rw [Array.size_setIfInBounds]; omega)) ?_
          intro _ w' a hM hF
          have hM : MemX (rowsX b0 m γ) w w' ((L1.set 0 (some (b0, (cs1.setIfInBounds (0 + (gd) * 1) (.slice (some ⟨γ1 (nx), 0, none⟩) (N) (κ (γ1 (nx)))))))).set 0 (some (b0, ((cs1.setIfInBounds (0 + (gd) * 1) (.slice (some ⟨γ1 (nx), 0, none⟩) (N) (κ (γ1 (nx))))).setIfInBounds (0 + (nx) * 1) (.slice (some ⟨γ1 (gd), 0, none⟩) (N) (κ (γ1 (gd)))))))) [] := hM
          obtain ⟨L2, γ2, pos2, M2, cs2, hM, hL2, hsz2, hg2, hRL2, hRed2, hKer2, hM21, hmin2, hgX2⟩ : ∃ (L2 : Own) (γ2 pos2 : Nat → Nat) (M2 : Nat → Nat → Nat) (cs2 : Array Value), MemX (rowsX b0 m γ) w w' L2 [] ∧ L2[0]? = some (some (b0, cs2)) ∧ m ≤ cs2.size ∧ (∀ i, i < m → cs2[0 + i * 1]? = some (.slice (some ⟨γ2 i, 0, none⟩) N (κ (γ2 i)))) ∧ RowsLP L2 N m κ Xs γ2 pos2 M2 ∧ Red p N m M2 gd ld ∧ (∀ x, Ker p N M2 m x ↔ Ker p N M m x) ∧ (∀ i c, M2 i c < p) ∧ (∀ j, gd ≤ j → j < m → leadN (fun c => ((M2 gd c : Nat) : Int)) N ≤ leadN (fun c => ((M2 j c : Nat) : Int)) N) ∧ (∀ i, i < m → w.heap.size ≤ γ2 i ∨ γ2 i ∈ (rowsX b0 m γ)) := by
            refine ⟨_, Go.Ech.sw gd nx γ1, Go.Ech.sw gd nx pos1, Go.Ech.sw gd nx M1, ((cs1.setIfInBounds (0 + (gd) * 1) (.slice (some ⟨γ1 (nx), 0, none⟩) (N) (κ (γ1 (nx))))).setIfInBounds (0 + (nx) * 1) (.slice (some ⟨γ1 (gd), 0, none⟩) (N) (κ (γ1 (gd))))), hM, ?_, ?_, ?_, ((hRL1.swap (by omega) (by omega)).set0 _).set0 _, hRed1.swap (by omega) (by omega) (by omega) (by omega) (by omega), fun x => (ker_swap (by omega) (by omega)).trans (hKer1 x), fun i c => ?_, fun j h1 h2 => ?_, fun i hi => ?_⟩
            · rw [List.getElem?_set, if_pos rfl, if_pos (by rw [List.length_set]; exact (List.getElem?_eq_some_iff.1 hL1).1)]
            · rw [Array.size_setIfInBounds, Array.size_setIfInBounds]; exact hsz1
            · intro i hi
              rw [Array.getElem?_setIfInBounds, Array.size_setIfInBounds]
              unfold Go.Ech.sw
              by_cases e1 : i = nx
              · rw [if_pos (by omega), if_pos (by omega)]; by_cases e2 : i = gd
                · rw [if_pos e2, show gd = nx by omega]
                · rw [if_neg e2, if_pos e1]
              · rw [if_neg (by omega), Array.getElem?_setIfInBounds]; by_cases e2 : i = gd
                · rw [if_pos (by omega), if_pos (by omega), if_pos e2]
                · rw [if_neg (by omega), if_neg e2, if_neg e1]; exact hg1 i hi
            · unfold Go.Ech.sw; split; exact hM11 _ _; split; exact hM11 _ _; exact hM11 _ _
            · have ea : Go.Ech.sw gd nx M1 gd = M1 nx := by simp [Go.Ech.sw]
              rw [ea]
              unfold Go.Ech.sw; split
              · exact Nat.le_refl _
              · split
                · exact hmn gd (Nat.le_refl _) (by omega)
                · exact hmn j h1 h2
            · unfold Go.Ech.sw; split; exact hgX1 _ (by omega); split; exact hgX1 _ (by omega); exact hgX1 _ hi
          have hF := hF.sub [(0, .slice (some ⟨b0, 0, none⟩) (m) (c0)), (1, .int .i64 (((p : Nat) : Int))), (4, .slice none 0 0), (5, .int .i64 (((gd : Nat) : Int)))] (by repeat' constructor)
          refine wpList_nil ?_
          refine tN ?_
          refine sq ?_
          refine wp_region_lit ?_
          refine st hF (g_move hF rfl) rfl fun a hF => st hF (g_move hF rfl) rfl fun a hF => st hF (g_indexSl (i := gd) ty_sl_60 hF rfl rfl rfl (by omega)) rfl fun a hF => st hF (g_load ty_on_62 hF rfl (hM.row 0 hL2) (hg2 (gd) (by omega))) rfl fun a hF => st hF (g_assign hF rfl) rfl fun a hF => ?_
          refine wpList_nil ?_
          refine tN ?_
          refine sq ?_
          refine wp_region_lit ?_
          refine st hF (g_move hF rfl) rfl fun a hF => ?_
          refine stR hF (d_call Try.call81 hF (.cons rfl .nil) (leadingPlace_ok (γ2 (gd)) 0 (κ (γ2 (gd))) N _ (M2 (gd)) _ (hM.row _ (hRL2.at_ (gd) (by omega))) (fun i hi => rowP_get i (by omega) hi (hκ _)) (by omega))) rfl ?_
          rintro _ w' a ⟨hx, rfl⟩ hF
          have hM := hM.ext hx
          refine st hF (g_assign hF rfl) rfl fun a hF => ?_
          refine wpList_nil ?_
          refine tN ?_
          refine sq ?_
          refine sq ?_
          refine wp_region_lit ?_
          refine st hF (g_move hF rfl) rfl fun a hF => st hF (g_move hF rfl) rfl fun a hF => st hF (g_len ty_us_62 hF rfl) rfl fun a hF => st hF (g_eql hF rfl rfl) rfl fun a hF => ?_
          refine wpList_nil ?_
          refine tN ?_
          refine c_cond hF rfl (fun h4 => ?_) (fun h4 => ?_)
          ·
            have hz : ∀ j, gd ≤ j → j < m → ∀ c, c < N → M2 j c = 0 := fun j h1 h2 c hc => by
              have q := hmin2 j h1 h2
              rcases leadN_spec (f := fun c => ((M2 j c : Nat) : Int)) (n := N) with ⟨q1, q2, q3⟩ | ⟨q1, q2⟩
              · omega
              · have := q2 c hc; omega
            refine wp_exit ?_
            refine tX ?_
            refine ib_other rfl ?_
            refine tX ?_
            refine ib_same ?_
            refine tN ?_
            refine sq ?_
            refine wp_region_lit ?_
            refine st hF (g_move hF rfl) rfl fun a hF => st hF (g_move hF rfl) rfl fun a hF => st hF (g_sliceHi ty_us_60 ty_sz_62 hF rfl rfl rfl (by omega)) rfl fun a hF => st hF (g_assign hF rfl) rfl fun a hF => ?_
            refine wpList_nil ?_
            refine tN ?_
            refine wp_ret ?_
            refine fin1 rfl hF.defers (res_tmp hF rfl) ⟨_, rfl, hM.bel, ?_⟩
            exact ⟨gd, M2, γ2, ld, cs2, rfl, by omega, hRed2.done hM21 (by omega), fun x => (ker_cut (by omega) hz).trans (hKer2 x), hM21, hM.row 0 hL2, hg2, fun i hi => hM.row _ (hRL2.at_ i hi), hgX2⟩
          ·
            obtain ⟨htN, ht0, htl⟩ : leadN (fun c => ((M2 (gd) c : Nat) : Int)) N < N ∧ M2 gd (leadN (fun c => ((M2 (gd) c : Nat) : Int)) N) ≠ 0 ∧ ∀ j, gd ≤ j → j < m → ∀ c, c < leadN (fun c => ((M2 (gd) c : Nat) : Int)) N → M2 j c = 0 := by
              rcases leadN_spec (f := fun c => ((M2 gd c : Nat) : Int)) (n := N) with ⟨q1, q2, q3⟩ | ⟨q1, q2⟩
              · refine ⟨q1, fun e => q2 (by rw [e]; rfl), fun j h1 h2 c hc => ?_⟩
                have q := hmin2 j h1 h2
                rcases leadN_spec (f := fun c => ((M2 j c : Nat) : Int)) (n := N) with ⟨r1, r2, r3⟩ | ⟨r1, r2⟩
                · have := r3 c (by omega); omega
                · have := r2 c (by omega); omega
              · omega
            clear h4
            generalize leadN (fun c => ((M2 (gd) c : Nat) : Int)) N = t at hF htN ht0 htl
            have hinv := invN_lt (x := M2 gd t) (p := p) (by omega)
            have hF := hF.sub [(0, .slice (some ⟨b0, 0, none⟩) (m) (c0)), (1, .int .i64 (((p : Nat) : Int))), (4, .slice none 0 0), (5, .int .i64 (((gd : Nat) : Int))), (50, .slice (some ⟨b0, 0, none⟩) (m) (c0)), (51, .int .i64 (((gd : Nat) : Int))), (52, ptr b0 (0 + (gd) * 1)), (53, .slice (some ⟨γ2 (gd), 0, none⟩) (N) (κ (γ2 (gd)))), (8, .slice (some ⟨γ2 (gd), 0, none⟩) (N) (κ (γ2 (gd)))), (54, .slice (some ⟨γ2 (gd), 0, none⟩) (N) (κ (γ2 (gd)))), (55, .int .i64 (((t : Nat) : Int))), (9, .int .i64 (((t : Nat) : Int))), (56, .int .i64 (((t : Nat) : Int))), (57, .slice (some ⟨γ2 (gd), 0, none⟩) (N) (κ (γ2 (gd)))), (58, .int .i64 (((N : Nat) : Int)))] (by repeat' constructor)
            refine wp_skip ?_
            refine tN ?_
            refine sq ?_
            refine wp_region_lit ?_
            refine st hF (g_move hF rfl) rfl fun a hF => st hF (g_move hF rfl) rfl fun a hF => st hF (g_move hF rfl) rfl fun a hF => st hF (g_move hF rfl) rfl fun a hF => st hF (g_indexSl (i := t) ty_sl_62 hF rfl rfl rfl (by omega)) rfl fun a hF => st hF (g_load ty_on_5 hF rfl (hM.row _ (hRL2.at_ (gd) (by omega))) (rowP_get (t) (by omega) (by omega) (hκ _))) rfl fun a hF => st hF (g_move hF rfl) rfl fun a hF => ?_
            refine stR hF (d_call Try.call95 hF (.cons rfl (.cons rfl .nil)) (inverseNumber_ok (M2 (gd) (t)) (p) _ (by omega) (by omega) (by first | omega | exact Nat.le_of_lt (Nat.lt_of_lt_of_le (hM21 _ _) (by omega))))) rfl ?_
            rintro _ w' a ⟨hx, rfl⟩ hF
            have hM := hM.ext hx
            refine st hF (g_sub hF rfl rfl (wrap_i64 (by omega) (by omega))) rfl fun a hF => st hF (g_move hF rfl) rfl fun a hF => ?_
            refine stR hF (d_callX Try.call35 hF (.cons rfl (.cons rfl (.cons rfl (.cons rfl .nil)))) (addRowSelfP_ok p (γ2 gd) (κ (γ2 gd)) N (M2 gd) (Xs (γ2 gd)) (((((invN (M2 (gd) (t)) (p) : Nat) : Int) - 1)) ) _ (by omega) (by omega) (by omega) (by omega) (by omega) (hκ _) (fun i => by have := hM21 gd i; omega) (hM.row _ (hRL2.at_ (gd) (by omega))))) rfl ?_
            rintro u w' a ⟨hx, rfl, hbk⟩ hF
            obtain ⟨sc, hsc⟩ : ∃ sc : Nat → Nat, ∀ c, sc c = M2 gd c * invN (M2 gd t) p % p := ⟨_, fun _ => rfl⟩
            have hbk : Blk w' (γ2 gd) (rowP N (κ (γ2 gd)) sc (Xs (γ2 gd))) := by
              have e : sc = addN p (M2 gd) (M2 gd) (((invN (M2 gd t) p : Nat) : Int) - 1) := funext fun c => by rw [hsc, addN_self]
              rw [e]; exact hbk
            obtain ⟨L3, hM, hRL3, hL3⟩ := hM.updRowP hRL2 (by omega) hx sc hbk
            rw [hL2] at hL3
            change MemX (rowsX b0 m γ) w w' L3 [] at hM
            refine wpList_nil ?_
            refine tN ?_
            refine sq ?_
            refine sq ?_
            refine wp_region_lit ?_
            refine st hF (g_move hF rfl) rfl fun a hF => st hF (g_len ty_us_60 hF rfl) rfl fun a hF => st hF (g_move hF rfl) rfl fun a hF => ?_
            refine wpList_nil ?_
            refine tN ?_
            refine wp_block ?_
            change MemX (rowsX b0 m γ) w _ L3 [] at hM
            refine c_loop (fun (kk : Nat) a w' => kk ≤ m ∧ ∃ (L4 : Own), (L4[0]? = some (some (b0, cs2)) ∧ RowsLP L4 N m κ Xs γ2 pos2 (mixM p M2 gd t sc kk)) ∧ Fr 97 a [(0, .slice (some ⟨b0, 0, none⟩) (m) (c0)), (1, .int .i64 (((p : Nat) : Int))), (4, .slice none 0 0), (5, .int .i64 (((gd : Nat) : Int))), (50, .slice (some ⟨b0, 0, none⟩) (m) (c0)), (51, .int .i64 (((gd : Nat) : Int))), (52, ptr b0 (0 + (gd) * 1)), (53, .slice (some ⟨γ2 (gd), 0, none⟩) (N) (κ (γ2 (gd)))), (8, .slice (some ⟨γ2 (gd), 0, none⟩) (N) (κ (γ2 (gd)))), (54, .slice (some ⟨γ2 (gd), 0, none⟩) (N) (κ (γ2 (gd)))), (55, .int .i64 (((t : Nat) : Int))), (9, .int .i64 (((t : Nat) : Int))), (56, .int .i64 (((t : Nat) : Int))), (57, .slice (some ⟨γ2 (gd), 0, none⟩) (N) (κ (γ2 (gd)))), (58, .int .i64 (((N : Nat) : Int))), (60, .slice (some ⟨γ2 (gd), 0, none⟩) (N) (κ (γ2 (gd)))), (61, .slice (some ⟨γ2 (gd), 0, none⟩) (N) (κ (γ2 (gd)))), (62, .slice (some ⟨γ2 (gd), 0, none⟩) (N) (κ (γ2 (gd)))), (63, .int .i64 (((t : Nat) : Int))), (64, ptr (γ2 (gd)) (0 + (t) * 1)), (65, .int .u8 (((M2 (gd) (t) : Nat) : Int))), (66, .int .i64 (((p : Nat) : Int))), (67, .int .i64 (((invN (M2 (gd) (t)) (p) : Nat) : Int))), (68, .int .i64 (((invN (M2 (gd) (t)) (p) : Nat) : Int) - 1)), (69, .int .i64 (((p : Nat) : Int))), (70, .tuple #[]), (71, .slice (some ⟨b0, 0, none⟩) (m) (c0)), (72, .int .i64 (((m : Nat) : Int))), (73, .int .i64 (((kk : Nat) : Int)))] ∧ MemX (rowsX b0 m γ) w w' L4 []) (fun kk => m - kk) 0 ?_ ?_
            ·
              refine ⟨by omega, L3, ⟨hL3, hRL3.congr (fun i _ => mixM_zero i)⟩, hF.sub _ (by repeat' constructor), ?_⟩
              exact hM
            ·
              clear hF hM
              rintro gr a w' ⟨hgr, L4, ⟨hL4, hRL4⟩, hF, hM⟩
              have hmx : ∀ i c, mixM p M2 gd t sc gr i c < p := fun i c => by (unfold mixM; split; exact lsM_lt (by omega); split; (rw [hsc]; exact Nat.mod_lt _ (by omega)); exact hM21 i c)
              have hmt := hmx gr t
              refine sq ?_
              refine wp_region_lit ?_
              refine st hF (g_lss hF rfl rfl) rfl fun a hF => ?_
              refine wpList_nil ?_
              refine tN ?_
              refine sq ?_
              refine c_cond hF rfl (fun h5 => ?_) (fun h5 => ?_)
              ·
                refine wp_skip ?_
                refine tN ?_
                refine sq ?_
                refine wp_block ?_
                refine sq ?_
                refine wp_region_lit ?_
                refine st hF (g_move hF rfl) rfl fun a hF => st hF (g_indexSl (i := gr) ty_sl_60 hF rfl rfl rfl (by omega)) rfl fun a hF => st hF (g_load ty_on_62 hF rfl (hM.row 0 hL4) (hg2 (gr) (by omega))) rfl fun a hF => st hF (g_assign hF rfl) rfl fun a hF => st hF (g_assign hF rfl) rfl fun a hF => ?_
                refine wpList_nil ?_
                refine tN ?_
                refine sq ?_
                refine wp_region_lit ?_
                refine st hF (g_move hF rfl) rfl fun a hF => st hF (g_move hF rfl) rfl fun a hF => st hF (g_neq hF rfl rfl) rfl fun a hF => ?_
                refine wpList_nil ?_
                refine tN ?_
                refine c_cond hF rfl (fun h6 => ?_) (fun h6 => ?_)
                ·
                  refine wp_region_lit ?_
                  refine st hF (g_move hF rfl) rfl fun a hF => st hF (g_move hF rfl) rfl fun a hF => st hF (g_move hF rfl) rfl fun a hF => st hF (g_move hF rfl) rfl fun a hF => st hF (g_indexSl (i := t) ty_sl_62 hF rfl rfl rfl (by omega)) rfl fun a hF => st hF (g_load ty_on_5 hF rfl (hM.row _ (hRL4.at_ (gr) (by omega))) (rowP_get (t) (by omega) (by omega) (hκ _))) rfl fun a hF => st hF (g_conv ty_un_2 ty_ud_5 hF rfl (wrap_i64 (by omega) (by omega))) rfl fun a hF => st hF (g_neg hF rfl (wrap_i64 (by have := hmx gr t; omega) (by have := hmx gr t; omega))) rfl fun a hF => st hF (g_move hF rfl) rfl fun a hF => ?_
                  refine stR hF (d_callX Try.call35 hF (.cons rfl (.cons rfl (.cons rfl (.cons rfl .nil)))) (addRowP_ok p (γ2 gr) (κ (γ2 gr)) (γ2 gd) 0 (κ (γ2 gd)) N _ (mixM p M2 gd t sc gr gr) (mixM p M2 gd t sc gr gd) (Xs (γ2 gr)) (-((((mixM p M2 gd t sc gr) (gr) (t) : Nat) : Int))) _ (by omega) (by omega) (by omega) (by omega) (by omega) (hκ _) (fun i => by have := hmx gr i; omega) (hM.row _ (hRL4.at_ (gr) (by omega))) (fun i => by have := hmx gd i; omega) (hRL4.apart hM (by omega) (by omega) (fun e => by omega)) (hM.row _ (hRL4.at_ (gd) (by omega))) (fun i hi => rowP_get i (by omega) hi (hκ _)))) rfl ?_
                  rintro u w' a ⟨hx, rfl, hbk⟩ hF
                  have hbk : Blk w' (γ2 gr) (rowP N (κ (γ2 gr)) (lsM p (M2 gr) sc (M2 gr t)) (Xs (γ2 gr))) := by
                    have e1 : mixM p M2 gd t sc gr gr = M2 gr := by unfold mixM; rw [if_neg (by omega), if_neg (by omega)]
                    have e2 : mixM p M2 gd t sc gr gd = sc := by unfold mixM; rw [if_neg (by omega), if_pos rfl]
                    have e : lsM p (M2 gr) sc (M2 gr t) = addN p (mixM p M2 gd t sc gr gr) (mixM p M2 gd t sc gr gd) (-((mixM p M2 gd t sc gr gr t : Nat) : Int)) := funext fun c => by rw [addN_neg, e1, e2]
                    rw [e]; exact hbk
                  obtain ⟨L5, hM, hRL5, hL5⟩ := hM.updRowP hRL4 (by omega) hx _ hbk
                  rw [hL4] at hL5
                  change MemX (rowsX b0 m γ) w w' L5 [] at hM
                  refine wpList_nil ?_
                  refine iN ?_
                  refine tN ?_
                  refine wp_region_lit ?_
                  refine st hF (g_add hF rfl rfl (add_nat (gr) (1) (by omega))) rfl fun a hF => st hF (g_move hF rfl) rfl fun a hF => ?_
                  refine wpList_nil ?_
                  refine tN ?_
                  refine ⟨gr + 1, ⟨by omega, L5, ⟨hL5, hRL5.congr (fun i _ => mixM_step (by omega) i)⟩, hF.sub _ (by repeat' constructor), ?_⟩, by omega⟩
                  exact hM
                ·
                  refine wp_skip ?_
                  refine iN ?_
                  refine tN ?_
                  refine wp_region_lit ?_
                  refine st hF (g_add hF rfl rfl (add_nat (gr) (1) (by omega))) rfl fun a hF => st hF (g_move hF rfl) rfl fun a hF => ?_
                  refine wpList_nil ?_
                  refine tN ?_
                  refine ⟨gr + 1, ⟨by omega, L4, ⟨hL4, hRL4.congr (fun i _ => by have e : gr = gd := (by omega); rw [e]; exact mixM_skip i)⟩, hF.sub _ (by repeat' constructor), ?_⟩, by omega⟩
                  exact hM
              ·
                obtain rfl : m = gr := by omega
                refine wp_exit ?_
                refine tX ?_
                refine tX ?_
                refine ib_same ?_
                refine tN ?_
                refine wp_region_lit ?_
                refine st hF (g_move hF rfl) rfl fun a hF => st hF (g_add hF rfl rfl (add_nat (gd) (1) (by omega))) rfl fun a hF => st hF (g_assign hF rfl) rfl fun a hF => ?_
                refine wpList_nil ?_
                refine iN ?_
                refine tN ?_
                have h1v := invN_ok hp (hM21 gd t) ht0
                refine ⟨gd + 1, ⟨by omega, L4, γ2, pos2, (elimM p M2 gd t sc), cs2, (upE ld gd t), ⟨hL4, hsz2, hg2, hRL4.congr (fun i hi => mixM_all hi), hRed2.step (by omega) hM21 (by omega) htN ht0 htl hsc h1v, fun x => (elim_ker (by omega) (by omega) hsc h1v).trans (hKer2 x), fun i c => by (unfold elimM; split; (rw [hsc]; exact Nat.mod_lt _ (by omega)); exact lsM_lt (by omega)), hgX2⟩, hF.sub _ (by repeat' constructor), ?_⟩, by omega⟩
                exact hM
    ·
      obtain rfl : m = gd := by omega
      refine wp_exit ?_
      refine tX ?_
      refine tX ?_
      refine ib_same ?_
      refine tN ?_
      refine sq ?_
      refine wp_region_lit ?_
      refine st hF (g_move hF rfl) rfl fun a hF => st hF (g_move hF rfl) rfl fun a hF => st hF (g_sliceHi ty_us_60 ty_sz_62 hF rfl rfl rfl (by omega)) rfl fun a hF => st hF (g_assign hF rfl) rfl fun a hF => ?_
      refine wpList_nil ?_
      refine tN ?_
      refine wp_ret ?_
      refine fin1 rfl hF.defers (res_tmp hF rfl) ⟨_, rfl, hM.bel, ?_⟩
      exact ⟨m, M1, γ1, ld, cs1, rfl, Nat.le_refl _, hRed1.done hM11 (Nat.le_refl _), hKer1, hM11, hM.row 0 hL1, hg1, fun i hi => hM.row _ (hRL1.at_ i hi), hgX1⟩

end Go.Proofs.Ytfbhngnfhpjonaa

namespace Go.Proofs.Ytfbhngnfhpjonaa
open Go Go.RowKit Go.Sw Go.Ech
open Classical
theorem ty_sz_5 : sizeP Try.prog 5 = some 1 := by kernel_rfl
theorem ty_si_62 : slI Try.prog 62 = some (5, some (.int .u8 (0)), 1, 1) := by kernel_rfl
theorem ty_bsg_27_1 : ∀ (v0 : Nat → Nat) (w : World), (Instr.buildSlice 27 1 #[(0, .agg (vecC v0))]).run Try.prog w = .ok (.slice (some ⟨w.heap.size, 0, none⟩) 1 1) (w.alloc (.cells (vecsC 1 (vAtL [v0])) 30)) := by intros; kernel_rfl
theorem ty_si_27 : slI Try.prog 27 = some (30, some (.agg (fnC 6 (fun _ => .int .u8 (0)))), 6, 6) := by kernel_rfl
theorem formM_out {p n : Nat} {T : Nat → Nat → Nat → Nat} {f : Nat → Nat} {i c : Nat} (h : n ≤ c) : formM p n T f i c = 0 := by
  unfold formM; rw [if_neg (by omega)]

theorem copairing_ok (p n : Nat) (T : Nat → Nat → Nat → Nat) (f : Nat → Nat) (G : Nat → Nat → Nat) (w : World) (hp : primeN p) (hn0 : 0 < n) (hn : n ≤ 6) (hT : ∀ i j k, T i j k ≤ 255) (hf : ∀ i, f i ≤ 255) (hfr : FrobN p n T f) (hG : IsCop p n (formM p n T f) G) :
    CallsR Try.prog 65 #[.agg (algC (p : Int) (n : Int) T f)] w (fun u w' => OwnSl 6 w n (fun c => .int .u8 ((G (c / 6) (c % 6) : Nat) : Int)) u w') := by
  refine calls_fr [.agg (algC (p : Int) (n : Int) T f)] Try.func65 rfl Try.ntmps65 rfl fun a hF => ?_
  have hM : Mem w w [none, none, none, none, none, none] [] := MemX.start w 6
  change Fr 46 a [(0, .agg (algC (p : Int) (n : Int) T f))] at hF
  have hp2 := hp.two
  have hp13 := hp.le
  refine sq ?_
  refine wp_region_lit ?_
  refine stR hF (d_box 0 hM hF rfl) rfl ?_
  rintro _ w' a ⟨b1, rfl, hM, -⟩ hF
  change Mem w w' [some (b1, algC (p : Int) (n : Int) T f), none, none, none, none, none] [] at hM
  refine st hF (g_assign hF rfl) rfl fun a hF => ?_
  refine wpList_nil ?_
  refine tN ?_
  refine sq ?_
  refine wp_region_lit ?_
  refine st hF (g_loadAgg ty_ag_32 hF rfl (hM.row 0 rfl) (by simp only [fnC_size, cells_size, vecC_size, tabC_size, planeC_size] <;> omega) (whole cells_size)) rfl fun a hF => ?_
  refine stR hF (d_call Try.call34 hF (.cons rfl .nil) (formRows_ok p n T f _ (by omega) (by omega) (by omega) (by omega) hT hf)) rfl ?_
  rintro u w' a ⟨hx, hr⟩ hF
  obtain ⟨D1, β, bo, cs0, hB, rfl, hsz0, hgo0, hM⟩ := hM.addBoL 3 hx hr
  rw [List.append_nil] at hM
  change Mem w w' [some (b1, algC (p : Int) (n : Int) T f), none, none, some (bo, cs0), none, none] D1 at hM
  refine st hF (g_assign hF rfl) rfl fun a hF => ?_
  refine wpList_nil ?_
  refine tN ?_
  refine sq ?_
  refine sq ?_
  refine wp_region_lit ?_
  refine st hF (g_move hF rfl) rfl fun a hF => st hF (g_len ty_us_60 hF rfl) rfl fun a hF => st hF (g_move hF rfl) rfl fun a hF => ?_
  refine wpList_nil ?_
  refine tN ?_
  refine wp_block ?_
  change Mem w _ [some (b1, algC (p : Int) (n : Int) T f), none, none, some (bo, cs0), none, none] D1 at hM
  refine c_loop (fun (kk : Nat) a w' => kk ≤ n ∧ ∃ (D2 : Froz), ∃ (γ : Nat → Nat), ∃ (κ : Nat → Nat), ∃ (Xs : Nat → Nat → Value), ∃ (cso : Array Value), (cso.size = n ∧ (∀ i, i < kk → cso[0 + i * 1]? = some (.slice (some ⟨γ i, 0, none⟩) 12 (κ (γ i)))) ∧ (∀ i, kk ≤ i → i < n → cso[0 + i * 1]? = some (.slice (some ⟨β i, 0, none⟩) 6 6)) ∧ RowsPD D2 12 kk κ Xs γ (augI (formM p n T f)) ∧ (∀ i, i < kk → w.heap.size ≤ γ i) ∧ (∀ b, 12 ≤ κ b) ∧ (∀ x ∈ D1, x ∈ D2)) ∧ Fr 46 a [(0, .agg (algC (p : Int) (n : Int) T f)), (1, ptr b1 (0)), (2, .slice none 0 0), (10, .agg (algC (p : Int) (n : Int) T f)), (11, .slice (some ⟨bo, 0, none⟩) (n) (n)), (3, .slice (some ⟨bo, 0, none⟩) (n) (n)), (12, .slice (some ⟨bo, 0, none⟩) (n) (n)), (13, .int .i64 (((n : Nat) : Int))), (14, .int .i64 (((kk : Nat) : Int)))] ∧ Mem w w' [some (b1, algC (p : Int) (n : Int) T f), none, none, some (bo, cso), none, none] D2) (fun kk => n - kk) 0 ?_ ?_
  ·
    refine ⟨by omega, D1, (fun _ => 0), (fun _ => 12), (fun _ _ => undef), cs0, ⟨hsz0, fun i hi => absurd hi (by omega), fun i _ hi => hgo0 i hi, RowsPD.none, fun i hi => absurd hi (by omega), fun _ => Nat.le_refl _, fun x hx => hx⟩, hF.sub _ (by repeat' constructor), ?_⟩
    exact hM
  ·
    clear hF hM
    rintro gk a w' ⟨hgk, D2, γ, κ, Xs, cso, ⟨hso, hgo1, hgo2, hP, hbg, hκ, hsub⟩, hF, hM⟩
    refine sq ?_
    refine wp_region_lit ?_
    refine st hF (g_lss hF rfl rfl) rfl fun a hF => ?_
    refine wpList_nil ?_
    refine tN ?_
    refine sq ?_
    refine c_cond hF rfl (fun h2 => ?_) (fun h2 => ?_)
    ·
      refine wp_skip ?_
      refine tN ?_
      refine sq ?_
      refine wp_block ?_
      refine sq ?_
      refine wp_region_lit ?_
      refine st hF (g_move hF rfl) rfl fun a hF => st hF (g_indexSl (i := gk) ty_sl_60 hF rfl rfl rfl (by omega)) rfl fun a hF => st hF (g_load ty_on_62 hF rfl (hM.row 3 rfl) (hgo2 (gk) (by omega) (by omega))) rfl fun a hF => st hF (g_assign hF rfl) rfl fun a hF => st hF (g_assign hF rfl) rfl fun a hF => ?_
      refine wpList_nil ?_
      refine tN ?_
      refine sq ?_
      refine wp_region_lit ?_
      refine st hF (g_move hF rfl) rfl fun a hF => ?_
      refine stR hF (d_call Try.call55 hF (.cons rfl .nil) (basisVector_ok (gk) _ (by omega))) rfl ?_
      rintro _ w' a ⟨hx, rfl⟩ hF
      have hM := hM.ext hx
      refine stR hF (d_alloc 1 hM ty_ze_30) rfl ?_
      rintro _ w' a ⟨b3, rfl, hM, -⟩ hF
      change Mem w w' [some (b1, algC (p : Int) (n : Int) T f), some (b3, fnC 6 (fun _ => .int .u8 (0))), none, some (bo, cso), none, none] D2 at hM
      refine stN hF (d_storeAgg 1 hM rfl ty_sz_30 hF rfl rfl (by first | exact vecC_one | exact cells_one | (refine fnC_one fun _ _ => ?_; first | rfl | (split <;> rfl))) (by simp only [fnC_size, cells_size, vecC_size, tabC_size, planeC_size]) (by simp only [fnC_size, cells_size, vecC_size, tabC_size, planeC_size] <;> omega) (splice_whole _ _ (by simp only [fnC_size, cells_size, vecC_size, tabC_size, planeC_size]))) ?_
      intro _ w' a hM hF
      change Mem w w' [some (b1, algC (p : Int) (n : Int) T f), some (b3, vecC (fun c => if c = gk then 1 else 0)), none, some (bo, cso), none, none] D2 at hM
      refine wpList_nil ?_
      refine tN ?_
      refine wp_region_lit ?_
      refine st hF (g_move hF rfl) rfl fun a hF => st hF (g_move hF rfl) rfl fun a hF => st hF (g_move hF rfl) rfl fun a hF => st hF (g_sliceArr ty_ua_30 ty_sz_5 (by decide) hF rfl) rfl fun a hF => ?_
      refine stR hF (d_appendFz (k := 4) (f := fun c => .int .u8 ((formM p n T f gk c : Nat) : Int)) (g := fun c => .int .u8 (((if c = gk then 1 else 0 : Nat)) : Int)) ty_si_62 rfl (by decide) hM hF rfl rfl (hM.fzm (hsub _ (hB.mem gk (by omega)))) (fun i hi => fnC_get (by omega)) (fun i hi => ((hM.row 1 rfl).cell _).trans ((show _ = _ from by rw [Nat.zero_add]; exact fnC_get (by omega)))) (by decide) (by decide) (by decide)) rfl ?_
      rintro u w' a ⟨bn, capn, csn, hsl, hM⟩ hF
      obtain rfl := hsl.val
      change Mem w w' [some (b1, algC (p : Int) (n : Int) T f), some (b3, vecC (fun c => if c = gk then 1 else 0)), none, some (bo, cso), some (bn, csn), none] D2 at hM
      refine st hF (g_indexSl (i := gk) ty_sl_60 hF rfl rfl rfl (by omega)) rfl fun a hF => ?_
      refine stN hF (d_store 3 hM rfl ty_on_62 hF rfl rfl rfl (by first | omega | (simp only [fnC_size, cells_size, vecC_size, tabC_size, planeC_size] <;> omega))) ?_
      intro _ w' a hM hF
      change Mem w w' [some (b1, algC (p : Int) (n : Int) T f), some (b3, vecC (fun c => if c = gk then 1 else 0)), none, some (bo, (cso).setIfInBounds (0 + (gk) * 1) (.slice (some ⟨bn, 0, none⟩) (6 + 6) (capn))), some (bn, csn), none] D2 at hM
      refine wpList_nil ?_
      refine iN ?_
      refine tN ?_
      refine wp_region_lit ?_
      refine st hF (g_add hF rfl rfl (add_nat (gk) (1) (by omega))) rfl fun a hF => st hF (g_move hF rfl) rfl fun a hF => ?_
      refine wpList_nil ?_
      refine tN ?_
      have hcap := hsl.le
      have hgb := hM.ge 4 rfl
      have hnb := fun i hi => (hM.froz _ _ (hP.mem i hi)).2 4 bn _ rfl
      have hM := hM.freeze 4 rfl
      have hrow : csn = rowP 12 capn (augI (formM p n T f) gk) (fun c => csn[c]?.getD undef) := (hsl.congr (g := fun c => .int .u8 ((augI (formM p n T f) gk c : Nat) : Int)) (fun c hc => aug_row (by omega))).rowP
      have hP := ((hP.more (D' := (bn, csn) :: D2) (fun x hx => List.mem_cons_of_mem _ hx)).snoc hrow (List.mem_cons_self ..) hnb).congr (M' := augI (formM p n T f)) (fun i hi c hc => by
        by_cases e : i = gk <;> simp [upE, e])
      have hgo1 : ∀ i, i < gk + 1 → ((cso).setIfInBounds (0 + (gk) * 1) (.slice (some ⟨bn, 0, none⟩) (6 + 6) (capn)))[0 + i * 1]? = some (.slice (some ⟨up γ gk bn i, 0, none⟩) 12 ((fun y => if y = bn then capn else κ y) (up γ gk bn i))) := fun i hi => by
        by_cases e : i = gk
        · rw [e, up_eq, Array.getElem?_setIfInBounds_self_of_lt (by omega)]; show _ = some (Value.slice _ 12 (if bn = bn then capn else κ bn)); rw [if_pos rfl]
        · have hne : ¬ γ i = bn := fun h2 => hnb i (by omega) h2.symm
          rw [up_ne e, Array.getElem?_setIfInBounds_ne (by omega)]; show _ = some (Value.slice _ 12 (if γ i = bn then capn else κ (γ i))); rw [if_neg hne]; exact hgo1 i (by omega)
      have hgo2 : ∀ i, gk + 1 ≤ i → i < n → ((cso).setIfInBounds (0 + (gk) * 1) (.slice (some ⟨bn, 0, none⟩) (6 + 6) (capn)))[0 + i * 1]? = some (.slice (some ⟨β i, 0, none⟩) 6 6) := fun i h1 h2 => by rw [Array.getElem?_setIfInBounds_ne (by omega)]; exact hgo2 i (by omega) h2
      have hbg : ∀ i, i < gk + 1 → w.heap.size ≤ up γ gk bn i := fun i hi => by
        unfold up; split
        · exact hgb
        · exact hbg i (by omega)
      have hκ : ∀ b, 12 ≤ (fun y => if y = bn then capn else κ y) b := fun b => by
        show 12 ≤ (if b = bn then capn else κ b)
        split
        · exact hcap
        · exact hκ b
      have hM := hM.drop 1
      refine ⟨gk + 1, ⟨by omega, ((bn, csn) :: D2), (up γ gk bn), (fun y => if y = bn then capn else κ y), (fun y => if y = bn then (fun c => csn[c]?.getD undef) else Xs y), ((cso).setIfInBounds (0 + (gk) * 1) (.slice (some ⟨bn, 0, none⟩) (6 + 6) (capn))), ⟨by rw [Array.size_setIfInBounds]; exact hso, hgo1, hgo2, hP, hbg, hκ, fun x hx => List.mem_cons_of_mem _ (hsub x hx)⟩, hF.sub _ (by repeat' constructor), ?_⟩, by omega⟩
      exact hM
    ·
      obtain rfl : n = gk := by omega
      refine wp_exit ?_
      refine tX ?_
      refine tX ?_
      refine ib_same ?_
      refine tN ?_
      refine sq ?_
      refine wp_region_lit ?_
      refine st hF (g_assign hF rfl) rfl fun a hF => ?_
      refine wpList_nil ?_
      refine tN ?_
      refine sq ?_
      refine sq ?_
      refine wp_region_lit ?_
      refine st hF (g_move hF rfl) rfl fun a hF => st hF (g_fieldAddr ty_fo_32_0 hF rfl) rfl fun a hF => st hF (g_load ty_on_2 hF rfl (hM.row 0 rfl) (algC_p (by omega))) rfl fun a hF => ?_
      refine stR hF (d_callX Try.call71 hF (.cons rfl (.cons rfl .nil)) (reduceRowsP_ok p 12 n bo n cso κ Xs γ (augI (formM p n T f)) _ hp hκ (by omega) (by omega) (by omega) (Nat.le_refl _) (fun i c => by have := formM_lt (p := p) (n := n) (T := T) (f := f) (by omega) i c; unfold augI; split; exact this; split <;> omega) (hM.row 3 rfl) (by omega) hgo1 (fun i hi => hM.fzm (hP.mem i hi)) hP.inj (fun i hi e => (hM.froz _ _ (hP.mem i hi)).2 3 bo _ rfl e.symm))) rfl ?_
      rintro u w2 a ⟨hx, k', M2, γ2, ld, cs2, hu, hkm, hR2, hK2, hM21, hb2, hg2, hr2, hf2⟩ hF
      obtain ⟨hkn, hG2, hz2⟩ := cop_of hp2 hn0 hn (fun i c h => formM_out h) hfr hR2 hkm hK2 hM21
      have hGe : ∀ i, i < n → ∀ q, q < 6 → M2 i (6 + q) = G i q := fun i hi q hq => by
        have e := hG2.unique hp2 hn (fun i c h => formM_out h) hfr hG
        have e2 := congrFun (congrFun e i) q
        by_cases h : q < n
        · rw [← e2, if_pos ⟨hi, h⟩]
        · rw [hz2 i hi q (by omega) hq, hG.out i q (by omega)]
      rw [hkn] at hu
      subst hu
      have hM := hM.reduced (k := 3) rfl hP (hM.ge 3 rfl) hbg hx hf2 hb2 hr2
      change Mem w w2 [some (b1, algC (p : Int) (n : Int) T f), none, none, none, none, none] ((bo, cs2) :: (List.range n).map (fun i => (γ2 i, rowP 12 (κ (γ2 i)) (M2 i) (Xs (γ2 i))))) at hM
      refine st hF (g_len ty_us_60 hF rfl) rfl fun a hF => st hF (g_move hF rfl) rfl fun a hF => ?_
      refine wpList_nil ?_
      refine tN ?_
      refine wp_block ?_
      change Mem w _ [some (b1, algC (p : Int) (n : Int) T f), none, none, none, none, none] ((bo, cs2) :: (List.range n).map (fun i => (γ2 i, rowP 12 (κ (γ2 i)) (M2 i) (Xs (γ2 i))))) at hM
      refine c_loop (fun (kk : Nat) a w' => kk ≤ n ∧ (True) ∧ ∃ (u7_2 : Value) (e7_2 : Option (Nat × Array Value)), Sl 6 u7_2 e7_2 (kk) (fun c => .int .u8 ((G (c / 6) (c % 6) : Nat) : Int)) ∧ Fr 46 a [(0, .agg (algC (p : Int) (n : Int) T f)), (1, ptr b1 (0)), (2, .slice none 0 0), (10, .agg (algC (p : Int) (n : Int) T f)), (11, .slice (some ⟨bo, 0, none⟩) (n) (n)), (3, .slice (some ⟨bo, 0, none⟩) (n) (n)), (12, .slice (some ⟨bo, 0, none⟩) (n) (n)), (13, .int .i64 (((n : Nat) : Int))), (14, .int .i64 (((n : Nat) : Int))), (15, .bool (decide ((((n : Nat) : Int) : Int) < ((n : Nat) : Int)))), (28, .slice (some ⟨bo, 0, none⟩) (n) (n)), (29, ptr b1 (0 + 0)), (30, .int .i64 (((p : Nat) : Int))), (31, .slice (some ⟨bo, 0, none⟩) (n) (n)), (32, .int .i64 (((n : Nat) : Int))), (33, .int .i64 (((kk : Nat) : Int))), (7, u7_2)] ∧ Mem w w' [some (b1, algC (p : Int) (n : Int) T f), none, none, none, none, e7_2] ((bo, cs2) :: (List.range n).map (fun i => (γ2 i, rowP 12 (κ (γ2 i)) (M2 i) (Xs (γ2 i)))))) (fun kk => n - kk) 0 ?_ ?_
      ·
        refine ⟨by omega, trivial, (.slice none 0 0), (none), (Sl.nil 6 _), hF.sub _ (by repeat' constructor), ?_⟩
        exact hM
      ·
        clear hF hM
        rintro gj a w' ⟨hgj, hinv2, u7_2, e7_2, hsl2, hF, hM⟩
        refine sq ?_
        refine wp_region_lit ?_
        refine st hF (g_lss hF rfl rfl) rfl fun a hF => ?_
        refine wpList_nil ?_
        refine tN ?_
        refine sq ?_
        refine c_cond hF rfl (fun h4 => ?_) (fun h4 => ?_)
        ·
          refine wp_skip ?_
          refine tN ?_
          refine sq ?_
          refine wp_block ?_
          refine sq ?_
          refine wp_region_lit ?_
          refine st hF (g_indexSl (i := gj) ty_sl_60 hF rfl rfl rfl (by omega)) rfl fun a hF => st hF (g_load ty_on_62 hF rfl (hM.fzm (List.mem_cons_self ..)) (hg2 (gj) (by omega))) rfl fun a hF => st hF (g_assign hF rfl) rfl fun a hF => ?_
          refine wpList_nil ?_
          refine tN ?_
          refine wp_region_lit ?_
          refine st hF (g_move hF rfl) rfl fun a hF => st hF (g_move hF rfl) rfl fun a hF => st hF (g_sliceLo (i := 6) ty_us_62 ty_sz_5 hF rfl rfl rfl (by omega) (hκ _) (by have := hκ (γ2 (gj)); omega)) rfl fun a hF => st hF (g_toArr ty_ua_30 hF rfl (by omega)) rfl fun a hF => st hF (g_loadAgg ty_ag_30 hF rfl (hM.fzm (mem_rowsD (γ := γ2) (R := fun i => rowP 12 (κ (γ2 i)) (M2 i) (Xs (γ2 i))) (i := gj) (by omega))) (by have := hκ (γ2 (gj)); rw [rowP_size]; omega) (rowP_vec (hκ _))) rfl fun a hF => ?_
          refine stR hF (d_buildC (vs := [(0, .agg (vecC (fun q => M2 (gj) (6 + q))))]) 2 hM hF (build1 hF rfl) (fun w => ty_bsg_27_1 (fun q => M2 (gj) (6 + q)) w)) rfl ?_
          rintro _ w' a ⟨b5, rfl, hM, -⟩ hF
          change Mem w w' [some (b1, algC (p : Int) (n : Int) T f), none, some (b5, vecsC 1 (vAtL [(fun q => M2 (gj) (6 + q))])), none, none, e7_2] ((bo, cs2) :: (List.range n).map (fun i => (γ2 i, rowP 12 (κ (γ2 i)) (M2 i) (Xs (γ2 i))))) at hM
          refine stR hF (d_append (k := 5) (N := gj) (m := 1) (f := (fun c => .int .u8 ((G (c / 6) (c % 6) : Nat) : Int))) (g := fun q => .int .u8 (((((fun q => M2 (gj) (6 + q))) q : Nat)) : Int)) ty_si_27 rfl (by decide) hM rfl hF rfl rfl hsl2 (fun q hq => ((hM.row 2 rfl).cell _).trans (vecs1_get q hq)) (fun _ _ => rfl) (by decide) (by unfold maxLen; omega) (by omega)) rfl ?_
          rintro u6 w' a ⟨e7, hM, hs8⟩ hF
          change Mem w w' [some (b1, algC (p : Int) (n : Int) T f), none, some (b5, vecsC 1 (vAtL [(fun q => M2 (gj) (6 + q))])), none, none, e7] ((bo, cs2) :: (List.range n).map (fun i => (γ2 i, rowP 12 (κ (γ2 i)) (M2 i) (Xs (γ2 i))))) at hM
          refine st hF (g_assign hF rfl) rfl fun a hF => ?_
          refine wpList_nil ?_
          refine iN ?_
          refine tN ?_
          refine wp_region_lit ?_
          refine st hF (g_add hF rfl rfl (add_nat (gj) (1) (by omega))) rfl fun a hF => st hF (g_move hF rfl) rfl fun a hF => ?_
          refine wpList_nil ?_
          refine tN ?_
          have hM := hM.drop 2
          refine ⟨gj + 1, ⟨by omega, trivial, (u6), (e7), (Sl.snoc6 (N := gj) (F := (fun c => .int .u8 ((G (c / 6) (c % 6) : Nat) : Int))) (G := fun q => .int .u8 ((M2 gj (6 + q) : Nat) : Int)) hs8 (fun q hq => by rw [show (gj * 6 + q) / 6 = gj by omega, show (gj * 6 + q) % 6 = q by omega, hGe gj (by omega) q hq])), hF.sub _ (by repeat' constructor), ?_⟩, by omega⟩
          exact hM
        ·
          obtain rfl : n = gj := by omega
          refine wp_exit ?_
          refine tX ?_
          refine tX ?_
          refine ib_same ?_
          refine tN ?_
          refine sq ?_
          refine wp_region_lit ?_
          refine st hF (g_move hF rfl) rfl fun a hF => st hF (g_assign hF rfl) rfl fun a hF => ?_
          refine wpList_nil ?_
          refine tN ?_
          refine wp_ret ?_
          refine fin1 rfl hF.defers (res_tmp hF rfl) ⟨_, rfl, hM.below, ?_⟩
          exact OwnSl.pos hM (k := 5) rfl (hsl2) hn0

end Go.Proofs.Ytfbhngnfhpjonaa
