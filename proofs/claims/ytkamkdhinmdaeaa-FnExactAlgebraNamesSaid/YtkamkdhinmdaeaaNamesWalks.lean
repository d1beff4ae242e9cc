/- What the functions behind the law of AlgebraNames return, as walks over their operations. -/
import Derived.Test.YtkamkdhinmdaeaaSw9
import Derived.Test.YtkamkdhinmdaeaaChecked
namespace Go.Proofs.Ytkamkdhinmdaeaa
open Go Go.RowKit Go.Sw
set_option linter.unusedVariables false
set_option linter.unusedSimpArgs false
theorem hmix : Try.prog.follows .mixedOrders = true := by kernel_rfl
theorem fnC_getE {n : Nat} {f : Nat → Value} {o : Nat} {v : Value} (i : Nat) (h : o = i) (hi : i < n) (hv : f i = v) : (fnC n f)[o]? = some v := by subst h; subst hv; exact fnC_get hi
/-- The mark of k. -/
def mtx (k : Nat) : ByteArray := ⟨#[109, UInt8.ofNat (48 + k)]⟩
def nmS (i : Nat) : ByteArray := match i with
  | 0 => ⟨#[102, 105, 101, 108, 100]⟩
  | 1 => ⟨#[100, 117, 97, 108]⟩
  | 2 => ⟨#[112, 97, 105, 114]⟩
  | 3 => ⟨#[99, 121, 99, 108, 105, 99, 51]⟩
  | 4 => ⟨#[115, 121, 109, 109, 101, 116, 114, 105, 99]⟩
  | _ => ⟨#[109, 97, 116, 114, 105, 120]⟩
theorem ty_un_5 : Try.prog.underlying 5 = some (.int .u8) := by kernel_rfl
theorem ty_us_22 : Try.prog.underlying 22 = some (.slice 5) := by kernel_rfl
theorem ty_ud_3 : Try.prog.underlying 3 = some (.int .i64) := by kernel_rfl
theorem ty_bs1_22 : ∀ (x : Int) (w : World), (Instr.buildSlice 22 1 #[(0, .int .u8 x)]).run Try.prog w = .ok (.slice (some ⟨w.heap.size, 0, none⟩) 1 1) (w.alloc (.cells #[.int .u8 x] 5)) := by intros; kernel_rfl
theorem ty_ut_9 : Try.prog.underlying 9 = some .string := by kernel_rfl
theorem ty_us_74 : Try.prog.underlying 74 = some (.slice 9) := by kernel_rfl
theorem ty_sl_74 : sliceOf Try.prog 74 = some 1 := by kernel_rfl
theorem ty_on_9 : oneP Try.prog 9 = true := by kernel_rfl
theorem ty_bss_74_6 : ∀ w, (Instr.buildSlice 74 6 #[(0, .string (⟨#[102, 105, 101, 108, 100]⟩)), (1, .string (⟨#[100, 117, 97, 108]⟩)), (2, .string (⟨#[112, 97, 105, 114]⟩)), (3, .string (⟨#[99, 121, 99, 108, 105, 99, 51]⟩)), (4, .string (⟨#[115, 121, 109, 109, 101, 116, 114, 105, 99]⟩)), (5, .string (⟨#[109, 97, 116, 114, 105, 120]⟩))]).run Try.prog w = .ok (.slice (some ⟨w.heap.size, 0, none⟩) 6 6) (w.alloc (.cells (fnC 6 (fun c => .string (nmS c))) 9)) := by intros; kernel_rfl
def e1 (i : Nat) : Nat → Nat := fun c => if c = i then 1 else 0
theorem rnd {P : Program} {c : Code} {Q : Exit → Act → World → Prop} {n : Nat} {a : Act} {w : World} (h : c.wp P (Exit.then (Code.rounds P c Q n) Q) a w) : Code.rounds P c Q (n + 1) a w := h

theorem markText_ok (k : Nat) (w : World) (hk : 1 ≤ k) (hk9 : k ≤ 9) :
    CallsR Try.prog 129 #[.int .i64 (((k : Nat) : Int))] w (fun res _ => res = .string (mtx k)) := by
  refine calls_fr [.int .i64 (((k : Nat) : Int))] Try.func129 rfl Try.ntmps129 rfl fun a hF => ?_
  have hM : Mem w w [none] [] := MemX.start w 1
  change Fr 20 a [(0, .int .i64 (((k : Nat) : Int)))] at hF
  refine sq ?_
  refine wp_region_lit ?_
  refine st hF (g_assign hF rfl) rfl fun a hF => ?_
  refine wpList_nil ?_
  refine tN ?_
  refine sq ?_
  refine sq ?_
  refine wp_region_lit ?_
  refine st hF (g_move hF rfl) rfl fun a hF => st hF (g_leq hF rfl rfl) rfl fun a hF => ?_
  refine wpList_nil ?_
  refine tN ?_
  refine c_cond hF rfl (fun h1 => ?_) (fun h1 => ?_)
  ·
    exfalso; omega
  ·
    refine wp_skip ?_
    refine tN ?_
    refine sq ?_
    refine wp_region_lit ?_
    refine st hF (g_assign hF rfl) rfl fun a hF => ?_
    refine wpList_nil ?_
    refine tN ?_
    refine sq ?_
    refine wp_block ?_
    refine wp_loop_rounds 2 ?_
    refine rnd ?_
    refine sq ?_
    refine sq ?_
    refine wp_region_lit ?_
    refine st hF (g_move hF rfl) rfl fun a hF => st hF (g_gtr hF rfl rfl) rfl fun a hF => ?_
    refine wpList_nil ?_
    refine tN ?_
    refine c_cond hF rfl (fun h2 => ?_) (fun h2 => ?_)
    ·
      refine wp_skip ?_
      refine tN ?_
      refine wp_block ?_
      refine sq ?_
      refine wp_region_lit ?_
      refine st hF (g_move hF rfl) rfl fun a hF => st hF (g_rem hF rfl rfl (by omega) (rem_nat (k) (10))) rfl fun a hF => st hF (g_add hF rfl rfl (add_nat (48) ((k) % (10)) (by omega))) rfl fun a hF => st hF (g_conv ty_un_5 ty_ud_3 hF rfl (wrap_u8 (by omega) (by omega))) rfl fun a hF => ?_
      refine stR hF (d_buildC 0 hM hF (build1 hF rfl) (ty_bs1_22 _)) rfl ?_
      rintro _ w' a ⟨b3, rfl, hM, -⟩ hF
      change Mem w w' [some (b3, #[.int .u8 (((48 + (k) % (10) : Nat) : Int))])] [] at hM
      refine st hF (g_b2s1 ty_us_22 ty_ut_9 ty_un_5 hF rfl (hM.row 0 rfl) rfl) rfl fun a hF => st hF (g_move hF rfl) rfl fun a hF => st hF (g_addS hF rfl rfl (of_decide_eq_true rfl)) rfl fun a hF => st hF (g_assign hF rfl) rfl fun a hF => ?_
      refine wpList_nil ?_
      refine tN ?_
      refine wp_region_lit ?_
      refine st hF (g_move hF rfl) rfl fun a hF => st hF (g_quo hF rfl rfl (by omega) (quo_nat (k) (10) (by omega))) rfl fun a hF => st hF (g_assign hF rfl) rfl fun a hF => ?_
      refine wpList_nil ?_
      refine iN ?_
      refine tN ?_
      refine rnd ?_
      refine sq ?_
      refine sq ?_
      refine wp_region_lit ?_
      refine st hF (g_move hF rfl) rfl fun a hF => st hF (g_gtr hF rfl rfl) rfl fun a hF => ?_
      refine wpList_nil ?_
      refine tN ?_
      refine c_cond hF rfl (fun h4 => ?_) (fun h4 => ?_)
      ·
        exfalso; omega
      ·
        refine wp_exit ?_
        refine tX ?_
        refine tX ?_
        refine ib_same ?_
        refine tN ?_
        refine sq ?_
        refine wp_region_lit ?_
        refine st hF (g_move hF rfl) rfl fun a hF => st hF (g_addS hF rfl rfl (of_decide_eq_true rfl)) rfl fun a hF => st hF (g_assign hF rfl) rfl fun a hF => ?_
        refine wpList_nil ?_
        refine tN ?_
        refine wp_ret ?_
        refine fin1 rfl hF.defers (res_tmp hF rfl) ⟨_, rfl, hM.below, ?_⟩
        show _ = _
        have e : k % 10 = k := by omega
        rw [e]; rfl
    ·
      exfalso; omega

theorem eqStringS_ok (b o c b2 o2 c2 m : Nat) (cs cs2 : Array Value) (sv tv : Nat → ByteArray) (w : World) (hb : Blk w b cs) (hb2 : Blk w b2 cs2) (hg : ∀ i, i < m → cs[o + i * 1]? = some (.string (sv i))) (hg2 : ∀ i, i < m → cs2[o2 + i * 1]? = some (.string (tv i))) (hm : m < 1000) (he : ∀ i, i < m → sv i = tv i) :
    CallsR Try.prog 72 #[.slice (some ⟨b, o, none⟩) (m) (c), .slice (some ⟨b2, o2, none⟩) (m) (c2)] w (fun res _ => res = .bool true) := by
  refine calls_fr [.slice (some ⟨b, o, none⟩) (m) (c), .slice (some ⟨b2, o2, none⟩) (m) (c2)] Try.func72 rfl Try.ntmps72 rfl fun a hF => ?_
  have hM : Mem w w [] [(b, cs), (b2, cs2)] := MemX.startD w 0 _ (startD2 hb hb2)
  change Fr 26 a [(0, .slice (some ⟨b, o, none⟩) (m) (c)), (1, .slice (some ⟨b2, o2, none⟩) (m) (c2))] at hF
  refine sq ?_
  refine wp_region_lit ?_
  refine st hF (g_assign hF rfl) rfl fun a hF => ?_
  refine wpList_nil ?_
  refine tN ?_
  refine sq ?_
  refine sq ?_
  refine wp_region_lit ?_
  refine st hF (g_move hF rfl) rfl fun a hF => st hF (g_len ty_us_74 hF rfl) rfl fun a hF => st hF (g_move hF rfl) rfl fun a hF => st hF (g_len ty_us_74 hF rfl) rfl fun a hF => st hF (g_neq hF rfl rfl) rfl fun a hF => ?_
  refine wpList_nil ?_
  refine tN ?_
  refine c_cond hF rfl (fun h1 => ?_) (fun h1 => ?_)
  ·
    exact absurd rfl h1
  ·
    refine wp_skip ?_
    refine tN ?_
    refine sq ?_
    refine sq ?_
    refine wp_region_lit ?_
    refine st hF (g_assign hF rfl) rfl fun a hF => ?_
    refine wpList_nil ?_
    refine tN ?_
    refine wp_block ?_
    change Mem w _ [] [(b, cs), (b2, cs2)] at hM
    refine c_loop (fun (kk : Nat) a w' => kk ≤ m ∧ (True) ∧ Fr 26 a [(0, .slice (some ⟨b, o, none⟩) (m) (c)), (1, .slice (some ⟨b2, o2, none⟩) (m) (c2)), (6, .slice (some ⟨b, o, none⟩) (m) (c)), (7, .int .i64 (((m : Nat) : Int))), (8, .slice (some ⟨b2, o2, none⟩) (m) (c2)), (9, .int .i64 (((m : Nat) : Int))), (10, .bool (decide ((((m : Nat) : Int) : Int) ≠ ((m : Nat) : Int)))), (5, .int .i64 (((kk : Nat) : Int)))] ∧ Mem w w' [] [(b, cs), (b2, cs2)]) (fun kk => m - kk) 0 ?_ ?_
    ·
      refine ⟨by omega, trivial, hF.sub _ (by repeat' constructor), ?_⟩
      exact hM
    ·
      clear hF hM
      rintro gk a w' ⟨hgk, hinv1, hF, hM⟩
      refine sq ?_
      refine sq ?_
      refine wp_region_lit ?_
      refine st hF (g_move hF rfl) rfl fun a hF => st hF (g_move hF rfl) rfl fun a hF => st hF (g_len ty_us_74 hF rfl) rfl fun a hF => st hF (g_lss hF rfl rfl) rfl fun a hF => ?_
      refine wpList_nil ?_
      refine tN ?_
      refine c_cond hF rfl (fun h2 => ?_) (fun h2 => ?_)
      ·
        refine wp_skip ?_
        refine tN ?_
        refine sq ?_
        refine wp_block ?_
        refine sq ?_
        refine c_par 8 [] [.val (.slice (some ⟨b, o, none⟩) (m) (c)), .val (.int .i64 (((gk : Nat) : Int))), .val (ptr b (o + (gk) * 1)), .val (.string (sv (gk))), .val (.slice (some ⟨b2, o2, none⟩) (m) (c2)), .val (.int .i64 (((gk : Nat) : Int))), .val (ptr b2 (o2 + (gk) * 1)), .val (.string (tv (gk)))] hmix rfl hF rfl hM ⟨fun a w g hF hS hd => by exact par_val hS rfl (g_move hF rfl), fun a w g hF hS hd => by exact par_val hS rfl (g_move hF rfl), fun a w g hF hS hd => by have hF := hF.ext1 17 (hd 0 rfl rfl); have hF := hF.ext1 18 (hd 1 rfl rfl); exact par_val hS rfl (g_indexSl ty_sl_74 hF rfl rfl rfl (by omega)), fun a w g hF hS hd => by have hF := hF.ext1 19 (hd 2 rfl rfl); have hM := hS.mem rfl; exact par_val hS rfl (g_load ty_on_9 hF rfl (hM.fz 0 rfl) (hg (gk) (by omega))), fun a w g hF hS hd => by exact par_val hS rfl (g_move hF rfl), fun a w g hF hS hd => by exact par_val hS rfl (g_move hF rfl), fun a w g hF hS hd => by have hF := hF.ext1 21 (hd 4 rfl rfl); have hF := hF.ext1 22 (hd 5 rfl rfl); exact par_val hS rfl (g_indexSl ty_sl_74 hF rfl rfl rfl (by omega)), fun a w g hF hS hd => by have hF := hF.ext1 23 (hd 6 rfl rfl); have hM := hS.mem rfl; exact par_val hS rfl (g_load ty_on_9 hF rfl (hM.fz 1 rfl) (hg2 (gk) (by omega))), trivial⟩ ?_
        intro a w' L hF hS hq
        have hF := hF.ext1 17 (hq 0 rfl rfl)
        have hF := hF.ext1 18 (hq 1 rfl rfl)
        have hF := hF.ext1 19 (hq 2 rfl rfl)
        have hF := hF.ext1 20 (hq 3 rfl rfl)
        have hF := hF.ext1 21 (hq 4 rfl rfl)
        have hF := hF.ext1 22 (hq 5 rfl rfl)
        have hF := hF.ext1 23 (hq 6 rfl rfl)
        have hF := hF.ext1 24 (hq 7 rfl rfl)
        have hM := hS.mem rfl
        change wpList Try.prog _ _ [_] _ _
        refine st hF (g_neqS hF rfl rfl) rfl fun a hF => ?_
        refine wpList_nil ?_
        refine tN ?_
        refine c_cond hF rfl (fun h3 => ?_) (fun h3 => ?_)
        ·
          exact absurd (congrArg ByteArray.toList (he gk (by omega))) h3
        ·
          refine wp_skip ?_
          refine iN ?_
          refine tN ?_
          refine wp_region_lit ?_
          refine st hF (g_move hF rfl) rfl fun a hF => st hF (g_add hF rfl rfl (add_nat (gk) (1) (by omega))) rfl fun a hF => st hF (g_assign hF rfl) rfl fun a hF => ?_
          refine wpList_nil ?_
          refine tN ?_
          refine ⟨gk + 1, ⟨by omega, trivial, hF.sub _ (by repeat' constructor), ?_⟩, by omega⟩
          exact hM
      ·
        obtain rfl : m = gk := by omega
        refine wp_exit ?_
        refine tX ?_
        refine tX ?_
        refine ib_same ?_
        refine tN ?_
        refine sq ?_
        refine wp_region_lit ?_
        refine st hF (g_assign hF rfl) rfl fun a hF => ?_
        refine wpList_nil ?_
        refine tN ?_
        refine wp_ret ?_
        refine fin1 rfl hF.defers (res_tmp hF rfl) ⟨_, rfl, hM.below, ?_⟩
        show _ = _
        rfl

theorem heldStringS_ok (b o c m k : Nat) (cs : Array Value) (sv : Nat → ByteArray) (w : World) (hb : Blk w b cs) (hg : ∀ i, i < m → cs[o + i * 1]? = some (.string (sv i))) (hk : 1 ≤ k) (hm : k + m ≤ 9) (he : ∀ i, i < m → sv i = mtx (k + i)) :
    CallsR Try.prog 74 #[.slice (some ⟨b, o, none⟩) (m) (c), .int .i64 (((k : Nat) : Int))] w (fun res _ => res = .int .i64 ((k + m : Nat) : Int)) := by
  refine calls_fr [.slice (some ⟨b, o, none⟩) (m) (c), .int .i64 (((k : Nat) : Int))] Try.func74 rfl Try.ntmps74 rfl fun a hF => ?_
  have hM : Mem w w [] [(b, cs)] := MemX.startD w 0 _ (startD1 hb)
  change Fr 22 a [(0, .slice (some ⟨b, o, none⟩) (m) (c)), (1, .int .i64 (((k : Nat) : Int)))] at hF
  refine sq ?_
  refine wp_region_lit ?_
  refine st hF (g_assign hF rfl) rfl fun a hF => ?_
  refine wpList_nil ?_
  refine tN ?_
  refine sq ?_
  refine sq ?_
  refine wp_region_lit ?_
  refine st hF (g_assign hF rfl) rfl fun a hF => ?_
  refine wpList_nil ?_
  refine tN ?_
  refine wp_block ?_
  change Mem w _ [] [(b, cs)] at hM
  refine c_loop (fun (kk : Nat) a w' => kk ≤ m ∧ (True) ∧ Fr 22 a [(0, .slice (some ⟨b, o, none⟩) (m) (c)), (5, .int .i64 (((kk : Nat) : Int))), (1, .int .i64 (((k + kk : Nat) : Int)))] ∧ Mem w w' [] [(b, cs)]) (fun kk => m - kk) 0 ?_ ?_
  ·
    refine ⟨by omega, trivial, hF.sub _ (by repeat' constructor), ?_⟩
    exact hM
  ·
    clear hF hM
    rintro gk a w' ⟨hgk, hinv1, hF, hM⟩
    refine sq ?_
    refine sq ?_
    refine wp_region_lit ?_
    refine st hF (g_move hF rfl) rfl fun a hF => st hF (g_move hF rfl) rfl fun a hF => st hF (g_len ty_us_74 hF rfl) rfl fun a hF => st hF (g_lss hF rfl rfl) rfl fun a hF => ?_
    refine wpList_nil ?_
    refine tN ?_
    refine c_cond hF rfl (fun h1 => ?_) (fun h1 => ?_)
    ·
      refine wp_skip ?_
      refine tN ?_
      refine sq ?_
      refine wp_block ?_
      refine sq ?_
      refine sq ?_
      refine c_par 6 [] [.val (.slice (some ⟨b, o, none⟩) (m) (c)), .val (.int .i64 (((gk : Nat) : Int))), .val (ptr b (o + (gk) * 1)), .val (.string (sv (gk))), .val (.int .i64 (((k + gk : Nat) : Int))), .val (.string (mtx (k + gk)))] hmix rfl hF rfl hM ⟨fun a w g hF hS hd => by exact par_val hS rfl (g_move hF rfl), fun a w g hF hS hd => by exact par_val hS rfl (g_move hF rfl), fun a w g hF hS hd => by have hF := hF.ext1 12 (hd 0 rfl rfl); have hF := hF.ext1 13 (hd 1 rfl rfl); exact par_val hS rfl (g_indexSl ty_sl_74 hF rfl rfl rfl (by omega)), fun a w g hF hS hd => by have hF := hF.ext1 14 (hd 2 rfl rfl); have hM := hS.mem rfl; exact par_val hS rfl (g_load ty_on_9 hF rfl (hM.fz 0 rfl) (hg (gk) (by omega))), fun a w g hF hS hd => by exact par_val hS rfl (g_move hF rfl), fun a w g hF hS hd => by have hF := hF.ext1 16 (hd 4 rfl rfl); exact par_call (by repeat constructor) hS rfl (d_call Try.call129 hF (.cons rfl .nil) (markText_ok (k + gk) _ (by omega) (by omega))), trivial⟩ ?_
      intro a w' L hF hS hq
      have hF := hF.ext1 12 (hq 0 rfl rfl)
      have hF := hF.ext1 13 (hq 1 rfl rfl)
      have hF := hF.ext1 14 (hq 2 rfl rfl)
      have hF := hF.ext1 15 (hq 3 rfl rfl)
      have hF := hF.ext1 16 (hq 4 rfl rfl)
      have hF := hF.ext1 17 (hq 5 rfl rfl)
      have hM := hS.mem rfl
      change wpList Try.prog _ _ [_] _ _
      refine st hF (g_neqS hF rfl rfl) rfl fun a hF => ?_
      refine wpList_nil ?_
      refine tN ?_
      refine c_cond hF rfl (fun h2 => ?_) (fun h2 => ?_)
      ·
        exact absurd (congrArg ByteArray.toList (he gk (by omega))) h2
      ·
        refine wp_skip ?_
        refine tN ?_
        refine wp_region_lit ?_
        refine st hF (g_move hF rfl) rfl fun a hF => st hF (g_add hF rfl rfl (add_nat (k + gk) (1) (by omega))) rfl fun a hF => st hF (g_assign hF rfl) rfl fun a hF => ?_
        refine wpList_nil ?_
        refine iN ?_
        refine tN ?_
        refine wp_region_lit ?_
        refine st hF (g_move hF rfl) rfl fun a hF => st hF (g_add hF rfl rfl (add_nat (gk) (1) (by omega))) rfl fun a hF => st hF (g_assign hF rfl) rfl fun a hF => ?_
        refine wpList_nil ?_
        refine tN ?_
        refine ⟨gk + 1, ⟨by omega, trivial, hF.sub _ (by repeat' constructor), ?_⟩, by omega⟩
        exact hM
    ·
      obtain rfl : m = gk := by omega
      refine wp_exit ?_
      refine tX ?_
      refine tX ?_
      refine ib_same ?_
      refine tN ?_
      refine sq ?_
      refine wp_region_lit ?_
      refine st hF (g_move hF rfl) rfl fun a hF => st hF (g_assign hF rfl) rfl fun a hF => ?_
      refine wpList_nil ?_
      refine tN ?_
      refine wp_ret ?_
      refine fin1 rfl hF.defers (res_tmp hF rfl) ⟨_, rfl, hM.below, ?_⟩
      show _ = _
      rfl

theorem markStringS_ok (b m k : Nat) (sv : Nat → ByteArray) (w : World) (hb : Blk w b (fnC m (fun c => .string (sv c)))) (hk : 1 ≤ k) (hm : k + m ≤ 9) :
    CallsX Try.prog [b] 73 #[.slice (some ⟨b, 0, none⟩) (m) (m), .int .i64 (((k : Nat) : Int))] w (fun v w' => v = .int .i64 ((k + m : Nat) : Int) ∧ Blk w' b (fnC m (fun c => .string (mtx (k + c))))) := by
  refine calls_frX [.slice (some ⟨b, 0, none⟩) (m) (m), .int .i64 (((k : Nat) : Int))] Try.func73 rfl Try.ntmps73 rfl fun a hF => ?_
  have hM : MemX [b] w w [some (b, fnC m (fun c => .string (sv c)))] [] := MemX.startX1 0 hb
  change Fr 20 a [(0, .slice (some ⟨b, 0, none⟩) (m) (m)), (1, .int .i64 (((k : Nat) : Int)))] at hF
  refine sq ?_
  refine wp_region_lit ?_
  refine st hF (g_assign hF rfl) rfl fun a hF => ?_
  refine wpList_nil ?_
  refine tN ?_
  refine sq ?_
  refine sq ?_
  refine wp_region_lit ?_
  refine st hF (g_assign hF rfl) rfl fun a hF => ?_
  refine wpList_nil ?_
  refine tN ?_
  refine wp_block ?_
  change MemX [b] w _ [some (b, fnC m (fun c => .string (sv c)))] [] at hM
  refine c_loop (fun (kk : Nat) a w' => kk ≤ m ∧ (True) ∧ Fr 20 a [(0, .slice (some ⟨b, 0, none⟩) (m) (m)), (4, .int .i64 (0)), (5, .int .i64 (((kk : Nat) : Int))), (1, .int .i64 (((k + kk : Nat) : Int)))] ∧ MemX [b] w w' [some (b, fnC m (fun c => .string (if c < kk then mtx (k + c) else sv c)))] []) (fun kk => m - kk) 0 ?_ ?_
  ·
    refine ⟨by omega, trivial, hF.sub _ (by repeat' constructor), ?_⟩
    exact hM.cast (by simp)
  ·
    clear hF hM
    rintro gk a w' ⟨hgk, hinv1, hF, hM⟩
    refine sq ?_
    refine sq ?_
    refine wp_region_lit ?_
    refine st hF (g_move hF rfl) rfl fun a hF => st hF (g_move hF rfl) rfl fun a hF => st hF (g_len ty_us_74 hF rfl) rfl fun a hF => st hF (g_lss hF rfl rfl) rfl fun a hF => ?_
    refine wpList_nil ?_
    refine tN ?_
    refine c_cond hF rfl (fun h1 => ?_) (fun h1 => ?_)
    ·
      refine wp_skip ?_
      refine tN ?_
      refine sq ?_
      refine wp_block ?_
      refine sq ?_
      refine wp_region_lit ?_
      refine st hF (g_move hF rfl) rfl fun a hF => st hF (g_move hF rfl) rfl fun a hF => st hF (g_move hF rfl) rfl fun a hF => ?_
      refine stR hF (d_call Try.call129 hF (.cons rfl .nil) (markText_ok (k + gk) _ (by omega) (by omega))) rfl ?_
      rintro _ w' a ⟨hx, rfl⟩ hF
      have hM := hM.ext hx
      refine st hF (g_indexSl ty_sl_74 hF rfl rfl rfl (by omega)) rfl fun a hF => ?_
      refine stN hF (d_store 0 hM rfl ty_on_9 hF rfl rfl rfl (by simp only [fnC_size, cells_size, vecC_size, tabC_size, planeC_size] <;> omega)) ?_
      intro _ w' a hM hF
      rw [show (fnC m (fun c => .string (if c < gk then mtx (k + c) else sv c))).setIfInBounds (0 + (gk) * 1) (.string (mtx (k + gk))) = fnC m (fun c => .string (if c = gk then mtx (k + gk) else (if c < gk then mtx (k + c) else sv c))) from fnC_set (fun c _ => by rw [show 0 + (gk) * 1 = gk by omega]; by_cases hh : c = gk <;> simp [hh])] at hM
      change MemX [b] w w' [some (b, fnC m (fun c => .string (if c = gk then mtx (k + gk) else (if c < gk then mtx (k + c) else sv c))))] [] at hM
      refine wpList_nil ?_
      refine tN ?_
      refine wp_region_lit ?_
      refine st hF (g_move hF rfl) rfl fun a hF => st hF (g_add hF rfl rfl (add_nat (k + gk) (1) (by omega))) rfl fun a hF => st hF (g_assign hF rfl) rfl fun a hF => ?_
      refine wpList_nil ?_
      refine iN ?_
      refine tN ?_
      refine wp_region_lit ?_
      refine st hF (g_move hF rfl) rfl fun a hF => st hF (g_add hF rfl rfl (add_nat (gk) (1) (by omega))) rfl fun a hF => st hF (g_assign hF rfl) rfl fun a hF => ?_
      refine wpList_nil ?_
      refine tN ?_
      refine ⟨gk + 1, ⟨by omega, trivial, hF.sub _ (by repeat' constructor), ?_⟩, by omega⟩
      refine hM.rowc 0 rfl (fnC_congr fun c hc => congrArg Value.string ?_)
      by_cases e1 : c = gk
      · subst e1; simp
      · have e0 : (c < gk + 1) = (c < gk) := by apply propext; omega
        simp [e0, e1]
    ·
      obtain rfl : m = gk := by omega
      refine wp_exit ?_
      refine tX ?_
      refine tX ?_
      refine ib_same ?_
      refine tN ?_
      refine sq ?_
      refine wp_region_lit ?_
      refine st hF (g_move hF rfl) rfl fun a hF => st hF (g_assign hF rfl) rfl fun a hF => ?_
      refine wpList_nil ?_
      refine tN ?_
      refine wp_ret ?_
      refine fin1 rfl hF.defers (res_tmp hF rfl) ⟨_, rfl, hM.bel, ?_⟩
      exact ⟨rfl, (hM.rowc (cs' := fnC m (fun c => .string (mtx (k + c)))) 0 rfl (fnC_congr fun c hc => by simp [hc])).row 0 rfl⟩

theorem AlgebraNamesI_ok  (w : World)  :
    CallsR Try.prog 71 #[] w (fun v w' => ∃ b, v = .slice (some ⟨b, 0, none⟩) 6 6 ∧ w.heap.size ≤ b ∧ Blk w' b (fnC 6 (fun c => .string (nmS c)))) := by
  refine calls_fr [] Try.func71 rfl Try.ntmps71 rfl fun a hF => ?_
  have hM : Mem w w [none] [] := MemX.start w 1
  change Fr 2 a [] at hF
  refine sq ?_
  refine wp_region_lit ?_
  refine st hF (g_assign hF rfl) rfl fun a hF => ?_
  refine wpList_nil ?_
  refine tN ?_
  refine sq ?_
  refine wp_region_lit ?_
  refine stR hF (d_buildC (vs := [(0, .string (⟨#[102, 105, 101, 108, 100]⟩)), (1, .string (⟨#[100, 117, 97, 108]⟩)), (2, .string (⟨#[112, 97, 105, 114]⟩)), (3, .string (⟨#[99, 121, 99, 108, 105, 99, 51]⟩)), (4, .string (⟨#[115, 121, 109, 109, 101, 116, 114, 105, 99]⟩)), (5, .string (⟨#[109, 97, 116, 114, 105, 120]⟩))]) 0 hM hF rfl ty_bss_74_6) rfl ?_
  rintro _ w' a ⟨b1, rfl, hM, -⟩ hF
  change Mem w w' [some (b1, fnC 6 (fun c => .string (nmS c)))] [] at hM
  refine st hF (g_assign hF rfl) rfl fun a hF => ?_
  refine wpList_nil ?_
  refine tN ?_
  refine wp_ret ?_
  refine fin1 rfl hF.defers (res_tmp hF rfl) ⟨_, rfl, hM.below, ?_⟩
  exact ⟨_, rfl, hM.ge 0 rfl, hM.row 0 rfl⟩

theorem l01Names_ok  (w : World)  :
    CallsR Try.prog 128 #[] w (fun v w' => ∃ b, v = .slice (some ⟨b, 0, none⟩) 6 6 ∧ w.heap.size ≤ b ∧ Blk w' b (fnC 6 (fun c => .string (nmS c)))) := by
  refine calls_fr [] Try.func128 rfl Try.ntmps128 rfl fun a hF => ?_
  have hM : Mem w w [none] [] := MemX.start w 1
  change Fr 2 a [] at hF
  refine sq ?_
  refine wp_region_lit ?_
  refine st hF (g_assign hF rfl) rfl fun a hF => ?_
  refine wpList_nil ?_
  refine tN ?_
  refine sq ?_
  refine wp_region_lit ?_
  refine stR hF (d_buildC (vs := [(0, .string (⟨#[102, 105, 101, 108, 100]⟩)), (1, .string (⟨#[100, 117, 97, 108]⟩)), (2, .string (⟨#[112, 97, 105, 114]⟩)), (3, .string (⟨#[99, 121, 99, 108, 105, 99, 51]⟩)), (4, .string (⟨#[115, 121, 109, 109, 101, 116, 114, 105, 99]⟩)), (5, .string (⟨#[109, 97, 116, 114, 105, 120]⟩))]) 0 hM hF rfl ty_bss_74_6) rfl ?_
  rintro _ w' a ⟨b1, rfl, hM, -⟩ hF
  change Mem w w' [some (b1, fnC 6 (fun c => .string (nmS c)))] [] at hM
  refine st hF (g_assign hF rfl) rfl fun a hF => ?_
  refine wpList_nil ?_
  refine tN ?_
  refine wp_ret ?_
  refine fin1 rfl hF.defers (res_tmp hF rfl) ⟨_, rfl, hM.below, ?_⟩
  exact ⟨_, rfl, hM.ge 0 rfl, hM.row 0 rfl⟩

theorem AlgebraNamesS_ok  (w : World)  :
    CallsR Try.prog 70 #[] w (fun v w' => ∃ b, v = .slice (some ⟨b, 0, none⟩) 6 6 ∧ w.heap.size ≤ b ∧ Blk w' b (fnC 6 (fun c => .string (nmS c)))) := by
  refine calls_fr [] Try.func70 rfl Try.ntmps70 rfl fun a hF => ?_
  have hM : Mem w w [none] [] := MemX.start w 1
  change Fr 2 a [] at hF
  refine sq ?_
  refine wp_region_lit ?_
  refine st hF (g_assign hF rfl) rfl fun a hF => ?_
  refine wpList_nil ?_
  refine tN ?_
  refine sq ?_
  refine wp_region_lit ?_
  refine stR hF (d_call Try.call128 hF .nil (l01Names_ok _)) rfl ?_
  rintro _ w' a ⟨hx, b1, rfl, hge, hbk⟩ hF
  have hM := hM.fill hx 0 hbk hge
  change Mem w w' [some (b1, fnC 6 (fun c => .string (nmS c)))] [] at hM
  refine st hF (g_assign hF rfl) rfl fun a hF => ?_
  refine wpList_nil ?_
  refine tN ?_
  refine wp_ret ?_
  refine fin1 rfl hF.defers (res_tmp hF rfl) ⟨_, rfl, hM.below, ?_⟩
  exact ⟨_, rfl, hM.ge 0 rfl, hM.row 0 rfl⟩

theorem law_AlgebraNames  (w : World)  :
    CallsR Try.prog 19 #[] w (fun res _ => res = .bool true) := by
  refine calls_fr [] Try.func19 rfl Try.ntmps19 rfl fun a hF => ?_
  have hM : Mem w w [none, none, none] [] := MemX.start w 3
  change Fr 36 a [] at hF
  refine sq ?_
  refine wp_region_lit ?_
  refine st hF (g_assign hF rfl) rfl fun a hF => ?_
  refine wpList_nil ?_
  refine tN ?_
  refine sq ?_
  refine wp_region_lit ?_
  refine stR hF (d_call Try.call70 hF .nil (AlgebraNamesS_ok _)) rfl ?_
  rintro _ w' a ⟨hx, b1, rfl, hge, hbk⟩ hF
  have hM := hM.fill hx 0 hbk hge
  change Mem w w' [some (b1, fnC 6 (fun c => .string (nmS c))), none, none] [] at hM
  refine st hF (g_assign hF rfl) rfl fun a hF => ?_
  refine wpList_nil ?_
  refine tN ?_
  refine sq ?_
  refine wp_region_lit ?_
  refine stR hF (d_call Try.call71 hF .nil (AlgebraNamesI_ok _)) rfl ?_
  rintro _ w' a ⟨hx, b2, rfl, hge, hbk⟩ hF
  have hM := hM.fill hx 1 hbk hge
  change Mem w w' [some (b1, fnC 6 (fun c => .string (nmS c))), some (b2, fnC 6 (fun c => .string (nmS c))), none] [] at hM
  refine st hF (g_assign hF rfl) rfl fun a hF => ?_
  refine wpList_nil ?_
  refine tN ?_
  refine sq ?_
  refine sq ?_
  refine wp_region_lit ?_
  refine st hF (g_move hF rfl) rfl fun a hF => st hF (g_move hF rfl) rfl fun a hF => ?_
  refine stR hF (d_call Try.call72 hF (.cons rfl (.cons rfl .nil)) (eqStringS_ok b2 0 6 b1 0 6 6 _ _ nmS nmS _ (hM.row 1 rfl) (hM.row 0 rfl) (fun i hi => fnC_getE i (by omega) hi rfl) (fun i hi => fnC_getE i (by omega) hi rfl) (by omega) (fun _ _ => rfl))) rfl ?_
  rintro _ w' a ⟨hx, rfl⟩ hF
  have hM := hM.ext hx
  refine st hF (g_not hF rfl) rfl fun a hF => ?_
  refine wpList_nil ?_
  refine tN ?_
  refine c_Fl hF rfl ?_
  refine wp_skip ?_
  refine tN ?_
  refine sq ?_
  refine wp_region_lit ?_
  refine st hF (g_assign hF rfl) rfl fun a hF => ?_
  refine wpList_nil ?_
  refine tN ?_
  refine sq ?_
  refine wp_region_lit ?_
  refine st hF (g_move hF rfl) rfl fun a hF => st hF (g_move hF rfl) rfl fun a hF => ?_
  refine stR hF (d_callX Try.call73 hF (.cons rfl (.cons rfl .nil)) (markStringS_ok b2 6 1 nmS _ (hM.row 1 rfl) (by omega) (by omega))) rfl ?_
  rintro _ w' a ⟨hx, rfl, hbk⟩ hF
  have hM := hM.upd 1 rfl hx hbk
  change Mem w w' [some (b1, fnC 6 (fun c => .string (nmS c))), some (b2, fnC 6 (fun c => .string (mtx (1 + c)))), none] [] at hM
  refine st hF (g_assign hF rfl) rfl fun a hF => ?_
  refine wpList_nil ?_
  refine tN ?_
  refine sq ?_
  refine wp_region_lit ?_
  refine st hF (g_assign hF rfl) rfl fun a hF => ?_
  refine wpList_nil ?_
  refine tN ?_
  refine sq ?_
  refine wp_region_lit ?_
  refine st hF (g_move hF rfl) rfl fun a hF => st hF (g_move hF rfl) rfl fun a hF => ?_
  refine stR hF (d_call Try.call74 hF (.cons rfl (.cons rfl .nil)) (heldStringS_ok b2 0 6 6 1 _ (fun c => mtx (1 + c)) _ (hM.row 1 rfl) (fun i hi => fnC_getE i (by omega) hi rfl) (by omega) (by omega) (fun _ _ => rfl))) rfl ?_
  rintro _ w' a ⟨hx, rfl⟩ hF
  have hM := hM.ext hx
  refine st hF (g_assign hF rfl) rfl fun a hF => ?_
  refine wpList_nil ?_
  refine tN ?_
  refine sq ?_
  refine sq ?_
  refine wp_region_lit ?_
  refine st hF (g_move hF rfl) rfl fun a hF => st hF (g_lss hF rfl rfl) rfl fun a hF => ?_
  refine wpList_nil ?_
  refine tN ?_
  refine c_cond hF rfl (fun h4 => ?_) (fun h4 => ?_)
  ·
    first | (exfalso; omega) | exact absurd rfl h4
  ·
    refine wp_skip ?_
    refine tN ?_
    refine sq ?_
    refine sq ?_
    refine wp_region_lit ?_
    refine st hF (g_move hF rfl) rfl fun a hF => st hF (g_move hF rfl) rfl fun a hF => st hF (g_neq hF rfl rfl) rfl fun a hF => ?_
    refine wpList_nil ?_
    refine tN ?_
    refine c_cond hF rfl (fun h5 => ?_) (fun h5 => ?_)
    ·
      first | (exfalso; omega) | exact absurd rfl h5
    ·
      refine wp_skip ?_
      refine tN ?_
      refine sq ?_
      refine wp_region_lit ?_
      refine stR hF (d_call Try.call71 hF .nil (AlgebraNamesI_ok _)) rfl ?_
      rintro _ w' a ⟨hx, b6, rfl, hge, hbk⟩ hF
      have hM := hM.fill hx 2 hbk hge
      change Mem w w' [some (b1, fnC 6 (fun c => .string (nmS c))), some (b2, fnC 6 (fun c => .string (mtx (1 + c)))), some (b6, fnC 6 (fun c => .string (nmS c)))] [] at hM
      refine st hF (g_assign hF rfl) rfl fun a hF => ?_
      refine wpList_nil ?_
      refine tN ?_
      refine sq ?_
      refine sq ?_
      refine wp_region_lit ?_
      refine st hF (g_move hF rfl) rfl fun a hF => st hF (g_move hF rfl) rfl fun a hF => ?_
      refine stR hF (d_call Try.call72 hF (.cons rfl (.cons rfl .nil)) (eqStringS_ok b6 0 6 b1 0 6 6 _ _ nmS nmS _ (hM.row 2 rfl) (hM.row 0 rfl) (fun i hi => fnC_getE i (by omega) hi rfl) (fun i hi => fnC_getE i (by omega) hi rfl) (by omega) (fun _ _ => rfl))) rfl ?_
      rintro _ w' a ⟨hx, rfl⟩ hF
      have hM := hM.ext hx
      refine st hF (g_not hF rfl) rfl fun a hF => ?_
      refine wpList_nil ?_
      refine tN ?_
      refine c_Fl hF rfl ?_
      refine wp_skip ?_
      refine tN ?_
      refine sq ?_
      refine wp_region_lit ?_
      refine st hF (g_assign hF rfl) rfl fun a hF => ?_
      refine wpList_nil ?_
      refine tN ?_
      refine sq ?_
      refine wp_region_lit ?_
      refine st hF (g_move hF rfl) rfl fun a hF => st hF (g_move hF rfl) rfl fun a hF => ?_
      refine stR hF (d_call Try.call74 hF (.cons rfl (.cons rfl .nil)) (heldStringS_ok b2 0 6 6 1 _ (fun c => mtx (1 + c)) _ (hM.row 1 rfl) (fun i hi => fnC_getE i (by omega) hi rfl) (by omega) (by omega) (fun _ _ => rfl))) rfl ?_
      rintro _ w' a ⟨hx, rfl⟩ hF
      have hM := hM.ext hx
      refine st hF (g_assign hF rfl) rfl fun a hF => ?_
      refine wpList_nil ?_
      refine tN ?_
      refine sq ?_
      refine sq ?_
      refine wp_region_lit ?_
      refine st hF (g_move hF rfl) rfl fun a hF => st hF (g_lss hF rfl rfl) rfl fun a hF => ?_
      refine wpList_nil ?_
      refine tN ?_
      refine c_kF hF rfl h4 ?_
      refine wp_skip ?_
      refine tN ?_
      refine sq ?_
      refine sq ?_
      refine wp_region_lit ?_
      refine st hF (g_move hF rfl) rfl fun a hF => st hF (g_move hF rfl) rfl fun a hF => st hF (g_neq hF rfl rfl) rfl fun a hF => ?_
      refine wpList_nil ?_
      refine tN ?_
      refine c_kF hF rfl h5 ?_
      refine wp_skip ?_
      refine tN ?_
      refine sq ?_
      refine wp_region_lit ?_
      refine st hF (g_assign hF rfl) rfl fun a hF => ?_
      refine wpList_nil ?_
      refine tN ?_
      refine wp_ret ?_
      refine fin1 rfl hF.defers (res_tmp hF rfl) ⟨_, rfl, hM.below, ?_⟩
      show _ = _
      rfl

end Go.Proofs.Ytkamkdhinmdaeaa
