/- What functions of the program return, as walks over their operations; no statement of the seat is proved here. -/
import Derived.Test.YtficgmohfabplaaP4
import Derived.Test.YtficgmohfabplaaK17
set_option linter.unusedVariables false
set_option linter.unusedSimpArgs false
namespace Go.Proofs.Ytficgmohfabplaa
open Go Go.RowKit Go.Sw Go.Ech
open Classical
/-- What the handle element is when the rows before k, and l numbers of the row k, are put together. -/
def hdl (p n : Nat) (T : Nat → Nat → Nat → Nat) (G : Nat → Nat → Nat) (k l c : Nat) : Nat := (sumTo (fun a => sumTo (fun b => G a b * T a b c) n) k + sumTo (fun b => G k b * T k b c) l) % p
theorem hdl_lt {p n : Nat} {T : Nat → Nat → Nat → Nat} {G : Nat → Nat → Nat} {k l c : Nat} (hp : 0 < p) : hdl p n T G k l c < p := Nat.mod_lt _ hp
theorem hdl_row {p n : Nat} {T : Nat → Nat → Nat → Nat} {G : Nat → Nat → Nat} {k : Nat} : hdl p n T G k n = hdl p n T G (k + 1) 0 := by
  funext c; unfold hdl; simp only [sumTo, Nat.add_zero]
theorem hdl_step {p n : Nat} {T : Nat → Nat → Nat → Nat} {G : Nat → Nat → Nat} {k l : Nat} : addM p (hdl p n T G k l) (T k l) (G k l) = hdl p n T G k (l + 1) := by
  funext c; unfold addM hdl; simp only [sumTo]
  rw [← Nat.add_assoc, Nat.add_mod, Nat.mod_mod, ← Nat.add_mod]
theorem timesEl {p n k : Nat} {T : Nat → Nat → Nat → Nat} {u : Nat → Nat} {c : Nat} (hk : k < n) : timesV p n T (fun c => if c = k then 1 else 0) u c = sumTo (fun b => u b * T k b c) n % p := by
  unfold timesV
  have e : ((prodI T (fun c => if c = k then 1 else 0) u n n c : Nat) : Int) = ((sumTo (fun b => u b * T k b c) n : Nat) : Int) := by
    rw [prodI_Pr, sumTo_sI]; unfold Pr
    rw [sI_one hk (fun a _ hne => sI_zero fun b _ => by simp [ci, hne])]
    exact sI_congr fun b _ => by simp [ci]
  rw [Int.ofNat.inj e]
theorem hdl_add {p n k : Nat} {T : Nat → Nat → Nat → Nat} {G : Nat → Nat → Nat} (hk : k < n) : addN p (hdl p n T G k 0) (timesV p n T (fun c => if c = k then 1 else 0) (G k)) 1 = hdl p n T G (k + 1) 0 := by
  funext c
  rw [show (1 : Int) = ((1 : Nat) : Int) from rfl, addN_addM]
  unfold addM; rw [timesEl hk]; unfold hdl; simp only [sumTo, Nat.add_zero, Nat.one_mul]
  rw [← Nat.add_mod]

theorem handle_ok (p n : Nat) (T : Nat → Nat → Nat → Nat) (f : Nat → Nat) (G : Nat → Nat → Nat) (w : World) (hp : primeN p) (hn0 : 0 < n) (hn : n ≤ 6) (hTp : ∀ i j k, T i j k < p) (hT0 : ∀ i j k, n ≤ k → T i j k = 0) (hf : ∀ i, f i ≤ 255) (hfr : FrobN p n T f) (hG : IsCop p n (formM p n T f) G) :
    CallsR Try.prog 42 #[.agg (algC (p : Int) (n : Int) T f)] w (fun res _ => res = .agg (vecC (hdl p n T G n 0))) := by
  refine calls_fr [.agg (algC (p : Int) (n : Int) T f)] Try.func42 rfl Try.ntmps42 rfl fun a hF => ?_
  have hM : Mem w w [none, none, none, none, none, none] [] := MemX.start w 6
  change Fr 27 a [(0, .agg (algC (p : Int) (n : Int) T f))] at hF
  have hp2 := hp.two
  have hp13 := hp.le
  have hT : ∀ i j k, T i j k ≤ 255 := fun i j k => by have := hTp i j k; omega
  have hGp := hG.lt
  have hG5 : ∀ i c, G i c ≤ 255 := fun i c => by have := hGp i c; omega
  have hd5 : ∀ k l c, hdl p n T G k l c ≤ 255 := fun k l c => by have := hdl_lt (p := p) (n := n) (T := T) (G := G) (k := k) (l := l) (c := c) (by omega); omega
  refine sq ?_
  refine wp_region_lit ?_
  refine stR hF (d_box 0 hM hF rfl) rfl ?_
  rintro _ w' a ⟨b1, rfl, hM, -⟩ hF
  change Mem w w' [some (b1, algC (p : Int) (n : Int) T f), none, none, none, none, none] [] at hM
  refine stR hF (d_alloc 1 hM ty_ze_27) rfl ?_
  rintro _ w' a ⟨b2, rfl, hM, -⟩ hF
  change Mem w w' [some (b1, algC (p : Int) (n : Int) T f), some (b2, fnC 6 (fun _ => .int .u8 (0))), none, none, none, none] [] at hM
  refine wpList_nil ?_
  refine tN ?_
  refine sq ?_
  refine wp_region_lit ?_
  refine stR hF (d_alloc 2 hM ty_ze_27) rfl ?_
  rintro _ w' a ⟨b3, rfl, hM, -⟩ hF
  change Mem w w' [some (b1, algC (p : Int) (n : Int) T f), some (b2, fnC 6 (fun _ => .int .u8 (0))), some (b3, fnC 6 (fun _ => .int .u8 (0))), none, none, none] [] at hM
  refine wpList_nil ?_
  refine tN ?_
  refine sq ?_
  refine sq ?_
  refine wp_region_lit ?_
  refine st hF (g_loadAgg ty_ag_31 hF rfl (hM.row 0 rfl) (by simp only [fnC_size, cells_size, vecC_size, tabC_size, planeC_size] <;> omega) (whole cells_size)) rfl fun a hF => ?_
  refine stR hF (d_callOwn (k := 5) hM (d_call Try.call62 hF (.cons rfl .nil) (copairing_ok p n T f G _ hp hn0 hn (fun _ _ _ => hT _ _ _) (fun _ => hf _) hfr hG))) rfl ?_
  rintro u w' a ⟨bG, capG, csG, hsG, hM, -⟩ hF
  obtain rfl := hsG.val
  change Mem w w' [some (b1, algC (p : Int) (n : Int) T f), some (b2, fnC 6 (fun _ => .int .u8 (0))), some (b3, fnC 6 (fun _ => .int .u8 (0))), none, none, some (bG, csG)] [] at hM
  refine st hF (g_len ty_us_46 hF rfl) rfl fun a hF => st hF (g_move hF rfl) rfl fun a hF => ?_
  refine wpList_nil ?_
  refine tN ?_
  refine wp_block ?_
  change Mem w _ [some (b1, algC (p : Int) (n : Int) T f), some (b2, fnC 6 (fun _ => .int .u8 (0))), some (b3, fnC 6 (fun _ => .int .u8 (0))), none, none, some (bG, csG)] [] at hM
  refine c_loop (fun (kk : Nat) a w' => kk ≤ n ∧ (True) ∧ Fr 27 a [(0, .agg (algC (p : Int) (n : Int) T f)), (1, ptr b1 (0)), (2, ptr b2 (0)), (3, ptr b3 (0)), (7, .agg (algC (p : Int) (n : Int) T f)), (8, .slice (some ⟨bG, 0, none⟩) (n) (capG)), (9, .int .i64 (((n : Nat) : Int))), (10, .int .i64 (((kk : Nat) : Int)))] ∧ Mem w w' [some (b1, algC (p : Int) (n : Int) T f), some (b2, fnC 6 (fun _ => .int .u8 (0))), some (b3, vecC (hdl p n T G kk 0)), none, none, some (bG, csG)] []) (fun kk => n - kk) 0 ?_ ?_
  ·
    refine ⟨by omega, trivial, hF.sub _ (by repeat' constructor), ?_⟩
    refine hM.rowc 2 rfl (fnC_congr fun c hc => by unfold hdl; simp [sumTo])
  ·
    clear hF hM
    rintro gk a w' ⟨hgk, hinv1, hF, hM⟩
    have hv : ∀ c, G gk c ≤ 255 := hG5 gk
    have hvt : ∀ c, timesV p n T (fun c => if c = gk then 1 else 0) (G gk) c ≤ 255 := fun c => timesV_le (by omega) (by omega) _ _ c
    have hvs : ∀ c, hdl p n T G gk 0 c ≤ 255 := hd5 gk 0
    refine sq ?_
    refine wp_region_lit ?_
    refine st hF (g_lss hF rfl rfl) rfl fun a hF => ?_
    refine wpList_nil ?_
    refine tN ?_
    refine sq ?_
    refine c_cond hF rfl (fun h4 => ?_) (fun h4 => ?_)
    ·
      refine wp_skip ?_
      refine tN ?_
      refine sq ?_
      refine wp_block ?_
      refine sq ?_
      refine wp_region_lit ?_
      refine st hF (g_move hF rfl) rfl fun a hF => st hF (g_indexSl (i := gk) ty_sl_46 hF rfl rfl rfl (by omega)) rfl fun a hF => st hF (g_loadAgg ty_ag_27 hF rfl (hM.row 5 rfl) (hsG.room (gk) (by omega)) (hsG.vec0 (gk) (by omega))) rfl fun a hF => ?_
      refine stR hF (d_alloc 3 hM ty_ze_27) rfl ?_
      rintro _ w' a ⟨b5, rfl, hM, -⟩ hF
      change Mem w w' [some (b1, algC (p : Int) (n : Int) T f), some (b2, fnC 6 (fun _ => .int .u8 (0))), some (b3, vecC (hdl p n T G gk 0)), some (b5, fnC 6 (fun _ => .int .u8 (0))), none, some (bG, csG)] [] at hM
      refine st hF (g_assign hF rfl) rfl fun a hF => ?_
      refine stN hF (d_storeAgg 3 hM rfl ty_sz_27 hF rfl rfl (by first | exact vecC_one | exact cells_one | (refine fnC_one fun _ _ => ?_; first | rfl | (split <;> rfl))) (by simp only [fnC_size, cells_size, vecC_size, tabC_size, planeC_size]) (by simp only [fnC_size, cells_size, vecC_size, tabC_size, planeC_size] <;> omega) (splice_whole _ _ (by simp only [fnC_size, cells_size, vecC_size, tabC_size, planeC_size]))) ?_
      intro _ w' a hM hF
      change Mem w w' [some (b1, algC (p : Int) (n : Int) T f), some (b2, fnC 6 (fun _ => .int .u8 (0))), some (b3, vecC (hdl p n T G gk 0)), some (b5, vecC (G (gk))), none, some (bG, csG)] [] at hM
      refine wpList_nil ?_
      refine tN ?_
      refine sq ?_
      refine c_par 6 [4] [.val (.agg (algC (p : Int) (n : Int) T f)), .val (.int .i64 (((gk : Nat) : Int))), .val (.agg (vecC (fun c => if c = gk then 1 else 0))), .val (.agg (vecC (G (gk)))), .val (.agg (vecC (timesV p n T ((fun c => if c = gk then 1 else 0)) ((G (gk)))))), .own 4 (fnC 6 (fun _ => .int .u8 (0))) (fun b => ptr b 0)] hmix rfl hF rfl hM ⟨fun a w gG hF hS hd => by have hM := hS.mem rfl; exact par_val hS rfl (g_loadAgg ty_ag_31 hF rfl (hM.row 0 rfl) (by simp only [fnC_size, cells_size, vecC_size, tabC_size, planeC_size] <;> omega) (whole cells_size)), fun a w gG hF hS hd => by exact par_val hS rfl (g_move hF rfl), fun a w gG hF hS hd => by have hF := hF.ext1 16 (hd 1 rfl rfl); exact par_call (by repeat constructor) hS rfl (d_call Try.call63 hF (.cons rfl .nil) (basisVector_ok (gk) _ (by omega))), fun a w gG hF hS hd => by have hM := hS.mem rfl; exact par_val hS rfl (g_loadAgg ty_ag_27 hF rfl (hM.row 3 rfl) (by simp only [fnC_size, cells_size, vecC_size, tabC_size, planeC_size] <;> omega) (whole (by simp only [fnC_size, cells_size, vecC_size, tabC_size, planeC_size]))), fun a w gG hF hS hd => by have hF := hF.ext1 15 (hd 0 rfl rfl); have hF := hF.ext1 17 (hd 2 rfl rfl); have hF := hF.ext1 18 (hd 3 rfl rfl); exact par_call (by repeat constructor) hS rfl (d_call Try.call37 hF (.cons rfl (.cons rfl (.cons rfl .nil))) (product_ok p n T f ((fun c => if c = gk then 1 else 0)) ((G (gk))) _ (by omega) (by omega) (by omega) (fun _ _ _ => hT _ _ _) (fun _ => by first | exact hv _ | exact hvt _ | exact hvs _ | exact hu _ | exact hT _ _ _ | exact hf _ | omega | (split <;> omega) | (dsimp only; split <;> omega) | assumption) (fun _ => by first | exact hv _ | exact hvt _ | exact hvs _ | exact hu _ | exact hT _ _ _ | exact hf _ | omega | (split <;> omega) | (dsimp only; split <;> omega) | assumption))), fun a w gG hF hS hd => by exact par_own (by repeat constructor) hS rfl rfl rfl rfl (d_alloc 4 hS.1 ty_ze_27), trivial⟩ ?_
      intro a w' L hF hS hq
      have hF := hF.ext1 15 (hq 0 rfl rfl)
      have hF := hF.ext1 16 (hq 1 rfl rfl)
      have hF := hF.ext1 17 (hq 2 rfl rfl)
      have hF := hF.ext1 18 (hq 3 rfl rfl)
      have hF := hF.ext1 19 (hq 4 rfl rfl)
      obtain ⟨hM, hL⟩ := hS
      obtain ⟨b6, hptr, hkk⟩ := hq 5 rfl rfl
      have hF := hF.ext1 6 hptr
      have hL := hL.take hkk
      obtain rfl := hL.eq
      change Mem w w' [some (b1, algC (p : Int) (n : Int) T f), some (b2, fnC 6 (fun _ => .int .u8 (0))), some (b3, vecC (hdl p n T G gk 0)), some (b5, vecC (G (gk))), some (b6, fnC 6 (fun _ => .int .u8 (0))), some (bG, csG)] [] at hM
      change wpList Try.prog _ _ [_] _ _
      refine stN hF (d_storeAgg 4 hM rfl ty_sz_27 hF rfl rfl (by first | exact vecC_one | exact cells_one | (refine fnC_one fun _ _ => ?_; first | rfl | (split <;> rfl))) (by simp only [fnC_size, cells_size, vecC_size, tabC_size, planeC_size]) (by simp only [fnC_size, cells_size, vecC_size, tabC_size, planeC_size] <;> omega) (splice_whole _ _ (by simp only [fnC_size, cells_size, vecC_size, tabC_size, planeC_size]))) ?_
      intro _ w' a hM hF
      change Mem w w' [some (b1, algC (p : Int) (n : Int) T f), some (b2, fnC 6 (fun _ => .int .u8 (0))), some (b3, vecC (hdl p n T G gk 0)), some (b5, vecC (G (gk))), some (b6, vecC (timesV p n T ((fun c => if c = gk then 1 else 0)) ((G (gk))))), some (bG, csG)] [] at hM
      refine wpList_nil ?_
      refine tN ?_
      refine c_par 4 [] [.val (.slice (some ⟨b3, 0, none⟩) (6) (6)), .val (.slice (some ⟨b6, 0, none⟩) (6) (6)), .val (ptr b1 (0 + 0)), .val (.int .i64 (((p : Nat) : Int)))] hmix rfl hF rfl hM ⟨fun a w gG hF hS hd => by exact par_val hS rfl (g_sliceArr ty_ua_27 ty_sz_5 (by decide) hF rfl), fun a w gG hF hS hd => by exact par_val hS rfl (g_sliceArr ty_ua_27 ty_sz_5 (by decide) hF rfl), fun a w gG hF hS hd => by exact par_val hS rfl (g_fieldAddr ty_fo_31_0 hF rfl), fun a w gG hF hS hd => by have hF := hF.ext1 22 (hd 2 rfl rfl); have hM := hS.mem rfl; exact par_val hS rfl (g_load ty_on_2 hF rfl (hM.row 0 rfl) (algC_p (by omega))), trivial⟩ ?_
      intro a w' L hF hS hq
      have hF := hF.ext1 20 (hq 0 rfl rfl)
      have hF := hF.ext1 21 (hq 1 rfl rfl)
      have hF := hF.ext1 22 (hq 2 rfl rfl)
      have hF := hF.ext1 23 (hq 3 rfl rfl)
      have hM := hS.mem rfl
      change wpList Try.prog _ _ [_] _ _
      refine stR hF (d_callX Try.call64 hF (.cons rfl (.cons rfl (.cons rfl (.cons rfl .nil)))) (addRow_ok (p) b3 6 b6 0 6 6 _ ((hdl p n T G gk 0)) ((timesV p n T ((fun c => if c = gk then 1 else 0)) ((G (gk))))) (1) _ (by omega) (by omega) (by omega) (by omega) (by omega) (fun _ => by first | exact hv _ | exact hvt _ | exact hvs _ | exact hu _ | exact hT _ _ _ | exact hf _ | omega | (split <;> omega) | (dsimp only; split <;> omega) | assumption) (hM.row 2 rfl) (fun _ => by first | exact hv _ | exact hvt _ | exact hvs _ | exact hu _ | exact hT _ _ _ | exact hf _ | omega | (split <;> omega) | (dsimp only; split <;> omega) | assumption) (hM.ne2 (i := 4) (j := 2) rfl rfl (by decide)) (hM.row 4 rfl) (fun i hi => vecC_get i (by omega) hi))) rfl ?_
      rintro _ w' a ⟨hx, rfl, hbk⟩ hF
      have hM := hM.upd (cs' := vecC (addN p ((hdl p n T G gk 0)) ((timesV p n T ((fun c => if c = gk then 1 else 0)) ((G (gk))))) (1))) 2 rfl hx hbk
      change Mem w w' [some (b1, algC (p : Int) (n : Int) T f), some (b2, fnC 6 (fun _ => .int .u8 (0))), some (b3, vecC (addN p ((hdl p n T G gk 0)) ((timesV p n T ((fun c => if c = gk then 1 else 0)) ((G (gk))))) (1))), some (b5, vecC (G (gk))), some (b6, vecC (timesV p n T ((fun c => if c = gk then 1 else 0)) ((G (gk))))), some (bG, csG)] [] at hM
      refine wpList_nil ?_
      refine iN ?_
      refine tN ?_
      refine wp_region_lit ?_
      refine st hF (g_add hF rfl rfl (add_nat (gk) (1) (by omega))) rfl fun a hF => st hF (g_move hF rfl) rfl fun a hF => ?_
      refine wpList_nil ?_
      refine tN ?_
      have hM := hM.drop 3
      have hM := hM.drop 4
      refine ⟨gk + 1, ⟨by omega, trivial, hF.sub _ (by repeat' constructor), ?_⟩, by omega⟩
      refine hM.rowc 2 rfl (by rw [hdl_add (by omega)])
    ·
      obtain rfl : n = gk := by omega
      refine wp_exit ?_
      refine tX ?_
      refine tX ?_
      refine ib_same ?_
      refine tN ?_
      refine sq ?_
      refine wp_region_lit ?_
      refine st hF (g_loadAgg ty_ag_27 hF rfl (hM.row 2 rfl) (by simp only [fnC_size, cells_size, vecC_size, tabC_size, planeC_size] <;> omega) (whole (by simp only [fnC_size, cells_size, vecC_size, tabC_size, planeC_size]))) rfl fun a hF => ?_
      refine stN hF (d_storeAgg 1 hM rfl ty_sz_27 hF rfl rfl (by first | exact vecC_one | exact cells_one | (refine fnC_one fun _ _ => ?_; first | rfl | (split <;> rfl))) (by simp only [fnC_size, cells_size, vecC_size, tabC_size, planeC_size]) (by simp only [fnC_size, cells_size, vecC_size, tabC_size, planeC_size] <;> omega) (splice_whole _ _ (by simp only [fnC_size, cells_size, vecC_size, tabC_size, planeC_size]))) ?_
      intro _ w' a hM hF
      change Mem w w' [some (b1, algC (p : Int) (n : Int) T f), some (b2, vecC (hdl p n T G n 0)), some (b3, vecC (hdl p n T G n 0)), none, none, some (bG, csG)] [] at hM
      refine wpList_nil ?_
      refine tN ?_
      refine wp_ret ?_
      refine fin1 rfl hF.defers (res_agg ty_ag_27 hF rfl (hM.row 1 rfl) (by simp only [fnC_size, cells_size, vecC_size, tabC_size, planeC_size])) ⟨_, rfl, hM.below, ?_⟩
      show _ = _
      rfl

theorem l02Handle_ok (p n : Nat) (T : Nat → Nat → Nat → Nat) (f : Nat → Nat) (G : Nat → Nat → Nat) (w : World) (hp : primeN p) (hn0 : 0 < n) (hn : n ≤ 6) (hTp : ∀ i j k, T i j k < p) (hT0 : ∀ i j k, n ≤ k → T i j k = 0) (hf : ∀ i, f i ≤ 255) (hfr : FrobN p n T f) (hG : IsCop p n (formM p n T f) G) :
    CallsR Try.prog 79 #[.agg (algC (p : Int) (n : Int) T f)] w (fun res _ => res = .agg (vecC (hdl p n T G n 0))) := by
  refine calls_fr [.agg (algC (p : Int) (n : Int) T f)] Try.func79 rfl Try.ntmps79 rfl fun a hF => ?_
  have hM : Mem w w [none, none, none] [] := MemX.start w 3
  change Fr 40 a [(0, .agg (algC (p : Int) (n : Int) T f))] at hF
  have hp2 := hp.two
  have hp13 := hp.le
  have hT : ∀ i j k, T i j k ≤ 255 := fun i j k => by have := hTp i j k; omega
  have hGp := hG.lt
  have hG5 : ∀ i c, G i c ≤ 255 := fun i c => by have := hGp i c; omega
  have hd5 : ∀ k l c, hdl p n T G k l c ≤ 255 := fun k l c => by have := hdl_lt (p := p) (n := n) (T := T) (G := G) (k := k) (l := l) (c := c) (by omega); omega
  refine sq ?_
  refine wp_region_lit ?_
  refine stR hF (d_box 0 hM hF rfl) rfl ?_
  rintro _ w' a ⟨b1, rfl, hM, -⟩ hF
  change Mem w w' [some (b1, algC (p : Int) (n : Int) T f), none, none] [] at hM
  refine stR hF (d_alloc 1 hM ty_ze_27) rfl ?_
  rintro _ w' a ⟨b2, rfl, hM, -⟩ hF
  change Mem w w' [some (b1, algC (p : Int) (n : Int) T f), some (b2, fnC 6 (fun _ => .int .u8 (0))), none] [] at hM
  refine wpList_nil ?_
  refine tN ?_
  refine sq ?_
  refine wp_region_lit ?_
  refine st hF (g_loadAgg ty_ag_31 hF rfl (hM.row 0 rfl) (by simp only [fnC_size, cells_size, vecC_size, tabC_size, planeC_size] <;> omega) (whole cells_size)) rfl fun a hF => ?_
  refine stR hF (d_call Try.call86 hF (.cons rfl .nil) (l02Copairing_ok p n T f G _ hp hn0 hn hTp hT0 hf hfr hG)) rfl ?_
  rintro u w' a ⟨hx, hr⟩ hF
  have hr := hr.rows.fresh hM
  have hM := hM.ext hx
  obtain ⟨DG, βG, κG, CG, bG, cG, csG, hRG, hsG, hmG, hgG, hbG, hM⟩ := hM.addR hr
  obtain rfl := hsG.val
  have hRmG : ∀ x ∈ (DG ++ []), x ∈ (DG ++ []) := fun _ h => h
  change Mem w w' [some (b1, algC (p : Int) (n : Int) T f), some (b2, fnC 6 (fun _ => .int .u8 (0))), none] (DG ++ []) at hM
  refine st hF (g_build0 ty_bu_27) rfl fun a hF => ?_
  refine stR hF (d_alloc 2 hM ty_ze_27) rfl ?_
  rintro _ w' a ⟨b3, rfl, hM, -⟩ hF
  change Mem w w' [some (b1, algC (p : Int) (n : Int) T f), some (b2, fnC 6 (fun _ => .int .u8 (0))), some (b3, fnC 6 (fun _ => .int .u8 (0)))] (DG ++ []) at hM
  refine st hF (g_assign hF rfl) rfl fun a hF => ?_
  refine stN hF (d_storeAgg 2 hM rfl ty_sz_27 hF rfl rfl (by first | exact vecC_one | exact cells_one | (refine fnC_one fun _ _ => ?_; first | rfl | (split <;> rfl))) (by simp only [fnC_size, cells_size, vecC_size, tabC_size, planeC_size]) (by simp only [fnC_size, cells_size, vecC_size, tabC_size, planeC_size] <;> omega) (splice_whole _ _ (by simp only [fnC_size, cells_size, vecC_size, tabC_size, planeC_size]))) ?_
  intro _ w' a hM hF
  change Mem w w' [some (b1, algC (p : Int) (n : Int) T f), some (b2, fnC 6 (fun _ => .int .u8 (0))), some (b3, fnC 6 (fun _ => .int .u8 (0)))] (DG ++ []) at hM
  refine wpList_nil ?_
  refine tN ?_
  refine sq ?_
  refine sq ?_
  refine wp_region_lit ?_
  refine st hF (g_assign hF rfl) rfl fun a hF => ?_
  refine wpList_nil ?_
  refine tN ?_
  refine wp_block ?_
  change Mem w _ [some (b1, algC (p : Int) (n : Int) T f), some (b2, fnC 6 (fun _ => .int .u8 (0))), some (b3, fnC 6 (fun _ => .int .u8 (0)))] (DG ++ []) at hM
  refine c_loop (fun (kk : Nat) a w' => kk ≤ n ∧ (True) ∧ Fr 40 a [(0, .agg (algC (p : Int) (n : Int) T f)), (1, ptr b1 (0)), (2, ptr b2 (0)), (7, .agg (algC (p : Int) (n : Int) T f)), (8, .slice (some ⟨bG, 0, none⟩) (n) (cG)), (9, .agg (fnC 6 (fun _ => .int .u8 (0)))), (4, ptr b3 (0)), (3, .slice (some ⟨bG, 0, none⟩) (n) (cG)), (5, .int .i64 (((kk : Nat) : Int)))] ∧ Mem w w' [some (b1, algC (p : Int) (n : Int) T f), some (b2, fnC 6 (fun _ => .int .u8 (0))), some (b3, vecC (hdl p n T G kk 0))] (DG ++ [])) (fun kk => n - kk) 0 ?_ ?_
  ·
    refine ⟨by omega, trivial, hF.sub _ (by repeat' constructor), ?_⟩
    refine hM.rowc 2 rfl (fnC_congr fun c hc => by unfold hdl; simp [sumTo])
  ·
    clear hF hM
    rintro gk a w' ⟨hgk, hinv1, hF, hM⟩
    refine sq ?_
    refine sq ?_
    refine wp_region_lit ?_
    refine st hF (g_move hF rfl) rfl fun a hF => st hF (g_fieldAddr ty_fo_31_1 hF rfl) rfl fun a hF => st hF (g_load ty_on_2 hF rfl (hM.row 0 rfl) (algC_n (by omega))) rfl fun a hF => st hF (g_lss hF rfl rfl) rfl fun a hF => ?_
    refine wpList_nil ?_
    refine tN ?_
    refine c_cond hF rfl (fun h4 => ?_) (fun h4 => ?_)
    ·
      refine wp_skip ?_
      refine tN ?_
      refine sq ?_
      refine wp_block ?_
      refine sq ?_
      refine wp_region_lit ?_
      refine st hF (g_assign hF rfl) rfl fun a hF => ?_
      refine wpList_nil ?_
      refine tN ?_
      refine wp_block ?_
      change Mem w _ [some (b1, algC (p : Int) (n : Int) T f), some (b2, fnC 6 (fun _ => .int .u8 (0))), some (b3, vecC (hdl p n T G gk 0))] (DG ++ []) at hM
      refine c_loop (fun (kk : Nat) a w' => kk ≤ n ∧ (True) ∧ Fr 40 a [(0, .agg (algC (p : Int) (n : Int) T f)), (1, ptr b1 (0)), (2, ptr b2 (0)), (7, .agg (algC (p : Int) (n : Int) T f)), (8, .slice (some ⟨bG, 0, none⟩) (n) (cG)), (9, .agg (fnC 6 (fun _ => .int .u8 (0)))), (4, ptr b3 (0)), (3, .slice (some ⟨bG, 0, none⟩) (n) (cG)), (5, .int .i64 (((gk : Nat) : Int))), (10, .int .i64 (((gk : Nat) : Int))), (11, ptr b1 (0 + 1)), (12, .int .i64 (((n : Nat) : Int))), (13, .bool (decide ((((gk : Nat) : Int) : Int) < ((n : Nat) : Int)))), (6, .int .i64 (((kk : Nat) : Int)))] ∧ Mem w w' [some (b1, algC (p : Int) (n : Int) T f), some (b2, fnC 6 (fun _ => .int .u8 (0))), some (b3, vecC (hdl p n T G gk kk))] (DG ++ [])) (fun kk => n - kk) 0 ?_ ?_
      ·
        refine ⟨by omega, trivial, hF.sub _ (by repeat' constructor), ?_⟩
        exact hM
      ·
        clear hF hM
        rintro gl a w' ⟨hgl, hinv2, hF, hM⟩
        have hv : ∀ c, hdl p n T G gk gl c ≤ 255 := hd5 gk gl
        have hgl := hGp gk gl
        refine sq ?_
        refine sq ?_
        refine wp_region_lit ?_
        refine st hF (g_move hF rfl) rfl fun a hF => st hF (g_fieldAddr ty_fo_31_1 hF rfl) rfl fun a hF => st hF (g_load ty_on_2 hF rfl (hM.row 0 rfl) (algC_n (by omega))) rfl fun a hF => st hF (g_lss hF rfl rfl) rfl fun a hF => ?_
        refine wpList_nil ?_
        refine tN ?_
        refine c_cond hF rfl (fun h5 => ?_) (fun h5 => ?_)
        ·
          refine wp_skip ?_
          refine tN ?_
          refine sq ?_
          refine wp_block ?_
          refine c_par 16 [] [.val (ptr b1 (0 + 0)), .val (.int .i64 (((p : Nat) : Int))), .val (.agg (vecC (hdl p n T G gk gl))), .val (.agg (algC (p : Int) (n : Int) T f)), .val (.int .i64 (((gk : Nat) : Int))), .val (.agg (vecC (fun c => if c = gk then 1 else 0))), .val (.int .i64 (((gl : Nat) : Int))), .val (.agg (vecC (fun c => if c = gl then 1 else 0))), .val (.agg (vecC (T gk gl))), .val (.slice (some ⟨bG, 0, none⟩) (n) (cG)), .val (.int .i64 (((gk : Nat) : Int))), .val (ptr bG (0 + (gk) * 1)), .val (.slice (some ⟨βG (gk), 0, none⟩) (n) (κG (gk))), .val (.int .i64 (((gl : Nat) : Int))), .val (ptr (βG (gk)) (0 + (gl) * 1)), .val (.int .i64 (((G (gk) (gl) : Nat) : Int)))] hmix rfl hF rfl hM ⟨fun a w gG hF hS hd => by exact par_val hS rfl (g_fieldAddr ty_fo_31_0 hF rfl), fun a w gG hF hS hd => by have hF := hF.ext1 22 (hd 0 rfl rfl); have hM := hS.mem rfl; exact par_val hS rfl (g_load ty_on_2 hF rfl (hM.row 0 rfl) (algC_p (by omega))), fun a w gG hF hS hd => by have hM := hS.mem rfl; exact par_val hS rfl (g_loadAgg ty_ag_27 hF rfl (hM.row 2 rfl) (by simp only [fnC_size, cells_size, vecC_size, tabC_size, planeC_size] <;> omega) (whole (by simp only [fnC_size, cells_size, vecC_size, tabC_size, planeC_size]))), fun a w gG hF hS hd => by have hM := hS.mem rfl; exact par_val hS rfl (g_loadAgg ty_ag_31 hF rfl (hM.row 0 rfl) (by simp only [fnC_size, cells_size, vecC_size, tabC_size, planeC_size] <;> omega) (whole cells_size)), fun a w gG hF hS hd => by exact par_val hS rfl (g_move hF rfl), fun a w gG hF hS hd => by have hF := hF.ext1 26 (hd 4 rfl rfl); exact par_call (by repeat constructor) hS rfl (d_call Try.call71 hF (.cons rfl .nil) (l01Basis_ok (gk) _ (by omega))), fun a w gG hF hS hd => by exact par_val hS rfl (g_move hF rfl), fun a w gG hF hS hd => by have hF := hF.ext1 28 (hd 6 rfl rfl); exact par_call (by repeat constructor) hS rfl (d_call Try.call71 hF (.cons rfl .nil) (l01Basis_ok (gl) _ (by omega))), fun a w gG hF hS hd => by have hF := hF.ext1 25 (hd 3 rfl rfl); have hF := hF.ext1 27 (hd 5 rfl rfl); have hF := hF.ext1 29 (hd 7 rfl rfl); exact par_call (by repeat constructor) hS rfl (d_call Try.call33 hF (.cons rfl (.cons rfl (.cons rfl .nil))) ((CallsR.val (l01Times_ok p n T f ((fun c => if c = gk then 1 else 0)) ((fun c => if c = gl then 1 else 0)) _ (by omega) (by omega) (by omega) (fun _ _ _ => hT _ _ _) (fun _ => by first | exact hv _ | exact hvt _ | exact hvs _ | exact hu _ | exact hT _ _ _ | exact hf _ | omega | (split <;> omega) | (dsimp only; split <;> omega) | assumption) (fun _ => by first | exact hv _ | exact hvt _ | exact hvs _ | exact hu _ | exact hT _ _ _ | exact hf _ | omega | (split <;> omega) | (dsimp only; split <;> omega) | assumption)) (congrArg (fun v => Value.agg (vecC v)) (timesE hTp hT0 (i := gk) (j := gl) (by omega) (by omega)))))), fun a w gG hF hS hd => by exact par_val hS rfl (g_move hF rfl), fun a w gG hF hS hd => by exact par_val hS rfl (g_move hF rfl), fun a w gG hF hS hd => by have hF := hF.ext1 31 (hd 9 rfl rfl); have hF := hF.ext1 32 (hd 10 rfl rfl); exact par_val hS rfl (g_indexSl (i := gk) ty_sl_64 hF rfl rfl rfl (by omega)), fun a w gG hF hS hd => by have hF := hF.ext1 33 (hd 11 rfl rfl); have hM := hS.mem rfl; exact par_val hS rfl (g_load ty_on_50 hF rfl (hM.fzm hmG) (hsG.get1 (gk) (by omega))), fun a w gG hF hS hd => by exact par_val hS rfl (g_move hF rfl), fun a w gG hF hS hd => by have hF := hF.ext1 34 (hd 12 rfl rfl); have hF := hF.ext1 35 (hd 13 rfl rfl); exact par_val hS rfl (g_indexSl (i := gl) ty_sl_50 hF rfl rfl rfl (by omega)), fun a w gG hF hS hd => by have hF := hF.ext1 36 (hd 14 rfl rfl); have hM := hS.mem rfl; exact par_val hS rfl (g_load ty_on_2 hF rfl (hM.fzm (hRmG _ (hRG.mem (gk) (by omega)))) (hRG.get (i := gk) (by omega) (gl) (by omega))), trivial⟩ ?_
          intro a w' L hF hS hq
          have hF := hF.ext1 22 (hq 0 rfl rfl)
          have hF := hF.ext1 23 (hq 1 rfl rfl)
          have hF := hF.ext1 24 (hq 2 rfl rfl)
          have hF := hF.ext1 25 (hq 3 rfl rfl)
          have hF := hF.ext1 26 (hq 4 rfl rfl)
          have hF := hF.ext1 27 (hq 5 rfl rfl)
          have hF := hF.ext1 28 (hq 6 rfl rfl)
          have hF := hF.ext1 29 (hq 7 rfl rfl)
          have hF := hF.ext1 30 (hq 8 rfl rfl)
          have hF := hF.ext1 31 (hq 9 rfl rfl)
          have hF := hF.ext1 32 (hq 10 rfl rfl)
          have hF := hF.ext1 33 (hq 11 rfl rfl)
          have hF := hF.ext1 34 (hq 12 rfl rfl)
          have hF := hF.ext1 35 (hq 13 rfl rfl)
          have hF := hF.ext1 36 (hq 14 rfl rfl)
          have hF := hF.ext1 37 (hq 15 rfl rfl)
          have hM := hS.mem rfl
          change wpList Try.prog _ _ [_, _] _ _
          refine stR hF (d_call Try.call87 hF (.cons rfl (.cons rfl (.cons rfl (.cons rfl .nil)))) (l01Add_ok (p) ((hdl p n T G gk gl)) ((T gk gl)) (G (gk) (gl)) _ (by omega) (by omega) (by omega) (fun _ => by first | exact hv _ | exact hvt _ | exact hvs _ | exact hu _ | exact hT _ _ _ | exact hf _ | omega | (split <;> omega) | (dsimp only; split <;> omega) | assumption) (fun _ => by first | exact hv _ | exact hvt _ | exact hvs _ | exact hu _ | exact hT _ _ _ | exact hf _ | omega | (split <;> omega) | (dsimp only; split <;> omega) | assumption))) rfl ?_
          rintro _ w' a ⟨hx, rfl⟩ hF
          have hM := hM.ext hx
          refine stN hF (d_storeAgg 2 hM rfl ty_sz_27 hF rfl rfl (by first | exact vecC_one | exact cells_one | (refine fnC_one fun _ _ => ?_; first | rfl | (split <;> rfl))) (by simp only [fnC_size, cells_size, vecC_size, tabC_size, planeC_size]) (by simp only [fnC_size, cells_size, vecC_size, tabC_size, planeC_size] <;> omega) (splice_whole _ _ (by simp only [fnC_size, cells_size, vecC_size, tabC_size, planeC_size]))) ?_
          intro _ w' a hM hF
          change Mem w w' [some (b1, algC (p : Int) (n : Int) T f), some (b2, fnC 6 (fun _ => .int .u8 (0))), some (b3, vecC (addM p ((hdl p n T G gk gl)) ((T gk gl)) (G (gk) (gl))))] (DG ++ []) at hM
          refine wpList_nil ?_
          refine iN ?_
          refine tN ?_
          refine wp_region_lit ?_
          refine st hF (g_move hF rfl) rfl fun a hF => st hF (g_add hF rfl rfl (add_nat (gl) (1) (by omega))) rfl fun a hF => st hF (g_assign hF rfl) rfl fun a hF => ?_
          refine wpList_nil ?_
          refine tN ?_
          refine ⟨gl + 1, ⟨by omega, trivial, hF.sub _ (by repeat' constructor), ?_⟩, by omega⟩
          exact hM.rowc 2 rfl (by rw [hdl_step])
        ·
          obtain rfl : n = gl := by omega
          refine wp_exit ?_
          refine tX ?_
          refine tX ?_
          refine ib_same ?_
          refine iN ?_
          refine tN ?_
          refine wp_region_lit ?_
          refine st hF (g_move hF rfl) rfl fun a hF => st hF (g_add hF rfl rfl (add_nat (gk) (1) (by omega))) rfl fun a hF => st hF (g_assign hF rfl) rfl fun a hF => ?_
          refine wpList_nil ?_
          refine tN ?_
          refine ⟨gk + 1, ⟨by omega, trivial, hF.sub _ (by repeat' constructor), ?_⟩, by omega⟩
          exact hM.rowc 2 rfl (by rw [hdl_row])
    ·
      obtain rfl : n = gk := by omega
      refine wp_exit ?_
      refine tX ?_
      refine tX ?_
      refine ib_same ?_
      refine tN ?_
      refine sq ?_
      refine wp_region_lit ?_
      refine st hF (g_loadAgg ty_ag_27 hF rfl (hM.row 2 rfl) (by simp only [fnC_size, cells_size, vecC_size, tabC_size, planeC_size] <;> omega) (whole (by simp only [fnC_size, cells_size, vecC_size, tabC_size, planeC_size]))) rfl fun a hF => ?_
      refine stN hF (d_storeAgg 1 hM rfl ty_sz_27 hF rfl rfl (by first | exact vecC_one | exact cells_one | (refine fnC_one fun _ _ => ?_; first | rfl | (split <;> rfl))) (by simp only [fnC_size, cells_size, vecC_size, tabC_size, planeC_size]) (by simp only [fnC_size, cells_size, vecC_size, tabC_size, planeC_size] <;> omega) (splice_whole _ _ (by simp only [fnC_size, cells_size, vecC_size, tabC_size, planeC_size]))) ?_
      intro _ w' a hM hF
      change Mem w w' [some (b1, algC (p : Int) (n : Int) T f), some (b2, vecC (hdl p n T G n 0)), some (b3, vecC (hdl p n T G n 0))] (DG ++ []) at hM
      refine wpList_nil ?_
      refine tN ?_
      refine wp_ret ?_
      refine fin1 rfl hF.defers (res_agg ty_ag_27 hF rfl (hM.row 1 rfl) (by simp only [fnC_size, cells_size, vecC_size, tabC_size, planeC_size])) ⟨_, rfl, hM.below, ?_⟩
      show _ = _
      rfl

end Go.Proofs.Ytficgmohfabplaa
