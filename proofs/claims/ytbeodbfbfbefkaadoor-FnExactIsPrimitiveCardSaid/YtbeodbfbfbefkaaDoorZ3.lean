/- What functions of the program return, as walks over their operations; no statement of the seat is proved here. -/
import Derived.Test.YtbeodbfbfbefkaaDoorZ2
import Derived.Test.YtbeodbfbfbefkaaDoorSw54
set_option linter.unusedVariables false
set_option linter.unusedSimpArgs false
namespace Go.Proofs.YtbeodbfbfbefkaaDoor
open Go Go.RowKit Go.Sw Go.Ech
open Classical
theorem ty_sz_5 : sizeP Tryd.prog 5 = some 1 := by kernel_rfl
def fxI (p n : Nat) (T : Nat → Nat → Nat → Nat) (uu : Nat → Nat) (i c : Nat) : Nat := addN p (powW (timesV p n T) uu (fun q => if q = i then 1 else 0) p) (fun q => if q = i then 1 else 0) (-1) c
theorem fxI_lt {p n : Nat} {T : Nat → Nat → Nat → Nat} {uu : Nat → Nat} (hp : 0 < p) : ∀ i c, fxI p n T uu i c < p := fun i c => addN_lt hp
theorem fx_ker {p n : Nat} {T : Nat → Nat → Nat → Nat} {uu : Nat → Nat} (hp : primeN p) (ha : AssI p n T) (hk : ComI n T) (hu : UnitI p n T uu) (v : Nat → Nat) (hv : ∀ c, v c < p) : Ker p n (spE p n T uu p 1) n (ci v) ↔ EqP p n (vP n T (ci uu) (ci v) p) (ci v) := by
  have hp2 := hp.two
  refine fix_iff ha hk (UnitI.righty hu) hp v hv fun r hr c hc => ?_
  have e : ci (fun q => if q = c then 1 else 0) = eb c := funext fun d => by
    show (((if d = c then 1 else 0 : Nat)) : Int) = if d = c then 1 else 0
    split <;> rfl
  have h1 := addN_dvd (p := p) (v := powW (timesV p n T) uu (fun q => if q = c then 1 else 0) p) (u := fun q => if q = c then 1 else 0) (x := -((1 : Nat) : Int)) (c := r) (by omega)
  have h2 := powW_vP (p := p) (n := n) (T := T) (uu := uu) (v := fun q => if q = c then 1 else 0) p r hr
  rw [e] at h1 h2
  have h3 := Int.dvd_add h1 h2
  rwa [show ∀ A B C D : Int, A - (B + -((1 : Nat) : Int) * C) + (B - D) = A - (D - C) from fun A B C D => by omega] at h3
theorem vP_unit {p n : Nat} {T : Nat → Nat → Nat → Nat} {uu : Nat → Nat} (hu : UnitI p n T uu) : ∀ k, EqP p n (vP n T (ci uu) (ci uu) k) (ci uu)
  | 0 => EqP.refl _
  | k + 1 => (EqP.mul (vP_unit hu k) (EqP.refl _)).trans (UnitI.righty hu _)
theorem unit_nz {p n : Nat} {T : Nat → Nat → Nat → Nat} {uu : Nat → Nat} (hp2 : 2 ≤ p) (hn0 : 0 < n) (hn6 : n ≤ 6) (hu : UnitI p n T uu) : ∃ c, c < n ∧ uu c ≠ 0 := Classical.byContradiction fun hno => by
  have hz : ∀ c, c < n → uu c = 0 := fun c hc => Classical.byContradiction fun h => hno ⟨c, hc, h⟩
  have h2 := hu.right 0 hn0 0 hn0
  rw [sI_zero (fun a ha => by rw [hz a ha]; simp)] at h2
  have h3 : (p : Int) ∣ ((1 : Nat) : Int) := by
    have e : (0 : Int) - (dl 0 0 : Int) = -((1 : Nat) : Int) := rfl
    rw [e] at h2; exact (Int.dvd_neg).1 h2
  have := Nat.le_of_dvd (by omega) (Int.natCast_dvd_natCast.1 h3)
  omega
theorem fx_hne {p n : Nat} {T : Nat → Nat → Nat → Nat} {uu : Nat → Nat} (hp : primeN p) (hn0 : 0 < n) (hn6 : n ≤ 6) (ha : AssI p n T) (hk : ComI n T) (hu : UnitI p n T uu) : ∀ k E ld, Rref p n E k ld → (∀ x, Ker p n E k x ↔ Ker p n (spE p n T uu p 1) n x) → 0 < nf k ld n := by
  obtain ⟨c, hc, hz⟩ := unit_nz hp.two hn0 hn6 hu
  exact ker_ne hp.two hu.small hc hz ((fx_ker hp ha hk hu uu hu.small).2 (vP_unit hu p))
theorem pcI_cong {p n : Nat} {T : Nat → Nat → Nat → Nat} {uu e v v' : Nat → Nat} (h : ∀ c, c < n → v c = v' c) (c : Nat) : pcI p n T uu e v c = pcI p n T uu e v' c := by
  have : timesV p n T e v = timesV p n T e v' := funext fun k => by
    have e1 : prodI T e v n n k = prodI T e v' n n k := by
      have := prodI_Pr (n := n) (T := T) (v := e) (u := v) (c := k)
      have h2 := prodI_Pr (n := n) (T := T) (v := e) (u := v') (c := k)
      have h3 : Pr n T (ci e) (ci v) k = Pr n T (ci e) (ci v') k := sI_congr fun a _ => sI_congr fun b hb => by unfold ci; rw [h b hb]
      rw [h3, ← h2] at this
      exact Int.ofNat_inj.1 this
    unfold timesV; rw [e1]
  unfold pcI; rw [this]
theorem spL_cong {p n : Nat} {T : Nat → Nat → Nat → Nat} {uu v v' : Nat → Nat} (h : ∀ c, c < n → v c = v' c) (A : List (Nat → Nat)) : spL p n T uu v A = spL p n T uu v' A := by
  unfold spL pcs
  have e : ∀ (e : Nat → Nat) (c : Nat), pcI p n T uu e v c = pcI p n T uu e v' c := fun e c => pcI_cong h c
  simp only [e]
def prL (p n : Nat) (T : Nat → Nat → Nat → Nat) (uu : Nat → Nat) (V : Nat → Nat → Nat) : Nat → List (Nat → Nat)
  | 0 => [uu]
  | k + 1 => spL p n T uu (V k) (prL p n T uu V k)
theorem prL_cong {p n : Nat} {T : Nat → Nat → Nat → Nat} {uu : Nat → Nat} {V V' : Nat → Nat → Nat} : ∀ r, (∀ i, i < r → ∀ c, c < n → V i c = V' i c) → prL p n T uu V r = prL p n T uu V' r
  | 0, _ => rfl
  | r + 1, h => by
    show spL p n T uu (V r) _ = spL p n T uu (V' r) _
    rw [prL_cong r fun i hi => h i (by omega), spL_cong (h r (by omega))]
theorem prL_inv {p n r : Nat} {T : Nat → Nat → Nat → Nat} {uu : Nat → Nat} {V : Nat → Nat → Nat} (hp : primeN p) (hn0 : 0 < n) (hn6 : n ≤ 6) (ha : AssI p n T) (hk : ComI n T) (hT0 : ∀ i j k, n ≤ k → T i j k = 0) (hu : UnitI p n T uu) (hV : IsKer p n (spE p n T uu p 1) n r V) : ∀ k, k ≤ r → InvA p n T (prL p n T uu V k)
  | 0, _ => InvA.start hp hn0 hn6 hu
  | k + 1, h => by
    have hp2 := hp.two
    have e : prL p n T uu V (k + 1) = spL p n T uu (fun c => if c < n then V k c else 0) (prL p n T uu V k) := spL_cong (fun c hc => (if_pos hc).symm) _
    rw [e]
    refine InvA.split hp hn6 ha hk hT0 hu ?_ (prL_inv hp hn0 hn6 ha hk hT0 hu hV k (by omega))
    refine (fx_ker hp ha hk hu _ (fun c => ?_)).1 ?_
    · split
      · exact row_lt hV (by omega) (by assumption)
      · omega
    · intro i hi
      have := ker_row hp2 hV (show k < r by omega) i hi
      unfold dot at this ⊢
      rwa [sI_congr fun c hc => show ci (spE p n T uu p 1 i) c * ci (V k) c = ci (spE p n T uu p 1 i) c * ci (fun c => if c < n then V k c else 0) c from by show _ = _ * ((if c < n then V k c else 0 : Nat) : Int); rw [if_pos hc]] at this

theorem fixedVectors_ok (p n : Nat) (T : Nat → Nat → Nat → Nat) (f : Nat → Nat) (w : World) (hp : primeN p) (hn0 : 0 < n) (hn : n ≤ 6) (hTp : ∀ i j k, T i j k < p) (hT0 : ∀ i j k, n ≤ k → T i j k = 0) (hf : ∀ i, f i ≤ 255) (uu : Nat → Nat) (huu : UnitI p n T uu) (haI : AssI p n T) (hkI : ComI n T) :
    CallsR Tryd.prog 47 #[.agg (algC (p : Int) (n : Int) T f)] w (fun u w' => ∃ r V, IsKer p n (spE p n T uu p 1) n r V ∧ (∀ i, i < r → ∀ c, n ≤ c → c < 6 → V i c = 0) ∧ r ≤ n ∧ 0 < r ∧ OwnSl 6 w r (fun c => .int .u8 ((V (c / 6) (c % 6) : Nat) : Int)) u w') := by
  refine calls_fr [.agg (algC (p : Int) (n : Int) T f)] Tryd.func47 rfl Tryd.ntmps47 rfl fun a hF => ?_
  have hM : Mem w w [none, none, none, none, none, none] [] := MemX.start w 6
  change Fr 32 a [(0, .agg (algC (p : Int) (n : Int) T f))] at hF
  have hp2 := hp.two
  have hp13 := hp.le
  have hT : ∀ i j k, T i j k ≤ 255 := fun i j k => by have := hTp i j k; omega
  have hp2 := hp.two
  have hp13 := hp.le
  refine sq (wp_region_lit ?_)
  refine stR hF (d_box 0 hM hF rfl) rfl ?_
  rintro _ w' a ⟨b1, rfl, hM, -⟩ hF
  change Mem w w' [some (b1, algC (p : Int) (n : Int) T f), none, none, none, none, none] [] at hM
  refine st hF (g_assign hF rfl) rfl fun a hF => ?_
  refine wpList_nil (tN (sq (wp_region_lit ?_)))
  refine st hF (g_assign hF rfl) rfl fun a hF => ?_
  refine wpList_nil (tN (sq (sq (wp_region_lit ?_))))
  refine st hF (g_loadAgg ty_ag_32 hF rfl (hM.row 0 rfl) (by simp only [fnC_size, cells_size, vecC_size, tabC_size, planeC_size, dgC_size, numC_sz, ldB_size] <;> omega) (whole cells_size)) rfl fun a hF => ?_
  refine stR hF (d_call Tryd.call71 hF (.cons rfl .nil) (basisOf_ok p n T f _ hn0 hn)) rfl ?_
  rintro u w' a ⟨hx, bB, cB, csB, hsB, hgB, hbB⟩ hF
  obtain rfl := hsB.val
  have hM := hM.fill hx 4 hbB hgB
  change Mem w w' [some (b1, algC (p : Int) (n : Int) T f), none, none, none, some (bB, csB), none] [] at hM
  refine st hF (g_len ty_us_27 hF rfl) rfl fun a hF => st hF (g_move hF rfl) rfl fun a hF => ?_
  refine wpList_nil (tN (wp_block ?_))
  change Mem w _ [some (b1, algC (p : Int) (n : Int) T f), none, none, none, some (bB, csB), none] [] at hM
  refine c_loop (fun (kk : Nat) a w' => kk ≤ n ∧ (True) ∧ ∃ (u3_1 : Value) (e3_1 : Option (Nat × Array Value)), Sl 6 u3_1 e3_1 (kk) (fun c => .int .u8 (((fxI p n T uu) (c / 6) (c % 6) : Nat) : Int)) ∧ Fr 32 a [(0, .agg (algC (p : Int) (n : Int) T f)), (1, ptr b1 (0)), (2, .slice none 0 0), (7, .agg (algC (p : Int) (n : Int) T f)), (8, .slice (some ⟨bB, 0, none⟩) (n) (cB)), (9, .int .i64 (((n : Nat) : Int))), (10, .int .i64 (((kk : Nat) : Int))), (3, u3_1)] ∧ Mem w w' [some (b1, algC (p : Int) (n : Int) T f), none, none, none, some (bB, csB), e3_1] []) (fun kk => n - kk) 0 ?_ ?_
  ·
   refine ⟨by omega, trivial, (.slice none 0 0), (none), (Sl.nil 6 _), hF.sub _ (by repeat' constructor), ?_⟩
   exact hM
  ·
   clear hF hM
   rintro gi a w' ⟨hgi, hinv1, u3_1, e3_1, hsl, hF, hM⟩
   have hv : ∀ i, (fun q => if q = gi then 1 else 0 : Nat → Nat) i ≤ 255 := eb_le
   have hvt : ∀ c, powW (timesV p n T) uu (fun q => if q = gi then 1 else 0) p c ≤ 255 := powW_le (fun c => by have := huu.small c; omega) (fun x c => timesV_le (by omega) (by omega) x _ c) p
   refine sq (wp_region_lit ?_)
   refine st hF (g_lss hF rfl rfl) rfl fun a hF => ?_
   refine wpList_nil (tN (sq ?_))
   refine c_cond hF rfl (fun h2 => ?_) (fun h2 => ?_)
   ·
    refine wp_skip (tN (sq (wp_block (sq (wp_region_lit ?_)))))
    refine st hF (g_indexSl (i := gi) ty_sl_27 hF rfl rfl rfl (by omega)) rfl fun a hF => st hF (g_loadAgg ty_ag_30 hF rfl (hM.row 4 rfl) (hsB.room (gi) (by omega)) (hsB.vec0 (V := fun i q => if q = i then 1 else 0) (gi) (by omega))) rfl fun a hF => ?_
    refine stR hF (d_alloc 1 hM ty_ze_30) rfl ?_
    rintro _ w' a ⟨b3, rfl, hM, -⟩ hF
    change Mem w w' [some (b1, algC (p : Int) (n : Int) T f), some (b3, fnC 6 (fun _ => .int .u8 (0))), none, none, some (bB, csB), e3_1] [] at hM
    refine stN hF (d_storeAgg 1 hM rfl ty_sz_30 hF rfl rfl (by first | exact vecC_one | exact cells_one | (refine fnC_one fun _ _ => ?_; first | rfl | (split <;> rfl))) (by simp only [fnC_size, cells_size, vecC_size, tabC_size, planeC_size, dgC_size, numC_sz, ldB_size]) (by simp only [fnC_size, cells_size, vecC_size, tabC_size, planeC_size, dgC_size, numC_sz, ldB_size] <;> omega) (splice_whole _ _ (by simp only [fnC_size, cells_size, vecC_size, tabC_size, planeC_size, dgC_size, numC_sz, ldB_size]))) ?_
    intro _ w' a hM hF
    change Mem w w' [some (b1, algC (p : Int) (n : Int) T f), some (b3, vecC (fun q => if q = gi then 1 else 0)), none, none, some (bB, csB), e3_1] [] at hM
    refine wpList_nil (tN (sq (wp_region_lit ?_)))
    refine st hF (g_loadAgg ty_ag_32 hF rfl (hM.row 0 rfl) (by simp only [fnC_size, cells_size, vecC_size, tabC_size, planeC_size, dgC_size, numC_sz, ldB_size] <;> omega) (whole cells_size)) rfl fun a hF => st hF (g_loadAgg ty_ag_30 hF rfl (hM.row 1 rfl) (by simp only [fnC_size, cells_size, vecC_size, tabC_size, planeC_size, dgC_size, numC_sz, ldB_size] <;> omega) (whole (by simp only [fnC_size, cells_size, vecC_size, tabC_size, planeC_size, dgC_size, numC_sz, ldB_size]))) rfl fun a hF => st hF (g_fieldAddr ty_fo_32_0 hF rfl) rfl fun a hF => st hF (g_load ty_on_2 hF rfl (hM.row 0 rfl) (algC_p (by omega))) rfl fun a hF => ?_
    refine stR hF (d_call Tryd.call72 hF (.cons rfl (.cons rfl (.cons rfl .nil))) (power_ok p n T f ((fun q => if q = gi then 1 else 0)) (p) _ hp hn0 hn hTp uu huu (fun _ => by first | exact hv _ | exact hvt _ | exact hvs _ | exact hu _ | exact hT _ _ _ | exact hf _ | omega | (split <;> omega) | (dsimp only; split <;> omega) | assumption) (by omega) (unit_timesV hT0 huu (fun c _ => eb_lt hp2 c) (fun c h _ => eb_out (by omega) h)))) rfl ?_
    rintro _ w' a ⟨hx, rfl⟩ hF
    have hM := hM.ext hx
    refine stR hF (d_alloc 2 hM ty_ze_30) rfl ?_
    rintro _ w' a ⟨b4, rfl, hM, -⟩ hF
    change Mem w w' [some (b1, algC (p : Int) (n : Int) T f), some (b3, vecC (fun q => if q = gi then 1 else 0)), some (b4, fnC 6 (fun _ => .int .u8 (0))), none, some (bB, csB), e3_1] [] at hM
    refine stN hF (d_storeAgg 2 hM rfl ty_sz_30 hF rfl rfl (by first | exact vecC_one | exact cells_one | (refine fnC_one fun _ _ => ?_; first | rfl | (split <;> rfl))) (by simp only [fnC_size, cells_size, vecC_size, tabC_size, planeC_size, dgC_size, numC_sz, ldB_size]) (by simp only [fnC_size, cells_size, vecC_size, tabC_size, planeC_size, dgC_size, numC_sz, ldB_size] <;> omega) (splice_whole _ _ (by simp only [fnC_size, cells_size, vecC_size, tabC_size, planeC_size, dgC_size, numC_sz, ldB_size]))) ?_
    intro _ w' a hM hF
    change Mem w w' [some (b1, algC (p : Int) (n : Int) T f), some (b3, vecC (fun q => if q = gi then 1 else 0)), some (b4, vecC (powW (timesV p n T) uu ((fun q => if q = gi then 1 else 0)) (p))), none, some (bB, csB), e3_1] [] at hM
    refine wpList_nil (tN (sq ?_))
    refine c_par 4 [] [.val (.slice (some ⟨b4, 0, none⟩) (6) (6)), .val (.slice (some ⟨b3, 0, none⟩) (6) (6)), .val (ptr b1 (0 + 0)), .val (.int .i64 (((p : Nat) : Int)))] hmix rfl hF rfl hM ⟨fun a w gG hF hS hd => by exact par_val hS rfl (g_sliceArr ty_ua_30 ty_sz_5 (by decide) hF rfl), fun a w gG hF hS hd => by exact par_val hS rfl (g_sliceArr ty_ua_30 ty_sz_5 (by decide) hF rfl), fun a w gG hF hS hd => by exact par_val hS rfl (g_fieldAddr ty_fo_32_0 hF rfl), fun a w gG hF hS hd => by have hF := hF.ext1 21 (hd 2 rfl rfl); have hM := hS.mem rfl; exact par_val hS rfl (g_load ty_on_2 hF rfl (hM.row 0 rfl) (algC_p (by omega))), trivial⟩ ?_
    intro a w' L hF hS hq
    have hF := hF.ext1 19 (hq 0 rfl rfl)
    have hF := hF.ext1 20 (hq 1 rfl rfl)
    have hF := hF.ext1 21 (hq 2 rfl rfl)
    have hF := hF.ext1 22 (hq 3 rfl rfl)
    have hM := hS.mem rfl
    change wpList Tryd.prog _ _ [_] _ _
    refine stR hF (d_callX Tryd.call73 hF (.cons rfl (.cons rfl (.cons rfl (.cons rfl .nil)))) (addRow_ok (p) b4 6 b3 0 6 6 _ ((powW (timesV p n T) uu ((fun q => if q = gi then 1 else 0)) (p))) ((fun q => if q = gi then 1 else 0)) (-1) _ (by omega) (by omega) (by omega) (by omega) (by omega) (fun _ => by first | exact hv _ | exact hvt _ | exact hvs _ | exact hu _ | exact hT _ _ _ | exact hf _ | omega | (split <;> omega) | (dsimp only; split <;> omega) | assumption) (hM.row 2 rfl) (fun _ => by first | exact hv _ | exact hvt _ | exact hvs _ | exact hu _ | exact hT _ _ _ | exact hf _ | omega | (split <;> omega) | (dsimp only; split <;> omega) | assumption) (hM.ne2 (i := 1) (j := 2) rfl rfl (by decide)) (hM.row 1 rfl) (fun i hi => vecC_get i (by omega) hi))) rfl ?_
    rintro _ w' a ⟨hx, rfl, hbk⟩ hF
    have hM := hM.upd (cs' := vecC (addN p ((powW (timesV p n T) uu ((fun q => if q = gi then 1 else 0)) (p))) ((fun q => if q = gi then 1 else 0)) (-1))) 2 rfl hx hbk
    change Mem w w' [some (b1, algC (p : Int) (n : Int) T f), some (b3, vecC (fun q => if q = gi then 1 else 0)), some (b4, vecC (addN p ((powW (timesV p n T) uu ((fun q => if q = gi then 1 else 0)) (p))) ((fun q => if q = gi then 1 else 0)) (-1))), none, some (bB, csB), e3_1] [] at hM
    refine wpList_nil (tN (wp_region_lit ?_))
    refine st hF (g_move hF rfl) rfl fun a hF => st hF (g_loadAgg ty_ag_30 hF rfl (hM.row 2 rfl) (by simp only [fnC_size, cells_size, vecC_size, tabC_size, planeC_size, dgC_size, numC_sz, ldB_size] <;> omega) (whole (by simp only [fnC_size, cells_size, vecC_size, tabC_size, planeC_size, dgC_size, numC_sz, ldB_size]))) rfl fun a hF => ?_
    refine stR hF (d_buildC (vs := [(0, .agg (vecC (addN p ((powW (timesV p n T) uu ((fun q => if q = gi then 1 else 0)) (p))) ((fun q => if q = gi then 1 else 0)) (-1))))]) 3 hM hF (build1 hF rfl) (fun w => ty_bsg_27_1 (addN p ((powW (timesV p n T) uu ((fun q => if q = gi then 1 else 0)) (p))) ((fun q => if q = gi then 1 else 0)) (-1)) w)) rfl ?_
    rintro _ w' a ⟨b5, rfl, hM, -⟩ hF
    change Mem w w' [some (b1, algC (p : Int) (n : Int) T f), some (b3, vecC (fun q => if q = gi then 1 else 0)), some (b4, vecC (addN p ((powW (timesV p n T) uu ((fun q => if q = gi then 1 else 0)) (p))) ((fun q => if q = gi then 1 else 0)) (-1))), some (b5, vecsC 1 (vAtL [(addN p ((powW (timesV p n T) uu ((fun q => if q = gi then 1 else 0)) (p))) ((fun q => if q = gi then 1 else 0)) (-1))])), some (bB, csB), e3_1] [] at hM
    refine stR hF (d_append (k := 5) (N := gi) (m := 1) (f := (fun c => .int .u8 (((fxI p n T uu) (c / 6) (c % 6) : Nat) : Int))) (g := fun q => .int .u8 (((((addN p ((powW (timesV p n T) uu ((fun q => if q = gi then 1 else 0)) (p))) ((fun q => if q = gi then 1 else 0)) (-1))) q : Nat)) : Int)) ty_si_27 rfl (by decide) hM rfl hF rfl rfl hsl (fun q hq => ((hM.row 3 rfl).cell _).trans (vecs1_get q hq)) (fun _ _ => rfl) (by decide) (by unfold maxLen; omega) (by omega)) rfl ?_
    rintro u6 w' a ⟨e7, hM, hs8⟩ hF
    change Mem w w' [some (b1, algC (p : Int) (n : Int) T f), some (b3, vecC (fun q => if q = gi then 1 else 0)), some (b4, vecC (addN p ((powW (timesV p n T) uu ((fun q => if q = gi then 1 else 0)) (p))) ((fun q => if q = gi then 1 else 0)) (-1))), some (b5, vecsC 1 (vAtL [(addN p ((powW (timesV p n T) uu ((fun q => if q = gi then 1 else 0)) (p))) ((fun q => if q = gi then 1 else 0)) (-1))])), some (bB, csB), e7] [] at hM
    refine st hF (g_assign hF rfl) rfl fun a hF => ?_
    refine wpList_nil (iN (tN (wp_region_lit ?_)))
    refine st hF (g_add hF rfl rfl (add_nat (gi) (1) (by omega))) rfl fun a hF => st hF (g_move hF rfl) rfl fun a hF => ?_
    refine wpList_nil (tN ?_)
    have hM := hM.drop 1
    have hM := hM.drop 2
    have hM := hM.drop 3
    refine ⟨gi + 1, ⟨by omega, trivial, (u6), (e7), (Sl.snoc6 (N := gi) (F := (fun c => .int .u8 (((fxI p n T uu) (c / 6) (c % 6) : Nat) : Int))) (G := fun q => .int .u8 (((fxI p n T uu) gi q : Nat) : Int)) hs8 (fun q hq => by rw [show (gi * 6 + q) / 6 = gi by omega, show (gi * 6 + q) % 6 = q by omega])), hF.sub _ (by repeat' constructor), ?_⟩, by omega⟩
    exact hM
   ·
    obtain rfl : n = gi := by omega
    obtain ⟨bim, cim, csim, rfl, rfl, hs1⟩ := hsl.pos hn0
    have hM := hM.freeze 5 rfl
    change Mem w _ [some (b1, algC (p : Int) (n : Int) T f), none, none, none, some (bB, csB), none] [(bim, csim)] at hM
    refine wp_exit (tX (tX ?_))
    refine ib_same ?_
    refine tN (sq (wp_region_lit ?_))
    refine st hF (g_loadAgg ty_ag_32 hF rfl (hM.row 0 rfl) (by simp only [fnC_size, cells_size, vecC_size, tabC_size, planeC_size, dgC_size, numC_sz, ldB_size] <;> omega) (whole cells_size)) rfl fun a hF => st hF (g_move hF rfl) rfl fun a hF => ?_
    have hszc := hM.bel.size
    refine stR hF (d_call Tryd.call74 hF (.cons rfl (.cons rfl .nil)) (kernelOfMap_Y p n T f bim cim csim (fxI p n T uu) _ hp hn0 hn (fxI_lt (by omega)) hs1 (hM.fz 0 rfl) (fx_hne hp hn0 hn haI hkI huu) (ker_pos hp.two (fx_hne hp hn0 hn haI hkI huu)))) rfl ?_
    rintro u w' a ⟨hx, r, V, hIK, hVz, hrn, hown⟩ hF
    have hown2 := ownSl_le hszc hown
    have hM := hM.ext hx
    refine st hF (g_assign hF rfl) rfl fun a hF => ?_
    refine wpList_nil (tN (wp_ret ?_))
    refine fin1 rfl hF.defers (res_tmp hF rfl) ⟨_, rfl, hM.below, ?_⟩
    exact ⟨r, V, hIK, hVz, hrn, ker_pos hp.two (fx_hne hp hn0 hn haI hkI huu) r V hIK, hown2⟩

end Go.Proofs.YtbeodbfbfbefkaaDoor
