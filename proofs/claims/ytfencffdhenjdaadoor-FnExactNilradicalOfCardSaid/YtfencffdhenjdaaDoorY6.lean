/- What functions of the program return, as walks over their operations; no statement of the seat is proved here. -/
import Derived.Test.YtfencffdhenjdaaDoorY5
set_option linter.unusedVariables false
set_option linter.unusedSimpArgs false
namespace Go.Proofs.YtfencffdhenjdaaDoor
open Go Go.RowKit Go.Sw Go.Ech
open Classical
/-- Powers of the prime, from the first on. -/
def kkE (p : Nat) : Nat → Nat
  | 0 => p
  | e + 1 => kkE p e * p
/-- How often the prime is taken once more until the size is reached. -/
def nilE (p n : Nat) : Nat := if n ≤ p then 0 else if n ≤ p * p then 1 else 2
theorem nilE_le {p n : Nat} : nilE p n ≤ 2 := by unfold nilE; split <;> (try split) <;> omega
theorem kk_fact : ∀ p ∈ [2, 3, 5, 7, 11, 13], ∀ n, n < 7 → ∀ g, g < 3 → g ≤ nilE p n → ((kkE p g < n ↔ g < nilE p n) ∧ kkE p g ≤ 25) := by decide
theorem kk_lt {p n g : Nat} (hp : primeN p) (hn : n ≤ 6) (hg : g ≤ nilE p n) : (kkE p g < n ↔ g < nilE p n) ∧ kkE p g ≤ 25 := by
  have h2 := nilE_le (p := p) (n := n)
  exact kk_fact p (by unfold primeN at hp; simp; omega) n (by omega) g (by omega) hg
theorem kk_step {p g : Nat} : kkE p g * p = kkE p (g + 1) := rfl
theorem eb_lt {p c : Nat} (hp : 2 ≤ p) : ∀ q, (fun q => if q = c then 1 else 0 : Nat → Nat) q < p := fun q => by dsimp only; split <;> omega
theorem eb_out {n c q : Nat} (hc : c < n) (h : n ≤ q) : (fun q => if q = c then 1 else 0 : Nat → Nat) q = 0 := by dsimp only; rw [if_neg (by omega)]
theorem powW_lt {p n : Nat} {T : Nat → Nat → Nat → Nat} {uu v : Nat → Nat} (hu : ∀ c, uu c < p) : ∀ k c, powW (timesV p n T) uu v k c < p
  | 0, c => hu c
  | k + 1, c => Nat.mod_lt _ (by have := hu 0; omega)
/-- The images of the basis under a power. -/
def imP (p n : Nat) (T : Nat → Nat → Nat → Nat) (uu : Nat → Nat) (K : Nat) (c r : Nat) : Nat := powW (timesV p n T) uu (fun q => if q = c then 1 else 0) K r
theorem imP_lt {p n : Nat} {T : Nat → Nat → Nat → Nat} {uu : Nat → Nat} {K : Nat} (hu : ∀ c, uu c < p) : ∀ i c, imP p n T uu K i c < p := fun i c => powW_lt hu K c
theorem spE_zero {p n : Nat} {T : Nat → Nat → Nat → Nat} {uu : Nat → Nat} {K : Nat} (hu : ∀ c, uu c < p) (r c : Nat) : spE p n T uu K 0 r c = imP p n T uu K c r := by
  have h := imP_lt (p := p) (n := n) (T := T) (uu := uu) (K := K) hu c r
  show addN p (imP p n T uu K c) _ (-((0 : Nat) : Int)) r = _
  unfold addN
  rw [show (-((0 : Nat) : Int)) = 0 by rfl, Int.zero_mul, Int.add_zero, Int.emod_eq_of_lt (by omega) (by omega)]
  exact Int.toNat_natCast _

theorem nilradical_Y (p n : Nat) (T : Nat → Nat → Nat → Nat) (f : Nat → Nat) (w : World) (hp : primeN p) (hn0 : 0 < n) (hn : n ≤ 6) (hTp : ∀ i j k, T i j k < p) (hT0 : ∀ i j k, n ≤ k → T i j k = 0) (hf : ∀ i, f i ≤ 255) (uu : Nat → Nat) (huu : UnitI p n T uu) (hne : ∀ k E ld, Rref p n E k ld → (∀ x, Ker p n E k x ↔ Ker p n (fun r c => imP p n T uu (kkE p (nilE p n)) c r) n x) → 0 < nf k ld n) (hpos : ∀ r V, IsKer p n (fun r c => imP p n T uu (kkE p (nilE p n)) c r) n r V → 0 < r) :
    CallsR Tryd.prog 18 #[.agg (algC (p : Int) (n : Int) T f)] w (fun u w' => ∃ r V, IsKer p n (fun r c => imP p n T uu (kkE p (nilE p n)) c r) n r V ∧ (∀ i, i < r → ∀ c, n ≤ c → c < 6 → V i c = 0) ∧ OwnSl 6 w r (fun c => .int .u8 ((V (c / 6) (c % 6) : Nat) : Int)) u w') := by
  refine calls_fr [.agg (algC (p : Int) (n : Int) T f)] Tryd.func18 rfl Tryd.ntmps18 rfl fun a hF => ?_
  have hM : Mem w w [none, none, none, none, none] [] := MemX.start w 5
  change Fr 35 a [(0, .agg (algC (p : Int) (n : Int) T f))] at hF
  have hp2 := hp.two
  have hp13 := hp.le
  have hT : ∀ i j k, T i j k ≤ 255 := fun i j k => by have := hTp i j k; omega
  have hp2 := hp.two
  have hp13 := hp.le
  refine sq ?_
  refine wp_region_lit ?_
  refine stR hF (d_box 0 hM hF rfl) rfl ?_
  rintro _ w' a ⟨b1, rfl, hM, -⟩ hF
  change Mem w w' [some (b1, algC (p : Int) (n : Int) T f), none, none, none, none] [] at hM
  refine st hF (g_assign hF rfl) rfl fun a hF => ?_
  refine wpList_nil ?_
  refine tN ?_
  refine sq ?_
  refine wp_region_lit ?_
  refine st hF (g_fieldAddr ty_fo_32_0 hF rfl) rfl fun a hF => st hF (g_load ty_on_2 hF rfl (hM.row 0 rfl) (algC_p (by omega))) rfl fun a hF => st hF (g_assign hF rfl) rfl fun a hF => ?_
  refine wpList_nil ?_
  refine tN ?_
  refine sq ?_
  refine wp_block ?_
  change Mem w _ [some (b1, algC (p : Int) (n : Int) T f), none, none, none, none] [] at hM
  refine c_loop (fun (kk : Nat) a w' => kk ≤ (nilE p n) ∧ (True) ∧ Fr 35 a [(0, .agg (algC (p : Int) (n : Int) T f)), (1, ptr b1 (0)), (2, .slice none 0 0), (7, ptr b1 (0 + 0)), (8, .int .i64 (((p : Nat) : Int))), (3, .int .i64 (((kkE p kk : Nat) : Int)))] ∧ Mem w w' [some (b1, algC (p : Int) (n : Int) T f), none, none, none, none] []) (fun kk => (nilE p n) - kk) 0 ?_ ?_
  ·
    refine ⟨by omega, trivial, hF.sub _ (by repeat' constructor), ?_⟩
    exact hM
  ·
    clear hF hM
    rintro gi a w' ⟨hgi, hinv1, hF, hM⟩
    have hkl := kk_lt (p := p) (n := n) (g := gi) hp hn (by omega)
    have hE2 := nilE_le (p := p) (n := n)
    refine sq ?_
    refine sq ?_
    refine wp_region_lit ?_
    refine st hF (g_move hF rfl) rfl fun a hF => st hF (g_fieldAddr ty_fo_32_1 hF rfl) rfl fun a hF => st hF (g_load ty_on_2 hF rfl (hM.row 0 rfl) (algC_n (by omega))) rfl fun a hF => st hF (g_lss hF rfl rfl) rfl fun a hF => ?_
    refine wpList_nil ?_
    refine tN ?_
    refine c_cond hF rfl (fun h2 => ?_) (fun h2 => ?_)
    ·
      refine wp_skip ?_
      refine tN ?_
      refine wp_block ?_
      refine wp_region_lit ?_
      refine st hF (g_move hF rfl) rfl fun a hF => st hF (g_fieldAddr ty_fo_32_0 hF rfl) rfl fun a hF => st hF (g_load ty_on_2 hF rfl (hM.row 0 rfl) (algC_p (by omega))) rfl fun a hF => st hF (g_mul hF rfl rfl (show _ = ((kkE p (gi + 1) : Nat) : Int) from (by rw [show (((kkE p gi : Nat) : Int) * ((p : Nat) : Int)) = ((kkE p gi * p : Nat) : Int) from (Int.natCast_mul _ _).symm, kk_step]; have := Nat.mul_le_mul hkl.2 hp13; have hks := kk_step (p := p) (g := gi); exact wrap_i64 (by omega) (by omega)))) rfl fun a hF => st hF (g_assign hF rfl) rfl fun a hF => ?_
      refine wpList_nil ?_
      refine iN ?_
      refine tN ?_
      refine ⟨gi + 1, ⟨by omega, trivial, hF.sub _ (by repeat' constructor), ?_⟩, by omega⟩
      exact hM
    ·
      obtain rfl : (nilE p n) = gi := by omega
      refine wp_exit ?_
      refine tX ?_
      refine tX ?_
      refine ib_same ?_
      refine tN ?_
      refine sq ?_
      refine wp_region_lit ?_
      refine st hF (g_assign hF rfl) rfl fun a hF => ?_
      refine wpList_nil ?_
      refine tN ?_
      refine sq ?_
      refine sq ?_
      refine wp_region_lit ?_
      refine st hF (g_loadAgg ty_ag_32 hF rfl (hM.row 0 rfl) (by simp only [fnC_size, cells_size, vecC_size, tabC_size, planeC_size, dgC_size, numC_sz, ldB_size] <;> omega) (whole cells_size)) rfl fun a hF => ?_
      refine stR hF (d_call Tryd.call29 hF (.cons rfl .nil) (basisOf_ok p n T f _ hn0 hn)) rfl ?_
      rintro u w' a ⟨hx, bB, cB, csB, hsB, hgB, hbB⟩ hF
      obtain rfl := hsB.val
      have hM := hM.fill hx 3 hbB hgB
      change Mem w w' [some (b1, algC (p : Int) (n : Int) T f), none, none, some (bB, csB), none] [] at hM
      refine st hF (g_len ty_us_27 hF rfl) rfl fun a hF => st hF (g_move hF rfl) rfl fun a hF => ?_
      refine wpList_nil ?_
      refine tN ?_
      refine wp_block ?_
      change Mem w _ [some (b1, algC (p : Int) (n : Int) T f), none, none, some (bB, csB), none] [] at hM
      refine c_loop (fun (kk : Nat) a w' => kk ≤ n ∧ (True) ∧ ∃ (u4_2 : Value) (e4_2 : Option (Nat × Array Value)), Sl 6 u4_2 e4_2 (kk) (fun c => .int .u8 (((imP p n T uu (kkE p (nilE p n))) (c / 6) (c % 6) : Nat) : Int)) ∧ Fr 35 a [(0, .agg (algC (p : Int) (n : Int) T f)), (1, ptr b1 (0)), (2, .slice none 0 0), (7, ptr b1 (0 + 0)), (8, .int .i64 (((p : Nat) : Int))), (3, .int .i64 (((kkE p ((nilE p n)) : Nat) : Int))), (9, .int .i64 (((kkE p ((nilE p n)) : Nat) : Int))), (10, ptr b1 (0 + 1)), (11, .int .i64 (((n : Nat) : Int))), (12, .bool (decide ((((kkE p ((nilE p n)) : Nat) : Int) : Int) < ((n : Nat) : Int)))), (17, .agg (algC (p : Int) (n : Int) T f)), (18, .slice (some ⟨bB, 0, none⟩) (n) (cB)), (19, .int .i64 (((n : Nat) : Int))), (20, .int .i64 (((kk : Nat) : Int))), (4, u4_2)] ∧ Mem w w' [some (b1, algC (p : Int) (n : Int) T f), none, none, some (bB, csB), e4_2] []) (fun kk => n - kk) 0 ?_ ?_
      ·
        refine ⟨by omega, trivial, (.slice none 0 0), (none), (Sl.nil 6 _), hF.sub _ (by repeat' constructor), ?_⟩
        exact hM
      ·
        clear hF hM
        rintro gi a w' ⟨hgi, hinv2, u4_2, e4_2, hsl, hF, hM⟩
        have hv : ∀ i, (fun q => if q = gi then 1 else 0 : Nat → Nat) i ≤ 255 := eb_le
        have hkf := (kk_lt (p := p) (n := n) (g := nilE p n) hp hn (Nat.le_refl _)).2
        refine sq ?_
        refine wp_region_lit ?_
        refine st hF (g_lss hF rfl rfl) rfl fun a hF => ?_
        refine wpList_nil ?_
        refine tN ?_
        refine sq ?_
        refine c_cond hF rfl (fun h3 => ?_) (fun h3 => ?_)
        ·
          refine wp_skip ?_
          refine tN ?_
          refine sq ?_
          refine wp_block ?_
          refine sq ?_
          refine wp_region_lit ?_
          refine st hF (g_indexSl (i := gi) ty_sl_27 hF rfl rfl rfl (by omega)) rfl fun a hF => st hF (g_loadAgg ty_ag_30 hF rfl (hM.row 3 rfl) (hsB.room (gi) (by omega)) (hsB.vec0 (V := fun i q => if q = i then 1 else 0) (gi) (by omega))) rfl fun a hF => ?_
          refine stR hF (d_alloc 1 hM ty_ze_30) rfl ?_
          rintro _ w' a ⟨b4, rfl, hM, -⟩ hF
          change Mem w w' [some (b1, algC (p : Int) (n : Int) T f), some (b4, fnC 6 (fun _ => .int .u8 (0))), none, some (bB, csB), e4_2] [] at hM
          refine stN hF (d_storeAgg 1 hM rfl ty_sz_30 hF rfl rfl (by first | exact vecC_one | exact cells_one | (refine fnC_one fun _ _ => ?_; first | rfl | (split <;> rfl))) (by simp only [fnC_size, cells_size, vecC_size, tabC_size, planeC_size, dgC_size, numC_sz, ldB_size]) (by simp only [fnC_size, cells_size, vecC_size, tabC_size, planeC_size, dgC_size, numC_sz, ldB_size] <;> omega) (splice_whole _ _ (by simp only [fnC_size, cells_size, vecC_size, tabC_size, planeC_size, dgC_size, numC_sz, ldB_size]))) ?_
          intro _ w' a hM hF
          change Mem w w' [some (b1, algC (p : Int) (n : Int) T f), some (b4, vecC (fun q => if q = gi then 1 else 0)), none, some (bB, csB), e4_2] [] at hM
          refine wpList_nil ?_
          refine tN ?_
          refine wp_region_lit ?_
          refine st hF (g_move hF rfl) rfl fun a hF => st hF (g_loadAgg ty_ag_32 hF rfl (hM.row 0 rfl) (by simp only [fnC_size, cells_size, vecC_size, tabC_size, planeC_size, dgC_size, numC_sz, ldB_size] <;> omega) (whole cells_size)) rfl fun a hF => st hF (g_loadAgg ty_ag_30 hF rfl (hM.row 1 rfl) (by simp only [fnC_size, cells_size, vecC_size, tabC_size, planeC_size, dgC_size, numC_sz, ldB_size] <;> omega) (whole (by simp only [fnC_size, cells_size, vecC_size, tabC_size, planeC_size, dgC_size, numC_sz, ldB_size]))) rfl fun a hF => st hF (g_move hF rfl) rfl fun a hF => ?_
          refine stR hF (d_call Tryd.call30 hF (.cons rfl (.cons rfl (.cons rfl .nil))) (power_ok p n T f ((fun q => if q = gi then 1 else 0)) (kkE p ((nilE p n))) _ hp hn0 hn hTp uu huu (fun _ => by first | exact hv _ | exact hvt _ | exact hvs _ | exact hu _ | exact hT _ _ _ | exact hf _ | omega | (split <;> omega) | (dsimp only; split <;> omega) | assumption) (by omega) (unit_timesV hT0 huu (fun c _ => eb_lt hp2 c) (fun c h _ => eb_out (by omega) h)))) rfl ?_
          rintro _ w' a ⟨hx, rfl⟩ hF
          have hM := hM.ext hx
          refine stR hF (d_buildC (vs := [(0, .agg (vecC (powW (timesV p n T) uu ((fun q => if q = gi then 1 else 0)) (kkE p ((nilE p n))))))]) 2 hM hF (build1 hF rfl) (fun w => ty_bsg_27_1 (powW (timesV p n T) uu ((fun q => if q = gi then 1 else 0)) (kkE p ((nilE p n)))) w)) rfl ?_
          rintro _ w' a ⟨b5, rfl, hM, -⟩ hF
          change Mem w w' [some (b1, algC (p : Int) (n : Int) T f), some (b4, vecC (fun q => if q = gi then 1 else 0)), some (b5, vecsC 1 (vAtL [(powW (timesV p n T) uu ((fun q => if q = gi then 1 else 0)) (kkE p ((nilE p n))))])), some (bB, csB), e4_2] [] at hM
          refine stR hF (d_append (k := 4) (N := gi) (m := 1) (f := (fun c => .int .u8 (((imP p n T uu (kkE p (nilE p n))) (c / 6) (c % 6) : Nat) : Int))) (g := fun q => .int .u8 (((((powW (timesV p n T) uu ((fun q => if q = gi then 1 else 0)) (kkE p ((nilE p n))))) q : Nat)) : Int)) ty_si_27 rfl (by decide) hM rfl hF rfl rfl hsl (fun q hq => ((hM.row 2 rfl).cell _).trans (vecs1_get q hq)) (fun _ _ => rfl) (by decide) (by unfold maxLen; omega) (by omega)) rfl ?_
          rintro u6 w' a ⟨e7, hM, hs8⟩ hF
          change Mem w w' [some (b1, algC (p : Int) (n : Int) T f), some (b4, vecC (fun q => if q = gi then 1 else 0)), some (b5, vecsC 1 (vAtL [(powW (timesV p n T) uu ((fun q => if q = gi then 1 else 0)) (kkE p ((nilE p n))))])), some (bB, csB), e7] [] at hM
          refine st hF (g_assign hF rfl) rfl fun a hF => ?_
          refine wpList_nil ?_
          refine iN ?_
          refine tN ?_
          refine wp_region_lit ?_
          refine st hF (g_add hF rfl rfl (add_nat (gi) (1) (by omega))) rfl fun a hF => st hF (g_move hF rfl) rfl fun a hF => ?_
          refine wpList_nil ?_
          refine tN ?_
          have hM := hM.drop 1
          have hM := hM.drop 2
          refine ⟨gi + 1, ⟨by omega, trivial, (u6), (e7), (Sl.snoc6 (N := gi) (F := (fun c => .int .u8 (((imP p n T uu (kkE p (nilE p n))) (c / 6) (c % 6) : Nat) : Int))) (G := fun q => .int .u8 (((imP p n T uu (kkE p (nilE p n))) gi q : Nat) : Int)) hs8 (fun q hq => by rw [show (gi * 6 + q) / 6 = gi by omega, show (gi * 6 + q) % 6 = q by omega])), hF.sub _ (by repeat' constructor), ?_⟩, by omega⟩
          exact hM
        ·
          obtain rfl : n = gi := by omega
          obtain ⟨bim, cim, csim, rfl, rfl, hs1⟩ := hsl.pos hn0
          have hM := hM.freeze 4 rfl
          change Mem w _ [some (b1, algC (p : Int) (n : Int) T f), none, none, some (bB, csB), none] [(bim, csim)] at hM
          refine wp_exit ?_
          refine tX ?_
          refine tX ?_
          refine ib_same ?_
          refine tN ?_
          refine sq ?_
          refine wp_region_lit ?_
          refine st hF (g_loadAgg ty_ag_32 hF rfl (hM.row 0 rfl) (by simp only [fnC_size, cells_size, vecC_size, tabC_size, planeC_size, dgC_size, numC_sz, ldB_size] <;> omega) (whole cells_size)) rfl fun a hF => st hF (g_move hF rfl) rfl fun a hF => ?_
          have hszc := hM.bel.size
          refine stR hF (d_call Tryd.call31 hF (.cons rfl (.cons rfl .nil)) (kernelOfMap_Y p n T f bim cim csim (imP p n T uu (kkE p (nilE p n))) _ hp hn0 hn (imP_lt huu.small) hs1 (hM.fz 0 rfl) hne hpos)) rfl ?_
          rintro u w' a ⟨hx, r, V, hIK, hVz, hrn, hown⟩ hF
          have hown2 := ownSl_le hszc hown
          have hM := hM.ext hx
          refine st hF (g_assign hF rfl) rfl fun a hF => ?_
          refine wpList_nil ?_
          refine tN ?_
          refine wp_ret ?_
          refine fin1 rfl hF.defers (res_tmp hF rfl) ⟨_, rfl, hM.below, ?_⟩
          exact ⟨r, V, hIK, hVz, hown2⟩

theorem nilradical_Z (p n : Nat) (T : Nat → Nat → Nat → Nat) (f : Nat → Nat) (w : World) (hp : primeN p) (hn0 : 0 < n) (hn : n ≤ 6) (hTp : ∀ i j k, T i j k < p) (hT0 : ∀ i j k, n ≤ k → T i j k = 0) (hf : ∀ i, f i ≤ 255) (uu : Nat → Nat) (huu : UnitI p n T uu) (hzk : ∀ k E ld, Rref p n E k ld → (∀ x, Ker p n E k x ↔ Ker p n (fun r c => imP p n T uu (kkE p (nilE p n)) c r) n x) → nf k ld n = 0) :
    CallsR Tryd.prog 18 #[.agg (algC (p : Int) (n : Int) T f)] w (fun res _ => res = .slice none 0 0) := by
  refine calls_fr [.agg (algC (p : Int) (n : Int) T f)] Tryd.func18 rfl Tryd.ntmps18 rfl fun a hF => ?_
  have hM : Mem w w [none, none, none, none, none] [] := MemX.start w 5
  change Fr 35 a [(0, .agg (algC (p : Int) (n : Int) T f))] at hF
  have hp2 := hp.two
  have hp13 := hp.le
  have hT : ∀ i j k, T i j k ≤ 255 := fun i j k => by have := hTp i j k; omega
  have hp2 := hp.two
  have hp13 := hp.le
  refine sq ?_
  refine wp_region_lit ?_
  refine stR hF (d_box 0 hM hF rfl) rfl ?_
  rintro _ w' a ⟨b1, rfl, hM, -⟩ hF
  change Mem w w' [some (b1, algC (p : Int) (n : Int) T f), none, none, none, none] [] at hM
  refine st hF (g_assign hF rfl) rfl fun a hF => ?_
  refine wpList_nil ?_
  refine tN ?_
  refine sq ?_
  refine wp_region_lit ?_
  refine st hF (g_fieldAddr ty_fo_32_0 hF rfl) rfl fun a hF => st hF (g_load ty_on_2 hF rfl (hM.row 0 rfl) (algC_p (by omega))) rfl fun a hF => st hF (g_assign hF rfl) rfl fun a hF => ?_
  refine wpList_nil ?_
  refine tN ?_
  refine sq ?_
  refine wp_block ?_
  change Mem w _ [some (b1, algC (p : Int) (n : Int) T f), none, none, none, none] [] at hM
  refine c_loop (fun (kk : Nat) a w' => kk ≤ (nilE p n) ∧ (True) ∧ Fr 35 a [(0, .agg (algC (p : Int) (n : Int) T f)), (1, ptr b1 (0)), (2, .slice none 0 0), (7, ptr b1 (0 + 0)), (8, .int .i64 (((p : Nat) : Int))), (3, .int .i64 (((kkE p kk : Nat) : Int)))] ∧ Mem w w' [some (b1, algC (p : Int) (n : Int) T f), none, none, none, none] []) (fun kk => (nilE p n) - kk) 0 ?_ ?_
  ·
    refine ⟨by omega, trivial, hF.sub _ (by repeat' constructor), ?_⟩
    exact hM
  ·
    clear hF hM
    rintro gi a w' ⟨hgi, hinv1, hF, hM⟩
    have hkl := kk_lt (p := p) (n := n) (g := gi) hp hn (by omega)
    have hE2 := nilE_le (p := p) (n := n)
    refine sq ?_
    refine sq ?_
    refine wp_region_lit ?_
    refine st hF (g_move hF rfl) rfl fun a hF => st hF (g_fieldAddr ty_fo_32_1 hF rfl) rfl fun a hF => st hF (g_load ty_on_2 hF rfl (hM.row 0 rfl) (algC_n (by omega))) rfl fun a hF => st hF (g_lss hF rfl rfl) rfl fun a hF => ?_
    refine wpList_nil ?_
    refine tN ?_
    refine c_cond hF rfl (fun h2 => ?_) (fun h2 => ?_)
    ·
      refine wp_skip ?_
      refine tN ?_
      refine wp_block ?_
      refine wp_region_lit ?_
      refine st hF (g_move hF rfl) rfl fun a hF => st hF (g_fieldAddr ty_fo_32_0 hF rfl) rfl fun a hF => st hF (g_load ty_on_2 hF rfl (hM.row 0 rfl) (algC_p (by omega))) rfl fun a hF => st hF (g_mul hF rfl rfl (show _ = ((kkE p (gi + 1) : Nat) : Int) from (by rw [show (((kkE p gi : Nat) : Int) * ((p : Nat) : Int)) = ((kkE p gi * p : Nat) : Int) from (Int.natCast_mul _ _).symm, kk_step]; have := Nat.mul_le_mul hkl.2 hp13; have hks := kk_step (p := p) (g := gi); exact wrap_i64 (by omega) (by omega)))) rfl fun a hF => st hF (g_assign hF rfl) rfl fun a hF => ?_
      refine wpList_nil ?_
      refine iN ?_
      refine tN ?_
      refine ⟨gi + 1, ⟨by omega, trivial, hF.sub _ (by repeat' constructor), ?_⟩, by omega⟩
      exact hM
    ·
      obtain rfl : (nilE p n) = gi := by omega
      refine wp_exit ?_
      refine tX ?_
      refine tX ?_
      refine ib_same ?_
      refine tN ?_
      refine sq ?_
      refine wp_region_lit ?_
      refine st hF (g_assign hF rfl) rfl fun a hF => ?_
      refine wpList_nil ?_
      refine tN ?_
      refine sq ?_
      refine sq ?_
      refine wp_region_lit ?_
      refine st hF (g_loadAgg ty_ag_32 hF rfl (hM.row 0 rfl) (by simp only [fnC_size, cells_size, vecC_size, tabC_size, planeC_size, dgC_size, numC_sz, ldB_size] <;> omega) (whole cells_size)) rfl fun a hF => ?_
      refine stR hF (d_call Tryd.call29 hF (.cons rfl .nil) (basisOf_ok p n T f _ hn0 hn)) rfl ?_
      rintro u w' a ⟨hx, bB, cB, csB, hsB, hgB, hbB⟩ hF
      obtain rfl := hsB.val
      have hM := hM.fill hx 3 hbB hgB
      change Mem w w' [some (b1, algC (p : Int) (n : Int) T f), none, none, some (bB, csB), none] [] at hM
      refine st hF (g_len ty_us_27 hF rfl) rfl fun a hF => st hF (g_move hF rfl) rfl fun a hF => ?_
      refine wpList_nil ?_
      refine tN ?_
      refine wp_block ?_
      change Mem w _ [some (b1, algC (p : Int) (n : Int) T f), none, none, some (bB, csB), none] [] at hM
      refine c_loop (fun (kk : Nat) a w' => kk ≤ n ∧ (True) ∧ ∃ (u4_2 : Value) (e4_2 : Option (Nat × Array Value)), Sl 6 u4_2 e4_2 (kk) (fun c => .int .u8 (((imP p n T uu (kkE p (nilE p n))) (c / 6) (c % 6) : Nat) : Int)) ∧ Fr 35 a [(0, .agg (algC (p : Int) (n : Int) T f)), (1, ptr b1 (0)), (2, .slice none 0 0), (7, ptr b1 (0 + 0)), (8, .int .i64 (((p : Nat) : Int))), (3, .int .i64 (((kkE p ((nilE p n)) : Nat) : Int))), (9, .int .i64 (((kkE p ((nilE p n)) : Nat) : Int))), (10, ptr b1 (0 + 1)), (11, .int .i64 (((n : Nat) : Int))), (12, .bool (decide ((((kkE p ((nilE p n)) : Nat) : Int) : Int) < ((n : Nat) : Int)))), (17, .agg (algC (p : Int) (n : Int) T f)), (18, .slice (some ⟨bB, 0, none⟩) (n) (cB)), (19, .int .i64 (((n : Nat) : Int))), (20, .int .i64 (((kk : Nat) : Int))), (4, u4_2)] ∧ Mem w w' [some (b1, algC (p : Int) (n : Int) T f), none, none, some (bB, csB), e4_2] []) (fun kk => n - kk) 0 ?_ ?_
      ·
        refine ⟨by omega, trivial, (.slice none 0 0), (none), (Sl.nil 6 _), hF.sub _ (by repeat' constructor), ?_⟩
        exact hM
      ·
        clear hF hM
        rintro gi a w' ⟨hgi, hinv2, u4_2, e4_2, hsl, hF, hM⟩
        have hv : ∀ i, (fun q => if q = gi then 1 else 0 : Nat → Nat) i ≤ 255 := eb_le
        have hkf := (kk_lt (p := p) (n := n) (g := nilE p n) hp hn (Nat.le_refl _)).2
        refine sq ?_
        refine wp_region_lit ?_
        refine st hF (g_lss hF rfl rfl) rfl fun a hF => ?_
        refine wpList_nil ?_
        refine tN ?_
        refine sq ?_
        refine c_cond hF rfl (fun h3 => ?_) (fun h3 => ?_)
        ·
          refine wp_skip ?_
          refine tN ?_
          refine sq ?_
          refine wp_block ?_
          refine sq ?_
          refine wp_region_lit ?_
          refine st hF (g_indexSl (i := gi) ty_sl_27 hF rfl rfl rfl (by omega)) rfl fun a hF => st hF (g_loadAgg ty_ag_30 hF rfl (hM.row 3 rfl) (hsB.room (gi) (by omega)) (hsB.vec0 (V := fun i q => if q = i then 1 else 0) (gi) (by omega))) rfl fun a hF => ?_
          refine stR hF (d_alloc 1 hM ty_ze_30) rfl ?_
          rintro _ w' a ⟨b4, rfl, hM, -⟩ hF
          change Mem w w' [some (b1, algC (p : Int) (n : Int) T f), some (b4, fnC 6 (fun _ => .int .u8 (0))), none, some (bB, csB), e4_2] [] at hM
          refine stN hF (d_storeAgg 1 hM rfl ty_sz_30 hF rfl rfl (by first | exact vecC_one | exact cells_one | (refine fnC_one fun _ _ => ?_; first | rfl | (split <;> rfl))) (by simp only [fnC_size, cells_size, vecC_size, tabC_size, planeC_size, dgC_size, numC_sz, ldB_size]) (by simp only [fnC_size, cells_size, vecC_size, tabC_size, planeC_size, dgC_size, numC_sz, ldB_size] <;> omega) (splice_whole _ _ (by simp only [fnC_size, cells_size, vecC_size, tabC_size, planeC_size, dgC_size, numC_sz, ldB_size]))) ?_
          intro _ w' a hM hF
          change Mem w w' [some (b1, algC (p : Int) (n : Int) T f), some (b4, vecC (fun q => if q = gi then 1 else 0)), none, some (bB, csB), e4_2] [] at hM
          refine wpList_nil ?_
          refine tN ?_
          refine wp_region_lit ?_
          refine st hF (g_move hF rfl) rfl fun a hF => st hF (g_loadAgg ty_ag_32 hF rfl (hM.row 0 rfl) (by simp only [fnC_size, cells_size, vecC_size, tabC_size, planeC_size, dgC_size, numC_sz, ldB_size] <;> omega) (whole cells_size)) rfl fun a hF => st hF (g_loadAgg ty_ag_30 hF rfl (hM.row 1 rfl) (by simp only [fnC_size, cells_size, vecC_size, tabC_size, planeC_size, dgC_size, numC_sz, ldB_size] <;> omega) (whole (by simp only [fnC_size, cells_size, vecC_size, tabC_size, planeC_size, dgC_size, numC_sz, ldB_size]))) rfl fun a hF => st hF (g_move hF rfl) rfl fun a hF => ?_
          refine stR hF (d_call Tryd.call30 hF (.cons rfl (.cons rfl (.cons rfl .nil))) (power_ok p n T f ((fun q => if q = gi then 1 else 0)) (kkE p ((nilE p n))) _ hp hn0 hn hTp uu huu (fun _ => by first | exact hv _ | exact hvt _ | exact hvs _ | exact hu _ | exact hT _ _ _ | exact hf _ | omega | (split <;> omega) | (dsimp only; split <;> omega) | assumption) (by omega) (unit_timesV hT0 huu (fun c _ => eb_lt hp2 c) (fun c h _ => eb_out (by omega) h)))) rfl ?_
          rintro _ w' a ⟨hx, rfl⟩ hF
          have hM := hM.ext hx
          refine stR hF (d_buildC (vs := [(0, .agg (vecC (powW (timesV p n T) uu ((fun q => if q = gi then 1 else 0)) (kkE p ((nilE p n))))))]) 2 hM hF (build1 hF rfl) (fun w => ty_bsg_27_1 (powW (timesV p n T) uu ((fun q => if q = gi then 1 else 0)) (kkE p ((nilE p n)))) w)) rfl ?_
          rintro _ w' a ⟨b5, rfl, hM, -⟩ hF
          change Mem w w' [some (b1, algC (p : Int) (n : Int) T f), some (b4, vecC (fun q => if q = gi then 1 else 0)), some (b5, vecsC 1 (vAtL [(powW (timesV p n T) uu ((fun q => if q = gi then 1 else 0)) (kkE p ((nilE p n))))])), some (bB, csB), e4_2] [] at hM
          refine stR hF (d_append (k := 4) (N := gi) (m := 1) (f := (fun c => .int .u8 (((imP p n T uu (kkE p (nilE p n))) (c / 6) (c % 6) : Nat) : Int))) (g := fun q => .int .u8 (((((powW (timesV p n T) uu ((fun q => if q = gi then 1 else 0)) (kkE p ((nilE p n))))) q : Nat)) : Int)) ty_si_27 rfl (by decide) hM rfl hF rfl rfl hsl (fun q hq => ((hM.row 2 rfl).cell _).trans (vecs1_get q hq)) (fun _ _ => rfl) (by decide) (by unfold maxLen; omega) (by omega)) rfl ?_
          rintro u6 w' a ⟨e7, hM, hs8⟩ hF
          change Mem w w' [some (b1, algC (p : Int) (n : Int) T f), some (b4, vecC (fun q => if q = gi then 1 else 0)), some (b5, vecsC 1 (vAtL [(powW (timesV p n T) uu ((fun q => if q = gi then 1 else 0)) (kkE p ((nilE p n))))])), some (bB, csB), e7] [] at hM
          refine st hF (g_assign hF rfl) rfl fun a hF => ?_
          refine wpList_nil ?_
          refine iN ?_
          refine tN ?_
          refine wp_region_lit ?_
          refine st hF (g_add hF rfl rfl (add_nat (gi) (1) (by omega))) rfl fun a hF => st hF (g_move hF rfl) rfl fun a hF => ?_
          refine wpList_nil ?_
          refine tN ?_
          have hM := hM.drop 1
          have hM := hM.drop 2
          refine ⟨gi + 1, ⟨by omega, trivial, (u6), (e7), (Sl.snoc6 (N := gi) (F := (fun c => .int .u8 (((imP p n T uu (kkE p (nilE p n))) (c / 6) (c % 6) : Nat) : Int))) (G := fun q => .int .u8 (((imP p n T uu (kkE p (nilE p n))) gi q : Nat) : Int)) hs8 (fun q hq => by rw [show (gi * 6 + q) / 6 = gi by omega, show (gi * 6 + q) % 6 = q by omega])), hF.sub _ (by repeat' constructor), ?_⟩, by omega⟩
          exact hM
        ·
          obtain rfl : n = gi := by omega
          obtain ⟨bim, cim, csim, rfl, rfl, hs1⟩ := hsl.pos hn0
          have hM := hM.freeze 4 rfl
          change Mem w _ [some (b1, algC (p : Int) (n : Int) T f), none, none, some (bB, csB), none] [(bim, csim)] at hM
          refine wp_exit ?_
          refine tX ?_
          refine tX ?_
          refine ib_same ?_
          refine tN ?_
          refine sq ?_
          refine wp_region_lit ?_
          refine st hF (g_loadAgg ty_ag_32 hF rfl (hM.row 0 rfl) (by simp only [fnC_size, cells_size, vecC_size, tabC_size, planeC_size, dgC_size, numC_sz, ldB_size] <;> omega) (whole cells_size)) rfl fun a hF => st hF (g_move hF rfl) rfl fun a hF => ?_
          have hszc := hM.bel.size
          refine stR hF (d_call Tryd.call31 hF (.cons rfl (.cons rfl .nil)) (kernelOfMap_Z p n T f bim cim csim (imP p n T uu (kkE p (nilE p n))) _ hp hn0 hn (imP_lt huu.small) hs1 (hM.fz 0 rfl) hzk)) rfl ?_
          rintro _ w' a ⟨hx, rfl⟩ hF
          have hM := hM.ext hx
          refine st hF (g_assign hF rfl) rfl fun a hF => ?_
          refine wpList_nil ?_
          refine tN ?_
          refine wp_ret ?_
          refine fin1 rfl hF.defers (res_tmp hF rfl) ⟨_, rfl, hM.below, ?_⟩
          show _ = _
          rfl

theorem l05Nil_Y (p n : Nat) (T : Nat → Nat → Nat → Nat) (f : Nat → Nat) (w : World) (hp : primeN p) (hn0 : 0 < n) (hn : n ≤ 6) (hTp : ∀ i j k, T i j k < p) (hT0 : ∀ i j k, n ≤ k → T i j k = 0) (hf : ∀ i, f i ≤ 255) (uu : Nat → Nat) (huu : UnitI p n T uu) (hne : ∀ k E ld, Rref p n E k ld → (∀ x, Ker p n E k x ↔ Ker p n (fun r c => imP p n T uu (kkE p (nilE p n)) c r) n x) → 0 < nf k ld n) (hpos : ∀ r V, IsKer p n (fun r c => imP p n T uu (kkE p (nilE p n)) c r) n r V → 0 < r) :
    CallsR Tryd.prog 14 #[.agg (algC (p : Int) (n : Int) T f)] w (fun u w' => ∃ r V, IsKer p n (fun r c => imP p n T uu (kkE p (nilE p n)) c r) n r V ∧ OwnSl 6 w r (fun c => .int .u8 (((padN n V) (c / 6) (c % 6) : Nat) : Int)) u w') := by
  refine calls_fr [.agg (algC (p : Int) (n : Int) T f)] Tryd.func14 rfl Tryd.ntmps14 rfl fun a hF => ?_
  have hM : Mem w w [none, none] [] := MemX.start w 2
  change Fr 17 a [(0, .agg (algC (p : Int) (n : Int) T f))] at hF
  have hp2 := hp.two
  have hp13 := hp.le
  have hT : ∀ i j k, T i j k ≤ 255 := fun i j k => by have := hTp i j k; omega
  have hp2 := hp.two
  have hp13 := hp.le
  refine sq ?_
  refine wp_region_lit ?_
  refine stR hF (d_box 0 hM hF rfl) rfl ?_
  rintro _ w' a ⟨b1, rfl, hM, -⟩ hF
  change Mem w w' [some (b1, algC (p : Int) (n : Int) T f), none] [] at hM
  refine st hF (g_assign hF rfl) rfl fun a hF => ?_
  refine wpList_nil ?_
  refine tN ?_
  refine sq ?_
  refine wp_region_lit ?_
  refine st hF (g_fieldAddr ty_fo_32_0 hF rfl) rfl fun a hF => st hF (g_load ty_on_2 hF rfl (hM.row 0 rfl) (algC_p (by omega))) rfl fun a hF => st hF (g_assign hF rfl) rfl fun a hF => ?_
  refine wpList_nil ?_
  refine tN ?_
  refine sq ?_
  refine wp_block ?_
  change Mem w _ [some (b1, algC (p : Int) (n : Int) T f), none] [] at hM
  refine c_loop (fun (kk : Nat) a w' => kk ≤ (nilE p n) ∧ (True) ∧ Fr 17 a [(0, .agg (algC (p : Int) (n : Int) T f)), (1, ptr b1 (0)), (2, .slice none 0 0), (4, ptr b1 (0 + 0)), (5, .int .i64 (((p : Nat) : Int))), (3, .int .i64 (((kkE p kk : Nat) : Int)))] ∧ Mem w w' [some (b1, algC (p : Int) (n : Int) T f), none] []) (fun kk => (nilE p n) - kk) 0 ?_ ?_
  ·
    refine ⟨by omega, trivial, hF.sub _ (by repeat' constructor), ?_⟩
    exact hM
  ·
    clear hF hM
    rintro gi a w' ⟨hgi, hinv1, hF, hM⟩
    have hkl := kk_lt (p := p) (n := n) (g := gi) hp hn (by omega)
    have hE2 := nilE_le (p := p) (n := n)
    refine sq ?_
    refine sq ?_
    refine wp_region_lit ?_
    refine st hF (g_move hF rfl) rfl fun a hF => st hF (g_fieldAddr ty_fo_32_1 hF rfl) rfl fun a hF => st hF (g_load ty_on_2 hF rfl (hM.row 0 rfl) (algC_n (by omega))) rfl fun a hF => st hF (g_lss hF rfl rfl) rfl fun a hF => ?_
    refine wpList_nil ?_
    refine tN ?_
    refine c_cond hF rfl (fun h2 => ?_) (fun h2 => ?_)
    ·
      refine wp_skip ?_
      refine tN ?_
      refine wp_block ?_
      refine wp_region_lit ?_
      refine st hF (g_move hF rfl) rfl fun a hF => st hF (g_fieldAddr ty_fo_32_0 hF rfl) rfl fun a hF => st hF (g_load ty_on_2 hF rfl (hM.row 0 rfl) (algC_p (by omega))) rfl fun a hF => st hF (g_mul hF rfl rfl (show _ = ((kkE p (gi + 1) : Nat) : Int) from (by rw [show (((kkE p gi : Nat) : Int) * ((p : Nat) : Int)) = ((kkE p gi * p : Nat) : Int) from (Int.natCast_mul _ _).symm, kk_step]; have := Nat.mul_le_mul hkl.2 hp13; have hks := kk_step (p := p) (g := gi); exact wrap_i64 (by omega) (by omega)))) rfl fun a hF => st hF (g_assign hF rfl) rfl fun a hF => ?_
      refine wpList_nil ?_
      refine iN ?_
      refine tN ?_
      refine ⟨gi + 1, ⟨by omega, trivial, hF.sub _ (by repeat' constructor), ?_⟩, by omega⟩
      exact hM
    ·
      obtain rfl : (nilE p n) = gi := by omega
      refine wp_exit ?_
      refine tX ?_
      refine tX ?_
      refine ib_same ?_
      refine tN ?_
      refine sq ?_
      refine wp_region_lit ?_
      refine st hF (g_loadAgg ty_ag_32 hF rfl (hM.row 0 rfl) (by simp only [fnC_size, cells_size, vecC_size, tabC_size, planeC_size, dgC_size, numC_sz, ldB_size] <;> omega) (whole cells_size)) rfl fun a hF => st hF (g_move hF rfl) rfl fun a hF => ?_
      have hszc := hM.bel.size
      refine stR hF (d_call Tryd.call24 hF (.cons rfl (.cons rfl (.cons rfl .nil))) (l05Space_Y p n T f (kkE p (nilE p n)) 0 _ hp hn0 hn hTp hT0 hf uu huu (by have := (kk_lt (p := p) (n := n) (g := nilE p n) hp hn (Nat.le_refl _)).2; omega) (by omega) (fun k E ld h1 h2 => hne k E ld h1 (fun x => (h2 x).trans (ker_same (fun i _ c _ => spE_zero huu.small i c)))) (fun r V h1 => hpos r V (isKer_same (fun i _ c _ => spE_zero huu.small i c) h1)))) rfl ?_
      rintro u w' a ⟨hx, r, V, hIK, hown⟩ hF
      have hown2 := ownSl_le hszc hown
      have hM := hM.ext hx
      refine st hF (g_assign hF rfl) rfl fun a hF => ?_
      refine wpList_nil ?_
      refine tN ?_
      refine wp_ret ?_
      refine fin1 rfl hF.defers (res_tmp hF rfl) ⟨_, rfl, hM.below, ?_⟩
      exact ⟨r, V, isKer_same (fun i _ c _ => spE_zero huu.small i c) hIK, hown2⟩

theorem l05Nil_Z (p n : Nat) (T : Nat → Nat → Nat → Nat) (f : Nat → Nat) (w : World) (hp : primeN p) (hn0 : 0 < n) (hn : n ≤ 6) (hTp : ∀ i j k, T i j k < p) (hT0 : ∀ i j k, n ≤ k → T i j k = 0) (hf : ∀ i, f i ≤ 255) (uu : Nat → Nat) (huu : UnitI p n T uu) (hzk : ∀ k E ld, Rref p n E k ld → (∀ x, Ker p n E k x ↔ Ker p n (fun r c => imP p n T uu (kkE p (nilE p n)) c r) n x) → nf k ld n = 0) :
    CallsR Tryd.prog 14 #[.agg (algC (p : Int) (n : Int) T f)] w (fun u w' => ∃ b, u = .slice (some ⟨b, 0, none⟩) 0 0 ∧ w.heap.size ≤ b ∧ Blk w' b #[]) := by
  refine calls_fr [.agg (algC (p : Int) (n : Int) T f)] Tryd.func14 rfl Tryd.ntmps14 rfl fun a hF => ?_
  have hM : Mem w w [none, none] [] := MemX.start w 2
  change Fr 17 a [(0, .agg (algC (p : Int) (n : Int) T f))] at hF
  have hp2 := hp.two
  have hp13 := hp.le
  have hT : ∀ i j k, T i j k ≤ 255 := fun i j k => by have := hTp i j k; omega
  have hp2 := hp.two
  have hp13 := hp.le
  refine sq ?_
  refine wp_region_lit ?_
  refine stR hF (d_box 0 hM hF rfl) rfl ?_
  rintro _ w' a ⟨b1, rfl, hM, -⟩ hF
  change Mem w w' [some (b1, algC (p : Int) (n : Int) T f), none] [] at hM
  refine st hF (g_assign hF rfl) rfl fun a hF => ?_
  refine wpList_nil ?_
  refine tN ?_
  refine sq ?_
  refine wp_region_lit ?_
  refine st hF (g_fieldAddr ty_fo_32_0 hF rfl) rfl fun a hF => st hF (g_load ty_on_2 hF rfl (hM.row 0 rfl) (algC_p (by omega))) rfl fun a hF => st hF (g_assign hF rfl) rfl fun a hF => ?_
  refine wpList_nil ?_
  refine tN ?_
  refine sq ?_
  refine wp_block ?_
  change Mem w _ [some (b1, algC (p : Int) (n : Int) T f), none] [] at hM
  refine c_loop (fun (kk : Nat) a w' => kk ≤ (nilE p n) ∧ (True) ∧ Fr 17 a [(0, .agg (algC (p : Int) (n : Int) T f)), (1, ptr b1 (0)), (2, .slice none 0 0), (4, ptr b1 (0 + 0)), (5, .int .i64 (((p : Nat) : Int))), (3, .int .i64 (((kkE p kk : Nat) : Int)))] ∧ Mem w w' [some (b1, algC (p : Int) (n : Int) T f), none] []) (fun kk => (nilE p n) - kk) 0 ?_ ?_
  ·
    refine ⟨by omega, trivial, hF.sub _ (by repeat' constructor), ?_⟩
    exact hM
  ·
    clear hF hM
    rintro gi a w' ⟨hgi, hinv1, hF, hM⟩
    have hkl := kk_lt (p := p) (n := n) (g := gi) hp hn (by omega)
    have hE2 := nilE_le (p := p) (n := n)
    refine sq ?_
    refine sq ?_
    refine wp_region_lit ?_
    refine st hF (g_move hF rfl) rfl fun a hF => st hF (g_fieldAddr ty_fo_32_1 hF rfl) rfl fun a hF => st hF (g_load ty_on_2 hF rfl (hM.row 0 rfl) (algC_n (by omega))) rfl fun a hF => st hF (g_lss hF rfl rfl) rfl fun a hF => ?_
    refine wpList_nil ?_
    refine tN ?_
    refine c_cond hF rfl (fun h2 => ?_) (fun h2 => ?_)
    ·
      refine wp_skip ?_
      refine tN ?_
      refine wp_block ?_
      refine wp_region_lit ?_
      refine st hF (g_move hF rfl) rfl fun a hF => st hF (g_fieldAddr ty_fo_32_0 hF rfl) rfl fun a hF => st hF (g_load ty_on_2 hF rfl (hM.row 0 rfl) (algC_p (by omega))) rfl fun a hF => st hF (g_mul hF rfl rfl (show _ = ((kkE p (gi + 1) : Nat) : Int) from (by rw [show (((kkE p gi : Nat) : Int) * ((p : Nat) : Int)) = ((kkE p gi * p : Nat) : Int) from (Int.natCast_mul _ _).symm, kk_step]; have := Nat.mul_le_mul hkl.2 hp13; have hks := kk_step (p := p) (g := gi); exact wrap_i64 (by omega) (by omega)))) rfl fun a hF => st hF (g_assign hF rfl) rfl fun a hF => ?_
      refine wpList_nil ?_
      refine iN ?_
      refine tN ?_
      refine ⟨gi + 1, ⟨by omega, trivial, hF.sub _ (by repeat' constructor), ?_⟩, by omega⟩
      exact hM
    ·
      obtain rfl : (nilE p n) = gi := by omega
      refine wp_exit ?_
      refine tX ?_
      refine tX ?_
      refine ib_same ?_
      refine tN ?_
      refine sq ?_
      refine wp_region_lit ?_
      refine st hF (g_loadAgg ty_ag_32 hF rfl (hM.row 0 rfl) (by simp only [fnC_size, cells_size, vecC_size, tabC_size, planeC_size, dgC_size, numC_sz, ldB_size] <;> omega) (whole cells_size)) rfl fun a hF => st hF (g_move hF rfl) rfl fun a hF => ?_
      refine stR hF (d_call Tryd.call24 hF (.cons rfl (.cons rfl (.cons rfl .nil))) (l05Space_Z p n T f (kkE p (nilE p n)) 0 _ hp hn0 hn hTp hT0 hf uu huu (by have := (kk_lt (p := p) (n := n) (g := nilE p n) hp hn (Nat.le_refl _)).2; omega) (by omega) (fun k E ld h1 h2 => hzk k E ld h1 (fun x => (h2 x).trans (ker_same (fun i _ c _ => spE_zero huu.small i c)))))) rfl ?_
      rintro _ w' a ⟨hx, b3, rfl, hge, hbk⟩ hF
      have hM := hM.fill hx 1 hbk hge
      change Mem w w' [some (b1, algC (p : Int) (n : Int) T f), some (b3, #[])] [] at hM
      refine st hF (g_assign hF rfl) rfl fun a hF => ?_
      refine wpList_nil ?_
      refine tN ?_
      refine wp_ret ?_
      refine fin1 rfl hF.defers (res_tmp hF rfl) ⟨_, rfl, hM.below, ?_⟩
      exact ⟨_, rfl, hM.ge 1 rfl, hM.row 1 rfl⟩

end Go.Proofs.YtfencffdhenjdaaDoor
