/- What functions of the program return, as walks over their operations; no statement of the seat is proved here. -/
import Derived.Test.YtfbhngnfhpjonaaP8
import Derived.Test.YtfbhngnfhpjonaaEch9
set_option linter.unusedVariables false
set_option linter.unusedSimpArgs false
namespace Go.Proofs.Ytfbhngnfhpjonaa
open Go Go.RowKit Go.Sw Go.Ech
open Classical
theorem ty_bs0_27 : ∀ w, (Instr.buildSlice 27 0 #[]).run Try.prog w = .ok (.slice (some ⟨w.heap.size, 0, none⟩) 0 0) (w.alloc (.cells #[] 30)) := by intros; kernel_rfl
theorem ty_ag_26 : aggP Try.prog 26 = some 224 := by kernel_rfl
/-- Sums of numbers times the dual basis. -/
def nkK (p : Nat) (F G : Nat → Nat → Nat) (i k c : Nat) : Nat := sumTo (fun j => F i j * G c j) k % p
def nakV (p n : Nat) (F G : Nat → Nat → Nat) (i c : Nat) : Nat := nkK p F G i n c
theorem nkK_lt {p : Nat} {F G : Nat → Nat → Nat} {i k c : Nat} (hp : 0 < p) : nkK p F G i k c < p := Nat.mod_lt _ hp
theorem nkK_step {p : Nat} {F G : Nat → Nat → Nat} {i k : Nat} : addN p (nkK p F G i k) ((fun i j => G j i) (k)) (((F i k : Nat) : Int)) = nkK p F G i (k + 1) := by
  funext c
  rw [addN_addM]; unfold addM nkK; simp only [sumTo]
  rw [Nat.add_mod, Nat.mod_mod, ← Nat.add_mod]
theorem nak_sol {p n g : Nat} {F G : Nat → Nat → Nat} (hp : 0 < p) (hG : IsCop p n F G) : ∀ i, i < n → (p : Int) ∣ sI (fun q => (F i q : Int) * ((nakV p n F G g q : Nat) : Int)) n - (F g i : Int) := by
  intro i hi
  have h1 : (p : Int) ∣ sI (fun q => (F i q : Int) * ((nakV p n F G g q : Nat) : Int)) n - sI (fun q => (F i q : Int) * sI (fun j => (F g j : Int) * (G q j : Int)) n) n := sI_mod fun q hq => by
    have h := emod_dvd (p : Int) (((sumTo (fun j => F g j * G q j) n : Nat)) : Int)
    rw [← Int.natCast_emod] at h
    have e : ((sumTo (fun j => F g j * G q j) n : Nat) : Int) = sI (fun j => (F g j : Int) * (G q j : Int)) n := by
      rw [sumTo_sI]; exact sI_congr fun j _ => Int.natCast_mul _ _
    rw [e] at h
    exact h
  have e2 : sI (fun q => (F i q : Int) * sI (fun j => (F g j : Int) * (G q j : Int)) n) n = sI (fun j => (F g j : Int) * sI (fun q => (F i q : Int) * (G q j : Int)) n) n := by
    rw [sI_congr (g := fun q => sI (fun j => (F i q : Int) * ((F g j : Int) * (G q j : Int))) n) (fun q _ => (sI_mul _ _ _).symm), sI_swap]
    exact sI_congr fun j _ => by rw [← sI_mul]; exact sI_congr fun q _ => by grind
  have h3 : (p : Int) ∣ sI (fun j => (F g j : Int) * sI (fun q => (F i q : Int) * (G q j : Int)) n) n - sI (fun j => (F g j : Int) * (dl i j : Int)) n := sI_mod fun j hj => hG.sol i hi j hj
  have e4 : sI (fun j => (F g j : Int) * (dl i j : Int)) n = (F g i : Int) := by
    rw [sI_one hi (fun j _ hne => by simp [dl, Ne.symm hne])]; simp [dl]
  rw [e2] at h1
  rw [e4] at h3
  have := Int.dvd_add h1 h3
  rwa [show ∀ A B C : Int, A - B + (B - C) = A - C from fun A B C => by omega] at this

theorem nakV_out {p n : Nat} {F G : Nat → Nat → Nat} {i c : Nat} (hG : ∀ i j, n ≤ i ∨ n ≤ j → G i j = 0) (h : n ≤ c) : nakV p n F G i c = 0 := by
  unfold nakV nkK
  rw [sumTo_zero fun j _ => by rw [hG c j (.inl h), Nat.mul_zero]]
  exact Nat.zero_mod p

theorem NakayamaOfSA (p n : Int) (T : Nat → Nat → Nat → Nat) (f : Nat → Nat) (w : World) (hT : ∀ i j k, T i j k ≤ 255) (hf : ∀ i, f i ≤ 255) (hc : ¬ CodeP p n T f 0 (vAtL [])) :
    CallsR Try.prog 8 #[.agg (algC p n T f)] w (fun res _ => res = .tuple #[.slice none 0 0, .int .i64 1]) := by
  refine calls_fr [.agg (algC p n T f)] Try.func8 rfl Try.ntmps8 rfl fun a hF => ?_
  have hM : Mem w w [none, none, none, none, none] [] := MemX.start w 5
  change Fr 78 a [(0, .agg (algC p n T f))] at hF
  refine sq ?_
  refine wp_region_lit ?_
  refine stR hF (d_box 0 hM hF rfl) rfl ?_
  rintro _ w' a ⟨b1, rfl, hM, -⟩ hF
  change Mem w w' [some (b1, algC p n T f), none, none, none, none] [] at hM
  refine st hF (g_assign hF rfl) rfl fun a hF => st hF (g_assign hF rfl) rfl fun a hF => ?_
  refine wpList_nil ?_
  refine tN ?_
  refine sq ?_
  refine sq ?_
  refine wp_region_lit ?_
  refine st hF (g_loadAgg ty_ag_32 hF rfl (hM.row 0 rfl) (by simp only [fnC_size, cells_size, vecC_size, tabC_size, planeC_size, mrk_size] <;> omega) (whole cells_size)) rfl fun a hF => ?_
  refine stR hF (d_call Try.call27 hF (.cons rfl (.cons rfl .nil)) (l02Code_0A p n T f _ (fun _ _ _ => hT _ _ _) (fun _ => hf _) hc)) rfl ?_
  rintro _ w' a ⟨hx, rfl⟩ hF
  have hM := hM.ext hx
  refine st hF (g_assign hF rfl) rfl fun a hF => ?_
  refine wpList_nil ?_
  refine tN ?_
  refine sq ?_
  refine wp_region_lit ?_
  refine st hF (g_move hF rfl) rfl fun a hF => st hF (g_neq hF rfl rfl) rfl fun a hF => ?_
  refine wpList_nil ?_
  refine tN ?_
  refine c_kT hF rfl (by decide) ?_
  refine sq ?_
  refine wp_region_lit ?_
  refine st hF (g_move hF rfl) rfl fun a hF => st hF (g_assign hF rfl) rfl fun a hF => st hF (g_assign hF rfl) rfl fun a hF => ?_
  refine wpList_nil ?_
  refine tN ?_
  refine wp_ret ?_
  refine tR ?_
  refine fin2 rfl hF.defers (res_tmp hF rfl) (res_tmp hF rfl) ⟨_, rfl, hM.below, ?_⟩
  show _ = _
  rfl

theorem NakayamaOfSF (p n : Nat) (T : Nat → Nat → Nat → Nat) (f : Nat → Nat) (w : World) (hp : primeN p) (hn0 : 0 < n) (hn : n ≤ 6) (hTp : ∀ i j k, T i j k < p) (hT0 : ∀ i j k, n ≤ k → T i j k = 0) (hf : ∀ i, f i ≤ 255) (hfr : ¬ FrobN p n T f) (hc : CodeP (p : Int) (n : Int) T f 0 (vAtL [])) :
    CallsR Try.prog 8 #[.agg (algC (p : Int) (n : Int) T f)] w (fun res _ => res = .tuple #[.slice none 0 0, .int .i64 5]) := by
  refine calls_fr [.agg (algC (p : Int) (n : Int) T f)] Try.func8 rfl Try.ntmps8 rfl fun a hF => ?_
  have hM : Mem w w [none, none, none, none, none] [] := MemX.start w 5
  change Fr 78 a [(0, .agg (algC (p : Int) (n : Int) T f))] at hF
  have hp2 := hp.two
  have hp13 := hp.le
  have hT : ∀ i j k, T i j k ≤ 255 := fun i j k => by have := hTp i j k; omega
  refine sq ?_
  refine wp_region_lit ?_
  refine stR hF (d_box 0 hM hF rfl) rfl ?_
  rintro _ w' a ⟨b1, rfl, hM, -⟩ hF
  change Mem w w' [some (b1, algC (p : Int) (n : Int) T f), none, none, none, none] [] at hM
  refine st hF (g_assign hF rfl) rfl fun a hF => st hF (g_assign hF rfl) rfl fun a hF => ?_
  refine wpList_nil ?_
  refine tN ?_
  refine sq ?_
  refine sq ?_
  refine wp_region_lit ?_
  refine st hF (g_loadAgg ty_ag_32 hF rfl (hM.row 0 rfl) (by simp only [fnC_size, cells_size, vecC_size, tabC_size, planeC_size, mrk_size] <;> omega) (whole cells_size)) rfl fun a hF => ?_
  refine stR hF (d_call Try.call27 hF (.cons rfl (.cons rfl .nil)) (l02Code_0F p n T f _ hp hn0 hn hTp hf hfr hc)) rfl ?_
  rintro _ w' a ⟨hx, rfl⟩ hF
  have hM := hM.ext hx
  refine st hF (g_assign hF rfl) rfl fun a hF => ?_
  refine wpList_nil ?_
  refine tN ?_
  refine sq ?_
  refine wp_region_lit ?_
  refine st hF (g_move hF rfl) rfl fun a hF => st hF (g_neq hF rfl rfl) rfl fun a hF => ?_
  refine wpList_nil ?_
  refine tN ?_
  refine c_kT hF rfl (by decide) ?_
  refine sq ?_
  refine wp_region_lit ?_
  refine st hF (g_move hF rfl) rfl fun a hF => st hF (g_assign hF rfl) rfl fun a hF => st hF (g_assign hF rfl) rfl fun a hF => ?_
  refine wpList_nil ?_
  refine tN ?_
  refine wp_ret ?_
  refine tR ?_
  refine fin2 rfl hF.defers (res_tmp hF rfl) (res_tmp hF rfl) ⟨_, rfl, hM.below, ?_⟩
  show _ = _
  rfl

theorem NakayamaOfSY (p n : Nat) (T : Nat → Nat → Nat → Nat) (f : Nat → Nat) (w : World) (hp : primeN p) (hn0 : 0 < n) (hn : n ≤ 6) (hTp : ∀ i j k, T i j k < p) (hT0 : ∀ i j k, n ≤ k → T i j k = 0) (hf : ∀ i, f i ≤ 255) (hfr : FrobN p n T f) (G : Nat → Nat → Nat) (hG : IsCop p n (formM p n T f) G) (hc : CodeP (p : Int) (n : Int) T f 0 (vAtL [])) :
    CallsR Try.prog 8 #[.agg (algC (p : Int) (n : Int) T f)] w (fun u w' => ∃ l, u = .tuple #[l, .int .i64 0] ∧ OwnSl 6 w n (fun c => .int .u8 (((nakV p n (formM p n T f) G) (c / 6) (c % 6) : Nat) : Int)) l w') := by
  refine calls_fr [.agg (algC (p : Int) (n : Int) T f)] Try.func8 rfl Try.ntmps8 rfl fun a hF => ?_
  have hM : Mem w w [none, none, none, none, none, none, none, none] [] := MemX.start w 8
  change Fr 78 a [(0, .agg (algC (p : Int) (n : Int) T f))] at hF
  have hp2 := hp.two
  have hp13 := hp.le
  have hT : ∀ i j k, T i j k ≤ 255 := fun i j k => by have := hTp i j k; omega
  have hGp := hG.lt
  have hFp := formM_lt (p := p) (n := n) (T := T) (f := f) (show 0 < p by omega)
  have hG5 : ∀ i c, G i c ≤ 255 := fun i c => by have := hGp i c; omega
  refine sq ?_
  refine wp_region_lit ?_
  refine stR hF (d_box 0 hM hF rfl) rfl ?_
  rintro _ w' a ⟨b1, rfl, hM, -⟩ hF
  change Mem w w' [some (b1, algC (p : Int) (n : Int) T f), none, none, none, none, none, none, none] [] at hM
  refine st hF (g_assign hF rfl) rfl fun a hF => st hF (g_assign hF rfl) rfl fun a hF => ?_
  refine wpList_nil ?_
  refine tN ?_
  refine sq ?_
  refine sq ?_
  refine wp_region_lit ?_
  refine st hF (g_loadAgg ty_ag_32 hF rfl (hM.row 0 rfl) (by simp only [fnC_size, cells_size, vecC_size, tabC_size, planeC_size, mrk_size] <;> omega) (whole cells_size)) rfl fun a hF => ?_
  refine stR hF (d_call Try.call27 hF (.cons rfl (.cons rfl .nil)) (l02Code_0Y p n T f _ hp hn0 hn hTp hf hfr hc)) rfl ?_
  rintro _ w' a ⟨hx, rfl⟩ hF
  have hM := hM.ext hx
  refine st hF (g_assign hF rfl) rfl fun a hF => ?_
  refine wpList_nil ?_
  refine tN ?_
  refine sq ?_
  refine wp_region_lit ?_
  refine st hF (g_move hF rfl) rfl fun a hF => st hF (g_neq hF rfl rfl) rfl fun a hF => ?_
  refine wpList_nil ?_
  refine tN ?_
  refine c_kF hF rfl (by decide) ?_
  refine wp_skip ?_
  refine tN ?_
  refine sq ?_
  refine wp_region_lit ?_
  refine stR hF (d_buildC 1 hM hF rfl ty_bs0_27) rfl ?_
  rintro _ w' a ⟨b3, rfl, hM, -⟩ hF
  change Mem w w' [some (b1, algC (p : Int) (n : Int) T f), some (b3, #[]), none, none, none, none, none, none] [] at hM
  refine st hF (g_assign hF rfl) rfl fun a hF => ?_
  refine wpList_nil ?_
  refine tN ?_
  refine sq ?_
  refine sq ?_
  refine wp_region_lit ?_
  refine st hF (g_assign hF rfl) rfl fun a hF => ?_
  refine wpList_nil ?_
  refine tN ?_
  refine wp_block ?_
  change Mem w _ [some (b1, algC (p : Int) (n : Int) T f), some (b3, #[]), none, none, none, none, none, none] [] at hM
  refine c_loop (fun (kk : Nat) a w' => kk ≤ n ∧ (True) ∧ ∃ (u5_1 : Value) (e5_1 : Option (Nat × Array Value)), Sl 6 u5_1 e5_1 (kk) (fun c => .int .u8 (((nakV p n (formM p n T f) G) (c / 6) (c % 6) : Nat) : Int)) ∧ Fr 78 a [(0, .agg (algC (p : Int) (n : Int) T f)), (1, ptr b1 (0)), (2, .slice none 0 0), (3, .int .i64 (0)), (14, .agg (algC (p : Int) (n : Int) T f)), (15, .int .i64 (0)), (4, .int .i64 (0)), (16, .int .i64 (0)), (17, .bool (decide ((0 : Int) ≠ 0))), (19, .slice (some ⟨b3, 0, none⟩) (0) (0)), (6, .int .i64 (((kk : Nat) : Int))), (5, u5_1)] ∧ Mem w w' [some (b1, algC (p : Int) (n : Int) T f), e5_1, none, none, none, none, none, none] []) (fun kk => n - kk) 0 ?_ ?_
  ·
    refine ⟨by omega, trivial, (.slice (some ⟨b3, 0, none⟩) (0) (0)), (some (b3, #[])), (Sl.empty 6 _ _), hF.sub _ (by repeat' constructor), ?_⟩
    exact hM
  ·
    clear hF hM
    rintro gi a w' ⟨hgi, hinv1, u5_1, e5_1, hsl, hF, hM⟩
    refine sq ?_
    refine sq ?_
    refine wp_region_lit ?_
    refine st hF (g_move hF rfl) rfl fun a hF => st hF (g_fieldAddr ty_fo_32_1 hF rfl) rfl fun a hF => st hF (g_load ty_on_2 hF rfl (hM.row 0 rfl) (algC_n (by omega))) rfl fun a hF => st hF (g_lss hF rfl rfl) rfl fun a hF => ?_
    refine wpList_nil ?_
    refine tN ?_
    refine c_cond hF rfl (fun h4 => ?_) (fun h4 => ?_)
    ·
      refine wp_skip ?_
      refine tN ?_
      refine sq ?_
      refine wp_block ?_
      refine sq ?_
      refine wp_region_lit ?_
      refine st hF (g_loadAgg ty_ag_32 hF rfl (hM.row 0 rfl) (by simp only [fnC_size, cells_size, vecC_size, tabC_size, planeC_size, mrk_size] <;> omega) (whole cells_size)) rfl fun a hF => ?_
      refine stR hF (d_call Try.call28 hF (.cons rfl .nil) (l02Table_ok p n T f _ hp hn0 hn hTp hT0 hf)) rfl ?_
      rintro u w' a ⟨hx, hr⟩ hF
      obtain ⟨Dt1, β1, κ1, C1, bt1, ct1, cst1, hR1, hst1, hinj1, hbg1, hsep1, hM⟩ := hM.addTab 5 hx hr
      obtain rfl := hst1.val
      rw [List.append_nil] at hM
      have h1m : ∀ i, i < n → (β1 i, C1 i) ∈ Dt1 := fun i hi => hR1.mem i hi
      change Mem w w' [some (b1, algC (p : Int) (n : Int) T f), e5_1, none, none, none, some (bt1, cst1), none, none] Dt1 at hM
      refine st hF (g_assign hF rfl) rfl fun a hF => ?_
      refine wpList_nil ?_
      refine tN ?_
      refine sq ?_
      refine wp_region_lit ?_
      refine st hF (g_loadAgg ty_ag_32 hF rfl (hM.row 0 rfl) (by simp only [fnC_size, cells_size, vecC_size, tabC_size, planeC_size, mrk_size] <;> omega) (whole cells_size)) rfl fun a hF => ?_
      refine stR hF (d_call Try.call28 hF (.cons rfl .nil) (l02Table_ok p n T f _ hp hn0 hn hTp hT0 hf)) rfl ?_
      rintro u w' a ⟨hx, hr⟩ hF
      obtain ⟨Dt, β, κ, C, bt, ct, cst, hR, hst, hinj, hbg, hsep, hM⟩ := hM.addTab 6 hx hr
      obtain rfl := hst.val
      have hstz : n ≤ cst.size := by have := hst.sz; have := hst.le; omega
      change Mem w w' [some (b1, algC (p : Int) (n : Int) T f), e5_1, none, none, none, some (bt1, cst1), some (bt, cst), none] (Dt ++ Dt1) at hM
      refine st hF (g_assign hF rfl) rfl fun a hF => ?_
      refine wpList_nil ?_
      refine tN ?_
      refine sq ?_
      refine sq ?_
      refine wp_region_lit ?_
      refine st hF (g_assign hF rfl) rfl fun a hF => ?_
      refine wpList_nil ?_
      refine tN ?_
      refine wp_block ?_
      change Mem w _ [some (b1, algC (p : Int) (n : Int) T f), e5_1, none, none, none, some (bt1, cst1), some (bt, cst), none] (Dt ++ Dt1) at hM
      refine c_loop (fun (kk : Nat) a w' => kk ≤ n ∧ ∃ (D3 : Froz), ∃ (β3 : Nat → Nat), ∃ (κ3 : Nat → Nat), ∃ (C3 : Nat → Array Value), ∃ (cs3 : Array Value), (n ≤ cs3.size ∧ (∀ i, i < kk → cs3[0 + i * 1]? = some (.slice (some ⟨β3 i, 0, none⟩) (n + 1) (κ3 i))) ∧ (∀ i, kk ≤ i → i < n → cs3[0 + i * 1]? = some (.slice (some ⟨β i, 0, none⟩) n (κ i))) ∧ RowsD D3 (n + 1) kk β3 κ3 C3 (fun i c => .int .i64 (((rhsM n (formM p n T f) ((formM p n T f) gi)) i c : Nat) : Int)) ∧ (∀ i, kk ≤ i → i < n → (β i, C i) ∈ D3) ∧ (∀ x ∈ Dt1, x ∈ D3) ∧ (∀ i, i < kk → ∀ j, kk ≤ j → j < n → β3 i ≠ β j)) ∧ Fr 78 a [(0, .agg (algC (p : Int) (n : Int) T f)), (1, ptr b1 (0)), (2, .slice none 0 0), (3, .int .i64 (0)), (14, .agg (algC (p : Int) (n : Int) T f)), (15, .int .i64 (0)), (4, .int .i64 (0)), (16, .int .i64 (0)), (17, .bool (decide ((0 : Int) ≠ 0))), (19, .slice (some ⟨b3, 0, none⟩) (0) (0)), (6, .int .i64 (((gi : Nat) : Int))), (5, u5_1), (20, .int .i64 (((gi : Nat) : Int))), (21, ptr b1 (0 + 1)), (22, .int .i64 (((n : Nat) : Int))), (23, .bool (decide ((((gi : Nat) : Int) : Int) < ((n : Nat) : Int)))), (26, .agg (algC (p : Int) (n : Int) T f)), (27, .slice (some ⟨bt1, 0, none⟩) (n) (ct1)), (7, .slice (some ⟨bt1, 0, none⟩) (n) (ct1)), (28, .agg (algC (p : Int) (n : Int) T f)), (29, .slice (some ⟨bt, 0, none⟩) (n) (ct)), (8, .slice (some ⟨bt, 0, none⟩) (n) (ct)), (9, .int .i64 (((kk : Nat) : Int)))] ∧ Mem w w' [some (b1, algC (p : Int) (n : Int) T f), e5_1, none, none, none, some (bt1, cst1), some (bt, cs3), none] D3) (fun kk => n - kk) 0 ?_ ?_
      ·
        refine ⟨by omega, (Dt ++ Dt1), (fun _ => 0), (fun _ => 0), (fun _ => #[]), cst, ⟨hstz, fun i hi => absurd hi (by omega), fun i _ hi => hst.get1 i hi, RowsD.none, fun i _ hi => List.mem_append_left _ (hR.mem i hi), fun x hx => List.mem_append_right _ hx, fun i hi => absurd hi (by omega)⟩, hF.sub _ (by repeat' constructor), ?_⟩
        exact hM
      ·
        clear hF hM
        rintro gk a w' ⟨hgk, D3, β3, κ3, C3, cs3, ⟨hsz3, hgo1, hgo2, hR3, hold, hsub, hsep3⟩, hF, hM⟩
        refine sq ?_
        refine sq ?_
        refine wp_region_lit ?_
        refine st hF (g_move hF rfl) rfl fun a hF => st hF (g_fieldAddr ty_fo_32_1 hF rfl) rfl fun a hF => st hF (g_load ty_on_2 hF rfl (hM.row 0 rfl) (algC_n (by omega))) rfl fun a hF => st hF (g_lss hF rfl rfl) rfl fun a hF => ?_
        refine wpList_nil ?_
        refine tN ?_
        refine c_cond hF rfl (fun h5 => ?_) (fun h5 => ?_)
        ·
          refine wp_skip ?_
          refine tN ?_
          refine sq ?_
          refine wp_block ?_
          have hmg := hold gk (Nat.le_refl _) (by omega)
          have hM := hM.thaw 7 hmg (hbg gk (by omega))
          have h1m : ∀ i, i < n → (β1 i, C1 i) ∈ offD D3 (β gk) := fun i hi => mem_offD.2 ⟨hsub _ (hR1.mem i hi), hsep gk (by omega) _ (hR1.mem i hi)⟩
          refine c_drawH (S := fun (bb : Bool) (g : Own × Option (Nat × Nat × Array Value)) w2 => (MemX [] w w2 g.1 (offD D3 (β gk)) ∧ Same [2, 7] [some (b1, algC (p : Int) (n : Int) T f), e5_1, none, none, none, some (bt1, cst1), some (bt, cs3), none] g.1) ∧ (bb = false → g.2 = none ∧ g.1[7]? = some (some (β gk, C gk))) ∧ (bb = true → ∃ b9 k9 c9, g.2 = some (b9, k9, c9) ∧ g.1[7]? = some (some (b9, c9)) ∧ SlAt 1 (.slice (some ⟨b9, 0, none⟩) (n + 1) k9) (some (b9, c9)) (n + 1) b9 k9 c9 (fun i => if i < n * 1 then (fun c => .int .i64 (((formM p n T f) (gk) c : Nat) : Int)) i else (fun _ => .int .i64 (((formM p n T f (gi) (gk) : Nat)) : Int)) (i - n * 1)))) 16 14 hmix rfl rfl rfl hF rfl (dstEvery_spec rfl) (_, none) ⟨⟨hM, (Same.refl [2, 7] ([some (b1, algC (p : Int) (n : Int) T f), e5_1, none, none, none, some (bt1, cst1), some (bt, cs3), none])).set 7 rfl (some (β gk, C gk))⟩, fun _ => ⟨rfl, rfl⟩, fun e => by cases e⟩ (fun bb g w h => ⟨⟨h.1.1.ext (Below.drew (Below.refl _ _)), h.1.2⟩, h.2⟩) (fun i (g : Own × Option (Nat × Nat × Array Value)) u w2 => match i with | 0 => u = .slice (some ⟨bt, 0, none⟩) (n) (ct) | 1 => u = .int .i64 (((gk : Nat) : Int)) | 2 => u = .slice (some ⟨bt, 0, none⟩) (n) (ct) | 3 => u = .int .i64 (((gk : Nat) : Int)) | 4 => u = ptr bt (0 + (gk) * 1) | 5 => u = .slice (some ⟨β (gk), 0, none⟩) (n) (κ (gk)) | 6 => u = .slice (some ⟨bt1, 0, none⟩) (n) (ct1) | 7 => u = .int .i64 (((gi : Nat) : Int)) | 8 => u = ptr bt1 (0 + (gi) * 1) | 9 => u = .slice (some ⟨β1 (gi), 0, none⟩) (n) (κ1 (gi)) | 10 => u = .int .i64 (((gk : Nat) : Int)) | 11 => u = ptr (β1 (gi)) (0 + (gk) * 1) | 12 => u = .int .i64 (((formM p n T f (gi) (gk) : Nat) : Int)) | 15 => u = ptr bt (0 + (gk) * 1) | 13 => ∃ b8, u = .slice (some ⟨b8, 0, none⟩) 1 1 ∧ g.1[2]? = some (some (b8, #[.int .i64 (((formM p n T f (gi) (gk) : Nat)) : Int)])) | 14 => ∃ b9 k9 c9, g.2 = some (b9, k9, c9) ∧ u = .slice (some ⟨b9, 0, none⟩) (n + 1) k9 | _ => True) ⟨fun a w2 bb g hF hS hb hd => by exact ph_val hS rfl (g_move hF rfl), fun a w2 bb g hF hS hb hd => by exact ph_val hS rfl (g_move hF rfl), fun a w2 bb g hF hS hb hd => by exact ph_val hS rfl (g_move hF rfl), fun a w2 bb g hF hS hb hd => by exact ph_val hS rfl (g_move hF rfl), fun a w2 bb g hF hS hb hd => by have hF := hF.ext1 38 (hd 2 rfl rfl); have hF := hF.ext1 39 (hd 3 rfl rfl); exact ph_val hS rfl (g_indexSl (i := gk) ty_sl_53 hF rfl rfl rfl (by omega)), fun a w2 bb g hF hS hb hd => by have hF := hF.ext1 40 (hd 4 rfl rfl); have hM := Par.mem (W := [2, 7]) hS.1 rfl; exact ph_val hS rfl (g_load ty_on_45 hF rfl (hM.row 6 rfl) (hgo2 (gk) (by omega) (by omega))), fun a w2 bb g hF hS hb hd => by exact ph_val hS rfl (g_move hF rfl), fun a w2 bb g hF hS hb hd => by exact ph_val hS rfl (g_move hF rfl), fun a w2 bb g hF hS hb hd => by have hF := hF.ext1 42 (hd 6 rfl rfl); have hF := hF.ext1 43 (hd 7 rfl rfl); exact ph_val hS rfl (g_indexSl (i := gi) ty_sl_53 hF rfl rfl rfl (by omega)), fun a w2 bb g hF hS hb hd => by have hF := hF.ext1 44 (hd 8 rfl rfl); have hM := Par.mem (W := [2, 7]) hS.1 rfl; exact ph_val hS rfl (g_load ty_on_45 hF rfl (hM.row 5 rfl) (hst1.get1 (gi) (by omega))), fun a w2 bb g hF hS hb hd => by exact ph_val hS rfl (g_move hF rfl), fun a w2 bb g hF hS hb hd => by have hF := hF.ext1 45 (hd 9 rfl rfl); have hF := hF.ext1 46 (hd 10 rfl rfl); exact ph_val hS rfl (g_indexSl (i := gk) ty_sl_45 hF rfl rfl rfl (by omega)), fun a w2 bb g hF hS hb hd => by have hF := hF.ext1 47 (hd 11 rfl rfl); have hM := Par.mem (W := [2, 7]) hS.1 rfl; exact ph_val hS rfl (g_load ty_on_2 hF rfl (hM.fzm (h1m (gi) (by omega))) (hR1.get (i := gi) (by omega) (gk) (by omega))), fun a w2 bb g hF hS hb hd => by
            have hF := hF.ext1 48 (hd 12 rfl rfl)
            obtain ⟨L9, r9⟩ := g
            have hl9 : L9.length = 8 := hS.1.2.1
            exact (d_buildC 2 hS.1.1 hF (build1 hF rfl) (ty_bs1_45 _)).mono fun u w3 ⟨b8, hu, hM, hx⟩ => ⟨(L9.set 2 (some (b8, #[.int .i64 (((formM p n T f (gi) (gk) : Nat)) : Int)])), r9), ⟨⟨hM, hS.1.2.set 2 rfl _⟩, fun e => ⟨(hS.2.1 e).1, by show (L9.set _ _)[_]? = _; rw [List.getElem?_set_ne (by decide)]; exact (hS.2.1 e).2⟩, fun e => by
                obtain ⟨b9, k9, c9, h1, h2, h3⟩ := hS.2.2 e
                exact ⟨b9, k9, c9, h1, by show (L9.set _ _)[_]? = _; rw [List.getElem?_set_ne (by decide)]; exact h2, h3⟩⟩, ⟨b8, hu, by show (L9.set _ _)[_]? = _; rw [List.getElem?_set_self (by omega)]⟩, fun j u hj h => by rcases j with _ | _ | _ | _ | _ | _ | _ | _ | _ | _ | _ | _ | _ | _ | _ | _ | j <;> first | exact h | exact absurd rfl hj⟩, fun a w2 g hF hS hd => by
            obtain ⟨b8, hu8, hL8⟩ := hd 13 rfl rfl
            have hF := hF.ext1 49 hu8
            have hF := hF.ext1 41 (hd 5 rfl rfl)
            obtain ⟨L9, r9⟩ := g
            have hl9 : L9.length = 8 := hS.1.2.1
            obtain ⟨h0, hQ⟩ := hS.2.1 rfl
            exact (d_append (k := 7) (N := n) (m := 1) (f := (fun c => .int .i64 (((formM p n T f) (gk) c : Nat) : Int))) (g := fun _ => .int .i64 (((formM p n T f (gi) (gk) : Nat)) : Int)) ty_si_45 rfl (by decide) hS.1.1 hQ hF rfl rfl (.inr ⟨_, _, _, hR.sl gk (by omega)⟩) (fun i hi => by rw [show i = 0 by omega]; exact (hS.1.1.row 2 hL8).cell 0) (fun _ _ => rfl) (by decide) (by unfold maxLen; omega) (by omega)).mono fun u w3 ⟨ea, hM, hsa⟩ => by
              obtain ⟨b9, k9, c9, hu9, rfl, hsR⟩ := hsa.pos (by omega)
              subst hu9
              exact ⟨(L9.set 7 (some (b9, c9)), some (b9, k9, c9)), ⟨⟨hM, hS.1.2.set 7 rfl _⟩, (fun e => by cases e), fun _ => ⟨b9, k9, c9, rfl, by show (L9.set _ _)[_]? = _; rw [List.getElem?_set_self (by omega)], hsR⟩⟩, ⟨b9, k9, c9, rfl, rfl⟩, fun j u hj h => by rcases j with _ | _ | _ | _ | _ | _ | _ | _ | _ | _ | _ | _ | _ | _ | _ | _ | j <;> first | exact h | exact absurd rfl hj | (obtain ⟨b7, h7, h6⟩ := h; exact ⟨b7, h7, by show (L9.set _ _)[_]? = _; rw [List.getElem?_set_ne (by decide)]; exact h6⟩) | (obtain ⟨b7, k7, c7, h7, h6⟩ := h; rw [show r9 = none from h0] at h7; cases h7)⟩, fun a w2 bb g hF hS hb hd => by have hF := hF.ext1 36 (hd 0 rfl rfl); have hF := hF.ext1 37 (hd 1 rfl rfl); exact ph_val hS rfl (g_indexSl (i := gk) ty_sl_53 hF rfl rfl rfl (by omega)), trivial⟩ ?_
          intro a w' g hF hS hq
          obtain ⟨L9, r9⟩ := g
          obtain ⟨bR, capR, csR, hr9, hLQ, hsR⟩ := hS.2.2 rfl
          obtain ⟨b8, hu8, hL8⟩ := hq 13 rfl rfl
          obtain ⟨b7, k7, c7, h7, hu7⟩ := hq 14 rfl rfl
          obtain ⟨rfl, rfl, rfl⟩ : bR = b7 ∧ capR = k7 ∧ csR = c7 := by rw [show r9 = _ from hr9] at h7; cases h7; exact ⟨rfl, rfl, rfl⟩
          have hF := hF.ext1 50 hu7
          have hF := hF.ext1 51 (hq 15 rfl rfl)
          obtain ⟨⟨hM, hL⟩, -⟩ := hS
          have hL := hL.take hL8
          have hL := hL.take hLQ
          obtain rfl := hL.eq
          change Mem w w' [some (b1, algC (p : Int) (n : Int) T f), e5_1, some (b8, #[.int .i64 (((formM p n T f (gi) (gk) : Nat)) : Int)]), none, none, some (bt1, cst1), some (bt, cs3), some (bR, csR)] (offD D3 (β gk)) at hM
          change wpList Try.prog _ _ [_] _ _
          refine stN hF (d_store 6 hM rfl ty_on_45 hF rfl rfl rfl (by first | omega | (simp only [fnC_size, cells_size, vecC_size, tabC_size, planeC_size, mrk_size] <;> omega))) ?_
          intro _ w' a hM hF
          change Mem w w' [some (b1, algC (p : Int) (n : Int) T f), e5_1, some (b8, #[.int .i64 (((formM p n T f (gi) (gk) : Nat)) : Int)]), none, none, some (bt1, cst1), some (bt, (cs3).setIfInBounds (0 + (gk) * 1) (.slice (some ⟨bR, 0, none⟩) (n + 1) (capR))), some (bR, csR)] (offD D3 (β gk)) at hM
          refine wpList_nil ?_
          refine iN ?_
          refine tN ?_
          refine wp_region_lit ?_
          refine st hF (g_move hF rfl) rfl fun a hF => st hF (g_add hF rfl rfl (add_nat (gk) (1) (by omega))) rfl fun a hF => st hF (g_assign hF rfl) rfl fun a hF => ?_
          refine wpList_nil ?_
          refine tN ?_
          have hnR : ∀ x ∈ offD D3 (β gk), bR ≠ x.1 := fun x hx => (hM.froz x.1 x.2 hx).2 7 bR _ rfl
          have hM := hM.freeze 7 rfl
          have hsR := hsR.congr (g := fun c => .int .i64 (((rhsM n (formM p n T f) ((formM p n T f) gi)) gk c : Nat) : Int)) (fun c hc => by
            unfold rhsM
            by_cases e : c < n
            · rw [if_pos (by omega), if_pos e]
            · rw [if_neg (by omega), if_neg e])
          have hR3 : RowsD ((bR, csR) :: offD D3 (β gk)) (n + 1) gk β3 κ3 C3 (fun i c => .int .i64 (((rhsM n (formM p n T f) ((formM p n T f) gi)) i c : Nat) : Int)) := ⟨fun i hi => List.mem_cons_of_mem _ (mem_offD.2 ⟨hR3.mem i hi, hsep3 i hi gk (Nat.le_refl _) (by omega)⟩), hR3.sl⟩
          have hR3 := (hR3.snoc (List.mem_cons_self ..) hsR).congr (g := fun i c => .int .i64 (((rhsM n (formM p n T f) ((formM p n T f) gi)) i c : Nat) : Int)) (fun i hi c hc => by
            by_cases e : i = gk
            · rw [e]; simp only [up_eq]
            · simp only [up_ne e])
          have hgo1 : ∀ i, i < gk + 1 → ((cs3).setIfInBounds (0 + (gk) * 1) (.slice (some ⟨bR, 0, none⟩) (n + 1) (capR)))[0 + i * 1]? = some (.slice (some ⟨up β3 gk bR i, 0, none⟩) (n + 1) (up κ3 gk capR i)) := fun i hi => by
            by_cases e : i = gk
            · rw [e, up_eq, up_eq, Array.getElem?_setIfInBounds_self_of_lt (by omega)]
            · rw [up_ne e, up_ne e, Array.getElem?_setIfInBounds_ne (by omega)]; exact hgo1 i (by omega)
          have hgo2 : ∀ i, gk + 1 ≤ i → i < n → ((cs3).setIfInBounds (0 + (gk) * 1) (.slice (some ⟨bR, 0, none⟩) (n + 1) (capR)))[0 + i * 1]? = some (.slice (some ⟨β i, 0, none⟩) n (κ i)) := fun i h1 h2 => by rw [Array.getElem?_setIfInBounds_ne (by omega)]; exact hgo2 i (by omega) h2
          have hold2 : ∀ i, gk + 1 ≤ i → i < n → (β i, C i) ∈ offD D3 (β gk) := fun i h1 h2 => mem_offD.2 ⟨hold i (by omega) h2, fun e => by have := hinj i gk h2 (by omega) e; omega⟩
          have hsep3 : ∀ i, i < gk + 1 → ∀ j, gk + 1 ≤ j → j < n → up β3 gk bR i ≠ β j := fun i hi j h1 h2 => by
            unfold up; split
            · exact hnR _ (hold2 j h1 h2)
            · exact hsep3 i (by omega) j (by omega) h2
          have hsub : ∀ x ∈ Dt1, x ∈ (bR, csR) :: offD D3 (β gk) := fun x hx => List.mem_cons_of_mem _ (mem_offD.2 ⟨hsub x hx, hsep gk (by omega) x hx⟩)
          have hM := hM.drop 2
          refine ⟨gk + 1, ⟨by omega, ((bR, csR) :: offD D3 (β gk)), (up β3 gk bR), (up κ3 gk capR), (up C3 gk csR), ((cs3).setIfInBounds (0 + (gk) * 1) (.slice (some ⟨bR, 0, none⟩) (n + 1) (capR))), ⟨by rw [Array.size_setIfInBounds]; exact hsz3, hgo1, hgo2, hR3, fun i h1 h2 => List.mem_cons_of_mem _ (hold2 i h1 h2), hsub, hsep3⟩, hF.sub _ (by repeat' constructor), ?_⟩, by omega⟩
          exact hM
        ·
          obtain rfl : n = gk := by omega
          refine wp_exit ?_
          refine tX ?_
          refine tX ?_
          refine ib_same ?_
          refine tN ?_
          refine sq ?_
          refine wp_region_lit ?_
          refine st hF (g_fieldAddr ty_fo_32_0 hF rfl) rfl fun a hF => st hF (g_load ty_on_2 hF rfl (hM.row 0 rfl) (algC_p (by omega))) rfl fun a hF => st hF (g_move hF rfl) rfl fun a hF => ?_
          have hM := hM.freeze 6 rfl
          change Mem w _ [some (b1, algC (p : Int) (n : Int) T f), e5_1, none, none, none, some (bt1, cst1), none, none] ((bt, cs3) :: D3) at hM
          refine stR hF (d_call Try.call29 hF (.cons rfl (.cons rfl .nil)) (l01Solve_ok p n n bt ct cs3 ((bt, cs3) :: D3) β3 κ3 C3 (rhsM n (formM p n T f) ((formM p n T f) gi)) _ hp hn0 (by omega) hn0 (by omega) (rhsM_lt hFp (hFp gi)) (fun _ _ hm => hM.fzm hm) (List.mem_cons_self ..) hgo1 (hR3.more (fun x hx => List.mem_cons_of_mem _ hx)))) rfl ?_
          ·
            rintro res w' a ⟨hx, kE, E, ld, hE, hKer, hE1, hres⟩ hF
            obtain ⟨hfull, hcol⟩ := solve_b (y := nakV p n (formM p n T f) G gi) hp2 hn (fun i c h => formM_out h) hfr (fun c => nkK_lt (by omega)) (nak_sol (by omega) hG) hE hKer
            obtain ⟨_, _, ul, rfl, hown⟩ := hres.resolve_right (fun h => h.1 hfull)
            obtain ⟨bl, capl, csl, hsl9, hgel, hbl⟩ := hown
            obtain rfl := hsl9.val
            have hsl9 := hsl9.congr (g := fun i => .int .i64 (((nakV p n (formM p n T f) G) gi i : Nat) : Int)) (fun i hi => by rw [hcol i (by omega)])
            have hM2 := hM.sub [] (fun x hx => by cases hx)
            have hM := hM2.addD1 (hM2.ext hx) hgel hbl
            change Mem w w' [some (b1, algC (p : Int) (n : Int) T f), e5_1, none, none, none, some (bt1, cst1), none, none] [(bl, csl)] at hM
            refine st hF (g_move hF rfl) rfl fun a hF => st hF (g_extract hF rfl rfl) rfl fun a hF => st hF (g_extract hF rfl rfl) rfl fun a hF => st hF (g_assign hF rfl) rfl fun a hF => st hF (g_assign hF rfl) rfl fun a hF => ?_
            refine wpList_nil ?_
            refine tN ?_
            refine sq ?_
            refine wp_region_lit ?_
            refine st hF (g_build0 ty_bu_30) rfl fun a hF => ?_
            refine stR hF (d_alloc 3 hM ty_ze_30) rfl ?_
            rintro _ w' a ⟨b6, rfl, hM, -⟩ hF
            change Mem w w' [some (b1, algC (p : Int) (n : Int) T f), e5_1, none, some (b6, fnC 6 (fun _ => .int .u8 (0))), none, some (bt1, cst1), none, none] [(bl, csl)] at hM
            refine stN hF (d_storeAgg 3 hM rfl ty_sz_30 hF rfl rfl (by first | exact vecC_one | exact cells_one | (refine fnC_one fun _ _ => ?_; first | rfl | (split <;> rfl))) (by simp only [fnC_size, cells_size, vecC_size, tabC_size, planeC_size, mrk_size]) (by simp only [fnC_size, cells_size, vecC_size, tabC_size, planeC_size, mrk_size] <;> omega) (splice_whole _ _ (by simp only [fnC_size, cells_size, vecC_size, tabC_size, planeC_size, mrk_size]))) ?_
            intro _ w' a hM hF
            change Mem w w' [some (b1, algC (p : Int) (n : Int) T f), e5_1, none, some (b6, fnC 6 (fun _ => .int .u8 (0))), none, some (bt1, cst1), none, none] [(bl, csl)] at hM
            refine wpList_nil ?_
            refine tN ?_
            refine sq ?_
            refine sq ?_
            refine wp_region_lit ?_
            refine st hF (g_assign hF rfl) rfl fun a hF => ?_
            refine wpList_nil ?_
            refine tN ?_
            refine wp_block ?_
            change Mem w _ [some (b1, algC (p : Int) (n : Int) T f), e5_1, none, some (b6, fnC 6 (fun _ => .int .u8 (0))), none, some (bt1, cst1), none, none] [(bl, csl)] at hM
            refine c_loop (fun (kk : Nat) a w' => kk ≤ n ∧ (True) ∧ Fr 78 a [(56, .tuple #[.slice (some ⟨bl, 0, none⟩) (n) (capl), .bool (true)]), (0, .agg (algC (p : Int) (n : Int) T f)), (1, ptr b1 (0)), (2, .slice none 0 0), (3, .int .i64 (0)), (14, .agg (algC (p : Int) (n : Int) T f)), (15, .int .i64 (0)), (4, .int .i64 (0)), (16, .int .i64 (0)), (17, .bool (decide ((0 : Int) ≠ 0))), (19, .slice (some ⟨b3, 0, none⟩) (0) (0)), (6, .int .i64 (((gi : Nat) : Int))), (5, u5_1), (20, .int .i64 (((gi : Nat) : Int))), (21, ptr b1 (0 + 1)), (22, .int .i64 (((n : Nat) : Int))), (23, .bool (decide ((((gi : Nat) : Int) : Int) < ((n : Nat) : Int)))), (26, .agg (algC (p : Int) (n : Int) T f)), (27, .slice (some ⟨bt1, 0, none⟩) (n) (ct1)), (7, .slice (some ⟨bt1, 0, none⟩) (n) (ct1)), (28, .agg (algC (p : Int) (n : Int) T f)), (29, .slice (some ⟨bt, 0, none⟩) (n) (ct)), (8, .slice (some ⟨bt, 0, none⟩) (n) (ct)), (9, .int .i64 (((n : Nat) : Int))), (30, .int .i64 (((n : Nat) : Int))), (31, ptr b1 (0 + 1)), (32, .int .i64 (((n : Nat) : Int))), (33, .bool (decide ((((n : Nat) : Int) : Int) < ((n : Nat) : Int)))), (53, ptr b1 (0 + 0)), (54, .int .i64 (((p : Nat) : Int))), (55, .slice (some ⟨bt, 0, none⟩) (n) (ct)), (52, .tuple #[.slice (some ⟨bl, 0, none⟩) (n) (capl), .bool (true)]), (57, .slice (some ⟨bl, 0, none⟩) (n) (capl)), (58, .bool (true)), (10, .slice (some ⟨bl, 0, none⟩) (n) (capl)), (11, .bool (true)), (59, .agg (fnC 6 (fun _ => .int .u8 (0)))), (12, ptr b6 (0)), (13, .int .i64 (((kk : Nat) : Int)))] ∧ Mem w w' [some (b1, algC (p : Int) (n : Int) T f), e5_1, none, some (b6, fnC 6 (fun c => .int .u8 ((if c < kk then nakV p n (formM p n T f) G gi c else 0 : Nat) : Int))), none, some (bt1, cst1), none, none] [(bl, csl)]) (fun kk => n - kk) 0 ?_ ?_
            ·
              refine ⟨by omega, trivial, hF.sub _ (by repeat' constructor), ?_⟩
              exact hM.cast (by simp)
            ·
              clear hF hM
              rintro gj a w' ⟨hgj, hinv3, hF, hM⟩
              have hng : nakV p n (formM p n T f) G gi gj < p := nkK_lt (by omega)
              refine sq ?_
              refine sq ?_
              refine wp_region_lit ?_
              refine st hF (g_move hF rfl) rfl fun a hF => st hF (g_fieldAddr ty_fo_32_1 hF rfl) rfl fun a hF => st hF (g_load ty_on_2 hF rfl (hM.row 0 rfl) (algC_n (by omega))) rfl fun a hF => st hF (g_lss hF rfl rfl) rfl fun a hF => ?_
              refine wpList_nil ?_
              refine tN ?_
              refine c_cond hF rfl (fun h7 => ?_) (fun h7 => ?_)
              ·
                refine wp_skip ?_
                refine tN ?_
                refine sq ?_
                refine wp_block ?_
                refine wp_region_lit ?_
                refine st hF (g_move hF rfl) rfl fun a hF => st hF (g_move hF rfl) rfl fun a hF => st hF (g_move hF rfl) rfl fun a hF => st hF (g_indexSl (i := gj) ty_sl_45 hF rfl rfl rfl (by omega)) rfl fun a hF => st hF (g_load ty_on_2 hF rfl (hM.fz 0 rfl) (hsl9.get1 (gj) (by omega))) rfl fun a hF => st hF (g_conv ty_un_5 ty_ud_2 hF rfl (wrap_u8 (by omega) (by have : nakV p n (formM p n T f) G gi gj < p := nkK_lt (by omega); omega))) rfl fun a hF => st hF (g_indexAddr ty_ar_30 hF rfl rfl rfl (by omega)) rfl fun a hF => ?_
                refine stN hF (d_store 3 hM rfl ty_on_5 hF rfl rfl rfl (by first | omega | (simp only [fnC_size, cells_size, vecC_size, tabC_size, planeC_size, mrk_size] <;> omega))) ?_
                intro _ w' a hM hF
                rw [show (fnC 6 (fun c => .int .u8 ((if c < gj then nakV p n (formM p n T f) G gi c else 0 : Nat) : Int))).setIfInBounds (0 + (gj) * 1) (.int .u8 (((nakV p n (formM p n T f) G gi (gj) : Nat) : Int))) = fnC 6 (fun c => .int .u8 (((if c = gj then nakV p n (formM p n T f) G gi (gj) else if c < gj then nakV p n (formM p n T f) G gi c else 0) : Nat) : Int)) from fnC_set (fun c _ => by rw [show 0 + (gj) * 1 = gj by omega]; by_cases hh : c = gj <;> simp [hh])] at hM
                change Mem w w' [some (b1, algC (p : Int) (n : Int) T f), e5_1, none, some (b6, fnC 6 (fun c => .int .u8 (((if c = gj then nakV p n (formM p n T f) G gi (gj) else if c < gj then nakV p n (formM p n T f) G gi c else 0) : Nat) : Int))), none, some (bt1, cst1), none, none] [(bl, csl)] at hM
                refine wpList_nil ?_
                refine iN ?_
                refine tN ?_
                refine wp_region_lit ?_
                refine st hF (g_move hF rfl) rfl fun a hF => st hF (g_add hF rfl rfl (add_nat (gj) (1) (by omega))) rfl fun a hF => st hF (g_assign hF rfl) rfl fun a hF => ?_
                refine wpList_nil ?_
                refine tN ?_
                refine ⟨gj + 1, ⟨by omega, trivial, hF.sub _ (by repeat' constructor), ?_⟩, by omega⟩
                refine hM.rowc 3 rfl (fnC_congr fun c hc => congrArg (Value.int .u8) (congrArg Nat.cast ?_))
                by_cases e1 : c = gj
                · simp [e1]
                · have e0 : (c < gj + 1) = (c < gj) := by apply propext; omega
                  simp [e0, e1]
              ·
                obtain rfl : n = gj := by omega
                have hM := hM.rowc (cs' := fnC 6 (fun c => .int .u8 (((if c < n then nakV p n (formM p n T f) G gi c else 0 : Nat)) : Int))) 3 rfl rfl
                refine wp_exit ?_
                refine tX ?_
                refine tX ?_
                refine ib_same ?_
                refine tN ?_
                refine wp_region_lit ?_
                refine st hF (g_move hF rfl) rfl fun a hF => st hF (g_loadAgg ty_ag_30 hF rfl (hM.row 3 rfl) (by simp only [fnC_size, cells_size, vecC_size, tabC_size, planeC_size, mrk_size] <;> omega) (whole (by simp only [fnC_size, cells_size, vecC_size, tabC_size, planeC_size, mrk_size]))) rfl fun a hF => ?_
                refine stR hF (d_buildC (vs := [(0, .agg (vecC (fun c => if c < n then nakV p n (formM p n T f) G gi c else 0)))]) 4 hM hF (build1 hF rfl) (fun w => ty_bsg_27_1 (fun c => if c < n then nakV p n (formM p n T f) G gi c else 0) w)) rfl ?_
                rintro _ w' a ⟨b8, rfl, hM, -⟩ hF
                change Mem w w' [some (b1, algC (p : Int) (n : Int) T f), e5_1, none, some (b6, vecC (fun c => if c < n then nakV p n (formM p n T f) G gi c else 0)), some (b8, vecsC 1 (vAtL [(fun c => if c < n then nakV p n (formM p n T f) G gi c else 0)])), some (bt1, cst1), none, none] [(bl, csl)] at hM
                refine stR hF (d_append (k := 1) (N := gi) (m := 1) (f := (fun c => .int .u8 (((nakV p n (formM p n T f) G) (c / 6) (c % 6) : Nat) : Int))) (g := fun q => .int .u8 (((((fun c => if c < n then nakV p n (formM p n T f) G gi c else 0)) q : Nat)) : Int)) ty_si_27 rfl (by decide) hM rfl hF rfl rfl hsl (fun q hq => ((hM.row 4 rfl).cell _).trans (vecs1_get q hq)) (fun _ _ => rfl) (by decide) (by unfold maxLen; omega) (by omega)) rfl ?_
                rintro u9 w' a ⟨e10, hM, hs11⟩ hF
                change Mem w w' [some (b1, algC (p : Int) (n : Int) T f), e10, none, some (b6, vecC (fun c => if c < n then nakV p n (formM p n T f) G gi c else 0)), some (b8, vecsC 1 (vAtL [(fun c => if c < n then nakV p n (formM p n T f) G gi c else 0)])), some (bt1, cst1), none, none] [(bl, csl)] at hM
                refine st hF (g_assign hF rfl) rfl fun a hF => ?_
                refine wpList_nil ?_
                refine iN ?_
                refine tN ?_
                refine wp_region_lit ?_
                refine st hF (g_move hF rfl) rfl fun a hF => st hF (g_add hF rfl rfl (add_nat (gi) (1) (by omega))) rfl fun a hF => st hF (g_assign hF rfl) rfl fun a hF => ?_
                refine wpList_nil ?_
                refine tN ?_
                have hM := hM.sub [] (fun x hx => by cases hx)
                have hM := hM.drop 3
                have hM := hM.drop 4
                have hM := hM.drop 5
                refine ⟨gi + 1, ⟨by omega, trivial, (u9), (e10), (Sl.snoc6 (N := gi) (F := (fun c => .int .u8 (((nakV p n (formM p n T f) G) (c / 6) (c % 6) : Nat) : Int))) (G := fun q => .int .u8 (((fun c => if c < n then nakV p n (formM p n T f) G gi c else 0) q : Nat) : Int)) hs11 (fun q hq => by rw [show (gi * 6 + q) / 6 = gi by omega, show (gi * 6 + q) % 6 = q by omega]; show _ = Value.int .u8 ((nakV _ _ _ _ gi q : Nat) : Int); congr 2; by_cases e : q < n; exact if_pos e; exact (if_neg e).trans (nakV_out hG.out (by omega)).symm)), hF.sub _ (by repeat' constructor), ?_⟩, by omega⟩
                exact hM
    ·
      obtain rfl : n = gi := by omega
      refine wp_exit ?_
      refine tX ?_
      refine tX ?_
      refine ib_same ?_
      refine tN ?_
      refine sq ?_
      refine wp_region_lit ?_
      refine st hF (g_move hF rfl) rfl fun a hF => st hF (g_assign hF rfl) rfl fun a hF => st hF (g_assign hF rfl) rfl fun a hF => ?_
      refine wpList_nil ?_
      refine tN ?_
      refine wp_ret ?_
      refine fin2 rfl hF.defers (res_tmp hF rfl) (res_tmp hF rfl) ⟨_, rfl, hM.below, ?_⟩
      exact ⟨_, rfl, OwnSl.pos hM (k := 1) rfl hsl hn0⟩

theorem NakayamaOfIA (p n : Int) (T : Nat → Nat → Nat → Nat) (f : Nat → Nat) (w : World) (hT : ∀ i j k, T i j k ≤ 255) (hf : ∀ i, f i ≤ 255) (hc : ¬ CodeP p n T f 0 (vAtL [])) :
    CallsR Try.prog 10 #[.agg (algC p n T f)] w (fun res _ => res = .tuple #[.slice none 0 0, .int .i64 1]) := by
  refine calls_fr [.agg (algC p n T f)] Try.func10 rfl Try.ntmps10 rfl fun a hF => ?_
  have hM : Mem w w [none, none, none, none] [] := MemX.start w 4
  change Fr 50 a [(0, .agg (algC p n T f))] at hF
  refine sq ?_
  refine wp_region_lit ?_
  refine stR hF (d_box 0 hM hF rfl) rfl ?_
  rintro _ w' a ⟨b1, rfl, hM, -⟩ hF
  change Mem w w' [some (b1, algC p n T f), none, none, none] [] at hM
  refine st hF (g_assign hF rfl) rfl fun a hF => st hF (g_assign hF rfl) rfl fun a hF => ?_
  refine wpList_nil ?_
  refine tN ?_
  refine sq ?_
  refine wp_region_lit ?_
  refine st hF (g_loadAgg ty_ag_32 hF rfl (hM.row 0 rfl) (by simp only [fnC_size, cells_size, vecC_size, tabC_size, planeC_size, mrk_size] <;> omega) (whole cells_size)) rfl fun a hF => ?_
  refine stR hF (d_call Try.call32 hF (.cons rfl (.cons rfl .nil)) (frobeniusFault_0A p n T f _ (fun _ _ _ => hT _ _ _) (fun _ => hf _) hc)) rfl ?_
  rintro _ w' a ⟨hx, rfl⟩ hF
  have hM := hM.ext hx
  refine st hF (g_assign hF rfl) rfl fun a hF => ?_
  refine wpList_nil ?_
  refine tN ?_
  refine sq ?_
  refine sq ?_
  refine wp_region_lit ?_
  refine st hF (g_move hF rfl) rfl fun a hF => st hF (g_neq hF rfl rfl) rfl fun a hF => ?_
  refine wpList_nil ?_
  refine tN ?_
  refine c_kT hF rfl (by decide) ?_
  refine sq ?_
  refine wp_region_lit ?_
  refine st hF (g_move hF rfl) rfl fun a hF => st hF (g_assign hF rfl) rfl fun a hF => st hF (g_assign hF rfl) rfl fun a hF => ?_
  refine wpList_nil ?_
  refine tN ?_
  refine wp_ret ?_
  refine tR ?_
  refine fin2 rfl hF.defers (res_tmp hF rfl) (res_tmp hF rfl) ⟨_, rfl, hM.below, ?_⟩
  show _ = _
  rfl

theorem NakayamaOfIF (p n : Nat) (T : Nat → Nat → Nat → Nat) (f : Nat → Nat) (w : World) (hp : primeN p) (hn0 : 0 < n) (hn : n ≤ 6) (hTp : ∀ i j k, T i j k < p) (hT0 : ∀ i j k, n ≤ k → T i j k = 0) (hf : ∀ i, f i ≤ 255) (hfr : ¬ FrobN p n T f) (hc : CodeP (p : Int) (n : Int) T f 0 (vAtL [])) :
    CallsR Try.prog 10 #[.agg (algC (p : Int) (n : Int) T f)] w (fun res _ => res = .tuple #[.slice none 0 0, .int .i64 5]) := by
  refine calls_fr [.agg (algC (p : Int) (n : Int) T f)] Try.func10 rfl Try.ntmps10 rfl fun a hF => ?_
  have hM : Mem w w [none, none, none, none] [] := MemX.start w 4
  change Fr 50 a [(0, .agg (algC (p : Int) (n : Int) T f))] at hF
  have hp2 := hp.two
  have hp13 := hp.le
  have hT : ∀ i j k, T i j k ≤ 255 := fun i j k => by have := hTp i j k; omega
  refine sq ?_
  refine wp_region_lit ?_
  refine stR hF (d_box 0 hM hF rfl) rfl ?_
  rintro _ w' a ⟨b1, rfl, hM, -⟩ hF
  change Mem w w' [some (b1, algC (p : Int) (n : Int) T f), none, none, none] [] at hM
  refine st hF (g_assign hF rfl) rfl fun a hF => st hF (g_assign hF rfl) rfl fun a hF => ?_
  refine wpList_nil ?_
  refine tN ?_
  refine sq ?_
  refine wp_region_lit ?_
  refine st hF (g_loadAgg ty_ag_32 hF rfl (hM.row 0 rfl) (by simp only [fnC_size, cells_size, vecC_size, tabC_size, planeC_size, mrk_size] <;> omega) (whole cells_size)) rfl fun a hF => ?_
  refine stR hF (d_call Try.call32 hF (.cons rfl (.cons rfl .nil)) (frobeniusFault_0F p n T f _ hp hn0 hn hTp hf hfr hc)) rfl ?_
  rintro _ w' a ⟨hx, rfl⟩ hF
  have hM := hM.ext hx
  refine st hF (g_assign hF rfl) rfl fun a hF => ?_
  refine wpList_nil ?_
  refine tN ?_
  refine sq ?_
  refine sq ?_
  refine wp_region_lit ?_
  refine st hF (g_move hF rfl) rfl fun a hF => st hF (g_neq hF rfl rfl) rfl fun a hF => ?_
  refine wpList_nil ?_
  refine tN ?_
  refine c_kT hF rfl (by decide) ?_
  refine sq ?_
  refine wp_region_lit ?_
  refine st hF (g_move hF rfl) rfl fun a hF => st hF (g_assign hF rfl) rfl fun a hF => st hF (g_assign hF rfl) rfl fun a hF => ?_
  refine wpList_nil ?_
  refine tN ?_
  refine wp_ret ?_
  refine tR ?_
  refine fin2 rfl hF.defers (res_tmp hF rfl) (res_tmp hF rfl) ⟨_, rfl, hM.below, ?_⟩
  show _ = _
  rfl

theorem NakayamaOfIY (p n : Nat) (T : Nat → Nat → Nat → Nat) (f : Nat → Nat) (w : World) (hp : primeN p) (hn0 : 0 < n) (hn : n ≤ 6) (hTp : ∀ i j k, T i j k < p) (hT0 : ∀ i j k, n ≤ k → T i j k = 0) (hf : ∀ i, f i ≤ 255) (hfr : FrobN p n T f) (G : Nat → Nat → Nat) (hG : IsCop p n (formM p n T f) G) (hc : CodeP (p : Int) (n : Int) T f 0 (vAtL [])) :
    CallsR Try.prog 10 #[.agg (algC (p : Int) (n : Int) T f)] w (fun u w' => ∃ l, u = .tuple #[l, .int .i64 0] ∧ OwnSl 6 w n (fun c => .int .u8 (((nakV p n (formM p n T f) G) (c / 6) (c % 6) : Nat) : Int)) l w') := by
  refine calls_fr [.agg (algC (p : Int) (n : Int) T f)] Try.func10 rfl Try.ntmps10 rfl fun a hF => ?_
  have hM : Mem w w [none, none, none, none, none, none, none] [] := MemX.start w 7
  change Fr 50 a [(0, .agg (algC (p : Int) (n : Int) T f))] at hF
  have hp2 := hp.two
  have hp13 := hp.le
  have hT : ∀ i j k, T i j k ≤ 255 := fun i j k => by have := hTp i j k; omega
  have hGp := hG.lt
  have hFp := formM_lt (p := p) (n := n) (T := T) (f := f) (show 0 < p by omega)
  have hG5 : ∀ i c, G i c ≤ 255 := fun i c => by have := hGp i c; omega
  refine sq ?_
  refine wp_region_lit ?_
  refine stR hF (d_box 0 hM hF rfl) rfl ?_
  rintro _ w' a ⟨b1, rfl, hM, -⟩ hF
  change Mem w w' [some (b1, algC (p : Int) (n : Int) T f), none, none, none, none, none, none] [] at hM
  refine st hF (g_assign hF rfl) rfl fun a hF => st hF (g_assign hF rfl) rfl fun a hF => ?_
  refine wpList_nil ?_
  refine tN ?_
  refine sq ?_
  refine wp_region_lit ?_
  refine st hF (g_loadAgg ty_ag_32 hF rfl (hM.row 0 rfl) (by simp only [fnC_size, cells_size, vecC_size, tabC_size, planeC_size, mrk_size] <;> omega) (whole cells_size)) rfl fun a hF => ?_
  refine stR hF (d_call Try.call32 hF (.cons rfl (.cons rfl .nil)) (frobeniusFault_0Y p n T f _ hp hn0 hn hTp hf hfr hc)) rfl ?_
  rintro _ w' a ⟨hx, rfl⟩ hF
  have hM := hM.ext hx
  refine st hF (g_assign hF rfl) rfl fun a hF => ?_
  refine wpList_nil ?_
  refine tN ?_
  refine sq ?_
  refine sq ?_
  refine wp_region_lit ?_
  refine st hF (g_move hF rfl) rfl fun a hF => st hF (g_neq hF rfl rfl) rfl fun a hF => ?_
  refine wpList_nil ?_
  refine tN ?_
  refine c_kF hF rfl (by decide) ?_
  refine wp_skip ?_
  refine tN ?_
  refine sq ?_
  refine wp_region_lit ?_
  refine st hF (g_loadAgg ty_ag_32 hF rfl (hM.row 0 rfl) (by simp only [fnC_size, cells_size, vecC_size, tabC_size, planeC_size, mrk_size] <;> omega) (whole cells_size)) rfl fun a hF => ?_
  refine stR hF (d_call Try.call33 hF (.cons rfl .nil) (dualBasis_ok p n T f G _ hp hn0 hn hTp hT0 hf hfr hG)) rfl ?_
  rintro u w' a ⟨hx, blD, clD, csD, hlD, hgl, hbl⟩ hF
  obtain rfl := hlD.val
  have hM := hM.fill hx 5 hbl hgl
  change Mem w w' [some (b1, algC (p : Int) (n : Int) T f), none, none, none, none, some (blD, csD), none] [] at hM
  refine st hF (g_assign hF rfl) rfl fun a hF => ?_
  refine wpList_nil ?_
  refine tN ?_
  refine sq ?_
  refine wp_region_lit ?_
  refine st hF (g_assign hF rfl) rfl fun a hF => ?_
  refine wpList_nil ?_
  refine tN ?_
  refine sq ?_
  refine sq ?_
  refine wp_region_lit ?_
  refine st hF (g_loadAgg ty_ag_32 hF rfl (hM.row 0 rfl) (by simp only [fnC_size, cells_size, vecC_size, tabC_size, planeC_size, mrk_size] <;> omega) (whole cells_size)) rfl fun a hF => ?_
  refine stR hF (d_call Try.call34 hF (.cons rfl .nil) (formRows_ok p n T f _ (by omega) (by omega) (by omega) (by omega) hT hf)) rfl ?_
  rintro u w' a ⟨hx, hr⟩ hF
  obtain ⟨D1, β, bo, cs0, hB, rfl, hsz0, hgo0, hM⟩ := hM.addBoL 4 hx hr
  rw [List.append_nil] at hM
  change Mem w w' [some (b1, algC (p : Int) (n : Int) T f), none, none, none, some (bo, cs0), some (blD, csD), none] D1 at hM
  refine st hF (g_len ty_us_60 hF rfl) rfl fun a hF => st hF (g_move hF rfl) rfl fun a hF => ?_
  refine wpList_nil ?_
  refine tN ?_
  refine wp_block ?_
  change Mem w _ [some (b1, algC (p : Int) (n : Int) T f), none, none, none, some (bo, cs0), some (blD, csD), none] D1 at hM
  refine c_loop (fun (kk : Nat) a w' => kk ≤ n ∧ (True) ∧ ∃ (u6_1 : Value) (e6_1 : Option (Nat × Array Value)), Sl 6 u6_1 e6_1 (kk) (fun c => .int .u8 (((nakV p n (formM p n T f) G) (c / 6) (c % 6) : Nat) : Int)) ∧ Fr 50 a [(0, .agg (algC (p : Int) (n : Int) T f)), (1, ptr b1 (0)), (2, .slice none 0 0), (3, .int .i64 (0)), (12, .agg (algC (p : Int) (n : Int) T f)), (13, .int .i64 (0)), (4, .int .i64 (0)), (14, .int .i64 (0)), (15, .bool (decide ((0 : Int) ≠ 0))), (17, .agg (algC (p : Int) (n : Int) T f)), (18, .slice (some ⟨blD, 0, none⟩) (n) (clD)), (5, .slice (some ⟨blD, 0, none⟩) (n) (clD)), (19, .agg (algC (p : Int) (n : Int) T f)), (20, .slice (some ⟨bo, 0, none⟩) (n) (n)), (21, .int .i64 (((n : Nat) : Int))), (22, .int .i64 (((kk : Nat) : Int))), (6, u6_1)] ∧ Mem w w' [some (b1, algC (p : Int) (n : Int) T f), none, none, none, some (bo, cs0), some (blD, csD), e6_1] D1) (fun kk => n - kk) 0 ?_ ?_
  ·
    refine ⟨by omega, trivial, (.slice none 0 0), (none), (Sl.nil 6 _), hF.sub _ (by repeat' constructor), ?_⟩
    exact hM
  ·
    clear hF hM
    rintro gi a w' ⟨hgi, hinv1, u6_1, e6_1, hsl, hF, hM⟩
    have hfi := hFp gi
    refine sq ?_
    refine wp_region_lit ?_
    refine st hF (g_lss hF rfl rfl) rfl fun a hF => ?_
    refine wpList_nil ?_
    refine tN ?_
    refine sq ?_
    refine c_cond hF rfl (fun h3 => ?_) (fun h3 => ?_)
    ·
      refine wp_skip ?_
      refine tN ?_
      refine sq ?_
      refine wp_block ?_
      refine sq ?_
      refine wp_region_lit ?_
      refine st hF (g_indexSl (i := gi) ty_sl_60 hF rfl rfl rfl (by omega)) rfl fun a hF => st hF (g_load ty_on_62 hF rfl (hM.row 4 rfl) (hgo0 (gi) (by omega))) rfl fun a hF => st hF (g_assign hF rfl) rfl fun a hF => ?_
      refine wpList_nil ?_
      refine tN ?_
      refine sq ?_
      refine wp_region_lit ?_
      refine stR hF (d_alloc 1 hM ty_ze_30) rfl ?_
      rintro _ w' a ⟨b4, rfl, hM, -⟩ hF
      change Mem w w' [some (b1, algC (p : Int) (n : Int) T f), some (b4, fnC 6 (fun _ => .int .u8 (0))), none, none, some (bo, cs0), some (blD, csD), e6_1] D1 at hM
      refine wpList_nil ?_
      refine tN ?_
      refine sq ?_
      refine sq ?_
      refine wp_region_lit ?_
      refine st hF (g_move hF rfl) rfl fun a hF => st hF (g_len ty_us_27 hF rfl) rfl fun a hF => st hF (g_move hF rfl) rfl fun a hF => ?_
      refine wpList_nil ?_
      refine tN ?_
      refine wp_block ?_
      change Mem w _ [some (b1, algC (p : Int) (n : Int) T f), some (b4, fnC 6 (fun _ => .int .u8 (0))), none, none, some (bo, cs0), some (blD, csD), e6_1] D1 at hM
      refine c_loop (fun (kk : Nat) a w' => kk ≤ n ∧ (True) ∧ Fr 50 a [(0, .agg (algC (p : Int) (n : Int) T f)), (1, ptr b1 (0)), (2, .slice none 0 0), (3, .int .i64 (0)), (12, .agg (algC (p : Int) (n : Int) T f)), (13, .int .i64 (0)), (4, .int .i64 (0)), (14, .int .i64 (0)), (15, .bool (decide ((0 : Int) ≠ 0))), (17, .agg (algC (p : Int) (n : Int) T f)), (18, .slice (some ⟨blD, 0, none⟩) (n) (clD)), (5, .slice (some ⟨blD, 0, none⟩) (n) (clD)), (19, .agg (algC (p : Int) (n : Int) T f)), (20, .slice (some ⟨bo, 0, none⟩) (n) (n)), (21, .int .i64 (((n : Nat) : Int))), (22, .int .i64 (((gi : Nat) : Int))), (6, u6_1), (23, .bool (decide ((((gi : Nat) : Int) : Int) < ((n : Nat) : Int)))), (24, ptr bo (0 + (gi) * 1)), (25, .slice (some ⟨β (gi), 0, none⟩) (6) (6)), (8, .slice (some ⟨β (gi), 0, none⟩) (6) (6)), (9, ptr b4 (0)), (26, .slice (some ⟨blD, 0, none⟩) (n) (clD)), (27, .int .i64 (((n : Nat) : Int))), (28, .int .i64 (((kk : Nat) : Int)))] ∧ Mem w w' [some (b1, algC (p : Int) (n : Int) T f), some (b4, vecC (nkK p (formM p n T f) G gi kk)), none, none, some (bo, cs0), some (blD, csD), e6_1] D1) (fun kk => n - kk) 0 ?_ ?_
      ·
        refine ⟨by omega, trivial, hF.sub _ (by repeat' constructor), ?_⟩
        refine hM.rowc 1 rfl (fnC_congr fun c hc => by unfold nkK; simp [sumTo])
      ·
        clear hF hM
        rintro gk a w' ⟨hgk, hinv2, hF, hM⟩
        have hvt : ∀ c, nkK p (formM p n T f) G gi gk c ≤ 255 := fun c => by have := nkK_lt (p := p) (F := (formM p n T f)) (G := G) (i := gi) (k := gk) (c := c) (by omega); omega
        have hvs : ∀ c, (fun i j => G j i) (gk) c ≤ 255 := fun c => hG5 c gk
        have hfk := hFp gi gk
        refine sq ?_
        refine wp_region_lit ?_
        refine st hF (g_lss hF rfl rfl) rfl fun a hF => ?_
        refine wpList_nil ?_
        refine tN ?_
        refine sq ?_
        refine c_cond hF rfl (fun h5 => ?_) (fun h5 => ?_)
        ·
          refine wp_skip ?_
          refine tN ?_
          refine sq ?_
          refine wp_block ?_
          refine sq ?_
          refine wp_region_lit ?_
          refine st hF (g_move hF rfl) rfl fun a hF => st hF (g_indexSl (i := gk) ty_sl_27 hF rfl rfl rfl (by omega)) rfl fun a hF => st hF (g_loadAgg ty_ag_30 hF rfl (hM.row 5 rfl) (hlD.room (gk) (by omega)) (hlD.vec0 (V := (fun i j => G j i)) (gk) (by omega))) rfl fun a hF => ?_
          refine stR hF (d_alloc 2 hM ty_ze_30) rfl ?_
          rintro _ w' a ⟨b6, rfl, hM, -⟩ hF
          change Mem w w' [some (b1, algC (p : Int) (n : Int) T f), some (b4, vecC (nkK p (formM p n T f) G gi gk)), some (b6, fnC 6 (fun _ => .int .u8 (0))), none, some (bo, cs0), some (blD, csD), e6_1] D1 at hM
          refine st hF (g_assign hF rfl) rfl fun a hF => ?_
          refine stN hF (d_storeAgg 2 hM rfl ty_sz_30 hF rfl rfl (by first | exact vecC_one | exact cells_one | (refine fnC_one fun _ _ => ?_; first | rfl | (split <;> rfl))) (by simp only [fnC_size, cells_size, vecC_size, tabC_size, planeC_size, mrk_size]) (by simp only [fnC_size, cells_size, vecC_size, tabC_size, planeC_size, mrk_size] <;> omega) (splice_whole _ _ (by simp only [fnC_size, cells_size, vecC_size, tabC_size, planeC_size, mrk_size]))) ?_
          intro _ w' a hM hF
          change Mem w w' [some (b1, algC (p : Int) (n : Int) T f), some (b4, vecC (nkK p (formM p n T f) G gi gk)), some (b6, vecC ((fun i j => G j i) (gk))), none, some (bo, cs0), some (blD, csD), e6_1] D1 at hM
          refine wpList_nil ?_
          refine tN ?_
          refine c_par 9 [] [.val (.slice (some ⟨b4, 0, none⟩) (6) (6)), .val (.slice (some ⟨b6, 0, none⟩) (6) (6)), .val (.slice (some ⟨β (gi), 0, none⟩) (6) (6)), .val (.int .i64 (((gk : Nat) : Int))), .val (ptr (β (gi)) (0 + (gk) * 1)), .val (.int .u8 (((formM p n T f (gi) (gk) : Nat) : Int))), .val (.int .i64 (((formM p n T f (gi) (gk) : Nat) : Int))), .val (ptr b1 (0 + 0)), .val (.int .i64 (((p : Nat) : Int)))] hmix rfl hF rfl hM ⟨fun a w gG hF hS hd => by exact par_val hS rfl (g_sliceArr ty_ua_30 ty_sz_5 (by decide) hF rfl), fun a w gG hF hS hd => by exact par_val hS rfl (g_sliceArr ty_ua_30 ty_sz_5 (by decide) hF rfl), fun a w gG hF hS hd => by exact par_val hS rfl (g_move hF rfl), fun a w gG hF hS hd => by exact par_val hS rfl (g_move hF rfl), fun a w gG hF hS hd => by have hF := hF.ext1 35 (hd 2 rfl rfl); have hF := hF.ext1 36 (hd 3 rfl rfl); exact par_val hS rfl (g_indexSl (i := gk) ty_sl_62 hF rfl rfl rfl (by omega)), fun a w gG hF hS hd => by have hF := hF.ext1 37 (hd 4 rfl rfl); have hM := hS.mem rfl; exact par_val hS rfl (g_load ty_on_5 hF rfl (hM.fzm (hB.mem (gi) (by omega))) (fnC_getE (gk) (by omega) (by omega) rfl)), fun a w gG hF hS hd => by have hF := hF.ext1 38 (hd 5 rfl rfl); exact par_val hS rfl (g_conv ty_un_2 ty_ud_5 hF rfl (wrap_i64 (by omega) (by omega))), fun a w gG hF hS hd => by exact par_val hS rfl (g_fieldAddr ty_fo_32_0 hF rfl), fun a w gG hF hS hd => by have hF := hF.ext1 40 (hd 7 rfl rfl); have hM := hS.mem rfl; exact par_val hS rfl (g_load ty_on_2 hF rfl (hM.row 0 rfl) (algC_p (by omega))), trivial⟩ ?_
          intro a w' L hF hS hq
          have hF := hF.ext1 33 (hq 0 rfl rfl)
          have hF := hF.ext1 34 (hq 1 rfl rfl)
          have hF := hF.ext1 35 (hq 2 rfl rfl)
          have hF := hF.ext1 36 (hq 3 rfl rfl)
          have hF := hF.ext1 37 (hq 4 rfl rfl)
          have hF := hF.ext1 38 (hq 5 rfl rfl)
          have hF := hF.ext1 39 (hq 6 rfl rfl)
          have hF := hF.ext1 40 (hq 7 rfl rfl)
          have hF := hF.ext1 41 (hq 8 rfl rfl)
          have hM := hS.mem rfl
          change wpList Try.prog _ _ [_] _ _
          refine stR hF (d_callX Try.call35 hF (.cons rfl (.cons rfl (.cons rfl (.cons rfl .nil)))) (addRow_ok (p) b4 6 b6 0 6 6 _ ((nkK p (formM p n T f) G gi gk)) (((fun i j => G j i) (gk))) (((formM p n T f (gi) (gk) : Nat) : Int)) _ (by omega) (by omega) (by omega) (by omega) (by omega) (fun _ => by first | exact hv _ | exact hvt _ | exact hvs _ | exact hu _ | exact hT _ _ _ | exact hf _ | omega | (split <;> omega) | (dsimp only; split <;> omega) | assumption) (hM.row 1 rfl) (fun _ => by first | exact hv _ | exact hvt _ | exact hvs _ | exact hu _ | exact hT _ _ _ | exact hf _ | omega | (split <;> omega) | (dsimp only; split <;> omega) | assumption) (hM.ne2 (i := 2) (j := 1) rfl rfl (by decide)) (hM.row 2 rfl) (fun i hi => vecC_get i (by omega) hi))) rfl ?_
          rintro _ w' a ⟨hx, rfl, hbk⟩ hF
          have hM := hM.upd (cs' := vecC (addN p ((nkK p (formM p n T f) G gi gk)) (((fun i j => G j i) (gk))) (((formM p n T f (gi) (gk) : Nat) : Int)))) 1 rfl hx hbk
          change Mem w w' [some (b1, algC (p : Int) (n : Int) T f), some (b4, vecC (addN p ((nkK p (formM p n T f) G gi gk)) (((fun i j => G j i) (gk))) (((formM p n T f (gi) (gk) : Nat) : Int)))), some (b6, vecC ((fun i j => G j i) (gk))), none, some (bo, cs0), some (blD, csD), e6_1] D1 at hM
          refine wpList_nil ?_
          refine iN ?_
          refine tN ?_
          refine wp_region_lit ?_
          refine st hF (g_add hF rfl rfl (add_nat (gk) (1) (by omega))) rfl fun a hF => st hF (g_move hF rfl) rfl fun a hF => ?_
          refine wpList_nil ?_
          refine tN ?_
          have hM := hM.drop 2
          refine ⟨gk + 1, ⟨by omega, trivial, hF.sub _ (by repeat' constructor), ?_⟩, by omega⟩
          refine hM.rowc 1 rfl (by rw [← nkK_step])
        ·
          obtain rfl : n = gk := by omega
          refine wp_exit ?_
          refine tX ?_
          refine tX ?_
          refine ib_same ?_
          refine tN ?_
          refine wp_region_lit ?_
          refine st hF (g_move hF rfl) rfl fun a hF => st hF (g_loadAgg ty_ag_30 hF rfl (hM.row 1 rfl) (by simp only [fnC_size, cells_size, vecC_size, tabC_size, planeC_size, mrk_size] <;> omega) (whole (by simp only [fnC_size, cells_size, vecC_size, tabC_size, planeC_size, mrk_size]))) rfl fun a hF => ?_
          refine stR hF (d_buildC (vs := [(0, .agg (vecC (nkK p (formM p n T f) G gi n)))]) 3 hM hF (build1 hF rfl) (fun w => ty_bsg_27_1 (nkK p (formM p n T f) G gi n) w)) rfl ?_
          rintro _ w' a ⟨b7, rfl, hM, -⟩ hF
          change Mem w w' [some (b1, algC (p : Int) (n : Int) T f), some (b4, vecC (nkK p (formM p n T f) G gi n)), none, some (b7, vecsC 1 (vAtL [(nkK p (formM p n T f) G gi n)])), some (bo, cs0), some (blD, csD), e6_1] D1 at hM
          refine stR hF (d_append (k := 6) (N := gi) (m := 1) (f := (fun c => .int .u8 (((nakV p n (formM p n T f) G) (c / 6) (c % 6) : Nat) : Int))) (g := fun q => .int .u8 (((((nkK p (formM p n T f) G gi n)) q : Nat)) : Int)) ty_si_27 rfl (by decide) hM rfl hF rfl rfl hsl (fun q hq => ((hM.row 3 rfl).cell _).trans (vecs1_get q hq)) (fun _ _ => rfl) (by decide) (by unfold maxLen; omega) (by omega)) rfl ?_
          rintro u8 w' a ⟨e9, hM, hs10⟩ hF
          change Mem w w' [some (b1, algC (p : Int) (n : Int) T f), some (b4, vecC (nkK p (formM p n T f) G gi n)), none, some (b7, vecsC 1 (vAtL [(nkK p (formM p n T f) G gi n)])), some (bo, cs0), some (blD, csD), e9] D1 at hM
          refine st hF (g_assign hF rfl) rfl fun a hF => ?_
          refine wpList_nil ?_
          refine iN ?_
          refine tN ?_
          refine wp_region_lit ?_
          refine st hF (g_add hF rfl rfl (add_nat (gi) (1) (by omega))) rfl fun a hF => st hF (g_move hF rfl) rfl fun a hF => ?_
          refine wpList_nil ?_
          refine tN ?_
          have hM := hM.drop 1
          have hM := hM.drop 3
          refine ⟨gi + 1, ⟨by omega, trivial, (u8), (e9), (Sl.snoc6 (N := gi) (F := (fun c => .int .u8 (((nakV p n (formM p n T f) G) (c / 6) (c % 6) : Nat) : Int))) (G := fun q => .int .u8 ((nkK p (formM p n T f) G gi n q : Nat) : Int)) hs10 (fun q hq => by rw [show (gi * 6 + q) / 6 = gi by omega, show (gi * 6 + q) % 6 = q by omega]; rfl)), hF.sub _ (by repeat' constructor), ?_⟩, by omega⟩
          exact hM
    ·
      obtain rfl : n = gi := by omega
      refine wp_exit ?_
      refine tX ?_
      refine tX ?_
      refine ib_same ?_
      refine tN ?_
      refine sq ?_
      refine wp_region_lit ?_
      refine st hF (g_move hF rfl) rfl fun a hF => st hF (g_assign hF rfl) rfl fun a hF => st hF (g_assign hF rfl) rfl fun a hF => ?_
      refine wpList_nil ?_
      refine tN ?_
      refine wp_ret ?_
      refine fin2 rfl hF.defers (res_tmp hF rfl) (res_tmp hF rfl) ⟨_, rfl, hM.below, ?_⟩
      exact ⟨_, rfl, OwnSl.pos hM (k := 6) rfl hsl hn0⟩

theorem law_NakayamaOfA (p n : Int) (T : Nat → Nat → Nat → Nat) (f : Nat → Nat) (w : World) (hT : ∀ i j k, T i j k ≤ 255) (hf : ∀ i, f i ≤ 255) (hc : ¬ CodeP p n T f 0 (vAtL [])) :
    CallsR Try.prog 3 #[.agg (algC p n T f)] w (fun res _ => res = .bool true) := by
  refine calls_fr [.agg (algC p n T f)] Try.func3 rfl Try.ntmps3 rfl fun a hF => ?_
  have hM : Mem w w [none] [] := MemX.start w 1
  change Fr 66 a [(0, .agg (algC p n T f))] at hF
  refine sq ?_
  refine wp_region_lit ?_
  refine stR hF (d_box 0 hM hF rfl) rfl ?_
  rintro _ w' a ⟨b1, rfl, hM, -⟩ hF
  change Mem w w' [some (b1, algC p n T f)] [] at hM
  refine st hF (g_assign hF rfl) rfl fun a hF => ?_
  refine wpList_nil ?_
  refine tN ?_
  refine sq ?_
  refine wp_region_lit ?_
  refine st hF (g_loadAgg ty_ag_26 hF rfl (hM.row 0 rfl) (by simp only [fnC_size, cells_size, vecC_size, tabC_size, planeC_size, mrk_size] <;> omega) (whole cells_size)) rfl fun a hF => ?_
  refine stR hF (d_call Try.call9 hF (.cons rfl .nil) (toAlgebra_ok p n T f _)) rfl ?_
  rintro _ w' a ⟨hx, rfl⟩ hF
  have hM := hM.ext hx
  refine stR hF (d_call Try.call8 hF (.cons rfl .nil) (NakayamaOfSA p n T f  _ hT hf  hc)) rfl ?_
  rintro _ w' a ⟨hx, rfl⟩ hF
  have hM := hM.ext hx
  refine st hF (g_move hF rfl) rfl fun a hF => st hF (g_extract hF rfl rfl) rfl fun a hF => st hF (g_extract hF rfl rfl) rfl fun a hF => st hF (g_assign hF rfl) rfl fun a hF => st hF (g_assign hF rfl) rfl fun a hF => ?_
  refine wpList_nil ?_
  refine tN ?_
  refine sq ?_
  refine wp_region_lit ?_
  refine st hF (g_loadAgg ty_ag_26 hF rfl (hM.row 0 rfl) (by simp only [fnC_size, cells_size, vecC_size, tabC_size, planeC_size, mrk_size] <;> omega) (whole cells_size)) rfl fun a hF => ?_
  refine stR hF (d_call Try.call9 hF (.cons rfl .nil) (toAlgebra_ok p n T f _)) rfl ?_
  rintro _ w' a ⟨hx, rfl⟩ hF
  have hM := hM.ext hx
  refine stR hF (d_call Try.call10 hF (.cons rfl .nil) (NakayamaOfIA p n T f  _ hT hf  hc)) rfl ?_
  rintro _ w' a ⟨hx, rfl⟩ hF
  have hM := hM.ext hx
  refine st hF (g_move hF rfl) rfl fun a hF => st hF (g_extract hF rfl rfl) rfl fun a hF => st hF (g_extract hF rfl rfl) rfl fun a hF => st hF (g_assign hF rfl) rfl fun a hF => st hF (g_assign hF rfl) rfl fun a hF => ?_
  refine wpList_nil ?_
  refine tN ?_
  refine sq ?_
  refine sq ?_
  refine wp_region_lit ?_
  refine st hF (g_move hF rfl) rfl fun a hF => st hF (g_move hF rfl) rfl fun a hF => ?_
  refine stR hF (d_call Try.call11 hF (.cons rfl (.cons rfl .nil)) (eqVectorS_0 _)) rfl ?_
  rintro _ w' a ⟨hx, rfl⟩ hF
  have hM := hM.ext hx
  refine st hF (g_not hF rfl) rfl fun a hF => st hF (g_move hF rfl) rfl fun a hF => stY hF rfl rfl rfl (g_move hF rfl) rfl fun a hF => stY hF rfl rfl rfl (g_move hF rfl) rfl fun a hF => stY hF rfl rfl rfl (g_neq hF rfl rfl) rfl fun a hF => st hF (g_pickF hF rfl rfl) rfl fun a hF => ?_
  refine wpList_nil ?_
  refine tN ?_
  refine c_kF hF rfl (by decide) ?_
  refine wp_skip ?_
  refine tN ?_
  refine sq ?_
  refine wp_region_lit ?_
  refine st hF (g_assign hF rfl) rfl fun a hF => ?_
  refine wpList_nil ?_
  refine tN ?_
  refine sq ?_
  refine wp_region_lit ?_
  refine st hF (g_move hF rfl) rfl fun a hF => st hF (g_move hF rfl) rfl fun a hF => ?_
  refine stR hF (d_call Try.call12 hF (.cons rfl (.cons rfl .nil)) (markVectorS_0 (1) _ (by omega))) rfl ?_
  rintro _ w' a ⟨hx, rfl⟩ hF
  have hM := hM.ext hx
  refine st hF (g_assign hF rfl) rfl fun a hF => ?_
  refine wpList_nil ?_
  refine tN ?_
  refine sq ?_
  refine wp_region_lit ?_
  refine st hF (g_assign hF rfl) rfl fun a hF => ?_
  refine wpList_nil ?_
  refine tN ?_
  refine sq ?_
  refine wp_region_lit ?_
  refine st hF (g_move hF rfl) rfl fun a hF => st hF (g_move hF rfl) rfl fun a hF => ?_
  refine stR hF (d_call Try.call13 hF (.cons rfl (.cons rfl .nil)) (heldVectorS_0 (1) _ (by omega))) rfl ?_
  rintro _ w' a ⟨hx, rfl⟩ hF
  have hM := hM.ext hx
  refine st hF (g_assign hF rfl) rfl fun a hF => ?_
  refine wpList_nil ?_
  refine tN ?_
  refine sq ?_
  refine sq ?_
  refine wp_region_lit ?_
  refine st hF (g_move hF rfl) rfl fun a hF => st hF (g_lss hF rfl rfl) rfl fun a hF => ?_
  refine wpList_nil ?_
  refine tN ?_
  refine c_cond hF rfl (fun h3 => ?_) (fun h3 => ?_)
  ·
    first | exact absurd rfl h3 | (exfalso; omega)
  ·
    refine wp_skip ?_
    refine tN ?_
    refine sq ?_
    refine sq ?_
    refine wp_region_lit ?_
    refine st hF (g_move hF rfl) rfl fun a hF => st hF (g_move hF rfl) rfl fun a hF => st hF (g_neq hF rfl rfl) rfl fun a hF => ?_
    refine wpList_nil ?_
    refine tN ?_
    refine c_kF hF rfl (by decide) ?_
    refine wp_skip ?_
    refine tN ?_
    refine sq ?_
    refine wp_region_lit ?_
    refine st hF (g_loadAgg ty_ag_26 hF rfl (hM.row 0 rfl) (by simp only [fnC_size, cells_size, vecC_size, tabC_size, planeC_size, mrk_size] <;> omega) (whole cells_size)) rfl fun a hF => ?_
    refine stR hF (d_call Try.call9 hF (.cons rfl .nil) (toAlgebra_ok p n T f _)) rfl ?_
    rintro _ w' a ⟨hx, rfl⟩ hF
    have hM := hM.ext hx
    refine stR hF (d_call Try.call10 hF (.cons rfl .nil) (NakayamaOfIA p n T f  _ hT hf  hc)) rfl ?_
    rintro _ w' a ⟨hx, rfl⟩ hF
    have hM := hM.ext hx
    refine st hF (g_move hF rfl) rfl fun a hF => st hF (g_extract hF rfl rfl) rfl fun a hF => st hF (g_extract hF rfl rfl) rfl fun a hF => st hF (g_assign hF rfl) rfl fun a hF => st hF (g_assign hF rfl) rfl fun a hF => ?_
    refine wpList_nil ?_
    refine tN ?_
    refine sq ?_
    refine sq ?_
    refine wp_region_lit ?_
    refine st hF (g_move hF rfl) rfl fun a hF => st hF (g_move hF rfl) rfl fun a hF => ?_
    refine stR hF (d_call Try.call11 hF (.cons rfl (.cons rfl .nil)) (eqVectorS_0 _)) rfl ?_
    rintro _ w' a ⟨hx, rfl⟩ hF
    have hM := hM.ext hx
    refine st hF (g_not hF rfl) rfl fun a hF => st hF (g_move hF rfl) rfl fun a hF => stY hF rfl rfl rfl (g_move hF rfl) rfl fun a hF => stY hF rfl rfl rfl (g_move hF rfl) rfl fun a hF => stY hF rfl rfl rfl (g_neq hF rfl rfl) rfl fun a hF => st hF (g_pickF hF rfl rfl) rfl fun a hF => ?_
    refine wpList_nil ?_
    refine tN ?_
    refine c_kF hF rfl (by decide) ?_
    refine wp_skip ?_
    refine tN ?_
    refine sq ?_
    refine wp_region_lit ?_
    refine st hF (g_assign hF rfl) rfl fun a hF => ?_
    refine wpList_nil ?_
    refine tN ?_
    refine sq ?_
    refine wp_region_lit ?_
    refine st hF (g_move hF rfl) rfl fun a hF => st hF (g_move hF rfl) rfl fun a hF => ?_
    refine stR hF (d_call Try.call13 hF (.cons rfl (.cons rfl .nil)) (heldVectorS_0 (1) _ (by omega))) rfl ?_
    rintro _ w' a ⟨hx, rfl⟩ hF
    have hM := hM.ext hx
    refine st hF (g_assign hF rfl) rfl fun a hF => ?_
    refine wpList_nil ?_
    refine tN ?_
    refine sq ?_
    refine sq ?_
    refine wp_region_lit ?_
    refine st hF (g_move hF rfl) rfl fun a hF => st hF (g_lss hF rfl rfl) rfl fun a hF => ?_
    refine wpList_nil ?_
    refine tN ?_
    refine c_kF hF rfl h3 ?_
    refine wp_skip ?_
    refine tN ?_
    refine sq ?_
    refine sq ?_
    refine wp_region_lit ?_
    refine st hF (g_move hF rfl) rfl fun a hF => st hF (g_move hF rfl) rfl fun a hF => st hF (g_neq hF rfl rfl) rfl fun a hF => ?_
    refine wpList_nil ?_
    refine tN ?_
    refine c_kF hF rfl (by decide) ?_
    refine wp_skip ?_
    refine tN ?_
    refine sq ?_
    refine wp_region_lit ?_
    refine st hF (g_assign hF rfl) rfl fun a hF => ?_
    refine wpList_nil ?_
    refine tN ?_
    refine wp_ret ?_
    refine fin1 rfl hF.defers (res_tmp hF rfl) ⟨_, rfl, hM.below, ?_⟩
    show _ = _
    rfl

theorem law_NakayamaOfF (p n : Nat) (T : Nat → Nat → Nat → Nat) (f : Nat → Nat) (w : World) (hp : primeN p) (hn0 : 0 < n) (hn : n ≤ 6) (hTp : ∀ i j k, T i j k < p) (hT0 : ∀ i j k, n ≤ k → T i j k = 0) (hf : ∀ i, f i ≤ 255) (hfr : ¬ FrobN p n T f) (hc : CodeP (p : Int) (n : Int) T f 0 (vAtL [])) :
    CallsR Try.prog 3 #[.agg (algC (p : Int) (n : Int) T f)] w (fun res _ => res = .bool true) := by
  refine calls_fr [.agg (algC (p : Int) (n : Int) T f)] Try.func3 rfl Try.ntmps3 rfl fun a hF => ?_
  have hM : Mem w w [none] [] := MemX.start w 1
  change Fr 66 a [(0, .agg (algC (p : Int) (n : Int) T f))] at hF
  have hp2 := hp.two
  have hp13 := hp.le
  have hT : ∀ i j k, T i j k ≤ 255 := fun i j k => by have := hTp i j k; omega
  refine sq ?_
  refine wp_region_lit ?_
  refine stR hF (d_box 0 hM hF rfl) rfl ?_
  rintro _ w' a ⟨b1, rfl, hM, -⟩ hF
  change Mem w w' [some (b1, algC (p : Int) (n : Int) T f)] [] at hM
  refine st hF (g_assign hF rfl) rfl fun a hF => ?_
  refine wpList_nil ?_
  refine tN ?_
  refine sq ?_
  refine wp_region_lit ?_
  refine st hF (g_loadAgg ty_ag_26 hF rfl (hM.row 0 rfl) (by simp only [fnC_size, cells_size, vecC_size, tabC_size, planeC_size, mrk_size] <;> omega) (whole cells_size)) rfl fun a hF => ?_
  refine stR hF (d_call Try.call9 hF (.cons rfl .nil) (toAlgebra_ok (p : Int) (n : Int) T f _)) rfl ?_
  rintro _ w' a ⟨hx, rfl⟩ hF
  have hM := hM.ext hx
  refine stR hF (d_call Try.call8 hF (.cons rfl .nil) (NakayamaOfSF p n T f  _ hp hn0 hn hTp hT0 hf  hfr hc)) rfl ?_
  rintro _ w' a ⟨hx, rfl⟩ hF
  have hM := hM.ext hx
  refine st hF (g_move hF rfl) rfl fun a hF => st hF (g_extract hF rfl rfl) rfl fun a hF => st hF (g_extract hF rfl rfl) rfl fun a hF => st hF (g_assign hF rfl) rfl fun a hF => st hF (g_assign hF rfl) rfl fun a hF => ?_
  refine wpList_nil ?_
  refine tN ?_
  refine sq ?_
  refine wp_region_lit ?_
  refine st hF (g_loadAgg ty_ag_26 hF rfl (hM.row 0 rfl) (by simp only [fnC_size, cells_size, vecC_size, tabC_size, planeC_size, mrk_size] <;> omega) (whole cells_size)) rfl fun a hF => ?_
  refine stR hF (d_call Try.call9 hF (.cons rfl .nil) (toAlgebra_ok (p : Int) (n : Int) T f _)) rfl ?_
  rintro _ w' a ⟨hx, rfl⟩ hF
  have hM := hM.ext hx
  refine stR hF (d_call Try.call10 hF (.cons rfl .nil) (NakayamaOfIF p n T f  _ hp hn0 hn hTp hT0 hf  hfr hc)) rfl ?_
  rintro _ w' a ⟨hx, rfl⟩ hF
  have hM := hM.ext hx
  refine st hF (g_move hF rfl) rfl fun a hF => st hF (g_extract hF rfl rfl) rfl fun a hF => st hF (g_extract hF rfl rfl) rfl fun a hF => st hF (g_assign hF rfl) rfl fun a hF => st hF (g_assign hF rfl) rfl fun a hF => ?_
  refine wpList_nil ?_
  refine tN ?_
  refine sq ?_
  refine sq ?_
  refine wp_region_lit ?_
  refine st hF (g_move hF rfl) rfl fun a hF => st hF (g_move hF rfl) rfl fun a hF => ?_
  refine stR hF (d_call Try.call11 hF (.cons rfl (.cons rfl .nil)) (eqVectorS_0 _)) rfl ?_
  rintro _ w' a ⟨hx, rfl⟩ hF
  have hM := hM.ext hx
  refine st hF (g_not hF rfl) rfl fun a hF => st hF (g_move hF rfl) rfl fun a hF => stY hF rfl rfl rfl (g_move hF rfl) rfl fun a hF => stY hF rfl rfl rfl (g_move hF rfl) rfl fun a hF => stY hF rfl rfl rfl (g_neq hF rfl rfl) rfl fun a hF => st hF (g_pickF hF rfl rfl) rfl fun a hF => ?_
  refine wpList_nil ?_
  refine tN ?_
  refine c_kF hF rfl (by decide) ?_
  refine wp_skip ?_
  refine tN ?_
  refine sq ?_
  refine wp_region_lit ?_
  refine st hF (g_assign hF rfl) rfl fun a hF => ?_
  refine wpList_nil ?_
  refine tN ?_
  refine sq ?_
  refine wp_region_lit ?_
  refine st hF (g_move hF rfl) rfl fun a hF => st hF (g_move hF rfl) rfl fun a hF => ?_
  refine stR hF (d_call Try.call12 hF (.cons rfl (.cons rfl .nil)) (markVectorS_0 (1) _ (by omega))) rfl ?_
  rintro _ w' a ⟨hx, rfl⟩ hF
  have hM := hM.ext hx
  refine st hF (g_assign hF rfl) rfl fun a hF => ?_
  refine wpList_nil ?_
  refine tN ?_
  refine sq ?_
  refine wp_region_lit ?_
  refine st hF (g_assign hF rfl) rfl fun a hF => ?_
  refine wpList_nil ?_
  refine tN ?_
  refine sq ?_
  refine wp_region_lit ?_
  refine st hF (g_move hF rfl) rfl fun a hF => st hF (g_move hF rfl) rfl fun a hF => ?_
  refine stR hF (d_call Try.call13 hF (.cons rfl (.cons rfl .nil)) (heldVectorS_0 (1) _ (by omega))) rfl ?_
  rintro _ w' a ⟨hx, rfl⟩ hF
  have hM := hM.ext hx
  refine st hF (g_assign hF rfl) rfl fun a hF => ?_
  refine wpList_nil ?_
  refine tN ?_
  refine sq ?_
  refine sq ?_
  refine wp_region_lit ?_
  refine st hF (g_move hF rfl) rfl fun a hF => st hF (g_lss hF rfl rfl) rfl fun a hF => ?_
  refine wpList_nil ?_
  refine tN ?_
  refine c_cond hF rfl (fun h3 => ?_) (fun h3 => ?_)
  ·
    first | exact absurd rfl h3 | (exfalso; omega)
  ·
    refine wp_skip ?_
    refine tN ?_
    refine sq ?_
    refine sq ?_
    refine wp_region_lit ?_
    refine st hF (g_move hF rfl) rfl fun a hF => st hF (g_move hF rfl) rfl fun a hF => st hF (g_neq hF rfl rfl) rfl fun a hF => ?_
    refine wpList_nil ?_
    refine tN ?_
    refine c_kF hF rfl (by decide) ?_
    refine wp_skip ?_
    refine tN ?_
    refine sq ?_
    refine wp_region_lit ?_
    refine st hF (g_loadAgg ty_ag_26 hF rfl (hM.row 0 rfl) (by simp only [fnC_size, cells_size, vecC_size, tabC_size, planeC_size, mrk_size] <;> omega) (whole cells_size)) rfl fun a hF => ?_
    refine stR hF (d_call Try.call9 hF (.cons rfl .nil) (toAlgebra_ok (p : Int) (n : Int) T f _)) rfl ?_
    rintro _ w' a ⟨hx, rfl⟩ hF
    have hM := hM.ext hx
    refine stR hF (d_call Try.call10 hF (.cons rfl .nil) (NakayamaOfIF p n T f  _ hp hn0 hn hTp hT0 hf  hfr hc)) rfl ?_
    rintro _ w' a ⟨hx, rfl⟩ hF
    have hM := hM.ext hx
    refine st hF (g_move hF rfl) rfl fun a hF => st hF (g_extract hF rfl rfl) rfl fun a hF => st hF (g_extract hF rfl rfl) rfl fun a hF => st hF (g_assign hF rfl) rfl fun a hF => st hF (g_assign hF rfl) rfl fun a hF => ?_
    refine wpList_nil ?_
    refine tN ?_
    refine sq ?_
    refine sq ?_
    refine wp_region_lit ?_
    refine st hF (g_move hF rfl) rfl fun a hF => st hF (g_move hF rfl) rfl fun a hF => ?_
    refine stR hF (d_call Try.call11 hF (.cons rfl (.cons rfl .nil)) (eqVectorS_0 _)) rfl ?_
    rintro _ w' a ⟨hx, rfl⟩ hF
    have hM := hM.ext hx
    refine st hF (g_not hF rfl) rfl fun a hF => st hF (g_move hF rfl) rfl fun a hF => stY hF rfl rfl rfl (g_move hF rfl) rfl fun a hF => stY hF rfl rfl rfl (g_move hF rfl) rfl fun a hF => stY hF rfl rfl rfl (g_neq hF rfl rfl) rfl fun a hF => st hF (g_pickF hF rfl rfl) rfl fun a hF => ?_
    refine wpList_nil ?_
    refine tN ?_
    refine c_kF hF rfl (by decide) ?_
    refine wp_skip ?_
    refine tN ?_
    refine sq ?_
    refine wp_region_lit ?_
    refine st hF (g_assign hF rfl) rfl fun a hF => ?_
    refine wpList_nil ?_
    refine tN ?_
    refine sq ?_
    refine wp_region_lit ?_
    refine st hF (g_move hF rfl) rfl fun a hF => st hF (g_move hF rfl) rfl fun a hF => ?_
    refine stR hF (d_call Try.call13 hF (.cons rfl (.cons rfl .nil)) (heldVectorS_0 (1) _ (by omega))) rfl ?_
    rintro _ w' a ⟨hx, rfl⟩ hF
    have hM := hM.ext hx
    refine st hF (g_assign hF rfl) rfl fun a hF => ?_
    refine wpList_nil ?_
    refine tN ?_
    refine sq ?_
    refine sq ?_
    refine wp_region_lit ?_
    refine st hF (g_move hF rfl) rfl fun a hF => st hF (g_lss hF rfl rfl) rfl fun a hF => ?_
    refine wpList_nil ?_
    refine tN ?_
    refine c_kF hF rfl h3 ?_
    refine wp_skip ?_
    refine tN ?_
    refine sq ?_
    refine sq ?_
    refine wp_region_lit ?_
    refine st hF (g_move hF rfl) rfl fun a hF => st hF (g_move hF rfl) rfl fun a hF => st hF (g_neq hF rfl rfl) rfl fun a hF => ?_
    refine wpList_nil ?_
    refine tN ?_
    refine c_kF hF rfl (by decide) ?_
    refine wp_skip ?_
    refine tN ?_
    refine sq ?_
    refine wp_region_lit ?_
    refine st hF (g_assign hF rfl) rfl fun a hF => ?_
    refine wpList_nil ?_
    refine tN ?_
    refine wp_ret ?_
    refine fin1 rfl hF.defers (res_tmp hF rfl) ⟨_, rfl, hM.below, ?_⟩
    show _ = _
    rfl

theorem law_NakayamaOfY (p n : Nat) (T : Nat → Nat → Nat → Nat) (f : Nat → Nat) (w : World) (hp : primeN p) (hn0 : 0 < n) (hn : n ≤ 6) (hTp : ∀ i j k, T i j k < p) (hT0 : ∀ i j k, n ≤ k → T i j k = 0) (hf : ∀ i, f i ≤ 255) (hfr : FrobN p n T f) (G : Nat → Nat → Nat) (hG : IsCop p n (formM p n T f) G) (hc : CodeP (p : Int) (n : Int) T f 0 (vAtL [])) :
    CallsR Try.prog 3 #[.agg (algC (p : Int) (n : Int) T f)] w (fun res _ => res = .bool true) := by
  refine calls_fr [.agg (algC (p : Int) (n : Int) T f)] Try.func3 rfl Try.ntmps3 rfl fun a hF => ?_
  have hM : Mem w w [none, none, none, none] [] := MemX.start w 4
  change Fr 66 a [(0, .agg (algC (p : Int) (n : Int) T f))] at hF
  have hp2 := hp.two
  have hp13 := hp.le
  have hT : ∀ i j k, T i j k ≤ 255 := fun i j k => by have := hTp i j k; omega
  have hGp := hG.lt
  have hvf : ∀ i c, (nakV p n (formM p n T f) G) i c ≤ 255 := fun i c => by have := hGp c i; have := hGp i c; have e : (nakV p n (formM p n T f) G) i c = (nakV p n (formM p n T f) G) i c := rfl; first | (show G c i ≤ 255; omega) | (show G i c ≤ 255; omega) | omega | exact Nat.le_trans (Nat.le_of_lt (nkK_lt (by omega))) (by omega)
  refine sq ?_
  refine wp_region_lit ?_
  refine stR hF (d_box 0 hM hF rfl) rfl ?_
  rintro _ w' a ⟨b1, rfl, hM, -⟩ hF
  change Mem w w' [some (b1, algC (p : Int) (n : Int) T f), none, none, none] [] at hM
  refine st hF (g_assign hF rfl) rfl fun a hF => ?_
  refine wpList_nil ?_
  refine tN ?_
  refine sq ?_
  refine wp_region_lit ?_
  refine st hF (g_loadAgg ty_ag_26 hF rfl (hM.row 0 rfl) (by simp only [fnC_size, cells_size, vecC_size, tabC_size, planeC_size, mrk_size] <;> omega) (whole cells_size)) rfl fun a hF => ?_
  refine stR hF (d_call Try.call9 hF (.cons rfl .nil) (toAlgebra_ok (p : Int) (n : Int) T f _)) rfl ?_
  rintro _ w' a ⟨hx, rfl⟩ hF
  have hM := hM.ext hx
  refine stR hF (d_call Try.call8 hF (.cons rfl .nil) (NakayamaOfSY p n T f  _ hp hn0 hn hTp hT0 hf  hfr G hG hc)) rfl ?_
  rintro u w' a ⟨hx, ul, rfl, blW, clW, csW, hlW, hgl, hbl⟩ hF
  obtain rfl := hlW.val
  have hM := hM.fill hx 1 hbl hgl
  change Mem w w' [some (b1, algC (p : Int) (n : Int) T f), some (blW, csW), none, none] [] at hM
  refine st hF (g_move hF rfl) rfl fun a hF => st hF (g_extract hF rfl rfl) rfl fun a hF => st hF (g_extract hF rfl rfl) rfl fun a hF => st hF (g_assign hF rfl) rfl fun a hF => st hF (g_assign hF rfl) rfl fun a hF => ?_
  refine wpList_nil ?_
  refine tN ?_
  refine sq ?_
  refine wp_region_lit ?_
  refine st hF (g_loadAgg ty_ag_26 hF rfl (hM.row 0 rfl) (by simp only [fnC_size, cells_size, vecC_size, tabC_size, planeC_size, mrk_size] <;> omega) (whole cells_size)) rfl fun a hF => ?_
  refine stR hF (d_call Try.call9 hF (.cons rfl .nil) (toAlgebra_ok (p : Int) (n : Int) T f _)) rfl ?_
  rintro _ w' a ⟨hx, rfl⟩ hF
  have hM := hM.ext hx
  refine stR hF (d_call Try.call10 hF (.cons rfl .nil) (NakayamaOfIY p n T f  _ hp hn0 hn hTp hT0 hf  hfr G hG hc)) rfl ?_
  rintro u w' a ⟨hx, ul, rfl, blG, clG, csG, hlG, hgl, hbl⟩ hF
  obtain rfl := hlG.val
  have hM := hM.fill hx 2 hbl hgl
  change Mem w w' [some (b1, algC (p : Int) (n : Int) T f), some (blW, csW), some (blG, csG), none] [] at hM
  refine st hF (g_move hF rfl) rfl fun a hF => st hF (g_extract hF rfl rfl) rfl fun a hF => st hF (g_extract hF rfl rfl) rfl fun a hF => st hF (g_assign hF rfl) rfl fun a hF => st hF (g_assign hF rfl) rfl fun a hF => ?_
  refine wpList_nil ?_
  refine tN ?_
  refine sq ?_
  refine sq ?_
  refine wp_region_lit ?_
  refine st hF (g_move hF rfl) rfl fun a hF => st hF (g_move hF rfl) rfl fun a hF => ?_
  refine stR hF (d_call Try.call11 hF (.cons rfl (.cons rfl .nil)) (eqVectorS_ok blG clG blW clW n csG csW _ _ _ _ (nakV p n (formM p n T f) G) (nakV p n (formM p n T f) G) _ (by omega) hlG (hM.row 2 rfl) hlW (hM.row 1 rfl) hvf hvf (fun _ _ _ _ => rfl))) rfl ?_
  rintro _ w' a ⟨hx, rfl⟩ hF
  have hM := hM.ext hx
  refine st hF (g_not hF rfl) rfl fun a hF => st hF (g_move hF rfl) rfl fun a hF => stY hF rfl rfl rfl (g_move hF rfl) rfl fun a hF => stY hF rfl rfl rfl (g_move hF rfl) rfl fun a hF => stY hF rfl rfl rfl (g_neq hF rfl rfl) rfl fun a hF => st hF (g_pickF hF rfl rfl) rfl fun a hF => ?_
  refine wpList_nil ?_
  refine tN ?_
  refine c_kF hF rfl (by decide) ?_
  refine wp_skip ?_
  refine tN ?_
  refine sq ?_
  refine wp_region_lit ?_
  refine st hF (g_assign hF rfl) rfl fun a hF => ?_
  refine wpList_nil ?_
  refine tN ?_
  refine sq ?_
  refine wp_region_lit ?_
  refine st hF (g_move hF rfl) rfl fun a hF => st hF (g_move hF rfl) rfl fun a hF => ?_
  obtain ⟨Zq, xq, hmk, hZq⟩ : ∃ (Z : Nat) (xs : Nat → Value), csG = mrk Z (1) 0 xs ∧ n * 6 ≤ Z := ⟨_, _, mrk_self csG, by have := hlG.sz; have := hlG.le; omega⟩
  have hM := hM.rowc (cs' := mrk Zq (1) 0 xq) 2 rfl hmk
  refine stR hF (d_callX Try.call12 hF (.cons rfl (.cons rfl .nil)) (markVectorS_ok blG clG n (1) Zq xq _ (by omega) (by omega) hZq (hM.row 2 rfl))) rfl ?_
  rintro _ w' a ⟨hx, rfl, hbk⟩ hF
  have hM := hM.upd 2 rfl hx hbk
  change Mem w w' [some (b1, algC (p : Int) (n : Int) T f), some (blW, csW), some (blG, mrk Zq (1) (n * 6) xq), none] [] at hM
  refine st hF (g_assign hF rfl) rfl fun a hF => ?_
  refine wpList_nil ?_
  refine tN ?_
  refine sq ?_
  refine wp_region_lit ?_
  refine st hF (g_assign hF rfl) rfl fun a hF => ?_
  refine wpList_nil ?_
  refine tN ?_
  refine sq ?_
  refine wp_region_lit ?_
  refine st hF (g_move hF rfl) rfl fun a hF => st hF (g_move hF rfl) rfl fun a hF => ?_
  refine stR hF (d_callX Try.call13 hF (.cons rfl (.cons rfl .nil)) (heldVectorS_ok blG clG n (1) Zq xq _ (by omega) (by omega) hZq (hM.row 2 rfl))) rfl ?_
  rintro _ w' a ⟨hx, rfl, hbk⟩ hF
  have hM := hM.upd 2 rfl hx hbk
  change Mem w w' [some (b1, algC (p : Int) (n : Int) T f), some (blW, csW), some (blG, mrk Zq (1) (n * 6) xq), none] [] at hM
  refine st hF (g_assign hF rfl) rfl fun a hF => ?_
  refine wpList_nil ?_
  refine tN ?_
  refine sq ?_
  refine sq ?_
  refine wp_region_lit ?_
  refine st hF (g_move hF rfl) rfl fun a hF => st hF (g_lss hF rfl rfl) rfl fun a hF => ?_
  refine wpList_nil ?_
  refine tN ?_
  refine c_cond hF rfl (fun h3 => ?_) (fun h3 => ?_)
  ·
    first | exact absurd rfl h3 | (exfalso; omega)
  ·
    refine wp_skip ?_
    refine tN ?_
    refine sq ?_
    refine sq ?_
    refine wp_region_lit ?_
    refine st hF (g_move hF rfl) rfl fun a hF => st hF (g_move hF rfl) rfl fun a hF => st hF (g_neq hF rfl rfl) rfl fun a hF => ?_
    refine wpList_nil ?_
    refine tN ?_
    refine c_cond hF rfl (fun h4 => ?_) (fun h4 => ?_)
    ·
      first | exact absurd rfl h4 | (exfalso; omega)
    ·
      refine wp_skip ?_
      refine tN ?_
      refine sq ?_
      refine wp_region_lit ?_
      refine st hF (g_loadAgg ty_ag_26 hF rfl (hM.row 0 rfl) (by simp only [fnC_size, cells_size, vecC_size, tabC_size, planeC_size, mrk_size] <;> omega) (whole cells_size)) rfl fun a hF => ?_
      refine stR hF (d_call Try.call9 hF (.cons rfl .nil) (toAlgebra_ok (p : Int) (n : Int) T f _)) rfl ?_
      rintro _ w' a ⟨hx, rfl⟩ hF
      have hM := hM.ext hx
      refine stR hF (d_call Try.call10 hF (.cons rfl .nil) (NakayamaOfIY p n T f  _ hp hn0 hn hTp hT0 hf  hfr G hG hc)) rfl ?_
      rintro u w' a ⟨hx, ul, rfl, blH, clH, csH, hlH, hgl, hbl⟩ hF
      obtain rfl := hlH.val
      have hM := hM.fill hx 3 hbl hgl
      change Mem w w' [some (b1, algC (p : Int) (n : Int) T f), some (blW, csW), some (blG, mrk Zq (1) (n * 6) xq), some (blH, csH)] [] at hM
      refine st hF (g_move hF rfl) rfl fun a hF => st hF (g_extract hF rfl rfl) rfl fun a hF => st hF (g_extract hF rfl rfl) rfl fun a hF => st hF (g_assign hF rfl) rfl fun a hF => st hF (g_assign hF rfl) rfl fun a hF => ?_
      refine wpList_nil ?_
      refine tN ?_
      refine sq ?_
      refine sq ?_
      refine wp_region_lit ?_
      refine st hF (g_move hF rfl) rfl fun a hF => st hF (g_move hF rfl) rfl fun a hF => ?_
      refine stR hF (d_call Try.call11 hF (.cons rfl (.cons rfl .nil)) (eqVectorS_ok blH clH blW clW n csH csW _ _ _ _ (nakV p n (formM p n T f) G) (nakV p n (formM p n T f) G) _ (by omega) hlH (hM.row 3 rfl) hlW (hM.row 1 rfl) hvf hvf (fun _ _ _ _ => rfl))) rfl ?_
      rintro _ w' a ⟨hx, rfl⟩ hF
      have hM := hM.ext hx
      refine st hF (g_not hF rfl) rfl fun a hF => st hF (g_move hF rfl) rfl fun a hF => stY hF rfl rfl rfl (g_move hF rfl) rfl fun a hF => stY hF rfl rfl rfl (g_move hF rfl) rfl fun a hF => stY hF rfl rfl rfl (g_neq hF rfl rfl) rfl fun a hF => st hF (g_pickF hF rfl rfl) rfl fun a hF => ?_
      refine wpList_nil ?_
      refine tN ?_
      refine c_kF hF rfl (by decide) ?_
      refine wp_skip ?_
      refine tN ?_
      refine sq ?_
      refine wp_region_lit ?_
      refine st hF (g_assign hF rfl) rfl fun a hF => ?_
      refine wpList_nil ?_
      refine tN ?_
      refine sq ?_
      refine wp_region_lit ?_
      refine st hF (g_move hF rfl) rfl fun a hF => st hF (g_move hF rfl) rfl fun a hF => ?_
      refine stR hF (d_callX Try.call13 hF (.cons rfl (.cons rfl .nil)) (heldVectorS_ok blG clG n (1) Zq xq _ (by omega) (by omega) hZq (hM.row 2 rfl))) rfl ?_
      rintro _ w' a ⟨hx, rfl, hbk⟩ hF
      have hM := hM.upd 2 rfl hx hbk
      change Mem w w' [some (b1, algC (p : Int) (n : Int) T f), some (blW, csW), some (blG, mrk Zq (1) (n * 6) xq), some (blH, csH)] [] at hM
      refine st hF (g_assign hF rfl) rfl fun a hF => ?_
      refine wpList_nil ?_
      refine tN ?_
      refine sq ?_
      refine sq ?_
      refine wp_region_lit ?_
      refine st hF (g_move hF rfl) rfl fun a hF => st hF (g_lss hF rfl rfl) rfl fun a hF => ?_
      refine wpList_nil ?_
      refine tN ?_
      refine c_kF hF rfl h3 ?_
      refine wp_skip ?_
      refine tN ?_
      refine sq ?_
      refine sq ?_
      refine wp_region_lit ?_
      refine st hF (g_move hF rfl) rfl fun a hF => st hF (g_move hF rfl) rfl fun a hF => st hF (g_neq hF rfl rfl) rfl fun a hF => ?_
      refine wpList_nil ?_
      refine tN ?_
      refine c_kF hF rfl h4 ?_
      refine wp_skip ?_
      refine tN ?_
      refine sq ?_
      refine wp_region_lit ?_
      refine st hF (g_assign hF rfl) rfl fun a hF => ?_
      refine wpList_nil ?_
      refine tN ?_
      refine wp_ret ?_
      refine fin1 rfl hF.defers (res_tmp hF rfl) ⟨_, rfl, hM.below, ?_⟩
      show _ = _
      rfl

theorem law_NakayamaOf (p n : Int) (T : Nat → Nat → Nat → Nat) (f : Nat → Nat) (w : World) (hT : ∀ i j k, T i j k ≤ 255) (hf : ∀ i, f i ≤ 255) : CallsV Try.prog 3 #[.agg (algC p n T f)] w (.bool true) := by
  by_cases hc : CodeP p n T f 0 (vAtL [])
  · have hs := hc.1.1
    have hp0 := primeP_pos hs.1
    have hn := hs.2.1
    have e1 : ((p.toNat : Nat) : Int) = p := by omega
    have e2 : ((n.toNat : Nat) : Int) = n := by omega
    have has := hc.1.2.1
    obtain ⟨uu, huu⟩ := hc.1.2.2
    have hc2 : CodeP ((p.toNat : Nat) : Int) ((n.toNat : Nat) : Int) (trunc n.toNat T) f 0 (vAtL []) := by rw [e1, e2]; exact code_trunc hc
    by_cases hfr : FrobN p.toNat n.toNat (trunc n.toNat T) f
    · obtain ⟨G, hG⟩ := cop_exists (F := formM p.toNat n.toNat (trunc n.toNat T) f) (primeN_of hs.1) (by omega) (by omega) (fun i c h => formM_out h) (formM_lt (by omega)) hfr
      have h := law_NakayamaOfY p.toNat n.toNat (trunc n.toNat T) f  w (primeN_of hs.1) (by omega) (by omega) (trunc_lt hs) trunc_out hf  hfr G hG hc2
      rw [e1, e2, ← algC_trunc hs] at h
      exact h
    · have h := law_NakayamaOfF p.toNat n.toNat (trunc n.toNat T) f  w (primeN_of hs.1) (by omega) (by omega) (trunc_lt hs) trunc_out hf  hfr hc2
      rw [e1, e2, ← algC_trunc hs] at h
      exact h
  · exact law_NakayamaOfA p n T f w hT hf hc

end Go.Proofs.Ytfbhngnfhpjonaa
