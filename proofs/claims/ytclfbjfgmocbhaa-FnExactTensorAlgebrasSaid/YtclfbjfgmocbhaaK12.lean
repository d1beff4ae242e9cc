/- What functions of the program return, as walks over their operations; no statement of the seat is proved here. -/
import Derived.Test.YtclfbjfgmocbhaaK10
set_option linter.unusedVariables false
set_option linter.unusedSimpArgs false
namespace Go.Proofs.Ytclfbjfgmocbhaa
open Go Go.RowKit Go.Sw Go.Ech
open Classical
theorem findInverse_ok (p n : Nat) (T : Nat → Nat → Nat → Nat) (f v : Nat → Nat) (w : World) (hp : primeN p) (hn0 : 0 < n) (hn : n ≤ 6) (hTp : ∀ i j k, T i j k < p) (hT0 : ∀ i j k, n ≤ k → T i j k = 0) (hv : ∀ i, v i ≤ 255) (uu : Nat → Nat) (huu : UnitI p n T uu) :
    CallsR Try.prog 86 #[.agg (algC (p : Int) (n : Int) T f), .agg (vecC v)] w (fun res _ => ∃ x b, res = .tuple #[.agg (vecC x), .bool b] ∧ ((b = true ∧ InvI p n T uu v x) ∨ (b = false ∧ ∀ z, ¬ InvI p n T uu v z))) := by
  refine calls_fr [.agg (algC (p : Int) (n : Int) T f), .agg (vecC v)] Try.func86 rfl Try.ntmps86 rfl fun a hF => ?_
  have hM : Mem w w [none, none, none, none] [] := MemX.start w 4
  change Fr 22 a [(0, .agg (algC (p : Int) (n : Int) T f)), (1, .agg (vecC v))] at hF
  have hp2 := hp.two
  have hp13 := hp.le
  have hT : ∀ i j k, T i j k ≤ 255 := fun i j k => by have := hTp i j k; omega
  refine sq ?_
  refine wp_region_lit ?_
  refine stR hF (d_box 0 hM hF rfl) rfl ?_
  rintro _ w' a ⟨b1, rfl, hM, -⟩ hF
  change Mem w w' [some (b1, algC (p : Int) (n : Int) T f), none, none, none] [] at hM
  refine stR hF (d_box 1 hM hF rfl) rfl ?_
  rintro _ w' a ⟨b2, rfl, hM, -⟩ hF
  change Mem w w' [some (b1, algC (p : Int) (n : Int) T f), some (b2, vecC v), none, none] [] at hM
  refine stR hF (d_alloc 2 hM ty_ze_30) rfl ?_
  rintro _ w' a ⟨b3, rfl, hM, -⟩ hF
  change Mem w w' [some (b1, algC (p : Int) (n : Int) T f), some (b2, vecC v), some (b3, fnC 6 (fun _ => .int .u8 (0))), none] [] at hM
  refine st hF (g_assign hF rfl) rfl fun a hF => ?_
  refine wpList_nil ?_
  refine tN ?_
  refine sq ?_
  refine wp_region_lit ?_
  refine st hF (g_loadAgg ty_ag_32 hF rfl (hM.row 0 rfl) (by simp only [fnC_size, cells_size, vecC_size, tabC_size, planeC_size] <;> omega) (whole cells_size)) rfl fun a hF => ?_
  refine stR hF (d_call Try.call105 hF (.cons rfl .nil) (findUnit_u p n T f uu _ hp hn0 hn hTp huu)) rfl ?_
  rintro _ w' a ⟨hx, rfl⟩ hF
  have hM := hM.ext hx
  ·
    refine st hF (g_move hF rfl) rfl fun a hF => st hF (g_extract hF rfl rfl) rfl fun a hF => st hF (g_extract hF rfl rfl) rfl fun a hF => ?_
    refine stR hF (d_alloc 3 hM ty_ze_30) rfl ?_
    rintro _ w' a ⟨b4, rfl, hM, -⟩ hF
    change Mem w w' [some (b1, algC (p : Int) (n : Int) T f), some (b2, vecC v), some (b3, fnC 6 (fun _ => .int .u8 (0))), some (b4, fnC 6 (fun _ => .int .u8 (0)))] [] at hM
    refine stN hF (d_storeAgg 3 hM rfl ty_sz_30 hF rfl rfl (by first | exact vecC_one | exact cells_one | (refine fnC_one fun _ _ => ?_; first | rfl | (split <;> rfl))) (by simp only [fnC_size, cells_size, vecC_size, tabC_size, planeC_size]) (by simp only [fnC_size, cells_size, vecC_size, tabC_size, planeC_size] <;> omega) (splice_whole _ _ (by simp only [fnC_size, cells_size, vecC_size, tabC_size, planeC_size]))) ?_
    intro _ w' a hM hF
    change Mem w w' [some (b1, algC (p : Int) (n : Int) T f), some (b2, vecC v), some (b3, fnC 6 (fun _ => .int .u8 (0))), some (b4, vecC uu)] [] at hM
    refine st hF (g_assign hF rfl) rfl fun a hF => ?_
    refine wpList_nil ?_
    refine tN ?_
    refine sq ?_
    refine c_drawH (S := fun (bb : Bool) (g : Option (Bool × (Nat → Nat))) w2 => bb = g.isSome ∧ MemX [] w w2 [some (b1, algC (p : Int) (n : Int) T f), some (b2, vecC v), some (b3, fnC 6 (fun _ => .int .u8 (0))), some (b4, vecC uu)] [] ∧ ∀ q, g = some q → ((q.1 = true ∧ InvI p n T uu v q.2) ∨ (q.1 = false ∧ ∀ z, ¬ InvI p n T uu v z))) 9 6 hmix rfl rfl rfl hF rfl (dstEvery_spec rfl) none ⟨rfl, hM, fun k e => by cases e⟩ (fun bb g w h => ⟨h.1, h.2.1.ext (Below.drew (Below.refl _ _)), h.2.2⟩) (fun i (g : Option (Bool × (Nat → Nat))) u w2 => match i with | 0 => u = .agg (algC (p : Int) (n : Int) T f) | 1 => u = .agg (vecC v) | 2 => u = .agg (vecC uu) | 3 => g = none → BytesFr w [some (b1, algC (p : Int) (n : Int) T f), some (b2, vecC v), some (b3, fnC 6 (fun _ => .int .u8 (0))), some (b4, vecC uu)] 7 (2 * n) (eqG p n T v uu n) u w2 | 4 => u = ptr b1 (0 + 0) | 5 => u = .int .i64 (((p : Nat) : Int)) | 6 => ∃ q, g = some q ∧ u = .tuple #[.agg (vecC q.2), .bool q.1] | 7 => ∃ q, g = some q ∧ u = .agg (vecC q.2) | 8 => ∃ q, g = some q ∧ u = .bool q.1 | _ => True) ⟨fun a w2 bb g hF hS hb hd => by have hM := hS.2.1; exact ph_val hS rfl (g_loadAgg ty_ag_32 hF rfl (hM.row 0 rfl) (by simp only [fnC_size, cells_size, vecC_size, tabC_size, planeC_size] <;> omega) (whole cells_size)), fun a w2 bb g hF hS hb hd => by have hM := hS.2.1; exact ph_val hS rfl (g_loadAgg ty_ag_30 hF rfl (hM.row 1 rfl) (by simp only [fnC_size, cells_size, vecC_size, tabC_size, planeC_size] <;> omega) (whole (by simp only [fnC_size, cells_size, vecC_size, tabC_size, planeC_size]))), fun a w2 bb g hF hS hb hd => by have hM := hS.2.1; exact ph_val hS rfl (g_loadAgg ty_ag_30 hF rfl (hM.row 3 rfl) (by simp only [fnC_size, cells_size, vecC_size, tabC_size, planeC_size] <;> omega) (whole (by simp only [fnC_size, cells_size, vecC_size, tabC_size, planeC_size]))), fun a w2 bb g hF hS hb hd => by have hF := hF.ext1 13 (hd 0 rfl rfl); have hF := hF.ext1 14 (hd 1 rfl rfl); have hF := hF.ext1 15 (hd 2 rfl rfl); exact (d_call Try.call119 hF (.cons rfl (.cons rfl (.cons rfl .nil))) (equationsFor_ok p n T f v uu _ (by omega) (by omega) (by omega) (by omega) hT hv (fun i => by have := huu.small i; omega))).mono fun u w3 ⟨hx, hr⟩ => ⟨g, ⟨hS.1, hS.2.1.ext hx, hS.2.2⟩, fun _ => hr.fresh hS.2.1, fun j u hj h => by rcases j with _ | _ | _ | _ | _ | _ | _ | _ | _ | j <;> first | exact h | exact absurd rfl hj⟩, fun a w2 bb g hF hS hb hd => by have hM := hS.2.1; exact ph_val hS rfl (g_fieldAddr ty_fo_32_0 hF rfl), fun a w2 bb g hF hS hb hd => by have hF := hF.ext1 17 (hd 4 rfl rfl); have hM := hS.2.1; exact ph_val hS rfl (g_load ty_on_2 hF rfl (hM.row 0 rfl) (algC_p (by omega))), fun a w2 g hF hS hd => by
      obtain rfl : g = none := by (cases g; rfl; exact absurd hS.1 (by simp))
      obtain ⟨D, β, br, cs, h1, hB, hu, hsz, hgc, hbm, hne⟩ := hd 3 rfl rfl rfl
      have hF := hF.ext1 16 hu
      have hF := hF.ext1 18 (hd 5 rfl rfl)
      exact (d_callX Try.call118 hF (.cons rfl (.cons rfl .nil)) (solveRows_ok p (2 * n) br (2 * n) cs β (eqG p n T v uu n) _ hp (by omega) (Nat.le_refl _) (fun r c => eqG_lt (by omega) huu.small _ _) (h1 _ _ hbm).2.1 (by omega) hgc (fun i hi => (h1 _ _ (hB.mem i hi)).2.1) hB.inj hne)).mono fun u w3 ⟨hx, k, E, ld, hE, hKer, hE1, hr⟩ => by
        obtain ⟨q, hq, hu⟩ : ∃ q : Bool × (Nat → Nat), ((q.1 = true ∧ InvI p n T uu v q.2) ∨ (q.1 = false ∧ ∀ z, ¬ InvI p n T uu v z)) ∧ u = .tuple #[.agg (vecC q.2), .bool q.1] := by
          rcases hr with ⟨hl, rfl⟩ | ⟨hl, rfl⟩
          · exact ⟨(true, _), .inl ⟨rfl, inv2_yes hp2 hn0 hn hE1 hE hKer hl⟩, rfl⟩
          · exact ⟨(false, _), .inr ⟨rfl, fun z => inv2_no hp2 hn0 hn hE hKer hl z⟩, rfl⟩
        exact ⟨some q, ⟨rfl, hS.2.1.extY hx (fun y hy => by
          rcases List.mem_cons.1 hy with e | hy
          · rw [e]; exact ⟨(h1 _ _ hbm).1, (h1 _ _ hbm).2.2, fun _ _ h => by cases h⟩
          · obtain ⟨i, hi, rfl⟩ := List.mem_map.1 hy
            have hm := hB.mem i (by simpa using hi)
            exact ⟨(h1 _ _ hm).1, (h1 _ _ hm).2.2, fun _ _ h => by cases h⟩), fun q' e => by cases e; exact hq⟩, ⟨q, rfl, hu⟩, fun j u hj h => by
          rcases j with _ | _ | _ | _ | _ | _ | _ | _ | _ | j <;> first | exact h | exact absurd rfl hj | exact (fun e => by cases e) | (obtain ⟨k', e, _⟩ := h; cases e)⟩, fun a w2 bb g hF hS hb hd => by obtain ⟨q, rfl, hu⟩ := hd 6 rfl rfl; have hF := hF.ext1 19 hu; exact ph_val hS ⟨q, rfl, rfl⟩ (g_extract hF rfl rfl), fun a w2 bb g hF hS hb hd => by obtain ⟨q, rfl, hu⟩ := hd 6 rfl rfl; have hF := hF.ext1 19 hu; exact ph_val hS ⟨q, rfl, rfl⟩ (g_extract hF rfl rfl), trivial⟩ ?_
    intro a w' g hF hS hq
    obtain ⟨qq, rfl, hu7⟩ := hq 7 rfl rfl
    obtain ⟨q2, e2, hu8⟩ := hq 8 rfl rfl
    obtain rfl := Option.some.inj e2
    obtain ⟨-, hM, hE0⟩ := hS
    have hI := hE0 _ rfl
    have hF := hF.ext1 20 hu7
    have hF := hF.ext1 21 hu8
    change Mem w w' [some (b1, algC (p : Int) (n : Int) T f), some (b2, vecC v), some (b3, fnC 6 (fun _ => .int .u8 (0))), some (b4, vecC uu)] [] at hM
    change wpList Try.prog _ _ [_, _] _ _
    refine stN hF (d_storeAgg 2 hM rfl ty_sz_30 hF rfl rfl (by first | exact vecC_one | exact cells_one | (refine fnC_one fun _ _ => ?_; first | rfl | (split <;> rfl))) (by simp only [fnC_size, cells_size, vecC_size, tabC_size, planeC_size]) (by simp only [fnC_size, cells_size, vecC_size, tabC_size, planeC_size] <;> omega) (splice_whole _ _ (by simp only [fnC_size, cells_size, vecC_size, tabC_size, planeC_size]))) ?_
    intro _ w' a hM hF
    change Mem w w' [some (b1, algC (p : Int) (n : Int) T f), some (b2, vecC v), some (b3, vecC qq.2), some (b4, vecC uu)] [] at hM
    refine st hF (g_assign hF rfl) rfl fun a hF => ?_
    refine wpList_nil ?_
    refine tN ?_
    refine wp_ret ?_
    refine fin2 rfl hF.defers (res_agg ty_ag_30 hF rfl (hM.row 2 rfl) (by simp only [fnC_size, cells_size, vecC_size, tabC_size, planeC_size])) (res_tmp hF rfl) ⟨_, rfl, hM.below, ?_⟩
    exact ⟨_, _, rfl, hI⟩

end Go.Proofs.Ytclfbjfgmocbhaa
