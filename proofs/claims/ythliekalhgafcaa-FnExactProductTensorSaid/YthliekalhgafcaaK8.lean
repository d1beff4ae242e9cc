/- What functions of the program return, as walks over their operations; no statement of the seat is proved here. -/
import Derived.Test.YthliekalhgafcaaK7
set_option linter.unusedVariables false
set_option linter.unusedSimpArgs false
namespace Go.Proofs.Ythliekalhgafcaa
open Go Go.RowKit Go.Sw Go.Ech
open Classical
theorem hasFullForm_ok (p n : Nat) (T : Nat → Nat → Nat → Nat) (f : Nat → Nat) (w : World) (hp : primeN p) (hn0 : 0 < n) (hn : n ≤ 6) (hT : ∀ i j k, T i j k ≤ 255) (hf : ∀ i, f i ≤ 255) :
    CallsR Try.prog 91 #[.agg (algC (p : Int) (n : Int) T f)] w (fun res _ => res = .bool (decide (FrobN p n T f))) := by
  refine calls_fr [.agg (algC (p : Int) (n : Int) T f)] Try.func91 rfl Try.ntmps91 rfl fun a hF => ?_
  have hM : Mem w w [none] [] := MemX.start w 1
  change Fr 12 a [(0, .agg (algC (p : Int) (n : Int) T f))] at hF
  have hp2 := hp.two
  have hp13 := hp.le
  refine sq ?_
  refine wp_region_lit ?_
  refine stR hF (d_box 0 hM hF rfl) rfl ?_
  rintro _ w' a ⟨b1, rfl, hM, -⟩ hF
  change Mem w w' [some (b1, algC (p : Int) (n : Int) T f)] [] at hM
  refine st hF (g_assign hF rfl) rfl fun a hF => ?_
  refine wpList_nil ?_
  refine tN ?_
  refine sq ?_
  refine c_drawH (S := fun (bb : Bool) (g : Option Nat) w2 => bb = g.isSome ∧ MemX [] w w2 [some (b1, algC (p : Int) (n : Int) T f)] [] ∧ ∀ k, g = some k → ∃ E ld, Rref p 6 E k ld ∧ (∀ x, Ker p 6 E k x ↔ Ker p 6 (formM p n T f) n x)) 9 4 hmix rfl rfl rfl hF rfl (dstEvery_spec rfl) none ⟨rfl, hM, fun k e => by cases e⟩ (fun bb g w h => ⟨h.1, h.2.1.ext (Below.drew (Below.refl _ _)), h.2.2⟩) (fun i (g : Option Nat) u w2 => match i with | 0 => u = .agg (algC (p : Int) (n : Int) T f) | 1 => g = none → BytesFr w [some (b1, algC (p : Int) (n : Int) T f)] 6 n (formM p n T f) u w2 | 2 => u = ptr b1 (0 + 0) | 3 => u = .int .i64 (((p : Nat) : Int)) | 4 => ∃ k b cap, g = some k ∧ u = .slice (some ⟨b, 0, none⟩) k cap | 5 => ∃ k, g = some k ∧ u = .int .i64 ((k : Nat) : Int) | 6 => u = ptr b1 (0 + 1) | 7 => u = .int .i64 (((n : Nat) : Int)) | 8 => ∃ k, g = some k ∧ u = .bool (decide (((k : Nat) : Int) = ((n : Nat) : Int))) | _ => True) ⟨fun a w2 bb g hF hS hb hd => by have hM := hS.2.1; exact ph_val hS rfl (g_loadAgg ty_ag_43 hF rfl (hM.row 0 rfl) (by simp only [fnC_size, cells_size, vecC_size, tabC_size, planeC_size] <;> omega) (whole cells_size)), fun a w2 bb g hF hS hb hd => by have hF := hF.ext1 3 (hd 0 rfl rfl); exact (d_call Try.call106 hF (.cons rfl .nil) (formRows_ok p n T f _ (by omega) (by omega) (by omega) (by omega) hT hf)).mono fun u w3 ⟨hx, hr⟩ => ⟨g, ⟨hS.1, hS.2.1.ext hx, hS.2.2⟩, fun _ => hr.fresh hS.2.1, fun j u hj h => by rcases j with _ | _ | _ | _ | _ | _ | _ | _ | _ | j <;> first | exact h | exact absurd rfl hj⟩, fun a w2 bb g hF hS hb hd => by have hM := hS.2.1; exact ph_val hS rfl (g_fieldAddr ty_fo_43_0 hF rfl), fun a w2 bb g hF hS hb hd => by have hF := hF.ext1 5 (hd 2 rfl rfl); have hM := hS.2.1; exact ph_val hS rfl (g_load ty_on_2 hF rfl (hM.row 0 rfl) (algC_p (by omega))), fun a w2 g hF hS hd => by
    obtain rfl : g = none := by (cases g; rfl; exact absurd hS.1 (by simp))
    obtain ⟨D, β, br, cs, h1, hB, hu, hsz, hgc, hbm, hne⟩ := hd 1 rfl rfl rfl
    have hF := hF.ext1 4 hu
    have hF := hF.ext1 6 (hd 3 rfl rfl)
    exact (d_callX Try.call105 hF (.cons rfl (.cons rfl .nil)) (reduceRows_ok p 6 n br n cs β (formM p n T f) _ hp (by omega) (by omega) (by omega) (Nat.le_refl _) (formM_lt (by omega)) (h1 _ _ hbm).2.1 (by omega) hgc (fun i hi => (h1 _ _ (hB.mem i hi)).2.1) hB.inj hne)).mono fun u w3 ⟨hx, k, E, γ', ld, cs', hu3, hkm, hE, hKer, _⟩ => ⟨some k, ⟨rfl, hS.2.1.extY hx (fun y hy => by
      rcases List.mem_cons.1 hy with e | hy
      · rw [e]; exact ⟨(h1 _ _ hbm).1, (h1 _ _ hbm).2.2, fun _ _ h => by cases h⟩
      · obtain ⟨i, hi, rfl⟩ := List.mem_map.1 hy
        have hm := hB.mem i (by simpa using hi)
        exact ⟨(h1 _ _ hm).1, (h1 _ _ hm).2.2, fun _ _ h => by cases h⟩), fun k' e => by cases e; exact ⟨E, ld, hE, hKer⟩⟩, ⟨k, br, n, rfl, hu3⟩, fun j u hj h => by
      rcases j with _ | _ | _ | _ | _ | _ | _ | _ | _ | j <;> first | exact h | exact absurd rfl hj | exact (fun e => by cases e) | (obtain ⟨k', e, _⟩ := h; cases e)⟩, fun a w2 bb g hF hS hb hd => by obtain ⟨k, b, cap, rfl, hu⟩ := hd 4 rfl rfl; have hF := hF.ext1 7 hu; exact ph_val hS ⟨k, rfl, rfl⟩ (g_len ty_us_96 hF rfl), fun a w2 bb g hF hS hb hd => by have hM := hS.2.1; exact ph_val hS rfl (g_fieldAddr ty_fo_43_1 hF rfl), fun a w2 bb g hF hS hb hd => by have hF := hF.ext1 9 (hd 6 rfl rfl); have hM := hS.2.1; exact ph_val hS rfl (g_load ty_on_2 hF rfl (hM.row 0 rfl) (algC_n (by omega))), fun a w2 bb g hF hS hb hd => by obtain ⟨k, rfl, hu⟩ := hd 5 rfl rfl; have hF := hF.ext1 8 hu; have hF := hF.ext1 10 (hd 7 rfl rfl); exact ph_val hS ⟨k, rfl, rfl⟩ (g_eql hF rfl rfl), trivial⟩ ?_
  intro a w' g hF hS hq
  obtain ⟨k, rfl, hu8⟩ := hq 8 rfl rfl
  obtain ⟨-, hM, hE0⟩ := hS
  obtain ⟨E, ld, hE, hKer⟩ := hE0 k rfl
  have hF := hF.ext1 11 hu8
  change Mem w w' [some (b1, algC (p : Int) (n : Int) T f)] [] at hM
  change wpList Try.prog _ _ [_] _ _
  refine st hF (g_assign hF rfl) rfl fun a hF => ?_
  refine wpList_nil ?_
  refine tN ?_
  refine wp_ret ?_
  refine fin1 rfl hF.defers (res_tmp hF rfl) ⟨_, rfl, hM.below, ?_⟩
  show _ = _
  exact congrArg Value.bool (decide_eq_decide.2 (frob_iff hp2 hE hKer))

end Go.Proofs.Ythliekalhgafcaa
