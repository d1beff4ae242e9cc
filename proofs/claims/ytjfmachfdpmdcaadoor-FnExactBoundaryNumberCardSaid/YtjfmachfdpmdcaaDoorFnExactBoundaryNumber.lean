/- laws.FnExactBoundaryNumber returns true for every input, whatever memory it is called in, and touches nothing that was there; the one listed package variable holds what the program text lays (tied). -/
import Derived.Test.YtjfmachfdpmdcaaDoorRows
import Derived.Test.YtjfmachfdpmdcaaDoorCards
import Derived.Test.YtjfmachfdpmdcaaDoorTie
import Derived.Test.YtjfmachfdpmdcaaDoorSw53
import Derived.SevenTiedAt
import Derived.Lay
import Derived.Handy
import Derived.Test.YtjfmachfdpmdcaaDoorJ10
import Derived.Test.YtjfmachfdpmdcaaDoorSw9
import Derived.Test.YtjfmachfdpmdcaaDoorSw21
import Derived.Test.YtjfmachfdpmdcaaDoorHead
import Derived.WalkKit
import Derived.ProofKit
import Derived.OpenShut
namespace Go.Proofs.YtjfmachfdpmdcaaDoor.fnExactBoundaryNumber
open Go.ChangeShapes Go.WideShapes Go.ChangeAt Go.RowKit
set_option linter.unusedVariables false

theorem own : ownKnob Tryd.prog.godebug = none := by kernel_rfl
theorem flat28 : Go.Sw.flatT Tryd.prog 8 28 = true := by kernel_rfl
theorem cells28 : Tryd.prog.cellsOf 28 = 484 := by kernel_rfl
theorem kinds28 : Go.Sw.kindsT Tryd.prog 8 28 = some Go.Sw.pairKs := by kernel_rfl

theorem gO : Tryd.prog.globalNamed "loop.example/g01267/impl.errNotPair" = some 0 := by kernel_rfl
theorem gT : (Tryd.prog.globals[0]?).map (·.type) = some 77 := by kernel_rfl
theorem star : "*" ++ "errors.errorString" = "*errors.errorString" := by decide
theorem rowT (u : TypeId) (h : Tryd.prog.typeName? 3 u = some "*errors.errorString") : u = 115 :=
  typeName_ptr_named (nm := "errors.errorString") (by rw [star]; kernel_rfl) (by kernel_rfl) (by decide) u (by rw [star]; exact h)
theorem cellsE : Tryd.prog.cellsOf 133 = 1 := by kernel_rfl
theorem cellsS : Tryd.prog.cellsOf 9 = 1 := by kernel_rfl
theorem blk {W : World} (h : laidMetH Tryd.prog Rows.fnExactBoundaryNumberRow.laid W) : ∃ v, Go.Sw.Blk W 0 #[.iface 115 v] := by
  rw [MakeChecks.laidMetH_plain _ _ _ (by kernel_rfl)] at h
  exact Go.Sw.laid_blk h gO gT Tryd.underlying77 rowT Tryd.underlying115 Tryd.underlying133 rfl rfl Tryd.underlying9 cellsE cellsS

set_option maxRecDepth 100000 in
theorem lifted (os : Os) (started : os.Started) (H : Type) (enc : TypeId × Value → H) :
    ReturnsInHanded {} Tryd.checked os 9 .any (fun w args => (Rows.fnExactBoundaryNumberSpec.pre enc Tryd.prog Tryd.f9 [] false w args ∧ laidMetH Tryd.prog Rows.fnExactBoundaryNumberRow.laid w) ∧ sizedMet enc Tryd.prog Tryd.f9 (OpenSpec.ofChange Rows.fnExactBoundaryNumberSpec) false w args)
      (Rows.fnExactBoundaryNumberSpec.post enc Tryd.prog Tryd.f9 false true false false) := by
  refine returnsInHanded_of_change_and (C := Tryd.checked) (X := fun w _ => laidMetH Tryd.prog Rows.fnExactBoundaryNumberRow.laid w) (fun _ _ _ hh h => h.of_heap hh) own started (by kernel_rfl) Tryd.func9
    (ChangeSpec.witness_shaped (enc := enc) (C := Tryd.checked) (os := os) (X := fun w _ => laidMetH Tryd.prog Rows.fnExactBoundaryNumberRow.laid w) false (World.laidAll Tryd.prog os Rows.fnExactBoundaryNumberRow.laid) #[.agg (Go.Sw.pairC 0 0 (fun _ _ _ => 0) (fun _ => 0) 0 0 (fun _ _ _ => 0) (fun _ => 0) (fun _ _ => 0)), .int .i64 0, .int .i64 0] 8 (World.laidAll_os _ _ _)
      (World.shaped_of_ZipB (by kernel_rfl) (by kernel_rfl)) (by kernel_rfl) (by kernel_rfl) (by kernel_rfl)
      (by rw [MakeChecks.laidMetH_plain _ _ _ (by kernel_rfl)]; exact laidMet_laidAll _ (by kernel_rfl) (by kernel_rfl))) ?_
  intro W base args ds gs before hval0 hW _ _ hL _
  have hval : ∀ (j : Nat) t v, Tryd.f9.params[j]? = some t → args[j]? = some v → Value.okWide Tryd.prog W .any base t v := hval0
  have hW' := hW
  obtain ⟨p, q, hA0, hV, rfl, hfz, hnd⟩ := hW
  have hA : DataW.TrodAll enc Tryd.prog W 0 (fun _ => true) true Tryd.f9.params.toList args.toList ds p := hA0
  skip
  rw [Tryd.params9] at hA hval
  obtain ⟨v0, vs0, d0, ds0, q0, r0, hargs, rfl, rfl, h0, s0⟩ := trodAll_cons hA
  obtain ⟨v1, vs1, d1, ds1, q1, r1, rfl, rfl, rfl, h1, s1⟩ := trodAll_cons s0
  obtain ⟨v2, vs2, d2, ds2, q2, r2, rfl, rfl, rfl, h2, s2⟩ := trodAll_cons s1
  obtain ⟨rfl, rfl, rfl⟩ := trodAll_nil s2
  obtain rfl : args = #[v0, v1, v2] := by cases args; simp_all
  obtain rfl := Go.Sw.Trod_flat_places flat28 h0
  obtain ⟨p0, n0, T0, f0, q0x, m0, U0, fu0, Z0, rfl, hT0, hf0, hU0, hfu0, hZ0⟩ := Go.Sw.open_pair Tryd.underlying28 cells28 kinds28 (hval 0 28 _ rfl rfl) h0
  obtain ⟨x1, rfl, rfl, rfl, w1⟩ := open_int Tryd.underlying2 (hval 1 2 _ rfl rfl) h1
  obtain ⟨x2, rfl, rfl, rfl, w2⟩ := open_int Tryd.underlying2 (hval 2 2 _ rfl rfl) h2
  clear hA0 hval0
  obtain ⟨g9, rfl⟩ : ∃ g9, gs = [g9] := by
    obtain ⟨_, _, _, _, d9, _, e9, _⟩ := trodVars_one hV
    exact ⟨d9, e9⟩
  obtain ⟨ev, hgb⟩ := blk hL
  refine Calls.mono (law_BoundaryNumber p0 n0 T0 f0 q0x m0 U0 fu0 Z0 x1 x2 ev W hT0 hf0 hU0 hfu0 hZ0 (Go.Sw.wf_i64 w1) (Go.Sw.wf_i64 w2) hgb) fun e W' ⟨_, he, hg, hv⟩ => ?_
  subst hv
  subst he
  exact ⟨_, rfl, Go.Sw.post_of_ext (pa := []) (pv := q) hW' hg (fun _ _ _ => (trodAll_cons_mk (shut_bool Tryd.underlying4 _) trodAll_mk0)) (fun sp _ => (trodAll_cons_mk (Go.Sw.Trod_flat flat28 h0) (trodAll_cons_mk (shut_int Tryd.underlying2 w1) (trodAll_cons_mk (shut_int Tryd.underlying2 w2) trodAll_mk0))))
    (fun sp hsp => Go.Sw.vars_again1 (by kernel_rfl) (by kernel_rfl) (by kernel_rfl) hV (fun g t h1 h2 => by
      obtain rfl := Option.some.inj (gO.symm.trans h1)
      obtain rfl := Option.some.inj (gT.symm.trans h2)
      exact of_decide_eq_true (by kernel_rfl)) hg (fun p hp => hW'.lt p (by simpa using hp)) sp (fun p hp => hsp p (by simpa using hp)))
    (by simp) (ok_one (by kernel_rfl) rfl (okWide_bool_mk Tryd.underlying4 _))⟩

set_option maxHeartbeats 8000000 in
set_option maxRecDepth 100000 in
theorem over : Rows.fnExactBoundaryNumberRow.holds Tryd.pinned (OpenSpec.ofChange Rows.fnExactBoundaryNumberSpec) :=
  OpenClaim.holds_of_wide 9 Tryd.f9 rfl rfl rfl rfl rfl rfl rfl ⟨rfl, rfl, rfl, rfl, rfl⟩ rfl rfl rfl rfl rfl (by as_aux_lemma => kernel_rfl) Tryd.func9 (by show joinedFacts Tryd.prog _ _ _ _ = true; unfold joinedFacts; (repeat' (with_reducible refine Go.Sw.and_mk ?_ ?_)); all_goals (first | with_reducible exact headEnter | (as_aux_lemma => rw [headFinal]; kernel_rfl) | (as_aux_lemma => rw [headMake]; kernel_rfl) | (as_aux_lemma => kernel_rfl)))
    (of_decide_eq_true (by as_aux_lemma => kernel_rfl)) (by as_aux_lemma => unfold Func.isWrapper; first | (rw [if_pos (by decide +kernel)]; kernel_rfl) | (rw [if_neg (by decide +kernel)]; exact ⟨rfl, rfl⟩))
    (fun os started H enc _ => lifted os started H enc)

/-- ████ THE STATEMENT ████ -/
theorem proved : Rows.FnExactBoundaryNumberCardSaid :=
  Claim7.holds_tied_plain_at .later [] [.sentinel] true (true, "9ee54a94a929839b6ef332d54635707687eeb65402cd1bc70583f7502b750398") true
    over (fun _ h => by cases h) (by kernel_rfl) (fun _ h => by cases h) fnExactBoundaryNumber_row_tie rfl ⟨rfl, rfl⟩ (by kernel_rfl) rfl
    (fun f fn hf hfn => by
      obtain rfl : f = 9 := Option.some.inj ((show Tryd.prog.funcNamed "loop.example/g01267/laws.FnExactBoundaryNumber" = some 9 by kernel_rfl).symm.trans hf) |>.symm
      obtain rfl : fn = Tryd.f9 := (Option.some.inj (Tryd.func9.symm.trans hfn)).symm
      exact ⟨by kernel_rfl, fun j t ht => by
        rw [Tryd.params9] at ht
        have hm : t ∈ [28, 2, 2] := by simpa using Array.mem_of_getElem? ht
        have hall : ([28, 2, 2].all fun u => !Tryd.prog.wantsStandIn u) = true := by kernel_rfl
        exact (show Tryd.prog.wantsStandIn t = false by simpa using List.all_eq_true.1 hall t hm)⟩)
    (by kernel_rfl)
#print axioms proved
end Go.Proofs.YtjfmachfdpmdcaaDoor.fnExactBoundaryNumber
