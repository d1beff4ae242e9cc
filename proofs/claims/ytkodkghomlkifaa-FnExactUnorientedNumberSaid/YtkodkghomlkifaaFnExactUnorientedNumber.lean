/- laws.FnExactUnorientedNumber returns true for every input, whatever memory it is called in, and touches nothing that was there; no conditions. -/
import Derived.Test.YtkodkghomlkifaaRows
import Derived.Test.YtkodkghomlkifaaW8
import Derived.Test.YtkodkghomlkifaaSw9
import Derived.Test.YtkodkghomlkifaaSw21
import Derived.Test.YtkodkghomlkifaaHead
import Derived.WalkKit
import Derived.ProofKit
import Derived.OpenShut
namespace Go.Proofs.Ytkodkghomlkifaa.fnExactUnorientedNumber
open Go.ChangeShapes Go.WideShapes Go.ChangeAt Go.RowKit
set_option linter.unusedVariables false

theorem own : ownKnob Try.prog.godebug = none := by kernel_rfl
theorem flat26 : Go.Sw.flatT Try.prog 6 26 = true := by kernel_rfl
theorem cells26 : Try.prog.cellsOf 26 = 224 := by kernel_rfl
theorem kinds26 : Go.Sw.kindsT Try.prog 6 26 = some Go.Sw.algKs := by kernel_rfl
theorem cells22 : Try.prog.cellsOf 22 = 6 := by kernel_rfl
theorem kinds22 : Go.Sw.kindsT Try.prog 6 22 = some Go.Sw.vecKs := by kernel_rfl
theorem flat22 : Go.Sw.flatT Try.prog 6 22 = true := by kernel_rfl

set_option maxRecDepth 100000 in
theorem lifted (os : Os) (started : os.Started) (H : Type) (enc : TypeId × Value → H) :
    ReturnsInHanded {} Try.checked os 12 .any (Rows.fnExactUnorientedNumberSpec.pre6 enc Try.prog Try.f12 Rows.fnExactUnorientedNumberRow.domain false) (Rows.fnExactUnorientedNumberSpec.post enc Try.prog Try.f12 false true false false) := by
  refine returnsInHanded_of_change (C := Try.checked) own started (by kernel_rfl) Try.func12
    (ChangeSpec.witness6 (enc := enc) (C := Try.checked) false ⟨#[], #[.agg (Go.Sw.algC 0 0 (fun _ _ _ => 0) (fun _ => 0)), .slice none 0 0, .agg (Go.Sw.vecC (fun _ => 0)), .int .i64 0, .int .i64 0], []⟩ 8 (by kernel_rfl) (by kernel_rfl) (by kernel_rfl) (by kernel_rfl)) ?_
  intro W base args ds gs before hval0 hW hcnd _
  have hval : ∀ (j : Nat) t v, Try.f12.params[j]? = some t → args[j]? = some v → Value.okWide Try.prog W .any base t v := hval0
  have hW' := hW
  obtain ⟨p, q, hA0, hV, rfl, hfz, hnd⟩ := hW
  have hA : DataW.TrodAll enc Try.prog W 0 (fun _ => true) true Try.f12.params.toList args.toList ds p := hA0
  have hAk := hA0
  rw [Try.params12] at hA hval
  obtain ⟨v0, vs0, d0, ds0, q0, r0, hargs, rfl, rfl, h0, s0⟩ := trodAll_cons hA
  obtain ⟨v1, vs1, d1, ds1, q1, r1, rfl, rfl, rfl, h1, s1⟩ := trodAll_cons s0
  obtain ⟨v2, vs2, d2, ds2, q2, r2, rfl, rfl, rfl, h2, s2⟩ := trodAll_cons s1
  obtain ⟨v3, vs3, d3, ds3, q3, r3, rfl, rfl, rfl, h3, s3⟩ := trodAll_cons s2
  obtain ⟨v4, vs4, d4, ds4, q4, r4, rfl, rfl, rfl, h4, s4⟩ := trodAll_cons s3
  obtain ⟨rfl, rfl, rfl⟩ := trodAll_nil s4
  obtain rfl : args = #[v0, v1, v2, v3, v4] := by cases args; simp_all
  obtain ⟨rfl, rfl⟩ := trodVars_none hV
  obtain rfl := Go.Sw.Trod_flat_places flat26 h0
  obtain ⟨p0, n0, T0, f0, rfl, hT0, hf0, hp0, hn0⟩ := Go.Sw.open_alg Try.underlying26 cells26 kinds26 (hval 0 26 _ rfl rfl) h0
  obtain ⟨m1, V1, hs1, hm1, hV1⟩ := Go.Sw.open_vecs Try.underlying43 kinds22 cells22 (hval 1 43 _ rfl rfl) h1
  obtain rfl := Go.Sw.Trod_flat_places flat22 h2
  obtain ⟨g2, rfl, hg2⟩ := Go.Sw.open_vec Try.underlying22 cells22 kinds22 (hval 2 22 _ rfl rfl) h2
  obtain ⟨x3, rfl, rfl, rfl, w3⟩ := open_int Try.underlying2 (hval 3 2 _ rfl rfl) h3
  obtain ⟨x4, rfl, rfl, rfl, w4⟩ := open_int Try.underlying2 (hval 4 2 _ rfl rfl) h4
  clear hA0 hval0
  simp only [List.append_nil] at hW'
  refine Calls.mono (law_UnorientedNumber p0 n0 T0 f0 v1 m1 V1 g2 x3 x4 W hT0 hf0 hs1 hm1 hV1 hg2 (Go.Sw.wf_i64 w3) (Go.Sw.wf_i64 w4)) fun e W' ⟨_, he, hg, hv⟩ => ?_
  subst hv
  subst he
  exact ⟨_, rfl, Go.Sw.post_of_ext (pv := []) hW' hg (fun _ _ _ => (trodAll_cons_mk (shut_bool Try.underlying4 _) trodAll_mk0)) (fun sp hsp => Go.Sw.args_again (by kernel_rfl) (by kernel_rfl) (by kernel_rfl) (by rw [Try.params12]; decide +kernel) hg (fun p hp => hW'.lt p (by simpa using hp)) hAk sp (fun p hp => hsp p (by simpa using hp))) (fun _ _ => rfl) (by simp)
    (ok_one (by kernel_rfl) rfl (okWide_bool_mk Try.underlying4 _))⟩

set_option maxHeartbeats 8000000 in
set_option maxRecDepth 100000 in
theorem over : Rows.fnExactUnorientedNumberRow.holds Try.pinned (OpenSpec.ofChange Rows.fnExactUnorientedNumberSpec) :=
  OpenClaim.holds_of_wide 12 Try.f12 rfl rfl rfl rfl rfl rfl rfl ⟨rfl, rfl, rfl, rfl, rfl⟩ rfl rfl rfl rfl rfl (by as_aux_lemma => kernel_rfl) Try.func12 (by show joinedFacts Try.prog _ _ _ _ = true; unfold joinedFacts; (repeat' (with_reducible refine Go.Sw.and_mk ?_ ?_)); all_goals (first | with_reducible exact headEnter | (as_aux_lemma => rw [headFinal]; kernel_rfl) | (as_aux_lemma => rw [headMake]; kernel_rfl) | (as_aux_lemma => kernel_rfl)))
    (of_decide_eq_true (by as_aux_lemma => kernel_rfl)) (by as_aux_lemma => unfold Func.isWrapper; first | (rw [if_pos (by decide +kernel)]; kernel_rfl) | (rw [if_neg (by decide +kernel)]; exact ⟨rfl, rfl⟩))
    (fun os started H enc _ => lifted os started H enc)

/-- ████ THE STATEMENT ████ -/
theorem proved : Rows.FnExactUnorientedNumberSaid :=
  over
#print axioms proved
end Go.Proofs.Ytkodkghomlkifaa.fnExactUnorientedNumber
