/- laws.FnTwists returns true for every input, whatever memory it is called in, and touches nothing that was there; no conditions. -/
import Derived.Test.YtgioobkkkicfeaaRows
import Derived.Test.YtgioobkkkicfeaaZ8
import Derived.Test.YtgioobkkkicfeaaHead
namespace Go.Proofs.Ytgioobkkkicfeaa.fnTwists
open Go.ChangeShapes Go.WideShapes Go.ChangeAt Go.RowKit
set_option linter.unusedVariables false

theorem own : ownKnob Try.prog.godebug = none := by kernel_rfl
theorem cells5 : Try.prog.cellsOf 5 = 1 := by kernel_rfl

set_option maxRecDepth 100000 in
theorem lifted (os : Os) (started : os.Started) (H : Type) (enc : TypeId × Value -> H) :
    ReturnsInHanded {} Try.checked os 3 .any (Rows.fnTwistsSpec.pre6 enc Try.prog Try.f3 Rows.fnTwistsRow.domain false) (Rows.fnTwistsSpec.post enc Try.prog Try.f3 false true false false) := by
  refine returnsInHanded_of_change (C := Try.checked) own started (by kernel_rfl) Try.func3
    (ChangeSpec.witness6 (enc := enc) (C := Try.checked) false ⟨#[], #[.slice none 0 0], []⟩ 8 (by kernel_rfl) (by kernel_rfl) (by kernel_rfl) (by kernel_rfl)) ?_
  intro W base args ds gs before hH hW hcnd _
  have hJ : ∀ (j : Nat) t v, Try.f3.params[j]? = some t -> args[j]? = some v -> Value.okWide Try.prog W .any base t v := hH
  have hW' := hW
  obtain ⟨p, q, hO, hV, rfl, hfz, hnd⟩ := hW
  have hA : DataW.TrodAll enc Try.prog W 0 (fun _ => true) true Try.f3.params.toList args.toList ds p := hO
  have hAk := hO
  rw [Try.params3] at hA hJ
  obtain ⟨v0, vs0, d0, ds0, q0, r0, hU, rfl, rfl, h0, s0⟩ := trodAll_cons hA
  obtain ⟨rfl, rfl, rfl⟩ := trodAll_nil s0
  obtain rfl : args = #[v0] := by cases args; simp_all
  obtain ⟨rfl, rfl⟩ := trodVars_none hV
  obtain ⟨m0, hs0⟩ := Go.Sw.open_by Try.underlying22 Try.underlying5 cells5 (hJ 0 22 _ rfl rfl) h0
  clear hO hH
  simp only [List.append_nil] at hW'
  refine Calls.mono (Jn v0 m0 W hs0) fun e W' ⟨_, he, hg, hv⟩ => ?_
  subst hv
  subst he
  exact ⟨_, rfl, Go.Sw.post_of_ext (pv := []) hW' hg (fun _ _ _ => (trodAll_cons_mk (shut_bool Try.underlying4 _) trodAll_mk0)) (fun sp hsp => Go.Sw.args_again (by kernel_rfl) (by kernel_rfl) (by kernel_rfl) (by rw [Try.params3]; decide +kernel) hg (fun p hp => hW'.lt p (by simpa using hp)) hAk sp (fun p hp => hsp p (by simpa using hp))) (fun _ _ => rfl) (by simp)
    (ok_one (by kernel_rfl) rfl (okWide_bool_mk Try.underlying4 _))⟩

set_option maxHeartbeats 8000000 in
set_option maxRecDepth 100000 in
theorem over : Rows.fnTwistsRow.holds Try.pinned (OpenSpec.ofChange Rows.fnTwistsSpec) :=
  OpenClaim.holds_of_wide 3 Try.f3 rfl rfl rfl rfl rfl rfl rfl ⟨rfl, rfl, rfl, rfl, rfl⟩ rfl rfl rfl rfl rfl (by as_aux_lemma => kernel_rfl) Try.func3 (by show joinedFacts Try.prog _ _ _ _ = true; unfold joinedFacts; (repeat' (with_reducible refine Go.Sw.and_mk ?_ ?_)); all_goals (first | with_reducible exact headEnter | (as_aux_lemma => rw [headFinal]; kernel_rfl) | (as_aux_lemma => rw [headMake]; kernel_rfl) | (as_aux_lemma => kernel_rfl)))
    (of_decide_eq_true (by as_aux_lemma => kernel_rfl)) (by as_aux_lemma => unfold Func.isWrapper; first | (rw [if_pos (by decide +kernel)]; kernel_rfl) | (rw [if_neg (by decide +kernel)]; exact ⟨rfl, rfl⟩))
    (fun os started H enc _ => lifted os started H enc)

/-- ████ THE STATEMENT ████ -/
theorem proved : Rows.FnTwistsSaid :=
  over
#print axioms proved
end Go.Proofs.Ytgioobkkkicfeaa.fnTwists
