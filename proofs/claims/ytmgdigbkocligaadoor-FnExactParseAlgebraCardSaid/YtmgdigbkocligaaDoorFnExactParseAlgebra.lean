/- laws.FnExactParseAlgebra returns true for every input, whatever memory it is called in, and touches nothing that was there; the one listed package variable holds what the program text lays (tied). -/
import Derived.Test.YtmgdigbkocligaaDoorRows
import Derived.Test.YtmgdigbkocligaaDoorCards
import Derived.Test.YtmgdigbkocligaaDoorTie
import Derived.SevenTiedAt
import Derived.Lay
import Derived.Handy
import Derived.Test.YtmgdigbkocligaaDoorSw108
import Derived.Stop.LaidErr
import Derived.LaidLaws
import Derived.Test.YtmgdigbkocligaaDoorV1
import Derived.Test.YtmgdigbkocligaaDoorN8
import Derived.Test.YtmgdigbkocligaaDoorSw9
import Derived.Test.YtmgdigbkocligaaDoorSw21
import Derived.Test.YtmgdigbkocligaaDoorHead
import Derived.WalkKit
import Derived.ProofKit
import Derived.OpenShut
namespace Go.Proofs.YtmgdigbkocligaaDoor.fnExactParseAlgebra
open Go.ChangeShapes Go.WideShapes Go.ChangeAt Go.RowKit
set_option linter.unusedVariables false

theorem own : ownKnob Tryd.prog.godebug = none := by kernel_rfl


theorem gS : Tryd.prog.globalNamed "strconv.ErrSyntax" = some 1 := by kernel_rfl
theorem gST : (Tryd.prog.globals[1]?).map (·.type) = some 49 := by kernel_rfl
theorem gR : Tryd.prog.globalNamed "strconv.ErrRange" = some 2 := by kernel_rfl
theorem gRT : (Tryd.prog.globals[2]?).map (·.type) = some 49 := by kernel_rfl
theorem gP : Tryd.prog.globalNamed "internal/strconv.uint64pow10" = some 3 := by kernel_rfl
theorem gPT : (Tryd.prog.globals[3]?).map (·.type) = some 102 := by kernel_rfl
theorem star : "*" ++ "errors.errorString" = "*errors.errorString" := by decide
theorem rowT (u : TypeId) (h : Tryd.prog.typeName? 3 u = some "*errors.errorString") : u = 119 :=
  typeName_ptr_named (nm := "errors.errorString") (by rw [star]; kernel_rfl) (by kernel_rfl) (by decide) u (by rw [star]; exact h)
theorem cellsE : Tryd.prog.cellsOf 121 = 1 := by kernel_rfl
theorem cellsS : Tryd.prog.cellsOf 9 = 1 := by kernel_rfl
theorem cellsU : Tryd.prog.cellsOf 76 = 1 := by kernel_rfl
theorem cellsP : Tryd.prog.cellsOf 102 = 20 := by kernel_rfl
theorem tabs {W : World} (hsh : W.ShapedOpen Tryd.prog) (h : laidMetH Tryd.prog Rows.fnExactParseAlgebraRow.laid W) : Go.Sw.Tabs Tryd.prog W 0 := by
  rw [MakeChecks.laidMetH_plain _ _ _ (by kernel_rfl)] at h
  have h2 := Go.Sw.laid_rest (Go.Sw.laid_rest h)
  have h4 := Go.Sw.laid_rest (Go.Sw.laid_rest h2)
  have h5 := Go.Sw.laid_rest h4
  obtain ⟨a1, s1, hr, _⟩ := laid_sentinel h4 gR gRT Tryd.underlying49 rowT Tryd.underlying119 Tryd.underlying121 rfl rfl Tryd.underlying9 cellsE cellsS
  obtain ⟨a2, s2, hs, _⟩ := laid_sentinel h5 gS gST Tryd.underlying49 rowT Tryd.underlying119 Tryd.underlying121 rfl rfl Tryd.underlying9 cellsE cellsS
  exact ⟨Tryd.laysM146.s1_3 W hsh, ⟨_, _, hs⟩, ⟨_, _, hr⟩, Lib.tabIs_of_head gP gPT Tryd.underlying102 Tryd.underlying76 cellsU cellsP h2⟩

set_option maxRecDepth 100000 in
theorem lifted (os : Os) (started : os.Started) (H : Type) (enc : TypeId × Value → H) :
    ReturnsInHanded {} Tryd.checked os 3 .any (fun w args => (Rows.fnExactParseAlgebraSpec.pre enc Tryd.prog Tryd.f3 [] false w args ∧ laidMetH Tryd.prog Rows.fnExactParseAlgebraRow.laid w) ∧ sizedMet enc Tryd.prog Tryd.f3 (OpenSpec.ofChange Rows.fnExactParseAlgebraSpec) false w args)
      (Rows.fnExactParseAlgebraSpec.post enc Tryd.prog Tryd.f3 false true false false) := by
  refine Go.Sw.returns_sh (C := Tryd.checked) (X := fun w _ => laidMetH Tryd.prog Rows.fnExactParseAlgebraRow.laid w) (fun _ _ _ hh h => h.of_heap hh) own started (by kernel_rfl) Tryd.func3
    (ChangeSpec.witness_shaped (enc := enc) (C := Tryd.checked) (os := os) (X := fun w _ => laidMetH Tryd.prog Rows.fnExactParseAlgebraRow.laid w) false (World.laidAll Tryd.prog os Rows.fnExactParseAlgebraRow.laid) #[.string ⟨#[]⟩] 8 (World.laidAll_os _ _ _)
      (World.shaped_of_ZipB (by kernel_rfl) (by kernel_rfl)) (by kernel_rfl) (by kernel_rfl) (by kernel_rfl)
      (by rw [MakeChecks.laidMetH_plain _ _ _ (by kernel_rfl)]; exact laidMet_laidAll _ (by kernel_rfl) (by kernel_rfl))) ?_
  intro W base args ds gs before hval0 hW hL hsh
  have hval : ∀ (j : Nat) t v, Tryd.f3.params[j]? = some t → args[j]? = some v → Value.okWide Tryd.prog W .any base t v := hval0
  have hW' := hW
  obtain ⟨p, q, hA0, hV, rfl, hfz, hnd⟩ := hW
  have hA : DataW.TrodAll enc Tryd.prog W 0 (fun _ => true) true Tryd.f3.params.toList args.toList ds p := hA0
  skip
  rw [Tryd.params3] at hA hval
  obtain ⟨v0, vs0, d0, ds0, q0, r0, hargs, rfl, rfl, h0, s0⟩ := trodAll_cons hA
  obtain ⟨rfl, rfl, rfl⟩ := trodAll_nil s0
  obtain rfl : args = #[v0] := by cases args; simp_all
  obtain ⟨rfl, rfl⟩ := trodVars_none hV
  obtain ⟨sv0, rfl, rfl, rfl, w0⟩ := Go.Sw.open_str Tryd.underlying9 (hval 0 9 _ rfl rfl) h0
  clear hA0 hval0
  simp only [List.append_nil] at hW'
  refine Calls.mono (law_ParseAlgebra sv0 W w0 (tabs hsh hL)) fun e W' ⟨_, he, hg, hv⟩ => ?_
  subst hv
  subst he
  exact ⟨_, rfl, Go.Sw.post_of_ext (pa := []) (pv := []) hW' hg (fun _ _ _ => (trodAll_cons_mk (shut_bool Tryd.underlying4 _) trodAll_mk0)) (fun sp _ => (trodAll_cons_mk (Go.Sw.shut_str Tryd.underlying9 w0) trodAll_mk0)) (fun _ _ => rfl) rfl
    (ok_one (by kernel_rfl) rfl (okWide_bool_mk Tryd.underlying4 _))⟩

set_option maxHeartbeats 8000000 in
set_option maxRecDepth 100000 in
theorem over : Rows.fnExactParseAlgebraRow.holds Tryd.pinned (OpenSpec.ofChange Rows.fnExactParseAlgebraSpec) :=
  OpenClaim.holds_of_wide 3 Tryd.f3 rfl rfl rfl rfl rfl rfl rfl ⟨rfl, rfl, rfl, rfl, rfl⟩ rfl rfl rfl rfl rfl (by as_aux_lemma => kernel_rfl) Tryd.func3 (by show joinedFacts Tryd.prog _ _ _ _ = true; unfold joinedFacts; (repeat' (with_reducible refine Go.Sw.and_mk ?_ ?_)); all_goals (first | with_reducible exact headEnter | (as_aux_lemma => rw [headFinal]; kernel_rfl) | (as_aux_lemma => rw [headMake]; kernel_rfl) | (as_aux_lemma => kernel_rfl)))
    (of_decide_eq_true (by as_aux_lemma => kernel_rfl)) (by as_aux_lemma => unfold Func.isWrapper; first | (rw [if_pos (by decide +kernel)]; kernel_rfl) | (rw [if_neg (by decide +kernel)]; exact ⟨rfl, rfl⟩))
    (fun os started H enc _ => lifted os started H enc)

/-- ████ THE STATEMENT ████ -/
theorem proved : Rows.FnExactParseAlgebraCardSaid :=
  Claim7.holds_tied_plain_at .later [] [.data, .data, .data, .data, .sentinel, .sentinel, .pinned] true (true, "bb2a1f2bda199918741ce017bd5aa9146a61dca8aef9c1680cb8b22555231f25") true
    over (fun _ h => by cases h) (by kernel_rfl) (fun _ h => by cases h) fnExactParseAlgebra_row_tie rfl ⟨rfl, rfl⟩ (by kernel_rfl) rfl
    (fun f fn hf hfn => by
      obtain rfl : f = 3 := Option.some.inj ((show Tryd.prog.funcNamed "loop.example/g01267/laws.FnExactParseAlgebra" = some 3 by kernel_rfl).symm.trans hf) |>.symm
      obtain rfl : fn = Tryd.f3 := (Option.some.inj (Tryd.func3.symm.trans hfn)).symm
      exact ⟨by kernel_rfl, fun j t ht => by
        rw [Tryd.params3] at ht
        have hm : t ∈ [9] := by simpa using Array.mem_of_getElem? ht
        have hall : ([9].all fun u => !Tryd.prog.wantsStandIn u) = true := by kernel_rfl
        exact (show Tryd.prog.wantsStandIn t = false by simpa using List.all_eq_true.1 hall t hm)⟩)
    (by kernel_rfl)
#print axioms proved
end Go.Proofs.YtmgdigbkocligaaDoor.fnExactParseAlgebra
