/- laws.FnExactIsSplit returns true for every input, whatever memory it is called in, and touches nothing that was there; the one listed package variable holds what the program text lays (tied). -/
import Derived.Test.YtmlnjicajdbjlaaGreatDoorRows
import Derived.Test.YtmlnjicajdbjlaaGreatDoorCards
import Derived.Test.YtmlnjicajdbjlaaGreatDoorTie
import Derived.Test.YtmlnjicajdbjlaaGreatDoorSw53
import Derived.SevenTiedAt
import Derived.Lay
import Derived.Handy
import Derived.Test.YtmlnjicajdbjlaaGreatDoorZ22
import Derived.Test.YtmlnjicajdbjlaaGreatDoorSw9
import Derived.Test.YtmlnjicajdbjlaaGreatDoorSw21
import Derived.Test.YtmlnjicajdbjlaaGreatDoorHead
import Derived.WalkKit
import Derived.ProofKit
import Derived.OpenShut
namespace Go.Proofs.YtmlnjicajdbjlaaGreatDoor.fnExactIsSplit
open Go.ChangeShapes Go.WideShapes Go.ChangeAt Go.RowKit
set_option linter.unusedVariables false

theorem own : ownKnob Tryz.prog.godebug = none := by kernel_rfl
theorem flat26 : Go.Sw.flatT Tryz.prog 6 26 = true := by kernel_rfl
theorem cells26 : Tryz.prog.cellsOf 26 = 224 := by kernel_rfl
theorem kinds26 : Go.Sw.kindsT Tryz.prog 6 26 = some Go.Sw.algKs := by kernel_rfl

theorem gO : Tryz.prog.globalNamed "loop.example/g01267/impl.errNotCommutative" = some 1 := by kernel_rfl
theorem gT : (Tryz.prog.globals[1]?).map (·.type) = some 56 := by kernel_rfl
theorem star : "*" ++ "errors.errorString" = "*errors.errorString" := by decide
theorem rowT (u : TypeId) (h : Tryz.prog.typeName? 3 u = some "*errors.errorString") : u = 152 :=
  typeName_ptr_named (nm := "errors.errorString") (by rw [star]; kernel_rfl) (by kernel_rfl) (by decide) u (by rw [star]; exact h)
theorem cellsE : Tryz.prog.cellsOf 169 = 1 := by kernel_rfl
theorem cellsS : Tryz.prog.cellsOf 9 = 1 := by kernel_rfl
theorem blk {W : World} (h : laidMetH Tryz.prog Rows.fnExactIsSplitRow.laid W) : ∃ v, Go.Sw.Blk W 1 #[.iface 152 v] := by
  rw [MakeChecks.laidMetH_plain _ _ _ (by kernel_rfl)] at h
  exact Go.Sw.laid_blk h gO gT Tryz.underlying56 rowT Tryz.underlying152 Tryz.underlying169 rfl rfl Tryz.underlying9 cellsE cellsS

set_option maxRecDepth 100000 in
theorem lifted (os : Os) (started : os.Started) (H : Type) (enc : TypeId × Value → H) :
    ReturnsInHanded {} Tryz.checked os 6 .any (fun w args => (Rows.fnExactIsSplitSpec.pre enc Tryz.prog Tryz.f6 [] false w args ∧ laidMetH Tryz.prog Rows.fnExactIsSplitRow.laid w) ∧ sizedMet enc Tryz.prog Tryz.f6 (OpenSpec.ofChange Rows.fnExactIsSplitSpec) false w args)
      (Rows.fnExactIsSplitSpec.post enc Tryz.prog Tryz.f6 false true false false) := by
  refine returnsInHanded_of_change_and (C := Tryz.checked) (X := fun w _ => laidMetH Tryz.prog Rows.fnExactIsSplitRow.laid w) (fun _ _ _ hh h => h.of_heap hh) own started (by kernel_rfl) Tryz.func6
    (ChangeSpec.witness_shaped (enc := enc) (C := Tryz.checked) (os := os) (X := fun w _ => laidMetH Tryz.prog Rows.fnExactIsSplitRow.laid w) false (World.laidAll Tryz.prog os Rows.fnExactIsSplitRow.laid) #[.agg (Go.Sw.algC 0 0 (fun _ _ _ => 0) (fun _ => 0))] 8 (World.laidAll_os _ _ _)
      (World.shaped_of_ZipB (by kernel_rfl) (by kernel_rfl)) (by kernel_rfl) (by kernel_rfl) (by kernel_rfl)
      (by rw [MakeChecks.laidMetH_plain _ _ _ (by kernel_rfl)]; exact laidMet_laidAll _ (by kernel_rfl) (by kernel_rfl))) ?_
  intro W base args ds gs before hval0 hW _ _ hL _
  have hval : ∀ (j : Nat) t v, Tryz.f6.params[j]? = some t → args[j]? = some v → Value.okWide Tryz.prog W .any base t v := hval0
  have hW' := hW
  obtain ⟨p, q, hA0, hV, rfl, hfz, hnd⟩ := hW
  have hA : DataW.TrodAll enc Tryz.prog W 0 (fun _ => true) true Tryz.f6.params.toList args.toList ds p := hA0
  skip
  rw [Tryz.params6] at hA hval
  obtain ⟨v0, vs0, d0, ds0, q0, r0, hargs, rfl, rfl, h0, s0⟩ := trodAll_cons hA
  obtain ⟨rfl, rfl, rfl⟩ := trodAll_nil s0
  obtain rfl : args = #[v0] := by cases args; simp_all
  obtain rfl := Go.Sw.Trod_flat_places flat26 h0
  obtain ⟨p0, n0, T0, f0, rfl, hT0, hf0, hp0, hn0⟩ := Go.Sw.open_alg Tryz.underlying26 cells26 kinds26 (hval 0 26 _ rfl rfl) h0
  clear hA0 hval0
  obtain ⟨g9, rfl⟩ : ∃ g9, gs = [g9] := by
    obtain ⟨_, _, _, _, d9, _, e9, _⟩ := trodVars_one hV
    exact ⟨d9, e9⟩
  obtain ⟨ev, hgb⟩ := blk hL
  refine Calls.mono (law_IsSplit p0 n0 T0 f0 ev W hT0 hf0 hgb) fun e W' ⟨_, he, hg, hv⟩ => ?_
  subst hv
  subst he
  exact ⟨_, rfl, Go.Sw.post_of_ext (pa := []) (pv := q) hW' hg (fun _ _ _ => (trodAll_cons_mk (shut_bool Tryz.underlying4 _) trodAll_mk0)) (fun sp _ => (trodAll_cons_mk (Go.Sw.Trod_flat flat26 h0) trodAll_mk0))
    (fun sp hsp => Go.Sw.vars_again1 (by kernel_rfl) (by kernel_rfl) (by kernel_rfl) hV (fun g t h1 h2 => by
      obtain rfl := Option.some.inj (gO.symm.trans h1)
      obtain rfl := Option.some.inj (gT.symm.trans h2)
      exact of_decide_eq_true (by kernel_rfl)) hg (fun p hp => hW'.lt p (by simpa using hp)) sp (fun p hp => hsp p (by simpa using hp)))
    (by simp) (ok_one (by kernel_rfl) rfl (okWide_bool_mk Tryz.underlying4 _))⟩

set_option maxHeartbeats 8000000 in
set_option maxRecDepth 100000 in
theorem over : Rows.fnExactIsSplitRow.holds Tryz.pinned (OpenSpec.ofChange Rows.fnExactIsSplitSpec) :=
  OpenClaim.holds_of_wide 6 Tryz.f6 rfl rfl rfl rfl rfl rfl rfl ⟨rfl, rfl, rfl, rfl, rfl⟩ rfl rfl rfl rfl rfl (by as_aux_lemma => kernel_rfl) Tryz.func6 (by show joinedFacts Tryz.prog _ _ _ _ = true; unfold joinedFacts; (repeat' (with_reducible refine Go.Sw.and_mk ?_ ?_)); all_goals (first | with_reducible exact headEnter | (as_aux_lemma => rw [headFinal]; kernel_rfl) | (as_aux_lemma => rw [headMake]; kernel_rfl) | (as_aux_lemma => kernel_rfl)))
    (of_decide_eq_true (by as_aux_lemma => kernel_rfl)) (by as_aux_lemma => unfold Func.isWrapper; first | (rw [if_pos (by decide +kernel)]; kernel_rfl) | (rw [if_neg (by decide +kernel)]; exact ⟨rfl, rfl⟩))
    (fun os started H enc _ => lifted os started H enc)

/-- ████ THE STATEMENT ████ -/
theorem proved : Rows.FnExactIsSplitCardSaid :=
  Claim7.holds_tied_plain_at .later [] [.sentinel] true (true, "aa967d906f28b0e579585589248364b4070ebdc0e8e724727f9486427e557b9f") true
    over (fun _ h => by cases h) (by kernel_rfl) (fun _ h => by cases h) fnExactIsSplit_row_tie rfl ⟨rfl, rfl⟩ (by kernel_rfl) rfl
    (fun f fn hf hfn => by
      obtain rfl : f = 6 := Option.some.inj ((show Tryz.prog.funcNamed "loop.example/g01267/laws.FnExactIsSplit" = some 6 by kernel_rfl).symm.trans hf) |>.symm
      obtain rfl : fn = Tryz.f6 := (Option.some.inj (Tryz.func6.symm.trans hfn)).symm
      exact ⟨by kernel_rfl, fun j t ht => by
        rw [Tryz.params6] at ht
        have hm : t ∈ [26] := by simpa using Array.mem_of_getElem? ht
        have hall : ([26].all fun u => !Tryz.prog.wantsStandIn u) = true := by kernel_rfl
        exact (show Tryz.prog.wantsStandIn t = false by simpa using List.all_eq_true.1 hall t hm)⟩)
    (by kernel_rfl)
#print axioms proved
end Go.Proofs.YtmlnjicajdbjlaaGreatDoor.fnExactIsSplit
