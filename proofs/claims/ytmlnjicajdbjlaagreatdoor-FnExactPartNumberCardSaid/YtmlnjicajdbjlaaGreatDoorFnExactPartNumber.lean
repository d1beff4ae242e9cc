/- laws.FnExactPartNumber returns true for every input, whatever memory it is called in, and touches nothing that was there; the one listed package variable holds what the program text lays (tied). -/
import Derived.Test.YtmlnjicajdbjlaaGreatDoorRows
import Derived.Test.YtmlnjicajdbjlaaGreatDoorCards
import Derived.Test.YtmlnjicajdbjlaaGreatDoorTie
import Derived.Test.YtmlnjicajdbjlaaGreatDoorSw60
import Derived.SevenTiedAt
import Derived.Lay
import Derived.Handy
import Derived.Test.YtmlnjicajdbjlaaGreatDoorZ29
import Derived.Test.YtmlnjicajdbjlaaGreatDoorSw9
import Derived.Test.YtmlnjicajdbjlaaGreatDoorSw21
import Derived.Test.YtmlnjicajdbjlaaGreatDoorHead
import Derived.WalkKit
import Derived.ProofKit
import Derived.OpenShut
namespace Go.Proofs.YtmlnjicajdbjlaaGreatDoor.fnExactPartNumber
open Go.ChangeShapes Go.WideShapes Go.ChangeAt Go.RowKit
set_option linter.unusedVariables false

theorem own : ownKnob Tryz.prog.godebug = none := by kernel_rfl
theorem flat26 : Go.Sw.flatT Tryz.prog 6 26 = true := by kernel_rfl
theorem cells26 : Tryz.prog.cellsOf 26 = 224 := by kernel_rfl
theorem kinds26 : Go.Sw.kindsT Tryz.prog 6 26 = some Go.Sw.algKs := by kernel_rfl

theorem gO : Tryz.prog.globalNamed "loop.example/g01267/impl.errNotCommutative" = some 1 := by kernel_rfl
theorem gT : (Tryz.prog.globals[1]?).map (·.type) = some 56 := by kernel_rfl
theorem gO2 : Tryz.prog.globalNamed "loop.example/g01267/impl.errNoPartNumbers" = some 2 := by kernel_rfl
theorem gT2 : (Tryz.prog.globals[2]?).map (·.type) = some 56 := by kernel_rfl
theorem star : "*" ++ "errors.errorString" = "*errors.errorString" := by decide
theorem rowT (u : TypeId) (h : Tryz.prog.typeName? 3 u = some "*errors.errorString") : u = 152 :=
  typeName_ptr_named (nm := "errors.errorString") (by rw [star]; kernel_rfl) (by kernel_rfl) (by decide) u (by rw [star]; exact h)
theorem cellsE : Tryz.prog.cellsOf 169 = 1 := by kernel_rfl
theorem cellsS : Tryz.prog.cellsOf 9 = 1 := by kernel_rfl
theorem blk {W : World} (h : laidMetH Tryz.prog Rows.fnExactPartNumberRow.laid W) : (∃ v, Go.Sw.Blk W 1 #[.iface 152 v]) ∧ ∃ v, Go.Sw.Blk W 2 #[.iface 152 v] := by
  rw [MakeChecks.laidMetH_plain _ _ _ (by kernel_rfl)] at h
  exact ⟨Go.Sw.laid_blk h gO gT Tryz.underlying56 rowT Tryz.underlying152 Tryz.underlying169 rfl rfl Tryz.underlying9 cellsE cellsS, Go.Sw.laid_blk (Go.Sw.laid_tail h) gO2 gT2 Tryz.underlying56 rowT Tryz.underlying152 Tryz.underlying169 rfl rfl Tryz.underlying9 cellsE cellsS⟩

set_option maxRecDepth 100000 in
theorem lifted (os : Os) (started : os.Started) (H : Type) (enc : TypeId × Value → H) :
    ReturnsInHanded {} Tryz.checked os 7 .any (fun w args => (Rows.fnExactPartNumberSpec.pre enc Tryz.prog Tryz.f7 [] false w args ∧ laidMetH Tryz.prog Rows.fnExactPartNumberRow.laid w) ∧ sizedMet enc Tryz.prog Tryz.f7 (OpenSpec.ofChange Rows.fnExactPartNumberSpec) false w args)
      (Rows.fnExactPartNumberSpec.post enc Tryz.prog Tryz.f7 false true false false) := by
  refine returnsInHanded_of_change_and (C := Tryz.checked) (X := fun w _ => laidMetH Tryz.prog Rows.fnExactPartNumberRow.laid w) (fun _ _ _ hh h => h.of_heap hh) own started (by kernel_rfl) Tryz.func7
    (ChangeSpec.witness_shaped (enc := enc) (C := Tryz.checked) (os := os) (X := fun w _ => laidMetH Tryz.prog Rows.fnExactPartNumberRow.laid w) false (World.laidAll Tryz.prog os Rows.fnExactPartNumberRow.laid) #[.agg (Go.Sw.algC 0 0 (fun _ _ _ => 0) (fun _ => 0)), .int .i64 0] 8 (World.laidAll_os _ _ _)
      (World.shaped_of_ZipB (by kernel_rfl) (by kernel_rfl)) (by kernel_rfl) (by kernel_rfl) (by kernel_rfl)
      (by rw [MakeChecks.laidMetH_plain _ _ _ (by kernel_rfl)]; exact laidMet_laidAll _ (by kernel_rfl) (by kernel_rfl))) ?_
  intro W base args ds gs before hval0 hW _ _ hL _
  have hval : ∀ (j : Nat) t v, Tryz.f7.params[j]? = some t → args[j]? = some v → Value.okWide Tryz.prog W .any base t v := hval0
  have hW' := hW
  obtain ⟨p, q, hA0, hV, rfl, hfz, hnd⟩ := hW
  have hA : DataW.TrodAll enc Tryz.prog W 0 (fun _ => true) true Tryz.f7.params.toList args.toList ds p := hA0
  skip
  rw [Tryz.params7] at hA hval
  obtain ⟨v0, vs0, d0, ds0, q0, r0, hargs, rfl, rfl, h0, s0⟩ := trodAll_cons hA
  obtain ⟨v1, vs1, d1, ds1, q1, r1, rfl, rfl, rfl, h1, s1⟩ := trodAll_cons s0
  obtain ⟨rfl, rfl, rfl⟩ := trodAll_nil s1
  obtain rfl : args = #[v0, v1] := by cases args; simp_all
  obtain rfl := Go.Sw.Trod_flat_places flat26 h0
  obtain ⟨p0, n0, T0, f0, rfl, hT0, hf0, hp0, hn0⟩ := Go.Sw.open_alg Tryz.underlying26 cells26 kinds26 (hval 0 26 _ rfl rfl) h0
  obtain ⟨x1, rfl, rfl, rfl, w1⟩ := open_int Tryz.underlying2 (hval 1 2 _ rfl rfl) h1
  clear hA0 hval0
  obtain ⟨g8, g9, rfl⟩ := Go.Sw.vars_two hV
  obtain ⟨⟨e1, hgb1⟩, ⟨e2, hgb2⟩⟩ := blk hL
  refine Calls.mono (law_PartNumber p0 n0 T0 f0 x1 e1 e2 W hT0 hf0 (Go.Sw.wf_i64 w1) hgb1 hgb2) fun e W' ⟨_, he, hg, hv⟩ => ?_
  subst hv
  subst he
  exact ⟨_, rfl, Go.Sw.post_of_ext (pa := []) (pv := q) hW' hg (fun _ _ _ => (trodAll_cons_mk (shut_bool Tryz.underlying4 _) trodAll_mk0)) (fun sp _ => (trodAll_cons_mk (Go.Sw.Trod_flat flat26 h0) (trodAll_cons_mk (shut_int Tryz.underlying2 w1) trodAll_mk0)))
    (fun sp hsp => Go.Sw.vars_again (by kernel_rfl) (by kernel_rfl) (by kernel_rfl) hg _ _ _ hV (fun n hn g t h1 h2 => by
      have hn2 : n = "loop.example/g01267/impl.errNotCommutative" ∨ n = "loop.example/g01267/impl.errNoPartNumbers" := by
        first | (have hn1 : n ∈ ["loop.example/g01267/impl.errNotCommutative", "loop.example/g01267/impl.errNoPartNumbers"] := hn; simpa using hn1) | (have hn1 : n ∈ ["loop.example/g01267/impl.errNoPartNumbers", "loop.example/g01267/impl.errNotCommutative"] := hn; exact Or.symm (by simpa using hn1))
      rcases hn2 with rfl | rfl <;> first
        | (obtain rfl := Option.some.inj (gO.symm.trans h1); obtain rfl := Option.some.inj (gT.symm.trans h2); exact of_decide_eq_true (by kernel_rfl))
        | (obtain rfl := Option.some.inj (gO2.symm.trans h1); obtain rfl := Option.some.inj (gT2.symm.trans h2); exact of_decide_eq_true (by kernel_rfl))) (fun p hp => hW'.lt p (by simpa using hp)) (fun p hp => hsp p (by simpa using hp)))
    (by simp) (ok_one (by kernel_rfl) rfl (okWide_bool_mk Tryz.underlying4 _))⟩

set_option maxHeartbeats 8000000 in
set_option maxRecDepth 100000 in
theorem over : Rows.fnExactPartNumberRow.holds Tryz.pinned (OpenSpec.ofChange Rows.fnExactPartNumberSpec) :=
  OpenClaim.holds_of_wide 7 Tryz.f7 rfl rfl rfl rfl rfl rfl rfl ⟨rfl, rfl, rfl, rfl, rfl⟩ rfl rfl rfl rfl rfl (by as_aux_lemma => kernel_rfl) Tryz.func7 (by show joinedFacts Tryz.prog _ _ _ _ = true; unfold joinedFacts; (repeat' (with_reducible refine Go.Sw.and_mk ?_ ?_)); all_goals (first | with_reducible exact headEnter | (as_aux_lemma => rw [headFinal]; kernel_rfl) | (as_aux_lemma => rw [headMake]; kernel_rfl) | (as_aux_lemma => kernel_rfl)))
    (of_decide_eq_true (by as_aux_lemma => kernel_rfl)) (by as_aux_lemma => unfold Func.isWrapper; first | (rw [if_pos (by decide +kernel)]; kernel_rfl) | (rw [if_neg (by decide +kernel)]; exact ⟨rfl, rfl⟩))
    (fun os started H enc _ => lifted os started H enc)

/-- ████ THE STATEMENT ████ -/
theorem proved : Rows.FnExactPartNumberCardSaid :=
  Claim7.holds_tied_plain_at .later [] [.sentinel, .sentinel] true (true, "aa967d906f28b0e579585589248364b4070ebdc0e8e724727f9486427e557b9f") true
    over (fun _ h => by cases h) (by kernel_rfl) (fun _ h => by cases h) fnExactPartNumber_row_tie rfl ⟨rfl, rfl⟩ (by kernel_rfl) rfl
    (fun f fn hf hfn => by
      obtain rfl : f = 7 := Option.some.inj ((show Tryz.prog.funcNamed "loop.example/g01267/laws.FnExactPartNumber" = some 7 by kernel_rfl).symm.trans hf) |>.symm
      obtain rfl : fn = Tryz.f7 := (Option.some.inj (Tryz.func7.symm.trans hfn)).symm
      exact ⟨by kernel_rfl, fun j t ht => by
        rw [Tryz.params7] at ht
        have hm : t ∈ [26, 2] := by simpa using Array.mem_of_getElem? ht
        have hall : ([26, 2].all fun u => !Tryz.prog.wantsStandIn u) = true := by kernel_rfl
        exact (show Tryz.prog.wantsStandIn t = false by simpa using List.all_eq_true.1 hall t hm)⟩)
    (by kernel_rfl)
#print axioms proved
end Go.Proofs.YtmlnjicajdbjlaaGreatDoor.fnExactPartNumber
