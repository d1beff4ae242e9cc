/-
  No cell of these rows narrows 'for every input' (looked for: loops, veiled, ifaces, maps, wideKeys, modest, calm, conditions, laid).
  DERIVED. THE GIVEN ROWS OF THIS SEAT. 10 by the template 'for every input the law returns true; each argument reads behind the call as it read before'; 0 by the template 'total and deterministic' (their statements: YtkodkghomlkifaaTotals.lean).
  GIVEN WITH THE SEED: the statements are not yours to turn. If you find one false, say at which input.
  Laid BY PROGRAM, IN A SANDBOX (cutbox-rows.mjs): the forced cells as the released guide's own fill.sh prints them over the translation e8bfeb4376824193… (all of the seat's roots in one cut). By AI agents, Wed Nov 11 2026. No macro, syntax, notation, axiom, sorry.
-/
import Derived.Test.YtkodkghomlkifaaChecked
import GoSem.Claim
import GoSem.ClaimJoined
import GoSem.ClaimMapViews
import Derived.JoinedTies
import Derived.KernelRfl
namespace Go.Proofs.Ytkodkghomlkifaa
/- THE CELL 'sum', in the pinned program and in every row, IS THE sha256 OF THE DUMP (.gsa) THAT YtkodkghomlkifaaProg.lean LOADS. Nothing in Lean hashes anything: it is a label: what it is worth is what the hold of that sum in a sandbox is worth. -/
noncomputable def Try.pinned : Pinned := { name := "ytkodkghomlkifaa", sum := "e8bfeb4376824193cf1c3f77d36d3c660bb8caff7cb80f14f7aa2294a8eb5cd6", checked := Try.checked }
namespace Rows
def none {H : Type} : Left H := { results := [], args := [] }

/-- 'laws.FnExactHandleOf': WHATEVER THE INPUT: true; the input reads as it did. -/
def fnExactHandleOfSpec : ChangeSpec := { name := "fnExactHandleOf", fn := fun _ => fun
  | [d] => { results := [.lit (.bool true)], args := [d] }
  | _ => none }
def fnExactHandleOfRow : OpenClaim := { program := "ytkodkghomlkifaa", sum := "e8bfeb4376824193cf1c3f77d36d3c660bb8caff7cb80f14f7aa2294a8eb5cd6", func := "loop.example/g01267/laws.FnExactHandleOf", spec := "fnExactHandleOf", plainKeys := false, apart := false }
def FnExactHandleOfSaid : Prop := fnExactHandleOfRow.holds Try.pinned (OpenSpec.ofChange fnExactHandleOfSpec)

/-- ITS FALSE NEIGHBOUR: 'it returns false'. Refute it at one input. -/
def fnExactHandleOfWrong : ChangeSpec := { name := "fnExactHandleOf", fn := fun _ => fun
  | [d] => { results := [.lit (.bool false)], args := [d] }
  | _ => none }
def FnExactHandleOfWrongFalsely : Prop := fnExactHandleOfRow.holds Try.pinned (OpenSpec.ofChange fnExactHandleOfWrong)

/-- 'laws.FnExactNakayamaOf': WHATEVER THE INPUT: true; the input reads as it did. -/
def fnExactNakayamaOfSpec : ChangeSpec := { name := "fnExactNakayamaOf", fn := fun _ => fun
  | [d] => { results := [.lit (.bool true)], args := [d] }
  | _ => none }
def fnExactNakayamaOfRow : OpenClaim := { program := "ytkodkghomlkifaa", sum := "e8bfeb4376824193cf1c3f77d36d3c660bb8caff7cb80f14f7aa2294a8eb5cd6", func := "loop.example/g01267/laws.FnExactNakayamaOf", spec := "fnExactNakayamaOf", plainKeys := false, apart := false }
def FnExactNakayamaOfSaid : Prop := fnExactNakayamaOfRow.holds Try.pinned (OpenSpec.ofChange fnExactNakayamaOfSpec)

/-- ITS FALSE NEIGHBOUR: 'it returns false'. Refute it at one input. -/
def fnExactNakayamaOfWrong : ChangeSpec := { name := "fnExactNakayamaOf", fn := fun _ => fun
  | [d] => { results := [.lit (.bool false)], args := [d] }
  | _ => none }
def FnExactNakayamaOfWrongFalsely : Prop := fnExactNakayamaOfRow.holds Try.pinned (OpenSpec.ofChange fnExactNakayamaOfWrong)

/-- 'laws.FnExactGenusNumber': WHATEVER THE INPUT: true; the input reads as it did. -/
def fnExactGenusNumberSpec : ChangeSpec := { name := "fnExactGenusNumber", fn := fun _ => fun
  | [d1, d2] => { results := [.lit (.bool true)], args := [d1, d2] }
  | _ => none }
def fnExactGenusNumberRow : OpenClaim := { program := "ytkodkghomlkifaa", sum := "e8bfeb4376824193cf1c3f77d36d3c660bb8caff7cb80f14f7aa2294a8eb5cd6", func := "loop.example/g01267/laws.FnExactGenusNumber", spec := "fnExactGenusNumber", plainKeys := false, apart := false }
def FnExactGenusNumberSaid : Prop := fnExactGenusNumberRow.holds Try.pinned (OpenSpec.ofChange fnExactGenusNumberSpec)

/-- ITS FALSE NEIGHBOUR: 'it returns false'. Refute it at one input. -/
def fnExactGenusNumberWrong : ChangeSpec := { name := "fnExactGenusNumber", fn := fun _ => fun
  | [d1, d2] => { results := [.lit (.bool false)], args := [d1, d2] }
  | _ => none }
def FnExactGenusNumberWrongFalsely : Prop := fnExactGenusNumberRow.holds Try.pinned (OpenSpec.ofChange fnExactGenusNumberWrong)

/-- 'laws.FnExactLegNumber': WHATEVER THE INPUT: true; the input reads as it did. -/
def fnExactLegNumberSpec : ChangeSpec := { name := "fnExactLegNumber", fn := fun _ => fun
  | [d1, d2, d3] => { results := [.lit (.bool true)], args := [d1, d2, d3] }
  | _ => none }
def fnExactLegNumberRow : OpenClaim := { program := "ytkodkghomlkifaa", sum := "e8bfeb4376824193cf1c3f77d36d3c660bb8caff7cb80f14f7aa2294a8eb5cd6", func := "loop.example/g01267/laws.FnExactLegNumber", spec := "fnExactLegNumber", plainKeys := false, apart := false }
def FnExactLegNumberSaid : Prop := fnExactLegNumberRow.holds Try.pinned (OpenSpec.ofChange fnExactLegNumberSpec)

/-- ITS FALSE NEIGHBOUR: 'it returns false'. Refute it at one input. -/
def fnExactLegNumberWrong : ChangeSpec := { name := "fnExactLegNumber", fn := fun _ => fun
  | [d1, d2, d3] => { results := [.lit (.bool false)], args := [d1, d2, d3] }
  | _ => none }
def FnExactLegNumberWrongFalsely : Prop := fnExactLegNumberRow.holds Try.pinned (OpenSpec.ofChange fnExactLegNumberWrong)

/-- 'laws.FnExactIsStar': WHATEVER THE INPUT: true; the input reads as it did. -/
def fnExactIsStarSpec : ChangeSpec := { name := "fnExactIsStar", fn := fun _ => fun
  | [d1, d2] => { results := [.lit (.bool true)], args := [d1, d2] }
  | _ => none }
def fnExactIsStarRow : OpenClaim := { program := "ytkodkghomlkifaa", sum := "e8bfeb4376824193cf1c3f77d36d3c660bb8caff7cb80f14f7aa2294a8eb5cd6", func := "loop.example/g01267/laws.FnExactIsStar", spec := "fnExactIsStar", unfollowed := true, recurses := true, plainKeys := false, apart := false }
def FnExactIsStarSaid : Prop := fnExactIsStarRow.holds Try.pinned (OpenSpec.ofChange fnExactIsStarSpec)

/-- ITS FALSE NEIGHBOUR: 'it returns false'. Refute it at one input. -/
def fnExactIsStarWrong : ChangeSpec := { name := "fnExactIsStar", fn := fun _ => fun
  | [d1, d2] => { results := [.lit (.bool false)], args := [d1, d2] }
  | _ => none }
def FnExactIsStarWrongFalsely : Prop := fnExactIsStarRow.holds Try.pinned (OpenSpec.ofChange fnExactIsStarWrong)

/-- 'laws.FnExactApplyStar': WHATEVER THE INPUT: true; the input reads as it did. -/
def fnExactApplyStarSpec : ChangeSpec := { name := "fnExactApplyStar", fn := fun _ => fun
  | [d1, d2, d3] => { results := [.lit (.bool true)], args := [d1, d2, d3] }
  | _ => none }
def fnExactApplyStarRow : OpenClaim := { program := "ytkodkghomlkifaa", sum := "e8bfeb4376824193cf1c3f77d36d3c660bb8caff7cb80f14f7aa2294a8eb5cd6", func := "loop.example/g01267/laws.FnExactApplyStar", spec := "fnExactApplyStar", unfollowed := true, recurses := true, plainKeys := false, apart := false }
def FnExactApplyStarSaid : Prop := fnExactApplyStarRow.holds Try.pinned (OpenSpec.ofChange fnExactApplyStarSpec)

/-- ITS FALSE NEIGHBOUR: 'it returns false'. Refute it at one input. -/
def fnExactApplyStarWrong : ChangeSpec := { name := "fnExactApplyStar", fn := fun _ => fun
  | [d1, d2, d3] => { results := [.lit (.bool false)], args := [d1, d2, d3] }
  | _ => none }
def FnExactApplyStarWrongFalsely : Prop := fnExactApplyStarRow.holds Try.pinned (OpenSpec.ofChange fnExactApplyStarWrong)

/-- 'laws.FnExactIdentityStar': WHATEVER THE INPUT: true; the input reads as it did. -/
def fnExactIdentityStarSpec : ChangeSpec := { name := "fnExactIdentityStar", fn := fun _ => fun
  | [d] => { results := [.lit (.bool true)], args := [d] }
  | _ => none }
def fnExactIdentityStarRow : OpenClaim := { program := "ytkodkghomlkifaa", sum := "e8bfeb4376824193cf1c3f77d36d3c660bb8caff7cb80f14f7aa2294a8eb5cd6", func := "loop.example/g01267/laws.FnExactIdentityStar", spec := "fnExactIdentityStar", plainKeys := false, apart := false }
def FnExactIdentityStarSaid : Prop := fnExactIdentityStarRow.holds Try.pinned (OpenSpec.ofChange fnExactIdentityStarSpec)

/-- ITS FALSE NEIGHBOUR: 'it returns false'. Refute it at one input. -/
def fnExactIdentityStarWrong : ChangeSpec := { name := "fnExactIdentityStar", fn := fun _ => fun
  | [d] => { results := [.lit (.bool false)], args := [d] }
  | _ => none }
def FnExactIdentityStarWrongFalsely : Prop := fnExactIdentityStarRow.holds Try.pinned (OpenSpec.ofChange fnExactIdentityStarWrong)

/-- 'laws.FnExactKleinOf': WHATEVER THE INPUT: true; the input reads as it did. -/
def fnExactKleinOfSpec : ChangeSpec := { name := "fnExactKleinOf", fn := fun _ => fun
  | [d1, d2] => { results := [.lit (.bool true)], args := [d1, d2] }
  | _ => none }
def fnExactKleinOfRow : OpenClaim := { program := "ytkodkghomlkifaa", sum := "e8bfeb4376824193cf1c3f77d36d3c660bb8caff7cb80f14f7aa2294a8eb5cd6", func := "loop.example/g01267/laws.FnExactKleinOf", spec := "fnExactKleinOf", unfollowed := true, recurses := true, plainKeys := false, apart := false }
def FnExactKleinOfSaid : Prop := fnExactKleinOfRow.holds Try.pinned (OpenSpec.ofChange fnExactKleinOfSpec)

/-- ITS FALSE NEIGHBOUR: 'it returns false'. Refute it at one input. -/
def fnExactKleinOfWrong : ChangeSpec := { name := "fnExactKleinOf", fn := fun _ => fun
  | [d1, d2] => { results := [.lit (.bool false)], args := [d1, d2] }
  | _ => none }
def FnExactKleinOfWrongFalsely : Prop := fnExactKleinOfRow.holds Try.pinned (OpenSpec.ofChange fnExactKleinOfWrong)

/-- 'laws.FnExactIsCrossCap': WHATEVER THE INPUT: true; the input reads as it did. -/
def fnExactIsCrossCapSpec : ChangeSpec := { name := "fnExactIsCrossCap", fn := fun _ => fun
  | [d1, d2, d3] => { results := [.lit (.bool true)], args := [d1, d2, d3] }
  | _ => none }
def fnExactIsCrossCapRow : OpenClaim := { program := "ytkodkghomlkifaa", sum := "e8bfeb4376824193cf1c3f77d36d3c660bb8caff7cb80f14f7aa2294a8eb5cd6", func := "loop.example/g01267/laws.FnExactIsCrossCap", spec := "fnExactIsCrossCap", unfollowed := true, recurses := true, plainKeys := false, apart := false }
def FnExactIsCrossCapSaid : Prop := fnExactIsCrossCapRow.holds Try.pinned (OpenSpec.ofChange fnExactIsCrossCapSpec)

/-- ITS FALSE NEIGHBOUR: 'it returns false'. Refute it at one input. -/
def fnExactIsCrossCapWrong : ChangeSpec := { name := "fnExactIsCrossCap", fn := fun _ => fun
  | [d1, d2, d3] => { results := [.lit (.bool false)], args := [d1, d2, d3] }
  | _ => none }
def FnExactIsCrossCapWrongFalsely : Prop := fnExactIsCrossCapRow.holds Try.pinned (OpenSpec.ofChange fnExactIsCrossCapWrong)

/-- 'laws.FnExactUnorientedNumber': WHATEVER THE INPUT: true; the input reads as it did. -/
def fnExactUnorientedNumberSpec : ChangeSpec := { name := "fnExactUnorientedNumber", fn := fun _ => fun
  | [d1, d2, d3, d4, d5] => { results := [.lit (.bool true)], args := [d1, d2, d3, d4, d5] }
  | _ => none }
def fnExactUnorientedNumberRow : OpenClaim := { program := "ytkodkghomlkifaa", sum := "e8bfeb4376824193cf1c3f77d36d3c660bb8caff7cb80f14f7aa2294a8eb5cd6", func := "loop.example/g01267/laws.FnExactUnorientedNumber", spec := "fnExactUnorientedNumber", unfollowed := true, recurses := true, plainKeys := false, apart := false }
def FnExactUnorientedNumberSaid : Prop := fnExactUnorientedNumberRow.holds Try.pinned (OpenSpec.ofChange fnExactUnorientedNumberSpec)

/-- ITS FALSE NEIGHBOUR: 'it returns false'. Refute it at one input. -/
def fnExactUnorientedNumberWrong : ChangeSpec := { name := "fnExactUnorientedNumber", fn := fun _ => fun
  | [d1, d2, d3, d4, d5] => { results := [.lit (.bool false)], args := [d1, d2, d3, d4, d5] }
  | _ => none }
def FnExactUnorientedNumberWrongFalsely : Prop := fnExactUnorientedNumberRow.holds Try.pinned (OpenSpec.ofChange fnExactUnorientedNumberWrong)

/- THE SECOND FORM. 'bulk': how many values and letters a reading holds, each counted each time it is reached (what is shared counts as often as it is met; a slice's spare places count too). A statement '..UptoSaid' is the law's where the arguments, and the package variables that the reading takes, are together of bulk at most 1048576: NARROWER than '..Said'. Prove '..Said' where nothing that the law and all that it calls make is longer than what came in: it says more and counts as full. Else prove '..UptoSaid'. A law counts once. -/
mutual
def uptoBulk {H : Type} : DataW H → Nat
  | .lit (.string bytes) => bytes.length + 1
  | .lit _ => 1
  | .nil => 1
  | .ptr d => uptoBulk d + 1
  | .slice elems spare => uptoBulkAll elems + uptoBulkAll spare + 1
  | .agg parts => uptoBulkAll parts + 1
  | .iface _ d => uptoBulk d + 1
  | .map entries => uptoBulkEntries entries + 1
  | .held _ => 1
def uptoBulkAll {H : Type} : List (DataW H) → Nat
  | [] => 0
  | d :: r => uptoBulk d + uptoBulkAll r
def uptoBulkEntries {H : Type} : List (Lit × DataW H) → Nat
  | [] => 0
  | x :: r => uptoBulkEntry x + uptoBulkEntries r
def uptoBulkEntry {H : Type} : Lit × DataW H → Nat
  | (.string bytes, d) => bytes.length + uptoBulk d + 1
  | (_, d) => uptoBulk d + 1
 end
def uptoSmall : (H : Type) → List (DataW H) → Bool := fun _ ds => decide (uptoBulkAll ds ≤ 1048576)
def OpenSpec.upto (s : _root_.Go.ChangeSpec) : _root_.Go.OpenSpec := { _root_.Go.OpenSpec.ofChange s with cond := some uptoSmall }

/-- 'laws.FnExactHandleOf', WHERE WHAT IT READS IS OF BULK AT MOST 1048576: true; the input reads as it did. -/
def fnExactHandleOfUptoRow : OpenClaim := { program := "ytkodkghomlkifaa", sum := "e8bfeb4376824193cf1c3f77d36d3c660bb8caff7cb80f14f7aa2294a8eb5cd6", func := "loop.example/g01267/laws.FnExactHandleOf", spec := "fnExactHandleOf", plainKeys := false, apart := false, narrowed := true }
def FnExactHandleOfUptoSaid : Prop := fnExactHandleOfUptoRow.holds Try.pinned (OpenSpec.upto fnExactHandleOfSpec)

/-- 'laws.FnExactNakayamaOf', WHERE WHAT IT READS IS OF BULK AT MOST 1048576: true; the input reads as it did. -/
def fnExactNakayamaOfUptoRow : OpenClaim := { program := "ytkodkghomlkifaa", sum := "e8bfeb4376824193cf1c3f77d36d3c660bb8caff7cb80f14f7aa2294a8eb5cd6", func := "loop.example/g01267/laws.FnExactNakayamaOf", spec := "fnExactNakayamaOf", plainKeys := false, apart := false, narrowed := true }
def FnExactNakayamaOfUptoSaid : Prop := fnExactNakayamaOfUptoRow.holds Try.pinned (OpenSpec.upto fnExactNakayamaOfSpec)

/-- 'laws.FnExactGenusNumber', WHERE WHAT IT READS IS OF BULK AT MOST 1048576: true; the input reads as it did. -/
def fnExactGenusNumberUptoRow : OpenClaim := { program := "ytkodkghomlkifaa", sum := "e8bfeb4376824193cf1c3f77d36d3c660bb8caff7cb80f14f7aa2294a8eb5cd6", func := "loop.example/g01267/laws.FnExactGenusNumber", spec := "fnExactGenusNumber", plainKeys := false, apart := false, narrowed := true }
def FnExactGenusNumberUptoSaid : Prop := fnExactGenusNumberUptoRow.holds Try.pinned (OpenSpec.upto fnExactGenusNumberSpec)

/-- 'laws.FnExactLegNumber', WHERE WHAT IT READS IS OF BULK AT MOST 1048576: true; the input reads as it did. -/
def fnExactLegNumberUptoRow : OpenClaim := { program := "ytkodkghomlkifaa", sum := "e8bfeb4376824193cf1c3f77d36d3c660bb8caff7cb80f14f7aa2294a8eb5cd6", func := "loop.example/g01267/laws.FnExactLegNumber", spec := "fnExactLegNumber", plainKeys := false, apart := false, narrowed := true }
def FnExactLegNumberUptoSaid : Prop := fnExactLegNumberUptoRow.holds Try.pinned (OpenSpec.upto fnExactLegNumberSpec)

/-- 'laws.FnExactIsStar', WHERE WHAT IT READS IS OF BULK AT MOST 1048576: true; the input reads as it did. -/
def fnExactIsStarUptoRow : OpenClaim := { program := "ytkodkghomlkifaa", sum := "e8bfeb4376824193cf1c3f77d36d3c660bb8caff7cb80f14f7aa2294a8eb5cd6", func := "loop.example/g01267/laws.FnExactIsStar", spec := "fnExactIsStar", unfollowed := true, recurses := true, plainKeys := false, apart := false, narrowed := true }
def FnExactIsStarUptoSaid : Prop := fnExactIsStarUptoRow.holds Try.pinned (OpenSpec.upto fnExactIsStarSpec)

/-- 'laws.FnExactApplyStar', WHERE WHAT IT READS IS OF BULK AT MOST 1048576: true; the input reads as it did. -/
def fnExactApplyStarUptoRow : OpenClaim := { program := "ytkodkghomlkifaa", sum := "e8bfeb4376824193cf1c3f77d36d3c660bb8caff7cb80f14f7aa2294a8eb5cd6", func := "loop.example/g01267/laws.FnExactApplyStar", spec := "fnExactApplyStar", unfollowed := true, recurses := true, plainKeys := false, apart := false, narrowed := true }
def FnExactApplyStarUptoSaid : Prop := fnExactApplyStarUptoRow.holds Try.pinned (OpenSpec.upto fnExactApplyStarSpec)

/-- 'laws.FnExactIdentityStar', WHERE WHAT IT READS IS OF BULK AT MOST 1048576: true; the input reads as it did. -/
def fnExactIdentityStarUptoRow : OpenClaim := { program := "ytkodkghomlkifaa", sum := "e8bfeb4376824193cf1c3f77d36d3c660bb8caff7cb80f14f7aa2294a8eb5cd6", func := "loop.example/g01267/laws.FnExactIdentityStar", spec := "fnExactIdentityStar", plainKeys := false, apart := false, narrowed := true }
def FnExactIdentityStarUptoSaid : Prop := fnExactIdentityStarUptoRow.holds Try.pinned (OpenSpec.upto fnExactIdentityStarSpec)

/-- 'laws.FnExactKleinOf', WHERE WHAT IT READS IS OF BULK AT MOST 1048576: true; the input reads as it did. -/
def fnExactKleinOfUptoRow : OpenClaim := { program := "ytkodkghomlkifaa", sum := "e8bfeb4376824193cf1c3f77d36d3c660bb8caff7cb80f14f7aa2294a8eb5cd6", func := "loop.example/g01267/laws.FnExactKleinOf", spec := "fnExactKleinOf", unfollowed := true, recurses := true, plainKeys := false, apart := false, narrowed := true }
def FnExactKleinOfUptoSaid : Prop := fnExactKleinOfUptoRow.holds Try.pinned (OpenSpec.upto fnExactKleinOfSpec)

/-- 'laws.FnExactIsCrossCap', WHERE WHAT IT READS IS OF BULK AT MOST 1048576: true; the input reads as it did. -/
def fnExactIsCrossCapUptoRow : OpenClaim := { program := "ytkodkghomlkifaa", sum := "e8bfeb4376824193cf1c3f77d36d3c660bb8caff7cb80f14f7aa2294a8eb5cd6", func := "loop.example/g01267/laws.FnExactIsCrossCap", spec := "fnExactIsCrossCap", unfollowed := true, recurses := true, plainKeys := false, apart := false, narrowed := true }
def FnExactIsCrossCapUptoSaid : Prop := fnExactIsCrossCapUptoRow.holds Try.pinned (OpenSpec.upto fnExactIsCrossCapSpec)

/-- 'laws.FnExactUnorientedNumber', WHERE WHAT IT READS IS OF BULK AT MOST 1048576: true; the input reads as it did. -/
def fnExactUnorientedNumberUptoRow : OpenClaim := { program := "ytkodkghomlkifaa", sum := "e8bfeb4376824193cf1c3f77d36d3c660bb8caff7cb80f14f7aa2294a8eb5cd6", func := "loop.example/g01267/laws.FnExactUnorientedNumber", spec := "fnExactUnorientedNumber", unfollowed := true, recurses := true, plainKeys := false, apart := false, narrowed := true }
def FnExactUnorientedNumberUptoSaid : Prop := fnExactUnorientedNumberUptoRow.holds Try.pinned (OpenSpec.upto fnExactUnorientedNumberSpec)

end Rows
end Go.Proofs.Ytkodkghomlkifaa
