/-
  No cell of these rows narrows 'for every input' (looked for: loops, veiled, ifaces, maps, wideKeys, modest, calm, conditions, laid).
  DERIVED. THE GIVEN ROWS OF THIS SEAT. 13 by the template 'for every input the law returns true; each argument reads behind the call as it read before'; 0 by the template 'total and deterministic' (their statements: YtclfbjfgmocbhaaTotals.lean).
  GIVEN WITH THE SEED: the statements are not yours to turn. If you find one false, say at which input.
  Laid BY PROGRAM, IN A SANDBOX (cutbox-rows.mjs): the forced cells as the released guide's own fill.sh prints them over the translation 5a7ba3043d5bbcd8… (all of the seat's roots in one cut). By AI agents, Wed Nov 11 2026. No macro, syntax, notation, axiom, sorry.
-/
import Derived.Test.YtclfbjfgmocbhaaChecked
import GoSem.Claim
import GoSem.ClaimJoined
import GoSem.ClaimMapViews
import Derived.JoinedTies
import Derived.KernelRfl
namespace Go.Proofs.Ytclfbjfgmocbhaa
/- THE CELL 'sum', in the pinned program and in every row, IS THE sha256 OF THE DUMP (.gsa) THAT YtclfbjfgmocbhaaProg.lean LOADS. Nothing in Lean hashes anything: it is a label: what it is worth is what the hold of that sum in a sandbox is worth. -/
noncomputable def Try.pinned : Pinned := { name := "ytclfbjfgmocbhaa", sum := "5a7ba3043d5bbcd86d72aca215cfcf7dcfd7bbd82ecd2f1209adad32498ef2ea", checked := Try.checked }
namespace Rows
def none {H : Type} : Left H := { results := [], args := [] }

/-- 'laws.FnExactCentreOf': WHATEVER THE INPUT: true; the input reads as it did. -/
def fnExactCentreOfSpec : ChangeSpec := { name := "fnExactCentreOf", fn := fun _ => fun
  | [d] => { results := [.lit (.bool true)], args := [d] }
  | _ => none }
def fnExactCentreOfRow : OpenClaim := { program := "ytclfbjfgmocbhaa", sum := "5a7ba3043d5bbcd86d72aca215cfcf7dcfd7bbd82ecd2f1209adad32498ef2ea", func := "loop.example/g01267/laws.FnExactCentreOf", spec := "fnExactCentreOf", plainKeys := false, apart := false }
def FnExactCentreOfSaid : Prop := fnExactCentreOfRow.holds Try.pinned (OpenSpec.ofChange fnExactCentreOfSpec)

/-- ITS FALSE NEIGHBOUR: 'it returns false'. Refute it at one input. -/
def fnExactCentreOfWrong : ChangeSpec := { name := "fnExactCentreOf", fn := fun _ => fun
  | [d] => { results := [.lit (.bool false)], args := [d] }
  | _ => none }
def FnExactCentreOfWrongFalsely : Prop := fnExactCentreOfRow.holds Try.pinned (OpenSpec.ofChange fnExactCentreOfWrong)

/-- 'laws.FnExactAddAlgebras': WHATEVER THE INPUT: true; the input reads as it did. -/
def fnExactAddAlgebrasSpec : ChangeSpec := { name := "fnExactAddAlgebras", fn := fun _ => fun
  | [d1, d2] => { results := [.lit (.bool true)], args := [d1, d2] }
  | _ => none }
def fnExactAddAlgebrasRow : OpenClaim := { program := "ytclfbjfgmocbhaa", sum := "5a7ba3043d5bbcd86d72aca215cfcf7dcfd7bbd82ecd2f1209adad32498ef2ea", func := "loop.example/g01267/laws.FnExactAddAlgebras", spec := "fnExactAddAlgebras", plainKeys := false, apart := false }
def FnExactAddAlgebrasSaid : Prop := fnExactAddAlgebrasRow.holds Try.pinned (OpenSpec.ofChange fnExactAddAlgebrasSpec)

/-- ITS FALSE NEIGHBOUR: 'it returns false'. Refute it at one input. -/
def fnExactAddAlgebrasWrong : ChangeSpec := { name := "fnExactAddAlgebras", fn := fun _ => fun
  | [d1, d2] => { results := [.lit (.bool false)], args := [d1, d2] }
  | _ => none }
def FnExactAddAlgebrasWrongFalsely : Prop := fnExactAddAlgebrasRow.holds Try.pinned (OpenSpec.ofChange fnExactAddAlgebrasWrong)

/-- 'laws.FnExactTensorAlgebras': WHATEVER THE INPUT: true; the input reads as it did. -/
def fnExactTensorAlgebrasSpec : ChangeSpec := { name := "fnExactTensorAlgebras", fn := fun _ => fun
  | [d1, d2] => { results := [.lit (.bool true)], args := [d1, d2] }
  | _ => none }
def fnExactTensorAlgebrasRow : OpenClaim := { program := "ytclfbjfgmocbhaa", sum := "5a7ba3043d5bbcd86d72aca215cfcf7dcfd7bbd82ecd2f1209adad32498ef2ea", func := "loop.example/g01267/laws.FnExactTensorAlgebras", spec := "fnExactTensorAlgebras", plainKeys := false, apart := false }
def FnExactTensorAlgebrasSaid : Prop := fnExactTensorAlgebrasRow.holds Try.pinned (OpenSpec.ofChange fnExactTensorAlgebrasSpec)

/-- ITS FALSE NEIGHBOUR: 'it returns false'. Refute it at one input. -/
def fnExactTensorAlgebrasWrong : ChangeSpec := { name := "fnExactTensorAlgebras", fn := fun _ => fun
  | [d1, d2] => { results := [.lit (.bool false)], args := [d1, d2] }
  | _ => none }
def FnExactTensorAlgebrasWrongFalsely : Prop := fnExactTensorAlgebrasRow.holds Try.pinned (OpenSpec.ofChange fnExactTensorAlgebrasWrong)

/-- 'laws.FnExactFormTable': WHATEVER THE INPUT: true; the input reads as it did. -/
def fnExactFormTableSpec : ChangeSpec := { name := "fnExactFormTable", fn := fun _ => fun
  | [d] => { results := [.lit (.bool true)], args := [d] }
  | _ => none }
def fnExactFormTableRow : OpenClaim := { program := "ytclfbjfgmocbhaa", sum := "5a7ba3043d5bbcd86d72aca215cfcf7dcfd7bbd82ecd2f1209adad32498ef2ea", func := "loop.example/g01267/laws.FnExactFormTable", spec := "fnExactFormTable", plainKeys := false, apart := false }
def FnExactFormTableSaid : Prop := fnExactFormTableRow.holds Try.pinned (OpenSpec.ofChange fnExactFormTableSpec)

/-- ITS FALSE NEIGHBOUR: 'it returns false'. Refute it at one input. -/
def fnExactFormTableWrong : ChangeSpec := { name := "fnExactFormTable", fn := fun _ => fun
  | [d] => { results := [.lit (.bool false)], args := [d] }
  | _ => none }
def FnExactFormTableWrongFalsely : Prop := fnExactFormTableRow.holds Try.pinned (OpenSpec.ofChange fnExactFormTableWrong)

/-- 'laws.FnExactCopairingOf': WHATEVER THE INPUT: true; the input reads as it did. -/
def fnExactCopairingOfSpec : ChangeSpec := { name := "fnExactCopairingOf", fn := fun _ => fun
  | [d] => { results := [.lit (.bool true)], args := [d] }
  | _ => none }
def fnExactCopairingOfRow : OpenClaim := { program := "ytclfbjfgmocbhaa", sum := "5a7ba3043d5bbcd86d72aca215cfcf7dcfd7bbd82ecd2f1209adad32498ef2ea", func := "loop.example/g01267/laws.FnExactCopairingOf", spec := "fnExactCopairingOf", plainKeys := false, apart := false }
def FnExactCopairingOfSaid : Prop := fnExactCopairingOfRow.holds Try.pinned (OpenSpec.ofChange fnExactCopairingOfSpec)

/-- ITS FALSE NEIGHBOUR: 'it returns false'. Refute it at one input. -/
def fnExactCopairingOfWrong : ChangeSpec := { name := "fnExactCopairingOf", fn := fun _ => fun
  | [d] => { results := [.lit (.bool false)], args := [d] }
  | _ => none }
def FnExactCopairingOfWrongFalsely : Prop := fnExactCopairingOfRow.holds Try.pinned (OpenSpec.ofChange fnExactCopairingOfWrong)

/-- 'laws.FnExactDualBasis': WHATEVER THE INPUT: true; the input reads as it did. -/
def fnExactDualBasisSpec : ChangeSpec := { name := "fnExactDualBasis", fn := fun _ => fun
  | [d] => { results := [.lit (.bool true)], args := [d] }
  | _ => none }
def fnExactDualBasisRow : OpenClaim := { program := "ytclfbjfgmocbhaa", sum := "5a7ba3043d5bbcd86d72aca215cfcf7dcfd7bbd82ecd2f1209adad32498ef2ea", func := "loop.example/g01267/laws.FnExactDualBasis", spec := "fnExactDualBasis", plainKeys := false, apart := false }
def FnExactDualBasisSaid : Prop := fnExactDualBasisRow.holds Try.pinned (OpenSpec.ofChange fnExactDualBasisSpec)

/-- ITS FALSE NEIGHBOUR: 'it returns false'. Refute it at one input. -/
def fnExactDualBasisWrong : ChangeSpec := { name := "fnExactDualBasis", fn := fun _ => fun
  | [d] => { results := [.lit (.bool false)], args := [d] }
  | _ => none }
def FnExactDualBasisWrongFalsely : Prop := fnExactDualBasisRow.holds Try.pinned (OpenSpec.ofChange fnExactDualBasisWrong)

/-- 'laws.FnExactCoproductOf': WHATEVER THE INPUT: true; the input reads as it did. -/
def fnExactCoproductOfSpec : ChangeSpec := { name := "fnExactCoproductOf", fn := fun _ => fun
  | [d1, d2] => { results := [.lit (.bool true)], args := [d1, d2] }
  | _ => none }
def fnExactCoproductOfRow : OpenClaim := { program := "ytclfbjfgmocbhaa", sum := "5a7ba3043d5bbcd86d72aca215cfcf7dcfd7bbd82ecd2f1209adad32498ef2ea", func := "loop.example/g01267/laws.FnExactCoproductOf", spec := "fnExactCoproductOf", plainKeys := false, apart := false }
def FnExactCoproductOfSaid : Prop := fnExactCoproductOfRow.holds Try.pinned (OpenSpec.ofChange fnExactCoproductOfSpec)

/-- ITS FALSE NEIGHBOUR: 'it returns false'. Refute it at one input. -/
def fnExactCoproductOfWrong : ChangeSpec := { name := "fnExactCoproductOf", fn := fun _ => fun
  | [d1, d2] => { results := [.lit (.bool false)], args := [d1, d2] }
  | _ => none }
def FnExactCoproductOfWrongFalsely : Prop := fnExactCoproductOfRow.holds Try.pinned (OpenSpec.ofChange fnExactCoproductOfWrong)

/-- 'laws.FnExactHandleOf': WHATEVER THE INPUT: true; the input reads as it did. -/
def fnExactHandleOfSpec : ChangeSpec := { name := "fnExactHandleOf", fn := fun _ => fun
  | [d] => { results := [.lit (.bool true)], args := [d] }
  | _ => none }
def fnExactHandleOfRow : OpenClaim := { program := "ytclfbjfgmocbhaa", sum := "5a7ba3043d5bbcd86d72aca215cfcf7dcfd7bbd82ecd2f1209adad32498ef2ea", func := "loop.example/g01267/laws.FnExactHandleOf", spec := "fnExactHandleOf", plainKeys := false, apart := false }
def FnExactHandleOfSaid : Prop := fnExactHandleOfRow.holds Try.pinned (OpenSpec.ofChange fnExactHandleOfSpec)

/-- ITS FALSE NEIGHBOUR: 'it returns false'. Refute it at one input. -/
def fnExactHandleOfWrong : ChangeSpec := { name := "fnExactHandleOf", fn := fun _ => fun
  | [d] => { results := [.lit (.bool false)], args := [d] }
  | _ => none }
def FnExactHandleOfWrongFalsely : Prop := fnExactHandleOfRow.holds Try.pinned (OpenSpec.ofChange fnExactHandleOfWrong)

/-- 'laws.FnExactChangeForm': WHATEVER THE INPUT: true; the input reads as it did. -/
def fnExactChangeFormSpec : ChangeSpec := { name := "fnExactChangeForm", fn := fun _ => fun
  | [d1, d2] => { results := [.lit (.bool true)], args := [d1, d2] }
  | _ => none }
def fnExactChangeFormRow : OpenClaim := { program := "ytclfbjfgmocbhaa", sum := "5a7ba3043d5bbcd86d72aca215cfcf7dcfd7bbd82ecd2f1209adad32498ef2ea", func := "loop.example/g01267/laws.FnExactChangeForm", spec := "fnExactChangeForm", plainKeys := false, apart := false }
def FnExactChangeFormSaid : Prop := fnExactChangeFormRow.holds Try.pinned (OpenSpec.ofChange fnExactChangeFormSpec)

/-- ITS FALSE NEIGHBOUR: 'it returns false'. Refute it at one input. -/
def fnExactChangeFormWrong : ChangeSpec := { name := "fnExactChangeForm", fn := fun _ => fun
  | [d1, d2] => { results := [.lit (.bool false)], args := [d1, d2] }
  | _ => none }
def FnExactChangeFormWrongFalsely : Prop := fnExactChangeFormRow.holds Try.pinned (OpenSpec.ofChange fnExactChangeFormWrong)

/-- 'laws.FnExactNakayamaOf': WHATEVER THE INPUT: true; the input reads as it did. -/
def fnExactNakayamaOfSpec : ChangeSpec := { name := "fnExactNakayamaOf", fn := fun _ => fun
  | [d] => { results := [.lit (.bool true)], args := [d] }
  | _ => none }
def fnExactNakayamaOfRow : OpenClaim := { program := "ytclfbjfgmocbhaa", sum := "5a7ba3043d5bbcd86d72aca215cfcf7dcfd7bbd82ecd2f1209adad32498ef2ea", func := "loop.example/g01267/laws.FnExactNakayamaOf", spec := "fnExactNakayamaOf", plainKeys := false, apart := false }
def FnExactNakayamaOfSaid : Prop := fnExactNakayamaOfRow.holds Try.pinned (OpenSpec.ofChange fnExactNakayamaOfSpec)

/-- ITS FALSE NEIGHBOUR: 'it returns false'. Refute it at one input. -/
def fnExactNakayamaOfWrong : ChangeSpec := { name := "fnExactNakayamaOf", fn := fun _ => fun
  | [d] => { results := [.lit (.bool false)], args := [d] }
  | _ => none }
def FnExactNakayamaOfWrongFalsely : Prop := fnExactNakayamaOfRow.holds Try.pinned (OpenSpec.ofChange fnExactNakayamaOfWrong)

/-- 'laws.FnExactGenusNumber': WHATEVER THE INPUT: true; the input reads as it did. -/
def fnExactGenusNumberSpec : ChangeSpec := { name := "fnExactGenusNumber", fn := fun _ => fun
  | [d1, d2] => { results := [.lit (.bool true)], args := [d1, d2] }
  | _ => none }
def fnExactGenusNumberRow : OpenClaim := { program := "ytclfbjfgmocbhaa", sum := "5a7ba3043d5bbcd86d72aca215cfcf7dcfd7bbd82ecd2f1209adad32498ef2ea", func := "loop.example/g01267/laws.FnExactGenusNumber", spec := "fnExactGenusNumber", plainKeys := false, apart := false }
def FnExactGenusNumberSaid : Prop := fnExactGenusNumberRow.holds Try.pinned (OpenSpec.ofChange fnExactGenusNumberSpec)

/-- ITS FALSE NEIGHBOUR: 'it returns false'. Refute it at one input. -/
def fnExactGenusNumberWrong : ChangeSpec := { name := "fnExactGenusNumber", fn := fun _ => fun
  | [d1, d2] => { results := [.lit (.bool false)], args := [d1, d2] }
  | _ => none }
def FnExactGenusNumberWrongFalsely : Prop := fnExactGenusNumberRow.holds Try.pinned (OpenSpec.ofChange fnExactGenusNumberWrong)

/-- 'laws.FnExactLegNumber': WHATEVER THE INPUT: true; the input reads as it did. -/
def fnExactLegNumberSpec : ChangeSpec := { name := "fnExactLegNumber", fn := fun _ => fun
  | [d1, d2, d3] => { results := [.lit (.bool true)], args := [d1, d2, d3] }
  | _ => none }
def fnExactLegNumberRow : OpenClaim := { program := "ytclfbjfgmocbhaa", sum := "5a7ba3043d5bbcd86d72aca215cfcf7dcfd7bbd82ecd2f1209adad32498ef2ea", func := "loop.example/g01267/laws.FnExactLegNumber", spec := "fnExactLegNumber", plainKeys := false, apart := false }
def FnExactLegNumberSaid : Prop := fnExactLegNumberRow.holds Try.pinned (OpenSpec.ofChange fnExactLegNumberSpec)

/-- ITS FALSE NEIGHBOUR: 'it returns false'. Refute it at one input. -/
def fnExactLegNumberWrong : ChangeSpec := { name := "fnExactLegNumber", fn := fun _ => fun
  | [d1, d2, d3] => { results := [.lit (.bool false)], args := [d1, d2, d3] }
  | _ => none }
def FnExactLegNumberWrongFalsely : Prop := fnExactLegNumberRow.holds Try.pinned (OpenSpec.ofChange fnExactLegNumberWrong)

/-- 'laws.FnExactIsInvertible': WHATEVER THE INPUT: true; the input reads as it did. -/
def fnExactIsInvertibleSpec : ChangeSpec := { name := "fnExactIsInvertible", fn := fun _ => fun
  | [d1, d2] => { results := [.lit (.bool true)], args := [d1, d2] }
  | _ => none }
def fnExactIsInvertibleRow : OpenClaim := { program := "ytclfbjfgmocbhaa", sum := "5a7ba3043d5bbcd86d72aca215cfcf7dcfd7bbd82ecd2f1209adad32498ef2ea", func := "loop.example/g01267/laws.FnExactIsInvertible", spec := "fnExactIsInvertible", plainKeys := false, apart := false }
def FnExactIsInvertibleSaid : Prop := fnExactIsInvertibleRow.holds Try.pinned (OpenSpec.ofChange fnExactIsInvertibleSpec)

/-- ITS FALSE NEIGHBOUR: 'it returns false'. Refute it at one input. -/
def fnExactIsInvertibleWrong : ChangeSpec := { name := "fnExactIsInvertible", fn := fun _ => fun
  | [d1, d2] => { results := [.lit (.bool false)], args := [d1, d2] }
  | _ => none }
def FnExactIsInvertibleWrongFalsely : Prop := fnExactIsInvertibleRow.holds Try.pinned (OpenSpec.ofChange fnExactIsInvertibleWrong)

/- THE SECOND FORM. 'bulk': how many values and letters a reading holds, each counted each time it is reached (what is shared counts as often as it is met; a slice's spare places count too). A statement '..UptoSaid' is the law's where the arguments, and the package variables that the reading takes, are together of bulk at most 1048576: NARROWER than '..Said'. Prove '..Said' where nothing that the law and all that it calls make is longer than what came in: it says more and counts as full. Else prove '..UptoSaid'. A law counts once. -/
mutual
def uptoBulk {H : Type} : DataW H → Nat
  | .lit (.string bytes) => bytes.length + 1
  | .lit _ => 1
  | .nil => 1
  | .ptr d => uptoBulk d + 1
  | .slice elems spare => uptoBulkAll elems + uptoBulkAll spare + 1
  | .agg parts => uptoBulkAll parts + 1
  | .iface _ d => uptoBulk d + 1
  | .map entries => uptoBulkEntries entries + 1
  | .held _ => 1
def uptoBulkAll {H : Type} : List (DataW H) → Nat
  | [] => 0
  | d :: r => uptoBulk d + uptoBulkAll r
def uptoBulkEntries {H : Type} : List (Lit × DataW H) → Nat
  | [] => 0
  | x :: r => uptoBulkEntry x + uptoBulkEntries r
def uptoBulkEntry {H : Type} : Lit × DataW H → Nat
  | (.string bytes, d) => bytes.length + uptoBulk d + 1
  | (_, d) => uptoBulk d + 1
 end
def uptoSmall : (H : Type) → List (DataW H) → Bool := fun _ ds => decide (uptoBulkAll ds ≤ 1048576)
def OpenSpec.upto (s : _root_.Go.ChangeSpec) : _root_.Go.OpenSpec := { _root_.Go.OpenSpec.ofChange s with cond := some uptoSmall }

/-- 'laws.FnExactCentreOf', WHERE WHAT IT READS IS OF BULK AT MOST 1048576: true; the input reads as it did. -/
def fnExactCentreOfUptoRow : OpenClaim := { program := "ytclfbjfgmocbhaa", sum := "5a7ba3043d5bbcd86d72aca215cfcf7dcfd7bbd82ecd2f1209adad32498ef2ea", func := "loop.example/g01267/laws.FnExactCentreOf", spec := "fnExactCentreOf", plainKeys := false, apart := false, narrowed := true }
def FnExactCentreOfUptoSaid : Prop := fnExactCentreOfUptoRow.holds Try.pinned (OpenSpec.upto fnExactCentreOfSpec)

/-- 'laws.FnExactAddAlgebras', WHERE WHAT IT READS IS OF BULK AT MOST 1048576: true; the input reads as it did. -/
def fnExactAddAlgebrasUptoRow : OpenClaim := { program := "ytclfbjfgmocbhaa", sum := "5a7ba3043d5bbcd86d72aca215cfcf7dcfd7bbd82ecd2f1209adad32498ef2ea", func := "loop.example/g01267/laws.FnExactAddAlgebras", spec := "fnExactAddAlgebras", plainKeys := false, apart := false, narrowed := true }
def FnExactAddAlgebrasUptoSaid : Prop := fnExactAddAlgebrasUptoRow.holds Try.pinned (OpenSpec.upto fnExactAddAlgebrasSpec)

/-- 'laws.FnExactTensorAlgebras', WHERE WHAT IT READS IS OF BULK AT MOST 1048576: true; the input reads as it did. -/
def fnExactTensorAlgebrasUptoRow : OpenClaim := { program := "ytclfbjfgmocbhaa", sum := "5a7ba3043d5bbcd86d72aca215cfcf7dcfd7bbd82ecd2f1209adad32498ef2ea", func := "loop.example/g01267/laws.FnExactTensorAlgebras", spec := "fnExactTensorAlgebras", plainKeys := false, apart := false, narrowed := true }
def FnExactTensorAlgebrasUptoSaid : Prop := fnExactTensorAlgebrasUptoRow.holds Try.pinned (OpenSpec.upto fnExactTensorAlgebrasSpec)

/-- 'laws.FnExactFormTable', WHERE WHAT IT READS IS OF BULK AT MOST 1048576: true; the input reads as it did. -/
def fnExactFormTableUptoRow : OpenClaim := { program := "ytclfbjfgmocbhaa", sum := "5a7ba3043d5bbcd86d72aca215cfcf7dcfd7bbd82ecd2f1209adad32498ef2ea", func := "loop.example/g01267/laws.FnExactFormTable", spec := "fnExactFormTable", plainKeys := false, apart := false, narrowed := true }
def FnExactFormTableUptoSaid : Prop := fnExactFormTableUptoRow.holds Try.pinned (OpenSpec.upto fnExactFormTableSpec)

/-- 'laws.FnExactCopairingOf', WHERE WHAT IT READS IS OF BULK AT MOST 1048576: true; the input reads as it did. -/
def fnExactCopairingOfUptoRow : OpenClaim := { program := "ytclfbjfgmocbhaa", sum := "5a7ba3043d5bbcd86d72aca215cfcf7dcfd7bbd82ecd2f1209adad32498ef2ea", func := "loop.example/g01267/laws.FnExactCopairingOf", spec := "fnExactCopairingOf", plainKeys := false, apart := false, narrowed := true }
def FnExactCopairingOfUptoSaid : Prop := fnExactCopairingOfUptoRow.holds Try.pinned (OpenSpec.upto fnExactCopairingOfSpec)

/-- 'laws.FnExactDualBasis', WHERE WHAT IT READS IS OF BULK AT MOST 1048576: true; the input reads as it did. -/
def fnExactDualBasisUptoRow : OpenClaim := { program := "ytclfbjfgmocbhaa", sum := "5a7ba3043d5bbcd86d72aca215cfcf7dcfd7bbd82ecd2f1209adad32498ef2ea", func := "loop.example/g01267/laws.FnExactDualBasis", spec := "fnExactDualBasis", plainKeys := false, apart := false, narrowed := true }
def FnExactDualBasisUptoSaid : Prop := fnExactDualBasisUptoRow.holds Try.pinned (OpenSpec.upto fnExactDualBasisSpec)

/-- 'laws.FnExactCoproductOf', WHERE WHAT IT READS IS OF BULK AT MOST 1048576: true; the input reads as it did. -/
def fnExactCoproductOfUptoRow : OpenClaim := { program := "ytclfbjfgmocbhaa", sum := "5a7ba3043d5bbcd86d72aca215cfcf7dcfd7bbd82ecd2f1209adad32498ef2ea", func := "loop.example/g01267/laws.FnExactCoproductOf", spec := "fnExactCoproductOf", plainKeys := false, apart := false, narrowed := true }
def FnExactCoproductOfUptoSaid : Prop := fnExactCoproductOfUptoRow.holds Try.pinned (OpenSpec.upto fnExactCoproductOfSpec)

/-- 'laws.FnExactHandleOf', WHERE WHAT IT READS IS OF BULK AT MOST 1048576: true; the input reads as it did. -/
def fnExactHandleOfUptoRow : OpenClaim := { program := "ytclfbjfgmocbhaa", sum := "5a7ba3043d5bbcd86d72aca215cfcf7dcfd7bbd82ecd2f1209adad32498ef2ea", func := "loop.example/g01267/laws.FnExactHandleOf", spec := "fnExactHandleOf", plainKeys := false, apart := false, narrowed := true }
def FnExactHandleOfUptoSaid : Prop := fnExactHandleOfUptoRow.holds Try.pinned (OpenSpec.upto fnExactHandleOfSpec)

/-- 'laws.FnExactChangeForm', WHERE WHAT IT READS IS OF BULK AT MOST 1048576: true; the input reads as it did. -/
def fnExactChangeFormUptoRow : OpenClaim := { program := "ytclfbjfgmocbhaa", sum := "5a7ba3043d5bbcd86d72aca215cfcf7dcfd7bbd82ecd2f1209adad32498ef2ea", func := "loop.example/g01267/laws.FnExactChangeForm", spec := "fnExactChangeForm", plainKeys := false, apart := false, narrowed := true }
def FnExactChangeFormUptoSaid : Prop := fnExactChangeFormUptoRow.holds Try.pinned (OpenSpec.upto fnExactChangeFormSpec)

/-- 'laws.FnExactNakayamaOf', WHERE WHAT IT READS IS OF BULK AT MOST 1048576: true; the input reads as it did. -/
def fnExactNakayamaOfUptoRow : OpenClaim := { program := "ytclfbjfgmocbhaa", sum := "5a7ba3043d5bbcd86d72aca215cfcf7dcfd7bbd82ecd2f1209adad32498ef2ea", func := "loop.example/g01267/laws.FnExactNakayamaOf", spec := "fnExactNakayamaOf", plainKeys := false, apart := false, narrowed := true }
def FnExactNakayamaOfUptoSaid : Prop := fnExactNakayamaOfUptoRow.holds Try.pinned (OpenSpec.upto fnExactNakayamaOfSpec)

/-- 'laws.FnExactGenusNumber', WHERE WHAT IT READS IS OF BULK AT MOST 1048576: true; the input reads as it did. -/
def fnExactGenusNumberUptoRow : OpenClaim := { program := "ytclfbjfgmocbhaa", sum := "5a7ba3043d5bbcd86d72aca215cfcf7dcfd7bbd82ecd2f1209adad32498ef2ea", func := "loop.example/g01267/laws.FnExactGenusNumber", spec := "fnExactGenusNumber", plainKeys := false, apart := false, narrowed := true }
def FnExactGenusNumberUptoSaid : Prop := fnExactGenusNumberUptoRow.holds Try.pinned (OpenSpec.upto fnExactGenusNumberSpec)

/-- 'laws.FnExactLegNumber', WHERE WHAT IT READS IS OF BULK AT MOST 1048576: true; the input reads as it did. -/
def fnExactLegNumberUptoRow : OpenClaim := { program := "ytclfbjfgmocbhaa", sum := "5a7ba3043d5bbcd86d72aca215cfcf7dcfd7bbd82ecd2f1209adad32498ef2ea", func := "loop.example/g01267/laws.FnExactLegNumber", spec := "fnExactLegNumber", plainKeys := false, apart := false, narrowed := true }
def FnExactLegNumberUptoSaid : Prop := fnExactLegNumberUptoRow.holds Try.pinned (OpenSpec.upto fnExactLegNumberSpec)

/-- 'laws.FnExactIsInvertible', WHERE WHAT IT READS IS OF BULK AT MOST 1048576: true; the input reads as it did. -/
def fnExactIsInvertibleUptoRow : OpenClaim := { program := "ytclfbjfgmocbhaa", sum := "5a7ba3043d5bbcd86d72aca215cfcf7dcfd7bbd82ecd2f1209adad32498ef2ea", func := "loop.example/g01267/laws.FnExactIsInvertible", spec := "fnExactIsInvertible", plainKeys := false, apart := false, narrowed := true }
def FnExactIsInvertibleUptoSaid : Prop := fnExactIsInvertibleUptoRow.holds Try.pinned (OpenSpec.upto fnExactIsInvertibleSpec)

end Rows
end Go.Proofs.Ytclfbjfgmocbhaa
