/-
  No cell of these rows narrows 'for every input' (looked for: loops, veiled, ifaces, maps, wideKeys, modest, calm, conditions, laid).
  DERIVED. THE GIVEN ROWS OF THIS SEAT. 10 by the template 'for every input the law returns true; each argument reads behind the call as it read before'; 0 by the template 'total and deterministic' (their statements: YthliekalhgafcaaTotals.lean).
  GIVEN WITH THE SEED: the statements are not yours to turn. If you find one false, say at which input.
  Laid BY PROGRAM, IN A SANDBOX (cutbox-rows.mjs): the forced cells as the released guide's own fill.sh prints them over the translation db008e9aacab69f1… (all of the seat's roots in one cut). By AI agents, Wed Nov 11 2026. No macro, syntax, notation, axiom, sorry.
-/
import Derived.Test.YthliekalhgafcaaChecked
import GoSem.Claim
import GoSem.ClaimJoined
import GoSem.ClaimMapViews
import Derived.JoinedTies
import Derived.KernelRfl
namespace Go.Proofs.Ythliekalhgafcaa
/- THE CELL 'sum', in the pinned program and in every row, IS THE sha256 OF THE DUMP (.gsa) THAT YthliekalhgafcaaProg.lean LOADS. Nothing in Lean hashes anything: it is a label: what it is worth is what the hold of that sum in a sandbox is worth. -/
noncomputable def Try.pinned : Pinned := { name := "ythliekalhgafcaa", sum := "db008e9aacab69f168d6e1d8da049b71629613a9ee770c2825948f9e24f572e6", checked := Try.checked }
namespace Rows
def none {H : Type} : Left H := { results := [], args := [] }

/-- 'laws.FnExactIsTensor': WHATEVER THE INPUT: true; the input reads as it did. -/
def fnExactIsTensorSpec : ChangeSpec := { name := "fnExactIsTensor", fn := fun _ => fun
  | [d] => { results := [.lit (.bool true)], args := [d] }
  | _ => none }
def fnExactIsTensorRow : OpenClaim := { program := "ythliekalhgafcaa", sum := "db008e9aacab69f168d6e1d8da049b71629613a9ee770c2825948f9e24f572e6", func := "loop.example/g01267/laws.FnExactIsTensor", spec := "fnExactIsTensor", apart := false }
def FnExactIsTensorSaid : Prop := fnExactIsTensorRow.holds Try.pinned (OpenSpec.ofChange fnExactIsTensorSpec)

/-- ITS FALSE NEIGHBOUR: 'it returns false'. Refute it at one input. -/
def fnExactIsTensorWrong : ChangeSpec := { name := "fnExactIsTensor", fn := fun _ => fun
  | [d] => { results := [.lit (.bool false)], args := [d] }
  | _ => none }
def FnExactIsTensorWrongFalsely : Prop := fnExactIsTensorRow.holds Try.pinned (OpenSpec.ofChange fnExactIsTensorWrong)

/-- 'laws.FnExactIdentityTensor': WHATEVER THE INPUT: true; the input reads as it did. -/
def fnExactIdentityTensorSpec : ChangeSpec := { name := "fnExactIdentityTensor", fn := fun _ => fun
  | [d1, d2, d3] => { results := [.lit (.bool true)], args := [d1, d2, d3] }
  | _ => none }
def fnExactIdentityTensorRow : OpenClaim := { program := "ythliekalhgafcaa", sum := "db008e9aacab69f168d6e1d8da049b71629613a9ee770c2825948f9e24f572e6", func := "loop.example/g01267/laws.FnExactIdentityTensor", spec := "fnExactIdentityTensor", apart := false }
def FnExactIdentityTensorSaid : Prop := fnExactIdentityTensorRow.holds Try.pinned (OpenSpec.ofChange fnExactIdentityTensorSpec)

/-- ITS FALSE NEIGHBOUR: 'it returns false'. Refute it at one input. -/
def fnExactIdentityTensorWrong : ChangeSpec := { name := "fnExactIdentityTensor", fn := fun _ => fun
  | [d1, d2, d3] => { results := [.lit (.bool false)], args := [d1, d2, d3] }
  | _ => none }
def FnExactIdentityTensorWrongFalsely : Prop := fnExactIdentityTensorRow.holds Try.pinned (OpenSpec.ofChange fnExactIdentityTensorWrong)

/-- 'laws.FnExactProductTensor': WHATEVER THE INPUT: true; the input reads as it did. -/
def fnExactProductTensorSpec : ChangeSpec := { name := "fnExactProductTensor", fn := fun _ => fun
  | [d] => { results := [.lit (.bool true)], args := [d] }
  | _ => none }
def fnExactProductTensorRow : OpenClaim := { program := "ythliekalhgafcaa", sum := "db008e9aacab69f168d6e1d8da049b71629613a9ee770c2825948f9e24f572e6", func := "loop.example/g01267/laws.FnExactProductTensor", spec := "fnExactProductTensor", apart := false }
def FnExactProductTensorSaid : Prop := fnExactProductTensorRow.holds Try.pinned (OpenSpec.ofChange fnExactProductTensorSpec)

/-- ITS FALSE NEIGHBOUR: 'it returns false'. Refute it at one input. -/
def fnExactProductTensorWrong : ChangeSpec := { name := "fnExactProductTensor", fn := fun _ => fun
  | [d] => { results := [.lit (.bool false)], args := [d] }
  | _ => none }
def FnExactProductTensorWrongFalsely : Prop := fnExactProductTensorRow.holds Try.pinned (OpenSpec.ofChange fnExactProductTensorWrong)

/-- 'laws.FnExactUnitTensor': WHATEVER THE INPUT: true; the input reads as it did. -/
def fnExactUnitTensorSpec : ChangeSpec := { name := "fnExactUnitTensor", fn := fun _ => fun
  | [d] => { results := [.lit (.bool true)], args := [d] }
  | _ => none }
def fnExactUnitTensorRow : OpenClaim := { program := "ythliekalhgafcaa", sum := "db008e9aacab69f168d6e1d8da049b71629613a9ee770c2825948f9e24f572e6", func := "loop.example/g01267/laws.FnExactUnitTensor", spec := "fnExactUnitTensor", apart := false }
def FnExactUnitTensorSaid : Prop := fnExactUnitTensorRow.holds Try.pinned (OpenSpec.ofChange fnExactUnitTensorSpec)

/-- ITS FALSE NEIGHBOUR: 'it returns false'. Refute it at one input. -/
def fnExactUnitTensorWrong : ChangeSpec := { name := "fnExactUnitTensor", fn := fun _ => fun
  | [d] => { results := [.lit (.bool false)], args := [d] }
  | _ => none }
def FnExactUnitTensorWrongFalsely : Prop := fnExactUnitTensorRow.holds Try.pinned (OpenSpec.ofChange fnExactUnitTensorWrong)

/-- 'laws.FnExactFormTensor': WHATEVER THE INPUT: true; the input reads as it did. -/
def fnExactFormTensorSpec : ChangeSpec := { name := "fnExactFormTensor", fn := fun _ => fun
  | [d] => { results := [.lit (.bool true)], args := [d] }
  | _ => none }
def fnExactFormTensorRow : OpenClaim := { program := "ythliekalhgafcaa", sum := "db008e9aacab69f168d6e1d8da049b71629613a9ee770c2825948f9e24f572e6", func := "loop.example/g01267/laws.FnExactFormTensor", spec := "fnExactFormTensor", apart := false }
def FnExactFormTensorSaid : Prop := fnExactFormTensorRow.holds Try.pinned (OpenSpec.ofChange fnExactFormTensorSpec)

/-- ITS FALSE NEIGHBOUR: 'it returns false'. Refute it at one input. -/
def fnExactFormTensorWrong : ChangeSpec := { name := "fnExactFormTensor", fn := fun _ => fun
  | [d] => { results := [.lit (.bool false)], args := [d] }
  | _ => none }
def FnExactFormTensorWrongFalsely : Prop := fnExactFormTensorRow.holds Try.pinned (OpenSpec.ofChange fnExactFormTensorWrong)

/-- 'laws.FnExactComposeTensors': WHATEVER THE INPUT: true; the input reads as it did. -/
def fnExactComposeTensorsSpec : ChangeSpec := { name := "fnExactComposeTensors", fn := fun _ => fun
  | [d1, d2] => { results := [.lit (.bool true)], args := [d1, d2] }
  | _ => none }
def fnExactComposeTensorsRow : OpenClaim := { program := "ythliekalhgafcaa", sum := "db008e9aacab69f168d6e1d8da049b71629613a9ee770c2825948f9e24f572e6", func := "loop.example/g01267/laws.FnExactComposeTensors", spec := "fnExactComposeTensors", apart := false }
def FnExactComposeTensorsSaid : Prop := fnExactComposeTensorsRow.holds Try.pinned (OpenSpec.ofChange fnExactComposeTensorsSpec)

/-- ITS FALSE NEIGHBOUR: 'it returns false'. Refute it at one input. -/
def fnExactComposeTensorsWrong : ChangeSpec := { name := "fnExactComposeTensors", fn := fun _ => fun
  | [d1, d2] => { results := [.lit (.bool false)], args := [d1, d2] }
  | _ => none }
def FnExactComposeTensorsWrongFalsely : Prop := fnExactComposeTensorsRow.holds Try.pinned (OpenSpec.ofChange fnExactComposeTensorsWrong)

/-- 'laws.FnExactSideTensors': WHATEVER THE INPUT: true; the input reads as it did. -/
def fnExactSideTensorsSpec : ChangeSpec := { name := "fnExactSideTensors", fn := fun _ => fun
  | [d1, d2] => { results := [.lit (.bool true)], args := [d1, d2] }
  | _ => none }
def fnExactSideTensorsRow : OpenClaim := { program := "ythliekalhgafcaa", sum := "db008e9aacab69f168d6e1d8da049b71629613a9ee770c2825948f9e24f572e6", func := "loop.example/g01267/laws.FnExactSideTensors", spec := "fnExactSideTensors", apart := false }
def FnExactSideTensorsSaid : Prop := fnExactSideTensorsRow.holds Try.pinned (OpenSpec.ofChange fnExactSideTensorsSpec)

/-- ITS FALSE NEIGHBOUR: 'it returns false'. Refute it at one input. -/
def fnExactSideTensorsWrong : ChangeSpec := { name := "fnExactSideTensors", fn := fun _ => fun
  | [d1, d2] => { results := [.lit (.bool false)], args := [d1, d2] }
  | _ => none }
def FnExactSideTensorsWrongFalsely : Prop := fnExactSideTensorsRow.holds Try.pinned (OpenSpec.ofChange fnExactSideTensorsWrong)

/-- 'laws.FnExactCloseTensor': WHATEVER THE INPUT: true; the input reads as it did. -/
def fnExactCloseTensorSpec : ChangeSpec := { name := "fnExactCloseTensor", fn := fun _ => fun
  | [d] => { results := [.lit (.bool true)], args := [d] }
  | _ => none }
def fnExactCloseTensorRow : OpenClaim := { program := "ythliekalhgafcaa", sum := "db008e9aacab69f168d6e1d8da049b71629613a9ee770c2825948f9e24f572e6", func := "loop.example/g01267/laws.FnExactCloseTensor", spec := "fnExactCloseTensor", apart := false }
def FnExactCloseTensorSaid : Prop := fnExactCloseTensorRow.holds Try.pinned (OpenSpec.ofChange fnExactCloseTensorSpec)

/-- ITS FALSE NEIGHBOUR: 'it returns false'. Refute it at one input. -/
def fnExactCloseTensorWrong : ChangeSpec := { name := "fnExactCloseTensor", fn := fun _ => fun
  | [d] => { results := [.lit (.bool false)], args := [d] }
  | _ => none }
def FnExactCloseTensorWrongFalsely : Prop := fnExactCloseTensorRow.holds Try.pinned (OpenSpec.ofChange fnExactCloseTensorWrong)

/-- 'laws.FnExactAddTensors': WHATEVER THE INPUT: true; the input reads as it did. -/
def fnExactAddTensorsSpec : ChangeSpec := { name := "fnExactAddTensors", fn := fun _ => fun
  | [d1, d2, d3] => { results := [.lit (.bool true)], args := [d1, d2, d3] }
  | _ => none }
def fnExactAddTensorsRow : OpenClaim := { program := "ythliekalhgafcaa", sum := "db008e9aacab69f168d6e1d8da049b71629613a9ee770c2825948f9e24f572e6", func := "loop.example/g01267/laws.FnExactAddTensors", spec := "fnExactAddTensors", apart := false }
def FnExactAddTensorsSaid : Prop := fnExactAddTensorsRow.holds Try.pinned (OpenSpec.ofChange fnExactAddTensorsSpec)

/-- ITS FALSE NEIGHBOUR: 'it returns false'. Refute it at one input. -/
def fnExactAddTensorsWrong : ChangeSpec := { name := "fnExactAddTensors", fn := fun _ => fun
  | [d1, d2, d3] => { results := [.lit (.bool false)], args := [d1, d2, d3] }
  | _ => none }
def FnExactAddTensorsWrongFalsely : Prop := fnExactAddTensorsRow.holds Try.pinned (OpenSpec.ofChange fnExactAddTensorsWrong)

/-- 'laws.FnExactCoproductTensor': WHATEVER THE INPUT: true; the input reads as it did. -/
def fnExactCoproductTensorSpec : ChangeSpec := { name := "fnExactCoproductTensor", fn := fun _ => fun
  | [d] => { results := [.lit (.bool true)], args := [d] }
  | _ => none }
def fnExactCoproductTensorRow : OpenClaim := { program := "ythliekalhgafcaa", sum := "db008e9aacab69f168d6e1d8da049b71629613a9ee770c2825948f9e24f572e6", func := "loop.example/g01267/laws.FnExactCoproductTensor", spec := "fnExactCoproductTensor", apart := false }
def FnExactCoproductTensorSaid : Prop := fnExactCoproductTensorRow.holds Try.pinned (OpenSpec.ofChange fnExactCoproductTensorSpec)

/-- ITS FALSE NEIGHBOUR: 'it returns false'. Refute it at one input. -/
def fnExactCoproductTensorWrong : ChangeSpec := { name := "fnExactCoproductTensor", fn := fun _ => fun
  | [d] => { results := [.lit (.bool false)], args := [d] }
  | _ => none }
def FnExactCoproductTensorWrongFalsely : Prop := fnExactCoproductTensorRow.holds Try.pinned (OpenSpec.ofChange fnExactCoproductTensorWrong)

/- THE SECOND FORM. 'bulk': how many values and letters a reading holds, each counted each time it is reached (what is shared counts as often as it is met; a slice's spare places count too). A statement '..UptoSaid' is the law's where the arguments, and the package variables that the reading takes, are together of bulk at most 1048576: NARROWER than '..Said'. Prove '..Said' where nothing that the law and all that it calls make is longer than what came in: it says more and counts as full. Else prove '..UptoSaid'. A law counts once. -/
mutual
def uptoBulk {H : Type} : DataW H → Nat
  | .lit (.string bytes) => bytes.length + 1
  | .lit _ => 1
  | .nil => 1
  | .ptr d => uptoBulk d + 1
  | .slice elems spare => uptoBulkAll elems + uptoBulkAll spare + 1
  | .agg parts => uptoBulkAll parts + 1
  | .iface _ d => uptoBulk d + 1
  | .map entries => uptoBulkEntries entries + 1
  | .held _ => 1
def uptoBulkAll {H : Type} : List (DataW H) → Nat
  | [] => 0
  | d :: r => uptoBulk d + uptoBulkAll r
def uptoBulkEntries {H : Type} : List (Lit × DataW H) → Nat
  | [] => 0
  | x :: r => uptoBulkEntry x + uptoBulkEntries r
def uptoBulkEntry {H : Type} : Lit × DataW H → Nat
  | (.string bytes, d) => bytes.length + uptoBulk d + 1
  | (_, d) => uptoBulk d + 1
 end
def uptoSmall : (H : Type) → List (DataW H) → Bool := fun _ ds => decide (uptoBulkAll ds ≤ 1048576)
def OpenSpec.upto (s : _root_.Go.ChangeSpec) : _root_.Go.OpenSpec := { _root_.Go.OpenSpec.ofChange s with cond := some uptoSmall }

/-- 'laws.FnExactIsTensor', WHERE WHAT IT READS IS OF BULK AT MOST 1048576: true; the input reads as it did. -/
def fnExactIsTensorUptoRow : OpenClaim := { program := "ythliekalhgafcaa", sum := "db008e9aacab69f168d6e1d8da049b71629613a9ee770c2825948f9e24f572e6", func := "loop.example/g01267/laws.FnExactIsTensor", spec := "fnExactIsTensor", apart := false, narrowed := true }
def FnExactIsTensorUptoSaid : Prop := fnExactIsTensorUptoRow.holds Try.pinned (OpenSpec.upto fnExactIsTensorSpec)

/-- 'laws.FnExactIdentityTensor', WHERE WHAT IT READS IS OF BULK AT MOST 1048576: true; the input reads as it did. -/
def fnExactIdentityTensorUptoRow : OpenClaim := { program := "ythliekalhgafcaa", sum := "db008e9aacab69f168d6e1d8da049b71629613a9ee770c2825948f9e24f572e6", func := "loop.example/g01267/laws.FnExactIdentityTensor", spec := "fnExactIdentityTensor", apart := false, narrowed := true }
def FnExactIdentityTensorUptoSaid : Prop := fnExactIdentityTensorUptoRow.holds Try.pinned (OpenSpec.upto fnExactIdentityTensorSpec)

/-- 'laws.FnExactProductTensor', WHERE WHAT IT READS IS OF BULK AT MOST 1048576: true; the input reads as it did. -/
def fnExactProductTensorUptoRow : OpenClaim := { program := "ythliekalhgafcaa", sum := "db008e9aacab69f168d6e1d8da049b71629613a9ee770c2825948f9e24f572e6", func := "loop.example/g01267/laws.FnExactProductTensor", spec := "fnExactProductTensor", apart := false, narrowed := true }
def FnExactProductTensorUptoSaid : Prop := fnExactProductTensorUptoRow.holds Try.pinned (OpenSpec.upto fnExactProductTensorSpec)

/-- 'laws.FnExactUnitTensor', WHERE WHAT IT READS IS OF BULK AT MOST 1048576: true; the input reads as it did. -/
def fnExactUnitTensorUptoRow : OpenClaim := { program := "ythliekalhgafcaa", sum := "db008e9aacab69f168d6e1d8da049b71629613a9ee770c2825948f9e24f572e6", func := "loop.example/g01267/laws.FnExactUnitTensor", spec := "fnExactUnitTensor", apart := false, narrowed := true }
def FnExactUnitTensorUptoSaid : Prop := fnExactUnitTensorUptoRow.holds Try.pinned (OpenSpec.upto fnExactUnitTensorSpec)

/-- 'laws.FnExactFormTensor', WHERE WHAT IT READS IS OF BULK AT MOST 1048576: true; the input reads as it did. -/
def fnExactFormTensorUptoRow : OpenClaim := { program := "ythliekalhgafcaa", sum := "db008e9aacab69f168d6e1d8da049b71629613a9ee770c2825948f9e24f572e6", func := "loop.example/g01267/laws.FnExactFormTensor", spec := "fnExactFormTensor", apart := false, narrowed := true }
def FnExactFormTensorUptoSaid : Prop := fnExactFormTensorUptoRow.holds Try.pinned (OpenSpec.upto fnExactFormTensorSpec)

/-- 'laws.FnExactComposeTensors', WHERE WHAT IT READS IS OF BULK AT MOST 1048576: true; the input reads as it did. -/
def fnExactComposeTensorsUptoRow : OpenClaim := { program := "ythliekalhgafcaa", sum := "db008e9aacab69f168d6e1d8da049b71629613a9ee770c2825948f9e24f572e6", func := "loop.example/g01267/laws.FnExactComposeTensors", spec := "fnExactComposeTensors", apart := false, narrowed := true }
def FnExactComposeTensorsUptoSaid : Prop := fnExactComposeTensorsUptoRow.holds Try.pinned (OpenSpec.upto fnExactComposeTensorsSpec)

/-- 'laws.FnExactSideTensors', WHERE WHAT IT READS IS OF BULK AT MOST 1048576: true; the input reads as it did. -/
def fnExactSideTensorsUptoRow : OpenClaim := { program := "ythliekalhgafcaa", sum := "db008e9aacab69f168d6e1d8da049b71629613a9ee770c2825948f9e24f572e6", func := "loop.example/g01267/laws.FnExactSideTensors", spec := "fnExactSideTensors", apart := false, narrowed := true }
def FnExactSideTensorsUptoSaid : Prop := fnExactSideTensorsUptoRow.holds Try.pinned (OpenSpec.upto fnExactSideTensorsSpec)

/-- 'laws.FnExactCloseTensor', WHERE WHAT IT READS IS OF BULK AT MOST 1048576: true; the input reads as it did. -/
def fnExactCloseTensorUptoRow : OpenClaim := { program := "ythliekalhgafcaa", sum := "db008e9aacab69f168d6e1d8da049b71629613a9ee770c2825948f9e24f572e6", func := "loop.example/g01267/laws.FnExactCloseTensor", spec := "fnExactCloseTensor", apart := false, narrowed := true }
def FnExactCloseTensorUptoSaid : Prop := fnExactCloseTensorUptoRow.holds Try.pinned (OpenSpec.upto fnExactCloseTensorSpec)

/-- 'laws.FnExactAddTensors', WHERE WHAT IT READS IS OF BULK AT MOST 1048576: true; the input reads as it did. -/
def fnExactAddTensorsUptoRow : OpenClaim := { program := "ythliekalhgafcaa", sum := "db008e9aacab69f168d6e1d8da049b71629613a9ee770c2825948f9e24f572e6", func := "loop.example/g01267/laws.FnExactAddTensors", spec := "fnExactAddTensors", apart := false, narrowed := true }
def FnExactAddTensorsUptoSaid : Prop := fnExactAddTensorsUptoRow.holds Try.pinned (OpenSpec.upto fnExactAddTensorsSpec)

/-- 'laws.FnExactCoproductTensor', WHERE WHAT IT READS IS OF BULK AT MOST 1048576: true; the input reads as it did. -/
def fnExactCoproductTensorUptoRow : OpenClaim := { program := "ythliekalhgafcaa", sum := "db008e9aacab69f168d6e1d8da049b71629613a9ee770c2825948f9e24f572e6", func := "loop.example/g01267/laws.FnExactCoproductTensor", spec := "fnExactCoproductTensor", apart := false, narrowed := true }
def FnExactCoproductTensorUptoSaid : Prop := fnExactCoproductTensorUptoRow.holds Try.pinned (OpenSpec.upto fnExactCoproductTensorSpec)

end Rows
end Go.Proofs.Ythliekalhgafcaa
