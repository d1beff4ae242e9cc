/-
  No cell of these rows narrows 'for every input' (looked for: loops, veiled, ifaces, maps, wideKeys, modest, calm, conditions, laid).
  DERIVED. THE GIVEN ROWS OF THIS SEAT. 12 by the template 'for every input the law returns true; each argument reads behind the call as it read before'; 0 by the template 'total and deterministic' (their statements: YtggdbbjmdbkpcaaTotals.lean).
  GIVEN WITH THE SEED: the statements are not yours to turn. If you find one false, say at which input.
  Laid BY PROGRAM, IN A SANDBOX (cutbox-rows.mjs): the forced cells as the released guide's own fill.sh prints them over the translation 23c50eb5fc35b902… (all of the seat's roots in one cut). By AI agents, Wed Nov 11 2026. No macro, syntax, notation, axiom, sorry.
-/
import Derived.Test.YtggdbbjmdbkpcaaChecked
import GoSem.Claim
import GoSem.ClaimJoined
import GoSem.ClaimMapViews
import Derived.JoinedTies
import Derived.KernelRfl
namespace Go.Proofs.Ytggdbbjmdbkpcaa
/- THE CELL 'sum', in the pinned program and in every row, IS THE sha256 OF THE DUMP (.gsa) THAT YtggdbbjmdbkpcaaProg.lean LOADS. Nothing in Lean hashes anything: it is a label: what it is worth is what the hold of that sum in a sandbox is worth. -/
noncomputable def Try.pinned : Pinned := { name := "ytggdbbjmdbkpcaa", sum := "23c50eb5fc35b902677902673da357047105649e473a33cc9d30b66f0fc01eac", checked := Try.checked }
namespace Rows
def none {H : Type} : Left H := { results := [], args := [] }

/-- 'laws.FnExactCentreOf': WHATEVER THE INPUT: true; the input reads as it did. -/
def fnExactCentreOfSpec : ChangeSpec := { name := "fnExactCentreOf", fn := fun _ => fun
  | [d] => { results := [.lit (.bool true)], args := [d] }
  | _ => none }
def fnExactCentreOfRow : OpenClaim := { program := "ytggdbbjmdbkpcaa", sum := "23c50eb5fc35b902677902673da357047105649e473a33cc9d30b66f0fc01eac", func := "loop.example/g01267/laws.FnExactCentreOf", spec := "fnExactCentreOf", plainKeys := false, apart := false }
def FnExactCentreOfSaid : Prop := fnExactCentreOfRow.holds Try.pinned (OpenSpec.ofChange fnExactCentreOfSpec)

/-- ITS FALSE NEIGHBOUR: 'it returns false'. Refute it at one input. -/
def fnExactCentreOfWrong : ChangeSpec := { name := "fnExactCentreOf", fn := fun _ => fun
  | [d] => { results := [.lit (.bool false)], args := [d] }
  | _ => none }
def FnExactCentreOfWrongFalsely : Prop := fnExactCentreOfRow.holds Try.pinned (OpenSpec.ofChange fnExactCentreOfWrong)

/-- 'laws.FnExactFormTable': WHATEVER THE INPUT: true; the input reads as it did. -/
def fnExactFormTableSpec : ChangeSpec := { name := "fnExactFormTable", fn := fun _ => fun
  | [d] => { results := [.lit (.bool true)], args := [d] }
  | _ => none }
def fnExactFormTableRow : OpenClaim := { program := "ytggdbbjmdbkpcaa", sum := "23c50eb5fc35b902677902673da357047105649e473a33cc9d30b66f0fc01eac", func := "loop.example/g01267/laws.FnExactFormTable", spec := "fnExactFormTable", plainKeys := false, apart := false }
def FnExactFormTableSaid : Prop := fnExactFormTableRow.holds Try.pinned (OpenSpec.ofChange fnExactFormTableSpec)

/-- ITS FALSE NEIGHBOUR: 'it returns false'. Refute it at one input. -/
def fnExactFormTableWrong : ChangeSpec := { name := "fnExactFormTable", fn := fun _ => fun
  | [d] => { results := [.lit (.bool false)], args := [d] }
  | _ => none }
def FnExactFormTableWrongFalsely : Prop := fnExactFormTableRow.holds Try.pinned (OpenSpec.ofChange fnExactFormTableWrong)

/-- 'laws.FnExactCopairingOf': WHATEVER THE INPUT: true; the input reads as it did. -/
def fnExactCopairingOfSpec : ChangeSpec := { name := "fnExactCopairingOf", fn := fun _ => fun
  | [d] => { results := [.lit (.bool true)], args := [d] }
  | _ => none }
def fnExactCopairingOfRow : OpenClaim := { program := "ytggdbbjmdbkpcaa", sum := "23c50eb5fc35b902677902673da357047105649e473a33cc9d30b66f0fc01eac", func := "loop.example/g01267/laws.FnExactCopairingOf", spec := "fnExactCopairingOf", plainKeys := false, apart := false }
def FnExactCopairingOfSaid : Prop := fnExactCopairingOfRow.holds Try.pinned (OpenSpec.ofChange fnExactCopairingOfSpec)

/-- ITS FALSE NEIGHBOUR: 'it returns false'. Refute it at one input. -/
def fnExactCopairingOfWrong : ChangeSpec := { name := "fnExactCopairingOf", fn := fun _ => fun
  | [d] => { results := [.lit (.bool false)], args := [d] }
  | _ => none }
def FnExactCopairingOfWrongFalsely : Prop := fnExactCopairingOfRow.holds Try.pinned (OpenSpec.ofChange fnExactCopairingOfWrong)

/-- 'laws.FnExactDualBasis': WHATEVER THE INPUT: true; the input reads as it did. -/
def fnExactDualBasisSpec : ChangeSpec := { name := "fnExactDualBasis", fn := fun _ => fun
  | [d] => { results := [.lit (.bool true)], args := [d] }
  | _ => none }
def fnExactDualBasisRow : OpenClaim := { program := "ytggdbbjmdbkpcaa", sum := "23c50eb5fc35b902677902673da357047105649e473a33cc9d30b66f0fc01eac", func := "loop.example/g01267/laws.FnExactDualBasis", spec := "fnExactDualBasis", plainKeys := false, apart := false }
def FnExactDualBasisSaid : Prop := fnExactDualBasisRow.holds Try.pinned (OpenSpec.ofChange fnExactDualBasisSpec)

/-- ITS FALSE NEIGHBOUR: 'it returns false'. Refute it at one input. -/
def fnExactDualBasisWrong : ChangeSpec := { name := "fnExactDualBasis", fn := fun _ => fun
  | [d] => { results := [.lit (.bool false)], args := [d] }
  | _ => none }
def FnExactDualBasisWrongFalsely : Prop := fnExactDualBasisRow.holds Try.pinned (OpenSpec.ofChange fnExactDualBasisWrong)

/-- 'laws.FnExactCoproductOf': WHATEVER THE INPUT: true; the input reads as it did. -/
def fnExactCoproductOfSpec : ChangeSpec := { name := "fnExactCoproductOf", fn := fun _ => fun
  | [d1, d2] => { results := [.lit (.bool true)], args := [d1, d2] }
  | _ => none }
def fnExactCoproductOfRow : OpenClaim := { program := "ytggdbbjmdbkpcaa", sum := "23c50eb5fc35b902677902673da357047105649e473a33cc9d30b66f0fc01eac", func := "loop.example/g01267/laws.FnExactCoproductOf", spec := "fnExactCoproductOf", plainKeys := false, apart := false }
def FnExactCoproductOfSaid : Prop := fnExactCoproductOfRow.holds Try.pinned (OpenSpec.ofChange fnExactCoproductOfSpec)

/-- ITS FALSE NEIGHBOUR: 'it returns false'. Refute it at one input. -/
def fnExactCoproductOfWrong : ChangeSpec := { name := "fnExactCoproductOf", fn := fun _ => fun
  | [d1, d2] => { results := [.lit (.bool false)], args := [d1, d2] }
  | _ => none }
def FnExactCoproductOfWrongFalsely : Prop := fnExactCoproductOfRow.holds Try.pinned (OpenSpec.ofChange fnExactCoproductOfWrong)

/-- 'laws.FnExactHandleOf': WHATEVER THE INPUT: true; the input reads as it did. -/
def fnExactHandleOfSpec : ChangeSpec := { name := "fnExactHandleOf", fn := fun _ => fun
  | [d] => { results := [.lit (.bool true)], args := [d] }
  | _ => none }
def fnExactHandleOfRow : OpenClaim := { program := "ytggdbbjmdbkpcaa", sum := "23c50eb5fc35b902677902673da357047105649e473a33cc9d30b66f0fc01eac", func := "loop.example/g01267/laws.FnExactHandleOf", spec := "fnExactHandleOf", plainKeys := false, apart := false }
def FnExactHandleOfSaid : Prop := fnExactHandleOfRow.holds Try.pinned (OpenSpec.ofChange fnExactHandleOfSpec)

/-- ITS FALSE NEIGHBOUR: 'it returns false'. Refute it at one input. -/
def fnExactHandleOfWrong : ChangeSpec := { name := "fnExactHandleOf", fn := fun _ => fun
  | [d] => { results := [.lit (.bool false)], args := [d] }
  | _ => none }
def FnExactHandleOfWrongFalsely : Prop := fnExactHandleOfRow.holds Try.pinned (OpenSpec.ofChange fnExactHandleOfWrong)

/-- 'laws.FnExactNakayamaOf': WHATEVER THE INPUT: true; the input reads as it did. -/
def fnExactNakayamaOfSpec : ChangeSpec := { name := "fnExactNakayamaOf", fn := fun _ => fun
  | [d] => { results := [.lit (.bool true)], args := [d] }
  | _ => none }
def fnExactNakayamaOfRow : OpenClaim := { program := "ytggdbbjmdbkpcaa", sum := "23c50eb5fc35b902677902673da357047105649e473a33cc9d30b66f0fc01eac", func := "loop.example/g01267/laws.FnExactNakayamaOf", spec := "fnExactNakayamaOf", plainKeys := false, apart := false }
def FnExactNakayamaOfSaid : Prop := fnExactNakayamaOfRow.holds Try.pinned (OpenSpec.ofChange fnExactNakayamaOfSpec)

/-- ITS FALSE NEIGHBOUR: 'it returns false'. Refute it at one input. -/
def fnExactNakayamaOfWrong : ChangeSpec := { name := "fnExactNakayamaOf", fn := fun _ => fun
  | [d] => { results := [.lit (.bool false)], args := [d] }
  | _ => none }
def FnExactNakayamaOfWrongFalsely : Prop := fnExactNakayamaOfRow.holds Try.pinned (OpenSpec.ofChange fnExactNakayamaOfWrong)

/-- 'laws.FnExactGenusNumber': WHATEVER THE INPUT: true; the input reads as it did. -/
def fnExactGenusNumberSpec : ChangeSpec := { name := "fnExactGenusNumber", fn := fun _ => fun
  | [d1, d2] => { results := [.lit (.bool true)], args := [d1, d2] }
  | _ => none }
def fnExactGenusNumberRow : OpenClaim := { program := "ytggdbbjmdbkpcaa", sum := "23c50eb5fc35b902677902673da357047105649e473a33cc9d30b66f0fc01eac", func := "loop.example/g01267/laws.FnExactGenusNumber", spec := "fnExactGenusNumber", plainKeys := false, apart := false }
def FnExactGenusNumberSaid : Prop := fnExactGenusNumberRow.holds Try.pinned (OpenSpec.ofChange fnExactGenusNumberSpec)

/-- ITS FALSE NEIGHBOUR: 'it returns false'. Refute it at one input. -/
def fnExactGenusNumberWrong : ChangeSpec := { name := "fnExactGenusNumber", fn := fun _ => fun
  | [d1, d2] => { results := [.lit (.bool false)], args := [d1, d2] }
  | _ => none }
def FnExactGenusNumberWrongFalsely : Prop := fnExactGenusNumberRow.holds Try.pinned (OpenSpec.ofChange fnExactGenusNumberWrong)

/-- 'laws.FnExactLegNumber': WHATEVER THE INPUT: true; the input reads as it did. -/
def fnExactLegNumberSpec : ChangeSpec := { name := "fnExactLegNumber", fn := fun _ => fun
  | [d1, d2, d3] => { results := [.lit (.bool true)], args := [d1, d2, d3] }
  | _ => none }
def fnExactLegNumberRow : OpenClaim := { program := "ytggdbbjmdbkpcaa", sum := "23c50eb5fc35b902677902673da357047105649e473a33cc9d30b66f0fc01eac", func := "loop.example/g01267/laws.FnExactLegNumber", spec := "fnExactLegNumber", plainKeys := false, apart := false }
def FnExactLegNumberSaid : Prop := fnExactLegNumberRow.holds Try.pinned (OpenSpec.ofChange fnExactLegNumberSpec)

/-- ITS FALSE NEIGHBOUR: 'it returns false'. Refute it at one input. -/
def fnExactLegNumberWrong : ChangeSpec := { name := "fnExactLegNumber", fn := fun _ => fun
  | [d1, d2, d3] => { results := [.lit (.bool false)], args := [d1, d2, d3] }
  | _ => none }
def FnExactLegNumberWrongFalsely : Prop := fnExactLegNumberRow.holds Try.pinned (OpenSpec.ofChange fnExactLegNumberWrong)

/-- 'laws.FnExactSwapTensor': WHATEVER THE INPUT: true; the input reads as it did. -/
def fnExactSwapTensorSpec : ChangeSpec := { name := "fnExactSwapTensor", fn := fun _ => fun
  | [d1, d2] => { results := [.lit (.bool true)], args := [d1, d2] }
  | _ => none }
def fnExactSwapTensorRow : OpenClaim := { program := "ytggdbbjmdbkpcaa", sum := "23c50eb5fc35b902677902673da357047105649e473a33cc9d30b66f0fc01eac", func := "loop.example/g01267/laws.FnExactSwapTensor", spec := "fnExactSwapTensor", unfollowed := true, recurses := true, plainKeys := false, apart := false }
def FnExactSwapTensorSaid : Prop := fnExactSwapTensorRow.holds Try.pinned (OpenSpec.ofChange fnExactSwapTensorSpec)

/-- ITS FALSE NEIGHBOUR: 'it returns false'. Refute it at one input. -/
def fnExactSwapTensorWrong : ChangeSpec := { name := "fnExactSwapTensor", fn := fun _ => fun
  | [d1, d2] => { results := [.lit (.bool false)], args := [d1, d2] }
  | _ => none }
def FnExactSwapTensorWrongFalsely : Prop := fnExactSwapTensorRow.holds Try.pinned (OpenSpec.ofChange fnExactSwapTensorWrong)

/-- 'laws.FnExactPermuteTensor': WHATEVER THE INPUT: true; the input reads as it did. -/
def fnExactPermuteTensorSpec : ChangeSpec := { name := "fnExactPermuteTensor", fn := fun _ => fun
  | [d1, d2, d3] => { results := [.lit (.bool true)], args := [d1, d2, d3] }
  | _ => none }
def fnExactPermuteTensorRow : OpenClaim := { program := "ytggdbbjmdbkpcaa", sum := "23c50eb5fc35b902677902673da357047105649e473a33cc9d30b66f0fc01eac", func := "loop.example/g01267/laws.FnExactPermuteTensor", spec := "fnExactPermuteTensor", unfollowed := true, recurses := true, plainKeys := false, apart := false }
def FnExactPermuteTensorSaid : Prop := fnExactPermuteTensorRow.holds Try.pinned (OpenSpec.ofChange fnExactPermuteTensorSpec)

/-- ITS FALSE NEIGHBOUR: 'it returns false'. Refute it at one input. -/
def fnExactPermuteTensorWrong : ChangeSpec := { name := "fnExactPermuteTensor", fn := fun _ => fun
  | [d1, d2, d3] => { results := [.lit (.bool false)], args := [d1, d2, d3] }
  | _ => none }
def FnExactPermuteTensorWrongFalsely : Prop := fnExactPermuteTensorRow.holds Try.pinned (OpenSpec.ofChange fnExactPermuteTensorWrong)

/-- 'laws.FnExactValueAt': WHATEVER THE INPUT: true; the input reads as it did. -/
def fnExactValueAtSpec : ChangeSpec := { name := "fnExactValueAt", fn := fun _ => fun
  | [d1, d2] => { results := [.lit (.bool true)], args := [d1, d2] }
  | _ => none }
def fnExactValueAtRow : OpenClaim := { program := "ytggdbbjmdbkpcaa", sum := "23c50eb5fc35b902677902673da357047105649e473a33cc9d30b66f0fc01eac", func := "loop.example/g01267/laws.FnExactValueAt", spec := "fnExactValueAt", unfollowed := true, recurses := true, plainKeys := false, apart := false }
def FnExactValueAtSaid : Prop := fnExactValueAtRow.holds Try.pinned (OpenSpec.ofChange fnExactValueAtSpec)

/-- ITS FALSE NEIGHBOUR: 'it returns false'. Refute it at one input. -/
def fnExactValueAtWrong : ChangeSpec := { name := "fnExactValueAt", fn := fun _ => fun
  | [d1, d2] => { results := [.lit (.bool false)], args := [d1, d2] }
  | _ => none }
def FnExactValueAtWrongFalsely : Prop := fnExactValueAtRow.holds Try.pinned (OpenSpec.ofChange fnExactValueAtWrong)

/- THE SECOND FORM. 'bulk': how many values and letters a reading holds, each counted each time it is reached (what is shared counts as often as it is met; a slice's spare places count too). A statement '..UptoSaid' is the law's where the arguments, and the package variables that the reading takes, are together of bulk at most 1048576: NARROWER than '..Said'. Prove '..Said' where nothing that the law and all that it calls make is longer than what came in: it says more and counts as full. Else prove '..UptoSaid'. A law counts once. -/
mutual
def uptoBulk {H : Type} : DataW H → Nat
  | .lit (.string bytes) => bytes.length + 1
  | .lit _ => 1
  | .nil => 1
  | .ptr d => uptoBulk d + 1
  | .slice elems spare => uptoBulkAll elems + uptoBulkAll spare + 1
  | .agg parts => uptoBulkAll parts + 1
  | .iface _ d => uptoBulk d + 1
  | .map entries => uptoBulkEntries entries + 1
  | .held _ => 1
def uptoBulkAll {H : Type} : List (DataW H) → Nat
  | [] => 0
  | d :: r => uptoBulk d + uptoBulkAll r
def uptoBulkEntries {H : Type} : List (Lit × DataW H) → Nat
  | [] => 0
  | x :: r => uptoBulkEntry x + uptoBulkEntries r
def uptoBulkEntry {H : Type} : Lit × DataW H → Nat
  | (.string bytes, d) => bytes.length + uptoBulk d + 1
  | (_, d) => uptoBulk d + 1
 end
def uptoSmall : (H : Type) → List (DataW H) → Bool := fun _ ds => decide (uptoBulkAll ds ≤ 1048576)
def OpenSpec.upto (s : _root_.Go.ChangeSpec) : _root_.Go.OpenSpec := { _root_.Go.OpenSpec.ofChange s with cond := some uptoSmall }

/-- 'laws.FnExactCentreOf', WHERE WHAT IT READS IS OF BULK AT MOST 1048576: true; the input reads as it did. -/
def fnExactCentreOfUptoRow : OpenClaim := { program := "ytggdbbjmdbkpcaa", sum := "23c50eb5fc35b902677902673da357047105649e473a33cc9d30b66f0fc01eac", func := "loop.example/g01267/laws.FnExactCentreOf", spec := "fnExactCentreOf", plainKeys := false, apart := false, narrowed := true }
def FnExactCentreOfUptoSaid : Prop := fnExactCentreOfUptoRow.holds Try.pinned (OpenSpec.upto fnExactCentreOfSpec)

/-- 'laws.FnExactFormTable', WHERE WHAT IT READS IS OF BULK AT MOST 1048576: true; the input reads as it did. -/
def fnExactFormTableUptoRow : OpenClaim := { program := "ytggdbbjmdbkpcaa", sum := "23c50eb5fc35b902677902673da357047105649e473a33cc9d30b66f0fc01eac", func := "loop.example/g01267/laws.FnExactFormTable", spec := "fnExactFormTable", plainKeys := false, apart := false, narrowed := true }
def FnExactFormTableUptoSaid : Prop := fnExactFormTableUptoRow.holds Try.pinned (OpenSpec.upto fnExactFormTableSpec)

/-- 'laws.FnExactCopairingOf', WHERE WHAT IT READS IS OF BULK AT MOST 1048576: true; the input reads as it did. -/
def fnExactCopairingOfUptoRow : OpenClaim := { program := "ytggdbbjmdbkpcaa", sum := "23c50eb5fc35b902677902673da357047105649e473a33cc9d30b66f0fc01eac", func := "loop.example/g01267/laws.FnExactCopairingOf", spec := "fnExactCopairingOf", plainKeys := false, apart := false, narrowed := true }
def FnExactCopairingOfUptoSaid : Prop := fnExactCopairingOfUptoRow.holds Try.pinned (OpenSpec.upto fnExactCopairingOfSpec)

/-- 'laws.FnExactDualBasis', WHERE WHAT IT READS IS OF BULK AT MOST 1048576: true; the input reads as it did. -/
def fnExactDualBasisUptoRow : OpenClaim := { program := "ytggdbbjmdbkpcaa", sum := "23c50eb5fc35b902677902673da357047105649e473a33cc9d30b66f0fc01eac", func := "loop.example/g01267/laws.FnExactDualBasis", spec := "fnExactDualBasis", plainKeys := false, apart := false, narrowed := true }
def FnExactDualBasisUptoSaid : Prop := fnExactDualBasisUptoRow.holds Try.pinned (OpenSpec.upto fnExactDualBasisSpec)

/-- 'laws.FnExactCoproductOf', WHERE WHAT IT READS IS OF BULK AT MOST 1048576: true; the input reads as it did. -/
def fnExactCoproductOfUptoRow : OpenClaim := { program := "ytggdbbjmdbkpcaa", sum := "23c50eb5fc35b902677902673da357047105649e473a33cc9d30b66f0fc01eac", func := "loop.example/g01267/laws.FnExactCoproductOf", spec := "fnExactCoproductOf", plainKeys := false, apart := false, narrowed := true }
def FnExactCoproductOfUptoSaid : Prop := fnExactCoproductOfUptoRow.holds Try.pinned (OpenSpec.upto fnExactCoproductOfSpec)

/-- 'laws.FnExactHandleOf', WHERE WHAT IT READS IS OF BULK AT MOST 1048576: true; the input reads as it did. -/
def fnExactHandleOfUptoRow : OpenClaim := { program := "ytggdbbjmdbkpcaa", sum := "23c50eb5fc35b902677902673da357047105649e473a33cc9d30b66f0fc01eac", func := "loop.example/g01267/laws.FnExactHandleOf", spec := "fnExactHandleOf", plainKeys := false, apart := false, narrowed := true }
def FnExactHandleOfUptoSaid : Prop := fnExactHandleOfUptoRow.holds Try.pinned (OpenSpec.upto fnExactHandleOfSpec)

/-- 'laws.FnExactNakayamaOf', WHERE WHAT IT READS IS OF BULK AT MOST 1048576: true; the input reads as it did. -/
def fnExactNakayamaOfUptoRow : OpenClaim := { program := "ytggdbbjmdbkpcaa", sum := "23c50eb5fc35b902677902673da357047105649e473a33cc9d30b66f0fc01eac", func := "loop.example/g01267/laws.FnExactNakayamaOf", spec := "fnExactNakayamaOf", plainKeys := false, apart := false, narrowed := true }
def FnExactNakayamaOfUptoSaid : Prop := fnExactNakayamaOfUptoRow.holds Try.pinned (OpenSpec.upto fnExactNakayamaOfSpec)

/-- 'laws.FnExactGenusNumber', WHERE WHAT IT READS IS OF BULK AT MOST 1048576: true; the input reads as it did. -/
def fnExactGenusNumberUptoRow : OpenClaim := { program := "ytggdbbjmdbkpcaa", sum := "23c50eb5fc35b902677902673da357047105649e473a33cc9d30b66f0fc01eac", func := "loop.example/g01267/laws.FnExactGenusNumber", spec := "fnExactGenusNumber", plainKeys := false, apart := false, narrowed := true }
def FnExactGenusNumberUptoSaid : Prop := fnExactGenusNumberUptoRow.holds Try.pinned (OpenSpec.upto fnExactGenusNumberSpec)

/-- 'laws.FnExactLegNumber', WHERE WHAT IT READS IS OF BULK AT MOST 1048576: true; the input reads as it did. -/
def fnExactLegNumberUptoRow : OpenClaim := { program := "ytggdbbjmdbkpcaa", sum := "23c50eb5fc35b902677902673da357047105649e473a33cc9d30b66f0fc01eac", func := "loop.example/g01267/laws.FnExactLegNumber", spec := "fnExactLegNumber", plainKeys := false, apart := false, narrowed := true }
def FnExactLegNumberUptoSaid : Prop := fnExactLegNumberUptoRow.holds Try.pinned (OpenSpec.upto fnExactLegNumberSpec)

/-- 'laws.FnExactSwapTensor', WHERE WHAT IT READS IS OF BULK AT MOST 1048576: true; the input reads as it did. -/
def fnExactSwapTensorUptoRow : OpenClaim := { program := "ytggdbbjmdbkpcaa", sum := "23c50eb5fc35b902677902673da357047105649e473a33cc9d30b66f0fc01eac", func := "loop.example/g01267/laws.FnExactSwapTensor", spec := "fnExactSwapTensor", unfollowed := true, recurses := true, plainKeys := false, apart := false, narrowed := true }
def FnExactSwapTensorUptoSaid : Prop := fnExactSwapTensorUptoRow.holds Try.pinned (OpenSpec.upto fnExactSwapTensorSpec)

/-- 'laws.FnExactPermuteTensor', WHERE WHAT IT READS IS OF BULK AT MOST 1048576: true; the input reads as it did. -/
def fnExactPermuteTensorUptoRow : OpenClaim := { program := "ytggdbbjmdbkpcaa", sum := "23c50eb5fc35b902677902673da357047105649e473a33cc9d30b66f0fc01eac", func := "loop.example/g01267/laws.FnExactPermuteTensor", spec := "fnExactPermuteTensor", unfollowed := true, recurses := true, plainKeys := false, apart := false, narrowed := true }
def FnExactPermuteTensorUptoSaid : Prop := fnExactPermuteTensorUptoRow.holds Try.pinned (OpenSpec.upto fnExactPermuteTensorSpec)

/-- 'laws.FnExactValueAt', WHERE WHAT IT READS IS OF BULK AT MOST 1048576: true; the input reads as it did. -/
def fnExactValueAtUptoRow : OpenClaim := { program := "ytggdbbjmdbkpcaa", sum := "23c50eb5fc35b902677902673da357047105649e473a33cc9d30b66f0fc01eac", func := "loop.example/g01267/laws.FnExactValueAt", spec := "fnExactValueAt", unfollowed := true, recurses := true, plainKeys := false, apart := false, narrowed := true }
def FnExactValueAtUptoSaid : Prop := fnExactValueAtUptoRow.holds Try.pinned (OpenSpec.upto fnExactValueAtSpec)

end Rows
end Go.Proofs.Ytggdbbjmdbkpcaa
