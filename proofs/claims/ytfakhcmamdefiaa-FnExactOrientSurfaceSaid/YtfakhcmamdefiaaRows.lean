/-
  No cell of these rows narrows 'for every input' (looked for: loops, veiled, ifaces, maps, wideKeys, modest, calm, conditions, laid).
  DERIVED. THE GIVEN ROWS OF THIS SEAT. 5 by the template 'for every input the law returns true; each argument reads behind the call as it read before'; 0 by the template 'total and deterministic' (their statements: YtfakhcmamdefiaaTotals.lean).
  GIVEN WITH THE SEED: the statements are not yours to turn. If you find one false, say at which input.
  Laid BY PROGRAM, IN A SANDBOX (cutbox-rows.mjs): the forced cells as the released guide's own fill.sh prints them over the translation 87348380ad250daa… (all of the seat's roots in one cut). By AI agents, Wed Nov 11 2026. No macro, syntax, notation, axiom, sorry.
-/
import Derived.Test.YtfakhcmamdefiaaChecked
import GoSem.Claim
import GoSem.ClaimJoined
import GoSem.ClaimMapViews
import Derived.JoinedTies
import Derived.KernelRfl
namespace Go.Proofs.Ytfakhcmamdefiaa
/- THE CELL 'sum', in the pinned program and in every row, IS THE sha256 OF THE DUMP (.gsa) THAT YtfakhcmamdefiaaProg.lean LOADS. Nothing in Lean hashes anything: it is a label: what it is worth is what the hold of that sum in a sandbox is worth. -/
noncomputable def Try.pinned : Pinned := { name := "ytfakhcmamdefiaa", sum := "87348380ad250daa664031f442ba772520ddbf5e98acb89282fffb460f6da156", checked := Try.checked }
namespace Rows
def none {H : Type} : Left H := { results := [], args := [] }

/-- 'laws.FnExactIsOriented': WHATEVER THE INPUT: true; the input reads as it did. -/
def fnExactIsOrientedSpec : ChangeSpec := { name := "fnExactIsOriented", fn := fun _ => fun
  | [d] => { results := [.lit (.bool true)], args := [d] }
  | _ => none }
def fnExactIsOrientedRow : OpenClaim := { program := "ytfakhcmamdefiaa", sum := "87348380ad250daa664031f442ba772520ddbf5e98acb89282fffb460f6da156", func := "loop.example/g01267/laws.FnExactIsOriented", spec := "fnExactIsOriented", unfollowed := true, recurses := true, apart := false }
def FnExactIsOrientedSaid : Prop := fnExactIsOrientedRow.holds Try.pinned (OpenSpec.ofChange fnExactIsOrientedSpec)

/-- ITS FALSE NEIGHBOUR: 'it returns false'. Refute it at one input. -/
def fnExactIsOrientedWrong : ChangeSpec := { name := "fnExactIsOriented", fn := fun _ => fun
  | [d] => { results := [.lit (.bool false)], args := [d] }
  | _ => none }
def FnExactIsOrientedWrongFalsely : Prop := fnExactIsOrientedRow.holds Try.pinned (OpenSpec.ofChange fnExactIsOrientedWrong)

/-- 'laws.FnExactFlipEdge': WHATEVER THE INPUT: true; the input reads as it did. -/
def fnExactFlipEdgeSpec : ChangeSpec := { name := "fnExactFlipEdge", fn := fun _ => fun
  | [d1, d2] => { results := [.lit (.bool true)], args := [d1, d2] }
  | _ => none }
def fnExactFlipEdgeRow : OpenClaim := { program := "ytfakhcmamdefiaa", sum := "87348380ad250daa664031f442ba772520ddbf5e98acb89282fffb460f6da156", func := "loop.example/g01267/laws.FnExactFlipEdge", spec := "fnExactFlipEdge", unfollowed := true, recurses := true, apart := false }
def FnExactFlipEdgeSaid : Prop := fnExactFlipEdgeRow.holds Try.pinned (OpenSpec.ofChange fnExactFlipEdgeSpec)

/-- ITS FALSE NEIGHBOUR: 'it returns false'. Refute it at one input. -/
def fnExactFlipEdgeWrong : ChangeSpec := { name := "fnExactFlipEdge", fn := fun _ => fun
  | [d1, d2] => { results := [.lit (.bool false)], args := [d1, d2] }
  | _ => none }
def FnExactFlipEdgeWrongFalsely : Prop := fnExactFlipEdgeRow.holds Try.pinned (OpenSpec.ofChange fnExactFlipEdgeWrong)

/-- 'laws.FnExactCountVertices': WHATEVER THE INPUT: true; the input reads as it did. -/
def fnExactCountVerticesSpec : ChangeSpec := { name := "fnExactCountVertices", fn := fun _ => fun
  | [d] => { results := [.lit (.bool true)], args := [d] }
  | _ => none }
def fnExactCountVerticesRow : OpenClaim := { program := "ytfakhcmamdefiaa", sum := "87348380ad250daa664031f442ba772520ddbf5e98acb89282fffb460f6da156", func := "loop.example/g01267/laws.FnExactCountVertices", spec := "fnExactCountVertices", unfollowed := true, recurses := true, apart := false }
def FnExactCountVerticesSaid : Prop := fnExactCountVerticesRow.holds Try.pinned (OpenSpec.ofChange fnExactCountVerticesSpec)

/-- ITS FALSE NEIGHBOUR: 'it returns false'. Refute it at one input. -/
def fnExactCountVerticesWrong : ChangeSpec := { name := "fnExactCountVertices", fn := fun _ => fun
  | [d] => { results := [.lit (.bool false)], args := [d] }
  | _ => none }
def FnExactCountVerticesWrongFalsely : Prop := fnExactCountVerticesRow.holds Try.pinned (OpenSpec.ofChange fnExactCountVerticesWrong)

/-- 'laws.FnExactEulerNumber': WHATEVER THE INPUT: true; the input reads as it did. -/
def fnExactEulerNumberSpec : ChangeSpec := { name := "fnExactEulerNumber", fn := fun _ => fun
  | [d] => { results := [.lit (.bool true)], args := [d] }
  | _ => none }
def fnExactEulerNumberRow : OpenClaim := { program := "ytfakhcmamdefiaa", sum := "87348380ad250daa664031f442ba772520ddbf5e98acb89282fffb460f6da156", func := "loop.example/g01267/laws.FnExactEulerNumber", spec := "fnExactEulerNumber", unfollowed := true, recurses := true, apart := false }
def FnExactEulerNumberSaid : Prop := fnExactEulerNumberRow.holds Try.pinned (OpenSpec.ofChange fnExactEulerNumberSpec)

/-- ITS FALSE NEIGHBOUR: 'it returns false'. Refute it at one input. -/
def fnExactEulerNumberWrong : ChangeSpec := { name := "fnExactEulerNumber", fn := fun _ => fun
  | [d] => { results := [.lit (.bool false)], args := [d] }
  | _ => none }
def FnExactEulerNumberWrongFalsely : Prop := fnExactEulerNumberRow.holds Try.pinned (OpenSpec.ofChange fnExactEulerNumberWrong)

/-- 'laws.FnExactOrientSurface': WHATEVER THE INPUT: true; the input reads as it did. -/
def fnExactOrientSurfaceSpec : ChangeSpec := { name := "fnExactOrientSurface", fn := fun _ => fun
  | [d] => { results := [.lit (.bool true)], args := [d] }
  | _ => none }
def fnExactOrientSurfaceRow : OpenClaim := { program := "ytfakhcmamdefiaa", sum := "87348380ad250daa664031f442ba772520ddbf5e98acb89282fffb460f6da156", func := "loop.example/g01267/laws.FnExactOrientSurface", spec := "fnExactOrientSurface", unfollowed := true, recurses := true, apart := false }
def FnExactOrientSurfaceSaid : Prop := fnExactOrientSurfaceRow.holds Try.pinned (OpenSpec.ofChange fnExactOrientSurfaceSpec)

/-- ITS FALSE NEIGHBOUR: 'it returns false'. Refute it at one input. -/
def fnExactOrientSurfaceWrong : ChangeSpec := { name := "fnExactOrientSurface", fn := fun _ => fun
  | [d] => { results := [.lit (.bool false)], args := [d] }
  | _ => none }
def FnExactOrientSurfaceWrongFalsely : Prop := fnExactOrientSurfaceRow.holds Try.pinned (OpenSpec.ofChange fnExactOrientSurfaceWrong)

/- THE SECOND FORM. 'bulk': how many values and letters a reading holds, each counted each time it is reached (what is shared counts as often as it is met; a slice's spare places count too). A statement '..UptoSaid' is the law's where the arguments, and the package variables that the reading takes, are together of bulk at most 1048576: NARROWER than '..Said'. Prove '..Said' where nothing that the law and all that it calls make is longer than what came in: it says more and counts as full. Else prove '..UptoSaid'. A law counts once. -/
mutual
def uptoBulk {H : Type} : DataW H → Nat
  | .lit (.string bytes) => bytes.length + 1
  | .lit _ => 1
  | .nil => 1
  | .ptr d => uptoBulk d + 1
  | .slice elems spare => uptoBulkAll elems + uptoBulkAll spare + 1
  | .agg parts => uptoBulkAll parts + 1
  | .iface _ d => uptoBulk d + 1
  | .map entries => uptoBulkEntries entries + 1
  | .held _ => 1
def uptoBulkAll {H : Type} : List (DataW H) → Nat
  | [] => 0
  | d :: r => uptoBulk d + uptoBulkAll r
def uptoBulkEntries {H : Type} : List (Lit × DataW H) → Nat
  | [] => 0
  | x :: r => uptoBulkEntry x + uptoBulkEntries r
def uptoBulkEntry {H : Type} : Lit × DataW H → Nat
  | (.string bytes, d) => bytes.length + uptoBulk d + 1
  | (_, d) => uptoBulk d + 1
 end
def uptoSmall : (H : Type) → List (DataW H) → Bool := fun _ ds => decide (uptoBulkAll ds ≤ 1048576)
def OpenSpec.upto (s : _root_.Go.ChangeSpec) : _root_.Go.OpenSpec := { _root_.Go.OpenSpec.ofChange s with cond := some uptoSmall }

/-- 'laws.FnExactIsOriented', WHERE WHAT IT READS IS OF BULK AT MOST 1048576: true; the input reads as it did. -/
def fnExactIsOrientedUptoRow : OpenClaim := { program := "ytfakhcmamdefiaa", sum := "87348380ad250daa664031f442ba772520ddbf5e98acb89282fffb460f6da156", func := "loop.example/g01267/laws.FnExactIsOriented", spec := "fnExactIsOriented", unfollowed := true, recurses := true, apart := false, narrowed := true }
def FnExactIsOrientedUptoSaid : Prop := fnExactIsOrientedUptoRow.holds Try.pinned (OpenSpec.upto fnExactIsOrientedSpec)

/-- 'laws.FnExactFlipEdge', WHERE WHAT IT READS IS OF BULK AT MOST 1048576: true; the input reads as it did. -/
def fnExactFlipEdgeUptoRow : OpenClaim := { program := "ytfakhcmamdefiaa", sum := "87348380ad250daa664031f442ba772520ddbf5e98acb89282fffb460f6da156", func := "loop.example/g01267/laws.FnExactFlipEdge", spec := "fnExactFlipEdge", unfollowed := true, recurses := true, apart := false, narrowed := true }
def FnExactFlipEdgeUptoSaid : Prop := fnExactFlipEdgeUptoRow.holds Try.pinned (OpenSpec.upto fnExactFlipEdgeSpec)

/-- 'laws.FnExactCountVertices', WHERE WHAT IT READS IS OF BULK AT MOST 1048576: true; the input reads as it did. -/
def fnExactCountVerticesUptoRow : OpenClaim := { program := "ytfakhcmamdefiaa", sum := "87348380ad250daa664031f442ba772520ddbf5e98acb89282fffb460f6da156", func := "loop.example/g01267/laws.FnExactCountVertices", spec := "fnExactCountVertices", unfollowed := true, recurses := true, apart := false, narrowed := true }
def FnExactCountVerticesUptoSaid : Prop := fnExactCountVerticesUptoRow.holds Try.pinned (OpenSpec.upto fnExactCountVerticesSpec)

/-- 'laws.FnExactEulerNumber', WHERE WHAT IT READS IS OF BULK AT MOST 1048576: true; the input reads as it did. -/
def fnExactEulerNumberUptoRow : OpenClaim := { program := "ytfakhcmamdefiaa", sum := "87348380ad250daa664031f442ba772520ddbf5e98acb89282fffb460f6da156", func := "loop.example/g01267/laws.FnExactEulerNumber", spec := "fnExactEulerNumber", unfollowed := true, recurses := true, apart := false, narrowed := true }
def FnExactEulerNumberUptoSaid : Prop := fnExactEulerNumberUptoRow.holds Try.pinned (OpenSpec.upto fnExactEulerNumberSpec)

/-- 'laws.FnExactOrientSurface', WHERE WHAT IT READS IS OF BULK AT MOST 1048576: true; the input reads as it did. -/
def fnExactOrientSurfaceUptoRow : OpenClaim := { program := "ytfakhcmamdefiaa", sum := "87348380ad250daa664031f442ba772520ddbf5e98acb89282fffb460f6da156", func := "loop.example/g01267/laws.FnExactOrientSurface", spec := "fnExactOrientSurface", unfollowed := true, recurses := true, apart := false, narrowed := true }
def FnExactOrientSurfaceUptoSaid : Prop := fnExactOrientSurfaceUptoRow.holds Try.pinned (OpenSpec.upto fnExactOrientSurfaceSpec)

end Rows
end Go.Proofs.Ytfakhcmamdefiaa
