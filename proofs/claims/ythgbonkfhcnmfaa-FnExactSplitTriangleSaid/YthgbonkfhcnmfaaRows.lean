/-
  No cell of these rows narrows 'for every input' (looked for: loops, veiled, ifaces, maps, wideKeys, modest, calm, conditions, laid).
  DERIVED. THE GIVEN ROWS OF THIS SEAT. 4 by the template 'for every input the law returns true; each argument reads behind the call as it read before'; 0 by the template 'total and deterministic' (their statements: YthgbonkfhcnmfaaTotals.lean).
  GIVEN WITH THE SEED: the statements are not yours to turn. If you find one false, say at which input.
  Laid BY PROGRAM, IN A SANDBOX (cutbox-rows.mjs): the forced cells as the released guide's own fill.sh prints them over the translation bc39f454980b9cf8… (all of the seat's roots in one cut). By AI agents, Wed Nov 11 2026. No macro, syntax, notation, axiom, sorry.
-/
import Derived.Test.YthgbonkfhcnmfaaChecked
import GoSem.Claim
import GoSem.ClaimJoined
import GoSem.ClaimMapViews
import Derived.JoinedTies
import Derived.KernelRfl
namespace Go.Proofs.Ythgbonkfhcnmfaa
/- THE CELL 'sum', in the pinned program and in every row, IS THE sha256 OF THE DUMP (.gsa) THAT YthgbonkfhcnmfaaProg.lean LOADS. Nothing in Lean hashes anything: it is a label: what it is worth is what the hold of that sum in a sandbox is worth. -/
noncomputable def Try.pinned : Pinned := { name := "ythgbonkfhcnmfaa", sum := "bc39f454980b9cf8e957b9aabdf260a4a67630ad9546d18c5e4ad6d7b2a236eb", checked := Try.checked }
namespace Rows
def none {H : Type} : Left H := { results := [], args := [] }

/-- 'laws.FnExactIsSurface': WHATEVER THE INPUT: true; the input reads as it did. -/
def fnExactIsSurfaceSpec : ChangeSpec := { name := "fnExactIsSurface", fn := fun _ => fun
  | [d] => { results := [.lit (.bool true)], args := [d] }
  | _ => none }
def fnExactIsSurfaceRow : OpenClaim := { program := "ythgbonkfhcnmfaa", sum := "bc39f454980b9cf8e957b9aabdf260a4a67630ad9546d18c5e4ad6d7b2a236eb", func := "loop.example/g01267/laws.FnExactIsSurface", spec := "fnExactIsSurface", unfollowed := true, recurses := true, apart := false }
def FnExactIsSurfaceSaid : Prop := fnExactIsSurfaceRow.holds Try.pinned (OpenSpec.ofChange fnExactIsSurfaceSpec)

/-- ITS FALSE NEIGHBOUR: 'it returns false'. Refute it at one input. -/
def fnExactIsSurfaceWrong : ChangeSpec := { name := "fnExactIsSurface", fn := fun _ => fun
  | [d] => { results := [.lit (.bool false)], args := [d] }
  | _ => none }
def FnExactIsSurfaceWrongFalsely : Prop := fnExactIsSurfaceRow.holds Try.pinned (OpenSpec.ofChange fnExactIsSurfaceWrong)

/-- 'laws.FnExactNamedSurface': WHATEVER THE INPUT: true; the input reads as it did. -/
def fnExactNamedSurfaceSpec : ChangeSpec := { name := "fnExactNamedSurface", fn := fun _ => fun
  | [d] => { results := [.lit (.bool true)], args := [d] }
  | _ => none }
def fnExactNamedSurfaceRow : OpenClaim := { program := "ythgbonkfhcnmfaa", sum := "bc39f454980b9cf8e957b9aabdf260a4a67630ad9546d18c5e4ad6d7b2a236eb", func := "loop.example/g01267/laws.FnExactNamedSurface", spec := "fnExactNamedSurface", apart := false }
def FnExactNamedSurfaceSaid : Prop := fnExactNamedSurfaceRow.holds Try.pinned (OpenSpec.ofChange fnExactNamedSurfaceSpec)

/-- ITS FALSE NEIGHBOUR: 'it returns false'. Refute it at one input. -/
def fnExactNamedSurfaceWrong : ChangeSpec := { name := "fnExactNamedSurface", fn := fun _ => fun
  | [d] => { results := [.lit (.bool false)], args := [d] }
  | _ => none }
def FnExactNamedSurfaceWrongFalsely : Prop := fnExactNamedSurfaceRow.holds Try.pinned (OpenSpec.ofChange fnExactNamedSurfaceWrong)

/-- 'laws.FnExactSplitTriangle': WHATEVER THE INPUT: true; the input reads as it did. -/
def fnExactSplitTriangleSpec : ChangeSpec := { name := "fnExactSplitTriangle", fn := fun _ => fun
  | [d1, d2] => { results := [.lit (.bool true)], args := [d1, d2] }
  | _ => none }
def fnExactSplitTriangleRow : OpenClaim := { program := "ythgbonkfhcnmfaa", sum := "bc39f454980b9cf8e957b9aabdf260a4a67630ad9546d18c5e4ad6d7b2a236eb", func := "loop.example/g01267/laws.FnExactSplitTriangle", spec := "fnExactSplitTriangle", unfollowed := true, recurses := true, apart := false }
def FnExactSplitTriangleSaid : Prop := fnExactSplitTriangleRow.holds Try.pinned (OpenSpec.ofChange fnExactSplitTriangleSpec)

/-- ITS FALSE NEIGHBOUR: 'it returns false'. Refute it at one input. -/
def fnExactSplitTriangleWrong : ChangeSpec := { name := "fnExactSplitTriangle", fn := fun _ => fun
  | [d1, d2] => { results := [.lit (.bool false)], args := [d1, d2] }
  | _ => none }
def FnExactSplitTriangleWrongFalsely : Prop := fnExactSplitTriangleRow.holds Try.pinned (OpenSpec.ofChange fnExactSplitTriangleWrong)

/-- 'laws.FnExactIsSymmetric': WHATEVER THE INPUT: true; the input reads as it did. -/
def fnExactIsSymmetricSpec : ChangeSpec := { name := "fnExactIsSymmetric", fn := fun _ => fun
  | [d] => { results := [.lit (.bool true)], args := [d] }
  | _ => none }
def fnExactIsSymmetricRow : OpenClaim := { program := "ythgbonkfhcnmfaa", sum := "bc39f454980b9cf8e957b9aabdf260a4a67630ad9546d18c5e4ad6d7b2a236eb", func := "loop.example/g01267/laws.FnExactIsSymmetric", spec := "fnExactIsSymmetric", apart := false }
def FnExactIsSymmetricSaid : Prop := fnExactIsSymmetricRow.holds Try.pinned (OpenSpec.ofChange fnExactIsSymmetricSpec)

/-- ITS FALSE NEIGHBOUR: 'it returns false'. Refute it at one input. -/
def fnExactIsSymmetricWrong : ChangeSpec := { name := "fnExactIsSymmetric", fn := fun _ => fun
  | [d] => { results := [.lit (.bool false)], args := [d] }
  | _ => none }
def FnExactIsSymmetricWrongFalsely : Prop := fnExactIsSymmetricRow.holds Try.pinned (OpenSpec.ofChange fnExactIsSymmetricWrong)

/- THE SECOND FORM. 'bulk': how many values and letters a reading holds, each counted each time it is reached (what is shared counts as often as it is met; a slice's spare places count too). A statement '..UptoSaid' is the law's where the arguments, and the package variables that the reading takes, are together of bulk at most 1048576: NARROWER than '..Said'. Prove '..Said' where nothing that the law and all that it calls make is longer than what came in: it says more and counts as full. Else prove '..UptoSaid'. A law counts once. -/
mutual
def uptoBulk {H : Type} : DataW H → Nat
  | .lit (.string bytes) => bytes.length + 1
  | .lit _ => 1
  | .nil => 1
  | .ptr d => uptoBulk d + 1
  | .slice elems spare => uptoBulkAll elems + uptoBulkAll spare + 1
  | .agg parts => uptoBulkAll parts + 1
  | .iface _ d => uptoBulk d + 1
  | .map entries => uptoBulkEntries entries + 1
  | .held _ => 1
def uptoBulkAll {H : Type} : List (DataW H) → Nat
  | [] => 0
  | d :: r => uptoBulk d + uptoBulkAll r
def uptoBulkEntries {H : Type} : List (Lit × DataW H) → Nat
  | [] => 0
  | x :: r => uptoBulkEntry x + uptoBulkEntries r
def uptoBulkEntry {H : Type} : Lit × DataW H → Nat
  | (.string bytes, d) => bytes.length + uptoBulk d + 1
  | (_, d) => uptoBulk d + 1
 end
def uptoSmall : (H : Type) → List (DataW H) → Bool := fun _ ds => decide (uptoBulkAll ds ≤ 1048576)
def OpenSpec.upto (s : _root_.Go.ChangeSpec) : _root_.Go.OpenSpec := { _root_.Go.OpenSpec.ofChange s with cond := some uptoSmall }

/-- 'laws.FnExactIsSurface', WHERE WHAT IT READS IS OF BULK AT MOST 1048576: true; the input reads as it did. -/
def fnExactIsSurfaceUptoRow : OpenClaim := { program := "ythgbonkfhcnmfaa", sum := "bc39f454980b9cf8e957b9aabdf260a4a67630ad9546d18c5e4ad6d7b2a236eb", func := "loop.example/g01267/laws.FnExactIsSurface", spec := "fnExactIsSurface", unfollowed := true, recurses := true, apart := false, narrowed := true }
def FnExactIsSurfaceUptoSaid : Prop := fnExactIsSurfaceUptoRow.holds Try.pinned (OpenSpec.upto fnExactIsSurfaceSpec)

/-- 'laws.FnExactNamedSurface', WHERE WHAT IT READS IS OF BULK AT MOST 1048576: true; the input reads as it did. -/
def fnExactNamedSurfaceUptoRow : OpenClaim := { program := "ythgbonkfhcnmfaa", sum := "bc39f454980b9cf8e957b9aabdf260a4a67630ad9546d18c5e4ad6d7b2a236eb", func := "loop.example/g01267/laws.FnExactNamedSurface", spec := "fnExactNamedSurface", apart := false, narrowed := true }
def FnExactNamedSurfaceUptoSaid : Prop := fnExactNamedSurfaceUptoRow.holds Try.pinned (OpenSpec.upto fnExactNamedSurfaceSpec)

/-- 'laws.FnExactSplitTriangle', WHERE WHAT IT READS IS OF BULK AT MOST 1048576: true; the input reads as it did. -/
def fnExactSplitTriangleUptoRow : OpenClaim := { program := "ythgbonkfhcnmfaa", sum := "bc39f454980b9cf8e957b9aabdf260a4a67630ad9546d18c5e4ad6d7b2a236eb", func := "loop.example/g01267/laws.FnExactSplitTriangle", spec := "fnExactSplitTriangle", unfollowed := true, recurses := true, apart := false, narrowed := true }
def FnExactSplitTriangleUptoSaid : Prop := fnExactSplitTriangleUptoRow.holds Try.pinned (OpenSpec.upto fnExactSplitTriangleSpec)

/-- 'laws.FnExactIsSymmetric', WHERE WHAT IT READS IS OF BULK AT MOST 1048576: true; the input reads as it did. -/
def fnExactIsSymmetricUptoRow : OpenClaim := { program := "ythgbonkfhcnmfaa", sum := "bc39f454980b9cf8e957b9aabdf260a4a67630ad9546d18c5e4ad6d7b2a236eb", func := "loop.example/g01267/laws.FnExactIsSymmetric", spec := "fnExactIsSymmetric", apart := false, narrowed := true }
def FnExactIsSymmetricUptoSaid : Prop := fnExactIsSymmetricUptoRow.holds Try.pinned (OpenSpec.upto fnExactIsSymmetricSpec)

end Rows
end Go.Proofs.Ythgbonkfhcnmfaa
