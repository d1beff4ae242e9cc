/-
  No cell of these rows narrows 'for every input' (looked for: loops, veiled, ifaces, maps, wideKeys, modest, calm, conditions, laid).
  DERIVED. THE GIVEN ROWS OF THIS SEAT. 7 by the template 'for every input the law returns true; each argument reads behind the call as it read before'; 0 by the template 'total and deterministic' (their statements: YtcheokblafncbaaTotals.lean).
  GIVEN WITH THE SEED: the statements are not yours to turn. If you find one false, say at which input.
  Laid BY PROGRAM, IN A SANDBOX (cutbox-rows.mjs): the forced cells as the released guide's own fill.sh prints them over the translation c15e8dd0540863eb… (all of the seat's roots in one cut). By AI agents, Wed Nov 11 2026. No macro, syntax, notation, axiom, sorry.
-/
import Derived.Test.YtcheokblafncbaaChecked
import GoSem.Claim
import GoSem.ClaimJoined
import GoSem.ClaimMapViews
import Derived.JoinedTies
import Derived.KernelRfl
namespace Go.Proofs.Ytcheokblafncbaa
/- THE CELL 'sum', in the pinned program and in every row, IS THE sha256 OF THE DUMP (.gsa) THAT YtcheokblafncbaaProg.lean LOADS. Nothing in Lean hashes anything: it is a label: what it is worth is what the hold of that sum in a sandbox is worth. -/
noncomputable def Try.pinned : Pinned := { name := "ytcheokblafncbaa", sum := "c15e8dd0540863eb902d51e678f90d01a952b33c2628e8603727746b201bced7", checked := Try.checked }
namespace Rows
def none {H : Type} : Left H := { results := [], args := [] }

/-- 'laws.FnExactIsGroup': WHATEVER THE INPUT: true; the input reads as it did. -/
def fnExactIsGroupSpec : ChangeSpec := { name := "fnExactIsGroup", fn := fun _ => fun
  | [d] => { results := [.lit (.bool true)], args := [d] }
  | _ => none }
def fnExactIsGroupRow : OpenClaim := { program := "ytcheokblafncbaa", sum := "c15e8dd0540863eb902d51e678f90d01a952b33c2628e8603727746b201bced7", func := "loop.example/g01267/laws.FnExactIsGroup", spec := "fnExactIsGroup", apart := false }
def FnExactIsGroupSaid : Prop := fnExactIsGroupRow.holds Try.pinned (OpenSpec.ofChange fnExactIsGroupSpec)

/-- ITS FALSE NEIGHBOUR: 'it returns false'. Refute it at one input. -/
def fnExactIsGroupWrong : ChangeSpec := { name := "fnExactIsGroup", fn := fun _ => fun
  | [d] => { results := [.lit (.bool false)], args := [d] }
  | _ => none }
def FnExactIsGroupWrongFalsely : Prop := fnExactIsGroupRow.holds Try.pinned (OpenSpec.ofChange fnExactIsGroupWrong)

/-- 'laws.FnExactCommutingPairs': WHATEVER THE INPUT: true; the input reads as it did. -/
def fnExactCommutingPairsSpec : ChangeSpec := { name := "fnExactCommutingPairs", fn := fun _ => fun
  | [d] => { results := [.lit (.bool true)], args := [d] }
  | _ => none }
def fnExactCommutingPairsRow : OpenClaim := { program := "ytcheokblafncbaa", sum := "c15e8dd0540863eb902d51e678f90d01a952b33c2628e8603727746b201bced7", func := "loop.example/g01267/laws.FnExactCommutingPairs", spec := "fnExactCommutingPairs", apart := false }
def FnExactCommutingPairsSaid : Prop := fnExactCommutingPairsRow.holds Try.pinned (OpenSpec.ofChange fnExactCommutingPairsSpec)

/-- ITS FALSE NEIGHBOUR: 'it returns false'. Refute it at one input. -/
def fnExactCommutingPairsWrong : ChangeSpec := { name := "fnExactCommutingPairs", fn := fun _ => fun
  | [d] => { results := [.lit (.bool false)], args := [d] }
  | _ => none }
def FnExactCommutingPairsWrongFalsely : Prop := fnExactCommutingPairsRow.holds Try.pinned (OpenSpec.ofChange fnExactCommutingPairsWrong)

/-- 'laws.FnExactCountSurface': WHATEVER THE INPUT: true; the input reads as it did. -/
def fnExactCountSurfaceSpec : ChangeSpec := { name := "fnExactCountSurface", fn := fun _ => fun
  | [d1, d2] => { results := [.lit (.bool true)], args := [d1, d2] }
  | _ => none }
def fnExactCountSurfaceRow : OpenClaim := { program := "ytcheokblafncbaa", sum := "c15e8dd0540863eb902d51e678f90d01a952b33c2628e8603727746b201bced7", func := "loop.example/g01267/laws.FnExactCountSurface", spec := "fnExactCountSurface", apart := false }
def FnExactCountSurfaceSaid : Prop := fnExactCountSurfaceRow.holds Try.pinned (OpenSpec.ofChange fnExactCountSurfaceSpec)

/-- ITS FALSE NEIGHBOUR: 'it returns false'. Refute it at one input. -/
def fnExactCountSurfaceWrong : ChangeSpec := { name := "fnExactCountSurface", fn := fun _ => fun
  | [d1, d2] => { results := [.lit (.bool false)], args := [d1, d2] }
  | _ => none }
def FnExactCountSurfaceWrongFalsely : Prop := fnExactCountSurfaceRow.holds Try.pinned (OpenSpec.ofChange fnExactCountSurfaceWrong)

/-- 'laws.FnExactGroupAlgebra': WHATEVER THE INPUT: true; the input reads as it did. -/
def fnExactGroupAlgebraSpec : ChangeSpec := { name := "fnExactGroupAlgebra", fn := fun _ => fun
  | [d1, d2] => { results := [.lit (.bool true)], args := [d1, d2] }
  | _ => none }
def fnExactGroupAlgebraRow : OpenClaim := { program := "ytcheokblafncbaa", sum := "c15e8dd0540863eb902d51e678f90d01a952b33c2628e8603727746b201bced7", func := "loop.example/g01267/laws.FnExactGroupAlgebra", spec := "fnExactGroupAlgebra", unfollowed := true, recurses := true, apart := false }
def FnExactGroupAlgebraSaid : Prop := fnExactGroupAlgebraRow.holds Try.pinned (OpenSpec.ofChange fnExactGroupAlgebraSpec)

/-- ITS FALSE NEIGHBOUR: 'it returns false'. Refute it at one input. -/
def fnExactGroupAlgebraWrong : ChangeSpec := { name := "fnExactGroupAlgebra", fn := fun _ => fun
  | [d1, d2] => { results := [.lit (.bool false)], args := [d1, d2] }
  | _ => none }
def FnExactGroupAlgebraWrongFalsely : Prop := fnExactGroupAlgebraRow.holds Try.pinned (OpenSpec.ofChange fnExactGroupAlgebraWrong)

/-- 'laws.FnExactIsCocycle': WHATEVER THE INPUT: true; the input reads as it did. -/
def fnExactIsCocycleSpec : ChangeSpec := { name := "fnExactIsCocycle", fn := fun _ => fun
  | [d1, d2, d3] => { results := [.lit (.bool true)], args := [d1, d2, d3] }
  | _ => none }
def fnExactIsCocycleRow : OpenClaim := { program := "ytcheokblafncbaa", sum := "c15e8dd0540863eb902d51e678f90d01a952b33c2628e8603727746b201bced7", func := "loop.example/g01267/laws.FnExactIsCocycle", spec := "fnExactIsCocycle", apart := false }
def FnExactIsCocycleSaid : Prop := fnExactIsCocycleRow.holds Try.pinned (OpenSpec.ofChange fnExactIsCocycleSpec)

/-- ITS FALSE NEIGHBOUR: 'it returns false'. Refute it at one input. -/
def fnExactIsCocycleWrong : ChangeSpec := { name := "fnExactIsCocycle", fn := fun _ => fun
  | [d1, d2, d3] => { results := [.lit (.bool false)], args := [d1, d2, d3] }
  | _ => none }
def FnExactIsCocycleWrongFalsely : Prop := fnExactIsCocycleRow.holds Try.pinned (OpenSpec.ofChange fnExactIsCocycleWrong)

/-- 'laws.FnExactTwistedAlgebra': WHATEVER THE INPUT: true; the input reads as it did. -/
def fnExactTwistedAlgebraSpec : ChangeSpec := { name := "fnExactTwistedAlgebra", fn := fun _ => fun
  | [d1, d2, d3] => { results := [.lit (.bool true)], args := [d1, d2, d3] }
  | _ => none }
def fnExactTwistedAlgebraRow : OpenClaim := { program := "ytcheokblafncbaa", sum := "c15e8dd0540863eb902d51e678f90d01a952b33c2628e8603727746b201bced7", func := "loop.example/g01267/laws.FnExactTwistedAlgebra", spec := "fnExactTwistedAlgebra", unfollowed := true, recurses := true, apart := false }
def FnExactTwistedAlgebraSaid : Prop := fnExactTwistedAlgebraRow.holds Try.pinned (OpenSpec.ofChange fnExactTwistedAlgebraSpec)

/-- ITS FALSE NEIGHBOUR: 'it returns false'. Refute it at one input. -/
def fnExactTwistedAlgebraWrong : ChangeSpec := { name := "fnExactTwistedAlgebra", fn := fun _ => fun
  | [d1, d2, d3] => { results := [.lit (.bool false)], args := [d1, d2, d3] }
  | _ => none }
def FnExactTwistedAlgebraWrongFalsely : Prop := fnExactTwistedAlgebraRow.holds Try.pinned (OpenSpec.ofChange fnExactTwistedAlgebraWrong)

/-- 'laws.FnExactCoboundaryOf': WHATEVER THE INPUT: true; the input reads as it did. -/
def fnExactCoboundaryOfSpec : ChangeSpec := { name := "fnExactCoboundaryOf", fn := fun _ => fun
  | [d1, d2, d3] => { results := [.lit (.bool true)], args := [d1, d2, d3] }
  | _ => none }
def fnExactCoboundaryOfRow : OpenClaim := { program := "ytcheokblafncbaa", sum := "c15e8dd0540863eb902d51e678f90d01a952b33c2628e8603727746b201bced7", func := "loop.example/g01267/laws.FnExactCoboundaryOf", spec := "fnExactCoboundaryOf", apart := false }
def FnExactCoboundaryOfSaid : Prop := fnExactCoboundaryOfRow.holds Try.pinned (OpenSpec.ofChange fnExactCoboundaryOfSpec)

/-- ITS FALSE NEIGHBOUR: 'it returns false'. Refute it at one input. -/
def fnExactCoboundaryOfWrong : ChangeSpec := { name := "fnExactCoboundaryOf", fn := fun _ => fun
  | [d1, d2, d3] => { results := [.lit (.bool false)], args := [d1, d2, d3] }
  | _ => none }
def FnExactCoboundaryOfWrongFalsely : Prop := fnExactCoboundaryOfRow.holds Try.pinned (OpenSpec.ofChange fnExactCoboundaryOfWrong)

/- THE SECOND FORM. 'bulk': how many values and letters a reading holds, each counted each time it is reached (what is shared counts as often as it is met; a slice's spare places count too). A statement '..UptoSaid' is the law's where the arguments, and the package variables that the reading takes, are together of bulk at most 1048576: NARROWER than '..Said'. Prove '..Said' where nothing that the law and all that it calls make is longer than what came in: it says more and counts as full. Else prove '..UptoSaid'. A law counts once. -/
mutual
def uptoBulk {H : Type} : DataW H → Nat
  | .lit (.string bytes) => bytes.length + 1
  | .lit _ => 1
  | .nil => 1
  | .ptr d => uptoBulk d + 1
  | .slice elems spare => uptoBulkAll elems + uptoBulkAll spare + 1
  | .agg parts => uptoBulkAll parts + 1
  | .iface _ d => uptoBulk d + 1
  | .map entries => uptoBulkEntries entries + 1
  | .held _ => 1
def uptoBulkAll {H : Type} : List (DataW H) → Nat
  | [] => 0
  | d :: r => uptoBulk d + uptoBulkAll r
def uptoBulkEntries {H : Type} : List (Lit × DataW H) → Nat
  | [] => 0
  | x :: r => uptoBulkEntry x + uptoBulkEntries r
def uptoBulkEntry {H : Type} : Lit × DataW H → Nat
  | (.string bytes, d) => bytes.length + uptoBulk d + 1
  | (_, d) => uptoBulk d + 1
 end
def uptoSmall : (H : Type) → List (DataW H) → Bool := fun _ ds => decide (uptoBulkAll ds ≤ 1048576)
def OpenSpec.upto (s : _root_.Go.ChangeSpec) : _root_.Go.OpenSpec := { _root_.Go.OpenSpec.ofChange s with cond := some uptoSmall }

/-- 'laws.FnExactIsGroup', WHERE WHAT IT READS IS OF BULK AT MOST 1048576: true; the input reads as it did. -/
def fnExactIsGroupUptoRow : OpenClaim := { program := "ytcheokblafncbaa", sum := "c15e8dd0540863eb902d51e678f90d01a952b33c2628e8603727746b201bced7", func := "loop.example/g01267/laws.FnExactIsGroup", spec := "fnExactIsGroup", apart := false, narrowed := true }
def FnExactIsGroupUptoSaid : Prop := fnExactIsGroupUptoRow.holds Try.pinned (OpenSpec.upto fnExactIsGroupSpec)

/-- 'laws.FnExactCommutingPairs', WHERE WHAT IT READS IS OF BULK AT MOST 1048576: true; the input reads as it did. -/
def fnExactCommutingPairsUptoRow : OpenClaim := { program := "ytcheokblafncbaa", sum := "c15e8dd0540863eb902d51e678f90d01a952b33c2628e8603727746b201bced7", func := "loop.example/g01267/laws.FnExactCommutingPairs", spec := "fnExactCommutingPairs", apart := false, narrowed := true }
def FnExactCommutingPairsUptoSaid : Prop := fnExactCommutingPairsUptoRow.holds Try.pinned (OpenSpec.upto fnExactCommutingPairsSpec)

/-- 'laws.FnExactCountSurface', WHERE WHAT IT READS IS OF BULK AT MOST 1048576: true; the input reads as it did. -/
def fnExactCountSurfaceUptoRow : OpenClaim := { program := "ytcheokblafncbaa", sum := "c15e8dd0540863eb902d51e678f90d01a952b33c2628e8603727746b201bced7", func := "loop.example/g01267/laws.FnExactCountSurface", spec := "fnExactCountSurface", apart := false, narrowed := true }
def FnExactCountSurfaceUptoSaid : Prop := fnExactCountSurfaceUptoRow.holds Try.pinned (OpenSpec.upto fnExactCountSurfaceSpec)

/-- 'laws.FnExactGroupAlgebra', WHERE WHAT IT READS IS OF BULK AT MOST 1048576: true; the input reads as it did. -/
def fnExactGroupAlgebraUptoRow : OpenClaim := { program := "ytcheokblafncbaa", sum := "c15e8dd0540863eb902d51e678f90d01a952b33c2628e8603727746b201bced7", func := "loop.example/g01267/laws.FnExactGroupAlgebra", spec := "fnExactGroupAlgebra", unfollowed := true, recurses := true, apart := false, narrowed := true }
def FnExactGroupAlgebraUptoSaid : Prop := fnExactGroupAlgebraUptoRow.holds Try.pinned (OpenSpec.upto fnExactGroupAlgebraSpec)

/-- 'laws.FnExactIsCocycle', WHERE WHAT IT READS IS OF BULK AT MOST 1048576: true; the input reads as it did. -/
def fnExactIsCocycleUptoRow : OpenClaim := { program := "ytcheokblafncbaa", sum := "c15e8dd0540863eb902d51e678f90d01a952b33c2628e8603727746b201bced7", func := "loop.example/g01267/laws.FnExactIsCocycle", spec := "fnExactIsCocycle", apart := false, narrowed := true }
def FnExactIsCocycleUptoSaid : Prop := fnExactIsCocycleUptoRow.holds Try.pinned (OpenSpec.upto fnExactIsCocycleSpec)

/-- 'laws.FnExactTwistedAlgebra', WHERE WHAT IT READS IS OF BULK AT MOST 1048576: true; the input reads as it did. -/
def fnExactTwistedAlgebraUptoRow : OpenClaim := { program := "ytcheokblafncbaa", sum := "c15e8dd0540863eb902d51e678f90d01a952b33c2628e8603727746b201bced7", func := "loop.example/g01267/laws.FnExactTwistedAlgebra", spec := "fnExactTwistedAlgebra", unfollowed := true, recurses := true, apart := false, narrowed := true }
def FnExactTwistedAlgebraUptoSaid : Prop := fnExactTwistedAlgebraUptoRow.holds Try.pinned (OpenSpec.upto fnExactTwistedAlgebraSpec)

/-- 'laws.FnExactCoboundaryOf', WHERE WHAT IT READS IS OF BULK AT MOST 1048576: true; the input reads as it did. -/
def fnExactCoboundaryOfUptoRow : OpenClaim := { program := "ytcheokblafncbaa", sum := "c15e8dd0540863eb902d51e678f90d01a952b33c2628e8603727746b201bced7", func := "loop.example/g01267/laws.FnExactCoboundaryOf", spec := "fnExactCoboundaryOf", apart := false, narrowed := true }
def FnExactCoboundaryOfUptoSaid : Prop := fnExactCoboundaryOfUptoRow.holds Try.pinned (OpenSpec.upto fnExactCoboundaryOfSpec)

end Rows
end Go.Proofs.Ytcheokblafncbaa
