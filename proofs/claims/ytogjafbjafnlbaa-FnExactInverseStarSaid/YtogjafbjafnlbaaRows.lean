/-
  No cell of these rows narrows 'for every input' (looked for: loops, veiled, ifaces, maps, wideKeys, modest, calm, conditions, laid).
  DERIVED. THE GIVEN ROWS OF THIS SEAT. 3 by the template 'for every input the law returns true; each argument reads behind the call as it read before'; 0 by the template 'total and deterministic' (their statements: YtogjafbjafnlbaaTotals.lean).
  GIVEN WITH THE SEED: the statements are not yours to turn. If you find one false, say at which input.
  Laid BY PROGRAM, IN A SANDBOX (cutbox-rows.mjs): the forced cells as the released guide's own fill.sh prints them over the translation 0671d2f82bd964c5… (all of the seat's roots in one cut). By AI agents, Wed Nov 11 2026. No macro, syntax, notation, axiom, sorry.
-/
import Derived.Test.YtogjafbjafnlbaaChecked
import GoSem.Claim
import GoSem.ClaimJoined
import GoSem.ClaimMapViews
import Derived.JoinedTies
import Derived.KernelRfl
namespace Go.Proofs.Ytogjafbjafnlbaa
/- THE CELL 'sum', in the pinned program and in every row, IS THE sha256 OF THE DUMP (.gsa) THAT YtogjafbjafnlbaaProg.lean LOADS. Nothing in Lean hashes anything: it is a label: what it is worth is what the hold of that sum in a sandbox is worth. -/
noncomputable def Try.pinned : Pinned := { name := "ytogjafbjafnlbaa", sum := "0671d2f82bd964c5cfdadfe1721c55e14bae7b93dbc3a2993583a9246ed8e853", checked := Try.checked }
namespace Rows
def none {H : Type} : Left H := { results := [], args := [] }

/-- 'laws.FnExactInverseStar': WHATEVER THE INPUT: true; the input reads as it did. -/
def fnExactInverseStarSpec : ChangeSpec := { name := "fnExactInverseStar", fn := fun _ => fun
  | [d1, d2] => { results := [.lit (.bool true)], args := [d1, d2] }
  | _ => none }
def fnExactInverseStarRow : OpenClaim := { program := "ytogjafbjafnlbaa", sum := "0671d2f82bd964c5cfdadfe1721c55e14bae7b93dbc3a2993583a9246ed8e853", func := "loop.example/g01267/laws.FnExactInverseStar", spec := "fnExactInverseStar", unfollowed := true, recurses := true, apart := false }
def FnExactInverseStarSaid : Prop := fnExactInverseStarRow.holds Try.pinned (OpenSpec.ofChange fnExactInverseStarSpec)

/-- ITS FALSE NEIGHBOUR: 'it returns false'. Refute it at one input. -/
def fnExactInverseStarWrong : ChangeSpec := { name := "fnExactInverseStar", fn := fun _ => fun
  | [d1, d2] => { results := [.lit (.bool false)], args := [d1, d2] }
  | _ => none }
def FnExactInverseStarWrongFalsely : Prop := fnExactInverseStarRow.holds Try.pinned (OpenSpec.ofChange fnExactInverseStarWrong)

/-- 'laws.FnExactCountSquares': WHATEVER THE INPUT: true; the input reads as it did. -/
def fnExactCountSquaresSpec : ChangeSpec := { name := "fnExactCountSquares", fn := fun _ => fun
  | [d1, d2] => { results := [.lit (.bool true)], args := [d1, d2] }
  | _ => none }
def fnExactCountSquaresRow : OpenClaim := { program := "ytogjafbjafnlbaa", sum := "0671d2f82bd964c5cfdadfe1721c55e14bae7b93dbc3a2993583a9246ed8e853", func := "loop.example/g01267/laws.FnExactCountSquares", spec := "fnExactCountSquares", apart := false }
def FnExactCountSquaresSaid : Prop := fnExactCountSquaresRow.holds Try.pinned (OpenSpec.ofChange fnExactCountSquaresSpec)

/-- ITS FALSE NEIGHBOUR: 'it returns false'. Refute it at one input. -/
def fnExactCountSquaresWrong : ChangeSpec := { name := "fnExactCountSquares", fn := fun _ => fun
  | [d1, d2] => { results := [.lit (.bool false)], args := [d1, d2] }
  | _ => none }
def FnExactCountSquaresWrongFalsely : Prop := fnExactCountSquaresRow.holds Try.pinned (OpenSpec.ofChange fnExactCountSquaresWrong)

/-- 'laws.FnExactSquareVector': WHATEVER THE INPUT: true; the input reads as it did. -/
def fnExactSquareVectorSpec : ChangeSpec := { name := "fnExactSquareVector", fn := fun _ => fun
  | [d1, d2] => { results := [.lit (.bool true)], args := [d1, d2] }
  | _ => none }
def fnExactSquareVectorRow : OpenClaim := { program := "ytogjafbjafnlbaa", sum := "0671d2f82bd964c5cfdadfe1721c55e14bae7b93dbc3a2993583a9246ed8e853", func := "loop.example/g01267/laws.FnExactSquareVector", spec := "fnExactSquareVector", recurses := true, apart := false }
def FnExactSquareVectorSaid : Prop := fnExactSquareVectorRow.holds Try.pinned (OpenSpec.ofChange fnExactSquareVectorSpec)

/-- ITS FALSE NEIGHBOUR: 'it returns false'. Refute it at one input. -/
def fnExactSquareVectorWrong : ChangeSpec := { name := "fnExactSquareVector", fn := fun _ => fun
  | [d1, d2] => { results := [.lit (.bool false)], args := [d1, d2] }
  | _ => none }
def FnExactSquareVectorWrongFalsely : Prop := fnExactSquareVectorRow.holds Try.pinned (OpenSpec.ofChange fnExactSquareVectorWrong)

/- THE SECOND FORM. 'bulk': how many values and letters a reading holds, each counted each time it is reached (what is shared counts as often as it is met; a slice's spare places count too). A statement '..UptoSaid' is the law's where the arguments, and the package variables that the reading takes, are together of bulk at most 1048576: NARROWER than '..Said'. Prove '..Said' where nothing that the law and all that it calls make is longer than what came in: it says more and counts as full. Else prove '..UptoSaid'. A law counts once. -/
mutual
def uptoBulk {H : Type} : DataW H → Nat
  | .lit (.string bytes) => bytes.length + 1
  | .lit _ => 1
  | .nil => 1
  | .ptr d => uptoBulk d + 1
  | .slice elems spare => uptoBulkAll elems + uptoBulkAll spare + 1
  | .agg parts => uptoBulkAll parts + 1
  | .iface _ d => uptoBulk d + 1
  | .map entries => uptoBulkEntries entries + 1
  | .held _ => 1
def uptoBulkAll {H : Type} : List (DataW H) → Nat
  | [] => 0
  | d :: r => uptoBulk d + uptoBulkAll r
def uptoBulkEntries {H : Type} : List (Lit × DataW H) → Nat
  | [] => 0
  | x :: r => uptoBulkEntry x + uptoBulkEntries r
def uptoBulkEntry {H : Type} : Lit × DataW H → Nat
  | (.string bytes, d) => bytes.length + uptoBulk d + 1
  | (_, d) => uptoBulk d + 1
 end
def uptoSmall : (H : Type) → List (DataW H) → Bool := fun _ ds => decide (uptoBulkAll ds ≤ 1048576)
def OpenSpec.upto (s : _root_.Go.ChangeSpec) : _root_.Go.OpenSpec := { _root_.Go.OpenSpec.ofChange s with cond := some uptoSmall }

/-- 'laws.FnExactInverseStar', WHERE WHAT IT READS IS OF BULK AT MOST 1048576: true; the input reads as it did. -/
def fnExactInverseStarUptoRow : OpenClaim := { program := "ytogjafbjafnlbaa", sum := "0671d2f82bd964c5cfdadfe1721c55e14bae7b93dbc3a2993583a9246ed8e853", func := "loop.example/g01267/laws.FnExactInverseStar", spec := "fnExactInverseStar", unfollowed := true, recurses := true, apart := false, narrowed := true }
def FnExactInverseStarUptoSaid : Prop := fnExactInverseStarUptoRow.holds Try.pinned (OpenSpec.upto fnExactInverseStarSpec)

/-- 'laws.FnExactCountSquares', WHERE WHAT IT READS IS OF BULK AT MOST 1048576: true; the input reads as it did. -/
def fnExactCountSquaresUptoRow : OpenClaim := { program := "ytogjafbjafnlbaa", sum := "0671d2f82bd964c5cfdadfe1721c55e14bae7b93dbc3a2993583a9246ed8e853", func := "loop.example/g01267/laws.FnExactCountSquares", spec := "fnExactCountSquares", apart := false, narrowed := true }
def FnExactCountSquaresUptoSaid : Prop := fnExactCountSquaresUptoRow.holds Try.pinned (OpenSpec.upto fnExactCountSquaresSpec)

/-- 'laws.FnExactSquareVector', WHERE WHAT IT READS IS OF BULK AT MOST 1048576: true; the input reads as it did. -/
def fnExactSquareVectorUptoRow : OpenClaim := { program := "ytogjafbjafnlbaa", sum := "0671d2f82bd964c5cfdadfe1721c55e14bae7b93dbc3a2993583a9246ed8e853", func := "loop.example/g01267/laws.FnExactSquareVector", spec := "fnExactSquareVector", recurses := true, apart := false, narrowed := true }
def FnExactSquareVectorUptoSaid : Prop := fnExactSquareVectorUptoRow.holds Try.pinned (OpenSpec.upto fnExactSquareVectorSpec)

end Rows
end Go.Proofs.Ytogjafbjafnlbaa
