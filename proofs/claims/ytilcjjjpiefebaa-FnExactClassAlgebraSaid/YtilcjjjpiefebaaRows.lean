/-
  No cell of these rows narrows 'for every input' (looked for: loops, veiled, ifaces, maps, wideKeys, modest, calm, conditions, laid).
  DERIVED. THE GIVEN ROWS OF THIS SEAT. 3 by the template 'for every input the law returns true; each argument reads behind the call as it read before'; 0 by the template 'total and deterministic' (their statements: YtilcjjjpiefebaaTotals.lean).
  GIVEN WITH THE SEED: the statements are not yours to turn. If you find one false, say at which input.
  Laid BY PROGRAM, IN A SANDBOX (cutbox-rows.mjs): the forced cells as the released guide's own fill.sh prints them over the translation 0bc974db2a3a3ea6… (all of the seat's roots in one cut). By AI agents, Wed Nov 11 2026. No macro, syntax, notation, axiom, sorry.
-/
import Derived.Test.YtilcjjjpiefebaaChecked
import GoSem.Claim
import GoSem.ClaimJoined
import GoSem.ClaimMapViews
import Derived.JoinedTies
import Derived.KernelRfl
namespace Go.Proofs.Ytilcjjjpiefebaa
/- THE CELL 'sum', in the pinned program and in every row, IS THE sha256 OF THE DUMP (.gsa) THAT YtilcjjjpiefebaaProg.lean LOADS. Nothing in Lean hashes anything: it is a label: what it is worth is what the hold of that sum in a sandbox is worth. -/
noncomputable def Try.pinned : Pinned := { name := "ytilcjjjpiefebaa", sum := "0bc974db2a3a3ea636bfe068e703624753d4784f46049cfbc047547a64301d19", checked := Try.checked }
namespace Rows
def none {H : Type} : Left H := { results := [], args := [] }

/-- 'laws.FnExactClassesOf': WHATEVER THE INPUT: true; the input reads as it did. -/
def fnExactClassesOfSpec : ChangeSpec := { name := "fnExactClassesOf", fn := fun _ => fun
  | [d] => { results := [.lit (.bool true)], args := [d] }
  | _ => none }
def fnExactClassesOfRow : OpenClaim := { program := "ytilcjjjpiefebaa", sum := "0bc974db2a3a3ea636bfe068e703624753d4784f46049cfbc047547a64301d19", func := "loop.example/g01267/laws.FnExactClassesOf", spec := "fnExactClassesOf", recurses := true, apart := false }
def FnExactClassesOfSaid : Prop := fnExactClassesOfRow.holds Try.pinned (OpenSpec.ofChange fnExactClassesOfSpec)

/-- ITS FALSE NEIGHBOUR: 'it returns false'. Refute it at one input. -/
def fnExactClassesOfWrong : ChangeSpec := { name := "fnExactClassesOf", fn := fun _ => fun
  | [d] => { results := [.lit (.bool false)], args := [d] }
  | _ => none }
def FnExactClassesOfWrongFalsely : Prop := fnExactClassesOfRow.holds Try.pinned (OpenSpec.ofChange fnExactClassesOfWrong)

/-- 'laws.FnExactClassAlgebra': WHATEVER THE INPUT: true; the input reads as it did. -/
def fnExactClassAlgebraSpec : ChangeSpec := { name := "fnExactClassAlgebra", fn := fun _ => fun
  | [d1, d2] => { results := [.lit (.bool true)], args := [d1, d2] }
  | _ => none }
def fnExactClassAlgebraRow : OpenClaim := { program := "ytilcjjjpiefebaa", sum := "0bc974db2a3a3ea636bfe068e703624753d4784f46049cfbc047547a64301d19", func := "loop.example/g01267/laws.FnExactClassAlgebra", spec := "fnExactClassAlgebra", unfollowed := true, recurses := true, apart := false }
def FnExactClassAlgebraSaid : Prop := fnExactClassAlgebraRow.holds Try.pinned (OpenSpec.ofChange fnExactClassAlgebraSpec)

/-- ITS FALSE NEIGHBOUR: 'it returns false'. Refute it at one input. -/
def fnExactClassAlgebraWrong : ChangeSpec := { name := "fnExactClassAlgebra", fn := fun _ => fun
  | [d1, d2] => { results := [.lit (.bool false)], args := [d1, d2] }
  | _ => none }
def FnExactClassAlgebraWrongFalsely : Prop := fnExactClassAlgebraRow.holds Try.pinned (OpenSpec.ofChange fnExactClassAlgebraWrong)

/-- 'laws.FnExactRegularClasses': WHATEVER THE INPUT: true; the input reads as it did. -/
def fnExactRegularClassesSpec : ChangeSpec := { name := "fnExactRegularClasses", fn := fun _ => fun
  | [d1, d2, d3] => { results := [.lit (.bool true)], args := [d1, d2, d3] }
  | _ => none }
def fnExactRegularClassesRow : OpenClaim := { program := "ytilcjjjpiefebaa", sum := "0bc974db2a3a3ea636bfe068e703624753d4784f46049cfbc047547a64301d19", func := "loop.example/g01267/laws.FnExactRegularClasses", spec := "fnExactRegularClasses", recurses := true, apart := false }
def FnExactRegularClassesSaid : Prop := fnExactRegularClassesRow.holds Try.pinned (OpenSpec.ofChange fnExactRegularClassesSpec)

/-- ITS FALSE NEIGHBOUR: 'it returns false'. Refute it at one input. -/
def fnExactRegularClassesWrong : ChangeSpec := { name := "fnExactRegularClasses", fn := fun _ => fun
  | [d1, d2, d3] => { results := [.lit (.bool false)], args := [d1, d2, d3] }
  | _ => none }
def FnExactRegularClassesWrongFalsely : Prop := fnExactRegularClassesRow.holds Try.pinned (OpenSpec.ofChange fnExactRegularClassesWrong)

/- THE SECOND FORM. 'bulk': how many values and letters a reading holds, each counted each time it is reached (what is shared counts as often as it is met; a slice's spare places count too). A statement '..UptoSaid' is the law's where the arguments, and the package variables that the reading takes, are together of bulk at most 1048576: NARROWER than '..Said'. Prove '..Said' where nothing that the law and all that it calls make is longer than what came in: it says more and counts as full. Else prove '..UptoSaid'. A law counts once. -/
mutual
def uptoBulk {H : Type} : DataW H → Nat
  | .lit (.string bytes) => bytes.length + 1
  | .lit _ => 1
  | .nil => 1
  | .ptr d => uptoBulk d + 1
  | .slice elems spare => uptoBulkAll elems + uptoBulkAll spare + 1
  | .agg parts => uptoBulkAll parts + 1
  | .iface _ d => uptoBulk d + 1
  | .map entries => uptoBulkEntries entries + 1
  | .held _ => 1
def uptoBulkAll {H : Type} : List (DataW H) → Nat
  | [] => 0
  | d :: r => uptoBulk d + uptoBulkAll r
def uptoBulkEntries {H : Type} : List (Lit × DataW H) → Nat
  | [] => 0
  | x :: r => uptoBulkEntry x + uptoBulkEntries r
def uptoBulkEntry {H : Type} : Lit × DataW H → Nat
  | (.string bytes, d) => bytes.length + uptoBulk d + 1
  | (_, d) => uptoBulk d + 1
 end
def uptoSmall : (H : Type) → List (DataW H) → Bool := fun _ ds => decide (uptoBulkAll ds ≤ 1048576)
def OpenSpec.upto (s : _root_.Go.ChangeSpec) : _root_.Go.OpenSpec := { _root_.Go.OpenSpec.ofChange s with cond := some uptoSmall }

/-- 'laws.FnExactClassesOf', WHERE WHAT IT READS IS OF BULK AT MOST 1048576: true; the input reads as it did. -/
def fnExactClassesOfUptoRow : OpenClaim := { program := "ytilcjjjpiefebaa", sum := "0bc974db2a3a3ea636bfe068e703624753d4784f46049cfbc047547a64301d19", func := "loop.example/g01267/laws.FnExactClassesOf", spec := "fnExactClassesOf", recurses := true, apart := false, narrowed := true }
def FnExactClassesOfUptoSaid : Prop := fnExactClassesOfUptoRow.holds Try.pinned (OpenSpec.upto fnExactClassesOfSpec)

/-- 'laws.FnExactClassAlgebra', WHERE WHAT IT READS IS OF BULK AT MOST 1048576: true; the input reads as it did. -/
def fnExactClassAlgebraUptoRow : OpenClaim := { program := "ytilcjjjpiefebaa", sum := "0bc974db2a3a3ea636bfe068e703624753d4784f46049cfbc047547a64301d19", func := "loop.example/g01267/laws.FnExactClassAlgebra", spec := "fnExactClassAlgebra", unfollowed := true, recurses := true, apart := false, narrowed := true }
def FnExactClassAlgebraUptoSaid : Prop := fnExactClassAlgebraUptoRow.holds Try.pinned (OpenSpec.upto fnExactClassAlgebraSpec)

/-- 'laws.FnExactRegularClasses', WHERE WHAT IT READS IS OF BULK AT MOST 1048576: true; the input reads as it did. -/
def fnExactRegularClassesUptoRow : OpenClaim := { program := "ytilcjjjpiefebaa", sum := "0bc974db2a3a3ea636bfe068e703624753d4784f46049cfbc047547a64301d19", func := "loop.example/g01267/laws.FnExactRegularClasses", spec := "fnExactRegularClasses", recurses := true, apart := false, narrowed := true }
def FnExactRegularClassesUptoSaid : Prop := fnExactRegularClassesUptoRow.holds Try.pinned (OpenSpec.upto fnExactRegularClassesSpec)

end Rows
end Go.Proofs.Ytilcjjjpiefebaa
