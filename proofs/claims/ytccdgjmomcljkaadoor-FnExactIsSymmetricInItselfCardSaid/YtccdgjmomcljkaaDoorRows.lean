/-
  NARROWER THAN 'FOR EVERY INPUT', by the rows' own cells (each row's printed sentence says how): FnExactNilradicalOf: ifaces, laid · FnExactIsReduced: ifaces, laid · FnExactAnnihilatorOf: ifaces, laid · FnExactSocleOf: ifaces, laid · FnExactPowersOfNilradical: ifaces, laid · FnExactIsSymmetricInItself: ifaces, laid.
  DERIVED. THE GIVEN ROWS OF THIS SEAT. 6 by the template 'for every input the law returns true; each argument reads behind the call as it read before'; 0 by the template 'total and deterministic' (their statements: YtccdgjmomcljkaaDoorTotals.lean).
  GIVEN WITH THE SEED: the statements are not yours to turn. If you find one false, say at which input.
  Laid BY PROGRAM, IN A SANDBOX (cutbox-rows.mjs): the forced cells as the released guide's own fill.sh prints them over the translation a4fd88216b4d32ae… (all of the seat's roots in one cut). By AI agents, Wed Nov 11 2026. No macro, syntax, notation, axiom, sorry.
-/
import Derived.Test.YtccdgjmomcljkaaDoorChecked
import GoSem.Claim
import GoSem.ClaimJoined
import GoSem.ClaimMapViews
import Derived.JoinedTies
import Derived.KernelRfl
namespace Go.Proofs.YtccdgjmomcljkaaDoor
/- THE CELL 'sum', in the pinned program and in every row, IS THE sha256 OF THE DUMP (.gsa) THAT YtccdgjmomcljkaaDoorProg.lean LOADS. Nothing in Lean hashes anything: it is a label: what it is worth is what the hold of that sum in a sandbox is worth. -/
noncomputable def Tryd.pinned : Pinned := { name := "ytccdgjmomcljkaadoor", sum := "a4fd88216b4d32aea39b0b68dbdbcfd2e3a11c10a3fa654359bda12f2ee9583b", checked := Tryd.checked }
namespace Rows
def none {H : Type} : Left H := { results := [], args := [] }

/- WHAT THE LISTED PACKAGE-LEVEL VARIABLES READ AS WHEN THE CALL BEGINS. Each datum BY PROGRAM (the guide's laid-datum.mjs) off the statement by which the dump's own 'gosem.cut.vars' lays the variable. In a bare row this is a premise. The card (YtccdgjmomcljkaaDoorCards.lean) ties it to the program's text. -/
def laid_loop_example_g01267_impl_errNotCommutative {H : Type} : DataW H := .iface "*errors.errorString" (.ptr (.agg [.lit (.string [116, 104, 101, 32, 97, 108, 103, 101, 98, 114, 97, 32, 105, 115, 32, 110, 111, 116, 32, 99, 111, 109, 109, 117, 116, 97, 116, 105, 118, 101])]))

/-- 'laws.FnExactNilradicalOf': WHATEVER THE INPUT: true; the input reads as it did. -/
def fnExactNilradicalOfSpec : ChangeSpec := { name := "fnExactNilradicalOf", vars := ["loop.example/g01267/impl.errNotCommutative"], fn := fun _ => fun
  | [d, g1] => { results := [.lit (.bool true)], args := [d], vars := [g1] }
  | _ => none }
def fnExactNilradicalOfRow : OpenClaim := { program := "ytccdgjmomcljkaadoor", sum := "a4fd88216b4d32aea39b0b68dbdbcfd2e3a11c10a3fa654359bda12f2ee9583b", func := "loop.example/g01267/laws.FnExactNilradicalOf", spec := "fnExactNilradicalOf", unfollowed := true, recurses := true, named := ["loop.example/g01267/impl.errNotCommutative"], ifaces := true, plainKeys := false, apart := false, laid := [("loop.example/g01267/impl.errNotCommutative", laid_loop_example_g01267_impl_errNotCommutative)] }
def FnExactNilradicalOfSaid : Prop := fnExactNilradicalOfRow.holds Tryd.pinned (OpenSpec.ofChange fnExactNilradicalOfSpec)

/-- ITS FALSE NEIGHBOUR: 'it returns false'. Refute it at one input. -/
def fnExactNilradicalOfWrong : ChangeSpec := { name := "fnExactNilradicalOf", vars := ["loop.example/g01267/impl.errNotCommutative"], fn := fun _ => fun
  | [d, g1] => { results := [.lit (.bool false)], args := [d], vars := [g1] }
  | _ => none }
def FnExactNilradicalOfWrongFalsely : Prop := fnExactNilradicalOfRow.holds Tryd.pinned (OpenSpec.ofChange fnExactNilradicalOfWrong)

/-- 'laws.FnExactIsReduced': WHATEVER THE INPUT: true; the input reads as it did. -/
def fnExactIsReducedSpec : ChangeSpec := { name := "fnExactIsReduced", vars := ["loop.example/g01267/impl.errNotCommutative"], fn := fun _ => fun
  | [d, g1] => { results := [.lit (.bool true)], args := [d], vars := [g1] }
  | _ => none }
def fnExactIsReducedRow : OpenClaim := { program := "ytccdgjmomcljkaadoor", sum := "a4fd88216b4d32aea39b0b68dbdbcfd2e3a11c10a3fa654359bda12f2ee9583b", func := "loop.example/g01267/laws.FnExactIsReduced", spec := "fnExactIsReduced", unfollowed := true, recurses := true, named := ["loop.example/g01267/impl.errNotCommutative"], ifaces := true, plainKeys := false, apart := false, laid := [("loop.example/g01267/impl.errNotCommutative", laid_loop_example_g01267_impl_errNotCommutative)] }
def FnExactIsReducedSaid : Prop := fnExactIsReducedRow.holds Tryd.pinned (OpenSpec.ofChange fnExactIsReducedSpec)

/-- ITS FALSE NEIGHBOUR: 'it returns false'. Refute it at one input. -/
def fnExactIsReducedWrong : ChangeSpec := { name := "fnExactIsReduced", vars := ["loop.example/g01267/impl.errNotCommutative"], fn := fun _ => fun
  | [d, g1] => { results := [.lit (.bool false)], args := [d], vars := [g1] }
  | _ => none }
def FnExactIsReducedWrongFalsely : Prop := fnExactIsReducedRow.holds Tryd.pinned (OpenSpec.ofChange fnExactIsReducedWrong)

/-- 'laws.FnExactAnnihilatorOf': WHATEVER THE INPUT: true; the input reads as it did. -/
def fnExactAnnihilatorOfSpec : ChangeSpec := { name := "fnExactAnnihilatorOf", vars := ["loop.example/g01267/impl.errNotCommutative"], fn := fun _ => fun
  | [d1, d2, g1] => { results := [.lit (.bool true)], args := [d1, d2], vars := [g1] }
  | _ => none }
def fnExactAnnihilatorOfRow : OpenClaim := { program := "ytccdgjmomcljkaadoor", sum := "a4fd88216b4d32aea39b0b68dbdbcfd2e3a11c10a3fa654359bda12f2ee9583b", func := "loop.example/g01267/laws.FnExactAnnihilatorOf", spec := "fnExactAnnihilatorOf", unfollowed := true, recurses := true, named := ["loop.example/g01267/impl.errNotCommutative"], ifaces := true, plainKeys := false, apart := false, laid := [("loop.example/g01267/impl.errNotCommutative", laid_loop_example_g01267_impl_errNotCommutative)] }
def FnExactAnnihilatorOfSaid : Prop := fnExactAnnihilatorOfRow.holds Tryd.pinned (OpenSpec.ofChange fnExactAnnihilatorOfSpec)

/-- ITS FALSE NEIGHBOUR: 'it returns false'. Refute it at one input. -/
def fnExactAnnihilatorOfWrong : ChangeSpec := { name := "fnExactAnnihilatorOf", vars := ["loop.example/g01267/impl.errNotCommutative"], fn := fun _ => fun
  | [d1, d2, g1] => { results := [.lit (.bool false)], args := [d1, d2], vars := [g1] }
  | _ => none }
def FnExactAnnihilatorOfWrongFalsely : Prop := fnExactAnnihilatorOfRow.holds Tryd.pinned (OpenSpec.ofChange fnExactAnnihilatorOfWrong)

/-- 'laws.FnExactSocleOf': WHATEVER THE INPUT: true; the input reads as it did. -/
def fnExactSocleOfSpec : ChangeSpec := { name := "fnExactSocleOf", vars := ["loop.example/g01267/impl.errNotCommutative"], fn := fun _ => fun
  | [d, g1] => { results := [.lit (.bool true)], args := [d], vars := [g1] }
  | _ => none }
def fnExactSocleOfRow : OpenClaim := { program := "ytccdgjmomcljkaadoor", sum := "a4fd88216b4d32aea39b0b68dbdbcfd2e3a11c10a3fa654359bda12f2ee9583b", func := "loop.example/g01267/laws.FnExactSocleOf", spec := "fnExactSocleOf", unfollowed := true, recurses := true, named := ["loop.example/g01267/impl.errNotCommutative"], ifaces := true, plainKeys := false, apart := false, laid := [("loop.example/g01267/impl.errNotCommutative", laid_loop_example_g01267_impl_errNotCommutative)] }
def FnExactSocleOfSaid : Prop := fnExactSocleOfRow.holds Tryd.pinned (OpenSpec.ofChange fnExactSocleOfSpec)

/-- ITS FALSE NEIGHBOUR: 'it returns false'. Refute it at one input. -/
def fnExactSocleOfWrong : ChangeSpec := { name := "fnExactSocleOf", vars := ["loop.example/g01267/impl.errNotCommutative"], fn := fun _ => fun
  | [d, g1] => { results := [.lit (.bool false)], args := [d], vars := [g1] }
  | _ => none }
def FnExactSocleOfWrongFalsely : Prop := fnExactSocleOfRow.holds Tryd.pinned (OpenSpec.ofChange fnExactSocleOfWrong)

/-- 'laws.FnExactPowersOfNilradical': WHATEVER THE INPUT: true; the input reads as it did. -/
def fnExactPowersOfNilradicalSpec : ChangeSpec := { name := "fnExactPowersOfNilradical", vars := ["loop.example/g01267/impl.errNotCommutative"], fn := fun _ => fun
  | [d, g1] => { results := [.lit (.bool true)], args := [d], vars := [g1] }
  | _ => none }
def fnExactPowersOfNilradicalRow : OpenClaim := { program := "ytccdgjmomcljkaadoor", sum := "a4fd88216b4d32aea39b0b68dbdbcfd2e3a11c10a3fa654359bda12f2ee9583b", func := "loop.example/g01267/laws.FnExactPowersOfNilradical", spec := "fnExactPowersOfNilradical", unfollowed := true, recurses := true, named := ["loop.example/g01267/impl.errNotCommutative"], ifaces := true, plainKeys := false, apart := false, laid := [("loop.example/g01267/impl.errNotCommutative", laid_loop_example_g01267_impl_errNotCommutative)] }
def FnExactPowersOfNilradicalSaid : Prop := fnExactPowersOfNilradicalRow.holds Tryd.pinned (OpenSpec.ofChange fnExactPowersOfNilradicalSpec)

/-- ITS FALSE NEIGHBOUR: 'it returns false'. Refute it at one input. -/
def fnExactPowersOfNilradicalWrong : ChangeSpec := { name := "fnExactPowersOfNilradical", vars := ["loop.example/g01267/impl.errNotCommutative"], fn := fun _ => fun
  | [d, g1] => { results := [.lit (.bool false)], args := [d], vars := [g1] }
  | _ => none }
def FnExactPowersOfNilradicalWrongFalsely : Prop := fnExactPowersOfNilradicalRow.holds Tryd.pinned (OpenSpec.ofChange fnExactPowersOfNilradicalWrong)

/-- 'laws.FnExactIsSymmetricInItself': WHATEVER THE INPUT: true; the input reads as it did. -/
def fnExactIsSymmetricInItselfSpec : ChangeSpec := { name := "fnExactIsSymmetricInItself", vars := ["loop.example/g01267/impl.errNotCommutative"], fn := fun _ => fun
  | [d, g1] => { results := [.lit (.bool true)], args := [d], vars := [g1] }
  | _ => none }
def fnExactIsSymmetricInItselfRow : OpenClaim := { program := "ytccdgjmomcljkaadoor", sum := "a4fd88216b4d32aea39b0b68dbdbcfd2e3a11c10a3fa654359bda12f2ee9583b", func := "loop.example/g01267/laws.FnExactIsSymmetricInItself", spec := "fnExactIsSymmetricInItself", unfollowed := true, recurses := true, named := ["loop.example/g01267/impl.errNotCommutative"], ifaces := true, plainKeys := false, apart := false, laid := [("loop.example/g01267/impl.errNotCommutative", laid_loop_example_g01267_impl_errNotCommutative)] }
def FnExactIsSymmetricInItselfSaid : Prop := fnExactIsSymmetricInItselfRow.holds Tryd.pinned (OpenSpec.ofChange fnExactIsSymmetricInItselfSpec)

/-- ITS FALSE NEIGHBOUR: 'it returns false'. Refute it at one input. -/
def fnExactIsSymmetricInItselfWrong : ChangeSpec := { name := "fnExactIsSymmetricInItself", vars := ["loop.example/g01267/impl.errNotCommutative"], fn := fun _ => fun
  | [d, g1] => { results := [.lit (.bool false)], args := [d], vars := [g1] }
  | _ => none }
def FnExactIsSymmetricInItselfWrongFalsely : Prop := fnExactIsSymmetricInItselfRow.holds Tryd.pinned (OpenSpec.ofChange fnExactIsSymmetricInItselfWrong)

/- THE SECOND FORM. 'bulk': how many values and letters a reading holds, each counted each time it is reached (what is shared counts as often as it is met; a slice's spare places count too). A statement '..UptoSaid' is the law's where the arguments, and the package variables that the reading takes, are together of bulk at most 1048576: NARROWER than '..Said'. Prove '..Said' where nothing that the law and all that it calls make is longer than what came in: it says more and counts as full. Else prove '..UptoSaid'. A law counts once. -/
mutual
def uptoBulk {H : Type} : DataW H → Nat
  | .lit (.string bytes) => bytes.length + 1
  | .lit _ => 1
  | .nil => 1
  | .ptr d => uptoBulk d + 1
  | .slice elems spare => uptoBulkAll elems + uptoBulkAll spare + 1
  | .agg parts => uptoBulkAll parts + 1
  | .iface _ d => uptoBulk d + 1
  | .map entries => uptoBulkEntries entries + 1
  | .held _ => 1
def uptoBulkAll {H : Type} : List (DataW H) → Nat
  | [] => 0
  | d :: r => uptoBulk d + uptoBulkAll r
def uptoBulkEntries {H : Type} : List (Lit × DataW H) → Nat
  | [] => 0
  | x :: r => uptoBulkEntry x + uptoBulkEntries r
def uptoBulkEntry {H : Type} : Lit × DataW H → Nat
  | (.string bytes, d) => bytes.length + uptoBulk d + 1
  | (_, d) => uptoBulk d + 1
 end
def uptoSmall : (H : Type) → List (DataW H) → Bool := fun _ ds => decide (uptoBulkAll ds ≤ 1048576)
def OpenSpec.upto (s : _root_.Go.ChangeSpec) : _root_.Go.OpenSpec := { _root_.Go.OpenSpec.ofChange s with cond := some uptoSmall }

/-- 'laws.FnExactNilradicalOf', WHERE WHAT IT READS IS OF BULK AT MOST 1048576: true; the input reads as it did. -/
def fnExactNilradicalOfUptoRow : OpenClaim := { program := "ytccdgjmomcljkaadoor", sum := "a4fd88216b4d32aea39b0b68dbdbcfd2e3a11c10a3fa654359bda12f2ee9583b", func := "loop.example/g01267/laws.FnExactNilradicalOf", spec := "fnExactNilradicalOf", unfollowed := true, recurses := true, named := ["loop.example/g01267/impl.errNotCommutative"], ifaces := true, plainKeys := false, apart := false, laid := [("loop.example/g01267/impl.errNotCommutative", laid_loop_example_g01267_impl_errNotCommutative)], narrowed := true }
def FnExactNilradicalOfUptoSaid : Prop := fnExactNilradicalOfUptoRow.holds Tryd.pinned (OpenSpec.upto fnExactNilradicalOfSpec)

/-- 'laws.FnExactIsReduced', WHERE WHAT IT READS IS OF BULK AT MOST 1048576: true; the input reads as it did. -/
def fnExactIsReducedUptoRow : OpenClaim := { program := "ytccdgjmomcljkaadoor", sum := "a4fd88216b4d32aea39b0b68dbdbcfd2e3a11c10a3fa654359bda12f2ee9583b", func := "loop.example/g01267/laws.FnExactIsReduced", spec := "fnExactIsReduced", unfollowed := true, recurses := true, named := ["loop.example/g01267/impl.errNotCommutative"], ifaces := true, plainKeys := false, apart := false, laid := [("loop.example/g01267/impl.errNotCommutative", laid_loop_example_g01267_impl_errNotCommutative)], narrowed := true }
def FnExactIsReducedUptoSaid : Prop := fnExactIsReducedUptoRow.holds Tryd.pinned (OpenSpec.upto fnExactIsReducedSpec)

/-- 'laws.FnExactAnnihilatorOf', WHERE WHAT IT READS IS OF BULK AT MOST 1048576: true; the input reads as it did. -/
def fnExactAnnihilatorOfUptoRow : OpenClaim := { program := "ytccdgjmomcljkaadoor", sum := "a4fd88216b4d32aea39b0b68dbdbcfd2e3a11c10a3fa654359bda12f2ee9583b", func := "loop.example/g01267/laws.FnExactAnnihilatorOf", spec := "fnExactAnnihilatorOf", unfollowed := true, recurses := true, named := ["loop.example/g01267/impl.errNotCommutative"], ifaces := true, plainKeys := false, apart := false, laid := [("loop.example/g01267/impl.errNotCommutative", laid_loop_example_g01267_impl_errNotCommutative)], narrowed := true }
def FnExactAnnihilatorOfUptoSaid : Prop := fnExactAnnihilatorOfUptoRow.holds Tryd.pinned (OpenSpec.upto fnExactAnnihilatorOfSpec)

/-- 'laws.FnExactSocleOf', WHERE WHAT IT READS IS OF BULK AT MOST 1048576: true; the input reads as it did. -/
def fnExactSocleOfUptoRow : OpenClaim := { program := "ytccdgjmomcljkaadoor", sum := "a4fd88216b4d32aea39b0b68dbdbcfd2e3a11c10a3fa654359bda12f2ee9583b", func := "loop.example/g01267/laws.FnExactSocleOf", spec := "fnExactSocleOf", unfollowed := true, recurses := true, named := ["loop.example/g01267/impl.errNotCommutative"], ifaces := true, plainKeys := false, apart := false, laid := [("loop.example/g01267/impl.errNotCommutative", laid_loop_example_g01267_impl_errNotCommutative)], narrowed := true }
def FnExactSocleOfUptoSaid : Prop := fnExactSocleOfUptoRow.holds Tryd.pinned (OpenSpec.upto fnExactSocleOfSpec)

/-- 'laws.FnExactPowersOfNilradical', WHERE WHAT IT READS IS OF BULK AT MOST 1048576: true; the input reads as it did. -/
def fnExactPowersOfNilradicalUptoRow : OpenClaim := { program := "ytccdgjmomcljkaadoor", sum := "a4fd88216b4d32aea39b0b68dbdbcfd2e3a11c10a3fa654359bda12f2ee9583b", func := "loop.example/g01267/laws.FnExactPowersOfNilradical", spec := "fnExactPowersOfNilradical", unfollowed := true, recurses := true, named := ["loop.example/g01267/impl.errNotCommutative"], ifaces := true, plainKeys := false, apart := false, laid := [("loop.example/g01267/impl.errNotCommutative", laid_loop_example_g01267_impl_errNotCommutative)], narrowed := true }
def FnExactPowersOfNilradicalUptoSaid : Prop := fnExactPowersOfNilradicalUptoRow.holds Tryd.pinned (OpenSpec.upto fnExactPowersOfNilradicalSpec)

/-- 'laws.FnExactIsSymmetricInItself', WHERE WHAT IT READS IS OF BULK AT MOST 1048576: true; the input reads as it did. -/
def fnExactIsSymmetricInItselfUptoRow : OpenClaim := { program := "ytccdgjmomcljkaadoor", sum := "a4fd88216b4d32aea39b0b68dbdbcfd2e3a11c10a3fa654359bda12f2ee9583b", func := "loop.example/g01267/laws.FnExactIsSymmetricInItself", spec := "fnExactIsSymmetricInItself", unfollowed := true, recurses := true, named := ["loop.example/g01267/impl.errNotCommutative"], ifaces := true, plainKeys := false, apart := false, laid := [("loop.example/g01267/impl.errNotCommutative", laid_loop_example_g01267_impl_errNotCommutative)], narrowed := true }
def FnExactIsSymmetricInItselfUptoSaid : Prop := fnExactIsSymmetricInItselfUptoRow.holds Tryd.pinned (OpenSpec.upto fnExactIsSymmetricInItselfSpec)

end Rows
end Go.Proofs.YtccdgjmomcljkaaDoor
