/-
  NARROWER THAN 'FOR EVERY INPUT', by the rows' own cells (each row's printed sentence says how): FnExactZipVector: ifaces, laid · FnExactUnzipVector: ifaces, laid · FnExactSandwichOf: ifaces, laid · FnExactIsCardyPair: ifaces, laid · FnExactAnnulusNumber: ifaces, laid · FnExactBoundaryElement: ifaces, laid · FnExactBoundaryNumber: ifaces, laid.
  DERIVED. THE GIVEN ROWS OF THIS SEAT. 7 by the template 'for every input the law returns true; each argument reads behind the call as it read before'; 0 by the template 'total and deterministic' (their statements: YtjfmachfdpmdcaaDoorTotals.lean).
  GIVEN WITH THE SEED: the statements are not yours to turn. If you find one false, say at which input.
  Laid BY PROGRAM, IN A SANDBOX (cutbox-rows.mjs): the forced cells as the released guide's own fill.sh prints them over the translation cc2916b451bb0985… (all of the seat's roots in one cut). By AI agents, Wed Nov 11 2026. No macro, syntax, notation, axiom, sorry.
-/
import Derived.Test.YtjfmachfdpmdcaaDoorChecked
import GoSem.Claim
import GoSem.ClaimJoined
import GoSem.ClaimMapViews
import Derived.JoinedTies
import Derived.KernelRfl
namespace Go.Proofs.YtjfmachfdpmdcaaDoor
/- THE CELL 'sum', in the pinned program and in every row, IS THE sha256 OF THE DUMP (.gsa) THAT YtjfmachfdpmdcaaDoorProg.lean LOADS. Nothing in Lean hashes anything: it is a label: what it is worth is what the hold of that sum in a sandbox is worth. -/
noncomputable def Tryd.pinned : Pinned := { name := "ytjfmachfdpmdcaadoor", sum := "cc2916b451bb0985308ddc5d86adfadc284f918ab8f5b962cb8dd8e7c8acae98", checked := Tryd.checked }
namespace Rows
def none {H : Type} : Left H := { results := [], args := [] }

/- WHAT THE LISTED PACKAGE-LEVEL VARIABLES READ AS WHEN THE CALL BEGINS. Each datum BY PROGRAM (the guide's laid-datum.mjs) off the statement by which the dump's own 'gosem.cut.vars' lays the variable. In a bare row this is a premise. The card (YtjfmachfdpmdcaaDoorCards.lean) ties it to the program's text. -/
def laid_loop_example_g01267_impl_errNotPair {H : Type} : DataW H := .iface "*errors.errorString" (.ptr (.agg [.lit (.string [115, 111, 109, 101, 116, 104, 105, 110, 103, 32, 105, 115, 32, 110, 111, 32, 112, 97, 105, 114, 44, 32, 111, 114, 32, 110, 111, 32, 118, 101, 99, 116, 111, 114, 32, 111, 102, 32, 105, 116, 115, 32, 97, 108, 103, 101, 98, 114, 97])]))

/-- 'laws.FnExactZipVector': WHATEVER THE INPUT: true; the input reads as it did. -/
def fnExactZipVectorSpec : ChangeSpec := { name := "fnExactZipVector", vars := ["loop.example/g01267/impl.errNotPair"], fn := fun _ => fun
  | [d1, d2, g1] => { results := [.lit (.bool true)], args := [d1, d2], vars := [g1] }
  | _ => none }
def fnExactZipVectorRow : OpenClaim := { program := "ytjfmachfdpmdcaadoor", sum := "cc2916b451bb0985308ddc5d86adfadc284f918ab8f5b962cb8dd8e7c8acae98", func := "loop.example/g01267/laws.FnExactZipVector", spec := "fnExactZipVector", unfollowed := true, recurses := true, named := ["loop.example/g01267/impl.errNotPair"], ifaces := true, plainKeys := false, apart := false, laid := [("loop.example/g01267/impl.errNotPair", laid_loop_example_g01267_impl_errNotPair)] }
def FnExactZipVectorSaid : Prop := fnExactZipVectorRow.holds Tryd.pinned (OpenSpec.ofChange fnExactZipVectorSpec)

/-- ITS FALSE NEIGHBOUR: 'it returns false'. Refute it at one input. -/
def fnExactZipVectorWrong : ChangeSpec := { name := "fnExactZipVector", vars := ["loop.example/g01267/impl.errNotPair"], fn := fun _ => fun
  | [d1, d2, g1] => { results := [.lit (.bool false)], args := [d1, d2], vars := [g1] }
  | _ => none }
def FnExactZipVectorWrongFalsely : Prop := fnExactZipVectorRow.holds Tryd.pinned (OpenSpec.ofChange fnExactZipVectorWrong)

/-- 'laws.FnExactUnzipVector': WHATEVER THE INPUT: true; the input reads as it did. -/
def fnExactUnzipVectorSpec : ChangeSpec := { name := "fnExactUnzipVector", vars := ["loop.example/g01267/impl.errNotPair"], fn := fun _ => fun
  | [d1, d2, g1] => { results := [.lit (.bool true)], args := [d1, d2], vars := [g1] }
  | _ => none }
def fnExactUnzipVectorRow : OpenClaim := { program := "ytjfmachfdpmdcaadoor", sum := "cc2916b451bb0985308ddc5d86adfadc284f918ab8f5b962cb8dd8e7c8acae98", func := "loop.example/g01267/laws.FnExactUnzipVector", spec := "fnExactUnzipVector", unfollowed := true, recurses := true, named := ["loop.example/g01267/impl.errNotPair"], ifaces := true, plainKeys := false, apart := false, laid := [("loop.example/g01267/impl.errNotPair", laid_loop_example_g01267_impl_errNotPair)] }
def FnExactUnzipVectorSaid : Prop := fnExactUnzipVectorRow.holds Tryd.pinned (OpenSpec.ofChange fnExactUnzipVectorSpec)

/-- ITS FALSE NEIGHBOUR: 'it returns false'. Refute it at one input. -/
def fnExactUnzipVectorWrong : ChangeSpec := { name := "fnExactUnzipVector", vars := ["loop.example/g01267/impl.errNotPair"], fn := fun _ => fun
  | [d1, d2, g1] => { results := [.lit (.bool false)], args := [d1, d2], vars := [g1] }
  | _ => none }
def FnExactUnzipVectorWrongFalsely : Prop := fnExactUnzipVectorRow.holds Tryd.pinned (OpenSpec.ofChange fnExactUnzipVectorWrong)

/-- 'laws.FnExactSandwichOf': WHATEVER THE INPUT: true; the input reads as it did. -/
def fnExactSandwichOfSpec : ChangeSpec := { name := "fnExactSandwichOf", vars := ["loop.example/g01267/impl.errNotPair"], fn := fun _ => fun
  | [d1, d2, g1] => { results := [.lit (.bool true)], args := [d1, d2], vars := [g1] }
  | _ => none }
def fnExactSandwichOfRow : OpenClaim := { program := "ytjfmachfdpmdcaadoor", sum := "cc2916b451bb0985308ddc5d86adfadc284f918ab8f5b962cb8dd8e7c8acae98", func := "loop.example/g01267/laws.FnExactSandwichOf", spec := "fnExactSandwichOf", unfollowed := true, recurses := true, named := ["loop.example/g01267/impl.errNotPair"], ifaces := true, plainKeys := false, apart := false, laid := [("loop.example/g01267/impl.errNotPair", laid_loop_example_g01267_impl_errNotPair)] }
def FnExactSandwichOfSaid : Prop := fnExactSandwichOfRow.holds Tryd.pinned (OpenSpec.ofChange fnExactSandwichOfSpec)

/-- ITS FALSE NEIGHBOUR: 'it returns false'. Refute it at one input. -/
def fnExactSandwichOfWrong : ChangeSpec := { name := "fnExactSandwichOf", vars := ["loop.example/g01267/impl.errNotPair"], fn := fun _ => fun
  | [d1, d2, g1] => { results := [.lit (.bool false)], args := [d1, d2], vars := [g1] }
  | _ => none }
def FnExactSandwichOfWrongFalsely : Prop := fnExactSandwichOfRow.holds Tryd.pinned (OpenSpec.ofChange fnExactSandwichOfWrong)

/-- 'laws.FnExactIsCardyPair': WHATEVER THE INPUT: true; the input reads as it did. -/
def fnExactIsCardyPairSpec : ChangeSpec := { name := "fnExactIsCardyPair", vars := ["loop.example/g01267/impl.errNotPair"], fn := fun _ => fun
  | [d, g1] => { results := [.lit (.bool true)], args := [d], vars := [g1] }
  | _ => none }
def fnExactIsCardyPairRow : OpenClaim := { program := "ytjfmachfdpmdcaadoor", sum := "cc2916b451bb0985308ddc5d86adfadc284f918ab8f5b962cb8dd8e7c8acae98", func := "loop.example/g01267/laws.FnExactIsCardyPair", spec := "fnExactIsCardyPair", unfollowed := true, recurses := true, named := ["loop.example/g01267/impl.errNotPair"], ifaces := true, plainKeys := false, apart := false, laid := [("loop.example/g01267/impl.errNotPair", laid_loop_example_g01267_impl_errNotPair)] }
def FnExactIsCardyPairSaid : Prop := fnExactIsCardyPairRow.holds Tryd.pinned (OpenSpec.ofChange fnExactIsCardyPairSpec)

/-- ITS FALSE NEIGHBOUR: 'it returns false'. Refute it at one input. -/
def fnExactIsCardyPairWrong : ChangeSpec := { name := "fnExactIsCardyPair", vars := ["loop.example/g01267/impl.errNotPair"], fn := fun _ => fun
  | [d, g1] => { results := [.lit (.bool false)], args := [d], vars := [g1] }
  | _ => none }
def FnExactIsCardyPairWrongFalsely : Prop := fnExactIsCardyPairRow.holds Tryd.pinned (OpenSpec.ofChange fnExactIsCardyPairWrong)

/-- 'laws.FnExactAnnulusNumber': WHATEVER THE INPUT: true; the input reads as it did. -/
def fnExactAnnulusNumberSpec : ChangeSpec := { name := "fnExactAnnulusNumber", vars := ["loop.example/g01267/impl.errNotPair"], fn := fun _ => fun
  | [d1, d2, d3, g1] => { results := [.lit (.bool true)], args := [d1, d2, d3], vars := [g1] }
  | _ => none }
def fnExactAnnulusNumberRow : OpenClaim := { program := "ytjfmachfdpmdcaadoor", sum := "cc2916b451bb0985308ddc5d86adfadc284f918ab8f5b962cb8dd8e7c8acae98", func := "loop.example/g01267/laws.FnExactAnnulusNumber", spec := "fnExactAnnulusNumber", unfollowed := true, recurses := true, named := ["loop.example/g01267/impl.errNotPair"], ifaces := true, plainKeys := false, apart := false, laid := [("loop.example/g01267/impl.errNotPair", laid_loop_example_g01267_impl_errNotPair)] }
def FnExactAnnulusNumberSaid : Prop := fnExactAnnulusNumberRow.holds Tryd.pinned (OpenSpec.ofChange fnExactAnnulusNumberSpec)

/-- ITS FALSE NEIGHBOUR: 'it returns false'. Refute it at one input. -/
def fnExactAnnulusNumberWrong : ChangeSpec := { name := "fnExactAnnulusNumber", vars := ["loop.example/g01267/impl.errNotPair"], fn := fun _ => fun
  | [d1, d2, d3, g1] => { results := [.lit (.bool false)], args := [d1, d2, d3], vars := [g1] }
  | _ => none }
def FnExactAnnulusNumberWrongFalsely : Prop := fnExactAnnulusNumberRow.holds Tryd.pinned (OpenSpec.ofChange fnExactAnnulusNumberWrong)

/-- 'laws.FnExactBoundaryElement': WHATEVER THE INPUT: true; the input reads as it did. -/
def fnExactBoundaryElementSpec : ChangeSpec := { name := "fnExactBoundaryElement", vars := ["loop.example/g01267/impl.errNotPair"], fn := fun _ => fun
  | [d, g1] => { results := [.lit (.bool true)], args := [d], vars := [g1] }
  | _ => none }
def fnExactBoundaryElementRow : OpenClaim := { program := "ytjfmachfdpmdcaadoor", sum := "cc2916b451bb0985308ddc5d86adfadc284f918ab8f5b962cb8dd8e7c8acae98", func := "loop.example/g01267/laws.FnExactBoundaryElement", spec := "fnExactBoundaryElement", unfollowed := true, recurses := true, named := ["loop.example/g01267/impl.errNotPair"], ifaces := true, plainKeys := false, apart := false, laid := [("loop.example/g01267/impl.errNotPair", laid_loop_example_g01267_impl_errNotPair)] }
def FnExactBoundaryElementSaid : Prop := fnExactBoundaryElementRow.holds Tryd.pinned (OpenSpec.ofChange fnExactBoundaryElementSpec)

/-- ITS FALSE NEIGHBOUR: 'it returns false'. Refute it at one input. -/
def fnExactBoundaryElementWrong : ChangeSpec := { name := "fnExactBoundaryElement", vars := ["loop.example/g01267/impl.errNotPair"], fn := fun _ => fun
  | [d, g1] => { results := [.lit (.bool false)], args := [d], vars := [g1] }
  | _ => none }
def FnExactBoundaryElementWrongFalsely : Prop := fnExactBoundaryElementRow.holds Tryd.pinned (OpenSpec.ofChange fnExactBoundaryElementWrong)

/-- 'laws.FnExactBoundaryNumber': WHATEVER THE INPUT: true; the input reads as it did. -/
def fnExactBoundaryNumberSpec : ChangeSpec := { name := "fnExactBoundaryNumber", vars := ["loop.example/g01267/impl.errNotPair"], fn := fun _ => fun
  | [d1, d2, d3, g1] => { results := [.lit (.bool true)], args := [d1, d2, d3], vars := [g1] }
  | _ => none }
def fnExactBoundaryNumberRow : OpenClaim := { program := "ytjfmachfdpmdcaadoor", sum := "cc2916b451bb0985308ddc5d86adfadc284f918ab8f5b962cb8dd8e7c8acae98", func := "loop.example/g01267/laws.FnExactBoundaryNumber", spec := "fnExactBoundaryNumber", unfollowed := true, recurses := true, named := ["loop.example/g01267/impl.errNotPair"], ifaces := true, plainKeys := false, apart := false, laid := [("loop.example/g01267/impl.errNotPair", laid_loop_example_g01267_impl_errNotPair)] }
def FnExactBoundaryNumberSaid : Prop := fnExactBoundaryNumberRow.holds Tryd.pinned (OpenSpec.ofChange fnExactBoundaryNumberSpec)

/-- ITS FALSE NEIGHBOUR: 'it returns false'. Refute it at one input. -/
def fnExactBoundaryNumberWrong : ChangeSpec := { name := "fnExactBoundaryNumber", vars := ["loop.example/g01267/impl.errNotPair"], fn := fun _ => fun
  | [d1, d2, d3, g1] => { results := [.lit (.bool false)], args := [d1, d2, d3], vars := [g1] }
  | _ => none }
def FnExactBoundaryNumberWrongFalsely : Prop := fnExactBoundaryNumberRow.holds Tryd.pinned (OpenSpec.ofChange fnExactBoundaryNumberWrong)

/- THE SECOND FORM. 'bulk': how many values and letters a reading holds, each counted each time it is reached (what is shared counts as often as it is met; a slice's spare places count too). A statement '..UptoSaid' is the law's where the arguments, and the package variables that the reading takes, are together of bulk at most 1048576: NARROWER than '..Said'. Prove '..Said' where nothing that the law and all that it calls make is longer than what came in: it says more and counts as full. Else prove '..UptoSaid'. A law counts once. -/
mutual
def uptoBulk {H : Type} : DataW H → Nat
  | .lit (.string bytes) => bytes.length + 1
  | .lit _ => 1
  | .nil => 1
  | .ptr d => uptoBulk d + 1
  | .slice elems spare => uptoBulkAll elems + uptoBulkAll spare + 1
  | .agg parts => uptoBulkAll parts + 1
  | .iface _ d => uptoBulk d + 1
  | .map entries => uptoBulkEntries entries + 1
  | .held _ => 1
def uptoBulkAll {H : Type} : List (DataW H) → Nat
  | [] => 0
  | d :: r => uptoBulk d + uptoBulkAll r
def uptoBulkEntries {H : Type} : List (Lit × DataW H) → Nat
  | [] => 0
  | x :: r => uptoBulkEntry x + uptoBulkEntries r
def uptoBulkEntry {H : Type} : Lit × DataW H → Nat
  | (.string bytes, d) => bytes.length + uptoBulk d + 1
  | (_, d) => uptoBulk d + 1
 end
def uptoSmall : (H : Type) → List (DataW H) → Bool := fun _ ds => decide (uptoBulkAll ds ≤ 1048576)
def OpenSpec.upto (s : _root_.Go.ChangeSpec) : _root_.Go.OpenSpec := { _root_.Go.OpenSpec.ofChange s with cond := some uptoSmall }

/-- 'laws.FnExactZipVector', WHERE WHAT IT READS IS OF BULK AT MOST 1048576: true; the input reads as it did. -/
def fnExactZipVectorUptoRow : OpenClaim := { program := "ytjfmachfdpmdcaadoor", sum := "cc2916b451bb0985308ddc5d86adfadc284f918ab8f5b962cb8dd8e7c8acae98", func := "loop.example/g01267/laws.FnExactZipVector", spec := "fnExactZipVector", unfollowed := true, recurses := true, named := ["loop.example/g01267/impl.errNotPair"], ifaces := true, plainKeys := false, apart := false, laid := [("loop.example/g01267/impl.errNotPair", laid_loop_example_g01267_impl_errNotPair)], narrowed := true }
def FnExactZipVectorUptoSaid : Prop := fnExactZipVectorUptoRow.holds Tryd.pinned (OpenSpec.upto fnExactZipVectorSpec)

/-- 'laws.FnExactUnzipVector', WHERE WHAT IT READS IS OF BULK AT MOST 1048576: true; the input reads as it did. -/
def fnExactUnzipVectorUptoRow : OpenClaim := { program := "ytjfmachfdpmdcaadoor", sum := "cc2916b451bb0985308ddc5d86adfadc284f918ab8f5b962cb8dd8e7c8acae98", func := "loop.example/g01267/laws.FnExactUnzipVector", spec := "fnExactUnzipVector", unfollowed := true, recurses := true, named := ["loop.example/g01267/impl.errNotPair"], ifaces := true, plainKeys := false, apart := false, laid := [("loop.example/g01267/impl.errNotPair", laid_loop_example_g01267_impl_errNotPair)], narrowed := true }
def FnExactUnzipVectorUptoSaid : Prop := fnExactUnzipVectorUptoRow.holds Tryd.pinned (OpenSpec.upto fnExactUnzipVectorSpec)

/-- 'laws.FnExactSandwichOf', WHERE WHAT IT READS IS OF BULK AT MOST 1048576: true; the input reads as it did. -/
def fnExactSandwichOfUptoRow : OpenClaim := { program := "ytjfmachfdpmdcaadoor", sum := "cc2916b451bb0985308ddc5d86adfadc284f918ab8f5b962cb8dd8e7c8acae98", func := "loop.example/g01267/laws.FnExactSandwichOf", spec := "fnExactSandwichOf", unfollowed := true, recurses := true, named := ["loop.example/g01267/impl.errNotPair"], ifaces := true, plainKeys := false, apart := false, laid := [("loop.example/g01267/impl.errNotPair", laid_loop_example_g01267_impl_errNotPair)], narrowed := true }
def FnExactSandwichOfUptoSaid : Prop := fnExactSandwichOfUptoRow.holds Tryd.pinned (OpenSpec.upto fnExactSandwichOfSpec)

/-- 'laws.FnExactIsCardyPair', WHERE WHAT IT READS IS OF BULK AT MOST 1048576: true; the input reads as it did. -/
def fnExactIsCardyPairUptoRow : OpenClaim := { program := "ytjfmachfdpmdcaadoor", sum := "cc2916b451bb0985308ddc5d86adfadc284f918ab8f5b962cb8dd8e7c8acae98", func := "loop.example/g01267/laws.FnExactIsCardyPair", spec := "fnExactIsCardyPair", unfollowed := true, recurses := true, named := ["loop.example/g01267/impl.errNotPair"], ifaces := true, plainKeys := false, apart := false, laid := [("loop.example/g01267/impl.errNotPair", laid_loop_example_g01267_impl_errNotPair)], narrowed := true }
def FnExactIsCardyPairUptoSaid : Prop := fnExactIsCardyPairUptoRow.holds Tryd.pinned (OpenSpec.upto fnExactIsCardyPairSpec)

/-- 'laws.FnExactAnnulusNumber', WHERE WHAT IT READS IS OF BULK AT MOST 1048576: true; the input reads as it did. -/
def fnExactAnnulusNumberUptoRow : OpenClaim := { program := "ytjfmachfdpmdcaadoor", sum := "cc2916b451bb0985308ddc5d86adfadc284f918ab8f5b962cb8dd8e7c8acae98", func := "loop.example/g01267/laws.FnExactAnnulusNumber", spec := "fnExactAnnulusNumber", unfollowed := true, recurses := true, named := ["loop.example/g01267/impl.errNotPair"], ifaces := true, plainKeys := false, apart := false, laid := [("loop.example/g01267/impl.errNotPair", laid_loop_example_g01267_impl_errNotPair)], narrowed := true }
def FnExactAnnulusNumberUptoSaid : Prop := fnExactAnnulusNumberUptoRow.holds Tryd.pinned (OpenSpec.upto fnExactAnnulusNumberSpec)

/-- 'laws.FnExactBoundaryElement', WHERE WHAT IT READS IS OF BULK AT MOST 1048576: true; the input reads as it did. -/
def fnExactBoundaryElementUptoRow : OpenClaim := { program := "ytjfmachfdpmdcaadoor", sum := "cc2916b451bb0985308ddc5d86adfadc284f918ab8f5b962cb8dd8e7c8acae98", func := "loop.example/g01267/laws.FnExactBoundaryElement", spec := "fnExactBoundaryElement", unfollowed := true, recurses := true, named := ["loop.example/g01267/impl.errNotPair"], ifaces := true, plainKeys := false, apart := false, laid := [("loop.example/g01267/impl.errNotPair", laid_loop_example_g01267_impl_errNotPair)], narrowed := true }
def FnExactBoundaryElementUptoSaid : Prop := fnExactBoundaryElementUptoRow.holds Tryd.pinned (OpenSpec.upto fnExactBoundaryElementSpec)

/-- 'laws.FnExactBoundaryNumber', WHERE WHAT IT READS IS OF BULK AT MOST 1048576: true; the input reads as it did. -/
def fnExactBoundaryNumberUptoRow : OpenClaim := { program := "ytjfmachfdpmdcaadoor", sum := "cc2916b451bb0985308ddc5d86adfadc284f918ab8f5b962cb8dd8e7c8acae98", func := "loop.example/g01267/laws.FnExactBoundaryNumber", spec := "fnExactBoundaryNumber", unfollowed := true, recurses := true, named := ["loop.example/g01267/impl.errNotPair"], ifaces := true, plainKeys := false, apart := false, laid := [("loop.example/g01267/impl.errNotPair", laid_loop_example_g01267_impl_errNotPair)], narrowed := true }
def FnExactBoundaryNumberUptoSaid : Prop := fnExactBoundaryNumberUptoRow.holds Tryd.pinned (OpenSpec.upto fnExactBoundaryNumberSpec)

end Rows
end Go.Proofs.YtjfmachfdpmdcaaDoor
