/-
  NARROWER THAN 'FOR EVERY INPUT', by the rows' own cells (each row's printed sentence says how): FnExactPartOf: ifaces, laid · FnExactSizesOfParts: ifaces, laid · FnExactDegreesOfParts: ifaces, laid · FnExactIsSplit: ifaces, laid · FnExactPartNumber: ifaces, laid.
  DERIVED. THE GIVEN ROWS OF THIS SEAT. 5 by the template 'for every input the law returns true; each argument reads behind the call as it read before'; 0 by the template 'total and deterministic' (their statements: YtmlnjicajdbjlaaGreatDoorTotals.lean).
  GIVEN WITH THE SEED: the statements are not yours to turn. If you find one false, say at which input.
  Laid BY PROGRAM, IN A SANDBOX (cutbox-rows.mjs): the forced cells as the released guide's own fill.sh prints them over the translation 49e6539709a728c4… (all of the seat's roots in one cut). By AI agents, Wed Nov 11 2026. No macro, syntax, notation, axiom, sorry.
-/
import Derived.Test.YtmlnjicajdbjlaaGreatDoorChecked
import GoSem.Claim
import GoSem.ClaimJoined
import GoSem.ClaimMapViews
import Derived.JoinedTies
import Derived.KernelRfl
namespace Go.Proofs.YtmlnjicajdbjlaaGreatDoor
/- THE CELL 'sum', in the pinned program and in every row, IS THE sha256 OF THE DUMP (.gsa) THAT YtmlnjicajdbjlaaGreatDoorProg.lean LOADS. Nothing in Lean hashes anything: it is a label: what it is worth is what the hold of that sum in a sandbox is worth. -/
noncomputable def Tryz.pinned : Pinned := { name := "ytmlnjicajdbjlaagreatdoor", sum := "49e6539709a728c4881eb9c53b7d58a16be02f7cf165a85f2c41ed8579bef3c8", checked := Tryz.checked }
namespace Rows
def none {H : Type} : Left H := { results := [], args := [] }

/- WHAT THE LISTED PACKAGE-LEVEL VARIABLES READ AS WHEN THE CALL BEGINS. Each datum BY PROGRAM (the guide's laid-datum.mjs) off the statement by which the dump's own 'gosem.cut.vars' lays the variable. In a bare row this is a premise. The card (YtmlnjicajdbjlaaGreatDoorCards.lean) ties it to the program's text. -/
def laid_loop_example_g01267_impl_errNotCommutative {H : Type} : DataW H := .iface "*errors.errorString" (.ptr (.agg [.lit (.string [116, 104, 101, 32, 97, 108, 103, 101, 98, 114, 97, 32, 105, 115, 32, 110, 111, 116, 32, 99, 111, 109, 109, 117, 116, 97, 116, 105, 118, 101])]))
def laid_loop_example_g01267_impl_errNotPrimitive {H : Type} : DataW H := .iface "*errors.errorString" (.ptr (.agg [.lit (.string [116, 104, 101, 32, 118, 101, 99, 116, 111, 114, 32, 105, 115, 32, 110, 111, 32, 112, 114, 105, 109, 105, 116, 105, 118, 101, 32, 105, 100, 101, 109, 112, 111, 116, 101, 110, 116])]))
def laid_loop_example_g01267_impl_errNoPartNumbers {H : Type} : DataW H := .iface "*errors.errorString" (.ptr (.agg [.lit (.string [116, 104, 101, 32, 97, 108, 103, 101, 98, 114, 97, 32, 104, 97, 115, 32, 110, 111, 32, 112, 97, 114, 116, 32, 110, 117, 109, 98, 101, 114, 115])]))

/-- 'laws.FnExactPartOf': WHATEVER THE INPUT: true; the input reads as it did. -/
def fnExactPartOfSpec : ChangeSpec := { name := "fnExactPartOf", vars := ["loop.example/g01267/impl.errNotPrimitive", "loop.example/g01267/impl.errNotCommutative"], fn := fun _ => fun
  | [d1, d2, g1, g2] => { results := [.lit (.bool true)], args := [d1, d2], vars := [g1, g2] }
  | _ => none }
def fnExactPartOfRow : OpenClaim := { program := "ytmlnjicajdbjlaagreatdoor", sum := "49e6539709a728c4881eb9c53b7d58a16be02f7cf165a85f2c41ed8579bef3c8", func := "loop.example/g01267/laws.FnExactPartOf", spec := "fnExactPartOf", unfollowed := true, recurses := true, named := ["loop.example/g01267/impl.errNotPrimitive", "loop.example/g01267/impl.errNotCommutative"], ifaces := true, plainKeys := false, apart := false, laid := [("loop.example/g01267/impl.errNotCommutative", laid_loop_example_g01267_impl_errNotCommutative), ("loop.example/g01267/impl.errNotPrimitive", laid_loop_example_g01267_impl_errNotPrimitive)] }
def FnExactPartOfSaid : Prop := fnExactPartOfRow.holds Tryz.pinned (OpenSpec.ofChange fnExactPartOfSpec)

/-- ITS FALSE NEIGHBOUR: 'it returns false'. Refute it at one input. -/
def fnExactPartOfWrong : ChangeSpec := { name := "fnExactPartOf", vars := ["loop.example/g01267/impl.errNotPrimitive", "loop.example/g01267/impl.errNotCommutative"], fn := fun _ => fun
  | [d1, d2, g1, g2] => { results := [.lit (.bool false)], args := [d1, d2], vars := [g1, g2] }
  | _ => none }
def FnExactPartOfWrongFalsely : Prop := fnExactPartOfRow.holds Tryz.pinned (OpenSpec.ofChange fnExactPartOfWrong)

/-- 'laws.FnExactSizesOfParts': WHATEVER THE INPUT: true; the input reads as it did. -/
def fnExactSizesOfPartsSpec : ChangeSpec := { name := "fnExactSizesOfParts", vars := ["loop.example/g01267/impl.errNotCommutative"], fn := fun _ => fun
  | [d, g1] => { results := [.lit (.bool true)], args := [d], vars := [g1] }
  | _ => none }
def fnExactSizesOfPartsRow : OpenClaim := { program := "ytmlnjicajdbjlaagreatdoor", sum := "49e6539709a728c4881eb9c53b7d58a16be02f7cf165a85f2c41ed8579bef3c8", func := "loop.example/g01267/laws.FnExactSizesOfParts", spec := "fnExactSizesOfParts", unfollowed := true, recurses := true, named := ["loop.example/g01267/impl.errNotCommutative"], ifaces := true, plainKeys := false, apart := false, laid := [("loop.example/g01267/impl.errNotCommutative", laid_loop_example_g01267_impl_errNotCommutative)] }
def FnExactSizesOfPartsSaid : Prop := fnExactSizesOfPartsRow.holds Tryz.pinned (OpenSpec.ofChange fnExactSizesOfPartsSpec)

/-- ITS FALSE NEIGHBOUR: 'it returns false'. Refute it at one input. -/
def fnExactSizesOfPartsWrong : ChangeSpec := { name := "fnExactSizesOfParts", vars := ["loop.example/g01267/impl.errNotCommutative"], fn := fun _ => fun
  | [d, g1] => { results := [.lit (.bool false)], args := [d], vars := [g1] }
  | _ => none }
def FnExactSizesOfPartsWrongFalsely : Prop := fnExactSizesOfPartsRow.holds Tryz.pinned (OpenSpec.ofChange fnExactSizesOfPartsWrong)

/-- 'laws.FnExactDegreesOfParts': WHATEVER THE INPUT: true; the input reads as it did. -/
def fnExactDegreesOfPartsSpec : ChangeSpec := { name := "fnExactDegreesOfParts", vars := ["loop.example/g01267/impl.errNotCommutative"], fn := fun _ => fun
  | [d, g1] => { results := [.lit (.bool true)], args := [d], vars := [g1] }
  | _ => none }
def fnExactDegreesOfPartsRow : OpenClaim := { program := "ytmlnjicajdbjlaagreatdoor", sum := "49e6539709a728c4881eb9c53b7d58a16be02f7cf165a85f2c41ed8579bef3c8", func := "loop.example/g01267/laws.FnExactDegreesOfParts", spec := "fnExactDegreesOfParts", unfollowed := true, recurses := true, named := ["loop.example/g01267/impl.errNotCommutative"], ifaces := true, plainKeys := false, apart := false, laid := [("loop.example/g01267/impl.errNotCommutative", laid_loop_example_g01267_impl_errNotCommutative)] }
def FnExactDegreesOfPartsSaid : Prop := fnExactDegreesOfPartsRow.holds Tryz.pinned (OpenSpec.ofChange fnExactDegreesOfPartsSpec)

/-- ITS FALSE NEIGHBOUR: 'it returns false'. Refute it at one input. -/
def fnExactDegreesOfPartsWrong : ChangeSpec := { name := "fnExactDegreesOfParts", vars := ["loop.example/g01267/impl.errNotCommutative"], fn := fun _ => fun
  | [d, g1] => { results := [.lit (.bool false)], args := [d], vars := [g1] }
  | _ => none }
def FnExactDegreesOfPartsWrongFalsely : Prop := fnExactDegreesOfPartsRow.holds Tryz.pinned (OpenSpec.ofChange fnExactDegreesOfPartsWrong)

/-- 'laws.FnExactIsSplit': WHATEVER THE INPUT: true; the input reads as it did. -/
def fnExactIsSplitSpec : ChangeSpec := { name := "fnExactIsSplit", vars := ["loop.example/g01267/impl.errNotCommutative"], fn := fun _ => fun
  | [d, g1] => { results := [.lit (.bool true)], args := [d], vars := [g1] }
  | _ => none }
def fnExactIsSplitRow : OpenClaim := { program := "ytmlnjicajdbjlaagreatdoor", sum := "49e6539709a728c4881eb9c53b7d58a16be02f7cf165a85f2c41ed8579bef3c8", func := "loop.example/g01267/laws.FnExactIsSplit", spec := "fnExactIsSplit", unfollowed := true, recurses := true, named := ["loop.example/g01267/impl.errNotCommutative"], ifaces := true, plainKeys := false, apart := false, laid := [("loop.example/g01267/impl.errNotCommutative", laid_loop_example_g01267_impl_errNotCommutative)] }
def FnExactIsSplitSaid : Prop := fnExactIsSplitRow.holds Tryz.pinned (OpenSpec.ofChange fnExactIsSplitSpec)

/-- ITS FALSE NEIGHBOUR: 'it returns false'. Refute it at one input. -/
def fnExactIsSplitWrong : ChangeSpec := { name := "fnExactIsSplit", vars := ["loop.example/g01267/impl.errNotCommutative"], fn := fun _ => fun
  | [d, g1] => { results := [.lit (.bool false)], args := [d], vars := [g1] }
  | _ => none }
def FnExactIsSplitWrongFalsely : Prop := fnExactIsSplitRow.holds Tryz.pinned (OpenSpec.ofChange fnExactIsSplitWrong)

/-- 'laws.FnExactPartNumber': WHATEVER THE INPUT: true; the input reads as it did. -/
def fnExactPartNumberSpec : ChangeSpec := { name := "fnExactPartNumber", vars := ["loop.example/g01267/impl.errNoPartNumbers", "loop.example/g01267/impl.errNotCommutative"], fn := fun _ => fun
  | [d1, d2, g1, g2] => { results := [.lit (.bool true)], args := [d1, d2], vars := [g1, g2] }
  | _ => none }
def fnExactPartNumberRow : OpenClaim := { program := "ytmlnjicajdbjlaagreatdoor", sum := "49e6539709a728c4881eb9c53b7d58a16be02f7cf165a85f2c41ed8579bef3c8", func := "loop.example/g01267/laws.FnExactPartNumber", spec := "fnExactPartNumber", unfollowed := true, recurses := true, named := ["loop.example/g01267/impl.errNoPartNumbers", "loop.example/g01267/impl.errNotCommutative"], ifaces := true, plainKeys := false, apart := false, laid := [("loop.example/g01267/impl.errNotCommutative", laid_loop_example_g01267_impl_errNotCommutative), ("loop.example/g01267/impl.errNoPartNumbers", laid_loop_example_g01267_impl_errNoPartNumbers)] }
def FnExactPartNumberSaid : Prop := fnExactPartNumberRow.holds Tryz.pinned (OpenSpec.ofChange fnExactPartNumberSpec)

/-- ITS FALSE NEIGHBOUR: 'it returns false'. Refute it at one input. -/
def fnExactPartNumberWrong : ChangeSpec := { name := "fnExactPartNumber", vars := ["loop.example/g01267/impl.errNoPartNumbers", "loop.example/g01267/impl.errNotCommutative"], fn := fun _ => fun
  | [d1, d2, g1, g2] => { results := [.lit (.bool false)], args := [d1, d2], vars := [g1, g2] }
  | _ => none }
def FnExactPartNumberWrongFalsely : Prop := fnExactPartNumberRow.holds Tryz.pinned (OpenSpec.ofChange fnExactPartNumberWrong)

/- THE SECOND FORM. 'bulk': how many values and letters a reading holds, each counted each time it is reached (what is shared counts as often as it is met; a slice's spare places count too). A statement '..UptoSaid' is the law's where the arguments, and the package variables that the reading takes, are together of bulk at most 1048576: NARROWER than '..Said'. Prove '..Said' where nothing that the law and all that it calls make is longer than what came in: it says more and counts as full. Else prove '..UptoSaid'. A law counts once. -/
mutual
def uptoBulk {H : Type} : DataW H → Nat
  | .lit (.string bytes) => bytes.length + 1
  | .lit _ => 1
  | .nil => 1
  | .ptr d => uptoBulk d + 1
  | .slice elems spare => uptoBulkAll elems + uptoBulkAll spare + 1
  | .agg parts => uptoBulkAll parts + 1
  | .iface _ d => uptoBulk d + 1
  | .map entries => uptoBulkEntries entries + 1
  | .held _ => 1
def uptoBulkAll {H : Type} : List (DataW H) → Nat
  | [] => 0
  | d :: r => uptoBulk d + uptoBulkAll r
def uptoBulkEntries {H : Type} : List (Lit × DataW H) → Nat
  | [] => 0
  | x :: r => uptoBulkEntry x + uptoBulkEntries r
def uptoBulkEntry {H : Type} : Lit × DataW H → Nat
  | (.string bytes, d) => bytes.length + uptoBulk d + 1
  | (_, d) => uptoBulk d + 1
 end
def uptoSmall : (H : Type) → List (DataW H) → Bool := fun _ ds => decide (uptoBulkAll ds ≤ 1048576)
def OpenSpec.upto (s : _root_.Go.ChangeSpec) : _root_.Go.OpenSpec := { _root_.Go.OpenSpec.ofChange s with cond := some uptoSmall }

/-- 'laws.FnExactPartOf', WHERE WHAT IT READS IS OF BULK AT MOST 1048576: true; the input reads as it did. -/
def fnExactPartOfUptoRow : OpenClaim := { program := "ytmlnjicajdbjlaagreatdoor", sum := "49e6539709a728c4881eb9c53b7d58a16be02f7cf165a85f2c41ed8579bef3c8", func := "loop.example/g01267/laws.FnExactPartOf", spec := "fnExactPartOf", unfollowed := true, recurses := true, named := ["loop.example/g01267/impl.errNotPrimitive", "loop.example/g01267/impl.errNotCommutative"], ifaces := true, plainKeys := false, apart := false, laid := [("loop.example/g01267/impl.errNotCommutative", laid_loop_example_g01267_impl_errNotCommutative), ("loop.example/g01267/impl.errNotPrimitive", laid_loop_example_g01267_impl_errNotPrimitive)], narrowed := true }
def FnExactPartOfUptoSaid : Prop := fnExactPartOfUptoRow.holds Tryz.pinned (OpenSpec.upto fnExactPartOfSpec)

/-- 'laws.FnExactSizesOfParts', WHERE WHAT IT READS IS OF BULK AT MOST 1048576: true; the input reads as it did. -/
def fnExactSizesOfPartsUptoRow : OpenClaim := { program := "ytmlnjicajdbjlaagreatdoor", sum := "49e6539709a728c4881eb9c53b7d58a16be02f7cf165a85f2c41ed8579bef3c8", func := "loop.example/g01267/laws.FnExactSizesOfParts", spec := "fnExactSizesOfParts", unfollowed := true, recurses := true, named := ["loop.example/g01267/impl.errNotCommutative"], ifaces := true, plainKeys := false, apart := false, laid := [("loop.example/g01267/impl.errNotCommutative", laid_loop_example_g01267_impl_errNotCommutative)], narrowed := true }
def FnExactSizesOfPartsUptoSaid : Prop := fnExactSizesOfPartsUptoRow.holds Tryz.pinned (OpenSpec.upto fnExactSizesOfPartsSpec)

/-- 'laws.FnExactDegreesOfParts', WHERE WHAT IT READS IS OF BULK AT MOST 1048576: true; the input reads as it did. -/
def fnExactDegreesOfPartsUptoRow : OpenClaim := { program := "ytmlnjicajdbjlaagreatdoor", sum := "49e6539709a728c4881eb9c53b7d58a16be02f7cf165a85f2c41ed8579bef3c8", func := "loop.example/g01267/laws.FnExactDegreesOfParts", spec := "fnExactDegreesOfParts", unfollowed := true, recurses := true, named := ["loop.example/g01267/impl.errNotCommutative"], ifaces := true, plainKeys := false, apart := false, laid := [("loop.example/g01267/impl.errNotCommutative", laid_loop_example_g01267_impl_errNotCommutative)], narrowed := true }
def FnExactDegreesOfPartsUptoSaid : Prop := fnExactDegreesOfPartsUptoRow.holds Tryz.pinned (OpenSpec.upto fnExactDegreesOfPartsSpec)

/-- 'laws.FnExactIsSplit', WHERE WHAT IT READS IS OF BULK AT MOST 1048576: true; the input reads as it did. -/
def fnExactIsSplitUptoRow : OpenClaim := { program := "ytmlnjicajdbjlaagreatdoor", sum := "49e6539709a728c4881eb9c53b7d58a16be02f7cf165a85f2c41ed8579bef3c8", func := "loop.example/g01267/laws.FnExactIsSplit", spec := "fnExactIsSplit", unfollowed := true, recurses := true, named := ["loop.example/g01267/impl.errNotCommutative"], ifaces := true, plainKeys := false, apart := false, laid := [("loop.example/g01267/impl.errNotCommutative", laid_loop_example_g01267_impl_errNotCommutative)], narrowed := true }
def FnExactIsSplitUptoSaid : Prop := fnExactIsSplitUptoRow.holds Tryz.pinned (OpenSpec.upto fnExactIsSplitSpec)

/-- 'laws.FnExactPartNumber', WHERE WHAT IT READS IS OF BULK AT MOST 1048576: true; the input reads as it did. -/
def fnExactPartNumberUptoRow : OpenClaim := { program := "ytmlnjicajdbjlaagreatdoor", sum := "49e6539709a728c4881eb9c53b7d58a16be02f7cf165a85f2c41ed8579bef3c8", func := "loop.example/g01267/laws.FnExactPartNumber", spec := "fnExactPartNumber", unfollowed := true, recurses := true, named := ["loop.example/g01267/impl.errNoPartNumbers", "loop.example/g01267/impl.errNotCommutative"], ifaces := true, plainKeys := false, apart := false, laid := [("loop.example/g01267/impl.errNotCommutative", laid_loop_example_g01267_impl_errNotCommutative), ("loop.example/g01267/impl.errNoPartNumbers", laid_loop_example_g01267_impl_errNoPartNumbers)], narrowed := true }
def FnExactPartNumberUptoSaid : Prop := fnExactPartNumberUptoRow.holds Tryz.pinned (OpenSpec.upto fnExactPartNumberSpec)

end Rows
end Go.Proofs.YtmlnjicajdbjlaaGreatDoor
