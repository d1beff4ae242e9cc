/-
  NARROWER THAN 'FOR EVERY INPUT', by the rows' own cells (each row's printed sentence says how): FnExactPrimitiveIdempotents: ifaces, laid · FnExactIsPrimitive: ifaces, laid · FnExactCountIdempotents: ifaces, laid · FnExactIsLocal: ifaces, laid.
  DERIVED. THE GIVEN ROWS OF THIS SEAT. 4 by the template 'for every input the law returns true; each argument reads behind the call as it read before'; 0 by the template 'total and deterministic' (their statements: YtmlnjicajdbjlaaDoorTotals.lean).
  GIVEN WITH THE SEED: the statements are not yours to turn. If you find one false, say at which input.
  Laid BY PROGRAM, IN A SANDBOX (cutbox-rows.mjs): the forced cells as the released guide's own fill.sh prints them over the translation 6775331ecce47f64… (all of the seat's roots in one cut). By AI agents, Wed Nov 11 2026. No macro, syntax, notation, axiom, sorry.
-/
import Derived.Test.YtmlnjicajdbjlaaDoorChecked
import GoSem.Claim
import GoSem.ClaimJoined
import GoSem.ClaimMapViews
import Derived.JoinedTies
import Derived.KernelRfl
namespace Go.Proofs.YtmlnjicajdbjlaaDoor
/- THE CELL 'sum', in the pinned program and in every row, IS THE sha256 OF THE DUMP (.gsa) THAT YtmlnjicajdbjlaaDoorProg.lean LOADS. Nothing in Lean hashes anything: it is a label: what it is worth is what the hold of that sum in a sandbox is worth. -/
noncomputable def Tryd.pinned : Pinned := { name := "ytmlnjicajdbjlaadoor", sum := "6775331ecce47f64bd53444d039c462d6b3ad10dc9b21dda921ddeb6f4222ed2", checked := Tryd.checked }
namespace Rows
def none {H : Type} : Left H := { results := [], args := [] }

/- WHAT THE LISTED PACKAGE-LEVEL VARIABLES READ AS WHEN THE CALL BEGINS. Each datum BY PROGRAM (the guide's laid-datum.mjs) off the statement by which the dump's own 'gosem.cut.vars' lays the variable. In a bare row this is a premise. The card (YtmlnjicajdbjlaaDoorCards.lean) ties it to the program's text. -/
def laid_loop_example_g01267_impl_errNotCommutative {H : Type} : DataW H := .iface "*errors.errorString" (.ptr (.agg [.lit (.string [116, 104, 101, 32, 97, 108, 103, 101, 98, 114, 97, 32, 105, 115, 32, 110, 111, 116, 32, 99, 111, 109, 109, 117, 116, 97, 116, 105, 118, 101])]))

/-- 'laws.FnExactPrimitiveIdempotents': WHATEVER THE INPUT: true; the input reads as it did. -/
def fnExactPrimitiveIdempotentsSpec : ChangeSpec := { name := "fnExactPrimitiveIdempotents", vars := ["loop.example/g01267/impl.errNotCommutative"], fn := fun _ => fun
  | [d, g1] => { results := [.lit (.bool true)], args := [d], vars := [g1] }
  | _ => none }
def fnExactPrimitiveIdempotentsRow : OpenClaim := { program := "ytmlnjicajdbjlaadoor", sum := "6775331ecce47f64bd53444d039c462d6b3ad10dc9b21dda921ddeb6f4222ed2", func := "loop.example/g01267/laws.FnExactPrimitiveIdempotents", spec := "fnExactPrimitiveIdempotents", unfollowed := true, recurses := true, named := ["loop.example/g01267/impl.errNotCommutative"], ifaces := true, plainKeys := false, apart := false, laid := [("loop.example/g01267/impl.errNotCommutative", laid_loop_example_g01267_impl_errNotCommutative)] }
def FnExactPrimitiveIdempotentsSaid : Prop := fnExactPrimitiveIdempotentsRow.holds Tryd.pinned (OpenSpec.ofChange fnExactPrimitiveIdempotentsSpec)

/-- ITS FALSE NEIGHBOUR: 'it returns false'. Refute it at one input. -/
def fnExactPrimitiveIdempotentsWrong : ChangeSpec := { name := "fnExactPrimitiveIdempotents", vars := ["loop.example/g01267/impl.errNotCommutative"], fn := fun _ => fun
  | [d, g1] => { results := [.lit (.bool false)], args := [d], vars := [g1] }
  | _ => none }
def FnExactPrimitiveIdempotentsWrongFalsely : Prop := fnExactPrimitiveIdempotentsRow.holds Tryd.pinned (OpenSpec.ofChange fnExactPrimitiveIdempotentsWrong)

/-- 'laws.FnExactIsPrimitive': WHATEVER THE INPUT: true; the input reads as it did. -/
def fnExactIsPrimitiveSpec : ChangeSpec := { name := "fnExactIsPrimitive", vars := ["loop.example/g01267/impl.errNotCommutative"], fn := fun _ => fun
  | [d1, d2, g1] => { results := [.lit (.bool true)], args := [d1, d2], vars := [g1] }
  | _ => none }
def fnExactIsPrimitiveRow : OpenClaim := { program := "ytmlnjicajdbjlaadoor", sum := "6775331ecce47f64bd53444d039c462d6b3ad10dc9b21dda921ddeb6f4222ed2", func := "loop.example/g01267/laws.FnExactIsPrimitive", spec := "fnExactIsPrimitive", unfollowed := true, recurses := true, named := ["loop.example/g01267/impl.errNotCommutative"], ifaces := true, plainKeys := false, apart := false, laid := [("loop.example/g01267/impl.errNotCommutative", laid_loop_example_g01267_impl_errNotCommutative)] }
def FnExactIsPrimitiveSaid : Prop := fnExactIsPrimitiveRow.holds Tryd.pinned (OpenSpec.ofChange fnExactIsPrimitiveSpec)

/-- ITS FALSE NEIGHBOUR: 'it returns false'. Refute it at one input. -/
def fnExactIsPrimitiveWrong : ChangeSpec := { name := "fnExactIsPrimitive", vars := ["loop.example/g01267/impl.errNotCommutative"], fn := fun _ => fun
  | [d1, d2, g1] => { results := [.lit (.bool false)], args := [d1, d2], vars := [g1] }
  | _ => none }
def FnExactIsPrimitiveWrongFalsely : Prop := fnExactIsPrimitiveRow.holds Tryd.pinned (OpenSpec.ofChange fnExactIsPrimitiveWrong)

/-- 'laws.FnExactCountIdempotents': WHATEVER THE INPUT: true; the input reads as it did. -/
def fnExactCountIdempotentsSpec : ChangeSpec := { name := "fnExactCountIdempotents", vars := ["loop.example/g01267/impl.errNotCommutative"], fn := fun _ => fun
  | [d, g1] => { results := [.lit (.bool true)], args := [d], vars := [g1] }
  | _ => none }
def fnExactCountIdempotentsRow : OpenClaim := { program := "ytmlnjicajdbjlaadoor", sum := "6775331ecce47f64bd53444d039c462d6b3ad10dc9b21dda921ddeb6f4222ed2", func := "loop.example/g01267/laws.FnExactCountIdempotents", spec := "fnExactCountIdempotents", unfollowed := true, recurses := true, named := ["loop.example/g01267/impl.errNotCommutative"], ifaces := true, plainKeys := false, apart := false, laid := [("loop.example/g01267/impl.errNotCommutative", laid_loop_example_g01267_impl_errNotCommutative)] }
def FnExactCountIdempotentsSaid : Prop := fnExactCountIdempotentsRow.holds Tryd.pinned (OpenSpec.ofChange fnExactCountIdempotentsSpec)

/-- ITS FALSE NEIGHBOUR: 'it returns false'. Refute it at one input. -/
def fnExactCountIdempotentsWrong : ChangeSpec := { name := "fnExactCountIdempotents", vars := ["loop.example/g01267/impl.errNotCommutative"], fn := fun _ => fun
  | [d, g1] => { results := [.lit (.bool false)], args := [d], vars := [g1] }
  | _ => none }
def FnExactCountIdempotentsWrongFalsely : Prop := fnExactCountIdempotentsRow.holds Tryd.pinned (OpenSpec.ofChange fnExactCountIdempotentsWrong)

/-- 'laws.FnExactIsLocal': WHATEVER THE INPUT: true; the input reads as it did. -/
def fnExactIsLocalSpec : ChangeSpec := { name := "fnExactIsLocal", vars := ["loop.example/g01267/impl.errNotCommutative"], fn := fun _ => fun
  | [d, g1] => { results := [.lit (.bool true)], args := [d], vars := [g1] }
  | _ => none }
def fnExactIsLocalRow : OpenClaim := { program := "ytmlnjicajdbjlaadoor", sum := "6775331ecce47f64bd53444d039c462d6b3ad10dc9b21dda921ddeb6f4222ed2", func := "loop.example/g01267/laws.FnExactIsLocal", spec := "fnExactIsLocal", unfollowed := true, recurses := true, named := ["loop.example/g01267/impl.errNotCommutative"], ifaces := true, plainKeys := false, apart := false, laid := [("loop.example/g01267/impl.errNotCommutative", laid_loop_example_g01267_impl_errNotCommutative)] }
def FnExactIsLocalSaid : Prop := fnExactIsLocalRow.holds Tryd.pinned (OpenSpec.ofChange fnExactIsLocalSpec)

/-- ITS FALSE NEIGHBOUR: 'it returns false'. Refute it at one input. -/
def fnExactIsLocalWrong : ChangeSpec := { name := "fnExactIsLocal", vars := ["loop.example/g01267/impl.errNotCommutative"], fn := fun _ => fun
  | [d, g1] => { results := [.lit (.bool false)], args := [d], vars := [g1] }
  | _ => none }
def FnExactIsLocalWrongFalsely : Prop := fnExactIsLocalRow.holds Tryd.pinned (OpenSpec.ofChange fnExactIsLocalWrong)

/- THE SECOND FORM. 'bulk': how many values and letters a reading holds, each counted each time it is reached (what is shared counts as often as it is met; a slice's spare places count too). A statement '..UptoSaid' is the law's where the arguments, and the package variables that the reading takes, are together of bulk at most 1048576: NARROWER than '..Said'. Prove '..Said' where nothing that the law and all that it calls make is longer than what came in: it says more and counts as full. Else prove '..UptoSaid'. A law counts once. -/
mutual
def uptoBulk {H : Type} : DataW H → Nat
  | .lit (.string bytes) => bytes.length + 1
  | .lit _ => 1
  | .nil => 1
  | .ptr d => uptoBulk d + 1
  | .slice elems spare => uptoBulkAll elems + uptoBulkAll spare + 1
  | .agg parts => uptoBulkAll parts + 1
  | .iface _ d => uptoBulk d + 1
  | .map entries => uptoBulkEntries entries + 1
  | .held _ => 1
def uptoBulkAll {H : Type} : List (DataW H) → Nat
  | [] => 0
  | d :: r => uptoBulk d + uptoBulkAll r
def uptoBulkEntries {H : Type} : List (Lit × DataW H) → Nat
  | [] => 0
  | x :: r => uptoBulkEntry x + uptoBulkEntries r
def uptoBulkEntry {H : Type} : Lit × DataW H → Nat
  | (.string bytes, d) => bytes.length + uptoBulk d + 1
  | (_, d) => uptoBulk d + 1
 end
def uptoSmall : (H : Type) → List (DataW H) → Bool := fun _ ds => decide (uptoBulkAll ds ≤ 1048576)
def OpenSpec.upto (s : _root_.Go.ChangeSpec) : _root_.Go.OpenSpec := { _root_.Go.OpenSpec.ofChange s with cond := some uptoSmall }

/-- 'laws.FnExactPrimitiveIdempotents', WHERE WHAT IT READS IS OF BULK AT MOST 1048576: true; the input reads as it did. -/
def fnExactPrimitiveIdempotentsUptoRow : OpenClaim := { program := "ytmlnjicajdbjlaadoor", sum := "6775331ecce47f64bd53444d039c462d6b3ad10dc9b21dda921ddeb6f4222ed2", func := "loop.example/g01267/laws.FnExactPrimitiveIdempotents", spec := "fnExactPrimitiveIdempotents", unfollowed := true, recurses := true, named := ["loop.example/g01267/impl.errNotCommutative"], ifaces := true, plainKeys := false, apart := false, laid := [("loop.example/g01267/impl.errNotCommutative", laid_loop_example_g01267_impl_errNotCommutative)], narrowed := true }
def FnExactPrimitiveIdempotentsUptoSaid : Prop := fnExactPrimitiveIdempotentsUptoRow.holds Tryd.pinned (OpenSpec.upto fnExactPrimitiveIdempotentsSpec)

/-- 'laws.FnExactIsPrimitive', WHERE WHAT IT READS IS OF BULK AT MOST 1048576: true; the input reads as it did. -/
def fnExactIsPrimitiveUptoRow : OpenClaim := { program := "ytmlnjicajdbjlaadoor", sum := "6775331ecce47f64bd53444d039c462d6b3ad10dc9b21dda921ddeb6f4222ed2", func := "loop.example/g01267/laws.FnExactIsPrimitive", spec := "fnExactIsPrimitive", unfollowed := true, recurses := true, named := ["loop.example/g01267/impl.errNotCommutative"], ifaces := true, plainKeys := false, apart := false, laid := [("loop.example/g01267/impl.errNotCommutative", laid_loop_example_g01267_impl_errNotCommutative)], narrowed := true }
def FnExactIsPrimitiveUptoSaid : Prop := fnExactIsPrimitiveUptoRow.holds Tryd.pinned (OpenSpec.upto fnExactIsPrimitiveSpec)

/-- 'laws.FnExactCountIdempotents', WHERE WHAT IT READS IS OF BULK AT MOST 1048576: true; the input reads as it did. -/
def fnExactCountIdempotentsUptoRow : OpenClaim := { program := "ytmlnjicajdbjlaadoor", sum := "6775331ecce47f64bd53444d039c462d6b3ad10dc9b21dda921ddeb6f4222ed2", func := "loop.example/g01267/laws.FnExactCountIdempotents", spec := "fnExactCountIdempotents", unfollowed := true, recurses := true, named := ["loop.example/g01267/impl.errNotCommutative"], ifaces := true, plainKeys := false, apart := false, laid := [("loop.example/g01267/impl.errNotCommutative", laid_loop_example_g01267_impl_errNotCommutative)], narrowed := true }
def FnExactCountIdempotentsUptoSaid : Prop := fnExactCountIdempotentsUptoRow.holds Tryd.pinned (OpenSpec.upto fnExactCountIdempotentsSpec)

/-- 'laws.FnExactIsLocal', WHERE WHAT IT READS IS OF BULK AT MOST 1048576: true; the input reads as it did. -/
def fnExactIsLocalUptoRow : OpenClaim := { program := "ytmlnjicajdbjlaadoor", sum := "6775331ecce47f64bd53444d039c462d6b3ad10dc9b21dda921ddeb6f4222ed2", func := "loop.example/g01267/laws.FnExactIsLocal", spec := "fnExactIsLocal", unfollowed := true, recurses := true, named := ["loop.example/g01267/impl.errNotCommutative"], ifaces := true, plainKeys := false, apart := false, laid := [("loop.example/g01267/impl.errNotCommutative", laid_loop_example_g01267_impl_errNotCommutative)], narrowed := true }
def FnExactIsLocalUptoSaid : Prop := fnExactIsLocalUptoRow.holds Tryd.pinned (OpenSpec.upto fnExactIsLocalSpec)

end Rows
end Go.Proofs.YtmlnjicajdbjlaaDoor
