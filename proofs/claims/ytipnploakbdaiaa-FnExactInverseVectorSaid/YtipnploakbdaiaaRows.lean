/-
  No cell of these rows narrows 'for every input' (looked for: loops, veiled, ifaces, maps, wideKeys, modest, calm, conditions, laid).
  DERIVED. THE GIVEN ROWS OF THIS SEAT. 12 by the template 'for every input the law returns true; each argument reads behind the call as it read before'; 0 by the template 'total and deterministic' (their statements: YtipnploakbdaiaaTotals.lean).
  GIVEN WITH THE SEED: the statements are not yours to turn. If you find one false, say at which input.
  Laid BY PROGRAM, IN A SANDBOX (cutbox-rows.mjs): the forced cells as the released guide's own fill.sh prints them over the translation 4124cd5fce7d8a4f… (all of the seat's roots in one cut). By AI agents, Wed Nov 11 2026. No macro, syntax, notation, axiom, sorry.
-/
import Derived.Test.YtipnploakbdaiaaChecked
import GoSem.Claim
import GoSem.ClaimJoined
import GoSem.ClaimMapViews
import Derived.JoinedTies
import Derived.KernelRfl
namespace Go.Proofs.Ytipnploakbdaiaa
/- THE CELL 'sum', in the pinned program and in every row, IS THE sha256 OF THE DUMP (.gsa) THAT YtipnploakbdaiaaProg.lean LOADS. Nothing in Lean hashes anything: it is a label: what it is worth is what the hold of that sum in a sandbox is worth. -/
noncomputable def Try.pinned : Pinned := { name := "ytipnploakbdaiaa", sum := "4124cd5fce7d8a4f5afde333419a9e809e6476356ef122bb5aaf3d755ec5c2e3", checked := Try.checked }
namespace Rows
def none {H : Type} : Left H := { results := [], args := [] }

/-- 'laws.FnExactIsAlgebra': WHATEVER THE INPUT: true; the input reads as it did. -/
def fnExactIsAlgebraSpec : ChangeSpec := { name := "fnExactIsAlgebra", fn := fun _ => fun
  | [d] => { results := [.lit (.bool true)], args := [d] }
  | _ => none }
def fnExactIsAlgebraRow : OpenClaim := { program := "ytipnploakbdaiaa", sum := "4124cd5fce7d8a4f5afde333419a9e809e6476356ef122bb5aaf3d755ec5c2e3", func := "loop.example/g01267/laws.FnExactIsAlgebra", spec := "fnExactIsAlgebra", apart := false }
def FnExactIsAlgebraSaid : Prop := fnExactIsAlgebraRow.holds Try.pinned (OpenSpec.ofChange fnExactIsAlgebraSpec)

/-- ITS FALSE NEIGHBOUR: 'it returns false'. Refute it at one input. -/
def fnExactIsAlgebraWrong : ChangeSpec := { name := "fnExactIsAlgebra", fn := fun _ => fun
  | [d] => { results := [.lit (.bool false)], args := [d] }
  | _ => none }
def FnExactIsAlgebraWrongFalsely : Prop := fnExactIsAlgebraRow.holds Try.pinned (OpenSpec.ofChange fnExactIsAlgebraWrong)

/-- 'laws.FnExactIsCommutative': WHATEVER THE INPUT: true; the input reads as it did. -/
def fnExactIsCommutativeSpec : ChangeSpec := { name := "fnExactIsCommutative", fn := fun _ => fun
  | [d] => { results := [.lit (.bool true)], args := [d] }
  | _ => none }
def fnExactIsCommutativeRow : OpenClaim := { program := "ytipnploakbdaiaa", sum := "4124cd5fce7d8a4f5afde333419a9e809e6476356ef122bb5aaf3d755ec5c2e3", func := "loop.example/g01267/laws.FnExactIsCommutative", spec := "fnExactIsCommutative", apart := false }
def FnExactIsCommutativeSaid : Prop := fnExactIsCommutativeRow.holds Try.pinned (OpenSpec.ofChange fnExactIsCommutativeSpec)

/-- ITS FALSE NEIGHBOUR: 'it returns false'. Refute it at one input. -/
def fnExactIsCommutativeWrong : ChangeSpec := { name := "fnExactIsCommutative", fn := fun _ => fun
  | [d] => { results := [.lit (.bool false)], args := [d] }
  | _ => none }
def FnExactIsCommutativeWrongFalsely : Prop := fnExactIsCommutativeRow.holds Try.pinned (OpenSpec.ofChange fnExactIsCommutativeWrong)

/-- 'laws.FnExactIsFrobenius': WHATEVER THE INPUT: true; the input reads as it did. -/
def fnExactIsFrobeniusSpec : ChangeSpec := { name := "fnExactIsFrobenius", fn := fun _ => fun
  | [d] => { results := [.lit (.bool true)], args := [d] }
  | _ => none }
def fnExactIsFrobeniusRow : OpenClaim := { program := "ytipnploakbdaiaa", sum := "4124cd5fce7d8a4f5afde333419a9e809e6476356ef122bb5aaf3d755ec5c2e3", func := "loop.example/g01267/laws.FnExactIsFrobenius", spec := "fnExactIsFrobenius", apart := false }
def FnExactIsFrobeniusSaid : Prop := fnExactIsFrobeniusRow.holds Try.pinned (OpenSpec.ofChange fnExactIsFrobeniusSpec)

/-- ITS FALSE NEIGHBOUR: 'it returns false'. Refute it at one input. -/
def fnExactIsFrobeniusWrong : ChangeSpec := { name := "fnExactIsFrobenius", fn := fun _ => fun
  | [d] => { results := [.lit (.bool false)], args := [d] }
  | _ => none }
def FnExactIsFrobeniusWrongFalsely : Prop := fnExactIsFrobeniusRow.holds Try.pinned (OpenSpec.ofChange fnExactIsFrobeniusWrong)

/-- 'laws.FnExactMultiplyVectors': WHATEVER THE INPUT: true; the input reads as it did. -/
def fnExactMultiplyVectorsSpec : ChangeSpec := { name := "fnExactMultiplyVectors", fn := fun _ => fun
  | [d1, d2, d3] => { results := [.lit (.bool true)], args := [d1, d2, d3] }
  | _ => none }
def fnExactMultiplyVectorsRow : OpenClaim := { program := "ytipnploakbdaiaa", sum := "4124cd5fce7d8a4f5afde333419a9e809e6476356ef122bb5aaf3d755ec5c2e3", func := "loop.example/g01267/laws.FnExactMultiplyVectors", spec := "fnExactMultiplyVectors", apart := false }
def FnExactMultiplyVectorsSaid : Prop := fnExactMultiplyVectorsRow.holds Try.pinned (OpenSpec.ofChange fnExactMultiplyVectorsSpec)

/-- ITS FALSE NEIGHBOUR: 'it returns false'. Refute it at one input. -/
def fnExactMultiplyVectorsWrong : ChangeSpec := { name := "fnExactMultiplyVectors", fn := fun _ => fun
  | [d1, d2, d3] => { results := [.lit (.bool false)], args := [d1, d2, d3] }
  | _ => none }
def FnExactMultiplyVectorsWrongFalsely : Prop := fnExactMultiplyVectorsRow.holds Try.pinned (OpenSpec.ofChange fnExactMultiplyVectorsWrong)

/-- 'laws.FnExactAddVectors': WHATEVER THE INPUT: true; the input reads as it did. -/
def fnExactAddVectorsSpec : ChangeSpec := { name := "fnExactAddVectors", fn := fun _ => fun
  | [d1, d2, d3, d4] => { results := [.lit (.bool true)], args := [d1, d2, d3, d4] }
  | _ => none }
def fnExactAddVectorsRow : OpenClaim := { program := "ytipnploakbdaiaa", sum := "4124cd5fce7d8a4f5afde333419a9e809e6476356ef122bb5aaf3d755ec5c2e3", func := "loop.example/g01267/laws.FnExactAddVectors", spec := "fnExactAddVectors", apart := false }
def FnExactAddVectorsSaid : Prop := fnExactAddVectorsRow.holds Try.pinned (OpenSpec.ofChange fnExactAddVectorsSpec)

/-- ITS FALSE NEIGHBOUR: 'it returns false'. Refute it at one input. -/
def fnExactAddVectorsWrong : ChangeSpec := { name := "fnExactAddVectors", fn := fun _ => fun
  | [d1, d2, d3, d4] => { results := [.lit (.bool false)], args := [d1, d2, d3, d4] }
  | _ => none }
def FnExactAddVectorsWrongFalsely : Prop := fnExactAddVectorsRow.holds Try.pinned (OpenSpec.ofChange fnExactAddVectorsWrong)

/-- 'laws.FnExactPowerVector': WHATEVER THE INPUT: true; the input reads as it did. -/
def fnExactPowerVectorSpec : ChangeSpec := { name := "fnExactPowerVector", fn := fun _ => fun
  | [d1, d2, d3] => { results := [.lit (.bool true)], args := [d1, d2, d3] }
  | _ => none }
def fnExactPowerVectorRow : OpenClaim := { program := "ytipnploakbdaiaa", sum := "4124cd5fce7d8a4f5afde333419a9e809e6476356ef122bb5aaf3d755ec5c2e3", func := "loop.example/g01267/laws.FnExactPowerVector", spec := "fnExactPowerVector", apart := false }
def FnExactPowerVectorSaid : Prop := fnExactPowerVectorRow.holds Try.pinned (OpenSpec.ofChange fnExactPowerVectorSpec)

/-- ITS FALSE NEIGHBOUR: 'it returns false'. Refute it at one input. -/
def fnExactPowerVectorWrong : ChangeSpec := { name := "fnExactPowerVector", fn := fun _ => fun
  | [d1, d2, d3] => { results := [.lit (.bool false)], args := [d1, d2, d3] }
  | _ => none }
def FnExactPowerVectorWrongFalsely : Prop := fnExactPowerVectorRow.holds Try.pinned (OpenSpec.ofChange fnExactPowerVectorWrong)

/-- 'laws.FnExactUnitOf': WHATEVER THE INPUT: true; the input reads as it did. -/
def fnExactUnitOfSpec : ChangeSpec := { name := "fnExactUnitOf", fn := fun _ => fun
  | [d] => { results := [.lit (.bool true)], args := [d] }
  | _ => none }
def fnExactUnitOfRow : OpenClaim := { program := "ytipnploakbdaiaa", sum := "4124cd5fce7d8a4f5afde333419a9e809e6476356ef122bb5aaf3d755ec5c2e3", func := "loop.example/g01267/laws.FnExactUnitOf", spec := "fnExactUnitOf", apart := false }
def FnExactUnitOfSaid : Prop := fnExactUnitOfRow.holds Try.pinned (OpenSpec.ofChange fnExactUnitOfSpec)

/-- ITS FALSE NEIGHBOUR: 'it returns false'. Refute it at one input. -/
def fnExactUnitOfWrong : ChangeSpec := { name := "fnExactUnitOf", fn := fun _ => fun
  | [d] => { results := [.lit (.bool false)], args := [d] }
  | _ => none }
def FnExactUnitOfWrongFalsely : Prop := fnExactUnitOfRow.holds Try.pinned (OpenSpec.ofChange fnExactUnitOfWrong)

/-- 'laws.FnExactFormOf': WHATEVER THE INPUT: true; the input reads as it did. -/
def fnExactFormOfSpec : ChangeSpec := { name := "fnExactFormOf", fn := fun _ => fun
  | [d1, d2] => { results := [.lit (.bool true)], args := [d1, d2] }
  | _ => none }
def fnExactFormOfRow : OpenClaim := { program := "ytipnploakbdaiaa", sum := "4124cd5fce7d8a4f5afde333419a9e809e6476356ef122bb5aaf3d755ec5c2e3", func := "loop.example/g01267/laws.FnExactFormOf", spec := "fnExactFormOf", apart := false }
def FnExactFormOfSaid : Prop := fnExactFormOfRow.holds Try.pinned (OpenSpec.ofChange fnExactFormOfSpec)

/-- ITS FALSE NEIGHBOUR: 'it returns false'. Refute it at one input. -/
def fnExactFormOfWrong : ChangeSpec := { name := "fnExactFormOf", fn := fun _ => fun
  | [d1, d2] => { results := [.lit (.bool false)], args := [d1, d2] }
  | _ => none }
def FnExactFormOfWrongFalsely : Prop := fnExactFormOfRow.holds Try.pinned (OpenSpec.ofChange fnExactFormOfWrong)

/-- 'laws.FnExactOppositeAlgebra': WHATEVER THE INPUT: true; the input reads as it did. -/
def fnExactOppositeAlgebraSpec : ChangeSpec := { name := "fnExactOppositeAlgebra", fn := fun _ => fun
  | [d] => { results := [.lit (.bool true)], args := [d] }
  | _ => none }
def fnExactOppositeAlgebraRow : OpenClaim := { program := "ytipnploakbdaiaa", sum := "4124cd5fce7d8a4f5afde333419a9e809e6476356ef122bb5aaf3d755ec5c2e3", func := "loop.example/g01267/laws.FnExactOppositeAlgebra", spec := "fnExactOppositeAlgebra", apart := false }
def FnExactOppositeAlgebraSaid : Prop := fnExactOppositeAlgebraRow.holds Try.pinned (OpenSpec.ofChange fnExactOppositeAlgebraSpec)

/-- ITS FALSE NEIGHBOUR: 'it returns false'. Refute it at one input. -/
def fnExactOppositeAlgebraWrong : ChangeSpec := { name := "fnExactOppositeAlgebra", fn := fun _ => fun
  | [d] => { results := [.lit (.bool false)], args := [d] }
  | _ => none }
def FnExactOppositeAlgebraWrongFalsely : Prop := fnExactOppositeAlgebraRow.holds Try.pinned (OpenSpec.ofChange fnExactOppositeAlgebraWrong)

/-- 'laws.FnExactInverseVector': WHATEVER THE INPUT: true; the input reads as it did. -/
def fnExactInverseVectorSpec : ChangeSpec := { name := "fnExactInverseVector", fn := fun _ => fun
  | [d1, d2] => { results := [.lit (.bool true)], args := [d1, d2] }
  | _ => none }
def fnExactInverseVectorRow : OpenClaim := { program := "ytipnploakbdaiaa", sum := "4124cd5fce7d8a4f5afde333419a9e809e6476356ef122bb5aaf3d755ec5c2e3", func := "loop.example/g01267/laws.FnExactInverseVector", spec := "fnExactInverseVector", apart := false }
def FnExactInverseVectorSaid : Prop := fnExactInverseVectorRow.holds Try.pinned (OpenSpec.ofChange fnExactInverseVectorSpec)

/-- ITS FALSE NEIGHBOUR: 'it returns false'. Refute it at one input. -/
def fnExactInverseVectorWrong : ChangeSpec := { name := "fnExactInverseVector", fn := fun _ => fun
  | [d1, d2] => { results := [.lit (.bool false)], args := [d1, d2] }
  | _ => none }
def FnExactInverseVectorWrongFalsely : Prop := fnExactInverseVectorRow.holds Try.pinned (OpenSpec.ofChange fnExactInverseVectorWrong)

/-- 'laws.FnExactPairVectors': WHATEVER THE INPUT: true; the input reads as it did. -/
def fnExactPairVectorsSpec : ChangeSpec := { name := "fnExactPairVectors", fn := fun _ => fun
  | [d1, d2, d3] => { results := [.lit (.bool true)], args := [d1, d2, d3] }
  | _ => none }
def fnExactPairVectorsRow : OpenClaim := { program := "ytipnploakbdaiaa", sum := "4124cd5fce7d8a4f5afde333419a9e809e6476356ef122bb5aaf3d755ec5c2e3", func := "loop.example/g01267/laws.FnExactPairVectors", spec := "fnExactPairVectors", apart := false }
def FnExactPairVectorsSaid : Prop := fnExactPairVectorsRow.holds Try.pinned (OpenSpec.ofChange fnExactPairVectorsSpec)

/-- ITS FALSE NEIGHBOUR: 'it returns false'. Refute it at one input. -/
def fnExactPairVectorsWrong : ChangeSpec := { name := "fnExactPairVectors", fn := fun _ => fun
  | [d1, d2, d3] => { results := [.lit (.bool false)], args := [d1, d2, d3] }
  | _ => none }
def FnExactPairVectorsWrongFalsely : Prop := fnExactPairVectorsRow.holds Try.pinned (OpenSpec.ofChange fnExactPairVectorsWrong)

/-- 'laws.FnExactTraceOf': WHATEVER THE INPUT: true; the input reads as it did. -/
def fnExactTraceOfSpec : ChangeSpec := { name := "fnExactTraceOf", fn := fun _ => fun
  | [d1, d2] => { results := [.lit (.bool true)], args := [d1, d2] }
  | _ => none }
def fnExactTraceOfRow : OpenClaim := { program := "ytipnploakbdaiaa", sum := "4124cd5fce7d8a4f5afde333419a9e809e6476356ef122bb5aaf3d755ec5c2e3", func := "loop.example/g01267/laws.FnExactTraceOf", spec := "fnExactTraceOf", apart := false }
def FnExactTraceOfSaid : Prop := fnExactTraceOfRow.holds Try.pinned (OpenSpec.ofChange fnExactTraceOfSpec)

/-- ITS FALSE NEIGHBOUR: 'it returns false'. Refute it at one input. -/
def fnExactTraceOfWrong : ChangeSpec := { name := "fnExactTraceOf", fn := fun _ => fun
  | [d1, d2] => { results := [.lit (.bool false)], args := [d1, d2] }
  | _ => none }
def FnExactTraceOfWrongFalsely : Prop := fnExactTraceOfRow.holds Try.pinned (OpenSpec.ofChange fnExactTraceOfWrong)

/- THE SECOND FORM. 'bulk': how many values and letters a reading holds, each counted each time it is reached (what is shared counts as often as it is met; a slice's spare places count too). A statement '..UptoSaid' is the law's where the arguments, and the package variables that the reading takes, are together of bulk at most 1048576: NARROWER than '..Said'. Prove '..Said' where nothing that the law and all that it calls make is longer than what came in: it says more and counts as full. Else prove '..UptoSaid'. A law counts once. -/
mutual
def uptoBulk {H : Type} : DataW H → Nat
  | .lit (.string bytes) => bytes.length + 1
  | .lit _ => 1
  | .nil => 1
  | .ptr d => uptoBulk d + 1
  | .slice elems spare => uptoBulkAll elems + uptoBulkAll spare + 1
  | .agg parts => uptoBulkAll parts + 1
  | .iface _ d => uptoBulk d + 1
  | .map entries => uptoBulkEntries entries + 1
  | .held _ => 1
def uptoBulkAll {H : Type} : List (DataW H) → Nat
  | [] => 0
  | d :: r => uptoBulk d + uptoBulkAll r
def uptoBulkEntries {H : Type} : List (Lit × DataW H) → Nat
  | [] => 0
  | x :: r => uptoBulkEntry x + uptoBulkEntries r
def uptoBulkEntry {H : Type} : Lit × DataW H → Nat
  | (.string bytes, d) => bytes.length + uptoBulk d + 1
  | (_, d) => uptoBulk d + 1
 end
def uptoSmall : (H : Type) → List (DataW H) → Bool := fun _ ds => decide (uptoBulkAll ds ≤ 1048576)
def OpenSpec.upto (s : _root_.Go.ChangeSpec) : _root_.Go.OpenSpec := { _root_.Go.OpenSpec.ofChange s with cond := some uptoSmall }

/-- 'laws.FnExactIsAlgebra', WHERE WHAT IT READS IS OF BULK AT MOST 1048576: true; the input reads as it did. -/
def fnExactIsAlgebraUptoRow : OpenClaim := { program := "ytipnploakbdaiaa", sum := "4124cd5fce7d8a4f5afde333419a9e809e6476356ef122bb5aaf3d755ec5c2e3", func := "loop.example/g01267/laws.FnExactIsAlgebra", spec := "fnExactIsAlgebra", apart := false, narrowed := true }
def FnExactIsAlgebraUptoSaid : Prop := fnExactIsAlgebraUptoRow.holds Try.pinned (OpenSpec.upto fnExactIsAlgebraSpec)

/-- 'laws.FnExactIsCommutative', WHERE WHAT IT READS IS OF BULK AT MOST 1048576: true; the input reads as it did. -/
def fnExactIsCommutativeUptoRow : OpenClaim := { program := "ytipnploakbdaiaa", sum := "4124cd5fce7d8a4f5afde333419a9e809e6476356ef122bb5aaf3d755ec5c2e3", func := "loop.example/g01267/laws.FnExactIsCommutative", spec := "fnExactIsCommutative", apart := false, narrowed := true }
def FnExactIsCommutativeUptoSaid : Prop := fnExactIsCommutativeUptoRow.holds Try.pinned (OpenSpec.upto fnExactIsCommutativeSpec)

/-- 'laws.FnExactIsFrobenius', WHERE WHAT IT READS IS OF BULK AT MOST 1048576: true; the input reads as it did. -/
def fnExactIsFrobeniusUptoRow : OpenClaim := { program := "ytipnploakbdaiaa", sum := "4124cd5fce7d8a4f5afde333419a9e809e6476356ef122bb5aaf3d755ec5c2e3", func := "loop.example/g01267/laws.FnExactIsFrobenius", spec := "fnExactIsFrobenius", apart := false, narrowed := true }
def FnExactIsFrobeniusUptoSaid : Prop := fnExactIsFrobeniusUptoRow.holds Try.pinned (OpenSpec.upto fnExactIsFrobeniusSpec)

/-- 'laws.FnExactMultiplyVectors', WHERE WHAT IT READS IS OF BULK AT MOST 1048576: true; the input reads as it did. -/
def fnExactMultiplyVectorsUptoRow : OpenClaim := { program := "ytipnploakbdaiaa", sum := "4124cd5fce7d8a4f5afde333419a9e809e6476356ef122bb5aaf3d755ec5c2e3", func := "loop.example/g01267/laws.FnExactMultiplyVectors", spec := "fnExactMultiplyVectors", apart := false, narrowed := true }
def FnExactMultiplyVectorsUptoSaid : Prop := fnExactMultiplyVectorsUptoRow.holds Try.pinned (OpenSpec.upto fnExactMultiplyVectorsSpec)

/-- 'laws.FnExactAddVectors', WHERE WHAT IT READS IS OF BULK AT MOST 1048576: true; the input reads as it did. -/
def fnExactAddVectorsUptoRow : OpenClaim := { program := "ytipnploakbdaiaa", sum := "4124cd5fce7d8a4f5afde333419a9e809e6476356ef122bb5aaf3d755ec5c2e3", func := "loop.example/g01267/laws.FnExactAddVectors", spec := "fnExactAddVectors", apart := false, narrowed := true }
def FnExactAddVectorsUptoSaid : Prop := fnExactAddVectorsUptoRow.holds Try.pinned (OpenSpec.upto fnExactAddVectorsSpec)

/-- 'laws.FnExactPowerVector', WHERE WHAT IT READS IS OF BULK AT MOST 1048576: true; the input reads as it did. -/
def fnExactPowerVectorUptoRow : OpenClaim := { program := "ytipnploakbdaiaa", sum := "4124cd5fce7d8a4f5afde333419a9e809e6476356ef122bb5aaf3d755ec5c2e3", func := "loop.example/g01267/laws.FnExactPowerVector", spec := "fnExactPowerVector", apart := false, narrowed := true }
def FnExactPowerVectorUptoSaid : Prop := fnExactPowerVectorUptoRow.holds Try.pinned (OpenSpec.upto fnExactPowerVectorSpec)

/-- 'laws.FnExactUnitOf', WHERE WHAT IT READS IS OF BULK AT MOST 1048576: true; the input reads as it did. -/
def fnExactUnitOfUptoRow : OpenClaim := { program := "ytipnploakbdaiaa", sum := "4124cd5fce7d8a4f5afde333419a9e809e6476356ef122bb5aaf3d755ec5c2e3", func := "loop.example/g01267/laws.FnExactUnitOf", spec := "fnExactUnitOf", apart := false, narrowed := true }
def FnExactUnitOfUptoSaid : Prop := fnExactUnitOfUptoRow.holds Try.pinned (OpenSpec.upto fnExactUnitOfSpec)

/-- 'laws.FnExactFormOf', WHERE WHAT IT READS IS OF BULK AT MOST 1048576: true; the input reads as it did. -/
def fnExactFormOfUptoRow : OpenClaim := { program := "ytipnploakbdaiaa", sum := "4124cd5fce7d8a4f5afde333419a9e809e6476356ef122bb5aaf3d755ec5c2e3", func := "loop.example/g01267/laws.FnExactFormOf", spec := "fnExactFormOf", apart := false, narrowed := true }
def FnExactFormOfUptoSaid : Prop := fnExactFormOfUptoRow.holds Try.pinned (OpenSpec.upto fnExactFormOfSpec)

/-- 'laws.FnExactOppositeAlgebra', WHERE WHAT IT READS IS OF BULK AT MOST 1048576: true; the input reads as it did. -/
def fnExactOppositeAlgebraUptoRow : OpenClaim := { program := "ytipnploakbdaiaa", sum := "4124cd5fce7d8a4f5afde333419a9e809e6476356ef122bb5aaf3d755ec5c2e3", func := "loop.example/g01267/laws.FnExactOppositeAlgebra", spec := "fnExactOppositeAlgebra", apart := false, narrowed := true }
def FnExactOppositeAlgebraUptoSaid : Prop := fnExactOppositeAlgebraUptoRow.holds Try.pinned (OpenSpec.upto fnExactOppositeAlgebraSpec)

/-- 'laws.FnExactInverseVector', WHERE WHAT IT READS IS OF BULK AT MOST 1048576: true; the input reads as it did. -/
def fnExactInverseVectorUptoRow : OpenClaim := { program := "ytipnploakbdaiaa", sum := "4124cd5fce7d8a4f5afde333419a9e809e6476356ef122bb5aaf3d755ec5c2e3", func := "loop.example/g01267/laws.FnExactInverseVector", spec := "fnExactInverseVector", apart := false, narrowed := true }
def FnExactInverseVectorUptoSaid : Prop := fnExactInverseVectorUptoRow.holds Try.pinned (OpenSpec.upto fnExactInverseVectorSpec)

/-- 'laws.FnExactPairVectors', WHERE WHAT IT READS IS OF BULK AT MOST 1048576: true; the input reads as it did. -/
def fnExactPairVectorsUptoRow : OpenClaim := { program := "ytipnploakbdaiaa", sum := "4124cd5fce7d8a4f5afde333419a9e809e6476356ef122bb5aaf3d755ec5c2e3", func := "loop.example/g01267/laws.FnExactPairVectors", spec := "fnExactPairVectors", apart := false, narrowed := true }
def FnExactPairVectorsUptoSaid : Prop := fnExactPairVectorsUptoRow.holds Try.pinned (OpenSpec.upto fnExactPairVectorsSpec)

/-- 'laws.FnExactTraceOf', WHERE WHAT IT READS IS OF BULK AT MOST 1048576: true; the input reads as it did. -/
def fnExactTraceOfUptoRow : OpenClaim := { program := "ytipnploakbdaiaa", sum := "4124cd5fce7d8a4f5afde333419a9e809e6476356ef122bb5aaf3d755ec5c2e3", func := "loop.example/g01267/laws.FnExactTraceOf", spec := "fnExactTraceOf", apart := false, narrowed := true }
def FnExactTraceOfUptoSaid : Prop := fnExactTraceOfUptoRow.holds Try.pinned (OpenSpec.upto fnExactTraceOfSpec)

end Rows
end Go.Proofs.Ytipnploakbdaiaa
