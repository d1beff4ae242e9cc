/-
  No cell of these rows narrows 'for every input' (looked for: loops, veiled, ifaces, maps, wideKeys, modest, calm, conditions, laid).
  DERIVED. THE GIVEN ROWS OF THIS SEAT. 19 by the template 'for every input the law returns true; each argument reads behind the call as it read before'; 0 by the template 'total and deterministic' (their statements: YtkamkdhinmdaeaaTotals.lean).
  GIVEN WITH THE SEED: the statements are not yours to turn. If you find one false, say at which input.
  Laid BY PROGRAM, IN A SANDBOX (cutbox-rows.mjs): the forced cells as the released guide's own fill.sh prints them over the translation 6489ac5372dbc46d… (all of the seat's roots in one cut). By AI agents, Wed Nov 11 2026. No macro, syntax, notation, axiom, sorry.
-/
import Derived.Test.YtkamkdhinmdaeaaChecked
import GoSem.Claim
import GoSem.ClaimJoined
import GoSem.ClaimMapViews
import Derived.JoinedTies
import Derived.KernelRfl
namespace Go.Proofs.Ytkamkdhinmdaeaa
/- THE CELL 'sum', in the pinned program and in every row, IS THE sha256 OF THE DUMP (.gsa) THAT YtkamkdhinmdaeaaProg.lean LOADS. Nothing in Lean hashes anything: it is a label: what it is worth is what the hold of that sum in a sandbox is worth. -/
noncomputable def Try.pinned : Pinned := { name := "ytkamkdhinmdaeaa", sum := "6489ac5372dbc46d88ea320e3f18dfe84c6ef7d3d7ef24eddaa3cc8ce13ccf31", checked := Try.checked }
namespace Rows
def none {H : Type} : Left H := { results := [], args := [] }

/-- 'laws.FnProducts': WHATEVER THE INPUT: true; the input reads as it did. -/
def fnProductsSpec : ChangeSpec := { name := "fnProducts", fn := fun _ => fun
  | [d] => { results := [.lit (.bool true)], args := [d] }
  | _ => none }
def fnProductsRow : OpenClaim := { program := "ytkamkdhinmdaeaa", sum := "6489ac5372dbc46d88ea320e3f18dfe84c6ef7d3d7ef24eddaa3cc8ce13ccf31", func := "loop.example/g01267/laws.FnProducts", spec := "fnProducts", plainKeys := false, apart := false }
def FnProductsSaid : Prop := fnProductsRow.holds Try.pinned (OpenSpec.ofChange fnProductsSpec)

/-- ITS FALSE NEIGHBOUR: 'it returns false'. Refute it at one input. -/
def fnProductsWrong : ChangeSpec := { name := "fnProducts", fn := fun _ => fun
  | [d] => { results := [.lit (.bool false)], args := [d] }
  | _ => none }
def FnProductsWrongFalsely : Prop := fnProductsRow.holds Try.pinned (OpenSpec.ofChange fnProductsWrong)

/-- 'laws.FnSums': WHATEVER THE INPUT: true; the input reads as it did. -/
def fnSumsSpec : ChangeSpec := { name := "fnSums", fn := fun _ => fun
  | [d] => { results := [.lit (.bool true)], args := [d] }
  | _ => none }
def fnSumsRow : OpenClaim := { program := "ytkamkdhinmdaeaa", sum := "6489ac5372dbc46d88ea320e3f18dfe84c6ef7d3d7ef24eddaa3cc8ce13ccf31", func := "loop.example/g01267/laws.FnSums", spec := "fnSums", plainKeys := false, apart := false }
def FnSumsSaid : Prop := fnSumsRow.holds Try.pinned (OpenSpec.ofChange fnSumsSpec)

/-- ITS FALSE NEIGHBOUR: 'it returns false'. Refute it at one input. -/
def fnSumsWrong : ChangeSpec := { name := "fnSums", fn := fun _ => fun
  | [d] => { results := [.lit (.bool false)], args := [d] }
  | _ => none }
def FnSumsWrongFalsely : Prop := fnSumsRow.holds Try.pinned (OpenSpec.ofChange fnSumsWrong)

/-- 'laws.FnExactIsAlgebra': WHATEVER THE INPUT: true; the input reads as it did. -/
def fnExactIsAlgebraSpec : ChangeSpec := { name := "fnExactIsAlgebra", fn := fun _ => fun
  | [d] => { results := [.lit (.bool true)], args := [d] }
  | _ => none }
def fnExactIsAlgebraRow : OpenClaim := { program := "ytkamkdhinmdaeaa", sum := "6489ac5372dbc46d88ea320e3f18dfe84c6ef7d3d7ef24eddaa3cc8ce13ccf31", func := "loop.example/g01267/laws.FnExactIsAlgebra", spec := "fnExactIsAlgebra", plainKeys := false, apart := false }
def FnExactIsAlgebraSaid : Prop := fnExactIsAlgebraRow.holds Try.pinned (OpenSpec.ofChange fnExactIsAlgebraSpec)

/-- ITS FALSE NEIGHBOUR: 'it returns false'. Refute it at one input. -/
def fnExactIsAlgebraWrong : ChangeSpec := { name := "fnExactIsAlgebra", fn := fun _ => fun
  | [d] => { results := [.lit (.bool false)], args := [d] }
  | _ => none }
def FnExactIsAlgebraWrongFalsely : Prop := fnExactIsAlgebraRow.holds Try.pinned (OpenSpec.ofChange fnExactIsAlgebraWrong)

/-- 'laws.FnExactIsCommutative': WHATEVER THE INPUT: true; the input reads as it did. -/
def fnExactIsCommutativeSpec : ChangeSpec := { name := "fnExactIsCommutative", fn := fun _ => fun
  | [d] => { results := [.lit (.bool true)], args := [d] }
  | _ => none }
def fnExactIsCommutativeRow : OpenClaim := { program := "ytkamkdhinmdaeaa", sum := "6489ac5372dbc46d88ea320e3f18dfe84c6ef7d3d7ef24eddaa3cc8ce13ccf31", func := "loop.example/g01267/laws.FnExactIsCommutative", spec := "fnExactIsCommutative", plainKeys := false, apart := false }
def FnExactIsCommutativeSaid : Prop := fnExactIsCommutativeRow.holds Try.pinned (OpenSpec.ofChange fnExactIsCommutativeSpec)

/-- ITS FALSE NEIGHBOUR: 'it returns false'. Refute it at one input. -/
def fnExactIsCommutativeWrong : ChangeSpec := { name := "fnExactIsCommutative", fn := fun _ => fun
  | [d] => { results := [.lit (.bool false)], args := [d] }
  | _ => none }
def FnExactIsCommutativeWrongFalsely : Prop := fnExactIsCommutativeRow.holds Try.pinned (OpenSpec.ofChange fnExactIsCommutativeWrong)

/-- 'laws.FnExactIsFrobenius': WHATEVER THE INPUT: true; the input reads as it did. -/
def fnExactIsFrobeniusSpec : ChangeSpec := { name := "fnExactIsFrobenius", fn := fun _ => fun
  | [d] => { results := [.lit (.bool true)], args := [d] }
  | _ => none }
def fnExactIsFrobeniusRow : OpenClaim := { program := "ytkamkdhinmdaeaa", sum := "6489ac5372dbc46d88ea320e3f18dfe84c6ef7d3d7ef24eddaa3cc8ce13ccf31", func := "loop.example/g01267/laws.FnExactIsFrobenius", spec := "fnExactIsFrobenius", plainKeys := false, apart := false }
def FnExactIsFrobeniusSaid : Prop := fnExactIsFrobeniusRow.holds Try.pinned (OpenSpec.ofChange fnExactIsFrobeniusSpec)

/-- ITS FALSE NEIGHBOUR: 'it returns false'. Refute it at one input. -/
def fnExactIsFrobeniusWrong : ChangeSpec := { name := "fnExactIsFrobenius", fn := fun _ => fun
  | [d] => { results := [.lit (.bool false)], args := [d] }
  | _ => none }
def FnExactIsFrobeniusWrongFalsely : Prop := fnExactIsFrobeniusRow.holds Try.pinned (OpenSpec.ofChange fnExactIsFrobeniusWrong)

/-- 'laws.FnExactMultiplyVectors': WHATEVER THE INPUT: true; the input reads as it did. -/
def fnExactMultiplyVectorsSpec : ChangeSpec := { name := "fnExactMultiplyVectors", fn := fun _ => fun
  | [d1, d2, d3] => { results := [.lit (.bool true)], args := [d1, d2, d3] }
  | _ => none }
def fnExactMultiplyVectorsRow : OpenClaim := { program := "ytkamkdhinmdaeaa", sum := "6489ac5372dbc46d88ea320e3f18dfe84c6ef7d3d7ef24eddaa3cc8ce13ccf31", func := "loop.example/g01267/laws.FnExactMultiplyVectors", spec := "fnExactMultiplyVectors", plainKeys := false, apart := false }
def FnExactMultiplyVectorsSaid : Prop := fnExactMultiplyVectorsRow.holds Try.pinned (OpenSpec.ofChange fnExactMultiplyVectorsSpec)

/-- ITS FALSE NEIGHBOUR: 'it returns false'. Refute it at one input. -/
def fnExactMultiplyVectorsWrong : ChangeSpec := { name := "fnExactMultiplyVectors", fn := fun _ => fun
  | [d1, d2, d3] => { results := [.lit (.bool false)], args := [d1, d2, d3] }
  | _ => none }
def FnExactMultiplyVectorsWrongFalsely : Prop := fnExactMultiplyVectorsRow.holds Try.pinned (OpenSpec.ofChange fnExactMultiplyVectorsWrong)

/-- 'laws.FnExactAddVectors': WHATEVER THE INPUT: true; the input reads as it did. -/
def fnExactAddVectorsSpec : ChangeSpec := { name := "fnExactAddVectors", fn := fun _ => fun
  | [d1, d2, d3, d4] => { results := [.lit (.bool true)], args := [d1, d2, d3, d4] }
  | _ => none }
def fnExactAddVectorsRow : OpenClaim := { program := "ytkamkdhinmdaeaa", sum := "6489ac5372dbc46d88ea320e3f18dfe84c6ef7d3d7ef24eddaa3cc8ce13ccf31", func := "loop.example/g01267/laws.FnExactAddVectors", spec := "fnExactAddVectors", plainKeys := false, apart := false }
def FnExactAddVectorsSaid : Prop := fnExactAddVectorsRow.holds Try.pinned (OpenSpec.ofChange fnExactAddVectorsSpec)

/-- ITS FALSE NEIGHBOUR: 'it returns false'. Refute it at one input. -/
def fnExactAddVectorsWrong : ChangeSpec := { name := "fnExactAddVectors", fn := fun _ => fun
  | [d1, d2, d3, d4] => { results := [.lit (.bool false)], args := [d1, d2, d3, d4] }
  | _ => none }
def FnExactAddVectorsWrongFalsely : Prop := fnExactAddVectorsRow.holds Try.pinned (OpenSpec.ofChange fnExactAddVectorsWrong)

/-- 'laws.FnExactPowerVector': WHATEVER THE INPUT: true; the input reads as it did. -/
def fnExactPowerVectorSpec : ChangeSpec := { name := "fnExactPowerVector", fn := fun _ => fun
  | [d1, d2, d3] => { results := [.lit (.bool true)], args := [d1, d2, d3] }
  | _ => none }
def fnExactPowerVectorRow : OpenClaim := { program := "ytkamkdhinmdaeaa", sum := "6489ac5372dbc46d88ea320e3f18dfe84c6ef7d3d7ef24eddaa3cc8ce13ccf31", func := "loop.example/g01267/laws.FnExactPowerVector", spec := "fnExactPowerVector", plainKeys := false, apart := false }
def FnExactPowerVectorSaid : Prop := fnExactPowerVectorRow.holds Try.pinned (OpenSpec.ofChange fnExactPowerVectorSpec)

/-- ITS FALSE NEIGHBOUR: 'it returns false'. Refute it at one input. -/
def fnExactPowerVectorWrong : ChangeSpec := { name := "fnExactPowerVector", fn := fun _ => fun
  | [d1, d2, d3] => { results := [.lit (.bool false)], args := [d1, d2, d3] }
  | _ => none }
def FnExactPowerVectorWrongFalsely : Prop := fnExactPowerVectorRow.holds Try.pinned (OpenSpec.ofChange fnExactPowerVectorWrong)

/-- 'laws.FnExactUnitOf': WHATEVER THE INPUT: true; the input reads as it did. -/
def fnExactUnitOfSpec : ChangeSpec := { name := "fnExactUnitOf", fn := fun _ => fun
  | [d] => { results := [.lit (.bool true)], args := [d] }
  | _ => none }
def fnExactUnitOfRow : OpenClaim := { program := "ytkamkdhinmdaeaa", sum := "6489ac5372dbc46d88ea320e3f18dfe84c6ef7d3d7ef24eddaa3cc8ce13ccf31", func := "loop.example/g01267/laws.FnExactUnitOf", spec := "fnExactUnitOf", plainKeys := false, apart := false }
def FnExactUnitOfSaid : Prop := fnExactUnitOfRow.holds Try.pinned (OpenSpec.ofChange fnExactUnitOfSpec)

/-- ITS FALSE NEIGHBOUR: 'it returns false'. Refute it at one input. -/
def fnExactUnitOfWrong : ChangeSpec := { name := "fnExactUnitOf", fn := fun _ => fun
  | [d] => { results := [.lit (.bool false)], args := [d] }
  | _ => none }
def FnExactUnitOfWrongFalsely : Prop := fnExactUnitOfRow.holds Try.pinned (OpenSpec.ofChange fnExactUnitOfWrong)

/-- 'laws.FnExactFormOf': WHATEVER THE INPUT: true; the input reads as it did. -/
def fnExactFormOfSpec : ChangeSpec := { name := "fnExactFormOf", fn := fun _ => fun
  | [d1, d2] => { results := [.lit (.bool true)], args := [d1, d2] }
  | _ => none }
def fnExactFormOfRow : OpenClaim := { program := "ytkamkdhinmdaeaa", sum := "6489ac5372dbc46d88ea320e3f18dfe84c6ef7d3d7ef24eddaa3cc8ce13ccf31", func := "loop.example/g01267/laws.FnExactFormOf", spec := "fnExactFormOf", plainKeys := false, apart := false }
def FnExactFormOfSaid : Prop := fnExactFormOfRow.holds Try.pinned (OpenSpec.ofChange fnExactFormOfSpec)

/-- ITS FALSE NEIGHBOUR: 'it returns false'. Refute it at one input. -/
def fnExactFormOfWrong : ChangeSpec := { name := "fnExactFormOf", fn := fun _ => fun
  | [d1, d2] => { results := [.lit (.bool false)], args := [d1, d2] }
  | _ => none }
def FnExactFormOfWrongFalsely : Prop := fnExactFormOfRow.holds Try.pinned (OpenSpec.ofChange fnExactFormOfWrong)

/-- 'laws.FnExactInverseVector': WHATEVER THE INPUT: true; the input reads as it did. -/
def fnExactInverseVectorSpec : ChangeSpec := { name := "fnExactInverseVector", fn := fun _ => fun
  | [d1, d2] => { results := [.lit (.bool true)], args := [d1, d2] }
  | _ => none }
def fnExactInverseVectorRow : OpenClaim := { program := "ytkamkdhinmdaeaa", sum := "6489ac5372dbc46d88ea320e3f18dfe84c6ef7d3d7ef24eddaa3cc8ce13ccf31", func := "loop.example/g01267/laws.FnExactInverseVector", spec := "fnExactInverseVector", plainKeys := false, apart := false }
def FnExactInverseVectorSaid : Prop := fnExactInverseVectorRow.holds Try.pinned (OpenSpec.ofChange fnExactInverseVectorSpec)

/-- ITS FALSE NEIGHBOUR: 'it returns false'. Refute it at one input. -/
def fnExactInverseVectorWrong : ChangeSpec := { name := "fnExactInverseVector", fn := fun _ => fun
  | [d1, d2] => { results := [.lit (.bool false)], args := [d1, d2] }
  | _ => none }
def FnExactInverseVectorWrongFalsely : Prop := fnExactInverseVectorRow.holds Try.pinned (OpenSpec.ofChange fnExactInverseVectorWrong)

/-- 'laws.FnExactCentreOf': WHATEVER THE INPUT: true; the input reads as it did. -/
def fnExactCentreOfSpec : ChangeSpec := { name := "fnExactCentreOf", fn := fun _ => fun
  | [d] => { results := [.lit (.bool true)], args := [d] }
  | _ => none }
def fnExactCentreOfRow : OpenClaim := { program := "ytkamkdhinmdaeaa", sum := "6489ac5372dbc46d88ea320e3f18dfe84c6ef7d3d7ef24eddaa3cc8ce13ccf31", func := "loop.example/g01267/laws.FnExactCentreOf", spec := "fnExactCentreOf", plainKeys := false, apart := false }
def FnExactCentreOfSaid : Prop := fnExactCentreOfRow.holds Try.pinned (OpenSpec.ofChange fnExactCentreOfSpec)

/-- ITS FALSE NEIGHBOUR: 'it returns false'. Refute it at one input. -/
def fnExactCentreOfWrong : ChangeSpec := { name := "fnExactCentreOf", fn := fun _ => fun
  | [d] => { results := [.lit (.bool false)], args := [d] }
  | _ => none }
def FnExactCentreOfWrongFalsely : Prop := fnExactCentreOfRow.holds Try.pinned (OpenSpec.ofChange fnExactCentreOfWrong)

/-- 'laws.FnExactOppositeAlgebra': WHATEVER THE INPUT: true; the input reads as it did. -/
def fnExactOppositeAlgebraSpec : ChangeSpec := { name := "fnExactOppositeAlgebra", fn := fun _ => fun
  | [d] => { results := [.lit (.bool true)], args := [d] }
  | _ => none }
def fnExactOppositeAlgebraRow : OpenClaim := { program := "ytkamkdhinmdaeaa", sum := "6489ac5372dbc46d88ea320e3f18dfe84c6ef7d3d7ef24eddaa3cc8ce13ccf31", func := "loop.example/g01267/laws.FnExactOppositeAlgebra", spec := "fnExactOppositeAlgebra", plainKeys := false, apart := false }
def FnExactOppositeAlgebraSaid : Prop := fnExactOppositeAlgebraRow.holds Try.pinned (OpenSpec.ofChange fnExactOppositeAlgebraSpec)

/-- ITS FALSE NEIGHBOUR: 'it returns false'. Refute it at one input. -/
def fnExactOppositeAlgebraWrong : ChangeSpec := { name := "fnExactOppositeAlgebra", fn := fun _ => fun
  | [d] => { results := [.lit (.bool false)], args := [d] }
  | _ => none }
def FnExactOppositeAlgebraWrongFalsely : Prop := fnExactOppositeAlgebraRow.holds Try.pinned (OpenSpec.ofChange fnExactOppositeAlgebraWrong)

/-- 'laws.FnExactAddAlgebras': WHATEVER THE INPUT: true; the input reads as it did. -/
def fnExactAddAlgebrasSpec : ChangeSpec := { name := "fnExactAddAlgebras", fn := fun _ => fun
  | [d1, d2] => { results := [.lit (.bool true)], args := [d1, d2] }
  | _ => none }
def fnExactAddAlgebrasRow : OpenClaim := { program := "ytkamkdhinmdaeaa", sum := "6489ac5372dbc46d88ea320e3f18dfe84c6ef7d3d7ef24eddaa3cc8ce13ccf31", func := "loop.example/g01267/laws.FnExactAddAlgebras", spec := "fnExactAddAlgebras", plainKeys := false, apart := false }
def FnExactAddAlgebrasSaid : Prop := fnExactAddAlgebrasRow.holds Try.pinned (OpenSpec.ofChange fnExactAddAlgebrasSpec)

/-- ITS FALSE NEIGHBOUR: 'it returns false'. Refute it at one input. -/
def fnExactAddAlgebrasWrong : ChangeSpec := { name := "fnExactAddAlgebras", fn := fun _ => fun
  | [d1, d2] => { results := [.lit (.bool false)], args := [d1, d2] }
  | _ => none }
def FnExactAddAlgebrasWrongFalsely : Prop := fnExactAddAlgebrasRow.holds Try.pinned (OpenSpec.ofChange fnExactAddAlgebrasWrong)

/-- 'laws.FnExactTensorAlgebras': WHATEVER THE INPUT: true; the input reads as it did. -/
def fnExactTensorAlgebrasSpec : ChangeSpec := { name := "fnExactTensorAlgebras", fn := fun _ => fun
  | [d1, d2] => { results := [.lit (.bool true)], args := [d1, d2] }
  | _ => none }
def fnExactTensorAlgebrasRow : OpenClaim := { program := "ytkamkdhinmdaeaa", sum := "6489ac5372dbc46d88ea320e3f18dfe84c6ef7d3d7ef24eddaa3cc8ce13ccf31", func := "loop.example/g01267/laws.FnExactTensorAlgebras", spec := "fnExactTensorAlgebras", plainKeys := false, apart := false }
def FnExactTensorAlgebrasSaid : Prop := fnExactTensorAlgebrasRow.holds Try.pinned (OpenSpec.ofChange fnExactTensorAlgebrasSpec)

/-- ITS FALSE NEIGHBOUR: 'it returns false'. Refute it at one input. -/
def fnExactTensorAlgebrasWrong : ChangeSpec := { name := "fnExactTensorAlgebras", fn := fun _ => fun
  | [d1, d2] => { results := [.lit (.bool false)], args := [d1, d2] }
  | _ => none }
def FnExactTensorAlgebrasWrongFalsely : Prop := fnExactTensorAlgebrasRow.holds Try.pinned (OpenSpec.ofChange fnExactTensorAlgebrasWrong)

/-- 'laws.FnExactNamedAlgebra': WHATEVER THE INPUT: true; the input reads as it did. -/
def fnExactNamedAlgebraSpec : ChangeSpec := { name := "fnExactNamedAlgebra", fn := fun _ => fun
  | [d1, d2] => { results := [.lit (.bool true)], args := [d1, d2] }
  | _ => none }
def fnExactNamedAlgebraRow : OpenClaim := { program := "ytkamkdhinmdaeaa", sum := "6489ac5372dbc46d88ea320e3f18dfe84c6ef7d3d7ef24eddaa3cc8ce13ccf31", func := "loop.example/g01267/laws.FnExactNamedAlgebra", spec := "fnExactNamedAlgebra", unfollowed := true, recurses := true, plainKeys := false, apart := false }
def FnExactNamedAlgebraSaid : Prop := fnExactNamedAlgebraRow.holds Try.pinned (OpenSpec.ofChange fnExactNamedAlgebraSpec)

/-- ITS FALSE NEIGHBOUR: 'it returns false'. Refute it at one input. -/
def fnExactNamedAlgebraWrong : ChangeSpec := { name := "fnExactNamedAlgebra", fn := fun _ => fun
  | [d1, d2] => { results := [.lit (.bool false)], args := [d1, d2] }
  | _ => none }
def FnExactNamedAlgebraWrongFalsely : Prop := fnExactNamedAlgebraRow.holds Try.pinned (OpenSpec.ofChange fnExactNamedAlgebraWrong)

/-- 'laws.FnExactAlgebraNames': WHATEVER THE INPUT: true; the input reads as it did. -/
def fnExactAlgebraNamesSpec : ChangeSpec := { name := "fnExactAlgebraNames", fn := fun _ => fun
  | [] => { results := [.lit (.bool true)], args := [] }
  | _ => none }
def fnExactAlgebraNamesRow : OpenClaim := { program := "ytkamkdhinmdaeaa", sum := "6489ac5372dbc46d88ea320e3f18dfe84c6ef7d3d7ef24eddaa3cc8ce13ccf31", func := "loop.example/g01267/laws.FnExactAlgebraNames", spec := "fnExactAlgebraNames", plainKeys := false, apart := false }
def FnExactAlgebraNamesSaid : Prop := fnExactAlgebraNamesRow.holds Try.pinned (OpenSpec.ofChange fnExactAlgebraNamesSpec)

/-- ITS FALSE NEIGHBOUR: 'it returns false'. Refute it at one input. -/
def fnExactAlgebraNamesWrong : ChangeSpec := { name := "fnExactAlgebraNames", fn := fun _ => fun
  | [] => { results := [.lit (.bool false)], args := [] }
  | _ => none }
def FnExactAlgebraNamesWrongFalsely : Prop := fnExactAlgebraNamesRow.holds Try.pinned (OpenSpec.ofChange fnExactAlgebraNamesWrong)

/-- 'laws.FnExactVectorText': WHATEVER THE INPUT: true; the input reads as it did. -/
def fnExactVectorTextSpec : ChangeSpec := { name := "fnExactVectorText", fn := fun _ => fun
  | [d1, d2] => { results := [.lit (.bool true)], args := [d1, d2] }
  | _ => none }
def fnExactVectorTextRow : OpenClaim := { program := "ytkamkdhinmdaeaa", sum := "6489ac5372dbc46d88ea320e3f18dfe84c6ef7d3d7ef24eddaa3cc8ce13ccf31", func := "loop.example/g01267/laws.FnExactVectorText", spec := "fnExactVectorText", plainKeys := false, apart := false }
def FnExactVectorTextSaid : Prop := fnExactVectorTextRow.holds Try.pinned (OpenSpec.ofChange fnExactVectorTextSpec)

/-- ITS FALSE NEIGHBOUR: 'it returns false'. Refute it at one input. -/
def fnExactVectorTextWrong : ChangeSpec := { name := "fnExactVectorText", fn := fun _ => fun
  | [d1, d2] => { results := [.lit (.bool false)], args := [d1, d2] }
  | _ => none }
def FnExactVectorTextWrongFalsely : Prop := fnExactVectorTextRow.holds Try.pinned (OpenSpec.ofChange fnExactVectorTextWrong)

/-- 'laws.FnExactParseVector': WHATEVER THE INPUT: true; the input reads as it did. -/
def fnExactParseVectorSpec : ChangeSpec := { name := "fnExactParseVector", fn := fun _ => fun
  | [d1, d2] => { results := [.lit (.bool true)], args := [d1, d2] }
  | _ => none }
def fnExactParseVectorRow : OpenClaim := { program := "ytkamkdhinmdaeaa", sum := "6489ac5372dbc46d88ea320e3f18dfe84c6ef7d3d7ef24eddaa3cc8ce13ccf31", func := "loop.example/g01267/laws.FnExactParseVector", spec := "fnExactParseVector", inPlace := ["internal/bytealg.IndexByteString"], plainKeys := false, apart := false }
def FnExactParseVectorSaid : Prop := fnExactParseVectorRow.holds Try.pinned (OpenSpec.ofChange fnExactParseVectorSpec)

/-- ITS FALSE NEIGHBOUR: 'it returns false'. Refute it at one input. -/
def fnExactParseVectorWrong : ChangeSpec := { name := "fnExactParseVector", fn := fun _ => fun
  | [d1, d2] => { results := [.lit (.bool false)], args := [d1, d2] }
  | _ => none }
def FnExactParseVectorWrongFalsely : Prop := fnExactParseVectorRow.holds Try.pinned (OpenSpec.ofChange fnExactParseVectorWrong)

/- THE SECOND FORM. 'bulk': how many values and letters a reading holds, each counted each time it is reached (what is shared counts as often as it is met; a slice's spare places count too). A statement '..UptoSaid' is the law's where the arguments, and the package variables that the reading takes, are together of bulk at most 1048576: NARROWER than '..Said'. Prove '..Said' where nothing that the law and all that it calls make is longer than what came in: it says more and counts as full. Else prove '..UptoSaid'. A law counts once. -/
mutual
def uptoBulk {H : Type} : DataW H → Nat
  | .lit (.string bytes) => bytes.length + 1
  | .lit _ => 1
  | .nil => 1
  | .ptr d => uptoBulk d + 1
  | .slice elems spare => uptoBulkAll elems + uptoBulkAll spare + 1
  | .agg parts => uptoBulkAll parts + 1
  | .iface _ d => uptoBulk d + 1
  | .map entries => uptoBulkEntries entries + 1
  | .held _ => 1
def uptoBulkAll {H : Type} : List (DataW H) → Nat
  | [] => 0
  | d :: r => uptoBulk d + uptoBulkAll r
def uptoBulkEntries {H : Type} : List (Lit × DataW H) → Nat
  | [] => 0
  | x :: r => uptoBulkEntry x + uptoBulkEntries r
def uptoBulkEntry {H : Type} : Lit × DataW H → Nat
  | (.string bytes, d) => bytes.length + uptoBulk d + 1
  | (_, d) => uptoBulk d + 1
 end
def uptoSmall : (H : Type) → List (DataW H) → Bool := fun _ ds => decide (uptoBulkAll ds ≤ 1048576)
def OpenSpec.upto (s : _root_.Go.ChangeSpec) : _root_.Go.OpenSpec := { _root_.Go.OpenSpec.ofChange s with cond := some uptoSmall }

/-- 'laws.FnProducts', WHERE WHAT IT READS IS OF BULK AT MOST 1048576: true; the input reads as it did. -/
def fnProductsUptoRow : OpenClaim := { program := "ytkamkdhinmdaeaa", sum := "6489ac5372dbc46d88ea320e3f18dfe84c6ef7d3d7ef24eddaa3cc8ce13ccf31", func := "loop.example/g01267/laws.FnProducts", spec := "fnProducts", plainKeys := false, apart := false, narrowed := true }
def FnProductsUptoSaid : Prop := fnProductsUptoRow.holds Try.pinned (OpenSpec.upto fnProductsSpec)

/-- 'laws.FnSums', WHERE WHAT IT READS IS OF BULK AT MOST 1048576: true; the input reads as it did. -/
def fnSumsUptoRow : OpenClaim := { program := "ytkamkdhinmdaeaa", sum := "6489ac5372dbc46d88ea320e3f18dfe84c6ef7d3d7ef24eddaa3cc8ce13ccf31", func := "loop.example/g01267/laws.FnSums", spec := "fnSums", plainKeys := false, apart := false, narrowed := true }
def FnSumsUptoSaid : Prop := fnSumsUptoRow.holds Try.pinned (OpenSpec.upto fnSumsSpec)

/-- 'laws.FnExactIsAlgebra', WHERE WHAT IT READS IS OF BULK AT MOST 1048576: true; the input reads as it did. -/
def fnExactIsAlgebraUptoRow : OpenClaim := { program := "ytkamkdhinmdaeaa", sum := "6489ac5372dbc46d88ea320e3f18dfe84c6ef7d3d7ef24eddaa3cc8ce13ccf31", func := "loop.example/g01267/laws.FnExactIsAlgebra", spec := "fnExactIsAlgebra", plainKeys := false, apart := false, narrowed := true }
def FnExactIsAlgebraUptoSaid : Prop := fnExactIsAlgebraUptoRow.holds Try.pinned (OpenSpec.upto fnExactIsAlgebraSpec)

/-- 'laws.FnExactIsCommutative', WHERE WHAT IT READS IS OF BULK AT MOST 1048576: true; the input reads as it did. -/
def fnExactIsCommutativeUptoRow : OpenClaim := { program := "ytkamkdhinmdaeaa", sum := "6489ac5372dbc46d88ea320e3f18dfe84c6ef7d3d7ef24eddaa3cc8ce13ccf31", func := "loop.example/g01267/laws.FnExactIsCommutative", spec := "fnExactIsCommutative", plainKeys := false, apart := false, narrowed := true }
def FnExactIsCommutativeUptoSaid : Prop := fnExactIsCommutativeUptoRow.holds Try.pinned (OpenSpec.upto fnExactIsCommutativeSpec)

/-- 'laws.FnExactIsFrobenius', WHERE WHAT IT READS IS OF BULK AT MOST 1048576: true; the input reads as it did. -/
def fnExactIsFrobeniusUptoRow : OpenClaim := { program := "ytkamkdhinmdaeaa", sum := "6489ac5372dbc46d88ea320e3f18dfe84c6ef7d3d7ef24eddaa3cc8ce13ccf31", func := "loop.example/g01267/laws.FnExactIsFrobenius", spec := "fnExactIsFrobenius", plainKeys := false, apart := false, narrowed := true }
def FnExactIsFrobeniusUptoSaid : Prop := fnExactIsFrobeniusUptoRow.holds Try.pinned (OpenSpec.upto fnExactIsFrobeniusSpec)

/-- 'laws.FnExactMultiplyVectors', WHERE WHAT IT READS IS OF BULK AT MOST 1048576: true; the input reads as it did. -/
def fnExactMultiplyVectorsUptoRow : OpenClaim := { program := "ytkamkdhinmdaeaa", sum := "6489ac5372dbc46d88ea320e3f18dfe84c6ef7d3d7ef24eddaa3cc8ce13ccf31", func := "loop.example/g01267/laws.FnExactMultiplyVectors", spec := "fnExactMultiplyVectors", plainKeys := false, apart := false, narrowed := true }
def FnExactMultiplyVectorsUptoSaid : Prop := fnExactMultiplyVectorsUptoRow.holds Try.pinned (OpenSpec.upto fnExactMultiplyVectorsSpec)

/-- 'laws.FnExactAddVectors', WHERE WHAT IT READS IS OF BULK AT MOST 1048576: true; the input reads as it did. -/
def fnExactAddVectorsUptoRow : OpenClaim := { program := "ytkamkdhinmdaeaa", sum := "6489ac5372dbc46d88ea320e3f18dfe84c6ef7d3d7ef24eddaa3cc8ce13ccf31", func := "loop.example/g01267/laws.FnExactAddVectors", spec := "fnExactAddVectors", plainKeys := false, apart := false, narrowed := true }
def FnExactAddVectorsUptoSaid : Prop := fnExactAddVectorsUptoRow.holds Try.pinned (OpenSpec.upto fnExactAddVectorsSpec)

/-- 'laws.FnExactPowerVector', WHERE WHAT IT READS IS OF BULK AT MOST 1048576: true; the input reads as it did. -/
def fnExactPowerVectorUptoRow : OpenClaim := { program := "ytkamkdhinmdaeaa", sum := "6489ac5372dbc46d88ea320e3f18dfe84c6ef7d3d7ef24eddaa3cc8ce13ccf31", func := "loop.example/g01267/laws.FnExactPowerVector", spec := "fnExactPowerVector", plainKeys := false, apart := false, narrowed := true }
def FnExactPowerVectorUptoSaid : Prop := fnExactPowerVectorUptoRow.holds Try.pinned (OpenSpec.upto fnExactPowerVectorSpec)

/-- 'laws.FnExactUnitOf', WHERE WHAT IT READS IS OF BULK AT MOST 1048576: true; the input reads as it did. -/
def fnExactUnitOfUptoRow : OpenClaim := { program := "ytkamkdhinmdaeaa", sum := "6489ac5372dbc46d88ea320e3f18dfe84c6ef7d3d7ef24eddaa3cc8ce13ccf31", func := "loop.example/g01267/laws.FnExactUnitOf", spec := "fnExactUnitOf", plainKeys := false, apart := false, narrowed := true }
def FnExactUnitOfUptoSaid : Prop := fnExactUnitOfUptoRow.holds Try.pinned (OpenSpec.upto fnExactUnitOfSpec)

/-- 'laws.FnExactFormOf', WHERE WHAT IT READS IS OF BULK AT MOST 1048576: true; the input reads as it did. -/
def fnExactFormOfUptoRow : OpenClaim := { program := "ytkamkdhinmdaeaa", sum := "6489ac5372dbc46d88ea320e3f18dfe84c6ef7d3d7ef24eddaa3cc8ce13ccf31", func := "loop.example/g01267/laws.FnExactFormOf", spec := "fnExactFormOf", plainKeys := false, apart := false, narrowed := true }
def FnExactFormOfUptoSaid : Prop := fnExactFormOfUptoRow.holds Try.pinned (OpenSpec.upto fnExactFormOfSpec)

/-- 'laws.FnExactInverseVector', WHERE WHAT IT READS IS OF BULK AT MOST 1048576: true; the input reads as it did. -/
def fnExactInverseVectorUptoRow : OpenClaim := { program := "ytkamkdhinmdaeaa", sum := "6489ac5372dbc46d88ea320e3f18dfe84c6ef7d3d7ef24eddaa3cc8ce13ccf31", func := "loop.example/g01267/laws.FnExactInverseVector", spec := "fnExactInverseVector", plainKeys := false, apart := false, narrowed := true }
def FnExactInverseVectorUptoSaid : Prop := fnExactInverseVectorUptoRow.holds Try.pinned (OpenSpec.upto fnExactInverseVectorSpec)

/-- 'laws.FnExactCentreOf', WHERE WHAT IT READS IS OF BULK AT MOST 1048576: true; the input reads as it did. -/
def fnExactCentreOfUptoRow : OpenClaim := { program := "ytkamkdhinmdaeaa", sum := "6489ac5372dbc46d88ea320e3f18dfe84c6ef7d3d7ef24eddaa3cc8ce13ccf31", func := "loop.example/g01267/laws.FnExactCentreOf", spec := "fnExactCentreOf", plainKeys := false, apart := false, narrowed := true }
def FnExactCentreOfUptoSaid : Prop := fnExactCentreOfUptoRow.holds Try.pinned (OpenSpec.upto fnExactCentreOfSpec)

/-- 'laws.FnExactOppositeAlgebra', WHERE WHAT IT READS IS OF BULK AT MOST 1048576: true; the input reads as it did. -/
def fnExactOppositeAlgebraUptoRow : OpenClaim := { program := "ytkamkdhinmdaeaa", sum := "6489ac5372dbc46d88ea320e3f18dfe84c6ef7d3d7ef24eddaa3cc8ce13ccf31", func := "loop.example/g01267/laws.FnExactOppositeAlgebra", spec := "fnExactOppositeAlgebra", plainKeys := false, apart := false, narrowed := true }
def FnExactOppositeAlgebraUptoSaid : Prop := fnExactOppositeAlgebraUptoRow.holds Try.pinned (OpenSpec.upto fnExactOppositeAlgebraSpec)

/-- 'laws.FnExactAddAlgebras', WHERE WHAT IT READS IS OF BULK AT MOST 1048576: true; the input reads as it did. -/
def fnExactAddAlgebrasUptoRow : OpenClaim := { program := "ytkamkdhinmdaeaa", sum := "6489ac5372dbc46d88ea320e3f18dfe84c6ef7d3d7ef24eddaa3cc8ce13ccf31", func := "loop.example/g01267/laws.FnExactAddAlgebras", spec := "fnExactAddAlgebras", plainKeys := false, apart := false, narrowed := true }
def FnExactAddAlgebrasUptoSaid : Prop := fnExactAddAlgebrasUptoRow.holds Try.pinned (OpenSpec.upto fnExactAddAlgebrasSpec)

/-- 'laws.FnExactTensorAlgebras', WHERE WHAT IT READS IS OF BULK AT MOST 1048576: true; the input reads as it did. -/
def fnExactTensorAlgebrasUptoRow : OpenClaim := { program := "ytkamkdhinmdaeaa", sum := "6489ac5372dbc46d88ea320e3f18dfe84c6ef7d3d7ef24eddaa3cc8ce13ccf31", func := "loop.example/g01267/laws.FnExactTensorAlgebras", spec := "fnExactTensorAlgebras", plainKeys := false, apart := false, narrowed := true }
def FnExactTensorAlgebrasUptoSaid : Prop := fnExactTensorAlgebrasUptoRow.holds Try.pinned (OpenSpec.upto fnExactTensorAlgebrasSpec)

/-- 'laws.FnExactNamedAlgebra', WHERE WHAT IT READS IS OF BULK AT MOST 1048576: true; the input reads as it did. -/
def fnExactNamedAlgebraUptoRow : OpenClaim := { program := "ytkamkdhinmdaeaa", sum := "6489ac5372dbc46d88ea320e3f18dfe84c6ef7d3d7ef24eddaa3cc8ce13ccf31", func := "loop.example/g01267/laws.FnExactNamedAlgebra", spec := "fnExactNamedAlgebra", unfollowed := true, recurses := true, plainKeys := false, apart := false, narrowed := true }
def FnExactNamedAlgebraUptoSaid : Prop := fnExactNamedAlgebraUptoRow.holds Try.pinned (OpenSpec.upto fnExactNamedAlgebraSpec)

/-- 'laws.FnExactAlgebraNames', WHERE WHAT IT READS IS OF BULK AT MOST 1048576: true; the input reads as it did. -/
def fnExactAlgebraNamesUptoRow : OpenClaim := { program := "ytkamkdhinmdaeaa", sum := "6489ac5372dbc46d88ea320e3f18dfe84c6ef7d3d7ef24eddaa3cc8ce13ccf31", func := "loop.example/g01267/laws.FnExactAlgebraNames", spec := "fnExactAlgebraNames", plainKeys := false, apart := false, narrowed := true }
def FnExactAlgebraNamesUptoSaid : Prop := fnExactAlgebraNamesUptoRow.holds Try.pinned (OpenSpec.upto fnExactAlgebraNamesSpec)

/-- 'laws.FnExactVectorText', WHERE WHAT IT READS IS OF BULK AT MOST 1048576: true; the input reads as it did. -/
def fnExactVectorTextUptoRow : OpenClaim := { program := "ytkamkdhinmdaeaa", sum := "6489ac5372dbc46d88ea320e3f18dfe84c6ef7d3d7ef24eddaa3cc8ce13ccf31", func := "loop.example/g01267/laws.FnExactVectorText", spec := "fnExactVectorText", plainKeys := false, apart := false, narrowed := true }
def FnExactVectorTextUptoSaid : Prop := fnExactVectorTextUptoRow.holds Try.pinned (OpenSpec.upto fnExactVectorTextSpec)

/-- 'laws.FnExactParseVector', WHERE WHAT IT READS IS OF BULK AT MOST 1048576: true; the input reads as it did. -/
def fnExactParseVectorUptoRow : OpenClaim := { program := "ytkamkdhinmdaeaa", sum := "6489ac5372dbc46d88ea320e3f18dfe84c6ef7d3d7ef24eddaa3cc8ce13ccf31", func := "loop.example/g01267/laws.FnExactParseVector", spec := "fnExactParseVector", inPlace := ["internal/bytealg.IndexByteString"], plainKeys := false, apart := false, narrowed := true }
def FnExactParseVectorUptoSaid : Prop := fnExactParseVectorUptoRow.holds Try.pinned (OpenSpec.upto fnExactParseVectorSpec)

end Rows
end Go.Proofs.Ytkamkdhinmdaeaa
