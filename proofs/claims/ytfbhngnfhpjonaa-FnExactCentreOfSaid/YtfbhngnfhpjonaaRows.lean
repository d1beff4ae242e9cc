/-
  No cell of these rows narrows 'for every input' (looked for: loops, veiled, ifaces, maps, wideKeys, modest, calm, conditions, laid).
  DERIVED. THE GIVEN ROWS OF THIS SEAT. 5 by the template 'for every input the law returns true; each argument reads behind the call as it read before'; 0 by the template 'total and deterministic' (their statements: YtfbhngnfhpjonaaTotals.lean).
  GIVEN WITH THE SEED: the statements are not yours to turn. If you find one false, say at which input.
  Laid BY PROGRAM, IN A SANDBOX (cutbox-rows.mjs): the forced cells as the released guide's own fill.sh prints them over the translation 71dd7dfb5a960753… (all of the seat's roots in one cut). By AI agents, Wed Nov 11 2026. No macro, syntax, notation, axiom, sorry.
-/
import Derived.Test.YtfbhngnfhpjonaaChecked
import GoSem.Claim
import GoSem.ClaimJoined
import GoSem.ClaimMapViews
import Derived.JoinedTies
import Derived.KernelRfl
namespace Go.Proofs.Ytfbhngnfhpjonaa
/- THE CELL 'sum', in the pinned program and in every row, IS THE sha256 OF THE DUMP (.gsa) THAT YtfbhngnfhpjonaaProg.lean LOADS. Nothing in Lean hashes anything: it is a label: what it is worth is what the hold of that sum in a sandbox is worth. -/
noncomputable def Try.pinned : Pinned := { name := "ytfbhngnfhpjonaa", sum := "71dd7dfb5a960753f3a3159088e100361c3c9da87a29be88ce715b5279b6cacb", checked := Try.checked }
namespace Rows
def none {H : Type} : Left H := { results := [], args := [] }

/-- 'laws.FnExactNakayamaOf': WHATEVER THE INPUT: true; the input reads as it did. -/
def fnExactNakayamaOfSpec : ChangeSpec := { name := "fnExactNakayamaOf", fn := fun _ => fun
  | [d] => { results := [.lit (.bool true)], args := [d] }
  | _ => none }
def fnExactNakayamaOfRow : OpenClaim := { program := "ytfbhngnfhpjonaa", sum := "71dd7dfb5a960753f3a3159088e100361c3c9da87a29be88ce715b5279b6cacb", func := "loop.example/g01267/laws.FnExactNakayamaOf", spec := "fnExactNakayamaOf", plainKeys := false, apart := false }
def FnExactNakayamaOfSaid : Prop := fnExactNakayamaOfRow.holds Try.pinned (OpenSpec.ofChange fnExactNakayamaOfSpec)

/-- ITS FALSE NEIGHBOUR: 'it returns false'. Refute it at one input. -/
def fnExactNakayamaOfWrong : ChangeSpec := { name := "fnExactNakayamaOf", fn := fun _ => fun
  | [d] => { results := [.lit (.bool false)], args := [d] }
  | _ => none }
def FnExactNakayamaOfWrongFalsely : Prop := fnExactNakayamaOfRow.holds Try.pinned (OpenSpec.ofChange fnExactNakayamaOfWrong)

/-- 'laws.FnExactGenusNumber': WHATEVER THE INPUT: true; the input reads as it did. -/
def fnExactGenusNumberSpec : ChangeSpec := { name := "fnExactGenusNumber", fn := fun _ => fun
  | [d1, d2] => { results := [.lit (.bool true)], args := [d1, d2] }
  | _ => none }
def fnExactGenusNumberRow : OpenClaim := { program := "ytfbhngnfhpjonaa", sum := "71dd7dfb5a960753f3a3159088e100361c3c9da87a29be88ce715b5279b6cacb", func := "loop.example/g01267/laws.FnExactGenusNumber", spec := "fnExactGenusNumber", plainKeys := false, apart := false }
def FnExactGenusNumberSaid : Prop := fnExactGenusNumberRow.holds Try.pinned (OpenSpec.ofChange fnExactGenusNumberSpec)

/-- ITS FALSE NEIGHBOUR: 'it returns false'. Refute it at one input. -/
def fnExactGenusNumberWrong : ChangeSpec := { name := "fnExactGenusNumber", fn := fun _ => fun
  | [d1, d2] => { results := [.lit (.bool false)], args := [d1, d2] }
  | _ => none }
def FnExactGenusNumberWrongFalsely : Prop := fnExactGenusNumberRow.holds Try.pinned (OpenSpec.ofChange fnExactGenusNumberWrong)

/-- 'laws.FnExactLegNumber': WHATEVER THE INPUT: true; the input reads as it did. -/
def fnExactLegNumberSpec : ChangeSpec := { name := "fnExactLegNumber", fn := fun _ => fun
  | [d1, d2, d3] => { results := [.lit (.bool true)], args := [d1, d2, d3] }
  | _ => none }
def fnExactLegNumberRow : OpenClaim := { program := "ytfbhngnfhpjonaa", sum := "71dd7dfb5a960753f3a3159088e100361c3c9da87a29be88ce715b5279b6cacb", func := "loop.example/g01267/laws.FnExactLegNumber", spec := "fnExactLegNumber", plainKeys := false, apart := false }
def FnExactLegNumberSaid : Prop := fnExactLegNumberRow.holds Try.pinned (OpenSpec.ofChange fnExactLegNumberSpec)

/-- ITS FALSE NEIGHBOUR: 'it returns false'. Refute it at one input. -/
def fnExactLegNumberWrong : ChangeSpec := { name := "fnExactLegNumber", fn := fun _ => fun
  | [d1, d2, d3] => { results := [.lit (.bool false)], args := [d1, d2, d3] }
  | _ => none }
def FnExactLegNumberWrongFalsely : Prop := fnExactLegNumberRow.holds Try.pinned (OpenSpec.ofChange fnExactLegNumberWrong)

/-- 'laws.FnExactCentreOf': WHATEVER THE INPUT: true; the input reads as it did. -/
def fnExactCentreOfSpec : ChangeSpec := { name := "fnExactCentreOf", fn := fun _ => fun
  | [d] => { results := [.lit (.bool true)], args := [d] }
  | _ => none }
def fnExactCentreOfRow : OpenClaim := { program := "ytfbhngnfhpjonaa", sum := "71dd7dfb5a960753f3a3159088e100361c3c9da87a29be88ce715b5279b6cacb", func := "loop.example/g01267/laws.FnExactCentreOf", spec := "fnExactCentreOf", plainKeys := false, apart := false }
def FnExactCentreOfSaid : Prop := fnExactCentreOfRow.holds Try.pinned (OpenSpec.ofChange fnExactCentreOfSpec)

/-- ITS FALSE NEIGHBOUR: 'it returns false'. Refute it at one input. -/
def fnExactCentreOfWrong : ChangeSpec := { name := "fnExactCentreOf", fn := fun _ => fun
  | [d] => { results := [.lit (.bool false)], args := [d] }
  | _ => none }
def FnExactCentreOfWrongFalsely : Prop := fnExactCentreOfRow.holds Try.pinned (OpenSpec.ofChange fnExactCentreOfWrong)

/-- 'laws.FnExactCoproductTensor': WHATEVER THE INPUT: true; the input reads as it did. -/
def fnExactCoproductTensorSpec : ChangeSpec := { name := "fnExactCoproductTensor", fn := fun _ => fun
  | [d] => { results := [.lit (.bool true)], args := [d] }
  | _ => none }
def fnExactCoproductTensorRow : OpenClaim := { program := "ytfbhngnfhpjonaa", sum := "71dd7dfb5a960753f3a3159088e100361c3c9da87a29be88ce715b5279b6cacb", func := "loop.example/g01267/laws.FnExactCoproductTensor", spec := "fnExactCoproductTensor", plainKeys := false, apart := false }
def FnExactCoproductTensorSaid : Prop := fnExactCoproductTensorRow.holds Try.pinned (OpenSpec.ofChange fnExactCoproductTensorSpec)

/-- ITS FALSE NEIGHBOUR: 'it returns false'. Refute it at one input. -/
def fnExactCoproductTensorWrong : ChangeSpec := { name := "fnExactCoproductTensor", fn := fun _ => fun
  | [d] => { results := [.lit (.bool false)], args := [d] }
  | _ => none }
def FnExactCoproductTensorWrongFalsely : Prop := fnExactCoproductTensorRow.holds Try.pinned (OpenSpec.ofChange fnExactCoproductTensorWrong)

/- THE SECOND FORM. 'bulk': how many values and letters a reading holds, each counted each time it is reached (what is shared counts as often as it is met; a slice's spare places count too). A statement '..UptoSaid' is the law's where the arguments, and the package variables that the reading takes, are together of bulk at most 1048576: NARROWER than '..Said'. Prove '..Said' where nothing that the law and all that it calls make is longer than what came in: it says more and counts as full. Else prove '..UptoSaid'. A law counts once. -/
mutual
def uptoBulk {H : Type} : DataW H → Nat
  | .lit (.string bytes) => bytes.length + 1
  | .lit _ => 1
  | .nil => 1
  | .ptr d => uptoBulk d + 1
  | .slice elems spare => uptoBulkAll elems + uptoBulkAll spare + 1
  | .agg parts => uptoBulkAll parts + 1
  | .iface _ d => uptoBulk d + 1
  | .map entries => uptoBulkEntries entries + 1
  | .held _ => 1
def uptoBulkAll {H : Type} : List (DataW H) → Nat
  | [] => 0
  | d :: r => uptoBulk d + uptoBulkAll r
def uptoBulkEntries {H : Type} : List (Lit × DataW H) → Nat
  | [] => 0
  | x :: r => uptoBulkEntry x + uptoBulkEntries r
def uptoBulkEntry {H : Type} : Lit × DataW H → Nat
  | (.string bytes, d) => bytes.length + uptoBulk d + 1
  | (_, d) => uptoBulk d + 1
 end
def uptoSmall : (H : Type) → List (DataW H) → Bool := fun _ ds => decide (uptoBulkAll ds ≤ 1048576)
def OpenSpec.upto (s : _root_.Go.ChangeSpec) : _root_.Go.OpenSpec := { _root_.Go.OpenSpec.ofChange s with cond := some uptoSmall }

/-- 'laws.FnExactNakayamaOf', WHERE WHAT IT READS IS OF BULK AT MOST 1048576: true; the input reads as it did. -/
def fnExactNakayamaOfUptoRow : OpenClaim := { program := "ytfbhngnfhpjonaa", sum := "71dd7dfb5a960753f3a3159088e100361c3c9da87a29be88ce715b5279b6cacb", func := "loop.example/g01267/laws.FnExactNakayamaOf", spec := "fnExactNakayamaOf", plainKeys := false, apart := false, narrowed := true }
def FnExactNakayamaOfUptoSaid : Prop := fnExactNakayamaOfUptoRow.holds Try.pinned (OpenSpec.upto fnExactNakayamaOfSpec)

/-- 'laws.FnExactGenusNumber', WHERE WHAT IT READS IS OF BULK AT MOST 1048576: true; the input reads as it did. -/
def fnExactGenusNumberUptoRow : OpenClaim := { program := "ytfbhngnfhpjonaa", sum := "71dd7dfb5a960753f3a3159088e100361c3c9da87a29be88ce715b5279b6cacb", func := "loop.example/g01267/laws.FnExactGenusNumber", spec := "fnExactGenusNumber", plainKeys := false, apart := false, narrowed := true }
def FnExactGenusNumberUptoSaid : Prop := fnExactGenusNumberUptoRow.holds Try.pinned (OpenSpec.upto fnExactGenusNumberSpec)

/-- 'laws.FnExactLegNumber', WHERE WHAT IT READS IS OF BULK AT MOST 1048576: true; the input reads as it did. -/
def fnExactLegNumberUptoRow : OpenClaim := { program := "ytfbhngnfhpjonaa", sum := "71dd7dfb5a960753f3a3159088e100361c3c9da87a29be88ce715b5279b6cacb", func := "loop.example/g01267/laws.FnExactLegNumber", spec := "fnExactLegNumber", plainKeys := false, apart := false, narrowed := true }
def FnExactLegNumberUptoSaid : Prop := fnExactLegNumberUptoRow.holds Try.pinned (OpenSpec.upto fnExactLegNumberSpec)

/-- 'laws.FnExactCentreOf', WHERE WHAT IT READS IS OF BULK AT MOST 1048576: true; the input reads as it did. -/
def fnExactCentreOfUptoRow : OpenClaim := { program := "ytfbhngnfhpjonaa", sum := "71dd7dfb5a960753f3a3159088e100361c3c9da87a29be88ce715b5279b6cacb", func := "loop.example/g01267/laws.FnExactCentreOf", spec := "fnExactCentreOf", plainKeys := false, apart := false, narrowed := true }
def FnExactCentreOfUptoSaid : Prop := fnExactCentreOfUptoRow.holds Try.pinned (OpenSpec.upto fnExactCentreOfSpec)

/-- 'laws.FnExactCoproductTensor', WHERE WHAT IT READS IS OF BULK AT MOST 1048576: true; the input reads as it did. -/
def fnExactCoproductTensorUptoRow : OpenClaim := { program := "ytfbhngnfhpjonaa", sum := "71dd7dfb5a960753f3a3159088e100361c3c9da87a29be88ce715b5279b6cacb", func := "loop.example/g01267/laws.FnExactCoproductTensor", spec := "fnExactCoproductTensor", plainKeys := false, apart := false, narrowed := true }
def FnExactCoproductTensorUptoSaid : Prop := fnExactCoproductTensorUptoRow.holds Try.pinned (OpenSpec.upto fnExactCoproductTensorSpec)

end Rows
end Go.Proofs.Ytfbhngnfhpjonaa
