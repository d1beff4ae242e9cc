/-
  No cell of these rows narrows 'for every input' (looked for: loops, veiled, ifaces, maps, wideKeys, modest, calm, conditions, laid).
  DERIVED. THE GIVEN ROWS OF THIS SEAT. 5 by the template 'for every input the law returns true; each argument reads behind the call as it read before'; 0 by the template 'total and deterministic' (their statements: YtkcneleabbjkaaaTotals.lean).
  GIVEN WITH THE SEED: the statements are not yours to turn. If you find one false, say at which input.
  Laid BY PROGRAM, IN A SANDBOX (cutbox-rows.mjs): the forced cells as the released guide's own fill.sh prints them over the translation 0e8f3df60d5bca20… (all of the seat's roots in one cut). By AI agents, Wed Nov 11 2026. No macro, syntax, notation, axiom, sorry.
-/
import Derived.Test.YtkcneleabbjkaaaChecked
import GoSem.Claim
import GoSem.ClaimJoined
import GoSem.ClaimMapViews
import Derived.JoinedTies
import Derived.KernelRfl
namespace Go.Proofs.Ytkcneleabbjkaaa
/- THE CELL 'sum', in the pinned program and in every row, IS THE sha256 OF THE DUMP (.gsa) THAT YtkcneleabbjkaaaProg.lean LOADS. Nothing in Lean hashes anything: it is a label: what it is worth is what the hold of that sum in a sandbox is worth. -/
noncomputable def Try.pinned : Pinned := { name := "ytkcneleabbjkaaa", sum := "0e8f3df60d5bca200480723a961727078beb054790c8f3710c04bc2a14a5341c", checked := Try.checked }
namespace Rows
def none {H : Type} : Left H := { results := [], args := [] }

/-- 'laws.FnProducts': WHATEVER THE INPUT: true; the input reads as it did. -/
def fnProductsSpec : ChangeSpec := { name := "fnProducts", fn := fun _ => fun
  | [d] => { results := [.lit (.bool true)], args := [d] }
  | _ => none }
def fnProductsRow : OpenClaim := { program := "ytkcneleabbjkaaa", sum := "0e8f3df60d5bca200480723a961727078beb054790c8f3710c04bc2a14a5341c", func := "loop.example/g01267/laws.FnProducts", spec := "fnProducts", plainKeys := false, apart := false }
def FnProductsSaid : Prop := fnProductsRow.holds Try.pinned (OpenSpec.ofChange fnProductsSpec)

/-- ITS FALSE NEIGHBOUR: 'it returns false'. Refute it at one input. -/
def fnProductsWrong : ChangeSpec := { name := "fnProducts", fn := fun _ => fun
  | [d] => { results := [.lit (.bool false)], args := [d] }
  | _ => none }
def FnProductsWrongFalsely : Prop := fnProductsRow.holds Try.pinned (OpenSpec.ofChange fnProductsWrong)

/-- 'laws.FnSums': WHATEVER THE INPUT: true; the input reads as it did. -/
def fnSumsSpec : ChangeSpec := { name := "fnSums", fn := fun _ => fun
  | [d] => { results := [.lit (.bool true)], args := [d] }
  | _ => none }
def fnSumsRow : OpenClaim := { program := "ytkcneleabbjkaaa", sum := "0e8f3df60d5bca200480723a961727078beb054790c8f3710c04bc2a14a5341c", func := "loop.example/g01267/laws.FnSums", spec := "fnSums", plainKeys := false, apart := false }
def FnSumsSaid : Prop := fnSumsRow.holds Try.pinned (OpenSpec.ofChange fnSumsSpec)

/-- ITS FALSE NEIGHBOUR: 'it returns false'. Refute it at one input. -/
def fnSumsWrong : ChangeSpec := { name := "fnSums", fn := fun _ => fun
  | [d] => { results := [.lit (.bool false)], args := [d] }
  | _ => none }
def FnSumsWrongFalsely : Prop := fnSumsRow.holds Try.pinned (OpenSpec.ofChange fnSumsWrong)

/-- 'laws.FnForms': WHATEVER THE INPUT: true; the input reads as it did. -/
def fnFormsSpec : ChangeSpec := { name := "fnForms", fn := fun _ => fun
  | [d] => { results := [.lit (.bool true)], args := [d] }
  | _ => none }
def fnFormsRow : OpenClaim := { program := "ytkcneleabbjkaaa", sum := "0e8f3df60d5bca200480723a961727078beb054790c8f3710c04bc2a14a5341c", func := "loop.example/g01267/laws.FnForms", spec := "fnForms", plainKeys := false, apart := false }
def FnFormsSaid : Prop := fnFormsRow.holds Try.pinned (OpenSpec.ofChange fnFormsSpec)

/-- ITS FALSE NEIGHBOUR: 'it returns false'. Refute it at one input. -/
def fnFormsWrong : ChangeSpec := { name := "fnForms", fn := fun _ => fun
  | [d] => { results := [.lit (.bool false)], args := [d] }
  | _ => none }
def FnFormsWrongFalsely : Prop := fnFormsRow.holds Try.pinned (OpenSpec.ofChange fnFormsWrong)

/-- 'laws.FnCoproducts': WHATEVER THE INPUT: true; the input reads as it did. -/
def fnCoproductsSpec : ChangeSpec := { name := "fnCoproducts", fn := fun _ => fun
  | [d] => { results := [.lit (.bool true)], args := [d] }
  | _ => none }
def fnCoproductsRow : OpenClaim := { program := "ytkcneleabbjkaaa", sum := "0e8f3df60d5bca200480723a961727078beb054790c8f3710c04bc2a14a5341c", func := "loop.example/g01267/laws.FnCoproducts", spec := "fnCoproducts", plainKeys := false, apart := false }
def FnCoproductsSaid : Prop := fnCoproductsRow.holds Try.pinned (OpenSpec.ofChange fnCoproductsSpec)

/-- ITS FALSE NEIGHBOUR: 'it returns false'. Refute it at one input. -/
def fnCoproductsWrong : ChangeSpec := { name := "fnCoproducts", fn := fun _ => fun
  | [d] => { results := [.lit (.bool false)], args := [d] }
  | _ => none }
def FnCoproductsWrongFalsely : Prop := fnCoproductsRow.holds Try.pinned (OpenSpec.ofChange fnCoproductsWrong)

/-- 'laws.FnGenusNumbers': WHATEVER THE INPUT: true; the input reads as it did. -/
def fnGenusNumbersSpec : ChangeSpec := { name := "fnGenusNumbers", fn := fun _ => fun
  | [d] => { results := [.lit (.bool true)], args := [d] }
  | _ => none }
def fnGenusNumbersRow : OpenClaim := { program := "ytkcneleabbjkaaa", sum := "0e8f3df60d5bca200480723a961727078beb054790c8f3710c04bc2a14a5341c", func := "loop.example/g01267/laws.FnGenusNumbers", spec := "fnGenusNumbers", plainKeys := false, apart := false }
def FnGenusNumbersSaid : Prop := fnGenusNumbersRow.holds Try.pinned (OpenSpec.ofChange fnGenusNumbersSpec)

/-- ITS FALSE NEIGHBOUR: 'it returns false'. Refute it at one input. -/
def fnGenusNumbersWrong : ChangeSpec := { name := "fnGenusNumbers", fn := fun _ => fun
  | [d] => { results := [.lit (.bool false)], args := [d] }
  | _ => none }
def FnGenusNumbersWrongFalsely : Prop := fnGenusNumbersRow.holds Try.pinned (OpenSpec.ofChange fnGenusNumbersWrong)

/- THE SECOND FORM. 'bulk': how many values and letters a reading holds, each counted each time it is reached (what is shared counts as often as it is met; a slice's spare places count too). A statement '..UptoSaid' is the law's where the arguments, and the package variables that the reading takes, are together of bulk at most 1048576: NARROWER than '..Said'. Prove '..Said' where nothing that the law and all that it calls make is longer than what came in: it says more and counts as full. Else prove '..UptoSaid'. A law counts once. -/
mutual
def uptoBulk {H : Type} : DataW H → Nat
  | .lit (.string bytes) => bytes.length + 1
  | .lit _ => 1
  | .nil => 1
  | .ptr d => uptoBulk d + 1
  | .slice elems spare => uptoBulkAll elems + uptoBulkAll spare + 1
  | .agg parts => uptoBulkAll parts + 1
  | .iface _ d => uptoBulk d + 1
  | .map entries => uptoBulkEntries entries + 1
  | .held _ => 1
def uptoBulkAll {H : Type} : List (DataW H) → Nat
  | [] => 0
  | d :: r => uptoBulk d + uptoBulkAll r
def uptoBulkEntries {H : Type} : List (Lit × DataW H) → Nat
  | [] => 0
  | x :: r => uptoBulkEntry x + uptoBulkEntries r
def uptoBulkEntry {H : Type} : Lit × DataW H → Nat
  | (.string bytes, d) => bytes.length + uptoBulk d + 1
  | (_, d) => uptoBulk d + 1
 end
def uptoSmall : (H : Type) → List (DataW H) → Bool := fun _ ds => decide (uptoBulkAll ds ≤ 1048576)
def OpenSpec.upto (s : _root_.Go.ChangeSpec) : _root_.Go.OpenSpec := { _root_.Go.OpenSpec.ofChange s with cond := some uptoSmall }

/-- 'laws.FnProducts', WHERE WHAT IT READS IS OF BULK AT MOST 1048576: true; the input reads as it did. -/
def fnProductsUptoRow : OpenClaim := { program := "ytkcneleabbjkaaa", sum := "0e8f3df60d5bca200480723a961727078beb054790c8f3710c04bc2a14a5341c", func := "loop.example/g01267/laws.FnProducts", spec := "fnProducts", plainKeys := false, apart := false, narrowed := true }
def FnProductsUptoSaid : Prop := fnProductsUptoRow.holds Try.pinned (OpenSpec.upto fnProductsSpec)

/-- 'laws.FnSums', WHERE WHAT IT READS IS OF BULK AT MOST 1048576: true; the input reads as it did. -/
def fnSumsUptoRow : OpenClaim := { program := "ytkcneleabbjkaaa", sum := "0e8f3df60d5bca200480723a961727078beb054790c8f3710c04bc2a14a5341c", func := "loop.example/g01267/laws.FnSums", spec := "fnSums", plainKeys := false, apart := false, narrowed := true }
def FnSumsUptoSaid : Prop := fnSumsUptoRow.holds Try.pinned (OpenSpec.upto fnSumsSpec)

/-- 'laws.FnForms', WHERE WHAT IT READS IS OF BULK AT MOST 1048576: true; the input reads as it did. -/
def fnFormsUptoRow : OpenClaim := { program := "ytkcneleabbjkaaa", sum := "0e8f3df60d5bca200480723a961727078beb054790c8f3710c04bc2a14a5341c", func := "loop.example/g01267/laws.FnForms", spec := "fnForms", plainKeys := false, apart := false, narrowed := true }
def FnFormsUptoSaid : Prop := fnFormsUptoRow.holds Try.pinned (OpenSpec.upto fnFormsSpec)

/-- 'laws.FnCoproducts', WHERE WHAT IT READS IS OF BULK AT MOST 1048576: true; the input reads as it did. -/
def fnCoproductsUptoRow : OpenClaim := { program := "ytkcneleabbjkaaa", sum := "0e8f3df60d5bca200480723a961727078beb054790c8f3710c04bc2a14a5341c", func := "loop.example/g01267/laws.FnCoproducts", spec := "fnCoproducts", plainKeys := false, apart := false, narrowed := true }
def FnCoproductsUptoSaid : Prop := fnCoproductsUptoRow.holds Try.pinned (OpenSpec.upto fnCoproductsSpec)

/-- 'laws.FnGenusNumbers', WHERE WHAT IT READS IS OF BULK AT MOST 1048576: true; the input reads as it did. -/
def fnGenusNumbersUptoRow : OpenClaim := { program := "ytkcneleabbjkaaa", sum := "0e8f3df60d5bca200480723a961727078beb054790c8f3710c04bc2a14a5341c", func := "loop.example/g01267/laws.FnGenusNumbers", spec := "fnGenusNumbers", plainKeys := false, apart := false, narrowed := true }
def FnGenusNumbersUptoSaid : Prop := fnGenusNumbersUptoRow.holds Try.pinned (OpenSpec.upto fnGenusNumbersSpec)

end Rows
end Go.Proofs.Ytkcneleabbjkaaa
