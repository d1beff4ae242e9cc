/-
  No cell of these rows narrows 'for every input' (looked for: loops, veiled, ifaces, maps, wideKeys, modest, calm, conditions, laid).
  DERIVED. THE GIVEN ROWS OF THIS SEAT. 3 by the template 'for every input the law returns true; each argument reads behind the call as it read before'; 0 by the template 'total and deterministic' (their statements: YtbmgeapfninlkaaTotals.lean).
  GIVEN WITH THE SEED: the statements are not yours to turn. If you find one false, say at which input.
  Laid BY PROGRAM, IN A SANDBOX (cutbox-rows.mjs): the forced cells as the released guide's own fill.sh prints them over the translation ada020f75fa20241… (all of the seat's roots in one cut). By AI agents, Wed Nov 11 2026. No macro, syntax, notation, axiom, sorry.
-/
import Derived.Test.YtbmgeapfninlkaaChecked
import GoSem.Claim
import GoSem.ClaimJoined
import GoSem.ClaimMapViews
import Derived.JoinedTies
import Derived.KernelRfl
namespace Go.Proofs.Ytbmgeapfninlkaa
/- THE CELL 'sum', in the pinned program and in every row, IS THE sha256 OF THE DUMP (.gsa) THAT YtbmgeapfninlkaaProg.lean LOADS. Nothing in Lean hashes anything: it is a label: what it is worth is what the hold of that sum in a sandbox is worth. -/
noncomputable def Try.pinned : Pinned := { name := "ytbmgeapfninlkaa", sum := "ada020f75fa20241fbfb84a46c8a2e83581a9ee99561fc222fa7d85869cadb00", checked := Try.checked }
namespace Rows
def none {H : Type} : Left H := { results := [], args := [] }

/-- 'laws.FnExactWordOfPart': WHATEVER THE INPUT: true; the input reads as it did. -/
def fnExactWordOfPartSpec : ChangeSpec := { name := "fnExactWordOfPart", fn := fun _ => fun
  | [d1, d2, d3] => { results := [.lit (.bool true)], args := [d1, d2, d3] }
  | _ => none }
def fnExactWordOfPartRow : OpenClaim := { program := "ytbmgeapfninlkaa", sum := "ada020f75fa20241fbfb84a46c8a2e83581a9ee99561fc222fa7d85869cadb00", func := "loop.example/g01267/laws.FnExactWordOfPart", spec := "fnExactWordOfPart", inPlace := ["internal/abi.NoEscape", "internal/bytealg.MakeNoZero"], apart := false }
def FnExactWordOfPartSaid : Prop := fnExactWordOfPartRow.holds Try.pinned (OpenSpec.ofChange fnExactWordOfPartSpec)

/-- ITS FALSE NEIGHBOUR: 'it returns false'. Refute it at one input. -/
def fnExactWordOfPartWrong : ChangeSpec := { name := "fnExactWordOfPart", fn := fun _ => fun
  | [d1, d2, d3] => { results := [.lit (.bool false)], args := [d1, d2, d3] }
  | _ => none }
def FnExactWordOfPartWrongFalsely : Prop := fnExactWordOfPartRow.holds Try.pinned (OpenSpec.ofChange fnExactWordOfPartWrong)

/-- 'laws.FnExactComposeWords': WHATEVER THE INPUT: true; the input reads as it did. -/
def fnExactComposeWordsSpec : ChangeSpec := { name := "fnExactComposeWords", fn := fun _ => fun
  | [d1, d2] => { results := [.lit (.bool true)], args := [d1, d2] }
  | _ => none }
def fnExactComposeWordsRow : OpenClaim := { program := "ytbmgeapfninlkaa", sum := "ada020f75fa20241fbfb84a46c8a2e83581a9ee99561fc222fa7d85869cadb00", func := "loop.example/g01267/laws.FnExactComposeWords", spec := "fnExactComposeWords", inPlace := ["internal/abi.NoEscape", "internal/bytealg.MakeNoZero"], apart := false }
def FnExactComposeWordsSaid : Prop := fnExactComposeWordsRow.holds Try.pinned (OpenSpec.ofChange fnExactComposeWordsSpec)

/-- ITS FALSE NEIGHBOUR: 'it returns false'. Refute it at one input. -/
def fnExactComposeWordsWrong : ChangeSpec := { name := "fnExactComposeWords", fn := fun _ => fun
  | [d1, d2] => { results := [.lit (.bool false)], args := [d1, d2] }
  | _ => none }
def FnExactComposeWordsWrongFalsely : Prop := fnExactComposeWordsRow.holds Try.pinned (OpenSpec.ofChange fnExactComposeWordsWrong)

/-- 'laws.FnExactBesideWords': WHATEVER THE INPUT: true; the input reads as it did. -/
def fnExactBesideWordsSpec : ChangeSpec := { name := "fnExactBesideWords", fn := fun _ => fun
  | [d1, d2] => { results := [.lit (.bool true)], args := [d1, d2] }
  | _ => none }
def fnExactBesideWordsRow : OpenClaim := { program := "ytbmgeapfninlkaa", sum := "ada020f75fa20241fbfb84a46c8a2e83581a9ee99561fc222fa7d85869cadb00", func := "loop.example/g01267/laws.FnExactBesideWords", spec := "fnExactBesideWords", inPlace := ["internal/abi.NoEscape", "internal/bytealg.MakeNoZero"], apart := false }
def FnExactBesideWordsSaid : Prop := fnExactBesideWordsRow.holds Try.pinned (OpenSpec.ofChange fnExactBesideWordsSpec)

/-- ITS FALSE NEIGHBOUR: 'it returns false'. Refute it at one input. -/
def fnExactBesideWordsWrong : ChangeSpec := { name := "fnExactBesideWords", fn := fun _ => fun
  | [d1, d2] => { results := [.lit (.bool false)], args := [d1, d2] }
  | _ => none }
def FnExactBesideWordsWrongFalsely : Prop := fnExactBesideWordsRow.holds Try.pinned (OpenSpec.ofChange fnExactBesideWordsWrong)

/- THE SECOND FORM. 'bulk': how many values and letters a reading holds, each counted each time it is reached (what is shared counts as often as it is met; a slice's spare places count too). A statement '..UptoSaid' is the law's where the arguments, and the package variables that the reading takes, are together of bulk at most 1048576: NARROWER than '..Said'. Prove '..Said' where nothing that the law and all that it calls make is longer than what came in: it says more and counts as full. Else prove '..UptoSaid'. A law counts once. -/
mutual
def uptoBulk {H : Type} : DataW H → Nat
  | .lit (.string bytes) => bytes.length + 1
  | .lit _ => 1
  | .nil => 1
  | .ptr d => uptoBulk d + 1
  | .slice elems spare => uptoBulkAll elems + uptoBulkAll spare + 1
  | .agg parts => uptoBulkAll parts + 1
  | .iface _ d => uptoBulk d + 1
  | .map entries => uptoBulkEntries entries + 1
  | .held _ => 1
def uptoBulkAll {H : Type} : List (DataW H) → Nat
  | [] => 0
  | d :: r => uptoBulk d + uptoBulkAll r
def uptoBulkEntries {H : Type} : List (Lit × DataW H) → Nat
  | [] => 0
  | x :: r => uptoBulkEntry x + uptoBulkEntries r
def uptoBulkEntry {H : Type} : Lit × DataW H → Nat
  | (.string bytes, d) => bytes.length + uptoBulk d + 1
  | (_, d) => uptoBulk d + 1
 end
def uptoSmall : (H : Type) → List (DataW H) → Bool := fun _ ds => decide (uptoBulkAll ds ≤ 1048576)
def OpenSpec.upto (s : _root_.Go.ChangeSpec) : _root_.Go.OpenSpec := { _root_.Go.OpenSpec.ofChange s with cond := some uptoSmall }

/-- 'laws.FnExactWordOfPart', WHERE WHAT IT READS IS OF BULK AT MOST 1048576: true; the input reads as it did. -/
def fnExactWordOfPartUptoRow : OpenClaim := { program := "ytbmgeapfninlkaa", sum := "ada020f75fa20241fbfb84a46c8a2e83581a9ee99561fc222fa7d85869cadb00", func := "loop.example/g01267/laws.FnExactWordOfPart", spec := "fnExactWordOfPart", inPlace := ["internal/abi.NoEscape", "internal/bytealg.MakeNoZero"], apart := false, narrowed := true }
def FnExactWordOfPartUptoSaid : Prop := fnExactWordOfPartUptoRow.holds Try.pinned (OpenSpec.upto fnExactWordOfPartSpec)

/-- 'laws.FnExactComposeWords', WHERE WHAT IT READS IS OF BULK AT MOST 1048576: true; the input reads as it did. -/
def fnExactComposeWordsUptoRow : OpenClaim := { program := "ytbmgeapfninlkaa", sum := "ada020f75fa20241fbfb84a46c8a2e83581a9ee99561fc222fa7d85869cadb00", func := "loop.example/g01267/laws.FnExactComposeWords", spec := "fnExactComposeWords", inPlace := ["internal/abi.NoEscape", "internal/bytealg.MakeNoZero"], apart := false, narrowed := true }
def FnExactComposeWordsUptoSaid : Prop := fnExactComposeWordsUptoRow.holds Try.pinned (OpenSpec.upto fnExactComposeWordsSpec)

/-- 'laws.FnExactBesideWords', WHERE WHAT IT READS IS OF BULK AT MOST 1048576: true; the input reads as it did. -/
def fnExactBesideWordsUptoRow : OpenClaim := { program := "ytbmgeapfninlkaa", sum := "ada020f75fa20241fbfb84a46c8a2e83581a9ee99561fc222fa7d85869cadb00", func := "loop.example/g01267/laws.FnExactBesideWords", spec := "fnExactBesideWords", inPlace := ["internal/abi.NoEscape", "internal/bytealg.MakeNoZero"], apart := false, narrowed := true }
def FnExactBesideWordsUptoSaid : Prop := fnExactBesideWordsUptoRow.holds Try.pinned (OpenSpec.upto fnExactBesideWordsSpec)

end Rows
end Go.Proofs.Ytbmgeapfninlkaa
