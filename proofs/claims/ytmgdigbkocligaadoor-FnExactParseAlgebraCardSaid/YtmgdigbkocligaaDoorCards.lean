/-
  DERIVED. GIVEN WITH THE SEED: THE CARDS: each row of YtmgdigbkocligaaDoorRows.lean that lists a variable, with what it lists TIED to the program's text (the seventh form; the later family's looks); each row that meets fmt, with fmt's text TOLD by the authors' own Lean function (tested against real Go, not proved from fmt's source: count such statements apart). THE CARD IS WHAT COUNTS. Prove the row's statement (the work); the ties are given (YtmgdigbkocligaaDoorTie.lean); close each card by the builder's one call (the guide's Derived/Test/ToyasCard.lean, 'card_holds'). Laid BY PROGRAM, IN A SANDBOX (cutbox-door.mjs). By AI agents, Wed Nov 11 2026. No macro, syntax, notation, axiom, sorry.
-/
import Derived.Test.YtmgdigbkocligaaDoorRows
import GoSem.ClaimSeven
namespace Go.Proofs.YtmgdigbkocligaaDoor
namespace Rows

/-- THE TIED CARD OF 'laws.FnExactParseAlgebra'. -/
def fnExactParseAlgebraCard : Claim7 := { stood := { row := fnExactParseAlgebraRow, standIns := [], harness := (true, "bb2a1f2bda199918741ce017bd5aa9146a61dca8aef9c1680cb8b22555231f25"), looks := true }, kinds := [], alts := [], laidByText := true, laidKinds := [.data, .data, .data, .data, .sentinel, .sentinel, .pinned], laidTests := true, laidLooks := .later }
def FnExactParseAlgebraCardSaid : Prop := Claim7.holds Tryd.pinned (.plain (OpenSpec.ofChange fnExactParseAlgebraSpec)) fnExactParseAlgebraCard

/-- THE SECOND FORM's CARD OF 'laws.FnExactParseAlgebra'. -/
def fnExactParseAlgebraUptoCard : Claim7 := { stood := { row := fnExactParseAlgebraUptoRow, standIns := [], harness := (true, "bb2a1f2bda199918741ce017bd5aa9146a61dca8aef9c1680cb8b22555231f25"), looks := true }, kinds := [], alts := [], laidByText := true, laidKinds := [.data, .data, .data, .data, .sentinel, .sentinel, .pinned], laidTests := true, laidLooks := .later }
def FnExactParseAlgebraUptoCardSaid : Prop := Claim7.holds Tryd.pinned (.plain (OpenSpec.upto fnExactParseAlgebraSpec)) fnExactParseAlgebraUptoCard
end Rows
end Go.Proofs.YtmgdigbkocligaaDoor
