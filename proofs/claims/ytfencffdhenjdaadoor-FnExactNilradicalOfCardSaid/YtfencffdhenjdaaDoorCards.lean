/-
  DERIVED. GIVEN WITH THE SEED: THE CARDS: each row of YtfencffdhenjdaaDoorRows.lean that lists a variable, with what it lists TIED to the program's text (the seventh form; the later family's looks); each row that meets fmt, with fmt's text TOLD by the authors' own Lean function (tested against real Go, not proved from fmt's source: count such statements apart). THE CARD IS WHAT COUNTS. Prove the row's statement (the work); the ties are given (YtfencffdhenjdaaDoorTie.lean); close each card by the builder's one call (the guide's Derived/Test/ToyasCard.lean, 'card_holds'). Laid BY PROGRAM, IN A SANDBOX (cutbox-door.mjs). By AI agents, Wed Nov 11 2026. No macro, syntax, notation, axiom, sorry.
-/
import Derived.Test.YtfencffdhenjdaaDoorRows
import GoSem.ClaimSeven
namespace Go.Proofs.YtfencffdhenjdaaDoor
namespace Rows

/-- THE TIED CARD OF 'laws.FnExactNilradicalOf'. -/
def fnExactNilradicalOfCard : Claim7 := { stood := { row := fnExactNilradicalOfRow, standIns := [], harness := (true, "971037fd6afe6f137f79192ce5cf7cc646065f3b871272bf4e081594e1a0fbc7"), looks := true }, kinds := [], alts := [], laidByText := true, laidKinds := [.sentinel], laidTests := true, laidLooks := .later }
def FnExactNilradicalOfCardSaid : Prop := Claim7.holds Tryd.pinned (.plain (OpenSpec.ofChange fnExactNilradicalOfSpec)) fnExactNilradicalOfCard

/-- THE TIED CARD OF 'laws.FnExactIsReduced'. -/
def fnExactIsReducedCard : Claim7 := { stood := { row := fnExactIsReducedRow, standIns := [], harness := (true, "971037fd6afe6f137f79192ce5cf7cc646065f3b871272bf4e081594e1a0fbc7"), looks := true }, kinds := [], alts := [], laidByText := true, laidKinds := [.sentinel], laidTests := true, laidLooks := .later }
def FnExactIsReducedCardSaid : Prop := Claim7.holds Tryd.pinned (.plain (OpenSpec.ofChange fnExactIsReducedSpec)) fnExactIsReducedCard

/-- THE SECOND FORM's CARD OF 'laws.FnExactNilradicalOf'. -/
def fnExactNilradicalOfUptoCard : Claim7 := { stood := { row := fnExactNilradicalOfUptoRow, standIns := [], harness := (true, "971037fd6afe6f137f79192ce5cf7cc646065f3b871272bf4e081594e1a0fbc7"), looks := true }, kinds := [], alts := [], laidByText := true, laidKinds := [.sentinel], laidTests := true, laidLooks := .later }
def FnExactNilradicalOfUptoCardSaid : Prop := Claim7.holds Tryd.pinned (.plain (OpenSpec.upto fnExactNilradicalOfSpec)) fnExactNilradicalOfUptoCard

/-- THE SECOND FORM's CARD OF 'laws.FnExactIsReduced'. -/
def fnExactIsReducedUptoCard : Claim7 := { stood := { row := fnExactIsReducedUptoRow, standIns := [], harness := (true, "971037fd6afe6f137f79192ce5cf7cc646065f3b871272bf4e081594e1a0fbc7"), looks := true }, kinds := [], alts := [], laidByText := true, laidKinds := [.sentinel], laidTests := true, laidLooks := .later }
def FnExactIsReducedUptoCardSaid : Prop := Claim7.holds Tryd.pinned (.plain (OpenSpec.upto fnExactIsReducedSpec)) fnExactIsReducedUptoCard
end Rows
end Go.Proofs.YtfencffdhenjdaaDoor
