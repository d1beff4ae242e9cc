/-
  DERIVED. GIVEN WITH THE SEED: THE CARDS: each row of YtccdgjmomcljkaaDoorRows.lean that lists a variable, with what it lists TIED to the program's text (the seventh form; the later family's looks); each row that meets fmt, with fmt's text TOLD by the authors' own Lean function (tested against real Go, not proved from fmt's source: count such statements apart). THE CARD IS WHAT COUNTS. Prove the row's statement (the work); the ties are given (YtccdgjmomcljkaaDoorTie.lean); close each card by the builder's one call (the guide's Derived/Test/ToyasCard.lean, 'card_holds'). Laid BY PROGRAM, IN A SANDBOX (cutbox-door.mjs). By AI agents, Wed Nov 11 2026. No macro, syntax, notation, axiom, sorry.
-/
import Derived.Test.YtccdgjmomcljkaaDoorRows
import GoSem.ClaimSeven
namespace Go.Proofs.YtccdgjmomcljkaaDoor
namespace Rows

/-- THE TIED CARD OF 'laws.FnExactNilradicalOf'. -/
def fnExactNilradicalOfCard : Claim7 := { stood := { row := fnExactNilradicalOfRow, standIns := [], harness := (true, "7facbf5bb010e43139558fd9b514242a18df78b77833649cf9c63b97cc7b880f"), looks := true }, kinds := [], alts := [], laidByText := true, laidKinds := [.sentinel], laidTests := true, laidLooks := .later }
def FnExactNilradicalOfCardSaid : Prop := Claim7.holds Tryd.pinned (.plain (OpenSpec.ofChange fnExactNilradicalOfSpec)) fnExactNilradicalOfCard

/-- THE TIED CARD OF 'laws.FnExactIsReduced'. -/
def fnExactIsReducedCard : Claim7 := { stood := { row := fnExactIsReducedRow, standIns := [], harness := (true, "7facbf5bb010e43139558fd9b514242a18df78b77833649cf9c63b97cc7b880f"), looks := true }, kinds := [], alts := [], laidByText := true, laidKinds := [.sentinel], laidTests := true, laidLooks := .later }
def FnExactIsReducedCardSaid : Prop := Claim7.holds Tryd.pinned (.plain (OpenSpec.ofChange fnExactIsReducedSpec)) fnExactIsReducedCard

/-- THE TIED CARD OF 'laws.FnExactAnnihilatorOf'. -/
def fnExactAnnihilatorOfCard : Claim7 := { stood := { row := fnExactAnnihilatorOfRow, standIns := [], harness := (true, "7facbf5bb010e43139558fd9b514242a18df78b77833649cf9c63b97cc7b880f"), looks := true }, kinds := [], alts := [], laidByText := true, laidKinds := [.sentinel], laidTests := true, laidLooks := .later }
def FnExactAnnihilatorOfCardSaid : Prop := Claim7.holds Tryd.pinned (.plain (OpenSpec.ofChange fnExactAnnihilatorOfSpec)) fnExactAnnihilatorOfCard

/-- THE TIED CARD OF 'laws.FnExactSocleOf'. -/
def fnExactSocleOfCard : Claim7 := { stood := { row := fnExactSocleOfRow, standIns := [], harness := (true, "7facbf5bb010e43139558fd9b514242a18df78b77833649cf9c63b97cc7b880f"), looks := true }, kinds := [], alts := [], laidByText := true, laidKinds := [.sentinel], laidTests := true, laidLooks := .later }
def FnExactSocleOfCardSaid : Prop := Claim7.holds Tryd.pinned (.plain (OpenSpec.ofChange fnExactSocleOfSpec)) fnExactSocleOfCard

/-- THE TIED CARD OF 'laws.FnExactPowersOfNilradical'. -/
def fnExactPowersOfNilradicalCard : Claim7 := { stood := { row := fnExactPowersOfNilradicalRow, standIns := [], harness := (true, "7facbf5bb010e43139558fd9b514242a18df78b77833649cf9c63b97cc7b880f"), looks := true }, kinds := [], alts := [], laidByText := true, laidKinds := [.sentinel], laidTests := true, laidLooks := .later }
def FnExactPowersOfNilradicalCardSaid : Prop := Claim7.holds Tryd.pinned (.plain (OpenSpec.ofChange fnExactPowersOfNilradicalSpec)) fnExactPowersOfNilradicalCard

/-- THE TIED CARD OF 'laws.FnExactIsSymmetricInItself'. -/
def fnExactIsSymmetricInItselfCard : Claim7 := { stood := { row := fnExactIsSymmetricInItselfRow, standIns := [], harness := (true, "7facbf5bb010e43139558fd9b514242a18df78b77833649cf9c63b97cc7b880f"), looks := true }, kinds := [], alts := [], laidByText := true, laidKinds := [.sentinel], laidTests := true, laidLooks := .later }
def FnExactIsSymmetricInItselfCardSaid : Prop := Claim7.holds Tryd.pinned (.plain (OpenSpec.ofChange fnExactIsSymmetricInItselfSpec)) fnExactIsSymmetricInItselfCard

/-- THE SECOND FORM's CARD OF 'laws.FnExactNilradicalOf'. -/
def fnExactNilradicalOfUptoCard : Claim7 := { stood := { row := fnExactNilradicalOfUptoRow, standIns := [], harness := (true, "7facbf5bb010e43139558fd9b514242a18df78b77833649cf9c63b97cc7b880f"), looks := true }, kinds := [], alts := [], laidByText := true, laidKinds := [.sentinel], laidTests := true, laidLooks := .later }
def FnExactNilradicalOfUptoCardSaid : Prop := Claim7.holds Tryd.pinned (.plain (OpenSpec.upto fnExactNilradicalOfSpec)) fnExactNilradicalOfUptoCard

/-- THE SECOND FORM's CARD OF 'laws.FnExactIsReduced'. -/
def fnExactIsReducedUptoCard : Claim7 := { stood := { row := fnExactIsReducedUptoRow, standIns := [], harness := (true, "7facbf5bb010e43139558fd9b514242a18df78b77833649cf9c63b97cc7b880f"), looks := true }, kinds := [], alts := [], laidByText := true, laidKinds := [.sentinel], laidTests := true, laidLooks := .later }
def FnExactIsReducedUptoCardSaid : Prop := Claim7.holds Tryd.pinned (.plain (OpenSpec.upto fnExactIsReducedSpec)) fnExactIsReducedUptoCard

/-- THE SECOND FORM's CARD OF 'laws.FnExactAnnihilatorOf'. -/
def fnExactAnnihilatorOfUptoCard : Claim7 := { stood := { row := fnExactAnnihilatorOfUptoRow, standIns := [], harness := (true, "7facbf5bb010e43139558fd9b514242a18df78b77833649cf9c63b97cc7b880f"), looks := true }, kinds := [], alts := [], laidByText := true, laidKinds := [.sentinel], laidTests := true, laidLooks := .later }
def FnExactAnnihilatorOfUptoCardSaid : Prop := Claim7.holds Tryd.pinned (.plain (OpenSpec.upto fnExactAnnihilatorOfSpec)) fnExactAnnihilatorOfUptoCard

/-- THE SECOND FORM's CARD OF 'laws.FnExactSocleOf'. -/
def fnExactSocleOfUptoCard : Claim7 := { stood := { row := fnExactSocleOfUptoRow, standIns := [], harness := (true, "7facbf5bb010e43139558fd9b514242a18df78b77833649cf9c63b97cc7b880f"), looks := true }, kinds := [], alts := [], laidByText := true, laidKinds := [.sentinel], laidTests := true, laidLooks := .later }
def FnExactSocleOfUptoCardSaid : Prop := Claim7.holds Tryd.pinned (.plain (OpenSpec.upto fnExactSocleOfSpec)) fnExactSocleOfUptoCard

/-- THE SECOND FORM's CARD OF 'laws.FnExactPowersOfNilradical'. -/
def fnExactPowersOfNilradicalUptoCard : Claim7 := { stood := { row := fnExactPowersOfNilradicalUptoRow, standIns := [], harness := (true, "7facbf5bb010e43139558fd9b514242a18df78b77833649cf9c63b97cc7b880f"), looks := true }, kinds := [], alts := [], laidByText := true, laidKinds := [.sentinel], laidTests := true, laidLooks := .later }
def FnExactPowersOfNilradicalUptoCardSaid : Prop := Claim7.holds Tryd.pinned (.plain (OpenSpec.upto fnExactPowersOfNilradicalSpec)) fnExactPowersOfNilradicalUptoCard

/-- THE SECOND FORM's CARD OF 'laws.FnExactIsSymmetricInItself'. -/
def fnExactIsSymmetricInItselfUptoCard : Claim7 := { stood := { row := fnExactIsSymmetricInItselfUptoRow, standIns := [], harness := (true, "7facbf5bb010e43139558fd9b514242a18df78b77833649cf9c63b97cc7b880f"), looks := true }, kinds := [], alts := [], laidByText := true, laidKinds := [.sentinel], laidTests := true, laidLooks := .later }
def FnExactIsSymmetricInItselfUptoCardSaid : Prop := Claim7.holds Tryd.pinned (.plain (OpenSpec.upto fnExactIsSymmetricInItselfSpec)) fnExactIsSymmetricInItselfUptoCard
end Rows
end Go.Proofs.YtccdgjmomcljkaaDoor
