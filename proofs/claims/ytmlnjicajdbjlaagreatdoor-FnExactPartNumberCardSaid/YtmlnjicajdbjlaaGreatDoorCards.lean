/-
  DERIVED. GIVEN WITH THE SEED: THE CARDS: each row of YtmlnjicajdbjlaaGreatDoorRows.lean that lists a variable, with what it lists TIED to the program's text (the seventh form; the later family's looks); each row that meets fmt, with fmt's text TOLD by the authors' own Lean function (tested against real Go, not proved from fmt's source: count such statements apart). THE CARD IS WHAT COUNTS. Prove the row's statement (the work); the ties are given (YtmlnjicajdbjlaaGreatDoorTie.lean); close each card by the builder's one call (the guide's Derived/Test/ToyasCard.lean, 'card_holds'). Laid BY PROGRAM, IN A SANDBOX (cutbox-door.mjs). By AI agents, Wed Nov 11 2026. No macro, syntax, notation, axiom, sorry.
-/
import Derived.Test.YtmlnjicajdbjlaaGreatDoorRows
import GoSem.ClaimSeven
namespace Go.Proofs.YtmlnjicajdbjlaaGreatDoor
namespace Rows

/-- THE TIED CARD OF 'laws.FnExactPartOf'. -/
def fnExactPartOfCard : Claim7 := { stood := { row := fnExactPartOfRow, standIns := [], harness := (true, "aa967d906f28b0e579585589248364b4070ebdc0e8e724727f9486427e557b9f"), looks := true }, kinds := [], alts := [], laidByText := true, laidKinds := [.sentinel, .sentinel], laidTests := true, laidLooks := .later }
def FnExactPartOfCardSaid : Prop := Claim7.holds Tryz.pinned (.plain (OpenSpec.ofChange fnExactPartOfSpec)) fnExactPartOfCard

/-- THE TIED CARD OF 'laws.FnExactSizesOfParts'. -/
def fnExactSizesOfPartsCard : Claim7 := { stood := { row := fnExactSizesOfPartsRow, standIns := [], harness := (true, "aa967d906f28b0e579585589248364b4070ebdc0e8e724727f9486427e557b9f"), looks := true }, kinds := [], alts := [], laidByText := true, laidKinds := [.sentinel], laidTests := true, laidLooks := .later }
def FnExactSizesOfPartsCardSaid : Prop := Claim7.holds Tryz.pinned (.plain (OpenSpec.ofChange fnExactSizesOfPartsSpec)) fnExactSizesOfPartsCard

/-- THE TIED CARD OF 'laws.FnExactDegreesOfParts'. -/
def fnExactDegreesOfPartsCard : Claim7 := { stood := { row := fnExactDegreesOfPartsRow, standIns := [], harness := (true, "aa967d906f28b0e579585589248364b4070ebdc0e8e724727f9486427e557b9f"), looks := true }, kinds := [], alts := [], laidByText := true, laidKinds := [.sentinel], laidTests := true, laidLooks := .later }
def FnExactDegreesOfPartsCardSaid : Prop := Claim7.holds Tryz.pinned (.plain (OpenSpec.ofChange fnExactDegreesOfPartsSpec)) fnExactDegreesOfPartsCard

/-- THE TIED CARD OF 'laws.FnExactIsSplit'. -/
def fnExactIsSplitCard : Claim7 := { stood := { row := fnExactIsSplitRow, standIns := [], harness := (true, "aa967d906f28b0e579585589248364b4070ebdc0e8e724727f9486427e557b9f"), looks := true }, kinds := [], alts := [], laidByText := true, laidKinds := [.sentinel], laidTests := true, laidLooks := .later }
def FnExactIsSplitCardSaid : Prop := Claim7.holds Tryz.pinned (.plain (OpenSpec.ofChange fnExactIsSplitSpec)) fnExactIsSplitCard

/-- THE TIED CARD OF 'laws.FnExactPartNumber'. -/
def fnExactPartNumberCard : Claim7 := { stood := { row := fnExactPartNumberRow, standIns := [], harness := (true, "aa967d906f28b0e579585589248364b4070ebdc0e8e724727f9486427e557b9f"), looks := true }, kinds := [], alts := [], laidByText := true, laidKinds := [.sentinel, .sentinel], laidTests := true, laidLooks := .later }
def FnExactPartNumberCardSaid : Prop := Claim7.holds Tryz.pinned (.plain (OpenSpec.ofChange fnExactPartNumberSpec)) fnExactPartNumberCard

/-- THE SECOND FORM's CARD OF 'laws.FnExactPartOf'. -/
def fnExactPartOfUptoCard : Claim7 := { stood := { row := fnExactPartOfUptoRow, standIns := [], harness := (true, "aa967d906f28b0e579585589248364b4070ebdc0e8e724727f9486427e557b9f"), looks := true }, kinds := [], alts := [], laidByText := true, laidKinds := [.sentinel, .sentinel], laidTests := true, laidLooks := .later }
def FnExactPartOfUptoCardSaid : Prop := Claim7.holds Tryz.pinned (.plain (OpenSpec.upto fnExactPartOfSpec)) fnExactPartOfUptoCard

/-- THE SECOND FORM's CARD OF 'laws.FnExactSizesOfParts'. -/
def fnExactSizesOfPartsUptoCard : Claim7 := { stood := { row := fnExactSizesOfPartsUptoRow, standIns := [], harness := (true, "aa967d906f28b0e579585589248364b4070ebdc0e8e724727f9486427e557b9f"), looks := true }, kinds := [], alts := [], laidByText := true, laidKinds := [.sentinel], laidTests := true, laidLooks := .later }
def FnExactSizesOfPartsUptoCardSaid : Prop := Claim7.holds Tryz.pinned (.plain (OpenSpec.upto fnExactSizesOfPartsSpec)) fnExactSizesOfPartsUptoCard

/-- THE SECOND FORM's CARD OF 'laws.FnExactDegreesOfParts'. -/
def fnExactDegreesOfPartsUptoCard : Claim7 := { stood := { row := fnExactDegreesOfPartsUptoRow, standIns := [], harness := (true, "aa967d906f28b0e579585589248364b4070ebdc0e8e724727f9486427e557b9f"), looks := true }, kinds := [], alts := [], laidByText := true, laidKinds := [.sentinel], laidTests := true, laidLooks := .later }
def FnExactDegreesOfPartsUptoCardSaid : Prop := Claim7.holds Tryz.pinned (.plain (OpenSpec.upto fnExactDegreesOfPartsSpec)) fnExactDegreesOfPartsUptoCard

/-- THE SECOND FORM's CARD OF 'laws.FnExactIsSplit'. -/
def fnExactIsSplitUptoCard : Claim7 := { stood := { row := fnExactIsSplitUptoRow, standIns := [], harness := (true, "aa967d906f28b0e579585589248364b4070ebdc0e8e724727f9486427e557b9f"), looks := true }, kinds := [], alts := [], laidByText := true, laidKinds := [.sentinel], laidTests := true, laidLooks := .later }
def FnExactIsSplitUptoCardSaid : Prop := Claim7.holds Tryz.pinned (.plain (OpenSpec.upto fnExactIsSplitSpec)) fnExactIsSplitUptoCard

/-- THE SECOND FORM's CARD OF 'laws.FnExactPartNumber'. -/
def fnExactPartNumberUptoCard : Claim7 := { stood := { row := fnExactPartNumberUptoRow, standIns := [], harness := (true, "aa967d906f28b0e579585589248364b4070ebdc0e8e724727f9486427e557b9f"), looks := true }, kinds := [], alts := [], laidByText := true, laidKinds := [.sentinel, .sentinel], laidTests := true, laidLooks := .later }
def FnExactPartNumberUptoCardSaid : Prop := Claim7.holds Tryz.pinned (.plain (OpenSpec.upto fnExactPartNumberSpec)) fnExactPartNumberUptoCard
end Rows
end Go.Proofs.YtmlnjicajdbjlaaGreatDoor
