/-
  DERIVED. GIVEN WITH THE SEED: THE CARDS: each row of YtjfmachfdpmdcaaDoorRows.lean that lists a variable, with what it lists TIED to the program's text (the seventh form; the later family's looks); each row that meets fmt, with fmt's text TOLD by the authors' own Lean function (tested against real Go, not proved from fmt's source: count such statements apart). THE CARD IS WHAT COUNTS. Prove the row's statement (the work); the ties are given (YtjfmachfdpmdcaaDoorTie.lean); close each card by the builder's one call (the guide's Derived/Test/ToyasCard.lean, 'card_holds'). Laid BY PROGRAM, IN A SANDBOX (cutbox-door.mjs). By AI agents, Wed Nov 11 2026. No macro, syntax, notation, axiom, sorry.
-/
import Derived.Test.YtjfmachfdpmdcaaDoorRows
import GoSem.ClaimSeven
namespace Go.Proofs.YtjfmachfdpmdcaaDoor
namespace Rows

/-- THE TIED CARD OF 'laws.FnExactZipVector'. -/
def fnExactZipVectorCard : Claim7 := { stood := { row := fnExactZipVectorRow, standIns := [], harness := (true, "9ee54a94a929839b6ef332d54635707687eeb65402cd1bc70583f7502b750398"), looks := true }, kinds := [], alts := [], laidByText := true, laidKinds := [.sentinel], laidTests := true, laidLooks := .later }
def FnExactZipVectorCardSaid : Prop := Claim7.holds Tryd.pinned (.plain (OpenSpec.ofChange fnExactZipVectorSpec)) fnExactZipVectorCard

/-- THE TIED CARD OF 'laws.FnExactUnzipVector'. -/
def fnExactUnzipVectorCard : Claim7 := { stood := { row := fnExactUnzipVectorRow, standIns := [], harness := (true, "9ee54a94a929839b6ef332d54635707687eeb65402cd1bc70583f7502b750398"), looks := true }, kinds := [], alts := [], laidByText := true, laidKinds := [.sentinel], laidTests := true, laidLooks := .later }
def FnExactUnzipVectorCardSaid : Prop := Claim7.holds Tryd.pinned (.plain (OpenSpec.ofChange fnExactUnzipVectorSpec)) fnExactUnzipVectorCard

/-- THE TIED CARD OF 'laws.FnExactSandwichOf'. -/
def fnExactSandwichOfCard : Claim7 := { stood := { row := fnExactSandwichOfRow, standIns := [], harness := (true, "9ee54a94a929839b6ef332d54635707687eeb65402cd1bc70583f7502b750398"), looks := true }, kinds := [], alts := [], laidByText := true, laidKinds := [.sentinel], laidTests := true, laidLooks := .later }
def FnExactSandwichOfCardSaid : Prop := Claim7.holds Tryd.pinned (.plain (OpenSpec.ofChange fnExactSandwichOfSpec)) fnExactSandwichOfCard

/-- THE TIED CARD OF 'laws.FnExactIsCardyPair'. -/
def fnExactIsCardyPairCard : Claim7 := { stood := { row := fnExactIsCardyPairRow, standIns := [], harness := (true, "9ee54a94a929839b6ef332d54635707687eeb65402cd1bc70583f7502b750398"), looks := true }, kinds := [], alts := [], laidByText := true, laidKinds := [.sentinel], laidTests := true, laidLooks := .later }
def FnExactIsCardyPairCardSaid : Prop := Claim7.holds Tryd.pinned (.plain (OpenSpec.ofChange fnExactIsCardyPairSpec)) fnExactIsCardyPairCard

/-- THE TIED CARD OF 'laws.FnExactAnnulusNumber'. -/
def fnExactAnnulusNumberCard : Claim7 := { stood := { row := fnExactAnnulusNumberRow, standIns := [], harness := (true, "9ee54a94a929839b6ef332d54635707687eeb65402cd1bc70583f7502b750398"), looks := true }, kinds := [], alts := [], laidByText := true, laidKinds := [.sentinel], laidTests := true, laidLooks := .later }
def FnExactAnnulusNumberCardSaid : Prop := Claim7.holds Tryd.pinned (.plain (OpenSpec.ofChange fnExactAnnulusNumberSpec)) fnExactAnnulusNumberCard

/-- THE TIED CARD OF 'laws.FnExactBoundaryElement'. -/
def fnExactBoundaryElementCard : Claim7 := { stood := { row := fnExactBoundaryElementRow, standIns := [], harness := (true, "9ee54a94a929839b6ef332d54635707687eeb65402cd1bc70583f7502b750398"), looks := true }, kinds := [], alts := [], laidByText := true, laidKinds := [.sentinel], laidTests := true, laidLooks := .later }
def FnExactBoundaryElementCardSaid : Prop := Claim7.holds Tryd.pinned (.plain (OpenSpec.ofChange fnExactBoundaryElementSpec)) fnExactBoundaryElementCard

/-- THE TIED CARD OF 'laws.FnExactBoundaryNumber'. -/
def fnExactBoundaryNumberCard : Claim7 := { stood := { row := fnExactBoundaryNumberRow, standIns := [], harness := (true, "9ee54a94a929839b6ef332d54635707687eeb65402cd1bc70583f7502b750398"), looks := true }, kinds := [], alts := [], laidByText := true, laidKinds := [.sentinel], laidTests := true, laidLooks := .later }
def FnExactBoundaryNumberCardSaid : Prop := Claim7.holds Tryd.pinned (.plain (OpenSpec.ofChange fnExactBoundaryNumberSpec)) fnExactBoundaryNumberCard

/-- THE SECOND FORM's CARD OF 'laws.FnExactZipVector'. -/
def fnExactZipVectorUptoCard : Claim7 := { stood := { row := fnExactZipVectorUptoRow, standIns := [], harness := (true, "9ee54a94a929839b6ef332d54635707687eeb65402cd1bc70583f7502b750398"), looks := true }, kinds := [], alts := [], laidByText := true, laidKinds := [.sentinel], laidTests := true, laidLooks := .later }
def FnExactZipVectorUptoCardSaid : Prop := Claim7.holds Tryd.pinned (.plain (OpenSpec.upto fnExactZipVectorSpec)) fnExactZipVectorUptoCard

/-- THE SECOND FORM's CARD OF 'laws.FnExactUnzipVector'. -/
def fnExactUnzipVectorUptoCard : Claim7 := { stood := { row := fnExactUnzipVectorUptoRow, standIns := [], harness := (true, "9ee54a94a929839b6ef332d54635707687eeb65402cd1bc70583f7502b750398"), looks := true }, kinds := [], alts := [], laidByText := true, laidKinds := [.sentinel], laidTests := true, laidLooks := .later }
def FnExactUnzipVectorUptoCardSaid : Prop := Claim7.holds Tryd.pinned (.plain (OpenSpec.upto fnExactUnzipVectorSpec)) fnExactUnzipVectorUptoCard

/-- THE SECOND FORM's CARD OF 'laws.FnExactSandwichOf'. -/
def fnExactSandwichOfUptoCard : Claim7 := { stood := { row := fnExactSandwichOfUptoRow, standIns := [], harness := (true, "9ee54a94a929839b6ef332d54635707687eeb65402cd1bc70583f7502b750398"), looks := true }, kinds := [], alts := [], laidByText := true, laidKinds := [.sentinel], laidTests := true, laidLooks := .later }
def FnExactSandwichOfUptoCardSaid : Prop := Claim7.holds Tryd.pinned (.plain (OpenSpec.upto fnExactSandwichOfSpec)) fnExactSandwichOfUptoCard

/-- THE SECOND FORM's CARD OF 'laws.FnExactIsCardyPair'. -/
def fnExactIsCardyPairUptoCard : Claim7 := { stood := { row := fnExactIsCardyPairUptoRow, standIns := [], harness := (true, "9ee54a94a929839b6ef332d54635707687eeb65402cd1bc70583f7502b750398"), looks := true }, kinds := [], alts := [], laidByText := true, laidKinds := [.sentinel], laidTests := true, laidLooks := .later }
def FnExactIsCardyPairUptoCardSaid : Prop := Claim7.holds Tryd.pinned (.plain (OpenSpec.upto fnExactIsCardyPairSpec)) fnExactIsCardyPairUptoCard

/-- THE SECOND FORM's CARD OF 'laws.FnExactAnnulusNumber'. -/
def fnExactAnnulusNumberUptoCard : Claim7 := { stood := { row := fnExactAnnulusNumberUptoRow, standIns := [], harness := (true, "9ee54a94a929839b6ef332d54635707687eeb65402cd1bc70583f7502b750398"), looks := true }, kinds := [], alts := [], laidByText := true, laidKinds := [.sentinel], laidTests := true, laidLooks := .later }
def FnExactAnnulusNumberUptoCardSaid : Prop := Claim7.holds Tryd.pinned (.plain (OpenSpec.upto fnExactAnnulusNumberSpec)) fnExactAnnulusNumberUptoCard

/-- THE SECOND FORM's CARD OF 'laws.FnExactBoundaryElement'. -/
def fnExactBoundaryElementUptoCard : Claim7 := { stood := { row := fnExactBoundaryElementUptoRow, standIns := [], harness := (true, "9ee54a94a929839b6ef332d54635707687eeb65402cd1bc70583f7502b750398"), looks := true }, kinds := [], alts := [], laidByText := true, laidKinds := [.sentinel], laidTests := true, laidLooks := .later }
def FnExactBoundaryElementUptoCardSaid : Prop := Claim7.holds Tryd.pinned (.plain (OpenSpec.upto fnExactBoundaryElementSpec)) fnExactBoundaryElementUptoCard

/-- THE SECOND FORM's CARD OF 'laws.FnExactBoundaryNumber'. -/
def fnExactBoundaryNumberUptoCard : Claim7 := { stood := { row := fnExactBoundaryNumberUptoRow, standIns := [], harness := (true, "9ee54a94a929839b6ef332d54635707687eeb65402cd1bc70583f7502b750398"), looks := true }, kinds := [], alts := [], laidByText := true, laidKinds := [.sentinel], laidTests := true, laidLooks := .later }
def FnExactBoundaryNumberUptoCardSaid : Prop := Claim7.holds Tryd.pinned (.plain (OpenSpec.upto fnExactBoundaryNumberSpec)) fnExactBoundaryNumberUptoCard
end Rows
end Go.Proofs.YtjfmachfdpmdcaaDoor
