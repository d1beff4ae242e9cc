/-
  DERIVED. GIVEN WITH THE SEED: THE CARDS: each row of YtmlnjicajdbjlaaDoorRows.lean that lists a variable, with what it lists TIED to the program's text (the seventh form; the later family's looks); each row that meets fmt, with fmt's text TOLD by the authors' own Lean function (tested against real Go, not proved from fmt's source: count such statements apart). THE CARD IS WHAT COUNTS. Prove the row's statement (the work); the ties are given (YtmlnjicajdbjlaaDoorTie.lean); close each card by the builder's one call (the guide's Derived/Test/ToyasCard.lean, 'card_holds'). Laid BY PROGRAM, IN A SANDBOX (cutbox-door.mjs). By AI agents, Wed Nov 11 2026. No macro, syntax, notation, axiom, sorry.
-/
import Derived.Test.YtmlnjicajdbjlaaDoorRows
import GoSem.ClaimSeven
namespace Go.Proofs.YtmlnjicajdbjlaaDoor
namespace Rows

/-- THE TIED CARD OF 'laws.FnExactPrimitiveIdempotents'. -/
def fnExactPrimitiveIdempotentsCard : Claim7 := { stood := { row := fnExactPrimitiveIdempotentsRow, standIns := [], harness := (true, "01e7e96504006a175947f5661d23d95cd9319111447595667adff29fcaf8487e"), looks := true }, kinds := [], alts := [], laidByText := true, laidKinds := [.sentinel], laidTests := true, laidLooks := .later }
def FnExactPrimitiveIdempotentsCardSaid : Prop := Claim7.holds Tryd.pinned (.plain (OpenSpec.ofChange fnExactPrimitiveIdempotentsSpec)) fnExactPrimitiveIdempotentsCard

/-- THE TIED CARD OF 'laws.FnExactIsPrimitive'. -/
def fnExactIsPrimitiveCard : Claim7 := { stood := { row := fnExactIsPrimitiveRow, standIns := [], harness := (true, "01e7e96504006a175947f5661d23d95cd9319111447595667adff29fcaf8487e"), looks := true }, kinds := [], alts := [], laidByText := true, laidKinds := [.sentinel], laidTests := true, laidLooks := .later }
def FnExactIsPrimitiveCardSaid : Prop := Claim7.holds Tryd.pinned (.plain (OpenSpec.ofChange fnExactIsPrimitiveSpec)) fnExactIsPrimitiveCard

/-- THE TIED CARD OF 'laws.FnExactCountIdempotents'. -/
def fnExactCountIdempotentsCard : Claim7 := { stood := { row := fnExactCountIdempotentsRow, standIns := [], harness := (true, "01e7e96504006a175947f5661d23d95cd9319111447595667adff29fcaf8487e"), looks := true }, kinds := [], alts := [], laidByText := true, laidKinds := [.sentinel], laidTests := true, laidLooks := .later }
def FnExactCountIdempotentsCardSaid : Prop := Claim7.holds Tryd.pinned (.plain (OpenSpec.ofChange fnExactCountIdempotentsSpec)) fnExactCountIdempotentsCard

/-- THE TIED CARD OF 'laws.FnExactIsLocal'. -/
def fnExactIsLocalCard : Claim7 := { stood := { row := fnExactIsLocalRow, standIns := [], harness := (true, "01e7e96504006a175947f5661d23d95cd9319111447595667adff29fcaf8487e"), looks := true }, kinds := [], alts := [], laidByText := true, laidKinds := [.sentinel], laidTests := true, laidLooks := .later }
def FnExactIsLocalCardSaid : Prop := Claim7.holds Tryd.pinned (.plain (OpenSpec.ofChange fnExactIsLocalSpec)) fnExactIsLocalCard

/-- THE SECOND FORM's CARD OF 'laws.FnExactPrimitiveIdempotents'. -/
def fnExactPrimitiveIdempotentsUptoCard : Claim7 := { stood := { row := fnExactPrimitiveIdempotentsUptoRow, standIns := [], harness := (true, "01e7e96504006a175947f5661d23d95cd9319111447595667adff29fcaf8487e"), looks := true }, kinds := [], alts := [], laidByText := true, laidKinds := [.sentinel], laidTests := true, laidLooks := .later }
def FnExactPrimitiveIdempotentsUptoCardSaid : Prop := Claim7.holds Tryd.pinned (.plain (OpenSpec.upto fnExactPrimitiveIdempotentsSpec)) fnExactPrimitiveIdempotentsUptoCard

/-- THE SECOND FORM's CARD OF 'laws.FnExactIsPrimitive'. -/
def fnExactIsPrimitiveUptoCard : Claim7 := { stood := { row := fnExactIsPrimitiveUptoRow, standIns := [], harness := (true, "01e7e96504006a175947f5661d23d95cd9319111447595667adff29fcaf8487e"), looks := true }, kinds := [], alts := [], laidByText := true, laidKinds := [.sentinel], laidTests := true, laidLooks := .later }
def FnExactIsPrimitiveUptoCardSaid : Prop := Claim7.holds Tryd.pinned (.plain (OpenSpec.upto fnExactIsPrimitiveSpec)) fnExactIsPrimitiveUptoCard

/-- THE SECOND FORM's CARD OF 'laws.FnExactCountIdempotents'. -/
def fnExactCountIdempotentsUptoCard : Claim7 := { stood := { row := fnExactCountIdempotentsUptoRow, standIns := [], harness := (true, "01e7e96504006a175947f5661d23d95cd9319111447595667adff29fcaf8487e"), looks := true }, kinds := [], alts := [], laidByText := true, laidKinds := [.sentinel], laidTests := true, laidLooks := .later }
def FnExactCountIdempotentsUptoCardSaid : Prop := Claim7.holds Tryd.pinned (.plain (OpenSpec.upto fnExactCountIdempotentsSpec)) fnExactCountIdempotentsUptoCard

/-- THE SECOND FORM's CARD OF 'laws.FnExactIsLocal'. -/
def fnExactIsLocalUptoCard : Claim7 := { stood := { row := fnExactIsLocalUptoRow, standIns := [], harness := (true, "01e7e96504006a175947f5661d23d95cd9319111447595667adff29fcaf8487e"), looks := true }, kinds := [], alts := [], laidByText := true, laidKinds := [.sentinel], laidTests := true, laidLooks := .later }
def FnExactIsLocalUptoCardSaid : Prop := Claim7.holds Tryd.pinned (.plain (OpenSpec.upto fnExactIsLocalSpec)) fnExactIsLocalUptoCard
end Rows
end Go.Proofs.YtmlnjicajdbjlaaDoor
