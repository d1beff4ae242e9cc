/-
  DERIVED. GIVEN WITH THE SEED: THE PROGRAM's TIES (one call each: nine closed facts by the kernel) AND EACH ROW's TIE, after the 31st guide's Derived/Test/Toyas{Tie, Card}.lean. No idea stands in it: it is a product of the set-up. Laid BY PROGRAM, IN A SANDBOX (cutbox-door.mjs). By AI agents, Wed Nov 11 2026. No macro, syntax, notation, axiom, sorry.
-/
import Derived.Test.YtmlnjicajdbjlaaGreatDoorRows
import Derived.LaidByTextLater
import Derived.SevenTiedAt
import Derived.LaidSub
import Derived.LaidOnce
namespace Go.Proofs.YtmlnjicajdbjlaaGreatDoor
open Go
set_option maxRecDepth 100000
theorem seatTie1 : Tryz.prog.laidByTextLater [("loop.example/g01267/impl.errNotCommutative", Rows.laid_loop_example_g01267_impl_errNotCommutative), ("loop.example/g01267/impl.errNotPrimitive", Rows.laid_loop_example_g01267_impl_errNotPrimitive), ("loop.example/g01267/impl.errNoPartNumbers", Rows.laid_loop_example_g01267_impl_errNoPartNumbers)] [.sentinel, .sentinel, .sentinel] true :=
  Program.laidByTextLater_by_one 66 8 2 (by kernel_rfl) (by kernel_rfl) (by kernel_rfl) (by kernel_rfl) (by kernel_rfl) (by kernel_rfl) (fun _ _ => by kernel_rfl)
theorem noOwnUnsafe : Tryz.pinned.checked.prog.headLifts.contains "ownunsafe" = false := by kernel_rfl
theorem tie : Tryz.prog.laidByTextLater [("loop.example/g01267/impl.errNotCommutative", Rows.laid_loop_example_g01267_impl_errNotCommutative), ("loop.example/g01267/impl.errNotPrimitive", Rows.laid_loop_example_g01267_impl_errNotPrimitive)] [.sentinel, .sentinel] true :=
  Program.laidByTextLater.sub seatTie1 ["loop.example/g01267/impl.errNotCommutative", "loop.example/g01267/impl.errNotPrimitive"] (by kernel_rfl) (by kernel_rfl)
theorem fnExactPartOf_row_tie : Rows.fnExactPartOfRow.laidByTextAt .later Tryz.pinned [.sentinel, .sentinel] true :=
  OpenClaim.laidByTextAt_later rfl rfl tie noOwnUnsafe
theorem tie2 : Tryz.prog.laidByTextLater [("loop.example/g01267/impl.errNotCommutative", Rows.laid_loop_example_g01267_impl_errNotCommutative)] [.sentinel] true :=
  Program.laidByTextLater.sub seatTie1 ["loop.example/g01267/impl.errNotCommutative"] (by kernel_rfl) (by kernel_rfl)
theorem fnExactSizesOfParts_row_tie : Rows.fnExactSizesOfPartsRow.laidByTextAt .later Tryz.pinned [.sentinel] true :=
  OpenClaim.laidByTextAt_later rfl rfl tie2 noOwnUnsafe
theorem fnExactDegreesOfParts_row_tie : Rows.fnExactDegreesOfPartsRow.laidByTextAt .later Tryz.pinned [.sentinel] true :=
  OpenClaim.laidByTextAt_later rfl rfl tie2 noOwnUnsafe
theorem fnExactIsSplit_row_tie : Rows.fnExactIsSplitRow.laidByTextAt .later Tryz.pinned [.sentinel] true :=
  OpenClaim.laidByTextAt_later rfl rfl tie2 noOwnUnsafe
theorem tie3 : Tryz.prog.laidByTextLater [("loop.example/g01267/impl.errNotCommutative", Rows.laid_loop_example_g01267_impl_errNotCommutative), ("loop.example/g01267/impl.errNoPartNumbers", Rows.laid_loop_example_g01267_impl_errNoPartNumbers)] [.sentinel, .sentinel] true :=
  Program.laidByTextLater.sub seatTie1 ["loop.example/g01267/impl.errNotCommutative", "loop.example/g01267/impl.errNoPartNumbers"] (by kernel_rfl) (by kernel_rfl)
theorem fnExactPartNumber_row_tie : Rows.fnExactPartNumberRow.laidByTextAt .later Tryz.pinned [.sentinel, .sentinel] true :=
  OpenClaim.laidByTextAt_later rfl rfl tie3 noOwnUnsafe
theorem fnExactPartOfUpto_row_tie : Rows.fnExactPartOfUptoRow.laidByTextAt .later Tryz.pinned [.sentinel, .sentinel] true :=
  OpenClaim.laidByTextAt_later rfl rfl tie noOwnUnsafe
theorem fnExactSizesOfPartsUpto_row_tie : Rows.fnExactSizesOfPartsUptoRow.laidByTextAt .later Tryz.pinned [.sentinel] true :=
  OpenClaim.laidByTextAt_later rfl rfl tie2 noOwnUnsafe
theorem fnExactDegreesOfPartsUpto_row_tie : Rows.fnExactDegreesOfPartsUptoRow.laidByTextAt .later Tryz.pinned [.sentinel] true :=
  OpenClaim.laidByTextAt_later rfl rfl tie2 noOwnUnsafe
theorem fnExactIsSplitUpto_row_tie : Rows.fnExactIsSplitUptoRow.laidByTextAt .later Tryz.pinned [.sentinel] true :=
  OpenClaim.laidByTextAt_later rfl rfl tie2 noOwnUnsafe
theorem fnExactPartNumberUpto_row_tie : Rows.fnExactPartNumberUptoRow.laidByTextAt .later Tryz.pinned [.sentinel, .sentinel] true :=
  OpenClaim.laidByTextAt_later rfl rfl tie3 noOwnUnsafe
end Go.Proofs.YtmlnjicajdbjlaaGreatDoor
