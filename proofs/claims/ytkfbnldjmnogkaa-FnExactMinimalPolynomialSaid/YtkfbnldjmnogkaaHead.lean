/- What the head line of the translation says: that it is cut, with no lift; no statement of the seat is proved here. -/
import Derived.Test.YtkfbnldjmnogkaaSw10
import Derived.Test.YtkfbnldjmnogkaaChecked
namespace Go.Proofs.Ytkfbnldjmnogkaa
open Go
set_option maxHeartbeats 8000000
set_option maxRecDepth 100000
theorem headSigns : Try.prog.initOrder.toList = ([104, 97, 114, 110, 101, 115, 115, 32, 52, 97, 55, 101, 98, 56, 57, 53, 99, 48, 100, 97, 97, 102, 48, 50, 52, 57, 49, 54, 49, 53, 57, 102, 54, 101, 102, 98, 57, 54, 97, 49, 101, 51, 51, 100, 51, 54, 100, 49, 100, 98, 98, 51, 56, 56, 53, 53, 56, 55, 48, 48, 57, 49, 101, 56, 99, 52, 102, 101, 56, 98, 52, 100, 32, 99, 117, 116, 32, 97, 116, 32, 108, 111, 111, 112, 46, 101, 120, 97, 109, 112, 108, 101, 47, 103, 48, 49, 50, 54, 55, 47, 108, 97, 119, 115, 46, 70, 110, 69, 120, 97, 99, 116, 77, 105, 110, 105, 109, 97, 108, 80, 111, 108, 121, 110, 111, 109, 105, 97, 108] : List Nat).map Char.ofNat := by
  have h : Try.prog.initOrder = String.ofList (([104, 97, 114, 110, 101, 115, 115, 32, 52, 97, 55, 101, 98, 56, 57, 53, 99, 48, 100, 97, 97, 102, 48, 50, 52, 57, 49, 54, 49, 53, 57, 102, 54, 101, 102, 98, 57, 54, 97, 49, 101, 51, 51, 100, 51, 54, 100, 49, 100, 98, 98, 51, 56, 56, 53, 53, 56, 55, 48, 48, 57, 49, 101, 56, 99, 52, 102, 101, 56, 98, 52, 100, 32, 99, 117, 116, 32, 97, 116, 32, 108, 111, 111, 112, 46, 101, 120, 97, 109, 112, 108, 101, 47, 103, 48, 49, 50, 54, 55, 47, 108, 97, 119, 115, 46, 70, 110, 69, 120, 97, 99, 116, 77, 105, 110, 105, 109, 97, 108, 80, 111, 108, 121, 110, 111, 109, 105, 97, 108] : List Nat).map Char.ofNat) := by kernel_rfl
  rw [h]; exact String.toList_ofList
theorem headParts : Try.prog.initOrder.toList = "harness".toList ++ ' ' :: ((((Try.prog.initOrder.toList).drop 8).take 64) ++ ' ' :: ("cut".toList ++ ' ' :: (Try.prog.initOrder.toList).drop 77)) := by
  rw [headSigns]; kernel_rfl
theorem headWords : behindMainWord (wordsSigns Try.prog.initOrder.toList) = "cut".toList :: wordsSigns ((Try.prog.initOrder.toList).drop 77) :=
  Go.Sw.cutHead _ _ _ headParts (by rw [headSigns]; kernel_rfl)
theorem headMake : Try.prog.make = some .cut := Go.Sw.make_cut _ _ headWords
theorem headFinal : Try.prog.liftsFinal = false := Go.Sw.final_cut _ _ headWords
theorem headEnter : Try.prog.mayEnter = true := Go.Sw.enter_cut _ _ headWords (by kernel_rfl) (by kernel_rfl) (by kernel_rfl)
end Go.Proofs.Ytkfbnldjmnogkaa
