/- What the head line of the translation says: that it is cut, with no lift; no statement of the seat is proved here. -/
import Derived.Test.YtppbjdebomikbaaSw10
import Derived.Test.YtppbjdebomikbaaChecked
namespace Go.Proofs.Ytppbjdebomikbaa
open Go
set_option maxHeartbeats 8000000
set_option maxRecDepth 100000
theorem headSigns : Try.prog.initOrder.toList = ([104, 97, 114, 110, 101, 115, 115, 32, 98, 102, 57, 51, 51, 54, 52, 102, 99, 100, 54, 100, 55, 100, 53, 54, 49, 52, 99, 98, 55, 50, 52, 55, 100, 55, 98, 50, 97, 51, 54, 57, 99, 101, 53, 49, 98, 49, 53, 97, 52, 100, 55, 50, 100, 49, 99, 56, 99, 48, 55, 49, 50, 50, 56, 97, 100, 55, 48, 48, 101, 49, 100, 101, 32, 99, 117, 116, 32, 97, 116, 32, 108, 111, 111, 112, 46, 101, 120, 97, 109, 112, 108, 101, 47, 103, 48, 49, 50, 54, 55, 47, 108, 97, 119, 115, 46, 70, 110, 69, 120, 97, 99, 116, 71, 114, 111, 117, 112, 80, 97, 105, 114] : List Nat).map Char.ofNat := by
  have h : Try.prog.initOrder = String.ofList (([104, 97, 114, 110, 101, 115, 115, 32, 98, 102, 57, 51, 51, 54, 52, 102, 99, 100, 54, 100, 55, 100, 53, 54, 49, 52, 99, 98, 55, 50, 52, 55, 100, 55, 98, 50, 97, 51, 54, 57, 99, 101, 53, 49, 98, 49, 53, 97, 52, 100, 55, 50, 100, 49, 99, 56, 99, 48, 55, 49, 50, 50, 56, 97, 100, 55, 48, 48, 101, 49, 100, 101, 32, 99, 117, 116, 32, 97, 116, 32, 108, 111, 111, 112, 46, 101, 120, 97, 109, 112, 108, 101, 47, 103, 48, 49, 50, 54, 55, 47, 108, 97, 119, 115, 46, 70, 110, 69, 120, 97, 99, 116, 71, 114, 111, 117, 112, 80, 97, 105, 114] : List Nat).map Char.ofNat) := by kernel_rfl
  rw [h]; exact String.toList_ofList
theorem headParts : Try.prog.initOrder.toList = "harness".toList ++ ' ' :: ((((Try.prog.initOrder.toList).drop 8).take 64) ++ ' ' :: ("cut".toList ++ ' ' :: (Try.prog.initOrder.toList).drop 77)) := by
  rw [headSigns]; kernel_rfl
theorem headWords : behindMainWord (wordsSigns Try.prog.initOrder.toList) = "cut".toList :: wordsSigns ((Try.prog.initOrder.toList).drop 77) :=
  Go.Sw.cutHead _ _ _ headParts (by rw [headSigns]; kernel_rfl)
theorem headMake : Try.prog.make = some .cut := Go.Sw.make_cut _ _ headWords
theorem headFinal : Try.prog.liftsFinal = false := Go.Sw.final_cut _ _ headWords
theorem headEnter : Try.prog.mayEnter = true := Go.Sw.enter_cut _ _ headWords (by kernel_rfl) (by kernel_rfl) (by kernel_rfl)
end Go.Proofs.Ytppbjdebomikbaa
