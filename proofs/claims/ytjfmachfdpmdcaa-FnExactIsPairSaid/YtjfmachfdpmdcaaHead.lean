/- What the head line of the translation says: that it is cut, with no lift; no statement of the seat is proved here. -/
import Derived.Test.YtjfmachfdpmdcaaSw10
import Derived.Test.YtjfmachfdpmdcaaChecked
namespace Go.Proofs.Ytjfmachfdpmdcaa
open Go
set_option maxHeartbeats 8000000
set_option maxRecDepth 100000
theorem headSigns : Try.prog.initOrder.toList = ([104, 97, 114, 110, 101, 115, 115, 32, 99, 56, 57, 56, 54, 99, 54, 55, 100, 51, 98, 99, 49, 55, 51, 55, 56, 102, 100, 55, 51, 48, 102, 50, 99, 54, 99, 99, 52, 52, 50, 102, 48, 98, 97, 55, 50, 99, 48, 99, 99, 51, 54, 56, 51, 98, 55, 55, 98, 51, 56, 52, 100, 100, 52, 99, 57, 52, 98, 57, 97, 99, 53, 49, 32, 99, 117, 116, 32, 97, 116, 32, 108, 111, 111, 112, 46, 101, 120, 97, 109, 112, 108, 101, 47, 103, 48, 49, 50, 54, 55, 47, 108, 97, 119, 115, 46, 70, 110, 69, 120, 97, 99, 116, 73, 115, 80, 97, 105, 114] : List Nat).map Char.ofNat := by
  have h : Try.prog.initOrder = String.ofList (([104, 97, 114, 110, 101, 115, 115, 32, 99, 56, 57, 56, 54, 99, 54, 55, 100, 51, 98, 99, 49, 55, 51, 55, 56, 102, 100, 55, 51, 48, 102, 50, 99, 54, 99, 99, 52, 52, 50, 102, 48, 98, 97, 55, 50, 99, 48, 99, 99, 51, 54, 56, 51, 98, 55, 55, 98, 51, 56, 52, 100, 100, 52, 99, 57, 52, 98, 57, 97, 99, 53, 49, 32, 99, 117, 116, 32, 97, 116, 32, 108, 111, 111, 112, 46, 101, 120, 97, 109, 112, 108, 101, 47, 103, 48, 49, 50, 54, 55, 47, 108, 97, 119, 115, 46, 70, 110, 69, 120, 97, 99, 116, 73, 115, 80, 97, 105, 114] : List Nat).map Char.ofNat) := by kernel_rfl
  rw [h]; exact String.toList_ofList
theorem headParts : Try.prog.initOrder.toList = "harness".toList ++ ' ' :: ((((Try.prog.initOrder.toList).drop 8).take 64) ++ ' ' :: ("cut".toList ++ ' ' :: (Try.prog.initOrder.toList).drop 77)) := by
  rw [headSigns]; kernel_rfl
theorem headWords : behindMainWord (wordsSigns Try.prog.initOrder.toList) = "cut".toList :: wordsSigns ((Try.prog.initOrder.toList).drop 77) :=
  Go.Sw.cutHead _ _ _ headParts (by rw [headSigns]; kernel_rfl)
theorem headMake : Try.prog.make = some .cut := Go.Sw.make_cut _ _ headWords
theorem headFinal : Try.prog.liftsFinal = false := Go.Sw.final_cut _ _ headWords
theorem headEnter : Try.prog.mayEnter = true := Go.Sw.enter_cut _ _ headWords (by kernel_rfl) (by kernel_rfl) (by kernel_rfl)
end Go.Proofs.Ytjfmachfdpmdcaa
