/- What the head line of the translation says: that it is cut, with no lift; no statement of the seat is proved here. -/
import Derived.Test.YtohkfmgflecgoaaSw10
import Derived.Test.YtohkfmgflecgoaaChecked
namespace Go.Proofs.Ytohkfmgflecgoaa
open Go
set_option maxHeartbeats 8000000
set_option maxRecDepth 100000
theorem headSigns : Try.prog.initOrder.toList = ([104, 97, 114, 110, 101, 115, 115, 32, 54, 97, 102, 52, 98, 57, 102, 97, 100, 97, 54, 99, 57, 98, 51, 56, 55, 48, 97, 102, 100, 48, 53, 53, 98, 97, 99, 49, 99, 50, 100, 56, 55, 49, 101, 101, 53, 50, 100, 98, 52, 54, 48, 98, 50, 49, 98, 52, 52, 56, 102, 101, 97, 51, 51, 56, 52, 51, 50, 102, 99, 101, 101, 51, 32, 99, 117, 116, 32, 97, 116, 32, 108, 111, 111, 112, 46, 101, 120, 97, 109, 112, 108, 101, 47, 103, 48, 49, 50, 54, 55, 47, 108, 97, 119, 115, 46, 70, 110, 69, 120, 97, 99, 116, 80, 97, 114, 115, 101, 86, 101, 99, 116, 111, 114] : List Nat).map Char.ofNat := by
  have h : Try.prog.initOrder = String.ofList (([104, 97, 114, 110, 101, 115, 115, 32, 54, 97, 102, 52, 98, 57, 102, 97, 100, 97, 54, 99, 57, 98, 51, 56, 55, 48, 97, 102, 100, 48, 53, 53, 98, 97, 99, 49, 99, 50, 100, 56, 55, 49, 101, 101, 53, 50, 100, 98, 52, 54, 48, 98, 50, 49, 98, 52, 52, 56, 102, 101, 97, 51, 51, 56, 52, 51, 50, 102, 99, 101, 101, 51, 32, 99, 117, 116, 32, 97, 116, 32, 108, 111, 111, 112, 46, 101, 120, 97, 109, 112, 108, 101, 47, 103, 48, 49, 50, 54, 55, 47, 108, 97, 119, 115, 46, 70, 110, 69, 120, 97, 99, 116, 80, 97, 114, 115, 101, 86, 101, 99, 116, 111, 114] : List Nat).map Char.ofNat) := by kernel_rfl
  rw [h]; exact String.toList_ofList
theorem headParts : Try.prog.initOrder.toList = "harness".toList ++ ' ' :: ((((Try.prog.initOrder.toList).drop 8).take 64) ++ ' ' :: ("cut".toList ++ ' ' :: (Try.prog.initOrder.toList).drop 77)) := by
  rw [headSigns]; kernel_rfl
theorem headWords : behindMainWord (wordsSigns Try.prog.initOrder.toList) = "cut".toList :: wordsSigns ((Try.prog.initOrder.toList).drop 77) :=
  Go.Sw.cutHead _ _ _ headParts (by rw [headSigns]; kernel_rfl)
theorem headMake : Try.prog.make = some .cut := Go.Sw.make_cut _ _ headWords
theorem headFinal : Try.prog.liftsFinal = false := Go.Sw.final_cut _ _ headWords
theorem headEnter : Try.prog.mayEnter = true := Go.Sw.enter_cut _ _ headWords (by kernel_rfl) (by kernel_rfl) (by kernel_rfl)
end Go.Proofs.Ytohkfmgflecgoaa
