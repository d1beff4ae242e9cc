/- What the head line of the translation says: that it is cut, with no lift; no statement of the seat is proved here. -/
import Derived.Test.YtklpefdaplchbaaSw10
import Derived.Test.YtklpefdaplchbaaChecked
namespace Go.Proofs.Ytklpefdaplchbaa
open Go
set_option maxHeartbeats 8000000
set_option maxRecDepth 100000
theorem headSigns : Try.prog.initOrder.toList = ([104, 97, 114, 110, 101, 115, 115, 32, 57, 98, 57, 55, 101, 102, 99, 56, 57, 100, 52, 53, 57, 53, 52, 98, 98, 56, 57, 101, 55, 52, 48, 98, 55, 97, 101, 57, 56, 50, 98, 49, 51, 99, 48, 100, 49, 56, 57, 51, 49, 53, 57, 56, 49, 98, 50, 52, 54, 50, 50, 55, 102, 97, 49, 50, 49, 98, 102, 99, 57, 56, 49, 48, 32, 99, 117, 116, 32, 97, 116, 32, 108, 111, 111, 112, 46, 101, 120, 97, 109, 112, 108, 101, 47, 103, 48, 49, 50, 54, 55, 47, 108, 97, 119, 115, 46, 70, 110, 83, 117, 114, 102, 97, 99, 101, 67, 111, 117, 110, 116, 115] : List Nat).map Char.ofNat := by
  have h : Try.prog.initOrder = String.ofList (([104, 97, 114, 110, 101, 115, 115, 32, 57, 98, 57, 55, 101, 102, 99, 56, 57, 100, 52, 53, 57, 53, 52, 98, 98, 56, 57, 101, 55, 52, 48, 98, 55, 97, 101, 57, 56, 50, 98, 49, 51, 99, 48, 100, 49, 56, 57, 51, 49, 53, 57, 56, 49, 98, 50, 52, 54, 50, 50, 55, 102, 97, 49, 50, 49, 98, 102, 99, 57, 56, 49, 48, 32, 99, 117, 116, 32, 97, 116, 32, 108, 111, 111, 112, 46, 101, 120, 97, 109, 112, 108, 101, 47, 103, 48, 49, 50, 54, 55, 47, 108, 97, 119, 115, 46, 70, 110, 83, 117, 114, 102, 97, 99, 101, 67, 111, 117, 110, 116, 115] : List Nat).map Char.ofNat) := by kernel_rfl
  rw [h]; exact String.toList_ofList
theorem headParts : Try.prog.initOrder.toList = "harness".toList ++ ' ' :: ((((Try.prog.initOrder.toList).drop 8).take 64) ++ ' ' :: ("cut".toList ++ ' ' :: (Try.prog.initOrder.toList).drop 77)) := by
  rw [headSigns]; kernel_rfl
theorem headWords : behindMainWord (wordsSigns Try.prog.initOrder.toList) = "cut".toList :: wordsSigns ((Try.prog.initOrder.toList).drop 77) :=
  Go.Sw.cutHead _ _ _ headParts (by rw [headSigns]; kernel_rfl)
theorem headMake : Try.prog.make = some .cut := Go.Sw.make_cut _ _ headWords
theorem headFinal : Try.prog.liftsFinal = false := Go.Sw.final_cut _ _ headWords
theorem headEnter : Try.prog.mayEnter = true := Go.Sw.enter_cut _ _ headWords (by kernel_rfl) (by kernel_rfl) (by kernel_rfl)
end Go.Proofs.Ytklpefdaplchbaa
