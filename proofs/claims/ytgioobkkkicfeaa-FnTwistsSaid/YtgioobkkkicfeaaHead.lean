/- What the head line of the translation says: that it is cut, with no lift; no statement of the seat is proved here. -/
import Derived.Test.YtgioobkkkicfeaaSw10
import Derived.Test.YtgioobkkkicfeaaChecked
namespace Go.Proofs.Ytgioobkkkicfeaa
open Go
set_option maxHeartbeats 8000000
set_option maxRecDepth 100000
theorem headSigns : Try.prog.initOrder.toList = ([104, 97, 114, 110, 101, 115, 115, 32, 100, 55, 98, 53, 99, 54, 56, 56, 51, 49, 48, 53, 53, 97, 97, 50, 99, 101, 51, 55, 56, 50, 54, 57, 101, 48, 99, 49, 50, 102, 97, 51, 52, 51, 55, 52, 99, 54, 97, 49, 101, 48, 99, 101, 55, 98, 53, 49, 97, 101, 98, 101, 102, 102, 57, 50, 56, 102, 99, 55, 102, 100, 48, 56, 32, 99, 117, 116, 32, 97, 116, 32, 108, 111, 111, 112, 46, 101, 120, 97, 109, 112, 108, 101, 47, 103, 48, 49, 50, 54, 55, 47, 108, 97, 119, 115, 46, 70, 110, 84, 119, 105, 115, 116, 115] : List Nat).map Char.ofNat := by
  have h : Try.prog.initOrder = String.ofList (([104, 97, 114, 110, 101, 115, 115, 32, 100, 55, 98, 53, 99, 54, 56, 56, 51, 49, 48, 53, 53, 97, 97, 50, 99, 101, 51, 55, 56, 50, 54, 57, 101, 48, 99, 49, 50, 102, 97, 51, 52, 51, 55, 52, 99, 54, 97, 49, 101, 48, 99, 101, 55, 98, 53, 49, 97, 101, 98, 101, 102, 102, 57, 50, 56, 102, 99, 55, 102, 100, 48, 56, 32, 99, 117, 116, 32, 97, 116, 32, 108, 111, 111, 112, 46, 101, 120, 97, 109, 112, 108, 101, 47, 103, 48, 49, 50, 54, 55, 47, 108, 97, 119, 115, 46, 70, 110, 84, 119, 105, 115, 116, 115] : List Nat).map Char.ofNat) := by kernel_rfl
  rw [h]; exact String.toList_ofList
theorem headParts : Try.prog.initOrder.toList = "harness".toList ++ ' ' :: ((((Try.prog.initOrder.toList).drop 8).take 64) ++ ' ' :: ("cut".toList ++ ' ' :: (Try.prog.initOrder.toList).drop 77)) := by
  rw [headSigns]; kernel_rfl
theorem headWords : behindMainWord (wordsSigns Try.prog.initOrder.toList) = "cut".toList :: wordsSigns ((Try.prog.initOrder.toList).drop 77) :=
  Go.Sw.cutHead _ _ _ headParts (by rw [headSigns]; kernel_rfl)
theorem headMake : Try.prog.make = some .cut := Go.Sw.make_cut _ _ headWords
theorem headFinal : Try.prog.liftsFinal = false := Go.Sw.final_cut _ _ headWords
theorem headEnter : Try.prog.mayEnter = true := Go.Sw.enter_cut _ _ headWords (by kernel_rfl) (by kernel_rfl) (by kernel_rfl)
end Go.Proofs.Ytgioobkkkicfeaa
