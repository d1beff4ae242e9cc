/- What the head line of the translation says: that it is cut, with no lift; no statement of the seat is proved here. -/
import Derived.Test.YtlpccepifehilaaSw10
import Derived.Test.YtlpccepifehilaaChecked
namespace Go.Proofs.Ytlpccepifehilaa
open Go
set_option maxHeartbeats 8000000
set_option maxRecDepth 100000
theorem headSigns : Try.prog.initOrder.toList = ([104, 97, 114, 110, 101, 115, 115, 32, 102, 51, 49, 55, 53, 52, 53, 53, 48, 50, 53, 98, 98, 49, 48, 52, 53, 98, 51, 51, 56, 101, 56, 52, 98, 54, 54, 51, 100, 56, 52, 48, 52, 54, 97, 55, 57, 56, 100, 56, 97, 102, 57, 57, 51, 50, 52, 97, 98, 97, 51, 50, 102, 50, 52, 49, 98, 100, 57, 54, 52, 56, 97, 97, 32, 99, 117, 116, 32, 97, 116, 32, 108, 111, 111, 112, 46, 101, 120, 97, 109, 112, 108, 101, 47, 103, 48, 49, 50, 54, 55, 47, 108, 97, 119, 115, 46, 70, 110, 69, 120, 97, 99, 116, 80, 101, 114, 109, 117, 116, 101, 84, 101, 110, 115, 111, 114, 32, 108, 111, 111, 112, 46, 101, 120, 97, 109, 112, 108, 101, 47, 103, 48, 49, 50, 54, 55, 47, 108, 97, 119, 115, 46, 70, 110, 69, 120, 97, 99, 116, 67, 111, 117, 110, 116, 72, 111, 109, 111, 109, 111, 114, 112, 104, 105, 115, 109, 115] : List Nat).map Char.ofNat := by
  have h : Try.prog.initOrder = String.ofList (([104, 97, 114, 110, 101, 115, 115, 32, 102, 51, 49, 55, 53, 52, 53, 53, 48, 50, 53, 98, 98, 49, 48, 52, 53, 98, 51, 51, 56, 101, 56, 52, 98, 54, 54, 51, 100, 56, 52, 48, 52, 54, 97, 55, 57, 56, 100, 56, 97, 102, 57, 57, 51, 50, 52, 97, 98, 97, 51, 50, 102, 50, 52, 49, 98, 100, 57, 54, 52, 56, 97, 97, 32, 99, 117, 116, 32, 97, 116, 32, 108, 111, 111, 112, 46, 101, 120, 97, 109, 112, 108, 101, 47, 103, 48, 49, 50, 54, 55, 47, 108, 97, 119, 115, 46, 70, 110, 69, 120, 97, 99, 116, 80, 101, 114, 109, 117, 116, 101, 84, 101, 110, 115, 111, 114, 32, 108, 111, 111, 112, 46, 101, 120, 97, 109, 112, 108, 101, 47, 103, 48, 49, 50, 54, 55, 47, 108, 97, 119, 115, 46, 70, 110, 69, 120, 97, 99, 116, 67, 111, 117, 110, 116, 72, 111, 109, 111, 109, 111, 114, 112, 104, 105, 115, 109, 115] : List Nat).map Char.ofNat) := by kernel_rfl
  rw [h]; exact String.toList_ofList
theorem headParts : Try.prog.initOrder.toList = "harness".toList ++ ' ' :: ((((Try.prog.initOrder.toList).drop 8).take 64) ++ ' ' :: ("cut".toList ++ ' ' :: (Try.prog.initOrder.toList).drop 77)) := by
  rw [headSigns]; kernel_rfl
theorem headWords : behindMainWord (wordsSigns Try.prog.initOrder.toList) = "cut".toList :: wordsSigns ((Try.prog.initOrder.toList).drop 77) :=
  Go.Sw.cutHead _ _ _ headParts (by rw [headSigns]; kernel_rfl)
theorem headMake : Try.prog.make = some .cut := Go.Sw.make_cut _ _ headWords
theorem headFinal : Try.prog.liftsFinal = false := Go.Sw.final_cut _ _ headWords
theorem headEnter : Try.prog.mayEnter = true := Go.Sw.enter_cut _ _ headWords (by kernel_rfl) (by kernel_rfl) (by kernel_rfl)
end Go.Proofs.Ytlpccepifehilaa
