/- What the head line of the translation says: that it is cut, with no lift; no statement of the seat is proved here. -/
import Derived.Test.YtpcmmlkcanglmaaSw10
import Derived.Test.YtpcmmlkcanglmaaChecked
namespace Go.Proofs.Ytpcmmlkcanglmaa
open Go
set_option maxHeartbeats 8000000
set_option maxRecDepth 100000
theorem headSigns : Try.prog.initOrder.toList = ([104, 97, 114, 110, 101, 115, 115, 32, 57, 49, 50, 101, 54, 97, 51, 49, 48, 57, 52, 52, 50, 56, 49, 100, 101, 49, 51, 48, 54, 102, 50, 54, 56, 99, 52, 101, 99, 51, 54, 49, 57, 49, 56, 49, 51, 98, 53, 53, 99, 98, 53, 101, 56, 54, 101, 53, 101, 49, 102, 56, 97, 102, 51, 98, 49, 53, 49, 49, 56, 100, 97, 99, 32, 99, 117, 116, 32, 97, 116, 32, 108, 111, 111, 112, 46, 101, 120, 97, 109, 112, 108, 101, 47, 103, 48, 49, 50, 54, 55, 47, 108, 97, 119, 115, 46, 70, 110, 69, 120, 97, 99, 116, 78, 97, 109, 101, 100, 65, 108, 103, 101, 98, 114, 97] : List Nat).map Char.ofNat := by
  have h : Try.prog.initOrder = String.ofList (([104, 97, 114, 110, 101, 115, 115, 32, 57, 49, 50, 101, 54, 97, 51, 49, 48, 57, 52, 52, 50, 56, 49, 100, 101, 49, 51, 48, 54, 102, 50, 54, 56, 99, 52, 101, 99, 51, 54, 49, 57, 49, 56, 49, 51, 98, 53, 53, 99, 98, 53, 101, 56, 54, 101, 53, 101, 49, 102, 56, 97, 102, 51, 98, 49, 53, 49, 49, 56, 100, 97, 99, 32, 99, 117, 116, 32, 97, 116, 32, 108, 111, 111, 112, 46, 101, 120, 97, 109, 112, 108, 101, 47, 103, 48, 49, 50, 54, 55, 47, 108, 97, 119, 115, 46, 70, 110, 69, 120, 97, 99, 116, 78, 97, 109, 101, 100, 65, 108, 103, 101, 98, 114, 97] : List Nat).map Char.ofNat) := by kernel_rfl
  rw [h]; exact String.toList_ofList
theorem headParts : Try.prog.initOrder.toList = "harness".toList ++ ' ' :: ((((Try.prog.initOrder.toList).drop 8).take 64) ++ ' ' :: ("cut".toList ++ ' ' :: (Try.prog.initOrder.toList).drop 77)) := by
  rw [headSigns]; kernel_rfl
theorem headWords : behindMainWord (wordsSigns Try.prog.initOrder.toList) = "cut".toList :: wordsSigns ((Try.prog.initOrder.toList).drop 77) :=
  Go.Sw.cutHead _ _ _ headParts (by rw [headSigns]; kernel_rfl)
theorem headMake : Try.prog.make = some .cut := Go.Sw.make_cut _ _ headWords
theorem headFinal : Try.prog.liftsFinal = false := Go.Sw.final_cut _ _ headWords
theorem headEnter : Try.prog.mayEnter = true := Go.Sw.enter_cut _ _ headWords (by kernel_rfl) (by kernel_rfl) (by kernel_rfl)
end Go.Proofs.Ytpcmmlkcanglmaa
