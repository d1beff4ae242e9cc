/- What the head line of the translation says: that it is cut, with no lift; no statement of the seat is proved here. -/
import Derived.Test.YtdeinnaeicmlfaaGreatSw10
import Derived.Test.YtdeinnaeicmlfaaGreatChecked
namespace Go.Proofs.YtdeinnaeicmlfaaGreat
open Go
set_option maxHeartbeats 8000000
set_option maxRecDepth 100000
theorem headSigns : Tryz.prog.initOrder.toList = ([104, 97, 114, 110, 101, 115, 115, 32, 55, 102, 99, 98, 53, 101, 98, 97, 55, 48, 98, 98, 49, 54, 56, 49, 52, 97, 57, 55, 53, 102, 99, 53, 56, 48, 54, 56, 51, 50, 98, 99, 55, 51, 55, 100, 99, 99, 53, 52, 101, 100, 53, 102, 48, 54, 55, 50, 97, 99, 53, 49, 49, 100, 52, 100, 99, 100, 98, 52, 49, 98, 57, 100, 32, 99, 117, 116, 32, 97, 116, 32, 108, 111, 111, 112, 46, 101, 120, 97, 109, 112, 108, 101, 47, 103, 48, 49, 50, 54, 55, 47, 108, 97, 119, 115, 46, 70, 110, 83, 109, 97, 108, 108, 71, 114, 111, 117, 112, 115] : List Nat).map Char.ofNat := by
  have h : Tryz.prog.initOrder = String.ofList (([104, 97, 114, 110, 101, 115, 115, 32, 55, 102, 99, 98, 53, 101, 98, 97, 55, 48, 98, 98, 49, 54, 56, 49, 52, 97, 57, 55, 53, 102, 99, 53, 56, 48, 54, 56, 51, 50, 98, 99, 55, 51, 55, 100, 99, 99, 53, 52, 101, 100, 53, 102, 48, 54, 55, 50, 97, 99, 53, 49, 49, 100, 52, 100, 99, 100, 98, 52, 49, 98, 57, 100, 32, 99, 117, 116, 32, 97, 116, 32, 108, 111, 111, 112, 46, 101, 120, 97, 109, 112, 108, 101, 47, 103, 48, 49, 50, 54, 55, 47, 108, 97, 119, 115, 46, 70, 110, 83, 109, 97, 108, 108, 71, 114, 111, 117, 112, 115] : List Nat).map Char.ofNat) := by kernel_rfl
  rw [h]; exact String.toList_ofList
theorem headParts : Tryz.prog.initOrder.toList = "harness".toList ++ ' ' :: ((((Tryz.prog.initOrder.toList).drop 8).take 64) ++ ' ' :: ("cut".toList ++ ' ' :: (Tryz.prog.initOrder.toList).drop 77)) := by
  rw [headSigns]; kernel_rfl
theorem headWords : behindMainWord (wordsSigns Tryz.prog.initOrder.toList) = "cut".toList :: wordsSigns ((Tryz.prog.initOrder.toList).drop 77) :=
  Go.Sw.cutHead _ _ _ headParts (by rw [headSigns]; kernel_rfl)
theorem headMake : Tryz.prog.make = some .cut := Go.Sw.make_cut _ _ headWords
theorem headFinal : Tryz.prog.liftsFinal = false := Go.Sw.final_cut _ _ headWords
theorem headEnter : Tryz.prog.mayEnter = true := Go.Sw.enter_cut _ _ headWords (by kernel_rfl) (by kernel_rfl) (by kernel_rfl)
end Go.Proofs.YtdeinnaeicmlfaaGreat
