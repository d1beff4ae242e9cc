/- What the head line of the translation says: that it is cut, with no lift; no statement of the seat is proved here. -/
import Derived.Test.YtbeodbfbfbefkaaGreatDoorSw10
import Derived.Test.YtbeodbfbfbefkaaGreatDoorChecked
namespace Go.Proofs.YtbeodbfbfbefkaaGreatDoor
open Go
set_option maxHeartbeats 8000000
set_option maxRecDepth 100000
theorem headSigns : Tryz.prog.initOrder.toList = ([104, 97, 114, 110, 101, 115, 115, 32, 99, 49, 102, 48, 51, 52, 52, 50, 54, 98, 98, 50, 54, 99, 49, 52, 102, 56, 102, 48, 100, 55, 53, 49, 98, 102, 100, 97, 50, 49, 102, 53, 99, 50, 100, 55, 52, 56, 102, 97, 50, 98, 54, 55, 102, 50, 50, 56, 54, 54, 50, 49, 102, 97, 97, 97, 56, 48, 99, 56, 49, 53, 55, 49, 32, 99, 117, 116, 32, 97, 116, 32, 108, 111, 111, 112, 46, 101, 120, 97, 109, 112, 108, 101, 47, 103, 48, 49, 50, 54, 55, 47, 108, 97, 119, 115, 46, 70, 110, 69, 120, 97, 99, 116, 80, 97, 114, 116, 79, 102, 32, 108, 111, 111, 112, 46, 101, 120, 97, 109, 112, 108, 101, 47, 103, 48, 49, 50, 54, 55, 47, 108, 97, 119, 115, 46, 70, 110, 69, 120, 97, 99, 116, 83, 105, 122, 101, 115, 79, 102, 80, 97, 114, 116, 115, 32, 108, 111, 111, 112, 46, 101, 120, 97, 109, 112, 108, 101, 47, 103, 48, 49, 50, 54, 55, 47, 108, 97, 119, 115, 46, 70, 110, 69, 120, 97, 99, 116, 68, 101, 103, 114, 101, 101, 115, 79, 102, 80, 97, 114, 116, 115, 32, 108, 111, 111, 112, 46, 101, 120, 97, 109, 112, 108, 101, 47, 103, 48, 49, 50, 54, 55, 47, 108, 97, 119, 115, 46, 70, 110, 69, 120, 97, 99, 116, 80, 97, 114, 116, 78, 117, 109, 98, 101, 114] : List Nat).map Char.ofNat := by
  have h : Tryz.prog.initOrder = String.ofList (([104, 97, 114, 110, 101, 115, 115, 32, 99, 49, 102, 48, 51, 52, 52, 50, 54, 98, 98, 50, 54, 99, 49, 52, 102, 56, 102, 48, 100, 55, 53, 49, 98, 102, 100, 97, 50, 49, 102, 53, 99, 50, 100, 55, 52, 56, 102, 97, 50, 98, 54, 55, 102, 50, 50, 56, 54, 54, 50, 49, 102, 97, 97, 97, 56, 48, 99, 56, 49, 53, 55, 49, 32, 99, 117, 116, 32, 97, 116, 32, 108, 111, 111, 112, 46, 101, 120, 97, 109, 112, 108, 101, 47, 103, 48, 49, 50, 54, 55, 47, 108, 97, 119, 115, 46, 70, 110, 69, 120, 97, 99, 116, 80, 97, 114, 116, 79, 102, 32, 108, 111, 111, 112, 46, 101, 120, 97, 109, 112, 108, 101, 47, 103, 48, 49, 50, 54, 55, 47, 108, 97, 119, 115, 46, 70, 110, 69, 120, 97, 99, 116, 83, 105, 122, 101, 115, 79, 102, 80, 97, 114, 116, 115, 32, 108, 111, 111, 112, 46, 101, 120, 97, 109, 112, 108, 101, 47, 103, 48, 49, 50, 54, 55, 47, 108, 97, 119, 115, 46, 70, 110, 69, 120, 97, 99, 116, 68, 101, 103, 114, 101, 101, 115, 79, 102, 80, 97, 114, 116, 115, 32, 108, 111, 111, 112, 46, 101, 120, 97, 109, 112, 108, 101, 47, 103, 48, 49, 50, 54, 55, 47, 108, 97, 119, 115, 46, 70, 110, 69, 120, 97, 99, 116, 80, 97, 114, 116, 78, 117, 109, 98, 101, 114] : List Nat).map Char.ofNat) := by kernel_rfl
  rw [h]; exact String.toList_ofList
theorem headParts : Tryz.prog.initOrder.toList = "harness".toList ++ ' ' :: ((((Tryz.prog.initOrder.toList).drop 8).take 64) ++ ' ' :: ("cut".toList ++ ' ' :: (Tryz.prog.initOrder.toList).drop 77)) := by
  rw [headSigns]; kernel_rfl
theorem headWords : behindMainWord (wordsSigns Tryz.prog.initOrder.toList) = "cut".toList :: wordsSigns ((Tryz.prog.initOrder.toList).drop 77) :=
  Go.Sw.cutHead _ _ _ headParts (by rw [headSigns]; kernel_rfl)
theorem headMake : Tryz.prog.make = some .cut := Go.Sw.make_cut _ _ headWords
theorem headFinal : Tryz.prog.liftsFinal = false := Go.Sw.final_cut _ _ headWords
theorem headEnter : Tryz.prog.mayEnter = true := Go.Sw.enter_cut _ _ headWords (by kernel_rfl) (by kernel_rfl) (by kernel_rfl)
end Go.Proofs.YtbeodbfbfbefkaaGreatDoor
