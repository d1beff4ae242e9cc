/- What the head line of the translation says: that it is cut, with no lift; no statement of the seat is proved here. -/
import Derived.Test.YtfencffdhenjdaaDoorSw10
import Derived.Test.YtfencffdhenjdaaDoorChecked
namespace Go.Proofs.YtfencffdhenjdaaDoor
open Go
set_option maxHeartbeats 8000000
set_option maxRecDepth 100000
theorem headSigns : Tryd.prog.initOrder.toList = ([104, 97, 114, 110, 101, 115, 115, 32, 57, 55, 49, 48, 51, 55, 102, 100, 54, 97, 102, 101, 54, 102, 49, 51, 55, 102, 55, 57, 49, 57, 50, 99, 101, 53, 99, 102, 55, 99, 99, 54, 52, 54, 48, 54, 53, 102, 51, 98, 56, 55, 49, 50, 55, 50, 98, 102, 52, 101, 48, 56, 49, 53, 57, 52, 101, 49, 97, 48, 102, 98, 99, 55, 32, 99, 117, 116, 32, 97, 116, 32, 108, 111, 111, 112, 46, 101, 120, 97, 109, 112, 108, 101, 47, 103, 48, 49, 50, 54, 55, 47, 108, 97, 119, 115, 46, 70, 110, 69, 120, 97, 99, 116, 78, 105, 108, 114, 97, 100, 105, 99, 97, 108, 79, 102, 32, 108, 111, 111, 112, 46, 101, 120, 97, 109, 112, 108, 101, 47, 103, 48, 49, 50, 54, 55, 47, 108, 97, 119, 115, 46, 70, 110, 69, 120, 97, 99, 116, 73, 115, 82, 101, 100, 117, 99, 101, 100] : List Nat).map Char.ofNat := by
  have h : Tryd.prog.initOrder = String.ofList (([104, 97, 114, 110, 101, 115, 115, 32, 57, 55, 49, 48, 51, 55, 102, 100, 54, 97, 102, 101, 54, 102, 49, 51, 55, 102, 55, 57, 49, 57, 50, 99, 101, 53, 99, 102, 55, 99, 99, 54, 52, 54, 48, 54, 53, 102, 51, 98, 56, 55, 49, 50, 55, 50, 98, 102, 52, 101, 48, 56, 49, 53, 57, 52, 101, 49, 97, 48, 102, 98, 99, 55, 32, 99, 117, 116, 32, 97, 116, 32, 108, 111, 111, 112, 46, 101, 120, 97, 109, 112, 108, 101, 47, 103, 48, 49, 50, 54, 55, 47, 108, 97, 119, 115, 46, 70, 110, 69, 120, 97, 99, 116, 78, 105, 108, 114, 97, 100, 105, 99, 97, 108, 79, 102, 32, 108, 111, 111, 112, 46, 101, 120, 97, 109, 112, 108, 101, 47, 103, 48, 49, 50, 54, 55, 47, 108, 97, 119, 115, 46, 70, 110, 69, 120, 97, 99, 116, 73, 115, 82, 101, 100, 117, 99, 101, 100] : List Nat).map Char.ofNat) := by kernel_rfl
  rw [h]; exact String.toList_ofList
theorem headParts : Tryd.prog.initOrder.toList = "harness".toList ++ ' ' :: ((((Tryd.prog.initOrder.toList).drop 8).take 64) ++ ' ' :: ("cut".toList ++ ' ' :: (Tryd.prog.initOrder.toList).drop 77)) := by
  rw [headSigns]; kernel_rfl
theorem headWords : behindMainWord (wordsSigns Tryd.prog.initOrder.toList) = "cut".toList :: wordsSigns ((Tryd.prog.initOrder.toList).drop 77) :=
  Go.Sw.cutHead _ _ _ headParts (by rw [headSigns]; kernel_rfl)
theorem headMake : Tryd.prog.make = some .cut := Go.Sw.make_cut _ _ headWords
theorem headFinal : Tryd.prog.liftsFinal = false := Go.Sw.final_cut _ _ headWords
theorem headEnter : Tryd.prog.mayEnter = true := Go.Sw.enter_cut _ _ headWords (by kernel_rfl) (by kernel_rfl) (by kernel_rfl)
end Go.Proofs.YtfencffdhenjdaaDoor
