/- What the head line of the translation says: that it is cut, with no lift; no statement of the seat is proved here. -/
import Derived.Test.YtmgdigbkocligaaDoorSw10
import Derived.Test.YtmgdigbkocligaaDoorChecked
namespace Go.Proofs.YtmgdigbkocligaaDoor
open Go
set_option maxHeartbeats 8000000
set_option maxRecDepth 100000
theorem headSigns : Tryd.prog.initOrder.toList = ([104, 97, 114, 110, 101, 115, 115, 32, 98, 98, 50, 97, 49, 102, 50, 98, 100, 97, 49, 57, 57, 57, 49, 56, 55, 52, 49, 99, 101, 48, 49, 55, 98, 100, 53, 97, 97, 57, 49, 52, 54, 97, 54, 49, 100, 99, 97, 56, 97, 101, 102, 57, 99, 49, 54, 56, 48, 99, 98, 56, 98, 50, 50, 53, 53, 53, 50, 51, 49, 102, 50, 53, 32, 99, 117, 116, 32, 97, 116, 32, 108, 111, 111, 112, 46, 101, 120, 97, 109, 112, 108, 101, 47, 103, 48, 49, 50, 54, 55, 47, 108, 97, 119, 115, 46, 70, 110, 69, 120, 97, 99, 116, 80, 97, 114, 115, 101, 65, 108, 103, 101, 98, 114, 97] : List Nat).map Char.ofNat := by
  have h : Tryd.prog.initOrder = String.ofList (([104, 97, 114, 110, 101, 115, 115, 32, 98, 98, 50, 97, 49, 102, 50, 98, 100, 97, 49, 57, 57, 57, 49, 56, 55, 52, 49, 99, 101, 48, 49, 55, 98, 100, 53, 97, 97, 57, 49, 52, 54, 97, 54, 49, 100, 99, 97, 56, 97, 101, 102, 57, 99, 49, 54, 56, 48, 99, 98, 56, 98, 50, 50, 53, 53, 53, 50, 51, 49, 102, 50, 53, 32, 99, 117, 116, 32, 97, 116, 32, 108, 111, 111, 112, 46, 101, 120, 97, 109, 112, 108, 101, 47, 103, 48, 49, 50, 54, 55, 47, 108, 97, 119, 115, 46, 70, 110, 69, 120, 97, 99, 116, 80, 97, 114, 115, 101, 65, 108, 103, 101, 98, 114, 97] : List Nat).map Char.ofNat) := by kernel_rfl
  rw [h]; exact String.toList_ofList
theorem headParts : Tryd.prog.initOrder.toList = "harness".toList ++ ' ' :: ((((Tryd.prog.initOrder.toList).drop 8).take 64) ++ ' ' :: ("cut".toList ++ ' ' :: (Tryd.prog.initOrder.toList).drop 77)) := by
  rw [headSigns]; kernel_rfl
theorem headWords : behindMainWord (wordsSigns Tryd.prog.initOrder.toList) = "cut".toList :: wordsSigns ((Tryd.prog.initOrder.toList).drop 77) :=
  Go.Sw.cutHead _ _ _ headParts (by rw [headSigns]; kernel_rfl)
theorem headMake : Tryd.prog.make = some .cut := Go.Sw.make_cut _ _ headWords
theorem headFinal : Tryd.prog.liftsFinal = false := Go.Sw.final_cut _ _ headWords
theorem headEnter : Tryd.prog.mayEnter = true := Go.Sw.enter_cut _ _ headWords (by kernel_rfl) (by kernel_rfl) (by kernel_rfl)
end Go.Proofs.YtmgdigbkocligaaDoor
