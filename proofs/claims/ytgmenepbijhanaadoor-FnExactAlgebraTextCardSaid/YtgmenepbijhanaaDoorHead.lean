/- What the head line of the translation says: that it is cut, with no lift; no statement of the seat is proved here. -/
import Derived.Test.YtgmenepbijhanaaDoorSw10
import Derived.Test.YtgmenepbijhanaaDoorChecked
namespace Go.Proofs.YtgmenepbijhanaaDoor
open Go
set_option maxHeartbeats 8000000
set_option maxRecDepth 100000
theorem headSigns : Tryd.prog.initOrder.toList = ([104, 97, 114, 110, 101, 115, 115, 32, 97, 98, 57, 102, 98, 101, 98, 53, 48, 48, 97, 53, 48, 56, 101, 50, 57, 99, 102, 100, 53, 52, 101, 49, 53, 48, 100, 52, 100, 49, 50, 51, 51, 98, 102, 49, 55, 52, 55, 48, 52, 99, 102, 97, 51, 53, 101, 102, 100, 55, 98, 50, 54, 51, 53, 97, 102, 51, 100, 51, 49, 53, 51, 100, 32, 99, 117, 116, 32, 97, 116, 32, 108, 111, 111, 112, 46, 101, 120, 97, 109, 112, 108, 101, 47, 103, 48, 49, 50, 54, 55, 47, 108, 97, 119, 115, 46, 70, 110, 69, 120, 97, 99, 116, 65, 108, 103, 101, 98, 114, 97, 84, 101, 120, 116] : List Nat).map Char.ofNat := by
  have h : Tryd.prog.initOrder = String.ofList (([104, 97, 114, 110, 101, 115, 115, 32, 97, 98, 57, 102, 98, 101, 98, 53, 48, 48, 97, 53, 48, 56, 101, 50, 57, 99, 102, 100, 53, 52, 101, 49, 53, 48, 100, 52, 100, 49, 50, 51, 51, 98, 102, 49, 55, 52, 55, 48, 52, 99, 102, 97, 51, 53, 101, 102, 100, 55, 98, 50, 54, 51, 53, 97, 102, 51, 100, 51, 49, 53, 51, 100, 32, 99, 117, 116, 32, 97, 116, 32, 108, 111, 111, 112, 46, 101, 120, 97, 109, 112, 108, 101, 47, 103, 48, 49, 50, 54, 55, 47, 108, 97, 119, 115, 46, 70, 110, 69, 120, 97, 99, 116, 65, 108, 103, 101, 98, 114, 97, 84, 101, 120, 116] : List Nat).map Char.ofNat) := by kernel_rfl
  rw [h]; exact String.toList_ofList
theorem headParts : Tryd.prog.initOrder.toList = "harness".toList ++ ' ' :: ((((Tryd.prog.initOrder.toList).drop 8).take 64) ++ ' ' :: ("cut".toList ++ ' ' :: (Tryd.prog.initOrder.toList).drop 77)) := by
  rw [headSigns]; kernel_rfl
theorem headWords : behindMainWord (wordsSigns Tryd.prog.initOrder.toList) = "cut".toList :: wordsSigns ((Tryd.prog.initOrder.toList).drop 77) :=
  Go.Sw.cutHead _ _ _ headParts (by rw [headSigns]; kernel_rfl)
theorem headMake : Tryd.prog.make = some .cut := Go.Sw.make_cut _ _ headWords
theorem headFinal : Tryd.prog.liftsFinal = false := Go.Sw.final_cut _ _ headWords
theorem headEnter : Tryd.prog.mayEnter = true := Go.Sw.enter_cut _ _ headWords (by kernel_rfl) (by kernel_rfl) (by kernel_rfl)
end Go.Proofs.YtgmenepbijhanaaDoor
