/- What the head line of the translation says: that it is cut, with no lift; no statement of the seat is proved here. -/
import Derived.Test.YtiafijbifmcflaaSw10
import Derived.Test.YtiafijbifmcflaaChecked
namespace Go.Proofs.Ytiafijbifmcflaa
open Go
set_option maxHeartbeats 8000000
set_option maxRecDepth 100000
theorem headSigns : Try.prog.initOrder.toList = ([104, 97, 114, 110, 101, 115, 115, 32, 53, 50, 53, 97, 100, 54, 49, 101, 102, 53, 55, 102, 57, 48, 101, 53, 53, 56, 55, 101, 55, 51, 54, 52, 102, 48, 56, 50, 52, 97, 51, 100, 52, 57, 99, 55, 48, 100, 56, 100, 52, 57, 100, 49, 54, 55, 99, 51, 98, 49, 48, 101, 97, 56, 57, 100, 102, 101, 57, 102, 53, 50, 102, 100, 32, 99, 117, 116, 32, 97, 116, 32, 108, 111, 111, 112, 46, 101, 120, 97, 109, 112, 108, 101, 47, 103, 48, 49, 50, 54, 55, 47, 108, 97, 119, 115, 46, 70, 110, 69, 120, 97, 99, 116, 77, 97, 116, 114, 105, 120, 80, 97, 105, 114] : List Nat).map Char.ofNat := by
  have h : Try.prog.initOrder = String.ofList (([104, 97, 114, 110, 101, 115, 115, 32, 53, 50, 53, 97, 100, 54, 49, 101, 102, 53, 55, 102, 57, 48, 101, 53, 53, 56, 55, 101, 55, 51, 54, 52, 102, 48, 56, 50, 52, 97, 51, 100, 52, 57, 99, 55, 48, 100, 56, 100, 52, 57, 100, 49, 54, 55, 99, 51, 98, 49, 48, 101, 97, 56, 57, 100, 102, 101, 57, 102, 53, 50, 102, 100, 32, 99, 117, 116, 32, 97, 116, 32, 108, 111, 111, 112, 46, 101, 120, 97, 109, 112, 108, 101, 47, 103, 48, 49, 50, 54, 55, 47, 108, 97, 119, 115, 46, 70, 110, 69, 120, 97, 99, 116, 77, 97, 116, 114, 105, 120, 80, 97, 105, 114] : List Nat).map Char.ofNat) := by kernel_rfl
  rw [h]; exact String.toList_ofList
theorem headParts : Try.prog.initOrder.toList = "harness".toList ++ ' ' :: ((((Try.prog.initOrder.toList).drop 8).take 64) ++ ' ' :: ("cut".toList ++ ' ' :: (Try.prog.initOrder.toList).drop 77)) := by
  rw [headSigns]; kernel_rfl
theorem headWords : behindMainWord (wordsSigns Try.prog.initOrder.toList) = "cut".toList :: wordsSigns ((Try.prog.initOrder.toList).drop 77) :=
  Go.Sw.cutHead _ _ _ headParts (by rw [headSigns]; kernel_rfl)
theorem headMake : Try.prog.make = some .cut := Go.Sw.make_cut _ _ headWords
theorem headFinal : Try.prog.liftsFinal = false := Go.Sw.final_cut _ _ headWords
theorem headEnter : Try.prog.mayEnter = true := Go.Sw.enter_cut _ _ headWords (by kernel_rfl) (by kernel_rfl) (by kernel_rfl)
end Go.Proofs.Ytiafijbifmcflaa
