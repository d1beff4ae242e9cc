/- What the head line of the translation says: that it is cut, with no lift; no statement of the seat is proved here. -/
import Derived.Test.YthoelkijoenkpaaSw10
import Derived.Test.YthoelkijoenkpaaChecked
namespace Go.Proofs.Ythoelkijoenkpaa
open Go
set_option maxHeartbeats 8000000
set_option maxRecDepth 100000
theorem headSigns : Try.prog.initOrder.toList = ([104, 97, 114, 110, 101, 115, 115, 32, 56, 53, 52, 48, 55, 55, 51, 52, 101, 55, 51, 53, 100, 48, 49, 48, 53, 51, 101, 100, 101, 50, 51, 52, 99, 51, 56, 48, 97, 53, 56, 98, 98, 98, 48, 97, 101, 54, 55, 100, 50, 54, 101, 57, 49, 56, 97, 48, 52, 51, 101, 55, 102, 57, 97, 55, 53, 97, 49, 51, 101, 53, 57, 99, 32, 99, 117, 116, 32, 97, 116, 32, 108, 111, 111, 112, 46, 101, 120, 97, 109, 112, 108, 101, 47, 103, 48, 49, 50, 54, 55, 47, 108, 97, 119, 115, 46, 70, 110, 69, 120, 97, 99, 116, 83, 119, 97, 112, 84, 101, 110, 115, 111, 114, 32, 108, 111, 111, 112, 46, 101, 120, 97, 109, 112, 108, 101, 47, 103, 48, 49, 50, 54, 55, 47, 108, 97, 119, 115, 46, 70, 110, 69, 120, 97, 99, 116, 86, 97, 108, 117, 101, 65, 116] : List Nat).map Char.ofNat := by
  have h : Try.prog.initOrder = String.ofList (([104, 97, 114, 110, 101, 115, 115, 32, 56, 53, 52, 48, 55, 55, 51, 52, 101, 55, 51, 53, 100, 48, 49, 48, 53, 51, 101, 100, 101, 50, 51, 52, 99, 51, 56, 48, 97, 53, 56, 98, 98, 98, 48, 97, 101, 54, 55, 100, 50, 54, 101, 57, 49, 56, 97, 48, 52, 51, 101, 55, 102, 57, 97, 55, 53, 97, 49, 51, 101, 53, 57, 99, 32, 99, 117, 116, 32, 97, 116, 32, 108, 111, 111, 112, 46, 101, 120, 97, 109, 112, 108, 101, 47, 103, 48, 49, 50, 54, 55, 47, 108, 97, 119, 115, 46, 70, 110, 69, 120, 97, 99, 116, 83, 119, 97, 112, 84, 101, 110, 115, 111, 114, 32, 108, 111, 111, 112, 46, 101, 120, 97, 109, 112, 108, 101, 47, 103, 48, 49, 50, 54, 55, 47, 108, 97, 119, 115, 46, 70, 110, 69, 120, 97, 99, 116, 86, 97, 108, 117, 101, 65, 116] : List Nat).map Char.ofNat) := by kernel_rfl
  rw [h]; exact String.toList_ofList
theorem headParts : Try.prog.initOrder.toList = "harness".toList ++ ' ' :: ((((Try.prog.initOrder.toList).drop 8).take 64) ++ ' ' :: ("cut".toList ++ ' ' :: (Try.prog.initOrder.toList).drop 77)) := by
  rw [headSigns]; kernel_rfl
theorem headWords : behindMainWord (wordsSigns Try.prog.initOrder.toList) = "cut".toList :: wordsSigns ((Try.prog.initOrder.toList).drop 77) :=
  Go.Sw.cutHead _ _ _ headParts (by rw [headSigns]; kernel_rfl)
theorem headMake : Try.prog.make = some .cut := Go.Sw.make_cut _ _ headWords
theorem headFinal : Try.prog.liftsFinal = false := Go.Sw.final_cut _ _ headWords
theorem headEnter : Try.prog.mayEnter = true := Go.Sw.enter_cut _ _ headWords (by kernel_rfl) (by kernel_rfl) (by kernel_rfl)
end Go.Proofs.Ythoelkijoenkpaa
