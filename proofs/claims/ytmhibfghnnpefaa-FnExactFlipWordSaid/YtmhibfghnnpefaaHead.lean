/- What the head line of the translation says: that it is cut, with no lift; no statement of the seat is proved here. -/
import Derived.Test.YtmhibfghnnpefaaSw10
import Derived.Test.YtmhibfghnnpefaaChecked
namespace Go.Proofs.Ytmhibfghnnpefaa
open Go
set_option maxHeartbeats 8000000
set_option maxRecDepth 100000
theorem headSigns : Try.prog.initOrder.toList = ([104, 97, 114, 110, 101, 115, 115, 32, 51, 49, 53, 51, 100, 101, 55, 51, 51, 57, 56, 48, 97, 54, 54, 57, 57, 48, 98, 52, 97, 50, 56, 53, 50, 55, 53, 57, 97, 101, 99, 101, 48, 57, 98, 51, 102, 54, 102, 49, 49, 99, 49, 100, 50, 97, 55, 97, 52, 52, 57, 101, 98, 57, 101, 55, 49, 99, 100, 50, 52, 101, 55, 53, 32, 99, 117, 116, 32, 97, 116, 32, 108, 111, 111, 112, 46, 101, 120, 97, 109, 112, 108, 101, 47, 103, 48, 49, 50, 54, 55, 47, 108, 97, 119, 115, 46, 70, 110, 69, 120, 97, 99, 116, 70, 108, 105, 112, 87, 111, 114, 100] : List Nat).map Char.ofNat := by
  have h : Try.prog.initOrder = String.ofList (([104, 97, 114, 110, 101, 115, 115, 32, 51, 49, 53, 51, 100, 101, 55, 51, 51, 57, 56, 48, 97, 54, 54, 57, 57, 48, 98, 52, 97, 50, 56, 53, 50, 55, 53, 57, 97, 101, 99, 101, 48, 57, 98, 51, 102, 54, 102, 49, 49, 99, 49, 100, 50, 97, 55, 97, 52, 52, 57, 101, 98, 57, 101, 55, 49, 99, 100, 50, 52, 101, 55, 53, 32, 99, 117, 116, 32, 97, 116, 32, 108, 111, 111, 112, 46, 101, 120, 97, 109, 112, 108, 101, 47, 103, 48, 49, 50, 54, 55, 47, 108, 97, 119, 115, 46, 70, 110, 69, 120, 97, 99, 116, 70, 108, 105, 112, 87, 111, 114, 100] : List Nat).map Char.ofNat) := by kernel_rfl
  rw [h]; exact String.toList_ofList
theorem headParts : Try.prog.initOrder.toList = "harness".toList ++ ' ' :: ((((Try.prog.initOrder.toList).drop 8).take 64) ++ ' ' :: ("cut".toList ++ ' ' :: (Try.prog.initOrder.toList).drop 77)) := by
  rw [headSigns]; kernel_rfl
theorem headWords : behindMainWord (wordsSigns Try.prog.initOrder.toList) = "cut".toList :: wordsSigns ((Try.prog.initOrder.toList).drop 77) :=
  Go.Sw.cutHead _ _ _ headParts (by rw [headSigns]; kernel_rfl)
theorem headMake : Try.prog.make = some .cut := Go.Sw.make_cut _ _ headWords
theorem headFinal : Try.prog.liftsFinal = false := Go.Sw.final_cut _ _ headWords
theorem headEnter : Try.prog.mayEnter = true := Go.Sw.enter_cut _ _ headWords (by kernel_rfl) (by kernel_rfl) (by kernel_rfl)
end Go.Proofs.Ytmhibfghnnpefaa
