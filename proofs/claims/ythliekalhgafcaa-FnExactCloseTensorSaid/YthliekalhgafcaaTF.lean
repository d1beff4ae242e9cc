/- What functions of the program return, as walks over their operations; no statement of the seat is proved here. -/
import Derived.Test.YthliekalhgafcaaG12
import Derived.Test.YthliekalhgafcaaSw14
import Derived.Test.YthliekalhgafcaaEch2
import Derived.Test.YthliekalhgafcaaSw15
import Derived.Test.YthliekalhgafcaaEch3
import Derived.Test.YthliekalhgafcaaSw17
import Derived.Test.YthliekalhgafcaaSw18
import Derived.Test.YthliekalhgafcaaSw19
import Derived.Test.YthliekalhgafcaaSw20
import Derived.Test.YthliekalhgafcaaSw23
import Derived.Test.YthliekalhgafcaaSw24
set_option linter.unusedVariables false
set_option linter.unusedSimpArgs false
namespace Go.Proofs.Ythliekalhgafcaa
open Go Go.RowKit Go.Sw Go.Ech
open Classical
theorem ty_on_22 : oneP Try.prog 22 = true := by kernel_rfl
theorem CallsR.val {P : Program} {f : FuncId} {args : Array Value} {w : World} {v v' : Value} (h : CallsR P f args w (fun u _ => u = v)) (e : v = v') : CallsR P f args w (fun u _ => u = v') := e ▸ h
theorem primeP_pos {p : Int} (h : primeP p) : 0 < p := by unfold primeP at h; omega
end Go.Proofs.Ythliekalhgafcaa
