/- What functions of the program return, as walks over their operations; no statement of the seat is proved here. -/
import Derived.Test.YtnedojhanlhjkaaN5
import Derived.Test.YtnedojhanlhjkaaSw45
set_option linter.unusedVariables false
set_option linter.unusedSimpArgs false
namespace Go.Proofs.Ytnedojhanlhjkaa
open Go Go.RowKit Go.Sw Go.Ech
open Classical
def pmP (i j : Nat) : Int := (pmV i j : Int)
end Go.Proofs.Ytnedojhanlhjkaa

namespace Go.Proofs.Ytnedojhanlhjkaa
open Go Go.RowKit Go.Sw Go.Ech
open Classical
def w3C (v : Nat → Nat) : Array Value := fnC 3 (fun c => .int .i64 (v c : Int))
def pm6I : Array Value := fnC 18 (fun c => .int .i64 (pmL (c / 3) (c % 3) : Int))
theorem w3C_size (v : Nat → Nat) : (w3C v).size = 3 := fnC_size _ _
theorem pm6I_size : pm6I.size = 18 := fnC_size _ _
end Go.Proofs.Ytnedojhanlhjkaa
