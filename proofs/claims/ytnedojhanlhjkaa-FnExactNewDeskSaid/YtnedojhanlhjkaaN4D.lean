/- What functions of the program return, as walks over their operations; no statement of the seat is proved here. -/
import Derived.Test.YtnedojhanlhjkaaN1
import Derived.Test.YtnedojhanlhjkaaSw45
set_option linter.unusedVariables false
set_option linter.unusedSimpArgs false
namespace Go.Proofs.Ytnedojhanlhjkaa
open Go Go.RowKit Go.Sw Go.Ech
open Classical
end Go.Proofs.Ytnedojhanlhjkaa

namespace Go.Proofs.Ytnedojhanlhjkaa
open Go Go.RowKit Go.Sw Go.Ech
open Classical
def pmVT : List (List Nat) := [[0, 1, 2, 3, 4, 5], [1, 0, 4, 5, 2, 3], [2, 3, 0, 1, 5, 4], [3, 2, 5, 4, 0, 1], [4, 5, 1, 0, 3, 2], [5, 4, 3, 2, 1, 0]]
def pmV (i j : Nat) : Nat := (pmVT.getD i []).getD j 0
end Go.Proofs.Ytnedojhanlhjkaa

namespace Go.Proofs.Ytnedojhanlhjkaa
open Go Go.RowKit Go.Sw Go.Ech
open Classical
def sqT : List (List Nat) := [[1, 0, 0, 0], [0, 1, 0, 0], [0, 0, 1, 0], [0, 0, 0, 1]]
def sqL (i k : Nat) : Nat := (sqT.getD i []).getD k 0
def v4C (v : Nat → Nat) : Array Value := fnC 4 (fun c => .int .u8 (v c : Int))
def sq4C : Array Value := fnC 16 (fun c => .int .u8 (sqL (c / 4) (c % 4) : Int))
def sqE (q c : Nat) : Nat := if q = 0 then 0 else sqL (q - 1) c
theorem v4C_size (v : Nat → Nat) : (v4C v).size = 4 := fnC_size _ _
theorem sq4C_size : sq4C.size = 16 := fnC_size _ _
def mulSq (f g : Nat → Nat) (c : Nat) : Nat := f (c / 2 * 2) * g (c % 2) + f (c / 2 * 2 + 1) * g (2 + c % 2)
def sqQT : List (List Nat) := [[1, 2, 0, 0], [0, 0, 1, 2], [3, 4, 0, 0], [0, 0, 3, 4]]
def sqQ (i j : Nat) : Nat := (sqQT.getD i []).getD j 0
def sqV (i j : Nat) : Int := (sqQ i j : Int) - 1
def sqES : Array MapEntry := #[{ key := .agg (v4C (sqE 0)), val := .int .i64 (((0 : Nat) : Int) - 1), born := 0 }, { key := .agg (v4C (sqE 1)), val := .int .i64 (((1 : Nat) : Int) - 1), born := 1 }, { key := .agg (v4C (sqE 2)), val := .int .i64 (((2 : Nat) : Int) - 1), born := 2 }, { key := .agg (v4C (sqE 3)), val := .int .i64 (((3 : Nat) : Int) - 1), born := 3 }, { key := .agg (v4C (sqE 4)), val := .int .i64 (((4 : Nat) : Int) - 1), born := 4 }]

end Go.Proofs.Ytnedojhanlhjkaa
