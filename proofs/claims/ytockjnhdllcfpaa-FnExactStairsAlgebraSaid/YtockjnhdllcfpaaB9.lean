/- What functions of the program return, as walks over their operations; no statement of the seat is proved here. -/
import Derived.Test.YtockjnhdllcfpaaB16
import Derived.Test.YtockjnhdllcfpaaSw77
set_option linter.unusedVariables false
set_option linter.unusedSimpArgs false
namespace Go.Proofs.Ytockjnhdllcfpaa
open Go Go.RowKit Go.Sw Go.Ech
open Classical
def coA (h : Nat → Nat) (m i : Nat) : Nat := asc (crB h m) m i
def coI (h : Nat → Nat) (m i c : Nat) : Int := if c = 0 then (coA h m i : Int) else ((h (coA h m i) - 1 : Nat) : Int)
def coC (h : Nat → Nat) (m i : Nat) : Array Value := #[.int .i64 (coA h m i : Int), .int .i64 ((h (coA h m i) - 1 : Nat) : Int)]
end Go.Proofs.Ytockjnhdllcfpaa
