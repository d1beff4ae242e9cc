import Derived.Test.YtkcneleabbjkaaaA14
set_option linter.unusedVariables false
set_option linter.unusedSimpArgs false
namespace Go.Proofs.Ytkcneleabbjkaaa
open Go Go.RowKit Go.Sw Go.Ech
open Classical
theorem KT:Nk Try.prog 54=some (27,some (.agg (A1 6 (fun _=>.int .u8 (0)))),6,6):=by kernel_rfl
theorem JW {p n:Nat}{T:Nat->Nat->Nat->Nat}{f:Nat->Nat}{i c:Nat}(h:n<=c):formM p n T f i c=0:=by
  unfold formM;rw [if_neg (by omega)]
end Go.Proofs.Ytkcneleabbjkaaa
