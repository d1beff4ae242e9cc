import Derived.Test.YtkcneleabbjkaaaK1
set_option linter.unusedVariables false
set_option linter.unusedSimpArgs false
namespace Go.Proofs.Ytkcneleabbjkaaa
open Go Go.RowKit Go.Sw Go.Ech
open Classical
theorem Lp {n:Nat}{T:Nat->Nat->Nat->Nat}:trunc n (trunc n T)=trunc n T:=by
  funext i j k
  unfold trunc
  by_cases h:i<n/\j<n/\k<n
  . rw [if_pos h,if_pos h]
  . rw [if_neg h,if_neg h]
end Go.Proofs.Ytkcneleabbjkaaa
