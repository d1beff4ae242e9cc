import Derived.Test.YtklpefdaplchbaaC11
import Derived.Test.YtklpefdaplchbaaSw97
set_option linter.unusedVariables false
set_option linter.unusedSimpArgs false
namespace Go.Proofs.Ytklpefdaplchbaa
open Go Go.RowKit Go.Sw Go.Ech
open Classical
def sqE (M:Nat→Nat→Nat) (i c:Nat):Nat:=sumTo (fun x=>if M x x=c then 1 else 0) i
end Go.Proofs.Ytklpefdaplchbaa
namespace Go.Proofs.Ytklpefdaplchbaa
open Go Go.RowKit Go.Sw Go.Ech
open Classical
def sqV (M:Nat→Nat→Nat) (n p c:Nat):Nat:=if c<nC M n then sqE M n (eC M n c 0)%p else 0
end Go.Proofs.Ytklpefdaplchbaa
