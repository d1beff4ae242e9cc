import Derived.Test.YtkcneleabbjkaaaP8
set_option linter.unusedVariables false
set_option linter.unusedSimpArgs false
namespace Go.Proofs.Ytkcneleabbjkaaa
open Go Go.RowKit Go.Sw Go.Ech
open Classical
def PH (mul:(Nat->Nat)->(Nat->Nat)->Nat->Nat) (u:Nat->Nat) (V:Nat->Nat->Nat):Nat->Nat->Nat
  | 0=>u
  | k+1=>mul (PH mul u V k) (V k)
theorem LA:∀ m,sumTo (fun _=>0) m=0
  | 0=>rfl
  | m+1=>by rw [sumTo,LA m]
theorem Nl {p n:Nat}{T:Nat->Nat->Nat->Nat}{G:Nat->Nat->Nat}{k l c:Nat}(hH:∀ i j k,n<=k->T i j k=0)(hc:n<=c):DK p n T G k l c=0:=by
  unfold DK
  simp only [hH _ _ c hc,Nat.mul_zero,LA,Nat.add_zero,Nat.zero_mod]
end Go.Proofs.Ytkcneleabbjkaaa
