import Derived.Test.YtkcneleabbjkaaaP4
set_option linter.unusedVariables false
set_option linter.unusedSimpArgs false
namespace Go.Proofs.Ytkcneleabbjkaaa
open Go Go.RowKit Go.Sw Go.Ech
open Classical
def RF (p n:Nat) (T:Nat->Nat->Nat->Nat) (G:Nat->Nat->Nat) (k l c:Nat):Nat:=(sumTo (fun a=>sumTo (fun b=>G a b*T a b c) n) k+sumTo (fun b=>G k b*T k b c) l)%p
def Rx (p n:Nat) (T:Nat->Nat->Nat->Nat) (G V:Nat->Nat->Nat) (k c:Nat):Nat:=sumTo (fun a=>timesV p n T (V a) (G a) c) k%p
def R4 (p:Nat) (V:Nat->Nat->Nat) (v:Nat->Nat) (k c:Nat):Nat:=sumTo (fun i=>v i*V i c) k%p
theorem Mj:∀ w,(Instr.buildSlice 54 0 #[]).run Try.prog w = .ok (.slice (some ⟨w.heap.size,0,none⟩) 0 0) (w.alloc (.cells #[] 27)):=by intros;kernel_rfl
end Go.Proofs.Ytkcneleabbjkaaa
