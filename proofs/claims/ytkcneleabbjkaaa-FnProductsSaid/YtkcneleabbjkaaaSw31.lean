import Derived.Test.YtkcneleabbjkaaaSw63
import Derived.Test.YtkcneleabbjkaaaSw21
import Derived.Test.YtkcneleabbjkaaaEch5
import Derived.Test.YtkcneleabbjkaaaSw19
set_option linter.unusedVariables false
set_option linter.unusedSimpArgs false
namespace Go.Sw
open Go Go.RowKit
inductive FactE where
  | val (v:Value)
  | frz (c:Array Value) (mk:Nat→Value)
  | own (mk:Nat→Value)
def Nq (kt:Nat) (l:List FactE):Facts (Own×BI):=fun i g u _=>match l[i]? with
  | some (.val v)=>u=v
  | some (.frz c mk)=>∃ b,(b,c)∈g.2∧u=mk b
  | some (.own mk)=>∃ b cs,u=mk b∧g.1[kt]? = some (some (b,cs))
  | none=>True
def Og (c:Option (Array Value)) (b:Nat) (E:BI):Prop:=match c with
  | none=>True
  | some c=>(b,c)∈E
def Ow (X:List Nat) (w0:World) (D:BI) (L0:Own) (kt:Nat) (csO:Array Value) (c3:Option (Array Value)) (csN:Nat→Array Value) (bb:Bool) (g:Own×BI) (w:World):Prop:=
  (MemX X w0 w g.1 (g.2++D)∧Same [kt] L0 g.1)∧∀ b cs,g.1[kt]? = some (some (b,cs))→(bb=false→cs=csO)∧(bb=true→∃ x,Og c3 x g.2∧cs=csN x)
section
variable {P : Program} {X : List Nat} {w0 w : World} {D : BI} {L0 : Own} {g : Own × BI} {kt : Nat} {csO : Array Value} {c3 : Option (Array Value)} {csN : Nat → Array Value} {bb : Bool} {l : List FactE} {i : Nat} {o : Oper} {a : Act}
def J4:List FactE→Nat→Nat→Bool
  | [],_,_=>true
  | .own _::r,i,s=>Nat.beq s i && J4 r i (s+1)
  | _::r,i,s=>J4 r i (s+1)
end
end Go.Sw
namespace Go.Sw
open Go Go.RowKit
end Go.Sw
namespace Go.Sw
open Go Go.RowKit
def rowP (N K:Nat) (f:Nat→Nat) (x:Nat→Value):Array Value:=Ag K (fun c=>if c<N then .int .u8 (f c:Int) else x c)
section
variable {N K o : Nat} {f g : Nat → Nat} {x : Nat → Value}
end
structure RowsLP (L:Own) (N m:Nat) (κ:Nat→Nat) (Xs:Nat→Nat→Value) (γ pos:Nat→Nat) (M:Nat→Nat→Nat):Prop where
  at_:∀ i,i<m→L[pos i]? = some (some (γ i,rowP N (κ (γ i)) (M i) (Xs (γ i))))
  inj:∀ i j,i<m→j<m→pos i=pos j→i=j
  ne0:∀ i,i<m→pos i≠0
namespace RowsLP
variable {L : Own} {N m : Nat} {κ : Nat → Nat} {Xs : Nat → Nat → Value} {γ pos : Nat → Nat} {M : Nat → Nat → Nat}
end RowsLP
def Nd (b0:Nat) (cs0:Array Value) (N m:Nat) (κ:Nat→Nat) (Xs:Nat→Nat→Value) (γ:Nat→Nat) (M:Nat→Nat→Nat):Own:=some (b0,cs0)::(List.range m).map (fun i=>some (γ i,rowP N (κ (γ i)) (M i) (Xs (γ i))))
end Go.Sw
namespace Go.Ech
open Go.Sw
def On (F:Nat→Nat→Nat) (i c:Nat):Nat:=if c<6 then F i c else if c=6+i then 1 else 0
def OM (p n:Nat) (F:Nat→Nat→Nat):Prop:=∃ E ld,Rref p 6 E n ld∧∀ x,Ker p 6 E n x↔Ker p 6 F n x
structure IsCop (p n:Nat) (F G:Nat→Nat→Nat):Prop where
  lt:∀ i j,G i j<p
  out:∀ i j,n≤i∨n≤j→G i j=0
  sol:∀ i,i<n→∀ j,j<n→(p:Int)∣sI (fun k=>(F i k:Int)*(G k j:Int)) n - (dl i j:Int)
end Go.Ech
namespace Go.Sw
open Go Go.RowKit
variable {P : Program}
section
variable {n : Nat} {F : List (Nat × Value)} {a : Act} {X : List Nat} {w w0 : World} {L : Own} {D : BI}
variable {d : Option Tmp} {t : TypeId} {pos : String} {af : Array Edge} {gd : Option (Nat × Bool)} {T : TypeId} {x y : Operand}
end
structure RowsPD (D:BI) (N m:Nat) (κ:Nat→Nat) (Xs:Nat→Nat→Value) (γ:Nat→Nat) (M:Nat→Nat→Nat):Prop where
  mem:∀ i,i<m→(γ i,rowP N (κ (γ i)) (M i) (Xs (γ i)))∈D
  inj:∀ i j,i<m→j<m→γ i=γ j→i=j
namespace RowsPD
variable {D D' : BI} {N m : Nat} {κ : Nat → Nat} {Xs : Nat → Nat → Value} {γ : Nat → Nat} {M : Nat → Nat → Nat}
end RowsPD
end Go.Sw
