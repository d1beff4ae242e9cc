import Derived.Test.YtklpefdaplchbaaSw38
import Derived.Test.YtklpefdaplchbaaSw9
import Derived.Test.YtklpefdaplchbaaEch10
import Derived.Test.YtklpefdaplchbaaSw63
set_option linter.unusedVariables false
set_option linter.unusedSimpArgs false
namespace Go.Sw
open Go Go.RowKit Go.Ech
def KRel (w0:World) (p N m:Nat) (M:Nat→Nat→Nat) (u:Value) (w':World):Prop:=∃ k E ld,Rref p N E k ld∧(∀ x,Ker p N E k x↔Ker p N M m x)∧(∀ i c,E i c<p)∧k≤m∧RowsOut w0 w' N k (fun i c=>.int .i64 (E i c:Int)) u
def EmpN (w0:World) (u:Value) (w':World):Prop:=∃ b,u = .slice (some ⟨b,0,none⟩) 0 0∧Blk w' b #[]∧w0.heap.size≤b
end Go.Sw
namespace Go.Sw
open Go Go.RowKit Go.Ech
def TwoR (c1 c2:Array Value) (e0:Option (Nat×Array Value)) (D:Froz) (e:Option (Nat×Array Value)) (u:Value):Prop:=e=e0∧∃ b b1 b2,u = .slice (some ⟨b,0,none⟩) 2 2∧(b,#[.slice (some ⟨b1,0,none⟩) 3 3,.slice (some ⟨b2,0,none⟩) 3 3])∈D∧(b1,c1)∈D∧(b2,c2)∈D
end Go.Sw
namespace Go.Sw
open Go Go.RowKit Go.Ech
end Go.Sw
namespace Go.Sw
open Go Go.RowKit Go.Ech
def iKey (k:Int):Value:=.int .i64 k
def findI (k:Int) (es:List MapEntry) (i:Nat):Option (Option (Nat×Value)):=Instr.findNow (.int .i64) (iKey k) es i
def IKeys (es:List MapEntry):Prop:=∀ e,e∈es→∃ k,e.key=iKey k
section
variable {P : Program} {n : Nat} {F : List (Nat × Value)} {a : Act} {w w0 : World} {d : Option Tmp} {t T kt et : TypeId} {pos : String} {af : Array Edge} {gd : Option (Nat × Bool)} {x y z : Operand} {X : List Nat} {L : Own} {D : Froz}
end
end Go.Sw
namespace Go.Sw
open Go Go.RowKit Go.Ech
def sdC (k:Int) (tr nx tw fr to:Value) (ch:Int):Array Value:=#[.int .i64 k,tr,nx,tw,fr,to,.int .i64 ch]
def trC (i:Nat) (f:Nat→Value):Array Value:=fnC 4 (fun c=>if c=0 then .int .i64 (i:Int) else f (c - 1))
end Go.Sw
namespace Go.Sw
open Go Go.RowKit
variable {P : Program}
def Exit.goes (J:Nat→Act→World→Prop) (Q:Exit→Act→World→Prop):Exit→Act→World→Prop
  | .goto l,a,w=>J l a w
  | e,a,w=>Q e a w
section
variable {Q : Exit → Act → World → Prop} {J : Nat → Act → World → Prop} {K : Act → World → Prop} {a : Act} {w : World}
end
section
variable {n : Nat} {F : List (Nat × Value)} {a : Act} {w : World} {d : Option Tmp} {t T : TypeId} {pos : String} {af : Array Edge} {gd : Option (Nat × Bool)} {x : Operand}
theorem g_nilCheck {b o:Nat}(hF:Fr n a F)(hx:look F x=some (ptr b o)):Gives P ⟨d,.nilCheck x,t,pos,af,gd⟩ a w (ptr b o):=
  gives_of_run (by simp [execOp,hF.eval hx])
end
theorem str_eq {s u:ByteArray}(h:s.toList=u.toList):s=u:=by
  have h2:(s.toList == u.toList)=true:=by rw [h];simp
  exact ByteArray.ext (by simpa [ByteArray.toList_eq] using h2)
section
variable {P : Program} {fn : Func} {a : Act} {w : World}
end
end Go.Sw
namespace Go.Sw
open Go Go.RowKit Go.Ech
def factsV (l:List Value):Facts Unit:=fun i _ u _=>u=l.getD i undef
end Go.Sw
namespace Go.Sw
open Go Go.RowKit Go.Ech
structure TwP (N:Nat) (K:Nat→Int) (tw:Nat→Nat):Prop where
  lt:∀ x,x<N→tw x<N
  ne:∀ x,x<N→tw x≠x
  abs:∀ x,x<N→(K (tw x)).natAbs=(K x).natAbs
  only:∀ x y,x<N→y<N→(K y).natAbs=(K x).natAbs→y=x∨y=tw x
def onP (c:Prop) [Decidable c] (b:Nat):Value:=if c then ptr b 0 else .pointer none
def nxt (x:Nat):Nat:=x / 3*3+(x%3+1)%3
def frT (K:Nat→Int) (tw φ ψ:Nat→Nat) (x:Nat):Nat:=if tw x<x then (if K x=K (tw x) then φ (tw x) else ψ (tw x)) else φ x
def toT (K:Nat→Int) (tw φ ψ:Nat→Nat) (x:Nat):Nat:=if tw x<x then (if K x=K (tw x) then ψ (tw x) else φ (tw x)) else ψ x
def SC (K:Nat→Int) (tw τ σ φ ψ:Nat→Nat) (q u x:Nat):Array Value:=sdC (K x) (ptr (τ (x / 3)) 0) (onP (x<u) (σ (nxt x))) (onP (tw x<q) (σ (tw x))) (ptr (frT K tw φ ψ x) 0) (ptr (toT K tw φ ψ x) 0) 0
def TCv (σ:Nat→Nat) (i:Nat):Array Value:=trC i (fun j=>ptr (σ (i*3+j)) 0)
structure Gr (D:Froz) (lo N:Nat) (K:Nat→Int) (tw:Nat→Nat) (q u t:Nat) (τ σ φ ψ:Nat→Nat):Prop where
  sid:∀ x,x<q→(σ x,SC K tw τ σ φ ψ q u x)∈D
  inj:∀ x y,x<q→y<q→σ x=σ y→x=y
  tri:∀ i,i<t→(τ i,TCv σ i)∈D
  tip:∀ x,x<q→x<tw x→(φ x,#[.pointer none])∈D∧(ψ x,#[.pointer none])∈D
  tin:∀ x y,x<q→y<q→x<tw x→y<tw y→(φ x=φ y→x=y)∧(ψ x=ψ y→x=y)∧φ x≠ψ y
  ge:∀ b cs,(b,cs)∈D→lo≤b
section
variable {D D' : Froz} {lo N : Nat} {K : Nat → Int} {tw : Nat → Nat} {q u t : Nat} {τ σ φ ψ : Nat → Nat}
end
structure MpOk (es:List MapEntry) (K:Nat→Int) (tw σ:Nat→Nat) (q:Nat):Prop where
  keys:IKeys es
  no:∀ k:Nat,(∀ y,y<q→(K y).natAbs≠k)→findI (k:Int) es 0=some none
  yes:∀ y,y<q→y<tw y→∃ ix,findI (((K y).natAbs:Nat):Int) es 0=some (some (ix,ptr (σ y) 0))
end Go.Sw
