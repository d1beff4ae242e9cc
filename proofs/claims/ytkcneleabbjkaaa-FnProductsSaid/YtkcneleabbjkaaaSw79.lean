import Derived.Test.YtkcneleabbjkaaaSw75
import Derived.Test.YtkcneleabbjkaaaSw19
import Derived.Test.YtkcneleabbjkaaaSw31
import Derived.Test.YtkcneleabbjkaaaSw70
import Derived.Test.YtkcneleabbjkaaaSw63
set_option linter.unusedVariables false
set_option linter.unusedSimpArgs false
namespace Go.Sw
open Go Go.RowKit Go.Ech
structure Tri (w:World) (b o m:Nat) (R:Nat→Nat→Int) (ca be ob:Nat→Nat):Prop where
  cell:∀ i,i<m→w.cell? ⟨b,o+i*1,none⟩=some (.slice (some ⟨be i,ob i,none⟩) 3 (ca i))
  num:∀ i,i<m→∀ j,j<3→w.cell? ⟨be i,ob i+j*1,none⟩=some (.int .i64 (R i j))
def Oz (w w':World) (f:Nat→Int) (v:Value):Prop:=∃ b c cs,v = .slice (some ⟨b,0,none⟩) 3 c∧w.heap.size≤b∧Blk w' b cs∧SlAt 1 v (some (b,cs)) 3 b c cs (fun k=>.int .i64 (f k))
end Go.Sw
namespace Go.Ech
open Go.Sw
end Go.Ech
namespace Go.Ech
open Go.Sw
def sol (p:Nat) (E:Nat→Nat→Nat) (k:Nat) (ld:Nat→Nat) (c d:Nat):Nat:=if d=c then 1 else match EX k ld d with
  | some j=>(p - E j c)%p
  | none=>0
def nf (k:Nat) (ld:Nat→Nat):Nat→Nat
  | 0=>0
  | c+1=>if D5 k ld c then nf k ld c else nf k ld c+1
def Ou (p n:Nat) (E:Nat→Nat→Nat) (k:Nat) (ld:Nat→Nat) (S:Nat→Nat→Nat):Prop:=∀ c,c<n→¬ D5 k ld c→∀ d,S (nf k ld c) d=sol p E k ld c d
def OL (p n:Nat) (M:Nat→Nat→Nat) (m r:Nat) (V:Nat→Nat→Nat):Prop:=∃ (k:Nat) (E:Nat→Nat→Nat) (ld ld2:Nat→Nat),Rref p n E k ld∧(∀ x,Ker p n E k x↔Ker p n M m x)∧Rref p n V r ld2∧
  ∀ x,Ker p n V r x↔∀ c,c<n→¬ D5 k ld c→(p:Int)∣dot n (ci (sol p E k ld c)) x
def Ob (n:Nat) (E:Nat→Nat→Nat) (i c:Nat):Nat:=if c<n then E i c else 0
def lv (ld:Nat→Nat) (q c:Nat):Nat:=match EX q ld c with
  | some j=>j+1
  | none=>0
end Go.Ech
namespace Go.Sw
open Go Go.RowKit Go.Ech
def O0 (w0:World) (p N m:Nat) (M:Nat→Nat→Nat) (u:Value) (w':World):Prop:=∃ k E ld,Rref p N E k ld∧(∀ x,Ker p N E k x↔Ker p N M m x)∧(∀ i c,E i c<p)∧k≤m∧RowsOut w0 w' N k (fun i c=>.int .i64 (E i c:Int)) u
def O1 (w0:World) (u:Value) (w':World):Prop:=∃ b,u = .slice (some ⟨b,0,none⟩) 0 0∧Blk w' b #[]∧w0.heap.size≤b
end Go.Sw
namespace Go.Sw
open Go Go.RowKit Go.Ech
def Oo (c1 c2:Array Value) (e0:Option (Nat×Array Value)) (D:BI) (e:Option (Nat×Array Value)) (u:Value):Prop:=e=e0∧∃ b b1 b2,u = .slice (some ⟨b,0,none⟩) 2 2∧(b,#[.slice (some ⟨b1,0,none⟩) 3 3,.slice (some ⟨b2,0,none⟩) 3 3])∈D∧(b1,c1)∈D∧(b2,c2)∈D
end Go.Sw
namespace Go.Sw
open Go Go.RowKit Go.Ech
end Go.Sw
namespace Go.Sw
open Go Go.RowKit Go.Ech
def NQ (k:Int):Value:=.int .i64 k
def Mb (k:Int) (es:List MapEntry) (i:Nat):Option (Option (Nat×Value)):=Instr.findNow (.int .i64) (NQ k) es i
def Nb (es:List MapEntry):Prop:=∀ e,e∈es→∃ k,e.key=NQ k
section
variable {P : Program} {n : Nat} {F : List (Nat × Value)} {a : Act} {w w0 : World} {d : Option Tmp} {t T kt et : TypeId} {pos : String} {af : Array Edge} {gd : Option (Nat × Bool)} {x y z : Operand} {X : List Nat} {L : Own} {D : BI}
end
end Go.Sw
namespace Go.Sw
open Go Go.RowKit Go.Ech
def OW (k:Int) (tr nx tw fr to:Value) (ch:Int):Array Value:=#[.int .i64 k,tr,nx,tw,fr,to,.int .i64 ch]
def OS (i:Nat) (f:Nat→Value):Array Value:=Ag 4 (fun c=>if c=0 then .int .i64 (i:Int) else f (c - 1))
end Go.Sw
