import Derived.Test.YtkcneleabbjkaaaK20
import Derived.Test.YtkcneleabbjkaaaSw63
import Derived.Test.YtkcneleabbjkaaaSw70
import Derived.Test.YtkcneleabbjkaaaSw75
set_option linter.unusedVariables false
set_option linter.unusedSimpArgs false
namespace Go.Proofs.Ytkcneleabbjkaaa
open Go Go.RowKit Go.Sw Go.Ech
open Classical
end Go.Proofs.Ytkcneleabbjkaaa
namespace Go.Proofs.Ytkcneleabbjkaaa
open Go Go.RowKit Go.Sw Go.Ech
open Classical
def DB (pl:Nat→Nat→Int) (n a b i j k:Nat):Nat:=if (i<a∨(i=a∧j<b))∧j<n∧(k:Int)=pl i j then 1 else 0
theorem pTp_0 {pl:Nat→Nat→Int}{n i j k:Nat}:DB pl n 0 0 i j k=0:=by unfold DB;rw [if_neg (by omega)]
theorem IR {pl:Nat→Nat→Int}{n a i j k:Nat}:DB pl n a n i j k=DB pl n (a+1) 0 i j k:=by
  unfold DB
  have e:((i<a∨(i=a∧j<n))∧j<n∧(k:Int)=pl i j)=((i<a+1∨(i=a+1∧j<0))∧j<n∧(k:Int)=pl i j):=by apply propext;omega
  simp only [e]
theorem L6 {pl:Nat→Nat→Int}{n a b i j k q:Nat}(hb:b<n)(h:pl a b=(q:Int)):(if i=a∧j=b then (if k=q then 1 else 0) else DB pl n a b i j k)=DB pl n a (b+1) i j k:=by
  unfold DB
  by_cases e:i=a∧j=b
  · obtain ⟨rfl,rfl⟩:=e
    rw [if_pos ⟨rfl,rfl⟩,h]
    by_cases h2:k=q
    · rw [if_pos h2,if_pos (by omega)]
    · rw [if_neg h2,if_neg (by omega)]
  · rw [if_neg e]
    have e:((i<a∨(i=a∧j<b))∧j<n∧(k:Int)=pl i j)=((i<a∨(i=a∧j<b+1))∧j<n∧(k:Int)=pl i j):=by apply propext;omega
    simp only [e]
theorem LF {pl:Nat→Nat→Int}{n a b i j k:Nat}(h:pl a b = -1):DB pl n a b i j k=DB pl n a (b+1) i j k:=by
  unfold DB
  have e:((i<a∨(i=a∧j<b))∧j<n∧(k:Int)=pl i j)=((i<a∨(i=a∧j<b+1))∧j<n∧(k:Int)=pl i j):=by
    apply propext
    by_cases q:i=a∧j=b
    · obtain ⟨rfl,rfl⟩:=q
      rw [h];omega
    · omega
  simp only [e]
def LX (i j:Nat):Int:=if i=1∧j=1 then -1 else ((i+j:Nat):Int)
def Hw (i j:Nat):Int:=if i=j then (i:Int) else -1
def HW (i j:Nat):Int:=(((i+j)%3:Nat):Int)
def pmT:List (List Nat):=[[0,1,2],[0,2,1],[1,0,2],[1,2,0],[2,0,1],[2,1,0]]
def pmL (i k:Nat):Nat:=(pmT.getD i []).getD k 0
def Mi (v:Nat→Nat):Array Value:=Ag 3 (fun c=>.int .u8 (v c:Int))
def pm6C:Array Value:=Ag 18 (fun c=>.int .u8 (pmL (c / 3) (c%3):Int))
theorem AH (v:Nat→Nat):(Mi v).size=3:=Bp _ _
theorem AC:pm6C.size=18:=Bp _ _
def Oa:Array MapEntry:=#[{ key:=.agg (Mi (pmL 0)),val:=.int .i64 ((0:Nat):Int),born:=0 },{ key:=.agg (Mi (pmL 1)),val:=.int .i64 ((1:Nat):Int),born:=1 },{ key:=.agg (Mi (pmL 2)),val:=.int .i64 ((2:Nat):Int),born:=2 },{ key:=.agg (Mi (pmL 3)),val:=.int .i64 ((3:Nat):Int),born:=3 },{ key:=.agg (Mi (pmL 4)),val:=.int .i64 ((4:Nat):Int),born:=4 },{ key:=.agg (Mi (pmL 5)),val:=.int .i64 ((5:Nat):Int),born:=5 }]
end Go.Proofs.Ytkcneleabbjkaaa
namespace Go.Proofs.Ytkcneleabbjkaaa
open Go Go.RowKit Go.Sw Go.Ech
open Classical
end Go.Proofs.Ytkcneleabbjkaaa
