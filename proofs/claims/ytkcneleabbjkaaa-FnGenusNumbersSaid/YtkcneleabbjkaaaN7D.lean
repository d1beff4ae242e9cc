import Derived.Test.YtkcneleabbjkaaaK20
import Derived.Test.YtkcneleabbjkaaaSw74
set_option linter.unusedVariables false
set_option linter.unusedSimpArgs false
namespace Go.Proofs.Ytkcneleabbjkaaa
open Go Go.RowKit Go.Sw Go.Ech
open Classical
def D9 (pl:Nat->Nat->Int) (n a b i j k:Nat):Nat:=if (i<a\/(i=a/\j<b))/\j<n/\(k:Int)=pl i j then 1 else 0
theorem pTp_0 {pl:Nat->Nat->Int}{n i j k:Nat}:D9 pl n 0 0 i j k=0:=by unfold D9;rw [if_neg (by omega)]
theorem J6 {pl:Nat->Nat->Int}{n a i j k:Nat}:D9 pl n a n i j k=D9 pl n (a+1) 0 i j k:=by
  unfold D9
  have e:((i<a\/(i=a/\j<n))/\j<n/\(k:Int)=pl i j)=((i<a+1\/(i=a+1/\j<0))/\j<n/\(k:Int)=pl i j):=by apply propext;omega
  simp only [e]
theorem O0 {pl:Nat->Nat->Int}{n a b i j k q:Nat}(hb:b<n)(h:pl a b=(q:Int)):(if i=a/\j=b then (if k=q then 1 else 0) else D9 pl n a b i j k)=D9 pl n a (b+1) i j k:=by
  unfold D9
  by_cases e:i=a/\j=b
  . obtain ⟨rfl,rfl⟩:=e
    rw [if_pos ⟨rfl,rfl⟩,h]
    by_cases h2:k=q
    . rw [if_pos h2,if_pos (by omega)]
    . rw [if_neg h2,if_neg (by omega)]
  . rw [if_neg e]
    have e:((i<a\/(i=a/\j<b))/\j<n/\(k:Int)=pl i j)=((i<a\/(i=a/\j<b+1))/\j<n/\(k:Int)=pl i j):=by apply propext;omega
    simp only [e]
theorem N7 {pl:Nat->Nat->Int}{n a b i j k:Nat}(h:pl a b = -1):D9 pl n a b i j k=D9 pl n a (b+1) i j k:=by
  unfold D9
  have e:((i<a\/(i=a/\j<b))/\j<n/\(k:Int)=pl i j)=((i<a\/(i=a/\j<b+1))/\j<n/\(k:Int)=pl i j):=by
    apply propext
    by_cases q:i=a/\j=b
    . obtain ⟨rfl,rfl⟩:=q
      rw [h];omega
    . omega
  simp only [e]
def Oa (i j:Nat):Int:=if i=1/\j=1 then -1 else ((i+j:Nat):Int)
def JU (i j:Nat):Int:=if i=j then (i:Int) else -1
def LZ (i j:Nat):Int:=(((i+j)%3:Nat):Int)
def pmT:List (List Nat):=[[0,1,2],[0,2,1],[1,0,2],[1,2,0],[2,0,1],[2,1,0]]
def pmL (i k:Nat):Nat:=(pmT.getD i []).getD k 0
def Pf (v:Nat->Nat):Array Value:=Al 3 (fun c=>.int .u8 (v c:Int))
def pm6C:Array Value:=Al 18 (fun c=>.int .u8 (pmL (c / 3) (c%3):Int))
theorem QM (v:Nat->Nat):(Pf v).size=3:=Bf _ _
theorem QH:pm6C.size=18:=Bf _ _
def RY:Array MapEntry:=#[{ key:=.agg (Pf (pmL 0)),val:=.int .i64 ((0:Nat):Int),born:=0 },{ key:=.agg (Pf (pmL 1)),val:=.int .i64 ((1:Nat):Int),born:=1 },{ key:=.agg (Pf (pmL 2)),val:=.int .i64 ((2:Nat):Int),born:=2 },{ key:=.agg (Pf (pmL 3)),val:=.int .i64 ((3:Nat):Int),born:=3 },{ key:=.agg (Pf (pmL 4)),val:=.int .i64 ((4:Nat):Int),born:=4 },{ key:=.agg (Pf (pmL 5)),val:=.int .i64 ((5:Nat):Int),born:=5 }]
def pmVT:List (List Nat):=[[0,1,2,3,4,5],[1,0,4,5,2,3],[2,3,0,1,5,4],[3,2,5,4,0,1],[4,5,1,0,3,2],[5,4,3,2,1,0]]
def pmV (i j:Nat):Nat:=(pmVT.getD i []).getD j 0
theorem Lw {i j:Nat}(hi:i<6)(hj:j<6):pmV i j<6:=by
  have h:∀ i,i<6->∀ j,j<6->pmV i j<6:=by decide
  exact h i hi j hj
theorem J4 {i j:Nat}(hi:i<6)(hj:j<6):∀ d,d<3->pmL i (pmL j d)=pmL (pmV i j) d:=by
  have h:∀ i,i<6->∀ j,j<6->∀ d,d<3->pmL i (pmL j d)=pmL (pmV i j) d:=by decide
  exact h i hi j hj
theorem J5 {i d:Nat}(hi:i<6)(hd:d<3):pmL i d<3:=by
  have h:∀ i,i<6->∀ d,d<3->pmL i d<3:=by decide
  exact h i hi d hd
theorem Pu {k q:Nat}(hk:k<6)(hq:q<6)(h:∀ c,c<3->pmL k c=pmL q c):k=q:=by
  have h2:∀ k,k<6->∀ q,q<6->(∀ c,c<3->pmL k c=pmL q c)->k=q:=by decide
  exact h2 k hk q hq h
def sqT:List (List Nat):=[[1,0,0,0],[0,1,0,0],[0,0,1,0],[0,0,0,1]]
def RA (i k:Nat):Nat:=(sqT.getD i []).getD k 0
def QD (v:Nat->Nat):Array Value:=Al 4 (fun c=>.int .u8 (v c:Int))
def sq4C:Array Value:=Al 16 (fun c=>.int .u8 (RA (c / 4) (c%4):Int))
def QO (q c:Nat):Nat:=if q=0 then 0 else RA (q - 1) c
theorem QL (v:Nat->Nat):(QD v).size=4:=Bf _ _
theorem QG:sq4C.size=16:=Bf _ _
def QV (f g:Nat->Nat) (c:Nat):Nat:=f (c / 2*2)*g (c%2)+f (c / 2*2+1)*g (2+c%2)
def sqQT:List (List Nat):=[[1,2,0,0],[0,0,1,2],[3,4,0,0],[0,0,3,4]]
def sqQ (i j:Nat):Nat:=(sqQT.getD i []).getD j 0
def Oo (i j:Nat):Int:=(sqQ i j:Int) - 1
theorem Pt {i j:Nat}(hi:i<4)(hj:j<4):sqQ i j<5:=by
  have h:∀ i,i<4->∀ j,j<4->sqQ i j<5:=by decide
  exact h i hi j hj
def RR:Array MapEntry:=#[{ key:=.agg (QD (QO 0)),val:=.int .i64 (((0:Nat):Int) - 1),born:=0 },{ key:=.agg (QD (QO 1)),val:=.int .i64 (((1:Nat):Int) - 1),born:=1 },{ key:=.agg (QD (QO 2)),val:=.int .i64 (((2:Nat):Int) - 1),born:=2 },{ key:=.agg (QD (QO 3)),val:=.int .i64 (((3:Nat):Int) - 1),born:=3 },{ key:=.agg (QD (QO 4)),val:=.int .i64 (((4:Nat):Int) - 1),born:=4 }]
def R0 (f g:Nat->Nat) (r c d:Nat):Nat:=if d<r*2+c then QV f g d else 0
def PU (i j:Nat):Int:=(pmV i j:Int)
def F6 (v:Nat->Nat):Array Value:=Al 3 (fun c=>.int .i64 (v c:Int))
def pm6I:Array Value:=Al 18 (fun c=>.int .i64 (pmL (c / 3) (c%3):Int))
theorem Cn (v:Nat->Nat):(F6 v).size=3:=Bf _ _
theorem CL:pm6I.size=18:=Bf _ _
theorem IN {o e:Nat}(k:Nat)(ho:o=k*3)(he:e=o+3)(hk:k<6):pm6I.extract o e=F6 (pmL k):=by
  subst ho;exact CW he (by rw [CL];omega) fun c hc=>by
    unfold pm6I
    rw [CF (by omega),show (k*3+c) / 3=k by omega,show (k*3+c)%3=c by omega]
theorem FL {v:Nat->Nat}{o:Nat}(c:Nat)(ho:o=c)(hc:c<3):(F6 v)[o]? = some (.int .i64 (v c:Int)):=by
  subst ho;exact CF hc
theorem Pe {a b c:Nat}{v:Nat->Nat}(h0:a=v 0)(h1:b=v 1)(h2:c=v 2):#[Value.int .i64 (a:Int),.int .i64 (b:Int),.int .i64 (c:Int)]=F6 v:=by
  subst h0 h1 h2;rfl
theorem QK {k q:Nat}(hk:k<6)(hq:q<6)(h:∀ i,i<3->(pmL k i:Int)=(pmL q i:Int)):k=q:=Pu hk hq fun c hc=>Int.ofNat.inj (h c hc)
end Go.Proofs.Ytkcneleabbjkaaa
