import Derived.Test.YtkcneleabbjkaaaEch7
set_option linter.unusedVariables false
set_option linter.unusedSimpArgs false
namespace Go.Ech
open Go.Sw
def sol (p:Nat) (E:Nat->Nat->Nat) (k:Nat) (ld:Nat->Nat) (c d:Nat):Nat:=if d=c then 1 else match Dl k ld d with
  | some j=>(p - E j c)%p
  | none=>0
def nf (k:Nat) (ld:Nat->Nat):Nat->Nat
  | 0=>0
  | c+1=>if DM k ld c then nf k ld c else nf k ld c+1
def QO (p n:Nat) (E:Nat->Nat->Nat) (k:Nat) (ld:Nat->Nat) (S:Nat->Nat->Nat):Prop:=∀ c,c<n->¬ DM k ld c->∀ d,S (nf k ld c) d=sol p E k ld c d
def Pp (p n:Nat) (M:Nat->Nat->Nat) (m r:Nat) (V:Nat->Nat->Nat):Prop:=∃ (k:Nat) (E:Nat->Nat->Nat) (ld ld2:Nat->Nat),Rref p n E k ld/\(∀ x,Ker p n E k x↔Ker p n M m x)/\Rref p n V r ld2/\
  ∀ x,Ker p n V r x↔∀ c,c<n->¬ DM k ld c->(p:Int)∣dot n (ci (sol p E k ld c)) x
def P7 (n:Nat) (E:Nat->Nat->Nat) (i c:Nat):Nat:=if c<n then E i c else 0
def lv (ld:Nat->Nat) (q c:Nat):Nat:=match Dl q ld c with
  | some j=>j+1
  | none=>0
end Go.Ech
namespace Go.Sw
open Go Go.RowKit Go.Ech
def QU (w0:World) (p N m:Nat) (M:Nat->Nat->Nat) (u:Value) (w':World):Prop:=∃ k E ld,Rref p N E k ld/\(∀ x,Ker p N E k x↔Ker p N M m x)/\(∀ i c,E i c<p)/\k<=m/\RowsOut w0 w' N k (fun i c=>.int .i64 (E i c:Int)) u
def QV (w0:World) (u:Value) (w':World):Prop:=∃ b,u = .slice (some ⟨b,0,none⟩) 0 0/\Blk w' b #[]/\w0.heap.size<=b
end Go.Sw
namespace Go.Sw
open Go Go.RowKit Go.Ech
def QL (c1 c2:Array Value) (e0:Option (Nat×Array Value)) (D:Au) (e:Option (Nat×Array Value)) (u:Value):Prop:=e=e0/\∃ b b1 b2,u = .slice (some ⟨b,0,none⟩) 2 2/\(b,#[.slice (some ⟨b1,0,none⟩) 3 3,.slice (some ⟨b2,0,none⟩) 3 3])∈D/\(b1,c1)∈D/\(b2,c2)∈D
end Go.Sw
namespace Go.Sw
open Go Go.RowKit Go.Ech
end Go.Sw
namespace Go.Sw
open Go Go.RowKit Go.Ech
def Ow (k:Int):Value:=.int .i64 k
def Nw (k:Int) (es:List MapEntry) (i:Nat):Option (Option (Nat×Value)):=Instr.findNow (.int .i64) (Ow k) es i
def O8 (es:List MapEntry):Prop:=∀ e,e∈es->∃ k,e.key=Ow k
section
variable {P : Program} {n : Nat} {F : List (Nat × Value)} {a : Act} {w w0 : World} {d : Option Tmp} {t T kt et : TypeId} {pos : String} {af : Array Edge} {gd : Option (Nat × Bool)} {x y z : Operand} {X : List Nat} {L : Own} {D : Au}
end
end Go.Sw
namespace Go.Sw
open Go Go.RowKit Go.Ech
def Py (k:Int) (tr nx tw fr to:Value) (ch:Int):Array Value:=#[.int .i64 k,tr,nx,tw,fr,to,.int .i64 ch]
def Pv (i:Nat) (f:Nat->Value):Array Value:=Al 4 (fun c=>if c=0 then .int .i64 (i:Int) else f (c - 1))
end Go.Sw
namespace Go.Sw
open Go Go.RowKit Go.Ech
def PP (l:List Value):Facts Unit:=fun i _ u _=>u=l.getD i undef
end Go.Sw
namespace Go.Sw
open Go Go.RowKit Go.Ech
structure TwP (N:Nat) (K:Nat->Int) (tw:Nat->Nat):Prop where
  lt:∀ x,x<N->tw x<N
  ne:∀ x,x<N->tw x≠x
  abs:∀ x,x<N->(K (tw x)).natAbs=(K x).natAbs
  only:∀ x y,x<N->y<N->(K y).natAbs=(K x).natAbs->y=x\/y=tw x
def Pc (c:Prop) [Decidable c] (b:Nat):Value:=if c then ptr b 0 else .pointer none
def P9 (x:Nat):Nat:=x / 3*3+(x%3+1)%3
def QG (K:Nat->Int) (tw φ ψ:Nat->Nat) (x:Nat):Nat:=if tw x<x then (if K x=K (tw x) then φ (tw x) else ψ (tw x)) else φ x
def Pw (K:Nat->Int) (tw φ ψ:Nat->Nat) (x:Nat):Nat:=if tw x<x then (if K x=K (tw x) then ψ (tw x) else φ (tw x)) else ψ x
def SC (K:Nat->Int) (tw τ σ φ ψ:Nat->Nat) (q u x:Nat):Array Value:=Py (K x) (ptr (τ (x / 3)) 0) (Pc (x<u) (σ (P9 x))) (Pc (tw x<q) (σ (tw x))) (ptr (QG K tw φ ψ x) 0) (ptr (Pw K tw φ ψ x) 0) 0
def QN (σ:Nat->Nat) (i:Nat):Array Value:=Pv i (fun j=>ptr (σ (i*3+j)) 0)
structure Gr (D:Au) (lo N:Nat) (K:Nat->Int) (tw:Nat->Nat) (q u t:Nat) (τ σ φ ψ:Nat->Nat):Prop where
  sid:∀ x,x<q->(σ x,SC K tw τ σ φ ψ q u x)∈D
  inj:∀ x y,x<q->y<q->σ x=σ y->x=y
  tri:∀ i,i<t->(τ i,QN σ i)∈D
  tip:∀ x,x<q->x<tw x->(φ x,#[.pointer none])∈D/\(ψ x,#[.pointer none])∈D
  tin:∀ x y,x<q->y<q->x<tw x->y<tw y->(φ x=φ y->x=y)/\(ψ x=ψ y->x=y)/\φ x≠ψ y
  ge:∀ b cs,(b,cs)∈D->lo<=b
section
variable {D D' : Au} {lo N : Nat} {K : Nat -> Int} {tw : Nat -> Nat} {q u t : Nat} {τ σ φ ψ : Nat -> Nat}
end
structure MpOk (es:List MapEntry) (K:Nat->Int) (tw σ:Nat->Nat) (q:Nat):Prop where
  keys:O8 es
  no:∀ k:Nat,(∀ y,y<q->(K y).natAbs≠k)->Nw (k:Int) es 0=some none
  yes:∀ y,y<q->y<tw y->∃ ix,Nw (((K y).natAbs:Nat):Int) es 0=some (some (ix,ptr (σ y) 0))
end Go.Sw
namespace Go.Sw
open Go Go.RowKit Go.Ech
variable {P : Program}
section
variable {ops : Array Oper} {Q : Exit -> Act -> World -> Prop} {rest : List Oper} {n : Nat} {F : List (Nat × Value)} {a : Act} {X : List Nat} {w w0 : World} {L : Own} {D : Au}
variable {d : Option Tmp} {t : TypeId} {pos : String} {af : Array Edge} {gd : Option (Nat × Bool)} {T : TypeId} {x y : Operand}
end
section
variable {K : Nat -> Int} {tw τ σ φ ψ : Nat -> Nat} {q u bx b1 b2 bT : Nat} {k : Int}
end
end Go.Sw
namespace Go.Sw
open Go Go.RowKit
def PX (s0:Nat) (D:Au) (n br:Nat):Prop:=s0<=br/\∃ csr,(br,csr)∈D/\∀ j,j<n->∃ x:Int,csr[0+j*1]? = some (.int .i64 x)
def PV (s0:Nat) (D:Au) (n bt:Nat) (cst:Array Value):Prop:=(bt,cst)∈D/\∀ i,i<n->∃ br cr,cst[0+i*1]? = some (.slice (some ⟨br,0,none⟩) n cr)/\br≠bt/\PX s0 D n br
def Pl (s0:Nat) (D1:Au) (q:Int) (tb:Value):Prop:=0<q/\q<=6/\∃ bt ct cst,tb = .slice (some ⟨bt,0,none⟩) q.toNat ct/\q.toNat<=ct/\PV s0 D1 q.toNat bt cst
theorem MemX.plusD {X:List Nat}{w0 w w':World}{L:Own}{D D1:Au}(h:MemX X w0 w L D)(hx:Ext w w')(hD:∀ x ds,(x,ds)∈D1->w.heap.size<=x/\Blk w' x ds):MemX X w0 w' L (D1++D):=by
  have h2:=h.ext hx;refine ⟨h2.bel,h2.blk,h2.apart,fun b cs hb=>?_⟩
  rcases List.mem_append.1 hb with hb | hb
  . refine ⟨(hD b cs hb).2,fun k c ds hk e=>?_⟩
    have h3:=(h.blk k c ds hk).2.lt;have h4:=(hD b cs hb).1
    omega
  . exact h2.froz b cs hb
end Go.Sw
namespace Go.Sw
open Go Go.RowKit
variable {P : Program} {n : Nat} {F : List (Nat × Value)} {a : Act} {w : World} {d : Option Tmp} {t : TypeId} {pos : String} {af : Array Edge} {gd : Option (Nat × Bool)} {x y : Operand}
end Go.Sw
namespace Go.Ech
open Go.Sw
def P5 (u:Nat->Nat) (W:Nat->Nat->Nat):Nat->Nat->Nat
  | 0=>u
  | k+1=>W k
def O9 (p n:Nat) (x y:Nat->Int):Prop:=∀ c,c<n->(p:Int)∣x c - y c
section
variable {p n : Nat} {T : Nat -> Nat -> Nat -> Nat} {x y z x' y' : Nat -> Int}
def OY (n:Nat) (T:Nat->Nat->Nat->Nat):Prop:=∀ i,i<n->∀ j,j<n->∀ k,k<n->T i j k=T j i k
end
def eP (n:Nat) (T:Nat->Nat->Nat->Nat) (e v:Nat->Int):Nat->Nat->Int
  | 0=>e
  | k+1=>Pr n T (eP n T e v k) v
def QH (n:Nat) (T:Nat->Nat->Nat->Nat) (e v:Nat->Int):List Int->Nat->Nat->Int
  | [],_,_=>0
  | a::r,j,c=>a*eP n T e v j c+QH n T e v r (j+1) c
def MK:List Int->List Int->List Int
  | [],r=>r
  | q,[]=>q
  | a::q,b::r=>(a+b)::MK q r
def Oo (q:List Int):List Int->List Int
  | []=>[]
  | b::r=>MK (q.map (b * ·)) (0::Oo q r)
def Pi (p:Int) (q r:List Int):Bool:=(MK q (r.map (-1 * ·))).all fun a=>decide (a%p=0)
section
variable {p n : Nat} {T : Nat -> Nat -> Nat -> Nat} {e v : Nat -> Int}
variable (ha : ML p n T) (hk : OY n T) (he : O9 p n (Pr n T e e) e)
include ha hk in
end
def G9 (n:Nat) (F:Nat->Nat->Nat) (b:Nat->Nat) (i c:Nat):Nat:=if c<n then F i c else b i
theorem NJ {p n:Nat}{F:Nat->Nat->Nat}{b:Nat->Nat}(O:∀ i c,F i c<p)(hb:∀ i,b i<p):∀ i c,G9 n F b i c<p:=fun i c=>by
  unfold G9;split
  . exact O i c
  . exact hb i
theorem ND {p n k:Nat}{F E:Nat->Nat->Nat}{b y:Nat->Nat}{ld:Nat->Nat}(hp:2<=p)(hn:n<=6)(O:∀ i c,n<=c->F i c=0)(hf:FullK p n F)(hy:∀ c,y c<p)(hs:∀ i,i<n->(p:Int)∣sI (fun q=>(F i q:Int)*(y q:Int)) n - (b i:Int))(h:Rref p (n+1) E k ld)(hK:∀ x,Ker p (n+1) E k x↔Ker p (n+1) (G9 n F b) n x) :
    (k=n/\∀ i,i<n->ld i=i)/\∀ i,i<n->E i n=y i:=by
  have hd:∀ (x:Nat->Nat) i,dot (n+1) (ci (G9 n F b i)) (FN n x)=sI (fun q=>(F i q:Int)*(x q:Int)) n - (b i:Int):=fun x i=>by
    unfold dot;simp only [sI]
    have e1:sI (fun c=>ci (G9 n F b i) c*FN n x c) n=sI (fun q=>(F i q:Int)*(x q:Int)) n:=An fun c hc=>by
      show (((if c<n then F i c else _:Nat)):Int)*_=_
      rw [if_pos hc,Fw hc]
    have e2:ci (G9 n F b i) n*FN n x n = -(b i:Int):=by
      show (((if n<n then F i n else b i:Nat)):Int)*_=_
      rw [if_neg (by omega),GM];omega
    rw [e1,e2];omega
  have hx:Ker p (n+1) E k (FN n y):=(hK _).2 fun i hi=>by rw [hd];exact hs i hi
  have hH:=D8 hp h y (fun i _=>hy i) hx fun z hz hJ=>by
    refine JG hp hn O hf (b:=fun i=>(b i:Int)) hz (fun c _=>hy c) (fun i hi=>?_) (fun i hi=>hs i hi);have:=(hK _).1 hJ i hi
    rwa [hd] at this
  exact ⟨⟨hH.k,hH.ld⟩,fun i hi=>((GG h hH y (fun i _=>hy i)).1 hx i hi).symm⟩
end Go.Ech
