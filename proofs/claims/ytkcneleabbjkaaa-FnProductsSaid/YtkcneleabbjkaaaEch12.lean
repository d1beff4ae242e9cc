import Derived.Test.YtkcneleabbjkaaaSw79
import Derived.Test.YtkcneleabbjkaaaSw70
import Derived.Test.YtkcneleabbjkaaaSw75
import Derived.Test.YtkcneleabbjkaaaEch5
set_option linter.unusedVariables false
set_option linter.unusedSimpArgs false
namespace Go.Sw
open Go Go.RowKit Go.Ech
def No (l:List Value):Facts Unit:=fun i _ u _=>u=l.getD i undef
end Go.Sw
namespace Go.Sw
open Go Go.RowKit Go.Ech
structure TwP (N:Nat) (K:Nat→Int) (tw:Nat→Nat):Prop where
  lt:∀ x,x<N→tw x<N
  ne:∀ x,x<N→tw x≠x
  abs:∀ x,x<N→(K (tw x)).natAbs=(K x).natAbs
  only:∀ x y,x<N→y<N→(K y).natAbs=(K x).natAbs→y=x∨y=tw x
def OB (c:Prop) [Decidable c] (b:Nat):Value:=if c then ptr b 0 else .pointer none
def Od (x:Nat):Nat:=x / 3*3+(x%3+1)%3
def Oi (K:Nat→Int) (tw φ ψ:Nat→Nat) (x:Nat):Nat:=if tw x<x then (if K x=K (tw x) then φ (tw x) else ψ (tw x)) else φ x
def OT (K:Nat→Int) (tw φ ψ:Nat→Nat) (x:Nat):Nat:=if tw x<x then (if K x=K (tw x) then ψ (tw x) else φ (tw x)) else ψ x
def SC (K:Nat→Int) (tw τ σ φ ψ:Nat→Nat) (q u x:Nat):Array Value:=OW (K x) (ptr (τ (x / 3)) 0) (OB (x<u) (σ (Od x))) (OB (tw x<q) (σ (tw x))) (ptr (Oi K tw φ ψ x) 0) (ptr (OT K tw φ ψ x) 0) 0
def Ot (σ:Nat→Nat) (i:Nat):Array Value:=OS i (fun j=>ptr (σ (i*3+j)) 0)
structure Gr (D:BI) (lo N:Nat) (K:Nat→Int) (tw:Nat→Nat) (q u t:Nat) (τ σ φ ψ:Nat→Nat):Prop where
  sid:∀ x,x<q→(σ x,SC K tw τ σ φ ψ q u x)∈D
  inj:∀ x y,x<q→y<q→σ x=σ y→x=y
  tri:∀ i,i<t→(τ i,Ot σ i)∈D
  tip:∀ x,x<q→x<tw x→(φ x,#[.pointer none])∈D∧(ψ x,#[.pointer none])∈D
  tin:∀ x y,x<q→y<q→x<tw x→y<tw y→(φ x=φ y→x=y)∧(ψ x=ψ y→x=y)∧φ x≠ψ y
  ge:∀ b cs,(b,cs)∈D→lo≤b
section
variable {D D' : BI} {lo N : Nat} {K : Nat → Int} {tw : Nat → Nat} {q u t : Nat} {τ σ φ ψ : Nat → Nat}
end
structure MpOk (es:List MapEntry) (K:Nat→Int) (tw σ:Nat→Nat) (q:Nat):Prop where
  keys:Nb es
  no:∀ k:Nat,(∀ y,y<q→(K y).natAbs≠k)→Mb (k:Int) es 0=some none
  yes:∀ y,y<q→y<tw y→∃ ix,Mb (((K y).natAbs:Nat):Int) es 0=some (some (ix,ptr (σ y) 0))
end Go.Sw
namespace Go.Sw
open Go Go.RowKit Go.Ech
variable {P : Program}
section
variable {ops : Array Oper} {Q : Exit → Act → World → Prop} {rest : List Oper} {n : Nat} {F : List (Nat × Value)} {a : Act} {X : List Nat} {w w0 : World} {L : Own} {D : BI}
variable {d : Option Tmp} {t : TypeId} {pos : String} {af : Array Edge} {gd : Option (Nat × Bool)} {T : TypeId} {x y : Operand}
end
section
variable {K : Nat → Int} {tw τ σ φ ψ : Nat → Nat} {q u bx b1 b2 bT : Nat} {k : Int}
end
end Go.Sw
namespace Go.Sw
open Go Go.RowKit
def Ny (s0:Nat) (D:BI) (n br:Nat):Prop:=s0≤br∧∃ csr,(br,csr)∈D∧∀ j,j<n→∃ x:Int,csr[0+j*1]? = some (.int .i64 x)
def Nv (s0:Nat) (D:BI) (n bt:Nat) (cst:Array Value):Prop:=(bt,cst)∈D∧∀ i,i<n→∃ br cr,cst[0+i*1]? = some (.slice (some ⟨br,0,none⟩) n cr)∧br≠bt∧Ny s0 D n br
def OH (s0:Nat) (D1:BI) (q:Int) (tb:Value):Prop:=0<q∧q≤6∧∃ bt ct cst,tb = .slice (some ⟨bt,0,none⟩) q.toNat ct∧q.toNat≤ct∧Nv s0 D1 q.toNat bt cst
theorem MemX.plusD {X:List Nat}{w0 w w':World}{L:Own}{D D1:BI}(h:MemX X w0 w L D)(hx:Ext w w')(hD:∀ x ds,(x,ds)∈D1→w.heap.size≤x∧Blk w' x ds):MemX X w0 w' L (D1++D):=by
  have h2:=h.ext hx;refine ⟨h2.bel,h2.blk,h2.apart,fun b cs hb=>?_⟩
  rcases List.mem_append.1 hb with hb | hb
  · refine ⟨(hD b cs hb).2,fun k c ds hk e=>?_⟩
    have h3:=(h.blk k c ds hk).2.lt;have h4:=(hD b cs hb).1
    omega
  · exact h2.froz b cs hb
end Go.Sw
namespace Go.Sw
open Go Go.RowKit
variable {P : Program} {n : Nat} {F : List (Nat × Value)} {a : Act} {w : World} {d : Option Tmp} {t : TypeId} {pos : String} {af : Array Edge} {gd : Option (Nat × Bool)} {x y : Operand}
theorem NT {T1 T2:TypeId}{k:IntKind}{A B C:Int}(hF:Fr n a F)(hx:look F x=some (.int k A))(hy:look F y=some (.int k B))(hC:(if B<A then B else A)=C):BW P ⟨d,.call { callee:=.builtin .min,args:=#[x,y],argTypes:=#[T1,T2] },t,pos,af,gd⟩ a w (.int k C):=
  An (by simp [execOp,resolve,invoke,hF.eval hx,hF.eval hy,builtin,Builtin.min_,Builtin.min2,hC])
theorem Mx (A B:Int):(if B<A then B else A)=min A B:=by omega
theorem My (A B:Int):(if B > A then B else A)=max A B:=by omega
end Go.Sw
namespace Go.Ech
open Go.Sw
def OZ (u:Nat→Nat) (W:Nat→Nat→Nat):Nat→Nat→Nat
  | 0=>u
  | k+1=>W k
end Go.Ech
namespace Go.Ech
open Go.Sw
def EqP (p n:Nat) (x y:Nat→Int):Prop:=∀ c,c<n→(p:Int)∣x c - y c
section
variable {p n : Nat} {T : Nat → Nat → Nat → Nat} {x y z x' y' : Nat → Int}
theorem EqP.refl (x:Nat→Int):EqP p n x x:=fun c _=>by rw [Int.sub_self];exact ⟨0,by simp⟩
theorem EqP.symm (h:EqP p n x y):EqP p n y x:=fun c hc=>by
  have:=Int.dvd_neg.2 (h c hc)
  rwa [Int.neg_sub] at this
theorem EqP.trans (h:EqP p n x y)(k:EqP p n y z):EqP p n x z:=fun c hc=>by
  have:=Int.dvd_add (h c hc) (k c hc)
  rwa [show x c - y c+(y c - z c)=x c - z c by omega] at this
theorem EqP.mul (h:EqP p n x x')(k:EqP p n y y'):EqP p n (Pr n T x y) (Pr n T x' y'):=fun c _=>HM h k c
def N0 (n:Nat) (T:Nat→Nat→Nat→Nat):Prop:=∀ i,i<n→∀ j,j<n→∀ k,k<n→T i j k=T j i k
end
def eP (n:Nat) (T:Nat→Nat→Nat→Nat) (e v:Nat→Int):Nat→Nat→Int
  | 0=>e
  | k+1=>Pr n T (eP n T e v k) v
def Oj (n:Nat) (T:Nat→Nat→Nat→Nat) (e v:Nat→Int):List Int→Nat→Nat→Int
  | [],_,_=>0
  | a::r,j,c=>a*eP n T e v j c+Oj n T e v r (j+1) c
def M7:List Int→List Int→List Int
  | [],r=>r
  | q,[]=>q
  | a::q,b::r=>(a+b)::M7 q r
def NL (q:List Int):List Int→List Int
  | []=>[]
  | b::r=>M7 (q.map (b * ·)) (0::NL q r)
def OF (p:Int) (q r:List Int):Bool:=(M7 q (r.map (-1 * ·))).all fun a=>decide (a%p=0)
section
variable {p n : Nat} {T : Nat → Nat → Nat → Nat} {e v : Nat → Int}
variable (ha : Kx p n T) (hk : N0 n T) (he : EqP p n (Pr n T e e) e)
include ha hk in
end
end Go.Ech
