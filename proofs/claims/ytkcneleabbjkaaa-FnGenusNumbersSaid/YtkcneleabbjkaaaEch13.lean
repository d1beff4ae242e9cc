import Derived.Test.YtkcneleabbjkaaaSw79
set_option linter.unusedVariables false
set_option linter.unusedSimpArgs false
namespace Go.Sw
open Go Go.RowKit Go.Ech
def Qx (l:List Value):Facts Unit:=fun i _ u _=>u=l.getD i undef
structure TwP (N:Nat) (K:Nat->Int) (tw:Nat->Nat):Prop where
  lt:∀ x,x<N->tw x<N
  ne:∀ x,x<N->tw x≠x
  abs:∀ x,x<N->(K (tw x)).natAbs=(K x).natAbs
  only:∀ x y,x<N->y<N->(K y).natAbs=(K x).natAbs->y=x\/y=tw x
def RB (c:Prop) [Decidable c] (b:Nat):Value:=if c then ptr b 0 else .pointer none
def Ra (x:Nat):Nat:=x / 3*3+(x%3+1)%3
def Rg (K:Nat->Int) (tw φ ψ:Nat->Nat) (x:Nat):Nat:=if tw x<x then (if K x=K (tw x) then φ (tw x) else ψ (tw x)) else φ x
def RQ (K:Nat->Int) (tw φ ψ:Nat->Nat) (x:Nat):Nat:=if tw x<x then (if K x=K (tw x) then ψ (tw x) else φ (tw x)) else ψ x
def SC (K:Nat->Int) (tw τ σ φ ψ:Nat->Nat) (q u x:Nat):Array Value:=RS (K x) (ptr (τ (x / 3)) 0) (RB (x<u) (σ (Ra x))) (RB (tw x<q) (σ (tw x))) (ptr (Rg K tw φ ψ x) 0) (ptr (RQ K tw φ ψ x) 0) 0
def Rl (σ:Nat->Nat) (i:Nat):Array Value:=RP i (fun j=>ptr (σ (i*3+j)) 0)
structure Gr (D:A4) (lo N:Nat) (K:Nat->Int) (tw:Nat->Nat) (q u t:Nat) (τ σ φ ψ:Nat->Nat):Prop where
  sid:∀ x,x<q->(σ x,SC K tw τ σ φ ψ q u x)∈D
  inj:∀ x y,x<q->y<q->σ x=σ y->x=y
  tri:∀ i,i<t->(τ i,Rl σ i)∈D
  tip:∀ x,x<q->x<tw x->(φ x,#[.pointer none])∈D/\(ψ x,#[.pointer none])∈D
  tin:∀ x y,x<q->y<q->x<tw x->y<tw y->(φ x=φ y->x=y)/\(ψ x=ψ y->x=y)/\φ x≠ψ y
  ge:∀ b cs,(b,cs)∈D->lo<=b
section
variable {D D' : A4} {lo N : Nat} {K : Nat -> Int} {tw : Nat -> Nat} {q u t : Nat} {τ σ φ ψ : Nat -> Nat}
end
structure MpOk (es:List MapEntry) (K:Nat->Int) (tw σ:Nat->Nat) (q:Nat):Prop where
  keys:Ql es
  no:∀ k:Nat,(∀ y,y<q->(K y).natAbs≠k)->PZ (k:Int) es 0=some none
  yes:∀ y,y<q->y<tw y->∃ ix,PZ (((K y).natAbs:Nat):Int) es 0=some (some (ix,ptr (σ y) 0))
variable {P : Program}
section
variable {ops : Array Oper} {Q : Exit -> Act -> World -> Prop} {rest : List Oper} {n : Nat} {F : List (Nat × Value)} {a : Act} {X : List Nat} {w w0 : World} {L : Own} {D : A4}
variable {d : Option Tmp} {t : TypeId} {pos : String} {af : Array Edge} {gd : Option (Nat × Bool)} {T : TypeId} {x y : Operand}
end
section
variable {K : Nat -> Int} {tw τ σ φ ψ : Nat -> Nat} {q u bx b1 b2 bT : Nat} {k : Int}
end
end Go.Sw
namespace Go.Sw
open Go Go.RowKit
def Q7 (s0:Nat) (D:A4) (n br:Nat):Prop:=s0<=br/\∃ csr,(br,csr)∈D/\∀ j,j<n->∃ x:Int,csr[0+j*1]? = some (.int .i64 x)
def Q5 (s0:Nat) (D:A4) (n bt:Nat) (cst:Array Value):Prop:=(bt,cst)∈D/\∀ i,i<n->∃ br cr,cst[0+i*1]? = some (.slice (some ⟨br,0,none⟩) n cr)/\br≠bt/\Q7 s0 D n br
def RH (s0:Nat) (D1:A4) (q:Int) (tb:Value):Prop:=0<q/\q<=6/\∃ bt ct cst,tb = .slice (some ⟨bt,0,none⟩) q.toNat ct/\q.toNat<=ct/\Q5 s0 D1 q.toNat bt cst
theorem MemX.plusD {X:List Nat}{w0 w w':World}{L:Own}{D D1:A4}(h:MemX X w0 w L D)(hx:Ext w w')(hD:∀ x ds,(x,ds)∈D1->w.heap.size<=x/\Blk w' x ds):MemX X w0 w' L (D1++D):=by
  have h2:=h.ext hx;refine ⟨h2.bel,h2.blk,h2.apart,fun b cs hb=>?_⟩
  rcases List.mem_append.1 hb with hb | hb
  . refine ⟨(hD b cs hb).2,fun k c ds hk e=>?_⟩
    have h3:=(h.blk k c ds hk).2.lt;have h4:=(hD b cs hb).1
    omega
  . exact h2.froz b cs hb
variable {P : Program} {n : Nat} {F : List (Nat × Value)} {a : Act} {w : World} {d : Option Tmp} {t : TypeId} {pos : String} {af : Array Edge} {gd : Option (Nat × Bool)} {x y : Operand}
end Go.Sw
namespace Go.Ech
open Go.Sw
def RX (u:Nat->Nat) (W:Nat->Nat->Nat):Nat->Nat->Nat
  | 0=>u
  | k+1=>W k
end Go.Ech
namespace Go.Ech
open Go.Sw
def EqP (p n:Nat) (x y:Nat->Int):Prop:=∀ c,c<n->(p:Int)∣x c - y c
section
variable {p n : Nat} {T : Nat -> Nat -> Nat -> Nat} {x y z x' y' : Nat -> Int}
theorem EqP.refl (x:Nat->Int):EqP p n x x:=fun c _=>by rw [Int.sub_self];exact ⟨0,by simp⟩
theorem EqP.symm (h:EqP p n x y):EqP p n y x:=fun c hc=>by
  have:=Int.dvd_neg.2 (h c hc)
  rwa [Int.neg_sub] at this
theorem EqP.trans (h:EqP p n x y)(k:EqP p n y z):EqP p n x z:=fun c hc=>by
  have:=Int.dvd_add (h c hc) (k c hc)
  rwa [show x c - y c+(y c - z c)=x c - z c by omega] at this
theorem EqP.mul (h:EqP p n x x')(k:EqP p n y y'):EqP p n (Pr n T x y) (Pr n T x' y'):=fun c _=>ET h k c
def Nl (n:Nat) (T:Nat->Nat->Nat->Nat):Prop:=∀ i,i<n->∀ j,j<n->∀ k,k<n->T i j k=T j i k
theorem PS (h:Nl n T)(x y:Nat->Int):EqP p n (Pr n T x y) (Pr n T y x):=fun c hc=>by
  have e:Pr n T x y c=Pr n T y x c:=by
    unfold Pr
    rw [C9];exact Ao fun a ha=>Ao fun b hb=>by rw [h b hb a ha c hc];grind
  rw [e,Int.sub_self];exact ⟨0,by simp⟩
theorem QB (x y z:Nat->Int)(c:Nat):Pr n T (fun c=>x c+y c) z c=Pr n T x z c+Pr n T y z c:=by
  unfold Pr
  rw [← D6];exact Ao fun a _=>by rw [← D6];exact Ao fun b _=>by grind
theorem PR (a:Int)(x z:Nat->Int)(c:Nat):Pr n T (fun c=>a*x c) z c=a*Pr n T x z c:=by
  unfold Pr
  rw [← Ct];exact Ao fun i _=>by rw [← Ct];exact Ao fun b _=>by grind
theorem PQ (x:Nat->Int)(c:Nat):Pr n T (fun _=>0) x c=0:=by
  unfold Pr;exact DZ fun a _=>DZ fun b _=>by simp
end
def eP (n:Nat) (T:Nat->Nat->Nat->Nat) (e v:Nat->Int):Nat->Nat->Int
  | 0=>e
  | k+1=>Pr n T (eP n T e v k) v
def Rh (n:Nat) (T:Nat->Nat->Nat->Nat) (e v:Nat->Int):List Int->Nat->Nat->Int
  | [],_,_=>0
  | a::r,j,c=>a*eP n T e v j c+Rh n T e v r (j+1) c
def Ng:List Int->List Int->List Int
  | [],r=>r
  | q,[]=>q
  | a::q,b::r=>(a+b)::Ng q r
def QW (q:List Int):List Int->List Int
  | []=>[]
  | b::r=>Ng (q.map (b * ·)) (0::QW q r)
def RE (p:Int) (q r:List Int):Bool:=(Ng q (r.map (-1 * ·))).all fun a=>decide (a%p=0)
section
variable {p n : Nat} {T : Nat -> Nat -> Nat -> Nat} {e v : Nat -> Int}
variable (ha : I6 p n T) (hk : Nl n T) (he : EqP p n (Pr n T e e) e)
include ha hk in
end
end Go.Ech
namespace Go.Ech
open Go.Sw
def QZ (p:Int) (k a:Int) (q:List Int):List Int:=(Ng (0::q.map (k * ·)) (q.map (-(k*a) * ·))).map (· % p)
def iL (p:Int) (c:Int):Nat->List Int
  | 0=>[1]
  | k+1=>QZ p 1 c (iL p c k)
def Qt (p:Nat) (x:Int):Nat:=((List.range p).find? (fun (k:Nat)=>decide ((x*(k:Int))%(p:Int)=1))).getD 0
def sL (p c:Nat):Nat->List Int
  | 0=>[1]
  | d+1=>if d=c then sL p c d else QZ p (Qt p ((c:Int) - (d:Int))) d (sL p c d)
def Ry (p c:Nat):List Int:=Ng [1] ((iL p c (p - 1)).map (-1 * ·))
def RV (p:Nat) (q:List Int):List Int:=Ng (q.take p) (0::q.drop p)
section
variable {p n : Nat} {T : Nat -> Nat -> Nat -> Nat} {e v u : Nat -> Int}
variable (ha : I6 p n T) (hk : Nl n T) (he : EqP p n (Pr n T e e) e)
def vP (n:Nat) (T:Nat->Nat->Nat->Nat) (u v:Nat->Int):Nat->Nat->Int
  | 0=>u
  | k+1=>Pr n T (vP n T u v k) v
include ha in
end
end Go.Ech
