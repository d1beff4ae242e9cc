import Derived.Test.YtkcneleabbjkaaaA12
set_option linter.unusedVariables false
set_option linter.unusedSimpArgs false
namespace Go.Proofs.Ytkcneleabbjkaaa
open Go Go.RowKit Go.Sw Go.Ech
open Classical
section
variable {P : Program} {fn : Func} {a : Act} {w : World}
end
def SF {G:Type} (l:List (G->Value->Prop)):Facts G:=fun j g v _=>(l.getD j (fun _ _=>True)) g v
structure Good (P N:Int) (T:Nat->Nat->Nat->Nat) (f:Nat->Nat) (p n:Nat) (U:Nat->Nat->Nat->Nat) (uu:Nat->Nat):Prop where
  eP:(p:Int)=P
  eN:(n:Int)=N
  cells:AD P N T f=AD (p:Int) (n:Int) U f
  hp:primeN p
  hn0:0<n
  hn:n<=6
  lt:∀ i j k,U i j k<p
  out:∀ i j k,n<=k->U i j k=0
  ass:QO p n U
  unit:UnitI p n U uu
  alg:B4 (p:Int) (n:Int) U f
theorem FN {P N:Int}{T:Nat->Nat->Nat->Nat}{f:Nat->Nat}(h:B4 P N T f):∃ p n U uu,Good P N T f p n U uu:=by
  have hs:=h.1;have hH:=C4 hs.1;have hn:=hs.2.1;have e1:(P.toNat:Int)=P:=by omega
  have e2:(N.toNat:Int)=N:=by omega
  obtain ⟨ha,uu,hu⟩:=h.2;refine ⟨P.toNat,N.toNat,trunc N.toNat T,uu,e1,e2,?_,GB hs.1,by omega,by omega,Gl hs,F6,ha,hu,?_⟩
  . rw [e1,e2];exact FT hs
  . rw [e1,e2];exact ⟨EX hs,by rw [IH];exact h.2⟩
def OV (p n:Nat) (x:Nat->Nat):Prop:=okV (p:Int) (n:Int) x/\∀ i,x i<=255
theorem OV.lt {p n:Nat}{x:Nat->Nat}(h:OV p n x){c:Nat}(hc:c<6):x c<p:=by
  have:=h.1 c hc;unfold GW at this;omega
theorem OV.out {p n:Nat}{x:Nat->Nat}(h:OV p n x){c:Nat}(hc:c<6)(hn:n<=c):x c=0:=by
  have:=h.1 c hc;unfold GW at this;omega
theorem OV.mk {p n:Nat}{x:Nat->Nat}(hp:primeN p)(h1:∀ c,x c<p)(h2:∀ c,n<=c->x c=0):OV p n x:=
  ⟨fun c _=>by have:=h1 c;have:=h2 c;unfold GW;omega,fun c=>by have:=h1 c;have:=hp.le;omega⟩
theorem K5 {p n:Nat}{U:Nat->Nat->Nat->Nat}(x y:Nat->Nat):EqP p n (ci (timesS p n U x y)) (Pr n U (ci x) (ci y)):=fun c hc=>by
  show (p:Int)∣(timesS p n U x y c:Int) - _
  unfold timesS;rw [if_pos hc];exact LQ
section
variable {P N : Int} {T U : Nat -> Nat -> Nat -> Nat} {f uu : Nat -> Nat} {p n : Nat}
theorem Good.code (G:Good P N T f p n U uu){m:Nat}{V:Nat->Nat->Nat}(h:∀ i,i<m->okV (p:Int) (n:Int) (V i)):Cx (p:Int) (n:Int) U f m V:=⟨G.alg,h⟩
theorem Cv:∀ i,i<0->okV (p:Int) (n:Int) (Cj [] i):=fun i hi=>absurd hi (by omega)
end
def R9 (P N:Int) (T:Nat->Nat->Nat->Nat) (f:Nat->Nat) (v u r:Nat->Nat) (e:Int):Prop:=e=0->∃ x2 y uu z s:Nat->Nat,(∀ w,CallsR Try.prog 10 #[.agg (AD P N T f),.agg (AQ r),.agg (AQ v)] w (fun u _=>u = .tuple #[.agg (AQ y),.int .i64 0]))/\(∀ w,CallsR Try.prog 10 #[.agg (AD P N T f),.agg (AQ u),.agg (AQ v)] w (fun u _=>u = .tuple #[.agg (AQ x2),.int .i64 0]))/\(∀ w,CallsR Try.prog 10 #[.agg (AD P N T f),.agg (AQ v),.agg (AQ x2)] w (fun u _=>u = .tuple #[.agg (AQ y),.int .i64 0]))/\(∀ w,CallsR Try.prog 14 #[.agg (AD P N T f)] w (fun u _=>u = .tuple #[.agg (AQ uu),.int .i64 0]))/\(∀ w,CallsR Try.prog 10 #[.agg (AD P N T f),.agg (AQ uu),.agg (AQ v)] w (fun u _=>u = .tuple #[.agg (AQ v),.int .i64 0]))/\(∀ w,CallsR Try.prog 10 #[.agg (AD P N T f),.agg (AQ v),.agg (AQ uu)] w (fun u _=>u = .tuple #[.agg (AQ v),.int .i64 0]))/\
  (∀ w,CallsR Try.prog 15 #[.agg (AD P N T f),.agg (AQ v),.int .i64 3] w (fun u _=>u = .tuple #[.agg (AQ z),.int .i64 0]))/\(∀ w,CallsR Try.prog 15 #[.agg (AD P N T f),.agg (AQ v),.int .i64 2] w (fun u _=>u = .tuple #[.agg (AQ s),.int .i64 0]))/\(∀ w,CallsR Try.prog 10 #[.agg (AD P N T f),.agg (AQ v),.agg (AQ s)] w (fun u _=>u = .tuple #[.agg (AQ z),.int .i64 0]))
def SA (P N:Int) (T:Nat->Nat->Nat->Nat) (f:Nat->Nat) (v r:Nat->Nat) (e:Int):Prop:=e=0->∃ uu:Nat->Nat,(∀ w,CallsR Try.prog 14 #[.agg (AD P N T f)] w (fun u _=>u = .tuple #[.agg (AQ uu),.int .i64 0]))/\(∀ w,CallsR Try.prog 10 #[.agg (AD P N T f),.agg (AQ v),.agg (AQ r)] w (fun u _=>u = .tuple #[.agg (AQ uu),.int .i64 0]))/\(∀ w,CallsR Try.prog 10 #[.agg (AD P N T f),.agg (AQ r),.agg (AQ v)] w (fun u _=>u = .tuple #[.agg (AQ uu),.int .i64 0]))
end Go.Proofs.Ytkcneleabbjkaaa
