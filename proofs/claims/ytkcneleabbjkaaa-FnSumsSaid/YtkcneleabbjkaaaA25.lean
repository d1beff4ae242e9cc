import Derived.Test.YtkcneleabbjkaaaP15
set_option linter.unusedVariables false
set_option linter.unusedSimpArgs false
namespace Go.Proofs.Ytkcneleabbjkaaa
open Go Go.RowKit Go.Sw Go.Ech
open Classical
def Ra (p:Nat) (F G:Nat->Nat->Nat) (i k c:Nat):Nat:=sumTo (fun j=>F i j*G c j) k%p
def Rb (p n:Nat) (F G:Nat->Nat->Nat) (i c:Nat):Nat:=Ra p F G i n c
section
variable {P N : Int} {T U : Nat -> Nat -> Nat -> Nat} {f uu : Nat -> Nat} {p n : Nat}
def Re (p:Nat) (M:Nat->Nat->Nat) (φ:Nat->Nat) (i j c:Nat):Nat:=(sumTo (fun a=>M a c*φ a) i+(if c<j then M i c*φ i else 0))%p
def RR (p n:Nat) (M:Nat->Nat->Nat) (φ:Nat->Nat) (i j c:Nat):Nat:=(if c<i then sumTo (fun b=>M c b*φ b) n else if c=i then sumTo (fun b=>M i b*φ b) j else 0)%p
end
def R8 (P N:Int) (T:Nat->Nat->Nat->Nat) (f:Nat->Nat) (v:Nat->Nat) (m n2:Nat) (M:Nat->Nat->Nat) (e:Int):Prop:=(e≠0->m=0)/\(e=0->∃ p n:Nat,m=n/\n2=n/\(P=(p:Int)/\N=(n:Int)/\2<=p/\p<=13/\0<n/\n<=6)/\(∀ i c,M i c<p)/\(∀ i c,n<=c->M i c=0)/\(∀ i:Nat,i<n->(∀ w,CallsR Try.prog 27 #[.agg (AD P N T f),.agg (AQ (fun c=>if c=i then 1 else 0))] w (fun u _=>u = .tuple #[.int .i64 (fV p f (fun c=>if c=i then 1 else 0):Int),.int .i64 0])))/\(∀ (x y:Nat->Nat) (k:Nat),(∀ c,x c<=255)->okV (p:Int) (n:Int) x->(∀ c,y c<=255)->okV (p:Int) (n:Int) y->k<p->(∀ w,CallsR Try.prog 22 #[.agg (AD P N T f),.agg (AQ x),.agg (AQ y),.int .i64 (k:Int)] w (fun u _=>u = .tuple #[.agg (AQ (Fw p x y k)),.int .i64 0])))/\primeN p/\
  AQ (Re p M (fun a=>fV p f (fun c=>if c=a then 1 else 0)) n 0)=AQ v/\AQ (RR p n M (fun a=>fV p f (fun c=>if c=a then 1 else 0)) n 0)=AQ v)
def SB (P N:Int) (T:Nat->Nat->Nat->Nat) (f:Nat->Nat) (h:Nat->Nat) (e:Int):Prop:=e=0->∃ (p n:Nat) (U:Nat->Nat->Nat->Nat) (uu:Nat->Nat) (M:Nat->Nat->Nat),(P=(p:Int)/\N=(n:Int)/\2<=p/\p<=13/\0<n/\n<=6)/\(∀ w,CallsR Try.prog 14 #[.agg (AD P N T f)] w (fun u _=>u = .tuple #[.agg (AQ uu),.int .i64 0]))/\(∀ w,CallsR Try.prog 63 #[.agg (AD P N T f),.agg (AQ uu)] w (fun u w'=>∃ l,u = .tuple #[l,.int .i64 0]/\NewX (fun D u=>TbX D n n M u) w w' l))/\(∀ i c,M i c<p)/\(∀ i j k,U i j k<=255)/\
  (∀ i j,i<n->j<n->(∀ w,CallsR Try.prog 10 #[.agg (AD P N T f),.agg (AQ (fun c=>if c=i then 1 else 0)),.agg (AQ (fun c=>if c=j then 1 else 0))] w (fun u _=>u = .tuple #[.agg (AQ (U i j)),.int .i64 0])))/\(∀ (x y:Nat->Nat) (k:Nat),(∀ c,x c<=255)->okV (p:Int) (n:Int) x->(∀ c,y c<=255)->okV (p:Int) (n:Int) y->k<p->(∀ w,CallsR Try.prog 22 #[.agg (AD P N T f),.agg (AQ x),.agg (AQ y),.int .i64 (k:Int)] w (fun u _=>u = .tuple #[.agg (AQ (Fw p x y k)),.int .i64 0])))/\(∀ i j,i<n->j<n->okV (p:Int) (n:Int) (U i j))/\(∀ i j,i<=n->okV (p:Int) (n:Int) (RF p n U M i j))/\AQ (RF p n U M n 0)=AQ h
end Go.Proofs.Ytkcneleabbjkaaa
