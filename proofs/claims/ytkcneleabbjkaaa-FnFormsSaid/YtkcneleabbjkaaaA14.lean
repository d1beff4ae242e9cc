import Derived.Test.YtkcneleabbjkaaaA12
set_option linter.unusedVariables false
set_option linter.unusedSimpArgs false
namespace Go.Proofs.Ytkcneleabbjkaaa
open Go Go.RowKit Go.Sw Go.Ech
open Classical
section
variable {P : Program} {fn : Func} {a : Act} {w : World}
end
def Qp {G:Type} (l:List (G->Value->Prop)):Facts G:=fun j g v _=>(l.getD j (fun _ _=>True)) g v
structure Good (P N:Int) (T:Nat->Nat->Nat->Nat) (f:Nat->Nat) (p n:Nat) (U:Nat->Nat->Nat->Nat) (uu:Nat->Nat):Prop where
  eP:(p:Int)=P
  eN:(n:Int)=N
  cells:AD P N T f=AD (p:Int) (n:Int) U f
  hp:primeN p
  hn0:0<n
  hn:n<=6
  lt:∀ i j k,U i j k<p
  out:∀ i j k,n<=k->U i j k=0
  ass:PE p n U
  unit:UnitI p n U uu
  alg:JU (p:Int) (n:Int) U f
theorem LL {P N:Int}{T:Nat->Nat->Nat->Nat}{f:Nat->Nat}(h:JU P N T f):∃ p n U uu,Good P N T f p n U uu:=by
  have hs:=h.1;have hH:=Cy hs.1;have hn:=hs.2.1;have e1:(P.toNat:Int)=P:=by omega
  have e2:(N.toNat:Int)=N:=by omega
  obtain ⟨ha,uu,hu⟩:=h.2;refine ⟨P.toNat,N.toNat,trunc N.toNat T,uu,e1,e2,?_,Ge hs.1,by omega,by omega,HR hs,Ga,ha,hu,?_⟩
  . rw [e1,e2];exact Fx hs
  . rw [e1,e2];exact ⟨Ez hs,by rw [Ka];exact h.2⟩
def OV (p n:Nat) (x:Nat->Nat):Prop:=okV (p:Int) (n:Int) x/\∀ i,x i<=255
theorem OV.out {p n:Nat}{x:Nat->Nat}(h:OV p n x){c:Nat}(hc:c<6)(hn:n<=c):x c=0:=by
  have:=h.1 c hc;unfold HA at this;omega
theorem OV.mk {p n:Nat}{x:Nat->Nat}(hp:primeN p)(h1:∀ c,x c<p)(h2:∀ c,n<=c->x c=0):OV p n x:=
  ⟨fun c _=>by have:=h1 c;have:=h2 c;unfold HA;omega,fun c=>by have:=h1 c;have:=hp.le;omega⟩
theorem Jo {p n:Nat}{U:Nat->Nat->Nat->Nat}(hp:primeN p)(x y:Nat->Nat):OV p n (timesS p n U x y):=by
  have h2:=hp.two;refine OV.mk hp (fun c=>?_) (fun c hc=>?_)
  . unfold timesS timesV;split
    . exact Nat.mod_lt _ (by omega)
    . omega
  . unfold timesS;rw [if_neg (by omega)]
theorem Mx {p n:Nat}{U:Nat->Nat->Nat->Nat}(x y:Nat->Nat):O9 p n (ci (timesS p n U x y)) (Pr n U (ci x) (ci y)):=fun c hc=>by
  show (p:Int)∣(timesS p n U x y c:Int) - _
  unfold timesS;rw [if_pos hc];exact Kc
section
variable {P N : Int} {T U : Nat -> Nat -> Nat -> Nat} {f uu : Nat -> Nat} {p n : Nat}
theorem Good.tEq (G:Good P N T f p n U uu)(x y:Nat->Nat):timesV p n U x y=timesS p n U x y:=F4 G.out x y
theorem Good.code (G:Good P N T f p n U uu){m:Nat}{V:Nat->Nat->Nat}(h:∀ i,i<m->okV (p:Int) (n:Int) (V i)):Bn (p:Int) (n:Int) U f m V:=⟨G.alg,h⟩
theorem KZ {x y:Nat->Nat}(hx:OV p n x)(hy:OV p n y):∀ i,i<2->okV (p:Int) (n:Int) (BU [x,y] i):=fun i hi=>by
  rcases (show i=0\/i=1 by omega) with rfl | rfl
  . exact hx.1
  . exact hy.1
theorem OL {x:Nat->Nat}(hx:OV p n x):∀ i,i<1->okV (p:Int) (n:Int) (BU [x] i):=fun i hi=>by
  rcases (show i=0 by omega) with rfl
  exact hx.1
theorem Cf:∀ i,i<0->okV (p:Int) (n:Int) (BU [] i):=fun i hi=>absurd hi (by omega)
theorem Good.mulI (G:Good P N T f p n U uu)(hf:∀ i,f i<=255){x y:Nat->Nat}(hx:OV p n x)(hy:OV p n y):(∀ w,CallsR Try.prog 10 #[.agg (AD P N T f),.agg (AF x),.agg (AF y)] w (fun u _=>u = .tuple #[.agg (AF (timesS p n U x y)),.int .i64 0])):=fun w=>by
  rw [G.cells,← G.tEq]
  exact GR p n U f x y w G.hp G.hn0 G.hn G.lt G.out hf hx.2 hy.2 (G.code (KZ hx hy))
theorem Good.okv (G:Good P N T f p n U uu){x:Nat->Nat}(h:okV P N x)(hx:∀ i,x i<=255):OV p n x:=⟨by rw [G.eP,G.eN];exact h,hx⟩
end
theorem at2 {x y:Nat->Nat}{P N:Int}(h:∀ i,i<2->okV P N (BU [x,y] i)):okV P N x/\okV P N y:=⟨h 0 (by omega),h 1 (by omega)⟩
def Ql (P N:Int) (T:Nat->Nat->Nat->Nat) (f:Nat->Nat) (v u r:Nat->Nat) (e:Int):Prop:=e=0->∃ x2 y uu z s:Nat->Nat,(∀ w,CallsR Try.prog 10 #[.agg (AD P N T f),.agg (AF r),.agg (AF v)] w (fun u _=>u = .tuple #[.agg (AF y),.int .i64 0]))/\(∀ w,CallsR Try.prog 10 #[.agg (AD P N T f),.agg (AF u),.agg (AF v)] w (fun u _=>u = .tuple #[.agg (AF x2),.int .i64 0]))/\(∀ w,CallsR Try.prog 10 #[.agg (AD P N T f),.agg (AF v),.agg (AF x2)] w (fun u _=>u = .tuple #[.agg (AF y),.int .i64 0]))/\(∀ w,CallsR Try.prog 14 #[.agg (AD P N T f)] w (fun u _=>u = .tuple #[.agg (AF uu),.int .i64 0]))/\(∀ w,CallsR Try.prog 10 #[.agg (AD P N T f),.agg (AF uu),.agg (AF v)] w (fun u _=>u = .tuple #[.agg (AF v),.int .i64 0]))/\(∀ w,CallsR Try.prog 10 #[.agg (AD P N T f),.agg (AF v),.agg (AF uu)] w (fun u _=>u = .tuple #[.agg (AF v),.int .i64 0]))/\
  (∀ w,CallsR Try.prog 15 #[.agg (AD P N T f),.agg (AF v),.int .i64 3] w (fun u _=>u = .tuple #[.agg (AF z),.int .i64 0]))/\(∀ w,CallsR Try.prog 15 #[.agg (AD P N T f),.agg (AF v),.int .i64 2] w (fun u _=>u = .tuple #[.agg (AF s),.int .i64 0]))/\(∀ w,CallsR Try.prog 10 #[.agg (AD P N T f),.agg (AF v),.agg (AF s)] w (fun u _=>u = .tuple #[.agg (AF z),.int .i64 0]))
def Qm (P N:Int) (T:Nat->Nat->Nat->Nat) (f:Nat->Nat) (v r:Nat->Nat) (e:Int):Prop:=e=0->∃ uu:Nat->Nat,(∀ w,CallsR Try.prog 14 #[.agg (AD P N T f)] w (fun u _=>u = .tuple #[.agg (AF uu),.int .i64 0]))/\(∀ w,CallsR Try.prog 10 #[.agg (AD P N T f),.agg (AF v),.agg (AF r)] w (fun u _=>u = .tuple #[.agg (AF uu),.int .i64 0]))/\(∀ w,CallsR Try.prog 10 #[.agg (AD P N T f),.agg (AF r),.agg (AF v)] w (fun u _=>u = .tuple #[.agg (AF uu),.int .i64 0]))
end Go.Proofs.Ytkcneleabbjkaaa
