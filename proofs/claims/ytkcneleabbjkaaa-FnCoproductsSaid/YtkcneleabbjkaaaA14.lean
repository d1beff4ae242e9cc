import Derived.Test.YtkcneleabbjkaaaA12
set_option linter.unusedVariables false
set_option linter.unusedSimpArgs false
namespace Go.Proofs.Ytkcneleabbjkaaa
open Go Go.RowKit Go.Sw Go.Ech
open Classical
section
variable {P : Program} {fn : Func} {a : Act} {w : World}
end
def Qy {G:Type} (l:List (G->Value->Prop)):Facts G:=fun j g v _=>(l.getD j (fun _ _=>True)) g v
theorem K8 {x y:Nat->Nat}(h:Ic 6 x y):AE x=AE y:=A5 fun i hi=>by rw [h i hi]
structure Good (P N:Int) (T:Nat->Nat->Nat->Nat) (f:Nat->Nat) (p n:Nat) (U:Nat->Nat->Nat->Nat) (uu:Nat->Nat):Prop where
  eP:(p:Int)=P
  eN:(n:Int)=N
  cells:AD P N T f=AD (p:Int) (n:Int) U f
  hp:primeN p
  hn0:0<n
  hn:n<=6
  lt:∀ i j k,U i j k<p
  out:∀ i j k,n<=k->U i j k=0
  ass:Ol p n U
  unit:UnitI p n U uu
  alg:JS (p:Int) (n:Int) U f
theorem LM {P N:Int}{T:Nat->Nat->Nat->Nat}{f:Nat->Nat}(h:JS P N T f):∃ p n U uu,Good P N T f p n U uu:=by
  have hs:=h.1;have hH:=C8 hs.1;have hn:=hs.2.1;have e1:(P.toNat:Int)=P:=by omega
  have e2:(N.toNat:Int)=N:=by omega
  obtain ⟨ha,uu,hu⟩:=h.2;refine ⟨P.toNat,N.toNat,trunc N.toNat T,uu,e1,e2,?_,Gk hs.1,by omega,by omega,Hb hs,Gg,ha,hu,?_⟩
  . rw [e1,e2];exact Fy hs
  . rw [e1,e2];exact ⟨Ep hs,by rw [KL];exact h.2⟩
def OV (p n:Nat) (x:Nat->Nat):Prop:=okV (p:Int) (n:Int) x/\∀ i,x i<=255
theorem OV.lt {p n:Nat}{x:Nat->Nat}(h:OV p n x){c:Nat}(hc:c<6):x c<p:=by
  have:=h.1 c hc;unfold HB at this;omega
theorem OV.out {p n:Nat}{x:Nat->Nat}(h:OV p n x){c:Nat}(hc:c<6)(hn:n<=c):x c=0:=by
  have:=h.1 c hc;unfold HB at this;omega
theorem OV.mk {p n:Nat}{x:Nat->Nat}(hp:primeN p)(h1:∀ c,x c<p)(h2:∀ c,n<=c->x c=0):OV p n x:=
  ⟨fun c _=>by have:=h1 c;have:=h2 c;unfold HB;omega,fun c=>by have:=h1 c;have:=hp.le;omega⟩
theorem Mk {p n:Nat}{U:Nat->Nat->Nat->Nat}(hp:primeN p)(x y:Nat->Nat):OV p n (timesS p n U x y):=by
  have h2:=hp.two;refine OV.mk hp (fun c=>?_) (fun c hc=>?_)
  . unfold timesS timesV;split
    . exact Nat.mod_lt _ (by omega)
    . omega
  . unfold timesS;rw [if_neg (by omega)]
theorem Nb {p n:Nat}{U:Nat->Nat->Nat->Nat}{uu:Nat->Nat}(hp:primeN p)(h:UnitI p n U uu):OV p n uu:=OV.mk hp h.small h.out
theorem Ml {p n:Nat}{x y:Nat->Nat}(hx:OV p n x)(hy:OV p n y)(h:EqP p n (ci x) (ci y)):AE x=AE y:=K8 fun c hc=>by
  by_cases hn:c<n
  . have h1:=hx.lt hc
    have h2:=hy.lt hc
    have h3:=h c hn
    unfold ci at h3
    have h4:=Int.emod_emod_of_dvd ((x c:Int) - (y c:Int)) (Int.dvd_refl (p:Int))
    have h5:=Int.emod_eq_zero_of_dvd h3
    have h6:=(Int.emod_eq_emod_iff_emod_sub_eq_zero).2 h5
    rw [Int.emod_eq_of_lt (by omega) (by omega),Int.emod_eq_of_lt (by omega) (by omega)] at h6
    omega
  . rw [hx.out hc (by omega),hy.out hc (by omega)]
theorem GP {p n:Nat}{U:Nat->Nat->Nat->Nat}(x y:Nat->Nat):EqP p n (ci (timesS p n U x y)) (Pr n U (ci x) (ci y)):=fun c hc=>by
  show (p:Int)∣(timesS p n U x y c:Int) - _
  unfold timesS;rw [if_pos hc];exact KN
section
variable {P N : Int} {T U : Nat -> Nat -> Nat -> Nat} {f uu : Nat -> Nat} {p n : Nat}
theorem Good.tEq (G:Good P N T f p n U uu)(x y:Nat->Nat):timesV p n U x y=timesS p n U x y:=Jb G.out x y
theorem Good.code (G:Good P N T f p n U uu){m:Nat}{V:Nat->Nat->Nat}(h:∀ i,i<m->okV (p:Int) (n:Int) (V i)):B1 (p:Int) (n:Int) U f m V:=⟨G.alg,h⟩
theorem MV {x y:Nat->Nat}(hx:OV p n x)(hy:OV p n y):∀ i,i<2->okV (p:Int) (n:Int) (Bb [x,y] i):=fun i hi=>by
  rcases (show i=0\/i=1 by omega) with rfl | rfl
  . exact hx.1
  . exact hy.1
theorem Gm {x:Nat->Nat}(hx:OV p n x):∀ i,i<1->okV (p:Int) (n:Int) (Bb [x] i):=fun i hi=>by
  rcases (show i=0 by omega) with rfl
  exact hx.1
theorem GC:∀ i,i<0->okV (p:Int) (n:Int) (Bb [] i):=fun i hi=>absurd hi (by omega)
theorem Good.mulI (G:Good P N T f p n U uu)(hf:∀ i,f i<=255){x y:Nat->Nat}(hx:OV p n x)(hy:OV p n y):(∀ w,CallsR Try.prog 10 #[.agg (AD P N T f),.agg (AE x),.agg (AE y)] w (fun u _=>u = .tuple #[.agg (AE (timesS p n U x y)),.int .i64 0])):=fun w=>by
  rw [G.cells,← G.tEq]
  exact GW p n U f x y w G.hp G.hn0 G.hn G.lt G.out hf hx.2 hy.2 (G.code (MV hx hy))
theorem Good.unI (G:Good P N T f p n U uu)(hf:∀ i,f i<=255):(∀ w,CallsR Try.prog 14 #[.agg (AD P N T f)] w (fun u _=>u = .tuple #[.agg (AE uu),.int .i64 0])):=fun w=>by
  rw [G.cells]
  exact NJ p n U f w G.hp G.hn0 G.hn G.lt G.out hf uu G.unit (G.code GC)
theorem Good.okv (G:Good P N T f p n U uu){x:Nat->Nat}(h:okV P N x)(hx:∀ i,x i<=255):OV p n x:=⟨by rw [G.eP,G.eN];exact h,hx⟩
end
theorem QX {x:Nat->Nat}{P N:Int}(h:∀ i,i<1->okV P N (Bb [x] i)):okV P N x:=h 0 (by omega)
def Qv (P N:Int) (T:Nat->Nat->Nat->Nat) (f:Nat->Nat) (v u r:Nat->Nat) (e:Int):Prop:=e=0->∃ x2 y uu z s:Nat->Nat,(∀ w,CallsR Try.prog 10 #[.agg (AD P N T f),.agg (AE r),.agg (AE v)] w (fun u _=>u = .tuple #[.agg (AE y),.int .i64 0]))/\(∀ w,CallsR Try.prog 10 #[.agg (AD P N T f),.agg (AE u),.agg (AE v)] w (fun u _=>u = .tuple #[.agg (AE x2),.int .i64 0]))/\(∀ w,CallsR Try.prog 10 #[.agg (AD P N T f),.agg (AE v),.agg (AE x2)] w (fun u _=>u = .tuple #[.agg (AE y),.int .i64 0]))/\(∀ w,CallsR Try.prog 14 #[.agg (AD P N T f)] w (fun u _=>u = .tuple #[.agg (AE uu),.int .i64 0]))/\(∀ w,CallsR Try.prog 10 #[.agg (AD P N T f),.agg (AE uu),.agg (AE v)] w (fun u _=>u = .tuple #[.agg (AE v),.int .i64 0]))/\(∀ w,CallsR Try.prog 10 #[.agg (AD P N T f),.agg (AE v),.agg (AE uu)] w (fun u _=>u = .tuple #[.agg (AE v),.int .i64 0]))/\
  (∀ w,CallsR Try.prog 15 #[.agg (AD P N T f),.agg (AE v),.int .i64 3] w (fun u _=>u = .tuple #[.agg (AE z),.int .i64 0]))/\(∀ w,CallsR Try.prog 15 #[.agg (AD P N T f),.agg (AE v),.int .i64 2] w (fun u _=>u = .tuple #[.agg (AE s),.int .i64 0]))/\(∀ w,CallsR Try.prog 10 #[.agg (AD P N T f),.agg (AE v),.agg (AE s)] w (fun u _=>u = .tuple #[.agg (AE z),.int .i64 0]))
def Qw (P N:Int) (T:Nat->Nat->Nat->Nat) (f:Nat->Nat) (v r:Nat->Nat) (e:Int):Prop:=e=0->∃ uu:Nat->Nat,(∀ w,CallsR Try.prog 14 #[.agg (AD P N T f)] w (fun u _=>u = .tuple #[.agg (AE uu),.int .i64 0]))/\(∀ w,CallsR Try.prog 10 #[.agg (AD P N T f),.agg (AE v),.agg (AE r)] w (fun u _=>u = .tuple #[.agg (AE uu),.int .i64 0]))/\(∀ w,CallsR Try.prog 10 #[.agg (AD P N T f),.agg (AE r),.agg (AE v)] w (fun u _=>u = .tuple #[.agg (AE uu),.int .i64 0]))
end Go.Proofs.Ytkcneleabbjkaaa
