import Derived.Test.YtkcneleabbjkaaaA13
import Derived.Test.YtkcneleabbjkaaaN2
import Derived.Test.YtkcneleabbjkaaaEch12
set_option linter.unusedVariables false
set_option linter.unusedSimpArgs false
namespace Go.Proofs.Ytkcneleabbjkaaa
open Go Go.RowKit Go.Sw Go.Ech
open Classical
theorem Lr {x y:Nat→Nat}(h:FR 6 x y):AI x=AI y:=BV fun i hi=>by rw [h i hi]
structure Good (P N:Int) (T:Nat→Nat→Nat→Nat) (f:Nat→Nat) (p n:Nat) (U:Nat→Nat→Nat→Nat) (uu:Nat→Nat):Prop where
  eP:(p:Int)=P
  eN:(n:Int)=N
  cells:AJ P N T f=AJ (p:Int) (n:Int) U f
  hp:primeN p
  hn0:0<n
  hn:n≤6
  lt:∀ i j k,U i j k<p
  out:∀ i j k,n≤k→U i j k=0
  ass:Lq p n U
  unit:UnitI p n U uu
  alg:Gq (p:Int) (n:Int) U f
theorem E2 {P N:Int}{T:Nat→Nat→Nat→Nat}{f:Nat→Nat}(h:Gq P N T f):∃ p n U uu,Good P N T f p n U uu:=by
  have hs:=h.1;have hp0:=Cs hs.1;have hn:=hs.2.1;have e1:(P.toNat:Int)=P:=by omega
  have e2:(N.toNat:Int)=N:=by omega
  obtain ⟨ha,uu,hu⟩:=h.2;refine ⟨P.toNat,N.toNat,trunc N.toNat T,uu,e1,e2,?_,GB hs.1,by omega,by omega,G0 hs,F6,ha,hu,?_⟩
  · rw [e1,e2];exact FP hs
  · rw [e1,e2];exact ⟨Ed hs,by rw [JX];exact h.2⟩
def OV (p n:Nat) (x:Nat→Nat):Prop:=okV (p:Int) (n:Int) x∧∀ i,x i≤255
theorem OV.lt {p n:Nat}{x:Nat→Nat}(h:OV p n x){c:Nat}(hc:c<6):x c<p:=by
  have:=h.1 c hc;unfold Fw at this;omega
theorem OV.out {p n:Nat}{x:Nat→Nat}(h:OV p n x){c:Nat}(hc:c<6)(hn:n≤c):x c=0:=by
  have:=h.1 c hc;unfold Fw at this;omega
theorem OV.mk {p n:Nat}{x:Nat→Nat}(hp:primeN p)(h1:∀ c,x c<p)(h2:∀ c,n≤c→x c=0):OV p n x:=
  ⟨fun c _=>by have:=h1 c;have:=h2 c;unfold Fw;omega,fun c=>by have:=h1 c;have:=hp.le;omega⟩
theorem Cn {p n:Nat}{U:Nat→Nat→Nat→Nat}(hp:primeN p)(x y:Nat→Nat):OV p n (timesS p n U x y):=by
  have h2:=hp.two;refine OV.mk hp (fun c=>?_) (fun c hc=>?_)
  · unfold timesS timesV;split
    · exact Nat.mod_lt _ (by omega)
    · omega
  · unfold timesS;rw [if_neg (by omega)]
theorem IS {p n:Nat}{U:Nat→Nat→Nat→Nat}{uu:Nat→Nat}(hp:primeN p)(h:UnitI p n U uu):OV p n uu:=OV.mk hp h.small h.out
theorem LG {p n:Nat}{U:Nat→Nat→Nat→Nat}{uu:Nat→Nat}(hp:primeN p)(h:UnitI p n U uu)(v:Nat→Nat):∀ k,OV p n (C9 (timesS p n U) uu v k)
  | 0=>IS hp h
  | _+1=>Cn hp _ _
theorem Hx {p n:Nat}{x y:Nat→Nat}(hx:OV p n x)(hy:OV p n y)(h:EqP p n (ci x) (ci y)):AI x=AI y:=Lr fun c hc=>by
  by_cases hn:c<n
  · have h1:=hx.lt hc
    have h2:=hy.lt hc
    have h3:=h c hn
    unfold ci at h3
    have h4:=Int.emod_emod_of_dvd ((x c:Int) - (y c:Int)) (Int.dvd_refl (p:Int))
    have h5:=Int.emod_eq_zero_of_dvd h3
    have h6:=(Int.emod_eq_emod_iff_emod_sub_eq_zero).2 h5
    rw [Int.emod_eq_of_lt (by omega) (by omega),Int.emod_eq_of_lt (by omega) (by omega)] at h6
    omega
  · rw [hx.out hc (by omega),hy.out hc (by omega)]
theorem Ca {p n:Nat}{U:Nat→Nat→Nat→Nat}(x y:Nat→Nat):EqP p n (ci (timesS p n U x y)) (Pr n U (ci x) (ci y)):=fun c hc=>by
  show (p:Int)∣(timesS p n U x y c:Int) - _
  unfold timesS;rw [if_pos hc];exact JY
section
variable {P N : Int} {T U : Nat → Nat → Nat → Nat} {f uu : Nat → Nat} {p n : Nat}
theorem Good.ass3 (G:Good P N T f p n U uu)(x y z:Nat→Nat):AI (timesS p n U (timesS p n U x y) z)=AI (timesS p n U x (timesS p n U y z)):=
  Hx (Cn G.hp _ _) (Cn G.hp _ _) (((Ca _ _).trans ((Ca x y).mul (EqP.refl _))).trans (EqP.trans (fun _ hd=>HN (ET G.hn G.ass) _ _ _ hd) (((EqP.refl _).mul (Ca y z).symm).trans (Ca _ _).symm)))
theorem Good.unitL (G:Good P N T f p n U uu){x:Nat→Nat}(hx:OV p n x):AI (timesS p n U uu x)=AI x:=
  Hx (Cn G.hp _ _) hx ((Ca _ _).trans (fun _ hd=>Da G.unit _ hd))
theorem Good.unitR (G:Good P N T f p n U uu){x:Nat→Nat}(hx:OV p n x):AI (timesS p n U x uu)=AI x:=
  Hx (Cn G.hp _ _) hx ((Ca _ _).trans (fun _ hd=>FD G.unit _ hd))
theorem Good.tEq (G:Good P N T f p n U uu)(x y:Nat→Nat):timesV p n U x y=timesS p n U x y:=Iz G.out x y
theorem Good.code (G:Good P N T f p n U uu){m:Nat}{V:Nat→Nat→Nat}(h:∀ i,i<m→okV (p:Int) (n:Int) (V i)):Bt (p:Int) (n:Int) U f m V:=⟨G.alg,h⟩
theorem F5 {x y:Nat→Nat}(hx:OV p n x)(hy:OV p n y):∀ i,i<2→okV (p:Int) (n:Int) (Ay [x,y] i):=fun i hi=>by
  rcases (show i=0∨i=1 by omega) with rfl | rfl
  · exact hx.1
  · exact hy.1
theorem Dy {x:Nat→Nat}(hx:OV p n x):∀ i,i<1→okV (p:Int) (n:Int) (Ay [x] i):=fun i hi=>by
  rcases (show i=0 by omega) with rfl
  exact hx.1
theorem J5:∀ i,i<0→okV (p:Int) (n:Int) (Ay [] i):=fun i hi=>absurd hi (by omega)
theorem Good.mulI (G:Good P N T f p n U uu)(hf:∀ i,f i≤255){x y:Nat→Nat}(hx:OV p n x)(hy:OV p n y):(∀ w,CallsR Try.prog 10 #[.agg (AJ P N T f),.agg (AI x),.agg (AI y)] w (fun u _=>u = .tuple #[.agg (AI (timesS p n U x y)),.int .i64 0])):=fun w=>by
  rw [G.cells,← G.tEq]
  exact Fs p n U f x y w G.hp G.hn0 G.hn G.lt G.out hf hx.2 hy.2 (G.code (F5 hx hy))
theorem Good.mulS (G:Good P N T f p n U uu)(hf:∀ i,f i≤255){x y:Nat→Nat}(hx:OV p n x)(hy:OV p n y):(∀ w,CallsR Try.prog 11 #[.agg (AJ P N T f),.agg (AI x),.agg (AI y)] w (fun u _=>u = .tuple #[.agg (AI (timesS p n U x y)),.int .i64 0])):=fun w=>by
  rw [G.cells]
  exact Fp p n U f x y w G.hp G.hn0 G.hn G.lt G.out hf hx.2 hy.2 (G.code (F5 hx hy))
theorem Good.unI (G:Good P N T f p n U uu)(hf:∀ i,f i≤255):(∀ w,CallsR Try.prog 14 #[.agg (AJ P N T f)] w (fun u _=>u = .tuple #[.agg (AI uu),.int .i64 0])):=fun w=>by
  rw [G.cells]
  exact Li p n U f w G.hp G.hn0 G.hn G.lt G.out hf uu G.unit (G.code J5)
theorem Good.unS (G:Good P N T f p n U uu)(hf:∀ i,f i≤255):(∀ w,CallsR Try.prog 25 #[.agg (AJ P N T f)] w (fun u _=>u = .tuple #[.agg (AI uu),.int .i64 0])):=fun w=>by
  rw [G.cells]
  exact Lg p n U f w G.hp G.hn0 G.hn G.lt G.out hf uu G.unit (G.code J5)
theorem Good.pwI (G:Good P N T f p n U uu)(hf:∀ i,f i≤255){x:Nat→Nat}(hx:OV p n x){k:Nat}(hk:k≤1000):(∀ w,CallsR Try.prog 15 #[.agg (AJ P N T f),.agg (AI x),.int .i64 (k:Int)] w (fun u _=>u = .tuple #[.agg (AI (C9 (timesS p n U) uu x k)),.int .i64 0])):=fun w=>by
  rw [G.cells,← show timesV p n U=timesS p n U from funext fun a=>funext fun b=>G.tEq a b]
  exact Hf p n U f x k w G.hp G.hn0 G.hn G.lt G.out hf hx.2 hk uu G.unit (G.code (Dy hx))
theorem Good.pwS (G:Good P N T f p n U uu)(hf:∀ i,f i≤255){x:Nat→Nat}(hx:OV p n x){k:Nat}(hk:k≤1000):(∀ w,CallsR Try.prog 20 #[.agg (AJ P N T f),.agg (AI x),.int .i64 (k:Int)] w (fun u _=>u = .tuple #[.agg (AI (C9 (timesS p n U) uu x k)),.int .i64 0])):=fun w=>by
  rw [G.cells]
  exact Hc p n U f x k w G.hp G.hn0 G.hn G.lt G.out hf hx.2 hk uu G.unit (G.code (Dy hx))
theorem Good.okv (G:Good P N T f p n U uu){x:Nat→Nat}(h:okV P N x)(hx:∀ i,x i≤255):OV p n x:=⟨by rw [G.eP,G.eN];exact h,hx⟩
end
theorem at2 {x y:Nat→Nat}{P N:Int}(h:∀ i,i<2→okV P N (Ay [x,y] i)):okV P N x∧okV P N y:=⟨h 0 (by omega),h 1 (by omega)⟩
theorem Nt {x:Nat→Nat}{P N:Int}(h:∀ i,i<1→okV P N (Ay [x] i)):okV P N x:=h 0 (by omega)
def Ox (P N:Int) (T:Nat→Nat→Nat→Nat) (f:Nat→Nat) (v u r:Nat→Nat) (e:Int):Prop:=e=0→∃ x2 y uu z s:Nat→Nat,(∀ w,CallsR Try.prog 10 #[.agg (AJ P N T f),.agg (AI r),.agg (AI v)] w (fun u _=>u = .tuple #[.agg (AI y),.int .i64 0]))∧(∀ w,CallsR Try.prog 10 #[.agg (AJ P N T f),.agg (AI u),.agg (AI v)] w (fun u _=>u = .tuple #[.agg (AI x2),.int .i64 0]))∧(∀ w,CallsR Try.prog 10 #[.agg (AJ P N T f),.agg (AI v),.agg (AI x2)] w (fun u _=>u = .tuple #[.agg (AI y),.int .i64 0]))∧(∀ w,CallsR Try.prog 14 #[.agg (AJ P N T f)] w (fun u _=>u = .tuple #[.agg (AI uu),.int .i64 0]))∧(∀ w,CallsR Try.prog 10 #[.agg (AJ P N T f),.agg (AI uu),.agg (AI v)] w (fun u _=>u = .tuple #[.agg (AI v),.int .i64 0]))∧(∀ w,CallsR Try.prog 10 #[.agg (AJ P N T f),.agg (AI v),.agg (AI uu)] w (fun u _=>u = .tuple #[.agg (AI v),.int .i64 0]))∧
  (∀ w,CallsR Try.prog 15 #[.agg (AJ P N T f),.agg (AI v),.int .i64 3] w (fun u _=>u = .tuple #[.agg (AI z),.int .i64 0]))∧(∀ w,CallsR Try.prog 15 #[.agg (AJ P N T f),.agg (AI v),.int .i64 2] w (fun u _=>u = .tuple #[.agg (AI s),.int .i64 0]))∧(∀ w,CallsR Try.prog 10 #[.agg (AJ P N T f),.agg (AI v),.agg (AI s)] w (fun u _=>u = .tuple #[.agg (AI z),.int .i64 0]))
theorem L9 (P N:Int)(T:Nat→Nat→Nat→Nat)(f:Nat→Nat)(v u:Nat→Nat)(hT:∀ i j k,T i j k≤255)(hf:∀ i,f i≤255)(hv:∀ i,v i≤255)(hu:∀ i,u i≤255):∃ (r:Nat→Nat) (e:Int) (b:Bool),(∀ w,CallsR Try.prog 10 #[.agg (AJ P N T f),.agg (AI v),.agg (AI u)] w (fun u _=>u = .tuple #[.agg (AI r),.int .i64 e]))∧(∀ w,CallsR Try.prog 11 #[.agg (AJ P N T f),.agg (AI v),.agg (AI u)] w (fun u _=>u = .tuple #[.agg (AI r),.int .i64 e]))∧(∀ w,CallsR Try.prog 12 #[.agg (AJ P N T f)] w (fun u _=>u = .bool b))∧(∀ w,CallsR Try.prog 13 #[.agg (AJ P N T f)] w (fun u _=>u = .bool b))∧Ox P N T f v u r e:=by
  by_cases hc:Bt P N T f 2 (Ay [v,u])
  · obtain ⟨p,n,U,uu,G⟩:=E2 hc.1
    obtain ⟨h1,h2⟩:=at2 hc.2;have ov:=G.okv h1 hv;have ou:=G.okv h2 hu;have oun:=IS G.hp G.unit;refine ⟨timesS p n U v u,0,decide (Gq P N T f),G.mulI hf ov ou,G.mulS hf ov ou,fun w=>Co P N T f w hT hf,fun w=>FE P N T f w hT hf,fun _=>⟨timesS p n U u v,timesS p n U (timesS p n U v u) v,uu,C9 (timesS p n U) uu v 3,C9 (timesS p n U) uu v 2,?_,?_,?_,?_,?_,?_,?_,?_,?_⟩⟩
    · exact G.mulI hf (Cn G.hp _ _) ov
    · exact G.mulI hf ou ov
    · rw [G.ass3 v u v];exact G.mulI hf ov (Cn G.hp _ _)
    · exact G.unI hf
    · rw [← G.unitL ov];have:=G.mulI hf oun ov;rw [G.unitL ov] at this ⊢;exact this
    · have:=G.mulI hf ov oun;rw [G.unitR ov] at this;exact this
    · exact G.pwI hf ov (k:=3) (by omega)
    · exact G.pwI hf ov (k:=2) (by omega)
    · have e:AI (C9 (timesS p n U) uu v 3)=AI (timesS p n U v (C9 (timesS p n U) uu v 2)):=by
        have e1:EqP p n (ci (C9 (timesS p n U) uu v 1)) (ci v):=(Ca _ _).trans (fun _ hd=>Da G.unit _ hd);have e2:EqP p n (ci (C9 (timesS p n U) uu v 2)) (Pr n U (ci v) (ci v)):=(Ca _ _).trans (e1.mul (EqP.refl _));refine Hx (LG G.hp G.unit v 3) (Cn G.hp _ _) (((Ca _ _).trans (e2.mul (EqP.refl _))).trans (EqP.trans (fun _ hd=>HN (ET G.hn G.ass) _ _ _ hd) ?_));exact EqP.symm ((Ca _ _).trans ((EqP.refl _).mul e2))
      rw [e];exact G.mulI hf ov (LG G.hp G.unit v 2)
  · exact ⟨fun _=>0,1,decide (Gq P N T f),fun w=>Ft P N T f v u w hT hf hv hu hc,fun w=>Fq P N T f v u w hT hf hv hu hc,fun w=>Co P N T f w hT hf,fun w=>FE P N T f w hT hf,fun e=>absurd e (by decide)⟩
def Oy (P N:Int) (T:Nat→Nat→Nat→Nat) (f:Nat→Nat) (v r:Nat→Nat) (e:Int):Prop:=e=0→∃ uu:Nat→Nat,(∀ w,CallsR Try.prog 14 #[.agg (AJ P N T f)] w (fun u _=>u = .tuple #[.agg (AI uu),.int .i64 0]))∧(∀ w,CallsR Try.prog 10 #[.agg (AJ P N T f),.agg (AI v),.agg (AI r)] w (fun u _=>u = .tuple #[.agg (AI uu),.int .i64 0]))∧(∀ w,CallsR Try.prog 10 #[.agg (AJ P N T f),.agg (AI r),.agg (AI v)] w (fun u _=>u = .tuple #[.agg (AI uu),.int .i64 0]))
theorem ME (P N:Int)(T:Nat→Nat→Nat→Nat)(f:Nat→Nat)(v:Nat→Nat)(hT:∀ i j k,T i j k≤255)(hf:∀ i,f i≤255)(hv:∀ i,v i≤255):∃ (r:Nat→Nat) (e:Int),(∀ w,CallsR Try.prog 17 #[.agg (AJ P N T f),.agg (AI v)] w (fun u _=>u = .tuple #[.agg (AI r),.int .i64 e]))∧(∀ w,CallsR Try.prog 18 #[.agg (AJ P N T f),.agg (AI v)] w (fun u _=>u = .tuple #[.agg (AI r),.int .i64 e]))∧Oy P N T f v r e:=by
  by_cases hc:Bt P N T f 1 (Ay [v])
  · obtain ⟨p,n,U,uu,G⟩:=E2 hc.1
    have ov:=G.okv (Nt hc.2) hv
    by_cases hi:∃ iv,InvI p n U uu v iv
    · obtain ⟨iv,hiv⟩:=hi
      have oi:OV p n iv:=OV.mk G.hp hiv.small hiv.out;have ou:=IS G.hp G.unit;refine ⟨iv,0,fun w=>?_,fun w=>?_,fun _=>⟨uu,G.unI hf,?_,?_⟩⟩
      · rw [G.cells];exact Gm p n U f v w G.hp G.hn0 G.hn G.lt G.out hf hv uu G.unit G.ass iv hiv (G.code (Dy ov))
      · rw [G.cells];exact Gj p n U f v w G.hp G.hn0 G.hn G.lt G.out hf hv uu G.unit G.ass iv hiv (G.code (Dy ov))
      · rw [← Hx (Cn G.hp v iv) ou ((Ca _ _).trans (fun c hc=>hiv.left c hc))];exact G.mulI hf ov oi
      · rw [← Hx (Cn G.hp iv v) ou ((Ca _ _).trans (fun c hc=>hiv.right c hc))];exact G.mulI hf oi ov
    · have hno:∀ q,¬ InvI p n U uu v q:=fun q hq=>hi ⟨q,hq⟩
      refine ⟨fun _=>0,4,fun w=>?_,fun w=>?_,fun e=>absurd e (by decide)⟩
      · rw [G.cells];exact Gn p n U f v w G.hp G.hn0 G.hn G.lt G.out hf hv uu G.unit G.ass hno (G.code (Dy ov))
      · rw [G.cells];exact Gk p n U f v w G.hp G.hn0 G.hn G.lt G.out hf hv uu G.unit G.ass hno (G.code (Dy ov))
  · exact ⟨fun _=>0,1,fun w=>Gp P N T f v w hT hf hv hc,fun w=>Gl P N T f v w hT hf hv hc,fun e=>absurd e (by decide)⟩
theorem Ly (P N:Int)(T:Nat→Nat→Nat→Nat)(f:Nat→Nat)(v:Nat→Nat)(k:Int)(hT:∀ i j k,T i j k≤255)(hf:∀ i,f i≤255)(hv:∀ i,v i≤255):∃ (r:Nat→Nat) (e:Int),(∀ w,CallsR Try.prog 15 #[.agg (AJ P N T f),.agg (AI v),.int .i64 k] w (fun u _=>u = .tuple #[.agg (AI r),.int .i64 e]))∧(∀ w,CallsR Try.prog 20 #[.agg (AJ P N T f),.agg (AI v),.int .i64 k] w (fun u _=>u = .tuple #[.agg (AI r),.int .i64 e])):=by
  by_cases hc:Bt P N T f 1 (Ay [v])
  · obtain ⟨p,n,U,uu,G⟩:=E2 hc.1
    have ov:=G.okv (Nt hc.2) hv
    by_cases hk:0≤k∧k≤1000
    · have e:=G.pwI hf ov (k:=k.toNat) (by omega)
      have e2:=G.pwS hf ov (k:=k.toNat) (by omega);rw [show (k.toNat:Int)=k by omega] at e e2;exact ⟨_,_,e,e2⟩
    · refine ⟨fun _=>0,2,fun w=>?_,fun w=>?_⟩
      · rw [G.cells];exact He p n U f v k w G.hp G.hn0 G.hn G.lt G.out hf hv hk (G.code (Dy ov))
      · rw [G.cells];exact Hb p n U f v k w G.hp G.hn0 G.hn G.lt G.out hf hv hk (G.code (Dy ov))
  · exact ⟨fun _=>0,1,fun w=>Hg P N T f v k w hT hf hv hc,fun w=>Hd P N T f v k w hT hf hv hc⟩
theorem MU (P N:Int)(T:Nat→Nat→Nat→Nat)(f:Nat→Nat)(v u:Nat→Nat)(k:Int)(hT:∀ i j k,T i j k≤255)(hf:∀ i,f i≤255)(hv:∀ i,v i≤255)(hu:∀ i,u i≤255):∃ (r:Nat→Nat) (e:Int),(∀ w,CallsR Try.prog 22 #[.agg (AJ P N T f),.agg (AI v),.agg (AI u),.int .i64 k] w (fun u _=>u = .tuple #[.agg (AI r),.int .i64 e]))∧(∀ w,CallsR Try.prog 23 #[.agg (AJ P N T f),.agg (AI v),.agg (AI u),.int .i64 k] w (fun u _=>u = .tuple #[.agg (AI r),.int .i64 e])):=by
  by_cases hc:Bt P N T f 2 (Ay [v,u])
  · obtain ⟨p,n,U,uu,G⟩:=E2 hc.1
    obtain ⟨h1,h2⟩:=at2 hc.2;have ov:=G.okv h1 hv;have ou:=G.okv h2 hu
    by_cases hk:0≤k∧k<(p:Int)
    · have e:=fun w=>Io p n U f v u k.toNat w G.hp G.hn0 G.hn G.lt G.out hf hv hu (by omega) (G.code (F5 ov ou))
      have e2:=fun w=>Il p n U f v u k.toNat w G.hp G.hn0 G.hn G.lt G.out hf hv hu (by omega) (G.code (F5 ov ou));rw [show addN p v u (k.toNat:Int)=CX p v u k.toNat from funext fun i=>Kw] at e;rw [show (k.toNat:Int)=k by omega] at e e2;rw [G.cells];exact ⟨_,_,e,e2⟩
    · refine ⟨fun _=>0,2,fun w=>?_,fun w=>?_⟩
      · rw [G.cells];exact In p n U f v u k w G.hp G.hn0 G.hn G.lt G.out hf hv hu hk (G.code (F5 ov ou))
      · rw [G.cells];exact Ik p n U f v u k w G.hp G.hn0 G.hn G.lt G.out hf hv hu hk (G.code (F5 ov ou))
  · exact ⟨fun _=>0,1,fun w=>Ip P N T f v u k w hT hf hv hu hc,fun w=>Im P N T f v u k w hT hf hv hu hc⟩
theorem Ls (P N:Int)(T:Nat→Nat→Nat→Nat)(f:Nat→Nat)(hT:∀ i j k,T i j k≤255)(hf:∀ i,f i≤255):∃ (r:Nat→Nat) (e:Int),(∀ w,CallsR Try.prog 14 #[.agg (AJ P N T f)] w (fun u _=>u = .tuple #[.agg (AI r),.int .i64 e]))∧(∀ w,CallsR Try.prog 25 #[.agg (AJ P N T f)] w (fun u _=>u = .tuple #[.agg (AI r),.int .i64 e])):=by
  by_cases hc:Bt P N T f 0 (Ay [])
  · obtain ⟨p,n,U,uu,G⟩:=E2 hc.1
    exact ⟨uu,0,G.unI hf,G.unS hf⟩
  · exact ⟨fun _=>0,1,fun w=>Lj P N T f w hT hf hc,fun w=>Lh P N T f w hT hf hc⟩
theorem ML (P N:Int)(T:Nat→Nat→Nat→Nat)(f:Nat→Nat)(v:Nat→Nat)(hT:∀ i j k,T i j k≤255)(hf:∀ i,f i≤255)(hv:∀ i,v i≤255):∃ (r e:Int),(∀ w,CallsR Try.prog 27 #[.agg (AJ P N T f),.agg (AI v)] w (fun u _=>u = .tuple #[.int .i64 r,.int .i64 e]))∧(∀ w,CallsR Try.prog 28 #[.agg (AJ P N T f),.agg (AI v)] w (fun u _=>u = .tuple #[.int .i64 r,.int .i64 e])):=by
  by_cases hc:Bt P N T f 1 (Ay [v])
  · obtain ⟨p,n,U,uu,G⟩:=E2 hc.1
    have ov:=G.okv (Nt hc.2) hv;refine ⟨((sumTo (fun i=>f i*v i) 6%p:Nat):Int),0,fun w=>?_,fun w=>?_⟩
    · have:=Lm p n U f v w G.hp G.hn0 G.hn G.lt G.out hf hv (G.code (Dy ov))
      rw [G.cells];rw [show (fun i=>f i*v i)=(fun i=>v i*f i) from funext fun i=>Nat.mul_comm _ _];exact this
    · rw [G.cells];exact Lk p n U f v w G.hp G.hn0 G.hn G.lt G.out hf hv (G.code (Dy ov))
  · exact ⟨0,1,fun w=>Lo P N T f v w hT hf hv hc,fun w=>Ll P N T f v w hT hf hv hc⟩
end Go.Proofs.Ytkcneleabbjkaaa
