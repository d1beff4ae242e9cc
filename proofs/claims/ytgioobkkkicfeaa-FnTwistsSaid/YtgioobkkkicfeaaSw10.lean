import Derived.Test.YtgioobkkkicfeaaEch23
import Derived.JoinedOf
import Derived.KernelRfl
set_option linter.unusedVariables false
set_option linter.unusedSimpArgs false
namespace Go.Ech
open Go.Sw
def Sz (p:Nat) (x:Nat->Nat):Nat->Nat
  | 0=>0
  | k+1=>Sz p x k+x k*p ^ k
def Rs (p:Nat):Nat->Nat
  | 0=>0
  | t+1=>Rs p t+p ^ t
section
variable {p n : Nat} {T : Nat -> Nat -> Nat -> Nat} {u : Nat -> Int}
variable (ha : FV p n T) (hk : Iv n T) (hu : ∀ y, EqP p n (Pr n T y u) y)
include ha hu in
def SX (p n:Nat) (T:Nat->Nat->Nat->Nat) (u e:Nat->Int):Prop:=EqP p n (Pr n T e e) e/\∀ v,EqP p n (vP n T u v p) v->∃ a:Nat,a<p/\EqP p n (Pr n T e v) (fun c=>(a:Int)*e c)
end
def TR (i c:Nat):Nat:=if c=i then 1 else 0
section
variable {p n : Nat} {T : Nat -> Nat -> Nat -> Nat} {u : Nat -> Int}
variable (ha : FV p n T) (hk : Iv n T) (hu : ∀ y, EqP p n (Pr n T y u) y)
include ha hu in
theorem Qt {M V:Nat->Nat->Nat}{m r:Nat}(hp:2<=p)(h:IsKer p n M m r V){b:Nat->Int}(hb:Ker p n M m b):DS p n V r b:=by
  obtain ⟨k,E,ld,ld2,h1,h2,h3,h4⟩:=h;have hE:=(h2 b).2 hb;intro x hx;have hx2:=(h4 x).1 hx
  have hs:EqP p n b (fun d=>sI (fun c=>(if Bx k ld c then 0 else b c)*(sol p E k ld c d:Int)) n):=fun d hd=>by
    by_cases e:Bx k ld d
    . obtain ⟨j,hj,rfl⟩:=e
      have hrow:=hE j hj;have e1:∀ c,c<n->(p:Int)∣(if Bx k ld c then 0 else b c)*(sol p E k ld c (ld j):Int) - (if c=ld j then b c else 0)+(E j c:Int)*b c:=fun c hc=>by
        by_cases f:Bx k ld c
        . obtain ⟨i,hi,rfl⟩:=f
          rw [if_pos ⟨i,hi,rfl⟩,Int.zero_mul]
          by_cases g:i=j
          . subst g;rw [if_pos rfl,h1.one i hi];exact ⟨0,by simp;omega⟩
          . rw [if_neg (fun z=>g (h1.inj hi hj z)),h1.zero i j hi hj g];exact ⟨0,by simp⟩
        . have hH:c≠ld j:=fun z=>f ⟨j,hj,z.symm⟩
          rw [if_neg f,if_neg hH,Int.sub_zero];have es:sol p E k ld c (ld j)=(p - E j c)%p:=by
            unfold sol
            rw [if_neg (Ne.symm hH),h1.ldAt_eq hj]
          rw [es];have hEl:=h1.small j hj c hc;have h5:=CD (p:Int) ((p - E j c:Nat):Int);rw [← Int.natCast_emod,Int.natCast_sub (by omega)] at h5;have h6:=Int.dvd_mul_of_dvd_right (b:=b c) h5;have h7:=Int.dvd_add h6 (Int.dvd_mul_right (p:Int) (b c))
          rwa [Int.mul_sub,Int.mul_sub,Int.mul_comm (b c) (p:Int),Int.mul_comm (b c) (E j c:Int),show ∀ A B C:Int,A - (B - C)+B=A+C from fun A B C=>by omega] at h7
      have e2:=Cu e1;rw [Dr,← D8,Bl hd (fun i _ hi=>if_neg hi),if_pos rfl] at e2;have e3:dot n (ci (E j)) b=sI (fun c=>(E j c:Int)*b c) n:=rfl;rw [e3] at hrow;have:=Int.dvd_sub hrow e2
      rwa [show ∀ A B C:Int,A - (C - B+A)=B - C from fun A B C=>by omega] at this
    . show (p:Int)∣b d - sI (fun c=>(if Bx k ld c then 0 else b c)*(sol p E k ld c d:Int)) n
      rw [Bl hd (fun c hc hcd=>by
        by_cases f:Bx k ld c
        . rw [if_pos f,Int.zero_mul]
        . rw [if_neg f]
          have:sol p E k ld c d=0:=by
            unfold sol
            rw [if_neg (Ne.symm hcd)]
            cases q:Cw k ld d with
            | none=>rfl
            | some j=>have:=CG q;exact absurd ⟨j,this.1,this.2⟩ e
          rw [this];simp),if_neg e]
      have:sol p E k ld d d=1:=by unfold sol;rw [if_pos rfl]
      rw [this];exact ⟨0,by simp⟩
  refine (C1 (JR hs)).2 ?_;have e:=Mm (n:=n) (fun c d=>(sol p E k ld c d:Int)) (fun c=>if Bx k ld c then 0 else b c) x n;rw [e];refine Cu fun c hc=>?_
  by_cases f:Bx k ld c
  . rw [if_pos f,Int.zero_mul];exact ⟨0,by simp⟩
  . exact Int.dvd_mul_of_dvd_right (hx2 c hc f)
end
section
variable {p n : Nat} {T : Nat -> Nat -> Nat -> Nat} {u : Nat -> Int}
variable (ha : FV p n T) (hk : Iv n T) (hu : ∀ y, EqP p n (Pr n T y u) y)
theorem L6 {M V:Nat->Nat->Nat}{m r:Nat}(h:IsKer p n M m r V):∃ ld,Rref p n V r ld:=by
  obtain ⟨k,E,ld,ld2,h1,h2,h3,h4⟩:=h;exact ⟨ld2,h3⟩
structure NilS (p n:Nat) (T:Nat->Nat->Nat->Nat) (u:Nat->Int) (K:Nat) (M:Nat->Nat->Nat):Prop where
  pos:0<K
  big:n<=K
  lin:SD p n T u K
  map:∀ r,r<n->∀ c,c<n->(p:Int)∣(M r c:Int) - vP n T u (eb c) K r
def S4 (p n:Nat) (T:Nat->Nat->Nat->Nat) (R:Nat) (V:Nat->Nat->Nat) (m:Nat) (M:Nat->Nat->Nat):Prop:=∀ y,Ker p n M m y↔∀ j,j<R->EqP p n (Pr n T y (ci (V j))) (fun _=>0)
include ha hk hu in
include ha hk hu in
end
section
variable {p n : Nat} {T : Nat -> Nat -> Nat -> Nat} {e v u : Nat -> Int}
variable (ha : FV p n T) (hk : Iv n T)
include ha hk in
include hk in
end
theorem Ej {p:Nat}{a b:Int}(hp:primeN p)(ha:¬ (p:Int)∣a)(h:(p:Int)∣b*a):(p:Int)∣b:=by
  have hp2:=hp.two;have h1:=Int.emod_nonneg a (show (p:Int)≠0 by omega);have h2:=Int.emod_lt_of_pos a (show (0:Int)<p by omega);have h3:=CD (p:Int) a;refine JQ (a:=(a%(p:Int)).toNat) hp (by omega) (fun e=>ha ?_) ?_
  . exact Int.dvd_of_emod_eq_zero (by omega)
  . rw [Int.toNat_of_nonneg h1]
    obtain ⟨k1,e1⟩:=h;obtain ⟨k2,e2⟩:=h3;exact ⟨k1+b*k2,by grind⟩
theorem PR {p:Nat}{a:Int}(hp:primeN p)(ha:¬ (p:Int)∣a)(b:Int):∃ w:Int,(p:Int)∣a*w - b:=by
  have hp2:=hp.two;have h1:=Int.emod_nonneg a (show (p:Int)≠0 by omega);have h2:=Int.emod_lt_of_pos a (show (0:Int)<p by omega);have h3:=CD (p:Int) a;obtain ⟨v,hv⟩:=Jt (u:=(a%(p:Int)).toNat) hp (by omega) (fun e=>ha (Int.dvd_of_emod_eq_zero (by omega)));have h4:=CD (p:Int) (((a%(p:Int)).toNat*v:Nat):Int);rw [← Int.natCast_emod,hv,Int.natCast_mul,Int.toNat_of_nonneg h1] at h4;obtain ⟨k2,e2⟩:=h3;obtain ⟨k3,e3⟩:=h4;exact ⟨(v:Int)*b,-(k3+k2*v)*b,by grind⟩
structure Tw (p n:Nat) (M:Nat->Nat->Nat) (iv:Nat->Nat) (r:Nat->Nat->Int):Prop where
  n0:0<n
  c:∀ i,i<n->∀ j,j<n->M i j<n
  ic:∀ i,i<n->iv i<n
  ul:∀ i,i<n->M 0 i=i
  ur:∀ i,i<n->M i 0=i
  il:∀ i,i<n->M (iv i) i=0
  ir:∀ i,i<n->M i (iv i)=0
  as:∀ i,i<n->∀ j,j<n->∀ k,k<n->M (M i j) k=M i (M j k)
  ne:∀ i,i<n->∀ j,j<n->¬ (p:Int)∣r i j
  co:∀ i,i<n->∀ j,j<n->∀ k,k<n->(p:Int)∣r i j*r (M i j) k - r j k*r i (M j k)
def Df (M:Nat->Nat->Nat) (iv:Nat->Nat) (y x:Nat):Nat:=M (M y x) (iv y)
def LI (p n:Nat) (M:Nat->Nat->Nat) (r:Nat->Nat->Int) (g:Nat):Prop:=∀ y,y<n->M g y=M y g->(p:Int)∣r g y - r y g
def CenT (p n:Nat) (M:Nat->Nat->Nat) (iv:Nat->Nat) (r:Nat->Nat->Int) (x:Nat->Int):Prop:=∀ i,i<n->∀ b,b<n->(p:Int)∣r (Df M iv i b) i*x (Df M iv i b) - r i b*x b
namespace Tw
variable {p n : Nat} {M : Nat -> Nat -> Nat} {iv : Nat -> Nat} {r : Nat -> Nat -> Int} (h : Tw p n M iv r)
include h
theorem cc {y x:Nat}(hy:y<n)(hx:x<n):Df M iv y x<n:=h.c _ (h.c _ hy _ hx) _ (h.ic _ hy)
theorem rc {a b y:Nat}(ha:a<n)(hb:b<n)(hy:y<n)(e:M a y=M b y):a=b:=by
  have e1:=h.as a ha y hy _ (h.ic y hy);have e2:=h.as b hb y hy _ (h.ic y hy);rw [h.ir y hy,h.ur a ha] at e1;rw [h.ir y hy,h.ur b hb] at e2;rw [← e1,← e2,e]
theorem cm {y x:Nat}(hy:y<n)(hx:x<n):M (Df M iv y x) y=M y x:=by
  unfold Df
  rw [h.as _ (h.c _ hy _ hx) _ (h.ic _ hy) _ hy,h.il _ hy,h.ur _ (h.c _ hy _ hx)]
theorem ce {a y x:Nat}(ha:a<n)(hy:y<n)(hx:x<n)(e:M a y=M y x):Df M iv y x=a:=h.rc (h.cc hy hx) ha hy (by rw [h.cm hy hx,e])
theorem c0 {x:Nat}(hx:x<n):Df M iv 0 x=x:=h.ce hx h.n0 hx (by rw [h.ul _ hx,h.ur _ hx])
theorem c2 {z y x:Nat}(hz:z<n)(hy:y<n)(hx:x<n):Df M iv z (Df M iv y x)=Df M iv (M z y) x:=by
  have hg:=h.cc hy hx;refine (h.ce (h.cc hz hg) (h.c _ hz _ hy) hx ?_).symm;rw [← h.as _ (h.cc hz hg) _ hz _ hy,h.cm hz hg,h.as _ hz _ hg _ hy,h.cm hy hx,← h.as _ hz _ hy _ hx]
theorem back {y x:Nat}(hy:y<n)(hx:x<n):Df M iv (iv y) (Df M iv y x)=x:=by
  rw [h.c2 (h.ic _ hy) hy hx,h.il _ hy,h.c0 hx]
theorem mult (hp:primeN p){z y g:Nat}(hz:z<n)(hy:y<n)(hg:g<n):(p:Int)∣r (M z y) g*r (Df M iv z (Df M iv y g)) z*r (Df M iv y g) y - r (Df M iv z (Df M iv y g)) (M z y)*r z (Df M iv y g)*r y g:=by
  have hh:=h.cc hy hg;have hk:=h.cc hz hh;have h1:=h.co z hz y hy g hg;have h2:=h.co z hz _ hh y hy;have h3:=h.co _ hk z hz y hy;rw [h.cm hy hg] at h2;rw [h.cm hz hh] at h3;refine Ej hp (h.ne z hz y hy) (Ej hp (h.ne _ (h.c _ hz _ hh) y hy) ?_);obtain ⟨k1,e1⟩:=h1;obtain ⟨k2,e2⟩:=h2;obtain ⟨k3,e3⟩:=h3
  generalize Df M iv z (Df M iv y g)=k at *
  generalize Df M iv y g=d at *
  refine ⟨k1*(r k z*r d y*r (M z d) y) - k2*(r y g*r k z*r (M z d) y)+k3*(r y g*r z d*r (M z d) y),?_⟩
  grind
theorem same (hp:primeN p){y y' g:Nat}(hy:y<n)(hy':y'<n)(hg:g<n)(hr:LI p n M r g)(e:Df M iv y g=Df M iv y' g):(p:Int)∣r y' g*r (Df M iv y g) y - r (Df M iv y g) y'*r y g:=by
  have hi:=h.ic y hy;have hz:=h.c _ hi _ hy';have ez:Df M iv (M (iv y) y') g=g:=by rw [← h.c2 hi hy' hg,← e,h.back hy hg]
  have ey:M y (M (iv y) y')=y':=by rw [← h.as _ hy _ hi _ hy',h.ir _ hy,h.ul _ hy']
  have h1:=h.mult hp hy hz hg;rw [ez,ey] at h1;have h2:=hr _ hz (by have:=h.cm hz hg;rwa [ez] at this);refine Ej hp (h.ne g hg _ hz) ?_;obtain ⟨k1,e1⟩:=h1;obtain ⟨k2,e2⟩:=h2
  generalize M (iv y) y'=z at *
  generalize Df M iv y g=d at *
  refine ⟨k1 - k2*(r d y'*r y g),?_⟩
  grind
theorem vec (hp:primeN p){g:Nat}(hg:g<n)(hr:LI p n M r g):∃ w:Nat->Int,(∀ b,(¬ ∃ y,y<n/\Df M iv y g=b)->w b=0)/\∀ y,y<n->(p:Int)∣r (Df M iv y g) y*w (Df M iv y g) - r y g:=by
  have hex:∀ b,∃ w:Int,((¬ ∃ y,y<n/\Df M iv y g=b)->w=0)/\∀ y,y<n->Df M iv y g=b->(p:Int)∣r b y*w - r y g:=fun b=>by
    by_cases e:∃ y,y<n/\Df M iv y g=b
    . obtain ⟨y,hy,rfl⟩:=e
      have hb:=h.cc hy hg;obtain ⟨w,hw⟩:=PR hp (h.ne _ hb _ hy) (r y g);refine ⟨w,fun z=>absurd ⟨y,hy,rfl⟩ z,fun y' hy' e'=>?_⟩;have h1:=h.same hp hy hy' hg hr e'.symm;refine Ej hp (h.ne _ hb _ hy) ?_;obtain ⟨k1,e1⟩:=h1;obtain ⟨k2,e2⟩:=hw
      generalize Df M iv y g=d at *
      refine ⟨k2*r d y' - k1,?_⟩
      grind
    . exact ⟨0,fun _=>rfl,fun y hy ey=>absurd ⟨y,hy,ey⟩ e⟩
  exact ⟨fun b=>Classical.choose (hex b),fun b hb=>(Classical.choose_spec (hex b)).1 hb,fun y hy=>(Classical.choose_spec (hex (Df M iv y g))).2 y hy rfl⟩
theorem vec_cen (hp:primeN p){g:Nat}(hg:g<n){w:Nat->Int}(h0:∀ b,(¬ ∃ y,y<n/\Df M iv y g=b)->w b=0)(h1:∀ y,y<n->(p:Int)∣r (Df M iv y g) y*w (Df M iv y g) - r y g):CenT p n M iv r w:=fun i hi b hb=>by
  by_cases e:∃ y,y<n/\Df M iv y g=b
  . obtain ⟨y,hy,rfl⟩:=e
    have hk:=h.cc hi hb
    have a1:=h1 y hy
    have a2:=h1 _ (h.c _ hi _ hy)
    have a3:=h.mult hp hi hy hg
    rw [← h.c2 hi hy hg] at a2
    refine Ej hp (h.ne _ hk _ (h.c _ hi _ hy)) (Ej hp (h.ne _ hb _ hy) ?_)
    obtain ⟨k1,e1⟩:=a1
    obtain ⟨k2,e2⟩:=a2
    obtain ⟨k3,e3⟩:=a3
    generalize Df M iv i (Df M iv y g)=k at *
    generalize Df M iv y g=d at *
    refine ⟨k2*(r k i*r d y)+k3 - k1*(r k (M i y)*r i d),?_⟩
    grind
  . rw [h0 b e,h0 (Df M iv i b) fun ⟨y,hy,ey⟩=>e ⟨M (iv i) y,h.c _ (h.ic _ hi) _ hy,by rw [← h.c2 (h.ic _ hi) hy hg,ey,h.back hi hb]⟩]
    exact ⟨0,by simp⟩
theorem vec_one (hp:primeN p){g:Nat}(hg:g<n)(hr:LI p n M r g){w:Nat->Int}(h1:∀ y,y<n->(p:Int)∣r (Df M iv y g) y*w (Df M iv y g) - r y g):(p:Int)∣w g - 1:=by
  have a1:=h1 0 h.n0;rw [h.c0 hg] at a1;have a2:=hr 0 h.n0 (by rw [h.ul _ hg,h.ur _ hg]);refine Ej hp (h.ne g hg 0 h.n0) ?_;obtain ⟨k1,e1⟩:=a1;obtain ⟨k2,e2⟩:=a2;exact ⟨k1 - k2,by grind⟩
theorem irr_zero (hp:primeN p){g:Nat}(hg:g<n)(hr:¬ LI p n M r g){x:Nat->Int}(hx:CenT p n M iv r x):(p:Int)∣x g:=by
  refine Decidable.byContradiction fun hn=>hr fun y hy e=>?_;have a1:=hx y hy g hg;rw [h.ce hg hy hg e] at a1;refine Ej hp hn ?_
  rwa [Int.sub_mul]
theorem cls_zero (hp:primeN p){g y:Nat}(hg:g<n)(hy:y<n){x:Nat->Int}(hx:CenT p n M iv r x)(h0:(p:Int)∣x g):(p:Int)∣x (Df M iv y g):=by
  refine Ej hp (h.ne _ (h.cc hy hg) _ hy) ?_;obtain ⟨k1,e1⟩:=hx y hy g hg;obtain ⟨k2,e2⟩:=h0;exact ⟨k1+r y g*k2,by grind⟩
end Tw
end Go.Ech
namespace Go.Ech
open Go.Sw
theorem Ld {p:Int}{f g:Nat->Int}{n:Nat}(e:∀ i,i<n->p∣f i - g i):p∣sI f n - sI g n:=by
  rw [D8];exact Cu e
section
variable {p n : Nat} {M : Nat -> Nat -> Nat} {iv : Nat -> Nat} {r : Nat -> Nat -> Int}
theorem CenT.sum {d:Nat}{P:Nat->Nat->Int}(a:Nat->Int)(hP:∀ i,i<d->CenT p n M iv r (P i)):CenT p n M iv r (fun c=>sI (fun i=>a i*P i c) d):=fun i hi b hb=>by
  dsimp only
  rw [← Cb,← Cb,D8]
  refine Cu fun j hj=>?_
  obtain ⟨k,e⟩:=hP j hj i hi b hb
  exact ⟨a j*k,by grind⟩
end
namespace Tw
variable {p n : Nat} {M : Nat -> Nat -> Nat} {iv : Nat -> Nat} {r : Nat -> Nat -> Int} (h : Tw p n M iv r)
include h
theorem dim {m0 R m:Nat}{M0 V:Nat->Nat->Nat}{g:Nat->Nat}(hp:primeN p)(hK:∀ x,Ker p n M0 m0 x↔CenT p n M iv r x)(hV:IsKer p n M0 m0 R V)
    (hg:∀ j,j<m->g j<n) (hr:∀ j,j<m->LI p n M r (g j)) (hd:∀ i j,i<m->j<m->i≠j->¬ ∃ y,y<n/\Df M iv y (g i)=g j)
    (hU:∀ b,b<n->∃ a,a<n/\(∃ y,y<n/\Df M iv y a=b)/\((∃ j,j<m/\g j=a)\/¬ LI p n M r a)):R=m:=by
  have hp2:=hp.two;obtain ⟨ld,hR⟩:=L6 hV;have up:m<=R:=by
    have hex:∀ j,∃ w:Nat->Int,j<m->CenT p n M iv r w/\(p:Int)∣w (g j) - 1/\∀ b,(¬ ∃ y,y<n/\Df M iv y (g j)=b)->w b=0:=fun j=>by
      by_cases hj:j<m
      . obtain ⟨w,h0,h1⟩:=h.vec hp (hg j hj) (hr j hj)
        exact ⟨w,fun _=>⟨h.vec_cen hp (hg j hj) h0 h1,h.vec_one hp (hg j hj) (hr j hj) h1,h0⟩⟩
      . exact ⟨fun _=>0,fun z=>absurd z hj⟩
    refine Qu (P:=fun j=>Classical.choose (hex j)) hp hR (fun a ha i hi=>?_) (fun j hj=>Qt hp2 hV ((hK _).2 (Classical.choose_spec (hex j) hj).1));have h1:=ha (g i) (hg i hi)
    dsimp only at h1
    rw [Int.sub_zero,Bl hi fun j hj hH=>by rw [(Classical.choose_spec (hex j) hj).2.2 _ (hd j i hj hi hH),Int.mul_zero]] at h1;obtain ⟨k1,e1⟩:=h1;obtain ⟨k2,e2⟩:=(Classical.choose_spec (hex i) hi).2.1;exact ⟨k1 - a i*k2,by grind⟩
  have dn:R<=m:=by
    refine Nat.le_of_not_lt fun hlt=>?_;obtain ⟨x,⟨i,hi,hx⟩,h2⟩:=Mp hp (fun j i=>ci (V i) (g j)) hlt;have hc:CenT p n M iv r (fun c=>sI (fun i=>x i*ci (V i) c) R):=CenT.sum x fun i hi=>(hK _).1 (P0 hp2 hV hi);refine hx (Ov hR x (fun b hb=>?_) i hi);rw [Int.sub_zero];obtain ⟨a,ha,⟨y,hy,rfl⟩,hq⟩:=hU b hb;refine h.cls_zero hp ha hy hc ?_
    rcases hq with ⟨j,hj,rfl⟩ | hq
    . exact h2 j hj
    . exact h.irr_zero hp ha hq hc
  omega
theorem dim_cnt {m0 R K:Nat}{M0 V:Nat->Nat->Nat}{g:Nat->Nat}{S:Nat->Bool}(hp:primeN p)(hK:∀ x,Ker p n M0 m0 x↔CenT p n M iv r x)(hV:IsKer p n M0 m0 R V)
    (hg:∀ k,k<K->g k<n) (hS:∀ k,k<K->(S k=true↔LI p n M r (g k))) (hd:∀ i j,i<K->j<K->i≠j->¬ ∃ y,y<n/\Df M iv y (g i)=g j)
    (hU:∀ b,b<n->∃ k,k<K/\∃ y,y<n/\Df M iv y (g k)=b):R=cnt S K:=by
  refine h.dim (g:=fun j=>g (asc S K j)) hp hK hV (fun j hj=>hg _ (Dg hj).1) (fun j hj=>(hS _ (Dg hj).1).1 (Dg hj).2.1) (fun i j hi hj hH=>hd _ _ (Dg hi).1 (Dg hj).1 fun e=>hH ?_) fun b hb=>?_
  . have h1:=(Dg hi).2.2
    rw [e,(Dg hj).2.2] at h1;exact h1.symm
  . obtain ⟨k,hk,y,hy,e⟩:=hU b hb
    refine ⟨g k,hg k hk,⟨y,hy,e⟩,?_⟩
    by_cases hs:S k=true
    . exact .inl ⟨cnt S k,cnt_lt hs hk,congrArg g (EU hs hk)⟩
    . exact .inr fun z=>hs ((hS k hk).2 z)
theorem eqs {T:Nat->Nat->Nat->Int}{A:Nat->Nat->Nat}(hT:∀ i,i<n->∀ j,j<n->∀ k,k<n->T i j k=if k=M i j then r i j else 0)(hA:∀ i,i<n->∀ k,k<n->∀ c,c<n->(p:Int)∣(A (i*n+k) c:Int) - (T c i k - T i c k))(x:Nat->Int):Ker p n A (n*n) x↔CenT p n M iv r x:=by
  have hn0:=h.n0;have key:∀ i,i<n->∀ b,b<n->(p:Int)∣dot n (ci (A (i*n+M i b))) x - (r (Df M iv i b) i*x (Df M iv i b) - r i b*x b):=fun i hi b hb=>by
    have hk:=h.c i hi b hb;have hc:=h.cc hi hb;have e1:sI (fun c=>T c i (M i b)*x c) n=r (Df M iv i b) i*x (Df M iv i b):=by
      rw [Bl hc fun c hJ hH=>by rw [hT c hJ i hi _ hk,if_neg fun e=>hH (h.ce hJ hi hb e.symm).symm,Int.zero_mul],hT _ hc i hi _ hk,if_pos (h.cm hi hb).symm]
    have e2:sI (fun c=>T i c (M i b)*x c) n=r i b*x b:=by
      rw [Bl hb fun c hJ hH=>by
        rw [hT i hi c hJ _ hk,if_neg fun e=>hH ?_,Int.zero_mul];have a1:=h.as _ (h.ic i hi) i hi c hJ;have a2:=h.as _ (h.ic i hi) i hi b hb;rw [h.il i hi,h.ul _ hJ] at a1;rw [h.il i hi,h.ul _ hb] at a2;rw [a1,a2,e],hT i hi b hb _ hk,if_pos rfl]
    rw [← e1,← e2,D8]
    unfold dot
    refine Ld fun c hJ=>?_;obtain ⟨q,e⟩:=hA i hi _ hk c hJ;exact ⟨q*x c,by unfold ci;grind⟩
  constructor
  . intro hx i hi b hb
    have hk:=h.c i hi b hb;have h1:=hx (i*n+M i b) (by have:(i+1)*n<=n*n:=Nat.mul_le_mul_right n hi;rw [Nat.add_mul] at this;omega);exact (C1 (key i hi b hb)).1 h1
  . intro hx q hq
    have hi:q / n<n:=Nat.div_lt_of_lt_mul hq;have hk:q%n<n:=Nat.mod_lt _ hn0;have hb:=h.c _ (h.ic _ hi) _ hk;have eb:M (q / n) (M (iv (q / n)) (q%n))=q%n:=by rw [← h.as _ hi _ (h.ic _ hi) _ hk,h.ir _ hi,h.ul _ hk]
    have h1:=key _ hi _ hb;rw [eb,Nat.mul_comm (q / n) n,Nat.div_add_mod] at h1;exact (C1 h1).2 (hx _ hi _ hb)
end Tw
end Go.Ech
namespace Go.Ech
open Go.Sw
namespace Tw
variable {p n : Nat} {M : Nat -> Nat -> Nat} {iv : Nat -> Nat} {r : Nat -> Nat -> Int} (h : Tw p n M iv r)
include h
theorem ass {T:Nat->Nat->Nat->Nat}(hT:∀ i,i<n->∀ j,j<n->∀ k,k<n->(T i j k:Int)=if k=M i j then r i j else 0):FV p n T:=fun i hi j hj k hk d hd=>by
  have hij:=h.c i hi j hj
  have hjk:=h.c j hj k hk
  rw [Bl hij fun a ha hH=>by rw [hT i hi j hj a ha,if_neg hH,Int.zero_mul],Bl hjk fun b hb hH=>by rw [hT j hj k hk b hb,if_neg hH,Int.zero_mul],hT i hi j hj _ hij,if_pos rfl,hT j hj k hk _ hjk,if_pos rfl,hT _ hij k hk d hd,hT i hi _ hjk d hd,h.as i hi j hj k hk]
  split
  . exact h.co i hi j hj k hk
  . exact ⟨0,by simp⟩
theorem one_l (hp:primeN p)(h1:(p:Int)∣r 0 0 - 1){i:Nat}(hi:i<n):(p:Int)∣r 0 i - 1:=by
  have a1:=h.co 0 h.n0 0 h.n0 i hi;rw [h.ul _ h.n0,h.ul _ hi] at a1;refine Ej hp (h.ne 0 h.n0 i hi) ?_;obtain ⟨k1,e1⟩:=a1;obtain ⟨k2,e2⟩:=h1;exact ⟨k2*r 0 i - k1,by grind⟩
theorem one_r (hp:primeN p)(h1:(p:Int)∣r 0 0 - 1){i:Nat}(hi:i<n):(p:Int)∣r i 0 - 1:=by
  have a1:=h.co i hi 0 h.n0 0 h.n0;rw [h.ul _ h.n0,h.ur _ hi] at a1;refine Ej hp (h.ne i hi 0 h.n0) ?_;obtain ⟨k1,e1⟩:=a1;obtain ⟨k2,e2⟩:=h1;exact ⟨k1+k2*r i 0,by grind⟩
theorem unit {T:Nat->Nat->Nat->Nat}(hp:primeN p)(hT:∀ i,i<n->∀ j,j<n->∀ k,k<n->(T i j k:Int)=if k=M i j then r i j else 0)(h1:(p:Int)∣r 0 0 - 1):UnitI p n T (fun c=>if c=0 then 1 else 0):=by
  have h0:=h.n0;refine ⟨fun c=>?_,fun c hc=>if_neg (by omega),fun i hi c hc=>?_,fun i hi c hc=>?_⟩
  . have:=hp.two
    split<;>omega
  . rw [Bl h0 fun a _ hH=>by rw [if_neg hH];simp,if_pos rfl,hT 0 h0 i hi c hc,h.ul _ hi]
    have h2:=h.one_l hp h1 hi
    unfold dl
    by_cases e:c=i
    . subst e;simpa using h2
    . rw [if_neg e,if_neg (Ne.symm e)];exact ⟨0,by simp⟩
  . rw [Bl h0 fun a _ hH=>by rw [if_neg hH];simp,if_pos rfl,hT i hi 0 h0 c hc,h.ur _ hi]
    have h2:=h.one_r hp h1 hi
    unfold dl
    by_cases e:c=i
    . subst e;simpa using h2
    . rw [if_neg e,if_neg (Ne.symm e)];exact ⟨0,by simp⟩
end Tw
theorem Q0 {p n:Nat}{M:Nat->Nat->Nat}{r:Nat->Nat->Int}{l:Nat->Int}(hp:primeN p)(hn0:0<n)(hc:∀ i,i<n->∀ j,j<n->M i j<n)(has:∀ i,i<n->∀ j,j<n->∀ k,k<n->M (M i j) k=M i (M j k))(hl:∀ i,i<n->¬ (p:Int)∣l i)(hr:∀ i,i<n->∀ j,j<n->(p:Int)∣r i j*(l (M i j)*l 0) - l i*l j) :
    ∀ i,i<n->∀ j,j<n->∀ k,k<n->(p:Int)∣r i j*r (M i j) k - r j k*r i (M j k):=fun i hi j hj k hk=>by
  have hij:=hc i hi j hj
  have hjk:=hc j hj k hk
  have a1:=hr i hi j hj
  have a2:=hr _ hij k hk
  have a3:=hr j hj k hk
  have a4:=hr i hi _ hjk
  rw [has i hi j hj k hk] at a2
  have hd:=hc i hi _ hjk
  refine Ej hp (hl _ hij) (Ej hp (hl 0 hn0) (Ej hp (hl _ hd) (Ej hp (hl 0 hn0) (Ej hp (hl _ hjk) ?_))))
  obtain ⟨k1,e1⟩:=a1
  obtain ⟨k2,e2⟩:=a2
  obtain ⟨k3,e3⟩:=a3
  obtain ⟨k4,e4⟩:=a4
  generalize M i (M j k)=d at *
  generalize M i j=a at *
  generalize M j k=b at *
  refine ⟨k1*(r a k*l d*l 0*l b)+k2*(l i*l j*l b) - k3*(r i b*l a*l d*l 0) - k4*(l j*l k*l a),?_⟩
  grind
theorem Qz {p n:Nat}{M:Nat->Nat->Nat}{r:Nat->Nat->Int}{l:Nat->Int}(hp:primeN p)(hl:∀ i,i<n->¬ (p:Int)∣l i){i j:Nat}(hi:i<n)(hj:j<n)(hr:(p:Int)∣r i j*(l (M i j)*l 0) - l i*l j):¬ (p:Int)∣r i j:=fun q=>by
  refine hl i hi (Ej hp (hl j hj) ?_)
  obtain ⟨k1,e1⟩:=q
  obtain ⟨k2,e2⟩:=hr
  exact ⟨k1*(l (M i j)*l 0) - k2,by grind⟩
theorem QB {p n:Nat}{M:Nat->Nat->Nat}{r:Nat->Nat->Int}{l:Nat->Int}(hp:primeN p)(hn0:0<n)(h0:M 0 0=0)(hl:∀ i,i<n->¬ (p:Int)∣l i)(hr:(p:Int)∣r 0 0*(l (M 0 0)*l 0) - l 0*l 0):(p:Int)∣r 0 0 - 1:=by
  rw [h0] at hr;refine Ej hp (hl 0 hn0) (Ej hp (hl 0 hn0) ?_);obtain ⟨k,e⟩:=hr;exact ⟨k,by grind⟩
end Go.Ech
namespace Go.Sw
open Go Go.RowKit Go.ChangeShapes Go.WideShapes Go.ChangeAt
def ArgB (w:World) (sl:Value) (m:Nat):Prop:=
  (∃ x c,sl = .slice x m c)/\(0<m->∃ (b o c:Nat) (F:Nat->Nat),sl = .slice (some ⟨b,o,none⟩) m c/\b<w.heap.size/\b ∉ ([]:List Nat)/\(∀ i,F i<=255)/\∀ i,i<m->w.cell? ⟨b,o+i*1,none⟩=some (.int .u8 (F i:Int)))
theorem ArgB.code {w:World}{sl:Value}{m:Nat}(h:ArgB w sl m)(hm:m<=4096):CodeB w [] sl m:=⟨hm,h.1,h.2⟩
section
variable {H : Type} {enc : TypeId × Value -> H} {P : Program} {w : World} {base : Nat} {spare : Nat -> Bool} {held : Bool}
theorem J9 {t e:TypeId}{fuel:Nat}{v:Value}{y:DataW H×List MemPlace}(ht:P.underlying t=some (.slice e))(he:P.underlying e=some (.int .u8))(hc:P.cellsOf e=1)
    (h:DataW.trod enc P w base spare held fuel t [v]=some y):∃ m:Nat,ArgB w v m:=by
  rcases open_ints ht he hc h with ⟨e1,_⟩ | ⟨ad,len,cap,zs,e1,_,hle,hmx,hlen,_,hO,hwf⟩
  . simp only [List.cons.injEq,and_true] at e1
    rw [e1];exact ⟨0,⟨none,0,rfl⟩,fun h=>absurd h (by omega)⟩
  . simp only [List.cons.injEq,and_true] at e1
    rw [e1];refine ⟨len,⟨some ad,cap,rfl⟩,fun hm=>?_⟩;have hzl:len<=zs.length:=by rw [hlen];split<;>omega
    have bd:∀ i,0<=zs.getD i 0/\zs.getD i 0<=255:=fun i=>by
      by_cases hi:i<zs.length
      . have:zs.getD i 0=zs[i]:=by simp [List.getD,hi]
        rw [this];exact wf_u8 (hwf _ (List.getElem_mem _))
      . have:zs.getD i 0=0:=by simp [List.getD,Nat.not_lt.1 hi]
        rw [this];exact ⟨by decide,by decide⟩
    have h0:=hO 0 (by omega);rw [show ad.add 0=ad from rfl] at h0;obtain ⟨b,o,s⟩:=ad
    unfold World.cell? at h0
    cases hb:w.heap[b]? with
    | none=>simp [hb] at h0
    | some ob =>
      cases ob with
      | cells cs tt ck =>
        simp only [hb] at h0
        cases s with
        | some s=>simp at h0
        | none =>
          refine ⟨b,o,cap,fun i=>(zs.getD i 0).toNat,rfl,(Array.getElem?_eq_some_iff.1 hb).1,by simp,fun i=>by have h9:=bd i;show (zs.getD i 0).toNat<=255;omega,fun i hi=>?_⟩;have hi':=hO i (by omega);rw [show (Addr.add ⟨b,o,none⟩ i)=⟨b,o+i,none⟩ from by unfold Addr.add;split<;>simp_all] at hi';rw [Nat.mul_one,hi'];have:=bd i;rw [Int.toNat_of_nonneg this.1]
      | _=>simp [hb] at h0
theorem open_by {r:Go.Reach}{b0:Nat}{t e:TypeId}{v:Value}{d:DataW H}{p:List MemPlace}(ht:P.underlying t=some (.slice e))(he:P.underlying e=some (.int .u8))(hc:P.cellsOf e=1)
    (hv:Value.okWide P w r b0 t v) (h:DataW.Trod enc P w base spare held t v d p):∃ m:Nat,ArgB w v m:=by
  obtain ⟨a,l,c,rfl⟩:=okWide_slice ht hv;obtain ⟨fuel,h⟩:=h;exact J9 ht he hc h
end
end Go.Sw
namespace Go.Sw
theorem If:∀ (c:Char) (r:List Char),c≠' '->wordsSigns (c::r)=match wordsSigns r with
    | w::ws=>(c::w)::ws
    | []=>[[c]]:=by
  intro c r h;rw [wordsSigns.eq_def]
  split
  . simp_all
  . rename_i heq;simp at heq;exact absurd heq.1 h
  . rename_i heq;simp only [List.cons.injEq] at heq;obtain ⟨rfl,rfl⟩:=heq;rfl
theorem DB:∀ (w r:List Char),(∀ c∈w,c≠' ')->wordsSigns (w++' '::r)=w::wordsSigns r
  | [],r,_=>by simp [wordsSigns]
  | c :: w, r, h => by
    rw [List.cons_append,If c _ (h c (by simp)),DB w r (fun d hd=>h d (by simp [hd]))]
theorem Qi (s:List Char)(h:isSumSigns s=true):∀ c∈s,c≠' ':=by
  intro c hc he
  unfold isSumSigns at h
  simp only [Bool.and_eq_true,List.all_eq_true] at h;have:=h.2 c hc;subst he
  revert this;decide
theorem cutHead (L s r : List Char) (h : L = "harness".toList ++ ' ' :: (s ++ ' ' :: ("cut".toList ++ ' ' :: r))) (hs : isSumSigns s = true) :
    behindMainWord (wordsSigns L) = "cut".toList :: wordsSigns r := by
  rw [h, DB _ _ (by decide), DB _ _ (Qi s hs), DB _ _ (by decide)];have : ("harness".toList == "harness".toList || "harness".toList == "ownmain".toList) = true := by decide
  unfold behindMainWord
  show (if (("harness".toList == "harness".toList || "harness".toList == "ownmain".toList) && isSumSigns s) = true then _ else _) = _
  rw [if_pos (by rw [this,hs];rfl)]
theorem I8 (R : List (List Char)) : stripLifts liftWords ("cut".toList :: R) = ([], "cut".toList :: R) := by
  kernel_rfl
theorem NP (P : Program) (R : List (List Char)) (h : behindMainWord (wordsSigns P.initOrder.toList) = "cut".toList :: R) : P.headLifts = [] := by
  unfold Program.headLifts;rw [h,I8];rfl
theorem make_cut (P : Program) (R : List (List Char)) (h : behindMainWord (wordsSigns P.initOrder.toList) = "cut".toList :: R) : P.make = some .cut := by
  unfold Program.make;rw [h]
  have h1 : ("cut".toList == "gc".toList || "cut".toList == "spec".toList) = false := by decide
  have h2 : ("cut".toList == "cut".toList) = true := by decide
  simp only [h1,h2];rfl
theorem final_cut (P : Program) (R : List (List Char)) (h : behindMainWord (wordsSigns P.initOrder.toList) = "cut".toList :: R) : P.liftsFinal = false := by
  unfold Program.liftsFinal;rw [NP P R h,h];kernel_rfl
theorem enter_cut (P : Program) (R : List (List Char)) (h : behindMainWord (wordsSigns P.initOrder.toList) = "cut".toList :: R)
    (hl:P.laysLater=false) (hb:P.bearsReflect=false) (hd:P.doorFits []=true):P.mayEnter=true:=by
  unfold Program.mayEnter;rw [h]
  simp only [I8,hl,hb,hd]
  kernel_rfl
end Go.Sw
