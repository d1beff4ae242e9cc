import Derived.Test.YtgioobkkkicfeaaN2
import Derived.Test.YtgioobkkkicfeaaD7
import Derived.Test.YtgioobkkkicfeaaSw10
set_option linter.unusedVariables false
set_option linter.unusedSimpArgs false
namespace Go.Proofs.Ytgioobkkkicfeaa
open Go Go.RowKit Go.Sw Go.Ech
open Classical
section
variable {n p : Nat} {M : Nat -> Nat -> Nat}
def tK (p n:Nat) (M:Nat->Nat->Nat) (i j k:Nat):Nat:=if i<nC M n/\j<nC M n/\k<nC M n then cA M n i j k%p else 0
def uK (c:Nat):Nat:=if c=0 then 1 else 0
end
section
variable {n p : Nat} {M : Nat -> Nat -> Nat}
def fx (M:Nat->Nat->Nat) (n r x:Nat):Nat:=sumTo (fun y=>if cj M n r y=x then 1 else 0) n
end
theorem Cn {f:Nat->Int}:∀ {N:Nat},(∀ c,c<N->f c=0)->sI f N=0
  | 0,_=>rfl
  | N + 1, h => by
    show sI f N+f N=0
    rw [Cn (fun c hc=>h c (by omega)),h N (by omega)];rfl
theorem Hn {f:Nat->Int}{c0:Nat}:∀ {N:Nat},c0<N->(∀ c,c<N->c≠c0->f c=0)->sI f N=f c0
  | 0,h,_=>by omega
  | N + 1, h, h0 => by
    show sI f N+f N=f c0
    by_cases e:c0=N
    . subst e;rw [Cn (fun c hc=>h0 c (by omega) (by omega)),Int.zero_add]
    . rw [Hn (by omega) (fun c hc=>h0 c (by omega)),h0 N (by omega) (fun q=>e q.symm),Int.add_zero]
section
variable {p m : Nat} {A : Nat -> Nat -> Nat} {J : Nat -> Nat -> Prop} {s : Nat -> Nat}
structure Mono (p m:Nat) (A:Nat->Nat->Nat) (J:Nat->Nat->Prop) (s:Nat->Nat):Prop where
  inn:∀ i,i<m->∀ c,c<m->A i c=if J i c then s i%p else 0
  out:∀ i,i<m->∀ c,m<=c->A i c=0
  ex:∀ i,i<m->∃ c,c<m/\J i c
  one:∀ i,i<m->∀ c,c<m->∀ d,d<m->J i c->J i d->c=d
  symm:∀ i,i<m->∀ c,c<m->J i c->J c i
theorem Mono.dot (h:Mono p m A J s)(hm:m<=6){i c:Nat}(hi:i<m)(hc:c<m)(hj:J i c)(x:Nat->Int):Go.Ech.dot 6 (ci (A i)) x=((s i%p:Nat):Int)*x c:=by
  unfold Go.Ech.dot
  rw [Hn (c0:=c) (by omega) fun d hd hJ=>?_]
  . show (A i c:Int)*x c=_
    rw [h.inn i hi c hc,if_pos hj]
  . show (A i d:Int)*x d=0
    by_cases q:d<m
    . rw [h.inn i hi d q,if_neg (fun r=>hJ (h.one i hi d q c hc r hj))];simp
    . rw [h.out i hi d (by omega)];simp
theorem Mono.frob (h:Mono p m A J s)(hp:primeN p)(hm:m<=6):(∃ E ld,Rref p 6 E m ld/\∀ x,Ker p 6 E m x↔Ker p 6 A m x)↔∀ i,i<m->s i%p≠0:=by
  have hp2:=hp.two
  constructor
  . rintro ⟨E,ld,hE,hK⟩ i hi hs
    obtain ⟨c0,hc0,hj0⟩:=h.ex i hi
    have key:∀ c,c<6->Ker p 6 A m (fun d=>if d=c then 1 else 0)->∀ r,r<m->ld r≠c:=fun c hc hk r hr e=>by
      have h1:=(hK _).2 hk r hr
      unfold Go.Ech.dot at h1
      rw [Hn (c0:=c) hc (fun d _ hJ=>by dsimp only;rw [if_neg hJ,Int.mul_zero])] at h1
      dsimp only at h1
      rw [if_pos rfl,Int.mul_one] at h1;have h2:=hE.one r hr;rw [e] at h2;have h3:ci (E r) c=1:=by show (E r c:Int)=1;rw [h2];rfl
      rw [h3] at h1;have:=Int.le_of_dvd (by decide) h1
      omega
    have kz:∀ c,(∀ i',i'<m->A i' c=0)->Ker p 6 A m (fun d=>if d=c then 1 else 0):=fun c hz i' hi'=>by
      unfold Go.Ech.dot
      rw [Cn fun d _=>?_]
      . exact Int.dvd_zero _
      . show (A i' d:Int)*(if d=c then 1 else 0)=0
        by_cases q:d=c
        . rw [q,hz i' hi'];simp
        . rw [if_neg q,Int.mul_zero]
    have hin:∀ r,r<m->ld r<m:=fun r hr=>by
      by_cases q:ld r<m
      . exact q
      . exact absurd rfl (key (ld r) (hE.lt r hr) (kz _ fun i' hi'=>h.out i' hi' _ (by omega)) r hr)
    have hno:∀ r,r<m->ld r≠c0:=key c0 (by omega) (kz _ fun i' hi'=>by
      rw [h.inn i' hi' c0 hc0]
      by_cases q:J i' c0
      . have e:i'=i:=h.one c0 hc0 i' hi' i hi (h.symm _ hi' _ hc0 q) (h.symm _ hi _ hc0 hj0)
        rw [if_pos q,e,hs]
      . rw [if_neg q])
    have up:∀ k r,r+k<m->ld r+k<=ld (r+k):=fun k=>by
      induction k with
      | zero=>intro r _;exact Nat.le_refl _
      | succ k ih =>
        intro r hr;have h1:=ih r (by omega);have h2:=hE.mono (r+k) (r+k+1) (by omega) (by omega)
        show ld r+(k+1)<=ld (r+k+1)
        omega
    have e1:=up c0 0 (by omega);have e2:=up (m - 1 - c0) c0 (by omega);have e3:=hin (c0+(m - 1 - c0)) (by omega);rw [Nat.zero_add] at e1;exact hno c0 hc0 (by omega)
  . intro hs
    refine ⟨fun i c=>if c=i then 1 else 0,fun i=>i,⟨fun i hi=>by omega,fun i j hij _=>hij,fun i _=>if_pos rfl,fun i _ c hc=>if_neg (by omega),fun i j _ _ hij=>if_neg hij,fun i _ c _=>by split<;>omega⟩,fun x=>?_⟩;have hI:Ker p 6 (fun i c=>if c=i then 1 else 0) m x↔∀ i,i<m->(p:Int)∣x i:=by
      have e:∀ i,i<m->Go.Ech.dot 6 (ci (fun c=>if c=i then 1 else 0)) x=x i:=fun i hi=>by
        unfold Go.Ech.dot
        rw [Hn (c0:=i) (by omega) fun d _ hJ=>by show (((if d=i then 1 else 0:Nat)):Int)*x d=0;rw [if_neg hJ];simp]
        show (((if i=i then 1 else 0:Nat)):Int)*x i=x i
        rw [if_pos rfl];simp
      constructor
      . intro q i hi;have:=q i hi;rwa [e i hi] at this
      . intro q i hi
        show (p:Int)∣Go.Ech.dot 6 (ci (fun c=>if c=i then 1 else 0)) x
        rw [e i hi];exact q i hi
    rw [hI]
    constructor
    . intro q i hi
      obtain ⟨c,hc,hj⟩:=h.ex i hi;rw [h.dot hm hi hc hj];exact Int.dvd_mul_of_dvd_right (q c hc)
    . intro q j hj
      obtain ⟨c,hc,hjc⟩:=h.ex j hj;have h1:=q c hc;rw [h.dot hm hc hj (h.symm _ hj _ hc hjc),Int.mul_comm] at h1;exact JQ hp (Nat.mod_lt _ (by omega)) (hs c hc) h1
end
section
variable {n p : Nat} {M : Nat -> Nat -> Nat}
def TQ (M:Nat->Nat->Nat) (n i c:Nat):Prop:=DG M n (rC M n c) (iv M n (rC M n i))=true
end
theorem NH {p k:Nat}{E S:Nat->Nat->Nat}{ld:Nat->Nat}:Iq p 0 E k ld S:=fun c hc=>absurd hc (by omega)
theorem I9 {p k c:Nat}{E S:Nat->Nat->Nat}{ld:Nat->Nat}(h:Iq p c E k ld S)(hl:Bx k ld c):Iq p (c+1) E k ld S:=fun d hd hf e=>by
  by_cases hc:d=c
  . subst hc;exact absurd hl hf
  . exact h d (by omega) hf e
theorem JA {p k c:Nat}{E S:Nat->Nat->Nat}{ld:Nat->Nat}(h:Iq p c E k ld S):Iq p (c+1) E k ld (upE S (nf k ld c) (sol p E k ld c)):=fun d hd hf e=>by
  unfold upE
  by_cases hc:d=c
  . subst hc;rw [if_pos rfl]
  . have:=Kq (k:=k) (ld:=ld) (show d<c by omega) hf
    rw [if_neg (by omega)];exact h d (by omega) hf e
theorem I0 {p m:Nat}{S:Nat->Nat->Nat}{r:Nat->Nat}(h:∀ i c,S i c<p)(hr:∀ c,r c<p):∀ i c,upE S m r i c<p:=fun i c=>by
  unfold upE;split
  . exact hr c
  . exact h i c
def TL (p:Nat) (E:Nat->Nat->Nat) (k:Nat) (ld:Nat->Nat) (c q d:Nat):Nat:=if d<q then sol p E k ld c d else if d=c then 1 else 0
theorem GC {m:Nat}{f:Nat->Nat}:(Qo m f).size=m:=BZ _ _
def eqC (p n:Nat) (T:Nat->Nat->Nat->Nat) (r c:Nat):Nat:=(((T c (r / n) (r%n):Int) - (T (r / n) c (r%n):Int))%(p:Int)).toNat
theorem O5 {p n:Nat}{T:Nat->Nat->Nat->Nat}(hp:2<=p):∀ r c,eqC p n T r c<p:=fun r c=>by
  unfold eqC
  have h1:=Int.emod_lt_of_pos ((T c (r / n) (r%n):Int) - (T (r / n) c (r%n):Int)) (show (0:Int)<(p:Int) by omega)
  have h2:=Int.emod_nonneg ((T c (r / n) (r%n):Int) - (T (r / n) c (r%n):Int)) (show (p:Int)≠0 by omega)
  omega
theorem Mk {p n i k c:Nat}{T:Nat->Nat->Nat->Nat}(hp:2<=p)(hk:k<n):(eqC p n T (i*n+k) c:Int)=((T c i k:Int) - (T i c k:Int))%(p:Int):=by
  have e1:(i*n+k) / n=i:=by rw [Nat.mul_comm,Nat.mul_add_div (by omega),Nat.div_eq_of_lt hk];omega
  have e2:(i*n+k)%n=k:=by rw [Nat.mul_comm,Nat.mul_add_mod,Nat.mod_eq_of_lt hk]
  unfold eqC;rw [e1,e2]
  exact Int.toNat_of_nonneg (Int.emod_nonneg _ (by omega))
def KerRel (w0:World) (L:Own) (p n m:Nat) (M:Nat->Nat->Nat) (u:Value) (w':World):Prop:=∃ r V,IsKer p n M m r V/\(∀ i c,V i c<p)/\r<=n/\MI w0 L n r (fun i c=>.int .i64 (V i c:Int)) u w'
theorem KerRel.of {X:List Nat}{w0 w w':World}{L:Own}{D:Al}{p n m:Nat}{M:Nat->Nat->Nat}{u:Value}(I:MemX X w0 w L D)(h:∃ r V,IsKer p n M m r V/\(∀ i c,V i c<p)/\r<=n/\RowsOut w w' n r (fun i c=>.int .i64 (V i c:Int)) u):KerRel w0 L p n m M u w':=by
  obtain ⟨r,V,h1,h2,h3,h4⟩:=h;exact ⟨r,V,h1,h2,h3,h4.fresh I⟩
section
variable {p n : Nat} {M r : Nat -> Nat -> Nat}
theorem Qq {a b:Nat}(h:a%p=b%p):(p:Int)∣(a:Int) - (b:Int):=by
  have e:(a:Int)%(p:Int)=(b:Int)%(p:Int):=by rw [← Int.natCast_emod,← Int.natCast_emod,h]
  exact Int.dvd_of_emod_eq_zero (Int.emod_eq_emod_iff_emod_sub_eq_zero.1 e)
theorem OS {a:Nat}(h0:a≠0)(h:a<p):¬ (p:Int)∣(a:Int):=fun q=>by
  have:=Int.le_of_dvd (by omega) q
  omega
theorem N4 (hn0:0<n)(hn:n<=6)(hG:TabP n M)(hC:Cs p n M r)(hH:∀ i,i<n->∀ j,j<n->r i j<p):Tw p n M (fun i=>lead (M i) n) (fun i j=>(r i j:Int)):=
  ⟨hn0,fun i hi j hj=>hG.c hn hi hj,fun i hi=>hG.inv hi,fun i hi=>(hG.2.1 i hi).1,fun i hi=>(hG.2.1 i hi).2,fun i hi=>hG.il hn0 hn hi,fun i hi=>hG.ir hi,hG.2.2.2,
    fun i hi j hj=>OS (hC.1 i hi j hj).1 (hH i hi j hj),fun i hi j hj k hk=>by
      have h:=Qq ((hC.1 i hi j hj).2 k hk)
      rwa [Int.natCast_mul,Int.natCast_mul] at h⟩
theorem Pi (hH:∀ i,i<n->∀ j,j<n->r i j<p){g:Nat}(hg:g<n):OM n M r g↔LI p n M (fun i j=>(r i j:Int)) g:=by
  constructor
  . intro h y hy e
    show (p:Int)∣(r g y:Int) - (r y g:Int)
    rw [h y hy e];exact ⟨0,by simp⟩
  . intro h y hy e
    exact Fe (hH g hg y hy) (hH y hy g hg) (h y hy e)
theorem Ja {i j k:Nat}(hi:i<n)(hj:j<n):(tT n M r i j k:Int)=if k=M i j then (r i j:Int) else 0:=by
  unfold tT
  by_cases q:k=M i j
  . rw [if_pos ⟨hi,hj,q⟩,if_pos q]
  . rw [if_neg (fun z=>q z.2.2),if_neg q];rfl
theorem Pj {R:Nat}{V:Nat->Nat->Nat}(hp:primeN p)(hn0:0<n)(hn:n<=6)(hG:TabP n M)(hC:Cs p n M r)(hH:∀ i,i<n->∀ j,j<n->r i j<p)(hV:IsKer p n (eqC p n (tT n M r)) (n*n) R V):R=cnt (rgB n M r) (nC M n):=by
  have h:=N4 hn0 hn hG hC hH;have hp2:=hp.two;have he:∀ k,k<nC M n->eC M n k 0=rC M n k:=fun k hk=>RW hn0 hn hG hk;refine h.dim_cnt (g:=fun k=>eC M n k 0) hp (h.eqs (T:=fun i j k=>(tT n M r i j k:Int)) (fun i hi j hj k _=>Ja hi hj) (fun i hi k hk c hc=>?_)) hV (fun k hk=>?_) (fun k hk=>?_) (fun i j hi hj hJ=>?_) (fun b hb=>?_)
  . rw [Mk hp2 hk];exact CD _ _
  . show eC M n k 0<n
    rw [he k hk];exact HX hk
  . have hg:eC M n k 0<n:=by rw [he k hk];exact HX hk
    rw [← Pi hH hg];exact ⟨fun q=>of_decide_eq_true q,fun q=>decide_eq_true q⟩
  . rintro ⟨y,hy,e⟩
    rw [he i hi,he j hj] at e;exact hJ (QF hn0 hn hG hi hj (HX hj) (inC_iff.2 ⟨y,hy,e⟩) (GI hn0 hG (HX hj)))
  . obtain ⟨c,hc,h1⟩:=Q1 hn0 hn hG hb
    obtain ⟨y,hy,e⟩:=inC_iff.1 h1;exact ⟨c,hc,y,hy,by rw [he c hc];exact e⟩
theorem QM (hp:0<p)(hH:∀ i,i<n->∀ j,j<n->r i j<p)(i j k:Nat):tT n M r i j k<p:=by
  unfold tT;split
  . rename_i h;exact hH i h.1 j h.2.1
  . exact hp
theorem N9 (hG:TabP n M)(hn:n<=6)(i j k:Nat)(h:n<=i\/n<=j\/n<=k):tT n M r i j k=0:=by
  unfold tT
  rw [if_neg];rintro ⟨hi,hj,rfl⟩;have:=hG.c hn hi hj
  omega
theorem Qf (hn0:0<n)(hn:n<=6)(hG:TabP n M)(hC:Cs p n M r)(hH:∀ i,i<n->∀ j,j<n->r i j<p):FV p n (tT n M r):=
  (N4 hn0 hn hG hC hH).ass fun i hi j hj k _=>Ja hi hj
theorem MM (hp:primeN p)(hn0:0<n)(hn:n<=6)(hG:TabP n M)(hC:Cs p n M r)(hH:∀ i,i<n->∀ j,j<n->r i j<p):UnitI p n (tT n M r) (fun c=>if c=0 then 1 else 0):=
  (N4 hn0 hn hG hC hH).unit hp (fun i hi j hj k _=>Ja hi hj) (by rw [hC.2];exact ⟨0,by simp⟩)
theorem PV (hn0:0<n)(hn:n<=6)(hG:TabP n M):Mono p n (ER p n (tT n M r) (fun c=>if c=0 then 1 else 0)) (fun i c=>M i c=0) (fun i=>r i (iv M n i)):=by
  have e:∀ i c,c<n->ER p n (tT n M r) (fun c=>if c=0 then 1 else 0) i c=tT n M r i c 0%p:=fun i c hc=>by
    unfold ER
    rw [if_pos hc];have:∀ k,k<6->tT n M r i c k*(fun c=>if c=0 then 1 else 0) k=(if k=0 then 1 else 0)*(fun k=>tT n M r i c k) k:=fun k _=>Nat.mul_comm _ _;rw [Jb this,LZ (F:=fun k=>tT n M r i c k) (by omega)]
  refine ⟨fun i hi c hc=>?_,fun i hi c hc=>if_neg (by omega),fun i hi=>⟨iv M n i,JJ hG hi,RM hG hi⟩,fun i hi c hc d hd h1 h2=>?_,fun i hi c hc h=>?_⟩
  . rw [e i c hc]
    show (if i<n/\c<n/\0=M i c then r i c else 0)%p=_
    by_cases q:M i c=0
    . have h1:=(Hr hn0 hn hG hi hc hn0).1 q
      rw [RR hn0 hn hG (JJ hG hi)] at h1;rw [if_pos q,if_pos ⟨hi,hc,q.symm⟩,h1]
    . rw [if_neg q,if_neg fun r=>q r.2.2.symm];exact Nat.zero_mod _
  . rw [(Hr hn0 hn hG hi hc hn0).1 h1,(Hr hn0 hn hG hi hd hn0).1 h2]
  . have h1:=(Hr hn0 hn hG hi hc hn0).1 h
    rw [RR hn0 hn hG (JJ hG hi)] at h1;rw [h1];exact RN hn0 hn hG hi
theorem PW (hp:primeN p)(hn0:0<n)(hn:n<=6)(hG:TabP n M)(hC:Cs p n M r)(hH:∀ i,i<n->∀ j,j<n->r i j<p):Mx p n (tT n M r) (fun c=>if c=0 then 1 else 0):=
  ((PV hn0 hn hG).frob hp hn).2 fun i hi=>by
    have hi2:=JJ hG hi
    rw [Nat.mod_eq_of_lt (hH i hi _ hi2)];exact (hC.1 i hi _ hi2).1
end
theorem OU {p a b:Nat}(h:(p:Int)∣(a:Int) - (b:Int))(ha:a<p)(hb:b<p):a=b:=by
  have h6:=(Int.emod_eq_emod_iff_emod_sub_eq_zero).2 (Int.emod_eq_zero_of_dvd h);rw [Int.emod_eq_of_lt (by omega) (by omega),Int.emod_eq_of_lt (by omega) (by omega)] at h6
  omega
theorem K8 {p n:Nat}{U:Nat->Nat->Nat->Nat}(x y:Nat->Nat):EqP p n (ci (timesS p n U x y)) (Pr n U (ci x) (ci y)):=fun c hc=>by
  show (p:Int)∣(timesS p n U x y c:Int) - _
  unfold timesS;rw [if_pos hc];exact LX
theorem Qb (i:Nat):ci (fun c=>if c=i then 1 else 0)=fun c=>(dl i c:Int):=funext fun c=>by unfold ci;exact congrArg (fun q:Nat=>(q:Int)) QY
theorem Q9 {p n:Nat}{S:Nat->Nat->Nat->Nat}(hn:n<=6)(h:FV p n S)(hp:0<p)(ho:∀ i j k,n<=k->S i j k=0):Rk p n S:=fun i hi j hj k hk c hc=>by
  by_cases q:c<n
  . refine OU (K9 (K8 _ _ c q) (K9 ?_ (QG (K8 _ _ c q)))) (by unfold timesS timesV;rw [if_pos q];exact Nat.mod_lt _ hp) (by unfold timesS timesV;rw [if_pos q];exact Nat.mod_lt _ hp)
    rw [Qb,Qb]
    have e1:Pr n S (ci (S i j)) (fun c=>(dl k c:Int)) c=sI (fun a=>(S i j a:Int)*(S a k c:Int)) n:=by
      rw [Hu];exact Ar fun a _=>congrArg _ (Le hk)
    have e2:Pr n S (fun c=>(dl i c:Int)) (ci (S j k)) c=sI (fun b=>(S j k b:Int)*(S i b c:Int)) n:=Rd i hi _ c;rw [e1,e2];exact h i hi j hj k hk c q
  . unfold timesS;rw [if_neg q,if_neg q]
theorem Qr {p n:Nat}{S:Nat->Nat->Nat->Nat}{g u:Nat->Nat}(hP:Ae (p:Int))(hp:primeN p)(hn0:0<n)(hn:n<=6)(hH:∀ i j k,S i j k<p)(ho:∀ i j k,n<=i\/n<=j\/n<=k->S i j k=0)(hg:okV (p:Int) (n:Int) g)(ha:FV p n S)(hu:UnitI p n S u):QJ (p:Int) (n:Int) S g:=by
  refine ⟨⟨hP,⟨by omega,by omega⟩,hg,fun i _ j _ k _=>?_⟩,?_⟩
  . have h1:=hH i j k
    unfold JE
    rintro (h | ⟨h,h2⟩)
    . omega
    . refine h2 (ho i j k ?_)
      by_cases r:(i:Int)≥(n:Int)\/(j:Int)≥(n:Int)
      . omega
      . rw [if_neg r] at h;omega
  . show RC p n (trunc n S)
    have e:trunc n S=S:=funext fun i=>funext fun j=>funext fun k=>by
      unfold trunc
      by_cases q:i<n/\j<n/\k<n
      . rw [if_pos q]
      . rw [if_neg q,ho i j k (by omega)]
    rw [e];exact ⟨Q9 hn ha (by have:=hp.two;omega) (fun i j k h=>ho i j k (.inr (.inr h))),u,hu⟩
theorem Qg {p n:Nat}{M r:Nat->Nat->Nat}(hP:Ae (p:Int))(hp:primeN p)(hn0:0<n)(hn:n<=6)(hG:TabP n M)(hC:Cs p n M r)(hH:∀ i,i<n->∀ j,j<n->r i j<p):QJ (p:Int) (n:Int) (tT n M r) (fun c=>if c=0 then 1 else 0):=by
  have hp2:=hp.two;refine Qr hP hp hn0 hn (QM (by omega) hH) (N9 hG hn) (fun i hi=>?_) (Qf hn0 hn hG hC hH) (MM hp hn0 hn hG hC hH)
  unfold JE
  split<;>omega
theorem Kd:∀ (v0:Nat->Nat) (w:World),(Instr.buildSlice 49 1 #[(0,.agg (Af v0))]).run Try.prog w = .ok (.slice (some ⟨w.heap.size,0,none⟩) 1 1) (w.alloc (.cells (KQ 1 (KR [v0])) 32)):=by intros;kernel_rfl
theorem Nw:OF Try.prog 49=some (32,some (.agg (BH 6 (fun _=>.int .u8 (0)))),6,6):=by kernel_rfl
theorem I1:∀ (x:Option Addr) (n c:Nat) (w:World),(Instr.buildSlice 67 1 #[(0,.slice x n c)]).run Try.prog w = .ok (.slice (some ⟨w.heap.size,0,none⟩) 1 1) (w.alloc (.cells #[.slice x n c] 22)):=by intros;kernel_rfl
theorem isLd_succ {q c:Nat}{ld:Nat->Nat}:Bx (q+1) ld c↔Bx q ld c\/ld q=c:=by
  constructor
  . rintro ⟨i,hi,e⟩
    by_cases h:i=q
    . subst h;exact .inr e
    . exact .inl ⟨i,by omega,e⟩
  . rintro (⟨i,hi,e⟩ | e)
    . exact ⟨i,by omega,e⟩
    . exact ⟨q,by omega,e⟩
def Gt (q:Nat) (ld:Nat->Nat):Array Value:=BH 6 (fun c=>.bool (decide (Bx q ld c)))
theorem FF {q:Nat}{ld:Nat->Nat}:(Gt q ld).size=6:=BZ _ _
theorem Og {ld:Nat->Nat}:BH 6 (fun _=>.bool false)=Gt 0 ld:=BL fun c hc=>congrArg Value.bool (decide_eq_false (fun ⟨i,hi,_⟩=>absurd hi (by omega))).symm
theorem Py {q o:Nat}{ld:Nat->Nat}(ho:o=ld q):(Gt q ld).setIfInBounds o (.bool true)=Gt (q+1) ld:=by
  subst ho;refine Ce fun c hc=>?_
  by_cases e:c=ld q
  . rw [if_pos e];exact congrArg Value.bool (decide_eq_true (isLd_succ.2 (.inr e.symm)))
  . rw [if_neg e];exact congrArg Value.bool (decide_eq_decide.2 (isLd_succ.trans ⟨fun h=>h.elim id (fun h2=>absurd h2.symm e),.inl⟩))
theorem Pz {q o c:Nat}{ld:Nat->Nat}(h:o=c)(hc:c<6):(Gt q ld)[o]? = some (.bool (decide (Bx q ld c))):=by subst h;exact B3 hc
theorem Kj {p c d:Nat}{E:Nat->Nat->Nat}{ld:Nat->Nat}:sol p E 0 ld c d=if d=c then 1 else 0:=by
  unfold sol;split
  . rfl
  . rfl
theorem OC {p N k q c:Nat}{E:Nat->Nat->Nat}{ld:Nat->Nat}(h:Rref p N E k ld)(hq:q<k)(hf:¬ Bx k ld c)(d:Nat)(hd:d≠ld q):sol p E (q+1) ld c d=sol p E q ld c d:=by
  have e:Cw (q+1) ld d=Cw q ld d:=by rw [JG,if_neg (fun e=>hd e.symm)];simp
  unfold sol
  rw [e]
theorem Qj {p N k q c:Nat}{E:Nat->Nat->Nat}{ld:Nat->Nat}(h:Rref p N E k ld)(hq:q<k)(hf:¬ Bx k ld c):sol p E (q+1) ld c (ld q)=(p - E q c)%p:=by
  have hJ:ld q≠c:=fun e=>hf ⟨q,hq,e⟩
  unfold sol
  rw [if_neg hJ,JG];have:Cw q ld (ld q)=none:=by
    cases h2:Cw q ld (ld q) with
    | none=>rfl
    | some j=>have:=CG h2;have:=h.mono j q this.1 hq;omega
  rw [this];simp
theorem OD {p n k:Nat}{E S:Nat->Nat->Nat}{ld:Nat->Nat}(h:Rref p n E k ld)(hS:Iq p n E k ld S):∀ i,i<nf k ld n->∀ c,n<=c->c<6->S i c=0:=fun i hi c hc _=>by
  obtain ⟨d,hd,hf,rfl⟩:=Kr n i hi
  rw [hS d hd hf c]
  unfold sol
  rw [if_neg (by omega)]
  cases h2:Cw k ld c with
  | none=>rfl
  | some j=>have:=CG h2;have:=h.lt j this.1;omega
theorem Fa {Q:Nat->Prop}{b0 m:Nat}{γ:Nat->Nat}(h0:Q b0)(hr:∀ i,i<m->Q (γ i)):∀ y∈BJ b0 m γ,Q y:=fun y hy=>by
  rcases List.mem_cons.1 hy with rfl | hy
  . exact h0
  . obtain ⟨i,hi,rfl⟩:=List.mem_map.1 hy
    exact hr i (List.mem_range.1 hi)
theorem Ko {w0 w w':World}{size m:Nat}{f:Nat->Value}{u:Value}(hs:w0.heap.size<=w.heap.size)(h:OwnSl size w m f u w'):OwnSl size w0 m f u w':=by
  obtain ⟨b,cap,cs,h1,h2,h3⟩:=h;exact ⟨b,cap,cs,h1,Nat.le_trans hs h2,h3⟩
theorem Na {M:Nat->Nat}:(BH 6 (fun c=>.int .u8 (M c:Int))).extract 0 (0+6)=Af M:=C0 rfl (by rw [BZ];decide) fun q hq=>by rw [Nat.zero_add];exact B3 hq
theorem Ig (n b0 c0:Nat)(cs0:Array Value)(D0:Al)(β:Nat->Nat)(M:Nat->Nat->Nat)(w:World)(hn0:0<n)(hn:n<=6)(hD0:∀ b cs,(b,cs)∈D0->Blk w b cs)(hb0:(b0,cs0)∈D0)(hg0:∀ i,i<n->cs0[0+i*1]? = some (.slice (some ⟨β i,0,none⟩) 6 6))(hB:∀ i,i<n->(β i,BH 6 (fun c=>.int .u8 (M i c:Int)))∈D0) :
    CallsR Try.prog 65 #[.slice (some ⟨b0,0,none⟩) n c0] w (fun u w'=>OwnSl 6 w n (fun c=>.int .u8 (M (c / 6) (c%6):Int)) u w'):=by
  refine AQ [.slice (some ⟨b0,0,none⟩) n c0] Try.func65 rfl Try.ntmps65 rfl fun a O=>?_;have I:AR w w [none,none] D0:=MemX.startD w 2 _ hD0;change Fr 20 a [(0,.slice (some ⟨b0,0,none⟩) n c0)] at O;refine sr<|ag O rfl rfl fun a O=>ns<|ag O rfl rfl fun a O=>nt<|sq<|sr<|mv O rfl rfl fun a O=>st O (BY Cg O rfl) rfl fun a O=>mv O rfl rfl fun a O=>nt<|wp_block ?_;change AR w _ [none,none] D0 at I;refine Ag (fun (kk:Nat) a w'=>kk<=n/\(True)/\∃ (u3_1:Value) (e3_1:Option (Nat×Array Value)),Sl 6 u3_1 e3_1 (kk) (fun c=>.int .u8 (M (c / 6) (c%6):Int))/\Fr 20 a [(2,.slice none 0 0),(6,.slice (some ⟨b0,0,none⟩) n c0),(7,.int .i64 (n:Int)),(8,.int .i64 (kk:Int)),(3,u3_1)]/\AR w w' [none,e3_1] D0) (fun kk=>n - kk) 0 ?_ ?_
  . refine ⟨by omega,trivial,(.slice none 0 0),(none),(Sl.nil 6 _),O.sub _ (by repeat' constructor),?_⟩
    exact I
  clear O I;rintro gj a w' ⟨hgj,hinv1,u3_1,e3_1,hslj,O,I⟩;refine sr<|st O (Ak O rfl rfl) rfl fun a O=>nt<|sq<|AI O rfl (fun h1=>?_) (fun h1=>?_)
  . refine wp_skip ?_
    refine tN<|sq<|wp_block<|sr<|st O (AJ (i:=gj) Bv O rfl rfl rfl (by omega)) rfl fun a O=>st O (AM Bk O rfl (I.fzm hb0) (hg0 (gj) (by omega))) rfl fun a O=>ag O rfl rfl fun a O=>nt<|wp_region_lit<|mv O rfl rfl fun a O=>mv O rfl rfl fun a O=>st O (Mf F9 O rfl (by omega)) rfl fun a O=>st O (AF Bc O rfl (I.fzm (hB (gj) (by omega))) (by rw [BZ];decide) Na) rfl fun a O=>Aj O (BK (vs:=[(0,.agg (Af (M (gj))))]) 0 I O (C2 O rfl) (fun w=>Kd (M (gj)) w)) rfl ?_;rintro _ w' a ⟨b2,rfl,I,-⟩ O;change AR w w' [some (b2,KQ 1 (KR [(M (gj))])),e3_1] D0 at I;refine Aj O (B5 (k:=1) (N:=gj) (m:=1) (f:=(fun c=>.int .u8 (M (c / 6) (c%6):Int))) (g:=fun q=>.int .u8 (((((M (gj))) q:Nat)):Int)) Nw rfl (by decide) I rfl O rfl rfl hslj (fun q hq=>((I.row 0 rfl).cell _).trans (M7 q hq)) (fun _ _=>rfl) (by decide) (by unfold maxLen;omega) (by omega)) rfl ?_;rintro u3 w' a ⟨e4,I,hs5⟩ O;change AR w w' [some (b2,KQ 1 (KR [(M (gj))])),e4] D0 at I;refine ag O rfl rfl fun a O=>wpList_nil<|iN<|tN<|wp_region_lit<|st O (Ac O rfl rfl (AN (gj) (1) (by omega))) rfl fun a O=>mv O rfl rfl fun a O=>wpList_nil<|tN ?_;have I:=I.drop 0;refine ⟨gj+1,⟨by omega,trivial,(u3),(e4),(Sl.snoc6 (N:=gj) (F:=(fun c=>.int .u8 (M (c / 6) (c%6):Int))) (G:=fun q=>.int .u8 (M gj q:Int)) hs5 (fun q hq=>by rw [show (gj*6+q) / 6=gj by omega,show (gj*6+q)%6=q by omega])),O.sub _ (by repeat' constructor),?_⟩,by omega⟩;exact I
  obtain rfl:n=gj:=by omega
  refine wp_exit<|tX<|tX<|AW<|tN<|sr<|mv O rfl rfl fun a O=>ag O rfl rfl fun a O=>nt<|wp_ret<|Ap rfl O.defers (AE O rfl) ⟨_,rfl,I.below,?_⟩;exact OwnSl.pos I (k:=1) rfl (hslj) hn0
theorem Kx (p n m b0 c0:Nat)(cs0:Array Value)(γ:Nat->Nat)(M:Nat->Nat->Nat)(w:World)(hp:primeN p)(hn0:0<n)(hn:n<=6)(hm2:m<1000)(hmc:m<=c0)(hM1:∀ i c,M i c<p)(hM0:∀ i,i<m->∀ c,n<=c->c<6->M i c=0)(hb0:Blk w b0 cs0)(hsz0:m<=cs0.size)(hg0:∀ i,i<m->cs0[0+i*1]? = some (.slice (some ⟨γ i,0,none⟩) 6 6))(hbr:∀ i,i<m->Blk w (γ i) (BH 6 (fun c=>.int .u8 (M i c:Int))))(hinj:∀ i j,i<m->j<m->γ i=γ j->i=j)(hne0:∀ i,i<m->γ i≠b0)(hJ:∀ k E ld,Rref p n E k ld->(∀ x,Ker p n E k x↔Ker p n M m x)->0<nf k ld n)(hpos:∀ r V,IsKer p n M m r V->0<r) :
    CallsX Try.prog (BJ b0 m γ) 42 #[.slice (some ⟨b0,0,none⟩) m c0,.int .i64 (n:Int),.int .i64 (p:Int)] w (fun u w'=>∃ r V,IsKer p n M m r V/\(∀ i,i<r->∀ c,n<=c->c<6->V i c=0)/\r<=n/\OwnSl 6 w r (fun c=>.int .u8 (V (c / 6) (c%6):Int)) u w'):=by
  refine B0 [.slice (some ⟨b0,0,none⟩) m c0,.int .i64 (n:Int),.int .i64 (p:Int)] Try.func42 rfl Try.ntmps42 rfl fun a O=>?_;have hp2:=hp.two;have hp13:=hp.le;have I:MemX (BJ b0 m γ) w w [none,none,none,none] (Cc b0 cs0 6 m γ M):=MemX.startXD _ w 4 _ (D9 hb0 hbr);change Fr 68 a [(0,.slice (some ⟨b0,0,none⟩) m c0),(1,.int .i64 (n:Int)),(2,.int .i64 (p:Int))] at O;refine sr<|ag O rfl rfl fun a O=>ns<|mv O rfl rfl fun a O=>mv O rfl rfl fun a O=>Aj O (Am Try.call62 O (.cons rfl (.cons rfl .nil)) (Dh p 6 m b0 c0 cs0 γ M _ hp (by omega) (by omega) (by omega) hmc hM1 (I.fzm EA) hsz0 hg0 (fun i hi=>I.fzm (DP hi)) hinj hne0)) rfl ?_;rintro _ w' a ⟨hx,k,E,γ',ld,cs',rfl,hkm,hE,hKer,hE1,hb0',hg0',hbr',hgX'⟩ O;have I:=I.swapD (D':=(Cc b0 cs' 6 m γ' E)) hx Km (fun y hy=>.inr hy) (D9 ⟨hb0',.inr (List.mem_cons_self ..)⟩ (fun i hi=>⟨hbr' i hi,hgX' i hi⟩));refine ag O rfl rfl fun a O=>nt<|sq ?_;obtain ⟨hEn,hKn,hEz⟩:=Kl hp hn hM1 hM0 hE hKer;have hRm:∀ x∈(Cc b0 cs' 6 m γ' E),x∈(Cc b0 cs' 6 m γ' E):=fun _ h=>h;have hnf:=hJ k E ld hEn hKn;have hnfn:=OT (k:=k) (ld:=ld) n;refine wp_region_lit<|Aj O (Ax 0 I Hv) rfl ?_;rintro _ w' a ⟨b1,rfl,I,-⟩ O;refine nt<|sq<|sr<|mv O rfl rfl fun a O=>st O (BY Cg O rfl) rfl fun a O=>mv O rfl rfl fun a O=>nt<|wp_block ?_;change MemX (BJ b0 m γ) w _ [some (b1,BH 6 (fun _=>.bool (false))),none,none,none] (Cc b0 cs' 6 m γ' E) at I;refine Ag (fun (kk:Nat) a w'=>kk<=k/\(True)/\Fr 68 a [(1,.int .i64 (n:Int)),(2,.int .i64 (p:Int)),(6,.slice none 0 0),(7,.slice (some ⟨b0,0,none⟩) k c0),(8,ptr b1 (0)),(19,.slice (some ⟨b0,0,none⟩) k c0),(20,.int .i64 (k:Int)),(21,.int .i64 (kk:Int))]/\MemX (BJ b0 m γ) w w' [some (b1,Gt kk ld),none,none,none] (Cc b0 cs' 6 m γ' E)) (fun kk=>k - kk) 0 ?_ ?_
  . refine ⟨by omega,trivial,O.sub _ (by repeat' constructor),?_⟩
    exact I.rowc 0 rfl Og
  clear O I;rintro gi a w' ⟨hgi,hinv1,O,I⟩;have hlg:gi<k->ld gi<n:=fun h=>hEn.lt gi h;refine sr<|st O (Ak O rfl rfl) rfl fun a O=>nt<|sq<|AI O rfl (fun h2=>?_) (fun h2=>?_)
  . refine wp_skip ?_
    refine tN<|sq<|wp_block<|sr<|st O (AJ (i:=gi) Bv O rfl rfl rfl (by omega)) rfl fun a O=>st O (AM Bk O rfl (I.fzm (hRm _ EA)) (hg0' (gi) (by omega))) rfl fun a O=>ag O rfl rfl fun a O=>nt<|wp_region_lit<|mv O rfl rfl fun a O=>Aj O (AO Try.call64 O (.cons rfl .nil) ((Da (γ' (gi)) (6) (I.fzm (hRm _ (DP (show gi<m by omega)))) (fun i hi=>CL i (by omega) hi rfl) (by omega) hE (i:=gi) (by omega)))) rfl ?_;rintro _ w' a ⟨hx,rfl⟩ O;have I:=I.ext hx;refine st O (AH EV O rfl rfl rfl (by omega)) rfl fun a O=>Bu O (BE 0 I rfl FX O rfl rfl rfl (by first | omega | (simp only [AT,AA,Ea,Bi,Bo,FE,AG,EZ,EY,FM,GC,FF]<;>omega) | (simp only [Array.size_setIfInBounds];omega) | simp)) ?_;intro _ w' a I O;change MemX _ _ _ [some (b1,(Gt gi ld).setIfInBounds (0+(ld (gi))*1) (.bool (true))),_,_,_] _ at I;refine wpList_nil<|iN<|tN<|wp_region_lit<|st O (Ac O rfl rfl (AN (gi) (1) (by omega))) rfl fun a O=>mv O rfl rfl fun a O=>nt<|⟨gi+1,⟨by omega,trivial,O.sub _ (by repeat' constructor),?_⟩,by omega⟩;exact I.rowc 0 rfl (Py (by omega))
  obtain rfl:k=gi:=by omega
  refine wp_exit<|tX<|tX<|AW<|tN<|sr<|ag O rfl rfl fun a O=>nt<|sq<|sr<|mv O rfl rfl fun a O=>mv O rfl rfl fun a O=>nt<|wp_block ?_;change MemX _ _ _ [_,_,_,_] _ at I;refine Ag (fun (kk:Nat) a w'=>kk<=n/\∃ (D2:Al),∃ (β2:Nat->Nat),∃ (S:Nat->Nat->Nat),(RowsB D2 6 (nf k ld kk) β2 S/\Iq p kk E k ld S/\(∀ i c,S i c<p)/\(∀ x∈(Cc b0 cs' 6 m γ' E),x∈D2)/\∀ i,i<nf k ld kk->w.heap.size<=β2 i\/β2 i∈(BJ b0 m γ))/\∃ (u11_2:Value) (e11_2:Option (Nat×Array Value)),Sl 1 u11_2 e11_2 (nf k ld kk) (fun i=>.slice (some ⟨β2 i,0,none⟩) 6 6)/\Fr 68 a [(1,.int .i64 (n:Int)),(2,.int .i64 (p:Int)),(6,.slice none 0 0),(7,.slice (some ⟨b0,0,none⟩) k c0),(8,ptr b1 (0)),(19,.slice (some ⟨b0,0,none⟩) k c0),(20,.int .i64 (k:Int)),(21,.int .i64 (k:Int)),(22,.bool (decide (((k:Int):Int)<(k:Int)))),(29,.int .i64 (n:Int)),(30,.int .i64 (kk:Int)),(11,u11_2)]/\MemX (BJ b0 m γ) w w' [some (b1,Gt k ld),none,none,e11_2] D2) (fun kk=>n - kk) 0 ?_ ?_
  . refine ⟨by omega,(Cc b0 cs' 6 m γ' E),(fun _=>0),(fun _ _=>0),⟨RowsB.none,NH,fun _ _=>(by show 0<p;omega),fun _ h=>h,fun i hi=>absurd hi (by rw [nf];omega)⟩,(.slice none 0 0),(none),Sl.nil 1 _,O.sub _ (by repeat' constructor),?_⟩
    exact I
  clear O I;rintro gc a w' ⟨hgc,D2,β2,S,⟨hB2,hS,hSp,hRm2,hO⟩,u11_2,e11_2,hU,O,I⟩;have hRm:=hRm2;have hncf:=OT (k:=k) (ld:=ld) gc;refine sr<|st O (Ak O rfl rfl) rfl fun a O=>nt<|sq<|AI O rfl (fun h3=>?_) (fun h3=>?_)
  . refine wp_skip ?_
    refine tN<|sq<|wp_block<|sr<|mv O rfl rfl fun a O=>ag O rfl rfl fun a O=>nt<|sq<|sr<|mv O rfl rfl fun a O=>st O (AH EV O rfl rfl rfl (by omega)) rfl fun a O=>st O (AM FX O rfl (I.row 0 rfl) (Pz (c:=gc) (by omega) (by omega))) rfl fun a O=>nt<|AI O rfl (fun h4=>?_) (fun h4=>?_)
    . have hl:Bx k ld gc:=h4
      refine wp_exit<|tX<|AW<|tN<|wp_region_lit<|st O (Ac O rfl rfl (AN (gc) (1) (by omega))) rfl fun a O=>mv O rfl rfl fun a O=>nt<|⟨gc+1,⟨by omega,D2,β2,S,(by first | exact ⟨by rw [Er hl];exact hB2,I9 hS hl,hSp,hRm2,by rw [Er hl];exact hO⟩ | exact ⟨by rw [EO hl];exact hB3,JA hS,I0 hSp (fun _=>La hp2),fun x hx=>List.mem_cons_of_mem _ (hRm2 x hx),fun i hi=>by rw [EO hl] at hi;unfold up;split;exact hgN;exact hO i (by omega)⟩),(u11_2),(e11_2),(by first | (rw [EO hl];exact hU) | (rw [Er hl];exact hU)),O.sub _ (by repeat' constructor),?_⟩,by omega⟩;exact I
    have hl:¬ Bx k ld gc:=h4;refine wp_skip<|tN<|sr<|Aj O (GR (len:=6) 1 I O rfl rfl El) rfl ?_;rintro _ w' a ⟨b5,rfl,I,-⟩ O;change MemX _ _ _ [_,some (b5,BH 6 (fun _=>.int .u8 (0))),_,_] _ at I;refine ag O rfl rfl fun a O=>ns<|mv O rfl rfl fun a O=>mv O rfl rfl fun a O=>st O (AJ (i:=gc) Bj O rfl rfl rfl (by omega)) rfl fun a O=>Bu O (BE 1 I rfl Ah O rfl rfl rfl (by first | omega | (simp only [AT,AA,Ea,Bi,Bo,FE,AG,EZ,EY,FM,GC,FF]<;>omega) | (simp only [Array.size_setIfInBounds];omega) | simp)) ?_;intro _ w' a I O;refine nt<|sq<|sr<|mv O rfl rfl fun a O=>st O (BY Cg O rfl) rfl fun a O=>mv O rfl rfl fun a O=>nt<|wp_block ?_;change MemX _ _ _ [_,some (b5,(BH 6 (fun _=>.int .u8 (0))).setIfInBounds (0+(gc)*1) (.int .u8 (1))),_,_] _ at I;refine Ag (fun (kk:Nat) a w'=>kk<=k/\(True)/\Fr 68 a [(1,.int .i64 (n:Int)),(2,.int .i64 (p:Int)),(6,.slice none 0 0),(7,.slice (some ⟨b0,0,none⟩) k c0),(8,ptr b1 (0)),(19,.slice (some ⟨b0,0,none⟩) k c0),(20,.int .i64 (k:Int)),(21,.int .i64 (k:Int)),(22,.bool (decide (((k:Int):Int)<(k:Int)))),(29,.int .i64 (n:Int)),(30,.int .i64 (gc:Int)),(11,u11_2),(31,.bool (decide (((gc:Int):Int)<(n:Int)))),(32,.int .i64 (gc:Int)),(12,.int .i64 (gc:Int)),(33,.int .i64 (gc:Int)),(34,ptr b1 (0+(gc)*1)),(35,.bool (decide (Bx k ld (gc)))),(36,.slice (some ⟨b5,0,none⟩) 6 6),(13,.slice (some ⟨b5,0,none⟩) 6 6),(37,.slice (some ⟨b5,0,none⟩) 6 6),(38,.int .i64 (gc:Int)),(39,ptr b5 (0+(gc)*1)),(40,.slice (some ⟨b0,0,none⟩) k c0),(41,.int .i64 (k:Int)),(42,.int .i64 (kk:Int))]/\MemX (BJ b0 m γ) w w' [some (b1,Gt k ld),some (b5,EJ 6 (sol p E kk ld gc)),none,e11_2] D2) (fun kk=>k - kk) 0 ?_ ?_
    . refine ⟨by omega,trivial,O.sub _ (by repeat' constructor),?_⟩
      exact I.rowc 1 rfl (J3 (m:=6) (k:=gc) (f:=fun _=>0) (g:=sol p E 0 ld gc) (by omega) (by rw [Kj,if_pos rfl];rfl) (fun c hc he=>by rw [Kj,if_neg he]))
    clear O I;rintro gq a w' ⟨hgq,hinv3,O,I⟩;have hlg2:gq<k->ld gq<n:=fun h=>hEn.lt gq h;have hEb:=hE1 gq gc;refine sr<|st O (Ak O rfl rfl) rfl fun a O=>nt<|sq<|AI O rfl (fun h6=>?_) (fun h6=>?_)
    . refine wp_skip ?_
      refine tN<|sq<|wp_block<|sr<|st O (AJ (i:=gq) Bv O rfl rfl rfl (by omega)) rfl fun a O=>st O (AM Bk O rfl (I.fzm (hRm _ EA)) (hg0' (gq) (by omega))) rfl fun a O=>ag O rfl rfl fun a O=>wpList_nil<|tN ?_;refine CQ (S:=fun (b:Bool) w2=>MemX (BJ b0 m γ) w w2 [some (b1,Gt k ld),some (b5,if b then (EJ 6 (sol p E gq ld gc)).setIfInBounds (0+(ld gq)*1) (.int .u8 ((((p - E (gq) (gc))%p:Nat):Int))) else EJ 6 (sol p E gq ld gc)),none,e11_2] D2) 13 12 Bb rfl rfl rfl O rfl (fun j o hj hJ=>BQ (s:=12) (i:=0) rfl j o hj (by omega)) I (fun b w h=>h.ext (Below.drew (Below.refl _ _))) (KS [.slice (some ⟨b5,0,none⟩) 6 6,.slice (some ⟨γ' (gq),0,none⟩) 6 6,.int .i64 ((ld (gq):Int)),.slice (some ⟨γ' (gq),0,none⟩) 6 6,.int .i64 (gc:Int),ptr (γ' (gq)) (0+(gc)*1),.int .u8 ((E (gq) (gc):Int)),.int .i64 ((E (gq) (gc):Int)),.int .i64 (-((E (gq) (gc):Int))),.int .i64 (p:Int),.int .u8 ((((p - E (gq) (gc))%p:Nat):Int)),ptr b5 (0+(ld (gq))*1),undef]) ⟨fun a w2 b O hS hb hd=>by exact AU (S:=fun (b:Bool) w2=>MemX (BJ b0 m γ) w w2 [some (b1,Gt k ld),some (b5,if b then (EJ 6 (sol p E gq ld gc)).setIfInBounds (0+(ld gq)*1) (.int .u8 ((((p - E (gq) (gc))%p:Nat):Int))) else EJ 6 (sol p E gq ld gc)),none,e11_2] D2) hS (AS O rfl),fun a w2 b O hS hb hd=>by exact AU (S:=fun (b:Bool) w2=>MemX (BJ b0 m γ) w w2 [some (b1,Gt k ld),some (b5,if b then (EJ 6 (sol p E gq ld gc)).setIfInBounds (0+(ld gq)*1) (.int .u8 ((((p - E (gq) (gc))%p:Nat):Int))) else EJ 6 (sol p E gq ld gc)),none,e11_2] D2) hS (AS O rfl),fun a w2 b O hS hb hd=>by have O:=O.ext1 47 (hd 1 rfl rfl rfl);have I:=hS;exact JC (S:=fun (b:Bool) w2=>MemX (BJ b0 m γ) w w2 [some (b1,Gt k ld),some (b5,if b then (EJ 6 (sol p E gq ld gc)).setIfInBounds (0+(ld gq)*1) (.int .u8 ((((p - E (gq) (gc))%p:Nat):Int))) else EJ 6 (sol p E gq ld gc)),none,e11_2] D2) (fun _ hx=>hS.ext hx) (AO Try.call64 O (.cons rfl .nil) ((Da (γ' (gq)) (6) (I.fzm (hRm _ (DP (show gq<m by omega)))) (fun i hi=>CL i (by omega) hi rfl) (by omega) hE (i:=gq) (by omega)))),fun a w2 b O hS hb hd=>by exact AU (S:=fun (b:Bool) w2=>MemX (BJ b0 m γ) w w2 [some (b1,Gt k ld),some (b5,if b then (EJ 6 (sol p E gq ld gc)).setIfInBounds (0+(ld gq)*1) (.int .u8 ((((p - E (gq) (gc))%p:Nat):Int))) else EJ 6 (sol p E gq ld gc)),none,e11_2] D2) hS (AS O rfl),fun a w2 b O hS hb hd=>by exact AU (S:=fun (b:Bool) w2=>MemX (BJ b0 m γ) w w2 [some (b1,Gt k ld),some (b5,if b then (EJ 6 (sol p E gq ld gc)).setIfInBounds (0+(ld gq)*1) (.int .u8 ((((p - E (gq) (gc))%p:Nat):Int))) else EJ 6 (sol p E gq ld gc)),none,e11_2] D2) hS (AS O rfl),fun a w2 b O hS hb hd=>by have O:=O.ext1 49 (hd 3 rfl rfl rfl);have O:=O.ext1 50 (hd 4 rfl rfl rfl);exact AU (S:=fun (b:Bool) w2=>MemX (BJ b0 m γ) w w2 [some (b1,Gt k ld),some (b5,if b then (EJ 6 (sol p E gq ld gc)).setIfInBounds (0+(ld gq)*1) (.int .u8 ((((p - E (gq) (gc))%p:Nat):Int))) else EJ 6 (sol p E gq ld gc)),none,e11_2] D2) hS (AJ (i:=gc) Bj O rfl rfl rfl (by omega)),fun a w2 b O hS hb hd=>by have O:=O.ext1 51 (hd 5 rfl rfl rfl);obtain rfl:=hb rfl;have I:MemX (BJ b0 m γ) w w2 [some (b1,Gt k ld),some (b5,EJ 6 (sol p E gq ld gc)),none,e11_2] D2:=hS;exact AU (S:=fun (b:Bool) w2=>MemX (BJ b0 m γ) w w2 [some (b1,Gt k ld),some (b5,if b then (EJ 6 (sol p E gq ld gc)).setIfInBounds (0+(ld gq)*1) (.int .u8 ((((p - E (gq) (gc))%p:Nat):Int))) else EJ 6 (sol p E gq ld gc)),none,e11_2] D2) (b:=false) hS (AM Ah O rfl (I.fzm (hRm _ (DP (show gq<m by omega)))) (CL (gc) (by omega) (by omega) rfl)),fun a w2 b O hS hb hd=>by have O:=O.ext1 52 (hd 6 rfl rfl rfl);exact AU (S:=fun (b:Bool) w2=>MemX (BJ b0 m γ) w w2 [some (b1,Gt k ld),some (b5,if b then (EJ 6 (sol p E gq ld gc)).setIfInBounds (0+(ld gq)*1) (.int .u8 ((((p - E (gq) (gc))%p:Nat):Int))) else EJ 6 (sol p E gq ld gc)),none,e11_2] D2) hS (BO Ba Bf O rfl (wrap_i64 (by omega) (by omega))),fun a w2 b O hS hb hd=>by have O:=O.ext1 53 (hd 7 rfl rfl rfl);exact AU (S:=fun (b:Bool) w2=>MemX (BJ b0 m γ) w w2 [some (b1,Gt k ld),some (b5,if b then (EJ 6 (sol p E gq ld gc)).setIfInBounds (0+(ld gq)*1) (.int .u8 ((((p - E (gq) (gc))%p:Nat):Int))) else EJ 6 (sol p E gq ld gc)),none,e11_2] D2) hS (QS O rfl (wrap_i64 (by omega) (by omega))),fun a w2 b O hS hb hd=>by exact AU (S:=fun (b:Bool) w2=>MemX (BJ b0 m γ) w w2 [some (b1,Gt k ld),some (b5,if b then (EJ 6 (sol p E gq ld gc)).setIfInBounds (0+(ld gq)*1) (.int .u8 ((((p - E (gq) (gc))%p:Nat):Int))) else EJ 6 (sol p E gq ld gc)),none,e11_2] D2) hS (AS O rfl),fun a w2 b O hS hb hd=>by have O:=O.ext1 54 (hd 8 rfl rfl rfl);have O:=O.ext1 55 (hd 9 rfl rfl rfl);exact JC (S:=fun (b:Bool) w2=>MemX (BJ b0 m γ) w w2 [some (b1,Gt k ld),some (b5,if b then (EJ 6 (sol p E gq ld gc)).setIfInBounds (0+(ld gq)*1) (.int .u8 ((((p - E (gq) (gc))%p:Nat):Int))) else EJ 6 (sol p E gq ld gc)),none,e11_2] D2) (fun _ hx=>hS.ext hx) (AO Try.call31 O (.cons rfl (.cons rfl .nil)) ((CallsR.val (EB (-((E (gq) (gc):Int))) (p) _ (by omega) (by omega) (by omega) (by omega)) (congrArg (Value.int .u8) (Pp (by omega) (by omega)))))),fun a w2 b O hS hb hd=>by have O:=O.ext1 46 (hd 0 rfl rfl rfl);have O:=O.ext1 48 (hd 2 rfl rfl rfl);exact AU (S:=fun (b:Bool) w2=>MemX (BJ b0 m γ) w w2 [some (b1,Gt k ld),some (b5,if b then (EJ 6 (sol p E gq ld gc)).setIfInBounds (0+(ld gq)*1) (.int .u8 ((((p - E (gq) (gc))%p:Nat):Int))) else EJ 6 (sol p E gq ld gc)),none,e11_2] D2) hS (AJ (i:=ld (gq)) Bj O rfl rfl rfl (by omega)),fun a w2 O hS hd=>by have O:=O.ext1 56 (hd 10 rfl rfl rfl);have O:=O.ext1 57 (hd 11 rfl rfl rfl);have I:MemX (BJ b0 m γ) w w2 [some (b1,Gt k ld),some (b5,EJ 6 (sol p E gq ld gc)),none,e11_2] D2:=hS;exact BE 1 I rfl Ah O rfl rfl rfl (by simp only [AT,AA,Ea,Bi,Bo,FE,AG,EZ,EY,FM,GC,FF]<;>omega),trivial⟩ ?_
      intro a w' O hS hq;have I:MemX (BJ b0 m γ) w w' [some (b1,Gt k ld),some (b5,(EJ 6 (sol p E gq ld gc)).setIfInBounds (0+(ld gq)*1) (.int .u8 ((((p - E (gq) (gc))%p:Nat):Int)))),none,e11_2] D2:=hS;refine wpList_nil<|iN<|tN<|wp_region_lit<|st O (Ac O rfl rfl (AN (gq) (1) (by omega))) rfl fun a O=>mv O rfl rfl fun a O=>nt<|⟨gq+1,⟨by omega,trivial,O.sub _ (by repeat' constructor),?_⟩,by omega⟩;exact I.rowc 1 rfl (J3 (m:=6) (k:=ld gq) (f:=(sol p E gq ld gc)) (g:=sol p E (gq+1) ld gc) (by omega) (congrArg Nat.cast (Qj hE (by omega) hl).symm) (fun c hc he=>OC hE (by omega) hl c he))
    obtain rfl:k=gq:=by omega
    refine wp_exit<|tX<|tX<|AW<|tN ?_;have hgN:=(I.blk 1 _ _ rfl).1;have hnb:=fun i hi=>(I.froz _ _ (hB2.mem i hi)).2 1 b5 _ rfl;have I:=I.freeze 1 rfl;have hB3:=(hB2.more (D':=(b5,EJ 6 (sol p E k ld gc))::D2) (fun x hx=>List.mem_cons_of_mem _ hx)).snoc (r:=sol p E k ld gc) rfl (List.mem_cons_self ..) hnb;refine wp_region_lit<|mv O rfl rfl fun a O=>mv O rfl rfl fun a O=>Aj O (BK 2 I O (C2 O rfl) (I1 _ _ _)) rfl ?_;rintro _ w' a ⟨b7,rfl,I,-⟩ O;change MemX (BJ b0 m γ) w w' [some (b1,Gt k ld),none,some (b7,#[.slice (some ⟨b5,0,none⟩) 6 6]),e11_2] ((b5,EJ 6 (sol p E k ld gc))::D2) at I;refine Aj O (B5 (k:=3) (m:=1) (g:=fun _=>.slice (some ⟨b5,0,none⟩) 6 6) E5 rfl (by decide) I rfl O rfl rfl hU (fun i hi=>by rw [show i=0 by omega];exact (I.row 2 rfl).cell 0) (fun _ _=>rfl) (by decide) (by unfold maxLen;omega) (by omega)) rfl ?_;rintro u8 w' a ⟨e9,I,hs10⟩ O;change MemX (BJ b0 m γ) w w' [some (b1,Gt k ld),none,some (b7,#[.slice (some ⟨b5,0,none⟩) 6 6]),e9] ((b5,EJ 6 (sol p E k ld gc))::D2) at I;refine ag O rfl rfl fun a O=>wpList_nil<|iN<|tN<|wp_region_lit<|st O (Ac O rfl rfl (AN (gc) (1) (by omega))) rfl fun a O=>mv O rfl rfl fun a O=>wpList_nil<|tN ?_;have hU:=(hs10).congr (g:=fun i=>.slice (some ⟨up β2 (nf k ld gc) b5 i,0,none⟩) 6 6) (fun i hi=>by
      by_cases e:i<nf k ld gc
      . rw [if_pos (by omega)];simp only [HU (show i≠nf k ld gc by omega)]
      . rw [if_neg (by omega),show i=nf k ld gc by omega];simp only [HV])
    have I:=I.drop 2;refine ⟨gc+1,⟨by omega,((b5,EJ 6 (sol p E k ld gc))::D2),(up β2 (nf k ld gc) b5),(upE S (nf k ld gc) (sol p E k ld gc)),(by first | exact ⟨by rw [Er hl];exact hB2,I9 hS hl,hSp,hRm2,by rw [Er hl];exact hO⟩ | exact ⟨by rw [EO hl];exact hB3,JA hS,I0 hSp (fun _=>La hp2),fun x hx=>List.mem_cons_of_mem _ (hRm2 x hx),fun i hi=>by rw [EO hl] at hi;unfold up;split;exact hgN;exact hO i (by omega)⟩),(u8),(e9),(by first | (rw [EO hl];exact hU) | (rw [Er hl];exact hU)),O.sub _ (by repeat' constructor),?_⟩,by omega⟩;exact I
  obtain rfl:n=gc:=by omega
  obtain ⟨bk,ck,csk,rfl,rfl,hsk⟩:=hU.pos hnf;have hgek:=(I.blk 3 _ _ rfl).1;have hnbk:∀ i,i<nf k ld n->β2 i≠bk:=fun i hi e=>(I.froz _ _ (hB2.mem i hi)).2 3 bk _ rfl e.symm;have I:=I.freeze 3 rfl;have hSo:=hS;have hS0:=OD hEn hS
  generalize hN2:nf k ld n=N2 at *
  have I:=I.drop 0;change MemX (BJ b0 m γ) w _ [none,none,none,none] ((bk,csk)::D2) at I;refine wp_exit<|tX<|tX<|AW<|tN<|sr<|mv O rfl rfl fun a O=>mv O rfl rfl fun a O=>Aj O (Am Try.call62 O (.cons rfl (.cons rfl .nil)) (Dh p 6 N2 bk ck csk β2 S _ hp (by omega) (by omega) (by omega) hsk.le hSp (I.fzm (List.mem_cons_self ..)) (by have:=hsk.sz;have:=hsk.le;omega) (fun i hi=>hsk.get1 i hi) (fun i hi=>I.fzm (List.mem_cons_of_mem _ (hB2.mem i hi))) hB2.inj hnbk)) rfl ?_;rintro _ w' a ⟨hx,k,E,γ',ld,cs',rfl,hkm,hE,hKer,hE1,hb0',hg0',hbr',hgX'⟩ O;have I:=I.swapD (D':=(Cc bk cs' 6 N2 γ' E)) hx (Fa (Q:=fun y=>∃ cs,(y,cs)∈(bk,csk)::D2) ⟨_,List.mem_cons_self ..⟩ (fun i hi=>⟨_,List.mem_cons_of_mem _ (hB2.mem i hi)⟩)) (fun y hy=>Fa (Q:=fun y=>w.heap.size<=y\/y∈(BJ b0 m γ)) hgek hO y hy) (D9 ⟨hb0',.inr (List.mem_cons_self ..)⟩ (fun i hi=>⟨hbr' i hi,hgX' i hi⟩));change MemX (BJ b0 m γ) w w' [none,none,none,none] (Cc bk cs' 6 N2 γ' E) at I;obtain ⟨hE2n,hK2n,hEz2⟩:=Kl hp hn hSp hS0 hE hKer;have hIK:=Kz hEn hKn hSo hE2n (by rw [hN2];exact hK2n);have hr0:=hpos _ _ hIK;have hszc:=I.bel.size;refine Aj O (AO Try.call65 O (.cons rfl .nil) (Ig k bk ck cs' (Cc bk cs' 6 N2 γ' E) γ' E _ hr0 (by omega) (fun _ _ hm=>I.fzm hm) EA (fun i hi=>hg0' i (by omega)) (fun i hi=>DP (by omega)))) rfl ?_;rintro u w' a ⟨hx,hown⟩ O;have hown2:=Ko hszc hown;have I:=I.ext hx;refine ag O rfl rfl fun a O=>nt<|wp_ret<|Ap rfl O.defers (AE O rfl) ⟨_,rfl,I.bel,?_⟩;exact ⟨_,_,hIK,hEz2,by omega,hown2⟩
theorem Ky {p n m:Nat}{M M':Nat->Nat->Nat}{x:Nat->Int}(e:∀ i,i<m->∀ c,c<n->M i c=M' i c):Ker p n M m x↔Ker p n M' m x:=
  ⟨fun q i hi=>by rw [← FL (e i hi)];exact q i hi,fun q i hi=>by rw [FL (e i hi)];exact q i hi⟩
theorem IK {p n m r:Nat}{M M' V:Nat->Nat->Nat}(e:∀ i,i<m->∀ c,c<n->M i c=M' i c)(h:IsKer p n M m r V):IsKer p n M' m r V:=by
  obtain ⟨k,E,ld,ld2,h1,h2,h3⟩:=h;exact ⟨k,E,ld,ld2,h1,fun x=>(h2 x).trans (Ky e),h3⟩
theorem LN (p n:Nat)(T:Nat->Nat->Nat->Nat)(f:Nat->Nat)(w:World)(hp:primeN p)(hn0:0<n)(hn:n<=6)(hTp:∀ i j k,T i j k<p)(hT0:∀ i j k,n<=k->T i j k=0)(hf:∀ i,f i<=255)(hc:M4 (p:Int) (n:Int) T f 0 (KR []))(hJ:∀ k E ld,Rref p n E k ld->(∀ x,Ker p n E k x↔Ker p n (eqC p n T) (n*n) x)->0<nf k ld n)(hpos:∀ r V,IsKer p n (eqC p n T) (n*n) r V->0<r) :
    CallsR Try.prog 18 #[.agg (AY (p:Int) (n:Int) T f)] w (fun v w'=>∃ r V u,IsKer p n (eqC p n T) (n*n) r V/\(∀ i,i<r->∀ c,n<=c->c<6->V i c=0)/\OwnSl 6 w r (fun c=>.int .u8 (V (c / 6) (c%6):Int)) u w'/\v = .tuple #[u,.int .i64 0]):=by
  refine AQ [.agg (AY (p:Int) (n:Int) T f)] Try.func18 rfl Try.ntmps18 rfl fun a O=>?_;have I:AR w w [none,none,none,none] []:=MemX.start w 4;change Fr 68 a [(0,.agg (AY (p:Int) (n:Int) T f))] at O;have hp2:=hp.two;have hp13:=hp.le;have hT:∀ i j k,T i j k<=255:=fun i j k=>by have:=hTp i j k;omega
  refine sr<|Aj O (Aw 0 I O rfl) rfl ?_;rintro _ w' a ⟨b1,rfl,I,-⟩ O;change AR _ _ [some (b1,AY (p:Int) (n:Int) T f),_,_,_] [] at I;refine ag O rfl rfl fun a O=>ag O rfl rfl fun a O=>nt<|sq<|sr<|st O (AF A3 O rfl (I.row 0 rfl) (by simp only [AT,AA,Ea,Bi,Bo,FE,AG,EZ,EY,FM,GC,FF]<;>omega) (whole Aq)) rfl fun a O=>Aj O (AO Try.call40 O (.cons rfl .nil) ((CallsR.val (Fq (p:Int) (n:Int) T f _ (fun _ _ _=>hT _ _ _) (fun _=>hf _)) (congrArg Value.bool (decide_eq_true hc.1))))) rfl ?_;rintro _ w' a ⟨hx,rfl⟩ O;have I:=I.ext hx;refine st O (Co (b:=true) O rfl) rfl fun a O=>nt<|CN O rfl<|wp_skip<|tN<|sr<|ag O rfl rfl fun a O=>nt<|sq<|sr<|st O (AC BG O rfl) rfl fun a O=>st O (AM AL O rfl (I.row 0 rfl) (Bn (by omega))) rfl fun a O=>mv O rfl rfl fun a O=>nt<|wp_block ?_;change AR w _ [some (b1,AY (p:Int) (n:Int) T f),none,none,none] [] at I;refine Ag (fun (kk:Nat) a w'=>kk<=n/\∃ (D1:Al),∃ (β:Nat->Nat),(RowsB D1 6 (kk*n) β (FC n (eqC p n T))/\∀ i,i<kk*n->w.heap.size<=β i)/\∃ (u4_1:Value) (e4_1:Option (Nat×Array Value)),Sl 1 u4_1 e4_1 (kk*n) (fun i=>.slice (some ⟨β i,0,none⟩) 6 6)/\Fr 68 a [(1,ptr b1 (0)),(2,.slice none 0 0),(3,.int .i64 (0)),(12,.bool (false)),(14,.int .i64 (n:Int)),(15,.int .i64 (kk:Int)),(4,u4_1)]/\AR w w' [some (b1,AY (p:Int) (n:Int) T f),none,none,e4_1] D1) (fun kk=>n - kk) 0 ?_ ?_
  . refine ⟨by omega,[],(fun _=>0),⟨by rw [Nat.zero_mul];exact RowsB.none,fun i hi=>absurd hi (by omega)⟩,(.slice none 0 0),(none),(by rw [Nat.zero_mul];exact Sl.nil 1 _),O.sub _ (by repeat' constructor),?_⟩
    exact I
  clear O I;rintro gi a w' ⟨hgi,D1,β,⟨hB,hge1⟩,u4_1,e4_1,hU,O,I⟩;have hgin:=Nat.le_trans (Nat.mul_le_mul_right n hgi) (Nat.mul_le_mul hn hn);refine sr<|st O (Ak O rfl rfl) rfl fun a O=>nt<|sq<|AI O rfl (fun h3=>?_) (fun h3=>?_)
  . refine wp_skip ?_
    refine tN<|sq<|wp_block<|sr<|mv O rfl rfl fun a O=>ag O rfl rfl fun a O=>ns<|st O (AC BG O rfl) rfl fun a O=>st O (AM AL O rfl (I.row 0 rfl) (Bn (by omega))) rfl fun a O=>mv O rfl rfl fun a O=>nt<|wp_block ?_;change AR w _ [some (b1,AY (p:Int) (n:Int) T f),none,none,e4_1] D1 at I;refine Ag (fun (kk:Nat) a w'=>kk<=n/\∃ (D2:Al),∃ (β2:Nat->Nat),(RowsB D2 6 (gi*n+kk) β2 (FC n (eqC p n T))/\∀ i,i<gi*n+kk->w.heap.size<=β2 i)/\∃ (u4_2:Value) (e4_2:Option (Nat×Array Value)),Sl 1 u4_2 e4_2 (gi*n+kk) (fun i=>.slice (some ⟨β2 i,0,none⟩) 6 6)/\Fr 68 a [(1,ptr b1 (0)),(2,.slice none 0 0),(3,.int .i64 (0)),(12,.bool (false)),(14,.int .i64 (n:Int)),(15,.int .i64 (gi:Int)),(16,.bool (decide (((gi:Int):Int)<(n:Int)))),(17,.int .i64 (gi:Int)),(5,.int .i64 (gi:Int)),(18,ptr b1 (0+1)),(19,.int .i64 (n:Int)),(20,.int .i64 (kk:Int)),(4,u4_2)]/\AR w w' [some (b1,AY (p:Int) (n:Int) T f),none,none,e4_2] D2) (fun kk=>n - kk) 0 ?_ ?_
    . refine ⟨by omega,D1,β,⟨hB,hge1⟩,(u4_1),(e4_1),hU,O.sub _ (by repeat' constructor),?_⟩
      exact I
    clear O I;rintro gk a w' ⟨hgk,D2,β2,⟨hB2,hO⟩,u4_2,e4_2,hU,O,I⟩;refine sr<|st O (Ak O rfl rfl) rfl fun a O=>nt<|sq<|AI O rfl (fun h4=>?_) (fun h4=>?_)
    . refine wp_skip ?_
      refine tN<|sq<|wp_block<|sr<|mv O rfl rfl fun a O=>ag O rfl rfl fun a O=>ns<|Aj O (GR (len:=6) 1 I O rfl rfl El) rfl ?_;rintro _ w' a ⟨b5,rfl,I,-⟩ O;change AR _ _ [_,some (b5,BH 6 (fun _=>.int .u8 (0))),_,_] _ at I;refine ag O rfl rfl fun a O=>nt<|sq<|sr<|st O (AC BG O rfl) rfl fun a O=>st O (AM AL O rfl (I.row 0 rfl) (Bn (by omega))) rfl fun a O=>mv O rfl rfl fun a O=>nt<|wp_block ?_;change AR _ _ [_,_,_,_] _ at I;refine Ag (fun (kk:Nat) a w'=>kk<=n/\(True)/\Fr 68 a [(1,ptr b1 (0)),(2,.slice none 0 0),(3,.int .i64 (0)),(12,.bool (false)),(14,.int .i64 (n:Int)),(15,.int .i64 (gi:Int)),(16,.bool (decide (((gi:Int):Int)<(n:Int)))),(17,.int .i64 (gi:Int)),(5,.int .i64 (gi:Int)),(18,ptr b1 (0+1)),(19,.int .i64 (n:Int)),(20,.int .i64 (gk:Int)),(4,u4_2),(21,.bool (decide (((gk:Int):Int)<(n:Int)))),(22,.int .i64 (gk:Int)),(6,.int .i64 (gk:Int)),(23,.slice (some ⟨b5,0,none⟩) 6 6),(7,.slice (some ⟨b5,0,none⟩) 6 6),(24,ptr b1 (0+1)),(25,.int .i64 (n:Int)),(26,.int .i64 (kk:Int))]/\AR w w' [some (b1,AY (p:Int) (n:Int) T f),some (b5,EJ 6 (fun c=>if c<kk then eqC p n T (gi*n+gk) c else 0)),none,e4_2] D2) (fun kk=>n - kk) 0 ?_ ?_
      . refine ⟨by omega,trivial,O.sub _ (by repeat' constructor),?_⟩
        exact I.rowc 1 rfl (JS (m:=6) (f:=fun _=>0) fun c hc=>by simp)
      clear O I;rintro gj a w' ⟨hgj,hinv3,O,I⟩;have htb:=hT gj gi gk;have htb2:=hT gi gj gk;refine sr<|st O (Ak O rfl rfl) rfl fun a O=>nt<|sq<|AI O rfl (fun h6=>?_) (fun h6=>?_)
      . refine wp_skip ?_
        refine tN<|sq<|wp_block<|sr<|mv O rfl rfl fun a O=>ag O rfl rfl fun a O=>nt<|sq<|Bt 18 [] [.val (.int .i64 (gj:Int)),.val (.int .i64 (gi:Int)),.val (.int .i64 (gk:Int)),.val (ptr b1 (0+2)),.val (ptr b1 (0+2+(gj)*36)),.val (ptr b1 (0+2+(gj)*36+(gi)*6)),.val (ptr b1 (0+2+(gj)*36+(gi)*6+(gk)*1)),.val (.int .u8 ((T (gj) (gi) (gk):Int))),.val (.int .i64 ((T (gj) (gi) (gk):Int))),.val (.int .i64 (gi:Int)),.val (.int .i64 (gj:Int)),.val (.int .i64 (gk:Int)),.val (ptr b1 (0+2)),.val (ptr b1 (0+2+(gi)*36)),.val (ptr b1 (0+2+(gi)*36+(gj)*6)),.val (ptr b1 (0+2+(gi)*36+(gj)*6+(gk)*1)),.val (.int .u8 ((T (gi) (gj) (gk):Int))),.val (.int .i64 ((T (gi) (gj) (gk):Int)))] Bb rfl O rfl I ⟨fun a w gG O hS hd=>by exact BF hS rfl O rfl,fun a w gG O hS hd=>by exact BF hS rfl O rfl,fun a w gG O hS hd=>by exact BF hS rfl O rfl,fun a w gG O hS hd=>by exact AD hS rfl (AC CH O rfl),fun a w gG O hS hd=>by have O:=O.ext1 29 (hd 0 rfl rfl);have O:=O.ext1 32 (hd 3 rfl rfl);exact AD hS rfl (AH C8 O rfl rfl rfl (by omega)),fun a w gG O hS hd=>by have O:=O.ext1 30 (hd 1 rfl rfl);have O:=O.ext1 33 (hd 4 rfl rfl);exact AD hS rfl (AH Av O rfl rfl rfl (by omega)),fun a w gG O hS hd=>by have O:=O.ext1 31 (hd 2 rfl rfl);have O:=O.ext1 34 (hd 5 rfl rfl);exact AD hS rfl (AH Az O rfl rfl rfl (by omega)),fun a w gG O hS hd=>by have O:=O.ext1 35 (hd 6 rfl rfl);have I:=hS.mem rfl;exact AD hS rfl (AM Ah O rfl (I.row 0 rfl) (FU (gj) (gi) (gk) (by omega) (by omega) (by omega) (by omega))),fun a w gG O hS hd=>by have O:=O.ext1 36 (hd 7 rfl rfl);exact AD hS rfl (BO Ba Bf O rfl (wrap_i64 (by omega) (by omega))),fun a w gG O hS hd=>by exact BF hS rfl O rfl,fun a w gG O hS hd=>by exact BF hS rfl O rfl,fun a w gG O hS hd=>by exact BF hS rfl O rfl,fun a w gG O hS hd=>by exact AD hS rfl (AC CH O rfl),fun a w gG O hS hd=>by have O:=O.ext1 38 (hd 9 rfl rfl);have O:=O.ext1 41 (hd 12 rfl rfl);exact AD hS rfl (AH C8 O rfl rfl rfl (by omega)),fun a w gG O hS hd=>by have O:=O.ext1 39 (hd 10 rfl rfl);have O:=O.ext1 42 (hd 13 rfl rfl);exact AD hS rfl (AH Av O rfl rfl rfl (by omega)),fun a w gG O hS hd=>by have O:=O.ext1 40 (hd 11 rfl rfl);have O:=O.ext1 43 (hd 14 rfl rfl);exact AD hS rfl (AH Az O rfl rfl rfl (by omega)),fun a w gG O hS hd=>by have O:=O.ext1 44 (hd 15 rfl rfl);have I:=hS.mem rfl;exact AD hS rfl (AM Ah O rfl (I.row 0 rfl) (FU (gi) (gj) (gk) (by omega) (by omega) (by omega) (by omega))),fun a w gG O hS hd=>by have O:=O.ext1 45 (hd 16 rfl rfl);exact AD hS rfl (BO Ba Bf O rfl (wrap_i64 (by omega) (by omega))),trivial⟩ ?_;intro a w' L O hS hq;have O:=O.ext1 29 (hq 0 rfl rfl);have O:=O.ext1 30 (hq 1 rfl rfl);have O:=O.ext1 31 (hq 2 rfl rfl);have O:=O.ext1 32 (hq 3 rfl rfl);have O:=O.ext1 33 (hq 4 rfl rfl);have O:=O.ext1 34 (hq 5 rfl rfl);have O:=O.ext1 35 (hq 6 rfl rfl);have O:=O.ext1 36 (hq 7 rfl rfl);have O:=O.ext1 37 (hq 8 rfl rfl);have O:=O.ext1 38 (hq 9 rfl rfl);have O:=O.ext1 39 (hq 10 rfl rfl);have O:=O.ext1 40 (hq 11 rfl rfl);have O:=O.ext1 41 (hq 12 rfl rfl);have O:=O.ext1 42 (hq 13 rfl rfl);have O:=O.ext1 43 (hq 14 rfl rfl);have O:=O.ext1 44 (hq 15 rfl rfl);have O:=O.ext1 45 (hq 16 rfl rfl);have O:=O.ext1 46 (hq 17 rfl rfl);have I:=hS.mem rfl;change wpList Try.prog _ _ [_,_] _ _;refine st O (CY O rfl rfl (wrap_i64 (by omega) (by omega))) rfl fun a O=>ag O rfl rfl fun a O=>nt<|wp_region_lit<|mv O rfl rfl fun a O=>mv O rfl rfl fun a O=>mv O rfl rfl fun a O=>st O (AC Ca O rfl) rfl fun a O=>st O (AM AL O rfl (I.row 0 rfl) (DV (by omega))) rfl fun a O=>Aj O (AO Try.call31 O (.cons rfl (.cons rfl .nil)) (EB ((T (gj) (gi) (gk):Int) - (T (gi) (gj) (gk):Int)) (p) _ (by omega) (by omega) (by omega) (by omega))) rfl ?_
        rintro _ w' a ⟨hx,rfl⟩ O;have I:=I.ext hx;refine st O (AJ (i:=gj) Bj O rfl rfl rfl (by omega)) rfl fun a O=>Bu O (BE 1 I rfl Ah O rfl rfl rfl (by first | omega | (simp only [AT,AA,Ea,Bi,Bo,FE,AG,EZ,EY,FM,GC,FF]<;>omega) | (simp only [Array.size_setIfInBounds];omega) | simp)) ?_;intro _ w' a I O;change AR _ _ [_,some (b5,(EJ 6 (fun c=>if c<gj then eqC p n T (gi*n+gk) c else 0)).setIfInBounds (0+(gj)*1) (.int .u8 (((T (gj) (gi) (gk):Int) - (T (gi) (gj) (gk):Int))%(p:Int)))),_,_] _ at I;refine wpList_nil<|iN<|tN<|wp_region_lit<|st O (Ac O rfl rfl (AN (gj) (1) (by omega))) rfl fun a O=>mv O rfl rfl fun a O=>nt<|⟨gj+1,⟨by omega,trivial,O.sub _ (by repeat' constructor),?_⟩,by omega⟩;refine I.rowc 1 rfl (J3 (m:=6) (k:=gj) (f:=fun c=>if c<gj then eqC p n T (gi*n+gk) c else 0) (g:=fun c=>if c<gj+1 then eqC p n T (gi*n+gk) c else 0) (by omega) ((Mk hp2 (by omega)).symm.trans (congrArg Nat.cast (if_pos (Nat.lt_succ_self gj)).symm)) (fun c hc he=>?_));have e0:(c<gj+1)=(c<gj):=by apply propext;omega
        simp only [e0]
      obtain rfl:n=gj:=by omega
      have I:=I.rowc (cs':=EJ 6 ((FC n (eqC p n T)) (gi*n+gk))) 1 rfl (JS (m:=6) (f:=fun c=>if c<n then eqC p n T (gi*n+gk) c else 0) (g:=(FC n (eqC p n T)) (gi*n+gk)) fun c hc=>rfl);refine wp_exit<|tX<|tX<|AW<|tN ?_;have hgN:=I.ge 1 rfl;have hnb:=fun i hi=>(I.froz _ _ (hB2.mem i hi)).2 1 b5 _ rfl;have I:=I.freeze 1 rfl;have hB3:=((hB2.more (D':=(b5,EJ 6 ((FC n (eqC p n T)) (gi*n+gk)))::D2) (fun x hx=>List.mem_cons_of_mem _ hx)).snoc (r:=(FC n (eqC p n T)) (gi*n+gk)) rfl (List.mem_cons_self ..) hnb).congr (M':=(FC n (eqC p n T))) (fun i hi c hc=>by by_cases e:i=gi*n+gk<;>simp [upE,e]);refine wp_region_lit<|mv O rfl rfl fun a O=>mv O rfl rfl fun a O=>Aj O (BK 2 I O (C2 O rfl) (I1 _ _ _)) rfl ?_;rintro _ w' a ⟨b7,rfl,I,-⟩ O;change AR w w' [some (b1,AY (p:Int) (n:Int) T f),none,some (b7,#[.slice (some ⟨b5,0,none⟩) 6 6]),e4_2] ((b5,EJ 6 ((FC n (eqC p n T)) (gi*n+gk)))::D2) at I;refine Aj O (B5 (k:=3) (m:=1) (g:=fun _=>.slice (some ⟨b5,0,none⟩) 6 6) E5 rfl (by decide) I rfl O rfl rfl hU (fun i hi=>by rw [show i=0 by omega];exact (I.row 2 rfl).cell 0) (fun _ _=>rfl) (by decide) (by unfold maxLen;omega) (by omega)) rfl ?_;rintro u8 w' a ⟨e9,I,hs10⟩ O;change AR w w' [some (b1,AY (p:Int) (n:Int) T f),none,some (b7,#[.slice (some ⟨b5,0,none⟩) 6 6]),e9] ((b5,EJ 6 ((FC n (eqC p n T)) (gi*n+gk)))::D2) at I;refine ag O rfl rfl fun a O=>wpList_nil<|iN<|tN<|wp_region_lit<|st O (Ac O rfl rfl (AN (gk) (1) (by omega))) rfl fun a O=>mv O rfl rfl fun a O=>wpList_nil<|tN ?_;have hU:=(hs10).congr (g:=fun i=>.slice (some ⟨up β2 (gi*n+gk) b5 i,0,none⟩) 6 6) (fun i hi=>by
        by_cases e:i<gi*n+gk
        . rw [if_pos (by omega)];simp only [HU (show i≠gi*n+gk by omega)]
        . rw [if_neg (by omega),show i=gi*n+gk by omega];simp only [HV])
      have I:=I.drop 2;refine ⟨gk+1,⟨by omega,((b5,EJ 6 ((FC n (eqC p n T)) (gi*n+gk)))::D2),(up β2 (gi*n+gk) b5),⟨hB3,fun i hi=>by unfold up;split;exact hgN;exact hO i (by omega)⟩,(u8),(e9),hU,O.sub _ (by repeat' constructor),?_⟩,by omega⟩;exact I
    obtain rfl:n=gk:=by omega
    refine wp_exit<|tX<|tX<|AW<|iN<|tN<|wp_region_lit<|st O (Ac O rfl rfl (AN (gi) (1) (by omega))) rfl fun a O=>mv O rfl rfl fun a O=>nt<|⟨gi+1,⟨by omega,D2,β2,⟨by rw [Nat.succ_mul];exact hB2,by rw [Nat.succ_mul];exact hO⟩,(u4_2),(e4_2),(by rw [Nat.succ_mul];exact hU),O.sub _ (by repeat' constructor),?_⟩,by omega⟩;exact I
  obtain rfl:n=gi:=by omega
  have hnn:0<n*n:=Nat.mul_pos (by omega) (by omega);obtain ⟨bq,cq,csq,rfl,rfl,hsq⟩:=hU.pos hnn;have hgeq:=I.ge 3 rfl;have hnbq:∀ i,i<n*n->β i≠bq:=fun i hi e=>(I.froz _ _ (hB.mem i hi)).2 3 bq _ rfl e.symm;have I:=I.freeze 3 rfl;have hnn2:=Nat.mul_le_mul hn hn;change AR w _ [some (b1,AY (p:Int) (n:Int) T f),none,none,none] ((bq,csq)::D1) at I;refine wp_exit<|tX<|tX<|AW<|tN<|sr<|mv O rfl rfl fun a O=>st O (AC BG O rfl) rfl fun a O=>st O (AM AL O rfl (I.row 0 rfl) (Bn (by omega))) rfl fun a O=>st O (AC Ca O rfl) rfl fun a O=>st O (AM AL O rfl (I.row 0 rfl) (DV (by omega))) rfl fun a O=>?_;have hszc:=I.bel.size;refine Aj O (Am Try.call42 O (.cons rfl (.cons rfl (.cons rfl .nil))) (Kx p n (n*n) bq cq csq β (FC n (eqC p n T)) _ hp hn0 hn (by omega) hsq.le (fun i c=>by unfold FC;split;exact O5 hp2 _ _;omega) (fun i _ c hc _=>Ho hc) (I.fzm (List.mem_cons_self ..)) (by have:=hsq.sz;have:=hsq.le;omega) (fun i hi=>hsq.get1 i hi) (fun i hi=>I.fzm (List.mem_cons_of_mem _ (hB.mem i hi))) hB.inj hnbq (fun k E ld h1 h2=>hJ k E ld h1 (fun x=>(h2 x).trans (Ky (fun i _ c hc=>(Du hc))))) (fun r V h1=>hpos r V (IK (fun i _ c hc=>(Du hc)) h1)))) rfl ?_;rintro u w' a ⟨hx,r,V,hIK,hVz,hrn,hown⟩ O;have hown2:=Ko hszc hown;have I:=I.swapD (D':=[]) hx (Fa (Q:=fun y=>∃ cs,(y,cs)∈(bq,csq)::D1) ⟨_,List.mem_cons_self ..⟩ (fun i hi=>⟨_,List.mem_cons_of_mem _ (hB.mem i hi)⟩)) (Fa (Q:=fun y=>w.heap.size<=y\/y∈[]) (.inl hgeq) (fun i hi=>.inl (hge1 i hi))) (fun _ _ h=>by cases h);change AR w w' [some (b1,AY (p:Int) (n:Int) T f),none,none,none] [] at I;refine ag O rfl rfl fun a O=>ag O rfl rfl fun a O=>nt<|wp_ret<|By rfl O.defers (AE O rfl) (AE O rfl) ⟨_,rfl,I.below,?_⟩;exact ⟨r,V,u,IK (fun i _ c hc=>Du hc) hIK,hVz,hown2,rfl⟩
theorem R2 {p x y A B d:Int}(h1:p∣x - y)(e:y=A - B)(hA:p∣A - d)(hB:p∣B - d):p∣x:=by
  have e2:x=(x - y)+((A - d) - (B - d)):=by omega
  rw [e2];exact Int.dvd_add h1 (Int.dvd_sub hA hB)
theorem Nq {p n:Nat}{T:Nat->Nat->Nat->Nat}{u:Nat->Nat}(hp:2<=p)(h:UnitI p n T u):Ker p n (eqC p n T) (n*n) (fun c=>(u c:Int)):=by
  intro r hr;have hn0:0<n:=by rcases Nat.eq_zero_or_pos n with e | e;(rw [e] at hr;omega);exact e
  have hj:r / n<n:=Nat.div_lt_of_lt_mul hr;have hk:r%n<n:=Nat.mod_lt _ hn0;have e1:dot n (ci (eqC p n T r)) (fun c=>(u c:Int))=sI (fun c=>(u c:Int)*(eqC p n T r c:Int)) n:=Ar fun c _=>by unfold ci;exact Int.mul_comm _ _
  rw [e1];refine R2 (Lc (f:=fun c=>(u c:Int)) (g:=fun c=>(eqC p n T r c:Int)) (h:=fun c=>(T c (r / n) (r%n):Int) - (T (r / n) c (r%n):Int)) fun c _=>?_) ?_ (h.right _ hj _ hk) (h.left _ hj _ hk)
  . unfold eqC
    rw [Int.toNat_of_nonneg (Int.emod_nonneg _ (by omega))];exact CD _ _
  . rw [← Jf]
    exact Ar fun c _=>by rw [Int.mul_sub]
theorem Pn {k n:Nat}{ld:Nat->Nat}(h:nf k ld n=0):∀ c,c<n->Bx k ld c:=fun c hc=>Decidable.byContradiction fun hf=>by have:=Kq hc hf;omega
theorem G1 {p x:Nat}(h:(p:Int)∣(x:Int))(hx:x<p):x=0:=Nat.eq_zero_of_dvd_of_lt (Int.natCast_dvd_natCast.1 h) hx
theorem Qv {p n:Nat}{T:Nat->Nat->Nat->Nat}{u:Nat->Nat}(hp:2<=p)(hn0:0<n)(h:UnitI p n T u):∀ k E ld,Rref p n E k ld->(∀ x,Ker p n E k x↔Ker p n (eqC p n T) (n*n) x)->0<nf k ld n:=fun k E ld hR hK=>by
  refine Decidable.byContradiction fun h0=>?_
  have hl:=Of hR (Pn (show nf k ld n=0 by omega))
  have hx:=(hK _).2 (Nq hp h)
  have hz:∀ i,i<n->u i=0:=fun i hi=>by
    have hi':=hl i hi
    have h1:=hx i hi'.1
    have e:dot n (ci (E i)) (fun c=>(u c:Int))=(u i:Int):=by
      unfold dot
      rw [Bl hi]
      . have:=hR.one i hi'.1;rw [hi'.2] at this;unfold ci;rw [this];simp
      . intro j hj hJ
        have hj':=hl j hj;have:=hR.zero j i hj'.1 hi'.1 hJ;rw [hj'.2] at this;unfold ci;rw [this];simp
    rw [e] at h1;exact G1 h1 (h.small i)
  have h2:=h.right 0 hn0 0 hn0;rw [Cn (fun a ha=>by rw [hz a ha];simp)] at h2;have h3:(p:Int)∣((1:Nat):Int):=by
    have e:(0:Int) - (dl 0 0:Int) = -((1:Nat):Int):=rfl;rw [e] at h2;exact (Int.dvd_neg).1 h2
  have:=G1 h3 (by omega)
  omega
theorem Md {p n m:Nat}{M:Nat->Nat->Nat}(hp:2<=p)(hJ:∀ k E ld,Rref p n E k ld->(∀ x,Ker p n E k x↔Ker p n M m x)->0<nf k ld n):∀ r V,IsKer p n M m r V->0<r:=fun r V h=>by
  obtain ⟨k,E,ld,ld2,h1,h2,h3,h4⟩:=h
  obtain ⟨c,hc,hf,_⟩:=Kr n 0 (hJ k E ld h1 h2)
  refine Decidable.byContradiction fun h0=>?_
  have h5:=(h4 (fun d=>if d=c then 1 else 0)).1 (fun i hi=>absurd hi (by omega)) c hc hf
  have e:dot n (ci (sol p E k ld c)) (fun d=>if d=c then 1 else 0)=((1:Nat):Int):=by
    unfold dot
    rw [Bl hc]
    . unfold ci sol;simp
    . intro j _ hne2;simp [hne2]
  rw [e] at h5;have:=G1 h5 (by omega)
  omega
def P9 (n R:Nat) (W:Nat->Nat->Nat) (i c:Nat):Nat:=if i<R/\c<n then W i c else 0
theorem OP {p n m r R:Nat}{M V V' W:Nat->Nat->Nat}{w w':World}{u:Value}(hp:2<=p)(hW:IsKer p n M m R W)(hV:IsKer p n M m r V)(e:∀ i,i<r->∀ c,c<6->V' i c=if c<n then V i c else 0)(h:OwnSl 6 w r (fun c=>.int .u8 (V' (c / 6) (c%6):Int)) u w'):OwnSl 6 w R (fun c=>.int .u8 (P9 n R W (c / 6) (c%6):Int)) u w':=by
  obtain ⟨rfl,hu⟩:=IsKer.unique hp hW hV;obtain ⟨b,cap,cs,h1,h2,h3⟩:=h;refine ⟨b,cap,cs,h1.congr (fun c hc=>?_),h2,h3⟩
  congr 2
  rw [e (c / 6) (by omega) (c%6) (by omega)]
  unfold P9
  by_cases hcn:c%6<n
  . rw [if_pos hcn,if_pos ⟨by omega,hcn⟩,hu (c / 6) (by omega) (c%6) hcn]
  . rw [if_neg hcn,if_neg (fun q=>hcn q.2)]
theorem LO (p n:Nat)(T:Nat->Nat->Nat->Nat)(f:Nat->Nat)(R0:Nat)(W:Nat->Nat->Nat)(w:World)(hp:primeN p)(hn0:0<n)(hn:n<=6)(hTp:∀ i j k,T i j k<p)(hT0:∀ i j k,n<=k->T i j k=0)(hf:∀ i,f i<=255)(hc:M4 (p:Int) (n:Int) T f 0 (KR []))(hJ:∀ k E ld,Rref p n E k ld->(∀ x,Ker p n E k x↔Ker p n (eqC p n T) (n*n) x)->0<nf k ld n)(hpos:∀ r V,IsKer p n (eqC p n T) (n*n) r V->0<r)(hW:IsKer p n (eqC p n T) (n*n) R0 W):CallsR Try.prog 18 #[.agg (AY (p:Int) (n:Int) T f)] w (fun v w'=>∃ u,v = .tuple #[u,.int .i64 0]/\OwnSl 6 w R0 (fun c=>.int .u8 (((P9 n R0 W) (c / 6) (c%6):Nat):Int)) u w'):=
  (LN p n T f w hp hn0 hn hTp hT0 hf hc hJ hpos).mono fun v w' _ h2=>by
    obtain ⟨r,V,u,hIK,hVz,hown,e⟩:=h2
    exact ⟨u,e,OP hp.two hW hIK (fun i hi c hc=>by split;rfl;exact hVz i hi c (by omega) hc) hown⟩
end Go.Proofs.Ytgioobkkkicfeaa
