import Derived.Test.YtkcneleabbjkaaaEch
set_option linter.unusedVariables false
set_option linter.unusedSimpArgs false
namespace Go.Ech
def primeN (p:Nat):Prop:=p=2\/p=3\/p=5\/p=7\/p=11\/p=13
theorem primeN.two {p:Nat}(h:primeN p):2<=p:=by unfold primeN at h;omega
theorem primeN.le {p:Nat}(h:primeN p):p<=13:=by unfold primeN at h;omega
def lsM (p:Nat) (f h:Nat->Nat) (k c:Nat):Nat:=(((f c:Int) - (k:Int)*(h c:Int))%(p:Int)).toNat
theorem EB {p:Nat}{f h:Nat->Nat}{k c:Nat}(hp:0<p):(lsM p f h k c:Int)=((f c:Int) - (k:Int)*(h c:Int))%(p:Int):=
  Int.toNat_of_nonneg (Int.emod_nonneg _ (by omega))
theorem EN {p:Nat}{f h:Nat->Nat}{k c:Nat}(hp:0<p):lsM p f h k c<p:=by
  have:=Int.emod_lt_of_pos ((f c:Int) - (k:Int)*(h c:Int)) (show (0:Int)<p by omega);have e:=EB (f:=f) (h:=h) (k:=k) (c:=c) hp
  omega
theorem IP {p:Nat}{f h:Nat->Nat}{k c:Nat}(hf:f c<p)(hh:h c=0):lsM p f h k c=f c:=by
  have e:=EB (f:=f) (h:=h) (k:=k) (c:=c) (show 0<p by omega);rw [hh] at e;rw [show (f c:Int) - (k:Int)*((0:Nat):Int)=f c by simp,Int.emod_eq_of_lt (by omega) (by omega)] at e
  omega
theorem KA {p:Nat}{f h:Nat->Nat}{c:Nat}(hp:0<p)(hh:h c=1):lsM p f h (f c) c=0:=by
  have e:=EB (f:=f) (h:=h) (k:=f c) (c:=c) hp;rw [hh,show (f c:Int) - (f c:Int)*((1:Nat):Int)=0 by omega,Int.zero_emod] at e
  omega
theorem De (p x:Int):p∣x%p - x:=⟨-(x / p),by have:=Int.mul_ediv_add_emod x p;grind⟩
theorem O5 {p:Nat}{f h:Nat->Nat}{k c:Nat}(hp:0<p):(p:Int)∣ci (lsM p f h k) c - (ci f c+(-(k:Int))*ci h c):=by
  show (p:Int)∣(lsM p f h k c:Int) - _
  rw [EB hp];have:=De (p:Int) ((f c:Int) - (k:Int)*(h c:Int))
  rwa [show ((f c:Int) - (k:Int)*(h c:Int))%(p:Int) - (ci f c+(-(k:Int))*ci h c)=((f c:Int) - (k:Int)*(h c:Int))%(p:Int) - ((f c:Int) - (k:Int)*(h c:Int)) by show _ - ((f c:Int)+(-(k:Int))*(h c:Int))=_;grind]
theorem Gk {p N:Nat}{f h:Nat->Nat}{k:Nat}{x:Nat->Int}(hp:0<p)(hx:(p:Int)∣dot N (ci h) x):(p:Int)∣dot N (ci (lsM p f h k)) x↔(p:Int)∣dot N (ci f) x:=by
  have h1:=Mm (p:=p) (N:=N) (r:=ci f) (s:=ci h) (t:=ci (lsM p f h k)) (x:=x) (k:=-(k:Int)) (fun c _=>O5 hp);rw [Ec h1];have h2:(p:Int)∣-(k:Int)*dot N (ci h) x:=Int.dvd_mul_of_dvd_right hx
  constructor
  . intro h3;have:=Int.dvd_sub h3 h2;rwa [show dot N (ci f) x + -(k:Int)*dot N (ci h) x - -(k:Int)*dot N (ci h) x=dot N (ci f) x by omega] at this
  . intro h3;exact Int.dvd_add h3 h2
theorem HM {p N:Nat}{f g:Nat->Nat}{v u:Nat}{x:Nat->Int}(hg:∀ c,c<N->g c=f c*v%p)(huv:u*v%p=1):(p:Int)∣dot N (ci g) x↔(p:Int)∣dot N (ci f) x:=by
  have h1:=Mm (p:=p) (N:=N) (r:=fun _=>0) (s:=ci f) (t:=ci g) (x:=x) (k:=(v:Int)) (fun c hc=>by
    show (p:Int)∣(g c:Int) - _
    rw [hg c hc];have:=De (p:Int) ((f c*v:Nat):Int);rw [show (0:Int)+(v:Int)*ci f c=((f c*v:Nat):Int) by show 0+(v:Int)*(f c:Int)=_;rw [Int.natCast_mul,Int.mul_comm];omega]
    exact_mod_cast this)
  have e0:dot N (fun _=>0) x=0:=DZ fun i _=>by simp
  rw [e0] at h1;rw [Ec h1]
  constructor
  . intro h2
    have h3:(p:Int)∣(u:Int)*((v:Int)*dot N (ci f) x):=Int.dvd_mul_of_dvd_right (by simpa using h2);have h4:(p:Int)∣((u*v:Nat):Int) - 1:=by
      have:=De (p:Int) ((u*v:Nat):Int);have e:((u*v:Nat):Int)%(p:Int)=1:=by exact_mod_cast huv
      rw [e] at this;have:=Int.dvd_neg.2 this
      rwa [show -(1 - ((u*v:Nat):Int))=((u*v:Nat):Int) - 1 by omega] at this
    have h5:(p:Int)∣(((u*v:Nat):Int) - 1)*dot N (ci f) x:=Int.dvd_mul_of_dvd_left h4;have:=Int.dvd_sub h3 h5
    rwa [show (u:Int)*((v:Int)*dot N (ci f) x) - (((u*v:Nat):Int) - 1)*dot N (ci f) x=dot N (ci f) x by rw [Int.natCast_mul];grind] at this
  . intro h2;have:=Int.dvd_mul_of_dvd_right (b:=(v:Int)) h2;simpa using this
def ins {α:Type} (q:Nat) (g:Nat->α) (o:α) (i:Nat):α:=if i<q then g i else if i=q then o else g (i - 1)
theorem DF {α:Type}{q:Nat}{g:Nat->α}{o:α}{i:Nat}(h:i<q):ins q g o i=g i:=by simp [ins,h]
theorem ins_eq {α:Type}{q:Nat}{g:Nat->α}{o:α}:ins q g o q=o:=by simp [ins]
theorem Cl {α:Type}{q:Nat}{g:Nat->α}{o:α}{i:Nat}(h:q<i):ins q g o i=g (i - 1):=by simp [ins,show ¬ i<q by omega,show ¬ i=q by omega]
theorem PA {α:Type}{q k:Nat}{g:Nat->α}{o:α}{P:α->Prop}(hq:q<=k):(∀ i,i<k+1->P (ins q g o i))↔(∀ i,i<k->P (g i))/\P o:=by
  constructor
  . intro h
    refine ⟨fun i hi=>?_,by have:=h q (by omega);rwa [ins_eq] at this⟩
    by_cases e:i<q
    . have:=h i (by omega);rwa [DF e] at this
    . have:=h (i+1) (by omega);rwa [Cl (by omega),Nat.add_sub_cancel] at this
  . intro h i hi
    rcases Nat.lt_trichotomy i q with e | e | e
    . rw [DF e];exact h.1 i (by omega)
    . subst e;rw [ins_eq];exact h.2
    . rw [Cl e];exact h.1 (i - 1) (by omega)
structure Fits (p N:Nat) (E:Nat->Nat->Nat) (k:Nat) (ld:Nat->Nat) (o:Nat->Nat) (t q:Nat):Prop where
  lt:t<N
  one:o t=1
  left:∀ c,c<t->o c=0
  small:∀ c,c<N->o c<p
  zero:∀ i,i<k->o (ld i)=0
  qk:q<=k
  lo:∀ i,i<q->ld i<t
  hi:∀ i,q<=i->i<k->t<ld i
theorem Rref.insert {p N k q t:Nat}{E:Nat->Nat->Nat}{ld o:Nat->Nat}(hp:0<p)(h:Rref p N E k ld)(f:Fits p N E k ld o t q) :
    Rref p N (ins q (fun i=>lsM p (E i) o (E i t)) o) (k+1) (ins q ld t):=by
  have hz:∀ i,i<k->∀ c,c<N->o c=0->lsM p (E i) o (E i t) c=E i c:=fun i hi c hc ho=>IP (h.small i hi c hc) ho;have gat:∀ i,i<k->lsM p (E i) o (E i t) t=0:=fun i hi=>KA hp f.one;have gone:∀ i,i<k->lsM p (E i) o (E i t) (ld i)=1:=fun i hi=>by rw [hz i hi _ (h.lt i hi) (f.zero i hi)];exact h.one i hi
  have gzero:∀ i j,i<k->j<k->i≠j->lsM p (E j) o (E j t) (ld i)=0:=fun i j hi hj hH=>by rw [hz j hj _ (h.lt i hi) (f.zero i hi)];exact h.zero i j hi hj hH
  have gleft:∀ i,i<k->∀ c,c<ld i->lsM p (E i) o (E i t) c=0:=by
    intro i hi c hc;have hlt:=h.lt i hi
    by_cases e:i<q
    . rw [hz i hi c (by omega) (f.left c (by have:=f.lo i e;omega))];exact h.left i hi c hc
    . have h1:=f.hi i (by omega) hi
      have:E i t=0:=h.left i hi t h1;have e2:=EB (f:=E i) (h:=o) (k:=E i t) (c:=c) hp;rw [this,h.left i hi c hc] at e2;rw [this];simp at e2;exact e2
  refine ⟨?_,?_,?_,?_,?_,?_⟩
  . intro i hi
    rcases Nat.lt_trichotomy i q with e | e | e
    . rw [DF e];exact h.lt i (by have:=f.qk;omega)
    . subst e;rw [ins_eq];exact f.lt
    . rw [Cl e];exact h.lt _ (by omega)
  . intro i j hij hj
    have hqk:=f.qk
    rcases Nat.lt_trichotomy i q with e | e | e
    . rw [DF e]
      rcases Nat.lt_trichotomy j q with e2 | e2 | e2
      . rw [DF e2];exact h.mono i j hij (by omega)
      . subst e2;rw [ins_eq];exact f.lo i e
      . rw [Cl e2]
        have h1:=f.lo i e;have h2:=f.hi (j - 1) (by omega) (by omega);omega
    . subst e;rw [ins_eq,Cl hij];exact f.hi (j - 1) (by omega) (by omega)
    . rw [Cl e,Cl (by omega)];exact h.mono (i - 1) (j - 1) (by omega) (by omega)
  . intro i hi
    have hqk:=f.qk
    rcases Nat.lt_trichotomy i q with e | e | e
    . rw [DF e,DF e];exact gone i (by omega)
    . subst e;rw [ins_eq,ins_eq];exact f.one
    . rw [Cl e,Cl e];exact gone (i - 1) (by omega)
  . intro i hi c hc
    have hqk:=f.qk
    rcases Nat.lt_trichotomy i q with e | e | e
    . rw [DF e] at hc ⊢;exact gleft i (by omega) c hc
    . subst e;rw [ins_eq] at hc ⊢;exact f.left c hc
    . rw [Cl e] at hc ⊢;exact gleft (i - 1) (by omega) c hc
  . intro i j hi hj hH
    have hqk:=f.qk
    rcases Nat.lt_trichotomy i q with e | e | e<;>rcases Nat.lt_trichotomy j q with e2 | e2 | e2
    . rw [DF e,DF e2];exact gzero i j (by omega) (by omega) hH
    . subst e2;rw [DF e,ins_eq];exact f.zero i (by omega)
    . rw [DF e,Cl e2];exact gzero i (j - 1) (by omega) (by omega) (by omega)
    . subst e;rw [ins_eq,DF e2];exact gat j (by omega)
    . omega
    . subst e;rw [ins_eq,Cl e2];exact gat (j - 1) (by omega)
    . rw [Cl e,DF e2];exact gzero (i - 1) j (by omega) (by omega) (by omega)
    . subst e2;rw [Cl e,ins_eq];exact f.zero (i - 1) (by omega)
    . rw [Cl e,Cl e2];exact gzero (i - 1) (j - 1) (by omega) (by omega) (by omega)
  . intro i hi c hc
    have hqk:=f.qk
    rcases Nat.lt_trichotomy i q with e | e | e
    . rw [DF e];exact EN hp
    . subst e;rw [ins_eq];exact f.small c hc
    . rw [Cl e];exact EN hp
theorem GI {p N k q t:Nat}{E:Nat->Nat->Nat}{o:Nat->Nat}{x:Nat->Int}(hp:0<p)(hq:q<=k) :
    Ker p N (ins q (fun i=>lsM p (E i) o (E i t)) o) (k+1) x↔Ker p N E k x/\(p:Int)∣dot N (ci o) x:=by
  unfold Ker
  rw [PA (P:=fun r=>(p:Int)∣dot N (ci r) x) hq]
  constructor
  . intro h;exact ⟨fun i hi=>(Gk hp h.2).1 (h.1 i hi),h.2⟩
  . intro h;exact ⟨fun i hi=>(Gk hp h.2).2 (h.1 i hi),h.2⟩
def below (k:Nat) (ld:Nat->Nat) (t:Nat):Nat:=((List.range k).find? (fun i=>decide (t<ld i))).getD k
theorem Ik {p N k t:Nat}{E:Nat->Nat->Nat}{ld:Nat->Nat}(h:Rref p N E k ld)(hH:∀ i,i<k->ld i≠t):below k ld t<=k/\(∀ i,i<below k ld t->ld i<t)/\∀ i,below k ld t<=i->i<k->t<ld i:=by
  unfold below
  cases e:(List.range k).find? (fun i=>decide (t<ld i)) with
  | none =>
    have:=List.find?_eq_none.1 e;refine ⟨Nat.le_refl _,fun i hi=>?_,fun i h1 h2=>?_⟩
    . have h3:=this i (by simpa using hi);have:=hH i hi;simp at h3;omega
    . simp at h1;omega
  | some j =>
    rw [List.find?_eq_some_iff_append] at e;obtain ⟨hj,as,bs,hl,has⟩:=e;have hjk:j<k:=by
      have:j∈List.range k:=by rw [hl];simp
      simpa using this
    have hlen:as.length=j:=by
      have h1:(List.range k)[as.length]? = some j:=by rw [hl];simp
      rw [List.getElem?_range (by have:=congrArg List.length hl;simp at this;omega)] at h1;exact Option.some.inj h1
    have hlo:∀ i,i<j->ld i<t:=by
      intro i hi;have h1:as[i]? = some i:=by
        have h2:(List.range k)[i]? = some i:=List.getElem?_range (by omega);rw [hl,List.getElem?_append_left (by omega)] at h2;exact h2
      have h3:=has i (List.mem_of_getElem? h1);have:=hH i (by omega)
      simp at h3;omega
    simp at hj ⊢
    refine ⟨by omega,hlo,fun i h1 h2=>?_⟩
    by_cases e2:i=j
    . subst e2;exact hj
    . have:=h.mono j i (by omega) h2;omega
structure Own (p N:Nat) (E:Nat->Nat->Nat) (k:Nat) (ld r o:Nat->Nat) (j:Nat):Prop where
  small:∀ c,c<N->o c<p
  zero:∀ i,i<j->o (ld i)=0
  ker:∀ x,Ker p N E k x->((p:Int)∣dot N (ci o) x↔(p:Int)∣dot N (ci r) x)
theorem Own.step {p N k j:Nat}{E:Nat->Nat->Nat}{ld r o:Nat->Nat}(hp:0<p)(h:Rref p N E k ld)(ho:Own p N E k ld r o j)(hj:j<k):Own p N E k ld r (lsM p o (E j) (o (ld j))) (j+1):=by
  refine ⟨fun c _=>EN hp,fun i hi=>?_,fun x hx=>?_⟩
  . by_cases e:i=j
    . subst e;exact KA hp (h.one i hj)
    . rw [IP (ho.small _ (h.lt i (by omega))) (h.zero i j (by omega) hj e)];exact ho.zero i (by omega)
  . rw [Gk hp (hx j hj)];exact ho.ker x hx
theorem Ker.snoc {p N m:Nat}{M:Nat->Nat->Nat}{x:Nat->Int}:Ker p N M (m+1) x↔Ker p N M m x/\(p:Int)∣dot N (ci (M m)) x:=by
  constructor
  . intro h;exact ⟨fun i hi=>h i (by omega),h m (by omega)⟩
  . intro h i hi
    by_cases e:i=m
    . subst e;exact h.2
    . exact h.1 i (by omega)
theorem If {p N:Nat}{o:Nat->Nat}{x:Nat->Int}(h:∀ c,c<N->o c=0):(p:Int)∣dot N (ci o) x:=by
  have:dot N (ci o) x=0:=DZ fun i hi=>by simp [ci,h i hi]
  rw [this];exact Int.dvd_zero _
end Go.Ech
namespace Go.Sw
open Go Go.RowKit
variable {P : Program}
def RowsFr (w0:World) (L:Own) (N k:Nat) (f:Nat->Nat->Value) (u:Value) (w':World):Prop:=∃ (D:A4) (β κ:Nat->Nat) (C:Nat->Array Value) (b cap:Nat) (cs:Array Value),
  (∀ x ds,(x,ds)∈D->w0.heap.size<=x/\Blk w' x ds/\∀ (k:Nat) c es,L[k]? = some (some (c,es))->c≠x)/\RowsD D N k β κ C f/\SlAt 1 u (some (b,cs)) k b cap cs (fun i=>.slice (some ⟨β i,0,none⟩) N (κ i))/\(b,cs)∈D
theorem RowsFr.last {w0 w w':World}{L:Own}{N k:Nat}{f:Nat->Nat->Value}{u:Value}(h:RowsFr w0 L N k f u w)(hx:Ext w w'):RowsFr w0 L N k f u w':=by
  obtain ⟨D,β,κ,C,b,cap,cs,h1,h2⟩:=h;exact ⟨D,β,κ,C,b,cap,cs,fun x ds hm=>⟨(h1 x ds hm).1,(h1 x ds hm).2.1.ext hx,(h1 x ds hm).2.2⟩,h2⟩
theorem RowsOut.fresh {X:List Nat}{w0 w w':World}{L:Own}{D:A4}{N k:Nat}{f:Nat->Nat->Value}{u:Value}(J:MemX X w0 w L D)(h:RowsOut w w' N k f u):RowsFr w0 L N k f u w':=by
  obtain ⟨D',β,κ,C,b,cap,cs,h1,h2⟩:=h;refine ⟨D',β,κ,C,b,cap,cs,fun x ds hm=>⟨Nat.le_trans J.bel.size (h1 x ds hm).1,(h1 x ds hm).2,fun k c es hk e=>?_⟩,h2⟩;have:=(J.blk k c es hk).2.lt;have:=(h1 x ds hm).1
  omega
theorem MemX.addR {X:List Nat}{w0 w:World}{L:Own}{D:A4}{N k:Nat}{f:Nat->Nat->Value}{u:Value}(h:MemX X w0 w L D)(hf:RowsFr w0 L N k f u w) :
    ∃ (D':A4) (β κ:Nat->Nat) (C:Nat->Array Value) (b cap:Nat) (cs:Array Value),RowsD (D'++D) N k β κ C f/\SlAt 1 u (some (b,cs)) k b cap cs (fun i=>.slice (some ⟨β i,0,none⟩) N (κ i))/\(b,cs)∈D'++D/\(∀ i,i<k->w0.heap.size<=β i)/\w0.heap.size<=b/\MemX X w0 w L (D'++D):=by
  obtain ⟨D',β,κ,C,b,cap,cs,h1,h2,h3,h4⟩:=hf;refine ⟨D',β,κ,C,b,cap,cs,h2.more (fun x hx=>List.mem_append_left _ hx),h3,List.mem_append_left _ h4,fun i hi=>(h1 _ _ (h2.mem i hi)).1,(h1 _ _ h4).1,h.bel,h.blk,h.apart,fun c ds hm=>?_⟩
  rcases List.mem_append.1 hm with hm | hm
  . exact (h1 c ds hm).2
  . exact h.froz c ds hm
end Go.Sw
namespace Go.Ech
def dl (i c:Nat):Nat:=if i=c then 1 else 0
def Fv (n:Nat) (x:Nat->Nat) (c:Nat):Int:=if c<n then (x c:Int) else -1
theorem GU {n c:Nat}{x:Nat->Nat}(h:c<n):Fv n x c=x c:=by simp [Fv,h]
theorem Gz {n:Nat}{x:Nat->Nat}:Fv n x n = -1:=by simp [Fv]
theorem DD {p a b:Nat}(ha:a<p)(hb:b<p)(h:(p:Int)∣(a:Int) - (b:Int)):a=b:=by
  obtain ⟨q,hq⟩:=h;have:q=0:=by
    rcases Int.lt_trichotomy q 0 with hh | hh | hh
    . have:=Int.mul_le_mul_of_nonneg_left (show q<=-1 by omega) (show (0:Int)<=p by omega);omega
    . exact hh
    . have:=Int.mul_le_mul_of_nonneg_left (show 1<=q by omega) (show (0:Int)<=p by omega);omega
  subst this;omega
theorem LX {p a b:Nat}(hb:b<p):(p:Int)∣(a:Int) - (b:Int)↔a%p=b:=by
  have hp:0<p:=by omega
  constructor
  . intro h
    have h2:=De (p:Int) (a:Int);have h3:=Int.dvd_add h2 h;rw [show (a:Int)%(p:Int) - (a:Int)+((a:Int) - (b:Int))=((a%p:Nat):Int) - (b:Int) by rw [Int.natCast_emod];omega] at h3;exact DD (Nat.mod_lt _ hp) hb h3
  . intro h
    have h2:=Int.dvd_neg.2 (De (p:Int) (a:Int))
    rwa [show -((a:Int)%(p:Int) - (a:Int))=(a:Int) - (b:Int) by rw [← h,Int.natCast_emod];omega] at h2
structure Full (p n:Nat) (E:Nat->Nat->Nat) (k:Nat) (ld:Nat->Nat):Prop where
  k:k=n
  ld:∀ i,i<n->ld i=i
theorem LY {p n k:Nat}{E:Nat->Nat->Nat}{ld:Nat->Nat}(h:Rref p (n+1) E k ld)(hf:Full p n E k ld)(x:Nat->Nat){i:Nat}(hi:i<n):dot (n+1) (ci (E i)) (Fv n x)=(x i:Int) - (E i n:Int):=by
  have hk:=hf.k
  unfold dot
  rw [Lt (a:=i) (b:=n) (by omega) (by omega) (by omega)]
  . rw [GU hi,Gz]
    have:E i i=1:=by have:=h.one i (by omega);rwa [hf.ld i hi] at this
    simp only [ci,this];omega
  . intro c hc hci hcn
    have:E i c=0:=by have:=h.zero c i (by omega) (by omega) hci;rwa [hf.ld c (by omega)] at this
    simp [ci,this]
theorem FY {p n k:Nat}{E:Nat->Nat->Nat}{ld:Nat->Nat}(h:Rref p (n+1) E k ld)(hf:Full p n E k ld)(x:Nat->Nat)(hx:∀ i,i<n->x i<p):Ker p (n+1) E k (Fv n x)↔∀ i,i<n->x i=E i n:=by
  have hk:=hf.k
  constructor
  . intro hK i hi
    have:=hK i (by omega);rw [LY h hf x hi] at this;exact DD (hx i hi) (h.small i (by omega) n (by omega)) this
  . intro hK i hi
    rw [LY h hf x (by omega),hK i (by omega),Int.sub_self];exact Int.dvd_zero _
theorem EO {p n k:Nat}{E:Nat->Nat->Nat}{ld:Nat->Nat}(hp:2<=p)(h:Rref p (n+1) E k ld)(x:Nat->Nat)(hx:∀ i,i<n->x i<p)(hK:Ker p (n+1) E k (Fv n x))
    (hu:∀ y:Nat->Nat,(∀ i,i<n->y i<p)->Ker p (n+1) E k (Fv n y)->∀ i,i<n->y i=x i):Full p n E k ld:=by
  have hn:¬ DW k ld n:=by
    rintro ⟨i,hi,e⟩;have:=h.ker_lead hK hi (fun d h1 h2=>by omega);rw [e,Gz] at this;have:=Int.le_of_dvd (by omega) (Int.dvd_neg.2 this)
    omega
  have hc:∀ c,c<n->DW k ld c:=by
    intro c hc;refine Decidable.byContradiction fun hno=>?_;have hfk:=h.free_ker (show c<n+1 by omega) hno;have hfn:free E k ld c n=0:=by
      unfold free;rw [if_neg (by omega)]
      cases e:D7 k ld n with
      | none=>rfl
      | some j=>exact absurd ⟨j,CM e⟩ hn
    have hfc:free E k ld c c=1:=by simp [free]
    have hy:=hu (fun i=>((x i+free E k ld c i)%(p:Int)).toNat) (fun i _=>by
      have h1:=Int.emod_nonneg (x i+free E k ld c i) (show (p:Int)≠0 by omega);have h2:=Int.emod_lt_of_pos (x i+free E k ld c i) (show (0:Int)<p by omega)
      omega) (fun i hi=>by
      have h1:=hK i hi;have h2:=hfk i hi;have h3:=Int.dvd_add h1 h2;rw [← PK] at h3;refine (Ec ?_).2 h3
      unfold dot
      have e:∀ f g:Nat->Int,sI f (n+1) - sI g (n+1)=sI (fun c=>f c - g c) (n+1):=fun f g=>by
        have:=D6 (fun c=>f c - g c) g (n+1);rw [show (fun i=>(f i - g i)+g i)=f from by funext i;omega] at this;omega
      rw [e];refine Da fun d hd=>?_;rw [← Int.mul_sub];refine Int.dvd_mul_of_dvd_right ?_
      show (p:Int)∣_ - (Fv n x d+free E k ld c d)
      by_cases hdn:d<n
      . rw [GU hdn,GU hdn]
        have h4:=Int.emod_nonneg (x d+free E k ld c d) (show (p:Int)≠0 by omega);rw [Int.toNat_of_nonneg h4];exact De _ _
      . rw [show d=n by omega,Gz,Gz,hfn];simp) c hc
    rw [hfc] at hy;have h1:=hx c hc
    by_cases e:x c+1=p
    . have:((x c:Int)+1)%(p:Int)=0:=by rw [show (x c:Int)+1=p by omega];exact Int.emod_self
      rw [this] at hy;simp at hy;omega
    . rw [Int.emod_eq_of_lt (by omega) (by omega)] at hy;omega
  have:=MZ (k':=n) (ld':=fun i=>i) h.mono (fun i j hij _=>hij) (fun c=>⟨fun ⟨i,hi,e⟩=>⟨c,by
      have:=h.lt i hi
      rcases Nat.lt_or_ge c n with hh | hh
      . exact hh
      . exact absurd ⟨i,hi,by omega⟩ hn,rfl⟩,fun ⟨i,hi,e⟩=>by subst e;exact hc i hi⟩)
  exact ⟨this.1,fun i hi=>this.2 i (by omega)⟩
structure UnitI (p n:Nat) (T:Nat->Nat->Nat->Nat) (u:Nat->Nat):Prop where
  small:∀ c,u c<p
  out:∀ c,n<=c->u c=0
  right:∀ i,i<n->∀ c,c<n->(p:Int)∣sI (fun a=>(u a:Int)*(T a i c:Int)) n - (dl i c:Int)
  left:∀ i,i<n->∀ c,c<n->(p:Int)∣sI (fun b=>(u b:Int)*(T i b c:Int)) n - (dl i c:Int)
theorem JL {p n:Nat}{T:Nat->Nat->Nat->Nat}{u y:Nat->Nat}(hl:∀ i,i<n->∀ c,c<n->(p:Int)∣sI (fun b=>(u b:Int)*(T i b c:Int)) n - (dl i c:Int))
    (hr:∀ i,i<n->∀ c,c<n->(p:Int)∣sI (fun a=>(y a:Int)*(T a i c:Int)) n - (dl i c:Int)) {c:Nat} (hc:c<n):(p:Int)∣(y c:Int) - (u c:Int):=by
  have e1:(p:Int)∣sI (fun a=>(y a:Int)*sI (fun b=>(u b:Int)*(T a b c:Int)) n) n - (y c:Int):=by
    have:sI (fun a=>(y a:Int)*sI (fun b=>(u b:Int)*(T a b c:Int)) n) n - (y c:Int)=sI (fun a=>(y a:Int)*(sI (fun b=>(u b:Int)*(T a b c:Int)) n - (dl a c:Int))) n:=by
      have h1:=D6 (fun a=>(y a:Int)*(sI (fun b=>(u b:Int)*(T a b c:Int)) n - (dl a c:Int))) (fun a=>(y a:Int)*(dl a c:Int)) n;have h2:sI (fun a=>(y a:Int)*(dl a c:Int)) n=y c:=by
        rw [Cs hc]
        . simp [dl]
        . intro i _ hH;simp [dl,hH]
      have h3:(fun a=>(y a:Int)*(sI (fun b=>(u b:Int)*(T a b c:Int)) n - (dl a c:Int))+(y a:Int)*(dl a c:Int))=(fun a=>(y a:Int)*sI (fun b=>(u b:Int)*(T a b c:Int)) n):=by funext a;grind
      rw [h3] at h1;omega
    rw [this];exact Da fun a ha=>Int.dvd_mul_of_dvd_right (hl a ha c hc)
  have e2:(p:Int)∣sI (fun b=>(u b:Int)*sI (fun a=>(y a:Int)*(T a b c:Int)) n) n - (u c:Int):=by
    have:sI (fun b=>(u b:Int)*sI (fun a=>(y a:Int)*(T a b c:Int)) n) n - (u c:Int)=sI (fun b=>(u b:Int)*(sI (fun a=>(y a:Int)*(T a b c:Int)) n - (dl b c:Int))) n:=by
      have h1:=D6 (fun b=>(u b:Int)*(sI (fun a=>(y a:Int)*(T a b c:Int)) n - (dl b c:Int))) (fun b=>(u b:Int)*(dl b c:Int)) n;have h2:sI (fun b=>(u b:Int)*(dl b c:Int)) n=u c:=by
        rw [Cs hc]
        . simp [dl]
        . intro i _ hH;simp [dl,hH]
      have h3:(fun b=>(u b:Int)*(sI (fun a=>(y a:Int)*(T a b c:Int)) n - (dl b c:Int))+(u b:Int)*(dl b c:Int))=(fun b=>(u b:Int)*sI (fun a=>(y a:Int)*(T a b c:Int)) n):=by funext a;grind
      rw [h3] at h1;omega
    rw [this];exact Da fun a ha=>Int.dvd_mul_of_dvd_right (hr a ha c hc)
  have e3:sI (fun a=>(y a:Int)*sI (fun b=>(u b:Int)*(T a b c:Int)) n) n=sI (fun b=>(u b:Int)*sI (fun a=>(y a:Int)*(T a b c:Int)) n) n:=by
    have h1:∀ a,(y a:Int)*sI (fun b=>(u b:Int)*(T a b c:Int)) n=sI (fun b=>(y a:Int)*((u b:Int)*(T a b c:Int))) n:=fun a=>(Ct _ _ _).symm;have h2:∀ b,(u b:Int)*sI (fun a=>(y a:Int)*(T a b c:Int)) n=sI (fun a=>(u b:Int)*((y a:Int)*(T a b c:Int))) n:=fun a=>(Ct _ _ _).symm;simp only [h1,h2];rw [C9];exact Ao fun i _=>Ao fun j _=>by grind
  rw [e3] at e1;have:=Int.dvd_sub e2 e1
  rwa [show ∀ s:Int,s - (u c:Int) - (s - (y c:Int))=(y c:Int) - (u c:Int) from fun s=>by omega] at this
theorem UnitI.unique {p n:Nat}{T:Nat->Nat->Nat->Nat}{u y:Nat->Nat}(hu:UnitI p n T u)(hy:UnitI p n T y):y=u:=by
  funext c
  by_cases hc:c<n
  . exact DD (hy.small c) (hu.small c) (JL hu.left hy.right hc)
  . rw [hu.out c (by omega),hy.out c (by omega)]
def fM (n:Nat) (T:Nat->Nat->Nat->Nat) (r c:Nat):Nat:=if c<n then T c (r / n) (r%n) else if r / n=r%n then 1 else 0
theorem OX {n:Nat}{T:Nat->Nat->Nat->Nat}{x:Nat->Nat}{r:Nat}:dot (n+1) (ci (fM n T r)) (Fv n x)=sI (fun a=>(x a:Int)*(T a (r / n) (r%n):Int)) n - (dl (r / n) (r%n):Int):=by
  unfold dot
  simp only [sI];have e1:sI (fun c=>ci (fM n T r) c*Fv n x c) n=sI (fun a=>(x a:Int)*(T a (r / n) (r%n):Int)) n:=Ao fun c hc=>by
    rw [GU hc];simp only [ci,fM,if_pos hc];exact Int.mul_comm _ _
  rw [e1,Gz];have e2:ci (fM n T r) n=(dl (r / n) (r%n):Int):=by simp [ci,fM,dl]
  rw [e2];omega
theorem MI {p n:Nat}{T:Nat->Nat->Nat->Nat}{x:Nat->Nat}(hn:0<n):Ker p (n+1) (fM n T) (n*n) (Fv n x)↔∀ i,i<n->∀ c,c<n->(p:Int)∣sI (fun a=>(x a:Int)*(T a i c:Int)) n - (dl i c:Int):=by
  constructor
  . intro h i hi c hc
    have hlt:i*n+c<n*n:=by
      have h1:(i+1)*n<=n*n:=Nat.mul_le_mul_right n hi;have h2:(i+1)*n=i*n+n:=Nat.succ_mul i n
      omega
    have:=h (i*n+c) hlt;rw [OX] at this;have e1:(i*n+c) / n=i:=by rw [Nat.mul_comm,Nat.mul_add_div hn,Nat.div_eq_of_lt hc];omega
    have e2:(i*n+c)%n=c:=by rw [Nat.mul_comm,Nat.mul_add_mod,Nat.mod_eq_of_lt hc]
    rwa [e1,e2] at this
  . intro h r hr
    rw [OX];exact h _ ((Nat.div_lt_iff_lt_mul hn).2 hr) _ (Nat.mod_lt _ hn)
theorem OT {p n k:Nat}{E:Nat->Nat->Nat}{ld:Nat->Nat}{T:Nat->Nat->Nat->Nat}(hp:0<p)(hn:0<n)(h:Rref p (n+1) E k ld)(hk:∀ x,Ker p (n+1) E k x↔Ker p (n+1) (fM n T) (n*n) x)(hf:Full p n E k ld)
    (hl:∀ i,i<n->∀ c,c<n->(p:Int)∣sI (fun b=>((if b<n then E b n else 0:Nat):Int)*(T i b c:Int)) n - (dl i c:Int)):UnitI p n T (fun c=>if c<n then E c n else 0):=by
  have hkk:=hf.k;refine ⟨fun c=>?_,fun c hc=>by simp [show ¬ c<n by omega],?_,hl⟩
  . split
    . rename_i hc;exact h.small c (by omega) n (by omega)
    . exact hp
  . have:=(FY h hf (fun c=>if c<n then E c n else 0) (fun i hi=>by simp only [if_pos hi];exact h.small i (by omega) n (by omega))).2 (fun i hi=>by simp only [if_pos hi])
    exact (MI hn).1 ((hk _).1 this)
theorem HV {p n k:Nat}{E:Nat->Nat->Nat}{ld:Nat->Nat}{T:Nat->Nat->Nat->Nat}{u:Nat->Nat}(hp:2<=p)(hn:0<n)(h:Rref p (n+1) E k ld)(hk:∀ x,Ker p (n+1) E k x↔Ker p (n+1) (fM n T) (n*n) x)(hu:UnitI p n T u) :
    Full p n E k ld/\(fun c=>if c<n then E c n else 0)=u:=by
  have hK:=(hk _).2 ((MI hn).2 hu.right);have hf:=EO hp h u (fun i _=>hu.small i) hK (fun y hy hyK i hi=>DD (hy i hi) (hu.small i) (JL hu.left ((MI hn).1 ((hk _).1 hyK)) hi));refine ⟨hf,funext fun c=>?_⟩
  by_cases hc:c<n
  . rw [if_pos hc];exact ((FY h hf u (fun i _=>hu.small i)).1 hK c hc).symm
  . rw [if_neg hc,hu.out c (by omega)]
end Go.Ech
namespace Go.Sw
open Go Go.RowKit
variable {P : Program}
section
variable {ops : List Oper} {Q : Exit -> Act -> World -> Prop} {n : Nat} {F : List (Nat × Value)}
def FA:List Oper->Nat->Bool
  | [],_=>true
  | o::r,i=>(o.after.toList.all fun e=>!(Region.binds .any e) || Nat.blt e.on i) && FA r (i+1)
theorem Bk:∀ {l:List Oper} {i:Nat},FA l i=true->∀ j o,l[j]? = some o->∀ e∈o.after,Region.binds .any e=true->e.on<i+j
  | [],_,_,j,o,h,_,_=>by simp at h
  | x :: r, i, hb, j, o, h, e, he => by
    intro hJ
    simp only [FA,Bool.and_eq_true,List.all_eq_true] at hb
    cases j with
    | zero=>simp at h;subst h;have:=hb.1 e (by simpa using he);rw [hJ] at this;simpa using this
    | succ j=>have:=Bk hb.2 j o (by simpa using h) e he hJ;omega
def Fj (ops:List Oper) (k:Nat):Bool:=FA ops 0 && Fc (MY ops []) ops.length ops.length k
def FB (n:Nat) (F:List (Nat×Value)):List Oper->List Nat->Bool
  | [],_=>true
  | o :: r, seen => o.guard.isNone && (match o.dst with
    | some d=>Nat.blt d n && (lk F d).isNone && !(Cu d seen) && FB n F r (d::seen)
    | none=>FB n F r seen)
theorem CX:∀ {l:List Oper} {seen:List Nat},FB n F l seen=true->∀ (i:Nat) (o:Oper),l[i]? = some o->o.guard=none/\∀ d,o.dst=some d->d<n/\lk F d=none/\d ∉ seen/\(∀ (j:Nat) (o':Oper),j<i->l[j]? = some o'->o'.dst≠some d)
  | [],_,_,i,o,h=>by simp at h
  | x :: r, seen, hb, i, o, h => by
    simp only [FB,Bool.and_eq_true] at hb
    obtain ⟨hgn,hb⟩:=hb
    cases hx:x.dst with
    | none =>
      simp only [hx] at hb
      cases i with
      | zero =>
        simp at h;subst h
        exact ⟨by simpa using hgn,fun d hd=>by rw [hx] at hd;cases hd⟩
      | succ i =>
        obtain ⟨g1,g2⟩:=CX hb i o (by simpa using h)
        refine ⟨g1,fun d hd=>⟨(g2 d hd).1,(g2 d hd).2.1,(g2 d hd).2.2.1,fun j o' hj ho'=>?_⟩⟩
        cases j with
        | zero=>simp at ho';subst ho';rw [hx];exact fun e=>by cases e
        | succ j=>exact (g2 d hd).2.2.2 j o' (by omega) (by simpa using ho')
    | some d0 =>
      simp only [hx,Bool.and_eq_true,Bool.not_eq_true',Option.isNone_iff_eq_none] at hb
      obtain ⟨⟨⟨h1,h2⟩,h3⟩,h4⟩:=hb
      cases i with
      | zero =>
        simp at h;subst h
        refine ⟨by simpa using hgn,fun d hd=>?_⟩
        rw [hx] at hd;obtain rfl:=Option.some.inj hd
        exact ⟨Nat.blt_eq.mp h1,h2,(fun hm=>by rw [memNat_iff.2 hm] at h3;cases h3),(fun j o' hj=>by omega)⟩
      | succ i =>
        obtain ⟨g1,g2⟩:=CX h4 i o (by simpa using h)
        refine ⟨g1,fun d hd=>⟨(g2 d hd).1,(g2 d hd).2.1,fun hm=>(g2 d hd).2.2.1 (List.mem_cons_of_mem _ hm),fun j o' hj ho'=>?_⟩⟩
        cases j with
        | zero=>simp at ho';subst ho';rw [hx];intro e;obtain rfl:=Option.some.inj e;exact (g2 _ hd).2.2.1 (List.mem_cons_self ..)
        | succ j=>exact (g2 d hd).2.2.2 j o' (by omega) (by simpa using ho')
def Lg (ops:List Oper) (k s:Nat) (φ:Nat->Value->Prop) (o:Oper) (a:Act):Prop:=
  ∀ j,Nat.blt j k=true->Nat.beq j s=false->B4 o j=true->φ j (a.tmps.getD (Br ops j) undef)
def Gu (ops:List Oper) (s i:Nat):Bool:=match ops[s]? with | some o=>B4 o i | none=>false
def StepsS (P:Program) (ops:List Oper) (k s n:Nat) (F:List (Nat×Value)) (S:Bool->World->Prop) (φ:Nat->Value->Prop):List Oper->Nat->Prop
  | [],_=>True
  | o::r,i=>(if Nat.beq i s=true then ∀ a w,Fr n a F->S false w->Lg ops k s φ o a->Does P o a w (fun _ w'=>S true w')
      else ∀ a w b,Fr n a F->S b w->(Gu ops s i=true->b=false)->Lg ops k s φ o a->Does P o a w (fun v w'=>S b w'/\φ i v))/\StepsS P ops k s n F S φ r (i+1)
theorem StepsS.get {k s:Nat}{S:Bool->World->Prop}{φ:Nat->Value->Prop}:∀ {l:List Oper} {i:Nat},StepsS P ops k s n F S φ l i->∀ (j:Nat) (o:Oper),l[j]? = some o->
    (if Nat.beq (i+j) s=true then ∀ a w,Fr n a F->S false w->Lg ops k s φ o a->Does P o a w (fun _ w'=>S true w')
      else ∀ a w b,Fr n a F->S b w->(Gu ops s (i+j)=true->b=false)->Lg ops k s φ o a->Does P o a w (fun v w'=>S b w'/\φ (i+j) v))
  | [],_,_,j,o,h=>by simp at h
  | x :: r, i, hs, j, o, h => by
    cases j with
    | zero=>simp at h;subst h;exact hs.1
    | succ j=>have:=hs.2.get j o (by simpa using h);rwa [show i+1+j=i+(j+1) by omega] at this
theorem H5 {S:Bool->World->Prop}{id:Nat}(k s:Nat){a:Act}{w:World}(hm:P.follows .mixedOrders=true)(hk:Fj ops k=true)(hsk:Nat.blt s k=true)(hsl:Nat.blt s ops.length=true)(O:Fr n a F)(hdst:FB n F (ops.take k) []=true)(hdall:∀ (j:Nat) (o:Oper),(ops.take k)[j]? = some o->j≠s->o.dst≠none)(hS:S false w)
    (hdr:∀ b w,S b w->S b w.drew) (φ:Nat->Value->Prop)
    (hsteps:StepsS P ops k s n F S φ (ops.take k) 0)
    (hend:∀ a w,Fr n a F->S true w->(∀ i,Nat.blt i k=true->Nat.blt i ops.length=true->Nat.beq i s=false->φ i (a.tmps.getD (Br ops i) undef))->wpList P ops.toArray Q (ops.drop k) a w) :
    (Code.region id ops.toArray true).wp P Q a w:=by
  refine wp_region_any hm ?_;simp only [Fj,Bool.and_eq_true] at hk;obtain ⟨hback,htail⟩:=hk;have hge:∀ (i:Nat),ops.toArray[i]? = ops[i]?:=fun i=>by simp
  have hreach:∀ i j,k<=i->i<ops.length->j<i->Reach ops i j:=fun i j h1 h2 h3=>
    EM ops [] (fun i=>by simp) (fun m j h=>by simp at h) i j (DK htail i h1 h2 (by omega) j h3)
  have edge_listed:∀ {i:Nat} {o:Oper} {listed:Array Bool} {j:Nat},i∈Region.ready .any ops.toArray listed->ops[i]? = some o->B4 o j=true->listed.getD j false=true:=by
    intro i o listed j hi ho he;obtain ⟨_,o',ho',hall⟩:=mem_ready.1 hi;rw [hge,ho] at ho';obtain rfl:=Option.some.inj ho';simp only [B4,List.any_eq_true,Bool.and_eq_true] at he;obtain ⟨e,hm',hb,hj⟩:=he;obtain rfl:=Nat.eq_of_beq_eq_true hj;exact hall e (by simpa using hm') hb
  have reach_listed:∀ {listed:Array Bool},(∀ (j:Nat) o,ops[j]? = some o->listed.getD j false=true->∀ e∈o.after,Region.binds .any e=true->listed.getD e.on false=true)->∀ i j,Reach ops i j->(∀ o m,ops[i]? = some o->B4 o m=true->listed.getD m false=true)->listed.getD j false=true:=by
    intro listed hcl i j hr
    induction hr with
    | one ho he=>intro h;exact h _ _ ho he
    | more ho he _ ih =>
      intro h;have hm':=h _ _ ho he;refine ih (fun o m ho2 he2=>?_);simp only [B4,List.any_eq_true,Bool.and_eq_true] at he2;obtain ⟨e,hin,hb,hj⟩:=he2;obtain rfl:=Nat.eq_of_beq_eq_true hj;exact hcl _ o ho2 hm' e (by simpa using hin) hb
  have tail:∀ (f m:Nat) (listed:Array Bool) (a:Act) (w:World),k<=m->ops.length - m<=f->(∀ j,j<m->j<ops.length->listed.getD j false=true)->(∀ j,m<=j->j<ops.length->listed.getD j true=false)->
      wpList P ops.toArray Q (ops.drop m) a w->wpAny P .any ops.toArray Q f listed a w:=by
    intro f
    induction f with
    | zero =>
      intro m listed a w hkm hf h1 h2 h;rw [List.drop_eq_nil_of_le (by omega)] at h;refine ⟨?_,h⟩
      cases hr:Region.ready .any ops.toArray listed with
      | nil=>rfl
      | cons i r =>
        obtain ⟨g1,o,ho,_⟩:=mem_ready.1 (hr ▸ List.mem_cons_self .. : i∈Region.ready .any ops.toArray listed);rw [hge] at ho;have hi:=(List.getElem?_eq_some_iff.1 ho).1;have:=h1 i (by omega) hi
        simp [Array.getD_eq_getD_getElem?] at this g1
        cases hh:listed[i]?<;>simp [hh] at this g1
        rw [this] at g1;cases g1
    | succ f ih =>
      intro m listed a w hkm hf h1 h2 h;have only:∀ i∈Region.ready .any ops.toArray listed,i=m:=by
        intro i hi;obtain ⟨g1,o,ho,hall⟩:=mem_ready.1 hi;have ho':=ho;rw [hge] at ho';have hil:=(List.getElem?_eq_some_iff.1 ho').1
        by_cases hlt:i<m
        . have:=h1 i hlt hil
          simp [Array.getD_eq_getD_getElem?] at this g1
          cases hh:listed[i]?<;>simp [hh] at this g1
          rw [this] at g1;cases g1
        . by_cases e:i=m
          . exact e
          . have:=reach_listed (listed:=listed) (fun j o hj hl e he hJ=>by
                have hO:=(List.getElem?_eq_some_iff.1 hj).1;have hjm:j<m:=by
                  rcases Nat.lt_or_ge j m with h | h
                  . exact h
                  . have h3:=h2 j h hO
                    simp [Array.getD_eq_getD_getElem?] at hl h3
                    cases hh:listed[j]?<;>simp [hh] at hl h3
                    rw [hl] at h3;cases h3
                have:=Bk hback j o hj e he hJ;exact h1 e.on (by omega) (by omega)) i m (hreach i m (by omega) hil (by omega)) (fun o2 q ho2 he2=>by
                rw [ho'] at ho2;obtain rfl:=Option.some.inj ho2;exact edge_listed hi ho' he2)
            have h3:=h2 m (Nat.le_refl _) (by omega)
            simp [Array.getD_eq_getD_getElem?] at this h3
            cases hh:listed[m]?<;>simp [hh] at this h3
            rw [this] at h3;cases h3
      refine ⟨fun hr=>?_,fun i hi=>?_⟩
      . by_cases hml:m<ops.length
        . exfalso
          have:m∈Region.ready .any ops.toArray listed:=by
            refine mem_ready.2 ⟨h2 m (Nat.le_refl _) hml,ops[m],by simp [hml],fun e he hJ=>?_⟩;have:=Bk hback m ops[m] (by simp [hml]) e he hJ;exact h1 e.on (by omega) (by omega)
          rw [hr] at this;cases this
        . rw [List.drop_eq_nil_of_le (by omega)] at h;exact h
      . obtain rfl:=only i hi
        obtain ⟨g1,o,ho,_⟩:=mem_ready.1 hi;rw [hge] at ho;have hil:=(List.getElem?_eq_some_iff.1 ho).1;have hdrop:ops.drop i=o::ops.drop (i+1):=by
          rw [List.drop_eq_getElem_cons hil];congr 1;exact (List.getElem?_eq_some_iff.1 ho).2
        rw [hdrop] at h;have K:∀ a w,wpList P ops.toArray Q (ops.drop (i+1)) a w->wpAny P .any ops.toArray Q f (listed.setIfInBounds i true) a w:=by
          intro a w hh;refine ih (i+1) _ a w (by omega) (by omega) (fun j hj hO=>?_) (fun j hj hO=>?_) hh
          . by_cases e:i=j
            . subst e
              have hsz:i<listed.size:=by
                rcases Nat.lt_or_ge i listed.size with h' | h'
                . exact h'
                . simp [Array.getElem?_eq_none h'] at g1
              simp [hsz]
            . rw [getD_set_ne false e];exact h1 j (by omega) hO
          . rw [getD_set_ne true (by omega)];exact h2 j (by omega) hO
        unfold wpOp
        rw [hge,ho]
        unfold wpList at h
        show (if Region.wanted o (yielded ops.toArray a.tmps) then _ else _)
        split
        . rename_i hw
          rw [if_pos hw] at h;exact h.imp (Oper.wp_mono K) (fun x=>x)
        . rename_i hw
          rw [if_neg hw] at h;exact K _ _ h
  have hskl:s<ops.length:=Nat.blt_eq.mp hsl;have hsk':s<k:=Nat.blt_eq.mp hsk;have hnodst:∀ (j:Nat) (o:Oper),(ops.take k)[j]? = some o->j≠s->o.dst≠none:=fun j o hj hH=>hdall j o hj hH;have head:∀ (f:Nat) (listed:Array Bool) (a:Act) (w:World),listed.size=ops.length->(List.range ops.length).countP (fun i=>!listed.getD i true)<=f->(∀ j,k<=j->j<ops.length->listed.getD j true=false)->(∀ (j:Nat) o,ops[j]? = some o->listed.getD j false=true->∀ e∈o.after,Region.binds .any e=true->listed.getD e.on false=true)->
      Fr n a F->S (listed.getD s false) w->(∀ i,i<k->i<ops.length->i≠s->listed.getD i false=true->φ i (a.tmps.getD (Br ops i) undef))->wpAny P .any ops.toArray Q f listed a w:=by
    intro f
    induction f with
    | zero =>
      intro listed a w hsz hc h2 hcl O hS hφ';have all:∀ j,j<ops.length->listed.getD j true=true:=by
        intro j hj;have h0:(List.range ops.length).countP (fun i=>!listed.getD i true)=0:=by omega
        have:=List.countP_eq_zero.1 h0 j (by simpa using hj)
        simpa using this
      have all':∀ j,j<ops.length->listed.getD j false=true:=by
        intro j hj;have:=all j hj;have hjs:j<listed.size:=by omega
        simpa [Array.getD_eq_getD_getElem?,hjs] using this
      have hlen:ops.length<=k:=by
        rcases Nat.lt_or_ge k ops.length with h | h
        . have e1:=h2 k (Nat.le_refl _) h
          rw [all k h] at e1;cases e1
        . exact h
      refine tail 0 k listed a w (Nat.le_refl _) (by omega) (fun j _ hj=>all' j hj) (fun j hj hO=>by omega)<|hend a w O (by rw [all' s hskl] at hS;exact hS) (fun i hi hil hH=>hφ' i (Nat.blt_eq.mp hi) (Nat.blt_eq.mp hil) (fun e=>by subst e;simp at hH) (all' i (Nat.blt_eq.mp hil)))
    | succ f ih =>
      intro listed a w hsz hc h2 hcl O hS hφ'
      by_cases all:∀ j,j<k->j<ops.length->listed.getD j false=true
      . refine tail (f+1) k listed a w (Nat.le_refl _) ?_ all h2 (hend a w O (by rw [all s hsk' hskl] at hS;exact hS) (fun i hi hil hH=>hφ' i (Nat.blt_eq.mp hi) (Nat.blt_eq.mp hil) (fun e=>by subst e;simp at hH) (all i (Nat.blt_eq.mp hi) (Nat.blt_eq.mp hil))))
        have hge':∀ (m:Nat),m<=ops.length->m - k<=(List.range m).countP (fun i=>!listed.getD i true):=by
          intro m
          induction m with
          | zero=>intro _;simp
          | succ m ihm =>
            intro hm';have:=ihm (by omega);rw [List.range_succ,List.countP_append]
            by_cases hkm:k<=m
            . have e1:=h2 m hkm (by omega)
              have e2:List.countP (fun i=>!listed.getD i true) [m]=1:=by rw [List.countP_cons,e1];rfl
              omega
            . omega
        have:=hge' ops.length (Nat.le_refl _)
        omega
      . have step:∀ i∈Region.ready .any ops.toArray listed,i<k:=by
          intro i hi
          rcases Nat.lt_or_ge i k with h | h
          . exact h
          . exfalso
            obtain ⟨g1,o,ho,_⟩:=mem_ready.1 hi;rw [hge] at ho;have hil:=(List.getElem?_eq_some_iff.1 ho).1;exact all (fun j hj hO=>reach_listed hcl i j (hreach i j h hil (by omega)) (fun o2 q ho2 he2=>by
              rw [ho] at ho2;obtain rfl:=Option.some.inj ho2;exact edge_listed hi ho he2))
        refine ⟨fun hr=>?_,fun i hi=>?_⟩
        . exfalso
          apply all
          intro j
          induction j using Nat.strongRecOn with
          | _ j ihj =>
            intro hjk hO
            cases hl:listed.getD j false with
            | true=>rfl
            | false =>
              have hjs:j<listed.size:=by omega
              have hm':j∈Region.ready .any ops.toArray listed:=by
                refine mem_ready.2 ⟨?_,ops[j],by simp [hO],fun e he hJ=>?_⟩
                . simpa [Array.getD_eq_getD_getElem?,hjs] using hl
                . have:=Bk hback j ops[j] (by simp [hO]) e he hJ
                  exact ihj e.on (by omega) (by omega) (by omega)
              rw [hr] at hm';cases hm'
        . have hik:=step i hi
          obtain ⟨g1,o,ho,hall'⟩:=mem_ready.1 hi;rw [hge] at ho;have hil:=(List.getElem?_eq_some_iff.1 ho).1;have hti:(ops.take k)[i]? = some o:=by rw [List.getElem?_take,if_pos hik];exact ho
          obtain ⟨hd6,hdd⟩:=CX hdst i o hti;have hnl:listed.getD i false=false:=by
            have:i<listed.size:=by omega
            simp [Array.getD_eq_getD_getElem?,this] at g1 ⊢;exact g1
          have hdep:Lg ops k s φ o a:=fun j hj hjs he=>by
            have hj':j<k:=Nat.blt_eq.mp hj;have hl:=edge_listed hi ho he;have hO:j<ops.length:=by
              rcases Nat.lt_or_ge j listed.size with h | h
              . omega
              . simp [Array.getElem?_eq_none h] at hl
            exact hφ' j hj' hO (fun e=>by subst e;simp at hjs) hl
          have rest:∀ (v:Value) (w':World),S ((listed.setIfInBounds i true).getD s false) w'->(i≠s->φ i v)->wpAny P .any ops.toArray Q f (listed.setIfInBounds i true) (a.put o.dst v) w':=by
            intro v w' hS' hvi;have hF':Fr n (a.put o.dst v) F:=by
              cases hd:o.dst with
              | none=>exact O
              | some d =>
                obtain ⟨hd2,hd3,_⟩:=hdd d hd;have:=O.put d v (Nat.blt_eq.mpr hd2);refine ⟨this.defers,this.size,fun t u ht=>this.get t u ?_⟩;simp only [lk];have hH:¬ d=t:=fun e=>by subst e;rw [hd3] at ht;cases ht
                rw [KR hH];exact ht
            refine ih _ _ _ (by simpa using hsz) ?_ (fun j hj hO=>?_) (fun j oj hoj hl e he hb=>?_) hF' hS' (fun j hj hO hjs hl=>?_)
            . have:(List.range ops.length).countP (fun j=>!(listed.setIfInBounds i true).getD j true)<(List.range ops.length).countP (fun j=>!listed.getD j true):=by
                refine Es (fun x hx=>?_) ⟨i,by simpa using hil,by simpa using g1,?_⟩
                . by_cases e:i=x
                  . subst e;simp only [g1];rfl
                  . rw [getD_set_ne true e] at hx;exact hx
                . have:i<listed.size:=by omega
                  simp [this]
              omega
            . rw [getD_set_ne true (by omega)];exact h2 j hj hO
            . refine getD_set_true ?_
              by_cases ej:j=i
              . subst ej
                rw [ho] at hoj;obtain rfl:=Option.some.inj hoj;exact hall' e he hb
              . rw [getD_set_ne false (Ne.symm ej)] at hl
                exact hcl j oj hoj hl e he hb
            . by_cases e:j=i
              . subst e
                have hv:=hvi hjs
                cases hd:o.dst with
                | none=>simp only [Br,ho,Option.bind_some,hd] at hv ⊢;exact absurd hd (by
                    intro _;exact hnodst j o hti hjs hd)
                | some d =>
                  obtain ⟨hd2,_⟩:=hdd d hd;have hdo:Br ops j=d:=by simp [Br,ho,hd]
                  rw [hdo];have:(a.put (some d) v).tmps.getD d undef=v:=by simp [Act.put,O.size,hd2]
                  rw [this];exact hv
              . rw [getD_set_ne false (Ne.symm e)] at hl
                have hold:=hφ' j hj hO hjs hl
                cases hd:o.dst with
                | none=>exact hold
                | some d =>
                  obtain ⟨hd2,hd3,_,hd5⟩:=hdd d hd;have hoj:ops[j]? = some ops[j]:=by simp [hO]
                  have htj:(ops.take k)[j]? = some ops[j]:=by rw [List.getElem?_take,if_pos hj];exact hoj
                  have hdn:Br ops j≠d:=by
                    intro e2
                    cases hdj:(ops[j]).dst with
                    | none=>exact hnodst j _ htj hjs hdj
                    | some d' =>
                      have:Br ops j=d':=by simp only [Br,hoj,Option.bind_some,hdj,Option.getD_some]
                      rw [this] at e2;subst e2
                      rcases Nat.lt_or_gt_of_ne e with h | h
                      . exact hd5 j ops[j] h htj hdj
                      . exact ((CX hdst j ops[j] htj).2 _ hdj).2.2.2 i o h hti hd
                  have:(a.put (some d) v).tmps.getD (Br ops j) undef=a.tmps.getD (Br ops j) undef:=by
                    simp [Act.put,Array.getElem?_setIfInBounds_ne (Ne.symm hdn)]
                  rw [this];exact hold
          have hZ:=StepsS.get hsteps i o hti;rw [Nat.zero_add] at hZ
          unfold wpOp
          rw [hge,ho]
          show (if Region.wanted o (yielded ops.toArray a.tmps) then _ else _)
          rw [if_pos (by simp [Region.wanted,hd6])]
          by_cases his:i=s
          . subst his
            rw [if_pos (by simp)] at hZ;rw [hnl] at hS;refine .inl ((hZ a w O hS hdep).run _ _ fun v w' hv=>rest v w' ?_ (fun e=>absurd rfl e));have:i<listed.size:=by omega
            have e1:(listed.setIfInBounds i true).getD i false=true:=by simp [this]
            rw [e1];exact hv
          . rw [if_neg (by simpa using his)] at hZ
            refine .inl ((hZ a w (listed.getD s false) O hS (fun he=>?_) hdep).run _ _ fun v w' hv=>rest v w' ?_ (fun _=>hv.2))
            . cases hb:listed.getD s false with
              | false=>rfl
              | true =>
                exfalso
                unfold Gu at he
                have hos:ops[s]? = some ops[s]:=by simp [hskl]
                rw [hos] at he;simp only [B4,List.any_eq_true,Bool.and_eq_true] at he;obtain ⟨e,hin,hb2,hj⟩:=he;have hj:=Nat.eq_of_beq_eq_true hj;have:=hcl s _ hos hb e (by simpa using hin) hb2;rw [hj,hnl] at this;cases this
            . rw [getD_set_ne false his];exact hv.1
  refine head ops.toArray.size (Array.replicate ops.toArray.size false) a _ (by simp) ?_ (fun j _ hj=>by simp [hj]) (fun j o hj hl e he hJ=>by have hO:=(List.getElem?_eq_some_iff.1 hj).1;simp [hO] at hl) O (by simp [hskl];exact hdr _ _ hS) (fun i _ hi _ hl=>by simp [hi] at hl)
  . have:=List.countP_le_length (l:=List.range ops.length) (p:=fun i=>!(Array.replicate ops.toArray.size false).getD i true)
    simpa using this
end
end Go.Sw
namespace Go.Ech
def upE {α:Type} (f:Nat->α) (m:Nat) (x:α) (i:Nat):α:=if i=m then x else f i
def sw {α:Type} (a b:Nat) (f:Nat->α) (i:Nat):α:=if i=a then f b else if i=b then f a else f i
structure Red (p N m:Nat) (M:Nat->Nat->Nat) (d:Nat) (ld:Nat->Nat):Prop where
  lt:∀ i,i<d->ld i<N
  mono:∀ i j,i<j->j<d->ld i<ld j
  one:∀ i,i<d->M i (ld i)=1
  left:∀ i,i<d->∀ c,c<ld i->M i c=0
  zero:∀ i j,i<d->j<m->i≠j->M j (ld i)=0
  low:∀ i,i<d->∀ j,d<=j->j<m->∀ c,c<=ld i->M j c=0
theorem Red.start {p N m:Nat}{M:Nat->Nat->Nat}{ld:Nat->Nat}:Red p N m M 0 ld:=
  ⟨fun i hi=>absurd hi (by omega),fun i j _ hi=>absurd hi (by omega),fun i hi=>absurd hi (by omega),fun i hi=>absurd hi (by omega),fun i j hi=>absurd hi (by omega),fun i hi=>absurd hi (by omega)⟩
theorem Red.swap {p N m d a b:Nat}{M:Nat->Nat->Nat}{ld:Nat->Nat}(h:Red p N m M d ld)(ha:d<=a)(hb:d<=b)(ha2:a<m)(hb2:b<m)(hdm:d<=m):Red p N m (sw a b M) d ld:=by
  have e:∀ i,i<d->sw a b M i=M i:=fun i hi=>by unfold sw;rw [if_neg (by omega),if_neg (by omega)]
  refine ⟨h.lt,h.mono,fun i hi=>by rw [e i hi];exact h.one i hi,fun i hi c hc=>by rw [e i hi];exact h.left i hi c hc,fun i j hi hj hH=>?_,fun i hi j hj hjm c hc=>?_⟩
  . unfold sw;split
    . exact h.zero i b hi hb2 (by omega)
    . split
      . exact h.zero i a hi ha2 (by omega)
      . exact h.zero i j hi hj hH
  . unfold sw;split
    . exact h.low i hi b hb hb2 c hc
    . split
      . exact h.low i hi a ha ha2 c hc
      . exact h.low i hi j hj hjm c hc
theorem LP {p N m a b:Nat}{M:Nat->Nat->Nat}{x:Nat->Int}(ha:a<m)(hb:b<m):Ker p N (sw a b M) m x↔Ker p N M m x:=by
  have half:∀ {M:Nat->Nat->Nat},Ker p N M m x->Ker p N (sw a b M) m x:=by
    intro M h i hi
    unfold sw;split
    . exact h b hb
    . split
      . exact h a ha
      . exact h i hi
  refine ⟨fun h=>?_,half⟩;have h2:=half h;have:sw a b (sw a b M)=M:=by
    funext i
    unfold sw
    by_cases e1:i=a
    . subst e1;simp;intro e;rw [e]
    . by_cases e2:i=b
      . subst e2;simp [e1]
      . simp [e1,e2]
  rwa [this] at h2
def D5 (p:Nat) (M:Nat->Nat->Nat) (d t:Nat) (sc:Nat->Nat) (i:Nat):Nat->Nat:=if i=d then sc else lsM p (M i) sc (M i t)
theorem Red.step {p N m d t:Nat}{M:Nat->Nat->Nat}{ld sc:Nat->Nat}{v:Nat}(hp:0<p)(h:Red p N m M d ld)(hM1:∀ i c,M i c<p)(hd:d<m)(ht:t<N)(h0:M d t≠0)(hmin:∀ j,d<=j->j<m->∀ c,c<t->M j c=0)
    (hsc:∀ c,sc c=M d c*v%p) (h1:M d t*v%p=1):Red p N m (D5 p M d t sc) (d+1) (upE ld d t):=by
  have hsc1:sc t=1:=by rw [hsc];exact h1
  have hsc0:∀ c,M d c=0->sc c=0:=fun c hc=>by rw [hsc,hc];simp
  have hlt:∀ i,i<d->ld i<t:=fun i hi=>by
    rcases Nat.lt_or_ge (ld i) t with hh | hh
    . exact hh
    . exact absurd (h.low i hi d (Nat.le_refl _) hd t hh) h0
  have keep:∀ i,i≠d->∀ c,sc c=0->D5 p M d t sc i c=M i c:=fun i hi c hc=>by unfold D5;rw [if_neg hi];exact IP (hM1 i c) hc
  have sct:∀ c,c<t->sc c=0:=fun c hc=>hsc0 c (hmin d (Nat.le_refl _) hd c hc);have piv:D5 p M d t sc d=sc:=by unfold D5;simp
  have col:∀ i,i≠d->D5 p M d t sc i t=0:=fun i hi=>by unfold D5;rw [if_neg hi];exact KA hp hsc1
  refine ⟨fun i hi=>?_,fun i j hij hj=>?_,fun i hi=>?_,fun i hi c hc=>?_,fun i j hi hj hH=>?_,fun i hi j hj hjm c hc=>?_⟩
  . unfold upE;split
    . exact ht
    . exact h.lt i (by omega)
  . unfold upE
    rw [if_neg (show i≠d by omega)]
    split
    . exact hlt i (by omega)
    . exact h.mono i j hij (by omega)
  . unfold upE;split
    . rename_i e;rw [e,piv];exact hsc1
    . rename_i e;rw [keep i e _ (sct _ (hlt i (by omega)))];exact h.one i (by omega)
  . unfold upE at hc;split at hc
    . rename_i e;rw [e,piv];exact sct c hc
    . rename_i e
      have:=hlt i (by omega);rw [keep i e c (sct c (by omega))];exact h.left i (by omega) c hc
  . unfold upE;split
    . rename_i e;exact col j (by omega)
    . rename_i e
      by_cases ej:j=d
      . rw [ej,piv];exact sct _ (hlt i (by omega))
      . rw [keep j ej _ (sct _ (hlt i (by omega)))];exact h.zero i j (by omega) hj hH
  . unfold upE at hc;split at hc
    . rename_i e
      by_cases ec:c=t
      . rw [ec];exact col j (by omega)
      . rw [keep j (by omega) c (sct c (by omega))];exact hmin j (by omega) hjm c (by omega)
    . rename_i e
      have:=hlt i (by omega);rw [keep j (by omega) c (sct c (by omega))];exact h.low i (by omega) j (by omega) hjm c hc
theorem LW {p N m d t:Nat}{M:Nat->Nat->Nat}{sc:Nat->Nat}{v:Nat}{x:Nat->Int}(hp:0<p)(hd:d<m)(hsc:∀ c,sc c=M d c*v%p)(h1:M d t*v%p=1):Ker p N (D5 p M d t sc) m x↔Ker p N M m x:=by
  have hs:=HM (p:=p) (N:=N) (f:=M d) (g:=sc) (v:=v) (u:=M d t) (x:=x) (fun c _=>hsc c) h1
  constructor
  . intro h
    have hd':=h d hd
    unfold D5 at hd';rw [if_pos rfl] at hd'
    intro i hi
    by_cases e:i=d
    . rw [e];exact hs.1 hd'
    . have:=h i hi
      unfold D5 at this;rw [if_neg e] at this
      exact (Gk hp hd').1 this
  . intro h i hi
    have hd':=hs.2 (h d hd)
    unfold D5;split
    . exact hd'
    . exact (Gk hp hd').2 (h i hi)
theorem Red.done {p N m:Nat}{M:Nat->Nat->Nat}{d:Nat}{ld:Nat->Nat}(h:Red p N m M d ld)(hM1:∀ i c,M i c<p)(hdm:d<=m):Rref p N M d ld:=
  ⟨h.lt,h.mono,h.one,h.left,fun i j hi hj hH=>h.zero i j hi (by omega) hH,fun i _ c _=>hM1 i c⟩
theorem Mc {p N m d:Nat}{M:Nat->Nat->Nat}{x:Nat->Int}(hdm:d<=m)(hz:∀ j,d<=j->j<m->∀ c,c<N->M j c=0):Ker p N M d x↔Ker p N M m x:=by
  constructor
  . intro h i hi
    by_cases e:i<d
    . exact h i e
    . exact If (hz i (by omega) hi)
  . intro h i hi;exact h i (by omega)
end Go.Ech
