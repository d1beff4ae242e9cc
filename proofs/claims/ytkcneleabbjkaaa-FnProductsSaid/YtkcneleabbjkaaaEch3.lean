import Derived.Test.YtkcneleabbjkaaaSw14
set_option linter.unusedVariables false
set_option linter.unusedSimpArgs false
namespace Go.Ech
def sI (f:Nat→Int):Nat→Int
  | 0=>0
  | n+1=>sI f n+f n
theorem BG {f g:Nat→Int}{n:Nat}(h:∀ i,i<n→f i=g i):sI f n=sI g n:=by
  induction n with
  | zero=>rfl
  | succ n ih=>simp only [sI];rw [ih (fun i hi=>h i (by omega)),h n (by omega)]
theorem Ex {f:Nat→Int}{n:Nat}(h:∀ i,i<n→f i=0):sI f n=0:=by
  induction n with
  | zero=>rfl
  | succ n ih=>simp only [sI];rw [ih (fun i hi=>h i (by omega)),h n (by omega)];rfl
theorem Dx {f:Nat→Int}{n a:Nat}(ha:a<n)(h:∀ i,i<n→i≠a→f i=0):sI f n=f a:=by
  induction n with
  | zero=>omega
  | succ n ih =>
    simp only [sI]
    by_cases e:a=n
    · subst e;rw [Ex (fun i hi=>h i (by omega) (by omega))];omega
    · rw [ih (by omega) (fun i hi=>h i (by omega)),h n (by omega) (by omega)];omega
theorem LB {f:Nat→Int}{n a b:Nat}(ha:a<n)(hb:b<n)(hab:a≠b)(h:∀ i,i<n→i≠a→i≠b→f i=0):sI f n=f a+f b:=by
  induction n with
  | zero=>omega
  | succ n ih =>
    simp only [sI]
    by_cases e:a=n
    · subst e;rw [Dx (a:=b) (by omega) (fun i hi hib=>h i (by omega) (by omega) hib)];omega
    · by_cases e2:b=n
      · subst e2;rw [Dx (a:=a) (by omega) (fun i hi hia=>h i (by omega) hia (by omega))]
      · rw [ih (by omega) (by omega) (fun i hi=>h i (by omega)),h n (by omega) (by omega) (by omega)];omega
theorem Ef (f g:Nat→Int)(n:Nat):sI (fun i=>f i+g i) n=sI f n+sI g n:=by
  induction n with
  | zero=>rfl
  | succ n ih=>simp only [sI];rw [ih];omega
theorem Dj (k:Int)(f:Nat→Int)(n:Nat):sI (fun i=>k*f i) n=k*sI f n:=by
  induction n with
  | zero=>simp [sI]
  | succ n ih=>simp only [sI];rw [ih,Int.mul_add]
theorem DV {p:Int}{f:Nat→Int}{n:Nat}(h:∀ i,i<n→p∣f i):p∣sI f n:=by
  induction n with
  | zero=>exact Int.dvd_zero p
  | succ n ih=>exact Int.dvd_add (ih fun i hi=>h i (by omega)) (h n (by omega))
theorem DY (f:Nat→Nat→Int)(n m:Nat):sI (fun i=>sI (fun j=>f i j) m) n=sI (fun j=>sI (fun i=>f i j) n) m:=by
  induction n with
  | zero=>simp only [sI];exact (Ex fun i _=>rfl).symm
  | succ n ih=>simp only [sI];rw [ih,← Ef]
def dot (N:Nat) (r x:Nat→Int):Int:=sI (fun c=>r c*x c) N
abbrev ci (r:Nat→Nat):Nat→Int:=fun c=>(r c:Int)
def Ker (p N:Nat) (M:Nat→Nat→Nat) (m:Nat) (x:Nat→Int):Prop:=∀ i,i<m→(p:Int)∣dot N (ci (M i)) x
theorem KF {p N:Nat}{r s t x:Nat→Int}{k:Int}(h:∀ c,c<N→(p:Int)∣t c - (r c+k*s c)):(p:Int)∣dot N t x - (dot N r x+k*dot N s x):=by
  unfold dot
  have e:sI (fun c=>t c*x c) N - (sI (fun c=>r c*x c) N+k*sI (fun c=>s c*x c) N)=sI (fun c=>(t c - (r c+k*s c))*x c) N:=by
    rw [← Dj,← Ef];have:sI (fun c=>t c*x c) N=sI (fun c=>(t c - (r c+k*s c))*x c) N+sI (fun c=>r c*x c+k*(s c*x c)) N:=by
      rw [← Ef];exact BG fun c _=>by grind
    omega
  rw [e];exact DV fun c hc=>Int.dvd_mul_of_dvd_left (h c hc)
theorem Dt {p a b:Int}(h:p∣a - b):p∣a↔p∣b:=by
  constructor
  · intro ha;have:=Int.dvd_sub ha h;rwa [show a - (a - b)=b by omega] at this
  · intro hb;have:=Int.dvd_add hb h;rwa [show b+(a - b)=a by omega] at this
theorem MO (N:Nat)(r x y:Nat→Int):dot N r (fun c=>x c+y c)=dot N r x+dot N r y:=by
  unfold dot;rw [← Ef];exact BG fun c _=>by grind
theorem MN (N:Nat)(k:Int)(r x:Nat→Int):dot N r (fun c=>k*x c)=k*dot N r x:=by
  unfold dot;rw [← Dj];exact BG fun c _=>by grind
structure Rref (p N:Nat) (E:Nat→Nat→Nat) (k:Nat) (ld:Nat→Nat):Prop where
  lt:∀ i,i<k→ld i<N
  mono:∀ i j,i<j→j<k→ld i<ld j
  one:∀ i,i<k→E i (ld i)=1
  left:∀ i,i<k→∀ c,c<ld i→E i c=0
  zero:∀ i j,i<k→j<k→i≠j→E j (ld i)=0
  small:∀ i,i<k→∀ c,c<N→E i c<p
def D5 (k:Nat) (ld:Nat→Nat) (c:Nat):Prop:=∃ i,i<k∧ld i=c
instance (k:Nat) (ld:Nat→Nat) (c:Nat):Decidable (D5 k ld c):=inferInstanceAs (Decidable (∃ i,i<k∧ld i=c))
def EX (k:Nat) (ld:Nat→Nat) (c:Nat):Option Nat:=(List.range k).find? (fun i=>ld i == c)
theorem Dd {k:Nat}{ld:Nat→Nat}{c i:Nat}(h:EX k ld c=some i):i<k∧ld i=c:=by
  unfold EX at h
  have h1:=List.find?_some h;have h2:=List.mem_of_find?_eq_some h;exact ⟨by simpa using h2,by simpa using h1⟩
theorem GF {k:Nat}{ld:Nat→Nat}{c:Nat}(h:EX k ld c=none):∀ i,i<k→ld i≠c:=by
  unfold EX at h
  intro i hi e;have:=List.find?_eq_none.1 h i (by simpa using hi)
  simp [e] at this
def free (E:Nat→Nat→Nat) (k:Nat) (ld:Nat→Nat) (c:Nat):Nat→Int:=fun d=>
  if d=c then 1 else match EX k ld d with
    | some j=>-(E j c:Int)
    | none=>0
namespace Rref
variable {p N k : Nat} {E : Nat → Nat → Nat} {ld : Nat → Nat}
theorem inj (h:Rref p N E k ld){i j:Nat}(hi:i<k)(hj:j<k)(e:ld i=ld j):i=j:=by
  rcases Nat.lt_trichotomy i j with hh | hh | hh
  · have:=h.mono i j hh hj;omega
  · exact hh
  · have:=h.mono j i hh hi;omega
theorem ldAt_eq (h:Rref p N E k ld){i:Nat}(hi:i<k):EX k ld (ld i)=some i:=by
  cases e:EX k ld (ld i) with
  | none=>exact absurd rfl (GF e i hi)
  | some j=>have:=Dd e;rw [h.inj this.1 hi this.2]
theorem free_ker (h:Rref p N E k ld){c:Nat}(hc:c<N)(hn:¬ D5 k ld c):Ker p N E k (free E k ld c):=by
  intro i hi;have hne:c≠ld i:=fun e=>hn ⟨i,hi,e.symm⟩;have e:dot N (ci (E i)) (free E k ld c)=0:=by
    unfold dot
    rw [LB hc (h.lt i hi) hne]
    · have h1:free E k ld c c=1:=by simp [free]
      have h2:free E k ld c (ld i) = -(E i c:Int):=by
        unfold free;rw [if_neg (Ne.symm hne),h.ldAt_eq hi]
      rw [h1,h2];simp only [ci,h.one i hi];omega
    · intro d hd hdc hdi
      unfold free;rw [if_neg hdc]
      cases e:EX k ld d with
      | none=>simp
      | some j =>
        obtain ⟨hj,rfl⟩:=Dd e;have:j≠i:=fun e=>hdi (by rw [e])
        simp [ci,h.zero j i hj hi this]
  rw [e];exact Int.dvd_zero _
theorem ker_lead (h:Rref p N E k ld){x:Nat→Int}(hx:Ker p N E k x){i:Nat}(hi:i<k)(hz:∀ d,ld i<d→d<N→x d=0):(p:Int)∣x (ld i):=by
  have:=hx i hi
  unfold dot at this
  rw [Dx (h.lt i hi)] at this
  · simpa [ci,h.one i hi] using this
  · intro d hd hne
    rcases Nat.lt_or_gt_of_ne hne with hh | hh
    · simp [ci,h.left i hi d hh]
    · simp [hz d hh hd]
end Rref
theorem MC {k k':Nat}{ld ld':Nat→Nat}(hm:∀ i j,i<j→j<k→ld i<ld j)(hm':∀ i j,i<j→j<k'→ld' i<ld' j)(h:∀ c,D5 k ld c↔D5 k' ld' c) :
    k=k'∧∀ i,i<k→ld i=ld' i:=by
  have half:∀ {k k':Nat} {ld ld':Nat→Nat},(∀ i j,i<j→j<k→ld i<ld j)→(∀ i j,i<j→j<k'→ld' i<ld' j)→(∀ c,D5 k ld c↔D5 k' ld' c)→∀ i,(∀ j,j<i→j<k∧j<k'∧ld j=ld' j)→i<k→i<k'∧ld' i≤ld i:=by
    intro k k' ld ld' hm hm' h i hall hi;obtain ⟨j,hj,e⟩:=(h (ld i)).1 ⟨i,hi,rfl⟩;have hij:i≤j:=by
      rcases Nat.lt_or_ge j i with hh | hh
      · have:=hall j hh;have:=hm j i hh hi;omega
      · exact hh
    refine ⟨by omega,?_⟩
    by_cases e2:i=j
    · subst e2;omega
    · have:=hm' i j (by omega) hj;omega
  have key:∀ i,(∀ j,j<i→j<k∧j<k'∧ld j=ld' j)→(i<k↔i<k')∧(i<k→ld i=ld' i):=by
    intro i hall;have a:=half hm hm' h i hall;have b:=half hm' hm (fun c=>(h c).symm) i (fun j hj=>⟨(hall j hj).2.1,(hall j hj).1,(hall j hj).2.2.symm⟩);refine ⟨⟨fun x=>(a x).1,fun x=>(b x).1⟩,fun x=>?_⟩;have:=a x;have:=b this.1;omega
  have all:∀ i,i≤k→i≤k'→∀ j,j<i→j<k∧j<k'∧ld j=ld' j:=by
    intro i
    induction i with
    | zero=>intro _ _ j hj;omega
    | succ i ih =>
      intro h1 h2 j hj;have hi:=ih (by omega) (by omega)
      by_cases e:j=i
      · subst e;exact ⟨by omega,by omega,(key j hi).2 (by omega)⟩
      · exact hi j (by omega)
  have hk:k=k':=by
    rcases Nat.lt_trichotomy k k' with hh | hh | hh
    · have:=(key k (all k (Nat.le_refl _) (by omega))).1.2 hh;omega
    · exact hh
    · have:=(key k' (all k' (by omega) (Nat.le_refl _))).1.1 hh;omega
  exact ⟨hk,fun i hi=>(all k (Nat.le_refl _) (by omega) i hi).2.2⟩
end Go.Ech
namespace Go.Ech
def primeN (p:Nat):Prop:=p=2∨p=3∨p=5∨p=7∨p=11∨p=13
theorem primeN.two {p:Nat}(h:primeN p):2≤p:=by unfold primeN at h;omega
theorem primeN.le {p:Nat}(h:primeN p):p≤13:=by unfold primeN at h;omega
def lsM (p:Nat) (f h:Nat→Nat) (k c:Nat):Nat:=(((f c:Int) - (k:Int)*(h c:Int))%(p:Int)).toNat
theorem DZ {p:Nat}{f h:Nat→Nat}{k c:Nat}(hp:0<p):(lsM p f h k c:Int)=((f c:Int) - (k:Int)*(h c:Int))%(p:Int):=
  Int.toNat_of_nonneg (Int.emod_nonneg _ (by omega))
theorem Eg {p:Nat}{f h:Nat→Nat}{k c:Nat}(hp:0<p):lsM p f h k c<p:=by
  have:=Int.emod_lt_of_pos ((f c:Int) - (k:Int)*(h c:Int)) (show (0:Int)<p by omega);have e:=DZ (f:=f) (h:=h) (k:=k) (c:=c) hp
  omega
theorem G7 {p:Nat}{f h:Nat→Nat}{k c:Nat}(hf:f c<p)(hh:h c=0):lsM p f h k c=f c:=by
  have e:=DZ (f:=f) (h:=h) (k:=k) (c:=c) (show 0<p by omega);rw [hh] at e;rw [show (f c:Int) - (k:Int)*((0:Nat):Int)=f c by simp,Int.emod_eq_of_lt (by omega) (by omega)] at e
  omega
theorem IU {p:Nat}{f h:Nat→Nat}{c:Nat}(hp:0<p)(hh:h c=1):lsM p f h (f c) c=0:=by
  have e:=DZ (f:=f) (h:=h) (k:=f c) (c:=c) hp;rw [hh,show (f c:Int) - (f c:Int)*((1:Nat):Int)=0 by omega,Int.zero_emod] at e
  omega
theorem DS (p x:Int):p∣x%p - x:=⟨-(x / p),by have:=Int.mul_ediv_add_emod x p;grind⟩
theorem MA {p:Nat}{f h:Nat→Nat}{k c:Nat}(hp:0<p):(p:Int)∣ci (lsM p f h k) c - (ci f c+(-(k:Int))*ci h c):=by
  show (p:Int)∣(lsM p f h k c:Int) - _
  rw [DZ hp];have:=DS (p:Int) ((f c:Int) - (k:Int)*(h c:Int))
  rwa [show ((f c:Int) - (k:Int)*(h c:Int))%(p:Int) - (ci f c+(-(k:Int))*ci h c)=((f c:Int) - (k:Int)*(h c:Int))%(p:Int) - ((f c:Int) - (k:Int)*(h c:Int)) by show _ - ((f c:Int)+(-(k:Int))*(h c:Int))=_;grind]
theorem Fc {p N:Nat}{f h:Nat→Nat}{k:Nat}{x:Nat→Int}(hp:0<p)(hx:(p:Int)∣dot N (ci h) x):(p:Int)∣dot N (ci (lsM p f h k)) x↔(p:Int)∣dot N (ci f) x:=by
  have h1:=KF (p:=p) (N:=N) (r:=ci f) (s:=ci h) (t:=ci (lsM p f h k)) (x:=x) (k:=-(k:Int)) (fun c _=>MA hp);rw [Dt h1];have h2:(p:Int)∣-(k:Int)*dot N (ci h) x:=Int.dvd_mul_of_dvd_right hx
  constructor
  · intro h3;have:=Int.dvd_sub h3 h2;rwa [show dot N (ci f) x + -(k:Int)*dot N (ci h) x - -(k:Int)*dot N (ci h) x=dot N (ci f) x by omega] at this
  · intro h3;exact Int.dvd_add h3 h2
theorem Ht {p N:Nat}{f g:Nat→Nat}{v u:Nat}{x:Nat→Int}(hg:∀ c,c<N→g c=f c*v%p)(huv:u*v%p=1):(p:Int)∣dot N (ci g) x↔(p:Int)∣dot N (ci f) x:=by
  have h1:=KF (p:=p) (N:=N) (r:=fun _=>0) (s:=ci f) (t:=ci g) (x:=x) (k:=(v:Int)) (fun c hc=>by
    show (p:Int)∣(g c:Int) - _
    rw [hg c hc];have:=DS (p:Int) ((f c*v:Nat):Int);rw [show (0:Int)+(v:Int)*ci f c=((f c*v:Nat):Int) by show 0+(v:Int)*(f c:Int)=_;rw [Int.natCast_mul,Int.mul_comm];omega]
    exact_mod_cast this)
  have e0:dot N (fun _=>0) x=0:=Ex fun i _=>by simp
  rw [e0] at h1;rw [Dt h1]
  constructor
  · intro h2
    have h3:(p:Int)∣(u:Int)*((v:Int)*dot N (ci f) x):=Int.dvd_mul_of_dvd_right (by simpa using h2);have h4:(p:Int)∣((u*v:Nat):Int) - 1:=by
      have:=DS (p:Int) ((u*v:Nat):Int);have e:((u*v:Nat):Int)%(p:Int)=1:=by exact_mod_cast huv
      rw [e] at this;have:=Int.dvd_neg.2 this
      rwa [show -(1 - ((u*v:Nat):Int))=((u*v:Nat):Int) - 1 by omega] at this
    have h5:(p:Int)∣(((u*v:Nat):Int) - 1)*dot N (ci f) x:=Int.dvd_mul_of_dvd_left h4;have:=Int.dvd_sub h3 h5
    rwa [show (u:Int)*((v:Int)*dot N (ci f) x) - (((u*v:Nat):Int) - 1)*dot N (ci f) x=dot N (ci f) x by rw [Int.natCast_mul];grind] at this
  · intro h2;have:=Int.dvd_mul_of_dvd_right (b:=(v:Int)) h2;simpa using this
def ins {α:Type} (q:Nat) (g:Nat→α) (o:α) (i:Nat):α:=if i<q then g i else if i=q then o else g (i - 1)
theorem Ck {α:Type}{q:Nat}{g:Nat→α}{o:α}{i:Nat}(h:i<q):ins q g o i=g i:=by simp [ins,h]
theorem ins_eq {α:Type}{q:Nat}{g:Nat→α}{o:α}:ins q g o q=o:=by simp [ins]
theorem CV {α:Type}{q:Nat}{g:Nat→α}{o:α}{i:Nat}(h:q<i):ins q g o i=g (i - 1):=by simp [ins,show ¬ i<q by omega,show ¬ i=q by omega]
theorem MG {α:Type}{q k:Nat}{g:Nat→α}{o:α}{P:α→Prop}(hq:q≤k):(∀ i,i<k+1→P (ins q g o i))↔(∀ i,i<k→P (g i))∧P o:=by
  constructor
  · intro h
    refine ⟨fun i hi=>?_,by have:=h q (by omega);rwa [ins_eq] at this⟩
    by_cases e:i<q
    · have:=h i (by omega);rwa [Ck e] at this
    · have:=h (i+1) (by omega);rwa [CV (by omega),Nat.add_sub_cancel] at this
  · intro h i hi
    rcases Nat.lt_trichotomy i q with e | e | e
    · rw [Ck e];exact h.1 i (by omega)
    · subst e;rw [ins_eq];exact h.2
    · rw [CV e];exact h.1 (i - 1) (by omega)
structure Fits (p N:Nat) (E:Nat→Nat→Nat) (k:Nat) (ld:Nat→Nat) (o:Nat→Nat) (t q:Nat):Prop where
  lt:t<N
  one:o t=1
  left:∀ c,c<t→o c=0
  small:∀ c,c<N→o c<p
  zero:∀ i,i<k→o (ld i)=0
  qk:q≤k
  lo:∀ i,i<q→ld i<t
  hi:∀ i,q≤i→i<k→t<ld i
theorem Rref.insert {p N k q t:Nat}{E:Nat→Nat→Nat}{ld o:Nat→Nat}(hp:0<p)(h:Rref p N E k ld)(f:Fits p N E k ld o t q) :
    Rref p N (ins q (fun i=>lsM p (E i) o (E i t)) o) (k+1) (ins q ld t):=by
  have hz:∀ i,i<k→∀ c,c<N→o c=0→lsM p (E i) o (E i t) c=E i c:=fun i hi c hc ho=>G7 (h.small i hi c hc) ho;have gat:∀ i,i<k→lsM p (E i) o (E i t) t=0:=fun i hi=>IU hp f.one;have gone:∀ i,i<k→lsM p (E i) o (E i t) (ld i)=1:=fun i hi=>by rw [hz i hi _ (h.lt i hi) (f.zero i hi)];exact h.one i hi
  have gzero:∀ i j,i<k→j<k→i≠j→lsM p (E j) o (E j t) (ld i)=0:=fun i j hi hj hne=>by rw [hz j hj _ (h.lt i hi) (f.zero i hi)];exact h.zero i j hi hj hne
  have gleft:∀ i,i<k→∀ c,c<ld i→lsM p (E i) o (E i t) c=0:=by
    intro i hi c hc;have hlt:=h.lt i hi
    by_cases e:i<q
    · rw [hz i hi c (by omega) (f.left c (by have:=f.lo i e;omega))];exact h.left i hi c hc
    · have h1:=f.hi i (by omega) hi
      have:E i t=0:=h.left i hi t h1;have e2:=DZ (f:=E i) (h:=o) (k:=E i t) (c:=c) hp;rw [this,h.left i hi c hc] at e2;rw [this];simp at e2;exact e2
  refine ⟨?_,?_,?_,?_,?_,?_⟩
  · intro i hi
    rcases Nat.lt_trichotomy i q with e | e | e
    · rw [Ck e];exact h.lt i (by have:=f.qk;omega)
    · subst e;rw [ins_eq];exact f.lt
    · rw [CV e];exact h.lt _ (by omega)
  · intro i j hij hj
    have hqk:=f.qk
    rcases Nat.lt_trichotomy i q with e | e | e
    · rw [Ck e]
      rcases Nat.lt_trichotomy j q with e2 | e2 | e2
      · rw [Ck e2];exact h.mono i j hij (by omega)
      · subst e2;rw [ins_eq];exact f.lo i e
      · rw [CV e2]
        have h1:=f.lo i e;have h2:=f.hi (j - 1) (by omega) (by omega);omega
    · subst e;rw [ins_eq,CV hij];exact f.hi (j - 1) (by omega) (by omega)
    · rw [CV e,CV (by omega)];exact h.mono (i - 1) (j - 1) (by omega) (by omega)
  · intro i hi
    have hqk:=f.qk
    rcases Nat.lt_trichotomy i q with e | e | e
    · rw [Ck e,Ck e];exact gone i (by omega)
    · subst e;rw [ins_eq,ins_eq];exact f.one
    · rw [CV e,CV e];exact gone (i - 1) (by omega)
  · intro i hi c hc
    have hqk:=f.qk
    rcases Nat.lt_trichotomy i q with e | e | e
    · rw [Ck e] at hc ⊢;exact gleft i (by omega) c hc
    · subst e;rw [ins_eq] at hc ⊢;exact f.left c hc
    · rw [CV e] at hc ⊢;exact gleft (i - 1) (by omega) c hc
  · intro i j hi hj hne
    have hqk:=f.qk
    rcases Nat.lt_trichotomy i q with e | e | e<;>rcases Nat.lt_trichotomy j q with e2 | e2 | e2
    · rw [Ck e,Ck e2];exact gzero i j (by omega) (by omega) hne
    · subst e2;rw [Ck e,ins_eq];exact f.zero i (by omega)
    · rw [Ck e,CV e2];exact gzero i (j - 1) (by omega) (by omega) (by omega)
    · subst e;rw [ins_eq,Ck e2];exact gat j (by omega)
    · omega
    · subst e;rw [ins_eq,CV e2];exact gat (j - 1) (by omega)
    · rw [CV e,Ck e2];exact gzero (i - 1) j (by omega) (by omega) (by omega)
    · subst e2;rw [CV e,ins_eq];exact f.zero (i - 1) (by omega)
    · rw [CV e,CV e2];exact gzero (i - 1) (j - 1) (by omega) (by omega) (by omega)
  · intro i hi c hc
    have hqk:=f.qk
    rcases Nat.lt_trichotomy i q with e | e | e
    · rw [Ck e];exact Eg hp
    · subst e;rw [ins_eq];exact f.small c hc
    · rw [CV e];exact Eg hp
theorem HE {p N k q t:Nat}{E:Nat→Nat→Nat}{o:Nat→Nat}{x:Nat→Int}(hp:0<p)(hq:q≤k) :
    Ker p N (ins q (fun i=>lsM p (E i) o (E i t)) o) (k+1) x↔Ker p N E k x∧(p:Int)∣dot N (ci o) x:=by
  unfold Ker
  rw [MG (P:=fun r=>(p:Int)∣dot N (ci r) x) hq]
  constructor
  · intro h;exact ⟨fun i hi=>(Fc hp h.2).1 (h.1 i hi),h.2⟩
  · intro h;exact ⟨fun i hi=>(Fc hp h.2).2 (h.1 i hi),h.2⟩
def below (k:Nat) (ld:Nat→Nat) (t:Nat):Nat:=((List.range k).find? (fun i=>decide (t<ld i))).getD k
theorem Jv {p N k t:Nat}{E:Nat→Nat→Nat}{ld:Nat→Nat}(h:Rref p N E k ld)(hne:∀ i,i<k→ld i≠t):below k ld t≤k∧(∀ i,i<below k ld t→ld i<t)∧∀ i,below k ld t≤i→i<k→t<ld i:=by
  unfold below
  cases e:(List.range k).find? (fun i=>decide (t<ld i)) with
  | none =>
    have:=List.find?_eq_none.1 e;refine ⟨Nat.le_refl _,fun i hi=>?_,fun i h1 h2=>?_⟩
    · have h3:=this i (by simpa using hi);have:=hne i hi;simp at h3;omega
    · simp at h1;omega
  | some j =>
    rw [List.find?_eq_some_iff_append] at e;obtain ⟨hj,as,bs,hl,has⟩:=e;have hjk:j<k:=by
      have:j∈List.range k:=by rw [hl];simp
      simpa using this
    have hlen:as.length=j:=by
      have h1:(List.range k)[as.length]? = some j:=by rw [hl];simp
      rw [List.getElem?_range (by have:=congrArg List.length hl;simp at this;omega)] at h1;exact Option.some.inj h1
    have hlo:∀ i,i<j→ld i<t:=by
      intro i hi;have h1:as[i]? = some i:=by
        have h2:(List.range k)[i]? = some i:=List.getElem?_range (by omega);rw [hl,List.getElem?_append_left (by omega)] at h2;exact h2
      have h3:=has i (List.mem_of_getElem? h1);have:=hne i (by omega)
      simp at h3;omega
    simp at hj ⊢
    refine ⟨by omega,hlo,fun i h1 h2=>?_⟩
    by_cases e2:i=j
    · subst e2;exact hj
    · have:=h.mono j i (by omega) h2;omega
structure Own (p N:Nat) (E:Nat→Nat→Nat) (k:Nat) (ld r o:Nat→Nat) (j:Nat):Prop where
  small:∀ c,c<N→o c<p
  zero:∀ i,i<j→o (ld i)=0
  ker:∀ x,Ker p N E k x→((p:Int)∣dot N (ci o) x↔(p:Int)∣dot N (ci r) x)
theorem Own.step {p N k j:Nat}{E:Nat→Nat→Nat}{ld r o:Nat→Nat}(hp:0<p)(h:Rref p N E k ld)(ho:Own p N E k ld r o j)(hj:j<k):Own p N E k ld r (lsM p o (E j) (o (ld j))) (j+1):=by
  refine ⟨fun c _=>Eg hp,fun i hi=>?_,fun x hx=>?_⟩
  · by_cases e:i=j
    · subst e;exact IU hp (h.one i hj)
    · rw [G7 (ho.small _ (h.lt i (by omega))) (h.zero i j (by omega) hj e)];exact ho.zero i (by omega)
  · rw [Fc hp (hx j hj)];exact ho.ker x hx
theorem Ker.snoc {p N m:Nat}{M:Nat→Nat→Nat}{x:Nat→Int}:Ker p N M (m+1) x↔Ker p N M m x∧(p:Int)∣dot N (ci (M m)) x:=by
  constructor
  · intro h;exact ⟨fun i hi=>h i (by omega),h m (by omega)⟩
  · intro h i hi
    by_cases e:i=m
    · subst e;exact h.2
    · exact h.1 i (by omega)
theorem JI {p N:Nat}{o:Nat→Nat}{x:Nat→Int}(h:∀ c,c<N→o c=0):(p:Int)∣dot N (ci o) x:=by
  have:dot N (ci o) x=0:=Ex fun i hi=>by simp [ci,h i hi]
  rw [this];exact Int.dvd_zero _
end Go.Ech
namespace Go.Sw
open Go Go.RowKit
variable {P : Program}
def RowsFr (w0:World) (L:Own) (N k:Nat) (f:Nat→Nat→Value) (u:Value) (w':World):Prop:=∃ (D:BI) (β κ:Nat→Nat) (C:Nat→Array Value) (b cap:Nat) (cs:Array Value),
  (∀ x ds,(x,ds)∈D→w0.heap.size≤x∧Blk w' x ds∧∀ (k:Nat) c es,L[k]? = some (some (c,es))→c≠x)∧RowsD D N k β κ C f∧SlAt 1 u (some (b,cs)) k b cap cs (fun i=>.slice (some ⟨β i,0,none⟩) N (κ i))∧(b,cs)∈D
theorem RowsFr.last {w0 w w':World}{L:Own}{N k:Nat}{f:Nat→Nat→Value}{u:Value}(h:RowsFr w0 L N k f u w)(hx:Ext w w'):RowsFr w0 L N k f u w':=by
  obtain ⟨D,β,κ,C,b,cap,cs,h1,h2⟩:=h;exact ⟨D,β,κ,C,b,cap,cs,fun x ds hm=>⟨(h1 x ds hm).1,(h1 x ds hm).2.1.ext hx,(h1 x ds hm).2.2⟩,h2⟩
theorem RowsOut.fresh {X:List Nat}{w0 w w':World}{L:Own}{D:BI}{N k:Nat}{f:Nat→Nat→Value}{u:Value}(hM:MemX X w0 w L D)(h:RowsOut w w' N k f u):RowsFr w0 L N k f u w':=by
  obtain ⟨D',β,κ,C,b,cap,cs,h1,h2⟩:=h;refine ⟨D',β,κ,C,b,cap,cs,fun x ds hm=>⟨Nat.le_trans hM.bel.size (h1 x ds hm).1,(h1 x ds hm).2,fun k c es hk e=>?_⟩,h2⟩;have:=(hM.blk k c es hk).2.lt;have:=(h1 x ds hm).1
  omega
theorem MemX.addR {X:List Nat}{w0 w:World}{L:Own}{D:BI}{N k:Nat}{f:Nat→Nat→Value}{u:Value}(h:MemX X w0 w L D)(hf:RowsFr w0 L N k f u w) :
    ∃ (D':BI) (β κ:Nat→Nat) (C:Nat→Array Value) (b cap:Nat) (cs:Array Value),RowsD (D'++D) N k β κ C f∧SlAt 1 u (some (b,cs)) k b cap cs (fun i=>.slice (some ⟨β i,0,none⟩) N (κ i))∧(b,cs)∈D'++D∧(∀ i,i<k→w0.heap.size≤β i)∧w0.heap.size≤b∧MemX X w0 w L (D'++D):=by
  obtain ⟨D',β,κ,C,b,cap,cs,h1,h2,h3,h4⟩:=hf;refine ⟨D',β,κ,C,b,cap,cs,h2.more (fun x hx=>List.mem_append_left _ hx),h3,List.mem_append_left _ h4,fun i hi=>(h1 _ _ (h2.mem i hi)).1,(h1 _ _ h4).1,h.bel,h.blk,h.apart,fun c ds hm=>?_⟩
  rcases List.mem_append.1 hm with hm | hm
  · exact (h1 c ds hm).2
  · exact h.froz c ds hm
end Go.Sw
namespace Go.Ech
def dl (i c:Nat):Nat:=if i=c then 1 else 0
def Fl (n:Nat) (x:Nat→Nat) (c:Nat):Int:=if c<n then (x c:Int) else -1
theorem GQ {n c:Nat}{x:Nat→Nat}(h:c<n):Fl n x c=x c:=by simp [Fl,h]
theorem Gg {n:Nat}{x:Nat→Nat}:Fl n x n = -1:=by simp [Fl]
theorem DG {p a b:Nat}(ha:a<p)(hb:b<p)(h:(p:Int)∣(a:Int) - (b:Int)):a=b:=by
  obtain ⟨q,hq⟩:=h;have:q=0:=by
    rcases Int.lt_trichotomy q 0 with hh | hh | hh
    · have:=Int.mul_le_mul_of_nonneg_left (show q≤-1 by omega) (show (0:Int)≤p by omega);omega
    · exact hh
    · have:=Int.mul_le_mul_of_nonneg_left (show 1≤q by omega) (show (0:Int)≤p by omega);omega
  subst this;omega
theorem Gf {p a b:Nat}(hb:b<p):(p:Int)∣(a:Int) - (b:Int)↔a%p=b:=by
  have hp:0<p:=by omega
  constructor
  · intro h
    have h2:=DS (p:Int) (a:Int);have h3:=Int.dvd_add h2 h;rw [show (a:Int)%(p:Int) - (a:Int)+((a:Int) - (b:Int))=((a%p:Nat):Int) - (b:Int) by rw [Int.natCast_emod];omega] at h3;exact DG (Nat.mod_lt _ hp) hb h3
  · intro h
    have h2:=Int.dvd_neg.2 (DS (p:Int) (a:Int))
    rwa [show -((a:Int)%(p:Int) - (a:Int))=(a:Int) - (b:Int) by rw [← h,Int.natCast_emod];omega] at h2
structure Full (p n:Nat) (E:Nat→Nat→Nat) (k:Nat) (ld:Nat→Nat):Prop where
  k:k=n
  ld:∀ i,i<n→ld i=i
theorem JJ {p n k:Nat}{E:Nat→Nat→Nat}{ld:Nat→Nat}(h:Rref p (n+1) E k ld)(hf:Full p n E k ld)(x:Nat→Nat){i:Nat}(hi:i<n):dot (n+1) (ci (E i)) (Fl n x)=(x i:Int) - (E i n:Int):=by
  have hk:=hf.k
  unfold dot
  rw [LB (a:=i) (b:=n) (by omega) (by omega) (by omega)]
  · rw [GQ hi,Gg]
    have:E i i=1:=by have:=h.one i (by omega);rwa [hf.ld i hi] at this
    simp only [ci,this];omega
  · intro c hc hci hcn
    have:E i c=0:=by have:=h.zero c i (by omega) (by omega) hci;rwa [hf.ld c (by omega)] at this
    simp [ci,this]
theorem Fh {p n k:Nat}{E:Nat→Nat→Nat}{ld:Nat→Nat}(h:Rref p (n+1) E k ld)(hf:Full p n E k ld)(x:Nat→Nat)(hx:∀ i,i<n→x i<p):Ker p (n+1) E k (Fl n x)↔∀ i,i<n→x i=E i n:=by
  have hk:=hf.k
  constructor
  · intro hK i hi
    have:=hK i (by omega);rw [JJ h hf x hi] at this;exact DG (hx i hi) (h.small i (by omega) n (by omega)) this
  · intro hK i hi
    rw [JJ h hf x (by omega),hK i (by omega),Int.sub_self];exact Int.dvd_zero _
theorem El {p n k:Nat}{E:Nat→Nat→Nat}{ld:Nat→Nat}(hp:2≤p)(h:Rref p (n+1) E k ld)(x:Nat→Nat)(hx:∀ i,i<n→x i<p)(hK:Ker p (n+1) E k (Fl n x))
    (hu:∀ y:Nat→Nat,(∀ i,i<n→y i<p)→Ker p (n+1) E k (Fl n y)→∀ i,i<n→y i=x i):Full p n E k ld:=by
  have hn:¬ D5 k ld n:=by
    rintro ⟨i,hi,e⟩;have:=h.ker_lead hK hi (fun d h1 h2=>by omega);rw [e,Gg] at this;have:=Int.le_of_dvd (by omega) (Int.dvd_neg.2 this)
    omega
  have hc:∀ c,c<n→D5 k ld c:=by
    intro c hc;refine Decidable.byContradiction fun hno=>?_;have hfk:=h.free_ker (show c<n+1 by omega) hno;have hfn:free E k ld c n=0:=by
      unfold free;rw [if_neg (by omega)]
      cases e:EX k ld n with
      | none=>rfl
      | some j=>exact absurd ⟨j,Dd e⟩ hn
    have hfc:free E k ld c c=1:=by simp [free]
    have hy:=hu (fun i=>((x i+free E k ld c i)%(p:Int)).toNat) (fun i _=>by
      have h1:=Int.emod_nonneg (x i+free E k ld c i) (show (p:Int)≠0 by omega);have h2:=Int.emod_lt_of_pos (x i+free E k ld c i) (show (0:Int)<p by omega)
      omega) (fun i hi=>by
      have h1:=hK i hi;have h2:=hfk i hi;have h3:=Int.dvd_add h1 h2;rw [← MO] at h3;refine (Dt ?_).2 h3
      unfold dot
      have e:∀ f g:Nat→Int,sI f (n+1) - sI g (n+1)=sI (fun c=>f c - g c) (n+1):=fun f g=>by
        have:=Ef (fun c=>f c - g c) g (n+1);rw [show (fun i=>(f i - g i)+g i)=f from by funext i;omega] at this;omega
      rw [e];refine DV fun d hd=>?_;rw [← Int.mul_sub];refine Int.dvd_mul_of_dvd_right ?_
      show (p:Int)∣_ - (Fl n x d+free E k ld c d)
      by_cases hdn:d<n
      · rw [GQ hdn,GQ hdn]
        have h4:=Int.emod_nonneg (x d+free E k ld c d) (show (p:Int)≠0 by omega);rw [Int.toNat_of_nonneg h4];exact DS _ _
      · rw [show d=n by omega,Gg,Gg,hfn];simp) c hc
    rw [hfc] at hy;have h1:=hx c hc
    by_cases e:x c+1=p
    · have:((x c:Int)+1)%(p:Int)=0:=by rw [show (x c:Int)+1=p by omega];exact Int.emod_self
      rw [this] at hy;simp at hy;omega
    · rw [Int.emod_eq_of_lt (by omega) (by omega)] at hy;omega
  have:=MC (k':=n) (ld':=fun i=>i) h.mono (fun i j hij _=>hij) (fun c=>⟨fun ⟨i,hi,e⟩=>⟨c,by
      have:=h.lt i hi
      rcases Nat.lt_or_ge c n with hh | hh
      · exact hh
      · exact absurd ⟨i,hi,by omega⟩ hn,rfl⟩,fun ⟨i,hi,e⟩=>by subst e;exact hc i hi⟩)
  exact ⟨this.1,fun i hi=>this.2 i (by omega)⟩
structure UnitI (p n:Nat) (T:Nat→Nat→Nat→Nat) (u:Nat→Nat):Prop where
  small:∀ c,u c<p
  out:∀ c,n≤c→u c=0
  right:∀ i,i<n→∀ c,c<n→(p:Int)∣sI (fun a=>(u a:Int)*(T a i c:Int)) n - (dl i c:Int)
  left:∀ i,i<n→∀ c,c<n→(p:Int)∣sI (fun b=>(u b:Int)*(T i b c:Int)) n - (dl i c:Int)
theorem Hk {p n:Nat}{T:Nat→Nat→Nat→Nat}{u y:Nat→Nat}(hl:∀ i,i<n→∀ c,c<n→(p:Int)∣sI (fun b=>(u b:Int)*(T i b c:Int)) n - (dl i c:Int))
    (hr:∀ i,i<n→∀ c,c<n→(p:Int)∣sI (fun a=>(y a:Int)*(T a i c:Int)) n - (dl i c:Int)) {c:Nat} (hc:c<n):(p:Int)∣(y c:Int) - (u c:Int):=by
  have e1:(p:Int)∣sI (fun a=>(y a:Int)*sI (fun b=>(u b:Int)*(T a b c:Int)) n) n - (y c:Int):=by
    have:sI (fun a=>(y a:Int)*sI (fun b=>(u b:Int)*(T a b c:Int)) n) n - (y c:Int)=sI (fun a=>(y a:Int)*(sI (fun b=>(u b:Int)*(T a b c:Int)) n - (dl a c:Int))) n:=by
      have h1:=Ef (fun a=>(y a:Int)*(sI (fun b=>(u b:Int)*(T a b c:Int)) n - (dl a c:Int))) (fun a=>(y a:Int)*(dl a c:Int)) n;have h2:sI (fun a=>(y a:Int)*(dl a c:Int)) n=y c:=by
        rw [Dx hc]
        · simp [dl]
        · intro i _ hne;simp [dl,hne]
      have h3:(fun a=>(y a:Int)*(sI (fun b=>(u b:Int)*(T a b c:Int)) n - (dl a c:Int))+(y a:Int)*(dl a c:Int))=(fun a=>(y a:Int)*sI (fun b=>(u b:Int)*(T a b c:Int)) n):=by funext a;grind
      rw [h3] at h1;omega
    rw [this];exact DV fun a ha=>Int.dvd_mul_of_dvd_right (hl a ha c hc)
  have e2:(p:Int)∣sI (fun b=>(u b:Int)*sI (fun a=>(y a:Int)*(T a b c:Int)) n) n - (u c:Int):=by
    have:sI (fun b=>(u b:Int)*sI (fun a=>(y a:Int)*(T a b c:Int)) n) n - (u c:Int)=sI (fun b=>(u b:Int)*(sI (fun a=>(y a:Int)*(T a b c:Int)) n - (dl b c:Int))) n:=by
      have h1:=Ef (fun b=>(u b:Int)*(sI (fun a=>(y a:Int)*(T a b c:Int)) n - (dl b c:Int))) (fun b=>(u b:Int)*(dl b c:Int)) n;have h2:sI (fun b=>(u b:Int)*(dl b c:Int)) n=u c:=by
        rw [Dx hc]
        · simp [dl]
        · intro i _ hne;simp [dl,hne]
      have h3:(fun b=>(u b:Int)*(sI (fun a=>(y a:Int)*(T a b c:Int)) n - (dl b c:Int))+(u b:Int)*(dl b c:Int))=(fun b=>(u b:Int)*sI (fun a=>(y a:Int)*(T a b c:Int)) n):=by funext a;grind
      rw [h3] at h1;omega
    rw [this];exact DV fun a ha=>Int.dvd_mul_of_dvd_right (hr a ha c hc)
  have e3:sI (fun a=>(y a:Int)*sI (fun b=>(u b:Int)*(T a b c:Int)) n) n=sI (fun b=>(u b:Int)*sI (fun a=>(y a:Int)*(T a b c:Int)) n) n:=by
    have h1:∀ a,(y a:Int)*sI (fun b=>(u b:Int)*(T a b c:Int)) n=sI (fun b=>(y a:Int)*((u b:Int)*(T a b c:Int))) n:=fun a=>(Dj _ _ _).symm;have h2:∀ b,(u b:Int)*sI (fun a=>(y a:Int)*(T a b c:Int)) n=sI (fun a=>(u b:Int)*((y a:Int)*(T a b c:Int))) n:=fun a=>(Dj _ _ _).symm;simp only [h1,h2];rw [DY];exact BG fun i _=>BG fun j _=>by grind
  rw [e3] at e1;have:=Int.dvd_sub e2 e1
  rwa [show ∀ s:Int,s - (u c:Int) - (s - (y c:Int))=(y c:Int) - (u c:Int) from fun s=>by omega] at this
theorem UnitI.unique {p n:Nat}{T:Nat→Nat→Nat→Nat}{u y:Nat→Nat}(hu:UnitI p n T u)(hy:UnitI p n T y):y=u:=by
  funext c
  by_cases hc:c<n
  · exact DG (hy.small c) (hu.small c) (Hk hu.left hy.right hc)
  · rw [hu.out c (by omega),hy.out c (by omega)]
def fM (n:Nat) (T:Nat→Nat→Nat→Nat) (r c:Nat):Nat:=if c<n then T c (r / n) (r%n) else if r / n=r%n then 1 else 0
theorem LS {n:Nat}{T:Nat→Nat→Nat→Nat}{x:Nat→Nat}{r:Nat}:dot (n+1) (ci (fM n T r)) (Fl n x)=sI (fun a=>(x a:Int)*(T a (r / n) (r%n):Int)) n - (dl (r / n) (r%n):Int):=by
  unfold dot
  simp only [sI];have e1:sI (fun c=>ci (fM n T r) c*Fl n x c) n=sI (fun a=>(x a:Int)*(T a (r / n) (r%n):Int)) n:=BG fun c hc=>by
    rw [GQ hc];simp only [ci,fM,if_pos hc];exact Int.mul_comm _ _
  rw [e1,Gg];have e2:ci (fM n T r) n=(dl (r / n) (r%n):Int):=by simp [ci,fM,dl]
  rw [e2];omega
theorem Jr {p n:Nat}{T:Nat→Nat→Nat→Nat}{x:Nat→Nat}(hn:0<n):Ker p (n+1) (fM n T) (n*n) (Fl n x)↔∀ i,i<n→∀ c,c<n→(p:Int)∣sI (fun a=>(x a:Int)*(T a i c:Int)) n - (dl i c:Int):=by
  constructor
  · intro h i hi c hc
    have hlt:i*n+c<n*n:=by
      have h1:(i+1)*n≤n*n:=Nat.mul_le_mul_right n hi;have h2:(i+1)*n=i*n+n:=Nat.succ_mul i n
      omega
    have:=h (i*n+c) hlt;rw [LS] at this;have e1:(i*n+c) / n=i:=by rw [Nat.mul_comm,Nat.mul_add_div hn,Nat.div_eq_of_lt hc];omega
    have e2:(i*n+c)%n=c:=by rw [Nat.mul_comm,Nat.mul_add_mod,Nat.mod_eq_of_lt hc]
    rwa [e1,e2] at this
  · intro h r hr
    rw [LS];exact h _ ((Nat.div_lt_iff_lt_mul hn).2 hr) _ (Nat.mod_lt _ hn)
theorem LP {p n k:Nat}{E:Nat→Nat→Nat}{ld:Nat→Nat}{T:Nat→Nat→Nat→Nat}(hp:0<p)(hn:0<n)(h:Rref p (n+1) E k ld)(hk:∀ x,Ker p (n+1) E k x↔Ker p (n+1) (fM n T) (n*n) x)(hf:Full p n E k ld)
    (hl:∀ i,i<n→∀ c,c<n→(p:Int)∣sI (fun b=>((if b<n then E b n else 0:Nat):Int)*(T i b c:Int)) n - (dl i c:Int)):UnitI p n T (fun c=>if c<n then E c n else 0):=by
  have hkk:=hf.k;refine ⟨fun c=>?_,fun c hc=>by simp [show ¬ c<n by omega],?_,hl⟩
  · split
    · rename_i hc;exact h.small c (by omega) n (by omega)
    · exact hp
  · have:=(Fh h hf (fun c=>if c<n then E c n else 0) (fun i hi=>by simp only [if_pos hi];exact h.small i (by omega) n (by omega))).2 (fun i hi=>by simp only [if_pos hi])
    exact (Jr hn).1 ((hk _).1 this)
theorem GK {p n k:Nat}{E:Nat→Nat→Nat}{ld:Nat→Nat}{T:Nat→Nat→Nat→Nat}{u:Nat→Nat}(hp:2≤p)(hn:0<n)(h:Rref p (n+1) E k ld)(hk:∀ x,Ker p (n+1) E k x↔Ker p (n+1) (fM n T) (n*n) x)(hu:UnitI p n T u) :
    Full p n E k ld∧(fun c=>if c<n then E c n else 0)=u:=by
  have hK:=(hk _).2 ((Jr hn).2 hu.right);have hf:=El hp h u (fun i _=>hu.small i) hK (fun y hy hyK i hi=>DG (hy i hi) (hu.small i) (Hk hu.left ((Jr hn).1 ((hk _).1 hyK)) hi));refine ⟨hf,funext fun c=>?_⟩
  by_cases hc:c<n
  · rw [if_pos hc];exact ((Fh h hf u (fun i _=>hu.small i)).1 hK c hc).symm
  · rw [if_neg hc,hu.out c (by omega)]
end Go.Ech
