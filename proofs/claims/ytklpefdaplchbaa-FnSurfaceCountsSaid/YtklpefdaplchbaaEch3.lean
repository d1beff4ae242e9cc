import Derived.Test.YtklpefdaplchbaaSw14
set_option linter.unusedVariables false
set_option linter.unusedSimpArgs false
namespace Go.Ech
def sI (f:Nat→Int):Nat→Int
  | 0=>0
  | n+1=>sI f n+f n
theorem sI_congr {f g:Nat→Int}{n:Nat}(h:∀ i,i<n→f i=g i):sI f n=sI g n:=by
  induction n with
  | zero=>rfl
  | succ n ih=>simp only [sI];rw [ih (fun i hi=>h i (by omega)),h n (by omega)]
theorem sI_zero {f:Nat→Int}{n:Nat}(h:∀ i,i<n→f i=0):sI f n=0:=by
  induction n with
  | zero=>rfl
  | succ n ih=>simp only [sI];rw [ih (fun i hi=>h i (by omega)),h n (by omega)];rfl
theorem sI_one {f:Nat→Int}{n a:Nat}(ha:a<n)(h:∀ i,i<n→i≠a→f i=0):sI f n=f a:=by
  induction n with
  | zero=>omega
  | succ n ih =>
    simp only [sI]
    by_cases e:a=n
    · subst e;rw [sI_zero (fun i hi=>h i (by omega) (by omega))];omega
    · rw [ih (by omega) (fun i hi=>h i (by omega)),h n (by omega) (by omega)];omega
theorem sI_two {f:Nat→Int}{n a b:Nat}(ha:a<n)(hb:b<n)(hab:a≠b)(h:∀ i,i<n→i≠a→i≠b→f i=0):sI f n=f a+f b:=by
  induction n with
  | zero=>omega
  | succ n ih =>
    simp only [sI]
    by_cases e:a=n
    · subst e;rw [sI_one (a:=b) (by omega) (fun i hi hib=>h i (by omega) (by omega) hib)];omega
    · by_cases e2:b=n
      · subst e2;rw [sI_one (a:=a) (by omega) (fun i hi hia=>h i (by omega) hia (by omega))]
      · rw [ih (by omega) (by omega) (fun i hi=>h i (by omega)),h n (by omega) (by omega) (by omega)];omega
theorem sI_add (f g:Nat→Int)(n:Nat):sI (fun i=>f i+g i) n=sI f n+sI g n:=by
  induction n with
  | zero=>rfl
  | succ n ih=>simp only [sI];rw [ih];omega
theorem sI_mul (k:Int)(f:Nat→Int)(n:Nat):sI (fun i=>k*f i) n=k*sI f n:=by
  induction n with
  | zero=>simp [sI]
  | succ n ih=>simp only [sI];rw [ih,Int.mul_add]
theorem sI_dvd {p:Int}{f:Nat→Int}{n:Nat}(h:∀ i,i<n→p∣f i):p∣sI f n:=by
  induction n with
  | zero=>exact Int.dvd_zero p
  | succ n ih=>exact Int.dvd_add (ih fun i hi=>h i (by omega)) (h n (by omega))
theorem sI_swap (f:Nat→Nat→Int)(n m:Nat):sI (fun i=>sI (fun j=>f i j) m) n=sI (fun j=>sI (fun i=>f i j) n) m:=by
  induction n with
  | zero=>simp only [sI];exact (sI_zero fun i _=>rfl).symm
  | succ n ih=>simp only [sI];rw [ih,← sI_add]
def dot (N:Nat) (r x:Nat→Int):Int:=sI (fun c=>r c*x c) N
abbrev ci (r:Nat→Nat):Nat→Int:=fun c=>(r c:Int)
def Ker (p N:Nat) (M:Nat→Nat→Nat) (m:Nat) (x:Nat→Int):Prop:=∀ i,i<m→(p:Int)∣dot N (ci (M i)) x
theorem dot_lin {p N:Nat}{r s t x:Nat→Int}{k:Int}(h:∀ c,c<N→(p:Int)∣t c - (r c+k*s c)):(p:Int)∣dot N t x - (dot N r x+k*dot N s x):=by
  unfold dot
  have e:sI (fun c=>t c*x c) N - (sI (fun c=>r c*x c) N+k*sI (fun c=>s c*x c) N)=sI (fun c=>(t c - (r c+k*s c))*x c) N:=by
    rw [← sI_mul,← sI_add];have:sI (fun c=>t c*x c) N=sI (fun c=>(t c - (r c+k*s c))*x c) N+sI (fun c=>r c*x c+k*(s c*x c)) N:=by
      rw [← sI_add];exact sI_congr fun c _=>by grind
    omega
  rw [e];exact sI_dvd fun c hc=>Int.dvd_mul_of_dvd_left (h c hc)
theorem dvd_iff_sub {p a b:Int}(h:p∣a - b):p∣a↔p∣b:=by
  constructor
  · intro ha;have:=Int.dvd_sub ha h;rwa [show a - (a - b)=b by omega] at this
  · intro hb;have:=Int.dvd_add hb h;rwa [show b+(a - b)=a by omega] at this
theorem dot_mul (N:Nat)(k:Int)(r x:Nat→Int):dot N r (fun c=>k*x c)=k*dot N r x:=by
  unfold dot;rw [← sI_mul];exact sI_congr fun c _=>by grind
structure Rref (p N:Nat) (E:Nat→Nat→Nat) (k:Nat) (ld:Nat→Nat):Prop where
  lt:∀ i,i<k→ld i<N
  mono:∀ i j,i<j→j<k→ld i<ld j
  one:∀ i,i<k→E i (ld i)=1
  left:∀ i,i<k→∀ c,c<ld i→E i c=0
  zero:∀ i j,i<k→j<k→i≠j→E j (ld i)=0
  small:∀ i,i<k→∀ c,c<N→E i c<p
def isLd (k:Nat) (ld:Nat→Nat) (c:Nat):Prop:=∃ i,i<k∧ld i=c
instance (k:Nat) (ld:Nat→Nat) (c:Nat):Decidable (isLd k ld c):=inferInstanceAs (Decidable (∃ i,i<k∧ld i=c))
def ldAt (k:Nat) (ld:Nat→Nat) (c:Nat):Option Nat:=(List.range k).find? (fun i=>ld i == c)
theorem ldAt_some {k:Nat}{ld:Nat→Nat}{c i:Nat}(h:ldAt k ld c=some i):i<k∧ld i=c:=by
  unfold ldAt at h
  have h1:=List.find?_some h;have h2:=List.mem_of_find?_eq_some h;exact ⟨by simpa using h2,by simpa using h1⟩
theorem ldAt_none {k:Nat}{ld:Nat→Nat}{c:Nat}(h:ldAt k ld c=none):∀ i,i<k→ld i≠c:=by
  unfold ldAt at h
  intro i hi e;have:=List.find?_eq_none.1 h i (by simpa using hi)
  simp [e] at this
def free (E:Nat→Nat→Nat) (k:Nat) (ld:Nat→Nat) (c:Nat):Nat→Int:=fun d=>
  if d=c then 1 else match ldAt k ld d with
    | some j=>-(E j c:Int)
    | none=>0
namespace Rref
variable {p N k : Nat} {E : Nat → Nat → Nat} {ld : Nat → Nat}
theorem inj (h:Rref p N E k ld){i j:Nat}(hi:i<k)(hj:j<k)(e:ld i=ld j):i=j:=by
  rcases Nat.lt_trichotomy i j with hh | hh | hh
  · have:=h.mono i j hh hj;omega
  · exact hh
  · have:=h.mono j i hh hi;omega
theorem ldAt_eq (h:Rref p N E k ld){i:Nat}(hi:i<k):ldAt k ld (ld i)=some i:=by
  cases e:ldAt k ld (ld i) with
  | none=>exact absurd rfl (ldAt_none e i hi)
  | some j=>have:=ldAt_some e;rw [h.inj this.1 hi this.2]
theorem free_ker (h:Rref p N E k ld){c:Nat}(hc:c<N)(hn:¬ isLd k ld c):Ker p N E k (free E k ld c):=by
  intro i hi;have hne:c≠ld i:=fun e=>hn ⟨i,hi,e.symm⟩;have e:dot N (ci (E i)) (free E k ld c)=0:=by
    unfold dot
    rw [sI_two hc (h.lt i hi) hne]
    · have h1:free E k ld c c=1:=by simp [free]
      have h2:free E k ld c (ld i) = -(E i c:Int):=by
        unfold free;rw [if_neg (Ne.symm hne),h.ldAt_eq hi]
      rw [h1,h2];simp only [ci,h.one i hi];omega
    · intro d hd hdc hdi
      unfold free;rw [if_neg hdc]
      cases e:ldAt k ld d with
      | none=>simp
      | some j =>
        obtain ⟨hj,rfl⟩:=ldAt_some e;have:j≠i:=fun e=>hdi (by rw [e])
        simp [ci,h.zero j i hj hi this]
  rw [e];exact Int.dvd_zero _
theorem ker_lead (h:Rref p N E k ld){x:Nat→Int}(hx:Ker p N E k x){i:Nat}(hi:i<k)(hz:∀ d,ld i<d→d<N→x d=0):(p:Int)∣x (ld i):=by
  have:=hx i hi
  unfold dot at this
  rw [sI_one (h.lt i hi)] at this
  · simpa [ci,h.one i hi] using this
  · intro d hd hne
    rcases Nat.lt_or_gt_of_ne hne with hh | hh
    · simp [ci,h.left i hi d hh]
    · simp [hz d hh hd]
end Rref
theorem ld_same {k k':Nat}{ld ld':Nat→Nat}(hm:∀ i j,i<j→j<k→ld i<ld j)(hm':∀ i j,i<j→j<k'→ld' i<ld' j)(h:∀ c,isLd k ld c↔isLd k' ld' c) :
    k=k'∧∀ i,i<k→ld i=ld' i:=by
  have half:∀ {k k':Nat} {ld ld':Nat→Nat},(∀ i j,i<j→j<k→ld i<ld j)→(∀ i j,i<j→j<k'→ld' i<ld' j)→(∀ c,isLd k ld c↔isLd k' ld' c)→∀ i,(∀ j,j<i→j<k∧j<k'∧ld j=ld' j)→i<k→i<k'∧ld' i≤ld i:=by
    intro k k' ld ld' hm hm' h i hall hi;obtain ⟨j,hj,e⟩:=(h (ld i)).1 ⟨i,hi,rfl⟩;have hij:i≤j:=by
      rcases Nat.lt_or_ge j i with hh | hh
      · have:=hall j hh;have:=hm j i hh hi;omega
      · exact hh
    refine ⟨by omega,?_⟩
    by_cases e2:i=j
    · subst e2;omega
    · have:=hm' i j (by omega) hj;omega
  have key:∀ i,(∀ j,j<i→j<k∧j<k'∧ld j=ld' j)→(i<k↔i<k')∧(i<k→ld i=ld' i):=by
    intro i hall;have a:=half hm hm' h i hall;have b:=half hm' hm (fun c=>(h c).symm) i (fun j hj=>⟨(hall j hj).2.1,(hall j hj).1,(hall j hj).2.2.symm⟩);refine ⟨⟨fun x=>(a x).1,fun x=>(b x).1⟩,fun x=>?_⟩;have:=a x;have:=b this.1;omega
  have all:∀ i,i≤k→i≤k'→∀ j,j<i→j<k∧j<k'∧ld j=ld' j:=by
    intro i
    induction i with
    | zero=>intro _ _ j hj;omega
    | succ i ih =>
      intro h1 h2 j hj;have hi:=ih (by omega) (by omega)
      by_cases e:j=i
      · subst e;exact ⟨by omega,by omega,(key j hi).2 (by omega)⟩
      · exact hi j (by omega)
  have hk:k=k':=by
    rcases Nat.lt_trichotomy k k' with hh | hh | hh
    · have:=(key k (all k (Nat.le_refl _) (by omega))).1.2 hh;omega
    · exact hh
    · have:=(key k' (all k' (by omega) (Nat.le_refl _))).1.1 hh;omega
  exact ⟨hk,fun i hi=>(all k (Nat.le_refl _) (by omega) i hi).2.2⟩
theorem rref_unique {p N k k':Nat}{E E':Nat→Nat→Nat}{ld ld':Nat→Nat}(hp:2≤p)(h:Rref p N E k ld)(h':Rref p N E' k' ld')(hk:∀ x,Ker p N E k x↔Ker p N E' k' x) :
    k=k'∧(∀ i,i<k→ld i=ld' i)∧∀ i,i<k→∀ c,c<N→E i c=E' i c:=by
  have half:∀ {k k':Nat} {E E':Nat→Nat→Nat} {ld ld':Nat→Nat},Rref p N E k ld→Rref p N E' k' ld'→(∀ x,Ker p N E k x↔Ker p N E' k' x)→∀ c,isLd k ld c→isLd k' ld' c:=by
    intro k k' E E' ld ld' h h' hk c hc;obtain ⟨i,hi,rfl⟩:=hc;refine Decidable.byContradiction fun hn=>?_;have hx:=(hk _).2 (h'.free_ker (h.lt i hi) hn)
    have:=h.ker_lead hx hi (fun d hd hdN=>by
      unfold free;rw [if_neg (by omega)]
      cases e:ldAt k' ld' d with
      | none=>rfl
      | some j=>obtain ⟨hj,rfl⟩:=ldAt_some e;simp [h'.left j hj _ hd])
    simp only [free,if_true] at this;have:=Int.le_of_dvd (by omega) this
    omega
  have hld:=ld_same h.mono h'.mono (fun c=>⟨half h h' hk c,half h' h (fun x=>(hk x).symm) c⟩);obtain ⟨rfl,hl⟩:=hld;refine ⟨rfl,hl,fun i hi c hc=>?_⟩
  by_cases hlc:isLd k ld c
  · obtain ⟨j,hj,rfl⟩:=hlc
    by_cases e:j=i
    · subst e;rw [h.one j hj,hl j hj,h'.one j hj]
    · rw [h.zero j i hj hi e,hl j hj,h'.zero j i hj hi e]
  · have hx:=(hk _).1 (h.free_ker hc hlc) i hi
    have hne:c≠ld' i:=fun e=>hlc ⟨i,hi,by rw [hl i hi,e]⟩;have e:dot N (ci (E' i)) (free E k ld c)=(E' i c:Int) - (E i c:Int):=by
      unfold dot
      rw [sI_two hc (h'.lt i hi) hne]
      · have h1:free E k ld c c=1:=by simp [free]
        have h2:free E k ld c (ld' i) = -(E i c:Int):=by
          unfold free;rw [if_neg (Ne.symm hne),← hl i hi,h.ldAt_eq hi]
        rw [h1,h2];simp only [ci,h'.one i hi];omega
      · intro d hd hdc hdi
        unfold free;rw [if_neg hdc]
        cases e:ldAt k ld d with
        | none=>simp
        | some j =>
          obtain ⟨hj,rfl⟩:=ldAt_some e;have:j≠i:=fun e=>hdi (by rw [e,hl i hi])
          simp [ci,hl j hj,h'.zero j i hj hi this]
    rw [e] at hx;have h1:=h.small i hi c hc;have h2:=h'.small i hi c hc;obtain ⟨q,hq⟩:=hx;have:q=0:=by
      rcases Int.lt_trichotomy q 0 with hh | hh | hh
      · have:=Int.mul_le_mul_of_nonneg_left (show q≤-1 by omega) (show (0:Int)≤p by omega);omega
      · exact hh
      · have:=Int.mul_le_mul_of_nonneg_left (show 1≤q by omega) (show (0:Int)≤p by omega);omega
    subst this;omega
end Go.Ech
namespace Go.Ech
def primeN (p:Nat):Prop:=p=2∨p=3∨p=5∨p=7∨p=11∨p=13
theorem primeN.two {p:Nat}(h:primeN p):2≤p:=by unfold primeN at h;omega
theorem primeN.le {p:Nat}(h:primeN p):p≤13:=by unfold primeN at h;omega
def lsM (p:Nat) (f h:Nat→Nat) (k c:Nat):Nat:=(((f c:Int) - (k:Int)*(h c:Int))%(p:Int)).toNat
theorem lsM_int {p:Nat}{f h:Nat→Nat}{k c:Nat}(hp:0<p):(lsM p f h k c:Int)=((f c:Int) - (k:Int)*(h c:Int))%(p:Int):=
  Int.toNat_of_nonneg (Int.emod_nonneg _ (by omega))
theorem lsM_lt {p:Nat}{f h:Nat→Nat}{k c:Nat}(hp:0<p):lsM p f h k c<p:=by
  have:=Int.emod_lt_of_pos ((f c:Int) - (k:Int)*(h c:Int)) (show (0:Int)<p by omega);have e:=lsM_int (f:=f) (h:=h) (k:=k) (c:=c) hp
  omega
theorem lsM_zero {p:Nat}{f h:Nat→Nat}{k c:Nat}(hf:f c<p)(hh:h c=0):lsM p f h k c=f c:=by
  have e:=lsM_int (f:=f) (h:=h) (k:=k) (c:=c) (show 0<p by omega);rw [hh] at e;rw [show (f c:Int) - (k:Int)*((0:Nat):Int)=f c by simp,Int.emod_eq_of_lt (by omega) (by omega)] at e
  omega
theorem lsM_one {p:Nat}{f h:Nat→Nat}{c:Nat}(hp:0<p)(hh:h c=1):lsM p f h (f c) c=0:=by
  have e:=lsM_int (f:=f) (h:=h) (k:=f c) (c:=c) hp;rw [hh,show (f c:Int) - (f c:Int)*((1:Nat):Int)=0 by omega,Int.zero_emod] at e
  omega
theorem emod_dvd (p x:Int):p∣x%p - x:=⟨-(x / p),by have:=Int.mul_ediv_add_emod x p;grind⟩
theorem lsM_dvd {p:Nat}{f h:Nat→Nat}{k c:Nat}(hp:0<p):(p:Int)∣ci (lsM p f h k) c - (ci f c+(-(k:Int))*ci h c):=by
  show (p:Int)∣(lsM p f h k c:Int) - _
  rw [lsM_int hp];have:=emod_dvd (p:Int) ((f c:Int) - (k:Int)*(h c:Int))
  rwa [show ((f c:Int) - (k:Int)*(h c:Int))%(p:Int) - (ci f c+(-(k:Int))*ci h c)=((f c:Int) - (k:Int)*(h c:Int))%(p:Int) - ((f c:Int) - (k:Int)*(h c:Int)) by show _ - ((f c:Int)+(-(k:Int))*(h c:Int))=_;grind]
theorem lsM_ker {p N:Nat}{f h:Nat→Nat}{k:Nat}{x:Nat→Int}(hp:0<p)(hx:(p:Int)∣dot N (ci h) x):(p:Int)∣dot N (ci (lsM p f h k)) x↔(p:Int)∣dot N (ci f) x:=by
  have h1:=dot_lin (p:=p) (N:=N) (r:=ci f) (s:=ci h) (t:=ci (lsM p f h k)) (x:=x) (k:=-(k:Int)) (fun c _=>lsM_dvd hp);rw [dvd_iff_sub h1];have h2:(p:Int)∣-(k:Int)*dot N (ci h) x:=Int.dvd_mul_of_dvd_right hx
  constructor
  · intro h3;have:=Int.dvd_sub h3 h2;rwa [show dot N (ci f) x + -(k:Int)*dot N (ci h) x - -(k:Int)*dot N (ci h) x=dot N (ci f) x by omega] at this
  · intro h3;exact Int.dvd_add h3 h2
theorem scale_ker {p N:Nat}{f g:Nat→Nat}{v u:Nat}{x:Nat→Int}(hg:∀ c,c<N→g c=f c*v%p)(huv:u*v%p=1):(p:Int)∣dot N (ci g) x↔(p:Int)∣dot N (ci f) x:=by
  have h1:=dot_lin (p:=p) (N:=N) (r:=fun _=>0) (s:=ci f) (t:=ci g) (x:=x) (k:=(v:Int)) (fun c hc=>by
    show (p:Int)∣(g c:Int) - _
    rw [hg c hc];have:=emod_dvd (p:Int) ((f c*v:Nat):Int);rw [show (0:Int)+(v:Int)*ci f c=((f c*v:Nat):Int) by show 0+(v:Int)*(f c:Int)=_;rw [Int.natCast_mul,Int.mul_comm];omega]
    exact_mod_cast this)
  have e0:dot N (fun _=>0) x=0:=sI_zero fun i _=>by simp
  rw [e0] at h1;rw [dvd_iff_sub h1]
  constructor
  · intro h2
    have h3:(p:Int)∣(u:Int)*((v:Int)*dot N (ci f) x):=Int.dvd_mul_of_dvd_right (by simpa using h2);have h4:(p:Int)∣((u*v:Nat):Int) - 1:=by
      have:=emod_dvd (p:Int) ((u*v:Nat):Int);have e:((u*v:Nat):Int)%(p:Int)=1:=by exact_mod_cast huv
      rw [e] at this;have:=Int.dvd_neg.2 this
      rwa [show -(1 - ((u*v:Nat):Int))=((u*v:Nat):Int) - 1 by omega] at this
    have h5:(p:Int)∣(((u*v:Nat):Int) - 1)*dot N (ci f) x:=Int.dvd_mul_of_dvd_left h4;have:=Int.dvd_sub h3 h5
    rwa [show (u:Int)*((v:Int)*dot N (ci f) x) - (((u*v:Nat):Int) - 1)*dot N (ci f) x=dot N (ci f) x by rw [Int.natCast_mul];grind] at this
  · intro h2;have:=Int.dvd_mul_of_dvd_right (b:=(v:Int)) h2;simpa using this
def ins {α:Type} (q:Nat) (g:Nat→α) (o:α) (i:Nat):α:=if i<q then g i else if i=q then o else g (i - 1)
theorem ins_lt {α:Type}{q:Nat}{g:Nat→α}{o:α}{i:Nat}(h:i<q):ins q g o i=g i:=by simp [ins,h]
theorem ins_eq {α:Type}{q:Nat}{g:Nat→α}{o:α}:ins q g o q=o:=by simp [ins]
theorem ins_gt {α:Type}{q:Nat}{g:Nat→α}{o:α}{i:Nat}(h:q<i):ins q g o i=g (i - 1):=by simp [ins,show ¬ i<q by omega,show ¬ i=q by omega]
theorem ins_all {α:Type}{q k:Nat}{g:Nat→α}{o:α}{P:α→Prop}(hq:q≤k):(∀ i,i<k+1→P (ins q g o i))↔(∀ i,i<k→P (g i))∧P o:=by
  constructor
  · intro h
    refine ⟨fun i hi=>?_,by have:=h q (by omega);rwa [ins_eq] at this⟩
    by_cases e:i<q
    · have:=h i (by omega);rwa [ins_lt e] at this
    · have:=h (i+1) (by omega);rwa [ins_gt (by omega),Nat.add_sub_cancel] at this
  · intro h i hi
    rcases Nat.lt_trichotomy i q with e | e | e
    · rw [ins_lt e];exact h.1 i (by omega)
    · subst e;rw [ins_eq];exact h.2
    · rw [ins_gt e];exact h.1 (i - 1) (by omega)
structure Fits (p N:Nat) (E:Nat→Nat→Nat) (k:Nat) (ld:Nat→Nat) (o:Nat→Nat) (t q:Nat):Prop where
  lt:t<N
  one:o t=1
  left:∀ c,c<t→o c=0
  small:∀ c,c<N→o c<p
  zero:∀ i,i<k→o (ld i)=0
  qk:q≤k
  lo:∀ i,i<q→ld i<t
  hi:∀ i,q≤i→i<k→t<ld i
theorem Rref.insert {p N k q t:Nat}{E:Nat→Nat→Nat}{ld o:Nat→Nat}(hp:0<p)(h:Rref p N E k ld)(f:Fits p N E k ld o t q) :
    Rref p N (ins q (fun i=>lsM p (E i) o (E i t)) o) (k+1) (ins q ld t):=by
  have hz:∀ i,i<k→∀ c,c<N→o c=0→lsM p (E i) o (E i t) c=E i c:=fun i hi c hc ho=>lsM_zero (h.small i hi c hc) ho;have gat:∀ i,i<k→lsM p (E i) o (E i t) t=0:=fun i hi=>lsM_one hp f.one;have gone:∀ i,i<k→lsM p (E i) o (E i t) (ld i)=1:=fun i hi=>by rw [hz i hi _ (h.lt i hi) (f.zero i hi)];exact h.one i hi
  have gzero:∀ i j,i<k→j<k→i≠j→lsM p (E j) o (E j t) (ld i)=0:=fun i j hi hj hne=>by rw [hz j hj _ (h.lt i hi) (f.zero i hi)];exact h.zero i j hi hj hne
  have gleft:∀ i,i<k→∀ c,c<ld i→lsM p (E i) o (E i t) c=0:=by
    intro i hi c hc;have hlt:=h.lt i hi
    by_cases e:i<q
    · rw [hz i hi c (by omega) (f.left c (by have:=f.lo i e;omega))];exact h.left i hi c hc
    · have h1:=f.hi i (by omega) hi
      have:E i t=0:=h.left i hi t h1;have e2:=lsM_int (f:=E i) (h:=o) (k:=E i t) (c:=c) hp;rw [this,h.left i hi c hc] at e2;rw [this];simp at e2;exact e2
  refine ⟨?_,?_,?_,?_,?_,?_⟩
  · intro i hi
    rcases Nat.lt_trichotomy i q with e | e | e
    · rw [ins_lt e];exact h.lt i (by have:=f.qk;omega)
    · subst e;rw [ins_eq];exact f.lt
    · rw [ins_gt e];exact h.lt _ (by omega)
  · intro i j hij hj
    have hqk:=f.qk
    rcases Nat.lt_trichotomy i q with e | e | e
    · rw [ins_lt e]
      rcases Nat.lt_trichotomy j q with e2 | e2 | e2
      · rw [ins_lt e2];exact h.mono i j hij (by omega)
      · subst e2;rw [ins_eq];exact f.lo i e
      · rw [ins_gt e2]
        have h1:=f.lo i e;have h2:=f.hi (j - 1) (by omega) (by omega);omega
    · subst e;rw [ins_eq,ins_gt hij];exact f.hi (j - 1) (by omega) (by omega)
    · rw [ins_gt e,ins_gt (by omega)];exact h.mono (i - 1) (j - 1) (by omega) (by omega)
  · intro i hi
    have hqk:=f.qk
    rcases Nat.lt_trichotomy i q with e | e | e
    · rw [ins_lt e,ins_lt e];exact gone i (by omega)
    · subst e;rw [ins_eq,ins_eq];exact f.one
    · rw [ins_gt e,ins_gt e];exact gone (i - 1) (by omega)
  · intro i hi c hc
    have hqk:=f.qk
    rcases Nat.lt_trichotomy i q with e | e | e
    · rw [ins_lt e] at hc ⊢;exact gleft i (by omega) c hc
    · subst e;rw [ins_eq] at hc ⊢;exact f.left c hc
    · rw [ins_gt e] at hc ⊢;exact gleft (i - 1) (by omega) c hc
  · intro i j hi hj hne
    have hqk:=f.qk
    rcases Nat.lt_trichotomy i q with e | e | e<;>rcases Nat.lt_trichotomy j q with e2 | e2 | e2
    · rw [ins_lt e,ins_lt e2];exact gzero i j (by omega) (by omega) hne
    · subst e2;rw [ins_lt e,ins_eq];exact f.zero i (by omega)
    · rw [ins_lt e,ins_gt e2];exact gzero i (j - 1) (by omega) (by omega) (by omega)
    · subst e;rw [ins_eq,ins_lt e2];exact gat j (by omega)
    · omega
    · subst e;rw [ins_eq,ins_gt e2];exact gat (j - 1) (by omega)
    · rw [ins_gt e,ins_lt e2];exact gzero (i - 1) j (by omega) (by omega) (by omega)
    · subst e2;rw [ins_gt e,ins_eq];exact f.zero (i - 1) (by omega)
    · rw [ins_gt e,ins_gt e2];exact gzero (i - 1) (j - 1) (by omega) (by omega) (by omega)
  · intro i hi c hc
    have hqk:=f.qk
    rcases Nat.lt_trichotomy i q with e | e | e
    · rw [ins_lt e];exact lsM_lt hp
    · subst e;rw [ins_eq];exact f.small c hc
    · rw [ins_gt e];exact lsM_lt hp
theorem ker_insert {p N k q t:Nat}{E:Nat→Nat→Nat}{o:Nat→Nat}{x:Nat→Int}(hp:0<p)(hq:q≤k) :
    Ker p N (ins q (fun i=>lsM p (E i) o (E i t)) o) (k+1) x↔Ker p N E k x∧(p:Int)∣dot N (ci o) x:=by
  unfold Ker
  rw [ins_all (P:=fun r=>(p:Int)∣dot N (ci r) x) hq]
  constructor
  · intro h;exact ⟨fun i hi=>(lsM_ker hp h.2).1 (h.1 i hi),h.2⟩
  · intro h;exact ⟨fun i hi=>(lsM_ker hp h.2).2 (h.1 i hi),h.2⟩
def below (k:Nat) (ld:Nat→Nat) (t:Nat):Nat:=((List.range k).find? (fun i=>decide (t<ld i))).getD k
theorem below_spec {p N k t:Nat}{E:Nat→Nat→Nat}{ld:Nat→Nat}(h:Rref p N E k ld)(hne:∀ i,i<k→ld i≠t):below k ld t≤k∧(∀ i,i<below k ld t→ld i<t)∧∀ i,below k ld t≤i→i<k→t<ld i:=by
  unfold below
  cases e:(List.range k).find? (fun i=>decide (t<ld i)) with
  | none =>
    have:=List.find?_eq_none.1 e;refine ⟨Nat.le_refl _,fun i hi=>?_,fun i h1 h2=>?_⟩
    · have h3:=this i (by simpa using hi);have:=hne i hi;simp at h3;omega
    · simp at h1;omega
  | some j =>
    rw [List.find?_eq_some_iff_append] at e;obtain ⟨hj,as,bs,hl,has⟩:=e;have hjk:j<k:=by
      have:j∈List.range k:=by rw [hl];simp
      simpa using this
    have hlen:as.length=j:=by
      have h1:(List.range k)[as.length]? = some j:=by rw [hl];simp
      rw [List.getElem?_range (by have:=congrArg List.length hl;simp at this;omega)] at h1;exact Option.some.inj h1
    have hlo:∀ i,i<j→ld i<t:=by
      intro i hi;have h1:as[i]? = some i:=by
        have h2:(List.range k)[i]? = some i:=List.getElem?_range (by omega);rw [hl,List.getElem?_append_left (by omega)] at h2;exact h2
      have h3:=has i (List.mem_of_getElem? h1);have:=hne i (by omega)
      simp at h3;omega
    simp at hj ⊢
    refine ⟨by omega,hlo,fun i h1 h2=>?_⟩
    by_cases e2:i=j
    · subst e2;exact hj
    · have:=h.mono j i (by omega) h2;omega
structure Own (p N:Nat) (E:Nat→Nat→Nat) (k:Nat) (ld r o:Nat→Nat) (j:Nat):Prop where
  small:∀ c,c<N→o c<p
  zero:∀ i,i<j→o (ld i)=0
  ker:∀ x,Ker p N E k x→((p:Int)∣dot N (ci o) x↔(p:Int)∣dot N (ci r) x)
theorem Own.step {p N k j:Nat}{E:Nat→Nat→Nat}{ld r o:Nat→Nat}(hp:0<p)(h:Rref p N E k ld)(ho:Own p N E k ld r o j)(hj:j<k):Own p N E k ld r (lsM p o (E j) (o (ld j))) (j+1):=by
  refine ⟨fun c _=>lsM_lt hp,fun i hi=>?_,fun x hx=>?_⟩
  · by_cases e:i=j
    · subst e;exact lsM_one hp (h.one i hj)
    · rw [lsM_zero (ho.small _ (h.lt i (by omega))) (h.zero i j (by omega) hj e)];exact ho.zero i (by omega)
  · rw [lsM_ker hp (hx j hj)];exact ho.ker x hx
theorem Ker.snoc {p N m:Nat}{M:Nat→Nat→Nat}{x:Nat→Int}:Ker p N M (m+1) x↔Ker p N M m x∧(p:Int)∣dot N (ci (M m)) x:=by
  constructor
  · intro h;exact ⟨fun i hi=>h i (by omega),h m (by omega)⟩
  · intro h i hi
    by_cases e:i=m
    · subst e;exact h.2
    · exact h.1 i (by omega)
theorem dot_zero {p N:Nat}{o:Nat→Nat}{x:Nat→Int}(h:∀ c,c<N→o c=0):(p:Int)∣dot N (ci o) x:=by
  have:dot N (ci o) x=0:=sI_zero fun i hi=>by simp [ci,h i hi]
  rw [this];exact Int.dvd_zero _
end Go.Ech
namespace Go.Sw
open Go Go.RowKit
variable {P : Program}
def RowsFr (w0:World) (L:Own) (N k:Nat) (f:Nat→Nat→Value) (u:Value) (w':World):Prop:=∃ (D:Froz) (β κ:Nat→Nat) (C:Nat→Array Value) (b cap:Nat) (cs:Array Value),
  (∀ x ds,(x,ds)∈D→w0.heap.size≤x∧Blk w' x ds∧∀ (k:Nat) c es,L[k]? = some (some (c,es))→c≠x)∧RowsD D N k β κ C f∧SlAt 1 u (some (b,cs)) k b cap cs (fun i=>.slice (some ⟨β i,0,none⟩) N (κ i))∧(b,cs)∈D
end Go.Sw
namespace Go.Ech
def dl (i c:Nat):Nat:=if i=c then 1 else 0
def aug (n:Nat) (x:Nat→Nat) (c:Nat):Int:=if c<n then (x c:Int) else -1
theorem aug_lt {n c:Nat}{x:Nat→Nat}(h:c<n):aug n x c=x c:=by simp [aug,h]
theorem aug_n {n:Nat}{x:Nat→Nat}:aug n x n = -1:=by simp [aug]
theorem eq_of_dvd {p a b:Nat}(ha:a<p)(hb:b<p)(h:(p:Int)∣(a:Int) - (b:Int)):a=b:=by
  obtain ⟨q,hq⟩:=h;have:q=0:=by
    rcases Int.lt_trichotomy q 0 with hh | hh | hh
    · have:=Int.mul_le_mul_of_nonneg_left (show q≤-1 by omega) (show (0:Int)≤p by omega);omega
    · exact hh
    · have:=Int.mul_le_mul_of_nonneg_left (show 1≤q by omega) (show (0:Int)≤p by omega);omega
  subst this;omega
structure Full (p n:Nat) (E:Nat→Nat→Nat) (k:Nat) (ld:Nat→Nat):Prop where
  k:k=n
  ld:∀ i,i<n→ld i=i
structure UnitI (p n:Nat) (T:Nat→Nat→Nat→Nat) (u:Nat→Nat):Prop where
  small:∀ c,u c<p
  out:∀ c,n≤c→u c=0
  right:∀ i,i<n→∀ c,c<n→(p:Int)∣sI (fun a=>(u a:Int)*(T a i c:Int)) n - (dl i c:Int)
  left:∀ i,i<n→∀ c,c<n→(p:Int)∣sI (fun b=>(u b:Int)*(T i b c:Int)) n - (dl i c:Int)
theorem unit_same {p n:Nat}{T:Nat→Nat→Nat→Nat}{u y:Nat→Nat}(hl:∀ i,i<n→∀ c,c<n→(p:Int)∣sI (fun b=>(u b:Int)*(T i b c:Int)) n - (dl i c:Int))
    (hr:∀ i,i<n→∀ c,c<n→(p:Int)∣sI (fun a=>(y a:Int)*(T a i c:Int)) n - (dl i c:Int)) {c:Nat} (hc:c<n):(p:Int)∣(y c:Int) - (u c:Int):=by
  have e1:(p:Int)∣sI (fun a=>(y a:Int)*sI (fun b=>(u b:Int)*(T a b c:Int)) n) n - (y c:Int):=by
    have:sI (fun a=>(y a:Int)*sI (fun b=>(u b:Int)*(T a b c:Int)) n) n - (y c:Int)=sI (fun a=>(y a:Int)*(sI (fun b=>(u b:Int)*(T a b c:Int)) n - (dl a c:Int))) n:=by
      have h1:=sI_add (fun a=>(y a:Int)*(sI (fun b=>(u b:Int)*(T a b c:Int)) n - (dl a c:Int))) (fun a=>(y a:Int)*(dl a c:Int)) n;have h2:sI (fun a=>(y a:Int)*(dl a c:Int)) n=y c:=by
        rw [sI_one hc]
        · simp [dl]
        · intro i _ hne;simp [dl,hne]
      have h3:(fun a=>(y a:Int)*(sI (fun b=>(u b:Int)*(T a b c:Int)) n - (dl a c:Int))+(y a:Int)*(dl a c:Int))=(fun a=>(y a:Int)*sI (fun b=>(u b:Int)*(T a b c:Int)) n):=by funext a;grind
      rw [h3] at h1;omega
    rw [this];exact sI_dvd fun a ha=>Int.dvd_mul_of_dvd_right (hl a ha c hc)
  have e2:(p:Int)∣sI (fun b=>(u b:Int)*sI (fun a=>(y a:Int)*(T a b c:Int)) n) n - (u c:Int):=by
    have:sI (fun b=>(u b:Int)*sI (fun a=>(y a:Int)*(T a b c:Int)) n) n - (u c:Int)=sI (fun b=>(u b:Int)*(sI (fun a=>(y a:Int)*(T a b c:Int)) n - (dl b c:Int))) n:=by
      have h1:=sI_add (fun b=>(u b:Int)*(sI (fun a=>(y a:Int)*(T a b c:Int)) n - (dl b c:Int))) (fun b=>(u b:Int)*(dl b c:Int)) n;have h2:sI (fun b=>(u b:Int)*(dl b c:Int)) n=u c:=by
        rw [sI_one hc]
        · simp [dl]
        · intro i _ hne;simp [dl,hne]
      have h3:(fun b=>(u b:Int)*(sI (fun a=>(y a:Int)*(T a b c:Int)) n - (dl b c:Int))+(u b:Int)*(dl b c:Int))=(fun b=>(u b:Int)*sI (fun a=>(y a:Int)*(T a b c:Int)) n):=by funext a;grind
      rw [h3] at h1;omega
    rw [this];exact sI_dvd fun a ha=>Int.dvd_mul_of_dvd_right (hr a ha c hc)
  have e3:sI (fun a=>(y a:Int)*sI (fun b=>(u b:Int)*(T a b c:Int)) n) n=sI (fun b=>(u b:Int)*sI (fun a=>(y a:Int)*(T a b c:Int)) n) n:=by
    have h1:∀ a,(y a:Int)*sI (fun b=>(u b:Int)*(T a b c:Int)) n=sI (fun b=>(y a:Int)*((u b:Int)*(T a b c:Int))) n:=fun a=>(sI_mul _ _ _).symm;have h2:∀ b,(u b:Int)*sI (fun a=>(y a:Int)*(T a b c:Int)) n=sI (fun a=>(u b:Int)*((y a:Int)*(T a b c:Int))) n:=fun a=>(sI_mul _ _ _).symm;simp only [h1,h2];rw [sI_swap];exact sI_congr fun i _=>sI_congr fun j _=>by grind
  rw [e3] at e1;have:=Int.dvd_sub e2 e1
  rwa [show ∀ s:Int,s - (u c:Int) - (s - (y c:Int))=(y c:Int) - (u c:Int) from fun s=>by omega] at this
theorem UnitI.unique {p n:Nat}{T:Nat→Nat→Nat→Nat}{u y:Nat→Nat}(hu:UnitI p n T u)(hy:UnitI p n T y):y=u:=by
  funext c
  by_cases hc:c<n
  · exact eq_of_dvd (hy.small c) (hu.small c) (unit_same hu.left hy.right hc)
  · rw [hu.out c (by omega),hy.out c (by omega)]
def fM (n:Nat) (T:Nat→Nat→Nat→Nat) (r c:Nat):Nat:=if c<n then T c (r / n) (r%n) else if r / n=r%n then 1 else 0
end Go.Ech
