import Derived.Test.YtccdgjmomcljkaaDoorSw56
import Derived.Test.YtccdgjmomcljkaaDoorEch5
import Derived.Test.YtccdgjmomcljkaaDoorSw9
import Derived.Test.YtccdgjmomcljkaaDoorSw14
set_option linter.unusedVariables false
set_option linter.unusedSimpArgs false
namespace Go.Ech
open Go.Sw
theorem dep {p N m:Nat}{M:Nat→Nat→Nat}(hp:primeN p)(hM:∀ i c,M i c<p)(hm:m<N):∃ x:Nat→Int,(∃ c,c<N∧¬ (p:Int)∣x c)∧Ker p N M m x:=by
  obtain ⟨k,E,ld,h,hk,hK⟩:=rref_exists (N:=N) (m:=m) hp hM;have hp2:=hp.two
  by_cases hall:∀ c,c<N→isLd k ld c
  · have:=ld_same (k':=N) (ld':=fun i=>i) h.mono (fun i j hij _=>hij) (fun c=>⟨fun ⟨i,hi,e⟩=>⟨c,by rw [← e];exact h.lt i hi,rfl⟩,fun ⟨i,hi,e⟩=>hall c (by dsimp only at e;omega)⟩)
    omega
  · have hx:∃ c,c<N∧¬ isLd k ld c:=by
      apply Classical.byContradiction
      intro hno;exact hall fun c hc=>Classical.byContradiction fun hn=>hno ⟨c,hc,hn⟩
    obtain ⟨c,hc,hn⟩:=hx;refine ⟨free E k ld c,⟨c,hc,?_⟩,(hK _).1 (h.free_ker hc hn)⟩;have e:free E k ld c c=1:=by unfold free;simp
    rw [e];intro hd;have:=Int.le_of_dvd (by omega) hd
    omega
theorem dvd_prime {p a:Nat}{x:Int}(hp:primeN p)(ha:a<p)(h0:a≠0)(h:(p:Int)∣x*(a:Int)):(p:Int)∣x:=by
  obtain ⟨v,hv⟩:=inv_ex hp ha h0;have h1:(p:Int)∣((a*v:Nat):Int) - 1:=by
    have:=emod_dvd (p:Int) ((a*v:Nat):Int);rw [← Int.natCast_emod,hv] at this;have h2:=Int.dvd_neg.2 this
    rwa [show -(((1:Nat):Int) - ((a*v:Nat):Int))=((a*v:Nat):Int) - 1 by omega] at h2
  have h3:x=(x*(a:Int))*(v:Int) - x*(((a*v:Nat):Int) - 1):=by rw [Int.natCast_mul];grind
  rw [h3];exact Int.dvd_sub (Int.dvd_mul_of_dvd_left h) (Int.dvd_mul_of_dvd_right h1)
def powU (u:Nat→Nat) (W:Nat→Nat→Nat):Nat→Nat→Nat
  | 0=>u
  | k+1=>W k
theorem Pr_comb {p:Int}{n N:Nat}{T:Nat→Nat→Nat→Nat}{x v:Nat→Int}{R:Nat→Nat→Int}(h:∀ a,a<n→p∣sI (fun j=>x j*R j a) N)(c:Nat):p∣sI (fun j=>x j*Pr n T (R j) v c) N:=by
  have e:sI (fun j=>x j*Pr n T (R j) v c) N=sI (fun a=>sI (fun j=>x j*R j a) N*sI (fun b=>v b*(T a b c:Int)) n) n:=by
    have e1:∀ j,x j*Pr n T (R j) v c=sI (fun a=>x j*R j a*sI (fun b=>v b*(T a b c:Int)) n) n:=fun j=>by
      rw [Pr_left,← sI_mul];exact sI_congr fun a _=>by grind
    have e2:∀ a,sI (fun j=>x j*R j a) N*sI (fun b=>v b*(T a b c:Int)) n=sI (fun j=>x j*R j a*sI (fun b=>v b*(T a b c:Int)) n) N:=fun a=>sI_mulr _ _ _;simp only [e1,e2];exact sI_swap _ _ _
  rw [e];exact sI_dvd fun a ha=>Int.dvd_mul_of_dvd_left (h a ha)
end Go.Ech
namespace Go.Ech
open Go.Sw
def EqP (p n:Nat) (x y:Nat→Int):Prop:=∀ c,c<n→(p:Int)∣x c - y c
section
variable {p n : Nat} {T : Nat → Nat → Nat → Nat} {x y z x' y' : Nat → Int}
theorem EqP.refl (x:Nat→Int):EqP p n x x:=fun c _=>by rw [Int.sub_self];exact ⟨0,by simp⟩
theorem EqP.symm (h:EqP p n x y):EqP p n y x:=fun c hc=>by
  have:=Int.dvd_neg.2 (h c hc)
  rwa [Int.neg_sub] at this
theorem EqP.trans (h:EqP p n x y)(k:EqP p n y z):EqP p n x z:=fun c hc=>by
  have:=Int.dvd_add (h c hc) (k c hc)
  rwa [show x c - y c+(y c - z c)=x c - z c by omega] at this
theorem EqP.mul (h:EqP p n x x')(k:EqP p n y y'):EqP p n (Pr n T x y) (Pr n T x' y'):=fun c _=>Pr_congr h k c
theorem EqP.add (h:EqP p n x x')(k:EqP p n y y'):EqP p n (fun c=>x c+y c) (fun c=>x' c+y' c):=fun c hc=>by
  have:=Int.dvd_add (h c hc) (k c hc)
  rwa [show x c - x' c+(y c - y' c)=x c+y c - (x' c+y' c) by omega] at this
theorem EqP.smul (a:Int)(h:EqP p n x x'):EqP p n (fun c=>a*x c) (fun c=>a*x' c):=fun c hc=>by
  show (p:Int)∣a*x c - a*x' c
  rw [← Int.mul_sub];exact Int.dvd_mul_of_dvd_right (h c hc)
def ComI (n:Nat) (T:Nat→Nat→Nat→Nat):Prop:=∀ i,i<n→∀ j,j<n→∀ k,k<n→T i j k=T j i k
theorem Pr_comm (h:ComI n T)(x y:Nat→Int):EqP p n (Pr n T x y) (Pr n T y x):=fun c hc=>by
  have e:Pr n T x y c=Pr n T y x c:=by
    unfold Pr
    rw [sI_swap];exact sI_congr fun a ha=>sI_congr fun b hb=>by rw [h b hb a ha c hc];grind
  rw [e,Int.sub_self];exact ⟨0,by simp⟩
theorem Pr_add (x y z:Nat→Int)(c:Nat):Pr n T (fun c=>x c+y c) z c=Pr n T x z c+Pr n T y z c:=by
  unfold Pr
  rw [← sI_add];exact sI_congr fun a _=>by rw [← sI_add];exact sI_congr fun b _=>by grind
theorem Pr_smul (a:Int)(x z:Nat→Int)(c:Nat):Pr n T (fun c=>a*x c) z c=a*Pr n T x z c:=by
  unfold Pr
  rw [← sI_mul];exact sI_congr fun i _=>by rw [← sI_mul];exact sI_congr fun b _=>by grind
theorem Pr_addR (x y z:Nat→Int)(c:Nat):Pr n T z (fun c=>x c+y c) c=Pr n T z x c+Pr n T z y c:=by
  unfold Pr
  rw [← sI_add];exact sI_congr fun a _=>by rw [← sI_add];exact sI_congr fun b _=>by grind
theorem Pr_smulR (a:Int)(x z:Nat→Int)(c:Nat):Pr n T z (fun c=>a*x c) c=a*Pr n T z x c:=by
  unfold Pr
  rw [← sI_mul];exact sI_congr fun i _=>by rw [← sI_mul];exact sI_congr fun b _=>by grind
theorem Pr_zero (x:Nat→Int)(c:Nat):Pr n T (fun _=>0) x c=0:=by
  unfold Pr;exact sI_zero fun a _=>sI_zero fun b _=>by simp
theorem Pr_zeroR (x:Nat→Int)(c:Nat):Pr n T x (fun _=>0) c=0:=by
  unfold Pr;exact sI_zero fun a _=>sI_zero fun b _=>by simp
end
def eP (n:Nat) (T:Nat→Nat→Nat→Nat) (e v:Nat→Int):Nat→Nat→Int
  | 0=>e
  | k+1=>Pr n T (eP n T e v k) v
def evl (n:Nat) (T:Nat→Nat→Nat→Nat) (e v:Nat→Int):List Int→Nat→Nat→Int
  | [],_,_=>0
  | a::r,j,c=>a*eP n T e v j c+evl n T e v r (j+1) c
def addL:List Int→List Int→List Int
  | [],r=>r
  | q,[]=>q
  | a::q,b::r=>(a+b)::addL q r
def mulLL (q:List Int):List Int→List Int
  | []=>[]
  | b::r=>addL (q.map (b * ·)) (0::mulLL q r)
def congL (p:Int) (q r:List Int):Bool:=(addL q (r.map (-1 * ·))).all fun a=>decide (a%p=0)
section
variable {p n : Nat} {T : Nat → Nat → Nat → Nat} {e v : Nat → Int}
theorem evl_add:∀ (q r:List Int) (j c:Nat),evl n T e v (addL q r) j c=evl n T e v q j c+evl n T e v r j c
  | [],r,j,c=>by simp [addL,evl]
  | a::q,[],j,c=>by simp [addL,evl]
  | a::q,b::r,j,c=>by simp only [addL,evl];rw [evl_add q r];grind
theorem evl_map (a:Int):∀ (q:List Int) (j c:Nat),evl n T e v (q.map (a * ·)) j c=a*evl n T e v q j c
  | [],j,c=>by simp [evl]
  | b::q,j,c=>by simp only [List.map_cons,evl];rw [evl_map a q];grind
theorem evl_all {p:Int}:∀ (q:List Int) (j c:Nat),(q.all fun a=>decide (a%p=0))=true→p∣evl n T e v q j c
  | [],j,c,_=>⟨0,by simp [evl]⟩
  | a :: q, j, c, h => by
    simp only [List.all_cons,Bool.and_eq_true,decide_eq_true_eq] at h
    simp only [evl]
    exact Int.dvd_add (Int.dvd_mul_of_dvd_left (Int.dvd_of_emod_eq_zero h.1)) (evl_all q (j+1) c h.2)
theorem evl_cong {p:Int}(q r:List Int)(j c:Nat)(h:congL p q r=true):p∣evl n T e v q j c - evl n T e v r j c:=by
  have:=evl_all (n:=n) (T:=T) (e:=e) (v:=v) (addL q (r.map (-1 * ·))) j c h;rw [evl_add,evl_map] at this
  rwa [show ∀ A B:Int,A + -1*B=A - B from fun A B=>by omega] at this
theorem evl_shift0 (q:List Int)(j c:Nat):evl n T e v (0::q) j c=evl n T e v q (j+1) c:=by simp [evl]
theorem evl_v:∀ (q:List Int) (j:Nat),EqP p n (Pr n T (evl n T e v q j) v) (evl n T e v q (j+1))
  | [], j => fun c _ => by
    have:Pr n T (evl n T e v [] j) v c=0:=Pr_zero v c
    rw [this];exact ⟨0,by simp [evl]⟩
  | a :: q, j => fun c hc => by
    have e1:Pr n T (evl n T e v (a::q) j) v c=a*eP n T e v (j+1) c+Pr n T (evl n T e v q (j+1)) v c:=by
      have:evl n T e v (a::q) j=fun c=>(fun c=>a*eP n T e v j c) c+evl n T e v q (j+1) c:=rfl;rw [this,Pr_add,Pr_smul];rfl
    rw [e1];have:=evl_v q (j+1) c hc;simp only [evl]
    rwa [show ∀ A B C:Int,A+B - (A+C)=B - C from fun A B C=>by omega]
variable (ha : AssI p n T) (hk : ComI n T) (he : EqP p n (Pr n T e e) e)
include ha hk in
theorem Pr_right_comm (x y z:Nat→Int):EqP p n (Pr n T (Pr n T x y) z) (Pr n T (Pr n T x z) y):=by
  refine EqP.trans (fun c hc=>Pr_assoc ha x y z hc)<|EqP.trans (EqP.mul (EqP.refl x) (Pr_comm hk y z)) ?_;exact EqP.symm fun c hc=>Pr_assoc ha x z y hc
include ha hk he in
theorem eP_e:∀ i,EqP p n (Pr n T (eP n T e v i) e) (eP n T e v i)
  | 0=>he
  | i+1=>(Pr_right_comm ha hk _ v e).trans (EqP.mul (eP_e i) (EqP.refl v))
include ha hk he in
theorem eP_add (i:Nat):∀ j,EqP p n (Pr n T (eP n T e v i) (eP n T e v j)) (eP n T e v (i+j))
  | 0=>eP_e ha hk he i
  | j + 1 => by
    refine EqP.trans (EqP.symm fun c hc=>Pr_assoc ha (eP n T e v i) (eP n T e v j) v hc) ?_
    exact EqP.mul (eP_add i j) (EqP.refl v)
include ha hk he in
theorem evl_eP (j:Nat):∀ (q:List Int) (i:Nat),EqP p n (Pr n T (evl n T e v q i) (eP n T e v j)) (evl n T e v q (i+j))
  | [], i => fun c _ => by
    have:Pr n T (evl n T e v [] i) (eP n T e v j) c=0:=Pr_zero _ c
    rw [this];exact ⟨0,by simp [evl]⟩
  | a :: q, i => fun c hc => by
    have e1:Pr n T (evl n T e v (a::q) i) (eP n T e v j) c=a*Pr n T (eP n T e v i) (eP n T e v j) c+Pr n T (evl n T e v q (i+1)) (eP n T e v j) c:=by
      have:evl n T e v (a::q) i=fun c=>(fun c=>a*eP n T e v i c) c+evl n T e v q (i+1) c:=rfl;rw [this,Pr_add,Pr_smul]
    rw [e1];have h1:=evl_eP j q (i+1) c hc;have h2:=Int.dvd_mul_of_dvd_right (b:=a) (eP_add (v:=v) ha hk he i j c hc);have:=Int.dvd_add h2 h1;simp only [evl];rw [show i+1+j=i+j+1 by omega] at this
    rwa [Int.mul_sub,show ∀ A B C D:Int,A - B+(C - D)=A+C - (B+D) from fun A B C D=>by omega] at this
include ha hk he in
theorem evl_mul (q:List Int)(i:Nat):∀ (r:List Int) (j:Nat),EqP p n (Pr n T (evl n T e v q i) (evl n T e v r j)) (evl n T e v (mulLL q r) (i+j))
  | [], j => fun c _ => by
    have:Pr n T (evl n T e v q i) (evl n T e v [] j) c=0:=Pr_zeroR _ c
    rw [this];exact ⟨0,by simp [evl,mulLL]⟩
  | b :: r, j => fun c hc => by
    have e1:Pr n T (evl n T e v q i) (evl n T e v (b::r) j) c=b*Pr n T (evl n T e v q i) (eP n T e v j) c+Pr n T (evl n T e v q i) (evl n T e v r (j+1)) c:=by
      have:evl n T e v (b::r) j=fun c=>(fun c=>b*eP n T e v j c) c+evl n T e v r (j+1) c:=rfl;rw [this,Pr_addR,Pr_smulR]
    rw [e1];have h1:=evl_mul q i r (j+1) c hc;have h2:=Int.dvd_mul_of_dvd_right (b:=b) (evl_eP (v:=v) ha hk he j q i c hc);have:=Int.dvd_add h2 h1;simp only [mulLL];rw [evl_add,evl_map,evl_shift0];rw [show i+(j+1)=i+j+1 by omega] at this
    rwa [Int.mul_sub,show ∀ A B C D:Int,A - B+(C - D)=A+C - (B+D) from fun A B C D=>by omega] at this
end
end Go.Ech
namespace Go.Ech
open Go.Sw
def linL (p:Int) (k a:Int) (q:List Int):List Int:=(addL (0::q.map (k * ·)) (q.map (-(k*a) * ·))).map (· % p)
def iL (p:Int) (c:Int):Nat→List Int
  | 0=>[1]
  | k+1=>linL p 1 c (iL p c k)
def invI (p:Nat) (x:Int):Nat:=((List.range p).find? (fun (k:Nat)=>decide ((x*(k:Int))%(p:Int)=1))).getD 0
def sL (p c:Nat):Nat→List Int
  | 0=>[1]
  | d+1=>if d=c then sL p c d else linL p (invI p ((c:Int) - (d:Int))) d (sL p c d)
def pcL (p c:Nat):List Int:=addL [1] ((iL p c (p - 1)).map (-1 * ·))
def redL (p:Nat) (q:List Int):List Int:=addL (q.take p) (0::q.drop p)
theorem chk1:∀ p∈([2,3,5,7,11,13]:List Nat),∀ c,c<p→congL p (sL p c p) (pcL p c)=true:=by decide +kernel
theorem chk2:∀ p∈([2,3,5,7,11,13]:List Nat),∀ c,c<p→∀ d,d<p→congL p (redL p (mulLL (pcL p c) (pcL p d))) (if c=d then pcL p c else [])=true:=by decide +kernel
section
variable {p n : Nat} {T : Nat → Nat → Nat → Nat} {e v u : Nat → Int}
theorem evl_mod {p:Int}:∀ (q:List Int) (j c:Nat),p∣evl n T e v (q.map (· % p)) j c - evl n T e v q j c
  | [],j,c=>⟨0,by simp [evl]⟩
  | a :: q, j, c => by
    simp only [List.map_cons,evl]
    have h1:=evl_mod (p:=p) q (j+1) c
    have h2:p∣(a%p - a)*eP n T e v j c:=Int.dvd_mul_of_dvd_left (emod_dvd p a)
    have:=Int.dvd_add h2 h1
    rwa [Int.sub_mul,show ∀ A B C D:Int,A - B+(C - D)=A+C - (B+D) from fun A B C D=>by omega] at this
theorem evl_lin (k a:Int)(q:List Int)(j c:Nat):(p:Int)∣evl n T e v (linL p k a q) j c - (k*evl n T e v q (j+1) c - k*a*evl n T e v q j c):=by
  have h:=evl_mod (p:=(p:Int)) (n:=n) (T:=T) (e:=e) (v:=v) (addL (0::q.map (k * ·)) (q.map (-(k*a) * ·))) j c;rw [evl_add,evl_shift0,evl_map,evl_map] at h
  unfold linL
  rwa [show ∀ A B C D:Int,A - (B + -(C)*D)=A - (B - C*D) from fun A B C D=>by rw [Int.neg_mul];omega] at h
variable (ha : AssI p n T) (hk : ComI n T) (he : EqP p n (Pr n T e e) e)
theorem lin_S {x f:Nat→Int}{q:List Int}{k a:Int}(hu:∀ y,EqP p n (Pr n T y u) y)(hx:EqP p n x (evl n T e v q 0))(hf:EqP p n f (fun c=>k*v c - k*a*u c)):EqP p n (Pr n T x f) (evl n T e v (linL p k a q) 0):=by
  refine EqP.trans (EqP.mul hx hf) fun c hc=>?_;have e1:Pr n T (evl n T e v q 0) (fun c=>k*v c - k*a*u c) c=k*Pr n T (evl n T e v q 0) v c - k*a*Pr n T (evl n T e v q 0) u c:=by
    have:(fun c=>k*v c - k*a*u c)=(fun c=>(fun c=>k*v c) c+(fun c=>-(k*a)*u c) c):=by funext c;show k*v c - k*a*u c=k*v c + -(k*a)*u c;rw [Int.neg_mul];omega
    rw [this,Pr_addR,Pr_smulR,Pr_smulR,Int.neg_mul];omega
  rw [e1];have h1:=Int.dvd_mul_of_dvd_right (b:=k) (evl_v (p:=p) (n:=n) (T:=T) (e:=e) (v:=v) q 0 c hc);have h2:=Int.dvd_mul_of_dvd_right (b:=k*a) (hu (evl n T e v q 0) c hc);have h3:=evl_lin (p:=p) (n:=n) (T:=T) (e:=e) (v:=v) k a q 0 c;have:=Int.dvd_sub (Int.dvd_sub h1 h2) h3;rw [Int.mul_sub,Int.mul_sub] at this
  rwa [show ∀ A B C D E:Int,A - B - (C - D) - (E - (B - D))=A - C - E from fun A B C D E=>by omega] at this
include ha hk he in
theorem lin_I {x f:Nat→Int}{q:List Int}{a:Int}(hx:EqP p n x (evl n T e v q 0))(hf:EqP p n f (fun c=>Pr n T e v c - a*e c)):EqP p n (Pr n T x f) (evl n T e v (linL p 1 a q) 0):=by
  refine EqP.trans (EqP.mul hx hf) fun c hc=>?_;have e1:Pr n T (evl n T e v q 0) (fun c=>Pr n T e v c - a*e c) c=Pr n T (evl n T e v q 0) (eP n T e v 1) c - a*Pr n T (evl n T e v q 0) (eP n T e v 0) c:=by
    have:(fun c=>Pr n T e v c - a*e c)=(fun c=>eP n T e v 1 c+(fun c=>-a*eP n T e v 0 c) c):=by funext c;show Pr n T e v c - a*e c=Pr n T e v c + -a*e c;rw [Int.neg_mul];omega
    rw [this,Pr_addR,Pr_smulR,Int.neg_mul];omega
  rw [e1];have h1:=evl_eP (v:=v) ha hk he 1 q 0 c hc;have h2:=Int.dvd_mul_of_dvd_right (b:=a) (evl_eP (v:=v) ha hk he 0 q 0 c hc);have h3:=evl_lin (p:=p) (n:=n) (T:=T) (e:=e) (v:=v) 1 a q 0 c;have:=Int.dvd_sub (Int.dvd_sub h1 h2) h3;rw [Int.mul_sub,Int.one_mul,Int.one_mul] at this
  rwa [show ∀ A B C D E:Int,A - B - (C - D) - (E - (B - D))=A - C - E from fun A B C D E=>by omega] at this
theorem evl_split (m:Nat):∀ (q:List Int) (j c:Nat),evl n T e v q j c=evl n T e v (q.take m) j c+evl n T e v (q.drop m) (j+m) c:=by
  induction m with
  | zero=>intro q j c;simp [evl]
  | succ m ih =>
    intro q j c
    cases q with
    | nil=>simp [evl]
    | cons a q=>simp only [List.take_succ_cons,List.drop_succ_cons,evl];rw [ih q (j+1) c,show j+1+m=j+(m+1) by omega];omega
def vP (n:Nat) (T:Nat→Nat→Nat→Nat) (u v:Nat→Int):Nat→Nat→Int
  | 0=>u
  | k+1=>Pr n T (vP n T u v k) v
include ha in
theorem eP_vP (hu:∀ y,EqP p n (Pr n T y u) y):∀ i,EqP p n (eP n T e v i) (Pr n T e (vP n T u v i))
  | 0=>(hu e).symm
  | i+1=>(EqP.mul (eP_vP hu i) (EqP.refl v)).trans fun c hc=>Pr_assoc ha e (vP n T u v i) v hc
include ha in
theorem eP_fix (hu:∀ y,EqP p n (Pr n T y u) y)(hv:EqP p n (vP n T u v p) v):∀ i,EqP p n (eP n T e v (p+i)) (eP n T e v (1+i))
  | 0=>(eP_vP ha hu p).trans (EqP.mul (EqP.refl e) hv)
  | i+1=>EqP.mul (eP_fix hu hv i) (EqP.refl v)
theorem evl_fix (hf:∀ i,EqP p n (eP n T e v (p+i)) (eP n T e v (1+i))):∀ (q:List Int) (i:Nat),EqP p n (evl n T e v q (p+i)) (evl n T e v q (1+i))
  | [],i=>EqP.refl _
  | a :: q, i => fun c hc => by
    simp only [evl]
    have h1:=Int.dvd_mul_of_dvd_right (b:=a) (hf i c hc)
    have h2:=evl_fix hf q (i+1) c hc
    have:=Int.dvd_add h1 h2
    rwa [Int.mul_sub,show ∀ A B C D:Int,A - B+(C - D)=A+C - (B+D) from fun A B C D=>by omega] at this
theorem evl_red (hf:∀ i,EqP p n (eP n T e v (p+i)) (eP n T e v (1+i)))(q:List Int):EqP p n (evl n T e v q 0) (evl n T e v (redL p q) 0):=fun c hc=>by
  unfold redL
  rw [evl_add,evl_shift0,evl_split p q 0 c]
  have:=evl_fix hf (q.drop p) 0 c hc
  rw [Nat.add_zero,Nat.add_zero] at this
  rwa [Nat.zero_add,Nat.zero_add,show ∀ A B C:Int,A+B - (A+C)=B - C from fun A B C=>by omega]
include ha hk he in
theorem pc_mul (hp:primeN p)(hf:∀ i,EqP p n (eP n T e v (p+i)) (eP n T e v (1+i))){c d:Nat}(hc:c<p)(hd:d<p){x y:Nat→Int}(hx:EqP p n x (evl n T e v (pcL p c) 0))(hy:EqP p n y (evl n T e v (pcL p d) 0)) :
    EqP p n (Pr n T x y) (if c=d then x else fun _=>0):=by
  have hm:p∈([2,3,5,7,11,13]:List Nat):=by unfold primeN at hp;simp;omega
  have h1:=(EqP.mul (T:=T) hx hy).trans (evl_mul ha hk he (pcL p c) 0 (pcL p d) 0);have h2:=h1.trans (evl_red hf _);have h3:EqP p n (evl n T e v (redL p (mulLL (pcL p c) (pcL p d))) 0) (evl n T e v (if c=d then pcL p c else []) 0):=fun i _=>evl_cong _ _ 0 i (chk2 p hm c hc d hd);have h4:=h2.trans h3
  by_cases hcd:c=d
  · rw [if_pos hcd] at h4 ⊢;exact h4.trans hx.symm
  · rw [if_neg hcd] at h4 ⊢;exact h4
include ha hk in
theorem pc_orth {e2 v2:Nat→Int}(h0:EqP p n (Pr n T e e2) (fun _=>0))(q r:List Int):EqP p n (Pr n T (evl n T e v q 0) (evl n T e2 v2 r 0)) (fun _=>0):=by
  have z:∀ y,EqP p n y (fun _=>0)→∀ w,EqP p n (Pr n T y w) (fun _=>0):=fun y hy w=>(EqP.mul hy (EqP.refl w)).trans fun c hc=>by rw [Pr_zero];exact ⟨0,by simp⟩
  have a1:∀ i,EqP p n (Pr n T (eP n T e v i) e2) (fun _=>0):=fun i=>by
    induction i with
    | zero=>exact h0
    | succ i ih=>exact (Pr_right_comm ha hk _ v e2).trans (z _ ih v)
  have a2:∀ (q:List Int) (i:Nat),EqP p n (Pr n T (evl n T e v q i) e2) (fun _=>0):=fun q=>by
    induction q with
    | nil=>intro i c hc;have:Pr n T (evl n T e v [] i) e2 c=0:=Pr_zero e2 c;rw [this];exact ⟨0,by simp⟩
    | cons a q ih =>
      intro i c hc;have e1:Pr n T (evl n T e v (a::q) i) e2 c=a*Pr n T (eP n T e v i) e2 c+Pr n T (evl n T e v q (i+1)) e2 c:=by
        have:evl n T e v (a::q) i=fun c=>(fun c=>a*eP n T e v i c) c+evl n T e v q (i+1) c:=rfl;rw [this,Pr_add,Pr_smul]
      rw [e1];have h1:=Int.dvd_mul_of_dvd_right (b:=a) (a1 i c hc);have h2:=ih (i+1) c hc;simp only [Int.sub_zero] at h1 h2 ⊢;exact Int.dvd_add h1 h2
  have a3:∀ j,EqP p n (Pr n T (evl n T e v q 0) (eP n T e2 v2 j)) (fun _=>0):=fun j=>by
    induction j with
    | zero=>exact a2 q 0
    | succ j ih=>exact EqP.trans (EqP.symm fun c hc=>Pr_assoc ha (evl n T e v q 0) (eP n T e2 v2 j) v2 hc) (z _ ih v2)
  have a4:∀ (r:List Int) (j:Nat),EqP p n (Pr n T (evl n T e v q 0) (evl n T e2 v2 r j)) (fun _=>0):=fun r=>by
    induction r with
    | nil=>intro j c hc;have:Pr n T (evl n T e v q 0) (evl n T e2 v2 [] j) c=0:=Pr_zeroR _ c;rw [this];exact ⟨0,by simp⟩
    | cons b r ih =>
      intro j c hc;have e1:Pr n T (evl n T e v q 0) (evl n T e2 v2 (b::r) j) c=b*Pr n T (evl n T e v q 0) (eP n T e2 v2 j) c+Pr n T (evl n T e v q 0) (evl n T e2 v2 r (j+1)) c:=by
        have:evl n T e2 v2 (b::r) j=fun c=>(fun c=>b*eP n T e2 v2 j c) c+evl n T e2 v2 r (j+1) c:=rfl;rw [this,Pr_addR,Pr_smulR]
      rw [e1];have h1:=Int.dvd_mul_of_dvd_right (b:=b) (a3 j c hc);have h2:=ih (j+1) c hc;simp only [Int.sub_zero] at h1 h2 ⊢;exact Int.dvd_add h1 h2
  exact a4 r 0
end
theorem idem_count {p n m:Nat}{T:Nat→Nat→Nat→Nat}{A:Nat→Nat→Nat}(hp:primeN p)(hA:∀ i,i<m→∀ c,A i c<p)(hi:∀ i,i<m→EqP p n (Pr n T (ci (A i)) (ci (A i))) (ci (A i)))
    (ho:∀ i,i<m→∀ j,j<m→i≠j→EqP p n (Pr n T (ci (A i)) (ci (A j))) (fun _=>0)) (hz:∀ i,i<m→∃ c,c<n∧A i c≠0):m≤n:=by
  apply Classical.byContradiction
  intro hlt;have hp2:=hp.two;obtain ⟨x,⟨j,hj,hxj⟩,hK⟩:=dep (N:=m) (m:=n) (M:=fun c i=>if i<m then A i c else 0) hp (fun c i=>by split;exact hA i (by assumption) c;omega) (by omega);have hs:∀ a,a<n→(p:Int)∣sI (fun i=>x i*ci (A i) a) m:=fun a h=>by
    have:=hK a h
    unfold dot ci at this
    rwa [sI_congr (g:=fun i=>x i*ci (A i) a) (fun i hi=>by simp only [if_pos hi,ci];exact Int.mul_comm _ _)] at this
  obtain ⟨c,hc,hne⟩:=hz j hj;have h1:=Pr_comb (T:=T) (v:=ci (A j)) (R:=fun i=>ci (A i)) (x:=x) (N:=m) (p:=(p:Int)) (n:=n) hs c;have h2:(p:Int)∣sI (fun i=>x i*Pr n T (ci (A i)) (ci (A j)) c) m - x j*ci (A j) c:=by
    have e:x j*ci (A j) c=sI (fun i=>if i=j then x j*ci (A j) c else 0) m:=by
      rw [sI_one hj]
      · simp
      · intro i _ hne;simp [hne]
    rw [e,sI_sub];refine sI_dvd fun i hi'=>?_
    by_cases eij:i=j
    · rw [if_pos eij,eij,← Int.mul_sub];exact Int.dvd_mul_of_dvd_right (hi j hj c hc)
    · rw [if_neg eij,Int.sub_zero]
      have:=ho i hi' j hj eij c hc;rw [Int.sub_zero] at this;exact Int.dvd_mul_of_dvd_right this
  exact hxj (dvd_prime hp (hA j hj c) hne ((dvd_iff_sub h2).1 h1))
end Go.Ech
namespace Go.Ech
open Go.Sw
def bin:Nat→Nat→Nat
  | 0,0=>1
  | 0,_+1=>0
  | _+1,0=>1
  | k+1,i+1=>bin k i+bin k (i+1)
theorem bin_zero:∀ k,bin k 0=1
  | 0=>rfl
  | _+1=>rfl
theorem bin_out:∀ k i,k<i→bin k i=0
  | 0,0,h=>absurd h (by omega)
  | 0,_+1,_=>rfl
  | k+1,0,h=>absurd h (by omega)
  | k+1,i+1,h=>by rw [bin,bin_out k i (by omega),bin_out k (i+1) (by omega)]
theorem bin_full:∀ k,bin k k=1
  | 0=>rfl
  | k+1=>by rw [bin,bin_full k,bin_out k (k+1) (by omega)]
theorem bin_prime:∀ p∈([2,3,5,7,11,13]:List Nat),∀ i,i<p→0<i→bin p i%p=0:=by decide +kernel
theorem fermat:∀ p∈([2,3,5,7,11,13]:List Nat),∀ a,a<p→a ^ p%p=a:=by decide +kernel
theorem sI_head (f:Nat→Int):∀ m,sI f (m+1)=f 0+sI (fun i=>f (i+1)) m
  | 0=>by simp [sI]
  | m + 1 => by
    have:sI f (m+1+1)=sI f (m+1)+f (m+1):=rfl
    rw [this,sI_head f m]
    have h2:sI (fun i=>f (i+1)) (m+1)=sI (fun i=>f (i+1)) m+f (m+1):=rfl
    rw [h2];omega
theorem bin_sum (Z:Nat→Int)(k:Nat):sI (fun i=>(bin k i:Int)*Z (i+1)) (k+1)+sI (fun i=>(bin k i:Int)*Z i) (k+1)=sI (fun i=>(bin (k+1) i:Int)*Z i) (k+1+1):=by
  rw [sI_head (fun i=>(bin (k+1) i:Int)*Z i),sI_head (fun i=>(bin k i:Int)*Z i)];have e1:sI (fun i=>(bin (k+1) (i+1):Int)*Z (i+1)) (k+1)=sI (fun i=>(bin k i:Int)*Z (i+1)) (k+1)+sI (fun i=>(bin k (i+1):Int)*Z (i+1)) (k+1):=by
    rw [← sI_add];exact sI_congr fun i _=>by rw [bin,Int.natCast_add,Int.add_mul]
  have e2:sI (fun i=>(bin k (i+1):Int)*Z (i+1)) (k+1)=sI (fun i=>(bin k (i+1):Int)*Z (i+1)) k:=by
    show sI _ k+(bin k (k+1):Int)*Z (k+1)=_
    rw [bin_out k (k+1) (by omega)];simp
  rw [e1,e2,bin_zero,bin_zero];omega
section
variable {p n : Nat} {T : Nat → Nat → Nat → Nat} {u : Nat → Int}
theorem vP_congr {x y:Nat→Int}(h:EqP p n x y):∀ k,EqP p n (vP n T u x k) (vP n T u y k)
  | 0=>EqP.refl _
  | k+1=>EqP.mul (vP_congr h k) h
theorem vP_smul (a:Int)(x:Nat→Int):∀ k c,vP n T u (fun c=>a*x c) k c=a ^ k*vP n T u x k c
  | 0,c=>by simp [vP]
  | k + 1, c => by
    have e:vP n T u (fun c=>a*x c) k=fun c=>a ^ k*vP n T u x k c:=funext (vP_smul a x k)
    simp only [vP]
    rw [e,Pr_smul,Pr_smulR,Int.pow_succ,Int.mul_assoc]
theorem vP_zero:∀ k c,vP n T u (fun _=>0) (k+1) c=0:=fun k c=>by simp only [vP];exact Pr_zeroR _ c
theorem Pr_sum (N:Nat)(f:Nat→Nat→Int)(z:Nat→Int)(c:Nat):Pr n T (fun c=>sI (fun i=>f i c) N) z c=sI (fun i=>Pr n T (f i) z c) N:=by
  induction N with
  | zero=>exact Pr_zero z c
  | succ N ih =>
    show Pr n T (fun c=>sI (fun i=>f i c) N+f N c) z c=sI (fun i=>Pr n T (f i) z c) N+Pr n T (f N) z c
    rw [Pr_add,ih]
variable (ha : AssI p n T) (hk : ComI n T) (hu : ∀ y, EqP p n (Pr n T y u) y)
include ha hk hu in
theorem vP_binom (x y:Nat→Int):∀ k,EqP p n (vP n T u (fun c=>x c+y c) k) (fun c=>sI (fun i=>(bin k i:Int)*Pr n T (vP n T u x i) (vP n T u y (k - i)) c) (k+1))
  | 0 => fun c hc => by
    have h:=hu u c hc
    have:=Int.dvd_neg.2 h
    rw [Int.neg_sub] at this
    show (p:Int)∣u c - (0+((bin 0 0:Nat):Int)*Pr n T u u c)
    rw [bin_zero]
    simpa using this
  | k + 1 => by
    have ih:=vP_binom x y k
    refine EqP.trans (EqP.mul ih (EqP.refl _)) fun c hc=>?_
    have e1:Pr n T (fun c=>sI (fun i=>(bin k i:Int)*Pr n T (vP n T u x i) (vP n T u y (k - i)) c) (k+1)) (fun c=>x c+y c) c
        = sI (fun i=>(bin k i:Int)*Pr n T (Pr n T (vP n T u x i) (vP n T u y (k - i))) x c) (k+1)+sI (fun i=>(bin k i:Int)*Pr n T (Pr n T (vP n T u x i) (vP n T u y (k - i))) y c) (k+1):=by
      rw [Pr_addR,Pr_sum,Pr_sum]
      congr 1<;>exact sI_congr fun i _=>Pr_smul _ _ _ _
    rw [e1];have hb:=bin_sum (fun i=>Pr n T (vP n T u x i) (vP n T u y (k+1 - i)) c) k;rw [← hb];have d1:(p:Int)∣sI (fun i=>(bin k i:Int)*Pr n T (Pr n T (vP n T u x i) (vP n T u y (k - i))) x c) (k+1) - sI (fun i=>(bin k i:Int)*Pr n T (vP n T u x (i+1)) (vP n T u y (k+1 - (i+1))) c) (k+1):=by
      rw [sI_sub];refine sI_dvd fun i hi=>?_;rw [← Int.mul_sub,show k+1 - (i+1)=k - i by omega];exact Int.dvd_mul_of_dvd_right (Pr_right_comm ha hk (vP n T u x i) (vP n T u y (k - i)) x c hc)
    have d2:(p:Int)∣sI (fun i=>(bin k i:Int)*Pr n T (Pr n T (vP n T u x i) (vP n T u y (k - i))) y c) (k+1) - sI (fun i=>(bin k i:Int)*Pr n T (vP n T u x i) (vP n T u y (k+1 - i)) c) (k+1):=by
      rw [sI_sub];refine sI_dvd fun i hi=>?_;rw [← Int.mul_sub,show k+1 - i=(k - i)+1 by omega];exact Int.dvd_mul_of_dvd_right (Pr_assoc ha (vP n T u x i) (vP n T u y (k - i)) y hc)
    have:=Int.dvd_add d1 d2
    rwa [show ∀ A B C D:Int,A - B+(C - D)=A+C - (B+D) from fun A B C D=>by omega] at this
include ha hk hu in
theorem vP_frob (hp:primeN p)(x y:Nat→Int):EqP p n (vP n T u (fun c=>x c+y c) p) (fun c=>vP n T u x p c+vP n T u y p c):=by
  have hm:p∈([2,3,5,7,11,13]:List Nat):=by unfold primeN at hp;simp;omega
  have hp2:=hp.two;refine EqP.trans (vP_binom ha hk hu x y p) fun c hc=>?_;have hl:Pr n T (vP n T u x p) u c=Pr n T (vP n T u x p) (vP n T u y (p - p)) c:=by rw [Nat.sub_self];rfl
  have h1:=hu (vP n T u x p) c hc;have h2:=((Pr_comm (p:=p) hk u (vP n T u y p)).trans (hu _)) c hc;have e:(p:Int)∣sI (fun i=>(bin p i:Int)*Pr n T (vP n T u x i) (vP n T u y (p - i)) c) (p+1) - (Pr n T u (vP n T u y p) c+Pr n T (vP n T u x p) u c):=by
    have e0:sI (fun i=>(bin p i:Int)*Pr n T (vP n T u x i) (vP n T u y (p - i)) c) (p+1)=sI (fun i=>(bin p i:Int)*Pr n T (vP n T u x i) (vP n T u y (p - i)) c) p+(bin p p:Int)*Pr n T (vP n T u x p) (vP n T u y (p - p)) c:=rfl;rw [e0,← hl,bin_full];obtain ⟨q,rfl⟩:∃ q,p=q+1:=⟨p - 1,by omega⟩;rw [sI_head,bin_zero];have hs:((q+1:Nat):Int)∣sI (fun i=>(bin (q+1) (i+1):Int)*Pr n T (vP n T u x (i+1)) (vP n T u y (q+1 - (i+1))) c) q:=sI_dvd fun i hi=>by
      refine Int.dvd_mul_of_dvd_left (Int.natCast_dvd_natCast.2 (Nat.dvd_of_mod_eq_zero (bin_prime (q+1) hm (i+1) (by omega) (by omega))))
    have e3:((1:Nat):Int)*Pr n T (vP n T u x 0) (vP n T u y (q+1 - 0)) c=Pr n T u (vP n T u y (q+1)) c:=by rw [Nat.sub_zero];show ((1:Nat):Int)*Pr n T u (vP n T u y (q+1)) c=_;simp
    rw [e3,show ∀ A B C:Int,A+B+((1:Nat):Int)*C - (A+C)=B from fun A B C=>by omega];exact hs
  have:=Int.dvd_add e (Int.dvd_add h2 h1)
  rwa [show ∀ A B C D E:Int,A - (B+C)+(B - D+(C - E))=A - (E+D) from fun A B C D E=>by omega] at this
def eb (c:Nat):Nat→Int:=fun d=>if d=c then 1 else 0
def cutV (v:Nat→Nat) (m:Nat):Nat→Int:=fun d=>if d<m then (v d:Int) else 0
include ha hk hu in
theorem vP_lin (hp:primeN p)(v:Nat→Nat)(hv:∀ c,v c<p):∀ m,EqP p n (vP n T u (cutV v m) p) (fun c=>sI (fun i=>(v i:Int)*vP n T u (eb i) p c) m)
  | 0 => fun c hc => by
    have hp2:=hp.two
    obtain ⟨q,rfl⟩:∃ q,p=q+1:=⟨p - 1,by omega⟩
    have e:cutV v 0=fun _=>0:=funext fun d=>by unfold cutV;rw [if_neg (by omega)]
    rw [e,vP_zero];exact ⟨0,by simp [sI]⟩
  | m + 1 => by
    have hm:p∈([2,3,5,7,11,13]:List Nat):=by unfold primeN at hp;simp;omega
    have e:cutV v (m+1)=fun c=>cutV v m c+(fun c=>(v m:Int)*eb m c) c:=funext fun d=>by
      show (if d<m+1 then (v d:Int) else 0)=(if d<m then (v d:Int) else 0)+(v m:Int)*(if d=m then 1 else 0)
      by_cases h1:d=m
      · subst h1;rw [if_pos (by omega),if_neg (by omega),if_pos rfl];omega
      · rw [if_neg h1]
        by_cases h2:d<m
        · rw [if_pos (by omega),if_pos h2];omega
        · rw [if_neg (by omega),if_neg h2];omega
    rw [e]
    refine EqP.trans (vP_frob ha hk hu hp _ _) (EqP.add (vP_lin hp v hv m) fun c hc=>?_)
    rw [vP_smul]
    have h1:(p:Int)∣((v m:Int) ^ p - (v m:Int))*vP n T u (eb m) p c:=by
      refine Int.dvd_mul_of_dvd_left ?_;have h2:=fermat p hm (v m) (hv m);have h3:=emod_dvd (p:Int) ((v m ^ p:Nat):Int);rw [← Int.natCast_emod,h2] at h3;have:=Int.dvd_neg.2 h3
      rwa [Int.neg_sub,Int.natCast_pow] at this
    rwa [Int.sub_mul] at h1
include ha hk hu in
theorem vP_basis (hp:primeN p)(v:Nat→Nat)(hv:∀ c,v c<p):EqP p n (vP n T u (ci v) p) (fun c=>sI (fun i=>(v i:Int)*vP n T u (eb i) p c) n):=by
  refine EqP.trans (vP_congr (fun c hc=>?_) p) (vP_lin ha hk hu hp v hv n)
  unfold cutV ci;rw [if_pos hc,Int.sub_self];exact ⟨0,by simp⟩
include ha hk hu in
theorem fix_iff (hp:primeN p){M:Nat→Nat→Nat}(v:Nat→Nat)(hv:∀ c,v c<p)(hM:∀ r,r<n→∀ c,c<n→(p:Int)∣(M r c:Int) - (vP n T u (eb c) p r - eb c r)):Ker p n M n (ci v)↔EqP p n (vP n T u (ci v) p) (ci v):=by
  have key:∀ r,r<n→(p:Int)∣dot n (ci (M r)) (ci v) - (vP n T u (ci v) p r - ci v r):=fun r hr=>by
    have h1:=vP_basis ha hk hu hp v hv r hr;have h2:(p:Int)∣dot n (ci (M r)) (ci v) - (sI (fun i=>(v i:Int)*vP n T u (eb i) p r) n - ci v r):=by
      have e:ci v r=sI (fun i=>(v i:Int)*eb i r) n:=by
        rw [sI_one hr]
        · unfold eb ci;simp
        · intro i _ hne;unfold eb;rw [if_neg (fun e=>hne e.symm)];simp
      rw [e,sI_sub]
      unfold dot
      rw [sI_sub];refine sI_dvd fun i hi=>?_;have:=Int.dvd_mul_of_dvd_right (b:=(v i:Int)) (hM r hr i hi)
      unfold ci
      rwa [Int.mul_sub,Int.mul_sub,Int.mul_comm] at this
    have:=Int.dvd_sub h2 h1
    rwa [show ∀ A B C D:Int,A - (B - C) - (D - B)=A - (D - C) from fun A B C D=>by omega] at this
  constructor
  · intro h r hr
    exact (dvd_iff_sub (key r hr)).1 (h r hr)
  · intro h r hr
    exact (dvd_iff_sub (key r hr)).2 (h r hr)
end
end Go.Ech
namespace Go.Ech
open Go.Sw
theorem sol_E {p n k c i:Nat}{E:Nat→Nat→Nat}{ld:Nat→Nat}(hp:2≤p)(h:Rref p n E k ld)(hc:c<n)(hf:¬ isLd k ld c)(hi:i<k):(p:Int)∣dot n (ci (sol p E k ld c)) (ci (E i)):=by
  have hne:ld i≠c:=fun e=>hf ⟨i,hi,e⟩;have hsm:=h.small i hi c hc;have e:dot n (ci (sol p E k ld c)) (ci (E i))=sI (fun d=>(if d=c then (E i c:Int) else 0)+(if d=ld i then (((p - E i c)%p:Nat):Int) else 0)) n:=by
    unfold dot
    refine sI_congr fun d hd=>?_
    by_cases e1:d=c
    · subst e1
      rw [if_pos rfl,if_neg (fun e=>hne e.symm)]
      unfold ci sol;simp
    · rw [if_neg e1]
      cases h2:ldAt k ld d with
      | none =>
        have:ci (sol p E k ld c) d=0:=by unfold ci sol;rw [if_neg e1,h2];rfl
        rw [this,if_neg (fun e=>ldAt_none h2 i hi e.symm)];simp
      | some j =>
        obtain ⟨hj,hd2⟩:=ldAt_some h2;have:ci (sol p E k ld c) d=(((p - E j c)%p:Nat):Int):=by unfold ci sol;rw [if_neg e1,h2]
        rw [this]
        by_cases e2:j=i
        · subst e2
          rw [if_pos hd2.symm];unfold ci;rw [← hd2,h.one j hj];simp
        · have h0:=h.zero j i hj hi e2
          rw [if_neg (fun e=>by
            rcases Nat.lt_or_ge j i with q | q
            · have:=h.mono j i q hi;omega
            · have:=h.mono i j (by omega) hj;omega)]
          unfold ci;rw [← hd2,h0];simp
  rw [e,sI_add,sI_one hc,sI_one (h.lt i hi)]
  · rw [if_pos rfl,if_pos rfl,Int.natCast_emod,Int.natCast_sub (Nat.le_of_lt hsm)]
    have h1:=emod_dvd (p:Int) ((p:Int) - (E i c:Int));have h2:=Int.dvd_add h1 (⟨1,by omega⟩:(p:Int)∣(p:Int))
    rwa [show ∀ A B C:Int,A - (B - C)+B=C+A from fun A B C=>by omega] at h2
  · intro j _ hj;simp [hj]
  · intro j _ hj;simp [hj]
theorem dot_comm' {n:Nat}{x y:Nat→Int}:dot n x y=dot n y x:=sI_congr fun c _=>Int.mul_comm _ _
theorem ker_row {p n m r j:Nat}{M V:Nat→Nat→Nat}(hp:2≤p)(h:IsKer p n M m r V)(hj:j<r):Ker p n M m (ci (V j)):=by
  obtain ⟨k,E,ld,ld2,h1,h2,h3,h4⟩:=h;refine (h2 _).1 fun i hi=>?_;rw [dot_comm'];exact (h4 (ci (E i))).2 (fun c hc hf=>sol_E hp h1 hc hf hi) j hj
theorem row_lt {p n m r j c:Nat}{M V:Nat→Nat→Nat}(h:IsKer p n M m r V)(hj:j<r)(hc:c<n):V j c<p:=by
  obtain ⟨k,E,ld,ld2,h1,h2,h3,h4⟩:=h;exact h3.small j hj c hc
theorem ker_ne {p n m:Nat}{M:Nat→Nat→Nat}{u:Nat→Nat}(hp:2≤p)(hu:∀ c,u c<p){c0:Nat}(hc0:c0<n)(hz:u c0≠0)(hK:Ker p n M m (ci u)):∀ k E ld,Rref p n E k ld→(∀ x,Ker p n E k x↔Ker p n M m x)→0<nf k ld n:=fun k E ld hR hk=>by
  refine Decidable.byContradiction fun h0=>?_
  have hl:∀ c,c<n→isLd k ld c:=fun c hc=>Decidable.byContradiction fun hf=>by have:=nf_lt hc hf;omega
  obtain ⟨i,hi,e⟩:=hl c0 hc0
  have h1:=(hk _).2 hK i hi
  have e1:dot n (ci (E i)) (ci u)=(u c0:Int):=by
    unfold dot
    rw [sI_one hc0]
    · have:=hR.one i hi;rw [e] at this;unfold ci;rw [this];simp
    · intro j hj hne
      obtain ⟨q,hq,e2⟩:=hl j hj;have:=hR.zero q i hq hi (fun e3=>hne (by rw [← e2,← e,e3]));rw [e2] at this;unfold ci;rw [this];simp
  rw [e1] at h1;exact hz (Nat.eq_zero_of_dvd_of_lt (Int.natCast_dvd_natCast.1 h1) (hu c0))
theorem ker_pos {p n m:Nat}{M:Nat→Nat→Nat}(hp:2≤p)(hne:∀ k E ld,Rref p n E k ld→(∀ x,Ker p n E k x↔Ker p n M m x)→0<nf k ld n):∀ r V,IsKer p n M m r V→0<r:=fun r V h=>by
  obtain ⟨k,E,ld,ld2,h1,h2,h3,h4⟩:=h
  obtain ⟨c,hc,hf,_⟩:=nf_at n 0 (hne k E ld h1 h2)
  refine Decidable.byContradiction fun h0=>?_
  have h5:=(h4 (fun d=>if d=c then 1 else 0)).1 (fun i hi=>absurd hi (by omega)) c hc hf
  have e:dot n (ci (sol p E k ld c)) (fun d=>if d=c then 1 else 0)=((1:Nat):Int):=by
    unfold dot
    rw [sI_one hc]
    · unfold ci sol;simp
    · intro j _ hne2;simp [hne2]
  rw [e] at h5;have:=Nat.eq_zero_of_dvd_of_lt (Int.natCast_dvd_natCast.1 h5) (by omega)
  omega
end Go.Ech
namespace Go.Ech
open Go.Sw
def RedOf (p n:Nat) (M:Nat→Nat→Nat) (m r:Nat) (V:Nat→Nat→Nat):Prop:=∃ ld,Rref p n V r ld∧∀ x,Ker p n V r x↔Ker p n M m x
theorem RedOf.unique {p n m r r':Nat}{M V V':Nat→Nat→Nat}(hp:2≤p)(h:RedOf p n M m r V)(h':RedOf p n M m r' V'):r=r'∧∀ i,i<r→∀ c,c<n→V i c=V' i c:=by
  obtain ⟨ld,h1,h2⟩:=h;obtain ⟨ld',h1',h2'⟩:=h';obtain ⟨e,_,eV⟩:=rref_unique hp h1 h1' (fun x=>(h2 x).trans (h2' x).symm);exact ⟨e,eV⟩
theorem redOf_exists {p n m:Nat}{M:Nat→Nat→Nat}(hp:primeN p)(hM:∀ i c,M i c<p):∃ r V,RedOf p n M m r V:=by
  obtain ⟨k,E,ld,h,_,hk⟩:=rref_exists (N:=n) (m:=m) hp hM;exact ⟨k,E,ld,h,hk⟩
theorem ker_eqv {p n m:Nat}{M M':Nat→Nat→Nat}{x:Nat→Int}(e:∀ i,i<m→∀ c,c<n→M i c=M' i c):Ker p n M m x↔Ker p n M' m x:=
  ⟨fun q i hi=>by rw [← dot_same (e i hi)];exact q i hi,fun q i hi=>by rw [dot_same (e i hi)];exact q i hi⟩
theorem RedOf.same {p n m r:Nat}{M M' V:Nat→Nat→Nat}(e:∀ i,i<m→∀ c,c<n→M i c=M' i c)(h:RedOf p n M m r V):RedOf p n M' m r V:=by
  obtain ⟨ld,h1,h2⟩:=h;exact ⟨ld,h1,fun x=>(h2 x).trans (ker_eqv e)⟩
theorem rref_le {p N k:Nat}{E:Nat→Nat→Nat}{ld:Nat→Nat}(h:Rref p N E k ld):k≤N:=by
  have key:∀ i,i<k→i≤ld i:=by
    intro i
    induction i with
    | zero=>intro _;omega
    | succ i ih=>intro hi;have:=ih (by omega);have:=h.mono i (i+1) (by omega) hi;omega
  by_cases e:k=0
  · omega
  · have:=key (k - 1) (by omega);have:=h.lt (k - 1) (by omega);omega
theorem RedOf.le {p n m r:Nat}{M V:Nat→Nat→Nat}(h:RedOf p n M m r V):r≤n:=by
  obtain ⟨ld,h1,_⟩:=h;exact rref_le h1
def IsRk (p n:Nat) (M:Nat→Nat→Nat) (m R:Nat):Prop:=∀ r V,RedOf p n M m r V→r=R
theorem isRk_exists {p n m:Nat}{M:Nat→Nat→Nat}(hp:primeN p)(hM:∀ i c,M i c<p):∃ R,IsRk p n M m R:=by
  obtain ⟨r,V,h⟩:=redOf_exists (n:=n) (m:=m) hp hM;exact ⟨r,fun r' V' h'=>(h'.unique hp.two h).1⟩
theorem isRk_le {p n m R:Nat}{M:Nat→Nat→Nat}(hp:primeN p)(hM:∀ i c,M i c<p)(h:IsRk p n M m R):R≤n:=by
  obtain ⟨r,V,h1⟩:=redOf_exists (n:=n) (m:=m) hp hM;have:=h _ _ h1;have:=h1.le;omega
theorem isRk_all {p n m:Nat}{M:Nat→Nat→Nat→Nat}(hp:primeN p)(hM:∀ k i c,M k i c<p):∃ R:Nat→Nat,∀ k,IsRk p n (M k) m (R k):=
  Classical.skolem.1 fun k=>isRk_exists hp (hM k)
end Go.Ech
namespace Go.Sw
open Go Go.RowKit
def factsA (l:List Fact) (s:Nat):Facts (Own×Value):=fun i g u w=>match Nat.beq i s with
  | true=>u=g.2
  | false=>factsOf l i g.1 u w
def ParA (X:List Nat) (w0:World) (D:Froz) (W:List Nat) (L0:Own) (kr N:Nat) (e0:Option (Nat×Array Value)) (f:Nat→Value) (b:Bool) (g:Own×Value) (w:World):Prop:=
  Par X w0 D (kr::W) L0 g.1 w∧(b=false→g.1[kr]? = some e0)∧(b=true→∃ e',g.1[kr]? = some e'∧Sl 1 g.2 e' N f)
section
variable {P : Program} {X : List Nat} {w0 w : World} {D : Froz} {W : List Nat} {L0 : Own} {kr N s i : Nat} {e0 : Option (Nat × Array Value)} {f : Nat → Value} {b : Bool} {g : Own × Value} {l : List Fact} {o : Oper} {a : Act}
def noPlace (k:Nat):List Fact→Bool
  | []=>true
  | fq::r=>(match fq.place with | some q=>!(Nat.beq q k) | none=>true) && noPlace k r
def noRel:List Fact→Bool
  | []=>true
  | .rel _::_=>false
  | .val _::r=>noRel r
  | .own _ _ _::r=>noRel r
end
end Go.Sw
