import Derived.Test.YtccdgjmomcljkaaDoorSw56
import Derived.Test.YtccdgjmomcljkaaDoorEch5
import Derived.Test.YtccdgjmomcljkaaDoorSw9
import Derived.Test.YtccdgjmomcljkaaDoorSw14
set_option linter.unusedVariables false
set_option linter.unusedSimpArgs false
namespace Go.Ech
open Go.Sw
def powU (u:Nat→Nat) (W:Nat→Nat→Nat):Nat→Nat→Nat
  | 0=>u
  | k+1=>W k
end Go.Ech
namespace Go.Ech
open Go.Sw
def EqP (p n:Nat) (x y:Nat→Int):Prop:=∀ c,c<n→(p:Int)∣x c - y c
section
variable {p n : Nat} {T : Nat → Nat → Nat → Nat} {x y z x' y' : Nat → Int}
theorem EqP.refl (x:Nat→Int):EqP p n x x:=fun c _=>by rw [Int.sub_self];exact ⟨0,by simp⟩
theorem EqP.symm (h:EqP p n x y):EqP p n y x:=fun c hc=>by
  have:=Int.dvd_neg.2 (h c hc)
  rwa [Int.neg_sub] at this
theorem EqP.trans (h:EqP p n x y)(k:EqP p n y z):EqP p n x z:=fun c hc=>by
  have:=Int.dvd_add (h c hc) (k c hc)
  rwa [show x c - y c+(y c - z c)=x c - z c by omega] at this
theorem EqP.mul (h:EqP p n x x')(k:EqP p n y y'):EqP p n (Pr n T x y) (Pr n T x' y'):=fun c _=>Pr_congr h k c
theorem EqP.add (h:EqP p n x x')(k:EqP p n y y'):EqP p n (fun c=>x c+y c) (fun c=>x' c+y' c):=fun c hc=>by
  have:=Int.dvd_add (h c hc) (k c hc)
  rwa [show x c - x' c+(y c - y' c)=x c+y c - (x' c+y' c) by omega] at this
theorem EqP.smul (a:Int)(h:EqP p n x x'):EqP p n (fun c=>a*x c) (fun c=>a*x' c):=fun c hc=>by
  show (p:Int)∣a*x c - a*x' c
  rw [← Int.mul_sub];exact Int.dvd_mul_of_dvd_right (h c hc)
def ComI (n:Nat) (T:Nat→Nat→Nat→Nat):Prop:=∀ i,i<n→∀ j,j<n→∀ k,k<n→T i j k=T j i k
theorem Pr_comm (h:ComI n T)(x y:Nat→Int):EqP p n (Pr n T x y) (Pr n T y x):=fun c hc=>by
  have e:Pr n T x y c=Pr n T y x c:=by
    unfold Pr
    rw [sI_swap];exact sI_congr fun a ha=>sI_congr fun b hb=>by rw [h b hb a ha c hc];grind
  rw [e,Int.sub_self];exact ⟨0,by simp⟩
theorem Pr_add (x y z:Nat→Int)(c:Nat):Pr n T (fun c=>x c+y c) z c=Pr n T x z c+Pr n T y z c:=by
  unfold Pr
  rw [← sI_add];exact sI_congr fun a _=>by rw [← sI_add];exact sI_congr fun b _=>by grind
theorem Pr_smul (a:Int)(x z:Nat→Int)(c:Nat):Pr n T (fun c=>a*x c) z c=a*Pr n T x z c:=by
  unfold Pr
  rw [← sI_mul];exact sI_congr fun i _=>by rw [← sI_mul];exact sI_congr fun b _=>by grind
theorem Pr_addR (x y z:Nat→Int)(c:Nat):Pr n T z (fun c=>x c+y c) c=Pr n T z x c+Pr n T z y c:=by
  unfold Pr
  rw [← sI_add];exact sI_congr fun a _=>by rw [← sI_add];exact sI_congr fun b _=>by grind
theorem Pr_smulR (a:Int)(x z:Nat→Int)(c:Nat):Pr n T z (fun c=>a*x c) c=a*Pr n T z x c:=by
  unfold Pr
  rw [← sI_mul];exact sI_congr fun i _=>by rw [← sI_mul];exact sI_congr fun b _=>by grind
theorem Pr_zero (x:Nat→Int)(c:Nat):Pr n T (fun _=>0) x c=0:=by
  unfold Pr;exact sI_zero fun a _=>sI_zero fun b _=>by simp
theorem Pr_zeroR (x:Nat→Int)(c:Nat):Pr n T x (fun _=>0) c=0:=by
  unfold Pr;exact sI_zero fun a _=>sI_zero fun b _=>by simp
end
def eP (n:Nat) (T:Nat→Nat→Nat→Nat) (e v:Nat→Int):Nat→Nat→Int
  | 0=>e
  | k+1=>Pr n T (eP n T e v k) v
def evl (n:Nat) (T:Nat→Nat→Nat→Nat) (e v:Nat→Int):List Int→Nat→Nat→Int
  | [],_,_=>0
  | a::r,j,c=>a*eP n T e v j c+evl n T e v r (j+1) c
def addL:List Int→List Int→List Int
  | [],r=>r
  | q,[]=>q
  | a::q,b::r=>(a+b)::addL q r
def mulLL (q:List Int):List Int→List Int
  | []=>[]
  | b::r=>addL (q.map (b * ·)) (0::mulLL q r)
def congL (p:Int) (q r:List Int):Bool:=(addL q (r.map (-1 * ·))).all fun a=>decide (a%p=0)
section
variable {p n : Nat} {T : Nat → Nat → Nat → Nat} {e v : Nat → Int}
variable (ha : AssI p n T) (hk : ComI n T) (he : EqP p n (Pr n T e e) e)
include ha hk in
theorem Pr_right_comm (x y z:Nat→Int):EqP p n (Pr n T (Pr n T x y) z) (Pr n T (Pr n T x z) y):=by
  refine EqP.trans (fun c hc=>Pr_assoc ha x y z hc)<|EqP.trans (EqP.mul (EqP.refl x) (Pr_comm hk y z)) ?_;exact EqP.symm fun c hc=>Pr_assoc ha x z y hc
include ha hk he in
end
end Go.Ech
namespace Go.Ech
open Go.Sw
def linL (p:Int) (k a:Int) (q:List Int):List Int:=(addL (0::q.map (k * ·)) (q.map (-(k*a) * ·))).map (· % p)
def iL (p:Int) (c:Int):Nat→List Int
  | 0=>[1]
  | k+1=>linL p 1 c (iL p c k)
def invI (p:Nat) (x:Int):Nat:=((List.range p).find? (fun (k:Nat)=>decide ((x*(k:Int))%(p:Int)=1))).getD 0
def sL (p c:Nat):Nat→List Int
  | 0=>[1]
  | d+1=>if d=c then sL p c d else linL p (invI p ((c:Int) - (d:Int))) d (sL p c d)
def pcL (p c:Nat):List Int:=addL [1] ((iL p c (p - 1)).map (-1 * ·))
def redL (p:Nat) (q:List Int):List Int:=addL (q.take p) (0::q.drop p)
section
variable {p n : Nat} {T : Nat → Nat → Nat → Nat} {e v u : Nat → Int}
variable (ha : AssI p n T) (hk : ComI n T) (he : EqP p n (Pr n T e e) e)
def vP (n:Nat) (T:Nat→Nat→Nat→Nat) (u v:Nat→Int):Nat→Nat→Int
  | 0=>u
  | k+1=>Pr n T (vP n T u v k) v
include ha in
end
end Go.Ech
namespace Go.Ech
open Go.Sw
def bin:Nat→Nat→Nat
  | 0,0=>1
  | 0,_+1=>0
  | _+1,0=>1
  | k+1,i+1=>bin k i+bin k (i+1)
theorem bin_zero:∀ k,bin k 0=1
  | 0=>rfl
  | _+1=>rfl
theorem bin_out:∀ k i,k<i→bin k i=0
  | 0,0,h=>absurd h (by omega)
  | 0,_+1,_=>rfl
  | k+1,0,h=>absurd h (by omega)
  | k+1,i+1,h=>by rw [bin,bin_out k i (by omega),bin_out k (i+1) (by omega)]
theorem bin_full:∀ k,bin k k=1
  | 0=>rfl
  | k+1=>by rw [bin,bin_full k,bin_out k (k+1) (by omega)]
theorem bin_prime:∀ p∈([2,3,5,7,11,13]:List Nat),∀ i,i<p→0<i→bin p i%p=0:=by decide +kernel
theorem fermat:∀ p∈([2,3,5,7,11,13]:List Nat),∀ a,a<p→a ^ p%p=a:=by decide +kernel
theorem sI_head (f:Nat→Int):∀ m,sI f (m+1)=f 0+sI (fun i=>f (i+1)) m
  | 0=>by simp [sI]
  | m + 1 => by
    have:sI f (m+1+1)=sI f (m+1)+f (m+1):=rfl
    rw [this,sI_head f m]
    have h2:sI (fun i=>f (i+1)) (m+1)=sI (fun i=>f (i+1)) m+f (m+1):=rfl
    rw [h2];omega
theorem bin_sum (Z:Nat→Int)(k:Nat):sI (fun i=>(bin k i:Int)*Z (i+1)) (k+1)+sI (fun i=>(bin k i:Int)*Z i) (k+1)=sI (fun i=>(bin (k+1) i:Int)*Z i) (k+1+1):=by
  rw [sI_head (fun i=>(bin (k+1) i:Int)*Z i),sI_head (fun i=>(bin k i:Int)*Z i)];have e1:sI (fun i=>(bin (k+1) (i+1):Int)*Z (i+1)) (k+1)=sI (fun i=>(bin k i:Int)*Z (i+1)) (k+1)+sI (fun i=>(bin k (i+1):Int)*Z (i+1)) (k+1):=by
    rw [← sI_add];exact sI_congr fun i _=>by rw [bin,Int.natCast_add,Int.add_mul]
  have e2:sI (fun i=>(bin k (i+1):Int)*Z (i+1)) (k+1)=sI (fun i=>(bin k (i+1):Int)*Z (i+1)) k:=by
    show sI _ k+(bin k (k+1):Int)*Z (k+1)=_
    rw [bin_out k (k+1) (by omega)];simp
  rw [e1,e2,bin_zero,bin_zero];omega
section
variable {p n : Nat} {T : Nat → Nat → Nat → Nat} {u : Nat → Int}
theorem vP_congr {x y:Nat→Int}(h:EqP p n x y):∀ k,EqP p n (vP n T u x k) (vP n T u y k)
  | 0=>EqP.refl _
  | k+1=>EqP.mul (vP_congr h k) h
theorem vP_smul (a:Int)(x:Nat→Int):∀ k c,vP n T u (fun c=>a*x c) k c=a ^ k*vP n T u x k c
  | 0,c=>by simp [vP]
  | k + 1, c => by
    have e:vP n T u (fun c=>a*x c) k=fun c=>a ^ k*vP n T u x k c:=funext (vP_smul a x k)
    simp only [vP]
    rw [e,Pr_smul,Pr_smulR,Int.pow_succ,Int.mul_assoc]
theorem vP_zero:∀ k c,vP n T u (fun _=>0) (k+1) c=0:=fun k c=>by simp only [vP];exact Pr_zeroR _ c
theorem Pr_sum (N:Nat)(f:Nat→Nat→Int)(z:Nat→Int)(c:Nat):Pr n T (fun c=>sI (fun i=>f i c) N) z c=sI (fun i=>Pr n T (f i) z c) N:=by
  induction N with
  | zero=>exact Pr_zero z c
  | succ N ih =>
    show Pr n T (fun c=>sI (fun i=>f i c) N+f N c) z c=sI (fun i=>Pr n T (f i) z c) N+Pr n T (f N) z c
    rw [Pr_add,ih]
variable (ha : AssI p n T) (hk : ComI n T) (hu : ∀ y, EqP p n (Pr n T y u) y)
include ha hk hu in
theorem vP_binom (x y:Nat→Int):∀ k,EqP p n (vP n T u (fun c=>x c+y c) k) (fun c=>sI (fun i=>(bin k i:Int)*Pr n T (vP n T u x i) (vP n T u y (k - i)) c) (k+1))
  | 0 => fun c hc => by
    have h:=hu u c hc
    have:=Int.dvd_neg.2 h
    rw [Int.neg_sub] at this
    show (p:Int)∣u c - (0+((bin 0 0:Nat):Int)*Pr n T u u c)
    rw [bin_zero]
    simpa using this
  | k + 1 => by
    have ih:=vP_binom x y k
    refine EqP.trans (EqP.mul ih (EqP.refl _)) fun c hc=>?_
    have e1:Pr n T (fun c=>sI (fun i=>(bin k i:Int)*Pr n T (vP n T u x i) (vP n T u y (k - i)) c) (k+1)) (fun c=>x c+y c) c
        = sI (fun i=>(bin k i:Int)*Pr n T (Pr n T (vP n T u x i) (vP n T u y (k - i))) x c) (k+1)+sI (fun i=>(bin k i:Int)*Pr n T (Pr n T (vP n T u x i) (vP n T u y (k - i))) y c) (k+1):=by
      rw [Pr_addR,Pr_sum,Pr_sum]
      congr 1<;>exact sI_congr fun i _=>Pr_smul _ _ _ _
    rw [e1];have hb:=bin_sum (fun i=>Pr n T (vP n T u x i) (vP n T u y (k+1 - i)) c) k;rw [← hb];have d1:(p:Int)∣sI (fun i=>(bin k i:Int)*Pr n T (Pr n T (vP n T u x i) (vP n T u y (k - i))) x c) (k+1) - sI (fun i=>(bin k i:Int)*Pr n T (vP n T u x (i+1)) (vP n T u y (k+1 - (i+1))) c) (k+1):=by
      rw [sI_sub];refine sI_dvd fun i hi=>?_;rw [← Int.mul_sub,show k+1 - (i+1)=k - i by omega];exact Int.dvd_mul_of_dvd_right (Pr_right_comm ha hk (vP n T u x i) (vP n T u y (k - i)) x c hc)
    have d2:(p:Int)∣sI (fun i=>(bin k i:Int)*Pr n T (Pr n T (vP n T u x i) (vP n T u y (k - i))) y c) (k+1) - sI (fun i=>(bin k i:Int)*Pr n T (vP n T u x i) (vP n T u y (k+1 - i)) c) (k+1):=by
      rw [sI_sub];refine sI_dvd fun i hi=>?_;rw [← Int.mul_sub,show k+1 - i=(k - i)+1 by omega];exact Int.dvd_mul_of_dvd_right (Pr_assoc ha (vP n T u x i) (vP n T u y (k - i)) y hc)
    have:=Int.dvd_add d1 d2
    rwa [show ∀ A B C D:Int,A - B+(C - D)=A+C - (B+D) from fun A B C D=>by omega] at this
include ha hk hu in
theorem vP_frob (hp:primeN p)(x y:Nat→Int):EqP p n (vP n T u (fun c=>x c+y c) p) (fun c=>vP n T u x p c+vP n T u y p c):=by
  have hm:p∈([2,3,5,7,11,13]:List Nat):=by unfold primeN at hp;simp;omega
  have hp2:=hp.two;refine EqP.trans (vP_binom ha hk hu x y p) fun c hc=>?_;have hl:Pr n T (vP n T u x p) u c=Pr n T (vP n T u x p) (vP n T u y (p - p)) c:=by rw [Nat.sub_self];rfl
  have h1:=hu (vP n T u x p) c hc;have h2:=((Pr_comm (p:=p) hk u (vP n T u y p)).trans (hu _)) c hc;have e:(p:Int)∣sI (fun i=>(bin p i:Int)*Pr n T (vP n T u x i) (vP n T u y (p - i)) c) (p+1) - (Pr n T u (vP n T u y p) c+Pr n T (vP n T u x p) u c):=by
    have e0:sI (fun i=>(bin p i:Int)*Pr n T (vP n T u x i) (vP n T u y (p - i)) c) (p+1)=sI (fun i=>(bin p i:Int)*Pr n T (vP n T u x i) (vP n T u y (p - i)) c) p+(bin p p:Int)*Pr n T (vP n T u x p) (vP n T u y (p - p)) c:=rfl;rw [e0,← hl,bin_full];obtain ⟨q,rfl⟩:∃ q,p=q+1:=⟨p - 1,by omega⟩;rw [sI_head,bin_zero];have hs:((q+1:Nat):Int)∣sI (fun i=>(bin (q+1) (i+1):Int)*Pr n T (vP n T u x (i+1)) (vP n T u y (q+1 - (i+1))) c) q:=sI_dvd fun i hi=>by
      refine Int.dvd_mul_of_dvd_left (Int.natCast_dvd_natCast.2 (Nat.dvd_of_mod_eq_zero (bin_prime (q+1) hm (i+1) (by omega) (by omega))))
    have e3:((1:Nat):Int)*Pr n T (vP n T u x 0) (vP n T u y (q+1 - 0)) c=Pr n T u (vP n T u y (q+1)) c:=by rw [Nat.sub_zero];show ((1:Nat):Int)*Pr n T u (vP n T u y (q+1)) c=_;simp
    rw [e3,show ∀ A B C:Int,A+B+((1:Nat):Int)*C - (A+C)=B from fun A B C=>by omega];exact hs
  have:=Int.dvd_add e (Int.dvd_add h2 h1)
  rwa [show ∀ A B C D E:Int,A - (B+C)+(B - D+(C - E))=A - (E+D) from fun A B C D E=>by omega] at this
def eb (c:Nat):Nat→Int:=fun d=>if d=c then 1 else 0
def cutV (v:Nat→Nat) (m:Nat):Nat→Int:=fun d=>if d<m then (v d:Int) else 0
include ha hk hu in
end
end Go.Ech
namespace Go.Ech
open Go.Sw
theorem sol_E {p n k c i:Nat}{E:Nat→Nat→Nat}{ld:Nat→Nat}(hp:2≤p)(h:Rref p n E k ld)(hc:c<n)(hf:¬ isLd k ld c)(hi:i<k):(p:Int)∣dot n (ci (sol p E k ld c)) (ci (E i)):=by
  have hne:ld i≠c:=fun e=>hf ⟨i,hi,e⟩;have hsm:=h.small i hi c hc;have e:dot n (ci (sol p E k ld c)) (ci (E i))=sI (fun d=>(if d=c then (E i c:Int) else 0)+(if d=ld i then (((p - E i c)%p:Nat):Int) else 0)) n:=by
    unfold dot
    refine sI_congr fun d hd=>?_
    by_cases e1:d=c
    · subst e1
      rw [if_pos rfl,if_neg (fun e=>hne e.symm)]
      unfold ci sol;simp
    · rw [if_neg e1]
      cases h2:ldAt k ld d with
      | none =>
        have:ci (sol p E k ld c) d=0:=by unfold ci sol;rw [if_neg e1,h2];rfl
        rw [this,if_neg (fun e=>ldAt_none h2 i hi e.symm)];simp
      | some j =>
        obtain ⟨hj,hd2⟩:=ldAt_some h2;have:ci (sol p E k ld c) d=(((p - E j c)%p:Nat):Int):=by unfold ci sol;rw [if_neg e1,h2]
        rw [this]
        by_cases e2:j=i
        · subst e2
          rw [if_pos hd2.symm];unfold ci;rw [← hd2,h.one j hj];simp
        · have h0:=h.zero j i hj hi e2
          rw [if_neg (fun e=>by
            rcases Nat.lt_or_ge j i with q | q
            · have:=h.mono j i q hi;omega
            · have:=h.mono i j (by omega) hj;omega)]
          unfold ci;rw [← hd2,h0];simp
  rw [e,sI_add,sI_one hc,sI_one (h.lt i hi)]
  · rw [if_pos rfl,if_pos rfl,Int.natCast_emod,Int.natCast_sub (Nat.le_of_lt hsm)]
    have h1:=emod_dvd (p:Int) ((p:Int) - (E i c:Int));have h2:=Int.dvd_add h1 (⟨1,by omega⟩:(p:Int)∣(p:Int))
    rwa [show ∀ A B C:Int,A - (B - C)+B=C+A from fun A B C=>by omega] at h2
  · intro j _ hj;simp [hj]
  · intro j _ hj;simp [hj]
theorem dot_comm' {n:Nat}{x y:Nat→Int}:dot n x y=dot n y x:=sI_congr fun c _=>Int.mul_comm _ _
theorem ker_row {p n m r j:Nat}{M V:Nat→Nat→Nat}(hp:2≤p)(h:IsKer p n M m r V)(hj:j<r):Ker p n M m (ci (V j)):=by
  obtain ⟨k,E,ld,ld2,h1,h2,h3,h4⟩:=h;refine (h2 _).1 fun i hi=>?_;rw [dot_comm'];exact (h4 (ci (E i))).2 (fun c hc hf=>sol_E hp h1 hc hf hi) j hj
end Go.Ech
namespace Go.Ech
open Go.Sw
def RedOf (p n:Nat) (M:Nat→Nat→Nat) (m r:Nat) (V:Nat→Nat→Nat):Prop:=∃ ld,Rref p n V r ld∧∀ x,Ker p n V r x↔Ker p n M m x
theorem RedOf.unique {p n m r r':Nat}{M V V':Nat→Nat→Nat}(hp:2≤p)(h:RedOf p n M m r V)(h':RedOf p n M m r' V'):r=r'∧∀ i,i<r→∀ c,c<n→V i c=V' i c:=by
  obtain ⟨ld,h1,h2⟩:=h;obtain ⟨ld',h1',h2'⟩:=h';obtain ⟨e,_,eV⟩:=rref_unique hp h1 h1' (fun x=>(h2 x).trans (h2' x).symm);exact ⟨e,eV⟩
theorem redOf_exists {p n m:Nat}{M:Nat→Nat→Nat}(hp:primeN p)(hM:∀ i c,M i c<p):∃ r V,RedOf p n M m r V:=by
  obtain ⟨k,E,ld,h,_,hk⟩:=rref_exists (N:=n) (m:=m) hp hM;exact ⟨k,E,ld,h,hk⟩
theorem ker_eqv {p n m:Nat}{M M':Nat→Nat→Nat}{x:Nat→Int}(e:∀ i,i<m→∀ c,c<n→M i c=M' i c):Ker p n M m x↔Ker p n M' m x:=
  ⟨fun q i hi=>by rw [← dot_same (e i hi)];exact q i hi,fun q i hi=>by rw [dot_same (e i hi)];exact q i hi⟩
theorem RedOf.same {p n m r:Nat}{M M' V:Nat→Nat→Nat}(e:∀ i,i<m→∀ c,c<n→M i c=M' i c)(h:RedOf p n M m r V):RedOf p n M' m r V:=by
  obtain ⟨ld,h1,h2⟩:=h;exact ⟨ld,h1,fun x=>(h2 x).trans (ker_eqv e)⟩
theorem rref_le {p N k:Nat}{E:Nat→Nat→Nat}{ld:Nat→Nat}(h:Rref p N E k ld):k≤N:=by
  have key:∀ i,i<k→i≤ld i:=by
    intro i
    induction i with
    | zero=>intro _;omega
    | succ i ih=>intro hi;have:=ih (by omega);have:=h.mono i (i+1) (by omega) hi;omega
  by_cases e:k=0
  · omega
  · have:=key (k - 1) (by omega);have:=h.lt (k - 1) (by omega);omega
theorem RedOf.le {p n m r:Nat}{M V:Nat→Nat→Nat}(h:RedOf p n M m r V):r≤n:=by
  obtain ⟨ld,h1,_⟩:=h;exact rref_le h1
theorem RedOf.pos {p n m r i c:Nat}{M V:Nat→Nat→Nat}(h:RedOf p n M m r V)(hi:i<m)(hc:c<n)(hM:M i c<p)(h0:M i c≠0):0<r:=by
  obtain ⟨ld,h1,h2⟩:=h;refine Nat.pos_of_ne_zero fun e=>?_;subst e;have h3:=(h2 (fun d=>if d=c then 1 else 0)).1 (fun j hj=>absurd hj (by omega)) i hi
  unfold dot at h3
  rw [sI_one (a:=c) hc (fun d _ hd=>by simp [hd])] at h3;simp only [if_true,Int.mul_one] at h3;have h4:(p:Int)∣(M i c:Int):=h3;have h5:p∣M i c:=by exact_mod_cast h4
  have:=Nat.le_of_dvd (by omega) h5
  omega
def IsRk (p n:Nat) (M:Nat→Nat→Nat) (m R:Nat):Prop:=∀ r V,RedOf p n M m r V→r=R
end Go.Ech
namespace Go.Sw
open Go Go.RowKit
def factsA (l:List Fact) (s:Nat):Facts (Own×Value):=fun i g u w=>match Nat.beq i s with
  | true=>u=g.2
  | false=>factsOf l i g.1 u w
def ParA (X:List Nat) (w0:World) (D:Froz) (W:List Nat) (L0:Own) (kr N:Nat) (e0:Option (Nat×Array Value)) (f:Nat→Value) (b:Bool) (g:Own×Value) (w:World):Prop:=
  Par X w0 D (kr::W) L0 g.1 w∧(b=false→g.1[kr]? = some e0)∧(b=true→∃ e',g.1[kr]? = some e'∧Sl 1 g.2 e' N f)
section
variable {P : Program} {X : List Nat} {w0 w : World} {D : Froz} {W : List Nat} {L0 : Own} {kr N s i : Nat} {e0 : Option (Nat × Array Value)} {f : Nat → Value} {b : Bool} {g : Own × Value} {l : List Fact} {o : Oper} {a : Act}
theorem ParA.drew (h:ParA X w0 D W L0 kr N e0 f b g w):ParA X w0 D W L0 kr N e0 f b g w.drew:=⟨⟨h.1.1.ext (Below.drew (Below.refl _ _)),h.1.2⟩,h.2⟩
theorem ParA.mem (h:ParA X w0 D W L0 kr N e0 f b g w)(hW:holes (kr::W) L0=true):MemX X w0 w L0 D:=Par.mem h.1 hW
def noPlace (k:Nat):List Fact→Bool
  | []=>true
  | fq::r=>(match fq.place with | some q=>!(Nat.beq q k) | none=>true) && noPlace k r
def noRel:List Fact→Bool
  | []=>true
  | .rel _::_=>false
  | .val _::r=>noRel r
  | .own _ _ _::r=>noRel r
end
end Go.Sw
