import Derived.Test.YtgioobkkkicfeaaEch28
set_option linter.unusedVariables false
set_option linter.unusedSimpArgs false
namespace Go.Sw
open Go Go.RowKit
def TD (m:Nat) (g:Nat->Nat):ByteArray:=((List.range m).map fun i=>(g i:Int)).foldl (fun r n=>r.push (UInt8.ofNat n.toNat)) ByteArray.empty
def EJ (m:Nat) (f:Nat->Nat):Array Value:=BH m (fun c=>.int .u8 (f c:Int))
theorem FM {m:Nat}{f:Nat->Nat}:(EJ m f).size=m:=BZ _ _
theorem JS {m:Nat}{f g:Nat->Nat}(h:∀ c,c<m->f c=g c):EJ m f=EJ m g:=BL fun c hc=>by rw [h c hc]
theorem J3 {m q k:Nat}{f g:Nat->Nat}{x:Int}(h:q=k)(hx:x=(g k:Int))(hg:∀ c,c<m->c≠k->g c=f c):(EJ m f).setIfInBounds q (.int .u8 x)=EJ m g:=by
  subst h;subst hx;refine Ce fun c hc=>?_
  by_cases e:c=q
  . rw [if_pos e,e]
  . rw [if_neg e,hg c hc e]
def TU (k:Nat):Nat:=if k<10 then 48+k else 97+k - 10
def St:ByteArray:=⟨#[48,49,50,51,52,53,54,55,56,57,97,98,99]⟩
section
variable {P : Program} {n : Nat} {F : List (Nat × Value)} {a : Act} {w : World} {d : Option Tmp} {t T T' : TypeId} {pos : String} {af : Array Edge} {gd : Option (Nat × Bool)} {x y z : Operand}
end
end Go.Sw
namespace Go.Ech
open Go.Sw
end Go.Ech
namespace Go.Ech
open Go.Sw
variable {p n : Nat} {T : Nat -> Nat -> Nat -> Nat} {f : Nat -> Nat}
end Go.Ech
namespace Go.Ech
open Go.Sw
variable {p n m : Nat}
section
variable {T U W : Nat -> Nat -> Nat -> Nat}
def TK (p n:Nat) (F:Nat->Nat->Nat):Prop:=∀ x:Nat->Int,(∀ i,i<n->(p:Int)∣sI (fun k=>(F i k:Int)*x k) n)->∀ c,c<n->(p:Int)∣x c
end
end Go.Ech
namespace Go.Ech
open Go.Sw
variable {p n m : Nat} {T U S : Nat -> Nat -> Nat -> Nat}
structure SumT (n m:Nat) (T U S:Nat->Nat->Nat->Nat):Prop where
  one:∀ i j k,i<n->j<n->k<n->S i j k=T i j k
  two:∀ i j k,i<m->j<m->k<m->S (n+i) (n+j) (n+k)=U i j k
  zero:∀ i j k,i<n+m->j<n+m->k<n+m->¬ (i<n/\j<n/\k<n)->¬ (n<=i/\n<=j/\n<=k)->S i j k=0
end Go.Ech
namespace Go.Ech
open Go.Sw
end Go.Ech
namespace Go.Ech
open Go.Sw
theorem RE {p n k c i:Nat}{E:Nat->Nat->Nat}{ld:Nat->Nat}(hp:2<=p)(h:Rref p n E k ld)(hc:c<n)(hf:¬ Bx k ld c)(hi:i<k):(p:Int)∣dot n (ci (sol p E k ld c)) (ci (E i)):=by
  have hne:ld i≠c:=fun e=>hf ⟨i,hi,e⟩;have hsm:=h.small i hi c hc;have e:dot n (ci (sol p E k ld c)) (ci (E i))=sI (fun d=>(if d=c then (E i c:Int) else 0)+(if d=ld i then (((p - E i c)%p:Nat):Int) else 0)) n:=by
    unfold dot
    refine Ar fun d hd=>?_
    by_cases e1:d=c
    . subst e1
      rw [if_pos rfl,if_neg (fun e=>hne e.symm)]
      unfold ci sol;simp
    . rw [if_neg e1]
      cases h2:Cw k ld d with
      | none =>
        have:ci (sol p E k ld c) d=0:=by unfold ci sol;rw [if_neg e1,h2];rfl
        rw [this,if_neg (fun e=>Ec h2 i hi e.symm)];simp
      | some j =>
        obtain ⟨hj,hJ⟩:=CG h2;have:ci (sol p E k ld c) d=(((p - E j c)%p:Nat):Int):=by unfold ci sol;rw [if_neg e1,h2]
        rw [this]
        by_cases e2:j=i
        . subst e2
          rw [if_pos hJ.symm];unfold ci;rw [← hJ,h.one j hj];simp
        . have h0:=h.zero j i hj hi e2
          rw [if_neg (fun e=>by
            rcases Nat.lt_or_ge j i with q | q
            . have:=h.mono j i q hi;omega
            . have:=h.mono i j (by omega) hj;omega)]
          unfold ci;rw [← hJ,h0];simp
  rw [e,Dr,Bl hc,Bl (h.lt i hi)]
  . rw [if_pos rfl,if_pos rfl,Int.natCast_emod,Int.natCast_sub (Nat.le_of_lt hsm)]
    have h1:=CD (p:Int) ((p:Int) - (E i c:Int));have h2:=Int.dvd_add h1 (⟨1,by omega⟩:(p:Int)∣(p:Int))
    rwa [show ∀ A B C:Int,A - (B - C)+B=C+A from fun A B C=>by omega] at h2
  . intro j _ hj;simp [hj]
  . intro j _ hj;simp [hj]
theorem Ng {n:Nat}{x y:Nat->Int}:dot n x y=dot n y x:=Ar fun c _=>Int.mul_comm _ _
theorem P0 {p n m r j:Nat}{M V:Nat->Nat->Nat}(hp:2<=p)(h:IsKer p n M m r V)(hj:j<r):Ker p n M m (ci (V j)):=by
  obtain ⟨k,E,ld,ld2,h1,h2,h3,h4⟩:=h;refine (h2 _).1 fun i hi=>?_;rw [Ng];exact (h4 (ci (E i))).2 (fun c hc hf=>RE hp h1 hc hf hi) j hj
end Go.Ech
namespace Go.Ech
open Go.Sw
def RedOf (p n:Nat) (M:Nat->Nat->Nat) (m r:Nat) (V:Nat->Nat->Nat):Prop:=∃ ld,Rref p n V r ld/\∀ x,Ker p n V r x↔Ker p n M m x
theorem RedOf.unique {p n m r r':Nat}{M V V':Nat->Nat->Nat}(hp:2<=p)(h:RedOf p n M m r V)(h':RedOf p n M m r' V'):r=r'/\∀ i,i<r->∀ c,c<n->V i c=V' i c:=by
  obtain ⟨ld,h1,h2⟩:=h;obtain ⟨ld',h1',h2'⟩:=h';obtain ⟨e,_,eV⟩:=Dn hp h1 h1' (fun x=>(h2 x).trans (h2' x).symm);exact ⟨e,eV⟩
theorem Pf {p N k:Nat}{E:Nat->Nat->Nat}{ld:Nat->Nat}(h:Rref p N E k ld):k<=N:=by
  have key:∀ i,i<k->i<=ld i:=by
    intro i
    induction i with
    | zero=>intro _;omega
    | succ i ih=>intro hi;have:=ih (by omega);have:=h.mono i (i+1) (by omega) hi;omega
  by_cases e:k=0
  . omega
  . have:=key (k - 1) (by omega);have:=h.lt (k - 1) (by omega);omega
theorem RedOf.le {p n m r:Nat}{M V:Nat->Nat->Nat}(h:RedOf p n M m r V):r<=n:=by
  obtain ⟨ld,h1,_⟩:=h;exact Pf h1
theorem RedOf.pos {p n m r i c:Nat}{M V:Nat->Nat->Nat}(h:RedOf p n M m r V)(hi:i<m)(hc:c<n)(O:M i c<p)(h0:M i c≠0):0<r:=by
  obtain ⟨ld,h1,h2⟩:=h;refine Nat.pos_of_ne_zero fun e=>?_;subst e;have h3:=(h2 (fun d=>if d=c then 1 else 0)).1 (fun j hj=>absurd hj (by omega)) i hi
  unfold dot at h3
  rw [Bl (a:=c) hc (fun d _ hd=>by simp [hd])] at h3;simp only [if_true,Int.mul_one] at h3;have h4:(p:Int)∣(M i c:Int):=h3;have h5:p∣M i c:=by exact_mod_cast h4
  have:=Nat.le_of_dvd (by omega) h5
  omega
def S9 (p n:Nat) (M:Nat->Nat->Nat) (m R:Nat):Prop:=∀ r V,RedOf p n M m r V->r=R
end Go.Ech
namespace Go.Ech
open Go.Sw
section
variable {p n : Nat} {T : Nat -> Nat -> Nat -> Nat} {u : Nat -> Int}
variable (ha : FV p n T) (hk : Iv n T) (hu : ∀ y, EqP p n (Pr n T y u) y)
def SD (p n:Nat) (T:Nat->Nat->Nat->Nat) (u:Nat->Int) (K:Nat):Prop:=(∀ x y,EqP p n (vP n T u (fun c=>x c+y c) K) (fun c=>vP n T u x K c+vP n T u y K c))/\∀ (a:Nat),a<p->∀ x,EqP p n (vP n T u (fun c=>(a:Int)*x c) K) (fun c=>(a:Int)*vP n T u x K c)
def Sb (n:Nat) (T:Nat->Nat->Nat->Nat) (u:Nat->Int) (z:Nat->Nat->Int):List Nat->Nat->Int
  | []=>u
  | j::w=>Pr n T (Sb n T u z w) (z j)
def RX (a:Nat):List Nat->Nat
  | []=>0
  | j::w=>if j=a then RX a w+1 else RX a w
def RT (a:Nat):List Nat->List Nat
  | []=>[]
  | j::w=>if j=a then RT a w else j::RT a w
variable {z : Nat -> Nat -> Int}
def MH (n:Nat) (T:Nat->Nat->Nat->Nat) (z x:Nat->Int) (c:Nat):Int:=dot n (fun d=>sI (fun b=>z b*(T c b d:Int)) n) x
theorem Mo (v z x:Nat->Int):dot n (Pr n T v z) x=dot n v (MH n T z x):=by
  unfold dot MH dot
  have e:∀ d,Pr n T v z d*x d=sI (fun a=>v a*(sI (fun b=>z b*(T a b d:Int)) n*x d)) n:=fun d=>by
    rw [Hu,EM];exact Ar fun a _=>Int.mul_assoc _ _ _
  rw [Ar fun d _=>e d,C4];exact Ar fun a _=>Cb (v a) _ n
def Rb (n:Nat) (T:Nat->Nat->Nat->Nat) (z:Nat->Nat->Int):List Nat->(Nat->Int)->Nat->Int
  | [],x=>x
  | j::w,x=>Rb n T z w (MH n T (z j) x)
def Rr (n:Nat) (T:Nat->Nat->Nat->Nat) (z:Nat->Nat->Int):List Nat->(Nat->Int)->Nat->Int
  | [],v=>v
  | j::w,v=>Pr n T (Rr n T z w v) (z j)
structure PowS (p n:Nat) (T:Nat->Nat->Nat->Nat) (R:Nat->Nat) (U Z:Nat->Nat->Nat->Nat) (PM:Nat->Nat->Nat->Nat):Prop where
  agree:∀ k i,i<R k->∀ c,c<n->U k i c=Z k i c
  prod:∀ k q,∀ c,c<n->(p:Int)∣(PM k q c:Int) - Pr n T (ci (U k (q / R 0))) (ci (U 0 (q%R 0))) c
  red:∀ k,RedOf p n (PM k) (R k*R 0) (R (k+1)) (Z (k+1))
theorem PowS.ker {R:Nat->Nat}{U Z PM:Nat->Nat->Nat->Nat}(h:PowS p n T R U Z PM):∀ k x,(∀ w:List Nat,(∀ j,j∈w->j<R 0)->w.length=k->Ker p n (Z 0) (R 0) (Rb n T (fun j=>ci (U 0 j)) w x))->Ker p n (Z k) (R k) x
  | 0,x,hw=>hw [] (fun j hj=>by simp at hj) rfl
  | k + 1, x, hw => by
    obtain ⟨ld,_,h2⟩:=h.red k
    refine (h2 x).2 fun q hq=>?_
    have hR0:0<R 0:=Nat.pos_of_ne_zero fun e=>by rw [e,Nat.mul_zero] at hq;omega
    have hi:q / R 0<R k:=Nat.div_lt_of_lt_mul (by rw [Nat.mul_comm];exact hq)
    have hj:q%R 0<R 0:=Nat.mod_lt _ hR0
    have h3:=PowS.ker h k (MH n T (ci (U 0 (q%R 0))) x) (fun w hwl hwn=>hw (q%R 0::w) (fun j hO=>by
      rcases List.mem_cons.1 hO with e | hO
      . rw [e];exact hj
      . exact hwl j hO) (by simp [hwn])) (q / R 0) hi
    have e1:dot n (ci (Z k (q / R 0))) (MH n T (ci (U 0 (q%R 0))) x)=dot n (ci (U k (q / R 0))) (MH n T (ci (U 0 (q%R 0))) x):=FL fun c hc=>(h.agree k _ hi c hc).symm
    rw [e1,← Mo] at h3
    exact (C1 (JR fun c hc=>h.prod k q c hc)).2 h3
end
end Go.Ech
namespace Go.Ech
open Go.Sw
theorem Gm {f:Nat->Int}{a:Nat}:∀ {b:Nat},a<=b->sI (fun i=>if i<a then f i else 0) b=sI f a
  | 0, h => by obtain rfl : a = 0 := by omega
               rfl
  | b + 1, h => by
    by_cases e:a=b+1
    . subst e;exact Ar fun i hi=>by rw [if_pos hi]
    . show sI (fun i=>if i<a then f i else 0) b+(if b<a then f b else 0)=_
      rw [Gm (show a<=b by omega),if_neg (by omega),Int.add_zero]
def Ind (p n:Nat) (P:Nat->Nat->Nat) (d:Nat):Prop:=∀ x:Nat->Int,(∀ c,c<n->(p:Int)∣sI (fun i=>x i*(P i c:Int)) d)->∀ i,i<d->(p:Int)∣x i
theorem Ind.mono {p n d a:Nat}{P:Nat->Nat->Nat}(h:Ind p n P d)(ha:a<=d):Ind p n P a:=by
  intro x hx i hi;have:=h (fun i=>if i<a then x i else 0) (fun c hc=>by
    rw [Ar (g:=fun i=>if i<a then x i*(P i c:Int) else 0) (fun i _=>by split<;>simp),Gm ha];exact hx c hc) i (by omega)
  simpa only [if_pos hi] using this
structure MinP (p n:Nat) (P:Nat->Nat->Nat) (d:Nat) (B:Nat->Nat):Prop where
  pos:0<d
  ind:Ind p n P d
  small:∀ i,B i<p
  one:B d=1
  rel:∀ c,c<n->(p:Int)∣sI (fun i=>(B i:Int)*(P i c:Int)) (d+1)
structure RowC (p n:Nat) (P:Nat->Nat->Nat) (d:Nat) (r:Nat->Nat):Prop where
  small:∀ c,r c<p
  out:∀ c,n<=c->c<6->r c=0
  one:r (6+d)=1
  high:∀ i,d<i->r (6+i)=0
  rel:∀ c,c<n->(p:Int)∣(r c:Int) - sI (fun i=>(r (6+i):Int)*(P i c:Int)) (d+1)
structure KeptC (p n:Nat) (P:Nat->Nat->Nat) (m:Nat) (K:Nat->Nat->Nat) (ld:Nat->Nat):Prop where
  row:∀ j,j<m->RowC p n P j (K j)
  lt:∀ j,j<m->ld j<n
  ne:∀ j,j<m->K j (ld j)≠0
  zero:∀ j,j<m->∀ i,i<j->K j (ld i)=0
def Ro (P:Nat->Nat->Nat) (d c:Nat):Nat:=if c<6 then P d c else if c=6+d then 1 else 0
end Go.Ech
namespace Go.Ech
open Go.Sw
section
variable {p n : Nat}
def DS (p n:Nat) (M:Nat->Nat->Nat) (m:Nat) (y:Nat->Int):Prop:=∀ x,Ker p n M m x->(p:Int)∣dot n y x
theorem DS.row {M:Nat->Nat->Nat}{m i:Nat}(hi:i<m):DS p n M m (ci (M i)):=fun x hx=>hx i hi
theorem DS.ker {M V:Nat->Nat->Nat}{m r:Nat}(h:∀ x,Ker p n V r x->Ker p n M m x){y:Nat->Int}(hy:DS p n M m y):DS p n V r y:=fun x hx=>hy x (h x hx)
theorem DS.red {M V:Nat->Nat->Nat}{m r:Nat}(h:RedOf p n M m r V){y:Nat->Int}:DS p n M m y↔DS p n V r y:=by
  obtain ⟨ld,_,h2⟩:=h;exact ⟨DS.ker fun x hx=>(h2 x).1 hx,DS.ker fun x hx=>(h2 x).2 hx⟩
theorem Mm (P:Nat->Nat->Int)(a x:Nat->Int):∀ d,dot n (fun c=>sI (fun i=>a i*P i c) d) x=sI (fun i=>a i*dot n (P i) x) d:=fun d=>by
  unfold dot
  have e:∀ c,sI (fun i=>a i*P i c) d*x c=sI (fun i=>a i*(P i c*x c)) d:=fun c=>by
    rw [EM];exact Ar fun i _=>Int.mul_assoc _ _ _
  rw [Ar fun c _=>e c,C4]
  exact Ar fun i _=>Cb (a i) _ n
theorem DS.sum {M:Nat->Nat->Nat}{m d:Nat}{P:Nat->Nat->Int}(a:Nat->Int)(h:∀ i,i<d->DS p n M m (P i)):DS p n M m (fun c=>sI (fun i=>a i*P i c) d):=fun x hx=>by
  rw [Mm]
  exact Cu fun i hi=>Int.dvd_mul_of_dvd_right (h i hi x hx)
theorem DS.add {M:Nat->Nat->Nat}{m:Nat}{y z:Nat->Int}(hy:DS p n M m y)(hz:DS p n M m z):DS p n M m (fun c=>y c+z c):=fun x hx=>by
  have e:dot n (fun c=>y c+z c) x=dot n y x+dot n z x:=by
    unfold dot;rw [← Dr];exact Ar fun c _=>Int.add_mul _ _ _
  rw [e];exact Int.dvd_add (hy x hx) (hz x hx)
theorem O8 {y:Nat->Int}{c:Nat}(hc:c<n):dot n y (eb c)=y c:=by
  unfold dot eb
  rw [Bl hc fun i _ hi=>by rw [if_neg hi,Int.mul_zero],if_pos rfl,Int.mul_one]
theorem DS.map {M M':Nat->Nat->Nat}{m m':Nat}{f g:(Nat->Int)->Nat->Int}{y:Nat->Int}(hH:∀ y x,dot n (f y) x=dot n y (g x))(O:∀ i,i<m->DS p n M' m' (f (ci (M i))))(h:DS p n M m y):DS p n M' m' (f y):=fun x hx=>by
  rw [hH]
  refine h _ fun i hi=>?_
  rw [← hH]
  exact O i hi x hx
theorem DS.zero {M:Nat->Nat->Nat}{m:Nat}{f g:(Nat->Int)->Nat->Int}{y:Nat->Int}(hH:∀ y x,dot n (f y) x=dot n y (g x))(O:∀ i,i<m->EqP p n (f (ci (M i))) (fun _=>0))(h:DS p n M m y):EqP p n (f y) (fun _=>0):=fun c hc=>by
  have h1:=h (g (eb c)) (fun i hi=>by
    rw [← hH,O8 hc]
    have:=O i hi c hc
    rwa [Int.sub_zero] at this)
  rw [← hH,O8 hc] at h1
  rwa [Int.sub_zero]
theorem free_at {V:Nat->Nat->Nat}{r:Nat}{ld:Nat->Nat}(h:Rref p n V r ld){d:Nat}(hn:¬ Bx r ld d)(c:Nat):free V r ld d c=(if c=d then 1 else 0)+sI (fun i=>if c=ld i then -(V i d:Int) else 0) r:=by
  unfold free
  by_cases e:c=d
  . subst e
    rw [if_pos rfl,if_pos rfl,Cn (fun i hi=>if_neg fun z=>hn ⟨i,hi,z.symm⟩)];rfl
  . rw [if_neg e,if_neg e]
    cases e2:Cw r ld c with
    | none =>
      rw [Cn (fun i hi=>if_neg fun z=>Ec e2 i hi z.symm)];rfl
    | some j =>
      obtain ⟨hj,rfl⟩:=CG e2;rw [Bl hj (fun i hi hU=>if_neg fun z=>hU (h.inj hi hj z.symm)),if_pos rfl]
      show -(V j d:Int)=0 + -(V j d:Int)
      omega
theorem DS.sp {V:Nat->Nat->Nat}{r:Nat}{ld:Nat->Nat}(h:Rref p n V r ld){y:Nat->Int}(hy:DS p n V r y):EqP p n y (fun c=>sI (fun i=>y (ld i)*(V i c:Int)) r):=fun c hc=>by
  by_cases e:Bx r ld c
  . obtain ⟨j,hj,rfl⟩:=e
    show (p:Int)∣y (ld j) - sI (fun i=>y (ld i)*(V i (ld j):Int)) r
    rw [Bl hj (fun i hi hU=>by rw [h.zero j i hj hi (Ne.symm hU)];simp),h.one j hj]
    exact ⟨0,by simp⟩
  . have h1:=hy _ (h.free_ker hc e)
    have e2:dot n y (free V r ld c)=y c - sI (fun i=>y (ld i)*(V i c:Int)) r:=by
      unfold dot
      rw [Ar (g:=fun d=>y d*(if d=c then 1 else 0)+sI (fun i=>y d*(if d=ld i then -(V i c:Int) else 0)) r) (fun d _=>by rw [free_at h e d,Int.mul_add,Cb]),Dr,
        Bl hc (fun d _ hd=>by rw [if_neg hd,Int.mul_zero]),if_pos rfl,Int.mul_one,C4]
      have e3:sI (fun i=>sI (fun d=>y d*(if d=ld i then -(V i c:Int) else 0)) n) r=sI (fun i=>-(y (ld i)*(V i c:Int))) r:=Ar fun i hi=>by
        rw [Bl (h.lt i hi) (fun d _ hd=>by rw [if_neg hd,Int.mul_zero]),if_pos rfl,Int.mul_neg]
      rw [e3];have e4:sI (fun i=>-(y (ld i)*(V i c:Int))) r = -sI (fun i=>y (ld i)*(V i c:Int)) r:=by
        have:=Cb (-1) (fun i=>y (ld i)*(V i c:Int)) r;rw [Int.neg_one_mul] at this;rw [← this];exact Ar fun i _=>(Int.neg_one_mul _).symm
      rw [e4];omega
    rwa [e2] at h1
def Rf (p n:Nat) (P:Nat->Nat->Int) (d:Nat):Prop:=∀ a:Nat->Int,EqP p n (fun c=>sI (fun i=>a i*P i c) d) (fun _=>0)->∀ i,i<d->(p:Int)∣a i
theorem Ov {V:Nat->Nat->Nat}{r:Nat}{ld:Nat->Nat}(h:Rref p n V r ld):Rf p n (fun i=>ci (V i)) r:=fun a ha i hi=>by
  have h1:=ha (ld i) (h.lt i hi)
  dsimp only at h1
  rw [Int.sub_zero,Bl hi (fun j hj hji=>by unfold ci;rw [h.zero i j hi hj (Ne.symm hji)];simp)] at h1
  unfold ci at h1
  rwa [h.one i hi,show ((1:Nat):Int)=1 from rfl,Int.mul_one] at h1
theorem Mp {N m:Nat}(hp:primeN p)(C:Nat->Nat->Int)(hm:m<N):∃ x:Nat->Int,(∃ c,c<N/\¬ (p:Int)∣x c)/\∀ j,j<m->(p:Int)∣sI (fun i=>x i*C j i) N:=by
  have hp2:=hp.two;obtain ⟨x,h1,h2⟩:=Su (p:=p) (N:=N) (m:=m) (M:=fun j i=>(C j i%(p:Int)).toNat) hp (fun j i=>by
    have h1:=Int.emod_nonneg (C j i) (show (p:Int)≠0 by omega);have h2:=Int.emod_lt_of_pos (C j i) (show (0:Int)<p by omega)
    omega) hm
  refine ⟨x,h1,fun j hj=>?_⟩;have h3:=h2 j hj
  unfold dot ci at h3
  have h4:(p:Int)∣sI (fun i=>x i*C j i) N - sI (fun i=>x i*(((C j i%(p:Int)).toNat:Nat):Int)) N:=Lc fun i _=>by
    rw [Int.toNat_of_nonneg (Int.emod_nonneg _ (by omega))];have:=Int.dvd_neg.2 (CD (p:Int) (C j i))
    rwa [Int.neg_sub] at this
  rw [Ar (g:=fun i=>x i*(((C j i%(p:Int)).toNat:Nat):Int)) (fun i _=>Int.mul_comm _ _)] at h3;exact (C1 h4).2 h3
theorem Qu {V:Nat->Nat->Nat}{r d:Nat}{ld:Nat->Nat}{P:Nat->Nat->Int}(hp:primeN p)(h:Rref p n V r ld)(hP:Rf p n P d)(hD:∀ i,i<d->DS p n V r (P i)):d<=r:=by
  refine Nat.le_of_not_lt fun hlt=>?_;obtain ⟨x,⟨i,hi,hx⟩,h2⟩:=Mp hp (fun j i=>P i (ld j)) hlt;refine hx (hP x ?_ i hi);refine EqP.trans (DS.sp h (DS.sum x hD)) fun c hc=>?_;rw [Int.sub_zero];exact Cu fun j hj=>Int.dvd_mul_of_dvd_left (h2 j hj)
end
end Go.Ech
namespace Go.Ech
open Go.Sw
section
variable {p n : Nat} {T : Nat -> Nat -> Nat -> Nat}
variable (ha : FV p n T) (hk : Iv n T)
def PrM (p n:Nat) (T:Nat->Nat->Nat->Nat) (e:Nat->Int) (V:Nat->Nat->Nat) (r:Nat) (M:Nat->Nat->Nat):Prop:=∀ i,i<r->EqP p n (ci (M i)) (Pr n T e (ci (V i)))
def Idl (p n:Nat) (T:Nat->Nat->Nat->Nat) (V:Nat->Nat->Nat) (r:Nat):Prop:=∀ i,i<r->∀ z,DS p n V r (Pr n T (ci (V i)) z)
theorem Idl.mul {V:Nat->Nat->Nat}{r:Nat}(h:Idl p n T V r)(z:Nat->Int){y:Nat->Int}(hy:DS p n V r y):DS p n V r (Pr n T y z):=
  DS.map (f:=fun y=>Pr n T y z) (g:=MH n T z) (fun y x=>Mo y z x) (fun i hi=>h i hi z) hy
def SN (p a:Nat) (A B:Nat->Nat->Nat) (i c:Nat):Nat:=(if i<a then A i c else B (i - a) c)%p
include ha hk in
end
end Go.Ech
namespace Go.Ech
open Go.Sw
section
variable {p n : Nat} {T : Nat -> Nat -> Nat -> Nat}
variable (ha : FV p n T) (hk : Iv n T)
def Sf (E:Nat->Nat->Int) (k:Nat) (c:Nat):Int:=sI (fun i=>E i c) k
def RD (f:Nat->Nat):Nat->Nat
  | 0=>0
  | k+1=>RD f k+f k
include ha hk in
end
end Go.Ech
