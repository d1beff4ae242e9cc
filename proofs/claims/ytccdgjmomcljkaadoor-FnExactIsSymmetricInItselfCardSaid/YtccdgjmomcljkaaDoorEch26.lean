import Derived.Test.YtccdgjmomcljkaaDoorEch17
set_option linter.unusedVariables false
set_option linter.unusedSimpArgs false
namespace Go.Ech
open Go.Sw
section
variable {p n : Nat}
def DS (p n:Nat) (M:Nat→Nat→Nat) (m:Nat) (y:Nat→Int):Prop:=∀ x,Ker p n M m x→(p:Int)∣dot n y x
theorem DS.row {M:Nat→Nat→Nat}{m i:Nat}(hi:i<m):DS p n M m (ci (M i)):=fun x hx=>hx i hi
theorem DS.ker {M V:Nat→Nat→Nat}{m r:Nat}(h:∀ x,Ker p n V r x→Ker p n M m x){y:Nat→Int}(hy:DS p n M m y):DS p n V r y:=fun x hx=>hy x (h x hx)
theorem DS.red {M V:Nat→Nat→Nat}{m r:Nat}(h:RedOf p n M m r V){y:Nat→Int}:DS p n M m y↔DS p n V r y:=by
  obtain ⟨ld,_,h2⟩:=h;exact ⟨DS.ker fun x hx=>(h2 x).1 hx,DS.ker fun x hx=>(h2 x).2 hx⟩
theorem DS.eqp {M:Nat→Nat→Nat}{m:Nat}{y y':Nat→Int}(e:EqP p n y' y)(h:DS p n M m y):DS p n M m y':=fun x hx=>(dvd_iff_sub (dot_congr e)).2 (h x hx)
theorem dot_sum (P:Nat→Nat→Int)(a x:Nat→Int):∀ d,dot n (fun c=>sI (fun i=>a i*P i c) d) x=sI (fun i=>a i*dot n (P i) x) d:=fun d=>by
  unfold dot
  have e:∀ c,sI (fun i=>a i*P i c) d*x c=sI (fun i=>a i*(P i c*x c)) d:=fun c=>by
    rw [sI_mulr];exact sI_congr fun i _=>Int.mul_assoc _ _ _
  rw [sI_congr fun c _=>e c,sI_swap]
  exact sI_congr fun i _=>sI_mul (a i) _ n
theorem DS.sum {M:Nat→Nat→Nat}{m d:Nat}{P:Nat→Nat→Int}(a:Nat→Int)(h:∀ i,i<d→DS p n M m (P i)):DS p n M m (fun c=>sI (fun i=>a i*P i c) d):=fun x hx=>by
  rw [dot_sum]
  exact sI_dvd fun i hi=>Int.dvd_mul_of_dvd_right (h i hi x hx)
theorem DS.add {M:Nat→Nat→Nat}{m:Nat}{y z:Nat→Int}(hy:DS p n M m y)(hz:DS p n M m z):DS p n M m (fun c=>y c+z c):=fun x hx=>by
  have e:dot n (fun c=>y c+z c) x=dot n y x+dot n z x:=by
    unfold dot;rw [← sI_add];exact sI_congr fun c _=>Int.add_mul _ _ _
  rw [e];exact Int.dvd_add (hy x hx) (hz x hx)
theorem dot_eb {y:Nat→Int}{c:Nat}(hc:c<n):dot n y (eb c)=y c:=by
  unfold dot eb
  rw [sI_one hc fun i _ hi=>by rw [if_neg hi,Int.mul_zero],if_pos rfl,Int.mul_one]
theorem DS.map {M M':Nat→Nat→Nat}{m m':Nat}{f g:(Nat→Int)→Nat→Int}{y:Nat→Int}(hfg:∀ y x,dot n (f y) x=dot n y (g x))(hM:∀ i,i<m→DS p n M' m' (f (ci (M i))))(h:DS p n M m y):DS p n M' m' (f y):=fun x hx=>by
  rw [hfg]
  refine h _ fun i hi=>?_
  rw [← hfg]
  exact hM i hi x hx
theorem DS.zero {M:Nat→Nat→Nat}{m:Nat}{f g:(Nat→Int)→Nat→Int}{y:Nat→Int}(hfg:∀ y x,dot n (f y) x=dot n y (g x))(hM:∀ i,i<m→EqP p n (f (ci (M i))) (fun _=>0))(h:DS p n M m y):EqP p n (f y) (fun _=>0):=fun c hc=>by
  have h1:=h (g (eb c)) (fun i hi=>by
    rw [← hfg,dot_eb hc]
    have:=hM i hi c hc
    rwa [Int.sub_zero] at this)
  rw [← hfg,dot_eb hc] at h1
  rwa [Int.sub_zero]
theorem free_at {V:Nat→Nat→Nat}{r:Nat}{ld:Nat→Nat}(h:Rref p n V r ld){d:Nat}(hn:¬ isLd r ld d)(c:Nat):free V r ld d c=(if c=d then 1 else 0)+sI (fun i=>if c=ld i then -(V i d:Int) else 0) r:=by
  unfold free
  by_cases e:c=d
  · subst e
    rw [if_pos rfl,if_pos rfl,sI_zero (fun i hi=>if_neg fun z=>hn ⟨i,hi,z.symm⟩)];rfl
  · rw [if_neg e,if_neg e]
    cases e2:ldAt r ld c with
    | none =>
      rw [sI_zero (fun i hi=>if_neg fun z=>ldAt_none e2 i hi z.symm)];rfl
    | some j =>
      obtain ⟨hj,rfl⟩:=ldAt_some e2;rw [sI_one hj (fun i hi hij=>if_neg fun z=>hij (h.inj hi hj z.symm)),if_pos rfl]
      show -(V j d:Int)=0 + -(V j d:Int)
      omega
theorem DS.sp {V:Nat→Nat→Nat}{r:Nat}{ld:Nat→Nat}(h:Rref p n V r ld){y:Nat→Int}(hy:DS p n V r y):EqP p n y (fun c=>sI (fun i=>y (ld i)*(V i c:Int)) r):=fun c hc=>by
  by_cases e:isLd r ld c
  · obtain ⟨j,hj,rfl⟩:=e
    show (p:Int)∣y (ld j) - sI (fun i=>y (ld i)*(V i (ld j):Int)) r
    rw [sI_one hj (fun i hi hij=>by rw [h.zero j i hj hi (Ne.symm hij)];simp),h.one j hj]
    exact ⟨0,by simp⟩
  · have h1:=hy _ (h.free_ker hc e)
    have e2:dot n y (free V r ld c)=y c - sI (fun i=>y (ld i)*(V i c:Int)) r:=by
      unfold dot
      rw [sI_congr (g:=fun d=>y d*(if d=c then 1 else 0)+sI (fun i=>y d*(if d=ld i then -(V i c:Int) else 0)) r) (fun d _=>by rw [free_at h e d,Int.mul_add,sI_mul]),sI_add,
        sI_one hc (fun d _ hd=>by rw [if_neg hd,Int.mul_zero]),if_pos rfl,Int.mul_one,sI_swap]
      have e3:sI (fun i=>sI (fun d=>y d*(if d=ld i then -(V i c:Int) else 0)) n) r=sI (fun i=>-(y (ld i)*(V i c:Int))) r:=sI_congr fun i hi=>by
        rw [sI_one (h.lt i hi) (fun d _ hd=>by rw [if_neg hd,Int.mul_zero]),if_pos rfl,Int.mul_neg]
      rw [e3];have e4:sI (fun i=>-(y (ld i)*(V i c:Int))) r = -sI (fun i=>y (ld i)*(V i c:Int)) r:=by
        have:=sI_mul (-1) (fun i=>y (ld i)*(V i c:Int)) r;rw [Int.neg_one_mul] at this;rw [← this];exact sI_congr fun i _=>(Int.neg_one_mul _).symm
      rw [e4];omega
    rwa [e2] at h1
def IndI (p n:Nat) (P:Nat→Nat→Int) (d:Nat):Prop:=∀ a:Nat→Int,EqP p n (fun c=>sI (fun i=>a i*P i c) d) (fun _=>0)→∀ i,i<d→(p:Int)∣a i
theorem ind_rref {V:Nat→Nat→Nat}{r:Nat}{ld:Nat→Nat}(h:Rref p n V r ld):IndI p n (fun i=>ci (V i)) r:=fun a ha i hi=>by
  have h1:=ha (ld i) (h.lt i hi)
  dsimp only at h1
  rw [Int.sub_zero,sI_one hi (fun j hj hji=>by unfold ci;rw [h.zero i j hi hj (Ne.symm hji)];simp)] at h1
  unfold ci at h1
  rwa [h.one i hi,show ((1:Nat):Int)=1 from rfl,Int.mul_one] at h1
theorem dep_int {N m:Nat}(hp:primeN p)(C:Nat→Nat→Int)(hm:m<N):∃ x:Nat→Int,(∃ c,c<N∧¬ (p:Int)∣x c)∧∀ j,j<m→(p:Int)∣sI (fun i=>x i*C j i) N:=by
  have hp2:=hp.two;obtain ⟨x,h1,h2⟩:=dep (p:=p) (N:=N) (m:=m) (M:=fun j i=>(C j i%(p:Int)).toNat) hp (fun j i=>by
    have h1:=Int.emod_nonneg (C j i) (show (p:Int)≠0 by omega);have h2:=Int.emod_lt_of_pos (C j i) (show (0:Int)<p by omega)
    omega) hm
  refine ⟨x,h1,fun j hj=>?_⟩;have h3:=h2 j hj
  unfold dot ci at h3
  have h4:(p:Int)∣sI (fun i=>x i*C j i) N - sI (fun i=>x i*(((C j i%(p:Int)).toNat:Nat):Int)) N:=sI_mod fun i _=>by
    rw [Int.toNat_of_nonneg (Int.emod_nonneg _ (by omega))];have:=Int.dvd_neg.2 (emod_dvd (p:Int) (C j i))
    rwa [Int.neg_sub] at this
  rw [sI_congr (g:=fun i=>x i*(((C j i%(p:Int)).toNat:Nat):Int)) (fun i _=>Int.mul_comm _ _)] at h3;exact (dvd_iff_sub h4).2 h3
theorem ind_le {V:Nat→Nat→Nat}{r d:Nat}{ld:Nat→Nat}{P:Nat→Nat→Int}(hp:primeN p)(h:Rref p n V r ld)(hP:IndI p n P d)(hD:∀ i,i<d→DS p n V r (P i)):d≤r:=by
  refine Nat.le_of_not_lt fun hlt=>?_;obtain ⟨x,⟨i,hi,hx⟩,h2⟩:=dep_int hp (fun j i=>P i (ld j)) hlt;refine hx (hP x ?_ i hi);refine EqP.trans (DS.sp h (DS.sum x hD)) fun c hc=>?_;rw [Int.sub_zero];exact sI_dvd fun j hj=>Int.dvd_mul_of_dvd_left (h2 j hj)
theorem red_le {M V:Nat→Nat→Nat}{m r:Nat}(hp:primeN p)(hM:∀ i c,M i c<p)(h:RedOf p n M m r V):r≤m:=by
  obtain ⟨k,E,ld,h1,h2,h3⟩:=rref_exists (N:=n) (m:=m) hp hM;obtain ⟨e,_⟩:=h.unique hp.two ⟨ld,h1,h3⟩
  omega
end
end Go.Ech
namespace Go.Ech
open Go.Sw
section
variable {p n : Nat} {T : Nat → Nat → Nat → Nat}
variable (ha : AssI p n T) (hk : ComI n T)
def PrM (p n:Nat) (T:Nat→Nat→Nat→Nat) (e:Nat→Int) (V:Nat→Nat→Nat) (r:Nat) (M:Nat→Nat→Nat):Prop:=∀ i,i<r→EqP p n (ci (M i)) (Pr n T e (ci (V i)))
def Idl (p n:Nat) (T:Nat→Nat→Nat→Nat) (V:Nat→Nat→Nat) (r:Nat):Prop:=∀ i,i<r→∀ z,DS p n V r (Pr n T (ci (V i)) z)
theorem Idl.mul {V:Nat→Nat→Nat}{r:Nat}(h:Idl p n T V r)(z:Nat→Int){y:Nat→Int}(hy:DS p n V r y):DS p n V r (Pr n T y z):=
  DS.map (f:=fun y=>Pr n T y z) (g:=adjV n T z) (fun y x=>dot_adj y z x) (fun i hi=>h i hi z) hy
theorem dot_sub' (y z x:Nat→Int):dot n (fun c=>y c - z c) x=dot n y x - dot n z x:=by
  unfold dot;rw [sI_sub];exact sI_congr fun c _=>Int.sub_mul _ _ _
theorem dot_subR (y x z:Nat→Int):dot n y (fun c=>x c - z c)=dot n y x - dot n y z:=by
  unfold dot;rw [sI_sub];exact sI_congr fun c _=>Int.mul_sub _ _ _
include ha hk in
theorem part_fix {e:Nat→Int}{V M:Nat→Nat→Nat}{r:Nat}(he:EqP p n (Pr n T e e) e)(hM:PrM p n T e V r M){y:Nat→Int}(hy:DS p n M r y):EqP p n (Pr n T y e) y:=by
  have h:=DS.zero (f:=fun y c=>Pr n T y e c - y c) (g:=fun x c=>adjV n T e x c - x c) (fun y x=>by rw [dot_sub',dot_subR,dot_adj]) (fun i hi=>by
    have h1:EqP p n (Pr n T (ci (M i)) e) (ci (M i)):=by
      refine EqP.trans (EqP.mul (hM i hi) (EqP.refl e)) (EqP.trans (Pr_right_comm ha hk e (ci (V i)) e) ?_);exact EqP.trans (EqP.mul he (EqP.refl _)) (hM i hi).symm
    intro c hc;have:=h1 c hc
    rwa [Int.sub_zero]) hy
  intro c hc;have:=h c hc
  rwa [Int.sub_zero] at this
include hk in
theorem part_in {e:Nat→Int}{V M:Nat→Nat→Nat}{r:Nat}(hM:PrM p n T e V r M){y:Nat→Int}(hy:DS p n V r y):DS p n M r (Pr n T y e):=
  DS.map (f:=fun y=>Pr n T y e) (g:=adjV n T e) (fun y x=>dot_adj y e x) (fun i hi=>DS.eqp ((Pr_comm hk _ _).trans (hM i hi).symm) (DS.row hi)) hy
include hk in
theorem part_up {e:Nat→Int}{V M:Nat→Nat→Nat}{r:Nat}(hI:Idl p n T V r)(hM:PrM p n T e V r M){y:Nat→Int}(hy:DS p n M r y):DS p n V r y:=
  hy.ker fun x hx i hi=>DS.eqp ((hM i hi).trans (Pr_comm hk _ _)) (hI i hi e) x hx
def joinM (p a:Nat) (A B:Nat→Nat→Nat) (i c:Nat):Nat:=(if i<a then A i c else B (i - a) c)%p
theorem join_l {a:Nat}{A B:Nat→Nat→Nat}{i:Nat}(hi:i<a):EqP p n (ci (joinM p a A B i)) (ci (A i)):=fun c _=>by
  unfold ci joinM;rw [if_pos hi]
  have:=emod_dvd (p:Int) (A i c:Int)
  have h2:=Int.dvd_neg.2 this
  rwa [Int.neg_sub,← Int.natCast_emod,← Int.neg_sub,Int.dvd_neg] at h2<;>skip
theorem join_r {a:Nat}{A B:Nat→Nat→Nat}(i:Nat):EqP p n (ci (joinM p a A B (a+i))) (ci (B i)):=fun c _=>by
  unfold ci joinM;rw [if_neg (by omega),Nat.add_sub_cancel_left]
  have:=emod_dvd (p:Int) (B i c:Int)
  have h2:=Int.dvd_neg.2 this
  rwa [Int.neg_sub,← Int.natCast_emod,← Int.neg_sub,Int.dvd_neg] at h2<;>skip
theorem join_lt {a:Nat}{A B:Nat→Nat→Nat}(hp:0<p):∀ i c,joinM p a A B i c<p:=fun i c=>Nat.mod_lt _ hp
theorem join_sum {a b:Nat}(P:Nat→Nat→Int)(x:Nat→Int)(c:Nat):sI (fun i=>x i*P i c) (a+b)=sI (fun i=>x i*P i c) a+sI (fun i=>x (a+i)*P (a+i) c) b:=sI_split _ _ _
include ha hk in
theorem rank_two {e g s:Nat→Int}{V Me Mg Ms A B C:Nat→Nat→Nat}{r a b c:Nat}{ld:Nat→Nat}(hp:primeN p)(hV:Rref p n V r ld)(hI:Idl p n T V r)(he:EqP p n (Pr n T e e) e)(hg:EqP p n (Pr n T g g) g)(h0:EqP p n (Pr n T e g) (fun _=>0))(hs:EqP p n s (fun c=>e c+g c))
    (hMe:PrM p n T e V r Me) (hMg:PrM p n T g V r Mg) (hMs:PrM p n T s V r Ms) (hA:RedOf p n Me r a A) (hB:RedOf p n Mg r b B) (hC:RedOf p n Ms r c C):c=a+b:=by
  have h0':EqP p n (Pr n T g e) (fun _=>0):=(Pr_comm hk g e).trans h0;have hp0:0<p:=by have:=hp.two;omega
  have smul:∀ y,EqP p n (Pr n T y s) (fun c=>Pr n T y e c+Pr n T y g c):=fun y=>EqP.trans (EqP.mul (EqP.refl y) hs) fun c _=>by rw [Pr_addR,Int.sub_self];exact ⟨0,by simp⟩
  have cross:∀ {u v:Nat→Int},EqP p n (Pr n T u v) (fun _=>0)→∀ y,EqP p n (Pr n T (Pr n T y u) v) (fun _=>0):=fun h y=>EqP.trans (fun c hc=>Pr_assoc ha y _ _ hc) (zero_r h);have hss:EqP p n (Pr n T s s) s:=by
    refine EqP.trans (smul s) (EqP.trans (EqP.add (Pr_comm hk s e) (Pr_comm hk s g)) (EqP.trans (EqP.add (smul e) (smul g)) ?_));refine EqP.trans (EqP.add (EqP.add he h0) (EqP.add h0' hg)) (EqP.trans (fun c _=>?_) hs.symm);exact ⟨0,by omega⟩
  have fe:∀ {y},DS p n Me r y→EqP p n (Pr n T y e) y:=fun hy=>part_fix ha hk he hMe hy;have fg:∀ {y},DS p n Mg r y→EqP p n (Pr n T y g) y:=fun hy=>part_fix ha hk hg hMg hy;have eg:∀ {y},DS p n Me r y→EqP p n (Pr n T y g) (fun _=>0):=fun {y} hy=>EqP.trans (EqP.mul (fe hy).symm (EqP.refl g)) (cross h0 y);have ge:∀ {y},DS p n Mg r y→EqP p n (Pr n T y e) (fun _=>0):=fun {y} hy=>EqP.trans (EqP.mul (fg hy).symm (EqP.refl e)) (cross h0' y);have inS:∀ {y},DS p n V r y→EqP p n (Pr n T y s) y→DS p n Ms r y:=fun hy h=>DS.eqp h.symm (part_in hk hMs hy);have eS:∀ {y},DS p n Me r y→DS p n Ms r y:=fun {y} hy=>inS (part_up hk hI hMe hy) (EqP.trans (smul y) (EqP.trans (EqP.add (fe hy) (eg hy)) fun c _=>⟨0,by omega⟩));have gS:∀ {y},DS p n Mg r y→DS p n Ms r y:=fun {y} hy=>inS (part_up hk hI hMg hy) (EqP.trans (smul y) (EqP.trans (EqP.add (ge hy) (fg hy)) fun c _=>⟨0,by omega⟩));have hA':=hA;have hB':=hB;have hC':=hC;obtain ⟨lA,rA,_⟩:=hA';obtain ⟨lB,rB,_⟩:=hB';obtain ⟨lC,rC,_⟩:=hC';have dA:∀ i,i<a→DS p n Me r (ci (A i)):=fun i hi=>(DS.red hA).2 (DS.row hi);have dB:∀ i,i<b→DS p n Mg r (ci (B i)):=fun i hi=>(DS.red hB).2 (DS.row hi);have h1:a+b≤c:=by
    let P:Nat→Nat→Int:=fun i=>if i<a then ci (A i) else ci (B (i - a))
    have eP1:∀ i,i<a→P i=ci (A i):=fun i hi=>if_pos hi;have eP2:∀ i,P (a+i)=ci (B i):=fun i=>by show (if a+i<a then _ else _)=_;rw [if_neg (by omega),Nat.add_sub_cancel_left]
    refine ind_le (P:=P) hp rC (fun x hx=>?_) (fun i hi=>?_)
    · have e1:∀ d,sI (fun i=>x i*P i d) (a+b)=sI (fun i=>x i*ci (A i) d) a+sI (fun i=>x (a+i)*ci (B i) d) b:=fun d=>by
        rw [join_sum,sI_congr fun i hi=>by rw [eP1 i hi],sI_congr (n:=b) fun i hi=>by rw [eP2 i]]
      have hYA:DS p n Me r (fun d=>sI (fun i=>x i*ci (A i) d) a):=DS.sum x dA;have hYB:DS p n Mg r (fun d=>sI (fun i=>x (a+i)*ci (B i) d) b):=DS.sum (fun i=>x (a+i)) dB;have hz:EqP p n (fun d=>sI (fun i=>x i*ci (A i) d) a+sI (fun i=>x (a+i)*ci (B i) d) b) (fun _=>0):=fun d hd=>by
        have z:=hx d hd
        dsimp only at z ⊢
        rw [e1] at z;exact z
      have zA:EqP p n (fun d=>sI (fun i=>x i*ci (A i) d) a) (fun _=>0):=by
        have h2:EqP p n (Pr n T (fun d=>sI (fun i=>x i*ci (A i) d) a+sI (fun i=>x (a+i)*ci (B i) d) b) e) (fun _=>0):=zero_l hz;refine EqP.trans (EqP.symm (EqP.trans (fun d _=>?_) (EqP.trans (EqP.add (fe hYA) (ge hYB)) fun d _=>⟨0,by omega⟩))) h2;rw [Pr_add,Int.sub_self];exact ⟨0,by simp⟩
      have zB:EqP p n (fun d=>sI (fun i=>x (a+i)*ci (B i) d) b) (fun _=>0):=by
        have h2:EqP p n (Pr n T (fun d=>sI (fun i=>x i*ci (A i) d) a+sI (fun i=>x (a+i)*ci (B i) d) b) g) (fun _=>0):=zero_l hz;refine EqP.trans (EqP.symm (EqP.trans (fun d _=>?_) (EqP.trans (EqP.add (eg hYA) (fg hYB)) fun d _=>⟨0,by omega⟩))) h2;rw [Pr_add,Int.sub_self];exact ⟨0,by simp⟩
      intro i hi
      by_cases q:i<a
      · exact ind_rref rA x zA i q
      · have:=ind_rref rB (fun i=>x (a+i)) zB (i - a) (by omega)
        rwa [show a+(i - a)=i by omega] at this
    · by_cases q:i<a
      · rw [eP1 i q];exact (DS.red hC).1 (eS (dA i q))
      · have e2:=eP2 (i - a)
        rw [show a+(i - a)=i by omega] at e2;rw [e2];exact (DS.red hC).1 (gS (dB (i - a) (by omega)))
  have h2:c≤a+b:=by
    obtain ⟨r',U,hU⟩:=redOf_exists (p:=p) (n:=n) (m:=a+b) (M:=joinM p a A B) hp (join_lt hp0);have hle:=red_le hp (join_lt (a:=a) (A:=A) (B:=B) hp0) hU;have hU':=hU;obtain ⟨lU,rU,_⟩:=hU';have jA:∀ i,i<a→DS p n (joinM p a A B) (a+b) (ci (A i)):=fun i hi=>DS.eqp (join_l hi).symm (DS.row (by omega));have jB:∀ i,i<b→DS p n (joinM p a A B) (a+b) (ci (B i)):=fun i hi=>DS.eqp (join_r i).symm (DS.row (by omega));have:=ind_le hp rU (ind_rref rC) (fun i hi=>(DS.red hU).1 (by
      have dC:DS p n Ms r (ci (C i)):=(DS.red hC).2 (DS.row hi);have dV:=part_up hk hI hMs dC;have e1:=part_fix ha hk hss hMs dC;refine DS.eqp (EqP.trans e1.symm (smul _)) (DS.add ?_ ?_)
      · exact DS.eqp (DS.sp rA ((DS.red hA).1 (part_in hk hMe dV))) (DS.sum _ jA)
      · exact DS.eqp (DS.sp rB ((DS.red hB).1 (part_in hk hMg dV))) (DS.sum _ jB)))
    omega
  omega
end
end Go.Ech
namespace Go.Ech
open Go.Sw
section
variable {p n : Nat} {T : Nat → Nat → Nat → Nat}
variable (ha : AssI p n T) (hk : ComI n T)
theorem Pr_sumL (P:Nat→Nat→Int)(a:Nat→Int)(z:Nat→Int)(d c:Nat):Pr n T (fun c=>sI (fun i=>a i*P i c) d) z c=sI (fun i=>a i*Pr n T (P i) z c) d:=by
  have h:=Pr_sum (n:=n) (T:=T) d (fun i c=>a i*P i c) z c;rw [h];exact sI_congr fun i _=>by rw [← Pr_smul]
include ha hk in
theorem part_le {e s0:Nat→Int}{VA VN VS MA MN MS A N S:Nat→Nat→Nat}{rA rN rS a m s:Nat}(hp:primeN p)(he:EqP p n (Pr n T e e) e)
    (hIA:Idl p n T VA rA) (hIN:Idl p n T VN rN) (hIS:Idl p n T VS rS) (hMA:PrM p n T e VA rA MA) (hMN:PrM p n T e VN rN MN) (hMS:PrM p n T e VS rS MS)
    (hA:RedOf p n MA rA a A) (hN:RedOf p n MN rN m N) (hS:RedOf p n MS rS s S) (hs:DS p n VS rS s0) (hse:EqP p n (Pr n T s0 e) s0)
    (hker:∀ b,EqP p n (Pr n T b e) b→EqP p n (Pr n T b s0) (fun _=>0)→DS p n VN rN b):a≤m+s:=by
  refine Nat.le_of_not_lt fun hlt=>?_;have hA':=hA;have hN':=hN;have hS':=hS;obtain ⟨lA,rfA,_⟩:=hA';obtain ⟨lN,rfN,_⟩:=hN';obtain ⟨lS,rfS,_⟩:=hS';obtain ⟨x,⟨i,hi,hx⟩,h2⟩:=dep_int hp (fun j i=>if j<m then ci (A i) (lN j) else Pr n T (ci (A i)) s0 (lS (j - m))) hlt;have dA:∀ i,i<a→DS p n MA rA (ci (A i)):=fun i hi=>(DS.red hA).2 (DS.row hi);have hb:=DS.sum x dA;have hbe:=part_fix ha hk he hMA hb
  have hbs:EqP p n (Pr n T (fun c=>sI (fun i=>x i*ci (A i) c) a) s0) (fun _=>0):=by
    have hd:DS p n S s (Pr n T (fun c=>sI (fun i=>x i*ci (A i) c) a) s0):=(DS.red hS).1 (by
      have h3:DS p n VS rS (Pr n T (fun c=>sI (fun i=>x i*ci (A i) c) a) s0):=DS.eqp (Pr_comm hk _ _) (hIS.mul _ hs);refine DS.eqp (EqP.symm ?_) (part_in hk hMS h3);exact EqP.trans (fun c hc=>Pr_assoc ha _ s0 e hc) (EqP.mul (EqP.refl _) hse))
    refine EqP.trans (DS.sp rfS hd) fun c hc=>?_;rw [Int.sub_zero];refine sI_dvd fun j hj=>Int.dvd_mul_of_dvd_left ?_;rw [Pr_sumL];have h4:=h2 (m+j) (by omega)
    rwa [sI_congr (g:=fun i=>x i*Pr n T (ci (A i)) s0 (lS j)) (fun i _=>by rw [if_neg (by omega),Nat.add_sub_cancel_left])] at h4
  have hbN:=hker _ hbe hbs;have hz:EqP p n (fun c=>sI (fun i=>x i*ci (A i) c) a) (fun _=>0):=by
    have hd:DS p n N m (fun c=>sI (fun i=>x i*ci (A i) c) a):=(DS.red hN).1 (DS.eqp hbe.symm (part_in hk hMN hbN));refine EqP.trans (DS.sp rfN hd) fun c hc=>?_;rw [Int.sub_zero];refine sI_dvd fun j hj=>Int.dvd_mul_of_dvd_left ?_;have h4:=h2 j (by omega)
    rwa [sI_congr (g:=fun i=>x i*ci (A i) (lN j)) (fun i _=>by rw [if_pos hj])] at h4
  exact hx (ind_rref rfA x hz i hi)
def sumE (E:Nat→Nat→Int) (k:Nat) (c:Nat):Int:=sI (fun i=>E i c) k
theorem sumE_succ (E:Nat→Nat→Int)(k:Nat):sumE E (k+1)=fun c=>sumE E k c+E k c:=rfl
def sumT' (f:Nat→Nat):Nat→Nat
  | 0=>0
  | k+1=>sumT' f k+f k
theorem sumE_mul (E:Nat→Nat→Int)(z:Nat→Int)(k c:Nat):Pr n T (sumE E k) z c=sI (fun i=>Pr n T (E i) z c) k:=Pr_sum k E z c
theorem sumE_orth {E:Nat→Nat→Int}{s:Nat}(h0:∀ i j,i<s→j<s→i≠j→EqP p n (Pr n T (E i) (E j)) (fun _=>0)){k j:Nat}(hkj:k≤j)(hj:j<s):EqP p n (Pr n T (sumE E k) (E j)) (fun _=>0):=fun c hc=>by
  rw [sumE_mul,Int.sub_zero]
  exact sI_dvd fun i hi=>by have:=h0 i j (by omega) hj (by omega) c hc;rwa [Int.sub_zero] at this
include hk in
theorem sumE_idem {E:Nat→Nat→Int}{s:Nat}(h1:∀ i,i<s→EqP p n (Pr n T (E i) (E i)) (E i))(h0:∀ i j,i<s→j<s→i≠j→EqP p n (Pr n T (E i) (E j)) (fun _=>0)):∀ k,k≤s→EqP p n (Pr n T (sumE E k) (sumE E k)) (sumE E k)
  | 0, _ => fun c _ => by
    have e:sumE E 0=fun _=>0:=rfl
    rw [e,Pr_zero];exact ⟨0,by simp⟩
  | k + 1, hks => by
    have ih:=sumE_idem h1 h0 k (by omega)
    have o:=sumE_orth h0 (Nat.le_refl k) (show k<s by omega)
    rw [sumE_succ]
    refine EqP.trans (fun c _=>(by rw [Pr_add,Pr_addR,Pr_addR,Int.sub_self];exact ⟨0,by simp⟩:(p:Int)∣Pr n T (fun c=>sumE E k c+E k c) (fun c=>sumE E k c+E k c) c - (Pr n T (sumE E k) (sumE E k) c+Pr n T (sumE E k) (E k) c+(Pr n T (E k) (sumE E k) c+Pr n T (E k) (E k) c)))) ?_
    refine EqP.trans (EqP.add (EqP.add ih o) (EqP.add ((Pr_comm hk _ _).trans o) (h1 k (by omega)))) fun c _=>⟨0,by omega⟩
include ha hk in
theorem rank_sum {E:Nat→Nat→Int}{s r:Nat}{V:Nat→Nat→Nat}{ld:Nat→Nat}{M:Nat→Nat→Nat→Nat}{R:Nat→Nat}(hp:primeN p)(hV:Rref p n V r ld)(hI:Idl p n T V r)
    (h1:∀ i,i<s→EqP p n (Pr n T (E i) (E i)) (E i)) (h0:∀ i j,i<s→j<s→i≠j→EqP p n (Pr n T (E i) (E j)) (fun _=>0)) (hM:∀ i,i<s→PrM p n T (E i) V r (M i)) (hR:∀ i,i<s→IsRk p n (M i) r (R i)) (hMp:∀ i a c,M i a c<p)
    (hsum:∀ y,EqP p n (Pr n T (sumE E s) y) y):sumT' R s=r:=by
  have hp0:0<p:=by have:=hp.two;omega
  have key:∀ k,k≤s→∀ Ms c C,PrM p n T (sumE E k) V r Ms→(∀ a c,Ms a c<p)→RedOf p n Ms r c C→c=sumT' R k:=fun k=>by
    induction k with
    | zero =>
      intro _ Ms c C hMs hMl hC;obtain ⟨lC,rC,_⟩:=id hC;refine Decidable.byContradiction fun hne=>?_;have hc:0<c:=Nat.pos_of_ne_zero hne;have hz:∀ i,i<r→EqP p n (ci (Ms i)) (fun _=>0):=fun i hi=>(hMs i hi).trans fun d _=>by
        have e:sumE E 0=fun _=>0:=rfl;rw [e,Pr_zero];exact ⟨0,by simp⟩
      have hd:DS p n Ms r (ci (C 0)):=(DS.red hC).2 (DS.row hc);have h2:=DS.zero (f:=fun y=>y) (g:=fun x=>x) (fun _ _=>rfl) hz hd (lC 0) (rC.lt 0 hc)
      unfold ci at h2
      rw [rC.one 0 hc] at h2;have h3:(p:Int)∣1:=h2;have:=Int.le_of_dvd (by omega) h3;have:=hp.two
      omega
    | succ k ih =>
      intro hks Ms c C hMs hMl hC;have hcut:∃ Me:Nat→Nat→Nat,PrM p n T (sumE E k) V r Me∧∀ a c,Me a c<p:=⟨fun a c=>(Pr n T (sumE E k) (ci (V a)) c%(p:Int)).toNat,fun a _ c _=>by
        unfold ci
        rw [Int.toNat_of_nonneg (Int.emod_nonneg _ (by omega))];exact emod_dvd _ _,fun a c=>by
        have h1:=Int.emod_nonneg (Pr n T (sumE E k) (ci (V a)) c) (show (p:Int)≠0 by omega);have h2:=Int.emod_lt_of_pos (Pr n T (sumE E k) (ci (V a)) c) (show (0:Int)<p by omega)
        dsimp only;omega⟩
      obtain ⟨Me,hMe,hMep⟩:=hcut;obtain ⟨a,A,hA⟩:=redOf_exists (p:=p) (n:=n) (m:=r) (M:=Me) hp hMep;obtain ⟨b,B,hB⟩:=redOf_exists (p:=p) (n:=n) (m:=r) (M:=M k) hp (hMp k);have e1:=ih (by omega) Me a A hMe hMep hA;have e2:=hR k (by omega) b B hB;have:=rank_two ha hk hp hV hI (sumE_idem hk h1 h0 k (by omega)) (h1 k (by omega)) (sumE_orth h0 (Nat.le_refl k) (by omega)) (EqP.refl _) hMe (hM k (by omega)) hMs hA hB hC
      show c=sumT' R k+R k
      omega
  have hV0:RedOf p n V r r V:=⟨ld,hV,fun x=>Iff.rfl⟩;obtain ⟨Ms,hMs,hMsp⟩:∃ Ms:Nat→Nat→Nat,PrM p n T (sumE E s) V r Ms∧∀ a c,Ms a c<p:=⟨fun a c=>(Pr n T (sumE E s) (ci (V a)) c%(p:Int)).toNat,fun a _ c _=>by
    unfold ci
    rw [Int.toNat_of_nonneg (Int.emod_nonneg _ (by omega))];exact emod_dvd _ _,fun a c=>by
    have h1:=Int.emod_nonneg (Pr n T (sumE E s) (ci (V a)) c) (show (p:Int)≠0 by omega);have h2:=Int.emod_lt_of_pos (Pr n T (sumE E s) (ci (V a)) c) (show (0:Int)<p by omega)
    dsimp only;omega⟩
  refine (key s (Nat.le_refl _) Ms r V hMs hMsp ⟨ld,hV,fun x=>?_⟩).symm;have e:∀ i,i<r→EqP p n (ci (Ms i)) (ci (V i)):=fun i hi=>(hMs i hi).trans (hsum _);exact ⟨fun h i hi=>(dvd_iff_sub (dot_congr (e i hi))).2 (h i hi),fun h i hi=>(dvd_iff_sub (dot_congr (e i hi))).1 (h i hi)⟩
end
end Go.Ech
namespace Go.Ech
open Go.Sw
theorem pigeon:∀ (B:Nat) (f:Nat→Nat),(∀ i,i≤B→f i<B)→∃ i j,i<j∧j≤B∧f i=f j
  | 0,f,h=>absurd (h 0 (Nat.le_refl _)) (by omega)
  | B + 1, f, h => by
    by_cases hex:∃ i,i<B+1∧f i=f (B+1)
    · obtain ⟨i,hi,e⟩:=hex
      exact ⟨i,B+1,hi,Nat.le_refl _,e⟩
    · have hno:∀ i,i<B+1→f i≠f (B+1):=fun i hi e=>hex ⟨i,hi,e⟩
      have hl:=h (B+1) (Nat.le_refl _)
      obtain ⟨i,j,hij,hj,e⟩:=pigeon B (fun i=>if f i=B then f (B+1) else f i) (fun i hi=>by
        have h1:=h i (by omega)
        have h2:=hno i (by omega)
        split
        · rename_i q;rw [q] at h2;omega
        · omega)
      refine ⟨i,j,hij,by omega,?_⟩
      have h1:=hno i (by omega)
      have h2:=hno j (by omega)
      by_cases q:f i=B<;>by_cases r:f j=B
      · rw [q,r]
      · rw [if_pos q,if_neg r] at e;exact absurd e.symm h2
      · rw [if_neg q,if_pos r] at e;exact absurd e h1
      · rwa [if_neg q,if_neg r] at e
def cdN (p:Nat) (x:Nat→Nat):Nat→Nat
  | 0=>0
  | k+1=>cdN p x k+x k*p ^ k
theorem cd_lt {p:Nat}{x:Nat→Nat}(hx:∀ c,x c<p):∀ k,cdN p x k<p ^ k
  | 0=>by simp [cdN]
  | k + 1 => by
    have h1:=cd_lt hx k
    have h2:(x k+1)*p ^ k≤p*p ^ k:=Nat.mul_le_mul_right _ (hx k)
    rw [Nat.succ_mul] at h2
    rw [Nat.pow_succ,Nat.mul_comm (p ^ k) p]
    simp only [cdN];omega
theorem cd_inj {p:Nat}{x y:Nat→Nat}(hx:∀ c,x c<p)(hy:∀ c,y c<p):∀ k,cdN p x k=cdN p y k→∀ c,c<k→x c=y c
  | 0,_,c,hc=>absurd hc (by omega)
  | k + 1, h, c, hc => by
    have h1:=cd_lt hx k
    have h2:=cd_lt hy k
    have hp0:0<p ^ k:=by omega
    simp only [cdN] at h
    have e1:(cdN p x k+x k*p ^ k) / p ^ k=x k:=by rw [Nat.add_mul_div_right _ _ hp0,Nat.div_eq_of_lt h1,Nat.zero_add]
    have e2:(cdN p y k+y k*p ^ k) / p ^ k=y k:=by rw [Nat.add_mul_div_right _ _ hp0,Nat.div_eq_of_lt h2,Nat.zero_add]
    have e3:x k=y k:=by rw [← e1,← e2,h]
    by_cases e:c=k
    · rw [e];exact e3
    · rw [e3] at h
      exact cd_inj hx hy k (by omega) c (by omega)
def geoS (p:Nat):Nat→Nat
  | 0=>0
  | t+1=>geoS p t+p ^ t
theorem geo_mul (p:Nat):∀ t,geoS p t*p+1=geoS p t+p ^ t
  | 0=>by simp [geoS]
  | t + 1 => by
    have:=geo_mul p t
    simp only [geoS]
    have e:p ^ t*p=p ^ (t+1):=(Nat.pow_succ ..).symm
    rw [Nat.add_mul,e]
    omega
theorem geo_pos {p t:Nat}(hp:0<p)(ht:0<t):0<geoS p t:=by
  obtain ⟨q,rfl⟩:∃ q,t=q+1:=⟨t - 1,by omega⟩;have:=Nat.pow_pos (n:=q) hp;simp only [geoS];omega
section
variable {p n : Nat} {T : Nat → Nat → Nat → Nat} {u : Nat → Int}
variable (ha : AssI p n T) (hk : ComI n T) (hu : ∀ y, EqP p n (Pr n T y u) y)
theorem pow_again (hp:0<p)(b:Nat→Int):∃ i t,0<t∧EqP p n (vP n T u b (p ^ (i+t))) (vP n T u b (p ^ i)):=by
  let q:Nat→Nat→Nat:=fun i c=>(vP n T u b (p ^ i) c%(p:Int)).toNat
  have hq:∀ i c,q i c<p:=fun i c=>by
    have h1:=Int.emod_nonneg (vP n T u b (p ^ i) c) (show (p:Int)≠0 by omega);have h2:=Int.emod_lt_of_pos (vP n T u b (p ^ i) c) (show (0:Int)<p by omega)
    show (vP n T u b (p ^ i) c%(p:Int)).toNat<p
    omega
  obtain ⟨i,j,hij,_,e⟩:=pigeon (p ^ n) (fun i=>cdN p (q i) n) (fun i _=>cd_lt (hq i) n);refine ⟨i,j - i,by omega,fun c hc=>?_⟩;rw [show i+(j - i)=j by omega];have h:=cd_inj (hq i) (hq j) n e c hc;have h1:(q i c:Int)=vP n T u b (p ^ i) c%(p:Int):=Int.toNat_of_nonneg (Int.emod_nonneg _ (by omega));have h2:(q j c:Int)=vP n T u b (p ^ j) c%(p:Int):=Int.toNat_of_nonneg (Int.emod_nonneg _ (by omega));have h3:=emod_dvd (p:Int) (vP n T u b (p ^ i) c);have h4:=emod_dvd (p:Int) (vP n T u b (p ^ j) c);rw [← h1] at h3;rw [← h2,← h] at h4;have:=Int.dvd_sub h3 h4
  rwa [show ∀ A B C:Int,A - B - (A - C)=C - B from fun A B C=>by omega] at this
include ha hu in
theorem pow_fixed (hp:0<p)(b:Nat→Int):∃ m,0<m∧EqP p n (vP n T u (vP n T u b m) p) (vP n T u b m):=by
  obtain ⟨i,t,ht,h⟩:=pow_again (n:=n) (T:=T) (u:=u) hp b;have hS:=geo_pos hp ht;have hm:=geo_mul p t;refine ⟨p ^ i*geoS p t,Nat.mul_pos (Nat.pow_pos hp) hS,?_⟩;refine EqP.trans (vP_vP ha hu b (p ^ i*geoS p t) p) ?_;have e1:p ^ i*geoS p t*p=p ^ i*(geoS p t - 1)+p ^ (i+t):=by
    rw [Nat.pow_add,← Nat.mul_add,Nat.mul_assoc]
    congr 1
    omega
  have e2:p ^ i*geoS p t=p ^ i*(geoS p t - 1)+p ^ i:=by
    rw [← Nat.mul_succ];congr 1;omega
  rw [e1,e2];exact EqP.trans (vP_add ha hu b _ _).symm (EqP.trans (EqP.mul (EqP.refl _) h) (vP_add ha hu b _ _))
def PrimE (p n:Nat) (T:Nat→Nat→Nat→Nat) (u e:Nat→Int):Prop:=EqP p n (Pr n T e e) e∧∀ v,EqP p n (vP n T u v p) v→∃ a:Nat,a<p∧EqP p n (Pr n T e v) (fun c=>(a:Int)*e c)
include ha in
theorem pow_part {e b:Nat→Int}(hb:EqP p n (Pr n T b e) b):∀ m,0<m→EqP p n (Pr n T (vP n T u b m) e) (vP n T u b m)
  | 0,h=>absurd h (by omega)
  | m+1,_=>EqP.trans (fun c hc=>Pr_assoc ha (vP n T u b m) b e hc) (EqP.mul (EqP.refl _) hb)
include ha hk hu in
theorem prim_nil {e b s0:Nat→Int}(hp:primeN p)(he:PrimE p n T u e)(hb:EqP p n (Pr n T b e) b)(hs:EqP p n (Pr n T s0 e) s0)(hs0:¬ EqP p n s0 (fun _=>0))(h0:EqP p n (Pr n T b s0) (fun _=>0)):∃ m,EqP p n (vP n T u b m) (fun _=>0):=by
  have hp2:=hp.two;obtain ⟨m,hm,hf⟩:=pow_fixed ha hu (show 0<p by omega) b;obtain ⟨a,hal,hae⟩:=he.2 _ hf;have h1:EqP p n (vP n T u b m) (fun c=>(a:Int)*e c):=EqP.trans (pow_part ha hb m hm).symm (EqP.trans (Pr_comm hk _ _) hae)
  by_cases hz:a=0
  · refine ⟨m,h1.trans fun c _=>?_⟩
    rw [hz];exact ⟨0,by simp⟩
  · refine absurd ?_ hs0
    obtain ⟨q,rfl⟩:∃ q,m=q+1:=⟨m - 1,by omega⟩;have h2:EqP p n (Pr n T (vP n T u b (q+1)) s0) (fun _=>0):=EqP.trans (fun c hc=>Pr_assoc ha (vP n T u b q) b s0 hc) (zero_r h0);have h3:EqP p n (fun c=>(a:Int)*s0 c) (fun _=>0):=by
      refine EqP.trans (EqP.symm ?_) h2;refine EqP.trans (EqP.mul h1 (EqP.refl s0)) (EqP.trans (fun c _=>?_) (EqP.smul (a:Int) ((Pr_comm hk e s0).trans hs)));rw [Pr_smul,Int.sub_self];exact ⟨0,by simp⟩
    intro c hc;have h4:(p:Int)∣(a:Int)*s0 c:=by have z:=h3 c hc;rwa [Int.sub_zero] at z
    rw [Int.sub_zero];rw [Int.mul_comm] at h4;exact dvd_prime hp hal hz h4
end
end Go.Ech
namespace Go.Ech
open Go.Sw
theorem least {P:Nat→Prop}(m:Nat)(h:P m):∃ k,P k∧∀ j,j<k→¬ P j:=by
  induction m using Nat.strongRecOn with
  | ind m ih =>
    by_cases e:∃ j,j<m∧P j
    · obtain ⟨j,hj,hP⟩:=e
      exact ih j hj hP
    · exact ⟨m,h,fun j hj hP=>e ⟨j,hj,hP⟩⟩
def idM (i c:Nat):Nat:=if c=i then 1 else 0
section
variable {p n : Nat} {T : Nat → Nat → Nat → Nat} {u : Nat → Int}
theorem rref_id (hp:2≤p):Rref p n idM n (fun i=>i) where
  lt:=fun i hi=>hi
  mono:=fun i j hij _=>hij
  one:=fun i hi=>if_pos rfl
  left:=fun i hi c hc=>if_neg (by omega)
  zero:=fun i j hi hj hij=>if_neg hij
  small:=fun i hi c hc=>by unfold idM;split<;>omega
theorem ds_id (y:Nat→Int):DS p n idM n y:=fun x hx=>sI_dvd fun c hc=>Int.dvd_mul_of_dvd_right (by
  have h:=hx c hc
  unfold dot at h
  rw [sI_one hc (fun d _ hd=>by unfold ci idM;rw [if_neg hd];simp)] at h
  unfold ci idM at h
  rwa [if_pos rfl,show ((1:Nat):Int)=1 from rfl,Int.one_mul] at h)
theorem not_zero {y:Nat→Int}(hp:2≤p)(h:¬ EqP p n y (fun _=>0)):∃ c,c<n∧¬ (p:Int)∣y c:=Classical.byContradiction fun hno=>h fun c hc=>Classical.byContradiction fun hd=>hno ⟨c,hc,fun z=>hd (by rwa [Int.sub_zero])⟩
theorem dvd_primeI {x y:Int}(hp:primeN p)(hy:¬ (p:Int)∣y)(h:(p:Int)∣x*y):(p:Int)∣x:=by
  have hp2:=hp.two;have h1:=Int.emod_nonneg y (show (p:Int)≠0 by omega);have h2:=Int.emod_lt_of_pos y (show (0:Int)<p by omega);have e:(((y%(p:Int)).toNat:Nat):Int)=y%(p:Int):=Int.toNat_of_nonneg h1;refine dvd_prime (a:=(y%(p:Int)).toNat) hp (by omega) (fun z=>hy ?_) ?_
  · have:y%(p:Int)=0:=by omega
    exact Int.dvd_of_emod_eq_zero this
  · rw [e]
    have h3:=Int.dvd_mul_of_dvd_right (b:=x) (emod_dvd (p:Int) y);rw [Int.mul_sub] at h3;exact (dvd_iff_sub h3).2 h
variable (ha : AssI p n T) (hk : ComI n T) (hu : ∀ y, EqP p n (Pr n T y u) y)
include ha hu in
theorem nil_le (hp:primeN p){b:Nat→Int}{m K:Nat}(hm:EqP p n (vP n T u b m) (fun _=>0))(hK:n≤K):EqP p n (vP n T u b K) (fun _=>0):=by
  have hp2:=hp.two;obtain ⟨k,hz,hmin⟩:=least (P:=fun m=>EqP p n (vP n T u b m) (fun _=>0)) m hm;refine vP_nil ha hu hz (Nat.le_trans ?_ hK);refine ind_le (P:=fun i=>vP n T u b i) hp (rref_id hp2) (fun x hx=>?_) (fun i hi=>ds_id _);intro i
  induction i using Nat.strongRecOn with
  | ind i ih =>
    intro hi;obtain ⟨c,hc,hnz⟩:=not_zero hp2 (hmin (k - 1) (by omega));refine dvd_primeI hp hnz ?_;have h1:EqP p n (Pr n T (fun c=>sI (fun i=>x i*vP n T u b i c) k) (vP n T u b (k - 1 - i))) (fun _=>0):=zero_l hx;have h2:=h1 c hc;rw [Int.sub_zero,Pr_sumL] at h2;have h3:(p:Int)∣sI (fun j=>x j*Pr n T (vP n T u b j) (vP n T u b (k - 1 - i)) c) k - sI (fun j=>if j=i then x i*vP n T u b (k - 1) c else 0) k:=by
      rw [sI_sub];refine sI_dvd fun j hj=>?_;have ha2:=vP_add ha hu b j (k - 1 - i) c hc
      by_cases e:j=i
      · subst e
        rw [if_pos rfl,← Int.mul_sub];rw [show j+(k - 1 - j)=k - 1 by omega] at ha2;exact Int.dvd_mul_of_dvd_right ha2
      · rw [if_neg e,Int.sub_zero]
        by_cases e2:j<i
        · exact Int.dvd_mul_of_dvd_left (ih j e2 (by omega))
        · have h4:=vP_nil ha hu hz (show k≤j+(k - 1 - i) by omega) c hc
          have h5:=Int.dvd_add ha2 h4;rw [show ∀ A B C:Int,A - B+(B - C)=A - C from fun A B C=>by omega,Int.sub_zero] at h5;exact Int.dvd_mul_of_dvd_right h5
    have h6:=(dvd_iff_sub h3).1 h2
    rwa [sI_one hi (fun j _ hj=>if_neg hj),if_pos rfl] at h6
include ha hk hu in
theorem vP_prod (x y:Nat→Int):∀ k,EqP p n (vP n T u (Pr n T x y) k) (Pr n T (vP n T u x k) (vP n T u y k))
  | 0=>(hu u).symm
  | k + 1 => by
    refine EqP.trans (EqP.mul (vP_prod x y k) (EqP.refl _)) ?_
    refine EqP.trans (fun c hc=>Pr_assoc ha (vP n T u x k) (vP n T u y k) (Pr n T x y) hc) ?_
    refine EqP.trans (EqP.mul (EqP.refl _) ?_) (EqP.symm fun c hc=>Pr_assoc ha (vP n T u x k) x (Pr n T (vP n T u y k) y) hc)
    refine EqP.trans (EqP.symm fun c hc=>Pr_assoc ha (vP n T u y k) x y hc) ?_
    exact EqP.trans (EqP.mul (Pr_comm hk _ _) (EqP.refl y)) fun c hc=>Pr_assoc ha x (vP n T u y k) y hc
theorem nil_dot {K:Nat}(hK:0<K)(h:LinK p n T u K){M:Nat→Nat→Nat}(hp:2≤p)(hM:∀ r,r<n→∀ c,c<n→(p:Int)∣(M r c:Int) - vP n T u (eb c) K r)(b:Nat→Int):Ker p n M n b↔EqP p n (vP n T u b K) (fun _=>0):=by
  let v:Nat→Nat:=fun c=>(b c%(p:Int)).toNat
  have hv:∀ c,(v c:Int)=b c%(p:Int):=fun c=>Int.toNat_of_nonneg (Int.emod_nonneg _ (by omega));have hvp:∀ c,c<n→v c<p:=fun c _=>by
    have:=Int.emod_lt_of_pos (b c) (show (0:Int)<p by omega);have:=hv c
    omega
  have hbv:EqP p n b (ci v):=fun c _=>by
    have:=Int.dvd_neg.2 (emod_dvd (p:Int) (b c));rw [← hv c,Int.neg_sub] at this;exact this
  have key:∀ r,r<n→(p:Int)∣vP n T u b K r - dot n (ci (M r)) b:=fun r hr=>by
    have h1:(p:Int)∣vP n T u b K r - sI (fun i=>(v i:Int)*vP n T u (eb i) K r) n:=EqP.trans (vP_congr (EqP.trans hbv fun c hc=>by unfold cutV ci;rw [if_pos hc,Int.sub_self];exact ⟨0,by simp⟩) K) (lin_cut hK h v hvp n (Nat.le_refl _)) r hr;have h2:(p:Int)∣sI (fun i=>(v i:Int)*(M r i:Int)) n - sI (fun i=>(v i:Int)*vP n T u (eb i) K r) n:=sI_mod fun i hi=>hM r hr i hi;have h3:(p:Int)∣sI (fun i=>(M r i:Int)*b i) n - sI (fun i=>(M r i:Int)*(v i:Int)) n:=sI_mod fun i hi=>hbv i hi;have e:sI (fun i=>(M r i:Int)*(v i:Int)) n=sI (fun i=>(v i:Int)*(M r i:Int)) n:=sI_congr fun c _=>Int.mul_comm _ _;rw [e] at h3;have:=Int.dvd_sub (Int.dvd_sub h1 h2) h3
    rwa [show ∀ A B C D:Int,A - B - (C - B) - (D - C)=A - D from fun A B C D=>by omega] at this
  constructor
  · intro hx r hr
    have:=(dvd_iff_sub (key r hr)).2 (hx r hr)
    rwa [Int.sub_zero]
  · intro hx r hr
    have h4:=hx r hr;rw [Int.sub_zero] at h4;exact (dvd_iff_sub (key r hr)).1 h4
theorem ker_ds {M V:Nat→Nat→Nat}{m r:Nat}(hp:2≤p)(h:IsKer p n M m r V){b:Nat→Int}(hb:Ker p n M m b):DS p n V r b:=by
  obtain ⟨k,E,ld,ld2,h1,h2,h3,h4⟩:=h;have hE:=(h2 b).2 hb;intro x hx;have hx2:=(h4 x).1 hx
  have hs:EqP p n b (fun d=>sI (fun c=>(if isLd k ld c then 0 else b c)*(sol p E k ld c d:Int)) n):=fun d hd=>by
    by_cases e:isLd k ld d
    · obtain ⟨j,hj,rfl⟩:=e
      have hrow:=hE j hj;have e1:∀ c,c<n→(p:Int)∣(if isLd k ld c then 0 else b c)*(sol p E k ld c (ld j):Int) - (if c=ld j then b c else 0)+(E j c:Int)*b c:=fun c hc=>by
        by_cases f:isLd k ld c
        · obtain ⟨i,hi,rfl⟩:=f
          rw [if_pos ⟨i,hi,rfl⟩,Int.zero_mul]
          by_cases g:i=j
          · subst g;rw [if_pos rfl,h1.one i hi];exact ⟨0,by simp;omega⟩
          · rw [if_neg (fun z=>g (h1.inj hi hj z)),h1.zero i j hi hj g];exact ⟨0,by simp⟩
        · have hne:c≠ld j:=fun z=>f ⟨j,hj,z.symm⟩
          rw [if_neg f,if_neg hne,Int.sub_zero];have es:sol p E k ld c (ld j)=(p - E j c)%p:=by
            unfold sol
            rw [if_neg (Ne.symm hne),h1.ldAt_eq hj]
          rw [es];have hEl:=h1.small j hj c hc;have h5:=emod_dvd (p:Int) ((p - E j c:Nat):Int);rw [← Int.natCast_emod,Int.natCast_sub (by omega)] at h5;have h6:=Int.dvd_mul_of_dvd_right (b:=b c) h5;have h7:=Int.dvd_add h6 (Int.dvd_mul_right (p:Int) (b c))
          rwa [Int.mul_sub,Int.mul_sub,Int.mul_comm (b c) (p:Int),Int.mul_comm (b c) (E j c:Int),show ∀ A B C:Int,A - (B - C)+B=A+C from fun A B C=>by omega] at h7
      have e2:=sI_dvd e1;rw [sI_add,← sI_sub,sI_one hd (fun i _ hi=>if_neg hi),if_pos rfl] at e2;have e3:dot n (ci (E j)) b=sI (fun c=>(E j c:Int)*b c) n:=rfl;rw [e3] at hrow;have:=Int.dvd_sub hrow e2
      rwa [show ∀ A B C:Int,A - (C - B+A)=B - C from fun A B C=>by omega] at this
    · show (p:Int)∣b d - sI (fun c=>(if isLd k ld c then 0 else b c)*(sol p E k ld c d:Int)) n
      rw [sI_one hd (fun c hc hcd=>by
        by_cases f:isLd k ld c
        · rw [if_pos f,Int.zero_mul]
        · rw [if_neg f]
          have:sol p E k ld c d=0:=by
            unfold sol
            rw [if_neg (Ne.symm hcd)]
            cases q:ldAt k ld d with
            | none=>rfl
            | some j=>have:=ldAt_some q;exact absurd ⟨j,this.1,this.2⟩ e
          rw [this];simp),if_neg e]
      have:sol p E k ld d d=1:=by unfold sol;rw [if_pos rfl]
      rw [this];exact ⟨0,by simp⟩
  refine (dvd_iff_sub (dot_congr hs)).2 ?_;have e:=dot_sum (n:=n) (fun c d=>(sol p E k ld c d:Int)) (fun c=>if isLd k ld c then 0 else b c) x n;rw [e];refine sI_dvd fun c hc=>?_
  by_cases f:isLd k ld c
  · rw [if_pos f,Int.zero_mul];exact ⟨0,by simp⟩
  · exact Int.dvd_mul_of_dvd_right (hx2 c hc f)
end
end Go.Ech
namespace Go.Ech
open Go.Sw
section
variable {p n : Nat} {T : Nat → Nat → Nat → Nat} {u : Nat → Int}
variable (ha : AssI p n T) (hk : ComI n T) (hu : ∀ y, EqP p n (Pr n T y u) y)
theorem isKer_rref {M V:Nat→Nat→Nat}{m r:Nat}(h:IsKer p n M m r V):∃ ld,Rref p n V r ld:=by
  obtain ⟨k,E,ld,ld2,h1,h2,h3,h4⟩:=h;exact ⟨ld2,h3⟩
structure NilS (p n:Nat) (T:Nat→Nat→Nat→Nat) (u:Nat→Int) (K:Nat) (M:Nat→Nat→Nat):Prop where
  pos:0<K
  big:n≤K
  lin:LinK p n T u K
  map:∀ r,r<n→∀ c,c<n→(p:Int)∣(M r c:Int) - vP n T u (eb c) K r
include ha hk hu in
theorem nil_idl {K R:Nat}{M V:Nat→Nat→Nat}(hp:2≤p)(h:NilS p n T u K M)(hV:IsKer p n M n R V):Idl p n T V R:=fun i hi z=>ker_ds hp hV ((nil_dot h.pos h.lin hp h.map _).2 (EqP.trans (vP_prod ha hk hu _ _ K) (zero_l ((nil_dot h.pos h.lin hp h.map _).1 (ker_row hp hV hi)))))
def SocS (p n:Nat) (T:Nat→Nat→Nat→Nat) (R:Nat) (V:Nat→Nat→Nat) (m:Nat) (M:Nat→Nat→Nat):Prop:=∀ y,Ker p n M m y↔∀ j,j<R→EqP p n (Pr n T y (ci (V j))) (fun _=>0)
include ha hk in
theorem soc_idl {R m R2:Nat}{V M W:Nat→Nat→Nat}(hp:2≤p)(h:SocS p n T R V m M)(hW:IsKer p n M m R2 W):Idl p n T W R2:=fun i hi z=>ker_ds hp hW ((h _).2 fun j hj=>EqP.trans (Pr_right_comm ha hk _ z _) (zero_l ((h _).1 (ker_row hp hW hi) j hj)))
include ha hk hu in
theorem soc_ne {R m R2 L:Nat}{V M W:Nat→Nat→Nat}{e:Nat→Int}(hp:2≤p)(hz:∀ j,j<R→EqP p n (vP n T u (ci (V j)) L) (fun _=>0))(h:SocS p n T R V m M)(hW:IsKer p n M m R2 W)(he:EqP p n (Pr n T e e) e)(hne:¬ EqP p n e (fun _=>0)) :
    ∃ s0,DS p n W R2 s0∧EqP p n (Pr n T s0 e) s0∧¬ EqP p n s0 (fun _=>0):=by
  let Q:Nat→Prop:=fun l=>¬ ∃ w:List Nat,(∀ j,j∈w→j<R)∧w.length=l∧¬ EqP p n (Pr n T e (wdL n T u (fun j=>ci (V j)) w)) (fun _=>0)
  have hbig:Q (R*L+1):=fun ⟨w,hw,hl,hnz⟩=>hnz (zero_r (wd_nil ha hk hu R hz w hw (by omega)));obtain ⟨k,hk1,hk2⟩:=least (P:=Q) _ hbig;have hk0:k≠0:=fun z=>by
    subst z;exact hk1 ⟨[],fun j hj=>by simp at hj,rfl,fun z=>hne ((hu e).symm.trans z)⟩
  have:=hk2 (k - 1) (by omega);obtain ⟨w,hw,hl,hnz⟩:=Classical.not_not.1 this;refine ⟨Pr n T e (wdL n T u (fun j=>ci (V j)) w),ker_ds hp hW ((h _).2 fun j hj=>?_),?_,hnz⟩
  · refine Classical.byContradiction fun hz2=>hk1 ⟨j::w,fun i hi=>?_,by simp;omega,fun z=>hz2 ?_⟩
    · rcases List.mem_cons.1 hi with e1 | hi
      · rw [e1];exact hj
      · exact hw i hi
    · exact EqP.trans (fun c hc=>Pr_assoc ha e _ _ hc) z
  · exact EqP.trans (Pr_right_comm ha hk e _ e) (EqP.mul he (EqP.refl _))
theorem sum_le {f g:Nat→Nat}:∀ {s:Nat},(∀ i,i<s→f i≤g i)→sumT' f s≤sumT' g s
  | 0,_=>Nat.le_refl _
  | s + 1, h => by
    have h1:=sum_le (s:=s) fun i hi=>h i (by omega)
    have h2:=h s (by omega)
    simp only [sumT'];omega
theorem sum_eq {f g:Nat→Nat}:∀ {s:Nat},(∀ i,i<s→f i≤g i)→sumT' f s=sumT' g s→∀ i,i<s→f i=g i
  | 0,_,_,i,hi=>absurd hi (by omega)
  | s + 1, h, e, i, hi => by
    have h1:=sum_le (s:=s) fun i hi=>h i (by omega)
    have h2:=h s (by omega)
    simp only [sumT'] at e
    by_cases q:i=s
    · rw [q];omega
    · exact sum_eq (s:=s) (fun i hi=>h i (by omega)) (by omega) i (by omega)
theorem sum_add {f g:Nat→Nat}:∀ s,sumT' (fun i=>f i+g i) s=sumT' f s+sumT' g s
  | 0=>rfl
  | s+1=>by have:=sum_add (f:=f) (g:=g) s;simp only [sumT'];omega
include ha hk hu in
theorem sym_iff {s K R1 R2 m:Nat}{E:Nat→Nat→Int}{NM W1 SM W2:Nat→Nat→Nat}{MA MN MS:Nat→Nat→Nat→Nat}{rA rN rS:Nat→Nat}(hp:primeN p)
    (hN:NilS p n T u K NM) (hW1:IsKer p n NM n R1 W1) (hS:SocS p n T R1 W1 m SM) (hW2:IsKer p n SM m R2 W2)
    (h1:∀ i,i<s→PrimE p n T u (E i)) (hne:∀ i,i<s→¬ EqP p n (E i) (fun _=>0)) (h0:∀ i j,i<s→j<s→i≠j→EqP p n (Pr n T (E i) (E j)) (fun _=>0)) (hsum:∀ y,EqP p n (Pr n T (sumE E s) y) y)
    (hMA:∀ i,i<s→PrM p n T (E i) idM n (MA i)) (hMN:∀ i,i<s→PrM p n T (E i) W1 R1 (MN i)) (hMS:∀ i,i<s→PrM p n T (E i) W2 R2 (MS i)) (lA:∀ i a c,MA i a c<p) (lN:∀ i a c,MN i a c<p) (lS:∀ i a c,MS i a c<p)
    (hrA:∀ i,i<s→IsRk p n (MA i) n (rA i)) (hrN:∀ i,i<s→IsRk p n (MN i) R1 (rN i)) (hrS:∀ i,i<s→IsRk p n (MS i) R2 (rS i)) :
    (∀ i,i<s→(rS i:Int)=(rA i:Int) - (rN i:Int))↔R2+R1=n:=by
  have hp2:=hp.two;obtain ⟨l1,f1⟩:=isKer_rref hW1;obtain ⟨l2,f2⟩:=isKer_rref hW2;have iA:Idl p n T idM n:=fun i _ z=>ds_id _;have iN:=nil_idl ha hk hu hp2 hN hW1;have iS:=soc_idl ha hk hp2 hS hW2;have sA:=rank_sum ha hk hp (rref_id hp2) iA (fun i hi=>(h1 i hi).1) h0 hMA hrA lA hsum;have sN:=rank_sum ha hk hp f1 iN (fun i hi=>(h1 i hi).1) h0 hMN hrN lN hsum;have sS:=rank_sum ha hk hp f2 iS (fun i hi=>(h1 i hi).1) h0 hMS hrS lS hsum;have hz:∀ j,j<R1→EqP p n (vP n T u (ci (W1 j)) K) (fun _=>0):=fun j hj=>(nil_dot hN.pos hN.lin hp2 hN.map _).1 (ker_row hp2 hW1 hj);have hle:∀ i,i<s→rA i≤rN i+rS i:=fun i hi=>by
    obtain ⟨s0,d1,d2,d3⟩:=soc_ne ha hk hu hp2 hz hS hW2 (h1 i hi).1 (hne i hi);obtain ⟨a,A,hA⟩:=redOf_exists (p:=p) (n:=n) (m:=n) (M:=MA i) hp (lA i);obtain ⟨b,B,hB⟩:=redOf_exists (p:=p) (n:=n) (m:=R1) (M:=MN i) hp (lN i);obtain ⟨c,C,hC⟩:=redOf_exists (p:=p) (n:=n) (m:=R2) (M:=MS i) hp (lS i);rw [← hrA i hi a A hA,← hrN i hi b B hB,← hrS i hi c C hC];refine part_le ha hk hp (h1 i hi).1 iA iN iS (hMA i hi) (hMN i hi) (hMS i hi) hA hB hC d1 d2 fun y hy hy0=>ker_ds hp2 hW1 ((nil_dot hN.pos hN.lin hp2 hN.map _).2 ?_);obtain ⟨m,hm⟩:=prim_nil ha hk hu hp (h1 i hi) hy d2 d3 hy0;exact nil_le ha hu hp hm hN.big
  have hadd:=sum_add (f:=rN) (g:=rS) s
  constructor
  · intro h
    have e:sumT' rA s=sumT' (fun i=>rN i+rS i) s:=Nat.le_antisymm (sum_le hle) (sum_le fun i hi=>by have:=h i hi;have:=hle i hi;omega)
    omega
  · intro h i hi
    have:=sum_eq hle (by omega) i hi
    omega
end
end Go.Ech
