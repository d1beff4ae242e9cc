import Derived.Test.YtkcneleabbjkaaaA25
set_option linter.unusedVariables false
set_option linter.unusedSimpArgs false
namespace Go.Proofs.Ytkcneleabbjkaaa
open Go Go.RowKit Go.Sw Go.Ech
open Classical
section
variable {P N : Int} {T U : Nat -> Nat -> Nat -> Nat} {f uu : Nat -> Nat} {p n : Nat}
end
def R7 (P N:Int) (T:Nat->Nat->Nat->Nat) (f:Nat->Nat) (x y:Nat->Nat) (r e:Int):Prop:=e=0->∃ q:Nat->Nat,(∀ w,CallsR Try.prog 10 #[.agg (AD P N T f),.agg (AQ x),.agg (AQ y)] w (fun u _=>u = .tuple #[.agg (AQ q),.int .i64 0]))/\(∀ w,CallsR Try.prog 27 #[.agg (AD P N T f),.agg (AQ q)] w (fun u _=>u = .tuple #[.int .i64 r,.int .i64 0]))
def SD (P N:Int) (T:Nat->Nat->Nat->Nat) (f:Nat->Nat) (m1 n1 m2 n2:Nat) (F V W:Nat->Nat->Nat) (e1 e2:Int):Prop:=(e1≠0->m1=0)/\(e1=0->∃ p n:Nat,m1=n/\m2=n/\n2=n/\e2=0/\(P=(p:Int)/\N=(n:Int)/\2<=p/\p<=13/\0<n/\n<=6)/\
  (∀ i j,i<n->j<n->(∀ w,CallsR Try.prog 59 #[.agg (AD P N T f),.agg (AQ (fun c=>if c=i then 1 else 0)),.agg (AQ (V j))] w (fun u _=>u = .tuple #[.int .i64 (dl i j:Int),.int .i64 0])))/\(∀ i j,i<n->j<n->(∀ w,CallsR Try.prog 59 #[.agg (AD P N T f),.agg (AQ (fun c=>if c=i then 1 else 0)),.agg (AQ (fun c=>if c=j then 1 else 0))] w (fun u _=>u = .tuple #[.int .i64 (F i j:Int),.int .i64 0])))/\(∀ i j,i<n->j<n->(∀ w,CallsR Try.prog 59 #[.agg (AD P N T f),.agg (AQ (fun c=>if c=j then 1 else 0)),.agg (AQ (W i))] w (fun u _=>u = .tuple #[.int .i64 (F i j:Int),.int .i64 0]))))
theorem QH {p n:Nat}{S:Nat->Nat->Nat->Nat}(hn:n<=6)(h:Gh p n S)(hp:0<p)(ho:∀ i j k,n<=k->S i j k=0):QO p n S:=fun i hi j hj k hk c hc=>by
  by_cases q:c<n
  . refine Nt (Bl (K5 _ _ c q) (Bl ?_ (GI (K5 _ _ c q)))) (by unfold timesS timesV;rw [if_pos q];exact Nat.mod_lt _ hp) (by unfold timesS timesV;rw [if_pos q];exact Nat.mod_lt _ hp)
    rw [Ph,Ph]
    have e1:Pr n S (ci (S i j)) (fun c=>(dl k c:Int)) c=sI (fun a=>(S i j a:Int)*(S a k c:Int)) n:=by
      rw [KI];exact Aw fun a _=>congrArg _ (LV hk)
    have e2:Pr n S (fun c=>(dl i c:Int)) (ci (S j k)) c=sI (fun b=>(S j k b:Int)*(S i b c:Int)) n:=Ql i hi _ c;rw [e1,e2];exact h i hi j hj k hk c q
  . unfold timesS;rw [if_neg q,if_neg q]
theorem Lc {p n:Nat}{S:Nat->Nat->Nat->Nat}{g u:Nat->Nat}(hP:BT (p:Int))(hp:primeN p)(hn0:0<n)(hn:n<=6)(hlt:∀ i j k,S i j k<p)(ho:∀ i j k,n<=i\/n<=j\/n<=k->S i j k=0)(hg:okV (p:Int) (n:Int) g)(ha:Gh p n S)(hu:UnitI p n S u):B4 (p:Int) (n:Int) S g:=by
  refine ⟨⟨hP,⟨by omega,by omega⟩,hg,fun i _ j _ k _=>?_⟩,?_⟩
  . have h1:=hlt i j k
    unfold GW
    rintro (h | ⟨h,h2⟩)
    . omega
    . refine h2 (ho i j k ?_)
      by_cases r:(i:Int)≥(n:Int)\/(j:Int)≥(n:Int)
      . omega
      . rw [if_neg r] at h;omega
  . show PT p n (trunc n S)
    have e:trunc n S=S:=funext fun i=>funext fun j=>funext fun k=>by
      unfold trunc
      by_cases q:i<n/\j<n/\k<n
      . rw [if_pos q]
      . rw [if_neg q,ho i j k (by omega)]
    rw [e];exact ⟨QH hn ha (by have:=hp.two;omega) (fun i j k h=>ho i j k (.inr (.inr h))),u,hu⟩
theorem Ic {P N:Int}{T:Nat->Nat->Nat->Nat}{f:Nat->Nat}(h:B4 P N T f):∃ p n U uu,Good P N T f p n U uu/\∀ i j k,n<=i\/n<=j\/n<=k->U i j k=0:=by
  have hs:=h.1;have hp0:=C4 hs.1;have hn:=hs.2.1;have e1:(P.toNat:Int)=P:=by omega
  have e2:(N.toNat:Int)=N:=by omega
  obtain ⟨ha,uu,hu⟩:=h.2;refine ⟨P.toNat,N.toNat,trunc N.toNat T,uu,⟨e1,e2,?_,GB hs.1,by omega,by omega,Gl hs,F6,ha,hu,?_⟩,fun i j k q=>by unfold trunc;rw [if_neg (by omega)]⟩
  . rw [e1,e2];exact FT hs
  . rw [e1,e2];exact ⟨EX hs,by rw [IH];exact h.2⟩
theorem GE {p n:Nat}{U:Nat->Nat->Nat->Nat}{f:Nat->Nat}(hp:primeN p)(hn0:0<n)(hn:n<=6):D5 p n U f↔TK p n (formM p n U f):=by
  have hp2:=hp.two;have dt:∀ (x:Nat->Int) i,(∀ d,n<=d->d<6->x d=0)->dot 6 (ci (formM p n U f i)) x=sI (fun k=>(formM p n U f i k:Int)*x k) n:=fun x i h0=>by
    unfold dot
    rw [HQ hn (fun c h1 h2=>by rw [h0 c h1 h2];simp)]
  constructor
  . intro h x hx c hc
    have h0:∀ d,n<=d->d<6->(fun d=>if d<n then x d else 0) d=0:=fun d h1 _=>if_neg (by omega);have:=FullK.zero hp2 hn (fun i c h=>JW h) h (x:=fun d=>if d<n then x d else 0) (fun i hi=>by
      rw [dt _ i h0,Aw (g:=fun k=>(formM p n U f i k:Int)*x k) (fun k hk=>by rw [if_pos hk])];exact hx i hi) h0 hc
    simpa [hc] using this
  . intro h
    exact OF hp hn0 hn (fun i c h=>JW h) (Ih (by omega)) fun x hx h0 c hc=>h x (fun i hi=>by rw [← dt x i h0];exact hx i hi) c hc
section
variable {P N Q M : Int} {T V : Nat -> Nat -> Nat -> Nat} {f h : Nat -> Nat} {p n m : Nat} {U1 U2 : Nat -> Nat -> Nat -> Nat} {u1 u2 : Nat -> Nat}
theorem Good.prP (G:Good P N T f p n U1 u1):BT (p:Int):=G.alg.1.1
theorem Good.okf (G:Good P N T f p n U1 u1):okV (p:Int) (n:Int) f:=G.alg.1.2.2.1
theorem Good.flt (G:Good P N T f p n U1 u1){i:Nat}(hi:i<6):f i<p:=by have:=G.okf i hi;unfold GW at this;omega
theorem Good.fout (G:Good P N T f p n U1 u1){i:Nat}(hi:i<6)(h:n<=i):f i=0:=by have:=G.okf i hi;unfold GW at this;omega
theorem PV (G1:Good P N T f p n U1 u1)(hz1:∀ i j k,n<=i\/n<=j\/n<=k->U1 i j k=0):SumT n m U1 U2 (sumT n m U1 U2 m 0 0):=by
  refine ⟨fun i j k hi hj hk=>?_,fun i j k hi hj hk=>?_,fun i j k hi hj hk h1 h2=>?_⟩
  . unfold sumT;rw [if_neg (by omega)]
  . unfold sumT;rw [if_pos (by omega),show n+i - n=i by omega,show n+j - n=j by omega,show n+k - n=k by omega]
  . unfold sumT;rw [if_neg (by omega)];exact hz1 i j k (by omega)
theorem Om (G1:Good P N T f p n U1 u1)(hz1:∀ i j k,n<=i\/n<=j\/n<=k->U1 i j k=0)(G2:Good Q M V h p m U2 u2)(hZ:n+m<=6):B4 (p:Int) ((n+m:Nat):Int) (sumT n m U1 U2 m 0 0) (sumF n f h m):=by
  have hS:=PV (m:=m) (U2:=U2) G1 hz1;refine Lc (u:=fun c=>if c<n then u1 c else if c<n+m then u2 (c - n) else 0) G1.prP G1.hp (by have:=G1.hn0;omega) hZ (fun i j k=>?_) (fun i j k q=>?_) (fun i hi=>?_) (Ol hS (HF G1.hn G1.ass) (HF G2.hn G2.ass)) (NY hS G1.unit G2.unit (fun c hc=>if_pos hc) (fun c hc=>?_) (fun c=>?_) (fun c hc=>?_))
  . unfold sumT;split
    . exact G2.lt _ _ _
    . exact G1.lt _ _ _
  . unfold sumT;rw [if_neg (by omega)];exact hz1 i j k (by omega)
  . unfold GW sumF
    split
    . have:=G2.flt (i:=i - n) (by omega);omega
    . have:=G1.flt hi
      by_cases q:n<=i
      . have:=G1.fout hi q;omega
      . omega
  . show (if n+c<n then u1 (n+c) else if n+c<n+m then u2 (n+c - n) else 0)=u2 c
    rw [if_neg (by omega),if_pos (by omega),show n+c - n=c by omega]
  . show (if c<n then u1 c else if c<n+m then u2 (c - n) else 0)<p
    split
    . exact G1.unit.small c
    . split
      . exact G2.unit.small _
      . exact G1.p0
  . show (if c<n then u1 c else if c<n+m then u2 (c - n) else 0)=0
    rw [if_neg (by omega),if_neg (by omega)]
theorem NZ (G1:Good P N T f p n U1 u1)(hz1:∀ i j k,n<=i\/n<=j\/n<=k->U1 i j k=0)(G2:Good Q M V h p m U2 u2)(hZ:n+m<=6):D5 p (n+m) (sumT n m U1 U2 m 0 0) (sumF n f h m)↔D5 p n U1 f/\D5 p m U2 h:=by
  have hS:=PV (m:=m) (U2:=U2) G1 hz1;have ho:∀ i j k,n+m<=k->sumT n m U1 U2 m 0 0 i j k=0:=fun i j k q=>by unfold sumT;rw [if_neg (by omega)];exact hz1 i j k (by omega)
  have g1:∀ c,c<n->sumF n f h m c=f c:=fun c hc=>by unfold sumF;rw [if_neg (by omega)]
  have g2:∀ c,c<m->sumF n f h m (n+c)=h c:=fun c hc=>by unfold sumF;rw [if_pos (by omega),show n+c - n=c by omega]
  have hf1:∀ i k,k<n+m->(p:Int)∣(formM p (n+m) (sumT n m U1 U2 m 0 0) (sumF n f h m) i k:Int) - (sI (fun c=>(f c:Int)*(sumT n m U1 U2 m 0 0 i k c:Int)) n+sI (fun c=>(h c:Int)*(sumT n m U1 U2 m 0 0 i k (n+c):Int)) m):=fun i k hk=>by
    refine Bl (Eu hZ ho hk) (D7 ?_)
    unfold fI
    rw [Cb];rw [Aw (g:=fun c=>(f c:Int)*(sumT n m U1 U2 m 0 0 i k c:Int)) (fun c hc=>by rw [g1 c hc]),Aw (n:=m) (g:=fun c=>(h c:Int)*(sumT n m U1 U2 m 0 0 i k (n+c):Int)) (fun c hc=>by rw [g2 c hc])]
  rw [GE G1.hp (by have:=G1.hn0;omega) hZ,GE G1.hp G1.hn0 G1.hn,GE G2.hp G2.hn0 G2.hn];have z0:∀ (a:Nat),(a:Int)*((0:Nat):Int)=0:=fun a=>by simp
  refine Pt (fun i k hi hk=>?_) (fun i k hi hk=>?_) (fun i k hi hk=>?_) (fun i k hi hk=>?_)
  . refine Bl (hf1 i k (by omega)) (Bl (D7 ?_) (GI (Eu G1.hn G1.out hk)))
    rw [Aw (g:=fun c=>(f c:Int)*(U1 i k c:Int)) (fun c hc=>by rw [hS.one i k c hi hk hc]),Bn (n:=m) (fun c hc=>by rw [hS.zero i k (n+c) (by omega) (by omega) (by omega) (by omega) (by omega)];exact z0 _),Int.add_zero];rfl
  . refine Bl (hf1 (n+i) (n+k) (by omega)) (Bl (D7 ?_) (GI (Eu G2.hn G2.out hk)))
    rw [Bn (n:=n) (fun c hc=>by rw [hS.zero (n+i) (n+k) c (by omega) (by omega) (by omega) (by omega) (by omega)];exact z0 _),Int.zero_add,Aw (n:=m) (g:=fun c=>(h c:Int)*(U2 i k c:Int)) (fun c hc=>by rw [hS.two i k c hi hk hc])];rfl
  . have:=hf1 i (n+k) (by omega)
    rw [Bn (n:=n) (fun c hc=>by rw [hS.zero i (n+k) c (by omega) (by omega) (by omega) (by omega) (by omega)];exact z0 _),Bn (n:=m) (fun c hc=>by rw [hS.zero i (n+k) (n+c) (by omega) (by omega) (by omega) (by omega) (by omega)];exact z0 _),Int.add_zero,Int.sub_zero] at this;exact this
  . have:=hf1 (n+i) k (by omega)
    rw [Bn (n:=n) (fun c hc=>by rw [hS.zero (n+i) k c (by omega) (by omega) (by omega) (by omega) (by omega)];exact z0 _),Bn (n:=m) (fun c hc=>by rw [hS.zero (n+i) k (n+c) (by omega) (by omega) (by omega) (by omega) (by omega)];exact z0 _),Int.add_zero,Int.sub_zero] at this;exact this
theorem NV (hm0:0<m):∀ i j k,i<n*m->j<n*m->k<n*m->(p:Int)∣(B6 p m (n*m) U1 U2 (n*m) 0 0 i j k:Int) - (U1 (i / m) (j / m) (k / m):Int)*(U2 (i%m) (j%m) (k%m):Int):=fun i j k hi hj hk=>by
  unfold B6
  rw [if_pos ⟨hi,hj,hk,.inl hi⟩,← Int.natCast_mul]
  exact RE _ _
theorem PU {a b:Nat->Nat}{k:Nat}(hk:k<n*m):(p:Int)∣(CE p m (n*m) a b k:Int) - (a (k / m):Int)*(b (k%m):Int):=by
  unfold CE
  rw [if_pos hk,← Int.natCast_mul];exact RE _ _
theorem Ok (G1:Good P N T f p n U1 u1)(G2:Good Q M V h p m U2 u2)(hZ:n*m<=6):B4 (p:Int) ((n*m:Nat):Int) (B6 p m (n*m) U1 U2 (n*m) 0 0) (CE p m (n*m) f h):=by
  have hvl:∀ (a b:Nat->Nat) k,CE p m (n*m) a b k<p:=fun a b k=>by
    unfold CE;split
    . exact Nat.mod_lt _ G1.p0
    . exact G1.p0
  refine Lc (u:=CE p m (n*m) u1 u2) G1.prP G1.hp (Nat.mul_pos G1.hn0 G2.hn0) hZ (fun i j k=>?_) (fun i j k q=>?_) (fun i hi=>?_) (Oj (NV G2.hn0) (HF G1.hn G1.ass) (HF G2.hn G2.ass)) (NS (NV G2.hn0) G1.unit G2.unit (fun a ha=>PU ha) (hvl _ _) (fun c hc=>?_))
  . unfold B6;split
    . exact Nat.mod_lt _ G1.p0
    . exact G1.p0
  . unfold B6;rw [if_neg (by omega)]
  . have:=hvl f h i
    unfold GW
    by_cases q:n*m<=i
    . have e:CE p m (n*m) f h i=0:=by unfold CE;rw [if_neg (by omega)]
      omega
    . omega
  . unfold CE;rw [if_neg (by omega)]
theorem NU (G1:Good P N T f p n U1 u1)(G2:Good Q M V h p m U2 u2)(hZ:n*m<=6):D5 p (n*m) (B6 p m (n*m) U1 U2 (n*m) 0 0) (CE p m (n*m) f h)↔D5 p n U1 f/\D5 p m U2 h:=by
  have ho:∀ i j k,n*m<=k->B6 p m (n*m) U1 U2 (n*m) 0 0 i j k=0:=fun i j k q=>by unfold B6;rw [if_neg (by omega)]
  rw [GE G1.hp (Nat.mul_pos G1.hn0 G2.hn0) hZ,GE G1.hp G1.hn0 G1.hn,GE G2.hp G2.hn0 G2.hn];refine Pm G1.hn0 G2.hn0 fun i k hi hk=>?_;obtain ⟨k1,k2⟩:=D6 hk;refine Bl (Eu hZ ho hk) ?_;have h1:(p:Int)∣fI (n*m) (CE p m (n*m) f h) (fun c=>(B6 p m (n*m) U1 U2 (n*m) 0 0 i k c:Int)) - sI (fun a=>(f a:Int)*(U1 (i / m) (k / m) a:Int)) n*sI (fun b=>(h b:Int)*(U2 (i%m) (k%m) b:Int)) m:=
    Fj (x:=fun a=>(f a:Int)*(U1 (i / m) (k / m) a:Int)) (y:=fun b=>(h b:Int)*(U2 (i%m) (k%m) b:Int)) fun a ha=>Bl (DP (PU ha) (NV G2.hn0 i k a hi hk ha)) (D7 (by simp only [Int.mul_assoc,Int.mul_left_comm]))
  exact Bl h1 (GI (DP (Eu G1.hn G1.out k1) (Eu G2.hn G2.out k2)))
end
theorem Ix (p n m b0 c0:Nat)(cs0:Array Value)(D0:A7)(β0 κ0:Nat->Nat)(C0:Nat->Array Value)(M:Nat->Nat->Nat)(w:World)(hp13:p<=13)(hn0:0<n)(hn:n<=6)(hm0:0<m)(hm2:m<1000)(hM1:∀ i c,M i c<p)(hD0:∀ b cs,(b,cs)∈D0->Blk w b cs)(hb0:(b0,cs0)∈D0)(hg0:∀ i,i<m->cs0[0+i*1]? = some (.slice (some ⟨β0 i,0,none⟩) n (κ0 i)))(hR0:RowsD D0 n m β0 κ0 C0 (fun i c=>.int .i64 (M i c:Int))) :
    CallsR Try.prog 158 #[.slice (some ⟨b0,0,none⟩) m c0] w (fun u w'=>OwnSl 6 w m (fun c=>.int .u8 (((C5 n M) (c / 6) (c%6):Nat):Int)) u w'):=by
  refine Al [.slice (some ⟨b0,0,none⟩) m c0] Try.func158 rfl Try.ntmps158 rfl fun a O=>?_;have J:Ag w w [none,none,none] D0:=MemX.startD w 3 _ hD0;change Fr 39 a [(0,.slice (some ⟨b0,0,none⟩) m c0)] at O;have hDD:∀ x∈D0,x∈D0:=fun _ h=>h;refine sr<|ag O rfl rfl fun a O=>ns<|Ar O (BH 0 J O rfl Mj) rfl ?_;rintro _ w' a ⟨b1,rfl,J,-⟩ O;refine ag O rfl rfl fun a O=>nt<|sq<|sr<|ag O rfl rfl fun a O=>nt<|wp_block ?_;change Ag _ _ [some (b1,#[]),_,_] _ at J;refine Av (fun (kk:Nat) a w'=>kk<=m/\(True)/\∃ (u3_1:Value) (e3_1:Option (Nat×Array Value)),Sl 6 u3_1 e3_1 (kk) (fun c=>.int .u8 (((C5 n M) (c / 6) (c%6):Nat):Int))/\Fr 39 a [(0,.slice (some ⟨b0,0,none⟩) m c0),(2,.slice none 0 0),(4,.int .i64 (kk:Int)),(3,u3_1)]/\Ag w w' [e3_1,none,none] D0) (fun kk=>m - kk) 0 ?_ ?_
  . refine ⟨by omega,trivial,(.slice (some ⟨b1,0,none⟩) 0 0),(some (b1,#[])),(Sl.empty 6 _ _),O.sub _ (by repeat' constructor),?_⟩
    exact J
  clear O J;rintro gi a w' ⟨hgi,hinv1,u3_1,e3_1,hH,O,J⟩;refine sq<|sr<|mv O rfl rfl fun a O=>mv O rfl rfl fun a O=>st O (B2 Ds O rfl) rfl fun a O=>st O (A0 O rfl rfl) rfl fun a O=>nt<|Ab O rfl (fun h2=>?_) (fun h2=>?_)
  . refine wp_skip ?_
    refine tN<|sq<|wp_block<|sr<|st O (Bo CO) rfl fun a O=>Ar O (Ah 1 J BE) rfl ?_;rintro _ w' a ⟨b3,rfl,J,-⟩ O;change Ag _ _ [_,some (b3,A1 6 (fun _=>.int .u8 (0))),_] _ at J;refine BQ O (AJ 1 J rfl A3 O rfl rfl (by first | exact At | exact cells_one | (refine Bd fun _ _=>?_;first | rfl | (split<;>rfl))) (by simp only [Aa,AL,AS]) (by simp only [Aa,AL,AS]<;>omega) (AH _ _ (by simp only [Aa,AL,AS]))) ?_;intro _ w' a J O;refine nt<|sq<|sr<|ag O rfl rfl fun a O=>nt<|wp_block ?_;change Ag _ _ [_,some (b3,A1 6 (fun _=>.int .u8 (0))),_] _ at J;refine Av (fun (kk:Nat) a w'=>kk<=n/\(True)/\Fr 39 a [(0,.slice (some ⟨b0,0,none⟩) m c0),(2,.slice none 0 0),(4,.int .i64 (gi:Int)),(3,u3_1),(8,.int .i64 (gi:Int)),(9,.slice (some ⟨b0,0,none⟩) m c0),(10,.int .i64 (m:Int)),(11,.bool (decide (((gi:Int):Int)<(m:Int)))),(14,.agg (A1 6 (fun _=>.int .u8 (0)))),(5,ptr b3 (0)),(6,.int .i64 (kk:Int))]/\Ag w w' [e3_1,some (b3,AQ (fun c=>if c<kk then M gi c else 0)),none] D0) (fun kk=>n - kk) 0 ?_ ?_
    . refine ⟨by omega,trivial,O.sub _ (by repeat' constructor),?_⟩
      exact J.rowc 1 rfl (GH (m:=6) (f:=fun _=>0) fun c hc=>by simp)
    clear O J;rintro gj a w' ⟨hgj,hinv2,O,J⟩;have hMgj:=hM1 gi gj;refine sq<|sr<|mv O rfl rfl fun a O=>mv O rfl rfl fun a O=>mv O rfl rfl fun a O=>st O (Ak (i:=gi) CG O rfl rfl rfl (by omega)) rfl fun a O=>st O (AP CH O rfl (J.fzm (hDD _ hb0)) (hg0 (gi) (by omega))) rfl fun a O=>st O (B2 Dr O rfl) rfl fun a O=>st O (A0 O rfl rfl) rfl fun a O=>nt<|Ab O rfl (fun h4=>?_) (fun h4=>?_)
    . refine wp_skip ?_
      refine tN<|sq<|wp_block<|wp_region_lit<|mv O rfl rfl fun a O=>mv O rfl rfl fun a O=>mv O rfl rfl fun a O=>st O (Ak (i:=gi) CG O rfl rfl rfl (by omega)) rfl fun a O=>st O (AP CH O rfl (J.fzm (hDD _ hb0)) (hg0 (gi) (by omega))) rfl fun a O=>mv O rfl rfl fun a O=>st O (Ak (i:=gj) Bs O rfl rfl rfl (by omega)) rfl fun a O=>st O (AP AX O rfl (J.fzm (hDD _ (hR0.mem (gi) (by omega)))) (hR0.get (i:=gi) (by omega) (gj) (by omega))) rfl fun a O=>st O (A9 B8 B9 O rfl (wrap_u8 (by omega) (by have:=hM1 gi gj;omega))) rfl fun a O=>st O (AF A4 O rfl rfl rfl (by omega)) rfl fun a O=>BQ O (Az 1 J rfl Ai O rfl rfl rfl (by first | omega | (simp only [Aa,AL,AS]<;>omega) | (simp only [Array.size_setIfInBounds];omega) | simp)) ?_;intro _ w' a J O;change Ag _ _ [_,some (b3,(AQ (fun c=>if c<gj then M gi c else 0)).setIfInBounds (0+(gj)*1) (.int .u8 ((M (gi) (gj):Int)))),_] _ at J;refine wpList_nil<|iN<|tN<|wp_region_lit<|mv O rfl rfl fun a O=>st O (Ap O rfl rfl (Af (gj) (1) (by omega))) rfl fun a O=>ag O rfl rfl fun a O=>nt<|⟨gj+1,⟨by omega,trivial,O.sub _ (by repeat' constructor),?_⟩,by omega⟩;refine J.rowc 1 rfl (IB (m:=6) (k:=gj) (f:=fun c=>if c<gj then M gi c else 0) (g:=fun c=>if c<gj+1 then M gi c else 0) (by omega) (by simp) (fun c hc he=>?_));have e0:(c<gj+1)=(c<gj):=by apply propext;omega
      simp only [e0]
    obtain rfl:n=gj:=by omega
    have J:=J.rowc (cs':=AQ ((C5 n M) gi)) 1 rfl (GH (m:=6) (f:=fun c=>if c<n then M gi c else 0) (g:=(C5 n M) gi) fun c hc=>rfl);refine wp_exit<|tX<|tX<|Am<|tN<|wp_region_lit<|mv O rfl rfl fun a O=>st O (AE Aq O rfl (J.row 1 rfl) (by simp only [Aa,AL,AS]<;>omega) (whole (by simp only [Aa,AL,AS]))) rfl fun a O=>Ar O (BH (vs:=[(0,.agg (AQ ((C5 n M) gi)))]) 2 J O (CD O rfl) (fun w=>Hl ((C5 n M) gi) w)) rfl ?_;rintro _ w' a ⟨b5,rfl,J,-⟩ O;change Ag w w' [e3_1,some (b3,AQ ((C5 n M) gi)),some (b5,Gj 1 (Cj [((C5 n M) gi)]))] D0 at J;refine Ar O (Bg (k:=0) (N:=gi) (m:=1) (f:=(fun c=>.int .u8 (((C5 n M) (c / 6) (c%6):Nat):Int))) (g:=fun q=>.int .u8 ((((((C5 n M) gi)) q:Nat)):Int)) KT rfl (by decide) J rfl O rfl rfl hH (fun q hq=>((J.row 2 rfl).cell _).trans (JB q hq)) (fun _ _=>rfl) (by decide) (by unfold maxLen;omega) (by omega)) rfl ?_;rintro u6 w' a ⟨e7,J,hs8⟩ O;change Ag w w' [e7,some (b3,AQ ((C5 n M) gi)),some (b5,Gj 1 (Cj [((C5 n M) gi)]))] D0 at J;refine ag O rfl rfl fun a O=>wpList_nil<|iN<|tN<|wp_region_lit<|mv O rfl rfl fun a O=>st O (Ap O rfl rfl (Af (gi) (1) (by omega))) rfl fun a O=>ag O rfl rfl fun a O=>wpList_nil<|tN ?_;have J:=J.drop 1;have J:=J.drop 2;refine ⟨gi+1,⟨by omega,trivial,(u6),(e7),(Sl.snoc6 (N:=gi) (F:=(fun c=>.int .u8 (((C5 n M) (c / 6) (c%6):Nat):Int))) (G:=fun q=>.int .u8 (((C5 n M) gi q:Nat):Int)) hs8 (fun q hq=>by rw [show (gi*6+q) / 6=gi by omega,show (gi*6+q)%6=q by omega])),O.sub _ (by repeat' constructor),?_⟩,by omega⟩;exact J
  obtain rfl:m=gi:=by omega
  refine wp_exit<|tX<|tX<|Am<|tN<|sr<|mv O rfl rfl fun a O=>ag O rfl rfl fun a O=>nt<|wp_ret<|BC rfl O.defers (Ad O rfl) ⟨_,rfl,J.below,?_⟩;exact OwnSl.pos J (k:=0) rfl hH hm0
theorem Mv {b m:Nat}{f:Nat->Nat}(h:m<=maxLen):SlAt 1 (.slice (some ⟨b,0,none⟩) m m) (some (b,Ce m f)) m b m (Ce m f) (fun c=>.int .i64 (f c:Int)):=
  ⟨rfl,rfl,Nat.le_refl _,h,by rw [Nat.mul_one];exact BM _ _,fun i hi=>Eo rfl (by omega)⟩
theorem QD {w0 w w':World}{L:Own}{D:A7}{p N m:Nat}{M:Nat->Nat->Nat}{u:Value}(J:MemX [] w0 w L D)(h:∃ k E ld,Rref p N E k ld/\(∀ x,Ker p N E k x↔Ker p N M m x)/\(∀ i c,E i c<p)/\k<=m/\RowsOut w w' N k (fun i c=>.int .i64 (E i c:Int)) u) :
    ∃ k E ld,Rref p N E k ld/\(∀ x,Ker p N E k x↔Ker p N M m x)/\(∀ i c,E i c<p)/\k<=m/\RowsOut w0 w' N k (fun i c=>.int .i64 (E i c:Int)) u:=by
  obtain ⟨k,E,ld,h1,h2,h3,h4,h5⟩:=h;exact ⟨k,E,ld,h1,h2,h3,h4,IL J.bel.size h5⟩
theorem JO {p k:Nat}{E S:Nat->Nat->Nat}{ld:Nat->Nat}:Ir p 0 E k ld S:=fun c hc=>absurd hc (by omega)
theorem F8 {p k c:Nat}{E S:Nat->Nat->Nat}{ld:Nat->Nat}(h:Ir p c E k ld S)(hl:CI k ld c):Ir p (c+1) E k ld S:=fun d hd hf e=>by
  by_cases hc:d=c
  . subst hc;exact absurd hl hf
  . exact h d (by omega) hf e
theorem F9 {p k c:Nat}{E S:Nat->Nat->Nat}{ld:Nat->Nat}(h:Ir p c E k ld S):Ir p (c+1) E k ld (upE S (nf k ld c) (sol p E k ld c)):=fun d hd hf e=>by
  unfold upE
  by_cases hc:d=c
  . subst hc;rw [if_pos rfl]
  . have:=Ke (k:=k) (ld:=ld) (show d<c by omega) hf
    rw [if_neg (by omega)];exact h d (by omega) hf e
theorem Fz {p m:Nat}{S:Nat->Nat->Nat}{r:Nat->Nat}(h:∀ i c,S i c<p)(hr:∀ c,r c<p):∀ i c,upE S m r i c<p:=fun i c=>by
  unfold upE;split
  . exact hr c
  . exact h i c
def Oh (p:Nat) (E:Nat->Nat->Nat) (k:Nat) (ld:Nat->Nat) (c q d:Nat):Nat:=if d<q then sol p E k ld c d else if d=c then 1 else 0
theorem Nq {p k c q:Nat}{E:Nat->Nat->Nat}{ld:Nat->Nat}(hl:0<lv ld k q)(hne:q≠c)(d:Nat):(if d=q then (p - E (lv ld k q - 1) c)%p else Oh p E k ld c q d)=Oh p E k ld c (q+1) d:=by
  unfold Oh
  by_cases e:d=q
  . subst e;rw [if_pos rfl,if_pos (by omega),Ng hl hne]
  . have e0:(d<q+1)=(d<q):=by apply propext;omega
    simp only [if_neg e,e0]
theorem PX {p k c q:Nat}{E:Nat->Nat->Nat}{ld:Nat->Nat}(hl:¬ 0<lv ld k q)(d:Nat):Oh p E k ld c q d=Oh p E k ld c (q+1) d:=by
  unfold Oh
  by_cases e:d=q
  . subst e;rw [if_neg (Nat.lt_irrefl d),if_pos (Nat.lt_succ_self d),Nh hl]
  . have e0:(d<q+1)=(d<q):=by apply propext;omega
    simp only [e0]
theorem Ac {m:Nat}{f:Nat->Nat}:(Ce m f).size=m:=BM _ _
theorem J2 (p n m b0 c0:Nat)(cs0:Array Value)(D0:A7)(β0 κ0:Nat->Nat)(C0:Nat->Array Value)(M:Nat->Nat->Nat)(w:World)(hp:primeN p)(hn0:0<n)(hn:n<=6)(hm2:m<1000)(hM1:∀ i c,M i c<p)(hD0:∀ b cs,(b,cs)∈D0->Blk w b cs)(hb0:(b0,cs0)∈D0)(hg0:∀ i,i<m->cs0[0+i*1]? = some (.slice (some ⟨β0 i,0,none⟩) n (κ0 i)))(hR0:RowsD D0 n m β0 κ0 C0 (fun i c=>.int .i64 (M i c:Int)))(hne:∀ k E ld,Rref p n E k ld->(∀ x,Ker p n E k x↔Ker p n M m x)->0<nf k ld n) :
    CallsR Try.prog 159 #[.int .i64 (p:Int),.int .i64 (n:Int),.slice (some ⟨b0,0,none⟩) m c0] w (fun u w'=>∃ r V,IsKer p n M m r V/\(∀ i c,V i c<p)/\r<=n/\RowsOut w w' n r (fun i c=>.int .i64 (V i c:Int)) u):=by
  refine Al [.int .i64 (p:Int),.int .i64 (n:Int),.slice (some ⟨b0,0,none⟩) m c0] Try.func159 rfl Try.ntmps159 rfl fun a O=>?_;have J:Ag w w [none,none,none,none] D0:=MemX.startD w 4 _ hD0;change Fr 84 a [(0,.int .i64 (p:Int)),(1,.int .i64 (n:Int)),(2,.slice (some ⟨b0,0,none⟩) m c0)] at O;have hp2:=hp.two;have hp13:=hp.le;have hDD:∀ x∈D0,x∈D0:=fun _ h=>h;refine sr<|ag O rfl rfl fun a O=>nt<|sq<|BV 8 [1] [.val (.int .i64 (p:Int)),.val (.slice (some ⟨b0,0,none⟩) m c0),.rel (KRel w p n (m) M),.rel (EmpN w),.val (.int .i64 (n:Int)),.own 1 (Ce n (fun _=>0)) (fun b=>.slice (some ⟨b,0,none⟩) n n),.rel (KRel w p n (m) M),.rel (EmpN w)] Bf rfl O rfl J ⟨fun a w gG O hS hd=>by exact BP hS rfl O rfl,fun a w gG O hS hd=>by exact BP hS rfl O rfl,fun a w gG O hS hd=>by have O:=O.ext1 14 (hd 0 rfl rfl);have O:=O.ext1 15 (hd 1 rfl rfl);have J:=hS.mem rfl;exact EZ (by exact ⟨fun _ _ _ h hx=>h.last hx,fun _ _ _ h hx=>h.last hx,fun _ _ _ h hx=>h.last hx,fun _ _ _ h hx=>h.last hx,trivial⟩) hS rfl (Ae Try.call160 O (.cons rfl (.cons rfl .nil)) (Dp p n (m) (b0) (c0) (cs0) D0 β0 κ0 C0 M _ hp (by omega) (by omega) (by omega) hM1 (fun _ _ hm=>J.fzm hm) (hDD _ hb0) (fun i hi=>hg0 i hi) (hR0.more hDD))) (fun _ _ hr=>KRel.of J hr),fun a w gG O hS hd=>by exact EZ (by exact ⟨fun _ _ _ h hx=>h.last hx,fun _ _ _ h hx=>h.last hx,fun _ _ _ h hx=>h.last hx,fun _ _ _ h hx=>h.last hx,trivial⟩) hS rfl (EmpN.build (k:=0) (by rw [hS.2.1];decide) (BH (vs:=[]) 0 hS.1 O rfl Dg)) (fun _ _ hr=>hr),fun a w gG O hS hd=>by exact BP hS rfl O rfl,fun a w gG O hS hd=>by have O:=O.ext1 18 (hd 4 rfl rfl);exact DB (by exact ⟨fun _ _ _ h hx=>h.last hx,fun _ _ _ h hx=>h.last hx,fun _ _ _ h hx=>h.last hx,fun _ _ _ h hx=>h.last hx,trivial⟩) hS rfl rfl rfl rfl (K2 (len:=n) 1 hS.1 O Cn rfl rfl rfl (by omega) (by decide)),fun a w gG O hS hd=>by have O:=O.ext1 16 (v:=a.tmps.getD 16 undef) rfl;exact Gm hS rfl (G4 O rfl) (hd 2 rfl rfl),fun a w gG O hS hd=>by have O:=O.ext1 17 (v:=a.tmps.getD 17 undef) rfl;exact Gm hS rfl (G4 O rfl) (hd 3 rfl rfl),trivial⟩ ?_;intro a w' L O hS hq;obtain ⟨J,hL⟩:=hS;obtain ⟨bl,hptr,hkk⟩:=hq 5 rfl rfl;have O:=O.ext1 19 hptr;have hL:=hL.take hkk;obtain rfl:=hL.eq;change Ag w w' [none,some (bl,Ce n (fun _=>0)),none,none] D0 at J;obtain ⟨k,E,ld,hE,hKer,hE1,hkm,hrr⟩:=(hq 6 rfl rfl:KRel _ _ _ _ _ _ _);have hLz:∀ (j:Nat) c ds,([none,some (bl,Ce n (fun _=>0)),none,none]:Own)[j]? = some (some (c,ds))->ds=Ce n (fun _=>0):=fun j c ds hj=>by
    rcases j with _ | _ | _ | _ | _ | _ | j<;>simp at hj<;>exact hj.2.symm
  obtain ⟨DE,β,κ,C,ob,oc,ocs,be,hR,hos,hom,hue,J⟩:=N0 0 J hLz hn0 hE hrr (hq 7 rfl rfl) hD0;have O:=O.ext1 7 hos.val;have O:=O.ext1 8 hue;have hRm:∀ x∈DE++D0,x∈DE++D0:=fun _ h=>h;have hDD:=fun x hx=>List.mem_append_right DE (hDD x hx);change wpList Try.prog _ _ [_] _ _;refine ag O rfl rfl fun a O=>nt<|sq<|sr<|ag O rfl rfl fun a O=>nt<|wp_block ?_;change Ag w _ [some (be,#[]),some (bl,Ce n (fun _=>0)),none,none] (DE++D0) at J;refine Av (fun (kk:Nat) a w'=>kk<=k/\(True)/\Fr 84 a [(8,.slice (some ⟨be,0,none⟩) 0 0),(7,.slice (some ⟨ob,0,none⟩) k oc),(0,.int .i64 (p:Int)),(1,.int .i64 (n:Int)),(6,.slice none 0 0),(9,.slice (some ⟨bl,0,none⟩) n n),(10,.int .i64 (kk:Int))]/\Ag w w' [some (be,#[]),some (bl,Ce n (lv ld kk)),none,none] (DE++D0)) (fun kk=>k - kk) 0 ?_ ?_
  . refine ⟨by omega,trivial,O.sub _ (by repeat' constructor),?_⟩
    exact J.rowc 1 rfl (C6 fun c hc=>rfl)
  clear O J;rintro gi a w' ⟨hgi,hinv1,O,J⟩;have hlg:gi<k->ld gi<n:=fun h=>hE.lt gi h;refine sq<|sr<|mv O rfl rfl fun a O=>mv O rfl rfl fun a O=>st O (B2 Ds O rfl) rfl fun a O=>st O (A0 O rfl rfl) rfl fun a O=>nt<|Ab O rfl (fun h1=>?_) (fun h1=>?_)
  . refine wp_skip ?_
    refine tN<|sq<|wp_block<|wp_region_lit<|mv O rfl rfl fun a O=>mv O rfl rfl fun a O=>mv O rfl rfl fun a O=>st O (Ak (i:=gi) CG O rfl rfl rfl (by omega)) rfl fun a O=>st O (AP CH O rfl (J.fzm (hom (by omega))) (hos.get1 (gi) (by omega))) rfl fun a O=>Ar O (Ae Try.call161 O (.cons rfl .nil) ((Ec (β (gi)) (κ (gi)) (J.fzm (hRm _ (hR.mem (gi) (by omega)))) (fun i hi=>(hR.get (i:=gi) (by omega) (i) hi)) (by omega) hE (i:=gi) (by omega)))) rfl ?_;rintro _ w' a ⟨hx,rfl⟩ O;have J:=J.ext hx;refine mv O rfl rfl fun a O=>st O (Ap O rfl rfl (Af (gi) (1) (by omega))) rfl fun a O=>st O (Ak (i:=ld (gi)) Bs O rfl rfl rfl (by omega)) rfl fun a O=>BQ O (Az 1 J rfl AX O rfl rfl rfl (by first | omega | (simp only [Aa,AO,AU,AN,AT,AM,AR,AK,AC,AV,AL,AW,AS,Ac]<;>omega) | (simp only [Array.size_setIfInBounds];omega) | simp)) ?_;intro _ w' a J O;rw [show (Ce n (lv ld gi)).setIfInBounds (0+(ld (gi))*1) (.int .i64 (((gi+1:Nat):Int)))=Ce n (fun c=>if c=ld (gi) then gi+1 else (lv ld gi) c) from IR (k:=ld (gi)) (by omega) (fun c _=>rfl)] at J;change Ag _ _ [_,_,_,_] _ at J;refine wpList_nil<|iN<|tN<|wp_region_lit<|mv O rfl rfl fun a O=>st O (Ap O rfl rfl (Af (gi) (1) (by omega))) rfl fun a O=>ag O rfl rfl fun a O=>nt<|⟨gi+1,⟨by omega,trivial,O.sub _ (by repeat' constructor),?_⟩,by omega⟩;exact J.rowc 1 rfl (C6 fun c hc=>(O1 hE (by omega) c).symm)
  obtain rfl:k=gi:=by omega
  refine wp_exit<|tX<|tX<|Am<|tN<|sq<|sr<|ag O rfl rfl fun a O=>nt<|wp_block ?_;change Ag _ _ [_,_,_,_] _ at J;refine Av (fun (kk:Nat) a w'=>kk<=n/\∃ (D2:A7),∃ (β2:Nat->Nat),∃ (κ2:Nat->Nat),∃ (C2:Nat->Array Value),∃ (S:Nat->Nat->Nat),(RowsD D2 n (nf k ld kk) β2 κ2 C2 (fun i c=>.int .i64 (S i c:Int))/\Ir p kk E k ld S/\(∀ i c,S i c<p)/\∀ x∈(DE++D0),x∈D2)/\∃ (u8_2:Value) (e8_2:Option (Nat×Array Value)),Sl 1 u8_2 e8_2 (nf k ld kk) (fun i=>.slice (some ⟨β2 i,0,none⟩) n (κ2 i))/\Fr 84 a [(7,.slice (some ⟨ob,0,none⟩) k oc),(0,.int .i64 (p:Int)),(1,.int .i64 (n:Int)),(6,.slice none 0 0),(9,.slice (some ⟨bl,0,none⟩) n n),(10,.int .i64 (k:Int)),(20,.int .i64 (k:Int)),(21,.slice (some ⟨ob,0,none⟩) k oc),(22,.int .i64 (k:Int)),(23,.bool (decide (((k:Int):Int)<(k:Int)))),(11,.int .i64 (kk:Int)),(8,u8_2)]/\Ag w w' [e8_2,some (bl,Ce n (lv ld k)),none,none] D2) (fun kk=>n - kk) 0 ?_ ?_
  . refine ⟨by omega,(DE++D0),(fun _=>0),(fun _=>0),(fun _=>#[]),(fun _ _=>0),⟨RowsD.none,JO,fun _ _=>(by show 0<p;omega),fun _ h=>h⟩,(.slice (some ⟨be,0,none⟩) 0 0),(some (be,#[])),Sl.empty _ _ _,O.sub _ (by repeat' constructor),?_⟩
    exact J
  clear O J;rintro gc a w' ⟨hgc,D2,β2,κ2,C2,S,⟨hO,hS,hSp,hJ⟩,u8_2,e8_2,hH,O,J⟩;have hom:=fun h=>hJ _ (hom h);have hRm:=hJ;have hncf:=JQ (k:=k) (ld:=ld) gc;refine sq<|sr<|mv O rfl rfl fun a O=>mv O rfl rfl fun a O=>st O (A0 O rfl rfl) rfl fun a O=>nt<|Ab O rfl (fun h2=>?_) (fun h2=>?_)
  . refine wp_skip ?_
    refine tN<|sq<|wp_block<|sq<|sr<|mv O rfl rfl fun a O=>mv O rfl rfl fun a O=>st O (Ak (i:=gc) Bs O rfl rfl rfl (by omega)) rfl fun a O=>st O (AP AX O rfl (J.row 1 rfl) (Eo (k:=gc) (by omega) (by omega))) rfl fun a O=>st O (Fo O rfl rfl) rfl fun a O=>nt<|Ab O rfl (fun h3=>?_) (fun h3=>?_)
    . have hl:CI k ld gc:=lv_pos.1 (by omega)
      refine wp_exit<|tX<|Am<|tN<|wp_region_lit<|mv O rfl rfl fun a O=>st O (Ap O rfl rfl (Af (gc) (1) (by omega))) rfl fun a O=>ag O rfl rfl fun a O=>nt<|⟨gc+1,⟨by omega,D2,β2,κ2,C2,S,(by first | exact ⟨by rw [DM hl];exact hO,F8 hS hl,hSp,hJ⟩ | exact ⟨by rw [DN hl];exact hR4,F9 hS,Fz hSp (fun _=>IK hp2),fun x hx=>List.mem_cons_of_mem _ (hJ x hx)⟩),(u8_2),(e8_2),(by first | (rw [DN hl];exact hH) | (rw [DM hl];exact hH)),O.sub _ (by repeat' constructor),?_⟩,by omega⟩;exact J
    have hl:¬ CI k ld gc:=fun h=>by have:=lv_pos.2 h;omega
    refine wp_skip<|tN<|sr<|mv O rfl rfl fun a O=>Ar O (K2 (len:=n) 2 J O Cn rfl rfl rfl (by omega) (by decide)) rfl ?_;rintro _ w' a ⟨b5,rfl,J,-⟩ O;change Ag _ _ [_,_,some (b5,Ce n (fun _=>0)),_] _ at J;refine ag O rfl rfl fun a O=>ns<|mv O rfl rfl fun a O=>mv O rfl rfl fun a O=>st O (Ak (i:=gc) Bs O rfl rfl rfl (by omega)) rfl fun a O=>BQ O (Az 2 J rfl AX O rfl rfl rfl (by first | omega | (simp only [Aa,AO,AU,AN,AT,AM,AR,AK,AC,AV,AL,AW,AS,Ac]<;>omega) | (simp only [Array.size_setIfInBounds];omega) | simp)) ?_;intro _ w' a J O;rw [show (Ce n (fun _=>0)).setIfInBounds (0+(gc)*1) (.int .i64 (1))=Ce n (fun c=>if c=gc then 1 else (fun _=>0) c) from IR (k:=gc) (by omega) (fun c _=>rfl)] at J;refine nt<|sq<|sr<|ag O rfl rfl fun a O=>nt<|wp_block ?_;change Ag _ _ [_,_,_,_] _ at J;refine Av (fun (kk:Nat) a w'=>kk<=n/\(True)/\Fr 84 a [(7,.slice (some ⟨ob,0,none⟩) k oc),(0,.int .i64 (p:Int)),(1,.int .i64 (n:Int)),(6,.slice none 0 0),(9,.slice (some ⟨bl,0,none⟩) n n),(10,.int .i64 (k:Int)),(20,.int .i64 (k:Int)),(21,.slice (some ⟨ob,0,none⟩) k oc),(22,.int .i64 (k:Int)),(23,.bool (decide (((k:Int):Int)<(k:Int)))),(11,.int .i64 (gc:Int)),(8,u8_2),(35,.int .i64 (gc:Int)),(36,.int .i64 (n:Int)),(37,.bool (decide (((gc:Int):Int)<(n:Int)))),(40,.slice (some ⟨bl,0,none⟩) n n),(41,.int .i64 (gc:Int)),(42,ptr bl (0+(gc)*1)),(43,.int .i64 ((((lv ld k) (gc):Nat):Int))),(44,.bool (decide (0<((((lv ld k) (gc):Nat):Int):Int)))),(45,.int .i64 (n:Int)),(46,.slice (some ⟨b5,0,none⟩) n n),(12,.slice (some ⟨b5,0,none⟩) n n),(47,.slice (some ⟨b5,0,none⟩) n n),(48,.int .i64 (gc:Int)),(49,ptr b5 (0+(gc)*1)),(13,.int .i64 (kk:Int))]/\Ag w w' [e8_2,some (bl,Ce n (lv ld k)),some (b5,Ce n (Oh p E k ld gc kk)),none] D2) (fun kk=>n - kk) 0 ?_ ?_
    . refine ⟨by omega,trivial,O.sub _ (by repeat' constructor),?_⟩
      exact J.rowc 2 rfl (C6 fun c hc=>by unfold Oh;simp)
    clear O J;rintro gd a w' ⟨hgd,hinv3,O,J⟩;refine sq<|sr<|mv O rfl rfl fun a O=>mv O rfl rfl fun a O=>st O (A0 O rfl rfl) rfl fun a O=>nt<|Ab O rfl (fun h6=>?_) (fun h6=>?_)
    . refine wp_skip ?_
      refine tN<|sq<|wp_block<|sr<|mv O rfl rfl fun a O=>mv O rfl rfl fun a O=>st O (Ak (i:=gd) Bs O rfl rfl rfl (by omega)) rfl fun a O=>st O (AP AX O rfl (J.row 1 rfl) (Eo (k:=gd) (by omega) (by omega))) rfl fun a O=>st O (Fo O rfl rfl) rfl fun a O=>nt<|Ab O rfl (fun h7=>?_) (fun h7=>?_)
      . have hlp:0<lv ld k gd:=by omega
        have hne2:gd≠gc:=fun e=>hl (by rw [← e];exact lv_pos.1 hlp);have hlk:=Qa (ld:=ld) (q:=k) (c:=gd);have hEb:=hE1 (lv ld k gd - 1) gc;refine wp_region_lit<|mv O rfl rfl fun a O=>mv O rfl rfl fun a O=>mv O rfl rfl fun a O=>mv O rfl rfl fun a O=>mv O rfl rfl fun a O=>mv O rfl rfl fun a O=>st O (Ak (i:=gd) Bs O rfl rfl rfl (by omega)) rfl fun a O=>st O (AP AX O rfl (J.row 1 rfl) (Eo (k:=gd) (by omega) (by omega))) rfl fun a O=>st O (Et O rfl rfl (show _=((lv ld k gd - 1:Nat):Int) from (by rw [wrap_i64 (by omega) (by omega)];omega))) rfl fun a O=>st O (Ak (i:=lv ld k gd - 1) CG O rfl rfl rfl (by omega)) rfl fun a O=>st O (AP CH O rfl (J.fzm (hom (by omega))) (hos.get1 (lv ld k gd - 1) (by omega))) rfl fun a O=>mv O rfl rfl fun a O=>st O (Ak (i:=gc) Bs O rfl rfl rfl (by omega)) rfl fun a O=>st O (AP AX O rfl (J.fzm (hRm _ (hR.mem (lv ld k gd - 1) (by omega)))) (hR.get (i:=lv ld k gd - 1) (by omega) (gc) (by omega))) rfl fun a O=>st O (OE O rfl (wrap_i64 (by omega) (by omega))) rfl fun a O=>Ar O (Ae Try.call153 O (.cons rfl (.cons rfl .nil)) ((CallsR.val (DU (-((E (lv ld k gd - 1) (gc):Int))) (p) _ (by omega) (by omega) (by omega) (by omega)) (congrArg (Value.int .i64) (MH (by omega) (by omega)))))) rfl ?_;rintro _ w' a ⟨hx,rfl⟩ O;have J:=J.ext hx;refine st O (Ak (i:=gd) Bs O rfl rfl rfl (by omega)) rfl fun a O=>BQ O (Az 2 J rfl AX O rfl rfl rfl (by first | omega | (simp only [Aa,AO,AU,AN,AT,AM,AR,AK,AC,AV,AL,AW,AS,Ac]<;>omega) | (simp only [Array.size_setIfInBounds];omega) | simp)) ?_;intro _ w' a J O;rw [show (Ce n (Oh p E k ld gc gd)).setIfInBounds (0+(gd)*1) (.int .i64 ((((p - E (lv ld k gd - 1) (gc))%p:Nat):Int)))=Ce n (fun c=>if c=gd then (p - E (lv ld k gd - 1) (gc))%p else (Oh p E k ld gc gd) c) from IR (k:=gd) (by omega) (fun c _=>rfl)] at J;change Ag _ _ [_,_,_,_] _ at J;refine wpList_nil<|iN<|tN<|wp_region_lit<|mv O rfl rfl fun a O=>st O (Ap O rfl rfl (Af (gd) (1) (by omega))) rfl fun a O=>ag O rfl rfl fun a O=>nt<|⟨gd+1,⟨by omega,trivial,O.sub _ (by repeat' constructor),?_⟩,by omega⟩
        first | exact J.rowc 2 rfl (C6 fun c hc=>Nq hlp hne2 c) | exact J.rowc 2 rfl (C6 fun c hc=>PX hln c)
      have hln:¬ 0<lv ld k gd:=by omega
      refine wp_skip<|iN<|tN<|wp_region_lit<|mv O rfl rfl fun a O=>st O (Ap O rfl rfl (Af (gd) (1) (by omega))) rfl fun a O=>ag O rfl rfl fun a O=>nt<|⟨gd+1,⟨by omega,trivial,O.sub _ (by repeat' constructor),?_⟩,by omega⟩
      first | exact J.rowc 2 rfl (C6 fun c hc=>Nq hlp hne2 c) | exact J.rowc 2 rfl (C6 fun c hc=>PX hln c)
    obtain rfl:n=gd:=by omega
    have J:=J.rowc (cs':=Ce n (sol p E k ld gc)) 2 rfl (C6 fun c hc=>if_pos hc);refine wp_exit<|tX<|tX<|Am<|tN ?_;have J:=J.freeze 2 rfl;have hR3:=(hO.more (D':=(b5,Ce n (sol p E k ld gc))::D2) (fun x hx=>List.mem_cons_of_mem _ hx)).snoc (List.mem_cons_self ..) (Mv (b:=b5) (m:=n) (f:=(sol p E k ld gc)) (by unfold maxLen;omega));have hR4:=hR3.congr (g:=fun i c=>.int .i64 (upE S (nf k ld gc) (sol p E k ld gc) i c:Int)) (fun i hi c hc=>by
      by_cases e:i=(nf k ld gc)
      . rw [e];simp only [CF,upE,if_true]
      . simp only [Bi e,upE,if_neg e])
    refine wp_region_lit<|mv O rfl rfl fun a O=>mv O rfl rfl fun a O=>Ar O (BH 3 J O (CD O rfl) (Ca _ _ _)) rfl ?_;rintro _ w' a ⟨b8,rfl,J,-⟩ O;change Ag w w' [e8_2,some (bl,Ce n (lv ld k)),none,some (b8,#[.slice (some ⟨b5,0,none⟩) n n])] ((b5,Ce n (sol p E k ld gc))::D2) at J;refine Ar O (Bg (k:=0) (m:=1) (g:=fun _=>.slice (some ⟨b5,0,none⟩) n n) Cz rfl (by decide) J rfl O rfl rfl hH (fun i hi=>by rw [show i=0 by omega];exact (J.row 3 rfl).cell 0) (fun _ _=>rfl) (by decide) (by unfold maxLen;omega) (by omega)) rfl ?_;rintro u9 w' a ⟨e10,J,hs11⟩ O;change Ag w w' [e10,some (bl,Ce n (lv ld k)),none,some (b8,#[.slice (some ⟨b5,0,none⟩) n n])] ((b5,Ce n (sol p E k ld gc))::D2) at J;refine ag O rfl rfl fun a O=>wpList_nil<|iN<|tN<|wp_region_lit<|mv O rfl rfl fun a O=>st O (Ap O rfl rfl (Af (gc) (1) (by omega))) rfl fun a O=>ag O rfl rfl fun a O=>wpList_nil<|tN ?_;have hH:=hs11.snocR;have J:=J.drop 3;refine ⟨gc+1,⟨by omega,((b5,Ce n (sol p E k ld gc))::D2),(up β2 (nf k ld gc) b5),(up κ2 (nf k ld gc) n),(up C2 (nf k ld gc) (Ce n (sol p E k ld gc))),(upE S (nf k ld gc) (sol p E k ld gc)),(by first | exact ⟨by rw [DM hl];exact hO,F8 hS hl,hSp,hJ⟩ | exact ⟨by rw [DN hl];exact hR4,F9 hS,Fz hSp (fun _=>IK hp2),fun x hx=>List.mem_cons_of_mem _ (hJ x hx)⟩),(u9),(e10),(by first | (rw [DN hl];exact hH) | (rw [DM hl];exact hH)),O.sub _ (by repeat' constructor),?_⟩,by omega⟩;exact J
  obtain rfl:n=gc:=by omega
  have hnf:=hne k E ld hE hKer;obtain ⟨bk,ck,csk,rfl,rfl,hsk⟩:=hH.pos hnf;have J:=J.freeze 0 rfl;have hbk:(bk,csk)∈(bk,csk)::D2:=List.mem_cons_self ..;have hRmk:∀ x∈D2,x∈(bk,csk)::D2:=fun x hx=>List.mem_cons_of_mem _ hx;have hnfn:=JQ (k:=k) (ld:=ld) n;change Ag w _ [none,some (bl,Ce n (lv ld k)),none,none] ((bk,csk)::D2) at J;refine wp_exit<|tX<|tX<|Am<|tN<|sr<|mv O rfl rfl fun a O=>mv O rfl rfl fun a O=>Ar O (Ae Try.call160 O (.cons rfl (.cons rfl .nil)) (Dp p n (nf k ld n) (bk) (ck) (csk) ((bk,csk)::D2) β2 κ2 C2 S _ hp (by omega) (by omega) (by omega) hSp (fun _ _ hm=>J.fzm hm) hbk (fun i hi=>hsk.get1 i hi) (hO.more hRmk))) rfl ?_;rintro u w' a ⟨hx,hr⟩ O;have hr:=(QD) J hr;have J:=J.ext hx;obtain ⟨r,V,ld2,hE2,hKer2,hV,hrm,hout⟩:=hr;refine ag O rfl rfl fun a O=>nt<|wp_ret<|BC rfl O.defers (Ad O rfl) ⟨_,rfl,J.below,?_⟩;exact ⟨r,V,IZ hE hKer hS hE2 hKer2,hV,Nat.le_trans hrm hnfn,hout⟩
def eqC (p n:Nat) (T:Nat->Nat->Nat->Nat) (r c:Nat):Nat:=(((T c (r / n) (r%n):Int) - (T (r / n) c (r%n):Int))%(p:Int)).toNat
theorem Lu {p n:Nat}{T:Nat->Nat->Nat->Nat}(hp:2<=p):∀ r c,eqC p n T r c<p:=fun r c=>by
  unfold eqC
  have h1:=Int.emod_lt_of_pos ((T c (r / n) (r%n):Int) - (T (r / n) c (r%n):Int)) (show (0:Int)<(p:Int) by omega)
  have h2:=Int.emod_nonneg ((T c (r / n) (r%n):Int) - (T (r / n) c (r%n):Int)) (show (p:Int)≠0 by omega)
  omega
theorem MU {p n i k c:Nat}{T:Nat->Nat->Nat->Nat}(hp:2<=p)(hk:k<n):(eqC p n T (i*n+k) c:Int)=((T c i k:Int) - (T i c k:Int))%(p:Int):=by
  have e1:(i*n+k) / n=i:=by rw [Nat.mul_comm,Nat.mul_add_div (by omega),Nat.div_eq_of_lt hk];omega
  have e2:(i*n+k)%n=k:=by rw [Nat.mul_comm,Nat.mul_add_mod,Nat.mod_eq_of_lt hk]
  unfold eqC;rw [e1,e2]
  exact Int.toNat_of_nonneg (Int.emod_nonneg _ (by omega))
def KerRel (w0:World) (L:Own) (p n m:Nat) (M:Nat->Nat->Nat) (u:Value) (w':World):Prop:=∃ r V,IsKer p n M m r V/\(∀ i c,V i c<p)/\r<=n/\RowsFr w0 L n r (fun i c=>.int .i64 (V i c:Int)) u w'
theorem KerRel.of {X:List Nat}{w0 w w':World}{L:Own}{D:A7}{p n m:Nat}{M:Nat->Nat->Nat}{u:Value}(J:MemX X w0 w L D)(h:∃ r V,IsKer p n M m r V/\(∀ i c,V i c<p)/\r<=n/\RowsOut w w' n r (fun i c=>.int .i64 (V i c:Int)) u):KerRel w0 L p n m M u w':=by
  obtain ⟨r,V,h1,h2,h3,h4⟩:=h;exact ⟨r,V,h1,h2,h3,h4.fresh J⟩
theorem J4 (p n:Nat)(T:Nat->Nat->Nat->Nat)(f:Nat->Nat)(w:World)(hp:primeN p)(hn0:0<n)(hn:n<=6)(hT:∀ i j k,T i j k<=255)(hne:∀ k E ld,Rref p n E k ld->(∀ x,Ker p n E k x↔Ker p n (eqC p n T) (n*n) x)->0<nf k ld n)(hpos:∀ r V,IsKer p n (eqC p n T) (n*n) r V->0<r) :
    CallsR Try.prog 117 #[.agg (AD (p:Int) (n:Int) T f)] w (fun u w'=>∃ r V,IsKer p n (eqC p n T) (n*n) r V/\OwnSl 6 w r (fun c=>.int .u8 (((C5 n V) (c / 6) (c%6):Nat):Int)) u w'):=by
  refine Al [.agg (AD (p:Int) (n:Int) T f)] Try.func117 rfl Try.ntmps117 rfl fun a O=>?_;have J:Ag w w [none,none,none,none,none,none] []:=MemX.start w 6;change Fr 64 a [(0,.agg (AD (p:Int) (n:Int) T f))] at O;have hp2:=hp.two;have hp13:=hp.le;refine sr<|Ar O (BI 0 J O rfl) rfl ?_;rintro _ w' a ⟨b1,rfl,J,-⟩ O;refine ag O rfl rfl fun a O=>ns<|Ar O (BH 1 J O rfl Dg) rfl ?_;rintro _ w' a ⟨b2,rfl,J,-⟩ O;refine ag O rfl rfl fun a O=>nt<|sq<|sr<|ag O rfl rfl fun a O=>nt<|wp_block ?_;change Ag _ _ [some (b1,AD (p:Int) (n:Int) T f),some (b2,#[]),_,_,_,_] [] at J;refine Av (fun (kk:Nat) a w'=>kk<=n/\∃ (D1:A7),∃ (β:Nat->Nat),∃ (κ:Nat->Nat),∃ (C:Nat->Array Value),(RowsD D1 n (kk*n) β κ C (fun i c=>.int .i64 (eqC p n T i c:Int)))/\∃ (u3_1:Value) (e3_1:Option (Nat×Array Value)),Sl 1 u3_1 e3_1 (kk*n) (fun i=>.slice (some ⟨β i,0,none⟩) n (κ i))/\Fr 64 a [(1,ptr b1 (0)),(2,.slice none 0 0),(4,.int .i64 (kk:Int)),(3,u3_1)]/\Ag w w' [some (b1,AD (p:Int) (n:Int) T f),e3_1,none,none,none,none] D1) (fun kk=>n - kk) 0 ?_ ?_
  . refine ⟨by omega,[],(fun _=>0),(fun _=>0),(fun _=>#[]),(by rw [Nat.zero_mul];exact RowsD.none),(.slice (some ⟨b2,0,none⟩) 0 0),(some (b2,#[])),(by rw [Nat.zero_mul];exact Sl.empty _ _ _),O.sub _ (by repeat' constructor),?_⟩
    exact J
  clear O J;rintro gi a w' ⟨hgi,D1,β,κ,C,hR,u3_1,e3_1,hH,O,J⟩;have hgin:=Nat.le_trans (Nat.mul_le_mul_right n hgi) (Nat.mul_le_mul hn hn);refine sq<|sr<|mv O rfl rfl fun a O=>st O (AB AZ O rfl) rfl fun a O=>st O (AP AX O rfl (J.row 0 rfl) (Ao (by omega))) rfl fun a O=>st O (A0 O rfl rfl) rfl fun a O=>nt<|Ab O rfl (fun h3=>?_) (fun h3=>?_)
  . refine wp_skip ?_
    refine tN<|sq<|wp_block<|sr<|ag O rfl rfl fun a O=>nt<|wp_block ?_;change Ag w _ [some (b1,AD (p:Int) (n:Int) T f),e3_1,none,none,none,none] D1 at J;refine Av (fun (kk:Nat) a w'=>kk<=n/\∃ (D2:A7),∃ (β2:Nat->Nat),∃ (κ2:Nat->Nat),∃ (C2:Nat->Array Value),(RowsD D2 n (gi*n+kk) β2 κ2 C2 (fun i c=>.int .i64 (eqC p n T i c:Int)))/\∃ (u3_2:Value) (e3_2:Option (Nat×Array Value)),Sl 1 u3_2 e3_2 (gi*n+kk) (fun i=>.slice (some ⟨β2 i,0,none⟩) n (κ2 i))/\Fr 64 a [(1,ptr b1 (0)),(2,.slice none 0 0),(4,.int .i64 (gi:Int)),(9,.int .i64 (gi:Int)),(10,ptr b1 (0+1)),(11,.int .i64 (n:Int)),(12,.bool (decide (((gi:Int):Int)<(n:Int)))),(5,.int .i64 (kk:Int)),(3,u3_2)]/\Ag w w' [some (b1,AD (p:Int) (n:Int) T f),e3_2,none,none,none,none] D2) (fun kk=>n - kk) 0 ?_ ?_
    . refine ⟨by omega,D1,β,κ,C,hR,(u3_1),(e3_1),hH,O.sub _ (by repeat' constructor),?_⟩
      exact J
    clear O J;rintro gk a w' ⟨hgk,D2,β2,κ2,C2,hO,u3_2,e3_2,hH,O,J⟩;refine sq<|sr<|mv O rfl rfl fun a O=>st O (AB AZ O rfl) rfl fun a O=>st O (AP AX O rfl (J.row 0 rfl) (Ao (by omega))) rfl fun a O=>st O (A0 O rfl rfl) rfl fun a O=>nt<|Ab O rfl (fun h4=>?_) (fun h4=>?_)
    . refine wp_skip ?_
      refine tN<|sq<|wp_block<|sr<|Ar O (BH 2 J O rfl Df) rfl ?_;rintro _ w' a ⟨b5,rfl,J,-⟩ O;refine ag O rfl rfl fun a O=>nt<|sq<|sr<|ag O rfl rfl fun a O=>nt<|wp_block ?_;change Ag _ _ [_,_,some (b5,#[]),_,_,_] _ at J;refine Av (fun (kk:Nat) a w'=>kk<=n/\(True)/\∃ (u6_3:Value) (e6_3:Option (Nat×Array Value)),Sl 1 u6_3 e6_3 (kk) (fun c=>.int .i64 (eqC p n T (gi*n+gk) c:Int))/\Fr 64 a [(1,ptr b1 (0)),(2,.slice none 0 0),(4,.int .i64 (gi:Int)),(9,.int .i64 (gi:Int)),(10,ptr b1 (0+1)),(11,.int .i64 (n:Int)),(12,.bool (decide (((gi:Int):Int)<(n:Int)))),(5,.int .i64 (gk:Int)),(3,u3_2),(15,.int .i64 (gk:Int)),(16,ptr b1 (0+1)),(17,.int .i64 (n:Int)),(18,.bool (decide (((gk:Int):Int)<(n:Int)))),(21,.slice (some ⟨b5,0,none⟩) 0 0),(7,.int .i64 (kk:Int)),(6,u6_3)]/\Ag w w' [some (b1,AD (p:Int) (n:Int) T f),e3_2,e6_3,none,none,none] D2) (fun kk=>n - kk) 0 ?_ ?_
      . refine ⟨by omega,trivial,(.slice (some ⟨b5,0,none⟩) 0 0),(some (b5,#[])),Sl.empty _ _ _,O.sub _ (by repeat' constructor),?_⟩
        exact J
      clear O J;rintro gj a w' ⟨hgj,hinv3,u6_3,e6_3,hrow,O,J⟩;have htb:=hT gj gi gk;have htb2:=hT gi gj gk;refine sq<|sr<|mv O rfl rfl fun a O=>st O (AB AZ O rfl) rfl fun a O=>st O (AP AX O rfl (J.row 0 rfl) (Ao (by omega))) rfl fun a O=>st O (A0 O rfl rfl) rfl fun a O=>nt<|Ab O rfl (fun h6=>?_) (fun h6=>?_)
      . refine wp_skip ?_
        refine tN<|sq<|wp_block<|BV 24 [3] [.val (u6_3),.val (ptr b1 (0+0)),.val (.int .i64 (p:Int)),.val (.int .i64 (gj:Int)),.val (.int .i64 (gi:Int)),.val (.int .i64 (gk:Int)),.val (ptr b1 (0+2)),.val (ptr b1 (0+2+(gj)*36)),.val (ptr b1 (0+2+(gj)*36+(gi)*6)),.val (ptr b1 (0+2+(gj)*36+(gi)*6+(gk)*1)),.val (.int .u8 ((T (gj) (gi) (gk):Int))),.val (.int .i64 ((T (gj) (gi) (gk):Int))),.val (.int .i64 (gi:Int)),.val (.int .i64 (gj:Int)),.val (.int .i64 (gk:Int)),.val (ptr b1 (0+2)),.val (ptr b1 (0+2+(gi)*36)),.val (ptr b1 (0+2+(gi)*36+(gj)*6)),.val (ptr b1 (0+2+(gi)*36+(gj)*6+(gk)*1)),.val (.int .u8 ((T (gi) (gj) (gk):Int))),.val (.int .i64 ((T (gi) (gj) (gk):Int))),.val (.int .i64 ((T (gj) (gi) (gk):Int) - (T (gi) (gj) (gk):Int))),.val (.int .i64 (((T (gj) (gi) (gk):Int) - (T (gi) (gj) (gk):Int))%(p:Int))),.own 3 (#[.int .i64 (((T (gj) (gi) (gk):Int) - (T (gi) (gj) (gk):Int))%(p:Int))]) (fun b=>.slice (some ⟨b,0,none⟩) 1 1)] Bf rfl O rfl J ⟨fun a w gG O hS hd=>by exact BP hS rfl O rfl,fun a w gG O hS hd=>by exact AA hS rfl (AB A2 O rfl),fun a w gG O hS hd=>by have O:=O.ext1 29 (hd 1 rfl rfl);have J:=hS.mem rfl;exact AA hS rfl (AP AX O rfl (J.row 0 rfl) (BU (by omega))),fun a w gG O hS hd=>by exact BP hS rfl O rfl,fun a w gG O hS hd=>by exact BP hS rfl O rfl,fun a w gG O hS hd=>by exact BP hS rfl O rfl,fun a w gG O hS hd=>by exact AA hS rfl (AB Ax O rfl),fun a w gG O hS hd=>by have O:=O.ext1 31 (hd 3 rfl rfl);have O:=O.ext1 34 (hd 6 rfl rfl);exact AA hS rfl (AF BF O rfl rfl rfl (by omega)),fun a w gG O hS hd=>by have O:=O.ext1 32 (hd 4 rfl rfl);have O:=O.ext1 35 (hd 7 rfl rfl);exact AA hS rfl (AF BG O rfl rfl rfl (by omega)),fun a w gG O hS hd=>by have O:=O.ext1 33 (hd 5 rfl rfl);have O:=O.ext1 36 (hd 8 rfl rfl);exact AA hS rfl (AF Bx O rfl rfl rfl (by omega)),fun a w gG O hS hd=>by have O:=O.ext1 37 (hd 9 rfl rfl);have J:=hS.mem rfl;exact AA hS rfl (AP Ai O rfl (J.row 0 rfl) (CR (gj) (gi) (gk) (by omega) (by omega) (by omega) (by omega))),fun a w gG O hS hd=>by have O:=O.ext1 38 (hd 10 rfl rfl);exact AA hS rfl (A9 BJ BN O rfl (wrap_i64 (by omega) (by omega))),fun a w gG O hS hd=>by exact BP hS rfl O rfl,fun a w gG O hS hd=>by exact BP hS rfl O rfl,fun a w gG O hS hd=>by exact BP hS rfl O rfl,fun a w gG O hS hd=>by exact AA hS rfl (AB Ax O rfl),fun a w gG O hS hd=>by have O:=O.ext1 40 (hd 12 rfl rfl);have O:=O.ext1 43 (hd 15 rfl rfl);exact AA hS rfl (AF BF O rfl rfl rfl (by omega)),fun a w gG O hS hd=>by have O:=O.ext1 41 (hd 13 rfl rfl);have O:=O.ext1 44 (hd 16 rfl rfl);exact AA hS rfl (AF BG O rfl rfl rfl (by omega)),fun a w gG O hS hd=>by have O:=O.ext1 42 (hd 14 rfl rfl);have O:=O.ext1 45 (hd 17 rfl rfl);exact AA hS rfl (AF Bx O rfl rfl rfl (by omega)),fun a w gG O hS hd=>by have O:=O.ext1 46 (hd 18 rfl rfl);have J:=hS.mem rfl;exact AA hS rfl (AP Ai O rfl (J.row 0 rfl) (CR (gi) (gj) (gk) (by omega) (by omega) (by omega) (by omega))),fun a w gG O hS hd=>by have O:=O.ext1 47 (hd 19 rfl rfl);exact AA hS rfl (A9 BJ BN O rfl (wrap_i64 (by omega) (by omega))),fun a w gG O hS hd=>by have O:=O.ext1 39 (hd 11 rfl rfl);have O:=O.ext1 48 (hd 20 rfl rfl);exact AA hS rfl (Et O rfl rfl (wrap_i64 (by omega) (by omega))),fun a w gG O hS hd=>by have O:=O.ext1 30 (hd 2 rfl rfl);have O:=O.ext1 49 (hd 21 rfl rfl);exact BL (by repeat constructor) hS rfl (Ae Try.call153 O (.cons rfl (.cons rfl .nil)) (DU ((T (gj) (gi) (gk):Int) - (T (gi) (gj) (gk):Int)) (p) _ (by omega) (by omega) (by omega) (by omega))),fun a w gG O hS hd=>by have O:=O.ext1 50 (hd 22 rfl rfl);exact DB (by repeat constructor) hS rfl rfl rfl rfl (BH 3 hS.1 O (CD O rfl) (DA _)),trivial⟩ ?_
        intro a w' L O hS hq;have O:=O.ext1 28 (hq 0 rfl rfl);have O:=O.ext1 29 (hq 1 rfl rfl);have O:=O.ext1 30 (hq 2 rfl rfl);have O:=O.ext1 31 (hq 3 rfl rfl);have O:=O.ext1 32 (hq 4 rfl rfl);have O:=O.ext1 33 (hq 5 rfl rfl);have O:=O.ext1 34 (hq 6 rfl rfl);have O:=O.ext1 35 (hq 7 rfl rfl);have O:=O.ext1 36 (hq 8 rfl rfl);have O:=O.ext1 37 (hq 9 rfl rfl);have O:=O.ext1 38 (hq 10 rfl rfl);have O:=O.ext1 39 (hq 11 rfl rfl);have O:=O.ext1 40 (hq 12 rfl rfl);have O:=O.ext1 41 (hq 13 rfl rfl);have O:=O.ext1 42 (hq 14 rfl rfl);have O:=O.ext1 43 (hq 15 rfl rfl);have O:=O.ext1 44 (hq 16 rfl rfl);have O:=O.ext1 45 (hq 17 rfl rfl);have O:=O.ext1 46 (hq 18 rfl rfl);have O:=O.ext1 47 (hq 19 rfl rfl);have O:=O.ext1 48 (hq 20 rfl rfl);have O:=O.ext1 49 (hq 21 rfl rfl);have O:=O.ext1 50 (hq 22 rfl rfl);obtain ⟨J,hL⟩:=hS;obtain ⟨b7,hptr,hkk⟩:=hq 23 rfl rfl;have O:=O.ext1 51 hptr;have hL:=hL.take hkk;obtain rfl:=hL.eq;change Ag w w' [some (b1,AD (p:Int) (n:Int) T f),e3_2,e6_3,some (b7,#[.int .i64 (((T (gj) (gi) (gk):Int) - (T (gi) (gj) (gk):Int))%(p:Int))]),none,none] D2 at J;change wpList Try.prog _ _ [_,_] _ _;refine Ar O (Bg (k:=2) (m:=1) (g:=fun _=>.int .i64 (((T (gj) (gi) (gk):Int) - (T (gi) (gj) (gk):Int))%(p:Int))) Cn rfl (by decide) J rfl O rfl rfl hrow (fun i hi=>by rw [show i=0 by omega];exact (J.row 3 rfl).cell 0) (fun _ _=>rfl) (by decide) (by unfold maxLen;omega) (by omega)) rfl ?_;rintro u8 w' a ⟨e9,J,hs10⟩ O;change Ag w w' [some (b1,AD (p:Int) (n:Int) T f),e3_2,e9,some (b7,#[.int .i64 (((T (gj) (gi) (gk):Int) - (T (gi) (gj) (gk):Int))%(p:Int))]),none,none] D2 at J;refine ag O rfl rfl fun a O=>wpList_nil<|iN<|tN<|wp_region_lit<|mv O rfl rfl fun a O=>st O (Ap O rfl rfl (Af (gj) (1) (by omega))) rfl fun a O=>ag O rfl rfl fun a O=>wpList_nil<|tN ?_;have J:=J.drop 3;refine ⟨gj+1,⟨by omega,trivial,(u8),(e9),(hs10.snoc (congrArg (Value.int .i64) (MU hp2 (by omega)).symm)),O.sub _ (by repeat' constructor),?_⟩,by omega⟩;exact J
      obtain rfl:n=gj:=by omega
      refine wp_exit<|tX<|tX<|Am<|tN ?_;obtain ⟨bR,capR,csR,rfl,rfl,hsR⟩:=hrow.pos (by omega);have J:=J.freeze 2 rfl;have hO:=(hO.more (D':=(bR,csR)::D2) (fun x hx=>List.mem_cons_of_mem _ hx)).snoc (List.mem_cons_self ..) hsR;refine wp_region_lit<|mv O rfl rfl fun a O=>mv O rfl rfl fun a O=>Ar O (BH 4 J O (CD O rfl) (Ca _ _ _)) rfl ?_;rintro _ w' a ⟨b11,rfl,J,-⟩ O;change Ag w w' [some (b1,AD (p:Int) (n:Int) T f),e3_2,none,none,some (b11,#[.slice (some ⟨bR,0,none⟩) n capR]),none] ((bR,csR)::D2) at J;refine Ar O (Bg (k:=1) (m:=1) (g:=fun _=>.slice (some ⟨bR,0,none⟩) n capR) Cz rfl (by decide) J rfl O rfl rfl hH (fun i hi=>by rw [show i=0 by omega];exact (J.row 4 rfl).cell 0) (fun _ _=>rfl) (by decide) (by unfold maxLen;omega) (by omega)) rfl ?_;rintro u12 w' a ⟨e13,J,hs14⟩ O;change Ag w w' [some (b1,AD (p:Int) (n:Int) T f),e13,none,none,some (b11,#[.slice (some ⟨bR,0,none⟩) n capR]),none] ((bR,csR)::D2) at J;refine ag O rfl rfl fun a O=>wpList_nil<|iN<|tN<|wp_region_lit<|mv O rfl rfl fun a O=>st O (Ap O rfl rfl (Af (gk) (1) (by omega))) rfl fun a O=>ag O rfl rfl fun a O=>wpList_nil<|tN ?_;have hH:=hs14.snocR;have hO:=hO.congr (g:=fun i c=>.int .i64 (eqC p n T i c:Int)) (fun i hi c hc=>by
        by_cases e:i=gi*n+gk
        . rw [e];simp only [CF]
        . simp only [Bi e])
      have J:=J.drop 4;refine ⟨gk+1,⟨by omega,((bR,csR)::D2),(up β2 (gi*n+gk) bR),(up κ2 (gi*n+gk) capR),(up C2 (gi*n+gk) csR),hO,(u12),(e13),hH,O.sub _ (by repeat' constructor),?_⟩,by omega⟩;exact J
    obtain rfl:n=gk:=by omega
    refine wp_exit<|tX<|tX<|Am<|iN<|tN<|wp_region_lit<|mv O rfl rfl fun a O=>st O (Ap O rfl rfl (Af (gi) (1) (by omega))) rfl fun a O=>ag O rfl rfl fun a O=>nt<|⟨gi+1,⟨by omega,D2,β2,κ2,C2,(by rw [Nat.succ_mul];exact hO),(u3_2),(e3_2),(by rw [Nat.succ_mul];exact hH),O.sub _ (by repeat' constructor),?_⟩,by omega⟩;exact J
  obtain rfl:n=gi:=by omega
  have hnn:0<n*n:=Nat.mul_pos (by omega) (by omega);obtain ⟨b0,c0,cs0,rfl,rfl,hs0⟩:=hH.pos hnn;have J:=J.freeze 1 rfl;have hb0:(b0,cs0)∈(b0,cs0)::D1:=List.mem_cons_self ..;have hRm0:∀ x∈D1,x∈(b0,cs0)::D1:=fun x hx=>List.mem_cons_of_mem _ hx;have hfM1:=Lu (n:=n) (T:=T) hp2;have hnn2:=Nat.mul_le_mul hn hn;change Ag w _ [some (b1,AD (p:Int) (n:Int) T f),none,none,none,none,none] ((b0,cs0)::D1) at J;refine wp_exit<|tX<|tX<|Am<|tN<|sr<|st O (AB A2 O rfl) rfl fun a O=>st O (AP AX O rfl (J.row 0 rfl) (BU (by omega))) rfl fun a O=>st O (AB AZ O rfl) rfl fun a O=>st O (AP AX O rfl (J.row 0 rfl) (Ao (by omega))) rfl fun a O=>mv O rfl rfl fun a O=>Ar O (Ae Try.call159 O (.cons rfl (.cons rfl (.cons rfl .nil))) (J2 p n (n*n) (b0) (c0) (cs0) ((b0,cs0)::D1) β κ C (eqC p n T) _ hp hn0 hn (by omega) hfM1 (fun _ _ hm=>J.fzm hm) hb0 (fun i hi=>hs0.get1 i hi) (hR.more hRm0) hne)) rfl ?_;rintro u w' a ⟨hx,hr⟩ O;have hr:=(KerRel.of) J hr;have J:=J.ext hx;obtain ⟨r,V,hIK,hV,hrn,hrr⟩:=hr;obtain ⟨DV,β9,κ9,C9,ob9,oc9,ocs9,hR9,hos9,hom9,hbg9,hobg9,J⟩:=J.addR hrr;obtain rfl:=hos9.val;have hRm9:∀ x∈(DV++((b0,cs0)::D1)),x∈(DV++((b0,cs0)::D1)):=fun _ h=>h;have hr0:=hpos r V hIK;refine Ar O (He (k:=5) J (Ae Try.call158 O (.cons rfl .nil) (Ix p n (r) (ob9) (oc9) (ocs9) (DV++((b0,cs0)::D1)) β9 κ9 C9 V _ hp13 hn0 hn hr0 (by omega) hV (fun _ _ hm=>J.fzm hm) hom9 (fun i hi=>hos9.get1 i hi) (hR9.more hRm9)))) rfl ?_;rintro u w' a ⟨b15,cap16,cs17,hs18,J,-⟩ O;obtain rfl:=hs18.val;change Ag w w' [some (b1,AD (p:Int) (n:Int) T f),none,none,none,none,some (b15,cs17)] (DV++((b0,cs0)::D1)) at J;refine ag O rfl rfl fun a O=>nt<|wp_ret<|BC rfl O.defers (Ad O rfl) ⟨_,rfl,J.below,?_⟩;exact ⟨r,V,hIK,_,_,_,hs18,J.ge 5 rfl,J.row 5 rfl⟩
end Go.Proofs.Ytkcneleabbjkaaa
