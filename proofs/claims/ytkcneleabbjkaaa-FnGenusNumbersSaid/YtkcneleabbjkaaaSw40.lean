import Derived.Test.YtkcneleabbjkaaaSw63
set_option linter.unusedVariables false
set_option linter.unusedSimpArgs false
namespace Go.Ech
open Go.Sw
theorem Nx (f:Nat->Int)(n m:Nat):sI f (n+m)=sI f n+sI (fun i=>f (n+i)) m:=by
  induction m with
  | zero=>simp [sI]
  | succ m ih =>
    show sI f (n+m+1)=_
    simp only [sI];rw [ih];omega
def augI (F:Nat->Nat->Nat) (i c:Nat):Nat:=if c<6 then F i c else if c=6+i then 1 else 0
theorem Ig {F:Nat->Nat->Nat}{i:Nat}{x:Nat->Int}(hi:i<6):dot 12 (ci (augI F i)) x=dot 6 (ci (F i)) x+x (6+i):=by
  unfold dot
  rw [show 12=6+6 from rfl,Nx]
  congr 1
  . refine (Cs hi fun c hc hO=>?_).trans ?_
    . have h1:¬ 6+c=6+i:=by omega
      show (((if 6+c<6 then F i (6+c) else if 6+c=6+i then 1 else 0:Nat)):Int)*_=0
      rw [if_neg (by omega),if_neg h1];simp
    . show (((if 6+i<6 then F i (6+i) else if 6+i=6+i then 1 else 0:Nat)):Int)*_=_
      rw [if_neg (by omega),if_pos rfl];simp
theorem O4 {n:Nat}{ld:Nat->Nat}(hm:∀ i j,i<j->j<n->ld i<ld j)(hl:∀ i,i<n->ld i<n):∀ i,i<n->ld i=i:=by
  have h1:∀ i,i<n->i<=ld i:=by
    intro i
    induction i with
    | zero=>intro _;omega
    | succ i ih=>intro hi;have:=ih (by omega);have:=hm i (i+1) (by omega) hi;omega
  have h2:∀ d i,i+d+1=n->ld i+d<n:=by
    intro d
    induction d with
    | zero=>intro i hi;have:=hl i (by omega);omega
    | succ d ih=>intro i hi;have:=ih (i+1) (by omega);have:=hm i (i+1) (by omega) (by omega);omega
  intro i hi;have:=h1 i hi;have:=h2 (n - 1 - i) i (by omega)
  omega
def FullK (p n:Nat) (F:Nat->Nat->Nat):Prop:=∃ E ld,Rref p 6 E n ld/\∀ x,Ker p 6 E n x↔Ker p 6 F n x
theorem FullK.zero {p n:Nat}{F:Nat->Nat->Nat}(hp:2<=p)(hn:n<=6)(O:∀ i c,n<=c->F i c=0)(h:FullK p n F){x:Nat->Int}(hx:Ker p 6 F n x)(h0:∀ d,n<=d->d<6->x d=0){c:Nat}(hc:c<n):(p:Int)∣x c:=by
  obtain ⟨E,ld,hR,hK⟩:=h;have hl:∀ i,i<n->ld i<n:=fun i hi=>Decidable.byContradiction fun hno=>
    Gh (c:=ld i) hp hR hK (hR.lt i hi) (fun j _=>O j _ (by omega)) ⟨i,hi,rfl⟩
  have hZ:=O4 hR.mono hl;have:=(hK x).2 hx c hc
  unfold dot at this
  rw [Cs (a:=c) (by omega)] at this
  . have e:=hR.one c hc
    rw [hZ c hc] at e
    simpa [ci,e] using this
  . intro d hd hO
    by_cases hdn:d<n
    . have:=hR.zero d c hdn hc hO
      rw [hZ d hdn] at this
      simp [ci,this]
    . rw [h0 d (by omega) hd];simp
structure IsCop (p n:Nat) (F G:Nat->Nat->Nat):Prop where
  lt:∀ i j,G i j<p
  out:∀ i j,n<=i\/n<=j->G i j=0
  sol:∀ i,i<n->∀ j,j<n->(p:Int)∣sI (fun k=>(F i k:Int)*(G k j:Int)) n - (dl i j:Int)
theorem Mo {p n:Nat}{F:Nat->Nat->Nat}(hp:2<=p)(hn:n<=6)(O:∀ i c,n<=c->F i c=0)(h:FullK p n F){x y:Nat->Nat}{b:Nat->Int}(hx:∀ c,c<n->x c<p)(hy:∀ c,c<n->y c<p)(h1:∀ i,i<n->(p:Int)∣sI (fun k=>(F i k:Int)*(x k:Int)) n - b i)(h2:∀ i,i<n->(p:Int)∣sI (fun k=>(F i k:Int)*(y k:Int)) n - b i):∀ c,c<n->x c=y c:=by
  intro c hc;have hK:Ker p 6 F n (fun c=>if c<n then (x c:Int) - (y c:Int) else 0):=fun i hi=>by
    have h3:=Int.dvd_sub (h1 i hi) (h2 i hi);have e:dot 6 (ci (F i)) (fun c=>if c<n then (x c:Int) - (y c:Int) else 0)=sI (fun k=>(F i k:Int)*(x k:Int)) n - b i - (sI (fun k=>(F i k:Int)*(y k:Int)) n - b i):=by
      unfold dot
      rw [HN hn (fun c h1 _=>by simp [show ¬ c<n by omega])];have:sI (fun k=>(F i k:Int)*(x k:Int)) n=sI (fun c=>ci (F i) c*(if c<n then (x c:Int) - (y c:Int) else 0)) n+sI (fun k=>(F i k:Int)*(y k:Int)) n:=by
        rw [← D6];exact Ao fun c hc=>by rw [if_pos hc];grind
      rw [this]
      show sI (fun c=>ci (F i) c*(if c<n then (x c:Int) - (y c:Int) else 0)) n=_
      omega
    rw [e];exact h3
  have:=h.zero hp hn O hK (fun d h1 _=>by simp [show ¬ d<n by omega]) hc;simp only [if_pos hc] at this;exact DD (hx c hc) (hy c hc) this
theorem IsCop.unique {p n:Nat}{F G G':Nat->Nat->Nat}(hp:2<=p)(hn:n<=6)(O:∀ i c,n<=c->F i c=0)(hf:FullK p n F)(h:IsCop p n F G)(h':IsCop p n F G'):G=G':=by
  funext i j
  by_cases e:n<=i\/n<=j
  . rw [h.out i j e,h'.out i j e]
  . exact Mo hp hn O hf (x:=fun k=>G k j) (y:=fun k=>G' k j) (b:=fun i=>(dl i j:Int)) (fun c _=>h.lt c j) (fun c _=>h'.lt c j) (fun i hi=>h.sol i hi j (by omega)) (fun i hi=>h'.sol i hi j (by omega)) i (by omega)
theorem Lb {p n k:Nat}{F M':Nat->Nat->Nat}{ld:Nat->Nat}(hp:2<=p)(hn0:0<n)(hn:n<=6)(O:∀ i c,n<=c->F i c=0)(hf:FullK p n F)(h:Rref p 12 M' k ld)(hk:k<=n)(hK:∀ x,Ker p 12 M' k x↔Ker p 12 (augI F) n x) :
    k=n/\∀ i,i<n->i<k/\ld i=i:=by
  have hnl:∀ d,n<=d->d<6->¬ DW k ld d:=fun d h1 h2=>Gh hp h hK (by omega) (fun i _=>by rw [augI,if_pos h2];exact O i d h1);have hc:∀ c,c<n->DW k ld c:=by
    intro c hc;refine Decidable.byContradiction fun hno=>?_;have hfk:=h.free_ker (show c<12 by omega) hno;have hx6:∀ d,6<=d->free M' k ld c d=0:=fun d h1=>by
      unfold free;rw [if_neg (by omega)]
      cases e:D7 k ld d with
      | none=>rfl
      | some j =>
        obtain ⟨hj,e2⟩:=CM e
        simp [h.left j hj c (by omega)]
    have hxn:∀ d,n<=d->d<6->free M' k ld c d=0:=fun d h1 h2=>by
      unfold free;rw [if_neg (by omega)]
      cases e:D7 k ld d with
      | none=>rfl
      | some j=>exact absurd ⟨j,CM e⟩ (hnl d h1 h2)
    have hKF:Ker p 6 F n (free M' k ld c):=fun i hi=>by
      have:=(hK _).1 hfk i hi;rw [Ig (by omega),hx6 _ (by omega),Int.add_zero] at this;exact this
    have:=hf.zero hp hn O hKF hxn hc;rw [show free M' k ld c c=1 by simp [free]] at this;have:=Int.le_of_dvd (by omega) this
    omega
  have hZ:∀ i,i<n->i<k/\ld i=i:=by
    intro i
    induction i using Nat.strongRecOn with
    | ind i ih =>
      intro hi;obtain ⟨j,hj,e⟩:=hc i hi;have h1:¬ j<i:=fun hlt2=>by have:=(ih j hlt2 (by omega)).2;omega
      have h2:¬ i<j:=fun hlt2=>by
        have h3:=h.mono i j hlt2 hj;have h4:=ih (ld i) (by omega) (by omega);have:=h.inj h4.1 (show i<k by omega) h4.2
        omega
      have:j=i:=by omega
      subst this;exact ⟨hj,e⟩
  have hkn:k=n:=by have:=(hZ (n - 1) (by omega)).1;omega
  exact ⟨hkn,hZ⟩
theorem Oc {p n k:Nat}{F M':Nat->Nat->Nat}{ld:Nat->Nat}(hp:2<=p)(hn0:0<n)(hn:n<=6)(O:∀ i c,n<=c->F i c=0)(hf:FullK p n F)(h:Rref p 12 M' k ld)(hk:k<=n)(hK:∀ x,Ker p 12 M' k x↔Ker p 12 (augI F) n x)(hH:∀ i c,M' i c<p) :
    k=n/\IsCop p n F (fun i j=>if i<n/\j<n then M' i (6+j) else 0)/\∀ i,i<n->∀ j,n<=j->j<6->M' i (6+j)=0:=by
  obtain ⟨hkn,hZ⟩:=Lb hp hn0 hn O hf h hk hK;refine ⟨hkn,⟨fun i j=>?_,fun i j e=>if_neg (by omega),fun i hi j hj=>?_⟩,fun i hi j h1 h2=>?_⟩
  . show (if _ then _ else _)<p
    split
    . exact hH _ _
    . omega
  . have hno:∀ d,n<=d->¬ DW k ld d:=fun d h1 ⟨q,hq,e⟩=>by have:=(hZ q (by omega)).2;omega
    have hfk:=(hK _).1 (h.free_ker (show 6+j<12 by omega) (hno _ (by omega))) i hi;rw [Ig (by omega)] at hfk;have e1:free M' k ld (6+j) (6+i)=(dl i j:Int):=by
      unfold free dl
      by_cases e:i=j
      . rw [if_pos (by omega),if_pos e];rfl
      . rw [if_neg (by omega),if_neg e]
        cases e2:D7 k ld (6+i) with
        | none=>rfl
        | some q=>exact absurd ⟨q,CM e2⟩ (hno _ (by omega))
    have e2:dot 6 (ci (F i)) (free M' k ld (6+j)) = -1*sI (fun q=>(F i q:Int)*(((if q<n/\j<n then M' q (6+j) else 0:Nat)):Int)) n:=by
      unfold dot
      rw [HN hn (fun c h1 h2=>by
        have:free M' k ld (6+j) c=0:=by
          unfold free;rw [if_neg (by omega)]
          cases e2:D7 k ld c with
          | none=>rfl
          | some q=>exact absurd ⟨q,CM e2⟩ (hno _ h1)
        rw [this];simp),← Ct]
      refine Ao fun q hq=>?_;have:free M' k ld (6+j) q = -(M' q (6+j):Int):=by
        unfold free;rw [if_neg (by omega)]
        have:=h.ldAt_eq (hZ q hq).1;rw [(hZ q hq).2] at this;rw [this]
      rw [this,if_pos ⟨hq,hj⟩];simp only [ci];grind
    rw [e1,e2] at hfk;have:=Int.dvd_neg.2 hfk
    rwa [show -(-1*sI (fun q=>(F i q:Int)*(((if q<n/\j<n then M' q (6+j) else 0:Nat)):Int)) n+(dl i j:Int))=sI (fun q=>(F i q:Int)*(((if q<n/\j<n then M' q (6+j) else 0:Nat)):Int)) n - (dl i j:Int) by omega] at this
  . have hz:Ker p 12 (augI F) n (fun d=>if d=6+j then 1 else 0):=fun q hq=>by
      rw [Ig (by omega)];have:dot 6 (ci (F q)) (fun d=>if d=6+j then 1 else 0)=0:=by
        unfold dot;exact DZ fun d hd=>by show _*(if d=6+j then (1:Int) else 0)=0;rw [if_neg (by omega)];simp
      rw [this,if_neg (by omega)];simp
    have:=(hK _).2 hz i (by omega)
    unfold dot at this
    rw [Cs (a:=6+j) (by omega) (fun d _ hO=>by show _*(if d=6+j then (1:Int) else 0)=0;rw [if_neg hO];simp)] at this;simp only [ci,if_pos,Int.mul_one] at this;have h3:=hH i (6+j);exact DD h3 (by omega) (by simpa using this)
theorem Px {p u:Nat}(hp:primeN p)(hu:u<p)(h0:u≠0):∃ v,u*v%p=1:=by
  have key:∀ q:Nat,(∀ a,a<q->a≠0->∃ v,v<q/\a*v%q=1)->p=q->∃ v,u*v%p=1:=fun q hq e=>by
    subst e;obtain ⟨v,_,h⟩:=hq u hu h0;exact ⟨v,h⟩
  rcases hp with e | e | e | e | e | e
  . exact key 2 (by decide) e
  . exact key 3 (by decide) e
  . exact key 5 (by decide) e
  . exact key 7 (by decide) e
  . exact key 11 (by decide) e
  . exact key 13 (by decide) e
theorem OS {o:Nat->Nat}{N:Nat}(h:¬ ∀ c,c<N->o c=0):∃ t,t<N/\o t≠0/\∀ c,c<t->o c=0:=by
  induction N with
  | zero=>exact absurd (fun c hc=>absurd hc (by omega)) h
  | succ N ih =>
    by_cases e:∀ c,c<N->o c=0
    . refine ⟨N,by omega,fun h0=>h fun c hc=>?_,e⟩
      by_cases ec:c=N
      . rw [ec,h0]
      . exact e c (by omega)
    . obtain ⟨t,h1,h2⟩:=ih e;exact ⟨t,by omega,h2⟩
theorem O1 {p N k:Nat}{E:Nat->Nat->Nat}{ld r:Nat->Nat}(hp:0<p)(h:Rref p N E k ld)(hr:∀ c,r c<p):∃ o,Own p N E k ld r o k/\∀ c,o c<p:=by
  have:∀ j,j<=k->∃ o,Own p N E k ld r o j/\∀ c,o c<p:=by
    intro j
    induction j with
    | zero=>intro _;exact ⟨r,⟨fun c _=>hr c,fun i hi=>absurd hi (by omega),fun x _=>Iff.rfl⟩,hr⟩
    | succ j ih=>intro hj;obtain ⟨o,h1,_⟩:=ih (by omega);exact ⟨_,h1.step hp h (by omega),fun c=>EN hp⟩
  exact this k (Nat.le_refl _)
theorem Hg {p N m:Nat}{M:Nat->Nat->Nat}(hp:primeN p)(I:∀ i c,M i c<p):∃ k E ld,Rref p N E k ld/\k<=m/\∀ x,Ker p N E k x↔Ker p N M m x:=by
  have hp0:0<p:=by have:=hp.two;omega
  induction m with
  | zero=>exact ⟨0,M,fun _=>0,⟨fun i hi=>absurd hi (by omega),fun i j _ hi=>absurd hi (by omega),fun i hi=>absurd hi (by omega),fun i hi=>absurd hi (by omega),fun i j hi=>absurd hi (by omega),fun i hi=>absurd hi (by omega)⟩,Nat.le_refl _,fun x=>Iff.rfl⟩
  | succ m ih =>
    obtain ⟨k,E,ld,hR,hk,hK⟩:=ih;obtain ⟨o,ho,ho2⟩:=O1 hp0 hR (I m)
    by_cases hz:∀ c,c<N->o c=0
    . refine ⟨k,E,ld,hR,by omega,fun x=>?_⟩
      rw [Ker.snoc,← hK];exact ⟨fun h=>⟨h,(ho.ker x h).1 (If hz)⟩,fun h=>h.1⟩
    . obtain ⟨t,ht,h0,hlow⟩:=OS hz
      obtain ⟨v,hv⟩:=Px hp (ho2 t) h0;have hO:∀ i,i<k->ld i≠t:=fun i hi e=>h0 (by rw [← e];exact ho.zero i hi);obtain ⟨b1,b2,b3⟩:=Ik hR hO;have f:Fits p N E k ld (fun c=>o c*v%p) t (below k ld t):=
        ⟨ht,hv,fun c hc=>by simp [hlow c hc],fun c _=>Nat.mod_lt _ hp0,fun i hi=>by simp [ho.zero i hi],b1,b2,b3⟩
      refine ⟨k+1,_,_,hR.insert hp0 f,by omega,fun x=>?_⟩;rw [GI hp0 b1,Ker.snoc,← hK];have hsc:(p:Int)∣dot N (ci fun c=>o c*v%p) x↔(p:Int)∣dot N (ci o) x:=HM (v:=v) (u:=o t) (fun c _=>rfl) hv;rw [hsc];exact ⟨fun h=>⟨h.1,(ho.ker x h.1).1 h.2⟩,fun h=>⟨h.1,(ho.ker x h.1).2 h.2⟩⟩
theorem GP {p n:Nat}{F:Nat->Nat->Nat}(hp:primeN p)(hn0:0<n)(hn:n<=6)(O:∀ i c,n<=c->F i c=0)(hFp:∀ i c,F i c<p)(hf:FullK p n F):∃ G,IsCop p n F G:=by
  have hp2:=hp.two;obtain ⟨k,E,ld,hR,hk,hK⟩:=Hg (N:=12) (m:=n) (M:=augI F) hp (fun i c=>by unfold augI;split;exact hFp i c;split<;>omega);refine ⟨_,(Oc (M':=fun i c=>if i<n/\c<12 then E i c else 0) hp2 hn0 hn O hf (k:=k) (ld:=ld) ?_ hk ?_ ?_).2.1⟩
  . have e:∀ i,i<k->∀ c,c<12->(if i<n/\c<12 then E i c else 0)=E i c:=fun i hi c hc=>if_pos ⟨by omega,hc⟩
    exact ⟨hR.lt,hR.mono,fun i hi=>(e i hi _ (hR.lt i hi)).trans (hR.one i hi),fun i hi c hc=>(e i hi c (by have:=hR.lt i hi;omega)).trans (hR.left i hi c hc),fun i j hi hj hO=>(e j hj _ (hR.lt i hi)).trans (hR.zero i j hi hj hO),fun i hi c hc=>by rw [e i hi c hc];exact hR.small i hi c hc⟩
  . intro x
    rw [← hK]
    unfold Ker dot
    have e:∀ i,i<k->sI (fun c=>ci (fun c=>if i<n/\c<12 then E i c else 0) c*x c) 12=sI (fun c=>ci (E i) c*x c) 12:=fun i hi=>Ao fun c hc=>by
      show (((if i<n/\c<12 then E i c else 0:Nat)):Int)*_=_
      rw [if_pos ⟨by omega,hc⟩]
    exact ⟨fun h i hi=>by rw [← e i hi];exact h i hi,fun h i hi=>by rw [e i hi];exact h i hi⟩
  . intro i c
    show (if _ then _ else _)<p
    by_cases e:i<n/\c<12
    . rw [if_pos e]
      by_cases e2:i<k
      . exact hR.small i e2 c e.2
      . exact absurd e2 (by have:=(Lb hp2 hn0 hn O hf hR hk hK).1;omega)
    . rw [if_neg e];omega
end Go.Ech
namespace Go.Sw
open Go Go.RowKit
variable {P : Program}
theorem J2 {X:List Nat}{w0 w:World}{L:Own}{D:A4}{T e:TypeId}{z:Value}{size bytes n k m b bx ox cx:Nat}{cs:Array Value}{f g:Nat->Value}(hT:ND P T=some (e,some z,size,bytes))(hz:z.cells.size=size)(hs0:0<size)
    (I:MemX X w0 w L D) (hblk:Blk w b cs) (hget:∀ i,i<n*size->cs[i]? = some (f i)) (hg:∀ i,i<m*size->w.cell? ⟨bx,ox+i,none⟩=some (g i))
    (hm:0<m) (h63:n+m<=maxLen) (hb:(n+m)*bytes<=140737488355328) (ty:TypeId) :
    ∃ u w' b' cap' cs',(Builtin.append_ #[T,T] ty #[.slice (some ⟨b,0,none⟩) n n,.slice (some ⟨bx,ox,none⟩) m cx]).run P w = .ok u w'/\MemX X w0 w' (L.set k (some (b',cs'))) D/\SlAt size u (some (b',cs')) (n+m) b' cap' cs' (fun i=>if i<n*size then f i else g (i - n*size))/\Ext w w':=by
  unfold ND at hT
  cases hu:P.underlying T with
  | none=>simp [hu] at hT
  | some dd =>
    cases dd<;>simp [hu] at hT
    rename_i el
    obtain ⟨inf,hinf,rfl,hz0,hsz,hby⟩:=hT;subst hsz;subst hby
    have hm0:n+m<=9223372036854775807:=by simp only [maxLen] at h63;omega
    have hnl:(((List.range (m*inf.size)).map g)).length=m*inf.size:=by simp
    have hnews:∀ j u,((List.range (m*inf.size)).map g)[j]? = some u->w.cell? ((⟨bx,ox,none⟩:Addr).add j)=some u:=by
      intro j u hj;have hH:j<m*inf.size:=by have:=(List.getElem?_eq_some_iff.1 hj).1;simpa using this
      rw [Addr.add_lit,hg j hH]
      simp [hH] at hj;rw [hj]
    have holds:∀ j u,((List.range (n*inf.size)).map f)[j]? = some u->w.cell? ((⟨b,0,none⟩:Addr).add j)=some u:=by
      intro j u hj;have hH:j<n*inf.size:=by have:=(List.getElem?_eq_some_iff.1 hj).1;simpa using this
      rw [Addr.add_lit,Nat.zero_add,hblk.cell,hget j hH]
      simp [hH] at hj;rw [hj]
    have hr:=run_append_grow (P:=P) w T ty el inf z hu hinf hz0 ⟨b,0,none⟩ n n ((List.range (n*inf.size)).map f) (by simp) holds ⟨bx,ox,none⟩ m cx _ hnl hnews (by omega) (by omega) (growslice_fits (by omega) hb);refine ⟨_,_,_,_,_,hr,I.fill (DM _ _) k (Blk.new w.drew _ _) (Nat.le_refl _),⟨rfl,rfl,grownCap_ge w _ _ _,grownCap_le_maxLen w _ _ _ h63,?_,?_⟩,DM _ _⟩
    . have:=grownCap_ge w (n+m) n el
      simp only [Array.size_append,List.size_toArray,hnl,size_zeroCells,hz,List.length_map,List.length_range,← Nat.add_mul]
      congr 1;omega
    . intro i hi
      have e1:(n+m)*inf.size=n*inf.size+m*inf.size:=Nat.add_mul ..;rw [Array.getElem?_append,if_pos (by simp only [Array.size_append,List.size_toArray,List.length_map,List.length_range];omega),Array.getElem?_append]
      by_cases hH:i<n*inf.size
      . rw [if_pos (by simpa using hH),if_pos hH];simp [hH]
      . rw [if_neg (by simpa using hH),if_neg hH]
        simp only [List.size_toArray,List.length_map,List.length_range];rw [List.getElem?_toArray,List.getElem?_map,List.getElem?_range (by omega)];rfl
section
variable {n : Nat} {F : List (Nat × Value)} {a : Act} {X : List Nat} {w w0 : World} {L : Own} {D : A4}
variable {d : Option Tmp} {t : TypeId} {pos : String} {af : Array Edge} {gd : Option (Nat × Bool)} {T : TypeId} {x y : Operand}
theorem ML {e:TypeId}{z:Value}{size bytes N k m b bx ox cx:Nat}{cs:Array Value}{f g:Nat->Value}(hT:ND P T=some (e,some z,size,bytes))(hz:z.cells.size=size)(hs0:0<size)
    (I:MemX X w0 w L D) (O:Fr n a F) (hx:look F x=some (.slice (some ⟨b,0,none⟩) N N)) (hy:look F y=some (.slice (some ⟨bx,ox,none⟩) m cx)) (hblk:Blk w b cs) (hget:∀ i,i<N*size->cs[i]? = some (f i)) (hg:∀ i,i<m*size->w.cell? ⟨bx,ox+i,none⟩=some (g i))
    (hm:0<m) (h63:N+m<=maxLen) (hb:(N+m)*bytes<=140737488355328) :
    Does P ⟨d,.call { callee:=.builtin .append,args:=#[x,y],argTypes:=#[T,T] },t,pos,af,gd⟩ a w (fun u w'=>∃ b' cap' cs',SlAt size u (some (b',cs')) (N+m) b' cap' cs' (fun i=>if i<N*size then f i else g (i - N*size))/\MemX X w0 w' (L.set k (some (b',cs'))) D):=
  ⟨fun K Q hK=>by
    obtain ⟨u,w',b',cap',cs',hr,h2,h3,_⟩:=J2 (P:=P) (T:=T) hT hz hs0 I hblk hget hg hm h63 hb t
    unfold Oper.wp execOp
    simp only [resolve,invoke,builtin,Sem.run_bind,Sem.run_pure,Result.andThen_ok,List.map_toArray,List.map_cons,List.map_nil,O.eval hx,O.eval hy]
    rw [hr]
    exact hK u w' ⟨b',cap',cs',h3,h2⟩⟩
theorem NW {e:TypeId}{b o len cap i s:Nat}{κ:IntKind}{X:Int}(hT:P.underlying T=some (.slice e))(he:DT P e=some s)(O:Fr n a F)(hx:look F x=some (.slice (some ⟨b,o,none⟩) len cap))(hy:look F y=some (.int κ X))(hX:X=(i:Int))(hi:i<=len)(hl:len<=cap)(hc:i<cap) :
    BX P ⟨d,.slice T x (some y) none none,t,pos,af,gd⟩ a w (.slice (some ⟨b,o+i*s,none⟩) (len - i) (cap - i)):=by
  subst hX;refine Ah ?_;have h1:(0:Int)<=(i:Int)/\(i:Int)<=(len:Int):=by omega
  have h2:=run_sizeOf he w;have h4:¬ cap=i:=by omega
  have h5:¬ cap - i=0:=by omega
  simp [execOp,Instr.sliceAt,Instr.slice,run_underlying hT,O.eval hx,O.eval hy,Instr.sliceBounds,Instr.sliceBound,asIntOf,h1,h2,h4,h5,Addr.add_lit,hi]
end
structure RowsPD (D:A4) (N m:Nat) (κ:Nat->Nat) (Xs:Nat->Nat->Value) (γ:Nat->Nat) (M:Nat->Nat->Nat):Prop where
  mem:∀ i,i<m->(γ i,rowP N (κ (γ i)) (M i) (Xs (γ i)))∈D
  inj:∀ i j,i<m->j<m->γ i=γ j->i=j
namespace RowsPD
variable {D D' : A4} {N m : Nat} {κ : Nat -> Nat} {Xs : Nat -> Nat -> Value} {γ : Nat -> Nat} {M : Nat -> Nat -> Nat}
theorem none:RowsPD D N 0 κ Xs γ M:=⟨fun i hi=>absurd hi (by omega),fun i j hi=>absurd hi (by omega)⟩
theorem more (h:RowsPD D N m κ Xs γ M)(hs:∀ x∈D,x∈D'):RowsPD D' N m κ Xs γ M:=⟨fun i hi=>hs _ (h.mem i hi),h.inj⟩
theorem congr {M':Nat->Nat->Nat}(h:RowsPD D N m κ Xs γ M)(e:∀ i,i<m->∀ c,c<N->M i c=M' i c):RowsPD D N m κ Xs γ M':=
  ⟨fun i hi=>by rw [← Lv (e i hi)];exact h.mem i hi,h.inj⟩
theorem snoc (h:RowsPD D N m κ Xs γ M){b cap:Nat}{r:Nat->Nat}{x:Nat->Value}{cs:Array Value}(hc:cs=rowP N cap r x)(hm:(b,cs)∈D)(hn:∀ i,i<m->b≠γ i):RowsPD D N (m+1) (fun y=>if y=b then cap else κ y) (fun y=>if y=b then x else Xs y) (up γ m b) (Go.Ech.upE M m r):=by
  refine ⟨fun i hi=>?_,fun i j hi hj e=>?_⟩
  . by_cases e:i=m
    . subst e;simp only [CS,Go.Ech.upE,if_true];rw [← hc];exact hm
    . have hO:¬ γ i=b:=fun h2=>hn i (by omega) h2.symm
      simp only [CR e,Go.Ech.upE,if_neg e,if_neg hO];exact h.mem i (by omega)
  . unfold up at e
    by_cases e1:i=m<;>by_cases e2:j=m
    . omega
    . rw [if_pos e1,if_neg e2] at e;exact absurd e (hn j (by omega))
    . rw [if_neg e1,if_pos e2] at e;exact absurd e.symm (hn i (by omega))
    . rw [if_neg e1,if_neg e2] at e;exact h.inj i j (by omega) (by omega) e
end RowsPD
theorem MemX.addD' {X:List Nat}{w0 w:World}{L:Own}{D D':A4}(h:MemX X w0 w L D)(hD:∀ b cs,(b,cs)∈D'->Blk w b cs/\∀ (k:Nat) c ds,L[k]? = some (some (c,ds))->c≠b):MemX X w0 w L (D'++D):=
  ⟨h.bel,h.blk,h.apart,fun b cs hm=>by
    rcases List.mem_append.1 hm with hm | hm
    . exact hD b cs hm
    . exact h.froz b cs hm⟩
theorem MemX.addBoL {X:List Nat}{w0 w w':World}{L:Own}{D:A4}{N m:Nat}{M:Nat->Nat->Nat}{u:Value}(k:Nat)(h:MemX X w0 w L D)(hx:Ext w w')(hf:BytesOut w w' N m M u) :
    ∃ (D':A4) (β:Nat->Nat) (b:Nat) (cs:Array Value),RowsB D' N m β M/\u = .slice (some ⟨b,0,none⟩) m m/\cs.size=m/\(∀ i,i<m->cs[0+i*1]? = some (.slice (some ⟨β i,0,none⟩) N N))/\MemX X w0 w' (L.set k (some (b,cs))) (D'++D):=by
  obtain ⟨D1,β,b,cs,h1,h2,h3,h4,h5,h6,h7⟩:=hf;refine ⟨(List.range m).map (fun i=>(β i,Al N (fun c=>.int .u8 (M i c:Int)))),β,b,cs,⟨fun i hi=>List.mem_map.2 ⟨i,by simpa using hi,rfl⟩,h2.inj⟩,h3,h4,h5,?_⟩;have hb:=h1 _ _ h6;refine (h.fill hx k hb.2 hb.1).addD' fun c ds hm=>?_;obtain ⟨i,hi,e⟩:=List.mem_map.1 hm;simp only [Prod.mk.injEq] at e;obtain ⟨rfl,rfl⟩:=e;have hi:i<m:=by simpa using hi
  have hr:=h1 _ _ (h2.mem i hi);refine ⟨hr.2,fun j c ds hj=>?_⟩;rw [List.getElem?_set] at hj
  split at hj
  . split at hj
    . simp only [Option.some.injEq,Prod.mk.injEq] at hj;obtain ⟨rfl,rfl⟩:=hj;exact fun e=>h7 i hi e.symm
    . cases hj
  . have:=(h.blk j c ds hj).2.lt
    have:=hr.1
    omega
theorem MemX.reduced {X:List Nat}{w0 w w':World}{L:Own}{D:A4}{N m k b0:Nat}{κ:Nat->Nat}{Xs:Nat->Nat->Value}{γ γ':Nat->Nat}{M:Nat->Nat->Nat}{cs cs':Array Value}{R:Nat->Array Value}(h:MemX X w0 w L D)(hk:L[k]? = some (some (b0,cs)))(hP:RowsPD D N m κ Xs γ M)(hb:w0.heap.size<=b0)(hge:∀ i,i<m->w0.heap.size<=γ i)
    (hx:ExtX (BF b0 m γ) w w') (hfr:∀ i,i<m->w.heap.size<=γ' i\/γ' i∈BF b0 m γ) (hb0:Blk w' b0 cs') (hbr:∀ i,i<m->Blk w' (γ' i) (R i)):MemX X w0 w' (L.set k none) ((b0,cs')::(List.range m).map (fun i=>(γ' i,R i))):=by
  have key:∀ (j:Nat) c ds,(L.set k none)[j]? = some (some (c,ds))->j≠k/\L[j]? = some (some (c,ds)):=by
    intro j c ds hj;rw [List.getElem?_set] at hj
    split at hj
    . split at hj
      . simp at hj
      . cases hj
    . rename_i e;exact ⟨fun e2=>e e2.symm,hj⟩
  have hnb:∀ (j:Nat) c ds,(L.set k none)[j]? = some (some (c,ds))->c≠b0:=fun j c ds hj e=>by
    subst e;exact (key j _ ds hj).1 (h.apart j k _ _ _ (key j _ ds hj).2 hk)
  have hnY:∀ (j:Nat) c ds,(L.set k none)[j]? = some (some (c,ds))->c ∉ BF b0 m γ:=fun j c ds hj hm=>by
    rcases List.mem_cons.1 hm with e | hm
    . exact hnb j c ds hj e
    . obtain ⟨i,hi,e⟩:=List.mem_map.1 hm
      exact (h.froz _ _ (hP.mem i (by simpa using hi))).2 j c ds (key j c ds hj).2 e.symm
  have h2:MemX X w0 w' (L.set k none) []:=((h.drop k).sub [] (fun _ hx=>by cases hx)).extY hx fun y hy=>⟨by
    rcases List.mem_cons.1 hy with e | hm
    . rw [e];exact hb
    . obtain ⟨i,hi,rfl⟩:=List.mem_map.1 hm
      exact hge i (by simpa using hi),fun j c ds hj e=>hnY j c ds hj (e ▸ hy),fun _ _ hm=>by cases hm⟩
  have h3:=h2.addD' (D':=(b0,cs')::(List.range m).map (fun i=>(γ' i,R i))) fun c ds hm=>by
    rcases List.mem_cons.1 hm with e | hm
    . simp only [Prod.mk.injEq] at e;obtain ⟨rfl,rfl⟩:=e;exact ⟨hb0,hnb⟩
    . obtain ⟨i,hi,e⟩:=List.mem_map.1 hm
      simp only [Prod.mk.injEq] at e;obtain ⟨rfl,rfl⟩:=e;have hi:i<m:=by simpa using hi
      refine ⟨hbr i hi,fun j c ds hj e=>?_⟩
      rcases hfr i hi with h4 | h4
      . have:=(h.blk j c ds (key j c ds hj).2).2.lt;omega
      . exact hnY j c ds hj (e ▸ h4)
  rwa [List.append_nil] at h3
theorem NH {m i:Nat}{x:Nat×Array Value}{γ:Nat->Nat}{R:Nat->Array Value}(hi:i<m):(γ i,R i)∈x::(List.range m).map (fun i=>(γ i,R i)):=
  List.mem_cons_of_mem _ (List.mem_map.2 ⟨i,by simpa using hi,rfl⟩)
theorem Nz {K:Nat}{f:Nat->Nat}{x:Nat->Value}(hK:12<=K):(rowP 12 K f x).extract (0+6*1) (0+6*1+6)=AG (fun q=>f (6+q)):=
  CW rfl (by rw [JT];omega) fun q hq=>EJ _ (by omega) (by omega) hK
theorem PP {F:Nat->Nat->Nat}{i c:Nat}(hc:c<12):(if c<6*1 then Value.int .u8 (F i c:Int) else .int .u8 (((if c - 6*1=i then 1 else 0:Nat)):Int)) = .int .u8 (Go.Ech.augI F i c:Int):=by
  unfold Go.Ech.augI
  by_cases e:c<6
  . rw [if_pos (by omega),if_pos e]
  . rw [if_neg (by omega),if_neg e]
    by_cases e2:c=6+i
    . rw [if_pos (by omega),if_pos e2]
    . rw [if_neg (by omega),if_neg e2]
end Go.Sw
namespace Go.Ech
open Go.Sw
def GQ (n:Nat) (F:Nat->Nat->Nat) (j i c:Nat):Nat:=if c<n then F i c else if i=j then 1 else 0
theorem NA {p n k j:Nat}{F G E:Nat->Nat->Nat}{ld:Nat->Nat}(hp:2<=p)(hn:n<=6)(hj:j<n)(O:∀ i c,n<=c->F i c=0)(hf:FullK p n F)(hG:IsCop p n F G)(h:Rref p (n+1) E k ld)(hK:∀ x,Ker p (n+1) E k x↔Ker p (n+1) (GQ n F j) n x) :
    (k=n/\∀ i,i<n->ld i=i)/\∀ i,i<n->E i n=G i j:=by
  have hd:∀ (x:Nat->Nat) i,dot (n+1) (ci (GQ n F j i)) (Fv n x)=sI (fun q=>(F i q:Int)*(x q:Int)) n - (dl i j:Int):=fun x i=>by
    unfold dot;simp only [sI]
    have e1:sI (fun c=>ci (GQ n F j i) c*Fv n x c) n=sI (fun q=>(F i q:Int)*(x q:Int)) n:=Ao fun c hc=>by
      show (((if c<n then F i c else _:Nat)):Int)*_=_
      rw [if_pos hc,GU hc]
    have e2:ci (GQ n F j i) n*Fv n x n = -(dl i j:Int):=by
      show (((if n<n then F i n else if i=j then 1 else 0:Nat)):Int)*_=_
      rw [if_neg (by omega),Gz];unfold dl;omega
    rw [e1,e2];omega
  have hx:Ker p (n+1) E k (Fv n fun c=>G c j):=(hK _).2 fun i hi=>by rw [hd];exact hG.sol i hi j hj
  have hJ:=EO hp h (fun c=>G c j) (fun i _=>hG.lt i j) hx fun y hy hky=>by
    refine Mo hp hn O hf (b:=fun i=>(dl i j:Int)) hy (fun c _=>hG.lt c j) (fun i hi=>?_) (fun i hi=>hG.sol i hi j hj);have:=(hK _).1 hky i hi
    rwa [hd] at this
  exact ⟨⟨hJ.k,hJ.ld⟩,fun i hi=>((FY h hJ (fun c=>G c j) (fun i _=>hG.lt i j)).1 hx i hi).symm⟩
end Go.Ech
namespace Go.Sw
open Go Go.RowKit Go.Ech
def TabOut (w w':World) (N k:Nat) (f:Nat->Nat->Value) (u:Value):Prop:=∃ (D:A4) (β κ:Nat->Nat) (C:Nat->Array Value) (b cap:Nat) (cs:Array Value),
  (∀ x ds,(x,ds)∈D->w.heap.size<=x/\Blk w' x ds)/\RowsD D N k β κ C f/\SlAt 1 u (some (b,cs)) k b cap cs (fun i=>.slice (some ⟨β i,0,none⟩) N (κ i))/\(b,cs)∈D/\(∀ i j,i<k->j<k->β i=β j->i=j)/\∀ i,i<k->β i≠b
theorem TabOut.rows {w w':World}{N k:Nat}{f:Nat->Nat->Value}{u:Value}(h:TabOut w w' N k f u):RowsOut w w' N k f u:=by
  obtain ⟨D,β,κ,C,b,cap,cs,h1,h2,h3,h4,_⟩:=h;exact ⟨D,β,κ,C,b,cap,cs,h1,h2,h3,h4⟩
theorem TabOut.of {w w':World}{L:Own}{D:A4}{N k q:Nat}{β κ:Nat->Nat}{C:Nat->Array Value}{f:Nat->Nat->Value}{u:Value}{b cap:Nat}{cs:Array Value}(I:AT w w' L D)(hR:RowsD D N k β κ C f)
    (hq:L[q]? = some (some (b,cs))) (hs:SlAt 1 u (some (b,cs)) k b cap cs (fun i=>.slice (some ⟨β i,0,none⟩) N (κ i))) (hge:∀ i,i<k->w.heap.size<=β i) (hi:∀ i j,i<k->j<k->β i=β j->i=j):TabOut w w' N k f u:=by
  refine ⟨(b,cs)::(List.range k).map (fun i=>(β i,C i)),β,κ,C,b,cap,cs,fun x ds hx=>?_,⟨fun i hi=>?_,hR.sl⟩,hs,List.mem_cons_self ..,hi,fun i hi e=>(I.froz _ _ (hR.mem i hi)).2 q b cs hq e.symm⟩
  . rcases List.mem_cons.1 hx with e | hx
    . simp only [Prod.mk.injEq] at e;obtain ⟨rfl,rfl⟩:=e;exact ⟨I.ge q hq,I.row q hq⟩
    . obtain ⟨i,hi,e⟩:=List.mem_map.1 hx
      simp only [Prod.mk.injEq] at e;obtain ⟨rfl,rfl⟩:=e;have hi:i<k:=by simpa using hi
      exact ⟨hge i hi,I.fzm (hR.mem i hi)⟩
  . exact List.mem_cons_of_mem _ (List.mem_map.2 ⟨i,by simpa using hi,rfl⟩)
theorem MemX.addTab {X:List Nat}{w0 w w':World}{L:Own}{D:A4}{N m:Nat}{f:Nat->Nat->Value}{u:Value}(k:Nat)(h:MemX X w0 w L D)(hx:Ext w w')(hf:TabOut w w' N m f u) :
    ∃ (D':A4) (β κ:Nat->Nat) (C:Nat->Array Value) (b cap:Nat) (cs:Array Value),RowsD D' N m β κ C f/\SlAt 1 u (some (b,cs)) m b cap cs (fun i=>.slice (some ⟨β i,0,none⟩) N (κ i))/\(∀ i j,i<m->j<m->β i=β j->i=j)/\(∀ i,i<m->w0.heap.size<=β i)/\(∀ i,i<m->∀ x∈D,x.1≠β i)/\MemX X w0 w' (L.set k (some (b,cs))) (D'++D):=by
  obtain ⟨D1,β,κ,C,b,cap,cs,h1,h2,h3,h4,h5,h6⟩:=hf;refine ⟨(List.range m).map (fun i=>(β i,C i)),β,κ,C,b,cap,cs,⟨fun i hi=>List.mem_map.2 ⟨i,by simpa using hi,rfl⟩,h2.sl⟩,h3,h5,fun i hi=>Nat.le_trans h.bel.size (h1 _ _ (h2.mem i hi)).1,fun i hi x hx e=>?_,?_⟩
  . have:=(h.froz x.1 x.2 hx).1.lt
    have:=(h1 _ _ (h2.mem i hi)).1
    omega
  . have hb:=h1 _ _ h4
    refine (h.fill hx k hb.2 hb.1).addD' fun c ds hm=>?_;obtain ⟨i,hi,e⟩:=List.mem_map.1 hm;simp only [Prod.mk.injEq] at e;obtain ⟨rfl,rfl⟩:=e;have hi:i<m:=by simpa using hi
    have hr:=h1 _ _ (h2.mem i hi);refine ⟨hr.2,fun j c ds hj=>?_⟩;rw [List.getElem?_set] at hj
    split at hj
    . split at hj
      . simp only [Option.some.injEq,Prod.mk.injEq] at hj;obtain ⟨rfl,rfl⟩:=hj;exact fun e=>h6 i hi e.symm
      . cases hj
    . have:=(h.blk j c ds hj).2.lt
      have:=hr.1
      omega
def FS (D:A4) (b:Nat):A4:=D.filter (fun x=>decide (x.1≠b))
theorem mem_offD {D:A4}{b:Nat}{x:Nat×Array Value}:x∈FS D b↔x∈D/\x.1≠b:=by
  unfold FS;rw [List.mem_filter];simp
theorem MemX.thaw {X:List Nat}{w0 w:World}{L:Own}{D:A4}(k:Nat)(h:MemX X w0 w L D){b:Nat}{cs:Array Value}(hm:(b,cs)∈D)(hb:w0.heap.size<=b):MemX X w0 w (L.set k (some (b,cs))) (FS D b):=by
  have hb1:=h.froz b cs hm;have key:∀ (j:Nat) c ds,(L.set k (some (b,cs)))[j]? = some (some (c,ds))->(j=k/\c=b/\ds=cs)\/(j≠k/\L[j]? = some (some (c,ds))):=by
    intro j c ds hj;rw [List.getElem?_set] at hj
    split at hj
    . split at hj
      . simp only [Option.some.injEq,Prod.mk.injEq] at hj;rename_i e _;exact .inl ⟨e.symm,hj.1.symm,hj.2.symm⟩
      . cases hj
    . rename_i e;exact .inr ⟨fun e2=>e e2.symm,hj⟩
  refine ⟨h.bel,fun j c ds hj=>?_,fun i j c es ds hi hj=>?_,fun c ds hc=>⟨(h.froz c ds (mem_offD.1 hc).1).1,fun j e es hj=>?_⟩⟩
  . rcases key j c ds hj with ⟨_,rfl,rfl⟩ | ⟨_,hj⟩
    . exact ⟨.inl hb,hb1.1⟩
    . exact h.blk j c ds hj
  . rcases key i c es hi with ⟨e1,e2,_⟩ | ⟨n1,hi⟩<;>rcases key j c ds hj with ⟨e3,e4,_⟩ | ⟨n2,hj⟩
    . omega
    . exact absurd e2 (hb1.2 j c ds hj)
    . exact absurd e4 (hb1.2 i c es hi)
    . exact h.apart i j c es ds hi hj
  . rcases key j e es hj with ⟨_,rfl,_⟩ | ⟨_,hj⟩
    . exact fun e=>(mem_offD.1 hc).2 e.symm
    . exact (h.froz c ds (mem_offD.1 hc).1).2 j e es hj
structure RowsC (D:A4) (m:Nat) (β:Nat->Nat) (R:Nat->Array Value):Prop where
  mem:∀ i,i<m->(β i,R i)∈D
  inj:∀ i j,i<m->j<m->β i=β j->i=j
namespace RowsC
variable {D D' : A4} {m : Nat} {β : Nat -> Nat} {R : Nat -> Array Value}
theorem none:RowsC D 0 β R:=⟨fun i hi=>absurd hi (by omega),fun i j hi=>absurd hi (by omega)⟩
theorem more (h:RowsC D m β R)(hs:∀ x∈D,x∈D'):RowsC D' m β R:=⟨fun i hi=>hs _ (h.mem i hi),h.inj⟩
theorem congr {R':Nat->Array Value}(h:RowsC D m β R)(e:∀ i,i<m->R i=R' i):RowsC D m β R':=⟨fun i hi=>by rw [← e i hi];exact h.mem i hi,h.inj⟩
theorem setRow (h:RowsC D m β R){i:Nat}(hi:i<m)(cs:Array Value):RowsC (Cv D (β i) cs) m β (upE R i cs):=
  ⟨fun j hj=>by
    rw [mem_updD]
    by_cases e:j=i
    . subst e;exact .inl ⟨rfl,if_pos rfl,_,h.mem j hj⟩
    . simp only [upE,if_neg e];exact .inr ⟨fun e2=>e (h.inj _ _ hj hi e2),h.mem j hj⟩,h.inj⟩
theorem snoc (h:RowsC D m β R){b:Nat}{cs:Array Value}(hm:(b,cs)∈D)(hn:∀ i,i<m->b≠β i):RowsC D (m+1) (up β m b) (upE R m cs):=by
  refine ⟨fun i hi=>?_,fun i j hi hj e=>?_⟩
  . by_cases e:i=m
    . subst e;simp only [CS,upE,if_true];exact hm
    . simp only [CR e,upE,if_neg e];exact h.mem i (by omega)
  . unfold up at e
    by_cases e1:i=m<;>by_cases e2:j=m
    . omega
    . rw [if_pos e1,if_neg e2] at e;exact absurd e (hn j (by omega))
    . rw [if_neg e1,if_pos e2] at e;exact absurd e.symm (hn i (by omega))
    . rw [if_neg e1,if_neg e2] at e;exact h.inj i j (by omega) (by omega) e
end RowsC
theorem Ph {m b:Nat}{β:Nat->Nat}(h:∀ i j,i<m->j<m->β i=β j->i=j)(hn:∀ i,i<m->b≠β i):∀ i j,i<m+1->j<m+1->up β m b i=up β m b j->i=j:=fun i j hi hj e=>by
  unfold up at e
  by_cases e1:i=m<;>by_cases e2:j=m
  . omega
  . rw [if_pos e1,if_neg e2] at e;exact absurd e (hn j (by omega))
  . rw [if_neg e1,if_pos e2] at e;exact absurd e.symm (hn i (by omega))
  . rw [if_neg e1,if_neg e2] at e;exact h i j (by omega) (by omega) e
def Dv (n:Nat) (f:Nat->Nat):Array Value:=Al n (fun c=>.int .i64 (f c:Int))
theorem Oy {n b:Nat}{f:Nat->Nat}(hn:n<=100):SlAt 1 (.slice (some ⟨b,0,Option.none⟩) n n) (some (b,Dv n f)) n b n (Dv n f) (fun c=>.int .i64 (f c:Int)):=
  ⟨rfl,rfl,Nat.le_refl _,by unfold maxLen;omega,by unfold Dv;rw [Bf];omega,fun i hi=>by unfold Dv;exact CF (by omega)⟩
theorem N0 {n i x:Nat}{f g:Nat->Nat}{o:Nat}(ho:o=i)(hi:i<n)(hg:∀ c,c<n->g c=if c=i then x else f c):(Dv n f).setIfInBounds o (.int .i64 (x:Int))=Dv n g:=by
  subst ho
  unfold Dv
  exact Bq fun c hc=>by rw [hg c hc];by_cases e:c=o<;>simp [e]
theorem Sl.snocC {u:Value}{e:Option (Nat×Array Value)}{n N b:Nat}{β:Nat->Nat}(h:Sl 1 u e (n+1) (fun i=>if i<n*1 then (fun i=>.slice (some ⟨β i,0,Option.none⟩) N N) i else (fun _=>.slice (some ⟨b,0,Option.none⟩) N N) (i - n*1))) :
    Sl 1 u e (n+1) (fun i=>.slice (some ⟨up β n b i,0,Option.none⟩) N N):=
  h.congr fun i hi=>by
    by_cases e:i<n
    . rw [if_pos (by omega)];simp only [CR (show i≠n by omega)]
    . rw [if_neg (by omega)];simp only [show i=n by omega,CS]
theorem RowsC.rowsD {D:A4}{m N:Nat}{β:Nat->Nat}{M:Nat->Nat->Nat}(h:RowsC D m β (fun i=>Dv N (M i)))(hN:N<=100):RowsD D N m β (fun _=>N) (fun i=>Dv N (M i)) (fun i c=>.int .i64 (M i c:Int)):=
  ⟨h.mem,fun _ _=>Oy hN⟩
theorem EK {n:Nat}{f g:Nat->Nat}(h:∀ c,c<n->f c=g c):Dv n f=Dv n g:=A5 fun c hc=>by rw [h c hc]
theorem SlAt.vec0 {u:Value}{e:Option (Nat×Array Value)}{N b cap:Nat}{cs:Array Value}{V:Nat->Nat->Nat}(h:SlAt 6 u e N b cap cs (fun c=>.int .u8 (V (c / 6) (c%6):Int)))(i:Nat)(hi:i<N):cs.extract (0+i*6) (0+i*6+6)=AG (V i):=by
  rw [Nat.zero_add];exact h.vec i hi
theorem SlAt.room {u:Value}{e:Option (Nat×Array Value)}{N b cap:Nat}{cs:Array Value}{f:Nat->Value}(h:SlAt 6 u e N b cap cs f)(i:Nat)(hi:i<N):0+i*6+6<=cs.size:=by
  have:=h.sz;have:=h.le;omega
end Go.Sw
namespace Go.Sw
open Go Go.RowKit
def Rc (Z k t:Nat) (xs:Nat->Value):Array Value:=Al Z (fun c=>if c<t then .int .u8 (((k+c:Nat)):Int) else xs c)
section
variable {Z k t : Nat} {xs : Nat -> Value}
theorem QY:(Rc Z k t xs).size=Z:=Bf _ _
end
end Go.Sw
namespace Go.Sw
open Go Go.RowKit Go.Ech
section
variable {X : List Nat} {w0 w w' : World} {L : Own} {D : A4}
def Rk (w w':World) (n:Nat) (M:Nat->Nat->Nat) (u:Value):Prop:=∃ (D:A4) (β:Nat->Nat) (b:Nat) (cs:Array Value),
  (∀ x ds,(x,ds)∈D->w.heap.size<=x/\Blk w' x ds)/\RowsC D n β (fun i=>Dv n (M i))/\u = .slice (some ⟨b,0,Option.none⟩) n n/\(∀ i,i<n->cs[0+i*1]? = some (.slice (some ⟨β i,0,Option.none⟩) n n))/\(b,cs)∈D/\∀ i,i<n->β i≠b
end
def FreshV (w0:World) (L:Own) (N:Nat) (f:Nat->Value) (u:Value) (w':World):Prop:=∃ b cap cs,SlAt 6 u (some (b,cs)) N b cap cs f/\Blk w' b cs/\w0.heap.size<=b/\∀ (k:Nat) c ds,L[k]? = some (some (c,ds))->c≠b
theorem FreshV.last {w0 w w':World}{L:Own}{N:Nat}{f:Nat->Value}{u:Value}(h:FreshV w0 L N f u w)(hx:Ext w w'):FreshV w0 L N f u w':=by
  obtain ⟨b,cap,cs,h1,h2,h3⟩:=h;exact ⟨b,cap,cs,h1,h2.ext hx,h3⟩
theorem OwnSl.freshV {X:List Nat}{w0 w w':World}{L:Own}{D:A4}{N:Nat}{f:Nat->Value}{u:Value}(I:MemX X w0 w L D)(h:OwnSl 6 w N f u w'):FreshV w0 L N f u w':=by
  obtain ⟨b,cap,cs,h1,h2,h3⟩:=h;refine ⟨b,cap,cs,h1,h3,Nat.le_trans I.bel.size h2,fun k c ds hk e=>?_⟩;have:=(I.blk k c ds hk).2.lt
  omega
theorem MemX.addV {X:List Nat}{w0 w:World}{L:Own}{D:A4}{N:Nat}{f:Nat->Value}{u:Value}(h:MemX X w0 w L D)(hf:FreshV w0 L N f u w):∃ b cap cs,SlAt 6 u (some (b,cs)) N b cap cs f/\w0.heap.size<=b/\MemX X w0 w L ((b,cs)::D):=by
  obtain ⟨b,cap,cs,h1,h2,h3,h4⟩:=hf;refine ⟨b,cap,cs,h1,h3,h.bel,h.blk,h.apart,fun c ds hm=>?_⟩
  rcases List.mem_cons.1 hm with e | hm
  . simp only [Prod.mk.injEq] at e;obtain ⟨rfl,rfl⟩:=e;exact ⟨h2,h4⟩
  . exact h.froz c ds hm
end Go.Sw
namespace Go.Sw
open Go Go.RowKit Go.Ech
def Rv (w0:World) (L:Own) (u:Value) (w':World):Prop:=∃ b,u = .slice (some ⟨b,0,none⟩) 0 0/\Blk w' b #[]/\w0.heap.size<=b/\∀ (k:Nat) c ds,L[k]? = some (some (c,ds))->c≠b
end Go.Sw
namespace Go.Sw
open Go Go.RowKit Go.Ech
def RI (w0:World) (L:Own) (D:A4) (n:Nat) (M:Nat->Nat->Nat) (u:Value) (w':World):Prop:=∃ (D':A4) (β:Nat->Nat) (b:Nat) (cs:Array Value),
  (∀ x ds,(x,ds)∈D'->w0.heap.size<=x/\Blk w' x ds/\∀ (k:Nat) c es,L[k]? = some (some (c,es))->c≠x)/\RowsC D' n β (fun i=>Dv n (M i))/\u = .slice (some ⟨b,0,Option.none⟩) n n/\(∀ i,i<n->cs[0+i*1]? = some (.slice (some ⟨β i,0,Option.none⟩) n n))/\(b,cs)∈D'/\(∀ i,i<n->β i≠b)/\∀ i,i<n->∀ x∈D,x.1≠β i
def Rj (R:Value->World->Prop) (u:Value) (w':World):Prop:=∃ l,u = .tuple #[l,.int .i64 0]/\R l w'
end Go.Sw
namespace Go.Sw
open Go Go.RowKit
variable {P : Program}
def R2 (s:ByteArray) (i:Nat):Nat:=(s.data.getD i 0).toNat
section
variable {n : Nat} {F : List (Nat × Value)} {a : Act} {w : World} {d : Option Tmp} {t T T' : TypeId} {pos : String} {af : Array Edge} {gd : Option (Nat × Bool)} {x y z : Operand}
end
end Go.Sw
namespace Go.Sw
open Go Go.RowKit
variable {P : Program}
def Exit.goes (J:Nat->Act->World->Prop) (Q:Exit->Act->World->Prop):Exit->Act->World->Prop
  | .goto l,a,w=>J l a w
  | e,a,w=>Q e a w
section
variable {Q : Exit -> Act -> World -> Prop} {J : Nat -> Act -> World -> Prop} {K : Act -> World -> Prop} {a : Act} {w : World}
end
section
variable {n : Nat} {F : List (Nat × Value)} {a : Act} {w : World} {d : Option Tmp} {t T : TypeId} {pos : String} {af : Array Edge} {gd : Option (Nat × Bool)} {x : Operand}
theorem A9 {b o:Nat}(O:Fr n a F)(hx:look F x=some (ptr b o)):BX P ⟨d,.nilCheck x,t,pos,af,gd⟩ a w (ptr b o):=
  Ah (by simp [execOp,O.eval hx])
end
section
variable {P : Program} {fn : Func} {a : Act} {w : World}
theorem Qv {r s t:ResultVar}{v u x:Value}{R:Ending->World->Prop}(hr:fn.results = #[r,s,t])(hd:a.defers=[])(h1:Fz P a w r v)(h2:Fz P a w s u)(h3:Fz P a w t x)(h:R (.returned (.tuple #[v,u,x])) w):bodyPost P fn R .ret a w:=
  bodyPost_ret (by
    rw [Ez,hr]
    simp [EE h1,EE h2,EE h3]) hd h
end
end Go.Sw
