import Derived.Test.YtgioobkkkicfeaaSw29
import Derived.DeepKeys4
set_option linter.unusedVariables false
set_option linter.unusedSimpArgs false
namespace Go.Sw
open Go Go.RowKit
def rowP (N K:Nat) (f:Nat->Nat) (x:Nat->Value):Array Value:=BH K (fun c=>if c<N then .int .u8 (f c:Int) else x c)
section
variable {N K o : Nat} {f g : Nat -> Nat} {x : Nat -> Value}
theorem Lj (h:∀ c,c<N->f c=g c):rowP N K f x=rowP N K g x:=BL fun c _=>by
  by_cases hc:c<N
  . rw [if_pos hc,if_pos hc,h c hc]
  . rw [if_neg hc,if_neg hc]
theorem SlAt.rowP {v:Value}{b cap:Nat}{cs:Array Value}(h:SlAt 1 v (some (b,cs)) N b cap cs (fun c=>.int .u8 (f c:Int))):cs=rowP N cap f (fun c=>cs[c]?.getD undef):=
  Ev (by rw [h.sz,Nat.mul_one]) fun i hi=>by
    by_cases e:i<N
    . rw [if_pos e];exact h.get i (by omega)
    . rw [if_neg e]
      have:i<cs.size:=by rw [h.sz];omega
      simp [this]
end
structure RowsLP (L:Own) (N m:Nat) (κ:Nat->Nat) (Xs:Nat->Nat->Value) (γ pos:Nat->Nat) (M:Nat->Nat->Nat):Prop where
  at_:∀ i,i<m->L[pos i]? = some (some (γ i,rowP N (κ (γ i)) (M i) (Xs (γ i))))
  inj:∀ i j,i<m->j<m->pos i=pos j->i=j
  ne0:∀ i,i<m->pos i≠0
namespace RowsLP
variable {L : Own} {N m : Nat} {κ : Nat -> Nat} {Xs : Nat -> Nat -> Value} {γ pos : Nat -> Nat} {M : Nat -> Nat -> Nat}
theorem congr {M':Nat->Nat->Nat}(h:RowsLP L N m κ Xs γ pos M)(e:∀ i,i<m->M i=M' i):RowsLP L N m κ Xs γ pos M':=
  ⟨fun i hi=>by rw [← e i hi];exact h.at_ i hi,h.inj,h.ne0⟩
theorem apart {X:List Nat}{w0 w:World}{D:Al}(h:RowsLP L N m κ Xs γ pos M)(J:MemX X w0 w L D){i j:Nat}(hi:i<m)(hj:j<m)(hH:i≠j):γ i≠γ j:=fun e=>by
  have h1:=h.at_ i hi
  have h2:=h.at_ j hj
  rw [e] at h1
  exact hH (h.inj i j hi hj (J.apart _ _ _ _ _ h1 h2))
end RowsLP
def Ri (b0:Nat) (cs0:Array Value) (N m:Nat) (κ:Nat->Nat) (Xs:Nat->Nat->Value) (γ:Nat->Nat) (M:Nat->Nat->Nat):Own:=some (b0,cs0)::(List.range m).map (fun i=>some (γ i,rowP N (κ (γ i)) (M i) (Xs (γ i))))
end Go.Sw
namespace Go.Ech
open Go.Sw
theorem OI (f:Nat->Int)(n m:Nat):sI f (n+m)=sI f n+sI (fun i=>f (n+i)) m:=by
  induction m with
  | zero=>simp [sI]
  | succ m ih =>
    show sI f (n+m+1)=_
    simp only [sI];rw [ih];omega
def S0 (F:Nat->Nat->Nat) (i c:Nat):Nat:=if c<6 then F i c else if c=6+i then 1 else 0
theorem Pq {n:Nat}{ld:Nat->Nat}(hm:∀ i j,i<j->j<n->ld i<ld j)(hl:∀ i,i<n->ld i<n):∀ i,i<n->ld i=i:=by
  have h1:∀ i,i<n->i<=ld i:=by
    intro i
    induction i with
    | zero=>intro _;omega
    | succ i ih=>intro hi;have:=ih (by omega);have:=hm i (i+1) (by omega) hi;omega
  have h2:∀ d i,i+d+1=n->ld i+d<n:=by
    intro d
    induction d with
    | zero=>intro i hi;have:=hl i (by omega);omega
    | succ d ih=>intro i hi;have:=ih (i+1) (by omega);have:=hm i (i+1) (by omega) (by omega);omega
  intro i hi;have:=h1 i hi;have:=h2 (n - 1 - i) i (by omega)
  omega
def FullK (p n:Nat) (F:Nat->Nat->Nat):Prop:=∃ E ld,Rref p 6 E n ld/\∀ x,Ker p 6 E n x↔Ker p 6 F n x
theorem FullK.zero {p n:Nat}{F:Nat->Nat->Nat}(hp:2<=p)(hn:n<=6)(O:∀ i c,n<=c->F i c=0)(h:FullK p n F){x:Nat->Int}(hx:Ker p 6 F n x)(h0:∀ d,n<=d->d<6->x d=0){c:Nat}(hc:c<n):(p:Int)∣x c:=by
  obtain ⟨E,ld,hR,hK⟩:=h;have hl:∀ i,i<n->ld i<n:=fun i hi=>Decidable.byContradiction fun hno=>
    MW (c:=ld i) hp hR hK (hR.lt i hi) (fun j _=>O j _ (by omega)) ⟨i,hi,rfl⟩
  have hid:=Pq hR.mono hl;have:=(hK x).2 hx c hc
  unfold dot at this
  rw [Bl (a:=c) (by omega)] at this
  . have e:=hR.one c hc
    rw [hid c hc] at e
    simpa [ci,e] using this
  . intro d hd hH
    by_cases hdn:d<n
    . have:=hR.zero d c hdn hc hH
      rw [hid d hdn] at this
      simp [ci,this]
    . rw [h0 d (by omega) hd];simp
structure IsCop (p n:Nat) (F G:Nat->Nat->Nat):Prop where
  lt:∀ i j,G i j<p
  out:∀ i j,n<=i\/n<=j->G i j=0
  sol:∀ i,i<n->∀ j,j<n->(p:Int)∣sI (fun k=>(F i k:Int)*(G k j:Int)) n - (dl i j:Int)
theorem QA {p n:Nat}{F:Nat->Nat->Nat}(hp:2<=p)(hn:n<=6)(O:∀ i c,n<=c->F i c=0)(h:FullK p n F){x y:Nat->Nat}{b:Nat->Int}(hx:∀ c,c<n->x c<p)(hy:∀ c,c<n->y c<p)(h1:∀ i,i<n->(p:Int)∣sI (fun k=>(F i k:Int)*(x k:Int)) n - b i)(h2:∀ i,i<n->(p:Int)∣sI (fun k=>(F i k:Int)*(y k:Int)) n - b i):∀ c,c<n->x c=y c:=by
  intro c hc;have hK:Ker p 6 F n (fun c=>if c<n then (x c:Int) - (y c:Int) else 0):=fun i hi=>by
    have h3:=Int.dvd_sub (h1 i hi) (h2 i hi);have e:dot 6 (ci (F i)) (fun c=>if c<n then (x c:Int) - (y c:Int) else 0)=sI (fun k=>(F i k:Int)*(x k:Int)) n - b i - (sI (fun k=>(F i k:Int)*(y k:Int)) n - b i):=by
      unfold dot
      rw [Gm hn (fun c h1 _=>by simp [show ¬ c<n by omega])];have:sI (fun k=>(F i k:Int)*(x k:Int)) n=sI (fun c=>ci (F i) c*(if c<n then (x c:Int) - (y c:Int) else 0)) n+sI (fun k=>(F i k:Int)*(y k:Int)) n:=by
        rw [← Dr];exact Ar fun c hc=>by rw [if_pos hc];grind
      rw [this]
      show sI (fun c=>ci (F i) c*(if c<n then (x c:Int) - (y c:Int) else 0)) n=_
      omega
    rw [e];exact h3
  have:=h.zero hp hn O hK (fun d h1 _=>by simp [show ¬ d<n by omega]) hc;simp only [if_pos hc] at this;exact Fe (hx c hc) (hy c hc) this
theorem IsCop.unique {p n:Nat}{F G G':Nat->Nat->Nat}(hp:2<=p)(hn:n<=6)(O:∀ i c,n<=c->F i c=0)(hf:FullK p n F)(h:IsCop p n F G)(h':IsCop p n F G'):G=G':=by
  funext i j
  by_cases e:n<=i\/n<=j
  . rw [h.out i j e,h'.out i j e]
  . exact QA hp hn O hf (x:=fun k=>G k j) (y:=fun k=>G' k j) (b:=fun i=>(dl i j:Int)) (fun c _=>h.lt c j) (fun c _=>h'.lt c j) (fun i hi=>h.sol i hi j (by omega)) (fun i hi=>h'.sol i hi j (by omega)) i (by omega)
theorem Jt {p u:Nat}(hp:primeN p)(hu:u<p)(h0:u≠0):∃ v,u*v%p=1:=by
  have key:∀ q:Nat,(∀ a,a<q->a≠0->∃ v,v<q/\a*v%q=1)->p=q->∃ v,u*v%p=1:=fun q hq e=>by
    subst e;obtain ⟨v,_,h⟩:=hq u hu h0;exact ⟨v,h⟩
  rcases hp with e | e | e | e | e | e
  . exact key 2 (by decide) e
  . exact key 3 (by decide) e
  . exact key 5 (by decide) e
  . exact key 7 (by decide) e
  . exact key 11 (by decide) e
  . exact key 13 (by decide) e
theorem O2 {o:Nat->Nat}{N:Nat}(h:¬ ∀ c,c<N->o c=0):∃ t,t<N/\o t≠0/\∀ c,c<t->o c=0:=by
  induction N with
  | zero=>exact absurd (fun c hc=>absurd hc (by omega)) h
  | succ N ih =>
    by_cases e:∀ c,c<N->o c=0
    . refine ⟨N,by omega,fun h0=>h fun c hc=>?_,e⟩
      by_cases ec:c=N
      . rw [ec,h0]
      . exact e c (by omega)
    . obtain ⟨t,h1,h2⟩:=ih e;exact ⟨t,by omega,h2⟩
theorem Pl {p N k:Nat}{E:Nat->Nat->Nat}{ld r:Nat->Nat}(hp:0<p)(h:Rref p N E k ld)(hr:∀ c,r c<p):∃ o,Own p N E k ld r o k/\∀ c,o c<p:=by
  have:∀ j,j<=k->∃ o,Own p N E k ld r o j/\∀ c,o c<p:=by
    intro j
    induction j with
    | zero=>intro _;exact ⟨r,⟨fun c _=>hr c,fun i hi=>absurd hi (by omega),fun x _=>Iff.rfl⟩,hr⟩
    | succ j ih=>intro hj;obtain ⟨o,h1,_⟩:=ih (by omega);exact ⟨_,h1.step hp h (by omega),fun c=>Gs hp⟩
  exact this k (Nat.le_refl _)
theorem EN {p N m:Nat}{M:Nat->Nat->Nat}(hp:primeN p)(J:∀ i c,M i c<p):∃ k E ld,Rref p N E k ld/\k<=m/\∀ x,Ker p N E k x↔Ker p N M m x:=by
  have hp0:0<p:=by have:=hp.two;omega
  induction m with
  | zero=>exact ⟨0,M,fun _=>0,⟨fun i hi=>absurd hi (by omega),fun i j _ hi=>absurd hi (by omega),fun i hi=>absurd hi (by omega),fun i hi=>absurd hi (by omega),fun i j hi=>absurd hi (by omega),fun i hi=>absurd hi (by omega)⟩,Nat.le_refl _,fun x=>Iff.rfl⟩
  | succ m ih =>
    obtain ⟨k,E,ld,hR,hk,hK⟩:=ih;obtain ⟨o,ho,ho2⟩:=Pl hp0 hR (J m)
    by_cases hz:∀ c,c<N->o c=0
    . refine ⟨k,E,ld,hR,by omega,fun x=>?_⟩
      rw [Ker.snoc,← hK];exact ⟨fun h=>⟨h,(ho.ker x h).1 (K6 hz)⟩,fun h=>h.1⟩
    . obtain ⟨t,ht,h0,hlow⟩:=O2 hz
      obtain ⟨v,hv⟩:=Jt hp (ho2 t) h0;have hH:∀ i,i<k->ld i≠t:=fun i hi e=>h0 (by rw [← e];exact ho.zero i hi);obtain ⟨b1,b2,b3⟩:=ME hR hH;have f:Fits p N E k ld (fun c=>o c*v%p) t (below k ld t):=
        ⟨ht,hv,fun c hc=>by simp [hlow c hc],fun c _=>Nat.mod_lt _ hp0,fun i hi=>by simp [ho.zero i hi],b1,b2,b3⟩
      refine ⟨k+1,_,_,hR.insert hp0 f,by omega,fun x=>?_⟩;rw [Lz hp0 b1,Ker.snoc,← hK];have hsc:(p:Int)∣dot N (ci fun c=>o c*v%p) x↔(p:Int)∣dot N (ci o) x:=JB (v:=v) (u:=o t) (fun c _=>rfl) hv;rw [hsc];exact ⟨fun h=>⟨h.1,(ho.ker x h.1).1 h.2⟩,fun h=>⟨h.1,(ho.ker x h.1).2 h.2⟩⟩
end Go.Ech
namespace Go.Sw
open Go Go.RowKit
variable {P : Program}
section
variable {n : Nat} {F : List (Nat × Value)} {a : Act} {X : List Nat} {w w0 : World} {L : Own} {D : Al}
variable {d : Option Tmp} {t : TypeId} {pos : String} {af : Array Edge} {gd : Option (Nat × Bool)} {T : TypeId} {x y : Operand}
theorem Gw {e:TypeId}{b o len cap i s:Nat}{κ:IntKind}{X:Int}(hT:P.underlying T=some (.slice e))(he:DJ P e=some s)(O:Fr n a F)(hx:look F x=some (.slice (some ⟨b,o,none⟩) len cap))(hy:look F y=some (.int κ X))(hX:X=(i:Int))(hi:i<=len)(hl:len<=cap)(hc:i<cap) :
    BN P ⟨d,.slice T x (some y) none none,t,pos,af,gd⟩ a w (.slice (some ⟨b,o+i*s,none⟩) (len - i) (cap - i)):=by
  subst hX;refine Ab ?_;have h1:(0:Int)<=(i:Int)/\(i:Int)<=(len:Int):=by omega
  have h2:=run_sizeOf he w;have h4:¬ cap=i:=by omega
  have h5:¬ cap - i=0:=by omega
  simp [execOp,Instr.sliceAt,Instr.slice,run_underlying hT,O.eval hx,O.eval hy,Instr.sliceBounds,Instr.sliceBound,asIntOf,h1,h2,h4,h5,Addr.add_lit,hi]
end
structure RowsPD (D:Al) (N m:Nat) (κ:Nat->Nat) (Xs:Nat->Nat->Value) (γ:Nat->Nat) (M:Nat->Nat->Nat):Prop where
  mem:∀ i,i<m->(γ i,rowP N (κ (γ i)) (M i) (Xs (γ i)))∈D
  inj:∀ i j,i<m->j<m->γ i=γ j->i=j
namespace RowsPD
variable {D D' : Al} {N m : Nat} {κ : Nat -> Nat} {Xs : Nat -> Nat -> Value} {γ : Nat -> Nat} {M : Nat -> Nat -> Nat}
theorem none:RowsPD D N 0 κ Xs γ M:=⟨fun i hi=>absurd hi (by omega),fun i j hi=>absurd hi (by omega)⟩
theorem more (h:RowsPD D N m κ Xs γ M)(hs:∀ x∈D,x∈D'):RowsPD D' N m κ Xs γ M:=⟨fun i hi=>hs _ (h.mem i hi),h.inj⟩
theorem congr {M':Nat->Nat->Nat}(h:RowsPD D N m κ Xs γ M)(e:∀ i,i<m->∀ c,c<N->M i c=M' i c):RowsPD D N m κ Xs γ M':=
  ⟨fun i hi=>by rw [← Lj (e i hi)];exact h.mem i hi,h.inj⟩
end RowsPD
theorem NO {m i:Nat}{x:Nat×Array Value}{γ:Nat->Nat}{R:Nat->Array Value}(hi:i<m):(γ i,R i)∈x::(List.range m).map (fun i=>(γ i,R i)):=
  List.mem_cons_of_mem _ (List.mem_map.2 ⟨i,by simpa using hi,rfl⟩)
end Go.Sw
namespace Go.Ech
open Go.Sw
def Sy (n:Nat) (F:Nat->Nat->Nat) (j i c:Nat):Nat:=if c<n then F i c else if i=j then 1 else 0
end Go.Ech
namespace Go.Sw
open Go Go.RowKit Go.Ech
def TabOut (w w':World) (N k:Nat) (f:Nat->Nat->Value) (u:Value):Prop:=∃ (D:Al) (β κ:Nat->Nat) (C:Nat->Array Value) (b cap:Nat) (cs:Array Value),
  (∀ x ds,(x,ds)∈D->w.heap.size<=x/\Blk w' x ds)/\RowsD D N k β κ C f/\SlAt 1 u (some (b,cs)) k b cap cs (fun i=>.slice (some ⟨β i,0,none⟩) N (κ i))/\(b,cs)∈D/\(∀ i j,i<k->j<k->β i=β j->i=j)/\∀ i,i<k->β i≠b
theorem TabOut.rows {w w':World}{N k:Nat}{f:Nat->Nat->Value}{u:Value}(h:TabOut w w' N k f u):RowsOut w w' N k f u:=by
  obtain ⟨D,β,κ,C,b,cap,cs,h1,h2,h3,h4,_⟩:=h;exact ⟨D,β,κ,C,b,cap,cs,h1,h2,h3,h4⟩
theorem TabOut.of {w w':World}{L:Own}{D:Al}{N k q:Nat}{β κ:Nat->Nat}{C:Nat->Array Value}{f:Nat->Nat->Value}{u:Value}{b cap:Nat}{cs:Array Value}(J:AR w w' L D)(hR:RowsD D N k β κ C f)
    (hq:L[q]? = some (some (b,cs))) (hs:SlAt 1 u (some (b,cs)) k b cap cs (fun i=>.slice (some ⟨β i,0,none⟩) N (κ i))) (hU:∀ i,i<k->w.heap.size<=β i) (hi:∀ i j,i<k->j<k->β i=β j->i=j):TabOut w w' N k f u:=by
  refine ⟨(b,cs)::(List.range k).map (fun i=>(β i,C i)),β,κ,C,b,cap,cs,fun x ds hx=>?_,⟨fun i hi=>?_,hR.sl⟩,hs,List.mem_cons_self ..,hi,fun i hi e=>(J.froz _ _ (hR.mem i hi)).2 q b cs hq e.symm⟩
  . rcases List.mem_cons.1 hx with e | hx
    . simp only [Prod.mk.injEq] at e;obtain ⟨rfl,rfl⟩:=e;exact ⟨J.ge q hq,J.row q hq⟩
    . obtain ⟨i,hi,e⟩:=List.mem_map.1 hx
      simp only [Prod.mk.injEq] at e;obtain ⟨rfl,rfl⟩:=e;have hi:i<k:=by simpa using hi
      exact ⟨hU i hi,J.fzm (hR.mem i hi)⟩
  . exact List.mem_cons_of_mem _ (List.mem_map.2 ⟨i,by simpa using hi,rfl⟩)
def So (D:Al) (b:Nat):Al:=D.filter (fun x=>decide (x.1≠b))
structure RowsC (D:Al) (m:Nat) (β:Nat->Nat) (R:Nat->Array Value):Prop where
  mem:∀ i,i<m->(β i,R i)∈D
  inj:∀ i j,i<m->j<m->β i=β j->i=j
namespace RowsC
variable {D D' : Al} {m : Nat} {β : Nat -> Nat} {R : Nat -> Array Value}
theorem none:RowsC D 0 β R:=⟨fun i hi=>absurd hi (by omega),fun i j hi=>absurd hi (by omega)⟩
theorem more (h:RowsC D m β R)(hs:∀ x∈D,x∈D'):RowsC D' m β R:=⟨fun i hi=>hs _ (h.mem i hi),h.inj⟩
theorem congr {R':Nat->Array Value}(h:RowsC D m β R)(e:∀ i,i<m->R i=R' i):RowsC D m β R':=⟨fun i hi=>by rw [← e i hi];exact h.mem i hi,h.inj⟩
theorem snoc (h:RowsC D m β R){b:Nat}{cs:Array Value}(hm:(b,cs)∈D)(hn:∀ i,i<m->b≠β i):RowsC D (m+1) (up β m b) (upE R m cs):=by
  refine ⟨fun i hi=>?_,fun i j hi hj e=>?_⟩
  . by_cases e:i=m
    . subst e;simp only [HV,upE,if_true];exact hm
    . simp only [HU e,upE,if_neg e];exact h.mem i (by omega)
  . unfold up at e
    by_cases e1:i=m<;>by_cases e2:j=m
    . omega
    . rw [if_pos e1,if_neg e2] at e;exact absurd e (hn j (by omega))
    . rw [if_neg e1,if_pos e2] at e;exact absurd e.symm (hn i (by omega))
    . rw [if_neg e1,if_neg e2] at e;exact h.inj i j (by omega) (by omega) e
end RowsC
def OK (n:Nat) (f:Nat->Nat):Array Value:=BH n (fun c=>.int .i64 (f c:Int))
end Go.Sw
namespace Go.Sw
open Go Go.RowKit
def TO (Z k t:Nat) (xs:Nat->Value):Array Value:=BH Z (fun c=>if c<t then .int .u8 (((k+c:Nat)):Int) else xs c)
section
variable {Z k t : Nat} {xs : Nat -> Value}
end
open Go Go.RowKit Go.Ech
section
variable {X : List Nat} {w0 w w' : World} {L : Own} {D : Al}
def TabI (w w':World) (n:Nat) (M:Nat->Nat->Nat) (u:Value):Prop:=∃ (D:Al) (β:Nat->Nat) (b:Nat) (cs:Array Value),
  (∀ x ds,(x,ds)∈D->w.heap.size<=x/\Blk w' x ds)/\RowsC D n β (fun i=>OK n (M i))/\u = .slice (some ⟨b,0,Option.none⟩) n n/\(∀ i,i<n->cs[0+i*1]? = some (.slice (some ⟨β i,0,Option.none⟩) n n))/\(b,cs)∈D/\∀ i,i<n->β i≠b
theorem TabI.of {n q:Nat}{β:Nat->Nat}{M:Nat->Nat->Nat}{b:Nat}{cs:Array Value}(J:AR w w' L D)(hR:RowsC D n β (fun i=>OK n (M i)))(hq:L[q]? = some (some (b,cs)))(hg:∀ i,i<n->cs[0+i*1]? = some (.slice (some ⟨β i,0,Option.none⟩) n n))(hU:∀ i,i<n->w.heap.size<=β i):TabI w w' n M (.slice (some ⟨b,0,Option.none⟩) n n):=by
  refine ⟨(b,cs)::(List.range n).map (fun i=>(β i,OK n (M i))),β,b,cs,fun x ds hx=>?_,⟨fun i hi=>NO (R:=fun i=>OK n (M i)) hi,hR.inj⟩,rfl,hg,List.mem_cons_self ..,fun i hi e=>(J.froz _ _ (hR.mem i hi)).2 q b cs hq e.symm⟩
  rcases List.mem_cons.1 hx with e | hx
  . simp only [Prod.mk.injEq] at e;obtain ⟨rfl,rfl⟩:=e;exact ⟨J.ge q hq,J.row q hq⟩
  . obtain ⟨i,hi,e⟩:=List.mem_map.1 hx
    simp only [Prod.mk.injEq] at e;obtain ⟨rfl,rfl⟩:=e;have hi:i<n:=by simpa using hi
    exact ⟨hU i hi,J.fzm (hR.mem i hi)⟩
end
def SF (w0:World) (L:Own) (N:Nat) (f:Nat->Value) (u:Value) (w':World):Prop:=∃ b cap cs,SlAt 6 u (some (b,cs)) N b cap cs f/\Blk w' b cs/\w0.heap.size<=b/\∀ (k:Nat) c ds,L[k]? = some (some (c,ds))->c≠b
def BV (cs:Array Value) (N:Nat) (D:Nat->Nat):Array Value:=BH cs.size (fun c=>if c<N then .int .i64 (D c:Int) else (cs[c]?).getD undef)
def Cl (D:Nat->Nat) (j x i:Nat):Nat:=if i=j then x else D i
section
variable {cs : Array Value} {N : Nat} {D D' : Nat -> Nat}
theorem Bi:(BV cs N D).size=cs.size:=BZ _ _
theorem Ph {u:Value}{e:Option (Nat×Array Value)}{b cap:Nat}(h:SlAt 1 u e N b cap cs (fun c=>.int .i64 (D c:Int))):cs=BV cs N D:=
  Ev rfl fun i hi=>by
    by_cases e:i<N
    . rw [if_pos e];exact h.get i (by omega)
    . rw [if_neg e,Array.getElem?_eq_getElem hi];rfl
theorem C9 (hN:N<=cs.size){o:Nat}(c:Nat)(ho:o=c)(hc:c<N):(BV cs N D)[o]? = some (.int .i64 (D c:Int)):=by
  subst ho;unfold BV;rw [B3 (by omega),if_pos hc]
theorem H6 (_hN:N<=cs.size){o x:Nat}(j:Nat)(ho:o=j)(hj:j<N):(BV cs N D).setIfInBounds o (.int .i64 (x:Int))=BV cs N (Cl D j x):=by
  subst ho
  unfold BV
  refine Ce fun c hc=>?_
  unfold Cl
  by_cases e:c=o
  . subst e;rw [if_pos hj,if_pos rfl,if_pos rfl]
  . rw [if_neg e,if_neg e]
theorem Pg {b cap m:Nat}(hm:m<=N)(hN:N<=cap)(hc:cap<=maxLen)(hs:cs.size=cap):SlAt 1 (.slice (some ⟨b,0,none⟩) m cap) (some (b,BV cs N D)) m b cap (BV cs N D) (fun c=>.int .i64 (D c:Int)):=
  ⟨rfl,rfl,by omega,hc,by rw [Bi];omega,fun i hi=>C9 (by omega) i rfl (by omega)⟩
end
section
variable {P : Program} {X : List Nat} {w0 w : World} {L : Own} {D : Al} {n : Nat} {F : List (Nat × Value)} {a : Act} {d : Option Tmp} {T : TypeId} {t : TypeId} {pos : String} {af : Array Edge} {gd : Option (Nat × Bool)} {x y : Operand}
theorem O9 {b o:Nat}{cs cs':Array Value}{v:Value}(k:Nat)(J:MemX X w0 w L D)(hk:L[k]? = some (some (b,cs)))(hT:ED P T=true)(O:Fr n a F)(hx:look F x=some (ptr b o))(hy:look F y=some v)
    (h1:v.oneCell'=true) (ho:o<cs.size) (he:cs.setIfInBounds o v=cs') :
    Does P ⟨d,.store T x y,t,pos,af,gd⟩ a w (fun _ w'=>MemX X w0 w' (L.set k (some (b,cs'))) D):=by
  subst he;exact BE k J hk hT O hx hy h1 ho
end
section
variable {P : Program} {X : List Nat} {w0 w : World} {L : Own} {D : Al} {n : Nat} {F : List (Nat × Value)} {a : Act} {d : Option Tmp} {T : TypeId} {t : TypeId} {pos : String} {af : Array Edge} {gd : Option (Nat × Bool)} {x : Operand}
theorem P8 {e:TypeId}{z:Value}{b o m c:Nat}{cs cs':Array Value}(k:Nat)(J:MemX X w0 w L D)(hk:L[k]? = some (some (b,cs)))(ht:P.underlying T=some (.slice e))(hv:∀ w,(zeroValue e).run P w = .ok z w)(hz:z.cells = #[z])(h1:z.oneCell'=true)
    (O:Fr n a F) (hx:look F x=some (.slice (some ⟨b,o,none⟩) m c)) (hm:0<m) (hs:o+m<=cs.size) (he:splice cs o (Array.replicate m z)=cs') :
    Does P ⟨d,.call { callee:=.builtin .clear,args:=#[x],argTypes:=#[T] },t,pos,af,gd⟩ a w (fun _ w'=>MemX X w0 w' (L.set k (some (b,cs'))) D):=
  ⟨fun K Q hK=>by
    obtain ⟨tt,hg⟩:=J.row k hk
    have hst:=run_storeCells_at P b o tt (List.replicate m z) 0 cs w hg (by simpa using hs) (by intro v hv';rw [List.eq_of_mem_replicate hv'];exact h1)
    simp only [Nat.add_zero] at hst
    have hzc:(Builtin.zeroCells z.cells m).toList=List.replicate m z:=by
      rw [hz]
      simp [Builtin.zeroCells]
      apply List.ext_getElem
      . simp
      . intro i h1 h2
        simp [Nat.mod_one]
    have hsp:(List.take o cs.toList++List.replicate m z++List.drop (o+(List.replicate m z).length) cs.toList).toArray=cs':=by
      rw [← he];simp [splice]
    rw [hsp] at hst;obtain ⟨q,rfl⟩:∃ q,m=q+1:=⟨m - 1,by omega⟩;have hr:(Builtin.clear_ #[T] t #[.slice (some ⟨b,o,none⟩) (q+1) c]).run P w = .ok (.tuple #[]) (w.setRow b cs'):=by
      simp [Builtin.clear_,run_underlying ht,hv,hzc,hst]
    unfold Oper.wp execOp
    simp only [resolve,invoke,builtin,Sem.run_bind,Sem.run_pure,Result.andThen_ok,List.map_toArray,List.map_cons,List.map_nil,O.eval hx];rw [hr];exact hK _ _ (J.setRow k hk cs')⟩
end
theorem Li {cs:Array Value}{N k o m:Nat}{D:Nat->Nat}(hN:N<=cs.size)(ho:o=k)(hm:m=N - k)(hk:k<=N):splice (BV cs N D) o (Array.replicate m (.int .i64 ((0:Nat):Int)))=BV cs N (fun i=>if i<k then D i else 0):=by
  subst ho hm;have hs:(Array.replicate (N - o) (Value.int .i64 ((0:Nat):Int))).size=N - o:=by simp
  have hle:o+(Array.replicate (N - o) (Value.int .i64 ((0:Nat):Int))).size<=(BV cs N D).size:=by rw [hs,Bi];omega
  refine Ev (by rw [E8 _ _ _ hle,Bi]) fun i hi=>?_;rw [DX _ _ _ _ hle,hs]
  by_cases e:o<=i/\i<o+(N - o)
  . rw [if_pos e,if_pos (by omega),Array.getElem?_replicate,if_pos (by omega)]
    dsimp only
    rw [if_neg (by omega)]
  . rw [if_neg e]
    unfold BV
    rw [B3 hi]
    by_cases e2:i<N
    . rw [if_pos e2,if_pos e2];dsimp only;rw [if_pos (by omega)]
    . rw [if_neg e2,if_neg e2]
def SameSet (N:Nat) (D E:Nat->Nat):Prop:=∀ x,(∃ k,k<N/\D k=x)↔∃ k,k<N/\E k=x
theorem SameSet.rfl' {N:Nat}{D:Nat->Nat}:SameSet N D D:=fun _=>Iff.rfl
theorem SameSet.swap {N:Nat}{D E:Nat->Nat}(h:SameSet N D E){i j:Nat}(hi:i<N)(hj:j<N):SameSet N (Cl (Cl D j (D i)) i (D j)) E:=fun x=>by
  rw [← h x]
  have key:∀ k,Cl (Cl D j (D i)) i (D j) k=if k=i then D j else if k=j then D i else D k:=fun k=>rfl
  constructor
  . rintro ⟨k,hk,e⟩
    rw [key] at e
    by_cases e1:k=i
    . rw [if_pos e1] at e;exact ⟨j,hj,e⟩
    . rw [if_neg e1] at e
      by_cases e2:k=j
      . rw [if_pos e2] at e;exact ⟨i,hi,e⟩
      . rw [if_neg e2] at e;exact ⟨k,hk,e⟩
  . rintro ⟨k,hk,e⟩
    by_cases e1:k=i
    . subst e1
      by_cases e2:k=j
      . subst e2;exact ⟨k,hk,by rw [key,if_pos rfl];exact e⟩
      . exact ⟨j,hj,by rw [key,if_neg (fun q=>e2 q.symm),if_pos rfl];exact e⟩
    . by_cases e2:k=j
      . subst e2;exact ⟨i,hi,by rw [key,if_pos rfl];exact e⟩
      . exact ⟨k,hk,by rw [key,if_neg e1,if_neg e2];exact e⟩
def Asc (m:Nat) (D:Nat->Nat):Prop:=∀ a b,a<b->b<m->D a<=D b
def AscBut (m j:Nat) (D:Nat->Nat):Prop:=(∀ a b,a<b->b<m->a≠j->b≠j->D a<=D b)/\∀ b,j<b->b<m->D j<=D b
theorem AscBut.start {m:Nat}{D:Nat->Nat}(h:Asc m D):AscBut (m+1) m D:=⟨fun a b h1 h2 _ h4=>h a b h1 (by omega),fun b h1 h2=>absurd h2 (by omega)⟩
theorem AscBut.done {m j:Nat}{D:Nat->Nat}(h:AscBut m j D)(hj:j=0\/D (j - 1)<=D j):Asc m D:=fun a b h1 h2=>by
  by_cases e1:a=j
  . subst e1;exact h.2 b h1 h2
  . by_cases e2:b=j
    . subst e2
      rcases hj with e | hj
      . omega
      . by_cases e3:a=b - 1
        . subst e3;exact hj
        . exact Nat.le_trans (h.1 a (b - 1) (by omega) (by omega) e1 (by omega)) hj
    . exact h.1 a b h1 h2 e1 e2
theorem AscBut.step {m j:Nat}{D:Nat->Nat}(h:AscBut m j D)(hj0:0<j)(hjm:j<m)(hlt:D j<D (j - 1)):AscBut m (j - 1) (Cl (Cl D j (D (j - 1))) (j - 1) (D j)):=by
  have key:∀ k,Cl (Cl D j (D (j - 1))) (j - 1) (D j) k=if k=j - 1 then D j else if k=j then D (j - 1) else D k:=fun k=>rfl;refine ⟨fun a b h1 h2 h3 h4=>?_,fun b h1 h2=>?_⟩
  . rw [key,key,if_neg h3,if_neg h4]
    by_cases e1:a=j
    . rw [if_pos e1,if_neg (by omega)];exact h.1 (j - 1) b (by omega) h2 (by omega) (by omega)
    . rw [if_neg e1]
      by_cases e2:b=j
      . rw [if_pos e2];exact h.1 a (j - 1) (by omega) (by omega) e1 (by omega)
      . rw [if_neg e2];exact h.1 a b h1 h2 e1 e2
  . rw [key,key,if_pos rfl,if_neg (by omega)]
    by_cases e2:b=j
    . rw [if_pos e2];omega
    . rw [if_neg e2];exact h.2 b (by omega) h2
def De (l:List Fact) (s:Nat):Facts (Own×Value):=fun i g u w=>match Nat.beq i s with
  | true=>u=g.2
  | false=>B4 l i g.1 u w
def ParA (X:List Nat) (w0:World) (D:Al) (W:List Nat) (L0:Own) (kr N:Nat) (e0:Option (Nat×Array Value)) (f:Nat->Value) (b:Bool) (g:Own×Value) (w:World):Prop:=
  Par X w0 D (kr::W) L0 g.1 w/\(b=false->g.1[kr]? = some e0)/\(b=true->∃ e',g.1[kr]? = some e'/\Sl 1 g.2 e' N f)
section
variable {P : Program} {X : List Nat} {w0 w : World} {D : Al} {W : List Nat} {L0 : Own} {kr N s i : Nat} {e0 : Option (Nat × Array Value)} {f : Nat -> Value} {b : Bool} {g : Own × Value} {l : List Fact} {o : Oper} {a : Act}
theorem Gz (h:Nat.beq i s=false)(u:Value):De l s i g u w=B4 l i g.1 u w:=by unfold De;rw [h]
theorem ParA.drew (h:ParA X w0 D W L0 kr N e0 f b g w):ParA X w0 D W L0 kr N e0 f b g w.drew:=⟨⟨h.1.1.ext (Below.drew (Below.refl _ _)),h.1.2⟩,h.2⟩
theorem ParA.mem (h:ParA X w0 D W L0 kr N e0 f b g w)(hW:JN (kr::W) L0=true):MemX X w0 w L0 D:=Par.mem h.1 hW
theorem CX {v:Value}(hS:ParA X w0 D W L0 kr N e0 f b g w)(hs:Nat.beq i s=false)(hi:l[i]? = some (.val v))(hg:BN P o a w v):Does P o a w (EI (ParA X w0 D W L0 kr N e0 f) (De l s) b i g w):=
  hg.mono fun u w' ⟨h1,h2⟩=>by subst h2;exact ⟨g,hS,by rw [Gz hs];exact A6 hi h1,fun j u _ h=>h⟩
theorem MA {w':World}(hl:Lasts l)(hx:Ext w w')(j:Nat)(u:Value)(h:De l s j g u w):De l s j g u w':=by
  unfold De at *
  cases e:Nat.beq j s with
  | true=>rw [e] at h;exact h
  | false=>rw [e] at h;exact Fc hl hx j u h
theorem Pk {v:Value}(hl:Lasts l)(hS:ParA X w0 D W L0 kr N e0 f b g w)(hs:Nat.beq i s=false)(hi:l[i]? = some (.val v))(hg:Does P o a w (fun u w'=>Ext w w'/\u=v)):Does P o a w (EI (ParA X w0 D W L0 kr N e0 f) (De l s) b i g w):=
  hg.mono fun _ _ ⟨h1,h2⟩=>⟨g,⟨⟨hS.1.1.ext h1,hS.1.2⟩,hS.2⟩,by rw [Gz hs];exact A6 hi h2,fun j u _ h=>MA hl h1 j u h⟩
theorem Ql {k:Nat}{cs:Array Value}{mk:Nat->Value}(hl:Lasts l)(hS:ParA X w0 D W L0 kr N e0 f b g w)(hs:Nat.beq i s=false)(hi:l[i]? = some (.own k cs mk))(hk:CS k W=true)(hkr:Nat.beq k kr=false)(hkl:Nat.blt k L0.length=true)(h1:FD k i l 0=true)
    (hg:Does P o a w (fun u w'=>∃ b,u=mk b/\MemX X w0 w' (g.1.set k (some (b,cs))) D/\Ext w w')):Does P o a w (EI (ParA X w0 D W L0 kr N e0 f) (De l s) b i g w):=
  hg.mono fun u w' ⟨bq,hu,J,hx⟩=>by
    have hJ:k<g.1.length:=by rw [hS.1.2.1];exact Nat.blt_eq.mp hkl
    have hH:¬ k=kr:=fun e=>by subst e;simp at hkr
    have hO:CS k (kr::W)=true:=by simp only [CS,hk,Bool.or_true]
    refine ⟨(g.1.set k (some (bq,cs)),g.2),⟨⟨J,hS.1.2.set k hO _⟩,fun hb=>?_,fun hb=>?_⟩,?_,fun j u hj h=>?_⟩
    . show (g.1.set k _)[kr]? = _
      rw [List.getElem?_set,if_neg hH];exact hS.2.1 hb
    . obtain ⟨e',h3,h4⟩:=hS.2.2 hb
      exact ⟨e',by show (g.1.set k _)[kr]? = _;rw [List.getElem?_set,if_neg hH];exact h3,h4⟩
    . rw [Gz hs];exact A6 hi ⟨bq,hu,by simp [hJ]⟩
    . unfold De at *
      cases ej:Nat.beq j s with
      | true=>rw [ej] at h;exact h
      | false =>
        rw [ej] at h
        have h2:=Fc hl hx j u h
        dsimp only at h2 ⊢
        unfold B4 at *
        cases e:l[j]? with
        | none=>trivial
        | some fq =>
          rw [e] at h2
          have hp:=ES h1 j fq e (by omega)
          cases fq with
          | val v=>exact h2
          | rel R=>exact h2
          | own q ds mk' =>
            obtain ⟨c,h3,h4⟩:=h2
            refine ⟨c,h3,?_⟩
            rw [List.getElem?_set,if_neg (fun e=>hp (by subst e;rfl))];exact h4
def Hp (k:Nat):List Fact->Bool
  | []=>true
  | fq::r=>(match fq.place with | some q=>!(Nat.beq q k) | none=>true) && Hp k r
theorem GD {k:Nat}:∀ {l:List Fact},Hp k l=true->∀ (j:Nat) fq,l[j]? = some fq->fq.place≠some k
  | [],_,j,fq,h=>by simp at h
  | x :: r, hb, j, fq, h => by
    simp only [Hp,Bool.and_eq_true] at hb
    cases j with
    | zero =>
      simp at h;subst h
      intro hp;have:=hb.1;rw [hp] at this;simp at this
    | succ j=>exact GD hb.2 j fq (by simpa using h)
def MX:List Fact->Bool
  | []=>true
  | .rel _::_=>false
  | .val _::r=>MX r
  | .own _ _ _::r=>MX r
theorem Fw:∀ {l:List Fact},MX l=true->∀ (j:Nat) R,l[j]?≠some (.rel R)
  | [],_,_,_,h=>by cases h
  | .rel _::_,hb,_,_,_=>by cases hb
  | .val _ :: r, hb, j, R, h => by
    cases j with
    | zero=>cases h
    | succ j=>exact Fw (l:=r) hb j R h
  | .own _ _ _ :: r, hb, j, R, h => by
    cases j with
    | zero=>cases h
    | succ j=>exact Fw (l:=r) hb j R h
theorem Qm (_hl:Lasts l)(hS:ParA X w0 D W L0 kr N e0 f false g w)(hn:Hp kr l=true)(hr:MX l=true)(hkl:Nat.blt kr L0.length=true)
    (hg:g.1[kr]? = some e0->Does P o a w (fun u w'=>∃ e',MemX X w0 w' (g.1.set kr e') D/\Sl 1 u e' N f)):Does P o a w (EI (ParA X w0 D W L0 kr N e0 f) (De l s) true s g w):=
  (hg (hS.2.1 rfl)).mono fun u w' ⟨e',J,hsl⟩=>by
    have hJ:kr<g.1.length:=by rw [hS.1.2.1];exact Nat.blt_eq.mp hkl
    have hO:CS kr (kr::W)=true:=by simp [CS]
    refine ⟨(g.1.set kr e',u),⟨⟨J,hS.1.2.set kr hO _⟩,fun hb=>(by cases hb),fun _=>⟨e',by simp [hJ],hsl⟩⟩,by unfold De;rw [show Nat.beq s s=true by simp],fun j u hj h=>?_⟩
    unfold De at *
    cases ej:Nat.beq j s with
    | true=>exact absurd (Nat.eq_of_beq_eq_true ej) hj
    | false =>
      rw [ej] at h
      dsimp only at h ⊢
      unfold B4 at *
      cases e:l[j]? with
      | none=>trivial
      | some fq =>
        rw [e] at h
        have hp:=GD hn j fq e
        cases fq with
        | val v=>exact h
        | rel R=>exact absurd e (Fw hr j R)
        | own q ds mk' =>
          obtain ⟨c,h3,h4⟩:=h
          refine ⟨c,h3,?_⟩
          rw [List.getElem?_set,if_neg (fun e=>hp (by subst e;rfl))];exact h4
end
def SL (Z k t:Nat) (xs:Nat->Value):Array Value:=BH Z (fun c=>if c<t then .int .i64 (((k+c:Nat)):Int) else xs c)
section
variable {Z k t : Nat} {xs : Nat -> Value}
theorem FE:(SL Z k t xs).size=Z:=BZ _ _
end
structure SSR (D:Al) (u:Value) (m:Nat) (Ln:Nat->Nat) (F:Nat->Nat->Int) (b cap:Nat) (cs:Array Value) (β κ:Nat->Nat) (C:Nat->Array Value):Prop where
  sl:SlAt 1 u (some (b,cs)) m b cap cs (fun i=>.slice (some ⟨β i,0,none⟩) (Ln i) (κ i))
  out:(b,cs)∈D
  rows:RowsC D m β C
  row:∀ i,i<m->SlAt 1 (.slice (some ⟨β i,0,none⟩) (Ln i) (κ i)) (some (β i,C i)) (Ln i) (β i) (κ i) (C i) (fun c=>.int .i64 (F i c))
  ne:∀ i,i<m->β i≠b
namespace SSR
variable {D D' : Al} {u : Value} {m b cap : Nat} {Ln β κ : Nat -> Nat} {F : Nat -> Nat -> Int} {cs : Array Value} {C : Nat -> Array Value}
theorem more (h:SSR D u m Ln F b cap cs β κ C)(hs:∀ x,x∈D->x∈D'):SSR D' u m Ln F b cap cs β κ C:=⟨h.sl,hs _ h.out,h.rows.more hs,h.row,h.ne⟩
theorem cell (h:SSR D u m Ln F b cap cs β κ C)(i:Nat)(hi:i<m):cs[0+i*1]? = some (.slice (some ⟨β i,0,none⟩) (Ln i) (κ i)):=h.sl.get1 i hi
theorem num (h:SSR D u m Ln F b cap cs β κ C)(i:Nat)(hi:i<m)(c:Nat)(hc:c<Ln i):(C i)[0+c*1]? = some (.int .i64 (F i c)):=(h.row i hi).get1 c hc
theorem congr {G:Nat->Nat->Int}(h:SSR D u m Ln F b cap cs β κ C)(e:∀ i,i<m->∀ c,c<Ln i->F i c=G i c):SSR D u m Ln G b cap cs β κ C:=
  ⟨h.sl,h.out,h.rows,fun i hi=>(h.row i hi).congr fun c hc=>by rw [e i hi c (by omega)],h.ne⟩
end SSR
def SSOutR (w w':World) (m:Nat) (Ln:Nat->Nat) (F:Nat->Nat->Int) (u:Value):Prop:=∃ (D:Al) (b cap:Nat) (cs:Array Value) (β κ:Nat->Nat) (C:Nat->Array Value),(∀ x ds,(x,ds)∈D->w.heap.size<=x/\Blk w' x ds)/\SSR D u m Ln F b cap cs β κ C
theorem SSOutR.of {w w':World}{L:Own}{D:Al}{m q:Nat}{Ln β κ:Nat->Nat}{C:Nat->Array Value}{F:Nat->Nat->Int}{u:Value}{b cap:Nat}{cs:Array Value}(J:AR w w' L D)(hR:RowsC D m β C)
    (hq:L[q]? = some (some (b,cs))) (hs:SlAt 1 u (some (b,cs)) m b cap cs (fun i=>.slice (some ⟨β i,0,none⟩) (Ln i) (κ i))) (hU:∀ i,i<m->w.heap.size<=β i)
    (hr:∀ i,i<m->SlAt 1 (.slice (some ⟨β i,0,none⟩) (Ln i) (κ i)) (some (β i,C i)) (Ln i) (β i) (κ i) (C i) (fun c=>.int .i64 (F i c))):SSOutR w w' m Ln F u:=by
  refine ⟨(b,cs)::(List.range m).map (fun i=>(β i,C i)),b,cap,cs,β,κ,C,fun x ds hx=>?_,hs,List.mem_cons_self ..,⟨fun i hi=>?_,hR.inj⟩,hr,fun i hi e=>(J.froz _ _ (hR.mem i hi)).2 q b cs hq e.symm⟩
  . rcases List.mem_cons.1 hx with e | hx
    . simp only [Prod.mk.injEq] at e;obtain ⟨rfl,rfl⟩:=e;exact ⟨J.ge q hq,J.row q hq⟩
    . obtain ⟨i,hi,e⟩:=List.mem_map.1 hx
      simp only [Prod.mk.injEq] at e;obtain ⟨rfl,rfl⟩:=e;have hi:i<m:=by simpa using hi
      exact ⟨hU i hi,J.fzm (hR.mem i hi)⟩
  . exact List.mem_cons_of_mem _ (List.mem_map.2 ⟨i,by simpa using hi,rfl⟩)
def Sa (C:Nat->Array Value) (i:Nat):Nat->Value:=fun c=>((C i)[c]?).getD undef
def TP (C:Nat->Array Value) (Ln:Nat->Nat) (st:Nat->Nat) (i:Nat):Array Value:=SL (C i).size (st i) (Ln i) (Sa C i)
end Go.Sw
namespace Go.Sw
open Go Go.RowKit
def Rx (l:List Fact) (s:Nat):Facts (Own×Value×Al):=fun i g u w=>match Nat.beq i s with
  | true=>u=g.2.1
  | false=>B4 l i g.1 u w
def ParD (X:List Nat) (w0:World) (D:Al) (W:List Nat) (L0:Own) (Q:Al->Value->Prop) (b:Bool) (g:Own×Value×Al) (w:World):Prop:=
  Par X w0 (g.2.2++D) W L0 g.1 w/\(b=false->g.2.2=[])/\(b=true->Q g.2.2 g.2.1)
section
variable {P : Program} {X : List Nat} {w0 w : World} {D : Al} {W : List Nat} {L0 : Own} {Q : Al -> Value -> Prop} {s i : Nat} {b : Bool} {g : Own × Value × Al} {l : List Fact} {o : Oper} {a : Act}
theorem ParD.mem (h:ParD X w0 D W L0 Q b g w)(hW:JN W L0=true):MemX X w0 w L0 D:=(Par.mem h.1 hW).sub D (fun _ hx=>List.mem_append_right _ hx)
end
def Ru (kt:Nat) (l:List Fact) (nw:List Nat) (Q:Al->Value->Prop):Facts (Own×Al):=fun i g u w=>match CS i nw with
  | true=>∃ DK,(∀ x,x∈DK->x∈g.2)/\Q DK u
  | false=>Qx kt l i g.1 u w
def S5 (X:List Nat) (w0:World) (D:Al) (W:List Nat) (L0:Own) (kt:Nat) (csO csN:Array Value) (bb:Bool) (g:Own×Al) (w:World):Prop:=SB X w0 (g.2++D) W L0 kt csO csN bb g.1 w
section
variable {P : Program} {X : List Nat} {w0 w : World} {D : Al} {W : List Nat} {L0 : Own} {kt : Nat} {csO csN : Array Value} {bb : Bool} {l : List Fact} {i : Nat} {o : Oper} {a : Act} {g : Own × Al} {nw : List Nat} {Q : Al -> Value -> Prop}
end
open Go Go.RowKit Go.Ech
def EmpF (w0:World) (L:Own) (u:Value) (w':World):Prop:=∃ b,u = .slice (some ⟨b,0,none⟩) 0 0/\Blk w' b #[]/\w0.heap.size<=b/\∀ (k:Nat) c ds,L[k]? = some (some (c,ds))->c≠b
theorem EmpF.of {w0 w w':World}{L:Own}{D:Al}{u:Value}{k:Nat}(hk:L[k]? = some none)(h:∃ b,u = .slice (some ⟨b,0,none⟩) 0 0/\AR w0 w' (L.set k (some (b,#[]))) D/\Ext w w'):EmpF w0 L u w':=by
  obtain ⟨b,h1,J,_⟩:=h;have hkl:=(List.getElem?_eq_some_iff.1 hk).1;have e:(L.set k (some (b,#[])))[k]? = some (some (b,#[])):=by rw [List.getElem?_set,if_pos rfl,if_pos hkl]
  refine ⟨b,h1,J.row k e,J.ge k e,fun j c ds hj e2=>?_⟩;subst e2
  by_cases ej:j=k
  . subst ej;rw [hk] at hj;simp at hj
  . have:=J.apart j k c ds #[] (by rw [List.getElem?_set,if_neg (fun q=>ej q.symm)];exact hj) e
    exact ej this
def SV (w0:World) (L:Own) (D:Al) (n:Nat) (M:Nat->Nat->Nat) (u:Value) (w':World):Prop:=∃ (D':Al) (β:Nat->Nat) (b:Nat) (cs:Array Value),
  (∀ x ds,(x,ds)∈D'->w0.heap.size<=x/\Blk w' x ds/\∀ (k:Nat) c es,L[k]? = some (some (c,es))->c≠x)/\RowsC D' n β (fun i=>OK n (M i))/\u = .slice (some ⟨b,0,Option.none⟩) n n/\(∀ i,i<n->cs[0+i*1]? = some (.slice (some ⟨β i,0,Option.none⟩) n n))/\(b,cs)∈D'/\(∀ i,i<n->β i≠b)/\∀ i,i<n->∀ x∈D,x.1≠β i
def S2 (R:Value->World->Prop) (u:Value) (w':World):Prop:=∃ l,u = .tuple #[l,.int .i64 0]/\R l w'
variable {P : Program}
def byt (s:ByteArray) (i:Nat):Nat:=(s.data.getD i 0).toNat
theorem G6 {s:ByteArray}{i:Nat}:byt s i<256:=UInt8.toNat_lt _
section
variable {n : Nat} {F : List (Nat × Value)} {a : Act} {w : World} {d : Option Tmp} {t T T' : TypeId} {pos : String} {af : Array Edge} {gd : Option (Nat × Bool)} {x y z : Operand}
theorem L8 {s:ByteArray}{TT:TypeId}(hT:P.underlying TT=some .string)(O:Fr n a F)(hx:look F x=some (.string s)):BN P ⟨d,.call { callee:=.builtin .len,args:=#[x],argTypes:=#[TT] },t,pos,af,gd⟩ a w (.int .i64 (s.size:Int)):=
  Ab (by simp [execOp,resolve,invoke,O.eval hx,builtin,Builtin.len_,run_underlying hT,goInt])
theorem Ef {s:ByteArray}{i:Nat}{κ:IntKind}{X:Int}(hT:P.underlying T=some .string)(O:Fr n a F)(hx:look F x=some (.string s))(hy:look F y=some (.int κ X))(hX:X=(i:Int))(hi:i<s.size) :
    BN P ⟨d,.index T x y,t,pos,af,gd⟩ a w (.int .u8 (byt s i:Int)):=by
  subst hX;have h2:s[i]? = some s[i]:=getElem?_pos s i hi;have h3:(s[i]).toNat=byt s i:=by
    unfold byt
    have:s.data.getD i 0=s[i]:=by
      rw [Array.getD_eq_getD_getElem?,Array.getElem?_eq_getElem hi];rfl
    rw [this]
  exact Ab (by simp [execOp,Instr.index,run_underlying hT,O.eval hx,O.eval hy,asIntOf,h2,h3])
end
end Go.Sw
namespace Go.Sw
open Go Go.RowKit
def QQ (P:Program):Nat->TypeId->List IntKind->Bool
  | 0,_,_=>false
  | d + 1, t, ks =>
    match P.underlying t with
    | some (.int q)=>decide (ks=[q])
    | some (.array n e)=>Nat.beq ks.length (P.cellsOf t) && (List.range n).all fun i=>QQ P d e ((ks.drop (i*P.cellsOf e)).take (P.cellsOf e))
    | some (.struct fs) => Nat.beq ks.length (P.cellsOf t) && fs.all (·.name != "_") && fs.toList.all fun f => QQ P d f.type ((ks.drop f.offset).take (P.cellsOf f.type))
    | _=>false
def SY (cs:List Value) (ks:List IntKind):Prop:=cs.length=ks.length/\∀ (i:Nat) (q:IntKind),ks[i]? = some q->∃ x,cs[i]? = some (Value.int q x)/\(Lit.int q x).wf=true
def SG (P:Program) (k:TypeId):Bool:=match P.underlying k with | some (.array _ _) | some (.struct _)=>true | _=>false
def IsMap (w:World) (b:Nat) (es:Array MapEntry) (c:Nat):Prop:=w.heap[b]? = some (.map es c)
section
variable {P : Program} {n : Nat} {F : List (Nat × Value)} {a : Act} {w w0 : World} {d : Option Tmp} {t T kt et : TypeId} {pos : String} {af : Array Edge} {gd : Option (Nat × Bool)} {x y z : Operand} {X : List Nat} {L : Own} {D : Al}
end
section
variable {P : Program} {X : List Nat} {w0 w : World} {D : Al} {W : List Nat} {L0 L : Own} {kt : Nat} {csO csN : Array Value} {bb : Bool} {l : List Fact} {i : Nat} {o : Oper} {a : Act}
end
end Go.Sw
