import Derived.Test.YtkcneleabbjkaaaSw9
import Derived.Test.YtkcneleabbjkaaaSw21
import Derived.ReadAgain
import Derived.ChangeSlices
set_option linter.unusedVariables false
set_option linter.unusedSimpArgs false
namespace Go.Sw
open Go Go.RowKit Go.ChangeShapes Go.WideShapes Go.ChangeAt
def QW (m:Nat) (g:Nat->Int):Array Value:=A1 m (fun c=>.int .i64 (g c))
section
variable {m q : Nat} {f g : Nat -> Int}
end
def ArgSl (w:World) (sl:Value) (m:Nat) (g:Nat->Int):Prop:=
  (∃ x c,sl = .slice x m c)/\(0<m->∃ b o c,sl = .slice (some ⟨b,o,none⟩) m c/\∀ i,i<m->w.cell? ⟨b,o+i*1,none⟩=some (.int .i64 (g i)))
theorem E1 {w w':World}{b o:Nat}{v:Value}(h:w.cell? ⟨b,o,none⟩=some v)(hx:Ext w w'):w'.cell? ⟨b,o,none⟩=some v:=by
  have hb:b<w.heap.size:=by
    by_cases hb:b<w.heap.size
    . exact hb
    . have hn:w.heap[b]? = none:=by simp;omega
      unfold World.cell? at h
      simp only [hn] at h
      cases h
  unfold World.cell? at h ⊢
  simp only [hx.block b hb];exact h
theorem ArgSl.ext {w w':World}{sl:Value}{m:Nat}{g:Nat->Int}(h:ArgSl w sl m g)(hx:Ext w w'):ArgSl w' sl m g:=
  ⟨h.1,fun hm=>by obtain ⟨b,o,c,h1,h3⟩:=h.2 hm;exact ⟨b,o,c,h1,fun i hi=>E1 (h3 i hi) hx⟩⟩
theorem ArgSl.one {w:World}{sl:Value}{m:Nat}{g:Nat->Int}(h:ArgSl w sl m g):sl.oneCell'=true:=by
  obtain ⟨⟨x,c,rfl⟩,_⟩:=h;rfl
theorem ArgSl.congr {w:World}{sl:Value}{m:Nat}{g g':Nat->Int}(h:ArgSl w sl m g)(e:∀ i,i<m->g i=g' i):ArgSl w sl m g':=
  ⟨h.1,fun hm=>by obtain ⟨b,o,c,h1,h3⟩:=h.2 hm;exact ⟨b,o,c,h1,fun i hi=>by rw [← e i hi];exact h3 i hi⟩⟩
section
variable {P : Program} {n : Nat} {F : List (Nat × Value)} {a : Act} {w : World} {d : Option Tmp} {t : TypeId} {pos : String} {af : Array Edge} {gd : Option (Nat × Bool)} {x : Operand}
theorem J8 {T:TypeId}{b o:Nat}{v:Value}(hT:FB P T=true)(O:Fr n a F)(hx:look F x=some (ptr b o))(hc:w.cell? ⟨b,o,none⟩=some v):Be P ⟨d,.load T x,t,pos,af,gd⟩ a w v:=by
  have h1:=(CV hT w).1;exact As (by simp [execOp,Instr.loadAt,Instr.sureAddr,O.eval hx,loadVar,h1,hc])
end
section
variable {H : Type} {enc : TypeId × Value -> H} {P : Program} {w w' : World}
theorem GL:∀ {ts:List TypeId} {vs:List Value} {ds:List (DataW H)} {ps:List MemPlace} {base:Nat} {spare:Nat->Bool} {held:Bool},
    DataW.TrodAll enc P w base spare held ts vs ds ps->(∀ p∈ps,w.sameAt w' p)->DataW.TrodAll enc P w' base spare held ts vs ds ps
  | [],[],[],_,_,_,_,h,_=>h
  | _ :: _, _ :: _, _ :: _, _, _, _, _, ⟨p, q, ⟨fuel, h1⟩, h2, e⟩, hs =>
    ⟨p,q,⟨fuel,DataW.trod_carry fuel _ _ _ h1 (fun y hy=>hs y (by rw [e];exact List.mem_append_left _ hy))⟩,GL h2 (fun y hy=>hs y (by rw [e];exact List.mem_append_right _ hy)),e⟩
theorem LS (hx:Ext w w'){p:MemPlace}(hp:p.block<w.heap.size):w.sameAt w' p:=by
  have h:=hx.block p.block hp
  cases p with
  | cell b off =>
    show w'.cell? ⟨b,off,none⟩=w.cell? ⟨b,off,none⟩
    simp only [MemPlace.block] at h
    unfold World.cell?
    simp only [h]
  | map b=>exact h
theorem args_again (hl:laidOutB P=true)(hm:mapsRowed P=true)(hz:((List.range P.types.size).all fun t=>match P.underlying t with | some (.slice e)=>decide (0<P.cellsOf e) | _=>true)=true)
    {ts:List TypeId} {vs:List Value} {ds:List (DataW H)} {ps:List MemPlace} (hT:∀ t∈ts,t<P.types.size) (hx:Ext w w') (hlt:∀ p∈ps,p.block<w.heap.size)
    (h:DataW.TrodAll enc P w 0 (fun _=>true) true ts vs ds ps) (sp:Nat->Bool) (hsp:∀ p∈ps,sp p.block=true):DataW.TrodAll enc P w' 0 sp true ts vs ds ps:=
  GL (DataW.TrodAll.respare (kids_rows hl hm) (fun t e ht hu=>slices_full_of P hz t e ht hu) hT h hsp) (fun p hp=>LS hx (hlt p hp))
variable {base : Nat} {spare : Nat -> Bool} {held : Bool}
def RB (fs:Array Field) (ti ts:TypeId):Bool:=(List.range 5).all fun i=>match fs[i]? with
  | some f=>Nat.beq f.offset i && Nat.beq f.type (if i<4 then ti else ts)
  | none=>false
end
section
variable {P : Program} {X : List Nat} {w0 w : World} {L : Own} {D : A7} {n : Nat} {F : List (Nat × Value)} {a : Act} {d : Option Tmp} {T : TypeId} {t : TypeId} {pos : String} {af : Array Edge} {gd : Option (Nat × Bool)} {x y : Operand}
theorem K2 {len by':Nat}{e:TypeId}{z:Value}(k:Nat)(I:MemX X w0 w L D)(O:Fr n a F)(hT:Nk P T=some (e,some z,1,by'))(hz:z.cells = #[z])(hx:look F x=some (.int .i64 (len:Int)))(hy:look F y=some (.int .i64 (len:Int)))(hl:len<10000000)(hb:by'<1000) :
    Does P ⟨d,.makeSlice T x y,t,pos,af,gd⟩ a w (fun u w'=>∃ b,u = .slice (some ⟨b,0,none⟩) len len/\MemX X w0 w' (L.set k (some (b,A1 len (fun _=>z)))) D/\Ext w w'):=
  ⟨fun K Q hk=>by
    have:=hk _ (w.alloc (.cells (A1 len (fun _=>z)) e)) ⟨w.heap.size,rfl,I.fill (Ext.alloc _ _) k (Blk.new _ _ _) (Nat.le_refl _),Ext.alloc _ _⟩
    unfold Nk at hT
    cases hu:P.underlying T with
    | none=>simp [hu] at hT
    | some dd =>
      cases dd<;>simp [hu] at hT
      rename_i el
      obtain ⟨inf,hinf,rfl,hz0,hsz,hby⟩:=hT
      have hmul:inf.bytes*len<=1000*10000000:=Nat.mul_le_mul (by omega) (by omega)
      have hO:(inf.bytes:Int)*(len:Int)<=281474976710656:=by
        have:((inf.bytes*len:Nat):Int)<=281474976710656:=by omega
        rwa [Int.natCast_mul] at this
      have hZ:=run_make (P:=P) w T el inf z hu hinf hz0 .i64 .i64 (len:Int) (len:Int) (by omega) (Int.le_refl _) hO (by omega);have ec:madeCells z.cells (len*inf.size)=A1 len (fun _=>z):=by
        rw [hsz,hz,Nat.mul_one]
        apply GF (size_madeCells _ _)
        intro i hi
        unfold madeCells
        rw [Array.getElem?_map,Array.getElem?_range,if_pos hi]
        simp [Nat.mod_one]
      simp only [Int.toNat_natCast,ec] at hZ
      unfold Oper.wp execOp
      simp only [O.eval hx,O.eval hy,Sem.run_bind,hZ,Result.andThen_ok,Sem.run_pure];exact this⟩
end
abbrev Qq (w w':World) (p n i o:Int) (m:Nat) (g:Nat->Int) (v:Value):Prop:=
  ∃ b,v = .agg (Pp p n i o (.slice (some ⟨b,0,none⟩) m m))/\w.heap.size<=b/\Blk w' b (QW m g)
open Go Go.RowKit
inductive FactE where
  | val (v:Value)
  | frz (c:Array Value) (mk:Nat->Value)
  | own (mk:Nat->Value)
def Q2 (kt:Nat) (l:List FactE):Facts (Own×A7):=fun i g u _=>match l[i]? with
  | some (.val v)=>u=v
  | some (.frz c mk)=>∃ b,(b,c)∈g.2/\u=mk b
  | some (.own mk)=>∃ b cs,u=mk b/\g.1[kt]? = some (some (b,cs))
  | none=>True
def inE (c:Option (Array Value)) (b:Nat) (E:A7):Prop:=match c with
  | none=>True
  | some c=>(b,c)∈E
theorem inE.more {c:Option (Array Value)}{b:Nat}{E:A7}(h:inE c b E)(x:Nat×Array Value):inE c b (x::E):=by
  cases c with
  | none=>trivial
  | some c=>exact List.mem_cons_of_mem _ h
def Rm (X:List Nat) (w0:World) (D:A7) (L0:Own) (kt:Nat) (csO:Array Value) (c3:Option (Array Value)) (csN:Nat->Array Value) (bb:Bool) (g:Own×A7) (w:World):Prop:=
  (MemX X w0 w g.1 (g.2++D)/\Same [kt] L0 g.1)/\∀ b cs,g.1[kt]? = some (some (b,cs))->(bb=false->cs=csO)/\(bb=true->∃ x,inE c3 x g.2/\cs=csN x)
section
variable {P : Program} {X : List Nat} {w0 w : World} {D : A7} {L0 : Own} {g : Own × A7} {kt : Nat} {csO : Array Value} {c3 : Option (Array Value)} {csN : Nat -> Array Value} {bb : Bool} {l : List FactE} {i : Nat} {o : Oper} {a : Act}
def MG:List FactE->Nat->Nat->Bool
  | [],_,_=>true
  | .own _::r,i,s=>Nat.beq s i && MG r i (s+1)
  | _::r,i,s=>MG r i (s+1)
end
theorem JB {v:Nat->Nat}(q:Nat)(hq:q<1*6):(Gj 1 (Cj [v]))[0+q]? = some (.int .u8 (v q:Int)):=by
  unfold Gj
  rw [CA (by omega),show (0+q) / 6=0 by omega,show (0+q)%6=q by omega]
  rfl
theorem Sl.snoc6 {u:Value}{e:Option (Nat×Array Value)}{N:Nat}{F G:Nat->Value}(h:Sl 6 u e (N+1) (fun i=>if i<N*6 then F i else G (i - N*6)))(hG:∀ q,q<6->G q=F (N*6+q)):Sl 6 u e (N+1) F:=
  h.congr fun i hi=>by
    by_cases h1:i<N*6
    . rw [if_pos h1]
    . rw [if_neg h1,hG _ (by omega),show N*6+(i - N*6)=i by omega]
theorem SlAt.vec {u:Value}{e:Option (Nat×Array Value)}{N b cap:Nat}{cs:Array Value}{V:Nat->Nat->Nat}(h:SlAt 6 u e N b cap cs (fun c=>.int .u8 (V (c / 6) (c%6):Int)))(i:Nat)(hi:i<N):cs.extract (i*6) (i*6+6)=AQ (V i):=
  Ch rfl (by rw [h.sz];have:=h.le;omega) fun q hq=>by
    rw [h.get _ (by omega),show (i*6+q) / 6=i by omega,show (i*6+q)%6=q by omega]
def rowP (N K:Nat) (f:Nat->Nat) (x:Nat->Value):Array Value:=A1 K (fun c=>if c<N then .int .u8 (f c:Int) else x c)
section
variable {N K o : Nat} {f g : Nat -> Nat} {x : Nat -> Value}
theorem LX (h:∀ c,c<N->f c=g c):rowP N K f x=rowP N K g x:=BS fun c _=>by
  by_cases hc:c<N
  . rw [if_pos hc,if_pos hc,h c hc]
  . rw [if_neg hc,if_neg hc]
theorem SlAt.rowP {v:Value}{b cap:Nat}{cs:Array Value}(h:SlAt 1 v (some (b,cs)) N b cap cs (fun c=>.int .u8 (f c:Int))):cs=rowP N cap f (fun c=>cs[c]?.getD undef):=
  GF (by rw [h.sz,Nat.mul_one]) fun i hi=>by
    by_cases e:i<N
    . rw [if_pos e];exact h.get i (by omega)
    . rw [if_neg e]
      have:i<cs.size:=by rw [h.sz];omega
      simp [this]
end
structure RowsLP (L:Own) (N m:Nat) (κ:Nat->Nat) (Xs:Nat->Nat->Value) (γ pos:Nat->Nat) (M:Nat->Nat->Nat):Prop where
  at_:∀ i,i<m->L[pos i]? = some (some (γ i,rowP N (κ (γ i)) (M i) (Xs (γ i))))
  inj:∀ i j,i<m->j<m->pos i=pos j->i=j
  ne0:∀ i,i<m->pos i≠0
namespace RowsLP
variable {L : Own} {N m : Nat} {κ : Nat -> Nat} {Xs : Nat -> Nat -> Value} {γ pos : Nat -> Nat} {M : Nat -> Nat -> Nat}
theorem set0 (h:RowsLP L N m κ Xs γ pos M)(x:Option (Nat×Array Value)):RowsLP (L.set 0 x) N m κ Xs γ pos M:=
  ⟨fun i hi=>by rw [List.getElem?_set,if_neg (fun e=>h.ne0 i hi e.symm)];exact h.at_ i hi,h.inj,h.ne0⟩
theorem setRow (h:RowsLP L N m κ Xs γ pos M){i:Nat}(hi:i<m)(r:Nat->Nat){cs:Array Value}(hc:cs=rowP N (κ (γ i)) r (Xs (γ i))):RowsLP (L.set (pos i) (some (γ i,cs))) N m κ Xs γ pos (Go.Ech.upE M i r):=
  ⟨fun j hj=>by
    rw [List.getElem?_set]
    by_cases e:j=i
    . subst e
      have hl:=(List.getElem?_eq_some_iff.1 (h.at_ j hj)).1
      rw [if_pos rfl,if_pos hl,hc];simp only [Go.Ech.upE,if_true]
    . rw [if_neg (fun e2=>e (h.inj _ _ hj hi e2.symm))];simp only [Go.Ech.upE,if_neg e];exact h.at_ j hj,h.inj,h.ne0⟩
theorem swap (h:RowsLP L N m κ Xs γ pos M){a b:Nat}(ha:a<m)(hb:b<m):RowsLP L N m κ Xs (Go.Ech.sw a b γ) (Go.Ech.sw a b pos) (Go.Ech.sw a b M):=by
  refine ⟨fun i hi=>?_,fun i j hi hj e=>?_,fun i hi=>?_⟩
  . unfold Go.Ech.sw;split
    . exact h.at_ b hb
    . split
      . exact h.at_ a ha
      . exact h.at_ i hi
  . unfold Go.Ech.sw at e
    by_cases e1:i=a<;>by_cases e2:i=b<;>by_cases e3:j=a<;>by_cases e4:j=b<;>simp only [e1,e2,e3,e4,if_true,if_false] at e<;>first | omega | (have:=h.inj _ _ hb ha e;omega) | (have:=h.inj _ _ ha hb e;omega) | (split at e<;>first | (have:=h.inj _ _ hb (by omega) e;omega) | (have:=h.inj _ _ ha (by omega) e;omega) | (have:=h.inj _ _ (by omega) (by omega) e;omega)) | (have:=h.inj _ _ (by omega) (by omega) e;omega)
  . unfold Go.Ech.sw;split
    . exact h.ne0 b hb
    . split
      . exact h.ne0 a ha
      . exact h.ne0 i hi
theorem congr {M':Nat->Nat->Nat}(h:RowsLP L N m κ Xs γ pos M)(e:∀ i,i<m->M i=M' i):RowsLP L N m κ Xs γ pos M':=
  ⟨fun i hi=>by rw [← e i hi];exact h.at_ i hi,h.inj,h.ne0⟩
theorem apart {X:List Nat}{w0 w:World}{D:A7}(h:RowsLP L N m κ Xs γ pos M)(I:MemX X w0 w L D){i j:Nat}(hi:i<m)(hj:j<m)(hH:i≠j):γ i≠γ j:=fun e=>by
  have h1:=h.at_ i hi
  have h2:=h.at_ j hj
  rw [e] at h1
  exact hH (h.inj i j hi hj (I.apart _ _ _ _ _ h1 h2))
end RowsLP
def Qo (b0:Nat) (cs0:Array Value) (N m:Nat) (κ:Nat->Nat) (Xs:Nat->Nat->Value) (γ:Nat->Nat) (M:Nat->Nat->Nat):Own:=some (b0,cs0)::(List.range m).map (fun i=>some (γ i,rowP N (κ (γ i)) (M i) (Xs (γ i))))
end Go.Sw
namespace Go.Ech
open Go.Sw
theorem Cb (f:Nat->Int)(n m:Nat):sI f (n+m)=sI f n+sI (fun i=>f (n+i)) m:=by
  induction m with
  | zero=>simp [sI]
  | succ m ih =>
    show sI f (n+m+1)=_
    simp only [sI];rw [ih];omega
def Rk (F:Nat->Nat->Nat) (i c:Nat):Nat:=if c<6 then F i c else if c=6+i then 1 else 0
theorem MI {n:Nat}{ld:Nat->Nat}(hm:∀ i j,i<j->j<n->ld i<ld j)(hl:∀ i,i<n->ld i<n):∀ i,i<n->ld i=i:=by
  have h1:∀ i,i<n->i<=ld i:=by
    intro i
    induction i with
    | zero=>intro _;omega
    | succ i ih=>intro hi;have:=ih (by omega);have:=hm i (i+1) (by omega) hi;omega
  have h2:∀ d i,i+d+1=n->ld i+d<n:=by
    intro d
    induction d with
    | zero=>intro i hi;have:=hl i (by omega);omega
    | succ d ih=>intro i hi;have:=ih (i+1) (by omega);have:=hm i (i+1) (by omega) (by omega);omega
  intro i hi;have:=h1 i hi;have:=h2 (n - 1 - i) i (by omega)
  omega
def FullK (p n:Nat) (F:Nat->Nat->Nat):Prop:=∃ E ld,Rref p 6 E n ld/\∀ x,Ker p 6 E n x↔Ker p 6 F n x
theorem FullK.zero {p n:Nat}{F:Nat->Nat->Nat}(hp:2<=p)(hn:n<=6)(O:∀ i c,n<=c->F i c=0)(h:FullK p n F){x:Nat->Int}(hx:Ker p 6 F n x)(h0:∀ d,n<=d->d<6->x d=0){c:Nat}(hc:c<n):(p:Int)∣x c:=by
  obtain ⟨E,ld,hR,hK⟩:=h;have hl:∀ i,i<n->ld i<n:=fun i hi=>Decidable.byContradiction fun hno=>
    Jv (c:=ld i) hp hR hK (hR.lt i hi) (fun j _=>O j _ (by omega)) ⟨i,hi,rfl⟩
  have hid:=MI hR.mono hl;have:=(hK x).2 hx c hc
  unfold dot at this
  rw [Cc (a:=c) (by omega)] at this
  . have e:=hR.one c hc
    rw [hid c hc] at e
    simpa [ci,e] using this
  . intro d hd hH
    by_cases hdn:d<n
    . have:=hR.zero d c hdn hc hH
      rw [hid d hdn] at this
      simp [ci,this]
    . rw [h0 d (by omega) hd];simp
structure IsCop (p n:Nat) (F G:Nat->Nat->Nat):Prop where
  lt:∀ i j,G i j<p
  out:∀ i j,n<=i\/n<=j->G i j=0
  sol:∀ i,i<n->∀ j,j<n->(p:Int)∣sI (fun k=>(F i k:Int)*(G k j:Int)) n - (dl i j:Int)
theorem PJ {p n:Nat}{F:Nat->Nat->Nat}(hp:2<=p)(hn:n<=6)(O:∀ i c,n<=c->F i c=0)(h:FullK p n F){x y:Nat->Nat}{b:Nat->Int}(hx:∀ c,c<n->x c<p)(hy:∀ c,c<n->y c<p)(h1:∀ i,i<n->(p:Int)∣sI (fun k=>(F i k:Int)*(x k:Int)) n - b i)(h2:∀ i,i<n->(p:Int)∣sI (fun k=>(F i k:Int)*(y k:Int)) n - b i):∀ c,c<n->x c=y c:=by
  intro c hc;have hK:Ker p 6 F n (fun c=>if c<n then (x c:Int) - (y c:Int) else 0):=fun i hi=>by
    have h3:=Int.dvd_sub (h1 i hi) (h2 i hi);have e:dot 6 (ci (F i)) (fun c=>if c<n then (x c:Int) - (y c:Int) else 0)=sI (fun k=>(F i k:Int)*(x k:Int)) n - b i - (sI (fun k=>(F i k:Int)*(y k:Int)) n - b i):=by
      unfold dot
      rw [HQ hn (fun c h1 _=>by simp [show ¬ c<n by omega])];have:sI (fun k=>(F i k:Int)*(x k:Int)) n=sI (fun c=>ci (F i) c*(if c<n then (x c:Int) - (y c:Int) else 0)) n+sI (fun k=>(F i k:Int)*(y k:Int)) n:=by
        rw [← EM];exact Aw fun c hc=>by rw [if_pos hc];grind
      rw [this]
      show sI (fun c=>ci (F i) c*(if c<n then (x c:Int) - (y c:Int) else 0)) n=_
      omega
    rw [e];exact h3
  have:=h.zero hp hn O hK (fun d h1 _=>by simp [show ¬ d<n by omega]) hc;simp only [if_pos hc] at this;exact EI (hx c hc) (hy c hc) this
theorem IsCop.unique {p n:Nat}{F G G':Nat->Nat->Nat}(hp:2<=p)(hn:n<=6)(O:∀ i c,n<=c->F i c=0)(hf:FullK p n F)(h:IsCop p n F G)(h':IsCop p n F G'):G=G':=by
  funext i j
  by_cases e:n<=i\/n<=j
  . rw [h.out i j e,h'.out i j e]
  . exact PJ hp hn O hf (x:=fun k=>G k j) (y:=fun k=>G' k j) (b:=fun i=>(dl i j:Int)) (fun c _=>h.lt c j) (fun c _=>h'.lt c j) (fun i hi=>h.sol i hi j (by omega)) (fun i hi=>h'.sol i hi j (by omega)) i (by omega)
theorem QA {p u:Nat}(hp:primeN p)(hu:u<p)(h0:u≠0):∃ v,u*v%p=1:=by
  have key:∀ q:Nat,(∀ a,a<q->a≠0->∃ v,v<q/\a*v%q=1)->p=q->∃ v,u*v%p=1:=fun q hq e=>by
    subst e;obtain ⟨v,_,h⟩:=hq u hu h0;exact ⟨v,h⟩
  rcases hp with e | e | e | e | e | e
  . exact key 2 (by decide) e
  . exact key 3 (by decide) e
  . exact key 5 (by decide) e
  . exact key 7 (by decide) e
  . exact key 11 (by decide) e
  . exact key 13 (by decide) e
theorem OJ {o:Nat->Nat}{N:Nat}(h:¬ ∀ c,c<N->o c=0):∃ t,t<N/\o t≠0/\∀ c,c<t->o c=0:=by
  induction N with
  | zero=>exact absurd (fun c hc=>absurd hc (by omega)) h
  | succ N ih =>
    by_cases e:∀ c,c<N->o c=0
    . refine ⟨N,by omega,fun h0=>h fun c hc=>?_,e⟩
      by_cases ec:c=N
      . rw [ec,h0]
      . exact e c (by omega)
    . obtain ⟨t,h1,h2⟩:=ih e;exact ⟨t,by omega,h2⟩
theorem Ox {p N k:Nat}{E:Nat->Nat->Nat}{ld r:Nat->Nat}(hp:0<p)(h:Rref p N E k ld)(hr:∀ c,r c<p):∃ o,Own p N E k ld r o k/\∀ c,o c<p:=by
  have:∀ j,j<=k->∃ o,Own p N E k ld r o j/\∀ c,o c<p:=by
    intro j
    induction j with
    | zero=>intro _;exact ⟨r,⟨fun c _=>hr c,fun i hi=>absurd hi (by omega),fun x _=>Iff.rfl⟩,hr⟩
    | succ j ih=>intro hj;obtain ⟨o,h1,_⟩:=ih (by omega);exact ⟨_,h1.step hp h (by omega),fun c=>FE hp⟩
  exact this k (Nat.le_refl _)
theorem Dx {p N m:Nat}{M:Nat->Nat->Nat}(hp:primeN p)(I:∀ i c,M i c<p):∃ k E ld,Rref p N E k ld/\k<=m/\∀ x,Ker p N E k x↔Ker p N M m x:=by
  have hp0:0<p:=by have:=hp.two;omega
  induction m with
  | zero=>exact ⟨0,M,fun _=>0,⟨fun i hi=>absurd hi (by omega),fun i j _ hi=>absurd hi (by omega),fun i hi=>absurd hi (by omega),fun i hi=>absurd hi (by omega),fun i j hi=>absurd hi (by omega),fun i hi=>absurd hi (by omega)⟩,Nat.le_refl _,fun x=>Iff.rfl⟩
  | succ m ih =>
    obtain ⟨k,E,ld,hR,hk,hK⟩:=ih;obtain ⟨o,ho,ho2⟩:=Ox hp0 hR (I m)
    by_cases hz:∀ c,c<N->o c=0
    . refine ⟨k,E,ld,hR,by omega,fun x=>?_⟩
      rw [Ker.snoc,← hK];exact ⟨fun h=>⟨h,(ho.ker x h).1 (Ik hz)⟩,fun h=>h.1⟩
    . obtain ⟨t,ht,h0,hlow⟩:=OJ hz
      obtain ⟨v,hv⟩:=QA hp (ho2 t) h0;have hH:∀ i,i<k->ld i≠t:=fun i hi e=>h0 (by rw [← e];exact ho.zero i hi);obtain ⟨b1,b2,b3⟩:=Io hR hH;have f:Fits p N E k ld (fun c=>o c*v%p) t (below k ld t):=
        ⟨ht,hv,fun c hc=>by simp [hlow c hc],fun c _=>Nat.mod_lt _ hp0,fun i hi=>by simp [ho.zero i hi],b1,b2,b3⟩
      refine ⟨k+1,_,_,hR.insert hp0 f,by omega,fun x=>?_⟩;rw [Gb hp0 b1,Ker.snoc,← hK];have hsc:(p:Int)∣dot N (ci fun c=>o c*v%p) x↔(p:Int)∣dot N (ci o) x:=HP (v:=v) (u:=o t) (fun c _=>rfl) hv;rw [hsc];exact ⟨fun h=>⟨h.1,(ho.ker x h.1).1 h.2⟩,fun h=>⟨h.1,(ho.ker x h.1).2 h.2⟩⟩
end Go.Ech
namespace Go.Sw
open Go Go.RowKit
variable {P : Program}
section
variable {n : Nat} {F : List (Nat × Value)} {a : Act} {X : List Nat} {w w0 : World} {L : Own} {D : A7}
variable {d : Option Tmp} {t : TypeId} {pos : String} {af : Array Edge} {gd : Option (Nat × Bool)} {T : TypeId} {x y : Operand}
end
structure RowsPD (D:A7) (N m:Nat) (κ:Nat->Nat) (Xs:Nat->Nat->Value) (γ:Nat->Nat) (M:Nat->Nat->Nat):Prop where
  mem:∀ i,i<m->(γ i,rowP N (κ (γ i)) (M i) (Xs (γ i)))∈D
  inj:∀ i j,i<m->j<m->γ i=γ j->i=j
namespace RowsPD
variable {D D' : A7} {N m : Nat} {κ : Nat -> Nat} {Xs : Nat -> Nat -> Value} {γ : Nat -> Nat} {M : Nat -> Nat -> Nat}
theorem none:RowsPD D N 0 κ Xs γ M:=⟨fun i hi=>absurd hi (by omega),fun i j hi=>absurd hi (by omega)⟩
theorem more (h:RowsPD D N m κ Xs γ M)(hs:∀ x∈D,x∈D'):RowsPD D' N m κ Xs γ M:=⟨fun i hi=>hs _ (h.mem i hi),h.inj⟩
theorem congr {M':Nat->Nat->Nat}(h:RowsPD D N m κ Xs γ M)(e:∀ i,i<m->∀ c,c<N->M i c=M' i c):RowsPD D N m κ Xs γ M':=
  ⟨fun i hi=>by rw [← LX (e i hi)];exact h.mem i hi,h.inj⟩
theorem snoc (h:RowsPD D N m κ Xs γ M){b cap:Nat}{r:Nat->Nat}{x:Nat->Value}{cs:Array Value}(hc:cs=rowP N cap r x)(hm:(b,cs)∈D)(hn:∀ i,i<m->b≠γ i):RowsPD D N (m+1) (fun y=>if y=b then cap else κ y) (fun y=>if y=b then x else Xs y) (up γ m b) (Go.Ech.upE M m r):=by
  refine ⟨fun i hi=>?_,fun i j hi hj e=>?_⟩
  . by_cases e:i=m
    . subst e;simp only [CF,Go.Ech.upE,if_true];rw [← hc];exact hm
    . have hH:¬ γ i=b:=fun h2=>hn i (by omega) h2.symm
      simp only [Bi e,Go.Ech.upE,if_neg e,if_neg hH];exact h.mem i (by omega)
  . unfold up at e
    by_cases e1:i=m<;>by_cases e2:j=m
    . omega
    . rw [if_pos e1,if_neg e2] at e;exact absurd e (hn j (by omega))
    . rw [if_neg e1,if_pos e2] at e;exact absurd e.symm (hn i (by omega))
    . rw [if_neg e1,if_neg e2] at e;exact h.inj i j (by omega) (by omega) e
end RowsPD
theorem M0 {m i:Nat}{x:Nat×Array Value}{γ:Nat->Nat}{R:Nat->Array Value}(hi:i<m):(γ i,R i)∈x::(List.range m).map (fun i=>(γ i,R i)):=
  List.mem_cons_of_mem _ (List.mem_map.2 ⟨i,by simpa using hi,rfl⟩)
end Go.Sw
namespace Go.Ech
open Go.Sw
def Rj (n:Nat) (F:Nat->Nat->Nat) (j i c:Nat):Nat:=if c<n then F i c else if i=j then 1 else 0
end Go.Ech
namespace Go.Sw
open Go Go.RowKit Go.Ech
def TabOut (w w':World) (N k:Nat) (f:Nat->Nat->Value) (u:Value):Prop:=∃ (D:A7) (β κ:Nat->Nat) (C:Nat->Array Value) (b cap:Nat) (cs:Array Value),
  (∀ x ds,(x,ds)∈D->w.heap.size<=x/\Blk w' x ds)/\RowsD D N k β κ C f/\SlAt 1 u (some (b,cs)) k b cap cs (fun i=>.slice (some ⟨β i,0,none⟩) N (κ i))/\(b,cs)∈D/\(∀ i j,i<k->j<k->β i=β j->i=j)/\∀ i,i<k->β i≠b
theorem TabOut.rows {w w':World}{N k:Nat}{f:Nat->Nat->Value}{u:Value}(h:TabOut w w' N k f u):RowsOut w w' N k f u:=by
  obtain ⟨D,β,κ,C,b,cap,cs,h1,h2,h3,h4,_⟩:=h;exact ⟨D,β,κ,C,b,cap,cs,h1,h2,h3,h4⟩
theorem TabOut.of {w w':World}{L:Own}{D:A7}{N k q:Nat}{β κ:Nat->Nat}{C:Nat->Array Value}{f:Nat->Nat->Value}{u:Value}{b cap:Nat}{cs:Array Value}(I:Ag w w' L D)(hR:RowsD D N k β κ C f)
    (hq:L[q]? = some (some (b,cs))) (hs:SlAt 1 u (some (b,cs)) k b cap cs (fun i=>.slice (some ⟨β i,0,none⟩) N (κ i))) (hge:∀ i,i<k->w.heap.size<=β i) (hi:∀ i j,i<k->j<k->β i=β j->i=j):TabOut w w' N k f u:=by
  refine ⟨(b,cs)::(List.range k).map (fun i=>(β i,C i)),β,κ,C,b,cap,cs,fun x ds hx=>?_,⟨fun i hi=>?_,hR.sl⟩,hs,List.mem_cons_self ..,hi,fun i hi e=>(I.froz _ _ (hR.mem i hi)).2 q b cs hq e.symm⟩
  . rcases List.mem_cons.1 hx with e | hx
    . simp only [Prod.mk.injEq] at e;obtain ⟨rfl,rfl⟩:=e;exact ⟨I.ge q hq,I.row q hq⟩
    . obtain ⟨i,hi,e⟩:=List.mem_map.1 hx
      simp only [Prod.mk.injEq] at e;obtain ⟨rfl,rfl⟩:=e;have hi:i<k:=by simpa using hi
      exact ⟨hge i hi,I.fzm (hR.mem i hi)⟩
  . exact List.mem_cons_of_mem _ (List.mem_map.2 ⟨i,by simpa using hi,rfl⟩)
def RY (D:A7) (b:Nat):A7:=D.filter (fun x=>decide (x.1≠b))
structure RowsC (D:A7) (m:Nat) (β:Nat->Nat) (R:Nat->Array Value):Prop where
  mem:∀ i,i<m->(β i,R i)∈D
  inj:∀ i j,i<m->j<m->β i=β j->i=j
namespace RowsC
variable {D D' : A7} {m : Nat} {β : Nat -> Nat} {R : Nat -> Array Value}
theorem none:RowsC D 0 β R:=⟨fun i hi=>absurd hi (by omega),fun i j hi=>absurd hi (by omega)⟩
theorem more (h:RowsC D m β R)(hs:∀ x∈D,x∈D'):RowsC D' m β R:=⟨fun i hi=>hs _ (h.mem i hi),h.inj⟩
theorem congr {R':Nat->Array Value}(h:RowsC D m β R)(e:∀ i,i<m->R i=R' i):RowsC D m β R':=⟨fun i hi=>by rw [← e i hi];exact h.mem i hi,h.inj⟩
theorem setRow (h:RowsC D m β R){i:Nat}(hi:i<m)(cs:Array Value):RowsC (Cr D (β i) cs) m β (upE R i cs):=
  ⟨fun j hj=>by
    rw [mem_updD]
    by_cases e:j=i
    . subst e;exact .inl ⟨rfl,if_pos rfl,_,h.mem j hj⟩
    . simp only [upE,if_neg e];exact .inr ⟨fun e2=>e (h.inj _ _ hj hi e2),h.mem j hj⟩,h.inj⟩
theorem snoc (h:RowsC D m β R){b:Nat}{cs:Array Value}(hm:(b,cs)∈D)(hn:∀ i,i<m->b≠β i):RowsC D (m+1) (up β m b) (upE R m cs):=by
  refine ⟨fun i hi=>?_,fun i j hi hj e=>?_⟩
  . by_cases e:i=m
    . subst e;simp only [CF,upE,if_true];exact hm
    . simp only [Bi e,upE,if_neg e];exact h.mem i (by omega)
  . unfold up at e
    by_cases e1:i=m<;>by_cases e2:j=m
    . omega
    . rw [if_pos e1,if_neg e2] at e;exact absurd e (hn j (by omega))
    . rw [if_neg e1,if_pos e2] at e;exact absurd e.symm (hn i (by omega))
    . rw [if_neg e1,if_neg e2] at e;exact h.inj i j (by omega) (by omega) e
end RowsC
def Hy (n:Nat) (f:Nat->Nat):Array Value:=A1 n (fun c=>.int .i64 (f c:Int))
theorem Ou {n b:Nat}{f:Nat->Nat}(hn:n<=100):SlAt 1 (.slice (some ⟨b,0,Option.none⟩) n n) (some (b,Hy n f)) n b n (Hy n f) (fun c=>.int .i64 (f c:Int)):=
  ⟨rfl,rfl,Nat.le_refl _,by unfold maxLen;omega,by unfold Hy;rw [BM];omega,fun i hi=>by unfold Hy;exact CA (by omega)⟩
theorem RowsC.rowsD {D:A7}{m N:Nat}{β:Nat->Nat}{M:Nat->Nat->Nat}(h:RowsC D m β (fun i=>Hy N (M i)))(hN:N<=100):RowsD D N m β (fun _=>N) (fun i=>Hy N (M i)) (fun i c=>.int .i64 (M i c:Int)):=
  ⟨h.mem,fun _ _=>Ou hN⟩
theorem SlAt.vec0 {u:Value}{e:Option (Nat×Array Value)}{N b cap:Nat}{cs:Array Value}{V:Nat->Nat->Nat}(h:SlAt 6 u e N b cap cs (fun c=>.int .u8 (V (c / 6) (c%6):Int)))(i:Nat)(hi:i<N):cs.extract (0+i*6) (0+i*6+6)=AQ (V i):=by
  rw [Nat.zero_add];exact h.vec i hi
theorem SlAt.room {u:Value}{e:Option (Nat×Array Value)}{N b cap:Nat}{cs:Array Value}{f:Nat->Value}(h:SlAt 6 u e N b cap cs f)(i:Nat)(hi:i<N):0+i*6+6<=cs.size:=by
  have:=h.sz;have:=h.le;omega
end Go.Sw
namespace Go.Sw
open Go Go.RowKit
def Rc (Z k t:Nat) (xs:Nat->Value):Array Value:=A1 Z (fun c=>if c<t then .int .u8 (((k+c:Nat)):Int) else xs c)
section
variable {Z k t : Nat} {xs : Nat -> Value}
theorem AV:(Rc Z k t xs).size=Z:=BM _ _
end
open Go Go.RowKit Go.Ech
section
variable {X : List Nat} {w0 w w' : World} {L : Own} {D : A7}
def TabI (w w':World) (n:Nat) (M:Nat->Nat->Nat) (u:Value):Prop:=∃ (D:A7) (β:Nat->Nat) (b:Nat) (cs:Array Value),
  (∀ x ds,(x,ds)∈D->w.heap.size<=x/\Blk w' x ds)/\RowsC D n β (fun i=>Hy n (M i))/\u = .slice (some ⟨b,0,Option.none⟩) n n/\(∀ i,i<n->cs[0+i*1]? = some (.slice (some ⟨β i,0,Option.none⟩) n n))/\(b,cs)∈D/\∀ i,i<n->β i≠b
theorem TabI.of {n q:Nat}{β:Nat->Nat}{M:Nat->Nat->Nat}{b:Nat}{cs:Array Value}(I:Ag w w' L D)(hR:RowsC D n β (fun i=>Hy n (M i)))(hq:L[q]? = some (some (b,cs)))(hg:∀ i,i<n->cs[0+i*1]? = some (.slice (some ⟨β i,0,Option.none⟩) n n))(hge:∀ i,i<n->w.heap.size<=β i):TabI w w' n M (.slice (some ⟨b,0,Option.none⟩) n n):=by
  refine ⟨(b,cs)::(List.range n).map (fun i=>(β i,Hy n (M i))),β,b,cs,fun x ds hx=>?_,⟨fun i hi=>M0 (R:=fun i=>Hy n (M i)) hi,hR.inj⟩,rfl,hg,List.mem_cons_self ..,fun i hi e=>(I.froz _ _ (hR.mem i hi)).2 q b cs hq e.symm⟩
  rcases List.mem_cons.1 hx with e | hx
  . simp only [Prod.mk.injEq] at e;obtain ⟨rfl,rfl⟩:=e;exact ⟨I.ge q hq,I.row q hq⟩
  . obtain ⟨i,hi,e⟩:=List.mem_map.1 hx
    simp only [Prod.mk.injEq] at e;obtain ⟨rfl,rfl⟩:=e;have hi:i<n:=by simpa using hi
    exact ⟨hge i hi,I.fzm (hR.mem i hi)⟩
end
theorem AL {n:Nat}{f:Nat->Nat}:(Hy n f).size=n:=BM _ _
def FreshV (w0:World) (L:Own) (N:Nat) (f:Nat->Value) (u:Value) (w':World):Prop:=∃ b cap cs,SlAt 6 u (some (b,cs)) N b cap cs f/\Blk w' b cs/\w0.heap.size<=b/\∀ (k:Nat) c ds,L[k]? = some (some (c,ds))->c≠b
theorem FreshV.last {w0 w w':World}{L:Own}{N:Nat}{f:Nat->Value}{u:Value}(h:FreshV w0 L N f u w)(hx:Ext w w'):FreshV w0 L N f u w':=by
  obtain ⟨b,cap,cs,h1,h2,h3⟩:=h;exact ⟨b,cap,cs,h1,h2.ext hx,h3⟩
def EmpF (w0:World) (L:Own) (u:Value) (w':World):Prop:=∃ b,u = .slice (some ⟨b,0,none⟩) 0 0/\Blk w' b #[]/\w0.heap.size<=b/\∀ (k:Nat) c ds,L[k]? = some (some (c,ds))->c≠b
theorem EmpF.last {w0 w w':World}{L:Own}{u:Value}(h:EmpF w0 L u w)(hx:Ext w w'):EmpF w0 L u w':=by
  obtain ⟨b,h1,h2,h3⟩:=h;exact ⟨b,h1,h2.ext hx,h3⟩
theorem EmpF.of {w0 w w':World}{L:Own}{D:A7}{u:Value}{k:Nat}(hk:L[k]? = some none)(h:∃ b,u = .slice (some ⟨b,0,none⟩) 0 0/\Ag w0 w' (L.set k (some (b,#[]))) D/\Ext w w'):EmpF w0 L u w':=by
  obtain ⟨b,h1,I,_⟩:=h;have hkl:=(List.getElem?_eq_some_iff.1 hk).1;have e:(L.set k (some (b,#[])))[k]? = some (some (b,#[])):=by rw [List.getElem?_set,if_pos rfl,if_pos hkl]
  refine ⟨b,h1,I.row k e,I.ge k e,fun j c ds hj e2=>?_⟩;subst e2
  by_cases ej:j=k
  . subst ej;rw [hk] at hj;simp at hj
  . have:=I.apart j k c ds #[] (by rw [List.getElem?_set,if_neg (fun q=>ej q.symm)];exact hj) e
    exact ej this
def TabIF (w0:World) (L:Own) (D:A7) (n:Nat) (M:Nat->Nat->Nat) (u:Value) (w':World):Prop:=∃ (D':A7) (β:Nat->Nat) (b:Nat) (cs:Array Value),
  (∀ x ds,(x,ds)∈D'->w0.heap.size<=x/\Blk w' x ds/\∀ (k:Nat) c es,L[k]? = some (some (c,es))->c≠x)/\RowsC D' n β (fun i=>Hy n (M i))/\u = .slice (some ⟨b,0,Option.none⟩) n n/\(∀ i,i<n->cs[0+i*1]? = some (.slice (some ⟨β i,0,Option.none⟩) n n))/\(b,cs)∈D'/\(∀ i,i<n->β i≠b)/\∀ i,i<n->∀ x∈D,x.1≠β i
theorem TabIF.last {w0 w w':World}{L:Own}{D:A7}{n:Nat}{M:Nat->Nat->Nat}{u:Value}(h:TabIF w0 L D n M u w)(hx:Ext w w'):TabIF w0 L D n M u w':=by
  obtain ⟨D',β,b,cs,h1,h2⟩:=h;exact ⟨D',β,b,cs,fun x ds hm=>⟨(h1 x ds hm).1,(h1 x ds hm).2.1.ext hx,(h1 x ds hm).2.2⟩,h2⟩
def Rl (R:Value->World->Prop) (u:Value) (w':World):Prop:=∃ l,u = .tuple #[l,.int .i64 0]/\R l w'
variable {P : Program}
def R3 (s:ByteArray) (i:Nat):Nat:=(s.data.getD i 0).toNat
section
variable {n : Nat} {F : List (Nat × Value)} {a : Act} {w : World} {d : Option Tmp} {t T T' : TypeId} {pos : String} {af : Array Edge} {gd : Option (Nat × Bool)} {x y z : Operand}
end
end Go.Sw
namespace Go.Sw
open Go Go.RowKit
variable {P : Program}
def Exit.goes (J:Nat->Act->World->Prop) (Q:Exit->Act->World->Prop):Exit->Act->World->Prop
  | .goto l,a,w=>J l a w
  | e,a,w=>Q e a w
section
variable {Q : Exit -> Act -> World -> Prop} {J : Nat -> Act -> World -> Prop} {K : Act -> World -> Prop} {a : Act} {w : World}
end
section
variable {n : Nat} {F : List (Nat × Value)} {a : Act} {w : World} {d : Option Tmp} {t T : TypeId} {pos : String} {af : Array Edge} {gd : Option (Nat × Bool)} {x : Operand}
theorem BK {b o:Nat}(O:Fr n a F)(hx:look F x=some (ptr b o)):Be P ⟨d,.nilCheck x,t,pos,af,gd⟩ a w (ptr b o):=
  As (by simp [execOp,O.eval hx])
end
section
variable {P : Program} {fn : Func} {a : Act} {w : World}
end
end Go.Sw
namespace Go.Sw
open Go Go.RowKit
def Rq (m:Nat) (g:Nat->Nat):ByteArray:=((List.range m).map fun i=>(g i:Int)).foldl (fun r n=>r.push (UInt8.ofNat n.toNat)) ByteArray.empty
def EW (m:Nat) (f:Nat->Nat):Array Value:=A1 m (fun c=>.int .u8 (f c:Int))
theorem AS {m:Nat}{f:Nat->Nat}:(EW m f).size=m:=BM _ _
theorem GH {m:Nat}{f g:Nat->Nat}(h:∀ c,c<m->f c=g c):EW m f=EW m g:=BS fun c hc=>by rw [h c hc]
theorem IB {m q k:Nat}{f g:Nat->Nat}{x:Int}(h:q=k)(hx:x=(g k:Int))(hg:∀ c,c<m->c≠k->g c=f c):(EW m f).setIfInBounds q (.int .u8 x)=EW m g:=by
  subst h;subst hx;refine Bv fun c hc=>?_
  by_cases e:c=q
  . rw [if_pos e,e]
  . rw [if_neg e,hg c hc e]
def Ry (k:Nat):Nat:=if k<10 then 48+k else 97+k - 10
def Rh:ByteArray:=⟨#[48,49,50,51,52,53,54,55,56,57,97,98,99]⟩
section
variable {P : Program} {n : Nat} {F : List (Nat × Value)} {a : Act} {w : World} {d : Option Tmp} {t T T' : TypeId} {pos : String} {af : Array Edge} {gd : Option (Nat × Bool)} {x y z : Operand}
end
end Go.Sw
namespace Go.Ech
open Go.Sw
theorem Kh {p N n k:Nat}{E:Nat->Nat->Nat}{ld:Nat->Nat}(h:Rref p N E k ld)(hc:∀ c,c<n->CI k ld c):∀ i,i<n->i<k/\ld i=i:=by
  intro i
  induction i using Nat.strongRecOn with
  | ind i ih =>
    intro hi;obtain ⟨j,hj,e⟩:=hc i hi;have h1:¬ j<i:=fun hJ=>by have:=(ih j hJ (by omega)).2;omega
    have h2:¬ i<j:=fun hJ=>by
      have h3:=h.mono i j hJ hj;have h4:=ih (ld i) (by omega) (by omega);have:=h.inj h4.1 (show i<k by omega) h4.2
      omega
    have:j=i:=by omega
    subst this;exact ⟨hj,e⟩
theorem OF {p n:Nat}{F:Nat->Nat->Nat}(hp:primeN p)(hn0:0<n)(hn:n<=6)(O:∀ i c,n<=c->F i c=0)(hFp:∀ i c,F i c<p)(hz:∀ x,Ker p 6 F n x->(∀ d,n<=d->d<6->x d=0)->∀ c,c<n->(p:Int)∣x c):FullK p n F:=by
  have hp2:=hp.two;obtain ⟨k,E,ld,hR,hk,hK⟩:=Dx (N:=6) (m:=n) hp hFp;have hnl:∀ d,n<=d->d<6->¬ CI k ld d:=fun d h1 h2=>Jv hp2 hR hK h2 (fun i _=>O i d h1);have hc:∀ c,c<n->CI k ld c:=by
    intro c hc;refine Decidable.byContradiction fun hno=>?_;have:=hz _ ((hK _).1 (hR.free_ker (show c<6 by omega) hno)) (fun d h1 h2=>by
      unfold free;rw [if_neg (by omega)]
      cases e:Cf k ld d with
      | none=>rfl
      | some j=>exact absurd ⟨j,CC e⟩ (hnl d h1 h2)) c hc
    rw [show free E k ld c c=1 by simp [free]] at this;have:=Int.le_of_dvd (by omega) this
    omega
  have hkn:k=n:=by have:=(Kh hR hc (n - 1) (by omega)).1;omega
  subst hkn;exact ⟨E,ld,hR,hK⟩
theorem Jq (f g:Nat->Int)(n:Nat):sI (fun i=>f i - g i) n=sI f n - sI g n:=by
  have:=EM (fun c=>f c - g c) g n;rw [show (fun i=>(f i - g i)+g i)=f from by funext i;omega] at this;omega
theorem QU {f:Nat->Int}{n a:Nat}(ha:a<n):sI (fun i=>f i*(dl i a:Int)) n=f a:=by
  rw [Cc ha (fun i _ hH=>by simp [dl,hH])];simp [dl]
theorem LV {f:Nat->Int}{n a:Nat}(ha:a<n):sI (fun i=>(dl a i:Int)*f i) n=f a:=by
  rw [Cc ha (fun i _ hH=>by simp [dl,Ne.symm hH])];simp [dl]
theorem Nl {p:Nat}{f g h:Nat->Int}{n:Nat}(e:∀ i,i<n->(p:Int)∣g i - h i):(p:Int)∣sI (fun i=>f i*g i) n - sI (fun i=>f i*h i) n:=by
  rw [← Jq];exact Cs fun i hi=>by rw [← Int.mul_sub];exact Int.dvd_mul_of_dvd_right (e i hi)
theorem IsCop.left {p n:Nat}{F G:Nat->Nat->Nat}(hp:2<=p)(hn:n<=6)(O:∀ i c,n<=c->F i c=0)(hf:FullK p n F)(h:IsCop p n F G):∀ i,i<n->∀ j,j<n->(p:Int)∣sI (fun k=>(G i k:Int)*(F k j:Int)) n - (dl i j:Int):=by
  intro i hi j hj;have hK:Ker p 6 F n (fun a=>if a<n then sI (fun k=>(G a k:Int)*(F k j:Int)) n - (dl a j:Int) else 0):=fun b hb=>by
    unfold dot
    rw [HQ hn (fun c h1 _=>by simp [show ¬ c<n by omega])];have e:sI (fun c=>ci (F b) c*(if c<n then sI (fun k=>(G c k:Int)*(F k j:Int)) n - (dl c j:Int) else 0)) n=sI (fun k=>(F k j:Int)*sI (fun c=>(F b c:Int)*(G c k:Int)) n) n - (F b j:Int):=by
      rw [Aw (g:=fun c=>(F b c:Int)*sI (fun k=>(G c k:Int)*(F k j:Int)) n - (F b c:Int)*(dl c j:Int)) (fun c hc=>by rw [if_pos hc,Int.mul_sub]),Jq,QU hj]
      congr 1
      rw [Aw (g:=fun c=>sI (fun k=>(F b c:Int)*((G c k:Int)*(F k j:Int))) n) (fun c _=>(C3 _ _ _).symm),Dn];exact Aw fun k _=>by rw [← C3];exact Aw fun c _=>by rw [← Int.mul_assoc];exact Int.mul_comm _ _
    rw [e];have h1:=Nl (p:=p) (f:=fun k=>(F k j:Int)) (g:=fun k=>sI (fun c=>(F b c:Int)*(G c k:Int)) n) (h:=fun k=>(dl b k:Int)) (n:=n) (fun k hk=>h.sol b hb k hk)
    rwa [show sI (fun k=>(F k j:Int)*(dl b k:Int)) n=(F b j:Int) from by
      rw [Aw (g:=fun k=>(dl b k:Int)*(F k j:Int)) (fun k _=>Int.mul_comm _ _)];exact LV hb] at h1
  have:=hf.zero hp hn O hK (fun d h1 _=>by simp [show ¬ d<n by omega]) hi
  simpa only [if_pos hi] using this
end Go.Ech
