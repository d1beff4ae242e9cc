import Derived.Test.YtklpefdaplchbaaSw9
import Derived.Test.YtklpefdaplchbaaSw21
import Derived.ReadAgain
import Derived.ChangeSlices
import Derived.Test.YtklpefdaplchbaaEch5
import Derived.Test.YtklpefdaplchbaaSw19
set_option linter.unusedVariables false
set_option linter.unusedSimpArgs false
namespace Go.Sw
open Go Go.RowKit Go.ChangeShapes Go.WideShapes Go.ChangeAt
def numI (m:Nat) (g:Nat→Int):Array Value:=fnC m (fun c=>.int .i64 (g c))
section
variable {m q : Nat} {f g : Nat → Int}
theorem numI_size:(numI m f).size=m:=fnC_size _ _
end
def ArgSl (w:World) (sl:Value) (m:Nat) (g:Nat→Int):Prop:=
  (∃ x c,sl = .slice x m c)∧(0<m→∃ b o c,sl = .slice (some ⟨b,o,none⟩) m c∧∀ i,i<m→w.cell? ⟨b,o+i*1,none⟩=some (.int .i64 (g i)))
section
variable {P : Program} {n : Nat} {F : List (Nat × Value)} {a : Act} {w : World} {d : Option Tmp} {t : TypeId} {pos : String} {af : Array Edge} {gd : Option (Nat × Bool)} {x : Operand}
theorem g_loadC {T:TypeId}{b o:Nat}{v:Value}(hT:oneP P T=true)(hF:Fr n a F)(hx:look F x=some (ptr b o))(hc:w.cell? ⟨b,o,none⟩=some v):Gives P ⟨d,.load T x,t,pos,af,gd⟩ a w v:=by
  have h1:=(run_isAgg_one hT w).1;exact gives_of_run (by simp [execOp,Instr.loadAt,Instr.sureAddr,hF.eval hx,loadVar,h1,hc])
end
section
variable {H : Type} {enc : TypeId × Value → H} {P : Program} {w w' : World}
theorem trodAll_carry:∀ {ts:List TypeId} {vs:List Value} {ds:List (DataW H)} {ps:List MemPlace} {base:Nat} {spare:Nat→Bool} {held:Bool},
    DataW.TrodAll enc P w base spare held ts vs ds ps→(∀ p∈ps,w.sameAt w' p)→DataW.TrodAll enc P w' base spare held ts vs ds ps
  | [],[],[],_,_,_,_,h,_=>h
  | _ :: _, _ :: _, _ :: _, _, _, _, _, ⟨p, q, ⟨fuel, h1⟩, h2, e⟩, hs =>
    ⟨p,q,⟨fuel,DataW.trod_carry fuel _ _ _ h1 (fun y hy=>hs y (by rw [e];exact List.mem_append_left _ hy))⟩,trodAll_carry h2 (fun y hy=>hs y (by rw [e];exact List.mem_append_right _ hy)),e⟩
theorem sameAt_ext (hx:Ext w w'){p:MemPlace}(hp:p.block<w.heap.size):w.sameAt w' p:=by
  have h:=hx.block p.block hp
  cases p with
  | cell b off =>
    show w'.cell? ⟨b,off,none⟩=w.cell? ⟨b,off,none⟩
    simp only [MemPlace.block] at h
    unfold World.cell?
    simp only [h]
  | map b=>exact h
theorem args_again (hl:laidOutB P=true)(hm:mapsRowed P=true)(hz:((List.range P.types.size).all fun t=>match P.underlying t with | some (.slice e)=>decide (0<P.cellsOf e) | _=>true)=true)
    {ts:List TypeId} {vs:List Value} {ds:List (DataW H)} {ps:List MemPlace} (hT:∀ t∈ts,t<P.types.size) (hx:Ext w w') (hlt:∀ p∈ps,p.block<w.heap.size)
    (h:DataW.TrodAll enc P w 0 (fun _=>true) true ts vs ds ps) (sp:Nat→Bool) (hsp:∀ p∈ps,sp p.block=true):DataW.TrodAll enc P w' 0 sp true ts vs ds ps:=
  trodAll_carry (DataW.TrodAll.respare (kids_rows hl hm) (fun t e ht hu=>slices_full_of P hz t e ht hu) hT h hsp) (fun p hp=>sameAt_ext hx (hlt p hp))
variable {base : Nat} {spare : Nat → Bool} {held : Bool}
def tenFs (fs:Array Field) (ti ts:TypeId):Bool:=(List.range 5).all fun i=>match fs[i]? with
  | some f=>Nat.beq f.offset i && Nat.beq f.type (if i<4 then ti else ts)
  | none=>false
end
section
variable {P : Program} {X : List Nat} {w0 w : World} {L : Own} {D : Froz} {n : Nat} {F : List (Nat × Value)} {a : Act} {d : Option Tmp} {T : TypeId} {t : TypeId} {pos : String} {af : Array Edge} {gd : Option (Nat × Bool)} {x y : Operand}
end
abbrev TenOutI (w w':World) (p n i o:Int) (m:Nat) (g:Nat→Int) (v:Value):Prop:=
  ∃ b,v = .agg (tenC p n i o (.slice (some ⟨b,0,none⟩) m m))∧w.heap.size≤b∧Blk w' b (numI m g)
end Go.Sw
namespace Go.Sw
open Go Go.RowKit
inductive FactE where
  | val (v:Value)
  | frz (c:Array Value) (mk:Nat→Value)
  | own (mk:Nat→Value)
def factsE (kt:Nat) (l:List FactE):Facts (Own×Froz):=fun i g u _=>match l[i]? with
  | some (.val v)=>u=v
  | some (.frz c mk)=>∃ b,(b,c)∈g.2∧u=mk b
  | some (.own mk)=>∃ b cs,u=mk b∧g.1[kt]? = some (some (b,cs))
  | none=>True
def inE (c:Option (Array Value)) (b:Nat) (E:Froz):Prop:=match c with
  | none=>True
  | some c=>(b,c)∈E
def ParE (X:List Nat) (w0:World) (D:Froz) (L0:Own) (kt:Nat) (csO:Array Value) (c3:Option (Array Value)) (csN:Nat→Array Value) (bb:Bool) (g:Own×Froz) (w:World):Prop:=
  (MemX X w0 w g.1 (g.2++D)∧Same [kt] L0 g.1)∧∀ b cs,g.1[kt]? = some (some (b,cs))→(bb=false→cs=csO)∧(bb=true→∃ x,inE c3 x g.2∧cs=csN x)
section
variable {P : Program} {X : List Nat} {w0 w : World} {D : Froz} {L0 : Own} {g : Own × Froz} {kt : Nat} {csO : Array Value} {c3 : Option (Array Value)} {csN : Nat → Array Value} {bb : Bool} {l : List FactE} {i : Nat} {o : Oper} {a : Act}
def ownOnly:List FactE→Nat→Nat→Bool
  | [],_,_=>true
  | .own _::r,i,s=>Nat.beq s i && ownOnly r i (s+1)
  | _::r,i,s=>ownOnly r i (s+1)
end
end Go.Sw
namespace Go.Sw
open Go Go.RowKit
theorem vecs1_get {v:Nat→Nat}(q:Nat)(hq:q<1*6):(vecsC 1 (vAtL [v]))[0+q]? = some (.int .u8 (v q:Int)):=by
  unfold vecsC
  rw [fnC_get (by omega),show (0+q) / 6=0 by omega,show (0+q)%6=q by omega]
  rfl
theorem Sl.snoc6 {u:Value}{e:Option (Nat×Array Value)}{N:Nat}{F G:Nat→Value}(h:Sl 6 u e (N+1) (fun i=>if i<N*6 then F i else G (i - N*6)))(hG:∀ q,q<6→G q=F (N*6+q)):Sl 6 u e (N+1) F:=
  h.congr fun i hi=>by
    by_cases h1:i<N*6
    · rw [if_pos h1]
    · rw [if_neg h1,hG _ (by omega),show N*6+(i - N*6)=i by omega]
theorem SlAt.vec {u:Value}{e:Option (Nat×Array Value)}{N b cap:Nat}{cs:Array Value}{V:Nat→Nat→Nat}(h:SlAt 6 u e N b cap cs (fun c=>.int .u8 (V (c / 6) (c%6):Int)))(i:Nat)(hi:i<N):cs.extract (i*6) (i*6+6)=vecC (V i):=
  extract_ext rfl (by rw [h.sz];have:=h.le;omega) fun q hq=>by
    rw [h.get _ (by omega),show (i*6+q) / 6=i by omega,show (i*6+q)%6=q by omega]
end Go.Sw
namespace Go.Sw
open Go Go.RowKit
def rowP (N K:Nat) (f:Nat→Nat) (x:Nat→Value):Array Value:=fnC K (fun c=>if c<N then .int .u8 (f c:Int) else x c)
section
variable {N K o : Nat} {f g : Nat → Nat} {x : Nat → Value}
theorem rowP_size:(rowP N K f x).size=K:=fnC_size _ _
theorem rowP_get (i:Nat)(h:o=i)(hi:i<N)(hK:N≤K):(rowP N K f x)[o]? = some (.int .u8 (f i:Int)):=by
  subst h
  unfold rowP
  rw [fnC_get (by omega),if_pos hi]
theorem rowP_congr (h:∀ c,c<N→f c=g c):rowP N K f x=rowP N K g x:=fnC_congr fun c _=>by
  by_cases hc:c<N
  · rw [if_pos hc,if_pos hc,h c hc]
  · rw [if_neg hc,if_neg hc]
theorem SlAt.rowP {v:Value}{b cap:Nat}{cs:Array Value}(h:SlAt 1 v (some (b,cs)) N b cap cs (fun c=>.int .u8 (f c:Int))):cs=rowP N cap f (fun c=>cs[c]?.getD undef):=
  fnC_ext (by rw [h.sz,Nat.mul_one]) fun i hi=>by
    by_cases e:i<N
    · rw [if_pos e];exact h.get i (by omega)
    · rw [if_neg e]
      have:i<cs.size:=by rw [h.sz];omega
      simp [this]
end
structure RowsLP (L:Own) (N m:Nat) (κ:Nat→Nat) (Xs:Nat→Nat→Value) (γ pos:Nat→Nat) (M:Nat→Nat→Nat):Prop where
  at_:∀ i,i<m→L[pos i]? = some (some (γ i,rowP N (κ (γ i)) (M i) (Xs (γ i))))
  inj:∀ i j,i<m→j<m→pos i=pos j→i=j
  ne0:∀ i,i<m→pos i≠0
namespace RowsLP
variable {L : Own} {N m : Nat} {κ : Nat → Nat} {Xs : Nat → Nat → Value} {γ pos : Nat → Nat} {M : Nat → Nat → Nat}
theorem set0 (h:RowsLP L N m κ Xs γ pos M)(x:Option (Nat×Array Value)):RowsLP (L.set 0 x) N m κ Xs γ pos M:=
  ⟨fun i hi=>by rw [List.getElem?_set,if_neg (fun e=>h.ne0 i hi e.symm)];exact h.at_ i hi,h.inj,h.ne0⟩
theorem setRow (h:RowsLP L N m κ Xs γ pos M){i:Nat}(hi:i<m)(r:Nat→Nat){cs:Array Value}(hc:cs=rowP N (κ (γ i)) r (Xs (γ i))):RowsLP (L.set (pos i) (some (γ i,cs))) N m κ Xs γ pos (Go.Ech.upE M i r):=
  ⟨fun j hj=>by
    rw [List.getElem?_set]
    by_cases e:j=i
    · subst e
      have hl:=(List.getElem?_eq_some_iff.1 (h.at_ j hj)).1
      rw [if_pos rfl,if_pos hl,hc];simp only [Go.Ech.upE,if_true]
    · rw [if_neg (fun e2=>e (h.inj _ _ hj hi e2.symm))];simp only [Go.Ech.upE,if_neg e];exact h.at_ j hj,h.inj,h.ne0⟩
theorem swap (h:RowsLP L N m κ Xs γ pos M){a b:Nat}(ha:a<m)(hb:b<m):RowsLP L N m κ Xs (Go.Ech.sw a b γ) (Go.Ech.sw a b pos) (Go.Ech.sw a b M):=by
  refine ⟨fun i hi=>?_,fun i j hi hj e=>?_,fun i hi=>?_⟩
  · unfold Go.Ech.sw;split
    · exact h.at_ b hb
    · split
      · exact h.at_ a ha
      · exact h.at_ i hi
  · unfold Go.Ech.sw at e
    by_cases e1:i=a<;>by_cases e2:i=b<;>by_cases e3:j=a<;>by_cases e4:j=b<;>simp only [e1,e2,e3,e4,if_true,if_false] at e<;>first | omega | (have:=h.inj _ _ hb ha e;omega) | (have:=h.inj _ _ ha hb e;omega) | (split at e<;>first | (have:=h.inj _ _ hb (by omega) e;omega) | (have:=h.inj _ _ ha (by omega) e;omega) | (have:=h.inj _ _ (by omega) (by omega) e;omega)) | (have:=h.inj _ _ (by omega) (by omega) e;omega)
  · unfold Go.Ech.sw;split
    · exact h.ne0 b hb
    · split
      · exact h.ne0 a ha
      · exact h.ne0 i hi
theorem congr {M':Nat→Nat→Nat}(h:RowsLP L N m κ Xs γ pos M)(e:∀ i,i<m→M i=M' i):RowsLP L N m κ Xs γ pos M':=
  ⟨fun i hi=>by rw [← e i hi];exact h.at_ i hi,h.inj,h.ne0⟩
theorem apart {X:List Nat}{w0 w:World}{D:Froz}(h:RowsLP L N m κ Xs γ pos M)(hM:MemX X w0 w L D){i j:Nat}(hi:i<m)(hj:j<m)(hne:i≠j):γ i≠γ j:=fun e=>by
  have h1:=h.at_ i hi
  have h2:=h.at_ j hj
  rw [e] at h1
  exact hne (h.inj i j hi hj (hM.apart _ _ _ _ _ h1 h2))
end RowsLP
def rowsLP0 (b0:Nat) (cs0:Array Value) (N m:Nat) (κ:Nat→Nat) (Xs:Nat→Nat→Value) (γ:Nat→Nat) (M:Nat→Nat→Nat):Own:=some (b0,cs0)::(List.range m).map (fun i=>some (γ i,rowP N (κ (γ i)) (M i) (Xs (γ i))))
theorem MemX.startRowsP {w:World}{b0:Nat}{cs0:Array Value}{N m:Nat}{κ:Nat→Nat}{Xs:Nat→Nat→Value}{γ:Nat→Nat}{M:Nat→Nat→Nat}(h0:Blk w b0 cs0)(hr:∀ i,i<m→Blk w (γ i) (rowP N (κ (γ i)) (M i) (Xs (γ i))))(hi:∀ i j,i<m→j<m→γ i=γ j→i=j)(hne:∀ i,i<m→γ i≠b0) :
    MemX (rowsX b0 m γ) w w (rowsLP0 b0 cs0 N m κ Xs γ M) []∧RowsLP (rowsLP0 b0 cs0 N m κ Xs γ M) N m κ Xs γ (fun i=>i+1) M∧(rowsLP0 b0 cs0 N m κ Xs γ M)[0]? = some (some (b0,cs0)):=by
  refine ⟨⟨ExtX.refl _ w,fun k b cs hk=>?_,fun k j b cs ds hk hj=>?_,fun b cs hm=>by cases hm⟩,⟨fun i hi=>?_,fun i j _ _ e=>by omega,fun i _=>by omega⟩,rfl⟩
  · rcases getElem_rows hk with ⟨_,e⟩ | ⟨i,hi,_,e⟩
    · simp at e;obtain ⟨rfl,rfl⟩:=e;exact ⟨.inr (List.mem_cons_self ..),h0⟩
    · simp at e;obtain ⟨rfl,rfl⟩:=e;exact ⟨.inr (List.mem_cons_of_mem _ (List.mem_map.2 ⟨i,by simpa using hi,rfl⟩)),hr i hi⟩
  · rcases getElem_rows hk with ⟨e1,e⟩ | ⟨i,hi',e1,e⟩<;>rcases getElem_rows hj with ⟨e2,f⟩ | ⟨i2,hi2,e2,f⟩<;>simp at e f
    · omega
    · exact absurd (f.1.symm.trans e.1) (hne i2 hi2)
    · exact absurd (e.1.symm.trans f.1) (hne i hi')
    · have:=hi i i2 hi' hi2 (e.1.symm.trans f.1);omega
  · show (some (b0,cs0)::(List.range m).map _:Own)[i+1]? = _
    rw [List.getElem?_cons_succ,List.getElem?_map,List.getElem?_range hi];rfl
theorem MemX.updRowP {X:List Nat}{w0 w w':World}{L:Own}{D:Froz}{N m:Nat}{κ:Nat→Nat}{Xs:Nat→Nat→Value}{γ pos:Nat→Nat}{M:Nat→Nat→Nat}(h:MemX X w0 w L D)(hR:RowsLP L N m κ Xs γ pos M){i:Nat}(hi:i<m)(hx:ExtX [γ i] w w')(r:Nat→Nat)(hb:Blk w' (γ i) (rowP N (κ (γ i)) r (Xs (γ i)))) :
    ∃ L',MemX X w0 w' L' D∧RowsLP L' N m κ Xs γ pos (Go.Ech.upE M i r)∧L'[0]? = L[0]?:=
  ⟨_,h.upd (pos i) (hR.at_ i hi) hx hb,hR.setRow hi r rfl,by rw [List.getElem?_set,if_neg (hR.ne0 i hi)]⟩
end Go.Sw
namespace Go.Ech
open Go.Sw
theorem sI_split (f:Nat→Int)(n m:Nat):sI f (n+m)=sI f n+sI (fun i=>f (n+i)) m:=by
  induction m with
  | zero=>simp [sI]
  | succ m ih =>
    show sI f (n+m+1)=_
    simp only [sI];rw [ih];omega
def augI (F:Nat→Nat→Nat) (i c:Nat):Nat:=if c<6 then F i c else if c=6+i then 1 else 0
theorem dot_augI {F:Nat→Nat→Nat}{i:Nat}{x:Nat→Int}(hi:i<6):dot 12 (ci (augI F i)) x=dot 6 (ci (F i)) x+x (6+i):=by
  unfold dot
  rw [show 12=6+6 from rfl,sI_split]
  congr 1
  · refine (sI_one hi fun c hc hne=>?_).trans ?_
    · have h1:¬ 6+c=6+i:=by omega
      show (((if 6+c<6 then F i (6+c) else if 6+c=6+i then 1 else 0:Nat)):Int)*_=0
      rw [if_neg (by omega),if_neg h1];simp
    · show (((if 6+i<6 then F i (6+i) else if 6+i=6+i then 1 else 0:Nat)):Int)*_=_
      rw [if_neg (by omega),if_pos rfl];simp
theorem mono_id {n:Nat}{ld:Nat→Nat}(hm:∀ i j,i<j→j<n→ld i<ld j)(hl:∀ i,i<n→ld i<n):∀ i,i<n→ld i=i:=by
  have h1:∀ i,i<n→i≤ld i:=by
    intro i
    induction i with
    | zero=>intro _;omega
    | succ i ih=>intro hi;have:=ih (by omega);have:=hm i (i+1) (by omega) hi;omega
  have h2:∀ d i,i+d+1=n→ld i+d<n:=by
    intro d
    induction d with
    | zero=>intro i hi;have:=hl i (by omega);omega
    | succ d ih=>intro i hi;have:=ih (i+1) (by omega);have:=hm i (i+1) (by omega) (by omega);omega
  intro i hi;have:=h1 i hi;have:=h2 (n - 1 - i) i (by omega)
  omega
def FullK (p n:Nat) (F:Nat→Nat→Nat):Prop:=∃ E ld,Rref p 6 E n ld∧∀ x,Ker p 6 E n x↔Ker p 6 F n x
theorem FullK.zero {p n:Nat}{F:Nat→Nat→Nat}(hp:2≤p)(hn:n≤6)(hF:∀ i c,n≤c→F i c=0)(h:FullK p n F){x:Nat→Int}(hx:Ker p 6 F n x)(h0:∀ d,n≤d→d<6→x d=0){c:Nat}(hc:c<n):(p:Int)∣x c:=by
  obtain ⟨E,ld,hR,hK⟩:=h;have hl:∀ i,i<n→ld i<n:=fun i hi=>Decidable.byContradiction fun hno=>
    no_lead (c:=ld i) hp hR hK (hR.lt i hi) (fun j _=>hF j _ (by omega)) ⟨i,hi,rfl⟩
  have hid:=mono_id hR.mono hl;have:=(hK x).2 hx c hc
  unfold dot at this
  rw [sI_one (a:=c) (by omega)] at this
  · have e:=hR.one c hc
    rw [hid c hc] at e
    simpa [ci,e] using this
  · intro d hd hne
    by_cases hdn:d<n
    · have:=hR.zero d c hdn hc hne
      rw [hid d hdn] at this
      simp [ci,this]
    · rw [h0 d (by omega) hd];simp
structure IsCop (p n:Nat) (F G:Nat→Nat→Nat):Prop where
  lt:∀ i j,G i j<p
  out:∀ i j,n≤i∨n≤j→G i j=0
  sol:∀ i,i<n→∀ j,j<n→(p:Int)∣sI (fun k=>(F i k:Int)*(G k j:Int)) n - (dl i j:Int)
theorem cop_col {p n:Nat}{F:Nat→Nat→Nat}(hp:2≤p)(hn:n≤6)(hF:∀ i c,n≤c→F i c=0)(h:FullK p n F){x y:Nat→Nat}{b:Nat→Int}(hx:∀ c,c<n→x c<p)(hy:∀ c,c<n→y c<p)(h1:∀ i,i<n→(p:Int)∣sI (fun k=>(F i k:Int)*(x k:Int)) n - b i)(h2:∀ i,i<n→(p:Int)∣sI (fun k=>(F i k:Int)*(y k:Int)) n - b i):∀ c,c<n→x c=y c:=by
  intro c hc;have hK:Ker p 6 F n (fun c=>if c<n then (x c:Int) - (y c:Int) else 0):=fun i hi=>by
    have h3:=Int.dvd_sub (h1 i hi) (h2 i hi);have e:dot 6 (ci (F i)) (fun c=>if c<n then (x c:Int) - (y c:Int) else 0)=sI (fun k=>(F i k:Int)*(x k:Int)) n - b i - (sI (fun k=>(F i k:Int)*(y k:Int)) n - b i):=by
      unfold dot
      rw [sI_cut hn (fun c h1 _=>by simp [show ¬ c<n by omega])];have:sI (fun k=>(F i k:Int)*(x k:Int)) n=sI (fun c=>ci (F i) c*(if c<n then (x c:Int) - (y c:Int) else 0)) n+sI (fun k=>(F i k:Int)*(y k:Int)) n:=by
        rw [← sI_add];exact sI_congr fun c hc=>by rw [if_pos hc];grind
      rw [this]
      show sI (fun c=>ci (F i) c*(if c<n then (x c:Int) - (y c:Int) else 0)) n=_
      omega
    rw [e];exact h3
  have:=h.zero hp hn hF hK (fun d h1 _=>by simp [show ¬ d<n by omega]) hc;simp only [if_pos hc] at this;exact eq_of_dvd (hx c hc) (hy c hc) this
theorem IsCop.unique {p n:Nat}{F G G':Nat→Nat→Nat}(hp:2≤p)(hn:n≤6)(hF:∀ i c,n≤c→F i c=0)(hf:FullK p n F)(h:IsCop p n F G)(h':IsCop p n F G'):G=G':=by
  funext i j
  by_cases e:n≤i∨n≤j
  · rw [h.out i j e,h'.out i j e]
  · exact cop_col hp hn hF hf (x:=fun k=>G k j) (y:=fun k=>G' k j) (b:=fun i=>(dl i j:Int)) (fun c _=>h.lt c j) (fun c _=>h'.lt c j) (fun i hi=>h.sol i hi j (by omega)) (fun i hi=>h'.sol i hi j (by omega)) i (by omega)
theorem cop_rank {p n k:Nat}{F M':Nat→Nat→Nat}{ld:Nat→Nat}(hp:2≤p)(hn0:0<n)(hn:n≤6)(hF:∀ i c,n≤c→F i c=0)(hf:FullK p n F)(h:Rref p 12 M' k ld)(hk:k≤n)(hK:∀ x,Ker p 12 M' k x↔Ker p 12 (augI F) n x) :
    k=n∧∀ i,i<n→i<k∧ld i=i:=by
  have hnl:∀ d,n≤d→d<6→¬ isLd k ld d:=fun d h1 h2=>no_lead hp h hK (by omega) (fun i _=>by rw [augI,if_pos h2];exact hF i d h1);have hc:∀ c,c<n→isLd k ld c:=by
    intro c hc;refine Decidable.byContradiction fun hno=>?_;have hfk:=h.free_ker (show c<12 by omega) hno;have hx6:∀ d,6≤d→free M' k ld c d=0:=fun d h1=>by
      unfold free;rw [if_neg (by omega)]
      cases e:ldAt k ld d with
      | none=>rfl
      | some j =>
        obtain ⟨hj,e2⟩:=ldAt_some e
        simp [h.left j hj c (by omega)]
    have hxn:∀ d,n≤d→d<6→free M' k ld c d=0:=fun d h1 h2=>by
      unfold free;rw [if_neg (by omega)]
      cases e:ldAt k ld d with
      | none=>rfl
      | some j=>exact absurd ⟨j,ldAt_some e⟩ (hnl d h1 h2)
    have hKF:Ker p 6 F n (free M' k ld c):=fun i hi=>by
      have:=(hK _).1 hfk i hi;rw [dot_augI (by omega),hx6 _ (by omega),Int.add_zero] at this;exact this
    have:=hf.zero hp hn hF hKF hxn hc;rw [show free M' k ld c c=1 by simp [free]] at this;have:=Int.le_of_dvd (by omega) this
    omega
  have hid:∀ i,i<n→i<k∧ld i=i:=by
    intro i
    induction i using Nat.strongRecOn with
    | ind i ih =>
      intro hi;obtain ⟨j,hj,e⟩:=hc i hi;have h1:¬ j<i:=fun hlt2=>by have:=(ih j hlt2 (by omega)).2;omega
      have h2:¬ i<j:=fun hlt2=>by
        have h3:=h.mono i j hlt2 hj;have h4:=ih (ld i) (by omega) (by omega);have:=h.inj h4.1 (show i<k by omega) h4.2
        omega
      have:j=i:=by omega
      subst this;exact ⟨hj,e⟩
  have hkn:k=n:=by have:=(hid (n - 1) (by omega)).1;omega
  exact ⟨hkn,hid⟩
theorem cop_of {p n k:Nat}{F M':Nat→Nat→Nat}{ld:Nat→Nat}(hp:2≤p)(hn0:0<n)(hn:n≤6)(hF:∀ i c,n≤c→F i c=0)(hf:FullK p n F)(h:Rref p 12 M' k ld)(hk:k≤n)(hK:∀ x,Ker p 12 M' k x↔Ker p 12 (augI F) n x)(hlt:∀ i c,M' i c<p) :
    k=n∧IsCop p n F (fun i j=>if i<n∧j<n then M' i (6+j) else 0)∧∀ i,i<n→∀ j,n≤j→j<6→M' i (6+j)=0:=by
  obtain ⟨hkn,hid⟩:=cop_rank hp hn0 hn hF hf h hk hK;refine ⟨hkn,⟨fun i j=>?_,fun i j e=>if_neg (by omega),fun i hi j hj=>?_⟩,fun i hi j h1 h2=>?_⟩
  · show (if _ then _ else _)<p
    split
    · exact hlt _ _
    · omega
  · have hno:∀ d,n≤d→¬ isLd k ld d:=fun d h1 ⟨q,hq,e⟩=>by have:=(hid q (by omega)).2;omega
    have hfk:=(hK _).1 (h.free_ker (show 6+j<12 by omega) (hno _ (by omega))) i hi;rw [dot_augI (by omega)] at hfk;have e1:free M' k ld (6+j) (6+i)=(dl i j:Int):=by
      unfold free dl
      by_cases e:i=j
      · rw [if_pos (by omega),if_pos e];rfl
      · rw [if_neg (by omega),if_neg e]
        cases e2:ldAt k ld (6+i) with
        | none=>rfl
        | some q=>exact absurd ⟨q,ldAt_some e2⟩ (hno _ (by omega))
    have e2:dot 6 (ci (F i)) (free M' k ld (6+j)) = -1*sI (fun q=>(F i q:Int)*(((if q<n∧j<n then M' q (6+j) else 0:Nat)):Int)) n:=by
      unfold dot
      rw [sI_cut hn (fun c h1 h2=>by
        have:free M' k ld (6+j) c=0:=by
          unfold free;rw [if_neg (by omega)]
          cases e2:ldAt k ld c with
          | none=>rfl
          | some q=>exact absurd ⟨q,ldAt_some e2⟩ (hno _ h1)
        rw [this];simp),← sI_mul]
      refine sI_congr fun q hq=>?_;have:free M' k ld (6+j) q = -(M' q (6+j):Int):=by
        unfold free;rw [if_neg (by omega)]
        have:=h.ldAt_eq (hid q hq).1;rw [(hid q hq).2] at this;rw [this]
      rw [this,if_pos ⟨hq,hj⟩];simp only [ci];grind
    rw [e1,e2] at hfk;have:=Int.dvd_neg.2 hfk
    rwa [show -(-1*sI (fun q=>(F i q:Int)*(((if q<n∧j<n then M' q (6+j) else 0:Nat)):Int)) n+(dl i j:Int))=sI (fun q=>(F i q:Int)*(((if q<n∧j<n then M' q (6+j) else 0:Nat)):Int)) n - (dl i j:Int) by omega] at this
  · have hz:Ker p 12 (augI F) n (fun d=>if d=6+j then 1 else 0):=fun q hq=>by
      rw [dot_augI (by omega)];have:dot 6 (ci (F q)) (fun d=>if d=6+j then 1 else 0)=0:=by
        unfold dot;exact sI_zero fun d hd=>by show _*(if d=6+j then (1:Int) else 0)=0;rw [if_neg (by omega)];simp
      rw [this,if_neg (by omega)];simp
    have:=(hK _).2 hz i (by omega)
    unfold dot at this
    rw [sI_one (a:=6+j) (by omega) (fun d _ hne=>by show _*(if d=6+j then (1:Int) else 0)=0;rw [if_neg hne];simp)] at this;simp only [ci,if_pos,Int.mul_one] at this;have h3:=hlt i (6+j);exact eq_of_dvd h3 (by omega) (by simpa using this)
theorem inv_ex {p u:Nat}(hp:primeN p)(hu:u<p)(h0:u≠0):∃ v,u*v%p=1:=by
  have key:∀ q:Nat,(∀ a,a<q→a≠0→∃ v,v<q∧a*v%q=1)→p=q→∃ v,u*v%p=1:=fun q hq e=>by
    subst e;obtain ⟨v,_,h⟩:=hq u hu h0;exact ⟨v,h⟩
  rcases hp with e | e | e | e | e | e
  · exact key 2 (by decide) e
  · exact key 3 (by decide) e
  · exact key 5 (by decide) e
  · exact key 7 (by decide) e
  · exact key 11 (by decide) e
  · exact key 13 (by decide) e
theorem first_ne {o:Nat→Nat}{N:Nat}(h:¬ ∀ c,c<N→o c=0):∃ t,t<N∧o t≠0∧∀ c,c<t→o c=0:=by
  induction N with
  | zero=>exact absurd (fun c hc=>absurd hc (by omega)) h
  | succ N ih =>
    by_cases e:∀ c,c<N→o c=0
    · refine ⟨N,by omega,fun h0=>h fun c hc=>?_,e⟩
      by_cases ec:c=N
      · rw [ec,h0]
      · exact e c (by omega)
    · obtain ⟨t,h1,h2⟩:=ih e;exact ⟨t,by omega,h2⟩
theorem own_all {p N k:Nat}{E:Nat→Nat→Nat}{ld r:Nat→Nat}(hp:0<p)(h:Rref p N E k ld)(hr:∀ c,r c<p):∃ o,Own p N E k ld r o k∧∀ c,o c<p:=by
  have:∀ j,j≤k→∃ o,Own p N E k ld r o j∧∀ c,o c<p:=by
    intro j
    induction j with
    | zero=>intro _;exact ⟨r,⟨fun c _=>hr c,fun i hi=>absurd hi (by omega),fun x _=>Iff.rfl⟩,hr⟩
    | succ j ih=>intro hj;obtain ⟨o,h1,_⟩:=ih (by omega);exact ⟨_,h1.step hp h (by omega),fun c=>lsM_lt hp⟩
  exact this k (Nat.le_refl _)
theorem rref_exists {p N m:Nat}{M:Nat→Nat→Nat}(hp:primeN p)(hM:∀ i c,M i c<p):∃ k E ld,Rref p N E k ld∧k≤m∧∀ x,Ker p N E k x↔Ker p N M m x:=by
  have hp0:0<p:=by have:=hp.two;omega
  induction m with
  | zero=>exact ⟨0,M,fun _=>0,⟨fun i hi=>absurd hi (by omega),fun i j _ hi=>absurd hi (by omega),fun i hi=>absurd hi (by omega),fun i hi=>absurd hi (by omega),fun i j hi=>absurd hi (by omega),fun i hi=>absurd hi (by omega)⟩,Nat.le_refl _,fun x=>Iff.rfl⟩
  | succ m ih =>
    obtain ⟨k,E,ld,hR,hk,hK⟩:=ih;obtain ⟨o,ho,ho2⟩:=own_all hp0 hR (hM m)
    by_cases hz:∀ c,c<N→o c=0
    · refine ⟨k,E,ld,hR,by omega,fun x=>?_⟩
      rw [Ker.snoc,← hK];exact ⟨fun h=>⟨h,(ho.ker x h).1 (dot_zero hz)⟩,fun h=>h.1⟩
    · obtain ⟨t,ht,h0,hlow⟩:=first_ne hz
      obtain ⟨v,hv⟩:=inv_ex hp (ho2 t) h0;have hne:∀ i,i<k→ld i≠t:=fun i hi e=>h0 (by rw [← e];exact ho.zero i hi);obtain ⟨b1,b2,b3⟩:=below_spec hR hne;have f:Fits p N E k ld (fun c=>o c*v%p) t (below k ld t):=
        ⟨ht,hv,fun c hc=>by simp [hlow c hc],fun c _=>Nat.mod_lt _ hp0,fun i hi=>by simp [ho.zero i hi],b1,b2,b3⟩
      refine ⟨k+1,_,_,hR.insert hp0 f,by omega,fun x=>?_⟩;rw [ker_insert hp0 b1,Ker.snoc,← hK];have hsc:(p:Int)∣dot N (ci fun c=>o c*v%p) x↔(p:Int)∣dot N (ci o) x:=scale_ker (v:=v) (u:=o t) (fun c _=>rfl) hv;rw [hsc];exact ⟨fun h=>⟨h.1,(ho.ker x h.1).1 h.2⟩,fun h=>⟨h.1,(ho.ker x h.1).2 h.2⟩⟩
theorem cop_exists {p n:Nat}{F:Nat→Nat→Nat}(hp:primeN p)(hn0:0<n)(hn:n≤6)(hF:∀ i c,n≤c→F i c=0)(hFp:∀ i c,F i c<p)(hf:FullK p n F):∃ G,IsCop p n F G:=by
  have hp2:=hp.two;obtain ⟨k,E,ld,hR,hk,hK⟩:=rref_exists (N:=12) (m:=n) (M:=augI F) hp (fun i c=>by unfold augI;split;exact hFp i c;split<;>omega);refine ⟨_,(cop_of (M':=fun i c=>if i<n∧c<12 then E i c else 0) hp2 hn0 hn hF hf (k:=k) (ld:=ld) ?_ hk ?_ ?_).2.1⟩
  · have e:∀ i,i<k→∀ c,c<12→(if i<n∧c<12 then E i c else 0)=E i c:=fun i hi c hc=>if_pos ⟨by omega,hc⟩
    exact ⟨hR.lt,hR.mono,fun i hi=>(e i hi _ (hR.lt i hi)).trans (hR.one i hi),fun i hi c hc=>(e i hi c (by have:=hR.lt i hi;omega)).trans (hR.left i hi c hc),fun i j hi hj hne=>(e j hj _ (hR.lt i hi)).trans (hR.zero i j hi hj hne),fun i hi c hc=>by rw [e i hi c hc];exact hR.small i hi c hc⟩
  · intro x
    rw [← hK]
    unfold Ker dot
    have e:∀ i,i<k→sI (fun c=>ci (fun c=>if i<n∧c<12 then E i c else 0) c*x c) 12=sI (fun c=>ci (E i) c*x c) 12:=fun i hi=>sI_congr fun c hc=>by
      show (((if i<n∧c<12 then E i c else 0:Nat)):Int)*_=_
      rw [if_pos ⟨by omega,hc⟩]
    exact ⟨fun h i hi=>by rw [← e i hi];exact h i hi,fun h i hi=>by rw [e i hi];exact h i hi⟩
  · intro i c
    show (if _ then _ else _)<p
    by_cases e:i<n∧c<12
    · rw [if_pos e]
      by_cases e2:i<k
      · exact hR.small i e2 c e.2
      · exact absurd e2 (by have:=(cop_rank hp2 hn0 hn hF hf hR hk hK).1;omega)
    · rw [if_neg e];omega
end Go.Ech
