import Derived.Test.YtkcneleabbjkaaaSw9
import Derived.Test.YtkcneleabbjkaaaSw21
import Derived.ReadAgain
import Derived.ChangeSlices
import Derived.Recover
set_option linter.unusedVariables false
set_option linter.unusedSimpArgs false
namespace Go.Sw
open Go Go.RowKit Go.ChangeShapes Go.WideShapes Go.ChangeAt
def Ol (m:Nat) (g:Nat->Int):Array Value:=Al m (fun c=>.int .i64 (g c))
section
variable {m q : Nat} {f g : Nat -> Int}
end
def Ps (w:World) (sl:Value) (m:Nat) (g:Nat->Int):Prop:=
  (∃ x c,sl = .slice x m c)/\(0<m->∃ b o c,sl = .slice (some ⟨b,o,none⟩) m c/\∀ i,i<m->w.cell? ⟨b,o+i*1,none⟩=some (.int .i64 (g i)))
section
variable {P : Program} {n : Nat} {F : List (Nat × Value)} {a : Act} {w : World} {d : Option Tmp} {t : TypeId} {pos : String} {af : Array Edge} {gd : Option (Nat × Bool)} {x : Operand}
theorem JB {T:TypeId}{b o:Nat}{v:Value}(hT:FO P T=true)(O:Fr n a F)(hx:look F x=some (ptr b o))(hc:w.cell? ⟨b,o,none⟩=some v):BZ P ⟨d,.load T x,t,pos,af,gd⟩ a w v:=by
  have h1:=(Cc hT w).1;exact Ag (by simp [execOp,Instr.loadAt,Instr.sureAddr,O.eval hx,loadVar,h1,hc])
end
section
variable {H : Type} {enc : TypeId × Value -> H} {P : Program} {w w' : World}
theorem FQ:∀ {ts:List TypeId} {vs:List Value} {ds:List (DataW H)} {ps:List MemPlace} {base:Nat} {spare:Nat->Bool} {held:Bool},
    DataW.TrodAll enc P w base spare held ts vs ds ps->(∀ p∈ps,w.sameAt w' p)->DataW.TrodAll enc P w' base spare held ts vs ds ps
  | [],[],[],_,_,_,_,h,_=>h
  | _ :: _, _ :: _, _ :: _, _, _, _, _, ⟨p, q, ⟨fuel, h1⟩, h2, e⟩, hs =>
    ⟨p,q,⟨fuel,DataW.trod_carry fuel _ _ _ h1 (fun y hy=>hs y (by rw [e];exact List.mem_append_left _ hy))⟩,FQ h2 (fun y hy=>hs y (by rw [e];exact List.mem_append_right _ hy)),e⟩
theorem Ke (hx:Ext w w'){p:MemPlace}(hp:p.block<w.heap.size):w.sameAt w' p:=by
  have h:=hx.block p.block hp
  cases p with
  | cell b off =>
    show w'.cell? ⟨b,off,none⟩=w.cell? ⟨b,off,none⟩
    simp only [MemPlace.block] at h
    unfold World.cell?
    simp only [h]
  | map b=>exact h
theorem args_again (hl:laidOutB P=true)(hm:mapsRowed P=true)(hz:((List.range P.types.size).all fun t=>match P.underlying t with | some (.slice e)=>decide (0<P.cellsOf e) | _=>true)=true)
    {ts:List TypeId} {vs:List Value} {ds:List (DataW H)} {ps:List MemPlace} (hT:∀ t∈ts,t<P.types.size) (hx:Ext w w') (hH:∀ p∈ps,p.block<w.heap.size)
    (h:DataW.TrodAll enc P w 0 (fun _=>true) true ts vs ds ps) (sp:Nat->Bool) (hsp:∀ p∈ps,sp p.block=true):DataW.TrodAll enc P w' 0 sp true ts vs ds ps:=
  FQ (DataW.TrodAll.respare (kids_rows hl hm) (fun t e ht hu=>slices_full_of P hz t e ht hu) hT h hsp) (fun p hp=>Ke hx (hH p hp))
variable {base : Nat} {spare : Nat -> Bool} {held : Bool}
def Pa (fs:Array Field) (ti ts:TypeId):Bool:=(List.range 5).all fun i=>match fs[i]? with
  | some f=>Nat.beq f.offset i && Nat.beq f.type (if i<4 then ti else ts)
  | none=>false
end
section
variable {P : Program} {X : List Nat} {w0 w : World} {L : Own} {D : Au} {n : Nat} {F : List (Nat × Value)} {a : Act} {d : Option Tmp} {T : TypeId} {t : TypeId} {pos : String} {af : Array Edge} {gd : Option (Nat × Bool)} {x y : Operand}
end
abbrev PF (w w':World) (p n i o:Int) (m:Nat) (g:Nat->Int) (v:Value):Prop:=
  ∃ b,v = .agg (OC p n i o (.slice (some ⟨b,0,none⟩) m m))/\w.heap.size<=b/\Blk w' b (Ol m g)
open Go Go.RowKit
inductive FactE where
  | val (v:Value)
  | frz (c:Array Value) (mk:Nat->Value)
  | own (mk:Nat->Value)
def PR (kt:Nat) (l:List FactE):Facts (Own×Au):=fun i g u _=>match l[i]? with
  | some (.val v)=>u=v
  | some (.frz c mk)=>∃ b,(b,c)∈g.2/\u=mk b
  | some (.own mk)=>∃ b cs,u=mk b/\g.1[kt]? = some (some (b,cs))
  | none=>True
def QE (c:Option (Array Value)) (b:Nat) (E:Au):Prop:=match c with
  | none=>True
  | some c=>(b,c)∈E
def QQ (X:List Nat) (w0:World) (D:Au) (L0:Own) (kt:Nat) (csO:Array Value) (c3:Option (Array Value)) (csN:Nat->Array Value) (bb:Bool) (g:Own×Au) (w:World):Prop:=
  (MemX X w0 w g.1 (g.2++D)/\Same [kt] L0 g.1)/\∀ b cs,g.1[kt]? = some (some (b,cs))->(bb=false->cs=csO)/\(bb=true->∃ x,QE c3 x g.2/\cs=csN x)
section
variable {P : Program} {X : List Nat} {w0 w : World} {D : Au} {L0 : Own} {g : Own × Au} {kt : Nat} {csO : Array Value} {c3 : Option (Array Value)} {csN : Nat -> Array Value} {bb : Bool} {l : List FactE} {i : Nat} {o : Oper} {a : Act}
def LC:List FactE->Nat->Nat->Bool
  | [],_,_=>true
  | .own _::r,i,s=>Nat.beq s i && LC r i (s+1)
  | _::r,i,s=>LC r i (s+1)
end
theorem EO {v:Nat->Nat}(q:Nat)(hq:q<1*6):(B2 1 (BU [v]))[0+q]? = some (.int .u8 (v q:Int)):=by
  unfold B2
  rw [Bx (by omega),show (0+q) / 6=0 by omega,show (0+q)%6=q by omega]
  rfl
theorem Sl.snoc6 {u:Value}{e:Option (Nat×Array Value)}{N:Nat}{F G:Nat->Value}(h:Sl 6 u e (N+1) (fun i=>if i<N*6 then F i else G (i - N*6)))(hG:∀ q,q<6->G q=F (N*6+q)):Sl 6 u e (N+1) F:=
  h.congr fun i hi=>by
    by_cases h1:i<N*6
    . rw [if_pos h1]
    . rw [if_neg h1,hG _ (by omega),show N*6+(i - N*6)=i by omega]
theorem SlAt.vec {u:Value}{e:Option (Nat×Array Value)}{N b cap:Nat}{cs:Array Value}{V:Nat->Nat->Nat}(h:SlAt 6 u e N b cap cs (fun c=>.int .u8 (V (c / 6) (c%6):Int)))(i:Nat)(hi:i<N):cs.extract (i*6) (i*6+6)=AF (V i):=
  B7 rfl (by rw [h.sz];have:=h.le;omega) fun q hq=>by
    rw [h.get _ (by omega),show (i*6+q) / 6=i by omega,show (i*6+q)%6=q by omega]
def rowP (N K:Nat) (f:Nat->Nat) (x:Nat->Value):Array Value:=Al K (fun c=>if c<N then .int .u8 (f c:Int) else x c)
section
variable {N K o : Nat} {f g : Nat -> Nat} {x : Nat -> Value}
theorem IM:(rowP N K f x).size=K:=BJ _ _
theorem Dw (i:Nat)(h:o=i)(hi:i<N)(hK:N<=K):(rowP N K f x)[o]? = some (.int .u8 (f i:Int)):=by
  subst h
  unfold rowP
  rw [Bx (by omega),if_pos hi]
theorem Ki (h:∀ c,c<N->f c=g c):rowP N K f x=rowP N K g x:=Az fun c _=>by
  by_cases hc:c<N
  . rw [if_pos hc,if_pos hc,h c hc]
  . rw [if_neg hc,if_neg hc]
theorem SlAt.rowP {v:Value}{b cap:Nat}{cs:Array Value}(h:SlAt 1 v (some (b,cs)) N b cap cs (fun c=>.int .u8 (f c:Int))):cs=rowP N cap f (fun c=>cs[c]?.getD undef):=
  GH (by rw [h.sz,Nat.mul_one]) fun i hi=>by
    by_cases e:i<N
    . rw [if_pos e];exact h.get i (by omega)
    . rw [if_neg e]
      have:i<cs.size:=by rw [h.sz];omega
      simp [this]
end
structure RowsLP (L:Own) (N m:Nat) (κ:Nat->Nat) (Xs:Nat->Nat->Value) (γ pos:Nat->Nat) (M:Nat->Nat->Nat):Prop where
  at_:∀ i,i<m->L[pos i]? = some (some (γ i,rowP N (κ (γ i)) (M i) (Xs (γ i))))
  inj:∀ i j,i<m->j<m->pos i=pos j->i=j
  ne0:∀ i,i<m->pos i≠0
namespace RowsLP
variable {L : Own} {N m : Nat} {κ : Nat -> Nat} {Xs : Nat -> Nat -> Value} {γ pos : Nat -> Nat} {M : Nat -> Nat -> Nat}
theorem set0 (h:RowsLP L N m κ Xs γ pos M)(x:Option (Nat×Array Value)):RowsLP (L.set 0 x) N m κ Xs γ pos M:=
  ⟨fun i hi=>by rw [List.getElem?_set,if_neg (fun e=>h.ne0 i hi e.symm)];exact h.at_ i hi,h.inj,h.ne0⟩
theorem setRow (h:RowsLP L N m κ Xs γ pos M){i:Nat}(hi:i<m)(r:Nat->Nat){cs:Array Value}(hc:cs=rowP N (κ (γ i)) r (Xs (γ i))):RowsLP (L.set (pos i) (some (γ i,cs))) N m κ Xs γ pos (Go.Ech.upE M i r):=
  ⟨fun j hj=>by
    rw [List.getElem?_set]
    by_cases e:j=i
    . subst e
      have hl:=(List.getElem?_eq_some_iff.1 (h.at_ j hj)).1
      rw [if_pos rfl,if_pos hl,hc];simp only [Go.Ech.upE,if_true]
    . rw [if_neg (fun e2=>e (h.inj _ _ hj hi e2.symm))];simp only [Go.Ech.upE,if_neg e];exact h.at_ j hj,h.inj,h.ne0⟩
theorem swap (h:RowsLP L N m κ Xs γ pos M){a b:Nat}(ha:a<m)(hb:b<m):RowsLP L N m κ Xs (Go.Ech.sw a b γ) (Go.Ech.sw a b pos) (Go.Ech.sw a b M):=by
  refine ⟨fun i hi=>?_,fun i j hi hj e=>?_,fun i hi=>?_⟩
  . unfold Go.Ech.sw;split
    . exact h.at_ b hb
    . split
      . exact h.at_ a ha
      . exact h.at_ i hi
  . unfold Go.Ech.sw at e
    by_cases e1:i=a<;>by_cases e2:i=b<;>by_cases e3:j=a<;>by_cases e4:j=b<;>simp only [e1,e2,e3,e4,if_true,if_false] at e<;>first | omega | (have:=h.inj _ _ hb ha e;omega) | (have:=h.inj _ _ ha hb e;omega) | (split at e<;>first | (have:=h.inj _ _ hb (by omega) e;omega) | (have:=h.inj _ _ ha (by omega) e;omega) | (have:=h.inj _ _ (by omega) (by omega) e;omega)) | (have:=h.inj _ _ (by omega) (by omega) e;omega)
  . unfold Go.Ech.sw;split
    . exact h.ne0 b hb
    . split
      . exact h.ne0 a ha
      . exact h.ne0 i hi
theorem congr {M':Nat->Nat->Nat}(h:RowsLP L N m κ Xs γ pos M)(e:∀ i,i<m->M i=M' i):RowsLP L N m κ Xs γ pos M':=
  ⟨fun i hi=>by rw [← e i hi];exact h.at_ i hi,h.inj,h.ne0⟩
theorem apart {X:List Nat}{w0 w:World}{D:Au}(h:RowsLP L N m κ Xs γ pos M)(J:MemX X w0 w L D){i j:Nat}(hi:i<m)(hj:j<m)(hJ:i≠j):γ i≠γ j:=fun e=>by
  have h1:=h.at_ i hi
  have h2:=h.at_ j hj
  rw [e] at h1
  exact hJ (h.inj i j hi hj (J.apart _ _ _ _ _ h1 h2))
end RowsLP
def F5 (b0:Nat) (cs0:Array Value) (N m:Nat) (κ:Nat->Nat) (Xs:Nat->Nat->Value) (γ:Nat->Nat) (M:Nat->Nat->Nat):Own:=some (b0,cs0)::(List.range m).map (fun i=>some (γ i,rowP N (κ (γ i)) (M i) (Xs (γ i))))
theorem MemX.startRowsP {w:World}{b0:Nat}{cs0:Array Value}{N m:Nat}{κ:Nat->Nat}{Xs:Nat->Nat->Value}{γ:Nat->Nat}{M:Nat->Nat->Nat}(h0:Blk w b0 cs0)(hr:∀ i,i<m->Blk w (γ i) (rowP N (κ (γ i)) (M i) (Xs (γ i))))(hi:∀ i j,i<m->j<m->γ i=γ j->i=j)(hJ:∀ i,i<m->γ i≠b0) :
    MemX (A9 b0 m γ) w w (F5 b0 cs0 N m κ Xs γ M) []/\RowsLP (F5 b0 cs0 N m κ Xs γ M) N m κ Xs γ (fun i=>i+1) M/\(F5 b0 cs0 N m κ Xs γ M)[0]? = some (some (b0,cs0)):=by
  refine ⟨⟨ExtX.refl _ w,fun k b cs hk=>?_,fun k j b cs ds hk hj=>?_,fun b cs hm=>by cases hm⟩,⟨fun i hi=>?_,fun i j _ _ e=>by omega,fun i _=>by omega⟩,rfl⟩
  . rcases Co hk with ⟨_,e⟩ | ⟨i,hi,_,e⟩
    . simp at e;obtain ⟨rfl,rfl⟩:=e;exact ⟨.inr (List.mem_cons_self ..),h0⟩
    . simp at e;obtain ⟨rfl,rfl⟩:=e;exact ⟨.inr (List.mem_cons_of_mem _ (List.mem_map.2 ⟨i,by simpa using hi,rfl⟩)),hr i hi⟩
  . rcases Co hk with ⟨e1,e⟩ | ⟨i,hi',e1,e⟩<;>rcases Co hj with ⟨e2,f⟩ | ⟨i2,hi2,e2,f⟩<;>simp at e f
    . omega
    . exact absurd (f.1.symm.trans e.1) (hJ i2 hi2)
    . exact absurd (e.1.symm.trans f.1) (hJ i hi')
    . have:=hi i i2 hi' hi2 (e.1.symm.trans f.1);omega
  . show (some (b0,cs0)::(List.range m).map _:Own)[i+1]? = _
    rw [List.getElem?_cons_succ,List.getElem?_map,List.getElem?_range hi];rfl
theorem MemX.updRowP {X:List Nat}{w0 w w':World}{L:Own}{D:Au}{N m:Nat}{κ:Nat->Nat}{Xs:Nat->Nat->Value}{γ pos:Nat->Nat}{M:Nat->Nat->Nat}(h:MemX X w0 w L D)(hR:RowsLP L N m κ Xs γ pos M){i:Nat}(hi:i<m)(hx:ExtX [γ i] w w')(r:Nat->Nat)(hb:Blk w' (γ i) (rowP N (κ (γ i)) r (Xs (γ i)))) :
    ∃ L',MemX X w0 w' L' D/\RowsLP L' N m κ Xs γ pos (Go.Ech.upE M i r)/\L'[0]? = L[0]?:=
  ⟨_,h.upd (pos i) (hR.at_ i hi) hx hb,hR.setRow hi r rfl,by rw [List.getElem?_set,if_neg (hR.ne0 i hi)]⟩
end Go.Sw
namespace Go.Sw
open Go Go.RowKit Go.ChangeShapes Go.WideShapes Go.ChangeAt
def Pq (w:World) (sl:Value) (m:Nat) (V:Nat->Nat->Nat):Prop:=
  (∃ x c,sl = .slice x m c)/\(0<m->∃ b o c,sl = .slice (some ⟨b,o,none⟩) m c/\∀ i,i<m->∀ j,j<6->w.cell? ⟨b,o+i*6+j,none⟩=some (.int .u8 (V i j:Int)))
section
variable {P : Program} {n : Nat} {F : List (Nat × Value)} {a : Act} {w : World} {d : Option Tmp} {t : TypeId} {pos : String} {af : Array Edge} {gd : Option (Nat × Bool)} {x : Operand}
end
section
variable {H : Type} {enc : TypeId × Value -> H} {P : Program} {w w' : World} {base : Nat} {spare : Nat -> Bool} {held : Bool}
end
section
variable {H : Type} {enc : TypeId × Value -> H} {P : Program} {w : World} {base : Nat} {spare : Nat -> Bool} {held : Bool}
end
section
variable {P : Program} {X : List Nat} {w0 w : World} {L : Own} {D : Au} {n : Nat} {F : List (Nat × Value)} {a : Act} {d : Option Tmp} {T : TypeId} {t : TypeId} {pos : String} {af : Array Edge} {gd : Option (Nat × Bool)} {x y : Operand}
end
def PM (n:Int) (M:Nat->Nat->Nat):Array Value:=Al 37 fun c=>if c=0 then .int .i64 n else .int .u8 (M ((c - 1) / 6) ((c - 1)%6))
section
variable {n q : Int} {M N : Nat -> Nat -> Nat}
theorem Oe:(PM n M).size=37:=BJ _ _
end
def Pf:List IntKind:=.i64::List.replicate 36 .u8
section
variable {H : Type} {enc : TypeId × Value -> H} {P : Program} {w : World} {base : Nat} {spare : Nat -> Bool} {held : Bool} {t : TypeId} {v : Value} {d : DataW H} {p : List MemPlace}
end
open Go Go.RowKit
variable {P : Program}
def addD (ds:List Deferred) (a:Act):Act:=⟨a.tmps,a.defers++ds⟩
section
variable {ds : List Deferred} {ops : Array Oper} {Q : Exit -> Act -> World -> Prop} {n : Nat} {F : List (Nat × Value)} {a : Act} {w : World}
end
end Go.Sw
namespace Go.Sw
open Go Go.RowKit
variable {P : Program}
section
variable {ops : Array Oper} {Q : Exit -> Act -> World -> Prop} {rest : List Oper} {n : Nat} {F : List (Nat × Value)} {a : Act} {w : World} {d : Option Tmp} {t : TypeId} {pos : String} {af : Array Edge} {gd : Option (Nat × Bool)}
def okA (tm:Array Value):List (Nat×Value)->Prop
  | []=>True
  | (t,v)::r=>tm.getD t undef=v/\okA tm r
def Qr (P:Program) (f b:Nat) (u:FrameMode) (w:World) (c:Value):Prop:=
  CallsD P f #[ptr b 0] u w fun e u' w'=>(∃ v,e = .returned v)/\settle u' = .returning/\ExtX [b] w w'/\Blk w' b #[c]
end
end Go.Sw
namespace Go.Sw
open Go Go.RowKit
theorem JH {n:Nat}{a:Act}{F:List (Nat×Value)}{x0 x1 x2 x3:Operand}{v0 v1 v2 v3:Value}(O:Fr n a F)(h0:look F x0=some v0)(h1:look F x1=some v1)(h2:look F x2=some v2)(h3:look F x3=some v3):(#[(0,x0),(1,x1),(2,x2),(3,x3)]:Array (Nat×Operand)).toList.map (fun p=>(p.1,a.eval p.2))=[(0,v0),(1,v1),(2,v2),(3,v3)]:=by simp [O.eval h0,O.eval h1,O.eval h2,O.eval h3]
def l4 (a b c d:Nat) (i:Nat):Nat:=match i with
  | 0=>a
  | 1=>b
  | 2=>c
  | _=>d
theorem Cd {p n:Int}{T:Nat->Nat->Nat->Nat}{f:Nat->Nat}{o v:Nat}(a b c:Nat)(h:o=2+a*36+b*6+c)(ha:a<6)(hb:b<6)(hc:c<6):(AD p n T f).setIfInBounds o (.int .u8 (v:Int))=AD p n (fun i j k=>if i=a/\j=b/\k=c then v else T i j k) f:=by
  subst h;refine El (by rw [Array.size_setIfInBounds,AE]) ?_ ?_ ?_ ?_
  . rw [Array.getElem?_setIfInBounds_ne (by omega)];exact BP rfl
  . rw [Array.getElem?_setIfInBounds_ne (by omega)];exact Ao rfl
  . intro i j k hi hj hk
    by_cases e:i=a/\j=b/\k=c
    . obtain ⟨rfl,rfl,rfl⟩:=e
      rw [Array.getElem?_setIfInBounds_self_of_lt (by rw [AE];omega),if_pos ⟨rfl,rfl,rfl⟩]
    . rw [Array.getElem?_setIfInBounds_ne (by omega),if_neg e];exact DL i j k rfl hi hj hk
  . intro i hi;rw [Array.getElem?_setIfInBounds_ne (by omega)];exact Cz i rfl hi
theorem DW {p n:Int}{T:Nat->Nat->Nat->Nat}{f:Nat->Nat}{o v:Nat}(a:Nat)(h:o=218+a)(ha:a<6):(AD p n T f).setIfInBounds o (.int .u8 (v:Int))=AD p n T (fun i=>if i=a then v else f i):=by
  subst h;refine El (by rw [Array.size_setIfInBounds,AE]) ?_ ?_ ?_ ?_
  . rw [Array.getElem?_setIfInBounds_ne (by omega)];exact BP rfl
  . rw [Array.getElem?_setIfInBounds_ne (by omega)];exact Ao rfl
  . intro i j k hi hj hk;rw [Array.getElem?_setIfInBounds_ne (by omega)];exact DL i j k rfl hi hj hk
  . intro i hi
    by_cases e:i=a
    . subst e
      rw [Array.getElem?_setIfInBounds_self_of_lt (by rw [AE];omega),if_pos rfl]
    . rw [Array.getElem?_setIfInBounds_ne (by omega),if_neg e];exact Cz i rfl hi
section
variable {P : Program} {n : Nat} {F : List (Nat × Value)} {a : Act} {w : World} {d : Option Tmp} {t : TypeId} {pos : String} {af : Array Edge} {gd : Option (Nat × Bool)}
end
end Go.Sw
namespace Go.Ech
open Go.Sw
theorem MS (f:Nat->Int)(n m:Nat):sI f (n+m)=sI f n+sI (fun i=>f (n+i)) m:=by
  induction m with
  | zero=>simp [sI]
  | succ m ih =>
    show sI f (n+m+1)=_
    simp only [sI];rw [ih];omega
def augI (F:Nat->Nat->Nat) (i c:Nat):Nat:=if c<6 then F i c else if c=6+i then 1 else 0
theorem Hn {F:Nat->Nat->Nat}{i:Nat}{x:Nat->Int}(hi:i<6):dot 12 (ci (augI F i)) x=dot 6 (ci (F i)) x+x (6+i):=by
  unfold dot
  rw [show 12=6+6 from rfl,MS]
  congr 1
  . refine (Ci hi fun c hc hJ=>?_).trans ?_
    . have h1:¬ 6+c=6+i:=by omega
      show (((if 6+c<6 then F i (6+c) else if 6+c=6+i then 1 else 0:Nat)):Int)*_=0
      rw [if_neg (by omega),if_neg h1];simp
    . show (((if 6+i<6 then F i (6+i) else if 6+i=6+i then 1 else 0:Nat)):Int)*_=_
      rw [if_neg (by omega),if_pos rfl];simp
theorem NS {n:Nat}{ld:Nat->Nat}(hm:∀ i j,i<j->j<n->ld i<ld j)(hl:∀ i,i<n->ld i<n):∀ i,i<n->ld i=i:=by
  have h1:∀ i,i<n->i<=ld i:=by
    intro i
    induction i with
    | zero=>intro _;omega
    | succ i ih=>intro hi;have:=ih (by omega);have:=hm i (i+1) (by omega) hi;omega
  have h2:∀ d i,i+d+1=n->ld i+d<n:=by
    intro d
    induction d with
    | zero=>intro i hi;have:=hl i (by omega);omega
    | succ d ih=>intro i hi;have:=ih (i+1) (by omega);have:=hm i (i+1) (by omega) (by omega);omega
  intro i hi;have:=h1 i hi;have:=h2 (n - 1 - i) i (by omega)
  omega
def FullK (p n:Nat) (F:Nat->Nat->Nat):Prop:=∃ E ld,Rref p 6 E n ld/\∀ x,Ker p 6 E n x↔Ker p 6 F n x
theorem FullK.zero {p n:Nat}{F:Nat->Nat->Nat}(hp:2<=p)(hn:n<=6)(O:∀ i c,n<=c->F i c=0)(h:FullK p n F){x:Nat->Int}(hx:Ker p 6 F n x)(h0:∀ d,n<=d->d<6->x d=0){c:Nat}(hc:c<n):(p:Int)∣x c:=by
  obtain ⟨E,ld,hR,hK⟩:=h;have hl:∀ i,i<n->ld i<n:=fun i hi=>Decidable.byContradiction fun hno=>
    HH (c:=ld i) hp hR hK (hR.lt i hi) (fun j _=>O j _ (by omega)) ⟨i,hi,rfl⟩
  have hZ:=NS hR.mono hl;have:=(hK x).2 hx c hc
  unfold dot at this
  rw [Ci (a:=c) (by omega)] at this
  . have e:=hR.one c hc
    rw [hZ c hc] at e
    simpa [ci,e] using this
  . intro d hd hJ
    by_cases hdn:d<n
    . have:=hR.zero d c hdn hc hJ
      rw [hZ d hdn] at this
      simp [ci,this]
    . rw [h0 d (by omega) hd];simp
structure IsCop (p n:Nat) (F G:Nat->Nat->Nat):Prop where
  lt:∀ i j,G i j<p
  out:∀ i j,n<=i\/n<=j->G i j=0
  sol:∀ i,i<n->∀ j,j<n->(p:Int)∣sI (fun k=>(F i k:Int)*(G k j:Int)) n - (dl i j:Int)
theorem JG {p n:Nat}{F:Nat->Nat->Nat}(hp:2<=p)(hn:n<=6)(O:∀ i c,n<=c->F i c=0)(h:FullK p n F){x y:Nat->Nat}{b:Nat->Int}(hx:∀ c,c<n->x c<p)(hy:∀ c,c<n->y c<p)(h1:∀ i,i<n->(p:Int)∣sI (fun k=>(F i k:Int)*(x k:Int)) n - b i)(h2:∀ i,i<n->(p:Int)∣sI (fun k=>(F i k:Int)*(y k:Int)) n - b i):∀ c,c<n->x c=y c:=by
  intro c hc;have hK:Ker p 6 F n (fun c=>if c<n then (x c:Int) - (y c:Int) else 0):=fun i hi=>by
    have h3:=Int.dvd_sub (h1 i hi) (h2 i hi);have e:dot 6 (ci (F i)) (fun c=>if c<n then (x c:Int) - (y c:Int) else 0)=sI (fun k=>(F i k:Int)*(x k:Int)) n - b i - (sI (fun k=>(F i k:Int)*(y k:Int)) n - b i):=by
      unfold dot
      rw [Fe hn (fun c h1 _=>by simp [show ¬ c<n by omega])];have:sI (fun k=>(F i k:Int)*(x k:Int)) n=sI (fun c=>ci (F i) c*(if c<n then (x c:Int) - (y c:Int) else 0)) n+sI (fun k=>(F i k:Int)*(y k:Int)) n:=by
        rw [← EJ];exact An fun c hc=>by rw [if_pos hc];grind
      rw [this]
      show sI (fun c=>ci (F i) c*(if c<n then (x c:Int) - (y c:Int) else 0)) n=_
      omega
    rw [e];exact h3
  have:=h.zero hp hn O hK (fun d h1 _=>by simp [show ¬ d<n by omega]) hc;simp only [if_pos hc] at this;exact DV (hx c hc) (hy c hc) this
theorem IsCop.unique {p n:Nat}{F G G':Nat->Nat->Nat}(hp:2<=p)(hn:n<=6)(O:∀ i c,n<=c->F i c=0)(hf:FullK p n F)(h:IsCop p n F G)(h':IsCop p n F G'):G=G':=by
  funext i j
  by_cases e:n<=i\/n<=j
  . rw [h.out i j e,h'.out i j e]
  . exact JG hp hn O hf (x:=fun k=>G k j) (y:=fun k=>G' k j) (b:=fun i=>(dl i j:Int)) (fun c _=>h.lt c j) (fun c _=>h'.lt c j) (fun i hi=>h.sol i hi j (by omega)) (fun i hi=>h'.sol i hi j (by omega)) i (by omega)
theorem KA {p n k:Nat}{F M':Nat->Nat->Nat}{ld:Nat->Nat}(hp:2<=p)(hn0:0<n)(hn:n<=6)(O:∀ i c,n<=c->F i c=0)(hf:FullK p n F)(h:Rref p 12 M' k ld)(hk:k<=n)(hK:∀ x,Ker p 12 M' k x↔Ker p 12 (augI F) n x) :
    k=n/\∀ i,i<n->i<k/\ld i=i:=by
  have hnl:∀ d,n<=d->d<6->¬ DM k ld d:=fun d h1 h2=>HH hp h hK (by omega) (fun i _=>by rw [augI,if_pos h2];exact O i d h1);have hc:∀ c,c<n->DM k ld c:=by
    intro c hc;refine Decidable.byContradiction fun hno=>?_;have hfk:=h.free_ker (show c<12 by omega) hno;have hx6:∀ d,6<=d->free M' k ld c d=0:=fun d h1=>by
      unfold free;rw [if_neg (by omega)]
      cases e:Dl k ld d with
      | none=>rfl
      | some j =>
        obtain ⟨hj,e2⟩:=B9 e
        simp [h.left j hj c (by omega)]
    have hxn:∀ d,n<=d->d<6->free M' k ld c d=0:=fun d h1 h2=>by
      unfold free;rw [if_neg (by omega)]
      cases e:Dl k ld d with
      | none=>rfl
      | some j=>exact absurd ⟨j,B9 e⟩ (hnl d h1 h2)
    have hKF:Ker p 6 F n (free M' k ld c):=fun i hi=>by
      have:=(hK _).1 hfk i hi;rw [Hn (by omega),hx6 _ (by omega),Int.add_zero] at this;exact this
    have:=hf.zero hp hn O hKF hxn hc;rw [show free M' k ld c c=1 by simp [free]] at this;have:=Int.le_of_dvd (by omega) this
    omega
  have hZ:∀ i,i<n->i<k/\ld i=i:=by
    intro i
    induction i using Nat.strongRecOn with
    | ind i ih =>
      intro hi;obtain ⟨j,hj,e⟩:=hc i hi;have h1:¬ j<i:=fun hlt2=>by have:=(ih j hlt2 (by omega)).2;omega
      have h2:¬ i<j:=fun hlt2=>by
        have h3:=h.mono i j hlt2 hj;have h4:=ih (ld i) (by omega) (by omega);have:=h.inj h4.1 (show i<k by omega) h4.2
        omega
      have:j=i:=by omega
      subst this;exact ⟨hj,e⟩
  have hkn:k=n:=by have:=(hZ (n - 1) (by omega)).1;omega
  exact ⟨hkn,hZ⟩
theorem Mu {p n k:Nat}{F M':Nat->Nat->Nat}{ld:Nat->Nat}(hp:2<=p)(hn0:0<n)(hn:n<=6)(O:∀ i c,n<=c->F i c=0)(hf:FullK p n F)(h:Rref p 12 M' k ld)(hk:k<=n)(hK:∀ x,Ker p 12 M' k x↔Ker p 12 (augI F) n x)(hH:∀ i c,M' i c<p) :
    k=n/\IsCop p n F (fun i j=>if i<n/\j<n then M' i (6+j) else 0)/\∀ i,i<n->∀ j,n<=j->j<6->M' i (6+j)=0:=by
  obtain ⟨hkn,hZ⟩:=KA hp hn0 hn O hf h hk hK;refine ⟨hkn,⟨fun i j=>?_,fun i j e=>if_neg (by omega),fun i hi j hj=>?_⟩,fun i hi j h1 h2=>?_⟩
  . show (if _ then _ else _)<p
    split
    . exact hH _ _
    . omega
  . have hno:∀ d,n<=d->¬ DM k ld d:=fun d h1 ⟨q,hq,e⟩=>by have:=(hZ q (by omega)).2;omega
    have hfk:=(hK _).1 (h.free_ker (show 6+j<12 by omega) (hno _ (by omega))) i hi;rw [Hn (by omega)] at hfk;have e1:free M' k ld (6+j) (6+i)=(dl i j:Int):=by
      unfold free dl
      by_cases e:i=j
      . rw [if_pos (by omega),if_pos e];rfl
      . rw [if_neg (by omega),if_neg e]
        cases e2:Dl k ld (6+i) with
        | none=>rfl
        | some q=>exact absurd ⟨q,B9 e2⟩ (hno _ (by omega))
    have e2:dot 6 (ci (F i)) (free M' k ld (6+j)) = -1*sI (fun q=>(F i q:Int)*(((if q<n/\j<n then M' q (6+j) else 0:Nat)):Int)) n:=by
      unfold dot
      rw [Fe hn (fun c h1 h2=>by
        have:free M' k ld (6+j) c=0:=by
          unfold free;rw [if_neg (by omega)]
          cases e2:Dl k ld c with
          | none=>rfl
          | some q=>exact absurd ⟨q,B9 e2⟩ (hno _ h1)
        rw [this];simp),← CQ]
      refine An fun q hq=>?_;have:free M' k ld (6+j) q = -(M' q (6+j):Int):=by
        unfold free;rw [if_neg (by omega)]
        have:=h.ldAt_eq (hZ q hq).1;rw [(hZ q hq).2] at this;rw [this]
      rw [this,if_pos ⟨hq,hj⟩];simp only [ci];grind
    rw [e1,e2] at hfk;have:=Int.dvd_neg.2 hfk
    rwa [show -(-1*sI (fun q=>(F i q:Int)*(((if q<n/\j<n then M' q (6+j) else 0:Nat)):Int)) n+(dl i j:Int))=sI (fun q=>(F i q:Int)*(((if q<n/\j<n then M' q (6+j) else 0:Nat)):Int)) n - (dl i j:Int) by omega] at this
  . have hz:Ker p 12 (augI F) n (fun d=>if d=6+j then 1 else 0):=fun q hq=>by
      rw [Hn (by omega)];have:dot 6 (ci (F q)) (fun d=>if d=6+j then 1 else 0)=0:=by
        unfold dot;exact EC fun d hd=>by show _*(if d=6+j then (1:Int) else 0)=0;rw [if_neg (by omega)];simp
      rw [this,if_neg (by omega)];simp
    have:=(hK _).2 hz i (by omega)
    unfold dot at this
    rw [Ci (a:=6+j) (by omega) (fun d _ hJ=>by show _*(if d=6+j then (1:Int) else 0)=0;rw [if_neg hJ];simp)] at this;simp only [ci,if_pos,Int.mul_one] at this;have h3:=hH i (6+j);exact DV h3 (by omega) (by simpa using this)
theorem OO {p u:Nat}(hp:primeN p)(hu:u<p)(h0:u≠0):∃ v,u*v%p=1:=by
  have key:∀ q:Nat,(∀ a,a<q->a≠0->∃ v,v<q/\a*v%q=1)->p=q->∃ v,u*v%p=1:=fun q hq e=>by
    subst e;obtain ⟨v,_,h⟩:=hq u hu h0;exact ⟨v,h⟩
  rcases hp with e | e | e | e | e | e
  . exact key 2 (by decide) e
  . exact key 3 (by decide) e
  . exact key 5 (by decide) e
  . exact key 7 (by decide) e
  . exact key 11 (by decide) e
  . exact key 13 (by decide) e
theorem Ml {o:Nat->Nat}{N:Nat}(h:¬ ∀ c,c<N->o c=0):∃ t,t<N/\o t≠0/\∀ c,c<t->o c=0:=by
  induction N with
  | zero=>exact absurd (fun c hc=>absurd hc (by omega)) h
  | succ N ih =>
    by_cases e:∀ c,c<N->o c=0
    . refine ⟨N,by omega,fun h0=>h fun c hc=>?_,e⟩
      by_cases ec:c=N
      . rw [ec,h0]
      . exact e c (by omega)
    . obtain ⟨t,h1,h2⟩:=ih e;exact ⟨t,by omega,h2⟩
theorem NO {p N k:Nat}{E:Nat->Nat->Nat}{ld r:Nat->Nat}(hp:0<p)(h:Rref p N E k ld)(hr:∀ c,r c<p):∃ o,Own p N E k ld r o k/\∀ c,o c<p:=by
  have:∀ j,j<=k->∃ o,Own p N E k ld r o j/\∀ c,o c<p:=by
    intro j
    induction j with
    | zero=>intro _;exact ⟨r,⟨fun c _=>hr c,fun i hi=>absurd hi (by omega),fun x _=>Iff.rfl⟩,hr⟩
    | succ j ih=>intro hj;obtain ⟨o,h1,_⟩:=ih (by omega);exact ⟨_,h1.step hp h (by omega),fun c=>Dz hp⟩
  exact this k (Nat.le_refl _)
theorem G0 {p N m:Nat}{M:Nat->Nat->Nat}(hp:primeN p)(J:∀ i c,M i c<p):∃ k E ld,Rref p N E k ld/\k<=m/\∀ x,Ker p N E k x↔Ker p N M m x:=by
  have hp0:0<p:=by have:=hp.two;omega
  induction m with
  | zero=>exact ⟨0,M,fun _=>0,⟨fun i hi=>absurd hi (by omega),fun i j _ hi=>absurd hi (by omega),fun i hi=>absurd hi (by omega),fun i hi=>absurd hi (by omega),fun i j hi=>absurd hi (by omega),fun i hi=>absurd hi (by omega)⟩,Nat.le_refl _,fun x=>Iff.rfl⟩
  | succ m ih =>
    obtain ⟨k,E,ld,hR,hk,hK⟩:=ih;obtain ⟨o,ho,ho2⟩:=NO hp0 hR (J m)
    by_cases hz:∀ c,c<N->o c=0
    . refine ⟨k,E,ld,hR,by omega,fun x=>?_⟩
      rw [Ker.snoc,← hK];exact ⟨fun h=>⟨h,(ho.ker x h).1 (Hm hz)⟩,fun h=>h.1⟩
    . obtain ⟨t,ht,h0,hlow⟩:=Ml hz
      obtain ⟨v,hv⟩:=OO hp (ho2 t) h0;have hJ:∀ i,i<k->ld i≠t:=fun i hi e=>h0 (by rw [← e];exact ho.zero i hi);obtain ⟨b1,b2,b3⟩:=Hq hR hJ;have f:Fits p N E k ld (fun c=>o c*v%p) t (below k ld t):=
        ⟨ht,hv,fun c hc=>by simp [hlow c hc],fun c _=>Nat.mod_lt _ hp0,fun i hi=>by simp [ho.zero i hi],b1,b2,b3⟩
      refine ⟨k+1,_,_,hR.insert hp0 f,by omega,fun x=>?_⟩;rw [Fm hp0 b1,Ker.snoc,← hK];have hsc:(p:Int)∣dot N (ci fun c=>o c*v%p) x↔(p:Int)∣dot N (ci o) x:=Gd (v:=v) (u:=o t) (fun c _=>rfl) hv;rw [hsc];exact ⟨fun h=>⟨h.1,(ho.ker x h.1).1 h.2⟩,fun h=>⟨h.1,(ho.ker x h.1).2 h.2⟩⟩
theorem K5 {p n:Nat}{F:Nat->Nat->Nat}(hp:primeN p)(hn0:0<n)(hn:n<=6)(O:∀ i c,n<=c->F i c=0)(hFp:∀ i c,F i c<p)(hf:FullK p n F):∃ G,IsCop p n F G:=by
  have hp2:=hp.two;obtain ⟨k,E,ld,hR,hk,hK⟩:=G0 (N:=12) (m:=n) (M:=augI F) hp (fun i c=>by unfold augI;split;exact hFp i c;split<;>omega);refine ⟨_,(Mu (M':=fun i c=>if i<n/\c<12 then E i c else 0) hp2 hn0 hn O hf (k:=k) (ld:=ld) ?_ hk ?_ ?_).2.1⟩
  . have e:∀ i,i<k->∀ c,c<12->(if i<n/\c<12 then E i c else 0)=E i c:=fun i hi c hc=>if_pos ⟨by omega,hc⟩
    exact ⟨hR.lt,hR.mono,fun i hi=>(e i hi _ (hR.lt i hi)).trans (hR.one i hi),fun i hi c hc=>(e i hi c (by have:=hR.lt i hi;omega)).trans (hR.left i hi c hc),fun i j hi hj hJ=>(e j hj _ (hR.lt i hi)).trans (hR.zero i j hi hj hJ),fun i hi c hc=>by rw [e i hi c hc];exact hR.small i hi c hc⟩
  . intro x
    rw [← hK]
    unfold Ker dot
    have e:∀ i,i<k->sI (fun c=>ci (fun c=>if i<n/\c<12 then E i c else 0) c*x c) 12=sI (fun c=>ci (E i) c*x c) 12:=fun i hi=>An fun c hc=>by
      show (((if i<n/\c<12 then E i c else 0:Nat)):Int)*_=_
      rw [if_pos ⟨by omega,hc⟩]
    exact ⟨fun h i hi=>by rw [← e i hi];exact h i hi,fun h i hi=>by rw [e i hi];exact h i hi⟩
  . intro i c
    show (if _ then _ else _)<p
    by_cases e:i<n/\c<12
    . rw [if_pos e]
      by_cases e2:i<k
      . exact hR.small i e2 c e.2
      . exact absurd e2 (by have:=(KA hp2 hn0 hn O hf hR hk hK).1;omega)
    . rw [if_neg e];omega
end Go.Ech
namespace Go.Sw
open Go Go.RowKit
variable {P : Program}
theorem Iv {X:List Nat}{w0 w:World}{L:Own}{D:Au}{T e:TypeId}{z:Value}{size bytes n k m b bx ox cx:Nat}{cs:Array Value}{f g:Nat->Value}(hT:Lr P T=some (e,some z,size,bytes))(hz:z.cells.size=size)(hs0:0<size)
    (J:MemX X w0 w L D) (hblk:Blk w b cs) (hget:∀ i,i<n*size->cs[i]? = some (f i)) (hg:∀ i,i<m*size->w.cell? ⟨bx,ox+i,none⟩=some (g i))
    (hm:0<m) (h63:n+m<=maxLen) (hb:(n+m)*bytes<=140737488355328) (ty:TypeId) :
    ∃ u w' b' cap' cs',(Builtin.append_ #[T,T] ty #[.slice (some ⟨b,0,none⟩) n n,.slice (some ⟨bx,ox,none⟩) m cx]).run P w = .ok u w'/\MemX X w0 w' (L.set k (some (b',cs'))) D/\SlAt size u (some (b',cs')) (n+m) b' cap' cs' (fun i=>if i<n*size then f i else g (i - n*size))/\Ext w w':=by
  unfold Lr at hT
  cases hu:P.underlying T with
  | none=>simp [hu] at hT
  | some dd =>
    cases dd<;>simp [hu] at hT
    rename_i el
    obtain ⟨inf,hinf,rfl,hz0,hsz,hby⟩:=hT;subst hsz;subst hby
    have hm0:n+m<=9223372036854775807:=by simp only [maxLen] at h63;omega
    have hnl:(((List.range (m*inf.size)).map g)).length=m*inf.size:=by simp
    have hnews:∀ j u,((List.range (m*inf.size)).map g)[j]? = some u->w.cell? ((⟨bx,ox,none⟩:Addr).add j)=some u:=by
      intro j u hj;have hH:j<m*inf.size:=by have:=(List.getElem?_eq_some_iff.1 hj).1;simpa using this
      rw [Addr.add_lit,hg j hH]
      simp [hH] at hj;rw [hj]
    have holds:∀ j u,((List.range (n*inf.size)).map f)[j]? = some u->w.cell? ((⟨b,0,none⟩:Addr).add j)=some u:=by
      intro j u hj;have hH:j<n*inf.size:=by have:=(List.getElem?_eq_some_iff.1 hj).1;simpa using this
      rw [Addr.add_lit,Nat.zero_add,hblk.cell,hget j hH]
      simp [hH] at hj;rw [hj]
    have hr:=run_append_grow (P:=P) w T ty el inf z hu hinf hz0 ⟨b,0,none⟩ n n ((List.range (n*inf.size)).map f) (by simp) holds ⟨bx,ox,none⟩ m cx _ hnl hnews (by omega) (by omega) (growslice_fits (by omega) hb);refine ⟨_,_,_,_,_,hr,J.fill (Cu _ _) k (Blk.new w.drew _ _) (Nat.le_refl _),⟨rfl,rfl,grownCap_ge w _ _ _,grownCap_le_maxLen w _ _ _ h63,?_,?_⟩,Cu _ _⟩
    . have:=grownCap_ge w (n+m) n el
      simp only [Array.size_append,List.size_toArray,hnl,size_zeroCells,hz,List.length_map,List.length_range,← Nat.add_mul]
      congr 1;omega
    . intro i hi
      have e1:(n+m)*inf.size=n*inf.size+m*inf.size:=Nat.add_mul ..;rw [Array.getElem?_append,if_pos (by simp only [Array.size_append,List.size_toArray,List.length_map,List.length_range];omega),Array.getElem?_append]
      by_cases hH:i<n*inf.size
      . rw [if_pos (by simpa using hH),if_pos hH];simp [hH]
      . rw [if_neg (by simpa using hH),if_neg hH]
        simp only [List.size_toArray,List.length_map,List.length_range];rw [List.getElem?_toArray,List.getElem?_map,List.getElem?_range (by omega)];rfl
section
variable {n : Nat} {F : List (Nat × Value)} {a : Act} {X : List Nat} {w w0 : World} {L : Own} {D : Au}
variable {d : Option Tmp} {t : TypeId} {pos : String} {af : Array Edge} {gd : Option (Nat × Bool)} {T : TypeId} {x y : Operand}
theorem K4 {e:TypeId}{z:Value}{size bytes N k m b bx ox cx:Nat}{cs:Array Value}{f g:Nat->Value}(hT:Lr P T=some (e,some z,size,bytes))(hz:z.cells.size=size)(hs0:0<size)
    (J:MemX X w0 w L D) (O:Fr n a F) (hx:look F x=some (.slice (some ⟨b,0,none⟩) N N)) (hy:look F y=some (.slice (some ⟨bx,ox,none⟩) m cx)) (hblk:Blk w b cs) (hget:∀ i,i<N*size->cs[i]? = some (f i)) (hg:∀ i,i<m*size->w.cell? ⟨bx,ox+i,none⟩=some (g i))
    (hm:0<m) (h63:N+m<=maxLen) (hb:(N+m)*bytes<=140737488355328) :
    Does P ⟨d,.call { callee:=.builtin .append,args:=#[x,y],argTypes:=#[T,T] },t,pos,af,gd⟩ a w (fun u w'=>∃ b' cap' cs',SlAt size u (some (b',cs')) (N+m) b' cap' cs' (fun i=>if i<N*size then f i else g (i - N*size))/\MemX X w0 w' (L.set k (some (b',cs'))) D):=
  ⟨fun K Q hK=>by
    obtain ⟨u,w',b',cap',cs',hr,h2,h3,_⟩:=Iv (P:=P) (T:=T) hT hz hs0 J hblk hget hg hm h63 hb t
    unfold Oper.wp execOp
    simp only [resolve,invoke,builtin,Sem.run_bind,Sem.run_pure,Result.andThen_ok,List.map_toArray,List.map_cons,List.map_nil,O.eval hx,O.eval hy]
    rw [hr]
    exact hK u w' ⟨b',cap',cs',h3,h2⟩⟩
theorem MB {e:TypeId}{b o len cap i s:Nat}{κ:IntKind}{X:Int}(hT:P.underlying T=some (.slice e))(he:DA P e=some s)(O:Fr n a F)(hx:look F x=some (.slice (some ⟨b,o,none⟩) len cap))(hy:look F y=some (.int κ X))(hX:X=(i:Int))(hi:i<=len)(hl:len<=cap)(hc:i<cap) :
    BZ P ⟨d,.slice T x (some y) none none,t,pos,af,gd⟩ a w (.slice (some ⟨b,o+i*s,none⟩) (len - i) (cap - i)):=by
  subst hX;refine Ag ?_;have h1:(0:Int)<=(i:Int)/\(i:Int)<=(len:Int):=by omega
  have h2:=run_sizeOf he w;have h4:¬ cap=i:=by omega
  have h5:¬ cap - i=0:=by omega
  simp [execOp,Instr.sliceAt,Instr.slice,run_underlying hT,O.eval hx,O.eval hy,Instr.sliceBounds,Instr.sliceBound,asIntOf,h1,h2,h4,h5,Addr.add_lit,hi]
end
structure RowsPD (D:Au) (N m:Nat) (κ:Nat->Nat) (Xs:Nat->Nat->Value) (γ:Nat->Nat) (M:Nat->Nat->Nat):Prop where
  mem:∀ i,i<m->(γ i,rowP N (κ (γ i)) (M i) (Xs (γ i)))∈D
  inj:∀ i j,i<m->j<m->γ i=γ j->i=j
namespace RowsPD
variable {D D' : Au} {N m : Nat} {κ : Nat -> Nat} {Xs : Nat -> Nat -> Value} {γ : Nat -> Nat} {M : Nat -> Nat -> Nat}
theorem none:RowsPD D N 0 κ Xs γ M:=⟨fun i hi=>absurd hi (by omega),fun i j hi=>absurd hi (by omega)⟩
theorem more (h:RowsPD D N m κ Xs γ M)(hs:∀ x∈D,x∈D'):RowsPD D' N m κ Xs γ M:=⟨fun i hi=>hs _ (h.mem i hi),h.inj⟩
theorem congr {M':Nat->Nat->Nat}(h:RowsPD D N m κ Xs γ M)(e:∀ i,i<m->∀ c,c<N->M i c=M' i c):RowsPD D N m κ Xs γ M':=
  ⟨fun i hi=>by rw [← Ki (e i hi)];exact h.mem i hi,h.inj⟩
theorem snoc (h:RowsPD D N m κ Xs γ M){b cap:Nat}{r:Nat->Nat}{x:Nat->Value}{cs:Array Value}(hc:cs=rowP N cap r x)(hm:(b,cs)∈D)(hn:∀ i,i<m->b≠γ i):RowsPD D N (m+1) (fun y=>if y=b then cap else κ y) (fun y=>if y=b then x else Xs y) (up γ m b) (Go.Ech.upE M m r):=by
  refine ⟨fun i hi=>?_,fun i j hi hj e=>?_⟩
  . by_cases e:i=m
    . subst e;simp only [CD,Go.Ech.upE,if_true];rw [← hc];exact hm
    . have hJ:¬ γ i=b:=fun h2=>hn i (by omega) h2.symm
      simp only [CC e,Go.Ech.upE,if_neg e,if_neg hJ];exact h.mem i (by omega)
  . unfold up at e
    by_cases e1:i=m<;>by_cases e2:j=m
    . omega
    . rw [if_pos e1,if_neg e2] at e;exact absurd e (hn j (by omega))
    . rw [if_neg e1,if_pos e2] at e;exact absurd e.symm (hn i (by omega))
    . rw [if_neg e1,if_neg e2] at e;exact h.inj i j (by omega) (by omega) e
end RowsPD
theorem MemX.addD' {X:List Nat}{w0 w:World}{L:Own}{D D':Au}(h:MemX X w0 w L D)(hD:∀ b cs,(b,cs)∈D'->Blk w b cs/\∀ (k:Nat) c ds,L[k]? = some (some (c,ds))->c≠b):MemX X w0 w L (D'++D):=
  ⟨h.bel,h.blk,h.apart,fun b cs hm=>by
    rcases List.mem_append.1 hm with hm | hm
    . exact hD b cs hm
    . exact h.froz b cs hm⟩
theorem MemX.addBoL {X:List Nat}{w0 w w':World}{L:Own}{D:Au}{N m:Nat}{M:Nat->Nat->Nat}{u:Value}(k:Nat)(h:MemX X w0 w L D)(hx:Ext w w')(hf:BytesOut w w' N m M u) :
    ∃ (D':Au) (β:Nat->Nat) (b:Nat) (cs:Array Value),RowsB D' N m β M/\u = .slice (some ⟨b,0,none⟩) m m/\cs.size=m/\(∀ i,i<m->cs[0+i*1]? = some (.slice (some ⟨β i,0,none⟩) N N))/\MemX X w0 w' (L.set k (some (b,cs))) (D'++D):=by
  obtain ⟨D1,β,b,cs,h1,h2,h3,h4,h5,h6,h7⟩:=hf;refine ⟨(List.range m).map (fun i=>(β i,Al N (fun c=>.int .u8 (M i c:Int)))),β,b,cs,⟨fun i hi=>List.mem_map.2 ⟨i,by simpa using hi,rfl⟩,h2.inj⟩,h3,h4,h5,?_⟩;have hb:=h1 _ _ h6;refine (h.fill hx k hb.2 hb.1).addD' fun c ds hm=>?_;obtain ⟨i,hi,e⟩:=List.mem_map.1 hm;simp only [Prod.mk.injEq] at e;obtain ⟨rfl,rfl⟩:=e;have hi:i<m:=by simpa using hi
  have hr:=h1 _ _ (h2.mem i hi);refine ⟨hr.2,fun j c ds hj=>?_⟩;rw [List.getElem?_set] at hj
  split at hj
  . split at hj
    . simp only [Option.some.injEq,Prod.mk.injEq] at hj;obtain ⟨rfl,rfl⟩:=hj;exact fun e=>h7 i hi e.symm
    . cases hj
  . have:=(h.blk j c ds hj).2.lt
    have:=hr.1
    omega
theorem MemX.reduced {X:List Nat}{w0 w w':World}{L:Own}{D:Au}{N m k b0:Nat}{κ:Nat->Nat}{Xs:Nat->Nat->Value}{γ γ':Nat->Nat}{M:Nat->Nat->Nat}{cs cs':Array Value}{R:Nat->Array Value}(h:MemX X w0 w L D)(hk:L[k]? = some (some (b0,cs)))(hP:RowsPD D N m κ Xs γ M)(hb:w0.heap.size<=b0)(hge:∀ i,i<m->w0.heap.size<=γ i)
    (hx:ExtX (A9 b0 m γ) w w') (hfr:∀ i,i<m->w.heap.size<=γ' i\/γ' i∈A9 b0 m γ) (hb0:Blk w' b0 cs') (hbr:∀ i,i<m->Blk w' (γ' i) (R i)):MemX X w0 w' (L.set k none) ((b0,cs')::(List.range m).map (fun i=>(γ' i,R i))):=by
  have key:∀ (j:Nat) c ds,(L.set k none)[j]? = some (some (c,ds))->j≠k/\L[j]? = some (some (c,ds)):=by
    intro j c ds hj;rw [List.getElem?_set] at hj
    split at hj
    . split at hj
      . simp at hj
      . cases hj
    . rename_i e;exact ⟨fun e2=>e e2.symm,hj⟩
  have hnb:∀ (j:Nat) c ds,(L.set k none)[j]? = some (some (c,ds))->c≠b0:=fun j c ds hj e=>by
    subst e;exact (key j _ ds hj).1 (h.apart j k _ _ _ (key j _ ds hj).2 hk)
  have hnY:∀ (j:Nat) c ds,(L.set k none)[j]? = some (some (c,ds))->c ∉ A9 b0 m γ:=fun j c ds hj hm=>by
    rcases List.mem_cons.1 hm with e | hm
    . exact hnb j c ds hj e
    . obtain ⟨i,hi,e⟩:=List.mem_map.1 hm
      exact (h.froz _ _ (hP.mem i (by simpa using hi))).2 j c ds (key j c ds hj).2 e.symm
  have h2:MemX X w0 w' (L.set k none) []:=((h.drop k).sub [] (fun _ hx=>by cases hx)).extY hx fun y hy=>⟨by
    rcases List.mem_cons.1 hy with e | hm
    . rw [e];exact hb
    . obtain ⟨i,hi,rfl⟩:=List.mem_map.1 hm
      exact hge i (by simpa using hi),fun j c ds hj e=>hnY j c ds hj (e ▸ hy),fun _ _ hm=>by cases hm⟩
  have h3:=h2.addD' (D':=(b0,cs')::(List.range m).map (fun i=>(γ' i,R i))) fun c ds hm=>by
    rcases List.mem_cons.1 hm with e | hm
    . simp only [Prod.mk.injEq] at e;obtain ⟨rfl,rfl⟩:=e;exact ⟨hb0,hnb⟩
    . obtain ⟨i,hi,e⟩:=List.mem_map.1 hm
      simp only [Prod.mk.injEq] at e;obtain ⟨rfl,rfl⟩:=e;have hi:i<m:=by simpa using hi
      refine ⟨hbr i hi,fun j c ds hj e=>?_⟩
      rcases hfr i hi with h4 | h4
      . have:=(h.blk j c ds (key j c ds hj).2).2.lt;omega
      . exact hnY j c ds hj (e ▸ h4)
  rwa [List.append_nil] at h3
theorem IS {m i:Nat}{x:Nat×Array Value}{γ:Nat->Nat}{R:Nat->Array Value}(hi:i<m):(γ i,R i)∈x::(List.range m).map (fun i=>(γ i,R i)):=
  List.mem_cons_of_mem _ (List.mem_map.2 ⟨i,by simpa using hi,rfl⟩)
theorem MU {K:Nat}{f:Nat->Nat}{x:Nat->Value}(hK:12<=K):(rowP 12 K f x).extract (0+6*1) (0+6*1+6)=AF (fun q=>f (6+q)):=
  B7 rfl (by rw [IM];omega) fun q hq=>Dw _ (by omega) (by omega) hK
theorem Nm {F:Nat->Nat->Nat}{i c:Nat}(hc:c<12):(if c<6*1 then Value.int .u8 (F i c:Int) else .int .u8 (((if c - 6*1=i then 1 else 0:Nat)):Int)) = .int .u8 (Go.Ech.augI F i c:Int):=by
  unfold Go.Ech.augI
  by_cases e:c<6
  . rw [if_pos (by omega),if_pos e]
  . rw [if_neg (by omega),if_neg e]
    by_cases e2:c=6+i
    . rw [if_pos (by omega),if_pos e2]
    . rw [if_neg (by omega),if_neg e2]
end Go.Sw
namespace Go.Ech
open Go.Sw
def Fs (n:Nat) (F:Nat->Nat->Nat) (j i c:Nat):Nat:=if c<n then F i c else if i=j then 1 else 0
theorem Lo {p n k j:Nat}{F G E:Nat->Nat->Nat}{ld:Nat->Nat}(hp:2<=p)(hn:n<=6)(hj:j<n)(O:∀ i c,n<=c->F i c=0)(hf:FullK p n F)(hG:IsCop p n F G)(h:Rref p (n+1) E k ld)(hK:∀ x,Ker p (n+1) E k x↔Ker p (n+1) (Fs n F j) n x) :
    (k=n/\∀ i,i<n->ld i=i)/\∀ i,i<n->E i n=G i j:=by
  have hd:∀ (x:Nat->Nat) i,dot (n+1) (ci (Fs n F j i)) (FN n x)=sI (fun q=>(F i q:Int)*(x q:Int)) n - (dl i j:Int):=fun x i=>by
    unfold dot;simp only [sI]
    have e1:sI (fun c=>ci (Fs n F j i) c*FN n x c) n=sI (fun q=>(F i q:Int)*(x q:Int)) n:=An fun c hc=>by
      show (((if c<n then F i c else _:Nat)):Int)*_=_
      rw [if_pos hc,Fw hc]
    have e2:ci (Fs n F j i) n*FN n x n = -(dl i j:Int):=by
      show (((if n<n then F i n else if i=j then 1 else 0:Nat)):Int)*_=_
      rw [if_neg (by omega),GM];unfold dl;omega
    rw [e1,e2];omega
  have hx:Ker p (n+1) E k (FN n fun c=>G c j):=(hK _).2 fun i hi=>by rw [hd];exact hG.sol i hi j hj
  have hO:=D8 hp h (fun c=>G c j) (fun i _=>hG.lt i j) hx fun y hy hky=>by
    refine JG hp hn O hf (b:=fun i=>(dl i j:Int)) hy (fun c _=>hG.lt c j) (fun i hi=>?_) (fun i hi=>hG.sol i hi j hj);have:=(hK _).1 hky i hi
    rwa [hd] at this
  exact ⟨⟨hO.k,hO.ld⟩,fun i hi=>((GG h hO (fun c=>G c j) (fun i _=>hG.lt i j)).1 hx i hi).symm⟩
end Go.Ech
namespace Go.Sw
open Go Go.RowKit Go.Ech
def TabOut (w w':World) (N k:Nat) (f:Nat->Nat->Value) (u:Value):Prop:=∃ (D:Au) (β κ:Nat->Nat) (C:Nat->Array Value) (b cap:Nat) (cs:Array Value),
  (∀ x ds,(x,ds)∈D->w.heap.size<=x/\Blk w' x ds)/\RowsD D N k β κ C f/\SlAt 1 u (some (b,cs)) k b cap cs (fun i=>.slice (some ⟨β i,0,none⟩) N (κ i))/\(b,cs)∈D/\(∀ i j,i<k->j<k->β i=β j->i=j)/\∀ i,i<k->β i≠b
theorem TabOut.rows {w w':World}{N k:Nat}{f:Nat->Nat->Value}{u:Value}(h:TabOut w w' N k f u):RowsOut w w' N k f u:=by
  obtain ⟨D,β,κ,C,b,cap,cs,h1,h2,h3,h4,_⟩:=h;exact ⟨D,β,κ,C,b,cap,cs,h1,h2,h3,h4⟩
theorem TabOut.of {w w':World}{L:Own}{D:Au}{N k q:Nat}{β κ:Nat->Nat}{C:Nat->Array Value}{f:Nat->Nat->Value}{u:Value}{b cap:Nat}{cs:Array Value}(J:AX w w' L D)(hR:RowsD D N k β κ C f)
    (hq:L[q]? = some (some (b,cs))) (hs:SlAt 1 u (some (b,cs)) k b cap cs (fun i=>.slice (some ⟨β i,0,none⟩) N (κ i))) (hge:∀ i,i<k->w.heap.size<=β i) (hi:∀ i j,i<k->j<k->β i=β j->i=j):TabOut w w' N k f u:=by
  refine ⟨(b,cs)::(List.range k).map (fun i=>(β i,C i)),β,κ,C,b,cap,cs,fun x ds hx=>?_,⟨fun i hi=>?_,hR.sl⟩,hs,List.mem_cons_self ..,hi,fun i hi e=>(J.froz _ _ (hR.mem i hi)).2 q b cs hq e.symm⟩
  . rcases List.mem_cons.1 hx with e | hx
    . simp only [Prod.mk.injEq] at e;obtain ⟨rfl,rfl⟩:=e;exact ⟨J.ge q hq,J.row q hq⟩
    . obtain ⟨i,hi,e⟩:=List.mem_map.1 hx
      simp only [Prod.mk.injEq] at e;obtain ⟨rfl,rfl⟩:=e;have hi:i<k:=by simpa using hi
      exact ⟨hge i hi,J.fzm (hR.mem i hi)⟩
  . exact List.mem_cons_of_mem _ (List.mem_map.2 ⟨i,by simpa using hi,rfl⟩)
theorem MemX.addTab {X:List Nat}{w0 w w':World}{L:Own}{D:Au}{N m:Nat}{f:Nat->Nat->Value}{u:Value}(k:Nat)(h:MemX X w0 w L D)(hx:Ext w w')(hf:TabOut w w' N m f u) :
    ∃ (D':Au) (β κ:Nat->Nat) (C:Nat->Array Value) (b cap:Nat) (cs:Array Value),RowsD D' N m β κ C f/\SlAt 1 u (some (b,cs)) m b cap cs (fun i=>.slice (some ⟨β i,0,none⟩) N (κ i))/\(∀ i j,i<m->j<m->β i=β j->i=j)/\(∀ i,i<m->w0.heap.size<=β i)/\(∀ i,i<m->∀ x∈D,x.1≠β i)/\MemX X w0 w' (L.set k (some (b,cs))) (D'++D):=by
  obtain ⟨D1,β,κ,C,b,cap,cs,h1,h2,h3,h4,h5,h6⟩:=hf;refine ⟨(List.range m).map (fun i=>(β i,C i)),β,κ,C,b,cap,cs,⟨fun i hi=>List.mem_map.2 ⟨i,by simpa using hi,rfl⟩,h2.sl⟩,h3,h5,fun i hi=>Nat.le_trans h.bel.size (h1 _ _ (h2.mem i hi)).1,fun i hi x hx e=>?_,?_⟩
  . have:=(h.froz x.1 x.2 hx).1.lt
    have:=(h1 _ _ (h2.mem i hi)).1
    omega
  . have hb:=h1 _ _ h4
    refine (h.fill hx k hb.2 hb.1).addD' fun c ds hm=>?_;obtain ⟨i,hi,e⟩:=List.mem_map.1 hm;simp only [Prod.mk.injEq] at e;obtain ⟨rfl,rfl⟩:=e;have hi:i<m:=by simpa using hi
    have hr:=h1 _ _ (h2.mem i hi);refine ⟨hr.2,fun j c ds hj=>?_⟩;rw [List.getElem?_set] at hj
    split at hj
    . split at hj
      . simp only [Option.some.injEq,Prod.mk.injEq] at hj;obtain ⟨rfl,rfl⟩:=hj;exact fun e=>h6 i hi e.symm
      . cases hj
    . have:=(h.blk j c ds hj).2.lt
      have:=hr.1
      omega
def Dk (D:Au) (b:Nat):Au:=D.filter (fun x=>decide (x.1≠b))
theorem mem_offD {D:Au}{b:Nat}{x:Nat×Array Value}:x∈Dk D b↔x∈D/\x.1≠b:=by
  unfold Dk;rw [List.mem_filter];simp
theorem MemX.thaw {X:List Nat}{w0 w:World}{L:Own}{D:Au}(k:Nat)(h:MemX X w0 w L D){b:Nat}{cs:Array Value}(hm:(b,cs)∈D)(hb:w0.heap.size<=b):MemX X w0 w (L.set k (some (b,cs))) (Dk D b):=by
  have hb1:=h.froz b cs hm;have key:∀ (j:Nat) c ds,(L.set k (some (b,cs)))[j]? = some (some (c,ds))->(j=k/\c=b/\ds=cs)\/(j≠k/\L[j]? = some (some (c,ds))):=by
    intro j c ds hj;rw [List.getElem?_set] at hj
    split at hj
    . split at hj
      . simp only [Option.some.injEq,Prod.mk.injEq] at hj;rename_i e _;exact .inl ⟨e.symm,hj.1.symm,hj.2.symm⟩
      . cases hj
    . rename_i e;exact .inr ⟨fun e2=>e e2.symm,hj⟩
  refine ⟨h.bel,fun j c ds hj=>?_,fun i j c es ds hi hj=>?_,fun c ds hc=>⟨(h.froz c ds (mem_offD.1 hc).1).1,fun j e es hj=>?_⟩⟩
  . rcases key j c ds hj with ⟨_,rfl,rfl⟩ | ⟨_,hj⟩
    . exact ⟨.inl hb,hb1.1⟩
    . exact h.blk j c ds hj
  . rcases key i c es hi with ⟨e1,e2,_⟩ | ⟨n1,hi⟩<;>rcases key j c ds hj with ⟨e3,e4,_⟩ | ⟨n2,hj⟩
    . omega
    . exact absurd e2 (hb1.2 j c ds hj)
    . exact absurd e4 (hb1.2 i c es hi)
    . exact h.apart i j c es ds hi hj
  . rcases key j e es hj with ⟨_,rfl,_⟩ | ⟨_,hj⟩
    . exact fun e=>(mem_offD.1 hc).2 e.symm
    . exact (h.froz c ds (mem_offD.1 hc).1).2 j e es hj
structure RowsC (D:Au) (m:Nat) (β:Nat->Nat) (R:Nat->Array Value):Prop where
  mem:∀ i,i<m->(β i,R i)∈D
  inj:∀ i j,i<m->j<m->β i=β j->i=j
namespace RowsC
variable {D D' : Au} {m : Nat} {β : Nat -> Nat} {R : Nat -> Array Value}
theorem none:RowsC D 0 β R:=⟨fun i hi=>absurd hi (by omega),fun i j hi=>absurd hi (by omega)⟩
theorem more (h:RowsC D m β R)(hs:∀ x∈D,x∈D'):RowsC D' m β R:=⟨fun i hi=>hs _ (h.mem i hi),h.inj⟩
theorem congr {R':Nat->Array Value}(h:RowsC D m β R)(e:∀ i,i<m->R i=R' i):RowsC D m β R':=⟨fun i hi=>by rw [← e i hi];exact h.mem i hi,h.inj⟩
theorem setRow (h:RowsC D m β R){i:Nat}(hi:i<m)(cs:Array Value):RowsC (Cg D (β i) cs) m β (upE R i cs):=
  ⟨fun j hj=>by
    rw [mem_updD]
    by_cases e:j=i
    . subst e;exact .inl ⟨rfl,if_pos rfl,_,h.mem j hj⟩
    . simp only [upE,if_neg e];exact .inr ⟨fun e2=>e (h.inj _ _ hj hi e2),h.mem j hj⟩,h.inj⟩
theorem snoc (h:RowsC D m β R){b:Nat}{cs:Array Value}(hm:(b,cs)∈D)(hn:∀ i,i<m->b≠β i):RowsC D (m+1) (up β m b) (upE R m cs):=by
  refine ⟨fun i hi=>?_,fun i j hi hj e=>?_⟩
  . by_cases e:i=m
    . subst e;simp only [CD,upE,if_true];exact hm
    . simp only [CC e,upE,if_neg e];exact h.mem i (by omega)
  . unfold up at e
    by_cases e1:i=m<;>by_cases e2:j=m
    . omega
    . rw [if_pos e1,if_neg e2] at e;exact absurd e (hn j (by omega))
    . rw [if_neg e1,if_pos e2] at e;exact absurd e.symm (hn i (by omega))
    . rw [if_neg e1,if_neg e2] at e;exact h.inj i j (by omega) (by omega) e
end RowsC
theorem N7 {m b:Nat}{β:Nat->Nat}(h:∀ i j,i<m->j<m->β i=β j->i=j)(hn:∀ i,i<m->b≠β i):∀ i j,i<m+1->j<m+1->up β m b i=up β m b j->i=j:=fun i j hi hj e=>by
  unfold up at e
  by_cases e1:i=m<;>by_cases e2:j=m
  . omega
  . rw [if_pos e1,if_neg e2] at e;exact absurd e (hn j (by omega))
  . rw [if_neg e1,if_pos e2] at e;exact absurd e.symm (hn i (by omega))
  . rw [if_neg e1,if_neg e2] at e;exact h i j (by omega) (by omega) e
def CZ (n:Nat) (f:Nat->Nat):Array Value:=Al n (fun c=>.int .i64 (f c:Int))
theorem NI {n b:Nat}{f:Nat->Nat}(hn:n<=100):SlAt 1 (.slice (some ⟨b,0,Option.none⟩) n n) (some (b,CZ n f)) n b n (CZ n f) (fun c=>.int .i64 (f c:Int)):=
  ⟨rfl,rfl,Nat.le_refl _,by unfold maxLen;omega,by unfold CZ;rw [BJ];omega,fun i hi=>by unfold CZ;exact Bx (by omega)⟩
theorem Jl {n i x:Nat}{f g:Nat->Nat}{o:Nat}(ho:o=i)(hi:i<n)(hg:∀ c,c<n->g c=if c=i then x else f c):(CZ n f).setIfInBounds o (.int .i64 (x:Int))=CZ n g:=by
  subst ho
  unfold CZ
  exact Bc fun c hc=>by rw [hg c hc];by_cases e:c=o<;>simp [e]
theorem Sl.snocC {u:Value}{e:Option (Nat×Array Value)}{n N b:Nat}{β:Nat->Nat}(h:Sl 1 u e (n+1) (fun i=>if i<n*1 then (fun i=>.slice (some ⟨β i,0,Option.none⟩) N N) i else (fun _=>.slice (some ⟨b,0,Option.none⟩) N N) (i - n*1))) :
    Sl 1 u e (n+1) (fun i=>.slice (some ⟨up β n b i,0,Option.none⟩) N N):=
  h.congr fun i hi=>by
    by_cases e:i<n
    . rw [if_pos (by omega)];simp only [CC (show i≠n by omega)]
    . rw [if_neg (by omega)];simp only [show i=n by omega,CD]
theorem RowsC.rowsD {D:Au}{m N:Nat}{β:Nat->Nat}{M:Nat->Nat->Nat}(h:RowsC D m β (fun i=>CZ N (M i)))(hN:N<=100):RowsD D N m β (fun _=>N) (fun i=>CZ N (M i)) (fun i c=>.int .i64 (M i c:Int)):=
  ⟨h.mem,fun _ _=>NI hN⟩
theorem Cx {n:Nat}{f g:Nat->Nat}(h:∀ c,c<n->f c=g c):CZ n f=CZ n g:=Az fun c hc=>by rw [h c hc]
theorem SlAt.vec0 {u:Value}{e:Option (Nat×Array Value)}{N b cap:Nat}{cs:Array Value}{V:Nat->Nat->Nat}(h:SlAt 6 u e N b cap cs (fun c=>.int .u8 (V (c / 6) (c%6):Int)))(i:Nat)(hi:i<N):cs.extract (0+i*6) (0+i*6+6)=AF (V i):=by
  rw [Nat.zero_add];exact h.vec i hi
theorem SlAt.room {u:Value}{e:Option (Nat×Array Value)}{N b cap:Nat}{cs:Array Value}{f:Nat->Value}(h:SlAt 6 u e N b cap cs f)(i:Nat)(hi:i<N):0+i*6+6<=cs.size:=by
  have:=h.sz;have:=h.le;omega
end Go.Sw
namespace Go.Sw
open Go Go.RowKit
def QB (Z k t:Nat) (xs:Nat->Value):Array Value:=Al Z (fun c=>if c<t then .int .u8 (((k+c:Nat)):Int) else xs c)
section
variable {Z k t : Nat} {xs : Nat -> Value}
theorem Ot:(QB Z k t xs).size=Z:=BJ _ _
end
end Go.Sw
