import Derived.Test.YtkcneleabbjkaaaSw9
import Derived.Test.YtkcneleabbjkaaaSw21
import Derived.ReadAgain
import Derived.ChangeSlices
import Derived.Recover
set_option linter.unusedVariables false
set_option linter.unusedSimpArgs false
namespace Go.Sw
open Go Go.RowKit Go.ChangeShapes Go.WideShapes Go.ChangeAt
def QT (m:Nat) (g:Nat->Int):Array Value:=Al m (fun c=>.int .i64 (g c))
section
variable {m q : Nat} {f g : Nat -> Int}
end
def RM (w:World) (sl:Value) (m:Nat) (g:Nat->Int):Prop:=
  (∃ x c,sl = .slice x m c)/\(0<m->∃ b o c,sl = .slice (some ⟨b,o,none⟩) m c/\∀ i,i<m->w.cell? ⟨b,o+i*1,none⟩=some (.int .i64 (g i)))
section
variable {P : Program} {n : Nat} {F : List (Nat × Value)} {a : Act} {w : World} {d : Option Tmp} {t : TypeId} {pos : String} {af : Array Edge} {gd : Option (Nat × Bool)} {x : Operand}
theorem KK {T:TypeId}{b o:Nat}{v:Value}(hT:FI P T=true)(O:Fr n a F)(hx:look F x=some (ptr b o))(hc:w.cell? ⟨b,o,none⟩=some v):BX P ⟨d,.load T x,t,pos,af,gd⟩ a w v:=by
  have h1:=(CZ hT w).1;exact Ah (by simp [execOp,Instr.loadAt,Instr.sureAddr,O.eval hx,loadVar,h1,hc])
end
section
variable {H : Type} {enc : TypeId × Value -> H} {P : Program} {w w' : World}
theorem Fx:∀ {ts:List TypeId} {vs:List Value} {ds:List (DataW H)} {ps:List MemPlace} {base:Nat} {spare:Nat->Bool} {held:Bool},
    DataW.TrodAll enc P w base spare held ts vs ds ps->(∀ p∈ps,w.sameAt w' p)->DataW.TrodAll enc P w' base spare held ts vs ds ps
  | [],[],[],_,_,_,_,h,_=>h
  | _ :: _, _ :: _, _ :: _, _, _, _, _, ⟨p, q, ⟨fuel, h1⟩, h2, e⟩, hs =>
    ⟨p,q,⟨fuel,DataW.trod_carry fuel _ _ _ h1 (fun y hy=>hs y (by rw [e];exact List.mem_append_left _ hy))⟩,Fx h2 (fun y hy=>hs y (by rw [e];exact List.mem_append_right _ hy)),e⟩
theorem Ls (hx:Ext w w'){p:MemPlace}(hp:p.block<w.heap.size):w.sameAt w' p:=by
  have h:=hx.block p.block hp
  cases p with
  | cell b off =>
    show w'.cell? ⟨b,off,none⟩=w.cell? ⟨b,off,none⟩
    simp only [MemPlace.block] at h
    unfold World.cell?
    simp only [h]
  | map b=>exact h
theorem args_again (hl:laidOutB P=true)(hm:mapsRowed P=true)(hz:((List.range P.types.size).all fun t=>match P.underlying t with | some (.slice e)=>decide (0<P.cellsOf e) | _=>true)=true)
    {ts:List TypeId} {vs:List Value} {ds:List (DataW H)} {ps:List MemPlace} (hT:∀ t∈ts,t<P.types.size) (hx:Ext w w') (hO:∀ p∈ps,p.block<w.heap.size)
    (h:DataW.TrodAll enc P w 0 (fun _=>true) true ts vs ds ps) (sp:Nat->Bool) (hZ:∀ p∈ps,sp p.block=true):DataW.TrodAll enc P w' 0 sp true ts vs ds ps:=
  Fx (DataW.TrodAll.respare (kids_rows hl hm) (fun t e ht hu=>slices_full_of P hz t e ht hu) hT h hZ) (fun p hp=>Ls hx (hO p hp))
variable {base : Nat} {spare : Nat -> Bool} {held : Bool}
def Q9 (fs:Array Field) (ti ts:TypeId):Bool:=(List.range 5).all fun i=>match fs[i]? with
  | some f=>Nat.beq f.offset i && Nat.beq f.type (if i<4 then ti else ts)
  | none=>false
end
section
variable {P : Program} {X : List Nat} {w0 w : World} {L : Own} {D : A4} {n : Nat} {F : List (Nat × Value)} {a : Act} {d : Option Tmp} {T : TypeId} {t : TypeId} {pos : String} {af : Array Edge} {gd : Option (Nat × Bool)} {x y : Operand}
end
abbrev Qp (w w':World) (p n i o:Int) (m:Nat) (g:Nat->Int) (v:Value):Prop:=
  ∃ b,v = .agg (Pm p n i o (.slice (some ⟨b,0,none⟩) m m))/\w.heap.size<=b/\Blk w' b (QT m g)
open Go Go.RowKit
inductive FactE where
  | val (v:Value)
  | frz (c:Array Value) (mk:Nat->Value)
  | own (mk:Nat->Value)
def Qz (kt:Nat) (l:List FactE):Facts (Own×A4):=fun i g u _=>match l[i]? with
  | some (.val v)=>u=v
  | some (.frz c mk)=>∃ b,(b,c)∈g.2/\u=mk b
  | some (.own mk)=>∃ b cs,u=mk b/\g.1[kt]? = some (some (b,cs))
  | none=>True
def Re (c:Option (Array Value)) (b:Nat) (E:A4):Prop:=match c with
  | none=>True
  | some c=>(b,c)∈E
def Ro (X:List Nat) (w0:World) (D:A4) (L0:Own) (kt:Nat) (csO:Array Value) (c3:Option (Array Value)) (csN:Nat->Array Value) (bb:Bool) (g:Own×A4) (w:World):Prop:=
  (MemX X w0 w g.1 (g.2++D)/\Same [kt] L0 g.1)/\∀ b cs,g.1[kt]? = some (some (b,cs))->(bb=false->cs=csO)/\(bb=true->∃ x,Re c3 x g.2/\cs=csN x)
section
variable {P : Program} {X : List Nat} {w0 w : World} {D : A4} {L0 : Own} {g : Own × A4} {kt : Nat} {csO : Array Value} {c3 : Option (Array Value)} {csN : Nat -> Array Value} {bb : Bool} {l : List FactE} {i : Nat} {o : Oper} {a : Act}
def MW:List FactE->Nat->Nat->Bool
  | [],_,_=>true
  | .own _::r,i,s=>Nat.beq s i && MW r i (s+1)
  | _::r,i,s=>MW r i (s+1)
end
theorem HB {v:Nat->Nat}(q:Nat)(hq:q<1*6):(BE 1 (Aw [v]))[0+q]? = some (.int .u8 (v q:Int)):=by
  unfold BE
  rw [CF (by omega),show (0+q) / 6=0 by omega,show (0+q)%6=q by omega]
  rfl
theorem Sl.snoc6 {u:Value}{e:Option (Nat×Array Value)}{N:Nat}{F G:Nat->Value}(h:Sl 6 u e (N+1) (fun i=>if i<N*6 then F i else G (i - N*6)))(hG:∀ q,q<6->G q=F (N*6+q)):Sl 6 u e (N+1) F:=
  h.congr fun i hi=>by
    by_cases h1:i<N*6
    . rw [if_pos h1]
    . rw [if_neg h1,hG _ (by omega),show N*6+(i - N*6)=i by omega]
theorem SlAt.vec {u:Value}{e:Option (Nat×Array Value)}{N b cap:Nat}{cs:Array Value}{V:Nat->Nat->Nat}(h:SlAt 6 u e N b cap cs (fun c=>.int .u8 (V (c / 6) (c%6):Int)))(i:Nat)(hi:i<N):cs.extract (i*6) (i*6+6)=AG (V i):=
  CW rfl (by rw [h.sz];have:=h.le;omega) fun q hq=>by
    rw [h.get _ (by omega),show (i*6+q) / 6=i by omega,show (i*6+q)%6=q by omega]
def rowP (N K:Nat) (f:Nat->Nat) (x:Nat->Value):Array Value:=Al K (fun c=>if c<N then .int .u8 (f c:Int) else x c)
section
variable {N K o : Nat} {f g : Nat -> Nat} {x : Nat -> Value}
theorem JT:(rowP N K f x).size=K:=Bf _ _
theorem EJ (i:Nat)(h:o=i)(hi:i<N)(hK:N<=K):(rowP N K f x)[o]? = some (.int .u8 (f i:Int)):=by
  subst h
  unfold rowP
  rw [CF (by omega),if_pos hi]
theorem Lv (h:∀ c,c<N->f c=g c):rowP N K f x=rowP N K g x:=A5 fun c _=>by
  by_cases hc:c<N
  . rw [if_pos hc,if_pos hc,h c hc]
  . rw [if_neg hc,if_neg hc]
theorem SlAt.rowP {v:Value}{b cap:Nat}{cs:Array Value}(h:SlAt 1 v (some (b,cs)) N b cap cs (fun c=>.int .u8 (f c:Int))):cs=rowP N cap f (fun c=>cs[c]?.getD undef):=
  Gt (by rw [h.sz,Nat.mul_one]) fun i hi=>by
    by_cases e:i<N
    . rw [if_pos e];exact h.get i (by omega)
    . rw [if_neg e]
      have:i<cs.size:=by rw [h.sz];omega
      simp [this]
end
structure RowsLP (L:Own) (N m:Nat) (κ:Nat->Nat) (Xs:Nat->Nat->Value) (γ pos:Nat->Nat) (M:Nat->Nat->Nat):Prop where
  at_:∀ i,i<m->L[pos i]? = some (some (γ i,rowP N (κ (γ i)) (M i) (Xs (γ i))))
  inj:∀ i j,i<m->j<m->pos i=pos j->i=j
  ne0:∀ i,i<m->pos i≠0
namespace RowsLP
variable {L : Own} {N m : Nat} {κ : Nat -> Nat} {Xs : Nat -> Nat -> Value} {γ pos : Nat -> Nat} {M : Nat -> Nat -> Nat}
theorem set0 (h:RowsLP L N m κ Xs γ pos M)(x:Option (Nat×Array Value)):RowsLP (L.set 0 x) N m κ Xs γ pos M:=
  ⟨fun i hi=>by rw [List.getElem?_set,if_neg (fun e=>h.ne0 i hi e.symm)];exact h.at_ i hi,h.inj,h.ne0⟩
theorem setRow (h:RowsLP L N m κ Xs γ pos M){i:Nat}(hi:i<m)(r:Nat->Nat){cs:Array Value}(hc:cs=rowP N (κ (γ i)) r (Xs (γ i))):RowsLP (L.set (pos i) (some (γ i,cs))) N m κ Xs γ pos (Go.Ech.upE M i r):=
  ⟨fun j hj=>by
    rw [List.getElem?_set]
    by_cases e:j=i
    . subst e
      have hl:=(List.getElem?_eq_some_iff.1 (h.at_ j hj)).1
      rw [if_pos rfl,if_pos hl,hc];simp only [Go.Ech.upE,if_true]
    . rw [if_neg (fun e2=>e (h.inj _ _ hj hi e2.symm))];simp only [Go.Ech.upE,if_neg e];exact h.at_ j hj,h.inj,h.ne0⟩
theorem swap (h:RowsLP L N m κ Xs γ pos M){a b:Nat}(ha:a<m)(hb:b<m):RowsLP L N m κ Xs (Go.Ech.sw a b γ) (Go.Ech.sw a b pos) (Go.Ech.sw a b M):=by
  refine ⟨fun i hi=>?_,fun i j hi hj e=>?_,fun i hi=>?_⟩
  . unfold Go.Ech.sw;split
    . exact h.at_ b hb
    . split
      . exact h.at_ a ha
      . exact h.at_ i hi
  . unfold Go.Ech.sw at e
    by_cases e1:i=a<;>by_cases e2:i=b<;>by_cases e3:j=a<;>by_cases e4:j=b<;>simp only [e1,e2,e3,e4,if_true,if_false] at e<;>first | omega | (have:=h.inj _ _ hb ha e;omega) | (have:=h.inj _ _ ha hb e;omega) | (split at e<;>first | (have:=h.inj _ _ hb (by omega) e;omega) | (have:=h.inj _ _ ha (by omega) e;omega) | (have:=h.inj _ _ (by omega) (by omega) e;omega)) | (have:=h.inj _ _ (by omega) (by omega) e;omega)
  . unfold Go.Ech.sw;split
    . exact h.ne0 b hb
    . split
      . exact h.ne0 a ha
      . exact h.ne0 i hi
theorem congr {M':Nat->Nat->Nat}(h:RowsLP L N m κ Xs γ pos M)(e:∀ i,i<m->M i=M' i):RowsLP L N m κ Xs γ pos M':=
  ⟨fun i hi=>by rw [← e i hi];exact h.at_ i hi,h.inj,h.ne0⟩
theorem apart {X:List Nat}{w0 w:World}{D:A4}(h:RowsLP L N m κ Xs γ pos M)(J:MemX X w0 w L D){i j:Nat}(hi:i<m)(hj:j<m)(hH:i≠j):γ i≠γ j:=fun e=>by
  have h1:=h.at_ i hi
  have h2:=h.at_ j hj
  rw [e] at h1
  exact hH (h.inj i j hi hj (J.apart _ _ _ _ _ h1 h2))
end RowsLP
def Gb (b0:Nat) (cs0:Array Value) (N m:Nat) (κ:Nat->Nat) (Xs:Nat->Nat->Value) (γ:Nat->Nat) (M:Nat->Nat->Nat):Own:=some (b0,cs0)::(List.range m).map (fun i=>some (γ i,rowP N (κ (γ i)) (M i) (Xs (γ i))))
theorem MemX.startRowsP {w:World}{b0:Nat}{cs0:Array Value}{N m:Nat}{κ:Nat->Nat}{Xs:Nat->Nat->Value}{γ:Nat->Nat}{M:Nat->Nat->Nat}(h0:Blk w b0 cs0)(hr:∀ i,i<m->Blk w (γ i) (rowP N (κ (γ i)) (M i) (Xs (γ i))))(hi:∀ i j,i<m->j<m->γ i=γ j->i=j)(hH:∀ i,i<m->γ i≠b0) :
    MemX (BF b0 m γ) w w (Gb b0 cs0 N m κ Xs γ M) []/\RowsLP (Gb b0 cs0 N m κ Xs γ M) N m κ Xs γ (fun i=>i+1) M/\(Gb b0 cs0 N m κ Xs γ M)[0]? = some (some (b0,cs0)):=by
  refine ⟨⟨ExtX.refl _ w,fun k b cs hk=>?_,fun k j b cs ds hk hj=>?_,fun b cs hm=>by cases hm⟩,⟨fun i hi=>?_,fun i j _ _ e=>by omega,fun i _=>by omega⟩,rfl⟩
  . rcases DC hk with ⟨_,e⟩ | ⟨i,hi,_,e⟩
    . simp at e;obtain ⟨rfl,rfl⟩:=e;exact ⟨.inr (List.mem_cons_self ..),h0⟩
    . simp at e;obtain ⟨rfl,rfl⟩:=e;exact ⟨.inr (List.mem_cons_of_mem _ (List.mem_map.2 ⟨i,by simpa using hi,rfl⟩)),hr i hi⟩
  . rcases DC hk with ⟨e1,e⟩ | ⟨i,hi',e1,e⟩<;>rcases DC hj with ⟨e2,f⟩ | ⟨i2,hJ,e2,f⟩<;>simp at e f
    . omega
    . exact absurd (f.1.symm.trans e.1) (hH i2 hJ)
    . exact absurd (e.1.symm.trans f.1) (hH i hi')
    . have:=hi i i2 hi' hJ (e.1.symm.trans f.1);omega
  . show (some (b0,cs0)::(List.range m).map _:Own)[i+1]? = _
    rw [List.getElem?_cons_succ,List.getElem?_map,List.getElem?_range hi];rfl
theorem MemX.updRowP {X:List Nat}{w0 w w':World}{L:Own}{D:A4}{N m:Nat}{κ:Nat->Nat}{Xs:Nat->Nat->Value}{γ pos:Nat->Nat}{M:Nat->Nat->Nat}(h:MemX X w0 w L D)(hR:RowsLP L N m κ Xs γ pos M){i:Nat}(hi:i<m)(hx:ExtX [γ i] w w')(r:Nat->Nat)(hb:Blk w' (γ i) (rowP N (κ (γ i)) r (Xs (γ i)))) :
    ∃ L',MemX X w0 w' L' D/\RowsLP L' N m κ Xs γ pos (Go.Ech.upE M i r)/\L'[0]? = L[0]?:=
  ⟨_,h.upd (pos i) (hR.at_ i hi) hx hb,hR.setRow hi r rfl,by rw [List.getElem?_set,if_neg (hR.ne0 i hi)]⟩
end Go.Sw
namespace Go.Sw
open Go Go.RowKit Go.ChangeShapes Go.WideShapes Go.ChangeAt
def RL (w:World) (sl:Value) (m:Nat) (V:Nat->Nat->Nat):Prop:=
  (∃ x c,sl = .slice x m c)/\(0<m->∃ b o c,sl = .slice (some ⟨b,o,none⟩) m c/\∀ i,i<m->∀ j,j<6->w.cell? ⟨b,o+i*6+j,none⟩=some (.int .u8 (V i j:Int)))
section
variable {P : Program} {n : Nat} {F : List (Nat × Value)} {a : Act} {w : World} {d : Option Tmp} {t : TypeId} {pos : String} {af : Array Edge} {gd : Option (Nat × Bool)} {x : Operand}
end
section
variable {H : Type} {enc : TypeId × Value -> H} {P : Program} {w w' : World} {base : Nat} {spare : Nat -> Bool} {held : Bool}
end
section
variable {H : Type} {enc : TypeId × Value -> H} {P : Program} {w : World} {base : Nat} {spare : Nat -> Bool} {held : Bool}
end
section
variable {P : Program} {X : List Nat} {w0 w : World} {L : Own} {D : A4} {n : Nat} {F : List (Nat × Value)} {a : Act} {d : Option Tmp} {T : TypeId} {t : TypeId} {pos : String} {af : Array Edge} {gd : Option (Nat × Bool)} {x y : Operand}
end
def Qu (n:Int) (M:Nat->Nat->Nat):Array Value:=Al 37 fun c=>if c=0 then .int .i64 n else .int .u8 (M ((c - 1) / 6) ((c - 1)%6))
section
variable {n q : Int} {M N : Nat -> Nat -> Nat}
theorem QI:(Qu n M).size=37:=Bf _ _
end
def RD:List IntKind:=.i64::List.replicate 36 .u8
section
variable {H : Type} {enc : TypeId × Value -> H} {P : Program} {w : World} {base : Nat} {spare : Nat -> Bool} {held : Bool} {t : TypeId} {v : Value} {d : DataW H} {p : List MemPlace}
end
open Go Go.RowKit
variable {P : Program}
def addD (ds:List Deferred) (a:Act):Act:=⟨a.tmps,a.defers++ds⟩
section
variable {ds : List Deferred} {ops : Array Oper} {Q : Exit -> Act -> World -> Prop} {n : Nat} {F : List (Nat × Value)} {a : Act} {w : World}
end
end Go.Sw
namespace Go.Sw
open Go Go.RowKit
variable {P : Program}
section
variable {ops : Array Oper} {Q : Exit -> Act -> World -> Prop} {rest : List Oper} {n : Nat} {F : List (Nat × Value)} {a : Act} {w : World} {d : Option Tmp} {t : TypeId} {pos : String} {af : Array Edge} {gd : Option (Nat × Bool)}
def okA (tm:Array Value):List (Nat×Value)->Prop
  | []=>True
  | (t,v)::r=>tm.getD t undef=v/\okA tm r
def R7 (P:Program) (f b:Nat) (u:FrameMode) (w:World) (c:Value):Prop:=
  CallsD P f #[ptr b 0] u w fun e u' w'=>(∃ v,e = .returned v)/\settle u' = .returning/\ExtX [b] w w'/\Blk w' b #[c]
end
end Go.Sw
namespace Go.Sw
open Go Go.RowKit
theorem Ij {n:Nat}{a:Act}{F:List (Nat×Value)}{x0 x1 x2 x3:Operand}{v0 v1 v2 v3:Value}(O:Fr n a F)(h0:look F x0=some v0)(h1:look F x1=some v1)(h2:look F x2=some v2)(h3:look F x3=some v3):(#[(0,x0),(1,x1),(2,x2),(3,x3)]:Array (Nat×Operand)).toList.map (fun p=>(p.1,a.eval p.2))=[(0,v0),(1,v1),(2,v2),(3,v3)]:=by simp [O.eval h0,O.eval h1,O.eval h2,O.eval h3]
def l4 (a b c d:Nat) (i:Nat):Nat:=match i with
  | 0=>a
  | 1=>b
  | 2=>c
  | _=>d
theorem Cr {p n:Int}{T:Nat->Nat->Nat->Nat}{f:Nat->Nat}{o v:Nat}(a b c:Nat)(h:o=2+a*36+b*6+c)(ha:a<6)(hb:b<6)(hc:c<6):(AB p n T f).setIfInBounds o (.int .u8 (v:Int))=AB p n (fun i j k=>if i=a/\j=b/\k=c then v else T i j k) f:=by
  subst h;refine FD (by rw [Array.size_setIfInBounds,AE]) ?_ ?_ ?_ ?_
  . rw [Array.getElem?_setIfInBounds_ne (by omega)];exact BM rfl
  . rw [Array.getElem?_setIfInBounds_ne (by omega)];exact Aq rfl
  . intro i j k hi hj hk
    by_cases e:i=a/\j=b/\k=c
    . obtain ⟨rfl,rfl,rfl⟩:=e
      rw [Array.getElem?_setIfInBounds_self_of_lt (by rw [AE];omega),if_pos ⟨rfl,rfl,rfl⟩]
    . rw [Array.getElem?_setIfInBounds_ne (by omega),if_neg e];exact C7 i j k rfl hi hj hk
  . intro i hi;rw [Array.getElem?_setIfInBounds_ne (by omega)];exact DH i rfl hi
theorem Dm {p n:Int}{T:Nat->Nat->Nat->Nat}{f:Nat->Nat}{o v:Nat}(a:Nat)(h:o=218+a)(ha:a<6):(AB p n T f).setIfInBounds o (.int .u8 (v:Int))=AB p n T (fun i=>if i=a then v else f i):=by
  subst h;refine FD (by rw [Array.size_setIfInBounds,AE]) ?_ ?_ ?_ ?_
  . rw [Array.getElem?_setIfInBounds_ne (by omega)];exact BM rfl
  . rw [Array.getElem?_setIfInBounds_ne (by omega)];exact Aq rfl
  . intro i j k hi hj hk;rw [Array.getElem?_setIfInBounds_ne (by omega)];exact C7 i j k rfl hi hj hk
  . intro i hi
    by_cases e:i=a
    . subst e
      rw [Array.getElem?_setIfInBounds_self_of_lt (by rw [AE];omega),if_pos rfl]
    . rw [Array.getElem?_setIfInBounds_ne (by omega),if_neg e];exact DH i rfl hi
section
variable {P : Program} {n : Nat} {F : List (Nat × Value)} {a : Act} {w : World} {d : Option Tmp} {t : TypeId} {pos : String} {af : Array Edge} {gd : Option (Nat × Bool)}
end
end Go.Sw
