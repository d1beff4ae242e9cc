import Derived.Test.YtgioobkkkicfeaaSw24
import Derived.Laws.CopyRow
import Derived.Test.YtgioobkkkicfeaaSw9
import Derived.Test.YtgioobkkkicfeaaSw21
import Derived.ReadAgain
import Derived.ChangeSlices
import Derived.Recover
set_option linter.unusedVariables false
set_option linter.unusedSimpArgs false
namespace Go.Sw
open Go Go.RowKit
section
variable {P : Program} {n : Nat} {a : Act} {w0 w : World} {X : List Nat} {F : List (Nat × Value)} {L : Own} {D : Al} {d : Option Tmp} {T : TypeId} {x y : Operand} {t : TypeId} {pos : String} {af : Array Edge} {gd : Option (Nat × Bool)}
theorem PI {x0 x1 x2:Operand}{v0 v1 v2:Value}(O:Fr n a F)(h0:look F x0=some v0)(h1:look F x1=some v1)(h2:look F x2=some v2):(#[(0,x0),(1,x1),(3,x2)]:Array (Nat×Operand)).toList.map (fun p=>(p.1,a.eval p.2))=[(0,v0),(1,v1),(3,v2)]:=by simp [O.eval h0,O.eval h1,O.eval h2]
theorem Eg {parts:Array (Nat×Operand)}{vs:List (Nat×Value)}{z:Value}(_hF:Fr n a F)(hp:parts.toList.map (fun p=>(p.1,a.eval p.2))=vs)(hrun:∀ w,(Instr.build T vs.toArray).run P w = .ok z w):BN P ⟨d,.build T parts,t,pos,af,gd⟩ a w z:=by
  refine Ab ?_;have e1:(parts.map fun (i,x)=>(i,a.eval x))=vs.toArray:=by rw [← hp];apply Array.toList_inj.1;simp
  simp only [execOp,e1,Sem.run_bind,hrun,Result.andThen_ok,Sem.run_pure]
end
def Qh (p n i o:Int) (sl:Value):Array Value:=#[.int .i64 p,.int .i64 n,.int .i64 i,.int .i64 o,sl]
def TI (p:Int) (sl:Value):Array Value:=#[.int .i64 p,sl]
def Qo (m:Nat) (f:Nat->Nat):Array Value:=BH m (fun c=>.int .i64 (f c:Int))
section
variable {p n i o : Int} {sl : Value} {q m : Nat} {f g : Nat -> Nat}
end
abbrev SA (w w':World) (p n i o:Int) (m:Nat) (f:Nat->Nat) (v:Value):Prop:=
  ∃ b,v = .agg (Qh p n i o (.slice (some ⟨b,0,none⟩) m m))/\w.heap.size<=b/\Blk w' b (Qo m f)
abbrev Rm (w w':World) (p n i o:Int) (m:Nat) (f:Nat->Nat) (v:Value):Prop:=
  ∃ b,v = .tuple #[.agg (Qh p n i o (.slice (some ⟨b,0,none⟩) m m)),.int .i64 0]/\w.heap.size<=b/\Blk w' b (Qo m f)
def Sm (n:Nat):Nat->Nat->Nat
  | 0,q=>q
  | k+1,q=>if q<=1296 then Sm n k (q*n) else q
def wl (n i o:Nat):Prop:=i<=8/\o<=8/\n ^ (i+o)<=1296
instance (n i o:Nat):Decidable (wl n i o):=by unfold wl;infer_instance
section
variable {P : Program} {n : Nat} {F : List (Nat × Value)} {a : Act} {w : World} {d : Option Tmp} {t : TypeId} {pos : String} {af : Array Edge} {gd : Option (Nat × Bool)} {T : TypeId} {x y z u : Operand}
end
open Go Go.RowKit Go.ChangeShapes Go.WideShapes Go.ChangeAt
def Qn (m:Nat) (g:Nat->Int):Array Value:=BH m (fun c=>.int .i64 (g c))
section
variable {m q : Nat} {f g : Nat -> Int}
theorem Ea:(Qn m f).size=m:=BZ _ _
end
def ArgSl (w:World) (sl:Value) (m:Nat) (g:Nat->Int):Prop:=
  (∃ x c,sl = .slice x m c)/\(0<m->∃ b o c,sl = .slice (some ⟨b,o,none⟩) m c/\∀ i,i<m->w.cell? ⟨b,o+i*1,none⟩=some (.int .i64 (g i)))
theorem Bm {w w':World}{b o:Nat}{v:Value}(h:w.cell? ⟨b,o,none⟩=some v)(hx:Ext w w'):w'.cell? ⟨b,o,none⟩=some v:=by
  have hb:b<w.heap.size:=by
    by_cases hb:b<w.heap.size
    . exact hb
    . have hn:w.heap[b]? = none:=by simp;omega
      unfold World.cell? at h
      simp only [hn] at h
      cases h
  unfold World.cell? at h ⊢
  simp only [hx.block b hb];exact h
theorem ArgSl.ext {w w':World}{sl:Value}{m:Nat}{g:Nat->Int}(h:ArgSl w sl m g)(hx:Ext w w'):ArgSl w' sl m g:=
  ⟨h.1,fun hm=>by obtain ⟨b,o,c,h1,h3⟩:=h.2 hm;exact ⟨b,o,c,h1,fun i hi=>Bm (h3 i hi) hx⟩⟩
theorem ArgSl.one {w:World}{sl:Value}{m:Nat}{g:Nat->Int}(h:ArgSl w sl m g):sl.oneCell'=true:=by
  obtain ⟨⟨x,c,rfl⟩,_⟩:=h;rfl
theorem ArgSl.congr {w:World}{sl:Value}{m:Nat}{g g':Nat->Int}(h:ArgSl w sl m g)(e:∀ i,i<m->g i=g' i):ArgSl w sl m g':=
  ⟨h.1,fun hm=>by obtain ⟨b,o,c,h1,h3⟩:=h.2 hm;exact ⟨b,o,c,h1,fun i hi=>by rw [← e i hi];exact h3 i hi⟩⟩
section
variable {P : Program} {n : Nat} {F : List (Nat × Value)} {a : Act} {w : World} {d : Option Tmp} {t : TypeId} {pos : String} {af : Array Edge} {gd : Option (Nat × Bool)} {x : Operand}
theorem A5 {T:TypeId}{b o:Nat}{v:Value}(hT:ED P T=true)(O:Fr n a F)(hx:look F x=some (ptr b o))(hc:w.cell? ⟨b,o,none⟩=some v):BN P ⟨d,.load T x,t,pos,af,gd⟩ a w v:=by
  have h1:=(B1 hT w).1;exact Ab (by simp [execOp,Instr.loadAt,Instr.sureAddr,O.eval hx,loadVar,h1,hc])
end
section
variable {H : Type} {enc : TypeId × Value -> H} {P : Program} {w w' : World}
theorem Fk:∀ {ts:List TypeId} {vs:List Value} {ds:List (DataW H)} {ps:List MemPlace} {base:Nat} {spare:Nat->Bool} {held:Bool},
    DataW.TrodAll enc P w base spare held ts vs ds ps->(∀ p∈ps,w.sameAt w' p)->DataW.TrodAll enc P w' base spare held ts vs ds ps
  | [],[],[],_,_,_,_,h,_=>h
  | _ :: _, _ :: _, _ :: _, _, _, _, _, ⟨p, q, ⟨fuel, h1⟩, h2, e⟩, hs =>
    ⟨p,q,⟨fuel,DataW.trod_carry fuel _ _ _ h1 (fun y hy=>hs y (by rw [e];exact List.mem_append_left _ hy))⟩,Fk h2 (fun y hy=>hs y (by rw [e];exact List.mem_append_right _ hy)),e⟩
theorem Lb (hx:Ext w w'){p:MemPlace}(hp:p.block<w.heap.size):w.sameAt w' p:=by
  have h:=hx.block p.block hp
  cases p with
  | cell b off =>
    show w'.cell? ⟨b,off,none⟩=w.cell? ⟨b,off,none⟩
    simp only [MemPlace.block] at h
    unfold World.cell?
    simp only [h]
  | map b=>exact h
theorem args_again (hl:laidOutB P=true)(hm:mapsRowed P=true)(hz:((List.range P.types.size).all fun t=>match P.underlying t with | some (.slice e)=>decide (0<P.cellsOf e) | _=>true)=true)
    {ts:List TypeId} {vs:List Value} {ds:List (DataW H)} {ps:List MemPlace} (hT:∀ t∈ts,t<P.types.size) (hx:Ext w w') (hlt:∀ p∈ps,p.block<w.heap.size)
    (h:DataW.TrodAll enc P w 0 (fun _=>true) true ts vs ds ps) (sp:Nat->Bool) (hsp:∀ p∈ps,sp p.block=true):DataW.TrodAll enc P w' 0 sp true ts vs ds ps:=
  Fk (DataW.TrodAll.respare (kids_rows hl hm) (fun t e ht hu=>slices_full_of P hz t e ht hu) hT h hsp) (fun p hp=>Lb hx (hlt p hp))
variable {base : Nat} {spare : Nat -> Bool} {held : Bool}
def SI (fs:Array Field) (ti ts:TypeId):Bool:=(List.range 5).all fun i=>match fs[i]? with
  | some f=>Nat.beq f.offset i && Nat.beq f.type (if i<4 then ti else ts)
  | none=>false
end
section
variable {P : Program} {X : List Nat} {w0 w : World} {L : Own} {D : Al} {n : Nat} {F : List (Nat × Value)} {a : Act} {d : Option Tmp} {T : TypeId} {t : TypeId} {pos : String} {af : Array Edge} {gd : Option (Nat × Bool)} {x y : Operand}
theorem PA {len by':Nat}{e:TypeId}{z:Value}(k:Nat)(J:MemX X w0 w L D)(O:Fr n a F)(hT:OF P T=some (e,some z,1,by'))(hz:z.cells = #[z])(hx:look F x=some (.int .i64 (len:Int)))(hy:look F y=some (.int .i64 (len:Int)))(hl:len<10000000)(hb:by'<1000) :
    Does P ⟨d,.makeSlice T x y,t,pos,af,gd⟩ a w (fun u w'=>∃ b,u = .slice (some ⟨b,0,none⟩) len len/\MemX X w0 w' (L.set k (some (b,BH len (fun _=>z)))) D/\Ext w w'):=
  ⟨fun K Q hk=>by
    have:=hk _ (w.alloc (.cells (BH len (fun _=>z)) e)) ⟨w.heap.size,rfl,J.fill (Ext.alloc _ _) k (Blk.new _ _ _) (Nat.le_refl _),Ext.alloc _ _⟩
    unfold OF at hT
    cases hu:P.underlying T with
    | none=>simp [hu] at hT
    | some dd =>
      cases dd<;>simp [hu] at hT
      rename_i el
      obtain ⟨inf,hinf,rfl,hz0,hsz,hby⟩:=hT
      have hmul:inf.bytes*len<=1000*10000000:=Nat.mul_le_mul (by omega) (by omega)
      have hmul2:(inf.bytes:Int)*(len:Int)<=281474976710656:=by
        have:((inf.bytes*len:Nat):Int)<=281474976710656:=by omega
        rwa [Int.natCast_mul] at this
      have hrun:=run_make (P:=P) w T el inf z hu hinf hz0 .i64 .i64 (len:Int) (len:Int) (by omega) (Int.le_refl _) hmul2 (by omega);have ec:madeCells z.cells (len*inf.size)=BH len (fun _=>z):=by
        rw [hsz,hz,Nat.mul_one]
        apply Ev (size_madeCells _ _)
        intro i hi
        unfold madeCells
        rw [Array.getElem?_map,Array.getElem?_range,if_pos hi]
        simp [Nat.mod_one]
      simp only [Int.toNat_natCast,ec] at hrun
      unfold Oper.wp execOp
      simp only [O.eval hx,O.eval hy,Sem.run_bind,hrun,Result.andThen_ok,Sem.run_pure];exact this⟩
end
abbrev Rl (w w':World) (p n i o:Int) (m:Nat) (g:Nat->Int) (v:Value):Prop:=
  ∃ b,v = .agg (Qh p n i o (.slice (some ⟨b,0,none⟩) m m))/\w.heap.size<=b/\Blk w' b (Qn m g)
def ArgVs (w:World) (sl:Value) (m:Nat) (V:Nat->Nat->Nat):Prop:=
  (∃ x c,sl = .slice x m c)/\(0<m->∃ b o c,sl = .slice (some ⟨b,o,none⟩) m c/\∀ i,i<m->∀ j,j<6->w.cell? ⟨b,o+i*6+j,none⟩=some (.int .u8 (V i j:Int)))
theorem ArgVs.one {w:World}{sl:Value}{m:Nat}{V:Nat->Nat->Nat}(h:ArgVs w sl m V):sl.oneCell'=true:=by
  obtain ⟨⟨x,c,rfl⟩,_⟩:=h;rfl
section
variable {P : Program} {n : Nat} {F : List (Nat × Value)} {a : Act} {w : World} {d : Option Tmp} {t : TypeId} {pos : String} {af : Array Edge} {gd : Option (Nat × Bool)} {x : Operand}
end
section
variable {H : Type} {enc : TypeId × Value -> H} {P : Program} {w w' : World} {base : Nat} {spare : Nat -> Bool} {held : Bool}
end
section
variable {H : Type} {enc : TypeId × Value -> H} {P : Program} {w : World} {base : Nat} {spare : Nat -> Bool} {held : Bool}
end
section
variable {P : Program} {X : List Nat} {w0 w : World} {L : Own} {D : Al} {n : Nat} {F : List (Nat × Value)} {a : Act} {d : Option Tmp} {T : TypeId} {t : TypeId} {pos : String} {af : Array Edge} {gd : Option (Nat × Bool)} {x y : Operand}
end
def AB (n:Int) (M:Nat->Nat->Nat):Array Value:=BH 37 fun c=>if c=0 then .int .i64 n else .int .u8 (M ((c - 1) / 6) ((c - 1)%6))
section
variable {n q : Int} {M N : Nat -> Nat -> Nat}
theorem AA:(AB n M).size=37:=BZ _ _
theorem Au {o:Nat}(h:o=0):(AB n M)[o]? = some (.int .i64 n):=by subst h;exact B3 (by omega)
theorem BU {o:Nat}(i j:Nat)(h:o=1+i*6+j)(hi:i<6)(hj:j<6):(AB n M)[o]? = some (.int .u8 (M i j:Int)):=by
  subst h
  unfold AB
  rw [B3 (by omega),if_neg (by omega),show (1+i*6+j - 1) / 6=i by omega,show (1+i*6+j - 1)%6=j by omega]
theorem IR {o e:Nat}(h:o=1)(he:e=o+36):(AB n M).extract o e=Cv M:=by
  subst h;exact C0 he (by rw [AA];omega) fun c hc=>BU (c / 6) (c%6) (by omega) (by omega) (by omega)
theorem A9:∀ u∈(AB n M).toList,u.oneCell'=true:=Dj fun i _=>by split<;>rfl
theorem Me {c:Array Value}(hs:c.size=37)(h0:c[0]? = some (.int .i64 n))(hT:∀ i j,i<6->j<6->c[1+i*6+j]? = some (.int .u8 (M i j:Int))):c=AB n M:=by
  apply Array.ext_getElem?
  intro i
  by_cases hi:i<37
  . by_cases e0:i=0
    . subst e0;rw [h0,Au rfl]
    . have e:i=1+((i - 1) / 6)*6+(i - 1)%6:=by omega
      rw [e,hT _ _ (by omega) (by omega),BU _ _ rfl (by omega) (by omega)]
  . rw [Array.getElem?_eq_none (by omega),Array.getElem?_eq_none (by rw [AA];omega)]
theorem Dy {o:Nat}(h:o=0):(AB n M).setIfInBounds o (.int .i64 q)=AB q M:=by
  subst h;refine Me (by rw [Array.size_setIfInBounds,AA]) ?_ ?_
  . rw [Array.getElem?_setIfInBounds_self_of_lt (by rw [AA];omega)]
  . intro i j hi hj;rw [Array.getElem?_setIfInBounds_ne (by omega)];exact BU i j rfl hi hj
theorem Cd (h:∀ i j,i<6->j<6->M i j=N i j):AB n M=AB n N:=BL fun c hc=>by rw [h _ _ (by omega) (by omega)]
end
def SO:List IntKind:=.i64::List.replicate 36 .u8
section
variable {H : Type} {enc : TypeId × Value -> H} {P : Program} {w : World} {base : Nat} {spare : Nat -> Bool} {held : Bool} {t : TypeId} {v : Value} {d : DataW H} {p : List MemPlace}
end
variable {P : Program}
def addD (ds:List Deferred) (a:Act):Act:=⟨a.tmps,a.defers++ds⟩
section
variable {ds : List Deferred} {ops : Array Oper} {Q : Exit -> Act -> World -> Prop} {n : Nat} {F : List (Nat × Value)} {a : Act} {w : World}
end
end Go.Sw
namespace Go.Sw
open Go Go.RowKit
variable {P : Program}
section
variable {n : Nat} {F : List (Nat × Value)} {a : Act} {w : World} {d : Option Tmp} {t : TypeId} {pos : String} {af : Array Edge} {gd : Option (Nat × Bool)} {T : TypeId} {x y : Operand}
end
end Go.Sw
namespace Go.Sw
open Go Go.RowKit
variable {P : Program}
section
variable {ops : Array Oper} {Q : Exit -> Act -> World -> Prop} {rest : List Oper} {n : Nat} {F : List (Nat × Value)} {a : Act} {w : World} {d : Option Tmp} {t : TypeId} {pos : String} {af : Array Edge} {gd : Option (Nat × Bool)}
def okA (tm:Array Value):List (Nat×Value)->Prop
  | []=>True
  | (t,v)::r=>tm.getD t undef=v/\okA tm r
def TZ (P:Program) (f b:Nat) (u:FrameMode) (w:World) (c:Value):Prop:=
  CallsD P f #[ptr b 0] u w fun e u' w'=>(∃ v,e = .returned v)/\settle u' = .returning/\ExtX [b] w w'/\Blk w' b #[c]
end
end Go.Sw
namespace Go.Sw
open Go Go.RowKit
theorem J7 {n:Nat}{a:Act}{F:List (Nat×Value)}{x0 x1 x2 x3:Operand}{v0 v1 v2 v3:Value}(O:Fr n a F)(h0:look F x0=some v0)(h1:look F x1=some v1)(h2:look F x2=some v2)(h3:look F x3=some v3):(#[(0,x0),(1,x1),(2,x2),(3,x3)]:Array (Nat×Operand)).toList.map (fun p=>(p.1,a.eval p.2))=[(0,v0),(1,v1),(2,v2),(3,v3)]:=by simp [O.eval h0,O.eval h1,O.eval h2,O.eval h3]
def l4 (a b c d:Nat) (i:Nat):Nat:=match i with
  | 0=>a
  | 1=>b
  | 2=>c
  | _=>d
theorem Ob {a b c:Nat}:∀ i,i<3->(#[.int .i64 (a:Int),.int .i64 (b:Int),.int .i64 (c:Int)]:Array Value)[0+i*1]? = some (.int .i64 ((l4 a b c 0 i:Nat):Int)):=fun i hi=>by
  obtain rfl | rfl | rfl:i=0\/i=1\/i=2:=by omega
  . rfl
  . rfl
  . rfl
theorem G7 {p n:Int}{T:Nat->Nat->Nat->Nat}{f:Nat->Nat}{o v:Nat}(a b c:Nat)(h:o=2+a*36+b*6+c)(ha:a<6)(hb:b<6)(hc:c<6):(AY p n T f).setIfInBounds o (.int .u8 (v:Int))=AY p n (fun i j k=>if i=a/\j=b/\k=c then v else T i j k) f:=by
  subst h;refine KB (by rw [Array.size_setIfInBounds,Aq]) ?_ ?_ ?_ ?_
  . rw [Array.getElem?_setIfInBounds_ne (by omega)];exact DV rfl
  . rw [Array.getElem?_setIfInBounds_ne (by omega)];exact Bn rfl
  . intro i j k hi hj hk
    by_cases e:i=a/\j=b/\k=c
    . obtain ⟨rfl,rfl,rfl⟩:=e
      rw [Array.getElem?_setIfInBounds_self_of_lt (by rw [Aq];omega),if_pos ⟨rfl,rfl,rfl⟩]
    . rw [Array.getElem?_setIfInBounds_ne (by omega),if_neg e];exact FU i j k rfl hi hj hk
  . intro i hi;rw [Array.getElem?_setIfInBounds_ne (by omega)];exact G9 i rfl hi
theorem Nk {p n:Int}{T:Nat->Nat->Nat->Nat}{f:Nat->Nat}{o v:Nat}(a:Nat)(h:o=218+a)(ha:a<6):(AY p n T f).setIfInBounds o (.int .u8 (v:Int))=AY p n T (fun i=>if i=a then v else f i):=by
  subst h;refine KB (by rw [Array.size_setIfInBounds,Aq]) ?_ ?_ ?_ ?_
  . rw [Array.getElem?_setIfInBounds_ne (by omega)];exact DV rfl
  . rw [Array.getElem?_setIfInBounds_ne (by omega)];exact Bn rfl
  . intro i j k hi hj hk;rw [Array.getElem?_setIfInBounds_ne (by omega)];exact FU i j k rfl hi hj hk
  . intro i hi
    by_cases e:i=a
    . subst e
      rw [Array.getElem?_setIfInBounds_self_of_lt (by rw [Aq];omega),if_pos rfl]
    . rw [Array.getElem?_setIfInBounds_ne (by omega),if_neg e];exact G9 i rfl hi
section
variable {P : Program} {n : Nat} {F : List (Nat × Value)} {a : Act} {w : World} {d : Option Tmp} {t : TypeId} {pos : String} {af : Array Edge} {gd : Option (Nat × Bool)}
theorem K0 {fn:Fn}{x:Operand}{v:Value}(O:Fr n a F)(hx:look F x=some v):BN P ⟨d,.makeFunc fn #[x] #[],t,pos,af,gd⟩ a w (.func fn #[v] #[]):=
  Ab (by simp [execOp,Instr.makeFunc,O.eval hx])
theorem PB {f:FuncId}{x:Operand}{bnd:List Value}{xs:List Operand}{vs:List Value}{ats:Array TypeId}{R:Value->World->Prop}(hf:∀ args w,(callFunc f args).run P w = .ok (.enter f args) w)(O:Fr n a F)(hfx:look F x=some (.func (.func f) bnd.toArray #[]))(hx:looks F xs vs)(hc:CallsR P f (bnd++vs).toArray w R) :
    Does P ⟨d,.call { callee:=.value x,args:=xs.toArray,argTypes:=ats },t,pos,af,gd⟩ a w (fun u w'=>Ext w w'/\R u w'):=
  ⟨fun K Q hk=>by
    have hrun:(execOp a.eval ⟨d,.call { callee:=.value x,args:=xs.toArray,argTypes:=ats },t,pos,af,gd⟩).run P w = .ok (.enter f (bnd++vs).toArray) w:=by
      have e:(xs.toArray.map a.eval)=vs.toArray:=by rw [← O.evals hx];simp
      simp [execOp,resolve,O.eval hfx,Deferred.ofValue,invoke,e,hf]
    unfold Oper.wp
    rw [hrun]
    show Calls P f (bnd++vs).toArray w _
    exact Calls.mono (show Calls P f (bnd++vs).toArray w _ from hc) fun e w' ⟨v,he,h1,h2⟩=>by subst he;exact hk v w' ⟨h1,h2⟩⟩
end
open Go Go.RowKit Go.ChangeShapes Go.WideShapes Go.ChangeAt
structure ArgSS (w:World) (sl:Value) (m:Nat) (L:Nat->Nat) (R:Nat->Nat->Int) (xs:Nat->Option Addr) (ca be ob:Nat->Nat):Prop where
  out:∃ x c,sl = .slice x m c
  cell:0<m->∃ b o c,sl = .slice (some ⟨b,o,none⟩) m c/\∀ i,i<m->w.cell? ⟨b,o+i*1,none⟩=some (.slice (xs i) (L i) (ca i))
  adr:∀ i,i<m->0<L i->xs i=some ⟨be i,ob i,none⟩
  num:∀ i,i<m->∀ j,j<L i->w.cell? ⟨be i,ob i+j*1,none⟩=some (.int .i64 (R i j))
namespace ArgSS
variable {w w' : World} {sl : Value} {m : Nat} {L : Nat -> Nat} {R : Nat -> Nat -> Int} {xs : Nat -> Option Addr} {ca be ob : Nat -> Nat}
theorem ext (h:ArgSS w sl m L R xs ca be ob)(hx:Ext w w'):ArgSS w' sl m L R xs ca be ob:=
  ⟨h.out,fun hm=>by obtain ⟨b,o,c,h1,h2⟩:=h.cell hm;exact ⟨b,o,c,h1,fun i hi=>Bm (h2 i hi) hx⟩,h.adr,fun i hi j hj=>Bm (h.num i hi j hj) hx⟩
theorem one (h:ArgSS w sl m L R xs ca be ob):sl.oneCell'=true:=by
  obtain ⟨x,c,rfl⟩:=h.out;rfl
theorem row (h:ArgSS w sl m L R xs ca be ob){i:Nat}(hi:i<m):ArgSl w (.slice (xs i) (L i) (ca i)) (L i) (R i):=
  ⟨⟨_,_,rfl⟩,fun hl=>⟨be i,ob i,ca i,by rw [h.adr i hi hl],h.num i hi⟩⟩
theorem congr {R':Nat->Nat->Int}(h:ArgSS w sl m L R xs ca be ob)(e:∀ i,i<m->∀ j,j<L i->R i j=R' i j):ArgSS w sl m L R' xs ca be ob:=
  ⟨h.out,h.cell,h.adr,fun i hi j hj=>by rw [← e i hi j hj];exact h.num i hi j hj⟩
end ArgSS
section
variable {H : Type} {enc : TypeId × Value -> H} {P : Program} {w : World} {base : Nat} {spare : Nat -> Bool} {held : Bool}
end
def RG (m:Nat) (L:Nat->Nat) (β:Nat->Nat):Array Value:=BH m fun i=>.slice (some ⟨β i,0,none⟩) (L i) (L i)
structure SSD (D:Al) (u:Value) (m:Nat) (L:Nat->Nat) (R:Nat->Nat->Int) (b:Nat) (β:Nat->Nat):Prop where
  val:u = .slice (some ⟨b,0,none⟩) m m
  out:(b,RG m L β)∈D
  row:∀ i,i<m->(β i,Qn (L i) (R i))∈D
  inj:∀ i j,i<m->j<m->β i=β j->i=j
  ne:∀ i,i<m->β i≠b
theorem SSD.more {D D':Al}{u:Value}{m b:Nat}{L β:Nat->Nat}{R:Nat->Nat->Int}(h:SSD D u m L R b β)(hs:∀ x,x∈D->x∈D'):SSD D' u m L R b β:=⟨h.val,hs _ h.out,fun i hi=>hs _ (h.row i hi),h.inj,h.ne⟩
def SW (w w':World) (m:Nat) (L:Nat->Nat) (R:Nat->Nat->Int) (u:Value):Prop:=∃ (D:Al) (b:Nat) (β:Nat->Nat),(∀ x ds,(x,ds)∈D->w.heap.size<=x/\Blk w' x ds)/\SSD D u m L R b β
theorem Blk.cellAt {w:World}{b i:Nat}{cs:Array Value}{v:Value}(h:Blk w b cs)(hv:cs[i]? = some v):w.cell? ⟨b,i,none⟩=some v:=(h.cell i).trans hv
end Go.Sw
namespace Go.Sw
open Go Go.RowKit
def cnt (S:Nat->Bool):Nat->Nat
  | 0=>0
  | i+1=>cnt S i+if S i=true then 1 else 0
theorem Cf {S:Nat->Bool}{i:Nat}(h:S i=true):cnt S (i+1)=cnt S i+1:=by simp only [cnt];rw [if_pos h]
theorem C6 {S:Nat->Bool}{i:Nat}(h:¬ S i=true):cnt S (i+1)=cnt S i:=by simp only [cnt];rw [if_neg h];rfl
theorem cnt_le {S:Nat->Bool}:∀ i,cnt S i<=i
  | 0=>Nat.le_refl _
  | i+1=>by have:=cnt_le (S:=S) i;simp only [cnt];split<;>omega
theorem cnt_mono {S:Nat->Bool}{i:Nat}:∀ {j:Nat},i<=j->cnt S i<=cnt S j
  | 0,h=>by rw [show i=0 by omega];exact Nat.le_refl _
  | j + 1, h => by
    by_cases e:i=j+1
    . rw [e];exact Nat.le_refl _
    . exact Nat.le_trans (cnt_mono (S:=S) (j:=j) (by omega)) (Nat.le_add_right _ _)
theorem cnt_lt {S:Nat->Bool}{i j:Nat}(hi:S i=true)(h:i<j):cnt S i<cnt S j:=by
  have h1:=Cf hi;have h2:=cnt_mono (S:=S) (show i+1<=j by omega)
  omega
theorem QC {S:Nat->Bool}{i j:Nat}(hi:S i=true)(hj:S j=true)(h:cnt S i=cnt S j):i=j:=by
  rcases Nat.lt_trichotomy i j with e | e | e
  . have:=cnt_lt hi e;omega
  . exact e
  . have:=cnt_lt hj e;omega
theorem IX {S:Nat->Bool}:∀ {n k:Nat},k<cnt S n->∃ j,j<n/\S j=true/\cnt S j=k
  | 0,k,h=>absurd h (by simp [cnt])
  | n + 1, k, h => by
    by_cases e:S n=true
    . rw [Cf e] at h
      by_cases e2:k=cnt S n
      . exact ⟨n,by omega,e,e2.symm⟩
      . obtain ⟨j,h1,h2⟩:=IX (S:=S) (n:=n) (k:=k) (by omega)
        exact ⟨j,by omega,h2⟩
    . rw [C6 e] at h
      obtain ⟨j,h1,h2⟩:=IX (S:=S) (n:=n) (k:=k) h
      exact ⟨j,by omega,h2⟩
def asc (S:Nat->Bool):Nat->Nat->Nat
  | 0,_=>0
  | n+1,k=>if S n=true/\cnt S n=k then n else asc S n k
theorem EU {S:Nat->Bool}{j:Nat}(h:S j=true):∀ {n:Nat},j<n->asc S n (cnt S j)=j
  | 0,hj=>absurd hj (by omega)
  | n + 1, hj => by
    simp only [asc]
    by_cases e:S n=true/\cnt S n=cnt S j
    . rw [if_pos e];exact QC e.1 h e.2
    . rw [if_neg e]
      refine EU h ?_
      by_cases e2:j=n
      . subst e2;exact absurd ⟨h,rfl⟩ e
      . omega
theorem Dg {S:Nat->Bool}{n k:Nat}(h:k<cnt S n):asc S n k<n/\S (asc S n k)=true/\cnt S (asc S n k)=k:=by
  obtain ⟨j,h1,h2,h3⟩:=IX h;have e:=EU h2 h1;rw [h3] at e;rw [e];exact ⟨h1,h2,h3⟩
theorem MF {S:Nat->Bool}{n m:Nat}{g:Nat->Nat}(hg:∀ i,i+1<m->g i<g (i+1))(hS:∀ x,x<n->(S x=true↔∃ i,i<m/\g i=x))(hn:∀ i,i<m->g i<n):cnt S n=m/\∀ i,i<m->g i=asc S n i:=by
  have mono:∀ d i,i+d<m->0<d->g i<g (i+d):=by
    intro d
    induction d with
    | zero=>intro i _ h;omega
    | succ d ih =>
      intro i h _;have h1:=hg (i+d) (by omega)
      by_cases e:d=0
      . subst e;exact h1
      . exact Nat.lt_trans (ih i (by omega) (by omega)) h1
  have key:∀ k,k<m->cnt S (g k)=k:=by
    intro k
    induction k with
    | zero =>
      intro h0;have e:∀ j,j<=g 0->cnt S j=0:=by
        intro j
        induction j with
        | zero=>intro _;rfl
        | succ j ih =>
          intro hj;rw [C6,ih (by omega)];intro hs;obtain ⟨i,hi,he⟩:=(hS j (by have:=hn 0 h0;omega)).1 hs
          by_cases e0:i=0
          . subst e0;omega
          . have:=mono i 0 (by omega) (by omega);rw [Nat.zero_add] at this;omega
      exact e _ (Nat.le_refl _)
    | succ k ih =>
      intro hk;have h1:=ih (by omega);have h2:=hg k hk;have hs:S (g k)=true:=(hS _ (hn k (by omega))).2 ⟨k,by omega,rfl⟩;have e:∀ d,g k+1+d<=g (k+1)->cnt S (g k+1+d)=k+1:=by
        intro d
        induction d with
        | zero=>intro _;rw [Nat.add_zero,Cf hs,h1]
        | succ d ih2 =>
          intro hd;rw [← Nat.add_assoc,C6,ih2 (by omega)];intro hq;obtain ⟨i,hi,he⟩:=(hS _ (by have:=hn (k+1) hk;omega)).1 hq
          by_cases e0:i<=k
          . by_cases e1:i=k
            . subst e1;omega
            . have:=mono (k - i) i (by omega) (by omega);rw [show i+(k - i)=k by omega] at this;omega
          . by_cases e1:i=k+1
            . subst e1;omega
            . have:=mono (i - (k+1)) (k+1) (by omega) (by omega);rw [show k+1+(i - (k+1))=i by omega] at this;omega
      have:=e (g (k+1) - (g k+1)) (by omega)
      rwa [show g k+1+(g (k+1) - (g k+1))=g (k+1) by omega] at this
  have hSg:∀ i,i<m->S (g i)=true:=fun i hi=>(hS _ (hn i hi)).2 ⟨i,hi,rfl⟩;refine ⟨?_,fun i hi=>?_⟩
  . by_cases h0:m=0
    . subst h0
      have e:∀ j,j<=n->cnt S j=0:=by
        intro j
        induction j with
        | zero=>intro _;rfl
        | succ j ih =>
          intro hj;rw [C6,ih (by omega)];intro hs;obtain ⟨i,hi,_⟩:=(hS j (by omega)).1 hs
          omega
      exact e n (Nat.le_refl _)
    . have h1:=key (m - 1) (by omega)
      have h2:=cnt_lt (hSg (m - 1) (by omega)) (hn (m - 1) (by omega))
      by_cases h3:cnt S n<=m
      . omega
      . obtain ⟨j,hj,hs,hc⟩:=IX (S:=S) (n:=n) (k:=m) (by omega)
        obtain ⟨i,hi,he⟩:=(hS j hj).1 hs;have:=key i hi;rw [he] at this;omega
  . have:=EU (hSg i hi) (hn i hi)
    rw [key i hi] at this;exact this.symm
variable {P : Program}
section
variable {ops : List Oper} {Q : Exit -> Act -> World -> Prop} {n : Nat} {F : List (Nat × Value)} {G : Type} {S : G -> World -> Prop}
def GQ (n:Nat) (F:List (Nat×Value)):List Oper->List Nat->Bool
  | [],_=>true
  | o :: r, seen => (match o.dst with
    | some d=>Nat.blt d n && (lk F d).isNone && !(CS d seen) && GQ n F r (d::seen)
    | none=>false)
theorem Ex:∀ {l:List Oper} {seen:List Nat},GQ n F l seen=true->∀ (i:Nat) (o:Oper),l[i]? = some o->∃ d,o.dst=some d/\d<n/\lk F d=none/\d ∉ seen/\(∀ (j:Nat) (o':Oper),j<i->l[j]? = some o'->o'.dst≠some d)
  | [],_,_,i,o,h=>by simp at h
  | x :: r, seen, hb, i, o, h => by
    simp only [GQ] at hb
    cases hx:x.dst with
    | none=>simp [hx] at hb
    | some d =>
      simp only [hx,Bool.and_eq_true,Bool.not_eq_true',Option.isNone_iff_eq_none] at hb
      obtain ⟨⟨⟨h1,h2⟩,h3⟩,h4⟩:=hb
      cases i with
      | zero =>
        simp at h;subst h
        exact ⟨d,hx,Nat.blt_eq.mp h1,h2,(fun hm=>by rw [memNat_iff.2 hm] at h3;cases h3),(fun j o' hj=>by omega)⟩
      | succ i =>
        obtain ⟨d',g1,g2,g3,g4,g5⟩:=Ex h4 i o (by simpa using h)
        refine ⟨d',g1,g2,g3,fun hm=>g4 (List.mem_cons_of_mem _ hm),fun j o' hj ho'=>?_⟩
        cases j with
        | zero=>simp at ho';subst ho';rw [hx];intro e;obtain rfl:=Option.some.inj e;exact g4 (List.mem_cons_self ..)
        | succ j=>exact g5 j o' (by omega) (by simpa using ho')
def StepsQ {G:Type} (P:Program) (ops:List Oper) (k n:Nat) (F:List (Nat×Value)) (S:G->World->Prop) (φ:Facts G):List Oper->Nat->Prop
  | [],_=>True
  | o::r,i=>(∀ a w g,Fr n a F->S g w->QI ops k φ o g a w->if Region.wanted o (yielded ops.toArray a.tmps)=true then Does P o a w (After S φ i g w) else After S φ i g w undef w)/\StepsQ P ops k n F S φ r (i+1)
theorem StepsQ.get {k:Nat}{φ:Facts G}:∀ {l:List Oper} {i:Nat},StepsQ P ops k n F S φ l i->∀ (j:Nat) (o:Oper),l[j]? = some o->
    ∀ a w g,Fr n a F->S g w->QI ops k φ o g a w->if Region.wanted o (yielded ops.toArray a.tmps)=true then Does P o a w (After S φ (i+j) g w) else After S φ (i+j) g w undef w
  | [],_,_,j,o,h=>by simp at h
  | x :: r, i, hs, j, o, h => by
    cases j with
    | zero=>simp at h;subst h;exact hs.1
    | succ j=>have:=hs.2.get j o (by simpa using h);rwa [show i+1+j=i+(j+1) by omega] at this
theorem QH {id k:Nat}{a:Act}{w:World}(hm:P.follows .mixedOrders=true)(hk:Gk ops k=true)(O:Fr n a F)(hdst:GQ n F (ops.take k) []=true)(g:G)(hS:S g w)
    (hdr:∀ w,S g w->S g w.drew) (φ:Facts G)
    (hO:StepsQ P ops k n F S φ (ops.take k) 0)
    (hend:∀ a w g,Fr n a F->S g w->(∀ i,i<k->i<ops.length->φ i g (a.tmps.getD (Bh ops i) undef) w)->wpList P ops.toArray Q (ops.drop k) a w) :
    (Code.region id ops.toArray true).wp P Q a w:=by
  refine wp_region_any hm ?_;simp only [Gk,Bool.and_eq_true] at hk;obtain ⟨hback,htail⟩:=hk;have hge:∀ (i:Nat),ops.toArray[i]? = ops[i]?:=fun i=>by simp
  have hreach:∀ i j,k<=i->i<ops.length->j<i->Reach ops i j:=fun i j h1 h2 h3=>
    EE ops [] (fun i=>by simp) (fun m j h=>by simp at h) i j (DA htail i h1 h2 (by omega) j h3)
  have edge_listed:∀ {i:Nat} {o:Oper} {listed:Array Bool} {j:Nat},i∈Region.ready .any ops.toArray listed->ops[i]? = some o->Bz o j=true->listed.getD j false=true:=by
    intro i o listed j hi ho he;obtain ⟨_,o',ho',hall⟩:=mem_ready.1 hi;rw [hge,ho] at ho';obtain rfl:=Option.some.inj ho';simp only [Bz,List.any_eq_true,Bool.and_eq_true] at he;obtain ⟨e,hm',hb,hj⟩:=he;obtain rfl:=Nat.eq_of_beq_eq_true hj;exact hall e (by simpa using hm') hb
  have reach_listed:∀ {listed:Array Bool},(∀ (j:Nat) o,ops[j]? = some o->listed.getD j false=true->∀ e∈o.after,Region.binds .any e=true->listed.getD e.on false=true)->∀ i j,Reach ops i j->(∀ o m,ops[i]? = some o->Bz o m=true->listed.getD m false=true)->listed.getD j false=true:=by
    intro listed hcl i j hr
    induction hr with
    | one ho he=>intro h;exact h _ _ ho he
    | more ho he _ ih =>
      intro h;have hm':=h _ _ ho he;refine ih (fun o m ho2 he2=>?_);simp only [Bz,List.any_eq_true,Bool.and_eq_true] at he2;obtain ⟨e,hin,hb,hj⟩:=he2;obtain rfl:=Nat.eq_of_beq_eq_true hj;exact hcl _ o ho2 hm' e (by simpa using hin) hb
  have tail:∀ (f m:Nat) (listed:Array Bool) (a:Act) (w:World),k<=m->ops.length - m<=f->(∀ j,j<m->j<ops.length->listed.getD j false=true)->(∀ j,m<=j->j<ops.length->listed.getD j true=false)->
      wpList P ops.toArray Q (ops.drop m) a w->wpAny P .any ops.toArray Q f listed a w:=by
    intro f
    induction f with
    | zero =>
      intro m listed a w hkm hf h1 h2 h;rw [List.drop_eq_nil_of_le (by omega)] at h;refine ⟨?_,h⟩
      cases hr:Region.ready .any ops.toArray listed with
      | nil=>rfl
      | cons i r =>
        obtain ⟨g1,o,ho,_⟩:=mem_ready.1 (hr ▸ List.mem_cons_self .. : i∈Region.ready .any ops.toArray listed);rw [hge] at ho;have hi:=(List.getElem?_eq_some_iff.1 ho).1;have:=h1 i (by omega) hi
        simp [Array.getD_eq_getD_getElem?] at this g1
        cases hh:listed[i]?<;>simp [hh] at this g1
        rw [this] at g1;cases g1
    | succ f ih =>
      intro m listed a w hkm hf h1 h2 h;have only:∀ i∈Region.ready .any ops.toArray listed,i=m:=by
        intro i hi;obtain ⟨g1,o,ho,hall⟩:=mem_ready.1 hi;have ho':=ho;rw [hge] at ho';have hU:=(List.getElem?_eq_some_iff.1 ho').1
        by_cases hlt:i<m
        . have:=h1 i hlt hU
          simp [Array.getD_eq_getD_getElem?] at this g1
          cases hh:listed[i]?<;>simp [hh] at this g1
          rw [this] at g1;cases g1
        . by_cases e:i=m
          . exact e
          . have:=reach_listed (listed:=listed) (fun j o hj hl e he hbnd=>by
                have hH:=(List.getElem?_eq_some_iff.1 hj).1;have hjm:j<m:=by
                  rcases Nat.lt_or_ge j m with h | h
                  . exact h
                  . have h3:=h2 j h hH
                    simp [Array.getD_eq_getD_getElem?] at hl h3
                    cases hh:listed[j]?<;>simp [hh] at hl h3
                    rw [hl] at h3;cases h3
                have:=CM hback j o hj e he hbnd;exact h1 e.on (by omega) (by omega)) i m (hreach i m (by omega) hU (by omega)) (fun o2 q ho2 he2=>by
                rw [ho'] at ho2;obtain rfl:=Option.some.inj ho2;exact edge_listed hi ho' he2)
            have h3:=h2 m (Nat.le_refl _) (by omega)
            simp [Array.getD_eq_getD_getElem?] at this h3
            cases hh:listed[m]?<;>simp [hh] at this h3
            rw [this] at h3;cases h3
      refine ⟨fun hr=>?_,fun i hi=>?_⟩
      . by_cases hml:m<ops.length
        . exfalso
          have:m∈Region.ready .any ops.toArray listed:=by
            refine mem_ready.2 ⟨h2 m (Nat.le_refl _) hml,ops[m],by simp [hml],fun e he hbnd=>?_⟩;have:=CM hback m ops[m] (by simp [hml]) e he hbnd;exact h1 e.on (by omega) (by omega)
          rw [hr] at this;cases this
        . rw [List.drop_eq_nil_of_le (by omega)] at h;exact h
      . obtain rfl:=only i hi
        obtain ⟨g1,o,ho,_⟩:=mem_ready.1 hi;rw [hge] at ho;have hU:=(List.getElem?_eq_some_iff.1 ho).1;have hdrop:ops.drop i=o::ops.drop (i+1):=by
          rw [List.drop_eq_getElem_cons hU];congr 1;exact (List.getElem?_eq_some_iff.1 ho).2
        rw [hdrop] at h;have K:∀ a w,wpList P ops.toArray Q (ops.drop (i+1)) a w->wpAny P .any ops.toArray Q f (listed.setIfInBounds i true) a w:=by
          intro a w hh;refine ih (i+1) _ a w (by omega) (by omega) (fun j hj hH=>?_) (fun j hj hH=>?_) hh
          . by_cases e:i=j
            . subst e
              have hsz:i<listed.size:=by
                rcases Nat.lt_or_ge i listed.size with h' | h'
                . exact h'
                . simp [Array.getElem?_eq_none h'] at g1
              simp [hsz]
            . rw [getD_set_ne false e];exact h1 j (by omega) hH
          . rw [getD_set_ne true (by omega)];exact h2 j (by omega) hH
        unfold wpOp
        rw [hge,ho]
        unfold wpList at h
        show (if Region.wanted o (yielded ops.toArray a.tmps) then _ else _)
        split
        . rename_i hw
          rw [if_pos hw] at h;exact h.imp (Oper.wp_mono K) (fun x=>x)
        . rename_i hw
          rw [if_neg hw] at h;exact K _ _ h
  have head:∀ (f:Nat) (listed:Array Bool) (a:Act) (w:World) (g:G),listed.size=ops.length->(List.range ops.length).countP (fun i=>!listed.getD i true)<=f->(∀ j,k<=j->j<ops.length->listed.getD j true=false)->(∀ (j:Nat) o,ops[j]? = some o->listed.getD j false=true->∀ e∈o.after,Region.binds .any e=true->listed.getD e.on false=true)->
      Fr n a F->S g w->(∀ i,i<k->i<ops.length->listed.getD i false=true->φ i g (a.tmps.getD (Bh ops i) undef) w)->wpAny P .any ops.toArray Q f listed a w:=by
    intro f
    induction f with
    | zero =>
      intro listed a w g hsz hc h2 hcl O hS hφ';have all:∀ j,j<ops.length->listed.getD j true=true:=by
        intro j hj;have h0:(List.range ops.length).countP (fun i=>!listed.getD i true)=0:=by omega
        have:=List.countP_eq_zero.1 h0 j (by simpa using hj)
        simpa using this
      have hlen:ops.length<=k:=by
        rcases Nat.lt_or_ge k ops.length with h | h
        . have e1:=h2 k (Nat.le_refl _) h
          rw [all k h] at e1;cases e1
        . exact h
      refine tail 0 k listed a w (Nat.le_refl _) (by omega) (fun j _ hj=>?_) (fun j hj hH=>by omega) ?_
      . have:=all j hj
        have hjs:j<listed.size:=by omega
        simpa [Array.getD_eq_getD_getElem?,hjs] using this
      . refine hend a w g O hS (fun i hi hU=>hφ' i hi hU ?_)
        have:=all i hU;have hjs:i<listed.size:=by omega
        simpa [Array.getD_eq_getD_getElem?,hjs] using this
    | succ f ih =>
      intro listed a w g hsz hc h2 hcl O hS hφ'
      by_cases all:∀ j,j<k->j<ops.length->listed.getD j false=true
      . refine tail (f+1) k listed a w (Nat.le_refl _) ?_ all h2 (hend a w g O hS (fun i hi hU=>hφ' i hi hU (all i hi hU)))
        have hge':∀ (m:Nat),m<=ops.length->m - k<=(List.range m).countP (fun i=>!listed.getD i true):=by
          intro m
          induction m with
          | zero=>intro _;simp
          | succ m ihm =>
            intro hm';have:=ihm (by omega);rw [List.range_succ,List.countP_append]
            by_cases hkm:k<=m
            . have e1:=h2 m hkm (by omega)
              have e2:List.countP (fun i=>!listed.getD i true) [m]=1:=by rw [List.countP_cons,e1];rfl
              omega
            . omega
        have:=hge' ops.length (Nat.le_refl _)
        omega
      . have step:∀ i∈Region.ready .any ops.toArray listed,i<k:=by
          intro i hi
          rcases Nat.lt_or_ge i k with h | h
          . exact h
          . exfalso
            obtain ⟨g1,o,ho,_⟩:=mem_ready.1 hi;rw [hge] at ho;have hU:=(List.getElem?_eq_some_iff.1 ho).1;exact all (fun j hj hH=>reach_listed hcl i j (hreach i j h hU (by omega)) (fun o2 q ho2 he2=>by
              rw [ho] at ho2;obtain rfl:=Option.some.inj ho2;exact edge_listed hi ho he2))
        refine ⟨fun hr=>?_,fun i hi=>?_⟩
        . exfalso
          apply all
          intro j
          induction j using Nat.strongRecOn with
          | _ j ihj =>
            intro hjk hH
            cases hl:listed.getD j false with
            | true=>rfl
            | false =>
              have hjs:j<listed.size:=by omega
              have hm':j∈Region.ready .any ops.toArray listed:=by
                refine mem_ready.2 ⟨?_,ops[j],by simp [hH],fun e he hbnd=>?_⟩
                . simpa [Array.getD_eq_getD_getElem?,hjs] using hl
                . have:=CM hback j ops[j] (by simp [hH]) e he hbnd
                  exact ihj e.on (by omega) (by omega) (by omega)
              rw [hr] at hm';cases hm'
        . have hik:=step i hi
          obtain ⟨g1,o,ho,hall'⟩:=mem_ready.1 hi;rw [hge] at ho;have hU:=(List.getElem?_eq_some_iff.1 ho).1;have hti:(ops.take k)[i]? = some o:=by rw [List.getElem?_take,if_pos hik];exact ho
          obtain ⟨d,hd1,hd2,hd3,_,hd5⟩:=Ex hdst i o hti;have hdo:Bh ops i=d:=by simp [Bh,ho,hd1]
          have hdne:∀ j,j<k->j<ops.length->j≠i->Bh ops j≠d:=by
            intro j hj hH hne e;have hoj:ops[j]? = some ops[j]:=by simp [hH]
            have htj:(ops.take k)[j]? = some ops[j]:=by rw [List.getElem?_take,if_pos hj];exact hoj
            obtain ⟨d',e1,_,_,_,e5⟩:=Ex hdst j ops[j] htj;have hdj:Bh ops j=d':=by simp only [Bh,hoj,Option.bind_some,e1,Option.getD_some]
            have hdd:d'=d:=by rw [← hdj];exact e
            subst hdd
            rcases Nat.lt_or_gt_of_ne hne with h | h
            . exact hd5 j ops[j] h htj e1
            . exact e5 i o h hti hd1
          have hJ:=StepsQ.get hO i o hti a w g O hS (fun j hj he=>by
            have hj':j<k:=Nat.blt_eq.mp hj;have hl:=edge_listed hi ho he;have hH:j<ops.length:=by
              rcases Nat.lt_or_ge j listed.size with h | h
              . omega
              . simp [Array.getElem?_eq_none h] at hl
            exact hφ' j hj' hH hl)
          unfold wpOp
          rw [hge,ho]
          show (if Region.wanted o (yielded ops.toArray a.tmps) then _ else _)
          simp only [Nat.zero_add] at hJ;have cont:∀ v w',After S φ i g w v w'->wpAny P .any ops.toArray Q f (listed.setIfInBounds i true) (a.put o.dst v) w':=by
            intro v w' hv;obtain ⟨g',hS',hvi,hothers⟩:=hv;have hF':Fr n (a.put o.dst v) F:=by
              rw [hd1];have:=O.put d v (Nat.blt_eq.mpr hd2);refine ⟨this.defers,this.size,fun t u ht=>this.get t u ?_⟩;simp only [lk];have hne:¬ d=t:=fun e=>by subst e;rw [hd3] at ht;cases ht
              rw [J8 hne];exact ht
            refine ih _ _ _ g' (by simpa using hsz) ?_ (fun j hj hH=>?_) (fun j oj hoj hl e he hb=>?_) hF' hS' (fun j hj hH hl=>?_)
            . have:(List.range ops.length).countP (fun j=>!(listed.setIfInBounds i true).getD j true)<(List.range ops.length).countP (fun j=>!listed.getD j true):=by
                refine Ei (fun x hx=>?_) ⟨i,by simpa using hU,by simpa using g1,?_⟩
                . by_cases e:i=x
                  . subst e;simp only [g1];rfl
                  . rw [getD_set_ne true e] at hx;exact hx
                . have:i<listed.size:=by omega
                  simp [this]
              omega
            . rw [getD_set_ne true (by omega)];exact h2 j hj hH
            . refine getD_set_true ?_
              by_cases ej:j=i
              . subst ej
                rw [ho] at hoj;obtain rfl:=Option.some.inj hoj;exact hall' e he hb
              . rw [getD_set_ne false (Ne.symm ej)] at hl
                exact hcl j oj hoj hl e he hb
            . by_cases e:j=i
              . subst e
                rw [hd1,hdo];have:(a.put (some d) v).tmps.getD d undef=v:=by simp [Act.put,O.size,hd2]
                rw [this];exact hvi
              . rw [getD_set_ne false (Ne.symm e)] at hl
                have hold:=hothers j _ e (hφ' j hj hH hl);have hdn:=hdne j hj hH e;rw [hd1];have:(a.put (some d) v).tmps.getD (Bh ops j) undef=a.tmps.getD (Bh ops j) undef:=by
                  simp [Act.put,Array.getElem?_setIfInBounds_ne (Ne.symm hdn)]
                rw [this];exact hold
          by_cases hw:Region.wanted o (yielded ops.toArray a.tmps)=true
          . rw [if_pos hw] at hJ ⊢;exact .inl (hJ.run _ _ cont)
          . rw [if_neg hw] at hJ ⊢;exact cont _ _ hJ
  refine head ops.toArray.size (Array.replicate ops.toArray.size false) a _ g (by simp) ?_ (fun j _ hj=>by simp [hj]) (fun j o hj hl e he hbnd=>by have hH:=(List.getElem?_eq_some_iff.1 hj).1;simp [hH] at hl) O (hdr _ hS) (fun i _ hi hl=>by simp [hi] at hl)
  . have:=List.countP_le_length (l:=List.range ops.length) (p:=fun i=>!(Array.replicate ops.toArray.size false).getD i true)
    simpa using this
theorem BM {o:Oper}{a:Act}{w:World}{S:G->World->Prop}{φ:Facts G}{i:Nat}{g:G}(hg:o.guard=none)(h:Does P o a w (After S φ i g w)):if Region.wanted o (yielded ops.toArray a.tmps)=true then Does P o a w (After S φ i g w) else After S φ i g w undef w:=by
  rw [if_pos (by simp [Region.wanted,hg])];exact h
theorem Bw {o:Oper}{a:Act}{w:World}{S:G->World->Prop}{φ:Facts G}{i j dj:Nat}{b:Bool}{g:G}{F':List (Nat×Value)}(hg:o.guard=some (j,b))(O:Fr n a F')(hj:(ops.toArray[j]?).bind (·.dst)=some dj)(hjn:Nat.blt dj n=true)(hb:lk F' dj=some (.bool b))(h:Does P o a w (After S φ i g w)):if Region.wanted o (yielded ops.toArray a.tmps)=true then Does P o a w (After S φ i g w) else After S φ i g w undef w:=by
  rw [if_pos (by simp [Region.wanted,hg,Dz O hj hjn hb])];exact h
theorem Ck {o:Oper}{a:Act}{w:World}{S:G->World->Prop}{φ:Facts G}{i j dj:Nat}{b c:Bool}{g:G}{F':List (Nat×Value)}(hg:o.guard=some (j,c))(O:Fr n a F')(hj:(ops.toArray[j]?).bind (·.dst)=some dj)(hjn:Nat.blt dj n=true)(hb:lk F' dj=some (.bool b))(hbc:(b == c)=false)(h:After S φ i g w undef w):if Region.wanted o (yielded ops.toArray a.tmps)=true then Does P o a w (After S φ i g w) else After S φ i g w undef w:=by
  rw [if_neg (by simp [Region.wanted,hg,Dz O hj hjn hb];intro e;subst e;simp at hbc)];exact h
end
theorem GL {P:Program}{o:Oper}{a:Act}{w:World}{v v':Value}(h:BN P o a w v)(e:v=v'):BN P o a w v':=e ▸ h
theorem G4 {P:Program}{ops:List Oper}{Q:Exit->Act->World->Prop}{n:Nat}{F:List (Nat×Value)}{X:List Nat}{w0:World}{L0:Own}{D:Al}{id:Nat}{a:Act}{w:World}(k:Nat)(W:List Nat)(l:List Fact)(hm:P.follows .mixedOrders=true)(hk:Gk ops k=true)(O:Fr n a F)(hdst:GQ n F (ops.take k) []=true)(J:MemX X w0 w L0 D)
    (hO:StepsQ P ops k n F (Par X w0 D W L0) (B4 l) (ops.take k) 0)
    (hend:∀ a w L,Fr n a F->Par X w0 D W L0 L w->(∀ i,Nat.blt i k=true->Nat.blt i ops.length=true->B4 l i L (a.tmps.getD (Bh ops i) undef) w)->wpList P ops.toArray Q (ops.drop k) a w) :
    (Code.region id ops.toArray true).wp P Q a w:=
  QH (S:=Par X w0 D W L0) hm hk O hdst L0 ⟨J,Same.refl _ _⟩ (fun _ h=>⟨h.1.ext (Below.drew (Below.refl _ _)),h.2⟩) (B4 l) hO
    (fun a w L O hS hq=>hend a w L O hS fun i h1 h2=>hq i (Nat.blt_eq.mp h1) (Nat.blt_eq.mp h2))
end Go.Sw
namespace Go.Sw
open Go Go.RowKit
inductive FactE where
  | val (v:Value)
  | frz (c:Array Value) (mk:Nat->Value)
  | own (mk:Nat->Value)
def Rw (kt:Nat) (l:List FactE):Facts (Own×Al):=fun i g u _=>match l[i]? with
  | some (.val v)=>u=v
  | some (.frz c mk)=>∃ b,(b,c)∈g.2/\u=mk b
  | some (.own mk)=>∃ b cs,u=mk b/\g.1[kt]? = some (some (b,cs))
  | none=>True
def inE (c:Option (Array Value)) (b:Nat) (E:Al):Prop:=match c with
  | none=>True
  | some c=>(b,c)∈E
theorem inE.more {c:Option (Array Value)}{b:Nat}{E:Al}(h:inE c b E)(x:Nat×Array Value):inE c b (x::E):=by
  cases c with
  | none=>trivial
  | some c=>exact List.mem_cons_of_mem _ h
def S6 (X:List Nat) (w0:World) (D:Al) (L0:Own) (kt:Nat) (csO:Array Value) (c3:Option (Array Value)) (csN:Nat->Array Value) (bb:Bool) (g:Own×Al) (w:World):Prop:=
  (MemX X w0 w g.1 (g.2++D)/\Same [kt] L0 g.1)/\∀ b cs,g.1[kt]? = some (some (b,cs))->(bb=false->cs=csO)/\(bb=true->∃ x,inE c3 x g.2/\cs=csN x)
section
variable {P : Program} {X : List Nat} {w0 w : World} {D : Al} {L0 : Own} {g : Own × Al} {kt : Nat} {csO : Array Value} {c3 : Option (Array Value)} {csN : Nat -> Array Value} {bb : Bool} {l : List FactE} {i : Nat} {o : Oper} {a : Act}
def MU:List FactE->Nat->Nat->Bool
  | [],_,_=>true
  | .own _::r,i,s=>Nat.beq s i && MU r i (s+1)
  | _::r,i,s=>MU r i (s+1)
end
theorem M7 {v:Nat->Nat}(q:Nat)(hq:q<1*6):(KQ 1 (KR [v]))[0+q]? = some (.int .u8 (v q:Int)):=by
  unfold KQ
  rw [B3 (by omega),show (0+q) / 6=0 by omega,show (0+q)%6=q by omega]
  rfl
theorem Sl.snoc6 {u:Value}{e:Option (Nat×Array Value)}{N:Nat}{F G:Nat->Value}(h:Sl 6 u e (N+1) (fun i=>if i<N*6 then F i else G (i - N*6)))(hG:∀ q,q<6->G q=F (N*6+q)):Sl 6 u e (N+1) F:=
  h.congr fun i hi=>by
    by_cases h1:i<N*6
    . rw [if_pos h1]
    . rw [if_neg h1,hG _ (by omega),show N*6+(i - N*6)=i by omega]
end Go.Sw
