import Derived.Test.YtdeinnaeicmlfaaGreatSw21
import Derived.Laws.CopyRow
import Derived.Test.YtdeinnaeicmlfaaGreatEch5
import Derived.Test.YtdeinnaeicmlfaaGreatSw9
import Derived.ReadAgain
import Derived.ChangeSlices
import Derived.Test.YtdeinnaeicmlfaaGreatSw14
import Derived.Recover
import Derived.Test.YtdeinnaeicmlfaaGreatSw19
set_option linter.unusedVariables false
set_option linter.unusedSimpArgs false
namespace Go.Sw
open Go Go.RowKit
section
variable {P : Program} {n : Nat} {a : Act} {w0 w : World} {X : List Nat} {F : List (Nat × Value)} {L : Own} {D : Froz} {d : Option Tmp} {T : TypeId} {x y : Operand} {t : TypeId} {pos : String} {af : Array Edge} {gd : Option (Nat × Bool)}
theorem build013 {x0 x1 x2:Operand}{v0 v1 v2:Value}(hF:Fr n a F)(h0:look F x0=some v0)(h1:look F x1=some v1)(h2:look F x2=some v2):(#[(0,x0),(1,x1),(3,x2)]:Array (Nat×Operand)).toList.map (fun p=>(p.1,a.eval p.2))=[(0,v0),(1,v1),(3,v2)]:=by simp [hF.eval h0,hF.eval h1,hF.eval h2]
theorem g_buildP {parts:Array (Nat×Operand)}{vs:List (Nat×Value)}{z:Value}(_hF:Fr n a F)(hp:parts.toList.map (fun p=>(p.1,a.eval p.2))=vs)(hrun:∀ w,(Instr.build T vs.toArray).run P w = .ok z w):Gives P ⟨d,.build T parts,t,pos,af,gd⟩ a w z:=by
  refine gives_of_run ?_;have e1:(parts.map fun (i,x)=>(i,a.eval x))=vs.toArray:=by rw [← hp];apply Array.toList_inj.1;simp
  simp only [execOp,e1,Sem.run_bind,hrun,Result.andThen_ok,Sem.run_pure]
end
end Go.Sw
namespace Go.Sw
open Go Go.RowKit
def tenC (p n i o:Int) (sl:Value):Array Value:=#[.int .i64 p,.int .i64 n,.int .i64 i,.int .i64 o,sl]
def smC (p:Int) (sl:Value):Array Value:=#[.int .i64 p,sl]
def numC (m:Nat) (f:Nat→Nat):Array Value:=fnC m (fun c=>.int .i64 (f c:Int))
section
variable {p n i o : Int} {sl : Value} {q m : Nat} {f g : Nat → Nat}
end
abbrev TenOut (w w':World) (p n i o:Int) (m:Nat) (f:Nat→Nat) (v:Value):Prop:=
  ∃ b,v = .agg (tenC p n i o (.slice (some ⟨b,0,none⟩) m m))∧w.heap.size≤b∧Blk w' b (numC m f)
abbrev TenOut0 (w w':World) (p n i o:Int) (m:Nat) (f:Nat→Nat) (v:Value):Prop:=
  ∃ b,v = .tuple #[.agg (tenC p n i o (.slice (some ⟨b,0,none⟩) m m)),.int .i64 0]∧w.heap.size≤b∧Blk w' b (numC m f)
def pwr (n:Nat):Nat→Nat→Nat
  | 0,q=>q
  | k+1,q=>if q≤1296 then pwr n k (q*n) else q
def wl (n i o:Nat):Prop:=i≤8∧o≤8∧n ^ (i+o)≤1296
instance (n i o:Nat):Decidable (wl n i o):=by unfold wl;infer_instance
section
variable {P : Program} {n : Nat} {F : List (Nat × Value)} {a : Act} {w : World} {d : Option Tmp} {t : TypeId} {pos : String} {af : Array Edge} {gd : Option (Nat × Bool)} {T : TypeId} {x y z u : Operand}
end
end Go.Sw
namespace Go.Sw
open Go Go.RowKit Go.ChangeShapes Go.WideShapes Go.ChangeAt
def numI (m:Nat) (g:Nat→Int):Array Value:=fnC m (fun c=>.int .i64 (g c))
section
variable {m q : Nat} {f g : Nat → Int}
theorem numI_size:(numI m f).size=m:=fnC_size _ _
end
def ArgSl (w:World) (sl:Value) (m:Nat) (g:Nat→Int):Prop:=
  (∃ x c,sl = .slice x m c)∧(0<m→∃ b o c,sl = .slice (some ⟨b,o,none⟩) m c∧∀ i,i<m→w.cell? ⟨b,o+i*1,none⟩=some (.int .i64 (g i)))
theorem cell_ext {w w':World}{b o:Nat}{v:Value}(h:w.cell? ⟨b,o,none⟩=some v)(hx:Ext w w'):w'.cell? ⟨b,o,none⟩=some v:=by
  have hb:b<w.heap.size:=by
    by_cases hb:b<w.heap.size
    · exact hb
    · have hn:w.heap[b]? = none:=by simp;omega
      unfold World.cell? at h
      simp only [hn] at h
      cases h
  unfold World.cell? at h ⊢
  simp only [hx.block b hb];exact h
section
variable {P : Program} {n : Nat} {F : List (Nat × Value)} {a : Act} {w : World} {d : Option Tmp} {t : TypeId} {pos : String} {af : Array Edge} {gd : Option (Nat × Bool)} {x : Operand}
theorem g_loadC {T:TypeId}{b o:Nat}{v:Value}(hT:oneP P T=true)(hF:Fr n a F)(hx:look F x=some (ptr b o))(hc:w.cell? ⟨b,o,none⟩=some v):Gives P ⟨d,.load T x,t,pos,af,gd⟩ a w v:=by
  have h1:=(run_isAgg_one hT w).1;exact gives_of_run (by simp [execOp,Instr.loadAt,Instr.sureAddr,hF.eval hx,loadVar,h1,hc])
end
section
variable {H : Type} {enc : TypeId × Value → H} {P : Program} {w w' : World}
theorem trodAll_carry:∀ {ts:List TypeId} {vs:List Value} {ds:List (DataW H)} {ps:List MemPlace} {base:Nat} {spare:Nat→Bool} {held:Bool},
    DataW.TrodAll enc P w base spare held ts vs ds ps→(∀ p∈ps,w.sameAt w' p)→DataW.TrodAll enc P w' base spare held ts vs ds ps
  | [],[],[],_,_,_,_,h,_=>h
  | _ :: _, _ :: _, _ :: _, _, _, _, _, ⟨p, q, ⟨fuel, h1⟩, h2, e⟩, hs =>
    ⟨p,q,⟨fuel,DataW.trod_carry fuel _ _ _ h1 (fun y hy=>hs y (by rw [e];exact List.mem_append_left _ hy))⟩,trodAll_carry h2 (fun y hy=>hs y (by rw [e];exact List.mem_append_right _ hy)),e⟩
theorem sameAt_ext (hx:Ext w w'){p:MemPlace}(hp:p.block<w.heap.size):w.sameAt w' p:=by
  have h:=hx.block p.block hp
  cases p with
  | cell b off =>
    show w'.cell? ⟨b,off,none⟩=w.cell? ⟨b,off,none⟩
    simp only [MemPlace.block] at h
    unfold World.cell?
    simp only [h]
  | map b=>exact h
theorem args_again (hl:laidOutB P=true)(hm:mapsRowed P=true)(hz:((List.range P.types.size).all fun t=>match P.underlying t with | some (.slice e)=>decide (0<P.cellsOf e) | _=>true)=true)
    {ts:List TypeId} {vs:List Value} {ds:List (DataW H)} {ps:List MemPlace} (hT:∀ t∈ts,t<P.types.size) (hx:Ext w w') (hlt:∀ p∈ps,p.block<w.heap.size)
    (h:DataW.TrodAll enc P w 0 (fun _=>true) true ts vs ds ps) (sp:Nat→Bool) (hsp:∀ p∈ps,sp p.block=true):DataW.TrodAll enc P w' 0 sp true ts vs ds ps:=
  trodAll_carry (DataW.TrodAll.respare (kids_rows hl hm) (fun t e ht hu=>slices_full_of P hz t e ht hu) hT h hsp) (fun p hp=>sameAt_ext hx (hlt p hp))
variable {base : Nat} {spare : Nat → Bool} {held : Bool}
def tenFs (fs:Array Field) (ti ts:TypeId):Bool:=(List.range 5).all fun i=>match fs[i]? with
  | some f=>Nat.beq f.offset i && Nat.beq f.type (if i<4 then ti else ts)
  | none=>false
end
section
variable {P : Program} {X : List Nat} {w0 w : World} {L : Own} {D : Froz} {n : Nat} {F : List (Nat × Value)} {a : Act} {d : Option Tmp} {T : TypeId} {t : TypeId} {pos : String} {af : Array Edge} {gd : Option (Nat × Bool)} {x y : Operand}
end
abbrev TenOutI (w w':World) (p n i o:Int) (m:Nat) (g:Nat→Int) (v:Value):Prop:=
  ∃ b,v = .agg (tenC p n i o (.slice (some ⟨b,0,none⟩) m m))∧w.heap.size≤b∧Blk w' b (numI m g)
end Go.Sw
namespace Go.Sw
open Go Go.RowKit Go.ChangeShapes Go.WideShapes Go.ChangeAt
def ArgVs (w:World) (sl:Value) (m:Nat) (V:Nat→Nat→Nat):Prop:=
  (∃ x c,sl = .slice x m c)∧(0<m→∃ b o c,sl = .slice (some ⟨b,o,none⟩) m c∧∀ i,i<m→∀ j,j<6→w.cell? ⟨b,o+i*6+j,none⟩=some (.int .u8 (V i j:Int)))
section
variable {P : Program} {n : Nat} {F : List (Nat × Value)} {a : Act} {w : World} {d : Option Tmp} {t : TypeId} {pos : String} {af : Array Edge} {gd : Option (Nat × Bool)} {x : Operand}
end
section
variable {H : Type} {enc : TypeId × Value → H} {P : Program} {w w' : World} {base : Nat} {spare : Nat → Bool} {held : Bool}
end
section
variable {H : Type} {enc : TypeId × Value → H} {P : Program} {w : World} {base : Nat} {spare : Nat → Bool} {held : Bool}
end
section
variable {P : Program} {X : List Nat} {w0 w : World} {L : Own} {D : Froz} {n : Nat} {F : List (Nat × Value)} {a : Act} {d : Option Tmp} {T : TypeId} {t : TypeId} {pos : String} {af : Array Edge} {gd : Option (Nat × Bool)} {x y : Operand}
end
end Go.Sw
namespace Go.Sw
open Go Go.RowKit Go.ChangeShapes Go.WideShapes Go.ChangeAt
def grpC (n:Int) (M:Nat→Nat→Nat):Array Value:=fnC 37 fun c=>if c=0 then .int .i64 n else .int .u8 (M ((c - 1) / 6) ((c - 1)%6))
section
variable {n q : Int} {M N : Nat → Nat → Nat}
theorem grpC_size:(grpC n M).size=37:=fnC_size _ _
theorem grpC_n {o:Nat}(h:o=0):(grpC n M)[o]? = some (.int .i64 n):=by subst h;exact fnC_get (by omega)
theorem grpC_M {o:Nat}(i j:Nat)(h:o=1+i*6+j)(hi:i<6)(hj:j<6):(grpC n M)[o]? = some (.int .u8 (M i j:Int)):=by
  subst h
  unfold grpC
  rw [fnC_get (by omega),if_neg (by omega),show (1+i*6+j - 1) / 6=i by omega,show (1+i*6+j - 1)%6=j by omega]
theorem grpC_tab {o e:Nat}(h:o=1)(he:e=o+36):(grpC n M).extract o e=planeC M:=by
  subst h;exact extract_ext he (by rw [grpC_size];omega) fun c hc=>grpC_M (c / 6) (c%6) (by omega) (by omega) (by omega)
theorem grpC_one:∀ u∈(grpC n M).toList,u.oneCell'=true:=fnC_one fun i _=>by split<;>rfl
theorem grpC_eq {c:Array Value}(hs:c.size=37)(h0:c[0]? = some (.int .i64 n))(hT:∀ i j,i<6→j<6→c[1+i*6+j]? = some (.int .u8 (M i j:Int))):c=grpC n M:=by
  apply Array.ext_getElem?
  intro i
  by_cases hi:i<37
  · by_cases e0:i=0
    · subst e0;rw [h0,grpC_n rfl]
    · have e:i=1+((i - 1) / 6)*6+(i - 1)%6:=by omega
      rw [e,hT _ _ (by omega) (by omega),grpC_M _ _ rfl (by omega) (by omega)]
  · rw [Array.getElem?_eq_none (by omega),Array.getElem?_eq_none (by rw [grpC_size];omega)]
theorem grpC_setn {o:Nat}(h:o=0):(grpC n M).setIfInBounds o (.int .i64 q)=grpC q M:=by
  subst h;refine grpC_eq (by rw [Array.size_setIfInBounds,grpC_size]) ?_ ?_
  · rw [Array.getElem?_setIfInBounds_self_of_lt (by rw [grpC_size];omega)]
  · intro i j hi hj;rw [Array.getElem?_setIfInBounds_ne (by omega)];exact grpC_M i j rfl hi hj
theorem grpC_congr (h:∀ i j,i<6→j<6→M i j=N i j):grpC n M=grpC n N:=fnC_congr fun c hc=>by rw [h _ _ (by omega) (by omega)]
end
def grpKs:List IntKind:=.i64::List.replicate 36 .u8
section
variable {H : Type} {enc : TypeId × Value → H} {P : Program} {w : World} {base : Nat} {spare : Nat → Bool} {held : Bool} {t : TypeId} {v : Value} {d : DataW H} {p : List MemPlace}
end
end Go.Sw
namespace Go.Sw
open Go Go.RowKit
variable {P : Program}
def addD (ds:List Deferred) (a:Act):Act:=⟨a.tmps,a.defers++ds⟩
section
variable {ds : List Deferred} {ops : Array Oper} {Q : Exit → Act → World → Prop} {n : Nat} {F : List (Nat × Value)} {a : Act} {w : World}
end
end Go.Sw
namespace Go.Sw
open Go Go.RowKit
variable {P : Program}
section
variable {n : Nat} {F : List (Nat × Value)} {a : Act} {w : World} {d : Option Tmp} {t : TypeId} {pos : String} {af : Array Edge} {gd : Option (Nat × Bool)} {T : TypeId} {x y : Operand}
end
end Go.Sw
namespace Go.Sw
open Go Go.RowKit
variable {P : Program}
section
variable {ops : Array Oper} {Q : Exit → Act → World → Prop} {rest : List Oper} {n : Nat} {F : List (Nat × Value)} {a : Act} {w : World} {d : Option Tmp} {t : TypeId} {pos : String} {af : Array Edge} {gd : Option (Nat × Bool)}
theorem d_callV {f:FuncId}{x:Operand}{cap:List Value}{xs:List Operand}{vs:List Value}{ats:Array TypeId}{R:Value→World→Prop}(hf:∀ args w,(callFunc f args).run P w = .ok (.enter f args) w)(hF:Fr n a F)(hfx:look F x=some (.func (.func f) #[] cap.toArray))(hx:looks F xs vs)(hc:CallsR P f (vs++cap).toArray w R) :
    Does P ⟨d,.call { callee:=.value x,args:=xs.toArray,argTypes:=ats },t,pos,af,gd⟩ a w (fun u w'=>Ext w w'∧R u w'):=
  ⟨fun K Q hk=>by
    have hrun:(execOp a.eval ⟨d,.call { callee:=.value x,args:=xs.toArray,argTypes:=ats },t,pos,af,gd⟩).run P w = .ok (.enter f (vs++cap).toArray) w:=by
      have e:(xs.toArray.map a.eval)=vs.toArray:=by rw [← hF.evals hx];simp
      simp [execOp,resolve,hF.eval hfx,Deferred.ofValue,invoke,e,hf]
    unfold Oper.wp
    rw [hrun]
    show Calls P f (vs++cap).toArray w _
    exact Calls.mono (show Calls P f (vs++cap).toArray w _ from hc) fun e w' ⟨v,he,h1,h2⟩=>by subst he;exact hk v w' ⟨h1,h2⟩⟩
def okA (tm:Array Value):List (Nat×Value)→Prop
  | []=>True
  | (t,v)::r=>tm.getD t undef=v∧okA tm r
def Clo (P:Program) (f b:Nat) (u:FrameMode) (w:World) (c:Value):Prop:=
  CallsD P f #[ptr b 0] u w fun e u' w'=>(∃ v,e = .returned v)∧settle u' = .returning∧ExtX [b] w w'∧Blk w' b #[c]
end
end Go.Sw
