import Derived.Test.YtkcneleabbjkaaaSw21
import Derived.Test.YtkcneleabbjkaaaEch5
import Derived.Test.YtkcneleabbjkaaaSw9
import Derived.ReadAgain
import Derived.ChangeSlices
import Derived.Test.YtkcneleabbjkaaaSw14
import Derived.Recover
import Derived.Test.YtkcneleabbjkaaaSw19
set_option linter.unusedVariables false
set_option linter.unusedSimpArgs false
namespace Go.Sw
open Go Go.RowKit
def Mn (p n i o:Int) (sl:Value):Array Value:=#[.int .i64 p,.int .i64 n,.int .i64 i,.int .i64 o,sl]
def O5 (p:Int) (sl:Value):Array Value:=#[.int .i64 p,sl]
def NJ (m:Nat) (f:Nat→Nat):Array Value:=Ag m (fun c=>.int .i64 (f c:Int))
section
variable {p n i o : Int} {sl : Value} {q m : Nat} {f g : Nat → Nat}
end
abbrev Nu (w w':World) (p n i o:Int) (m:Nat) (f:Nat→Nat) (v:Value):Prop:=
  ∃ b,v = .agg (Mn p n i o (.slice (some ⟨b,0,none⟩) m m))∧w.heap.size≤b∧Blk w' b (NJ m f)
abbrev Nh (w w':World) (p n i o:Int) (m:Nat) (f:Nat→Nat) (v:Value):Prop:=
  ∃ b,v = .tuple #[.agg (Mn p n i o (.slice (some ⟨b,0,none⟩) m m)),.int .i64 0]∧w.heap.size≤b∧Blk w' b (NJ m f)
def OY (n:Nat):Nat→Nat→Nat
  | 0,q=>q
  | k+1,q=>if q≤1296 then OY n k (q*n) else q
def wl (n i o:Nat):Prop:=i≤8∧o≤8∧n ^ (i+o)≤1296
instance (n i o:Nat):Decidable (wl n i o):=by unfold wl;infer_instance
section
variable {P : Program} {n : Nat} {F : List (Nat × Value)} {a : Act} {w : World} {d : Option Tmp} {t : TypeId} {pos : String} {af : Array Edge} {gd : Option (Nat × Bool)} {T : TypeId} {x y z u : Operand}
end
end Go.Sw
namespace Go.Sw
open Go Go.RowKit Go.ChangeShapes Go.WideShapes Go.ChangeAt
def NI (m:Nat) (g:Nat→Int):Array Value:=Ag m (fun c=>.int .i64 (g c))
section
variable {m q : Nat} {f g : Nat → Int}
end
def OP (w:World) (sl:Value) (m:Nat) (g:Nat→Int):Prop:=
  (∃ x c,sl = .slice x m c)∧(0<m→∃ b o c,sl = .slice (some ⟨b,o,none⟩) m c∧∀ i,i<m→w.cell? ⟨b,o+i*1,none⟩=some (.int .i64 (g i)))
section
variable {P : Program} {n : Nat} {F : List (Nat × Value)} {a : Act} {w : World} {d : Option Tmp} {t : TypeId} {pos : String} {af : Array Edge} {gd : Option (Nat × Bool)} {x : Operand}
theorem Ic {T:TypeId}{b o:Nat}{v:Value}(hT:E8 P T=true)(hF:Fr n a F)(hx:look F x=some (ptr b o))(hc:w.cell? ⟨b,o,none⟩=some v):BW P ⟨d,.load T x,t,pos,af,gd⟩ a w v:=by
  have h1:=(Cb hT w).1;exact An (by simp [execOp,Instr.loadAt,Instr.sureAddr,hF.eval hx,loadVar,h1,hc])
end
section
variable {H : Type} {enc : TypeId × Value → H} {P : Program} {w w' : World}
theorem E9:∀ {ts:List TypeId} {vs:List Value} {ds:List (DataW H)} {ps:List MemPlace} {base:Nat} {spare:Nat→Bool} {held:Bool},
    DataW.TrodAll enc P w base spare held ts vs ds ps→(∀ p∈ps,w.sameAt w' p)→DataW.TrodAll enc P w' base spare held ts vs ds ps
  | [],[],[],_,_,_,_,h,_=>h
  | _ :: _, _ :: _, _ :: _, _, _, _, _, ⟨p, q, ⟨fuel, h1⟩, h2, e⟩, hs =>
    ⟨p,q,⟨fuel,DataW.trod_carry fuel _ _ _ h1 (fun y hy=>hs y (by rw [e];exact List.mem_append_left _ hy))⟩,E9 h2 (fun y hy=>hs y (by rw [e];exact List.mem_append_right _ hy)),e⟩
theorem Ja (hx:Ext w w'){p:MemPlace}(hp:p.block<w.heap.size):w.sameAt w' p:=by
  have h:=hx.block p.block hp
  cases p with
  | cell b off =>
    show w'.cell? ⟨b,off,none⟩=w.cell? ⟨b,off,none⟩
    simp only [MemPlace.block] at h
    unfold World.cell?
    simp only [h]
  | map b=>exact h
theorem args_again (hl:laidOutB P=true)(hm:mapsRowed P=true)(hz:((List.range P.types.size).all fun t=>match P.underlying t with | some (.slice e)=>decide (0<P.cellsOf e) | _=>true)=true)
    {ts:List TypeId} {vs:List Value} {ds:List (DataW H)} {ps:List MemPlace} (hT:∀ t∈ts,t<P.types.size) (hx:Ext w w') (hlt:∀ p∈ps,p.block<w.heap.size)
    (h:DataW.TrodAll enc P w 0 (fun _=>true) true ts vs ds ps) (sp:Nat→Bool) (hsp:∀ p∈ps,sp p.block=true):DataW.TrodAll enc P w' 0 sp true ts vs ds ps:=
  E9 (DataW.TrodAll.respare (kids_rows hl hm) (fun t e ht hu=>slices_full_of P hz t e ht hu) hT h hsp) (fun p hp=>Ja hx (hlt p hp))
variable {base : Nat} {spare : Nat → Bool} {held : Bool}
def N9 (fs:Array Field) (ti ts:TypeId):Bool:=(List.range 5).all fun i=>match fs[i]? with
  | some f=>Nat.beq f.offset i && Nat.beq f.type (if i<4 then ti else ts)
  | none=>false
end
section
variable {P : Program} {X : List Nat} {w0 w : World} {L : Own} {D : BI} {n : Nat} {F : List (Nat × Value)} {a : Act} {d : Option Tmp} {T : TypeId} {t : TypeId} {pos : String} {af : Array Edge} {gd : Option (Nat × Bool)} {x y : Operand}
end
abbrev Ng (w w':World) (p n i o:Int) (m:Nat) (g:Nat→Int) (v:Value):Prop:=
  ∃ b,v = .agg (Mn p n i o (.slice (some ⟨b,0,none⟩) m m))∧w.heap.size≤b∧Blk w' b (NI m g)
end Go.Sw
namespace Go.Sw
open Go Go.RowKit Go.ChangeShapes Go.WideShapes Go.ChangeAt
def OO (w:World) (sl:Value) (m:Nat) (V:Nat→Nat→Nat):Prop:=
  (∃ x c,sl = .slice x m c)∧(0<m→∃ b o c,sl = .slice (some ⟨b,o,none⟩) m c∧∀ i,i<m→∀ j,j<6→w.cell? ⟨b,o+i*6+j,none⟩=some (.int .u8 (V i j:Int)))
section
variable {P : Program} {n : Nat} {F : List (Nat × Value)} {a : Act} {w : World} {d : Option Tmp} {t : TypeId} {pos : String} {af : Array Edge} {gd : Option (Nat × Bool)} {x : Operand}
end
section
variable {H : Type} {enc : TypeId × Value → H} {P : Program} {w w' : World} {base : Nat} {spare : Nat → Bool} {held : Bool}
end
section
variable {H : Type} {enc : TypeId × Value → H} {P : Program} {w : World} {base : Nat} {spare : Nat → Bool} {held : Bool}
end
section
variable {P : Program} {X : List Nat} {w0 w : World} {L : Own} {D : BI} {n : Nat} {F : List (Nat × Value)} {a : Act} {d : Option Tmp} {T : TypeId} {t : TypeId} {pos : String} {af : Array Edge} {gd : Option (Nat × Bool)} {x y : Operand}
end
end Go.Sw
namespace Go.Sw
open Go Go.RowKit Go.ChangeShapes Go.WideShapes Go.ChangeAt
def Nl (n:Int) (M:Nat→Nat→Nat):Array Value:=Ag 37 fun c=>if c=0 then .int .i64 n else .int .u8 (M ((c - 1) / 6) ((c - 1)%6))
section
variable {n q : Int} {M N : Nat → Nat → Nat}
theorem AD:(Nl n M).size=37:=Bp _ _
end
def OD:List IntKind:=.i64::List.replicate 36 .u8
section
variable {H : Type} {enc : TypeId × Value → H} {P : Program} {w : World} {base : Nat} {spare : Nat → Bool} {held : Bool} {t : TypeId} {v : Value} {d : DataW H} {p : List MemPlace}
end
end Go.Sw
namespace Go.Sw
open Go Go.RowKit
variable {P : Program}
def addD (ds:List Deferred) (a:Act):Act:=⟨a.tmps,a.defers++ds⟩
section
variable {ds : List Deferred} {ops : Array Oper} {Q : Exit → Act → World → Prop} {n : Nat} {F : List (Nat × Value)} {a : Act} {w : World}
end
end Go.Sw
namespace Go.Sw
open Go Go.RowKit
variable {P : Program}
section
variable {ops : Array Oper} {Q : Exit → Act → World → Prop} {rest : List Oper} {n : Nat} {F : List (Nat × Value)} {a : Act} {w : World} {d : Option Tmp} {t : TypeId} {pos : String} {af : Array Edge} {gd : Option (Nat × Bool)}
def okA (tm:Array Value):List (Nat×Value)→Prop
  | []=>True
  | (t,v)::r=>tm.getD t undef=v∧okA tm r
def PB (P:Program) (f b:Nat) (u:FrameMode) (w:World) (c:Value):Prop:=
  CallsD P f #[ptr b 0] u w fun e u' w'=>(∃ v,e = .returned v)∧settle u' = .returning∧ExtX [b] w w'∧Blk w' b #[c]
end
end Go.Sw
namespace Go.Sw
open Go Go.RowKit
theorem HL {n:Nat}{a:Act}{F:List (Nat×Value)}{x0 x1 x2 x3:Operand}{v0 v1 v2 v3:Value}(hF:Fr n a F)(h0:look F x0=some v0)(h1:look F x1=some v1)(h2:look F x2=some v2)(h3:look F x3=some v3):(#[(0,x0),(1,x1),(2,x2),(3,x3)]:Array (Nat×Operand)).toList.map (fun p=>(p.1,a.eval p.2))=[(0,v0),(1,v1),(2,v2),(3,v3)]:=by simp [hF.eval h0,hF.eval h1,hF.eval h2,hF.eval h3]
def l4 (a b c d:Nat) (i:Nat):Nat:=match i with
  | 0=>a
  | 1=>b
  | 2=>c
  | _=>d
theorem Ce {p n:Int}{T:Nat→Nat→Nat→Nat}{f:Nat→Nat}{o v:Nat}(a b c:Nat)(h:o=2+a*36+b*6+c)(ha:a<6)(hb:b<6)(hc:c<6):(AJ p n T f).setIfInBounds o (.int .u8 (v:Int))=AJ p n (fun i j k=>if i=a∧j=b∧k=c then v else T i j k) f:=by
  subst h;refine E7 (by rw [Array.size_setIfInBounds,AQ]) ?_ ?_ ?_ ?_
  · rw [Array.getElem?_setIfInBounds_ne (by omega)];exact BQ rfl
  · rw [Array.getElem?_setIfInBounds_ne (by omega)];exact A5 rfl
  · intro i j k hi hj hk
    by_cases e:i=a∧j=b∧k=c
    · obtain ⟨rfl,rfl,rfl⟩:=e
      rw [Array.getElem?_setIfInBounds_self_of_lt (by rw [AQ];omega),if_pos ⟨rfl,rfl,rfl⟩]
    · rw [Array.getElem?_setIfInBounds_ne (by omega),if_neg e];exact C4 i j k rfl hi hj hk
  · intro i hi;rw [Array.getElem?_setIfInBounds_ne (by omega)];exact C3 i rfl hi
theorem DH {p n:Int}{T:Nat→Nat→Nat→Nat}{f:Nat→Nat}{o v:Nat}(a:Nat)(h:o=218+a)(ha:a<6):(AJ p n T f).setIfInBounds o (.int .u8 (v:Int))=AJ p n T (fun i=>if i=a then v else f i):=by
  subst h;refine E7 (by rw [Array.size_setIfInBounds,AQ]) ?_ ?_ ?_ ?_
  · rw [Array.getElem?_setIfInBounds_ne (by omega)];exact BQ rfl
  · rw [Array.getElem?_setIfInBounds_ne (by omega)];exact A5 rfl
  · intro i j k hi hj hk;rw [Array.getElem?_setIfInBounds_ne (by omega)];exact C4 i j k rfl hi hj hk
  · intro i hi
    by_cases e:i=a
    · subst e
      rw [Array.getElem?_setIfInBounds_self_of_lt (by rw [AQ];omega),if_pos rfl]
    · rw [Array.getElem?_setIfInBounds_ne (by omega),if_neg e];exact C3 i rfl hi
section
variable {P : Program} {n : Nat} {F : List (Nat × Value)} {a : Act} {w : World} {d : Option Tmp} {t : TypeId} {pos : String} {af : Array Edge} {gd : Option (Nat × Bool)}
end
end Go.Sw
