import Derived.Test.YtklpefdaplchbaaSw38
import Derived.StringKeys
import Derived.Test.YtklpefdaplchbaaEch5
import Derived.Test.YtklpefdaplchbaaEch6
import Derived.Test.YtklpefdaplchbaaSw14
import Derived.Test.YtklpefdaplchbaaSw21
import Derived.Test.YtklpefdaplchbaaSw9
import Derived.Recover
import Derived.Test.YtklpefdaplchbaaSw19
set_option linter.unusedVariables false
set_option linter.unusedSimpArgs false
namespace Go.Sw
open Go Go.RowKit
section
variable {P : Program} {n : Nat} {F : List (Nat × Value)} {a : Act} {w w0 : World} {d : Option Tmp} {t T kt et : TypeId} {pos : String} {af : Array Edge} {gd : Option (Nat × Bool)} {x y z : Operand} {X : List Nat} {L : Own} {D : Froz}
end
end Go.Sw
namespace Go.Sw
open Go Go.RowKit
section
variable {P : Program} {n : Nat} {F : List (Nat × Value)} {a : Act} {w : World} {d : Option Tmp} {t T T' : TypeId} {pos : String} {af : Array Edge} {gd : Option (Nat × Bool)} {x y : Operand} {k : IntKind} {A B C : Int}
theorem g_xor (hF:Fr n a F)(hx:look F x=some (.int k A))(hy:look F y=some (.int k B))(hC:k.wrap (((A%2 ^ k.bits).toNat ^^^ (B%2 ^ k.bits).toNat:Nat):Int)=C):Gives P ⟨d,.binOp .xor T x y T',t,pos,af,gd⟩ a w (.int k C):=
  gives_of_run (by simp [execOp,eqGuard_int,binOp,Op.intBits,hF.eval hx,hF.eval hy,hC])
end
theorem xor_nat4 {x y:Nat}(hx:x<4)(hy:y<4):IntKind.i64.wrap ((((x:Int)%2 ^ IntKind.i64.bits).toNat ^^^ ((y:Int)%2 ^ IntKind.i64.bits).toNat:Nat):Int)=((x ^^^ y:Nat):Int):=by
  have h:∀ x:Nat,x<4→∀ y:Nat,y<4→IntKind.i64.wrap ((((x:Int)%2 ^ IntKind.i64.bits).toNat ^^^ ((y:Int)%2 ^ IntKind.i64.bits).toNat:Nat):Int)=((x ^^^ y:Nat):Int):=by decide
  exact h x hx y hy
theorem xor_lt4 {x y:Nat}(hx:x<4)(hy:y<4):x ^^^ y<4:=by
  have h:∀ x:Nat,x<4→∀ y:Nat,y<4→x ^^^ y<4:=by decide
  exact h x hx y hy
end Go.Sw
namespace Go.Sw
open Go Go.RowKit
section
variable {P : Program} {n : Nat} {F : List (Nat × Value)} {a : Act} {w w0 : World} {d : Option Tmp} {t T kt et : TypeId} {pos : String} {af : Array Edge} {gd : Option (Nat × Bool)} {x y z : Operand} {X : List Nat} {L : Own} {D : Froz}
theorem g_makeFunc2 {f:FuncId}{u v:Value}(hF:Fr n a F)(hx:look F x=some u)(hy:look F y=some v):Gives P ⟨d,.makeFunc (.func f) #[] #[x,y],t,pos,af,gd⟩ a w (.func (.func f) #[] #[u,v]):=
  gives_of_run (by simp [execOp,Instr.makeFunc,hF.eval hx,hF.eval hy])
end
section
variable {P : Program} {n : Nat} {F : List (Nat × Value)} {a : Act} {w w0 : World} {d : Option Tmp} {t T : TypeId} {pos : String} {af : Array Edge} {gd : Option (Nat × Bool)} {x y : Operand} {X : List Nat} {L : Own} {D : Froz}
end
end Go.Sw
namespace Go.Sw
open Go Go.RowKit
variable {P : Program} {n : Nat} {F : List (Nat × Value)} {a : Act} {w : World} {d : Option Tmp} {t : TypeId} {pos : String} {af : Array Edge} {gd : Option (Nat × Bool)} {x y : Operand}
end Go.Sw
namespace Go.Sw
open Go Go.RowKit Go.ChangeShapes Go.WideShapes Go.ChangeAt
def ArgVs (w:World) (sl:Value) (m:Nat) (V:Nat→Nat→Nat):Prop:=
  (∃ x c,sl = .slice x m c)∧(0<m→∃ b o c,sl = .slice (some ⟨b,o,none⟩) m c∧∀ i,i<m→∀ j,j<6→w.cell? ⟨b,o+i*6+j,none⟩=some (.int .u8 (V i j:Int)))
section
variable {P : Program} {n : Nat} {F : List (Nat × Value)} {a : Act} {w : World} {d : Option Tmp} {t : TypeId} {pos : String} {af : Array Edge} {gd : Option (Nat × Bool)} {x : Operand}
end
section
variable {H : Type} {enc : TypeId × Value → H} {P : Program} {w w' : World} {base : Nat} {spare : Nat → Bool} {held : Bool}
end
section
variable {H : Type} {enc : TypeId × Value → H} {P : Program} {w : World} {base : Nat} {spare : Nat → Bool} {held : Bool}
end
section
variable {P : Program} {X : List Nat} {w0 w : World} {L : Own} {D : Froz} {n : Nat} {F : List (Nat × Value)} {a : Act} {d : Option Tmp} {T : TypeId} {t : TypeId} {pos : String} {af : Array Edge} {gd : Option (Nat × Bool)} {x y : Operand}
end
end Go.Sw
namespace Go.Sw
open Go Go.RowKit Go.ChangeShapes Go.WideShapes Go.ChangeAt
def grpC (n:Int) (M:Nat→Nat→Nat):Array Value:=fnC 37 fun c=>if c=0 then .int .i64 n else .int .u8 (M ((c - 1) / 6) ((c - 1)%6))
section
variable {n q : Int} {M N : Nat → Nat → Nat}
theorem grpC_size:(grpC n M).size=37:=fnC_size _ _
theorem grpC_n {o:Nat}(h:o=0):(grpC n M)[o]? = some (.int .i64 n):=by subst h;exact fnC_get (by omega)
theorem grpC_M {o:Nat}(i j:Nat)(h:o=1+i*6+j)(hi:i<6)(hj:j<6):(grpC n M)[o]? = some (.int .u8 (M i j:Int)):=by
  subst h
  unfold grpC
  rw [fnC_get (by omega),if_neg (by omega),show (1+i*6+j - 1) / 6=i by omega,show (1+i*6+j - 1)%6=j by omega]
theorem grpC_tab {o e:Nat}(h:o=1)(he:e=o+36):(grpC n M).extract o e=planeC M:=by
  subst h;exact extract_ext he (by rw [grpC_size];omega) fun c hc=>grpC_M (c / 6) (c%6) (by omega) (by omega) (by omega)
theorem grpC_one:∀ u∈(grpC n M).toList,u.oneCell'=true:=fnC_one fun i _=>by split<;>rfl
theorem grpC_eq {c:Array Value}(hs:c.size=37)(h0:c[0]? = some (.int .i64 n))(hT:∀ i j,i<6→j<6→c[1+i*6+j]? = some (.int .u8 (M i j:Int))):c=grpC n M:=by
  apply Array.ext_getElem?
  intro i
  by_cases hi:i<37
  · by_cases e0:i=0
    · subst e0;rw [h0,grpC_n rfl]
    · have e:i=1+((i - 1) / 6)*6+(i - 1)%6:=by omega
      rw [e,hT _ _ (by omega) (by omega),grpC_M _ _ rfl (by omega) (by omega)]
  · rw [Array.getElem?_eq_none (by omega),Array.getElem?_eq_none (by rw [grpC_size];omega)]
theorem grpC_setn {o:Nat}(h:o=0):(grpC n M).setIfInBounds o (.int .i64 q)=grpC q M:=by
  subst h;refine grpC_eq (by rw [Array.size_setIfInBounds,grpC_size]) ?_ ?_
  · rw [Array.getElem?_setIfInBounds_self_of_lt (by rw [grpC_size];omega)]
  · intro i j hi hj;rw [Array.getElem?_setIfInBounds_ne (by omega)];exact grpC_M i j rfl hi hj
theorem grpC_congr (h:∀ i j,i<6→j<6→M i j=N i j):grpC n M=grpC n N:=fnC_congr fun c hc=>by rw [h _ _ (by omega) (by omega)]
end
def grpKs:List IntKind:=.i64::List.replicate 36 .u8
section
variable {H : Type} {enc : TypeId × Value → H} {P : Program} {w : World} {base : Nat} {spare : Nat → Bool} {held : Bool} {t : TypeId} {v : Value} {d : DataW H} {p : List MemPlace}
end
end Go.Sw
namespace Go.Sw
open Go Go.RowKit
variable {P : Program}
def addD (ds:List Deferred) (a:Act):Act:=⟨a.tmps,a.defers++ds⟩
section
variable {ds : List Deferred} {ops : Array Oper} {Q : Exit → Act → World → Prop} {n : Nat} {F : List (Nat × Value)} {a : Act} {w : World}
theorem addD_put (ds:List Deferred)(a:Act)(d:Option Tmp)(v:Value):(addD ds a).put d v=addD ds (a.put d v):=by cases d<;>rfl
theorem eval_addD (ds:List Deferred)(a:Act):(addD ds a).eval=a.eval:=by funext o;cases o<;>rfl
theorem upon_add {o:Oper}{K K':Act→World→Prop}(hK:∀ a w,K' a w→K (addD ds a) w)(r:Result Next)(h:o.upon P a K' (fun e a w=>Q e (addD ds a) w) r):o.upon P (addD ds a) K Q r:=by
  have hout:LetsOut (fun e a w=>Q e (addD ds a) w)→LetsOut Q:=fun ⟨a,w,h⟩=>⟨addD ds a,w,h⟩
  unfold Oper.upon at h ⊢
  split at h
  · rw [addD_put];exact hK _ _ h
  · rw [addD_put];exact hK _ _ h
  · rename_i d w'
    have:=hK _ _ h;rw [← addD_put] at this;exact this
  · refine h.mono fun e w'' hq=>?_
    cases e with
    | returned v =>
      show K ((addD ds a).put o.dst v) w''
      rw [addD_put];exact hK _ _ hq
    | panicked c=>exact hq
    | outgrown=>exact hout hq
  · exact h.mono fun v w'' hq=>by rw [addD_put];exact hK _ _ hq
  · exact h
  · rename_i h1 h2 h3 h4 h5 h6
    exact h.elim
theorem wpList_add:∀ (l:List Oper) (a:Act) (w:World),wpList P ops (fun e a w=>Q e (addD ds a) w) l a w→wpList P ops Q l (addD ds a) w
  | [],a,w,h=>h
  | o :: r, a, w, h => by
    have ih:=wpList_add r
    unfold wpList at h ⊢
    have e:yielded ops (addD ds a).tmps=yielded ops a.tmps:=rfl
    rw [e]
    split
    · rename_i hw
      rw [if_pos hw] at h
      rcases h with h | h
      · refine Or.inl ?_
        unfold Oper.wp at h ⊢
        rw [eval_addD]
        exact upon_add ih _ h
      · refine Or.inr ⟨?_,?_⟩
        · have:=h.1
          unfold Oper.asks at this ⊢
          rw [eval_addD];exact this
        · obtain ⟨a,w,h⟩:=h.2
          exact ⟨addD ds a,w,h⟩
    · rename_i hw
      rw [if_neg hw] at h
      rw [addD_put]
      exact ih _ _ h
theorem wp_regionD {id:Nat}{l:List Oper}(h:wpList P l.toArray (fun e a w=>Q e (addD ds a) w) l a w):(Code.region id l.toArray false).wp P Q (addD ds a) w:=wp_region_lit (wpList_add _ _ _ h)
end
end Go.Sw
namespace Go.Sw
open Go Go.RowKit
variable {P : Program}
section
variable {ops : Array Oper} {Q : Exit → Act → World → Prop} {rest : List Oper} {n : Nat} {F : List (Nat × Value)} {a : Act} {w : World} {d : Option Tmp} {t : TypeId} {pos : String} {af : Array Edge} {gd : Option (Nat × Bool)}
def okA (tm:Array Value):List (Nat×Value)→Prop
  | []=>True
  | (t,v)::r=>tm.getD t undef=v∧okA tm r
def Clo (P:Program) (f b:Nat) (u:FrameMode) (w:World) (c:Value):Prop:=
  CallsD P f #[ptr b 0] u w fun e u' w'=>(∃ v,e = .returned v)∧settle u' = .returning∧ExtX [b] w w'∧Blk w' b #[c]
end
end Go.Sw
namespace Go.Sw
open Go Go.RowKit
theorem build4 {n:Nat}{a:Act}{F:List (Nat×Value)}{x0 x1 x2 x3:Operand}{v0 v1 v2 v3:Value}(hF:Fr n a F)(h0:look F x0=some v0)(h1:look F x1=some v1)(h2:look F x2=some v2)(h3:look F x3=some v3):(#[(0,x0),(1,x1),(2,x2),(3,x3)]:Array (Nat×Operand)).toList.map (fun p=>(p.1,a.eval p.2))=[(0,v0),(1,v1),(2,v2),(3,v3)]:=by simp [hF.eval h0,hF.eval h1,hF.eval h2,hF.eval h3]
def l4 (a b c d:Nat) (i:Nat):Nat:=match i with
  | 0=>a
  | 1=>b
  | 2=>c
  | _=>d
theorem lit4_get {a b c d:Nat}:∀ i,i<4→(#[.int .i64 (a:Int),.int .i64 (b:Int),.int .i64 (c:Int),.int .i64 (d:Int)]:Array Value)[0+i*1]? = some (.int .i64 (l4 a b c d i:Int)):=fun i hi=>by
  obtain rfl | rfl | rfl | rfl:i=0∨i=1∨i=2∨i=3:=by omega
  · rfl
  · rfl
  · rfl
  · rfl
theorem algC_setE {p n:Int}{T:Nat→Nat→Nat→Nat}{f:Nat→Nat}{o v:Nat}(a b c:Nat)(h:o=2+a*36+b*6+c)(ha:a<6)(hb:b<6)(hc:c<6):(algC p n T f).setIfInBounds o (.int .u8 (v:Int))=algC p n (fun i j k=>if i=a∧j=b∧k=c then v else T i j k) f:=by
  subst h;refine algC_eq (by rw [Array.size_setIfInBounds,cells_size]) ?_ ?_ ?_ ?_
  · rw [Array.getElem?_setIfInBounds_ne (by omega)];exact algC_p rfl
  · rw [Array.getElem?_setIfInBounds_ne (by omega)];exact algC_n rfl
  · intro i j k hi hj hk
    by_cases e:i=a∧j=b∧k=c
    · obtain ⟨rfl,rfl,rfl⟩:=e
      rw [Array.getElem?_setIfInBounds_self_of_lt (by rw [cells_size];omega),if_pos ⟨rfl,rfl,rfl⟩]
    · rw [Array.getElem?_setIfInBounds_ne (by omega),if_neg e];exact algC_T i j k rfl hi hj hk
  · intro i hi;rw [Array.getElem?_setIfInBounds_ne (by omega)];exact algC_f i rfl hi
section
variable {P : Program} {n : Nat} {F : List (Nat × Value)} {a : Act} {w : World} {d : Option Tmp} {t : TypeId} {pos : String} {af : Array Edge} {gd : Option (Nat × Bool)}
theorem g_makeFuncB {fn:Fn}{x:Operand}{v:Value}(hF:Fr n a F)(hx:look F x=some v):Gives P ⟨d,.makeFunc fn #[x] #[],t,pos,af,gd⟩ a w (.func fn #[v] #[]):=
  gives_of_run (by simp [execOp,Instr.makeFunc,hF.eval hx])
theorem d_callVB {f:FuncId}{x:Operand}{bnd:List Value}{xs:List Operand}{vs:List Value}{ats:Array TypeId}{R:Value→World→Prop}(hf:∀ args w,(callFunc f args).run P w = .ok (.enter f args) w)(hF:Fr n a F)(hfx:look F x=some (.func (.func f) bnd.toArray #[]))(hx:looks F xs vs)(hc:CallsR P f (bnd++vs).toArray w R) :
    Does P ⟨d,.call { callee:=.value x,args:=xs.toArray,argTypes:=ats },t,pos,af,gd⟩ a w (fun u w'=>Ext w w'∧R u w'):=
  ⟨fun K Q hk=>by
    have hrun:(execOp a.eval ⟨d,.call { callee:=.value x,args:=xs.toArray,argTypes:=ats },t,pos,af,gd⟩).run P w = .ok (.enter f (bnd++vs).toArray) w:=by
      have e:(xs.toArray.map a.eval)=vs.toArray:=by rw [← hF.evals hx];simp
      simp [execOp,resolve,hF.eval hfx,Deferred.ofValue,invoke,e,hf]
    unfold Oper.wp
    rw [hrun]
    show Calls P f (bnd++vs).toArray w _
    exact Calls.mono (show Calls P f (bnd++vs).toArray w _ from hc) fun e w' ⟨v,he,h1,h2⟩=>by subst he;exact hk v w' ⟨h1,h2⟩⟩
end
end Go.Sw
