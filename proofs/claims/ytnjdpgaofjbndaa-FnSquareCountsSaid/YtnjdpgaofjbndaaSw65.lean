import Derived.Test.YtnjdpgaofjbndaaEch5
import Derived.Test.YtnjdpgaofjbndaaSw27
import Derived.Test.YtnjdpgaofjbndaaSw14
import Derived.Test.YtnjdpgaofjbndaaSw21
import Derived.Test.YtnjdpgaofjbndaaSw9
import Derived.Recover
import Derived.Test.YtnjdpgaofjbndaaSw19
set_option linter.unusedVariables false
set_option linter.unusedSimpArgs false
namespace Go.Sw
open Go Go.RowKit Go.ChangeShapes Go.WideShapes Go.ChangeAt
def ArgVs (w:World) (sl:Value) (m:Nat) (V:Nat→Nat→Nat):Prop:=
  (∃ x c,sl = .slice x m c)∧(0<m→∃ b o c,sl = .slice (some ⟨b,o,none⟩) m c∧∀ i,i<m→∀ j,j<6→w.cell? ⟨b,o+i*6+j,none⟩=some (.int .u8 (V i j:Int)))
theorem ArgVs.ext {w w':World}{sl:Value}{m:Nat}{V:Nat→Nat→Nat}(h:ArgVs w sl m V)(hx:Ext w w'):ArgVs w' sl m V:=
  ⟨h.1,fun hm=>by obtain ⟨b,o,c,h1,h3⟩:=h.2 hm;exact ⟨b,o,c,h1,fun i hi j hj=>cell_ext (h3 i hi j hj) hx⟩⟩
theorem ArgVs.one {w:World}{sl:Value}{m:Nat}{V:Nat→Nat→Nat}(h:ArgVs w sl m V):sl.oneCell'=true:=by
  obtain ⟨⟨x,c,rfl⟩,_⟩:=h;rfl
section
variable {P : Program} {n : Nat} {F : List (Nat × Value)} {a : Act} {w : World} {d : Option Tmp} {t : TypeId} {pos : String} {af : Array Edge} {gd : Option (Nat × Bool)} {x : Operand}
end
section
variable {H : Type} {enc : TypeId × Value → H} {P : Program} {w w' : World} {base : Nat} {spare : Nat → Bool} {held : Bool}
theorem cells?_get {a:Addr}{n:Nat}{cs:List Value}(h:w.cells? base a n=some cs):cs.length=n∧∀ i,i<n→w.cell? (a.add i)=cs[i]?:=by
  unfold World.cells? at h
  split at h
  · have hl:=mapM_some_length h
    rw [List.length_range] at hl;refine ⟨hl.symm ▸ rfl,fun i hi=>?_⟩;have:=mapM_some_get h i i (by rw [List.getElem?_range hi]);exact this
  · cases h
end
section
variable {H : Type} {enc : TypeId × Value → H} {P : Program} {w : World} {base : Nat} {spare : Nat → Bool} {held : Bool}
end
section
variable {P : Program} {X : List Nat} {w0 w : World} {L : Own} {D : Froz} {n : Nat} {F : List (Nat × Value)} {a : Act} {d : Option Tmp} {T : TypeId} {t : TypeId} {pos : String} {af : Array Edge} {gd : Option (Nat × Bool)} {x y : Operand}
end
end Go.Sw
namespace Go.Sw
open Go Go.RowKit Go.ChangeShapes Go.WideShapes Go.ChangeAt
def grpC (n:Int) (M:Nat→Nat→Nat):Array Value:=fnC 37 fun c=>if c=0 then .int .i64 n else .int .u8 (M ((c - 1) / 6) ((c - 1)%6))
section
variable {n q : Int} {M N : Nat → Nat → Nat}
theorem grpC_size:(grpC n M).size=37:=fnC_size _ _
theorem grpC_n {o:Nat}(h:o=0):(grpC n M)[o]? = some (.int .i64 n):=by subst h;exact fnC_get (by omega)
theorem grpC_M {o:Nat}(i j:Nat)(h:o=1+i*6+j)(hi:i<6)(hj:j<6):(grpC n M)[o]? = some (.int .u8 (M i j:Int)):=by
  subst h
  unfold grpC
  rw [fnC_get (by omega),if_neg (by omega),show (1+i*6+j - 1) / 6=i by omega,show (1+i*6+j - 1)%6=j by omega]
theorem grpC_tab {o e:Nat}(h:o=1)(he:e=o+36):(grpC n M).extract o e=planeC M:=by
  subst h;exact extract_ext he (by rw [grpC_size];omega) fun c hc=>grpC_M (c / 6) (c%6) (by omega) (by omega) (by omega)
theorem grpC_one:∀ u∈(grpC n M).toList,u.oneCell'=true:=fnC_one fun i _=>by split<;>rfl
theorem grpC_eq {c:Array Value}(hs:c.size=37)(h0:c[0]? = some (.int .i64 n))(hT:∀ i j,i<6→j<6→c[1+i*6+j]? = some (.int .u8 (M i j:Int))):c=grpC n M:=by
  apply Array.ext_getElem?
  intro i
  by_cases hi:i<37
  · by_cases e0:i=0
    · subst e0;rw [h0,grpC_n rfl]
    · have e:i=1+((i - 1) / 6)*6+(i - 1)%6:=by omega
      rw [e,hT _ _ (by omega) (by omega),grpC_M _ _ rfl (by omega) (by omega)]
  · rw [Array.getElem?_eq_none (by omega),Array.getElem?_eq_none (by rw [grpC_size];omega)]
theorem grpC_setn {o:Nat}(h:o=0):(grpC n M).setIfInBounds o (.int .i64 q)=grpC q M:=by
  subst h;refine grpC_eq (by rw [Array.size_setIfInBounds,grpC_size]) ?_ ?_
  · rw [Array.getElem?_setIfInBounds_self_of_lt (by rw [grpC_size];omega)]
  · intro i j hi hj;rw [Array.getElem?_setIfInBounds_ne (by omega)];exact grpC_M i j rfl hi hj
theorem grpC_congr (h:∀ i j,i<6→j<6→M i j=N i j):grpC n M=grpC n N:=fnC_congr fun c hc=>by rw [h _ _ (by omega) (by omega)]
end
def grpKs:List IntKind:=.i64::List.replicate 36 .u8
section
variable {H : Type} {enc : TypeId × Value → H} {P : Program} {w : World} {base : Nat} {spare : Nat → Bool} {held : Bool} {t : TypeId} {v : Value} {d : DataW H} {p : List MemPlace}
end
end Go.Sw
namespace Go.Sw
open Go Go.RowKit
variable {P : Program}
def addD (ds:List Deferred) (a:Act):Act:=⟨a.tmps,a.defers++ds⟩
section
variable {ds : List Deferred} {ops : Array Oper} {Q : Exit → Act → World → Prop} {n : Nat} {F : List (Nat × Value)} {a : Act} {w : World}
end
end Go.Sw
namespace Go.Sw
open Go Go.RowKit
variable {P : Program}
section
variable {n : Nat} {F : List (Nat × Value)} {a : Act} {w : World} {d : Option Tmp} {t : TypeId} {pos : String} {af : Array Edge} {gd : Option (Nat × Bool)} {T : TypeId} {x y : Operand}
end
end Go.Sw
namespace Go.Sw
open Go Go.RowKit
variable {P : Program}
section
variable {ops : Array Oper} {Q : Exit → Act → World → Prop} {rest : List Oper} {n : Nat} {F : List (Nat × Value)} {a : Act} {w : World} {d : Option Tmp} {t : TypeId} {pos : String} {af : Array Edge} {gd : Option (Nat × Bool)}
def okA (tm:Array Value):List (Nat×Value)→Prop
  | []=>True
  | (t,v)::r=>tm.getD t undef=v∧okA tm r
def Clo (P:Program) (f b:Nat) (u:FrameMode) (w:World) (c:Value):Prop:=
  CallsD P f #[ptr b 0] u w fun e u' w'=>(∃ v,e = .returned v)∧settle u' = .returning∧ExtX [b] w w'∧Blk w' b #[c]
end
end Go.Sw
namespace Go.Sw
open Go Go.RowKit
theorem build4 {n:Nat}{a:Act}{F:List (Nat×Value)}{x0 x1 x2 x3:Operand}{v0 v1 v2 v3:Value}(hF:Fr n a F)(h0:look F x0=some v0)(h1:look F x1=some v1)(h2:look F x2=some v2)(h3:look F x3=some v3):(#[(0,x0),(1,x1),(2,x2),(3,x3)]:Array (Nat×Operand)).toList.map (fun p=>(p.1,a.eval p.2))=[(0,v0),(1,v1),(2,v2),(3,v3)]:=by simp [hF.eval h0,hF.eval h1,hF.eval h2,hF.eval h3]
def l4 (a b c d:Nat) (i:Nat):Nat:=match i with
  | 0=>a
  | 1=>b
  | 2=>c
  | _=>d
theorem lit3_get {a b c:Nat}:∀ i,i<3→(#[.int .i64 (a:Int),.int .i64 (b:Int),.int .i64 (c:Int)]:Array Value)[0+i*1]? = some (.int .i64 ((l4 a b c 0 i:Nat):Int)):=fun i hi=>by
  obtain rfl | rfl | rfl:i=0∨i=1∨i=2:=by omega
  · rfl
  · rfl
  · rfl
theorem algC_putRow {p n:Int}{T:Nat→Nat→Nat→Nat}{f v:Nat→Nat}{o:Nat}(a b:Nat)(h:o=2+a*36+b*6)(ha:a<6)(hb:b<6):splice (algC p n T f) o (vecC v)=algC p n (fun i j k=>if i=a∧j=b then v k else T i j k) f:=by
  subst h;have hz:2+a*36+b*6+(vecC v).size≤(algC p n T f).size:=by rw [vecC_size,cells_size];omega
  refine algC_eq (by rw [splice_size _ _ _ hz,cells_size]) ?_ ?_ ?_ ?_
  · rw [splice_get _ _ _ _ hz,if_neg (by omega)];exact algC_p rfl
  · rw [splice_get _ _ _ _ hz,if_neg (by omega)];exact algC_n rfl
  · intro i j k hi hj hk
    rw [splice_get _ _ _ _ hz,vecC_size]
    by_cases e:i=a∧j=b
    · rw [if_pos (by omega),if_pos e];exact vecC_get k (by omega) hk
    · rw [if_neg (by omega),if_neg e];exact algC_T i j k rfl hi hj hk
  · intro i hi;rw [splice_get _ _ _ _ hz,vecC_size,if_neg (by omega)];exact algC_f i rfl hi
theorem algC_congr {p n:Int}{T U:Nat→Nat→Nat→Nat}{f:Nat→Nat}(h:∀ i,i<6→∀ j,j<6→∀ k,k<6→T i j k=U i j k):algC p n T f=algC p n U f:=by
  unfold algC
  refine fnC_congr fun c hc=>?_
  by_cases h0:c=0
  · rw [if_pos h0,if_pos h0]
  · rw [if_neg h0,if_neg h0]
    by_cases h1:c=1
    · rw [if_pos h1,if_pos h1]
    · rw [if_neg h1,if_neg h1]
      by_cases h2:c<218
      · rw [if_pos h2,if_pos h2,h _ (by omega) _ (by omega) _ (by omega)]
      · rw [if_neg h2,if_neg h2]
theorem algC_setE {p n:Int}{T:Nat→Nat→Nat→Nat}{f:Nat→Nat}{o v:Nat}(a b c:Nat)(h:o=2+a*36+b*6+c)(ha:a<6)(hb:b<6)(hc:c<6):(algC p n T f).setIfInBounds o (.int .u8 (v:Int))=algC p n (fun i j k=>if i=a∧j=b∧k=c then v else T i j k) f:=by
  subst h;refine algC_eq (by rw [Array.size_setIfInBounds,cells_size]) ?_ ?_ ?_ ?_
  · rw [Array.getElem?_setIfInBounds_ne (by omega)];exact algC_p rfl
  · rw [Array.getElem?_setIfInBounds_ne (by omega)];exact algC_n rfl
  · intro i j k hi hj hk
    by_cases e:i=a∧j=b∧k=c
    · obtain ⟨rfl,rfl,rfl⟩:=e
      rw [Array.getElem?_setIfInBounds_self_of_lt (by rw [cells_size];omega),if_pos ⟨rfl,rfl,rfl⟩]
    · rw [Array.getElem?_setIfInBounds_ne (by omega),if_neg e];exact algC_T i j k rfl hi hj hk
  · intro i hi;rw [Array.getElem?_setIfInBounds_ne (by omega)];exact algC_f i rfl hi
section
variable {P : Program} {n : Nat} {F : List (Nat × Value)} {a : Act} {w : World} {d : Option Tmp} {t : TypeId} {pos : String} {af : Array Edge} {gd : Option (Nat × Bool)}
theorem g_makeFuncB {fn:Fn}{x:Operand}{v:Value}(hF:Fr n a F)(hx:look F x=some v):Gives P ⟨d,.makeFunc fn #[x] #[],t,pos,af,gd⟩ a w (.func fn #[v] #[]):=
  gives_of_run (by simp [execOp,Instr.makeFunc,hF.eval hx])
theorem d_callVB {f:FuncId}{x:Operand}{bnd:List Value}{xs:List Operand}{vs:List Value}{ats:Array TypeId}{R:Value→World→Prop}(hf:∀ args w,(callFunc f args).run P w = .ok (.enter f args) w)(hF:Fr n a F)(hfx:look F x=some (.func (.func f) bnd.toArray #[]))(hx:looks F xs vs)(hc:CallsR P f (bnd++vs).toArray w R) :
    Does P ⟨d,.call { callee:=.value x,args:=xs.toArray,argTypes:=ats },t,pos,af,gd⟩ a w (fun u w'=>Ext w w'∧R u w'):=
  ⟨fun K Q hk=>by
    have hrun:(execOp a.eval ⟨d,.call { callee:=.value x,args:=xs.toArray,argTypes:=ats },t,pos,af,gd⟩).run P w = .ok (.enter f (bnd++vs).toArray) w:=by
      have e:(xs.toArray.map a.eval)=vs.toArray:=by rw [← hF.evals hx];simp
      simp [execOp,resolve,hF.eval hfx,Deferred.ofValue,invoke,e,hf]
    unfold Oper.wp
    rw [hrun]
    show Calls P f (bnd++vs).toArray w _
    exact Calls.mono (show Calls P f (bnd++vs).toArray w _ from hc) fun e w' ⟨v,he,h1,h2⟩=>by subst he;exact hk v w' ⟨h1,h2⟩⟩
end
end Go.Sw
namespace Go.Sw
open Go Go.RowKit Go.ChangeShapes Go.WideShapes Go.ChangeAt
structure ArgSS (w:World) (sl:Value) (m:Nat) (L:Nat→Nat) (R:Nat→Nat→Int) (xs:Nat→Option Addr) (ca be ob:Nat→Nat):Prop where
  out:∃ x c,sl = .slice x m c
  cell:0<m→∃ b o c,sl = .slice (some ⟨b,o,none⟩) m c∧∀ i,i<m→w.cell? ⟨b,o+i*1,none⟩=some (.slice (xs i) (L i) (ca i))
  adr:∀ i,i<m→0<L i→xs i=some ⟨be i,ob i,none⟩
  num:∀ i,i<m→∀ j,j<L i→w.cell? ⟨be i,ob i+j*1,none⟩=some (.int .i64 (R i j))
namespace ArgSS
variable {w w' : World} {sl : Value} {m : Nat} {L : Nat → Nat} {R : Nat → Nat → Int} {xs : Nat → Option Addr} {ca be ob : Nat → Nat}
theorem ext (h:ArgSS w sl m L R xs ca be ob)(hx:Ext w w'):ArgSS w' sl m L R xs ca be ob:=
  ⟨h.out,fun hm=>by obtain ⟨b,o,c,h1,h2⟩:=h.cell hm;exact ⟨b,o,c,h1,fun i hi=>cell_ext (h2 i hi) hx⟩,h.adr,fun i hi j hj=>cell_ext (h.num i hi j hj) hx⟩
theorem one (h:ArgSS w sl m L R xs ca be ob):sl.oneCell'=true:=by
  obtain ⟨x,c,rfl⟩:=h.out;rfl
theorem row (h:ArgSS w sl m L R xs ca be ob){i:Nat}(hi:i<m):ArgSl w (.slice (xs i) (L i) (ca i)) (L i) (R i):=
  ⟨⟨_,_,rfl⟩,fun hl=>⟨be i,ob i,ca i,by rw [h.adr i hi hl],h.num i hi⟩⟩
theorem congr {R':Nat→Nat→Int}(h:ArgSS w sl m L R xs ca be ob)(e:∀ i,i<m→∀ j,j<L i→R i j=R' i j):ArgSS w sl m L R' xs ca be ob:=
  ⟨h.out,h.cell,h.adr,fun i hi j hj=>by rw [← e i hi j hj];exact h.num i hi j hj⟩
end ArgSS
section
variable {H : Type} {enc : TypeId × Value → H} {P : Program} {w : World} {base : Nat} {spare : Nat → Bool} {held : Bool}
end
def rowsC (m:Nat) (L:Nat→Nat) (β:Nat→Nat):Array Value:=fnC m fun i=>.slice (some ⟨β i,0,none⟩) (L i) (L i)
structure SSD (D:Froz) (u:Value) (m:Nat) (L:Nat→Nat) (R:Nat→Nat→Int) (b:Nat) (β:Nat→Nat):Prop where
  val:u = .slice (some ⟨b,0,none⟩) m m
  out:(b,rowsC m L β)∈D
  row:∀ i,i<m→(β i,numI (L i) (R i))∈D
  inj:∀ i j,i<m→j<m→β i=β j→i=j
  ne:∀ i,i<m→β i≠b
theorem SSD.more {D D':Froz}{u:Value}{m b:Nat}{L β:Nat→Nat}{R:Nat→Nat→Int}(h:SSD D u m L R b β)(hs:∀ x,x∈D→x∈D'):SSD D' u m L R b β:=⟨h.val,hs _ h.out,fun i hi=>hs _ (h.row i hi),h.inj,h.ne⟩
def SSOut (w w':World) (m:Nat) (L:Nat→Nat) (R:Nat→Nat→Int) (u:Value):Prop:=∃ (D:Froz) (b:Nat) (β:Nat→Nat),(∀ x ds,(x,ds)∈D→w.heap.size≤x∧Blk w' x ds)∧SSD D u m L R b β
theorem Blk.cellAt {w:World}{b i:Nat}{cs:Array Value}{v:Value}(h:Blk w b cs)(hv:cs[i]? = some v):w.cell? ⟨b,i,none⟩=some v:=(h.cell i).trans hv
end Go.Sw
namespace Go.Sw
open Go Go.RowKit
def cnt (S:Nat→Bool):Nat→Nat
  | 0=>0
  | i+1=>cnt S i+if S i=true then 1 else 0
theorem cnt_yes {S:Nat→Bool}{i:Nat}(h:S i=true):cnt S (i+1)=cnt S i+1:=by simp only [cnt];rw [if_pos h]
theorem cnt_no {S:Nat→Bool}{i:Nat}(h:¬ S i=true):cnt S (i+1)=cnt S i:=by simp only [cnt];rw [if_neg h];rfl
theorem cnt_le {S:Nat→Bool}:∀ i,cnt S i≤i
  | 0=>Nat.le_refl _
  | i+1=>by have:=cnt_le (S:=S) i;simp only [cnt];split<;>omega
theorem cnt_mono {S:Nat→Bool}{i:Nat}:∀ {j:Nat},i≤j→cnt S i≤cnt S j
  | 0,h=>by rw [show i=0 by omega];exact Nat.le_refl _
  | j + 1, h => by
    by_cases e:i=j+1
    · rw [e];exact Nat.le_refl _
    · exact Nat.le_trans (cnt_mono (S:=S) (j:=j) (by omega)) (Nat.le_add_right _ _)
theorem cnt_lt {S:Nat→Bool}{i j:Nat}(hi:S i=true)(h:i<j):cnt S i<cnt S j:=by
  have h1:=cnt_yes hi;have h2:=cnt_mono (S:=S) (show i+1≤j by omega)
  omega
theorem cnt_inj {S:Nat→Bool}{i j:Nat}(hi:S i=true)(hj:S j=true)(h:cnt S i=cnt S j):i=j:=by
  rcases Nat.lt_trichotomy i j with e | e | e
  · have:=cnt_lt hi e;omega
  · exact e
  · have:=cnt_lt hj e;omega
theorem cnt_ex {S:Nat→Bool}:∀ {n k:Nat},k<cnt S n→∃ j,j<n∧S j=true∧cnt S j=k
  | 0,k,h=>absurd h (by simp [cnt])
  | n + 1, k, h => by
    by_cases e:S n=true
    · rw [cnt_yes e] at h
      by_cases e2:k=cnt S n
      · exact ⟨n,by omega,e,e2.symm⟩
      · obtain ⟨j,h1,h2⟩:=cnt_ex (S:=S) (n:=n) (k:=k) (by omega)
        exact ⟨j,by omega,h2⟩
    · rw [cnt_no e] at h
      obtain ⟨j,h1,h2⟩:=cnt_ex (S:=S) (n:=n) (k:=k) h
      exact ⟨j,by omega,h2⟩
def asc (S:Nat→Bool):Nat→Nat→Nat
  | 0,_=>0
  | n+1,k=>if S n=true∧cnt S n=k then n else asc S n k
theorem asc_at {S:Nat→Bool}{j:Nat}(h:S j=true):∀ {n:Nat},j<n→asc S n (cnt S j)=j
  | 0,hj=>absurd hj (by omega)
  | n + 1, hj => by
    simp only [asc]
    by_cases e:S n=true∧cnt S n=cnt S j
    · rw [if_pos e];exact cnt_inj e.1 h e.2
    · rw [if_neg e]
      refine asc_at h ?_
      by_cases e2:j=n
      · subst e2;exact absurd ⟨h,rfl⟩ e
      · omega
theorem asc_of {S:Nat→Bool}{n k:Nat}(h:k<cnt S n):asc S n k<n∧S (asc S n k)=true∧cnt S (asc S n k)=k:=by
  obtain ⟨j,h1,h2,h3⟩:=cnt_ex h;have e:=asc_at h2 h1;rw [h3] at e;rw [e];exact ⟨h1,h2,h3⟩
theorem asc_lt {S:Nat→Bool}{n i k:Nat}(hik:i<k)(h:k<cnt S n):asc S n i<asc S n k:=by
  have h1:=asc_of (show i<cnt S n by omega);have h2:=asc_of h
  rcases Nat.lt_trichotomy (asc S n i) (asc S n k) with e | e | e
  · exact e
  · have:=h1.2.2;rw [e,h2.2.2] at this;omega
  · have:=cnt_lt h2.2.1 e;omega
theorem asc_unique {S:Nat→Bool}{n m:Nat}{g:Nat→Nat}(hg:∀ i,i+1<m→g i<g (i+1))(hS:∀ x,x<n→(S x=true↔∃ i,i<m∧g i=x))(hn:∀ i,i<m→g i<n):cnt S n=m∧∀ i,i<m→g i=asc S n i:=by
  have mono:∀ d i,i+d<m→0<d→g i<g (i+d):=by
    intro d
    induction d with
    | zero=>intro i _ h;omega
    | succ d ih =>
      intro i h _;have h1:=hg (i+d) (by omega)
      by_cases e:d=0
      · subst e;exact h1
      · exact Nat.lt_trans (ih i (by omega) (by omega)) h1
  have key:∀ k,k<m→cnt S (g k)=k:=by
    intro k
    induction k with
    | zero =>
      intro h0;have e:∀ j,j≤g 0→cnt S j=0:=by
        intro j
        induction j with
        | zero=>intro _;rfl
        | succ j ih =>
          intro hj;rw [cnt_no,ih (by omega)];intro hs;obtain ⟨i,hi,he⟩:=(hS j (by have:=hn 0 h0;omega)).1 hs
          by_cases e0:i=0
          · subst e0;omega
          · have:=mono i 0 (by omega) (by omega);rw [Nat.zero_add] at this;omega
      exact e _ (Nat.le_refl _)
    | succ k ih =>
      intro hk;have h1:=ih (by omega);have h2:=hg k hk;have hs:S (g k)=true:=(hS _ (hn k (by omega))).2 ⟨k,by omega,rfl⟩;have e:∀ d,g k+1+d≤g (k+1)→cnt S (g k+1+d)=k+1:=by
        intro d
        induction d with
        | zero=>intro _;rw [Nat.add_zero,cnt_yes hs,h1]
        | succ d ih2 =>
          intro hd;rw [← Nat.add_assoc,cnt_no,ih2 (by omega)];intro hq;obtain ⟨i,hi,he⟩:=(hS _ (by have:=hn (k+1) hk;omega)).1 hq
          by_cases e0:i≤k
          · by_cases e1:i=k
            · subst e1;omega
            · have:=mono (k - i) i (by omega) (by omega);rw [show i+(k - i)=k by omega] at this;omega
          · by_cases e1:i=k+1
            · subst e1;omega
            · have:=mono (i - (k+1)) (k+1) (by omega) (by omega);rw [show k+1+(i - (k+1))=i by omega] at this;omega
      have:=e (g (k+1) - (g k+1)) (by omega)
      rwa [show g k+1+(g (k+1) - (g k+1))=g (k+1) by omega] at this
  have hSg:∀ i,i<m→S (g i)=true:=fun i hi=>(hS _ (hn i hi)).2 ⟨i,hi,rfl⟩;refine ⟨?_,fun i hi=>?_⟩
  · by_cases h0:m=0
    · subst h0
      have e:∀ j,j≤n→cnt S j=0:=by
        intro j
        induction j with
        | zero=>intro _;rfl
        | succ j ih =>
          intro hj;rw [cnt_no,ih (by omega)];intro hs;obtain ⟨i,hi,_⟩:=(hS j (by omega)).1 hs
          omega
      exact e n (Nat.le_refl _)
    · have h1:=key (m - 1) (by omega)
      have h2:=cnt_lt (hSg (m - 1) (by omega)) (hn (m - 1) (by omega))
      by_cases h3:cnt S n≤m
      · omega
      · obtain ⟨j,hj,hs,hc⟩:=cnt_ex (S:=S) (n:=n) (k:=m) (by omega)
        obtain ⟨i,hi,he⟩:=(hS j hj).1 hs;have:=key i hi;rw [he] at this;omega
  · have:=asc_at (hSg i hi) (hn i hi)
    rw [key i hi] at this;exact this.symm
end Go.Sw
