import Derived.Test.YtklpefdaplchbaaSw63
import Derived.Test.YtklpefdaplchbaaSw14
import Derived.Test.YtklpefdaplchbaaSw38
import Derived.Test.YtklpefdaplchbaaSw19
import Derived.Test.YtklpefdaplchbaaEch6
set_option linter.unusedVariables false
set_option linter.unusedSimpArgs false
namespace Go.Sw
open Go Go.RowKit Go.ChangeShapes Go.WideShapes Go.ChangeAt
structure ArgSS (w:World) (sl:Value) (m:Nat) (L:Nat→Nat) (R:Nat→Nat→Int) (xs:Nat→Option Addr) (ca be ob:Nat→Nat):Prop where
  out:∃ x c,sl = .slice x m c
  cell:0<m→∃ b o c,sl = .slice (some ⟨b,o,none⟩) m c∧∀ i,i<m→w.cell? ⟨b,o+i*1,none⟩=some (.slice (xs i) (L i) (ca i))
  adr:∀ i,i<m→0<L i→xs i=some ⟨be i,ob i,none⟩
  num:∀ i,i<m→∀ j,j<L i→w.cell? ⟨be i,ob i+j*1,none⟩=some (.int .i64 (R i j))
namespace ArgSS
variable {w w' : World} {sl : Value} {m : Nat} {L : Nat → Nat} {R : Nat → Nat → Int} {xs : Nat → Option Addr} {ca be ob : Nat → Nat}
end ArgSS
section
variable {H : Type} {enc : TypeId × Value → H} {P : Program} {w : World} {base : Nat} {spare : Nat → Bool} {held : Bool}
end
def rowsC (m:Nat) (L:Nat→Nat) (β:Nat→Nat):Array Value:=fnC m fun i=>.slice (some ⟨β i,0,none⟩) (L i) (L i)
structure SSD (D:Froz) (u:Value) (m:Nat) (L:Nat→Nat) (R:Nat→Nat→Int) (b:Nat) (β:Nat→Nat):Prop where
  val:u = .slice (some ⟨b,0,none⟩) m m
  out:(b,rowsC m L β)∈D
  row:∀ i,i<m→(β i,numI (L i) (R i))∈D
  inj:∀ i j,i<m→j<m→β i=β j→i=j
  ne:∀ i,i<m→β i≠b
def SSOut (w w':World) (m:Nat) (L:Nat→Nat) (R:Nat→Nat→Int) (u:Value):Prop:=∃ (D:Froz) (b:Nat) (β:Nat→Nat),(∀ x ds,(x,ds)∈D→w.heap.size≤x∧Blk w' x ds)∧SSD D u m L R b β
end Go.Sw
namespace Go.Sw
open Go Go.RowKit
def mri (Z k t:Nat) (xs:Nat→Value):Array Value:=fnC Z (fun c=>if c<t then .int .i64 (((k+c:Nat)):Int) else xs c)
section
variable {Z k t : Nat} {xs : Nat → Value}
theorem mri_size:(mri Z k t xs).size=Z:=fnC_size _ _
end
end Go.Sw
namespace Go.Sw
open Go Go.RowKit
structure SSR (D:Froz) (u:Value) (m:Nat) (Ln:Nat→Nat) (F:Nat→Nat→Int) (b cap:Nat) (cs:Array Value) (β κ:Nat→Nat) (C:Nat→Array Value):Prop where
  sl:SlAt 1 u (some (b,cs)) m b cap cs (fun i=>.slice (some ⟨β i,0,none⟩) (Ln i) (κ i))
  out:(b,cs)∈D
  rows:RowsC D m β C
  row:∀ i,i<m→SlAt 1 (.slice (some ⟨β i,0,none⟩) (Ln i) (κ i)) (some (β i,C i)) (Ln i) (β i) (κ i) (C i) (fun c=>.int .i64 (F i c))
  ne:∀ i,i<m→β i≠b
namespace SSR
variable {D D' : Froz} {u : Value} {m b cap : Nat} {Ln β κ : Nat → Nat} {F : Nat → Nat → Int} {cs : Array Value} {C : Nat → Array Value}
theorem more (h:SSR D u m Ln F b cap cs β κ C)(hs:∀ x,x∈D→x∈D'):SSR D' u m Ln F b cap cs β κ C:=⟨h.sl,hs _ h.out,h.rows.more hs,h.row,h.ne⟩
theorem cell (h:SSR D u m Ln F b cap cs β κ C)(i:Nat)(hi:i<m):cs[0+i*1]? = some (.slice (some ⟨β i,0,none⟩) (Ln i) (κ i)):=h.sl.get1 i hi
theorem num (h:SSR D u m Ln F b cap cs β κ C)(i:Nat)(hi:i<m)(c:Nat)(hc:c<Ln i):(C i)[0+c*1]? = some (.int .i64 (F i c)):=(h.row i hi).get1 c hc
end SSR
def SSOutR (w w':World) (m:Nat) (Ln:Nat→Nat) (F:Nat→Nat→Int) (u:Value):Prop:=∃ (D:Froz) (b cap:Nat) (cs:Array Value) (β κ:Nat→Nat) (C:Nat→Array Value),(∀ x ds,(x,ds)∈D→w.heap.size≤x∧Blk w' x ds)∧SSR D u m Ln F b cap cs β κ C
theorem SSOutR.of {w w':World}{L:Own}{D:Froz}{m q:Nat}{Ln β κ:Nat→Nat}{C:Nat→Array Value}{F:Nat→Nat→Int}{u:Value}{b cap:Nat}{cs:Array Value}(hM:Mem w w' L D)(hR:RowsC D m β C)
    (hq:L[q]? = some (some (b,cs))) (hs:SlAt 1 u (some (b,cs)) m b cap cs (fun i=>.slice (some ⟨β i,0,none⟩) (Ln i) (κ i))) (hge:∀ i,i<m→w.heap.size≤β i)
    (hr:∀ i,i<m→SlAt 1 (.slice (some ⟨β i,0,none⟩) (Ln i) (κ i)) (some (β i,C i)) (Ln i) (β i) (κ i) (C i) (fun c=>.int .i64 (F i c))):SSOutR w w' m Ln F u:=by
  refine ⟨(b,cs)::(List.range m).map (fun i=>(β i,C i)),b,cap,cs,β,κ,C,fun x ds hx=>?_,hs,List.mem_cons_self ..,⟨fun i hi=>?_,hR.inj⟩,hr,fun i hi e=>(hM.froz _ _ (hR.mem i hi)).2 q b cs hq e.symm⟩
  · rcases List.mem_cons.1 hx with e | hx
    · simp only [Prod.mk.injEq] at e;obtain ⟨rfl,rfl⟩:=e;exact ⟨hM.ge q hq,hM.row q hq⟩
    · obtain ⟨i,hi,e⟩:=List.mem_map.1 hx
      simp only [Prod.mk.injEq] at e;obtain ⟨rfl,rfl⟩:=e;have hi:i<m:=by simpa using hi
      exact ⟨hge i hi,hM.fzm (hR.mem i hi)⟩
  · exact List.mem_cons_of_mem _ (List.mem_map.2 ⟨i,by simpa using hi,rfl⟩)
def xsf (C:Nat→Array Value) (i:Nat):Nat→Value:=fun c=>((C i)[c]?).getD undef
def mkR (C:Nat→Array Value) (Ln:Nat→Nat) (st:Nat→Nat) (i:Nat):Array Value:=mri (C i).size (st i) (Ln i) (xsf C i)
end Go.Sw
namespace Go.Sw
open Go Go.RowKit
end Go.Sw
namespace Go.Sw
open Go Go.RowKit
section
variable {P : Program} {n : Nat} {F : List (Nat × Value)} {a : Act} {w : World} {d : Option Tmp} {t T T' e : TypeId} {pos : String} {af : Array Edge} {gd : Option (Nat × Bool)} {x y : Operand} {ad : Addr} {l c : Nat}
end
inductive FactF where
  | val (v:Value)
  | own (cs:Array Value) (n:Nat)
  | two (c1 c2:Array Value) (n1 n2:Nat)
def FactF.sem:FactF→Froz→Value→Prop
  | .val v,_,u=>u=v
  | .own cs n,D,u=>∃ b,u = .slice (some ⟨b,0,none⟩) n n∧(b,cs)∈D
  | .two c1 c2 n1 n2,D,u=>∃ b b1 b2,u = .slice (some ⟨b,0,none⟩) 2 2∧(b,#[.slice (some ⟨b1,0,none⟩) n1 n1,.slice (some ⟨b2,0,none⟩) n2 n2])∈D∧(b1,c1)∈D∧(b2,c2)∈D
def factsF (l:List FactF) (s:Nat):Facts (Froz×Option (Nat×Array Value)×Value):=fun i g u _=>match Nat.beq i s with
  | true=>u=g.2.2
  | false => match l[i]? with
    | some f=>f.sem g.1 u
    | none=>True
def ParF (w0:World) (D:Froz) (L0:Own) (kr:Nat) (e0:Option (Nat×Array Value)) (R:Froz→Option (Nat×Array Value)→Value→Prop) (b:Bool) (g:Froz×Option (Nat×Array Value)×Value) (w:World):Prop:=
  Mem w0 w (L0.set kr g.2.1) (g.1++D)∧(∀ x ds,(x,ds)∈g.1→w0.heap.size≤x∧∀ y es,(y,es)∈D→y≠x)∧(b=false→g.2.1=e0)∧(b=true→R g.1 g.2.1 g.2.2)
section
variable {P : Program} {w0 w : World} {D : Froz} {L0 : Own} {kr s i k : Nat} {e0 : Option (Nat × Array Value)} {R : Froz → Option (Nat × Array Value) → Value → Prop} {b : Bool} {g : Froz × Option (Nat × Array Value) × Value} {l : List FactF} {o : Oper} {a : Act}
end
def tri3 (x y z:Int) (c:Nat):Int:=if c=0 then x else if c=1 then y else z
end Go.Sw
namespace Go.Sw
open Go Go.RowKit Go.Ech
structure Tri (w:World) (b o m:Nat) (R:Nat→Nat→Int) (ca be ob:Nat→Nat):Prop where
  cell:∀ i,i<m→w.cell? ⟨b,o+i*1,none⟩=some (.slice (some ⟨be i,ob i,none⟩) 3 (ca i))
  num:∀ i,i<m→∀ j,j<3→w.cell? ⟨be i,ob i+j*1,none⟩=some (.int .i64 (R i j))
def Num3 (w w':World) (f:Nat→Int) (v:Value):Prop:=∃ b c cs,v = .slice (some ⟨b,0,none⟩) 3 c∧w.heap.size≤b∧Blk w' b cs∧SlAt 1 v (some (b,cs)) 3 b c cs (fun k=>.int .i64 (f k))
end Go.Sw
namespace Go.Ech
open Go.Sw
end Go.Ech
namespace Go.Ech
open Go.Sw
def sol (p:Nat) (E:Nat→Nat→Nat) (k:Nat) (ld:Nat→Nat) (c d:Nat):Nat:=if d=c then 1 else match ldAt k ld d with
  | some j=>(p - E j c)%p
  | none=>0
def nf (k:Nat) (ld:Nat→Nat):Nat→Nat
  | 0=>0
  | c+1=>if isLd k ld c then nf k ld c else nf k ld c+1
def SolR (p n:Nat) (E:Nat→Nat→Nat) (k:Nat) (ld:Nat→Nat) (S:Nat→Nat→Nat):Prop:=∀ c,c<n→¬ isLd k ld c→∀ d,S (nf k ld c) d=sol p E k ld c d
def IsKer (p n:Nat) (M:Nat→Nat→Nat) (m r:Nat) (V:Nat→Nat→Nat):Prop:=∃ (k:Nat) (E:Nat→Nat→Nat) (ld ld2:Nat→Nat),Rref p n E k ld∧(∀ x,Ker p n E k x↔Ker p n M m x)∧Rref p n V r ld2∧
  ∀ x,Ker p n V r x↔∀ c,c<n→¬ isLd k ld c→(p:Int)∣dot n (ci (sol p E k ld c)) x
def padN (n:Nat) (E:Nat→Nat→Nat) (i c:Nat):Nat:=if c<n then E i c else 0
def lv (ld:Nat→Nat) (q c:Nat):Nat:=match ldAt q ld c with
  | some j=>j+1
  | none=>0
end Go.Ech
