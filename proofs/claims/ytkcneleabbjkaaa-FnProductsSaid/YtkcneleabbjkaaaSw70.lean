import Derived.Test.YtkcneleabbjkaaaSw31
import Derived.DeepKeys4
import Derived.StringKeys
set_option linter.unusedVariables false
set_option linter.unusedSimpArgs false
namespace Go.Ech
open Go.Sw
def Om (n:Nat) (F:Nat→Nat→Nat) (j i c:Nat):Nat:=if c<n then F i c else if i=j then 1 else 0
end Go.Ech
namespace Go.Sw
open Go Go.RowKit Go.Ech
def Nw (w w':World) (N k:Nat) (f:Nat→Nat→Value) (u:Value):Prop:=∃ (D:BI) (β κ:Nat→Nat) (C:Nat→Array Value) (b cap:Nat) (cs:Array Value),
  (∀ x ds,(x,ds)∈D→w.heap.size≤x∧Blk w' x ds)∧RowsD D N k β κ C f∧SlAt 1 u (some (b,cs)) k b cap cs (fun i=>.slice (some ⟨β i,0,none⟩) N (κ i))∧(b,cs)∈D∧(∀ i j,i<k→j<k→β i=β j→i=j)∧∀ i,i<k→β i≠b
def Oc (D:BI) (b:Nat):BI:=D.filter (fun x=>decide (x.1≠b))
structure RowsC (D:BI) (m:Nat) (β:Nat→Nat) (R:Nat→Array Value):Prop where
  mem:∀ i,i<m→(β i,R i)∈D
  inj:∀ i j,i<m→j<m→β i=β j→i=j
namespace RowsC
variable {D D' : BI} {m : Nat} {β : Nat → Nat} {R : Nat → Array Value}
end RowsC
def NH (n:Nat) (f:Nat→Nat):Array Value:=Ag n (fun c=>.int .i64 (f c:Int))
end Go.Sw
namespace Go.Sw
open Go Go.RowKit
def O7 (Z k t:Nat) (xs:Nat→Value):Array Value:=Ag Z (fun c=>if c<t then .int .u8 (((k+c:Nat)):Int) else xs c)
section
variable {Z k t : Nat} {xs : Nat → Value}
end
end Go.Sw
namespace Go.Sw
open Go Go.RowKit Go.Ech
section
variable {X : List Nat} {w0 w w' : World} {L : Own} {D : BI}
def Or (w w':World) (n:Nat) (M:Nat→Nat→Nat) (u:Value):Prop:=∃ (D:BI) (β:Nat→Nat) (b:Nat) (cs:Array Value),
  (∀ x ds,(x,ds)∈D→w.heap.size≤x∧Blk w' x ds)∧RowsC D n β (fun i=>NH n (M i))∧u = .slice (some ⟨b,0,Option.none⟩) n n∧(∀ i,i<n→cs[0+i*1]? = some (.slice (some ⟨β i,0,Option.none⟩) n n))∧(b,cs)∈D∧∀ i,i<n→β i≠b
end
def Nz (w0:World) (L:Own) (N:Nat) (f:Nat→Value) (u:Value) (w':World):Prop:=∃ b cap cs,SlAt 6 u (some (b,cs)) N b cap cs f∧Blk w' b cs∧w0.heap.size≤b∧∀ (k:Nat) c ds,L[k]? = some (some (c,ds))→c≠b
end Go.Sw
namespace Go.Sw
open Go Go.RowKit Go.Ech
def O2 (w0:World) (L:Own) (u:Value) (w':World):Prop:=∃ b,u = .slice (some ⟨b,0,none⟩) 0 0∧Blk w' b #[]∧w0.heap.size≤b∧∀ (k:Nat) c ds,L[k]? = some (some (c,ds))→c≠b
end Go.Sw
namespace Go.Sw
open Go Go.RowKit Go.Ech
def OI (w0:World) (L:Own) (D:BI) (n:Nat) (M:Nat→Nat→Nat) (u:Value) (w':World):Prop:=∃ (D':BI) (β:Nat→Nat) (b:Nat) (cs:Array Value),
  (∀ x ds,(x,ds)∈D'→w0.heap.size≤x∧Blk w' x ds∧∀ (k:Nat) c es,L[k]? = some (some (c,es))→c≠x)∧RowsC D' n β (fun i=>NH n (M i))∧u = .slice (some ⟨b,0,Option.none⟩) n n∧(∀ i,i<n→cs[0+i*1]? = some (.slice (some ⟨β i,0,Option.none⟩) n n))∧(b,cs)∈D'∧(∀ i,i<n→β i≠b)∧∀ i,i<n→∀ x∈D,x.1≠β i
def Oq (R:Value→World→Prop) (u:Value) (w':World):Prop:=∃ l,u = .tuple #[l,.int .i64 0]∧R l w'
end Go.Sw
namespace Go.Sw
open Go Go.RowKit
variable {P : Program}
def PA (s:ByteArray) (i:Nat):Nat:=(s.data.getD i 0).toNat
section
variable {n : Nat} {F : List (Nat × Value)} {a : Act} {w : World} {d : Option Tmp} {t T T' : TypeId} {pos : String} {af : Array Edge} {gd : Option (Nat × Bool)} {x y z : Operand}
end
end Go.Sw
namespace Go.Sw
open Go Go.RowKit
variable {P : Program}
def Exit.goes (J:Nat→Act→World→Prop) (Q:Exit→Act→World→Prop):Exit→Act→World→Prop
  | .goto l,a,w=>J l a w
  | e,a,w=>Q e a w
section
variable {Q : Exit → Act → World → Prop} {J : Nat → Act → World → Prop} {K : Act → World → Prop} {a : Act} {w : World}
end
section
variable {n : Nat} {F : List (Nat × Value)} {a : Act} {w : World} {d : Option Tmp} {t T : TypeId} {pos : String} {af : Array Edge} {gd : Option (Nat × Bool)} {x : Operand}
theorem BE {b o:Nat}(hF:Fr n a F)(hx:look F x=some (ptr b o)):BW P ⟨d,.nilCheck x,t,pos,af,gd⟩ a w (ptr b o):=
  An (by simp [execOp,hF.eval hx])
end
section
variable {P : Program} {fn : Func} {a : Act} {w : World}
theorem NW {r s t:ResultVar}{v u x:Value}{R:Ending→World→Prop}(hr:fn.results = #[r,s,t])(hd:a.defers=[])(h1:Dr P a w r v)(h2:Dr P a w s u)(h3:Dr P a w t x)(h:R (.returned (.tuple #[v,u,x])) w):bodyPost P fn R .ret a w:=
  bodyPost_ret (by
    rw [Dk,hr]
    simp [Cc h1,Cc h2,Cc h3]) hd h
end
end Go.Sw
namespace Go.Sw
open Go Go.RowKit
def MY (P:Program):Nat→TypeId→List IntKind→Bool
  | 0,_,_=>false
  | d + 1, t, ks =>
    match P.underlying t with
    | some (.int q)=>decide (ks=[q])
    | some (.array n e)=>Nat.beq ks.length (P.cellsOf t) && (List.range n).all fun i=>MY P d e ((ks.drop (i*P.cellsOf e)).take (P.cellsOf e))
    | some (.struct fs) => Nat.beq ks.length (P.cellsOf t) && fs.all (·.name != "_") && fs.toList.all fun f => MY P d f.type ((ks.drop f.offset).take (P.cellsOf f.type))
    | _=>false
def OK (cs:List Value) (ks:List IntKind):Prop:=cs.length=ks.length∧∀ (i:Nat) (q:IntKind),ks[i]? = some q→∃ x,cs[i]? = some (Value.int q x)∧(Lit.int q x).wf=true
def N7 (P:Program) (k:TypeId):Bool:=match P.underlying k with | some (.array _ _) | some (.struct _)=>true | _=>false
def IsMap (w:World) (b:Nat) (es:Array MapEntry) (c:Nat):Prop:=w.heap[b]? = some (.map es c)
section
variable {P : Program} {n : Nat} {F : List (Nat × Value)} {a : Act} {w w0 : World} {d : Option Tmp} {t T kt et : TypeId} {pos : String} {af : Array Edge} {gd : Option (Nat × Bool)} {x y z : Operand} {X : List Nat} {L : Own} {D : BI}
end
end Go.Sw
namespace Go.Sw
open Go Go.RowKit
section
variable {P : Program} {n : Nat} {F : List (Nat × Value)} {a : Act} {w w0 : World} {d : Option Tmp} {t T kt et : TypeId} {pos : String} {af : Array Edge} {gd : Option (Nat × Bool)} {x y z : Operand} {X : List Nat} {L : Own} {D : BI}
end
end Go.Sw
namespace Go.Sw
open Go Go.RowKit
section
variable {P : Program} {n : Nat} {F : List (Nat × Value)} {a : Act} {w : World} {d : Option Tmp} {t T T' : TypeId} {pos : String} {af : Array Edge} {gd : Option (Nat × Bool)} {x y : Operand} {k : IntKind} {A B C : Int}
end
end Go.Sw
