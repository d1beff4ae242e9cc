import Derived.Test.YtdeinnaeicmlfaaGreatSw29
import Derived.Test.YtdeinnaeicmlfaaGreatSw19
import Derived.Test.YtdeinnaeicmlfaaGreatEch5
set_option linter.unusedVariables false
set_option linter.unusedSimpArgs false
namespace Go.Sw
open Go Go.RowKit
def rowP (N K:Nat) (f:Nat→Nat) (x:Nat→Value):Array Value:=fnC K (fun c=>if c<N then .int .u8 (f c:Int) else x c)
section
variable {N K o : Nat} {f g : Nat → Nat} {x : Nat → Value}
end
structure RowsLP (L:Own) (N m:Nat) (κ:Nat→Nat) (Xs:Nat→Nat→Value) (γ pos:Nat→Nat) (M:Nat→Nat→Nat):Prop where
  at_:∀ i,i<m→L[pos i]? = some (some (γ i,rowP N (κ (γ i)) (M i) (Xs (γ i))))
  inj:∀ i j,i<m→j<m→pos i=pos j→i=j
  ne0:∀ i,i<m→pos i≠0
namespace RowsLP
variable {L : Own} {N m : Nat} {κ : Nat → Nat} {Xs : Nat → Nat → Value} {γ pos : Nat → Nat} {M : Nat → Nat → Nat}
end RowsLP
def rowsLP0 (b0:Nat) (cs0:Array Value) (N m:Nat) (κ:Nat→Nat) (Xs:Nat→Nat→Value) (γ:Nat→Nat) (M:Nat→Nat→Nat):Own:=some (b0,cs0)::(List.range m).map (fun i=>some (γ i,rowP N (κ (γ i)) (M i) (Xs (γ i))))
end Go.Sw
namespace Go.Ech
open Go.Sw
def augI (F:Nat→Nat→Nat) (i c:Nat):Nat:=if c<6 then F i c else if c=6+i then 1 else 0
def FullK (p n:Nat) (F:Nat→Nat→Nat):Prop:=∃ E ld,Rref p 6 E n ld∧∀ x,Ker p 6 E n x↔Ker p 6 F n x
structure IsCop (p n:Nat) (F G:Nat→Nat→Nat):Prop where
  lt:∀ i j,G i j<p
  out:∀ i j,n≤i∨n≤j→G i j=0
  sol:∀ i,i<n→∀ j,j<n→(p:Int)∣sI (fun k=>(F i k:Int)*(G k j:Int)) n - (dl i j:Int)
theorem inv_ex {p u:Nat}(hp:primeN p)(hu:u<p)(h0:u≠0):∃ v,u*v%p=1:=by
  have key:∀ q:Nat,(∀ a,a<q→a≠0→∃ v,v<q∧a*v%q=1)→p=q→∃ v,u*v%p=1:=fun q hq e=>by
    subst e;obtain ⟨v,_,h⟩:=hq u hu h0;exact ⟨v,h⟩
  rcases hp with e | e | e | e | e | e
  · exact key 2 (by decide) e
  · exact key 3 (by decide) e
  · exact key 5 (by decide) e
  · exact key 7 (by decide) e
  · exact key 11 (by decide) e
  · exact key 13 (by decide) e
end Go.Ech
namespace Go.Sw
open Go Go.RowKit
variable {P : Program}
section
variable {n : Nat} {F : List (Nat × Value)} {a : Act} {X : List Nat} {w w0 : World} {L : Own} {D : Froz}
variable {d : Option Tmp} {t : TypeId} {pos : String} {af : Array Edge} {gd : Option (Nat × Bool)} {T : TypeId} {x y : Operand}
theorem g_sliceLo {e:TypeId}{b o len cap i s:Nat}{κ:IntKind}{X:Int}(hT:P.underlying T=some (.slice e))(he:sizeP P e=some s)(hF:Fr n a F)(hx:look F x=some (.slice (some ⟨b,o,none⟩) len cap))(hy:look F y=some (.int κ X))(hX:X=(i:Int))(hi:i≤len)(hl:len≤cap)(hc:i<cap) :
    Gives P ⟨d,.slice T x (some y) none none,t,pos,af,gd⟩ a w (.slice (some ⟨b,o+i*s,none⟩) (len - i) (cap - i)):=by
  subst hX;refine gives_of_run ?_;have h1:(0:Int)≤(i:Int)∧(i:Int)≤(len:Int):=by omega
  have h2:=run_sizeOf he w;have h4:¬ cap=i:=by omega
  have h5:¬ cap - i=0:=by omega
  simp [execOp,Instr.sliceAt,Instr.slice,run_underlying hT,hF.eval hx,hF.eval hy,Instr.sliceBounds,Instr.sliceBound,asIntOf,h1,h2,h4,h5,Addr.add_lit,hi]
end
structure RowsPD (D:Froz) (N m:Nat) (κ:Nat→Nat) (Xs:Nat→Nat→Value) (γ:Nat→Nat) (M:Nat→Nat→Nat):Prop where
  mem:∀ i,i<m→(γ i,rowP N (κ (γ i)) (M i) (Xs (γ i)))∈D
  inj:∀ i j,i<m→j<m→γ i=γ j→i=j
namespace RowsPD
variable {D D' : Froz} {N m : Nat} {κ : Nat → Nat} {Xs : Nat → Nat → Value} {γ : Nat → Nat} {M : Nat → Nat → Nat}
end RowsPD
end Go.Sw
namespace Go.Ech
open Go.Sw
def colM (n:Nat) (F:Nat→Nat→Nat) (j i c:Nat):Nat:=if c<n then F i c else if i=j then 1 else 0
end Go.Ech
namespace Go.Sw
open Go Go.RowKit Go.Ech
def TabOut (w w':World) (N k:Nat) (f:Nat→Nat→Value) (u:Value):Prop:=∃ (D:Froz) (β κ:Nat→Nat) (C:Nat→Array Value) (b cap:Nat) (cs:Array Value),
  (∀ x ds,(x,ds)∈D→w.heap.size≤x∧Blk w' x ds)∧RowsD D N k β κ C f∧SlAt 1 u (some (b,cs)) k b cap cs (fun i=>.slice (some ⟨β i,0,none⟩) N (κ i))∧(b,cs)∈D∧(∀ i j,i<k→j<k→β i=β j→i=j)∧∀ i,i<k→β i≠b
def offD (D:Froz) (b:Nat):Froz:=D.filter (fun x=>decide (x.1≠b))
structure RowsC (D:Froz) (m:Nat) (β:Nat→Nat) (R:Nat→Array Value):Prop where
  mem:∀ i,i<m→(β i,R i)∈D
  inj:∀ i j,i<m→j<m→β i=β j→i=j
namespace RowsC
variable {D D' : Froz} {m : Nat} {β : Nat → Nat} {R : Nat → Array Value}
theorem none:RowsC D 0 β R:=⟨fun i hi=>absurd hi (by omega),fun i j hi=>absurd hi (by omega)⟩
theorem more (h:RowsC D m β R)(hs:∀ x∈D,x∈D'):RowsC D' m β R:=⟨fun i hi=>hs _ (h.mem i hi),h.inj⟩
theorem snoc (h:RowsC D m β R){b:Nat}{cs:Array Value}(hm:(b,cs)∈D)(hn:∀ i,i<m→b≠β i):RowsC D (m+1) (up β m b) (upE R m cs):=by
  refine ⟨fun i hi=>?_,fun i j hi hj e=>?_⟩
  · by_cases e:i=m
    · subst e;simp only [up_eq,upE,if_true];exact hm
    · simp only [up_ne e,upE,if_neg e];exact h.mem i (by omega)
  · unfold up at e
    by_cases e1:i=m<;>by_cases e2:j=m
    · omega
    · rw [if_pos e1,if_neg e2] at e;exact absurd e (hn j (by omega))
    · rw [if_neg e1,if_pos e2] at e;exact absurd e.symm (hn i (by omega))
    · rw [if_neg e1,if_neg e2] at e;exact h.inj i j (by omega) (by omega) e
end RowsC
def rowI (n:Nat) (f:Nat→Nat):Array Value:=fnC n (fun c=>.int .i64 (f c:Int))
end Go.Sw
namespace Go.Sw
open Go Go.RowKit
def mrk (Z k t:Nat) (xs:Nat→Value):Array Value:=fnC Z (fun c=>if c<t then .int .u8 (((k+c:Nat)):Int) else xs c)
section
variable {Z k t : Nat} {xs : Nat → Value}
end
end Go.Sw
