import Derived.Test.YtccdgjmomcljkaaDoorEch6
set_option linter.unusedVariables false
set_option linter.unusedSimpArgs false
namespace Go.Sw
open Go Go.RowKit
variable {P : Program}
section
variable {n : Nat} {F : List (Nat × Value)} {a : Act} {X : List Nat} {w w0 : World} {L : Own} {D : Froz}
variable {d : Option Tmp} {t : TypeId} {pos : String} {af : Array Edge} {gd : Option (Nat × Bool)} {T : TypeId} {x y : Operand}
theorem g_sliceLo {e:TypeId}{b o len cap i s:Nat}{κ:IntKind}{X:Int}(hT:P.underlying T=some (.slice e))(he:sizeP P e=some s)(hF:Fr n a F)(hx:look F x=some (.slice (some ⟨b,o,none⟩) len cap))(hy:look F y=some (.int κ X))(hX:X=(i:Int))(hi:i≤len)(hl:len≤cap)(hc:i<cap) :
    Gives P ⟨d,.slice T x (some y) none none,t,pos,af,gd⟩ a w (.slice (some ⟨b,o+i*s,none⟩) (len - i) (cap - i)):=by
  subst hX;refine gives_of_run ?_;have h1:(0:Int)≤(i:Int)∧(i:Int)≤(len:Int):=by omega
  have h2:=run_sizeOf he w;have h4:¬ cap=i:=by omega
  have h5:¬ cap - i=0:=by omega
  simp [execOp,Instr.sliceAt,Instr.slice,run_underlying hT,hF.eval hx,hF.eval hy,Instr.sliceBounds,Instr.sliceBound,asIntOf,h1,h2,h4,h5,Addr.add_lit,hi]
end
structure RowsPD (D:Froz) (N m:Nat) (κ:Nat→Nat) (Xs:Nat→Nat→Value) (γ:Nat→Nat) (M:Nat→Nat→Nat):Prop where
  mem:∀ i,i<m→(γ i,rowP N (κ (γ i)) (M i) (Xs (γ i)))∈D
  inj:∀ i j,i<m→j<m→γ i=γ j→i=j
namespace RowsPD
variable {D D' : Froz} {N m : Nat} {κ : Nat → Nat} {Xs : Nat → Nat → Value} {γ : Nat → Nat} {M : Nat → Nat → Nat}
end RowsPD
end Go.Sw
namespace Go.Ech
open Go.Sw
def colM (n:Nat) (F:Nat→Nat→Nat) (j i c:Nat):Nat:=if c<n then F i c else if i=j then 1 else 0
end Go.Ech
namespace Go.Sw
open Go Go.RowKit Go.Ech
def TabOut (w w':World) (N k:Nat) (f:Nat→Nat→Value) (u:Value):Prop:=∃ (D:Froz) (β κ:Nat→Nat) (C:Nat→Array Value) (b cap:Nat) (cs:Array Value),
  (∀ x ds,(x,ds)∈D→w.heap.size≤x∧Blk w' x ds)∧RowsD D N k β κ C f∧SlAt 1 u (some (b,cs)) k b cap cs (fun i=>.slice (some ⟨β i,0,none⟩) N (κ i))∧(b,cs)∈D∧(∀ i j,i<k→j<k→β i=β j→i=j)∧∀ i,i<k→β i≠b
def offD (D:Froz) (b:Nat):Froz:=D.filter (fun x=>decide (x.1≠b))
theorem mem_offD {D:Froz}{b:Nat}{x:Nat×Array Value}:x∈offD D b↔x∈D∧x.1≠b:=by
  unfold offD;rw [List.mem_filter];simp
theorem MemX.thaw {X:List Nat}{w0 w:World}{L:Own}{D:Froz}(k:Nat)(h:MemX X w0 w L D){b:Nat}{cs:Array Value}(hm:(b,cs)∈D)(hb:w0.heap.size≤b):MemX X w0 w (L.set k (some (b,cs))) (offD D b):=by
  have hb1:=h.froz b cs hm;have key:∀ (j:Nat) c ds,(L.set k (some (b,cs)))[j]? = some (some (c,ds))→(j=k∧c=b∧ds=cs)∨(j≠k∧L[j]? = some (some (c,ds))):=by
    intro j c ds hj;rw [List.getElem?_set] at hj
    split at hj
    · split at hj
      · simp only [Option.some.injEq,Prod.mk.injEq] at hj;rename_i e _;exact .inl ⟨e.symm,hj.1.symm,hj.2.symm⟩
      · cases hj
    · rename_i e;exact .inr ⟨fun e2=>e e2.symm,hj⟩
  refine ⟨h.bel,fun j c ds hj=>?_,fun i j c es ds hi hj=>?_,fun c ds hc=>⟨(h.froz c ds (mem_offD.1 hc).1).1,fun j e es hj=>?_⟩⟩
  · rcases key j c ds hj with ⟨_,rfl,rfl⟩ | ⟨_,hj⟩
    · exact ⟨.inl hb,hb1.1⟩
    · exact h.blk j c ds hj
  · rcases key i c es hi with ⟨e1,e2,_⟩ | ⟨n1,hi⟩<;>rcases key j c ds hj with ⟨e3,e4,_⟩ | ⟨n2,hj⟩
    · omega
    · exact absurd e2 (hb1.2 j c ds hj)
    · exact absurd e4 (hb1.2 i c es hi)
    · exact h.apart i j c es ds hi hj
  · rcases key j e es hj with ⟨_,rfl,_⟩ | ⟨_,hj⟩
    · exact fun e=>(mem_offD.1 hc).2 e.symm
    · exact (h.froz c ds (mem_offD.1 hc).1).2 j e es hj
structure RowsC (D:Froz) (m:Nat) (β:Nat→Nat) (R:Nat→Array Value):Prop where
  mem:∀ i,i<m→(β i,R i)∈D
  inj:∀ i j,i<m→j<m→β i=β j→i=j
namespace RowsC
variable {D D' : Froz} {m : Nat} {β : Nat → Nat} {R : Nat → Array Value}
end RowsC
def rowI (n:Nat) (f:Nat→Nat):Array Value:=fnC n (fun c=>.int .i64 (f c:Int))
theorem SlAt.vec0 {u:Value}{e:Option (Nat×Array Value)}{N b cap:Nat}{cs:Array Value}{V:Nat→Nat→Nat}(h:SlAt 6 u e N b cap cs (fun c=>.int .u8 (V (c / 6) (c%6):Int)))(i:Nat)(hi:i<N):cs.extract (0+i*6) (0+i*6+6)=vecC (V i):=by
  rw [Nat.zero_add];exact h.vec i hi
theorem SlAt.room {u:Value}{e:Option (Nat×Array Value)}{N b cap:Nat}{cs:Array Value}{f:Nat→Value}(h:SlAt 6 u e N b cap cs f)(i:Nat)(hi:i<N):0+i*6+6≤cs.size:=by
  have:=h.sz;have:=h.le;omega
end Go.Sw
namespace Go.Sw
open Go Go.RowKit
def mrk (Z k t:Nat) (xs:Nat→Value):Array Value:=fnC Z (fun c=>if c<t then .int .u8 (((k+c:Nat)):Int) else xs c)
section
variable {Z k t : Nat} {xs : Nat → Value}
theorem mrk_size:(mrk Z k t xs).size=Z:=fnC_size _ _
end
end Go.Sw
namespace Go.Sw
open Go Go.RowKit Go.Ech
section
variable {X : List Nat} {w0 w w' : World} {L : Own} {D : Froz}
def TabI (w w':World) (n:Nat) (M:Nat→Nat→Nat) (u:Value):Prop:=∃ (D:Froz) (β:Nat→Nat) (b:Nat) (cs:Array Value),
  (∀ x ds,(x,ds)∈D→w.heap.size≤x∧Blk w' x ds)∧RowsC D n β (fun i=>rowI n (M i))∧u = .slice (some ⟨b,0,Option.none⟩) n n∧(∀ i,i<n→cs[0+i*1]? = some (.slice (some ⟨β i,0,Option.none⟩) n n))∧(b,cs)∈D∧∀ i,i<n→β i≠b
end
def FreshV (w0:World) (L:Own) (N:Nat) (f:Nat→Value) (u:Value) (w':World):Prop:=∃ b cap cs,SlAt 6 u (some (b,cs)) N b cap cs f∧Blk w' b cs∧w0.heap.size≤b∧∀ (k:Nat) c ds,L[k]? = some (some (c,ds))→c≠b
theorem FreshV.last {w0 w w':World}{L:Own}{N:Nat}{f:Nat→Value}{u:Value}(h:FreshV w0 L N f u w)(hx:Ext w w'):FreshV w0 L N f u w':=by
  obtain ⟨b,cap,cs,h1,h2,h3⟩:=h;exact ⟨b,cap,cs,h1,h2.ext hx,h3⟩
theorem OwnSl.freshV {X:List Nat}{w0 w w':World}{L:Own}{D:Froz}{N:Nat}{f:Nat→Value}{u:Value}(hM:MemX X w0 w L D)(h:OwnSl 6 w N f u w'):FreshV w0 L N f u w':=by
  obtain ⟨b,cap,cs,h1,h2,h3⟩:=h;refine ⟨b,cap,cs,h1,h3,Nat.le_trans hM.bel.size h2,fun k c ds hk e=>?_⟩;have:=(hM.blk k c ds hk).2.lt
  omega
theorem MemX.addV {X:List Nat}{w0 w:World}{L:Own}{D:Froz}{N:Nat}{f:Nat→Value}{u:Value}(h:MemX X w0 w L D)(hf:FreshV w0 L N f u w):∃ b cap cs,SlAt 6 u (some (b,cs)) N b cap cs f∧w0.heap.size≤b∧MemX X w0 w L ((b,cs)::D):=by
  obtain ⟨b,cap,cs,h1,h2,h3,h4⟩:=hf;refine ⟨b,cap,cs,h1,h3,h.bel,h.blk,h.apart,fun c ds hm=>?_⟩
  rcases List.mem_cons.1 hm with e | hm
  · simp only [Prod.mk.injEq] at e;obtain ⟨rfl,rfl⟩:=e;exact ⟨h2,h4⟩
  · exact h.froz c ds hm
end Go.Sw
namespace Go.Sw
open Go Go.RowKit Go.Ech
def EmpF (w0:World) (L:Own) (u:Value) (w':World):Prop:=∃ b,u = .slice (some ⟨b,0,none⟩) 0 0∧Blk w' b #[]∧w0.heap.size≤b∧∀ (k:Nat) c ds,L[k]? = some (some (c,ds))→c≠b
theorem EmpF.last {w0 w w':World}{L:Own}{u:Value}(h:EmpF w0 L u w)(hx:Ext w w'):EmpF w0 L u w':=by
  obtain ⟨b,h1,h2,h3⟩:=h;exact ⟨b,h1,h2.ext hx,h3⟩
theorem EmpF.of {w0 w w':World}{L:Own}{D:Froz}{u:Value}{k:Nat}(hk:L[k]? = some none)(h:∃ b,u = .slice (some ⟨b,0,none⟩) 0 0∧Mem w0 w' (L.set k (some (b,#[]))) D∧Ext w w'):EmpF w0 L u w':=by
  obtain ⟨b,h1,hM,_⟩:=h;have hkl:=(List.getElem?_eq_some_iff.1 hk).1;have e:(L.set k (some (b,#[])))[k]? = some (some (b,#[])):=by rw [List.getElem?_set,if_pos rfl,if_pos hkl]
  refine ⟨b,h1,hM.row k e,hM.ge k e,fun j c ds hj e2=>?_⟩;subst e2
  by_cases ej:j=k
  · subst ej;rw [hk] at hj;simp at hj
  · have:=hM.apart j k c ds #[] (by rw [List.getElem?_set,if_neg (fun q=>ej q.symm)];exact hj) e
    exact ej this
theorem MemX.putE {X:List Nat}{w0 w:World}{L:Own}{D:Froz}{b:Nat}(k:Nat)(h:MemX X w0 w L D)(hb:Blk w b #[])(hge:w0.heap.size≤b)(hL:∀ (j:Nat) c ds,L[j]? = some (some (c,ds))→c≠b)(hD:∀ x∈D,0<x.2.size):MemX X w0 w (L.set k (some (b,#[]))) D:=by
  have key:∀ (j:Nat) c ds,(L.set k (some (b,#[])))[j]? = some (some (c,ds))→(j=k∧c=b∧ds = #[])∨(j≠k∧L[j]? = some (some (c,ds))):=by
    intro j c ds hj;rw [List.getElem?_set] at hj
    split at hj
    · split at hj
      · simp only [Option.some.injEq,Prod.mk.injEq] at hj;rename_i e _;exact .inl ⟨e.symm,hj.1.symm,hj.2.symm⟩
      · cases hj
    · rename_i e;exact .inr ⟨fun e2=>e e2.symm,hj⟩
  refine ⟨h.bel,fun j c ds hj=>?_,fun i j c es ds hi hj=>?_,fun c ds hc=>⟨(h.froz c ds hc).1,fun j e es hj=>?_⟩⟩
  · rcases key j c ds hj with ⟨_,rfl,rfl⟩ | ⟨_,hj⟩
    · exact ⟨.inl hge,hb⟩
    · exact h.blk j c ds hj
  · rcases key i c es hi with ⟨e1,e2,_⟩ | ⟨n1,hi⟩<;>rcases key j c ds hj with ⟨e3,e4,_⟩ | ⟨n2,hj⟩
    · omega
    · exact absurd e2 (hL j c ds hj)
    · exact absurd e4 (hL i c es hi)
    · exact h.apart i j c es ds hi hj
  · rcases key j e es hj with ⟨_,rfl,_⟩ | ⟨_,hj⟩
    · intro q
      subst q;obtain ⟨t1,h1⟩:=hb;obtain ⟨t2,h2⟩:=(h.froz e ds hc).1;rw [h1] at h2;have:=hD _ hc;simp only [Option.some.injEq,Obj.cells.injEq] at h2;rw [← h2.1] at this
      simp at this
    · exact (h.froz c ds hc).2 j e es hj
theorem EmpF.build {P:Program}{o:Oper}{a:Act}{w0 w:World}{L:Own}{D:Froz}{k:Nat}(hk:L[k]? = some none)(hg:Does P o a w (fun u w'=>∃ b,u = .slice (some ⟨b,0,none⟩) 0 0∧Mem w0 w' (L.set k (some (b,#[]))) D∧Ext w w')):Does P o a w (fun u w'=>Ext w w'∧EmpF w0 L u w'):=
  hg.mono fun u w' h=>⟨h.elim fun b hb=>hb.2.2,EmpF.of hk h⟩
end Go.Sw
namespace Go.Sw
open Go Go.RowKit Go.Ech
def TabIF (w0:World) (L:Own) (D:Froz) (n:Nat) (M:Nat→Nat→Nat) (u:Value) (w':World):Prop:=∃ (D':Froz) (β:Nat→Nat) (b:Nat) (cs:Array Value),
  (∀ x ds,(x,ds)∈D'→w0.heap.size≤x∧Blk w' x ds∧∀ (k:Nat) c es,L[k]? = some (some (c,es))→c≠x)∧RowsC D' n β (fun i=>rowI n (M i))∧u = .slice (some ⟨b,0,Option.none⟩) n n∧(∀ i,i<n→cs[0+i*1]? = some (.slice (some ⟨β i,0,Option.none⟩) n n))∧(b,cs)∈D'∧(∀ i,i<n→β i≠b)∧∀ i,i<n→∀ x∈D,x.1≠β i
def TupR (R:Value→World→Prop) (u:Value) (w':World):Prop:=∃ l,u = .tuple #[l,.int .i64 0]∧R l w'
end Go.Sw
namespace Go.Sw
open Go Go.RowKit
variable {P : Program}
def byt (s:ByteArray) (i:Nat):Nat:=(s.data.getD i 0).toNat
section
variable {n : Nat} {F : List (Nat × Value)} {a : Act} {w : World} {d : Option Tmp} {t T T' : TypeId} {pos : String} {af : Array Edge} {gd : Option (Nat × Bool)} {x y z : Operand}
end
end Go.Sw
namespace Go.Sw
open Go Go.RowKit
variable {P : Program}
def Exit.goes (J:Nat→Act→World→Prop) (Q:Exit→Act→World→Prop):Exit→Act→World→Prop
  | .goto l,a,w=>J l a w
  | e,a,w=>Q e a w
section
variable {Q : Exit → Act → World → Prop} {J : Nat → Act → World → Prop} {K : Act → World → Prop} {a : Act} {w : World}
end
section
variable {n : Nat} {F : List (Nat × Value)} {a : Act} {w : World} {d : Option Tmp} {t T : TypeId} {pos : String} {af : Array Edge} {gd : Option (Nat × Bool)} {x : Operand}
end
section
variable {P : Program} {fn : Func} {a : Act} {w : World}
end
end Go.Sw
namespace Go.Sw
open Go Go.RowKit
def txt (m:Nat) (g:Nat→Nat):ByteArray:=((List.range m).map fun i=>(g i:Int)).foldl (fun r n=>r.push (UInt8.ofNat n.toNat)) ByteArray.empty
def dgC (m:Nat) (f:Nat→Nat):Array Value:=fnC m (fun c=>.int .u8 (f c:Int))
theorem dgC_size {m:Nat}{f:Nat→Nat}:(dgC m f).size=m:=fnC_size _ _
theorem dgC_congr {m:Nat}{f g:Nat→Nat}(h:∀ c,c<m→f c=g c):dgC m f=dgC m g:=fnC_congr fun c hc=>by rw [h c hc]
theorem dgC_set {m q k:Nat}{f g:Nat→Nat}{x:Int}(h:q=k)(hx:x=(g k:Int))(hg:∀ c,c<m→c≠k→g c=f c):(dgC m f).setIfInBounds q (.int .u8 x)=dgC m g:=by
  subst h;subst hx;refine fnC_set fun c hc=>?_
  by_cases e:c=q
  · rw [if_pos e,e]
  · rw [if_neg e,hg c hc e]
def dig (k:Nat):Nat:=if k<10 then 48+k else 97+k - 10
def digs:ByteArray:=⟨#[48,49,50,51,52,53,54,55,56,57,97,98,99]⟩
section
variable {P : Program} {n : Nat} {F : List (Nat × Value)} {a : Act} {w : World} {d : Option Tmp} {t T T' : TypeId} {pos : String} {af : Array Edge} {gd : Option (Nat × Bool)} {x y z : Operand}
end
end Go.Sw
