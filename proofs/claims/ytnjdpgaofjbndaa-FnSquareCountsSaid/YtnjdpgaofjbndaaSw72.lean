import Derived.Test.YtnjdpgaofjbndaaSw66
import Derived.Test.YtnjdpgaofjbndaaSw14
import Derived.Test.YtnjdpgaofjbndaaEch5
import Derived.DeepKeys4
import Derived.StringKeys
import Derived.Test.YtnjdpgaofjbndaaSw27
import Derived.Test.YtnjdpgaofjbndaaSw6
import Derived.Test.YtnjdpgaofjbndaaSw65
set_option linter.unusedVariables false
set_option linter.unusedSimpArgs false
namespace Go.Sw
open Go Go.RowKit
def factsD (l:List Fact) (s:Nat):Facts (Own×Value×Froz):=fun i g u w=>match Nat.beq i s with
  | true=>u=g.2.1
  | false=>factsOf l i g.1 u w
def ParD (X:List Nat) (w0:World) (D:Froz) (W:List Nat) (L0:Own) (Q:Froz→Value→Prop) (b:Bool) (g:Own×Value×Froz) (w:World):Prop:=
  Par X w0 (g.2.2++D) W L0 g.1 w∧(b=false→g.2.2=[])∧(b=true→Q g.2.2 g.2.1)
section
variable {P : Program} {X : List Nat} {w0 w : World} {D : Froz} {W : List Nat} {L0 : Own} {Q : Froz → Value → Prop} {s i : Nat} {b : Bool} {g : Own × Value × Froz} {l : List Fact} {o : Oper} {a : Act}
theorem factsD_ne (h:Nat.beq i s=false)(u:Value):factsD l s i g u w=factsOf l i g.1 u w:=by unfold factsD;rw [h]
theorem ParD.drew (h:ParD X w0 D W L0 Q b g w):ParD X w0 D W L0 Q b g w.drew:=⟨⟨h.1.1.ext (Below.drew (Below.refl _ _)),h.1.2⟩,h.2⟩
theorem ParD.mem (h:ParD X w0 D W L0 Q b g w)(hW:holes W L0=true):MemX X w0 w L0 D:=(Par.mem h.1 hW).sub D (fun _ hx=>List.mem_append_right _ hx)
theorem pd_val {v:Value}(hS:ParD X w0 D W L0 Q b g w)(hs:Nat.beq i s=false)(hi:l[i]? = some (.val v))(hg:Gives P o a w v):Does P o a w (AfterG (ParD X w0 D W L0 Q) (factsD l s) b i g w):=
  hg.mono fun u w' ⟨h1,h2⟩=>by subst h2;exact ⟨g,hS,by rw [factsD_ne hs];exact fact_get hi h1,fun j u _ h=>h⟩
theorem factsD_ext {w':World}(hl:Lasts l)(hx:Ext w w')(j:Nat)(u:Value)(h:factsD l s j g u w):factsD l s j g u w':=by
  unfold factsD at *
  cases e:Nat.beq j s with
  | true=>rw [e] at h;exact h
  | false=>rw [e] at h;exact facts_ext hl hx j u h
theorem pd_call {v:Value}(hl:Lasts l)(hS:ParD X w0 D W L0 Q b g w)(hs:Nat.beq i s=false)(hi:l[i]? = some (.val v))(hg:Does P o a w (fun u w'=>Ext w w'∧u=v)):Does P o a w (AfterG (ParD X w0 D W L0 Q) (factsD l s) b i g w):=
  hg.mono fun _ _ ⟨h1,h2⟩=>⟨g,⟨⟨hS.1.1.ext h1,hS.1.2⟩,hS.2⟩,by rw [factsD_ne hs];exact fact_get hi h2,fun j u _ h=>factsD_ext hl h1 j u h⟩
theorem pd_own {k:Nat}{cs:Array Value}{mk:Nat→Value}(hl:Lasts l)(hS:ParD X w0 D W L0 Q b g w)(hs:Nat.beq i s=false)(hi:l[i]? = some (.own k cs mk))(hk:memNat k W=true)(hkl:Nat.blt k L0.length=true)(h1:onePlace k i l 0=true)
    (hg:Does P o a w (fun u w'=>∃ b,u=mk b∧MemX X w0 w' (g.1.set k (some (b,cs))) (g.2.2++D)∧Ext w w')):Does P o a w (AfterG (ParD X w0 D W L0 Q) (factsD l s) b i g w):=
  hg.mono fun u w' ⟨bq,hu,hM,hx⟩=>by
    have hkl':k<g.1.length:=by rw [hS.1.2.1];exact Nat.blt_eq.mp hkl
    refine ⟨(g.1.set k (some (bq,cs)),g.2),⟨⟨hM,hS.1.2.set k hk _⟩,hS.2⟩,?_,fun j u hj h=>?_⟩
    · rw [factsD_ne hs];exact fact_get hi ⟨bq,hu,by simp [hkl']⟩
    · unfold factsD at *
      cases ej:Nat.beq j s with
      | true=>rw [ej] at h;exact h
      | false =>
        rw [ej] at h
        have h2:=facts_ext hl hx j u h
        dsimp only at h2 ⊢
        unfold factsOf at *
        cases e:l[j]? with
        | none=>trivial
        | some fq =>
          rw [e] at h2
          have hp:=onePlace_spec h1 j fq e (by omega)
          cases fq with
          | val v=>exact h2
          | rel R=>exact h2
          | own q ds mk' =>
            obtain ⟨c,h3,h4⟩:=h2
            refine ⟨c,h3,?_⟩
            rw [List.getElem?_set,if_neg (fun e=>hp (by subst e;rfl))];exact h4
theorem pd_new (hl:Lasts l)(hS:ParD X w0 D W L0 Q false g w)
    (hg:Does P o a w (fun u w'=>Ext w w'∧∃ D',(∀ x ds,(x,ds)∈D'→w.heap.size≤x∧Blk w' x ds)∧Q D' u)):Does P o a w (AfterG (ParD X w0 D W L0 Q) (factsD l s) true s g w):=
  hg.mono fun u w' ⟨hx,D',hD,hq⟩=>by
    have hM:=hS.1.1
    rw [hS.2.1 rfl] at hM
    refine ⟨(g.1,u,D'),⟨⟨hM.addD hx hD,hS.1.2⟩,fun hb=>(by cases hb),fun _=>hq⟩,by unfold factsD;rw [show Nat.beq s s=true by simp],fun j u hj h=>?_⟩
    unfold factsD at *
    cases ej:Nat.beq j s with
    | true=>exact absurd (Nat.eq_of_beq_eq_true ej) hj
    | false=>rw [ej] at h;exact facts_ext hl hx j u h
end
end Go.Sw
namespace Go.Sw
open Go Go.RowKit
def factsK (kt:Nat) (l:List Fact) (nw:List Nat) (Q:Froz→Value→Prop):Facts (Own×Froz):=fun i g u w=>match memNat i nw with
  | true=>∃ DK,(∀ x,x∈DK→x∈g.2)∧Q DK u
  | false=>factsG kt l i g.1 u w
def ParK (X:List Nat) (w0:World) (D:Froz) (W:List Nat) (L0:Own) (kt:Nat) (csO csN:Array Value) (bb:Bool) (g:Own×Froz) (w:World):Prop:=ParG X w0 (g.2++D) W L0 kt csO csN bb g.1 w
section
variable {P : Program} {X : List Nat} {w0 w : World} {D : Froz} {W : List Nat} {L0 : Own} {kt : Nat} {csO csN : Array Value} {bb : Bool} {l : List Fact} {i : Nat} {o : Oper} {a : Act} {g : Own × Froz} {nw : List Nat} {Q : Froz → Value → Prop}
theorem factsK_up {L L':Own}{E E':Froz}{w':World}{j:Nat}{u:Value}(hE:∀ x,x∈E→x∈E')(h:factsG kt l j L u w→factsG kt l j L' u w')(hq:factsK kt l nw Q j (L,E) u w):factsK kt l nw Q j (L',E') u w':=by
  unfold factsK at *
  cases e:memNat j nw with
  | true=>rw [e] at hq;obtain ⟨DK,h1,h2⟩:=hq;exact ⟨DK,fun x hx=>hE x (h1 x hx),h2⟩
  | false=>rw [e] at hq;exact h hq
theorem pk_of (hn:memNat i nw=false)(hd:Does P o a w (AfterG (ParG X w0 (g.2++D) W L0 kt csO csN) (factsG kt l) bb i g.1 w)):Does P o a w (AfterG (ParK X w0 D W L0 kt csO csN) (factsK kt l nw Q) bb i g w):=
  hd.mono fun u w' ⟨L',h1,h2,h3⟩=>⟨(L',g.2),h1,by unfold factsK;rw [hn];exact h2,fun j u hj h=>factsK_up (fun _ hx=>hx) (h3 j u hj) h⟩
theorem pk_ofS (hd:Does P o a w (fun _ w'=>AfterS (ParG X w0 (g.2++D) W L0 kt csO csN) (factsG kt l) true g.1 w w')):Does P o a w (fun _ w'=>AfterS (ParK X w0 D W L0 kt csO csN) (factsK kt l nw Q) true g w w'):=
  hd.mono fun u w' ⟨L',h1,h3⟩=>⟨(L',g.2),h1,fun j u h=>factsK_up (fun _ hx=>hx) (h3 j u) h⟩
theorem pk_new (hn:memNat i nw=true)(hS:ParK X w0 D W L0 kt csO csN bb g w)
    (hg:Does P o a w (fun u w'=>Ext w w'∧∃ D',(∀ x ds,(x,ds)∈D'→w.heap.size≤x∧Blk w' x ds)∧Q D' u)):Does P o a w (AfterG (ParK X w0 D W L0 kt csO csN) (factsK kt l nw Q) bb i g w):=
  hg.mono fun u w' ⟨hx,D',hD,hq⟩=>by
    obtain ⟨L,E⟩:=g
    refine ⟨(L,D'++E),⟨⟨?_,hS.1.2⟩,hS.2⟩,?_,fun j u hj h=>factsK_up (fun x hx=>List.mem_append_right _ hx) (fun h=>factsG_ext j u h) h⟩
    · have:=hS.1.1.addD hx hD
      rw [← List.append_assoc] at this
      exact this
    · unfold factsK;rw [hn];exact ⟨D',fun x hx=>List.mem_append_left _ hx,hq⟩
theorem pk_mv {u0:Value}(hn:memNat i nw=true)(hS:ParK X w0 D W L0 kt csO csN bb g w)(hq:∃ DK,(∀ x,x∈DK→x∈g.2)∧Q DK u0)(hg:Gives P o a w u0):Does P o a w (AfterG (ParK X w0 D W L0 kt csO csN) (factsK kt l nw Q) bb i g w):=
  hg.mono fun u w' ⟨h1,h2⟩=>by subst h2;subst h1;exact ⟨g,hS,by unfold factsK;rw [hn];exact hq,fun j u _ h=>h⟩
theorem ParK.drew (h:ParK X w0 D W L0 kt csO csN bb g w):ParK X w0 D W L0 kt csO csN bb g w.drew:=⟨⟨h.1.1.ext (Below.drew (Below.refl _ _)),h.1.2⟩,h.2⟩
end
end Go.Sw
namespace Go.Sw
open Go Go.RowKit Go.Ech
def EmpF (w0:World) (L:Own) (u:Value) (w':World):Prop:=∃ b,u = .slice (some ⟨b,0,none⟩) 0 0∧Blk w' b #[]∧w0.heap.size≤b∧∀ (k:Nat) c ds,L[k]? = some (some (c,ds))→c≠b
theorem EmpF.last {w0 w w':World}{L:Own}{u:Value}(h:EmpF w0 L u w)(hx:Ext w w'):EmpF w0 L u w':=by
  obtain ⟨b,h1,h2,h3⟩:=h;exact ⟨b,h1,h2.ext hx,h3⟩
theorem EmpF.of {w0 w w':World}{L:Own}{D:Froz}{u:Value}{k:Nat}(hk:L[k]? = some none)(h:∃ b,u = .slice (some ⟨b,0,none⟩) 0 0∧Mem w0 w' (L.set k (some (b,#[]))) D∧Ext w w'):EmpF w0 L u w':=by
  obtain ⟨b,h1,hM,_⟩:=h;have hkl:=(List.getElem?_eq_some_iff.1 hk).1;have e:(L.set k (some (b,#[])))[k]? = some (some (b,#[])):=by rw [List.getElem?_set,if_pos rfl,if_pos hkl]
  refine ⟨b,h1,hM.row k e,hM.ge k e,fun j c ds hj e2=>?_⟩;subst e2
  by_cases ej:j=k
  · subst ej;rw [hk] at hj;simp at hj
  · have:=hM.apart j k c ds #[] (by rw [List.getElem?_set,if_neg (fun q=>ej q.symm)];exact hj) e
    exact ej this
theorem EmpF.build {P:Program}{o:Oper}{a:Act}{w0 w:World}{L:Own}{D:Froz}{k:Nat}(hk:L[k]? = some none)(hg:Does P o a w (fun u w'=>∃ b,u = .slice (some ⟨b,0,none⟩) 0 0∧Mem w0 w' (L.set k (some (b,#[]))) D∧Ext w w')):Does P o a w (fun u w'=>Ext w w'∧EmpF w0 L u w'):=
  hg.mono fun u w' h=>⟨h.elim fun b hb=>hb.2.2,EmpF.of hk h⟩
end Go.Sw
namespace Go.Sw
open Go Go.RowKit Go.Ech
def TabIF (w0:World) (L:Own) (D:Froz) (n:Nat) (M:Nat→Nat→Nat) (u:Value) (w':World):Prop:=∃ (D':Froz) (β:Nat→Nat) (b:Nat) (cs:Array Value),
  (∀ x ds,(x,ds)∈D'→w0.heap.size≤x∧Blk w' x ds∧∀ (k:Nat) c es,L[k]? = some (some (c,es))→c≠x)∧RowsC D' n β (fun i=>rowI n (M i))∧u = .slice (some ⟨b,0,Option.none⟩) n n∧(∀ i,i<n→cs[0+i*1]? = some (.slice (some ⟨β i,0,Option.none⟩) n n))∧(b,cs)∈D'∧(∀ i,i<n→β i≠b)∧∀ i,i<n→∀ x∈D,x.1≠β i
theorem TabIF.last {w0 w w':World}{L:Own}{D:Froz}{n:Nat}{M:Nat→Nat→Nat}{u:Value}(h:TabIF w0 L D n M u w)(hx:Ext w w'):TabIF w0 L D n M u w':=by
  obtain ⟨D',β,b,cs,h1,h2⟩:=h;exact ⟨D',β,b,cs,fun x ds hm=>⟨(h1 x ds hm).1,(h1 x ds hm).2.1.ext hx,(h1 x ds hm).2.2⟩,h2⟩
def TupR (R:Value→World→Prop) (u:Value) (w':World):Prop:=∃ l,u = .tuple #[l,.int .i64 0]∧R l w'
end Go.Sw
namespace Go.Sw
open Go Go.RowKit
variable {P : Program}
def byt (s:ByteArray) (i:Nat):Nat:=(s.data.getD i 0).toNat
theorem byt_lt {s:ByteArray}{i:Nat}:byt s i<256:=UInt8.toNat_lt _
section
variable {n : Nat} {F : List (Nat × Value)} {a : Act} {w : World} {d : Option Tmp} {t T T' : TypeId} {pos : String} {af : Array Edge} {gd : Option (Nat × Bool)} {x y z : Operand}
theorem g_lenS {s:ByteArray}{TT:TypeId}(hT:P.underlying TT=some .string)(hF:Fr n a F)(hx:look F x=some (.string s)):Gives P ⟨d,.call { callee:=.builtin .len,args:=#[x],argTypes:=#[TT] },t,pos,af,gd⟩ a w (.int .i64 (s.size:Int)):=
  gives_of_run (by simp [execOp,resolve,invoke,hF.eval hx,builtin,Builtin.len_,run_underlying hT,goInt])
theorem g_indexS {s:ByteArray}{i:Nat}{κ:IntKind}{X:Int}(hT:P.underlying T=some .string)(hF:Fr n a F)(hx:look F x=some (.string s))(hy:look F y=some (.int κ X))(hX:X=(i:Int))(hi:i<s.size) :
    Gives P ⟨d,.index T x y,t,pos,af,gd⟩ a w (.int .u8 (byt s i:Int)):=by
  subst hX;have h2:s[i]? = some s[i]:=getElem?_pos s i hi;have h3:(s[i]).toNat=byt s i:=by
    unfold byt
    have:s.data.getD i 0=s[i]:=by
      rw [Array.getD_eq_getD_getElem?,Array.getElem?_eq_getElem hi];rfl
    rw [this]
  exact gives_of_run (by simp [execOp,Instr.index,run_underlying hT,hF.eval hx,hF.eval hy,asIntOf,h2,h3])
end
end Go.Sw
namespace Go.Sw
open Go Go.RowKit
def leafs (P:Program):Nat→TypeId→List IntKind→Bool
  | 0,_,_=>false
  | d + 1, t, ks =>
    match P.underlying t with
    | some (.int q)=>decide (ks=[q])
    | some (.array n e)=>Nat.beq ks.length (P.cellsOf t) && (List.range n).all fun i=>leafs P d e ((ks.drop (i*P.cellsOf e)).take (P.cellsOf e))
    | some (.struct fs) => Nat.beq ks.length (P.cellsOf t) && fs.all (·.name != "_") && fs.toList.all fun f => leafs P d f.type ((ks.drop f.offset).take (P.cellsOf f.type))
    | _=>false
def Leafy (cs:List Value) (ks:List IntKind):Prop:=cs.length=ks.length∧∀ (i:Nat) (q:IntKind),ks[i]? = some q→∃ x,cs[i]? = some (Value.int q x)∧(Lit.int q x).wf=true
theorem Leafy.part {cs:List Value}{ks:List IntKind}(h:Leafy cs ks)(o l:Nat):Leafy ((cs.drop o).take l) ((ks.drop o).take l):=
  ⟨by simp [h.1],fun i q hi=>by
    rw [List.getElem?_take] at hi ⊢
    split at hi
    · rename_i hl
      rw [if_pos hl,List.getElem?_drop]
      rw [List.getElem?_drop] at hi
      exact h.2 _ q hi
    · cases hi⟩
def wideB (P:Program) (k:TypeId):Bool:=match P.underlying k with | some (.array _ _) | some (.struct _)=>true | _=>false
def IsMap (w:World) (b:Nat) (es:Array MapEntry) (c:Nat):Prop:=w.heap[b]? = some (.map es c)
theorem IsMap.ext {w w':World}{b:Nat}{es:Array MapEntry}{c:Nat}(h:IsMap w b es c)(hx:Ext w w'):IsMap w' b es c:=by
  have hlt:b<w.heap.size:=(Array.getElem?_eq_some_iff.1 h).1
  unfold IsMap
  rw [hx.block b hlt];exact h
section
variable {P : Program} {n : Nat} {F : List (Nat × Value)} {a : Act} {w w0 : World} {d : Option Tmp} {t T kt et : TypeId} {pos : String} {af : Array Edge} {gd : Option (Nat × Bool)} {x y z : Operand} {X : List Nat} {L : Own} {D : Froz}
end
end Go.Sw
namespace Go.Sw
open Go Go.RowKit
section
variable {P : Program} {X : List Nat} {w0 w : World} {D : Froz} {W : List Nat} {L0 L : Own} {kt : Nat} {csO csN : Array Value} {bb : Bool} {l : List Fact} {i : Nat} {o : Oper} {a : Act}
theorem pg_own2 {mk:Nat→Value}{k:Nat}{cs:Array Value}(hS:ParG X w0 D W L0 kt csO csN bb L w)(hi:l[i]? = some (.own k cs mk))(hne:Nat.beq k kt=false)(hk:memNat k W=true)(hkl:Nat.blt k L0.length=true)(h1:onePlace k i l 0=true)
    (hg:Does P o a w (fun u w'=>∃ b,u=mk b∧MemX X w0 w' (L.set k (some (b,cs))) D∧Ext w w')):Does P o a w (AfterG (ParG X w0 D W L0 kt csO csN) (factsG kt l) bb i L w):=
  hg.mono fun u w' ⟨b,hu,hM,hx⟩=>by
    have hkl':k<L.length:=by rw [hS.1.2.1];exact Nat.blt_eq.mp hkl
    have hn:¬ k=kt:=fun e=>by rw [e,Nat.beq_refl] at hne;cases hne
    refine ⟨L.set k (some (b,cs)),⟨⟨hM,hS.1.2.set k hk _⟩,fun c ds hc=>?_⟩,?_,fun j u hj h=>factsG_set h1 j u hj h⟩
    · rw [List.getElem?_set_ne hn] at hc;exact hS.2 c ds hc
    · unfold factsG;rw [hi];show (if k=kt then _ else _);rw [if_neg hn];exact ⟨b,hu,by simp [hkl']⟩
end
end Go.Sw
namespace Go.Sw
open Go Go.RowKit
section
variable {P : Program} {n : Nat} {F : List (Nat × Value)} {a : Act} {w w0 : World} {d : Option Tmp} {t T kt et : TypeId} {pos : String} {af : Array Edge} {gd : Option (Nat × Bool)} {x y z : Operand} {X : List Nat} {L : Own} {D : Froz}
end
end Go.Sw
namespace Go.Sw
open Go Go.RowKit
section
variable {P : Program} {n : Nat} {F : List (Nat × Value)} {a : Act} {w : World} {d : Option Tmp} {t T T' : TypeId} {pos : String} {af : Array Edge} {gd : Option (Nat × Bool)} {x y : Operand} {k : IntKind} {A B C : Int}
theorem g_xor (hF:Fr n a F)(hx:look F x=some (.int k A))(hy:look F y=some (.int k B))(hC:k.wrap (((A%2 ^ k.bits).toNat ^^^ (B%2 ^ k.bits).toNat:Nat):Int)=C):Gives P ⟨d,.binOp .xor T x y T',t,pos,af,gd⟩ a w (.int k C):=
  gives_of_run (by simp [execOp,eqGuard_int,binOp,Op.intBits,hF.eval hx,hF.eval hy,hC])
end
theorem xor_nat4 {x y:Nat}(hx:x<4)(hy:y<4):IntKind.i64.wrap ((((x:Int)%2 ^ IntKind.i64.bits).toNat ^^^ ((y:Int)%2 ^ IntKind.i64.bits).toNat:Nat):Int)=((x ^^^ y:Nat):Int):=by
  have h:∀ x:Nat,x<4→∀ y:Nat,y<4→IntKind.i64.wrap ((((x:Int)%2 ^ IntKind.i64.bits).toNat ^^^ ((y:Int)%2 ^ IntKind.i64.bits).toNat:Nat):Int)=((x ^^^ y:Nat):Int):=by decide
  exact h x hx y hy
theorem xor_lt4 {x y:Nat}(hx:x<4)(hy:y<4):x ^^^ y<4:=by
  have h:∀ x:Nat,x<4→∀ y:Nat,y<4→x ^^^ y<4:=by decide
  exact h x hx y hy
end Go.Sw
namespace Go.Sw
open Go Go.RowKit
section
variable {P : Program} {n : Nat} {F : List (Nat × Value)} {a : Act} {w : World} {d : Option Tmp} {t T T' : TypeId} {pos : String} {af : Array Edge} {gd : Option (Nat × Bool)} {x y : Operand} {k k' : IntKind} {A B C : Int}
theorem g_shr (hF:Fr n a F)(hx:look F x=some (.int k A))(hy:look F y=some (.int k' B))(hB:¬ B<0)(hC:A.fdiv (2 ^ (min B.toNat k.bits))=C):Gives P ⟨d,.binOp .shr T x y T',t,pos,af,gd⟩ a w (.int k C):=
  gives_of_run (by simp [execOp,eqGuard_int,binOp,Op.shift,hF.eval hx,hF.eval hy,hB,hC])
theorem g_and (hF:Fr n a F)(hx:look F x=some (.int k A))(hy:look F y=some (.int k B))(hC:k.wrap ((BitVec.ofInt k.bits A &&& BitVec.ofInt k.bits B).toNat:Int)=C):Gives P ⟨d,.binOp .and T x y T',t,pos,af,gd⟩ a w (.int k C):=
  gives_of_run (by simp [execOp,eqGuard_int,binOp,Op.intBits,hF.eval hx,hF.eval hy,← hC])
end
theorem wrap_u64n (x:Nat):IntKind.u64.wrap (x:Int)=((x%18446744073709551616:Nat):Int):=by
  unfold IntKind.wrap IntKind.bits IntKind.signed
  simp
theorem mul_u64 (x c:Nat):IntKind.u64.wrap ((x:Int)*(c:Int))=((x*c%18446744073709551616:Nat):Int):=by rw [← wrap_u64n];simp
theorem add_u64 (x c:Nat):IntKind.u64.wrap ((x:Int)+(c:Int))=(((x+c)%18446744073709551616:Nat):Int):=by rw [← wrap_u64n];simp
theorem shr_u64 (x:Nat):(x:Int).fdiv (2 ^ (min (33:Int).toNat IntKind.u64.bits))=((x / 8589934592:Nat):Int):=by
  rw [show (2:Int) ^ (min (33:Int).toNat IntKind.u64.bits)=((8589934592:Nat):Int) from by decide,Int.fdiv_eq_ediv_of_nonneg _ (by omega)]
  rfl
theorem and_u64 (x:Nat)(h:x<18446744073709551616):IntKind.u64.wrap ((BitVec.ofInt IntKind.u64.bits (x:Int) &&& BitVec.ofInt IntKind.u64.bits ((16777215:Nat):Int)).toNat:Int)=((x%16777216:Nat):Int):=by
  have e:(BitVec.ofInt IntKind.u64.bits (x:Int) &&& BitVec.ofInt IntKind.u64.bits ((16777215:Nat):Int)).toNat=x%16777216:=by
    show (BitVec.ofInt 64 (x:Int) &&& BitVec.ofInt 64 ((16777215:Nat):Int)).toNat=x%16777216
    rw [BitVec.toNat_and,BitVec.ofInt_natCast,BitVec.ofInt_natCast,BitVec.toNat_ofNat,BitVec.toNat_ofNat,Nat.mod_eq_of_lt (show x<2 ^ 64 by omega),show (16777215:Nat)%2 ^ 64=2 ^ 24 - 1 from by decide,Nat.and_two_pow_sub_one_eq_mod]
  rw [e,wrap_u64n,Nat.mod_eq_of_lt (by omega)]
def FactI (l:List (Value→Prop)):Facts Unit:=fun i _ v _=>(l.getD i (fun _=>True)) v
theorem dI_val {P:Program}{S:World→Prop}{l:List (Value→Prop)}{o:Oper}{a:Act}{w:World}{v:Value}{i:Nat}(hS:S w)(hg:Gives P o a w v)(hv:FactI l i () v w):Does P o a w (After (fun _:Unit=>S) (FactI l) i () w):=
  hg.mono fun u w' ⟨e1,e2⟩=>by subst e1;subst e2;exact ⟨(),hS,hv,fun _ _ _ h=>h⟩
theorem dI_call {P:Program}{S:World→Prop}{l:List (Value→Prop)}{o:Oper}{a:Act}{w:World}{R:Value→World→Prop}{i:Nat}(h:Does P o a w R)(hr:∀ v w',R v w'→S w'∧FactI l i () v w'):Does P o a w (After (fun _:Unit=>S) (FactI l) i () w):=
  h.mono fun u w' hu=>⟨(),(hr u w' hu).1,(hr u w' hu).2,fun _ _ _ h=>h⟩
def srcC (sl:Value) (at_ h:Nat):Array Value:=#[sl,.int .i64 (at_:Int),.int .u64 (h:Int)]
def CodeB (w:World) (X:List Nat) (sl:Value) (m:Nat):Prop:=
  m≤4096∧(∃ x c,sl = .slice x m c)∧(0<m→∃ (b o c:Nat) (F:Nat→Nat),sl = .slice (some ⟨b,o,none⟩) m c∧b<w.heap.size∧b ∉ X∧(∀ i,F i≤255)∧∀ i,i<m→w.cell? ⟨b,o+i*1,none⟩=some (.int .u8 (F i:Int)))
theorem cell_extX {X:List Nat}{w w':World}{b o:Nat}{v:Value}(h:w.cell? ⟨b,o,none⟩=some v)(hx:ExtX X w w')(hb:b<w.heap.size)(hX:b ∉ X):w'.cell? ⟨b,o,none⟩=some v:=by
  unfold World.cell? at h ⊢
  simp only [hx.block b hb hX];exact h
theorem CodeB.carry {X Y:List Nat}{w0 w:World}{sl:Value}{m:Nat}(h:CodeB w0 X sl m)(hx:ExtX X w0 w)(hY:∀ y,y∈Y→y∈X∨w0.heap.size≤y):CodeB w Y sl m:=
  ⟨h.1,h.2.1,fun hm=>by
    obtain ⟨b,o,c,F,h1,h2,h3,h4,h5⟩:=h.2.2 hm
    refine ⟨b,o,c,F,h1,Nat.lt_of_lt_of_le h2 hx.size,fun hb=>?_,h4,fun i hi=>cell_extX (h5 i hi) hx h2 h3⟩
    rcases hY b hb with e | e
    · exact h3 e
    · omega⟩
theorem MemX.code {X:List Nat}{w0 w:World}{L:Own}{D:Froz}{sl:Value}{m k b:Nat}{cs:Array Value}(h:MemX X w0 w L D)(hc:CodeB w0 X sl m)(hk:L[k]? = some (some (b,cs))):CodeB w [b] sl m:=
  hc.carry h.bel (fun y hy=>by
    have e:y=b:=by simpa using hy
    subst e
    exact (h.blk k y cs hk).1.symm)
theorem srcC_size {sl:Value}{at_ h:Nat}:(srcC sl at_ h).size=3:=rfl
def Drawn (x n:Int):Prop:=0≤x∧(1≤n→x<n)∧(n<1→x=0)
theorem CallsX.mono {P:Program}{X:List Nat}{f:FuncId}{args:Array Value}{w:World}{R R':Value→World→Prop}(h:CallsX P X f args w R)(hr:∀ v w',R v w'→R' v w'):CallsX P X f args w R':=
  Calls.mono h (fun _ _ ⟨v,he,h1,h2⟩=>⟨v,he,h1,hr v _ h2⟩)
section
variable {n : Nat} {F : List (Nat × Value)} {a : Act}
theorem build02 {x0 x1:Operand}{v0 v1:Value}(hF:Fr n a F)(h0:look F x0=some v0)(h1:look F x1=some v1):(#[(0,x0),(2,x1)]:Array (Nat×Operand)).toList.map (fun p=>(p.1,a.eval p.2))=[(0,v0),(2,v1)]:=by simp [hF.eval h0,hF.eval h1]
theorem build7 {x0 x1 x2 x3 x4 x5 x6:Operand}{v0 v1 v2 v3 v4 v5 v6:Value}(hF:Fr n a F)(h0:look F x0=some v0)(h1:look F x1=some v1)(h2:look F x2=some v2)(h3:look F x3=some v3)(h4:look F x4=some v4)(h5:look F x5=some v5)(h6:look F x6=some v6):(#[(0,x0),(1,x1),(2,x2),(3,x3),(4,x4),(5,x5),(6,x6)]:Array (Nat×Operand)).toList.map (fun p=>(p.1,a.eval p.2))=[(0,v0),(1,v1),(2,v2),(3,v3),(4,v4),(5,v5),(6,v6)]:=by simp [hF.eval h0,hF.eval h1,hF.eval h2,hF.eval h3,hF.eval h4,hF.eval h5,hF.eval h6]
end
end Go.Sw
namespace Go.Sw
open Go Go.RowKit
variable {P : Program}
def Exit.goes (J:Nat→Act→World→Prop) (Q:Exit→Act→World→Prop):Exit→Act→World→Prop
  | .goto l,a,w=>J l a w
  | e,a,w=>Q e a w
section
variable {Q : Exit → Act → World → Prop} {J : Nat → Act → World → Prop} {K : Act → World → Prop} {a : Act} {w : World}
theorem gG {l:Nat}(h:J l a w):Exit.goes J Q (.goto l) a w:=h
end
section
variable {n : Nat} {F : List (Nat × Value)} {a : Act} {w : World} {d : Option Tmp} {t T : TypeId} {pos : String} {af : Array Edge} {gd : Option (Nat × Bool)} {x : Operand}
theorem g_nilCheck {b o:Nat}(hF:Fr n a F)(hx:look F x=some (ptr b o)):Gives P ⟨d,.nilCheck x,t,pos,af,gd⟩ a w (ptr b o):=
  gives_of_run (by simp [execOp,hF.eval hx])
end
theorem str_eq {s u:ByteArray}(h:s.toList=u.toList):s=u:=by
  have h2:(s.toList == u.toList)=true:=by rw [h];simp
  exact ByteArray.ext (by simpa [ByteArray.toList_eq] using h2)
section
variable {P : Program} {fn : Func} {a : Act} {w : World}
theorem fin3 {r s t:ResultVar}{v u x:Value}{R:Ending→World→Prop}(hr:fn.results = #[r,s,t])(hd:a.defers=[])(h1:resIs P a w r v)(h2:resIs P a w s u)(h3:resIs P a w t x)(h:R (.returned (.tuple #[v,u,x])) w):bodyPost P fn R .ret a w:=
  bodyPost_ret (by
    rw [results_eq,hr]
    simp [resIs_run h1,resIs_run h2,resIs_run h3]) hd h
end
end Go.Sw
namespace Go.Sw
open Go Go.RowKit
theorem grpC_setM {n:Int}{M:Nat→Nat→Nat}{o v:Nat}(i j:Nat)(h:o=1+i*6+j)(hi:i<6)(hj:j<6):(grpC n M).setIfInBounds o (.int .u8 (v:Int))=grpC n (fun a b=>if a=i∧b=j then v else M a b):=by
  subst h;refine grpC_eq (by rw [Array.size_setIfInBounds,grpC_size]) ?_ ?_
  · rw [Array.getElem?_setIfInBounds_ne (by omega)];exact grpC_n rfl
  · intro a b ha hb
    by_cases e:a=i∧b=j
    · obtain ⟨rfl,rfl⟩:=e
      rw [if_pos ⟨rfl,rfl⟩,Array.getElem?_setIfInBounds_self_of_lt (by rw [grpC_size];omega)]
    · rw [if_neg e,Array.getElem?_setIfInBounds_ne (by omega)];exact grpC_M a b rfl ha hb
end Go.Sw
namespace Go.Sw
open Go Go.RowKit
section
variable {P : Program} {n : Nat} {F : List (Nat × Value)} {a : Act} {w w0 : World} {d : Option Tmp} {t T kt et : TypeId} {pos : String} {af : Array Edge} {gd : Option (Nat × Bool)} {x y z : Operand} {X : List Nat} {L : Own} {D : Froz}
end
theorem IsMap.setRow {w:World}{b q:Nat}{cs cs':Array Value}{es:Array MapEntry}{c:Nat}(h:IsMap w q es c)(hb:Blk w b cs):IsMap (w.setRow b cs') q es c:=by
  have hne:q≠b:=fun e=>by
    obtain ⟨t,ht⟩:=hb
    unfold IsMap at h
    rw [e,ht] at h;cases h
  unfold IsMap
  rw [setRow_other w b q cs' hne];exact h
section
variable {P : Program} {n : Nat} {F : List (Nat × Value)} {a : Act} {w w0 : World} {d : Option Tmp} {t T : TypeId} {pos : String} {af : Array Edge} {gd : Option (Nat × Bool)} {x y : Operand} {X : List Nat} {L : Own} {D : Froz}
end
end Go.Sw
