import Derived.Test.YtklpefdaplchbaaSw38
import Derived.Test.YtklpefdaplchbaaSw19
import Derived.Test.YtklpefdaplchbaaSw63
import Derived.Test.YtklpefdaplchbaaSw9
import Derived.Test.YtklpefdaplchbaaSw14
import Derived.Test.YtklpefdaplchbaaEch5
import Derived.Test.YtklpefdaplchbaaEch6
import Derived.Test.YtklpefdaplchbaaSw6
import Derived.Test.YtklpefdaplchbaaSw93
import Derived.Test.YtklpefdaplchbaaSw3
set_option linter.unusedVariables false
set_option linter.unusedSimpArgs false
namespace Go.Sw
open Go Go.RowKit
section
variable {P : Program} {X : List Nat} {w0 w : World} {D : Froz} {W : List Nat} {L0 L : Own} {kt : Nat} {csO csN : Array Value} {bb : Bool} {l : List Fact} {i : Nat} {o : Oper} {a : Act}
end
theorem leafy_alg {p n:Int}{T:Nat→Nat→Nat→Nat}{f:Nat→Nat}(hp:-9223372036854775808≤p∧p≤9223372036854775807)(hn:-9223372036854775808≤n∧n≤9223372036854775807)(hT:∀ i j k,T i j k≤255)(hf:∀ i,f i≤255) :
    Leafy (algC p n T f).toList (.i64::.i64::List.replicate 222 .u8):=by
  have w64:∀ {x:Int},-9223372036854775808≤x∧x≤9223372036854775807→(Lit.int .i64 x).wf=true:=fun {x} h=>by
    have e1:IntKind.i64.min = -9223372036854775808:=by decide
    have e2:IntKind.i64.max=9223372036854775807:=by decide
    simp [Lit.wf,e1,e2,h.1,h.2]
  have w8:∀ {x:Nat},x≤255→(Lit.int .u8 (x:Int)).wf=true:=fun {x} h=>by
    have e1:IntKind.u8.min=0:=by decide
    have e2:IntKind.u8.max=255:=by decide
    simp [Lit.wf,e1,e2];omega
  refine ⟨by rw [Array.length_toList,cells_size];simp only [List.length_cons,List.length_replicate],fun i q hi=>?_⟩;rw [Array.getElem?_toList]
  match i,hi with
  | 0,hi=>rw [List.getElem?_cons_zero] at hi;obtain rfl:=Option.some.inj hi;exact ⟨p,algC_p rfl,w64 hp⟩
  | 1,hi=>rw [List.getElem?_cons_succ,List.getElem?_cons_zero] at hi;obtain rfl:=Option.some.inj hi;exact ⟨n,algC_n rfl,w64 hn⟩
  | i + 2, hi =>
    have h2:=hi;rw [List.getElem?_cons_succ,List.getElem?_cons_succ,List.getElem?_replicate] at h2
    split at h2
    · rename_i hlt
      cases h2
      by_cases e:i<216
      · exact ⟨_,algC_T (i / 36) (i / 6%6) (i%6) (by omega) (by omega) (by omega) (by omega),w8 (hT _ _ _)⟩
      · exact ⟨_,algC_f (i - 216) (by omega) (by omega),w8 (hf _)⟩
    · cases h2
end Go.Sw
namespace Go.Sw
open Go Go.RowKit
variable {P : Program}
section
variable {n : Nat} {F : List (Nat × Value)} {a : Act} {w : World} {d : Option Tmp} {t : TypeId} {pos : String} {af : Array Edge} {gd : Option (Nat × Bool)} {T : TypeId} {x y : Operand}
end
end Go.Sw
namespace Go.Sw
open Go Go.RowKit
def factsA (l:List Fact) (s:Nat):Facts (Own×Value):=fun i g u w=>match Nat.beq i s with
  | true=>u=g.2
  | false=>factsOf l i g.1 u w
def ParA (X:List Nat) (w0:World) (D:Froz) (W:List Nat) (L0:Own) (kr N:Nat) (e0:Option (Nat×Array Value)) (f:Nat→Value) (b:Bool) (g:Own×Value) (w:World):Prop:=
  Par X w0 D (kr::W) L0 g.1 w∧(b=false→g.1[kr]? = some e0)∧(b=true→∃ e',g.1[kr]? = some e'∧Sl 1 g.2 e' N f)
section
variable {P : Program} {X : List Nat} {w0 w : World} {D : Froz} {W : List Nat} {L0 : Own} {kr N s i : Nat} {e0 : Option (Nat × Array Value)} {f : Nat → Value} {b : Bool} {g : Own × Value} {l : List Fact} {o : Oper} {a : Act}
def noPlace (k:Nat):List Fact→Bool
  | []=>true
  | fq::r=>(match fq.place with | some q=>!(Nat.beq q k) | none=>true) && noPlace k r
def noRel:List Fact→Bool
  | []=>true
  | .rel _::_=>false
  | .val _::r=>noRel r
  | .own _ _ _::r=>noRel r
end
end Go.Sw
namespace Go.Sw
open Go Go.RowKit
def factsD (l:List Fact) (s:Nat):Facts (Own×Value×Froz):=fun i g u w=>match Nat.beq i s with
  | true=>u=g.2.1
  | false=>factsOf l i g.1 u w
def ParD (X:List Nat) (w0:World) (D:Froz) (W:List Nat) (L0:Own) (Q:Froz→Value→Prop) (b:Bool) (g:Own×Value×Froz) (w:World):Prop:=
  Par X w0 (g.2.2++D) W L0 g.1 w∧(b=false→g.2.2=[])∧(b=true→Q g.2.2 g.2.1)
section
variable {P : Program} {X : List Nat} {w0 w : World} {D : Froz} {W : List Nat} {L0 : Own} {Q : Froz → Value → Prop} {s i : Nat} {b : Bool} {g : Own × Value × Froz} {l : List Fact} {o : Oper} {a : Act}
theorem factsD_ne (h:Nat.beq i s=false)(u:Value):factsD l s i g u w=factsOf l i g.1 u w:=by unfold factsD;rw [h]
theorem ParD.drew (h:ParD X w0 D W L0 Q b g w):ParD X w0 D W L0 Q b g w.drew:=⟨⟨h.1.1.ext (Below.drew (Below.refl _ _)),h.1.2⟩,h.2⟩
theorem ParD.mem (h:ParD X w0 D W L0 Q b g w)(hW:holes W L0=true):MemX X w0 w L0 D:=(Par.mem h.1 hW).sub D (fun _ hx=>List.mem_append_right _ hx)
theorem pd_val {v:Value}(hS:ParD X w0 D W L0 Q b g w)(hs:Nat.beq i s=false)(hi:l[i]? = some (.val v))(hg:Gives P o a w v):Does P o a w (AfterG (ParD X w0 D W L0 Q) (factsD l s) b i g w):=
  hg.mono fun u w' ⟨h1,h2⟩=>by subst h2;exact ⟨g,hS,by rw [factsD_ne hs];exact fact_get hi h1,fun j u _ h=>h⟩
theorem factsD_ext {w':World}(hl:Lasts l)(hx:Ext w w')(j:Nat)(u:Value)(h:factsD l s j g u w):factsD l s j g u w':=by
  unfold factsD at *
  cases e:Nat.beq j s with
  | true=>rw [e] at h;exact h
  | false=>rw [e] at h;exact facts_ext hl hx j u h
theorem pd_call {v:Value}(hl:Lasts l)(hS:ParD X w0 D W L0 Q b g w)(hs:Nat.beq i s=false)(hi:l[i]? = some (.val v))(hg:Does P o a w (fun u w'=>Ext w w'∧u=v)):Does P o a w (AfterG (ParD X w0 D W L0 Q) (factsD l s) b i g w):=
  hg.mono fun _ _ ⟨h1,h2⟩=>⟨g,⟨⟨hS.1.1.ext h1,hS.1.2⟩,hS.2⟩,by rw [factsD_ne hs];exact fact_get hi h2,fun j u _ h=>factsD_ext hl h1 j u h⟩
theorem pd_own {k:Nat}{cs:Array Value}{mk:Nat→Value}(hl:Lasts l)(hS:ParD X w0 D W L0 Q b g w)(hs:Nat.beq i s=false)(hi:l[i]? = some (.own k cs mk))(hk:memNat k W=true)(hkl:Nat.blt k L0.length=true)(h1:onePlace k i l 0=true)
    (hg:Does P o a w (fun u w'=>∃ b,u=mk b∧MemX X w0 w' (g.1.set k (some (b,cs))) (g.2.2++D)∧Ext w w')):Does P o a w (AfterG (ParD X w0 D W L0 Q) (factsD l s) b i g w):=
  hg.mono fun u w' ⟨bq,hu,hM,hx⟩=>by
    have hkl':k<g.1.length:=by rw [hS.1.2.1];exact Nat.blt_eq.mp hkl
    refine ⟨(g.1.set k (some (bq,cs)),g.2),⟨⟨hM,hS.1.2.set k hk _⟩,hS.2⟩,?_,fun j u hj h=>?_⟩
    · rw [factsD_ne hs];exact fact_get hi ⟨bq,hu,by simp [hkl']⟩
    · unfold factsD at *
      cases ej:Nat.beq j s with
      | true=>rw [ej] at h;exact h
      | false =>
        rw [ej] at h
        have h2:=facts_ext hl hx j u h
        dsimp only at h2 ⊢
        unfold factsOf at *
        cases e:l[j]? with
        | none=>trivial
        | some fq =>
          rw [e] at h2
          have hp:=onePlace_spec h1 j fq e (by omega)
          cases fq with
          | val v=>exact h2
          | rel R=>exact h2
          | own q ds mk' =>
            obtain ⟨c,h3,h4⟩:=h2
            refine ⟨c,h3,?_⟩
            rw [List.getElem?_set,if_neg (fun e=>hp (by subst e;rfl))];exact h4
theorem pd_new (hl:Lasts l)(hS:ParD X w0 D W L0 Q false g w)
    (hg:Does P o a w (fun u w'=>Ext w w'∧∃ D',(∀ x ds,(x,ds)∈D'→w.heap.size≤x∧Blk w' x ds)∧Q D' u)):Does P o a w (AfterG (ParD X w0 D W L0 Q) (factsD l s) true s g w):=
  hg.mono fun u w' ⟨hx,D',hD,hq⟩=>by
    have hM:=hS.1.1
    rw [hS.2.1 rfl] at hM
    refine ⟨(g.1,u,D'),⟨⟨hM.addD hx hD,hS.1.2⟩,fun hb=>(by cases hb),fun _=>hq⟩,by unfold factsD;rw [show Nat.beq s s=true by simp],fun j u hj h=>?_⟩
    unfold factsD at *
    cases ej:Nat.beq j s with
    | true=>exact absurd (Nat.eq_of_beq_eq_true ej) hj
    | false=>rw [ej] at h;exact facts_ext hl hx j u h
end
end Go.Sw
namespace Go.Sw
open Go Go.RowKit
def factsK (kt:Nat) (l:List Fact) (nw:List Nat) (Q:Froz→Value→Prop):Facts (Own×Froz):=fun i g u w=>match memNat i nw with
  | true=>∃ DK,(∀ x,x∈DK→x∈g.2)∧Q DK u
  | false=>factsG kt l i g.1 u w
def ParK (X:List Nat) (w0:World) (D:Froz) (W:List Nat) (L0:Own) (kt:Nat) (csO csN:Array Value) (bb:Bool) (g:Own×Froz) (w:World):Prop:=ParG X w0 (g.2++D) W L0 kt csO csN bb g.1 w
section
variable {P : Program} {X : List Nat} {w0 w : World} {D : Froz} {W : List Nat} {L0 : Own} {kt : Nat} {csO csN : Array Value} {bb : Bool} {l : List Fact} {i : Nat} {o : Oper} {a : Act} {g : Own × Froz} {nw : List Nat} {Q : Froz → Value → Prop}
end
end Go.Sw
namespace Go.Sw
open Go Go.RowKit
section
variable {P : Program} {n : Nat} {F : List (Nat × Value)} {a : Act} {w : World} {d : Option Tmp} {t T T' : TypeId} {pos : String} {af : Array Edge} {gd : Option (Nat × Bool)} {x y : Operand} {k k' : IntKind} {A B C : Int}
theorem g_shr (hF:Fr n a F)(hx:look F x=some (.int k A))(hy:look F y=some (.int k' B))(hB:¬ B<0)(hC:A.fdiv (2 ^ (min B.toNat k.bits))=C):Gives P ⟨d,.binOp .shr T x y T',t,pos,af,gd⟩ a w (.int k C):=
  gives_of_run (by simp [execOp,eqGuard_int,binOp,Op.shift,hF.eval hx,hF.eval hy,hB,hC])
theorem g_and (hF:Fr n a F)(hx:look F x=some (.int k A))(hy:look F y=some (.int k B))(hC:k.wrap ((BitVec.ofInt k.bits A &&& BitVec.ofInt k.bits B).toNat:Int)=C):Gives P ⟨d,.binOp .and T x y T',t,pos,af,gd⟩ a w (.int k C):=
  gives_of_run (by simp [execOp,eqGuard_int,binOp,Op.intBits,hF.eval hx,hF.eval hy,← hC])
end
theorem wrap_u64n (x:Nat):IntKind.u64.wrap (x:Int)=((x%18446744073709551616:Nat):Int):=by
  unfold IntKind.wrap IntKind.bits IntKind.signed
  simp
theorem mul_u64 (x c:Nat):IntKind.u64.wrap ((x:Int)*(c:Int))=((x*c%18446744073709551616:Nat):Int):=by rw [← wrap_u64n];simp
theorem add_u64 (x c:Nat):IntKind.u64.wrap ((x:Int)+(c:Int))=(((x+c)%18446744073709551616:Nat):Int):=by rw [← wrap_u64n];simp
theorem shr_u64 (x:Nat):(x:Int).fdiv (2 ^ (min (33:Int).toNat IntKind.u64.bits))=((x / 8589934592:Nat):Int):=by
  rw [show (2:Int) ^ (min (33:Int).toNat IntKind.u64.bits)=((8589934592:Nat):Int) from by decide,Int.fdiv_eq_ediv_of_nonneg _ (by omega)]
  rfl
theorem and_u64 (x:Nat)(h:x<18446744073709551616):IntKind.u64.wrap ((BitVec.ofInt IntKind.u64.bits (x:Int) &&& BitVec.ofInt IntKind.u64.bits ((16777215:Nat):Int)).toNat:Int)=((x%16777216:Nat):Int):=by
  have e:(BitVec.ofInt IntKind.u64.bits (x:Int) &&& BitVec.ofInt IntKind.u64.bits ((16777215:Nat):Int)).toNat=x%16777216:=by
    show (BitVec.ofInt 64 (x:Int) &&& BitVec.ofInt 64 ((16777215:Nat):Int)).toNat=x%16777216
    rw [BitVec.toNat_and,BitVec.ofInt_natCast,BitVec.ofInt_natCast,BitVec.toNat_ofNat,BitVec.toNat_ofNat,Nat.mod_eq_of_lt (show x<2 ^ 64 by omega),show (16777215:Nat)%2 ^ 64=2 ^ 24 - 1 from by decide,Nat.and_two_pow_sub_one_eq_mod]
  rw [e,wrap_u64n,Nat.mod_eq_of_lt (by omega)]
def FactI (l:List (Value→Prop)):Facts Unit:=fun i _ v _=>(l.getD i (fun _=>True)) v
theorem dI_val {P:Program}{S:World→Prop}{l:List (Value→Prop)}{o:Oper}{a:Act}{w:World}{v:Value}{i:Nat}(hS:S w)(hg:Gives P o a w v)(hv:FactI l i () v w):Does P o a w (After (fun _:Unit=>S) (FactI l) i () w):=
  hg.mono fun u w' ⟨e1,e2⟩=>by subst e1;subst e2;exact ⟨(),hS,hv,fun _ _ _ h=>h⟩
theorem dI_call {P:Program}{S:World→Prop}{l:List (Value→Prop)}{o:Oper}{a:Act}{w:World}{R:Value→World→Prop}{i:Nat}(h:Does P o a w R)(hr:∀ v w',R v w'→S w'∧FactI l i () v w'):Does P o a w (After (fun _:Unit=>S) (FactI l) i () w):=
  h.mono fun u w' hu=>⟨(),(hr u w' hu).1,(hr u w' hu).2,fun _ _ _ h=>h⟩
def srcC (sl:Value) (at_ h:Nat):Array Value:=#[sl,.int .i64 (at_:Int),.int .u64 (h:Int)]
def CodeB (w:World) (X:List Nat) (sl:Value) (m:Nat):Prop:=
  m≤4096∧(∃ x c,sl = .slice x m c)∧(0<m→∃ (b o c:Nat) (F:Nat→Nat),sl = .slice (some ⟨b,o,none⟩) m c∧b<w.heap.size∧b ∉ X∧(∀ i,F i≤255)∧∀ i,i<m→w.cell? ⟨b,o+i*1,none⟩=some (.int .u8 (F i:Int)))
theorem cell_extX {X:List Nat}{w w':World}{b o:Nat}{v:Value}(h:w.cell? ⟨b,o,none⟩=some v)(hx:ExtX X w w')(hb:b<w.heap.size)(hX:b ∉ X):w'.cell? ⟨b,o,none⟩=some v:=by
  unfold World.cell? at h ⊢
  simp only [hx.block b hb hX];exact h
theorem CodeB.carry {X Y:List Nat}{w0 w:World}{sl:Value}{m:Nat}(h:CodeB w0 X sl m)(hx:ExtX X w0 w)(hY:∀ y,y∈Y→y∈X∨w0.heap.size≤y):CodeB w Y sl m:=
  ⟨h.1,h.2.1,fun hm=>by
    obtain ⟨b,o,c,F,h1,h2,h3,h4,h5⟩:=h.2.2 hm
    refine ⟨b,o,c,F,h1,Nat.lt_of_lt_of_le h2 hx.size,fun hb=>?_,h4,fun i hi=>cell_extX (h5 i hi) hx h2 h3⟩
    rcases hY b hb with e | e
    · exact h3 e
    · omega⟩
theorem MemX.code {X:List Nat}{w0 w:World}{L:Own}{D:Froz}{sl:Value}{m k b:Nat}{cs:Array Value}(h:MemX X w0 w L D)(hc:CodeB w0 X sl m)(hk:L[k]? = some (some (b,cs))):CodeB w [b] sl m:=
  hc.carry h.bel (fun y hy=>by
    have e:y=b:=by simpa using hy
    subst e
    exact (h.blk k y cs hk).1.symm)
theorem srcC_size {sl:Value}{at_ h:Nat}:(srcC sl at_ h).size=3:=rfl
def Drawn (x n:Int):Prop:=0≤x∧(1≤n→x<n)∧(n<1→x=0)
theorem CallsX.mono {P:Program}{X:List Nat}{f:FuncId}{args:Array Value}{w:World}{R R':Value→World→Prop}(h:CallsX P X f args w R)(hr:∀ v w',R v w'→R' v w'):CallsX P X f args w R':=
  Calls.mono h (fun _ _ ⟨v,he,h1,h2⟩=>⟨v,he,h1,hr v _ h2⟩)
section
variable {n : Nat} {F : List (Nat × Value)} {a : Act}
theorem build02 {x0 x1:Operand}{v0 v1:Value}(hF:Fr n a F)(h0:look F x0=some v0)(h1:look F x1=some v1):(#[(0,x0),(2,x1)]:Array (Nat×Operand)).toList.map (fun p=>(p.1,a.eval p.2))=[(0,v0),(2,v1)]:=by simp [hF.eval h0,hF.eval h1]
end
end Go.Sw
namespace Go.Sw
open Go Go.RowKit
theorem grpC_setM {n:Int}{M:Nat→Nat→Nat}{o v:Nat}(i j:Nat)(h:o=1+i*6+j)(hi:i<6)(hj:j<6):(grpC n M).setIfInBounds o (.int .u8 (v:Int))=grpC n (fun a b=>if a=i∧b=j then v else M a b):=by
  subst h;refine grpC_eq (by rw [Array.size_setIfInBounds,grpC_size]) ?_ ?_
  · rw [Array.getElem?_setIfInBounds_ne (by omega)];exact grpC_n rfl
  · intro a b ha hb
    by_cases e:a=i∧b=j
    · obtain ⟨rfl,rfl⟩:=e
      rw [if_pos ⟨rfl,rfl⟩,Array.getElem?_setIfInBounds_self_of_lt (by rw [grpC_size];omega)]
    · rw [if_neg e,Array.getElem?_setIfInBounds_ne (by omega)];exact grpC_M a b rfl ha hb
end Go.Sw
namespace Go.Sw.Rw
open Go Go.RowKit
variable {P : Program}
theorem round2 {n p q:Nat}{a:Act}{F:List (Nat×Value)}{u v:Value}(hF:Fr n a F)(hp:Nat.blt p n=true)(hq:Nat.blt q n=true):Fr n { tmps:=roundTmps #[p,q] #[u,v] a.tmps,defers:=[] } ((q,v)::(p,u)::F):=by
  have h:=(hF.put p u hp).put q v hq;have e:roundTmps #[p,q] #[u,v] a.tmps=((a.put (some p) u).put (some q) v).tmps:=by simp [roundTmps,Act.put]
  rw [e];exact ⟨rfl,h.size,h.get⟩
theorem args_inj {x y b c l:Nat}(h:(#[.int .i64 (x:Int),.slice (some ⟨b,0,none⟩) l l]:Array Value) = #[.int .i64 (y:Int),.slice (some ⟨c,0,none⟩) l l]):x=y∧b=c:=by
  simp only [Array.mk.injEq,List.cons.injEq,Value.int.injEq,true_and,Value.slice.injEq,Option.some.injEq,Addr.mk.injEq,and_true] at h;exact ⟨by have:=h.1;omega,h.2⟩
def blks (L:Own):List Nat:=L.filterMap (fun x=>x.map Prod.fst)
theorem mem_blks {L:Own}{b:Nat}:b∈blks L↔∃ (k:Nat) (cs:Array Value),L[k]? = some (some (b,cs)):=by
  unfold blks
  rw [List.mem_filterMap]
  constructor
  · rintro ⟨x,hx,e⟩
    cases x with
    | none=>cases e
    | some y =>
      obtain ⟨k,hk⟩:=List.mem_iff_getElem?.1 hx;obtain rfl:=Option.some.inj e;exact ⟨k,y.2,hk⟩
  · rintro ⟨k,cs,hk⟩
    exact ⟨some (b,cs),List.mem_iff_getElem?.2 ⟨k,hk⟩,rfl⟩
theorem rebase {w0 w:World}{L:Own}{D:Froz}(h:Mem w0 w L D):MemX (blks L) w w L D:=
  ⟨ExtX.refl _ w,fun k b cs hk=>⟨.inr (mem_blks.2 ⟨k,cs,hk⟩),(h.blk k b cs hk).2⟩,h.apart,h.froz⟩
theorem unbase {w0 w w':World}{L L':Own}{D D':Froz}(h:Mem w0 w L D)(h2:MemX (blks L) w w' L' D')(hD:∀ x,x∈D→x∈D'):Mem w0 w' L' D:=by
  have hge:∀ b,b∈blks L→w0.heap.size≤b:=fun b hb=>by
    obtain ⟨k,cs,hk⟩:=mem_blks.1 hb;exact (h.blk k b cs hk).1.resolve_right (by simp)
  refine ⟨⟨h2.bel.os.trans h.bel.os,h2.bel.tape.trans h.bel.tape,h2.bel.output.trans h.bel.output,Nat.le_trans h.bel.size h2.bel.size,fun k hk hX=>?_⟩,fun k b cs hk=>⟨.inl ?_,(h2.blk k b cs hk).2⟩,h2.apart,fun b cs hm=>h2.froz b cs (hD _ hm)⟩
  · exact (h2.bel.block k (Nat.lt_of_lt_of_le hk h.bel.size) (fun q=>by have:=hge k q;omega)).trans (h.bel.block k hk hX)
  · rcases (h2.blk k b cs hk).1 with q | q
    · exact Nat.le_trans h.bel.size q
    · exact hge b q
theorem keeps {w0 w w':World}{L L':Own}{D D':Froz}(h:Mem w0 w L D)(h2:MemX (blks L) w w' L' D'):KeepsNC w w':=
  keepsNC_of h2.bel fun b hb=>by
    obtain ⟨k,cs,hk⟩:=mem_blks.1 hb
    exact ⟨cs,(h.blk k b cs hk).2⟩
theorem addD_mark {n D:Nat}{a:Act}{F:List (Nat×Value)}(hF:Fr n a F):({ a with defers:=[{ target:=.collected D,args:=#[] }] }:Act)=addD [mark D] a:=by
  unfold addD;rw [hF.defers];rfl
end Go.Sw.Rw
namespace Go.Sw.Rw
def orgF (ord d:Nat→Nat):Nat→Nat→Nat
  | 0,_=>0
  | j+1,c=>if c=ord j then d j else orgF ord d j c
def plF (s:Nat) (g:Nat→Nat):Nat→Nat
  | 0=>0
  | j+1=>plF s g j*s+g j
theorem plF_lt {s:Nat}{g:Nat→Nat}(h:∀ c,g c<s):∀ j,plF s g j<s ^ j
  | 0=>by unfold plF;exact Nat.lt_of_lt_of_le Nat.zero_lt_one (Nat.le_refl _)
  | j + 1 => by
    have ih:=plF_lt h j
    have hg:=h j
    unfold plF
    rw [Nat.pow_succ]
    have:(plF s g j+1)*s≤s ^ j*s:=Nat.mul_le_mul_right s ih
    rw [Nat.add_mul,Nat.one_mul] at this
    omega
def pmF (s l:Nat) (ord f:Nat→Nat) (k:Nat):Nat:=f (plF s (orgF ord (digF s l k) l) l)
end Go.Sw.Rw
namespace Go.Sw.Rw
open Go Go.RowKit
variable {P : Program}
def KeepG (s:Nat) (B W:World):Prop:=B.heap.size≤W.heap.size∧∀ q,s≤q→q<B.heap.size→W.heap[q]? = B.heap[q]?
theorem KeepG.trans {s:Nat}{A B C:World}(h1:KeepG s A B)(h2:KeepG s B C):KeepG s A C:=⟨Nat.le_trans h1.1 h2.1,fun q hq hl=>(h2.2 q hq (Nat.lt_of_lt_of_le hl h1.1)).trans (h1.2 q hq hl)⟩
theorem KeepG.of_ext {s:Nat}{A B:World}(h:Ext A B):KeepG s A B:=⟨h.size,fun q _ hl=>h.block q hl⟩
theorem KeepG.of_extX {X:List Nat}{s:Nat}{A B:World}(h:ExtX X A B)(hX:∀ b,b∈X→b<s):KeepG s A B:=⟨h.size,fun q hq hl=>h.block q hl fun hm=>by have:=hX q hm;omega⟩
theorem KeepG.put {s l:Nat}{A B:World}(h:KeepG s A B){o:Obj}(hl:l<s∨A.heap.size≤l):KeepG s A (B.putObj l o):=⟨by simpa using h.1,fun q hq hlt=>(World.putObj_heap_other (by omega)).trans (h.2 q hq hlt)⟩
theorem KeepG.blk {s b:Nat}{A B:World}{cs:Array Value}(h:KeepG s A B)(hb:Blk A b cs)(hs:s≤b):Blk B b cs:=by
  obtain ⟨t,ht⟩:=hb;exact ⟨t,(h.2 b hs (Array.getElem?_eq_some_iff.1 ht).1).trans ht⟩
theorem KeepG.mono {s s':Nat}{A B:World}(h:KeepG s A B)(hs:s≤s'):KeepG s' A B:=⟨h.1,fun q hq hl=>h.2 q (by omega) hl⟩
def IterM (P:Program) (gf:Nat) (cap:Array Value) (N:Nat) (arg:Nat→World→World→Array Value→Prop) (K:World→Prop):Prop:=
  ∀ (l:Nat) (J:Nat→World→Prop) (Jx:World→Prop) (W:World),
    (∀ k A B,J k A→Ext A B→J k B)→(∀ k A,J k A→K A)→
    (∀ k A q o o',W.heap.size≤q→J k A→A.heap[q]? = some o→(∀ cs t,o≠.cells cs t)→J k (A.putObj q o'))→
    (∀ A q o o',W.heap.size≤q→Jx A→A.heap[q]? = some o→(∀ cs t,o≠.cells cs t)→Jx (A.putObj q o'))→
    (∀ k A B args,k<N→J k A→Ext A B→arg k A B args→YieldAt Fence.wide 0 P l args B (fun e W'=>KeepG W.heap.size B W'∧((e = .returned (.bool true)∧J (k+1) W')∨(e = .returned (.bool false)∧Jx W'))))→
    J 0 W→CallsIn Fence.wide 0 P gf (#[.func (.yield l) #[] #[]]++cap) W (fun e W'=>(∃ v,e = .returned v)∧(J N W'∨Jx W'))
theorem yield_mono {F:Fence}{m l:Nat}{args:Array Value}{W:World}{R R':Ending→World→Prop}(h:YieldAt F m P l args W R)(hr:∀ e w,R e w→R' e w):YieldAt F m P l args W R':=by
  obtain ⟨fn,tmps,assign,body,hy,hR⟩:=h;exact ⟨fn,tmps,assign,body,hy,hR.mono hr⟩
theorem IterC.toM {gf N:Nat}{cap:Array Value}{arg:Nat→World→World→Array Value→Prop}{K:World→Prop}(h:IterC P gf cap N arg K):IterM P gf cap N arg K:=
  fun l J Jx W h1 h2 _ _ h5 h6=>h l J Jx W h1 h2 (fun k A B args a b c d=>yield_mono (h5 k A B args a b c d) fun _ _ q=>q.2) h6
theorem c_rangeFnM {g:Operand}{ps:Array Tmp}{assign body:Code}{Q:Exit→Act→World→Prop}{a:Act}{w:World}{gf:Nat}{cap:Array Value}{N:Nat}{arg:Nat→World→World→Array Value→Prop}{K:World→Prop}
    (hdf:a.defers=[]) (hg:a.eval g = .func (.func gf) #[] cap) (eg:∀ args w,(callFunc gf args).run P w = .ok (.enter gf args) w) (hit:IterM P gf cap N arg K)
    (hps:∀ k A B args,arg k A B args→args.size=ps.size)
    (harg:∀ k A B args l o o',arg k A B args→A.heap[l]? = some (.loop o)→B.heap[l]? = some (.loop o)→arg k (A.putObj l o') (B.putObj l o') args)
    (I:Nat→World→Prop) (Ix:World→Prop)
    (hIe:∀ k A B,I k A→Ext A B→I k B) (hIl:∀ k A l o o',w.heap.size≤l→I k A→A.heap[l]? = some o→(∀ cs t,o≠.cells cs t)→I k (A.putObj l o')) (hXl:∀ A l o o',w.heap.size≤l→Ix A→A.heap[l]? = some o→(∀ cs t,o≠.cells cs t)→Ix (A.putObj l o')) (hK:∀ k A,I k A→K A) (h0:I 0 w)
    (A1:Array Value→Act→Prop)
    (hassign:∀ (l k:Nat) (A B:World) (args:Array Value) (K:Act→World→Prop),arg k A B args→(∀ a1,A1 args a1→K a1 B)→
      assign.wpIn (FR l) 0 P (Exit.then K (fun _ _ _=>False)) { tmps:=roundTmps ps args a.tmps,defers:=[] } B)
    (hbody:∀ (l k:Nat) (A B:World) (args:Array Value) (a1:Act),k<N→I k A→Ext A B→arg k A B args→A1 args a1→
      body.wpIn (FR l) 0 P (RoundQ (fun W'=>KeepG w.heap.size B W'∧I (k+1) W') (fun W'=>KeepG w.heap.size B W'∧Ix W')) a1 B)
    (hend:∀ (D:Nat) (W:World),w.heap.size≤D→I N W→W.heap[D]? = some (.deferred (some []))→Q .normal { a with defers:=[{ target:=.collected D,args:=#[] }] } W)
    (hret:∀ (D:Nat) (W:World),w.heap.size≤D→Ix W→W.heap[D]? = some (.deferred (some []))→Q .ret { a with defers:=[{ target:=.collected D,args:=#[] }] } W) :
    (Code.rangeFunc g ps assign body).wp P Q a w:=by
  refine wpIn_wide.1 (wpIn_rangeFunc (n:=0) fun fn _=>?_);obtain ⟨rec,hrec⟩:∃ rec:LoopState→Option Code→Loop,rec=fun st pe=>{ state:=st,pending:=pe,fn,tmps:=a.tmps,params:=ps,assign,body,defers:=w.heap.size }:=⟨_,rfl⟩;obtain ⟨W1,hW1⟩:∃ W1,(w.alloc (.deferred (some []))).alloc (.loop (rec .ready none))=W1:=⟨_,rfl⟩;have hL1:W1.heap[w.heap.size+1]? = some (.loop (rec .ready none)):=by
    rw [← hW1];have:=World.alloc_heap_new (w.alloc (.deferred (some []))) (.loop (rec .ready none));rwa [World.size_alloc] at this
  have hE1:Ext w W1:=by rw [← hW1];exact (Ext.alloc _ _).trans (Ext.alloc _ _)
  have hK1:W1.heap[w.heap.size]? = some (.deferred (some [])):=by
    have e:=Ext.alloc (w.alloc (.deferred (some []))) (.loop (rec .ready none));rw [← hW1];exact (e.block w.heap.size (by rw [World.size_alloc];omega)).trans (World.alloc_heap_new w _)
  have hI1:I 0 W1:=hIe _ _ _ h0 hE1;have hne:w.heap.size≠w.heap.size+1:=by omega
  have hs1:W1.heap.size=w.heap.size+2:=by rw [← hW1,World.size_alloc,World.size_alloc]
  have nl:∀ {o:Loop},∀ cs t,(Obj.loop o)≠.cells cs t:=fun cs t q=>by cases q
  refine ⟨w.heap.size+1,[{ target:=.collected w.heap.size,args:=#[] }],W1,{ target:=.fn (.func gf) cap,args:=#[.func (.yield (w.heap.size+1)) #[] #[]] },W1,gf,
    #[.func (.yield (w.heap.size+1)) #[] #[]]++cap,W1,?_,?_,fun _ _=>trivial,?_,fun e=>(by cases e),?_⟩
  · rw [← hW1,hrec];exact run_enterLoop_outer _ _ _ _ _
  · simp only [resolve,hg]
    simp [go_sem]
  · simp [invoke,go_sem,eg]
  · have hdf2:([{ target:=.collected w.heap.size,args:=#[] }]:List Deferred)++a.defers=[{ target:=.collected w.heap.size,args:=#[] }]:=by rw [hdf];rfl
    refine (hit (w.heap.size+1)
      (fun k W=>I k W∧W.heap[w.heap.size+1]? = some (.loop (rec .ready none))∧W.heap[w.heap.size]? = some (.deferred (some [])))
      (fun W=>Ix W∧W.heap[w.heap.size+1]? = some (.loop (rec .done (some .ret)))∧W.heap[w.heap.size]? = some (.deferred (some [])))
      W1 (fun k A B hA hx=>⟨hIe k A B hA.1 hx,(hx.block _ (Array.getElem?_eq_some_iff.1 hA.2.1).1).trans hA.2.1,(hx.block _ (Array.getElem?_eq_some_iff.1 hA.2.2).1).trans hA.2.2⟩)
      (fun k A hA=>hK k A hA.1)
      (fun k A q o o' hq hA ho hno=>⟨hIl k A q o o' (by rw [hs1] at hq;omega) hA.1 ho hno,(World.putObj_heap_other (by rw [hs1] at hq;omega)).trans hA.2.1,(World.putObj_heap_other (by rw [hs1] at hq;omega)).trans hA.2.2⟩)
      (fun A q o o' hq hA ho hno=>⟨hXl A q o o' (by rw [hs1] at hq;omega) hA.1 ho hno,(World.putObj_heap_other (by rw [hs1] at hq;omega)).trans hA.2.1,(World.putObj_heap_other (by rw [hs1] at hq;omega)).trans hA.2.2⟩)
      ?_ ⟨hI1,hL1,hK1⟩).mono ?_
    · rintro k A B args hk ⟨hIA,hlA,hdA⟩ hx ha
      have hltA:w.heap.size+1<A.heap.size:=(Array.getElem?_eq_some_iff.1 hlA).1;have hlB:B.heap[w.heap.size+1]? = some (.loop (rec .ready none)):=(hx.block _ hltA).trans hlA;have hltB:w.heap.size+1<B.heap.size:=(Array.getElem?_eq_some_iff.1 hlB).1;have hdB:B.heap[w.heap.size]? = some (.deferred (some [])):=(hx.block _ (Array.getElem?_eq_some_iff.1 hdA).1).trans hdA;have hy:=run_yield (P:=P) (args:=args) hlB (by rw [hrec];exact hps k A B args ha);rw [hrec] at hy;refine ⟨fn,_,assign,body,hy,roundIn_of_wpIn trivial (hassign _ k A B args _ ha fun a1 hA1=>⟨_,run_beginRound hlB (by rw [hrec]),?_⟩)⟩;have hb:=hbody (w.heap.size+1) k _ _ args a1 hk (hIl k A (w.heap.size+1) _ (.loop { rec .ready none with state:=.busy }) (by omega) hIA hlA nl) (ext_put hx hltA) (harg k A B args (w.heap.size+1) _ (.loop { rec .ready none with state:=.busy }) ha hlA hlB) hA1;have hl2:(B.putObj (w.heap.size+1) (.loop { rec .ready none with state:=.busy })).heap[w.heap.size+1]? = some (.loop { rec .ready none with state:=.busy }):=World.putObj_heap_same hltB;have hd2:(B.putObj (w.heap.size+1) (.loop { rec .ready none with state:=.busy })).heap[w.heap.size]? = some (.deferred (some [])):=(World.putObj_heap_other hne).trans hdB;refine Code.wpIn_mono ?_ hb;have fin:∀ (jump:Option Code) (W3:World),KeepG w.heap.size (B.putObj (w.heap.size+1) (.loop { rec .ready none with state:=.busy })) W3→
          (Instr.endRound (w.heap.size+1) jump).run P W3 = .ok (.bool jump.isNone) (W3.putObj (w.heap.size+1) (.loop (rec (if jump.isNone then .ready else .done) jump)))∧
          W3.heap[w.heap.size+1]? = some (.loop { rec .ready none with state:=.busy })∧
          (W3.putObj (w.heap.size+1) (.loop (rec (if jump.isNone then .ready else .done) jump))).heap[w.heap.size+1]? = some (.loop (rec (if jump.isNone then .ready else .done) jump))∧
          (W3.putObj (w.heap.size+1) (.loop (rec (if jump.isNone then .ready else .done) jump))).heap[w.heap.size]? = some (.deferred (some [])):=fun jump W3 hk3=>by
        have hl3:=(hk3.2 _ (by omega) (by simpa using hltB)).trans hl2;have hd3:=(hk3.2 _ (by omega) (by simpa using (Array.getElem?_eq_some_iff.1 hdB).1)).trans hd2;have hlt3:w.heap.size+1<W3.heap.size:=(Array.getElem?_eq_some_iff.1 hl3).1;have:=run_endRound (P:=P) jump hl3;refine ⟨?_,hl3,World.putObj_heap_same hlt3,(World.putObj_heap_other hne).trans hd3⟩;rw [this,hrec]
      have kg:∀ (W3:World),KeepG w.heap.size (B.putObj (w.heap.size+1) (.loop { rec .ready none with state:=.busy })) W3→∀ o,KeepG W1.heap.size B (W3.putObj (w.heap.size+1) o):=fun W3 h3 o=>by
        refine ⟨by simpa using h3.1,fun q h1 h2=>?_⟩;rw [World.putObj_heap_other (by omega),h3.2 q (by omega) (by simpa using h2),World.putObj_heap_other (by omega)]
      intro e a3 W3 hq
      cases e with
      | normal =>
        obtain ⟨hk3,hI3⟩:=hq;obtain ⟨h1,h2,h3,h4⟩:=fin none W3 hk3;exact ⟨_,_,h1,kg W3 hk3 _,.inl ⟨rfl,hIl _ _ _ _ _ (by omega) hI3 h2 nl,h3,h4⟩⟩
      | ret =>
        obtain ⟨hk3,hX3⟩:=hq;obtain ⟨h1,h2,h3,h4⟩:=fin (some .ret) W3 hk3;exact ⟨_,_,h1,kg W3 hk3 _,.inr ⟨rfl,hXl _ _ _ _ (by omega) hX3 h2 nl,h3,h4⟩⟩
      | exit id=>exact hq.elim
      | goto t=>exact hq.elim
      | panic c=>exact hq.elim
      | outgrown=>exact hq.elim
    · rintro e W3 ⟨⟨v,rfl⟩,⟨hI3,hl3,hd3⟩ | ⟨hX3,hl3,hd3⟩⟩
      · refine ⟨none,W3.putObj (w.heap.size+1) (.loop { rec .ready none with state:=.exhausted }),(run_endLoop hl3 (by rw [hrec];exact fun q=>by cases q)).trans (by rw [hrec]),?_⟩
        have hd4:(W3.putObj (w.heap.size+1) (.loop { rec .ready none with state:=.exhausted })).heap[w.heap.size]? = some (.deferred (some [])):=(World.putObj_heap_other hne).trans hd3;have:=hend _ _ (Nat.le_refl _) (hIl _ _ _ _ (.loop { rec .ready none with state:=.exhausted }) (by omega) hI3 hl3 nl) hd4;rw [← hdf2] at this;exact this
      · refine ⟨some .ret,W3.putObj (w.heap.size+1) (.loop { rec .done (some .ret) with state:=.exhausted }),(run_endLoop hl3 (by rw [hrec];exact fun q=>by cases q)).trans (by rw [hrec]),?_⟩
        have hd4:(W3.putObj (w.heap.size+1) (.loop { rec .done (some .ret) with state:=.exhausted })).heap[w.heap.size]? = some (.deferred (some [])):=(World.putObj_heap_other hne).trans hd3;have:=hret _ _ (Nat.le_refl _) (hXl _ _ _ (.loop { rec .done (some .ret) with state:=.exhausted }) (by omega) hX3 hl3 nl) hd4;rw [← hdf2] at this;exact wpIn_ret this
section
variable {ops : Array Oper} {Q : Exit → Act → World → Prop} {rest : List Oper} {n L : Nat} {F : List (Nat × Value)} {a : Act} {w : World} {t : TypeId} {pos : String} {af : Array Edge}
theorem region_F {id:Nat}{l:List Oper}(h:wpListIn (FR L) 0 P l.toArray Q l a w):(Code.region id l.toArray false).wpIn (FR L) 0 P Q a w:=wpIn_region_lit h
theorem stF {d:Nat}{op:Op}{v:Value}(hF:Fr n a F)(hd:Gives P ⟨some d,op,t,pos,af,none⟩ a w v)(hn:Nat.blt d n=true)(hnd:noDefer ⟨some d,op,t,pos,af,none⟩=true)
    (h:∀ a',Fr n a' ((d,v)::F)→wpListIn (FR L) 0 P ops Q rest a' w):wpListIn (FR L) 0 P ops Q (⟨some d,op,t,pos,af,none⟩::rest) a w:=
  wpListIn_plain rfl fun K hK=>op_in hnd (fun a w h=>h) (hd.run K Q fun u w' ⟨h1,h2⟩=>by subst h1;subst h2;exact hK _ _ (h _ (hF.put d _ hn)))
theorem stRF {d:Nat}{op:Op}{R:Value→World→Prop}(hF:Fr n a F)(hd:Does P ⟨some d,op,t,pos,af,none⟩ a w R)(hn:Nat.blt d n=true)(hnd:noDefer ⟨some d,op,t,pos,af,none⟩=true)
    (h:∀ v w' a',R v w'→Fr n a' ((d,v)::F)→wpListIn (FR L) 0 P ops Q rest a' w'):wpListIn (FR L) 0 P ops Q (⟨some d,op,t,pos,af,none⟩::rest) a w:=
  wpListIn_plain rfl fun K hK=>op_in hnd (fun a w h=>h) (hd.run K Q fun u w' hr=>hK _ _ (h u w' _ hr (hF.put d _ hn)))
theorem stYF {j dj d:Nat}{b:Bool}{op:Op}{v:Value}(hF:Fr n a F)(hj:(ops[j]?).bind (·.dst)=some dj)(hjn:Nat.blt dj n=true)(hb:lk F dj=some (.bool b))(hd:Gives P ⟨some d,op,t,pos,af,some (j,b)⟩ a w v)(hn:Nat.blt d n=true)(hnd:noDefer ⟨some d,op,t,pos,af,some (j,b)⟩=true)
    (h:∀ a',Fr n a' ((d,v)::F)→wpListIn (FR L) 0 P ops Q rest a' w):wpListIn (FR L) 0 P ops Q (⟨some d,op,t,pos,af,some (j,b)⟩::rest) a w:=by
  unfold wpListIn
  rw [if_pos (by simp [Region.wanted,yielded_of hF hj hjn hb])];exact op_in hnd (fun a w h=>h) (hd.run _ Q fun u w' ⟨h1,h2⟩=>by subst h1;subst h2;exact h _ (hF.put d _ hn))
theorem stSF {j dj d:Nat}{b c:Bool}{op:Op}(hF:Fr n a F)(hj:(ops[j]?).bind (·.dst)=some dj)(hjn:Nat.blt dj n=true)(hb:lk F dj=some (.bool b))(hbc:(b == c)=false)(hn:Nat.blt d n=true)
    (h:∀ a',Fr n a' ((d,undef)::F)→wpListIn (FR L) 0 P ops Q rest a' w):wpListIn (FR L) 0 P ops Q (⟨some d,op,t,pos,af,some (j,c)⟩::rest) a w:=by
  unfold wpListIn
  rw [if_neg (by simp [Region.wanted,yielded_of hF hj hjn hb];intro e;subst e;simp at hbc)];exact ⟨fun _ _=>trivial,h _ (hF.put d _ hn)⟩
theorem stYieldG {j dj d l:Nat}{b:Bool}{x:Operand}{xs:List Operand}{vs:List Value}{ats:Array TypeId}{R:Value→World→Prop}(hF:Fr n a F)(hj:(ops[j]?).bind (·.dst)=some dj)(hjn:Nat.blt dj n=true)(hb:lk F dj=some (.bool b))(hx:look F x=some (.func (.yield l) #[] #[]))(hxs:looks F xs vs)(hn:Nat.blt d n=true)
    (hY:YieldAt Fence.wide 0 P l vs.toArray w (fun e W'=>∃ v,e = .returned v∧R v W'))
    (h:∀ v w' a',R v w'→Fr n a' ((d,v)::F)→wpListIn (FR L) 0 P ops Q rest a' w'):wpListIn (FR L) 0 P ops Q (⟨some d,.call { callee:=.value x,args:=xs.toArray,argTypes:=ats },t,pos,af,some (j,b)⟩::rest) a w:=by
  unfold wpListIn
  rw [if_pos (by simp [Region.wanted,yielded_of hF hj hjn hb])];obtain ⟨fn,tmps,assign,body,hy,hR⟩:=hY;refine ⟨fun _ _=>trivial,?_⟩;have e:(xs.toArray.map a.eval)=vs.toArray:=by rw [← hF.evals hxs];simp
  have hrun:(execOp a.eval ⟨some d,.call { callee:=.value x,args:=xs.toArray,argTypes:=ats },t,pos,af,some (j,b)⟩).run P w = .ok (.round l fn tmps assign body) w:=by
    simp [execOp,resolve,hF.eval hx,Deferred.ofValue,invoke,e,hy]
  rw [show Oper.semAt (FR L).round a.eval ⟨some d,.call { callee:=.value x,args:=xs.toArray,argTypes:=ats },t,pos,af,some (j,b)⟩=execOp a.eval ⟨some d,.call { callee:=.value x,args:=xs.toArray,argTypes:=ats },t,pos,af,some (j,b)⟩ from rfl,hrun];refine ⟨fun e=>(by cases e),RoundIn.mono (show RoundIn (FR L) 0 P l fn tmps assign body w _ from hR) fun e w'' ⟨v,he,hv⟩=>?_⟩;subst he;exact h _ _ _ hv (hF.put d _ hn)
theorem nilF (h:Q .normal a w):wpListIn (FR L) 0 P ops Q [] a w:=h
end
theorem round1 {n p:Nat}{a:Act}{F:List (Nat×Value)}{u:Value}(hF:Fr n a F)(hp:Nat.blt p n=true):Fr n { tmps:=roundTmps #[p] #[u] a.tmps,defers:=[] } ((p,u)::F):=by
  have h:=hF.put p u hp;have e:roundTmps #[p] #[u] a.tmps=(a.put (some p) u).tmps:=by simp [roundTmps,Act.put]
  rw [e];exact ⟨rfl,h.size,h.get⟩
theorem startD4 {w:World}{b1 b2 b3 b4:Nat}{c1 c2 c3 c4:Array Value}(h1:Blk w b1 c1)(h2:Blk w b2 c2)(h3:Blk w b3 c3)(h4:Blk w b4 c4):∀ c ds,(c,ds)∈([(b1,c1),(b2,c2),(b3,c3),(b4,c4)]:Froz)→Blk w c ds:=fun c ds hm=>by
  simp only [List.mem_cons,Prod.mk.injEq,List.not_mem_nil,or_false] at hm
  rcases hm with ⟨rfl,rfl⟩ | ⟨rfl,rfl⟩ | ⟨rfl,rfl⟩ | ⟨rfl,rfl⟩
  · exact h1
  · exact h2
  · exact h3
  · exact h4
def ArgO (_:Nat) (_ _:World) (args:Array Value):Prop:=∃ v,args = #[v]
section
variable {fn : Func} {a : Act} {w : World}
theorem fin0K {R:Ending→World→Prop}{D:Nat}(hr:fn.results = #[])(hd:a.defers=[])(hD:w.heap[D]? = some (.deferred (some [])))(h:R (.returned (.tuple #[])) (w.putObj D (.deferred none))):bodyPostM Fence.wide 0 P fn R .normal (addD [mark D] a) w:=by
  show LeavesInM _ _ _ _ a.tmps _ (a.defers++[mark D]) _ _
  rw [hd];exact ⟨fun q=>(by cases q),.inl ⟨D,_,rfl,run_takeDeferred hD,.tuple #[],by rw [results_eq,hr];simp,h⟩⟩
theorem fin0K' {R:Ending→World→Prop}{D:Nat}(hr:fn.results = #[])(hd:a.defers=[])(hD:w.heap[D]? = some (.deferred (some [])))(h:R (.returned (.tuple #[])) (w.putObj D (.deferred none))):bodyPostM Fence.wide 0 P fn R .ret (addD [mark D] a) w:=by
  show LeavesInM _ _ _ _ a.tmps _ (a.defers++[mark D]) _ _
  rw [hd];exact ⟨fun q=>(by cases q),.inl ⟨D,_,rfl,run_takeDeferred hD,.tuple #[],by rw [results_eq,hr];simp,h⟩⟩
theorem calls_frMW {f:FuncId}{c:Code}{R:Ending→World→Prop}{N:Nat}(vs:List Value)(hf:P.funcs[f]? = some fn)(hb:fn.body=some c)(hN:fn.ntmps=N)(hn:Nat.ble vs.length N=true)
    (h:∀ a,Fr N a (argF vs 0)→c.wp P (bodyPostM Fence.wide 0 P fn R) a w):CallsIn Fence.wide 0 P f vs.toArray w R:=by
  subst hN;exact callsIn_of_wp_marks (n:=0) hf hb trivial (wpIn_wide.2 (h _ (frameA vs rfl hn)))
end
end Go.Sw.Rw
