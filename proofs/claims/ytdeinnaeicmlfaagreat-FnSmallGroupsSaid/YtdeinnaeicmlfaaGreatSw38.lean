import Derived.Test.YtdeinnaeicmlfaaGreatSw33
import Derived.Test.YtdeinnaeicmlfaaGreatSw29
import Derived.Test.YtdeinnaeicmlfaaGreatSw21
import Derived.Test.YtdeinnaeicmlfaaGreatSw14
import Derived.Test.YtdeinnaeicmlfaaGreatEch5
import Derived.DeepKeys4
set_option linter.unusedVariables false
set_option linter.unusedSimpArgs false
namespace Go.Sw
open Go Go.RowKit Go.Ech
section
variable {X : List Nat} {w0 w w' : World} {L : Own} {D : Froz}
def TabI (w w':World) (n:Nat) (M:Nat→Nat→Nat) (u:Value):Prop:=∃ (D:Froz) (β:Nat→Nat) (b:Nat) (cs:Array Value),
  (∀ x ds,(x,ds)∈D→w.heap.size≤x∧Blk w' x ds)∧RowsC D n β (fun i=>rowI n (M i))∧u = .slice (some ⟨b,0,Option.none⟩) n n∧(∀ i,i<n→cs[0+i*1]? = some (.slice (some ⟨β i,0,Option.none⟩) n n))∧(b,cs)∈D∧∀ i,i<n→β i≠b
end
def FreshV (w0:World) (L:Own) (N:Nat) (f:Nat→Value) (u:Value) (w':World):Prop:=∃ b cap cs,SlAt 6 u (some (b,cs)) N b cap cs f∧Blk w' b cs∧w0.heap.size≤b∧∀ (k:Nat) c ds,L[k]? = some (some (c,ds))→c≠b
end Go.Sw
namespace Go.Sw
open Go Go.RowKit
def rowW (cs:Array Value) (N:Nat) (D:Nat→Nat):Array Value:=fnC cs.size (fun c=>if c<N then .int .i64 (D c:Int) else (cs[c]?).getD undef)
def put1 (D:Nat→Nat) (j x i:Nat):Nat:=if i=j then x else D i
section
variable {cs : Array Value} {N : Nat} {D D' : Nat → Nat}
theorem rowW_size:(rowW cs N D).size=cs.size:=fnC_size _ _
theorem rowW_of {u:Value}{e:Option (Nat×Array Value)}{b cap:Nat}(h:SlAt 1 u e N b cap cs (fun c=>.int .i64 (D c:Int))):cs=rowW cs N D:=
  fnC_ext rfl fun i hi=>by
    by_cases e:i<N
    · rw [if_pos e];exact h.get i (by omega)
    · rw [if_neg e,Array.getElem?_eq_getElem hi];rfl
theorem rowW_get (hN:N≤cs.size){o:Nat}(c:Nat)(ho:o=c)(hc:c<N):(rowW cs N D)[o]? = some (.int .i64 (D c:Int)):=by
  subst ho;unfold rowW;rw [fnC_get (by omega),if_pos hc]
theorem rowW_put (_hN:N≤cs.size){o x:Nat}(j:Nat)(ho:o=j)(hj:j<N):(rowW cs N D).setIfInBounds o (.int .i64 (x:Int))=rowW cs N (put1 D j x):=by
  subst ho
  unfold rowW
  refine fnC_set fun c hc=>?_
  unfold put1
  by_cases e:c=o
  · subst e;rw [if_pos hj,if_pos rfl,if_pos rfl]
  · rw [if_neg e,if_neg e]
theorem rowW_sl {b cap m:Nat}(hm:m≤N)(hN:N≤cap)(hc:cap≤maxLen)(hs:cs.size=cap):SlAt 1 (.slice (some ⟨b,0,none⟩) m cap) (some (b,rowW cs N D)) m b cap (rowW cs N D) (fun c=>.int .i64 (D c:Int)):=
  ⟨rfl,rfl,by omega,hc,by rw [rowW_size];omega,fun i hi=>rowW_get (by omega) i rfl (by omega)⟩
end
section
variable {P : Program} {X : List Nat} {w0 w : World} {L : Own} {D : Froz} {n : Nat} {F : List (Nat × Value)} {a : Act} {d : Option Tmp} {T : TypeId} {t : TypeId} {pos : String} {af : Array Edge} {gd : Option (Nat × Bool)} {x y : Operand}
theorem d_storeQ {b o:Nat}{cs cs':Array Value}{v:Value}(k:Nat)(hM:MemX X w0 w L D)(hk:L[k]? = some (some (b,cs)))(hT:oneP P T=true)(hF:Fr n a F)(hx:look F x=some (ptr b o))(hy:look F y=some v)
    (h1:v.oneCell'=true) (ho:o<cs.size) (he:cs.setIfInBounds o v=cs') :
    Does P ⟨d,.store T x y,t,pos,af,gd⟩ a w (fun _ w'=>MemX X w0 w' (L.set k (some (b,cs'))) D):=by
  subst he;exact d_store k hM hk hT hF hx hy h1 ho
end
section
variable {P : Program} {X : List Nat} {w0 w : World} {L : Own} {D : Froz} {n : Nat} {F : List (Nat × Value)} {a : Act} {d : Option Tmp} {T : TypeId} {t : TypeId} {pos : String} {af : Array Edge} {gd : Option (Nat × Bool)} {x : Operand}
theorem d_clear {e:TypeId}{z:Value}{b o m c:Nat}{cs cs':Array Value}(k:Nat)(hM:MemX X w0 w L D)(hk:L[k]? = some (some (b,cs)))(ht:P.underlying T=some (.slice e))(hv:∀ w,(zeroValue e).run P w = .ok z w)(hz:z.cells = #[z])(h1:z.oneCell'=true)
    (hF:Fr n a F) (hx:look F x=some (.slice (some ⟨b,o,none⟩) m c)) (hm:0<m) (hs:o+m≤cs.size) (he:splice cs o (Array.replicate m z)=cs') :
    Does P ⟨d,.call { callee:=.builtin .clear,args:=#[x],argTypes:=#[T] },t,pos,af,gd⟩ a w (fun _ w'=>MemX X w0 w' (L.set k (some (b,cs'))) D):=
  ⟨fun K Q hK=>by
    obtain ⟨tt,hg⟩:=hM.row k hk
    have hst:=run_storeCells_at P b o tt (List.replicate m z) 0 cs w hg (by simpa using hs) (by intro v hv';rw [List.eq_of_mem_replicate hv'];exact h1)
    simp only [Nat.add_zero] at hst
    have hzc:(Builtin.zeroCells z.cells m).toList=List.replicate m z:=by
      rw [hz]
      simp [Builtin.zeroCells]
      apply List.ext_getElem
      · simp
      · intro i h1 h2
        simp [Nat.mod_one]
    have hsp:(List.take o cs.toList++List.replicate m z++List.drop (o+(List.replicate m z).length) cs.toList).toArray=cs':=by
      rw [← he];simp [splice]
    rw [hsp] at hst;obtain ⟨q,rfl⟩:∃ q,m=q+1:=⟨m - 1,by omega⟩;have hr:(Builtin.clear_ #[T] t #[.slice (some ⟨b,o,none⟩) (q+1) c]).run P w = .ok (.tuple #[]) (w.setRow b cs'):=by
      simp [Builtin.clear_,run_underlying ht,hv,hzc,hst]
    unfold Oper.wp execOp
    simp only [resolve,invoke,builtin,Sem.run_bind,Sem.run_pure,Result.andThen_ok,List.map_toArray,List.map_cons,List.map_nil,hF.eval hx];rw [hr];exact hK _ _ (hM.setRow k hk cs')⟩
end
theorem rowW_clear {cs:Array Value}{N k o m:Nat}{D:Nat→Nat}(hN:N≤cs.size)(ho:o=k)(hm:m=N - k)(hk:k≤N):splice (rowW cs N D) o (Array.replicate m (.int .i64 ((0:Nat):Int)))=rowW cs N (fun i=>if i<k then D i else 0):=by
  subst ho hm;have hs:(Array.replicate (N - o) (Value.int .i64 ((0:Nat):Int))).size=N - o:=by simp
  have hle:o+(Array.replicate (N - o) (Value.int .i64 ((0:Nat):Int))).size≤(rowW cs N D).size:=by rw [hs,rowW_size];omega
  refine fnC_ext (by rw [splice_size _ _ _ hle,rowW_size]) fun i hi=>?_;rw [splice_get _ _ _ _ hle,hs]
  by_cases e:o≤i∧i<o+(N - o)
  · rw [if_pos e,if_pos (by omega),Array.getElem?_replicate,if_pos (by omega)]
    dsimp only
    rw [if_neg (by omega)]
  · rw [if_neg e]
    unfold rowW
    rw [fnC_get hi]
    by_cases e2:i<N
    · rw [if_pos e2,if_pos e2];dsimp only;rw [if_pos (by omega)]
    · rw [if_neg e2,if_neg e2]
def SameSet (N:Nat) (D E:Nat→Nat):Prop:=∀ x,(∃ k,k<N∧D k=x)↔∃ k,k<N∧E k=x
theorem SameSet.rfl' {N:Nat}{D:Nat→Nat}:SameSet N D D:=fun _=>Iff.rfl
theorem SameSet.swap {N:Nat}{D E:Nat→Nat}(h:SameSet N D E){i j:Nat}(hi:i<N)(hj:j<N):SameSet N (put1 (put1 D j (D i)) i (D j)) E:=fun x=>by
  rw [← h x]
  have key:∀ k,put1 (put1 D j (D i)) i (D j) k=if k=i then D j else if k=j then D i else D k:=fun k=>rfl
  constructor
  · rintro ⟨k,hk,e⟩
    rw [key] at e
    by_cases e1:k=i
    · rw [if_pos e1] at e;exact ⟨j,hj,e⟩
    · rw [if_neg e1] at e
      by_cases e2:k=j
      · rw [if_pos e2] at e;exact ⟨i,hi,e⟩
      · rw [if_neg e2] at e;exact ⟨k,hk,e⟩
  · rintro ⟨k,hk,e⟩
    by_cases e1:k=i
    · subst e1
      by_cases e2:k=j
      · subst e2;exact ⟨k,hk,by rw [key,if_pos rfl];exact e⟩
      · exact ⟨j,hj,by rw [key,if_neg (fun q=>e2 q.symm),if_pos rfl];exact e⟩
    · by_cases e2:k=j
      · subst e2;exact ⟨i,hi,by rw [key,if_pos rfl];exact e⟩
      · exact ⟨k,hk,by rw [key,if_neg e1,if_neg e2];exact e⟩
def Asc (m:Nat) (D:Nat→Nat):Prop:=∀ a b,a<b→b<m→D a≤D b
def AscBut (m j:Nat) (D:Nat→Nat):Prop:=(∀ a b,a<b→b<m→a≠j→b≠j→D a≤D b)∧∀ b,j<b→b<m→D j≤D b
theorem AscBut.start {m:Nat}{D:Nat→Nat}(h:Asc m D):AscBut (m+1) m D:=⟨fun a b h1 h2 _ h4=>h a b h1 (by omega),fun b h1 h2=>absurd h2 (by omega)⟩
theorem AscBut.done {m j:Nat}{D:Nat→Nat}(h:AscBut m j D)(hj:j=0∨D (j - 1)≤D j):Asc m D:=fun a b h1 h2=>by
  by_cases e1:a=j
  · subst e1;exact h.2 b h1 h2
  · by_cases e2:b=j
    · subst e2
      rcases hj with e | hj
      · omega
      · by_cases e3:a=b - 1
        · subst e3;exact hj
        · exact Nat.le_trans (h.1 a (b - 1) (by omega) (by omega) e1 (by omega)) hj
    · exact h.1 a b h1 h2 e1 e2
theorem AscBut.step {m j:Nat}{D:Nat→Nat}(h:AscBut m j D)(hj0:0<j)(hjm:j<m)(hlt:D j<D (j - 1)):AscBut m (j - 1) (put1 (put1 D j (D (j - 1))) (j - 1) (D j)):=by
  have key:∀ k,put1 (put1 D j (D (j - 1))) (j - 1) (D j) k=if k=j - 1 then D j else if k=j then D (j - 1) else D k:=fun k=>rfl;refine ⟨fun a b h1 h2 h3 h4=>?_,fun b h1 h2=>?_⟩
  · rw [key,key,if_neg h3,if_neg h4]
    by_cases e1:a=j
    · rw [if_pos e1,if_neg (by omega)];exact h.1 (j - 1) b (by omega) h2 (by omega) (by omega)
    · rw [if_neg e1]
      by_cases e2:b=j
      · rw [if_pos e2];exact h.1 a (j - 1) (by omega) (by omega) e1 (by omega)
      · rw [if_neg e2];exact h.1 a b h1 h2 e1 e2
  · rw [key,key,if_pos rfl,if_neg (by omega)]
    by_cases e2:b=j
    · rw [if_pos e2];omega
    · rw [if_neg e2];exact h.2 b (by omega) h2
end Go.Sw
namespace Go.Sw
open Go Go.RowKit
def factsA (l:List Fact) (s:Nat):Facts (Own×Value):=fun i g u w=>match Nat.beq i s with
  | true=>u=g.2
  | false=>factsOf l i g.1 u w
def ParA (X:List Nat) (w0:World) (D:Froz) (W:List Nat) (L0:Own) (kr N:Nat) (e0:Option (Nat×Array Value)) (f:Nat→Value) (b:Bool) (g:Own×Value) (w:World):Prop:=
  Par X w0 D (kr::W) L0 g.1 w∧(b=false→g.1[kr]? = some e0)∧(b=true→∃ e',g.1[kr]? = some e'∧Sl 1 g.2 e' N f)
section
variable {P : Program} {X : List Nat} {w0 w : World} {D : Froz} {W : List Nat} {L0 : Own} {kr N s i : Nat} {e0 : Option (Nat × Array Value)} {f : Nat → Value} {b : Bool} {g : Own × Value} {l : List Fact} {o : Oper} {a : Act}
def noPlace (k:Nat):List Fact→Bool
  | []=>true
  | fq::r=>(match fq.place with | some q=>!(Nat.beq q k) | none=>true) && noPlace k r
def noRel:List Fact→Bool
  | []=>true
  | .rel _::_=>false
  | .val _::r=>noRel r
  | .own _ _ _::r=>noRel r
end
end Go.Sw
namespace Go.Sw
open Go Go.RowKit
def mri (Z k t:Nat) (xs:Nat→Value):Array Value:=fnC Z (fun c=>if c<t then .int .i64 (((k+c:Nat)):Int) else xs c)
section
variable {Z k t : Nat} {xs : Nat → Value}
theorem mri_size:(mri Z k t xs).size=Z:=fnC_size _ _
end
end Go.Sw
namespace Go.Sw
open Go Go.RowKit
structure SSR (D:Froz) (u:Value) (m:Nat) (Ln:Nat→Nat) (F:Nat→Nat→Int) (b cap:Nat) (cs:Array Value) (β κ:Nat→Nat) (C:Nat→Array Value):Prop where
  sl:SlAt 1 u (some (b,cs)) m b cap cs (fun i=>.slice (some ⟨β i,0,none⟩) (Ln i) (κ i))
  out:(b,cs)∈D
  rows:RowsC D m β C
  row:∀ i,i<m→SlAt 1 (.slice (some ⟨β i,0,none⟩) (Ln i) (κ i)) (some (β i,C i)) (Ln i) (β i) (κ i) (C i) (fun c=>.int .i64 (F i c))
  ne:∀ i,i<m→β i≠b
namespace SSR
variable {D D' : Froz} {u : Value} {m b cap : Nat} {Ln β κ : Nat → Nat} {F : Nat → Nat → Int} {cs : Array Value} {C : Nat → Array Value}
theorem more (h:SSR D u m Ln F b cap cs β κ C)(hs:∀ x,x∈D→x∈D'):SSR D' u m Ln F b cap cs β κ C:=⟨h.sl,hs _ h.out,h.rows.more hs,h.row,h.ne⟩
theorem cell (h:SSR D u m Ln F b cap cs β κ C)(i:Nat)(hi:i<m):cs[0+i*1]? = some (.slice (some ⟨β i,0,none⟩) (Ln i) (κ i)):=h.sl.get1 i hi
theorem num (h:SSR D u m Ln F b cap cs β κ C)(i:Nat)(hi:i<m)(c:Nat)(hc:c<Ln i):(C i)[0+c*1]? = some (.int .i64 (F i c)):=(h.row i hi).get1 c hc
end SSR
def SSOutR (w w':World) (m:Nat) (Ln:Nat→Nat) (F:Nat→Nat→Int) (u:Value):Prop:=∃ (D:Froz) (b cap:Nat) (cs:Array Value) (β κ:Nat→Nat) (C:Nat→Array Value),(∀ x ds,(x,ds)∈D→w.heap.size≤x∧Blk w' x ds)∧SSR D u m Ln F b cap cs β κ C
theorem SSOutR.of {w w':World}{L:Own}{D:Froz}{m q:Nat}{Ln β κ:Nat→Nat}{C:Nat→Array Value}{F:Nat→Nat→Int}{u:Value}{b cap:Nat}{cs:Array Value}(hM:Mem w w' L D)(hR:RowsC D m β C)
    (hq:L[q]? = some (some (b,cs))) (hs:SlAt 1 u (some (b,cs)) m b cap cs (fun i=>.slice (some ⟨β i,0,none⟩) (Ln i) (κ i))) (hge:∀ i,i<m→w.heap.size≤β i)
    (hr:∀ i,i<m→SlAt 1 (.slice (some ⟨β i,0,none⟩) (Ln i) (κ i)) (some (β i,C i)) (Ln i) (β i) (κ i) (C i) (fun c=>.int .i64 (F i c))):SSOutR w w' m Ln F u:=by
  refine ⟨(b,cs)::(List.range m).map (fun i=>(β i,C i)),b,cap,cs,β,κ,C,fun x ds hx=>?_,hs,List.mem_cons_self ..,⟨fun i hi=>?_,hR.inj⟩,hr,fun i hi e=>(hM.froz _ _ (hR.mem i hi)).2 q b cs hq e.symm⟩
  · rcases List.mem_cons.1 hx with e | hx
    · simp only [Prod.mk.injEq] at e;obtain ⟨rfl,rfl⟩:=e;exact ⟨hM.ge q hq,hM.row q hq⟩
    · obtain ⟨i,hi,e⟩:=List.mem_map.1 hx
      simp only [Prod.mk.injEq] at e;obtain ⟨rfl,rfl⟩:=e;have hi:i<m:=by simpa using hi
      exact ⟨hge i hi,hM.fzm (hR.mem i hi)⟩
  · exact List.mem_cons_of_mem _ (List.mem_map.2 ⟨i,by simpa using hi,rfl⟩)
def xsf (C:Nat→Array Value) (i:Nat):Nat→Value:=fun c=>((C i)[c]?).getD undef
def mkR (C:Nat→Array Value) (Ln:Nat→Nat) (st:Nat→Nat) (i:Nat):Array Value:=mri (C i).size (st i) (Ln i) (xsf C i)
theorem sep_new {X:List Nat}{w0 w w':World}{L:Own}{D D':Froz}{m:Nat}{β:Nat→Nat}{C:Nat→Array Value}(h:MemX X w0 w L D)(hD:∀ x ds,(x,ds)∈D'→w.heap.size≤x∧Blk w' x ds)(hR:RowsC D' m β C):∀ i,i<m→∀ x,x∈D→x.1≠β i:=fun i hi x hx e=>by
  have h1:=(h.froz x.1 x.2 hx).1.lt
  have h2:=(hD _ _ (hR.mem i hi)).1
  omega
end Go.Sw
namespace Go.Sw
open Go Go.RowKit
def factsD (l:List Fact) (s:Nat):Facts (Own×Value×Froz):=fun i g u w=>match Nat.beq i s with
  | true=>u=g.2.1
  | false=>factsOf l i g.1 u w
def ParD (X:List Nat) (w0:World) (D:Froz) (W:List Nat) (L0:Own) (Q:Froz→Value→Prop) (b:Bool) (g:Own×Value×Froz) (w:World):Prop:=
  Par X w0 (g.2.2++D) W L0 g.1 w∧(b=false→g.2.2=[])∧(b=true→Q g.2.2 g.2.1)
section
variable {P : Program} {X : List Nat} {w0 w : World} {D : Froz} {W : List Nat} {L0 : Own} {Q : Froz → Value → Prop} {s i : Nat} {b : Bool} {g : Own × Value × Froz} {l : List Fact} {o : Oper} {a : Act}
theorem factsD_ne (h:Nat.beq i s=false)(u:Value):factsD l s i g u w=factsOf l i g.1 u w:=by unfold factsD;rw [h]
theorem ParD.drew (h:ParD X w0 D W L0 Q b g w):ParD X w0 D W L0 Q b g w.drew:=⟨⟨h.1.1.ext (Below.drew (Below.refl _ _)),h.1.2⟩,h.2⟩
theorem ParD.mem (h:ParD X w0 D W L0 Q b g w)(hW:holes W L0=true):MemX X w0 w L0 D:=(Par.mem h.1 hW).sub D (fun _ hx=>List.mem_append_right _ hx)
theorem pd_val {v:Value}(hS:ParD X w0 D W L0 Q b g w)(hs:Nat.beq i s=false)(hi:l[i]? = some (.val v))(hg:Gives P o a w v):Does P o a w (AfterG (ParD X w0 D W L0 Q) (factsD l s) b i g w):=
  hg.mono fun u w' ⟨h1,h2⟩=>by subst h2;exact ⟨g,hS,by rw [factsD_ne hs];exact fact_get hi h1,fun j u _ h=>h⟩
theorem factsD_ext {w':World}(hl:Lasts l)(hx:Ext w w')(j:Nat)(u:Value)(h:factsD l s j g u w):factsD l s j g u w':=by
  unfold factsD at *
  cases e:Nat.beq j s with
  | true=>rw [e] at h;exact h
  | false=>rw [e] at h;exact facts_ext hl hx j u h
theorem pd_call {v:Value}(hl:Lasts l)(hS:ParD X w0 D W L0 Q b g w)(hs:Nat.beq i s=false)(hi:l[i]? = some (.val v))(hg:Does P o a w (fun u w'=>Ext w w'∧u=v)):Does P o a w (AfterG (ParD X w0 D W L0 Q) (factsD l s) b i g w):=
  hg.mono fun _ _ ⟨h1,h2⟩=>⟨g,⟨⟨hS.1.1.ext h1,hS.1.2⟩,hS.2⟩,by rw [factsD_ne hs];exact fact_get hi h2,fun j u _ h=>factsD_ext hl h1 j u h⟩
theorem pd_own {k:Nat}{cs:Array Value}{mk:Nat→Value}(hl:Lasts l)(hS:ParD X w0 D W L0 Q b g w)(hs:Nat.beq i s=false)(hi:l[i]? = some (.own k cs mk))(hk:memNat k W=true)(hkl:Nat.blt k L0.length=true)(h1:onePlace k i l 0=true)
    (hg:Does P o a w (fun u w'=>∃ b,u=mk b∧MemX X w0 w' (g.1.set k (some (b,cs))) (g.2.2++D)∧Ext w w')):Does P o a w (AfterG (ParD X w0 D W L0 Q) (factsD l s) b i g w):=
  hg.mono fun u w' ⟨bq,hu,hM,hx⟩=>by
    have hkl':k<g.1.length:=by rw [hS.1.2.1];exact Nat.blt_eq.mp hkl
    refine ⟨(g.1.set k (some (bq,cs)),g.2),⟨⟨hM,hS.1.2.set k hk _⟩,hS.2⟩,?_,fun j u hj h=>?_⟩
    · rw [factsD_ne hs];exact fact_get hi ⟨bq,hu,by simp [hkl']⟩
    · unfold factsD at *
      cases ej:Nat.beq j s with
      | true=>rw [ej] at h;exact h
      | false =>
        rw [ej] at h
        have h2:=facts_ext hl hx j u h
        dsimp only at h2 ⊢
        unfold factsOf at *
        cases e:l[j]? with
        | none=>trivial
        | some fq =>
          rw [e] at h2
          have hp:=onePlace_spec h1 j fq e (by omega)
          cases fq with
          | val v=>exact h2
          | rel R=>exact h2
          | own q ds mk' =>
            obtain ⟨c,h3,h4⟩:=h2
            refine ⟨c,h3,?_⟩
            rw [List.getElem?_set,if_neg (fun e=>hp (by subst e;rfl))];exact h4
theorem pd_new (hl:Lasts l)(hS:ParD X w0 D W L0 Q false g w)
    (hg:Does P o a w (fun u w'=>Ext w w'∧∃ D',(∀ x ds,(x,ds)∈D'→w.heap.size≤x∧Blk w' x ds)∧Q D' u)):Does P o a w (AfterG (ParD X w0 D W L0 Q) (factsD l s) true s g w):=
  hg.mono fun u w' ⟨hx,D',hD,hq⟩=>by
    have hM:=hS.1.1
    rw [hS.2.1 rfl] at hM
    refine ⟨(g.1,u,D'),⟨⟨hM.addD hx hD,hS.1.2⟩,fun hb=>(by cases hb),fun _=>hq⟩,by unfold factsD;rw [show Nat.beq s s=true by simp],fun j u hj h=>?_⟩
    unfold factsD at *
    cases ej:Nat.beq j s with
    | true=>exact absurd (Nat.eq_of_beq_eq_true ej) hj
    | false=>rw [ej] at h;exact facts_ext hl hx j u h
end
end Go.Sw
namespace Go.Sw
open Go Go.RowKit
def factsK (kt:Nat) (l:List Fact) (nw:List Nat) (Q:Froz→Value→Prop):Facts (Own×Froz):=fun i g u w=>match memNat i nw with
  | true=>∃ DK,(∀ x,x∈DK→x∈g.2)∧Q DK u
  | false=>factsG kt l i g.1 u w
def ParK (X:List Nat) (w0:World) (D:Froz) (W:List Nat) (L0:Own) (kt:Nat) (csO csN:Array Value) (bb:Bool) (g:Own×Froz) (w:World):Prop:=ParG X w0 (g.2++D) W L0 kt csO csN bb g.1 w
section
variable {P : Program} {X : List Nat} {w0 w : World} {D : Froz} {W : List Nat} {L0 : Own} {kt : Nat} {csO csN : Array Value} {bb : Bool} {l : List Fact} {i : Nat} {o : Oper} {a : Act} {g : Own × Froz} {nw : List Nat} {Q : Froz → Value → Prop}
end
end Go.Sw
namespace Go.Sw
open Go Go.RowKit Go.Ech
def EmpF (w0:World) (L:Own) (u:Value) (w':World):Prop:=∃ b,u = .slice (some ⟨b,0,none⟩) 0 0∧Blk w' b #[]∧w0.heap.size≤b∧∀ (k:Nat) c ds,L[k]? = some (some (c,ds))→c≠b
end Go.Sw
namespace Go.Sw
open Go Go.RowKit Go.Ech
def TabIF (w0:World) (L:Own) (D:Froz) (n:Nat) (M:Nat→Nat→Nat) (u:Value) (w':World):Prop:=∃ (D':Froz) (β:Nat→Nat) (b:Nat) (cs:Array Value),
  (∀ x ds,(x,ds)∈D'→w0.heap.size≤x∧Blk w' x ds∧∀ (k:Nat) c es,L[k]? = some (some (c,es))→c≠x)∧RowsC D' n β (fun i=>rowI n (M i))∧u = .slice (some ⟨b,0,Option.none⟩) n n∧(∀ i,i<n→cs[0+i*1]? = some (.slice (some ⟨β i,0,Option.none⟩) n n))∧(b,cs)∈D'∧(∀ i,i<n→β i≠b)∧∀ i,i<n→∀ x∈D,x.1≠β i
def TupR (R:Value→World→Prop) (u:Value) (w':World):Prop:=∃ l,u = .tuple #[l,.int .i64 0]∧R l w'
end Go.Sw
namespace Go.Sw
open Go Go.RowKit
variable {P : Program}
def byt (s:ByteArray) (i:Nat):Nat:=(s.data.getD i 0).toNat
theorem byt_lt {s:ByteArray}{i:Nat}:byt s i<256:=UInt8.toNat_lt _
section
variable {n : Nat} {F : List (Nat × Value)} {a : Act} {w : World} {d : Option Tmp} {t T T' : TypeId} {pos : String} {af : Array Edge} {gd : Option (Nat × Bool)} {x y z : Operand}
theorem g_lenS {s:ByteArray}{TT:TypeId}(hT:P.underlying TT=some .string)(hF:Fr n a F)(hx:look F x=some (.string s)):Gives P ⟨d,.call { callee:=.builtin .len,args:=#[x],argTypes:=#[TT] },t,pos,af,gd⟩ a w (.int .i64 (s.size:Int)):=
  gives_of_run (by simp [execOp,resolve,invoke,hF.eval hx,builtin,Builtin.len_,run_underlying hT,goInt])
theorem g_indexS {s:ByteArray}{i:Nat}{κ:IntKind}{X:Int}(hT:P.underlying T=some .string)(hF:Fr n a F)(hx:look F x=some (.string s))(hy:look F y=some (.int κ X))(hX:X=(i:Int))(hi:i<s.size) :
    Gives P ⟨d,.index T x y,t,pos,af,gd⟩ a w (.int .u8 (byt s i:Int)):=by
  subst hX;have h2:s[i]? = some s[i]:=getElem?_pos s i hi;have h3:(s[i]).toNat=byt s i:=by
    unfold byt
    have:s.data.getD i 0=s[i]:=by
      rw [Array.getD_eq_getD_getElem?,Array.getElem?_eq_getElem hi];rfl
    rw [this]
  exact gives_of_run (by simp [execOp,Instr.index,run_underlying hT,hF.eval hx,hF.eval hy,asIntOf,h2,h3])
end
end Go.Sw
namespace Go.Sw
open Go Go.RowKit
def leafs (P:Program):Nat→TypeId→List IntKind→Bool
  | 0,_,_=>false
  | d + 1, t, ks =>
    match P.underlying t with
    | some (.int q)=>decide (ks=[q])
    | some (.array n e)=>Nat.beq ks.length (P.cellsOf t) && (List.range n).all fun i=>leafs P d e ((ks.drop (i*P.cellsOf e)).take (P.cellsOf e))
    | some (.struct fs) => Nat.beq ks.length (P.cellsOf t) && fs.all (·.name != "_") && fs.toList.all fun f => leafs P d f.type ((ks.drop f.offset).take (P.cellsOf f.type))
    | _=>false
def Leafy (cs:List Value) (ks:List IntKind):Prop:=cs.length=ks.length∧∀ (i:Nat) (q:IntKind),ks[i]? = some q→∃ x,cs[i]? = some (Value.int q x)∧(Lit.int q x).wf=true
def wideB (P:Program) (k:TypeId):Bool:=match P.underlying k with | some (.array _ _) | some (.struct _)=>true | _=>false
def IsMap (w:World) (b:Nat) (es:Array MapEntry) (c:Nat):Prop:=w.heap[b]? = some (.map es c)
theorem MemX.setMap {X:List Nat}{w0 w:World}{L:Own}{D:Froz}(h:MemX X w0 w L D){b:Nat}{es:Array MapEntry}{c:Nat}(hb:IsMap w b es c)(hge:w0.heap.size≤b)(o:Obj):MemX X w0 { w with heap:=w.heap.setIfInBounds b o } L D:=by
  have hne:∀ {q:Nat} {cs:Array Value},Blk w q cs→q≠b:=fun hq e=>by
    obtain ⟨t,ht⟩:=hq
    unfold IsMap at hb
    rw [e,hb] at ht;cases ht
  have hbl:∀ {q:Nat} {cs:Array Value},Blk w q cs→Blk { w with heap:=w.heap.setIfInBounds b o } q cs:=fun hq=>by
    have h1:=hne hq;obtain ⟨t,ht⟩:=hq;exact ⟨t,by show (w.heap.setIfInBounds b o)[_]? = _;rw [Array.getElem?_setIfInBounds_ne (Ne.symm h1)];exact ht⟩
  refine ⟨⟨h.bel.os,h.bel.tape,h.bel.output,by show _≤(w.heap.setIfInBounds b o).size;rw [Array.size_setIfInBounds];exact h.bel.size,fun k hk hX=>?_⟩,fun k q cs hq=>⟨(h.blk k q cs hq).1,hbl (h.blk k q cs hq).2⟩,h.apart,fun q cs hq=>⟨hbl (h.froz q cs hq).1,(h.froz q cs hq).2⟩⟩
  show (w.heap.setIfInBounds b o)[k]? = _
  rw [Array.getElem?_setIfInBounds_ne (by omega)];exact h.bel.block k hk hX
section
variable {P : Program} {n : Nat} {F : List (Nat × Value)} {a : Act} {w w0 : World} {d : Option Tmp} {t T kt et : TypeId} {pos : String} {af : Array Edge} {gd : Option (Nat × Bool)} {x y z : Operand} {X : List Nat} {L : Own} {D : Froz}
theorem d_makeMap (hM:MemX X w0 w L D):Does P ⟨d,.makeMap T none,t,pos,af,gd⟩ a w (fun u w'=>∃ b,u = .map (some b)∧MemX X w0 w' L D∧w0.heap.size≤b∧IsMap w' b #[] 0):=
  ⟨fun K Q hk=>by
    have h:=hk (.map (some w.heap.size)) (w.alloc (.map #[] 0)) ⟨_,rfl,hM.ext (Ext.alloc _ _),hM.bel.size,by unfold IsMap;show (w.heap.push _)[w.heap.size]? = _;simp⟩
    unfold Oper.wp execOp
    simp [Instr.makeMap]
    exact h⟩
end
end Go.Sw
