import Derived.Test.YtnjdpgaofjbndaaEch6
import Derived.Test.YtnjdpgaofjbndaaSw65
import Derived.Test.YtnjdpgaofjbndaaSw27
import Derived.Test.YtnjdpgaofjbndaaSw14
set_option linter.unusedVariables false
set_option linter.unusedSimpArgs false
namespace Go.Sw
open Go Go.RowKit
variable {P : Program}
section
variable {n : Nat} {F : List (Nat × Value)} {a : Act} {X : List Nat} {w w0 : World} {L : Own} {D : Froz}
variable {d : Option Tmp} {t : TypeId} {pos : String} {af : Array Edge} {gd : Option (Nat × Bool)} {T : TypeId} {x y : Operand}
theorem g_sliceLo {e:TypeId}{b o len cap i s:Nat}{κ:IntKind}{X:Int}(hT:P.underlying T=some (.slice e))(he:sizeP P e=some s)(hF:Fr n a F)(hx:look F x=some (.slice (some ⟨b,o,none⟩) len cap))(hy:look F y=some (.int κ X))(hX:X=(i:Int))(hi:i≤len)(hl:len≤cap)(hc:i<cap) :
    Gives P ⟨d,.slice T x (some y) none none,t,pos,af,gd⟩ a w (.slice (some ⟨b,o+i*s,none⟩) (len - i) (cap - i)):=by
  subst hX;refine gives_of_run ?_;have h1:(0:Int)≤(i:Int)∧(i:Int)≤(len:Int):=by omega
  have h2:=run_sizeOf he w;have h4:¬ cap=i:=by omega
  have h5:¬ cap - i=0:=by omega
  simp [execOp,Instr.sliceAt,Instr.slice,run_underlying hT,hF.eval hx,hF.eval hy,Instr.sliceBounds,Instr.sliceBound,asIntOf,h1,h2,h4,h5,Addr.add_lit,hi]
end
structure RowsPD (D:Froz) (N m:Nat) (κ:Nat→Nat) (Xs:Nat→Nat→Value) (γ:Nat→Nat) (M:Nat→Nat→Nat):Prop where
  mem:∀ i,i<m→(γ i,rowP N (κ (γ i)) (M i) (Xs (γ i)))∈D
  inj:∀ i j,i<m→j<m→γ i=γ j→i=j
namespace RowsPD
variable {D D' : Froz} {N m : Nat} {κ : Nat → Nat} {Xs : Nat → Nat → Value} {γ : Nat → Nat} {M : Nat → Nat → Nat}
theorem none:RowsPD D N 0 κ Xs γ M:=⟨fun i hi=>absurd hi (by omega),fun i j hi=>absurd hi (by omega)⟩
theorem more (h:RowsPD D N m κ Xs γ M)(hs:∀ x∈D,x∈D'):RowsPD D' N m κ Xs γ M:=⟨fun i hi=>hs _ (h.mem i hi),h.inj⟩
theorem congr {M':Nat→Nat→Nat}(h:RowsPD D N m κ Xs γ M)(e:∀ i,i<m→∀ c,c<N→M i c=M' i c):RowsPD D N m κ Xs γ M':=
  ⟨fun i hi=>by rw [← rowP_congr (e i hi)];exact h.mem i hi,h.inj⟩
theorem snoc (h:RowsPD D N m κ Xs γ M){b cap:Nat}{r:Nat→Nat}{x:Nat→Value}{cs:Array Value}(hc:cs=rowP N cap r x)(hm:(b,cs)∈D)(hn:∀ i,i<m→b≠γ i):RowsPD D N (m+1) (fun y=>if y=b then cap else κ y) (fun y=>if y=b then x else Xs y) (up γ m b) (Go.Ech.upE M m r):=by
  refine ⟨fun i hi=>?_,fun i j hi hj e=>?_⟩
  · by_cases e:i=m
    · subst e;simp only [up_eq,Go.Ech.upE,if_true];rw [← hc];exact hm
    · have hne:¬ γ i=b:=fun h2=>hn i (by omega) h2.symm
      simp only [up_ne e,Go.Ech.upE,if_neg e,if_neg hne];exact h.mem i (by omega)
  · unfold up at e
    by_cases e1:i=m<;>by_cases e2:j=m
    · omega
    · rw [if_pos e1,if_neg e2] at e;exact absurd e (hn j (by omega))
    · rw [if_neg e1,if_pos e2] at e;exact absurd e.symm (hn i (by omega))
    · rw [if_neg e1,if_neg e2] at e;exact h.inj i j (by omega) (by omega) e
end RowsPD
theorem MemX.addD' {X:List Nat}{w0 w:World}{L:Own}{D D':Froz}(h:MemX X w0 w L D)(hD:∀ b cs,(b,cs)∈D'→Blk w b cs∧∀ (k:Nat) c ds,L[k]? = some (some (c,ds))→c≠b):MemX X w0 w L (D'++D):=
  ⟨h.bel,h.blk,h.apart,fun b cs hm=>by
    rcases List.mem_append.1 hm with hm | hm
    · exact hD b cs hm
    · exact h.froz b cs hm⟩
theorem MemX.reduced {X:List Nat}{w0 w w':World}{L:Own}{D:Froz}{N m k b0:Nat}{κ:Nat→Nat}{Xs:Nat→Nat→Value}{γ γ':Nat→Nat}{M:Nat→Nat→Nat}{cs cs':Array Value}{R:Nat→Array Value}(h:MemX X w0 w L D)(hk:L[k]? = some (some (b0,cs)))(hP:RowsPD D N m κ Xs γ M)(hb:w0.heap.size≤b0)(hge:∀ i,i<m→w0.heap.size≤γ i)
    (hx:ExtX (rowsX b0 m γ) w w') (hfr:∀ i,i<m→w.heap.size≤γ' i∨γ' i∈rowsX b0 m γ) (hb0:Blk w' b0 cs') (hbr:∀ i,i<m→Blk w' (γ' i) (R i)):MemX X w0 w' (L.set k none) ((b0,cs')::(List.range m).map (fun i=>(γ' i,R i))):=by
  have key:∀ (j:Nat) c ds,(L.set k none)[j]? = some (some (c,ds))→j≠k∧L[j]? = some (some (c,ds)):=by
    intro j c ds hj;rw [List.getElem?_set] at hj
    split at hj
    · split at hj
      · simp at hj
      · cases hj
    · rename_i e;exact ⟨fun e2=>e e2.symm,hj⟩
  have hnb:∀ (j:Nat) c ds,(L.set k none)[j]? = some (some (c,ds))→c≠b0:=fun j c ds hj e=>by
    subst e;exact (key j _ ds hj).1 (h.apart j k _ _ _ (key j _ ds hj).2 hk)
  have hnY:∀ (j:Nat) c ds,(L.set k none)[j]? = some (some (c,ds))→c ∉ rowsX b0 m γ:=fun j c ds hj hm=>by
    rcases List.mem_cons.1 hm with e | hm
    · exact hnb j c ds hj e
    · obtain ⟨i,hi,e⟩:=List.mem_map.1 hm
      exact (h.froz _ _ (hP.mem i (by simpa using hi))).2 j c ds (key j c ds hj).2 e.symm
  have h2:MemX X w0 w' (L.set k none) []:=((h.drop k).sub [] (fun _ hx=>by cases hx)).extY hx fun y hy=>⟨by
    rcases List.mem_cons.1 hy with e | hm
    · rw [e];exact hb
    · obtain ⟨i,hi,rfl⟩:=List.mem_map.1 hm
      exact hge i (by simpa using hi),fun j c ds hj e=>hnY j c ds hj (e ▸ hy),fun _ _ hm=>by cases hm⟩
  have h3:=h2.addD' (D':=(b0,cs')::(List.range m).map (fun i=>(γ' i,R i))) fun c ds hm=>by
    rcases List.mem_cons.1 hm with e | hm
    · simp only [Prod.mk.injEq] at e;obtain ⟨rfl,rfl⟩:=e;exact ⟨hb0,hnb⟩
    · obtain ⟨i,hi,e⟩:=List.mem_map.1 hm
      simp only [Prod.mk.injEq] at e;obtain ⟨rfl,rfl⟩:=e;have hi:i<m:=by simpa using hi
      refine ⟨hbr i hi,fun j c ds hj e=>?_⟩
      rcases hfr i hi with h4 | h4
      · have:=(h.blk j c ds (key j c ds hj).2).2.lt;omega
      · exact hnY j c ds hj (e ▸ h4)
  rwa [List.append_nil] at h3
theorem mem_rowsD {m i:Nat}{x:Nat×Array Value}{γ:Nat→Nat}{R:Nat→Array Value}(hi:i<m):(γ i,R i)∈x::(List.range m).map (fun i=>(γ i,R i)):=
  List.mem_cons_of_mem _ (List.mem_map.2 ⟨i,by simpa using hi,rfl⟩)
end Go.Sw
namespace Go.Ech
open Go.Sw
def colM (n:Nat) (F:Nat→Nat→Nat) (j i c:Nat):Nat:=if c<n then F i c else if i=j then 1 else 0
end Go.Ech
namespace Go.Sw
open Go Go.RowKit Go.Ech
def TabOut (w w':World) (N k:Nat) (f:Nat→Nat→Value) (u:Value):Prop:=∃ (D:Froz) (β κ:Nat→Nat) (C:Nat→Array Value) (b cap:Nat) (cs:Array Value),
  (∀ x ds,(x,ds)∈D→w.heap.size≤x∧Blk w' x ds)∧RowsD D N k β κ C f∧SlAt 1 u (some (b,cs)) k b cap cs (fun i=>.slice (some ⟨β i,0,none⟩) N (κ i))∧(b,cs)∈D∧(∀ i j,i<k→j<k→β i=β j→i=j)∧∀ i,i<k→β i≠b
theorem TabOut.rows {w w':World}{N k:Nat}{f:Nat→Nat→Value}{u:Value}(h:TabOut w w' N k f u):RowsOut w w' N k f u:=by
  obtain ⟨D,β,κ,C,b,cap,cs,h1,h2,h3,h4,_⟩:=h;exact ⟨D,β,κ,C,b,cap,cs,h1,h2,h3,h4⟩
theorem TabOut.of {w w':World}{L:Own}{D:Froz}{N k q:Nat}{β κ:Nat→Nat}{C:Nat→Array Value}{f:Nat→Nat→Value}{u:Value}{b cap:Nat}{cs:Array Value}(hM:Mem w w' L D)(hR:RowsD D N k β κ C f)
    (hq:L[q]? = some (some (b,cs))) (hs:SlAt 1 u (some (b,cs)) k b cap cs (fun i=>.slice (some ⟨β i,0,none⟩) N (κ i))) (hge:∀ i,i<k→w.heap.size≤β i) (hi:∀ i j,i<k→j<k→β i=β j→i=j):TabOut w w' N k f u:=by
  refine ⟨(b,cs)::(List.range k).map (fun i=>(β i,C i)),β,κ,C,b,cap,cs,fun x ds hx=>?_,⟨fun i hi=>?_,hR.sl⟩,hs,List.mem_cons_self ..,hi,fun i hi e=>(hM.froz _ _ (hR.mem i hi)).2 q b cs hq e.symm⟩
  · rcases List.mem_cons.1 hx with e | hx
    · simp only [Prod.mk.injEq] at e;obtain ⟨rfl,rfl⟩:=e;exact ⟨hM.ge q hq,hM.row q hq⟩
    · obtain ⟨i,hi,e⟩:=List.mem_map.1 hx
      simp only [Prod.mk.injEq] at e;obtain ⟨rfl,rfl⟩:=e;have hi:i<k:=by simpa using hi
      exact ⟨hge i hi,hM.fzm (hR.mem i hi)⟩
  · exact List.mem_cons_of_mem _ (List.mem_map.2 ⟨i,by simpa using hi,rfl⟩)
def offD (D:Froz) (b:Nat):Froz:=D.filter (fun x=>decide (x.1≠b))
structure RowsC (D:Froz) (m:Nat) (β:Nat→Nat) (R:Nat→Array Value):Prop where
  mem:∀ i,i<m→(β i,R i)∈D
  inj:∀ i j,i<m→j<m→β i=β j→i=j
namespace RowsC
variable {D D' : Froz} {m : Nat} {β : Nat → Nat} {R : Nat → Array Value}
theorem none:RowsC D 0 β R:=⟨fun i hi=>absurd hi (by omega),fun i j hi=>absurd hi (by omega)⟩
theorem more (h:RowsC D m β R)(hs:∀ x∈D,x∈D'):RowsC D' m β R:=⟨fun i hi=>hs _ (h.mem i hi),h.inj⟩
theorem congr {R':Nat→Array Value}(h:RowsC D m β R)(e:∀ i,i<m→R i=R' i):RowsC D m β R':=⟨fun i hi=>by rw [← e i hi];exact h.mem i hi,h.inj⟩
theorem setRow (h:RowsC D m β R){i:Nat}(hi:i<m)(cs:Array Value):RowsC (updD D (β i) cs) m β (upE R i cs):=
  ⟨fun j hj=>by
    rw [mem_updD]
    by_cases e:j=i
    · subst e;exact .inl ⟨rfl,if_pos rfl,_,h.mem j hj⟩
    · simp only [upE,if_neg e];exact .inr ⟨fun e2=>e (h.inj _ _ hj hi e2),h.mem j hj⟩,h.inj⟩
theorem snoc (h:RowsC D m β R){b:Nat}{cs:Array Value}(hm:(b,cs)∈D)(hn:∀ i,i<m→b≠β i):RowsC D (m+1) (up β m b) (upE R m cs):=by
  refine ⟨fun i hi=>?_,fun i j hi hj e=>?_⟩
  · by_cases e:i=m
    · subst e;simp only [up_eq,upE,if_true];exact hm
    · simp only [up_ne e,upE,if_neg e];exact h.mem i (by omega)
  · unfold up at e
    by_cases e1:i=m<;>by_cases e2:j=m
    · omega
    · rw [if_pos e1,if_neg e2] at e;exact absurd e (hn j (by omega))
    · rw [if_neg e1,if_pos e2] at e;exact absurd e.symm (hn i (by omega))
    · rw [if_neg e1,if_neg e2] at e;exact h.inj i j (by omega) (by omega) e
end RowsC
def rowI (n:Nat) (f:Nat→Nat):Array Value:=fnC n (fun c=>.int .i64 (f c:Int))
theorem SlAt.room {u:Value}{e:Option (Nat×Array Value)}{N b cap:Nat}{cs:Array Value}{f:Nat→Value}(h:SlAt 6 u e N b cap cs f)(i:Nat)(hi:i<N):0+i*6+6≤cs.size:=by
  have:=h.sz;have:=h.le;omega
end Go.Sw
namespace Go.Sw
open Go Go.RowKit
def mrk (Z k t:Nat) (xs:Nat→Value):Array Value:=fnC Z (fun c=>if c<t then .int .u8 (((k+c:Nat)):Int) else xs c)
section
variable {Z k t : Nat} {xs : Nat → Value}
end
end Go.Sw
namespace Go.Sw
open Go Go.RowKit Go.Ech
section
variable {X : List Nat} {w0 w w' : World} {L : Own} {D : Froz}
def TabI (w w':World) (n:Nat) (M:Nat→Nat→Nat) (u:Value):Prop:=∃ (D:Froz) (β:Nat→Nat) (b:Nat) (cs:Array Value),
  (∀ x ds,(x,ds)∈D→w.heap.size≤x∧Blk w' x ds)∧RowsC D n β (fun i=>rowI n (M i))∧u = .slice (some ⟨b,0,Option.none⟩) n n∧(∀ i,i<n→cs[0+i*1]? = some (.slice (some ⟨β i,0,Option.none⟩) n n))∧(b,cs)∈D∧∀ i,i<n→β i≠b
theorem TabI.of {n q:Nat}{β:Nat→Nat}{M:Nat→Nat→Nat}{b:Nat}{cs:Array Value}(hM:Mem w w' L D)(hR:RowsC D n β (fun i=>rowI n (M i)))(hq:L[q]? = some (some (b,cs)))(hg:∀ i,i<n→cs[0+i*1]? = some (.slice (some ⟨β i,0,Option.none⟩) n n))(hge:∀ i,i<n→w.heap.size≤β i):TabI w w' n M (.slice (some ⟨b,0,Option.none⟩) n n):=by
  refine ⟨(b,cs)::(List.range n).map (fun i=>(β i,rowI n (M i))),β,b,cs,fun x ds hx=>?_,⟨fun i hi=>mem_rowsD (R:=fun i=>rowI n (M i)) hi,hR.inj⟩,rfl,hg,List.mem_cons_self ..,fun i hi e=>(hM.froz _ _ (hR.mem i hi)).2 q b cs hq e.symm⟩
  rcases List.mem_cons.1 hx with e | hx
  · simp only [Prod.mk.injEq] at e;obtain ⟨rfl,rfl⟩:=e;exact ⟨hM.ge q hq,hM.row q hq⟩
  · obtain ⟨i,hi,e⟩:=List.mem_map.1 hx
    simp only [Prod.mk.injEq] at e;obtain ⟨rfl,rfl⟩:=e;have hi:i<n:=by simpa using hi
    exact ⟨hge i hi,hM.fzm (hR.mem i hi)⟩
theorem MemX.marked {n:Nat}{β:Nat→Nat}{R R':Nat→Array Value}(h:MemX X w0 w L D)(hC:RowsC D n β R)(hge:∀ i,i<n→w0.heap.size≤β i)(hx:ExtX ((List.range n).map β) w w')(hb:∀ i,i<n→Blk w' (β i) (R' i)) :
    ∃ DM:Froz,MemX X w0 w' L DM∧(∀ x∈D,(∀ i,i<n→x.1≠β i)→x∈DM)∧RowsC DM n β R':=by
  have hY:∀ y∈(List.range n).map β,∃ i,i<n∧β i=y:=fun y hy=>by
    obtain ⟨i,hi,e⟩:=List.mem_map.1 hy;exact ⟨i,by simpa using hi,e⟩
  let E:=D.filter (fun x=>decide (∀ i,i<n→x.1≠β i))
  have hE:∀ x,x∈E↔x∈D∧∀ i,i<n→x.1≠β i:=fun x=>by
    show x∈D.filter _↔_
    rw [List.mem_filter];simp only [decide_eq_true_eq]
  have h1:=(h.sub E (fun x hx=>((hE x).1 hx).1)).extY hx fun y hy=>by
    obtain ⟨i,hi,rfl⟩:=hY y hy;exact ⟨hge i hi,(h.froz _ _ (hC.mem i hi)).2,fun c ds hm=>((hE _).1 hm).2 i hi⟩
  have h2:=h1.addD' (D':=(List.range n).map (fun i=>(β i,R' i))) fun c ds hm=>by
    obtain ⟨i,hi,e⟩:=List.mem_map.1 hm;simp only [Prod.mk.injEq] at e;obtain ⟨rfl,rfl⟩:=e;have hi:i<n:=by simpa using hi
    exact ⟨hb i hi,(h.froz _ _ (hC.mem i hi)).2⟩
  exact ⟨_,h2,fun x hx hn=>List.mem_append_right _ ((hE x).2 ⟨hx,hn⟩),⟨fun i hi=>List.mem_append_left _ (List.mem_map.2 ⟨i,by simpa using hi,rfl⟩),hC.inj⟩⟩
end
theorem TabI.base {w w1 w':World}{n:Nat}{M:Nat→Nat→Nat}{u:Value}(h:TabI w1 w' n M u)(hs:w.heap.size≤w1.heap.size):TabI w w' n M u:=by
  obtain ⟨D,β,b,cs,h1,h2⟩:=h;exact ⟨D,β,b,cs,fun x ds hm=>⟨Nat.le_trans hs (h1 x ds hm).1,(h1 x ds hm).2⟩,h2⟩
theorem TabOut.base {w w1 w':World}{N k:Nat}{f:Nat→Nat→Value}{u:Value}(h:TabOut w1 w' N k f u)(hs:w.heap.size≤w1.heap.size):TabOut w w' N k f u:=by
  obtain ⟨D,β,κ,C,b,cap,cs,h1,h2⟩:=h;exact ⟨D,β,κ,C,b,cap,cs,fun x ds hm=>⟨Nat.le_trans hs (h1 x ds hm).1,(h1 x ds hm).2⟩,h2⟩
def FreshV (w0:World) (L:Own) (N:Nat) (f:Nat→Value) (u:Value) (w':World):Prop:=∃ b cap cs,SlAt 6 u (some (b,cs)) N b cap cs f∧Blk w' b cs∧w0.heap.size≤b∧∀ (k:Nat) c ds,L[k]? = some (some (c,ds))→c≠b
theorem FreshV.last {w0 w w':World}{L:Own}{N:Nat}{f:Nat→Value}{u:Value}(h:FreshV w0 L N f u w)(hx:Ext w w'):FreshV w0 L N f u w':=by
  obtain ⟨b,cap,cs,h1,h2,h3⟩:=h;exact ⟨b,cap,cs,h1,h2.ext hx,h3⟩
end Go.Sw
namespace Go.Sw
open Go Go.RowKit
def rowW (cs:Array Value) (N:Nat) (D:Nat→Nat):Array Value:=fnC cs.size (fun c=>if c<N then .int .i64 (D c:Int) else (cs[c]?).getD undef)
def put1 (D:Nat→Nat) (j x i:Nat):Nat:=if i=j then x else D i
section
variable {cs : Array Value} {N : Nat} {D D' : Nat → Nat}
theorem rowW_size:(rowW cs N D).size=cs.size:=fnC_size _ _
theorem rowW_of {u:Value}{e:Option (Nat×Array Value)}{b cap:Nat}(h:SlAt 1 u e N b cap cs (fun c=>.int .i64 (D c:Int))):cs=rowW cs N D:=
  fnC_ext rfl fun i hi=>by
    by_cases e:i<N
    · rw [if_pos e];exact h.get i (by omega)
    · rw [if_neg e,Array.getElem?_eq_getElem hi];rfl
theorem rowW_get (hN:N≤cs.size){o:Nat}(c:Nat)(ho:o=c)(hc:c<N):(rowW cs N D)[o]? = some (.int .i64 (D c:Int)):=by
  subst ho;unfold rowW;rw [fnC_get (by omega),if_pos hc]
theorem rowW_put (_hN:N≤cs.size){o x:Nat}(j:Nat)(ho:o=j)(hj:j<N):(rowW cs N D).setIfInBounds o (.int .i64 (x:Int))=rowW cs N (put1 D j x):=by
  subst ho
  unfold rowW
  refine fnC_set fun c hc=>?_
  unfold put1
  by_cases e:c=o
  · subst e;rw [if_pos hj,if_pos rfl,if_pos rfl]
  · rw [if_neg e,if_neg e]
theorem rowW_sl {b cap m:Nat}(hm:m≤N)(hN:N≤cap)(hc:cap≤maxLen)(hs:cs.size=cap):SlAt 1 (.slice (some ⟨b,0,none⟩) m cap) (some (b,rowW cs N D)) m b cap (rowW cs N D) (fun c=>.int .i64 (D c:Int)):=
  ⟨rfl,rfl,by omega,hc,by rw [rowW_size];omega,fun i hi=>rowW_get (by omega) i rfl (by omega)⟩
end
section
variable {P : Program} {X : List Nat} {w0 w : World} {L : Own} {D : Froz} {n : Nat} {F : List (Nat × Value)} {a : Act} {d : Option Tmp} {T : TypeId} {t : TypeId} {pos : String} {af : Array Edge} {gd : Option (Nat × Bool)} {x y : Operand}
theorem d_storeQ {b o:Nat}{cs cs':Array Value}{v:Value}(k:Nat)(hM:MemX X w0 w L D)(hk:L[k]? = some (some (b,cs)))(hT:oneP P T=true)(hF:Fr n a F)(hx:look F x=some (ptr b o))(hy:look F y=some v)
    (h1:v.oneCell'=true) (ho:o<cs.size) (he:cs.setIfInBounds o v=cs') :
    Does P ⟨d,.store T x y,t,pos,af,gd⟩ a w (fun _ w'=>MemX X w0 w' (L.set k (some (b,cs'))) D):=by
  subst he;exact d_store k hM hk hT hF hx hy h1 ho
end
section
variable {P : Program} {X : List Nat} {w0 w : World} {L : Own} {D : Froz} {n : Nat} {F : List (Nat × Value)} {a : Act} {d : Option Tmp} {T : TypeId} {t : TypeId} {pos : String} {af : Array Edge} {gd : Option (Nat × Bool)} {x : Operand}
theorem d_clear {e:TypeId}{z:Value}{b o m c:Nat}{cs cs':Array Value}(k:Nat)(hM:MemX X w0 w L D)(hk:L[k]? = some (some (b,cs)))(ht:P.underlying T=some (.slice e))(hv:∀ w,(zeroValue e).run P w = .ok z w)(hz:z.cells = #[z])(h1:z.oneCell'=true)
    (hF:Fr n a F) (hx:look F x=some (.slice (some ⟨b,o,none⟩) m c)) (hm:0<m) (hs:o+m≤cs.size) (he:splice cs o (Array.replicate m z)=cs') :
    Does P ⟨d,.call { callee:=.builtin .clear,args:=#[x],argTypes:=#[T] },t,pos,af,gd⟩ a w (fun _ w'=>MemX X w0 w' (L.set k (some (b,cs'))) D):=
  ⟨fun K Q hK=>by
    obtain ⟨tt,hg⟩:=hM.row k hk
    have hst:=run_storeCells_at P b o tt (List.replicate m z) 0 cs w hg (by simpa using hs) (by intro v hv';rw [List.eq_of_mem_replicate hv'];exact h1)
    simp only [Nat.add_zero] at hst
    have hzc:(Builtin.zeroCells z.cells m).toList=List.replicate m z:=by
      rw [hz]
      simp [Builtin.zeroCells]
      apply List.ext_getElem
      · simp
      · intro i h1 h2
        simp [Nat.mod_one]
    have hsp:(List.take o cs.toList++List.replicate m z++List.drop (o+(List.replicate m z).length) cs.toList).toArray=cs':=by
      rw [← he];simp [splice]
    rw [hsp] at hst;obtain ⟨q,rfl⟩:∃ q,m=q+1:=⟨m - 1,by omega⟩;have hr:(Builtin.clear_ #[T] t #[.slice (some ⟨b,o,none⟩) (q+1) c]).run P w = .ok (.tuple #[]) (w.setRow b cs'):=by
      simp [Builtin.clear_,run_underlying ht,hv,hzc,hst]
    unfold Oper.wp execOp
    simp only [resolve,invoke,builtin,Sem.run_bind,Sem.run_pure,Result.andThen_ok,List.map_toArray,List.map_cons,List.map_nil,hF.eval hx];rw [hr];exact hK _ _ (hM.setRow k hk cs')⟩
end
theorem rowW_clear {cs:Array Value}{N k o m:Nat}{D:Nat→Nat}(hN:N≤cs.size)(ho:o=k)(hm:m=N - k)(hk:k≤N):splice (rowW cs N D) o (Array.replicate m (.int .i64 ((0:Nat):Int)))=rowW cs N (fun i=>if i<k then D i else 0):=by
  subst ho hm;have hs:(Array.replicate (N - o) (Value.int .i64 ((0:Nat):Int))).size=N - o:=by simp
  have hle:o+(Array.replicate (N - o) (Value.int .i64 ((0:Nat):Int))).size≤(rowW cs N D).size:=by rw [hs,rowW_size];omega
  refine fnC_ext (by rw [splice_size _ _ _ hle,rowW_size]) fun i hi=>?_;rw [splice_get _ _ _ _ hle,hs]
  by_cases e:o≤i∧i<o+(N - o)
  · rw [if_pos e,if_pos (by omega),Array.getElem?_replicate,if_pos (by omega)]
    dsimp only
    rw [if_neg (by omega)]
  · rw [if_neg e]
    unfold rowW
    rw [fnC_get hi]
    by_cases e2:i<N
    · rw [if_pos e2,if_pos e2];dsimp only;rw [if_pos (by omega)]
    · rw [if_neg e2,if_neg e2]
def SameSet (N:Nat) (D E:Nat→Nat):Prop:=∀ x,(∃ k,k<N∧D k=x)↔∃ k,k<N∧E k=x
theorem SameSet.rfl' {N:Nat}{D:Nat→Nat}:SameSet N D D:=fun _=>Iff.rfl
theorem SameSet.swap {N:Nat}{D E:Nat→Nat}(h:SameSet N D E){i j:Nat}(hi:i<N)(hj:j<N):SameSet N (put1 (put1 D j (D i)) i (D j)) E:=fun x=>by
  rw [← h x]
  have key:∀ k,put1 (put1 D j (D i)) i (D j) k=if k=i then D j else if k=j then D i else D k:=fun k=>rfl
  constructor
  · rintro ⟨k,hk,e⟩
    rw [key] at e
    by_cases e1:k=i
    · rw [if_pos e1] at e;exact ⟨j,hj,e⟩
    · rw [if_neg e1] at e
      by_cases e2:k=j
      · rw [if_pos e2] at e;exact ⟨i,hi,e⟩
      · rw [if_neg e2] at e;exact ⟨k,hk,e⟩
  · rintro ⟨k,hk,e⟩
    by_cases e1:k=i
    · subst e1
      by_cases e2:k=j
      · subst e2;exact ⟨k,hk,by rw [key,if_pos rfl];exact e⟩
      · exact ⟨j,hj,by rw [key,if_neg (fun q=>e2 q.symm),if_pos rfl];exact e⟩
    · by_cases e2:k=j
      · subst e2;exact ⟨i,hi,by rw [key,if_pos rfl];exact e⟩
      · exact ⟨k,hk,by rw [key,if_neg e1,if_neg e2];exact e⟩
def Asc (m:Nat) (D:Nat→Nat):Prop:=∀ a b,a<b→b<m→D a≤D b
def AscBut (m j:Nat) (D:Nat→Nat):Prop:=(∀ a b,a<b→b<m→a≠j→b≠j→D a≤D b)∧∀ b,j<b→b<m→D j≤D b
theorem AscBut.start {m:Nat}{D:Nat→Nat}(h:Asc m D):AscBut (m+1) m D:=⟨fun a b h1 h2 _ h4=>h a b h1 (by omega),fun b h1 h2=>absurd h2 (by omega)⟩
theorem AscBut.done {m j:Nat}{D:Nat→Nat}(h:AscBut m j D)(hj:j=0∨D (j - 1)≤D j):Asc m D:=fun a b h1 h2=>by
  by_cases e1:a=j
  · subst e1;exact h.2 b h1 h2
  · by_cases e2:b=j
    · subst e2
      rcases hj with e | hj
      · omega
      · by_cases e3:a=b - 1
        · subst e3;exact hj
        · exact Nat.le_trans (h.1 a (b - 1) (by omega) (by omega) e1 (by omega)) hj
    · exact h.1 a b h1 h2 e1 e2
theorem AscBut.step {m j:Nat}{D:Nat→Nat}(h:AscBut m j D)(hj0:0<j)(hjm:j<m)(hlt:D j<D (j - 1)):AscBut m (j - 1) (put1 (put1 D j (D (j - 1))) (j - 1) (D j)):=by
  have key:∀ k,put1 (put1 D j (D (j - 1))) (j - 1) (D j) k=if k=j - 1 then D j else if k=j then D (j - 1) else D k:=fun k=>rfl;refine ⟨fun a b h1 h2 h3 h4=>?_,fun b h1 h2=>?_⟩
  · rw [key,key,if_neg h3,if_neg h4]
    by_cases e1:a=j
    · rw [if_pos e1,if_neg (by omega)];exact h.1 (j - 1) b (by omega) h2 (by omega) (by omega)
    · rw [if_neg e1]
      by_cases e2:b=j
      · rw [if_pos e2];exact h.1 a (j - 1) (by omega) (by omega) e1 (by omega)
      · rw [if_neg e2];exact h.1 a b h1 h2 e1 e2
  · rw [key,key,if_pos rfl,if_neg (by omega)]
    by_cases e2:b=j
    · rw [if_pos e2];omega
    · rw [if_neg e2];exact h.2 b (by omega) h2
end Go.Sw
namespace Go.Sw
open Go Go.RowKit
def factsA (l:List Fact) (s:Nat):Facts (Own×Value):=fun i g u w=>match Nat.beq i s with
  | true=>u=g.2
  | false=>factsOf l i g.1 u w
def ParA (X:List Nat) (w0:World) (D:Froz) (W:List Nat) (L0:Own) (kr N:Nat) (e0:Option (Nat×Array Value)) (f:Nat→Value) (b:Bool) (g:Own×Value) (w:World):Prop:=
  Par X w0 D (kr::W) L0 g.1 w∧(b=false→g.1[kr]? = some e0)∧(b=true→∃ e',g.1[kr]? = some e'∧Sl 1 g.2 e' N f)
section
variable {P : Program} {X : List Nat} {w0 w : World} {D : Froz} {W : List Nat} {L0 : Own} {kr N s i : Nat} {e0 : Option (Nat × Array Value)} {f : Nat → Value} {b : Bool} {g : Own × Value} {l : List Fact} {o : Oper} {a : Act}
theorem ParA.drew (h:ParA X w0 D W L0 kr N e0 f b g w):ParA X w0 D W L0 kr N e0 f b g w.drew:=⟨⟨h.1.1.ext (Below.drew (Below.refl _ _)),h.1.2⟩,h.2⟩
theorem ParA.mem (h:ParA X w0 D W L0 kr N e0 f b g w)(hW:holes (kr::W) L0=true):MemX X w0 w L0 D:=Par.mem h.1 hW
def noPlace (k:Nat):List Fact→Bool
  | []=>true
  | fq::r=>(match fq.place with | some q=>!(Nat.beq q k) | none=>true) && noPlace k r
def noRel:List Fact→Bool
  | []=>true
  | .rel _::_=>false
  | .val _::r=>noRel r
  | .own _ _ _::r=>noRel r
end
end Go.Sw
namespace Go.Sw
open Go Go.RowKit
def mri (Z k t:Nat) (xs:Nat→Value):Array Value:=fnC Z (fun c=>if c<t then .int .i64 (((k+c:Nat)):Int) else xs c)
section
variable {Z k t : Nat} {xs : Nat → Value}
theorem mri_size:(mri Z k t xs).size=Z:=fnC_size _ _
end
end Go.Sw
namespace Go.Sw
open Go Go.RowKit
structure SSR (D:Froz) (u:Value) (m:Nat) (Ln:Nat→Nat) (F:Nat→Nat→Int) (b cap:Nat) (cs:Array Value) (β κ:Nat→Nat) (C:Nat→Array Value):Prop where
  sl:SlAt 1 u (some (b,cs)) m b cap cs (fun i=>.slice (some ⟨β i,0,none⟩) (Ln i) (κ i))
  out:(b,cs)∈D
  rows:RowsC D m β C
  row:∀ i,i<m→SlAt 1 (.slice (some ⟨β i,0,none⟩) (Ln i) (κ i)) (some (β i,C i)) (Ln i) (β i) (κ i) (C i) (fun c=>.int .i64 (F i c))
  ne:∀ i,i<m→β i≠b
namespace SSR
variable {D D' : Froz} {u : Value} {m b cap : Nat} {Ln β κ : Nat → Nat} {F : Nat → Nat → Int} {cs : Array Value} {C : Nat → Array Value}
theorem more (h:SSR D u m Ln F b cap cs β κ C)(hs:∀ x,x∈D→x∈D'):SSR D' u m Ln F b cap cs β κ C:=⟨h.sl,hs _ h.out,h.rows.more hs,h.row,h.ne⟩
theorem cell (h:SSR D u m Ln F b cap cs β κ C)(i:Nat)(hi:i<m):cs[0+i*1]? = some (.slice (some ⟨β i,0,none⟩) (Ln i) (κ i)):=h.sl.get1 i hi
theorem num (h:SSR D u m Ln F b cap cs β κ C)(i:Nat)(hi:i<m)(c:Nat)(hc:c<Ln i):(C i)[0+c*1]? = some (.int .i64 (F i c)):=(h.row i hi).get1 c hc
theorem room (h:SSR D u m Ln F b cap cs β κ C)(i:Nat)(hi:i<m):Ln i≤(C i).size:=by
  have h1:=(h.row i hi).le;have h2:=(h.row i hi).sz
  omega
theorem congr {G:Nat→Nat→Int}(h:SSR D u m Ln F b cap cs β κ C)(e:∀ i,i<m→∀ c,c<Ln i→F i c=G i c):SSR D u m Ln G b cap cs β κ C:=
  ⟨h.sl,h.out,h.rows,fun i hi=>(h.row i hi).congr fun c hc=>by rw [e i hi c (by omega)],h.ne⟩
end SSR
def SSOutR (w w':World) (m:Nat) (Ln:Nat→Nat) (F:Nat→Nat→Int) (u:Value):Prop:=∃ (D:Froz) (b cap:Nat) (cs:Array Value) (β κ:Nat→Nat) (C:Nat→Array Value),(∀ x ds,(x,ds)∈D→w.heap.size≤x∧Blk w' x ds)∧SSR D u m Ln F b cap cs β κ C
theorem SSOutR.of {w w':World}{L:Own}{D:Froz}{m q:Nat}{Ln β κ:Nat→Nat}{C:Nat→Array Value}{F:Nat→Nat→Int}{u:Value}{b cap:Nat}{cs:Array Value}(hM:Mem w w' L D)(hR:RowsC D m β C)
    (hq:L[q]? = some (some (b,cs))) (hs:SlAt 1 u (some (b,cs)) m b cap cs (fun i=>.slice (some ⟨β i,0,none⟩) (Ln i) (κ i))) (hge:∀ i,i<m→w.heap.size≤β i)
    (hr:∀ i,i<m→SlAt 1 (.slice (some ⟨β i,0,none⟩) (Ln i) (κ i)) (some (β i,C i)) (Ln i) (β i) (κ i) (C i) (fun c=>.int .i64 (F i c))):SSOutR w w' m Ln F u:=by
  refine ⟨(b,cs)::(List.range m).map (fun i=>(β i,C i)),b,cap,cs,β,κ,C,fun x ds hx=>?_,hs,List.mem_cons_self ..,⟨fun i hi=>?_,hR.inj⟩,hr,fun i hi e=>(hM.froz _ _ (hR.mem i hi)).2 q b cs hq e.symm⟩
  · rcases List.mem_cons.1 hx with e | hx
    · simp only [Prod.mk.injEq] at e;obtain ⟨rfl,rfl⟩:=e;exact ⟨hM.ge q hq,hM.row q hq⟩
    · obtain ⟨i,hi,e⟩:=List.mem_map.1 hx
      simp only [Prod.mk.injEq] at e;obtain ⟨rfl,rfl⟩:=e;have hi:i<m:=by simpa using hi
      exact ⟨hge i hi,hM.fzm (hR.mem i hi)⟩
  · exact List.mem_cons_of_mem _ (List.mem_map.2 ⟨i,by simpa using hi,rfl⟩)
def xsf (C:Nat→Array Value) (i:Nat):Nat→Value:=fun c=>((C i)[c]?).getD undef
def mkR (C:Nat→Array Value) (Ln:Nat→Nat) (st:Nat→Nat) (i:Nat):Array Value:=mri (C i).size (st i) (Ln i) (xsf C i)
end Go.Sw
