import Derived.Test.YtklpefdaplchbaaEch6
import Derived.DeepKeys4
set_option linter.unusedVariables false
set_option linter.unusedSimpArgs false
namespace Go.Sw
open Go Go.RowKit
variable {P : Program}
theorem run_appendFz {X:List Nat}{w0 w:World}{L:Own}{D:Froz}{T e:TypeId}{z:Value}{size bytes n k m b bx ox cx:Nat}{cs:Array Value}{f g:Nat→Value}(hT:slI P T=some (e,some z,size,bytes))(hz:z.cells.size=size)(hs0:0<size)
    (hM:MemX X w0 w L D) (hblk:Blk w b cs) (hget:∀ i,i<n*size→cs[i]? = some (f i)) (hg:∀ i,i<m*size→w.cell? ⟨bx,ox+i,none⟩=some (g i))
    (hm:0<m) (h63:n+m≤maxLen) (hb:(n+m)*bytes≤140737488355328) (ty:TypeId) :
    ∃ u w' b' cap' cs',(Builtin.append_ #[T,T] ty #[.slice (some ⟨b,0,none⟩) n n,.slice (some ⟨bx,ox,none⟩) m cx]).run P w = .ok u w'∧MemX X w0 w' (L.set k (some (b',cs'))) D∧SlAt size u (some (b',cs')) (n+m) b' cap' cs' (fun i=>if i<n*size then f i else g (i - n*size))∧Ext w w':=by
  unfold slI at hT
  cases hu:P.underlying T with
  | none=>simp [hu] at hT
  | some dd =>
    cases dd<;>simp [hu] at hT
    rename_i el
    obtain ⟨inf,hinf,rfl,hz0,hsz,hby⟩:=hT;subst hsz;subst hby
    have hm0:n+m≤9223372036854775807:=by simp only [maxLen] at h63;omega
    have hnl:(((List.range (m*inf.size)).map g)).length=m*inf.size:=by simp
    have hnews:∀ j u,((List.range (m*inf.size)).map g)[j]? = some u→w.cell? ((⟨bx,ox,none⟩:Addr).add j)=some u:=by
      intro j u hj;have hlt:j<m*inf.size:=by have:=(List.getElem?_eq_some_iff.1 hj).1;simpa using this
      rw [Addr.add_lit,hg j hlt]
      simp [hlt] at hj;rw [hj]
    have holds:∀ j u,((List.range (n*inf.size)).map f)[j]? = some u→w.cell? ((⟨b,0,none⟩:Addr).add j)=some u:=by
      intro j u hj;have hlt:j<n*inf.size:=by have:=(List.getElem?_eq_some_iff.1 hj).1;simpa using this
      rw [Addr.add_lit,Nat.zero_add,hblk.cell,hget j hlt]
      simp [hlt] at hj;rw [hj]
    have hr:=run_append_grow (P:=P) w T ty el inf z hu hinf hz0 ⟨b,0,none⟩ n n ((List.range (n*inf.size)).map f) (by simp) holds ⟨bx,ox,none⟩ m cx _ hnl hnews (by omega) (by omega) (growslice_fits (by omega) hb);refine ⟨_,_,_,_,_,hr,hM.fill (heap_drew_alloc _ _) k (Blk.new w.drew _ _) (Nat.le_refl _),⟨rfl,rfl,grownCap_ge w _ _ _,grownCap_le_maxLen w _ _ _ h63,?_,?_⟩,heap_drew_alloc _ _⟩
    · have:=grownCap_ge w (n+m) n el
      simp only [Array.size_append,List.size_toArray,hnl,size_zeroCells,hz,List.length_map,List.length_range,← Nat.add_mul]
      congr 1;omega
    · intro i hi
      have e1:(n+m)*inf.size=n*inf.size+m*inf.size:=Nat.add_mul ..;rw [Array.getElem?_append,if_pos (by simp only [Array.size_append,List.size_toArray,List.length_map,List.length_range];omega),Array.getElem?_append]
      by_cases hlt:i<n*inf.size
      · rw [if_pos (by simpa using hlt),if_pos hlt];simp [hlt]
      · rw [if_neg (by simpa using hlt),if_neg hlt]
        simp only [List.size_toArray,List.length_map,List.length_range];rw [List.getElem?_toArray,List.getElem?_map,List.getElem?_range (by omega)];rfl
section
variable {n : Nat} {F : List (Nat × Value)} {a : Act} {X : List Nat} {w w0 : World} {L : Own} {D : Froz}
variable {d : Option Tmp} {t : TypeId} {pos : String} {af : Array Edge} {gd : Option (Nat × Bool)} {T : TypeId} {x y : Operand}
theorem d_appendFz {e:TypeId}{z:Value}{size bytes N k m b bx ox cx:Nat}{cs:Array Value}{f g:Nat→Value}(hT:slI P T=some (e,some z,size,bytes))(hz:z.cells.size=size)(hs0:0<size)
    (hM:MemX X w0 w L D) (hF:Fr n a F) (hx:look F x=some (.slice (some ⟨b,0,none⟩) N N)) (hy:look F y=some (.slice (some ⟨bx,ox,none⟩) m cx)) (hblk:Blk w b cs) (hget:∀ i,i<N*size→cs[i]? = some (f i)) (hg:∀ i,i<m*size→w.cell? ⟨bx,ox+i,none⟩=some (g i))
    (hm:0<m) (h63:N+m≤maxLen) (hb:(N+m)*bytes≤140737488355328) :
    Does P ⟨d,.call { callee:=.builtin .append,args:=#[x,y],argTypes:=#[T,T] },t,pos,af,gd⟩ a w (fun u w'=>∃ b' cap' cs',SlAt size u (some (b',cs')) (N+m) b' cap' cs' (fun i=>if i<N*size then f i else g (i - N*size))∧MemX X w0 w' (L.set k (some (b',cs'))) D):=
  ⟨fun K Q hK=>by
    obtain ⟨u,w',b',cap',cs',hr,h2,h3,_⟩:=run_appendFz (P:=P) (T:=T) hT hz hs0 hM hblk hget hg hm h63 hb t
    unfold Oper.wp execOp
    simp only [resolve,invoke,builtin,Sem.run_bind,Sem.run_pure,Result.andThen_ok,List.map_toArray,List.map_cons,List.map_nil,hF.eval hx,hF.eval hy]
    rw [hr]
    exact hK u w' ⟨b',cap',cs',h3,h2⟩⟩
theorem g_sliceLo {e:TypeId}{b o len cap i s:Nat}{κ:IntKind}{X:Int}(hT:P.underlying T=some (.slice e))(he:sizeP P e=some s)(hF:Fr n a F)(hx:look F x=some (.slice (some ⟨b,o,none⟩) len cap))(hy:look F y=some (.int κ X))(hX:X=(i:Int))(hi:i≤len)(hl:len≤cap)(hc:i<cap) :
    Gives P ⟨d,.slice T x (some y) none none,t,pos,af,gd⟩ a w (.slice (some ⟨b,o+i*s,none⟩) (len - i) (cap - i)):=by
  subst hX;refine gives_of_run ?_;have h1:(0:Int)≤(i:Int)∧(i:Int)≤(len:Int):=by omega
  have h2:=run_sizeOf he w;have h4:¬ cap=i:=by omega
  have h5:¬ cap - i=0:=by omega
  simp [execOp,Instr.sliceAt,Instr.slice,run_underlying hT,hF.eval hx,hF.eval hy,Instr.sliceBounds,Instr.sliceBound,asIntOf,h1,h2,h4,h5,Addr.add_lit,hi]
end
structure RowsPD (D:Froz) (N m:Nat) (κ:Nat→Nat) (Xs:Nat→Nat→Value) (γ:Nat→Nat) (M:Nat→Nat→Nat):Prop where
  mem:∀ i,i<m→(γ i,rowP N (κ (γ i)) (M i) (Xs (γ i)))∈D
  inj:∀ i j,i<m→j<m→γ i=γ j→i=j
namespace RowsPD
variable {D D' : Froz} {N m : Nat} {κ : Nat → Nat} {Xs : Nat → Nat → Value} {γ : Nat → Nat} {M : Nat → Nat → Nat}
theorem none:RowsPD D N 0 κ Xs γ M:=⟨fun i hi=>absurd hi (by omega),fun i j hi=>absurd hi (by omega)⟩
theorem more (h:RowsPD D N m κ Xs γ M)(hs:∀ x∈D,x∈D'):RowsPD D' N m κ Xs γ M:=⟨fun i hi=>hs _ (h.mem i hi),h.inj⟩
theorem congr {M':Nat→Nat→Nat}(h:RowsPD D N m κ Xs γ M)(e:∀ i,i<m→∀ c,c<N→M i c=M' i c):RowsPD D N m κ Xs γ M':=
  ⟨fun i hi=>by rw [← rowP_congr (e i hi)];exact h.mem i hi,h.inj⟩
theorem snoc (h:RowsPD D N m κ Xs γ M){b cap:Nat}{r:Nat→Nat}{x:Nat→Value}{cs:Array Value}(hc:cs=rowP N cap r x)(hm:(b,cs)∈D)(hn:∀ i,i<m→b≠γ i):RowsPD D N (m+1) (fun y=>if y=b then cap else κ y) (fun y=>if y=b then x else Xs y) (up γ m b) (Go.Ech.upE M m r):=by
  refine ⟨fun i hi=>?_,fun i j hi hj e=>?_⟩
  · by_cases e:i=m
    · subst e;simp only [up_eq,Go.Ech.upE,if_true];rw [← hc];exact hm
    · have hne:¬ γ i=b:=fun h2=>hn i (by omega) h2.symm
      simp only [up_ne e,Go.Ech.upE,if_neg e,if_neg hne];exact h.mem i (by omega)
  · unfold up at e
    by_cases e1:i=m<;>by_cases e2:j=m
    · omega
    · rw [if_pos e1,if_neg e2] at e;exact absurd e (hn j (by omega))
    · rw [if_neg e1,if_pos e2] at e;exact absurd e.symm (hn i (by omega))
    · rw [if_neg e1,if_neg e2] at e;exact h.inj i j (by omega) (by omega) e
end RowsPD
theorem MemX.addD' {X:List Nat}{w0 w:World}{L:Own}{D D':Froz}(h:MemX X w0 w L D)(hD:∀ b cs,(b,cs)∈D'→Blk w b cs∧∀ (k:Nat) c ds,L[k]? = some (some (c,ds))→c≠b):MemX X w0 w L (D'++D):=
  ⟨h.bel,h.blk,h.apart,fun b cs hm=>by
    rcases List.mem_append.1 hm with hm | hm
    · exact hD b cs hm
    · exact h.froz b cs hm⟩
theorem MemX.addBoL {X:List Nat}{w0 w w':World}{L:Own}{D:Froz}{N m:Nat}{M:Nat→Nat→Nat}{u:Value}(k:Nat)(h:MemX X w0 w L D)(hx:Ext w w')(hf:BytesOut w w' N m M u) :
    ∃ (D':Froz) (β:Nat→Nat) (b:Nat) (cs:Array Value),RowsB D' N m β M∧u = .slice (some ⟨b,0,none⟩) m m∧cs.size=m∧(∀ i,i<m→cs[0+i*1]? = some (.slice (some ⟨β i,0,none⟩) N N))∧MemX X w0 w' (L.set k (some (b,cs))) (D'++D):=by
  obtain ⟨D1,β,b,cs,h1,h2,h3,h4,h5,h6,h7⟩:=hf;refine ⟨(List.range m).map (fun i=>(β i,fnC N (fun c=>.int .u8 (M i c:Int)))),β,b,cs,⟨fun i hi=>List.mem_map.2 ⟨i,by simpa using hi,rfl⟩,h2.inj⟩,h3,h4,h5,?_⟩;have hb:=h1 _ _ h6;refine (h.fill hx k hb.2 hb.1).addD' fun c ds hm=>?_;obtain ⟨i,hi,e⟩:=List.mem_map.1 hm;simp only [Prod.mk.injEq] at e;obtain ⟨rfl,rfl⟩:=e;have hi:i<m:=by simpa using hi
  have hr:=h1 _ _ (h2.mem i hi);refine ⟨hr.2,fun j c ds hj=>?_⟩;rw [List.getElem?_set] at hj
  split at hj
  · split at hj
    · simp only [Option.some.injEq,Prod.mk.injEq] at hj;obtain ⟨rfl,rfl⟩:=hj;exact fun e=>h7 i hi e.symm
    · cases hj
  · have:=(h.blk j c ds hj).2.lt
    have:=hr.1
    omega
theorem MemX.reduced {X:List Nat}{w0 w w':World}{L:Own}{D:Froz}{N m k b0:Nat}{κ:Nat→Nat}{Xs:Nat→Nat→Value}{γ γ':Nat→Nat}{M:Nat→Nat→Nat}{cs cs':Array Value}{R:Nat→Array Value}(h:MemX X w0 w L D)(hk:L[k]? = some (some (b0,cs)))(hP:RowsPD D N m κ Xs γ M)(hb:w0.heap.size≤b0)(hge:∀ i,i<m→w0.heap.size≤γ i)
    (hx:ExtX (rowsX b0 m γ) w w') (hfr:∀ i,i<m→w.heap.size≤γ' i∨γ' i∈rowsX b0 m γ) (hb0:Blk w' b0 cs') (hbr:∀ i,i<m→Blk w' (γ' i) (R i)):MemX X w0 w' (L.set k none) ((b0,cs')::(List.range m).map (fun i=>(γ' i,R i))):=by
  have key:∀ (j:Nat) c ds,(L.set k none)[j]? = some (some (c,ds))→j≠k∧L[j]? = some (some (c,ds)):=by
    intro j c ds hj;rw [List.getElem?_set] at hj
    split at hj
    · split at hj
      · simp at hj
      · cases hj
    · rename_i e;exact ⟨fun e2=>e e2.symm,hj⟩
  have hnb:∀ (j:Nat) c ds,(L.set k none)[j]? = some (some (c,ds))→c≠b0:=fun j c ds hj e=>by
    subst e;exact (key j _ ds hj).1 (h.apart j k _ _ _ (key j _ ds hj).2 hk)
  have hnY:∀ (j:Nat) c ds,(L.set k none)[j]? = some (some (c,ds))→c ∉ rowsX b0 m γ:=fun j c ds hj hm=>by
    rcases List.mem_cons.1 hm with e | hm
    · exact hnb j c ds hj e
    · obtain ⟨i,hi,e⟩:=List.mem_map.1 hm
      exact (h.froz _ _ (hP.mem i (by simpa using hi))).2 j c ds (key j c ds hj).2 e.symm
  have h2:MemX X w0 w' (L.set k none) []:=((h.drop k).sub [] (fun _ hx=>by cases hx)).extY hx fun y hy=>⟨by
    rcases List.mem_cons.1 hy with e | hm
    · rw [e];exact hb
    · obtain ⟨i,hi,rfl⟩:=List.mem_map.1 hm
      exact hge i (by simpa using hi),fun j c ds hj e=>hnY j c ds hj (e ▸ hy),fun _ _ hm=>by cases hm⟩
  have h3:=h2.addD' (D':=(b0,cs')::(List.range m).map (fun i=>(γ' i,R i))) fun c ds hm=>by
    rcases List.mem_cons.1 hm with e | hm
    · simp only [Prod.mk.injEq] at e;obtain ⟨rfl,rfl⟩:=e;exact ⟨hb0,hnb⟩
    · obtain ⟨i,hi,e⟩:=List.mem_map.1 hm
      simp only [Prod.mk.injEq] at e;obtain ⟨rfl,rfl⟩:=e;have hi:i<m:=by simpa using hi
      refine ⟨hbr i hi,fun j c ds hj e=>?_⟩
      rcases hfr i hi with h4 | h4
      · have:=(h.blk j c ds (key j c ds hj).2).2.lt;omega
      · exact hnY j c ds hj (e ▸ h4)
  rwa [List.append_nil] at h3
theorem mem_rowsD {m i:Nat}{x:Nat×Array Value}{γ:Nat→Nat}{R:Nat→Array Value}(hi:i<m):(γ i,R i)∈x::(List.range m).map (fun i=>(γ i,R i)):=
  List.mem_cons_of_mem _ (List.mem_map.2 ⟨i,by simpa using hi,rfl⟩)
theorem rowP_vec {K:Nat}{f:Nat→Nat}{x:Nat→Value}(hK:12≤K):(rowP 12 K f x).extract (0+6*1) (0+6*1+6)=vecC (fun q=>f (6+q)):=
  extract_ext rfl (by rw [rowP_size];omega) fun q hq=>rowP_get _ (by omega) (by omega) hK
theorem aug_row {F:Nat→Nat→Nat}{i c:Nat}(hc:c<12):(if c<6*1 then Value.int .u8 (F i c:Int) else .int .u8 (((if c - 6*1=i then 1 else 0:Nat)):Int)) = .int .u8 (Go.Ech.augI F i c:Int):=by
  unfold Go.Ech.augI
  by_cases e:c<6
  · rw [if_pos (by omega),if_pos e]
  · rw [if_neg (by omega),if_neg e]
    by_cases e2:c=6+i
    · rw [if_pos (by omega),if_pos e2]
    · rw [if_neg (by omega),if_neg e2]
end Go.Sw
namespace Go.Ech
open Go.Sw
def colM (n:Nat) (F:Nat→Nat→Nat) (j i c:Nat):Nat:=if c<n then F i c else if i=j then 1 else 0
end Go.Ech
namespace Go.Sw
open Go Go.RowKit Go.Ech
def TabOut (w w':World) (N k:Nat) (f:Nat→Nat→Value) (u:Value):Prop:=∃ (D:Froz) (β κ:Nat→Nat) (C:Nat→Array Value) (b cap:Nat) (cs:Array Value),
  (∀ x ds,(x,ds)∈D→w.heap.size≤x∧Blk w' x ds)∧RowsD D N k β κ C f∧SlAt 1 u (some (b,cs)) k b cap cs (fun i=>.slice (some ⟨β i,0,none⟩) N (κ i))∧(b,cs)∈D∧(∀ i j,i<k→j<k→β i=β j→i=j)∧∀ i,i<k→β i≠b
def offD (D:Froz) (b:Nat):Froz:=D.filter (fun x=>decide (x.1≠b))
structure RowsC (D:Froz) (m:Nat) (β:Nat→Nat) (R:Nat→Array Value):Prop where
  mem:∀ i,i<m→(β i,R i)∈D
  inj:∀ i j,i<m→j<m→β i=β j→i=j
namespace RowsC
variable {D D' : Froz} {m : Nat} {β : Nat → Nat} {R : Nat → Array Value}
theorem none:RowsC D 0 β R:=⟨fun i hi=>absurd hi (by omega),fun i j hi=>absurd hi (by omega)⟩
theorem more (h:RowsC D m β R)(hs:∀ x∈D,x∈D'):RowsC D' m β R:=⟨fun i hi=>hs _ (h.mem i hi),h.inj⟩
theorem snoc (h:RowsC D m β R){b:Nat}{cs:Array Value}(hm:(b,cs)∈D)(hn:∀ i,i<m→b≠β i):RowsC D (m+1) (up β m b) (upE R m cs):=by
  refine ⟨fun i hi=>?_,fun i j hi hj e=>?_⟩
  · by_cases e:i=m
    · subst e;simp only [up_eq,upE,if_true];exact hm
    · simp only [up_ne e,upE,if_neg e];exact h.mem i (by omega)
  · unfold up at e
    by_cases e1:i=m<;>by_cases e2:j=m
    · omega
    · rw [if_pos e1,if_neg e2] at e;exact absurd e (hn j (by omega))
    · rw [if_neg e1,if_pos e2] at e;exact absurd e.symm (hn i (by omega))
    · rw [if_neg e1,if_neg e2] at e;exact h.inj i j (by omega) (by omega) e
end RowsC
def rowI (n:Nat) (f:Nat→Nat):Array Value:=fnC n (fun c=>.int .i64 (f c:Int))
theorem SlAt.vec0 {u:Value}{e:Option (Nat×Array Value)}{N b cap:Nat}{cs:Array Value}{V:Nat→Nat→Nat}(h:SlAt 6 u e N b cap cs (fun c=>.int .u8 (V (c / 6) (c%6):Int)))(i:Nat)(hi:i<N):cs.extract (0+i*6) (0+i*6+6)=vecC (V i):=by
  rw [Nat.zero_add];exact h.vec i hi
theorem SlAt.room {u:Value}{e:Option (Nat×Array Value)}{N b cap:Nat}{cs:Array Value}{f:Nat→Value}(h:SlAt 6 u e N b cap cs f)(i:Nat)(hi:i<N):0+i*6+6≤cs.size:=by
  have:=h.sz;have:=h.le;omega
end Go.Sw
namespace Go.Sw
open Go Go.RowKit
def mrk (Z k t:Nat) (xs:Nat→Value):Array Value:=fnC Z (fun c=>if c<t then .int .u8 (((k+c:Nat)):Int) else xs c)
section
variable {Z k t : Nat} {xs : Nat → Value}
theorem mrk_size:(mrk Z k t xs).size=Z:=fnC_size _ _
end
end Go.Sw
namespace Go.Sw
open Go Go.RowKit Go.Ech
section
variable {X : List Nat} {w0 w w' : World} {L : Own} {D : Froz}
def TabI (w w':World) (n:Nat) (M:Nat→Nat→Nat) (u:Value):Prop:=∃ (D:Froz) (β:Nat→Nat) (b:Nat) (cs:Array Value),
  (∀ x ds,(x,ds)∈D→w.heap.size≤x∧Blk w' x ds)∧RowsC D n β (fun i=>rowI n (M i))∧u = .slice (some ⟨b,0,Option.none⟩) n n∧(∀ i,i<n→cs[0+i*1]? = some (.slice (some ⟨β i,0,Option.none⟩) n n))∧(b,cs)∈D∧∀ i,i<n→β i≠b
end
def FreshV (w0:World) (L:Own) (N:Nat) (f:Nat→Value) (u:Value) (w':World):Prop:=∃ b cap cs,SlAt 6 u (some (b,cs)) N b cap cs f∧Blk w' b cs∧w0.heap.size≤b∧∀ (k:Nat) c ds,L[k]? = some (some (c,ds))→c≠b
theorem FreshV.last {w0 w w':World}{L:Own}{N:Nat}{f:Nat→Value}{u:Value}(h:FreshV w0 L N f u w)(hx:Ext w w'):FreshV w0 L N f u w':=by
  obtain ⟨b,cap,cs,h1,h2,h3⟩:=h;exact ⟨b,cap,cs,h1,h2.ext hx,h3⟩
theorem OwnSl.freshV {X:List Nat}{w0 w w':World}{L:Own}{D:Froz}{N:Nat}{f:Nat→Value}{u:Value}(hM:MemX X w0 w L D)(h:OwnSl 6 w N f u w'):FreshV w0 L N f u w':=by
  obtain ⟨b,cap,cs,h1,h2,h3⟩:=h;refine ⟨b,cap,cs,h1,h3,Nat.le_trans hM.bel.size h2,fun k c ds hk e=>?_⟩;have:=(hM.blk k c ds hk).2.lt
  omega
theorem MemX.addV {X:List Nat}{w0 w:World}{L:Own}{D:Froz}{N:Nat}{f:Nat→Value}{u:Value}(h:MemX X w0 w L D)(hf:FreshV w0 L N f u w):∃ b cap cs,SlAt 6 u (some (b,cs)) N b cap cs f∧w0.heap.size≤b∧MemX X w0 w L ((b,cs)::D):=by
  obtain ⟨b,cap,cs,h1,h2,h3,h4⟩:=hf;refine ⟨b,cap,cs,h1,h3,h.bel,h.blk,h.apart,fun c ds hm=>?_⟩
  rcases List.mem_cons.1 hm with e | hm
  · simp only [Prod.mk.injEq] at e;obtain ⟨rfl,rfl⟩:=e;exact ⟨h2,h4⟩
  · exact h.froz c ds hm
end Go.Sw
namespace Go.Sw
open Go Go.RowKit Go.Ech
def EmpF (w0:World) (L:Own) (u:Value) (w':World):Prop:=∃ b,u = .slice (some ⟨b,0,none⟩) 0 0∧Blk w' b #[]∧w0.heap.size≤b∧∀ (k:Nat) c ds,L[k]? = some (some (c,ds))→c≠b
end Go.Sw
namespace Go.Sw
open Go Go.RowKit Go.Ech
def TabIF (w0:World) (L:Own) (D:Froz) (n:Nat) (M:Nat→Nat→Nat) (u:Value) (w':World):Prop:=∃ (D':Froz) (β:Nat→Nat) (b:Nat) (cs:Array Value),
  (∀ x ds,(x,ds)∈D'→w0.heap.size≤x∧Blk w' x ds∧∀ (k:Nat) c es,L[k]? = some (some (c,es))→c≠x)∧RowsC D' n β (fun i=>rowI n (M i))∧u = .slice (some ⟨b,0,Option.none⟩) n n∧(∀ i,i<n→cs[0+i*1]? = some (.slice (some ⟨β i,0,Option.none⟩) n n))∧(b,cs)∈D'∧(∀ i,i<n→β i≠b)∧∀ i,i<n→∀ x∈D,x.1≠β i
def TupR (R:Value→World→Prop) (u:Value) (w':World):Prop:=∃ l,u = .tuple #[l,.int .i64 0]∧R l w'
end Go.Sw
namespace Go.Sw
open Go Go.RowKit
variable {P : Program}
def byt (s:ByteArray) (i:Nat):Nat:=(s.data.getD i 0).toNat
theorem byt_lt {s:ByteArray}{i:Nat}:byt s i<256:=UInt8.toNat_lt _
section
variable {n : Nat} {F : List (Nat × Value)} {a : Act} {w : World} {d : Option Tmp} {t T T' : TypeId} {pos : String} {af : Array Edge} {gd : Option (Nat × Bool)} {x y z : Operand}
theorem g_lenS {s:ByteArray}{TT:TypeId}(hT:P.underlying TT=some .string)(hF:Fr n a F)(hx:look F x=some (.string s)):Gives P ⟨d,.call { callee:=.builtin .len,args:=#[x],argTypes:=#[TT] },t,pos,af,gd⟩ a w (.int .i64 (s.size:Int)):=
  gives_of_run (by simp [execOp,resolve,invoke,hF.eval hx,builtin,Builtin.len_,run_underlying hT,goInt])
theorem g_indexS {s:ByteArray}{i:Nat}{κ:IntKind}{X:Int}(hT:P.underlying T=some .string)(hF:Fr n a F)(hx:look F x=some (.string s))(hy:look F y=some (.int κ X))(hX:X=(i:Int))(hi:i<s.size) :
    Gives P ⟨d,.index T x y,t,pos,af,gd⟩ a w (.int .u8 (byt s i:Int)):=by
  subst hX;have h2:s[i]? = some s[i]:=getElem?_pos s i hi;have h3:(s[i]).toNat=byt s i:=by
    unfold byt
    have:s.data.getD i 0=s[i]:=by
      rw [Array.getD_eq_getD_getElem?,Array.getElem?_eq_getElem hi];rfl
    rw [this]
  exact gives_of_run (by simp [execOp,Instr.index,run_underlying hT,hF.eval hx,hF.eval hy,asIntOf,h2,h3])
end
end Go.Sw
namespace Go.Sw
open Go Go.RowKit
def leafs (P:Program):Nat→TypeId→List IntKind→Bool
  | 0,_,_=>false
  | d + 1, t, ks =>
    match P.underlying t with
    | some (.int q)=>decide (ks=[q])
    | some (.array n e)=>Nat.beq ks.length (P.cellsOf t) && (List.range n).all fun i=>leafs P d e ((ks.drop (i*P.cellsOf e)).take (P.cellsOf e))
    | some (.struct fs) => Nat.beq ks.length (P.cellsOf t) && fs.all (·.name != "_") && fs.toList.all fun f => leafs P d f.type ((ks.drop f.offset).take (P.cellsOf f.type))
    | _=>false
def Leafy (cs:List Value) (ks:List IntKind):Prop:=cs.length=ks.length∧∀ (i:Nat) (q:IntKind),ks[i]? = some q→∃ x,cs[i]? = some (Value.int q x)∧(Lit.int q x).wf=true
theorem Leafy.part {cs:List Value}{ks:List IntKind}(h:Leafy cs ks)(o l:Nat):Leafy ((cs.drop o).take l) ((ks.drop o).take l):=
  ⟨by simp [h.1],fun i q hi=>by
    rw [List.getElem?_take] at hi ⊢
    split at hi
    · rename_i hl
      rw [if_pos hl,List.getElem?_drop]
      rw [List.getElem?_drop] at hi
      exact h.2 _ q hi
    · cases hi⟩
theorem mapM_some {α β:Type}{f:α→Option β}:∀ {l:List α},(∀ x∈l,∃ y,f x=some y)→∃ ys,l.mapM f=some ys
  | [],_=>⟨[],rfl⟩
  | x :: r, h => by
    obtain ⟨y,hy⟩:=h x (by simp)
    obtain ⟨ys,hys⟩:=mapM_some (l:=r) fun z hz=>h z (by simp [hz])
    exact ⟨y::ys,by simp [List.mapM_cons,hy,hys]⟩
theorem leafs_lits {P:Program}:∀ (d:Nat) (t:TypeId) (ks:List IntKind) (cs:List Value),leafs P d t ks=true→Leafy cs ks→∃ l,P.keyLits d t cs=some l
  | 0,_,_,_,h,_=>by simp [leafs] at h
  | d + 1, t, ks, cs, h, hl => by
    unfold leafs at h
    unfold Program.keyLits
    cases hu:P.underlying t with
    | none=>simp [hu] at h
    | some dd =>
      cases dd
      case int q=>
        simp only [hu,decide_eq_true_eq] at h
        subst h
        obtain ⟨x,hx,hw⟩:=hl.2 0 q rfl
        have h1:=hl.1
        match cs,h1,hx with
        | [c], _, hx =>
          simp at hx;subst hx
          exact ⟨[.int q x],by simp [hw]⟩
      case array n e=>
        simp only [hu,Bool.and_eq_true,List.all_eq_true,List.mem_range] at h
        have h1:=Nat.eq_of_beq_eq_true h.1
        obtain ⟨ys,hys⟩:=mapM_some (l:=List.range n) (f:=fun i=>P.keyLits d e ((cs.drop (i*P.cellsOf e)).take (P.cellsOf e))) fun i hi=>
          leafs_lits d e _ _ (h.2 i (by simpa using hi)) (hl.part _ _)
        refine ⟨ys.flatten,?_⟩
        simp only
        rw [if_pos (hl.1.trans h1),hys];rfl
      case struct fs=>
        simp only [hu,Bool.and_eq_true,List.all_eq_true] at h
        have h1:=Nat.eq_of_beq_eq_true h.1.1
        obtain ⟨ys,hys⟩:=mapM_some (l:=fs.toList) (f:=fun f=>P.keyLits d f.type ((cs.drop f.offset).take (P.cellsOf f.type))) fun f hf=>
          leafs_lits d f.type _ _ (h.2 f hf) (hl.part _ _)
        refine ⟨ys.flatten,?_⟩
        simp only
        rw [if_pos ⟨hl.1.trans h1,h.1.2⟩,hys];rfl
      all_goals simp [hu] at h
def wideB (P:Program) (k:TypeId):Bool:=match P.underlying k with | some (.array _ _) | some (.struct _)=>true | _=>false
theorem keyOf_leafs {P:Program}{k:TypeId}{ks:List IntKind}{cs:Array Value}(hw:wideB P k=true)(hk:P.keyType k=true)(hl:leafs P (P.types.size+1) k ks=true)(hc:P.cellsOf k=ks.length)(h:Leafy cs.toList ks):∃ l,keyOf P k (.agg cs)=some l:=by
  obtain ⟨ls,hls⟩:=leafs_lits _ k ks cs.toList hl h;have hz:cs.size=P.cellsOf k:=by rw [hc,← h.1];simp
  unfold wideB at hw
  unfold keyOf
  cases hu:P.underlying k with
  | none=>simp [hu] at hw
  | some dd =>
    cases dd<;>simp [hu] at hw<;>exact ⟨_,by simp [hk,Value.formed,hu,hz,Value.cells,hls];rfl⟩
def IsMap (w:World) (b:Nat) (es:Array MapEntry) (c:Nat):Prop:=w.heap[b]? = some (.map es c)
theorem IsMap.ext {w w':World}{b:Nat}{es:Array MapEntry}{c:Nat}(h:IsMap w b es c)(hx:Ext w w'):IsMap w' b es c:=by
  have hlt:b<w.heap.size:=(Array.getElem?_eq_some_iff.1 h).1
  unfold IsMap
  rw [hx.block b hlt];exact h
theorem MemX.setMap {X:List Nat}{w0 w:World}{L:Own}{D:Froz}(h:MemX X w0 w L D){b:Nat}{es:Array MapEntry}{c:Nat}(hb:IsMap w b es c)(hge:w0.heap.size≤b)(o:Obj):MemX X w0 { w with heap:=w.heap.setIfInBounds b o } L D:=by
  have hne:∀ {q:Nat} {cs:Array Value},Blk w q cs→q≠b:=fun hq e=>by
    obtain ⟨t,ht⟩:=hq
    unfold IsMap at hb
    rw [e,hb] at ht;cases ht
  have hbl:∀ {q:Nat} {cs:Array Value},Blk w q cs→Blk { w with heap:=w.heap.setIfInBounds b o } q cs:=fun hq=>by
    have h1:=hne hq;obtain ⟨t,ht⟩:=hq;exact ⟨t,by show (w.heap.setIfInBounds b o)[_]? = _;rw [Array.getElem?_setIfInBounds_ne (Ne.symm h1)];exact ht⟩
  refine ⟨⟨h.bel.os,h.bel.tape,h.bel.output,by show _≤(w.heap.setIfInBounds b o).size;rw [Array.size_setIfInBounds];exact h.bel.size,fun k hk hX=>?_⟩,fun k q cs hq=>⟨(h.blk k q cs hq).1,hbl (h.blk k q cs hq).2⟩,h.apart,fun q cs hq=>⟨hbl (h.froz q cs hq).1,(h.froz q cs hq).2⟩⟩
  show (w.heap.setIfInBounds b o)[k]? = _
  rw [Array.getElem?_setIfInBounds_ne (by omega)];exact h.bel.block k hk hX
section
variable {P : Program} {n : Nat} {F : List (Nat × Value)} {a : Act} {w w0 : World} {d : Option Tmp} {t T kt et : TypeId} {pos : String} {af : Array Edge} {gd : Option (Nat × Bool)} {x y z : Operand} {X : List Nat} {L : Own} {D : Froz}
theorem d_makeMap (hM:MemX X w0 w L D):Does P ⟨d,.makeMap T none,t,pos,af,gd⟩ a w (fun u w'=>∃ b,u = .map (some b)∧MemX X w0 w' L D∧w0.heap.size≤b∧IsMap w' b #[] 0):=
  ⟨fun K Q hk=>by
    have h:=hk (.map (some w.heap.size)) (w.alloc (.map #[] 0)) ⟨_,rfl,hM.ext (Ext.alloc _ _),hM.bel.size,by unfold IsMap;show (w.heap.push _)[w.heap.size]? = _;simp⟩
    unfold Oper.wp execOp
    simp [Instr.makeMap]
    exact h⟩
theorem d_insert {b:Nat}{k v:Value}{l:Lit}(K:WideMaps.KeyLaw P kt)(hT:P.underlying T=some (.map kt et))(hM:MemX X w0 w L D)(hb:IsMap w b #[] 0)(hge:w0.heap.size≤b)(hF:Fr n a F)(hx:look F x=some (.map (some b)))(hy:look F y=some k)(hz:look F z=some v)(hk:keyOf P kt k=some l) :
    Does P ⟨d,.insert T x y z,t,pos,af,gd⟩ a w (fun _ w'=>MemX X w0 w' L D∧IsMap w' b #[{ key:=k,val:=v,born:=0 }] 1):=
  ⟨fun Kk Q hkk=>by
    have hlt:b<w.heap.size:=(Array.getElem?_eq_some_iff.1 hb).1
    have hf:(Instr.findKey kt k []).run P w = .ok none w:=by
      rcases K.find w hk [] (by simp) with h | ⟨j,e,_,h2,_⟩
      · exact h.1
      · simp at h2
    have hr:(Instr.mapUpdate T (.map (some b)) k v).run P w = .ok () { w with heap:=w.heap.setIfInBounds b (.map #[{ key:=k,val:=v,born:=0 }] 1) }:=by
      simp [Instr.mapUpdate,run_underlying hT,MapKept.run_getObj_map hb,K.check w false hk,hf,MapKept.run_setObj_map _ hb,Result.andThen]
    have h:=hkk undef _ ⟨hM.setMap hb hge (.map #[{ key:=k,val:=v,born:=0 }] 1),by unfold IsMap;show (w.heap.setIfInBounds b _)[b]? = _;simp [hlt]⟩
    unfold Oper.wp execOp
    simp [hF.eval hx,hF.eval hy,hF.eval hz,hr,Result.andThen]
    exact h⟩
theorem g_lookup1 {b c:Nat}{k k0:Value}{l l0:Lit}{v z0:Value}{p:Prop}[Decidable p](K:WideMaps.KeyLaw P kt)(hT:P.underlying T=some (.map kt et))(hz:zeroP P et=some z0)(hb:IsMap w b #[{ key:=k0,val:=v,born:=c }] 1)(hF:Fr n a F)(hx:look F x=some (.map (some b)))(hy:look F y=some k)(hk:keyOf P kt k=some l)(hk0:keyOf P kt k0=some l0)(hp:k0=k↔p) :
    Gives P ⟨d,.lookup T x y false,t,pos,af,gd⟩ a w (if p then v else z0):=by
  have hzr:(zeroValue et).run P w = .ok z0 w:=by
    unfold zeroP at hz
    cases hi:P.info? et with
    | none=>simp [hi] at hz
    | some i=>simp [hi] at hz;simp [zeroValue,typeInfo,hi,hz]
  rcases K.find w hk [{ key:=k0,val:=v,born:=c }] (by intro e he;simp at he;subst he;exact ⟨l0,hk0⟩) with ⟨h1,h2⟩ | ⟨j,e,h1,h2,h3⟩
  · have hne:¬ p:=fun hh=>h2 { key:=k0,val:=v,born:=c } (by simp) (hp.2 hh)
    rw [if_neg hne];exact gives_of_run (by simp [execOp,Instr.lookup,run_underlying hT,hF.eval hx,hF.eval hy,MapKept.run_getObj_map hb,K.check w _ hk,h1,hzr,Result.andThen])
  · have he:e={ key:=k0,val:=v,born:=c }:=by
      have:=List.mem_of_getElem? h2;simpa using this
    subst he;rw [if_pos (hp.1 h3)];exact gives_of_run (by simp [execOp,Instr.lookup,run_underlying hT,hF.eval hx,hF.eval hy,MapKept.run_getObj_map hb,K.check w _ hk,h1,Result.andThen])
end
end Go.Sw
