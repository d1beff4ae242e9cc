import Derived.Test.YtgioobkkkicfeaaSw16
import Derived.Laws.MakeOwn
set_option linter.unusedVariables false
set_option linter.unusedSimpArgs false
namespace Go.Ech
def upE {α:Type} (f:Nat->α) (m:Nat) (x:α) (i:Nat):α:=if i=m then x else f i
def sw {α:Type} (a b:Nat) (f:Nat->α) (i:Nat):α:=if i=a then f b else if i=b then f a else f i
structure Red (p N m:Nat) (M:Nat->Nat->Nat) (d:Nat) (ld:Nat->Nat):Prop where
  lt:∀ i,i<d->ld i<N
  mono:∀ i j,i<j->j<d->ld i<ld j
  one:∀ i,i<d->M i (ld i)=1
  left:∀ i,i<d->∀ c,c<ld i->M i c=0
  zero:∀ i j,i<d->j<m->i≠j->M j (ld i)=0
  low:∀ i,i<d->∀ j,d<=j->j<m->∀ c,c<=ld i->M j c=0
theorem Red.start {p N m:Nat}{M:Nat->Nat->Nat}{ld:Nat->Nat}:Red p N m M 0 ld:=
  ⟨fun i hi=>absurd hi (by omega),fun i j _ hi=>absurd hi (by omega),fun i hi=>absurd hi (by omega),fun i hi=>absurd hi (by omega),fun i j hi=>absurd hi (by omega),fun i hi=>absurd hi (by omega)⟩
theorem Red.swap {p N m d a b:Nat}{M:Nat->Nat->Nat}{ld:Nat->Nat}(h:Red p N m M d ld)(ha:d<=a)(hb:d<=b)(ha2:a<m)(hb2:b<m)(hdm:d<=m):Red p N m (sw a b M) d ld:=by
  have e:∀ i,i<d->sw a b M i=M i:=fun i hi=>by unfold sw;rw [if_neg (by omega),if_neg (by omega)]
  refine ⟨h.lt,h.mono,fun i hi=>by rw [e i hi];exact h.one i hi,fun i hi c hc=>by rw [e i hi];exact h.left i hi c hc,fun i j hi hj hH=>?_,fun i hi j hj hjm c hc=>?_⟩
  . unfold sw;split
    . exact h.zero i b hi hb2 (by omega)
    . split
      . exact h.zero i a hi ha2 (by omega)
      . exact h.zero i j hi hj hH
  . unfold sw;split
    . exact h.low i hi b hb hb2 c hc
    . split
      . exact h.low i hi a ha ha2 c hc
      . exact h.low i hi j hj hjm c hc
theorem Ol {p N m a b:Nat}{M:Nat->Nat->Nat}{x:Nat->Int}(ha:a<m)(hb:b<m):Ker p N (sw a b M) m x↔Ker p N M m x:=by
  have half:∀ {M:Nat->Nat->Nat},Ker p N M m x->Ker p N (sw a b M) m x:=by
    intro M h i hi
    unfold sw;split
    . exact h b hb
    . split
      . exact h a ha
      . exact h i hi
  refine ⟨fun h=>?_,half⟩;have h2:=half h;have:sw a b (sw a b M)=M:=by
    funext i
    unfold sw
    by_cases e1:i=a
    . subst e1;simp;intro e;rw [e]
    . by_cases e2:i=b
      . subst e2;simp [e1]
      . simp [e1,e2]
  rwa [this] at h2
def EH (p:Nat) (M:Nat->Nat->Nat) (d t:Nat) (sc:Nat->Nat) (i:Nat):Nat->Nat:=if i=d then sc else lsM p (M i) sc (M i t)
theorem Red.step {p N m d t:Nat}{M:Nat->Nat->Nat}{ld sc:Nat->Nat}{v:Nat}(hp:0<p)(h:Red p N m M d ld)(hM1:∀ i c,M i c<p)(hd:d<m)(ht:t<N)(h0:M d t≠0)(hmin:∀ j,d<=j->j<m->∀ c,c<t->M j c=0)
    (hsc:∀ c,sc c=M d c*v%p) (h1:M d t*v%p=1):Red p N m (EH p M d t sc) (d+1) (upE ld d t):=by
  have hsc1:sc t=1:=by rw [hsc];exact h1
  have hsc0:∀ c,M d c=0->sc c=0:=fun c hc=>by rw [hsc,hc];simp
  have hlt:∀ i,i<d->ld i<t:=fun i hi=>by
    rcases Nat.lt_or_ge (ld i) t with hh | hh
    . exact hh
    . exact absurd (h.low i hi d (Nat.le_refl _) hd t hh) h0
  have keep:∀ i,i≠d->∀ c,sc c=0->EH p M d t sc i c=M i c:=fun i hi c hc=>by unfold EH;rw [if_neg hi];exact H7 (hM1 i c) hc
  have sct:∀ c,c<t->sc c=0:=fun c hc=>hsc0 c (hmin d (Nat.le_refl _) hd c hc);have piv:EH p M d t sc d=sc:=by unfold EH;simp
  have col:∀ i,i≠d->EH p M d t sc i t=0:=fun i hi=>by unfold EH;rw [if_neg hi];exact Jk hp hsc1
  refine ⟨fun i hi=>?_,fun i j hij hj=>?_,fun i hi=>?_,fun i hi c hc=>?_,fun i j hi hj hH=>?_,fun i hi j hj hjm c hc=>?_⟩
  . unfold upE;split
    . exact ht
    . exact h.lt i (by omega)
  . unfold upE
    rw [if_neg (show i≠d by omega)]
    split
    . exact hlt i (by omega)
    . exact h.mono i j hij (by omega)
  . unfold upE;split
    . rename_i e;rw [e,piv];exact hsc1
    . rename_i e;rw [keep i e _ (sct _ (hlt i (by omega)))];exact h.one i (by omega)
  . unfold upE at hc;split at hc
    . rename_i e;rw [e,piv];exact sct c hc
    . rename_i e
      have:=hlt i (by omega);rw [keep i e c (sct c (by omega))];exact h.left i (by omega) c hc
  . unfold upE;split
    . rename_i e;exact col j (by omega)
    . rename_i e
      by_cases ej:j=d
      . rw [ej,piv];exact sct _ (hlt i (by omega))
      . rw [keep j ej _ (sct _ (hlt i (by omega)))];exact h.zero i j (by omega) hj hH
  . unfold upE at hc;split at hc
    . rename_i e
      by_cases ec:c=t
      . rw [ec];exact col j (by omega)
      . rw [keep j (by omega) c (sct c (by omega))];exact hmin j (by omega) hjm c (by omega)
    . rename_i e
      have:=hlt i (by omega);rw [keep j (by omega) c (sct c (by omega))];exact h.low i (by omega) j (by omega) hjm c hc
theorem O7 {p N m d t:Nat}{M:Nat->Nat->Nat}{sc:Nat->Nat}{v:Nat}{x:Nat->Int}(hp:0<p)(hd:d<m)(hsc:∀ c,sc c=M d c*v%p)(h1:M d t*v%p=1):Ker p N (EH p M d t sc) m x↔Ker p N M m x:=by
  have hs:=JB (p:=p) (N:=N) (f:=M d) (g:=sc) (v:=v) (u:=M d t) (x:=x) (fun c _=>hsc c) h1
  constructor
  . intro h
    have hd':=h d hd
    unfold EH at hd';rw [if_pos rfl] at hd'
    intro i hi
    by_cases e:i=d
    . rw [e];exact hs.1 hd'
    . have:=h i hi
      unfold EH at this;rw [if_neg e] at this
      exact (GE hp hd').1 this
  . intro h i hi
    have hd':=hs.2 (h d hd)
    unfold EH;split
    . exact hd'
    . exact (GE hp hd').2 (h i hi)
theorem Red.done {p N m:Nat}{M:Nat->Nat->Nat}{d:Nat}{ld:Nat->Nat}(h:Red p N m M d ld)(hM1:∀ i c,M i c<p)(hdm:d<=m):Rref p N M d ld:=
  ⟨h.lt,h.mono,h.one,h.left,fun i j hi hj hH=>h.zero i j hi (by omega) hH,fun i _ c _=>hM1 i c⟩
theorem P1 {p N m d:Nat}{M:Nat->Nat->Nat}{x:Nat->Int}(hdm:d<=m)(hz:∀ j,d<=j->j<m->∀ c,c<N->M j c=0):Ker p N M d x↔Ker p N M m x:=by
  constructor
  . intro h i hi
    by_cases e:i<d
    . exact h i e
    . exact K6 (hz i (by omega) hi)
  . intro h i hi;exact h i (by omega)
end Go.Ech
namespace Go.Sw
open Go Go.RowKit
variable {P : Program}
def MB:List Oper->Nat->Nat->Bool
  | [],_,_=>true
  | o::r,s,i=>(Nat.beq i s || o.dst.isSome) && MB r s (i+1)
theorem BQ:∀ {l:List Oper} {s i:Nat},MB l s i=true->∀ (j:Nat) (o:Oper),l[j]? = some o->i+j≠s->o.dst≠none
  | [],_,_,_,j,o,h,_=>by simp at h
  | x :: r, s, i, hb, j, o, h, hH => by
    simp only [MB,Bool.and_eq_true,Bool.or_eq_true] at hb
    cases j with
    | zero =>
      simp at h;subst h
      rcases hb.1 with e | e
      . exact absurd (Nat.eq_of_beq_eq_true e) hH
      . intro hn;rw [hn] at e;cases e
    | succ j=>exact BQ hb.2 j o (by simpa using h) (by omega)
section
variable {n : Nat} {F : List (Nat × Value)} {a : Act} {w : World} {d : Option Tmp} {t : TypeId} {pos : String} {af : Array Edge} {gd : Option (Nat × Bool)} {T T' : TypeId} {x y : Operand} {k : IntKind} {A B C : Int}
theorem QS (O:Fr n a F)(hx:look F x=some (.int k A))(hC:k.wrap (-A)=C):BN P ⟨d,.unOp .neg T x,t,pos,af,gd⟩ a w (.int k C):=
  Ab (by
    have h0:(0:Int) - A = -A:=by omega
    simp [execOp,Op.unary,Op.intArith,O.eval hx,h0,hC])
theorem Gx {e:TypeId}{b o len cap i s:Nat}{κ:IntKind}{X:Int}(hT:P.underlying T=some (.slice e))(he:DJ P e=some s)(O:Fr n a F)(hx:look F x=some (.slice (some ⟨b,o,none⟩) len cap))(hy:look F y=some (.int κ X))(hX:X=(i:Int))(hi:i<=cap) :
    BN P ⟨d,.slice T x none (some y) none,t,pos,af,gd⟩ a w (.slice (some ⟨b,o,none⟩) i cap):=by
  subst hX;refine Ab ?_;have h1:(0:Int)<=(i:Int)/\(i:Int)<=(cap:Int):=by omega
  have h2:=run_sizeOf he w
  by_cases h3:cap=0
  . subst h3
    simp [execOp,Instr.sliceAt,Instr.slice,run_underlying hT,O.eval hx,O.eval hy,Instr.sliceBounds,Instr.sliceBound,asIntOf,h1,h2]
    intro h;omega
  . simp [execOp,Instr.sliceAt,Instr.slice,run_underlying hT,O.eval hx,O.eval hy,Instr.sliceBounds,Instr.sliceBound,asIntOf,h1,h2,h3,Addr.add_lit]
    intro h;omega
end
structure RowsL (L:Own) (N m:Nat) (γ pos:Nat->Nat) (M:Nat->Nat->Nat):Prop where
  at_:∀ i,i<m->L[pos i]? = some (some (γ i,BH N (fun c=>.int .u8 (M i c:Int))))
  inj:∀ i j,i<m->j<m->pos i=pos j->i=j
  ne0:∀ i,i<m->pos i≠0
namespace RowsL
variable {L : Own} {N m : Nat} {γ pos : Nat -> Nat} {M : Nat -> Nat -> Nat}
theorem set0 (h:RowsL L N m γ pos M)(x:Option (Nat×Array Value)):RowsL (L.set 0 x) N m γ pos M:=
  ⟨fun i hi=>by rw [List.getElem?_set,if_neg (fun e=>h.ne0 i hi e.symm)];exact h.at_ i hi,h.inj,h.ne0⟩
theorem setRow (h:RowsL L N m γ pos M){i:Nat}(hi:i<m)(r:Nat->Nat){cs:Array Value}(hc:cs=BH N (fun c=>.int .u8 (r c:Int))):RowsL (L.set (pos i) (some (γ i,cs))) N m γ pos (Go.Ech.upE M i r):=
  ⟨fun j hj=>by
    rw [List.getElem?_set]
    by_cases e:j=i
    . subst e
      have hl:=(List.getElem?_eq_some_iff.1 (h.at_ j hj)).1
      rw [if_pos rfl,if_pos hl,hc];simp only [Go.Ech.upE,if_true]
    . rw [if_neg (fun e2=>e (h.inj _ _ hj hi e2.symm))];simp only [Go.Ech.upE,if_neg e];exact h.at_ j hj,h.inj,h.ne0⟩
theorem swap (h:RowsL L N m γ pos M){a b:Nat}(ha:a<m)(hb:b<m):RowsL L N m (Go.Ech.sw a b γ) (Go.Ech.sw a b pos) (Go.Ech.sw a b M):=by
  refine ⟨fun i hi=>?_,fun i j hi hj e=>?_,fun i hi=>?_⟩
  . unfold Go.Ech.sw;split
    . exact h.at_ b hb
    . split
      . exact h.at_ a ha
      . exact h.at_ i hi
  . unfold Go.Ech.sw at e
    by_cases e1:i=a<;>by_cases e2:i=b<;>by_cases e3:j=a<;>by_cases e4:j=b<;>simp only [e1,e2,e3,e4,if_true,if_false] at e<;>first | omega | (have:=h.inj _ _ hb ha e;omega) | (have:=h.inj _ _ ha hb e;omega) | (split at e<;>first | (have:=h.inj _ _ hb (by omega) e;omega) | (have:=h.inj _ _ ha (by omega) e;omega) | (have:=h.inj _ _ (by omega) (by omega) e;omega)) | (have:=h.inj _ _ (by omega) (by omega) e;omega)
  . unfold Go.Ech.sw;split
    . exact h.ne0 b hb
    . split
      . exact h.ne0 a ha
      . exact h.ne0 i hi
end RowsL
theorem RowsL.congr {L:Own}{N m:Nat}{γ pos:Nat->Nat}{M M':Nat->Nat->Nat}(h:RowsL L N m γ pos M)(e:∀ i,i<m->M i=M' i):RowsL L N m γ pos M':=
  ⟨fun i hi=>by rw [← e i hi];exact h.at_ i hi,h.inj,h.ne0⟩
theorem RowsL.apart {X:List Nat}{w0 w:World}{L:Own}{D:Al}{N m:Nat}{γ pos:Nat->Nat}{M:Nat->Nat->Nat}(h:RowsL L N m γ pos M)(J:MemX X w0 w L D){i j:Nat}(hi:i<m)(hj:j<m)(hH:i≠j):γ i≠γ j:=fun e=>by
  have h1:=h.at_ i hi
  have h2:=h.at_ j hj
  rw [e] at h1
  exact hH (h.inj i j hi hj (J.apart _ _ _ _ _ h1 h2))
theorem Eu {b0 m:Nat}{cs0:Array Value}{g:Nat->Option (Nat×Array Value)}{k:Nat}{x:Option (Nat×Array Value)}(h:(some (b0,cs0)::(List.range m).map g:Own)[k]? = some x):(k=0/\x=some (b0,cs0))\/∃ i,i<m/\k=i+1/\x=g i:=by
  cases k with
  | zero=>simp at h;exact .inl ⟨rfl,h.symm⟩
  | succ k =>
    right
    rw [List.getElem?_cons_succ,List.getElem?_map] at h
    by_cases hk:k<m
    . rw [List.getElem?_range hk] at h;simp at h;exact ⟨k,hk,rfl,h.symm⟩
    . rw [List.getElem?_eq_none (by simp;omega)] at h;cases h
def BJ (b0 m:Nat) (γ:Nat->Nat):List Nat:=b0::(List.range m).map γ
def H5 (b0:Nat) (cs0:Array Value) (N m:Nat) (γ:Nat->Nat) (M:Nat->Nat->Nat):Own:=some (b0,cs0)::(List.range m).map (fun i=>some (γ i,BH N (fun c=>.int .u8 (M i c:Int))))
theorem MemX.startRows {w:World}{b0:Nat}{cs0:Array Value}{N m:Nat}{γ:Nat->Nat}{M:Nat->Nat->Nat}(h0:Blk w b0 cs0)(hr:∀ i,i<m->Blk w (γ i) (BH N (fun c=>.int .u8 (M i c:Int))))(hi:∀ i j,i<m->j<m->γ i=γ j->i=j)(hH:∀ i,i<m->γ i≠b0) :
    MemX (BJ b0 m γ) w w (H5 b0 cs0 N m γ M) []/\RowsL (H5 b0 cs0 N m γ M) N m γ (fun i=>i+1) M/\(H5 b0 cs0 N m γ M)[0]? = some (some (b0,cs0)):=by
  refine ⟨⟨ExtX.refl _ w,fun k b cs hk=>?_,fun k j b cs ds hk hj=>?_,fun b cs hm=>by cases hm⟩,⟨fun i hi=>?_,fun i j _ _ e=>by omega,fun i _=>by omega⟩,rfl⟩
  . rcases Eu hk with ⟨_,e⟩ | ⟨i,hi,_,e⟩
    . simp at e;obtain ⟨rfl,rfl⟩:=e;exact ⟨.inr (List.mem_cons_self ..),h0⟩
    . simp at e;obtain ⟨rfl,rfl⟩:=e;exact ⟨.inr (List.mem_cons_of_mem _ (List.mem_map.2 ⟨i,by simpa using hi,rfl⟩)),hr i hi⟩
  . rcases Eu hk with ⟨e1,e⟩ | ⟨i,hi',e1,e⟩<;>rcases Eu hj with ⟨e2,f⟩ | ⟨i2,hi2,e2,f⟩<;>simp at e f
    . omega
    . exact absurd (f.1.symm.trans e.1) (hH i2 hi2)
    . exact absurd (e.1.symm.trans f.1) (hH i hi')
    . have:=hi i i2 hi' hi2 (e.1.symm.trans f.1);omega
  . show (some (b0,cs0)::(List.range m).map _:Own)[i+1]? = _
    rw [List.getElem?_cons_succ,List.getElem?_map,List.getElem?_range hi];rfl
theorem MemX.swapD {X Y:List Nat}{w0 w w':World}{L:Own}{D D':Al}(h:MemX X w0 w L D)(hx:ExtX Y w w')(hY:∀ y∈Y,∃ cs,(y,cs)∈D)(hXY:∀ y∈Y,w0.heap.size<=y\/y∈X)(hD':∀ b cs,(b,cs)∈D'->Blk w' b cs/\(w.heap.size<=b\/b∈Y)):MemX X w0 w' L D':=by
  have other:∀ {c ds},Blk w c ds->c ∉ Y->Blk w' c ds:=fun {c ds} hc hH=>by
    obtain ⟨t,hc'⟩:=hc;exact ⟨t,(hx.block c (Blk.lt ⟨t,hc'⟩) hH).trans hc'⟩
  have ap:∀ (k:Nat) c ds,L[k]? = some (some (c,ds))->c ∉ Y:=fun k c ds hk hc=>by
    obtain ⟨cs,hm⟩:=hY c hc;exact (h.froz c cs hm).2 k c ds hk rfl
  refine ⟨⟨hx.os.trans h.bel.os,hx.tape.trans h.bel.tape,hx.output.trans h.bel.output,Nat.le_trans h.bel.size hx.size,fun i hi hix=>?_⟩,fun k c ds hk=>⟨(h.blk k c ds hk).1,other (h.blk k c ds hk).2 (ap k c ds hk)⟩,h.apart,fun c ds hm=>⟨(hD' c ds hm).1,fun k e es hk ee=>?_⟩⟩
  . have hH:i ∉ Y:=fun hc=>by
      rcases hXY i hc with e | e
      . omega
      . exact hix e
    exact (hx.block i (Nat.lt_of_lt_of_le hi h.bel.size) hH).trans (h.bel.block i hi hix)
  . subst ee
    rcases (hD' _ _ hm).2 with e2 | e2
    . have:=(h.blk k _ es hk).2.lt;omega
    . exact ap k _ es hk e2
theorem MemX.updRow {X:List Nat}{w0 w w':World}{L:Own}{D:Al}{N m:Nat}{γ pos:Nat->Nat}{M:Nat->Nat->Nat}(h:MemX X w0 w L D)(hR:RowsL L N m γ pos M){i:Nat}(hi:i<m)(hx:ExtX [γ i] w w')(r:Nat->Nat)(hb:Blk w' (γ i) (BH N (fun c=>.int .u8 (r c:Int)))) :
    ∃ L',MemX X w0 w' L' D/\RowsL L' N m γ pos (Go.Ech.upE M i r)/\L'[0]? = L[0]?:=
  ⟨_,h.upd (pos i) (hR.at_ i hi) hx hb,hR.setRow hi r rfl,by rw [List.getElem?_set,if_neg (hR.ne0 i hi)]⟩
end Go.Sw
namespace Go.Sw
open Go Go.RowKit Go.Ech
variable {P : Program}
def Cc (b0:Nat) (cs0:Array Value) (N m:Nat) (γ:Nat->Nat) (M:Nat->Nat->Nat):Al:=(b0,cs0)::(List.range m).map (fun i=>(γ i,BH N (fun c=>.int .u8 (M i c:Int))))
section
variable {b0 : Nat} {cs0 : Array Value} {N m : Nat} {γ : Nat -> Nat} {M : Nat -> Nat -> Nat}
theorem EA:(b0,cs0)∈Cc b0 cs0 N m γ M:=List.mem_cons_self ..
theorem DP {i:Nat}(hi:i<m):(γ i,BH N (fun c=>.int .u8 (M i c:Int)))∈Cc b0 cs0 N m γ M:=List.mem_cons_of_mem _ (List.mem_map.2 ⟨i,by simpa using hi,rfl⟩)
theorem Km:∀ y∈BJ b0 m γ,∃ cs,(y,cs)∈Cc b0 cs0 N m γ M:=fun y hy=>by
  rcases List.mem_cons.1 hy with e | hy
  . exact ⟨cs0,by rw [e];exact EA⟩
  . obtain ⟨i,hi,rfl⟩:=List.mem_map.1 hy
    exact ⟨_,DP (by simpa using hi)⟩
theorem D9 {Q:Nat->Array Value->Prop}(h0:Q b0 cs0)(hr:∀ i,i<m->Q (γ i) (BH N (fun c=>.int .u8 (M i c:Int)))):∀ b cs,(b,cs)∈Cc b0 cs0 N m γ M->Q b cs:=fun b cs hm=>by
  rcases List.mem_cons.1 hm with e | hm
  . simp only [Prod.mk.injEq] at e;obtain ⟨rfl,rfl⟩:=e;exact h0
  . obtain ⟨i,hi,e⟩:=List.mem_map.1 hm
    simp only [Prod.mk.injEq] at e;obtain ⟨rfl,rfl⟩:=e;exact hr i (by simpa using hi)
end
theorem MemX.startXD (X:List Nat)(w:World)(n:Nat)(D:Al)(h:∀ b cs,(b,cs)∈D->Blk w b cs):MemX X w w (List.replicate n none) D:=
  ⟨ExtX.refl _ w,fun k b cs h=>by simp [List.getElem?_replicate] at h,fun k j b cs ds h=>by simp [List.getElem?_replicate] at h,fun b cs hm=>⟨h b cs hm,fun k c ds hk=>by simp [List.getElem?_replicate] at hk⟩⟩
def solK (E:Nat->Nat->Nat) (ld:Nat->Nat) (L g c:Nat):Nat:=match Cw g ld c with
  | some i=>E i L
  | none=>0
theorem GG {g c i:Nat}{ld:Nat->Nat}(hi:i<g)(e:ld i=c)(hinj:∀ j,j<g->ld j=c->j=i):Cw g ld c=some i:=by
  cases h:Cw g ld c with
  | none=>exact absurd e (Ec h i hi)
  | some j=>obtain ⟨h1,h2⟩:=CG h;rw [hinj j h1 h2]
theorem Es {g c:Nat}{ld:Nat->Nat}(h:∀ j,j<g->ld j≠c):Cw g ld c=none:=by
  cases h2:Cw g ld c with
  | none=>rfl
  | some j=>obtain ⟨h3,h4⟩:=CG h2;exact absurd h4 (h j h3)
theorem NI {E:Nat->Nat->Nat}{ld:Nat->Nat}{L c:Nat}:solK E ld L 0 c=0:=by
  unfold solK;rw [Es (fun j hj=>absurd hj (by omega))]
theorem NJ {p N k L g c:Nat}{E:Nat->Nat->Nat}{ld:Nat->Nat}(h:Rref p N E k ld)(hg:g<k):solK E ld L (g+1) c=if c=ld g then E g L else solK E ld L g c:=by
  unfold solK
  by_cases e:c=ld g
  . rw [if_pos e,GG (i:=g) (by omega) e.symm (fun j hj ej=>h.inj (by omega) hg (by rw [ej,e]))]
  . rw [if_neg e]
    cases e2:Cw g ld c with
    | some i =>
      obtain ⟨h1,h2⟩:=CG e2;rw [GG (i:=i) (by omega) h2 (fun j hj ej=>h.inj (by omega) (by omega) (by rw [ej,h2]))]
    | none =>
      have h3:=Ec e2;rw [Es (fun j hj ej=>by
        by_cases ej2:j=g
        . subst ej2;exact e ej.symm
        . exact h3 j (by omega) ej)]
theorem Pd {p N k L g c:Nat}{E:Nat->Nat->Nat}{ld:Nat->Nat}(hp:0<p)(hE:∀ i c,E i c<p):solK E ld L g c<p:=by
  unfold solK;split
  . exact hE _ _
  . exact hp
end Go.Sw
namespace Go.Sw
open Go Go.RowKit Go.Ech
variable {P : Program}
section
variable {n : Nat} {F : List (Nat × Value)} {a : Act} {w w0 : World} {d : Option Tmp} {t : TypeId} {pos : String} {af : Array Edge} {gd : Option (Nat × Bool)} {T : TypeId} {x y : Operand} {X : List Nat} {L : Own} {D : Al}
def BR (D:Al) (b:Nat) (cs:Array Value):Al:=D.map (fun x=>if x.1=b then (b,cs) else x)
theorem mem_updD {b c:Nat}{cs ds:Array Value}:(c,ds)∈BR D b cs↔(c=b/\ds=cs/\∃ es,(b,es)∈D)\/(c≠b/\(c,ds)∈D):=by
  unfold BR
  rw [List.mem_map]
  constructor
  . rintro ⟨⟨c',ds'⟩,hm,e⟩
    dsimp only at e
    split at e
    . rename_i e2
      simp only [Prod.mk.injEq] at e;obtain ⟨rfl,rfl⟩:=e;subst e2;exact .inl ⟨rfl,rfl,ds',hm⟩
    . rename_i e2
      simp only [Prod.mk.injEq] at e;obtain ⟨rfl,rfl⟩:=e;exact .inr ⟨e2,hm⟩
  . rintro (⟨rfl,rfl,es,hm⟩ | ⟨hH,hm⟩)
    . exact ⟨(c,es),hm,by simp⟩
    . exact ⟨(c,ds),hm,by simp [hH]⟩
theorem MemX.setD (h:MemX X w0 w L D){b:Nat}{cs:Array Value}(hm:(b,cs)∈D)(ho:w0.heap.size<=b\/b∈X)(cs':Array Value):MemX X w0 (w.setRow b cs') L (BR D b cs'):=by
  have hb:=(h.froz b cs hm).1;refine ⟨⟨h.bel.os,h.bel.tape,h.bel.output,by simpa using h.bel.size,fun i hi hx=>?_⟩,fun k c ds hk=>⟨(h.blk k c ds hk).1,(h.blk k c ds hk).2.otherRow cs' ((h.froz b cs hm).2 k c ds hk)⟩,h.apart,fun c ds hc=>?_⟩
  . refine (setRow_other w b i cs' ?_).trans (h.bel.block i hi hx)
    rintro rfl
    rcases ho with e | e
    . omega
    . exact hx e
  . rcases mem_updD.1 hc with ⟨rfl,rfl,_⟩ | ⟨hH,hc⟩
    . exact ⟨hb.setRow _,(h.froz c cs hm).2⟩
    . exact ⟨(h.froz c ds hc).1.otherRow cs' hH,(h.froz c ds hc).2⟩
theorem K7 {b o:Nat}{cs:Array Value}{v:Value}(J:MemX X w0 w L D)(hk:(b,cs)∈D)(ho':w0.heap.size<=b\/b∈X)(hT:ED P T=true)(O:Fr n a F)(hx:look F x=some (ptr b o))(hy:look F y=some v)
    (h1:v.oneCell'=true) (ho:o<cs.size) :
    Does P ⟨d,.store T x y,t,pos,af,gd⟩ a w (fun _ w'=>MemX X w0 w' L (BR D b (cs.setIfInBounds o v))):=by
  have hb:=(J.froz b cs hk).1;have hs:=(B1 hT w).2;obtain ⟨tt,hg⟩:=hb;have hM':=J.setD hk ho' (cs.setIfInBounds o v);have hst:=run_storeCells_at P b o tt [v] 0 cs w hg (by simp;omega) (by simpa using h1);have e:(List.take (o+0) cs.toList++[v]++List.drop (o+0+[v].length) cs.toList).toArray=cs.setIfInBounds o v:=by
    apply Array.toList_inj.1
    simp [List.set_eq_take_append_cons_drop,ho]
  rw [e] at hst;have hcs:v.cells = #[v]:=by cases v<;>first | rfl | (simp [Value.oneCell'] at h1)
  refine ⟨fun K Q hk=>?_⟩;have hrun:(execOp a.eval ⟨d,.store T x y,t,pos,af,gd⟩).run P w = .ok .skip (w.setRow b (cs.setIfInBounds o v)):=by
    simp [execOp,Instr.storeAt,Instr.sureAddr,O.eval hx,O.eval hy,storeVar,hs,hcs,hst]
  unfold Oper.wp
  rw [hrun];exact hk _ _ hM'
theorem Mq {len by':Nat}{e:TypeId}{z:Value}(k:Nat)(J:MemX X w0 w L D)(O:Fr n a F)(hT:OF P T=some (e,some z,1,by'))(hz:z.cells = #[z])(hx:look F x=some (.int .i64 (len:Int)))(hy:look F y=some (.int .i64 (len:Int)))(hl:len<1000000)(hb:by'<1000) :
    Does P ⟨d,.makeSlice T x y,t,pos,af,gd⟩ a w (fun u w'=>∃ b,u = .slice (some ⟨b,0,none⟩) len len/\MemX X w0 w' (L.set k (some (b,BH len (fun _=>z)))) D/\Ext w w'):=
  ⟨fun K Q hk=>by
    have:=hk _ (w.alloc (.cells (BH len (fun _=>z)) e)) ⟨w.heap.size,rfl,J.fill (Ext.alloc _ _) k (Blk.new _ _ _) (Nat.le_refl _),Ext.alloc _ _⟩
    unfold OF at hT
    cases hu:P.underlying T with
    | none=>simp [hu] at hT
    | some dd =>
      cases dd<;>simp [hu] at hT
      rename_i el
      obtain ⟨inf,hinf,rfl,hz0,hsz,hby⟩:=hT
      have hmul:inf.bytes*len<=1000*1000000:=Nat.mul_le_mul (by omega) (by omega)
      have hmul2:(inf.bytes:Int)*(len:Int)<=281474976710656:=by
        have:((inf.bytes*len:Nat):Int)<=281474976710656:=by omega
        rwa [Int.natCast_mul] at this
      have hrun:=run_make (P:=P) w T el inf z hu hinf hz0 .i64 .i64 (len:Int) (len:Int) (by omega) (Int.le_refl _) hmul2 (by omega);have ec:madeCells z.cells (len*inf.size)=BH len (fun _=>z):=by
        rw [hsz,hz,Nat.mul_one]
        apply Ev (size_madeCells _ _)
        intro i hi
        unfold madeCells
        rw [Array.getElem?_map,Array.getElem?_range,if_pos hi]
        simp [Nat.mod_one]
      simp only [Int.toNat_natCast,ec] at hrun
      unfold Oper.wp execOp
      simp only [O.eval hx,O.eval hy,Sem.run_bind,hrun,Result.andThen_ok,Sem.run_pure];exact this⟩
end
structure RowsB (D:Al) (N m:Nat) (β:Nat->Nat) (M:Nat->Nat->Nat):Prop where
  mem:∀ i,i<m->(β i,BH N (fun c=>.int .u8 (M i c:Int)))∈D
  inj:∀ i j,i<m->j<m->β i=β j->i=j
namespace RowsB
variable {D D' : Al} {N m : Nat} {β : Nat -> Nat} {M : Nat -> Nat -> Nat}
theorem none:RowsB D N 0 β M:=⟨fun i hi=>absurd hi (by omega),fun i j hi=>absurd hi (by omega)⟩
theorem more (h:RowsB D N m β M)(hs:∀ x∈D,x∈D'):RowsB D' N m β M:=⟨fun i hi=>hs _ (h.mem i hi),h.inj⟩
theorem congr {M':Nat->Nat->Nat}(h:RowsB D N m β M)(e:∀ i,i<m->∀ c,c<N->M i c=M' i c):RowsB D N m β M':=
  ⟨fun i hi=>by
    have:=h.mem i hi
    rwa [BL (g:=fun c=>.int .u8 (M' i c:Int)) (fun c hc=>by rw [e i hi c hc])] at this,h.inj⟩
theorem setRow (h:RowsB D N m β M){i:Nat}(hi:i<m)(r:Nat->Nat){cs:Array Value}(hc:cs=BH N (fun c=>.int .u8 (r c:Int))):RowsB (BR D (β i) cs) N m β (upE M i r):=
  ⟨fun j hj=>by
    unfold upE
    by_cases e:j=i
    . subst e;rw [if_pos rfl];exact mem_updD.2 (.inl ⟨rfl,hc.symm,_,h.mem j hj⟩)
    . rw [if_neg e];exact mem_updD.2 (.inr ⟨fun e2=>e (h.inj j i hj hi e2),h.mem j hj⟩),h.inj⟩
theorem snoc (h:RowsB D N m β M){b:Nat}{r:Nat->Nat}{cs:Array Value}(hc:cs=BH N (fun c=>.int .u8 (r c:Int)))(hm:(b,cs)∈D)(hn:∀ i,i<m->b≠β i):RowsB D N (m+1) (up β m b) (upE M m r):=by
  subst hc;refine ⟨fun i hi=>?_,fun i j hi hj e=>?_⟩
  . unfold up upE
    by_cases e:i=m
    . rw [if_pos e,if_pos e];exact hm
    . rw [if_neg e,if_neg e];exact h.mem i (by omega)
  . unfold up at e
    by_cases e1:i=m<;>by_cases e2:j=m
    . omega
    . rw [if_pos e1,if_neg e2] at e;exact absurd e (hn j (by omega))
    . rw [if_neg e1,if_pos e2] at e;exact absurd e.symm (hn i (by omega))
    . rw [if_neg e1,if_neg e2] at e;exact h.inj i j (by omega) (by omega) e
theorem append (h:RowsB D N m β M){m2:Nat}{β2:Nat->Nat}{M2:Nat->Nat->Nat}(h2:RowsB D N m2 β2 M2)(hn:∀ i j,i<m->j<m2->β i≠β2 j) :
    RowsB D N (m+m2) (fun i=>if i<m then β i else β2 (i - m)) (fun i=>if i<m then M i else M2 (i - m)):=by
  refine ⟨fun i hi=>?_,fun i j hi hj e=>?_⟩
  . by_cases e:i<m
    . rw [if_pos e,if_pos e];exact h.mem i e
    . rw [if_neg e,if_neg e];exact h2.mem _ (by omega)
  . by_cases e1:i<m<;>by_cases e2:j<m
    . rw [if_pos e1,if_pos e2] at e;exact h.inj i j e1 e2 e
    . rw [if_pos e1,if_neg e2] at e;exact absurd e (hn i _ e1 (by omega))
    . rw [if_neg e1,if_pos e2] at e;exact absurd e.symm (hn j _ e2 (by omega))
    . rw [if_neg e1,if_neg e2] at e;have:=h2.inj _ _ (by omega) (by omega) e;omega
end RowsB
def BytesOut (w w':World) (N m:Nat) (M:Nat->Nat->Nat) (u:Value):Prop:=∃ (D:Al) (β:Nat->Nat) (b:Nat) (cs:Array Value),
  (∀ x ds,(x,ds)∈D->w.heap.size<=x/\Blk w' x ds)/\RowsB D N m β M/\u = .slice (some ⟨b,0,none⟩) m m/\cs.size=m/\(∀ i,i<m->cs[0+i*1]? = some (.slice (some ⟨β i,0,none⟩) N N))/\(b,cs)∈D/\∀ i,i<m->β i≠b
theorem BytesOut.of {w w':World}{L:Own}{D:Al}{N m k:Nat}{β:Nat->Nat}{M:Nat->Nat->Nat}{b:Nat}{cs:Array Value}(J:AR w w' L D)(hk:L[k]? = some (some (b,cs)))(hB:RowsB D N m β M)(hge:∀ i,i<m->w.heap.size<=β i)(hs:cs.size=m)(hg:∀ i,i<m->cs[0+i*1]? = some (.slice (some ⟨β i,0,none⟩) N N)) :
    BytesOut w w' N m M (.slice (some ⟨b,0,none⟩) m m):=by
  refine ⟨(b,cs)::(List.range m).map (fun i=>(β i,BH N (fun c=>.int .u8 (M i c:Int)))),β,b,cs,fun x ds hx=>?_,⟨fun i hi=>?_,hB.inj⟩,rfl,hs,hg,List.mem_cons_self ..,fun i hi e=>(J.froz _ _ (hB.mem i hi)).2 k b cs hk e.symm⟩
  . rcases List.mem_cons.1 hx with e | hx
    . simp only [Prod.mk.injEq] at e;obtain ⟨rfl,rfl⟩:=e;exact ⟨J.ge k hk,J.row k hk⟩
    . obtain ⟨i,hi,e⟩:=List.mem_map.1 hx
      simp only [Prod.mk.injEq] at e;obtain ⟨rfl,rfl⟩:=e;have hi:i<m:=by simpa using hi
      exact ⟨hge i hi,J.fzm (hB.mem i hi)⟩
  . exact List.mem_cons_of_mem _ (List.mem_map.2 ⟨i,by simpa using hi,rfl⟩)
end Go.Sw
namespace Go.Sw
open Go Go.RowKit Go.Ech
variable {P : Program}
def M6 (w0:World) (L:Own) (N m:Nat) (M:Nat->Nat->Nat) (u:Value) (w':World):Prop:=∃ (D:Al) (β:Nat->Nat) (b:Nat) (cs:Array Value),
  (∀ x ds,(x,ds)∈D->w0.heap.size<=x/\Blk w' x ds/\∀ (k:Nat) c es,L[k]? = some (some (c,es))->c≠x)/\RowsB D N m β M/\u = .slice (some ⟨b,0,none⟩) m m/\cs.size=m/\(∀ i,i<m->cs[0+i*1]? = some (.slice (some ⟨β i,0,none⟩) N N))/\(b,cs)∈D/\∀ i,i<m->β i≠b
theorem BytesOut.fresh {X:List Nat}{w0 w w':World}{L:Own}{D:Al}{N m:Nat}{M:Nat->Nat->Nat}{u:Value}(J:MemX X w0 w L D)(h:BytesOut w w' N m M u):M6 w0 L N m M u w':=by
  obtain ⟨D',β,b,cs,h1,h2⟩:=h;refine ⟨D',β,b,cs,fun x ds hm=>⟨Nat.le_trans J.bel.size (h1 x ds hm).1,(h1 x ds hm).2,fun k c es hk e=>?_⟩,h2⟩;have:=(J.blk k c es hk).2.lt;have:=(h1 x ds hm).1
  omega
theorem MemX.addBo {X:List Nat}{w0 w w':World}{L:Own}{D:Al}{N m:Nat}{M:Nat->Nat->Nat}{u:Value}(h:MemX X w0 w L D)(hx:Ext w w')(hf:BytesOut w w' N m M u) :
    ∃ (D':Al) (β:Nat->Nat) (b:Nat) (cs:Array Value),RowsB (D'++D) N m β M/\u = .slice (some ⟨b,0,none⟩) m m/\cs.size=m/\(∀ i,i<m->cs[0+i*1]? = some (.slice (some ⟨β i,0,none⟩) N N))/\(b,cs)∈D'++D/\(∀ i,i<m->β i≠b)/\(∀ i,i<m->w0.heap.size<=β i)/\w0.heap.size<=b/\MemX X w0 w' L (D'++D)/\(∀ c ds,(c,ds)∈D->∀ i,i<m->c≠β i):=by
  obtain ⟨D',β,b,cs,h1,h2,h3,h4,h5,h6,h7⟩:=hf;refine ⟨D',β,b,cs,h2.more (fun x hx=>List.mem_append_left _ hx),h3,h4,h5,List.mem_append_left _ h6,h7,fun i hi=>Nat.le_trans h.bel.size (h1 _ _ (h2.mem i hi)).1,Nat.le_trans h.bel.size (h1 _ _ h6).1,h.addD hx h1,fun c ds hm i hi e=>?_⟩;have:=(h.froz c ds hm).1.lt;have:=(h1 _ _ (h2.mem i hi)).1
  omega
theorem Gm {f:Nat->Int}{n N:Nat}(hn:n<=N)(h:∀ c,n<=c->c<N->f c=0):sI f N=sI f n:=by
  induction N with
  | zero=>rw [show n=0 by omega]
  | succ N ih =>
    by_cases e:n=N+1
    . rw [e]
    . simp only [sI];rw [ih (by omega) (fun c h1 h2=>h c h1 (by omega)),h N (by omega) (by omega)];omega
theorem Pb {p L k:Nat}{E:Nat->Nat->Nat}{ld:Nat->Nat}(h:Rref p (L+1) E k ld)(hn:¬ Bx k ld L):Ker p (L+1) E k (KO L (solK E ld L k)):=by
  have h1:=h.free_ker (show L<L+1 by omega) hn;intro i hi;have h2:=h1 i hi;have e:dot (L+1) (ci (E i)) (KO L (solK E ld L k))=(-1)*dot (L+1) (ci (E i)) (free E k ld L):=by
    rw [← P7]
    unfold dot
    refine Ar fun c hc=>?_
    show ci (E i) c*KO L (solK E ld L k) c=ci (E i) c*(-1*free E k ld L c)
    congr 1
    unfold KO free solK
    by_cases e:c<L
    . rw [if_pos e,if_neg (by omega)]
      cases Cw k ld c with
      | none=>simp
      | some j=>simp
    . rw [if_neg e,if_pos (by omega)];omega
  rw [e];exact Int.dvd_mul_of_dvd_right h2
theorem Qp {p L k:Nat}{E:Nat->Nat->Nat}{ld:Nat->Nat}{x:Nat->Nat}(hp:2<=p)(h:Rref p (L+1) E k ld)(hl:Bx k ld L):¬ Ker p (L+1) E k (KO L x):=by
  intro hK;obtain ⟨i,hi,e⟩:=hl;have:=h.ker_lead hK hi (fun d h1 h2=>by omega);rw [e,Qc] at this;have:=Int.le_of_dvd (by omega) (Int.dvd_neg.2 this)
  omega
theorem MW {p N k m c:Nat}{E M:Nat->Nat->Nat}{ld:Nat->Nat}(hp:2<=p)(h:Rref p N E k ld)(hK:∀ x,Ker p N E k x↔Ker p N M m x)(hc:c<N)(hz:∀ i,i<m->M i c=0):¬ Bx k ld c:=by
  rintro ⟨j,hj,e⟩;have h1:Ker p N M m (fun d=>if d=c then 1 else 0):=fun i hi=>by
    have:dot N (ci (M i)) (fun d=>if d=c then 1 else 0)=0:=by
      unfold dot
      refine Cn fun d _=>?_
      by_cases ed:d=c
      . simp [ci,ed,hz i hi]
      . simp [ed]
    rw [this];exact Int.dvd_zero _
  have h2:=h.ker_lead ((hK _).2 h1) hj (fun d h1 _=>by rw [if_neg (by omega)]);rw [e,if_pos rfl] at h2;have:=Int.le_of_dvd (by omega) h2
  omega
theorem OE {E:Nat->Nat->Nat}{ld:Nat->Nat}{L k c:Nat}(h:¬ Bx k ld c):solK E ld L k c=0:=by
  unfold solK
  rw [Es (fun j hj e=>h ⟨j,hj,e⟩)]
end Go.Sw
namespace Go.Sw
open Go Go.RowKit
variable {P : Program}
section
variable {n : Nat} {F : List (Nat × Value)} {a : Act} {w : World} {d : Option Tmp} {t : TypeId} {pos : String} {af : Array Edge} {gd : Option (Nat × Bool)} {T T' : TypeId} {x y : Operand}
theorem J0 (op:BinOp)(T:TypeId)(x y:Operand)(s u:Bool)(w:World):(eqGuard op T x y (.bool s) (.bool u)).run P w = .ok () w:=by
  unfold eqGuard
  cases op<;>simp
theorem run_equal_bool (s u:Bool)(hT:P.underlying T=some .bool):(Op.equal T (.bool s) (.bool u)).run P w = .ok (s == u) w:=by
  show (Op.equalIn 10000 T (.bool s) (.bool u)).run P w=_
  rw [Op.equalIn]
  simp [run_underlying hT]
theorem Jy {s u:Bool}(hT:P.underlying T=some .bool)(O:Fr n a F)(hx:look F x=some (.bool s))(hy:look F y=some (.bool u)):BN P ⟨d,.binOp .neq T x y T',t,pos,af,gd⟩ a w (.bool (decide (s≠u))):=
  Ab (by
    simp [execOp,J0,binOp,O.eval hx,O.eval hy,run_equal_bool s u hT]
    try (cases s<;>cases u<;>rfl))
end
end Go.Sw
namespace Go.Sw
open Go Go.RowKit
variable {P : Program}
section
variable {ops : List Oper} {Q : Exit -> Act -> World -> Prop} {n : Nat} {F : List (Nat × Value)}
def Mz {G:Type} (ops:List Oper) (k s:Nat) (φ:Facts G) (o:Oper) (g:G) (a:Act) (w:World):Prop:=
  ∀ j,Nat.blt j k=true->Nat.beq j s=false->Bz o j=true->φ j g (a.tmps.getD (Bh ops j) undef) w
def PQ {G:Type} (S:Bool->G->World->Prop) (φ:Facts G) (bb:Bool) (g:G) (w w':World):Prop:=∃ g',S bb g' w'/\∀ j u,φ j g u w->φ j g' u w'
def EI {G:Type} (S:Bool->G->World->Prop) (φ:Facts G) (bb:Bool) (i:Nat) (g:G) (w:World) (v:Value) (w':World):Prop:=∃ g',S bb g' w'/\φ i g' v w'/\∀ j u,j≠i->φ j g u w->φ j g' u w'
def StepsG {G:Type} (P:Program) (ops:List Oper) (k s n:Nat) (F:List (Nat×Value)) (S:Bool->G->World->Prop) (φ:Facts G):List Oper->Nat->Prop
  | [],_=>True
  | o::r,i=>(if Nat.beq i s=true then ∀ a w g,Fr n a F->S false g w->Mz ops k s φ o g a w->Does P o a w (fun _ w'=>PQ S φ true g w w')
      else ∀ a w b g,Fr n a F->S b g w->(Hc ops s i=true->b=false)->Mz ops k s φ o g a w->Does P o a w (EI S φ b i g w))/\StepsG P ops k s n F S φ r (i+1)
theorem StepsG.get {G:Type}{k s:Nat}{S:Bool->G->World->Prop}{φ:Facts G}:∀ {l:List Oper} {i:Nat},StepsG P ops k s n F S φ l i->∀ (j:Nat) (o:Oper),l[j]? = some o->
    (if Nat.beq (i+j) s=true then ∀ a w g,Fr n a F->S false g w->Mz ops k s φ o g a w->Does P o a w (fun _ w'=>PQ S φ true g w w')
      else ∀ a w b g,Fr n a F->S b g w->(Hc ops s (i+j)=true->b=false)->Mz ops k s φ o g a w->Does P o a w (EI S φ b (i+j) g w))
  | [],_,_,j,o,h=>by simp at h
  | x :: r, i, hs, j, o, h => by
    cases j with
    | zero=>simp at h;subst h;exact hs.1
    | succ j=>have:=hs.2.get j o (by simpa using h);rwa [show i+1+j=i+(j+1) by omega] at this
end
def Qx (kt:Nat) (l:List Fact):Facts Own:=fun i L u w=>match l[i]? with
  | some (.own k cs mk)=>if k=kt then ∃ b cs',u=mk b/\L[k]? = some (some (b,cs')) else ∃ b,u=mk b/\L[k]? = some (some (b,cs))
  | some (.val v)=>u=v
  | some (.rel _)=>True
  | none=>True
def SB (X:List Nat) (w0:World) (D:Al) (W:List Nat) (L0:Own) (kt:Nat) (csO csN:Array Value) (bb:Bool) (L:Own) (w:World):Prop:=
  Par X w0 D W L0 L w/\∀ b cs,L[kt]? = some (some (b,cs))->cs=(if bb then csN else csO)
section
variable {X : List Nat} {w0 w : World} {D : Al} {W : List Nat} {L0 L : Own} {kt : Nat} {csO csN : Array Value} {bb : Bool} {l : List Fact} {i : Nat} {o : Oper} {a : Act}
end
end Go.Sw
namespace Go.Sw
open Go Go.RowKit
variable {P : Program}
def KQ (m:Nat) (V:Nat->Nat->Nat):Array Value:=BH (m*6) (fun c=>.int .u8 (V (c / 6) (c%6):Int))
def KR (l:List (Nat->Nat)) (i:Nat):Nat->Nat:=l.getD i (fun _=>0)
section
variable {n : Nat} {F : List (Nat × Value)} {a : Act} {w : World} {d : Option Tmp} {t : TypeId} {pos : String} {af : Array Edge} {gd : Option (Nat × Bool)} {x : Operand}
theorem Q6 {x0 x1:Operand}{v0 v1:Value}(O:Fr n a F)(h0:look F x0=some v0)(h1:look F x1=some v1):(#[(0,x0),(1,x1)]:Array (Nat×Operand)).toList.map (fun p=>(p.1,a.eval p.2))=[(0,v0),(1,v1)]:=by simp [O.eval h0,O.eval h1]
theorem Q5 {x0 x1 x2:Operand}{v0 v1 v2:Value}(O:Fr n a F)(h0:look F x0=some v0)(h1:look F x1=some v1)(h2:look F x2=some v2):(#[(0,x0),(1,x1),(2,x2)]:Array (Nat×Operand)).toList.map (fun p=>(p.1,a.eval p.2))=[(0,v0),(1,v1),(2,v2)]:=by simp [O.eval h0,O.eval h1,O.eval h2]
end
end Go.Sw
namespace Go.Sw
open Go Go.RowKit
variable {P : Program}
section
variable {n : Nat} {F : List (Nat × Value)} {a : Act} {w : World} {d : Option Tmp} {t : TypeId} {pos : String} {af : Array Edge} {gd : Option (Nat × Bool)} {T : TypeId} {x : Operand}
end
end Go.Sw
namespace Go.Ech
theorem EM (f:Nat->Int)(k:Int)(n:Nat):sI f n*k=sI (fun i=>f i*k) n:=by
  rw [Int.mul_comm,← Cb];exact Ar fun i _=>Int.mul_comm _ _
theorem D8 (f g:Nat->Int)(n:Nat):sI f n - sI g n=sI (fun i=>f i - g i) n:=by
  have:=Dr (fun i=>f i - g i) g n;rw [show (fun i=>(f i - g i)+g i)=f from by funext i;omega] at this;omega
def Pr (n:Nat) (T:Nat->Nat->Nat->Nat) (x y:Nat->Int) (c:Nat):Int:=sI (fun a=>sI (fun b=>x a*y b*(T a b c:Int)) n) n
theorem Ia {p:Int}{n:Nat}{T:Nat->Nat->Nat->Nat}{x x' y y':Nat->Int}(hx:∀ a,a<n->p∣x a - x' a)(hy:∀ b,b<n->p∣y b - y' b)(c:Nat):p∣Pr n T x y c - Pr n T x' y' c:=by
  unfold Pr
  rw [D8];refine Cu fun a ha=>?_;rw [D8];refine Cu fun b hb=>?_;have e:x a*y b*(T a b c:Int) - x' a*y' b*(T a b c:Int)=(x a - x' a)*(y b*(T a b c:Int))+x' a*((y b - y' b)*(T a b c:Int)):=by grind
  rw [e];exact Int.dvd_add (Int.dvd_mul_of_dvd_left (hx a ha)) (Int.dvd_mul_of_dvd_right (Int.dvd_mul_of_dvd_left (hy b hb)))
theorem Hu {n:Nat}{T:Nat->Nat->Nat->Nat}{x v:Nat->Int}{c:Nat}:Pr n T x v c=sI (fun a=>x a*sI (fun b=>v b*(T a b c:Int)) n) n:=by
  unfold Pr
  exact Ar fun a _=>by rw [← Cb];exact Ar fun b _=>by grind
theorem PO {n:Nat}{T:Nat->Nat->Nat->Nat}{x v:Nat->Int}{c:Nat}:Pr n T v x c=sI (fun b=>x b*sI (fun a=>v a*(T a b c:Int)) n) n:=by
  unfold Pr
  rw [C4];exact Ar fun b _=>by rw [← Cb];exact Ar fun a _=>by grind
def FV (p n:Nat) (T:Nat->Nat->Nat->Nat):Prop:=∀ i,i<n->∀ j,j<n->∀ k,k<n->∀ d,d<n->(p:Int)∣sI (fun a=>(T i j a:Int)*(T a k d:Int)) n - sI (fun b=>(T j k b:Int)*(T i b d:Int)) n
theorem PP {p n:Nat}{T:Nat->Nat->Nat->Nat}(h:FV p n T)(x v w:Nat->Int){d:Nat}(hd:d<n):(p:Int)∣Pr n T (Pr n T x v) w d - Pr n T x (Pr n T v w) d:=by
  have e1:Pr n T (Pr n T x v) w d=sI (fun i=>sI (fun j=>sI (fun k=>(x i*v j*w k)*sI (fun a=>(T i j a:Int)*(T a k d:Int)) n) n) n) n:=by
    have h1:Pr n T (Pr n T x v) w d=sI (fun a=>sI (fun k=>sI (fun i=>sI (fun j=>x i*v j*w k*((T i j a:Int)*(T a k d:Int))) n) n) n) n:=by
      unfold Pr
      refine Ar fun a _=>Ar fun k _=>?_;rw [EM,EM];refine Ar fun i _=>?_;rw [EM,EM];exact Ar fun j _=>by grind
    rw [h1];have h2:sI (fun a=>sI (fun k=>sI (fun i=>sI (fun j=>x i*v j*w k*((T i j a:Int)*(T a k d:Int))) n) n) n) n=sI (fun a=>sI (fun i=>sI (fun k=>sI (fun j=>x i*v j*w k*((T i j a:Int)*(T a k d:Int))) n) n) n) n:=Ar fun a _=>C4 _ _ _;have h3:sI (fun a=>sI (fun i=>sI (fun k=>sI (fun j=>x i*v j*w k*((T i j a:Int)*(T a k d:Int))) n) n) n) n=sI (fun a=>sI (fun i=>sI (fun j=>sI (fun k=>x i*v j*w k*((T i j a:Int)*(T a k d:Int))) n) n) n) n:=Ar fun a _=>Ar fun i _=>C4 _ _ _;rw [h2,h3,C4];refine Ar fun i _=>?_;rw [C4];refine Ar fun j _=>?_;rw [C4];exact Ar fun k _=>Cb _ _ _
  have e2:Pr n T x (Pr n T v w) d=sI (fun i=>sI (fun j=>sI (fun k=>(x i*v j*w k)*sI (fun b=>(T j k b:Int)*(T i b d:Int)) n) n) n) n:=by
    have h1:Pr n T x (Pr n T v w) d=sI (fun i=>sI (fun b=>sI (fun j=>sI (fun k=>x i*v j*w k*((T j k b:Int)*(T i b d:Int))) n) n) n) n:=by
      unfold Pr
      refine Ar fun i _=>Ar fun b _=>?_;rw [← Cb,EM];refine Ar fun j _=>?_;rw [← Cb,EM];exact Ar fun k _=>by grind
    rw [h1];refine Ar fun i _=>?_;rw [C4];refine Ar fun j _=>?_;rw [C4];exact Ar fun k _=>Cb _ _ _
  rw [e1,e2,D8];refine Cu fun i hi=>?_;rw [D8];refine Cu fun j hj=>?_;rw [D8];refine Cu fun k hk=>?_;rw [← Int.mul_sub];exact Int.dvd_mul_of_dvd_right (h i hi j hj k hk d hd)
theorem KC {p n:Nat}{T:Nat->Nat->Nat->Nat}{u:Nat->Nat}(hu:UnitI p n T u)(w:Nat->Int){d:Nat}(hd:d<n):(p:Int)∣Pr n T (ci u) w d - w d:=by
  rw [PO];have e:w d=sI (fun b=>w b*(dl b d:Int)) n:=by
    rw [Bl hd]
    . simp [dl]
    . intro i _ hH;simp [dl,hH]
  rw [e,D8];refine Cu fun b hb=>?_;rw [← Int.mul_sub];exact Int.dvd_mul_of_dvd_right (hu.right b hb d hd)
theorem Ir {p n:Nat}{T:Nat->Nat->Nat->Nat}{u:Nat->Nat}(hu:UnitI p n T u)(w:Nat->Int){d:Nat}(hd:d<n):(p:Int)∣Pr n T w (ci u) d - w d:=by
  rw [Hu];have e:w d=sI (fun b=>w b*(dl b d:Int)) n:=by
    rw [Bl hd]
    . simp [dl]
    . intro i _ hH;simp [dl,hH]
  rw [e,D8];refine Cu fun b hb=>?_;rw [← Int.mul_sub];exact Int.dvd_mul_of_dvd_right (hu.left b hb d hd)
structure InvI (p n:Nat) (T:Nat->Nat->Nat->Nat) (u v w:Nat->Nat):Prop where
  small:∀ c,w c<p
  out:∀ c,n<=c->w c=0
  right:∀ c,c<n->(p:Int)∣Pr n T (ci w) (ci v) c - (u c:Int)
  left:∀ c,c<n->(p:Int)∣Pr n T (ci v) (ci w) c - (u c:Int)
theorem Ot {p n:Nat}{T:Nat->Nat->Nat->Nat}{u v w:Nat->Nat}{x:Nat->Int}(ha:FV p n T)(hu:UnitI p n T u)(hl:∀ c,c<n->(p:Int)∣Pr n T (ci v) (ci w) c - (u c:Int))(hx:∀ c,c<n->(p:Int)∣Pr n T x (ci v) c - (u c:Int)){d:Nat}(hd:d<n):(p:Int)∣x d - (w d:Int):=by
  have h1:=PP ha x (ci v) (ci w) hd;have h2:(p:Int)∣Pr n T (Pr n T x (ci v)) (ci w) d - Pr n T (ci u) (ci w) d:=Ia (fun a h=>hx a h) (fun b _=>by simp) d;have h3:(p:Int)∣Pr n T x (Pr n T (ci v) (ci w)) d - Pr n T x (ci u) d:=Ia (fun a _=>by simp) (fun b h=>hl b h) d;have h4:=KC hu (ci w) hd;have h5:=Ir hu x hd;have a1:=Int.dvd_sub h1 h2;have a2:=Int.dvd_add a1 h3;have a3:=Int.dvd_add a2 h5;have a4:=Int.dvd_sub a3 h4;have e:∀ A B C D X W:Int,A - B - (A - C)+(B - D)+(D - X) - (C - W)=W - X:=by intro A B C D X W;omega
  rw [e] at a4;have:=Int.dvd_neg.2 a4
  rwa [show -((w d:Int) - x d)=x d - (w d:Int) by omega] at this
theorem InvI.unique {p n:Nat}{T:Nat->Nat->Nat->Nat}{u v w y:Nat->Nat}(ha:FV p n T)(hu:UnitI p n T u)(hw:InvI p n T u v w)(hy:InvI p n T u v y):y=w:=by
  funext c
  by_cases hc:c<n
  . exact Fe (hy.small c) (hw.small c) (Ot ha hu hw.left hy.right hc)
  . rw [hw.out c (by omega),hy.out c (by omega)]
end Go.Ech
namespace Go.Sw
open Go Go.RowKit
variable {P : Program}
section
variable {ops : List Oper} {Q : Exit -> Act -> World -> Prop} {n : Nat} {F : List (Nat × Value)}
def LM {G:Type} (ops:List Oper) (k s:Nat) (φ:Facts G) (o:Oper) (g:G) (a:Act) (w:World):Prop:=
  ∀ j,Nat.blt j k=true->Bz o j=true->φ j g (a.tmps.getD (Bh ops j) undef) w
def StepsH {G:Type} (P:Program) (ops:List Oper) (k s n:Nat) (F:List (Nat×Value)) (S:Bool->G->World->Prop) (φ:Facts G):List Oper->Nat->Prop
  | [],_=>True
  | o::r,i=>(if Nat.beq i s=true then ∀ a w g,Fr n a F->S false g w->LM ops k s φ o g a w->Does P o a w (EI S φ true i g w)
      else ∀ a w b g,Fr n a F->S b g w->(Hc ops s i=true->b=false)->LM ops k s φ o g a w->Does P o a w (EI S φ b i g w))/\StepsH P ops k s n F S φ r (i+1)
theorem StepsH.get {G:Type}{k s:Nat}{S:Bool->G->World->Prop}{φ:Facts G}:∀ {l:List Oper} {i:Nat},StepsH P ops k s n F S φ l i->∀ (j:Nat) (o:Oper),l[j]? = some o->
    (if Nat.beq (i+j) s=true then ∀ a w g,Fr n a F->S false g w->LM ops k s φ o g a w->Does P o a w (EI S φ true (i+j) g w)
      else ∀ a w b g,Fr n a F->S b g w->(Hc ops s (i+j)=true->b=false)->LM ops k s φ o g a w->Does P o a w (EI S φ b (i+j) g w))
  | [],_,_,j,o,h=>by simp at h
  | x :: r, i, hs, j, o, h => by
    cases j with
    | zero=>simp at h;subst h;exact hs.1
    | succ j=>have:=hs.2.get j o (by simpa using h);rwa [show i+1+j=i+(j+1) by omega] at this
theorem Ms {G:Type}{S:Bool->G->World->Prop}{id:Nat}(k s:Nat){a:Act}{w:World}(hm:P.follows .mixedOrders=true)(hk:Hm ops k=true)(hsk:Nat.blt s k=true)(hsl:Nat.blt s ops.length=true)(O:Fr n a F)(hdst:Fg n F (ops.take k) []=true)(hdall:∀ (j:Nat) (o:Oper),(ops.take k)[j]? = some o->o.dst≠none)(g:G)(hS:S false g w)
    (hdr:∀ b g w,S b g w->S b g w.drew) (φ:Facts G)
    (hsteps:StepsH P ops k s n F S φ (ops.take k) 0)
    (hend:∀ a w g,Fr n a F->S true g w->(∀ i,Nat.blt i k=true->Nat.blt i ops.length=true->φ i g (a.tmps.getD (Bh ops i) undef) w)->wpList P ops.toArray Q (ops.drop k) a w) :
    (Code.region id ops.toArray true).wp P Q a w:=by
  refine wp_region_any hm ?_;simp only [Hm,Bool.and_eq_true] at hk;obtain ⟨hback,htail⟩:=hk;have hge:∀ (i:Nat),ops.toArray[i]? = ops[i]?:=fun i=>by simp
  have hreach:∀ i j,k<=i->i<ops.length->j<i->Reach ops i j:=fun i j h1 h2 h3=>
    EE ops [] (fun i=>by simp) (fun m j h=>by simp at h) i j (DA htail i h1 h2 (by omega) j h3)
  have edge_listed:∀ {i:Nat} {o:Oper} {listed:Array Bool} {j:Nat},i∈Region.ready .any ops.toArray listed->ops[i]? = some o->Bz o j=true->listed.getD j false=true:=by
    intro i o listed j hi ho he;obtain ⟨_,o',ho',hall⟩:=mem_ready.1 hi;rw [hge,ho] at ho';obtain rfl:=Option.some.inj ho';simp only [Bz,List.any_eq_true,Bool.and_eq_true] at he;obtain ⟨e,hm',hb,hj⟩:=he;obtain rfl:=Nat.eq_of_beq_eq_true hj;exact hall e (by simpa using hm') hb
  have reach_listed:∀ {listed:Array Bool},(∀ (j:Nat) o,ops[j]? = some o->listed.getD j false=true->∀ e∈o.after,Region.binds .any e=true->listed.getD e.on false=true)->∀ i j,Reach ops i j->(∀ o m,ops[i]? = some o->Bz o m=true->listed.getD m false=true)->listed.getD j false=true:=by
    intro listed hcl i j hr
    induction hr with
    | one ho he=>intro h;exact h _ _ ho he
    | more ho he _ ih =>
      intro h;have hm':=h _ _ ho he;refine ih (fun o m ho2 he2=>?_);simp only [Bz,List.any_eq_true,Bool.and_eq_true] at he2;obtain ⟨e,hin,hb,hj⟩:=he2;obtain rfl:=Nat.eq_of_beq_eq_true hj;exact hcl _ o ho2 hm' e (by simpa using hin) hb
  have tail:∀ (f m:Nat) (listed:Array Bool) (a:Act) (w:World),k<=m->ops.length - m<=f->(∀ j,j<m->j<ops.length->listed.getD j false=true)->(∀ j,m<=j->j<ops.length->listed.getD j true=false)->
      wpList P ops.toArray Q (ops.drop m) a w->wpAny P .any ops.toArray Q f listed a w:=by
    intro f
    induction f with
    | zero =>
      intro m listed a w hkm hf h1 h2 h;rw [List.drop_eq_nil_of_le (by omega)] at h;refine ⟨?_,h⟩
      cases hr:Region.ready .any ops.toArray listed with
      | nil=>rfl
      | cons i r =>
        obtain ⟨g1,o,ho,_⟩:=mem_ready.1 (hr ▸ List.mem_cons_self .. : i∈Region.ready .any ops.toArray listed);rw [hge] at ho;have hi:=(List.getElem?_eq_some_iff.1 ho).1;have:=h1 i (by omega) hi
        simp [Array.getD_eq_getD_getElem?] at this g1
        cases hh:listed[i]?<;>simp [hh] at this g1
        rw [this] at g1;cases g1
    | succ f ih =>
      intro m listed a w hkm hf h1 h2 h;have only:∀ i∈Region.ready .any ops.toArray listed,i=m:=by
        intro i hi;obtain ⟨g1,o,ho,hall⟩:=mem_ready.1 hi;have ho':=ho;rw [hge] at ho';have hU:=(List.getElem?_eq_some_iff.1 ho').1
        by_cases hlt:i<m
        . have:=h1 i hlt hU
          simp [Array.getD_eq_getD_getElem?] at this g1
          cases hh:listed[i]?<;>simp [hh] at this g1
          rw [this] at g1;cases g1
        . by_cases e:i=m
          . exact e
          . have:=reach_listed (listed:=listed) (fun j o hj hl e he hbnd=>by
                have hJ:=(List.getElem?_eq_some_iff.1 hj).1;have hjm:j<m:=by
                  rcases Nat.lt_or_ge j m with h | h
                  . exact h
                  . have h3:=h2 j h hJ
                    simp [Array.getD_eq_getD_getElem?] at hl h3
                    cases hh:listed[j]?<;>simp [hh] at hl h3
                    rw [hl] at h3;cases h3
                have:=B8 hback j o hj e he hbnd;exact h1 e.on (by omega) (by omega)) i m (hreach i m (by omega) hU (by omega)) (fun o2 q ho2 he2=>by
                rw [ho'] at ho2;obtain rfl:=Option.some.inj ho2;exact edge_listed hi ho' he2)
            have h3:=h2 m (Nat.le_refl _) (by omega)
            simp [Array.getD_eq_getD_getElem?] at this h3
            cases hh:listed[m]?<;>simp [hh] at this h3
            rw [this] at h3;cases h3
      refine ⟨fun hr=>?_,fun i hi=>?_⟩
      . by_cases hml:m<ops.length
        . exfalso
          have:m∈Region.ready .any ops.toArray listed:=by
            refine mem_ready.2 ⟨h2 m (Nat.le_refl _) hml,ops[m],by simp [hml],fun e he hbnd=>?_⟩;have:=B8 hback m ops[m] (by simp [hml]) e he hbnd;exact h1 e.on (by omega) (by omega)
          rw [hr] at this;cases this
        . rw [List.drop_eq_nil_of_le (by omega)] at h;exact h
      . obtain rfl:=only i hi
        obtain ⟨g1,o,ho,_⟩:=mem_ready.1 hi;rw [hge] at ho;have hU:=(List.getElem?_eq_some_iff.1 ho).1;have hdrop:ops.drop i=o::ops.drop (i+1):=by
          rw [List.drop_eq_getElem_cons hU];congr 1;exact (List.getElem?_eq_some_iff.1 ho).2
        rw [hdrop] at h;have K:∀ a w,wpList P ops.toArray Q (ops.drop (i+1)) a w->wpAny P .any ops.toArray Q f (listed.setIfInBounds i true) a w:=by
          intro a w hh;refine ih (i+1) _ a w (by omega) (by omega) (fun j hj hJ=>?_) (fun j hj hJ=>?_) hh
          . by_cases e:i=j
            . subst e
              have hsz:i<listed.size:=by
                rcases Nat.lt_or_ge i listed.size with h' | h'
                . exact h'
                . simp [Array.getElem?_eq_none h'] at g1
              simp [hsz]
            . rw [getD_set_ne false e];exact h1 j (by omega) hJ
          . rw [getD_set_ne true (by omega)];exact h2 j (by omega) hJ
        unfold wpOp
        rw [hge,ho]
        unfold wpList at h
        show (if Region.wanted o (yielded ops.toArray a.tmps) then _ else _)
        split
        . rename_i hw
          rw [if_pos hw] at h;exact h.imp (Oper.wp_mono K) (fun x=>x)
        . rename_i hw
          rw [if_neg hw] at h;exact K _ _ h
  have hskl:s<ops.length:=Nat.blt_eq.mp hsl;have hsk':s<k:=Nat.blt_eq.mp hsk;have hnodst:∀ (j:Nat) (o:Oper),(ops.take k)[j]? = some o->o.dst≠none:=hdall;have head:∀ (f:Nat) (listed:Array Bool) (a:Act) (w:World) (g:G),listed.size=ops.length->(List.range ops.length).countP (fun i=>!listed.getD i true)<=f->(∀ j,k<=j->j<ops.length->listed.getD j true=false)->(∀ (j:Nat) o,ops[j]? = some o->listed.getD j false=true->∀ e∈o.after,Region.binds .any e=true->listed.getD e.on false=true)->
      Fr n a F->S (listed.getD s false) g w->(∀ i,i<k->i<ops.length->listed.getD i false=true->φ i g (a.tmps.getD (Bh ops i) undef) w)->wpAny P .any ops.toArray Q f listed a w:=by
    intro f
    induction f with
    | zero =>
      intro listed a w g hsz hc h2 hcl O hS hφ';have all:∀ j,j<ops.length->listed.getD j true=true:=by
        intro j hj;have h0:(List.range ops.length).countP (fun i=>!listed.getD i true)=0:=by omega
        have:=List.countP_eq_zero.1 h0 j (by simpa using hj)
        simpa using this
      have all':∀ j,j<ops.length->listed.getD j false=true:=by
        intro j hj;have:=all j hj;have hjs:j<listed.size:=by omega
        simpa [Array.getD_eq_getD_getElem?,hjs] using this
      have hlen:ops.length<=k:=by
        rcases Nat.lt_or_ge k ops.length with h | h
        . have e1:=h2 k (Nat.le_refl _) h
          rw [all k h] at e1;cases e1
        . exact h
      refine tail 0 k listed a w (Nat.le_refl _) (by omega) (fun j _ hj=>all' j hj) (fun j hj hJ=>by omega)<|hend a w g O (by rw [all' s hskl] at hS;exact hS) (fun i hi hU=>hφ' i (Nat.blt_eq.mp hi) (Nat.blt_eq.mp hU) (all' i (Nat.blt_eq.mp hU)))
    | succ f ih =>
      intro listed a w g hsz hc h2 hcl O hS hφ'
      by_cases all:∀ j,j<k->j<ops.length->listed.getD j false=true
      . refine tail (f+1) k listed a w (Nat.le_refl _) ?_ all h2 (hend a w g O (by rw [all s hsk' hskl] at hS;exact hS) (fun i hi hU=>hφ' i (Nat.blt_eq.mp hi) (Nat.blt_eq.mp hU) (all i (Nat.blt_eq.mp hi) (Nat.blt_eq.mp hU))))
        have hge':∀ (m:Nat),m<=ops.length->m - k<=(List.range m).countP (fun i=>!listed.getD i true):=by
          intro m
          induction m with
          | zero=>intro _;simp
          | succ m ihm =>
            intro hm';have:=ihm (by omega);rw [List.range_succ,List.countP_append]
            by_cases hkm:k<=m
            . have e1:=h2 m hkm (by omega)
              have e2:List.countP (fun i=>!listed.getD i true) [m]=1:=by rw [List.countP_cons,e1];rfl
              omega
            . omega
        have:=hge' ops.length (Nat.le_refl _)
        omega
      . have step:∀ i∈Region.ready .any ops.toArray listed,i<k:=by
          intro i hi
          rcases Nat.lt_or_ge i k with h | h
          . exact h
          . exfalso
            obtain ⟨g1,o,ho,_⟩:=mem_ready.1 hi;rw [hge] at ho;have hU:=(List.getElem?_eq_some_iff.1 ho).1;exact all (fun j hj hJ=>reach_listed hcl i j (hreach i j h hU (by omega)) (fun o2 q ho2 he2=>by
              rw [ho] at ho2;obtain rfl:=Option.some.inj ho2;exact edge_listed hi ho he2))
        refine ⟨fun hr=>?_,fun i hi=>?_⟩
        . exfalso
          apply all
          intro j
          induction j using Nat.strongRecOn with
          | _ j ihj =>
            intro hjk hJ
            cases hl:listed.getD j false with
            | true=>rfl
            | false =>
              have hjs:j<listed.size:=by omega
              have hm':j∈Region.ready .any ops.toArray listed:=by
                refine mem_ready.2 ⟨?_,ops[j],by simp [hJ],fun e he hbnd=>?_⟩
                . simpa [Array.getD_eq_getD_getElem?,hjs] using hl
                . have:=B8 hback j ops[j] (by simp [hJ]) e he hbnd
                  exact ihj e.on (by omega) (by omega) (by omega)
              rw [hr] at hm';cases hm'
        . have hik:=step i hi
          obtain ⟨g1,o,ho,hall'⟩:=mem_ready.1 hi;rw [hge] at ho;have hU:=(List.getElem?_eq_some_iff.1 ho).1;have hti:(ops.take k)[i]? = some o:=by rw [List.getElem?_take,if_pos hik];exact ho
          obtain ⟨hd6,hdd⟩:=C5 hdst i o hti;have hnl:listed.getD i false=false:=by
            have:i<listed.size:=by omega
            simp [Array.getD_eq_getD_getElem?,this] at g1 ⊢;exact g1
          have hdep:LM ops k s φ o g a w:=fun j hj he=>by
            have hj':j<k:=Nat.blt_eq.mp hj;have hl:=edge_listed hi ho he;have hJ:j<ops.length:=by
              rcases Nat.lt_or_ge j listed.size with h | h
              . omega
              . simp [Array.getElem?_eq_none h] at hl
            exact hφ' j hj' hJ hl
          have rest:∀ (v:Value) (w':World) (g':G),S ((listed.setIfInBounds i true).getD s false) g' w'->φ i g' v w'->(∀ j u,j≠i->φ j g u w->φ j g' u w')->wpAny P .any ops.toArray Q f (listed.setIfInBounds i true) (a.put o.dst v) w':=by
            intro v w' g' hS' hvi hoth;have hF':Fr n (a.put o.dst v) F:=by
              cases hd:o.dst with
              | none=>exact O
              | some d =>
                obtain ⟨hd2,hd3,_⟩:=hdd d hd;have:=O.put d v (Nat.blt_eq.mpr hd2);refine ⟨this.defers,this.size,fun t u ht=>this.get t u ?_⟩;simp only [lk];have hH:¬ d=t:=fun e=>by subst e;rw [hd3] at ht;cases ht
                rw [J8 hH];exact ht
            refine ih _ _ _ g' (by simpa using hsz) ?_ (fun j hj hJ=>?_) (fun j oj hoj hl e he hb=>?_) hF' hS' (fun j hj hJ hl=>?_)
            . have:(List.range ops.length).countP (fun j=>!(listed.setIfInBounds i true).getD j true)<(List.range ops.length).countP (fun j=>!listed.getD j true):=by
                refine Ei (fun x hx=>?_) ⟨i,by simpa using hU,by simpa using g1,?_⟩
                . by_cases e:i=x
                  . subst e;simp only [g1];rfl
                  . rw [getD_set_ne true e] at hx;exact hx
                . have:i<listed.size:=by omega
                  simp [this]
              omega
            . rw [getD_set_ne true (by omega)];exact h2 j hj hJ
            . refine getD_set_true ?_
              by_cases ej:j=i
              . subst ej
                rw [ho] at hoj;obtain rfl:=Option.some.inj hoj;exact hall' e he hb
              . rw [getD_set_ne false (Ne.symm ej)] at hl
                exact hcl j oj hoj hl e he hb
            . by_cases e:j=i
              . subst e
                have hv:=hvi
                cases hd:o.dst with
                | none=>simp only [Bh,ho,Option.bind_some,hd] at hv ⊢;exact absurd hd (by
                    intro _;exact hnodst j o hti hd)
                | some d =>
                  obtain ⟨hd2,_⟩:=hdd d hd;have hdo:Bh ops j=d:=by simp [Bh,ho,hd]
                  rw [hdo];have:(a.put (some d) v).tmps.getD d undef=v:=by simp [Act.put,O.size,hd2]
                  rw [this];exact hv
              . rw [getD_set_ne false (Ne.symm e)] at hl
                have hold:=hoth j _ e (hφ' j hj hJ hl)
                cases hd:o.dst with
                | none=>exact hold
                | some d =>
                  obtain ⟨hd2,hd3,_,hd5⟩:=hdd d hd;have hoj:ops[j]? = some ops[j]:=by simp [hJ]
                  have htj:(ops.take k)[j]? = some ops[j]:=by rw [List.getElem?_take,if_pos hj];exact hoj
                  have hdn:Bh ops j≠d:=by
                    intro e2
                    cases hdj:(ops[j]).dst with
                    | none=>exact hnodst j _ htj hdj
                    | some d' =>
                      have:Bh ops j=d':=by simp only [Bh,hoj,Option.bind_some,hdj,Option.getD_some]
                      rw [this] at e2;subst e2
                      rcases Nat.lt_or_gt_of_ne e with h | h
                      . exact hd5 j ops[j] h htj hdj
                      . exact ((C5 hdst j ops[j] htj).2 _ hdj).2.2.2 i o h hti hd
                  have:(a.put (some d) v).tmps.getD (Bh ops j) undef=a.tmps.getD (Bh ops j) undef:=by
                    simp [Act.put,Array.getElem?_setIfInBounds_ne (Ne.symm hdn)]
                  rw [this];exact hold
          have hO:=StepsH.get hsteps i o hti;rw [Nat.zero_add] at hO
          unfold wpOp
          rw [hge,ho]
          show (if Region.wanted o (yielded ops.toArray a.tmps) then _ else _)
          rw [if_pos (by simp [Region.wanted,hd6])]
          by_cases his:i=s
          . subst his
            rw [if_pos (by simp)] at hO;rw [hnl] at hS;refine .inl ((hO a w g O hS hdep).run _ _ fun v w' ⟨g',hv,h2,h3⟩=>rest v w' g' ?_ h2 h3);have:i<listed.size:=by omega
            have e1:(listed.setIfInBounds i true).getD i false=true:=by simp [this]
            rw [e1];exact hv
          . rw [if_neg (by simpa using his)] at hO
            refine .inl ((hO a w (listed.getD s false) g O hS (fun he=>?_) hdep).run _ _ fun v w' ⟨g',hv,h2,h3⟩=>rest v w' g' ?_ h2 h3)
            . cases hb:listed.getD s false with
              | false=>rfl
              | true =>
                exfalso
                unfold Hc at he
                have hos:ops[s]? = some ops[s]:=by simp [hskl]
                rw [hos] at he;simp only [Bz,List.any_eq_true,Bool.and_eq_true] at he;obtain ⟨e,hin,hb2,hj⟩:=he;have hj:=Nat.eq_of_beq_eq_true hj;have:=hcl s _ hos hb e (by simpa using hin) hb2;rw [hj,hnl] at this;cases this
            . rw [getD_set_ne false his];exact hv
  refine head ops.toArray.size (Array.replicate ops.toArray.size false) a _ g (by simp) ?_ (fun j _ hj=>by simp [hj]) (fun j o hj hl e he hbnd=>by have hJ:=(List.getElem?_eq_some_iff.1 hj).1;simp [hJ] at hl) O (by simp [hskl];exact hdr _ _ _ hS) (fun i _ hi hl=>by simp [hi] at hl)
  . have:=List.countP_le_length (l:=List.range ops.length) (p:=fun i=>!(Array.replicate ops.toArray.size false).getD i true)
    simpa using this
end
end Go.Sw
namespace Go.Sw
open Go Go.RowKit Go.Ech
variable {P : Program}
theorem MemX.extY {X Y:List Nat}{w0 w w':World}{L:Own}{D:Al}(h:MemX X w0 w L D)(hx:ExtX Y w w')(hY:∀ y∈Y,w0.heap.size<=y/\(∀ (k:Nat) c ds,L[k]? = some (some (c,ds))->c≠y)/\(∀ c ds,(c,ds)∈D->c≠y)):MemX X w0 w' L D:=by
  have other:∀ {c ds},Blk w c ds->c ∉ Y->Blk w' c ds:=fun {c ds} hc hH=>by
    obtain ⟨t,hc'⟩:=hc;exact ⟨t,(hx.block c (Blk.lt ⟨t,hc'⟩) hH).trans hc'⟩
  refine ⟨⟨hx.os.trans h.bel.os,hx.tape.trans h.bel.tape,hx.output.trans h.bel.output,Nat.le_trans h.bel.size hx.size,fun i hi hix=>?_⟩,fun k c ds hk=>⟨(h.blk k c ds hk).1,other (h.blk k c ds hk).2 (fun hc=>(hY c hc).2.1 k c ds hk rfl)⟩,h.apart,fun c ds hm=>⟨other (h.froz c ds hm).1 (fun hc=>(hY c hc).2.2 c ds hm rfl),(h.froz c ds hm).2⟩⟩;have hH:i ∉ Y:=fun hc=>by have:=(hY i hc).1;omega
  exact (hx.block i (Nat.lt_of_lt_of_le hi h.bel.size) hH).trans (h.bel.block i hi hix)
def TC (n:Nat) (E:Nat->Nat->Nat) (i c:Nat):Nat:=if c<n then E i c else 0
end Go.Sw
namespace Go.Sw
open Go Go.RowKit
variable {P : Program}
theorem Fp {l:List Oper}(h:l.all (fun o=>o.dst.isSome)=true):∀ (j:Nat) (o:Oper),l[j]? = some o->o.dst≠none:=fun j o hj hn=>by
  have:=List.all_eq_true.1 h o (List.mem_of_getElem? hj)
  rw [hn] at this;cases this
theorem Fv {G:Type}{S:Bool->G->World->Prop}{φ:Facts G}{b:Bool}{i:Nat}{g:G}{o:Oper}{a:Act}{w:World}{v:Value}(hS:S b g w)(hφ:φ i g v w)(hg:BN P o a w v):Does P o a w (EI S φ b i g w):=
  hg.mono fun u w' ⟨h1,h2⟩=>by subst h1;subst h2;exact ⟨g,hS,hφ,fun _ _ _ h=>h⟩
end Go.Sw
namespace Go.Sw
open Go Go.RowKit
variable {P : Program}
end Go.Sw
