import Derived.Test.YtnjdpgaofjbndaaSw77
import Derived.Test.YtnjdpgaofjbndaaSw72
import Derived.Test.YtnjdpgaofjbndaaSw66
import Derived.Test.YtnjdpgaofjbndaaSw6
import Derived.Test.YtnjdpgaofjbndaaEch6
import Derived.Test.YtnjdpgaofjbndaaSw14
import Derived.Laws.StructEq
import Derived.Test.YtnjdpgaofjbndaaSw65
set_option linter.unusedVariables false
set_option linter.unusedSimpArgs false
namespace Go.Sw
open Go Go.RowKit Go.Ech
def iKey (k:Int):Value:=.int .i64 k
def findI (k:Int) (es:List MapEntry) (i:Nat):Option (Option (Nat×Value)):=Instr.findNow (.int .i64) (iKey k) es i
def IKeys (es:List MapEntry):Prop:=∀ e,e∈es→∃ k,e.key=iKey k
theorem findI_push {k q:Int}{v:Value}{c:Nat}:∀ {es:List MapEntry} {i:Nat},IKeys es→findI k (es++[{ key:=iKey q,val:=v,born:=c }]) i=match findI k es i with
    | some (some r)=>some (some r)
    | _=>if k=q then some (some (i+es.length,v)) else some none
  | [], i, _ => by
    unfold findI Instr.findNow
    simp only [List.nil_append,Instr.findNow,iKey,Instr.sameNow,if_pos rfl]
    by_cases e:k=q
    · subst e;simp
    · have:(k == q)=false:=by simpa using e
      simp [this,e]
  | e :: es, i, h => by
    obtain ⟨p,hp⟩:=h e (List.mem_cons_self ..)
    have ih:=findI_push (k:=k) (q:=q) (v:=v) (c:=c) (es:=es) (i:=i+1) (fun e he=>h e (List.mem_cons_of_mem _ he))
    unfold findI at *
    simp only [List.cons_append,Instr.findNow,hp,iKey,Instr.sameNow,↓reduceIte]
    by_cases e2:k=p
    · subst e2;simp
    · have:(k == p)=false:=by simpa using e2
      simp only [this]
      simp only [iKey] at ih
      rw [ih]
      simp only [List.length_cons,Nat.add_assoc,Nat.add_comm 1]
theorem IKeys.push {es:List MapEntry}{q:Int}{v:Value}{c:Nat}(h:IKeys es):IKeys (es++[{ key:=iKey q,val:=v,born:=c }]):=fun e he=>by
  rcases List.mem_append.1 he with he | he
  · exact h e he
  · simp only [List.mem_singleton] at he;subst he;exact ⟨q,rfl⟩
section
variable {P : Program} {n : Nat} {F : List (Nat × Value)} {a : Act} {w w0 : World} {d : Option Tmp} {t T kt et : TypeId} {pos : String} {af : Array Edge} {gd : Option (Nat × Bool)} {x y z : Operand} {X : List Nat} {L : Own} {D : Froz}
end
theorem IsMap.keep {w w':World}{Y:List Nat}{b:Nat}{es:Array MapEntry}{c:Nat}(h:IsMap w b es c)(hx:ExtX Y w w')(hy:b ∉ Y):IsMap w' b es c:=by
  have hlt:b<w.heap.size:=(Array.getElem?_eq_some_iff.1 h).1
  unfold IsMap
  rw [hx.block b hlt hy];exact h
end Go.Sw
namespace Go.Sw
open Go Go.RowKit Go.Ech
def sdC (k:Int) (tr nx tw fr to:Value) (ch:Int):Array Value:=#[.int .i64 k,tr,nx,tw,fr,to,.int .i64 ch]
def trC (i:Nat) (f:Nat→Value):Array Value:=fnC 4 (fun c=>if c=0 then .int .i64 (i:Int) else f (c - 1))
theorem trC_congr {i:Nat}{f g:Nat→Value}(h:∀ j,j<3→f j=g j):trC i f=trC i g:=fnC_congr fun c hc=>by
  by_cases e:c=0
  · rw [if_pos e,if_pos e]
  · rw [if_neg e,if_neg e,h _ (by omega)]
end Go.Sw
namespace Go.Sw
open Go Go.RowKit Go.Ech
def factsV (l:List Value):Facts Unit:=fun i _ u _=>u=l.getD i undef
theorem IsMap.drew {w:World}{b:Nat}{es:Array MapEntry}{c:Nat}(h:IsMap w b es c):IsMap w.drew b es c:=h
end Go.Sw
namespace Go.Sw
open Go Go.RowKit Go.Ech
structure TwP (N:Nat) (K:Nat→Int) (tw:Nat→Nat):Prop where
  lt:∀ x,x<N→tw x<N
  ne:∀ x,x<N→tw x≠x
  abs:∀ x,x<N→(K (tw x)).natAbs=(K x).natAbs
  only:∀ x y,x<N→y<N→(K y).natAbs=(K x).natAbs→y=x∨y=tw x
theorem TwP.inv {N:Nat}{K:Nat→Int}{tw:Nat→Nat}(h:TwP N K tw){x:Nat}(hx:x<N):tw (tw x)=x:=by
  rcases h.only (tw x) x (h.lt x hx) hx (h.abs x hx).symm with e | e
  · exact absurd e.symm (h.ne x hx)
  · exact e.symm
def onP (c:Prop) [Decidable c] (b:Nat):Value:=if c then ptr b 0 else .pointer none
def nxt (x:Nat):Nat:=x / 3*3+(x%3+1)%3
def frT (K:Nat→Int) (tw φ ψ:Nat→Nat) (x:Nat):Nat:=if tw x<x then (if K x=K (tw x) then φ (tw x) else ψ (tw x)) else φ x
def toT (K:Nat→Int) (tw φ ψ:Nat→Nat) (x:Nat):Nat:=if tw x<x then (if K x=K (tw x) then ψ (tw x) else φ (tw x)) else ψ x
def SC (K:Nat→Int) (tw τ σ φ ψ:Nat→Nat) (q u x:Nat):Array Value:=sdC (K x) (ptr (τ (x / 3)) 0) (onP (x<u) (σ (nxt x))) (onP (tw x<q) (σ (tw x))) (ptr (frT K tw φ ψ x) 0) (ptr (toT K tw φ ψ x) 0) 0
def TCv (σ:Nat→Nat) (i:Nat):Array Value:=trC i (fun j=>ptr (σ (i*3+j)) 0)
structure Gr (D:Froz) (lo N:Nat) (K:Nat→Int) (tw:Nat→Nat) (q u t:Nat) (τ σ φ ψ:Nat→Nat):Prop where
  sid:∀ x,x<q→(σ x,SC K tw τ σ φ ψ q u x)∈D
  inj:∀ x y,x<q→y<q→σ x=σ y→x=y
  tri:∀ i,i<t→(τ i,TCv σ i)∈D
  tip:∀ x,x<q→x<tw x→(φ x,#[.pointer none])∈D∧(ψ x,#[.pointer none])∈D
  tin:∀ x y,x<q→y<q→x<tw x→y<tw y→(φ x=φ y→x=y)∧(ψ x=ψ y→x=y)∧φ x≠ψ y
  ge:∀ b cs,(b,cs)∈D→lo≤b
theorem SC_congr {K:Nat→Int}{tw τ σ φ ψ τ' σ' φ' ψ':Nat→Nat}{q u q' u' x:Nat}(h1:τ' (x / 3)=τ (x / 3))(h2:x<u'↔x<u)(h3:x<u→σ' (nxt x)=σ (nxt x))(h4:tw x<q'↔tw x<q)(h5:tw x<q→σ' (tw x)=σ (tw x))(h6:frT K tw φ' ψ' x=frT K tw φ ψ x)(h7:toT K tw φ' ψ' x=toT K tw φ ψ x):SC K tw τ' σ' φ' ψ' q' u' x=SC K tw τ σ φ ψ q u x:=by
  unfold SC onP
  rw [h1,h6,h7];have e1:(if x<u' then ptr (σ' (nxt x)) 0 else Value.pointer none)=(if x<u then ptr (σ (nxt x)) 0 else Value.pointer none):=by
    by_cases e:x<u
    · rw [if_pos e,if_pos (h2.2 e),h3 e]
    · rw [if_neg e,if_neg (fun q=>e (h2.1 q))]
  have e2:(if tw x<q' then ptr (σ' (tw x)) 0 else Value.pointer none)=(if tw x<q then ptr (σ (tw x)) 0 else Value.pointer none):=by
    by_cases e:tw x<q
    · rw [if_pos e,if_pos (h4.2 e),h5 e]
    · rw [if_neg e,if_neg (fun q=>e (h4.1 q))]
  rw [e1,e2]
theorem frT_up {K:Nat→Int}{tw φ ψ:Nat→Nat}{q b1 b2 x:Nat}(hx:x<q):frT K tw (up φ q b1) (up ψ q b2) x=frT K tw φ ψ x∧toT K tw (up φ q b1) (up ψ q b2) x=toT K tw φ ψ x:=by
  unfold frT toT
  by_cases e:tw x<x
  · simp only [if_pos e,up_ne (show tw x≠q by omega)];exact ⟨trivial,trivial⟩
  · simp only [if_neg e,up_ne (show x≠q by omega)];exact ⟨trivial,trivial⟩
section
variable {D D' : Froz} {lo N : Nat} {K : Nat → Int} {tw : Nat → Nat} {q u t : Nat} {τ σ φ ψ : Nat → Nat}
theorem nxt_lt {x u:Nat}(h:x<u)(hu:u≤q)(h3:u%3=0∨q%3=0):nxt x<q:=by unfold nxt;omega
theorem Gr.first (h:Gr D lo N K tw q u t τ σ φ ψ)(hT:TwP N K tw)(hq:q<N)(hf:q<tw q)(hu:u≤q)(hu3:u%3=0)(ht:t*3≤q){bx b1 b2:Nat}(hD:∀ x,x∈D→x∈D')
    (hx:(bx,SC K tw τ (up σ q bx) (up φ q b1) (up ψ q b2) (q+1) u q)∈D') (h1:(b1,#[.pointer none])∈D') (h2:(b2,#[.pointer none])∈D') (hbx:∀ y ds,(y,ds)∈D→y≠bx) (hn1:∀ y ds,(y,ds)∈D→y≠b1) (hn2:∀ y ds,(y,ds)∈D→y≠b2) (h12:b1≠b2) (hge:∀ b cs,(b,cs)∈D'→lo≤b) :
    Gr D' lo N K tw (q+1) u t τ (up σ q bx) (up φ q b1) (up ψ q b2):=by
  refine ⟨fun x hx2=>?_,fun x y hx2 hy e=>?_,fun i hi=>?_,fun x hx2 hfx=>?_,fun x y hx2 hy hfx hfy=>?_,hge⟩
  · by_cases e:x=q
    · subst e;rw [up_eq];exact hx
    · rw [up_ne e]
      rw [SC_congr (x:=x) (τ:=τ) (σ:=σ) (φ:=φ) (ψ:=ψ) (q:=q) (u:=u) rfl Iff.rfl (fun hl=>up_ne (by have:=nxt_lt (q:=u) hl (Nat.le_refl _) (.inl hu3);omega)) (by
        constructor
        · intro h3
          rcases Nat.lt_or_ge (tw x) q with h4 | h4
          · exact h4
          · have:tw x=q:=by omega
            have:=hT.inv (x:=x) (by omega)
            rename_i e5;rw [e5] at this;omega
        · intro h3;omega) (fun hl=>up_ne (by omega)) (frT_up (by omega)).1 (frT_up (by omega)).2]
      exact hD _ (h.sid x (by omega))
  · by_cases e1:x=q
    · by_cases e2:y=q
      · omega
      · subst e1;rw [up_eq,up_ne e2] at e;exact absurd e.symm (hbx _ _ (h.sid y (by omega)))
    · by_cases e2:y=q
      · subst e2;rw [up_eq,up_ne e1] at e;exact absurd e (hbx _ _ (h.sid x (by omega)))
      · rw [up_ne e1,up_ne e2] at e;exact h.inj x y (by omega) (by omega) e
  · have:=h.tri i hi
    unfold TCv at *
    rw [trC_congr (g:=fun j=>ptr (σ (i*3+j)) 0) (fun j hj=>by rw [up_ne (by omega)])];exact hD _ this
  · by_cases e:x=q
    · subst e;rw [up_eq,up_eq];exact ⟨h1,h2⟩
    · rw [up_ne e,up_ne e];exact ⟨hD _ (h.tip x (by omega) hfx).1,hD _ (h.tip x (by omega) hfx).2⟩
  · by_cases e1:x=q
    · by_cases e2:y=q
      · subst e1;subst e2;simp only [up_eq];exact ⟨fun _=>trivial,fun _=>trivial,h12⟩
      · subst e1;simp only [up_eq,up_ne e2]
        have hy2:=h.tip y (by omega) hfy;exact ⟨fun e=>absurd e.symm (hn1 _ _ hy2.1),fun e=>absurd e.symm (hn2 _ _ hy2.2),fun e=>hn1 _ _ hy2.2 e.symm⟩
    · by_cases e2:y=q
      · subst e2;simp only [up_eq,up_ne e1]
        have hx3:=h.tip x (by omega) hfx;exact ⟨fun e=>absurd e (hn1 _ _ hx3.1),fun e=>absurd e (hn2 _ _ hx3.2),fun e=>hn2 _ _ hx3.1 e⟩
      · simp only [up_ne e1,up_ne e2];exact h.tin x y (by omega) (by omega) hfx hfy
theorem Gr.ready (h:Gr D lo N K tw q u t τ σ φ ψ){b:Nat}(hb:τ t=b)(hlo:lo≤b):Gr ((b,TCv σ t)::D) lo N K tw q u (t+1) τ σ φ ψ:=by
  refine ⟨fun x hx2=>List.mem_cons_of_mem _ (h.sid x hx2),h.inj,fun i hi=>?_,fun x hx2 hfx=>⟨List.mem_cons_of_mem _ (h.tip x hx2 hfx).1,List.mem_cons_of_mem _ (h.tip x hx2 hfx).2⟩,h.tin,fun c cs hc=>?_⟩
  · by_cases e:i=t
    · rw [e,hb];exact List.mem_cons_self ..
    · exact List.mem_cons_of_mem _ (h.tri i (by omega))
  · rcases List.mem_cons.1 hc with e | hc
    · simp only [Prod.mk.injEq] at e;rw [e.1];exact hlo
    · exact h.ge _ _ hc
theorem Gr.none:Gr [] lo N K tw 0 0 0 τ σ φ ψ:=⟨fun x hx=>absurd hx (by omega),fun x y hx=>absurd hx (by omega),fun i hi=>absurd hi (by omega),fun x hx=>absurd hx (by omega),fun x y hx=>absurd hx (by omega),fun b cs h=>by cases h⟩
end
structure MpOk (es:List MapEntry) (K:Nat→Int) (tw σ:Nat→Nat) (q:Nat):Prop where
  keys:IKeys es
  no:∀ k:Nat,(∀ y,y<q→(K y).natAbs≠k)→findI (k:Int) es 0=some none
  yes:∀ y,y<q→y<tw y→∃ ix,findI (((K y).natAbs:Nat):Int) es 0=some (some (ix,ptr (σ y) 0))
theorem MpOk.none {K:Nat→Int}{tw σ:Nat→Nat}:MpOk [] K tw σ 0:=⟨fun e he=>(by cases he),fun k _=>rfl,fun y hy=>absurd hy (by omega)⟩
theorem MpOk.first {es:List MapEntry}{N:Nat}{K:Nat→Int}{tw σ:Nat→Nat}{q c bx:Nat}(h:MpOk es K tw σ q)(hT:TwP N K tw)(hq:q<N)(hf:q<tw q):MpOk (es++[{ key:=iKey (((K q).natAbs:Nat):Int),val:=ptr bx 0,born:=c }]) K tw (up σ q bx) (q+1):=by
  have hno:∀ y,y<q→(K y).natAbs≠(K q).natAbs:=fun y hy e=>by
    rcases hT.only q y hq (by omega) e with e | e<;>omega
  refine ⟨h.keys.push,fun k hk=>?_,fun y hy hfy=>?_⟩
  · rw [findI_push h.keys,h.no k (fun y hy=>hk y (by omega))]
    exact if_neg (fun e=>hk q (by omega) (by omega))
  · by_cases e:y=q
    · subst e
      rw [findI_push h.keys,h.no _ (fun z hz=>hno z hz),up_eq];exact ⟨_,if_pos rfl⟩
    · obtain ⟨ix,hix⟩:=h.yes y (by omega) hfy
      rw [findI_push h.keys,hix,up_ne e];exact ⟨ix,rfl⟩
end Go.Sw
namespace Go.Sw
open Go Go.RowKit Go.Ech
variable {P : Program}
section
variable {ops : Array Oper} {Q : Exit → Act → World → Prop} {rest : List Oper} {n : Nat} {F : List (Nat × Value)} {a : Act} {X : List Nat} {w w0 : World} {L : Own} {D : Froz}
variable {d : Option Tmp} {t : TypeId} {pos : String} {af : Array Edge} {gd : Option (Nat × Bool)} {T : TypeId} {x y : Operand}
theorem d_storeDM {b o:Nat}{cs:Array Value}{v:Value}(hM:MemX X w0 w L D)(hk0:(b,cs)∈D)(ho':w0.heap.size≤b∨b∈X)(hT:oneP P T=true)(hF:Fr n a F)(hx:look F x=some (ptr b o))(hy:look F y=some v)
    (h1:v.oneCell'=true) (ho:o<cs.size) :
    Does P ⟨d,.store T x y,t,pos,af,gd⟩ a w (fun _ w'=>MemX X w0 w' L (updD D b (cs.setIfInBounds o v))∧∀ q es c,IsMap w q es c→IsMap w' q es c):=by
  have hb:=(hM.froz b cs hk0).1;have hs:=(run_isAgg_one hT w).2;obtain ⟨tt,hg⟩:=hb;have hM':=hM.setD hk0 ho' (cs.setIfInBounds o v);have hst:=run_storeCells_at P b o tt [v] 0 cs w hg (by simp;omega) (by simpa using h1);have e:(List.take (o+0) cs.toList++[v]++List.drop (o+0+[v].length) cs.toList).toArray=cs.setIfInBounds o v:=by
    apply Array.toList_inj.1
    simp [List.set_eq_take_append_cons_drop,ho]
  rw [e] at hst;have hcs:v.cells = #[v]:=by cases v<;>first | rfl | (simp [Value.oneCell'] at h1)
  refine ⟨fun K Q hk=>?_⟩;have hrun:(execOp a.eval ⟨d,.store T x y,t,pos,af,gd⟩).run P w = .ok .skip (w.setRow b (cs.setIfInBounds o v)):=by
    simp [execOp,Instr.storeAt,Instr.sureAddr,hF.eval hx,hF.eval hy,storeVar,hs,hcs,hst]
  unfold Oper.wp
  rw [hrun];exact hk _ _ ⟨hM',fun q es c h=>h.setRow (hM.froz b cs hk0).1⟩
end
section
variable {K : Nat → Int} {tw τ σ φ ψ : Nat → Nat} {q u bx b1 b2 bT : Nat} {k : Int}
end
end Go.Sw
namespace Go.Sw
open Go Go.RowKit
def RowX (s0:Nat) (D:Froz) (n br:Nat):Prop:=s0≤br∧∃ csr,(br,csr)∈D∧∀ j,j<n→∃ x:Int,csr[0+j*1]? = some (.int .i64 x)
def TabX (s0:Nat) (D:Froz) (n bt:Nat) (cst:Array Value):Prop:=(bt,cst)∈D∧∀ i,i<n→∃ br cr,cst[0+i*1]? = some (.slice (some ⟨br,0,none⟩) n cr)∧br≠bt∧RowX s0 D n br
theorem RowX.mono {s0 s1:Nat}{D D':Froz}{n br:Nat}(h:RowX s1 D n br)(hs:s0≤s1)(hD:∀ x,x∈D→x∈D'):RowX s0 D' n br:=by
  obtain ⟨h1,csr,h2,h3⟩:=h;exact ⟨by omega,csr,hD _ h2,h3⟩
theorem TabX.mono {s0 s1:Nat}{D D':Froz}{n bt:Nat}{cst:Array Value}(h:TabX s1 D n bt cst)(hs:s0≤s1)(hD:∀ x,x∈D→x∈D'):TabX s0 D' n bt cst:=
  ⟨hD _ h.1,fun i hi=>by obtain ⟨br,cr,h1,h2,h3⟩:=h.2 i hi;exact ⟨br,cr,h1,h2,h3.mono hs hD⟩⟩
theorem RowX.put {s0:Nat}{D:Froz}{n br b0 o:Nat}{cs0:Array Value}{y:Int}(h:RowX s0 D n br)(hm:(b0,cs0)∈D)(hi:∀ j,j<n→∃ x:Int,cs0[0+j*1]? = some (.int .i64 x)):RowX s0 (updD D b0 (cs0.setIfInBounds o (.int .i64 y))) n br:=by
  obtain ⟨h1,csr,h2,h3⟩:=h
  by_cases e:br=b0
  · subst e
    refine ⟨h1,_,mem_updD.2 (.inl ⟨rfl,rfl,_,hm⟩),fun j hj=>?_⟩;obtain ⟨x,hx⟩:=hi j hj;have hlt:=(Array.getElem?_eq_some_iff.1 hx).1;rw [Array.getElem?_setIfInBounds]
    by_cases q:o=0+j*1
    · rw [if_pos q,if_pos (by omega)];exact ⟨y,rfl⟩
    · rw [if_neg q];exact ⟨x,hx⟩
  · exact ⟨h1,csr,mem_updD.2 (.inr ⟨e,h2⟩),h3⟩
theorem TabX.put {s0:Nat}{D:Froz}{n bt b0 o:Nat}{cst cs0:Array Value}{y:Int}(h:TabX s0 D n bt cst)(hne:b0≠bt)(hm:(b0,cs0)∈D)(hi:∀ j,j<n→∃ x:Int,cs0[0+j*1]? = some (.int .i64 x)):TabX s0 (updD D b0 (cs0.setIfInBounds o (.int .i64 y))) n bt cst:=
  ⟨mem_updD.2 (.inr ⟨fun e=>hne e.symm,h.1⟩),fun i hi2=>by obtain ⟨br,cr,h1,h2,h3⟩:=h.2 i hi2;exact ⟨br,cr,h1,h2,h3.put hm hi⟩⟩
theorem tabX_of {w w':World}{n:Nat}{F:Nat→Nat→Int}{u:Value}(h:SSOutR w w' n (fun _=>n) F u):∃ (D:Froz) (bt ct:Nat) (cst:Array Value),u = .slice (some ⟨bt,0,none⟩) n ct∧n≤ct∧(∀ x ds,(x,ds)∈D→w.heap.size≤x∧Blk w' x ds)∧TabX w.heap.size D n bt cst:=by
  obtain ⟨D,b,cap,cs,β,κ,C,hD,hS⟩:=h;refine ⟨D,b,cap,cs,hS.sl.val,hS.sl.le,hD,hS.out,fun i hi=>⟨β i,κ i,hS.cell i hi,hS.ne i hi,(hD _ _ (hS.rows.mem i hi)).1,_,hS.rows.mem i hi,fun j hj=>⟨_,hS.num i hi j hj⟩⟩⟩
def TabOk (s0:Nat) (D1:Froz) (q:Int) (tb:Value):Prop:=0<q∧q≤6∧∃ bt ct cst,tb = .slice (some ⟨bt,0,none⟩) q.toNat ct∧q.toNat≤ct∧TabX s0 D1 q.toNat bt cst
theorem MemX.plusD {X:List Nat}{w0 w w':World}{L:Own}{D D1:Froz}(h:MemX X w0 w L D)(hx:Ext w w')(hD:∀ x ds,(x,ds)∈D1→w.heap.size≤x∧Blk w' x ds):MemX X w0 w' L (D1++D):=by
  have h2:=h.ext hx;refine ⟨h2.bel,h2.blk,h2.apart,fun b cs hb=>?_⟩
  rcases List.mem_append.1 hb with hb | hb
  · refine ⟨(hD b cs hb).2,fun k c ds hk e=>?_⟩
    have h3:=(h.blk k c ds hk).2.lt;have h4:=(hD b cs hb).1
    omega
  · exact h2.froz b cs hb
end Go.Sw
namespace Go.Sw
open Go Go.RowKit
variable {P : Program}
def monC (a b:Int):Array Value:=#[.int .i64 a,.int .i64 b]
def fs2Ok (fs:List Field) (t:TypeId):Bool:=match fs with
  | [f, g] => f.name != "_" && g.name != "_" && Nat.beq f.type t && Nat.beq g.type t && Nat.beq f.offset 0 && Nat.beq g.offset 1
  | _=>false
end Go.Sw
namespace Go.Sw
open Go Go.RowKit
variable {P : Program}
def fsGOk (fs:List Field) (t u:TypeId):Bool:=match fs with
  | [f, g] => f.name != "_" && g.name != "_" && Nat.beq f.type t && Nat.beq g.type u && Nat.beq f.offset 0 && Nat.beq g.offset 1
  | _=>false
def grpEq (a c:Int) (M N:Nat→Nat→Nat):Prop:=a=c∧∀ i,i<6→eqV 6 (M i) (N i)
noncomputable instance grpEq_dec (a c:Int) (M N:Nat→Nat→Nat):Decidable (grpEq a c M N):=Classical.propDecidable _
open Classical in
theorem eqAt_grp {d:Nat}{T t u v e:TypeId}{a c:Int}{M N:Nat→Nat→Nat}(hu:P.underlying T=some (.struct (P.fieldsOf T)))(hp:P.stoodInHeld T=false)(hf:fsGOk (P.fieldsOf T).toList t u=true)(hi:intP P t=true)(ho:oneP P t=true)
    (hga:aggP P u=some 36) (hT:arrE P u=some (6,v,6)) (hva:aggP P v=some 6) (hv:arrE P v=some (6,e,1)) (he:intP P e=true) (hoe:oneP P e=true) :
    EqAt P (d+5) T (.agg (grpC a M)) (.agg (grpC c N)) (grpEq a c M N):=by
  intro w;rw [run_equalIn_agg w (d+4) T _ _ hu hp]
  generalize (P.fieldsOf T).toList=fs at hf
  match fs,hf with
  | [f, g], hf =>
    simp only [fsGOk,Bool.and_eq_true,bne_iff_ne,ne_eq,Nat.beq_eq_true_eq] at hf;obtain ⟨⟨⟨⟨⟨h1,h2⟩,h3⟩,h4⟩,h5⟩,h6⟩:=hf;have h3:=Nat.eq_of_beq_eq_true h3;have h4:=Nat.eq_of_beq_eq_true h4;have h5:=Nat.eq_of_beq_eq_true h5;have h6:=Nat.eq_of_beq_eq_true h6;have hq:=(run_isAgg_one ho w);have hg:=(run_isAgg_agg hga w);have e1:(part f.type (grpC a M) f.offset).run P w = .ok (.int .i64 a) w:=by rw [h3,h5];simp [part,hq.1,grpC_n (n:=a) (M:=M) rfl]
    have e2:(part f.type (grpC c N) f.offset).run P w = .ok (.int .i64 c) w:=by rw [h3,h5];simp [part,hq.1,grpC_n (n:=c) (M:=N) rfl]
    have e3:(part g.type (grpC a M) g.offset).run P w = .ok (.agg (planeC M)) w:=by rw [h4,h6];simp [part,hg.1,hg.2,grpC_tab (n:=a) (M:=M) (o:=1) (e:=37) rfl rfl]
    have e4:(part g.type (grpC c N) g.offset).run P w = .ok (.agg (planeC N)) w:=by rw [h4,h6];simp [part,hg.1,hg.2,grpC_tab (n:=c) (M:=N) (o:=1) (e:=37) rfl rfl]
    have k1:=eqAt_int (P:=P) (d:=d+3) (T:=t) (k:=.i64) (A:=a) (B:=c) hi w;have k2:=eqAt_aggs (P:=P) (T:=u) (d:=d+3) (xs:=planeC M) (ys:=planeC N) (q:=fun i=>eqV 6 (M i) (N i)) hT hva (fun i hi=>by
      rw [planeC_row (M:=M) i rfl rfl hi,planeC_row (M:=N) i rfl rfl hi];exact (eqAt_vec (d:=d+1) hv he hoe).congr Iff.rfl)
    have k2:=k2 w;rw [← h3] at k1;rw [← h4] at k2;simp only [Op.eqFields,h1,h2,ne_eq,not_false_eq_true,if_true,Sem.run_bind,e1,e2,Result.andThen_ok,k1]
    by_cases ha:a=c
    · subst ha
      simp only [decide_true,Bool.not_true,Bool.false_eq_true,if_false,Sem.run_bind,e3,e4,Result.andThen_ok,k2]
      by_cases hb:∀ i,i<6→eqV 6 (M i) (N i)
      · rw [decide_eq_true (show grpEq a a M N from ⟨rfl,hb⟩),decide_eq_true hb];simp [Op.eqFields]
      · rw [decide_eq_false (show ¬ grpEq a a M N from fun h=>hb h.2),decide_eq_false hb];simp
    · rw [decide_eq_false (show ¬ grpEq a c M N from fun h=>ha h.1),decide_eq_false ha];simp
end Go.Sw
