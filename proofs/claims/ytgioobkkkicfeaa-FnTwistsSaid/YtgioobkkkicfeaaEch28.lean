import Derived.Test.YtgioobkkkicfeaaSw80
import Derived.Laws.StructEq
import Derived.Control
set_option linter.unusedVariables false
set_option linter.unusedSimpArgs false
namespace Go.Sw
open Go Go.RowKit Go.Ech
structure TwP (N:Nat) (K:Nat->Int) (tw:Nat->Nat):Prop where
  lt:∀ x,x<N->tw x<N
  ne:∀ x,x<N->tw x≠x
  abs:∀ x,x<N->(K (tw x)).natAbs=(K x).natAbs
  only:∀ x y,x<N->y<N->(K y).natAbs=(K x).natAbs->y=x\/y=tw x
def SJ (c:Prop) [Decidable c] (b:Nat):Value:=if c then ptr b 0 else .pointer none
def Sp (x:Nat):Nat:=x / 3*3+(x%3+1)%3
def Sr (K:Nat->Int) (tw φ ψ:Nat->Nat) (x:Nat):Nat:=if tw x<x then (if K x=K (tw x) then φ (tw x) else ψ (tw x)) else φ x
def Se (K:Nat->Int) (tw φ ψ:Nat->Nat) (x:Nat):Nat:=if tw x<x then (if K x=K (tw x) then ψ (tw x) else φ (tw x)) else ψ x
def SC (K:Nat->Int) (tw τ σ φ ψ:Nat->Nat) (q u x:Nat):Array Value:=Sh (K x) (ptr (τ (x / 3)) 0) (SJ (x<u) (σ (Sp x))) (SJ (tw x<q) (σ (tw x))) (ptr (Sr K tw φ ψ x) 0) (ptr (Se K tw φ ψ x) 0) 0
def S3 (σ:Nat->Nat) (i:Nat):Array Value:=Sd i (fun j=>ptr (σ (i*3+j)) 0)
structure Gr (D:Al) (lo N:Nat) (K:Nat->Int) (tw:Nat->Nat) (q u t:Nat) (τ σ φ ψ:Nat->Nat):Prop where
  sid:∀ x,x<q->(σ x,SC K tw τ σ φ ψ q u x)∈D
  inj:∀ x y,x<q->y<q->σ x=σ y->x=y
  tri:∀ i,i<t->(τ i,S3 σ i)∈D
  tip:∀ x,x<q->x<tw x->(φ x,#[.pointer none])∈D/\(ψ x,#[.pointer none])∈D
  tin:∀ x y,x<q->y<q->x<tw x->y<tw y->(φ x=φ y->x=y)/\(ψ x=ψ y->x=y)/\φ x≠ψ y
  ge:∀ b cs,(b,cs)∈D->lo<=b
section
variable {D D' : Al} {lo N : Nat} {K : Nat -> Int} {tw : Nat -> Nat} {q u t : Nat} {τ σ φ ψ : Nat -> Nat}
theorem Gr.none:Gr [] lo N K tw 0 0 0 τ σ φ ψ:=⟨fun x hx=>absurd hx (by omega),fun x y hx=>absurd hx (by omega),fun i hi=>absurd hi (by omega),fun x hx=>absurd hx (by omega),fun x y hx=>absurd hx (by omega),fun b cs h=>by cases h⟩
end
structure MpOk (es:List MapEntry) (K:Nat->Int) (tw σ:Nat->Nat) (q:Nat):Prop where
  keys:Rg es
  no:∀ k:Nat,(∀ y,y<q->(K y).natAbs≠k)->QW (k:Int) es 0=some none
  yes:∀ y,y<q->y<tw y->∃ ix,QW (((K y).natAbs:Nat):Int) es 0=some (some (ix,ptr (σ y) 0))
theorem MpOk.none {K:Nat->Int}{tw σ:Nat->Nat}:MpOk [] K tw σ 0:=⟨fun e he=>(by cases he),fun k _=>rfl,fun y hy=>absurd hy (by omega)⟩
variable {P : Program}
section
variable {ops : Array Oper} {Q : Exit -> Act -> World -> Prop} {rest : List Oper} {n : Nat} {F : List (Nat × Value)} {a : Act} {X : List Nat} {w w0 : World} {L : Own} {D : Al}
variable {d : Option Tmp} {t : TypeId} {pos : String} {af : Array Edge} {gd : Option (Nat × Bool)} {T : TypeId} {x y : Operand}
theorem Cj {b o:Nat}{cs:Array Value}{v:Value}(J:MemX X w0 w L D)(hJ:(b,cs)∈D)(ho':w0.heap.size<=b\/b∈X)(hT:ED P T=true)(O:Fr n a F)(hx:look F x=some (ptr b o))(hy:look F y=some v)
    (h1:v.oneCell'=true) (ho:o<cs.size) :
    Does P ⟨d,.store T x y,t,pos,af,gd⟩ a w (fun _ w'=>MemX X w0 w' L (BR D b (cs.setIfInBounds o v))/\∀ q es c,IsMap w q es c->IsMap w' q es c):=by
  have hb:=(J.froz b cs hJ).1;have hs:=(B1 hT w).2;obtain ⟨tt,hg⟩:=hb;have hM':=J.setD hJ ho' (cs.setIfInBounds o v);have hst:=run_storeCells_at P b o tt [v] 0 cs w hg (by simp;omega) (by simpa using h1);have e:(List.take (o+0) cs.toList++[v]++List.drop (o+0+[v].length) cs.toList).toArray=cs.setIfInBounds o v:=by
    apply Array.toList_inj.1
    simp [List.set_eq_take_append_cons_drop,ho]
  rw [e] at hst;have hcs:v.cells = #[v]:=by cases v<;>first | rfl | (simp [Value.oneCell'] at h1)
  refine ⟨fun K Q hk=>?_⟩;have hO:(execOp a.eval ⟨d,.store T x y,t,pos,af,gd⟩).run P w = .ok .skip (w.setRow b (cs.setIfInBounds o v)):=by
    simp [execOp,Instr.storeAt,Instr.sureAddr,O.eval hx,O.eval hy,storeVar,hs,hcs,hst]
  unfold Oper.wp
  rw [hO];exact hk _ _ ⟨hM',fun q es c h=>h.setRow (J.froz b cs hJ).1⟩
end
section
variable {K : Nat -> Int} {tw τ σ φ ψ : Nat -> Nat} {q u bx b1 b2 bT : Nat} {k : Int}
end
end Go.Sw
namespace Go.Sw
open Go Go.RowKit
def RowX (s0:Nat) (D:Al) (n br:Nat):Prop:=s0<=br/\∃ csr,(br,csr)∈D/\∀ j,j<n->∃ x:Int,csr[0+j*1]? = some (.int .i64 x)
def TabX (s0:Nat) (D:Al) (n bt:Nat) (cst:Array Value):Prop:=(bt,cst)∈D/\∀ i,i<n->∃ br cr,cst[0+i*1]? = some (.slice (some ⟨br,0,none⟩) n cr)/\br≠bt/\RowX s0 D n br
theorem RowX.mono {s0 s1:Nat}{D D':Al}{n br:Nat}(h:RowX s1 D n br)(hs:s0<=s1)(hD:∀ x,x∈D->x∈D'):RowX s0 D' n br:=by
  obtain ⟨h1,csr,h2,h3⟩:=h;exact ⟨by omega,csr,hD _ h2,h3⟩
theorem TabX.mono {s0 s1:Nat}{D D':Al}{n bt:Nat}{cst:Array Value}(h:TabX s1 D n bt cst)(hs:s0<=s1)(hD:∀ x,x∈D->x∈D'):TabX s0 D' n bt cst:=
  ⟨hD _ h.1,fun i hi=>by obtain ⟨br,cr,h1,h2,h3⟩:=h.2 i hi;exact ⟨br,cr,h1,h2,h3.mono hs hD⟩⟩
theorem RowX.put {s0:Nat}{D:Al}{n br b0 o:Nat}{cs0:Array Value}{y:Int}(h:RowX s0 D n br)(hm:(b0,cs0)∈D)(hi:∀ j,j<n->∃ x:Int,cs0[0+j*1]? = some (.int .i64 x)):RowX s0 (BR D b0 (cs0.setIfInBounds o (.int .i64 y))) n br:=by
  obtain ⟨h1,csr,h2,h3⟩:=h
  by_cases e:br=b0
  . subst e
    refine ⟨h1,_,mem_updD.2 (.inl ⟨rfl,rfl,_,hm⟩),fun j hj=>?_⟩;obtain ⟨x,hx⟩:=hi j hj;have hlt:=(Array.getElem?_eq_some_iff.1 hx).1;rw [Array.getElem?_setIfInBounds]
    by_cases q:o=0+j*1
    . rw [if_pos q,if_pos (by omega)];exact ⟨y,rfl⟩
    . rw [if_neg q];exact ⟨x,hx⟩
  . exact ⟨h1,csr,mem_updD.2 (.inr ⟨e,h2⟩),h3⟩
theorem TabX.put {s0:Nat}{D:Al}{n bt b0 o:Nat}{cst cs0:Array Value}{y:Int}(h:TabX s0 D n bt cst)(hne:b0≠bt)(hm:(b0,cs0)∈D)(hi:∀ j,j<n->∃ x:Int,cs0[0+j*1]? = some (.int .i64 x)):TabX s0 (BR D b0 (cs0.setIfInBounds o (.int .i64 y))) n bt cst:=
  ⟨mem_updD.2 (.inr ⟨fun e=>hne e.symm,h.1⟩),fun i hi2=>by obtain ⟨br,cr,h1,h2,h3⟩:=h.2 i hi2;exact ⟨br,cr,h1,h2,h3.put hm hi⟩⟩
theorem PY {w w':World}{n:Nat}{F:Nat->Nat->Int}{u:Value}(h:SSOutR w w' n (fun _=>n) F u):∃ (D:Al) (bt ct:Nat) (cst:Array Value),u = .slice (some ⟨bt,0,none⟩) n ct/\n<=ct/\(∀ x ds,(x,ds)∈D->w.heap.size<=x/\Blk w' x ds)/\TabX w.heap.size D n bt cst:=by
  obtain ⟨D,b,cap,cs,β,κ,C,hD,hS⟩:=h;refine ⟨D,b,cap,cs,hS.sl.val,hS.sl.le,hD,hS.out,fun i hi=>⟨β i,κ i,hS.cell i hi,hS.ne i hi,(hD _ _ (hS.rows.mem i hi)).1,_,hS.rows.mem i hi,fun j hj=>⟨_,hS.num i hi j hj⟩⟩⟩
def Rc (s0:Nat) (D1:Al) (q:Int) (tb:Value):Prop:=0<q/\q<=6/\∃ bt ct cst,tb = .slice (some ⟨bt,0,none⟩) q.toNat ct/\q.toNat<=ct/\TabX s0 D1 q.toNat bt cst
theorem MemX.plusD {X:List Nat}{w0 w w':World}{L:Own}{D D1:Al}(h:MemX X w0 w L D)(hx:Ext w w')(hD:∀ x ds,(x,ds)∈D1->w.heap.size<=x/\Blk w' x ds):MemX X w0 w' L (D1++D):=by
  have h2:=h.ext hx;refine ⟨h2.bel,h2.blk,h2.apart,fun b cs hb=>?_⟩
  rcases List.mem_append.1 hb with hb | hb
  . refine ⟨(hD b cs hb).2,fun k c ds hk e=>?_⟩
    have h3:=(h.blk k c ds hk).2.lt;have h4:=(hD b cs hb).1
    omega
  . exact h2.froz b cs hb
variable {P : Program}
def monC (a b:Int):Array Value:=#[.int .i64 a,.int .i64 b]
def SP (fs:List Field) (t:TypeId):Bool:=match fs with
  | [f, g] => f.name != "_" && g.name != "_" && Nat.beq f.type t && Nat.beq g.type t && Nat.beq f.offset 0 && Nat.beq g.offset 1
  | _=>false
end Go.Sw
namespace Go.Sw
open Go Go.RowKit
variable {P : Program}
def Ox (fs:List Field) (t u:TypeId):Bool:=match fs with
  | [f, g] => f.name != "_" && g.name != "_" && Nat.beq f.type t && Nat.beq g.type u && Nat.beq f.offset 0 && Nat.beq g.offset 1
  | _=>false
def Hb (a c:Int) (M N:Nat->Nat->Nat):Prop:=a=c/\∀ i,i<6->LP 6 (M i) (N i)
noncomputable instance grpEq_dec (a c:Int) (M N:Nat->Nat->Nat):Decidable (Hb a c M N):=Classical.propDecidable _
open Classical in
theorem IT {d:Nat}{T t u v e:TypeId}{a c:Int}{M N:Nat->Nat->Nat}(hu:P.underlying T=some (.struct (P.fieldsOf T)))(hp:P.stoodInHeld T=false)(hf:Ox (P.fieldsOf T).toList t u=true)(hi:Im P t=true)(ho:ED P t=true)
    (hga:Ek P u=some 36) (hT:GT P u=some (6,v,6)) (hva:Ek P v=some 6) (hv:GT P v=some (6,e,1)) (he:Im P e=true) (hoe:ED P e=true) :
    EqAt P (d+5) T (.agg (AB a M)) (.agg (AB c N)) (Hb a c M N):=by
  intro w;rw [run_equalIn_agg w (d+4) T _ _ hu hp]
  generalize (P.fieldsOf T).toList=fs at hf
  match fs,hf with
  | [f, g], hf =>
    simp only [Ox,Bool.and_eq_true,bne_iff_ne,ne_eq,Nat.beq_eq_true_eq] at hf;obtain ⟨⟨⟨⟨⟨h1,h2⟩,h3⟩,h4⟩,h5⟩,h6⟩:=hf;have h3:=Nat.eq_of_beq_eq_true h3;have h4:=Nat.eq_of_beq_eq_true h4;have h5:=Nat.eq_of_beq_eq_true h5;have h6:=Nat.eq_of_beq_eq_true h6;have hq:=(B1 ho w);have hg:=(Ci hga w);have e1:(part f.type (AB a M) f.offset).run P w = .ok (.int .i64 a) w:=by rw [h3,h5];simp [part,hq.1,Au (n:=a) (M:=M) rfl]
    have e2:(part f.type (AB c N) f.offset).run P w = .ok (.int .i64 c) w:=by rw [h3,h5];simp [part,hq.1,Au (n:=c) (M:=N) rfl]
    have e3:(part g.type (AB a M) g.offset).run P w = .ok (.agg (Cv M)) w:=by rw [h4,h6];simp [part,hg.1,hg.2,IR (n:=a) (M:=M) (o:=1) (e:=37) rfl rfl]
    have e4:(part g.type (AB c N) g.offset).run P w = .ok (.agg (Cv N)) w:=by rw [h4,h6];simp [part,hg.1,hg.2,IR (n:=c) (M:=N) (o:=1) (e:=37) rfl rfl]
    have k1:=GP (P:=P) (d:=d+3) (T:=t) (k:=.i64) (A:=a) (B:=c) hi w;have k2:=G0 (P:=P) (T:=u) (d:=d+3) (xs:=Cv M) (ys:=Cv N) (q:=fun i=>LP 6 (M i) (N i)) hT hva (fun i hi=>by
      rw [DY (M:=M) i rfl rfl hi,DY (M:=N) i rfl rfl hi];exact (Eh (d:=d+1) hv he hoe).congr Iff.rfl)
    have k2:=k2 w;rw [← h3] at k1;rw [← h4] at k2;simp only [Op.eqFields,h1,h2,ne_eq,not_false_eq_true,if_true,Sem.run_bind,e1,e2,Result.andThen_ok,k1]
    by_cases ha:a=c
    . subst ha
      simp only [decide_true,Bool.not_true,Bool.false_eq_true,if_false,Sem.run_bind,e3,e4,Result.andThen_ok,k2]
      by_cases hb:∀ i,i<6->LP 6 (M i) (N i)
      . rw [decide_eq_true (show Hb a a M N from ⟨rfl,hb⟩),decide_eq_true hb];simp [Op.eqFields]
      . rw [decide_eq_false (show ¬ Hb a a M N from fun h=>hb h.2),decide_eq_false hb];simp
    . rw [decide_eq_false (show ¬ Hb a c M N from fun h=>ha h.1),decide_eq_false ha];simp
end Go.Sw
namespace Go.Sw
open Go Go.RowKit
variable {P : Program}
section
variable {ops : Array Oper} {Q : Exit -> Act -> World -> Prop} {rest : List Oper} {n : Nat} {F : List (Nat × Value)} {a : Act} {X : List Nat} {w w0 : World} {L : Own} {D : Al}
variable {d : Option Tmp} {t : TypeId} {pos : String} {af : Array Edge} {gd : Option (Nat × Bool)} {T : TypeId} {x y : Operand}
theorem Cy {e:TypeId}{b o len cap i s:Nat}{κ:IntKind}{X:Int}(hT:P.underlying T=some (.slice e))(he:DJ P e=some s)(O:Fr n a F)(hx:look F x=some (.slice (some ⟨b,o,none⟩) len cap))(hy:look F y=some (.int κ X))(hX:X=(i:Int))(hi:i<=len)(hl:len<=cap) :
    BN P ⟨d,.slice T x (some y) none none,t,pos,af,gd⟩ a w (.slice (some ⟨b,if i=cap then o else o+i*s,none⟩) (len - i) (cap - i)):=by
  by_cases hc:i<cap
  . rw [if_neg (by omega)];exact Gw hT he O hx hy hX hi hl hc
  . subst hX
    obtain rfl:i=cap:=by omega
    obtain rfl:len=i:=by omega
    rw [if_pos rfl];refine Ab ?_;have h1:(0:Int)<=(len:Int)/\(len:Int)<=(len:Int):=by omega
    have h2:=run_sizeOf he w
    simp [execOp,Instr.sliceAt,Instr.slice,run_underlying hT,O.eval hx,O.eval hy,Instr.sliceBounds,Instr.sliceBound,asIntOf,h1,h2,Addr.add_lit]
end
end Go.Sw
namespace Go.Sw
open Go Go.RowKit
variable {P : Program} {n : Nat} {F : List (Nat × Value)} {a : Act} {w : World} {d : Option Tmp} {t : TypeId} {pos : String} {af : Array Edge} {gd : Option (Nat × Bool)} {x y : Operand}
theorem QT {T1 T2:TypeId}{k:IntKind}{A B C:Int}(O:Fr n a F)(hx:look F x=some (.int k A))(hy:look F y=some (.int k B))(hC:(if B<A then B else A)=C):BN P ⟨d,.call { callee:=.builtin .min,args:=#[x,y],argTypes:=#[T1,T2] },t,pos,af,gd⟩ a w (.int k C):=
  Ab (by simp [execOp,resolve,invoke,O.eval hx,O.eval hy,builtin,Builtin.min_,Builtin.min2,hC])
theorem OY (A B:Int):(if B<A then B else A)=min A B:=by omega
theorem Gq (A B:Int):(if B > A then B else A)=max A B:=by omega
end Go.Sw
namespace Go.Sw
open Go Go.RowKit
theorem MemX.subD {X:List Nat}{w0 w:World}{L:Own}{D D':Al}(h:MemX X w0 w L D)(hs:∀ x,x∈D'->x∈D):MemX X w0 w L D':=
  ⟨h.bel,h.blk,h.apart,fun b cs hm=>h.froz b cs (hs _ hm)⟩
def Rh (R:Act->World->Prop):Exit->Act->World->Prop
  | .normal,a,w=>R a w
  | _,_,_=>False
theorem Cr {R:Act->World->Prop}{a:Act}{w:World}(h:R a w):Rh R .normal a w:=h
theorem No {P:Program}{Q:Exit->Act->World->Prop}{a:Act}{w:World}{x y:Code}(R:Act->World->Prop)(h:x.wp P (Rh R) a w)(k:∀ a w,R a w->y.wp P Q a w):(x.seq y).wp P Q a w:=
  sq (wp_mono h fun e a w hq=>by
    cases e with
    | normal=>exact k a w hq
    | _=>exact hq.elim)
open Go Go.RowKit Go.Ech
def TbX (D:Al) (m n:Nat) (M:Nat->Nat->Nat) (u:Value):Prop:=
  (m=0/\u = .slice Option.none 0 0)\/(0<m/\∃ (b cap:Nat) (cs:Array Value) (β κ:Nat->Nat) (C:Nat->Array Value),u = .slice (some ⟨b,0,Option.none⟩) m cap/\(b,cs)∈D/\(∀ i,i<m->cs[0+i*1]? = some (.slice (some ⟨β i,0,Option.none⟩) n (κ i)))/\RowsD D n m β κ C (fun i c=>.int .i64 (M i c:Int)))
def VsX (D:Al) (m:Nat) (V:Nat->Nat->Nat) (u:Value):Prop:=
  (m=0/\u = .slice Option.none 0 0)\/(0<m/\∃ (b cap:Nat) (cs:Array Value),(b,cs)∈D/\SlAt 6 u (some (b,cs)) m b cap cs (fun q=>.int .u8 (V (q / 6) (q%6):Int)))
theorem TbX.more {D D':Al}{m n:Nat}{M:Nat->Nat->Nat}{u:Value}(h:TbX D m n M u)(hs:∀ x∈D,x∈D'):TbX D' m n M u:=by
  rcases h with h | ⟨h0,b,cap,cs,β,κ,C,h1,h2,h3,h4⟩
  . exact .inl h
  . exact .inr ⟨h0,b,cap,cs,β,κ,C,h1,hs _ h2,h3,h4.more hs⟩
theorem VsX.more {D D':Al}{m:Nat}{V:Nat->Nat->Nat}{u:Value}(h:VsX D m V u)(hs:∀ x∈D,x∈D'):VsX D' m V u:=by
  rcases h with h | ⟨h0,b,cap,cs,h1,h2⟩
  . exact .inl h
  . exact .inr ⟨h0,b,cap,cs,hs _ h1,h2⟩
def NewX (R:Al->Value->Prop) (w w':World) (u:Value):Prop:=∃ D:Al,(∀ x ds,(x,ds)∈D->w.heap.size<=x/\Blk w' x ds)/\R D u
theorem MemX.addX {X:List Nat}{w0 w w':World}{L:Own}{D:Al}{R:Al->Value->Prop}{u:Value}(h:MemX X w0 w L D)(hx:Ext w w')(hr:NewX R w w' u):∃ D':Al,R D' u/\MemX X w0 w' L (D'++D):=by
  obtain ⟨D',h1,h2⟩:=hr;exact ⟨D',h2,h.addD hx h1⟩
theorem OwnSl.newX {w w':World}{m:Nat}{V:Nat->Nat->Nat}{u:Value}(hm:0<m)(h:OwnSl 6 w m (fun q=>.int .u8 (V (q / 6) (q%6):Int)) u w'):NewX (fun D u=>VsX D m V u) w w' u:=by
  obtain ⟨b,cap,cs,h1,h2,h3⟩:=h;refine ⟨[(b,cs)],fun x ds hx=>?_,.inr ⟨hm,b,cap,cs,by simp,h1⟩⟩;simp only [List.mem_cons,Prod.mk.injEq,List.not_mem_nil,or_false] at hx;obtain ⟨rfl,rfl⟩:=hx;exact ⟨h2,h3⟩
def TabD (D:Al) (tb:Value):Prop:=(∃ x c,tb = .slice x 0 c)\/∃ m n o bt ct cst,tb = .slice (some ⟨bt,o,none⟩) m ct/\m<=6/\n<=6/\(bt,cst)∈D/\
  ∀ i,i<m->∃ br cr csr,cst[o+i*1]? = some (.slice (some ⟨br,0,none⟩) n cr)/\(br,csr)∈D/\∀ j,j<n->∃ x:Int,csr[0+j*1]? = some (.int .i64 x)
theorem TabD.more {D D':Al}{tb:Value}(h:TabD D tb)(hs:∀ x,x∈D->x∈D'):TabD D' tb:=by
  rcases h with h | ⟨m,n,o,bt,ct,cst,e,hm,hn,hb,hi⟩
  . exact .inl h
  . exact .inr ⟨m,n,o,bt,ct,cst,e,hm,hn,hs _ hb,fun i h=>by obtain ⟨br,cr,csr,h1,h2,h3⟩:=hi i h;exact ⟨br,cr,csr,h1,hs _ h2,h3⟩⟩
theorem TabD.of {s0 n bt ct:Nat}{D:Al}{cst:Array Value}(h:TabX s0 D n bt cst)(hn:n<=6):TabD D (.slice (some ⟨bt,0,none⟩) n ct):=
  .inr ⟨n,n,0,bt,ct,cst,rfl,hn,hn,h.1,fun i hi=>by obtain ⟨br,cr,h1,-,-,csr,h2,h3⟩:=h.2 i hi;exact ⟨br,cr,csr,h1,h2,h3⟩⟩
theorem TabD.tail {s0 n o bt ct:Nat}{D:Al}{cst:Array Value}(h:TabX s0 D n bt cst)(hn:n<=6)(h0:0<n)(ho:o=1):TabD D (.slice (some ⟨bt,o,none⟩) (n - 1) ct):=
  .inr ⟨n - 1,n,o,bt,ct,cst,rfl,by omega,hn,h.1,fun i hi=>by
    obtain ⟨br,cr,h1,-,-,csr,h2,h3⟩:=h.2 (i+1) (by omega)
    exact ⟨br,cr,csr,by rw [← h1];congr 1;omega,h2,h3⟩⟩
theorem TabD.arg {D:Al}{tb:Value}(h:TabD D tb):∃ (m:Nat) (L:Nat->Nat) (R:Nat->Nat->Int) (xs:Nat->Option Addr) (ca be ob:Nat->Nat),m<=6/\(∀ i,L i<=6)/\∀ w,(∀ x ds,(x,ds)∈D->Blk w x ds)->ArgSS w tb m L R xs ca be ob:=by
  rcases h with ⟨x,c,rfl⟩ | ⟨m,n,o,bt,ct,cst,rfl,hm,hn,hb,hi⟩
  . exact ⟨0,fun _=>0,fun _ _=>0,fun _=>none,fun _=>0,fun _=>0,fun _=>0,by omega,fun _=>Nat.zero_le _,fun w hw=>⟨⟨_,_,rfl⟩,fun h=>absurd h (by omega),fun i hi=>absurd hi (by omega),fun i hi=>absurd hi (by omega)⟩⟩
  . have hex:∀ i,∃ q:Nat×Nat×Array Value,i<m->cst[o+i*1]? = some (.slice (some ⟨q.1,0,none⟩) n q.2.1)/\(q.1,q.2.2)∈D/\∀ j,j<n->∃ x:Int,q.2.2[0+j*1]? = some (.int .i64 x):=fun i=>by
      by_cases h:i<m
      . obtain ⟨br,cr,csr,h1,h2,h3⟩:=hi i h;exact ⟨(br,cr,csr),fun _=>⟨h1,h2,h3⟩⟩
      . exact ⟨(0,0,#[]),fun z=>absurd z h⟩
    obtain ⟨Q,hQ⟩:=Classical.axiomOfChoice hex;have hU:∀ i,∃ R:Nat->Int,i<m->∀ j,j<n->(Q i).2.2[0+j*1]? = some (.int .i64 (R j)):=fun i=>by
      by_cases h:i<m
      . have h3:=(hQ i h).2.2
        have h4:∀ j,∃ x:Int,j<n->(Q i).2.2[0+j*1]? = some (.int .i64 x):=fun j=>by
          by_cases hj:j<n
          . obtain ⟨x,hx⟩:=h3 j hj;exact ⟨x,fun _=>hx⟩
          . exact ⟨0,fun z=>absurd z hj⟩
        obtain ⟨R,hR⟩:=Classical.axiomOfChoice h4;exact ⟨R,fun _=>hR⟩
      . exact ⟨fun _=>0,fun z=>absurd z h⟩
    obtain ⟨R,hR⟩:=Classical.axiomOfChoice hU;exact ⟨m,fun _=>n,R,fun i=>some ⟨(Q i).1,0,none⟩,fun i=>(Q i).2.1,fun i=>(Q i).1,fun _=>0,hm,fun _=>hn,fun w hw=>
      ⟨⟨_,_,rfl⟩,fun _=>⟨bt,o,ct,rfl,fun i h=>Blk.cellAt (hw _ _ hb) (hQ i h).1⟩,fun i h _=>rfl,fun i h j hj=>Blk.cellAt (hw _ _ (hQ i h).2.1) (hR i h j hj)⟩⟩
theorem TabX.filt {s0 n bt:Nat}{D:Al}{cst:Array Value}(h:TabX s0 D n bt cst)(hb:s0<=bt):TabX s0 (D.filter fun x=>decide (s0<=x.1)) n bt cst:=
  ⟨List.mem_filter.2 ⟨h.1,by simpa using hb⟩,fun i hi=>by obtain ⟨br,cr,h1,h2,h3,csr,h4,h5⟩:=h.2 i hi;exact ⟨br,cr,h1,h2,h3,csr,List.mem_filter.2 ⟨h4,by simpa using h3⟩,h5⟩⟩
def TabZ (s0:Nat) (D:Al) (tb:Value):Prop:=TabD D tb/\∀ x ds,(x,ds)∈D->s0<=x
theorem TabZ.of {s0 n bt ct:Nat}{D:Al}{cst:Array Value}(h:TabX s0 D n bt cst)(hb:s0<=bt)(hn:n<=6):TabZ s0 (D.filter fun x=>decide (s0<=x.1)) (.slice (some ⟨bt,0,none⟩) n ct):=
  ⟨TabD.of (h.filt hb) hn,fun x ds hx=>by simpa using (List.mem_filter.1 hx).2⟩
theorem TabZ.tail {s0 n bt ct c:Nat}{D:Al}{cst:Array Value}(h:TabX s0 D n bt cst)(hb:s0<=bt)(hn:n<=6)(hc:n<=ct):TabZ s0 (D.filter fun x=>decide (s0<=x.1)) (.slice (some ⟨bt,if 1=ct then 0 else 0+1*1,none⟩) (n - 1) c):=by
  refine ⟨?_,fun x ds hx=>by simpa using (List.mem_filter.1 hx).2⟩
  by_cases e:n - 1=0
  . rw [e];exact .inl ⟨_,_,rfl⟩
  . exact TabD.tail (h.filt hb) hn (by omega) (by rw [if_neg (by omega)])
theorem TabZ.none {s0 n:Nat}{D:Al}{u:Value}{e:Option (Nat×Array Value)}{f:Nat->Value}(h:Sl 1 u e n f)(hn:n=0):TabZ s0 (D.filter fun x=>decide (s0<=x.1)) u:=by
  refine ⟨?_,fun x ds hx=>by simpa using (List.mem_filter.1 hx).2⟩;subst hn
  rcases h with ⟨h,-,-⟩ | ⟨b,c,cs,h⟩
  . exact .inl ⟨_,_,h⟩
  . exact .inl ⟨_,_,h.val⟩
theorem TabZ.newX {X:List Nat}{w w0 w':World}{L:Own}{D DZ:Al}{u:Value}(h:TabZ w.heap.size DZ u)(J:MemX X w0 w' L D)(hs:∀ x,x∈DZ->x∈D):NewX TabD w w' u:=
  ⟨DZ,fun x ds hx=>⟨h.2 x ds hx,(J.froz x ds (hs _ hx)).1⟩,h.1⟩
def NsX (D:Al) (m:Nat) (f:Nat->Nat) (u:Value):Prop:=
  (m=0/\u = .slice Option.none 0 0)\/(0<m/\∃ (b cap:Nat) (cs:Array Value),(b,cs)∈D/\SlAt 1 u (some (b,cs)) m b cap cs (fun k=>.int .i64 (f k:Int)))
theorem NsX.more {D D':Al}{m:Nat}{f:Nat->Nat}{u:Value}(h:NsX D m f u)(hs:∀ x∈D,x∈D'):NsX D' m f u:=by
  rcases h with h | ⟨h0,b,cap,cs,h1,h2⟩
  . exact .inl h
  . exact .inr ⟨h0,b,cap,cs,hs _ h1,h2⟩
theorem NewX.nilN {f:Nat->Nat}{w w':World}:NewX (fun D u=>NsX D 0 f u) w w' (.slice Option.none 0 0):=⟨[],fun _ _ h=>absurd h (by simp),.inl ⟨rfl,rfl⟩⟩
theorem NewX.nums {w w':World}{m b cap:Nat}{f:Nat->Nat}{cs:Array Value}{u:Value}(hm:0<m)(h1:w.heap.size<=b)(h2:Blk w' b cs)(h3:SlAt 1 u (some (b,cs)) m b cap cs (fun k=>.int .i64 (f k:Int))):NewX (fun D u=>NsX D m f u) w w' u:=by
  refine ⟨[(b,cs)],fun x ds hx=>?_,.inr ⟨hm,b,cap,cs,by simp,h3⟩⟩;simp only [List.mem_cons,Prod.mk.injEq,List.not_mem_nil,or_false] at hx;obtain ⟨rfl,rfl⟩:=hx;exact ⟨h1,h2⟩
def IsX (D:Al) (k:Nat) (F:Nat->Int) (u:Value):Prop:=
  (k=0/\∃ x c,u = .slice x 0 c)\/∃ (b cap:Nat) (cs:Array Value),(b,cs)∈D/\SlAt 1 u (some (b,cs)) k b cap cs (fun i=>.int .i64 (F i))
theorem IsX.arg {D:Al}{k:Nat}{F:Nat->Int}{u:Value}(h:IsX D k F u){w:World}(hw:∀ x ds,(x,ds)∈D->Blk w x ds):ArgSl w u k F:=by
  rcases h with ⟨rfl,h⟩ | ⟨b,cap,cs,h1,h2⟩
  . exact ⟨h,fun h=>absurd h (by omega)⟩
  . exact ⟨⟨_,_,h2.val⟩,fun _=>⟨b,0,cap,h2.val,fun i hi=>Blk.cellAt (hw _ _ h1) (h2.get1 i hi)⟩⟩
theorem OR {w w':World}{L:Own}{D:Al}{u:Value}{e:Option (Nat×Array Value)}{k:Nat}{F:Nat->Int}(q:Nat)(J:MemX [] w w' L D)(hq:L[q]? = some e)(h:Sl 1 u e k (fun i=>.int .i64 (F i))):NewX (fun D u=>IsX D k F u) w w' u:=by
  rcases h with ⟨h,h2,h3⟩ | ⟨b,cap,cs,h⟩
  . exact ⟨[],fun _ _ h=>absurd h (by simp),.inl ⟨by omega,_,_,h⟩⟩
  . obtain rfl:=h.ent
    refine ⟨[(b,cs)],fun x ds hx=>?_,.inr ⟨b,cap,cs,by simp,h⟩⟩;simp only [List.mem_cons,Prod.mk.injEq,List.not_mem_nil,or_false] at hx;obtain ⟨rfl,rfl⟩:=hx;exact ⟨J.ge q hq,J.row q hq⟩
def SsX (D:Al) (m:Nat) (C:Nat->Nat->Int) (u:Value):Prop:=
  (m=0/\u = .slice Option.none 0 0)\/(0<m/\∃ (b cap:Nat) (cs:Array Value) (β κ:Nat->Nat) (B:Nat->Array Value),SSR D u m (fun _=>m) C b cap cs β κ B)
theorem SsX.more {D D':Al}{m:Nat}{C:Nat->Nat->Int}{u:Value}(h:SsX D m C u)(hs:∀ x,x∈D->x∈D'):SsX D' m C u:=by
  rcases h with h | ⟨h0,b,cap,cs,β,κ,B,h1⟩
  . exact .inl h
  . exact .inr ⟨h0,b,cap,cs,β,κ,B,h1.more hs⟩
theorem NewX.nilS {C:Nat->Nat->Int}{w w':World}:NewX (fun D u=>SsX D 0 C u) w w' (.slice Option.none 0 0):=⟨[],fun _ _ h=>absurd h (by simp),.inl ⟨rfl,rfl⟩⟩
theorem SSOutR.newX {w w':World}{m:Nat}{C:Nat->Nat->Int}{u:Value}(hm:0<m)(h:SSOutR w w' m (fun _=>m) C u):NewX (fun D u=>SsX D m C u) w w' u:=by
  obtain ⟨D,b,cap,cs,β,κ,B,hD,hS⟩:=h;exact ⟨D,hD,.inr ⟨hm,b,cap,cs,β,κ,B,hS⟩⟩
theorem SsX.arg {D:Al}{m:Nat}{C:Nat->Nat->Int}{u:Value}(h:SsX D m C u):∃ (xs:Nat->Option Addr) (ca be ob:Nat->Nat),∀ w,(∀ x ds,(x,ds)∈D->Blk w x ds)->ArgSS w u m (fun _=>m) C xs ca be ob:=by
  rcases h with ⟨rfl,rfl⟩ | ⟨h0,b,cap,cs,β,κ,B,h1⟩
  . exact ⟨fun _=>Option.none,fun _=>0,fun _=>0,fun _=>0,fun w hw=>⟨⟨_,_,rfl⟩,fun h=>absurd h (by omega),fun i hi=>absurd hi (by omega),fun i hi=>absurd hi (by omega)⟩⟩
  . exact ⟨fun i=>some ⟨β i,0,Option.none⟩,κ,β,fun _=>0,fun w hw=>⟨⟨_,_,h1.sl.val⟩,fun _=>⟨b,0,cap,h1.sl.val,fun i hi=>Blk.cellAt (hw _ _ h1.out) (h1.cell i hi)⟩,fun _ _ _=>rfl,fun i hi j hj=>Blk.cellAt (hw _ _ (h1.rows.mem i hi)) (h1.num i hi j hj)⟩⟩
end Go.Sw
namespace Go.Ech
open Go.Sw
theorem Su {p N m:Nat}{M:Nat->Nat->Nat}(hp:primeN p)(J:∀ i c,M i c<p)(hm:m<N):∃ x:Nat->Int,(∃ c,c<N/\¬ (p:Int)∣x c)/\Ker p N M m x:=by
  obtain ⟨k,E,ld,h,hk,hK⟩:=EN (N:=N) (m:=m) hp J;have hp2:=hp.two
  by_cases hH:∀ c,c<N->Bx k ld c
  . have:=Mb (k':=N) (ld':=fun i=>i) h.mono (fun i j hij _=>hij) (fun c=>⟨fun ⟨i,hi,e⟩=>⟨c,by rw [← e];exact h.lt i hi,rfl⟩,fun ⟨i,hi,e⟩=>hH c (by dsimp only at e;omega)⟩)
    omega
  . have hx:∃ c,c<N/\¬ Bx k ld c:=by
      apply Classical.byContradiction
      intro hno;exact hH fun c hc=>Classical.byContradiction fun hn=>hno ⟨c,hc,hn⟩
    obtain ⟨c,hc,hn⟩:=hx;refine ⟨free E k ld c,⟨c,hc,?_⟩,(hK _).1 (h.free_ker hc hn)⟩;have e:free E k ld c c=1:=by unfold free;simp
    rw [e];intro hd;have:=Int.le_of_dvd (by omega) hd
    omega
theorem JQ {p a:Nat}{x:Int}(hp:primeN p)(ha:a<p)(h0:a≠0)(h:(p:Int)∣x*(a:Int)):(p:Int)∣x:=by
  obtain ⟨v,hv⟩:=Jt hp ha h0;have h1:(p:Int)∣((a*v:Nat):Int) - 1:=by
    have:=CD (p:Int) ((a*v:Nat):Int);rw [← Int.natCast_emod,hv] at this;have h2:=Int.dvd_neg.2 this
    rwa [show -(((1:Nat):Int) - ((a*v:Nat):Int))=((a*v:Nat):Int) - 1 by omega] at h2
  have h3:x=(x*(a:Int))*(v:Int) - x*(((a*v:Nat):Int) - 1):=by rw [Int.natCast_mul];grind
  rw [h3];exact Int.dvd_sub (Int.dvd_mul_of_dvd_left h) (Int.dvd_mul_of_dvd_right h1)
def Sn (u:Nat->Nat) (W:Nat->Nat->Nat):Nat->Nat->Nat
  | 0=>u
  | k+1=>W k
end Go.Ech
namespace Go.Ech
open Go.Sw
def EqP (p n:Nat) (x y:Nat->Int):Prop:=∀ c,c<n->(p:Int)∣x c - y c
section
variable {p n : Nat} {T : Nat -> Nat -> Nat -> Nat} {x y z x' y' : Nat -> Int}
theorem EqP.refl (x:Nat->Int):EqP p n x x:=fun c _=>by rw [Int.sub_self];exact ⟨0,by simp⟩
theorem EqP.symm (h:EqP p n x y):EqP p n y x:=fun c hc=>by
  have:=Int.dvd_neg.2 (h c hc)
  rwa [Int.neg_sub] at this
theorem EqP.trans (h:EqP p n x y)(k:EqP p n y z):EqP p n x z:=fun c hc=>by
  have:=Int.dvd_add (h c hc) (k c hc)
  rwa [show x c - y c+(y c - z c)=x c - z c by omega] at this
theorem EqP.mul (h:EqP p n x x')(k:EqP p n y y'):EqP p n (Pr n T x y) (Pr n T x' y'):=fun c _=>Ia h k c
theorem EqP.add (h:EqP p n x x')(k:EqP p n y y'):EqP p n (fun c=>x c+y c) (fun c=>x' c+y' c):=fun c hc=>by
  have:=Int.dvd_add (h c hc) (k c hc)
  rwa [show x c - x' c+(y c - y' c)=x c+y c - (x' c+y' c) by omega] at this
def Iv (n:Nat) (T:Nat->Nat->Nat->Nat):Prop:=∀ i,i<n->∀ j,j<n->∀ k,k<n->T i j k=T j i k
end
def eP (n:Nat) (T:Nat->Nat->Nat->Nat) (e v:Nat->Int):Nat->Nat->Int
  | 0=>e
  | k+1=>Pr n T (eP n T e v k) v
def Ss (n:Nat) (T:Nat->Nat->Nat->Nat) (e v:Nat->Int):List Int->Nat->Nat->Int
  | [],_,_=>0
  | a::r,j,c=>a*eP n T e v j c+Ss n T e v r (j+1) c
def Nn:List Int->List Int->List Int
  | [],r=>r
  | q,[]=>q
  | a::q,b::r=>(a+b)::Nn q r
def RH (q:List Int):List Int->List Int
  | []=>[]
  | b::r=>Nn (q.map (b * ·)) (0::RH q r)
def SQ (p:Int) (q r:List Int):Bool:=(Nn q (r.map (-1 * ·))).all fun a=>decide (a%p=0)
section
variable {p n : Nat} {T : Nat -> Nat -> Nat -> Nat} {e v : Nat -> Int}
variable (ha : FV p n T) (hk : Iv n T) (he : EqP p n (Pr n T e e) e)
end
end Go.Ech
namespace Go.Ech
open Go.Sw
def RK (p:Int) (k a:Int) (q:List Int):List Int:=(Nn (0::q.map (k * ·)) (q.map (-(k*a) * ·))).map (· % p)
def iL (p:Int) (c:Int):Nat->List Int
  | 0=>[1]
  | k+1=>RK p 1 c (iL p c k)
def Jv (p:Nat) (x:Int):Nat:=((List.range p).find? (fun (k:Nat)=>decide ((x*(k:Int))%(p:Int)=1))).getD 0
def sL (p c:Nat):Nat->List Int
  | 0=>[1]
  | d+1=>if d=c then sL p c d else RK p (Jv p ((c:Int) - (d:Int))) d (sL p c d)
def TJ (p c:Nat):List Int:=Nn [1] ((iL p c (p - 1)).map (-1 * ·))
def Sk (p:Nat) (q:List Int):List Int:=Nn (q.take p) (0::q.drop p)
section
variable {p n : Nat} {T : Nat -> Nat -> Nat -> Nat} {e v u : Nat -> Int}
variable (ha : FV p n T) (hk : Iv n T) (he : EqP p n (Pr n T e e) e)
include ha hk he in
def vP (n:Nat) (T:Nat->Nat->Nat->Nat) (u v:Nat->Int):Nat->Nat->Int
  | 0=>u
  | k+1=>Pr n T (vP n T u v k) v
include ha hk he in
include ha hk in
end
end Go.Ech
namespace Go.Ech
open Go.Sw
def SS:Nat->Nat->Nat
  | 0,0=>1
  | 0,_+1=>0
  | _+1,0=>1
  | k+1,i+1=>SS k i+SS k (i+1)
section
variable {p n : Nat} {T : Nat -> Nat -> Nat -> Nat} {u : Nat -> Int}
variable (ha : FV p n T) (hk : Iv n T) (hu : ∀ y, EqP p n (Pr n T y u) y)
def eb (c:Nat):Nat->Int:=fun d=>if d=c then 1 else 0
def cutV (v:Nat->Nat) (m:Nat):Nat->Int:=fun d=>if d<m then (v d:Int) else 0
include ha hk hu in
include ha hk hu in
end
end Go.Ech
namespace Go.Ech
open Go.Sw
def fI (n:Nat) (f:Nat->Nat) (x:Nat->Int):Int:=sI (fun c=>(f c:Int)*x c) n
theorem K9 {p a b c:Int}(h:p∣a - b)(k:p∣b - c):p∣a - c:=by
  have:=Int.dvd_add h k
  rwa [show a - b+(b - c)=a - c by omega] at this
theorem QG {p a b:Int}(h:p∣a - b):p∣b - a:=by
  have:=Int.dvd_neg.2 h
  rwa [show -(a - b)=b - a by omega] at this
variable {p n : Nat} {T : Nat -> Nat -> Nat -> Nat} {f : Nat -> Nat}
theorem Rd (a:Nat)(ha:a<n)(y:Nat->Int)(c:Nat):Pr n T (fun c=>(dl a c:Int)) y c=sI (fun b=>y b*(T a b c:Int)) n:=by
  rw [Hu];exact Le ha
end Go.Ech
