import Derived.Test.YtdeinnaeicmlfaaGreatSw80
import Derived.Test.YtdeinnaeicmlfaaGreatEch7
import Derived.Test.YtdeinnaeicmlfaaGreatSw38
import Derived.Test.YtdeinnaeicmlfaaGreatSw6
import Derived.Test.YtdeinnaeicmlfaaGreatSw29
import Derived.Test.YtdeinnaeicmlfaaGreatSw14
import Derived.Laws.StructEq
import Derived.Test.YtdeinnaeicmlfaaGreatSw52
import Derived.Test.YtdeinnaeicmlfaaGreatSw33
import Derived.Test.YtdeinnaeicmlfaaGreatSw19
import Derived.Control
set_option linter.unusedVariables false
set_option linter.unusedSimpArgs false
namespace Go.Sw
open Go Go.RowKit Go.Ech
structure TwP (N:Nat) (K:Nat→Int) (tw:Nat→Nat):Prop where
  lt:∀ x,x<N→tw x<N
  ne:∀ x,x<N→tw x≠x
  abs:∀ x,x<N→(K (tw x)).natAbs=(K x).natAbs
  only:∀ x y,x<N→y<N→(K y).natAbs=(K x).natAbs→y=x∨y=tw x
def onP (c:Prop) [Decidable c] (b:Nat):Value:=if c then ptr b 0 else .pointer none
def nxt (x:Nat):Nat:=x / 3*3+(x%3+1)%3
def frT (K:Nat→Int) (tw φ ψ:Nat→Nat) (x:Nat):Nat:=if tw x<x then (if K x=K (tw x) then φ (tw x) else ψ (tw x)) else φ x
def toT (K:Nat→Int) (tw φ ψ:Nat→Nat) (x:Nat):Nat:=if tw x<x then (if K x=K (tw x) then ψ (tw x) else φ (tw x)) else ψ x
def SC (K:Nat→Int) (tw τ σ φ ψ:Nat→Nat) (q u x:Nat):Array Value:=sdC (K x) (ptr (τ (x / 3)) 0) (onP (x<u) (σ (nxt x))) (onP (tw x<q) (σ (tw x))) (ptr (frT K tw φ ψ x) 0) (ptr (toT K tw φ ψ x) 0) 0
def TCv (σ:Nat→Nat) (i:Nat):Array Value:=trC i (fun j=>ptr (σ (i*3+j)) 0)
structure Gr (D:Froz) (lo N:Nat) (K:Nat→Int) (tw:Nat→Nat) (q u t:Nat) (τ σ φ ψ:Nat→Nat):Prop where
  sid:∀ x,x<q→(σ x,SC K tw τ σ φ ψ q u x)∈D
  inj:∀ x y,x<q→y<q→σ x=σ y→x=y
  tri:∀ i,i<t→(τ i,TCv σ i)∈D
  tip:∀ x,x<q→x<tw x→(φ x,#[.pointer none])∈D∧(ψ x,#[.pointer none])∈D
  tin:∀ x y,x<q→y<q→x<tw x→y<tw y→(φ x=φ y→x=y)∧(ψ x=ψ y→x=y)∧φ x≠ψ y
  ge:∀ b cs,(b,cs)∈D→lo≤b
section
variable {D D' : Froz} {lo N : Nat} {K : Nat → Int} {tw : Nat → Nat} {q u t : Nat} {τ σ φ ψ : Nat → Nat}
end
structure MpOk (es:List MapEntry) (K:Nat→Int) (tw σ:Nat→Nat) (q:Nat):Prop where
  keys:IKeys es
  no:∀ k:Nat,(∀ y,y<q→(K y).natAbs≠k)→findI (k:Int) es 0=some none
  yes:∀ y,y<q→y<tw y→∃ ix,findI (((K y).natAbs:Nat):Int) es 0=some (some (ix,ptr (σ y) 0))
end Go.Sw
namespace Go.Sw
open Go Go.RowKit Go.Ech
variable {P : Program}
section
variable {ops : Array Oper} {Q : Exit → Act → World → Prop} {rest : List Oper} {n : Nat} {F : List (Nat × Value)} {a : Act} {X : List Nat} {w w0 : World} {L : Own} {D : Froz}
variable {d : Option Tmp} {t : TypeId} {pos : String} {af : Array Edge} {gd : Option (Nat × Bool)} {T : TypeId} {x y : Operand}
theorem d_storeDM {b o:Nat}{cs:Array Value}{v:Value}(hM:MemX X w0 w L D)(hk0:(b,cs)∈D)(ho':w0.heap.size≤b∨b∈X)(hT:oneP P T=true)(hF:Fr n a F)(hx:look F x=some (ptr b o))(hy:look F y=some v)
    (h1:v.oneCell'=true) (ho:o<cs.size) :
    Does P ⟨d,.store T x y,t,pos,af,gd⟩ a w (fun _ w'=>MemX X w0 w' L (updD D b (cs.setIfInBounds o v))∧∀ q es c,IsMap w q es c→IsMap w' q es c):=by
  have hb:=(hM.froz b cs hk0).1;have hs:=(run_isAgg_one hT w).2;obtain ⟨tt,hg⟩:=hb;have hM':=hM.setD hk0 ho' (cs.setIfInBounds o v);have hst:=run_storeCells_at P b o tt [v] 0 cs w hg (by simp;omega) (by simpa using h1);have e:(List.take (o+0) cs.toList++[v]++List.drop (o+0+[v].length) cs.toList).toArray=cs.setIfInBounds o v:=by
    apply Array.toList_inj.1
    simp [List.set_eq_take_append_cons_drop,ho]
  rw [e] at hst;have hcs:v.cells = #[v]:=by cases v<;>first | rfl | (simp [Value.oneCell'] at h1)
  refine ⟨fun K Q hk=>?_⟩;have hrun:(execOp a.eval ⟨d,.store T x y,t,pos,af,gd⟩).run P w = .ok .skip (w.setRow b (cs.setIfInBounds o v)):=by
    simp [execOp,Instr.storeAt,Instr.sureAddr,hF.eval hx,hF.eval hy,storeVar,hs,hcs,hst]
  unfold Oper.wp
  rw [hrun];exact hk _ _ ⟨hM',fun q es c h=>h.setRow (hM.froz b cs hk0).1⟩
end
section
variable {K : Nat → Int} {tw τ σ φ ψ : Nat → Nat} {q u bx b1 b2 bT : Nat} {k : Int}
end
end Go.Sw
namespace Go.Sw
open Go Go.RowKit
def RowX (s0:Nat) (D:Froz) (n br:Nat):Prop:=s0≤br∧∃ csr,(br,csr)∈D∧∀ j,j<n→∃ x:Int,csr[0+j*1]? = some (.int .i64 x)
def TabX (s0:Nat) (D:Froz) (n bt:Nat) (cst:Array Value):Prop:=(bt,cst)∈D∧∀ i,i<n→∃ br cr,cst[0+i*1]? = some (.slice (some ⟨br,0,none⟩) n cr)∧br≠bt∧RowX s0 D n br
theorem RowX.mono {s0 s1:Nat}{D D':Froz}{n br:Nat}(h:RowX s1 D n br)(hs:s0≤s1)(hD:∀ x,x∈D→x∈D'):RowX s0 D' n br:=by
  obtain ⟨h1,csr,h2,h3⟩:=h;exact ⟨by omega,csr,hD _ h2,h3⟩
theorem TabX.mono {s0 s1:Nat}{D D':Froz}{n bt:Nat}{cst:Array Value}(h:TabX s1 D n bt cst)(hs:s0≤s1)(hD:∀ x,x∈D→x∈D'):TabX s0 D' n bt cst:=
  ⟨hD _ h.1,fun i hi=>by obtain ⟨br,cr,h1,h2,h3⟩:=h.2 i hi;exact ⟨br,cr,h1,h2,h3.mono hs hD⟩⟩
theorem RowX.put {s0:Nat}{D:Froz}{n br b0 o:Nat}{cs0:Array Value}{y:Int}(h:RowX s0 D n br)(hm:(b0,cs0)∈D)(hi:∀ j,j<n→∃ x:Int,cs0[0+j*1]? = some (.int .i64 x)):RowX s0 (updD D b0 (cs0.setIfInBounds o (.int .i64 y))) n br:=by
  obtain ⟨h1,csr,h2,h3⟩:=h
  by_cases e:br=b0
  · subst e
    refine ⟨h1,_,mem_updD.2 (.inl ⟨rfl,rfl,_,hm⟩),fun j hj=>?_⟩;obtain ⟨x,hx⟩:=hi j hj;have hlt:=(Array.getElem?_eq_some_iff.1 hx).1;rw [Array.getElem?_setIfInBounds]
    by_cases q:o=0+j*1
    · rw [if_pos q,if_pos (by omega)];exact ⟨y,rfl⟩
    · rw [if_neg q];exact ⟨x,hx⟩
  · exact ⟨h1,csr,mem_updD.2 (.inr ⟨e,h2⟩),h3⟩
theorem TabX.put {s0:Nat}{D:Froz}{n bt b0 o:Nat}{cst cs0:Array Value}{y:Int}(h:TabX s0 D n bt cst)(hne:b0≠bt)(hm:(b0,cs0)∈D)(hi:∀ j,j<n→∃ x:Int,cs0[0+j*1]? = some (.int .i64 x)):TabX s0 (updD D b0 (cs0.setIfInBounds o (.int .i64 y))) n bt cst:=
  ⟨mem_updD.2 (.inr ⟨fun e=>hne e.symm,h.1⟩),fun i hi2=>by obtain ⟨br,cr,h1,h2,h3⟩:=h.2 i hi2;exact ⟨br,cr,h1,h2,h3.put hm hi⟩⟩
theorem tabX_of {w w':World}{n:Nat}{F:Nat→Nat→Int}{u:Value}(h:SSOutR w w' n (fun _=>n) F u):∃ (D:Froz) (bt ct:Nat) (cst:Array Value),u = .slice (some ⟨bt,0,none⟩) n ct∧n≤ct∧(∀ x ds,(x,ds)∈D→w.heap.size≤x∧Blk w' x ds)∧TabX w.heap.size D n bt cst:=by
  obtain ⟨D,b,cap,cs,β,κ,C,hD,hS⟩:=h;refine ⟨D,b,cap,cs,hS.sl.val,hS.sl.le,hD,hS.out,fun i hi=>⟨β i,κ i,hS.cell i hi,hS.ne i hi,(hD _ _ (hS.rows.mem i hi)).1,_,hS.rows.mem i hi,fun j hj=>⟨_,hS.num i hi j hj⟩⟩⟩
def TabOk (s0:Nat) (D1:Froz) (q:Int) (tb:Value):Prop:=0<q∧q≤6∧∃ bt ct cst,tb = .slice (some ⟨bt,0,none⟩) q.toNat ct∧q.toNat≤ct∧TabX s0 D1 q.toNat bt cst
theorem MemX.plusD {X:List Nat}{w0 w w':World}{L:Own}{D D1:Froz}(h:MemX X w0 w L D)(hx:Ext w w')(hD:∀ x ds,(x,ds)∈D1→w.heap.size≤x∧Blk w' x ds):MemX X w0 w' L (D1++D):=by
  have h2:=h.ext hx;refine ⟨h2.bel,h2.blk,h2.apart,fun b cs hb=>?_⟩
  rcases List.mem_append.1 hb with hb | hb
  · refine ⟨(hD b cs hb).2,fun k c ds hk e=>?_⟩
    have h3:=(h.blk k c ds hk).2.lt;have h4:=(hD b cs hb).1
    omega
  · exact h2.froz b cs hb
end Go.Sw
namespace Go.Sw
open Go Go.RowKit
variable {P : Program}
def monC (a b:Int):Array Value:=#[.int .i64 a,.int .i64 b]
def fs2Ok (fs:List Field) (t:TypeId):Bool:=match fs with
  | [f, g] => f.name != "_" && g.name != "_" && Nat.beq f.type t && Nat.beq g.type t && Nat.beq f.offset 0 && Nat.beq g.offset 1
  | _=>false
end Go.Sw
namespace Go.Sw
open Go Go.RowKit
variable {P : Program}
def fsGOk (fs:List Field) (t u:TypeId):Bool:=match fs with
  | [f, g] => f.name != "_" && g.name != "_" && Nat.beq f.type t && Nat.beq g.type u && Nat.beq f.offset 0 && Nat.beq g.offset 1
  | _=>false
def grpEq (a c:Int) (M N:Nat→Nat→Nat):Prop:=a=c∧∀ i,i<6→eqV 6 (M i) (N i)
noncomputable instance grpEq_dec (a c:Int) (M N:Nat→Nat→Nat):Decidable (grpEq a c M N):=Classical.propDecidable _
open Classical in
theorem eqAt_grp {d:Nat}{T t u v e:TypeId}{a c:Int}{M N:Nat→Nat→Nat}(hu:P.underlying T=some (.struct (P.fieldsOf T)))(hp:P.stoodInHeld T=false)(hf:fsGOk (P.fieldsOf T).toList t u=true)(hi:intP P t=true)(ho:oneP P t=true)
    (hga:aggP P u=some 36) (hT:arrE P u=some (6,v,6)) (hva:aggP P v=some 6) (hv:arrE P v=some (6,e,1)) (he:intP P e=true) (hoe:oneP P e=true) :
    EqAt P (d+5) T (.agg (grpC a M)) (.agg (grpC c N)) (grpEq a c M N):=by
  intro w;rw [run_equalIn_agg w (d+4) T _ _ hu hp]
  generalize (P.fieldsOf T).toList=fs at hf
  match fs,hf with
  | [f, g], hf =>
    simp only [fsGOk,Bool.and_eq_true,bne_iff_ne,ne_eq,Nat.beq_eq_true_eq] at hf;obtain ⟨⟨⟨⟨⟨h1,h2⟩,h3⟩,h4⟩,h5⟩,h6⟩:=hf;have h3:=Nat.eq_of_beq_eq_true h3;have h4:=Nat.eq_of_beq_eq_true h4;have h5:=Nat.eq_of_beq_eq_true h5;have h6:=Nat.eq_of_beq_eq_true h6;have hq:=(run_isAgg_one ho w);have hg:=(run_isAgg_agg hga w);have e1:(part f.type (grpC a M) f.offset).run P w = .ok (.int .i64 a) w:=by rw [h3,h5];simp [part,hq.1,grpC_n (n:=a) (M:=M) rfl]
    have e2:(part f.type (grpC c N) f.offset).run P w = .ok (.int .i64 c) w:=by rw [h3,h5];simp [part,hq.1,grpC_n (n:=c) (M:=N) rfl]
    have e3:(part g.type (grpC a M) g.offset).run P w = .ok (.agg (planeC M)) w:=by rw [h4,h6];simp [part,hg.1,hg.2,grpC_tab (n:=a) (M:=M) (o:=1) (e:=37) rfl rfl]
    have e4:(part g.type (grpC c N) g.offset).run P w = .ok (.agg (planeC N)) w:=by rw [h4,h6];simp [part,hg.1,hg.2,grpC_tab (n:=c) (M:=N) (o:=1) (e:=37) rfl rfl]
    have k1:=eqAt_int (P:=P) (d:=d+3) (T:=t) (k:=.i64) (A:=a) (B:=c) hi w;have k2:=eqAt_aggs (P:=P) (T:=u) (d:=d+3) (xs:=planeC M) (ys:=planeC N) (q:=fun i=>eqV 6 (M i) (N i)) hT hva (fun i hi=>by
      rw [planeC_row (M:=M) i rfl rfl hi,planeC_row (M:=N) i rfl rfl hi];exact (eqAt_vec (d:=d+1) hv he hoe).congr Iff.rfl)
    have k2:=k2 w;rw [← h3] at k1;rw [← h4] at k2;simp only [Op.eqFields,h1,h2,ne_eq,not_false_eq_true,if_true,Sem.run_bind,e1,e2,Result.andThen_ok,k1]
    by_cases ha:a=c
    · subst ha
      simp only [decide_true,Bool.not_true,Bool.false_eq_true,if_false,Sem.run_bind,e3,e4,Result.andThen_ok,k2]
      by_cases hb:∀ i,i<6→eqV 6 (M i) (N i)
      · rw [decide_eq_true (show grpEq a a M N from ⟨rfl,hb⟩),decide_eq_true hb];simp [Op.eqFields]
      · rw [decide_eq_false (show ¬ grpEq a a M N from fun h=>hb h.2),decide_eq_false hb];simp
    · rw [decide_eq_false (show ¬ grpEq a c M N from fun h=>ha h.1),decide_eq_false ha];simp
end Go.Sw
namespace Go.Sw
open Go Go.RowKit
variable {P : Program}
section
variable {ops : Array Oper} {Q : Exit → Act → World → Prop} {rest : List Oper} {n : Nat} {F : List (Nat × Value)} {a : Act} {X : List Nat} {w w0 : World} {L : Own} {D : Froz}
variable {d : Option Tmp} {t : TypeId} {pos : String} {af : Array Edge} {gd : Option (Nat × Bool)} {T : TypeId} {x y : Operand}
theorem g_sliceLoA {e:TypeId}{b o len cap i s:Nat}{κ:IntKind}{X:Int}(hT:P.underlying T=some (.slice e))(he:sizeP P e=some s)(hF:Fr n a F)(hx:look F x=some (.slice (some ⟨b,o,none⟩) len cap))(hy:look F y=some (.int κ X))(hX:X=(i:Int))(hi:i≤len)(hl:len≤cap) :
    Gives P ⟨d,.slice T x (some y) none none,t,pos,af,gd⟩ a w (.slice (some ⟨b,if i=cap then o else o+i*s,none⟩) (len - i) (cap - i)):=by
  by_cases hc:i<cap
  · rw [if_neg (by omega)];exact g_sliceLo hT he hF hx hy hX hi hl hc
  · subst hX
    obtain rfl:i=cap:=by omega
    obtain rfl:len=i:=by omega
    rw [if_pos rfl];refine gives_of_run ?_;have h1:(0:Int)≤(len:Int)∧(len:Int)≤(len:Int):=by omega
    have h2:=run_sizeOf he w
    simp [execOp,Instr.sliceAt,Instr.slice,run_underlying hT,hF.eval hx,hF.eval hy,Instr.sliceBounds,Instr.sliceBound,asIntOf,h1,h2,Addr.add_lit]
end
end Go.Sw
namespace Go.Sw
open Go Go.RowKit
variable {P : Program} {n : Nat} {F : List (Nat × Value)} {a : Act} {w : World} {d : Option Tmp} {t : TypeId} {pos : String} {af : Array Edge} {gd : Option (Nat × Bool)} {x y : Operand}
theorem g_min {T1 T2:TypeId}{k:IntKind}{A B C:Int}(hF:Fr n a F)(hx:look F x=some (.int k A))(hy:look F y=some (.int k B))(hC:(if B<A then B else A)=C):Gives P ⟨d,.call { callee:=.builtin .min,args:=#[x,y],argTypes:=#[T1,T2] },t,pos,af,gd⟩ a w (.int k C):=
  gives_of_run (by simp [execOp,resolve,invoke,hF.eval hx,hF.eval hy,builtin,Builtin.min_,Builtin.min2,hC])
theorem min_if (A B:Int):(if B<A then B else A)=min A B:=by omega
theorem max_if (A B:Int):(if B > A then B else A)=max A B:=by omega
end Go.Sw
namespace Go.Sw
open Go Go.RowKit
theorem MemX.subD {X:List Nat}{w0 w:World}{L:Own}{D D':Froz}(h:MemX X w0 w L D)(hs:∀ x,x∈D'→x∈D):MemX X w0 w L D':=
  ⟨h.bel,h.blk,h.apart,fun b cs hm=>h.froz b cs (hs _ hm)⟩
def CutQ (R:Act→World→Prop):Exit→Act→World→Prop
  | .normal,a,w=>R a w
  | _,_,_=>False
theorem cutI {R:Act→World→Prop}{a:Act}{w:World}(h:R a w):CutQ R .normal a w:=h
theorem sqC {P:Program}{Q:Exit→Act→World→Prop}{a:Act}{w:World}{x y:Code}(R:Act→World→Prop)(h:x.wp P (CutQ R) a w)(k:∀ a w,R a w→y.wp P Q a w):(x.seq y).wp P Q a w:=
  sq (wp_mono h fun e a w hq=>by
    cases e with
    | normal=>exact k a w hq
    | _=>exact hq.elim)
end Go.Sw
