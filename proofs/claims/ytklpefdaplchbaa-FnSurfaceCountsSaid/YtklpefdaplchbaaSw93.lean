import Derived.Test.YtklpefdaplchbaaSw88
import Derived.Test.YtklpefdaplchbaaSw85
import Derived.Test.YtklpefdaplchbaaSw81
import Derived.Test.YtklpefdaplchbaaSw6
import Derived.Test.YtklpefdaplchbaaSw63
import Derived.RangeFuncIn
import Derived.RangeFuncSeq
import Derived.TacticsIn
import Derived.OrdersIn
import Derived.LoopNIn
import Derived.RangeFuncRecord
import Derived.RangeFuncLeaves
import Derived.Test.YtklpefdaplchbaaSw9
set_option linter.unusedVariables false
set_option linter.unusedSimpArgs false
namespace Go.Sw
open Go Go.RowKit Go.Ech
def ovr (f:Nat→Int):Nat→Int:=tri3 (-(f 2)) (-(f 1)) (-(f 0))
def orB (R:Nat→Nat→Int) (o:Nat→Bool) (i:Nat):Nat→Int:=if o i=true then ovr (R i) else R i
def NF (m:Nat) (tw:Nat→Nat) (o:Nat→Bool):Prop:=∀ j,j<m→(∀ k,k<j→¬ Cn m tw k j)→o j=false
structure PO (m:Nat) (K:Nat→Int) (tw:Nat→Nat) (gi:Nat) (M:Nat→Option Bool):Prop where
  clo:∀ j,j<m→∀ b,M j=some b→∀ q,q<3→M (nb tw j q)=some (decide (b≠alk K tw (j*3+q)))
  conn:∀ j,M j≠none→∃ k,k<gi∧Cn m tw k j
  told:∀ k,k<gi→M k≠none
  nf:∀ j,j<m→(∀ k,k<j→¬ Cn m tw k j)→∀ b,M j=some b→b=false
  ag:∀ o,VO m K tw o→NF m tw o→AgM m o M
structure LL (D:Froz) (lo m:Nat) (F:Nat→Nat→Int) (b cap:Nat) (cs:Array Value) (β κ:Nat→Nat) (C:Nat→Array Value):Prop where
  sl:SlAt 1 (.slice (some ⟨b,0,none⟩) m cap) (some (b,cs)) m b cap cs (fun i=>.slice (some ⟨β i,0,none⟩) 3 (κ i))
  rows:RowsC D m β C
  row:∀ i,i<m→SlAt 1 (.slice (some ⟨β i,0,none⟩) 3 (κ i)) (some (β i,C i)) 3 (β i) (κ i) (C i) (fun c=>.int .i64 (F i c))
  ge:∀ i,i<m→lo≤β i
namespace LL
variable {D D' : Froz} {lo m b cap : Nat} {F G : Nat → Nat → Int} {cs : Array Value} {β κ : Nat → Nat} {C : Nat → Array Value}
end LL
def OrOut (w w':World) (m:Nat) (R:Nat→Nat→Int) (K:Nat→Int) (tw:Nat→Nat) (bad ok u:Value):Prop:=
  (u=bad∧∀ o,VO m K tw o→NF m tw o→False)∨
  ∃ (o:Nat→Bool) (l:Value),u = .tuple #[l,ok]∧VO m K tw o∧NF m tw o∧(∀ o',VO m K tw o'→NF m tw o'→∀ j,j<m→o' j=o j)∧SSOutR w w' m (fun _=>3) (orB R o) l
def orN (R:Nat→Nat→Int) (M:Nat→Option Bool) (gi i:Nat):Nat→Int:=if i<gi∧M i=some true then ovr (R i) else R i
end Go.Sw
namespace Go.Sw.Rw
open Go Go.RowKit
variable {P : Program}
abbrev FR (l:Nat):Fence:=Fence.wide.inRound l
def noDefer (o:Oper):Bool:=match o.op with
  | .defer _=>false
  | _=>true
def noDefers:List Oper→Bool
  | []=>true
  | o::r=>noDefer o && noDefers r
theorem noDefer_spec {o:Oper}(h:noDefer o=true):∀ c,o.op≠.defer c:=fun c e=>by unfold noDefer at h;rw [e] at h;cases h
section
variable {l m : Nat} {Q : Exit → Act → World → Prop} {a : Act} {w : World} {o : Oper}
theorem calls_in {f:FuncId}{args:Array Value}{R:Ending→World→Prop}(h:Calls P f args w R):CallsIn (FR l) m P f args w R:=(show CallsIn Fence.wide m P f args w R from callsIn_wide.2 h)
theorem op_in {next next':Act→World→Prop}(hd:noDefer o=true)(hn:∀ a w,next a w→next' a w)(h:o.wp P a w next Q):o.wpIn (FR l) m P a w next' Q:=by
  refine ⟨fun _ _=>trivial,?_⟩;have he:(o.semAt (FR l).round a.eval)=execOp a.eval o:=Oper.semAt_eq _ _ _ (noDefer_spec hd);rw [he]
  unfold Oper.wp at h
  generalize (execOp a.eval o).run P w=r at h
  unfold Oper.upon at h
  split at h
  · exact hn _ _ h
  · exact hn _ _ h
  · exact hn _ _ h
  · refine ⟨fun e=>(by cases e),calls_in (h.mono fun e w'' hq=>?_)⟩
    cases e with
    | returned v=>exact hn _ _ hq
    | panicked c=>exact hq
    | outgrown=>exact hq
  · refine ⟨fun e=>(by cases e),fun c cs hr=>?_⟩
    obtain ⟨v,w',h1,h2⟩:=h c cs;exact ⟨v,w',hn _ _ h1,stepsIn_wide.2 h2⟩
  · exact h
  · exact h.elim
theorem list_in {ops:Array Oper}(hQ:∀ a w,¬ Q .outgrown a w):∀ (is:List Oper) (a:Act) (w:World),noDefers is=true→wpList P ops Q is a w→wpListIn (FR l) m P ops Q is a w
  | [],a,w,_,h=>h
  | o :: r, a, w, hb, h => by
    simp only [noDefers,Bool.and_eq_true] at hb
    have ih:=list_in (ops:=ops) hQ r
    unfold wpList at h
    unfold wpListIn
    split
    · rename_i hw
      rw [if_pos hw] at h
      rcases h with h | h
      · exact op_in hb.1 (fun a w q=>ih a w hb.2 q) h
      · obtain ⟨a',w',q⟩:=h.2
        exact (hQ a' w' q).elim
    · rename_i hw
      rw [if_neg hw] at h
      exact ⟨fun _ _=>trivial,ih _ _ hb.2 h⟩
end
section
variable {l m n : Nat} {Q : Exit → Act → World → Prop} {a : Act} {w : World} {F : List (Nat × Value)}
theorem sq {x y:Code}(h:x.wpIn (FR l) m P (Exit.then (fun a w=>y.wpIn (FR l) m P Q a w) Q) a w):(x.seq y).wpIn (FR l) m P Q a w:=wpIn_seq h
theorem wp_skip (h:Q .normal a w):Code.skip.wpIn (FR l) m P Q a w:=wpIn_skip h
theorem wp_ret (h:Q .ret a w):Code.ret.wpIn (FR l) m P Q a w:=wpIn_ret h
theorem wp_block {id:Nat}{c:Code}(h:c.wpIn (FR l) m P (Exit.inBlock id Q) a w):(Code.block id c).wpIn (FR l) m P Q a w:=wpIn_block h
theorem wp_region_lit {id:Nat}{ops:List Oper}(h:wpList P ops.toArray Q ops a w)(hd:noDefers ops=true:=by rfl)(hQ:∀ a w,¬ Q .outgrown a w:=by exact fun _ _ h=>h):(Code.region id ops.toArray false).wpIn (FR l) m P Q a w:=
  wpIn_region_lit (list_in hQ _ _ _ hd h)
theorem c_cond {c:Operand}{x y:Code}{p:Prop}[Decidable p](hF:Fr n a F)(hc:look F c=some (.bool (decide p)))(h1:p→x.wpIn (FR l) m P Q a w)(h2:¬ p→y.wpIn (FR l) m P Q a w):(Code.cond c x y).wpIn (FR l) m P Q a w:=
  wpIn_cond_split (hF.eval hc) (fun h=>h1 (of_decide_eq_true h)) (fun h=>h2 (of_decide_eq_false h))
theorem c_condB {c:Operand}{x y:Code}{b:Bool}(hF:Fr n a F)(hc:look F c=some (.bool b))(h1:b=true→x.wpIn (FR l) m P Q a w)(h2:b=false→y.wpIn (FR l) m P Q a w):(Code.cond c x y).wpIn (FR l) m P Q a w:=
  wpIn_cond_split (hF.eval hc) h1 h2
theorem c_T {c:Operand}{x y:Code}(hF:Fr n a F)(hc:look F c=some (.bool true))(h:x.wpIn (FR l) m P Q a w):(Code.cond c x y).wpIn (FR l) m P Q a w:=c_condB hF hc (fun _=>h) (fun e=>by cases e)
theorem c_Fl {c:Operand}{x y:Code}(hF:Fr n a F)(hc:look F c=some (.bool false))(h:y.wpIn (FR l) m P Q a w):(Code.cond c x y).wpIn (FR l) m P Q a w:=c_condB hF hc (fun e=>by cases e) (fun _=>h)
end
section
variable {ops : List Oper} {Q : Exit → Act → World → Prop} {n : Nat} {F : List (Nat × Value)} {G : Type} {S : G → World → Prop}
end
section
variable {ops : List Oper} {Q : Exit → Act → World → Prop} {n : Nat} {F : List (Nat × Value)} {a : Act} {X : List Nat} {w w0 : World} {L0 : Own} {D : Froz}
end
end Go.Sw.Rw
namespace Go.Sw.Rw
open Go Go.RowKit
variable {P : Program}
def KeepsNC (W W':World):Prop:=∀ (q:Nat) (o:Obj),W.heap[q]? = some o→(∀ cs t,o≠.cells cs t)→W'.heap[q]? = some o
theorem keepsNC_of {X:List Nat}{W W':World}(h:ExtX X W W')(hX:∀ b,b∈X→∃ cs,Blk W b cs):KeepsNC W W':=fun q o hq ho=>by
  have hlt:q<W.heap.size:=(Array.getElem?_eq_some_iff.1 hq).1
  refine (h.block q hlt fun hm=>?_).trans hq
  obtain ⟨cs,t,hb⟩:=hX q hm
  rw [hb] at hq
  exact ho _ _ (Option.some.inj hq).symm
def RoundQ (R Rx:World→Prop):Exit→Act→World→Prop
  | .normal,_,w=>R w
  | .ret,_,w=>Rx w
  | _,_,_=>False
def IterC (P:Program) (gf:Nat) (cap:Array Value) (N:Nat) (arg:Nat→World→World→Array Value→Prop) (K:World→Prop):Prop:=
  ∀ (l:Nat) (J:Nat→World→Prop) (Jx:World→Prop) (W:World),
    (∀ k A B,J k A→Ext A B→J k B)→(∀ k A,J k A→K A)→
    (∀ k A B args,k<N→J k A→Ext A B→arg k A B args→YieldAt Fence.wide 0 P l args B (fun e W'=>(e = .returned (.bool true)∧J (k+1) W')∨(e = .returned (.bool false)∧Jx W')))→
    J 0 W→CallsIn Fence.wide 0 P gf (#[.func (.yield l) #[] #[]]++cap) W (fun e W'=>(∃ v,e = .returned v)∧(J N W'∨Jx W'))
def roundTmps (ps:Array Tmp) (args tmps:Array Value):Array Value:=(ps.zip args).foldl (fun tmps (t,a)=>tmps.setIfInBounds t a) tmps
theorem ext_put {A B:World}{l:Nat}{o:Obj}(h:Ext A B)(hl:l<A.heap.size):Ext (A.putObj l o) (B.putObj l o):=by
  refine ⟨h.os,h.tape,h.output,by simpa using h.size,fun k hk=>?_⟩;have hk':k<A.heap.size:=by simpa using hk
  by_cases e:k=l
  · subst e
    rw [World.putObj_heap_same hk',World.putObj_heap_same (Nat.lt_of_lt_of_le hk' h.size)]
  · rw [World.putObj_heap_other e,World.putObj_heap_other e]
    exact h.block k hk'
end Go.Sw.Rw
namespace Go.Sw.Rw
open Go Go.RowKit
variable {P : Program}
theorem mem_put {X:List Nat}{w0 w:World}{L:Own}{D:Froz}(h:MemX X w0 w L D){l:Nat}{o:Obj}(o':Obj)(hl:w.heap[l]? = some o)(hno:∀ cs t,o≠.cells cs t)(hge:w0.heap.size≤l):MemX X w0 (w.putObj l o') L D:=by
  have hbl:∀ {q:Nat} {cs:Array Value},Blk w q cs→Blk (w.putObj l o') q cs:=fun {q cs} hq=>by
    obtain ⟨t,ht⟩:=hq;refine ⟨t,(World.putObj_heap_other fun e=>?_).trans ht⟩;subst e;rw [hl] at ht;exact hno _ _ (Option.some.inj ht)
  refine ⟨⟨h.bel.os,h.bel.tape,h.bel.output,by simpa using h.bel.size,fun k hk hX=>?_⟩,fun k b cs hk=>⟨(h.blk k b cs hk).1,hbl (h.blk k b cs hk).2⟩,h.apart,fun b cs hm=>⟨hbl (h.froz b cs hm).1,(h.froz b cs hm).2⟩⟩;rw [World.putObj_heap_other (by omega)];exact h.bel.block k hk hX
theorem blk_put {w:World}{l q:Nat}{o:Obj}{cs:Array Value}(o':Obj)(h:Blk w q cs)(hl:w.heap[l]? = some o)(hno:∀ cs t,o≠.cells cs t):Blk (w.putObj l o') q cs:=by
  obtain ⟨t,ht⟩:=h;refine ⟨t,(World.putObj_heap_other fun e=>?_).trans ht⟩;subst e;rw [hl] at ht;exact hno _ _ (Option.some.inj ht)
abbrev mark (D:Nat):Deferred:={ target:=.collected D,args:=#[] }
section
variable {fn : Func} {n : Nat} {F : List (Nat × Value)} {a : Act} {w : World}
theorem calls_frM {f:FuncId}{c:Code}{R:Value→World→Prop}{N:Nat}(vs:List Value)(hf:P.funcs[f]? = some fn)(hb:fn.body=some c)(hN:fn.ntmps=N)(hn:Nat.ble vs.length N=true)
    (h:∀ a,Fr N a (argF vs 0)→c.wp P (bodyPostM Fence.wide 0 P fn (fun e w'=>∃ v,e = .returned v∧Ext w w'∧R v w')) a w):CallsR P f vs.toArray w R:=by
  subst hN;exact callsIn_wide.1 (callsIn_of_wp_marks (n:=0) hf hb trivial (wpIn_wide.2 (h _ (frameA vs rfl hn))))
theorem fin2K {r s:ResultVar}{v u:Value}{R:Ending→World→Prop}{D:Nat}(hr:fn.results = #[r,s])(hd:a.defers=[])(hD:w.heap[D]? = some (.deferred (some [])))(h1:resIs P a (w.putObj D (.deferred none)) r v)(h2:resIs P a (w.putObj D (.deferred none)) s u)(h:R (.returned (.tuple #[v,u])) (w.putObj D (.deferred none))):bodyPostM Fence.wide 0 P fn R .ret (addD [mark D] a) w:=by
  show LeavesInM _ _ _ _ a.tmps _ (a.defers++[mark D]) _ _
  rw [hd];exact ⟨fun q=>(by cases q),.inl ⟨D,_,rfl,run_takeDeferred hD,.tuple #[v,u],by rw [results_eq,hr];simp [resIs_run h1,resIs_run h2],h⟩⟩
end
section
variable {ops : Array Oper} {Q : Exit → Act → World → Prop} {rest : List Oper} {n : Nat} {F : List (Nat × Value)} {a : Act} {w : World} {t : TypeId} {pos : String} {af : Array Edge}
theorem op_inW {o:Oper}{next next':Act→World→Prop}(hn:∀ a w,next a w→next' a w)(h:o.wp P a w next Q):o.wpIn Fence.wide 0 P a w next' Q:=by
  refine ⟨fun _ _=>trivial,?_⟩
  show o.uponIn Fence.wide 0 P a next' Q ((execOp a.eval o).run P w)
  unfold Oper.wp at h
  generalize (execOp a.eval o).run P w=r at h
  unfold Oper.upon at h
  split at h
  · exact hn _ _ h
  · exact hn _ _ h
  · exact hn _ _ h
  · refine ⟨fun e=>(by cases e),callsIn_wide.2 (h.mono fun e w'' hq=>?_)⟩
    cases e with
    | returned v=>exact hn _ _ hq
    | panicked c=>exact hq
    | outgrown=>exact hq
  · refine ⟨fun e=>(by cases e),fun c cs hr=>?_⟩
    obtain ⟨v,w',h1,h2⟩:=h c cs;exact ⟨v,w',hn _ _ h1,stepsIn_wide.2 h2⟩
  · exact h
  · exact h.elim
theorem region_W {id:Nat}{l:List Oper}(h:wpListIn Fence.wide 0 P l.toArray Q l a w):(Code.region id l.toArray false).wp P Q a w:=wpIn_wide.1 (wpIn_region_lit h)
theorem stW {d:Nat}{op:Op}{v:Value}(hF:Fr n a F)(hd:Gives P ⟨some d,op,t,pos,af,none⟩ a w v)(hn:Nat.blt d n=true)
    (h:∀ a',Fr n a' ((d,v)::F)→wpListIn Fence.wide 0 P ops Q rest a' w):wpListIn Fence.wide 0 P ops Q (⟨some d,op,t,pos,af,none⟩::rest) a w:=
  wpListIn_plain rfl fun K hK=>op_inW (fun a w h=>h) (hd.run K Q fun u w' ⟨h1,h2⟩=>by subst h1;subst h2;exact hK _ _ (h _ (hF.put d _ hn)))
theorem stYield {d l:Nat}{x:Operand}{xs:List Operand}{vs:List Value}{ats:Array TypeId}{R:Value→World→Prop}(hF:Fr n a F)(hx:look F x=some (.func (.yield l) #[] #[]))(hxs:looks F xs vs)(hn:Nat.blt d n=true)
    (hY:YieldAt Fence.wide 0 P l vs.toArray w (fun e W'=>∃ v,e = .returned v∧R v W'))
    (h:∀ v w' a',R v w'→Fr n a' ((d,v)::F)→wpListIn Fence.wide 0 P ops Q rest a' w'):wpListIn Fence.wide 0 P ops Q (⟨some d,.call { callee:=.value x,args:=xs.toArray,argTypes:=ats },t,pos,af,none⟩::rest) a w:=
  wpListIn_plain rfl fun K hK=>by
    obtain ⟨fn,tmps,assign,body,hy,hR⟩:=hY
    refine ⟨fun _ _=>trivial,?_⟩
    have e:(xs.toArray.map a.eval)=vs.toArray:=by rw [← hF.evals hxs];simp
    have hrun:(execOp a.eval ⟨some d,.call { callee:=.value x,args:=xs.toArray,argTypes:=ats },t,pos,af,none⟩).run P w = .ok (.round l fn tmps assign body) w:=by
      simp [execOp,resolve,hF.eval hx,Deferred.ofValue,invoke,e,hy]
    rw [show ∀ o,Oper.semAt Fence.wide.round a.eval o=execOp a.eval o from fun o=>rfl,hrun];refine ⟨fun e=>(by cases e),hR.mono fun e w'' ⟨v,he,hv⟩=>?_⟩;subst he;exact hK _ _ (h _ _ _ hv (hF.put d _ hn))
theorem nilW (h:Q .normal a w):wpListIn Fence.wide 0 P ops Q [] a w:=h
end
end Go.Sw.Rw
namespace Go.Sw.Rw
open Go Go.RowKit
variable {P : Program}
theorem callsW_fr {fn:Func}{w:World}{f:FuncId}{c:Code}{R:Ending→World→Prop}{N:Nat}(vs:List Value)(hf:P.funcs[f]? = some fn)(hb:fn.body=some c)(hN:fn.ntmps=N)(hn:Nat.ble vs.length N=true)
    (h:∀ a,Fr N a (argF vs 0)→c.wp P (bodyPost P fn R) a w):CallsIn Fence.wide 0 P f vs.toArray w R:=by
  subst hN;exact callsIn_of_wp hf hb trivial (wpIn_wide.2 (h _ (frameA vs rfl hn)))
def digF (s l k i:Nat):Nat:=k / s ^ (l - 1 - i)%s
def digG (s l k j i:Nat):Nat:=if l≤i+j then digF s l k i else 0
theorem digG_put {s l k j i:Nat}(hj:j<l):(if i=l - 1 - j then k / s ^ j%s else digG s l k j i)=digG s l k (j+1) i:=by
  unfold digG
  by_cases e:i=l - 1 - j
  · rw [if_pos e,if_pos (by omega),e];unfold digF;rw [show l - 1 - (l - 1 - j)=j by omega]
  · rw [if_neg e]
    by_cases h:l≤i+j
    · rw [if_pos h,if_pos (by omega)]
    · rw [if_neg h,if_neg (by omega)]
theorem digF_lt {s l k i:Nat}(h:0<s):digF s l k i<s:=Nat.mod_lt _ h
theorem div_step {k s j:Nat}:k / s ^ j / s=k / s ^ (j+1):=by rw [Nat.div_div_eq_div_mul,Nat.pow_succ]
def ArgCh (s l:Nat) (k:Nat) (A B:World) (args:Array Value):Prop:=∃ bn,args = #[.int .i64 (k:Int),.slice (some ⟨bn,0,none⟩) l l]∧A.heap.size≤bn∧Blk B bn (numC l (digF s l k))
def CapK (bs bl s l:Nat) (W:World):Prop:=Blk W bs #[.int .i64 (s:Int)]∧Blk W bl #[.int .i64 (l:Int)]
theorem argCh_put {s l k:Nat}(A B:World)(args:Array Value)(q:Nat)(o:Loop)(o':Obj)(h:ArgCh s l k A B args)(hB:B.heap[q]? = some (.loop o)):ArgCh s l k (A.putObj q o') (B.putObj q o') args:=by
  obtain ⟨bn,h1,h2,h3⟩:=h;exact ⟨bn,h1,by simpa using h2,blk_put o' h3 hB (fun _ _ e=>by cases e)⟩
end Go.Sw.Rw
