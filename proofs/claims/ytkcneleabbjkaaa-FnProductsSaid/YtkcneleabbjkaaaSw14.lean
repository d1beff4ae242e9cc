import Derived.Test.YtkcneleabbjkaaaSw6
set_option linter.unusedVariables false
set_option linter.unusedSimpArgs false
namespace Go.Sw
open Go Go.RowKit
variable {P : Program}
structure SlAt (size:Nat) (v:Value) (e:Option (Nat×Array Value)) (n b cap:Nat) (cs:Array Value) (f:Nat→Value):Prop where
  val:v = .slice (some ⟨b,0,none⟩) n cap
  ent:e=some (b,cs)
  le:n≤cap
  max:cap≤maxLen
  sz:cs.size=cap*size
  get:∀ i,i<n*size→cs[i]? = some (f i)
def Sl (size:Nat) (v:Value) (e:Option (Nat×Array Value)) (n:Nat) (f:Nat→Value):Prop:=
  (v = .slice none 0 0∧e=none∧n=0)∨∃ b cap cs,SlAt size v e n b cap cs f
theorem Sl.nil (size:Nat)(f:Nat→Value):Sl size (.slice none 0 0) none 0 f:=.inl ⟨rfl,rfl,rfl⟩
theorem Sl.pos {size n:Nat}{v:Value}{e:Option (Nat×Array Value)}{f:Nat→Value}(h:Sl size v e n f)(hn:0<n):∃ b cap cs,v = .slice (some ⟨b,0,none⟩) n cap∧e=some (b,cs)∧SlAt size v e n b cap cs f:=by
  rcases h with ⟨_,_,h0⟩ | ⟨b,cap,cs,h⟩
  · omega
  · exact ⟨b,cap,cs,h.val,h.ent,h⟩
theorem Sl.congr {size n:Nat}{v:Value}{e:Option (Nat×Array Value)}{f g:Nat→Value}(h:Sl size v e n f)(hf:∀ i,i<n*size→f i=g i):Sl size v e n g:=by
  rcases h with h | ⟨b,cap,cs,h⟩
  · exact .inl h
  · exact .inr ⟨b,cap,cs,h.val,h.ent,h.le,h.max,h.sz,fun i hi=>by rw [← hf i hi];exact h.get i hi⟩
def MW (P:Program) (T:TypeId):Option (TypeId×Option Value×Nat×Nat):=
  match P.underlying T with
  | some (.slice e)=>(P.info? e).map fun i=>(e,i.zero,i.size,i.bytes)
  | _=>none
theorem EU (w:World)(o:Obj):Ext w (w.drew.alloc o):=
  Below.alloc (Below.drew (Below.refl w.heap.size w)) (Nat.le_refl _) o
theorem Jb {X:List Nat}{w0 w:World}{L:Own}{D:BI}{T e:TypeId}{z:Value}{size bytes n k m bx ox cx:Nat}{v:Value}{ent:Option (Nat×Array Value)}{f g:Nat→Value}(hT:MW P T=some (e,some z,size,bytes))(hz:z.cells.size=size)(hs0:0<size)
    (hM:MemX X w0 w L D) (hk:L[k]? = some ent) (hv:Sl size v ent n f) (hg:∀ i,i<m*size→w.cell? ⟨bx,ox+i,none⟩=some (g i)) (h1:∀ i,i<m*size→(g i).oneCell'=true)
    (hm:0<m) (h63:n+m≤maxLen) (hb:(n+m)*bytes≤140737488355328) (ty:TypeId) :
    ∃ u w' e',(Builtin.append_ #[T,T] ty #[v,.slice (some ⟨bx,ox,none⟩) m cx]).run P w = .ok u w'∧MemX X w0 w' (L.set k e') D∧Sl size u e' (n+m) (fun i=>if i<n*size then f i else g (i - n*size)):=by
  unfold MW at hT
  cases hu:P.underlying T with
  | none=>simp [hu] at hT
  | some dd =>
    cases dd<;>simp [hu] at hT
    rename_i el
    obtain ⟨inf,hinf,rfl,hz0,hsz,hby⟩:=hT;subst hsz;subst hby
    have hm0:n+m≤9223372036854775807:=by simp only [maxLen] at h63;omega
    have hnl:(((List.range (m*inf.size)).map g)).length=m*inf.size:=by simp
    have hnews:∀ j u,((List.range (m*inf.size)).map g)[j]? = some u→w.cell? ((⟨bx,ox,none⟩:Addr).add j)=some u:=by
      intro j u hj;have hlt:j<m*inf.size:=by have:=(List.getElem?_eq_some_iff.1 hj).1;simpa using this
      rw [Addr.add_lit,hg j hlt]
      simp [hlt] at hj;rw [hj]
    have hone:∀ u∈(List.range (m*inf.size)).map g,u.oneCell'=true:=by
      intro u hu';obtain ⟨i,hi,rfl⟩:=List.mem_map.1 hu';exact h1 i (by simpa using hi)
    rcases hv with ⟨rfl,rfl,rfl⟩ | ⟨b,cap,cs,hat⟩
    · have hr:=run_append_nil (P:=P) w T ty el inf z hu hinf hz0 ⟨bx,ox,none⟩ m cx _ hnl hnews hm (by omega) (by simp only [Nat.zero_add] at hb;omega)
      refine ⟨_,_,_,hr,hM.fill (EU _ _) k (Blk.new w.drew _ _) (Nat.le_refl _),.inr ⟨_,_,_,⟨by rw [Nat.zero_add];rfl,rfl,?_,grownCap_le_maxLen w m 0 el (by omega),?_,?_⟩⟩⟩
      · have:=grownCap_ge w m 0 el;omega
      · have:=grownCap_ge w m 0 el
        simp only [Array.size_append,List.size_toArray,hnl,size_zeroCells,hz,← Nat.add_mul]
        congr 1;omega
      · intro i hi
        rw [Nat.zero_add] at hi;rw [if_neg (by simp),Array.getElem?_append,if_pos (by simpa using hi)]
        simp [hi]
    · obtain ⟨rfl,rfl,hle,hmax,hcsz,hget⟩:=hat
      have hblk:=hM.row k hk
      by_cases hroom:n+m≤cap
      · obtain ⟨tt,hgg⟩:=hblk
        have hf:=run_firstCells_some (P:=P) w inf.size m ⟨bx,ox,none⟩ m cx _ hnl hnews;have hfit:n*inf.size+((List.range (m*inf.size)).map g).length≤cs.size:=by rw [hnl,hcsz,← Nat.add_mul];exact Nat.mul_le_mul_right _ hroom
        have hst:=run_storeCells_at P b (n*inf.size) tt ((List.range (m*inf.size)).map g) 0 cs w hgg (by simpa using hfit) hone;simp only [Nat.add_zero] at hst;have hr:(Builtin.append_ #[T,T] ty #[.slice (some ⟨b,0,none⟩) n cap,.slice (some ⟨bx,ox,none⟩) m cx]).run P w = .ok (.slice (some ⟨b,0,none⟩) (n+m) cap) (w.setRow b (splice cs (n*inf.size) ((List.range (m*inf.size)).map g).toArray)):=by
          simp [Builtin.append_,run_underlying hu,Go.sizeOf,typeInfo,hinf,Builtin.lenOf,hroom,hf,Addr.add_lit,hst,splice]
        refine ⟨_,_,_,hr,hM.setRow k hk _,.inr ⟨_,_,_,⟨rfl,rfl,hroom,hmax,?_,?_⟩⟩⟩
        · rw [Ec _ _ _ (by simpa using hfit),hcsz]
        · intro i hi
          rw [CT _ _ _ _ (by simpa using hfit)];have e1:(n+m)*inf.size=n*inf.size+m*inf.size:=Nat.add_mul ..
          by_cases hlt:i<n*inf.size
          · rw [if_neg (by omega),if_pos hlt];exact hget i hlt
          · rw [if_pos (by simp only [List.size_toArray,List.length_map,List.length_range];omega),if_neg hlt]
            rw [List.getElem?_toArray,List.getElem?_map,List.getElem?_range (by omega)];rfl
      · have holds:∀ j u,((List.range (n*inf.size)).map f)[j]? = some u→w.cell? ((⟨b,0,none⟩:Addr).add j)=some u:=by
          intro j u hj;have hlt:j<n*inf.size:=by have:=(List.getElem?_eq_some_iff.1 hj).1;simpa using this
          rw [Addr.add_lit,Nat.zero_add,hblk.cell,hget j hlt]
          simp [hlt] at hj;rw [hj]
        have hr:=run_append_grow (P:=P) w T ty el inf z hu hinf hz0 ⟨b,0,none⟩ n cap ((List.range (n*inf.size)).map f) (by simp) holds ⟨bx,ox,none⟩ m cx _ hnl hnews (by omega) (by omega) (growslice_fits (by omega) hb);refine ⟨_,_,_,hr,hM.fill (EU _ _) k (Blk.new w.drew _ _) (Nat.le_refl _),.inr ⟨_,_,_,⟨rfl,rfl,grownCap_ge w _ _ _,grownCap_le_maxLen w _ _ _ h63,?_,?_⟩⟩⟩
        · have:=grownCap_ge w (n+m) cap el
          simp only [Array.size_append,List.size_toArray,hnl,size_zeroCells,hz,List.length_map,List.length_range,← Nat.add_mul]
          congr 1;omega
        · intro i hi
          have e1:(n+m)*inf.size=n*inf.size+m*inf.size:=Nat.add_mul ..;rw [Array.getElem?_append,if_pos (by simp only [Array.size_append,List.size_toArray,List.length_map,List.length_range];omega),Array.getElem?_append]
          by_cases hlt:i<n*inf.size
          · rw [if_pos (by simpa using hlt),if_pos hlt];simp [hlt]
          · rw [if_neg (by simpa using hlt),if_neg hlt]
            simp only [List.size_toArray,List.length_map,List.length_range];rw [List.getElem?_toArray,List.getElem?_map,List.getElem?_range (by omega)];rfl
section
variable {ops : Array Oper} {Q : Exit → Act → World → Prop} {rest : List Oper} {n : Nat} {F : List (Nat × Value)} {a : Act} {X : List Nat} {w w0 : World} {L : Own} {D : BI}
variable {d : Option Tmp} {t : TypeId} {pos : String} {af : Array Edge} {gd : Option (Nat × Bool)} {T : TypeId} {x y : Operand}
theorem Br {e:TypeId}{z:Value}{size bytes N k m bx ox cx:Nat}{v:Value}{ent:Option (Nat×Array Value)}{f g:Nat→Value}(hT:MW P T=some (e,some z,size,bytes))(hz:z.cells.size=size)(hs0:0<size)
    (hM:MemX X w0 w L D) (hk:L[k]? = some ent) (hF:Fr n a F) (hx:look F x=some v) (hy:look F y=some (.slice (some ⟨bx,ox,none⟩) m cx)) (hv:Sl size v ent N f) (hg:∀ i,i<m*size→w.cell? ⟨bx,ox+i,none⟩=some (g i)) (h1:∀ i,i<m*size→(g i).oneCell'=true)
    (hm:0<m) (h63:N+m≤maxLen) (hb:(N+m)*bytes≤140737488355328) :
    Does P ⟨d,.call { callee:=.builtin .append,args:=#[x,y],argTypes:=#[T,T] },t,pos,af,gd⟩ a w (fun u w'=>∃ e',MemX X w0 w' (L.set k e') D∧Sl size u e' (N+m) (fun i=>if i<N*size then f i else g (i - N*size))):=
  ⟨fun K Q hK=>by
    obtain ⟨u,w',e',hr,h2,h3⟩:=Jb (P:=P) (T:=T) hT hz hs0 hM hk hv hg h1 hm h63 hb t
    unfold Oper.wp execOp
    simp only [resolve,invoke,builtin,Sem.run_bind,Sem.run_pure,Result.andThen_ok,List.map_toArray,List.map_cons,List.map_nil,hF.eval hx,hF.eval hy]
    rw [hr]
    exact hK u w' ⟨e',h2,h3⟩⟩
theorem As {len:Nat}{parts:Array (Nat×Operand)}{vs:List (Nat×Value)}{cs:Array Value}{e:TypeId}(k:Nat)(hM:MemX X w0 w L D)(_hF:Fr n a F)(hp:parts.toList.map (fun p=>(p.1,a.eval p.2))=vs)
    (hrun:∀ w,(Instr.buildSlice T len vs.toArray).run P w = .ok (.slice (some ⟨w.heap.size,0,none⟩) len len) (w.alloc (.cells cs e))) :
    Does P ⟨d,.buildSlice T len parts,t,pos,af,gd⟩ a w (fun u w'=>∃ b,u = .slice (some ⟨b,0,none⟩) len len∧MemX X w0 w' (L.set k (some (b,cs))) D∧Ext w w'):=
  ⟨fun K Q hk=>by
    have:=hk _ (w.alloc (.cells cs e)) ⟨w.heap.size,rfl,hM.fill (Ext.alloc _ _) k (Blk.new _ _ _) (Nat.le_refl _),Ext.alloc _ _⟩
    unfold Oper.wp execOp
    have e1:(parts.map fun (i,x)=>(i,a.eval x))=vs.toArray:=by rw [← hp];apply Array.toList_inj.1;simp
    simp only [e1,Sem.run_bind,hrun,Result.andThen_ok,Sem.run_pure]
    exact this⟩
theorem HI {y:Option Addr}{len c:Nat}{TT:TypeId}{el:TypeId}(hT:P.underlying TT=some (.slice el))(hF:Fr n a F)(hx:look F x=some (.slice y len c)):BW P ⟨d,.call { callee:=.builtin .len,args:=#[x],argTypes:=#[TT] },t,pos,af,gd⟩ a w (.int .i64 (len:Int)):=
  An (by simp [execOp,resolve,invoke,hF.eval hx,builtin,Builtin.len_,run_underlying hT,goInt])
theorem Mz {TT:TypeId}{el:TypeId}(hT:P.underlying TT=some (.slice el))(hF:Fr n a F)(hx:look F x=some (.slice none 0 0)):BW P ⟨d,.call { callee:=.builtin .len,args:=#[x],argTypes:=#[TT] },t,pos,af,gd⟩ a w (.int .i64 ((0:Nat):Int)):=
  An (by simp [execOp,resolve,invoke,hF.eval hx,builtin,Builtin.len_,run_underlying hT,goInt])
theorem CL {b o len c:Nat}{TT:TypeId}{el:TypeId}(hT:P.underlying TT=some (.slice el))(hF:Fr n a F)(hx:look F x=some (.slice (some ⟨b,o,none⟩) len c)):BW P ⟨d,.call { callee:=.builtin .len,args:=#[x],argTypes:=#[TT] },t,pos,af,gd⟩ a w (.int .i64 (len:Int)):=
  An (by simp [execOp,resolve,invoke,hF.eval hx,builtin,Builtin.len_,run_underlying hT,goInt])
end
theorem MemX.startD (w:World)(n:Nat)(D:BI)(h:∀ b cs,(b,cs)∈D→Blk w b cs):Af w w (List.replicate n none) D:=
  ⟨ExtX.refl _ w,fun k b cs h=>by simp [List.getElem?_replicate] at h,fun k j b cs ds h=>by simp [List.getElem?_replicate] at h,fun b cs hm=>⟨h b cs hm,fun k c ds hk=>by simp [List.getElem?_replicate] at hk⟩⟩
theorem MemX.fz {X:List Nat}{w0 w:World}{L:Own}{D:BI}(h:MemX X w0 w L D)(k:Nat){b:Nat}{cs:Array Value}(hk:D[k]? = some (b,cs)):Blk w b cs:=(h.froz b cs (List.mem_of_getElem? hk)).1
theorem FT {w:World}{b:Nat}{cs:Array Value}(h:Blk w b cs):∀ c ds,(c,ds)∈[(b,cs)]→Blk w c ds:=fun c ds hm=>by simp at hm;obtain ⟨rfl,rfl⟩:=hm;exact h
theorem Lw {w:World}{b b':Nat}{cs cs':Array Value}(h:Blk w b cs)(h':Blk w b' cs'):∀ c ds,(c,ds)∈[(b,cs),(b',cs')]→Blk w c ds:=fun c ds hm=>by
  simp at hm
  rcases hm with ⟨rfl,rfl⟩ | ⟨rfl,rfl⟩
  · exact h
  · exact h'
theorem SlAt.get1 {v:Value}{e:Option (Nat×Array Value)}{n b cap:Nat}{cs:Array Value}{f:Nat→Value}(h:SlAt 1 v e n b cap cs f)(i:Nat)(hi:i<n):cs[0+i*1]? = some (f i):=by
  have:=h.get i (by omega);simpa using this
def OwnSl (size:Nat) (w:World) (n:Nat) (f:Nat→Value) (v:Value) (w':World):Prop:=∃ b cap cs,SlAt size v (some (b,cs)) n b cap cs f∧w.heap.size≤b∧Blk w' b cs
theorem H7 {P:Program}{size N k:Nat}{X:List Nat}{w0 w:World}{L:Own}{D:BI}{o:Oper}{a:Act}{f:Nat→Value}(hM:MemX X w0 w L D)(hc:Does P o a w (fun u w'=>Ext w w'∧OwnSl size w N f u w')) :
    Does P o a w (fun u w'=>∃ b cap cs,SlAt size u (some (b,cs)) N b cap cs f∧MemX X w0 w' (L.set k (some (b,cs))) D∧Ext w w'):=
  hc.mono fun _ _ ⟨hx,b,cap,cs,h1,h2,h3⟩=>⟨b,cap,cs,h1,hM.fill hx k h3 h2,hx⟩
def leadN (f:Nat→Int) (n:Nat):Nat:=((List.range n).find? (fun i=>f i != 0)).getD n
theorem EH {f:Nat→Int}{n k:Nat}(hk:k<n)(h:∀ i,i<k→f i=0)(h1:f k≠0):leadN f n=k:=by
  unfold leadN
  have:(List.range n).find? (fun i=>f i != 0)=some k:=by
    rw [List.find?_eq_some_iff_append];refine ⟨by simpa using h1,List.range k,(List.range (n - k - 1)).map (fun x=>k+1+x),?_,?_⟩
    · have e:List.range n=List.range (k+(n - k)):=by congr 1;omega
      rw [e,List.range_add]
      congr 1
      rw [show n - k=(n - k - 1)+1 by omega,List.range_succ_eq_map]
      simp [Function.comp_def,Nat.add_comm]
      intro a _;omega
    · intro c hc;simpa using h c (by simpa using hc)
  rw [this];rfl
theorem FH {f:Nat→Int}{n:Nat}(h:∀ i,i<n→f i=0):leadN f n=n:=by
  unfold leadN
  have:(List.range n).find? (fun i=>f i != 0)=none:=by
    rw [List.find?_eq_none];intro c hc;simpa using h c (by simpa using hc)
  rw [this];rfl
theorem Sl.empty (size b:Nat)(f:Nat→Value):Sl size (.slice (some ⟨b,0,none⟩) 0 0) (some (b,#[])) 0 f:=
  .inr ⟨b,0,#[],⟨rfl,rfl,Nat.le_refl _,Nat.zero_le _,by simp,fun i hi=>by simp at hi⟩⟩
theorem Sl.snoc {u:Value}{e:Option (Nat×Array Value)}{n:Nat}{f:Nat→Value}{x:Value}(h:Sl 1 u e (n+1) (fun i=>if i<n*1 then f i else (fun _=>x) (i - n*1)))(hx:x=f n):Sl 1 u e (n+1) f:=
  h.congr fun i hi=>by
    by_cases hlt:i<n
    · rw [if_pos (by omega)]
    · rw [if_neg (by omega),hx,show i=n by omega]
theorem OwnSl.pos {size n k:Nat}{w w':World}{L:Own}{D:BI}{v:Value}{e:Option (Nat×Array Value)}{f:Nat→Value}(hM:Af w w' L D)(hk:L[k]? = some e)(h:Sl size v e n f)(hn:0<n):OwnSl size w n f v w':=by
  obtain ⟨b,cap,cs,_,rfl,h⟩:=h.pos hn;exact ⟨b,cap,cs,h,hM.ge k hk,hM.row k hk⟩
theorem Bb {n:Nat}{a:Act}{F:List (Nat×Value)}{x:Operand}{v:Value}(hF:Fr n a F)(hx:look F x=some v):(#[(0,x)]:Array (Nat×Operand)).toList.map (fun p=>(p.1,a.eval p.2))=[(0,v)]:=by simp [hF.eval hx]
end Go.Sw
namespace Go.Sw
open Go Go.RowKit
variable {P : Program}
def CallsX (P:Program) (X:List Nat) (f:FuncId) (args:Array Value) (w:World) (R:Value→World→Prop):Prop:=
  Calls P f args w fun e w'=>∃ v,e = .returned v∧ExtX X w w'∧R v w'
theorem Bs {X:List Nat}{fn:Func}{w:World}{f:FuncId}{c:Code}{R:Value→World→Prop}{N:Nat}(vs:List Value)(hf:P.funcs[f]? = some fn)(hb:fn.body=some c)(hN:fn.ntmps=N)(hn:Nat.ble vs.length N=true)
    (h:∀ a,Fr N a (Kt vs 0)→c.wp P (bodyPost P fn (fun e w'=>∃ v,e = .returned v∧ExtX X w w'∧R v w')) a w):CallsX P X f vs.toArray w R:=by
  subst hN;exact calls_of_wp hf hb (h _ (LO vs rfl hn))
theorem MemX.startX1 {w:World}{b:Nat}{cs:Array Value}(n:Nat)(h:Blk w b cs):MemX [b] w w (some (b,cs)::List.replicate n none) []:=by
  have key:∀ (k:Nat) c ds,(some (b,cs)::List.replicate n none:Own)[k]? = some (some (c,ds))→k=0∧c=b∧ds=cs:=by
    intro k c ds hk
    cases k with
    | zero=>simp at hk;exact ⟨rfl,hk.1.symm,hk.2.symm⟩
    | succ k=>simp [List.getElem?_replicate] at hk
  refine ⟨ExtX.refl _ w,fun k c ds hk=>?_,fun k j c ds es hk hj=>?_,fun c ds hm=>by cases hm⟩
  · obtain ⟨_,rfl,rfl⟩:=key k c ds hk;exact ⟨.inr (List.mem_cons_self ..),h⟩
  · rw [(key k c ds hk).1,(key j c es hj).1]
theorem MemX.upd {X:List Nat}{w0 w w':World}{L:Own}{D:BI}(h:MemX X w0 w L D)(k:Nat){b:Nat}{cs cs':Array Value}(hk:L[k]? = some (some (b,cs)))(hx:ExtX [b] w w')(hb:Blk w' b cs'):MemX X w0 w' (L.set k (some (b,cs'))) D:=by
  have hkl:k<L.length:=(List.getElem?_eq_some_iff.1 hk).1;have hbb:=h.blk k b cs hk;have other:∀ {c ds},Blk w c ds→c≠b→Blk w' c ds:=fun {c ds} hc hne=>by
    obtain ⟨t,hc'⟩:=hc;exact ⟨t,(hx.block c (Blk.lt ⟨t,hc'⟩) (by simpa using hne)).trans hc'⟩
  refine ⟨⟨hx.os.trans h.bel.os,hx.tape.trans h.bel.tape,hx.output.trans h.bel.output,Nat.le_trans h.bel.size hx.size,fun i hi hix=>?_⟩,fun j c ds hj=>?_,fun i j c es ds hi hj=>?_,fun c ds hm=>⟨?_,fun j e es hj=>?_⟩⟩
  · have hne:i≠b:=by
      rintro rfl
      rcases hbb.1 with e | e
      · omega
      · exact hix e
    exact (hx.block i (Nat.lt_of_lt_of_le hi h.bel.size) (by simpa using hne)).trans (h.bel.block i hi hix)
  · rw [List.getElem?_set] at hj
    by_cases e:k=j
    · subst e
      simp [hkl] at hj
      obtain ⟨rfl,rfl⟩:=hj;exact ⟨hbb.1,hb⟩
    · rw [if_neg e] at hj
      have hc:=h.blk j c ds hj;exact ⟨hc.1,other hc.2 (fun ecb=>by subst ecb;exact e (h.apart k j c _ _ hk hj))⟩
  · rw [List.getElem?_set] at hi hj
    by_cases e1:k=i
    · subst e1
      simp [hkl] at hi
      obtain ⟨rfl,rfl⟩:=hi
      by_cases e2:k=j
      · exact e2
      · rw [if_neg e2] at hj;exact h.apart k j _ _ _ hk hj
    · rw [if_neg e1] at hi
      by_cases e2:k=j
      · subst e2
        simp [hkl] at hj
        obtain ⟨rfl,rfl⟩:=hj;exact h.apart i k _ _ _ hi hk
      · rw [if_neg e2] at hj;exact h.apart i j _ _ _ hi hj
  · exact other (h.froz c ds hm).1 (fun e=>(h.froz c ds hm).2 k b cs hk e.symm)
  · rw [List.getElem?_set] at hj
    by_cases e1:k=j
    · subst e1
      simp [hkl] at hj
      obtain ⟨rfl,rfl⟩:=hj;exact (h.froz c ds hm).2 k _ _ hk
    · rw [if_neg e1] at hj;exact (h.froz c ds hm).2 j e es hj
section
variable {n : Nat} {F : List (Nat × Value)} {a : Act} {w : World} {d : Option Tmp} {t : TypeId} {pos : String} {af : Array Edge} {gd : Option (Nat × Bool)} {T T' : TypeId} {x y : Operand}
theorem A1 {X:List Nat}{f:FuncId}{xs:List Operand}{vs:List Value}{ats:Array TypeId}{R:Value→World→Prop}(hf:∀ args w,(callFunc f args).run P w = .ok (.enter f args) w)(hF:Fr n a F)(hx:looks F xs vs)(hc:CallsX P X f vs.toArray w R) :
    Does P ⟨d,.call { callee:=.value (.func f),args:=xs.toArray,argTypes:=ats },t,pos,af,gd⟩ a w (fun u w'=>ExtX X w w'∧R u w'):=
  ⟨fun K Q hk=>by
    have hrun:(execOp a.eval ⟨d,.call { callee:=.value (.func f),args:=xs.toArray,argTypes:=ats },t,pos,af,gd⟩).run P w = .ok (.enter f vs.toArray) w:=by
      have e:(xs.toArray.map a.eval)=vs.toArray:=by rw [← hF.evals hx];simp
      simp [execOp,resolve,Act.eval,Deferred.ofValue,invoke,e,hf]
    unfold Oper.wp
    rw [hrun]
    show Calls P f vs.toArray w _
    exact hc.mono fun e w' ⟨v,he,h1,h2⟩=>by subst he;exact hk v w' ⟨h1,h2⟩⟩
theorem JH (op:BinOp)(T:TypeId)(x y:Operand)(s u:ByteArray)(w:World):(eqGuard op T x y (.string s) (.string u)).run P w = .ok () w:=by
  unfold eqGuard
  cases op<;>simp
theorem CN {s u:ByteArray}(hF:Fr n a F)(hx:look F x=some (.string s))(hy:look F y=some (.string u)):BW P ⟨d,.binOp .eql T x y T',t,pos,af,gd⟩ a w (.bool (decide (s.toList=u.toList))):=
  An (by
    simp [execOp,JH,binOp,Op.stringOp,hF.eval hx,hF.eval hy]
    rw [Bool.eq_iff_iff];simp)
end
end Go.Sw
namespace Go.Sw
open Go Go.RowKit
variable {P : Program}
section
variable {fn : Func} {a : Act} {w : World}
theorem Nn {R:Ending→World→Prop}(hr:fn.results = #[])(hd:a.defers=[])(h:R (.returned (.tuple #[])) w):bodyPost P fn R .ret a w:=
  bodyPost_ret (by rw [Dk,hr];simp) hd h
theorem Mc {R:Ending→World→Prop}(hr:fn.results = #[])(hd:a.defers=[])(h:R (.returned (.tuple #[])) w):bodyPost P fn R .normal a w:=by
  have:=Nn (P:=P) (R:=R) hr hd h;exact this
end
theorem MemX.startX1D {w:World}{b:Nat}{cs:Array Value}{D:BI}(n:Nat)(h:Blk w b cs)(hD:∀ c ds,(c,ds)∈D→Blk w c ds∧c≠b):MemX [b] w w (some (b,cs)::List.replicate n none) D:=by
  have h0:=MemX.startX1 n h;refine ⟨h0.bel,h0.blk,h0.apart,fun c ds hm=>⟨(hD c ds hm).1,fun k e es hk=>?_⟩⟩
  cases k with
  | zero=>simp at hk;rw [← hk.1];exact fun e=>(hD c ds hm).2 e.symm
  | succ k=>simp [List.getElem?_replicate] at hk
theorem K9 {w:World}{b b':Nat}{cs':Array Value}(h:Blk w b' cs')(hn:b'≠b):∀ c ds,(c,ds)∈[(b',cs')]→Blk w c ds∧c≠b:=fun c ds hm=>by simp at hm;obtain ⟨rfl,rfl⟩:=hm;exact ⟨h,hn⟩
end Go.Sw
namespace Go.Sw
open Go Go.RowKit
section
variable {p n q : Int} {T U : Nat → Nat → Nat → Nat} {f v : Nat → Nat} {M : Nat → Nat → Nat}
theorem E7 {c:Array Value}(hs:c.size=224)(h0:c[0]? = some (.int .i64 p))(h1:c[1]? = some (.int .i64 n))(hT:∀ i j k,i<6→j<6→k<6→c[2+i*36+j*6+k]? = some (.int .u8 (T i j k:Int)))
    (hf:∀ i,i<6→c[218+i]? = some (.int .u8 (f i:Int))):c=AJ p n T f:=by
  apply Array.ext_getElem?
  intro i
  by_cases hi:i<224
  · by_cases e0:i=0
    · subst e0;rw [h0,BQ rfl]
    · by_cases e1:i=1
      · subst e1;rw [h1,A5 rfl]
      · by_cases e2:i<218
        · have e:i=2+((i - 2) / 36)*36+((i - 2) / 6%6)*6+(i - 2)%6:=by omega
          rw [e,hT _ _ _ (by omega) (by omega) (by omega),C4 _ _ _ rfl (by omega) (by omega) (by omega)]
        · have e:i=218+(i - 218):=by omega
          rw [e,hf _ (by omega),C3 _ rfl (by omega)]
  · rw [Array.getElem?_eq_none (by omega),Array.getElem?_eq_none (by rw [AQ];omega)]
theorem Ku {o:Nat}(h:o=0):(AJ p n T f).setIfInBounds o (.int .i64 q)=AJ q n T f:=by
  subst h;refine E7 (by rw [Array.size_setIfInBounds,AQ]) ?_ ?_ ?_ ?_
  · rw [Array.getElem?_setIfInBounds_self_of_lt (by rw [AQ];omega)]
  · rw [Array.getElem?_setIfInBounds_ne (by omega)];exact A5 rfl
  · intro i j k hi hj hk;rw [Array.getElem?_setIfInBounds_ne (by omega)];exact C4 i j k rfl hi hj hk
  · intro i hi;rw [Array.getElem?_setIfInBounds_ne (by omega)];exact C3 i rfl hi
theorem Cw {o:Nat}(h:o=1):(AJ p n T f).setIfInBounds o (.int .i64 q)=AJ p q T f:=by
  subst h;refine E7 (by rw [Array.size_setIfInBounds,AQ]) ?_ ?_ ?_ ?_
  · rw [Array.getElem?_setIfInBounds_ne (by omega)];exact BQ rfl
  · rw [Array.getElem?_setIfInBounds_self_of_lt (by rw [AQ];omega)]
  · intro i j k hi hj hk;rw [Array.getElem?_setIfInBounds_ne (by omega)];exact C4 i j k rfl hi hj hk
  · intro i hi;rw [Array.getElem?_setIfInBounds_ne (by omega)];exact C3 i rfl hi
theorem EC {o:Nat}(h:o=218):splice (AJ p n T f) o (AI v)=AJ p n T v:=by
  subst h;have hz:218+(AI v).size≤(AJ p n T f).size:=by rw [C5,AQ];omega
  refine E7 (by rw [Ec _ _ _ hz,AQ]) ?_ ?_ ?_ ?_
  · rw [CT _ _ _ _ hz,if_neg (by omega)];exact BQ rfl
  · rw [CT _ _ _ _ hz,if_neg (by omega)];exact A5 rfl
  · intro i j k hi hj hk;rw [CT _ _ _ _ hz,C5,if_neg (by omega)];exact C4 i j k rfl hi hj hk
  · intro i hi;rw [CT _ _ _ _ hz,C5,if_pos (by omega)];exact BS i (by omega) hi
end
end Go.Sw
namespace Go.Sw
open Go Go.RowKit
variable {P : Program}
section
variable {ops : Array Oper} {Q : Exit → Act → World → Prop} {rest : List Oper} {n : Nat} {F : List (Nat × Value)} {a : Act} {w : World}
theorem mv {d:Nat}{x:Operand}{t:TypeId}{pos:String}{af:Array Edge}{v:Value}(hF:Fr n a F)(hx:look F x=some v)(hn:Nat.blt d n=true)
    (h:∀ a',Fr n a' ((d,v)::F)→wpList P ops Q rest a' w):wpList P ops Q (⟨some d,.move x,t,pos,af,none⟩::rest) a w:=st hF (At hF hx) hn h
theorem ag {d:Nat}{x:Operand}{t:TypeId}{pos:String}{af:Array Edge}{v:Value}(hF:Fr n a F)(hx:look F x=some v)(hn:Nat.blt d n=true)
    (h:∀ a',Fr n a' ((d,v)::F)→wpList P ops Q rest a' w):wpList P ops Q (⟨some d,.assign x,t,pos,af,none⟩::rest) a w:=st hF (JG hF hx) hn h
theorem sr {id:Nat}{l:List Oper}{y:Code}(h:wpList P l.toArray (Exit.then (fun a w=>y.wp P Q a w) Q) l a w):((Code.region id l.toArray false).seq y).wp P Q a w:=sq (wp_region_lit h)
theorem nt {K:Act→World→Prop}{Q':Exit→Act→World→Prop}(h:K a w):wpList P ops (Exit.then K Q') [] a w:=h
theorem ns {id:Nat}{l:List Oper}{y:Code}{Q':Exit→Act→World→Prop}(h:wpList P l.toArray (Exit.then (fun a w=>y.wp P Q a w) Q) l a w):wpList P ops (Exit.then (fun a w=>((Code.region id l.toArray false).seq y).wp P Q a w) Q') [] a w:=sq (wp_region_lit h)
end
section
variable {X : List Nat} {w0 w : World} {D : BI} {W : List Nat} {l : List Fact} {i : Nat} {L0 L : Own} {o : Oper} {a : Act} {n : Nat} {F : List (Nat × Value)} {d : Option Tmp} {x : Operand} {t : TypeId} {pos : String} {af : Array Edge} {gd : Option (Nat × Bool)} {v : Value}
theorem BP (hS:Par X w0 D W L0 L w)(hi:l[i]? = some (.val v))(hF:Fr n a F)(hx:look F x=some v):Does P ⟨d,.move x,t,pos,af,gd⟩ a w (After (Par X w0 D W L0) (CI l) i L w):=AM hS hi (At hF hx)
end
theorem AR:(∀ n f,(Ag n f).size=n)∧(∀ p n T f,(AJ p n T f).size=224)∧(∀ v,(AI v).size=6)∧(∀ T,(I0 T).size=216)∧(∀ M,(DA M).size=36):=
  ⟨Bp,fun _ _ _ _=>AQ,fun _=>C5,fun _=>Hq,fun _=>Ga⟩
end Go.Sw
namespace Go.Sw
open Go Go.RowKit
variable {P : Program}
section
variable {n : Nat} {F : List (Nat × Value)} {a : Act} {w w0 : World} {d : Option Tmp} {t : TypeId} {pos : String} {af : Array Edge} {gd : Option (Nat × Bool)} {T : TypeId} {x y : Operand} {X : List Nat} {L : Own} {D : BI}
theorem KG {len:Nat}{cs:Array Value}{e:TypeId}(k:Nat)(hM:MemX X w0 w L D)(hF:Fr n a F)(hx:look F x=some (.int .i64 (len:Int)))(hy:look F y=some (.int .i64 (len:Int)))
    (hrun:∀ w,(Instr.makeSlice T (.int .i64 (len:Int)) (.int .i64 (len:Int))).run P w = .ok (.slice (some ⟨w.heap.size,0,none⟩) len len) (w.alloc (.cells cs e))) :
    Does P ⟨d,.makeSlice T x y,t,pos,af,gd⟩ a w (fun u w'=>∃ b,u = .slice (some ⟨b,0,none⟩) len len∧MemX X w0 w' (L.set k (some (b,cs))) D∧Ext w w'):=
  ⟨fun K Q hk=>by
    have:=hk _ (w.alloc (.cells cs e)) ⟨w.heap.size,rfl,hM.fill (Ext.alloc _ _) k (Blk.new _ _ _) (Nat.le_refl _),Ext.alloc _ _⟩
    unfold Oper.wp execOp
    simp only [hF.eval hx,hF.eval hy,Sem.run_bind,hrun,Result.andThen_ok,Sem.run_pure]
    exact this⟩
theorem MI {b o len c k:Nat}{e:TypeId}(hT:P.underlying T=some (.array k e))(hF:Fr n a F)(hx:look F x=some (.slice (some ⟨b,o,none⟩) len c))(hk:k≤len):BW P ⟨d,.sliceToArrayPointer T x,t,pos,af,gd⟩ a w (ptr b o):=
  An (by simp [execOp,hF.eval hx,Instr.arrayAt,run_underlying hT,show ¬ len<k by omega])
end
end Go.Sw
namespace Go.Sw
open Go Go.RowKit
variable {P : Program}
theorem MemX.addD {X:List Nat}{w0 w w':World}{L:Own}{D D':BI}(h:MemX X w0 w L D)(hb:Ext w w')(hD:∀ b cs,(b,cs)∈D'→w.heap.size≤b∧Blk w' b cs):MemX X w0 w' L (D'++D):=by
  have h2:=h.ext hb;refine ⟨h2.bel,h2.blk,h2.apart,fun b cs hm=>?_⟩
  rcases List.mem_append.1 hm with hm | hm
  · refine ⟨(hD b cs hm).2,fun k c ds hk e=>?_⟩
    have h3:=(h.blk k c ds hk).2.lt;have h4:=(hD b cs hm).1
    omega
  · exact h2.froz b cs hm
theorem MemX.fzm {X:List Nat}{w0 w:World}{L:Own}{D:BI}(h:MemX X w0 w L D){b:Nat}{cs:Array Value}(hk:(b,cs)∈D):Blk w b cs:=(h.froz b cs hk).1
def up {α:Type} (f:Nat→α) (m:Nat) (x:α) (i:Nat):α:=if i=m then x else f i
theorem DM {α:Type}{f:Nat→α}{m:Nat}{x:α}:up f m x m=x:=by simp [up]
theorem DL {α:Type}{f:Nat→α}{m i:Nat}{x:α}(h:i≠m):up f m x i=f i:=by simp [up,h]
structure RowsD (D:BI) (N m:Nat) (β κ:Nat→Nat) (C:Nat→Array Value) (f:Nat→Nat→Value):Prop where
  mem:∀ i,i<m→(β i,C i)∈D
  sl:∀ i,i<m→SlAt 1 (.slice (some ⟨β i,0,none⟩) N (κ i)) (some (β i,C i)) N (β i) (κ i) (C i) (f i)
namespace RowsD
variable {D D' : BI} {N m : Nat} {β κ : Nat → Nat} {C : Nat → Array Value} {f : Nat → Nat → Value}
theorem get (h:RowsD D N m β κ C f){i:Nat}(hi:i<m)(c:Nat)(hc:c<N):(C i)[0+c*1]? = some (f i c):=(h.sl i hi).get1 c hc
theorem more (h:RowsD D N m β κ C f)(hs:∀ x∈D,x∈D'):RowsD D' N m β κ C f:=⟨fun i hi=>hs _ (h.mem i hi),h.sl⟩
theorem none:RowsD D N 0 β κ C f:=⟨fun i hi=>absurd hi (by omega),fun i hi=>absurd hi (by omega)⟩
theorem congr (h:RowsD D N m β κ C f){g:Nat→Nat→Value}(hf:∀ i,i<m→∀ c,c<N→f i c=g i c):RowsD D N m β κ C g:=
  ⟨h.mem,fun i hi=>by
    have:=h.sl i hi
    exact ⟨this.val,this.ent,this.le,this.max,this.sz,fun c hc=>by rw [← hf i hi c (by omega)];exact this.get c hc⟩⟩
theorem snoc (h:RowsD D N m β κ C f){b cap:Nat}{cs:Array Value}{v:Value}{r:Nat→Value}(hm:(b,cs)∈D)(hs:SlAt 1 v (some (b,cs)) N b cap cs r):RowsD D N (m+1) (up β m b) (up κ m cap) (up C m cs) (up f m r):=
  ⟨fun i hi=>by
    by_cases e:i=m
    · subst e;simp only [DM];exact hm
    · simp only [DL e];exact h.mem i (by omega),
   fun i hi=>by
    by_cases e:i=m
    · subst e;simp only [DM];have:=hs.val;subst this;exact hs
    · simp only [DL e];exact h.sl i (by omega)⟩
end RowsD
def OX (β κ:Nat→Nat) (N:Nat) (i:Nat):Value:=.slice (some ⟨β i,0,none⟩) N (κ i)
def RowsOut (w w':World) (N k:Nat) (f:Nat→Nat→Value) (u:Value):Prop:=∃ (D:BI) (β κ:Nat→Nat) (C:Nat→Array Value) (b cap:Nat) (cs:Array Value),
  (∀ x ds,(x,ds)∈D→w.heap.size≤x∧Blk w' x ds)∧RowsD D N k β κ C f∧SlAt 1 u (some (b,cs)) k b cap cs (fun i=>.slice (some ⟨β i,0,none⟩) N (κ i))∧(b,cs)∈D
theorem SlAt.set {v:Value}{n b cap:Nat}{cs:Array Value}{f g:Nat→Value}{x:Value}(h:SlAt 1 v (some (b,cs)) n b cap cs f)(i:Nat){o:Nat}(ho:o=i)(hi:i<n)(hg:∀ j,j<n→g j=if j=i then x else f j):SlAt 1 v (some (b,cs.setIfInBounds o x)) n b cap (cs.setIfInBounds o x) g:=by
  subst ho;refine ⟨h.val,rfl,h.le,h.max,by rw [Array.size_setIfInBounds];exact h.sz,fun j hj=>?_⟩;rw [Array.getElem?_setIfInBounds];have hsz:=h.sz;have hle:=h.le
  by_cases e:o=j
  · subst e;rw [if_pos rfl,if_pos (by omega),hg o hi,if_pos rfl]
  · rw [if_neg e,hg j (by omega),if_neg (fun x=>e x.symm)];exact h.get j hj
theorem SlAt.congr {size:Nat}{v:Value}{e:Option (Nat×Array Value)}{n b cap:Nat}{cs:Array Value}{f g:Nat→Value}(h:SlAt size v e n b cap cs f)(hf:∀ i,i<n*size→f i=g i):SlAt size v e n b cap cs g:=
  ⟨h.val,h.ent,h.le,h.max,h.sz,fun i hi=>by rw [← hf i hi];exact h.get i hi⟩
theorem OwnSl.congr {size n:Nat}{w w':World}{v:Value}{f g:Nat→Value}(h:OwnSl size w n f v w')(hf:∀ i,i<n*size→f i=g i):OwnSl size w n g v w':=by
  obtain ⟨b,cap,cs,h1,h2,h3⟩:=h;exact ⟨b,cap,cs,h1.congr hf,h2,h3⟩
theorem CallsR.mono {f:FuncId}{args:Array Value}{w:World}{R R':Value→World→Prop}(h:CallsR P f args w R)(hr:∀ v w',Ext w w'→R v w'→R' v w'):CallsR P f args w R':=
  Calls.mono h (fun _ _ ⟨v,he,h1,h2⟩=>⟨v,he,h1,hr v _ h1 h2⟩)
theorem RowsOut.of {w w':World}{L:Own}{D:BI}{N k:Nat}{β κ:Nat→Nat}{C:Nat→Array Value}{f:Nat→Nat→Value}{u:Value}{b cap:Nat}{cs:Array Value}(hM:Af w w' L D)(hR:RowsD D N k β κ C f)
    (hs:SlAt 1 u (some (b,cs)) k b cap cs (fun i=>.slice (some ⟨β i,0,none⟩) N (κ i))) (hm:(b,cs)∈D) (hge:∀ i,i<k→w.heap.size≤β i) (hb:w.heap.size≤b):RowsOut w w' N k f u:=by
  refine ⟨(b,cs)::(List.range k).map (fun i=>(β i,C i)),β,κ,C,b,cap,cs,fun x ds hx=>?_,⟨fun i hi=>?_,hR.sl⟩,hs,List.mem_cons_self ..⟩
  · rcases List.mem_cons.1 hx with e | hx
    · simp only [Prod.mk.injEq] at e;obtain ⟨rfl,rfl⟩:=e;exact ⟨hb,hM.fzm hm⟩
    · obtain ⟨i,hi,e⟩:=List.mem_map.1 hx
      simp only [Prod.mk.injEq] at e;obtain ⟨rfl,rfl⟩:=e;have hi:i<k:=by simpa using hi
      exact ⟨hge i hi,hM.fzm (hR.mem i hi)⟩
  · exact List.mem_cons_of_mem _ (List.mem_map.2 ⟨i,by simpa using hi,rfl⟩)
theorem Sl.snocR {u:Value}{e:Option (Nat×Array Value)}{n N b cap:Nat}{β κ:Nat→Nat}(h:Sl 1 u e (n+1) (fun i=>if i<n*1 then (fun i=>.slice (some ⟨β i,0,none⟩) N (κ i)) i else (fun _=>.slice (some ⟨b,0,none⟩) N cap) (i - n*1))) :
    Sl 1 u e (n+1) (fun i=>.slice (some ⟨up β n b i,0,none⟩) N (up κ n cap i)):=
  h.congr fun i hi=>by
    by_cases e:i<n
    · rw [if_pos (by omega)];simp only [DL (show i≠n by omega)]
    · rw [if_neg (by omega)];simp only [show i=n by omega,DM]
def FreshSl (w0:World) (L:Own) (N:Nat) (f:Nat→Value) (u:Value) (w':World):Prop:=∃ b cap cs,SlAt 1 u (some (b,cs)) N b cap cs f∧Blk w' b cs∧w0.heap.size≤b∧∀ (k:Nat) c ds,L[k]? = some (some (c,ds))→c≠b
def LitF (w0:World) (L:Own) (N:Nat) (f:Nat→Value) (u:Value) (w':World):Prop:=∃ b x,u = .slice (some ⟨b,0,none⟩) 1 1∧Blk w' b #[x]∧FreshSl w0 L N f x w'
theorem FreshSl.last {w0 w w':World}{L:Own}{N:Nat}{f:Nat→Value}{u:Value}(h:FreshSl w0 L N f u w)(hx:Ext w w'):FreshSl w0 L N f u w':=by
  obtain ⟨b,cap,cs,h1,h2,h3⟩:=h;exact ⟨b,cap,cs,h1,h2.ext hx,h3⟩
theorem LitF.last {w0 w w':World}{L:Own}{N:Nat}{f:Nat→Value}{u:Value}(h:LitF w0 L N f u w)(hx:Ext w w'):LitF w0 L N f u w':=by
  obtain ⟨b,x,h1,h2,h3⟩:=h;exact ⟨b,x,h1,h2.ext hx,h3.last hx⟩
theorem OwnSl.fresh {X:List Nat}{w0 w w':World}{L:Own}{D:BI}{N:Nat}{f:Nat→Value}{u:Value}(hM:MemX X w0 w L D)(h:OwnSl 1 w N f u w'):FreshSl w0 L N f u w':=by
  obtain ⟨b,cap,cs,h1,h2,h3⟩:=h;refine ⟨b,cap,cs,h1,h3,Nat.le_trans hM.bel.size h2,fun k c ds hk e=>?_⟩;have:=(hM.blk k c ds hk).2.lt
  omega
theorem MemX.addF {X:List Nat}{w0 w:World}{L:Own}{D:BI}{N:Nat}{f:Nat→Value}{u:Value}(h:MemX X w0 w L D)(hf:FreshSl w0 L N f u w):∃ b cap cs,SlAt 1 u (some (b,cs)) N b cap cs f∧w0.heap.size≤b∧MemX X w0 w L ((b,cs)::D):=by
  obtain ⟨b,cap,cs,h1,h2,h3,h4⟩:=hf;refine ⟨b,cap,cs,h1,h3,h.bel,h.blk,h.apart,fun c ds hm=>?_⟩
  rcases List.mem_cons.1 hm with e | hm
  · simp only [Prod.mk.injEq] at e;obtain ⟨rfl,rfl⟩:=e;exact ⟨h2,h4⟩
  · exact h.froz c ds hm
section
variable {X : List Nat} {w0 : World} {D : BI} {l : List Fact} {i : Nat} {L0 L : Own} {o : Oper} {a : Act} {w : World}
theorem GD {N:Nat}{f:Nat→Value}(hl:Lasts l)(hS:Par X w0 D [] L0 L w)(hi:l[i]? = some (.rel (FreshSl w0 L0 N f)))(hc:Does P o a w (fun u w'=>Ext w w'∧OwnSl 1 w N f u w')) :
    Does P o a w (After (Par X w0 D [] L0) (CI l) i L w):=
  FX hl hS hi hc (fun _ _ h=>OwnSl.fresh (hS.mem rfl) h)
theorem Jt {n:Nat}{F:List (Nat×Value)}{N:Nat}{f:Nat→Value}{T e:TypeId}{x:Operand}{v:Value}{d:Option Tmp}{t:TypeId}{pos:String}{af:Array Edge}{gd:Option (Nat×Bool)}(hF:Fr n a F)(hx:look F x=some v)(hf:FreshSl w0 L0 N f v w)
    (hrun:∀ (x:Option Addr) (n c:Nat) (w:World),(Instr.buildSlice T 1 #[(0,.slice x n c)]).run P w = .ok (.slice (some ⟨w.heap.size,0,none⟩) 1 1) (w.alloc (.cells #[.slice x n c] e))) :
    Does P ⟨d,.buildSlice T 1 #[(0,x)],t,pos,af,gd⟩ a w (fun u w'=>Ext w w'∧LitF w0 L0 N f u w'):=
  ⟨fun K Q hk=>by
    have hf':=hf
    obtain ⟨b,cap,cs,h1,_⟩:=hf'
    have h1v:=h1.val
    have:=hk _ (w.alloc (.cells #[v] e)) ⟨Ext.alloc _ _,w.heap.size,v,rfl,Blk.new _ _ _,hf.last (Ext.alloc _ _)⟩
    unfold Oper.wp execOp
    have e1:(#[(0,x)].map fun (i,x)=>(i,a.eval x)) = #[(0,v)]:=by simp [hF.eval hx]
    simp only [e1,Sem.run_bind]
    subst h1v
    rw [hrun]
    exact this⟩
end
theorem SlAt.get1e {v:Value}{e:Option (Nat×Array Value)}{n b cap:Nat}{cs:Array Value}{f:Nat→Value}{x:Value}(h:SlAt 1 v e n b cap cs f)(i:Nat)(hi:i<n)(hx:f i=x):cs[0+i*1]? = some x:=by
  rw [← hx];exact h.get1 i hi
end Go.Sw
