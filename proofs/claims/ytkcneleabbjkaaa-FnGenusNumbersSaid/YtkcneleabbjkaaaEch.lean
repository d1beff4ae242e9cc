import Derived.Test.YtkcneleabbjkaaaSw6
set_option linter.unusedVariables false
set_option linter.unusedSimpArgs false
namespace Go.Sw
open Go Go.RowKit
variable {P : Program}
structure SlAt (size:Nat) (v:Value) (e:Option (Nat×Array Value)) (n b cap:Nat) (cs:Array Value) (f:Nat->Value):Prop where
  val:v = .slice (some ⟨b,0,none⟩) n cap
  ent:e=some (b,cs)
  le:n<=cap
  max:cap<=maxLen
  sz:cs.size=cap*size
  get:∀ i,i<n*size->cs[i]? = some (f i)
def Sl (size:Nat) (v:Value) (e:Option (Nat×Array Value)) (n:Nat) (f:Nat->Value):Prop:=
  (v = .slice none 0 0/\e=none/\n=0)\/∃ b cap cs,SlAt size v e n b cap cs f
theorem Sl.nil (size:Nat)(f:Nat->Value):Sl size (.slice none 0 0) none 0 f:=.inl ⟨rfl,rfl,rfl⟩
theorem Sl.pos {size n:Nat}{v:Value}{e:Option (Nat×Array Value)}{f:Nat->Value}(h:Sl size v e n f)(hn:0<n):∃ b cap cs,v = .slice (some ⟨b,0,none⟩) n cap/\e=some (b,cs)/\SlAt size v e n b cap cs f:=by
  rcases h with ⟨_,_,h0⟩ | ⟨b,cap,cs,h⟩
  . omega
  . exact ⟨b,cap,cs,h.val,h.ent,h⟩
theorem Sl.congr {size n:Nat}{v:Value}{e:Option (Nat×Array Value)}{f g:Nat->Value}(h:Sl size v e n f)(hf:∀ i,i<n*size->f i=g i):Sl size v e n g:=by
  rcases h with h | ⟨b,cap,cs,h⟩
  . exact .inl h
  . exact .inr ⟨b,cap,cs,h.val,h.ent,h.le,h.max,h.sz,fun i hi=>by rw [← hf i hi];exact h.get i hi⟩
def ND (P:Program) (T:TypeId):Option (TypeId×Option Value×Nat×Nat):=
  match P.underlying T with
  | some (.slice e)=>(P.info? e).map fun i=>(e,i.zero,i.size,i.bytes)
  | _=>none
theorem DM (w:World)(o:Obj):Ext w (w.drew.alloc o):=
  Below.alloc (Below.drew (Below.refl w.heap.size w)) (Nat.le_refl _) o
theorem Lu {X:List Nat}{w0 w:World}{L:Own}{D:A4}{T e:TypeId}{z:Value}{size bytes n k m bx ox cx:Nat}{v:Value}{ent:Option (Nat×Array Value)}{f g:Nat->Value}(hT:ND P T=some (e,some z,size,bytes))(hz:z.cells.size=size)(hs0:0<size)
    (J:MemX X w0 w L D) (hk:L[k]? = some ent) (hv:Sl size v ent n f) (hg:∀ i,i<m*size->w.cell? ⟨bx,ox+i,none⟩=some (g i)) (h1:∀ i,i<m*size->(g i).oneCell'=true)
    (hm:0<m) (h63:n+m<=maxLen) (hb:(n+m)*bytes<=140737488355328) (ty:TypeId) :
    ∃ u w' e',(Builtin.append_ #[T,T] ty #[v,.slice (some ⟨bx,ox,none⟩) m cx]).run P w = .ok u w'/\MemX X w0 w' (L.set k e') D/\Sl size u e' (n+m) (fun i=>if i<n*size then f i else g (i - n*size)):=by
  unfold ND at hT
  cases hu:P.underlying T with
  | none=>simp [hu] at hT
  | some dd =>
    cases dd<;>simp [hu] at hT
    rename_i el
    obtain ⟨inf,hinf,rfl,hz0,hsz,hby⟩:=hT;subst hsz;subst hby
    have hm0:n+m<=9223372036854775807:=by simp only [maxLen] at h63;omega
    have hnl:(((List.range (m*inf.size)).map g)).length=m*inf.size:=by simp
    have hZ:∀ j u,((List.range (m*inf.size)).map g)[j]? = some u->w.cell? ((⟨bx,ox,none⟩:Addr).add j)=some u:=by
      intro j u hj;have hH:j<m*inf.size:=by have:=(List.getElem?_eq_some_iff.1 hj).1;simpa using this
      rw [Addr.add_lit,hg j hH]
      simp [hH] at hj;rw [hj]
    have hone:∀ u∈(List.range (m*inf.size)).map g,u.oneCell'=true:=by
      intro u hu';obtain ⟨i,hi,rfl⟩:=List.mem_map.1 hu';exact h1 i (by simpa using hi)
    rcases hv with ⟨rfl,rfl,rfl⟩ | ⟨b,cap,cs,hat⟩
    . have hr:=run_append_nil (P:=P) w T ty el inf z hu hinf hz0 ⟨bx,ox,none⟩ m cx _ hnl hZ hm (by omega) (by simp only [Nat.zero_add] at hb;omega)
      refine ⟨_,_,_,hr,J.fill (DM _ _) k (Blk.new w.drew _ _) (Nat.le_refl _),.inr ⟨_,_,_,⟨by rw [Nat.zero_add];rfl,rfl,?_,grownCap_le_maxLen w m 0 el (by omega),?_,?_⟩⟩⟩
      . have:=grownCap_ge w m 0 el;omega
      . have:=grownCap_ge w m 0 el
        simp only [Array.size_append,List.size_toArray,hnl,size_zeroCells,hz,← Nat.add_mul]
        congr 1;omega
      . intro i hi
        rw [Nat.zero_add] at hi;rw [if_neg (by simp),Array.getElem?_append,if_pos (by simpa using hi)]
        simp [hi]
    . obtain ⟨rfl,rfl,hle,hmax,hcsz,hget⟩:=hat
      have hblk:=J.row k hk
      by_cases hroom:n+m<=cap
      . obtain ⟨tt,hgg⟩:=hblk
        have hf:=run_firstCells_some (P:=P) w inf.size m ⟨bx,ox,none⟩ m cx _ hnl hZ;have hfit:n*inf.size+((List.range (m*inf.size)).map g).length<=cs.size:=by rw [hnl,hcsz,← Nat.add_mul];exact Nat.mul_le_mul_right _ hroom
        have hst:=run_storeCells_at P b (n*inf.size) tt ((List.range (m*inf.size)).map g) 0 cs w hgg (by simpa using hfit) hone;simp only [Nat.add_zero] at hst;have hr:(Builtin.append_ #[T,T] ty #[.slice (some ⟨b,0,none⟩) n cap,.slice (some ⟨bx,ox,none⟩) m cx]).run P w = .ok (.slice (some ⟨b,0,none⟩) (n+m) cap) (w.setRow b (splice cs (n*inf.size) ((List.range (m*inf.size)).map g).toArray)):=by
          simp [Builtin.append_,run_underlying hu,Go.sizeOf,typeInfo,hinf,Builtin.lenOf,hroom,hf,Addr.add_lit,hst,splice]
        refine ⟨_,_,_,hr,J.setRow k hk _,.inr ⟨_,_,_,⟨rfl,rfl,hroom,hmax,?_,?_⟩⟩⟩
        . rw [Du _ _ _ (by simpa using hfit),hcsz]
        . intro i hi
          rw [B0 _ _ _ _ (by simpa using hfit)];have e1:(n+m)*inf.size=n*inf.size+m*inf.size:=Nat.add_mul ..
          by_cases hH:i<n*inf.size
          . rw [if_neg (by omega),if_pos hH];exact hget i hH
          . rw [if_pos (by simp only [List.size_toArray,List.length_map,List.length_range];omega),if_neg hH]
            rw [List.getElem?_toArray,List.getElem?_map,List.getElem?_range (by omega)];rfl
      . have holds:∀ j u,((List.range (n*inf.size)).map f)[j]? = some u->w.cell? ((⟨b,0,none⟩:Addr).add j)=some u:=by
          intro j u hj;have hH:j<n*inf.size:=by have:=(List.getElem?_eq_some_iff.1 hj).1;simpa using this
          rw [Addr.add_lit,Nat.zero_add,hblk.cell,hget j hH]
          simp [hH] at hj;rw [hj]
        have hr:=run_append_grow (P:=P) w T ty el inf z hu hinf hz0 ⟨b,0,none⟩ n cap ((List.range (n*inf.size)).map f) (by simp) holds ⟨bx,ox,none⟩ m cx _ hnl hZ (by omega) (by omega) (growslice_fits (by omega) hb);refine ⟨_,_,_,hr,J.fill (DM _ _) k (Blk.new w.drew _ _) (Nat.le_refl _),.inr ⟨_,_,_,⟨rfl,rfl,grownCap_ge w _ _ _,grownCap_le_maxLen w _ _ _ h63,?_,?_⟩⟩⟩
        . have:=grownCap_ge w (n+m) cap el
          simp only [Array.size_append,List.size_toArray,hnl,size_zeroCells,hz,List.length_map,List.length_range,← Nat.add_mul]
          congr 1;omega
        . intro i hi
          have e1:(n+m)*inf.size=n*inf.size+m*inf.size:=Nat.add_mul ..;rw [Array.getElem?_append,if_pos (by simp only [Array.size_append,List.size_toArray,List.length_map,List.length_range];omega),Array.getElem?_append]
          by_cases hH:i<n*inf.size
          . rw [if_pos (by simpa using hH),if_pos hH];simp [hH]
          . rw [if_neg (by simpa using hH),if_neg hH]
            simp only [List.size_toArray,List.length_map,List.length_range];rw [List.getElem?_toArray,List.getElem?_map,List.getElem?_range (by omega)];rfl
section
variable {ops : Array Oper} {Q : Exit -> Act -> World -> Prop} {rest : List Oper} {n : Nat} {F : List (Nat × Value)} {a : Act} {X : List Nat} {w w0 : World} {L : Own} {D : A4}
variable {d : Option Tmp} {t : TypeId} {pos : String} {af : Array Edge} {gd : Option (Nat × Bool)} {T : TypeId} {x y : Operand}
theorem BS {e:TypeId}{z:Value}{size bytes N k m bx ox cx:Nat}{v:Value}{ent:Option (Nat×Array Value)}{f g:Nat->Value}(hT:ND P T=some (e,some z,size,bytes))(hz:z.cells.size=size)(hs0:0<size)
    (J:MemX X w0 w L D) (hk:L[k]? = some ent) (O:Fr n a F) (hx:look F x=some v) (hy:look F y=some (.slice (some ⟨bx,ox,none⟩) m cx)) (hv:Sl size v ent N f) (hg:∀ i,i<m*size->w.cell? ⟨bx,ox+i,none⟩=some (g i)) (h1:∀ i,i<m*size->(g i).oneCell'=true)
    (hm:0<m) (h63:N+m<=maxLen) (hb:(N+m)*bytes<=140737488355328) :
    Does P ⟨d,.call { callee:=.builtin .append,args:=#[x,y],argTypes:=#[T,T] },t,pos,af,gd⟩ a w (fun u w'=>∃ e',MemX X w0 w' (L.set k e') D/\Sl size u e' (N+m) (fun i=>if i<N*size then f i else g (i - N*size))):=
  ⟨fun K Q hK=>by
    obtain ⟨u,w',e',hr,h2,h3⟩:=Lu (P:=P) (T:=T) hT hz hs0 J hk hv hg h1 hm h63 hb t
    unfold Oper.wp execOp
    simp only [resolve,invoke,builtin,Sem.run_bind,Sem.run_pure,Result.andThen_ok,List.map_toArray,List.map_cons,List.map_nil,O.eval hx,O.eval hy]
    rw [hr]
    exact hK u w' ⟨e',h2,h3⟩⟩
theorem Ag {len:Nat}{parts:Array (Nat×Operand)}{vs:List (Nat×Value)}{cs:Array Value}{e:TypeId}(k:Nat)(J:MemX X w0 w L D)(_hF:Fr n a F)(hp:parts.toList.map (fun p=>(p.1,a.eval p.2))=vs)
    (hJ:∀ w,(Instr.buildSlice T len vs.toArray).run P w = .ok (.slice (some ⟨w.heap.size,0,none⟩) len len) (w.alloc (.cells cs e))) :
    Does P ⟨d,.buildSlice T len parts,t,pos,af,gd⟩ a w (fun u w'=>∃ b,u = .slice (some ⟨b,0,none⟩) len len/\MemX X w0 w' (L.set k (some (b,cs))) D/\Ext w w'):=
  ⟨fun K Q hk=>by
    have:=hk _ (w.alloc (.cells cs e)) ⟨w.heap.size,rfl,J.fill (Ext.alloc _ _) k (Blk.new _ _ _) (Nat.le_refl _),Ext.alloc _ _⟩
    unfold Oper.wp execOp
    have e1:(parts.map fun (i,x)=>(i,a.eval x))=vs.toArray:=by rw [← hp];apply Array.toList_inj.1;simp
    simp only [e1,Sem.run_bind,hJ,Result.andThen_ok,Sem.run_pure]
    exact this⟩
theorem IX {y:Option Addr}{len c:Nat}{TT:TypeId}{el:TypeId}(hT:P.underlying TT=some (.slice el))(O:Fr n a F)(hx:look F x=some (.slice y len c)):BX P ⟨d,.call { callee:=.builtin .len,args:=#[x],argTypes:=#[TT] },t,pos,af,gd⟩ a w (.int .i64 (len:Int)):=
  Ah (by simp [execOp,resolve,invoke,O.eval hx,builtin,Builtin.len_,run_underlying hT,goInt])
theorem GK {TT:TypeId}{el:TypeId}(hT:P.underlying TT=some (.slice el))(O:Fr n a F)(hx:look F x=some (.slice none 0 0)):BX P ⟨d,.call { callee:=.builtin .len,args:=#[x],argTypes:=#[TT] },t,pos,af,gd⟩ a w (.int .i64 ((0:Nat):Int)):=
  Ah (by simp [execOp,resolve,invoke,O.eval hx,builtin,Builtin.len_,run_underlying hT,goInt])
theorem Be {b o len c:Nat}{TT:TypeId}{el:TypeId}(hT:P.underlying TT=some (.slice el))(O:Fr n a F)(hx:look F x=some (.slice (some ⟨b,o,none⟩) len c)):BX P ⟨d,.call { callee:=.builtin .len,args:=#[x],argTypes:=#[TT] },t,pos,af,gd⟩ a w (.int .i64 (len:Int)):=
  Ah (by simp [execOp,resolve,invoke,O.eval hx,builtin,Builtin.len_,run_underlying hT,goInt])
end
theorem MemX.startD (w:World)(n:Nat)(D:A4)(h:∀ b cs,(b,cs)∈D->Blk w b cs):AT w w (List.replicate n none) D:=
  ⟨ExtX.refl _ w,fun k b cs h=>by simp [List.getElem?_replicate] at h,fun k j b cs ds h=>by simp [List.getElem?_replicate] at h,fun b cs hm=>⟨h b cs hm,fun k c ds hk=>by simp [List.getElem?_replicate] at hk⟩⟩
theorem MemX.fz {X:List Nat}{w0 w:World}{L:Own}{D:A4}(h:MemX X w0 w L D)(k:Nat){b:Nat}{cs:Array Value}(hk:D[k]? = some (b,cs)):Blk w b cs:=(h.froz b cs (List.mem_of_getElem? hk)).1
theorem Bh {w:World}{b:Nat}{cs:Array Value}(h:Blk w b cs):∀ c ds,(c,ds)∈[(b,cs)]->Blk w c ds:=fun c ds hm=>by simp at hm;obtain ⟨rfl,rfl⟩:=hm;exact h
theorem Ow {w:World}{b b':Nat}{cs cs':Array Value}(h:Blk w b cs)(h':Blk w b' cs'):∀ c ds,(c,ds)∈[(b,cs),(b',cs')]->Blk w c ds:=fun c ds hm=>by
  simp at hm
  rcases hm with ⟨rfl,rfl⟩ | ⟨rfl,rfl⟩
  . exact h
  . exact h'
theorem SlAt.get1 {v:Value}{e:Option (Nat×Array Value)}{n b cap:Nat}{cs:Array Value}{f:Nat->Value}(h:SlAt 1 v e n b cap cs f)(i:Nat)(hi:i<n):cs[0+i*1]? = some (f i):=by
  have:=h.get i (by omega);simpa using this
def OwnSl (size:Nat) (w:World) (n:Nat) (f:Nat->Value) (v:Value) (w':World):Prop:=∃ b cap cs,SlAt size v (some (b,cs)) n b cap cs f/\w.heap.size<=b/\Blk w' b cs
theorem HX {P:Program}{size N k:Nat}{X:List Nat}{w0 w:World}{L:Own}{D:A4}{o:Oper}{a:Act}{f:Nat->Value}(J:MemX X w0 w L D)(hc:Does P o a w (fun u w'=>Ext w w'/\OwnSl size w N f u w')) :
    Does P o a w (fun u w'=>∃ b cap cs,SlAt size u (some (b,cs)) N b cap cs f/\MemX X w0 w' (L.set k (some (b,cs))) D/\Ext w w'):=
  hc.mono fun _ _ ⟨hx,b,cap,cs,h1,h2,h3⟩=>⟨b,cap,cs,h1,J.fill hx k h3 h2,hx⟩
def leadN (f:Nat->Int) (n:Nat):Nat:=((List.range n).find? (fun i=>f i != 0)).getD n
theorem E6 {f:Nat->Int}{n k:Nat}(hk:k<n)(h:∀ i,i<k->f i=0)(h1:f k≠0):leadN f n=k:=by
  unfold leadN
  have:(List.range n).find? (fun i=>f i != 0)=some k:=by
    rw [List.find?_eq_some_iff_append];refine ⟨by simpa using h1,List.range k,(List.range (n - k - 1)).map (fun x=>k+1+x),?_,?_⟩
    . have e:List.range n=List.range (k+(n - k)):=by congr 1;omega
      rw [e,List.range_add]
      congr 1
      rw [show n - k=(n - k - 1)+1 by omega,List.range_succ_eq_map]
      simp [Function.comp_def,Nat.add_comm]
      intro a _;omega
    . intro c hc;simpa using h c (by simpa using hc)
  rw [this];rfl
theorem GA {f:Nat->Int}{n:Nat}(h:∀ i,i<n->f i=0):leadN f n=n:=by
  unfold leadN
  have:(List.range n).find? (fun i=>f i != 0)=none:=by
    rw [List.find?_eq_none];intro c hc;simpa using h c (by simpa using hc)
  rw [this];rfl
theorem Sl.empty (size b:Nat)(f:Nat->Value):Sl size (.slice (some ⟨b,0,none⟩) 0 0) (some (b,#[])) 0 f:=
  .inr ⟨b,0,#[],⟨rfl,rfl,Nat.le_refl _,Nat.zero_le _,by simp,fun i hi=>by simp at hi⟩⟩
theorem Sl.snoc {u:Value}{e:Option (Nat×Array Value)}{n:Nat}{f:Nat->Value}{x:Value}(h:Sl 1 u e (n+1) (fun i=>if i<n*1 then f i else (fun _=>x) (i - n*1)))(hx:x=f n):Sl 1 u e (n+1) f:=
  h.congr fun i hi=>by
    by_cases hH:i<n
    . rw [if_pos (by omega)]
    . rw [if_neg (by omega),hx,show i=n by omega]
theorem OwnSl.pos {size n k:Nat}{w w':World}{L:Own}{D:A4}{v:Value}{e:Option (Nat×Array Value)}{f:Nat->Value}(J:AT w w' L D)(hk:L[k]? = some e)(h:Sl size v e n f)(hn:0<n):OwnSl size w n f v w':=by
  obtain ⟨b,cap,cs,_,rfl,h⟩:=h.pos hn;exact ⟨b,cap,cs,h,J.ge k hk,J.row k hk⟩
theorem BJ {n:Nat}{a:Act}{F:List (Nat×Value)}{x:Operand}{v:Value}(O:Fr n a F)(hx:look F x=some v):(#[(0,x)]:Array (Nat×Operand)).toList.map (fun p=>(p.1,a.eval p.2))=[(0,v)]:=by simp [O.eval hx]
end Go.Sw
namespace Go.Sw
open Go Go.RowKit
variable {P : Program}
def CallsX (P:Program) (X:List Nat) (f:FuncId) (args:Array Value) (w:World) (R:Value->World->Prop):Prop:=
  Calls P f args w fun e w'=>∃ v,e = .returned v/\ExtX X w w'/\R v w'
theorem Bn {X:List Nat}{fn:Func}{w:World}{f:FuncId}{c:Code}{R:Value->World->Prop}{N:Nat}(vs:List Value)(hf:P.funcs[f]? = some fn)(hb:fn.body=some c)(hN:fn.ntmps=N)(hn:Nat.ble vs.length N=true)
    (h:∀ a,Fr N a (Nc vs 0)->c.wp P (bodyPost P fn (fun e w'=>∃ v,e = .returned v/\ExtX X w w'/\R v w')) a w):CallsX P X f vs.toArray w R:=by
  subst hN;exact calls_of_wp hf hb (h _ (OR vs rfl hn))
theorem MemX.startX1 {w:World}{b:Nat}{cs:Array Value}(n:Nat)(h:Blk w b cs):MemX [b] w w (some (b,cs)::List.replicate n none) []:=by
  have key:∀ (k:Nat) c ds,(some (b,cs)::List.replicate n none:Own)[k]? = some (some (c,ds))->k=0/\c=b/\ds=cs:=by
    intro k c ds hk
    cases k with
    | zero=>simp at hk;exact ⟨rfl,hk.1.symm,hk.2.symm⟩
    | succ k=>simp [List.getElem?_replicate] at hk
  refine ⟨ExtX.refl _ w,fun k c ds hk=>?_,fun k j c ds es hk hj=>?_,fun c ds hm=>by cases hm⟩
  . obtain ⟨_,rfl,rfl⟩:=key k c ds hk;exact ⟨.inr (List.mem_cons_self ..),h⟩
  . rw [(key k c ds hk).1,(key j c es hj).1]
theorem MemX.upd {X:List Nat}{w0 w w':World}{L:Own}{D:A4}(h:MemX X w0 w L D)(k:Nat){b:Nat}{cs cs':Array Value}(hk:L[k]? = some (some (b,cs)))(hx:ExtX [b] w w')(hb:Blk w' b cs'):MemX X w0 w' (L.set k (some (b,cs'))) D:=by
  have hkl:k<L.length:=(List.getElem?_eq_some_iff.1 hk).1;have hbb:=h.blk k b cs hk;have other:∀ {c ds},Blk w c ds->c≠b->Blk w' c ds:=fun {c ds} hc hne=>by
    obtain ⟨t,hc'⟩:=hc;exact ⟨t,(hx.block c (Blk.lt ⟨t,hc'⟩) (by simpa using hne)).trans hc'⟩
  refine ⟨⟨hx.os.trans h.bel.os,hx.tape.trans h.bel.tape,hx.output.trans h.bel.output,Nat.le_trans h.bel.size hx.size,fun i hi hix=>?_⟩,fun j c ds hj=>?_,fun i j c es ds hi hj=>?_,fun c ds hm=>⟨?_,fun j e es hj=>?_⟩⟩
  . have hne:i≠b:=by
      rintro rfl
      rcases hbb.1 with e | e
      . omega
      . exact hix e
    exact (hx.block i (Nat.lt_of_lt_of_le hi h.bel.size) (by simpa using hne)).trans (h.bel.block i hi hix)
  . rw [List.getElem?_set] at hj
    by_cases e:k=j
    . subst e
      simp [hkl] at hj
      obtain ⟨rfl,rfl⟩:=hj;exact ⟨hbb.1,hb⟩
    . rw [if_neg e] at hj
      have hc:=h.blk j c ds hj;exact ⟨hc.1,other hc.2 (fun ecb=>by subst ecb;exact e (h.apart k j c _ _ hk hj))⟩
  . rw [List.getElem?_set] at hi hj
    by_cases e1:k=i
    . subst e1
      simp [hkl] at hi
      obtain ⟨rfl,rfl⟩:=hi
      by_cases e2:k=j
      . exact e2
      . rw [if_neg e2] at hj;exact h.apart k j _ _ _ hk hj
    . rw [if_neg e1] at hi
      by_cases e2:k=j
      . subst e2
        simp [hkl] at hj
        obtain ⟨rfl,rfl⟩:=hj;exact h.apart i k _ _ _ hi hk
      . rw [if_neg e2] at hj;exact h.apart i j _ _ _ hi hj
  . exact other (h.froz c ds hm).1 (fun e=>(h.froz c ds hm).2 k b cs hk e.symm)
  . rw [List.getElem?_set] at hj
    by_cases e1:k=j
    . subst e1
      simp [hkl] at hj
      obtain ⟨rfl,rfl⟩:=hj;exact (h.froz c ds hm).2 k _ _ hk
    . rw [if_neg e1] at hj;exact (h.froz c ds hm).2 j e es hj
section
variable {n : Nat} {F : List (Nat × Value)} {a : Act} {w : World} {d : Option Tmp} {t : TypeId} {pos : String} {af : Array Edge} {gd : Option (Nat × Bool)} {T T' : TypeId} {x y : Operand}
theorem A1 {X:List Nat}{f:FuncId}{xs:List Operand}{vs:List Value}{ats:Array TypeId}{R:Value->World->Prop}(hf:∀ args w,(callFunc f args).run P w = .ok (.enter f args) w)(O:Fr n a F)(hx:looks F xs vs)(hc:CallsX P X f vs.toArray w R) :
    Does P ⟨d,.call { callee:=.value (.func f),args:=xs.toArray,argTypes:=ats },t,pos,af,gd⟩ a w (fun u w'=>ExtX X w w'/\R u w'):=
  ⟨fun K Q hk=>by
    have hJ:(execOp a.eval ⟨d,.call { callee:=.value (.func f),args:=xs.toArray,argTypes:=ats },t,pos,af,gd⟩).run P w = .ok (.enter f vs.toArray) w:=by
      have e:(xs.toArray.map a.eval)=vs.toArray:=by rw [← O.evals hx];simp
      simp [execOp,resolve,Act.eval,Deferred.ofValue,invoke,e,hf]
    unfold Oper.wp
    rw [hJ]
    show Calls P f vs.toArray w _
    exact hc.mono fun e w' ⟨v,he,h1,h2⟩=>by subst he;exact hk v w' ⟨h1,h2⟩⟩
theorem LU (op:BinOp)(T:TypeId)(x y:Operand)(s u:ByteArray)(w:World):(eqGuard op T x y (.string s) (.string u)).run P w = .ok () w:=by
  unfold eqGuard
  cases op<;>simp
theorem Ca {s u:ByteArray}(O:Fr n a F)(hx:look F x=some (.string s))(hy:look F y=some (.string u)):BX P ⟨d,.binOp .eql T x y T',t,pos,af,gd⟩ a w (.bool (decide (s.toList=u.toList))):=
  Ah (by
    simp [execOp,LU,binOp,Op.stringOp,O.eval hx,O.eval hy]
    rw [Bool.eq_iff_iff];simp)
end
end Go.Sw
namespace Go.Sw
open Go Go.RowKit
variable {P : Program}
section
variable {fn : Func} {a : Act} {w : World}
theorem Qw {R:Ending->World->Prop}(hr:fn.results = #[])(hd:a.defers=[])(h:R (.returned (.tuple #[])) w):bodyPost P fn R .ret a w:=
  bodyPost_ret (by rw [Ez,hr];simp) hd h
theorem Mk {R:Ending->World->Prop}(hr:fn.results = #[])(hd:a.defers=[])(h:R (.returned (.tuple #[])) w):bodyPost P fn R .normal a w:=by
  have:=Qw (P:=P) (R:=R) hr hd h;exact this
end
theorem MemX.startX1D {w:World}{b:Nat}{cs:Array Value}{D:A4}(n:Nat)(h:Blk w b cs)(hD:∀ c ds,(c,ds)∈D->Blk w c ds/\c≠b):MemX [b] w w (some (b,cs)::List.replicate n none) D:=by
  have h0:=MemX.startX1 n h;refine ⟨h0.bel,h0.blk,h0.apart,fun c ds hm=>⟨(hD c ds hm).1,fun k e es hk=>?_⟩⟩
  cases k with
  | zero=>simp at hk;rw [← hk.1];exact fun e=>(hD c ds hm).2 e.symm
  | succ k=>simp [List.getElem?_replicate] at hk
theorem K3 {w:World}{b b':Nat}{cs':Array Value}(h:Blk w b' cs')(hn:b'≠b):∀ c ds,(c,ds)∈[(b',cs')]->Blk w c ds/\c≠b:=fun c ds hm=>by simp at hm;obtain ⟨rfl,rfl⟩:=hm;exact ⟨h,hn⟩
end Go.Sw
namespace Go.Sw
open Go Go.RowKit
section
variable {p n q : Int} {T U : Nat -> Nat -> Nat -> Nat} {f v : Nat -> Nat} {M : Nat -> Nat -> Nat}
theorem FD {c:Array Value}(hs:c.size=224)(h0:c[0]? = some (.int .i64 p))(h1:c[1]? = some (.int .i64 n))(hT:∀ i j k,i<6->j<6->k<6->c[2+i*36+j*6+k]? = some (.int .u8 (T i j k:Int)))
    (hf:∀ i,i<6->c[218+i]? = some (.int .u8 (f i:Int))):c=AB p n T f:=by
  apply Array.ext_getElem?
  intro i
  by_cases hi:i<224
  . by_cases e0:i=0
    . subst e0;rw [h0,BM rfl]
    . by_cases e1:i=1
      . subst e1;rw [h1,Aq rfl]
      . by_cases e2:i<218
        . have e:i=2+((i - 2) / 36)*36+((i - 2) / 6%6)*6+(i - 2)%6:=by omega
          rw [e,hT _ _ _ (by omega) (by omega) (by omega),C7 _ _ _ rfl (by omega) (by omega) (by omega)]
        . have e:i=218+(i - 218):=by omega
          rw [e,hf _ (by omega),DH _ rfl (by omega)]
  . rw [Array.getElem?_eq_none (by omega),Array.getElem?_eq_none (by rw [AE];omega)]
theorem Nd {o:Nat}(h:o=0):(AB p n T f).setIfInBounds o (.int .i64 q)=AB q n T f:=by
  subst h;refine FD (by rw [Array.size_setIfInBounds,AE]) ?_ ?_ ?_ ?_
  . rw [Array.getElem?_setIfInBounds_self_of_lt (by rw [AE];omega)]
  . rw [Array.getElem?_setIfInBounds_ne (by omega)];exact Aq rfl
  . intro i j k hi hj hk;rw [Array.getElem?_setIfInBounds_ne (by omega)];exact C7 i j k rfl hi hj hk
  . intro i hi;rw [Array.getElem?_setIfInBounds_ne (by omega)];exact DH i rfl hi
theorem DV {o:Nat}(h:o=1):(AB p n T f).setIfInBounds o (.int .i64 q)=AB p q T f:=by
  subst h;refine FD (by rw [Array.size_setIfInBounds,AE]) ?_ ?_ ?_ ?_
  . rw [Array.getElem?_setIfInBounds_ne (by omega)];exact BM rfl
  . rw [Array.getElem?_setIfInBounds_self_of_lt (by rw [AE];omega)]
  . intro i j k hi hj hk;rw [Array.getElem?_setIfInBounds_ne (by omega)];exact C7 i j k rfl hi hj hk
  . intro i hi;rw [Array.getElem?_setIfInBounds_ne (by omega)];exact DH i rfl hi
theorem Nf {o:Nat}(h:o=2):splice (AB p n T f) o (Cx U)=AB p n U f:=by
  subst h;have hz:2+(Cx U).size<=(AB p n T f).size:=by rw [Dk,AE];omega
  refine FD (by rw [Du _ _ _ hz,AE]) ?_ ?_ ?_ ?_
  . rw [B0 _ _ _ _ hz,if_neg (by omega)];exact BM rfl
  . rw [B0 _ _ _ _ hz,if_neg (by omega)];exact Aq rfl
  . intro i j k hi hj hk;rw [B0 _ _ _ _ hz,Dk,if_pos (by omega)];exact IG i j k (by omega) hi hj hk
  . intro i hi;rw [B0 _ _ _ _ hz,Dk,if_neg (by omega)];exact DH i rfl hi
theorem Eu {o:Nat}(h:o=218):splice (AB p n T f) o (AG v)=AB p n T v:=by
  subst h;have hz:218+(AG v).size<=(AB p n T f).size:=by rw [C8,AE];omega
  refine FD (by rw [Du _ _ _ hz,AE]) ?_ ?_ ?_ ?_
  . rw [B0 _ _ _ _ hz,if_neg (by omega)];exact BM rfl
  . rw [B0 _ _ _ _ hz,if_neg (by omega)];exact Aq rfl
  . intro i j k hi hj hk;rw [B0 _ _ _ _ hz,C8,if_neg (by omega)];exact C7 i j k rfl hi hj hk
  . intro i hi;rw [B0 _ _ _ _ hz,C8,if_pos (by omega)];exact BQ i (by omega) hi
end
variable {P : Program}
section
variable {ops : Array Oper} {Q : Exit -> Act -> World -> Prop} {rest : List Oper} {n : Nat} {F : List (Nat × Value)} {a : Act} {w : World}
theorem mv {d:Nat}{x:Operand}{t:TypeId}{pos:String}{af:Array Edge}{v:Value}(O:Fr n a F)(hx:look F x=some v)(hn:Nat.blt d n=true)
    (h:∀ a',Fr n a' ((d,v)::F)->wpList P ops Q rest a' w):wpList P ops Q (⟨some d,.move x,t,pos,af,none⟩::rest) a w:=st O (Ak O hx) hn h
theorem ag {d:Nat}{x:Operand}{t:TypeId}{pos:String}{af:Array Edge}{v:Value}(O:Fr n a F)(hx:look F x=some v)(hn:Nat.blt d n=true)
    (h:∀ a',Fr n a' ((d,v)::F)->wpList P ops Q rest a' w):wpList P ops Q (⟨some d,.assign x,t,pos,af,none⟩::rest) a w:=st O (IZ O hx) hn h
theorem sr {id:Nat}{l:List Oper}{y:Code}(h:wpList P l.toArray (Exit.then (fun a w=>y.wp P Q a w) Q) l a w):((Code.region id l.toArray false).seq y).wp P Q a w:=sq (wp_region_lit h)
theorem nt {K:Act->World->Prop}{Q':Exit->Act->World->Prop}(h:K a w):wpList P ops (Exit.then K Q') [] a w:=h
theorem ns {id:Nat}{l:List Oper}{y:Code}{Q':Exit->Act->World->Prop}(h:wpList P l.toArray (Exit.then (fun a w=>y.wp P Q a w) Q) l a w):wpList P ops (Exit.then (fun a w=>((Code.region id l.toArray false).seq y).wp P Q a w) Q') [] a w:=sq (wp_region_lit h)
end
section
variable {X : List Nat} {w0 w : World} {D : A4} {W : List Nat} {l : List Fact} {i : Nat} {L0 L : Own} {o : Oper} {a : Act} {n : Nat} {F : List (Nat × Value)} {d : Option Tmp} {x : Operand} {t : TypeId} {pos : String} {af : Array Edge} {gd : Option (Nat × Bool)} {v : Value}
theorem BC (hS:Par X w0 D W L0 L w)(hi:l[i]? = some (.val v))(O:Fr n a F)(hx:look F x=some v):Does P ⟨d,.move x,t,pos,af,gd⟩ a w (After (Par X w0 D W L0) (Cc l) i L w):=AC hS hi (Ak O hx)
end
theorem AM:(∀ n f,(Al n f).size=n)/\(∀ p n T f,(AB p n T f).size=224)/\(∀ v,(AG v).size=6)/\(∀ T,(Cx T).size=216)/\(∀ M,(Db M).size=36):=
  ⟨Bf,fun _ _ _ _=>AE,fun _=>C8,fun _=>Dk,fun _=>Hj⟩
end Go.Sw
namespace Go.Sw
open Go Go.RowKit
variable {P : Program}
section
variable {n : Nat} {F : List (Nat × Value)} {a : Act} {w w0 : World} {d : Option Tmp} {t : TypeId} {pos : String} {af : Array Edge} {gd : Option (Nat × Bool)} {T : TypeId} {x y : Operand} {X : List Nat} {L : Own} {D : A4}
theorem KO {len:Nat}{cs:Array Value}{e:TypeId}(k:Nat)(J:MemX X w0 w L D)(O:Fr n a F)(hx:look F x=some (.int .i64 (len:Int)))(hy:look F y=some (.int .i64 (len:Int)))
    (hJ:∀ w,(Instr.makeSlice T (.int .i64 (len:Int)) (.int .i64 (len:Int))).run P w = .ok (.slice (some ⟨w.heap.size,0,none⟩) len len) (w.alloc (.cells cs e))) :
    Does P ⟨d,.makeSlice T x y,t,pos,af,gd⟩ a w (fun u w'=>∃ b,u = .slice (some ⟨b,0,none⟩) len len/\MemX X w0 w' (L.set k (some (b,cs))) D/\Ext w w'):=
  ⟨fun K Q hk=>by
    have:=hk _ (w.alloc (.cells cs e)) ⟨w.heap.size,rfl,J.fill (Ext.alloc _ _) k (Blk.new _ _ _) (Nat.le_refl _),Ext.alloc _ _⟩
    unfold Oper.wp execOp
    simp only [O.eval hx,O.eval hy,Sem.run_bind,hJ,Result.andThen_ok,Sem.run_pure]
    exact this⟩
theorem Mf {b o len c k:Nat}{e:TypeId}(hT:P.underlying T=some (.array k e))(O:Fr n a F)(hx:look F x=some (.slice (some ⟨b,o,none⟩) len c))(hk:k<=len):BX P ⟨d,.sliceToArrayPointer T x,t,pos,af,gd⟩ a w (ptr b o):=
  Ah (by simp [execOp,O.eval hx,Instr.arrayAt,run_underlying hT,show ¬ len<k by omega])
end
end Go.Sw
namespace Go.Sw
open Go Go.RowKit
variable {P : Program}
theorem MemX.addD {X:List Nat}{w0 w w':World}{L:Own}{D D':A4}(h:MemX X w0 w L D)(hb:Ext w w')(hD:∀ b cs,(b,cs)∈D'->w.heap.size<=b/\Blk w' b cs):MemX X w0 w' L (D'++D):=by
  have h2:=h.ext hb;refine ⟨h2.bel,h2.blk,h2.apart,fun b cs hm=>?_⟩
  rcases List.mem_append.1 hm with hm | hm
  . refine ⟨(hD b cs hm).2,fun k c ds hk e=>?_⟩
    have h3:=(h.blk k c ds hk).2.lt;have h4:=(hD b cs hm).1
    omega
  . exact h2.froz b cs hm
theorem MemX.addD1 {X:List Nat}{w0 we w:World}{L:Own}{D:A4}{b:Nat}{cs:Array Value}(he:MemX X w0 we L D)(h:MemX X w0 w L D)(hb:we.heap.size<=b)(hk:Blk w b cs):MemX X w0 w L ((b,cs)::D):=
  ⟨h.bel,h.blk,h.apart,fun c ds hm=>by
    rcases List.mem_cons.1 hm with e | hm
    . simp only [Prod.mk.injEq] at e;obtain ⟨rfl,rfl⟩:=e
      refine ⟨hk,fun k c es hkk e=>?_⟩
      have:=(he.blk k c es hkk).2.lt
      omega
    . exact h.froz c ds hm⟩
theorem MemX.fzm {X:List Nat}{w0 w:World}{L:Own}{D:A4}(h:MemX X w0 w L D){b:Nat}{cs:Array Value}(hk:(b,cs)∈D):Blk w b cs:=(h.froz b cs hk).1
def up {α:Type} (f:Nat->α) (m:Nat) (x:α) (i:Nat):α:=if i=m then x else f i
theorem CS {α:Type}{f:Nat->α}{m:Nat}{x:α}:up f m x m=x:=by simp [up]
theorem CR {α:Type}{f:Nat->α}{m i:Nat}{x:α}(h:i≠m):up f m x i=f i:=by simp [up,h]
structure RowsD (D:A4) (N m:Nat) (β κ:Nat->Nat) (C:Nat->Array Value) (f:Nat->Nat->Value):Prop where
  mem:∀ i,i<m->(β i,C i)∈D
  sl:∀ i,i<m->SlAt 1 (.slice (some ⟨β i,0,none⟩) N (κ i)) (some (β i,C i)) N (β i) (κ i) (C i) (f i)
namespace RowsD
variable {D D' : A4} {N m : Nat} {β κ : Nat -> Nat} {C : Nat -> Array Value} {f : Nat -> Nat -> Value}
theorem get (h:RowsD D N m β κ C f){i:Nat}(hi:i<m)(c:Nat)(hc:c<N):(C i)[0+c*1]? = some (f i c):=(h.sl i hi).get1 c hc
theorem more (h:RowsD D N m β κ C f)(hs:∀ x∈D,x∈D'):RowsD D' N m β κ C f:=⟨fun i hi=>hs _ (h.mem i hi),h.sl⟩
theorem none:RowsD D N 0 β κ C f:=⟨fun i hi=>absurd hi (by omega),fun i hi=>absurd hi (by omega)⟩
theorem congr (h:RowsD D N m β κ C f){g:Nat->Nat->Value}(hf:∀ i,i<m->∀ c,c<N->f i c=g i c):RowsD D N m β κ C g:=
  ⟨h.mem,fun i hi=>by
    have:=h.sl i hi
    exact ⟨this.val,this.ent,this.le,this.max,this.sz,fun c hc=>by rw [← hf i hi c (by omega)];exact this.get c hc⟩⟩
theorem snoc (h:RowsD D N m β κ C f){b cap:Nat}{cs:Array Value}{v:Value}{r:Nat->Value}(hm:(b,cs)∈D)(hs:SlAt 1 v (some (b,cs)) N b cap cs r):RowsD D N (m+1) (up β m b) (up κ m cap) (up C m cs) (up f m r):=
  ⟨fun i hi=>by
    by_cases e:i=m
    . subst e;simp only [CS];exact hm
    . simp only [CR e];exact h.mem i (by omega),
   fun i hi=>by
    by_cases e:i=m
    . subst e;simp only [CS];have:=hs.val;subst this;exact hs
    . simp only [CR e];exact h.sl i (by omega)⟩
end RowsD
def RT (β κ:Nat->Nat) (N:Nat) (i:Nat):Value:=.slice (some ⟨β i,0,none⟩) N (κ i)
def RowsOut (w w':World) (N k:Nat) (f:Nat->Nat->Value) (u:Value):Prop:=∃ (D:A4) (β κ:Nat->Nat) (C:Nat->Array Value) (b cap:Nat) (cs:Array Value),
  (∀ x ds,(x,ds)∈D->w.heap.size<=x/\Blk w' x ds)/\RowsD D N k β κ C f/\SlAt 1 u (some (b,cs)) k b cap cs (fun i=>.slice (some ⟨β i,0,none⟩) N (κ i))/\(b,cs)∈D
theorem SlAt.set {v:Value}{n b cap:Nat}{cs:Array Value}{f g:Nat->Value}{x:Value}(h:SlAt 1 v (some (b,cs)) n b cap cs f)(i:Nat){o:Nat}(ho:o=i)(hi:i<n)(hg:∀ j,j<n->g j=if j=i then x else f j):SlAt 1 v (some (b,cs.setIfInBounds o x)) n b cap (cs.setIfInBounds o x) g:=by
  subst ho;refine ⟨h.val,rfl,h.le,h.max,by rw [Array.size_setIfInBounds];exact h.sz,fun j hj=>?_⟩;rw [Array.getElem?_setIfInBounds];have hsz:=h.sz;have hle:=h.le
  by_cases e:o=j
  . subst e;rw [if_pos rfl,if_pos (by omega),hg o hi,if_pos rfl]
  . rw [if_neg e,hg j (by omega),if_neg (fun x=>e x.symm)];exact h.get j hj
theorem SlAt.congr {size:Nat}{v:Value}{e:Option (Nat×Array Value)}{n b cap:Nat}{cs:Array Value}{f g:Nat->Value}(h:SlAt size v e n b cap cs f)(hf:∀ i,i<n*size->f i=g i):SlAt size v e n b cap cs g:=
  ⟨h.val,h.ent,h.le,h.max,h.sz,fun i hi=>by rw [← hf i hi];exact h.get i hi⟩
theorem OwnSl.congr {size n:Nat}{w w':World}{v:Value}{f g:Nat->Value}(h:OwnSl size w n f v w')(hf:∀ i,i<n*size->f i=g i):OwnSl size w n g v w':=by
  obtain ⟨b,cap,cs,h1,h2,h3⟩:=h;exact ⟨b,cap,cs,h1.congr hf,h2,h3⟩
theorem CallsR.mono {f:FuncId}{args:Array Value}{w:World}{R R':Value->World->Prop}(h:CallsR P f args w R)(hr:∀ v w',Ext w w'->R v w'->R' v w'):CallsR P f args w R':=
  Calls.mono h (fun _ _ ⟨v,he,h1,h2⟩=>⟨v,he,h1,hr v _ h1 h2⟩)
theorem RowsOut.of {w w':World}{L:Own}{D:A4}{N k:Nat}{β κ:Nat->Nat}{C:Nat->Array Value}{f:Nat->Nat->Value}{u:Value}{b cap:Nat}{cs:Array Value}(J:AT w w' L D)(hR:RowsD D N k β κ C f)
    (hs:SlAt 1 u (some (b,cs)) k b cap cs (fun i=>.slice (some ⟨β i,0,none⟩) N (κ i))) (hm:(b,cs)∈D) (hge:∀ i,i<k->w.heap.size<=β i) (hb:w.heap.size<=b):RowsOut w w' N k f u:=by
  refine ⟨(b,cs)::(List.range k).map (fun i=>(β i,C i)),β,κ,C,b,cap,cs,fun x ds hx=>?_,⟨fun i hi=>?_,hR.sl⟩,hs,List.mem_cons_self ..⟩
  . rcases List.mem_cons.1 hx with e | hx
    . simp only [Prod.mk.injEq] at e;obtain ⟨rfl,rfl⟩:=e;exact ⟨hb,J.fzm hm⟩
    . obtain ⟨i,hi,e⟩:=List.mem_map.1 hx
      simp only [Prod.mk.injEq] at e;obtain ⟨rfl,rfl⟩:=e;have hi:i<k:=by simpa using hi
      exact ⟨hge i hi,J.fzm (hR.mem i hi)⟩
  . exact List.mem_cons_of_mem _ (List.mem_map.2 ⟨i,by simpa using hi,rfl⟩)
theorem Sl.snocR {u:Value}{e:Option (Nat×Array Value)}{n N b cap:Nat}{β κ:Nat->Nat}(h:Sl 1 u e (n+1) (fun i=>if i<n*1 then (fun i=>.slice (some ⟨β i,0,none⟩) N (κ i)) i else (fun _=>.slice (some ⟨b,0,none⟩) N cap) (i - n*1))) :
    Sl 1 u e (n+1) (fun i=>.slice (some ⟨up β n b i,0,none⟩) N (up κ n cap i)):=
  h.congr fun i hi=>by
    by_cases e:i<n
    . rw [if_pos (by omega)];simp only [CR (show i≠n by omega)]
    . rw [if_neg (by omega)];simp only [show i=n by omega,CS]
def FreshSl (w0:World) (L:Own) (N:Nat) (f:Nat->Value) (u:Value) (w':World):Prop:=∃ b cap cs,SlAt 1 u (some (b,cs)) N b cap cs f/\Blk w' b cs/\w0.heap.size<=b/\∀ (k:Nat) c ds,L[k]? = some (some (c,ds))->c≠b
def LitF (w0:World) (L:Own) (N:Nat) (f:Nat->Value) (u:Value) (w':World):Prop:=∃ b x,u = .slice (some ⟨b,0,none⟩) 1 1/\Blk w' b #[x]/\FreshSl w0 L N f x w'
theorem FreshSl.last {w0 w w':World}{L:Own}{N:Nat}{f:Nat->Value}{u:Value}(h:FreshSl w0 L N f u w)(hx:Ext w w'):FreshSl w0 L N f u w':=by
  obtain ⟨b,cap,cs,h1,h2,h3⟩:=h;exact ⟨b,cap,cs,h1,h2.ext hx,h3⟩
theorem LitF.last {w0 w w':World}{L:Own}{N:Nat}{f:Nat->Value}{u:Value}(h:LitF w0 L N f u w)(hx:Ext w w'):LitF w0 L N f u w':=by
  obtain ⟨b,x,h1,h2,h3⟩:=h;exact ⟨b,x,h1,h2.ext hx,h3.last hx⟩
theorem OwnSl.fresh {X:List Nat}{w0 w w':World}{L:Own}{D:A4}{N:Nat}{f:Nat->Value}{u:Value}(J:MemX X w0 w L D)(h:OwnSl 1 w N f u w'):FreshSl w0 L N f u w':=by
  obtain ⟨b,cap,cs,h1,h2,h3⟩:=h;refine ⟨b,cap,cs,h1,h3,Nat.le_trans J.bel.size h2,fun k c ds hk e=>?_⟩;have:=(J.blk k c ds hk).2.lt
  omega
theorem MemX.addF {X:List Nat}{w0 w:World}{L:Own}{D:A4}{N:Nat}{f:Nat->Value}{u:Value}(h:MemX X w0 w L D)(hf:FreshSl w0 L N f u w):∃ b cap cs,SlAt 1 u (some (b,cs)) N b cap cs f/\w0.heap.size<=b/\MemX X w0 w L ((b,cs)::D):=by
  obtain ⟨b,cap,cs,h1,h2,h3,h4⟩:=hf;refine ⟨b,cap,cs,h1,h3,h.bel,h.blk,h.apart,fun c ds hm=>?_⟩
  rcases List.mem_cons.1 hm with e | hm
  . simp only [Prod.mk.injEq] at e;obtain ⟨rfl,rfl⟩:=e;exact ⟨h2,h4⟩
  . exact h.froz c ds hm
section
variable {X : List Nat} {w0 : World} {D : A4} {l : List Fact} {i : Nat} {L0 L : Own} {o : Oper} {a : Act} {w : World}
theorem HQ {N:Nat}{f:Nat->Value}(hl:Lasts l)(hS:Par X w0 D [] L0 L w)(hi:l[i]? = some (.rel (FreshSl w0 L0 N f)))(hc:Does P o a w (fun u w'=>Ext w w'/\OwnSl 1 w N f u w')) :
    Does P o a w (After (Par X w0 D [] L0) (Cc l) i L w):=
  E3 hl hS hi hc (fun _ _ h=>OwnSl.fresh (hS.mem rfl) h)
theorem MK {n:Nat}{F:List (Nat×Value)}{N:Nat}{f:Nat->Value}{T e:TypeId}{x:Operand}{v:Value}{d:Option Tmp}{t:TypeId}{pos:String}{af:Array Edge}{gd:Option (Nat×Bool)}(O:Fr n a F)(hx:look F x=some v)(hf:FreshSl w0 L0 N f v w)
    (hJ:∀ (x:Option Addr) (n c:Nat) (w:World),(Instr.buildSlice T 1 #[(0,.slice x n c)]).run P w = .ok (.slice (some ⟨w.heap.size,0,none⟩) 1 1) (w.alloc (.cells #[.slice x n c] e))) :
    Does P ⟨d,.buildSlice T 1 #[(0,x)],t,pos,af,gd⟩ a w (fun u w'=>Ext w w'/\LitF w0 L0 N f u w'):=
  ⟨fun K Q hk=>by
    have hf':=hf
    obtain ⟨b,cap,cs,h1,_⟩:=hf'
    have h1v:=h1.val
    have:=hk _ (w.alloc (.cells #[v] e)) ⟨Ext.alloc _ _,w.heap.size,v,rfl,Blk.new _ _ _,hf.last (Ext.alloc _ _)⟩
    unfold Oper.wp execOp
    have e1:(#[(0,x)].map fun (i,x)=>(i,a.eval x)) = #[(0,v)]:=by simp [O.eval hx]
    simp only [e1,Sem.run_bind]
    subst h1v
    rw [hJ]
    exact this⟩
end
theorem SlAt.get1e {v:Value}{e:Option (Nat×Array Value)}{n b cap:Nat}{cs:Array Value}{f:Nat->Value}{x:Value}(h:SlAt 1 v e n b cap cs f)(i:Nat)(hi:i<n)(hx:f i=x):cs[0+i*1]? = some x:=by
  rw [← hx];exact h.get1 i hi
end Go.Sw
namespace Go.Ech
def sI (f:Nat->Int):Nat->Int
  | 0=>0
  | n+1=>sI f n+f n
theorem Ao {f g:Nat->Int}{n:Nat}(h:∀ i,i<n->f i=g i):sI f n=sI g n:=by
  induction n with
  | zero=>rfl
  | succ n ih=>simp only [sI];rw [ih (fun i hi=>h i (by omega)),h n (by omega)]
theorem DZ {f:Nat->Int}{n:Nat}(h:∀ i,i<n->f i=0):sI f n=0:=by
  induction n with
  | zero=>rfl
  | succ n ih=>simp only [sI];rw [ih (fun i hi=>h i (by omega)),h n (by omega)];rfl
theorem Cs {f:Nat->Int}{n a:Nat}(ha:a<n)(h:∀ i,i<n->i≠a->f i=0):sI f n=f a:=by
  induction n with
  | zero=>omega
  | succ n ih =>
    simp only [sI]
    by_cases e:a=n
    . subst e;rw [DZ (fun i hi=>h i (by omega) (by omega))];omega
    . rw [ih (by omega) (fun i hi=>h i (by omega)),h n (by omega) (by omega)];omega
theorem Lt {f:Nat->Int}{n a b:Nat}(ha:a<n)(hb:b<n)(hab:a≠b)(h:∀ i,i<n->i≠a->i≠b->f i=0):sI f n=f a+f b:=by
  induction n with
  | zero=>omega
  | succ n ih =>
    simp only [sI]
    by_cases e:a=n
    . subst e;rw [Cs (a:=b) (by omega) (fun i hi hib=>h i (by omega) (by omega) hib)];omega
    . by_cases e2:b=n
      . subst e2;rw [Cs (a:=a) (by omega) (fun i hi hia=>h i (by omega) hia (by omega))]
      . rw [ih (by omega) (by omega) (fun i hi=>h i (by omega)),h n (by omega) (by omega) (by omega)];omega
theorem D6 (f g:Nat->Int)(n:Nat):sI (fun i=>f i+g i) n=sI f n+sI g n:=by
  induction n with
  | zero=>rfl
  | succ n ih=>simp only [sI];rw [ih];omega
theorem Ct (k:Int)(f:Nat->Int)(n:Nat):sI (fun i=>k*f i) n=k*sI f n:=by
  induction n with
  | zero=>simp [sI]
  | succ n ih=>simp only [sI];rw [ih,Int.mul_add]
theorem Da {p:Int}{f:Nat->Int}{n:Nat}(h:∀ i,i<n->p∣f i):p∣sI f n:=by
  induction n with
  | zero=>exact Int.dvd_zero p
  | succ n ih=>exact Int.dvd_add (ih fun i hi=>h i (by omega)) (h n (by omega))
theorem C9 (f:Nat->Nat->Int)(n m:Nat):sI (fun i=>sI (fun j=>f i j) m) n=sI (fun j=>sI (fun i=>f i j) n) m:=by
  induction n with
  | zero=>simp only [sI];exact (DZ fun i _=>rfl).symm
  | succ n ih=>simp only [sI];rw [ih,← D6]
def dot (N:Nat) (r x:Nat->Int):Int:=sI (fun c=>r c*x c) N
abbrev ci (r:Nat->Nat):Nat->Int:=fun c=>(r c:Int)
def Ker (p N:Nat) (M:Nat->Nat->Nat) (m:Nat) (x:Nat->Int):Prop:=∀ i,i<m->(p:Int)∣dot N (ci (M i)) x
theorem Mm {p N:Nat}{r s t x:Nat->Int}{k:Int}(h:∀ c,c<N->(p:Int)∣t c - (r c+k*s c)):(p:Int)∣dot N t x - (dot N r x+k*dot N s x):=by
  unfold dot
  have e:sI (fun c=>t c*x c) N - (sI (fun c=>r c*x c) N+k*sI (fun c=>s c*x c) N)=sI (fun c=>(t c - (r c+k*s c))*x c) N:=by
    rw [← Ct,← D6];have:sI (fun c=>t c*x c) N=sI (fun c=>(t c - (r c+k*s c))*x c) N+sI (fun c=>r c*x c+k*(s c*x c)) N:=by
      rw [← D6];exact Ao fun c _=>by grind
    omega
  rw [e];exact Da fun c hc=>Int.dvd_mul_of_dvd_left (h c hc)
theorem Ec {p a b:Int}(h:p∣a - b):p∣a↔p∣b:=by
  constructor
  . intro ha;have:=Int.dvd_sub ha h;rwa [show a - (a - b)=b by omega] at this
  . intro hb;have:=Int.dvd_add hb h;rwa [show b+(a - b)=a by omega] at this
theorem PK (N:Nat)(r x y:Nat->Int):dot N r (fun c=>x c+y c)=dot N r x+dot N r y:=by
  unfold dot;rw [← D6];exact Ao fun c _=>by grind
theorem PI (N:Nat)(k:Int)(r x:Nat->Int):dot N r (fun c=>k*x c)=k*dot N r x:=by
  unfold dot;rw [← Ct];exact Ao fun c _=>by grind
structure Rref (p N:Nat) (E:Nat->Nat->Nat) (k:Nat) (ld:Nat->Nat):Prop where
  lt:∀ i,i<k->ld i<N
  mono:∀ i j,i<j->j<k->ld i<ld j
  one:∀ i,i<k->E i (ld i)=1
  left:∀ i,i<k->∀ c,c<ld i->E i c=0
  zero:∀ i j,i<k->j<k->i≠j->E j (ld i)=0
  small:∀ i,i<k->∀ c,c<N->E i c<p
def DW (k:Nat) (ld:Nat->Nat) (c:Nat):Prop:=∃ i,i<k/\ld i=c
instance (k:Nat) (ld:Nat->Nat) (c:Nat):Decidable (DW k ld c):=inferInstanceAs (Decidable (∃ i,i<k/\ld i=c))
def D7 (k:Nat) (ld:Nat->Nat) (c:Nat):Option Nat:=(List.range k).find? (fun i=>ld i == c)
theorem CM {k:Nat}{ld:Nat->Nat}{c i:Nat}(h:D7 k ld c=some i):i<k/\ld i=c:=by
  unfold D7 at h
  have h1:=List.find?_some h;have h2:=List.mem_of_find?_eq_some h;exact ⟨by simpa using h2,by simpa using h1⟩
theorem HS {k:Nat}{ld:Nat->Nat}{c:Nat}(h:D7 k ld c=none):∀ i,i<k->ld i≠c:=by
  unfold D7 at h
  intro i hi e;have:=List.find?_eq_none.1 h i (by simpa using hi)
  simp [e] at this
def free (E:Nat->Nat->Nat) (k:Nat) (ld:Nat->Nat) (c:Nat):Nat->Int:=fun d=>
  if d=c then 1 else match D7 k ld d with
    | some j=>-(E j c:Int)
    | none=>0
namespace Rref
variable {p N k : Nat} {E : Nat -> Nat -> Nat} {ld : Nat -> Nat}
theorem inj (h:Rref p N E k ld){i j:Nat}(hi:i<k)(hj:j<k)(e:ld i=ld j):i=j:=by
  rcases Nat.lt_trichotomy i j with hh | hh | hh
  . have:=h.mono i j hh hj;omega
  . exact hh
  . have:=h.mono j i hh hi;omega
theorem ldAt_eq (h:Rref p N E k ld){i:Nat}(hi:i<k):D7 k ld (ld i)=some i:=by
  cases e:D7 k ld (ld i) with
  | none=>exact absurd rfl (HS e i hi)
  | some j=>have:=CM e;rw [h.inj this.1 hi this.2]
theorem free_ker (h:Rref p N E k ld){c:Nat}(hc:c<N)(hn:¬ DW k ld c):Ker p N E k (free E k ld c):=by
  intro i hi;have hne:c≠ld i:=fun e=>hn ⟨i,hi,e.symm⟩;have e:dot N (ci (E i)) (free E k ld c)=0:=by
    unfold dot
    rw [Lt hc (h.lt i hi) hne]
    . have h1:free E k ld c c=1:=by simp [free]
      have h2:free E k ld c (ld i) = -(E i c:Int):=by
        unfold free;rw [if_neg (Ne.symm hne),h.ldAt_eq hi]
      rw [h1,h2];simp only [ci,h.one i hi];omega
    . intro d hd hdc hdi
      unfold free;rw [if_neg hdc]
      cases e:D7 k ld d with
      | none=>simp
      | some j =>
        obtain ⟨hj,rfl⟩:=CM e;have:j≠i:=fun e=>hdi (by rw [e])
        simp [ci,h.zero j i hj hi this]
  rw [e];exact Int.dvd_zero _
theorem ker_lead (h:Rref p N E k ld){x:Nat->Int}(hx:Ker p N E k x){i:Nat}(hi:i<k)(hz:∀ d,ld i<d->d<N->x d=0):(p:Int)∣x (ld i):=by
  have:=hx i hi
  unfold dot at this
  rw [Cs (h.lt i hi)] at this
  . simpa [ci,h.one i hi] using this
  . intro d hd hne
    rcases Nat.lt_or_gt_of_ne hne with hh | hh
    . simp [ci,h.left i hi d hh]
    . simp [hz d hh hd]
end Rref
theorem MZ {k k':Nat}{ld ld':Nat->Nat}(hm:∀ i j,i<j->j<k->ld i<ld j)(hm':∀ i j,i<j->j<k'->ld' i<ld' j)(h:∀ c,DW k ld c↔DW k' ld' c) :
    k=k'/\∀ i,i<k->ld i=ld' i:=by
  have half:∀ {k k':Nat} {ld ld':Nat->Nat},(∀ i j,i<j->j<k->ld i<ld j)->(∀ i j,i<j->j<k'->ld' i<ld' j)->(∀ c,DW k ld c↔DW k' ld' c)->∀ i,(∀ j,j<i->j<k/\j<k'/\ld j=ld' j)->i<k->i<k'/\ld' i<=ld i:=by
    intro k k' ld ld' hm hm' h i hO hi;obtain ⟨j,hj,e⟩:=(h (ld i)).1 ⟨i,hi,rfl⟩;have hij:i<=j:=by
      rcases Nat.lt_or_ge j i with hh | hh
      . have:=hO j hh;have:=hm j i hh hi;omega
      . exact hh
    refine ⟨by omega,?_⟩
    by_cases e2:i=j
    . subst e2;omega
    . have:=hm' i j (by omega) hj;omega
  have key:∀ i,(∀ j,j<i->j<k/\j<k'/\ld j=ld' j)->(i<k↔i<k')/\(i<k->ld i=ld' i):=by
    intro i hO;have a:=half hm hm' h i hO;have b:=half hm' hm (fun c=>(h c).symm) i (fun j hj=>⟨(hO j hj).2.1,(hO j hj).1,(hO j hj).2.2.symm⟩);refine ⟨⟨fun x=>(a x).1,fun x=>(b x).1⟩,fun x=>?_⟩;have:=a x;have:=b this.1;omega
  have all:∀ i,i<=k->i<=k'->∀ j,j<i->j<k/\j<k'/\ld j=ld' j:=by
    intro i
    induction i with
    | zero=>intro _ _ j hj;omega
    | succ i ih =>
      intro h1 h2 j hj;have hi:=ih (by omega) (by omega)
      by_cases e:j=i
      . subst e;exact ⟨by omega,by omega,(key j hi).2 (by omega)⟩
      . exact hi j (by omega)
  have hk:k=k':=by
    rcases Nat.lt_trichotomy k k' with hh | hh | hh
    . have:=(key k (all k (Nat.le_refl _) (by omega))).1.2 hh;omega
    . exact hh
    . have:=(key k' (all k' (by omega) (Nat.le_refl _))).1.1 hh;omega
  exact ⟨hk,fun i hi=>(all k (Nat.le_refl _) (by omega) i hi).2.2⟩
theorem K5 {p N k k':Nat}{E E':Nat->Nat->Nat}{ld ld':Nat->Nat}(hp:2<=p)(h:Rref p N E k ld)(h':Rref p N E' k' ld')(hk:∀ x,Ker p N E k x↔Ker p N E' k' x) :
    k=k'/\(∀ i,i<k->ld i=ld' i)/\∀ i,i<k->∀ c,c<N->E i c=E' i c:=by
  have half:∀ {k k':Nat} {E E':Nat->Nat->Nat} {ld ld':Nat->Nat},Rref p N E k ld->Rref p N E' k' ld'->(∀ x,Ker p N E k x↔Ker p N E' k' x)->∀ c,DW k ld c->DW k' ld' c:=by
    intro k k' E E' ld ld' h h' hk c hc;obtain ⟨i,hi,rfl⟩:=hc;refine Decidable.byContradiction fun hn=>?_;have hx:=(hk _).2 (h'.free_ker (h.lt i hi) hn)
    have:=h.ker_lead hx hi (fun d hd hdN=>by
      unfold free;rw [if_neg (by omega)]
      cases e:D7 k' ld' d with
      | none=>rfl
      | some j=>obtain ⟨hj,rfl⟩:=CM e;simp [h'.left j hj _ hd])
    simp only [free,if_true] at this;have:=Int.le_of_dvd (by omega) this
    omega
  have hld:=MZ h.mono h'.mono (fun c=>⟨half h h' hk c,half h' h (fun x=>(hk x).symm) c⟩);obtain ⟨rfl,hl⟩:=hld;refine ⟨rfl,hl,fun i hi c hc=>?_⟩
  by_cases hlc:DW k ld c
  . obtain ⟨j,hj,rfl⟩:=hlc
    by_cases e:j=i
    . subst e;rw [h.one j hj,hl j hj,h'.one j hj]
    . rw [h.zero j i hj hi e,hl j hj,h'.zero j i hj hi e]
  . have hx:=(hk _).1 (h.free_ker hc hlc) i hi
    have hne:c≠ld' i:=fun e=>hlc ⟨i,hi,by rw [hl i hi,e]⟩;have e:dot N (ci (E' i)) (free E k ld c)=(E' i c:Int) - (E i c:Int):=by
      unfold dot
      rw [Lt hc (h'.lt i hi) hne]
      . have h1:free E k ld c c=1:=by simp [free]
        have h2:free E k ld c (ld' i) = -(E i c:Int):=by
          unfold free;rw [if_neg (Ne.symm hne),← hl i hi,h.ldAt_eq hi]
        rw [h1,h2];simp only [ci,h'.one i hi];omega
      . intro d hd hdc hdi
        unfold free;rw [if_neg hdc]
        cases e:D7 k ld d with
        | none=>simp
        | some j =>
          obtain ⟨hj,rfl⟩:=CM e;have:j≠i:=fun e=>hdi (by rw [e,hl i hi])
          simp [ci,hl j hj,h'.zero j i hj hi this]
    rw [e] at hx;have h1:=h.small i hi c hc;have h2:=h'.small i hi c hc;obtain ⟨q,hq⟩:=hx;have:q=0:=by
      rcases Int.lt_trichotomy q 0 with hh | hh | hh
      . have:=Int.mul_le_mul_of_nonneg_left (show q<=-1 by omega) (show (0:Int)<=p by omega);omega
      . exact hh
      . have:=Int.mul_le_mul_of_nonneg_left (show 1<=q by omega) (show (0:Int)<=p by omega);omega
    subst this;omega
end Go.Ech
