import Derived.Test.YtgioobkkkicfeaaSw6
set_option linter.unusedVariables false
set_option linter.unusedSimpArgs false
namespace Go.Sw
open Go Go.RowKit
variable {P : Program}
structure SlAt (size:Nat) (v:Value) (e:Option (Nat×Array Value)) (n b cap:Nat) (cs:Array Value) (f:Nat->Value):Prop where
  val:v = .slice (some ⟨b,0,none⟩) n cap
  ent:e=some (b,cs)
  le:n<=cap
  max:cap<=maxLen
  sz:cs.size=cap*size
  get:∀ i,i<n*size->cs[i]? = some (f i)
def Sl (size:Nat) (v:Value) (e:Option (Nat×Array Value)) (n:Nat) (f:Nat->Value):Prop:=
  (v = .slice none 0 0/\e=none/\n=0)\/∃ b cap cs,SlAt size v e n b cap cs f
theorem Sl.nil (size:Nat)(f:Nat->Value):Sl size (.slice none 0 0) none 0 f:=.inl ⟨rfl,rfl,rfl⟩
theorem Sl.pos {size n:Nat}{v:Value}{e:Option (Nat×Array Value)}{f:Nat->Value}(h:Sl size v e n f)(hn:0<n):∃ b cap cs,v = .slice (some ⟨b,0,none⟩) n cap/\e=some (b,cs)/\SlAt size v e n b cap cs f:=by
  rcases h with ⟨_,_,h0⟩ | ⟨b,cap,cs,h⟩
  . omega
  . exact ⟨b,cap,cs,h.val,h.ent,h⟩
theorem Sl.congr {size n:Nat}{v:Value}{e:Option (Nat×Array Value)}{f g:Nat->Value}(h:Sl size v e n f)(hf:∀ i,i<n*size->f i=g i):Sl size v e n g:=by
  rcases h with h | ⟨b,cap,cs,h⟩
  . exact .inl h
  . exact .inr ⟨b,cap,cs,h.val,h.ent,h.le,h.max,h.sz,fun i hi=>by rw [← hf i hi];exact h.get i hi⟩
def OF (P:Program) (T:TypeId):Option (TypeId×Option Value×Nat×Nat):=
  match P.underlying T with
  | some (.slice e)=>(P.info? e).map fun i=>(e,i.zero,i.size,i.bytes)
  | _=>none
theorem Ey (w:World)(o:Obj):Ext w (w.drew.alloc o):=
  Below.alloc (Below.drew (Below.refl w.heap.size w)) (Nat.le_refl _) o
theorem Lf {X:List Nat}{w0 w:World}{L:Own}{D:Al}{T e:TypeId}{z:Value}{size bytes n k m bx ox cx:Nat}{v:Value}{ent:Option (Nat×Array Value)}{f g:Nat->Value}(hT:OF P T=some (e,some z,size,bytes))(hz:z.cells.size=size)(hs0:0<size)
    (J:MemX X w0 w L D) (hk:L[k]? = some ent) (hv:Sl size v ent n f) (hg:∀ i,i<m*size->w.cell? ⟨bx,ox+i,none⟩=some (g i)) (h1:∀ i,i<m*size->(g i).oneCell'=true)
    (hm:0<m) (h63:n+m<=maxLen) (hb:(n+m)*bytes<=140737488355328) (ty:TypeId) :
    ∃ u w' e',(Builtin.append_ #[T,T] ty #[v,.slice (some ⟨bx,ox,none⟩) m cx]).run P w = .ok u w'/\MemX X w0 w' (L.set k e') D/\Sl size u e' (n+m) (fun i=>if i<n*size then f i else g (i - n*size)):=by
  unfold OF at hT
  cases hu:P.underlying T with
  | none=>simp [hu] at hT
  | some dd =>
    cases dd<;>simp [hu] at hT
    rename_i el
    obtain ⟨inf,hinf,rfl,hz0,hsz,hby⟩:=hT;subst hsz;subst hby
    have hm0:n+m<=9223372036854775807:=by simp only [maxLen] at h63;omega
    have hnl:(((List.range (m*inf.size)).map g)).length=m*inf.size:=by simp
    have hnews:∀ j u,((List.range (m*inf.size)).map g)[j]? = some u->w.cell? ((⟨bx,ox,none⟩:Addr).add j)=some u:=by
      intro j u hj;have hlt:j<m*inf.size:=by have:=(List.getElem?_eq_some_iff.1 hj).1;simpa using this
      rw [Addr.add_lit,hg j hlt]
      simp [hlt] at hj;rw [hj]
    have hone:∀ u∈(List.range (m*inf.size)).map g,u.oneCell'=true:=by
      intro u hu';obtain ⟨i,hi,rfl⟩:=List.mem_map.1 hu';exact h1 i (by simpa using hi)
    rcases hv with ⟨rfl,rfl,rfl⟩ | ⟨b,cap,cs,hat⟩
    . have hr:=run_append_nil (P:=P) w T ty el inf z hu hinf hz0 ⟨bx,ox,none⟩ m cx _ hnl hnews hm (by omega) (by simp only [Nat.zero_add] at hb;omega)
      refine ⟨_,_,_,hr,J.fill (Ey _ _) k (Blk.new w.drew _ _) (Nat.le_refl _),.inr ⟨_,_,_,⟨by rw [Nat.zero_add];rfl,rfl,?_,grownCap_le_maxLen w m 0 el (by omega),?_,?_⟩⟩⟩
      . have:=grownCap_ge w m 0 el;omega
      . have:=grownCap_ge w m 0 el
        simp only [Array.size_append,List.size_toArray,hnl,size_zeroCells,hz,← Nat.add_mul]
        congr 1;omega
      . intro i hi
        rw [Nat.zero_add] at hi;rw [if_neg (by simp),Array.getElem?_append,if_pos (by simpa using hi)]
        simp [hi]
    . obtain ⟨rfl,rfl,hle,hmax,hcsz,hget⟩:=hat
      have hblk:=J.row k hk
      by_cases hroom:n+m<=cap
      . obtain ⟨tt,hgg⟩:=hblk
        have hf:=run_firstCells_some (P:=P) w inf.size m ⟨bx,ox,none⟩ m cx _ hnl hnews;have hfit:n*inf.size+((List.range (m*inf.size)).map g).length<=cs.size:=by rw [hnl,hcsz,← Nat.add_mul];exact Nat.mul_le_mul_right _ hroom
        have hst:=run_storeCells_at P b (n*inf.size) tt ((List.range (m*inf.size)).map g) 0 cs w hgg (by simpa using hfit) hone;simp only [Nat.add_zero] at hst;have hr:(Builtin.append_ #[T,T] ty #[.slice (some ⟨b,0,none⟩) n cap,.slice (some ⟨bx,ox,none⟩) m cx]).run P w = .ok (.slice (some ⟨b,0,none⟩) (n+m) cap) (w.setRow b (splice cs (n*inf.size) ((List.range (m*inf.size)).map g).toArray)):=by
          simp [Builtin.append_,run_underlying hu,Go.sizeOf,typeInfo,hinf,Builtin.lenOf,hroom,hf,Addr.add_lit,hst,splice]
        refine ⟨_,_,_,hr,J.setRow k hk _,.inr ⟨_,_,_,⟨rfl,rfl,hroom,hmax,?_,?_⟩⟩⟩
        . rw [E8 _ _ _ (by simpa using hfit),hcsz]
        . intro i hi
          rw [DX _ _ _ _ (by simpa using hfit)];have e1:(n+m)*inf.size=n*inf.size+m*inf.size:=Nat.add_mul ..
          by_cases hlt:i<n*inf.size
          . rw [if_neg (by omega),if_pos hlt];exact hget i hlt
          . rw [if_pos (by simp only [List.size_toArray,List.length_map,List.length_range];omega),if_neg hlt]
            rw [List.getElem?_toArray,List.getElem?_map,List.getElem?_range (by omega)];rfl
      . have holds:∀ j u,((List.range (n*inf.size)).map f)[j]? = some u->w.cell? ((⟨b,0,none⟩:Addr).add j)=some u:=by
          intro j u hj;have hlt:j<n*inf.size:=by have:=(List.getElem?_eq_some_iff.1 hj).1;simpa using this
          rw [Addr.add_lit,Nat.zero_add,hblk.cell,hget j hlt]
          simp [hlt] at hj;rw [hj]
        have hr:=run_append_grow (P:=P) w T ty el inf z hu hinf hz0 ⟨b,0,none⟩ n cap ((List.range (n*inf.size)).map f) (by simp) holds ⟨bx,ox,none⟩ m cx _ hnl hnews (by omega) (by omega) (growslice_fits (by omega) hb);refine ⟨_,_,_,hr,J.fill (Ey _ _) k (Blk.new w.drew _ _) (Nat.le_refl _),.inr ⟨_,_,_,⟨rfl,rfl,grownCap_ge w _ _ _,grownCap_le_maxLen w _ _ _ h63,?_,?_⟩⟩⟩
        . have:=grownCap_ge w (n+m) cap el
          simp only [Array.size_append,List.size_toArray,hnl,size_zeroCells,hz,List.length_map,List.length_range,← Nat.add_mul]
          congr 1;omega
        . intro i hi
          have e1:(n+m)*inf.size=n*inf.size+m*inf.size:=Nat.add_mul ..;rw [Array.getElem?_append,if_pos (by simp only [Array.size_append,List.size_toArray,List.length_map,List.length_range];omega),Array.getElem?_append]
          by_cases hlt:i<n*inf.size
          . rw [if_pos (by simpa using hlt),if_pos hlt];simp [hlt]
          . rw [if_neg (by simpa using hlt),if_neg hlt]
            simp only [List.size_toArray,List.length_map,List.length_range];rw [List.getElem?_toArray,List.getElem?_map,List.getElem?_range (by omega)];rfl
section
variable {ops : Array Oper} {Q : Exit -> Act -> World -> Prop} {rest : List Oper} {n : Nat} {F : List (Nat × Value)} {a : Act} {X : List Nat} {w w0 : World} {L : Own} {D : Al}
variable {d : Option Tmp} {t : TypeId} {pos : String} {af : Array Edge} {gd : Option (Nat × Bool)} {T : TypeId} {x y : Operand}
theorem B5 {e:TypeId}{z:Value}{size bytes N k m bx ox cx:Nat}{v:Value}{ent:Option (Nat×Array Value)}{f g:Nat->Value}(hT:OF P T=some (e,some z,size,bytes))(hz:z.cells.size=size)(hs0:0<size)
    (J:MemX X w0 w L D) (hk:L[k]? = some ent) (O:Fr n a F) (hx:look F x=some v) (hy:look F y=some (.slice (some ⟨bx,ox,none⟩) m cx)) (hv:Sl size v ent N f) (hg:∀ i,i<m*size->w.cell? ⟨bx,ox+i,none⟩=some (g i)) (h1:∀ i,i<m*size->(g i).oneCell'=true)
    (hm:0<m) (h63:N+m<=maxLen) (hb:(N+m)*bytes<=140737488355328) :
    Does P ⟨d,.call { callee:=.builtin .append,args:=#[x,y],argTypes:=#[T,T] },t,pos,af,gd⟩ a w (fun u w'=>∃ e',MemX X w0 w' (L.set k e') D/\Sl size u e' (N+m) (fun i=>if i<N*size then f i else g (i - N*size))):=
  ⟨fun K Q hK=>by
    obtain ⟨u,w',e',hr,h2,h3⟩:=Lf (P:=P) (T:=T) hT hz hs0 J hk hv hg h1 hm h63 hb t
    unfold Oper.wp execOp
    simp only [resolve,invoke,builtin,Sem.run_bind,Sem.run_pure,Result.andThen_ok,List.map_toArray,List.map_cons,List.map_nil,O.eval hx,O.eval hy]
    rw [hr]
    exact hK u w' ⟨e',h2,h3⟩⟩
theorem BK {len:Nat}{parts:Array (Nat×Operand)}{vs:List (Nat×Value)}{cs:Array Value}{e:TypeId}(k:Nat)(J:MemX X w0 w L D)(_hF:Fr n a F)(hp:parts.toList.map (fun p=>(p.1,a.eval p.2))=vs)
    (hrun:∀ w,(Instr.buildSlice T len vs.toArray).run P w = .ok (.slice (some ⟨w.heap.size,0,none⟩) len len) (w.alloc (.cells cs e))) :
    Does P ⟨d,.buildSlice T len parts,t,pos,af,gd⟩ a w (fun u w'=>∃ b,u = .slice (some ⟨b,0,none⟩) len len/\MemX X w0 w' (L.set k (some (b,cs))) D/\Ext w w'):=
  ⟨fun K Q hk=>by
    have:=hk _ (w.alloc (.cells cs e)) ⟨w.heap.size,rfl,J.fill (Ext.alloc _ _) k (Blk.new _ _ _) (Nat.le_refl _),Ext.alloc _ _⟩
    unfold Oper.wp execOp
    have e1:(parts.map fun (i,x)=>(i,a.eval x))=vs.toArray:=by rw [← hp];apply Array.toList_inj.1;simp
    simp only [e1,Sem.run_bind,hrun,Result.andThen_ok,Sem.run_pure]
    exact this⟩
theorem B7 {y:Option Addr}{len c:Nat}{TT:TypeId}{el:TypeId}(hT:P.underlying TT=some (.slice el))(O:Fr n a F)(hx:look F x=some (.slice y len c)):BN P ⟨d,.call { callee:=.builtin .len,args:=#[x],argTypes:=#[TT] },t,pos,af,gd⟩ a w (.int .i64 (len:Int)):=
  Ab (by simp [execOp,resolve,invoke,O.eval hx,builtin,Builtin.len_,run_underlying hT,goInt])
theorem Gy {TT:TypeId}{el:TypeId}(hT:P.underlying TT=some (.slice el))(O:Fr n a F)(hx:look F x=some (.slice none 0 0)):BN P ⟨d,.call { callee:=.builtin .len,args:=#[x],argTypes:=#[TT] },t,pos,af,gd⟩ a w (.int .i64 ((0:Nat):Int)):=
  Ab (by simp [execOp,resolve,invoke,O.eval hx,builtin,Builtin.len_,run_underlying hT,goInt])
theorem BY {b o len c:Nat}{TT:TypeId}{el:TypeId}(hT:P.underlying TT=some (.slice el))(O:Fr n a F)(hx:look F x=some (.slice (some ⟨b,o,none⟩) len c)):BN P ⟨d,.call { callee:=.builtin .len,args:=#[x],argTypes:=#[TT] },t,pos,af,gd⟩ a w (.int .i64 (len:Int)):=
  Ab (by simp [execOp,resolve,invoke,O.eval hx,builtin,Builtin.len_,run_underlying hT,goInt])
end
theorem MemX.startD (w:World)(n:Nat)(D:Al)(h:∀ b cs,(b,cs)∈D->Blk w b cs):AR w w (List.replicate n none) D:=
  ⟨ExtX.refl _ w,fun k b cs h=>by simp [List.getElem?_replicate] at h,fun k j b cs ds h=>by simp [List.getElem?_replicate] at h,fun b cs hm=>⟨h b cs hm,fun k c ds hk=>by simp [List.getElem?_replicate] at hk⟩⟩
theorem MemX.fz {X:List Nat}{w0 w:World}{L:Own}{D:Al}(h:MemX X w0 w L D)(k:Nat){b:Nat}{cs:Array Value}(hk:D[k]? = some (b,cs)):Blk w b cs:=(h.froz b cs (List.mem_of_getElem? hk)).1
theorem Jc {w:World}{b:Nat}{cs:Array Value}(h:Blk w b cs):∀ c ds,(c,ds)∈[(b,cs)]->Blk w c ds:=fun c ds hm=>by simp at hm;obtain ⟨rfl,rfl⟩:=hm;exact h
theorem PZ {w:World}{b b':Nat}{cs cs':Array Value}(h:Blk w b cs)(h':Blk w b' cs'):∀ c ds,(c,ds)∈[(b,cs),(b',cs')]->Blk w c ds:=fun c ds hm=>by
  simp at hm
  rcases hm with ⟨rfl,rfl⟩ | ⟨rfl,rfl⟩
  . exact h
  . exact h'
theorem SlAt.get1 {v:Value}{e:Option (Nat×Array Value)}{n b cap:Nat}{cs:Array Value}{f:Nat->Value}(h:SlAt 1 v e n b cap cs f)(i:Nat)(hi:i<n):cs[0+i*1]? = some (f i):=by
  have:=h.get i (by omega);simpa using this
def OwnSl (size:Nat) (w:World) (n:Nat) (f:Nat->Value) (v:Value) (w':World):Prop:=∃ b cap cs,SlAt size v (some (b,cs)) n b cap cs f/\w.heap.size<=b/\Blk w' b cs
theorem OwnSl.of {size n k:Nat}{w w':World}{L:Own}{D:Al}{v:Value}{e:Option (Nat×Array Value)}{f g:Nat->Value}(J:AR w w' L D)(hk:L[k]? = some e)(h:Sl size v e n g)(he:∀ b,v=b->v≠.slice none 0 0)(hf:∀ i,i<n*size->g i=f i):OwnSl size w n f v w':=by
  rcases h.congr hf with ⟨rfl,_⟩ | ⟨b,cap,cs,h⟩
  . exact absurd rfl (he _ rfl)
  . obtain rfl:=h.ent
    exact ⟨b,cap,cs,h,J.ge k hk,J.row k hk⟩
def DR (f:Nat->Int) (n:Nat):Nat:=((List.range n).find? (fun i=>f i != 0)).getD n
theorem Fz {f:Nat->Int}{n k:Nat}(hk:k<n)(h:∀ i,i<k->f i=0)(h1:f k≠0):DR f n=k:=by
  unfold DR
  have:(List.range n).find? (fun i=>f i != 0)=some k:=by
    rw [List.find?_eq_some_iff_append];refine ⟨by simpa using h1,List.range k,(List.range (n - k - 1)).map (fun x=>k+1+x),?_,?_⟩
    . have e:List.range n=List.range (k+(n - k)):=by congr 1;omega
      rw [e,List.range_add]
      congr 1
      rw [show n - k=(n - k - 1)+1 by omega,List.range_succ_eq_map]
      simp [Function.comp_def,Nat.add_comm]
      intro a _;omega
    . intro c hc;simpa using h c (by simpa using hc)
  rw [this];rfl
theorem H8 {f:Nat->Int}{n:Nat}(h:∀ i,i<n->f i=0):DR f n=n:=by
  unfold DR
  have:(List.range n).find? (fun i=>f i != 0)=none:=by
    rw [List.find?_eq_none];intro c hc;simpa using h c (by simpa using hc)
  rw [this];rfl
theorem Sl.empty (size b:Nat)(f:Nat->Value):Sl size (.slice (some ⟨b,0,none⟩) 0 0) (some (b,#[])) 0 f:=
  .inr ⟨b,0,#[],⟨rfl,rfl,Nat.le_refl _,Nat.zero_le _,by simp,fun i hi=>by simp at hi⟩⟩
theorem OwnSl.pos {size n k:Nat}{w w':World}{L:Own}{D:Al}{v:Value}{e:Option (Nat×Array Value)}{f:Nat->Value}(J:AR w w' L D)(hk:L[k]? = some e)(h:Sl size v e n f)(hn:0<n):OwnSl size w n f v w':=by
  obtain ⟨b,cap,cs,_,rfl,h⟩:=h.pos hn;exact ⟨b,cap,cs,h,J.ge k hk,J.row k hk⟩
theorem C2 {n:Nat}{a:Act}{F:List (Nat×Value)}{x:Operand}{v:Value}(O:Fr n a F)(hx:look F x=some v):(#[(0,x)]:Array (Nat×Operand)).toList.map (fun p=>(p.1,a.eval p.2))=[(0,v)]:=by simp [O.eval hx]
end Go.Sw
namespace Go.Sw
open Go Go.RowKit
variable {P : Program}
def CallsX (P:Program) (X:List Nat) (f:FuncId) (args:Array Value) (w:World) (R:Value->World->Prop):Prop:=
  Calls P f args w fun e w'=>∃ v,e = .returned v/\ExtX X w w'/\R v w'
theorem B0 {X:List Nat}{fn:Func}{w:World}{f:FuncId}{c:Code}{R:Value->World->Prop}{N:Nat}(vs:List Value)(hf:P.funcs[f]? = some fn)(hb:fn.body=some c)(hN:fn.ntmps=N)(hn:Nat.ble vs.length N=true)
    (h:∀ a,Fr N a (Nj vs 0)->c.wp P (bodyPost P fn (fun e w'=>∃ v,e = .returned v/\ExtX X w w'/\R v w')) a w):CallsX P X f vs.toArray w R:=by
  subst hN;exact calls_of_wp hf hb (h _ (O0 vs rfl hn))
theorem MemX.startX1 {w:World}{b:Nat}{cs:Array Value}(n:Nat)(h:Blk w b cs):MemX [b] w w (some (b,cs)::List.replicate n none) []:=by
  have key:∀ (k:Nat) c ds,(some (b,cs)::List.replicate n none:Own)[k]? = some (some (c,ds))->k=0/\c=b/\ds=cs:=by
    intro k c ds hk
    cases k with
    | zero=>simp at hk;exact ⟨rfl,hk.1.symm,hk.2.symm⟩
    | succ k=>simp [List.getElem?_replicate] at hk
  refine ⟨ExtX.refl _ w,fun k c ds hk=>?_,fun k j c ds es hk hj=>?_,fun c ds hm=>by cases hm⟩
  . obtain ⟨_,rfl,rfl⟩:=key k c ds hk;exact ⟨.inr (List.mem_cons_self ..),h⟩
  . rw [(key k c ds hk).1,(key j c es hj).1]
theorem MemX.upd {X:List Nat}{w0 w w':World}{L:Own}{D:Al}(h:MemX X w0 w L D)(k:Nat){b:Nat}{cs cs':Array Value}(hk:L[k]? = some (some (b,cs)))(hx:ExtX [b] w w')(hb:Blk w' b cs'):MemX X w0 w' (L.set k (some (b,cs'))) D:=by
  have hkl:k<L.length:=(List.getElem?_eq_some_iff.1 hk).1;have hbb:=h.blk k b cs hk;have other:∀ {c ds},Blk w c ds->c≠b->Blk w' c ds:=fun {c ds} hc hH=>by
    obtain ⟨t,hc'⟩:=hc;exact ⟨t,(hx.block c (Blk.lt ⟨t,hc'⟩) (by simpa using hH)).trans hc'⟩
  refine ⟨⟨hx.os.trans h.bel.os,hx.tape.trans h.bel.tape,hx.output.trans h.bel.output,Nat.le_trans h.bel.size hx.size,fun i hi hix=>?_⟩,fun j c ds hj=>?_,fun i j c es ds hi hj=>?_,fun c ds hm=>⟨?_,fun j e es hj=>?_⟩⟩
  . have hH:i≠b:=by
      rintro rfl
      rcases hbb.1 with e | e
      . omega
      . exact hix e
    exact (hx.block i (Nat.lt_of_lt_of_le hi h.bel.size) (by simpa using hH)).trans (h.bel.block i hi hix)
  . rw [List.getElem?_set] at hj
    by_cases e:k=j
    . subst e
      simp [hkl] at hj
      obtain ⟨rfl,rfl⟩:=hj;exact ⟨hbb.1,hb⟩
    . rw [if_neg e] at hj
      have hc:=h.blk j c ds hj;exact ⟨hc.1,other hc.2 (fun ecb=>by subst ecb;exact e (h.apart k j c _ _ hk hj))⟩
  . rw [List.getElem?_set] at hi hj
    by_cases e1:k=i
    . subst e1
      simp [hkl] at hi
      obtain ⟨rfl,rfl⟩:=hi
      by_cases e2:k=j
      . exact e2
      . rw [if_neg e2] at hj;exact h.apart k j _ _ _ hk hj
    . rw [if_neg e1] at hi
      by_cases e2:k=j
      . subst e2
        simp [hkl] at hj
        obtain ⟨rfl,rfl⟩:=hj;exact h.apart i k _ _ _ hi hk
      . rw [if_neg e2] at hj;exact h.apart i j _ _ _ hi hj
  . exact other (h.froz c ds hm).1 (fun e=>(h.froz c ds hm).2 k b cs hk e.symm)
  . rw [List.getElem?_set] at hj
    by_cases e1:k=j
    . subst e1
      simp [hkl] at hj
      obtain ⟨rfl,rfl⟩:=hj;exact (h.froz c ds hm).2 k _ _ hk
    . rw [if_neg e1] at hj;exact (h.froz c ds hm).2 j e es hj
section
variable {n : Nat} {F : List (Nat × Value)} {a : Act} {w : World} {d : Option Tmp} {t : TypeId} {pos : String} {af : Array Edge} {gd : Option (Nat × Bool)} {T T' : TypeId} {x y : Operand}
theorem Am {X:List Nat}{f:FuncId}{xs:List Operand}{vs:List Value}{ats:Array TypeId}{R:Value->World->Prop}(hf:∀ args w,(callFunc f args).run P w = .ok (.enter f args) w)(O:Fr n a F)(hx:looks F xs vs)(hc:CallsX P X f vs.toArray w R) :
    Does P ⟨d,.call { callee:=.value (.func f),args:=xs.toArray,argTypes:=ats },t,pos,af,gd⟩ a w (fun u w'=>ExtX X w w'/\R u w'):=
  ⟨fun K Q hk=>by
    have hrun:(execOp a.eval ⟨d,.call { callee:=.value (.func f),args:=xs.toArray,argTypes:=ats },t,pos,af,gd⟩).run P w = .ok (.enter f vs.toArray) w:=by
      have e:(xs.toArray.map a.eval)=vs.toArray:=by rw [← O.evals hx];simp
      simp [execOp,resolve,Act.eval,Deferred.ofValue,invoke,e,hf]
    unfold Oper.wp
    rw [hrun]
    show Calls P f vs.toArray w _
    exact hc.mono fun e w' ⟨v,he,h1,h2⟩=>by subst he;exact hk v w' ⟨h1,h2⟩⟩
theorem K5 (op:BinOp)(T:TypeId)(x y:Operand)(s u:ByteArray)(w:World):(eqGuard op T x y (.string s) (.string u)).run P w = .ok () w:=by
  unfold eqGuard
  cases op<;>simp
theorem FJ {s u:ByteArray}(O:Fr n a F)(hx:look F x=some (.string s))(hy:look F y=some (.string u)):BN P ⟨d,.binOp .eql T x y T',t,pos,af,gd⟩ a w (.bool (decide (s.toList=u.toList))):=
  Ab (by
    simp [execOp,K5,binOp,Op.stringOp,O.eval hx,O.eval hy]
    rw [Bool.eq_iff_iff];simp)
end
end Go.Sw
namespace Go.Sw
open Go Go.RowKit
variable {P : Program}
section
variable {fn : Func} {a : Act} {w : World}
theorem RU {R:Ending->World->Prop}(hr:fn.results = #[])(hd:a.defers=[])(h:R (.returned (.tuple #[])) w):bodyPost P fn R .ret a w:=
  bodyPost_ret (by rw [En,hr];simp) hd h
theorem Mj {R:Ending->World->Prop}(hr:fn.results = #[])(hd:a.defers=[])(h:R (.returned (.tuple #[])) w):bodyPost P fn R .normal a w:=by
  have:=RU (P:=P) (R:=R) hr hd h;exact this
end
theorem MemX.startX1D {w:World}{b:Nat}{cs:Array Value}{D:Al}(n:Nat)(h:Blk w b cs)(hD:∀ c ds,(c,ds)∈D->Blk w c ds/\c≠b):MemX [b] w w (some (b,cs)::List.replicate n none) D:=by
  have h0:=MemX.startX1 n h;refine ⟨h0.bel,h0.blk,h0.apart,fun c ds hm=>⟨(hD c ds hm).1,fun k e es hk=>?_⟩⟩
  cases k with
  | zero=>simp at hk;rw [← hk.1];exact fun e=>(hD c ds hm).2 e.symm
  | succ k=>simp [List.getElem?_replicate] at hk
theorem OB {w:World}{b b':Nat}{cs':Array Value}(h:Blk w b' cs')(hn:b'≠b):∀ c ds,(c,ds)∈[(b',cs')]->Blk w c ds/\c≠b:=fun c ds hm=>by simp at hm;obtain ⟨rfl,rfl⟩:=hm;exact ⟨h,hn⟩
end Go.Sw
namespace Go.Sw
open Go Go.RowKit
section
variable {p n q : Int} {T U : Nat -> Nat -> Nat -> Nat} {f v : Nat -> Nat} {M : Nat -> Nat -> Nat}
theorem KB {c:Array Value}(hs:c.size=224)(h0:c[0]? = some (.int .i64 p))(h1:c[1]? = some (.int .i64 n))(hT:∀ i j k,i<6->j<6->k<6->c[2+i*36+j*6+k]? = some (.int .u8 (T i j k:Int)))
    (hf:∀ i,i<6->c[218+i]? = some (.int .u8 (f i:Int))):c=AY p n T f:=by
  apply Array.ext_getElem?
  intro i
  by_cases hi:i<224
  . by_cases e0:i=0
    . subst e0;rw [h0,DV rfl]
    . by_cases e1:i=1
      . subst e1;rw [h1,Bn rfl]
      . by_cases e2:i<218
        . have e:i=2+((i - 2) / 36)*36+((i - 2) / 6%6)*6+(i - 2)%6:=by omega
          rw [e,hT _ _ _ (by omega) (by omega) (by omega),FU _ _ _ rfl (by omega) (by omega) (by omega)]
        . have e:i=218+(i - 218):=by omega
          rw [e,hf _ (by omega),G9 _ rfl (by omega)]
  . rw [Array.getElem?_eq_none (by omega),Array.getElem?_eq_none (by rw [Aq];omega)]
end
variable {P : Program}
section
variable {ops : Array Oper} {Q : Exit -> Act -> World -> Prop} {rest : List Oper} {n : Nat} {F : List (Nat × Value)} {a : Act} {w : World}
theorem mv {d:Nat}{x:Operand}{t:TypeId}{pos:String}{af:Array Edge}{v:Value}(O:Fr n a F)(hx:look F x=some v)(hn:Nat.blt d n=true)
    (h:∀ a',Fr n a' ((d,v)::F)->wpList P ops Q rest a' w):wpList P ops Q (⟨some d,.move x,t,pos,af,none⟩::rest) a w:=st O (AS O hx) hn h
theorem ag {d:Nat}{x:Operand}{t:TypeId}{pos:String}{af:Array Edge}{v:Value}(O:Fr n a F)(hx:look F x=some v)(hn:Nat.blt d n=true)
    (h:∀ a',Fr n a' ((d,v)::F)->wpList P ops Q rest a' w):wpList P ops Q (⟨some d,.assign x,t,pos,af,none⟩::rest) a w:=st O (CJ O hx) hn h
theorem sr {id:Nat}{l:List Oper}{y:Code}(h:wpList P l.toArray (Exit.then (fun a w=>y.wp P Q a w) Q) l a w):((Code.region id l.toArray false).seq y).wp P Q a w:=sq (wp_region_lit h)
theorem nt {K:Act->World->Prop}{Q':Exit->Act->World->Prop}(h:K a w):wpList P ops (Exit.then K Q') [] a w:=h
theorem ns {id:Nat}{l:List Oper}{y:Code}{Q':Exit->Act->World->Prop}(h:wpList P l.toArray (Exit.then (fun a w=>y.wp P Q a w) Q) l a w):wpList P ops (Exit.then (fun a w=>((Code.region id l.toArray false).seq y).wp P Q a w) Q') [] a w:=sq (wp_region_lit h)
end
section
variable {X : List Nat} {w0 w : World} {D : Al} {W : List Nat} {l : List Fact} {i : Nat} {L0 L : Own} {o : Oper} {a : Act} {n : Nat} {F : List (Nat × Value)} {d : Option Tmp} {x : Operand} {t : TypeId} {pos : String} {af : Array Edge} {gd : Option (Nat × Bool)} {v : Value}
theorem BF (hS:Par X w0 D W L0 L w)(hi:l[i]? = some (.val v))(O:Fr n a F)(hx:look F x=some v):Does P ⟨d,.move x,t,pos,af,gd⟩ a w (After (Par X w0 D W L0) (B4 l) i L w):=AD hS hi (AS O hx)
end
theorem AT:(∀ n f,(BH n f).size=n)/\(∀ p n T f,(AY p n T f).size=224)/\(∀ v,(Af v).size=6)/\(∀ T,(Gl T).size=216)/\(∀ M,(Cv M).size=36):=
  ⟨BZ,fun _ _ _ _=>Aq,fun _=>FW,fun _=>I5,fun _=>HY⟩
end Go.Sw
namespace Go.Sw
open Go Go.RowKit
variable {P : Program}
section
variable {n : Nat} {F : List (Nat × Value)} {a : Act} {w w0 : World} {d : Option Tmp} {t : TypeId} {pos : String} {af : Array Edge} {gd : Option (Nat × Bool)} {T : TypeId} {x y : Operand} {X : List Nat} {L : Own} {D : Al}
theorem GR {len:Nat}{cs:Array Value}{e:TypeId}(k:Nat)(J:MemX X w0 w L D)(O:Fr n a F)(hx:look F x=some (.int .i64 (len:Int)))(hy:look F y=some (.int .i64 (len:Int)))
    (hrun:∀ w,(Instr.makeSlice T (.int .i64 (len:Int)) (.int .i64 (len:Int))).run P w = .ok (.slice (some ⟨w.heap.size,0,none⟩) len len) (w.alloc (.cells cs e))) :
    Does P ⟨d,.makeSlice T x y,t,pos,af,gd⟩ a w (fun u w'=>∃ b,u = .slice (some ⟨b,0,none⟩) len len/\MemX X w0 w' (L.set k (some (b,cs))) D/\Ext w w'):=
  ⟨fun K Q hk=>by
    have:=hk _ (w.alloc (.cells cs e)) ⟨w.heap.size,rfl,J.fill (Ext.alloc _ _) k (Blk.new _ _ _) (Nat.le_refl _),Ext.alloc _ _⟩
    unfold Oper.wp execOp
    simp only [O.eval hx,O.eval hy,Sem.run_bind,hrun,Result.andThen_ok,Sem.run_pure]
    exact this⟩
theorem Mf {b o len c k:Nat}{e:TypeId}(hT:P.underlying T=some (.array k e))(O:Fr n a F)(hx:look F x=some (.slice (some ⟨b,o,none⟩) len c))(hk:k<=len):BN P ⟨d,.sliceToArrayPointer T x,t,pos,af,gd⟩ a w (ptr b o):=
  Ab (by simp [execOp,O.eval hx,Instr.arrayAt,run_underlying hT,show ¬ len<k by omega])
end
end Go.Sw
namespace Go.Sw
open Go Go.RowKit
variable {P : Program}
theorem MemX.addD {X:List Nat}{w0 w w':World}{L:Own}{D D':Al}(h:MemX X w0 w L D)(hb:Ext w w')(hD:∀ b cs,(b,cs)∈D'->w.heap.size<=b/\Blk w' b cs):MemX X w0 w' L (D'++D):=by
  have h2:=h.ext hb;refine ⟨h2.bel,h2.blk,h2.apart,fun b cs hm=>?_⟩
  rcases List.mem_append.1 hm with hm | hm
  . refine ⟨(hD b cs hm).2,fun k c ds hk e=>?_⟩
    have h3:=(h.blk k c ds hk).2.lt;have h4:=(hD b cs hm).1
    omega
  . exact h2.froz b cs hm
theorem MemX.fzm {X:List Nat}{w0 w:World}{L:Own}{D:Al}(h:MemX X w0 w L D){b:Nat}{cs:Array Value}(hk:(b,cs)∈D):Blk w b cs:=(h.froz b cs hk).1
def up {α:Type} (f:Nat->α) (m:Nat) (x:α) (i:Nat):α:=if i=m then x else f i
theorem HV {α:Type}{f:Nat->α}{m:Nat}{x:α}:up f m x m=x:=by simp [up]
theorem HU {α:Type}{f:Nat->α}{m i:Nat}{x:α}(h:i≠m):up f m x i=f i:=by simp [up,h]
structure RowsD (D:Al) (N m:Nat) (β κ:Nat->Nat) (C:Nat->Array Value) (f:Nat->Nat->Value):Prop where
  mem:∀ i,i<m->(β i,C i)∈D
  sl:∀ i,i<m->SlAt 1 (.slice (some ⟨β i,0,none⟩) N (κ i)) (some (β i,C i)) N (β i) (κ i) (C i) (f i)
namespace RowsD
variable {D D' : Al} {N m : Nat} {β κ : Nat -> Nat} {C : Nat -> Array Value} {f : Nat -> Nat -> Value}
theorem get (h:RowsD D N m β κ C f){i:Nat}(hi:i<m)(c:Nat)(hc:c<N):(C i)[0+c*1]? = some (f i c):=(h.sl i hi).get1 c hc
theorem more (h:RowsD D N m β κ C f)(hs:∀ x∈D,x∈D'):RowsD D' N m β κ C f:=⟨fun i hi=>hs _ (h.mem i hi),h.sl⟩
theorem none:RowsD D N 0 β κ C f:=⟨fun i hi=>absurd hi (by omega),fun i hi=>absurd hi (by omega)⟩
theorem congr (h:RowsD D N m β κ C f){g:Nat->Nat->Value}(hf:∀ i,i<m->∀ c,c<N->f i c=g i c):RowsD D N m β κ C g:=
  ⟨h.mem,fun i hi=>by
    have:=h.sl i hi
    exact ⟨this.val,this.ent,this.le,this.max,this.sz,fun c hc=>by rw [← hf i hi c (by omega)];exact this.get c hc⟩⟩
end RowsD
def Si (β κ:Nat->Nat) (N:Nat) (i:Nat):Value:=.slice (some ⟨β i,0,none⟩) N (κ i)
def RowsOut (w w':World) (N k:Nat) (f:Nat->Nat->Value) (u:Value):Prop:=∃ (D:Al) (β κ:Nat->Nat) (C:Nat->Array Value) (b cap:Nat) (cs:Array Value),
  (∀ x ds,(x,ds)∈D->w.heap.size<=x/\Blk w' x ds)/\RowsD D N k β κ C f/\SlAt 1 u (some (b,cs)) k b cap cs (fun i=>.slice (some ⟨β i,0,none⟩) N (κ i))/\(b,cs)∈D
theorem SlAt.set {v:Value}{n b cap:Nat}{cs:Array Value}{f g:Nat->Value}{x:Value}(h:SlAt 1 v (some (b,cs)) n b cap cs f)(i:Nat){o:Nat}(ho:o=i)(hi:i<n)(hg:∀ j,j<n->g j=if j=i then x else f j):SlAt 1 v (some (b,cs.setIfInBounds o x)) n b cap (cs.setIfInBounds o x) g:=by
  subst ho;refine ⟨h.val,rfl,h.le,h.max,by rw [Array.size_setIfInBounds];exact h.sz,fun j hj=>?_⟩;rw [Array.getElem?_setIfInBounds];have hsz:=h.sz;have hle:=h.le
  by_cases e:o=j
  . subst e;rw [if_pos rfl,if_pos (by omega),hg o hi,if_pos rfl]
  . rw [if_neg e,hg j (by omega),if_neg (fun x=>e x.symm)];exact h.get j hj
theorem SlAt.congr {size:Nat}{v:Value}{e:Option (Nat×Array Value)}{n b cap:Nat}{cs:Array Value}{f g:Nat->Value}(h:SlAt size v e n b cap cs f)(hf:∀ i,i<n*size->f i=g i):SlAt size v e n b cap cs g:=
  ⟨h.val,h.ent,h.le,h.max,h.sz,fun i hi=>by rw [← hf i hi];exact h.get i hi⟩
theorem OwnSl.congr {size n:Nat}{w w':World}{v:Value}{f g:Nat->Value}(h:OwnSl size w n f v w')(hf:∀ i,i<n*size->f i=g i):OwnSl size w n g v w':=by
  obtain ⟨b,cap,cs,h1,h2,h3⟩:=h;exact ⟨b,cap,cs,h1.congr hf,h2,h3⟩
theorem CallsR.mono {f:FuncId}{args:Array Value}{w:World}{R R':Value->World->Prop}(h:CallsR P f args w R)(hr:∀ v w',Ext w w'->R v w'->R' v w'):CallsR P f args w R':=
  Calls.mono h (fun _ _ ⟨v,he,h1,h2⟩=>⟨v,he,h1,hr v _ h1 h2⟩)
theorem RowsOut.of {w w':World}{L:Own}{D:Al}{N k:Nat}{β κ:Nat->Nat}{C:Nat->Array Value}{f:Nat->Nat->Value}{u:Value}{b cap:Nat}{cs:Array Value}(J:AR w w' L D)(hR:RowsD D N k β κ C f)
    (hs:SlAt 1 u (some (b,cs)) k b cap cs (fun i=>.slice (some ⟨β i,0,none⟩) N (κ i))) (hm:(b,cs)∈D) (hge:∀ i,i<k->w.heap.size<=β i) (hb:w.heap.size<=b):RowsOut w w' N k f u:=by
  refine ⟨(b,cs)::(List.range k).map (fun i=>(β i,C i)),β,κ,C,b,cap,cs,fun x ds hx=>?_,⟨fun i hi=>?_,hR.sl⟩,hs,List.mem_cons_self ..⟩
  . rcases List.mem_cons.1 hx with e | hx
    . simp only [Prod.mk.injEq] at e;obtain ⟨rfl,rfl⟩:=e;exact ⟨hb,J.fzm hm⟩
    . obtain ⟨i,hi,e⟩:=List.mem_map.1 hx
      simp only [Prod.mk.injEq] at e;obtain ⟨rfl,rfl⟩:=e;have hi:i<k:=by simpa using hi
      exact ⟨hge i hi,J.fzm (hR.mem i hi)⟩
  . exact List.mem_cons_of_mem _ (List.mem_map.2 ⟨i,by simpa using hi,rfl⟩)
theorem Sl.snocR {u:Value}{e:Option (Nat×Array Value)}{n N b cap:Nat}{β κ:Nat->Nat}(h:Sl 1 u e (n+1) (fun i=>if i<n*1 then (fun i=>.slice (some ⟨β i,0,none⟩) N (κ i)) i else (fun _=>.slice (some ⟨b,0,none⟩) N cap) (i - n*1))) :
    Sl 1 u e (n+1) (fun i=>.slice (some ⟨up β n b i,0,none⟩) N (up κ n cap i)):=
  h.congr fun i hi=>by
    by_cases e:i<n
    . rw [if_pos (by omega)];simp only [HU (show i≠n by omega)]
    . rw [if_neg (by omega)];simp only [show i=n by omega,HV]
def My (w0:World) (L:Own) (N:Nat) (f:Nat->Value) (u:Value) (w':World):Prop:=∃ b cap cs,SlAt 1 u (some (b,cs)) N b cap cs f/\Blk w' b cs/\w0.heap.size<=b/\∀ (k:Nat) c ds,L[k]? = some (some (c,ds))->c≠b
def S8 (w0:World) (L:Own) (N:Nat) (f:Nat->Value) (u:Value) (w':World):Prop:=∃ b x,u = .slice (some ⟨b,0,none⟩) 1 1/\Blk w' b #[x]/\My w0 L N f x w'
theorem OwnSl.fresh {X:List Nat}{w0 w w':World}{L:Own}{D:Al}{N:Nat}{f:Nat->Value}{u:Value}(J:MemX X w0 w L D)(h:OwnSl 1 w N f u w'):My w0 L N f u w':=by
  obtain ⟨b,cap,cs,h1,h2,h3⟩:=h;refine ⟨b,cap,cs,h1,h3,Nat.le_trans J.bel.size h2,fun k c ds hk e=>?_⟩;have:=(J.blk k c ds hk).2.lt
  omega
section
variable {X : List Nat} {w0 : World} {D : Al} {l : List Fact} {i : Nat} {L0 L : Own} {o : Oper} {a : Act} {w : World}
end
end Go.Sw
namespace Go.Ech
def sI (f:Nat->Int):Nat->Int
  | 0=>0
  | n+1=>sI f n+f n
theorem Ar {f g:Nat->Int}{n:Nat}(h:∀ i,i<n->f i=g i):sI f n=sI g n:=by
  induction n with
  | zero=>rfl
  | succ n ih=>simp only [sI];rw [ih (fun i hi=>h i (by omega)),h n (by omega)]
theorem Cn {f:Nat->Int}{n:Nat}(h:∀ i,i<n->f i=0):sI f n=0:=by
  induction n with
  | zero=>rfl
  | succ n ih=>simp only [sI];rw [ih (fun i hi=>h i (by omega)),h n (by omega)];rfl
theorem Bl {f:Nat->Int}{n a:Nat}(ha:a<n)(h:∀ i,i<n->i≠a->f i=0):sI f n=f a:=by
  induction n with
  | zero=>omega
  | succ n ih =>
    simp only [sI]
    by_cases e:a=n
    . subst e;rw [Cn (fun i hi=>h i (by omega) (by omega))];omega
    . rw [ih (by omega) (fun i hi=>h i (by omega)),h n (by omega) (by omega)];omega
theorem OH {f:Nat->Int}{n a b:Nat}(ha:a<n)(hb:b<n)(hab:a≠b)(h:∀ i,i<n->i≠a->i≠b->f i=0):sI f n=f a+f b:=by
  induction n with
  | zero=>omega
  | succ n ih =>
    simp only [sI]
    by_cases e:a=n
    . subst e;rw [Bl (a:=b) (by omega) (fun i hi hib=>h i (by omega) (by omega) hib)];omega
    . by_cases e2:b=n
      . subst e2;rw [Bl (a:=a) (by omega) (fun i hi hia=>h i (by omega) hia (by omega))]
      . rw [ih (by omega) (by omega) (fun i hi=>h i (by omega)),h n (by omega) (by omega) (by omega)];omega
theorem Dr (f g:Nat->Int)(n:Nat):sI (fun i=>f i+g i) n=sI f n+sI g n:=by
  induction n with
  | zero=>rfl
  | succ n ih=>simp only [sI];rw [ih];omega
theorem Cb (k:Int)(f:Nat->Int)(n:Nat):sI (fun i=>k*f i) n=k*sI f n:=by
  induction n with
  | zero=>simp [sI]
  | succ n ih=>simp only [sI];rw [ih,Int.mul_add]
theorem Cu {p:Int}{f:Nat->Int}{n:Nat}(h:∀ i,i<n->p∣f i):p∣sI f n:=by
  induction n with
  | zero=>exact Int.dvd_zero p
  | succ n ih=>exact Int.dvd_add (ih fun i hi=>h i (by omega)) (h n (by omega))
theorem C4 (f:Nat->Nat->Int)(n m:Nat):sI (fun i=>sI (fun j=>f i j) m) n=sI (fun j=>sI (fun i=>f i j) n) m:=by
  induction n with
  | zero=>simp only [sI];exact (Cn fun i _=>rfl).symm
  | succ n ih=>simp only [sI];rw [ih,← Dr]
def dot (N:Nat) (r x:Nat->Int):Int:=sI (fun c=>r c*x c) N
abbrev ci (r:Nat->Nat):Nat->Int:=fun c=>(r c:Int)
def Ker (p N:Nat) (M:Nat->Nat->Nat) (m:Nat) (x:Nat->Int):Prop:=∀ i,i<m->(p:Int)∣dot N (ci (M i)) x
theorem J2 {p N:Nat}{r s t x:Nat->Int}{k:Int}(h:∀ c,c<N->(p:Int)∣t c - (r c+k*s c)):(p:Int)∣dot N t x - (dot N r x+k*dot N s x):=by
  unfold dot
  have e:sI (fun c=>t c*x c) N - (sI (fun c=>r c*x c) N+k*sI (fun c=>s c*x c) N)=sI (fun c=>(t c - (r c+k*s c))*x c) N:=by
    rw [← Cb,← Dr];have:sI (fun c=>t c*x c) N=sI (fun c=>(t c - (r c+k*s c))*x c) N+sI (fun c=>r c*x c+k*(s c*x c)) N:=by
      rw [← Dr];exact Ar fun c _=>by grind
    omega
  rw [e];exact Cu fun c hc=>Int.dvd_mul_of_dvd_left (h c hc)
theorem JR {p N:Nat}{r t x:Nat->Int}(h:∀ c,c<N->(p:Int)∣t c - r c):(p:Int)∣dot N t x - dot N r x:=by
  have:=J2 (p:=p) (N:=N) (r:=r) (s:=fun _=>0) (t:=t) (x:=x) (k:=0) (fun c hc=>by simpa using h c hc)
  simpa using this
theorem C1 {p a b:Int}(h:p∣a - b):p∣a↔p∣b:=by
  constructor
  . intro ha;have:=Int.dvd_sub ha h;rwa [show a - (a - b)=b by omega] at this
  . intro hb;have:=Int.dvd_add hb h;rwa [show b+(a - b)=a by omega] at this
theorem P7 (N:Nat)(k:Int)(r x:Nat->Int):dot N r (fun c=>k*x c)=k*dot N r x:=by
  unfold dot;rw [← Cb];exact Ar fun c _=>by grind
structure Rref (p N:Nat) (E:Nat->Nat->Nat) (k:Nat) (ld:Nat->Nat):Prop where
  lt:∀ i,i<k->ld i<N
  mono:∀ i j,i<j->j<k->ld i<ld j
  one:∀ i,i<k->E i (ld i)=1
  left:∀ i,i<k->∀ c,c<ld i->E i c=0
  zero:∀ i j,i<k->j<k->i≠j->E j (ld i)=0
  small:∀ i,i<k->∀ c,c<N->E i c<p
def Bx (k:Nat) (ld:Nat->Nat) (c:Nat):Prop:=∃ i,i<k/\ld i=c
instance (k:Nat) (ld:Nat->Nat) (c:Nat):Decidable (Bx k ld c):=inferInstanceAs (Decidable (∃ i,i<k/\ld i=c))
def Cw (k:Nat) (ld:Nat->Nat) (c:Nat):Option Nat:=(List.range k).find? (fun i=>ld i == c)
theorem CG {k:Nat}{ld:Nat->Nat}{c i:Nat}(h:Cw k ld c=some i):i<k/\ld i=c:=by
  unfold Cw at h
  have h1:=List.find?_some h;have h2:=List.mem_of_find?_eq_some h;exact ⟨by simpa using h2,by simpa using h1⟩
theorem Ec {k:Nat}{ld:Nat->Nat}{c:Nat}(h:Cw k ld c=none):∀ i,i<k->ld i≠c:=by
  unfold Cw at h
  intro i hi e;have:=List.find?_eq_none.1 h i (by simpa using hi)
  simp [e] at this
def free (E:Nat->Nat->Nat) (k:Nat) (ld:Nat->Nat) (c:Nat):Nat->Int:=fun d=>
  if d=c then 1 else match Cw k ld d with
    | some j=>-(E j c:Int)
    | none=>0
namespace Rref
variable {p N k : Nat} {E : Nat -> Nat -> Nat} {ld : Nat -> Nat}
theorem inj (h:Rref p N E k ld){i j:Nat}(hi:i<k)(hj:j<k)(e:ld i=ld j):i=j:=by
  rcases Nat.lt_trichotomy i j with hh | hh | hh
  . have:=h.mono i j hh hj;omega
  . exact hh
  . have:=h.mono j i hh hi;omega
theorem ldAt_eq (h:Rref p N E k ld){i:Nat}(hi:i<k):Cw k ld (ld i)=some i:=by
  cases e:Cw k ld (ld i) with
  | none=>exact absurd rfl (Ec e i hi)
  | some j=>have:=CG e;rw [h.inj this.1 hi this.2]
theorem free_ker (h:Rref p N E k ld){c:Nat}(hc:c<N)(hn:¬ Bx k ld c):Ker p N E k (free E k ld c):=by
  intro i hi;have hH:c≠ld i:=fun e=>hn ⟨i,hi,e.symm⟩;have e:dot N (ci (E i)) (free E k ld c)=0:=by
    unfold dot
    rw [OH hc (h.lt i hi) hH]
    . have h1:free E k ld c c=1:=by simp [free]
      have h2:free E k ld c (ld i) = -(E i c:Int):=by
        unfold free;rw [if_neg (Ne.symm hH),h.ldAt_eq hi]
      rw [h1,h2];simp only [ci,h.one i hi];omega
    . intro d hd hdc hdi
      unfold free;rw [if_neg hdc]
      cases e:Cw k ld d with
      | none=>simp
      | some j =>
        obtain ⟨hj,rfl⟩:=CG e;have:j≠i:=fun e=>hdi (by rw [e])
        simp [ci,h.zero j i hj hi this]
  rw [e];exact Int.dvd_zero _
theorem ker_lead (h:Rref p N E k ld){x:Nat->Int}(hx:Ker p N E k x){i:Nat}(hi:i<k)(hz:∀ d,ld i<d->d<N->x d=0):(p:Int)∣x (ld i):=by
  have:=hx i hi
  unfold dot at this
  rw [Bl (h.lt i hi)] at this
  . simpa [ci,h.one i hi] using this
  . intro d hd hH
    rcases Nat.lt_or_gt_of_ne hH with hh | hh
    . simp [ci,h.left i hi d hh]
    . simp [hz d hh hd]
end Rref
theorem Mb {k k':Nat}{ld ld':Nat->Nat}(hm:∀ i j,i<j->j<k->ld i<ld j)(hm':∀ i j,i<j->j<k'->ld' i<ld' j)(h:∀ c,Bx k ld c↔Bx k' ld' c) :
    k=k'/\∀ i,i<k->ld i=ld' i:=by
  have half:∀ {k k':Nat} {ld ld':Nat->Nat},(∀ i j,i<j->j<k->ld i<ld j)->(∀ i j,i<j->j<k'->ld' i<ld' j)->(∀ c,Bx k ld c↔Bx k' ld' c)->∀ i,(∀ j,j<i->j<k/\j<k'/\ld j=ld' j)->i<k->i<k'/\ld' i<=ld i:=by
    intro k k' ld ld' hm hm' h i hJ hi;obtain ⟨j,hj,e⟩:=(h (ld i)).1 ⟨i,hi,rfl⟩;have hij:i<=j:=by
      rcases Nat.lt_or_ge j i with hh | hh
      . have:=hJ j hh;have:=hm j i hh hi;omega
      . exact hh
    refine ⟨by omega,?_⟩
    by_cases e2:i=j
    . subst e2;omega
    . have:=hm' i j (by omega) hj;omega
  have key:∀ i,(∀ j,j<i->j<k/\j<k'/\ld j=ld' j)->(i<k↔i<k')/\(i<k->ld i=ld' i):=by
    intro i hJ;have a:=half hm hm' h i hJ;have b:=half hm' hm (fun c=>(h c).symm) i (fun j hj=>⟨(hJ j hj).2.1,(hJ j hj).1,(hJ j hj).2.2.symm⟩);refine ⟨⟨fun x=>(a x).1,fun x=>(b x).1⟩,fun x=>?_⟩;have:=a x;have:=b this.1;omega
  have all:∀ i,i<=k->i<=k'->∀ j,j<i->j<k/\j<k'/\ld j=ld' j:=by
    intro i
    induction i with
    | zero=>intro _ _ j hj;omega
    | succ i ih =>
      intro h1 h2 j hj;have hi:=ih (by omega) (by omega)
      by_cases e:j=i
      . subst e;exact ⟨by omega,by omega,(key j hi).2 (by omega)⟩
      . exact hi j (by omega)
  have hk:k=k':=by
    rcases Nat.lt_trichotomy k k' with hh | hh | hh
    . have:=(key k (all k (Nat.le_refl _) (by omega))).1.2 hh;omega
    . exact hh
    . have:=(key k' (all k' (by omega) (Nat.le_refl _))).1.1 hh;omega
  exact ⟨hk,fun i hi=>(all k (Nat.le_refl _) (by omega) i hi).2.2⟩
theorem Dn {p N k k':Nat}{E E':Nat->Nat->Nat}{ld ld':Nat->Nat}(hp:2<=p)(h:Rref p N E k ld)(h':Rref p N E' k' ld')(hk:∀ x,Ker p N E k x↔Ker p N E' k' x) :
    k=k'/\(∀ i,i<k->ld i=ld' i)/\∀ i,i<k->∀ c,c<N->E i c=E' i c:=by
  have half:∀ {k k':Nat} {E E':Nat->Nat->Nat} {ld ld':Nat->Nat},Rref p N E k ld->Rref p N E' k' ld'->(∀ x,Ker p N E k x↔Ker p N E' k' x)->∀ c,Bx k ld c->Bx k' ld' c:=by
    intro k k' E E' ld ld' h h' hk c hc;obtain ⟨i,hi,rfl⟩:=hc;refine Decidable.byContradiction fun hn=>?_;have hx:=(hk _).2 (h'.free_ker (h.lt i hi) hn)
    have:=h.ker_lead hx hi (fun d hd hdN=>by
      unfold free;rw [if_neg (by omega)]
      cases e:Cw k' ld' d with
      | none=>rfl
      | some j=>obtain ⟨hj,rfl⟩:=CG e;simp [h'.left j hj _ hd])
    simp only [free,if_true] at this;have:=Int.le_of_dvd (by omega) this
    omega
  have hld:=Mb h.mono h'.mono (fun c=>⟨half h h' hk c,half h' h (fun x=>(hk x).symm) c⟩);obtain ⟨rfl,hl⟩:=hld;refine ⟨rfl,hl,fun i hi c hc=>?_⟩
  by_cases hlc:Bx k ld c
  . obtain ⟨j,hj,rfl⟩:=hlc
    by_cases e:j=i
    . subst e;rw [h.one j hj,hl j hj,h'.one j hj]
    . rw [h.zero j i hj hi e,hl j hj,h'.zero j i hj hi e]
  . have hx:=(hk _).1 (h.free_ker hc hlc) i hi
    have hH:c≠ld' i:=fun e=>hlc ⟨i,hi,by rw [hl i hi,e]⟩;have e:dot N (ci (E' i)) (free E k ld c)=(E' i c:Int) - (E i c:Int):=by
      unfold dot
      rw [OH hc (h'.lt i hi) hH]
      . have h1:free E k ld c c=1:=by simp [free]
        have h2:free E k ld c (ld' i) = -(E i c:Int):=by
          unfold free;rw [if_neg (Ne.symm hH),← hl i hi,h.ldAt_eq hi]
        rw [h1,h2];simp only [ci,h'.one i hi];omega
      . intro d hd hdc hdi
        unfold free;rw [if_neg hdc]
        cases e:Cw k ld d with
        | none=>simp
        | some j =>
          obtain ⟨hj,rfl⟩:=CG e;have:j≠i:=fun e=>hdi (by rw [e,hl i hi])
          simp [ci,hl j hj,h'.zero j i hj hi this]
    rw [e] at hx;have h1:=h.small i hi c hc;have h2:=h'.small i hi c hc;obtain ⟨q,hq⟩:=hx;have:q=0:=by
      rcases Int.lt_trichotomy q 0 with hh | hh | hh
      . have:=Int.mul_le_mul_of_nonneg_left (show q<=-1 by omega) (show (0:Int)<=p by omega);omega
      . exact hh
      . have:=Int.mul_le_mul_of_nonneg_left (show 1<=q by omega) (show (0:Int)<=p by omega);omega
    subst this;omega
end Go.Ech
namespace Go.Ech
def primeN (p:Nat):Prop:=p=2\/p=3\/p=5\/p=7\/p=11\/p=13
theorem primeN.two {p:Nat}(h:primeN p):2<=p:=by unfold primeN at h;omega
theorem primeN.le {p:Nat}(h:primeN p):p<=13:=by unfold primeN at h;omega
def lsM (p:Nat) (f h:Nat->Nat) (k c:Nat):Nat:=(((f c:Int) - (k:Int)*(h c:Int))%(p:Int)).toNat
theorem GF {p:Nat}{f h:Nat->Nat}{k c:Nat}(hp:0<p):(lsM p f h k c:Int)=((f c:Int) - (k:Int)*(h c:Int))%(p:Int):=
  Int.toNat_of_nonneg (Int.emod_nonneg _ (by omega))
theorem Gs {p:Nat}{f h:Nat->Nat}{k c:Nat}(hp:0<p):lsM p f h k c<p:=by
  have:=Int.emod_lt_of_pos ((f c:Int) - (k:Int)*(h c:Int)) (show (0:Int)<p by omega);have e:=GF (f:=f) (h:=h) (k:=k) (c:=c) hp
  omega
theorem H7 {p:Nat}{f h:Nat->Nat}{k c:Nat}(hf:f c<p)(hh:h c=0):lsM p f h k c=f c:=by
  have e:=GF (f:=f) (h:=h) (k:=k) (c:=c) (show 0<p by omega);rw [hh] at e;rw [show (f c:Int) - (k:Int)*((0:Nat):Int)=f c by simp,Int.emod_eq_of_lt (by omega) (by omega)] at e
  omega
theorem Jk {p:Nat}{f h:Nat->Nat}{c:Nat}(hp:0<p)(hh:h c=1):lsM p f h (f c) c=0:=by
  have e:=GF (f:=f) (h:=h) (k:=f c) (c:=c) hp;rw [hh,show (f c:Int) - (f c:Int)*((1:Nat):Int)=0 by omega,Int.zero_emod] at e
  omega
theorem CD (p x:Int):p∣x%p - x:=⟨-(x / p),by have:=Int.mul_ediv_add_emod x p;grind⟩
theorem Pu {p:Nat}{f h:Nat->Nat}{k c:Nat}(hp:0<p):(p:Int)∣ci (lsM p f h k) c - (ci f c+(-(k:Int))*ci h c):=by
  show (p:Int)∣(lsM p f h k c:Int) - _
  rw [GF hp];have:=CD (p:Int) ((f c:Int) - (k:Int)*(h c:Int))
  rwa [show ((f c:Int) - (k:Int)*(h c:Int))%(p:Int) - (ci f c+(-(k:Int))*ci h c)=((f c:Int) - (k:Int)*(h c:Int))%(p:Int) - ((f c:Int) - (k:Int)*(h c:Int)) by show _ - ((f c:Int)+(-(k:Int))*(h c:Int))=_;grind]
theorem GE {p N:Nat}{f h:Nat->Nat}{k:Nat}{x:Nat->Int}(hp:0<p)(hx:(p:Int)∣dot N (ci h) x):(p:Int)∣dot N (ci (lsM p f h k)) x↔(p:Int)∣dot N (ci f) x:=by
  have h1:=J2 (p:=p) (N:=N) (r:=ci f) (s:=ci h) (t:=ci (lsM p f h k)) (x:=x) (k:=-(k:Int)) (fun c _=>Pu hp);rw [C1 h1];have h2:(p:Int)∣-(k:Int)*dot N (ci h) x:=Int.dvd_mul_of_dvd_right hx
  constructor
  . intro h3;have:=Int.dvd_sub h3 h2;rwa [show dot N (ci f) x + -(k:Int)*dot N (ci h) x - -(k:Int)*dot N (ci h) x=dot N (ci f) x by omega] at this
  . intro h3;exact Int.dvd_add h3 h2
theorem JB {p N:Nat}{f g:Nat->Nat}{v u:Nat}{x:Nat->Int}(hg:∀ c,c<N->g c=f c*v%p)(huv:u*v%p=1):(p:Int)∣dot N (ci g) x↔(p:Int)∣dot N (ci f) x:=by
  have h1:=J2 (p:=p) (N:=N) (r:=fun _=>0) (s:=ci f) (t:=ci g) (x:=x) (k:=(v:Int)) (fun c hc=>by
    show (p:Int)∣(g c:Int) - _
    rw [hg c hc];have:=CD (p:Int) ((f c*v:Nat):Int);rw [show (0:Int)+(v:Int)*ci f c=((f c*v:Nat):Int) by show 0+(v:Int)*(f c:Int)=_;rw [Int.natCast_mul,Int.mul_comm];omega]
    exact_mod_cast this)
  have e0:dot N (fun _=>0) x=0:=Cn fun i _=>by simp
  rw [e0] at h1;rw [C1 h1]
  constructor
  . intro h2
    have h3:(p:Int)∣(u:Int)*((v:Int)*dot N (ci f) x):=Int.dvd_mul_of_dvd_right (by simpa using h2);have h4:(p:Int)∣((u*v:Nat):Int) - 1:=by
      have:=CD (p:Int) ((u*v:Nat):Int);have e:((u*v:Nat):Int)%(p:Int)=1:=by exact_mod_cast huv
      rw [e] at this;have:=Int.dvd_neg.2 this
      rwa [show -(1 - ((u*v:Nat):Int))=((u*v:Nat):Int) - 1 by omega] at this
    have h5:(p:Int)∣(((u*v:Nat):Int) - 1)*dot N (ci f) x:=Int.dvd_mul_of_dvd_left h4;have:=Int.dvd_sub h3 h5
    rwa [show (u:Int)*((v:Int)*dot N (ci f) x) - (((u*v:Nat):Int) - 1)*dot N (ci f) x=dot N (ci f) x by rw [Int.natCast_mul];grind] at this
  . intro h2;have:=Int.dvd_mul_of_dvd_right (b:=(v:Int)) h2;simpa using this
def ins {α:Type} (q:Nat) (g:Nat->α) (o:α) (i:Nat):α:=if i<q then g i else if i=q then o else g (i - 1)
theorem DF {α:Type}{q:Nat}{g:Nat->α}{o:α}{i:Nat}(h:i<q):ins q g o i=g i:=by simp [ins,h]
theorem ins_eq {α:Type}{q:Nat}{g:Nat->α}{o:α}:ins q g o q=o:=by simp [ins]
theorem Cx {α:Type}{q:Nat}{g:Nat->α}{o:α}{i:Nat}(h:q<i):ins q g o i=g (i - 1):=by simp [ins,show ¬ i<q by omega,show ¬ i=q by omega]
theorem P3 {α:Type}{q k:Nat}{g:Nat->α}{o:α}{P:α->Prop}(hq:q<=k):(∀ i,i<k+1->P (ins q g o i))↔(∀ i,i<k->P (g i))/\P o:=by
  constructor
  . intro h
    refine ⟨fun i hi=>?_,by have:=h q (by omega);rwa [ins_eq] at this⟩
    by_cases e:i<q
    . have:=h i (by omega);rwa [DF e] at this
    . have:=h (i+1) (by omega);rwa [Cx (by omega),Nat.add_sub_cancel] at this
  . intro h i hi
    rcases Nat.lt_trichotomy i q with e | e | e
    . rw [DF e];exact h.1 i (by omega)
    . subst e;rw [ins_eq];exact h.2
    . rw [Cx e];exact h.1 (i - 1) (by omega)
structure Fits (p N:Nat) (E:Nat->Nat->Nat) (k:Nat) (ld:Nat->Nat) (o:Nat->Nat) (t q:Nat):Prop where
  lt:t<N
  one:o t=1
  left:∀ c,c<t->o c=0
  small:∀ c,c<N->o c<p
  zero:∀ i,i<k->o (ld i)=0
  qk:q<=k
  lo:∀ i,i<q->ld i<t
  hi:∀ i,q<=i->i<k->t<ld i
theorem Rref.insert {p N k q t:Nat}{E:Nat->Nat->Nat}{ld o:Nat->Nat}(hp:0<p)(h:Rref p N E k ld)(f:Fits p N E k ld o t q) :
    Rref p N (ins q (fun i=>lsM p (E i) o (E i t)) o) (k+1) (ins q ld t):=by
  have hz:∀ i,i<k->∀ c,c<N->o c=0->lsM p (E i) o (E i t) c=E i c:=fun i hi c hc ho=>H7 (h.small i hi c hc) ho;have gat:∀ i,i<k->lsM p (E i) o (E i t) t=0:=fun i hi=>Jk hp f.one;have gone:∀ i,i<k->lsM p (E i) o (E i t) (ld i)=1:=fun i hi=>by rw [hz i hi _ (h.lt i hi) (f.zero i hi)];exact h.one i hi
  have gzero:∀ i j,i<k->j<k->i≠j->lsM p (E j) o (E j t) (ld i)=0:=fun i j hi hj hH=>by rw [hz j hj _ (h.lt i hi) (f.zero i hi)];exact h.zero i j hi hj hH
  have gleft:∀ i,i<k->∀ c,c<ld i->lsM p (E i) o (E i t) c=0:=by
    intro i hi c hc;have hlt:=h.lt i hi
    by_cases e:i<q
    . rw [hz i hi c (by omega) (f.left c (by have:=f.lo i e;omega))];exact h.left i hi c hc
    . have h1:=f.hi i (by omega) hi
      have:E i t=0:=h.left i hi t h1;have e2:=GF (f:=E i) (h:=o) (k:=E i t) (c:=c) hp;rw [this,h.left i hi c hc] at e2;rw [this];simp at e2;exact e2
  refine ⟨?_,?_,?_,?_,?_,?_⟩
  . intro i hi
    rcases Nat.lt_trichotomy i q with e | e | e
    . rw [DF e];exact h.lt i (by have:=f.qk;omega)
    . subst e;rw [ins_eq];exact f.lt
    . rw [Cx e];exact h.lt _ (by omega)
  . intro i j hij hj
    have hqk:=f.qk
    rcases Nat.lt_trichotomy i q with e | e | e
    . rw [DF e]
      rcases Nat.lt_trichotomy j q with e2 | e2 | e2
      . rw [DF e2];exact h.mono i j hij (by omega)
      . subst e2;rw [ins_eq];exact f.lo i e
      . rw [Cx e2]
        have h1:=f.lo i e;have h2:=f.hi (j - 1) (by omega) (by omega);omega
    . subst e;rw [ins_eq,Cx hij];exact f.hi (j - 1) (by omega) (by omega)
    . rw [Cx e,Cx (by omega)];exact h.mono (i - 1) (j - 1) (by omega) (by omega)
  . intro i hi
    have hqk:=f.qk
    rcases Nat.lt_trichotomy i q with e | e | e
    . rw [DF e,DF e];exact gone i (by omega)
    . subst e;rw [ins_eq,ins_eq];exact f.one
    . rw [Cx e,Cx e];exact gone (i - 1) (by omega)
  . intro i hi c hc
    have hqk:=f.qk
    rcases Nat.lt_trichotomy i q with e | e | e
    . rw [DF e] at hc ⊢;exact gleft i (by omega) c hc
    . subst e;rw [ins_eq] at hc ⊢;exact f.left c hc
    . rw [Cx e] at hc ⊢;exact gleft (i - 1) (by omega) c hc
  . intro i j hi hj hH
    have hqk:=f.qk
    rcases Nat.lt_trichotomy i q with e | e | e<;>rcases Nat.lt_trichotomy j q with e2 | e2 | e2
    . rw [DF e,DF e2];exact gzero i j (by omega) (by omega) hH
    . subst e2;rw [DF e,ins_eq];exact f.zero i (by omega)
    . rw [DF e,Cx e2];exact gzero i (j - 1) (by omega) (by omega) (by omega)
    . subst e;rw [ins_eq,DF e2];exact gat j (by omega)
    . omega
    . subst e;rw [ins_eq,Cx e2];exact gat (j - 1) (by omega)
    . rw [Cx e,DF e2];exact gzero (i - 1) j (by omega) (by omega) (by omega)
    . subst e2;rw [Cx e,ins_eq];exact f.zero (i - 1) (by omega)
    . rw [Cx e,Cx e2];exact gzero (i - 1) (j - 1) (by omega) (by omega) (by omega)
  . intro i hi c hc
    have hqk:=f.qk
    rcases Nat.lt_trichotomy i q with e | e | e
    . rw [DF e];exact Gs hp
    . subst e;rw [ins_eq];exact f.small c hc
    . rw [Cx e];exact Gs hp
theorem Lz {p N k q t:Nat}{E:Nat->Nat->Nat}{o:Nat->Nat}{x:Nat->Int}(hp:0<p)(hq:q<=k) :
    Ker p N (ins q (fun i=>lsM p (E i) o (E i t)) o) (k+1) x↔Ker p N E k x/\(p:Int)∣dot N (ci o) x:=by
  unfold Ker
  rw [P3 (P:=fun r=>(p:Int)∣dot N (ci r) x) hq]
  constructor
  . intro h;exact ⟨fun i hi=>(GE hp h.2).1 (h.1 i hi),h.2⟩
  . intro h;exact ⟨fun i hi=>(GE hp h.2).2 (h.1 i hi),h.2⟩
def below (k:Nat) (ld:Nat->Nat) (t:Nat):Nat:=((List.range k).find? (fun i=>decide (t<ld i))).getD k
theorem ME {p N k t:Nat}{E:Nat->Nat->Nat}{ld:Nat->Nat}(h:Rref p N E k ld)(hH:∀ i,i<k->ld i≠t):below k ld t<=k/\(∀ i,i<below k ld t->ld i<t)/\∀ i,below k ld t<=i->i<k->t<ld i:=by
  unfold below
  cases e:(List.range k).find? (fun i=>decide (t<ld i)) with
  | none =>
    have:=List.find?_eq_none.1 e;refine ⟨Nat.le_refl _,fun i hi=>?_,fun i h1 h2=>?_⟩
    . have h3:=this i (by simpa using hi);have:=hH i hi;simp at h3;omega
    . simp at h1;omega
  | some j =>
    rw [List.find?_eq_some_iff_append] at e;obtain ⟨hj,as,bs,hl,has⟩:=e;have hjk:j<k:=by
      have:j∈List.range k:=by rw [hl];simp
      simpa using this
    have hlen:as.length=j:=by
      have h1:(List.range k)[as.length]? = some j:=by rw [hl];simp
      rw [List.getElem?_range (by have:=congrArg List.length hl;simp at this;omega)] at h1;exact Option.some.inj h1
    have hlo:∀ i,i<j->ld i<t:=by
      intro i hi;have h1:as[i]? = some i:=by
        have h2:(List.range k)[i]? = some i:=List.getElem?_range (by omega);rw [hl,List.getElem?_append_left (by omega)] at h2;exact h2
      have h3:=has i (List.mem_of_getElem? h1);have:=hH i (by omega)
      simp at h3;omega
    simp at hj ⊢
    refine ⟨by omega,hlo,fun i h1 h2=>?_⟩
    by_cases e2:i=j
    . subst e2;exact hj
    . have:=h.mono j i (by omega) h2;omega
structure Own (p N:Nat) (E:Nat->Nat->Nat) (k:Nat) (ld r o:Nat->Nat) (j:Nat):Prop where
  small:∀ c,c<N->o c<p
  zero:∀ i,i<j->o (ld i)=0
  ker:∀ x,Ker p N E k x->((p:Int)∣dot N (ci o) x↔(p:Int)∣dot N (ci r) x)
theorem Own.step {p N k j:Nat}{E:Nat->Nat->Nat}{ld r o:Nat->Nat}(hp:0<p)(h:Rref p N E k ld)(ho:Own p N E k ld r o j)(hj:j<k):Own p N E k ld r (lsM p o (E j) (o (ld j))) (j+1):=by
  refine ⟨fun c _=>Gs hp,fun i hi=>?_,fun x hx=>?_⟩
  . by_cases e:i=j
    . subst e;exact Jk hp (h.one i hj)
    . rw [H7 (ho.small _ (h.lt i (by omega))) (h.zero i j (by omega) hj e)];exact ho.zero i (by omega)
  . rw [GE hp (hx j hj)];exact ho.ker x hx
theorem Ker.snoc {p N m:Nat}{M:Nat->Nat->Nat}{x:Nat->Int}:Ker p N M (m+1) x↔Ker p N M m x/\(p:Int)∣dot N (ci (M m)) x:=by
  constructor
  . intro h;exact ⟨fun i hi=>h i (by omega),h m (by omega)⟩
  . intro h i hi
    by_cases e:i=m
    . subst e;exact h.2
    . exact h.1 i (by omega)
theorem K6 {p N:Nat}{o:Nat->Nat}{x:Nat->Int}(h:∀ c,c<N->o c=0):(p:Int)∣dot N (ci o) x:=by
  have:dot N (ci o) x=0:=Cn fun i hi=>by simp [ci,h i hi]
  rw [this];exact Int.dvd_zero _
end Go.Ech
namespace Go.Sw
open Go Go.RowKit
variable {P : Program}
def MI (w0:World) (L:Own) (N k:Nat) (f:Nat->Nat->Value) (u:Value) (w':World):Prop:=∃ (D:Al) (β κ:Nat->Nat) (C:Nat->Array Value) (b cap:Nat) (cs:Array Value),
  (∀ x ds,(x,ds)∈D->w0.heap.size<=x/\Blk w' x ds/\∀ (k:Nat) c es,L[k]? = some (some (c,es))->c≠x)/\RowsD D N k β κ C f/\SlAt 1 u (some (b,cs)) k b cap cs (fun i=>.slice (some ⟨β i,0,none⟩) N (κ i))/\(b,cs)∈D
theorem RowsOut.fresh {X:List Nat}{w0 w w':World}{L:Own}{D:Al}{N k:Nat}{f:Nat->Nat->Value}{u:Value}(J:MemX X w0 w L D)(h:RowsOut w w' N k f u):MI w0 L N k f u w':=by
  obtain ⟨D',β,κ,C,b,cap,cs,h1,h2⟩:=h;refine ⟨D',β,κ,C,b,cap,cs,fun x ds hm=>⟨Nat.le_trans J.bel.size (h1 x ds hm).1,(h1 x ds hm).2,fun k c es hk e=>?_⟩,h2⟩;have:=(J.blk k c es hk).2.lt;have:=(h1 x ds hm).1
  omega
end Go.Sw
namespace Go.Ech
def dl (i c:Nat):Nat:=if i=c then 1 else 0
def KO (n:Nat) (x:Nat->Nat) (c:Nat):Int:=if c<n then (x c:Int) else -1
theorem Q7 {n c:Nat}{x:Nat->Nat}(h:c<n):KO n x c=x c:=by simp [KO,h]
theorem Qc {n:Nat}{x:Nat->Nat}:KO n x n = -1:=by simp [KO]
theorem Fe {p a b:Nat}(ha:a<p)(hb:b<p)(h:(p:Int)∣(a:Int) - (b:Int)):a=b:=by
  obtain ⟨q,hq⟩:=h;have:q=0:=by
    rcases Int.lt_trichotomy q 0 with hh | hh | hh
    . have:=Int.mul_le_mul_of_nonneg_left (show q<=-1 by omega) (show (0:Int)<=p by omega);omega
    . exact hh
    . have:=Int.mul_le_mul_of_nonneg_left (show 1<=q by omega) (show (0:Int)<=p by omega);omega
  subst this;omega
structure Full (p n:Nat) (E:Nat->Nat->Nat) (k:Nat) (ld:Nat->Nat):Prop where
  k:k=n
  ld:∀ i,i<n->ld i=i
structure UnitI (p n:Nat) (T:Nat->Nat->Nat->Nat) (u:Nat->Nat):Prop where
  small:∀ c,u c<p
  out:∀ c,n<=c->u c=0
  right:∀ i,i<n->∀ c,c<n->(p:Int)∣sI (fun a=>(u a:Int)*(T a i c:Int)) n - (dl i c:Int)
  left:∀ i,i<n->∀ c,c<n->(p:Int)∣sI (fun b=>(u b:Int)*(T i b c:Int)) n - (dl i c:Int)
theorem M8 {p n:Nat}{T:Nat->Nat->Nat->Nat}{u y:Nat->Nat}(hl:∀ i,i<n->∀ c,c<n->(p:Int)∣sI (fun b=>(u b:Int)*(T i b c:Int)) n - (dl i c:Int))
    (hr:∀ i,i<n->∀ c,c<n->(p:Int)∣sI (fun a=>(y a:Int)*(T a i c:Int)) n - (dl i c:Int)) {c:Nat} (hc:c<n):(p:Int)∣(y c:Int) - (u c:Int):=by
  have e1:(p:Int)∣sI (fun a=>(y a:Int)*sI (fun b=>(u b:Int)*(T a b c:Int)) n) n - (y c:Int):=by
    have:sI (fun a=>(y a:Int)*sI (fun b=>(u b:Int)*(T a b c:Int)) n) n - (y c:Int)=sI (fun a=>(y a:Int)*(sI (fun b=>(u b:Int)*(T a b c:Int)) n - (dl a c:Int))) n:=by
      have h1:=Dr (fun a=>(y a:Int)*(sI (fun b=>(u b:Int)*(T a b c:Int)) n - (dl a c:Int))) (fun a=>(y a:Int)*(dl a c:Int)) n;have h2:sI (fun a=>(y a:Int)*(dl a c:Int)) n=y c:=by
        rw [Bl hc]
        . simp [dl]
        . intro i _ hH;simp [dl,hH]
      have h3:(fun a=>(y a:Int)*(sI (fun b=>(u b:Int)*(T a b c:Int)) n - (dl a c:Int))+(y a:Int)*(dl a c:Int))=(fun a=>(y a:Int)*sI (fun b=>(u b:Int)*(T a b c:Int)) n):=by funext a;grind
      rw [h3] at h1;omega
    rw [this];exact Cu fun a ha=>Int.dvd_mul_of_dvd_right (hl a ha c hc)
  have e2:(p:Int)∣sI (fun b=>(u b:Int)*sI (fun a=>(y a:Int)*(T a b c:Int)) n) n - (u c:Int):=by
    have:sI (fun b=>(u b:Int)*sI (fun a=>(y a:Int)*(T a b c:Int)) n) n - (u c:Int)=sI (fun b=>(u b:Int)*(sI (fun a=>(y a:Int)*(T a b c:Int)) n - (dl b c:Int))) n:=by
      have h1:=Dr (fun b=>(u b:Int)*(sI (fun a=>(y a:Int)*(T a b c:Int)) n - (dl b c:Int))) (fun b=>(u b:Int)*(dl b c:Int)) n;have h2:sI (fun b=>(u b:Int)*(dl b c:Int)) n=u c:=by
        rw [Bl hc]
        . simp [dl]
        . intro i _ hH;simp [dl,hH]
      have h3:(fun b=>(u b:Int)*(sI (fun a=>(y a:Int)*(T a b c:Int)) n - (dl b c:Int))+(u b:Int)*(dl b c:Int))=(fun b=>(u b:Int)*sI (fun a=>(y a:Int)*(T a b c:Int)) n):=by funext a;grind
      rw [h3] at h1;omega
    rw [this];exact Cu fun a ha=>Int.dvd_mul_of_dvd_right (hr a ha c hc)
  have e3:sI (fun a=>(y a:Int)*sI (fun b=>(u b:Int)*(T a b c:Int)) n) n=sI (fun b=>(u b:Int)*sI (fun a=>(y a:Int)*(T a b c:Int)) n) n:=by
    have h1:∀ a,(y a:Int)*sI (fun b=>(u b:Int)*(T a b c:Int)) n=sI (fun b=>(y a:Int)*((u b:Int)*(T a b c:Int))) n:=fun a=>(Cb _ _ _).symm;have h2:∀ b,(u b:Int)*sI (fun a=>(y a:Int)*(T a b c:Int)) n=sI (fun a=>(u b:Int)*((y a:Int)*(T a b c:Int))) n:=fun a=>(Cb _ _ _).symm;simp only [h1,h2];rw [C4];exact Ar fun i _=>Ar fun j _=>by grind
  rw [e3] at e1;have:=Int.dvd_sub e2 e1
  rwa [show ∀ s:Int,s - (u c:Int) - (s - (y c:Int))=(y c:Int) - (u c:Int) from fun s=>by omega] at this
theorem UnitI.unique {p n:Nat}{T:Nat->Nat->Nat->Nat}{u y:Nat->Nat}(hu:UnitI p n T u)(hy:UnitI p n T y):y=u:=by
  funext c
  by_cases hc:c<n
  . exact Fe (hy.small c) (hu.small c) (M8 hu.left hy.right hc)
  . rw [hu.out c (by omega),hy.out c (by omega)]
def fM (n:Nat) (T:Nat->Nat->Nat->Nat) (r c:Nat):Nat:=if c<n then T c (r / n) (r%n) else if r / n=r%n then 1 else 0
end Go.Ech
namespace Go.Sw
open Go Go.RowKit
variable {P : Program}
section
variable {ops : List Oper} {Q : Exit -> Act -> World -> Prop} {n : Nat} {F : List (Nat × Value)}
def Ew:List Oper->Nat->Bool
  | [],_=>true
  | o::r,i=>(o.after.toList.all fun e=>!(Region.binds .any e) || Nat.blt e.on i) && Ew r (i+1)
theorem B8:∀ {l:List Oper} {i:Nat},Ew l i=true->∀ j o,l[j]? = some o->∀ e∈o.after,Region.binds .any e=true->e.on<i+j
  | [],_,_,j,o,h,_,_=>by simp at h
  | x :: r, i, hb, j, o, h, e, he => by
    intro hO
    simp only [Ew,Bool.and_eq_true,List.all_eq_true] at hb
    cases j with
    | zero=>simp at h;subst h;have:=hb.1 e (by simpa using he);rw [hO] at this;simpa using this
    | succ j=>have:=B8 hb.2 j o (by simpa using h) e he hO;omega
def Hm (ops:List Oper) (k:Nat):Bool:=Ew ops 0 && FS (Ma ops []) ops.length ops.length k
def Fg (n:Nat) (F:List (Nat×Value)):List Oper->List Nat->Bool
  | [],_=>true
  | o :: r, seen => o.guard.isNone && (match o.dst with
    | some d=>Nat.blt d n && (lk F d).isNone && !(CS d seen) && Fg n F r (d::seen)
    | none=>Fg n F r seen)
theorem C5:∀ {l:List Oper} {seen:List Nat},Fg n F l seen=true->∀ (i:Nat) (o:Oper),l[i]? = some o->o.guard=none/\∀ d,o.dst=some d->d<n/\lk F d=none/\d ∉ seen/\(∀ (j:Nat) (o':Oper),j<i->l[j]? = some o'->o'.dst≠some d)
  | [],_,_,i,o,h=>by simp at h
  | x :: r, seen, hb, i, o, h => by
    simp only [Fg,Bool.and_eq_true] at hb
    obtain ⟨hgn,hb⟩:=hb
    cases hx:x.dst with
    | none =>
      simp only [hx] at hb
      cases i with
      | zero =>
        simp at h;subst h
        exact ⟨by simpa using hgn,fun d hd=>by rw [hx] at hd;cases hd⟩
      | succ i =>
        obtain ⟨g1,g2⟩:=C5 hb i o (by simpa using h)
        refine ⟨g1,fun d hd=>⟨(g2 d hd).1,(g2 d hd).2.1,(g2 d hd).2.2.1,fun j o' hj ho'=>?_⟩⟩
        cases j with
        | zero=>simp at ho';subst ho';rw [hx];exact fun e=>by cases e
        | succ j=>exact (g2 d hd).2.2.2 j o' (by omega) (by simpa using ho')
    | some d0 =>
      simp only [hx,Bool.and_eq_true,Bool.not_eq_true',Option.isNone_iff_eq_none] at hb
      obtain ⟨⟨⟨h1,h2⟩,h3⟩,h4⟩:=hb
      cases i with
      | zero =>
        simp at h;subst h
        refine ⟨by simpa using hgn,fun d hd=>?_⟩
        rw [hx] at hd;obtain rfl:=Option.some.inj hd
        exact ⟨Nat.blt_eq.mp h1,h2,(fun hm=>by rw [memNat_iff.2 hm] at h3;cases h3),(fun j o' hj=>by omega)⟩
      | succ i =>
        obtain ⟨g1,g2⟩:=C5 h4 i o (by simpa using h)
        refine ⟨g1,fun d hd=>⟨(g2 d hd).1,(g2 d hd).2.1,fun hm=>(g2 d hd).2.2.1 (List.mem_cons_of_mem _ hm),fun j o' hj ho'=>?_⟩⟩
        cases j with
        | zero=>simp at ho';subst ho';rw [hx];intro e;obtain rfl:=Option.some.inj e;exact (g2 _ hd).2.2.1 (List.mem_cons_self ..)
        | succ j=>exact (g2 d hd).2.2.2 j o' (by omega) (by simpa using ho')
def LL (ops:List Oper) (k s:Nat) (φ:Nat->Value->Prop) (o:Oper) (a:Act):Prop:=
  ∀ j,Nat.blt j k=true->Nat.beq j s=false->Bz o j=true->φ j (a.tmps.getD (Bh ops j) undef)
def Hc (ops:List Oper) (s i:Nat):Bool:=match ops[s]? with | some o=>Bz o i | none=>false
def StepsS (P:Program) (ops:List Oper) (k s n:Nat) (F:List (Nat×Value)) (S:Bool->World->Prop) (φ:Nat->Value->Prop):List Oper->Nat->Prop
  | [],_=>True
  | o::r,i=>(if Nat.beq i s=true then ∀ a w,Fr n a F->S false w->LL ops k s φ o a->Does P o a w (fun _ w'=>S true w')
      else ∀ a w b,Fr n a F->S b w->(Hc ops s i=true->b=false)->LL ops k s φ o a->Does P o a w (fun v w'=>S b w'/\φ i v))/\StepsS P ops k s n F S φ r (i+1)
theorem StepsS.get {k s:Nat}{S:Bool->World->Prop}{φ:Nat->Value->Prop}:∀ {l:List Oper} {i:Nat},StepsS P ops k s n F S φ l i->∀ (j:Nat) (o:Oper),l[j]? = some o->
    (if Nat.beq (i+j) s=true then ∀ a w,Fr n a F->S false w->LL ops k s φ o a->Does P o a w (fun _ w'=>S true w')
      else ∀ a w b,Fr n a F->S b w->(Hc ops s (i+j)=true->b=false)->LL ops k s φ o a->Does P o a w (fun v w'=>S b w'/\φ (i+j) v))
  | [],_,_,j,o,h=>by simp at h
  | x :: r, i, hs, j, o, h => by
    cases j with
    | zero=>simp at h;subst h;exact hs.1
    | succ j=>have:=hs.2.get j o (by simpa using h);rwa [show i+1+j=i+(j+1) by omega] at this
theorem CQ {S:Bool->World->Prop}{id:Nat}(k s:Nat){a:Act}{w:World}(hm:P.follows .mixedOrders=true)(hk:Hm ops k=true)(hsk:Nat.blt s k=true)(hsl:Nat.blt s ops.length=true)(O:Fr n a F)(hdst:Fg n F (ops.take k) []=true)(hdall:∀ (j:Nat) (o:Oper),(ops.take k)[j]? = some o->j≠s->o.dst≠none)(hS:S false w)
    (hdr:∀ b w,S b w->S b w.drew) (φ:Nat->Value->Prop)
    (hsteps:StepsS P ops k s n F S φ (ops.take k) 0)
    (hend:∀ a w,Fr n a F->S true w->(∀ i,Nat.blt i k=true->Nat.blt i ops.length=true->Nat.beq i s=false->φ i (a.tmps.getD (Bh ops i) undef))->wpList P ops.toArray Q (ops.drop k) a w) :
    (Code.region id ops.toArray true).wp P Q a w:=by
  refine wp_region_any hm ?_;simp only [Hm,Bool.and_eq_true] at hk;obtain ⟨hback,htail⟩:=hk;have hge:∀ (i:Nat),ops.toArray[i]? = ops[i]?:=fun i=>by simp
  have hreach:∀ i j,k<=i->i<ops.length->j<i->Reach ops i j:=fun i j h1 h2 h3=>
    EE ops [] (fun i=>by simp) (fun m j h=>by simp at h) i j (DA htail i h1 h2 (by omega) j h3)
  have edge_listed:∀ {i:Nat} {o:Oper} {listed:Array Bool} {j:Nat},i∈Region.ready .any ops.toArray listed->ops[i]? = some o->Bz o j=true->listed.getD j false=true:=by
    intro i o listed j hi ho he;obtain ⟨_,o',ho',hJ⟩:=mem_ready.1 hi;rw [hge,ho] at ho';obtain rfl:=Option.some.inj ho';simp only [Bz,List.any_eq_true,Bool.and_eq_true] at he;obtain ⟨e,hm',hb,hj⟩:=he;obtain rfl:=Nat.eq_of_beq_eq_true hj;exact hJ e (by simpa using hm') hb
  have reach_listed:∀ {listed:Array Bool},(∀ (j:Nat) o,ops[j]? = some o->listed.getD j false=true->∀ e∈o.after,Region.binds .any e=true->listed.getD e.on false=true)->∀ i j,Reach ops i j->(∀ o m,ops[i]? = some o->Bz o m=true->listed.getD m false=true)->listed.getD j false=true:=by
    intro listed hcl i j hr
    induction hr with
    | one ho he=>intro h;exact h _ _ ho he
    | more ho he _ ih =>
      intro h;have hm':=h _ _ ho he;refine ih (fun o m ho2 he2=>?_);simp only [Bz,List.any_eq_true,Bool.and_eq_true] at he2;obtain ⟨e,hin,hb,hj⟩:=he2;obtain rfl:=Nat.eq_of_beq_eq_true hj;exact hcl _ o ho2 hm' e (by simpa using hin) hb
  have tail:∀ (f m:Nat) (listed:Array Bool) (a:Act) (w:World),k<=m->ops.length - m<=f->(∀ j,j<m->j<ops.length->listed.getD j false=true)->(∀ j,m<=j->j<ops.length->listed.getD j true=false)->
      wpList P ops.toArray Q (ops.drop m) a w->wpAny P .any ops.toArray Q f listed a w:=by
    intro f
    induction f with
    | zero =>
      intro m listed a w hkm hf h1 h2 h;rw [List.drop_eq_nil_of_le (by omega)] at h;refine ⟨?_,h⟩
      cases hr:Region.ready .any ops.toArray listed with
      | nil=>rfl
      | cons i r =>
        obtain ⟨g1,o,ho,_⟩:=mem_ready.1 (hr ▸ List.mem_cons_self .. : i∈Region.ready .any ops.toArray listed);rw [hge] at ho;have hi:=(List.getElem?_eq_some_iff.1 ho).1;have:=h1 i (by omega) hi
        simp [Array.getD_eq_getD_getElem?] at this g1
        cases hh:listed[i]?<;>simp [hh] at this g1
        rw [this] at g1;cases g1
    | succ f ih =>
      intro m listed a w hkm hf h1 h2 h;have only:∀ i∈Region.ready .any ops.toArray listed,i=m:=by
        intro i hi;obtain ⟨g1,o,ho,hJ⟩:=mem_ready.1 hi;have ho':=ho;rw [hge] at ho';have hil:=(List.getElem?_eq_some_iff.1 ho').1
        by_cases hlt:i<m
        . have:=h1 i hlt hil
          simp [Array.getD_eq_getD_getElem?] at this g1
          cases hh:listed[i]?<;>simp [hh] at this g1
          rw [this] at g1;cases g1
        . by_cases e:i=m
          . exact e
          . have:=reach_listed (listed:=listed) (fun j o hj hl e he hO=>by
                have hU:=(List.getElem?_eq_some_iff.1 hj).1;have hjm:j<m:=by
                  rcases Nat.lt_or_ge j m with h | h
                  . exact h
                  . have h3:=h2 j h hU
                    simp [Array.getD_eq_getD_getElem?] at hl h3
                    cases hh:listed[j]?<;>simp [hh] at hl h3
                    rw [hl] at h3;cases h3
                have:=B8 hback j o hj e he hO;exact h1 e.on (by omega) (by omega)) i m (hreach i m (by omega) hil (by omega)) (fun o2 q ho2 he2=>by
                rw [ho'] at ho2;obtain rfl:=Option.some.inj ho2;exact edge_listed hi ho' he2)
            have h3:=h2 m (Nat.le_refl _) (by omega)
            simp [Array.getD_eq_getD_getElem?] at this h3
            cases hh:listed[m]?<;>simp [hh] at this h3
            rw [this] at h3;cases h3
      refine ⟨fun hr=>?_,fun i hi=>?_⟩
      . by_cases hml:m<ops.length
        . exfalso
          have:m∈Region.ready .any ops.toArray listed:=by
            refine mem_ready.2 ⟨h2 m (Nat.le_refl _) hml,ops[m],by simp [hml],fun e he hO=>?_⟩;have:=B8 hback m ops[m] (by simp [hml]) e he hO;exact h1 e.on (by omega) (by omega)
          rw [hr] at this;cases this
        . rw [List.drop_eq_nil_of_le (by omega)] at h;exact h
      . obtain rfl:=only i hi
        obtain ⟨g1,o,ho,_⟩:=mem_ready.1 hi;rw [hge] at ho;have hil:=(List.getElem?_eq_some_iff.1 ho).1;have hdrop:ops.drop i=o::ops.drop (i+1):=by
          rw [List.drop_eq_getElem_cons hil];congr 1;exact (List.getElem?_eq_some_iff.1 ho).2
        rw [hdrop] at h;have K:∀ a w,wpList P ops.toArray Q (ops.drop (i+1)) a w->wpAny P .any ops.toArray Q f (listed.setIfInBounds i true) a w:=by
          intro a w hh;refine ih (i+1) _ a w (by omega) (by omega) (fun j hj hU=>?_) (fun j hj hU=>?_) hh
          . by_cases e:i=j
            . subst e
              have hsz:i<listed.size:=by
                rcases Nat.lt_or_ge i listed.size with h' | h'
                . exact h'
                . simp [Array.getElem?_eq_none h'] at g1
              simp [hsz]
            . rw [getD_set_ne false e];exact h1 j (by omega) hU
          . rw [getD_set_ne true (by omega)];exact h2 j (by omega) hU
        unfold wpOp
        rw [hge,ho]
        unfold wpList at h
        show (if Region.wanted o (yielded ops.toArray a.tmps) then _ else _)
        split
        . rename_i hw
          rw [if_pos hw] at h;exact h.imp (Oper.wp_mono K) (fun x=>x)
        . rename_i hw
          rw [if_neg hw] at h;exact K _ _ h
  have hskl:s<ops.length:=Nat.blt_eq.mp hsl;have hsk':s<k:=Nat.blt_eq.mp hsk;have hnodst:∀ (j:Nat) (o:Oper),(ops.take k)[j]? = some o->j≠s->o.dst≠none:=fun j o hj hH=>hdall j o hj hH;have head:∀ (f:Nat) (listed:Array Bool) (a:Act) (w:World),listed.size=ops.length->(List.range ops.length).countP (fun i=>!listed.getD i true)<=f->(∀ j,k<=j->j<ops.length->listed.getD j true=false)->(∀ (j:Nat) o,ops[j]? = some o->listed.getD j false=true->∀ e∈o.after,Region.binds .any e=true->listed.getD e.on false=true)->
      Fr n a F->S (listed.getD s false) w->(∀ i,i<k->i<ops.length->i≠s->listed.getD i false=true->φ i (a.tmps.getD (Bh ops i) undef))->wpAny P .any ops.toArray Q f listed a w:=by
    intro f
    induction f with
    | zero =>
      intro listed a w hsz hc h2 hcl O hS hφ';have all:∀ j,j<ops.length->listed.getD j true=true:=by
        intro j hj;have h0:(List.range ops.length).countP (fun i=>!listed.getD i true)=0:=by omega
        have:=List.countP_eq_zero.1 h0 j (by simpa using hj)
        simpa using this
      have all':∀ j,j<ops.length->listed.getD j false=true:=by
        intro j hj;have:=all j hj;have hjs:j<listed.size:=by omega
        simpa [Array.getD_eq_getD_getElem?,hjs] using this
      have hlen:ops.length<=k:=by
        rcases Nat.lt_or_ge k ops.length with h | h
        . have e1:=h2 k (Nat.le_refl _) h
          rw [all k h] at e1;cases e1
        . exact h
      refine tail 0 k listed a w (Nat.le_refl _) (by omega) (fun j _ hj=>all' j hj) (fun j hj hU=>by omega)<|hend a w O (by rw [all' s hskl] at hS;exact hS) (fun i hi hil hH=>hφ' i (Nat.blt_eq.mp hi) (Nat.blt_eq.mp hil) (fun e=>by subst e;simp at hH) (all' i (Nat.blt_eq.mp hil)))
    | succ f ih =>
      intro listed a w hsz hc h2 hcl O hS hφ'
      by_cases all:∀ j,j<k->j<ops.length->listed.getD j false=true
      . refine tail (f+1) k listed a w (Nat.le_refl _) ?_ all h2 (hend a w O (by rw [all s hsk' hskl] at hS;exact hS) (fun i hi hil hH=>hφ' i (Nat.blt_eq.mp hi) (Nat.blt_eq.mp hil) (fun e=>by subst e;simp at hH) (all i (Nat.blt_eq.mp hi) (Nat.blt_eq.mp hil))))
        have hge':∀ (m:Nat),m<=ops.length->m - k<=(List.range m).countP (fun i=>!listed.getD i true):=by
          intro m
          induction m with
          | zero=>intro _;simp
          | succ m ihm =>
            intro hm';have:=ihm (by omega);rw [List.range_succ,List.countP_append]
            by_cases hkm:k<=m
            . have e1:=h2 m hkm (by omega)
              have e2:List.countP (fun i=>!listed.getD i true) [m]=1:=by rw [List.countP_cons,e1];rfl
              omega
            . omega
        have:=hge' ops.length (Nat.le_refl _)
        omega
      . have step:∀ i∈Region.ready .any ops.toArray listed,i<k:=by
          intro i hi
          rcases Nat.lt_or_ge i k with h | h
          . exact h
          . exfalso
            obtain ⟨g1,o,ho,_⟩:=mem_ready.1 hi;rw [hge] at ho;have hil:=(List.getElem?_eq_some_iff.1 ho).1;exact all (fun j hj hU=>reach_listed hcl i j (hreach i j h hil (by omega)) (fun o2 q ho2 he2=>by
              rw [ho] at ho2;obtain rfl:=Option.some.inj ho2;exact edge_listed hi ho he2))
        refine ⟨fun hr=>?_,fun i hi=>?_⟩
        . exfalso
          apply all
          intro j
          induction j using Nat.strongRecOn with
          | _ j ihj =>
            intro hjk hU
            cases hl:listed.getD j false with
            | true=>rfl
            | false =>
              have hjs:j<listed.size:=by omega
              have hm':j∈Region.ready .any ops.toArray listed:=by
                refine mem_ready.2 ⟨?_,ops[j],by simp [hU],fun e he hO=>?_⟩
                . simpa [Array.getD_eq_getD_getElem?,hjs] using hl
                . have:=B8 hback j ops[j] (by simp [hU]) e he hO
                  exact ihj e.on (by omega) (by omega) (by omega)
              rw [hr] at hm';cases hm'
        . have hik:=step i hi
          obtain ⟨g1,o,ho,hall'⟩:=mem_ready.1 hi;rw [hge] at ho;have hil:=(List.getElem?_eq_some_iff.1 ho).1;have hti:(ops.take k)[i]? = some o:=by rw [List.getElem?_take,if_pos hik];exact ho
          obtain ⟨hd6,hdd⟩:=C5 hdst i o hti;have hnl:listed.getD i false=false:=by
            have:i<listed.size:=by omega
            simp [Array.getD_eq_getD_getElem?,this] at g1 ⊢;exact g1
          have hdep:LL ops k s φ o a:=fun j hj hjs he=>by
            have hj':j<k:=Nat.blt_eq.mp hj;have hl:=edge_listed hi ho he;have hU:j<ops.length:=by
              rcases Nat.lt_or_ge j listed.size with h | h
              . omega
              . simp [Array.getElem?_eq_none h] at hl
            exact hφ' j hj' hU (fun e=>by subst e;simp at hjs) hl
          have rest:∀ (v:Value) (w':World),S ((listed.setIfInBounds i true).getD s false) w'->(i≠s->φ i v)->wpAny P .any ops.toArray Q f (listed.setIfInBounds i true) (a.put o.dst v) w':=by
            intro v w' hS' hvi;have hF':Fr n (a.put o.dst v) F:=by
              cases hd:o.dst with
              | none=>exact O
              | some d =>
                obtain ⟨hd2,hd3,_⟩:=hdd d hd;have:=O.put d v (Nat.blt_eq.mpr hd2);refine ⟨this.defers,this.size,fun t u ht=>this.get t u ?_⟩;simp only [lk];have hH:¬ d=t:=fun e=>by subst e;rw [hd3] at ht;cases ht
                rw [J8 hH];exact ht
            refine ih _ _ _ (by simpa using hsz) ?_ (fun j hj hU=>?_) (fun j oj hoj hl e he hb=>?_) hF' hS' (fun j hj hU hjs hl=>?_)
            . have:(List.range ops.length).countP (fun j=>!(listed.setIfInBounds i true).getD j true)<(List.range ops.length).countP (fun j=>!listed.getD j true):=by
                refine Ei (fun x hx=>?_) ⟨i,by simpa using hil,by simpa using g1,?_⟩
                . by_cases e:i=x
                  . subst e;simp only [g1];rfl
                  . rw [getD_set_ne true e] at hx;exact hx
                . have:i<listed.size:=by omega
                  simp [this]
              omega
            . rw [getD_set_ne true (by omega)];exact h2 j hj hU
            . refine getD_set_true ?_
              by_cases ej:j=i
              . subst ej
                rw [ho] at hoj;obtain rfl:=Option.some.inj hoj;exact hall' e he hb
              . rw [getD_set_ne false (Ne.symm ej)] at hl
                exact hcl j oj hoj hl e he hb
            . by_cases e:j=i
              . subst e
                have hv:=hvi hjs
                cases hd:o.dst with
                | none=>simp only [Bh,ho,Option.bind_some,hd] at hv ⊢;exact absurd hd (by
                    intro _;exact hnodst j o hti hjs hd)
                | some d =>
                  obtain ⟨hd2,_⟩:=hdd d hd;have hdo:Bh ops j=d:=by simp [Bh,ho,hd]
                  rw [hdo];have:(a.put (some d) v).tmps.getD d undef=v:=by simp [Act.put,O.size,hd2]
                  rw [this];exact hv
              . rw [getD_set_ne false (Ne.symm e)] at hl
                have hold:=hφ' j hj hU hjs hl
                cases hd:o.dst with
                | none=>exact hold
                | some d =>
                  obtain ⟨hd2,hd3,_,hd5⟩:=hdd d hd;have hoj:ops[j]? = some ops[j]:=by simp [hU]
                  have htj:(ops.take k)[j]? = some ops[j]:=by rw [List.getElem?_take,if_pos hj];exact hoj
                  have hdn:Bh ops j≠d:=by
                    intro e2
                    cases hdj:(ops[j]).dst with
                    | none=>exact hnodst j _ htj hjs hdj
                    | some d' =>
                      have:Bh ops j=d':=by simp only [Bh,hoj,Option.bind_some,hdj,Option.getD_some]
                      rw [this] at e2;subst e2
                      rcases Nat.lt_or_gt_of_ne e with h | h
                      . exact hd5 j ops[j] h htj hdj
                      . exact ((C5 hdst j ops[j] htj).2 _ hdj).2.2.2 i o h hti hd
                  have:(a.put (some d) v).tmps.getD (Bh ops j) undef=a.tmps.getD (Bh ops j) undef:=by
                    simp [Act.put,Array.getElem?_setIfInBounds_ne (Ne.symm hdn)]
                  rw [this];exact hold
          have hdoes:=StepsS.get hsteps i o hti;rw [Nat.zero_add] at hdoes
          unfold wpOp
          rw [hge,ho]
          show (if Region.wanted o (yielded ops.toArray a.tmps) then _ else _)
          rw [if_pos (by simp [Region.wanted,hd6])]
          by_cases his:i=s
          . subst his
            rw [if_pos (by simp)] at hdoes;rw [hnl] at hS;refine .inl ((hdoes a w O hS hdep).run _ _ fun v w' hv=>rest v w' ?_ (fun e=>absurd rfl e));have:i<listed.size:=by omega
            have e1:(listed.setIfInBounds i true).getD i false=true:=by simp [this]
            rw [e1];exact hv
          . rw [if_neg (by simpa using his)] at hdoes
            refine .inl ((hdoes a w (listed.getD s false) O hS (fun he=>?_) hdep).run _ _ fun v w' hv=>rest v w' ?_ (fun _=>hv.2))
            . cases hb:listed.getD s false with
              | false=>rfl
              | true =>
                exfalso
                unfold Hc at he
                have hos:ops[s]? = some ops[s]:=by simp [hskl]
                rw [hos] at he;simp only [Bz,List.any_eq_true,Bool.and_eq_true] at he;obtain ⟨e,hin,hb2,hj⟩:=he;have hj:=Nat.eq_of_beq_eq_true hj;have:=hcl s _ hos hb e (by simpa using hin) hb2;rw [hj,hnl] at this;cases this
            . rw [getD_set_ne false his];exact hv.1
  refine head ops.toArray.size (Array.replicate ops.toArray.size false) a _ (by simp) ?_ (fun j _ hj=>by simp [hj]) (fun j o hj hl e he hO=>by have hU:=(List.getElem?_eq_some_iff.1 hj).1;simp [hU] at hl) O (by simp [hskl];exact hdr _ _ hS) (fun i _ hi _ hl=>by simp [hi] at hl)
  . have:=List.countP_le_length (l:=List.range ops.length) (p:=fun i=>!(Array.replicate ops.toArray.size false).getD i true)
    simpa using this
end
end Go.Sw
