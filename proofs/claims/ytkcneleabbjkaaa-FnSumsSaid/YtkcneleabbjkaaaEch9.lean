import Derived.Test.YtkcneleabbjkaaaSw74
set_option linter.unusedVariables false
set_option linter.unusedSimpArgs false
namespace Go.Sw
open Go Go.RowKit
section
variable {P : Program} {n : Nat} {F : List (Nat × Value)} {a : Act} {w : World} {d : Option Tmp} {t T T' e : TypeId} {pos : String} {af : Array Edge} {gd : Option (Nat × Bool)} {x y : Operand} {ad : Addr} {l c : Nat}
end
theorem Np {L:Own}{k:Nat}(h:L[k]? = some none):L.set k none=L:=by
  apply List.ext_getElem?
  intro i;rw [List.getElem?_set]
  split
  . rename_i e;subst e;rw [if_pos (List.getElem?_eq_some_iff.1 h).1,h]
  . rfl
inductive FactF where
  | val (v:Value)
  | own (cs:Array Value) (n:Nat)
  | two (c1 c2:Array Value) (n1 n2:Nat)
def FactF.sem:FactF->A7->Value->Prop
  | .val v,_,u=>u=v
  | .own cs n,D,u=>∃ b,u = .slice (some ⟨b,0,none⟩) n n/\(b,cs)∈D
  | .two c1 c2 n1 n2,D,u=>∃ b b1 b2,u = .slice (some ⟨b,0,none⟩) 2 2/\(b,#[.slice (some ⟨b1,0,none⟩) n1 n1,.slice (some ⟨b2,0,none⟩) n2 n2])∈D/\(b1,c1)∈D/\(b2,c2)∈D
theorem FactF.more {f:FactF}{D D':A7}{u:Value}(h:f.sem D u)(hs:∀ x,x∈D->x∈D'):f.sem D' u:=by
  cases f with
  | val v=>exact h
  | own cs n=>obtain ⟨b,h1,h2⟩:=h;exact ⟨b,h1,hs _ h2⟩
  | two c1 c2 n1 n2=>obtain ⟨b,b1,b2,h1,h2,h3,h4⟩:=h;exact ⟨b,b1,b2,h1,hs _ h2,hs _ h3,hs _ h4⟩
def Q0 (l:List FactF) (s:Nat):Facts (A7×Option (Nat×Array Value)×Value):=fun i g u _=>match Nat.beq i s with
  | true=>u=g.2.2
  | false => match l[i]? with
    | some f=>f.sem g.1 u
    | none=>True
def ParF (w0:World) (D:A7) (L0:Own) (kr:Nat) (e0:Option (Nat×Array Value)) (R:A7->Option (Nat×Array Value)->Value->Prop) (b:Bool) (g:A7×Option (Nat×Array Value)×Value) (w:World):Prop:=
  Ag w0 w (L0.set kr g.2.1) (g.1++D)/\(∀ x ds,(x,ds)∈g.1->w0.heap.size<=x/\∀ y es,(y,es)∈D->y≠x)/\(b=false->g.2.1=e0)/\(b=true->R g.1 g.2.1 g.2.2)
section
variable {P : Program} {w0 w : World} {D : A7} {L0 : Own} {kr s i k : Nat} {e0 : Option (Nat × Array Value)} {R : A7 -> Option (Nat × Array Value) -> Value -> Prop} {b : Bool} {g : A7 × Option (Nat × Array Value) × Value} {l : List FactF} {o : Oper} {a : Act}
theorem ParF.drew (h:ParF w0 D L0 kr e0 R b g w):ParF w0 D L0 kr e0 R b g w.drew:=⟨h.1.ext (Below.drew (Below.refl _ _)),h.2⟩
theorem ParF.mem (h:ParF w0 D L0 kr e0 R b g w)(hk:L0[kr]? = some none):Ag w0 w L0 D:=by
  have h1:=(h.1.drop kr).sub D (fun _ hx=>List.mem_append_right _ hx)
  rwa [List.set_set,Np hk] at h1
end
def RO (x y z:Int) (c:Nat):Int:=if c=0 then x else if c=1 then y else z
open Go Go.RowKit Go.Ech
structure Tri (w:World) (b o m:Nat) (R:Nat->Nat->Int) (ca be ob:Nat->Nat):Prop where
  cell:∀ i,i<m->w.cell? ⟨b,o+i*1,none⟩=some (.slice (some ⟨be i,ob i,none⟩) 3 (ca i))
  num:∀ i,i<m->∀ j,j<3->w.cell? ⟨be i,ob i+j*1,none⟩=some (.int .i64 (R i j))
theorem Tri.ext {w w':World}{b o m:Nat}{R:Nat->Nat->Int}{ca be ob:Nat->Nat}(h:Tri w b o m R ca be ob)(hx:Ext w w'):Tri w' b o m R ca be ob:=
  ⟨fun i hi=>E1 (h.cell i hi) hx,fun i hi j hj=>E1 (h.num i hi j hj) hx⟩
theorem ArgSS.tri {w:World}{sl:Value}{m:Nat}{Ln:Nat->Nat}{R:Nat->Nat->Int}{xs:Nat->Option Addr}{ca be ob:Nat->Nat}(h:ArgSS w sl m Ln R xs ca be ob)(h0:0<m)(hl:∀ i,i<m->Ln i=3):∃ b o c,sl = .slice (some ⟨b,o,none⟩) m c/\Tri w b o m R ca be ob:=by
  obtain ⟨b,o,c,h1,h2⟩:=h.cell h0;refine ⟨b,o,c,h1,fun i hi=>?_,fun i hi j hj=>h.num i hi j (by rw [hl i hi];exact hj)⟩;have:=h2 i hi
  rwa [hl i hi,h.adr i hi (by rw [hl i hi];omega)] at this
def Rp (w w':World) (f:Nat->Int) (v:Value):Prop:=∃ b c cs,v = .slice (some ⟨b,0,none⟩) 3 c/\w.heap.size<=b/\Blk w' b cs/\SlAt 1 v (some (b,cs)) 3 b c cs (fun k=>.int .i64 (f k))
theorem Blk.same {w:World}{b:Nat}{cs ds:Array Value}(h:Blk w b cs)(h2:Blk w b ds):cs=ds:=by
  obtain ⟨t1,h1⟩:=h;obtain ⟨t2,h3⟩:=h2;rw [h1] at h3;simp only [Option.some.injEq,Obj.cells.injEq] at h3;exact h3.1
theorem RowsOut.last {w w1 w2:World}{N k:Nat}{f:Nat->Nat->Value}{u:Value}(h:RowsOut w w1 N k f u)(hx:Ext w1 w2):RowsOut w w2 N k f u:=by
  obtain ⟨D,β,κ,C,b,cap,cs,h1,h2⟩:=h;exact ⟨D,β,κ,C,b,cap,cs,fun x ds hm=>⟨(h1 x ds hm).1,(h1 x ds hm).2.ext hx⟩,h2⟩
theorem IL {w0 w w':World}{N k:Nat}{f:Nat->Nat->Value}{u:Value}(hs:w0.heap.size<=w.heap.size)(h:RowsOut w w' N k f u):RowsOut w0 w' N k f u:=by
  obtain ⟨D,β,κ,C,b,cap,cs,h1,h2,h3,h4⟩:=h;exact ⟨D,β,κ,C,b,cap,cs,fun x ds hm=>⟨Nat.le_trans hs (h1 x ds hm).1,(h1 x ds hm).2⟩,h2,h3,h4⟩
def KRel (w0:World) (p N m:Nat) (M:Nat->Nat->Nat) (u:Value) (w':World):Prop:=∃ k E ld,Rref p N E k ld/\(∀ x,Ker p N E k x↔Ker p N M m x)/\(∀ i c,E i c<p)/\k<=m/\RowsOut w0 w' N k (fun i c=>.int .i64 (E i c:Int)) u
theorem KRel.last {w0 w w':World}{p N m:Nat}{M:Nat->Nat->Nat}{u:Value}(h:KRel w0 p N m M u w)(hx:Ext w w'):KRel w0 p N m M u w':=by
  obtain ⟨k,E,ld,h1,h2,h3,h4,h5⟩:=h;exact ⟨k,E,ld,h1,h2,h3,h4,h5.last hx⟩
theorem KRel.of {X:List Nat}{w0 w w':World}{L:Own}{D:A7}{p N m:Nat}{M:Nat->Nat->Nat}{u:Value}(O:MemX X w0 w L D)(h:∃ k E ld,Rref p N E k ld/\(∀ x,Ker p N E k x↔Ker p N M m x)/\(∀ i c,E i c<p)/\k<=m/\RowsOut w w' N k (fun i c=>.int .i64 (E i c:Int)) u):KRel w0 p N m M u w':=by
  obtain ⟨k,E,ld,h1,h2,h3,h4,h5⟩:=h;exact ⟨k,E,ld,h1,h2,h3,h4,IL O.bel.size h5⟩
def EmpN (w0:World) (u:Value) (w':World):Prop:=∃ b,u = .slice (some ⟨b,0,none⟩) 0 0/\Blk w' b #[]/\w0.heap.size<=b
theorem EmpN.last {w0 w w':World}{u:Value}(h:EmpN w0 u w)(hx:Ext w w'):EmpN w0 u w':=by
  obtain ⟨b,h1,h2,h3⟩:=h;exact ⟨b,h1,h2.ext hx,h3⟩
theorem EmpN.build {P:Program}{o:Oper}{a:Act}{w0 w:World}{L:Own}{D:A7}{k:Nat}(hk:k<L.length)(hg:Does P o a w (fun u w'=>∃ b,u = .slice (some ⟨b,0,none⟩) 0 0/\Ag w0 w' (L.set k (some (b,#[]))) D/\Ext w w')):Does P o a w (fun u w'=>Ext w w'/\EmpN w0 u w'):=
  hg.mono fun u w' ⟨b,h1,O,hx⟩=>by
    have e:(L.set k (some (b,#[])))[k]? = some (some (b,#[])):=by rw [List.getElem?_set,if_pos rfl,if_pos hk]
    exact ⟨hx,b,h1,O.row k e,O.ge k e⟩
theorem MemX.addD0 {X:List Nat}{w0 w:World}{L:Own}{D D1:A7}(h:MemX X w0 w L D)(h1:∀ c ds,(c,ds)∈D1->Blk w c ds/\∀ (j:Nat) e es,L[j]? = some (some (e,es))->e≠c):MemX X w0 w L (D1++D):=
  ⟨h.bel,h.blk,h.apart,fun c ds hm=>by
    rcases List.mem_append.1 hm with hm | hm
    . exact h1 c ds hm
    . exact h.froz c ds hm⟩
theorem MemX.putN {X:List Nat}{w0 w:World}{L:Own}{D:A7}{b:Nat}{cs:Array Value}(k:Nat)(h:MemX X w0 w L D)(hb:Blk w b cs)(hge:w0.heap.size<=b)(hL:∀ (j:Nat) c ds,L[j]? = some (some (c,ds))->c≠b)(hD:∀ c ds,(c,ds)∈D->c≠b):MemX X w0 w (L.set k (some (b,cs))) D:=by
  have key:∀ (j:Nat) c ds,(L.set k (some (b,cs)))[j]? = some (some (c,ds))->(j=k/\c=b/\ds=cs)\/(j≠k/\L[j]? = some (some (c,ds))):=by
    intro j c ds hj;rw [List.getElem?_set] at hj
    split at hj
    . split at hj
      . simp only [Option.some.injEq,Prod.mk.injEq] at hj;rename_i e _;exact .inl ⟨e.symm,hj.1.symm,hj.2.symm⟩
      . cases hj
    . rename_i e;exact .inr ⟨fun e2=>e e2.symm,hj⟩
  refine ⟨h.bel,fun j c ds hj=>?_,fun i j c es ds hi hj=>?_,fun c ds hc=>⟨(h.froz c ds hc).1,fun j e es hj=>?_⟩⟩
  . rcases key j c ds hj with ⟨_,rfl,rfl⟩ | ⟨_,hj⟩
    . exact ⟨.inl hge,hb⟩
    . exact h.blk j c ds hj
  . rcases key i c es hi with ⟨e1,e2,_⟩ | ⟨n1,hi⟩<;>rcases key j c ds hj with ⟨e3,e4,_⟩ | ⟨n2,hj⟩
    . omega
    . exact absurd e2 (hL j c ds hj)
    . exact absurd e4 (hL i c es hi)
    . exact h.apart i j c es ds hi hj
  . rcases key j e es hj with ⟨_,rfl,_⟩ | ⟨_,hj⟩
    . exact fun q=>hD c ds hc q.symm
    . exact (h.froz c ds hc).2 j e es hj
theorem N0 {w0 w:World}{L:Own}{D0:A7}{p n k:Nat}{E:Nat->Nat->Nat}{ld:Nat->Nat}{u ue:Value}(q:Nat)(h:Ag w0 w L D0)(hL:∀ (j:Nat) c ds,L[j]? = some (some (c,ds))->ds=Ce n (fun _=>0))(hn0:0<n)(hE:Rref p n E k ld)
    (hr:RowsOut w0 w n k (fun i c=>.int .i64 (E i c:Int)) u) (he:EmpN w0 ue w) (hD0:∀ b cs,(b,cs)∈D0->Blk w0 b cs) :
    ∃ (D:A7) (β κ:Nat->Nat) (C:Nat->Array Value) (ob oc:Nat) (ocs:Array Value) (be:Nat),RowsD (D++D0) n k β κ C (fun i c=>.int .i64 (E i c:Int))/\SlAt 1 u (some (ob,ocs)) k ob oc ocs (fun i=>.slice (some ⟨β i,0,none⟩) n (κ i))/\(0<k->(ob,ocs)∈D++D0)/\
      ue = .slice (some ⟨be,0,none⟩) 0 0/\Ag w0 w (L.set q (some (be,#[]))) (D++D0):=by
  obtain ⟨D',β,κ,C,ob,oc,ocs,h1,h2,h3,h4⟩:=hr;obtain ⟨be,rfl,hbe,hge⟩:=he;have hz:(Ce n (fun _=>0)).size=n:=BM _ _;have hrow:∀ i,i<k->0<(C i).size:=fun i hi=>by have:=(h2.sl i hi).sz;have:=(h2.sl i hi).le;omega
  have hlist:0<k->0<ocs.size:=fun hk=>by have:=h3.sz;have:=h3.le;omega
  have hrn:∀ i,i<k->C i≠Ce n (fun _=>0):=fun i hi e=>by
    have g:=(h2.sl i hi).get (ld i) (by have:=hE.lt i hi;omega);rw [e,Eo rfl (hE.lt i hi),hE.one i hi] at g
    simp at g
  have hln:0<k->ocs≠Ce n (fun _=>0):=fun hk e=>by
    have g:=h3.get 0 (by omega);rw [e,Eo rfl hn0] at g
    simp at g
  let D:A7:=(if 0<k then [(ob,ocs)] else [])++(List.range k).map (fun i=>(β i,C i))
  have mem:∀ c ds,(c,ds)∈D->(0<k/\c=ob/\ds=ocs)\/∃ i,i<k/\c=β i/\ds=C i:=by
    intro c ds hm
    rcases List.mem_append.1 hm with hm | hm
    . split at hm
      . simp only [List.mem_singleton,Prod.mk.injEq] at hm;exact .inl ⟨by assumption,hm.1,hm.2⟩
      . cases hm
    . obtain ⟨i,hi,e⟩:=List.mem_map.1 hm
      simp only [Prod.mk.injEq] at e;exact .inr ⟨i,List.mem_range.1 hi,e.1.symm,e.2.symm⟩
  have hO:∀ c ds,(c,ds)∈D->Blk w c ds/\0<ds.size/\ds≠Ce n (fun _=>0):=by
    intro c ds hm
    rcases mem c ds hm with ⟨hk,rfl,rfl⟩ | ⟨i,hi,rfl,rfl⟩
    . exact ⟨(h1 _ _ h4).2,hlist hk,hln hk⟩
    . exact ⟨(h1 _ _ (h2.mem i hi)).2,hrow i hi,hrn i hi⟩
  have hM2:Ag w0 w L (D++D0):=h.addD0 fun c ds hm=>⟨(hO c ds hm).1,fun j e es hj q=>by
    subst q;have:=(hL j e es hj).symm.trans (((h.blk j e es hj).2).same (hO e ds hm).1);exact (hO e ds hm).2.2 this.symm⟩
  have hrow2:∀ i,i<k->(β i,C i)∈D++D0:=fun i hi=>List.mem_append_left _ (List.mem_append_right _ (List.mem_map.2 ⟨i,List.mem_range.2 hi,rfl⟩));refine ⟨D,β,κ,C,ob,oc,ocs,be,⟨hrow2,h2.sl⟩,h3,fun hk=>List.mem_append_left _ (List.mem_append_left _ (by rw [if_pos hk];exact List.mem_singleton.2 rfl)),rfl,hM2.putN q hbe hge (fun j c ds hj e=>?_) (fun c ds hc e=>?_)⟩
  . subst e
    have e1:=((h.blk j c ds hj).2).same hbe;rw [hL j c ds hj] at e1;rw [e1] at hz
    simp at hz;omega
  . subst e
    rcases List.mem_append.1 hc with hc | hc
    . have e1:=(hO c ds hc).1.same hbe
      have:=(hO c ds hc).2.1;rw [e1] at this;simp at this
    . have:=(hD0 c ds hc).lt;omega
def TwoR (c1 c2:Array Value) (e0:Option (Nat×Array Value)) (D:A7) (e:Option (Nat×Array Value)) (u:Value):Prop:=e=e0/\∃ b b1 b2,u = .slice (some ⟨b,0,none⟩) 2 2/\(b,#[.slice (some ⟨b1,0,none⟩) 3 3,.slice (some ⟨b2,0,none⟩) 3 3])∈D/\(b1,c1)∈D/\(b2,c2)∈D
theorem TwoR.more {c1 c2:Array Value}{e0:Option (Nat×Array Value)}(D1 D2:A7)(e:Option (Nat×Array Value))(u:Value)(hs:∀ x,x∈D1->x∈D2)(h:TwoR c1 c2 e0 D1 e u):TwoR c1 c2 e0 D2 e u:=by
  obtain ⟨h0,b,b1,b2,h1,h2,h3,h4⟩:=h;exact ⟨h0,b,b1,b2,h1,hs _ h2,hs _ h3,hs _ h4⟩
theorem SSOutR.last {w w1 w2:World}{m:Nat}{Ln:Nat->Nat}{F:Nat->Nat->Int}{u:Value}(h:SSOutR w w1 m Ln F u)(hx:Ext w1 w2):SSOutR w w2 m Ln F u:=by
  obtain ⟨D,b,cap,cs,β,κ,C,h1,h2⟩:=h;exact ⟨D,b,cap,cs,β,κ,C,fun x ds hm=>⟨(h1 x ds hm).1,(h1 x ds hm).2.ext hx⟩,h2⟩
def Ks (k:Int):Value:=.int .i64 k
def JX (k:Int) (es:List MapEntry) (i:Nat):Option (Option (Nat×Value)):=Instr.findNow (.int .i64) (Ks k) es i
def IKeys (es:List MapEntry):Prop:=∀ e,e∈es->∃ k,e.key=Ks k
theorem FP {k q:Int}{v:Value}{c:Nat}:∀ {es:List MapEntry} {i:Nat},IKeys es->JX k (es++[{ key:=Ks q,val:=v,born:=c }]) i=match JX k es i with
    | some (some r)=>some (some r)
    | _=>if k=q then some (some (i+es.length,v)) else some none
  | [], i, _ => by
    unfold JX Instr.findNow
    simp only [List.nil_append,Instr.findNow,Ks,Instr.sameNow,if_pos rfl]
    by_cases e:k=q
    . subst e;simp
    . have:(k == q)=false:=by simpa using e
      simp [this,e]
  | e :: es, i, h => by
    obtain ⟨p,hp⟩:=h e (List.mem_cons_self ..)
    have ih:=FP (k:=k) (q:=q) (v:=v) (c:=c) (es:=es) (i:=i+1) (fun e he=>h e (List.mem_cons_of_mem _ he))
    unfold JX at *
    simp only [List.cons_append,Instr.findNow,hp,Ks,Instr.sameNow,↓reduceIte]
    by_cases e2:k=p
    . subst e2;simp
    . have:(k == p)=false:=by simpa using e2
      simp only [this]
      simp only [Ks] at ih
      rw [ih]
      simp only [List.length_cons,Nat.add_assoc,Nat.add_comm 1]
theorem IKeys.push {es:List MapEntry}{q:Int}{v:Value}{c:Nat}(h:IKeys es):IKeys (es++[{ key:=Ks q,val:=v,born:=c }]):=fun e he=>by
  rcases List.mem_append.1 he with he | he
  . exact h e he
  . simp only [List.mem_singleton] at he;subst he;exact ⟨q,rfl⟩
section
variable {P : Program} {n : Nat} {F : List (Nat × Value)} {a : Act} {w w0 : World} {d : Option Tmp} {t T kt et : TypeId} {pos : String} {af : Array Edge} {gd : Option (Nat × Bool)} {x y z : Operand} {X : List Nat} {L : Own} {D : A7}
end
theorem IsMap.keep {w w':World}{Y:List Nat}{b:Nat}{es:Array MapEntry}{c:Nat}(h:IsMap w b es c)(hx:ExtX Y w w')(hy:b ∉ Y):IsMap w' b es c:=by
  have hlt:b<w.heap.size:=(Array.getElem?_eq_some_iff.1 h).1
  unfold IsMap
  rw [hx.block b hlt hy];exact h
def RQ (k:Int) (tr nx tw fr to:Value) (ch:Int):Array Value:=#[.int .i64 k,tr,nx,tw,fr,to,.int .i64 ch]
def Qn (i:Nat) (f:Nat->Value):Array Value:=A1 4 (fun c=>if c=0 then .int .i64 (i:Int) else f (c - 1))
theorem NQ (i:Nat)(f:Nat->Value):(Qn i f).size=4:=BM _ _
theorem JH {i:Nat}{f g:Nat->Value}(h:∀ j,j<3->f j=g j):Qn i f=Qn i g:=BS fun c hc=>by
  by_cases e:c=0
  . rw [if_pos e,if_pos e]
  . rw [if_neg e,if_neg e,h _ (by omega)]
def Qz (l:List Value):Facts Unit:=fun i _ u _=>u=l.getD i undef
theorem IsMap.drew {w:World}{b:Nat}{es:Array MapEntry}{c:Nat}(h:IsMap w b es c):IsMap w.drew b es c:=h
structure TwP (N:Nat) (K:Nat->Int) (tw:Nat->Nat):Prop where
  lt:∀ x,x<N->tw x<N
  ne:∀ x,x<N->tw x≠x
  abs:∀ x,x<N->(K (tw x)).natAbs=(K x).natAbs
  only:∀ x y,x<N->y<N->(K y).natAbs=(K x).natAbs->y=x\/y=tw x
theorem TwP.inv {N:Nat}{K:Nat->Int}{tw:Nat->Nat}(h:TwP N K tw){x:Nat}(hx:x<N):tw (tw x)=x:=by
  rcases h.only (tw x) x (h.lt x hx) hx (h.abs x hx).symm with e | e
  . exact absurd e.symm (h.ne x hx)
  . exact e.symm
def Qv (c:Prop) [Decidable c] (b:Nat):Value:=if c then ptr b 0 else .pointer none
def P0 (x:Nat):Nat:=x / 3*3+(x%3+1)%3
def QN (K:Nat->Int) (tw φ ψ:Nat->Nat) (x:Nat):Nat:=if tw x<x then (if K x=K (tw x) then φ (tw x) else ψ (tw x)) else φ x
def QL (K:Nat->Int) (tw φ ψ:Nat->Nat) (x:Nat):Nat:=if tw x<x then (if K x=K (tw x) then ψ (tw x) else φ (tw x)) else ψ x
def SC (K:Nat->Int) (tw τ σ φ ψ:Nat->Nat) (q u x:Nat):Array Value:=RQ (K x) (ptr (τ (x / 3)) 0) (Qv (x<u) (σ (P0 x))) (Qv (tw x<q) (σ (tw x))) (ptr (QN K tw φ ψ x) 0) (ptr (QL K tw φ ψ x) 0) 0
def QP (σ:Nat->Nat) (i:Nat):Array Value:=Qn i (fun j=>ptr (σ (i*3+j)) 0)
structure Gr (D:A7) (lo N:Nat) (K:Nat->Int) (tw:Nat->Nat) (q u t:Nat) (τ σ φ ψ:Nat->Nat):Prop where
  sid:∀ x,x<q->(σ x,SC K tw τ σ φ ψ q u x)∈D
  inj:∀ x y,x<q->y<q->σ x=σ y->x=y
  tri:∀ i,i<t->(τ i,QP σ i)∈D
  tip:∀ x,x<q->x<tw x->(φ x,#[.pointer none])∈D/\(ψ x,#[.pointer none])∈D
  tin:∀ x y,x<q->y<q->x<tw x->y<tw y->(φ x=φ y->x=y)/\(ψ x=ψ y->x=y)/\φ x≠ψ y
  ge:∀ b cs,(b,cs)∈D->lo<=b
theorem K8 {K:Nat->Int}{tw τ σ φ ψ τ' σ' φ' ψ':Nat->Nat}{q u q' u' x:Nat}(h1:τ' (x / 3)=τ (x / 3))(h2:x<u'↔x<u)(h3:x<u->σ' (P0 x)=σ (P0 x))(h4:tw x<q'↔tw x<q)(h5:tw x<q->σ' (tw x)=σ (tw x))(h6:QN K tw φ' ψ' x=QN K tw φ ψ x)(h7:QL K tw φ' ψ' x=QL K tw φ ψ x):SC K tw τ' σ' φ' ψ' q' u' x=SC K tw τ σ φ ψ q u x:=by
  unfold SC Qv
  rw [h1,h6,h7];have e1:(if x<u' then ptr (σ' (P0 x)) 0 else Value.pointer none)=(if x<u then ptr (σ (P0 x)) 0 else Value.pointer none):=by
    by_cases e:x<u
    . rw [if_pos e,if_pos (h2.2 e),h3 e]
    . rw [if_neg e,if_neg (fun q=>e (h2.1 q))]
  have e2:(if tw x<q' then ptr (σ' (tw x)) 0 else Value.pointer none)=(if tw x<q then ptr (σ (tw x)) 0 else Value.pointer none):=by
    by_cases e:tw x<q
    . rw [if_pos e,if_pos (h4.2 e),h5 e]
    . rw [if_neg e,if_neg (fun q=>e (h4.1 q))]
  rw [e1,e2]
theorem OI {K:Nat->Int}{tw φ ψ:Nat->Nat}{q b1 b2 x:Nat}(hx:x<q):QN K tw (up φ q b1) (up ψ q b2) x=QN K tw φ ψ x/\QL K tw (up φ q b1) (up ψ q b2) x=QL K tw φ ψ x:=by
  unfold QN QL
  by_cases e:tw x<x
  . simp only [if_pos e,Bi (show tw x≠q by omega)];exact ⟨trivial,trivial⟩
  . simp only [if_neg e,Bi (show x≠q by omega)];exact ⟨trivial,trivial⟩
theorem Od {σ:Nat->Nat}{i:Nat}:(QP σ i).size=4:=NQ _ _
section
variable {D D' : A7} {lo N : Nat} {K : Nat -> Int} {tw : Nat -> Nat} {q u t : Nat} {τ σ φ ψ : Nat -> Nat}
theorem Nr {x u:Nat}(h:x<u)(hu:u<=q)(h3:u%3=0\/q%3=0):P0 x<q:=by unfold P0;omega
theorem Gr.first (h:Gr D lo N K tw q u t τ σ φ ψ)(hT:TwP N K tw)(hq:q<N)(hf:q<tw q)(hu:u<=q)(hu3:u%3=0)(ht:t*3<=q){bx b1 b2:Nat}(hD:∀ x,x∈D->x∈D')
    (hx:(bx,SC K tw τ (up σ q bx) (up φ q b1) (up ψ q b2) (q+1) u q)∈D') (h1:(b1,#[.pointer none])∈D') (h2:(b2,#[.pointer none])∈D') (hbx:∀ y ds,(y,ds)∈D->y≠bx) (hn1:∀ y ds,(y,ds)∈D->y≠b1) (hn2:∀ y ds,(y,ds)∈D->y≠b2) (h12:b1≠b2) (hge:∀ b cs,(b,cs)∈D'->lo<=b) :
    Gr D' lo N K tw (q+1) u t τ (up σ q bx) (up φ q b1) (up ψ q b2):=by
  refine ⟨fun x hH=>?_,fun x y hH hy e=>?_,fun i hi=>?_,fun x hH hJ=>?_,fun x y hH hy hJ hZ=>?_,hge⟩
  . by_cases e:x=q
    . subst e;rw [CF];exact hx
    . rw [Bi e]
      rw [K8 (x:=x) (τ:=τ) (σ:=σ) (φ:=φ) (ψ:=ψ) (q:=q) (u:=u) rfl Iff.rfl (fun hl=>Bi (by have:=Nr (q:=u) hl (Nat.le_refl _) (.inl hu3);omega)) (by
        constructor
        . intro h3
          rcases Nat.lt_or_ge (tw x) q with h4 | h4
          . exact h4
          . have:tw x=q:=by omega
            have:=hT.inv (x:=x) (by omega)
            rename_i e5;rw [e5] at this;omega
        . intro h3;omega) (fun hl=>Bi (by omega)) (OI (by omega)).1 (OI (by omega)).2]
      exact hD _ (h.sid x (by omega))
  . by_cases e1:x=q
    . by_cases e2:y=q
      . omega
      . subst e1;rw [CF,Bi e2] at e;exact absurd e.symm (hbx _ _ (h.sid y (by omega)))
    . by_cases e2:y=q
      . subst e2;rw [CF,Bi e1] at e;exact absurd e (hbx _ _ (h.sid x (by omega)))
      . rw [Bi e1,Bi e2] at e;exact h.inj x y (by omega) (by omega) e
  . have:=h.tri i hi
    unfold QP at *
    rw [JH (g:=fun j=>ptr (σ (i*3+j)) 0) (fun j hj=>by rw [Bi (by omega)])];exact hD _ this
  . by_cases e:x=q
    . subst e;rw [CF,CF];exact ⟨h1,h2⟩
    . rw [Bi e,Bi e];exact ⟨hD _ (h.tip x (by omega) hJ).1,hD _ (h.tip x (by omega) hJ).2⟩
  . by_cases e1:x=q
    . by_cases e2:y=q
      . subst e1;subst e2;simp only [CF];exact ⟨fun _=>trivial,fun _=>trivial,h12⟩
      . subst e1;simp only [CF,Bi e2]
        have hy2:=h.tip y (by omega) hZ;exact ⟨fun e=>absurd e.symm (hn1 _ _ hy2.1),fun e=>absurd e.symm (hn2 _ _ hy2.2),fun e=>hn1 _ _ hy2.2 e.symm⟩
    . by_cases e2:y=q
      . subst e2;simp only [CF,Bi e1]
        have hx3:=h.tip x (by omega) hJ;exact ⟨fun e=>absurd e (hn1 _ _ hx3.1),fun e=>absurd e (hn2 _ _ hx3.2),fun e=>hn2 _ _ hx3.1 e⟩
      . simp only [Bi e1,Bi e2];exact h.tin x y (by omega) (by omega) hJ hZ
theorem Gr.second (h:Gr D lo N K tw q u t τ σ φ ψ)(hT:TwP N K tw)(hq:q<N)(hf:tw q<q)(hu:u<=q)(hu3:u%3=0)(ht:t*3<=q){bx:Nat}(hsame:∀ b cs ds,(b,cs)∈D->(b,ds)∈D->cs=ds)(hbx:∀ y ds,(y,ds)∈D->y≠bx)(hlo:lo<=bx) :
    Gr ((bx,SC K tw τ (up σ q bx) φ ψ (q+1) u q)::Cr D (σ (tw q)) (SC K tw τ (up σ q bx) φ ψ (q+1) u (tw q))) lo N K tw (q+1) u t τ (up σ q bx) φ ψ:=by
  have hy:=h.sid (tw q) hf;have keep:∀ b cs,(b,cs)∈D->b≠σ (tw q)->(b,cs)∈((bx,SC K tw τ (up σ q bx) φ ψ (q+1) u q)::Cr D (σ (tw q)) (SC K tw τ (up σ q bx) φ ψ (q+1) u (tw q))):=fun b cs hb hn=>List.mem_cons_of_mem _ (mem_updD.2 (.inr ⟨hn,hb⟩));have hsz:∀ b cs,(b,cs)∈D->cs.size≠7->b≠σ (tw q):=fun b cs hb hz e=>by
    subst e;exact hz (by rw [hsame _ _ _ hb hy];rfl)
  refine ⟨fun x hH=>?_,fun x y hH hy2 e=>?_,fun i hi=>?_,fun x hH hJ=>?_,fun x y hH hy2 hJ hZ=>?_,fun b cs hb=>?_⟩
  . by_cases e:x=q
    . subst e;rw [CF];exact List.mem_cons_self ..
    . by_cases e1:x=tw q
      . rw [e1,Bi (by omega)];exact List.mem_cons_of_mem _ (mem_updD.2 (.inl ⟨rfl,rfl,_,hy⟩))
      . rw [Bi e]
        rw [K8 (x:=x) (τ:=τ) (σ:=σ) (φ:=φ) (ψ:=ψ) (q:=q) (u:=u) rfl Iff.rfl (fun hl=>Bi (by have:=Nr (q:=u) hl (Nat.le_refl _) (.inl hu3);omega)) (by
          constructor
          . intro h3
            rcases Nat.lt_or_ge (tw x) q with h4 | h4
            . exact h4
            . have e4:tw x=q:=by omega
              have:=hT.inv (x:=x) (by omega);rw [e4] at this;omega
          . intro h3;omega) (fun hl=>Bi (by omega)) rfl rfl]
        exact keep _ _ (h.sid x (by omega)) (fun e3=>e1 (h.inj x (tw q) (by omega) hf e3))
  . by_cases e1:x=q
    . by_cases e2:y=q
      . omega
      . subst e1;rw [CF,Bi e2] at e;exact absurd e.symm (hbx _ _ (h.sid y (by omega)))
    . by_cases e2:y=q
      . subst e2;rw [CF,Bi e1] at e;exact absurd e (hbx _ _ (h.sid x (by omega)))
      . rw [Bi e1,Bi e2] at e;exact h.inj x y (by omega) (by omega) e
  . have:=h.tri i hi
    have e3:QP (up σ q bx) i=QP σ i:=JH (fun j hj=>by rw [Bi (by omega)]);rw [e3];exact keep _ _ this (hsz _ _ this (by rw [Od];omega))
  . have hx3:x<q:=by
      rcases Nat.lt_or_ge x q with h4 | h4
      . exact h4
      . have:x=q:=by omega
        subst this;omega
    have:=h.tip x hx3 hJ;exact ⟨keep _ _ this.1 (hsz _ _ this.1 (by decide)),keep _ _ this.2 (hsz _ _ this.2 (by decide))⟩
  . have hz:∀ z,z<q+1->z<tw z->z<q:=fun z h4 h5=>by
      rcases Nat.lt_or_ge z q with h6 | h6
      . exact h6
      . have:z=q:=by omega
        subst this;omega
    exact h.tin x y (hz x hH hJ) (hz y hy2 hZ) hJ hZ
  . rcases List.mem_cons.1 hb with e | hb
    . simp only [Prod.mk.injEq] at e;rw [e.1];exact hlo
    . rcases mem_updD.1 hb with ⟨rfl,_,es,he⟩ | ⟨_,he⟩
      . exact h.ge _ _ he
      . exact h.ge _ _ he
theorem Gr.ready (h:Gr D lo N K tw q u t τ σ φ ψ){b:Nat}(hb:τ t=b)(hlo:lo<=b):Gr ((b,QP σ t)::D) lo N K tw q u (t+1) τ σ φ ψ:=by
  refine ⟨fun x hH=>List.mem_cons_of_mem _ (h.sid x hH),h.inj,fun i hi=>?_,fun x hH hJ=>⟨List.mem_cons_of_mem _ (h.tip x hH hJ).1,List.mem_cons_of_mem _ (h.tip x hH hJ).2⟩,h.tin,fun c cs hc=>?_⟩
  . by_cases e:i=t
    . rw [e,hb];exact List.mem_cons_self ..
    . exact List.mem_cons_of_mem _ (h.tri i (by omega))
  . rcases List.mem_cons.1 hc with e | hc
    . simp only [Prod.mk.injEq] at e;rw [e.1];exact hlo
    . exact h.ge _ _ hc
theorem Gr.none:Gr [] lo N K tw 0 0 0 τ σ φ ψ:=⟨fun x hx=>absurd hx (by omega),fun x y hx=>absurd hx (by omega),fun i hi=>absurd hi (by omega),fun x hx=>absurd hx (by omega),fun x y hx=>absurd hx (by omega),fun b cs h=>by cases h⟩
end
structure MpOk (es:List MapEntry) (K:Nat->Int) (tw σ:Nat->Nat) (q:Nat):Prop where
  keys:IKeys es
  no:∀ k:Nat,(∀ y,y<q->(K y).natAbs≠k)->JX (k:Int) es 0=some none
  yes:∀ y,y<q->y<tw y->∃ ix,JX (((K y).natAbs:Nat):Int) es 0=some (some (ix,ptr (σ y) 0))
theorem MpOk.none {K:Nat->Int}{tw σ:Nat->Nat}:MpOk [] K tw σ 0:=⟨fun e he=>(by cases he),fun k _=>rfl,fun y hy=>absurd hy (by omega)⟩
theorem MpOk.first {es:List MapEntry}{N:Nat}{K:Nat->Int}{tw σ:Nat->Nat}{q c bx:Nat}(h:MpOk es K tw σ q)(hT:TwP N K tw)(hq:q<N)(hf:q<tw q):MpOk (es++[{ key:=Ks (((K q).natAbs:Nat):Int),val:=ptr bx 0,born:=c }]) K tw (up σ q bx) (q+1):=by
  have hno:∀ y,y<q->(K y).natAbs≠(K q).natAbs:=fun y hy e=>by
    rcases hT.only q y hq (by omega) e with e | e<;>omega
  refine ⟨h.keys.push,fun k hk=>?_,fun y hy hZ=>?_⟩
  . rw [FP h.keys,h.no k (fun y hy=>hk y (by omega))]
    exact if_neg (fun e=>hk q (by omega) (by omega))
  . by_cases e:y=q
    . subst e
      rw [FP h.keys,h.no _ (fun z hz=>hno z hz),CF];exact ⟨_,if_pos rfl⟩
    . obtain ⟨ix,hix⟩:=h.yes y (by omega) hZ
      rw [FP h.keys,hix,Bi e];exact ⟨ix,rfl⟩
theorem MpOk.second {es:List MapEntry}{K:Nat->Int}{tw σ:Nat->Nat}{N q bx:Nat}(h:MpOk es K tw σ q)(hT:TwP N K tw)(hq:q<N)(hf:tw q<q):MpOk es K tw (up σ q bx) (q+1):=by
  refine ⟨h.keys,fun k hk=>h.no k (fun y hy=>hk y (by omega)),fun y hy hZ=>?_⟩;have hyq:y≠q:=fun e=>by subst e;omega
  rw [Bi hyq];exact h.yes y (by omega) hZ
variable {P : Program}
section
variable {ops : Array Oper} {Q : Exit -> Act -> World -> Prop} {rest : List Oper} {n : Nat} {F : List (Nat × Value)} {a : Act} {X : List Nat} {w w0 : World} {L : Own} {D : A7}
variable {d : Option Tmp} {t : TypeId} {pos : String} {af : Array Edge} {gd : Option (Nat × Bool)} {T : TypeId} {x y : Operand}
end
section
variable {K : Nat -> Int} {tw τ σ φ ψ : Nat -> Nat} {q u bx b1 b2 bT : Nat} {k : Int}
end
end Go.Sw
namespace Go.Sw
open Go Go.RowKit
def RowX (s0:Nat) (D:A7) (n br:Nat):Prop:=s0<=br/\∃ csr,(br,csr)∈D/\∀ j,j<n->∃ x:Int,csr[0+j*1]? = some (.int .i64 x)
def TabX (s0:Nat) (D:A7) (n bt:Nat) (cst:Array Value):Prop:=(bt,cst)∈D/\∀ i,i<n->∃ br cr,cst[0+i*1]? = some (.slice (some ⟨br,0,none⟩) n cr)/\br≠bt/\RowX s0 D n br
theorem RowX.mono {s0 s1:Nat}{D D':A7}{n br:Nat}(h:RowX s1 D n br)(hs:s0<=s1)(hD:∀ x,x∈D->x∈D'):RowX s0 D' n br:=by
  obtain ⟨h1,csr,h2,h3⟩:=h;exact ⟨by omega,csr,hD _ h2,h3⟩
theorem TabX.mono {s0 s1:Nat}{D D':A7}{n bt:Nat}{cst:Array Value}(h:TabX s1 D n bt cst)(hs:s0<=s1)(hD:∀ x,x∈D->x∈D'):TabX s0 D' n bt cst:=
  ⟨hD _ h.1,fun i hi=>by obtain ⟨br,cr,h1,h2,h3⟩:=h.2 i hi;exact ⟨br,cr,h1,h2,h3.mono hs hD⟩⟩
theorem RowX.put {s0:Nat}{D:A7}{n br b0 o:Nat}{cs0:Array Value}{y:Int}(h:RowX s0 D n br)(hm:(b0,cs0)∈D)(hi:∀ j,j<n->∃ x:Int,cs0[0+j*1]? = some (.int .i64 x)):RowX s0 (Cr D b0 (cs0.setIfInBounds o (.int .i64 y))) n br:=by
  obtain ⟨h1,csr,h2,h3⟩:=h
  by_cases e:br=b0
  . subst e
    refine ⟨h1,_,mem_updD.2 (.inl ⟨rfl,rfl,_,hm⟩),fun j hj=>?_⟩;obtain ⟨x,hx⟩:=hi j hj;have hlt:=(Array.getElem?_eq_some_iff.1 hx).1;rw [Array.getElem?_setIfInBounds]
    by_cases q:o=0+j*1
    . rw [if_pos q,if_pos (by omega)];exact ⟨y,rfl⟩
    . rw [if_neg q];exact ⟨x,hx⟩
  . exact ⟨h1,csr,mem_updD.2 (.inr ⟨e,h2⟩),h3⟩
theorem TabX.put {s0:Nat}{D:A7}{n bt b0 o:Nat}{cst cs0:Array Value}{y:Int}(h:TabX s0 D n bt cst)(hne:b0≠bt)(hm:(b0,cs0)∈D)(hi:∀ j,j<n->∃ x:Int,cs0[0+j*1]? = some (.int .i64 x)):TabX s0 (Cr D b0 (cs0.setIfInBounds o (.int .i64 y))) n bt cst:=
  ⟨mem_updD.2 (.inr ⟨fun e=>hne e.symm,h.1⟩),fun i hi2=>by obtain ⟨br,cr,h1,h2,h3⟩:=h.2 i hi2;exact ⟨br,cr,h1,h2,h3.put hm hi⟩⟩
def RL (s0:Nat) (D1:A7) (q:Int) (tb:Value):Prop:=0<q/\q<=6/\∃ bt ct cst,tb = .slice (some ⟨bt,0,none⟩) q.toNat ct/\q.toNat<=ct/\TabX s0 D1 q.toNat bt cst
theorem MemX.plusD {X:List Nat}{w0 w w':World}{L:Own}{D D1:A7}(h:MemX X w0 w L D)(hx:Ext w w')(hD:∀ x ds,(x,ds)∈D1->w.heap.size<=x/\Blk w' x ds):MemX X w0 w' L (D1++D):=by
  have h2:=h.ext hx;refine ⟨h2.bel,h2.blk,h2.apart,fun b cs hb=>?_⟩
  rcases List.mem_append.1 hb with hb | hb
  . refine ⟨(hD b cs hb).2,fun k c ds hk e=>?_⟩
    have h3:=(h.blk k c ds hk).2.lt;have h4:=(hD b cs hb).1
    omega
  . exact h2.froz b cs hb
variable {P : Program} {n : Nat} {F : List (Nat × Value)} {a : Act} {w : World} {d : Option Tmp} {t : TypeId} {pos : String} {af : Array Edge} {gd : Option (Nat × Bool)} {x y : Operand}
end Go.Sw
namespace Go.Ech
open Go.Sw
theorem RH {p N m:Nat}{M:Nat->Nat->Nat}(hp:primeN p)(O:∀ i c,M i c<p)(hm:m<N):∃ x:Nat->Int,(∃ c,c<N/\¬ (p:Int)∣x c)/\Ker p N M m x:=by
  obtain ⟨k,E,ld,h,hk,hK⟩:=Dx (N:=N) (m:=m) hp O;have hp2:=hp.two
  by_cases hall:∀ c,c<N->CI k ld c
  . have:=Jz (k':=N) (ld':=fun i=>i) h.mono (fun i j hij _=>hij) (fun c=>⟨fun ⟨i,hi,e⟩=>⟨c,by rw [← e];exact h.lt i hi,rfl⟩,fun ⟨i,hi,e⟩=>hall c (by dsimp only at e;omega)⟩)
    omega
  . have hx:∃ c,c<N/\¬ CI k ld c:=by
      apply Classical.byContradiction
      intro hno;exact hall fun c hc=>Classical.byContradiction fun hn=>hno ⟨c,hc,hn⟩
    obtain ⟨c,hc,hn⟩:=hx;refine ⟨free E k ld c,⟨c,hc,?_⟩,(hK _).1 (h.free_ker hc hn)⟩;have e:free E k ld c c=1:=by unfold free;simp
    rw [e];intro hd;have:=Int.le_of_dvd (by omega) hd
    omega
def RW (u:Nat->Nat) (W:Nat->Nat->Nat):Nat->Nat->Nat
  | 0=>u
  | k+1=>W k
end Go.Ech
namespace Go.Ech
open Go.Sw
def EqP (p n:Nat) (x y:Nat->Int):Prop:=∀ c,c<n->(p:Int)∣x c - y c
section
variable {p n : Nat} {T : Nat -> Nat -> Nat -> Nat} {x y z x' y' : Nat -> Int}
theorem EqP.refl (x:Nat->Int):EqP p n x x:=fun c _=>by rw [Int.sub_self];exact ⟨0,by simp⟩
theorem EqP.symm (h:EqP p n x y):EqP p n y x:=fun c hc=>by
  have:=Int.dvd_neg.2 (h c hc)
  rwa [Int.neg_sub] at this
theorem EqP.trans (h:EqP p n x y)(k:EqP p n y z):EqP p n x z:=fun c hc=>by
  have:=Int.dvd_add (h c hc) (k c hc)
  rwa [show x c - y c+(y c - z c)=x c - z c by omega] at this
theorem EqP.mul (h:EqP p n x x')(k:EqP p n y y'):EqP p n (Pr n T x y) (Pr n T x' y'):=fun c _=>Is h k c
theorem EqP.add (h:EqP p n x x')(k:EqP p n y y'):EqP p n (fun c=>x c+y c) (fun c=>x' c+y' c):=fun c hc=>by
  have:=Int.dvd_add (h c hc) (k c hc)
  rwa [show x c - x' c+(y c - y' c)=x c+y c - (x' c+y' c) by omega] at this
def PS (n:Nat) (T:Nat->Nat->Nat->Nat):Prop:=∀ i,i<n->∀ j,j<n->∀ k,k<n->T i j k=T j i k
end
def eP (n:Nat) (T:Nat->Nat->Nat->Nat) (e v:Nat->Int):Nat->Nat->Int
  | 0=>e
  | k+1=>Pr n T (eP n T e v k) v
def Rg (n:Nat) (T:Nat->Nat->Nat->Nat) (e v:Nat->Int):List Int->Nat->Nat->Int
  | [],_,_=>0
  | a::r,j,c=>a*eP n T e v j c+Rg n T e v r (j+1) c
def NM:List Int->List Int->List Int
  | [],r=>r
  | q,[]=>q
  | a::q,b::r=>(a+b)::NM q r
def QY (q:List Int):List Int->List Int
  | []=>[]
  | b::r=>NM (q.map (b * ·)) (0::QY q r)
def RI (p:Int) (q r:List Int):Bool:=(NM q (r.map (-1 * ·))).all fun a=>decide (a%p=0)
section
variable {p n : Nat} {T : Nat -> Nat -> Nat -> Nat} {e v : Nat -> Int}
variable (ha : Gh p n T) (hk : PS n T) (he : EqP p n (Pr n T e e) e)
include ha hk in
end
end Go.Ech
namespace Go.Ech
open Go.Sw
def RT (n:Nat) (F:Nat->Nat->Nat) (b:Nat->Nat) (i c:Nat):Nat:=if c<n then F i c else b i
end Go.Ech
