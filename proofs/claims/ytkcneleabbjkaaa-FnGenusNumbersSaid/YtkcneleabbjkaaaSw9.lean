import Derived.Test.YtkcneleabbjkaaaEch5
import Derived.Laws.CopyRow
import Derived.ProofKit
import Derived.OpenShut
set_option linter.unusedVariables false
set_option linter.unusedSimpArgs false
namespace Go.Sw
open Go Go.RowKit
variable {P : Program}
section
variable {ops : List Oper} {Q : Exit -> Act -> World -> Prop} {n : Nat} {F : List (Nat × Value)}
def Lh {G:Type} (ops:List Oper) (k s:Nat) (φ:Facts G) (o:Oper) (g:G) (a:Act) (w:World):Prop:=
  ∀ j,Nat.blt j k=true->B4 o j=true->φ j g (a.tmps.getD (Br ops j) undef) w
def StepsH {G:Type} (P:Program) (ops:List Oper) (k s n:Nat) (F:List (Nat×Value)) (S:Bool->G->World->Prop) (φ:Facts G):List Oper->Nat->Prop
  | [],_=>True
  | o::r,i=>(if Nat.beq i s=true then ∀ a w g,Fr n a F->S false g w->Lh ops k s φ o g a w->Does P o a w (Ei S φ true i g w)
      else ∀ a w b g,Fr n a F->S b g w->(Gu ops s i=true->b=false)->Lh ops k s φ o g a w->Does P o a w (Ei S φ b i g w))/\StepsH P ops k s n F S φ r (i+1)
theorem StepsH.get {G:Type}{k s:Nat}{S:Bool->G->World->Prop}{φ:Facts G}:∀ {l:List Oper} {i:Nat},StepsH P ops k s n F S φ l i->∀ (j:Nat) (o:Oper),l[j]? = some o->
    (if Nat.beq (i+j) s=true then ∀ a w g,Fr n a F->S false g w->Lh ops k s φ o g a w->Does P o a w (Ei S φ true (i+j) g w)
      else ∀ a w b g,Fr n a F->S b g w->(Gu ops s (i+j)=true->b=false)->Lh ops k s φ o g a w->Does P o a w (Ei S φ b (i+j) g w))
  | [],_,_,j,o,h=>by simp at h
  | x :: r, i, hs, j, o, h => by
    cases j with
    | zero=>simp at h;subst h;exact hs.1
    | succ j=>have:=hs.2.get j o (by simpa using h);rwa [show i+1+j=i+(j+1) by omega] at this
theorem Mp {G:Type}{S:Bool->G->World->Prop}{id:Nat}(k s:Nat){a:Act}{w:World}(hm:P.follows .mixedOrders=true)(hk:Fj ops k=true)(hsk:Nat.blt s k=true)(hsl:Nat.blt s ops.length=true)(O:Fr n a F)(hdst:FB n F (ops.take k) []=true)(hdall:∀ (j:Nat) (o:Oper),(ops.take k)[j]? = some o->o.dst≠none)(g:G)(hS:S false g w)
    (hdr:∀ b g w,S b g w->S b g w.drew) (φ:Facts G)
    (hsteps:StepsH P ops k s n F S φ (ops.take k) 0)
    (hend:∀ a w g,Fr n a F->S true g w->(∀ i,Nat.blt i k=true->Nat.blt i ops.length=true->φ i g (a.tmps.getD (Br ops i) undef) w)->wpList P ops.toArray Q (ops.drop k) a w) :
    (Code.region id ops.toArray true).wp P Q a w:=by
  refine wp_region_any hm ?_;simp only [Fj,Bool.and_eq_true] at hk;obtain ⟨hback,htail⟩:=hk;have hge:∀ (i:Nat),ops.toArray[i]? = ops[i]?:=fun i=>by simp
  have hreach:∀ i j,k<=i->i<ops.length->j<i->Reach ops i j:=fun i j h1 h2 h3=>
    EM ops [] (fun i=>by simp) (fun m j h=>by simp at h) i j (DK htail i h1 h2 (by omega) j h3)
  have edge_listed:∀ {i:Nat} {o:Oper} {listed:Array Bool} {j:Nat},i∈Region.ready .any ops.toArray listed->ops[i]? = some o->B4 o j=true->listed.getD j false=true:=by
    intro i o listed j hi ho he;obtain ⟨_,o',ho',hall⟩:=mem_ready.1 hi;rw [hge,ho] at ho';obtain rfl:=Option.some.inj ho';simp only [B4,List.any_eq_true,Bool.and_eq_true] at he;obtain ⟨e,hm',hb,hj⟩:=he;obtain rfl:=Nat.eq_of_beq_eq_true hj;exact hall e (by simpa using hm') hb
  have reach_listed:∀ {listed:Array Bool},(∀ (j:Nat) o,ops[j]? = some o->listed.getD j false=true->∀ e∈o.after,Region.binds .any e=true->listed.getD e.on false=true)->∀ i j,Reach ops i j->(∀ o m,ops[i]? = some o->B4 o m=true->listed.getD m false=true)->listed.getD j false=true:=by
    intro listed hcl i j hr
    induction hr with
    | one ho he=>intro h;exact h _ _ ho he
    | more ho he _ ih =>
      intro h;have hm':=h _ _ ho he;refine ih (fun o m ho2 he2=>?_);simp only [B4,List.any_eq_true,Bool.and_eq_true] at he2;obtain ⟨e,hin,hb,hj⟩:=he2;obtain rfl:=Nat.eq_of_beq_eq_true hj;exact hcl _ o ho2 hm' e (by simpa using hin) hb
  have tail:∀ (f m:Nat) (listed:Array Bool) (a:Act) (w:World),k<=m->ops.length - m<=f->(∀ j,j<m->j<ops.length->listed.getD j false=true)->(∀ j,m<=j->j<ops.length->listed.getD j true=false)->
      wpList P ops.toArray Q (ops.drop m) a w->wpAny P .any ops.toArray Q f listed a w:=by
    intro f
    induction f with
    | zero =>
      intro m listed a w hkm hf h1 h2 h;rw [List.drop_eq_nil_of_le (by omega)] at h;refine ⟨?_,h⟩
      cases hr:Region.ready .any ops.toArray listed with
      | nil=>rfl
      | cons i r =>
        obtain ⟨g1,o,ho,_⟩:=mem_ready.1 (hr ▸ List.mem_cons_self .. : i∈Region.ready .any ops.toArray listed);rw [hge] at ho;have hi:=(List.getElem?_eq_some_iff.1 ho).1;have:=h1 i (by omega) hi
        simp [Array.getD_eq_getD_getElem?] at this g1
        cases hh:listed[i]?<;>simp [hh] at this g1
        rw [this] at g1;cases g1
    | succ f ih =>
      intro m listed a w hkm hf h1 h2 h;have only:∀ i∈Region.ready .any ops.toArray listed,i=m:=by
        intro i hi;obtain ⟨g1,o,ho,hall⟩:=mem_ready.1 hi;have ho':=ho;rw [hge] at ho';have hO:=(List.getElem?_eq_some_iff.1 ho').1
        by_cases hlt:i<m
        . have:=h1 i hlt hO
          simp [Array.getD_eq_getD_getElem?] at this g1
          cases hh:listed[i]?<;>simp [hh] at this g1
          rw [this] at g1;cases g1
        . by_cases e:i=m
          . exact e
          . have:=reach_listed (listed:=listed) (fun j o hj hl e he hZ=>by
                have hH:=(List.getElem?_eq_some_iff.1 hj).1;have hjm:j<m:=by
                  rcases Nat.lt_or_ge j m with h | h
                  . exact h
                  . have h3:=h2 j h hH
                    simp [Array.getD_eq_getD_getElem?] at hl h3
                    cases hh:listed[j]?<;>simp [hh] at hl h3
                    rw [hl] at h3;cases h3
                have:=Bk hback j o hj e he hZ;exact h1 e.on (by omega) (by omega)) i m (hreach i m (by omega) hO (by omega)) (fun o2 q ho2 he2=>by
                rw [ho'] at ho2;obtain rfl:=Option.some.inj ho2;exact edge_listed hi ho' he2)
            have h3:=h2 m (Nat.le_refl _) (by omega)
            simp [Array.getD_eq_getD_getElem?] at this h3
            cases hh:listed[m]?<;>simp [hh] at this h3
            rw [this] at h3;cases h3
      refine ⟨fun hr=>?_,fun i hi=>?_⟩
      . by_cases hml:m<ops.length
        . exfalso
          have:m∈Region.ready .any ops.toArray listed:=by
            refine mem_ready.2 ⟨h2 m (Nat.le_refl _) hml,ops[m],by simp [hml],fun e he hZ=>?_⟩;have:=Bk hback m ops[m] (by simp [hml]) e he hZ;exact h1 e.on (by omega) (by omega)
          rw [hr] at this;cases this
        . rw [List.drop_eq_nil_of_le (by omega)] at h;exact h
      . obtain rfl:=only i hi
        obtain ⟨g1,o,ho,_⟩:=mem_ready.1 hi;rw [hge] at ho;have hO:=(List.getElem?_eq_some_iff.1 ho).1;have hdrop:ops.drop i=o::ops.drop (i+1):=by
          rw [List.drop_eq_getElem_cons hO];congr 1;exact (List.getElem?_eq_some_iff.1 ho).2
        rw [hdrop] at h;have K:∀ a w,wpList P ops.toArray Q (ops.drop (i+1)) a w->wpAny P .any ops.toArray Q f (listed.setIfInBounds i true) a w:=by
          intro a w hh;refine ih (i+1) _ a w (by omega) (by omega) (fun j hj hH=>?_) (fun j hj hH=>?_) hh
          . by_cases e:i=j
            . subst e
              have hsz:i<listed.size:=by
                rcases Nat.lt_or_ge i listed.size with h' | h'
                . exact h'
                . simp [Array.getElem?_eq_none h'] at g1
              simp [hsz]
            . rw [getD_set_ne false e];exact h1 j (by omega) hH
          . rw [getD_set_ne true (by omega)];exact h2 j (by omega) hH
        unfold wpOp
        rw [hge,ho]
        unfold wpList at h
        show (if Region.wanted o (yielded ops.toArray a.tmps) then _ else _)
        split
        . rename_i hw
          rw [if_pos hw] at h;exact h.imp (Oper.wp_mono K) (fun x=>x)
        . rename_i hw
          rw [if_neg hw] at h;exact K _ _ h
  have hskl:s<ops.length:=Nat.blt_eq.mp hsl;have hsk':s<k:=Nat.blt_eq.mp hsk;have hnodst:∀ (j:Nat) (o:Oper),(ops.take k)[j]? = some o->o.dst≠none:=hdall;have head:∀ (f:Nat) (listed:Array Bool) (a:Act) (w:World) (g:G),listed.size=ops.length->(List.range ops.length).countP (fun i=>!listed.getD i true)<=f->(∀ j,k<=j->j<ops.length->listed.getD j true=false)->(∀ (j:Nat) o,ops[j]? = some o->listed.getD j false=true->∀ e∈o.after,Region.binds .any e=true->listed.getD e.on false=true)->
      Fr n a F->S (listed.getD s false) g w->(∀ i,i<k->i<ops.length->listed.getD i false=true->φ i g (a.tmps.getD (Br ops i) undef) w)->wpAny P .any ops.toArray Q f listed a w:=by
    intro f
    induction f with
    | zero =>
      intro listed a w g hsz hc h2 hcl O hS hφ';have all:∀ j,j<ops.length->listed.getD j true=true:=by
        intro j hj;have h0:(List.range ops.length).countP (fun i=>!listed.getD i true)=0:=by omega
        have:=List.countP_eq_zero.1 h0 j (by simpa using hj)
        simpa using this
      have all':∀ j,j<ops.length->listed.getD j false=true:=by
        intro j hj;have:=all j hj;have hjs:j<listed.size:=by omega
        simpa [Array.getD_eq_getD_getElem?,hjs] using this
      have hlen:ops.length<=k:=by
        rcases Nat.lt_or_ge k ops.length with h | h
        . have e1:=h2 k (Nat.le_refl _) h
          rw [all k h] at e1;cases e1
        . exact h
      refine tail 0 k listed a w (Nat.le_refl _) (by omega) (fun j _ hj=>all' j hj) (fun j hj hH=>by omega)<|hend a w g O (by rw [all' s hskl] at hS;exact hS) (fun i hi hO=>hφ' i (Nat.blt_eq.mp hi) (Nat.blt_eq.mp hO) (all' i (Nat.blt_eq.mp hO)))
    | succ f ih =>
      intro listed a w g hsz hc h2 hcl O hS hφ'
      by_cases all:∀ j,j<k->j<ops.length->listed.getD j false=true
      . refine tail (f+1) k listed a w (Nat.le_refl _) ?_ all h2 (hend a w g O (by rw [all s hsk' hskl] at hS;exact hS) (fun i hi hO=>hφ' i (Nat.blt_eq.mp hi) (Nat.blt_eq.mp hO) (all i (Nat.blt_eq.mp hi) (Nat.blt_eq.mp hO))))
        have hge':∀ (m:Nat),m<=ops.length->m - k<=(List.range m).countP (fun i=>!listed.getD i true):=by
          intro m
          induction m with
          | zero=>intro _;simp
          | succ m ihm =>
            intro hm';have:=ihm (by omega);rw [List.range_succ,List.countP_append]
            by_cases hkm:k<=m
            . have e1:=h2 m hkm (by omega)
              have e2:List.countP (fun i=>!listed.getD i true) [m]=1:=by rw [List.countP_cons,e1];rfl
              omega
            . omega
        have:=hge' ops.length (Nat.le_refl _)
        omega
      . have step:∀ i∈Region.ready .any ops.toArray listed,i<k:=by
          intro i hi
          rcases Nat.lt_or_ge i k with h | h
          . exact h
          . exfalso
            obtain ⟨g1,o,ho,_⟩:=mem_ready.1 hi;rw [hge] at ho;have hO:=(List.getElem?_eq_some_iff.1 ho).1;exact all (fun j hj hH=>reach_listed hcl i j (hreach i j h hO (by omega)) (fun o2 q ho2 he2=>by
              rw [ho] at ho2;obtain rfl:=Option.some.inj ho2;exact edge_listed hi ho he2))
        refine ⟨fun hr=>?_,fun i hi=>?_⟩
        . exfalso
          apply all
          intro j
          induction j using Nat.strongRecOn with
          | _ j ihj =>
            intro hjk hH
            cases hl:listed.getD j false with
            | true=>rfl
            | false =>
              have hjs:j<listed.size:=by omega
              have hm':j∈Region.ready .any ops.toArray listed:=by
                refine mem_ready.2 ⟨?_,ops[j],by simp [hH],fun e he hZ=>?_⟩
                . simpa [Array.getD_eq_getD_getElem?,hjs] using hl
                . have:=Bk hback j ops[j] (by simp [hH]) e he hZ
                  exact ihj e.on (by omega) (by omega) (by omega)
              rw [hr] at hm';cases hm'
        . have hik:=step i hi
          obtain ⟨g1,o,ho,hall'⟩:=mem_ready.1 hi;rw [hge] at ho;have hO:=(List.getElem?_eq_some_iff.1 ho).1;have hti:(ops.take k)[i]? = some o:=by rw [List.getElem?_take,if_pos hik];exact ho
          obtain ⟨hd6,hdd⟩:=CX hdst i o hti;have hnl:listed.getD i false=false:=by
            have:i<listed.size:=by omega
            simp [Array.getD_eq_getD_getElem?,this] at g1 ⊢;exact g1
          have hdep:Lh ops k s φ o g a w:=fun j hj he=>by
            have hj':j<k:=Nat.blt_eq.mp hj;have hl:=edge_listed hi ho he;have hH:j<ops.length:=by
              rcases Nat.lt_or_ge j listed.size with h | h
              . omega
              . simp [Array.getElem?_eq_none h] at hl
            exact hφ' j hj' hH hl
          have rest:∀ (v:Value) (w':World) (g':G),S ((listed.setIfInBounds i true).getD s false) g' w'->φ i g' v w'->(∀ j u,j≠i->φ j g u w->φ j g' u w')->wpAny P .any ops.toArray Q f (listed.setIfInBounds i true) (a.put o.dst v) w':=by
            intro v w' g' hS' hvi hoth;have hF':Fr n (a.put o.dst v) F:=by
              cases hd:o.dst with
              | none=>exact O
              | some d =>
                obtain ⟨hd2,hd3,_⟩:=hdd d hd;have:=O.put d v (Nat.blt_eq.mpr hd2);refine ⟨this.defers,this.size,fun t u ht=>this.get t u ?_⟩;simp only [lk];have hne:¬ d=t:=fun e=>by subst e;rw [hd3] at ht;cases ht
                rw [KR hne];exact ht
            refine ih _ _ _ g' (by simpa using hsz) ?_ (fun j hj hH=>?_) (fun j oj hoj hl e he hb=>?_) hF' hS' (fun j hj hH hl=>?_)
            . have:(List.range ops.length).countP (fun j=>!(listed.setIfInBounds i true).getD j true)<(List.range ops.length).countP (fun j=>!listed.getD j true):=by
                refine Es (fun x hx=>?_) ⟨i,by simpa using hO,by simpa using g1,?_⟩
                . by_cases e:i=x
                  . subst e;simp only [g1];rfl
                  . rw [getD_set_ne true e] at hx;exact hx
                . have:i<listed.size:=by omega
                  simp [this]
              omega
            . rw [getD_set_ne true (by omega)];exact h2 j hj hH
            . refine getD_set_true ?_
              by_cases ej:j=i
              . subst ej
                rw [ho] at hoj;obtain rfl:=Option.some.inj hoj;exact hall' e he hb
              . rw [getD_set_ne false (Ne.symm ej)] at hl
                exact hcl j oj hoj hl e he hb
            . by_cases e:j=i
              . subst e
                have hv:=hvi
                cases hd:o.dst with
                | none=>simp only [Br,ho,Option.bind_some,hd] at hv ⊢;exact absurd hd (by
                    intro _;exact hnodst j o hti hd)
                | some d =>
                  obtain ⟨hd2,_⟩:=hdd d hd;have hdo:Br ops j=d:=by simp [Br,ho,hd]
                  rw [hdo];have:(a.put (some d) v).tmps.getD d undef=v:=by simp [Act.put,O.size,hd2]
                  rw [this];exact hv
              . rw [getD_set_ne false (Ne.symm e)] at hl
                have hold:=hoth j _ e (hφ' j hj hH hl)
                cases hd:o.dst with
                | none=>exact hold
                | some d =>
                  obtain ⟨hd2,hd3,_,hd5⟩:=hdd d hd;have hoj:ops[j]? = some ops[j]:=by simp [hH]
                  have htj:(ops.take k)[j]? = some ops[j]:=by rw [List.getElem?_take,if_pos hj];exact hoj
                  have hdn:Br ops j≠d:=by
                    intro e2
                    cases hdj:(ops[j]).dst with
                    | none=>exact hnodst j _ htj hdj
                    | some d' =>
                      have:Br ops j=d':=by simp only [Br,hoj,Option.bind_some,hdj,Option.getD_some]
                      rw [this] at e2;subst e2
                      rcases Nat.lt_or_gt_of_ne e with h | h
                      . exact hd5 j ops[j] h htj hdj
                      . exact ((CX hdst j ops[j] htj).2 _ hdj).2.2.2 i o h hti hd
                  have:(a.put (some d) v).tmps.getD (Br ops j) undef=a.tmps.getD (Br ops j) undef:=by
                    simp [Act.put,Array.getElem?_setIfInBounds_ne (Ne.symm hdn)]
                  rw [this];exact hold
          have hJ:=StepsH.get hsteps i o hti;rw [Nat.zero_add] at hJ
          unfold wpOp
          rw [hge,ho]
          show (if Region.wanted o (yielded ops.toArray a.tmps) then _ else _)
          rw [if_pos (by simp [Region.wanted,hd6])]
          by_cases his:i=s
          . subst his
            rw [if_pos (by simp)] at hJ;rw [hnl] at hS;refine .inl ((hJ a w g O hS hdep).run _ _ fun v w' ⟨g',hv,h2,h3⟩=>rest v w' g' ?_ h2 h3);have:i<listed.size:=by omega
            have e1:(listed.setIfInBounds i true).getD i false=true:=by simp [this]
            rw [e1];exact hv
          . rw [if_neg (by simpa using his)] at hJ
            refine .inl ((hJ a w (listed.getD s false) g O hS (fun he=>?_) hdep).run _ _ fun v w' ⟨g',hv,h2,h3⟩=>rest v w' g' ?_ h2 h3)
            . cases hb:listed.getD s false with
              | false=>rfl
              | true =>
                exfalso
                unfold Gu at he
                have hos:ops[s]? = some ops[s]:=by simp [hskl]
                rw [hos] at he;simp only [B4,List.any_eq_true,Bool.and_eq_true] at he;obtain ⟨e,hin,hb2,hj⟩:=he;have hj:=Nat.eq_of_beq_eq_true hj;have:=hcl s _ hos hb e (by simpa using hin) hb2;rw [hj,hnl] at this;cases this
            . rw [getD_set_ne false his];exact hv
  refine head ops.toArray.size (Array.replicate ops.toArray.size false) a _ g (by simp) ?_ (fun j _ hj=>by simp [hj]) (fun j o hj hl e he hZ=>by have hH:=(List.getElem?_eq_some_iff.1 hj).1;simp [hH] at hl) O (by simp [hskl];exact hdr _ _ _ hS) (fun i _ hi hl=>by simp [hi] at hl)
  . have:=List.countP_le_length (l:=List.range ops.length) (p:=fun i=>!(Array.replicate ops.toArray.size false).getD i true)
    simpa using this
end
end Go.Sw
namespace Go.Sw
open Go Go.RowKit Go.Ech
variable {P : Program}
theorem MemX.extY {X Y:List Nat}{w0 w w':World}{L:Own}{D:A4}(h:MemX X w0 w L D)(hx:ExtX Y w w')(hY:∀ y∈Y,w0.heap.size<=y/\(∀ (k:Nat) c ds,L[k]? = some (some (c,ds))->c≠y)/\(∀ c ds,(c,ds)∈D->c≠y)):MemX X w0 w' L D:=by
  have other:∀ {c ds},Blk w c ds->c ∉ Y->Blk w' c ds:=fun {c ds} hc hne=>by
    obtain ⟨t,hc'⟩:=hc;exact ⟨t,(hx.block c (Blk.lt ⟨t,hc'⟩) hne).trans hc'⟩
  refine ⟨⟨hx.os.trans h.bel.os,hx.tape.trans h.bel.tape,hx.output.trans h.bel.output,Nat.le_trans h.bel.size hx.size,fun i hi hix=>?_⟩,fun k c ds hk=>⟨(h.blk k c ds hk).1,other (h.blk k c ds hk).2 (fun hc=>(hY c hc).2.1 k c ds hk rfl)⟩,h.apart,fun c ds hm=>⟨other (h.froz c ds hm).1 (fun hc=>(hY c hc).2.2 c ds hm rfl),(h.froz c ds hm).2⟩⟩;have hne:i ∉ Y:=fun hc=>by have:=(hY i hc).1;omega
  exact (hx.block i (Nat.lt_of_lt_of_le hi h.bel.size) hne).trans (h.bel.block i hi hix)
theorem PJ {n N:Nat}{r x:Nat->Int}(hn:n<=N)(hz:∀ c,n<=c->c<N->r c=0):dot N r x=dot n r x:=by
  unfold dot;exact HN hn (fun c h1 h2=>by rw [hz c h1 h2];simp)
def wid (n:Nat) (E:Nat->Nat->Nat) (i c:Nat):Nat:=if c<n then E i c else 0
theorem Mb {p n N k:Nat}{E:Nat->Nat->Nat}{x:Nat->Int}(hn:n<=N):Ker p N (wid n E) k x↔Ker p n E k x:=by
  unfold Ker
  refine forall_congr' fun i=>imp_congr_right fun _=>?_;rw [PJ hn (fun c h1 _=>by show (wid n E i c:Int)=0;unfold wid;rw [if_neg (by omega)];rfl)];have:dot n (ci (wid n E i)) x=dot n (ci (E i)) x:=by unfold dot;exact Ao fun c hc=>by simp only [ci,wid,if_pos hc]
  rw [this]
theorem Rref.wid {p n N k:Nat}{E:Nat->Nat->Nat}{ld:Nat->Nat}(hp:0<p)(hn:n<=N)(h:Rref p n E k ld):Rref p N (wid n E) k ld:=by
  refine ⟨fun i hi=>Nat.lt_of_lt_of_le (h.lt i hi) hn,h.mono,fun i hi=>?_,fun i hi c hc=>?_,fun i j hi hj hne=>?_,fun i hi c _=>?_⟩
  . unfold Go.Sw.wid;rw [if_pos (h.lt i hi)];exact h.one i hi
  . unfold Go.Sw.wid;rw [if_pos (by have:=h.lt i hi;omega)];exact h.left i hi c hc
  . unfold Go.Sw.wid;rw [if_pos (h.lt i hi)];exact h.zero i j hi hj hne
  . unfold Go.Sw.wid;split
    . rename_i hcn;exact h.small i hi c hcn
    . exact hp
end Go.Sw
namespace Go.Sw
open Go Go.RowKit
variable {P : Program}
theorem F3 {l:List Oper}(h:l.all (fun o=>o.dst.isSome)=true):∀ (j:Nat) (o:Oper),l[j]? = some o->o.dst≠none:=fun j o hj hn=>by
  have:=List.all_eq_true.1 h o (List.mem_of_getElem? hj)
  rw [hn] at this;cases this
theorem Ci {G:Type}{S:Bool->G->World->Prop}{φ:Facts G}{b:Bool}{i:Nat}{g:G}{o:Oper}{a:Act}{w:World}{v:Value}(hS:S b g w)(hφ:φ i g v w)(hg:BX P o a w v):Does P o a w (Ei S φ b i g w):=
  hg.mono fun u w' ⟨h1,h2⟩=>by subst h1;subst h2;exact ⟨g,hS,hφ,fun _ _ _ h=>h⟩
end Go.Sw
namespace Go.Sw
open Go Go.RowKit
variable {P : Program}
theorem K7 {X:List Nat}{w0 w:World}{D:A4}{W:List Nat}{L0 L:Own}{l:List Fact}{i:Nat}{o:Oper}{a:Act}{v:Value}{R:Value->World->Prop}(hS:Par X w0 D W L0 L w)(hi:l[i]? = some (.rel R))(hg:BX P o a w v)(hR:R v w):Does P o a w (After (Par X w0 D W L0) (Cc l) i L w):=
  hg.mono fun u w' ⟨h1,h2⟩=>by subst h1;subst h2;exact ⟨L,hS,FZ hi hR,fun j u _ h=>h⟩
end Go.Sw
namespace Go.Sw
open Go Go.RowKit
section
variable {P : Program} {n : Nat} {a : Act} {w0 w : World} {X : List Nat} {F : List (Nat × Value)} {L : Own} {D : A4} {d : Option Tmp} {T : TypeId} {x y : Operand} {t : TypeId} {pos : String} {af : Array Edge} {gd : Option (Nat × Bool)}
theorem B1 {parts:Array (Nat×Operand)}{vs:List (Nat×Value)}{z:Value}(_hF:Fr n a F)(hp:parts.toList.map (fun p=>(p.1,a.eval p.2))=vs)(hrun:∀ w,(Instr.build T vs.toArray).run P w = .ok z w):BX P ⟨d,.build T parts,t,pos,af,gd⟩ a w z:=by
  refine Ah ?_;have e1:(parts.map fun (i,x)=>(i,a.eval x))=vs.toArray:=by rw [← hp];apply Array.toList_inj.1;simp
  simp only [execOp,e1,Sem.run_bind,hrun,Result.andThen_ok,Sem.run_pure]
end
def Pm (p n i o:Int) (sl:Value):Array Value:=#[.int .i64 p,.int .i64 n,.int .i64 i,.int .i64 o,sl]
def Rx (p:Int) (sl:Value):Array Value:=#[.int .i64 p,sl]
def QU (m:Nat) (f:Nat->Nat):Array Value:=Al m (fun c=>.int .i64 (f c:Int))
section
variable {p n i o : Int} {sl : Value} {q m : Nat} {f g : Nat -> Nat}
end
abbrev Q4 (w w':World) (p n i o:Int) (m:Nat) (f:Nat->Nat) (v:Value):Prop:=
  ∃ b,v = .agg (Pm p n i o (.slice (some ⟨b,0,none⟩) m m))/\w.heap.size<=b/\Blk w' b (QU m f)
abbrev Qq (w w':World) (p n i o:Int) (m:Nat) (f:Nat->Nat) (v:Value):Prop:=
  ∃ b,v = .tuple #[.agg (Pm p n i o (.slice (some ⟨b,0,none⟩) m m)),.int .i64 0]/\w.heap.size<=b/\Blk w' b (QU m f)
def RW (n:Nat):Nat->Nat->Nat
  | 0,q=>q
  | k+1,q=>if q<=1296 then RW n k (q*n) else q
def wl (n i o:Nat):Prop:=i<=8/\o<=8/\n ^ (i+o)<=1296
instance (n i o:Nat):Decidable (wl n i o):=by unfold wl;infer_instance
section
variable {P : Program} {n : Nat} {F : List (Nat × Value)} {a : Act} {w : World} {d : Option Tmp} {t : TypeId} {pos : String} {af : Array Edge} {gd : Option (Nat × Bool)} {T : TypeId} {x y z u : Operand}
theorem Oj {x0 x1 x2 x3 x4:Operand}{v0 v1 v2 v3 v4:Value}(O:Fr n a F)(h0:look F x0=some v0)(h1:look F x1=some v1)(h2:look F x2=some v2)(h3:look F x3=some v3)(h4:look F x4=some v4):(#[(0,x0),(1,x1),(2,x2),(3,x3),(4,x4)]:Array (Nat×Operand)).toList.map (fun p=>(p.1,a.eval p.2))=[(0,v0),(1,v1),(2,v2),(3,v3),(4,v4)]:=by simp [O.eval h0,O.eval h1,O.eval h2,O.eval h3,O.eval h4]
end
open Go Go.RowKit Go.ChangeShapes Go.WideShapes Go.ChangeAt
variable {P : Program} {H : Type} {enc : TypeId × Value -> H}
theorem post_of_ext {f:Func}{s:ChangeSpec}{apart fresh handsOn again:Bool}{W W':World}{args:Array Value}{v:Value}{ds gs:List (DataW H)}{before pa pv:List MemPlace}
    (hW:DataW.Whole enc P f.params.toList s.vars apart W args.toList ds gs before) (hx:Ext W W')
    (hres:∀ (b:Nat) (sp:Nat->Bool) (hd:Bool),DataW.TrodAll enc P W' b sp hd f.resultTypes.toList (v.resultList f.resultTypes.size) (s.fn H (ds++gs)).results [])
    (hargs:∀ sp:Nat->Bool,(∀ p∈before,sp p.block=true)->DataW.TrodAll enc P W' 0 sp true f.params.toList args.toList (s.fn H (ds++gs)).args pa)
    (hvars:∀ sp:Nat->Bool,(∀ p∈before,sp p.block=true)->DataW.TrodVars enc P W' sp s.vars (s.fn H (ds++gs)).vars pv)
    (hps:before=pa++pv)
    (hok:∀ (j:Nat) (t:TypeId) (r:Value),f.resultTypes[j]? = some t->(v.resultList f.resultTypes.size)[j]? = some r->Value.okWide P W' .any 0 t r) :
    s.post enc P f apart fresh handsOn again W args v W':=by
  have hlt:∀ p∈before,p.block<W.heap.size:=fun p hp=>hW.lt p hp;refine ⟨ds,gs,before,[],pa,pv,hW,hres _ _ _,hargs _ (fun p hp=>by simpa using hlt p hp),hvars _ (fun p hp=>by simpa using hlt p hp),Below.frame hx _,fun _=>?_⟩;obtain ⟨_,_,_,_,_,hz,hn⟩:=hW;refine ⟨hok,_,_,([]++pa)++pv,⟨[]++pa,pv,trodAll_append (hargs _ (fun _ _=>rfl)) (hres _ _ _),hvars _ (fun _ _=>rfl),rfl,?_,?_⟩,?_⟩
  . intro b off hp
    have hm:MemPlace.cell b off∈before:=by rw [hps];simpa using hp
    have hb:b<W.heap.size:=hlt _ hm;rw [Below.frozen hx (p:=⟨b,off,none⟩) hb];exact hz b off hm
  . intro ha
    have:=hn ha;rw [hps] at this
    simpa using this
  . intro p hp _
    rw [hps];simpa using hp
theorem and_mk {a b:Bool}(ha:a=true)(hb:b=true):(a && b)=true:=by rw [ha,hb];rfl
end Go.Sw
