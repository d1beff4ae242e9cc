import Derived.Test.YtkcneleabbjkaaaEch5
import Derived.Laws.CopyRow
import Derived.Test.YtkcneleabbjkaaaSw14
import Derived.OpenShut
set_option linter.unusedVariables false
set_option linter.unusedSimpArgs false
namespace Go.Sw
open Go Go.RowKit
variable {P : Program}
section
variable {ops : List Oper} {Q : Exit → Act → World → Prop} {n : Nat} {F : List (Nat × Value)}
def JR {G:Type} (ops:List Oper) (k s:Nat) (φ:Facts G) (o:Oper) (g:G) (a:Act) (w:World):Prop:=
  ∀ j,Nat.blt j k=true→Bm o j=true→φ j g (a.tmps.getD (BX ops j) undef) w
def StepsH {G:Type} (P:Program) (ops:List Oper) (k s n:Nat) (F:List (Nat×Value)) (S:Bool→G→World→Prop) (φ:Facts G):List Oper→Nat→Prop
  | [],_=>True
  | o::r,i=>(if Nat.beq i s=true then ∀ a w g,Fr n a F→S false g w→JR ops k s φ o g a w→Does P o a w (D7 S φ true i g w)
      else ∀ a w b g,Fr n a F→S b g w→(Fj ops s i=true→b=false)→JR ops k s φ o g a w→Does P o a w (D7 S φ b i g w))∧StepsH P ops k s n F S φ r (i+1)
theorem StepsH.get {G:Type}{k s:Nat}{S:Bool→G→World→Prop}{φ:Facts G}:∀ {l:List Oper} {i:Nat},StepsH P ops k s n F S φ l i→∀ (j:Nat) (o:Oper),l[j]? = some o→
    (if Nat.beq (i+j) s=true then ∀ a w g,Fr n a F→S false g w→JR ops k s φ o g a w→Does P o a w (D7 S φ true (i+j) g w)
      else ∀ a w b g,Fr n a F→S b g w→(Fj ops s (i+j)=true→b=false)→JR ops k s φ o g a w→Does P o a w (D7 S φ b (i+j) g w))
  | [],_,_,j,o,h=>by simp at h
  | x :: r, i, hs, j, o, h => by
    cases j with
    | zero=>simp at h;subst h;exact hs.1
    | succ j=>have:=hs.2.get j o (by simpa using h);rwa [show i+1+j=i+(j+1) by omega] at this
theorem MT {G:Type}{S:Bool→G→World→Prop}{id:Nat}(k s:Nat){a:Act}{w:World}(hm:P.follows .mixedOrders=true)(hk:Ew ops k=true)(hsk:Nat.blt s k=true)(hsl:Nat.blt s ops.length=true)(hF:Fr n a F)(hdst:EO n F (ops.take k) []=true)(hdall:∀ (j:Nat) (o:Oper),(ops.take k)[j]? = some o→o.dst≠none)(g:G)(hS:S false g w)
    (hdr:∀ b g w,S b g w→S b g w.drew) (φ:Facts G)
    (hsteps:StepsH P ops k s n F S φ (ops.take k) 0)
    (hend:∀ a w g,Fr n a F→S true g w→(∀ i,Nat.blt i k=true→Nat.blt i ops.length=true→φ i g (a.tmps.getD (BX ops i) undef) w)→wpList P ops.toArray Q (ops.drop k) a w) :
    (Code.region id ops.toArray true).wp P Q a w:=by
  refine wp_region_any hm ?_;simp only [Ew,Bool.and_eq_true] at hk;obtain ⟨hback,htail⟩:=hk;have hge:∀ (i:Nat),ops.toArray[i]? = ops[i]?:=fun i=>by simp
  have hreach:∀ i j,k≤i→i<ops.length→j<i→Reach ops i j:=fun i j h1 h2 h3=>
    DC ops [] (fun i=>by simp) (fun m j h=>by simp at h) i j (Cd htail i h1 h2 (by omega) j h3)
  have edge_listed:∀ {i:Nat} {o:Oper} {listed:Array Bool} {j:Nat},i∈Region.ready .any ops.toArray listed→ops[i]? = some o→Bm o j=true→listed.getD j false=true:=by
    intro i o listed j hi ho he;obtain ⟨_,o',ho',hall⟩:=mem_ready.1 hi;rw [hge,ho] at ho';obtain rfl:=Option.some.inj ho';simp only [Bm,List.any_eq_true,Bool.and_eq_true] at he;obtain ⟨e,hm',hb,hj⟩:=he;obtain rfl:=Nat.eq_of_beq_eq_true hj;exact hall e (by simpa using hm') hb
  have reach_listed:∀ {listed:Array Bool},(∀ (j:Nat) o,ops[j]? = some o→listed.getD j false=true→∀ e∈o.after,Region.binds .any e=true→listed.getD e.on false=true)→∀ i j,Reach ops i j→(∀ o m,ops[i]? = some o→Bm o m=true→listed.getD m false=true)→listed.getD j false=true:=by
    intro listed hcl i j hr
    induction hr with
    | one ho he=>intro h;exact h _ _ ho he
    | more ho he _ ih =>
      intro h;have hm':=h _ _ ho he;refine ih (fun o m ho2 he2=>?_);simp only [Bm,List.any_eq_true,Bool.and_eq_true] at he2;obtain ⟨e,hin,hb,hj⟩:=he2;obtain rfl:=Nat.eq_of_beq_eq_true hj;exact hcl _ o ho2 hm' e (by simpa using hin) hb
  have tail:∀ (f m:Nat) (listed:Array Bool) (a:Act) (w:World),k≤m→ops.length - m≤f→(∀ j,j<m→j<ops.length→listed.getD j false=true)→(∀ j,m≤j→j<ops.length→listed.getD j true=false)→
      wpList P ops.toArray Q (ops.drop m) a w→wpAny P .any ops.toArray Q f listed a w:=by
    intro f
    induction f with
    | zero =>
      intro m listed a w hkm hf h1 h2 h;rw [List.drop_eq_nil_of_le (by omega)] at h;refine ⟨?_,h⟩
      cases hr:Region.ready .any ops.toArray listed with
      | nil=>rfl
      | cons i r =>
        obtain ⟨g1,o,ho,_⟩:=mem_ready.1 (hr ▸ List.mem_cons_self .. : i∈Region.ready .any ops.toArray listed);rw [hge] at ho;have hi:=(List.getElem?_eq_some_iff.1 ho).1;have:=h1 i (by omega) hi
        simp [Array.getD_eq_getD_getElem?] at this g1
        cases hh:listed[i]?<;>simp [hh] at this g1
        rw [this] at g1;cases g1
    | succ f ih =>
      intro m listed a w hkm hf h1 h2 h;have only:∀ i∈Region.ready .any ops.toArray listed,i=m:=by
        intro i hi;obtain ⟨g1,o,ho,hall⟩:=mem_ready.1 hi;have ho':=ho;rw [hge] at ho';have hil:=(List.getElem?_eq_some_iff.1 ho').1
        by_cases hlt:i<m
        · have:=h1 i hlt hil
          simp [Array.getD_eq_getD_getElem?] at this g1
          cases hh:listed[i]?<;>simp [hh] at this g1
          rw [this] at g1;cases g1
        · by_cases e:i=m
          · exact e
          · have:=reach_listed (listed:=listed) (fun j o hj hl e he hbnd=>by
                have hjl:=(List.getElem?_eq_some_iff.1 hj).1;have hjm:j<m:=by
                  rcases Nat.lt_or_ge j m with h | h
                  · exact h
                  · have h3:=h2 j h hjl
                    simp [Array.getD_eq_getD_getElem?] at hl h3
                    cases hh:listed[j]?<;>simp [hh] at hl h3
                    rw [hl] at h3;cases h3
                have:=Bf hback j o hj e he hbnd;exact h1 e.on (by omega) (by omega)) i m (hreach i m (by omega) hil (by omega)) (fun o2 q ho2 he2=>by
                rw [ho'] at ho2;obtain rfl:=Option.some.inj ho2;exact edge_listed hi ho' he2)
            have h3:=h2 m (Nat.le_refl _) (by omega)
            simp [Array.getD_eq_getD_getElem?] at this h3
            cases hh:listed[m]?<;>simp [hh] at this h3
            rw [this] at h3;cases h3
      refine ⟨fun hr=>?_,fun i hi=>?_⟩
      · by_cases hml:m<ops.length
        · exfalso
          have:m∈Region.ready .any ops.toArray listed:=by
            refine mem_ready.2 ⟨h2 m (Nat.le_refl _) hml,ops[m],by simp [hml],fun e he hbnd=>?_⟩;have:=Bf hback m ops[m] (by simp [hml]) e he hbnd;exact h1 e.on (by omega) (by omega)
          rw [hr] at this;cases this
        · rw [List.drop_eq_nil_of_le (by omega)] at h;exact h
      · obtain rfl:=only i hi
        obtain ⟨g1,o,ho,_⟩:=mem_ready.1 hi;rw [hge] at ho;have hil:=(List.getElem?_eq_some_iff.1 ho).1;have hdrop:ops.drop i=o::ops.drop (i+1):=by
          rw [List.drop_eq_getElem_cons hil];congr 1;exact (List.getElem?_eq_some_iff.1 ho).2
        rw [hdrop] at h;have K:∀ a w,wpList P ops.toArray Q (ops.drop (i+1)) a w→wpAny P .any ops.toArray Q f (listed.setIfInBounds i true) a w:=by
          intro a w hh;refine ih (i+1) _ a w (by omega) (by omega) (fun j hj hjl=>?_) (fun j hj hjl=>?_) hh
          · by_cases e:i=j
            · subst e
              have hsz:i<listed.size:=by
                rcases Nat.lt_or_ge i listed.size with h' | h'
                · exact h'
                · simp [Array.getElem?_eq_none h'] at g1
              simp [hsz]
            · rw [getD_set_ne false e];exact h1 j (by omega) hjl
          · rw [getD_set_ne true (by omega)];exact h2 j (by omega) hjl
        unfold wpOp
        rw [hge,ho]
        unfold wpList at h
        show (if Region.wanted o (yielded ops.toArray a.tmps) then _ else _)
        split
        · rename_i hw
          rw [if_pos hw] at h;exact h.imp (Oper.wp_mono K) (fun x=>x)
        · rename_i hw
          rw [if_neg hw] at h;exact K _ _ h
  have hskl:s<ops.length:=Nat.blt_eq.mp hsl;have hsk':s<k:=Nat.blt_eq.mp hsk;have hnodst:∀ (j:Nat) (o:Oper),(ops.take k)[j]? = some o→o.dst≠none:=hdall;have head:∀ (f:Nat) (listed:Array Bool) (a:Act) (w:World) (g:G),listed.size=ops.length→(List.range ops.length).countP (fun i=>!listed.getD i true)≤f→(∀ j,k≤j→j<ops.length→listed.getD j true=false)→(∀ (j:Nat) o,ops[j]? = some o→listed.getD j false=true→∀ e∈o.after,Region.binds .any e=true→listed.getD e.on false=true)→
      Fr n a F→S (listed.getD s false) g w→(∀ i,i<k→i<ops.length→listed.getD i false=true→φ i g (a.tmps.getD (BX ops i) undef) w)→wpAny P .any ops.toArray Q f listed a w:=by
    intro f
    induction f with
    | zero =>
      intro listed a w g hsz hc h2 hcl hF hS hφ';have all:∀ j,j<ops.length→listed.getD j true=true:=by
        intro j hj;have h0:(List.range ops.length).countP (fun i=>!listed.getD i true)=0:=by omega
        have:=List.countP_eq_zero.1 h0 j (by simpa using hj)
        simpa using this
      have all':∀ j,j<ops.length→listed.getD j false=true:=by
        intro j hj;have:=all j hj;have hjs:j<listed.size:=by omega
        simpa [Array.getD_eq_getD_getElem?,hjs] using this
      have hlen:ops.length≤k:=by
        rcases Nat.lt_or_ge k ops.length with h | h
        · have e1:=h2 k (Nat.le_refl _) h
          rw [all k h] at e1;cases e1
        · exact h
      refine tail 0 k listed a w (Nat.le_refl _) (by omega) (fun j _ hj=>all' j hj) (fun j hj hjl=>by omega)<|hend a w g hF (by rw [all' s hskl] at hS;exact hS) (fun i hi hil=>hφ' i (Nat.blt_eq.mp hi) (Nat.blt_eq.mp hil) (all' i (Nat.blt_eq.mp hil)))
    | succ f ih =>
      intro listed a w g hsz hc h2 hcl hF hS hφ'
      by_cases all:∀ j,j<k→j<ops.length→listed.getD j false=true
      · refine tail (f+1) k listed a w (Nat.le_refl _) ?_ all h2 (hend a w g hF (by rw [all s hsk' hskl] at hS;exact hS) (fun i hi hil=>hφ' i (Nat.blt_eq.mp hi) (Nat.blt_eq.mp hil) (all i (Nat.blt_eq.mp hi) (Nat.blt_eq.mp hil))))
        have hge':∀ (m:Nat),m≤ops.length→m - k≤(List.range m).countP (fun i=>!listed.getD i true):=by
          intro m
          induction m with
          | zero=>intro _;simp
          | succ m ihm =>
            intro hm';have:=ihm (by omega);rw [List.range_succ,List.countP_append]
            by_cases hkm:k≤m
            · have e1:=h2 m hkm (by omega)
              have e2:List.countP (fun i=>!listed.getD i true) [m]=1:=by rw [List.countP_cons,e1];rfl
              omega
            · omega
        have:=hge' ops.length (Nat.le_refl _)
        omega
      · have step:∀ i∈Region.ready .any ops.toArray listed,i<k:=by
          intro i hi
          rcases Nat.lt_or_ge i k with h | h
          · exact h
          · exfalso
            obtain ⟨g1,o,ho,_⟩:=mem_ready.1 hi;rw [hge] at ho;have hil:=(List.getElem?_eq_some_iff.1 ho).1;exact all (fun j hj hjl=>reach_listed hcl i j (hreach i j h hil (by omega)) (fun o2 q ho2 he2=>by
              rw [ho] at ho2;obtain rfl:=Option.some.inj ho2;exact edge_listed hi ho he2))
        refine ⟨fun hr=>?_,fun i hi=>?_⟩
        · exfalso
          apply all
          intro j
          induction j using Nat.strongRecOn with
          | _ j ihj =>
            intro hjk hjl
            cases hl:listed.getD j false with
            | true=>rfl
            | false =>
              have hjs:j<listed.size:=by omega
              have hm':j∈Region.ready .any ops.toArray listed:=by
                refine mem_ready.2 ⟨?_,ops[j],by simp [hjl],fun e he hbnd=>?_⟩
                · simpa [Array.getD_eq_getD_getElem?,hjs] using hl
                · have:=Bf hback j ops[j] (by simp [hjl]) e he hbnd
                  exact ihj e.on (by omega) (by omega) (by omega)
              rw [hr] at hm';cases hm'
        · have hik:=step i hi
          obtain ⟨g1,o,ho,hall'⟩:=mem_ready.1 hi;rw [hge] at ho;have hil:=(List.getElem?_eq_some_iff.1 ho).1;have hti:(ops.take k)[i]? = some o:=by rw [List.getElem?_take,if_pos hik];exact ho
          obtain ⟨hd6,hdd⟩:=CM hdst i o hti;have hnl:listed.getD i false=false:=by
            have:i<listed.size:=by omega
            simp [Array.getD_eq_getD_getElem?,this] at g1 ⊢;exact g1
          have hdep:JR ops k s φ o g a w:=fun j hj he=>by
            have hj':j<k:=Nat.blt_eq.mp hj;have hl:=edge_listed hi ho he;have hjl:j<ops.length:=by
              rcases Nat.lt_or_ge j listed.size with h | h
              · omega
              · simp [Array.getElem?_eq_none h] at hl
            exact hφ' j hj' hjl hl
          have rest:∀ (v:Value) (w':World) (g':G),S ((listed.setIfInBounds i true).getD s false) g' w'→φ i g' v w'→(∀ j u,j≠i→φ j g u w→φ j g' u w')→wpAny P .any ops.toArray Q f (listed.setIfInBounds i true) (a.put o.dst v) w':=by
            intro v w' g' hS' hvi hoth;have hF':Fr n (a.put o.dst v) F:=by
              cases hd:o.dst with
              | none=>exact hF
              | some d =>
                obtain ⟨hd2,hd3,_⟩:=hdd d hd;have:=hF.put d v (Nat.blt_eq.mpr hd2);refine ⟨this.defers,this.size,fun t u ht=>this.get t u ?_⟩;simp only [lk];have hne:¬ d=t:=fun e=>by subst e;rw [hd3] at ht;cases ht
                rw [HZ hne];exact ht
            refine ih _ _ _ g' (by simpa using hsz) ?_ (fun j hj hjl=>?_) (fun j oj hoj hl e he hb=>?_) hF' hS' (fun j hj hjl hl=>?_)
            · have:(List.range ops.length).countP (fun j=>!(listed.setIfInBounds i true).getD j true)<(List.range ops.length).countP (fun j=>!listed.getD j true):=by
                refine Dg (fun x hx=>?_) ⟨i,by simpa using hil,by simpa using g1,?_⟩
                · by_cases e:i=x
                  · subst e;simp only [g1];rfl
                  · rw [getD_set_ne true e] at hx;exact hx
                · have:i<listed.size:=by omega
                  simp [this]
              omega
            · rw [getD_set_ne true (by omega)];exact h2 j hj hjl
            · refine getD_set_true ?_
              by_cases ej:j=i
              · subst ej
                rw [ho] at hoj;obtain rfl:=Option.some.inj hoj;exact hall' e he hb
              · rw [getD_set_ne false (Ne.symm ej)] at hl
                exact hcl j oj hoj hl e he hb
            · by_cases e:j=i
              · subst e
                have hv:=hvi
                cases hd:o.dst with
                | none=>simp only [BX,ho,Option.bind_some,hd] at hv ⊢;exact absurd hd (by
                    intro _;exact hnodst j o hti hd)
                | some d =>
                  obtain ⟨hd2,_⟩:=hdd d hd;have hdo:BX ops j=d:=by simp [BX,ho,hd]
                  rw [hdo];have:(a.put (some d) v).tmps.getD d undef=v:=by simp [Act.put,hF.size,hd2]
                  rw [this];exact hv
              · rw [getD_set_ne false (Ne.symm e)] at hl
                have hold:=hoth j _ e (hφ' j hj hjl hl)
                cases hd:o.dst with
                | none=>exact hold
                | some d =>
                  obtain ⟨hd2,hd3,_,hd5⟩:=hdd d hd;have hoj:ops[j]? = some ops[j]:=by simp [hjl]
                  have htj:(ops.take k)[j]? = some ops[j]:=by rw [List.getElem?_take,if_pos hj];exact hoj
                  have hdn:BX ops j≠d:=by
                    intro e2
                    cases hdj:(ops[j]).dst with
                    | none=>exact hnodst j _ htj hdj
                    | some d' =>
                      have:BX ops j=d':=by simp only [BX,hoj,Option.bind_some,hdj,Option.getD_some]
                      rw [this] at e2;subst e2
                      rcases Nat.lt_or_gt_of_ne e with h | h
                      · exact hd5 j ops[j] h htj hdj
                      · exact ((CM hdst j ops[j] htj).2 _ hdj).2.2.2 i o h hti hd
                  have:(a.put (some d) v).tmps.getD (BX ops j) undef=a.tmps.getD (BX ops j) undef:=by
                    simp [Act.put,Array.getElem?_setIfInBounds_ne (Ne.symm hdn)]
                  rw [this];exact hold
          have hdoes:=StepsH.get hsteps i o hti;rw [Nat.zero_add] at hdoes
          unfold wpOp
          rw [hge,ho]
          show (if Region.wanted o (yielded ops.toArray a.tmps) then _ else _)
          rw [if_pos (by simp [Region.wanted,hd6])]
          by_cases his:i=s
          · subst his
            rw [if_pos (by simp)] at hdoes;rw [hnl] at hS;refine .inl ((hdoes a w g hF hS hdep).run _ _ fun v w' ⟨g',hv,h2,h3⟩=>rest v w' g' ?_ h2 h3);have:i<listed.size:=by omega
            have e1:(listed.setIfInBounds i true).getD i false=true:=by simp [this]
            rw [e1];exact hv
          · rw [if_neg (by simpa using his)] at hdoes
            refine .inl ((hdoes a w (listed.getD s false) g hF hS (fun he=>?_) hdep).run _ _ fun v w' ⟨g',hv,h2,h3⟩=>rest v w' g' ?_ h2 h3)
            · cases hb:listed.getD s false with
              | false=>rfl
              | true =>
                exfalso
                unfold Fj at he
                have hos:ops[s]? = some ops[s]:=by simp [hskl]
                rw [hos] at he;simp only [Bm,List.any_eq_true,Bool.and_eq_true] at he;obtain ⟨e,hin,hb2,hj⟩:=he;have hj:=Nat.eq_of_beq_eq_true hj;have:=hcl s _ hos hb e (by simpa using hin) hb2;rw [hj,hnl] at this;cases this
            · rw [getD_set_ne false his];exact hv
  refine head ops.toArray.size (Array.replicate ops.toArray.size false) a _ g (by simp) ?_ (fun j _ hj=>by simp [hj]) (fun j o hj hl e he hbnd=>by have hjl:=(List.getElem?_eq_some_iff.1 hj).1;simp [hjl] at hl) hF (by simp [hskl];exact hdr _ _ _ hS) (fun i _ hi hl=>by simp [hi] at hl)
  · have:=List.countP_le_length (l:=List.range ops.length) (p:=fun i=>!(Array.replicate ops.toArray.size false).getD i true)
    simpa using this
end
end Go.Sw
namespace Go.Sw
open Go Go.RowKit Go.Ech
variable {P : Program}
theorem MemX.extY {X Y:List Nat}{w0 w w':World}{L:Own}{D:BI}(h:MemX X w0 w L D)(hx:ExtX Y w w')(hY:∀ y∈Y,w0.heap.size≤y∧(∀ (k:Nat) c ds,L[k]? = some (some (c,ds))→c≠y)∧(∀ c ds,(c,ds)∈D→c≠y)):MemX X w0 w' L D:=by
  have other:∀ {c ds},Blk w c ds→c ∉ Y→Blk w' c ds:=fun {c ds} hc hne=>by
    obtain ⟨t,hc'⟩:=hc;exact ⟨t,(hx.block c (Blk.lt ⟨t,hc'⟩) hne).trans hc'⟩
  refine ⟨⟨hx.os.trans h.bel.os,hx.tape.trans h.bel.tape,hx.output.trans h.bel.output,Nat.le_trans h.bel.size hx.size,fun i hi hix=>?_⟩,fun k c ds hk=>⟨(h.blk k c ds hk).1,other (h.blk k c ds hk).2 (fun hc=>(hY c hc).2.1 k c ds hk rfl)⟩,h.apart,fun c ds hm=>⟨other (h.froz c ds hm).1 (fun hc=>(hY c hc).2.2 c ds hm rfl),(h.froz c ds hm).2⟩⟩;have hne:i ∉ Y:=fun hc=>by have:=(hY i hc).1;omega
  exact (hx.block i (Nat.lt_of_lt_of_le hi h.bel.size) hne).trans (h.bel.block i hi hix)
def wid (n:Nat) (E:Nat→Nat→Nat) (i c:Nat):Nat:=if c<n then E i c else 0
theorem Rref.wid {p n N k:Nat}{E:Nat→Nat→Nat}{ld:Nat→Nat}(hp:0<p)(hn:n≤N)(h:Rref p n E k ld):Rref p N (wid n E) k ld:=by
  refine ⟨fun i hi=>Nat.lt_of_lt_of_le (h.lt i hi) hn,h.mono,fun i hi=>?_,fun i hi c hc=>?_,fun i j hi hj hne=>?_,fun i hi c _=>?_⟩
  · unfold Go.Sw.wid;rw [if_pos (h.lt i hi)];exact h.one i hi
  · unfold Go.Sw.wid;rw [if_pos (by have:=h.lt i hi;omega)];exact h.left i hi c hc
  · unfold Go.Sw.wid;rw [if_pos (h.lt i hi)];exact h.zero i j hi hj hne
  · unfold Go.Sw.wid;split
    · rename_i hcn;exact h.small i hi c hcn
    · exact hp
end Go.Sw
namespace Go.Sw
open Go Go.RowKit
variable {P : Program}
theorem HV {l:List Oper}(h:l.all (fun o=>o.dst.isSome)=true):∀ (j:Nat) (o:Oper),l[j]? = some o→o.dst≠none:=fun j o hj hn=>by
  have:=List.all_eq_true.1 h o (List.mem_of_getElem? hj)
  rw [hn] at this;cases this
theorem Bl {G:Type}{S:Bool→G→World→Prop}{φ:Facts G}{b:Bool}{i:Nat}{g:G}{o:Oper}{a:Act}{w:World}{v:Value}(hS:S b g w)(hφ:φ i g v w)(hg:BW P o a w v):Does P o a w (D7 S φ b i g w):=
  hg.mono fun u w' ⟨h1,h2⟩=>by subst h1;subst h2;exact ⟨g,hS,hφ,fun _ _ _ h=>h⟩
end Go.Sw
namespace Go.Sw
open Go Go.RowKit
variable {P : Program}
end Go.Sw
namespace Go.Sw
open Go Go.RowKit
section
variable {P : Program} {n : Nat} {a : Act} {w0 w : World} {X : List Nat} {F : List (Nat × Value)} {L : Own} {D : BI} {d : Option Tmp} {T : TypeId} {x y : Operand} {t : TypeId} {pos : String} {af : Array Edge} {gd : Option (Nat × Bool)}
theorem Bv {parts:Array (Nat×Operand)}{vs:List (Nat×Value)}{z:Value}(_hF:Fr n a F)(hp:parts.toList.map (fun p=>(p.1,a.eval p.2))=vs)(hrun:∀ w,(Instr.build T vs.toArray).run P w = .ok z w):BW P ⟨d,.build T parts,t,pos,af,gd⟩ a w z:=by
  refine An ?_;have e1:(parts.map fun (i,x)=>(i,a.eval x))=vs.toArray:=by rw [← hp];apply Array.toList_inj.1;simp
  simp only [execOp,e1,Sem.run_bind,hrun,Result.andThen_ok,Sem.run_pure]
end
end Go.Sw
namespace Go.Sw
open Go Go.RowKit Go.ChangeShapes Go.WideShapes
def Ma (P:Program):Nat→TypeId→Bool
  | 0,_=>false
  | n + 1, t => match P.underlying t with
    | some (.int _)=>true
    | some (.array _ e)=>Ma P n e
    | some (.struct fs)=>fs.toList.all (fun f=>Ma P n f.type)
    | _=>false
section
variable {H : Type} {enc : TypeId × Value → H} {P : Program}
def J8 (P:Program) (g:TypeId→Option (List IntKind)):List Field→Nat→Option (List IntKind)
  | [],_=>some []
  | f :: r, o => match g f.type with
    | some l=>if f.offset=o∧l.length=P.cellsOf f.type then (J8 P g r (o+l.length)).map (l++·) else none
    | none=>none
def LL (P:Program):Nat→TypeId→Option (List IntKind)
  | 0,_=>none
  | n + 1, t => match P.underlying t with
    | some (.int k)=>some [k]
    | some (.array m e) => match LL P n e with
      | some l=>if l.length=P.cellsOf e∧0<l.length then some (List.replicate m l).flatten else none
      | none=>none
    | some (.struct fs)=>J8 P (LL P n) fs.toList 0
    | _=>none
def Nj (ks:List IntKind) (cs:List Value):Prop:=∀ (i:Nat) k,ks[i]? = some k→∃ n,cs[i]? = some (.int k n)∧(Lit.int k n).wf=true
end
def Oh:Option Value→Int
  | some (.int _ n)=>n
  | _=>0
theorem wf_u8 {n:Int}(h:(Lit.int .u8 n).wf=true):0≤n∧n≤255:=by
  simp only [Lit.wf,Bool.and_eq_true,decide_eq_true_eq] at h;have h1:IntKind.u8.min=0:=by decide
  have h2:IntKind.u8.max=255:=by decide
  omega
def OG:List IntKind:=.i64::.i64::List.replicate 222 .u8
def N8:List IntKind:=List.replicate 6 .u8
section
variable {H : Type} {enc : TypeId × Value → H} {P : Program} {w w' : World} {base base' : Nat} {spare spare' : Nat → Bool} {held held' : Bool} {t : TypeId} {v : Value} {d : DataW H} {p : List MemPlace}
end
end Go.Sw
