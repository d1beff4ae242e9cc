import Derived.Test.YtnjdpgaofjbndaaSw6
import Derived.Test.YtnjdpgaofjbndaaSw27
import Derived.Test.YtnjdpgaofjbndaaEch5
import Derived.Test.YtnjdpgaofjbndaaSw19
set_option linter.unusedVariables false
set_option linter.unusedSimpArgs false
namespace Go.Sw
open Go Go.RowKit
variable {P : Program}
section
variable {ops : List Oper} {Q : Exit → Act → World → Prop} {n : Nat} {F : List (Nat × Value)} {G : Type} {S : G → World → Prop}
def dstsOkQ (n:Nat) (F:List (Nat×Value)):List Oper→List Nat→Bool
  | [],_=>true
  | o :: r, seen => (match o.dst with
    | some d=>Nat.blt d n && (lk F d).isNone && !(memNat d seen) && dstsOkQ n F r (d::seen)
    | none=>false)
theorem dstsOkQ_spec:∀ {l:List Oper} {seen:List Nat},dstsOkQ n F l seen=true→∀ (i:Nat) (o:Oper),l[i]? = some o→∃ d,o.dst=some d∧d<n∧lk F d=none∧d ∉ seen∧(∀ (j:Nat) (o':Oper),j<i→l[j]? = some o'→o'.dst≠some d)
  | [],_,_,i,o,h=>by simp at h
  | x :: r, seen, hb, i, o, h => by
    simp only [dstsOkQ] at hb
    cases hx:x.dst with
    | none=>simp [hx] at hb
    | some d =>
      simp only [hx,Bool.and_eq_true,Bool.not_eq_true',Option.isNone_iff_eq_none] at hb
      obtain ⟨⟨⟨h1,h2⟩,h3⟩,h4⟩:=hb
      cases i with
      | zero =>
        simp at h;subst h
        exact ⟨d,hx,Nat.blt_eq.mp h1,h2,(fun hm=>by rw [memNat_iff.2 hm] at h3;cases h3),(fun j o' hj=>by omega)⟩
      | succ i =>
        obtain ⟨d',g1,g2,g3,g4,g5⟩:=dstsOkQ_spec h4 i o (by simpa using h)
        refine ⟨d',g1,g2,g3,fun hm=>g4 (List.mem_cons_of_mem _ hm),fun j o' hj ho'=>?_⟩
        cases j with
        | zero=>simp at ho';subst ho';rw [hx];intro e;obtain rfl:=Option.some.inj e;exact g4 (List.mem_cons_self ..)
        | succ j=>exact g5 j o' (by omega) (by simpa using ho')
def StepsQ {G:Type} (P:Program) (ops:List Oper) (k n:Nat) (F:List (Nat×Value)) (S:G→World→Prop) (φ:Facts G):List Oper→Nat→Prop
  | [],_=>True
  | o::r,i=>(∀ a w g,Fr n a F→S g w→Deps ops k φ o g a w→if Region.wanted o (yielded ops.toArray a.tmps)=true then Does P o a w (After S φ i g w) else After S φ i g w undef w)∧StepsQ P ops k n F S φ r (i+1)
theorem StepsQ.get {k:Nat}{φ:Facts G}:∀ {l:List Oper} {i:Nat},StepsQ P ops k n F S φ l i→∀ (j:Nat) (o:Oper),l[j]? = some o→
    ∀ a w g,Fr n a F→S g w→Deps ops k φ o g a w→if Region.wanted o (yielded ops.toArray a.tmps)=true then Does P o a w (After S φ (i+j) g w) else After S φ (i+j) g w undef w
  | [],_,_,j,o,h=>by simp at h
  | x :: r, i, hs, j, o, h => by
    cases j with
    | zero=>simp at h;subst h;exact hs.1
    | succ j=>have:=hs.2.get j o (by simpa using h);rwa [show i+1+j=i+(j+1) by omega] at this
theorem c_drawQ {id k:Nat}{a:Act}{w:World}(hm:P.follows .mixedOrders=true)(hk:tailOk ops k=true)(hF:Fr n a F)(hdst:dstsOkQ n F (ops.take k) []=true)(g:G)(hS:S g w)
    (hdr:∀ w,S g w→S g w.drew) (φ:Facts G)
    (hsteps:StepsQ P ops k n F S φ (ops.take k) 0)
    (hend:∀ a w g,Fr n a F→S g w→(∀ i,i<k→i<ops.length→φ i g (a.tmps.getD (dstOf ops i) undef) w)→wpList P ops.toArray Q (ops.drop k) a w) :
    (Code.region id ops.toArray true).wp P Q a w:=by
  refine wp_region_any hm ?_;simp only [tailOk,Bool.and_eq_true] at hk;obtain ⟨hback,htail⟩:=hk;have hge:∀ (i:Nat),ops.toArray[i]? = ops[i]?:=fun i=>by simp
  have hreach:∀ i j,k≤i→i<ops.length→j<i→Reach ops i j:=fun i j h1 h2 h3=>
    masks_spec ops [] (fun i=>by simp) (fun m j h=>by simp at h) i j (bitsFrom_spec htail i h1 h2 (by omega) j h3)
  have edge_listed:∀ {i:Nat} {o:Oper} {listed:Array Bool} {j:Nat},i∈Region.ready .any ops.toArray listed→ops[i]? = some o→edgeTo o j=true→listed.getD j false=true:=by
    intro i o listed j hi ho he;obtain ⟨_,o',ho',hall⟩:=mem_ready.1 hi;rw [hge,ho] at ho';obtain rfl:=Option.some.inj ho';simp only [edgeTo,List.any_eq_true,Bool.and_eq_true] at he;obtain ⟨e,hm',hb,hj⟩:=he;obtain rfl:=Nat.eq_of_beq_eq_true hj;exact hall e (by simpa using hm') hb
  have reach_listed:∀ {listed:Array Bool},(∀ (j:Nat) o,ops[j]? = some o→listed.getD j false=true→∀ e∈o.after,Region.binds .any e=true→listed.getD e.on false=true)→∀ i j,Reach ops i j→(∀ o m,ops[i]? = some o→edgeTo o m=true→listed.getD m false=true)→listed.getD j false=true:=by
    intro listed hcl i j hr
    induction hr with
    | one ho he=>intro h;exact h _ _ ho he
    | more ho he _ ih =>
      intro h;have hm':=h _ _ ho he;refine ih (fun o m ho2 he2=>?_);simp only [edgeTo,List.any_eq_true,Bool.and_eq_true] at he2;obtain ⟨e,hin,hb,hj⟩:=he2;obtain rfl:=Nat.eq_of_beq_eq_true hj;exact hcl _ o ho2 hm' e (by simpa using hin) hb
  have tail:∀ (f m:Nat) (listed:Array Bool) (a:Act) (w:World),k≤m→ops.length - m≤f→(∀ j,j<m→j<ops.length→listed.getD j false=true)→(∀ j,m≤j→j<ops.length→listed.getD j true=false)→
      wpList P ops.toArray Q (ops.drop m) a w→wpAny P .any ops.toArray Q f listed a w:=by
    intro f
    induction f with
    | zero =>
      intro m listed a w hkm hf h1 h2 h;rw [List.drop_eq_nil_of_le (by omega)] at h;refine ⟨?_,h⟩
      cases hr:Region.ready .any ops.toArray listed with
      | nil=>rfl
      | cons i r =>
        obtain ⟨g1,o,ho,_⟩:=mem_ready.1 (hr ▸ List.mem_cons_self .. : i∈Region.ready .any ops.toArray listed);rw [hge] at ho;have hi:=(List.getElem?_eq_some_iff.1 ho).1;have:=h1 i (by omega) hi
        simp [Array.getD_eq_getD_getElem?] at this g1
        cases hh:listed[i]?<;>simp [hh] at this g1
        rw [this] at g1;cases g1
    | succ f ih =>
      intro m listed a w hkm hf h1 h2 h;have only:∀ i∈Region.ready .any ops.toArray listed,i=m:=by
        intro i hi;obtain ⟨g1,o,ho,hall⟩:=mem_ready.1 hi;have ho':=ho;rw [hge] at ho';have hil:=(List.getElem?_eq_some_iff.1 ho').1
        by_cases hlt:i<m
        · have:=h1 i hlt hil
          simp [Array.getD_eq_getD_getElem?] at this g1
          cases hh:listed[i]?<;>simp [hh] at this g1
          rw [this] at g1;cases g1
        · by_cases e:i=m
          · exact e
          · have:=reach_listed (listed:=listed) (fun j o hj hl e he hbnd=>by
                have hjl:=(List.getElem?_eq_some_iff.1 hj).1;have hjm:j<m:=by
                  rcases Nat.lt_or_ge j m with h | h
                  · exact h
                  · have h3:=h2 j h hjl
                    simp [Array.getD_eq_getD_getElem?] at hl h3
                    cases hh:listed[j]?<;>simp [hh] at hl h3
                    rw [hl] at h3;cases h3
                have:=edgesBack_spec hback j o hj e he hbnd;exact h1 e.on (by omega) (by omega)) i m (hreach i m (by omega) hil (by omega)) (fun o2 q ho2 he2=>by
                rw [ho'] at ho2;obtain rfl:=Option.some.inj ho2;exact edge_listed hi ho' he2)
            have h3:=h2 m (Nat.le_refl _) (by omega)
            simp [Array.getD_eq_getD_getElem?] at this h3
            cases hh:listed[m]?<;>simp [hh] at this h3
            rw [this] at h3;cases h3
      refine ⟨fun hr=>?_,fun i hi=>?_⟩
      · by_cases hml:m<ops.length
        · exfalso
          have:m∈Region.ready .any ops.toArray listed:=by
            refine mem_ready.2 ⟨h2 m (Nat.le_refl _) hml,ops[m],by simp [hml],fun e he hbnd=>?_⟩;have:=edgesBack_spec hback m ops[m] (by simp [hml]) e he hbnd;exact h1 e.on (by omega) (by omega)
          rw [hr] at this;cases this
        · rw [List.drop_eq_nil_of_le (by omega)] at h;exact h
      · obtain rfl:=only i hi
        obtain ⟨g1,o,ho,_⟩:=mem_ready.1 hi;rw [hge] at ho;have hil:=(List.getElem?_eq_some_iff.1 ho).1;have hdrop:ops.drop i=o::ops.drop (i+1):=by
          rw [List.drop_eq_getElem_cons hil];congr 1;exact (List.getElem?_eq_some_iff.1 ho).2
        rw [hdrop] at h;have K:∀ a w,wpList P ops.toArray Q (ops.drop (i+1)) a w→wpAny P .any ops.toArray Q f (listed.setIfInBounds i true) a w:=by
          intro a w hh;refine ih (i+1) _ a w (by omega) (by omega) (fun j hj hjl=>?_) (fun j hj hjl=>?_) hh
          · by_cases e:i=j
            · subst e
              have hsz:i<listed.size:=by
                rcases Nat.lt_or_ge i listed.size with h' | h'
                · exact h'
                · simp [Array.getElem?_eq_none h'] at g1
              simp [hsz]
            · rw [getD_set_ne false e];exact h1 j (by omega) hjl
          · rw [getD_set_ne true (by omega)];exact h2 j (by omega) hjl
        unfold wpOp
        rw [hge,ho]
        unfold wpList at h
        show (if Region.wanted o (yielded ops.toArray a.tmps) then _ else _)
        split
        · rename_i hw
          rw [if_pos hw] at h;exact h.imp (Oper.wp_mono K) (fun x=>x)
        · rename_i hw
          rw [if_neg hw] at h;exact K _ _ h
  have head:∀ (f:Nat) (listed:Array Bool) (a:Act) (w:World) (g:G),listed.size=ops.length→(List.range ops.length).countP (fun i=>!listed.getD i true)≤f→(∀ j,k≤j→j<ops.length→listed.getD j true=false)→(∀ (j:Nat) o,ops[j]? = some o→listed.getD j false=true→∀ e∈o.after,Region.binds .any e=true→listed.getD e.on false=true)→
      Fr n a F→S g w→(∀ i,i<k→i<ops.length→listed.getD i false=true→φ i g (a.tmps.getD (dstOf ops i) undef) w)→wpAny P .any ops.toArray Q f listed a w:=by
    intro f
    induction f with
    | zero =>
      intro listed a w g hsz hc h2 hcl hF hS hφ';have all:∀ j,j<ops.length→listed.getD j true=true:=by
        intro j hj;have h0:(List.range ops.length).countP (fun i=>!listed.getD i true)=0:=by omega
        have:=List.countP_eq_zero.1 h0 j (by simpa using hj)
        simpa using this
      have hlen:ops.length≤k:=by
        rcases Nat.lt_or_ge k ops.length with h | h
        · have e1:=h2 k (Nat.le_refl _) h
          rw [all k h] at e1;cases e1
        · exact h
      refine tail 0 k listed a w (Nat.le_refl _) (by omega) (fun j _ hj=>?_) (fun j hj hjl=>by omega) ?_
      · have:=all j hj
        have hjs:j<listed.size:=by omega
        simpa [Array.getD_eq_getD_getElem?,hjs] using this
      · refine hend a w g hF hS (fun i hi hil=>hφ' i hi hil ?_)
        have:=all i hil;have hjs:i<listed.size:=by omega
        simpa [Array.getD_eq_getD_getElem?,hjs] using this
    | succ f ih =>
      intro listed a w g hsz hc h2 hcl hF hS hφ'
      by_cases all:∀ j,j<k→j<ops.length→listed.getD j false=true
      · refine tail (f+1) k listed a w (Nat.le_refl _) ?_ all h2 (hend a w g hF hS (fun i hi hil=>hφ' i hi hil (all i hi hil)))
        have hge':∀ (m:Nat),m≤ops.length→m - k≤(List.range m).countP (fun i=>!listed.getD i true):=by
          intro m
          induction m with
          | zero=>intro _;simp
          | succ m ihm =>
            intro hm';have:=ihm (by omega);rw [List.range_succ,List.countP_append]
            by_cases hkm:k≤m
            · have e1:=h2 m hkm (by omega)
              have e2:List.countP (fun i=>!listed.getD i true) [m]=1:=by rw [List.countP_cons,e1];rfl
              omega
            · omega
        have:=hge' ops.length (Nat.le_refl _)
        omega
      · have step:∀ i∈Region.ready .any ops.toArray listed,i<k:=by
          intro i hi
          rcases Nat.lt_or_ge i k with h | h
          · exact h
          · exfalso
            obtain ⟨g1,o,ho,_⟩:=mem_ready.1 hi;rw [hge] at ho;have hil:=(List.getElem?_eq_some_iff.1 ho).1;exact all (fun j hj hjl=>reach_listed hcl i j (hreach i j h hil (by omega)) (fun o2 q ho2 he2=>by
              rw [ho] at ho2;obtain rfl:=Option.some.inj ho2;exact edge_listed hi ho he2))
        refine ⟨fun hr=>?_,fun i hi=>?_⟩
        · exfalso
          apply all
          intro j
          induction j using Nat.strongRecOn with
          | _ j ihj =>
            intro hjk hjl
            cases hl:listed.getD j false with
            | true=>rfl
            | false =>
              have hjs:j<listed.size:=by omega
              have hm':j∈Region.ready .any ops.toArray listed:=by
                refine mem_ready.2 ⟨?_,ops[j],by simp [hjl],fun e he hbnd=>?_⟩
                · simpa [Array.getD_eq_getD_getElem?,hjs] using hl
                · have:=edgesBack_spec hback j ops[j] (by simp [hjl]) e he hbnd
                  exact ihj e.on (by omega) (by omega) (by omega)
              rw [hr] at hm';cases hm'
        · have hik:=step i hi
          obtain ⟨g1,o,ho,hall'⟩:=mem_ready.1 hi;rw [hge] at ho;have hil:=(List.getElem?_eq_some_iff.1 ho).1;have hti:(ops.take k)[i]? = some o:=by rw [List.getElem?_take,if_pos hik];exact ho
          obtain ⟨d,hd1,hd2,hd3,_,hd5⟩:=dstsOkQ_spec hdst i o hti;have hdo:dstOf ops i=d:=by simp [dstOf,ho,hd1]
          have hdne:∀ j,j<k→j<ops.length→j≠i→dstOf ops j≠d:=by
            intro j hj hjl hne e;have hoj:ops[j]? = some ops[j]:=by simp [hjl]
            have htj:(ops.take k)[j]? = some ops[j]:=by rw [List.getElem?_take,if_pos hj];exact hoj
            obtain ⟨d',e1,_,_,_,e5⟩:=dstsOkQ_spec hdst j ops[j] htj;have hdj:dstOf ops j=d':=by simp only [dstOf,hoj,Option.bind_some,e1,Option.getD_some]
            have hdd:d'=d:=by rw [← hdj];exact e
            subst hdd
            rcases Nat.lt_or_gt_of_ne hne with h | h
            · exact hd5 j ops[j] h htj e1
            · exact e5 i o h hti hd1
          have hdoes:=StepsQ.get hsteps i o hti a w g hF hS (fun j hj he=>by
            have hj':j<k:=Nat.blt_eq.mp hj;have hl:=edge_listed hi ho he;have hjl:j<ops.length:=by
              rcases Nat.lt_or_ge j listed.size with h | h
              · omega
              · simp [Array.getElem?_eq_none h] at hl
            exact hφ' j hj' hjl hl)
          unfold wpOp
          rw [hge,ho]
          show (if Region.wanted o (yielded ops.toArray a.tmps) then _ else _)
          simp only [Nat.zero_add] at hdoes;have cont:∀ v w',After S φ i g w v w'→wpAny P .any ops.toArray Q f (listed.setIfInBounds i true) (a.put o.dst v) w':=by
            intro v w' hv;obtain ⟨g',hS',hvi,hothers⟩:=hv;have hF':Fr n (a.put o.dst v) F:=by
              rw [hd1];have:=hF.put d v (Nat.blt_eq.mpr hd2);refine ⟨this.defers,this.size,fun t u ht=>this.get t u ?_⟩;simp only [lk];have hne:¬ d=t:=fun e=>by subst e;rw [hd3] at ht;cases ht
              rw [beqF hne];exact ht
            refine ih _ _ _ g' (by simpa using hsz) ?_ (fun j hj hjl=>?_) (fun j oj hoj hl e he hb=>?_) hF' hS' (fun j hj hjl hl=>?_)
            · have:(List.range ops.length).countP (fun j=>!(listed.setIfInBounds i true).getD j true)<(List.range ops.length).countP (fun j=>!listed.getD j true):=by
                refine countP_lt (fun x hx=>?_) ⟨i,by simpa using hil,by simpa using g1,?_⟩
                · by_cases e:i=x
                  · subst e;simp only [g1];rfl
                  · rw [getD_set_ne true e] at hx;exact hx
                · have:i<listed.size:=by omega
                  simp [this]
              omega
            · rw [getD_set_ne true (by omega)];exact h2 j hj hjl
            · refine getD_set_true ?_
              by_cases ej:j=i
              · subst ej
                rw [ho] at hoj;obtain rfl:=Option.some.inj hoj;exact hall' e he hb
              · rw [getD_set_ne false (Ne.symm ej)] at hl
                exact hcl j oj hoj hl e he hb
            · by_cases e:j=i
              · subst e
                rw [hd1,hdo];have:(a.put (some d) v).tmps.getD d undef=v:=by simp [Act.put,hF.size,hd2]
                rw [this];exact hvi
              · rw [getD_set_ne false (Ne.symm e)] at hl
                have hold:=hothers j _ e (hφ' j hj hjl hl);have hdn:=hdne j hj hjl e;rw [hd1];have:(a.put (some d) v).tmps.getD (dstOf ops j) undef=a.tmps.getD (dstOf ops j) undef:=by
                  simp [Act.put,Array.getElem?_setIfInBounds_ne (Ne.symm hdn)]
                rw [this];exact hold
          by_cases hw:Region.wanted o (yielded ops.toArray a.tmps)=true
          · rw [if_pos hw] at hdoes ⊢;exact .inl (hdoes.run _ _ cont)
          · rw [if_neg hw] at hdoes ⊢;exact cont _ _ hdoes
  refine head ops.toArray.size (Array.replicate ops.toArray.size false) a _ g (by simp) ?_ (fun j _ hj=>by simp [hj]) (fun j o hj hl e he hbnd=>by have hjl:=(List.getElem?_eq_some_iff.1 hj).1;simp [hjl] at hl) hF (hdr _ hS) (fun i _ hi hl=>by simp [hi] at hl)
  · have:=List.countP_le_length (l:=List.range ops.length) (p:=fun i=>!(Array.replicate ops.toArray.size false).getD i true)
    simpa using this
theorem q_none {o:Oper}{a:Act}{w:World}{S:G→World→Prop}{φ:Facts G}{i:Nat}{g:G}(hg:o.guard=none)(h:Does P o a w (After S φ i g w)):if Region.wanted o (yielded ops.toArray a.tmps)=true then Does P o a w (After S φ i g w) else After S φ i g w undef w:=by
  rw [if_pos (by simp [Region.wanted,hg])];exact h
theorem q_yes {o:Oper}{a:Act}{w:World}{S:G→World→Prop}{φ:Facts G}{i j dj:Nat}{b:Bool}{g:G}{F':List (Nat×Value)}(hg:o.guard=some (j,b))(hF:Fr n a F')(hj:(ops.toArray[j]?).bind (·.dst)=some dj)(hjn:Nat.blt dj n=true)(hb:lk F' dj=some (.bool b))(h:Does P o a w (After S φ i g w)):if Region.wanted o (yielded ops.toArray a.tmps)=true then Does P o a w (After S φ i g w) else After S φ i g w undef w:=by
  rw [if_pos (by simp [Region.wanted,hg,yielded_of hF hj hjn hb])];exact h
theorem q_no {o:Oper}{a:Act}{w:World}{S:G→World→Prop}{φ:Facts G}{i j dj:Nat}{b c:Bool}{g:G}{F':List (Nat×Value)}(hg:o.guard=some (j,c))(hF:Fr n a F')(hj:(ops.toArray[j]?).bind (·.dst)=some dj)(hjn:Nat.blt dj n=true)(hb:lk F' dj=some (.bool b))(hbc:(b == c)=false)(h:After S φ i g w undef w):if Region.wanted o (yielded ops.toArray a.tmps)=true then Does P o a w (After S φ i g w) else After S φ i g w undef w:=by
  rw [if_neg (by simp [Region.wanted,hg,yielded_of hF hj hjn hb];intro e;subst e;simp at hbc)];exact h
end
theorem gives_eq {P:Program}{o:Oper}{a:Act}{w:World}{v v':Value}(h:Gives P o a w v)(e:v=v'):Gives P o a w v':=e ▸ h
theorem c_parQ {P:Program}{ops:List Oper}{Q:Exit→Act→World→Prop}{n:Nat}{F:List (Nat×Value)}{X:List Nat}{w0:World}{L0:Own}{D:Froz}{id:Nat}{a:Act}{w:World}(k:Nat)(W:List Nat)(l:List Fact)(hm:P.follows .mixedOrders=true)(hk:tailOk ops k=true)(hF:Fr n a F)(hdst:dstsOkQ n F (ops.take k) []=true)(hM:MemX X w0 w L0 D)
    (hsteps:StepsQ P ops k n F (Par X w0 D W L0) (factsOf l) (ops.take k) 0)
    (hend:∀ a w L,Fr n a F→Par X w0 D W L0 L w→(∀ i,Nat.blt i k=true→Nat.blt i ops.length=true→factsOf l i L (a.tmps.getD (dstOf ops i) undef) w)→wpList P ops.toArray Q (ops.drop k) a w) :
    (Code.region id ops.toArray true).wp P Q a w:=
  c_drawQ (S:=Par X w0 D W L0) hm hk hF hdst L0 ⟨hM,Same.refl _ _⟩ (fun _ h=>⟨h.1.ext (Below.drew (Below.refl _ _)),h.2⟩) (factsOf l) hsteps
    (fun a w L hF hS hq=>hend a w L hF hS fun i h1 h2=>hq i (Nat.blt_eq.mp h1) (Nat.blt_eq.mp h2))
end Go.Sw
namespace Go.Sw
open Go Go.RowKit
inductive FactE where
  | val (v:Value)
  | frz (c:Array Value) (mk:Nat→Value)
  | own (mk:Nat→Value)
def factsE (kt:Nat) (l:List FactE):Facts (Own×Froz):=fun i g u _=>match l[i]? with
  | some (.val v)=>u=v
  | some (.frz c mk)=>∃ b,(b,c)∈g.2∧u=mk b
  | some (.own mk)=>∃ b cs,u=mk b∧g.1[kt]? = some (some (b,cs))
  | none=>True
def inE (c:Option (Array Value)) (b:Nat) (E:Froz):Prop:=match c with
  | none=>True
  | some c=>(b,c)∈E
theorem inE.more {c:Option (Array Value)}{b:Nat}{E:Froz}(h:inE c b E)(x:Nat×Array Value):inE c b (x::E):=by
  cases c with
  | none=>trivial
  | some c=>exact List.mem_cons_of_mem _ h
def ParE (X:List Nat) (w0:World) (D:Froz) (L0:Own) (kt:Nat) (csO:Array Value) (c3:Option (Array Value)) (csN:Nat→Array Value) (bb:Bool) (g:Own×Froz) (w:World):Prop:=
  (MemX X w0 w g.1 (g.2++D)∧Same [kt] L0 g.1)∧∀ b cs,g.1[kt]? = some (some (b,cs))→(bb=false→cs=csO)∧(bb=true→∃ x,inE c3 x g.2∧cs=csN x)
section
variable {P : Program} {X : List Nat} {w0 w : World} {D : Froz} {L0 : Own} {g : Own × Froz} {kt : Nat} {csO : Array Value} {c3 : Option (Array Value)} {csN : Nat → Array Value} {bb : Bool} {l : List FactE} {i : Nat} {o : Oper} {a : Act}
def ownOnly:List FactE→Nat→Nat→Bool
  | [],_,_=>true
  | .own _::r,i,s=>Nat.beq s i && ownOnly r i (s+1)
  | _::r,i,s=>ownOnly r i (s+1)
end
theorem MemX.keep0 {X:List Nat}{w0 w:World}{L:Own}{D E:Froz}(h:MemX X w0 w L (E++D)):MemX X w0 w L D:=h.sub _ fun x hx=>List.mem_append_right _ hx
end Go.Sw
namespace Go.Sw
open Go Go.RowKit
end Go.Sw
namespace Go.Sw
open Go Go.RowKit
def rowP (N K:Nat) (f:Nat→Nat) (x:Nat→Value):Array Value:=fnC K (fun c=>if c<N then .int .u8 (f c:Int) else x c)
section
variable {N K o : Nat} {f g : Nat → Nat} {x : Nat → Value}
theorem rowP_congr (h:∀ c,c<N→f c=g c):rowP N K f x=rowP N K g x:=fnC_congr fun c _=>by
  by_cases hc:c<N
  · rw [if_pos hc,if_pos hc,h c hc]
  · rw [if_neg hc,if_neg hc]
theorem SlAt.rowP {v:Value}{b cap:Nat}{cs:Array Value}(h:SlAt 1 v (some (b,cs)) N b cap cs (fun c=>.int .u8 (f c:Int))):cs=rowP N cap f (fun c=>cs[c]?.getD undef):=
  fnC_ext (by rw [h.sz,Nat.mul_one]) fun i hi=>by
    by_cases e:i<N
    · rw [if_pos e];exact h.get i (by omega)
    · rw [if_neg e]
      have:i<cs.size:=by rw [h.sz];omega
      simp [this]
end
structure RowsLP (L:Own) (N m:Nat) (κ:Nat→Nat) (Xs:Nat→Nat→Value) (γ pos:Nat→Nat) (M:Nat→Nat→Nat):Prop where
  at_:∀ i,i<m→L[pos i]? = some (some (γ i,rowP N (κ (γ i)) (M i) (Xs (γ i))))
  inj:∀ i j,i<m→j<m→pos i=pos j→i=j
  ne0:∀ i,i<m→pos i≠0
namespace RowsLP
variable {L : Own} {N m : Nat} {κ : Nat → Nat} {Xs : Nat → Nat → Value} {γ pos : Nat → Nat} {M : Nat → Nat → Nat}
theorem set0 (h:RowsLP L N m κ Xs γ pos M)(x:Option (Nat×Array Value)):RowsLP (L.set 0 x) N m κ Xs γ pos M:=
  ⟨fun i hi=>by rw [List.getElem?_set,if_neg (fun e=>h.ne0 i hi e.symm)];exact h.at_ i hi,h.inj,h.ne0⟩
theorem setRow (h:RowsLP L N m κ Xs γ pos M){i:Nat}(hi:i<m)(r:Nat→Nat){cs:Array Value}(hc:cs=rowP N (κ (γ i)) r (Xs (γ i))):RowsLP (L.set (pos i) (some (γ i,cs))) N m κ Xs γ pos (Go.Ech.upE M i r):=
  ⟨fun j hj=>by
    rw [List.getElem?_set]
    by_cases e:j=i
    · subst e
      have hl:=(List.getElem?_eq_some_iff.1 (h.at_ j hj)).1
      rw [if_pos rfl,if_pos hl,hc];simp only [Go.Ech.upE,if_true]
    · rw [if_neg (fun e2=>e (h.inj _ _ hj hi e2.symm))];simp only [Go.Ech.upE,if_neg e];exact h.at_ j hj,h.inj,h.ne0⟩
theorem swap (h:RowsLP L N m κ Xs γ pos M){a b:Nat}(ha:a<m)(hb:b<m):RowsLP L N m κ Xs (Go.Ech.sw a b γ) (Go.Ech.sw a b pos) (Go.Ech.sw a b M):=by
  refine ⟨fun i hi=>?_,fun i j hi hj e=>?_,fun i hi=>?_⟩
  · unfold Go.Ech.sw;split
    · exact h.at_ b hb
    · split
      · exact h.at_ a ha
      · exact h.at_ i hi
  · unfold Go.Ech.sw at e
    by_cases e1:i=a<;>by_cases e2:i=b<;>by_cases e3:j=a<;>by_cases e4:j=b<;>simp only [e1,e2,e3,e4,if_true,if_false] at e<;>first | omega | (have:=h.inj _ _ hb ha e;omega) | (have:=h.inj _ _ ha hb e;omega) | (split at e<;>first | (have:=h.inj _ _ hb (by omega) e;omega) | (have:=h.inj _ _ ha (by omega) e;omega) | (have:=h.inj _ _ (by omega) (by omega) e;omega)) | (have:=h.inj _ _ (by omega) (by omega) e;omega)
  · unfold Go.Ech.sw;split
    · exact h.ne0 b hb
    · split
      · exact h.ne0 a ha
      · exact h.ne0 i hi
theorem congr {M':Nat→Nat→Nat}(h:RowsLP L N m κ Xs γ pos M)(e:∀ i,i<m→M i=M' i):RowsLP L N m κ Xs γ pos M':=
  ⟨fun i hi=>by rw [← e i hi];exact h.at_ i hi,h.inj,h.ne0⟩
theorem apart {X:List Nat}{w0 w:World}{D:Froz}(h:RowsLP L N m κ Xs γ pos M)(hM:MemX X w0 w L D){i j:Nat}(hi:i<m)(hj:j<m)(hne:i≠j):γ i≠γ j:=fun e=>by
  have h1:=h.at_ i hi
  have h2:=h.at_ j hj
  rw [e] at h1
  exact hne (h.inj i j hi hj (hM.apart _ _ _ _ _ h1 h2))
end RowsLP
def rowsLP0 (b0:Nat) (cs0:Array Value) (N m:Nat) (κ:Nat→Nat) (Xs:Nat→Nat→Value) (γ:Nat→Nat) (M:Nat→Nat→Nat):Own:=some (b0,cs0)::(List.range m).map (fun i=>some (γ i,rowP N (κ (γ i)) (M i) (Xs (γ i))))
end Go.Sw
namespace Go.Ech
open Go.Sw
def augI (F:Nat→Nat→Nat) (i c:Nat):Nat:=if c<6 then F i c else if c=6+i then 1 else 0
theorem mono_id {n:Nat}{ld:Nat→Nat}(hm:∀ i j,i<j→j<n→ld i<ld j)(hl:∀ i,i<n→ld i<n):∀ i,i<n→ld i=i:=by
  have h1:∀ i,i<n→i≤ld i:=by
    intro i
    induction i with
    | zero=>intro _;omega
    | succ i ih=>intro hi;have:=ih (by omega);have:=hm i (i+1) (by omega) hi;omega
  have h2:∀ d i,i+d+1=n→ld i+d<n:=by
    intro d
    induction d with
    | zero=>intro i hi;have:=hl i (by omega);omega
    | succ d ih=>intro i hi;have:=ih (i+1) (by omega);have:=hm i (i+1) (by omega) (by omega);omega
  intro i hi;have:=h1 i hi;have:=h2 (n - 1 - i) i (by omega)
  omega
def FullK (p n:Nat) (F:Nat→Nat→Nat):Prop:=∃ E ld,Rref p 6 E n ld∧∀ x,Ker p 6 E n x↔Ker p 6 F n x
theorem FullK.zero {p n:Nat}{F:Nat→Nat→Nat}(hp:2≤p)(hn:n≤6)(hF:∀ i c,n≤c→F i c=0)(h:FullK p n F){x:Nat→Int}(hx:Ker p 6 F n x)(h0:∀ d,n≤d→d<6→x d=0){c:Nat}(hc:c<n):(p:Int)∣x c:=by
  obtain ⟨E,ld,hR,hK⟩:=h;have hl:∀ i,i<n→ld i<n:=fun i hi=>Decidable.byContradiction fun hno=>
    no_lead (c:=ld i) hp hR hK (hR.lt i hi) (fun j _=>hF j _ (by omega)) ⟨i,hi,rfl⟩
  have hid:=mono_id hR.mono hl;have:=(hK x).2 hx c hc
  unfold dot at this
  rw [sI_one (a:=c) (by omega)] at this
  · have e:=hR.one c hc
    rw [hid c hc] at e
    simpa [ci,e] using this
  · intro d hd hne
    by_cases hdn:d<n
    · have:=hR.zero d c hdn hc hne
      rw [hid d hdn] at this
      simp [ci,this]
    · rw [h0 d (by omega) hd];simp
structure IsCop (p n:Nat) (F G:Nat→Nat→Nat):Prop where
  lt:∀ i j,G i j<p
  out:∀ i j,n≤i∨n≤j→G i j=0
  sol:∀ i,i<n→∀ j,j<n→(p:Int)∣sI (fun k=>(F i k:Int)*(G k j:Int)) n - (dl i j:Int)
theorem cop_col {p n:Nat}{F:Nat→Nat→Nat}(hp:2≤p)(hn:n≤6)(hF:∀ i c,n≤c→F i c=0)(h:FullK p n F){x y:Nat→Nat}{b:Nat→Int}(hx:∀ c,c<n→x c<p)(hy:∀ c,c<n→y c<p)(h1:∀ i,i<n→(p:Int)∣sI (fun k=>(F i k:Int)*(x k:Int)) n - b i)(h2:∀ i,i<n→(p:Int)∣sI (fun k=>(F i k:Int)*(y k:Int)) n - b i):∀ c,c<n→x c=y c:=by
  intro c hc;have hK:Ker p 6 F n (fun c=>if c<n then (x c:Int) - (y c:Int) else 0):=fun i hi=>by
    have h3:=Int.dvd_sub (h1 i hi) (h2 i hi);have e:dot 6 (ci (F i)) (fun c=>if c<n then (x c:Int) - (y c:Int) else 0)=sI (fun k=>(F i k:Int)*(x k:Int)) n - b i - (sI (fun k=>(F i k:Int)*(y k:Int)) n - b i):=by
      unfold dot
      rw [sI_cut hn (fun c h1 _=>by simp [show ¬ c<n by omega])];have:sI (fun k=>(F i k:Int)*(x k:Int)) n=sI (fun c=>ci (F i) c*(if c<n then (x c:Int) - (y c:Int) else 0)) n+sI (fun k=>(F i k:Int)*(y k:Int)) n:=by
        rw [← sI_add];exact sI_congr fun c hc=>by rw [if_pos hc];grind
      rw [this]
      show sI (fun c=>ci (F i) c*(if c<n then (x c:Int) - (y c:Int) else 0)) n=_
      omega
    rw [e];exact h3
  have:=h.zero hp hn hF hK (fun d h1 _=>by simp [show ¬ d<n by omega]) hc;simp only [if_pos hc] at this;exact eq_of_dvd (hx c hc) (hy c hc) this
theorem IsCop.unique {p n:Nat}{F G G':Nat→Nat→Nat}(hp:2≤p)(hn:n≤6)(hF:∀ i c,n≤c→F i c=0)(hf:FullK p n F)(h:IsCop p n F G)(h':IsCop p n F G'):G=G':=by
  funext i j
  by_cases e:n≤i∨n≤j
  · rw [h.out i j e,h'.out i j e]
  · exact cop_col hp hn hF hf (x:=fun k=>G k j) (y:=fun k=>G' k j) (b:=fun i=>(dl i j:Int)) (fun c _=>h.lt c j) (fun c _=>h'.lt c j) (fun i hi=>h.sol i hi j (by omega)) (fun i hi=>h'.sol i hi j (by omega)) i (by omega)
end Go.Ech
