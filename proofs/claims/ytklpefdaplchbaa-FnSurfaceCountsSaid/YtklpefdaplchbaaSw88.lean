import Derived.Test.YtklpefdaplchbaaSw6
import Derived.Test.YtklpefdaplchbaaSw85
import Derived.Test.YtklpefdaplchbaaSw38
import Derived.Test.YtklpefdaplchbaaSw9
set_option linter.unusedVariables false
set_option linter.unusedSimpArgs false
namespace Go.Sw
open Go Go.RowKit
variable {P : Program}
section
variable {ops : List Oper} {Q : Exit → Act → World → Prop} {n : Nat} {F : List (Nat × Value)} {G : Type} {S : G → World → Prop}
def dstsOkQ (n:Nat) (F:List (Nat×Value)):List Oper→List Nat→Bool
  | [],_=>true
  | o :: r, seen => (match o.dst with
    | some d=>Nat.blt d n && (lk F d).isNone && !(memNat d seen) && dstsOkQ n F r (d::seen)
    | none=>false)
theorem dstsOkQ_spec:∀ {l:List Oper} {seen:List Nat},dstsOkQ n F l seen=true→∀ (i:Nat) (o:Oper),l[i]? = some o→∃ d,o.dst=some d∧d<n∧lk F d=none∧d ∉ seen∧(∀ (j:Nat) (o':Oper),j<i→l[j]? = some o'→o'.dst≠some d)
  | [],_,_,i,o,h=>by simp at h
  | x :: r, seen, hb, i, o, h => by
    simp only [dstsOkQ] at hb
    cases hx:x.dst with
    | none=>simp [hx] at hb
    | some d =>
      simp only [hx,Bool.and_eq_true,Bool.not_eq_true',Option.isNone_iff_eq_none] at hb
      obtain ⟨⟨⟨h1,h2⟩,h3⟩,h4⟩:=hb
      cases i with
      | zero =>
        simp at h;subst h
        exact ⟨d,hx,Nat.blt_eq.mp h1,h2,(fun hm=>by rw [memNat_iff.2 hm] at h3;cases h3),(fun j o' hj=>by omega)⟩
      | succ i =>
        obtain ⟨d',g1,g2,g3,g4,g5⟩:=dstsOkQ_spec h4 i o (by simpa using h)
        refine ⟨d',g1,g2,g3,fun hm=>g4 (List.mem_cons_of_mem _ hm),fun j o' hj ho'=>?_⟩
        cases j with
        | zero=>simp at ho';subst ho';rw [hx];intro e;obtain rfl:=Option.some.inj e;exact g4 (List.mem_cons_self ..)
        | succ j=>exact g5 j o' (by omega) (by simpa using ho')
def StepsQ {G:Type} (P:Program) (ops:List Oper) (k n:Nat) (F:List (Nat×Value)) (S:G→World→Prop) (φ:Facts G):List Oper→Nat→Prop
  | [],_=>True
  | o::r,i=>(∀ a w g,Fr n a F→S g w→Deps ops k φ o g a w→if Region.wanted o (yielded ops.toArray a.tmps)=true then Does P o a w (After S φ i g w) else After S φ i g w undef w)∧StepsQ P ops k n F S φ r (i+1)
theorem StepsQ.get {k:Nat}{φ:Facts G}:∀ {l:List Oper} {i:Nat},StepsQ P ops k n F S φ l i→∀ (j:Nat) (o:Oper),l[j]? = some o→
    ∀ a w g,Fr n a F→S g w→Deps ops k φ o g a w→if Region.wanted o (yielded ops.toArray a.tmps)=true then Does P o a w (After S φ (i+j) g w) else After S φ (i+j) g w undef w
  | [],_,_,j,o,h=>by simp at h
  | x :: r, i, hs, j, o, h => by
    cases j with
    | zero=>simp at h;subst h;exact hs.1
    | succ j=>have:=hs.2.get j o (by simpa using h);rwa [show i+1+j=i+(j+1) by omega] at this
theorem c_drawQ {id k:Nat}{a:Act}{w:World}(hm:P.follows .mixedOrders=true)(hk:tailOk ops k=true)(hF:Fr n a F)(hdst:dstsOkQ n F (ops.take k) []=true)(g:G)(hS:S g w)
    (hdr:∀ w,S g w→S g w.drew) (φ:Facts G)
    (hsteps:StepsQ P ops k n F S φ (ops.take k) 0)
    (hend:∀ a w g,Fr n a F→S g w→(∀ i,i<k→i<ops.length→φ i g (a.tmps.getD (dstOf ops i) undef) w)→wpList P ops.toArray Q (ops.drop k) a w) :
    (Code.region id ops.toArray true).wp P Q a w:=by
  refine wp_region_any hm ?_;simp only [tailOk,Bool.and_eq_true] at hk;obtain ⟨hback,htail⟩:=hk;have hge:∀ (i:Nat),ops.toArray[i]? = ops[i]?:=fun i=>by simp
  have hreach:∀ i j,k≤i→i<ops.length→j<i→Reach ops i j:=fun i j h1 h2 h3=>
    masks_spec ops [] (fun i=>by simp) (fun m j h=>by simp at h) i j (bitsFrom_spec htail i h1 h2 (by omega) j h3)
  have edge_listed:∀ {i:Nat} {o:Oper} {listed:Array Bool} {j:Nat},i∈Region.ready .any ops.toArray listed→ops[i]? = some o→edgeTo o j=true→listed.getD j false=true:=by
    intro i o listed j hi ho he;obtain ⟨_,o',ho',hall⟩:=mem_ready.1 hi;rw [hge,ho] at ho';obtain rfl:=Option.some.inj ho';simp only [edgeTo,List.any_eq_true,Bool.and_eq_true] at he;obtain ⟨e,hm',hb,hj⟩:=he;obtain rfl:=Nat.eq_of_beq_eq_true hj;exact hall e (by simpa using hm') hb
  have reach_listed:∀ {listed:Array Bool},(∀ (j:Nat) o,ops[j]? = some o→listed.getD j false=true→∀ e∈o.after,Region.binds .any e=true→listed.getD e.on false=true)→∀ i j,Reach ops i j→(∀ o m,ops[i]? = some o→edgeTo o m=true→listed.getD m false=true)→listed.getD j false=true:=by
    intro listed hcl i j hr
    induction hr with
    | one ho he=>intro h;exact h _ _ ho he
    | more ho he _ ih =>
      intro h;have hm':=h _ _ ho he;refine ih (fun o m ho2 he2=>?_);simp only [edgeTo,List.any_eq_true,Bool.and_eq_true] at he2;obtain ⟨e,hin,hb,hj⟩:=he2;obtain rfl:=Nat.eq_of_beq_eq_true hj;exact hcl _ o ho2 hm' e (by simpa using hin) hb
  have tail:∀ (f m:Nat) (listed:Array Bool) (a:Act) (w:World),k≤m→ops.length - m≤f→(∀ j,j<m→j<ops.length→listed.getD j false=true)→(∀ j,m≤j→j<ops.length→listed.getD j true=false)→
      wpList P ops.toArray Q (ops.drop m) a w→wpAny P .any ops.toArray Q f listed a w:=by
    intro f
    induction f with
    | zero =>
      intro m listed a w hkm hf h1 h2 h;rw [List.drop_eq_nil_of_le (by omega)] at h;refine ⟨?_,h⟩
      cases hr:Region.ready .any ops.toArray listed with
      | nil=>rfl
      | cons i r =>
        obtain ⟨g1,o,ho,_⟩:=mem_ready.1 (hr ▸ List.mem_cons_self .. : i∈Region.ready .any ops.toArray listed);rw [hge] at ho;have hi:=(List.getElem?_eq_some_iff.1 ho).1;have:=h1 i (by omega) hi
        simp [Array.getD_eq_getD_getElem?] at this g1
        cases hh:listed[i]?<;>simp [hh] at this g1
        rw [this] at g1;cases g1
    | succ f ih =>
      intro m listed a w hkm hf h1 h2 h;have only:∀ i∈Region.ready .any ops.toArray listed,i=m:=by
        intro i hi;obtain ⟨g1,o,ho,hall⟩:=mem_ready.1 hi;have ho':=ho;rw [hge] at ho';have hil:=(List.getElem?_eq_some_iff.1 ho').1
        by_cases hlt:i<m
        · have:=h1 i hlt hil
          simp [Array.getD_eq_getD_getElem?] at this g1
          cases hh:listed[i]?<;>simp [hh] at this g1
          rw [this] at g1;cases g1
        · by_cases e:i=m
          · exact e
          · have:=reach_listed (listed:=listed) (fun j o hj hl e he hbnd=>by
                have hjl:=(List.getElem?_eq_some_iff.1 hj).1;have hjm:j<m:=by
                  rcases Nat.lt_or_ge j m with h | h
                  · exact h
                  · have h3:=h2 j h hjl
                    simp [Array.getD_eq_getD_getElem?] at hl h3
                    cases hh:listed[j]?<;>simp [hh] at hl h3
                    rw [hl] at h3;cases h3
                have:=edgesBack_spec hback j o hj e he hbnd;exact h1 e.on (by omega) (by omega)) i m (hreach i m (by omega) hil (by omega)) (fun o2 q ho2 he2=>by
                rw [ho'] at ho2;obtain rfl:=Option.some.inj ho2;exact edge_listed hi ho' he2)
            have h3:=h2 m (Nat.le_refl _) (by omega)
            simp [Array.getD_eq_getD_getElem?] at this h3
            cases hh:listed[m]?<;>simp [hh] at this h3
            rw [this] at h3;cases h3
      refine ⟨fun hr=>?_,fun i hi=>?_⟩
      · by_cases hml:m<ops.length
        · exfalso
          have:m∈Region.ready .any ops.toArray listed:=by
            refine mem_ready.2 ⟨h2 m (Nat.le_refl _) hml,ops[m],by simp [hml],fun e he hbnd=>?_⟩;have:=edgesBack_spec hback m ops[m] (by simp [hml]) e he hbnd;exact h1 e.on (by omega) (by omega)
          rw [hr] at this;cases this
        · rw [List.drop_eq_nil_of_le (by omega)] at h;exact h
      · obtain rfl:=only i hi
        obtain ⟨g1,o,ho,_⟩:=mem_ready.1 hi;rw [hge] at ho;have hil:=(List.getElem?_eq_some_iff.1 ho).1;have hdrop:ops.drop i=o::ops.drop (i+1):=by
          rw [List.drop_eq_getElem_cons hil];congr 1;exact (List.getElem?_eq_some_iff.1 ho).2
        rw [hdrop] at h;have K:∀ a w,wpList P ops.toArray Q (ops.drop (i+1)) a w→wpAny P .any ops.toArray Q f (listed.setIfInBounds i true) a w:=by
          intro a w hh;refine ih (i+1) _ a w (by omega) (by omega) (fun j hj hjl=>?_) (fun j hj hjl=>?_) hh
          · by_cases e:i=j
            · subst e
              have hsz:i<listed.size:=by
                rcases Nat.lt_or_ge i listed.size with h' | h'
                · exact h'
                · simp [Array.getElem?_eq_none h'] at g1
              simp [hsz]
            · rw [getD_set_ne false e];exact h1 j (by omega) hjl
          · rw [getD_set_ne true (by omega)];exact h2 j (by omega) hjl
        unfold wpOp
        rw [hge,ho]
        unfold wpList at h
        show (if Region.wanted o (yielded ops.toArray a.tmps) then _ else _)
        split
        · rename_i hw
          rw [if_pos hw] at h;exact h.imp (Oper.wp_mono K) (fun x=>x)
        · rename_i hw
          rw [if_neg hw] at h;exact K _ _ h
  have head:∀ (f:Nat) (listed:Array Bool) (a:Act) (w:World) (g:G),listed.size=ops.length→(List.range ops.length).countP (fun i=>!listed.getD i true)≤f→(∀ j,k≤j→j<ops.length→listed.getD j true=false)→(∀ (j:Nat) o,ops[j]? = some o→listed.getD j false=true→∀ e∈o.after,Region.binds .any e=true→listed.getD e.on false=true)→
      Fr n a F→S g w→(∀ i,i<k→i<ops.length→listed.getD i false=true→φ i g (a.tmps.getD (dstOf ops i) undef) w)→wpAny P .any ops.toArray Q f listed a w:=by
    intro f
    induction f with
    | zero =>
      intro listed a w g hsz hc h2 hcl hF hS hφ';have all:∀ j,j<ops.length→listed.getD j true=true:=by
        intro j hj;have h0:(List.range ops.length).countP (fun i=>!listed.getD i true)=0:=by omega
        have:=List.countP_eq_zero.1 h0 j (by simpa using hj)
        simpa using this
      have hlen:ops.length≤k:=by
        rcases Nat.lt_or_ge k ops.length with h | h
        · have e1:=h2 k (Nat.le_refl _) h
          rw [all k h] at e1;cases e1
        · exact h
      refine tail 0 k listed a w (Nat.le_refl _) (by omega) (fun j _ hj=>?_) (fun j hj hjl=>by omega) ?_
      · have:=all j hj
        have hjs:j<listed.size:=by omega
        simpa [Array.getD_eq_getD_getElem?,hjs] using this
      · refine hend a w g hF hS (fun i hi hil=>hφ' i hi hil ?_)
        have:=all i hil;have hjs:i<listed.size:=by omega
        simpa [Array.getD_eq_getD_getElem?,hjs] using this
    | succ f ih =>
      intro listed a w g hsz hc h2 hcl hF hS hφ'
      by_cases all:∀ j,j<k→j<ops.length→listed.getD j false=true
      · refine tail (f+1) k listed a w (Nat.le_refl _) ?_ all h2 (hend a w g hF hS (fun i hi hil=>hφ' i hi hil (all i hi hil)))
        have hge':∀ (m:Nat),m≤ops.length→m - k≤(List.range m).countP (fun i=>!listed.getD i true):=by
          intro m
          induction m with
          | zero=>intro _;simp
          | succ m ihm =>
            intro hm';have:=ihm (by omega);rw [List.range_succ,List.countP_append]
            by_cases hkm:k≤m
            · have e1:=h2 m hkm (by omega)
              have e2:List.countP (fun i=>!listed.getD i true) [m]=1:=by rw [List.countP_cons,e1];rfl
              omega
            · omega
        have:=hge' ops.length (Nat.le_refl _)
        omega
      · have step:∀ i∈Region.ready .any ops.toArray listed,i<k:=by
          intro i hi
          rcases Nat.lt_or_ge i k with h | h
          · exact h
          · exfalso
            obtain ⟨g1,o,ho,_⟩:=mem_ready.1 hi;rw [hge] at ho;have hil:=(List.getElem?_eq_some_iff.1 ho).1;exact all (fun j hj hjl=>reach_listed hcl i j (hreach i j h hil (by omega)) (fun o2 q ho2 he2=>by
              rw [ho] at ho2;obtain rfl:=Option.some.inj ho2;exact edge_listed hi ho he2))
        refine ⟨fun hr=>?_,fun i hi=>?_⟩
        · exfalso
          apply all
          intro j
          induction j using Nat.strongRecOn with
          | _ j ihj =>
            intro hjk hjl
            cases hl:listed.getD j false with
            | true=>rfl
            | false =>
              have hjs:j<listed.size:=by omega
              have hm':j∈Region.ready .any ops.toArray listed:=by
                refine mem_ready.2 ⟨?_,ops[j],by simp [hjl],fun e he hbnd=>?_⟩
                · simpa [Array.getD_eq_getD_getElem?,hjs] using hl
                · have:=edgesBack_spec hback j ops[j] (by simp [hjl]) e he hbnd
                  exact ihj e.on (by omega) (by omega) (by omega)
              rw [hr] at hm';cases hm'
        · have hik:=step i hi
          obtain ⟨g1,o,ho,hall'⟩:=mem_ready.1 hi;rw [hge] at ho;have hil:=(List.getElem?_eq_some_iff.1 ho).1;have hti:(ops.take k)[i]? = some o:=by rw [List.getElem?_take,if_pos hik];exact ho
          obtain ⟨d,hd1,hd2,hd3,_,hd5⟩:=dstsOkQ_spec hdst i o hti;have hdo:dstOf ops i=d:=by simp [dstOf,ho,hd1]
          have hdne:∀ j,j<k→j<ops.length→j≠i→dstOf ops j≠d:=by
            intro j hj hjl hne e;have hoj:ops[j]? = some ops[j]:=by simp [hjl]
            have htj:(ops.take k)[j]? = some ops[j]:=by rw [List.getElem?_take,if_pos hj];exact hoj
            obtain ⟨d',e1,_,_,_,e5⟩:=dstsOkQ_spec hdst j ops[j] htj;have hdj:dstOf ops j=d':=by simp only [dstOf,hoj,Option.bind_some,e1,Option.getD_some]
            have hdd:d'=d:=by rw [← hdj];exact e
            subst hdd
            rcases Nat.lt_or_gt_of_ne hne with h | h
            · exact hd5 j ops[j] h htj e1
            · exact e5 i o h hti hd1
          have hdoes:=StepsQ.get hsteps i o hti a w g hF hS (fun j hj he=>by
            have hj':j<k:=Nat.blt_eq.mp hj;have hl:=edge_listed hi ho he;have hjl:j<ops.length:=by
              rcases Nat.lt_or_ge j listed.size with h | h
              · omega
              · simp [Array.getElem?_eq_none h] at hl
            exact hφ' j hj' hjl hl)
          unfold wpOp
          rw [hge,ho]
          show (if Region.wanted o (yielded ops.toArray a.tmps) then _ else _)
          simp only [Nat.zero_add] at hdoes;have cont:∀ v w',After S φ i g w v w'→wpAny P .any ops.toArray Q f (listed.setIfInBounds i true) (a.put o.dst v) w':=by
            intro v w' hv;obtain ⟨g',hS',hvi,hothers⟩:=hv;have hF':Fr n (a.put o.dst v) F:=by
              rw [hd1];have:=hF.put d v (Nat.blt_eq.mpr hd2);refine ⟨this.defers,this.size,fun t u ht=>this.get t u ?_⟩;simp only [lk];have hne:¬ d=t:=fun e=>by subst e;rw [hd3] at ht;cases ht
              rw [beqF hne];exact ht
            refine ih _ _ _ g' (by simpa using hsz) ?_ (fun j hj hjl=>?_) (fun j oj hoj hl e he hb=>?_) hF' hS' (fun j hj hjl hl=>?_)
            · have:(List.range ops.length).countP (fun j=>!(listed.setIfInBounds i true).getD j true)<(List.range ops.length).countP (fun j=>!listed.getD j true):=by
                refine countP_lt (fun x hx=>?_) ⟨i,by simpa using hil,by simpa using g1,?_⟩
                · by_cases e:i=x
                  · subst e;simp only [g1];rfl
                  · rw [getD_set_ne true e] at hx;exact hx
                · have:i<listed.size:=by omega
                  simp [this]
              omega
            · rw [getD_set_ne true (by omega)];exact h2 j hj hjl
            · refine getD_set_true ?_
              by_cases ej:j=i
              · subst ej
                rw [ho] at hoj;obtain rfl:=Option.some.inj hoj;exact hall' e he hb
              · rw [getD_set_ne false (Ne.symm ej)] at hl
                exact hcl j oj hoj hl e he hb
            · by_cases e:j=i
              · subst e
                rw [hd1,hdo];have:(a.put (some d) v).tmps.getD d undef=v:=by simp [Act.put,hF.size,hd2]
                rw [this];exact hvi
              · rw [getD_set_ne false (Ne.symm e)] at hl
                have hold:=hothers j _ e (hφ' j hj hjl hl);have hdn:=hdne j hj hjl e;rw [hd1];have:(a.put (some d) v).tmps.getD (dstOf ops j) undef=a.tmps.getD (dstOf ops j) undef:=by
                  simp [Act.put,Array.getElem?_setIfInBounds_ne (Ne.symm hdn)]
                rw [this];exact hold
          by_cases hw:Region.wanted o (yielded ops.toArray a.tmps)=true
          · rw [if_pos hw] at hdoes ⊢;exact .inl (hdoes.run _ _ cont)
          · rw [if_neg hw] at hdoes ⊢;exact cont _ _ hdoes
  refine head ops.toArray.size (Array.replicate ops.toArray.size false) a _ g (by simp) ?_ (fun j _ hj=>by simp [hj]) (fun j o hj hl e he hbnd=>by have hjl:=(List.getElem?_eq_some_iff.1 hj).1;simp [hjl] at hl) hF (hdr _ hS) (fun i _ hi hl=>by simp [hi] at hl)
  · have:=List.countP_le_length (l:=List.range ops.length) (p:=fun i=>!(Array.replicate ops.toArray.size false).getD i true)
    simpa using this
theorem q_none {o:Oper}{a:Act}{w:World}{S:G→World→Prop}{φ:Facts G}{i:Nat}{g:G}(hg:o.guard=none)(h:Does P o a w (After S φ i g w)):if Region.wanted o (yielded ops.toArray a.tmps)=true then Does P o a w (After S φ i g w) else After S φ i g w undef w:=by
  rw [if_pos (by simp [Region.wanted,hg])];exact h
theorem q_yes {o:Oper}{a:Act}{w:World}{S:G→World→Prop}{φ:Facts G}{i j dj:Nat}{b:Bool}{g:G}{F':List (Nat×Value)}(hg:o.guard=some (j,b))(hF:Fr n a F')(hj:(ops.toArray[j]?).bind (·.dst)=some dj)(hjn:Nat.blt dj n=true)(hb:lk F' dj=some (.bool b))(h:Does P o a w (After S φ i g w)):if Region.wanted o (yielded ops.toArray a.tmps)=true then Does P o a w (After S φ i g w) else After S φ i g w undef w:=by
  rw [if_pos (by simp [Region.wanted,hg,yielded_of hF hj hjn hb])];exact h
theorem q_no {o:Oper}{a:Act}{w:World}{S:G→World→Prop}{φ:Facts G}{i j dj:Nat}{b c:Bool}{g:G}{F':List (Nat×Value)}(hg:o.guard=some (j,c))(hF:Fr n a F')(hj:(ops.toArray[j]?).bind (·.dst)=some dj)(hjn:Nat.blt dj n=true)(hb:lk F' dj=some (.bool b))(hbc:(b == c)=false)(h:After S φ i g w undef w):if Region.wanted o (yielded ops.toArray a.tmps)=true then Does P o a w (After S φ i g w) else After S φ i g w undef w:=by
  rw [if_neg (by simp [Region.wanted,hg,yielded_of hF hj hjn hb];intro e;subst e;simp at hbc)];exact h
end
theorem gives_eq {P:Program}{o:Oper}{a:Act}{w:World}{v v':Value}(h:Gives P o a w v)(e:v=v'):Gives P o a w v':=e ▸ h
theorem c_parQ {P:Program}{ops:List Oper}{Q:Exit→Act→World→Prop}{n:Nat}{F:List (Nat×Value)}{X:List Nat}{w0:World}{L0:Own}{D:Froz}{id:Nat}{a:Act}{w:World}(k:Nat)(W:List Nat)(l:List Fact)(hm:P.follows .mixedOrders=true)(hk:tailOk ops k=true)(hF:Fr n a F)(hdst:dstsOkQ n F (ops.take k) []=true)(hM:MemX X w0 w L0 D)
    (hsteps:StepsQ P ops k n F (Par X w0 D W L0) (factsOf l) (ops.take k) 0)
    (hend:∀ a w L,Fr n a F→Par X w0 D W L0 L w→(∀ i,Nat.blt i k=true→Nat.blt i ops.length=true→factsOf l i L (a.tmps.getD (dstOf ops i) undef) w)→wpList P ops.toArray Q (ops.drop k) a w) :
    (Code.region id ops.toArray true).wp P Q a w:=
  c_drawQ (S:=Par X w0 D W L0) hm hk hF hdst L0 ⟨hM,Same.refl _ _⟩ (fun _ h=>⟨h.1.ext (Below.drew (Below.refl _ _)),h.2⟩) (factsOf l) hsteps
    (fun a w L hF hS hq=>hend a w L hF hS fun i h1 h2=>hq i (Nat.blt_eq.mp h1) (Nat.blt_eq.mp h2))
end Go.Sw
namespace Go.Sw
open Go Go.RowKit
def rowW (cs:Array Value) (N:Nat) (D:Nat→Nat):Array Value:=fnC cs.size (fun c=>if c<N then .int .i64 (D c:Int) else (cs[c]?).getD undef)
def put1 (D:Nat→Nat) (j x i:Nat):Nat:=if i=j then x else D i
section
variable {cs : Array Value} {N : Nat} {D D' : Nat → Nat}
theorem rowW_size:(rowW cs N D).size=cs.size:=fnC_size _ _
theorem rowW_of {u:Value}{e:Option (Nat×Array Value)}{b cap:Nat}(h:SlAt 1 u e N b cap cs (fun c=>.int .i64 (D c:Int))):cs=rowW cs N D:=
  fnC_ext rfl fun i hi=>by
    by_cases e:i<N
    · rw [if_pos e];exact h.get i (by omega)
    · rw [if_neg e,Array.getElem?_eq_getElem hi];rfl
theorem rowW_get (hN:N≤cs.size){o:Nat}(c:Nat)(ho:o=c)(hc:c<N):(rowW cs N D)[o]? = some (.int .i64 (D c:Int)):=by
  subst ho;unfold rowW;rw [fnC_get (by omega),if_pos hc]
theorem rowW_put (_hN:N≤cs.size){o x:Nat}(j:Nat)(ho:o=j)(hj:j<N):(rowW cs N D).setIfInBounds o (.int .i64 (x:Int))=rowW cs N (put1 D j x):=by
  subst ho
  unfold rowW
  refine fnC_set fun c hc=>?_
  unfold put1
  by_cases e:c=o
  · subst e;rw [if_pos hj,if_pos rfl,if_pos rfl]
  · rw [if_neg e,if_neg e]
theorem rowW_sl {b cap m:Nat}(hm:m≤N)(hN:N≤cap)(hc:cap≤maxLen)(hs:cs.size=cap):SlAt 1 (.slice (some ⟨b,0,none⟩) m cap) (some (b,rowW cs N D)) m b cap (rowW cs N D) (fun c=>.int .i64 (D c:Int)):=
  ⟨rfl,rfl,by omega,hc,by rw [rowW_size];omega,fun i hi=>rowW_get (by omega) i rfl (by omega)⟩
end
section
variable {P : Program} {X : List Nat} {w0 w : World} {L : Own} {D : Froz} {n : Nat} {F : List (Nat × Value)} {a : Act} {d : Option Tmp} {T : TypeId} {t : TypeId} {pos : String} {af : Array Edge} {gd : Option (Nat × Bool)} {x y : Operand}
theorem d_storeQ {b o:Nat}{cs cs':Array Value}{v:Value}(k:Nat)(hM:MemX X w0 w L D)(hk:L[k]? = some (some (b,cs)))(hT:oneP P T=true)(hF:Fr n a F)(hx:look F x=some (ptr b o))(hy:look F y=some v)
    (h1:v.oneCell'=true) (ho:o<cs.size) (he:cs.setIfInBounds o v=cs') :
    Does P ⟨d,.store T x y,t,pos,af,gd⟩ a w (fun _ w'=>MemX X w0 w' (L.set k (some (b,cs'))) D):=by
  subst he;exact d_store k hM hk hT hF hx hy h1 ho
end
section
variable {P : Program} {X : List Nat} {w0 w : World} {L : Own} {D : Froz} {n : Nat} {F : List (Nat × Value)} {a : Act} {d : Option Tmp} {T : TypeId} {t : TypeId} {pos : String} {af : Array Edge} {gd : Option (Nat × Bool)} {x : Operand}
theorem d_clear {e:TypeId}{z:Value}{b o m c:Nat}{cs cs':Array Value}(k:Nat)(hM:MemX X w0 w L D)(hk:L[k]? = some (some (b,cs)))(ht:P.underlying T=some (.slice e))(hv:∀ w,(zeroValue e).run P w = .ok z w)(hz:z.cells = #[z])(h1:z.oneCell'=true)
    (hF:Fr n a F) (hx:look F x=some (.slice (some ⟨b,o,none⟩) m c)) (hm:0<m) (hs:o+m≤cs.size) (he:splice cs o (Array.replicate m z)=cs') :
    Does P ⟨d,.call { callee:=.builtin .clear,args:=#[x],argTypes:=#[T] },t,pos,af,gd⟩ a w (fun _ w'=>MemX X w0 w' (L.set k (some (b,cs'))) D):=
  ⟨fun K Q hK=>by
    obtain ⟨tt,hg⟩:=hM.row k hk
    have hst:=run_storeCells_at P b o tt (List.replicate m z) 0 cs w hg (by simpa using hs) (by intro v hv';rw [List.eq_of_mem_replicate hv'];exact h1)
    simp only [Nat.add_zero] at hst
    have hzc:(Builtin.zeroCells z.cells m).toList=List.replicate m z:=by
      rw [hz]
      simp [Builtin.zeroCells]
      apply List.ext_getElem
      · simp
      · intro i h1 h2
        simp [Nat.mod_one]
    have hsp:(List.take o cs.toList++List.replicate m z++List.drop (o+(List.replicate m z).length) cs.toList).toArray=cs':=by
      rw [← he];simp [splice]
    rw [hsp] at hst;obtain ⟨q,rfl⟩:∃ q,m=q+1:=⟨m - 1,by omega⟩;have hr:(Builtin.clear_ #[T] t #[.slice (some ⟨b,o,none⟩) (q+1) c]).run P w = .ok (.tuple #[]) (w.setRow b cs'):=by
      simp [Builtin.clear_,run_underlying ht,hv,hzc,hst]
    unfold Oper.wp execOp
    simp only [resolve,invoke,builtin,Sem.run_bind,Sem.run_pure,Result.andThen_ok,List.map_toArray,List.map_cons,List.map_nil,hF.eval hx];rw [hr];exact hK _ _ (hM.setRow k hk cs')⟩
end
theorem rowW_clear {cs:Array Value}{N k o m:Nat}{D:Nat→Nat}(hN:N≤cs.size)(ho:o=k)(hm:m=N - k)(hk:k≤N):splice (rowW cs N D) o (Array.replicate m (.int .i64 ((0:Nat):Int)))=rowW cs N (fun i=>if i<k then D i else 0):=by
  subst ho hm;have hs:(Array.replicate (N - o) (Value.int .i64 ((0:Nat):Int))).size=N - o:=by simp
  have hle:o+(Array.replicate (N - o) (Value.int .i64 ((0:Nat):Int))).size≤(rowW cs N D).size:=by rw [hs,rowW_size];omega
  refine fnC_ext (by rw [splice_size _ _ _ hle,rowW_size]) fun i hi=>?_;rw [splice_get _ _ _ _ hle,hs]
  by_cases e:o≤i∧i<o+(N - o)
  · rw [if_pos e,if_pos (by omega),Array.getElem?_replicate,if_pos (by omega)]
    dsimp only
    rw [if_neg (by omega)]
  · rw [if_neg e]
    unfold rowW
    rw [fnC_get hi]
    by_cases e2:i<N
    · rw [if_pos e2,if_pos e2];dsimp only;rw [if_pos (by omega)]
    · rw [if_neg e2,if_neg e2]
def SameSet (N:Nat) (D E:Nat→Nat):Prop:=∀ x,(∃ k,k<N∧D k=x)↔∃ k,k<N∧E k=x
theorem SameSet.rfl' {N:Nat}{D:Nat→Nat}:SameSet N D D:=fun _=>Iff.rfl
theorem SameSet.swap {N:Nat}{D E:Nat→Nat}(h:SameSet N D E){i j:Nat}(hi:i<N)(hj:j<N):SameSet N (put1 (put1 D j (D i)) i (D j)) E:=fun x=>by
  rw [← h x]
  have key:∀ k,put1 (put1 D j (D i)) i (D j) k=if k=i then D j else if k=j then D i else D k:=fun k=>rfl
  constructor
  · rintro ⟨k,hk,e⟩
    rw [key] at e
    by_cases e1:k=i
    · rw [if_pos e1] at e;exact ⟨j,hj,e⟩
    · rw [if_neg e1] at e
      by_cases e2:k=j
      · rw [if_pos e2] at e;exact ⟨i,hi,e⟩
      · rw [if_neg e2] at e;exact ⟨k,hk,e⟩
  · rintro ⟨k,hk,e⟩
    by_cases e1:k=i
    · subst e1
      by_cases e2:k=j
      · subst e2;exact ⟨k,hk,by rw [key,if_pos rfl];exact e⟩
      · exact ⟨j,hj,by rw [key,if_neg (fun q=>e2 q.symm),if_pos rfl];exact e⟩
    · by_cases e2:k=j
      · subst e2;exact ⟨i,hi,by rw [key,if_pos rfl];exact e⟩
      · exact ⟨k,hk,by rw [key,if_neg e1,if_neg e2];exact e⟩
def Asc (m:Nat) (D:Nat→Nat):Prop:=∀ a b,a<b→b<m→D a≤D b
def AscBut (m j:Nat) (D:Nat→Nat):Prop:=(∀ a b,a<b→b<m→a≠j→b≠j→D a≤D b)∧∀ b,j<b→b<m→D j≤D b
theorem AscBut.start {m:Nat}{D:Nat→Nat}(h:Asc m D):AscBut (m+1) m D:=⟨fun a b h1 h2 _ h4=>h a b h1 (by omega),fun b h1 h2=>absurd h2 (by omega)⟩
theorem AscBut.done {m j:Nat}{D:Nat→Nat}(h:AscBut m j D)(hj:j=0∨D (j - 1)≤D j):Asc m D:=fun a b h1 h2=>by
  by_cases e1:a=j
  · subst e1;exact h.2 b h1 h2
  · by_cases e2:b=j
    · subst e2
      rcases hj with e | hj
      · omega
      · by_cases e3:a=b - 1
        · subst e3;exact hj
        · exact Nat.le_trans (h.1 a (b - 1) (by omega) (by omega) e1 (by omega)) hj
    · exact h.1 a b h1 h2 e1 e2
theorem AscBut.step {m j:Nat}{D:Nat→Nat}(h:AscBut m j D)(hj0:0<j)(hjm:j<m)(hlt:D j<D (j - 1)):AscBut m (j - 1) (put1 (put1 D j (D (j - 1))) (j - 1) (D j)):=by
  have key:∀ k,put1 (put1 D j (D (j - 1))) (j - 1) (D j) k=if k=j - 1 then D j else if k=j then D (j - 1) else D k:=fun k=>rfl;refine ⟨fun a b h1 h2 h3 h4=>?_,fun b h1 h2=>?_⟩
  · rw [key,key,if_neg h3,if_neg h4]
    by_cases e1:a=j
    · rw [if_pos e1,if_neg (by omega)];exact h.1 (j - 1) b (by omega) h2 (by omega) (by omega)
    · rw [if_neg e1]
      by_cases e2:b=j
      · rw [if_pos e2];exact h.1 a (j - 1) (by omega) (by omega) e1 (by omega)
      · rw [if_neg e2];exact h.1 a b h1 h2 e1 e2
  · rw [key,key,if_pos rfl,if_neg (by omega)]
    by_cases e2:b=j
    · rw [if_pos e2];omega
    · rw [if_neg e2];exact h.2 b (by omega) h2
end Go.Sw
namespace Go.Sw
open Go Go.RowKit Go.Ech
def NumOut (w w':World) (m:Nat) (f:Nat→Nat) (v:Value):Prop:=∃ b c cs,v = .slice (some ⟨b,0,none⟩) m c∧w.heap.size≤b∧Blk w' b cs∧SlAt 1 v (some (b,cs)) m b c cs (fun k=>.int .i64 (f k:Int))
def endI (k:Int):Nat:=if 0<k then 2*k.natAbs - 1 else 2*k.natAbs - 2
def begI (k:Int):Nat:=if 0<k then 2*k.natAbs - 2 else 2*k.natAbs - 1
end Go.Sw
namespace Go.Sw
open Go Go.RowKit Go.Ech
open Classical in
noncomputable def findB (b:Nat):List MapEntry→Nat→Option (Nat×Value)
  | [],_=>none
  | e::es,i=>if e.key=ptr b 0 then some (i,e.val) else findB b es (i+1)
section
variable {P : Program} {n : Nat} {F : List (Nat × Value)} {a : Act} {w w0 : World} {d : Option Tmp} {t T kt et pe : TypeId} {pos : String} {af : Array Edge} {gd : Option (Nat × Bool)} {x y z' : Operand} {X : List Nat} {L : Own} {D : Froz}
end
structure MpP (es:List MapEntry) (ta:Nat→Nat) (m:Nat) (M:Nat→Option Bool):Prop where
  keys:∀ e,e∈es→∃ j,j<m∧e.key=ptr (ta j) 0
  val:∀ j,j<m→(findB (ta j) es 0).map (·.2)=(M j).map Value.bool
def upM (M:Nat→Option Bool) (i:Nat) (b:Bool) (j:Nat):Option Bool:=if j=i then some b else M j
end Go.Sw
namespace Go.Sw
open Go Go.RowKit Go.Ech
def alk (K:Nat→Int) (tw:Nat→Nat) (x:Nat):Bool:=decide (K x=K (tw x))
def nb (tw:Nat→Nat) (i s:Nat):Nat:=tw (i*3+s) / 3
def VO (m:Nat) (K:Nat→Int) (tw:Nat→Nat) (o:Nat→Bool):Prop:=∀ i,i<m→∀ s,s<3→o (nb tw i s)=decide (o i≠alk K tw (i*3+s))
def SubM (M M':Nat→Option Bool):Prop:=∀ j b,M j=some b→M' j=some b
def AgM (m:Nat) (o:Nat→Bool) (M:Nat→Option Bool):Prop:=∀ j,j<m→∀ b,M j=some b→o j=b
def unv (m:Nat) (M:Nat→Option Bool):Nat:=cnt (fun j=>(M j).isNone) m
inductive Cn (m:Nat) (tw:Nat→Nat) (i:Nat):Nat→Prop
  | refl:Cn m tw i i
  | step {j:Nat} (h:Cn m tw i j) (hj:j<m) (s:Nat) (hs:s<3):Cn m tw i (nb tw j s)
structure TP (m:Nat) (K:Nat→Int) (tw:Nat→Nat) (M:Nat→Option Bool) (i:Nat) (ov r:Bool) (M':Nat→Option Bool):Prop where
  sub:SubM M M'
  conn:∀ j,M j=none→M' j≠none→Cn m tw i j
  yes:r=true→M' i=some ov∧∀ j,j<m→M j=none→∀ b,M' j=some b→∀ q,q<3→M' (nb tw j q)=some (decide (b≠alk K tw (j*3+q)))
  ag:∀ o,VO m K tw o→AgM m o M→o i=ov→r=true∧AgM m o M'
structure TL (m:Nat) (K:Nat→Int) (tw:Nat→Nat) (M:Nat→Option Bool) (i:Nat) (ov:Bool) (s:Nat) (M2:Nat→Option Bool):Prop where
  sub:SubM (upM M i ov) M2
  clo:∀ j,j<m→upM M i ov j=none→∀ b,M2 j=some b→∀ q,q<3→M2 (nb tw j q)=some (decide (b≠alk K tw (j*3+q)))
  side:∀ q,q<s→M2 (nb tw i q)=some (decide (ov≠alk K tw (i*3+q)))
  conn:∀ j,upM M i ov j=none→M2 j≠none→Cn m tw i j
  ag:∀ o,VO m K tw o→AgM m o M→o i=ov→AgM m o M2
section
variable {m : Nat} {K : Nat → Int} {tw : Nat → Nat} {M M2 M3 : Nat → Option Bool} {i s : Nat} {ov : Bool}
end
end Go.Sw
