import Derived.Test.YtkcneleabbjkaaaSw6
import Derived.Test.YtkcneleabbjkaaaSw75
import Derived.Test.YtkcneleabbjkaaaSw21
import Derived.JoinedOf
import Derived.KernelRfl
set_option linter.unusedVariables false
set_option linter.unusedSimpArgs false
namespace Go.Sw
open Go Go.RowKit
variable {P : Program}
section
variable {ops : List Oper} {Q : Exit → Act → World → Prop} {n : Nat} {F : List (Nat × Value)} {G : Type} {S : G → World → Prop}
def Fk (n:Nat) (F:List (Nat×Value)):List Oper→List Nat→Bool
  | [],_=>true
  | o :: r, seen => (match o.dst with
    | some d=>Nat.blt d n && (lk F d).isNone && !(Cf d seen) && Fk n F r (d::seen)
    | none=>false)
theorem EP:∀ {l:List Oper} {seen:List Nat},Fk n F l seen=true→∀ (i:Nat) (o:Oper),l[i]? = some o→∃ d,o.dst=some d∧d<n∧lk F d=none∧d ∉ seen∧(∀ (j:Nat) (o':Oper),j<i→l[j]? = some o'→o'.dst≠some d)
  | [],_,_,i,o,h=>by simp at h
  | x :: r, seen, hb, i, o, h => by
    simp only [Fk] at hb
    cases hx:x.dst with
    | none=>simp [hx] at hb
    | some d =>
      simp only [hx,Bool.and_eq_true,Bool.not_eq_true',Option.isNone_iff_eq_none] at hb
      obtain ⟨⟨⟨h1,h2⟩,h3⟩,h4⟩:=hb
      cases i with
      | zero =>
        simp at h;subst h
        exact ⟨d,hx,Nat.blt_eq.mp h1,h2,(fun hm=>by rw [memNat_iff.2 hm] at h3;cases h3),(fun j o' hj=>by omega)⟩
      | succ i =>
        obtain ⟨d',g1,g2,g3,g4,g5⟩:=EP h4 i o (by simpa using h)
        refine ⟨d',g1,g2,g3,fun hm=>g4 (List.mem_cons_of_mem _ hm),fun j o' hj ho'=>?_⟩
        cases j with
        | zero=>simp at ho';subst ho';rw [hx];intro e;obtain rfl:=Option.some.inj e;exact g4 (List.mem_cons_self ..)
        | succ j=>exact g5 j o' (by omega) (by simpa using ho')
def StepsQ {G:Type} (P:Program) (ops:List Oper) (k n:Nat) (F:List (Nat×Value)) (S:G→World→Prop) (φ:Facts G):List Oper→Nat→Prop
  | [],_=>True
  | o::r,i=>(∀ a w g,Fr n a F→S g w→MV ops k φ o g a w→if Region.wanted o (yielded ops.toArray a.tmps)=true then Does P o a w (After S φ i g w) else After S φ i g w undef w)∧StepsQ P ops k n F S φ r (i+1)
theorem StepsQ.get {k:Nat}{φ:Facts G}:∀ {l:List Oper} {i:Nat},StepsQ P ops k n F S φ l i→∀ (j:Nat) (o:Oper),l[j]? = some o→
    ∀ a w g,Fr n a F→S g w→MV ops k φ o g a w→if Region.wanted o (yielded ops.toArray a.tmps)=true then Does P o a w (After S φ (i+j) g w) else After S φ (i+j) g w undef w
  | [],_,_,j,o,h=>by simp at h
  | x :: r, i, hs, j, o, h => by
    cases j with
    | zero=>simp at h;subst h;exact hs.1
    | succ j=>have:=hs.2.get j o (by simpa using h);rwa [show i+1+j=i+(j+1) by omega] at this
theorem MS {id k:Nat}{a:Act}{w:World}(hm:P.follows .mixedOrders=true)(hk:F9 ops k=true)(hF:Fr n a F)(hdst:Fk n F (ops.take k) []=true)(g:G)(hS:S g w)
    (hdr:∀ w,S g w→S g w.drew) (φ:Facts G)
    (hsteps:StepsQ P ops k n F S φ (ops.take k) 0)
    (hend:∀ a w g,Fr n a F→S g w→(∀ i,i<k→i<ops.length→φ i g (a.tmps.getD (BX ops i) undef) w)→wpList P ops.toArray Q (ops.drop k) a w) :
    (Code.region id ops.toArray true).wp P Q a w:=by
  refine wp_region_any hm ?_;simp only [F9,Bool.and_eq_true] at hk;obtain ⟨hback,htail⟩:=hk;have hge:∀ (i:Nat),ops.toArray[i]? = ops[i]?:=fun i=>by simp
  have hreach:∀ i j,k≤i→i<ops.length→j<i→Reach ops i j:=fun i j h1 h2 h3=>
    DC ops [] (fun i=>by simp) (fun m j h=>by simp at h) i j (Cd htail i h1 h2 (by omega) j h3)
  have edge_listed:∀ {i:Nat} {o:Oper} {listed:Array Bool} {j:Nat},i∈Region.ready .any ops.toArray listed→ops[i]? = some o→Bm o j=true→listed.getD j false=true:=by
    intro i o listed j hi ho he;obtain ⟨_,o',ho',hall⟩:=mem_ready.1 hi;rw [hge,ho] at ho';obtain rfl:=Option.some.inj ho';simp only [Bm,List.any_eq_true,Bool.and_eq_true] at he;obtain ⟨e,hm',hb,hj⟩:=he;obtain rfl:=Nat.eq_of_beq_eq_true hj;exact hall e (by simpa using hm') hb
  have reach_listed:∀ {listed:Array Bool},(∀ (j:Nat) o,ops[j]? = some o→listed.getD j false=true→∀ e∈o.after,Region.binds .any e=true→listed.getD e.on false=true)→∀ i j,Reach ops i j→(∀ o m,ops[i]? = some o→Bm o m=true→listed.getD m false=true)→listed.getD j false=true:=by
    intro listed hcl i j hr
    induction hr with
    | one ho he=>intro h;exact h _ _ ho he
    | more ho he _ ih =>
      intro h;have hm':=h _ _ ho he;refine ih (fun o m ho2 he2=>?_);simp only [Bm,List.any_eq_true,Bool.and_eq_true] at he2;obtain ⟨e,hin,hb,hj⟩:=he2;obtain rfl:=Nat.eq_of_beq_eq_true hj;exact hcl _ o ho2 hm' e (by simpa using hin) hb
  have tail:∀ (f m:Nat) (listed:Array Bool) (a:Act) (w:World),k≤m→ops.length - m≤f→(∀ j,j<m→j<ops.length→listed.getD j false=true)→(∀ j,m≤j→j<ops.length→listed.getD j true=false)→
      wpList P ops.toArray Q (ops.drop m) a w→wpAny P .any ops.toArray Q f listed a w:=by
    intro f
    induction f with
    | zero =>
      intro m listed a w hkm hf h1 h2 h;rw [List.drop_eq_nil_of_le (by omega)] at h;refine ⟨?_,h⟩
      cases hr:Region.ready .any ops.toArray listed with
      | nil=>rfl
      | cons i r =>
        obtain ⟨g1,o,ho,_⟩:=mem_ready.1 (hr ▸ List.mem_cons_self .. : i∈Region.ready .any ops.toArray listed);rw [hge] at ho;have hi:=(List.getElem?_eq_some_iff.1 ho).1;have:=h1 i (by omega) hi
        simp [Array.getD_eq_getD_getElem?] at this g1
        cases hh:listed[i]?<;>simp [hh] at this g1
        rw [this] at g1;cases g1
    | succ f ih =>
      intro m listed a w hkm hf h1 h2 h;have only:∀ i∈Region.ready .any ops.toArray listed,i=m:=by
        intro i hi;obtain ⟨g1,o,ho,hall⟩:=mem_ready.1 hi;have ho':=ho;rw [hge] at ho';have hil:=(List.getElem?_eq_some_iff.1 ho').1
        by_cases hlt:i<m
        · have:=h1 i hlt hil
          simp [Array.getD_eq_getD_getElem?] at this g1
          cases hh:listed[i]?<;>simp [hh] at this g1
          rw [this] at g1;cases g1
        · by_cases e:i=m
          · exact e
          · have:=reach_listed (listed:=listed) (fun j o hj hl e he hbnd=>by
                have hjl:=(List.getElem?_eq_some_iff.1 hj).1;have hjm:j<m:=by
                  rcases Nat.lt_or_ge j m with h | h
                  · exact h
                  · have h3:=h2 j h hjl
                    simp [Array.getD_eq_getD_getElem?] at hl h3
                    cases hh:listed[j]?<;>simp [hh] at hl h3
                    rw [hl] at h3;cases h3
                have:=CG hback j o hj e he hbnd;exact h1 e.on (by omega) (by omega)) i m (hreach i m (by omega) hil (by omega)) (fun o2 q ho2 he2=>by
                rw [ho'] at ho2;obtain rfl:=Option.some.inj ho2;exact edge_listed hi ho' he2)
            have h3:=h2 m (Nat.le_refl _) (by omega)
            simp [Array.getD_eq_getD_getElem?] at this h3
            cases hh:listed[m]?<;>simp [hh] at this h3
            rw [this] at h3;cases h3
      refine ⟨fun hr=>?_,fun i hi=>?_⟩
      · by_cases hml:m<ops.length
        · exfalso
          have:m∈Region.ready .any ops.toArray listed:=by
            refine mem_ready.2 ⟨h2 m (Nat.le_refl _) hml,ops[m],by simp [hml],fun e he hbnd=>?_⟩;have:=CG hback m ops[m] (by simp [hml]) e he hbnd;exact h1 e.on (by omega) (by omega)
          rw [hr] at this;cases this
        · rw [List.drop_eq_nil_of_le (by omega)] at h;exact h
      · obtain rfl:=only i hi
        obtain ⟨g1,o,ho,_⟩:=mem_ready.1 hi;rw [hge] at ho;have hil:=(List.getElem?_eq_some_iff.1 ho).1;have hdrop:ops.drop i=o::ops.drop (i+1):=by
          rw [List.drop_eq_getElem_cons hil];congr 1;exact (List.getElem?_eq_some_iff.1 ho).2
        rw [hdrop] at h;have K:∀ a w,wpList P ops.toArray Q (ops.drop (i+1)) a w→wpAny P .any ops.toArray Q f (listed.setIfInBounds i true) a w:=by
          intro a w hh;refine ih (i+1) _ a w (by omega) (by omega) (fun j hj hjl=>?_) (fun j hj hjl=>?_) hh
          · by_cases e:i=j
            · subst e
              have hsz:i<listed.size:=by
                rcases Nat.lt_or_ge i listed.size with h' | h'
                · exact h'
                · simp [Array.getElem?_eq_none h'] at g1
              simp [hsz]
            · rw [getD_set_ne false e];exact h1 j (by omega) hjl
          · rw [getD_set_ne true (by omega)];exact h2 j (by omega) hjl
        unfold wpOp
        rw [hge,ho]
        unfold wpList at h
        show (if Region.wanted o (yielded ops.toArray a.tmps) then _ else _)
        split
        · rename_i hw
          rw [if_pos hw] at h;exact h.imp (Oper.wp_mono K) (fun x=>x)
        · rename_i hw
          rw [if_neg hw] at h;exact K _ _ h
  have head:∀ (f:Nat) (listed:Array Bool) (a:Act) (w:World) (g:G),listed.size=ops.length→(List.range ops.length).countP (fun i=>!listed.getD i true)≤f→(∀ j,k≤j→j<ops.length→listed.getD j true=false)→(∀ (j:Nat) o,ops[j]? = some o→listed.getD j false=true→∀ e∈o.after,Region.binds .any e=true→listed.getD e.on false=true)→
      Fr n a F→S g w→(∀ i,i<k→i<ops.length→listed.getD i false=true→φ i g (a.tmps.getD (BX ops i) undef) w)→wpAny P .any ops.toArray Q f listed a w:=by
    intro f
    induction f with
    | zero =>
      intro listed a w g hsz hc h2 hcl hF hS hφ';have all:∀ j,j<ops.length→listed.getD j true=true:=by
        intro j hj;have h0:(List.range ops.length).countP (fun i=>!listed.getD i true)=0:=by omega
        have:=List.countP_eq_zero.1 h0 j (by simpa using hj)
        simpa using this
      have hlen:ops.length≤k:=by
        rcases Nat.lt_or_ge k ops.length with h | h
        · have e1:=h2 k (Nat.le_refl _) h
          rw [all k h] at e1;cases e1
        · exact h
      refine tail 0 k listed a w (Nat.le_refl _) (by omega) (fun j _ hj=>?_) (fun j hj hjl=>by omega) ?_
      · have:=all j hj
        have hjs:j<listed.size:=by omega
        simpa [Array.getD_eq_getD_getElem?,hjs] using this
      · refine hend a w g hF hS (fun i hi hil=>hφ' i hi hil ?_)
        have:=all i hil;have hjs:i<listed.size:=by omega
        simpa [Array.getD_eq_getD_getElem?,hjs] using this
    | succ f ih =>
      intro listed a w g hsz hc h2 hcl hF hS hφ'
      by_cases all:∀ j,j<k→j<ops.length→listed.getD j false=true
      · refine tail (f+1) k listed a w (Nat.le_refl _) ?_ all h2 (hend a w g hF hS (fun i hi hil=>hφ' i hi hil (all i hi hil)))
        have hge':∀ (m:Nat),m≤ops.length→m - k≤(List.range m).countP (fun i=>!listed.getD i true):=by
          intro m
          induction m with
          | zero=>intro _;simp
          | succ m ihm =>
            intro hm';have:=ihm (by omega);rw [List.range_succ,List.countP_append]
            by_cases hkm:k≤m
            · have e1:=h2 m hkm (by omega)
              have e2:List.countP (fun i=>!listed.getD i true) [m]=1:=by rw [List.countP_cons,e1];rfl
              omega
            · omega
        have:=hge' ops.length (Nat.le_refl _)
        omega
      · have step:∀ i∈Region.ready .any ops.toArray listed,i<k:=by
          intro i hi
          rcases Nat.lt_or_ge i k with h | h
          · exact h
          · exfalso
            obtain ⟨g1,o,ho,_⟩:=mem_ready.1 hi;rw [hge] at ho;have hil:=(List.getElem?_eq_some_iff.1 ho).1;exact all (fun j hj hjl=>reach_listed hcl i j (hreach i j h hil (by omega)) (fun o2 q ho2 he2=>by
              rw [ho] at ho2;obtain rfl:=Option.some.inj ho2;exact edge_listed hi ho he2))
        refine ⟨fun hr=>?_,fun i hi=>?_⟩
        · exfalso
          apply all
          intro j
          induction j using Nat.strongRecOn with
          | _ j ihj =>
            intro hjk hjl
            cases hl:listed.getD j false with
            | true=>rfl
            | false =>
              have hjs:j<listed.size:=by omega
              have hm':j∈Region.ready .any ops.toArray listed:=by
                refine mem_ready.2 ⟨?_,ops[j],by simp [hjl],fun e he hbnd=>?_⟩
                · simpa [Array.getD_eq_getD_getElem?,hjs] using hl
                · have:=CG hback j ops[j] (by simp [hjl]) e he hbnd
                  exact ihj e.on (by omega) (by omega) (by omega)
              rw [hr] at hm';cases hm'
        · have hik:=step i hi
          obtain ⟨g1,o,ho,hall'⟩:=mem_ready.1 hi;rw [hge] at ho;have hil:=(List.getElem?_eq_some_iff.1 ho).1;have hti:(ops.take k)[i]? = some o:=by rw [List.getElem?_take,if_pos hik];exact ho
          obtain ⟨d,hd1,hd2,hd3,_,hd5⟩:=EP hdst i o hti;have hdo:BX ops i=d:=by simp [BX,ho,hd1]
          have hdne:∀ j,j<k→j<ops.length→j≠i→BX ops j≠d:=by
            intro j hj hjl hne e;have hoj:ops[j]? = some ops[j]:=by simp [hjl]
            have htj:(ops.take k)[j]? = some ops[j]:=by rw [List.getElem?_take,if_pos hj];exact hoj
            obtain ⟨d',e1,_,_,_,e5⟩:=EP hdst j ops[j] htj;have hdj:BX ops j=d':=by simp only [BX,hoj,Option.bind_some,e1,Option.getD_some]
            have hdd:d'=d:=by rw [← hdj];exact e
            subst hdd
            rcases Nat.lt_or_gt_of_ne hne with h | h
            · exact hd5 j ops[j] h htj e1
            · exact e5 i o h hti hd1
          have hdoes:=StepsQ.get hsteps i o hti a w g hF hS (fun j hj he=>by
            have hj':j<k:=Nat.blt_eq.mp hj;have hl:=edge_listed hi ho he;have hjl:j<ops.length:=by
              rcases Nat.lt_or_ge j listed.size with h | h
              · omega
              · simp [Array.getElem?_eq_none h] at hl
            exact hφ' j hj' hjl hl)
          unfold wpOp
          rw [hge,ho]
          show (if Region.wanted o (yielded ops.toArray a.tmps) then _ else _)
          simp only [Nat.zero_add] at hdoes;have cont:∀ v w',After S φ i g w v w'→wpAny P .any ops.toArray Q f (listed.setIfInBounds i true) (a.put o.dst v) w':=by
            intro v w' hv;obtain ⟨g',hS',hvi,hothers⟩:=hv;have hF':Fr n (a.put o.dst v) F:=by
              rw [hd1];have:=hF.put d v (Nat.blt_eq.mpr hd2);refine ⟨this.defers,this.size,fun t u ht=>this.get t u ?_⟩;simp only [lk];have hne:¬ d=t:=fun e=>by subst e;rw [hd3] at ht;cases ht
              rw [HZ hne];exact ht
            refine ih _ _ _ g' (by simpa using hsz) ?_ (fun j hj hjl=>?_) (fun j oj hoj hl e he hb=>?_) hF' hS' (fun j hj hjl hl=>?_)
            · have:(List.range ops.length).countP (fun j=>!(listed.setIfInBounds i true).getD j true)<(List.range ops.length).countP (fun j=>!listed.getD j true):=by
                refine Dg (fun x hx=>?_) ⟨i,by simpa using hil,by simpa using g1,?_⟩
                · by_cases e:i=x
                  · subst e;simp only [g1];rfl
                  · rw [getD_set_ne true e] at hx;exact hx
                · have:i<listed.size:=by omega
                  simp [this]
              omega
            · rw [getD_set_ne true (by omega)];exact h2 j hj hjl
            · refine getD_set_true ?_
              by_cases ej:j=i
              · subst ej
                rw [ho] at hoj;obtain rfl:=Option.some.inj hoj;exact hall' e he hb
              · rw [getD_set_ne false (Ne.symm ej)] at hl
                exact hcl j oj hoj hl e he hb
            · by_cases e:j=i
              · subst e
                rw [hd1,hdo];have:(a.put (some d) v).tmps.getD d undef=v:=by simp [Act.put,hF.size,hd2]
                rw [this];exact hvi
              · rw [getD_set_ne false (Ne.symm e)] at hl
                have hold:=hothers j _ e (hφ' j hj hjl hl);have hdn:=hdne j hj hjl e;rw [hd1];have:(a.put (some d) v).tmps.getD (BX ops j) undef=a.tmps.getD (BX ops j) undef:=by
                  simp [Act.put,Array.getElem?_setIfInBounds_ne (Ne.symm hdn)]
                rw [this];exact hold
          by_cases hw:Region.wanted o (yielded ops.toArray a.tmps)=true
          · rw [if_pos hw] at hdoes ⊢;exact .inl (hdoes.run _ _ cont)
          · rw [if_neg hw] at hdoes ⊢;exact cont _ _ hdoes
  refine head ops.toArray.size (Array.replicate ops.toArray.size false) a _ g (by simp) ?_ (fun j _ hj=>by simp [hj]) (fun j o hj hl e he hbnd=>by have hjl:=(List.getElem?_eq_some_iff.1 hj).1;simp [hjl] at hl) hF (hdr _ hS) (fun i _ hi hl=>by simp [hi] at hl)
  · have:=List.countP_le_length (l:=List.range ops.length) (p:=fun i=>!(Array.replicate ops.toArray.size false).getD i true)
    simpa using this
theorem GA {o:Oper}{a:Act}{w:World}{S:G→World→Prop}{φ:Facts G}{i:Nat}{g:G}(hg:o.guard=none)(h:Does P o a w (After S φ i g w)):if Region.wanted o (yielded ops.toArray a.tmps)=true then Does P o a w (After S φ i g w) else After S φ i g w undef w:=by
  rw [if_pos (by simp [Region.wanted,hg])];exact h
theorem Hu {o:Oper}{a:Act}{w:World}{S:G→World→Prop}{φ:Facts G}{i j dj:Nat}{b:Bool}{g:G}{F':List (Nat×Value)}(hg:o.guard=some (j,b))(hF:Fr n a F')(hj:(ops.toArray[j]?).bind (·.dst)=some dj)(hjn:Nat.blt dj n=true)(hb:lk F' dj=some (.bool b))(h:Does P o a w (After S φ i g w)):if Region.wanted o (yielded ops.toArray a.tmps)=true then Does P o a w (After S φ i g w) else After S φ i g w undef w:=by
  rw [if_pos (by simp [Region.wanted,hg,ED hF hj hjn hb])];exact h
end
theorem JE {P:Program}{o:Oper}{a:Act}{w:World}{v v':Value}(h:BW P o a w v)(e:v=v'):BW P o a w v':=e ▸ h
theorem M3 {P:Program}{ops:List Oper}{Q:Exit→Act→World→Prop}{n:Nat}{F:List (Nat×Value)}{X:List Nat}{w0:World}{L0:Own}{D:BI}{id:Nat}{a:Act}{w:World}(k:Nat)(W:List Nat)(l:List Fact)(hm:P.follows .mixedOrders=true)(hk:F9 ops k=true)(hF:Fr n a F)(hdst:Fk n F (ops.take k) []=true)(hM:MemX X w0 w L0 D)
    (hsteps:StepsQ P ops k n F (Par X w0 D W L0) (CI l) (ops.take k) 0)
    (hend:∀ a w L,Fr n a F→Par X w0 D W L0 L w→(∀ i,Nat.blt i k=true→Nat.blt i ops.length=true→CI l i L (a.tmps.getD (BX ops i) undef) w)→wpList P ops.toArray Q (ops.drop k) a w) :
    (Code.region id ops.toArray true).wp P Q a w:=
  MS (S:=Par X w0 D W L0) hm hk hF hdst L0 ⟨hM,Same.refl _ _⟩ (fun _ h=>⟨h.1.ext (Below.drew (Below.refl _ _)),h.2⟩) (CI l) hsteps
    (fun a w L hF hS hq=>hend a w L hF hS fun i h1 h2=>hq i (Nat.blt_eq.mp h1) (Nat.blt_eq.mp h2))
end Go.Sw
namespace Go.Sw
open Go Go.RowKit Go.ChangeShapes Go.WideShapes Go.ChangeAt
def ArgB (w:World) (sl:Value) (m:Nat):Prop:=
  (∃ x c,sl = .slice x m c)∧(0<m→∃ (b o c:Nat) (F:Nat→Nat),sl = .slice (some ⟨b,o,none⟩) m c∧b<w.heap.size∧b ∉ ([]:List Nat)∧(∀ i,F i≤255)∧∀ i,i<m→w.cell? ⟨b,o+i*1,none⟩=some (.int .u8 (F i:Int)))
theorem ArgB.code {w:World}{sl:Value}{m:Nat}(h:ArgB w sl m)(hm:m≤4096):CodeB w [] sl m:=⟨hm,h.1,h.2⟩
section
variable {H : Type} {enc : TypeId × Value → H} {P : Program} {w : World} {base : Nat} {spare : Nat → Bool} {held : Bool}
theorem Ih {t e:TypeId}{fuel:Nat}{v:Value}{y:DataW H×List MemPlace}(ht:P.underlying t=some (.slice e))(he:P.underlying e=some (.int .u8))(hc:P.cellsOf e=1)
    (h:DataW.trod enc P w base spare held fuel t [v]=some y):∃ m:Nat,ArgB w v m:=by
  rcases open_ints ht he hc h with ⟨e1,_⟩ | ⟨ad,len,cap,zs,e1,_,hle,hmx,hlen,_,hcell,hwf⟩
  · simp only [List.cons.injEq,and_true] at e1
    rw [e1];exact ⟨0,⟨none,0,rfl⟩,fun h=>absurd h (by omega)⟩
  · simp only [List.cons.injEq,and_true] at e1
    rw [e1];refine ⟨len,⟨some ad,cap,rfl⟩,fun hm=>?_⟩;have hzl:len≤zs.length:=by rw [hlen];split<;>omega
    have bd:∀ i,0≤zs.getD i 0∧zs.getD i 0≤255:=fun i=>by
      by_cases hi:i<zs.length
      · have:zs.getD i 0=zs[i]:=by simp [List.getD,hi]
        rw [this];exact wf_u8 (hwf _ (List.getElem_mem _))
      · have:zs.getD i 0=0:=by simp [List.getD,Nat.not_lt.1 hi]
        rw [this];exact ⟨by decide,by decide⟩
    have h0:=hcell 0 (by omega);rw [show ad.add 0=ad from rfl] at h0;obtain ⟨b,o,s⟩:=ad
    unfold World.cell? at h0
    cases hb:w.heap[b]? with
    | none=>simp [hb] at h0
    | some ob =>
      cases ob with
      | cells cs tt ck =>
        simp only [hb] at h0
        cases s with
        | some s=>simp at h0
        | none =>
          refine ⟨b,o,cap,fun i=>(zs.getD i 0).toNat,rfl,(Array.getElem?_eq_some_iff.1 hb).1,by simp,fun i=>by have h9:=bd i;show (zs.getD i 0).toNat≤255;omega,fun i hi=>?_⟩;have hi':=hcell i (by omega);rw [show (Addr.add ⟨b,o,none⟩ i)=⟨b,o+i,none⟩ from by unfold Addr.add;split<;>simp_all] at hi';rw [Nat.mul_one,hi'];have:=bd i;rw [Int.toNat_of_nonneg this.1]
      | _=>simp [hb] at h0
theorem open_by {r:Go.Reach}{b0:Nat}{t e:TypeId}{v:Value}{d:DataW H}{p:List MemPlace}(ht:P.underlying t=some (.slice e))(he:P.underlying e=some (.int .u8))(hc:P.cellsOf e=1)
    (hv:Value.okWide P w r b0 t v) (h:DataW.Trod enc P w base spare held t v d p):∃ m:Nat,ArgB w v m:=by
  obtain ⟨a,l,c,rfl⟩:=okWide_slice ht hv;obtain ⟨fuel,h⟩:=h;exact Ih ht he hc h
end
end Go.Sw
namespace Go.Sw
theorem HP:∀ (c:Char) (r:List Char),c≠' '→wordsSigns (c::r)=match wordsSigns r with
    | w::ws=>(c::w)::ws
    | []=>[[c]]:=by
  intro c r h;rw [wordsSigns.eq_def]
  split
  · simp_all
  · rename_i heq;simp at heq;exact absurd heq.1 h
  · rename_i heq;simp only [List.cons.injEq] at heq;obtain ⟨rfl,rfl⟩:=heq;rfl
theorem Cp:∀ (w r:List Char),(∀ c∈w,c≠' ')→wordsSigns (w++' '::r)=w::wordsSigns r
  | [],r,_=>by simp [wordsSigns]
  | c :: w, r, h => by
    rw [List.cons_append,HP c _ (h c (by simp)),Cp w r (fun d hd=>h d (by simp [hd]))]
theorem Mp (s:List Char)(h:isSumSigns s=true):∀ c∈s,c≠' ':=by
  intro c hc he
  unfold isSumSigns at h
  simp only [Bool.and_eq_true,List.all_eq_true] at h;have:=h.2 c hc;subst he
  revert this;decide
theorem cutHead (L s r : List Char) (h : L = "harness".toList ++ ' ' :: (s ++ ' ' :: ("cut".toList ++ ' ' :: r))) (hs : isSumSigns s = true) :
    behindMainWord (wordsSigns L) = "cut".toList :: wordsSigns r := by
  rw [h, Cp _ _ (by decide), Cp _ _ (Mp s hs), Cp _ _ (by decide)];have : ("harness".toList == "harness".toList || "harness".toList == "ownmain".toList) = true := by decide
  unfold behindMainWord
  show (if (("harness".toList == "harness".toList || "harness".toList == "ownmain".toList) && isSumSigns s) = true then _ else _) = _
  rw [if_pos (by rw [this,hs];rfl)]
theorem Hs (R : List (List Char)) : stripLifts liftWords ("cut".toList :: R) = ([], "cut".toList :: R) := by
  kernel_rfl
theorem Kg (P : Program) (R : List (List Char)) (h : behindMainWord (wordsSigns P.initOrder.toList) = "cut".toList :: R) : P.headLifts = [] := by
  unfold Program.headLifts;rw [h,Hs];rfl
theorem make_cut (P : Program) (R : List (List Char)) (h : behindMainWord (wordsSigns P.initOrder.toList) = "cut".toList :: R) : P.make = some .cut := by
  unfold Program.make;rw [h]
  have h1 : ("cut".toList == "gc".toList || "cut".toList == "spec".toList) = false := by decide
  have h2 : ("cut".toList == "cut".toList) = true := by decide
  simp only [h1,h2];rfl
theorem final_cut (P : Program) (R : List (List Char)) (h : behindMainWord (wordsSigns P.initOrder.toList) = "cut".toList :: R) : P.liftsFinal = false := by
  unfold Program.liftsFinal;rw [Kg P R h,h];kernel_rfl
theorem enter_cut (P : Program) (R : List (List Char)) (h : behindMainWord (wordsSigns P.initOrder.toList) = "cut".toList :: R)
    (hl:P.laysLater=false) (hb:P.bearsReflect=false) (hd:P.doorFits []=true):P.mayEnter=true:=by
  unfold Program.mayEnter;rw [h]
  simp only [Hs,hl,hb,hd]
  kernel_rfl
end Go.Sw
