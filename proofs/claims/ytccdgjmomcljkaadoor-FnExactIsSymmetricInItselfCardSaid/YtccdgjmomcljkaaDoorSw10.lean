import Derived.Test.YtccdgjmomcljkaaDoorEch26
import Derived.Test.YtccdgjmomcljkaaDoorSw6
import Derived.Test.YtccdgjmomcljkaaDoorSw14
import Derived.Test.YtccdgjmomcljkaaDoorSw47
import Derived.JoinedOf
import Derived.KernelRfl
set_option linter.unusedVariables false
set_option linter.unusedSimpArgs false
namespace Go.Ech
open Go.Sw
theorem chk4:∀ p∈([2,3,5,7,11,13]:List Nat),∀ c,c<p→congL p (redL p (0::pcL p c)) ((pcL p c).map ((c:Int) * ·))=true:=by decide +kernel
section
variable {p n : Nat} {T : Nat → Nat → Nat → Nat} {e v u : Nat → Int}
theorem pc_eig (hp:primeN p)(hf:∀ i,EqP p n (eP n T e v (p+i)) (eP n T e v (1+i))){c:Nat}(hc:c<p){x:Nat→Int}(hx:EqP p n x (evl n T e v (pcL p c) 0)):EqP p n (Pr n T x v) (fun i=>(c:Int)*x i):=by
  have hm:p∈([2,3,5,7,11,13]:List Nat):=by unfold primeN at hp;simp;omega
  have h1:=(EqP.mul (T:=T) hx (EqP.refl v)).trans (evl_v (pcL p c) 0);have h2:EqP p n (evl n T e v (pcL p c) (0+1)) (evl n T e v (redL p (0::pcL p c)) 0):=fun i hi=>by
    rw [← evl_shift0];exact evl_red hf (0::pcL p c) i hi
  have h3:EqP p n (evl n T e v (redL p (0::pcL p c)) 0) (evl n T e v ((pcL p c).map ((c:Int) * ·)) 0):=fun i _=>evl_cong _ _ 0 i (chk4 p hm c hc);refine (h1.trans (h2.trans h3)).trans fun i hi=>?_;rw [evl_map];exact (EqP.smul (c:Int) hx).symm i hi
variable (ha : AssI p n T) (hk : ComI n T)
include ha hk in
theorem pc_keep (he:EqP p n (Pr n T e e) e){q:List Int}{x w:Nat→Int}{a:Int}(hx:EqP p n x (evl n T e v q 0))(hw:EqP p n (Pr n T e w) (fun i=>a*e i)):EqP p n (Pr n T x w) (fun i=>a*x i):=by
  have h1:EqP p n (Pr n T x e) x:=((EqP.mul hx (EqP.refl e)).trans (evl_eP (v:=v) ha hk he 0 q 0)).trans hx.symm;refine EqP.trans (EqP.mul h1.symm (EqP.refl w))<|EqP.trans (fun c hc=>Pr_assoc ha x e w hc)<|EqP.trans (EqP.mul (EqP.refl x) hw) fun c hc=>?_;rw [Pr_smulR];exact EqP.smul a h1 c hc
include hk in
theorem prim_of {M V:Nat→Nat→Nat}{r:Nat}(hp:primeN p)(hfx:∀ v:Nat→Nat,(∀ c,v c<p)→EqP p n (vP n T u (ci v) p) (ci v)→Ker p n M n (ci v))(hV:IsKer p n M n r V)(he:EqP p n (Pr n T e e) e)(hE:∀ i,i<r→∃ a:Nat,EqP p n (Pr n T e (ci (V i))) (fun c=>(a:Int)*e c)):PrimE p n T u e:=by
  refine ⟨he,fun v hv=>?_⟩;have hp2:=hp.two;have hp0:(0:Int)<(p:Int):=by omega
  have hw:EqP p n (ci (fun c=>(v c%(p:Int)).toNat)) v:=fun c hc=>by
    show (p:Int)∣(((v c%(p:Int)).toNat:Nat):Int) - v c
    rw [Int.toNat_of_nonneg (Int.emod_nonneg _ (by omega))];exact emod_dvd _ _
  have hlt:∀ c,(fun c=>(v c%(p:Int)).toNat) c<p:=fun c=>by
    have h1:=Int.emod_nonneg (v c) (show (p:Int)≠0 by omega);have h2:=Int.emod_lt_of_pos (v c) hp0
    show (v c%(p:Int)).toNat<p
    omega
  have hK:=hfx _ hlt ((vP_congr hw p).trans (hv.trans hw.symm));have hD:=ker_ds hp2 hV hK;obtain ⟨ld,hR⟩:=isKer_rref hV;have hS:=DS.sp hR hD;obtain ⟨a,haE⟩:∃ a:Nat→Nat,∀ i,i<r→EqP p n (Pr n T e (ci (V i))) (fun c=>(a i:Int)*e c):=
    ⟨fun i=>if h:i<r then Classical.choose (hE i h) else 0,fun i h=>by
      simp only [dif_pos h];exact Classical.choose_spec (hE i h)⟩
  generalize hb:(fun i=>ci (fun c=>(v c%(p:Int)).toNat) (ld i))=b at hS
  have key:EqP p n (Pr n T e v) (fun c=>sI (fun i=>b i*(a i:Int)) r*e c):=by
    refine EqP.trans (EqP.mul (EqP.refl e) (hw.symm.trans hS)) (EqP.trans (Pr_comm hk _ _) fun c hc=>?_);have e0:(fun c=>sI (fun i=>ci (fun c=>(v c%(p:Int)).toNat) (ld i)*(V i c:Int)) r)=fun c=>sI (fun i=>(fun i c=>b i*ci (V i) c) i c) r:=by
      funext c;rw [← hb]
    rw [e0,Pr_sum];rw [show sI (fun i=>b i*(a i:Int)) r*e c=sI (fun i=>e c*(b i*(a i:Int))) r from by rw [sI_mul,Int.mul_comm],sI_sub];refine sI_dvd fun i hi=>?_;rw [Pr_smul];have h1:=((Pr_comm hk (ci (V i)) e).trans (haE i hi)) c hc;have h2:=Int.dvd_mul_of_dvd_right (b:=b i) h1;rw [Int.mul_sub] at h2
    rwa [show e c*(b i*(a i:Int))=b i*((a i:Int)*e c) from by grind]
  refine ⟨(sI (fun i=>b i*(a i:Int)) r%(p:Int)).toNat,?_,key.trans fun c hc=>?_⟩
  · have h1:=Int.emod_nonneg (sI (fun i=>b i*(a i:Int)) r) (show (p:Int)≠0 by omega)
    have h2:=Int.emod_lt_of_pos (sI (fun i=>b i*(a i:Int)) r) hp0
    omega
  · show (p:Int)∣_ - (((sI (fun i=>b i*(a i:Int)) r%(p:Int)).toNat:Nat):Int)*e c
    rw [Int.toNat_of_nonneg (Int.emod_nonneg _ (by omega)),← Int.sub_mul];refine Int.dvd_mul_of_dvd_left ?_;have:=Int.dvd_neg.2 (emod_dvd (p:Int) (sI (fun i=>b i*(a i:Int)) r))
    rwa [Int.neg_sub] at this
end
end Go.Ech
namespace Go.Sw
open Go Go.RowKit
variable {P : Program}
section
variable {ops : List Oper} {Q : Exit → Act → World → Prop} {n : Nat} {F : List (Nat × Value)} {G : Type} {S : G → World → Prop}
def dstsOkQ (n:Nat) (F:List (Nat×Value)):List Oper→List Nat→Bool
  | [],_=>true
  | o :: r, seen => (match o.dst with
    | some d=>Nat.blt d n && (lk F d).isNone && !(memNat d seen) && dstsOkQ n F r (d::seen)
    | none=>false)
theorem dstsOkQ_spec:∀ {l:List Oper} {seen:List Nat},dstsOkQ n F l seen=true→∀ (i:Nat) (o:Oper),l[i]? = some o→∃ d,o.dst=some d∧d<n∧lk F d=none∧d ∉ seen∧(∀ (j:Nat) (o':Oper),j<i→l[j]? = some o'→o'.dst≠some d)
  | [],_,_,i,o,h=>by simp at h
  | x :: r, seen, hb, i, o, h => by
    simp only [dstsOkQ] at hb
    cases hx:x.dst with
    | none=>simp [hx] at hb
    | some d =>
      simp only [hx,Bool.and_eq_true,Bool.not_eq_true',Option.isNone_iff_eq_none] at hb
      obtain ⟨⟨⟨h1,h2⟩,h3⟩,h4⟩:=hb
      cases i with
      | zero =>
        simp at h;subst h
        exact ⟨d,hx,Nat.blt_eq.mp h1,h2,(fun hm=>by rw [memNat_iff.2 hm] at h3;cases h3),(fun j o' hj=>by omega)⟩
      | succ i =>
        obtain ⟨d',g1,g2,g3,g4,g5⟩:=dstsOkQ_spec h4 i o (by simpa using h)
        refine ⟨d',g1,g2,g3,fun hm=>g4 (List.mem_cons_of_mem _ hm),fun j o' hj ho'=>?_⟩
        cases j with
        | zero=>simp at ho';subst ho';rw [hx];intro e;obtain rfl:=Option.some.inj e;exact g4 (List.mem_cons_self ..)
        | succ j=>exact g5 j o' (by omega) (by simpa using ho')
def StepsQ {G:Type} (P:Program) (ops:List Oper) (k n:Nat) (F:List (Nat×Value)) (S:G→World→Prop) (φ:Facts G):List Oper→Nat→Prop
  | [],_=>True
  | o::r,i=>(∀ a w g,Fr n a F→S g w→Deps ops k φ o g a w→if Region.wanted o (yielded ops.toArray a.tmps)=true then Does P o a w (After S φ i g w) else After S φ i g w undef w)∧StepsQ P ops k n F S φ r (i+1)
theorem StepsQ.get {k:Nat}{φ:Facts G}:∀ {l:List Oper} {i:Nat},StepsQ P ops k n F S φ l i→∀ (j:Nat) (o:Oper),l[j]? = some o→
    ∀ a w g,Fr n a F→S g w→Deps ops k φ o g a w→if Region.wanted o (yielded ops.toArray a.tmps)=true then Does P o a w (After S φ (i+j) g w) else After S φ (i+j) g w undef w
  | [],_,_,j,o,h=>by simp at h
  | x :: r, i, hs, j, o, h => by
    cases j with
    | zero=>simp at h;subst h;exact hs.1
    | succ j=>have:=hs.2.get j o (by simpa using h);rwa [show i+1+j=i+(j+1) by omega] at this
theorem c_drawQ {id k:Nat}{a:Act}{w:World}(hm:P.follows .mixedOrders=true)(hk:tailOk ops k=true)(hF:Fr n a F)(hdst:dstsOkQ n F (ops.take k) []=true)(g:G)(hS:S g w)
    (hdr:∀ w,S g w→S g w.drew) (φ:Facts G)
    (hsteps:StepsQ P ops k n F S φ (ops.take k) 0)
    (hend:∀ a w g,Fr n a F→S g w→(∀ i,i<k→i<ops.length→φ i g (a.tmps.getD (dstOf ops i) undef) w)→wpList P ops.toArray Q (ops.drop k) a w) :
    (Code.region id ops.toArray true).wp P Q a w:=by
  refine wp_region_any hm ?_;simp only [tailOk,Bool.and_eq_true] at hk;obtain ⟨hback,htail⟩:=hk;have hge:∀ (i:Nat),ops.toArray[i]? = ops[i]?:=fun i=>by simp
  have hreach:∀ i j,k≤i→i<ops.length→j<i→Reach ops i j:=fun i j h1 h2 h3=>
    masks_spec ops [] (fun i=>by simp) (fun m j h=>by simp at h) i j (bitsFrom_spec htail i h1 h2 (by omega) j h3)
  have edge_listed:∀ {i:Nat} {o:Oper} {listed:Array Bool} {j:Nat},i∈Region.ready .any ops.toArray listed→ops[i]? = some o→edgeTo o j=true→listed.getD j false=true:=by
    intro i o listed j hi ho he;obtain ⟨_,o',ho',hall⟩:=mem_ready.1 hi;rw [hge,ho] at ho';obtain rfl:=Option.some.inj ho';simp only [edgeTo,List.any_eq_true,Bool.and_eq_true] at he;obtain ⟨e,hm',hb,hj⟩:=he;obtain rfl:=Nat.eq_of_beq_eq_true hj;exact hall e (by simpa using hm') hb
  have reach_listed:∀ {listed:Array Bool},(∀ (j:Nat) o,ops[j]? = some o→listed.getD j false=true→∀ e∈o.after,Region.binds .any e=true→listed.getD e.on false=true)→∀ i j,Reach ops i j→(∀ o m,ops[i]? = some o→edgeTo o m=true→listed.getD m false=true)→listed.getD j false=true:=by
    intro listed hcl i j hr
    induction hr with
    | one ho he=>intro h;exact h _ _ ho he
    | more ho he _ ih =>
      intro h;have hm':=h _ _ ho he;refine ih (fun o m ho2 he2=>?_);simp only [edgeTo,List.any_eq_true,Bool.and_eq_true] at he2;obtain ⟨e,hin,hb,hj⟩:=he2;obtain rfl:=Nat.eq_of_beq_eq_true hj;exact hcl _ o ho2 hm' e (by simpa using hin) hb
  have tail:∀ (f m:Nat) (listed:Array Bool) (a:Act) (w:World),k≤m→ops.length - m≤f→(∀ j,j<m→j<ops.length→listed.getD j false=true)→(∀ j,m≤j→j<ops.length→listed.getD j true=false)→
      wpList P ops.toArray Q (ops.drop m) a w→wpAny P .any ops.toArray Q f listed a w:=by
    intro f
    induction f with
    | zero =>
      intro m listed a w hkm hf h1 h2 h;rw [List.drop_eq_nil_of_le (by omega)] at h;refine ⟨?_,h⟩
      cases hr:Region.ready .any ops.toArray listed with
      | nil=>rfl
      | cons i r =>
        obtain ⟨g1,o,ho,_⟩:=mem_ready.1 (hr ▸ List.mem_cons_self .. : i∈Region.ready .any ops.toArray listed);rw [hge] at ho;have hi:=(List.getElem?_eq_some_iff.1 ho).1;have:=h1 i (by omega) hi
        simp [Array.getD_eq_getD_getElem?] at this g1
        cases hh:listed[i]?<;>simp [hh] at this g1
        rw [this] at g1;cases g1
    | succ f ih =>
      intro m listed a w hkm hf h1 h2 h;have only:∀ i∈Region.ready .any ops.toArray listed,i=m:=by
        intro i hi;obtain ⟨g1,o,ho,hall⟩:=mem_ready.1 hi;have ho':=ho;rw [hge] at ho';have hil:=(List.getElem?_eq_some_iff.1 ho').1
        by_cases hlt:i<m
        · have:=h1 i hlt hil
          simp [Array.getD_eq_getD_getElem?] at this g1
          cases hh:listed[i]?<;>simp [hh] at this g1
          rw [this] at g1;cases g1
        · by_cases e:i=m
          · exact e
          · have:=reach_listed (listed:=listed) (fun j o hj hl e he hbnd=>by
                have hjl:=(List.getElem?_eq_some_iff.1 hj).1;have hjm:j<m:=by
                  rcases Nat.lt_or_ge j m with h | h
                  · exact h
                  · have h3:=h2 j h hjl
                    simp [Array.getD_eq_getD_getElem?] at hl h3
                    cases hh:listed[j]?<;>simp [hh] at hl h3
                    rw [hl] at h3;cases h3
                have:=edgesBack_spec hback j o hj e he hbnd;exact h1 e.on (by omega) (by omega)) i m (hreach i m (by omega) hil (by omega)) (fun o2 q ho2 he2=>by
                rw [ho'] at ho2;obtain rfl:=Option.some.inj ho2;exact edge_listed hi ho' he2)
            have h3:=h2 m (Nat.le_refl _) (by omega)
            simp [Array.getD_eq_getD_getElem?] at this h3
            cases hh:listed[m]?<;>simp [hh] at this h3
            rw [this] at h3;cases h3
      refine ⟨fun hr=>?_,fun i hi=>?_⟩
      · by_cases hml:m<ops.length
        · exfalso
          have:m∈Region.ready .any ops.toArray listed:=by
            refine mem_ready.2 ⟨h2 m (Nat.le_refl _) hml,ops[m],by simp [hml],fun e he hbnd=>?_⟩;have:=edgesBack_spec hback m ops[m] (by simp [hml]) e he hbnd;exact h1 e.on (by omega) (by omega)
          rw [hr] at this;cases this
        · rw [List.drop_eq_nil_of_le (by omega)] at h;exact h
      · obtain rfl:=only i hi
        obtain ⟨g1,o,ho,_⟩:=mem_ready.1 hi;rw [hge] at ho;have hil:=(List.getElem?_eq_some_iff.1 ho).1;have hdrop:ops.drop i=o::ops.drop (i+1):=by
          rw [List.drop_eq_getElem_cons hil];congr 1;exact (List.getElem?_eq_some_iff.1 ho).2
        rw [hdrop] at h;have K:∀ a w,wpList P ops.toArray Q (ops.drop (i+1)) a w→wpAny P .any ops.toArray Q f (listed.setIfInBounds i true) a w:=by
          intro a w hh;refine ih (i+1) _ a w (by omega) (by omega) (fun j hj hjl=>?_) (fun j hj hjl=>?_) hh
          · by_cases e:i=j
            · subst e
              have hsz:i<listed.size:=by
                rcases Nat.lt_or_ge i listed.size with h' | h'
                · exact h'
                · simp [Array.getElem?_eq_none h'] at g1
              simp [hsz]
            · rw [getD_set_ne false e];exact h1 j (by omega) hjl
          · rw [getD_set_ne true (by omega)];exact h2 j (by omega) hjl
        unfold wpOp
        rw [hge,ho]
        unfold wpList at h
        show (if Region.wanted o (yielded ops.toArray a.tmps) then _ else _)
        split
        · rename_i hw
          rw [if_pos hw] at h;exact h.imp (Oper.wp_mono K) (fun x=>x)
        · rename_i hw
          rw [if_neg hw] at h;exact K _ _ h
  have head:∀ (f:Nat) (listed:Array Bool) (a:Act) (w:World) (g:G),listed.size=ops.length→(List.range ops.length).countP (fun i=>!listed.getD i true)≤f→(∀ j,k≤j→j<ops.length→listed.getD j true=false)→(∀ (j:Nat) o,ops[j]? = some o→listed.getD j false=true→∀ e∈o.after,Region.binds .any e=true→listed.getD e.on false=true)→
      Fr n a F→S g w→(∀ i,i<k→i<ops.length→listed.getD i false=true→φ i g (a.tmps.getD (dstOf ops i) undef) w)→wpAny P .any ops.toArray Q f listed a w:=by
    intro f
    induction f with
    | zero =>
      intro listed a w g hsz hc h2 hcl hF hS hφ';have all:∀ j,j<ops.length→listed.getD j true=true:=by
        intro j hj;have h0:(List.range ops.length).countP (fun i=>!listed.getD i true)=0:=by omega
        have:=List.countP_eq_zero.1 h0 j (by simpa using hj)
        simpa using this
      have hlen:ops.length≤k:=by
        rcases Nat.lt_or_ge k ops.length with h | h
        · have e1:=h2 k (Nat.le_refl _) h
          rw [all k h] at e1;cases e1
        · exact h
      refine tail 0 k listed a w (Nat.le_refl _) (by omega) (fun j _ hj=>?_) (fun j hj hjl=>by omega) ?_
      · have:=all j hj
        have hjs:j<listed.size:=by omega
        simpa [Array.getD_eq_getD_getElem?,hjs] using this
      · refine hend a w g hF hS (fun i hi hil=>hφ' i hi hil ?_)
        have:=all i hil;have hjs:i<listed.size:=by omega
        simpa [Array.getD_eq_getD_getElem?,hjs] using this
    | succ f ih =>
      intro listed a w g hsz hc h2 hcl hF hS hφ'
      by_cases all:∀ j,j<k→j<ops.length→listed.getD j false=true
      · refine tail (f+1) k listed a w (Nat.le_refl _) ?_ all h2 (hend a w g hF hS (fun i hi hil=>hφ' i hi hil (all i hi hil)))
        have hge':∀ (m:Nat),m≤ops.length→m - k≤(List.range m).countP (fun i=>!listed.getD i true):=by
          intro m
          induction m with
          | zero=>intro _;simp
          | succ m ihm =>
            intro hm';have:=ihm (by omega);rw [List.range_succ,List.countP_append]
            by_cases hkm:k≤m
            · have e1:=h2 m hkm (by omega)
              have e2:List.countP (fun i=>!listed.getD i true) [m]=1:=by rw [List.countP_cons,e1];rfl
              omega
            · omega
        have:=hge' ops.length (Nat.le_refl _)
        omega
      · have step:∀ i∈Region.ready .any ops.toArray listed,i<k:=by
          intro i hi
          rcases Nat.lt_or_ge i k with h | h
          · exact h
          · exfalso
            obtain ⟨g1,o,ho,_⟩:=mem_ready.1 hi;rw [hge] at ho;have hil:=(List.getElem?_eq_some_iff.1 ho).1;exact all (fun j hj hjl=>reach_listed hcl i j (hreach i j h hil (by omega)) (fun o2 q ho2 he2=>by
              rw [ho] at ho2;obtain rfl:=Option.some.inj ho2;exact edge_listed hi ho he2))
        refine ⟨fun hr=>?_,fun i hi=>?_⟩
        · exfalso
          apply all
          intro j
          induction j using Nat.strongRecOn with
          | _ j ihj =>
            intro hjk hjl
            cases hl:listed.getD j false with
            | true=>rfl
            | false =>
              have hjs:j<listed.size:=by omega
              have hm':j∈Region.ready .any ops.toArray listed:=by
                refine mem_ready.2 ⟨?_,ops[j],by simp [hjl],fun e he hbnd=>?_⟩
                · simpa [Array.getD_eq_getD_getElem?,hjs] using hl
                · have:=edgesBack_spec hback j ops[j] (by simp [hjl]) e he hbnd
                  exact ihj e.on (by omega) (by omega) (by omega)
              rw [hr] at hm';cases hm'
        · have hik:=step i hi
          obtain ⟨g1,o,ho,hall'⟩:=mem_ready.1 hi;rw [hge] at ho;have hil:=(List.getElem?_eq_some_iff.1 ho).1;have hti:(ops.take k)[i]? = some o:=by rw [List.getElem?_take,if_pos hik];exact ho
          obtain ⟨d,hd1,hd2,hd3,_,hd5⟩:=dstsOkQ_spec hdst i o hti;have hdo:dstOf ops i=d:=by simp [dstOf,ho,hd1]
          have hdne:∀ j,j<k→j<ops.length→j≠i→dstOf ops j≠d:=by
            intro j hj hjl hne e;have hoj:ops[j]? = some ops[j]:=by simp [hjl]
            have htj:(ops.take k)[j]? = some ops[j]:=by rw [List.getElem?_take,if_pos hj];exact hoj
            obtain ⟨d',e1,_,_,_,e5⟩:=dstsOkQ_spec hdst j ops[j] htj;have hdj:dstOf ops j=d':=by simp only [dstOf,hoj,Option.bind_some,e1,Option.getD_some]
            have hdd:d'=d:=by rw [← hdj];exact e
            subst hdd
            rcases Nat.lt_or_gt_of_ne hne with h | h
            · exact hd5 j ops[j] h htj e1
            · exact e5 i o h hti hd1
          have hdoes:=StepsQ.get hsteps i o hti a w g hF hS (fun j hj he=>by
            have hj':j<k:=Nat.blt_eq.mp hj;have hl:=edge_listed hi ho he;have hjl:j<ops.length:=by
              rcases Nat.lt_or_ge j listed.size with h | h
              · omega
              · simp [Array.getElem?_eq_none h] at hl
            exact hφ' j hj' hjl hl)
          unfold wpOp
          rw [hge,ho]
          show (if Region.wanted o (yielded ops.toArray a.tmps) then _ else _)
          simp only [Nat.zero_add] at hdoes;have cont:∀ v w',After S φ i g w v w'→wpAny P .any ops.toArray Q f (listed.setIfInBounds i true) (a.put o.dst v) w':=by
            intro v w' hv;obtain ⟨g',hS',hvi,hothers⟩:=hv;have hF':Fr n (a.put o.dst v) F:=by
              rw [hd1];have:=hF.put d v (Nat.blt_eq.mpr hd2);refine ⟨this.defers,this.size,fun t u ht=>this.get t u ?_⟩;simp only [lk];have hne:¬ d=t:=fun e=>by subst e;rw [hd3] at ht;cases ht
              rw [beqF hne];exact ht
            refine ih _ _ _ g' (by simpa using hsz) ?_ (fun j hj hjl=>?_) (fun j oj hoj hl e he hb=>?_) hF' hS' (fun j hj hjl hl=>?_)
            · have:(List.range ops.length).countP (fun j=>!(listed.setIfInBounds i true).getD j true)<(List.range ops.length).countP (fun j=>!listed.getD j true):=by
                refine countP_lt (fun x hx=>?_) ⟨i,by simpa using hil,by simpa using g1,?_⟩
                · by_cases e:i=x
                  · subst e;simp only [g1];rfl
                  · rw [getD_set_ne true e] at hx;exact hx
                · have:i<listed.size:=by omega
                  simp [this]
              omega
            · rw [getD_set_ne true (by omega)];exact h2 j hj hjl
            · refine getD_set_true ?_
              by_cases ej:j=i
              · subst ej
                rw [ho] at hoj;obtain rfl:=Option.some.inj hoj;exact hall' e he hb
              · rw [getD_set_ne false (Ne.symm ej)] at hl
                exact hcl j oj hoj hl e he hb
            · by_cases e:j=i
              · subst e
                rw [hd1,hdo];have:(a.put (some d) v).tmps.getD d undef=v:=by simp [Act.put,hF.size,hd2]
                rw [this];exact hvi
              · rw [getD_set_ne false (Ne.symm e)] at hl
                have hold:=hothers j _ e (hφ' j hj hjl hl);have hdn:=hdne j hj hjl e;rw [hd1];have:(a.put (some d) v).tmps.getD (dstOf ops j) undef=a.tmps.getD (dstOf ops j) undef:=by
                  simp [Act.put,Array.getElem?_setIfInBounds_ne (Ne.symm hdn)]
                rw [this];exact hold
          by_cases hw:Region.wanted o (yielded ops.toArray a.tmps)=true
          · rw [if_pos hw] at hdoes ⊢;exact .inl (hdoes.run _ _ cont)
          · rw [if_neg hw] at hdoes ⊢;exact cont _ _ hdoes
  refine head ops.toArray.size (Array.replicate ops.toArray.size false) a _ g (by simp) ?_ (fun j _ hj=>by simp [hj]) (fun j o hj hl e he hbnd=>by have hjl:=(List.getElem?_eq_some_iff.1 hj).1;simp [hjl] at hl) hF (hdr _ hS) (fun i _ hi hl=>by simp [hi] at hl)
  · have:=List.countP_le_length (l:=List.range ops.length) (p:=fun i=>!(Array.replicate ops.toArray.size false).getD i true)
    simpa using this
theorem q_none {o:Oper}{a:Act}{w:World}{S:G→World→Prop}{φ:Facts G}{i:Nat}{g:G}(hg:o.guard=none)(h:Does P o a w (After S φ i g w)):if Region.wanted o (yielded ops.toArray a.tmps)=true then Does P o a w (After S φ i g w) else After S φ i g w undef w:=by
  rw [if_pos (by simp [Region.wanted,hg])];exact h
theorem q_yes {o:Oper}{a:Act}{w:World}{S:G→World→Prop}{φ:Facts G}{i j dj:Nat}{b:Bool}{g:G}{F':List (Nat×Value)}(hg:o.guard=some (j,b))(hF:Fr n a F')(hj:(ops.toArray[j]?).bind (·.dst)=some dj)(hjn:Nat.blt dj n=true)(hb:lk F' dj=some (.bool b))(h:Does P o a w (After S φ i g w)):if Region.wanted o (yielded ops.toArray a.tmps)=true then Does P o a w (After S φ i g w) else After S φ i g w undef w:=by
  rw [if_pos (by simp [Region.wanted,hg,yielded_of hF hj hjn hb])];exact h
theorem q_no {o:Oper}{a:Act}{w:World}{S:G→World→Prop}{φ:Facts G}{i j dj:Nat}{b c:Bool}{g:G}{F':List (Nat×Value)}(hg:o.guard=some (j,c))(hF:Fr n a F')(hj:(ops.toArray[j]?).bind (·.dst)=some dj)(hjn:Nat.blt dj n=true)(hb:lk F' dj=some (.bool b))(hbc:(b == c)=false)(h:After S φ i g w undef w):if Region.wanted o (yielded ops.toArray a.tmps)=true then Does P o a w (After S φ i g w) else After S φ i g w undef w:=by
  rw [if_neg (by simp [Region.wanted,hg,yielded_of hF hj hjn hb];intro e;subst e;simp at hbc)];exact h
end
theorem gives_eq {P:Program}{o:Oper}{a:Act}{w:World}{v v':Value}(h:Gives P o a w v)(e:v=v'):Gives P o a w v':=e ▸ h
theorem c_parQ {P:Program}{ops:List Oper}{Q:Exit→Act→World→Prop}{n:Nat}{F:List (Nat×Value)}{X:List Nat}{w0:World}{L0:Own}{D:Froz}{id:Nat}{a:Act}{w:World}(k:Nat)(W:List Nat)(l:List Fact)(hm:P.follows .mixedOrders=true)(hk:tailOk ops k=true)(hF:Fr n a F)(hdst:dstsOkQ n F (ops.take k) []=true)(hM:MemX X w0 w L0 D)
    (hsteps:StepsQ P ops k n F (Par X w0 D W L0) (factsOf l) (ops.take k) 0)
    (hend:∀ a w L,Fr n a F→Par X w0 D W L0 L w→(∀ i,Nat.blt i k=true→Nat.blt i ops.length=true→factsOf l i L (a.tmps.getD (dstOf ops i) undef) w)→wpList P ops.toArray Q (ops.drop k) a w) :
    (Code.region id ops.toArray true).wp P Q a w:=
  c_drawQ (S:=Par X w0 D W L0) hm hk hF hdst L0 ⟨hM,Same.refl _ _⟩ (fun _ h=>⟨h.1.ext (Below.drew (Below.refl _ _)),h.2⟩) (factsOf l) hsteps
    (fun a w L hF hS hq=>hend a w L hF hS fun i h1 h2=>hq i (Nat.blt_eq.mp h1) (Nat.blt_eq.mp h2))
end Go.Sw
namespace Go.Sw
open Go Go.RowKit
variable {P : Program}
theorem run_append0 {X:List Nat}{w0 w:World}{L:Own}{D:Froz}{T e:TypeId}{z:Value}{size bytes n k bx ox cx b cap:Nat}{cs:Array Value}{v:Value}{ent:Option (Nat×Array Value)}{f:Nat→Value}(hT:slI P T=some (e,some z,size,bytes))
    (hM:MemX X w0 w L D) (hk:L[k]? = some ent) (hat:SlAt size v ent n b cap cs f) (ty:TypeId) :
    ∃ w',(Builtin.append_ #[T,T] ty #[v,.slice (some ⟨bx,ox,none⟩) 0 cx]).run P w = .ok v w'∧MemX X w0 w' (L.set k ent) D:=by
  unfold slI at hT
  cases hu:P.underlying T with
  | none=>simp [hu] at hT
  | some dd =>
    cases dd<;>simp [hu] at hT
    rename_i el
    obtain ⟨inf,hinf,rfl,hz0,hsz,hby⟩:=hT;subst hsz;obtain ⟨rfl,rfl,hle,hmax,hcsz,hget⟩:=hat;obtain ⟨tt,hgg⟩:=hM.row k hk;have hf:=run_firstCells_some (P:=P) (w:=w) inf.size 0 ⟨bx,ox,none⟩ 0 cx [] (by simp) (by simp);have hfit:n*inf.size+([]:List Value).length≤cs.size:=by rw [hcsz];simp;exact Nat.mul_le_mul_right _ hle
    have hst:=run_storeCells_at P b (n*inf.size) tt [] 0 cs w hgg (by simpa using hfit) (by simp);simp only [Nat.add_zero] at hst;have e1:splice cs (n*inf.size) #[]=cs:=by unfold splice;simp
    have hr:(Builtin.append_ #[T,T] ty #[.slice (some ⟨b,0,none⟩) n cap,.slice (some ⟨bx,ox,none⟩) 0 cx]).run P w = .ok (.slice (some ⟨b,0,none⟩) n cap) (w.setRow b (splice cs (n*inf.size) #[])):=by
      simp [Builtin.append_,run_underlying hu,Go.sizeOf,typeInfo,hinf,Builtin.lenOf,hle,hf,Addr.add_lit,hst,splice]
    refine ⟨_,hr,?_⟩;rw [e1];exact hM.setRow k hk cs
section
variable {ops : Array Oper} {Q : Exit → Act → World → Prop} {rest : List Oper} {n : Nat} {F : List (Nat × Value)} {a : Act} {X : List Nat} {w w0 : World} {L : Own} {D : Froz}
variable {d : Option Tmp} {t : TypeId} {pos : String} {af : Array Edge} {gd : Option (Nat × Bool)} {T : TypeId} {x y : Operand}
theorem d_appendA {e:TypeId}{z:Value}{size bytes N k m bx ox cx b cap:Nat}{cs:Array Value}{v:Value}{ent:Option (Nat×Array Value)}{f g:Nat→Value}(hT:slI P T=some (e,some z,size,bytes))(hz:z.cells.size=size)(hs0:0<size)
    (hM:MemX X w0 w L D) (hk:L[k]? = some ent) (hF:Fr n a F) (hx:look F x=some v) (hy:look F y=some (.slice (some ⟨bx,ox,none⟩) m cx)) (hv:SlAt size v ent N b cap cs f) (hg:∀ i,i<m*size→w.cell? ⟨bx,ox+i,none⟩=some (g i)) (h1:∀ i,i<m*size→(g i).oneCell'=true)
    (h63:N+m≤maxLen) (hb:(N+m)*bytes≤140737488355328) :
    Does P ⟨d,.call { callee:=.builtin .append,args:=#[x,y],argTypes:=#[T,T] },t,pos,af,gd⟩ a w (fun u w'=>∃ b' cap' cs',u = .slice (some ⟨b',0,none⟩) (N+m) cap'∧MemX X w0 w' (L.set k (some (b',cs'))) D∧SlAt size u (some (b',cs')) (N+m) b' cap' cs' (fun i=>if i<N*size then f i else g (i - N*size))):=by
  by_cases hm:0<m
  · refine (d_append hT hz hs0 hM hk hF hx hy (.inr ⟨_,_,_,hv⟩) hg h1 hm h63 hb).mono fun u w' ⟨e',h2,h3⟩=>?_
    obtain ⟨b',cap',cs',hu,rfl,h4⟩:=h3.pos (by omega);exact ⟨b',cap',cs',hu,h2,h4⟩
  · obtain rfl:m=0:=by omega
    refine ⟨fun K Q hK=>?_⟩;obtain ⟨w',hr,h2⟩:=run_append0 (P:=P) (T:=T) (bx:=bx) (ox:=ox) (cx:=cx) hT hM hk hv t
    unfold Oper.wp execOp
    simp only [resolve,invoke,builtin,Sem.run_bind,Sem.run_pure,Result.andThen_ok,List.map_toArray,List.map_cons,List.map_nil,hF.eval hx,hF.eval hy];rw [hr];obtain ⟨h5,rfl,h6,h7,h8,h9⟩:=hv;exact hK v w' ⟨b,cap,cs,h5,h2,h5,rfl,h6,h7,h8,fun i hi=>by rw [if_pos (by simpa using hi)];exact h9 i (by simpa using hi)⟩
theorem g_sliceLoA {e:TypeId}{b o len cap i s:Nat}{κ:IntKind}{X:Int}(hT:P.underlying T=some (.slice e))(he:sizeP P e=some s)(hF:Fr n a F)(hx:look F x=some (.slice (some ⟨b,o,none⟩) len cap))(hy:look F y=some (.int κ X))(hX:X=(i:Int))(hi:i≤len)(hl:len≤cap) :
    Gives P ⟨d,.slice T x (some y) none none,t,pos,af,gd⟩ a w (.slice (some ⟨b,if i=cap then o else o+i*s,none⟩) (len - i) (cap - i)):=by
  by_cases hc:i<cap
  · rw [if_neg (by omega)];exact g_sliceLo hT he hF hx hy hX hi hl hc
  · subst hX
    obtain rfl:i=cap:=by omega
    obtain rfl:len=i:=by omega
    rw [if_pos rfl];refine gives_of_run ?_;have h1:(0:Int)≤(len:Int)∧(len:Int)≤(len:Int):=by omega
    have h2:=run_sizeOf he w
    simp [execOp,Instr.sliceAt,Instr.slice,run_underlying hT,hF.eval hx,hF.eval hy,Instr.sliceBounds,Instr.sliceBound,asIntOf,h1,h2,Addr.add_lit]
end
end Go.Sw
namespace Go.Sw
open Go Go.RowKit
def mri (Z k t:Nat) (xs:Nat→Value):Array Value:=fnC Z (fun c=>if c<t then .int .i64 (((k+c:Nat)):Int) else xs c)
section
variable {Z k t : Nat} {xs : Nat → Value}
end
end Go.Sw
namespace Go.Sw
theorem wordsSigns_nb:∀ (c:Char) (r:List Char),c≠' '→wordsSigns (c::r)=match wordsSigns r with
    | w::ws=>(c::w)::ws
    | []=>[[c]]:=by
  intro c r h;rw [wordsSigns.eq_def]
  split
  · simp_all
  · rename_i heq;simp at heq;exact absurd heq.1 h
  · rename_i heq;simp only [List.cons.injEq] at heq;obtain ⟨rfl,rfl⟩:=heq;rfl
theorem wordsSigns_word:∀ (w r:List Char),(∀ c∈w,c≠' ')→wordsSigns (w++' '::r)=w::wordsSigns r
  | [],r,_=>by simp [wordsSigns]
  | c :: w, r, h => by
    rw [List.cons_append,wordsSigns_nb c _ (h c (by simp)),wordsSigns_word w r (fun d hd=>h d (by simp [hd]))]
theorem sum_nb (s:List Char)(h:isSumSigns s=true):∀ c∈s,c≠' ':=by
  intro c hc he
  unfold isSumSigns at h
  simp only [Bool.and_eq_true,List.all_eq_true] at h;have:=h.2 c hc;subst he
  revert this;decide
theorem cutHead (L s r : List Char) (h : L = "harness".toList ++ ' ' :: (s ++ ' ' :: ("cut".toList ++ ' ' :: r))) (hs : isSumSigns s = true) :
    behindMainWord (wordsSigns L) = "cut".toList :: wordsSigns r := by
  rw [h, wordsSigns_word _ _ (by decide), wordsSigns_word _ _ (sum_nb s hs), wordsSigns_word _ _ (by decide)];have : ("harness".toList == "harness".toList || "harness".toList == "ownmain".toList) = true := by decide
  unfold behindMainWord
  show (if (("harness".toList == "harness".toList || "harness".toList == "ownmain".toList) && isSumSigns s) = true then _ else _) = _
  rw [if_pos (by rw [this,hs];rfl)]
theorem strip_cut (R : List (List Char)) : stripLifts liftWords ("cut".toList :: R) = ([], "cut".toList :: R) := by
  kernel_rfl
theorem lifts_cut (P : Program) (R : List (List Char)) (h : behindMainWord (wordsSigns P.initOrder.toList) = "cut".toList :: R) : P.headLifts = [] := by
  unfold Program.headLifts;rw [h,strip_cut];rfl
theorem make_cut (P : Program) (R : List (List Char)) (h : behindMainWord (wordsSigns P.initOrder.toList) = "cut".toList :: R) : P.make = some .cut := by
  unfold Program.make;rw [h]
  have h1 : ("cut".toList == "gc".toList || "cut".toList == "spec".toList) = false := by decide
  have h2 : ("cut".toList == "cut".toList) = true := by decide
  simp only [h1,h2];rfl
theorem final_cut (P : Program) (R : List (List Char)) (h : behindMainWord (wordsSigns P.initOrder.toList) = "cut".toList :: R) : P.liftsFinal = false := by
  unfold Program.liftsFinal;rw [lifts_cut P R h,h];kernel_rfl
theorem enter_cut (P : Program) (R : List (List Char)) (h : behindMainWord (wordsSigns P.initOrder.toList) = "cut".toList :: R)
    (hl:P.laysLater=false) (hb:P.bearsReflect=false) (hd:P.doorFits []=true):P.mayEnter=true:=by
  unfold Program.mayEnter;rw [h]
  simp only [strip_cut,hl,hb,hd]
  kernel_rfl
end Go.Sw
