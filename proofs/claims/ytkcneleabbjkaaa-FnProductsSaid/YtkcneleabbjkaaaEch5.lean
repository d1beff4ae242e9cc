import Derived.Test.YtkcneleabbjkaaaSw19
import Derived.Test.YtkcneleabbjkaaaEch3
set_option linter.unusedVariables false
set_option linter.unusedSimpArgs false
namespace Go.Sw
open Go Go.RowKit Go.Ech
variable {P : Program}
def KL (w0:World) (L:Own) (N m:Nat) (M:Nat→Nat→Nat) (u:Value) (w':World):Prop:=∃ (D:BI) (β:Nat→Nat) (b:Nat) (cs:Array Value),
  (∀ x ds,(x,ds)∈D→w0.heap.size≤x∧Blk w' x ds∧∀ (k:Nat) c es,L[k]? = some (some (c,es))→c≠x)∧RowsB D N m β M∧u = .slice (some ⟨b,0,none⟩) m m∧cs.size=m∧(∀ i,i<m→cs[0+i*1]? = some (.slice (some ⟨β i,0,none⟩) N N))∧(b,cs)∈D∧∀ i,i<m→β i≠b
theorem BytesOut.fresh {X:List Nat}{w0 w w':World}{L:Own}{D:BI}{N m:Nat}{M:Nat→Nat→Nat}{u:Value}(hM:MemX X w0 w L D)(h:BytesOut w w' N m M u):KL w0 L N m M u w':=by
  obtain ⟨D',β,b,cs,h1,h2⟩:=h;refine ⟨D',β,b,cs,fun x ds hm=>⟨Nat.le_trans hM.bel.size (h1 x ds hm).1,(h1 x ds hm).2,fun k c es hk e=>?_⟩,h2⟩;have:=(hM.blk k c es hk).2.lt;have:=(h1 x ds hm).1
  omega
theorem MemX.addBo {X:List Nat}{w0 w w':World}{L:Own}{D:BI}{N m:Nat}{M:Nat→Nat→Nat}{u:Value}(h:MemX X w0 w L D)(hx:Ext w w')(hf:BytesOut w w' N m M u) :
    ∃ (D':BI) (β:Nat→Nat) (b:Nat) (cs:Array Value),RowsB (D'++D) N m β M∧u = .slice (some ⟨b,0,none⟩) m m∧cs.size=m∧(∀ i,i<m→cs[0+i*1]? = some (.slice (some ⟨β i,0,none⟩) N N))∧(b,cs)∈D'++D∧(∀ i,i<m→β i≠b)∧(∀ i,i<m→w0.heap.size≤β i)∧w0.heap.size≤b∧MemX X w0 w' L (D'++D)∧(∀ c ds,(c,ds)∈D→∀ i,i<m→c≠β i):=by
  obtain ⟨D',β,b,cs,h1,h2,h3,h4,h5,h6,h7⟩:=hf;refine ⟨D',β,b,cs,h2.more (fun x hx=>List.mem_append_left _ hx),h3,h4,h5,List.mem_append_left _ h6,h7,fun i hi=>Nat.le_trans h.bel.size (h1 _ _ (h2.mem i hi)).1,Nat.le_trans h.bel.size (h1 _ _ h6).1,h.addD hx h1,fun c ds hm i hi e=>?_⟩;have:=(h.froz c ds hm).1.lt;have:=(h1 _ _ (h2.mem i hi)).1
  omega
theorem Mu {f:Nat→Int}{n N:Nat}(hn:n≤N)(h:∀ c,n≤c→c<N→f c=0):sI f N=sI f n:=by
  induction N with
  | zero=>rw [show n=0 by omega]
  | succ N ih =>
    by_cases e:n=N+1
    · rw [e]
    · simp only [sI];rw [ih (by omega) (fun c h1 h2=>h c h1 (by omega)),h N (by omega) (by omega)];omega
theorem J1 {p L k:Nat}{E:Nat→Nat→Nat}{ld:Nat→Nat}(h:Rref p (L+1) E k ld)(hn:¬ D5 k ld L):Ker p (L+1) E k (Fl L (solK E ld L k)):=by
  have h1:=h.free_ker (show L<L+1 by omega) hn;intro i hi;have h2:=h1 i hi;have e:dot (L+1) (ci (E i)) (Fl L (solK E ld L k))=(-1)*dot (L+1) (ci (E i)) (free E k ld L):=by
    rw [← MN]
    unfold dot
    refine BG fun c hc=>?_
    show ci (E i) c*Fl L (solK E ld L k) c=ci (E i) c*(-1*free E k ld L c)
    congr 1
    unfold Fl free solK
    by_cases e:c<L
    · rw [if_pos e,if_neg (by omega)]
      cases EX k ld c with
      | none=>simp
      | some j=>simp
    · rw [if_neg e,if_pos (by omega)];omega
  rw [e];exact Int.dvd_mul_of_dvd_right h2
theorem LH {p L k:Nat}{E:Nat→Nat→Nat}{ld:Nat→Nat}{x:Nat→Nat}(hp:2≤p)(h:Rref p (L+1) E k ld)(hl:D5 k ld L):¬ Ker p (L+1) E k (Fl L x):=by
  intro hK;obtain ⟨i,hi,e⟩:=hl;have:=h.ker_lead hK hi (fun d h1 h2=>by omega);rw [e,Gg] at this;have:=Int.le_of_dvd (by omega) (Int.dvd_neg.2 this)
  omega
theorem J6 {p N k m c:Nat}{E M:Nat→Nat→Nat}{ld:Nat→Nat}(hp:2≤p)(h:Rref p N E k ld)(hK:∀ x,Ker p N E k x↔Ker p N M m x)(hc:c<N)(hz:∀ i,i<m→M i c=0):¬ D5 k ld c:=by
  rintro ⟨j,hj,e⟩;have h1:Ker p N M m (fun d=>if d=c then 1 else 0):=fun i hi=>by
    have:dot N (ci (M i)) (fun d=>if d=c then 1 else 0)=0:=by
      unfold dot
      refine Ex fun d _=>?_
      by_cases ed:d=c
      · simp [ci,ed,hz i hi]
      · simp [ed]
    rw [this];exact Int.dvd_zero _
  have h2:=h.ker_lead ((hK _).2 h1) hj (fun d h1 _=>by rw [if_neg (by omega)]);rw [e,if_pos rfl] at h2;have:=Int.le_of_dvd (by omega) h2
  omega
theorem I1 {E:Nat→Nat→Nat}{ld:Nat→Nat}{L k c:Nat}(h:¬ D5 k ld c):solK E ld L k c=0:=by
  unfold solK
  rw [EI (fun j hj e=>h ⟨j,hj,e⟩)]
end Go.Sw
namespace Go.Sw
open Go Go.RowKit
variable {P : Program}
section
variable {n : Nat} {F : List (Nat × Value)} {a : Act} {w : World} {d : Option Tmp} {t : TypeId} {pos : String} {af : Array Edge} {gd : Option (Nat × Bool)} {T T' : TypeId} {x y : Operand}
theorem Ie (op:BinOp)(T:TypeId)(x y:Operand)(s u:Bool)(w:World):(eqGuard op T x y (.bool s) (.bool u)).run P w = .ok () w:=by
  unfold eqGuard
  cases op<;>simp
theorem run_equal_bool (s u:Bool)(hT:P.underlying T=some .bool):(Op.equal T (.bool s) (.bool u)).run P w = .ok (s == u) w:=by
  show (Op.equalIn 10000 T (.bool s) (.bool u)).run P w=_
  rw [Op.equalIn]
  simp [run_underlying hT]
theorem MJ {s u:Bool}(hT:P.underlying T=some .bool)(hF:Fr n a F)(hx:look F x=some (.bool s))(hy:look F y=some (.bool u)):BW P ⟨d,.binOp .neq T x y T',t,pos,af,gd⟩ a w (.bool (decide (s≠u))):=
  An (by
    simp [execOp,Ie,binOp,hF.eval hx,hF.eval hy,run_equal_bool s u hT]
    try (cases s<;>cases u<;>rfl))
end
end Go.Sw
namespace Go.Sw
open Go Go.RowKit
variable {P : Program}
section
variable {ops : List Oper} {Q : Exit → Act → World → Prop} {n : Nat} {F : List (Nat × Value)}
def JS {G:Type} (ops:List Oper) (k s:Nat) (φ:Facts G) (o:Oper) (g:G) (a:Act) (w:World):Prop:=
  ∀ j,Nat.blt j k=true→Nat.beq j s=false→Bm o j=true→φ j g (a.tmps.getD (BX ops j) undef) w
def Jy {G:Type} (S:Bool→G→World→Prop) (φ:Facts G) (bb:Bool) (g:G) (w w':World):Prop:=∃ g',S bb g' w'∧∀ j u,φ j g u w→φ j g' u w'
def D7 {G:Type} (S:Bool→G→World→Prop) (φ:Facts G) (bb:Bool) (i:Nat) (g:G) (w:World) (v:Value) (w':World):Prop:=∃ g',S bb g' w'∧φ i g' v w'∧∀ j u,j≠i→φ j g u w→φ j g' u w'
def StepsG {G:Type} (P:Program) (ops:List Oper) (k s n:Nat) (F:List (Nat×Value)) (S:Bool→G→World→Prop) (φ:Facts G):List Oper→Nat→Prop
  | [],_=>True
  | o::r,i=>(if Nat.beq i s=true then ∀ a w g,Fr n a F→S false g w→JS ops k s φ o g a w→Does P o a w (fun _ w'=>Jy S φ true g w w')
      else ∀ a w b g,Fr n a F→S b g w→(Fj ops s i=true→b=false)→JS ops k s φ o g a w→Does P o a w (D7 S φ b i g w))∧StepsG P ops k s n F S φ r (i+1)
theorem StepsG.get {G:Type}{k s:Nat}{S:Bool→G→World→Prop}{φ:Facts G}:∀ {l:List Oper} {i:Nat},StepsG P ops k s n F S φ l i→∀ (j:Nat) (o:Oper),l[j]? = some o→
    (if Nat.beq (i+j) s=true then ∀ a w g,Fr n a F→S false g w→JS ops k s φ o g a w→Does P o a w (fun _ w'=>Jy S φ true g w w')
      else ∀ a w b g,Fr n a F→S b g w→(Fj ops s (i+j)=true→b=false)→JS ops k s φ o g a w→Does P o a w (D7 S φ b (i+j) g w))
  | [],_,_,j,o,h=>by simp at h
  | x :: r, i, hs, j, o, h => by
    cases j with
    | zero=>simp at h;subst h;exact hs.1
    | succ j=>have:=hs.2.get j o (by simpa using h);rwa [show i+1+j=i+(j+1) by omega] at this
theorem ER {G:Type}{S:Bool→G→World→Prop}{id:Nat}(k s:Nat){a:Act}{w:World}(hm:P.follows .mixedOrders=true)(hk:Ew ops k=true)(hsk:Nat.blt s k=true)(hsl:Nat.blt s ops.length=true)(hF:Fr n a F)(hdst:EO n F (ops.take k) []=true)(hdall:∀ (j:Nat) (o:Oper),(ops.take k)[j]? = some o→j≠s→o.dst≠none)(g:G)(hS:S false g w)
    (hdr:∀ b g w,S b g w→S b g w.drew) (φ:Facts G)
    (hsteps:StepsG P ops k s n F S φ (ops.take k) 0)
    (hend:∀ a w g,Fr n a F→S true g w→(∀ i,Nat.blt i k=true→Nat.blt i ops.length=true→Nat.beq i s=false→φ i g (a.tmps.getD (BX ops i) undef) w)→wpList P ops.toArray Q (ops.drop k) a w) :
    (Code.region id ops.toArray true).wp P Q a w:=by
  refine wp_region_any hm ?_;simp only [Ew,Bool.and_eq_true] at hk;obtain ⟨hback,htail⟩:=hk;have hge:∀ (i:Nat),ops.toArray[i]? = ops[i]?:=fun i=>by simp
  have hreach:∀ i j,k≤i→i<ops.length→j<i→Reach ops i j:=fun i j h1 h2 h3=>
    DC ops [] (fun i=>by simp) (fun m j h=>by simp at h) i j (Cd htail i h1 h2 (by omega) j h3)
  have edge_listed:∀ {i:Nat} {o:Oper} {listed:Array Bool} {j:Nat},i∈Region.ready .any ops.toArray listed→ops[i]? = some o→Bm o j=true→listed.getD j false=true:=by
    intro i o listed j hi ho he;obtain ⟨_,o',ho',hall⟩:=mem_ready.1 hi;rw [hge,ho] at ho';obtain rfl:=Option.some.inj ho';simp only [Bm,List.any_eq_true,Bool.and_eq_true] at he;obtain ⟨e,hm',hb,hj⟩:=he;obtain rfl:=Nat.eq_of_beq_eq_true hj;exact hall e (by simpa using hm') hb
  have reach_listed:∀ {listed:Array Bool},(∀ (j:Nat) o,ops[j]? = some o→listed.getD j false=true→∀ e∈o.after,Region.binds .any e=true→listed.getD e.on false=true)→∀ i j,Reach ops i j→(∀ o m,ops[i]? = some o→Bm o m=true→listed.getD m false=true)→listed.getD j false=true:=by
    intro listed hcl i j hr
    induction hr with
    | one ho he=>intro h;exact h _ _ ho he
    | more ho he _ ih =>
      intro h;have hm':=h _ _ ho he;refine ih (fun o m ho2 he2=>?_);simp only [Bm,List.any_eq_true,Bool.and_eq_true] at he2;obtain ⟨e,hin,hb,hj⟩:=he2;obtain rfl:=Nat.eq_of_beq_eq_true hj;exact hcl _ o ho2 hm' e (by simpa using hin) hb
  have tail:∀ (f m:Nat) (listed:Array Bool) (a:Act) (w:World),k≤m→ops.length - m≤f→(∀ j,j<m→j<ops.length→listed.getD j false=true)→(∀ j,m≤j→j<ops.length→listed.getD j true=false)→
      wpList P ops.toArray Q (ops.drop m) a w→wpAny P .any ops.toArray Q f listed a w:=by
    intro f
    induction f with
    | zero =>
      intro m listed a w hkm hf h1 h2 h;rw [List.drop_eq_nil_of_le (by omega)] at h;refine ⟨?_,h⟩
      cases hr:Region.ready .any ops.toArray listed with
      | nil=>rfl
      | cons i r =>
        obtain ⟨g1,o,ho,_⟩:=mem_ready.1 (hr ▸ List.mem_cons_self .. : i∈Region.ready .any ops.toArray listed);rw [hge] at ho;have hi:=(List.getElem?_eq_some_iff.1 ho).1;have:=h1 i (by omega) hi
        simp [Array.getD_eq_getD_getElem?] at this g1
        cases hh:listed[i]?<;>simp [hh] at this g1
        rw [this] at g1;cases g1
    | succ f ih =>
      intro m listed a w hkm hf h1 h2 h;have only:∀ i∈Region.ready .any ops.toArray listed,i=m:=by
        intro i hi;obtain ⟨g1,o,ho,hall⟩:=mem_ready.1 hi;have ho':=ho;rw [hge] at ho';have hil:=(List.getElem?_eq_some_iff.1 ho').1
        by_cases hlt:i<m
        · have:=h1 i hlt hil
          simp [Array.getD_eq_getD_getElem?] at this g1
          cases hh:listed[i]?<;>simp [hh] at this g1
          rw [this] at g1;cases g1
        · by_cases e:i=m
          · exact e
          · have:=reach_listed (listed:=listed) (fun j o hj hl e he hbnd=>by
                have hjl:=(List.getElem?_eq_some_iff.1 hj).1;have hjm:j<m:=by
                  rcases Nat.lt_or_ge j m with h | h
                  · exact h
                  · have h3:=h2 j h hjl
                    simp [Array.getD_eq_getD_getElem?] at hl h3
                    cases hh:listed[j]?<;>simp [hh] at hl h3
                    rw [hl] at h3;cases h3
                have:=Bf hback j o hj e he hbnd;exact h1 e.on (by omega) (by omega)) i m (hreach i m (by omega) hil (by omega)) (fun o2 q ho2 he2=>by
                rw [ho'] at ho2;obtain rfl:=Option.some.inj ho2;exact edge_listed hi ho' he2)
            have h3:=h2 m (Nat.le_refl _) (by omega)
            simp [Array.getD_eq_getD_getElem?] at this h3
            cases hh:listed[m]?<;>simp [hh] at this h3
            rw [this] at h3;cases h3
      refine ⟨fun hr=>?_,fun i hi=>?_⟩
      · by_cases hml:m<ops.length
        · exfalso
          have:m∈Region.ready .any ops.toArray listed:=by
            refine mem_ready.2 ⟨h2 m (Nat.le_refl _) hml,ops[m],by simp [hml],fun e he hbnd=>?_⟩;have:=Bf hback m ops[m] (by simp [hml]) e he hbnd;exact h1 e.on (by omega) (by omega)
          rw [hr] at this;cases this
        · rw [List.drop_eq_nil_of_le (by omega)] at h;exact h
      · obtain rfl:=only i hi
        obtain ⟨g1,o,ho,_⟩:=mem_ready.1 hi;rw [hge] at ho;have hil:=(List.getElem?_eq_some_iff.1 ho).1;have hdrop:ops.drop i=o::ops.drop (i+1):=by
          rw [List.drop_eq_getElem_cons hil];congr 1;exact (List.getElem?_eq_some_iff.1 ho).2
        rw [hdrop] at h;have K:∀ a w,wpList P ops.toArray Q (ops.drop (i+1)) a w→wpAny P .any ops.toArray Q f (listed.setIfInBounds i true) a w:=by
          intro a w hh;refine ih (i+1) _ a w (by omega) (by omega) (fun j hj hjl=>?_) (fun j hj hjl=>?_) hh
          · by_cases e:i=j
            · subst e
              have hsz:i<listed.size:=by
                rcases Nat.lt_or_ge i listed.size with h' | h'
                · exact h'
                · simp [Array.getElem?_eq_none h'] at g1
              simp [hsz]
            · rw [getD_set_ne false e];exact h1 j (by omega) hjl
          · rw [getD_set_ne true (by omega)];exact h2 j (by omega) hjl
        unfold wpOp
        rw [hge,ho]
        unfold wpList at h
        show (if Region.wanted o (yielded ops.toArray a.tmps) then _ else _)
        split
        · rename_i hw
          rw [if_pos hw] at h;exact h.imp (Oper.wp_mono K) (fun x=>x)
        · rename_i hw
          rw [if_neg hw] at h;exact K _ _ h
  have hskl:s<ops.length:=Nat.blt_eq.mp hsl;have hsk':s<k:=Nat.blt_eq.mp hsk;have hnodst:∀ (j:Nat) (o:Oper),(ops.take k)[j]? = some o→j≠s→o.dst≠none:=fun j o hj hne=>hdall j o hj hne;have head:∀ (f:Nat) (listed:Array Bool) (a:Act) (w:World) (g:G),listed.size=ops.length→(List.range ops.length).countP (fun i=>!listed.getD i true)≤f→(∀ j,k≤j→j<ops.length→listed.getD j true=false)→(∀ (j:Nat) o,ops[j]? = some o→listed.getD j false=true→∀ e∈o.after,Region.binds .any e=true→listed.getD e.on false=true)→
      Fr n a F→S (listed.getD s false) g w→(∀ i,i<k→i<ops.length→i≠s→listed.getD i false=true→φ i g (a.tmps.getD (BX ops i) undef) w)→wpAny P .any ops.toArray Q f listed a w:=by
    intro f
    induction f with
    | zero =>
      intro listed a w g hsz hc h2 hcl hF hS hφ';have all:∀ j,j<ops.length→listed.getD j true=true:=by
        intro j hj;have h0:(List.range ops.length).countP (fun i=>!listed.getD i true)=0:=by omega
        have:=List.countP_eq_zero.1 h0 j (by simpa using hj)
        simpa using this
      have all':∀ j,j<ops.length→listed.getD j false=true:=by
        intro j hj;have:=all j hj;have hjs:j<listed.size:=by omega
        simpa [Array.getD_eq_getD_getElem?,hjs] using this
      have hlen:ops.length≤k:=by
        rcases Nat.lt_or_ge k ops.length with h | h
        · have e1:=h2 k (Nat.le_refl _) h
          rw [all k h] at e1;cases e1
        · exact h
      refine tail 0 k listed a w (Nat.le_refl _) (by omega) (fun j _ hj=>all' j hj) (fun j hj hjl=>by omega)<|hend a w g hF (by rw [all' s hskl] at hS;exact hS) (fun i hi hil hne=>hφ' i (Nat.blt_eq.mp hi) (Nat.blt_eq.mp hil) (fun e=>by subst e;simp at hne) (all' i (Nat.blt_eq.mp hil)))
    | succ f ih =>
      intro listed a w g hsz hc h2 hcl hF hS hφ'
      by_cases all:∀ j,j<k→j<ops.length→listed.getD j false=true
      · refine tail (f+1) k listed a w (Nat.le_refl _) ?_ all h2 (hend a w g hF (by rw [all s hsk' hskl] at hS;exact hS) (fun i hi hil hne=>hφ' i (Nat.blt_eq.mp hi) (Nat.blt_eq.mp hil) (fun e=>by subst e;simp at hne) (all i (Nat.blt_eq.mp hi) (Nat.blt_eq.mp hil))))
        have hge':∀ (m:Nat),m≤ops.length→m - k≤(List.range m).countP (fun i=>!listed.getD i true):=by
          intro m
          induction m with
          | zero=>intro _;simp
          | succ m ihm =>
            intro hm';have:=ihm (by omega);rw [List.range_succ,List.countP_append]
            by_cases hkm:k≤m
            · have e1:=h2 m hkm (by omega)
              have e2:List.countP (fun i=>!listed.getD i true) [m]=1:=by rw [List.countP_cons,e1];rfl
              omega
            · omega
        have:=hge' ops.length (Nat.le_refl _)
        omega
      · have step:∀ i∈Region.ready .any ops.toArray listed,i<k:=by
          intro i hi
          rcases Nat.lt_or_ge i k with h | h
          · exact h
          · exfalso
            obtain ⟨g1,o,ho,_⟩:=mem_ready.1 hi;rw [hge] at ho;have hil:=(List.getElem?_eq_some_iff.1 ho).1;exact all (fun j hj hjl=>reach_listed hcl i j (hreach i j h hil (by omega)) (fun o2 q ho2 he2=>by
              rw [ho] at ho2;obtain rfl:=Option.some.inj ho2;exact edge_listed hi ho he2))
        refine ⟨fun hr=>?_,fun i hi=>?_⟩
        · exfalso
          apply all
          intro j
          induction j using Nat.strongRecOn with
          | _ j ihj =>
            intro hjk hjl
            cases hl:listed.getD j false with
            | true=>rfl
            | false =>
              have hjs:j<listed.size:=by omega
              have hm':j∈Region.ready .any ops.toArray listed:=by
                refine mem_ready.2 ⟨?_,ops[j],by simp [hjl],fun e he hbnd=>?_⟩
                · simpa [Array.getD_eq_getD_getElem?,hjs] using hl
                · have:=Bf hback j ops[j] (by simp [hjl]) e he hbnd
                  exact ihj e.on (by omega) (by omega) (by omega)
              rw [hr] at hm';cases hm'
        · have hik:=step i hi
          obtain ⟨g1,o,ho,hall'⟩:=mem_ready.1 hi;rw [hge] at ho;have hil:=(List.getElem?_eq_some_iff.1 ho).1;have hti:(ops.take k)[i]? = some o:=by rw [List.getElem?_take,if_pos hik];exact ho
          obtain ⟨hd6,hdd⟩:=CM hdst i o hti;have hnl:listed.getD i false=false:=by
            have:i<listed.size:=by omega
            simp [Array.getD_eq_getD_getElem?,this] at g1 ⊢;exact g1
          have hdep:JS ops k s φ o g a w:=fun j hj hjs he=>by
            have hj':j<k:=Nat.blt_eq.mp hj;have hl:=edge_listed hi ho he;have hjl:j<ops.length:=by
              rcases Nat.lt_or_ge j listed.size with h | h
              · omega
              · simp [Array.getElem?_eq_none h] at hl
            exact hφ' j hj' hjl (fun e=>by subst e;simp at hjs) hl
          have rest:∀ (v:Value) (w':World) (g':G),S ((listed.setIfInBounds i true).getD s false) g' w'→(i≠s→φ i g' v w')→(∀ j u,j≠i→φ j g u w→φ j g' u w')→wpAny P .any ops.toArray Q f (listed.setIfInBounds i true) (a.put o.dst v) w':=by
            intro v w' g' hS' hvi hoth;have hF':Fr n (a.put o.dst v) F:=by
              cases hd:o.dst with
              | none=>exact hF
              | some d =>
                obtain ⟨hd2,hd3,_⟩:=hdd d hd;have:=hF.put d v (Nat.blt_eq.mpr hd2);refine ⟨this.defers,this.size,fun t u ht=>this.get t u ?_⟩;simp only [lk];have hne:¬ d=t:=fun e=>by subst e;rw [hd3] at ht;cases ht
                rw [HZ hne];exact ht
            refine ih _ _ _ g' (by simpa using hsz) ?_ (fun j hj hjl=>?_) (fun j oj hoj hl e he hb=>?_) hF' hS' (fun j hj hjl hjs hl=>?_)
            · have:(List.range ops.length).countP (fun j=>!(listed.setIfInBounds i true).getD j true)<(List.range ops.length).countP (fun j=>!listed.getD j true):=by
                refine Dg (fun x hx=>?_) ⟨i,by simpa using hil,by simpa using g1,?_⟩
                · by_cases e:i=x
                  · subst e;simp only [g1];rfl
                  · rw [getD_set_ne true e] at hx;exact hx
                · have:i<listed.size:=by omega
                  simp [this]
              omega
            · rw [getD_set_ne true (by omega)];exact h2 j hj hjl
            · refine getD_set_true ?_
              by_cases ej:j=i
              · subst ej
                rw [ho] at hoj;obtain rfl:=Option.some.inj hoj;exact hall' e he hb
              · rw [getD_set_ne false (Ne.symm ej)] at hl
                exact hcl j oj hoj hl e he hb
            · by_cases e:j=i
              · subst e
                have hv:=hvi hjs
                cases hd:o.dst with
                | none=>simp only [BX,ho,Option.bind_some,hd] at hv ⊢;exact absurd hd (by
                    intro _;exact hnodst j o hti hjs hd)
                | some d =>
                  obtain ⟨hd2,_⟩:=hdd d hd;have hdo:BX ops j=d:=by simp [BX,ho,hd]
                  rw [hdo];have:(a.put (some d) v).tmps.getD d undef=v:=by simp [Act.put,hF.size,hd2]
                  rw [this];exact hv
              · rw [getD_set_ne false (Ne.symm e)] at hl
                have hold:=hoth j _ e (hφ' j hj hjl hjs hl)
                cases hd:o.dst with
                | none=>exact hold
                | some d =>
                  obtain ⟨hd2,hd3,_,hd5⟩:=hdd d hd;have hoj:ops[j]? = some ops[j]:=by simp [hjl]
                  have htj:(ops.take k)[j]? = some ops[j]:=by rw [List.getElem?_take,if_pos hj];exact hoj
                  have hdn:BX ops j≠d:=by
                    intro e2
                    cases hdj:(ops[j]).dst with
                    | none=>exact hnodst j _ htj hjs hdj
                    | some d' =>
                      have:BX ops j=d':=by simp only [BX,hoj,Option.bind_some,hdj,Option.getD_some]
                      rw [this] at e2;subst e2
                      rcases Nat.lt_or_gt_of_ne e with h | h
                      · exact hd5 j ops[j] h htj hdj
                      · exact ((CM hdst j ops[j] htj).2 _ hdj).2.2.2 i o h hti hd
                  have:(a.put (some d) v).tmps.getD (BX ops j) undef=a.tmps.getD (BX ops j) undef:=by
                    simp [Act.put,Array.getElem?_setIfInBounds_ne (Ne.symm hdn)]
                  rw [this];exact hold
          have hdoes:=StepsG.get hsteps i o hti;rw [Nat.zero_add] at hdoes
          unfold wpOp
          rw [hge,ho]
          show (if Region.wanted o (yielded ops.toArray a.tmps) then _ else _)
          rw [if_pos (by simp [Region.wanted,hd6])]
          by_cases his:i=s
          · subst his
            rw [if_pos (by simp)] at hdoes;rw [hnl] at hS;refine .inl ((hdoes a w g hF hS hdep).run _ _ fun v w' ⟨g',hv,hoth⟩=>rest v w' g' ?_ (fun e=>absurd rfl e) (fun j u _ h=>hoth j u h));have:i<listed.size:=by omega
            have e1:(listed.setIfInBounds i true).getD i false=true:=by simp [this]
            rw [e1];exact hv
          · rw [if_neg (by simpa using his)] at hdoes
            refine .inl ((hdoes a w (listed.getD s false) g hF hS (fun he=>?_) hdep).run _ _ fun v w' ⟨g',hv,h2,h3⟩=>rest v w' g' ?_ (fun _=>h2) h3)
            · cases hb:listed.getD s false with
              | false=>rfl
              | true =>
                exfalso
                unfold Fj at he
                have hos:ops[s]? = some ops[s]:=by simp [hskl]
                rw [hos] at he;simp only [Bm,List.any_eq_true,Bool.and_eq_true] at he;obtain ⟨e,hin,hb2,hj⟩:=he;have hj:=Nat.eq_of_beq_eq_true hj;have:=hcl s _ hos hb e (by simpa using hin) hb2;rw [hj,hnl] at this;cases this
            · rw [getD_set_ne false his];exact hv
  refine head ops.toArray.size (Array.replicate ops.toArray.size false) a _ g (by simp) ?_ (fun j _ hj=>by simp [hj]) (fun j o hj hl e he hbnd=>by have hjl:=(List.getElem?_eq_some_iff.1 hj).1;simp [hjl] at hl) hF (by simp [hskl];exact hdr _ _ _ hS) (fun i _ hi _ hl=>by simp [hi] at hl)
  · have:=List.countP_le_length (l:=List.range ops.length) (p:=fun i=>!(Array.replicate ops.toArray.size false).getD i true)
    simpa using this
end
def C1 (kt:Nat) (l:List Fact):Facts Own:=fun i L u w=>match l[i]? with
  | some (.own k cs mk)=>if k=kt then ∃ b cs',u=mk b∧L[k]? = some (some (b,cs')) else ∃ b,u=mk b∧L[k]? = some (some (b,cs))
  | some (.val v)=>u=v
  | some (.rel _)=>True
  | none=>True
def Ij (X:List Nat) (w0:World) (D:BI) (W:List Nat) (L0:Own) (kt:Nat) (csO csN:Array Value) (bb:Bool) (L:Own) (w:World):Prop:=
  Par X w0 D W L0 L w∧∀ b cs,L[kt]? = some (some (b,cs))→cs=(if bb then csN else csO)
section
variable {X : List Nat} {w0 w : World} {D : BI} {W : List Nat} {L0 L : Own} {kt : Nat} {csO csN : Array Value} {bb : Bool} {l : List Fact} {i : Nat} {o : Oper} {a : Act}
theorem GC {v:Value}(hS:Ij X w0 D W L0 kt csO csN bb L w)(hi:l[i]? = some (.val v))(hg:BW P o a w v):Does P o a w (D7 (Ij X w0 D W L0 kt csO csN) (C1 kt l) bb i L w):=
  hg.mono fun u w' ⟨h1,h2⟩=>by subst h2;exact ⟨L,hS,by unfold C1;rw [hi];exact h1,fun j u _ h=>h⟩
theorem FN {w':World}{k:Nat}{x:Option (Nat×Array Value)}(h1:DP k i l 0=true)(j:Nat)(u:Value)(hj:j≠i)(h:C1 kt l j L u w):C1 kt l j (L.set k x) u w':=by
  unfold C1 at *
  cases e:l[j]? with
  | none=>trivial
  | some f =>
    rw [e] at h;have hp:=Dz h1 j f e (by omega)
    cases f with
    | val v=>exact h
    | rel R=>trivial
    | own q ds mk' =>
      have hne:¬ k=q:=fun e=>hp (by subst e;rfl)
      dsimp only at h ⊢
      split
      · rename_i e2;rw [if_pos e2] at h;obtain ⟨b,cs',h3,h4⟩:=h
        exact ⟨b,cs',h3,by rw [List.getElem?_set,if_neg hne];exact h4⟩
      · rename_i e2;rw [if_neg e2] at h;obtain ⟨b,h3,h4⟩:=h
        exact ⟨b,h3,by rw [List.getElem?_set,if_neg hne];exact h4⟩
theorem Mw {mk:Nat→Value}(hS:Ij X w0 D W L0 kt csO csN false L w)(hi:l[i]? = some (.own kt csO mk))(hk:Cf kt W=true)(hkl:Nat.blt kt L0.length=true)(h1:DP kt i l 0=true)
    (hg:Does P o a w (fun u w'=>∃ b,u=mk b∧MemX X w0 w' (L.set kt (some (b,csO))) D∧Ext w w')):Does P o a w (D7 (Ij X w0 D W L0 kt csO csN) (C1 kt l) false i L w):=
  hg.mono fun u w' ⟨b,hu,hM,hx⟩=>by
    have hkl':kt<L.length:=by rw [hS.1.2.1];exact Nat.blt_eq.mp hkl
    refine ⟨L.set kt (some (b,csO)),⟨⟨hM,hS.1.2.set kt hk _⟩,fun c cs hc=>?_⟩,?_,fun j u hj h=>FN h1 j u hj h⟩
    · simp [hkl'] at hc;simp [hc.2]
    · unfold C1;rw [hi];dsimp only;rw [if_pos rfl];exact ⟨b,csO,hu,by simp [hkl']⟩
theorem LE {ia:Nat}{mk:Nat→Value}{u:Value}(hS:Ij X w0 D W L0 kt csO csN false L w)(hi:l[ia]? = some (.own kt csO mk))(hk:Cf kt W=true)(h1:DP kt ia l 0=true)(hu:C1 kt l ia L u w)
    (hg:∀ b,u=mk b→MemX X w0 w L D→L[kt]? = some (some (b,csO))→Does P o a w (fun _ w'=>MemX X w0 w' (L.set kt (some (b,csN))) D)) :
    Does P o a w (fun _ w'=>Jy (Ij X w0 D W L0 kt csO csN) (C1 kt l) true L w w'):=by
  have hu':=hu
  unfold C1 at hu'
  rw [hi] at hu'
  dsimp only at hu'
  rw [if_pos rfl] at hu';obtain ⟨b,cs',h3,h4⟩:=hu';have h5:=hS.2 b cs' h4;simp only [Bool.false_eq_true,if_false] at h5;rw [h5] at h4;have hkl:kt<L.length:=(List.getElem?_eq_some_iff.1 h4).1;refine (hg b h3 hS.1.1 h4).mono fun v w' hM=>⟨L.set kt (some (b,csN)),⟨⟨hM,hS.1.2.set kt hk _⟩,fun c cs hc=>?_⟩,fun j u h=>?_⟩
  · simp [hkl] at hc;simp [hc.2]
  · by_cases e:j=ia
    · subst e
      unfold C1 at h ⊢
      rw [hi] at h ⊢
      dsimp only at h ⊢
      rw [if_pos rfl] at h ⊢;obtain ⟨c,ds,h6,h7⟩:=h;rw [h4] at h7
      simp at h7
      exact ⟨c,csN,h6,by simp [hkl,h7.1]⟩
    · exact FN h1 j u e h
end
end Go.Sw
namespace Go.Sw
open Go Go.RowKit
variable {P : Program}
def BF (m:Nat) (V:Nat→Nat→Nat):Array Value:=Ag (m*6) (fun c=>.int .u8 (V (c / 6) (c%6):Int))
def Ay (l:List (Nat→Nat)) (i:Nat):Nat→Nat:=l.getD i (fun _=>0)
theorem Hj {m:Nat}{V:Nat→Nat→Nat}(i:Nat){o e:Nat}(h:o=i*6)(he:e=o+6)(hi:i<m):(BF m V).extract o e=AI (V i):=by
  subst h;have h1:i*6+6≤m*6:=by omega
  exact Cg he (by unfold BF;rw [Bp];omega) fun k hk=>by
    unfold BF
    rw [CW (by omega),show (i*6+k) / 6=i by omega,show (i*6+k)%6=k by omega]
theorem Gy {m:Nat}{V:Nat→Nat→Nat}:(BF m V).size=m*6:=Bp _ _
section
variable {n : Nat} {F : List (Nat × Value)} {a : Act} {w : World} {d : Option Tmp} {t : TypeId} {pos : String} {af : Array Edge} {gd : Option (Nat × Bool)} {x : Operand}
theorem DX {x0 x1:Operand}{v0 v1:Value}(hF:Fr n a F)(h0:look F x0=some v0)(h1:look F x1=some v1):(#[(0,x0),(1,x1)]:Array (Nat×Operand)).toList.map (fun p=>(p.1,a.eval p.2))=[(0,v0),(1,v1)]:=by simp [hF.eval h0,hF.eval h1]
theorem FO {x0 x1 x2:Operand}{v0 v1 v2:Value}(hF:Fr n a F)(h0:look F x0=some v0)(h1:look F x1=some v1)(h2:look F x2=some v2):(#[(0,x0),(1,x1),(2,x2)]:Array (Nat×Operand)).toList.map (fun p=>(p.1,a.eval p.2))=[(0,v0),(1,v1),(2,v2)]:=by simp [hF.eval h0,hF.eval h1,hF.eval h2]
end
end Go.Sw
namespace Go.Sw
open Go Go.RowKit
variable {P : Program}
section
variable {n : Nat} {F : List (Nat × Value)} {a : Act} {w : World} {d : Option Tmp} {t : TypeId} {pos : String} {af : Array Edge} {gd : Option (Nat × Bool)} {T : TypeId} {x : Operand}
theorem HH {k b o s:Nat}{e:TypeId}(hT:P.underlying T=some (.array k e))(he:DO P e=some s)(hk:0<k)(hF:Fr n a F)(hx:look F x=some (ptr b o)):BW P ⟨d,.slice T x none none none,t,pos,af,gd⟩ a w (.slice (some ⟨b,o,none⟩) k k):=
  An (by
    have h2:=run_sizeOf he w
    have h3:¬ k=0:=by omega
    simp [execOp,Instr.sliceAt,run_underlying hT,hF.eval hx,Instr.sureAddr,Instr.sliceBounds,h2,h3,Addr.add_lit])
end
theorem MemX.ne2 {X:List Nat}{w0 w:World}{L:Own}{D:BI}(h:MemX X w0 w L D){i j b c:Nat}{cs ds:Array Value}(hi:L[i]? = some (some (b,cs)))(hj:L[j]? = some (some (c,ds)))(hne:i≠j):b≠c:=fun e=>by
  subst e;exact hne (h.apart i j _ _ _ hi hj)
end Go.Sw
namespace Go.Ech
theorem Ey (f:Nat→Int)(k:Int)(n:Nat):sI f n*k=sI (fun i=>f i*k) n:=by
  rw [Int.mul_comm,← Dj];exact BG fun i _=>Int.mul_comm _ _
theorem Ee (f g:Nat→Int)(n:Nat):sI f n - sI g n=sI (fun i=>f i - g i) n:=by
  have:=Ef (fun i=>f i - g i) g n;rw [show (fun i=>(f i - g i)+g i)=f from by funext i;omega] at this;omega
def Pr (n:Nat) (T:Nat→Nat→Nat→Nat) (x y:Nat→Int) (c:Nat):Int:=sI (fun a=>sI (fun b=>x a*y b*(T a b c:Int)) n) n
theorem HM {p:Int}{n:Nat}{T:Nat→Nat→Nat→Nat}{x x' y y':Nat→Int}(hx:∀ a,a<n→p∣x a - x' a)(hy:∀ b,b<n→p∣y b - y' b)(c:Nat):p∣Pr n T x y c - Pr n T x' y' c:=by
  unfold Pr
  rw [Ee];refine DV fun a ha=>?_;rw [Ee];refine DV fun b hb=>?_;have e:x a*y b*(T a b c:Int) - x' a*y' b*(T a b c:Int)=(x a - x' a)*(y b*(T a b c:Int))+x' a*((y b - y' b)*(T a b c:Int)):=by grind
  rw [e];exact Int.dvd_add (Int.dvd_mul_of_dvd_left (hx a ha)) (Int.dvd_mul_of_dvd_right (Int.dvd_mul_of_dvd_left (hy b hb)))
theorem KK {n:Nat}{T:Nat→Nat→Nat→Nat}{x v:Nat→Int}{c:Nat}:Pr n T x v c=sI (fun a=>x a*sI (fun b=>v b*(T a b c:Int)) n) n:=by
  unfold Pr
  exact BG fun a _=>by rw [← Dj];exact BG fun b _=>by grind
theorem JO {n:Nat}{T:Nat→Nat→Nat→Nat}{x v:Nat→Int}{c:Nat}:Pr n T v x c=sI (fun b=>x b*sI (fun a=>v a*(T a b c:Int)) n) n:=by
  unfold Pr
  rw [DY];exact BG fun b _=>by rw [← Dj];exact BG fun a _=>by grind
def Kx (p n:Nat) (T:Nat→Nat→Nat→Nat):Prop:=∀ i,i<n→∀ j,j<n→∀ k,k<n→∀ d,d<n→(p:Int)∣sI (fun a=>(T i j a:Int)*(T a k d:Int)) n - sI (fun b=>(T j k b:Int)*(T i b d:Int)) n
theorem HN {p n:Nat}{T:Nat→Nat→Nat→Nat}(h:Kx p n T)(x v w:Nat→Int){d:Nat}(hd:d<n):(p:Int)∣Pr n T (Pr n T x v) w d - Pr n T x (Pr n T v w) d:=by
  have e1:Pr n T (Pr n T x v) w d=sI (fun i=>sI (fun j=>sI (fun k=>(x i*v j*w k)*sI (fun a=>(T i j a:Int)*(T a k d:Int)) n) n) n) n:=by
    have h1:Pr n T (Pr n T x v) w d=sI (fun a=>sI (fun k=>sI (fun i=>sI (fun j=>x i*v j*w k*((T i j a:Int)*(T a k d:Int))) n) n) n) n:=by
      unfold Pr
      refine BG fun a _=>BG fun k _=>?_;rw [Ey,Ey];refine BG fun i _=>?_;rw [Ey,Ey];exact BG fun j _=>by grind
    rw [h1];have h2:sI (fun a=>sI (fun k=>sI (fun i=>sI (fun j=>x i*v j*w k*((T i j a:Int)*(T a k d:Int))) n) n) n) n=sI (fun a=>sI (fun i=>sI (fun k=>sI (fun j=>x i*v j*w k*((T i j a:Int)*(T a k d:Int))) n) n) n) n:=BG fun a _=>DY _ _ _;have h3:sI (fun a=>sI (fun i=>sI (fun k=>sI (fun j=>x i*v j*w k*((T i j a:Int)*(T a k d:Int))) n) n) n) n=sI (fun a=>sI (fun i=>sI (fun j=>sI (fun k=>x i*v j*w k*((T i j a:Int)*(T a k d:Int))) n) n) n) n:=BG fun a _=>BG fun i _=>DY _ _ _;rw [h2,h3,DY];refine BG fun i _=>?_;rw [DY];refine BG fun j _=>?_;rw [DY];exact BG fun k _=>Dj _ _ _
  have e2:Pr n T x (Pr n T v w) d=sI (fun i=>sI (fun j=>sI (fun k=>(x i*v j*w k)*sI (fun b=>(T j k b:Int)*(T i b d:Int)) n) n) n) n:=by
    have h1:Pr n T x (Pr n T v w) d=sI (fun i=>sI (fun b=>sI (fun j=>sI (fun k=>x i*v j*w k*((T j k b:Int)*(T i b d:Int))) n) n) n) n:=by
      unfold Pr
      refine BG fun i _=>BG fun b _=>?_;rw [← Dj,Ey];refine BG fun j _=>?_;rw [← Dj,Ey];exact BG fun k _=>by grind
    rw [h1];refine BG fun i _=>?_;rw [DY];refine BG fun j _=>?_;rw [DY];exact BG fun k _=>Dj _ _ _
  rw [e1,e2,Ee];refine DV fun i hi=>?_;rw [Ee];refine DV fun j hj=>?_;rw [Ee];refine DV fun k hk=>?_;rw [← Int.mul_sub];exact Int.dvd_mul_of_dvd_right (h i hi j hj k hk d hd)
theorem Da {p n:Nat}{T:Nat→Nat→Nat→Nat}{u:Nat→Nat}(hu:UnitI p n T u)(w:Nat→Int){d:Nat}(hd:d<n):(p:Int)∣Pr n T (ci u) w d - w d:=by
  rw [JO];have e:w d=sI (fun b=>w b*(dl b d:Int)) n:=by
    rw [Dx hd]
    · simp [dl]
    · intro i _ hne;simp [dl,hne]
  rw [e,Ee];refine DV fun b hb=>?_;rw [← Int.mul_sub];exact Int.dvd_mul_of_dvd_right (hu.right b hb d hd)
theorem FD {p n:Nat}{T:Nat→Nat→Nat→Nat}{u:Nat→Nat}(hu:UnitI p n T u)(w:Nat→Int){d:Nat}(hd:d<n):(p:Int)∣Pr n T w (ci u) d - w d:=by
  rw [KK];have e:w d=sI (fun b=>w b*(dl b d:Int)) n:=by
    rw [Dx hd]
    · simp [dl]
    · intro i _ hne;simp [dl,hne]
  rw [e,Ee];refine DV fun b hb=>?_;rw [← Int.mul_sub];exact Int.dvd_mul_of_dvd_right (hu.left b hb d hd)
structure InvI (p n:Nat) (T:Nat→Nat→Nat→Nat) (u v w:Nat→Nat):Prop where
  small:∀ c,w c<p
  out:∀ c,n≤c→w c=0
  right:∀ c,c<n→(p:Int)∣Pr n T (ci w) (ci v) c - (u c:Int)
  left:∀ c,c<n→(p:Int)∣Pr n T (ci v) (ci w) c - (u c:Int)
theorem JD {p n:Nat}{T:Nat→Nat→Nat→Nat}{u v w:Nat→Nat}{x:Nat→Int}(ha:Kx p n T)(hu:UnitI p n T u)(hl:∀ c,c<n→(p:Int)∣Pr n T (ci v) (ci w) c - (u c:Int))(hx:∀ c,c<n→(p:Int)∣Pr n T x (ci v) c - (u c:Int)){d:Nat}(hd:d<n):(p:Int)∣x d - (w d:Int):=by
  have h1:=HN ha x (ci v) (ci w) hd;have h2:(p:Int)∣Pr n T (Pr n T x (ci v)) (ci w) d - Pr n T (ci u) (ci w) d:=HM (fun a h=>hx a h) (fun b _=>by simp) d;have h3:(p:Int)∣Pr n T x (Pr n T (ci v) (ci w)) d - Pr n T x (ci u) d:=HM (fun a _=>by simp) (fun b h=>hl b h) d;have h4:=Da hu (ci w) hd;have h5:=FD hu x hd;have a1:=Int.dvd_sub h1 h2;have a2:=Int.dvd_add a1 h3;have a3:=Int.dvd_add a2 h5;have a4:=Int.dvd_sub a3 h4;have e:∀ A B C D X W:Int,A - B - (A - C)+(B - D)+(D - X) - (C - W)=W - X:=by intro A B C D X W;omega
  rw [e] at a4;have:=Int.dvd_neg.2 a4
  rwa [show -((w d:Int) - x d)=x d - (w d:Int) by omega] at this
theorem InvI.unique {p n:Nat}{T:Nat→Nat→Nat→Nat}{u v w y:Nat→Nat}(ha:Kx p n T)(hu:UnitI p n T u)(hw:InvI p n T u v w)(hy:InvI p n T u v y):y=w:=by
  funext c
  by_cases hc:c<n
  · exact DG (hy.small c) (hw.small c) (JD ha hu hw.left hy.right hc)
  · rw [hw.out c (by omega),hy.out c (by omega)]
end Go.Ech
