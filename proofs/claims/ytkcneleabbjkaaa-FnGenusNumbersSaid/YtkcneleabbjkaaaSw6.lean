import Derived.Test.YtkcneleabbjkaaaSw3
import Derived.Orders
import Derived.Scope
set_option linter.unusedVariables false
set_option linter.unusedSimpArgs false
namespace Go.Sw
open Go Go.RowKit
variable {P : Program}
def B4 (o:Oper) (j:Nat):Bool:=o.after.toList.any fun e=>Region.binds .any e && Nat.beq e.on j
def Fq:List Oper->Nat->Bool
  | [],_=>true
  | o::r,i=>(o.after.toList.all fun e=>!(Region.binds .any e) || Nat.blt e.on i) && Fq r (i+1)
def L6 (o:Oper) (acc:List Nat):Nat:=o.after.toList.foldl (fun s e=>if Region.binds .any e then s ||| 2 ^ e.on ||| acc.getD e.on 0 else s) 0
def MY:List Oper->List Nat->List Nat
  | [],acc=>acc
  | o::r,acc=>MY r (acc++[L6 o acc])
def H8 (x:Nat):Nat->Bool
  | 0=>true
  | j+1=>x.testBit j && H8 x j
def Fc (ms:List Nat) (n:Nat):Nat->Nat->Bool
  | 0,_=>true
  | f+1,i=>(if Nat.blt i n then H8 (ms.getD i 0) i else true) && Fc ms n f (i+1)
def Lr (ops:List Oper) (k:Nat):Bool:=Fq ops 0 && Fc (MY ops []) ops.length ops.length k
inductive Reach (ops:List Oper):Nat->Nat->Prop
  | one {i j:Nat} {o:Oper}:ops[i]? = some o->B4 o j=true->Reach ops i j
  | more {i m j:Nat} {o:Oper}:ops[i]? = some o->B4 o m=true->Reach ops m j->Reach ops i j
theorem G1 {x:Nat}:∀ {k:Nat},H8 x k=true->∀ j,j<k->x.testBit j=true
  | 0,_,j,h=>by omega
  | k + 1, ha, j, h => by
    simp only [H8,Bool.and_eq_true] at ha
    by_cases e:j=k
    . subst e;exact ha.1
    . exact G1 ha.2 j (by omega)
theorem DK {ms:List Nat}{n:Nat}:∀ {f i:Nat},Fc ms n f i=true->∀ m,i<=m->m<n->m<i+f->∀ j,j<m->(ms.getD m 0).testBit j=true
  | 0,i,_,m,h1,_,h3,_,_=>by omega
  | f + 1, i, hb, m, h1, h2, h3, j, hj => by
    simp only [Fc,Bool.and_eq_true] at hb
    by_cases e:m=i
    . subst e
      rw [if_pos (Nat.blt_eq.mpr h2)] at hb
      exact G1 hb.1 j hj
    . exact DK hb.2 m (by omega) h2 (by omega) j hj
theorem LA {ops:List Oper}{i:Nat}{o:Oper}{acc:List Nat}(ho:ops[i]? = some o)(hacc:∀ m j,(acc.getD m 0).testBit j=true->Reach ops m j):∀ j,(L6 o acc).testBit j=true->Reach ops i j:=by
  have key:∀ (l:List Edge),(∀ e∈l,e∈o.after.toList)->∀ (s j:Nat),(l.foldl (fun s e=>if Region.binds .any e then s ||| 2 ^ e.on ||| acc.getD e.on 0 else s) s).testBit j=true->s.testBit j=true\/Reach ops i j:=by
    intro l
    induction l with
    | nil=>intro _ s j h;exact .inl h
    | cons e l ih =>
      intro hl s j h;simp only [List.foldl_cons] at h;have hin:=hl e (List.mem_cons_self ..)
      rcases ih (fun x hx=>hl x (List.mem_cons_of_mem _ hx)) _ j h with h | h
      . split at h
        . rename_i hb
          have hedge:B4 o e.on=true:=by
            simp only [B4,List.any_eq_true,Bool.and_eq_true];exact ⟨e,hin,hb,by simp⟩
          rw [Nat.testBit_or,Nat.testBit_or,Bool.or_eq_true,Bool.or_eq_true] at h
          rcases h with (h | h) | h
          . exact .inl h
          . rw [Nat.testBit_two_pow] at h
            have:e.on=j:=by simpa using h
            subst this;exact .inr (.one ho hedge)
          . exact .inr (.more ho hedge (hacc _ _ h))
        . exact .inl h
      . exact .inr h
  intro j h
  rcases key o.after.toList (fun e he=>he) 0 j h with h | h
  . simp at h
  . exact h
theorem EM {ops:List Oper}:∀ (r:List Oper) (acc:List Nat),(∀ i,r[i]? = ops[acc.length+i]?)->(∀ m j,(acc.getD m 0).testBit j=true->Reach ops m j)->∀ m j,((MY r acc).getD m 0).testBit j=true->Reach ops m j
  | [],acc,_,hacc,m,j,h=>hacc m j h
  | o :: r, acc, hr, hacc, m, j, h => by
    have ho:ops[acc.length]? = some o:=by simpa using (hr 0).symm
    refine EM r (acc++[L6 o acc]) (fun i=>?_) (fun m j h=>?_) m j h
    . have:=hr (i+1)
      simpa [Nat.add_assoc,Nat.add_comm 1 i] using this
    . by_cases hm:m<acc.length
      . rw [List.getD_eq_getElem?_getD,List.getElem?_append_left hm,← List.getD_eq_getElem?_getD] at h
        exact hacc m j h
      . by_cases e:m=acc.length
        . subst e
          rw [List.getD_eq_getElem?_getD,List.getElem?_append_right (Nat.le_refl _)] at h
          simp at h
          exact LA ho hacc j h
        . rw [List.getD_eq_getElem?_getD,List.getElem?_eq_none (by simp;omega)] at h
          simp at h
theorem Df:∀ {l:List Oper} {i:Nat},Fq l i=true->∀ j o,l[j]? = some o->∀ e∈o.after,Region.binds .any e=true->e.on<i+j
  | [],_,_,j,o,h,_,_=>by simp at h
  | x :: r, i, hb, j, o, h, e, he => by
    intro hJ
    simp only [Fq,Bool.and_eq_true,List.all_eq_true] at hb
    cases j with
    | zero=>simp at h;subst h;have:=hb.1 e (by simpa using he);rw [hJ] at this;simpa using this
    | succ j=>have:=Df hb.2 j o (by simpa using h) e he hJ;omega
theorem Es {α:Type}{p q:α->Bool}:∀ {l:List α},(∀ x,q x=true->p x=true)->(∃ x∈l,p x=true/\q x=false)->l.countP q<l.countP p
  | [],_,⟨x,hx,_⟩=>by cases hx
  | y :: l, h, ⟨x, hx, h1, h2⟩ => by
    have hle:l.countP q<=l.countP p:=List.countP_mono_left (fun x _=>h x)
    simp only [List.countP_cons]
    rcases List.mem_cons.1 hx with e | hx
    . subst e;simp [h1,h2];omega
    . have:=Es h ⟨x,hx,h1,h2⟩
      by_cases hq:q y=true
      . simp [hq,h y hq];omega
      . simp [hq];split<;>omega
section
variable {ops : List Oper} {Q : Exit -> Act -> World -> Prop} {n : Nat} {F : List (Nat × Value)} {G : Type} {S : G -> World -> Prop}
def Br (ops:List Oper) (i:Nat):Nat:=((ops[i]?).bind (·.dst)).getD 0
def Cu (x:Nat):List Nat->Bool
  | []=>false
  | y::r=>Nat.beq x y || Cu x r
def Ie (n:Nat) (F:List (Nat×Value)):List Oper->List Nat->Bool
  | [],_=>true
  | o :: r, seen => o.guard.isNone && (match o.dst with
    | some d=>Nat.blt d n && (lk F d).isNone && !(Cu d seen) && Ie n F r (d::seen)
    | none=>false)
theorem memNat_iff {x:Nat}:∀ {l:List Nat},Cu x l=true↔x∈l
  | []=>by simp [Cu]
  | y::r=>by simp only [Cu,Bool.or_eq_true,List.mem_cons,memNat_iff,Nat.beq_eq]
theorem Fb:∀ {l:List Oper} {seen:List Nat},Ie n F l seen=true->∀ (i:Nat) (o:Oper),l[i]? = some o->∃ d,o.dst=some d/\d<n/\lk F d=none/\d ∉ seen/\(∀ (j:Nat) (o':Oper),j<i->l[j]? = some o'->o'.dst≠some d)/\o.guard=none
  | [],_,_,i,o,h=>by simp at h
  | x :: r, seen, hb, i, o, h => by
    simp only [Ie,Bool.and_eq_true] at hb
    obtain ⟨hgn,hb⟩:=hb
    cases hx:x.dst with
    | none=>simp [hx] at hb
    | some d =>
      simp only [hx,Bool.and_eq_true,Bool.not_eq_true',Option.isNone_iff_eq_none] at hb
      obtain ⟨⟨⟨h1,h2⟩,h3⟩,h4⟩:=hb
      cases i with
      | zero =>
        simp at h;subst h
        exact ⟨d,hx,Nat.blt_eq.mp h1,h2,(fun hm=>by rw [memNat_iff.2 hm] at h3;cases h3),(fun j o' hj=>by omega),by simpa using hgn⟩
      | succ i =>
        obtain ⟨d',g1,g2,g3,g4,g5,g6⟩:=Fb h4 i o (by simpa using h)
        refine ⟨d',g1,g2,g3,fun hm=>g4 (List.mem_cons_of_mem _ hm),fun j o' hj ho'=>?_,g6⟩
        cases j with
        | zero=>simp at ho';subst ho';rw [hx];intro e;obtain rfl:=Option.some.inj e;exact g4 (List.mem_cons_self ..)
        | succ j=>exact g5 j o' (by omega) (by simpa using ho')
abbrev Facts (G:Type):=Nat->G->Value->World->Prop
def PT {G:Type} (ops:List Oper) (k:Nat) (φ:Facts G) (o:Oper) (g:G) (a:Act) (w:World):Prop:=
  ∀ j,Nat.blt j k=true->B4 o j=true->φ j g (a.tmps.getD (Br ops j) undef) w
def After {G:Type} (S:G->World->Prop) (φ:Facts G) (i:Nat) (g:G) (w:World) (v:Value) (w':World):Prop:=
  ∃ g',S g' w'/\φ i g' v w'/\∀ j u,j≠i->φ j g u w->φ j g' u w'
def StepsOk {G:Type} (P:Program) (ops:List Oper) (k n:Nat) (F:List (Nat×Value)) (S:G->World->Prop) (φ:Facts G):List Oper->Nat->Prop
  | [],_=>True
  | o::r,i=>(∀ a w g,Fr n a F->S g w->PT ops k φ o g a w->Does P o a w (After S φ i g w))/\StepsOk P ops k n F S φ r (i+1)
theorem StepsOk.get {k:Nat}{φ:Facts G}:∀ {l:List Oper} {i:Nat},StepsOk P ops k n F S φ l i->∀ (j:Nat) (o:Oper),l[j]? = some o->
    ∀ a w g,Fr n a F->S g w->PT ops k φ o g a w->Does P o a w (After S φ (i+j) g w)
  | [],_,_,j,o,h=>by simp at h
  | x :: r, i, hs, j, o, h => by
    cases j with
    | zero=>simp at h;subst h;exact hs.1
    | succ j=>have:=hs.2.get j o (by simpa using h);rwa [show i+1+j=i+(j+1) by omega] at this
theorem GR {id k:Nat}{a:Act}{w:World}(hm:P.follows .mixedOrders=true)(hk:Lr ops k=true)(O:Fr n a F)(hdst:Ie n F (ops.take k) []=true)(g:G)(hS:S g w)
    (hdr:∀ w,S g w->S g w.drew) (φ:Facts G)
    (hO:StepsOk P ops k n F S φ (ops.take k) 0)
    (hend:∀ a w g,Fr n a F->S g w->(∀ i,i<k->i<ops.length->φ i g (a.tmps.getD (Br ops i) undef) w)->wpList P ops.toArray Q (ops.drop k) a w) :
    (Code.region id ops.toArray true).wp P Q a w:=by
  refine wp_region_any hm ?_;simp only [Lr,Bool.and_eq_true] at hk;obtain ⟨hback,htail⟩:=hk;have hge:∀ (i:Nat),ops.toArray[i]? = ops[i]?:=fun i=>by simp
  have hreach:∀ i j,k<=i->i<ops.length->j<i->Reach ops i j:=fun i j h1 h2 h3=>
    EM ops [] (fun i=>by simp) (fun m j h=>by simp at h) i j (DK htail i h1 h2 (by omega) j h3)
  have edge_listed:∀ {i:Nat} {o:Oper} {listed:Array Bool} {j:Nat},i∈Region.ready .any ops.toArray listed->ops[i]? = some o->B4 o j=true->listed.getD j false=true:=by
    intro i o listed j hi ho he;obtain ⟨_,o',ho',hall⟩:=mem_ready.1 hi;rw [hge,ho] at ho';obtain rfl:=Option.some.inj ho';simp only [B4,List.any_eq_true,Bool.and_eq_true] at he;obtain ⟨e,hm',hb,hj⟩:=he;obtain rfl:=Nat.eq_of_beq_eq_true hj;exact hall e (by simpa using hm') hb
  have reach_listed:∀ {listed:Array Bool},(∀ (j:Nat) o,ops[j]? = some o->listed.getD j false=true->∀ e∈o.after,Region.binds .any e=true->listed.getD e.on false=true)->∀ i j,Reach ops i j->(∀ o m,ops[i]? = some o->B4 o m=true->listed.getD m false=true)->listed.getD j false=true:=by
    intro listed hcl i j hr
    induction hr with
    | one ho he=>intro h;exact h _ _ ho he
    | more ho he _ ih =>
      intro h;have hm':=h _ _ ho he;refine ih (fun o m ho2 he2=>?_);simp only [B4,List.any_eq_true,Bool.and_eq_true] at he2;obtain ⟨e,hin,hb,hj⟩:=he2;obtain rfl:=Nat.eq_of_beq_eq_true hj;exact hcl _ o ho2 hm' e (by simpa using hin) hb
  have tail:∀ (f m:Nat) (listed:Array Bool) (a:Act) (w:World),k<=m->ops.length - m<=f->(∀ j,j<m->j<ops.length->listed.getD j false=true)->(∀ j,m<=j->j<ops.length->listed.getD j true=false)->
      wpList P ops.toArray Q (ops.drop m) a w->wpAny P .any ops.toArray Q f listed a w:=by
    intro f
    induction f with
    | zero =>
      intro m listed a w hkm hf h1 h2 h;rw [List.drop_eq_nil_of_le (by omega)] at h;refine ⟨?_,h⟩
      cases hr:Region.ready .any ops.toArray listed with
      | nil=>rfl
      | cons i r =>
        obtain ⟨g1,o,ho,_⟩:=mem_ready.1 (hr ▸ List.mem_cons_self .. : i∈Region.ready .any ops.toArray listed);rw [hge] at ho;have hi:=(List.getElem?_eq_some_iff.1 ho).1;have:=h1 i (by omega) hi
        simp [Array.getD_eq_getD_getElem?] at this g1
        cases hh:listed[i]?<;>simp [hh] at this g1
        rw [this] at g1;cases g1
    | succ f ih =>
      intro m listed a w hkm hf h1 h2 h;have only:∀ i∈Region.ready .any ops.toArray listed,i=m:=by
        intro i hi;obtain ⟨g1,o,ho,hall⟩:=mem_ready.1 hi;have ho':=ho;rw [hge] at ho';have hZ:=(List.getElem?_eq_some_iff.1 ho').1
        by_cases hlt:i<m
        . have:=h1 i hlt hZ
          simp [Array.getD_eq_getD_getElem?] at this g1
          cases hh:listed[i]?<;>simp [hh] at this g1
          rw [this] at g1;cases g1
        . by_cases e:i=m
          . exact e
          . have:=reach_listed (listed:=listed) (fun j o hj hl e he hJ=>by
                have hH:=(List.getElem?_eq_some_iff.1 hj).1;have hjm:j<m:=by
                  rcases Nat.lt_or_ge j m with h | h
                  . exact h
                  . have h3:=h2 j h hH
                    simp [Array.getD_eq_getD_getElem?] at hl h3
                    cases hh:listed[j]?<;>simp [hh] at hl h3
                    rw [hl] at h3;cases h3
                have:=Df hback j o hj e he hJ;exact h1 e.on (by omega) (by omega)) i m (hreach i m (by omega) hZ (by omega)) (fun o2 q ho2 he2=>by
                rw [ho'] at ho2;obtain rfl:=Option.some.inj ho2;exact edge_listed hi ho' he2)
            have h3:=h2 m (Nat.le_refl _) (by omega)
            simp [Array.getD_eq_getD_getElem?] at this h3
            cases hh:listed[m]?<;>simp [hh] at this h3
            rw [this] at h3;cases h3
      refine ⟨fun hr=>?_,fun i hi=>?_⟩
      . by_cases hml:m<ops.length
        . exfalso
          have:m∈Region.ready .any ops.toArray listed:=by
            refine mem_ready.2 ⟨h2 m (Nat.le_refl _) hml,ops[m],by simp [hml],fun e he hJ=>?_⟩;have:=Df hback m ops[m] (by simp [hml]) e he hJ;exact h1 e.on (by omega) (by omega)
          rw [hr] at this;cases this
        . rw [List.drop_eq_nil_of_le (by omega)] at h;exact h
      . obtain rfl:=only i hi
        obtain ⟨g1,o,ho,_⟩:=mem_ready.1 hi;rw [hge] at ho;have hZ:=(List.getElem?_eq_some_iff.1 ho).1;have hdrop:ops.drop i=o::ops.drop (i+1):=by
          rw [List.drop_eq_getElem_cons hZ];congr 1;exact (List.getElem?_eq_some_iff.1 ho).2
        rw [hdrop] at h;have K:∀ a w,wpList P ops.toArray Q (ops.drop (i+1)) a w->wpAny P .any ops.toArray Q f (listed.setIfInBounds i true) a w:=by
          intro a w hh;refine ih (i+1) _ a w (by omega) (by omega) (fun j hj hH=>?_) (fun j hj hH=>?_) hh
          . by_cases e:i=j
            . subst e
              have hsz:i<listed.size:=by
                rcases Nat.lt_or_ge i listed.size with h' | h'
                . exact h'
                . simp [Array.getElem?_eq_none h'] at g1
              simp [hsz]
            . rw [getD_set_ne false e];exact h1 j (by omega) hH
          . rw [getD_set_ne true (by omega)];exact h2 j (by omega) hH
        unfold wpOp
        rw [hge,ho]
        unfold wpList at h
        show (if Region.wanted o (yielded ops.toArray a.tmps) then _ else _)
        split
        . rename_i hw
          rw [if_pos hw] at h;exact h.imp (Oper.wp_mono K) (fun x=>x)
        . rename_i hw
          rw [if_neg hw] at h;exact K _ _ h
  have head:∀ (f:Nat) (listed:Array Bool) (a:Act) (w:World) (g:G),listed.size=ops.length->(List.range ops.length).countP (fun i=>!listed.getD i true)<=f->(∀ j,k<=j->j<ops.length->listed.getD j true=false)->(∀ (j:Nat) o,ops[j]? = some o->listed.getD j false=true->∀ e∈o.after,Region.binds .any e=true->listed.getD e.on false=true)->
      Fr n a F->S g w->(∀ i,i<k->i<ops.length->listed.getD i false=true->φ i g (a.tmps.getD (Br ops i) undef) w)->wpAny P .any ops.toArray Q f listed a w:=by
    intro f
    induction f with
    | zero =>
      intro listed a w g hsz hc h2 hcl O hS hφ';have all:∀ j,j<ops.length->listed.getD j true=true:=by
        intro j hj;have h0:(List.range ops.length).countP (fun i=>!listed.getD i true)=0:=by omega
        have:=List.countP_eq_zero.1 h0 j (by simpa using hj)
        simpa using this
      have hlen:ops.length<=k:=by
        rcases Nat.lt_or_ge k ops.length with h | h
        . have e1:=h2 k (Nat.le_refl _) h
          rw [all k h] at e1;cases e1
        . exact h
      refine tail 0 k listed a w (Nat.le_refl _) (by omega) (fun j _ hj=>?_) (fun j hj hH=>by omega) ?_
      . have:=all j hj
        have hjs:j<listed.size:=by omega
        simpa [Array.getD_eq_getD_getElem?,hjs] using this
      . refine hend a w g O hS (fun i hi hZ=>hφ' i hi hZ ?_)
        have:=all i hZ;have hjs:i<listed.size:=by omega
        simpa [Array.getD_eq_getD_getElem?,hjs] using this
    | succ f ih =>
      intro listed a w g hsz hc h2 hcl O hS hφ'
      by_cases all:∀ j,j<k->j<ops.length->listed.getD j false=true
      . refine tail (f+1) k listed a w (Nat.le_refl _) ?_ all h2 (hend a w g O hS (fun i hi hZ=>hφ' i hi hZ (all i hi hZ)))
        have hge':∀ (m:Nat),m<=ops.length->m - k<=(List.range m).countP (fun i=>!listed.getD i true):=by
          intro m
          induction m with
          | zero=>intro _;simp
          | succ m ihm =>
            intro hm';have:=ihm (by omega);rw [List.range_succ,List.countP_append]
            by_cases hkm:k<=m
            . have e1:=h2 m hkm (by omega)
              have e2:List.countP (fun i=>!listed.getD i true) [m]=1:=by rw [List.countP_cons,e1];rfl
              omega
            . omega
        have:=hge' ops.length (Nat.le_refl _)
        omega
      . have step:∀ i∈Region.ready .any ops.toArray listed,i<k:=by
          intro i hi
          rcases Nat.lt_or_ge i k with h | h
          . exact h
          . exfalso
            obtain ⟨g1,o,ho,_⟩:=mem_ready.1 hi;rw [hge] at ho;have hZ:=(List.getElem?_eq_some_iff.1 ho).1;exact all (fun j hj hH=>reach_listed hcl i j (hreach i j h hZ (by omega)) (fun o2 q ho2 he2=>by
              rw [ho] at ho2;obtain rfl:=Option.some.inj ho2;exact edge_listed hi ho he2))
        refine ⟨fun hr=>?_,fun i hi=>?_⟩
        . exfalso
          apply all
          intro j
          induction j using Nat.strongRecOn with
          | _ j ihj =>
            intro hjk hH
            cases hl:listed.getD j false with
            | true=>rfl
            | false =>
              have hjs:j<listed.size:=by omega
              have hm':j∈Region.ready .any ops.toArray listed:=by
                refine mem_ready.2 ⟨?_,ops[j],by simp [hH],fun e he hJ=>?_⟩
                . simpa [Array.getD_eq_getD_getElem?,hjs] using hl
                . have:=Df hback j ops[j] (by simp [hH]) e he hJ
                  exact ihj e.on (by omega) (by omega) (by omega)
              rw [hr] at hm';cases hm'
        . have hik:=step i hi
          obtain ⟨g1,o,ho,hall'⟩:=mem_ready.1 hi;rw [hge] at ho;have hZ:=(List.getElem?_eq_some_iff.1 ho).1;have hti:(ops.take k)[i]? = some o:=by rw [List.getElem?_take,if_pos hik];exact ho
          obtain ⟨d,hd1,hd2,hd3,_,hd5,hd6⟩:=Fb hdst i o hti;have hdo:Br ops i=d:=by simp [Br,ho,hd1]
          have hdne:∀ j,j<k->j<ops.length->j≠i->Br ops j≠d:=by
            intro j hj hH hne e;have hoj:ops[j]? = some ops[j]:=by simp [hH]
            have htj:(ops.take k)[j]? = some ops[j]:=by rw [List.getElem?_take,if_pos hj];exact hoj
            obtain ⟨d',e1,_,_,_,e5,_⟩:=Fb hdst j ops[j] htj;have hdj:Br ops j=d':=by simp only [Br,hoj,Option.bind_some,e1,Option.getD_some]
            have hdd:d'=d:=by rw [← hdj];exact e
            subst hdd
            rcases Nat.lt_or_gt_of_ne hne with h | h
            . exact hd5 j ops[j] h htj e1
            . exact e5 i o h hti hd1
          have hdoes:=StepsOk.get hO i o hti a w g O hS (fun j hj he=>by
            have hj':j<k:=Nat.blt_eq.mp hj;have hl:=edge_listed hi ho he;have hH:j<ops.length:=by
              rcases Nat.lt_or_ge j listed.size with h | h
              . omega
              . simp [Array.getElem?_eq_none h] at hl
            exact hφ' j hj' hH hl)
          unfold wpOp
          rw [hge,ho]
          show (if Region.wanted o (yielded ops.toArray a.tmps) then _ else _)
          rw [if_pos (by simp [Region.wanted,hd6])];refine .inl (hdoes.run _ _ fun v w' hv=>?_);rw [Nat.zero_add] at hv;obtain ⟨g',hS',hvi,hothers⟩:=hv;have hF':Fr n (a.put o.dst v) F:=by
            rw [hd1];have:=O.put d v (Nat.blt_eq.mpr hd2);refine ⟨this.defers,this.size,fun t u ht=>this.get t u ?_⟩;simp only [lk];have hne:¬ d=t:=fun e=>by subst e;rw [hd3] at ht;cases ht
            rw [KR hne];exact ht
          refine ih _ _ _ g' (by simpa using hsz) ?_ (fun j hj hH=>?_) (fun j oj hoj hl e he hb=>?_) hF' hS' (fun j hj hH hl=>?_)
          . have:(List.range ops.length).countP (fun j=>!(listed.setIfInBounds i true).getD j true)<(List.range ops.length).countP (fun j=>!listed.getD j true):=by
              refine Es (fun x hx=>?_) ⟨i,by simpa using hZ,by simpa using g1,?_⟩
              . by_cases e:i=x
                . subst e;simp only [g1];rfl
                . rw [getD_set_ne true e] at hx;exact hx
              . have:i<listed.size:=by omega
                simp [this]
            omega
          . rw [getD_set_ne true (by omega)];exact h2 j hj hH
          . refine getD_set_true ?_
            by_cases ej:j=i
            . subst ej
              rw [ho] at hoj;obtain rfl:=Option.some.inj hoj;exact hall' e he hb
            . rw [getD_set_ne false (Ne.symm ej)] at hl
              exact hcl j oj hoj hl e he hb
          . by_cases e:j=i
            . subst e
              rw [hd1,hdo];have:(a.put (some d) v).tmps.getD d undef=v:=by simp [Act.put,O.size,hd2]
              rw [this];exact hvi
            . rw [getD_set_ne false (Ne.symm e)] at hl
              have hold:=hothers j _ e (hφ' j hj hH hl);have hdn:=hdne j hj hH e;rw [hd1];have:(a.put (some d) v).tmps.getD (Br ops j) undef=a.tmps.getD (Br ops j) undef:=by
                simp [Act.put,Array.getElem?_setIfInBounds_ne (Ne.symm hdn)]
              rw [this];exact hold
  refine head ops.toArray.size (Array.replicate ops.toArray.size false) a _ g (by simp) ?_ (fun j _ hj=>by simp [hj]) (fun j o hj hl e he hJ=>by have hH:=(List.getElem?_eq_some_iff.1 hj).1;simp [hH] at hl) O (hdr _ hS) (fun i _ hi hl=>by simp [hi] at hl)
  . have:=List.countP_le_length (l:=List.range ops.length) (p:=fun i=>!(Array.replicate ops.toArray.size false).getD i true)
    simpa using this
end
end Go.Sw
namespace Go.Sw
open Go Go.RowKit
variable {P : Program}
inductive Fact where
  | val (v:Value)
  | own (k:Nat) (cs:Array Value) (mk:Nat->Value)
  | rel (R:Value->World->Prop)
def Fact.sem:Fact->Own->Value->World->Prop
  | .val v,_,u,_=>u=v
  | .own k cs mk,L,u,_=>∃ b,u=mk b/\L[k]? = some (some (b,cs))
  | .rel R,_,u,w=>R u w
def Fact.place:Fact->Option Nat
  | .own k _ _=>some k
  | _=>none
def Cc (l:List Fact):Facts Own:=fun i L u w=>match l[i]? with
  | some f=>f.sem L u w
  | none=>True
def Lasts:List Fact->Prop
  | []=>True
  | .rel R::r=>(∀ u w w',R u w->Ext w w'->R u w')/\Lasts r
  | _::r=>Lasts r
theorem Lasts.get:∀ {l:List Fact},Lasts l->∀ (i:Nat) R,l[i]? = some (.rel R)->∀ u w w',R u w->Ext w w'->R u w'
  | [],_,i,R,h=>by simp at h
  | f :: r, hl, i, R, h => by
    cases i with
    | zero=>simp at h;subst h;exact hl.1
    | succ i =>
      have hr:Lasts r:=by cases f<;>first | exact hl | exact hl.2
      exact Lasts.get hr i R (by simpa using h)
def Dw (k i:Nat):List Fact->Nat->Bool
  | [],_=>true
  | f::r,j=>(Nat.beq j i || (match f.place with | some q=>!(Nat.beq q k) | none=>true)) && Dw k i r (j+1)
theorem Eh {k i:Nat}:∀ {l:List Fact} {s:Nat},Dw k i l s=true->∀ (j:Nat) f,l[j]? = some f->s+j≠i->f.place≠some k
  | [],_,_,j,f,h,_=>by simp at h
  | x :: r, s, hb, j, f, h, hne => by
    simp only [Dw,Bool.and_eq_true,Bool.or_eq_true] at hb
    cases j with
    | zero =>
      simp at h;subst h
      rcases hb.1 with e | e
      . exact absurd (Nat.eq_of_beq_eq_true e) (by simpa using hne)
      . intro hp;rw [hp] at e;simp at e
    | succ j=>exact Eh hb.2 j f (by simpa using h) (by omega)
def Same (W:List Nat) (L0 L:Own):Prop:=L.length=L0.length/\∀ k,Cu k W=false->L[k]? = L0[k]?
theorem Same.refl (W:List Nat)(L:Own):Same W L L:=⟨rfl,fun _ _=>rfl⟩
theorem Same.set {W:List Nat}{L0 L:Own}(h:Same W L0 L)(k:Nat)(hk:Cu k W=true)(x:Option (Nat×Array Value)):Same W L0 (L.set k x):=
  ⟨by simpa using h.1,fun j hj=>by
    rw [List.getElem?_set]
    have:¬ k=j:=fun e=>by subst e;rw [hk] at hj;cases hj
    rw [if_neg this];exact h.2 j hj⟩
theorem Same.take {W:List Nat}{L0 L:Own}{k:Nat}{x:Option (Nat×Array Value)}(h:Same (k::W) L0 L)(hk:L[k]? = some x):Same W (L0.set k x) L:=
  ⟨by simpa using h.1,fun j hj=>by
    rw [List.getElem?_set]
    by_cases e:k=j
    . subst e
      have:k<L0.length:=by rw [← h.1];exact (List.getElem?_eq_some_iff.1 hk).1
      rw [if_pos rfl,if_pos this];exact hk
    . rw [if_neg e]
      refine h.2 j ?_
      simp only [Cu,hj,Bool.or_false]
      exact KR (fun x=>e x.symm)⟩
theorem Same.eq {L0 L:Own}(h:Same [] L0 L):L=L0:=List.ext_getElem? fun k=>h.2 k rfl
def Md:List Nat->Own->Bool
  | [],_=>true
  | k::W,L=>(match L[k]? with | some (some _)=>false | _=>true) && Md W L
theorem IV:∀ {W:List Nat} {L:Own},Md W L=true->∀ k x,Cu k W=true->L[k]?≠some (some x)
  | [],_,_,k,x,h=>by simp [Cu] at h
  | j :: W, L, hb, k, x, h => by
    simp only [Md,Bool.and_eq_true] at hb
    simp only [Cu,Bool.or_eq_true] at h
    rcases h with e | h
    . obtain rfl:=Nat.eq_of_beq_eq_true e
      intro hx;rw [hx] at hb;cases hb.1
    . exact IV hb.2 k x h
section
variable {ops : List Oper} {Q : Exit -> Act -> World -> Prop} {n : Nat} {F : List (Nat × Value)} {a : Act} {X : List Nat} {w w0 : World} {L L0 : Own} {D : A4} {W : List Nat} {l : List Fact} {o : Oper} {i : Nat}
def Par (X:List Nat) (w0:World) (D:A4) (W:List Nat) (L0:Own) (L:Own) (w:World):Prop:=MemX X w0 w L D/\Same W L0 L
theorem Par.mem (h:Par X w0 D W L0 L w)(hW:Md W L0=true):MemX X w0 w L0 D:=by
  have key:∀ (j:Nat) b cs,L0[j]? = some (some (b,cs))->L[j]? = some (some (b,cs)):=by
    intro j b cs hj;rw [h.2.2 j ?_];exact hj
    cases e:Cu j W with
    | false=>rfl
    | true=>exact absurd hj (IV hW j _ e)
  exact ⟨h.1.bel,fun k b cs hk=>h.1.blk k b cs (key k b cs hk),fun k j b cs ds hk hj=>h.1.apart k j b cs ds (key k b cs hk) (key j b ds hj),
    fun b cs hm=>⟨(h.1.froz b cs hm).1,fun k c ds hk=>(h.1.froz b cs hm).2 k c ds (key k c ds hk)⟩⟩
theorem FZ {f:Fact}{u:Value}(hi:l[i]? = some f)(h:f.sem L u w):Cc l i L u w:=by unfold Cc;rw [hi];exact h
theorem AC {v:Value}(hS:Par X w0 D W L0 L w)(hi:l[i]? = some (.val v))(hg:BX P o a w v):Does P o a w (After (Par X w0 D W L0) (Cc l) i L w):=
  hg.mono fun u w' ⟨h1,h2⟩=>by subst h2;exact ⟨L,hS,FZ hi h1,fun j u _ h=>h⟩
theorem HW (hl:Lasts l){w':World}(hx:Ext w w')(j:Nat)(u:Value)(h:Cc l j L u w):Cc l j L u w':=by
  unfold Cc at *
  cases e:l[j]? with
  | none=>trivial
  | some f =>
    rw [e] at h
    cases f with
    | val v=>exact h
    | own k cs mk=>exact h
    | rel R=>exact hl.get j R e u _ _ h hx
theorem Ap {v:Value}(hl:Lasts l)(hS:Par X w0 D W L0 L w)(hi:l[i]? = some (.val v))(hg:Does P o a w (fun u w'=>Ext w w'/\u=v)):Does P o a w (After (Par X w0 D W L0) (Cc l) i L w):=
  hg.mono fun _ _ ⟨h1,h2⟩=>⟨L,⟨hS.1.ext h1,hS.2⟩,FZ hi h2,fun j u _ h=>HW hl h1 j u h⟩
theorem E3 {R R':Value->World->Prop}(hl:Lasts l)(hS:Par X w0 D W L0 L w)(hi:l[i]? = some (.rel R))(hg:Does P o a w (fun u w'=>Ext w w'/\R' u w'))(hR:∀ u w',R' u w'->R u w'):Does P o a w (After (Par X w0 D W L0) (Cc l) i L w):=
  hg.mono fun _ _ ⟨h1,h2⟩=>⟨L,⟨hS.1.ext h1,hS.2⟩,FZ hi (hR _ _ h2),fun j u _ h=>HW hl h1 j u h⟩
theorem Cj {k:Nat}{cs:Array Value}{mk:Nat->Value}(hl:Lasts l)(hS:Par X w0 D W L0 L w)(hi:l[i]? = some (.own k cs mk))(hk:Cu k W=true)(hkl:Nat.blt k L0.length=true)(h1:Dw k i l 0=true)
    (hg:Does P o a w (fun u w'=>∃ b,u=mk b/\MemX X w0 w' (L.set k (some (b,cs))) D/\Ext w w')):Does P o a w (After (Par X w0 D W L0) (Cc l) i L w):=
  hg.mono fun u w' ⟨b,hu,J,hx⟩=>by
    have hkl':k<L.length:=by rw [hS.2.1];exact Nat.blt_eq.mp hkl
    refine ⟨L.set k (some (b,cs)),⟨J,hS.2.set k hk _⟩,FZ hi ⟨b,hu,by simp [hkl']⟩,fun j u hj h=>?_⟩
    have h2:=HW hl hx j u h
    unfold Cc at *
    cases e:l[j]? with
    | none=>trivial
    | some f =>
      rw [e] at h2
      have hp:=Eh h1 j f e (by omega)
      cases f with
      | val v=>exact h2
      | rel R=>exact h2
      | own q ds mk' =>
        obtain ⟨c,h3,h4⟩:=h2
        refine ⟨c,h3,?_⟩
        rw [List.getElem?_set,if_neg (fun e=>hp (by subst e;rfl))];exact h4
theorem BG {id:Nat}(k:Nat)(W:List Nat)(l:List Fact)(hm:P.follows .mixedOrders=true)(hk:Lr ops k=true)(O:Fr n a F)(hdst:Ie n F (ops.take k) []=true)(J:MemX X w0 w L0 D)
    (hO:StepsOk P ops k n F (Par X w0 D W L0) (Cc l) (ops.take k) 0)
    (hend:∀ a w L,Fr n a F->Par X w0 D W L0 L w->(∀ i,Nat.blt i k=true->Nat.blt i ops.length=true->Cc l i L (a.tmps.getD (Br ops i) undef) w)->wpList P ops.toArray Q (ops.drop k) a w) :
    (Code.region id ops.toArray true).wp P Q a w:=
  GR (S:=Par X w0 D W L0) hm hk O hdst L0 ⟨J,Same.refl W L0⟩ (fun _ h=>⟨h.1.ext (Below.drew (Below.refl _ _)),h.2⟩) (Cc l) hO
    (fun a w L O hS hq=>hend a w L O hS fun i h1 h2=>hq i (Nat.blt_eq.mp h1) (Nat.blt_eq.mp h2))
theorem Fr.ext1 (h:Fr n a F)(d:Nat){v:Value}(hv:a.tmps.getD d undef=v):Fr n a ((d,v)::F):=
  ⟨h.defers,h.size,fun t u hu=>by
    simp only [lk] at hu
    by_cases e:d=t
    . subst e;simp at hu;subst hu;exact hv
    . rw [KR e] at hu;exact h.get t u hu⟩
end
end Go.Sw
namespace Go.Sw
open Go Go.RowKit
variable {P : Program}
section
variable {Q : Exit -> Act -> World -> Prop} {K : Act -> World -> Prop} {a : Act} {w : World} {id : Nat}
theorem sq {x y:Code}(h:x.wp P (Exit.then (fun a w=>y.wp P Q a w) Q) a w):(x.seq y).wp P Q a w:=Qh _ h fun _ _ h=>h
theorem tN (h:K a w):Exit.then K Q .normal a w:=h
theorem tX {i:Nat}(h:Q (.exit i) a w):Exit.then K Q (.exit i) a w:=h
theorem tR (h:Q .ret a w):Exit.then K Q .ret a w:=h
theorem iN (h:Q .normal a w):Exit.inBlock id Q .normal a w:=h
theorem iR (h:Q .ret a w):Exit.inBlock id Q .ret a w:=h
end
def Al (n:Nat) (f:Nat->Value):Array Value:=((List.range n).map f).toArray
theorem Bf (n:Nat)(f:Nat->Value):(Al n f).size=n:=by simp [Al]
theorem CF {n:Nat}{f:Nat->Value}{i:Nat}(h:i<n):(Al n f)[i]? = some (f i):=by simp [Al,h]
theorem A5 {n:Nat}{f g:Nat->Value}(h:∀ i,i<n->f i=g i):Al n f=Al n g:=by
  unfold Al;congr 1;exact List.map_congr_left (by simpa using h)
theorem Gt {n:Nat}{f:Nat->Value}{c:Array Value}(hs:c.size=n)(h:∀ i,i<n->c[i]? = some (f i)):c=Al n f:=by
  apply Array.ext_getElem?
  intro i
  by_cases hi:i<n
  . rw [h i hi,CF hi]
  . rw [Array.getElem?_eq_none (by omega),Array.getElem?_eq_none (by rw [Bf];omega)]
theorem Bq {n:Nat}{f:Nat->Value}{i:Nat}{v:Value}{g:Nat->Value}(h:∀ j,j<n->g j=if j=i then v else f j):(Al n f).setIfInBounds i v=Al n g:=by
  apply Gt (by simp [Bf])
  intro j hj;rw [Array.getElem?_setIfInBounds,h j hj]
  by_cases e:i=j
  . subst e;simp [Bf,hj]
  . rw [if_neg e,if_neg (fun x=>e x.symm),CF hj]
theorem BT {n:Nat}{f:Nat->Value}(h:∀ i,i<n->(f i).oneCell'=true):∀ v∈(Al n f).toList,v.oneCell'=true:=by
  intro v hv
  simp [Al] at hv
  obtain ⟨i,hi,rfl⟩:=hv;exact h i hi
end Go.Sw
namespace Go.Sw
open Go Go.RowKit
def Nc:List Value->Nat->List (Nat×Value)
  | [],_=>[]
  | v::r,i=>(i,v)::Nc r (i+1)
theorem Jk:∀ (l:List Value) (i t:Nat) (v:Value),lk (Nc l i) t=some v->i<=t/\l[t - i]? = some v
  | [],_,_,_,h=>by cases h
  | x :: r, i, t, v, h => by
    simp only [Nc,lk] at h
    by_cases e:i=t
    . subst e;simp at h;subst h;simp
    . rw [KR e] at h
      obtain ⟨h1,h2⟩:=Jk r (i+1) t v h
      refine ⟨by omega,?_⟩
      obtain ⟨m',hm⟩:∃ m',t - i=m'+1:=⟨t - i - 1,by omega⟩
      rw [hm];simp;rwa [show t - (i+1)=m' by omega] at h2
theorem OR {args:Array Value}{N:Nat}(vs:List Value)(hv:args=vs.toArray)(hn:Nat.ble vs.length N=true) :
    Fr N { tmps:=args++Array.replicate (N - args.size) undef,defers:=[] } (Nc vs 0):=
  Pz vs hv (Nat.ble_eq.mp hn) _ fun t v h=>by have:=(Jk vs 0 t v h).2;simpa using this
theorem AS {P:Program}{fn:Func}{w:World}{f:FuncId}{c:Code}{R:Value->World->Prop}{N:Nat}(vs:List Value)(hf:P.funcs[f]? = some fn)(hb:fn.body=some c)(hN:fn.ntmps=N)(hn:Nat.ble vs.length N=true)
    (h:∀ a,Fr N a (Nc vs 0)->c.wp P (bodyPost P fn (fun e w'=>∃ v,e = .returned v/\Ext w w'/\R v w')) a w):CallsR P f vs.toArray w R:=by
  subst hN;exact Oh hf hb (h _ (OR vs rfl hn))
theorem AW (x y:Nat)(h:x+y<9223372036854775808):IntKind.i64.wrap ((x:Int)+(y:Int))=((x+y:Nat):Int):=by
  rw [wrap_i64]<;>omega
theorem Bm (x y:Nat)(h:x*y<9223372036854775808):IntKind.i64.wrap ((x:Int)*(y:Int))=((x*y:Nat):Int):=by
  rw [wrap_i64]<;>rw [← Int.natCast_mul]<;>omega
theorem CU (x y:Nat):(x:Int).tmod (y:Int)=((x%y:Nat):Int):=by
  rw [Int.tmod_eq_emod_of_nonneg (by omega)];rfl
theorem E0 (x y:Nat)(h:x<9223372036854775808):IntKind.i64.wrap ((x:Int).tdiv (y:Int))=((x / y:Nat):Int):=by
  rw [Int.tdiv_eq_ediv_of_nonneg (by omega)];have:x / y<=x:=Nat.div_le_self _ _;have e:(x:Int) / (y:Int)=((x / y:Nat):Int):=rfl;rw [e];generalize x / y=q at *;exact wrap_i64 (by omega) (by omega)
def AB (p n:Int) (T:Nat->Nat->Nat->Nat) (f:Nat->Nat):Array Value:=
  Al 224 fun c=>if c=0 then .int .i64 p else if c=1 then .int .i64 n else if c<218 then .int .u8 (T ((c - 2) / 36) ((c - 2) / 6%6) ((c - 2)%6)) else .int .u8 (f (c - 218))
def AG (v:Nat->Nat):Array Value:=Al 6 fun c=>.int .u8 (v c)
section
variable {p n : Int} {T : Nat -> Nat -> Nat -> Nat} {f : Nat -> Nat} {v : Nat -> Nat}
theorem AE:(AB p n T f).size=224:=Bf _ _
theorem C8:(AG v).size=6:=Bf _ _
theorem BM {o:Nat}(h:o=0):(AB p n T f)[o]? = some (.int .i64 p):=by subst h;exact CF (by omega)
theorem Aq {o:Nat}(h:o=1):(AB p n T f)[o]? = some (.int .i64 n):=by subst h;exact CF (by omega)
theorem C7 {o:Nat}(i j k:Nat)(h:o=2+i*36+j*6+k)(hi:i<6)(hj:j<6)(hk:k<6):(AB p n T f)[o]? = some (.int .u8 (T i j k:Int)):=by
  subst h
  unfold AB
  rw [CF (by omega),if_neg (by omega),if_neg (by omega),if_pos (by omega)];have e1:(2+i*36+j*6+k - 2) / 36=i:=by omega
  have e2:(2+i*36+j*6+k - 2) / 6%6=j:=by omega
  have e3:(2+i*36+j*6+k - 2)%6=k:=by omega
  rw [e1,e2,e3]
theorem DH {o:Nat}(i:Nat)(h:o=218+i)(hi:i<6):(AB p n T f)[o]? = some (.int .u8 (f i:Int)):=by
  subst h
  unfold AB
  rw [CF (by omega),if_neg (by omega),if_neg (by omega),if_neg (by omega)];rw [show 218+i - 218=i by omega]
theorem BQ {o:Nat}(i:Nat)(h:o=i)(hi:i<6):(AG v)[o]? = some (.int .u8 (v i:Int)):=by subst h;exact CF hi
theorem CW {c:Array Value}{o s e:Nat}{f:Nat->Value}(he:e=o+s)(hs:o+s<=c.size)(h:∀ i,i<s->c[o+i]? = some (f i)):c.extract o e=Al s f:=by
  subst he
  apply Gt (by simp;omega)
  intro i hi;rw [Array.getElem?_extract,if_pos (by omega)];exact h i hi
theorem Cq (i j:Nat){o e:Nat}(h:o=2+i*36+j*6)(he:e=o+6)(hi:i<6)(hj:j<6):(AB p n T f).extract o e=AG (T i j):=by
  subst h;exact CW he (by rw [AE];omega) fun k hk=>C7 i j k (by omega) hi hj hk
theorem Fu {o e:Nat}(h:o=218)(he:e=o+6):(AB p n T f).extract o e=AG f:=by
  subst h;exact CW he (by rw [AE];omega) fun k hk=>DH k (by omega) hk
theorem cells_one:∀ u∈(AB p n T f).toList,u.oneCell'=true:=BT fun i _=>by
  split
  . rfl
  . split
    . rfl
    . split<;>rfl
theorem AX:∀ u∈(AG v).toList,u.oneCell'=true:=BT fun _ _=>rfl
end
theorem MemX.rowc {X:List Nat}{w0 w:World}{L:Own}{D:A4}(h:MemX X w0 w L D)(k:Nat){b:Nat}{cs cs':Array Value}(hk:L[k]? = some (some (b,cs)))(e:cs=cs'):MemX X w0 w (L.set k (some (b,cs'))) D:=by
  subst e;have:L.set k (some (b,cs))=L:=by
    apply List.ext_getElem?
    intro j;rw [List.getElem?_set]
    split
    . rename_i e;subst e
      split
      . exact hk.symm
      . rename_i hl;rw [List.getElem?_eq_none (by omega)]
    . rfl
  rw [this];exact h
theorem MemX.cast {X:List Nat}{w0 w:World}{L L':Own}{D:A4}(h:MemX X w0 w L D)(e:L=L'):MemX X w0 w L' D:=e ▸ h
def Cx (T:Nat->Nat->Nat->Nat):Array Value:=Al 216 fun c=>.int .u8 (T (c / 36) (c / 6%6) (c%6))
def Db (T:Nat->Nat->Nat):Array Value:=Al 36 fun c=>.int .u8 (T (c / 6) (c%6))
section
variable {p n : Int} {T : Nat -> Nat -> Nat -> Nat} {f : Nat -> Nat} {M : Nat -> Nat -> Nat}
theorem Dk:(Cx T).size=216:=Bf _ _
theorem Hj:(Db M).size=36:=Bf _ _
theorem IG {o:Nat}(i j k:Nat)(h:o=i*36+j*6+k)(hi:i<6)(hj:j<6)(hk:k<6):(Cx T)[o]? = some (.int .u8 (T i j k:Int)):=by
  subst h
  unfold Cx
  rw [CF (by omega),show (i*36+j*6+k) / 36=i by omega,show (i*36+j*6+k) / 6%6=j by omega,show (i*36+j*6+k)%6=k by omega]
theorem Lx {o:Nat}(j k:Nat)(h:o=j*6+k)(hj:j<6)(hk:k<6):(Db M)[o]? = some (.int .u8 (M j k:Int)):=by
  subst h
  unfold Db
  rw [CF (by omega),show (j*6+k) / 6=j by omega,show (j*6+k)%6=k by omega]
theorem Il {o e:Nat}(h:o=2)(he:e=o+216):(AB p n T f).extract o e=Cx T:=by
  subst h;exact CW he (by rw [AE];omega) fun c hc=>C7 (c / 36) (c / 6%6) (c%6) (by omega) (by omega) (by omega) (by omega)
theorem Ex {o e:Nat}(i:Nat)(h:o=i*36)(he:e=o+36)(hi:i<6):(Cx T).extract o e=Db (T i):=by
  subst h;exact CW he (by rw [Dk];omega) fun c hc=>IG i (c / 6) (c%6) (by omega) (by omega) (by omega) (by omega)
theorem E2 {o e:Nat}(j:Nat)(h:o=j*6)(he:e=o+6)(hj:j<6):(Db M).extract o e=AG (M j):=by
  subst h;exact CW he (by rw [Hj];omega) fun c hc=>Lx j c (by omega) (by omega) (by omega)
end
section
variable {P : Program} {n : Nat} {F : List (Nat × Value)} {a : Act} {w : World} {d : Option Tmp} {t : TypeId} {pos : String} {af : Array Edge} {gd : Option (Nat × Bool)} {T : TypeId} {x y : Operand}
theorem Gs {i len s:Nat}{κ:IntKind}{X:Int}{cs C:Array Value}{e:TypeId}(hT:P.underlying T=some (.array len e))(he:FK P e=some s)(O:Fr n a F)(hx:look F x=some (.agg cs))(hy:look F y=some (.int κ X))(hX:X=(i:Int))(hi:i<len)
    (hC:cs.extract (i*s) (i*s+s)=C):BX P ⟨d,.index T x y,t,pos,af,gd⟩ a w (.agg C):=by
  have h1:=DI he w;subst hX;exact Ah (by simp [execOp,Instr.index,run_underlying hT,O.eval hx,O.eval hy,asIntOf,hi,part,h1.1,h1.2,hC])
theorem Bi {v:Value}(h:∀ w,(Instr.build T #[]).run P w = .ok v w):BX P ⟨d,.build T #[],t,pos,af,gd⟩ a w v:=
  Ah (by simp [execOp,h])
end
variable {P : Program}
theorem Fy (w:World)(g:Nat->Bool)(body:Nat->Sem Bool):∀ (l:List Nat),(∀ i∈l,(body i).run P w = .ok (g i) w)->
    (forIn (m:=Sem) l ((none,()):Option Bool×Unit) (fun i _=>do if !(← body i) then pure (ForInStep.done (some false,())) else pure (ForInStep.yield (none,())))).run P w = .ok (if l.all g then (none,()) else (some false,())) w
  | [],_=>by simp
  | i :: l, h => by
    have h1:=h i (List.mem_cons_self ..)
    have ih:=Fy w g body l (fun j hj=>h j (List.mem_cons_of_mem _ hj))
    rw [List.forIn_cons]
    cases hg:g i with
    | true =>
      simp only [Sem.run_bind,h1,hg,Result.andThen_ok]
      simp only [Bool.not_true,Bool.false_eq_true,if_false,Sem.run_pure,Result.andThen_ok,ih,List.all_cons,hg,Bool.true_and]
    | false=>simp [h1,hg]
theorem run_equalIn_array (d:Nat)(t e:TypeId)(len s:Nat)(xs ys:Array Value)(w:World)(hu:P.underlying t=some (.array len e))(hs:DT P e=some s)(g:Nat->Bool)
    (h:∀ i,i<len->∃ x y,(part e xs (i*s)).run P w = .ok x w/\(part e ys (i*s)).run P w = .ok y w/\(Op.equalIn d e x y).run P w = .ok (g i) w) :
    (Op.equalIn (d+1) t (.agg xs) (.agg ys)).run P w = .ok ((List.range len).all g) w:=by
  have hb:∀ i∈List.range len,((do let x ← part e xs (i*s);let y ← part e ys (i*s);Op.equalIn d e x y):Sem Bool).run P w = .ok (g i) w:=by
    intro i hi;obtain ⟨x,y,h1,h2,h3⟩:=h i (by simpa using hi)
    simp [h1,h2,h3]
  have hf:=Fy w g (fun i=>do let x ← part e xs (i*s);let y ← part e ys (i*s);Op.equalIn d e x y) (List.range len) hb;have hr:∀ (f:Nat->(Option Bool×Unit)->Sem (ForInStep ((Option Bool×Unit)))) (b:(Option Bool×Unit)),forIn (m:=Sem) [0:len] b f=forIn (m:=Sem) (List.range len) b f:=by
    intro f b;rw [Std.Legacy.Range.forIn_eq_forIn_range']
    simp [Std.Legacy.Range.size,List.range_eq_range']
  rw [Op.equalIn];simp only [Sem.run_bind,run_underlying hu,Result.andThen_ok,run_sizeOf hs,hr];simp only [bind_assoc] at hf ⊢;rw [hf]
  cases (List.range len).all g<;>simp
def EqAt (P:Program) (d:Nat) (T:TypeId) (x y:Value) (p:Prop) [Decidable p]:Prop:=∀ w,(Op.equalIn d T x y).run P w = .ok (decide p) w
def LQ (P:Program) (T:TypeId):Bool:=match P.underlying T with | some (.int _)=>true | _=>false
def HZ (P:Program) (T:TypeId):Option (Nat×TypeId×Nat):=
  match P.underlying T with
  | some (.array len e)=>(P.info? e).map fun i=>(len,e,i.size)
  | _=>none
theorem Ic {d:Nat}{T:TypeId}{k:IntKind}{A B:Int}(h:LQ P T=true):EqAt P (d+1) T (.int k A) (.int k B) (A=B):=by
  intro w
  unfold LQ at h
  cases hu:P.underlying T with
  | none=>simp [hu] at h
  | some dd =>
    cases dd<;>simp [hu] at h
    rw [run_equalIn_int w d T k _ A B hu,Q1]
theorem Jg {d:Nat}{T e:TypeId}{len s:Nat}{k:IntKind}{f g:Nat->Int}{xs ys:Array Value}(hT:HZ P T=some (len,e,s))(hs:s=1)(he:LQ P e=true)(ho:FI P e=true)
    (hx:∀ i,i<len->xs[i]? = some (.int k (f i))) (hy:∀ i,i<len->ys[i]? = some (.int k (g i))):EqAt P (d+2) T (.agg xs) (.agg ys) (∀ i,i<len->f i=g i):=by
  intro w;subst hs
  unfold HZ at hT
  cases hu:P.underlying T with
  | none=>simp [hu] at hT
  | some dd =>
    cases dd<;>simp [hu] at hT
    obtain ⟨inf,hinf,rfl,rfl,hsz⟩:=hT;have hp:=CZ ho w;rw [run_equalIn_array (d+1) T _ _ 1 xs ys w hu (by simp [DT,hinf,hsz]) (fun i=>decide (f i=g i)) (fun i hi=>⟨.int k (f i),.int k (g i),?_,?_,Ic he w⟩)]
    . congr 1
      rw [Bool.eq_iff_iff];simp
    . simp [part,hp.1,hx i hi]
    . simp [part,hp.1,hy i hi]
theorem Ji {d:Nat}{T e:TypeId}{len s:Nat}{xs ys:Array Value}{q:Nat->Prop}[∀ i,Decidable (q i)](hT:HZ P T=some (len,e,s))(ha:FK P e=some s)
    (h:∀ i,i<len->EqAt P d e (.agg (xs.extract (i*s) (i*s+s))) (.agg (ys.extract (i*s) (i*s+s))) (q i)):EqAt P (d+1) T (.agg xs) (.agg ys) (∀ i,i<len->q i):=by
  intro w
  unfold HZ at hT
  cases hu:P.underlying T with
  | none=>simp [hu] at hT
  | some dd =>
    cases dd<;>simp [hu] at hT
    obtain ⟨inf,hinf,rfl,rfl,hsz⟩:=hT;have hp:=DI ha w;rw [run_equalIn_array d T _ _ s xs ys w hu (by simp [DT,hinf,hsz]) (fun i=>decide (q i)) (fun i hi=>⟨_,_,?_,?_,h i hi w⟩)]
    . congr 1
      rw [Bool.eq_iff_iff];simp
    . simp [part,hp.1,hp.2]
    . simp [part,hp.1,hp.2]
section
variable {n : Nat} {F : List (Nat × Value)} {a : Act} {w : World} {d : Option Tmp} {t : TypeId} {pos : String} {af : Array Edge} {gd : Option (Nat × Bool)} {T T' : TypeId} {x y : Operand} {xs ys : Array Value} {p : Prop} [Decidable p]
theorem OO (hm:P.eqGuardType P.depth T=false)(O:Fr n a F)(hx:look F x=some (.agg xs))(hy:look F y=some (.agg ys))(h:EqAt P 10000 T (.agg xs) (.agg ys) p):BX P ⟨d,.binOp .eql T x y T',t,pos,af,gd⟩ a w (.bool (decide p)):=
  Ah (by
    have h1:=run_eqGuard_agg (P:=P) (w:=w) .eql T x y xs ys hm
    simp [execOp,O.eval hx,O.eval hy,h1,run_eql_struct,h w])
theorem FX (hm:P.eqGuardType P.depth T=false)(O:Fr n a F)(hx:look F x=some (.agg xs))(hy:look F y=some (.agg ys))(h:EqAt P 10000 T (.agg xs) (.agg ys) p):BX P ⟨d,.binOp .neq T x y T',t,pos,af,gd⟩ a w (.bool (decide (¬ p))):=
  Ah (by
    have h1:=run_eqGuard_agg (P:=P) (w:=w) .neq T x y xs ys hm
    simp [execOp,O.eval hx,O.eval hy,h1,run_neq_struct,h w])
end
theorem EqAt.congr {d:Nat}{T:TypeId}{x y:Value}{p q:Prop}[Decidable p][Decidable q](h:EqAt P d T x y p)(e:p↔q):EqAt P d T x y q:=fun w=>by
  rw [h w];congr 1;simpa using e
def H4 (m:Nat) (v u:Nat->Nat):Prop:=∀ i,i<m->v i=u i
instance (m:Nat) (v u:Nat->Nat):Decidable (H4 m v u):=Nat.decidableBallLT m _
theorem DJ {d:Nat}{T e:TypeId}{v u:Nat->Nat}(hT:HZ P T=some (6,e,1))(he:LQ P e=true)(ho:FI P e=true):EqAt P (d+2) T (.agg (AG v)) (.agg (AG u)) (H4 6 v u):=by
  have h:=Jg (d:=d) (k:=.u8) (xs:=AG v) (ys:=AG u) (f:=fun i=>(v i:Int)) (g:=fun i=>(u i:Int)) hT rfl he ho (fun i hi=>CF hi) (fun i hi=>CF hi);exact h.congr ⟨fun h i hi=>by have:=h i hi;omega,fun h i hi=>by rw [h i hi]⟩
end Go.Sw
namespace Go.Sw
open Go
section
variable {Q : Exit -> Act -> World -> Prop} {a : Act} {w : World}
theorem sR (h:Q .ret a w):Exit.noGoto Q .ret a w:=by simpa [Exit.noGoto] using h
end
end Go.Sw
