import Derived.Test.YtccdgjmomcljkaaDoorY20
import Derived.Test.YtccdgjmomcljkaaDoorSw67
import Derived.Test.YtccdgjmomcljkaaDoorSw10
set_option linter.unusedVariables false
set_option linter.unusedSimpArgs false
namespace Go.Proofs.YtccdgjmomcljkaaDoor
open Go Go.RowKit Go.Sw Go.Ech
open Classical
def RVp (p n:Nat) (x:Nat→Nat):Prop:=(∀ c,x c<p)∧∀ c,n≤c→x c=0
theorem RVp.eq {p n:Nat}{x y:Nat→Nat}(hx:RVp p n x)(hy:RVp p n y)(h:EqP p n (ci x) (ci y)):x=y:=funext fun c=>by
  by_cases hc:c<n
  · exact eq_of_dvd (hx.1 c) (hy.1 c) (h c hc)
  · rw [hx.2 c (by omega),hy.2 c (by omega)]
theorem timesV_RV {p n:Nat}{T:Nat→Nat→Nat→Nat}{v u:Nat→Nat}(hp:0<p)(hT0:∀ i j k,n≤k→T i j k=0):RVp p n (timesV p n T v u):=⟨fun c=>Nat.mod_lt _ hp,fun c hc=>timesV_out hT0 hc⟩
theorem addN_dvd {p:Nat}{v u:Nat→Nat}{x:Int}{c:Nat}(hp:0<p):(p:Int)∣ci (addN p v u x) c - (ci v c+x*ci u c):=by
  show (p:Int)∣(addN p v u x c:Int) - _
  rw [← (addN_cast (p:=p) (v:=v) (u:=u) (x:=x) (i:=c) hp).2];exact emod_dvd _ _
theorem addN_RV {p n:Nat}{v u:Nat→Nat}{x:Int}(hp:0<p)(hv:RVp p n v)(hu:RVp p n u):RVp p n (addN p v u x):=⟨fun c=>addN_lt hp,fun c hc=>by
  unfold addN;rw [hv.2 c hc,hu.2 c hc];simp⟩
theorem UnitI.rv {p n:Nat}{T:Nat→Nat→Nat→Nat}{uu:Nat→Nat}(h:UnitI p n T uu):RVp p n uu:=⟨h.small,h.out⟩
theorem powW_RV {p n:Nat}{T:Nat→Nat→Nat→Nat}{uu v:Nat→Nat}(hp:0<p)(hT0:∀ i j k,n≤k→T i j k=0)(hu:UnitI p n T uu):∀ k,RVp p n (powW (timesV p n T) uu v k)
  | 0=>UnitI.rv hu
  | k+1=>timesV_RV hp hT0
def pcI (p n:Nat) (T:Nat→Nat→Nat→Nat) (uu e v:Nat→Nat) (c:Nat):Nat→Nat:=addN p e (powW (timesV p n T) uu (addN p (timesV p n T e v) e (-(c:Int))) (p - 1)) (-1)
def pcS (p n:Nat) (T:Nat→Nat→Nat→Nat) (uu e v:Nat→Nat) (c:Nat):Nat→Nat→Nat
  | 0=>e
  | d+1=>if d=c then pcS p n T uu e v c d else timesV p n T (pcS p n T uu e v c d) (addN p (fun _=>0) (addN p v uu (-(d:Int))) ((invN ((((c:Int) - (d:Int))%(p:Int)).toNat) p:Nat):Int))
theorem inv_chk:∀ p∈([2,3,5,7,11,13]:List Nat),∀ c,c<p→∀ d,d<p→invN (((((c:Nat):Int) - ((d:Nat):Int))%(p:Int)).toNat) p=invI p ((c:Int) - (d:Int)):=by decide +kernel
theorem mem_pr {p:Nat}(hp:primeN p):p∈([2,3,5,7,11,13]:List Nat):=by unfold primeN at hp;simp;omega
section
variable {p n : Nat} {T : Nat → Nat → Nat → Nat} {uu e v : Nat → Nat}
theorem evl_one {E V:Nat→Int}:evl n T E V [1] 0=E:=funext fun c=>by simp [evl,eP]
theorem pcI_evl (hp:primeN p)(ha:AssI p n T)(hk:ComI n T)(hu:UnitI p n T uu)(he:EqP p n (Pr n T (ci e) (ci e)) (ci e))(c:Nat):EqP p n (ci (pcI p n T uu e v c)) (evl n T (ci e) (ci v) (pcL p c) 0):=by
  have hp2:=hp.two;have hr:EqP p n (ci (addN p (timesV p n T e v) e (-(c:Int)))) (fun i=>Pr n T (ci e) (ci v) i - (c:Int)*ci e i):=fun i hi=>by
    have h1:=addN_dvd (p:=p) (v:=timesV p n T e v) (u:=e) (x:=-(c:Int)) (c:=i) (by omega);have h2:=timesV_eq (p:=p) (n:=n) (T:=T) e v i hi;have:=Int.dvd_add h1 h2;rw [Int.neg_mul] at this
    rwa [show ∀ A B C D:Int,A - (B + -C)+(B - D)=A - (D - C) from fun A B C D=>by omega] at this
  have key:∀ k,EqP p n (ci (powW (timesV p n T) uu (addN p (timesV p n T e v) e (-(c:Int))) (k+1))) (evl n T (ci e) (ci v) (iL p c (k+1)) 0):=fun k=>by
    induction k with
    | zero =>
      refine EqP.trans (timesV_eq _ _) (EqP.trans (fun i hi=>Pr_unit_left hu _ hi) (EqP.trans hr fun i hi=>?_));have h:=evl_lin (p:=p) (n:=n) (T:=T) (e:=ci e) (v:=ci v) 1 (c:Int) [1] 0 i;have:=Int.dvd_neg.2 h;rw [Int.neg_sub,Int.one_mul,Int.one_mul] at this;have e1:evl n T (ci e) (ci v) [1] 1 i=Pr n T (ci e) (ci v) i:=by simp [evl,eP]
      rw [e1,congrFun evl_one i] at this;exact this
    | succ k ih=>exact EqP.trans (timesV_eq _ _) (lin_I ha hk he ih hr)
  obtain ⟨q,hq⟩:∃ q,p - 1=q+1:=⟨p - 2,by omega⟩;intro i hi;have h1:=addN_dvd (p:=p) (v:=e) (u:=powW (timesV p n T) uu (addN p (timesV p n T e v) e (-(c:Int))) (p - 1)) (x:=-1) (c:=i) (by omega);have h2:=key q i hi;rw [← hq] at h2;have h3:evl n T (ci e) (ci v) (pcL p c) 0 i=ci e i + -1*evl n T (ci e) (ci v) (iL p c (p - 1)) 0 i:=by
    unfold pcL;rw [evl_add,evl_map,congrFun evl_one i]
  rw [h3];have:=Int.dvd_sub h1 h2
  show (p:Int)∣ci (pcI p n T uu e v c) i - _
  unfold pcI
  rwa [show ∀ A B C D:Int,A - (B + -1*C) - (C - D)=A - (B + -1*D) from fun A B C D=>by omega] at this
theorem pcS_evl (hp:primeN p)(ha:AssI p n T)(hu:UnitI p n T uu){c:Nat}(hc:c<p):∀ d,d≤p→EqP p n (ci (pcS p n T uu e v c d)) (evl n T (ci e) (ci v) (sL p c d) 0)
  | 0,_=>by rw [show sL p c 0=[1] from rfl,evl_one];exact EqP.refl _
  | d + 1, hd => by
    have hp2:=hp.two
    have ih:=pcS_evl hp ha hu hc d (by omega)
    unfold sL pcS
    by_cases hdc:d=c
    · rw [if_pos hdc,if_pos hdc];exact ih
    · rw [if_neg hdc,if_neg hdc,inv_chk p (mem_pr hp) c hc d (by omega)]
      refine EqP.trans (timesV_eq _ _) (lin_S (UnitI.righty hu) ih fun i hi=>?_)
      have h1:=addN_dvd (p:=p) (v:=fun _=>0) (u:=addN p v uu (-(d:Int))) (x:=(invI p ((c:Int) - (d:Int)):Int)) (c:=i) (by omega)
      have h2:=addN_dvd (p:=p) (v:=v) (u:=uu) (x:=-(d:Int)) (c:=i) (by omega)
      have h3:=Int.dvd_add h1 (Int.dvd_mul_of_dvd_right (b:=(invI p ((c:Int) - (d:Int)):Int)) h2)
      rw [Int.mul_sub,show ∀ A B C D:Int,A - (B+C)+(C - D)=A - (B+D) from fun A B C D=>by omega] at h3
      have e0:ci (fun _=>0) i=0:=rfl
      rw [e0,Int.zero_add,Int.mul_add,Int.neg_mul,Int.mul_neg,← Int.mul_assoc] at h3
      rwa [show ∀ A B C:Int,A - (B + -C)=A - (B - C) from fun A B C=>by omega] at h3
theorem pcI_RV (hp:0<p)(hT0:∀ i j k,n≤k→T i j k=0)(hu:UnitI p n T uu)(he:RVp p n e)(c:Nat):RVp p n (pcI p n T uu e v c):=addN_RV hp he (powW_RV hp hT0 hu _)
theorem pcS_RV (hp:0<p)(hT0:∀ i j k,n≤k→T i j k=0)(he:RVp p n e)(c:Nat):∀ d,RVp p n (pcS p n T uu e v c d)
  | 0=>he
  | d+1=>by unfold pcS;split;exact pcS_RV hp hT0 he c d;exact timesV_RV hp hT0
theorem pcS_eq (hp:primeN p)(ha:AssI p n T)(hk:ComI n T)(hT0:∀ i j k,n≤k→T i j k=0)(hu:UnitI p n T uu)(hr:RVp p n e)(he:EqP p n (Pr n T (ci e) (ci e)) (ci e)){c:Nat}(hc:c<p):pcS p n T uu e v c p=pcI p n T uu e v c:=by
  have hp2:=hp.two;refine RVp.eq (pcS_RV (by omega) hT0 hr c p) (pcI_RV (by omega) hT0 hu hr c)<|EqP.trans (pcS_evl hp ha hu hc p (Nat.le_refl _)) (EqP.trans (fun i _=>evl_cong _ _ 0 i (chk1 p (mem_pr hp) c hc)) (pcI_evl hp ha hk hu he c).symm)
end
theorem chk3:∀ p∈([2,3,5,7,11,13]:List Nat),congL p ((List.range p).foldl (fun q c=>addL q (pcL p c)) []) [1]=true:=by decide +kernel
def zv:Nat→Nat:=fun _=>0
def pcs (p n:Nat) (T:Nat→Nat→Nat→Nat) (uu v e:Nat→Nat) (c:Nat):List (Nat→Nat):=(List.range c).filterMap fun c=>if eqV 6 (pcI p n T uu e v c) (fun _=>0) then none else some (pcI p n T uu e v c)
def spL (p n:Nat) (T:Nat→Nat→Nat→Nat) (uu v:Nat→Nat) (A:List (Nat→Nat)):List (Nat→Nat):=A.flatMap fun e=>pcs p n T uu v e p
def spW (p n:Nat) (T:Nat→Nat→Nat→Nat) (uu v:Nat→Nat) (A:List (Nat→Nat)) (i c:Nat):List (Nat→Nat):=(A.take i).flatMap (fun e=>pcs p n T uu v e p)++pcs p n T uu v (A.getD i zv) c
section
variable {p n : Nat} {T : Nat → Nat → Nat → Nat} {uu v : Nat → Nat} {A : List (Nat → Nat)}
theorem pcs_zero {e:Nat→Nat}:pcs p n T uu v e 0=[]:=rfl
theorem pcs_yes {e:Nat→Nat}{c:Nat}(h:¬ eqV 6 (pcI p n T uu e v c) (fun _=>0)):pcs p n T uu v e (c+1)=pcs p n T uu v e c++[pcI p n T uu e v c]:=by
  unfold pcs;rw [List.range_succ,List.filterMap_append];simp [h]
theorem pcs_no {e:Nat→Nat}{c:Nat}(h:eqV 6 (pcI p n T uu e v c) (fun _=>0)):pcs p n T uu v e (c+1)=pcs p n T uu v e c:=by
  unfold pcs;rw [List.range_succ,List.filterMap_append];simp [h]
theorem spW_00:spW p n T uu v A 0 0=[]:=by unfold spW;simp [pcs_zero]
theorem spW_yes {i c:Nat}(h:¬ eqV 6 (pcI p n T uu (A.getD i zv) v c) (fun _=>0)):spW p n T uu v A i (c+1)=spW p n T uu v A i c++[pcI p n T uu (A.getD i zv) v c]:=by
  unfold spW;rw [pcs_yes h,List.append_assoc]
theorem spW_no {i c:Nat}(h:eqV 6 (pcI p n T uu (A.getD i zv) v c) (fun _=>0)):spW p n T uu v A i (c+1)=spW p n T uu v A i c:=by
  unfold spW;rw [pcs_no h]
theorem spW_next {i:Nat}(h:i<A.length):spW p n T uu v A (i+1) 0=spW p n T uu v A i p:=by
  unfold spW
  rw [pcs_zero,List.append_nil,List.take_add_one,List.flatMap_append,List.getD_eq_getElem?_getD,List.getElem?_eq_getElem h]
  simp
theorem spW_all:spW p n T uu v A A.length 0=spL p n T uu v A:=by
  unfold spW spL;rw [pcs_zero,List.append_nil,List.take_length]
theorem spW_len (hp:p≤13):∀ i c,i≤A.length→(spW p n T uu v A i c).length≤i*13+c:=by
  have step:∀ i c,(spW p n T uu v A i (c+1)).length≤(spW p n T uu v A i c).length+1:=fun i c=>by
    by_cases h:eqV 6 (pcI p n T uu (A.getD i zv) v c) (fun _=>0)
    · rw [spW_no h];omega
    · rw [spW_yes h,List.length_append];simp
  intro i
  induction i with
  | zero =>
    intro c _
    induction c with
    | zero=>rw [spW_00];simp
    | succ c ih=>have:=step 0 c;omega
  | succ i ihi =>
    intro c hi
    induction c with
    | zero=>rw [spW_next (by omega)];have:=ihi p (by omega);omega
    | succ c ih=>have:=step (i+1) c;omega
structure InvA (p n:Nat) (T:Nat→Nat→Nat→Nat) (A:List (Nat→Nat)):Prop where
  rv:∀ x∈A,RVp p n x
  idem:∀ x∈A,EqP p n (Pr n T (ci x) (ci x)) (ci x)
  nz:∀ x∈A,¬ eqV 6 x (fun _=>0)
  orth:A.Pairwise fun x y=>EqP p n (Pr n T (ci x) (ci y)) (fun _=>0)
  ne:A≠[]
theorem nz_ex {x:Nat→Nat}(hn:n≤6)(h:RVp p n x)(hz:¬ eqV 6 x (fun _=>0)):∃ c,c<n∧x c≠0:=Classical.byContradiction fun hno=>hz fun c _=>by
  by_cases e:c<n
  · exact Classical.byContradiction fun e2=>hno ⟨c,e,e2⟩
  · exact h.2 c (by omega)
theorem orth_sym (hk:ComI n T){x y:Nat→Int}(h:EqP p n (Pr n T x y) (fun _=>0)):EqP p n (Pr n T y x) (fun _=>0):=(Pr_comm hk y x).trans h
theorem getD_mem {A:List (Nat→Nat)}{i:Nat}(h:i<A.length):A.getD i zv∈A:=by
  rw [List.getD_eq_getElem?_getD,List.getElem?_eq_getElem h];simp
theorem InvA.count (hp:primeN p)(hn:n≤6)(hk:ComI n T)(h:InvA p n T A):A.length≤n:=by
  refine idem_count (A:=fun i=>A.getD i zv) hp (fun i hi c=>(h.rv _ (getD_mem hi)).1 c) (fun i hi=>h.idem _ (getD_mem hi)) (fun i hi j hj hne=>?_) (fun i hi=>nz_ex hn (h.rv _ (getD_mem hi)) (h.nz _ (getD_mem hi)));have key:∀ i j,i<j→j<A.length→EqP p n (Pr n T (ci (A.getD i zv)) (ci (A.getD j zv))) (fun _=>0):=fun i j hij hj=>by
    have h1:=List.pairwise_iff_getElem.1 h.orth i j (by omega) hj hij
    rwa [List.getD_eq_getElem?_getD,List.getD_eq_getElem?_getD,List.getElem?_eq_getElem (show i<A.length by omega),List.getElem?_eq_getElem hj]
  rcases Nat.lt_or_ge i j with e | e
  · exact key i j e hj
  · exact orth_sym hk (key j i (by omega) hi)
theorem pcs_mem {e x:Nat→Nat}{c:Nat}(h:x∈pcs p n T uu v e c):∃ d,d<c∧x=pcI p n T uu e v d∧¬ eqV 6 x (fun _=>0):=by
  unfold pcs at h
  obtain ⟨d,hd,h2⟩:=List.mem_filterMap.1 h
  by_cases hz:eqV 6 (pcI p n T uu e v d) (fun _=>0)
  · rw [if_pos hz] at h2;cases h2
  · rw [if_neg hz] at h2;obtain rfl:=Option.some.inj h2;exact ⟨d,List.mem_range.1 hd,rfl,hz⟩
theorem fold_evl {E V:Nat→Int}:∀ (l:List Nat) (q:List Int) (i:Nat),evl n T E V (l.foldl (fun q c=>addL q (pcL p c)) q) 0 i=evl n T E V q 0 i+l.foldr (fun c s=>evl n T E V (pcL p c) 0 i+s) 0
  | [],q,i=>by simp
  | c::l,q,i=>by simp only [List.foldl_cons,List.foldr_cons];rw [fold_evl l,evl_add];omega
theorem InvA.split (hp:primeN p)(hn:n≤6)(ha:AssI p n T)(hk:ComI n T)(hT0:∀ i j k,n≤k→T i j k=0)(hu:UnitI p n T uu)(hv:EqP p n (vP n T (ci uu) (ci v) p) (ci v))(h:InvA p n T A):InvA p n T (spL p n T uu v A):=by
  have hp2:=hp.two;have hfix:∀ e:Nat→Nat,∀ i,EqP p n (eP n T (ci e) (ci v) (p+i)) (eP n T (ci e) (ci v) (1+i)):=fun e=>eP_fix ha (UnitI.righty hu) hv;have hpc:∀ e∈A,∀ c,EqP p n (ci (pcI p n T uu e v c)) (evl n T (ci e) (ci v) (pcL p c) 0):=fun e he c=>pcI_evl hp ha hk hu (h.idem e he) c;refine ⟨fun x hx=>?_,fun x hx=>?_,fun x hx=>?_,?_,?_⟩
  · obtain ⟨e,he,hx⟩:=List.mem_flatMap.1 hx
    obtain ⟨c,hc,rfl,_⟩:=pcs_mem hx;exact pcI_RV (by omega) hT0 hu (h.rv e he) c
  · obtain ⟨e,he,hx⟩:=List.mem_flatMap.1 hx
    obtain ⟨c,hc,rfl,_⟩:=pcs_mem hx;have:=pc_mul ha hk (h.idem e he) hp (hfix e) hc hc (hpc e he c) (hpc e he c)
    rwa [if_pos rfl] at this
  · obtain ⟨e,he,hx⟩:=List.mem_flatMap.1 hx
    obtain ⟨c,hc,rfl,hz⟩:=pcs_mem hx;exact hz
  · unfold spL
    rw [List.pairwise_flatMap];refine ⟨fun e he=>?_,h.orth.imp_of_mem fun {e1 e2} h1 h2 ho x hx y hy=>?_⟩
    · unfold pcs
      rw [List.pairwise_filterMap];refine (List.pairwise_lt_range (n:=p)).imp_of_mem fun {c d} hc hd hcd x hx y hy=>?_
      by_cases hz:eqV 6 (pcI p n T uu e v c) (fun _=>0)
      · rw [if_pos hz] at hx;cases hx
      · by_cases hz2:eqV 6 (pcI p n T uu e v d) (fun _=>0)
        · rw [if_pos hz2] at hy;cases hy
        · rw [if_neg hz] at hx;rw [if_neg hz2] at hy
          obtain rfl:=Option.some.inj hx;obtain rfl:=Option.some.inj hy;have:=pc_mul ha hk (h.idem e he) hp (hfix e) (List.mem_range.1 hc) (List.mem_range.1 hd) (hpc e he c) (hpc e he d)
          rwa [if_neg (by omega)] at this
    · obtain ⟨c,hc,rfl,_⟩:=pcs_mem hx
      obtain ⟨d,hd,rfl,_⟩:=pcs_mem hy;exact (EqP.mul (hpc e1 h1 c) (hpc e2 h2 d)).trans (pc_orth ha hk ho (pcL p c) (pcL p d))
  · obtain ⟨e,A',rfl⟩:=List.exists_cons_of_ne_nil h.ne
    intro hnil;have he:e∈e::A':=List.mem_cons_self ..;have hall:∀ c,c<p→eqV 6 (pcI p n T uu e v c) (fun _=>0):=fun c hc=>Classical.byContradiction fun hz=>by
      have hm:pcI p n T uu e v c∈spL p n T uu v (e::A'):=List.mem_flatMap.2 ⟨e,he,by
        unfold pcs;exact List.mem_filterMap.2 ⟨c,List.mem_range.2 hc,by rw [if_neg hz]⟩⟩
      rw [hnil] at hm;cases hm
    obtain ⟨i,hi,hne⟩:=nz_ex hn (h.rv e he) (h.nz e he);have hs:=evl_cong (n:=n) (T:=T) (e:=ci e) (v:=ci v) ((List.range p).foldl (fun q c=>addL q (pcL p c)) []) [1] 0 i (chk3 p (mem_pr hp));rw [fold_evl,congrFun evl_one i] at hs;have hz:∀ l:List Nat,(∀ c∈l,c<p)→(p:Int)∣l.foldr (fun c s=>evl n T (ci e) (ci v) (pcL p c) 0 i+s) 0:=fun l=>by
      induction l with
      | nil=>intro _;exact ⟨0,by simp⟩
      | cons c l ih =>
        intro hl;refine Int.dvd_add ?_ (ih fun d hd=>hl d (List.mem_cons_of_mem _ hd));have h1:=(hpc e he c).symm i hi;have h2:ci (pcI p n T uu e v c) i=0:=by unfold ci;rw [hall c (hl c (List.mem_cons_self ..)) i (by omega)];rfl
        rwa [h2,Int.sub_zero] at h1
    have h3:=hz (List.range p) (fun c hc=>List.mem_range.1 hc);have h4:=Int.dvd_sub h3 hs;have e0:evl n T (ci e) (ci v) [] 0 i=0:=rfl;rw [e0,show ∀ A B:Int,A - (0+A - B)=B from fun A B=>by omega] at h4;have h5:(p:Int)∣(e i:Int):=h4;exact hne (Nat.eq_zero_of_dvd_of_lt (Int.natCast_dvd_natCast.1 h5) ((h.rv e he).1 i))
theorem InvA.start (hp:primeN p)(hn0:0<n)(hn6:n≤6)(hu:UnitI p n T uu):InvA p n T [uu]:=by
  have hp2:=hp.two;refine ⟨fun x hx=>?_,fun x hx=>?_,fun x hx=>?_,List.pairwise_singleton _ _,by simp⟩
  · rw [List.mem_singleton.1 hx];exact UnitI.rv hu
  · rw [List.mem_singleton.1 hx];exact UnitI.righty hu _
  · rw [List.mem_singleton.1 hx]
    intro hz;have h2:=hu.right 0 hn0 0 hn0;rw [sI_zero (fun a ha=>by rw [hz a (by omega)];simp)] at h2;have h3:(p:Int)∣((1:Nat):Int):=by
      have e:(0:Int) - (dl 0 0:Int) = -((1:Nat):Int):=rfl;rw [e] at h2;exact (Int.dvd_neg).1 h2
    have:=Nat.le_of_dvd (by omega) (Int.natCast_dvd_natCast.1 h3)
    omega
end
theorem fx_ker {p n:Nat}{T:Nat→Nat→Nat→Nat}{uu:Nat→Nat}(hp:primeN p)(ha:AssI p n T)(hk:ComI n T)(hu:UnitI p n T uu)(v:Nat→Nat)(hv:∀ c,v c<p):Ker p n (spE p n T uu p 1) n (ci v)↔EqP p n (vP n T (ci uu) (ci v) p) (ci v):=by
  have hp2:=hp.two;refine fix_iff ha hk (UnitI.righty hu) hp v hv fun r hr c hc=>?_;have e:ci (fun q=>if q=c then 1 else 0)=eb c:=funext fun d=>by
    show (((if d=c then 1 else 0:Nat)):Int)=if d=c then 1 else 0
    split<;>rfl
  have h1:=addN_dvd (p:=p) (v:=powW (timesV p n T) uu (fun q=>if q=c then 1 else 0) p) (u:=fun q=>if q=c then 1 else 0) (x:=-((1:Nat):Int)) (c:=r) (by omega);have h2:=powW_vP (p:=p) (n:=n) (T:=T) (uu:=uu) (v:=fun q=>if q=c then 1 else 0) p r hr;rw [e] at h1 h2;have h3:=Int.dvd_add h1 h2
  rwa [show ∀ A B C D:Int,A - (B + -((1:Nat):Int)*C)+(B - D)=A - (D - C) from fun A B C D=>by omega] at h3
theorem vP_unit {p n:Nat}{T:Nat→Nat→Nat→Nat}{uu:Nat→Nat}(hu:UnitI p n T uu):∀ k,EqP p n (vP n T (ci uu) (ci uu) k) (ci uu)
  | 0=>EqP.refl _
  | k+1=>(EqP.mul (vP_unit hu k) (EqP.refl _)).trans (UnitI.righty hu _)
theorem unit_nz {p n:Nat}{T:Nat→Nat→Nat→Nat}{uu:Nat→Nat}(hp2:2≤p)(hn0:0<n)(hn6:n≤6)(hu:UnitI p n T uu):∃ c,c<n∧uu c≠0:=Classical.byContradiction fun hno=>by
  have hz:∀ c,c<n→uu c=0:=fun c hc=>Classical.byContradiction fun h=>hno ⟨c,hc,h⟩
  have h2:=hu.right 0 hn0 0 hn0
  rw [sI_zero (fun a ha=>by rw [hz a ha];simp)] at h2
  have h3:(p:Int)∣((1:Nat):Int):=by
    have e:(0:Int) - (dl 0 0:Int) = -((1:Nat):Int):=rfl;rw [e] at h2;exact (Int.dvd_neg).1 h2
  have:=Nat.le_of_dvd (by omega) (Int.natCast_dvd_natCast.1 h3)
  omega
theorem fx_hne {p n:Nat}{T:Nat→Nat→Nat→Nat}{uu:Nat→Nat}(hp:primeN p)(hn0:0<n)(hn6:n≤6)(ha:AssI p n T)(hk:ComI n T)(hu:UnitI p n T uu):∀ k E ld,Rref p n E k ld→(∀ x,Ker p n E k x↔Ker p n (spE p n T uu p 1) n x)→0<nf k ld n:=by
  obtain ⟨c,hc,hz⟩:=unit_nz hp.two hn0 hn6 hu;exact ker_ne hp.two hu.small hc hz ((fx_ker hp ha hk hu uu hu.small).2 (vP_unit hu p))
theorem pcI_cong {p n:Nat}{T:Nat→Nat→Nat→Nat}{uu e v v':Nat→Nat}(h:∀ c,c<n→v c=v' c)(c:Nat):pcI p n T uu e v c=pcI p n T uu e v' c:=by
  have:timesV p n T e v=timesV p n T e v':=funext fun k=>by
    have e1:prodI T e v n n k=prodI T e v' n n k:=by
      have:=prodI_Pr (n:=n) (T:=T) (v:=e) (u:=v) (c:=k);have h2:=prodI_Pr (n:=n) (T:=T) (v:=e) (u:=v') (c:=k);have h3:Pr n T (ci e) (ci v) k=Pr n T (ci e) (ci v') k:=sI_congr fun a _=>sI_congr fun b hb=>by unfold ci;rw [h b hb]
      rw [h3,← h2] at this;exact Int.ofNat_inj.1 this
    unfold timesV;rw [e1]
  unfold pcI;rw [this]
theorem spL_cong {p n:Nat}{T:Nat→Nat→Nat→Nat}{uu v v':Nat→Nat}(h:∀ c,c<n→v c=v' c)(A:List (Nat→Nat)):spL p n T uu v A=spL p n T uu v' A:=by
  unfold spL pcs
  have e:∀ (e:Nat→Nat) (c:Nat),pcI p n T uu e v c=pcI p n T uu e v' c:=fun e c=>pcI_cong h c;simp only [e]
def prL (p n:Nat) (T:Nat→Nat→Nat→Nat) (uu:Nat→Nat) (V:Nat→Nat→Nat):Nat→List (Nat→Nat)
  | 0=>[uu]
  | k+1=>spL p n T uu (V k) (prL p n T uu V k)
theorem prL_cong {p n:Nat}{T:Nat→Nat→Nat→Nat}{uu:Nat→Nat}{V V':Nat→Nat→Nat}:∀ r,(∀ i,i<r→∀ c,c<n→V i c=V' i c)→prL p n T uu V r=prL p n T uu V' r
  | 0,_=>rfl
  | r + 1, h => by
    show spL p n T uu (V r) _=spL p n T uu (V' r) _
    rw [prL_cong r fun i hi=>h i (by omega),spL_cong (h r (by omega))]
theorem prL_inv {p n r:Nat}{T:Nat→Nat→Nat→Nat}{uu:Nat→Nat}{V:Nat→Nat→Nat}(hp:primeN p)(hn0:0<n)(hn6:n≤6)(ha:AssI p n T)(hk:ComI n T)(hT0:∀ i j k,n≤k→T i j k=0)(hu:UnitI p n T uu)(hV:IsKer p n (spE p n T uu p 1) n r V):∀ k,k≤r→InvA p n T (prL p n T uu V k)
  | 0,_=>InvA.start hp hn0 hn6 hu
  | k + 1, h => by
    have hp2:=hp.two
    have e:prL p n T uu V (k+1)=spL p n T uu (fun c=>if c<n then V k c else 0) (prL p n T uu V k):=spL_cong (fun c hc=>(if_pos hc).symm) _
    rw [e]
    refine InvA.split hp hn6 ha hk hT0 hu ?_ (prL_inv hp hn0 hn6 ha hk hT0 hu hV k (by omega))
    refine (fx_ker hp ha hk hu _ (fun c=>?_)).1 ?_
    · split
      · exact row_lt hV (by omega) (by assumption)
      · omega
    · intro i hi
      have:=ker_row hp2 hV (show k<r by omega) i hi
      unfold dot at this ⊢
      rwa [sI_congr fun c hc=>show ci (spE p n T uu p 1 i) c*ci (V k) c=ci (spE p n T uu p 1 i) c*ci (fun c=>if c<n then V k c else 0) c from by show _=_*((if c<n then V k c else 0:Nat):Int);rw [if_pos hc]] at this
def ltV (x y:Nat→Nat):Prop:=∃ i,i<6∧(∀ j,j<i→x j=y j)∧x i<y i
instance (x y:Nat→Nat):Decidable (ltV x y):=inferInstanceAs (Decidable (∃ i,i<6∧(∀ j,j<i→x j=y j)∧x i<y i))
theorem ltV_at {x y:Nat→Nat}{i:Nat}(hi:i<6)(h:∀ j,j<i→x j=y j)(hne:x i≠y i):ltV x y↔x i<y i:=by
  constructor
  · rintro ⟨k,hk,h1,h2⟩
    rcases Nat.lt_trichotomy k i with e | e | e
    · have:=h k e;omega
    · rw [← e];exact h2
    · exact absurd (h1 i e) hne
  · intro h2;exact ⟨i,hi,h,h2⟩
theorem ltV_no {x y:Nat→Nat}(h:∀ j,j<6→x j=y j):¬ ltV x y:=fun ⟨k,hk,_,h2⟩=>by have:=h k hk;omega
def gz (A:List (Nat→Nat)):Nat→Nat→Nat:=fun i=>A.getD i zv
theorem ltV_trans {x y z:Nat→Nat}(h:ltV x y)(k:ltV y z):ltV x z:=by
  obtain ⟨i,hi,h1,h2⟩:=h;obtain ⟨j,hj,k1,k2⟩:=k
  rcases Nat.lt_trichotomy i j with e | e | e
  · exact ⟨i,hi,fun q hq=>(h1 q hq).trans (k1 q (by omega)),by have:=k1 i e;omega⟩
  · subst e;exact ⟨i,hi,fun q hq=>(h1 q hq).trans (k1 q hq),by omega⟩
  · exact ⟨j,hj,fun q hq=>(h1 q (by omega)).trans (k1 q hq),by have:=h1 j e;omega⟩
theorem ltV_tri {x y:Nat→Nat}(h1:¬ ltV x y)(h2:¬ ltV y x):∀ c,c<6→x c=y c:=by
  intro c
  induction c using Nat.strongRecOn with
  | ind c ih =>
    intro hc
    rcases Nat.lt_trichotomy (x c) (y c) with e | e | e
    · exact absurd ⟨c,hc,fun j hj=>ih j hj (by omega),e⟩ h1
    · exact e
    · exact absurd ⟨c,hc,fun j hj=>(ih j hj (by omega)).symm,e⟩ h2
def ps (S:Nat→Nat→Nat) (x:Nat→Nat):Nat→Nat
  | 0=>0
  | i+1=>if ltV (S i) x then i+1 else ps S x i
theorem ps_le {S:Nat→Nat→Nat}{x:Nat→Nat}:∀ i,ps S x i≤i
  | 0=>Nat.le_refl _
  | i+1=>by have:=ps_le (S:=S) (x:=x) i;unfold ps;split<;>omega
theorem ps_eq {S:Nat→Nat→Nat}{x:Nat→Nat}{j:Nat}:∀ i,j≤i→(j=0∨ltV (S (j - 1)) x)→(∀ k,j≤k→k<i→¬ ltV (S k) x)→ps S x i=j
  | 0,h,_,_=>by unfold ps;omega
  | i + 1, h, h1, h2 => by
    unfold ps
    by_cases e:j=i+1
    · subst e
      rw [if_pos]
      rcases h1 with h1 | h1
      · omega
      · exact h1
    · rw [if_neg (h2 i (by omega) (by omega))];exact ps_eq i (by omega) h1 (fun k h3 h4=>h2 k h3 (by omega))
theorem ps_above {S:Nat→Nat→Nat}{x:Nat→Nat}:∀ i k,ps S x i≤k→k<i→¬ ltV (S k) x
  | 0,k,_,h=>absurd h (by omega)
  | i + 1, k, h, hk => by
    unfold ps at h
    by_cases e:ltV (S i) x
    · rw [if_pos e] at h;omega
    · rw [if_neg e] at h
      by_cases e2:k=i
      · rw [e2];exact e
      · exact ps_above i k h (by omega)
theorem ps_at {S:Nat→Nat→Nat}{x:Nat→Nat}:∀ i,ps S x i=0∨ltV (S (ps S x i - 1)) x
  | 0=>.inl rfl
  | i + 1 => by
    unfold ps
    by_cases e:ltV (S i) x
    · rw [if_pos e];exact .inr e
    · rw [if_neg e];exact ps_at i
def insF (S:Nat→Nat→Nat) (x:Nat→Nat) (i:Nat):Nat→Nat→Nat:=fun k=>if k<ps S x i then S k else if k=ps S x i then x else S (k - 1)
def srt (L:Nat→Nat→Nat):Nat→Nat→Nat→Nat
  | 0=>fun _=>zv
  | i+1=>insF (srt L i) (L i) i
def Dst (L:Nat→Nat→Nat) (N:Nat):Prop:=∀ a,a<N→∀ b,b<N→a≠b→¬ ∀ c,c<6→L a c=L b c
theorem srt_mem {L:Nat→Nat→Nat}:∀ i a,a<i→∃ b,b<i∧srt L i a=L b
  | 0,a,h=>absurd h (by omega)
  | i + 1, a, ha => by
    show ∃ b,b<i+1∧insF (srt L i) (L i) i a=L b
    unfold insF
    have hp:=ps_le (S:=srt L i) (x:=L i) i
    split
    · obtain ⟨b,hb,e⟩:=srt_mem (L:=L) i a (by omega);exact ⟨b,by omega,e⟩
    · split
      · exact ⟨i,by omega,rfl⟩
      · obtain ⟨b,hb,e⟩:=srt_mem (L:=L) i (a - 1) (by omega);exact ⟨b,by omega,e⟩
theorem srt_tri {L:Nat→Nat→Nat}{N i k:Nat}(hD:Dst L N)(hi:i<N)(hk:k<i):ltV (srt L i k) (L i)∨ltV (L i) (srt L i k):=by
  obtain ⟨b,hb,e⟩:=srt_mem (L:=L) i k hk
  by_cases h1:ltV (srt L i k) (L i)
  · exact .inl h1
  · by_cases h2:ltV (L i) (srt L i k)
    · exact .inr h2
    · rw [e] at h1 h2
      exact absurd (ltV_tri h1 h2) (hD b (by omega) i hi (by omega))
theorem srt_sorted {L:Nat→Nat→Nat}{N:Nat}(hD:Dst L N):∀ i,i≤N→∀ a b,a<b→b<i→ltV (srt L i a) (srt L i b)
  | 0,_,a,b,_,hb=>absurd hb (by omega)
  | i + 1, h, a, b, hab, hb => by
    have ih:=srt_sorted hD i (by omega)
    have hp:=ps_le (S:=srt L i) (x:=L i) i
    have hlo:∀ k,k<ps (srt L i) (L i) i→ltV (srt L i k) (L i):=fun k hk=>by
      rcases ps_at (S:=srt L i) (x:=L i) i with e | e
      · omega
      · by_cases e2:k=ps (srt L i) (L i) i - 1
        · rw [e2];exact e
        · exact ltV_trans (ih k _ (by omega) (by omega)) e
    have hhi:∀ k,ps (srt L i) (L i) i≤k→k<i→ltV (L i) (srt L i k):=fun k h1 h2=>(srt_tri hD (by omega) h2).resolve_left (ps_above i k h1 h2)
    show ltV (insF (srt L i) (L i) i a) (insF (srt L i) (L i) i b)
    unfold insF
    by_cases ha:a<ps (srt L i) (L i) i
    · rw [if_pos ha]
      by_cases h1:b<ps (srt L i) (L i) i
      · rw [if_pos h1];exact ih a b hab (by omega)
      · rw [if_neg h1]
        by_cases h2:b=ps (srt L i) (L i) i
        · rw [if_pos h2];exact hlo a ha
        · rw [if_neg h2];exact ih a (b - 1) (by omega) (by omega)
    · rw [if_neg ha,if_neg (show ¬ b<ps (srt L i) (L i) i by omega),if_neg (show ¬ b=ps (srt L i) (L i) i by omega)]
      by_cases h2:a=ps (srt L i) (L i) i
      · rw [if_pos h2];exact hhi (b - 1) (by omega) (by omega)
      · rw [if_neg h2];exact ih (a - 1) (b - 1) (by omega) (by omega)
theorem srt_le {L:Nat→Nat→Nat}(hL:∀ k c,L k c≤255):∀ i k c,srt L i k c≤255
  | 0,k,c=>Nat.zero_le _
  | i + 1, k, c => by
    show insF (srt L i) (L i) i k c≤255
    unfold insF;split
    · exact srt_le hL i _ c
    · split
      · exact hL _ _
      · exact srt_le hL i _ c
theorem prL_pad {p n:Nat}{T:Nat→Nat→Nat→Nat}{uu:Nat→Nat}{V:Nat→Nat→Nat}(k:Nat):prL p n T uu (padN n V) k=prL p n T uu V k:=prL_cong k fun i _ c hc=>if_pos hc
theorem prL_invP {p n r:Nat}{T:Nat→Nat→Nat→Nat}{uu:Nat→Nat}{V:Nat→Nat→Nat}(hp:primeN p)(hn0:0<n)(hn6:n≤6)(ha:AssI p n T)(hk:ComI n T)(hT0:∀ i j k,n≤k→T i j k=0)(hu:UnitI p n T uu)(hV:IsKer p n (spE p n T uu p 1) n r V)(k:Nat)(h:k≤r):InvA p n T (prL p n T uu (padN n V) k):=by
  rw [prL_pad];exact prL_inv hp hn0 hn6 ha hk hT0 hu hV k h
theorem pad_le {p n m r:Nat}{M V:Nat→Nat→Nat}(hp13:p≤13)(h:IsKer p n M m r V){i:Nat}(hi:i<r):∀ c,padN n V i c≤255:=fun c=>by
  unfold padN;split
  · have:=row_lt h hi (by assumption);omega
  · omega
theorem gz_le {p n:Nat}{T:Nat→Nat→Nat→Nat}{A:List (Nat→Nat)}(hp13:p≤13)(h:InvA p n T A):∀ k c,gz A k c≤255:=fun k c=>by
  by_cases e:k<A.length
  · have h1:A.getD k zv∈A:=getD_mem e
    have:=(h.rv _ h1).1 c
    unfold gz;omega
  · unfold gz;rw [List.getD_eq_getElem?_getD,List.getElem?_eq_none (by omega)];exact Nat.zero_le _
theorem gz_dst {p n:Nat}{T:Nat→Nat→Nat→Nat}{A:List (Nat→Nat)}(hn:n≤6)(hk:ComI n T)(h:InvA p n T A):Dst (gz A) A.length:=by
  have key:∀ a b,a<b→b<A.length→¬ ∀ c,c<6→gz A a c=gz A b c:=fun a b hab hb he=>by
    have h1:=List.pairwise_iff_getElem.1 h.orth a b (by omega) hb hab;have ha:gz A a=A[a]:=by unfold gz;rw [List.getD_eq_getElem?_getD,List.getElem?_eq_getElem (show a<A.length by omega)];rfl
    have hb':gz A b=A[b]:=by unfold gz;rw [List.getD_eq_getElem?_getD,List.getElem?_eq_getElem hb];rfl
    rw [ha,hb'] at he;have hm:A[a]∈A:=List.getElem_mem _;have h2:EqP p n (ci A[b]) (ci A[a]):=fun c hc=>by unfold ci;rw [he c (by omega),Int.sub_self];exact ⟨0,by simp⟩
    have h3:=(h.idem _ hm).symm.trans ((EqP.mul (EqP.refl _) h2.symm).trans h1);obtain ⟨c,hc,hz⟩:=nz_ex hn (h.rv _ hm) (h.nz _ hm);have h4:=h3 c hc;rw [Int.sub_zero] at h4;exact hz (Nat.eq_zero_of_dvd_of_lt (Int.natCast_dvd_natCast.1 h4) ((h.rv _ hm).1 c))
  intro a ha b hb hne
  rcases Nat.lt_or_ge a b with e | e
  · exact key a b e hb
  · exact fun he=>key b a (by omega) ha (fun c hc=>(he c hc).symm)
section
variable {p n r : Nat} {T : Nat → Nat → Nat → Nat} {uu : Nat → Nat} {V : Nat → Nat → Nat}
theorem row_fixed (hp:primeN p)(ha:AssI p n T)(hk:ComI n T)(hu:UnitI p n T uu)(hV:IsKer p n (spE p n T uu p 1) n r V){k:Nat}(hkr:k<r):EqP p n (vP n T (ci uu) (ci (fun c=>if c<n then V k c else 0)) p) (ci (fun c=>if c<n then V k c else 0)):=by
  have hp2:=hp.two;refine (fx_ker hp ha hk hu _ (fun c=>?_)).1 ?_
  · split
    · exact row_lt hV hkr (by assumption)
    · omega
  · intro i hi
    have:=ker_row hp2 hV hkr i hi
    unfold dot at this ⊢
    rwa [sI_congr fun c hc=>show ci (spE p n T uu p 1 i) c*ci (V k) c=ci (spE p n T uu p 1 i) c*ci (fun c=>if c<n then V k c else 0) c from by show _=_*((if c<n then V k c else 0:Nat):Int);rw [if_pos hc]] at this
theorem prL_eig (hp:primeN p)(hn0:0<n)(hn6:n≤6)(ha:AssI p n T)(hk:ComI n T)(hT0:∀ i j k,n≤k→T i j k=0)(hu:UnitI p n T uu)(hV:IsKer p n (spE p n T uu p 1) n r V):∀ k,k≤r→∀ e∈prL p n T uu V k,∀ i,i<k→∃ a:Nat,EqP p n (Pr n T (ci e) (ci (V i))) (fun c=>(a:Int)*ci e c)
  | 0,_=>fun e he i hi=>absurd hi (by omega)
  | k + 1, h => fun x hx i hi => by
    have e:prL p n T uu V (k+1)=spL p n T uu (fun c=>if c<n then V k c else 0) (prL p n T uu V k):=spL_cong (fun c hc=>(if_pos hc).symm) _
    rw [e] at hx
    obtain ⟨e0,he0,hx⟩:=List.mem_flatMap.1 hx
    obtain ⟨c,hc,rfl,_⟩:=pcs_mem hx
    have hid:=(prL_inv hp hn0 hn6 ha hk hT0 hu hV k (by omega)).idem e0 he0
    have hpc:=pcI_evl (v:=fun c=>if c<n then V k c else 0) hp ha hk hu hid c
    by_cases hik:i=k
    · subst hik
      have h1:=pc_eig (e:=ci e0) (v:=ci (fun c=>if c<n then V i c else 0)) (x:=ci (pcI p n T uu e0 (fun c=>if c<n then V i c else 0) c)) hp (eP_fix ha (UnitI.righty hu) (row_fixed hp ha hk hu hV (show i<r by omega))) hc hpc
      refine ⟨c,EqP.trans (EqP.mul (EqP.refl _) fun q hq=>?_) h1⟩
      have:ci (fun c=>if c<n then V i c else 0) q=ci (V i) q:=by show ((if q<n then V i q else 0:Nat):Int)=_;rw [if_pos hq]
      rw [this,Int.sub_self];exact ⟨0,by simp⟩
    · obtain ⟨a,h2⟩:=prL_eig hp hn0 hn6 ha hk hT0 hu hV k (by omega) e0 he0 i (by omega)
      exact ⟨a,pc_keep ha hk hid hpc h2⟩
theorem prL_prim (hp:primeN p)(hn0:0<n)(hn6:n≤6)(ha:AssI p n T)(hk:ComI n T)(hT0:∀ i j k,n≤k→T i j k=0)(hu:UnitI p n T uu)(hV:IsKer p n (spE p n T uu p 1) n r V):∀ e∈prL p n T uu V r,PrimE p n T (ci uu) (ci e):=fun e he=>
  prim_of hk hp (fun v hv h=>(fx_ker hp ha hk hu v hv).2 h) hV ((prL_inv hp hn0 hn6 ha hk hT0 hu hV r (Nat.le_refl _)).idem e he) fun i hi=>prL_eig hp hn0 hn6 ha hk hT0 hu hV r (Nat.le_refl _) e he i hi
def lsum (A:List (Nat→Nat)) (c:Nat):Int:=A.foldr (fun x s=>ci x c+s) 0
theorem lsum_app (A B:List (Nat→Nat))(c:Nat):lsum (A++B) c=lsum A c+lsum B c:=by
  induction A with
  | nil=>show lsum B c=0+lsum B c;omega
  | cons x A ih=>show ci x c+lsum (A++B) c=ci x c+lsum A c+lsum B c;omega
theorem pcs_lsum {e v:Nat→Nat}(hn6:n≤6){c:Nat}(hc:c<n):∀ m,lsum (pcs p n T uu v e m) c=sI (fun d=>ci (pcI p n T uu e v d) c) m
  | 0=>rfl
  | m + 1 => by
    show _=sI (fun d=>ci (pcI p n T uu e v d) c) m+ci (pcI p n T uu e v m) c
    rw [← pcs_lsum hn6 hc m]
    by_cases h:eqV 6 (pcI p n T uu e v m) (fun _=>0)
    · rw [pcs_no h]
      have:ci (pcI p n T uu e v m) c=0:=by unfold ci;rw [h c (by omega)];rfl
      omega
    · rw [pcs_yes h,lsum_app]
      show _+(ci (pcI p n T uu e v m) c+0)=_
      omega
theorem sI_foldr {E W:Nat→Int}{i:Nat}:∀ m,sI (fun d=>evl n T E W (pcL p d) 0 i) m=(List.range m).foldr (fun c s=>evl n T E W (pcL p c) 0 i+s) 0
  | 0=>rfl
  | m + 1 => by
    have key:∀ (l:List Nat) (z:Int),l.foldr (fun c s=>evl n T E W (pcL p c) 0 i+s) z=l.foldr (fun c s=>evl n T E W (pcL p c) 0 i+s) 0+z:=fun l z=>by
      induction l with
      | nil=>show z=0+z;omega
      | cons a l ih=>simp only [List.foldr_cons];rw [ih];omega
    rw [List.range_succ,List.foldr_append,key,← sI_foldr m]
    show _+evl n T E W (pcL p m) 0 i=_+(evl n T E W (pcL p m) 0 i+0)
    omega
theorem pcs_sum {e v:Nat→Nat}(hp:primeN p)(hn6:n≤6)(ha:AssI p n T)(hk:ComI n T)(hu:UnitI p n T uu)(he:EqP p n (Pr n T (ci e) (ci e)) (ci e)):EqP p n (lsum (pcs p n T uu v e p)) (ci e):=fun c hc=>by
  rw [pcs_lsum hn6 hc]
  have h1:(p:Int)∣sI (fun d=>ci (pcI p n T uu e v d) c) p - sI (fun d=>evl n T (ci e) (ci v) (pcL p d) 0 c) p:=by
    rw [sI_sub];exact sI_dvd fun d _=>pcI_evl hp ha hk hu he d c hc
  rw [sI_foldr] at h1;have hs:=evl_cong (n:=n) (T:=T) (e:=ci e) (v:=ci v) ((List.range p).foldl (fun q c=>addL q (pcL p c)) []) [1] 0 c (chk3 p (mem_pr hp));rw [fold_evl,congrFun evl_one c] at hs;have e0:evl n T (ci e) (ci v) [] 0 c=0:=rfl;rw [e0,Int.zero_add] at hs;have:=Int.dvd_add h1 hs
  rwa [show ∀ A B C:Int,A - B+(B - C)=A - C from fun A B C=>by omega] at this
theorem spL_sum {v:Nat→Nat}(hp:primeN p)(hn6:n≤6)(ha:AssI p n T)(hk:ComI n T)(hu:UnitI p n T uu):∀ A:List (Nat→Nat),(∀ e∈A,EqP p n (Pr n T (ci e) (ci e)) (ci e))→EqP p n (lsum (spL p n T uu v A)) (lsum A)
  | [],_=>EqP.refl _
  | e :: A, h => fun c hc => by
    have h1:=pcs_sum (v:=v) hp hn6 ha hk hu (h e (List.mem_cons_self ..)) c hc
    have h2:=spL_sum (v:=v) hp hn6 ha hk hu A (fun x hx=>h x (List.mem_cons_of_mem _ hx)) c hc
    have e1:spL p n T uu v (e::A)=pcs p n T uu v e p++spL p n T uu v A:=rfl
    rw [e1,lsum_app]
    show (p:Int)∣_ - (ci e c+lsum A c)
    have:=Int.dvd_add h1 h2
    rwa [show ∀ A B C D:Int,A - B+(C - D)=A+C - (B+D) from fun A B C D=>by omega] at this
theorem prL_sum (hp:primeN p)(hn0:0<n)(hn6:n≤6)(ha:AssI p n T)(hk:ComI n T)(hT0:∀ i j k,n≤k→T i j k=0)(hu:UnitI p n T uu)(hV:IsKer p n (spE p n T uu p 1) n r V):∀ k,k≤r→EqP p n (lsum (prL p n T uu V k)) (ci uu)
  | 0,_=>fun c _=>by show (p:Int)∣ci uu c+0 - ci uu c;exact ⟨0,by omega⟩
  | k+1,h=>EqP.trans (spL_sum hp hn6 ha hk hu _ (prL_inv hp hn0 hn6 ha hk hT0 hu hV k (by omega)).idem) (prL_sum hp hn0 hn6 ha hk hT0 hu hV k (by omega))
theorem lsum_gz (c:Nat):∀ A:List (Nat→Nat),lsum A c=sI (fun i=>ci (gz A i) c) A.length:=fun A=>by
  induction A with
  | nil=>rfl
  | cons x A ih=>show ci x c+lsum A c=sI _ (A.length+1);rw [ih,sI_head];rfl
theorem sI_ins {f:Nat→Int}{x:Int}{q:Nat}:∀ i,q≤i→sI (fun k=>if k<q then f k else if k=q then x else f (k - 1)) (i+1)=sI f i+x
  | 0, h => by
    obtain rfl:q=0:=by omega
    show 0+_=0+x
    simp
  | i + 1, h => by
    show sI _ (i+1)+(if i+1<q then f (i+1) else if i+1=q then x else f (i+1 - 1))=sI f i+f i+x
    by_cases e:q=i+1
    · subst e
      rw [if_neg (by omega),if_pos rfl,sI_congr (g:=f) (fun k hk=>if_pos hk)];rfl
    · rw [sI_ins i (by omega),if_neg (by omega),if_neg (by omega),show i+1 - 1=i by omega];omega
theorem srt_sum {L:Nat→Nat→Nat}(c:Nat):∀ i,sI (fun k=>ci (srt L i k) c) i=sI (fun k=>ci (L k) c) i
  | 0=>rfl
  | i + 1 => by
    show _=sI (fun k=>ci (L k) c) i+ci (L i) c
    rw [← srt_sum c i,← sI_ins (f:=fun k=>ci (srt L i k) c) (x:=ci (L i) c) (q:=ps (srt L i) (L i) i) i (ps_le i)]
    refine sI_congr fun k _=>?_
    show ci (insF (srt L i) (L i) i k) c=_
    unfold insF
    by_cases h1:k<ps (srt L i) (L i) i
    · rw [if_pos h1,if_pos h1]
    · rw [if_neg h1,if_neg h1]
      by_cases h2:k=ps (srt L i) (L i) i
      · rw [if_pos h2,if_pos h2]
      · rw [if_neg h2,if_neg h2]
end
end Go.Proofs.YtccdgjmomcljkaaDoor
