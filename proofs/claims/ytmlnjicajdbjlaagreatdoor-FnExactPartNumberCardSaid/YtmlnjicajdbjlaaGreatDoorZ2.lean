import Derived.Test.YtmlnjicajdbjlaaGreatDoorY7
import Derived.Test.YtmlnjicajdbjlaaGreatDoorEch15
set_option linter.unusedVariables false
set_option linter.unusedSimpArgs false
namespace Go.Proofs.YtmlnjicajdbjlaaGreatDoor
open Go Go.RowKit Go.Sw Go.Ech
open Classical
theorem ty_ze_2:zeroP Tryz.prog 2=some (.int .i64 (0)):=by kernel_rfl
theorem ty_on_56:oneP Tryz.prog 56=true:=by kernel_rfl
end Go.Proofs.YtmlnjicajdbjlaaGreatDoor
namespace Go.Proofs.YtmlnjicajdbjlaaGreatDoor
open Go Go.RowKit Go.Sw Go.Ech
open Classical
theorem prodI_Pr {n c:Nat}{T:Nat→Nat→Nat→Nat}{v u:Nat→Nat}:(prodI T v u n n c:Int)=Pr n T (ci v) (ci u) c:=by
  unfold prodI Pr
  rw [sumTo_sI];refine sI_congr fun a _=>?_;rw [sumTo_sI];exact sI_congr fun b _=>by simp [ci,Int.natCast_mul]
theorem mod_dvd {p a:Nat}:(p:Int)∣((a%p:Nat):Int) - (a:Int):=by
  have:=emod_dvd (p:Int) (a:Int)
  rwa [← Int.natCast_emod] at this
theorem timesV_dvd {p n c:Nat}{T:Nat→Nat→Nat→Nat}{v u:Nat→Nat}:(p:Int)∣(timesV p n T v u c:Int) - Pr n T (ci v) (ci u) c:=by
  rw [← prodI_Pr];exact mod_dvd
theorem AssI_of {p n:Nat}{T:Nat→Nat→Nat→Nat}(hn:n≤6)(h:asS p n T):AssI p n T:=by
  intro i hi j hj k hk d hd;have h1:=h i hi j hj k hk d (by omega)
  unfold timesS at h1
  rw [if_pos hd,if_pos hd] at h1;have a1:(p:Int)∣(timesV p n T (T i j) (fun c=>if c=k then 1 else 0) d:Int) - (prodI T (T i j) (fun c=>if c=k then 1 else 0) n n d:Int):=mod_dvd;have a2:(p:Int)∣(timesV p n T (fun c=>if c=i then 1 else 0) (T j k) d:Int) - (prodI T (fun c=>if c=i then 1 else 0) (T j k) n n d:Int):=mod_dvd;rw [prodI_right hk] at a1;rw [prodI_left hi] at a2;rw [h1] at a1;have:=Int.dvd_sub a2 a1
  rwa [show ∀ A B C:Int,A - B - (A - C)=C - B from fun A B C=>by omega] at this
theorem ComI_of {n:Nat}{T:Nat→Nat→Nat→Nat}(hn:n≤6)(h:comP T):ComI n T:=fun i hi j hj k hk=>(comP_iff.2 h) i (by omega) j (by omega) k (by omega)
def RVp (p n:Nat) (x:Nat→Nat):Prop:=(∀ c,x c<p)∧∀ c,n≤c→x c=0
theorem RVp.eq {p n:Nat}{x y:Nat→Nat}(hx:RVp p n x)(hy:RVp p n y)(h:EqP p n (ci x) (ci y)):x=y:=funext fun c=>by
  by_cases hc:c<n
  · exact eq_of_dvd (hx.1 c) (hy.1 c) (h c hc)
  · rw [hx.2 c (by omega),hy.2 c (by omega)]
theorem timesV_RV {p n:Nat}{T:Nat→Nat→Nat→Nat}{v u:Nat→Nat}(hp:0<p)(hT0:∀ i j k,n≤k→T i j k=0):RVp p n (timesV p n T v u):=⟨fun c=>Nat.mod_lt _ hp,fun c hc=>timesV_out hT0 hc⟩
theorem addN_dvd {p:Nat}{v u:Nat→Nat}{x:Int}{c:Nat}(hp:0<p):(p:Int)∣ci (addN p v u x) c - (ci v c+x*ci u c):=by
  show (p:Int)∣(addN p v u x c:Int) - _
  rw [← (addN_cast (p:=p) (v:=v) (u:=u) (x:=x) (i:=c) hp).2];exact emod_dvd _ _
theorem addN_RV {p n:Nat}{v u:Nat→Nat}{x:Int}(hp:0<p)(hv:RVp p n v)(hu:RVp p n u):RVp p n (addN p v u x):=⟨fun c=>addN_lt hp,fun c hc=>by
  unfold addN;rw [hv.2 c hc,hu.2 c hc];simp⟩
theorem UnitI.rv {p n:Nat}{T:Nat→Nat→Nat→Nat}{uu:Nat→Nat}(h:UnitI p n T uu):RVp p n uu:=⟨h.small,h.out⟩
theorem UnitI.righty {p n:Nat}{T:Nat→Nat→Nat→Nat}{uu:Nat→Nat}(h:UnitI p n T uu):∀ y,EqP p n (Pr n T y (ci uu)) y:=fun y c hc=>Pr_unit_right h y hc
theorem powW_RV {p n:Nat}{T:Nat→Nat→Nat→Nat}{uu v:Nat→Nat}(hp:0<p)(hT0:∀ i j k,n≤k→T i j k=0)(hu:UnitI p n T uu):∀ k,RVp p n (powW (timesV p n T) uu v k)
  | 0=>UnitI.rv hu
  | k+1=>timesV_RV hp hT0
theorem timesV_eq {p n:Nat}{T:Nat→Nat→Nat→Nat}(v u:Nat→Nat):EqP p n (ci (timesV p n T v u)) (Pr n T (ci v) (ci u)):=fun c _=>timesV_dvd
theorem powW_vP {p n:Nat}{T:Nat→Nat→Nat→Nat}{uu v:Nat→Nat}:∀ k,EqP p n (ci (powW (timesV p n T) uu v k)) (vP n T (ci uu) (ci v) k)
  | 0=>EqP.refl _
  | k+1=>(timesV_eq _ _).trans (EqP.mul (powW_vP k) (EqP.refl _))
def pcI (p n:Nat) (T:Nat→Nat→Nat→Nat) (uu e v:Nat→Nat) (c:Nat):Nat→Nat:=addN p e (powW (timesV p n T) uu (addN p (timesV p n T e v) e (-(c:Int))) (p - 1)) (-1)
def pcS (p n:Nat) (T:Nat→Nat→Nat→Nat) (uu e v:Nat→Nat) (c:Nat):Nat→Nat→Nat
  | 0=>e
  | d+1=>if d=c then pcS p n T uu e v c d else timesV p n T (pcS p n T uu e v c d) (addN p (fun _=>0) (addN p v uu (-(d:Int))) ((invN ((((c:Int) - (d:Int))%(p:Int)).toNat) p:Nat):Int))
theorem inv_chk:∀ p∈([2,3,5,7,11,13]:List Nat),∀ c,c<p→∀ d,d<p→invN (((((c:Nat):Int) - ((d:Nat):Int))%(p:Int)).toNat) p=invI p ((c:Int) - (d:Int)):=by decide +kernel
theorem mem_pr {p:Nat}(hp:primeN p):p∈([2,3,5,7,11,13]:List Nat):=by unfold primeN at hp;simp;omega
section
variable {p n : Nat} {T : Nat → Nat → Nat → Nat} {uu e v : Nat → Nat}
theorem evl_one {E V:Nat→Int}:evl n T E V [1] 0=E:=funext fun c=>by simp [evl,eP]
theorem pcI_evl (hp:primeN p)(ha:AssI p n T)(hk:ComI n T)(hu:UnitI p n T uu)(he:EqP p n (Pr n T (ci e) (ci e)) (ci e))(c:Nat):EqP p n (ci (pcI p n T uu e v c)) (evl n T (ci e) (ci v) (pcL p c) 0):=by
  have hp2:=hp.two;have hr:EqP p n (ci (addN p (timesV p n T e v) e (-(c:Int)))) (fun i=>Pr n T (ci e) (ci v) i - (c:Int)*ci e i):=fun i hi=>by
    have h1:=addN_dvd (p:=p) (v:=timesV p n T e v) (u:=e) (x:=-(c:Int)) (c:=i) (by omega);have h2:=timesV_eq (p:=p) (n:=n) (T:=T) e v i hi;have:=Int.dvd_add h1 h2;rw [Int.neg_mul] at this
    rwa [show ∀ A B C D:Int,A - (B + -C)+(B - D)=A - (D - C) from fun A B C D=>by omega] at this
  have key:∀ k,EqP p n (ci (powW (timesV p n T) uu (addN p (timesV p n T e v) e (-(c:Int))) (k+1))) (evl n T (ci e) (ci v) (iL p c (k+1)) 0):=fun k=>by
    induction k with
    | zero =>
      refine EqP.trans (timesV_eq _ _) (EqP.trans (fun i hi=>Pr_unit_left hu _ hi) (EqP.trans hr fun i hi=>?_));have h:=evl_lin (p:=p) (n:=n) (T:=T) (e:=ci e) (v:=ci v) 1 (c:Int) [1] 0 i;have:=Int.dvd_neg.2 h;rw [Int.neg_sub,Int.one_mul,Int.one_mul] at this;have e1:evl n T (ci e) (ci v) [1] 1 i=Pr n T (ci e) (ci v) i:=by simp [evl,eP]
      rw [e1,congrFun evl_one i] at this;exact this
    | succ k ih=>exact EqP.trans (timesV_eq _ _) (lin_I ha hk he ih hr)
  obtain ⟨q,hq⟩:∃ q,p - 1=q+1:=⟨p - 2,by omega⟩;intro i hi;have h1:=addN_dvd (p:=p) (v:=e) (u:=powW (timesV p n T) uu (addN p (timesV p n T e v) e (-(c:Int))) (p - 1)) (x:=-1) (c:=i) (by omega);have h2:=key q i hi;rw [← hq] at h2;have h3:evl n T (ci e) (ci v) (pcL p c) 0 i=ci e i + -1*evl n T (ci e) (ci v) (iL p c (p - 1)) 0 i:=by
    unfold pcL;rw [evl_add,evl_map,congrFun evl_one i]
  rw [h3];have:=Int.dvd_sub h1 h2
  show (p:Int)∣ci (pcI p n T uu e v c) i - _
  unfold pcI
  rwa [show ∀ A B C D:Int,A - (B + -1*C) - (C - D)=A - (B + -1*D) from fun A B C D=>by omega] at this
theorem pcS_evl (hp:primeN p)(ha:AssI p n T)(hu:UnitI p n T uu){c:Nat}(hc:c<p):∀ d,d≤p→EqP p n (ci (pcS p n T uu e v c d)) (evl n T (ci e) (ci v) (sL p c d) 0)
  | 0,_=>by rw [show sL p c 0=[1] from rfl,evl_one];exact EqP.refl _
  | d + 1, hd => by
    have hp2:=hp.two
    have ih:=pcS_evl hp ha hu hc d (by omega)
    unfold sL pcS
    by_cases hdc:d=c
    · rw [if_pos hdc,if_pos hdc];exact ih
    · rw [if_neg hdc,if_neg hdc,inv_chk p (mem_pr hp) c hc d (by omega)]
      refine EqP.trans (timesV_eq _ _) (lin_S (UnitI.righty hu) ih fun i hi=>?_)
      have h1:=addN_dvd (p:=p) (v:=fun _=>0) (u:=addN p v uu (-(d:Int))) (x:=(invI p ((c:Int) - (d:Int)):Int)) (c:=i) (by omega)
      have h2:=addN_dvd (p:=p) (v:=v) (u:=uu) (x:=-(d:Int)) (c:=i) (by omega)
      have h3:=Int.dvd_add h1 (Int.dvd_mul_of_dvd_right (b:=(invI p ((c:Int) - (d:Int)):Int)) h2)
      rw [Int.mul_sub,show ∀ A B C D:Int,A - (B+C)+(C - D)=A - (B+D) from fun A B C D=>by omega] at h3
      have e0:ci (fun _=>0) i=0:=rfl
      rw [e0,Int.zero_add,Int.mul_add,Int.neg_mul,Int.mul_neg,← Int.mul_assoc] at h3
      rwa [show ∀ A B C:Int,A - (B + -C)=A - (B - C) from fun A B C=>by omega] at h3
theorem pcI_RV (hp:0<p)(hT0:∀ i j k,n≤k→T i j k=0)(hu:UnitI p n T uu)(he:RVp p n e)(c:Nat):RVp p n (pcI p n T uu e v c):=addN_RV hp he (powW_RV hp hT0 hu _)
theorem pcS_RV (hp:0<p)(hT0:∀ i j k,n≤k→T i j k=0)(he:RVp p n e)(c:Nat):∀ d,RVp p n (pcS p n T uu e v c d)
  | 0=>he
  | d+1=>by unfold pcS;split;exact pcS_RV hp hT0 he c d;exact timesV_RV hp hT0
theorem pcS_eq (hp:primeN p)(ha:AssI p n T)(hk:ComI n T)(hT0:∀ i j k,n≤k→T i j k=0)(hu:UnitI p n T uu)(hr:RVp p n e)(he:EqP p n (Pr n T (ci e) (ci e)) (ci e)){c:Nat}(hc:c<p):pcS p n T uu e v c p=pcI p n T uu e v c:=by
  have hp2:=hp.two;refine RVp.eq (pcS_RV (by omega) hT0 hr c p) (pcI_RV (by omega) hT0 hu hr c)<|EqP.trans (pcS_evl hp ha hu hc p (Nat.le_refl _)) (EqP.trans (fun i _=>evl_cong _ _ 0 i (chk1 p (mem_pr hp) c hc)) (pcI_evl hp ha hk hu he c).symm)
end
end Go.Proofs.YtmlnjicajdbjlaaGreatDoor
namespace Go.Proofs.YtmlnjicajdbjlaaGreatDoor
open Go Go.RowKit Go.Sw Go.Ech
open Classical
theorem chk3:∀ p∈([2,3,5,7,11,13]:List Nat),congL p ((List.range p).foldl (fun q c=>addL q (pcL p c)) []) [1]=true:=by decide +kernel
def zv:Nat→Nat:=fun _=>0
def pcs (p n:Nat) (T:Nat→Nat→Nat→Nat) (uu v e:Nat→Nat) (c:Nat):List (Nat→Nat):=(List.range c).filterMap fun c=>if eqV 6 (pcI p n T uu e v c) (fun _=>0) then none else some (pcI p n T uu e v c)
def spL (p n:Nat) (T:Nat→Nat→Nat→Nat) (uu v:Nat→Nat) (A:List (Nat→Nat)):List (Nat→Nat):=A.flatMap fun e=>pcs p n T uu v e p
def spW (p n:Nat) (T:Nat→Nat→Nat→Nat) (uu v:Nat→Nat) (A:List (Nat→Nat)) (i c:Nat):List (Nat→Nat):=(A.take i).flatMap (fun e=>pcs p n T uu v e p)++pcs p n T uu v (A.getD i zv) c
section
variable {p n : Nat} {T : Nat → Nat → Nat → Nat} {uu v : Nat → Nat} {A : List (Nat → Nat)}
theorem pcs_zero {e:Nat→Nat}:pcs p n T uu v e 0=[]:=rfl
theorem pcs_yes {e:Nat→Nat}{c:Nat}(h:¬ eqV 6 (pcI p n T uu e v c) (fun _=>0)):pcs p n T uu v e (c+1)=pcs p n T uu v e c++[pcI p n T uu e v c]:=by
  unfold pcs;rw [List.range_succ,List.filterMap_append];simp [h]
theorem pcs_no {e:Nat→Nat}{c:Nat}(h:eqV 6 (pcI p n T uu e v c) (fun _=>0)):pcs p n T uu v e (c+1)=pcs p n T uu v e c:=by
  unfold pcs;rw [List.range_succ,List.filterMap_append];simp [h]
theorem spW_00:spW p n T uu v A 0 0=[]:=by unfold spW;simp [pcs_zero]
theorem spW_yes {i c:Nat}(h:¬ eqV 6 (pcI p n T uu (A.getD i zv) v c) (fun _=>0)):spW p n T uu v A i (c+1)=spW p n T uu v A i c++[pcI p n T uu (A.getD i zv) v c]:=by
  unfold spW;rw [pcs_yes h,List.append_assoc]
theorem spW_no {i c:Nat}(h:eqV 6 (pcI p n T uu (A.getD i zv) v c) (fun _=>0)):spW p n T uu v A i (c+1)=spW p n T uu v A i c:=by
  unfold spW;rw [pcs_no h]
theorem spW_next {i:Nat}(h:i<A.length):spW p n T uu v A (i+1) 0=spW p n T uu v A i p:=by
  unfold spW
  rw [pcs_zero,List.append_nil,List.take_add_one,List.flatMap_append,List.getD_eq_getElem?_getD,List.getElem?_eq_getElem h]
  simp
theorem spW_all:spW p n T uu v A A.length 0=spL p n T uu v A:=by
  unfold spW spL;rw [pcs_zero,List.append_nil,List.take_length]
theorem spW_len (hp:p≤13):∀ i c,i≤A.length→(spW p n T uu v A i c).length≤i*13+c:=by
  have step:∀ i c,(spW p n T uu v A i (c+1)).length≤(spW p n T uu v A i c).length+1:=fun i c=>by
    by_cases h:eqV 6 (pcI p n T uu (A.getD i zv) v c) (fun _=>0)
    · rw [spW_no h];omega
    · rw [spW_yes h,List.length_append];simp
  intro i
  induction i with
  | zero =>
    intro c _
    induction c with
    | zero=>rw [spW_00];simp
    | succ c ih=>have:=step 0 c;omega
  | succ i ihi =>
    intro c hi
    induction c with
    | zero=>rw [spW_next (by omega)];have:=ihi p (by omega);omega
    | succ c ih=>have:=step (i+1) c;omega
structure InvA (p n:Nat) (T:Nat→Nat→Nat→Nat) (A:List (Nat→Nat)):Prop where
  rv:∀ x∈A,RVp p n x
  idem:∀ x∈A,EqP p n (Pr n T (ci x) (ci x)) (ci x)
  nz:∀ x∈A,¬ eqV 6 x (fun _=>0)
  orth:A.Pairwise fun x y=>EqP p n (Pr n T (ci x) (ci y)) (fun _=>0)
  ne:A≠[]
theorem nz_ex {x:Nat→Nat}(hn:n≤6)(h:RVp p n x)(hz:¬ eqV 6 x (fun _=>0)):∃ c,c<n∧x c≠0:=Classical.byContradiction fun hno=>hz fun c _=>by
  by_cases e:c<n
  · exact Classical.byContradiction fun e2=>hno ⟨c,e,e2⟩
  · exact h.2 c (by omega)
theorem orth_sym (hk:ComI n T){x y:Nat→Int}(h:EqP p n (Pr n T x y) (fun _=>0)):EqP p n (Pr n T y x) (fun _=>0):=(Pr_comm hk y x).trans h
theorem getD_mem {A:List (Nat→Nat)}{i:Nat}(h:i<A.length):A.getD i zv∈A:=by
  rw [List.getD_eq_getElem?_getD,List.getElem?_eq_getElem h];simp
theorem InvA.count (hp:primeN p)(hn:n≤6)(hk:ComI n T)(h:InvA p n T A):A.length≤n:=by
  refine idem_count (A:=fun i=>A.getD i zv) hp (fun i hi c=>(h.rv _ (getD_mem hi)).1 c) (fun i hi=>h.idem _ (getD_mem hi)) (fun i hi j hj hne=>?_) (fun i hi=>nz_ex hn (h.rv _ (getD_mem hi)) (h.nz _ (getD_mem hi)));have key:∀ i j,i<j→j<A.length→EqP p n (Pr n T (ci (A.getD i zv)) (ci (A.getD j zv))) (fun _=>0):=fun i j hij hj=>by
    have h1:=List.pairwise_iff_getElem.1 h.orth i j (by omega) hj hij
    rwa [List.getD_eq_getElem?_getD,List.getD_eq_getElem?_getD,List.getElem?_eq_getElem (show i<A.length by omega),List.getElem?_eq_getElem hj]
  rcases Nat.lt_or_ge i j with e | e
  · exact key i j e hj
  · exact orth_sym hk (key j i (by omega) hi)
theorem pcs_mem {e x:Nat→Nat}{c:Nat}(h:x∈pcs p n T uu v e c):∃ d,d<c∧x=pcI p n T uu e v d∧¬ eqV 6 x (fun _=>0):=by
  unfold pcs at h
  obtain ⟨d,hd,h2⟩:=List.mem_filterMap.1 h
  by_cases hz:eqV 6 (pcI p n T uu e v d) (fun _=>0)
  · rw [if_pos hz] at h2;cases h2
  · rw [if_neg hz] at h2;obtain rfl:=Option.some.inj h2;exact ⟨d,List.mem_range.1 hd,rfl,hz⟩
theorem fold_evl {E V:Nat→Int}:∀ (l:List Nat) (q:List Int) (i:Nat),evl n T E V (l.foldl (fun q c=>addL q (pcL p c)) q) 0 i=evl n T E V q 0 i+l.foldr (fun c s=>evl n T E V (pcL p c) 0 i+s) 0
  | [],q,i=>by simp
  | c::l,q,i=>by simp only [List.foldl_cons,List.foldr_cons];rw [fold_evl l,evl_add];omega
theorem InvA.split (hp:primeN p)(hn:n≤6)(ha:AssI p n T)(hk:ComI n T)(hT0:∀ i j k,n≤k→T i j k=0)(hu:UnitI p n T uu)(hv:EqP p n (vP n T (ci uu) (ci v) p) (ci v))(h:InvA p n T A):InvA p n T (spL p n T uu v A):=by
  have hp2:=hp.two;have hfix:∀ e:Nat→Nat,∀ i,EqP p n (eP n T (ci e) (ci v) (p+i)) (eP n T (ci e) (ci v) (1+i)):=fun e=>eP_fix ha (UnitI.righty hu) hv;have hpc:∀ e∈A,∀ c,EqP p n (ci (pcI p n T uu e v c)) (evl n T (ci e) (ci v) (pcL p c) 0):=fun e he c=>pcI_evl hp ha hk hu (h.idem e he) c;refine ⟨fun x hx=>?_,fun x hx=>?_,fun x hx=>?_,?_,?_⟩
  · obtain ⟨e,he,hx⟩:=List.mem_flatMap.1 hx
    obtain ⟨c,hc,rfl,_⟩:=pcs_mem hx;exact pcI_RV (by omega) hT0 hu (h.rv e he) c
  · obtain ⟨e,he,hx⟩:=List.mem_flatMap.1 hx
    obtain ⟨c,hc,rfl,_⟩:=pcs_mem hx;have:=pc_mul ha hk (h.idem e he) hp (hfix e) hc hc (hpc e he c) (hpc e he c)
    rwa [if_pos rfl] at this
  · obtain ⟨e,he,hx⟩:=List.mem_flatMap.1 hx
    obtain ⟨c,hc,rfl,hz⟩:=pcs_mem hx;exact hz
  · unfold spL
    rw [List.pairwise_flatMap];refine ⟨fun e he=>?_,h.orth.imp_of_mem fun {e1 e2} h1 h2 ho x hx y hy=>?_⟩
    · unfold pcs
      rw [List.pairwise_filterMap];refine (List.pairwise_lt_range (n:=p)).imp_of_mem fun {c d} hc hd hcd x hx y hy=>?_
      by_cases hz:eqV 6 (pcI p n T uu e v c) (fun _=>0)
      · rw [if_pos hz] at hx;cases hx
      · by_cases hz2:eqV 6 (pcI p n T uu e v d) (fun _=>0)
        · rw [if_pos hz2] at hy;cases hy
        · rw [if_neg hz] at hx;rw [if_neg hz2] at hy
          obtain rfl:=Option.some.inj hx;obtain rfl:=Option.some.inj hy;have:=pc_mul ha hk (h.idem e he) hp (hfix e) (List.mem_range.1 hc) (List.mem_range.1 hd) (hpc e he c) (hpc e he d)
          rwa [if_neg (by omega)] at this
    · obtain ⟨c,hc,rfl,_⟩:=pcs_mem hx
      obtain ⟨d,hd,rfl,_⟩:=pcs_mem hy;exact (EqP.mul (hpc e1 h1 c) (hpc e2 h2 d)).trans (pc_orth ha hk ho (pcL p c) (pcL p d))
  · obtain ⟨e,A',rfl⟩:=List.exists_cons_of_ne_nil h.ne
    intro hnil;have he:e∈e::A':=List.mem_cons_self ..;have hall:∀ c,c<p→eqV 6 (pcI p n T uu e v c) (fun _=>0):=fun c hc=>Classical.byContradiction fun hz=>by
      have hm:pcI p n T uu e v c∈spL p n T uu v (e::A'):=List.mem_flatMap.2 ⟨e,he,by
        unfold pcs;exact List.mem_filterMap.2 ⟨c,List.mem_range.2 hc,by rw [if_neg hz]⟩⟩
      rw [hnil] at hm;cases hm
    obtain ⟨i,hi,hne⟩:=nz_ex hn (h.rv e he) (h.nz e he);have hs:=evl_cong (n:=n) (T:=T) (e:=ci e) (v:=ci v) ((List.range p).foldl (fun q c=>addL q (pcL p c)) []) [1] 0 i (chk3 p (mem_pr hp));rw [fold_evl,congrFun evl_one i] at hs;have hz:∀ l:List Nat,(∀ c∈l,c<p)→(p:Int)∣l.foldr (fun c s=>evl n T (ci e) (ci v) (pcL p c) 0 i+s) 0:=fun l=>by
      induction l with
      | nil=>intro _;exact ⟨0,by simp⟩
      | cons c l ih =>
        intro hl;refine Int.dvd_add ?_ (ih fun d hd=>hl d (List.mem_cons_of_mem _ hd));have h1:=(hpc e he c).symm i hi;have h2:ci (pcI p n T uu e v c) i=0:=by unfold ci;rw [hall c (hl c (List.mem_cons_self ..)) i (by omega)];rfl
        rwa [h2,Int.sub_zero] at h1
    have h3:=hz (List.range p) (fun c hc=>List.mem_range.1 hc);have h4:=Int.dvd_sub h3 hs;have e0:evl n T (ci e) (ci v) [] 0 i=0:=rfl;rw [e0,show ∀ A B:Int,A - (0+A - B)=B from fun A B=>by omega] at h4;have h5:(p:Int)∣(e i:Int):=h4;exact hne (Nat.eq_zero_of_dvd_of_lt (Int.natCast_dvd_natCast.1 h5) ((h.rv e he).1 i))
theorem InvA.start (hp:primeN p)(hn0:0<n)(hn6:n≤6)(hu:UnitI p n T uu):InvA p n T [uu]:=by
  have hp2:=hp.two;refine ⟨fun x hx=>?_,fun x hx=>?_,fun x hx=>?_,List.pairwise_singleton _ _,by simp⟩
  · rw [List.mem_singleton.1 hx];exact UnitI.rv hu
  · rw [List.mem_singleton.1 hx];exact UnitI.righty hu _
  · rw [List.mem_singleton.1 hx]
    intro hz;have h2:=hu.right 0 hn0 0 hn0;rw [sI_zero (fun a ha=>by rw [hz a (by omega)];simp)] at h2;have h3:(p:Int)∣((1:Nat):Int):=by
      have e:(0:Int) - (dl 0 0:Int) = -((1:Nat):Int):=rfl;rw [e] at h2;exact (Int.dvd_neg).1 h2
    have:=Nat.le_of_dvd (by omega) (Int.natCast_dvd_natCast.1 h3)
    omega
end
end Go.Proofs.YtmlnjicajdbjlaaGreatDoor
