import Derived.Test.YtccdgjmomcljkaaDoorY27
import Derived.Test.YtccdgjmomcljkaaDoorSw10
import Derived.Test.YtccdgjmomcljkaaDoorEch26
set_option linter.unusedVariables false
set_option linter.unusedSimpArgs false
namespace Go.Proofs.YtccdgjmomcljkaaDoor
open Go Go.RowKit Go.Sw Go.Ech
open Classical
theorem ebci (c:Nat):ci (fun q=>if q=c then 1 else 0)=eb c:=funext fun d=>by
  show (((if d=c then 1 else 0:Nat):Nat):Int)=if d=c then 1 else 0
  split<;>rfl
theorem nilS_of {p n:Nat}{T:Nat→Nat→Nat→Nat}{uu:Nat→Nat}(hp:primeN p)(hn:n≤6)(ha:AssI p n T)(hk:ComI n T)(hu:UnitI p n T uu):NilS p n T (ci uu) (kkE p (nilE p n)) (fun r c=>imP p n T uu (kkE p (nilE p n)) c r):=by
  refine ⟨kk_pos hp.two _,?_,lin_kk ha hk (UnitI.righty hu) hp _,fun r hr c hc=>?_⟩
  · have:=(kk_lt (p:=p) (n:=n) (g:=nilE p n) hp hn (Nat.le_refl _)).1
    omega
  · have h:=powW_vP (p:=p) (n:=n) (T:=T) (uu:=uu) (v:=fun q=>if q=c then 1 else 0) (kkE p (nilE p n)) r hr
    rw [ebci] at h;exact h
theorem Pr_ebs {n:Nat}{T:Nat→Nat→Nat→Nat}(y z:Nat→Int)(k:Nat):Pr n T y z k=sI (fun c=>y c*Pr n T (eb c) z k) n:=by
  unfold Pr
  refine sI_congr fun a ha=>?_;rw [sI_one (f:=fun a'=>sI (fun b=>eb a a'*z b*(T a' b k:Int)) n) ha (fun i _ hne=>sI_zero fun b _=>by unfold eb;rw [if_neg hne];simp)];rw [← sI_mul];refine sI_congr fun b _=>?_
  unfold eb
  rw [if_pos rfl]
  grind
theorem socS_an {p n R:Nat}{T:Nat→Nat→Nat→Nat}{W:Nat→Nat→Nat}:SocS p n T R W (R*n) (anM p n T (cutR n R W)):=by
  have key:∀ (y:Nat→Int) (j k:Nat),j<R→k<n→(p:Int)∣dot n (ci (anM p n T (cutR n R W) (j*n+k))) y - Pr n T y (ci (W j)) k:=fun y j k hj hk=>by
    rw [Pr_ebs]
    unfold dot
    rw [sI_sub];refine sI_dvd fun c hc=>?_;have e:anM p n T (cutR n R W) (j*n+k) c=timesV p n T (fun x=>if x=c then 1 else 0) (cutR n R W j) k:=anM_row hk;have h1:=timesV_eq (p:=p) (n:=n) (T:=T) (fun x=>if x=c then 1 else 0) (cutR n R W j) k hk;rw [ebci] at h1;have h2:=EqP.mul (p:=p) (n:=n) (T:=T) (EqP.refl (eb c)) (y:=ci (cutR n R W j)) (y':=ci (W j)) (fun q hq=>by
      have:cutR n R W j q=W j q:=if_pos ⟨hj,hq⟩
      show (p:Int)∣(cutR n R W j q:Int) - (W j q:Int)
      rw [this,Int.sub_self];exact ⟨0,by simp⟩) k hk
    have h3:=Int.dvd_add h1 h2;rw [show ∀ A B C:Int,A - B+(B - C)=A - C from fun A B C=>by omega] at h3;have h4:=Int.dvd_mul_of_dvd_right (b:=y c) h3;rw [Int.mul_sub] at h4
    show (p:Int)∣(anM p n T (cutR n R W) (j*n+k) c:Int)*y c - y c*Pr n T (eb c) (ci (W j)) k
    rw [e,Int.mul_comm];exact h4
  intro y
  constructor
  · intro h j hj k hk
    have h1:=h (j*n+k) (by
      have:(j+1)*n≤R*n:=Nat.mul_le_mul_right n (by omega);rw [Nat.add_mul,Nat.one_mul] at this;omega)
    have:=(dvd_iff_sub (key y j k hj hk)).1 h1
    rwa [Int.sub_zero]
  · intro h i hi
    have hn:0<n:=Nat.pos_of_ne_zero fun e=>by subst e;omega
    have hj:i / n<R:=by rw [Nat.div_lt_iff_lt_mul hn];exact hi
    have hk:=Nat.mod_lt i hn;have e:i / n*n+i%n=i:=by rw [Nat.mul_comm];exact Nat.div_add_mod i n
    have h1:=key y (i / n) (i%n) hj hk;rw [e] at h1;have h2:=h (i / n) hj (i%n) hk;rw [Int.sub_zero] at h2;exact (dvd_iff_sub h1).2 h2
theorem prM_of {p n r:Nat}{T:Nat→Nat→Nat→Nat}{e:Nat→Nat}{V V':Nat→Nat→Nat}(h:∀ i,i<r→∀ c,c<n→V i c=V' i c):PrM p n T (ci e) V' r (ptM p n T e V):=fun i hi=>by
  refine EqP.trans (timesV_eq e (V i)) (EqP.mul (EqP.refl _) fun c hc=>?_)
  show (p:Int)∣(V i c:Int) - (V' i c:Int)
  rw [h i hi c hc,Int.sub_self];exact ⟨0,by simp⟩
theorem isRk_zero {p n:Nat}{M:Nat→Nat→Nat}(hp:primeN p)(hM:∀ i c,M i c<p):IsRk p n M 0 0:=fun r V h=>by have:=red_le hp hM h;omega
theorem sym_both {p n r0 R1 R2 m:Nat}{T:Nat→Nat→Nat→Nat}{uu:Nat→Nat}{W0 W1 W2 SM:Nat→Nat→Nat}{rB rN rS:Nat→Nat}(hp:primeN p)(hn0:0<n)(hn:n≤6)(ha:AssI p n T)(hk:ComI n T)(hT0:∀ i j k,n≤k→T i j k=0)(hu:UnitI p n T uu)
    (hK0:IsKer p n (spE p n T uu p 1) n r0 W0) (hW1:IsKer p n (fun r c=>imP p n T uu (kkE p (nilE p n)) c r) n R1 W1) (hS:SocS p n T R1 W1 m SM) (hW2:IsKer p n SM m R2 W2)
    (hrb:∀ i,i<(prL p n T uu W0 r0).length→IsRk p n (ptM p n T ((srt (gz (prL p n T uu W0 r0)) (prL p n T uu W0 r0).length) i) (fun i q=>if q=i then 1 else 0)) n (rB i)) (hrn:∀ i,i<(prL p n T uu W0 r0).length→IsRk p n (ptM p n T ((srt (gz (prL p n T uu W0 r0)) (prL p n T uu W0 r0).length) i) (padN n W1)) R1 (rN i)) (hrs:∀ i,i<(prL p n T uu W0 r0).length→IsRk p n (ptM p n T ((srt (gz (prL p n T uu W0 r0)) (prL p n T uu W0 r0).length) i) (cutR n R2 W2)) R2 (rS i)) :
    (∀ i,i<(prL p n T uu W0 r0).length→(rS i:Int)=(rB i:Int) - (rN i:Int))↔R2+R1=n:=by
  have hp2:=hp.two;have hI:=prL_inv hp hn0 hn ha hk hT0 hu hK0 r0 (Nat.le_refl _);have hD:=gz_dst hn hk hI;have hm:∀ i,i<(prL p n T uu W0 r0).length→(srt (gz (prL p n T uu W0 r0)) (prL p n T uu W0 r0).length) i∈(prL p n T uu W0 r0):=fun i hi=>by
    obtain ⟨b,hb,e⟩:=srt_mem (L:=gz (prL p n T uu W0 r0)) (prL p n T uu W0 r0).length i hi;rw [e];exact getD_mem hb
  have ho:∀ i j,i<(prL p n T uu W0 r0).length→j<(prL p n T uu W0 r0).length→i≠j→EqP p n (Pr n T (ci ((srt (gz (prL p n T uu W0 r0)) (prL p n T uu W0 r0).length) i)) (ci ((srt (gz (prL p n T uu W0 r0)) (prL p n T uu W0 r0).length) j))) (fun _=>0):=fun i j hi hj hij=>by
    obtain ⟨a,ha',ea⟩:=srt_mem (L:=gz (prL p n T uu W0 r0)) (prL p n T uu W0 r0).length i hi;obtain ⟨b,hb',eb'⟩:=srt_mem (L:=gz (prL p n T uu W0 r0)) (prL p n T uu W0 r0).length j hj;have hne:a≠b:=fun e=>by
      have es:(srt (gz (prL p n T uu W0 r0)) (prL p n T uu W0 r0).length) i=(srt (gz (prL p n T uu W0 r0)) (prL p n T uu W0 r0).length) j:=by rw [ea,eb',e]
      rcases Nat.lt_or_gt_of_ne hij with h | h
      · obtain ⟨q,_,_,h3⟩:=srt_sorted hD (prL p n T uu W0 r0).length (Nat.le_refl _) i j h hj
        rw [es] at h3;omega
      · obtain ⟨q,_,_,h3⟩:=srt_sorted hD (prL p n T uu W0 r0).length (Nat.le_refl _) j i h hi
        rw [es] at h3;omega
    rw [ea,eb'];have key:∀ a b,a<b→b<(prL p n T uu W0 r0).length→EqP p n (Pr n T (ci (gz (prL p n T uu W0 r0) a)) (ci (gz (prL p n T uu W0 r0) b))) (fun _=>0):=fun a b hab hb=>by
      have h1:=List.pairwise_iff_getElem.1 hI.orth a b (by omega) hb hab
      unfold gz
      rwa [List.getD_eq_getElem?_getD,List.getD_eq_getElem?_getD,List.getElem?_eq_getElem (show a<(prL p n T uu W0 r0).length by omega),List.getElem?_eq_getElem hb]
    rcases Nat.lt_or_gt_of_ne hne with h | h
    · exact key a b h hb'
    · exact orth_sym hk (key b a h ha')
  refine sym_iff (s:=(prL p n T uu W0 r0).length) (E:=fun i=>ci ((srt (gz (prL p n T uu W0 r0)) (prL p n T uu W0 r0).length) i)) (MA:=fun i=>ptM p n T ((srt (gz (prL p n T uu W0 r0)) (prL p n T uu W0 r0).length) i) (fun i q=>if q=i then 1 else 0)) (MN:=fun i=>ptM p n T ((srt (gz (prL p n T uu W0 r0)) (prL p n T uu W0 r0).length) i) (padN n W1)) (MS:=fun i=>ptM p n T ((srt (gz (prL p n T uu W0 r0)) (prL p n T uu W0 r0).length) i) (cutR n R2 W2)) ha hk (UnitI.righty hu) hp (nilS_of hp hn ha hk hu) hW1 hS hW2 (fun i hi=>prL_prim hp hn0 hn ha hk hT0 hu hK0 _ (hm i hi)) (fun i hi h0=>?_) ho (fun y=>?_) (fun i hi=>prM_of fun j hj c hc=>rfl) (fun i hi=>prM_of fun j hj c hc=>if_pos hc) (fun i hi=>prM_of fun j hj c hc=>if_pos ⟨hj,hc⟩) (fun i=>ptM_lt (by omega)) (fun i=>ptM_lt (by omega)) (fun i=>ptM_lt (by omega)) hrb hrn hrs
  · obtain ⟨c,hc,hz⟩:=nz_ex hn (hI.rv _ (hm i hi)) (hI.nz _ (hm i hi))
    have h1:=h0 c hc;rw [Int.sub_zero] at h1;exact hz (Nat.eq_zero_of_dvd_of_lt (Int.natCast_dvd_natCast.1 h1) ((hI.rv _ (hm i hi)).1 c))
  · refine EqP.trans (EqP.mul (y':=y) (x':=ci uu) (fun c hc=>?_) (EqP.refl y)) fun c hc=>Pr_unit_left hu y hc
    have e:sumE (fun i=>ci ((srt (gz (prL p n T uu W0 r0)) (prL p n T uu W0 r0).length) i)) (prL p n T uu W0 r0).length c=lsum (prL p n T uu W0 r0) c:=by
      rw [lsum_gz];exact srt_sum (L:=gz (prL p n T uu W0 r0)) c (prL p n T uu W0 r0).length
    rw [e];exact prL_sum hp hn0 hn ha hk hT0 hu hK0 r0 (Nat.le_refl _) c hc
end Go.Proofs.YtccdgjmomcljkaaDoor
