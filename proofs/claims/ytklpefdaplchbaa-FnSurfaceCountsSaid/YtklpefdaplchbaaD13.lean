import Derived.Test.YtklpefdaplchbaaN5
import Derived.Test.YtklpefdaplchbaaQ1
import Derived.Test.YtklpefdaplchbaaV8
import Derived.Test.YtklpefdaplchbaaQ3
import Derived.Test.YtklpefdaplchbaaC11
set_option linter.unusedVariables false
set_option linter.unusedSimpArgs false
namespace Go.Proofs.Ytklpefdaplchbaa
open Go Go.RowKit Go.Sw Go.Ech
open Classical
section
variable {n p : Nat} {M : Nat → Nat → Nat}
theorem fx_in2 (hn0:0<n)(hn:n≤6)(hG:TabP n M){r x:Nat}(hr:r<n)(h:inC M n r x=true):fx M n r x=fx M n r r:=by
  obtain ⟨y0,hy0,e⟩:=inC_iff.1 h;have hi0:=iv_lt hG hy0
  unfold fx
  rw [← sumTo_re (F:=fun y=>if cj M n r y=x then 1 else 0) (σ:=fun a=>M y0 a) (τ:=fun c=>M (iv M n y0) c) (fun a ha=>hG.c hn hy0 ha) (fun c hc=>hG.c hn hi0 hc) (fun a c ha hc=>g_solve hn0 hn hG hy0 ha hc)];refine sumTo_congr' fun y hy=>?_
  show (if cj M n r (M y0 y)=x then 1 else 0)=_
  rw [cj_comp hn0 hn hG hr hy0 hy,← e];simp only [cj_inj hn0 hn hG (cj_lt hn hG hr hy) hr hy0]
def zC (M:Nat→Nat→Nat) (n c:Nat):Nat:=fx M n (rC M n c) (rC M n c)
theorem fx_cls (hn0:0<n)(hn:n≤6)(hG:TabP n M){c r y:Nat}(hc:c<nC M n)(hr:r<n)(hy:y<n)(h:inC M n (rC M n c) r=true):fx M n r y=chC M n c y*zC M n c:=by
  have hrc:=rC_lt hc;rw [chC_iff hy]
  by_cases q:inC M n (rC M n c) y=true
  · rw [if_pos q,Nat.one_mul]
    have h1:inC M n r y=true:=inC_trans hn0 hn hG hr (inC_symm hn0 hn hG hrc h) q
    show _=fx M n (rC M n c) (rC M n c)
    rw [fx_in hn0 hn hG hr h1,← fx_in hn0 hn hG hrc q,fx_in2 hn0 hn hG hrc q]
  · rw [if_neg q,Nat.zero_mul]
    exact fx_out fun t=>q (inC_trans hn0 hn hG hrc h t)
theorem size_z (hn0:0<n)(hn:n≤6)(hG:TabP n M){c:Nat}(hc:c<nC M n):sC M n c*zC M n c=n:=by
  have hrc:=rC_lt hc;have h:=fx_all hn0 hn hG hrc;rw [sumTo_congr' (fun x hx=>fx_cls hn0 hn hG hc hrc hx (inC_refl hn0 hG hrc)),sumTo_mulr,← sC_sum] at h;exact h
theorem com_fx (hn0:0<n)(hn:n≤6)(hG:TabP n M){x:Nat}(hx:x<n):com M n x=sumTo (fun a=>fx M n (iv M n a) (M (iv M n a) x)) n:=by
  show sumTo (fun a=>sumTo (fun b=>if comI M n a b=x then 1 else 0) n) n+0=_
  rw [Nat.add_zero];refine sumTo_congr' fun a ha=>?_
  unfold fx
  refine sumTo_congr' fun b hb=>?_;have hia:=iv_lt hG ha;have hib:=iv_lt hG hb;have e:comI M n a b=M a (cj M n (iv M n a) b):=by
    show M (M a b) (M (iv M n a) (iv M n b))=M a (M (M b (iv M n a)) (iv M n b))
    rw [g_as hn0 hn hG hb hia hib,g_as hn0 hn hG ha hb (hG.c hn hia hib)]
  have h:=g_solve hn0 hn hG ha (cj_lt hn hG hia hb) hx;rw [e]
  by_cases q:M a (cj M n (iv M n a) b)=x
  · rw [if_pos q,if_pos (h.1 q)]
  · rw [if_neg q,if_neg fun t=>q (h.2 t)]
theorem com_cv (hn0:0<n)(hn:n≤6)(hG:TabP n M){x:Nat}(hx:x<n):com M n x=sumTo (fun c=>zC M n c*cv M n (fun a=>chC M n c (iv M n a)) (chC M n c) x) (nC M n):=by
  rw [com_fx hn0 hn hG hx];have e:∀ a,a<n→fx M n (iv M n a) (M (iv M n a) x)=sumTo (fun c=>zC M n c*(chC M n c (iv M n a)*chC M n c (M (iv M n a) x))) (nC M n):=fun a ha=>by
    have hia:=iv_lt hG ha;have hy:=hG.c hn hia hx;have e2:∀ c,c<nC M n→zC M n c*(chC M n c (iv M n a)*chC M n c (M (iv M n a) x))=chC M n c (iv M n a)*fx M n (iv M n a) (M (iv M n a) x):=fun c hc=>by
      by_cases q:inC M n (rC M n c) (iv M n a)=true
      · rw [fx_cls hn0 hn hG hc hia hy q,Nat.mul_comm (zC M n c),Nat.mul_assoc]
      · rw [chC_iff hia,if_neg q,Nat.zero_mul,Nat.zero_mul,Nat.mul_zero]
    rw [sumTo_congr' e2,sumTo_mulr,chC_all hn0 hn hG hia,Nat.one_mul]
  rw [sumTo_congr' e,sumTo_swap];refine sumTo_congr' fun c hc=>?_;rw [sumTo_mull,cv_one hn0 hn hG hx]
theorem chi_CF (hn0:0<n)(hn:n≤6)(hG:TabP n M){c:Nat}(hc:c<nC M n):CF M n (fun a=>chC M n c (iv M n a)):=fun x y hx hy=>by
  show chC M n c (iv M n (cj M n x y))=chC M n c (iv M n x)
  rw [iv_cj hn0 hn hG hx hy]
  exact chC_CF hn0 hn hG hc _ _ (iv_lt hG hx) hy
theorem com_CF (hn0:0<n)(hn:n≤6)(hG:TabP n M):CF M n (com M n):=fun x y hx hy=>by
  rw [com_cv hn0 hn hG hx,com_cv hn0 hn hG (cj_lt hn hG hx hy)]
  exact sumTo_congr' fun c hc=>by rw [cv_CF hn0 hn hG (chi_CF hn0 hn hG hc) (chC_CF hn0 hn hG hc) x y hx hy]
theorem com_rC (hn0:0<n)(hn:n≤6)(hG:TabP n M){k:Nat}(hk:k<nC M n):com M n (rC M n k)=sumTo (fun a=>sumTo (fun b=>if ivC M n a b then zC M n b*cA M n a b k else 0) (nC M n)) (nC M n):=by
  rw [com_cv hn0 hn hG (rC_lt hk),sumTo_swap];have hMo:=cls_mono (p:=2) hn0 hn hG;refine sumTo_congr' fun b hb=>?_;have hrb:=rC_lt hb;obtain ⟨c,hc,hbc⟩:=hMo.ex b hb;have hcb:=hMo.symm b hb c hc hbc;have hrc:=rC_lt hc;have e1:∀ x,x<n→chC M n b (iv M n x)=chC M n c x:=fun x hx=>by
    have hix:=iv_lt hG hx;rw [chC_iff hx,chC_iff hix]
    by_cases q:inC M n (rC M n c) x=true
    · rw [if_pos q,if_pos (inC_trans hn0 hn hG hrb hcb (in_iv hn0 hn hG hrc q))]
    · rw [if_neg q,if_neg fun t=>q ?_]
      have h2:=in_iv hn0 hn hG hrb t;rw [iv_iv hn0 hn hG hx] at h2;exact inC_trans hn0 hn hG hrc hbc h2
  rw [cv_congr (f':=chC M n c) (g':=chC M n b) e1 (fun _ _=>rfl),← cA_cv hn0 hn hG hk];have e2:∀ a,a<nC M n→(if ivC M n a b then zC M n b*cA M n a b k else 0)=(if a=c then 1 else 0)*(fun a=>zC M n b*cA M n a b k) a:=fun a ha=>by
    by_cases q:a=c
    · subst q;rw [if_pos hcb,if_pos rfl,Nat.one_mul]
    · rw [if_neg q,Nat.zero_mul,if_neg fun t=>q (hMo.one b hb a ha c hc (hMo.symm a ha b hb t) hbc)]
  rw [sumTo_congr' e2];exact (sumTo_pick (F:=fun a=>zC M n b*cA M n a b k) hc).symm
theorem mod_of_dvd {a b p:Nat}(h:(p:Int)∣(a:Int) - (b:Int)):a%p=b%p:=by
  have h1:(a:Int)%(p:Int)=(b:Int)%(p:Int):=Int.emod_eq_emod_iff_emod_sub_eq_zero.2 (Int.emod_eq_zero_of_dvd h);rw [← Int.natCast_emod,← Int.natCast_emod] at h1;exact Int.ofNat.inj h1
theorem cop_cls (hn0:0<n)(hn:n≤6)(hG:TabP n M)(hp:primeN p){G:Nat→Nat→Nat}(hs:∀ i,i<nC M n→sC M n i%p≠0)(hC:IsCop p (nC M n) (formM p (nC M n) (tK p n M) uK) G){a b:Nat}(ha:a<nC M n)(hb:b<nC M n) :
    (n*G a b)%p=(if ivC M n a b then zC M n b else 0)%p:=by
  have hMo:=cls_mono (p:=p) hn0 hn hG;have hp2:=hp.two;obtain ⟨i,hi,hai⟩:=hMo.ex a ha;have hia:=hMo.symm a ha i hi hai;have h1:=hC.sol i hi b hb;rw [sI_only (c0:=a) ha fun d hd hne=>by rw [hMo.inn i hi d hd,if_neg fun t=>hne (hMo.one i hi d hd a ha t hia)];simp] at h1;rw [hMo.inn i hi a ha,if_pos hia] at h1
  by_cases q:ivC M n a b
  · have e:i=b:=hMo.one a ha i hi b hb hai q
    subst e;rw [if_pos q];refine mod_of_dvd ?_;have hd:(dl i i:Int)=1:=by unfold dl;rw [if_pos rfl];rfl
    rw [hd] at h1;have h2:(p:Int)∣(sC M n i:Int) - ((sC M n i%p:Nat):Int):=by
      rw [Int.natCast_emod];exact Int.dvd_self_sub_emod
    have h3:(p:Int)∣(sC M n i:Int)*(G a i:Int) - 1:=by
      have h4:=Int.dvd_add (Int.dvd_trans h2 ⟨(G a i:Int),rfl⟩) h1;rw [Int.sub_mul] at h4
      rwa [show (sC M n i:Int)*(G a i:Int) - ((sC M n i%p:Nat):Int)*(G a i:Int)+(((sC M n i%p:Nat):Int)*(G a i:Int) - 1)=(sC M n i:Int)*(G a i:Int) - 1 by omega] at h4
    have hz:=size_z hn0 hn hG hi;have e:((n*G a i:Nat):Int) - (zC M n i:Int)=((sC M n i:Int)*(G a i:Int) - 1)*(zC M n i:Int):=by
      rw [Int.sub_mul,Int.one_mul]
      congr 1
      have hz2:(n:Int)=(sC M n i:Int)*(zC M n i:Int):=by rw [← Int.natCast_mul,hz]
      rw [Int.natCast_mul,hz2,Int.mul_right_comm]
    rw [e];exact Int.dvd_trans h3 ⟨_,rfl⟩
  · rw [if_neg q]
    have hib:i≠b:=fun t=>q (t ▸ hai);have hd:(dl i b:Int)=0:=by unfold dl;rw [if_neg hib];rfl
    rw [hd,Int.sub_zero,Int.mul_comm] at h1;have h2:=dvd_prime hp (Nat.mod_lt _ (by omega)) (hs i hi) h1;refine mod_of_dvd ?_;rw [Int.natCast_mul]
    show (p:Int)∣(n:Int)*(G a b:Int) - 0
    rw [Int.sub_zero];exact Int.dvd_mul_of_dvd_right h2
theorem hdl_cls (hn0:0<n)(hn:n≤6)(hG:TabP n M)(hp:primeN p){G:Nat→Nat→Nat}(hs:∀ i,i<nC M n→sC M n i%p≠0)(hC:IsCop p (nC M n) (formM p (nC M n) (tK p n M) uK) G){k:Nat}(hk:k<nC M n) :
    (n*hdl p (nC M n) (tK p n M) G (nC M n) 0 k)%p=com M n (rC M n k)%p:=by
  rw [com_rC hn0 hn hG hk]
  unfold hdl
  rw [show sumTo (fun b=>G (nC M n) b*tK p n M (nC M n) b k) 0=0 from rfl,Nat.add_zero,Nat.mul_mod_mod,← sumTo_mull];refine sumTo_modc fun a ha=>?_;rw [← sumTo_mull];refine sumTo_modc fun b hb=>?_;rw [tK_in ha hb hk,← Nat.mul_assoc,Nat.mul_mod_mod,Nat.mul_mod,cop_cls hn0 hn hG hp hs hC ha hb,← Nat.mul_mod]
  by_cases q:ivC M n a b
  · rw [if_pos q,if_pos q]
  · rw [if_neg q,if_neg q,Nat.zero_mul]
theorem cls_powT (hn0:0<n)(hn:n≤6)(hG:TabP n M)(hp2:2≤p){e v:Nat→Nat}{t:Nat}(he:CF M n e)(hv:∀ c,c<nC M n→(t*v c)%p=e (rC M n c)%p) :
    ∀ k c,c<nC M n→(t ^ k*powW (timesV p (nC M n) (tK p n M)) uK v k c)%p=wy M n e k (rC M n c)%p
  | 0, c, hc => by
    show (1*uK c)%p=(if rC M n c=0 then 1 else 0)%p
    have h:(if rC M n c=0 then 1 else 0:Nat)=uK c:=by
      unfold uK
      by_cases q:c=0
      · subst q;rw [if_pos rfl,if_pos (rC_0 hn0 hn hG)]
      · rw [if_neg q,if_neg fun r=>q (cls_one hn0 hn hG hc (nC_p0 hn0 hn hG) hn0 (by rw [r];exact inC_refl hn0 hG hn0) (by rw [rC_0 hn0 hn hG];exact inC_refl hn0 hG hn0))]
    rw [h,Nat.one_mul]
  | k + 1, c, hc => by
    rw [wy_cls hn0 hn hG he hc]
    show (t ^ (k+1)*(sumTo (fun i=>sumTo (fun j=>powW (timesV p (nC M n) (tK p n M)) uK v k i*v j*tK p n M i j c) (nC M n)) (nC M n)%p))%p=_
    rw [Nat.mul_mod_mod,← sumTo_mull];refine sumTo_modc fun i hi=>?_;rw [← sumTo_mull];refine sumTo_modc fun j hj=>?_;have h1:=cls_powT hn0 hn hG hp2 he hv k i hi;have h2:=hv j hj;have h3:(t ^ k*powW (timesV p (nC M n) (tK p n M)) uK v k i*(t*v j))%p=(wy M n e k (rC M n i)*e (rC M n j))%p:=by rw [Nat.mul_mod,h1,h2,← Nat.mul_mod]
    rw [tK_in hi hj hc,← Nat.mul_assoc,Nat.mul_mod_mod,Nat.pow_succ,
      show t ^ k*t*(powW (timesV p (nC M n) (tK p n M)) uK v k i*v j)=(t ^ k*powW (timesV p (nC M n) (tK p n M)) uK v k i)*(t*v j) by simp only [Nat.mul_assoc,Nat.mul_left_comm],
      Nat.mul_mod,h3,← Nat.mul_mod]
theorem cls_small (hn0:0<n)(hn:n≤6)(hG:TabP n M)(hp5:p=5∨p=7):∀ i,i<nC M n→sC M n i%p≠0:=fun i hi=>by
  have hz:=size_z hn0 hn hG hi
  have h6:=sC_le (M:=M) hn i
  have h1:0<sC M n i:=by
    rcases Nat.eq_zero_or_pos (sC M n i) with h | h
    · rw [h,Nat.zero_mul] at hz;omega
    · exact h
  by_cases h0:i=0
  · subst h0
    have e:sC M n 0=1:=by
      rw [sC_sum,sumTo_congr' (g:=fun x=>(if x=0 then 1 else 0)*(fun _=>1) x) (fun x hx=>by rw [ch_0 hn0 hn hG hx];unfold d0;exact (Nat.mul_one _).symm)];exact sumTo_pick (F:=fun _=>1) hn0
    rw [e];rcases hp5 with rfl | rfl<;>decide
  · have hs:=sC_all hn0 hn hG
    have h2:sC M n 0+sC M n i≤sumTo (sC M n) (nC M n):=by
      have a1:=sumTo_up (f:=sC M n) (m:=i+1) (n:=nC M n) (by omega);have a2:=sumTo_up (f:=sC M n) (m:=1) (n:=i) (by omega);have a3:sumTo (sC M n) (i+1)=sumTo (sC M n) i+sC M n i:=rfl;have a4:sumTo (sC M n) 1=0+sC M n 0:=rfl
      omega
    have hz0:=size_z hn0 hn hG (nC_p0 hn0 hn hG);have h3:0<sC M n 0:=by
      rcases Nat.eq_zero_or_pos (sC M n 0) with h | h
      · rw [h,Nat.zero_mul] at hz0;omega
      · exact h
    have h5:sC M n i≤5:=by omega
    by_cases q:sC M n i=5
    · rw [q] at hz h2;omega
    · rcases hp5 with rfl | rfl<;>omega
end
end Go.Proofs.Ytklpefdaplchbaa
namespace Go.Proofs.Ytklpefdaplchbaa
open Go Go.RowKit Go.Sw Go.Ech
open Classical
theorem DrawCountSurface_ok (m:Nat)(sl:Value)(w:World)(hc:CodeB w [] sl m) :
    CallsR Try.prog 5 #[sl] w (fun u _=>∃ (q:Int) (M:Nat→Nat→Nat) (h:Int),u = .tuple #[.agg (grpC q M),.int .i64 h]∧∀ i j,M i j≤255):=by
  refine calls_fr [sl] Try.func5 rfl Try.ntmps5 rfl fun a hF=>?_;have hM:Mem w w [none,none] []:=MemX.start w 2;change Fr 11 a [(0,sl)] at hF;refine sr<|stR hF (d_alloc 0 hM ty_ze_27) rfl ?_;rintro _ w' a ⟨b1,rfl,hM,-⟩ hF;change Mem w w' [some (b1,grpC 0 (fun _ _=>0)),none] [] at hM;refine ag hF rfl rfl fun a hF=>ns<|mv hF rfl rfl fun a hF=>stR hF (d_call Try.call13 hF (.cons rfl .nil) (l01From_ok m sl _ (hc.carry hM.bel (fun y hy=>by cases hy)))) rfl ?_;rintro _ w' a ⟨hx,b2,ha3,hh4,rfl,hge,hbk,hlha3,hlhh4⟩ hF;have hM:=hM.fill hx 1 hbk hge;change Mem w w' [some (b1,grpC 0 (fun _ _=>0)),some (b2,srcC sl ha3 hh4)] [] at hM;refine ag hF rfl rfl fun a hF=>ns<|mv hF rfl rfl fun a hF=>stR hF (d_callX Try.call14 hF (.cons rfl .nil) (l06Draw_ok b2 m ha3 hh4 sl _ (hM.row 1 rfl) (hM.code hc (k:=1) rfl) (by omega) (by omega))) rfl ?_;rintro _ w' a ⟨hx,q5,M6,ha7,hh8,rfl,hmM6,hbk,hlha7,hlhh8⟩ hF;have hM:=hM.upd (cs':=srcC sl ha7 hh8) 1 rfl hx hbk;change Mem w w' [some (b1,grpC 0 (fun _ _=>0)),some (b2,srcC sl ha7 hh8)] [] at hM;refine mv hF rfl rfl fun a hF=>stR hF (d_callX Try.call15 hF (.cons rfl (.cons rfl .nil)) (l01Next_nat b2 m ha7 hh8 sl (10) (by omega) _ (hM.row 1 rfl) (hM.code hc (k:=1) rfl) (by omega) (by omega))) rfl ?_;rintro _ w' a ⟨hx,x9,ha10,hh11,rfl,hdx9,hbk,hlha10,hlhh11⟩ hF;have hM:=hM.upd (cs':=srcC sl ha10 hh11) 1 rfl hx hbk;change Mem w w' [some (b1,grpC 0 (fun _ _=>0)),some (b2,srcC sl ha10 hh11)] [] at hM;refine stN hF (d_storeAgg 0 hM rfl ty_sz_27 hF rfl rfl (grpC_one) (by simp only [sz0,tenC_size,smC_size,numC_size,numI_size,mrk_size,grpC_size,rowW_size,bolC_size,mri_size,srcC_size,recC_size,recZ_size]) (by simp only [sz0,tenC_size,smC_size,numC_size,numI_size,mrk_size,grpC_size,rowW_size,bolC_size,mri_size,srcC_size,recC_size,recZ_size]<;>omega) (splice_whole _ _ (by simp only [sz0,tenC_size,smC_size,numC_size,numI_size,mrk_size,grpC_size,rowW_size,bolC_size,mri_size,srcC_size,recC_size,recZ_size]))) ?_;intro _ w' a hM hF;change Mem w w' [some (b1,grpC q5 M6),some (b2,srcC sl ha10 hh11)] [] at hM;refine ag hF rfl rfl fun a hF=>nt<|wp_ret<|fin2 rfl hF.defers (res_agg ty_ag_27 hF rfl (hM.row 0 rfl) (by simp only [sz0,tenC_size,smC_size,numC_size,numI_size,mrk_size,grpC_size,rowW_size,bolC_size,mri_size,srcC_size,recC_size,recZ_size])) (res_tmp hF rfl) ⟨_,rfl,hM.below,?_⟩;exact ⟨_,_,_,rfl,by assumption⟩
theorem DrawCountHom_ok (m:Nat)(sl:Value)(w:World)(hc:CodeB w [] sl m) :
    CallsR Try.prog 8 #[sl] w (fun u _=>∃ (q:Int) (M:Nat→Nat→Nat) (q':Int) (M':Nat→Nat→Nat),u = .tuple #[.agg (grpC q M),.agg (grpC q' M')]∧(∀ i j,M i j≤255)∧(∀ i j,M' i j≤255)):=by
  refine calls_fr [sl] Try.func8 rfl Try.ntmps8 rfl fun a hF=>?_;have hM:Mem w w [none,none,none] []:=MemX.start w 3;change Fr 11 a [(0,sl)] at hF;refine sr<|stR hF (d_alloc 0 hM ty_ze_27) rfl ?_;rintro _ w' a ⟨b1,rfl,hM,-⟩ hF;refine stR hF (d_alloc 1 hM ty_ze_27) rfl ?_;rintro _ w' a ⟨b2,rfl,hM,-⟩ hF;change Mem w w' [some (b1,grpC 0 (fun _ _=>0)),some (b2,grpC 0 (fun _ _=>0)),none] [] at hM;refine ns<|mv hF rfl rfl fun a hF=>stR hF (d_call Try.call13 hF (.cons rfl .nil) (l01From_ok m sl _ (hc.carry hM.bel (fun y hy=>by cases hy)))) rfl ?_;rintro _ w' a ⟨hx,b3,ha4,hh5,rfl,hge,hbk,hlha4,hlhh5⟩ hF;have hM:=hM.fill hx 2 hbk hge;change Mem w w' [some (b1,grpC 0 (fun _ _=>0)),some (b2,grpC 0 (fun _ _=>0)),some (b3,srcC sl ha4 hh5)] [] at hM;refine ag hF rfl rfl fun a hF=>ns<|mv hF rfl rfl fun a hF=>stR hF (d_callX Try.call14 hF (.cons rfl .nil) (l06Draw_ok b3 m ha4 hh5 sl _ (hM.row 2 rfl) (hM.code hc (k:=2) rfl) (by omega) (by omega))) rfl ?_;rintro _ w' a ⟨hx,q6,M7,ha8,hh9,rfl,hmM7,hbk,hlha8,hlhh9⟩ hF;have hM:=hM.upd (cs':=srcC sl ha8 hh9) 2 rfl hx hbk;change Mem w w' [some (b1,grpC 0 (fun _ _=>0)),some (b2,grpC 0 (fun _ _=>0)),some (b3,srcC sl ha8 hh9)] [] at hM;refine mv hF rfl rfl fun a hF=>stR hF (d_callX Try.call14 hF (.cons rfl .nil) (l06Draw_ok b3 m ha8 hh9 sl _ (hM.row 2 rfl) (hM.code hc (k:=2) rfl) (by omega) (by omega))) rfl ?_;rintro _ w' a ⟨hx,q10,M11,ha12,hh13,rfl,hmM11,hbk,hlha12,hlhh13⟩ hF;have hM:=hM.upd (cs':=srcC sl ha12 hh13) 2 rfl hx hbk;change Mem w w' [some (b1,grpC 0 (fun _ _=>0)),some (b2,grpC 0 (fun _ _=>0)),some (b3,srcC sl ha12 hh13)] [] at hM;refine stN hF (d_storeAgg 0 hM rfl ty_sz_27 hF rfl rfl (grpC_one) (by simp only [sz0,tenC_size,smC_size,numC_size,numI_size,mrk_size,grpC_size,rowW_size,bolC_size,mri_size,srcC_size,recC_size,recZ_size]) (by simp only [sz0,tenC_size,smC_size,numC_size,numI_size,mrk_size,grpC_size,rowW_size,bolC_size,mri_size,srcC_size,recC_size,recZ_size]<;>omega) (splice_whole _ _ (by simp only [sz0,tenC_size,smC_size,numC_size,numI_size,mrk_size,grpC_size,rowW_size,bolC_size,mri_size,srcC_size,recC_size,recZ_size]))) ?_;intro _ w' a hM hF;change Mem w w' [some (b1,grpC q6 M7),some (b2,grpC 0 (fun _ _=>0)),some (b3,srcC sl ha12 hh13)] [] at hM;refine stN hF (d_storeAgg 1 hM rfl ty_sz_27 hF rfl rfl (grpC_one) (by simp only [sz0,tenC_size,smC_size,numC_size,numI_size,mrk_size,grpC_size,rowW_size,bolC_size,mri_size,srcC_size,recC_size,recZ_size]) (by simp only [sz0,tenC_size,smC_size,numC_size,numI_size,mrk_size,grpC_size,rowW_size,bolC_size,mri_size,srcC_size,recC_size,recZ_size]<;>omega) (splice_whole _ _ (by simp only [sz0,tenC_size,smC_size,numC_size,numI_size,mrk_size,grpC_size,rowW_size,bolC_size,mri_size,srcC_size,recC_size,recZ_size]))) ?_;intro _ w' a hM hF;change Mem w w' [some (b1,grpC q6 M7),some (b2,grpC q10 M11),some (b3,srcC sl ha12 hh13)] [] at hM;refine nt<|wp_ret<|fin2 rfl hF.defers (res_agg ty_ag_27 hF rfl (hM.row 0 rfl) (by simp only [sz0,tenC_size,smC_size,numC_size,numI_size,mrk_size,grpC_size,rowW_size,bolC_size,mri_size,srcC_size,recC_size,recZ_size])) (res_agg ty_ag_27 hF rfl (hM.row 1 rfl) (by simp only [sz0,tenC_size,smC_size,numC_size,numI_size,mrk_size,grpC_size,rowW_size,bolC_size,mri_size,srcC_size,recC_size,recZ_size])) ⟨_,rfl,hM.below,?_⟩;exact ⟨_,_,_,_,rfl,by assumption,by assumption⟩
end Go.Proofs.Ytklpefdaplchbaa
namespace Go.Proofs.Ytklpefdaplchbaa
open Go Go.RowKit Go.Sw Go.Ech
open Classical
theorem cnt_one {S:Nat→Bool}(h:∀ x,S x=true→x=0):∀ k,cnt S k≤1
  | 0=>Nat.zero_le _
  | 1=>cnt_le 1
  | k + 2 => by
    show cnt S (k+1)+(if S (k+1)=true then 1 else 0)≤1
    have h1:=cnt_one h (k+1)
    rw [if_neg fun q=>absurd (h _ q) (by omega)]
    omega
theorem hm_pos {n m:Nat}{M M2:Nat→Nat→Nat}(hm0:0<m)(hG2:TabP m M2):1≤hmF n m M M2 (m ^ n):=by
  have h0:homB n M M2 (Rw.digF m n 0)=true:=homB_iff.2 fun i _ j _=>by
    have e:∀ i,Rw.digF m n 0 i=0:=fun i=>by unfold Rw.digF;rw [Nat.zero_div,Nat.zero_mod]
    rw [e,e,e];exact ((hG2.2.1 0 hm0).1).symm
  have h:=cnt_lt (S:=fun x=>homB n M M2 (Rw.digF m n x)) (i:=0) (j:=m ^ n) h0 (Nat.pow_pos hm0)
  unfold hmF
  omega
theorem hm_single {m:Nat}{M M2:Nat→Nat→Nat}(hm0:0<m)(hm:m≤6)(hG:TabP 1 M)(hG2:TabP m M2):hmF 1 m M M2 (m ^ 1)=1:=by
  refine Nat.le_antisymm ?_ (hm_pos hm0 hG2)
  unfold hmF
  rw [cnt_congr (T:=fun x=>decide (x<m) && homB 1 M M2 (Rw.digF m 1 x)) (fun x hx=>by
    have:x<m:=by rwa [Nat.pow_one] at hx
    simp [this])]
  refine cnt_one (fun x hx=>?_) _;rw [Bool.and_eq_true,decide_eq_true_iff] at hx;have h1:=homB_iff.1 hx.2;have e:Rw.digF m 1 x 0=x:=by unfold Rw.digF;simp [Nat.mod_eq_of_lt hx.1]
  have:=hom_zero (by decide) hG hG2 (by rw [e];exact hx.1) h1;rw [e] at this;exact this
theorem mod_int {a p:Nat}:(a:Int).tmod (p:Int)=((a%p:Nat):Int):=by
  rw [Int.tmod_eq_emod_of_nonneg (by omega),Int.natCast_emod]
def nlZ (p x:Nat) (q:Int):Nat→Int
  | 0=>(x:Int)
  | k+1=>(nlZ p x q k*q).tmod (p:Int)
theorem nlZ_eq {p x n:Nat}(hx:x<p):∀ k,nlZ p x (n:Int) k=((n ^ k*x%p:Nat):Int)
  | 0 => by
    show (x:Int)=_
    rw [Nat.pow_zero,Nat.one_mul,Nat.mod_eq_of_lt hx]
  | k + 1 => by
    show (nlZ p x _ k*_).tmod _=_
    rw [nlZ_eq hx k,← Int.natCast_mul,mod_int,Nat.mod_mul_mod,Nat.pow_succ,Nat.mul_right_comm]
theorem nlZ_b {p x:Nat}{q:Int}(hx:x<p)(hp:p<100)(hq:1≤q)(hq6:q≤6)(k:Nat):0≤nlZ p x q k*q∧nlZ p x q k*q≤600:=by
  have e:(q.toNat:Int)=q:=by omega
  have h:=nlZ_eq (n:=q.toNat) hx k;rw [e] at h;have h2:=Nat.mod_lt (q.toNat ^ k*x) (show 0<p by omega);rw [h]
  generalize q.toNat ^ k*x%p=y at h2
  have e6:q=1∨q=2∨q=3∨q=4∨q=5∨q=6:=by omega
  rcases e6 with rfl | rfl | rfl | rfl | rfl | rfl<;>omega
theorem nlZ_p {p x:Nat}{q:Int}(hx:x<p)(hq:1≤q)(k:Nat):0≤nlZ p x q k∧nlZ p x q k<p:=by
  have e:(q.toNat:Int)=q:=by omega
  have h:=nlZ_eq (n:=q.toNat) hx k;rw [e] at h;have h2:=Nat.mod_lt (q.toNat ^ k*x) (show 0<p by omega);rw [h];omega
def TurnP (p:Nat) (q h c:Int) (M:Nat→Nat→Nat):Prop:=∃ (a b:Int) (T:Nat→Nat→Nat→Nat) (f:Nat→Nat) (x:Nat),(∀ w,CallsR Try.prog 11 #[.int .i64 (p:Int),.agg (grpC q M)] w (fun u _=>u = .tuple #[.agg (algC a b T f),.int .i64 0]))∧(∀ w,CallsR Try.prog 12 #[.agg (algC a b T f),.int .i64 h] w (fun u _=>u = .tuple #[.int .i64 (x:Int),.int .i64 0]))∧x<p∧c.tmod (p:Int)=nlZ p x q h.toNat
def OkS (q h c e:Int) (M:Nat→Nat→Nat):Prop:=e=0→0≤c∧0≤h∧h≤8∧1≤q∧q≤6∧TurnP 5 q h c M∧TurnP 7 q h c M
def NoS (c e:Int):Prop:=e≠0→c=0
theorem turn (p n k:Nat)(M:Nat→Nat→Nat)(hB:∀ i j,M i j≤255)(h0:0<n)(h6:n≤6)(hG:TabP n M)(hp5:p=5∨p=7)(hk:k≤8):TurnP p (n:Int) (k:Int) ((wy M n (com M n) k 0:Nat):Int) M:=by
  have hP:primeP (p:Int):=by rcases hp5 with rfl | rfl<;>(unfold primeP;omega)
  have hp:primeN p:=by rcases hp5 with rfl | rfl<;>(unfold primeN;omega)
  have hp2:=hp.two;have hs:=cls_small h0 h6 hG hp5;have hfr:=(cls_frob h0 h6 hG hp).2 hs;have hcom:comP (tK p n M):=tK_com h0 h6 hG;obtain ⟨G,hC⟩:=cop_exists (F:=formM p (nC M n) (tK p n M) uK) hp (nC_p0 h0 h6 hG) (nC_le h6) (fun i c h=>formM_out h) (formM_lt (by omega)) hfr;have hm:=nC_p0 h0 h6 hG;have hu:∀ i,uK i≤255:=fun i=>by unfold uK;split<;>omega
  refine ⟨(p:Int),(nC M n:Int),tK p n M,uK,powW (timesV p (nC M n) (tK p n M)) uK (hdl p (nC M n) (tK p n M) G (nC M n) 0) k 0%p,fun w=>?_,fun w=>?_,Nat.mod_lt _ (by omega),?_⟩
  · have:=ClassAlgebraIV p n M w h0 h6 hB hG hP
    rw [tC_K] at this;exact this
  · have:=GenusNumberI_Y p (nC M n) (tK p n M) uK k w hp hm (nC_le h6) (fun i j l=>tK_lt (by omega) i j l) tK_out hu (by omega) hfr hcom G hC uK (cls_unit h0 h6 hG hP) ⟨cls_alg h0 h6 hG hP,fun i hi=>absurd hi (by omega)⟩
    have e:sumTo (fun i=>(foldW (timesV p (nC M n) (tK p n M)) (powW (timesV p (nC M n) (tK p n M)) uK (hdl p (nC M n) (tK p n M) G (nC M n) 0) k) (vAtL []) 0) i*uK i) 6=powW (timesV p (nC M n) (tK p n M)) uK (hdl p (nC M n) (tK p n M) G (nC M n) 0) k 0:=by
      refine Eq.trans (sumTo_congr' (g:=fun i=>(if i=0 then 1 else 0)*(fun i=>powW (timesV p (nC M n) (tK p n M)) uK (hdl p (nC M n) (tK p n M) G (nC M n) 0) k i) i) (fun i _=>Nat.mul_comm _ _)) ?_;exact sumTo_pick (F:=fun i=>powW (timesV p (nC M n) (tK p n M)) uK (hdl p (nC M n) (tK p n M) G (nC M n) 0) k i) (by omega)
    rw [e] at this;exact this
  · rw [mod_int,Int.toNat_natCast,nlZ_eq (Nat.mod_lt _ (by omega)),Nat.mul_mod_mod]
    have h:=cls_powT h0 h6 hG hp2 (com_CF h0 h6 hG) (fun c hc=>hdl_cls h0 h6 hG hp hs hC hc) k 0 hm;rw [rC_0 h0 h6 hG] at h;rw [h]
theorem cs_both (q h:Int)(M:Nat→Nat→Nat)(hB:∀ i j,M i j≤255):∃ c e:Int,(∀ w,CallsR Try.prog 6 #[.agg (grpC q M),.int .i64 h] w (fun u _=>u = .tuple #[.int .i64 c,.int .i64 e]))∧(∀ w,CallsR Try.prog 7 #[.agg (grpC q M),.int .i64 h] w (fun u _=>u = .tuple #[.int .i64 c,.int .i64 e]))∧NoS c e∧OkS q h c e M:=by
  by_cases hc:GrpP q M
  · have h0:0<q.toNat:=by have:=hc.1;omega
    have h6:q.toNat≤6:=by have:=hc.2.1;omega
    have eq_:(q.toNat:Int)=q:=by have:=hc.1;omega
    have hG:=hc.2.2
    by_cases hr:0≤h∧h≤8
    · have eh:(h.toNat:Int)=h:=by omega
      have h8:h.toNat≤8:=by omega
      by_cases hL:1000000000000<wy M q.toNat (com M q.toNat) h.toNat 0
      · refine ⟨0,3,fun w=>?_,fun w=>?_,fun _=>rfl,fun e=>absurd e (by decide)⟩
        · have:=CountSurfaceIL q.toNat M h.toNat w h0 h6 hB hG h8 hL
          rwa [eq_,eh] at this
        · have:=CountSurfaceSL q.toNat M h.toNat w h0 h6 hB hG h8 hL
          rwa [eq_,eh] at this
      · refine ⟨((wy M q.toNat (com M q.toNat) h.toNat 0:Nat):Int),0,fun w=>?_,fun w=>?_,fun e=>absurd rfl e,fun _=>⟨by omega,by omega,by omega,hc.1,hc.2.1,?_,?_⟩⟩
        · have:=CountSurfaceIV q.toNat M h.toNat w h0 h6 hB hG h8 hL
          rwa [eq_,eh] at this
        · have:=CountSurfaceSV q.toNat M h.toNat w h0 h6 hB hG h8 hL
          rwa [eq_,eh] at this
        · have:=turn 5 q.toNat h.toNat M hB h0 h6 hG (.inl rfl) h8
          rwa [eq_,eh] at this
        · have:=turn 7 q.toNat h.toNat M hB h0 h6 hG (.inr rfl) h8
          rwa [eq_,eh] at this
    · refine ⟨0,2,fun w=>?_,fun w=>?_,fun _=>rfl,fun e=>absurd e (by decide)⟩
      · have:=CountSurfaceIR q.toNat M h w h0 h6 hB hG (by omega)
        rwa [eq_] at this
      · have:=CountSurfaceSR q.toNat M h w h0 h6 hB hG (by omega)
        rwa [eq_] at this
  · exact ⟨0,1,fun w=>CountSurfaceIA q M h w hB hc,fun w=>CountSurfaceSA q M h w hB hc,fun _=>rfl,fun e=>absurd e (by decide)⟩
def OkH (q c e:Int):Prop:=e=0→1≤c∧(q=1→c=1)
theorem ch_both (q q':Int)(M M':Nat→Nat→Nat)(hB:∀ i j,M i j≤255)(hB':∀ i j,M' i j≤255):∃ c e:Int,(∀ w,CallsR Try.prog 9 #[.agg (grpC q M),.agg (grpC q' M')] w (fun u _=>u = .tuple #[.int .i64 c,.int .i64 e]))∧(∀ w,CallsR Try.prog 10 #[.agg (grpC q M),.agg (grpC q' M')] w (fun u _=>u = .tuple #[.int .i64 c,.int .i64 e]))∧OkH q c e:=by
  by_cases hc:GrpP q M∧GrpP q' M'
  · have h0:0<q.toNat:=by have:=hc.1.1;omega
    have h6:q.toNat≤6:=by have:=hc.1.2.1;omega
    have eq_:(q.toNat:Int)=q:=by have:=hc.1.1;omega
    have g0:0<q'.toNat:=by have:=hc.2.1;omega
    have g6:q'.toNat≤6:=by have:=hc.2.2.1;omega
    have eq2:(q'.toNat:Int)=q':=by have:=hc.2.1;omega
    refine ⟨(hmF q.toNat q'.toNat M M' (q'.toNat ^ q.toNat):Int),0,fun w=>?_,fun w=>?_,fun _=>⟨?_,fun e=>?_⟩⟩
    · have:=CountHomIG q.toNat q'.toNat M M' w h0 h6 g0 g6 hB hB' hc.1.2.2 hc.2.2.2
      rwa [eq_,eq2] at this
    · have:=CountHomSG q.toNat q'.toNat M M' w h0 h6 g0 g6 hB hB' hc.1.2.2 hc.2.2.2
      rwa [eq_,eq2] at this
    · have:=hm_pos (n:=q.toNat) (M:=M) g0 hc.2.2.2
      omega
    · subst e
      have:=hm_single (M:=M) g0 g6 hc.1.2.2 hc.2.2.2
      show ((hmF 1 q'.toNat M M' (q'.toNat ^ 1):Nat):Int)=1
      rw [this];rfl
  · exact ⟨0,1,fun w=>CountHomIA q q' M M' w hB hB' hc,fun w=>CountHomSA q q' M M' w hB hB' hc,fun e=>absurd e (by decide)⟩
end Go.Proofs.Ytklpefdaplchbaa
