import Derived.Test.YtccdgjmomcljkaaDoorY16
import Derived.Test.YtccdgjmomcljkaaDoorSw10
set_option linter.unusedVariables false
set_option linter.unusedSimpArgs false
namespace Go.Proofs.YtccdgjmomcljkaaDoor
open Go Go.RowKit Go.Sw Go.Ech
open Classical
theorem prodI_Pr {n c:Nat}{T:Nat→Nat→Nat→Nat}{v u:Nat→Nat}:(prodI T v u n n c:Int)=Pr n T (ci v) (ci u) c:=by
  unfold prodI Pr
  rw [sumTo_sI];refine sI_congr fun a _=>?_;rw [sumTo_sI];exact sI_congr fun b _=>by simp [ci,Int.natCast_mul]
theorem mod_dvd {p a:Nat}:(p:Int)∣((a%p:Nat):Int) - (a:Int):=by
  have:=emod_dvd (p:Int) (a:Int)
  rwa [← Int.natCast_emod] at this
theorem timesV_dvd {p n c:Nat}{T:Nat→Nat→Nat→Nat}{v u:Nat→Nat}:(p:Int)∣(timesV p n T v u c:Int) - Pr n T (ci v) (ci u) c:=by
  rw [← prodI_Pr];exact mod_dvd
theorem AssI_of {p n:Nat}{T:Nat→Nat→Nat→Nat}(hn:n≤6)(h:asS p n T):AssI p n T:=by
  intro i hi j hj k hk d hd;have h1:=h i hi j hj k hk d (by omega)
  unfold timesS at h1
  rw [if_pos hd,if_pos hd] at h1;have a1:(p:Int)∣(timesV p n T (T i j) (fun c=>if c=k then 1 else 0) d:Int) - (prodI T (T i j) (fun c=>if c=k then 1 else 0) n n d:Int):=mod_dvd;have a2:(p:Int)∣(timesV p n T (fun c=>if c=i then 1 else 0) (T j k) d:Int) - (prodI T (fun c=>if c=i then 1 else 0) (T j k) n n d:Int):=mod_dvd;rw [prodI_right hk] at a1;rw [prodI_left hi] at a2;rw [h1] at a1;have:=Int.dvd_sub a2 a1
  rwa [show ∀ A B C:Int,A - B - (A - C)=C - B from fun A B C=>by omega] at this
theorem ComI_of {n:Nat}{T:Nat→Nat→Nat→Nat}(hn:n≤6)(h:comP T):ComI n T:=fun i hi j hj k hk=>(comP_iff.2 h) i (by omega) j (by omega) k (by omega)
theorem UnitI.righty {p n:Nat}{T:Nat→Nat→Nat→Nat}{uu:Nat→Nat}(h:UnitI p n T uu):∀ y,EqP p n (Pr n T y (ci uu)) y:=fun y c hc=>Pr_unit_right h y hc
theorem timesV_eq {p n:Nat}{T:Nat→Nat→Nat→Nat}(v u:Nat→Nat):EqP p n (ci (timesV p n T v u)) (Pr n T (ci v) (ci u)):=fun c _=>timesV_dvd
theorem powW_vP {p n:Nat}{T:Nat→Nat→Nat→Nat}{uu v:Nat→Nat}:∀ k,EqP p n (ci (powW (timesV p n T) uu v k)) (vP n T (ci uu) (ci v) k)
  | 0=>EqP.refl _
  | k+1=>(timesV_eq _ _).trans (EqP.mul (powW_vP k) (EqP.refl _))
theorem lin_kk {p n:Nat}{T:Nat→Nat→Nat→Nat}{u:Nat→Int}(ha:AssI p n T)(hk:ComI n T)(hu:∀ y,EqP p n (Pr n T y u) y)(hp:primeN p):∀ e,LinK p n T u (kkE p e)
  | 0=>lin_p ha hk hu hp
  | e+1=>lin_mul ha hk hu hp (lin_kk ha hk hu hp e)
theorem kk_pos {p:Nat}(hp:2≤p):∀ e,0<kkE p e
  | 0=>by show 0<p;omega
  | e+1=>Nat.mul_pos (kk_pos hp e) (by omega)
theorem nil_row {p n:Nat}{T:Nat→Nat→Nat→Nat}{uu:Nat→Nat}{R1:Nat}{W1:Nat→Nat→Nat}(hp:primeN p)(ha:AssI p n T)(hk:ComI n T)(huu:UnitI p n T uu)(hW1:IsKer p n (fun r c=>imP p n T uu (kkE p (nilE p n)) c r) n R1 W1){j:Nat}(hj:j<R1):EqP p n (vP n T (ci uu) (ci (cutR n R1 W1 j)) (kkE p (nilE p n))) (fun _=>0):=by
  have hcut:∀ c,c<n→cutR n R1 W1 j c=W1 j c:=fun c hc=>if_pos ⟨hj,hc⟩;refine nil_ker (M:=(fun r c=>imP p n T uu (kkE p (nilE p n)) c r)) (kk_pos hp.two _) (lin_kk ha hk (UnitI.righty huu) hp _) (fun r hr c hc=>?_) _ (fun c hc=>by rw [hcut c hc];exact isKer_small hW1 j hj c hc) (fun i hi=>?_)
  · have h:=powW_vP (p:=p) (n:=n) (T:=T) (uu:=uu) (v:=fun q=>if q=c then 1 else 0) (kkE p (nilE p n)) r hr
    have e:ci (fun q=>if q=c then 1 else 0)=eb c:=funext fun d=>by show (((if d=c then 1 else 0:Nat):Nat):Int)=if d=c then 1 else 0;split<;>rfl
    rw [e] at h;exact h
  · have h:=ker_row hp.two hW1 hj i hi
    have e:dot n (ci ((fun r c=>imP p n T uu (kkE p (nilE p n)) c r) i)) (ci (cutR n R1 W1 j))=dot n (ci ((fun r c=>imP p n T uu (kkE p (nilE p n)) c r) i)) (ci (W1 j)):=sI_congr fun c hc=>by unfold ci;rw [hcut c hc]
    rw [e];exact h
def PowQ (p n:Nat) (T:Nat→Nat→Nat→Nat) (R:Nat→Nat) (Z:Nat→Nat→Nat→Nat) (t:Nat):Prop:=
  (∀ k,RedOf p n (apV p n T (cutR n (R k) (Z k)) (cutR n (R 0) (Z 0)) (R 0)) (R k*R 0) (R (k+1)) (Z (k+1)))∧(∀ k,R k≤6)∧t≤151∧R t=0∧∀ k,k<t→0<R k
theorem pow_seq {p n:Nat}{T:Nat→Nat→Nat→Nat}{uu:Nat→Nat}{R1:Nat}{W1:Nat→Nat→Nat}(hp:primeN p)(hn:n≤6)(ha:AssI p n T)(hk:ComI n T)(huu:UnitI p n T uu)(hW1:IsKer p n (fun r c=>imP p n T uu (kkE p (nilE p n)) c r) n R1 W1):∃ R Z t,R 0=R1∧Z 0=W1∧PowQ p n T R Z t:=by
  have step:∀ s:Nat×(Nat→Nat→Nat),∃ s':Nat×(Nat→Nat→Nat),RedOf p n (apV p n T (cutR n s.1 s.2) (cutR n R1 W1) R1) (s.1*R1) s'.1 s'.2:=fun s=>by
    obtain ⟨r,V,h⟩:=redOf_exists (p:=p) (n:=n) (m:=s.1*R1) (M:=apV p n T (cutR n s.1 s.2) (cutR n R1 W1) R1) hp (apV_lt (by have:=hp.two;omega));exact ⟨(r,V),h⟩
  let f:Nat×(Nat→Nat→Nat)→Nat×(Nat→Nat→Nat):=fun s=>Classical.choose (step s)
  have hf:∀ s,RedOf p n (apV p n T (cutR n s.1 s.2) (cutR n R1 W1) R1) (s.1*R1) (f s).1 (f s).2:=fun s=>Classical.choose_spec (step s)
  let g:Nat→Nat×(Nat→Nat→Nat):=fun k=>Nat.rec (R1,W1) (fun _ s=>f s) k
  have hred:∀ k,RedOf p n (apV p n T (cutR n (g k).1 (g k).2) (cutR n (g 0).1 (g 0).2) (g 0).1) ((g k).1*(g 0).1) (g (k+1)).1 (g (k+1)).2:=fun k=>hf (g k);have hS:PowS p n T (fun k=>(g k).1) (fun k=>cutR n (g k).1 (g k).2) (fun k=>(g k).2) (fun k=>apV p n T (cutR n (g k).1 (g k).2) (cutR n (g 0).1 (g 0).2) (g 0).1):=
    ⟨fun k i hi c hc=>if_pos ⟨hi,hc⟩,fun k q c hc=>timesV_dvd,hred⟩
  have hR1:=isKer_le hW1;have hKb:=(kk_lt (p:=p) (n:=n) (g:=nilE p n) hp hn (Nat.le_refl _)).2;have hz:(g (R1*(kkE p (nilE p n))+1)).1=0:=hS.stop ha hk (UnitI.righty huu) hp.two (L:=(kkE p (nilE p n))) (fun j hj=>nil_row hp ha hk huu hW1 hj);obtain ⟨t,h1,h2,h3⟩:=first_zero (R:=fun k=>(g k).1) (B:=R1*(kkE p (nilE p n))+1) hz;have hb:R1*(kkE p (nilE p n))≤6*25:=Nat.mul_le_mul (by omega) hKb;refine ⟨fun k=>(g k).1,fun k=>(g k).2,t,rfl,rfl,hred,fun k=>?_,by omega,h2,h3⟩
  cases k with
  | zero=>show R1≤6;omega
  | succ k=>have:=(hred k).le;show (g (k+1)).1≤6;omega
end Go.Proofs.YtccdgjmomcljkaaDoor
namespace Go.Proofs.YtccdgjmomcljkaaDoor
open Go Go.RowKit Go.Sw Go.Ech
open Classical
theorem span_put {X:List Nat}{w0 w w':World}{L:Own}{D:Froz}{r c:Nat}{xs:Option Addr}{F:Nat→Value}(hM:MemX X w0 w L D)(hx:Ext w w')(h:0<r→OwnSl 6 w r F (.slice xs r c) w') :
    ∃ D2,MemX X w0 w' L (D2++D)∧(0<r→∃ b cs,xs=some ⟨b,0,none⟩∧(b,cs)∈D2++D∧SlAt 6 (.slice (some ⟨b,0,none⟩) r c) (some (b,cs)) r b c cs F):=by
  by_cases hr:0<r
  · obtain ⟨b,cap,cs,h1,h2,h3⟩:=h hr
    have e:=h1.val;simp only [Value.slice.injEq] at e;obtain ⟨rfl,_,rfl⟩:=e;exact ⟨[(b,cs)],hM.addD hx (fun b' cs' hm=>by simp only [List.mem_singleton,Prod.mk.injEq] at hm;obtain ⟨rfl,rfl⟩:=hm;exact ⟨h2,h3⟩),fun _=>⟨b,cs,rfl,List.mem_append_left _ (List.mem_cons_self ..),h1⟩⟩
  · exact ⟨[],hM.ext hx,fun h=>absurd h hr⟩
theorem own_red {p n m r R:Nat}{M V V' W:Nat→Nat→Nat}{w w':World}{u:Value}(hp:2≤p)(hW:RedOf p n M m R W)(hV:RedOf p n M m r V)(e:∀ i,i<r→∀ c,c<6→V' i c=if c<n then V i c else 0)(h:OwnSl 6 w r (fun c=>.int .u8 (V' (c / 6) (c%6):Int)) u w'):OwnSl 6 w R (fun c=>.int .u8 (cutR n R W (c / 6) (c%6):Int)) u w':=by
  obtain ⟨rfl,hu⟩:=RedOf.unique hp hW hV;obtain ⟨b,cap,cs,h1,h2,h3⟩:=h;refine ⟨b,cap,cs,h1.congr (fun c hc=>?_),h2,h3⟩
  congr 2
  rw [e (c / 6) (by omega) (c%6) (by omega)]
  unfold cutR
  by_cases hcn:c%6<n
  · rw [if_pos hcn,if_pos ⟨by omega,hcn⟩,hu (c / 6) (by omega) (c%6) hcn]
  · rw [if_neg hcn,if_neg (fun z=>hcn z.2)]
theorem lit_oneD {b:Nat}{R:Nat→Nat}:Sl 1 (.slice (some ⟨b,0,none⟩) 1 1) (some (b,#[.int .i64 ((R 0:Nat):Int)])) (0+1) (fun i=>.int .i64 (R i:Int)):=
  .inr ⟨b,1,#[.int .i64 ((R 0:Nat):Int)],rfl,rfl,Nat.le_refl _,by unfold maxLen;omega,rfl,fun i hi=>by
    obtain rfl:i=0:=by omega
    rfl⟩
theorem lit_oneZ {b:Nat}{v:Value}:SlAt 1 (.slice (some ⟨b,0,none⟩) 1 1) (some (b,#[v])) 1 b 1 #[v] (fun _=>v):=
  ⟨rfl,rfl,Nat.le_refl _,by unfold maxLen;omega,rfl,fun i hi=>by
    obtain rfl:i=0:=by omega
    rfl⟩
theorem red_small {p n:Nat}{T:Nat→Nat→Nat→Nat}{R:Nat→Nat}{Z:Nat→Nat→Nat→Nat}{t:Nat}(hp:p≤13)(h0:∀ i,i<R 0→∀ c,c<n→Z 0 i c<p)(h:PowQ p n T R Z t):∀ k i c,cutR n (R k) (Z k) i c≤255
  | 0, i, c => by
    unfold cutR;split
    · rename_i q;have:=h0 i q.1 c q.2;omega
    · omega
  | k + 1, i, c => by
    unfold cutR;split
    · rename_i q
      obtain ⟨ld,h1,_⟩:=h.1 k
      have:=h1.small i q.1 c q.2;omega
    · omega
theorem powers_Y (p n:Nat)(T:Nat→Nat→Nat→Nat)(f:Nat→Nat)(R:Nat→Nat)(Z:Nat→Nat→Nat→Nat)(t:Nat)(w:World)(hp:primeN p)(hn0:0<n)(hn:n≤6)(hTp:∀ i j k,T i j k<p)(hT0:∀ i j k,n≤k→T i j k=0)(hf:∀ i,f i≤255)(uu:Nat→Nat)(huu:UnitI p n T uu)(hne:∀ k E ld,Rref p n E k ld→(∀ x,Ker p n E k x↔Ker p n (fun r c=>imP p n T uu (kkE p (nilE p n)) c r) n x)→0<nf k ld n)(hpos:∀ r V,IsKer p n (fun r c=>imP p n T uu (kkE p (nilE p n)) c r) n r V→0<r)(hW1:IsKer p n (fun r c=>imP p n T uu (kkE p (nilE p n)) c r) n (R 0) (Z 0))(hpw:PowQ p n T R Z t) :
    CallsR Tryd.prog 51 #[.agg (algC (p:Int) (n:Int) T f)] w (fun u w'=>OwnSl 1 w (t+1) (fun i=>.int .i64 (R i:Int)) u w'):=by
  refine calls_fr [.agg (algC (p:Int) (n:Int) T f)] Tryd.func51 rfl Tryd.ntmps51 rfl fun a hF=>?_;have hM:Mem w w [none,none,none] []:=MemX.start w 3;change Fr 27 a [(0,.agg (algC (p:Int) (n:Int) T f))] at hF;have hp2:=hp.two;have hp13:=hp.le;have hT:∀ i j k,T i j k≤255:=fun i j k=>by have:=hTp i j k;omega
  have hp2:=hp.two;have hp13:=hp.le;have hR0:=hpos _ _ hW1;obtain ⟨hred,hR6,ht,hRt,hRp⟩:=hpw;have hcb:=red_small hp13 (fun i hi c hc=>isKer_small hW1 i hi c hc) (show PowQ p n T R Z t from ⟨hred,hR6,ht,hRt,hRp⟩);have hR06:=hR6 0;refine sr<|stR hF (d_box 0 hM hF rfl) rfl ?_;rintro _ w' a ⟨b1,rfl,hM,-⟩ hF;change Mem w w' [some (b1,algC (p:Int) (n:Int) T f),none,none] [] at hM;refine ag hF rfl rfl fun a hF=>ns<|st hF (g_loadAgg ty_ag_32 hF rfl (hM.row 0 rfl) (by simp only [sz0,dgC_size,numC_sz,ldB_size,mrk_size,vecsC_size,mrw_size]<;>omega) (whole cells_size)) rfl fun a hF=>stR hF (d_call Tryd.call35 hF (.cons rfl .nil) (nilI_W p n T f (R 0) (Z 0) _ hp hn0 hn hTp hT0 hf uu huu hne hpos hW1)) rfl ?_;rintro u w' a ⟨hx,bN,cN,csN,hsN,hgN,hbN⟩ hF;obtain rfl:=hsN.val;have hM:=hM.addD (D':=[(bN,csN)]) hx (fun b cs hm=>by simp only [List.mem_singleton,Prod.mk.injEq] at hm;obtain ⟨rfl,rfl⟩:=hm;exact ⟨hgN,hbN⟩);have hN1:(bN,csN)∈([(bN,csN)]:Froz):=List.mem_cons_self ..;refine ag hF rfl rfl fun a hF=>ns<|mv hF rfl rfl fun a hF=>ag hF rfl rfl fun a hF=>ns<|mv hF rfl rfl fun a hF=>st hF (g_len ty_us_27 hF rfl) rfl fun a hF=>stR hF (d_buildC 1 hM hF (build1 hF rfl) (ty_bs1_44 _)) rfl ?_;rintro _ w' a ⟨b2,rfl,hM,-⟩ hF;refine ag hF rfl rfl fun a hF=>nt<|sq<|wp_block ?_;change Mem w _ [some (b1,algC (p:Int) (n:Int) T f),some (b2,#[.int .i64 ((((R 0):Nat):Int))]),none] [(bN,csN)] at hM;refine c_loop (fun (kk:Nat) a w'=>kk≤t∧∃ (D1:Froz),∃ (xs:Option Addr),∃ (c4:Nat),((0<R (kk)→∃ b4 cs4,xs=some ⟨b4,0,none⟩∧(b4,cs4)∈D1∧SlAt 6 (.slice (some ⟨b4,0,none⟩) (R (kk)) c4) (some (b4,cs4)) (R (kk)) b4 c4 cs4 (fun c=>.int .u8 (((cutR n (R (kk)) (Z (kk))) (c / 6) (c%6):Nat):Int)))∧(bN,csN)∈D1)∧∃ (u5_1:Value) (e5_1:Option (Nat×Array Value)),Sl 1 u5_1 e5_1 (kk+1) (fun i=>.int .i64 (R i:Int))∧Fr 27 a [(1,ptr b1 (0)),(2,.slice none 0 0),(3,.slice (some ⟨bN,0,none⟩) ((R 0)) (cN)),(4,.slice xs (R (kk)) c4),(5,u5_1)]∧Mem w w' [some (b1,algC (p:Int) (n:Int) T f),e5_1,none] D1) (fun kk=>t - kk) 0 ?_ ?_
  · refine ⟨by omega,[(bN,csN)],(some ⟨bN,0,none⟩),cN,⟨fun _=>⟨bN,csN,rfl,hN1,hsN⟩,hN1⟩,(.slice (some ⟨b2,0,none⟩) 1 1),(some (b2,#[.int .i64 ((((R 0):Nat):Int))])),lit_oneD,hF.sub _ (by repeat' constructor),?_⟩
    exact hM
  clear hF hM;rintro gi a w' ⟨hgi,D1,xs,c4,⟨hsp,hN1⟩,u5_1,e5_1,hsl,hF,hM⟩;have hlast:gi=t→R gi=0:=fun e=>by rw [e];exact hRt
  have hgo:gi<t→0<R gi:=hRp gi;refine sq<|sr<|mv hF rfl rfl fun a hF=>st hF (g_lenX ty_us_27 hF rfl) rfl fun a hF=>st hF (g_gtr hF rfl rfl) rfl fun a hF=>nt<|c_cond hF rfl (fun h3=>?_) (fun h3=>?_)
  · refine wp_skip ?_
    refine tN<|wp_block<|sq ?_;have hRg:=hR6 gi;have hmm:R gi*R 0≤6*6:=Nat.mul_le_mul hRg hR06;have hmp:0<R gi*R 0:=Nat.mul_pos (by omega) hR0;obtain ⟨b4,cs4,rfl,hm4,hs4⟩:=hsp (by omega);refine c_drawH (S:=ParD [] w D1 [] ([some (b1,algC (p:Int) (n:Int) T f),e5_1,none]) (fun D9 u=>∃ b9 cap9 cs9,D9=[(b9,cs9)]∧w.heap.size≤b9∧SlAt 6 u (some (b9,cs9)) (R (gi)*R 0) b9 cap9 cs9 (fun c=>.int .u8 (((apV p n T (cutR n (R (gi)) (Z (gi))) (cutR n (R (0)) (Z (0))) (R 0)) (c / 6) (c%6):Nat):Int)))) 5 4 hmix rfl rfl rfl hF rfl (dstEvery_spec rfl) (([some (b1,algC (p:Int) (n:Int) T f),e5_1,none]:Own),undef,[]) ⟨⟨hM,Same.refl [] ([some (b1,algC (p:Int) (n:Int) T f),e5_1,none])⟩,fun _=>rfl,fun e=>by cases e⟩ (fun bb gg w h=>h.drew) (factsD [.val (.agg (algC (p:Int) (n:Int) T f)),.val (.agg (algC (p:Int) (n:Int) T f)),.val (.slice (some ⟨b4,0,none⟩) ((R (gi))) (c4)),.val (.slice (some ⟨bN,0,none⟩) ((R 0)) (cN)),.val undef] 4) ⟨fun a w2 bb gg hF hS hb hd=>by have hM:=hS.mem rfl;exact pd_val hS rfl rfl (g_loadAgg ty_ag_32 hF rfl (hM.row 0 rfl) (by simp only [sz0,dgC_size,numC_sz,ldB_size,mrk_size,vecsC_size,mrw_size]<;>omega) (whole cells_size)),fun a w2 bb gg hF hS hb hd=>by have hM:=hS.mem rfl;exact pd_val hS rfl rfl (g_loadAgg ty_ag_32 hF rfl (hM.row 0 rfl) (by simp only [sz0,dgC_size,numC_sz,ldB_size,mrk_size,vecsC_size,mrw_size]<;>omega) (whole cells_size)),fun a w2 bb gg hF hS hb hd=>by exact pd_val hS rfl rfl (g_move hF rfl),fun a w2 bb gg hF hS hb hd=>by exact pd_val hS rfl rfl (g_move hF rfl),fun a w2 gg hF hS hd=>by have hF:=hF.ext1 16 (hd 1 rfl rfl);have hF:=hF.ext1 17 (hd 2 rfl rfl);have hF:=hF.ext1 18 (hd 3 rfl rfl);have hM:=hS.mem rfl;exact pd_new (Q:=fun D9 u=>∃ b9 cap9 cs9,D9=[(b9,cs9)]∧w.heap.size≤b9∧SlAt 6 u (some (b9,cs9)) (R (gi)*R 0) b9 cap9 cs9 (fun c=>.int .u8 (((apV p n T (cutR n (R (gi)) (Z (gi))) (cutR n (R (0)) (Z (0))) (R 0)) (c / 6) (c%6):Nat):Int))) (by repeat constructor) hS ((d_call Tryd.call70 hF (.cons rfl (.cons rfl (.cons rfl .nil))) (allProducts_ok p n T f b4 c4 (R (gi)) bN cN (R 0) cs4 csN (cutR n (R (gi)) (Z (gi))) (cutR n (R (0)) (Z (0))) _ hp hn0 hn hTp hT0 hf hs4 hsN (hM.fzm hm4) (hM.fzm hN1) (by omega) hR0 (by omega) (by omega) (fun i _ c=>hcb _ i c) (fun i _ c=>hcb _ i c))).mono fun u w3 ⟨hx,b9,cap9,cs9,h1,h2,h3⟩=>⟨hx,[(b9,cs9)],(fun x ds hm=>by simp only [List.mem_singleton,Prod.mk.injEq] at hm;obtain ⟨rfl,rfl⟩:=hm;exact ⟨h2,h3⟩),b9,cap9,cs9,rfl,Nat.le_trans hM.bel.size h2,h1⟩),trivial⟩ ?_;rintro a w' ⟨Lg,uA,DK⟩ hF ⟨⟨hM,hL⟩,-,hA⟩ hq;obtain ⟨bP,cP,csP,hDK,hgP,hsP⟩:=hA rfl
    dsimp only at hM hL hDK hsP
    subst hDK;have hF:=hF.ext1 15 (hq 0 rfl rfl);have hF:=hF.ext1 16 (hq 1 rfl rfl);have hF:=hF.ext1 17 (hq 2 rfl rfl);have hF:=hF.ext1 18 (hq 3 rfl rfl);have hF:=hF.ext1 19 (show _=uA from hq 4 rfl rfl);have hLe:=hL.eq;subst hLe;obtain rfl:=hsP.val;change Mem w w' [some (b1,algC (p:Int) (n:Int) T f),e5_1,none] ([(bP,csP)]++D1) at hM;have hmP:(bP,csP)∈(([(bP,csP)]++D1):Froz):=List.mem_append_left _ (List.mem_cons_self ..);change wpList Tryd.prog _ _ [_,_] _ _;refine stR hF (d_call Tryd.call78 hF (.cons rfl (.cons rfl .nil)) (spanOf_ok p n T f bP cP (R (gi)*R 0) csP (apV p n T (cutR n (R (gi)) (Z (gi))) (cutR n (R (0)) (Z (0))) (R 0)) _ hp hn0 hn hsP (hM.fzm hmP) hmp (by omega) (apV_lt (by omega)) (fun i c hc=>apV_out (by omega) hT0 i hc))) rfl ?_;rintro u w' a ⟨hx,r,Zr,hRd,hZ0,⟨xs2,c2,rfl⟩,hnil,hown⟩ hF;have hown:=fun h=>own_red hp2 (hred gi) hRd (fun i hi c hc=>by split;rfl;exact hZ0 i hi c (by omega) hc) (hown h);have hrr:=(hRd.unique hp2 (hred gi)).1;subst hrr;obtain ⟨D2,hM,hsp2⟩:=span_put hM hx hown;have hN2:(bN,csN)∈((D2++([(bP,csP)]++D1)):Froz):=List.mem_append_right _ (List.mem_append_right _ hN1);refine ag hF rfl rfl fun a hF=>nt<|wp_region_lit<|mv hF rfl rfl fun a hF=>mv hF rfl rfl fun a hF=>st hF (g_lenX ty_us_27 hF rfl) rfl fun a hF=>stR hF (d_buildC 2 hM hF (build1 hF rfl) (ty_bs1_44 _)) rfl ?_;rintro _ w' a ⟨b4,rfl,hM,-⟩ hF;change Mem w w' [some (b1,algC (p:Int) (n:Int) T f),e5_1,some (b4,#[.int .i64 ((R (gi+1):Int))])] (D2++([(bP,csP)]++D1)) at hM;refine stR hF (d_append (k:=1) (m:=1) (g:=fun _=>.int .i64 ((R (gi+1):Int))) ty_si_44 rfl (by decide) hM rfl hF rfl rfl hsl (fun i hi=>by rw [show i=0 by omega];exact (hM.row 2 rfl).cell 0) (fun _ _=>rfl) (by decide) (by unfold maxLen;omega) (by omega)) rfl ?_;rintro u5 w' a ⟨e6,hM,hs7⟩ hF;change Mem w w' [some (b1,algC (p:Int) (n:Int) T f),e6,some (b4,#[.int .i64 ((R (gi+1):Int))])] (D2++([(bP,csP)]++D1)) at hM;refine ag hF rfl rfl fun a hF=>wpList_nil<|iN<|tN ?_;have hM:=hM.drop 2;refine ⟨gi+1,⟨by omega,(D2++([(bP,csP)]++D1)),xs2,c2,⟨hsp2,hN2⟩,(u5),(e6),(hs7.snoc rfl),hF.sub _ (by repeat' constructor),?_⟩,by omega⟩;exact hM
  obtain rfl:t=gi:=by omega
  refine wp_exit<|tX<|tX<|ib_same<|tN<|sr<|mv hF rfl rfl fun a hF=>ag hF rfl rfl fun a hF=>nt<|wp_ret<|fin1 rfl hF.defers (res_tmp hF rfl) ⟨_,rfl,hM.below,?_⟩;exact OwnSl.pos hM (k:=1) rfl (hsl) (by omega)
theorem powers_Z (p n:Nat)(T:Nat→Nat→Nat→Nat)(f:Nat→Nat)(w:World)(hp:primeN p)(hn0:0<n)(hn:n≤6)(hTp:∀ i j k,T i j k<p)(hT0:∀ i j k,n≤k→T i j k=0)(hf:∀ i,f i≤255)(uu:Nat→Nat)(huu:UnitI p n T uu)(hzk:∀ k E ld,Rref p n E k ld→(∀ x,Ker p n E k x↔Ker p n (fun r c=>imP p n T uu (kkE p (nilE p n)) c r) n x)→nf k ld n=0) :
    CallsR Tryd.prog 51 #[.agg (algC (p:Int) (n:Int) T f)] w (fun u w'=>OwnSl 1 w 1 (fun _=>.int .i64 ((0:Nat):Int)) u w'):=by
  refine calls_fr [.agg (algC (p:Int) (n:Int) T f)] Tryd.func51 rfl Tryd.ntmps51 rfl fun a hF=>?_;have hM:Mem w w [none,none,none] []:=MemX.start w 3;change Fr 27 a [(0,.agg (algC (p:Int) (n:Int) T f))] at hF;have hp2:=hp.two;have hp13:=hp.le;have hT:∀ i j k,T i j k≤255:=fun i j k=>by have:=hTp i j k;omega
  refine sr<|stR hF (d_box 0 hM hF rfl) rfl ?_;rintro _ w' a ⟨b1,rfl,hM,-⟩ hF;change Mem w w' [some (b1,algC (p:Int) (n:Int) T f),none,none] [] at hM;refine ag hF rfl rfl fun a hF=>ns<|st hF (g_loadAgg ty_ag_32 hF rfl (hM.row 0 rfl) (by simp only [sz0,dgC_size,numC_sz,ldB_size,mrk_size,vecsC_size,mrw_size]<;>omega) (whole cells_size)) rfl fun a hF=>stR hF (d_call Tryd.call35 hF (.cons rfl .nil) (nilradical_Z p n T f _ hp hn0 hn hTp hT0 hf uu huu hzk)) rfl ?_;rintro _ w' a ⟨hx,rfl⟩ hF;have hM:=hM.ext hx;refine ag hF rfl rfl fun a hF=>ns<|mv hF rfl rfl fun a hF=>ag hF rfl rfl fun a hF=>ns<|mv hF rfl rfl fun a hF=>st hF (g_len0 ty_us_27 hF rfl) rfl fun a hF=>stR hF (d_buildC 1 hM hF (build1 hF rfl) (ty_bs1_44 _)) rfl ?_;rintro _ w' a ⟨b2,rfl,hM,-⟩ hF;refine ag hF rfl rfl fun a hF=>nt<|sq<|wp_block ?_;change Mem w _ [some (b1,algC (p:Int) (n:Int) T f),some (b2,#[.int .i64 (0)]),none] [] at hM;refine c_loop (fun (kk:Nat) a w'=>kk≤0∧(True)∧Fr 27 a [(1,ptr b1 (0)),(2,.slice none 0 0),(3,.slice none 0 0),(4,.slice none 0 0),(5,.slice (some ⟨b2,0,none⟩) 1 1)]∧Mem w w' [some (b1,algC (p:Int) (n:Int) T f),some (b2,#[.int .i64 (0)]),none] []) (fun kk=>0 - kk) 0 ?_ ?_
  · refine ⟨by omega,trivial,hF.sub _ (by repeat' constructor),?_⟩
    exact hM
  clear hF hM;rintro gi a w' ⟨hgi,hinv1,hF,hM⟩;refine sq<|sr<|mv hF rfl rfl fun a hF=>st hF (g_len0 ty_us_27 hF rfl) rfl fun a hF=>st hF (g_gtr hF rfl rfl) rfl fun a hF=>nt<|c_cond hF rfl (fun h3=>?_) (fun h3=>?_)
  · exfalso;omega
  obtain rfl:0=gi:=by omega
  refine wp_exit<|tX<|tX<|ib_same<|tN<|sr<|mv hF rfl rfl fun a hF=>ag hF rfl rfl fun a hF=>nt<|wp_ret<|fin1 rfl hF.defers (res_tmp hF rfl) ⟨_,rfl,hM.below,?_⟩;exact ⟨_,_,_,lit_oneZ,hM.ge 1 rfl,hM.row 1 rfl⟩
end Go.Proofs.YtccdgjmomcljkaaDoor
