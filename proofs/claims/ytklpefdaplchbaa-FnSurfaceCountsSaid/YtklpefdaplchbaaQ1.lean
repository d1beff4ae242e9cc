import Derived.Test.YtklpefdaplchbaaK17
import Derived.Test.YtklpefdaplchbaaSw38
import Derived.Test.YtklpefdaplchbaaEch10
import Derived.Test.YtklpefdaplchbaaSw97
set_option linter.unusedVariables false
set_option linter.unusedSimpArgs false
namespace Go.Proofs.Ytklpefdaplchbaa
open Go Go.RowKit Go.Sw Go.Ech
open Classical
def hdl (p n:Nat) (T:Nat→Nat→Nat→Nat) (G:Nat→Nat→Nat) (k l c:Nat):Nat:=(sumTo (fun a=>sumTo (fun b=>G a b*T a b c) n) k+sumTo (fun b=>G k b*T k b c) l)%p
theorem hdl_lt {p n:Nat}{T:Nat→Nat→Nat→Nat}{G:Nat→Nat→Nat}{k l c:Nat}(hp:0<p):hdl p n T G k l c<p:=Nat.mod_lt _ hp
theorem timesEl {p n k:Nat}{T:Nat→Nat→Nat→Nat}{u:Nat→Nat}{c:Nat}(hk:k<n):timesV p n T (fun c=>if c=k then 1 else 0) u c=sumTo (fun b=>u b*T k b c) n%p:=by
  unfold timesV
  have e:(prodI T (fun c=>if c=k then 1 else 0) u n n c:Int)=(sumTo (fun b=>u b*T k b c) n:Int):=by
    rw [prodI_Pr,sumTo_sI];unfold Pr;rw [sI_one hk (fun a _ hne=>sI_zero fun b _=>by simp [ci,hne])];exact sI_congr fun b _=>by simp [ci]
  rw [Int.ofNat.inj e]
theorem hdl_add {p n k:Nat}{T:Nat→Nat→Nat→Nat}{G:Nat→Nat→Nat}(hk:k<n):addN p (hdl p n T G k 0) (timesV p n T (fun c=>if c=k then 1 else 0) (G k)) 1=hdl p n T G (k+1) 0:=by
  funext c
  rw [show (1:Int)=((1:Nat):Int) from rfl,addN_addM]
  unfold addM;rw [timesEl hk];unfold hdl;simp only [sumTo,Nat.add_zero,Nat.one_mul]
  rw [← Nat.add_mod]
def klV (p n:Nat) (T:Nat→Nat→Nat→Nat) (G V:Nat→Nat→Nat) (k c:Nat):Nat:=sumTo (fun a=>timesV p n T (V a) (G a) c) k%p
theorem klV_lt {p n:Nat}{T:Nat→Nat→Nat→Nat}{G V:Nat→Nat→Nat}{k c:Nat}(hp:0<p):klV p n T G V k c<p:=Nat.mod_lt _ hp
theorem klV_step {p n:Nat}{T:Nat→Nat→Nat→Nat}{G V:Nat→Nat→Nat}{k:Nat}:addN p (klV p n T G V k) (timesV p n T (V k) (G k)) 1=klV p n T G V (k+1):=by
  funext c
  rw [show (1:Int)=((1:Nat):Int) from rfl,addN_addM]
  unfold addM klV;simp only [sumTo,Nat.one_mul]
  rw [Nat.add_mod,Nat.mod_mod,← Nat.add_mod]
theorem klV_basis {p n:Nat}{T:Nat→Nat→Nat→Nat}{G:Nat→Nat→Nat}:∀ k,k≤n→klV p n T G (fun i q=>if q=i then 1 else 0) k=hdl p n T G k 0
  | 0,_=>by funext c;unfold klV hdl;simp [sumTo]
  | k + 1, h => by
    rw [← klV_step,klV_basis k (by omega)]
    exact hdl_add (by omega)
def apV (p:Nat) (V:Nat→Nat→Nat) (v:Nat→Nat) (k c:Nat):Nat:=sumTo (fun i=>v i*V i c) k%p
theorem basis_ok (p n:Nat)(T:Nat→Nat→Nat→Nat)(f:Nat→Nat)(w:World)(hn0:0<n)(hn:n≤6) :
    CallsR Try.prog 66 #[.agg (algC (p:Int) (n:Int) T f)] w (fun u w'=>OwnSl 6 w n (fun c=>.int .u8 (((fun i q=>if q=i then 1 else 0) (c / 6) (c%6):Nat):Int)) u w'):=by
  refine calls_fr [.agg (algC (p:Int) (n:Int) T f)] Try.func66 rfl Try.ntmps66 rfl fun a hF=>?_;have hM:Mem w w [none,none,none] []:=MemX.start w 3;change Fr 17 a [(0,.agg (algC (p:Int) (n:Int) T f))] at hF;refine sr<|stR hF (d_box 0 hM hF rfl) rfl ?_;rintro _ w' a ⟨b1,rfl,hM,-⟩ hF;change Mem w w' [some (b1,algC (p:Int) (n:Int) T f),none,none] [] at hM;refine ag hF rfl rfl fun a hF=>ns<|ag hF rfl rfl fun a hF=>nt<|sq<|sr<|st hF (g_fieldAddr ty_fo_39_1 hF rfl) rfl fun a hF=>st hF (g_load ty_on_2 hF rfl (hM.row 0 rfl) (algC_n (by omega))) rfl fun a hF=>mv hF rfl rfl fun a hF=>nt<|wp_block ?_;change Mem w _ [some (b1,algC (p:Int) (n:Int) T f),none,none] [] at hM;refine c_loop (fun (kk:Nat) a w'=>kk≤n∧(True)∧∃ (u3_1:Value) (e3_1:Option (Nat×Array Value)),Sl 6 u3_1 e3_1 (kk) (fun c=>.int .u8 (((fun i q=>if q=i then 1 else 0) (c / 6) (c%6):Nat):Int))∧Fr 17 a [(2,.slice none 0 0),(6,.int .i64 (n:Int)),(7,.int .i64 (kk:Int)),(3,u3_1)]∧Mem w w' [some (b1,algC (p:Int) (n:Int) T f),none,e3_1] []) (fun kk=>n - kk) 0 ?_ ?_
  · refine ⟨by omega,trivial,(.slice none 0 0),(none),(Sl.nil 6 _),hF.sub _ (by repeat' constructor),?_⟩
    exact hM
  clear hF hM;rintro gj a w' ⟨hgj,hinv1,u3_1,e3_1,hsl,hF,hM⟩;refine sr<|st hF (g_lss hF rfl rfl) rfl fun a hF=>nt<|sq<|c_cond hF rfl (fun h2=>?_) (fun h2=>?_)
  · refine wp_skip ?_
    refine tN<|sq<|wp_block<|sr<|mv hF rfl rfl fun a hF=>ag hF rfl rfl fun a hF=>nt<|wp_region_lit<|mv hF rfl rfl fun a hF=>mv hF rfl rfl fun a hF=>stR hF (d_call Try.call56 hF (.cons rfl .nil) (basisVector_ok (gj) _ (by omega))) rfl ?_;rintro _ w' a ⟨hx,rfl⟩ hF;have hM:=hM.ext hx;refine stR hF (d_buildC (vs:=[(0,.agg (vecC (fun c=>if c=gj then 1 else 0)))]) 1 hM hF (build1 hF rfl) (fun w=>ty_bsg_86_1 (fun c=>if c=gj then 1 else 0) w)) rfl ?_;rintro _ w' a ⟨b3,rfl,hM,-⟩ hF;change Mem w w' [some (b1,algC (p:Int) (n:Int) T f),some (b3,vecsC 1 (vAtL [(fun c=>if c=gj then 1 else 0)])),e3_1] [] at hM;refine stR hF (d_append (k:=2) (N:=gj) (m:=1) (f:=(fun c=>.int .u8 (((fun i q=>if q=i then 1 else 0) (c / 6) (c%6):Nat):Int))) (g:=fun q=>.int .u8 (((((fun c=>if c=gj then 1 else 0)) q:Nat)):Int)) ty_si_86 rfl (by decide) hM rfl hF rfl rfl hsl (fun q hq=>((hM.row 1 rfl).cell _).trans (vecs1_get q hq)) (fun _ _=>rfl) (by decide) (by unfold maxLen;omega) (by omega)) rfl ?_;rintro u4 w' a ⟨e5,hM,hs6⟩ hF;change Mem w w' [some (b1,algC (p:Int) (n:Int) T f),some (b3,vecsC 1 (vAtL [(fun c=>if c=gj then 1 else 0)])),e5] [] at hM;refine ag hF rfl rfl fun a hF=>wpList_nil<|iN<|tN<|wp_region_lit<|st hF (g_add hF rfl rfl (add_nat (gj) (1) (by omega))) rfl fun a hF=>mv hF rfl rfl fun a hF=>wpList_nil<|tN ?_;have hM:=hM.drop 1;refine ⟨gj+1,⟨by omega,trivial,(u4),(e5),(Sl.snoc6 (N:=gj) (F:=(fun c=>.int .u8 (((fun i q=>if q=i then 1 else 0) (c / 6) (c%6):Nat):Int))) (G:=fun q=>.int .u8 (((if q=gj then 1 else 0:Nat):Nat):Int)) hs6 (fun q hq=>by rw [show (gj*6+q) / 6=gj by omega,show (gj*6+q)%6=q by omega])),hF.sub _ (by repeat' constructor),?_⟩,by omega⟩;exact hM
  obtain rfl:n=gj:=by omega
  refine wp_exit<|tX<|tX<|ib_same<|tN<|sr<|mv hF rfl rfl fun a hF=>ag hF rfl rfl fun a hF=>nt<|wp_ret<|fin1 rfl hF.defers (res_tmp hF rfl) ⟨_,rfl,hM.below,?_⟩;exact OwnSl.pos hM (k:=2) rfl (hsl) hn0
theorem copaired_ok (p n:Nat)(T:Nat→Nat→Nat→Nat)(f:Nat→Nat)(G:Nat→Nat→Nat)(b cc:Nat)(cs:Array Value)(v:Value)(e:Option (Nat×Array Value))(V:Nat→Nat→Nat)(w:World)(hp:primeN p)(hn0:0<n)(hn:n≤6)(hTp:∀ i j k,T i j k<p)(hT0:∀ i j k,n≤k→T i j k=0)(hf:∀ i,f i≤255)(hfr:FrobN p n T f)(hG:IsCop p n (formM p n T f) G)(hs:SlAt 6 v e n b cc cs (fun c=>.int .u8 (V (c / 6) (c%6):Int)))(hb:Blk w b cs)(hV:∀ i c,V i c≤255) :
    CallsR Try.prog 65 #[.agg (algC (p:Int) (n:Int) T f),.slice (some ⟨b,0,none⟩) n cc] w (fun res _=>res = .agg (vecC (klV p n T G V n))):=by
  refine calls_fr [.agg (algC (p:Int) (n:Int) T f),.slice (some ⟨b,0,none⟩) n cc] Try.func65 rfl Try.ntmps65 rfl fun a hF=>?_;have hM:Mem w w [none,none,none,none,none,none] [(b,cs)]:=MemX.startD w 6 _ (startD1 hb);change Fr 31 a [(0,.agg (algC (p:Int) (n:Int) T f)),(1,.slice (some ⟨b,0,none⟩) n cc)] at hF;have hp2:=hp.two;have hp13:=hp.le;have hT:∀ i j k,T i j k≤255:=fun i j k=>by have:=hTp i j k;omega
  have hGp:=hG.lt;have hG5:∀ i c,G i c≤255:=fun i c=>by have:=hGp i c;omega
  have hk5:∀ k c,klV p n T G V k c≤255:=fun k c=>by have:=klV_lt (p:=p) (n:=n) (T:=T) (G:=G) (V:=V) (k:=k) (c:=c) (by omega);omega
  refine sr<|stR hF (d_box 0 hM hF rfl) rfl ?_;rintro _ w' a ⟨b1,rfl,hM,-⟩ hF;refine stR hF (d_alloc 1 hM ty_ze_37) rfl ?_;rintro _ w' a ⟨b2,rfl,hM,-⟩ hF;refine ns<|stR hF (d_alloc 2 hM ty_ze_37) rfl ?_;rintro _ w' a ⟨b3,rfl,hM,-⟩ hF;change Mem w w' [some (b1,algC (p:Int) (n:Int) T f),some (b2,fnC 6 (fun _=>.int .u8 (0))),some (b3,fnC 6 (fun _=>.int .u8 (0))),none,none,none] [(b,cs)] at hM;refine nt<|sq<|sr<|st hF (g_loadAgg ty_ag_39 hF rfl (hM.row 0 rfl) (by simp only [sz0,tenC_size,smC_size,numC_size,numI_size]<;>omega) (whole cells_size)) rfl fun a hF=>stR hF (d_callOwn (k:=5) hM (d_call Try.call77 hF (.cons rfl .nil) (copairing_ok p n T f G _ hp hn0 hn (fun _ _ _=>hT _ _ _) (fun _=>hf _) hfr hG))) rfl ?_;rintro u w' a ⟨bG,capG,csG,hsG,hM,-⟩ hF;obtain rfl:=hsG.val;refine st hF (g_len ty_us_86 hF rfl) rfl fun a hF=>mv hF rfl rfl fun a hF=>nt<|wp_block ?_;change Mem w _ [some (b1,algC (p:Int) (n:Int) T f),some (b2,fnC 6 (fun _=>.int .u8 (0))),some (b3,fnC 6 (fun _=>.int .u8 (0))),none,none,some (bG,csG)] [(b,cs)] at hM;refine c_loop (fun (kk:Nat) a w'=>kk≤n∧(True)∧Fr 31 a [(1,.slice (some ⟨b,0,none⟩) n cc),(2,ptr b1 (0)),(4,ptr b2 (0)),(5,ptr b3 (0)),(10,.slice (some ⟨bG,0,none⟩) n capG),(11,.int .i64 (n:Int)),(12,.int .i64 (kk:Int))]∧Mem w w' [some (b1,algC (p:Int) (n:Int) T f),some (b2,fnC 6 (fun _=>.int .u8 (0))),some (b3,vecC (klV p n T G V kk)),none,none,some (bG,csG)] [(b,cs)]) (fun kk=>n - kk) 0 ?_ ?_
  · refine ⟨by omega,trivial,hF.sub _ (by repeat' constructor),?_⟩
    refine hM.rowc 2 rfl (fnC_congr fun c hc=>by unfold klV;simp [sumTo])
  clear hF hM;rintro gk a w' ⟨hgk,hinv1,hF,hM⟩;have hv:∀ c,G gk c≤255:=hG5 gk;have hu:∀ c,V gk c≤255:=hV gk;have hvt:∀ c,timesV p n T (V gk) (G gk) c≤255:=fun c=>timesV_le (by omega) (by omega) _ _ c;have hvs:∀ c,klV p n T G V gk c≤255:=hk5 gk;refine sr<|st hF (g_lss hF rfl rfl) rfl fun a hF=>nt<|sq<|c_cond hF rfl (fun h4=>?_) (fun h4=>?_)
  · refine wp_skip ?_
    refine tN<|sq<|wp_block<|sr<|mv hF rfl rfl fun a hF=>st hF (g_indexSl (i:=gk) ty_sl_86 hF rfl rfl rfl (by omega)) rfl fun a hF=>st hF (g_loadAgg ty_ag_37 hF rfl (hM.row 5 rfl) (hsG.room (gk) (by omega)) (hsG.vec0 (gk) (by omega))) rfl fun a hF=>stR hF (d_alloc 3 hM ty_ze_37) rfl ?_;rintro _ w' a ⟨b5,rfl,hM,-⟩ hF;change Mem w w' [some (b1,algC (p:Int) (n:Int) T f),some (b2,fnC 6 (fun _=>.int .u8 (0))),some (b3,vecC (klV p n T G V gk)),some (b5,fnC 6 (fun _=>.int .u8 (0))),none,some (bG,csG)] [(b,cs)] at hM;refine ag hF rfl rfl fun a hF=>stN hF (d_storeAgg 3 hM rfl ty_sz_37 hF rfl rfl (by first | exact vecC_one | exact cells_one | (refine fnC_one fun _ _=>?_;first | rfl | (split<;>rfl))) (by simp only [sz0,tenC_size,smC_size,numC_size,numI_size]) (by simp only [sz0,tenC_size,smC_size,numC_size,numI_size]<;>omega) (splice_whole _ _ (by simp only [sz0,tenC_size,smC_size,numC_size,numI_size]))) ?_;intro _ w' a hM hF;change Mem w w' [some (b1,algC (p:Int) (n:Int) T f),some (b2,fnC 6 (fun _=>.int .u8 (0))),some (b3,vecC (klV p n T G V gk)),some (b5,vecC (G (gk))),none,some (bG,csG)] [(b,cs)] at hM;refine nt<|sq<|c_par 8 [4] [.val (.agg (algC (p:Int) (n:Int) T f)),.val (.slice (some ⟨b,0,none⟩) n cc),.val (.int .i64 (gk:Int)),.val (ptr b (0+(gk)*6)),.val (.agg (vecC (V (gk)))),.val (.agg (vecC (G (gk)))),.val (.agg (vecC (timesV p n T ((V (gk))) ((G (gk)))))),.own 4 (fnC 6 (fun _=>.int .u8 (0))) (fun b=>ptr b 0)] hmix rfl hF rfl hM ⟨fun a w gG hF hS hd=>by have hM:=hS.mem rfl;exact par_val hS rfl (g_loadAgg ty_ag_39 hF rfl (hM.row 0 rfl) (by simp only [sz0,tenC_size,smC_size,numC_size,numI_size]<;>omega) (whole cells_size)),fun a w gG hF hS hd=>by exact pmv hS rfl hF rfl,fun a w gG hF hS hd=>by exact pmv hS rfl hF rfl,fun a w gG hF hS hd=>by have hF:=hF.ext1 18 (hd 1 rfl rfl);have hF:=hF.ext1 19 (hd 2 rfl rfl);exact par_val hS rfl (g_indexSl (i:=gk) ty_sl_86 hF rfl rfl rfl (by omega)),fun a w gG hF hS hd=>by have hF:=hF.ext1 20 (hd 3 rfl rfl);have hM:=hS.mem rfl;exact par_val hS rfl (g_loadAgg ty_ag_37 hF rfl (hM.fz 0 rfl) (hs.room (gk) (by omega)) (hs.vec0 (gk) (by omega))),fun a w gG hF hS hd=>by have hM:=hS.mem rfl;exact par_val hS rfl (g_loadAgg ty_ag_37 hF rfl (hM.row 3 rfl) (by simp only [sz0,tenC_size,smC_size,numC_size,numI_size]<;>omega) (whole (by simp only [sz0,tenC_size,smC_size,numC_size,numI_size]))),fun a w gG hF hS hd=>by have hF:=hF.ext1 17 (hd 0 rfl rfl);have hF:=hF.ext1 21 (hd 4 rfl rfl);have hF:=hF.ext1 22 (hd 5 rfl rfl);exact par_call (by repeat constructor) hS rfl (d_call Try.call26 hF (.cons rfl (.cons rfl (.cons rfl .nil))) (product_ok p n T f ((V (gk))) ((G (gk))) _ (by omega) (by omega) (by omega) (fun _ _ _=>hT _ _ _) (fun _=>by first | exact hv _ | exact hvt _ | exact hvs _ | exact hu _ | exact hT _ _ _ | exact hf _ | omega | (split<;>omega) | (dsimp only;split<;>omega) | assumption) (fun _=>by first | exact hv _ | exact hvt _ | exact hvs _ | exact hu _ | exact hT _ _ _ | exact hf _ | omega | (split<;>omega) | (dsimp only;split<;>omega) | assumption))),fun a w gG hF hS hd=>by exact par_own (by repeat constructor) hS rfl rfl rfl rfl (d_alloc 4 hS.1 ty_ze_37),trivial⟩ ?_;intro a w' L hF hS hq;have hF:=hF.ext1 17 (hq 0 rfl rfl);have hF:=hF.ext1 18 (hq 1 rfl rfl);have hF:=hF.ext1 19 (hq 2 rfl rfl);have hF:=hF.ext1 20 (hq 3 rfl rfl);have hF:=hF.ext1 21 (hq 4 rfl rfl);have hF:=hF.ext1 22 (hq 5 rfl rfl);have hF:=hF.ext1 23 (hq 6 rfl rfl);obtain ⟨hM,hL⟩:=hS;obtain ⟨b6,hptr,hkk⟩:=hq 7 rfl rfl;have hF:=hF.ext1 8 hptr;have hL:=hL.take hkk;obtain rfl:=hL.eq;change Mem w w' [some (b1,algC (p:Int) (n:Int) T f),some (b2,fnC 6 (fun _=>.int .u8 (0))),some (b3,vecC (klV p n T G V gk)),some (b5,vecC (G (gk))),some (b6,fnC 6 (fun _=>.int .u8 (0))),some (bG,csG)] [(b,cs)] at hM;change wpList Try.prog _ _ [_] _ _
    refine stN hF (d_storeAgg 4 hM rfl ty_sz_37 hF rfl rfl (by first | exact vecC_one | exact cells_one | (refine fnC_one fun _ _=>?_;first | rfl | (split<;>rfl))) (by simp only [sz0,tenC_size,smC_size,numC_size,numI_size]) (by simp only [sz0,tenC_size,smC_size,numC_size,numI_size]<;>omega) (splice_whole _ _ (by simp only [sz0,tenC_size,smC_size,numC_size,numI_size]))) ?_;intro _ w' a hM hF;change Mem w w' [some (b1,algC (p:Int) (n:Int) T f),some (b2,fnC 6 (fun _=>.int .u8 (0))),some (b3,vecC (klV p n T G V gk)),some (b5,vecC (G (gk))),some (b6,vecC (timesV p n T ((V (gk))) ((G (gk))))),some (bG,csG)] [(b,cs)] at hM;refine nt<|c_par 4 [] [.val (.slice (some ⟨b3,0,none⟩) 6 6),.val (.slice (some ⟨b6,0,none⟩) 6 6),.val (ptr b1 (0+0)),.val (.int .i64 (p:Int))] hmix rfl hF rfl hM ⟨fun a w gG hF hS hd=>by exact par_val hS rfl (g_sliceArr ty_ua_37 ty_sz_5 (by decide) hF rfl),fun a w gG hF hS hd=>by exact par_val hS rfl (g_sliceArr ty_ua_37 ty_sz_5 (by decide) hF rfl),fun a w gG hF hS hd=>by exact par_val hS rfl (g_fieldAddr ty_fo_39_0 hF rfl),fun a w gG hF hS hd=>by have hF:=hF.ext1 26 (hd 2 rfl rfl);have hM:=hS.mem rfl;exact par_val hS rfl (g_load ty_on_2 hF rfl (hM.row 0 rfl) (algC_p (by omega))),trivial⟩ ?_;intro a w' L hF hS hq;have hF:=hF.ext1 24 (hq 0 rfl rfl);have hF:=hF.ext1 25 (hq 1 rfl rfl);have hF:=hF.ext1 26 (hq 2 rfl rfl);have hF:=hF.ext1 27 (hq 3 rfl rfl);have hM:=hS.mem rfl;change wpList Try.prog _ _ [_] _ _;refine stR hF (d_callX Try.call72 hF (.cons rfl (.cons rfl (.cons rfl (.cons rfl .nil)))) (addRow_ok (p) b3 6 b6 0 6 6 _ ((klV p n T G V gk)) ((timesV p n T ((V (gk))) ((G (gk))))) (1) _ (by omega) (by omega) (by omega) (by omega) (by omega) (fun _=>by first | exact hv _ | exact hvt _ | exact hvs _ | exact hu _ | exact hT _ _ _ | exact hf _ | omega | (split<;>omega) | (dsimp only;split<;>omega) | assumption) (hM.row 2 rfl) (fun _=>by first | exact hv _ | exact hvt _ | exact hvs _ | exact hu _ | exact hT _ _ _ | exact hf _ | omega | (split<;>omega) | (dsimp only;split<;>omega) | assumption) (hM.ne2 (i:=4) (j:=2) rfl rfl (by decide)) (hM.row 4 rfl) (fun i hi=>vecC_get i (by omega) hi))) rfl ?_;rintro _ w' a ⟨hx,rfl,hbk⟩ hF;have hM:=hM.upd (cs':=vecC (addN p ((klV p n T G V gk)) ((timesV p n T ((V (gk))) ((G (gk))))) (1))) 2 rfl hx hbk;change Mem w w' [some (b1,algC (p:Int) (n:Int) T f),some (b2,fnC 6 (fun _=>.int .u8 (0))),some (b3,vecC (addN p ((klV p n T G V gk)) ((timesV p n T ((V (gk))) ((G (gk))))) (1))),some (b5,vecC (G (gk))),some (b6,vecC (timesV p n T ((V (gk))) ((G (gk))))),some (bG,csG)] [(b,cs)] at hM;refine wpList_nil<|iN<|tN<|wp_region_lit<|st hF (g_add hF rfl rfl (add_nat (gk) (1) (by omega))) rfl fun a hF=>mv hF rfl rfl fun a hF=>wpList_nil<|tN ?_;have hM:=hM.drop 3;have hM:=hM.drop 4;refine ⟨gk+1,⟨by omega,trivial,hF.sub _ (by repeat' constructor),?_⟩,by omega⟩;refine hM.rowc 2 rfl (by rw [klV_step])
  obtain rfl:n=gk:=by omega
  refine wp_exit<|tX<|tX<|ib_same<|tN<|sr<|st hF (g_loadAgg ty_ag_37 hF rfl (hM.row 2 rfl) (by simp only [sz0,tenC_size,smC_size,numC_size,numI_size]<;>omega) (whole (by simp only [sz0,tenC_size,smC_size,numC_size,numI_size]))) rfl fun a hF=>stN hF (d_storeAgg 1 hM rfl ty_sz_37 hF rfl rfl (by first | exact vecC_one | exact cells_one | (refine fnC_one fun _ _=>?_;first | rfl | (split<;>rfl))) (by simp only [sz0,tenC_size,smC_size,numC_size,numI_size]) (by simp only [sz0,tenC_size,smC_size,numC_size,numI_size]<;>omega) (splice_whole _ _ (by simp only [sz0,tenC_size,smC_size,numC_size,numI_size]))) ?_;intro _ w' a hM hF;change Mem w w' [some (b1,algC (p:Int) (n:Int) T f),some (b2,vecC (klV p n T G V n)),some (b3,vecC (klV p n T G V n)),none,none,some (bG,csG)] [(b,cs)] at hM;refine nt<|wp_ret<|fin1 rfl hF.defers (res_agg ty_ag_37 hF rfl (hM.row 1 rfl) (by simp only [sz0,tenC_size,smC_size,numC_size,numI_size])) ⟨_,rfl,hM.below,?_⟩
  show _=_
  rfl
theorem handle_ok (p n:Nat)(T:Nat→Nat→Nat→Nat)(f:Nat→Nat)(G:Nat→Nat→Nat)(w:World)(hp:primeN p)(hn0:0<n)(hn:n≤6)(hTp:∀ i j k,T i j k<p)(hT0:∀ i j k,n≤k→T i j k=0)(hf:∀ i,f i≤255)(hfr:FrobN p n T f)(hG:IsCop p n (formM p n T f) G) :
    CallsR Try.prog 51 #[.agg (algC (p:Int) (n:Int) T f)] w (fun res _=>res = .agg (vecC (hdl p n T G n 0))):=by
  refine calls_fr [.agg (algC (p:Int) (n:Int) T f)] Try.func51 rfl Try.ntmps51 rfl fun a hF=>?_;have hM:Mem w w [none,none] []:=MemX.start w 2;change Fr 7 a [(0,.agg (algC (p:Int) (n:Int) T f))] at hF;have hp2:=hp.two;have hp13:=hp.le;have hT:∀ i j k,T i j k≤255:=fun i j k=>by have:=hTp i j k;omega
  have hGp:=hG.lt;have hG5:∀ i c,G i c≤255:=fun i c=>by have:=hGp i c;omega
  have hd5:∀ k l c,hdl p n T G k l c≤255:=fun k l c=>by have:=hdl_lt (p:=p) (n:=n) (T:=T) (G:=G) (k:=k) (l:=l) (c:=c) (by omega);omega
  refine sr<|stR hF (d_box 0 hM hF rfl) rfl ?_;rintro _ w' a ⟨b1,rfl,hM,-⟩ hF;refine stR hF (d_alloc 1 hM ty_ze_37) rfl ?_;rintro _ w' a ⟨b2,rfl,hM,-⟩ hF;change Mem w w' [some (b1,algC (p:Int) (n:Int) T f),some (b2,fnC 6 (fun _=>.int .u8 (0)))] [] at hM;refine nt<|sq<|c_par 3 [] [.val (.agg (algC (p:Int) (n:Int) T f)),.val (.agg (algC (p:Int) (n:Int) T f)),.rel (FreshV w [some (b1,algC (p:Int) (n:Int) T f),some (b2,fnC 6 (fun _=>.int .u8 (0)))] n (fun c=>.int .u8 (((fun i q=>if q=i then 1 else 0) (c / 6) (c%6):Nat):Int)))] hmix rfl hF rfl hM ⟨fun a w gG hF hS hd=>by have hM:=hS.mem rfl;exact par_val hS rfl (g_loadAgg ty_ag_39 hF rfl (hM.row 0 rfl) (by simp only [sz0,tenC_size,smC_size,numC_size,numI_size]<;>omega) (whole cells_size)),fun a w gG hF hS hd=>by have hM:=hS.mem rfl;exact par_val hS rfl (g_loadAgg ty_ag_39 hF rfl (hM.row 0 rfl) (by simp only [sz0,tenC_size,smC_size,numC_size,numI_size]<;>omega) (whole cells_size)),fun a w gG hF hS hd=>by have hF:=hF.ext1 4 (hd 1 rfl rfl);have hM:=hS.mem rfl;exact par_rel (by exact ⟨fun _ _ _ h hx=>h.last hx,trivial⟩) hS rfl (d_call Try.call66 hF (.cons rfl .nil) (basis_ok p n T f _ hn0 hn)) (fun _ _ hr=>(OwnSl.freshV) hM hr),trivial⟩ ?_;intro a w' L hF hS hq;have hF:=hF.ext1 3 (hq 0 rfl rfl);have hF:=hF.ext1 4 (hq 1 rfl rfl);have hM:=hS.mem rfl;have hr3:=hq 2 rfl rfl;have hF:=hF.ext1 5 rfl;obtain ⟨u,hu⟩:∃ u,u=a.tmps.getD 5 undef:=⟨_,rfl⟩;change (FreshV w [some (b1,algC (p:Int) (n:Int) T f),some (b2,fnC 6 (fun _=>.int .u8 (0)))] n (fun c=>.int .u8 (((fun i q=>if q=i then 1 else 0) (c / 6) (c%6):Nat):Int))) (a.tmps.getD 5 undef) w' at hr3;rw [← hu] at hr3 hF;obtain ⟨bB,cB,csB,hsB,hgB,hM⟩:=hM.addV hr3;obtain rfl:=hsB.val;change Mem w _ [some (b1,algC (p:Int) (n:Int) T f),some (b2,fnC 6 (fun _=>.int .u8 (0)))] [(bB,csB)] at hM;change wpList Try.prog _ _ [_,_] _ _;refine stR hF (d_call Try.call65 hF (.cons rfl (.cons rfl .nil)) (copaired_ok p n T f G bB cB csB _ _ (fun i q=>if q=i then 1 else 0) _ hp hn0 hn hTp hT0 hf hfr hG hsB (hM.fzm (List.mem_cons_self ..)) (fun i c=>by show (if c=i then 1 else 0)≤255;split<;>omega))) rfl ?_;rintro _ w' a ⟨hx,rfl⟩ hF;have hM:=hM.ext hx;refine stN hF (d_storeAgg 1 hM rfl ty_sz_37 hF rfl rfl (by first | exact vecC_one | exact cells_one | (refine fnC_one fun _ _=>?_;first | rfl | (split<;>rfl))) (by simp only [sz0,tenC_size,smC_size,numC_size,numI_size]) (by simp only [sz0,tenC_size,smC_size,numC_size,numI_size]<;>omega) (splice_whole _ _ (by simp only [sz0,tenC_size,smC_size,numC_size,numI_size]))) ?_;intro _ w' a hM hF;change Mem w w' [some (b1,algC (p:Int) (n:Int) T f),some (b2,vecC (klV p n T G (fun i q=>if q=i then 1 else 0) n))] [(bB,csB)] at hM;refine nt<|wp_ret<|fin1 rfl hF.defers (res_agg ty_ag_37 hF rfl (hM.row 1 rfl) (by simp only [sz0,tenC_size,smC_size,numC_size,numI_size])) ⟨_,rfl,hM.below,?_⟩
  show _=_
  exact congrArg (fun v=>Value.agg (vecC v)) (klV_basis n (Nat.le_refl n))
end Go.Proofs.Ytklpefdaplchbaa
namespace Go.Proofs.Ytklpefdaplchbaa
open Go Go.RowKit Go.Sw Go.Ech
open Classical
end Go.Proofs.Ytklpefdaplchbaa
namespace Go.Proofs.Ytklpefdaplchbaa
open Go Go.RowKit Go.Sw Go.Ech
open Classical
end Go.Proofs.Ytklpefdaplchbaa
namespace Go.Proofs.Ytklpefdaplchbaa
open Go Go.RowKit Go.Sw Go.Ech
open Classical
end Go.Proofs.Ytklpefdaplchbaa
namespace Go.Proofs.Ytklpefdaplchbaa
open Go Go.RowKit Go.Sw Go.Ech
open Classical
theorem ty_um_100:Try.prog.underlying 100=some (.map 39 4):=by kernel_rfl
theorem ty_ze_4:zeroP Try.prog 4=some (.bool (false)):=by kernel_rfl
theorem keyAlg:WideMaps.KeyLaw Try.prog 39:=deep_law (m:=8) (by decide) (by kernel_rfl) (by kernel_rfl) (by kernel_rfl)
theorem keyLeafs:leafs Try.prog (Try.prog.types.size+1) 39 (.i64::.i64::List.replicate 222 .u8)=true:=by kernel_rfl
theorem keyType32:Try.prog.keyType 39=true:=by kernel_rfl
theorem keyCells:Try.prog.cellsOf 39=224:=by kernel_rfl
theorem keyWide:wideB Try.prog 39=true:=by kernel_rfl
theorem keyLit {p n:Nat}{T:Nat→Nat→Nat→Nat}{f:Nat→Nat}(hp:p<1000)(hn:n<1000)(hT:∀ i j k,T i j k≤255)(hf:∀ i,f i≤255):∃ l,keyOf Try.prog 39 (.agg (algC (p:Int) (n:Int) T f))=some l:=
  keyOf_leafs keyWide keyType32 keyLeafs (by rw [keyCells,List.length_cons,List.length_cons,List.length_replicate]) (leafy_alg (by omega) (by omega) hT hf)
theorem keyEq {p n:Int}{T:Nat→Nat→Nat→Nat}{f:Nat→Nat}:Value.agg (algC p n T f)=Value.agg (algC p n (trT T) f)↔eqT T (trT T):=by
  constructor
  · intro h i hi j hj k hk
    have h1:=congrArg (fun v:Value=>match v with | .agg c=>c[2+i*36+j*6+k]? | _=>none) h
    dsimp only at h1
    rw [algC_T i j k rfl hi hj hk,algC_T i j k rfl hi hj hk] at h1;have h2:=Option.some.inj h1
    injection h2 with _ h3
    exact Int.ofNat.inj h3
  · intro h
    exact congrArg Value.agg (algC_congr fun i hi j hj k hk=>h i hi j hj k hk)
theorem gives_ite {P:Program}{q:Prop}[Decidable q]{o:Oper}{a:Act}{w:World}(h:Gives P o a w (if q then .bool true else .bool false)):Gives P o a w (.bool (decide q)):=by
  by_cases e:q
  · rw [if_pos e] at h;rw [decide_eq_true e];exact h
  · rw [if_neg e] at h;rw [decide_eq_false e];exact h
def foldW (mul:(Nat→Nat)→(Nat→Nat)→Nat→Nat) (u:Nat→Nat) (V:Nat→Nat→Nat):Nat→Nat→Nat
  | 0=>u
  | k+1=>mul (foldW mul u V k) (V k)
theorem foldW_le {mul:(Nat→Nat)→(Nat→Nat)→Nat→Nat}{u:Nat→Nat}{V:Nat→Nat→Nat}(hu:∀ c,u c≤255)(hm:∀ x y c,mul x y c≤255):∀ k c,foldW mul u V k c≤255
  | 0,c=>hu c
  | k+1,c=>hm _ _ c
theorem isOwnOpposite_ok (p n:Nat)(T:Nat→Nat→Nat→Nat)(f:Nat→Nat)(w:World)(hp2:p<1000)(hn2:n<1000)(hT:∀ i j k,T i j k≤255)(hf:∀ i,f i≤255) :
    CallsR Try.prog 49 #[.agg (algC (p:Int) (n:Int) T f)] w (fun res _=>res = .bool (decide (eqT T (trT T)))):=by
  refine calls_fr [.agg (algC (p:Int) (n:Int) T f)] Try.func49 rfl Try.ntmps49 rfl fun a hF=>?_;have hM:Mem w w [none] []:=MemX.start w 1;change Fr 11 a [(0,.agg (algC (p:Int) (n:Int) T f))] at hF;refine sr<|stR hF (d_box 0 hM hF rfl) rfl ?_;rintro _ w' a ⟨b1,rfl,hM,-⟩ hF;refine ag hF rfl rfl fun a hF=>ns<|stR hF (d_makeMap hM) rfl ?_;rintro _ w' a ⟨bm2,rfl,hM,hgebm2,hisbm2⟩ hF;change Mem w w' [some (b1,algC (p:Int) (n:Int) T f)] [] at hM;refine st hF (g_loadAgg ty_ag_39 hF rfl (hM.row 0 rfl) (by simp only [sz0,tenC_size,smC_size,numC_size,numI_size,mrk_size]<;>omega) (whole cells_size)) rfl fun a hF=>?_;obtain ⟨lkbm2,hlkbm2⟩:=keyLit (p:=p) (n:=n) (T:=T) (f:=f) (by omega) (by omega) hT hf;refine stN hF (d_insert keyAlg ty_um_100 hM hisbm2 hgebm2 hF rfl rfl rfl hlkbm2) ?_;rintro _ w' a ⟨hM,hisbm2⟩ hF;change Mem w w' [some (b1,algC (p:Int) (n:Int) T f)] [] at hM;refine mv hF rfl rfl fun a hF=>ag hF rfl rfl fun a hF=>ns<|mv hF rfl rfl fun a hF=>st hF (g_loadAgg ty_ag_39 hF rfl (hM.row 0 rfl) (by simp only [sz0,tenC_size,smC_size,numC_size,numI_size,mrk_size]<;>omega) (whole cells_size)) rfl fun a hF=>stR hF (d_call Try.call63 hF (.cons rfl .nil) (oppositeTo_ok (p:Int) (n:Int) T f _)) rfl ?_;rintro _ w' a ⟨hx,rfl⟩ hF;have hM:=hM.ext hx;have hisbm2:=hisbm2.ext hx;refine st hF (gives_ite (g_lookup1 (p:=eqT T (trT T)) (z0:=.bool (false)) keyAlg ty_um_100 ty_ze_4 hisbm2 hF rfl rfl (keyLit (by omega) (by omega) (fun i j k=>hT j i k) hf).choose_spec hlkbm2 keyEq)) rfl fun a hF=>ag hF rfl rfl fun a hF=>nt<|wp_ret<|fin1 rfl hF.defers (res_tmp hF rfl) ⟨_,rfl,hM.below,?_⟩
  show _=_
  rfl
theorem sumTo_0:∀ m,sumTo (fun _=>0) m=0
  | 0=>rfl
  | m+1=>by rw [sumTo,sumTo_0 m]
theorem hdl_out {p n:Nat}{T:Nat→Nat→Nat→Nat}{G:Nat→Nat→Nat}{k l c:Nat}(hT0:∀ i j k,n≤k→T i j k=0)(hc:n≤c):hdl p n T G k l c=0:=by
  unfold hdl
  simp only [hT0 _ _ c hc,Nat.mul_zero,sumTo_0,Nat.add_zero,Nat.zero_mod]
end Go.Proofs.Ytklpefdaplchbaa
