import Derived.Test.YtbeodbfbfbefkaaGreatDoorY5
import Derived.Test.YtbeodbfbfbefkaaGreatDoorSw52
import Derived.Shelf.Small.Bits
import Derived.Shelf.Strconv.Itoa0
import Derived.Test.YtbeodbfbfbefkaaGreatDoorProg
set_option linter.unusedVariables false
set_option linter.unusedSimpArgs false
namespace Go.Proofs.YtbeodbfbfbefkaaGreatDoor
open Go Go.RowKit Go.Sw Go.Ech
open Classical
def kkE (p:Nat):Nat→Nat
  | 0=>p
  | e+1=>kkE p e*p
def nilE (p n:Nat):Nat:=if n≤p then 0 else if n≤p*p then 1 else 2
theorem nilE_le {p n:Nat}:nilE p n≤2:=by unfold nilE;split<;>(try split)<;>omega
theorem kk_fact:∀ p∈[2,3,5,7,11,13],∀ n,n<7→∀ g,g<3→g≤nilE p n→((kkE p g<n↔g<nilE p n)∧kkE p g≤25):=by decide
theorem kk_lt {p n g:Nat}(hp:primeN p)(hn:n≤6)(hg:g≤nilE p n):(kkE p g<n↔g<nilE p n)∧kkE p g≤25:=by
  have h2:=nilE_le (p:=p) (n:=n)
  exact kk_fact p (by unfold primeN at hp;simp;omega) n (by omega) g (by omega) hg
theorem kk_step {p g:Nat}:kkE p g*p=kkE p (g+1):=rfl
theorem eb_lt {p c:Nat}(hp:2≤p):∀ q,(fun q=>if q=c then 1 else 0:Nat→Nat) q<p:=fun q=>by dsimp only;split<;>omega
theorem eb_out {n c q:Nat}(hc:c<n)(h:n≤q):(fun q=>if q=c then 1 else 0:Nat→Nat) q=0:=by dsimp only;rw [if_neg (by omega)]
theorem powW_lt {p n:Nat}{T:Nat→Nat→Nat→Nat}{uu v:Nat→Nat}(hu:∀ c,uu c<p):∀ k c,powW (timesV p n T) uu v k c<p
  | 0,c=>hu c
  | k+1,c=>Nat.mod_lt _ (by have:=hu 0;omega)
def imP (p n:Nat) (T:Nat→Nat→Nat→Nat) (uu:Nat→Nat) (K:Nat) (c r:Nat):Nat:=powW (timesV p n T) uu (fun q=>if q=c then 1 else 0) K r
theorem imP_lt {p n:Nat}{T:Nat→Nat→Nat→Nat}{uu:Nat→Nat}{K:Nat}(hu:∀ c,uu c<p):∀ i c,imP p n T uu K i c<p:=fun i c=>powW_lt hu K c
theorem spE_zero {p n:Nat}{T:Nat→Nat→Nat→Nat}{uu:Nat→Nat}{K:Nat}(hu:∀ c,uu c<p)(r c:Nat):spE p n T uu K 0 r c=imP p n T uu K c r:=by
  have h:=imP_lt (p:=p) (n:=n) (T:=T) (uu:=uu) (K:=K) hu c r
  show addN p (imP p n T uu K c) _ (-((0:Nat):Int)) r=_
  unfold addN
  rw [show (-((0:Nat):Int))=0 by rfl,Int.zero_mul,Int.add_zero,Int.emod_eq_of_lt (by omega) (by omega)]
  exact Int.toNat_natCast _
theorem nilradical_Y (p n:Nat)(T:Nat→Nat→Nat→Nat)(f:Nat→Nat)(w:World)(hp:primeN p)(hn0:0<n)(hn:n≤6)(hTp:∀ i j k,T i j k<p)(hT0:∀ i j k,n≤k→T i j k=0)(hf:∀ i,f i≤255)(uu:Nat→Nat)(huu:UnitI p n T uu)(hne:∀ k E ld,Rref p n E k ld→(∀ x,Ker p n E k x↔Ker p n (fun r c=>imP p n T uu (kkE p (nilE p n)) c r) n x)→0<nf k ld n)(hpos:∀ r V,IsKer p n (fun r c=>imP p n T uu (kkE p (nilE p n)) c r) n r V→0<r) :
    CallsR Tryz.prog 99 #[.agg (algC (p:Int) (n:Int) T f)] w (fun u w'=>∃ r V,IsKer p n (fun r c=>imP p n T uu (kkE p (nilE p n)) c r) n r V∧(∀ i,i<r→∀ c,n≤c→c<6→V i c=0)∧OwnSl 6 w r (fun c=>.int .u8 ((V (c / 6) (c%6):Nat):Int)) u w'):=by
  refine calls_fr [.agg (algC (p:Int) (n:Int) T f)] Tryz.func99 rfl Tryz.ntmps99 rfl fun a hF=>?_
  have hM:Mem w w [none,none,none,none,none] []:=MemX.start w 5
  change Fr 35 a [(0,.agg (algC (p:Int) (n:Int) T f))] at hF
  have hp2:=hp.two
  have hp13:=hp.le
  have hT:∀ i j k,T i j k≤255:=fun i j k=>by have:=hTp i j k;omega
  have hp2:=hp.two
  have hp13:=hp.le
  refine sq ?_
  refine wp_region_lit ?_
  refine stR hF (d_box 0 hM hF rfl) rfl ?_
  rintro _ w' a ⟨b1,rfl,hM,-⟩ hF
  change Mem w w' [some (b1,algC (p:Int) (n:Int) T f),none,none,none,none] [] at hM
  refine st hF (g_assign hF rfl) rfl fun a hF=>?_
  refine wpList_nil ?_
  refine tN ?_
  refine sq ?_
  refine wp_region_lit ?_
  refine st hF (g_fieldAddr ty_fo_32_0 hF rfl) rfl fun a hF=>st hF (g_load ty_on_2 hF rfl (hM.row 0 rfl) (algC_p (by omega))) rfl fun a hF=>st hF (g_assign hF rfl) rfl fun a hF=>?_
  refine wpList_nil ?_
  refine tN ?_
  refine sq ?_
  refine wp_block ?_
  change Mem w _ [some (b1,algC (p:Int) (n:Int) T f),none,none,none,none] [] at hM
  refine c_loop (fun (kk:Nat) a w'=>kk≤(nilE p n)∧(True)∧Fr 35 a [(1,ptr b1 (0)),(2,.slice none 0 0),(3,.int .i64 (((kkE p kk:Nat):Int)))]∧Mem w w' [some (b1,algC (p:Int) (n:Int) T f),none,none,none,none] []) (fun kk=>(nilE p n) - kk) 0 ?_ ?_
  ·
   refine ⟨by omega,trivial,hF.sub _ (by repeat' constructor),?_⟩
   exact hM
  ·
   clear hF hM
   rintro gi a w' ⟨hgi,hinv1,hF,hM⟩
   have hkl:=kk_lt (p:=p) (n:=n) (g:=gi) hp hn (by omega)
   have hE2:=nilE_le (p:=p) (n:=n)
   refine sq ?_
   refine sq ?_
   refine wp_region_lit ?_
   refine st hF (g_move hF rfl) rfl fun a hF=>st hF (g_fieldAddr ty_fo_32_1 hF rfl) rfl fun a hF=>st hF (g_load ty_on_2 hF rfl (hM.row 0 rfl) (algC_n (by omega))) rfl fun a hF=>st hF (g_lss hF rfl rfl) rfl fun a hF=>?_
   refine wpList_nil ?_
   refine tN ?_
   refine c_cond hF rfl (fun h2=>?_) (fun h2=>?_)
   ·
    refine wp_skip ?_
    refine tN ?_
    refine wp_block ?_
    refine wp_region_lit ?_
    refine st hF (g_move hF rfl) rfl fun a hF=>st hF (g_fieldAddr ty_fo_32_0 hF rfl) rfl fun a hF=>st hF (g_load ty_on_2 hF rfl (hM.row 0 rfl) (algC_p (by omega))) rfl fun a hF=>st hF (g_mul hF rfl rfl (show _=((kkE p (gi+1):Nat):Int) from (by rw [show (((kkE p gi:Nat):Int)*((p:Nat):Int))=((kkE p gi*p:Nat):Int) from (Int.natCast_mul _ _).symm,kk_step];have:=Nat.mul_le_mul hkl.2 hp13;have hks:=kk_step (p:=p) (g:=gi);exact wrap_i64 (by omega) (by omega)))) rfl fun a hF=>st hF (g_assign hF rfl) rfl fun a hF=>?_
    refine wpList_nil ?_
    refine iN ?_
    refine tN ?_
    refine ⟨gi+1,⟨by omega,trivial,hF.sub _ (by repeat' constructor),?_⟩,by omega⟩
    exact hM
   ·
    obtain rfl:(nilE p n)=gi:=by omega
    refine wp_exit ?_
    refine tX ?_
    refine tX ?_
    refine ib_same ?_
    refine tN ?_
    refine sq ?_
    refine wp_region_lit ?_
    refine st hF (g_assign hF rfl) rfl fun a hF=>?_
    refine wpList_nil ?_
    refine tN ?_
    refine sq ?_
    refine sq ?_
    refine wp_region_lit ?_
    refine st hF (g_loadAgg ty_ag_32 hF rfl (hM.row 0 rfl) (by simp only [fnC_size,cells_size,vecC_size,tabC_size,planeC_size,dgC_size,numC_sz,ldB_size]<;>omega) (whole cells_size)) rfl fun a hF=>?_
    refine stR hF (d_call Tryz.call63 hF (.cons rfl .nil) (basisOf_ok p n T f _ hn0 hn)) rfl ?_
    rintro u w' a ⟨hx,bB,cB,csB,hsB,hgB,hbB⟩ hF
    obtain rfl:=hsB.val
    have hM:=hM.fill hx 3 hbB hgB
    change Mem w w' [some (b1,algC (p:Int) (n:Int) T f),none,none,some (bB,csB),none] [] at hM
    refine st hF (g_len ty_us_27 hF rfl) rfl fun a hF=>st hF (g_move hF rfl) rfl fun a hF=>?_
    refine wpList_nil ?_
    refine tN ?_
    refine wp_block ?_
    change Mem w _ [some (b1,algC (p:Int) (n:Int) T f),none,none,some (bB,csB),none] [] at hM
    refine c_loop (fun (kk:Nat) a w'=>kk≤n∧(True)∧∃ (u4_2:Value) (e4_2:Option (Nat×Array Value)),Sl 6 u4_2 e4_2 (kk) (fun c=>.int .u8 (((imP p n T uu (kkE p (nilE p n))) (c / 6) (c%6):Nat):Int))∧Fr 35 a [(1,ptr b1 (0)),(2,.slice none 0 0),(3,.int .i64 (((kkE p ((nilE p n)):Nat):Int))),(9,.int .i64 (((kkE p ((nilE p n)):Nat):Int))),(10,ptr b1 (0+1)),(11,.int .i64 (((n:Nat):Int))),(12,.bool (decide ((((kkE p ((nilE p n)):Nat):Int):Int)<((n:Nat):Int)))),(17,.agg (algC (p:Int) (n:Int) T f)),(18,.slice (some ⟨bB,0,none⟩) (n) (cB)),(19,.int .i64 (((n:Nat):Int))),(20,.int .i64 (((kk:Nat):Int))),(4,u4_2)]∧Mem w w' [some (b1,algC (p:Int) (n:Int) T f),none,none,some (bB,csB),e4_2] []) (fun kk=>n - kk) 0 ?_ ?_
    ·
     refine ⟨by omega,trivial,(.slice none 0 0),(none),(Sl.nil 6 _),hF.sub _ (by repeat' constructor),?_⟩
     exact hM
    ·
     clear hF hM
     rintro gi a w' ⟨hgi,hinv2,u4_2,e4_2,hsl,hF,hM⟩
     have hv:∀ i,(fun q=>if q=gi then 1 else 0:Nat→Nat) i≤255:=eb_le
     have hkf:=(kk_lt (p:=p) (n:=n) (g:=nilE p n) hp hn (Nat.le_refl _)).2
     refine sq ?_
     refine wp_region_lit ?_
     refine st hF (g_lss hF rfl rfl) rfl fun a hF=>?_
     refine wpList_nil ?_
     refine tN ?_
     refine sq ?_
     refine c_cond hF rfl (fun h3=>?_) (fun h3=>?_)
     ·
      refine wp_skip ?_
      refine tN ?_
      refine sq ?_
      refine wp_block ?_
      refine sq ?_
      refine wp_region_lit ?_
      refine st hF (g_indexSl (i:=gi) ty_sl_27 hF rfl rfl rfl (by omega)) rfl fun a hF=>st hF (g_loadAgg ty_ag_30 hF rfl (hM.row 3 rfl) (hsB.room (gi) (by omega)) (hsB.vec0 (V:=fun i q=>if q=i then 1 else 0) (gi) (by omega))) rfl fun a hF=>?_
      refine stR hF (d_alloc 1 hM ty_ze_30) rfl ?_
      rintro _ w' a ⟨b4,rfl,hM,-⟩ hF
      change Mem w w' [some (b1,algC (p:Int) (n:Int) T f),some (b4,fnC 6 (fun _=>.int .u8 (0))),none,some (bB,csB),e4_2] [] at hM
      refine stN hF (d_storeAgg 1 hM rfl ty_sz_30 hF rfl rfl (by first | exact vecC_one | exact cells_one | (refine fnC_one fun _ _=>?_;first | rfl | (split<;>rfl))) (by simp only [fnC_size,cells_size,vecC_size,tabC_size,planeC_size,dgC_size,numC_sz,ldB_size]) (by simp only [fnC_size,cells_size,vecC_size,tabC_size,planeC_size,dgC_size,numC_sz,ldB_size]<;>omega) (splice_whole _ _ (by simp only [fnC_size,cells_size,vecC_size,tabC_size,planeC_size,dgC_size,numC_sz,ldB_size]))) ?_
      intro _ w' a hM hF
      change Mem w w' [some (b1,algC (p:Int) (n:Int) T f),some (b4,vecC (fun q=>if q=gi then 1 else 0)),none,some (bB,csB),e4_2] [] at hM
      refine wpList_nil ?_
      refine tN ?_
      refine wp_region_lit ?_
      refine st hF (g_move hF rfl) rfl fun a hF=>st hF (g_loadAgg ty_ag_32 hF rfl (hM.row 0 rfl) (by simp only [fnC_size,cells_size,vecC_size,tabC_size,planeC_size,dgC_size,numC_sz,ldB_size]<;>omega) (whole cells_size)) rfl fun a hF=>st hF (g_loadAgg ty_ag_30 hF rfl (hM.row 1 rfl) (by simp only [fnC_size,cells_size,vecC_size,tabC_size,planeC_size,dgC_size,numC_sz,ldB_size]<;>omega) (whole (by simp only [fnC_size,cells_size,vecC_size,tabC_size,planeC_size,dgC_size,numC_sz,ldB_size]))) rfl fun a hF=>st hF (g_move hF rfl) rfl fun a hF=>?_
      refine stR hF (d_call Tryz.call110 hF (.cons rfl (.cons rfl (.cons rfl .nil))) (power_ok p n T f ((fun q=>if q=gi then 1 else 0)) (kkE p ((nilE p n))) _ hp hn0 hn hTp uu huu (fun _=>by first | exact hv _ | exact hvt _ | exact hvs _ | exact hu _ | exact hT _ _ _ | exact hf _ | omega | (split<;>omega) | (dsimp only;split<;>omega) | assumption) (by omega) (unit_timesV hT0 huu (fun c _=>eb_lt hp2 c) (fun c h _=>eb_out (by omega) h)))) rfl ?_
      rintro _ w' a ⟨hx,rfl⟩ hF
      have hM:=hM.ext hx
      refine stR hF (d_buildC (vs:=[(0,.agg (vecC (powW (timesV p n T) uu ((fun q=>if q=gi then 1 else 0)) (kkE p ((nilE p n))))))]) 2 hM hF (build1 hF rfl) (fun w=>ty_bsg_27_1 (powW (timesV p n T) uu ((fun q=>if q=gi then 1 else 0)) (kkE p ((nilE p n)))) w)) rfl ?_
      rintro _ w' a ⟨b5,rfl,hM,-⟩ hF
      change Mem w w' [some (b1,algC (p:Int) (n:Int) T f),some (b4,vecC (fun q=>if q=gi then 1 else 0)),some (b5,vecsC 1 (vAtL [(powW (timesV p n T) uu ((fun q=>if q=gi then 1 else 0)) (kkE p ((nilE p n))))])),some (bB,csB),e4_2] [] at hM
      refine stR hF (d_append (k:=4) (N:=gi) (m:=1) (f:=(fun c=>.int .u8 (((imP p n T uu (kkE p (nilE p n))) (c / 6) (c%6):Nat):Int))) (g:=fun q=>.int .u8 (((((powW (timesV p n T) uu ((fun q=>if q=gi then 1 else 0)) (kkE p ((nilE p n))))) q:Nat)):Int)) ty_si_27 rfl (by decide) hM rfl hF rfl rfl hsl (fun q hq=>((hM.row 2 rfl).cell _).trans (vecs1_get q hq)) (fun _ _=>rfl) (by decide) (by unfold maxLen;omega) (by omega)) rfl ?_
      rintro u6 w' a ⟨e7,hM,hs8⟩ hF
      change Mem w w' [some (b1,algC (p:Int) (n:Int) T f),some (b4,vecC (fun q=>if q=gi then 1 else 0)),some (b5,vecsC 1 (vAtL [(powW (timesV p n T) uu ((fun q=>if q=gi then 1 else 0)) (kkE p ((nilE p n))))])),some (bB,csB),e7] [] at hM
      refine st hF (g_assign hF rfl) rfl fun a hF=>?_
      refine wpList_nil ?_
      refine iN ?_
      refine tN ?_
      refine wp_region_lit ?_
      refine st hF (g_add hF rfl rfl (add_nat (gi) (1) (by omega))) rfl fun a hF=>st hF (g_move hF rfl) rfl fun a hF=>?_
      refine wpList_nil ?_
      refine tN ?_
      have hM:=hM.drop 1
      have hM:=hM.drop 2
      refine ⟨gi+1,⟨by omega,trivial,(u6),(e7),(Sl.snoc6 (N:=gi) (F:=(fun c=>.int .u8 (((imP p n T uu (kkE p (nilE p n))) (c / 6) (c%6):Nat):Int))) (G:=fun q=>.int .u8 (((imP p n T uu (kkE p (nilE p n))) gi q:Nat):Int)) hs8 (fun q hq=>by rw [show (gi*6+q) / 6=gi by omega,show (gi*6+q)%6=q by omega])),hF.sub _ (by repeat' constructor),?_⟩,by omega⟩
      exact hM
     ·
      obtain rfl:n=gi:=by omega
      obtain ⟨bim,cim,csim,rfl,rfl,hs1⟩:=hsl.pos hn0
      have hM:=hM.freeze 4 rfl
      change Mem w _ [some (b1,algC (p:Int) (n:Int) T f),none,none,some (bB,csB),none] [(bim,csim)] at hM
      refine wp_exit ?_
      refine tX ?_
      refine tX ?_
      refine ib_same ?_
      refine tN ?_
      refine sq ?_
      refine wp_region_lit ?_
      refine st hF (g_loadAgg ty_ag_32 hF rfl (hM.row 0 rfl) (by simp only [fnC_size,cells_size,vecC_size,tabC_size,planeC_size,dgC_size,numC_sz,ldB_size]<;>omega) (whole cells_size)) rfl fun a hF=>st hF (g_move hF rfl) rfl fun a hF=>?_
      have hszc:=hM.bel.size
      refine stR hF (d_call Tryz.call112 hF (.cons rfl (.cons rfl .nil)) (kernelOfMap_Y p n T f bim cim csim (imP p n T uu (kkE p (nilE p n))) _ hp hn0 hn (imP_lt huu.small) hs1 (hM.fz 0 rfl) hne hpos)) rfl ?_
      rintro u w' a ⟨hx,r,V,hIK,hVz,hrn,hown⟩ hF
      have hown2:=ownSl_le hszc hown
      have hM:=hM.ext hx
      refine st hF (g_assign hF rfl) rfl fun a hF=>?_
      refine wpList_nil ?_
      refine tN ?_
      refine wp_ret ?_
      refine fin1 rfl hF.defers (res_tmp hF rfl) ⟨_,rfl,hM.below,?_⟩
      exact ⟨r,V,hIK,hVz,hown2⟩
theorem nilradical_Z (p n:Nat)(T:Nat→Nat→Nat→Nat)(f:Nat→Nat)(w:World)(hp:primeN p)(hn0:0<n)(hn:n≤6)(hTp:∀ i j k,T i j k<p)(hT0:∀ i j k,n≤k→T i j k=0)(hf:∀ i,f i≤255)(uu:Nat→Nat)(huu:UnitI p n T uu)(hzk:∀ k E ld,Rref p n E k ld→(∀ x,Ker p n E k x↔Ker p n (fun r c=>imP p n T uu (kkE p (nilE p n)) c r) n x)→nf k ld n=0) :
    CallsR Tryz.prog 99 #[.agg (algC (p:Int) (n:Int) T f)] w (fun res _=>res = .slice none 0 0):=by
  refine calls_fr [.agg (algC (p:Int) (n:Int) T f)] Tryz.func99 rfl Tryz.ntmps99 rfl fun a hF=>?_
  have hM:Mem w w [none,none,none,none,none] []:=MemX.start w 5
  change Fr 35 a [(0,.agg (algC (p:Int) (n:Int) T f))] at hF
  have hp2:=hp.two
  have hp13:=hp.le
  have hT:∀ i j k,T i j k≤255:=fun i j k=>by have:=hTp i j k;omega
  have hp2:=hp.two
  have hp13:=hp.le
  refine sq ?_
  refine wp_region_lit ?_
  refine stR hF (d_box 0 hM hF rfl) rfl ?_
  rintro _ w' a ⟨b1,rfl,hM,-⟩ hF
  change Mem w w' [some (b1,algC (p:Int) (n:Int) T f),none,none,none,none] [] at hM
  refine st hF (g_assign hF rfl) rfl fun a hF=>?_
  refine wpList_nil ?_
  refine tN ?_
  refine sq ?_
  refine wp_region_lit ?_
  refine st hF (g_fieldAddr ty_fo_32_0 hF rfl) rfl fun a hF=>st hF (g_load ty_on_2 hF rfl (hM.row 0 rfl) (algC_p (by omega))) rfl fun a hF=>st hF (g_assign hF rfl) rfl fun a hF=>?_
  refine wpList_nil ?_
  refine tN ?_
  refine sq ?_
  refine wp_block ?_
  change Mem w _ [some (b1,algC (p:Int) (n:Int) T f),none,none,none,none] [] at hM
  refine c_loop (fun (kk:Nat) a w'=>kk≤(nilE p n)∧(True)∧Fr 35 a [(1,ptr b1 (0)),(2,.slice none 0 0),(3,.int .i64 (((kkE p kk:Nat):Int)))]∧Mem w w' [some (b1,algC (p:Int) (n:Int) T f),none,none,none,none] []) (fun kk=>(nilE p n) - kk) 0 ?_ ?_
  ·
   refine ⟨by omega,trivial,hF.sub _ (by repeat' constructor),?_⟩
   exact hM
  ·
   clear hF hM
   rintro gi a w' ⟨hgi,hinv1,hF,hM⟩
   have hkl:=kk_lt (p:=p) (n:=n) (g:=gi) hp hn (by omega)
   have hE2:=nilE_le (p:=p) (n:=n)
   refine sq ?_
   refine sq ?_
   refine wp_region_lit ?_
   refine st hF (g_move hF rfl) rfl fun a hF=>st hF (g_fieldAddr ty_fo_32_1 hF rfl) rfl fun a hF=>st hF (g_load ty_on_2 hF rfl (hM.row 0 rfl) (algC_n (by omega))) rfl fun a hF=>st hF (g_lss hF rfl rfl) rfl fun a hF=>?_
   refine wpList_nil ?_
   refine tN ?_
   refine c_cond hF rfl (fun h2=>?_) (fun h2=>?_)
   ·
    refine wp_skip ?_
    refine tN ?_
    refine wp_block ?_
    refine wp_region_lit ?_
    refine st hF (g_move hF rfl) rfl fun a hF=>st hF (g_fieldAddr ty_fo_32_0 hF rfl) rfl fun a hF=>st hF (g_load ty_on_2 hF rfl (hM.row 0 rfl) (algC_p (by omega))) rfl fun a hF=>st hF (g_mul hF rfl rfl (show _=((kkE p (gi+1):Nat):Int) from (by rw [show (((kkE p gi:Nat):Int)*((p:Nat):Int))=((kkE p gi*p:Nat):Int) from (Int.natCast_mul _ _).symm,kk_step];have:=Nat.mul_le_mul hkl.2 hp13;have hks:=kk_step (p:=p) (g:=gi);exact wrap_i64 (by omega) (by omega)))) rfl fun a hF=>st hF (g_assign hF rfl) rfl fun a hF=>?_
    refine wpList_nil ?_
    refine iN ?_
    refine tN ?_
    refine ⟨gi+1,⟨by omega,trivial,hF.sub _ (by repeat' constructor),?_⟩,by omega⟩
    exact hM
   ·
    obtain rfl:(nilE p n)=gi:=by omega
    refine wp_exit ?_
    refine tX ?_
    refine tX ?_
    refine ib_same ?_
    refine tN ?_
    refine sq ?_
    refine wp_region_lit ?_
    refine st hF (g_assign hF rfl) rfl fun a hF=>?_
    refine wpList_nil ?_
    refine tN ?_
    refine sq ?_
    refine sq ?_
    refine wp_region_lit ?_
    refine st hF (g_loadAgg ty_ag_32 hF rfl (hM.row 0 rfl) (by simp only [fnC_size,cells_size,vecC_size,tabC_size,planeC_size,dgC_size,numC_sz,ldB_size]<;>omega) (whole cells_size)) rfl fun a hF=>?_
    refine stR hF (d_call Tryz.call63 hF (.cons rfl .nil) (basisOf_ok p n T f _ hn0 hn)) rfl ?_
    rintro u w' a ⟨hx,bB,cB,csB,hsB,hgB,hbB⟩ hF
    obtain rfl:=hsB.val
    have hM:=hM.fill hx 3 hbB hgB
    change Mem w w' [some (b1,algC (p:Int) (n:Int) T f),none,none,some (bB,csB),none] [] at hM
    refine st hF (g_len ty_us_27 hF rfl) rfl fun a hF=>st hF (g_move hF rfl) rfl fun a hF=>?_
    refine wpList_nil ?_
    refine tN ?_
    refine wp_block ?_
    change Mem w _ [some (b1,algC (p:Int) (n:Int) T f),none,none,some (bB,csB),none] [] at hM
    refine c_loop (fun (kk:Nat) a w'=>kk≤n∧(True)∧∃ (u4_2:Value) (e4_2:Option (Nat×Array Value)),Sl 6 u4_2 e4_2 (kk) (fun c=>.int .u8 (((imP p n T uu (kkE p (nilE p n))) (c / 6) (c%6):Nat):Int))∧Fr 35 a [(1,ptr b1 (0)),(2,.slice none 0 0),(3,.int .i64 (((kkE p ((nilE p n)):Nat):Int))),(9,.int .i64 (((kkE p ((nilE p n)):Nat):Int))),(10,ptr b1 (0+1)),(11,.int .i64 (((n:Nat):Int))),(12,.bool (decide ((((kkE p ((nilE p n)):Nat):Int):Int)<((n:Nat):Int)))),(17,.agg (algC (p:Int) (n:Int) T f)),(18,.slice (some ⟨bB,0,none⟩) (n) (cB)),(19,.int .i64 (((n:Nat):Int))),(20,.int .i64 (((kk:Nat):Int))),(4,u4_2)]∧Mem w w' [some (b1,algC (p:Int) (n:Int) T f),none,none,some (bB,csB),e4_2] []) (fun kk=>n - kk) 0 ?_ ?_
    ·
     refine ⟨by omega,trivial,(.slice none 0 0),(none),(Sl.nil 6 _),hF.sub _ (by repeat' constructor),?_⟩
     exact hM
    ·
     clear hF hM
     rintro gi a w' ⟨hgi,hinv2,u4_2,e4_2,hsl,hF,hM⟩
     have hv:∀ i,(fun q=>if q=gi then 1 else 0:Nat→Nat) i≤255:=eb_le
     have hkf:=(kk_lt (p:=p) (n:=n) (g:=nilE p n) hp hn (Nat.le_refl _)).2
     refine sq ?_
     refine wp_region_lit ?_
     refine st hF (g_lss hF rfl rfl) rfl fun a hF=>?_
     refine wpList_nil ?_
     refine tN ?_
     refine sq ?_
     refine c_cond hF rfl (fun h3=>?_) (fun h3=>?_)
     ·
      refine wp_skip ?_
      refine tN ?_
      refine sq ?_
      refine wp_block ?_
      refine sq ?_
      refine wp_region_lit ?_
      refine st hF (g_indexSl (i:=gi) ty_sl_27 hF rfl rfl rfl (by omega)) rfl fun a hF=>st hF (g_loadAgg ty_ag_30 hF rfl (hM.row 3 rfl) (hsB.room (gi) (by omega)) (hsB.vec0 (V:=fun i q=>if q=i then 1 else 0) (gi) (by omega))) rfl fun a hF=>?_
      refine stR hF (d_alloc 1 hM ty_ze_30) rfl ?_
      rintro _ w' a ⟨b4,rfl,hM,-⟩ hF
      change Mem w w' [some (b1,algC (p:Int) (n:Int) T f),some (b4,fnC 6 (fun _=>.int .u8 (0))),none,some (bB,csB),e4_2] [] at hM
      refine stN hF (d_storeAgg 1 hM rfl ty_sz_30 hF rfl rfl (by first | exact vecC_one | exact cells_one | (refine fnC_one fun _ _=>?_;first | rfl | (split<;>rfl))) (by simp only [fnC_size,cells_size,vecC_size,tabC_size,planeC_size,dgC_size,numC_sz,ldB_size]) (by simp only [fnC_size,cells_size,vecC_size,tabC_size,planeC_size,dgC_size,numC_sz,ldB_size]<;>omega) (splice_whole _ _ (by simp only [fnC_size,cells_size,vecC_size,tabC_size,planeC_size,dgC_size,numC_sz,ldB_size]))) ?_
      intro _ w' a hM hF
      change Mem w w' [some (b1,algC (p:Int) (n:Int) T f),some (b4,vecC (fun q=>if q=gi then 1 else 0)),none,some (bB,csB),e4_2] [] at hM
      refine wpList_nil ?_
      refine tN ?_
      refine wp_region_lit ?_
      refine st hF (g_move hF rfl) rfl fun a hF=>st hF (g_loadAgg ty_ag_32 hF rfl (hM.row 0 rfl) (by simp only [fnC_size,cells_size,vecC_size,tabC_size,planeC_size,dgC_size,numC_sz,ldB_size]<;>omega) (whole cells_size)) rfl fun a hF=>st hF (g_loadAgg ty_ag_30 hF rfl (hM.row 1 rfl) (by simp only [fnC_size,cells_size,vecC_size,tabC_size,planeC_size,dgC_size,numC_sz,ldB_size]<;>omega) (whole (by simp only [fnC_size,cells_size,vecC_size,tabC_size,planeC_size,dgC_size,numC_sz,ldB_size]))) rfl fun a hF=>st hF (g_move hF rfl) rfl fun a hF=>?_
      refine stR hF (d_call Tryz.call110 hF (.cons rfl (.cons rfl (.cons rfl .nil))) (power_ok p n T f ((fun q=>if q=gi then 1 else 0)) (kkE p ((nilE p n))) _ hp hn0 hn hTp uu huu (fun _=>by first | exact hv _ | exact hvt _ | exact hvs _ | exact hu _ | exact hT _ _ _ | exact hf _ | omega | (split<;>omega) | (dsimp only;split<;>omega) | assumption) (by omega) (unit_timesV hT0 huu (fun c _=>eb_lt hp2 c) (fun c h _=>eb_out (by omega) h)))) rfl ?_
      rintro _ w' a ⟨hx,rfl⟩ hF
      have hM:=hM.ext hx
      refine stR hF (d_buildC (vs:=[(0,.agg (vecC (powW (timesV p n T) uu ((fun q=>if q=gi then 1 else 0)) (kkE p ((nilE p n))))))]) 2 hM hF (build1 hF rfl) (fun w=>ty_bsg_27_1 (powW (timesV p n T) uu ((fun q=>if q=gi then 1 else 0)) (kkE p ((nilE p n)))) w)) rfl ?_
      rintro _ w' a ⟨b5,rfl,hM,-⟩ hF
      change Mem w w' [some (b1,algC (p:Int) (n:Int) T f),some (b4,vecC (fun q=>if q=gi then 1 else 0)),some (b5,vecsC 1 (vAtL [(powW (timesV p n T) uu ((fun q=>if q=gi then 1 else 0)) (kkE p ((nilE p n))))])),some (bB,csB),e4_2] [] at hM
      refine stR hF (d_append (k:=4) (N:=gi) (m:=1) (f:=(fun c=>.int .u8 (((imP p n T uu (kkE p (nilE p n))) (c / 6) (c%6):Nat):Int))) (g:=fun q=>.int .u8 (((((powW (timesV p n T) uu ((fun q=>if q=gi then 1 else 0)) (kkE p ((nilE p n))))) q:Nat)):Int)) ty_si_27 rfl (by decide) hM rfl hF rfl rfl hsl (fun q hq=>((hM.row 2 rfl).cell _).trans (vecs1_get q hq)) (fun _ _=>rfl) (by decide) (by unfold maxLen;omega) (by omega)) rfl ?_
      rintro u6 w' a ⟨e7,hM,hs8⟩ hF
      change Mem w w' [some (b1,algC (p:Int) (n:Int) T f),some (b4,vecC (fun q=>if q=gi then 1 else 0)),some (b5,vecsC 1 (vAtL [(powW (timesV p n T) uu ((fun q=>if q=gi then 1 else 0)) (kkE p ((nilE p n))))])),some (bB,csB),e7] [] at hM
      refine st hF (g_assign hF rfl) rfl fun a hF=>?_
      refine wpList_nil ?_
      refine iN ?_
      refine tN ?_
      refine wp_region_lit ?_
      refine st hF (g_add hF rfl rfl (add_nat (gi) (1) (by omega))) rfl fun a hF=>st hF (g_move hF rfl) rfl fun a hF=>?_
      refine wpList_nil ?_
      refine tN ?_
      have hM:=hM.drop 1
      have hM:=hM.drop 2
      refine ⟨gi+1,⟨by omega,trivial,(u6),(e7),(Sl.snoc6 (N:=gi) (F:=(fun c=>.int .u8 (((imP p n T uu (kkE p (nilE p n))) (c / 6) (c%6):Nat):Int))) (G:=fun q=>.int .u8 (((imP p n T uu (kkE p (nilE p n))) gi q:Nat):Int)) hs8 (fun q hq=>by rw [show (gi*6+q) / 6=gi by omega,show (gi*6+q)%6=q by omega])),hF.sub _ (by repeat' constructor),?_⟩,by omega⟩
      exact hM
     ·
      obtain rfl:n=gi:=by omega
      obtain ⟨bim,cim,csim,rfl,rfl,hs1⟩:=hsl.pos hn0
      have hM:=hM.freeze 4 rfl
      change Mem w _ [some (b1,algC (p:Int) (n:Int) T f),none,none,some (bB,csB),none] [(bim,csim)] at hM
      refine wp_exit ?_
      refine tX ?_
      refine tX ?_
      refine ib_same ?_
      refine tN ?_
      refine sq ?_
      refine wp_region_lit ?_
      refine st hF (g_loadAgg ty_ag_32 hF rfl (hM.row 0 rfl) (by simp only [fnC_size,cells_size,vecC_size,tabC_size,planeC_size,dgC_size,numC_sz,ldB_size]<;>omega) (whole cells_size)) rfl fun a hF=>st hF (g_move hF rfl) rfl fun a hF=>?_
      have hszc:=hM.bel.size
      refine stR hF (d_call Tryz.call112 hF (.cons rfl (.cons rfl .nil)) (kernelOfMap_Z p n T f bim cim csim (imP p n T uu (kkE p (nilE p n))) _ hp hn0 hn (imP_lt huu.small) hs1 (hM.fz 0 rfl) hzk)) rfl ?_
      rintro _ w' a ⟨hx,rfl⟩ hF
      have hM:=hM.ext hx
      refine st hF (g_assign hF rfl) rfl fun a hF=>?_
      refine wpList_nil ?_
      refine tN ?_
      refine wp_ret ?_
      refine fin1 rfl hF.defers (res_tmp hF rfl) ⟨_,rfl,hM.below,?_⟩
      show _=_
      rfl
theorem l05Nil_Y (p n:Nat)(T:Nat→Nat→Nat→Nat)(f:Nat→Nat)(w:World)(hp:primeN p)(hn0:0<n)(hn:n≤6)(hTp:∀ i j k,T i j k<p)(hT0:∀ i j k,n≤k→T i j k=0)(hf:∀ i,f i≤255)(uu:Nat→Nat)(huu:UnitI p n T uu)(hne:∀ k E ld,Rref p n E k ld→(∀ x,Ker p n E k x↔Ker p n (fun r c=>imP p n T uu (kkE p (nilE p n)) c r) n x)→0<nf k ld n)(hpos:∀ r V,IsKer p n (fun r c=>imP p n T uu (kkE p (nilE p n)) c r) n r V→0<r) :
    CallsR Tryz.prog 39 #[.agg (algC (p:Int) (n:Int) T f)] w (fun u w'=>∃ r V,IsKer p n (fun r c=>imP p n T uu (kkE p (nilE p n)) c r) n r V∧OwnSl 6 w r (fun c=>.int .u8 (((padN n V) (c / 6) (c%6):Nat):Int)) u w'):=by
  refine calls_fr [.agg (algC (p:Int) (n:Int) T f)] Tryz.func39 rfl Tryz.ntmps39 rfl fun a hF=>?_
  have hM:Mem w w [none,none] []:=MemX.start w 2
  change Fr 17 a [(0,.agg (algC (p:Int) (n:Int) T f))] at hF
  have hp2:=hp.two
  have hp13:=hp.le
  have hT:∀ i j k,T i j k≤255:=fun i j k=>by have:=hTp i j k;omega
  have hp2:=hp.two
  have hp13:=hp.le
  refine sq ?_
  refine wp_region_lit ?_
  refine stR hF (d_box 0 hM hF rfl) rfl ?_
  rintro _ w' a ⟨b1,rfl,hM,-⟩ hF
  change Mem w w' [some (b1,algC (p:Int) (n:Int) T f),none] [] at hM
  refine st hF (g_assign hF rfl) rfl fun a hF=>?_
  refine wpList_nil ?_
  refine tN ?_
  refine sq ?_
  refine wp_region_lit ?_
  refine st hF (g_fieldAddr ty_fo_32_0 hF rfl) rfl fun a hF=>st hF (g_load ty_on_2 hF rfl (hM.row 0 rfl) (algC_p (by omega))) rfl fun a hF=>st hF (g_assign hF rfl) rfl fun a hF=>?_
  refine wpList_nil ?_
  refine tN ?_
  refine sq ?_
  refine wp_block ?_
  change Mem w _ [some (b1,algC (p:Int) (n:Int) T f),none] [] at hM
  refine c_loop (fun (kk:Nat) a w'=>kk≤(nilE p n)∧(True)∧Fr 17 a [(1,ptr b1 (0)),(2,.slice none 0 0),(3,.int .i64 (((kkE p kk:Nat):Int)))]∧Mem w w' [some (b1,algC (p:Int) (n:Int) T f),none] []) (fun kk=>(nilE p n) - kk) 0 ?_ ?_
  ·
   refine ⟨by omega,trivial,hF.sub _ (by repeat' constructor),?_⟩
   exact hM
  ·
   clear hF hM
   rintro gi a w' ⟨hgi,hinv1,hF,hM⟩
   have hkl:=kk_lt (p:=p) (n:=n) (g:=gi) hp hn (by omega)
   have hE2:=nilE_le (p:=p) (n:=n)
   refine sq ?_
   refine sq ?_
   refine wp_region_lit ?_
   refine st hF (g_move hF rfl) rfl fun a hF=>st hF (g_fieldAddr ty_fo_32_1 hF rfl) rfl fun a hF=>st hF (g_load ty_on_2 hF rfl (hM.row 0 rfl) (algC_n (by omega))) rfl fun a hF=>st hF (g_lss hF rfl rfl) rfl fun a hF=>?_
   refine wpList_nil ?_
   refine tN ?_
   refine c_cond hF rfl (fun h2=>?_) (fun h2=>?_)
   ·
    refine wp_skip ?_
    refine tN ?_
    refine wp_block ?_
    refine wp_region_lit ?_
    refine st hF (g_move hF rfl) rfl fun a hF=>st hF (g_fieldAddr ty_fo_32_0 hF rfl) rfl fun a hF=>st hF (g_load ty_on_2 hF rfl (hM.row 0 rfl) (algC_p (by omega))) rfl fun a hF=>st hF (g_mul hF rfl rfl (show _=((kkE p (gi+1):Nat):Int) from (by rw [show (((kkE p gi:Nat):Int)*((p:Nat):Int))=((kkE p gi*p:Nat):Int) from (Int.natCast_mul _ _).symm,kk_step];have:=Nat.mul_le_mul hkl.2 hp13;have hks:=kk_step (p:=p) (g:=gi);exact wrap_i64 (by omega) (by omega)))) rfl fun a hF=>st hF (g_assign hF rfl) rfl fun a hF=>?_
    refine wpList_nil ?_
    refine iN ?_
    refine tN ?_
    refine ⟨gi+1,⟨by omega,trivial,hF.sub _ (by repeat' constructor),?_⟩,by omega⟩
    exact hM
   ·
    obtain rfl:(nilE p n)=gi:=by omega
    refine wp_exit ?_
    refine tX ?_
    refine tX ?_
    refine ib_same ?_
    refine tN ?_
    refine sq ?_
    refine wp_region_lit ?_
    refine st hF (g_loadAgg ty_ag_32 hF rfl (hM.row 0 rfl) (by simp only [fnC_size,cells_size,vecC_size,tabC_size,planeC_size,dgC_size,numC_sz,ldB_size]<;>omega) (whole cells_size)) rfl fun a hF=>st hF (g_move hF rfl) rfl fun a hF=>?_
    have hszc:=hM.bel.size
    refine stR hF (d_call Tryz.call67 hF (.cons rfl (.cons rfl (.cons rfl .nil))) (l05Space_Y p n T f (kkE p (nilE p n)) 0 _ hp hn0 hn hTp hT0 hf uu huu (by have:=(kk_lt (p:=p) (n:=n) (g:=nilE p n) hp hn (Nat.le_refl _)).2;omega) (by omega) (fun k E ld h1 h2=>hne k E ld h1 (fun x=>(h2 x).trans (ker_same (fun i _ c _=>spE_zero huu.small i c)))) (fun r V h1=>hpos r V (isKer_same (fun i _ c _=>spE_zero huu.small i c) h1)))) rfl ?_
    rintro u w' a ⟨hx,r,V,hIK,hown⟩ hF
    have hown2:=ownSl_le hszc hown
    have hM:=hM.ext hx
    refine st hF (g_assign hF rfl) rfl fun a hF=>?_
    refine wpList_nil ?_
    refine tN ?_
    refine wp_ret ?_
    refine fin1 rfl hF.defers (res_tmp hF rfl) ⟨_,rfl,hM.below,?_⟩
    exact ⟨r,V,isKer_same (fun i _ c _=>spE_zero huu.small i c) hIK,hown2⟩
theorem l05Nil_Z (p n:Nat)(T:Nat→Nat→Nat→Nat)(f:Nat→Nat)(w:World)(hp:primeN p)(hn0:0<n)(hn:n≤6)(hTp:∀ i j k,T i j k<p)(hT0:∀ i j k,n≤k→T i j k=0)(hf:∀ i,f i≤255)(uu:Nat→Nat)(huu:UnitI p n T uu)(hzk:∀ k E ld,Rref p n E k ld→(∀ x,Ker p n E k x↔Ker p n (fun r c=>imP p n T uu (kkE p (nilE p n)) c r) n x)→nf k ld n=0) :
    CallsR Tryz.prog 39 #[.agg (algC (p:Int) (n:Int) T f)] w (fun u w'=>∃ b,u = .slice (some ⟨b,0,none⟩) 0 0∧w.heap.size≤b∧Blk w' b #[]):=by
  refine calls_fr [.agg (algC (p:Int) (n:Int) T f)] Tryz.func39 rfl Tryz.ntmps39 rfl fun a hF=>?_
  have hM:Mem w w [none,none] []:=MemX.start w 2
  change Fr 17 a [(0,.agg (algC (p:Int) (n:Int) T f))] at hF
  have hp2:=hp.two
  have hp13:=hp.le
  have hT:∀ i j k,T i j k≤255:=fun i j k=>by have:=hTp i j k;omega
  have hp2:=hp.two
  have hp13:=hp.le
  refine sq ?_
  refine wp_region_lit ?_
  refine stR hF (d_box 0 hM hF rfl) rfl ?_
  rintro _ w' a ⟨b1,rfl,hM,-⟩ hF
  change Mem w w' [some (b1,algC (p:Int) (n:Int) T f),none] [] at hM
  refine st hF (g_assign hF rfl) rfl fun a hF=>?_
  refine wpList_nil ?_
  refine tN ?_
  refine sq ?_
  refine wp_region_lit ?_
  refine st hF (g_fieldAddr ty_fo_32_0 hF rfl) rfl fun a hF=>st hF (g_load ty_on_2 hF rfl (hM.row 0 rfl) (algC_p (by omega))) rfl fun a hF=>st hF (g_assign hF rfl) rfl fun a hF=>?_
  refine wpList_nil ?_
  refine tN ?_
  refine sq ?_
  refine wp_block ?_
  change Mem w _ [some (b1,algC (p:Int) (n:Int) T f),none] [] at hM
  refine c_loop (fun (kk:Nat) a w'=>kk≤(nilE p n)∧(True)∧Fr 17 a [(1,ptr b1 (0)),(2,.slice none 0 0),(3,.int .i64 (((kkE p kk:Nat):Int)))]∧Mem w w' [some (b1,algC (p:Int) (n:Int) T f),none] []) (fun kk=>(nilE p n) - kk) 0 ?_ ?_
  ·
   refine ⟨by omega,trivial,hF.sub _ (by repeat' constructor),?_⟩
   exact hM
  ·
   clear hF hM
   rintro gi a w' ⟨hgi,hinv1,hF,hM⟩
   have hkl:=kk_lt (p:=p) (n:=n) (g:=gi) hp hn (by omega)
   have hE2:=nilE_le (p:=p) (n:=n)
   refine sq ?_
   refine sq ?_
   refine wp_region_lit ?_
   refine st hF (g_move hF rfl) rfl fun a hF=>st hF (g_fieldAddr ty_fo_32_1 hF rfl) rfl fun a hF=>st hF (g_load ty_on_2 hF rfl (hM.row 0 rfl) (algC_n (by omega))) rfl fun a hF=>st hF (g_lss hF rfl rfl) rfl fun a hF=>?_
   refine wpList_nil ?_
   refine tN ?_
   refine c_cond hF rfl (fun h2=>?_) (fun h2=>?_)
   ·
    refine wp_skip ?_
    refine tN ?_
    refine wp_block ?_
    refine wp_region_lit ?_
    refine st hF (g_move hF rfl) rfl fun a hF=>st hF (g_fieldAddr ty_fo_32_0 hF rfl) rfl fun a hF=>st hF (g_load ty_on_2 hF rfl (hM.row 0 rfl) (algC_p (by omega))) rfl fun a hF=>st hF (g_mul hF rfl rfl (show _=((kkE p (gi+1):Nat):Int) from (by rw [show (((kkE p gi:Nat):Int)*((p:Nat):Int))=((kkE p gi*p:Nat):Int) from (Int.natCast_mul _ _).symm,kk_step];have:=Nat.mul_le_mul hkl.2 hp13;have hks:=kk_step (p:=p) (g:=gi);exact wrap_i64 (by omega) (by omega)))) rfl fun a hF=>st hF (g_assign hF rfl) rfl fun a hF=>?_
    refine wpList_nil ?_
    refine iN ?_
    refine tN ?_
    refine ⟨gi+1,⟨by omega,trivial,hF.sub _ (by repeat' constructor),?_⟩,by omega⟩
    exact hM
   ·
    obtain rfl:(nilE p n)=gi:=by omega
    refine wp_exit ?_
    refine tX ?_
    refine tX ?_
    refine ib_same ?_
    refine tN ?_
    refine sq ?_
    refine wp_region_lit ?_
    refine st hF (g_loadAgg ty_ag_32 hF rfl (hM.row 0 rfl) (by simp only [fnC_size,cells_size,vecC_size,tabC_size,planeC_size,dgC_size,numC_sz,ldB_size]<;>omega) (whole cells_size)) rfl fun a hF=>st hF (g_move hF rfl) rfl fun a hF=>?_
    refine stR hF (d_call Tryz.call67 hF (.cons rfl (.cons rfl (.cons rfl .nil))) (l05Space_Z p n T f (kkE p (nilE p n)) 0 _ hp hn0 hn hTp hT0 hf uu huu (by have:=(kk_lt (p:=p) (n:=n) (g:=nilE p n) hp hn (Nat.le_refl _)).2;omega) (by omega) (fun k E ld h1 h2=>hzk k E ld h1 (fun x=>(h2 x).trans (ker_same (fun i _ c _=>spE_zero huu.small i c)))))) rfl ?_
    rintro _ w' a ⟨hx,b3,rfl,hge,hbk⟩ hF
    have hM:=hM.fill hx 1 hbk hge
    change Mem w w' [some (b1,algC (p:Int) (n:Int) T f),some (b3,#[])] [] at hM
    refine st hF (g_assign hF rfl) rfl fun a hF=>?_
    refine wpList_nil ?_
    refine tN ?_
    refine wp_ret ?_
    refine fin1 rfl hF.defers (res_tmp hF rfl) ⟨_,rfl,hM.below,?_⟩
    exact ⟨_,rfl,hM.ge 1 rfl,hM.row 1 rfl⟩
end Go.Proofs.YtbeodbfbfbefkaaGreatDoor
namespace Go.Proofs.YtbeodbfbfbefkaaGreatDoor
open Go Go.RowKit Go.Sw Go.Ech
open Classical
theorem ty_um_95:Tryz.prog.underlying 95=some (.map 32 4):=by kernel_rfl
theorem ty_ze_4:zeroP Tryz.prog 4=some (.bool (false)):=by kernel_rfl
theorem keyAlg:WideMaps.KeyLaw Tryz.prog 32:=deep_law (m:=8) (by decide) (by kernel_rfl) (by kernel_rfl) (by kernel_rfl)
theorem keyLeafs:leafs Tryz.prog (Tryz.prog.types.size+1) 32 (.i64::.i64::List.replicate 222 .u8)=true:=by kernel_rfl
theorem keyType32:Tryz.prog.keyType 32=true:=by kernel_rfl
theorem keyCells:Tryz.prog.cellsOf 32=224:=by kernel_rfl
theorem keyWide:wideB Tryz.prog 32=true:=by kernel_rfl
theorem keyLit {p n:Nat}{T:Nat→Nat→Nat→Nat}{f:Nat→Nat}(hp:p<1000)(hn:n<1000)(hT:∀ i j k,T i j k≤255)(hf:∀ i,f i≤255):∃ l,keyOf Tryz.prog 32 (.agg (algC (p:Int) (n:Int) T f))=some l:=
  keyOf_leafs keyWide keyType32 keyLeafs (by rw [keyCells,List.length_cons,List.length_cons,List.length_replicate]) (leafy_alg (by omega) (by omega) hT hf)
theorem keyEq {p n:Int}{T:Nat→Nat→Nat→Nat}{f:Nat→Nat}:Value.agg (algC p n T f)=Value.agg (algC p n (trT T) f)↔eqT T (trT T):=by
  constructor
  · intro h i hi j hj k hk
    have h1:=congrArg (fun v:Value=>match v with | .agg c=>c[2+i*36+j*6+k]? | _=>none) h
    dsimp only at h1
    rw [algC_T i j k rfl hi hj hk,algC_T i j k rfl hi hj hk] at h1
    have h2:=Option.some.inj h1
    injection h2 with _ h3
    exact Int.ofNat.inj h3
  · intro h
    exact congrArg Value.agg (algC_congr fun i hi j hj k hk=>h i hi j hj k hk)
theorem gives_ite {P:Program}{q:Prop}[Decidable q]{o:Oper}{a:Act}{w:World}(h:Gives P o a w (if q then .bool true else .bool false)):Gives P o a w (.bool (decide q)):=by
  by_cases e:q
  · rw [if_pos e] at h;rw [decide_eq_true e];exact h
  · rw [if_neg e] at h;rw [decide_eq_false e];exact h
theorem isOwnOpposite_ok (p n:Nat)(T:Nat→Nat→Nat→Nat)(f:Nat→Nat)(w:World)(hp2:p<1000)(hn2:n<1000)(hT:∀ i j k,T i j k≤255)(hf:∀ i,f i≤255) :
    CallsR Tryz.prog 59 #[.agg (algC (p:Int) (n:Int) T f)] w (fun res _=>res = .bool (decide (eqT T (trT T)))):=by
  refine calls_fr [.agg (algC (p:Int) (n:Int) T f)] Tryz.func59 rfl Tryz.ntmps59 rfl fun a hF=>?_
  have hM:Mem w w [none] []:=MemX.start w 1
  change Fr 11 a [(0,.agg (algC (p:Int) (n:Int) T f))] at hF
  refine sq ?_
  refine wp_region_lit ?_
  refine stR hF (d_box 0 hM hF rfl) rfl ?_
  rintro _ w' a ⟨b1,rfl,hM,-⟩ hF
  change Mem w w' [some (b1,algC (p:Int) (n:Int) T f)] [] at hM
  refine st hF (g_assign hF rfl) rfl fun a hF=>?_
  refine wpList_nil ?_
  refine tN ?_
  refine sq ?_
  refine wp_region_lit ?_
  refine stR hF (d_makeMap hM) rfl ?_
  rintro _ w' a ⟨bm2,rfl,hM,hgebm2,hisbm2⟩ hF
  change Mem w w' [some (b1,algC (p:Int) (n:Int) T f)] [] at hM
  refine st hF (g_loadAgg ty_ag_32 hF rfl (hM.row 0 rfl) (by simp only [fnC_size,cells_size,vecC_size,tabC_size,planeC_size,dgC_size,numC_sz,ldB_size]<;>omega) (whole cells_size)) rfl fun a hF=>?_
  obtain ⟨lkbm2,hlkbm2⟩:=keyLit (p:=p) (n:=n) (T:=T) (f:=f) (by omega) (by omega) hT hf
  refine stN hF (d_insert keyAlg ty_um_95 hM hisbm2 hgebm2 hF rfl rfl rfl hlkbm2) ?_
  rintro _ w' a ⟨hM,hisbm2⟩ hF
  change Mem w w' [some (b1,algC (p:Int) (n:Int) T f)] [] at hM
  refine st hF (g_move hF rfl) rfl fun a hF=>st hF (g_assign hF rfl) rfl fun a hF=>?_
  refine wpList_nil ?_
  refine tN ?_
  refine sq ?_
  refine wp_region_lit ?_
  refine st hF (g_move hF rfl) rfl fun a hF=>st hF (g_loadAgg ty_ag_32 hF rfl (hM.row 0 rfl) (by simp only [fnC_size,cells_size,vecC_size,tabC_size,planeC_size,dgC_size,numC_sz,ldB_size]<;>omega) (whole cells_size)) rfl fun a hF=>?_
  refine stR hF (d_call Tryz.call89 hF (.cons rfl .nil) (oppositeTo_ok (p:Int) (n:Int) T f _)) rfl ?_
  rintro _ w' a ⟨hx,rfl⟩ hF
  have hM:=hM.ext hx
  have hisbm2:=hisbm2.ext hx
  refine st hF (gives_ite (g_lookup1 (p:=eqT T (trT T)) (z0:=.bool (false)) keyAlg ty_um_95 ty_ze_4 hisbm2 hF rfl rfl (keyLit (by omega) (by omega) (fun i j k=>hT j i k) hf).choose_spec hlkbm2 keyEq)) rfl fun a hF=>st hF (g_assign hF rfl) rfl fun a hF=>?_
  refine wpList_nil ?_
  refine tN ?_
  refine wp_ret ?_
  refine fin1 rfl hF.defers (res_tmp hF rfl) ⟨_,rfl,hM.below,?_⟩
  show _=_
  rfl
end Go.Proofs.YtbeodbfbfbefkaaGreatDoor
namespace Go.Proofs.YtbeodbfbfbefkaaGreatDoor
open Go Go.RowKit Go.Sw Go.Ech
open Classical
theorem ty_ze_2:zeroP Tryz.prog 2=some (.int .i64 (0)):=by kernel_rfl
theorem ty_on_54:oneP Tryz.prog 54=true:=by kernel_rfl
end Go.Proofs.YtbeodbfbfbefkaaGreatDoor
namespace Go.Proofs
open Go.Shelf
def Tryz.lays125_ren:Go.Shelf.Ren:=⟨fun | 125=>114 | 128=>128 | 129=>129 | n=>n,fun | 46=>116 | 3=>3 | 51=>132 | 53=>134 | 4=>4 | 5=>5 | 9=>9 | n=>n,fun | n=>n⟩
theorem Tryz.lays125:Go.Proofs.Lays.n125 Tryz.prog Tryz.lays125_ren:={
  mixed:=by kernel_rfl
  f125:=Tryz.func114.trans (congrArg some (by kernel_rfl))
  f128:=Tryz.func128.trans (congrArg some (by kernel_rfl))
  f129:=Tryz.func129.trans (congrArg some (by kernel_rfl))
  t3:=Tryz.underlying3
  a3:=Tryz.isAgg3
  z3:=Tryz.sizeOf3
  v3:=Tryz.zeroValue3
  t4:=Tryz.underlying4
  a4:=Tryz.isAgg4
  z4:=Tryz.sizeOf4
  v4:=Tryz.zeroValue4
  t5:=Tryz.underlying5
  a5:=Tryz.isAgg5
  z5:=Tryz.sizeOf5
  v5:=Tryz.zeroValue5
  t9:=Tryz.underlying9
  a9:=Tryz.isAgg9
  z9:=Tryz.sizeOf9
  v9:=Tryz.zeroValue9
  t46:=Tryz.underlying116
  a46:=Tryz.isAgg116
  z46:=Tryz.sizeOf116
  v46:=Tryz.zeroValue116
  t51:=Tryz.underlying132
  a51:=Tryz.isAgg132
  z51:=Tryz.sizeOf132
  v51:=Tryz.zeroValue132
  t53:=Tryz.underlying134
  a53:=Tryz.isAgg134
  z53:=Tryz.sizeOf134
  v53:=Tryz.zeroValue134 }
theorem Tryz.bits_Len (x:Int)(w:World)(h0:0≤x)(h1:x≤18446744073709551615) :
    Calls Tryz.prog 114 #[.int .u64 x] w fun e w'=>e = .returned (.int .i64 (Lib.bitLen x.toNat))∧w'=w:=Any.bits_Len Tryz.lays125 x w h0 h1
end Go.Proofs
