import Derived.Test.YtmlnjicajdbjlaaGreatDoorZ7
import Derived.Test.YtmlnjicajdbjlaaGreatDoorSw47
import Derived.Test.YtmlnjicajdbjlaaGreatDoorSw10
set_option linter.unusedVariables false
set_option linter.unusedSimpArgs false
namespace Go.Proofs.YtmlnjicajdbjlaaGreatDoor
open Go Go.RowKit Go.Sw Go.Ech
open Classical
theorem sl_one {b:Nat}{uu:Nat→Nat}:Sl 6 (.slice (some ⟨b,0,none⟩) 1 1) (some (b,vecsC 1 (vAtL [uu]))) 1 (fun c=>.int .u8 ((gz [uu] (c / 6) (c%6):Nat):Int)):=
  .inr ⟨b,1,vecsC 1 (vAtL [uu]),rfl,rfl,Nat.le_refl _,by unfold maxLen;omega,fnC_size _ _,fun i hi=>by
    unfold vecsC
    rw [fnC_get (by omega),show i / 6=0 by omega];rfl⟩
theorem rowV_slat {u:Value}{e:Option (Nat×Array Value)}{N b cap:Nat}{cs:Array Value}{f:Nat→Value}(D:Nat→Nat→Nat)(h:SlAt 6 u e N b cap cs f):SlAt 6 u (some (b,rowV cs N D)) N b cap (rowV cs N D) (fun c=>.int .u8 (D (c / 6) (c%6):Int)):=
  ⟨h.val,rfl,h.le,h.max,by rw [rowV_size];exact h.sz,fun i hi=>rowV_get (by have:=h.sz;have:=h.le;omega) hi⟩
theorem prL_pad {p n:Nat}{T:Nat→Nat→Nat→Nat}{uu:Nat→Nat}{V:Nat→Nat→Nat}(k:Nat):prL p n T uu (padN n V) k=prL p n T uu V k:=prL_cong k fun i _ c hc=>if_pos hc
theorem prL_succ {p n:Nat}{T:Nat→Nat→Nat→Nat}{uu:Nat→Nat}{V:Nat→Nat→Nat}(k:Nat):spL p n T uu (V k) (prL p n T uu V k)=prL p n T uu V (k+1):=rfl
theorem prL_invP {p n r:Nat}{T:Nat→Nat→Nat→Nat}{uu:Nat→Nat}{V:Nat→Nat→Nat}(hp:primeN p)(hn0:0<n)(hn6:n≤6)(ha:AssI p n T)(hk:ComI n T)(hT0:∀ i j k,n≤k→T i j k=0)(hu:UnitI p n T uu)(hV:IsKer p n (spE p n T uu p 1) n r V)(k:Nat)(h:k≤r):InvA p n T (prL p n T uu (padN n V) k):=by
  rw [prL_pad];exact prL_inv hp hn0 hn6 ha hk hT0 hu hV k h
theorem pad_le {p n m r:Nat}{M V:Nat→Nat→Nat}(hp13:p≤13)(h:IsKer p n M m r V){i:Nat}(hi:i<r):∀ c,padN n V i c≤255:=fun c=>by
  unfold padN;split
  · have:=row_lt h hi (by assumption);omega
  · omega
theorem gz_le {p n:Nat}{T:Nat→Nat→Nat→Nat}{A:List (Nat→Nat)}(hp13:p≤13)(h:InvA p n T A):∀ k c,gz A k c≤255:=fun k c=>by
  by_cases e:k<A.length
  · have h1:A.getD k zv∈A:=getD_mem e
    have:=(h.rv _ h1).1 c
    unfold gz;omega
  · unfold gz;rw [List.getD_eq_getElem?_getD,List.getElem?_eq_none (by omega)];exact Nat.zero_le _
theorem gz_dst {p n:Nat}{T:Nat→Nat→Nat→Nat}{A:List (Nat→Nat)}(hn:n≤6)(hk:ComI n T)(h:InvA p n T A):Dst (gz A) A.length:=by
  have key:∀ a b,a<b→b<A.length→¬ ∀ c,c<6→gz A a c=gz A b c:=fun a b hab hb he=>by
    have h1:=List.pairwise_iff_getElem.1 h.orth a b (by omega) hb hab;have ha:gz A a=A[a]:=by unfold gz;rw [List.getD_eq_getElem?_getD,List.getElem?_eq_getElem (show a<A.length by omega)];rfl
    have hb':gz A b=A[b]:=by unfold gz;rw [List.getD_eq_getElem?_getD,List.getElem?_eq_getElem hb];rfl
    rw [ha,hb'] at he;have hm:A[a]∈A:=List.getElem_mem _;have h2:EqP p n (ci A[b]) (ci A[a]):=fun c hc=>by unfold ci;rw [he c (by omega),Int.sub_self];exact ⟨0,by simp⟩
    have h3:=(h.idem _ hm).symm.trans ((EqP.mul (EqP.refl _) h2.symm).trans h1);obtain ⟨c,hc,hz⟩:=nz_ex hn (h.rv _ hm) (h.nz _ hm);have h4:=h3 c hc;rw [Int.sub_zero] at h4;exact hz (Nat.eq_zero_of_dvd_of_lt (Int.natCast_dvd_natCast.1 h4) ((h.rv _ hm).1 c))
  intro a ha b hb hne
  rcases Nat.lt_or_ge a b with e | e
  · exact key a b e hb
  · exact fun he=>key b a (by omega) ha (fun c hc=>(he c hc).symm)
theorem primitiveIdempotents_ok (p n:Nat)(T:Nat→Nat→Nat→Nat)(f:Nat→Nat)(w:World)(hp:primeN p)(hn0:0<n)(hn:n≤6)(hTp:∀ i j k,T i j k<p)(hT0:∀ i j k,n≤k→T i j k=0)(hf:∀ i,f i≤255)(uu:Nat→Nat)(huu:UnitI p n T uu)(haI:AssI p n T)(hkI:ComI n T) :
    CallsR Tryz.prog 66 #[.agg (algC (p:Int) (n:Int) T f)] w (fun u w'=>∃ rF VF,IsKer p n (spE p n T uu p 1) n rF VF∧OwnSl 6 w (prL p n T uu (padN n VF) rF).length (fun c=>.int .u8 (((srt (gz (prL p n T uu (padN n VF) rF)) (prL p n T uu (padN n VF) rF).length) (c / 6) (c%6):Nat):Int)) u w'):=by
  refine calls_fr [.agg (algC (p:Int) (n:Int) T f)] Tryz.func66 rfl Tryz.ntmps66 rfl fun a hF=>?_;have hM:Mem w w [none,none,none,none,none] []:=MemX.start w 5;change Fr 30 a [(0,.agg (algC (p:Int) (n:Int) T f))] at hF;have hp2:=hp.two;have hp13:=hp.le;have hT:∀ i j k,T i j k≤255:=fun i j k=>by have:=hTp i j k;omega
  have hp2:=hp.two;have hp13:=hp.le;refine sr<|stR hF (d_box 0 hM hF rfl) rfl ?_;rintro _ w' a ⟨b1,rfl,hM,-⟩ hF;change Mem w w' [some (b1,algC (p:Int) (n:Int) T f),none,none,none,none] [] at hM;refine ag hF rfl rfl fun a hF=>ns<|st hF (g_loadAgg ty_ag_32 hF rfl (hM.row 0 rfl) (by simp only [sz0,dgC_size,numC_sz,ldB_size,rowV_size]<;>omega) (whole cells_size)) rfl fun a hF=>stR hF (d_call Tryz.call82 hF (.cons rfl .nil) (findUnit_u p n T f uu _ hp hn0 hn hTp huu)) rfl ?_;rintro _ w' a ⟨hx,rfl⟩ hF;have hM:=hM.ext hx;refine mv hF rfl rfl fun a hF=>st hF (g_extract hF rfl rfl) rfl fun a hF=>st hF (g_extract hF rfl rfl) rfl fun a hF=>stR hF (d_alloc 1 hM ty_ze_30) rfl ?_;rintro _ w' a ⟨b2,rfl,hM,-⟩ hF;change Mem w w' [some (b1,algC (p:Int) (n:Int) T f),some (b2,fnC 6 (fun _=>.int .u8 (0))),none,none,none] [] at hM;refine stN hF (d_storeAgg 1 hM rfl ty_sz_30 hF rfl rfl (by first | exact vecC_one | exact cells_one | (refine fnC_one fun _ _=>?_;first | rfl | (split<;>rfl))) (by simp only [sz0,dgC_size,numC_sz,ldB_size,rowV_size]) (by simp only [sz0,dgC_size,numC_sz,ldB_size,rowV_size]<;>omega) (splice_whole _ _ (by simp only [sz0,dgC_size,numC_sz,ldB_size,rowV_size]))) ?_;intro _ w' a hM hF;change Mem w w' [some (b1,algC (p:Int) (n:Int) T f),some (b2,vecC uu),none,none,none] [] at hM;refine ag hF rfl rfl fun a hF=>ns<|st hF (g_loadAgg ty_ag_30 hF rfl (hM.row 1 rfl) (by simp only [sz0,dgC_size,numC_sz,ldB_size,rowV_size]<;>omega) (whole (by simp only [sz0,dgC_size,numC_sz,ldB_size,rowV_size]))) rfl fun a hF=>stR hF (d_buildC (vs:=[(0,.agg (vecC uu))]) 2 hM hF (build1 hF rfl) (fun w=>ty_bsg_27_1 uu w)) rfl ?_;rintro _ w' a ⟨b3,rfl,hM,-⟩ hF;change Mem w w' [some (b1,algC (p:Int) (n:Int) T f),some (b2,vecC uu),some (b3,vecsC 1 (vAtL [uu])),none,none] [] at hM;refine ag hF rfl rfl fun a hF=>nt<|sq<|sr<|st hF (g_loadAgg ty_ag_32 hF rfl (hM.row 0 rfl) (by simp only [sz0,dgC_size,numC_sz,ldB_size,rowV_size]<;>omega) (whole cells_size)) rfl fun a hF=>stR hF (d_call Tryz.call96 hF (.cons rfl .nil) (fixedVectors_ok p n T f _ hp hn0 hn hTp hT0 hf uu huu haI hkI)) rfl ?_;rintro u w' a ⟨hx,rF,VF,hIK,hVz,hrn,hr0,bF,cF,csF,hsF,hgF,hbF⟩ hF;obtain rfl:=hsF.val;have hM:=hM.fill hx 4 hbF hgF;have hsF:=hsF.congr (g:=(fun c=>.int .u8 (((padN n VF) (c / 6) (c%6):Nat):Int))) (fun i hi=>by
    show Value.int .u8 (VF (i / 6) (i%6):Int) = .int .u8 (padN n VF (i / 6) (i%6):Int)
    unfold padN;split
    · rfl
    · rw [hVz (i / 6) (by omega) (i%6) (by omega) (by omega)])
  refine st hF (g_len ty_us_27 hF rfl) rfl fun a hF=>mv hF rfl rfl fun a hF=>nt<|wp_block ?_;change Mem w _ [some (b1,algC (p:Int) (n:Int) T f),some (b2,vecC uu),some (b3,vecsC 1 (vAtL [uu])),none,some (bF,csF)] [] at hM;refine c_loop (fun (kk:Nat) a w'=>kk≤rF∧(True)∧∃ (u5_1:Value) (e5_1:Option (Nat×Array Value)),Sl 6 u5_1 e5_1 ((prL p n T uu (padN n VF) kk).length) (fun c=>.int .u8 (((gz (prL p n T uu (padN n VF) kk)) (c / 6) (c%6):Nat):Int))∧Fr 30 a [(1,ptr b1 (0)),(2,.slice none 0 0),(16,.slice (some ⟨bF,0,none⟩) rF cF),(17,.int .i64 (rF:Int)),(18,.int .i64 (kk:Int)),(5,u5_1)]∧Mem w w' [some (b1,algC (p:Int) (n:Int) T f),some (b2,vecC uu),e5_1,none,some (bF,csF)] []) (fun kk=>rF - kk) 0 ?_ ?_
  · refine ⟨by omega,trivial,(.slice (some ⟨b3,0,none⟩) 1 1),(some (b3,vecsC 1 (vAtL [uu]))),sl_one,hF.sub _ (by repeat' constructor),?_⟩
    exact hM
  clear hF hM;rintro gi a w' ⟨hgi,hinv1,u5_1,e5_1,hsl,hF,hM⟩;have hInv:InvA p n T (prL p n T uu (padN n VF) gi):=prL_invP hp hn0 hn haI hkI hT0 huu hIK gi hgi;have hAp:0<(prL p n T uu (padN n VF) gi).length:=List.length_pos_iff.2 hInv.ne;have hpos4:gi<rF→0<(spL p n T uu ((padN n VF) gi) (prL p n T uu (padN n VF) gi)).length:=fun h=>by rw [prL_succ];exact List.length_pos_iff.2 (prL_invP hp hn0 hn haI hkI hT0 huu hIK (gi+1) h).ne
  refine sr<|st hF (g_lss hF rfl rfl) rfl fun a hF=>nt<|sq<|c_cond hF rfl (fun h4=>?_) (fun h4=>?_)
  · refine wp_skip ?_
    refine tN<|sq<|wp_block<|sr<|st hF (g_indexSl (i:=gi) ty_sl_27 hF rfl rfl rfl (by omega)) rfl fun a hF=>st hF (g_loadAgg ty_ag_30 hF rfl (hM.row 4 rfl) (hsF.room (gi) (by omega)) (hsF.vec0 (V:=(padN n VF)) (gi) (by omega))) rfl fun a hF=>stR hF (d_alloc 3 hM ty_ze_30) rfl ?_;rintro _ w' a ⟨b5,rfl,hM,-⟩ hF;change Mem w w' [some (b1,algC (p:Int) (n:Int) T f),some (b2,vecC uu),e5_1,some (b5,fnC 6 (fun _=>.int .u8 (0))),some (bF,csF)] [] at hM;refine stN hF (d_storeAgg 3 hM rfl ty_sz_30 hF rfl rfl (by first | exact vecC_one | exact cells_one | (refine fnC_one fun _ _=>?_;first | rfl | (split<;>rfl))) (by simp only [sz0,dgC_size,numC_sz,ldB_size,rowV_size]) (by simp only [sz0,dgC_size,numC_sz,ldB_size,rowV_size]<;>omega) (splice_whole _ _ (by simp only [sz0,dgC_size,numC_sz,ldB_size,rowV_size]))) ?_;intro _ w' a hM hF;change Mem w w' [some (b1,algC (p:Int) (n:Int) T f),some (b2,vecC uu),e5_1,some (b5,vecC ((padN n VF) (gi))),some (bF,csF)] [] at hM;refine nt<|wp_region_lit<|st hF (g_loadAgg ty_ag_32 hF rfl (hM.row 0 rfl) (by simp only [sz0,dgC_size,numC_sz,ldB_size,rowV_size]<;>omega) (whole cells_size)) rfl fun a hF=>mv hF rfl rfl fun a hF=>st hF (g_loadAgg ty_ag_30 hF rfl (hM.row 3 rfl) (by simp only [sz0,dgC_size,numC_sz,ldB_size,rowV_size]<;>omega) (whole (by simp only [sz0,dgC_size,numC_sz,ldB_size,rowV_size]))) rfl fun a hF=>?_;obtain ⟨bA,cA,csA,rfl,rfl,hsA⟩:=(hsl).pos hAp;change Mem w _ [some (b1,algC (p:Int) (n:Int) T f),some (b2,vecC uu),some (bA,csA),some (b5,vecC ((padN n VF) (gi))),some (bF,csF)] [] at hM;have hM0:=hM;refine stR hF (d_call Tryz.call97 hF (.cons rfl (.cons rfl (.cons rfl .nil))) (splitBy_ok p n T f (prL p n T uu (padN n VF) gi) bA cA csA (((padN n VF) (gi))) _ hp hn0 hn hTp hT0 hf uu huu haI hkI hsA (hM.row 2 rfl) hInv (pad_le hp13 hIK (by omega)) (hpos4 (by omega)))) rfl ?_;rintro u w' a ⟨hx,bS9,cS9,csS9,hsS9,hgS9,hbS9⟩ hF;obtain rfl:=hsS9.val;have hM:=(hM.drop 2).fill hx 2 hbS9 hgS9;change Mem w w' [some (b1,algC (p:Int) (n:Int) T f),some (b2,vecC uu),some (bS9,csS9),some (b5,vecC ((padN n VF) (gi))),some (bF,csF)] [] at hM;refine ag hF rfl rfl fun a hF=>wpList_nil<|iN<|tN<|wp_region_lit<|st hF (g_add hF rfl rfl (add_nat (gi) (1) (by omega))) rfl fun a hF=>mv hF rfl rfl fun a hF=>wpList_nil<|tN ?_;have hM:=hM.drop 3;refine ⟨gi+1,⟨by omega,trivial,(.slice (some ⟨bS9,0,none⟩) (spL p n T uu ((padN n VF) gi) (prL p n T uu (padN n VF) gi)).length cS9),(some (bS9,csS9)),(.inr ⟨_,_,_,hsS9⟩),hF.sub _ (by repeat' constructor),?_⟩,by omega⟩;exact hM
  obtain rfl:rF=gi:=by omega
  refine wp_exit<|tX<|tX<|ib_same<|tN<|sr<|mv hF rfl rfl fun a hF=>?_;have hInv:InvA p n T (prL p n T uu (padN n VF) rF):=prL_invP hp hn0 hn haI hkI hT0 huu hIK rF (Nat.le_refl _);have hAp:0<(prL p n T uu (padN n VF) rF).length:=List.length_pos_iff.2 hInv.ne;have hAl:=hInv.count hp hn hkI;obtain ⟨bA,cA,csA,rfl,rfl,hsA⟩:=(hsl).pos hAp;change Mem w _ [some (b1,algC (p:Int) (n:Int) T f),some (b2,vecC uu),some (bA,csA),none,some (bF,csF)] [] at hM;have hsz9:(prL p n T uu (padN n VF) rF).length*6≤csA.size:=by have:=hsA.sz;have:=hsA.le;omega
  have hb9:Blk _ bA (rowV csA (prL p n T uu (padN n VF) rF).length (gz (prL p n T uu (padN n VF) rF))):=Eq.mp (congrArg (Blk _ bA) (rowV_of hsA)) (hM.row 2 rfl);refine stR hF (d_callX Tryz.call98 hF (.cons rfl (.cons rfl .nil)) (sortFunc_ok bA cA (prL p n T uu (padN n VF) rF).length csA (gz (prL p n T uu (padN n VF) rF)) _ hAp (by omega) hsz9 hb9 (gz_le hp13 hInv) (gz_dst hn hkI hInv))) rfl ?_;rintro _ w' a ⟨hx,rfl,hbk⟩ hF;have hM:=hM.upd (cs':=rowV csA (prL p n T uu (padN n VF) rF).length (srt (gz (prL p n T uu (padN n VF) rF)) (prL p n T uu (padN n VF) rF).length)) 2 rfl hx hbk;change Mem w w' [some (b1,algC (p:Int) (n:Int) T f),some (b2,vecC uu),some (bA,rowV csA (prL p n T uu (padN n VF) rF).length (srt (gz (prL p n T uu (padN n VF) rF)) (prL p n T uu (padN n VF) rF).length)),none,some (bF,csF)] [] at hM;refine ns<|mv hF rfl rfl fun a hF=>ag hF rfl rfl fun a hF=>nt<|wp_ret<|fin1 rfl hF.defers (res_tmp hF rfl) ⟨_,rfl,hM.below,?_⟩;exact ⟨rF,VF,hIK,bA,cA,_,rowV_slat _ hsA,hM.ge 2 rfl,hM.row 2 rfl⟩
end Go.Proofs.YtmlnjicajdbjlaaGreatDoor
namespace Go.Proofs.YtmlnjicajdbjlaaGreatDoor
open Go Go.RowKit Go.Sw Go.Ech
open Classical
theorem pcS_ne {p n:Nat}{T:Nat→Nat→Nat→Nat}{uu e v:Nat→Nat}{c d:Nat}(h:d≠c):timesV p n T (pcS p n T uu e v c d) (addN p (fun _=>0) (addN p v uu (-(d:Int))) ((invN ((((c:Int) - (d:Int))%(p:Int)).toNat) p:Nat):Int))=pcS p n T uu e v c (d+1):=by
  rw [pcS,if_neg h]
theorem pcS_same {p n:Nat}{T:Nat→Nat→Nat→Nat}{uu e v:Nat→Nat}{c d:Nat}(h:d=c):pcS p n T uu e v c d=pcS p n T uu e v c (d+1):=by
  rw [pcS,if_pos h]
theorem l01InverseI_ok (x:Int)(p:Nat)(w:World)(hp:0<p)(hp2:p<100)(hx1:-100<x)(hx2:x<100) :
    CallsR Tryz.prog 49 #[.int .i64 (p:Int),.int .i64 (x)] w (fun res _=>res = .int .i64 ((invN ((x%(p:Int)).toNat) p:Nat):Int)):=by
  refine calls_fr [.int .i64 (p:Int),.int .i64 (x)] Tryz.func49 rfl Tryz.ntmps49 rfl fun a hF=>?_;have hM:Mem w w [] []:=MemX.start w 0;change Fr 20 a [(0,.int .i64 (p:Int)),(1,.int .i64 (x))] at hF;have hxl:(x%(p:Int)).toNat<p:=by have:=Int.emod_lt_of_pos x (show (0:Int)<(p:Int) by omega);have:=Int.emod_nonneg x (show (p:Int)≠0 by omega);omega
  refine sr<|ag hF rfl rfl fun a hF=>nt<|sq<|sr<|ag hF rfl rfl fun a hF=>nt<|wp_block ?_;change Mem w _ [] [] at hM;refine c_loop (fun (kk:Nat) a w'=>kk≤p∧(∀ c,c<kk→¬ c*(x%(p:Int)).toNat%p=1)∧Fr 20 a [(0,.int .i64 (p:Int)),(1,.int .i64 (x)),(5,.int .i64 (kk:Int))]∧Mem w w' [] []) (fun kk=>p - kk) 1 ?_ ?_
  · refine ⟨by omega,fun c hc=>by rw [show c=0 by omega,Nat.zero_mul,Nat.zero_mod];decide,hF.sub _ (by repeat' constructor),?_⟩
    exact hM
  clear hF hM;rintro gk a w' ⟨hgk,hinv1,hF,hM⟩;have hkx:gk*(x%(p:Int)).toNat≤100*100:=Nat.mul_le_mul (by omega) (by omega);refine sq<|sr<|mv hF rfl rfl fun a hF=>mv hF rfl rfl fun a hF=>st hF (g_lss hF rfl rfl) rfl fun a hF=>nt<|c_cond hF rfl (fun h1=>?_) (fun h1=>?_)
  · refine wp_skip ?_
    refine tN<|sq<|wp_block<|sr<|mv hF rfl rfl fun a hF=>mv hF rfl rfl fun a hF=>mv hF rfl rfl fun a hF=>stR hF (d_call Tryz.call77 hF (.cons rfl (.cons rfl .nil)) ((CallsR.val (l01Mod_ok (x) (p) _ (by omega) (by omega) (by omega) (by omega)) (congrArg (Value.int .i64) (Int.toNat_of_nonneg (Int.emod_nonneg _ (by omega))).symm)))) rfl ?_;rintro _ w' a ⟨hx,rfl⟩ hF;have hM:=hM.ext hx;refine st hF (g_mul hF rfl rfl (show _=((gk*(x%(p:Int)).toNat:Nat):Int) from (by exact mul_nat gk ((x%(p:Int)).toNat) (by omega)))) rfl fun a hF=>mv hF rfl rfl fun a hF=>st hF (g_rem hF rfl rfl (by omega) (rem_nat (gk*(x%(p:Int)).toNat) (p))) rfl fun a hF=>st hF (g_eql hF rfl rfl) rfl fun a hF=>nt<|c_cond hF rfl (fun h2=>?_) (fun h2=>?_)
    · refine sq ?_
      refine wp_region_lit<|mv hF rfl rfl fun a hF=>ag hF rfl rfl fun a hF=>nt<|wp_ret<|iR<|tR<|tR<|iR<|tR<|fin1 rfl hF.defers (res_tmp hF rfl) ⟨_,rfl,hM.below,?_⟩
      show _=_
      exact congrArg (fun y:Nat=>Value.int .i64 (y:Int)) (invN_some (by omega) hinv1 (by omega)).symm
    refine wp_skip<|iN<|tN<|wp_region_lit<|mv hF rfl rfl fun a hF=>st hF (g_add hF rfl rfl (add_nat (gk) (1) (by omega))) rfl fun a hF=>ag hF rfl rfl fun a hF=>nt<|⟨gk+1,⟨by omega,noS hinv1 (by assumption),hF.sub _ (by repeat' constructor),?_⟩,by omega⟩;exact hM
  obtain rfl:p=gk:=by omega
  refine wp_exit<|tX<|tX<|ib_same<|tN<|sr<|ag hF rfl rfl fun a hF=>nt<|wp_ret<|fin1 rfl hF.defers (res_tmp hF rfl) ⟨_,rfl,hM.below,?_⟩
  show _=_
  exact congrArg (fun y:Nat=>Value.int .i64 (y:Int)) (invN_none hinv1).symm
theorem isKer_le2 {p n m r:Nat}{M V:Nat→Nat→Nat}(h:IsKer p n M m r V):r≤n:=by
  obtain ⟨k,E,ld,ld2,_,_,h3,_⟩:=h;have:∀ i,i<r→i≤ld2 i:=by
    intro i
    induction i with
    | zero=>intro _;exact Nat.zero_le _
    | succ i ih=>intro hi;have:=h3.mono i (i+1) (by omega) hi;have:=ih (by omega);omega
  by_cases e:r=0
  · omega
  · have h1:=this (r - 1) (by omega);have:=h3.lt (r - 1) (by omega);omega
theorem _root_.Go.Sw.MemX.lessD {X:List Nat}{w0 w:World}{L:Own}{D D':Froz}(h:MemX X w0 w L D)(hs:∀ x∈D',x∈D):MemX X w0 w L D':={ h with froz:=fun b cs hm=>h.froz b cs (hs _ hm) }
end Go.Proofs.YtmlnjicajdbjlaaGreatDoor
