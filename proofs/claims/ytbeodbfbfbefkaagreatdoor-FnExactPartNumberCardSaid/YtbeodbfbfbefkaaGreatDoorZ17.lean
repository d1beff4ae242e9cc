import Derived.Test.YtbeodbfbfbefkaaGreatDoorZ13
import Derived.Test.YtbeodbfbfbefkaaGreatDoorSw10
set_option linter.unusedVariables false
set_option linter.unusedSimpArgs false
namespace Go.Proofs.YtbeodbfbfbefkaaGreatDoor
open Go Go.RowKit Go.Sw Go.Ech
open Classical
end Go.Proofs.YtbeodbfbfbefkaaGreatDoor
namespace Go.Proofs.YtbeodbfbfbefkaaGreatDoor
open Go Go.RowKit Go.Sw Go.Ech
open Classical
end Go.Proofs.YtbeodbfbfbefkaaGreatDoor
namespace Go.Proofs.YtbeodbfbfbefkaaGreatDoor
open Go Go.RowKit Go.Sw Go.Ech
open Classical
end Go.Proofs.YtbeodbfbfbefkaaGreatDoor
namespace Go.Proofs.YtbeodbfbfbefkaaGreatDoor
open Go Go.RowKit Go.Sw Go.Ech
open Classical
theorem ty_fo_56_0:fieldOff Tryz.prog 56 0=some 0:=by kernel_rfl
theorem ty_fo_56_1:fieldOff Tryz.prog 56 1=some 224:=by kernel_rfl
def ptM (p n:Nat) (T:Nat→Nat→Nat→Nat) (e:Nat→Nat) (V:Nat→Nat→Nat) (i c:Nat):Nat:=timesV p n T e (V i) c
theorem ptM_lt {p n:Nat}{T:Nat→Nat→Nat→Nat}{e:Nat→Nat}{V:Nat→Nat→Nat}(hp:0<p):∀ i c,ptM p n T e V i c<p:=fun i c=>Nat.mod_lt _ hp
theorem ptM_out {p n:Nat}{T:Nat→Nat→Nat→Nat}{e:Nat→Nat}{V:Nat→Nat→Nat}(hp:0<p)(hT0:∀ i j k,n≤k→T i j k=0)(i:Nat){c:Nat}(hc:n≤c):ptM p n T e V i c=0:=(timesV_RV hp hT0).2 c hc
theorem vectorsOf_E (b0 c0:Nat)(w:World) :
    CallsR Tryz.prog 96 #[.slice (some ⟨b0,0,none⟩) 0 c0] w (fun res _=>res = .slice none 0 0):=by
  refine calls_fr [.slice (some ⟨b0,0,none⟩) 0 c0] Tryz.func96 rfl Tryz.ntmps96 rfl fun a hF=>?_;have hM:Mem w w [none] []:=MemX.start w 1;change Fr 20 a [(0,.slice (some ⟨b0,0,none⟩) 0 c0)] at hF;refine sr<|ag hF rfl rfl fun a hF=>ns<|ag hF rfl rfl fun a hF=>nt<|sq<|sr<|mv hF rfl rfl fun a hF=>st hF (g_len ty_us_101 hF rfl) rfl fun a hF=>mv hF rfl rfl fun a hF=>nt<|wp_block ?_;change Mem w _ [none] [] at hM;refine c_loop (fun (kk:Nat) a w'=>kk≤0∧(True)∧Fr 20 a [(2,.slice none 0 0),(6,.slice (some ⟨b0,0,none⟩) 0 c0),(7,.int .i64 (0)),(8,.int .i64 (kk:Int)),(3,.slice none 0 0)]∧Mem w w' [none] []) (fun kk=>0 - kk) 0 ?_ ?_
  · refine ⟨by omega,trivial,hF.sub _ (by repeat' constructor),?_⟩
    exact hM
  clear hF hM;rintro gi a w' ⟨hgi,hinv1,hF,hM⟩;refine sr<|st hF (g_lss hF rfl rfl) rfl fun a hF=>nt<|sq<|c_cond hF rfl (fun h1=>?_) (fun h1=>?_)
  · exfalso;omega
  obtain rfl:0=gi:=by omega
  refine wp_exit<|tX<|tX<|ib_same<|tN<|sr<|mv hF rfl rfl fun a hF=>ag hF rfl rfl fun a hF=>nt<|wp_ret<|fin1 rfl hF.defers (res_tmp hF rfl) ⟨_,rfl,hM.below,?_⟩
  show _=_
  rfl
theorem vectorsOf_any (n b0 c0:Nat)(cs0:Array Value)(D0:Froz)(β:Nat→Nat)(M:Nat→Nat→Nat)(w:World)(hn:n≤6)(hD0:∀ b cs,(b,cs)∈D0→Blk w b cs)(hb0:(b0,cs0)∈D0)(hg0:∀ i,i<n→cs0[0+i*1]? = some (.slice (some ⟨β i,0,none⟩) 6 6))(hB:∀ i,i<n→(β i,fnC 6 (fun c=>.int .u8 (M i c:Int)))∈D0) :
    CallsR Tryz.prog 96 #[.slice (some ⟨b0,0,none⟩) n c0] w (fun u w'=>(∃ x c,u = .slice x n c)∧(0<n→OwnSl 6 w n (fun c=>.int .u8 (M (c / 6) (c%6):Int)) u w')):=by
  by_cases h:n=0
  · subst h
    exact (vectorsOf_E b0 c0 w).mono fun u w' _ e=>⟨⟨none,0,e⟩,fun h=>absurd h (by omega)⟩
  · exact (vectorsOfC_ok n b0 c0 cs0 D0 β M w (by omega) hn hD0 hb0 hg0 hB).mono fun u w' _ h=>by
      obtain ⟨b,cap,cs,h1,h2,h3⟩:=h;exact ⟨⟨_,_,h1.val⟩,fun _=>⟨b,cap,cs,h1,h2,h3⟩⟩
theorem times_ok (p n:Nat)(T:Nat→Nat→Nat→Nat)(f:Nat→Nat)(ed:Nat→Nat)(bl cl m:Nat)(csl:Array Value)(V:Nat→Nat→Nat)(w:World)(hp:primeN p)(hn0:0<n)(hn:n≤6)(hTp:∀ i j k,T i j k<p)(hT0:∀ i j k,n≤k→T i j k=0)(hf:∀ i,f i≤255)(hed:∀ i,ed i≤255)(hl:SlAt 6 (.slice (some ⟨bl,0,none⟩) m cl) (some (bl,csl)) m bl cl csl (fun c=>.int .u8 (V (c / 6) (c%6):Int)))(hbl:Blk w bl csl)(hm0:0<m)(hm6:m≤6)(hVb:∀ i,i<m→∀ c,V i c≤255) :
    CallsR Tryz.prog 62 #[.agg (lpC (p:Int) (n:Int) T f ed),.slice (some ⟨bl,0,none⟩) m cl] w (fun u w'=>∃ r Z,RedOf p n (ptM p n T ed V) m r Z∧(∀ i,i<r→∀ c,n≤c→c<6→Z i c=0)∧(∃ x c,u = .slice x r c)∧(0<r→OwnSl 6 w r (fun c=>.int .u8 (Z (c / 6) (c%6):Int)) u w')):=by
  refine calls_fr [.agg (lpC (p:Int) (n:Int) T f ed),.slice (some ⟨bl,0,none⟩) m cl] Tryz.func62 rfl Tryz.ntmps62 rfl fun a hF=>?_;have hM:Mem w w [none,none,none,none,none] [(bl,csl)]:=MemX.startD w 5 _ (startD1 hbl);change Fr 32 a [(0,.agg (lpC (p:Int) (n:Int) T f ed)),(1,.slice (some ⟨bl,0,none⟩) m cl)] at hF;have hp2:=hp.two;have hp13:=hp.le;have hT:∀ i j k,T i j k≤255:=fun i j k=>by have:=hTp i j k;omega
  have hp2:=hp.two;have hp13:=hp.le;have hi1:(bl,csl)∈[(bl,csl)]:=List.mem_cons_self ..;have hvs:=hed;refine sr<|stR hF (d_box 0 hM hF rfl) rfl ?_;rintro _ w' a ⟨b1,rfl,hM,-⟩ hF;refine ag hF rfl rfl fun a hF=>ns<|ag hF rfl rfl fun a hF=>nt<|sq<|sr<|mv hF rfl rfl fun a hF=>st hF (g_len ty_us_27 hF rfl) rfl fun a hF=>mv hF rfl rfl fun a hF=>nt<|wp_block ?_;change Mem w _ [some (b1,lpC (p:Int) (n:Int) T f ed),none,none,none,none] [(bl,csl)] at hM;refine c_loop (fun (kk:Nat) a w'=>kk≤m∧∃ (D1:Froz),∃ (β:Nat→Nat),(RowsB D1 6 kk β (ptM p n T ed V)∧(∀ i,i<kk→w.heap.size≤β i)∧(bl,csl)∈D1)∧∃ (u5_1:Value) (e5_1:Option (Nat×Array Value)),Sl 1 u5_1 e5_1 (kk) (fun i=>.slice (some ⟨β i,0,none⟩) 6 6)∧Fr 32 a [(2,ptr b1 (0)),(4,.slice none 0 0),(9,.slice (some ⟨bl,0,none⟩) m cl),(10,.int .i64 (m:Int)),(11,.int .i64 (kk:Int)),(5,u5_1)]∧Mem w w' [some (b1,lpC (p:Int) (n:Int) T f ed),none,none,none,e5_1] D1) (fun kk=>m - kk) 0 ?_ ?_
  · refine ⟨by omega,[(bl,csl)],(fun _=>0),⟨RowsB.none,fun i hi=>absurd hi (by omega),List.mem_cons_self ..⟩,(.slice none 0 0),(none),(Sl.nil 1 _),hF.sub _ (by repeat' constructor),?_⟩
    exact hM
  clear hF hM;rintro gi a w' ⟨hgi,D1,β,⟨hB,hbg,hi1⟩,u5_1,e5_1,hsl,hF,hM⟩;refine sr<|st hF (g_lss hF rfl rfl) rfl fun a hF=>nt<|sq<|c_cond hF rfl (fun h2=>?_) (fun h2=>?_)
  · refine wp_skip ?_
    refine tN<|sq<|wp_block<|sq ?_;have hvt:=hVb gi (by omega);refine wp_region_lit<|st hF (g_indexSl (i:=gi) ty_sl_27 hF rfl rfl rfl (by omega)) rfl fun a hF=>st hF (g_loadAgg ty_ag_30 hF rfl (hM.fzm hi1) (hl.room (gi) (by omega)) (hl.vec0 (V:=V) (gi) (by omega))) rfl fun a hF=>stR hF (d_alloc 1 hM ty_ze_30) rfl ?_;rintro _ w' a ⟨b3,rfl,hM,-⟩ hF;change Mem w w' [some (b1,lpC (p:Int) (n:Int) T f ed),some (b3,fnC 6 (fun _=>.int .u8 (0))),none,none,e5_1] D1 at hM;refine stN hF (d_storeAgg 1 hM rfl ty_sz_30 hF rfl rfl (by first | exact vecC_one | exact cells_one | (refine fnC_one fun _ _=>?_;first | rfl | (split<;>rfl))) (by simp only [sz0,dgC_size,numC_sz,ldB_size,rowV_size,mrk_size,lpC_size]) (by simp only [sz0,dgC_size,numC_sz,ldB_size,rowV_size,mrk_size,lpC_size]<;>omega) (splice_whole _ _ (by simp only [sz0,dgC_size,numC_sz,ldB_size,rowV_size,mrk_size,lpC_size]))) ?_;intro _ w' a hM hF;change Mem w w' [some (b1,lpC (p:Int) (n:Int) T f ed),some (b3,vecC (V (gi))),none,none,e5_1] D1 at hM;refine ns<|st hF (g_fieldAddr ty_fo_56_0 hF rfl) rfl fun a hF=>st hF (g_loadAgg ty_ag_32 hF rfl (hM.row 0 rfl) (by simp only [sz0,dgC_size,numC_sz,ldB_size,rowV_size,mrk_size,lpC_size]<;>omega) (lpC_alg (by omega) (by omega))) rfl fun a hF=>st hF (g_fieldAddr ty_fo_56_1 hF rfl) rfl fun a hF=>st hF (g_loadAgg ty_ag_30 hF rfl (hM.row 0 rfl) (by simp only [sz0,dgC_size,numC_sz,ldB_size,rowV_size,mrk_size,lpC_size]<;>omega) (lpC_vec (by omega) (by omega))) rfl fun a hF=>st hF (g_loadAgg ty_ag_30 hF rfl (hM.row 1 rfl) (by simp only [sz0,dgC_size,numC_sz,ldB_size,rowV_size,mrk_size,lpC_size]<;>omega) (whole (by simp only [sz0,dgC_size,numC_sz,ldB_size,rowV_size,mrk_size,lpC_size]))) rfl fun a hF=>stR hF (d_call Tryz.call95 hF (.cons rfl (.cons rfl (.cons rfl .nil))) (product_ok p n T f (ed) ((V (gi))) _ (by omega) (by omega) (by omega) (fun _ _ _=>hT _ _ _) (fun _=>by first | exact hv _ | exact hvt _ | exact hvs _ | exact hvp _ | exact hvq _ | exact hu _ | exact hT _ _ _ | exact hf _ | omega | (split<;>omega) | (dsimp only;split<;>omega) | assumption) (fun _=>by first | exact hv _ | exact hvt _ | exact hvs _ | exact hvp _ | exact hvq _ | exact hu _ | exact hT _ _ _ | exact hf _ | omega | (split<;>omega) | (dsimp only;split<;>omega) | assumption))) rfl ?_;rintro _ w' a ⟨hx,rfl⟩ hF;have hM:=hM.ext hx;refine stR hF (d_alloc 2 hM ty_ze_30) rfl ?_;rintro _ w' a ⟨b4,rfl,hM,-⟩ hF;change Mem w w' [some (b1,lpC (p:Int) (n:Int) T f ed),some (b3,vecC (V (gi))),some (b4,fnC 6 (fun _=>.int .u8 (0))),none,e5_1] D1 at hM;refine stN hF (d_storeAgg 2 hM rfl ty_sz_30 hF rfl rfl (by first | exact vecC_one | exact cells_one | (refine fnC_one fun _ _=>?_;first | rfl | (split<;>rfl))) (by simp only [sz0,dgC_size,numC_sz,ldB_size,rowV_size,mrk_size,lpC_size]) (by simp only [sz0,dgC_size,numC_sz,ldB_size,rowV_size,mrk_size,lpC_size]<;>omega) (splice_whole _ _ (by simp only [sz0,dgC_size,numC_sz,ldB_size,rowV_size,mrk_size,lpC_size]))) ?_;intro _ w' a hM hF;refine nt<|wp_region_lit<|mv hF rfl rfl fun a hF=>st hF (g_sliceArr ty_ua_30 ty_sz_5 (by decide) hF rfl) rfl fun a hF=>stR hF (d_buildC 3 hM hF (build1 hF rfl) (ty_bsv_101 _ _ _)) rfl ?_;rintro _ w' a ⟨b5,rfl,hM,-⟩ hF;change Mem w w' [some (b1,lpC (p:Int) (n:Int) T f ed),some (b3,vecC (V (gi))),some (b4,vecC (timesV p n T (ed) ((V (gi))))),some (b5,#[.slice (some ⟨b4,0,none⟩) 6 6]),e5_1] D1 at hM;refine stR hF (d_append (k:=4) (m:=1) (g:=fun _=>.slice (some ⟨b4,0,none⟩) 6 6) ty_si_101 rfl (by decide) hM rfl hF rfl rfl hsl (fun i hi=>by rw [show i=0 by omega];exact (hM.row 3 rfl).cell 0) (fun _ _=>rfl) (by decide) (by unfold maxLen;omega) (by omega)) rfl ?_;rintro u6 w' a ⟨e7,hM,hs8⟩ hF;change Mem w w' [some (b1,lpC (p:Int) (n:Int) T f ed),some (b3,vecC (V (gi))),some (b4,vecC (timesV p n T (ed) ((V (gi))))),some (b5,#[.slice (some ⟨b4,0,none⟩) 6 6]),e7] D1 at hM
    refine ag hF rfl rfl fun a hF=>wpList_nil<|iN<|tN<|wp_region_lit<|st hF (g_add hF rfl rfl (add_nat (gi) (1) (by omega))) rfl fun a hF=>mv hF rfl rfl fun a hF=>wpList_nil<|tN ?_;have hgb:=hM.ge 2 rfl;have hnb:=fun i hi=>(hM.froz _ _ (hB.mem i hi)).2 2 b4 _ rfl;have hM:=hM.freeze 2 rfl;have hB:=((hB.more (D':=(b4,vecC (timesV p n T (ed) ((V (gi)))))::D1) (fun x hx=>List.mem_cons_of_mem _ hx)).snoc (r:=(ptM p n T ed V) gi) rfl (List.mem_cons_self ..) hnb).congr (M':=(ptM p n T ed V)) (fun i hi c hc=>by
      by_cases e:i=gi<;>simp [upE,e])
    have hsl:=(hs8).congr (g:=fun i=>.slice (some ⟨up β gi b4 i,0,none⟩) 6 6) (fun i hi=>by
      by_cases e:i<gi
      · rw [if_pos (by omega)];simp only [up_ne (show i≠gi by omega)]
      · rw [if_neg (by omega),show i=gi by omega];simp only [up_eq])
    have hbg:∀ i,i<gi+1→w.heap.size≤up β gi b4 i:=fun i hi=>by
      unfold up;split
      · exact hgb
      · exact hbg i (by omega)
    have hM:=hM.drop 1;have hM:=hM.drop 3;refine ⟨gi+1,⟨by omega,((b4,vecC (timesV p n T (ed) ((V (gi)))))::D1),(up β gi b4),⟨hB,hbg,List.mem_cons_of_mem _ hi1⟩,(u6),(e7),hsl,hF.sub _ (by repeat' constructor),?_⟩,by omega⟩;exact hM
  obtain rfl:m=gi:=by omega
  obtain ⟨bk,ck,csk,rfl,rfl,hsk⟩:=hsl.pos hm0;have hgek:=hM.ge 4 rfl;have hnbk:∀ i,i<m→β i≠bk:=fun i hi e=>(hM.froz _ _ (hB.mem i hi)).2 4 bk _ rfl e.symm;have hM:=hM.freeze 4 rfl;change Mem w _ [some (b1,lpC (p:Int) (n:Int) T f ed),none,none,none,none] ((bk,csk)::D1) at hM;refine wp_exit<|tX<|tX<|ib_same<|tN<|sr<|mv hF rfl rfl fun a hF=>st hF (g_fieldAddr ty_fo_56_0 hF rfl) rfl fun a hF=>st hF (g_fieldAddr ty_fo_32_0 hF rfl) rfl fun a hF=>st hF (g_load ty_on_2 hF rfl (hM.row 0 rfl) (lpC_p (by omega))) rfl fun a hF=>stR hF (d_callX Tryz.call97 hF (.cons rfl (.cons rfl .nil)) (reduceRows_ok p 6 m bk ck csk β (ptM p n T ed V) _ hp (by omega) (by omega) (by omega) hsk.le (ptM_lt (by omega)) (hM.fzm (List.mem_cons_self ..)) (by have:=hsk.sz;have:=hsk.le;omega) (fun i hi=>hsk.get1 i hi) (fun i hi=>hM.fzm (List.mem_cons_of_mem _ (hB.mem i hi))) hB.inj hnbk)) rfl ?_;rintro _ w' a ⟨hx,k,E,γ',ld,cs',rfl,hkm,hE,hKer,hE1,hb0',hg0',hbr',hgX'⟩ hF;have hM:=hM.swapD (D':=(rowsD0 bk cs' 6 m γ' E)) hx (rowsX_all (Q:=fun y=>∃ cs,(y,cs)∈(bk,csk)::D1) ⟨_,List.mem_cons_self ..⟩ (fun i hi=>⟨_,List.mem_cons_of_mem _ (hB.mem i hi)⟩)) (rowsX_all (Q:=fun y=>w.heap.size≤y∨y∈[]) (.inl hgek) (fun i hi=>.inl (hbg i hi))) (rowsD0_all ⟨hb0',.inr (List.mem_cons_self ..)⟩ (fun i hi=>⟨hbr' i hi,hgX' i hi⟩));change Mem w w' [some (b1,lpC (p:Int) (n:Int) T f ed),none,none,none,none] (rowsD0 bk cs' 6 m γ' E) at hM;obtain ⟨hEn,hKn,hEz⟩:=rref_pad hp hn (ptM_lt (by omega)) (fun i _ c hc _=>ptM_out (by omega) hT0 i hc) hE hKer;have hkn:=rref_le hEn;have hszc:=hM.bel.size;refine stR hF (d_call Tryz.call96 hF (.cons rfl .nil) (vectorsOf_any k bk ck cs' (rowsD0 bk cs' 6 m γ' E) γ' E _ (by omega) (fun _ _ hm=>hM.fzm hm) rowsD0_0 (fun i hi=>hg0' i (by omega)) (fun i hi=>rowsD0_i (by omega)))) rfl ?_;rintro u w' a ⟨hx,hlen,hown⟩ hF;have hM:=hM.ext hx;refine ag hF rfl rfl fun a hF=>nt<|wp_ret<|fin1 rfl hF.defers (res_tmp hF rfl) ⟨_,rfl,hM.below,?_⟩;exact ⟨k,E,⟨ld,hEn,hKn⟩,hEz,hlen,fun h=>ownSl_le hszc (hown h)⟩
end Go.Proofs.YtbeodbfbfbefkaaGreatDoor
