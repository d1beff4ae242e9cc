import Derived.Test.YtklpefdaplchbaaP1
import Derived.Test.YtklpefdaplchbaaSw38
import Derived.Test.YtklpefdaplchbaaK9
import Derived.Test.YtklpefdaplchbaaEch5
set_option linter.unusedVariables false
set_option linter.unusedSimpArgs false
namespace Go.Proofs.Ytklpefdaplchbaa
open Go Go.RowKit Go.Sw Go.Ech
open Classical
theorem ty_sz_5:sizeP Try.prog 5=some 1:=by kernel_rfl
theorem ty_si_22:slI Try.prog 22=some (5,some (.int .u8 (0)),1,1):=by kernel_rfl
theorem ty_bsg_86_1:∀ (v0:Nat→Nat) (w:World),(Instr.buildSlice 86 1 #[(0,.agg (vecC v0))]).run Try.prog w = .ok (.slice (some ⟨w.heap.size,0,none⟩) 1 1) (w.alloc (.cells (vecsC 1 (vAtL [v0])) 37)):=by intros;kernel_rfl
theorem ty_si_86:slI Try.prog 86=some (37,some (.agg (fnC 6 (fun _=>.int .u8 (0)))),6,6):=by kernel_rfl
theorem formM_out {p n:Nat}{T:Nat→Nat→Nat→Nat}{f:Nat→Nat}{i c:Nat}(h:n≤c):formM p n T f i c=0:=by
  unfold formM;rw [if_neg (by omega)]
theorem copairing_ok (p n:Nat)(T:Nat→Nat→Nat→Nat)(f:Nat→Nat)(G:Nat→Nat→Nat)(w:World)(hp:primeN p)(hn0:0<n)(hn:n≤6)(hT:∀ i j k,T i j k≤255)(hf:∀ i,f i≤255)(hfr:FrobN p n T f)(hG:IsCop p n (formM p n T f) G) :
    CallsR Try.prog 77 #[.agg (algC (p:Int) (n:Int) T f)] w (fun u w'=>OwnSl 6 w n (fun c=>.int .u8 (G (c / 6) (c%6):Int)) u w'):=by
  refine calls_fr [.agg (algC (p:Int) (n:Int) T f)] Try.func77 rfl Try.ntmps77 rfl fun a hF=>?_;have hM:Mem w w [none,none,none,none,none,none] []:=MemX.start w 6;change Fr 46 a [(0,.agg (algC (p:Int) (n:Int) T f))] at hF;have hp2:=hp.two;have hp13:=hp.le;refine sr<|stR hF (d_box 0 hM hF rfl) rfl ?_;rintro _ w' a ⟨b1,rfl,hM,-⟩ hF;change Mem w w' [some (b1,algC (p:Int) (n:Int) T f),none,none,none,none,none] [] at hM;refine ag hF rfl rfl fun a hF=>ns<|st hF (g_loadAgg ty_ag_39 hF rfl (hM.row 0 rfl) (by simp only [sz0,tenC_size,smC_size,numC_size,numI_size]<;>omega) (whole cells_size)) rfl fun a hF=>stR hF (d_call Try.call62 hF (.cons rfl .nil) (formRows_ok p n T f _ (by omega) (by omega) (by omega) (by omega) hT hf)) rfl ?_;rintro u w' a ⟨hx,hr⟩ hF;obtain ⟨D1,β,bo,cs0,hB,rfl,hsz0,hgo0,hM⟩:=hM.addBoL 3 hx hr;rw [List.append_nil] at hM;refine ag hF rfl rfl fun a hF=>nt<|sq<|sr<|mv hF rfl rfl fun a hF=>st hF (g_len ty_us_97 hF rfl) rfl fun a hF=>mv hF rfl rfl fun a hF=>nt<|wp_block ?_;change Mem w _ [some (b1,algC (p:Int) (n:Int) T f),none,none,some (bo,cs0),none,none] D1 at hM;refine c_loop (fun (kk:Nat) a w'=>kk≤n∧∃ (D2:Froz),∃ (γ:Nat→Nat),∃ (κ:Nat→Nat),∃ (Xs:Nat→Nat→Value),∃ (cso:Array Value),(cso.size=n∧(∀ i,i<kk→cso[0+i*1]? = some (.slice (some ⟨γ i,0,none⟩) 12 (κ (γ i))))∧(∀ i,kk≤i→i<n→cso[0+i*1]? = some (.slice (some ⟨β i,0,none⟩) 6 6))∧RowsPD D2 12 kk κ Xs γ (augI (formM p n T f))∧(∀ i,i<kk→w.heap.size≤γ i)∧(∀ b,12≤κ b)∧(∀ x∈D1,x∈D2))∧Fr 46 a [(1,ptr b1 (0)),(2,.slice none 0 0),(3,.slice (some ⟨bo,0,none⟩) n n),(12,.slice (some ⟨bo,0,none⟩) n n),(13,.int .i64 (n:Int)),(14,.int .i64 (kk:Int))]∧Mem w w' [some (b1,algC (p:Int) (n:Int) T f),none,none,some (bo,cso),none,none] D2) (fun kk=>n - kk) 0 ?_ ?_
  · refine ⟨by omega,D1,(fun _=>0),(fun _=>12),(fun _ _=>undef),cs0,⟨hsz0,fun i hi=>absurd hi (by omega),fun i _ hi=>hgo0 i hi,RowsPD.none,fun i hi=>absurd hi (by omega),fun _=>Nat.le_refl _,fun x hx=>hx⟩,hF.sub _ (by repeat' constructor),?_⟩
    exact hM
  clear hF hM;rintro gk a w' ⟨hgk,D2,γ,κ,Xs,cso,⟨hso,hgo1,hgo2,hP,hbg,hκ,hsub⟩,hF,hM⟩;refine sr<|st hF (g_lss hF rfl rfl) rfl fun a hF=>nt<|sq<|c_cond hF rfl (fun h2=>?_) (fun h2=>?_)
  · refine wp_skip ?_
    refine tN<|sq<|wp_block<|sr<|mv hF rfl rfl fun a hF=>st hF (g_indexSl (i:=gk) ty_sl_97 hF rfl rfl rfl (by omega)) rfl fun a hF=>st hF (g_load ty_on_22 hF rfl (hM.row 3 rfl) (hgo2 (gk) (by omega) (by omega))) rfl fun a hF=>ag hF rfl rfl fun a hF=>ag hF rfl rfl fun a hF=>ns<|mv hF rfl rfl fun a hF=>stR hF (d_call Try.call56 hF (.cons rfl .nil) (basisVector_ok (gk) _ (by omega))) rfl ?_;rintro _ w' a ⟨hx,rfl⟩ hF;have hM:=hM.ext hx;refine stR hF (d_alloc 1 hM ty_ze_37) rfl ?_;rintro _ w' a ⟨b3,rfl,hM,-⟩ hF;change Mem w w' [some (b1,algC (p:Int) (n:Int) T f),some (b3,fnC 6 (fun _=>.int .u8 (0))),none,some (bo,cso),none,none] D2 at hM;refine stN hF (d_storeAgg 1 hM rfl ty_sz_37 hF rfl rfl (by first | exact vecC_one | exact cells_one | (refine fnC_one fun _ _=>?_;first | rfl | (split<;>rfl))) (by simp only [sz0,tenC_size,smC_size,numC_size,numI_size]) (by simp only [sz0,tenC_size,smC_size,numC_size,numI_size]<;>omega) (splice_whole _ _ (by simp only [sz0,tenC_size,smC_size,numC_size,numI_size]))) ?_;intro _ w' a hM hF;change Mem w w' [some (b1,algC (p:Int) (n:Int) T f),some (b3,vecC (fun c=>if c=gk then 1 else 0)),none,some (bo,cso),none,none] D2 at hM;refine nt<|wp_region_lit<|mv hF rfl rfl fun a hF=>mv hF rfl rfl fun a hF=>mv hF rfl rfl fun a hF=>st hF (g_sliceArr ty_ua_37 ty_sz_5 (by decide) hF rfl) rfl fun a hF=>stR hF (d_appendFz (k:=4) (f:=fun c=>.int .u8 (formM p n T f gk c:Int)) (g:=fun c=>.int .u8 (((if c=gk then 1 else 0:Nat)):Int)) ty_si_22 rfl (by decide) hM hF rfl rfl (hM.fzm (hsub _ (hB.mem gk (by omega)))) (fun i hi=>fnC_get (by omega)) (fun i hi=>((hM.row 1 rfl).cell _).trans ((show _=_ from by rw [Nat.zero_add];exact fnC_get (by omega)))) (by decide) (by decide) (by decide)) rfl ?_;rintro u w' a ⟨bn,capn,csn,hsl,hM⟩ hF;obtain rfl:=hsl.val;change Mem w w' [some (b1,algC (p:Int) (n:Int) T f),some (b3,vecC (fun c=>if c=gk then 1 else 0)),none,some (bo,cso),some (bn,csn),none] D2 at hM;refine st hF (g_indexSl (i:=gk) ty_sl_97 hF rfl rfl rfl (by omega)) rfl fun a hF=>stN hF (d_store 3 hM rfl ty_on_22 hF rfl rfl rfl (by first | omega | (simp only [sz0,tenC_size,smC_size,numC_size,numI_size]<;>omega) | (simp only [Array.size_setIfInBounds];omega) | simp)) ?_;intro _ w' a hM hF;change Mem w w' [some (b1,algC (p:Int) (n:Int) T f),some (b3,vecC (fun c=>if c=gk then 1 else 0)),none,some (bo,(cso).setIfInBounds (0+(gk)*1) (.slice (some ⟨bn,0,none⟩) (6+6) (capn))),some (bn,csn),none] D2 at hM;refine wpList_nil<|iN<|tN<|wp_region_lit<|st hF (g_add hF rfl rfl (add_nat (gk) (1) (by omega))) rfl fun a hF=>mv hF rfl rfl fun a hF=>wpList_nil<|tN ?_;have hcap:=hsl.le;have hgb:=hM.ge 4 rfl;have hnb:=fun i hi=>(hM.froz _ _ (hP.mem i hi)).2 4 bn _ rfl;have hM:=hM.freeze 4 rfl;have hrow:csn=rowP 12 capn (augI (formM p n T f) gk) (fun c=>csn[c]?.getD undef):=(hsl.congr (g:=fun c=>.int .u8 (augI (formM p n T f) gk c:Int)) (fun c hc=>aug_row (by omega))).rowP;have hP:=((hP.more (D':=(bn,csn)::D2) (fun x hx=>List.mem_cons_of_mem _ hx)).snoc hrow (List.mem_cons_self ..) hnb).congr (M':=augI (formM p n T f)) (fun i hi c hc=>by
      by_cases e:i=gk<;>simp [upE,e])
    have hgo1:∀ i,i<gk+1→((cso).setIfInBounds (0+(gk)*1) (.slice (some ⟨bn,0,none⟩) (6+6) (capn)))[0+i*1]? = some (.slice (some ⟨up γ gk bn i,0,none⟩) 12 ((fun y=>if y=bn then capn else κ y) (up γ gk bn i))):=fun i hi=>by
      by_cases e:i=gk
      · rw [e,up_eq,Array.getElem?_setIfInBounds_self_of_lt (by omega)];show _=some (Value.slice _ 12 (if bn=bn then capn else κ bn));rw [if_pos rfl]
      · have hne:¬ γ i=bn:=fun h2=>hnb i (by omega) h2.symm
        rw [up_ne e,Array.getElem?_setIfInBounds_ne (by omega)];show _=some (Value.slice _ 12 (if γ i=bn then capn else κ (γ i)));rw [if_neg hne];exact hgo1 i (by omega)
    have hgo2:∀ i,gk+1≤i→i<n→((cso).setIfInBounds (0+(gk)*1) (.slice (some ⟨bn,0,none⟩) (6+6) (capn)))[0+i*1]? = some (.slice (some ⟨β i,0,none⟩) 6 6):=fun i h1 h2=>by rw [Array.getElem?_setIfInBounds_ne (by omega)];exact hgo2 i (by omega) h2
    have hbg:∀ i,i<gk+1→w.heap.size≤up γ gk bn i:=fun i hi=>by
      unfold up;split
      · exact hgb
      · exact hbg i (by omega)
    have hκ:∀ b,12≤(fun y=>if y=bn then capn else κ y) b:=fun b=>by
      show 12≤(if b=bn then capn else κ b)
      split
      · exact hcap
      · exact hκ b
    have hM:=hM.drop 1;refine ⟨gk+1,⟨by omega,((bn,csn)::D2),(up γ gk bn),(fun y=>if y=bn then capn else κ y),(fun y=>if y=bn then (fun c=>csn[c]?.getD undef) else Xs y),((cso).setIfInBounds (0+(gk)*1) (.slice (some ⟨bn,0,none⟩) (6+6) (capn))),⟨by rw [Array.size_setIfInBounds];exact hso,hgo1,hgo2,hP,hbg,hκ,fun x hx=>List.mem_cons_of_mem _ (hsub x hx)⟩,hF.sub _ (by repeat' constructor),?_⟩,by omega⟩;exact hM
  obtain rfl:n=gk:=by omega
  refine wp_exit<|tX<|tX<|ib_same<|tN<|sr<|ag hF rfl rfl fun a hF=>nt<|sq<|sr<|mv hF rfl rfl fun a hF=>st hF (g_fieldAddr ty_fo_39_0 hF rfl) rfl fun a hF=>st hF (g_load ty_on_2 hF rfl (hM.row 0 rfl) (algC_p (by omega))) rfl fun a hF=>stR hF (d_callX Try.call61 hF (.cons rfl (.cons rfl .nil)) (reduceRowsP_ok p 12 n bo n cso κ Xs γ (augI (formM p n T f)) _ hp hκ (by omega) (by omega) (by omega) (Nat.le_refl _) (fun i c=>by have:=formM_lt (p:=p) (n:=n) (T:=T) (f:=f) (by omega) i c;unfold augI;split;exact this;split<;>omega) (hM.row 3 rfl) (by omega) hgo1 (fun i hi=>hM.fzm (hP.mem i hi)) hP.inj (fun i hi e=>(hM.froz _ _ (hP.mem i hi)).2 3 bo _ rfl e.symm))) rfl ?_;rintro u w2 a ⟨hx,k',M2,γ2,ld,cs2,hu,hkm,hR2,hK2,hM21,hb2,hg2,hr2,hf2⟩ hF;obtain ⟨hkn,hG2,hz2⟩:=cop_of hp2 hn0 hn (fun i c h=>formM_out h) hfr hR2 hkm hK2 hM21;have hGe:∀ i,i<n→∀ q,q<6→M2 i (6+q)=G i q:=fun i hi q hq=>by
    have e:=hG2.unique hp2 hn (fun i c h=>formM_out h) hfr hG;have e2:=congrFun (congrFun e i) q
    by_cases h:q<n
    · rw [← e2,if_pos ⟨hi,h⟩]
    · rw [hz2 i hi q (by omega) hq,hG.out i q (by omega)]
  rw [hkn] at hu;subst hu;have hM:=hM.reduced (k:=3) rfl hP (hM.ge 3 rfl) hbg hx hf2 hb2 hr2;refine st hF (g_len ty_us_97 hF rfl) rfl fun a hF=>mv hF rfl rfl fun a hF=>nt<|wp_block ?_;change Mem w _ [some (b1,algC (p:Int) (n:Int) T f),none,none,none,none,none] ((bo,cs2)::(List.range n).map (fun i=>(γ2 i,rowP 12 (κ (γ2 i)) (M2 i) (Xs (γ2 i))))) at hM;refine c_loop (fun (kk:Nat) a w'=>kk≤n∧(True)∧∃ (u7_2:Value) (e7_2:Option (Nat×Array Value)),Sl 6 u7_2 e7_2 (kk) (fun c=>.int .u8 (G (c / 6) (c%6):Int))∧Fr 46 a [(1,ptr b1 (0)),(2,.slice none 0 0),(3,.slice (some ⟨bo,0,none⟩) n n),(12,.slice (some ⟨bo,0,none⟩) n n),(13,.int .i64 (n:Int)),(14,.int .i64 (n:Int)),(15,.bool (decide (((n:Int):Int)<(n:Int)))),(28,.slice (some ⟨bo,0,none⟩) n n),(29,ptr b1 (0+0)),(30,.int .i64 (p:Int)),(31,.slice (some ⟨bo,0,none⟩) n n),(32,.int .i64 (n:Int)),(33,.int .i64 (kk:Int)),(7,u7_2)]∧Mem w w' [some (b1,algC (p:Int) (n:Int) T f),none,none,none,none,e7_2] ((bo,cs2)::(List.range n).map (fun i=>(γ2 i,rowP 12 (κ (γ2 i)) (M2 i) (Xs (γ2 i)))))) (fun kk=>n - kk) 0 ?_ ?_
  · refine ⟨by omega,trivial,(.slice none 0 0),(none),(Sl.nil 6 _),hF.sub _ (by repeat' constructor),?_⟩
    exact hM
  clear hF hM;rintro gj a w' ⟨hgj,hinv2,u7_2,e7_2,hsl2,hF,hM⟩;refine sr<|st hF (g_lss hF rfl rfl) rfl fun a hF=>nt<|sq<|c_cond hF rfl (fun h4=>?_) (fun h4=>?_)
  · refine wp_skip ?_
    refine tN<|sq<|wp_block<|sr<|st hF (g_indexSl (i:=gj) ty_sl_97 hF rfl rfl rfl (by omega)) rfl fun a hF=>st hF (g_load ty_on_22 hF rfl (hM.fzm (List.mem_cons_self ..)) (hg2 (gj) (by omega))) rfl fun a hF=>ag hF rfl rfl fun a hF=>nt<|wp_region_lit<|mv hF rfl rfl fun a hF=>mv hF rfl rfl fun a hF=>st hF (g_sliceLo (i:=6) ty_us_22 ty_sz_5 hF rfl rfl rfl (by omega) (hκ _) (by have:=hκ (γ2 (gj));omega)) rfl fun a hF=>st hF (g_toArr ty_ua_37 hF rfl (by omega)) rfl fun a hF=>st hF (g_loadAgg ty_ag_37 hF rfl (hM.fzm (mem_rowsD (γ:=γ2) (R:=fun i=>rowP 12 (κ (γ2 i)) (M2 i) (Xs (γ2 i))) (i:=gj) (by omega))) (by have:=hκ (γ2 (gj));rw [rowP_size];omega) (rowP_vec (hκ _))) rfl fun a hF=>stR hF (d_buildC (vs:=[(0,.agg (vecC (fun q=>M2 (gj) (6+q))))]) 2 hM hF (build1 hF rfl) (fun w=>ty_bsg_86_1 (fun q=>M2 (gj) (6+q)) w)) rfl ?_;rintro _ w' a ⟨b5,rfl,hM,-⟩ hF;change Mem w w' [some (b1,algC (p:Int) (n:Int) T f),none,some (b5,vecsC 1 (vAtL [(fun q=>M2 (gj) (6+q))])),none,none,e7_2] ((bo,cs2)::(List.range n).map (fun i=>(γ2 i,rowP 12 (κ (γ2 i)) (M2 i) (Xs (γ2 i))))) at hM;refine stR hF (d_append (k:=5) (N:=gj) (m:=1) (f:=(fun c=>.int .u8 (G (c / 6) (c%6):Int))) (g:=fun q=>.int .u8 (((((fun q=>M2 (gj) (6+q))) q:Nat)):Int)) ty_si_86 rfl (by decide) hM rfl hF rfl rfl hsl2 (fun q hq=>((hM.row 2 rfl).cell _).trans (vecs1_get q hq)) (fun _ _=>rfl) (by decide) (by unfold maxLen;omega) (by omega)) rfl ?_;rintro u6 w' a ⟨e7,hM,hs8⟩ hF;change Mem w w' [some (b1,algC (p:Int) (n:Int) T f),none,some (b5,vecsC 1 (vAtL [(fun q=>M2 (gj) (6+q))])),none,none,e7] ((bo,cs2)::(List.range n).map (fun i=>(γ2 i,rowP 12 (κ (γ2 i)) (M2 i) (Xs (γ2 i))))) at hM;refine ag hF rfl rfl fun a hF=>wpList_nil<|iN<|tN<|wp_region_lit<|st hF (g_add hF rfl rfl (add_nat (gj) (1) (by omega))) rfl fun a hF=>mv hF rfl rfl fun a hF=>wpList_nil<|tN ?_;have hM:=hM.drop 2;refine ⟨gj+1,⟨by omega,trivial,(u6),(e7),(Sl.snoc6 (N:=gj) (F:=(fun c=>.int .u8 (G (c / 6) (c%6):Int))) (G:=fun q=>.int .u8 (M2 gj (6+q):Int)) hs8 (fun q hq=>by rw [show (gj*6+q) / 6=gj by omega,show (gj*6+q)%6=q by omega,hGe gj (by omega) q hq])),hF.sub _ (by repeat' constructor),?_⟩,by omega⟩;exact hM
  obtain rfl:n=gj:=by omega
  refine wp_exit<|tX<|tX<|ib_same<|tN<|sr<|mv hF rfl rfl fun a hF=>ag hF rfl rfl fun a hF=>nt<|wp_ret<|fin1 rfl hF.defers (res_tmp hF rfl) ⟨_,rfl,hM.below,?_⟩;exact OwnSl.pos hM (k:=5) rfl (hsl2) hn0
end Go.Proofs.Ytklpefdaplchbaa
namespace Go.Proofs.Ytklpefdaplchbaa
open Go Go.RowKit Go.Sw Go.Ech
open Classical
theorem prodI_Pr {n c:Nat}{T:Nat→Nat→Nat→Nat}{v u:Nat→Nat}:(prodI T v u n n c:Int)=Pr n T (ci v) (ci u) c:=by
  unfold prodI Pr
  rw [sumTo_sI];refine sI_congr fun a _=>?_;rw [sumTo_sI];exact sI_congr fun b _=>by simp [ci,Int.natCast_mul]
def bM (p n:Nat) (T:Nat→Nat→Nat→Nat) (v uu:Nat→Nat) (k j:Nat):Nat:=if j<n then timesS p n T (fun y=>if y=j then 1 else 0) v k else uu k
end Go.Proofs.Ytklpefdaplchbaa
namespace Go.Proofs.Ytklpefdaplchbaa
open Go Go.RowKit Go.Sw Go.Ech
open Classical
end Go.Proofs.Ytklpefdaplchbaa
namespace Go.Proofs.Ytklpefdaplchbaa
open Go Go.RowKit Go.Sw Go.Ech
open Classical
end Go.Proofs.Ytklpefdaplchbaa
namespace Go.Proofs.Ytklpefdaplchbaa
open Go Go.RowKit Go.Sw Go.Ech
open Classical
end Go.Proofs.Ytklpefdaplchbaa
namespace Go.Proofs.Ytklpefdaplchbaa
open Go Go.RowKit Go.Sw Go.Ech
open Classical
end Go.Proofs.Ytklpefdaplchbaa
namespace Go.Proofs.Ytklpefdaplchbaa
open Go Go.RowKit Go.Sw Go.Ech
open Classical
end Go.Proofs.Ytklpefdaplchbaa
namespace Go.Proofs.Ytklpefdaplchbaa
open Go Go.RowKit Go.Sw Go.Ech
open Classical
def bL (p n:Nat) (T:Nat→Nat→Nat→Nat) (v uu:Nat→Nat) (k j:Nat):Nat:=if j<n then timesS p n T v (fun y=>if y=j then 1 else 0) k else uu k
end Go.Proofs.Ytklpefdaplchbaa
namespace Go.Proofs.Ytklpefdaplchbaa
open Go Go.RowKit Go.Sw Go.Ech
open Classical
end Go.Proofs.Ytklpefdaplchbaa
namespace Go.Proofs.Ytklpefdaplchbaa
open Go Go.RowKit Go.Sw Go.Ech
open Classical
end Go.Proofs.Ytklpefdaplchbaa
namespace Go.Proofs.Ytklpefdaplchbaa
open Go Go.RowKit Go.Sw Go.Ech
open Classical
end Go.Proofs.Ytklpefdaplchbaa
