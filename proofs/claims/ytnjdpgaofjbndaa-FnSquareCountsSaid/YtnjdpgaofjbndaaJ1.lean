import Derived.Test.YtnjdpgaofjbndaaK6
import Derived.Test.YtnjdpgaofjbndaaSw65
set_option linter.unusedVariables false
set_option linter.unusedSimpArgs false
namespace Go.Proofs.Ytnjdpgaofjbndaa
open Go Go.RowKit Go.Sw Go.Ech
open Classical
theorem ty_fo_27_1:fieldOff Try.prog 27 1=some 1:=by kernel_rfl
theorem ty_ar_24:arrOf Try.prog 24=some (6,1):=by kernel_rfl
theorem ty_fo_27_0:fieldOff Try.prog 27 0=some 0:=by kernel_rfl
theorem ty_ag_27:aggP Try.prog 27=some 37:=by kernel_rfl
def lead (f:Nat→Nat):Nat→Nat
  | 0=>0
  | m+1=>if lead f m<m then lead f m else if f m=0 then m else m+1
theorem lead_spec (f:Nat→Nat):∀ n,lead f n≤n∧(∀ j,j<lead f n→f j≠0)∧(lead f n<n→f (lead f n)=0)
  | 0=>⟨Nat.le_refl _,fun j h=>absurd h (by simp [lead]),fun h=>absurd h (by simp [lead])⟩
  | m + 1 => by
    obtain ⟨h1,h2,h3⟩:=lead_spec f m
    by_cases e:lead f m<m
    · have e0:lead f (m+1)=lead f m:=by simp only [lead];rw [if_pos e]
      rw [e0]
      exact ⟨by omega,h2,fun _=>h3 e⟩
    · have e1:lead f m=m:=by omega
      by_cases e2:f m=0
      · have e0:lead f (m+1)=m:=by simp only [lead];rw [if_neg e,if_pos e2]
        rw [e0]
        exact ⟨by omega,fun j hj=>h2 j (by omega),fun _=>e2⟩
      · have e0:lead f (m+1)=m+1:=by simp only [lead];rw [if_neg e,if_neg e2]
        rw [e0]
        refine ⟨by omega,fun j hj=>?_,fun h=>absurd h (by omega)⟩
        by_cases e3:j=m
        · rw [e3];exact e2
        · exact h2 j (by omega)
theorem lead_eq {f:Nat→Nat}{n j:Nat}(hj:j<n)(h0:f j=0)(h:∀ i,i<j→f i≠0):lead f n=j:=by
  obtain ⟨h1,h2,h3⟩:=lead_spec f n;have a1:¬ lead f n<j:=fun hl=>h _ hl (h3 (by omega));have a2:¬ j<lead f n:=fun hl=>h2 j hl h0
  omega
theorem lead_none {f:Nat→Nat}{n:Nat}(h:∀ i,i<n→f i≠0):lead f n=n:=by
  obtain ⟨h1,h2,h3⟩:=lead_spec f n;have a1:¬ lead f n<n:=fun hl=>h _ hl (h3 hl)
  omega
theorem lead_lt {f:Nat→Nat}{n:Nat}(h:∃ j,j<n∧f j=0):lead f n<n:=by
  obtain ⟨h1,h2,h3⟩:=lead_spec f n;obtain ⟨j,hj,h0⟩:=h;have a2:¬ j<lead f n:=fun hl=>h2 j hl h0
  omega
def gElt (n:Nat) (M:Nat→Nat→Nat) (i j:Nat):Prop:=M i j<n∧(¬ (i<n∧j<n)→M i j=0)
def ElP (n:Nat) (M:Nat→Nat→Nat):Prop:=∀ i,i<6→∀ j,j<6→gElt n M i j
def UnP (n:Nat) (M:Nat→Nat→Nat):Prop:=∀ i,i<n→M 0 i=i∧M i 0=i
def InP (n:Nat) (M:Nat→Nat→Nat):Prop:=∀ i,i<n→∃ j,j<n∧M i j=0
def AsP (n:Nat) (M:Nat→Nat→Nat):Prop:=∀ i,i<n→∀ j,j<n→∀ k,k<n→M (M i j) k=M i (M j k)
def TabP (n:Nat) (M:Nat→Nat→Nat):Prop:=ElP n M∧UnP n M∧InP n M∧AsP n M
def GrpP (n:Int) (M:Nat→Nat→Nat):Prop:=1≤n∧n≤6∧TabP n.toNat M
theorem TabP.two {n:Nat}{M:Nat→Nat→Nat}(hn0:0<n)(hn:n≤6)(h:TabP n M){i:Nat}(hi:i<n):∃ j,j<n∧M i j=0∧M j i=0:=by
  obtain ⟨he,hu,hv,ha⟩:=h;obtain ⟨j,hj,h1⟩:=hv i hi;obtain ⟨k,hk,h2⟩:=hv j hj;have hc:∀ a b,a<n→b<n→M a b<n:=fun a b h3 h4=>(he a (by omega) b (by omega)).1;refine ⟨j,hj,h1,?_⟩;have e1:=ha (M j i) (hc _ _ hj hi) j hj k hk;have e2:=ha j hj i hi j hj;rw [h2,e2,h1,(hu j hj).2,h2,(hu _ (hc _ _ hj hi)).2] at e1;exact e1.symm
instance (n:Nat) (M:Nat→Nat→Nat) (i j:Nat):Decidable (gElt n M i j):=by unfold gElt;infer_instance
theorem times_ok (n:Int)(M:Nat→Nat→Nat)(i j:Nat)(w:World)(hB:∀ i j,M i j≤255)(hi:i<6)(hj:j<6) :
    CallsR Try.prog 41 #[.agg (grpC n M),.int .i64 (i:Int),.int .i64 (j:Int)] w (fun res _=>res = .int .i64 (M i j:Int)):=by
  refine calls_fr [.agg (grpC n M),.int .i64 (i:Int),.int .i64 (j:Int)] Try.func41 rfl Try.ntmps41 rfl fun a hF=>?_;have hM:Mem w w [none] []:=MemX.start w 1;change Fr 14 a [(0,.agg (grpC n M)),(1,.int .i64 (i:Int)),(2,.int .i64 (j:Int))] at hF;have hbij:=hB i j;refine sr<|stR hF (d_box 0 hM hF rfl) rfl ?_;rintro _ w' a ⟨b1,rfl,hM,-⟩ hF;change Mem w w' [some (b1,grpC n M)] [] at hM;refine ag hF rfl rfl fun a hF=>ns<|mv hF rfl rfl fun a hF=>mv hF rfl rfl fun a hF=>st hF (g_fieldAddr ty_fo_27_1 hF rfl) rfl fun a hF=>st hF (g_indexAddr ty_ar_25 hF rfl rfl rfl (by omega)) rfl fun a hF=>st hF (g_indexAddr ty_ar_24 hF rfl rfl rfl (by omega)) rfl fun a hF=>st hF (g_load ty_on_5 hF rfl (hM.row 0 rfl) (grpC_M (i) (j) (by omega) (by omega) (by omega))) rfl fun a hF=>st hF (g_conv ty_un_2 ty_ud_5 hF rfl (wrap_i64 (by omega) (by omega))) rfl fun a hF=>ag hF rfl rfl fun a hF=>nt<|wp_ret<|fin1 rfl hF.defers (res_tmp hF rfl) ⟨_,rfl,hM.below,?_⟩
  show _=_
  rfl
theorem hasElements_ok (n:Nat)(M:Nat→Nat→Nat)(w:World)(hn0:0<n)(hn:n≤6)(hB:∀ i j,M i j≤255) :
    CallsR Try.prog 37 #[.agg (grpC (n:Int) M)] w (fun res _=>res = .bool (decide (ElP n M))):=by
  refine calls_fr [.agg (grpC (n:Int) M)] Try.func37 rfl Try.ntmps37 rfl fun a hF=>?_;have hM:Mem w w [none,none] []:=MemX.start w 2;change Fr 44 a [(0,.agg (grpC (n:Int) M))] at hF;refine sr<|stR hF (d_box 0 hM hF rfl) rfl ?_;rintro _ w' a ⟨b1,rfl,hM,-⟩ hF;change Mem w w' [some (b1,grpC (n:Int) M),none] [] at hM;refine ag hF rfl rfl fun a hF=>nt<|sq<|sr<|st hF (g_fieldAddr ty_fo_27_1 hF rfl) rfl fun a hF=>st hF (g_loadAgg ty_ag_25 hF rfl (hM.row 0 rfl) (by simp only [sz0,grpC_size]<;>omega) (grpC_tab (by omega) (by omega))) rfl fun a hF=>mv hF rfl rfl fun a hF=>nt<|wp_block ?_;change Mem w _ [some (b1,grpC (n:Int) M),none] [] at hM;refine c_loop (fun (kk:Nat) a w'=>kk≤6∧(∀ i,i<kk→∀ j,j<6→gElt n M i j)∧Fr 44 a [(1,ptr b1 (0)),(9,.agg (planeC M)),(10,.int .i64 (kk:Int))]∧Mem w w' [some (b1,grpC (n:Int) M),none] []) (fun kk=>6 - kk) 0 ?_ ?_
  · refine ⟨by omega,fun i hi=>absurd hi (by omega),hF.sub _ (by repeat' constructor),?_⟩
    exact hM
  clear hF hM;rintro gi a w' ⟨hgi,hinv1,hF,hM⟩;refine sr<|st hF (g_lss hF rfl rfl) rfl fun a hF=>nt<|sq<|c_cond hF rfl (fun h2=>?_) (fun h2=>?_)
  · refine wp_skip ?_
    refine tN<|sq<|wp_block<|sr<|mv hF rfl rfl fun a hF=>st hF (g_indexA ty_ua_25 ty_ag_24 hF rfl rfl rfl (by omega) (planeC_row (gi) (by omega) (by omega) (by omega))) rfl fun a hF=>stR hF (d_alloc 1 hM ty_ze_24) rfl ?_;rintro _ w' a ⟨b3,rfl,hM,-⟩ hF;change Mem w w' [some (b1,grpC (n:Int) M),some (b3,fnC 6 (fun _=>.int .u8 (0)))] [] at hM;refine ag hF rfl rfl fun a hF=>stN hF (d_storeAgg 1 hM rfl ty_sz_24 hF rfl rfl (by first | exact vecC_one | exact cells_one | (refine fnC_one fun _ _=>?_;first | rfl | (split<;>rfl))) (by simp only [sz0,grpC_size]) (by simp only [sz0,grpC_size]<;>omega) (splice_whole _ _ (by simp only [sz0,grpC_size]))) ?_;intro _ w' a hM hF;change Mem w w' [some (b1,grpC (n:Int) M),some (b3,vecC (M (gi)))] [] at hM;refine ns<|st hF (g_loadAgg ty_ag_24 hF rfl (hM.row 1 rfl) (by simp only [sz0,grpC_size]<;>omega) (whole (by simp only [sz0,grpC_size]))) rfl fun a hF=>mv hF rfl rfl fun a hF=>nt<|wp_block ?_;change Mem w _ [some (b1,grpC (n:Int) M),some (b3,vecC (M (gi)))] [] at hM;refine c_loop (fun (kk:Nat) a w'=>kk≤6∧(∀ j,j<kk→gElt n M gi j)∧Fr 44 a [(1,ptr b1 (0)),(9,.agg (planeC M)),(10,.int .i64 (gi:Int)),(11,.bool (decide (((gi:Int):Int)<6))),(12,.int .i64 (gi:Int)),(13,.agg (vecC (M (gi)))),(4,ptr b3 (0)),(3,.int .i64 (gi:Int)),(14,.agg (vecC (M (gi)))),(15,.int .i64 (kk:Int))]∧Mem w w' [some (b1,grpC (n:Int) M),some (b3,vecC (M (gi)))] []) (fun kk=>6 - kk) 0 ?_ ?_
    · refine ⟨by omega,fun i hi=>absurd hi (by omega),hF.sub _ (by repeat' constructor),?_⟩
      exact hM
    clear hF hM;rintro gj a w' ⟨hgj,hinv2,hF,hM⟩;have hbb:=hB gi gj;refine sr<|st hF (g_lss hF rfl rfl) rfl fun a hF=>nt<|sq<|c_cond hF rfl (fun h4=>?_) (fun h4=>?_)
    · refine wp_skip ?_
      refine tN<|sq<|wp_block<|sr<|mv hF rfl rfl fun a hF=>st hF (g_index ty_ua_24 ty_on_5 hF rfl rfl rfl (by omega) (vecC_get (gj) (by omega) (by omega))) rfl fun a hF=>ag hF rfl rfl fun a hF=>ag hF rfl rfl fun a hF=>ns<|mv hF rfl rfl fun a hF=>st hF (g_fieldAddr ty_fo_27_0 hF rfl) rfl fun a hF=>st hF (g_load ty_on_2 hF rfl (hM.row 0 rfl) (grpC_n (by omega))) rfl fun a hF=>st hF (g_lss hF rfl rfl) rfl fun a hF=>mv hF rfl rfl fun a hF=>?_
      by_cases g5:((gi:Int):Int)<(n:Int)
      · first | rw [decide_eq_true g5] at hF | simp only [decide_eq_true g5] at hF
        refine stY hF rfl rfl rfl (g_move hF rfl) rfl fun a hF=>stY hF rfl rfl rfl (g_fieldAddr ty_fo_27_0 hF rfl) rfl fun a hF=>stY hF rfl rfl rfl (g_load ty_on_2 hF rfl (hM.row 0 rfl) (grpC_n (by omega))) rfl fun a hF=>stY hF rfl rfl rfl (g_lss hF rfl rfl) rfl fun a hF=>st hF (g_pickT hF rfl rfl) rfl fun a hF=>ag hF rfl rfl fun a hF=>ns<|mv hF rfl rfl fun a hF=>st hF (g_conv ty_un_2 ty_ud_5 hF rfl (wrap_i64 (by omega) (by omega))) rfl fun a hF=>st hF (g_fieldAddr ty_fo_27_0 hF rfl) rfl fun a hF=>st hF (g_load ty_on_2 hF rfl (hM.row 0 rfl) (grpC_n (by omega))) rfl fun a hF=>st hF (g_geq hF rfl rfl) rfl fun a hF=>mv hF rfl rfl fun a hF=>?_
        by_cases g6:(n:Int)≤((((M (gi)) (gj):Nat):Int):Int)
        · first | rw [decide_eq_true g6] at hF | simp only [decide_eq_true g6] at hF
          refine stS hF rfl rfl rfl rfl rfl fun a hF=>stS hF rfl rfl rfl rfl rfl fun a hF=>stS hF rfl rfl rfl rfl rfl fun a hF=>stU hF rfl rfl rfl rfl fun a hF=>stU hF rfl rfl rfl rfl fun a hF=>stS hF rfl rfl rfl rfl rfl fun a hF=>st hF (g_pickT hF rfl rfl) rfl fun a hF=>nt<|c_T hF rfl<|sr<|ag hF rfl rfl fun a hF=>nt<|wp_ret<|iR<|tR<|tR<|iR<|iR<|tR<|tR<|iR<|tR<|fin1 rfl hF.defers (res_tmp hF rfl) ⟨_,rfl,hM.below,?_⟩
          show _=_
          exact bool_f (fun hq=>by have hz:=hq gi (by omega) gj (by omega);unfold gElt at hz;omega)
        first | rw [decide_eq_false g6] at hF | simp only [decide_eq_false g6] at hF
        refine stY hF rfl rfl rfl (g_move hF rfl) rfl fun a hF=>stY hF rfl rfl rfl (g_notP hF rfl) rfl fun a hF=>stY hF rfl rfl rfl (g_move hF rfl) rfl fun a hF=>?_
        by_cases g8:¬ (((gj:Int):Int)<(n:Int))
        · first | rw [decide_eq_true g8] at hF | simp only [decide_eq_true g8] at hF
          refine stY hF rfl rfl rfl (g_move hF rfl) rfl fun a hF=>stY hF rfl rfl rfl (g_neq hF rfl rfl) rfl fun a hF=>stY hF rfl rfl rfl (g_pickT hF rfl rfl) rfl fun a hF=>st hF (g_pickF hF rfl rfl) rfl fun a hF=>nt<|c_cond hF rfl (fun h9=>?_) (fun h9=>?_)
          · refine sq ?_
            refine wp_region_lit<|ag hF rfl rfl fun a hF=>nt<|wp_ret<|iR<|tR<|tR<|iR<|iR<|tR<|tR<|iR<|tR<|fin1 rfl hF.defers (res_tmp hF rfl) ⟨_,rfl,hM.below,?_⟩
            show _=_
            exact bool_f (fun hq=>by have hz:=hq gi (by omega) gj (by omega);unfold gElt at hz;omega)
          refine wp_skip<|iN<|tN<|wp_region_lit<|st hF (g_add hF rfl rfl (add_nat (gj) (1) (by omega))) rfl fun a hF=>mv hF rfl rfl fun a hF=>nt<|⟨gj+1,⟨by omega,allS hinv2 (by unfold gElt;omega),hF.sub _ (by repeat' constructor),?_⟩,by omega⟩;exact hM
        first | rw [decide_eq_false g8] at hF | simp only [decide_eq_false g8] at hF
        refine stS hF rfl rfl rfl rfl rfl fun a hF=>stS hF rfl rfl rfl rfl rfl fun a hF=>stY hF rfl rfl rfl (g_pickF hF rfl rfl) rfl fun a hF=>st hF (g_pickF hF rfl rfl) rfl fun a hF=>nt<|c_Fl hF rfl<|wp_skip<|iN<|tN<|wp_region_lit<|st hF (g_add hF rfl rfl (add_nat (gj) (1) (by omega))) rfl fun a hF=>mv hF rfl rfl fun a hF=>nt<|⟨gj+1,⟨by omega,allS hinv2 (by unfold gElt;omega),hF.sub _ (by repeat' constructor),?_⟩,by omega⟩;exact hM
      first | rw [decide_eq_false g5] at hF | simp only [decide_eq_false g5] at hF
      refine stS hF rfl rfl rfl rfl rfl fun a hF=>stS hF rfl rfl rfl rfl rfl fun a hF=>stS hF rfl rfl rfl rfl rfl fun a hF=>stS hF rfl rfl rfl rfl rfl fun a hF=>st hF (g_pickF hF rfl rfl) rfl fun a hF=>ag hF rfl rfl fun a hF=>ns<|mv hF rfl rfl fun a hF=>st hF (g_conv ty_un_2 ty_ud_5 hF rfl (wrap_i64 (by omega) (by omega))) rfl fun a hF=>st hF (g_fieldAddr ty_fo_27_0 hF rfl) rfl fun a hF=>st hF (g_load ty_on_2 hF rfl (hM.row 0 rfl) (grpC_n (by omega))) rfl fun a hF=>st hF (g_geq hF rfl rfl) rfl fun a hF=>mv hF rfl rfl fun a hF=>?_
      by_cases g11:(n:Int)≤((((M (gi)) (gj):Nat):Int):Int)
      · first | rw [decide_eq_true g11] at hF | simp only [decide_eq_true g11] at hF
        refine stS hF rfl rfl rfl rfl rfl fun a hF=>stS hF rfl rfl rfl rfl rfl fun a hF=>stS hF rfl rfl rfl rfl rfl fun a hF=>stU hF rfl rfl rfl rfl fun a hF=>stU hF rfl rfl rfl rfl fun a hF=>stS hF rfl rfl rfl rfl rfl fun a hF=>st hF (g_pickT hF rfl rfl) rfl fun a hF=>nt<|c_T hF rfl<|sr<|ag hF rfl rfl fun a hF=>nt<|wp_ret<|iR<|tR<|tR<|iR<|iR<|tR<|tR<|iR<|tR<|fin1 rfl hF.defers (res_tmp hF rfl) ⟨_,rfl,hM.below,?_⟩
        show _=_
        exact bool_f (fun hq=>by have hz:=hq gi (by omega) gj (by omega);unfold gElt at hz;omega)
      first | rw [decide_eq_false g11] at hF | simp only [decide_eq_false g11] at hF
      refine stY hF rfl rfl rfl (g_move hF rfl) rfl fun a hF=>stY hF rfl rfl rfl (g_not (b:=false) hF rfl) rfl fun a hF=>stY hF rfl rfl rfl (g_move hF rfl) rfl fun a hF=>stY hF rfl rfl rfl (g_move hF rfl) rfl fun a hF=>stY hF rfl rfl rfl (g_neq hF rfl rfl) rfl fun a hF=>stY hF rfl rfl rfl (g_pickT hF rfl rfl) rfl fun a hF=>st hF (g_pickF hF rfl rfl) rfl fun a hF=>nt<|c_cond hF rfl (fun h13=>?_) (fun h13=>?_)
      · refine sq ?_
        refine wp_region_lit<|ag hF rfl rfl fun a hF=>nt<|wp_ret<|iR<|tR<|tR<|iR<|iR<|tR<|tR<|iR<|tR<|fin1 rfl hF.defers (res_tmp hF rfl) ⟨_,rfl,hM.below,?_⟩
        show _=_
        exact bool_f (fun hq=>by have hz:=hq gi (by omega) gj (by omega);unfold gElt at hz;omega)
      refine wp_skip<|iN<|tN<|wp_region_lit<|st hF (g_add hF rfl rfl (add_nat (gj) (1) (by omega))) rfl fun a hF=>mv hF rfl rfl fun a hF=>nt<|⟨gj+1,⟨by omega,allS hinv2 (by unfold gElt;omega),hF.sub _ (by repeat' constructor),?_⟩,by omega⟩;exact hM
    obtain rfl:6=gj:=by omega
    refine wp_exit<|tX<|tX<|ib_same<|iN<|tN<|wp_region_lit<|st hF (g_add hF rfl rfl (add_nat (gi) (1) (by omega))) rfl fun a hF=>mv hF rfl rfl fun a hF=>wpList_nil<|tN ?_;have hM:=hM.drop 1;refine ⟨gi+1,⟨by omega,allS hinv1 hinv2,hF.sub _ (by repeat' constructor),?_⟩,by omega⟩;exact hM
  obtain rfl:6=gi:=by omega
  refine wp_exit<|tX<|tX<|ib_same<|tN<|sr<|ag hF rfl rfl fun a hF=>nt<|wp_ret<|fin1 rfl hF.defers (res_tmp hF rfl) ⟨_,rfl,hM.below,?_⟩
  show _=_
  exact bool_t (hinv1)
theorem hasUnit_ok (n:Nat)(M:Nat→Nat→Nat)(w:World)(hn0:0<n)(hn:n≤6)(hB:∀ i j,M i j≤255) :
    CallsR Try.prog 38 #[.agg (grpC (n:Int) M)] w (fun res _=>res = .bool (decide (UnP n M))):=by
  refine calls_fr [.agg (grpC (n:Int) M)] Try.func38 rfl Try.ntmps38 rfl fun a hF=>?_;have hM:Mem w w [none] []:=MemX.start w 1;change Fr 22 a [(0,.agg (grpC (n:Int) M))] at hF;refine sr<|stR hF (d_box 0 hM hF rfl) rfl ?_;rintro _ w' a ⟨b1,rfl,hM,-⟩ hF;change Mem w w' [some (b1,grpC (n:Int) M)] [] at hM;refine ag hF rfl rfl fun a hF=>nt<|sq<|sr<|st hF (g_fieldAddr ty_fo_27_0 hF rfl) rfl fun a hF=>st hF (g_load ty_on_2 hF rfl (hM.row 0 rfl) (grpC_n (by omega))) rfl fun a hF=>mv hF rfl rfl fun a hF=>nt<|wp_block ?_;change Mem w _ [some (b1,grpC (n:Int) M)] [] at hM;refine c_loop (fun (kk:Nat) a w'=>kk≤n∧(∀ i,i<kk→M 0 i=i∧M i 0=i)∧Fr 22 a [(1,ptr b1 (0)),(5,.int .i64 (n:Int)),(6,.int .i64 (kk:Int))]∧Mem w w' [some (b1,grpC (n:Int) M)] []) (fun kk=>n - kk) 0 ?_ ?_
  · refine ⟨by omega,fun i hi=>absurd hi (by omega),hF.sub _ (by repeat' constructor),?_⟩
    exact hM
  clear hF hM;rintro gi a w' ⟨hgi,hinv1,hF,hM⟩;have hb1:=hB 0 gi;have hb2:=hB gi 0;refine sr<|st hF (g_lss hF rfl rfl) rfl fun a hF=>nt<|sq<|c_cond hF rfl (fun h2=>?_) (fun h2=>?_)
  · refine wp_skip ?_
    refine tN<|sq<|wp_block<|sr<|mv hF rfl rfl fun a hF=>ag hF rfl rfl fun a hF=>ns<|st hF (g_loadAgg ty_ag_27 hF rfl (hM.row 0 rfl) (by simp only [sz0,grpC_size]<;>omega) (whole (by simp only [sz0,grpC_size]))) rfl fun a hF=>mv hF rfl rfl fun a hF=>stR hF (d_call Try.call41 hF (.cons rfl (.cons rfl (.cons rfl .nil))) (times_ok (n:Int) M (0) (gi) _ hB (by omega) (by omega))) rfl ?_;rintro _ w' a ⟨hx,rfl⟩ hF;have hM:=hM.ext hx;refine mv hF rfl rfl fun a hF=>st hF (g_neq hF rfl rfl) rfl fun a hF=>mv hF rfl rfl fun a hF=>?_
    by_cases g3:((M (0) (gi):Int):Int)≠(gi:Int)
    · first | rw [decide_eq_true g3] at hF | simp only [decide_eq_true g3] at hF
      refine stS hF rfl rfl rfl rfl rfl fun a hF=>stS hF rfl rfl rfl rfl rfl fun a hF=>stS hF rfl rfl rfl rfl rfl fun a hF=>stS hF rfl rfl rfl rfl rfl fun a hF=>stS hF rfl rfl rfl rfl rfl fun a hF=>st hF (g_pickT hF rfl rfl) rfl fun a hF=>nt<|c_T hF rfl<|sr<|ag hF rfl rfl fun a hF=>nt<|wp_ret<|iR<|tR<|tR<|iR<|tR<|fin1 rfl hF.defers (res_tmp hF rfl) ⟨_,rfl,hM.below,?_⟩
      show _=_
      exact bool_f (fun hq=>by have hz:=hq gi (by omega);omega)
    first | rw [decide_eq_false g3] at hF | simp only [decide_eq_false g3] at hF
    refine stY hF rfl rfl rfl (g_loadAgg ty_ag_27 hF rfl (hM.row 0 rfl) (by simp only [sz0,grpC_size]<;>omega) (whole (by simp only [sz0,grpC_size]))) rfl fun a hF=>stY hF rfl rfl rfl (g_move hF rfl) rfl fun a hF=>stYR hF rfl rfl rfl (d_call Try.call41 hF (.cons rfl (.cons rfl (.cons rfl .nil))) (times_ok (n:Int) M (gi) (0) _ hB (by omega) (by omega))) rfl ?_;rintro _ w' a ⟨hx,rfl⟩ hF;have hM:=hM.ext hx;refine stY hF rfl rfl rfl (g_move hF rfl) rfl fun a hF=>stY hF rfl rfl rfl (g_neq hF rfl rfl) rfl fun a hF=>st hF (g_pickF hF rfl rfl) rfl fun a hF=>nt<|c_cond hF rfl (fun h5=>?_) (fun h5=>?_)
    · refine sq ?_
      refine wp_region_lit<|ag hF rfl rfl fun a hF=>nt<|wp_ret<|iR<|tR<|tR<|iR<|tR<|fin1 rfl hF.defers (res_tmp hF rfl) ⟨_,rfl,hM.below,?_⟩
      show _=_
      exact bool_f (fun hq=>by have hz:=hq gi (by omega);omega)
    refine wp_skip<|iN<|tN<|wp_region_lit<|st hF (g_add hF rfl rfl (add_nat (gi) (1) (by omega))) rfl fun a hF=>mv hF rfl rfl fun a hF=>nt<|⟨gi+1,⟨by omega,allS hinv1 (by omega),hF.sub _ (by repeat' constructor),?_⟩,by omega⟩;exact hM
  obtain rfl:n=gi:=by omega
  refine wp_exit<|tX<|tX<|ib_same<|tN<|sr<|ag hF rfl rfl fun a hF=>nt<|wp_ret<|fin1 rfl hF.defers (res_tmp hF rfl) ⟨_,rfl,hM.below,?_⟩
  show _=_
  exact bool_t (hinv1)
def invI (n:Nat) (M:Nat→Nat→Nat) (i:Nat):Int:=if lead (M i) n<n then (lead (M i) n:Int) else -1
theorem invI_pos {n:Nat}{M:Nat→Nat→Nat}{i:Nat}(h:¬ invI n M i<0):∃ j,j<n∧M i j=0:=by
  have hz:=lead_spec (M i) n
  unfold invI at h
  split at h
  · exact ⟨_,by assumption,hz.2.2 (by assumption)⟩
  · omega
theorem ElP.lt {n:Nat}{M:Nat→Nat→Nat}(h:ElP n M){i j:Nat}(hi:i<6)(hj:j<6):M i j<n:=(h i hi j hj).1
theorem inverse_ok (n:Nat)(M:Nat→Nat→Nat)(i:Nat)(w:World)(hn0:0<n)(hn:n≤6)(hB:∀ i j,M i j≤255)(hi:i<6) :
    CallsR Try.prog 53 #[.agg (grpC (n:Int) M),.int .i64 (i:Int)] w (fun res _=>res = .int .i64 (invI n M i)):=by
  refine calls_fr [.agg (grpC (n:Int) M),.int .i64 (i:Int)] Try.func53 rfl Try.ntmps53 rfl fun a hF=>?_;have hM:Mem w w [none] []:=MemX.start w 1;change Fr 18 a [(0,.agg (grpC (n:Int) M)),(1,.int .i64 (i:Int))] at hF;refine sr<|stR hF (d_box 0 hM hF rfl) rfl ?_;rintro _ w' a ⟨b1,rfl,hM,-⟩ hF;change Mem w w' [some (b1,grpC (n:Int) M)] [] at hM;refine ag hF rfl rfl fun a hF=>nt<|sq<|sr<|st hF (g_fieldAddr ty_fo_27_0 hF rfl) rfl fun a hF=>st hF (g_load ty_on_2 hF rfl (hM.row 0 rfl) (grpC_n (by omega))) rfl fun a hF=>mv hF rfl rfl fun a hF=>nt<|wp_block ?_;change Mem w _ [some (b1,grpC (n:Int) M)] [] at hM;refine c_loop (fun (kk:Nat) a w'=>kk≤n∧(∀ j,j<kk→M i j≠0)∧Fr 18 a [(1,.int .i64 (i:Int)),(2,ptr b1 (0)),(7,.int .i64 (n:Int)),(8,.int .i64 (kk:Int))]∧Mem w w' [some (b1,grpC (n:Int) M)] []) (fun kk=>n - kk) 0 ?_ ?_
  · refine ⟨by omega,fun i hi=>absurd hi (by omega),hF.sub _ (by repeat' constructor),?_⟩
    exact hM
  clear hF hM;rintro gj a w' ⟨hgj,hinv1,hF,hM⟩;have hbb:=hB i gj;refine sr<|st hF (g_lss hF rfl rfl) rfl fun a hF=>nt<|sq<|c_cond hF rfl (fun h2=>?_) (fun h2=>?_)
  · refine wp_skip ?_
    refine tN<|sq<|wp_block<|sr<|mv hF rfl rfl fun a hF=>ag hF rfl rfl fun a hF=>ns<|st hF (g_loadAgg ty_ag_27 hF rfl (hM.row 0 rfl) (by simp only [sz0,grpC_size]<;>omega) (whole (by simp only [sz0,grpC_size]))) rfl fun a hF=>mv hF rfl rfl fun a hF=>mv hF rfl rfl fun a hF=>stR hF (d_call Try.call41 hF (.cons rfl (.cons rfl (.cons rfl .nil))) (times_ok (n:Int) M (i) (gj) _ hB (by omega) (by omega))) rfl ?_;rintro _ w' a ⟨hx,rfl⟩ hF;have hM:=hM.ext hx;refine st hF (g_eql hF rfl rfl) rfl fun a hF=>nt<|c_cond hF rfl (fun h3=>?_) (fun h3=>?_)
    · refine sq ?_
      refine wp_region_lit<|mv hF rfl rfl fun a hF=>ag hF rfl rfl fun a hF=>nt<|wp_ret<|iR<|tR<|tR<|iR<|tR<|fin1 rfl hF.defers (res_tmp hF rfl) ⟨_,rfl,hM.below,?_⟩
      show _=_
      exact congrArg (Value.int .i64) (by unfold invI;rw [lead_eq (j:=gj) (by omega) (by omega) hinv1,if_pos (by omega)])
    refine wp_skip<|iN<|tN<|wp_region_lit<|st hF (g_add hF rfl rfl (add_nat (gj) (1) (by omega))) rfl fun a hF=>mv hF rfl rfl fun a hF=>nt<|⟨gj+1,⟨by omega,allS hinv1 (by omega),hF.sub _ (by repeat' constructor),?_⟩,by omega⟩;exact hM
  obtain rfl:n=gj:=by omega
  refine wp_exit<|tX<|tX<|ib_same<|tN<|sr<|ag hF rfl rfl fun a hF=>nt<|wp_ret<|fin1 rfl hF.defers (res_tmp hF rfl) ⟨_,rfl,hM.below,?_⟩
  show _=_
  exact congrArg (Value.int .i64) (by unfold invI;rw [lead_none hinv1,if_neg (by omega)])
theorem hasInverses_ok (n:Nat)(M:Nat→Nat→Nat)(w:World)(hn0:0<n)(hn:n≤6)(hB:∀ i j,M i j≤255) :
    CallsR Try.prog 39 #[.agg (grpC (n:Int) M)] w (fun res _=>res = .bool (decide (InP n M))):=by
  refine calls_fr [.agg (grpC (n:Int) M)] Try.func39 rfl Try.ntmps39 rfl fun a hF=>?_;have hM:Mem w w [none] []:=MemX.start w 1;change Fr 14 a [(0,.agg (grpC (n:Int) M))] at hF;refine sr<|stR hF (d_box 0 hM hF rfl) rfl ?_;rintro _ w' a ⟨b1,rfl,hM,-⟩ hF;change Mem w w' [some (b1,grpC (n:Int) M)] [] at hM;refine ag hF rfl rfl fun a hF=>nt<|sq<|sr<|st hF (g_fieldAddr ty_fo_27_0 hF rfl) rfl fun a hF=>st hF (g_load ty_on_2 hF rfl (hM.row 0 rfl) (grpC_n (by omega))) rfl fun a hF=>mv hF rfl rfl fun a hF=>nt<|wp_block ?_;change Mem w _ [some (b1,grpC (n:Int) M)] [] at hM;refine c_loop (fun (kk:Nat) a w'=>kk≤n∧(∀ i,i<kk→∃ j,j<n∧M i j=0)∧Fr 14 a [(1,ptr b1 (0)),(5,.int .i64 (n:Int)),(6,.int .i64 (kk:Int))]∧Mem w w' [some (b1,grpC (n:Int) M)] []) (fun kk=>n - kk) 0 ?_ ?_
  · refine ⟨by omega,fun i hi=>absurd hi (by omega),hF.sub _ (by repeat' constructor),?_⟩
    exact hM
  clear hF hM;rintro gi a w' ⟨hgi,hinv1,hF,hM⟩;refine sr<|st hF (g_lss hF rfl rfl) rfl fun a hF=>nt<|sq<|c_cond hF rfl (fun h2=>?_) (fun h2=>?_)
  · refine wp_skip ?_
    refine tN<|sq<|wp_block<|sr<|mv hF rfl rfl fun a hF=>ag hF rfl rfl fun a hF=>ns<|st hF (g_loadAgg ty_ag_27 hF rfl (hM.row 0 rfl) (by simp only [sz0,grpC_size]<;>omega) (whole (by simp only [sz0,grpC_size]))) rfl fun a hF=>mv hF rfl rfl fun a hF=>stR hF (d_call Try.call53 hF (.cons rfl (.cons rfl .nil)) (inverse_ok n M (gi) _ hn0 hn hB (by omega))) rfl ?_;rintro _ w' a ⟨hx,rfl⟩ hF;have hM:=hM.ext hx;refine st hF (g_lss hF rfl rfl) rfl fun a hF=>nt<|c_cond hF rfl (fun h3=>?_) (fun h3=>?_)
    · refine sq ?_
      refine wp_region_lit<|ag hF rfl rfl fun a hF=>nt<|wp_ret<|iR<|tR<|tR<|iR<|tR<|fin1 rfl hF.defers (res_tmp hF rfl) ⟨_,rfl,hM.below,?_⟩
      show _=_
      exact bool_f (fun hq=>by have hz:=lead_lt (hq gi (by omega));have hz2:invI n M gi<0:=(by assumption);unfold invI at hz2;rw [if_pos hz] at hz2;exact absurd hz2 (by omega))
    refine wp_skip<|iN<|tN<|wp_region_lit<|st hF (g_add hF rfl rfl (add_nat (gi) (1) (by omega))) rfl fun a hF=>mv hF rfl rfl fun a hF=>nt<|⟨gi+1,⟨by omega,allS hinv1 (invI_pos (by assumption)),hF.sub _ (by repeat' constructor),?_⟩,by omega⟩;exact hM
  obtain rfl:n=gi:=by omega
  refine wp_exit<|tX<|tX<|ib_same<|tN<|sr<|ag hF rfl rfl fun a hF=>nt<|wp_ret<|fin1 rfl hF.defers (res_tmp hF rfl) ⟨_,rfl,hM.below,?_⟩
  show _=_
  exact bool_t (hinv1)
theorem isAss_ok (n:Nat)(M:Nat→Nat→Nat)(w:World)(hn0:0<n)(hn:n≤6)(hB:∀ i j,M i j≤255)(hE:ElP n M) :
    CallsR Try.prog 40 #[.agg (grpC (n:Int) M)] w (fun res _=>res = .bool (decide (AsP n M))):=by
  refine calls_fr [.agg (grpC (n:Int) M)] Try.func40 rfl Try.ntmps40 rfl fun a hF=>?_;have hM:Mem w w [none] []:=MemX.start w 1;change Fr 39 a [(0,.agg (grpC (n:Int) M))] at hF;refine sr<|stR hF (d_box 0 hM hF rfl) rfl ?_;rintro _ w' a ⟨b1,rfl,hM,-⟩ hF;change Mem w w' [some (b1,grpC (n:Int) M)] [] at hM;refine ag hF rfl rfl fun a hF=>nt<|sq<|sr<|st hF (g_fieldAddr ty_fo_27_0 hF rfl) rfl fun a hF=>st hF (g_load ty_on_2 hF rfl (hM.row 0 rfl) (grpC_n (by omega))) rfl fun a hF=>mv hF rfl rfl fun a hF=>nt<|wp_block ?_;change Mem w _ [some (b1,grpC (n:Int) M)] [] at hM;refine c_loop (fun (kk:Nat) a w'=>kk≤n∧(∀ i,i<kk→∀ j,j<n→∀ k,k<n→M (M i j) k=M i (M j k))∧Fr 39 a [(1,ptr b1 (0)),(7,.int .i64 (n:Int)),(8,.int .i64 (kk:Int))]∧Mem w w' [some (b1,grpC (n:Int) M)] []) (fun kk=>n - kk) 0 ?_ ?_
  · refine ⟨by omega,fun i hi=>absurd hi (by omega),hF.sub _ (by repeat' constructor),?_⟩
    exact hM
  clear hF hM;rintro gi a w' ⟨hgi,hinv1,hF,hM⟩;refine sr<|st hF (g_lss hF rfl rfl) rfl fun a hF=>nt<|sq<|c_cond hF rfl (fun h2=>?_) (fun h2=>?_)
  · refine wp_skip ?_
    refine tN<|sq<|wp_block<|sr<|mv hF rfl rfl fun a hF=>ag hF rfl rfl fun a hF=>ns<|st hF (g_fieldAddr ty_fo_27_0 hF rfl) rfl fun a hF=>st hF (g_load ty_on_2 hF rfl (hM.row 0 rfl) (grpC_n (by omega))) rfl fun a hF=>mv hF rfl rfl fun a hF=>nt<|wp_block ?_;change Mem w _ [some (b1,grpC (n:Int) M)] [] at hM;refine c_loop (fun (kk:Nat) a w'=>kk≤n∧(∀ j,j<kk→∀ k,k<n→M (M gi j) k=M gi (M j k))∧Fr 39 a [(1,ptr b1 (0)),(7,.int .i64 (n:Int)),(8,.int .i64 (gi:Int)),(9,.bool (decide (((gi:Int):Int)<(n:Int)))),(10,.int .i64 (gi:Int)),(3,.int .i64 (gi:Int)),(11,ptr b1 (0+0)),(12,.int .i64 (n:Int)),(13,.int .i64 (kk:Int))]∧Mem w w' [some (b1,grpC (n:Int) M)] []) (fun kk=>n - kk) 0 ?_ ?_
    · refine ⟨by omega,fun i hi=>absurd hi (by omega),hF.sub _ (by repeat' constructor),?_⟩
      exact hM
    clear hF hM;rintro gj a w' ⟨hgj,hinv2,hF,hM⟩;refine sr<|st hF (g_lss hF rfl rfl) rfl fun a hF=>nt<|sq<|c_cond hF rfl (fun h3=>?_) (fun h3=>?_)
    · refine wp_skip ?_
      refine tN<|sq<|wp_block<|sr<|mv hF rfl rfl fun a hF=>ag hF rfl rfl fun a hF=>ns<|st hF (g_fieldAddr ty_fo_27_0 hF rfl) rfl fun a hF=>st hF (g_load ty_on_2 hF rfl (hM.row 0 rfl) (grpC_n (by omega))) rfl fun a hF=>mv hF rfl rfl fun a hF=>nt<|wp_block ?_;change Mem w _ [some (b1,grpC (n:Int) M)] [] at hM;refine c_loop (fun (kk:Nat) a w'=>kk≤n∧(∀ k,k<kk→M (M gi gj) k=M gi (M gj k))∧Fr 39 a [(1,ptr b1 (0)),(7,.int .i64 (n:Int)),(8,.int .i64 (gi:Int)),(9,.bool (decide (((gi:Int):Int)<(n:Int)))),(10,.int .i64 (gi:Int)),(3,.int .i64 (gi:Int)),(11,ptr b1 (0+0)),(12,.int .i64 (n:Int)),(13,.int .i64 (gj:Int)),(14,.bool (decide (((gj:Int):Int)<(n:Int)))),(15,.int .i64 (gj:Int)),(4,.int .i64 (gj:Int)),(16,ptr b1 (0+0)),(17,.int .i64 (n:Int)),(18,.int .i64 (kk:Int))]∧Mem w w' [some (b1,grpC (n:Int) M)] []) (fun kk=>n - kk) 0 ?_ ?_
      · refine ⟨by omega,fun i hi=>absurd hi (by omega),hF.sub _ (by repeat' constructor),?_⟩
        exact hM
      clear hF hM;rintro gk a w' ⟨hgk,hinv3,hF,hM⟩;have hbij:=hE.lt (i:=gi) (j:=gj) (by omega) (by omega);have hbjk:gk<n→M gj gk<n:=fun hq=>hE.lt (by omega) (by omega);refine sr<|st hF (g_lss hF rfl rfl) rfl fun a hF=>nt<|sq<|c_cond hF rfl (fun h4=>?_) (fun h4=>?_)
      · refine wp_skip ?_
        refine tN<|sq<|wp_block<|sr<|mv hF rfl rfl fun a hF=>ag hF rfl rfl fun a hF=>nt<|sq<|c_par 13 [] [.val (.agg (grpC (n:Int) M)),.val (.agg (grpC (n:Int) M)),.val (.int .i64 (gi:Int)),.val (.int .i64 (gj:Int)),.val (.int .i64 ((M (gi) (gj):Int))),.val (.int .i64 (gk:Int)),.val (.int .i64 ((M (M (gi) (gj)) (gk):Int))),.val (.agg (grpC (n:Int) M)),.val (.int .i64 (gi:Int)),.val (.agg (grpC (n:Int) M)),.val (.int .i64 (gj:Int)),.val (.int .i64 (gk:Int)),.val (.int .i64 ((M (gj) (gk):Int)))] hmix rfl hF rfl hM ⟨fun a w gG hF hS hd=>by have hM:=hS.mem rfl;exact par_val hS rfl (g_loadAgg ty_ag_27 hF rfl (hM.row 0 rfl) (by simp only [sz0,grpC_size]<;>omega) (whole (by simp only [sz0,grpC_size]))),fun a w gG hF hS hd=>by have hM:=hS.mem rfl;exact par_val hS rfl (g_loadAgg ty_ag_27 hF rfl (hM.row 0 rfl) (by simp only [sz0,grpC_size]<;>omega) (whole (by simp only [sz0,grpC_size]))),fun a w gG hF hS hd=>by exact pmv hS rfl hF rfl,fun a w gG hF hS hd=>by exact pmv hS rfl hF rfl,fun a w gG hF hS hd=>by have hF:=hF.ext1 22 (hd 1 rfl rfl);have hF:=hF.ext1 23 (hd 2 rfl rfl);have hF:=hF.ext1 24 (hd 3 rfl rfl);exact par_call (by repeat constructor) hS rfl (d_call Try.call41 hF (.cons rfl (.cons rfl (.cons rfl .nil))) (times_ok (n:Int) M (gi) (gj) _ hB (by omega) (by omega))),fun a w gG hF hS hd=>by exact pmv hS rfl hF rfl,fun a w gG hF hS hd=>by have hF:=hF.ext1 21 (hd 0 rfl rfl);have hF:=hF.ext1 25 (hd 4 rfl rfl);have hF:=hF.ext1 26 (hd 5 rfl rfl);exact par_call (by repeat constructor) hS rfl (d_call Try.call41 hF (.cons rfl (.cons rfl (.cons rfl .nil))) (times_ok (n:Int) M (M (gi) (gj)) (gk) _ hB (by omega) (by omega))),fun a w gG hF hS hd=>by have hM:=hS.mem rfl;exact par_val hS rfl (g_loadAgg ty_ag_27 hF rfl (hM.row 0 rfl) (by simp only [sz0,grpC_size]<;>omega) (whole (by simp only [sz0,grpC_size]))),fun a w gG hF hS hd=>by exact pmv hS rfl hF rfl,fun a w gG hF hS hd=>by have hM:=hS.mem rfl;exact par_val hS rfl (g_loadAgg ty_ag_27 hF rfl (hM.row 0 rfl) (by simp only [sz0,grpC_size]<;>omega) (whole (by simp only [sz0,grpC_size]))),fun a w gG hF hS hd=>by exact pmv hS rfl hF rfl,fun a w gG hF hS hd=>by exact pmv hS rfl hF rfl,fun a w gG hF hS hd=>by have hF:=hF.ext1 30 (hd 9 rfl rfl);have hF:=hF.ext1 31 (hd 10 rfl rfl);have hF:=hF.ext1 32 (hd 11 rfl rfl);exact par_call (by repeat constructor) hS rfl (d_call Try.call41 hF (.cons rfl (.cons rfl (.cons rfl .nil))) (times_ok (n:Int) M (gj) (gk) _ hB (by omega) (by omega))),trivial⟩ ?_;intro a w' L hF hS hq;have hF:=hF.ext1 21 (hq 0 rfl rfl);have hF:=hF.ext1 22 (hq 1 rfl rfl);have hF:=hF.ext1 23 (hq 2 rfl rfl);have hF:=hF.ext1 24 (hq 3 rfl rfl);have hF:=hF.ext1 25 (hq 4 rfl rfl);have hF:=hF.ext1 26 (hq 5 rfl rfl);have hF:=hF.ext1 27 (hq 6 rfl rfl);have hF:=hF.ext1 28 (hq 7 rfl rfl);have hF:=hF.ext1 29 (hq 8 rfl rfl);have hF:=hF.ext1 30 (hq 9 rfl rfl);have hF:=hF.ext1 31 (hq 10 rfl rfl);have hF:=hF.ext1 32 (hq 11 rfl rfl);have hF:=hF.ext1 33 (hq 12 rfl rfl);have hM:=hS.mem rfl;change wpList Try.prog _ _ [_,_] _ _;refine stR hF (d_call Try.call41 hF (.cons rfl (.cons rfl (.cons rfl .nil))) (times_ok (n:Int) M (gi) (M (gj) (gk)) _ hB (by omega) (by omega))) rfl ?_;rintro _ w' a ⟨hx,rfl⟩ hF;have hM:=hM.ext hx;refine st hF (g_neq hF rfl rfl) rfl fun a hF=>nt<|c_cond hF rfl (fun h5=>?_) (fun h5=>?_)
        · refine sq ?_
          refine wp_region_lit<|ag hF rfl rfl fun a hF=>nt<|wp_ret<|iR<|tR<|tR<|iR<|iR<|tR<|tR<|iR<|iR<|tR<|tR<|iR<|tR<|fin1 rfl hF.defers (res_tmp hF rfl) ⟨_,rfl,hM.below,?_⟩
          show _=_
          exact bool_f (fun hq=>by have hz:=hq gi (by omega) gj (by omega) gk (by omega);omega)
        refine wp_skip<|iN<|tN<|wp_region_lit<|st hF (g_add hF rfl rfl (add_nat (gk) (1) (by omega))) rfl fun a hF=>mv hF rfl rfl fun a hF=>nt<|⟨gk+1,⟨by omega,allS hinv3 (by omega),hF.sub _ (by repeat' constructor),?_⟩,by omega⟩;exact hM
      obtain rfl:n=gk:=by omega
      refine wp_exit<|tX<|tX<|ib_same<|iN<|tN<|wp_region_lit<|st hF (g_add hF rfl rfl (add_nat (gj) (1) (by omega))) rfl fun a hF=>mv hF rfl rfl fun a hF=>nt<|⟨gj+1,⟨by omega,allS hinv2 hinv3,hF.sub _ (by repeat' constructor),?_⟩,by omega⟩;exact hM
    obtain rfl:n=gj:=by omega
    refine wp_exit<|tX<|tX<|ib_same<|iN<|tN<|wp_region_lit<|st hF (g_add hF rfl rfl (add_nat (gi) (1) (by omega))) rfl fun a hF=>mv hF rfl rfl fun a hF=>nt<|⟨gi+1,⟨by omega,allS hinv1 hinv2,hF.sub _ (by repeat' constructor),?_⟩,by omega⟩;exact hM
  obtain rfl:n=gi:=by omega
  refine wp_exit<|tX<|tX<|ib_same<|tN<|sr<|ag hF rfl rfl fun a hF=>nt<|wp_ret<|fin1 rfl hF.defers (res_tmp hF rfl) ⟨_,rfl,hM.below,?_⟩
  show _=_
  exact bool_t (hinv1)
theorem IsGroupI_ok (n:Nat)(M:Nat→Nat→Nat)(w:World)(hn0:0<n)(hn:n≤6)(hB:∀ i j,M i j≤255) :
    CallsR Try.prog 16 #[.agg (grpC (n:Int) M)] w (fun res _=>res = .bool (decide (TabP n M))):=by
  refine calls_fr [.agg (grpC (n:Int) M)] Try.func16 rfl Try.ntmps16 rfl fun a hF=>?_;have hM:Mem w w [none] []:=MemX.start w 1;change Fr 26 a [(0,.agg (grpC (n:Int) M))] at hF;refine sr<|stR hF (d_box 0 hM hF rfl) rfl ?_;rintro _ w' a ⟨b1,rfl,hM,-⟩ hF;change Mem w w' [some (b1,grpC (n:Int) M)] [] at hM;refine ag hF rfl rfl fun a hF=>nt<|sq<|sr<|st hF (g_fieldAddr ty_fo_27_0 hF rfl) rfl fun a hF=>st hF (g_load ty_on_2 hF rfl (hM.row 0 rfl) (grpC_n (by omega))) rfl fun a hF=>st hF (g_lss hF rfl rfl) rfl fun a hF=>mv hF rfl rfl fun a hF=>?_
  by_cases g2:((n:Int):Int)<1
  · first | rw [decide_eq_true g2] at hF | simp only [decide_eq_true g2] at hF
    refine stS hF rfl rfl rfl rfl rfl fun a hF=>stS hF rfl rfl rfl rfl rfl fun a hF=>stS hF rfl rfl rfl rfl rfl fun a hF=>st hF (g_pickT hF rfl rfl) rfl fun a hF=>mv hF rfl rfl fun a hF=>stS hF rfl rfl rfl rfl rfl fun a hF=>stS hF rfl rfl rfl rfl rfl fun a hF=>stS hF rfl rfl rfl rfl rfl fun a hF=>st hF (g_pickT hF rfl rfl) rfl fun a hF=>nt<|c_T hF rfl<|sr<|ag hF rfl rfl fun a hF=>nt<|wp_ret<|tR<|fin1 rfl hF.defers (res_tmp hF rfl) ⟨_,rfl,hM.below,?_⟩
    show _=_
    exact bool_f (fun hq=>by first | omega | exact absurd hq.1 (by assumption) | exact absurd hq.2.1 (by assumption) | exact absurd hq.2.2.1 (by assumption))
  first | rw [decide_eq_false g2] at hF | simp only [decide_eq_false g2] at hF
  refine stY hF rfl rfl rfl (g_fieldAddr ty_fo_27_0 hF rfl) rfl fun a hF=>stY hF rfl rfl rfl (g_load ty_on_2 hF rfl (hM.row 0 rfl) (grpC_n (by omega))) rfl fun a hF=>stY hF rfl rfl rfl (g_gtr hF rfl rfl) rfl fun a hF=>st hF (g_pickF hF rfl rfl) rfl fun a hF=>mv hF rfl rfl fun a hF=>?_
  by_cases g4:6<((n:Int):Int)
  · first | rw [decide_eq_true g4] at hF | simp only [decide_eq_true g4] at hF
    refine stS hF rfl rfl rfl rfl rfl fun a hF=>stS hF rfl rfl rfl rfl rfl fun a hF=>stS hF rfl rfl rfl rfl rfl fun a hF=>st hF (g_pickT hF rfl rfl) rfl fun a hF=>nt<|c_T hF rfl<|sr<|ag hF rfl rfl fun a hF=>nt<|wp_ret<|tR<|fin1 rfl hF.defers (res_tmp hF rfl) ⟨_,rfl,hM.below,?_⟩
    show _=_
    exact bool_f (fun hq=>by first | omega | exact absurd hq.1 (by assumption) | exact absurd hq.2.1 (by assumption) | exact absurd hq.2.2.1 (by assumption))
  first | rw [decide_eq_false g4] at hF | simp only [decide_eq_false g4] at hF
  refine stY hF rfl rfl rfl (g_loadAgg ty_ag_27 hF rfl (hM.row 0 rfl) (by simp only [sz0,grpC_size]<;>omega) (whole (by simp only [sz0,grpC_size]))) rfl fun a hF=>stYR hF rfl rfl rfl (d_call Try.call37 hF (.cons rfl .nil) (hasElements_ok n M _ hn0 hn hB)) rfl ?_;rintro _ w' a ⟨hx,rfl⟩ hF;have hM:=hM.ext hx;refine stY hF rfl rfl rfl (g_notP hF rfl) rfl fun a hF=>st hF (g_pickF hF rfl rfl) rfl fun a hF=>nt<|c_cond hF rfl (fun h6=>?_) (fun h6=>?_)
  · refine sq ?_
    refine wp_region_lit<|ag hF rfl rfl fun a hF=>nt<|wp_ret<|tR<|fin1 rfl hF.defers (res_tmp hF rfl) ⟨_,rfl,hM.below,?_⟩
    show _=_
    exact bool_f (fun hq=>by first | omega | exact absurd hq.1 (by assumption) | exact absurd hq.2.1 (by assumption) | exact absurd hq.2.2.1 (by assumption))
  refine wp_skip<|tN<|sr<|st hF (g_loadAgg ty_ag_27 hF rfl (hM.row 0 rfl) (by simp only [sz0,grpC_size]<;>omega) (whole (by simp only [sz0,grpC_size]))) rfl fun a hF=>stR hF (d_call Try.call38 hF (.cons rfl .nil) (hasUnit_ok n M _ hn0 hn hB)) rfl ?_;rintro _ w' a ⟨hx,rfl⟩ hF;have hM:=hM.ext hx;refine mv hF rfl rfl fun a hF=>?_
  by_cases g7:UnP n M
  · first | rw [decide_eq_true g7] at hF | simp only [decide_eq_true g7] at hF
    refine stY hF rfl rfl rfl (g_loadAgg ty_ag_27 hF rfl (hM.row 0 rfl) (by simp only [sz0,grpC_size]<;>omega) (whole (by simp only [sz0,grpC_size]))) rfl fun a hF=>stYR hF rfl rfl rfl (d_call Try.call39 hF (.cons rfl .nil) (hasInverses_ok n M _ hn0 hn hB)) rfl ?_;rintro _ w' a ⟨hx,rfl⟩ hF;have hM:=hM.ext hx;refine st hF (g_pickT hF rfl rfl) rfl fun a hF=>mv hF rfl rfl fun a hF=>?_
    by_cases g8:InP n M
    · first | rw [decide_eq_true g8] at hF | simp only [decide_eq_true g8] at hF
      refine stY hF rfl rfl rfl (g_loadAgg ty_ag_27 hF rfl (hM.row 0 rfl) (by simp only [sz0,grpC_size]<;>omega) (whole (by simp only [sz0,grpC_size]))) rfl fun a hF=>stYR hF rfl rfl rfl (d_call Try.call40 hF (.cons rfl .nil) (isAss_ok n M _ hn0 hn hB (by first | assumption | exact Decidable.not_not.1 (by assumption)))) rfl ?_;rintro _ w' a ⟨hx,rfl⟩ hF;have hM:=hM.ext hx;refine st hF (g_pickT hF rfl rfl) rfl fun a hF=>ag hF rfl rfl fun a hF=>nt<|wp_ret<|fin1 rfl hF.defers (res_tmp hF rfl) ⟨_,rfl,hM.below,?_⟩
      show _=_
      exact congrArg Value.bool (decide_eq_decide.2 ⟨fun h=>⟨by first | assumption | exact Decidable.not_not.1 (by assumption),by assumption,by assumption,h⟩,fun h=>h.2.2.2⟩)
    first | rw [decide_eq_false g8] at hF | simp only [decide_eq_false g8] at hF
    refine stS hF rfl rfl rfl rfl rfl fun a hF=>stS hF rfl rfl rfl rfl rfl fun a hF=>st hF (g_pickF hF rfl rfl) rfl fun a hF=>ag hF rfl rfl fun a hF=>nt<|wp_ret<|fin1 rfl hF.defers (res_tmp hF rfl) ⟨_,rfl,hM.below,?_⟩
    show _=_
    exact bool_f (fun hq=>by first | omega | exact absurd hq.1 (by assumption) | exact absurd hq.2.1 (by assumption) | exact absurd hq.2.2.1 (by assumption))
  first | rw [decide_eq_false g7] at hF | simp only [decide_eq_false g7] at hF
  refine stS hF rfl rfl rfl rfl rfl fun a hF=>stS hF rfl rfl rfl rfl rfl fun a hF=>st hF (g_pickF hF rfl rfl) rfl fun a hF=>mv hF rfl rfl fun a hF=>stS hF rfl rfl rfl rfl rfl fun a hF=>stS hF rfl rfl rfl rfl rfl fun a hF=>st hF (g_pickF hF rfl rfl) rfl fun a hF=>ag hF rfl rfl fun a hF=>nt<|wp_ret<|fin1 rfl hF.defers (res_tmp hF rfl) ⟨_,rfl,hM.below,?_⟩
  show _=_
  exact bool_f (fun hq=>by first | omega | exact absurd hq.1 (by assumption) | exact absurd hq.2.1 (by assumption) | exact absurd hq.2.2.1 (by assumption))
theorem bstep {b b':Bool}{k:Nat}{P:Nat→Prop}(h:b=true↔∃ j,j<k∧P j)(e:b'=true↔b=true∨P k):b'=true↔∃ j,j<k+1∧P j:=by
  rw [e,h]
  constructor
  · rintro (⟨j,h1,h2⟩ | h1)
    · exact ⟨j,by omega,h2⟩
    · exact ⟨k,by omega,h1⟩
  · rintro ⟨j,h1,h2⟩
    by_cases e:j=k
    · subst e;exact Or.inr h2
    · exact Or.inl ⟨j,by omega,h2⟩
theorem bo_of {b:Bool}(h:(!(b))=false):b=true:=by simpa using h
theorem bo_not {b:Bool}(h:(!(b))=true):¬ b=true:=by simpa using h
theorem bq_t {b:Bool}{P:Prop}(h:b=true∨P):true=true↔b=true∨P:=⟨fun _=>h,fun _=>rfl⟩
theorem bq_f {b:Bool}{P:Prop}(h:¬ (b=true∨P)):false=true↔b=true∨P:=⟨fun h=>absurd h (by simp),fun q=>absurd q h⟩
theorem bq_d {b:Bool}{P Q:Prop}[Decidable Q](h:Q↔b=true∨P):decide Q=true↔b=true∨P:=by rw [decide_eq_true_eq];exact h
theorem l06Is_ok (n:Nat)(M:Nat→Nat→Nat)(w:World)(hn0:0<n)(hn:n≤6)(hB:∀ i j,M i j≤255) :
    CallsR Try.prog 19 #[.agg (grpC (n:Int) M)] w (fun res _=>res = .bool (decide (TabP n M))):=by
  refine calls_fr [.agg (grpC (n:Int) M)] Try.func19 rfl Try.ntmps19 rfl fun a hF=>?_;have hM:Mem w w [none] []:=MemX.start w 1;change Fr 126 a [(0,.agg (grpC (n:Int) M))] at hF;refine sr<|stR hF (d_box 0 hM hF rfl) rfl ?_;rintro _ w' a ⟨b1,rfl,hM,-⟩ hF;change Mem w w' [some (b1,grpC (n:Int) M)] [] at hM;refine ag hF rfl rfl fun a hF=>ns<|st hF (g_fieldAddr ty_fo_27_0 hF rfl) rfl fun a hF=>st hF (g_load ty_on_2 hF rfl (hM.row 0 rfl) (grpC_n (by omega))) rfl fun a hF=>ag hF rfl rfl fun a hF=>nt<|sq<|sr<|mv hF rfl rfl fun a hF=>stR hF (d_call Try.call20 hF (.cons rfl (.cons rfl (.cons rfl .nil))) (l01In_ok (n:Int) (1) (6) _)) rfl ?_;rintro _ w' a ⟨hx,rfl⟩ hF;have hM:=hM.ext hx;refine st hF (g_notP hF rfl) rfl fun a hF=>nt<|c_cond hF rfl (fun h2=>?_) (fun h2=>?_)
  · refine sq ?_
    refine wp_region_lit<|ag hF rfl rfl fun a hF=>nt<|wp_ret<|tR<|fin1 rfl hF.defers (res_tmp hF rfl) ⟨_,rfl,hM.below,?_⟩
    show _=_
    exact bool_f (fun hq=>by first | omega | (have hz:=hq.1 gi (by omega) gj (by omega);unfold gElt at hz;omega) | (have hz:=hq.2.2.2 ga (by omega) gb (by omega) gc (by omega);omega) | (have hz:=hq.2.1 ga (by omega);omega) | (obtain ⟨z1,z2,z3,z4⟩:=hq.two hn0 hn (i:=ga) (by omega);exact bo_not (by assumption) (hinv4.1.2 ⟨z1,z2,z3,z4⟩)))
  refine wp_skip<|tN<|sq<|sr<|ag hF rfl rfl fun a hF=>nt<|wp_block ?_;change Mem w _ [some (b1,grpC (n:Int) M)] [] at hM;refine c_loop (fun (kk:Nat) a w'=>kk≤6∧(∀ i,i<kk→∀ j,j<6→gElt n M i j)∧Fr 126 a [(1,ptr b1 (0)),(3,.int .i64 (n:Int)),(14,.bool (decide (¬ ((1:Int)≤(n:Int)∧(n:Int)≤6)))),(4,.int .i64 (kk:Int))]∧Mem w w' [some (b1,grpC (n:Int) M)] []) (fun kk=>6 - kk) 0 ?_ ?_
  · refine ⟨by omega,fun i hi=>absurd hi (by omega),hF.sub _ (by repeat' constructor),?_⟩
    exact hM
  clear hF hM;rintro gi a w' ⟨hgi,hinv1,hF,hM⟩;refine sq<|sr<|mv hF rfl rfl fun a hF=>st hF (g_lss hF rfl rfl) rfl fun a hF=>nt<|c_cond hF rfl (fun h3=>?_) (fun h3=>?_)
  · refine wp_skip ?_
    refine tN<|sq<|wp_block<|sr<|ag hF rfl rfl fun a hF=>nt<|wp_block ?_;change Mem w _ [some (b1,grpC (n:Int) M)] [] at hM;refine c_loop (fun (kk:Nat) a w'=>kk≤6∧(∀ j,j<kk→gElt n M gi j)∧Fr 126 a [(1,ptr b1 (0)),(3,.int .i64 (n:Int)),(14,.bool (decide (¬ ((1:Int)≤(n:Int)∧(n:Int)≤6)))),(4,.int .i64 (gi:Int)),(15,.int .i64 (gi:Int)),(16,.bool (decide (((gi:Int):Int)<6))),(5,.int .i64 (kk:Int))]∧Mem w w' [some (b1,grpC (n:Int) M)] []) (fun kk=>6 - kk) 0 ?_ ?_
    · refine ⟨by omega,fun i hi=>absurd hi (by omega),hF.sub _ (by repeat' constructor),?_⟩
      exact hM
    clear hF hM;rintro gj a w' ⟨hgj,hinv2,hF,hM⟩;have hbb:=hB gi gj;refine sq<|sr<|mv hF rfl rfl fun a hF=>st hF (g_lss hF rfl rfl) rfl fun a hF=>nt<|c_cond hF rfl (fun h4=>?_) (fun h4=>?_)
    · refine wp_skip ?_
      refine tN<|sq<|wp_block<|sr<|mv hF rfl rfl fun a hF=>mv hF rfl rfl fun a hF=>st hF (g_geq hF rfl rfl) rfl fun a hF=>mv hF rfl rfl fun a hF=>?_
      by_cases g5:(n:Int)≤((gi:Int):Int)
      · first | rw [decide_eq_true g5] at hF | simp only [decide_eq_true g5] at hF
        refine stS hF rfl rfl rfl rfl rfl fun a hF=>stS hF rfl rfl rfl rfl rfl fun a hF=>stS hF rfl rfl rfl rfl rfl fun a hF=>st hF (g_pickT hF rfl rfl) rfl fun a hF=>nt<|c_T hF rfl<|sr<|mv hF rfl rfl fun a hF=>mv hF rfl rfl fun a hF=>st hF (g_fieldAddr ty_fo_27_1 hF rfl) rfl fun a hF=>st hF (g_indexAddr ty_ar_25 hF rfl rfl rfl (by omega)) rfl fun a hF=>st hF (g_indexAddr ty_ar_24 hF rfl rfl rfl (by omega)) rfl fun a hF=>st hF (g_load ty_on_5 hF rfl (hM.row 0 rfl) (grpC_M (gi) (gj) (by omega) (by omega) (by omega))) rfl fun a hF=>st hF (g_neq hF rfl rfl) rfl fun a hF=>nt<|c_cond hF rfl (fun h7=>?_) (fun h7=>?_)
        · refine sq ?_
          refine wp_region_lit<|ag hF rfl rfl fun a hF=>nt<|wp_ret<|iR<|tR<|tR<|iR<|iR<|tR<|tR<|iR<|tR<|fin1 rfl hF.defers (res_tmp hF rfl) ⟨_,rfl,hM.below,?_⟩
          show _=_
          exact bool_f (fun hq=>by first | omega | (have hz:=hq.1 gi (by omega) gj (by omega);unfold gElt at hz;omega) | (have hz:=hq.2.2.2 ga (by omega) gb (by omega) gc (by omega);omega) | (have hz:=hq.2.1 ga (by omega);omega) | (obtain ⟨z1,z2,z3,z4⟩:=hq.two hn0 hn (i:=ga) (by omega);exact bo_not (by assumption) (hinv4.1.2 ⟨z1,z2,z3,z4⟩)))
        refine wp_skip<|iN<|tN<|wp_region_lit<|mv hF rfl rfl fun a hF=>st hF (g_add hF rfl rfl (add_nat (gj) (1) (by omega))) rfl fun a hF=>ag hF rfl rfl fun a hF=>nt<|⟨gj+1,⟨by omega,allS hinv2 (by unfold gElt;omega),hF.sub _ (by repeat' constructor),?_⟩,by omega⟩;exact hM
      first | rw [decide_eq_false g5] at hF | simp only [decide_eq_false g5] at hF
      refine stY hF rfl rfl rfl (g_move hF rfl) rfl fun a hF=>stY hF rfl rfl rfl (g_move hF rfl) rfl fun a hF=>stY hF rfl rfl rfl (g_geq hF rfl rfl) rfl fun a hF=>st hF (g_pickF hF rfl rfl) rfl fun a hF=>nt<|c_cond hF rfl (fun h8=>?_) (fun h8=>?_)
      · refine sq ?_
        refine wp_region_lit<|mv hF rfl rfl fun a hF=>mv hF rfl rfl fun a hF=>st hF (g_fieldAddr ty_fo_27_1 hF rfl) rfl fun a hF=>st hF (g_indexAddr ty_ar_25 hF rfl rfl rfl (by omega)) rfl fun a hF=>st hF (g_indexAddr ty_ar_24 hF rfl rfl rfl (by omega)) rfl fun a hF=>st hF (g_load ty_on_5 hF rfl (hM.row 0 rfl) (grpC_M (gi) (gj) (by omega) (by omega) (by omega))) rfl fun a hF=>st hF (g_neq hF rfl rfl) rfl fun a hF=>nt<|c_cond hF rfl (fun h9=>?_) (fun h9=>?_)
        · refine sq ?_
          refine wp_region_lit<|ag hF rfl rfl fun a hF=>nt<|wp_ret<|iR<|tR<|tR<|iR<|iR<|tR<|tR<|iR<|tR<|fin1 rfl hF.defers (res_tmp hF rfl) ⟨_,rfl,hM.below,?_⟩
          show _=_
          exact bool_f (fun hq=>by first | omega | (have hz:=hq.1 gi (by omega) gj (by omega);unfold gElt at hz;omega) | (have hz:=hq.2.2.2 ga (by omega) gb (by omega) gc (by omega);omega) | (have hz:=hq.2.1 ga (by omega);omega) | (obtain ⟨z1,z2,z3,z4⟩:=hq.two hn0 hn (i:=ga) (by omega);exact bo_not (by assumption) (hinv4.1.2 ⟨z1,z2,z3,z4⟩)))
        refine wp_skip<|iN<|tN<|wp_region_lit<|mv hF rfl rfl fun a hF=>st hF (g_add hF rfl rfl (add_nat (gj) (1) (by omega))) rfl fun a hF=>ag hF rfl rfl fun a hF=>nt<|⟨gj+1,⟨by omega,allS hinv2 (by unfold gElt;omega),hF.sub _ (by repeat' constructor),?_⟩,by omega⟩;exact hM
      refine sr<|mv hF rfl rfl fun a hF=>mv hF rfl rfl fun a hF=>st hF (g_fieldAddr ty_fo_27_1 hF rfl) rfl fun a hF=>st hF (g_indexAddr ty_ar_25 hF rfl rfl rfl (by omega)) rfl fun a hF=>st hF (g_indexAddr ty_ar_24 hF rfl rfl rfl (by omega)) rfl fun a hF=>st hF (g_load ty_on_5 hF rfl (hM.row 0 rfl) (grpC_M (gi) (gj) (by omega) (by omega) (by omega))) rfl fun a hF=>st hF (g_conv ty_un_2 ty_ud_5 hF rfl (wrap_i64 (by omega) (by omega))) rfl fun a hF=>mv hF rfl rfl fun a hF=>st hF (g_geq hF rfl rfl) rfl fun a hF=>nt<|c_cond hF rfl (fun h10=>?_) (fun h10=>?_)
      · refine sq ?_
        refine wp_region_lit<|ag hF rfl rfl fun a hF=>nt<|wp_ret<|iR<|tR<|tR<|iR<|iR<|tR<|tR<|iR<|tR<|fin1 rfl hF.defers (res_tmp hF rfl) ⟨_,rfl,hM.below,?_⟩
        show _=_
        exact bool_f (fun hq=>by first | omega | (have hz:=hq.1 gi (by omega) gj (by omega);unfold gElt at hz;omega) | (have hz:=hq.2.2.2 ga (by omega) gb (by omega) gc (by omega);omega) | (have hz:=hq.2.1 ga (by omega);omega) | (obtain ⟨z1,z2,z3,z4⟩:=hq.two hn0 hn (i:=ga) (by omega);exact bo_not (by assumption) (hinv4.1.2 ⟨z1,z2,z3,z4⟩)))
      refine wp_skip<|iN<|tN<|wp_region_lit<|mv hF rfl rfl fun a hF=>st hF (g_add hF rfl rfl (add_nat (gj) (1) (by omega))) rfl fun a hF=>ag hF rfl rfl fun a hF=>nt<|⟨gj+1,⟨by omega,allS hinv2 (by unfold gElt;omega),hF.sub _ (by repeat' constructor),?_⟩,by omega⟩;exact hM
    obtain rfl:6=gj:=by omega
    refine wp_exit<|tX<|tX<|ib_same<|iN<|tN<|wp_region_lit<|mv hF rfl rfl fun a hF=>st hF (g_add hF rfl rfl (add_nat (gi) (1) (by omega))) rfl fun a hF=>ag hF rfl rfl fun a hF=>nt<|⟨gi+1,⟨by omega,allS hinv1 hinv2,hF.sub _ (by repeat' constructor),?_⟩,by omega⟩;exact hM
  obtain rfl:6=gi:=by omega
  refine wp_exit<|tX<|tX<|ib_same<|tN<|sq<|sr<|ag hF rfl rfl fun a hF=>nt<|wp_block ?_;change Mem w _ [some (b1,grpC (n:Int) M)] [] at hM;refine c_loop (fun (kk:Nat) a w'=>kk≤n∧(∀ i,i<kk→(∃ j,j<n∧M i j=0)∧(∀ j,j<n→∀ k,k<n→M (M i j) k=M i (M j k))∧M 0 i=i∧M i 0=i)∧Fr 126 a [(1,ptr b1 (0)),(3,.int .i64 (n:Int)),(14,.bool (decide (¬ ((1:Int)≤(n:Int)∧(n:Int)≤6)))),(4,.int .i64 (((6:Nat):Int))),(15,.int .i64 (((6:Nat):Int))),(16,.bool (decide ((((6:Nat):Int):Int)<6))),(6,.int .i64 (kk:Int))]∧Mem w w' [some (b1,grpC (n:Int) M)] []) (fun kk=>n - kk) 0 ?_ ?_
  · refine ⟨by omega,fun i hi=>absurd hi (by omega),hF.sub _ (by repeat' constructor),?_⟩
    exact hM
  clear hF hM;rintro ga a w' ⟨hga,hinv3,hF,hM⟩;have hb0:=hB 0 ga;have hb1:=hB ga 0;refine sq<|sr<|mv hF rfl rfl fun a hF=>mv hF rfl rfl fun a hF=>st hF (g_lss hF rfl rfl) rfl fun a hF=>nt<|c_cond hF rfl (fun h11=>?_) (fun h11=>?_)
  · refine wp_skip ?_
    refine tN<|sq<|wp_block<|sr<|ag hF rfl rfl fun a hF=>nt<|sq<|sr<|ag hF rfl rfl fun a hF=>nt<|wp_block ?_;change Mem w _ [some (b1,grpC (n:Int) M)] [] at hM;refine c_loop (fun (kk:Nat) a w'=>kk≤n∧∃ (bo:Bool),((bo=true↔∃ j,j<kk∧M ga j=0∧M j ga=0)∧∀ j,j<kk→∀ k,k<n→M (M ga j) k=M ga (M j k))∧Fr 126 a [(1,ptr b1 (0)),(3,.int .i64 (n:Int)),(14,.bool (decide (¬ ((1:Int)≤(n:Int)∧(n:Int)≤6)))),(4,.int .i64 (((6:Nat):Int))),(15,.int .i64 (((6:Nat):Int))),(16,.bool (decide ((((6:Nat):Int):Int)<6))),(6,.int .i64 (ga:Int)),(47,.int .i64 (ga:Int)),(48,.int .i64 (n:Int)),(49,.bool (decide (((ga:Int):Int)<(n:Int)))),(8,.int .i64 (kk:Int)),(7,.bool (bo))]∧Mem w w' [some (b1,grpC (n:Int) M)] []) (fun kk=>n - kk) 0 ?_ ?_
    · refine ⟨by omega,false,⟨⟨fun h=>absurd h (by simp),fun h=>by obtain ⟨z1,z2,_⟩:=h;omega⟩,fun j hj=>absurd hj (by omega)⟩,hF.sub _ (by repeat' constructor),?_⟩
      exact hM
    clear hF hM;rintro gb a w' ⟨hgb,bo,hinv4,hF,hM⟩;refine sq<|sr<|mv hF rfl rfl fun a hF=>mv hF rfl rfl fun a hF=>st hF (g_lss hF rfl rfl) rfl fun a hF=>nt<|c_cond hF rfl (fun h12=>?_) (fun h12=>?_)
    · refine wp_skip ?_
      refine tN<|sq<|wp_block<|sr<|mv hF rfl rfl fun a hF=>mv hF rfl rfl fun a hF=>?_
      cases g13:(bo:Bool)
      · simp only [g13] at hF
        refine stY hF rfl rfl rfl (g_move hF rfl) rfl fun a hF=>stY hF rfl rfl rfl (g_move hF rfl) rfl fun a hF=>stY hF rfl rfl rfl (g_fieldAddr ty_fo_27_1 hF rfl) rfl fun a hF=>stY hF rfl rfl rfl (g_indexAddr ty_ar_25 hF rfl rfl rfl (by omega)) rfl fun a hF=>stY hF rfl rfl rfl (g_indexAddr ty_ar_24 hF rfl rfl rfl (by omega)) rfl fun a hF=>stY hF rfl rfl rfl (g_load ty_on_5 hF rfl (hM.row 0 rfl) (grpC_M (ga) (gb) (by omega) (by omega) (by omega))) rfl fun a hF=>stY hF rfl rfl rfl (g_eql hF rfl rfl) rfl fun a hF=>stY hF rfl rfl rfl (g_move hF rfl) rfl fun a hF=>?_
        by_cases g14:((M (ga) (gb):Int):Int)=0
        · first | rw [decide_eq_true g14] at hF | simp only [decide_eq_true g14] at hF
          refine stY hF rfl rfl rfl (g_move hF rfl) rfl fun a hF=>stY hF rfl rfl rfl (g_move hF rfl) rfl fun a hF=>stY hF rfl rfl rfl (g_fieldAddr ty_fo_27_1 hF rfl) rfl fun a hF=>stY hF rfl rfl rfl (g_indexAddr ty_ar_25 hF rfl rfl rfl (by omega)) rfl fun a hF=>stY hF rfl rfl rfl (g_indexAddr ty_ar_24 hF rfl rfl rfl (by omega)) rfl fun a hF=>stY hF rfl rfl rfl (g_load ty_on_5 hF rfl (hM.row 0 rfl) (grpC_M (gb) (ga) (by omega) (by omega) (by omega))) rfl fun a hF=>stY hF rfl rfl rfl (g_eql hF rfl rfl) rfl fun a hF=>stY hF rfl rfl rfl (g_pickT hF rfl rfl) rfl fun a hF=>st hF (g_pickF hF rfl rfl) rfl fun a hF=>ag hF rfl rfl fun a hF=>ns<|ag hF rfl rfl fun a hF=>nt<|wp_block ?_;change Mem w _ [some (b1,grpC (n:Int) M)] [] at hM;refine c_loop (fun (kk:Nat) a w'=>kk≤n∧(∀ k,k<kk→M (M ga gb) k=M ga (M gb k))∧Fr 126 a [(1,ptr b1 (0)),(3,.int .i64 (n:Int)),(14,.bool (decide (¬ ((1:Int)≤(n:Int)∧(n:Int)≤6)))),(4,.int .i64 (((6:Nat):Int))),(15,.int .i64 (((6:Nat):Int))),(16,.bool (decide ((((6:Nat):Int):Int)<6))),(6,.int .i64 (ga:Int)),(47,.int .i64 (ga:Int)),(48,.int .i64 (n:Int)),(49,.bool (decide (((ga:Int):Int)<(n:Int)))),(8,.int .i64 (gb:Int)),(7,.bool (decide (((M (gb) (ga):Int):Int)=0))),(52,.int .i64 (gb:Int)),(53,.int .i64 (n:Int)),(54,.bool (decide (((gb:Int):Int)<(n:Int)))),(57,.bool (false)),(58,.bool (false)),(59,.int .i64 (ga:Int)),(60,.int .i64 (gb:Int)),(61,ptr b1 (0+1)),(62,ptr b1 (0+1+(ga)*6)),(63,ptr b1 (0+1+(ga)*6+(gb)*1)),(64,.int .u8 ((M (ga) (gb):Int))),(65,.bool (true)),(66,.bool (true)),(67,.int .i64 (gb:Int)),(68,.int .i64 (ga:Int)),(69,ptr b1 (0+1)),(70,ptr b1 (0+1+(gb)*6)),(71,ptr b1 (0+1+(gb)*6+(ga)*1)),(72,.int .u8 ((M (gb) (ga):Int))),(73,.bool (decide (((M (gb) (ga):Int):Int)=0))),(74,.bool (decide (((M (gb) (ga):Int):Int)=0))),(75,.bool (decide (((M (gb) (ga):Int):Int)=0))),(9,.int .i64 (kk:Int))]∧Mem w w' [some (b1,grpC (n:Int) M)] []) (fun kk=>n - kk) 0 ?_ ?_
          · refine ⟨by omega,fun i hi=>absurd hi (by omega),hF.sub _ (by repeat' constructor),?_⟩
            exact hM
          clear hF hM;rintro gc a w' ⟨hgc,hv5,hF,hM⟩;have hbab:=ElP.lt hinv1 (i:=ga) (j:=gb) (by omega) (by omega);have hbbc:gc<n→M gb gc<n:=fun hq=>ElP.lt hinv1 (by omega) (by omega);refine sq<|sr<|mv hF rfl rfl fun a hF=>mv hF rfl rfl fun a hF=>st hF (g_lss hF rfl rfl) rfl fun a hF=>nt<|c_cond hF rfl (fun h15=>?_) (fun h15=>?_)
          · refine wp_skip ?_
            refine tN<|sq<|wp_block<|sq<|c_par 22 [] [.val (.int .i64 (ga:Int)),.val (.int .i64 (gb:Int)),.val (ptr b1 (0+1)),.val (ptr b1 (0+1+(ga)*6)),.val (ptr b1 (0+1+(ga)*6+(gb)*1)),.val (.int .u8 ((M (ga) (gb):Int))),.val (.int .i64 (gc:Int)),.val (ptr b1 (0+1)),.val (ptr b1 (0+1+(M (ga) (gb))*6)),.val (ptr b1 (0+1+(M (ga) (gb))*6+(gc)*1)),.val (.int .u8 ((M (M (ga) (gb)) (gc):Int))),.val (.int .i64 (ga:Int)),.val (.int .i64 (gb:Int)),.val (.int .i64 (gc:Int)),.val (ptr b1 (0+1)),.val (ptr b1 (0+1+(gb)*6)),.val (ptr b1 (0+1+(gb)*6+(gc)*1)),.val (.int .u8 ((M (gb) (gc):Int))),.val (ptr b1 (0+1)),.val (ptr b1 (0+1+(ga)*6)),.val (ptr b1 (0+1+(ga)*6+(M (gb) (gc))*1)),.val (.int .u8 ((M (ga) (M (gb) (gc)):Int)))] hmix rfl hF rfl hM ⟨fun a w gG hF hS hd=>by exact pmv hS rfl hF rfl,fun a w gG hF hS hd=>by exact pmv hS rfl hF rfl,fun a w gG hF hS hd=>by exact par_val hS rfl (g_fieldAddr ty_fo_27_1 hF rfl),fun a w gG hF hS hd=>by have hF:=hF.ext1 81 (hd 0 rfl rfl);have hF:=hF.ext1 83 (hd 2 rfl rfl);exact par_val hS rfl (g_indexAddr ty_ar_25 hF rfl rfl rfl (by omega)),fun a w gG hF hS hd=>by have hF:=hF.ext1 82 (hd 1 rfl rfl);have hF:=hF.ext1 84 (hd 3 rfl rfl);exact par_val hS rfl (g_indexAddr ty_ar_24 hF rfl rfl rfl (by omega)),fun a w gG hF hS hd=>by have hF:=hF.ext1 85 (hd 4 rfl rfl);have hM:=hS.mem rfl;exact par_val hS rfl (g_load ty_on_5 hF rfl (hM.row 0 rfl) (grpC_M (ga) (gb) (by omega) (by omega) (by omega))),fun a w gG hF hS hd=>by exact pmv hS rfl hF rfl,fun a w gG hF hS hd=>by exact par_val hS rfl (g_fieldAddr ty_fo_27_1 hF rfl),fun a w gG hF hS hd=>by have hF:=hF.ext1 86 (hd 5 rfl rfl);have hF:=hF.ext1 88 (hd 7 rfl rfl);exact par_val hS rfl (g_indexAddr ty_ar_25 hF rfl rfl rfl (by omega)),fun a w gG hF hS hd=>by have hF:=hF.ext1 87 (hd 6 rfl rfl);have hF:=hF.ext1 89 (hd 8 rfl rfl);exact par_val hS rfl (g_indexAddr ty_ar_24 hF rfl rfl rfl (by omega)),fun a w gG hF hS hd=>by have hF:=hF.ext1 90 (hd 9 rfl rfl);have hM:=hS.mem rfl;exact par_val hS rfl (g_load ty_on_5 hF rfl (hM.row 0 rfl) (grpC_M (M (ga) (gb)) (gc) (by omega) (by omega) (by omega))),fun a w gG hF hS hd=>by exact pmv hS rfl hF rfl,fun a w gG hF hS hd=>by exact pmv hS rfl hF rfl,fun a w gG hF hS hd=>by exact pmv hS rfl hF rfl,fun a w gG hF hS hd=>by exact par_val hS rfl (g_fieldAddr ty_fo_27_1 hF rfl),fun a w gG hF hS hd=>by have hF:=hF.ext1 93 (hd 12 rfl rfl);have hF:=hF.ext1 95 (hd 14 rfl rfl);exact par_val hS rfl (g_indexAddr ty_ar_25 hF rfl rfl rfl (by omega)),fun a w gG hF hS hd=>by have hF:=hF.ext1 94 (hd 13 rfl rfl);have hF:=hF.ext1 96 (hd 15 rfl rfl);exact par_val hS rfl (g_indexAddr ty_ar_24 hF rfl rfl rfl (by omega)),fun a w gG hF hS hd=>by have hF:=hF.ext1 97 (hd 16 rfl rfl);have hM:=hS.mem rfl;exact par_val hS rfl (g_load ty_on_5 hF rfl (hM.row 0 rfl) (grpC_M (gb) (gc) (by omega) (by omega) (by omega))),fun a w gG hF hS hd=>by exact par_val hS rfl (g_fieldAddr ty_fo_27_1 hF rfl),fun a w gG hF hS hd=>by have hF:=hF.ext1 92 (hd 11 rfl rfl);have hF:=hF.ext1 99 (hd 18 rfl rfl);exact par_val hS rfl (g_indexAddr ty_ar_25 hF rfl rfl rfl (by omega)),fun a w gG hF hS hd=>by have hF:=hF.ext1 98 (hd 17 rfl rfl);have hF:=hF.ext1 100 (hd 19 rfl rfl);exact par_val hS rfl (g_indexAddr ty_ar_24 hF rfl rfl rfl (by omega)),fun a w gG hF hS hd=>by have hF:=hF.ext1 101 (hd 20 rfl rfl);have hM:=hS.mem rfl;exact par_val hS rfl (g_load ty_on_5 hF rfl (hM.row 0 rfl) (grpC_M (ga) (M (gb) (gc)) (by omega) (by omega) (by omega))),trivial⟩ ?_;intro a w' L hF hS hq;have hF:=hF.ext1 81 (hq 0 rfl rfl);have hF:=hF.ext1 82 (hq 1 rfl rfl);have hF:=hF.ext1 83 (hq 2 rfl rfl);have hF:=hF.ext1 84 (hq 3 rfl rfl);have hF:=hF.ext1 85 (hq 4 rfl rfl)
            have hF:=hF.ext1 86 (hq 5 rfl rfl);have hF:=hF.ext1 87 (hq 6 rfl rfl);have hF:=hF.ext1 88 (hq 7 rfl rfl);have hF:=hF.ext1 89 (hq 8 rfl rfl);have hF:=hF.ext1 90 (hq 9 rfl rfl);have hF:=hF.ext1 91 (hq 10 rfl rfl);have hF:=hF.ext1 92 (hq 11 rfl rfl);have hF:=hF.ext1 93 (hq 12 rfl rfl);have hF:=hF.ext1 94 (hq 13 rfl rfl);have hF:=hF.ext1 95 (hq 14 rfl rfl);have hF:=hF.ext1 96 (hq 15 rfl rfl);have hF:=hF.ext1 97 (hq 16 rfl rfl);have hF:=hF.ext1 98 (hq 17 rfl rfl);have hF:=hF.ext1 99 (hq 18 rfl rfl);have hF:=hF.ext1 100 (hq 19 rfl rfl);have hF:=hF.ext1 101 (hq 20 rfl rfl);have hF:=hF.ext1 102 (hq 21 rfl rfl);have hM:=hS.mem rfl;change wpList Try.prog _ _ [_] _ _;refine st hF (g_neq hF rfl rfl) rfl fun a hF=>nt<|c_cond hF rfl (fun h16=>?_) (fun h16=>?_)
            · refine sq ?_
              refine wp_region_lit<|ag hF rfl rfl fun a hF=>nt<|wp_ret<|iR<|tR<|tR<|iR<|iR<|tR<|tR<|iR<|tR<|iR<|tR<|tR<|iR<|tR<|fin1 rfl hF.defers (res_tmp hF rfl) ⟨_,rfl,hM.below,?_⟩
              show _=_
              exact bool_f (fun hq=>by first | omega | (have hz:=hq.1 gi (by omega) gj (by omega);unfold gElt at hz;omega) | (have hz:=hq.2.2.2 ga (by omega) gb (by omega) gc (by omega);omega) | (have hz:=hq.2.1 ga (by omega);omega) | (obtain ⟨z1,z2,z3,z4⟩:=hq.two hn0 hn (i:=ga) (by omega);exact bo_not (by assumption) (hinv4.1.2 ⟨z1,z2,z3,z4⟩)))
            refine wp_skip<|iN<|tN<|wp_region_lit<|mv hF rfl rfl fun a hF=>st hF (g_add hF rfl rfl (add_nat (gc) (1) (by omega))) rfl fun a hF=>ag hF rfl rfl fun a hF=>nt<|⟨gc+1,⟨by omega,allS hv5 (by omega),hF.sub _ (by repeat' constructor),?_⟩,by omega⟩;exact hM
          obtain rfl:n=gc:=by omega
          refine wp_exit<|tX<|tX<|ib_same<|iN<|tN<|wp_region_lit<|mv hF rfl rfl fun a hF=>st hF (g_add hF rfl rfl (add_nat (gb) (1) (by omega))) rfl fun a hF=>ag hF rfl rfl fun a hF=>nt<|⟨gb+1,⟨by omega,decide (((M (gb) (ga):Int):Int)=0),⟨bstep hinv4.1 (bq_d (by simp [*];try omega)),allS hinv4.2 hv5⟩,hF.sub _ (by repeat' constructor),?_⟩,by omega⟩;exact hM
        first | rw [decide_eq_false g14] at hF | simp only [decide_eq_false g14] at hF
        refine stS hF rfl rfl rfl rfl rfl fun a hF=>stS hF rfl rfl rfl rfl rfl fun a hF=>stS hF rfl rfl rfl rfl rfl fun a hF=>stS hF rfl rfl rfl rfl rfl fun a hF=>stS hF rfl rfl rfl rfl rfl fun a hF=>stS hF rfl rfl rfl rfl rfl fun a hF=>stS hF rfl rfl rfl rfl rfl fun a hF=>stY hF rfl rfl rfl (g_pickF hF rfl rfl) rfl fun a hF=>st hF (g_pickF hF rfl rfl) rfl fun a hF=>ag hF rfl rfl fun a hF=>ns<|ag hF rfl rfl fun a hF=>nt<|wp_block ?_;change Mem w _ [some (b1,grpC (n:Int) M)] [] at hM;refine c_loop (fun (kk:Nat) a w'=>kk≤n∧(∀ k,k<kk→M (M ga gb) k=M ga (M gb k))∧Fr 126 a [(1,ptr b1 (0)),(3,.int .i64 (n:Int)),(14,.bool (decide (¬ ((1:Int)≤(n:Int)∧(n:Int)≤6)))),(4,.int .i64 (((6:Nat):Int))),(15,.int .i64 (((6:Nat):Int))),(16,.bool (decide ((((6:Nat):Int):Int)<6))),(6,.int .i64 (ga:Int)),(47,.int .i64 (ga:Int)),(48,.int .i64 (n:Int)),(49,.bool (decide (((ga:Int):Int)<(n:Int)))),(8,.int .i64 (gb:Int)),(7,.bool (false)),(52,.int .i64 (gb:Int)),(53,.int .i64 (n:Int)),(54,.bool (decide (((gb:Int):Int)<(n:Int)))),(57,.bool (false)),(58,.bool (false)),(59,.int .i64 (ga:Int)),(60,.int .i64 (gb:Int)),(61,ptr b1 (0+1)),(62,ptr b1 (0+1+(ga)*6)),(63,ptr b1 (0+1+(ga)*6+(gb)*1)),(64,.int .u8 ((M (ga) (gb):Int))),(65,.bool (false)),(66,.bool (false)),(67,undef),(68,undef),(69,undef),(70,undef),(71,undef),(72,undef),(73,undef),(74,.bool (false)),(75,.bool (false)),(9,.int .i64 (kk:Int))]∧Mem w w' [some (b1,grpC (n:Int) M)] []) (fun kk=>n - kk) 0 ?_ ?_
        · refine ⟨by omega,fun i hi=>absurd hi (by omega),hF.sub _ (by repeat' constructor),?_⟩
          exact hM
        clear hF hM;rintro gc a w' ⟨hgc,hv5,hF,hM⟩;have hbab:=ElP.lt hinv1 (i:=ga) (j:=gb) (by omega) (by omega);have hbbc:gc<n→M gb gc<n:=fun hq=>ElP.lt hinv1 (by omega) (by omega);refine sq<|sr<|mv hF rfl rfl fun a hF=>mv hF rfl rfl fun a hF=>st hF (g_lss hF rfl rfl) rfl fun a hF=>nt<|c_cond hF rfl (fun h17=>?_) (fun h17=>?_)
        · refine wp_skip ?_
          refine tN<|sq<|wp_block<|sq<|c_par 22 [] [.val (.int .i64 (ga:Int)),.val (.int .i64 (gb:Int)),.val (ptr b1 (0+1)),.val (ptr b1 (0+1+(ga)*6)),.val (ptr b1 (0+1+(ga)*6+(gb)*1)),.val (.int .u8 ((M (ga) (gb):Int))),.val (.int .i64 (gc:Int)),.val (ptr b1 (0+1)),.val (ptr b1 (0+1+(M (ga) (gb))*6)),.val (ptr b1 (0+1+(M (ga) (gb))*6+(gc)*1)),.val (.int .u8 ((M (M (ga) (gb)) (gc):Int))),.val (.int .i64 (ga:Int)),.val (.int .i64 (gb:Int)),.val (.int .i64 (gc:Int)),.val (ptr b1 (0+1)),.val (ptr b1 (0+1+(gb)*6)),.val (ptr b1 (0+1+(gb)*6+(gc)*1)),.val (.int .u8 ((M (gb) (gc):Int))),.val (ptr b1 (0+1)),.val (ptr b1 (0+1+(ga)*6)),.val (ptr b1 (0+1+(ga)*6+(M (gb) (gc))*1)),.val (.int .u8 ((M (ga) (M (gb) (gc)):Int)))] hmix rfl hF rfl hM ⟨fun a w gG hF hS hd=>by exact pmv hS rfl hF rfl,fun a w gG hF hS hd=>by exact pmv hS rfl hF rfl,fun a w gG hF hS hd=>by exact par_val hS rfl (g_fieldAddr ty_fo_27_1 hF rfl),fun a w gG hF hS hd=>by have hF:=hF.ext1 81 (hd 0 rfl rfl);have hF:=hF.ext1 83 (hd 2 rfl rfl);exact par_val hS rfl (g_indexAddr ty_ar_25 hF rfl rfl rfl (by omega)),fun a w gG hF hS hd=>by have hF:=hF.ext1 82 (hd 1 rfl rfl);have hF:=hF.ext1 84 (hd 3 rfl rfl);exact par_val hS rfl (g_indexAddr ty_ar_24 hF rfl rfl rfl (by omega)),fun a w gG hF hS hd=>by have hF:=hF.ext1 85 (hd 4 rfl rfl);have hM:=hS.mem rfl;exact par_val hS rfl (g_load ty_on_5 hF rfl (hM.row 0 rfl) (grpC_M (ga) (gb) (by omega) (by omega) (by omega))),fun a w gG hF hS hd=>by exact pmv hS rfl hF rfl,fun a w gG hF hS hd=>by exact par_val hS rfl (g_fieldAddr ty_fo_27_1 hF rfl),fun a w gG hF hS hd=>by have hF:=hF.ext1 86 (hd 5 rfl rfl);have hF:=hF.ext1 88 (hd 7 rfl rfl);exact par_val hS rfl (g_indexAddr ty_ar_25 hF rfl rfl rfl (by omega)),fun a w gG hF hS hd=>by have hF:=hF.ext1 87 (hd 6 rfl rfl);have hF:=hF.ext1 89 (hd 8 rfl rfl);exact par_val hS rfl (g_indexAddr ty_ar_24 hF rfl rfl rfl (by omega)),fun a w gG hF hS hd=>by have hF:=hF.ext1 90 (hd 9 rfl rfl);have hM:=hS.mem rfl;exact par_val hS rfl (g_load ty_on_5 hF rfl (hM.row 0 rfl) (grpC_M (M (ga) (gb)) (gc) (by omega) (by omega) (by omega))),fun a w gG hF hS hd=>by exact pmv hS rfl hF rfl,fun a w gG hF hS hd=>by exact pmv hS rfl hF rfl,fun a w gG hF hS hd=>by exact pmv hS rfl hF rfl,fun a w gG hF hS hd=>by exact par_val hS rfl (g_fieldAddr ty_fo_27_1 hF rfl),fun a w gG hF hS hd=>by have hF:=hF.ext1 93 (hd 12 rfl rfl);have hF:=hF.ext1 95 (hd 14 rfl rfl);exact par_val hS rfl (g_indexAddr ty_ar_25 hF rfl rfl rfl (by omega)),fun a w gG hF hS hd=>by have hF:=hF.ext1 94 (hd 13 rfl rfl);have hF:=hF.ext1 96 (hd 15 rfl rfl);exact par_val hS rfl (g_indexAddr ty_ar_24 hF rfl rfl rfl (by omega)),fun a w gG hF hS hd=>by have hF:=hF.ext1 97 (hd 16 rfl rfl);have hM:=hS.mem rfl;exact par_val hS rfl (g_load ty_on_5 hF rfl (hM.row 0 rfl) (grpC_M (gb) (gc) (by omega) (by omega) (by omega))),fun a w gG hF hS hd=>by exact par_val hS rfl (g_fieldAddr ty_fo_27_1 hF rfl),fun a w gG hF hS hd=>by have hF:=hF.ext1 92 (hd 11 rfl rfl);have hF:=hF.ext1 99 (hd 18 rfl rfl);exact par_val hS rfl (g_indexAddr ty_ar_25 hF rfl rfl rfl (by omega)),fun a w gG hF hS hd=>by have hF:=hF.ext1 98 (hd 17 rfl rfl);have hF:=hF.ext1 100 (hd 19 rfl rfl);exact par_val hS rfl (g_indexAddr ty_ar_24 hF rfl rfl rfl (by omega)),fun a w gG hF hS hd=>by have hF:=hF.ext1 101 (hd 20 rfl rfl);have hM:=hS.mem rfl;exact par_val hS rfl (g_load ty_on_5 hF rfl (hM.row 0 rfl) (grpC_M (ga) (M (gb) (gc)) (by omega) (by omega) (by omega))),trivial⟩ ?_;intro a w' L hF hS hq;have hF:=hF.ext1 81 (hq 0 rfl rfl);have hF:=hF.ext1 82 (hq 1 rfl rfl);have hF:=hF.ext1 83 (hq 2 rfl rfl);have hF:=hF.ext1 84 (hq 3 rfl rfl);have hF:=hF.ext1 85 (hq 4 rfl rfl)
          have hF:=hF.ext1 86 (hq 5 rfl rfl);have hF:=hF.ext1 87 (hq 6 rfl rfl);have hF:=hF.ext1 88 (hq 7 rfl rfl);have hF:=hF.ext1 89 (hq 8 rfl rfl);have hF:=hF.ext1 90 (hq 9 rfl rfl);have hF:=hF.ext1 91 (hq 10 rfl rfl);have hF:=hF.ext1 92 (hq 11 rfl rfl);have hF:=hF.ext1 93 (hq 12 rfl rfl);have hF:=hF.ext1 94 (hq 13 rfl rfl);have hF:=hF.ext1 95 (hq 14 rfl rfl);have hF:=hF.ext1 96 (hq 15 rfl rfl);have hF:=hF.ext1 97 (hq 16 rfl rfl);have hF:=hF.ext1 98 (hq 17 rfl rfl);have hF:=hF.ext1 99 (hq 18 rfl rfl);have hF:=hF.ext1 100 (hq 19 rfl rfl);have hF:=hF.ext1 101 (hq 20 rfl rfl);have hF:=hF.ext1 102 (hq 21 rfl rfl);have hM:=hS.mem rfl;change wpList Try.prog _ _ [_] _ _;refine st hF (g_neq hF rfl rfl) rfl fun a hF=>nt<|c_cond hF rfl (fun h18=>?_) (fun h18=>?_)
          · refine sq ?_
            refine wp_region_lit<|ag hF rfl rfl fun a hF=>nt<|wp_ret<|iR<|tR<|tR<|iR<|iR<|tR<|tR<|iR<|tR<|iR<|tR<|tR<|iR<|tR<|fin1 rfl hF.defers (res_tmp hF rfl) ⟨_,rfl,hM.below,?_⟩
            show _=_
            exact bool_f (fun hq=>by first | omega | (have hz:=hq.1 gi (by omega) gj (by omega);unfold gElt at hz;omega) | (have hz:=hq.2.2.2 ga (by omega) gb (by omega) gc (by omega);omega) | (have hz:=hq.2.1 ga (by omega);omega) | (obtain ⟨z1,z2,z3,z4⟩:=hq.two hn0 hn (i:=ga) (by omega);exact bo_not (by assumption) (hinv4.1.2 ⟨z1,z2,z3,z4⟩)))
          refine wp_skip<|iN<|tN<|wp_region_lit<|mv hF rfl rfl fun a hF=>st hF (g_add hF rfl rfl (add_nat (gc) (1) (by omega))) rfl fun a hF=>ag hF rfl rfl fun a hF=>nt<|⟨gc+1,⟨by omega,allS hv5 (by omega),hF.sub _ (by repeat' constructor),?_⟩,by omega⟩;exact hM
        obtain rfl:n=gc:=by omega
        refine wp_exit<|tX<|tX<|ib_same<|iN<|tN<|wp_region_lit<|mv hF rfl rfl fun a hF=>st hF (g_add hF rfl rfl (add_nat (gb) (1) (by omega))) rfl fun a hF=>ag hF rfl rfl fun a hF=>nt<|⟨gb+1,⟨by omega,false,⟨bstep hinv4.1 (bq_f (by simp [*];try omega)),allS hinv4.2 hv5⟩,hF.sub _ (by repeat' constructor),?_⟩,by omega⟩;exact hM
      simp only [g13] at hF;refine stS hF rfl rfl rfl rfl rfl fun a hF=>stS hF rfl rfl rfl rfl rfl fun a hF=>stS hF rfl rfl rfl rfl rfl fun a hF=>stS hF rfl rfl rfl rfl rfl fun a hF=>stS hF rfl rfl rfl rfl rfl fun a hF=>stS hF rfl rfl rfl rfl rfl fun a hF=>stS hF rfl rfl rfl rfl rfl fun a hF=>stS hF rfl rfl rfl rfl rfl fun a hF=>stU hF rfl rfl rfl rfl fun a hF=>stU hF rfl rfl rfl rfl fun a hF=>stU hF rfl rfl rfl rfl fun a hF=>stU hF rfl rfl rfl rfl fun a hF=>stU hF rfl rfl rfl rfl fun a hF=>stU hF rfl rfl rfl rfl fun a hF=>stU hF rfl rfl rfl rfl fun a hF=>stS hF rfl rfl rfl rfl rfl fun a hF=>st hF (g_pickT hF rfl rfl) rfl fun a hF=>ag hF rfl rfl fun a hF=>ns<|ag hF rfl rfl fun a hF=>nt<|wp_block ?_;change Mem w _ [some (b1,grpC (n:Int) M)] [] at hM;refine c_loop (fun (kk:Nat) a w'=>kk≤n∧(∀ k,k<kk→M (M ga gb) k=M ga (M gb k))∧Fr 126 a [(1,ptr b1 (0)),(3,.int .i64 (n:Int)),(14,.bool (decide (¬ ((1:Int)≤(n:Int)∧(n:Int)≤6)))),(4,.int .i64 (((6:Nat):Int))),(15,.int .i64 (((6:Nat):Int))),(16,.bool (decide ((((6:Nat):Int):Int)<6))),(6,.int .i64 (ga:Int)),(47,.int .i64 (ga:Int)),(48,.int .i64 (n:Int)),(49,.bool (decide (((ga:Int):Int)<(n:Int)))),(8,.int .i64 (gb:Int)),(7,.bool (true)),(52,.int .i64 (gb:Int)),(53,.int .i64 (n:Int)),(54,.bool (decide (((gb:Int):Int)<(n:Int)))),(57,.bool (true)),(58,.bool (true)),(59,undef),(60,undef),(61,undef),(62,undef),(63,undef),(64,undef),(65,undef),(66,undef),(67,undef),(68,undef),(69,undef),(70,undef),(71,undef),(72,undef),(73,undef),(74,undef),(75,.bool (true)),(9,.int .i64 (kk:Int))]∧Mem w w' [some (b1,grpC (n:Int) M)] []) (fun kk=>n - kk) 0 ?_ ?_
      · refine ⟨by omega,fun i hi=>absurd hi (by omega),hF.sub _ (by repeat' constructor),?_⟩
        exact hM
      clear hF hM;rintro gc a w' ⟨hgc,hv5,hF,hM⟩;have hbab:=ElP.lt hinv1 (i:=ga) (j:=gb) (by omega) (by omega);have hbbc:gc<n→M gb gc<n:=fun hq=>ElP.lt hinv1 (by omega) (by omega);refine sq<|sr<|mv hF rfl rfl fun a hF=>mv hF rfl rfl fun a hF=>st hF (g_lss hF rfl rfl) rfl fun a hF=>nt<|c_cond hF rfl (fun h19=>?_) (fun h19=>?_)
      · refine wp_skip ?_
        refine tN<|sq<|wp_block<|sq<|c_par 22 [] [.val (.int .i64 (ga:Int)),.val (.int .i64 (gb:Int)),.val (ptr b1 (0+1)),.val (ptr b1 (0+1+(ga)*6)),.val (ptr b1 (0+1+(ga)*6+(gb)*1)),.val (.int .u8 ((M (ga) (gb):Int))),.val (.int .i64 (gc:Int)),.val (ptr b1 (0+1)),.val (ptr b1 (0+1+(M (ga) (gb))*6)),.val (ptr b1 (0+1+(M (ga) (gb))*6+(gc)*1)),.val (.int .u8 ((M (M (ga) (gb)) (gc):Int))),.val (.int .i64 (ga:Int)),.val (.int .i64 (gb:Int)),.val (.int .i64 (gc:Int)),.val (ptr b1 (0+1)),.val (ptr b1 (0+1+(gb)*6)),.val (ptr b1 (0+1+(gb)*6+(gc)*1)),.val (.int .u8 ((M (gb) (gc):Int))),.val (ptr b1 (0+1)),.val (ptr b1 (0+1+(ga)*6)),.val (ptr b1 (0+1+(ga)*6+(M (gb) (gc))*1)),.val (.int .u8 ((M (ga) (M (gb) (gc)):Int)))] hmix rfl hF rfl hM ⟨fun a w gG hF hS hd=>by exact pmv hS rfl hF rfl,fun a w gG hF hS hd=>by exact pmv hS rfl hF rfl,fun a w gG hF hS hd=>by exact par_val hS rfl (g_fieldAddr ty_fo_27_1 hF rfl),fun a w gG hF hS hd=>by have hF:=hF.ext1 81 (hd 0 rfl rfl);have hF:=hF.ext1 83 (hd 2 rfl rfl);exact par_val hS rfl (g_indexAddr ty_ar_25 hF rfl rfl rfl (by omega)),fun a w gG hF hS hd=>by have hF:=hF.ext1 82 (hd 1 rfl rfl);have hF:=hF.ext1 84 (hd 3 rfl rfl);exact par_val hS rfl (g_indexAddr ty_ar_24 hF rfl rfl rfl (by omega)),fun a w gG hF hS hd=>by have hF:=hF.ext1 85 (hd 4 rfl rfl);have hM:=hS.mem rfl;exact par_val hS rfl (g_load ty_on_5 hF rfl (hM.row 0 rfl) (grpC_M (ga) (gb) (by omega) (by omega) (by omega))),fun a w gG hF hS hd=>by exact pmv hS rfl hF rfl,fun a w gG hF hS hd=>by exact par_val hS rfl (g_fieldAddr ty_fo_27_1 hF rfl),fun a w gG hF hS hd=>by have hF:=hF.ext1 86 (hd 5 rfl rfl);have hF:=hF.ext1 88 (hd 7 rfl rfl);exact par_val hS rfl (g_indexAddr ty_ar_25 hF rfl rfl rfl (by omega)),fun a w gG hF hS hd=>by have hF:=hF.ext1 87 (hd 6 rfl rfl);have hF:=hF.ext1 89 (hd 8 rfl rfl);exact par_val hS rfl (g_indexAddr ty_ar_24 hF rfl rfl rfl (by omega)),fun a w gG hF hS hd=>by have hF:=hF.ext1 90 (hd 9 rfl rfl);have hM:=hS.mem rfl;exact par_val hS rfl (g_load ty_on_5 hF rfl (hM.row 0 rfl) (grpC_M (M (ga) (gb)) (gc) (by omega) (by omega) (by omega))),fun a w gG hF hS hd=>by exact pmv hS rfl hF rfl,fun a w gG hF hS hd=>by exact pmv hS rfl hF rfl,fun a w gG hF hS hd=>by exact pmv hS rfl hF rfl,fun a w gG hF hS hd=>by exact par_val hS rfl (g_fieldAddr ty_fo_27_1 hF rfl),fun a w gG hF hS hd=>by have hF:=hF.ext1 93 (hd 12 rfl rfl);have hF:=hF.ext1 95 (hd 14 rfl rfl);exact par_val hS rfl (g_indexAddr ty_ar_25 hF rfl rfl rfl (by omega)),fun a w gG hF hS hd=>by have hF:=hF.ext1 94 (hd 13 rfl rfl);have hF:=hF.ext1 96 (hd 15 rfl rfl);exact par_val hS rfl (g_indexAddr ty_ar_24 hF rfl rfl rfl (by omega)),fun a w gG hF hS hd=>by have hF:=hF.ext1 97 (hd 16 rfl rfl);have hM:=hS.mem rfl;exact par_val hS rfl (g_load ty_on_5 hF rfl (hM.row 0 rfl) (grpC_M (gb) (gc) (by omega) (by omega) (by omega))),fun a w gG hF hS hd=>by exact par_val hS rfl (g_fieldAddr ty_fo_27_1 hF rfl),fun a w gG hF hS hd=>by have hF:=hF.ext1 92 (hd 11 rfl rfl);have hF:=hF.ext1 99 (hd 18 rfl rfl);exact par_val hS rfl (g_indexAddr ty_ar_25 hF rfl rfl rfl (by omega)),fun a w gG hF hS hd=>by have hF:=hF.ext1 98 (hd 17 rfl rfl);have hF:=hF.ext1 100 (hd 19 rfl rfl);exact par_val hS rfl (g_indexAddr ty_ar_24 hF rfl rfl rfl (by omega)),fun a w gG hF hS hd=>by have hF:=hF.ext1 101 (hd 20 rfl rfl);have hM:=hS.mem rfl;exact par_val hS rfl (g_load ty_on_5 hF rfl (hM.row 0 rfl) (grpC_M (ga) (M (gb) (gc)) (by omega) (by omega) (by omega))),trivial⟩ ?_;intro a w' L hF hS hq;have hF:=hF.ext1 81 (hq 0 rfl rfl);have hF:=hF.ext1 82 (hq 1 rfl rfl);have hF:=hF.ext1 83 (hq 2 rfl rfl);have hF:=hF.ext1 84 (hq 3 rfl rfl);have hF:=hF.ext1 85 (hq 4 rfl rfl)
        have hF:=hF.ext1 86 (hq 5 rfl rfl);have hF:=hF.ext1 87 (hq 6 rfl rfl);have hF:=hF.ext1 88 (hq 7 rfl rfl);have hF:=hF.ext1 89 (hq 8 rfl rfl);have hF:=hF.ext1 90 (hq 9 rfl rfl);have hF:=hF.ext1 91 (hq 10 rfl rfl);have hF:=hF.ext1 92 (hq 11 rfl rfl);have hF:=hF.ext1 93 (hq 12 rfl rfl);have hF:=hF.ext1 94 (hq 13 rfl rfl);have hF:=hF.ext1 95 (hq 14 rfl rfl);have hF:=hF.ext1 96 (hq 15 rfl rfl);have hF:=hF.ext1 97 (hq 16 rfl rfl);have hF:=hF.ext1 98 (hq 17 rfl rfl);have hF:=hF.ext1 99 (hq 18 rfl rfl);have hF:=hF.ext1 100 (hq 19 rfl rfl);have hF:=hF.ext1 101 (hq 20 rfl rfl);have hF:=hF.ext1 102 (hq 21 rfl rfl);have hM:=hS.mem rfl;change wpList Try.prog _ _ [_] _ _;refine st hF (g_neq hF rfl rfl) rfl fun a hF=>nt<|c_cond hF rfl (fun h20=>?_) (fun h20=>?_)
        · refine sq ?_
          refine wp_region_lit<|ag hF rfl rfl fun a hF=>nt<|wp_ret<|iR<|tR<|tR<|iR<|iR<|tR<|tR<|iR<|tR<|iR<|tR<|tR<|iR<|tR<|fin1 rfl hF.defers (res_tmp hF rfl) ⟨_,rfl,hM.below,?_⟩
          show _=_
          exact bool_f (fun hq=>by first | omega | (have hz:=hq.1 gi (by omega) gj (by omega);unfold gElt at hz;omega) | (have hz:=hq.2.2.2 ga (by omega) gb (by omega) gc (by omega);omega) | (have hz:=hq.2.1 ga (by omega);omega) | (obtain ⟨z1,z2,z3,z4⟩:=hq.two hn0 hn (i:=ga) (by omega);exact bo_not (by assumption) (hinv4.1.2 ⟨z1,z2,z3,z4⟩)))
        refine wp_skip<|iN<|tN<|wp_region_lit<|mv hF rfl rfl fun a hF=>st hF (g_add hF rfl rfl (add_nat (gc) (1) (by omega))) rfl fun a hF=>ag hF rfl rfl fun a hF=>nt<|⟨gc+1,⟨by omega,allS hv5 (by omega),hF.sub _ (by repeat' constructor),?_⟩,by omega⟩;exact hM
      obtain rfl:n=gc:=by omega
      refine wp_exit<|tX<|tX<|ib_same<|iN<|tN<|wp_region_lit<|mv hF rfl rfl fun a hF=>st hF (g_add hF rfl rfl (add_nat (gb) (1) (by omega))) rfl fun a hF=>ag hF rfl rfl fun a hF=>nt<|⟨gb+1,⟨by omega,true,⟨bstep hinv4.1 (bq_t (by simp [*];try omega)),allS hinv4.2 hv5⟩,hF.sub _ (by repeat' constructor),?_⟩,by omega⟩;exact hM
    obtain rfl:n=gb:=by omega
    refine wp_exit<|tX<|tX<|ib_same<|tN<|sr<|mv hF rfl rfl fun a hF=>st hF (g_not hF rfl) rfl fun a hF=>mv hF rfl rfl fun a hF=>?_
    cases g21:(!(bo):Bool)
    · simp only [g21] at hF
      refine stY hF rfl rfl rfl (g_move hF rfl) rfl fun a hF=>stY hF rfl rfl rfl (g_fieldAddr ty_fo_27_1 hF rfl) rfl fun a hF=>stY hF rfl rfl rfl (g_indexAddr (i:=0) ty_ar_25 hF rfl rfl rfl (by omega)) rfl fun a hF=>stY hF rfl rfl rfl (g_indexAddr ty_ar_24 hF rfl rfl rfl (by omega)) rfl fun a hF=>stY hF rfl rfl rfl (g_load ty_on_5 hF rfl (hM.row 0 rfl) (grpC_M (0) (ga) (by omega) (by omega) (by omega))) rfl fun a hF=>stY hF rfl rfl rfl (g_conv ty_un_2 ty_ud_5 hF rfl (wrap_i64 (by omega) (by omega))) rfl fun a hF=>stY hF rfl rfl rfl (g_move hF rfl) rfl fun a hF=>stY hF rfl rfl rfl (g_neq hF rfl rfl) rfl fun a hF=>st hF (g_pickF hF rfl rfl) rfl fun a hF=>mv hF rfl rfl fun a hF=>?_
      by_cases g22:((M (0) (ga):Int):Int)≠(ga:Int)
      · first | rw [decide_eq_true g22] at hF | simp only [decide_eq_true g22] at hF
        refine stS hF rfl rfl rfl rfl rfl fun a hF=>stS hF rfl rfl rfl rfl rfl fun a hF=>stS hF rfl rfl rfl rfl rfl fun a hF=>stS hF rfl rfl rfl rfl rfl fun a hF=>stS hF rfl rfl rfl rfl rfl fun a hF=>stS hF rfl rfl rfl rfl rfl fun a hF=>stS hF rfl rfl rfl rfl rfl fun a hF=>stS hF rfl rfl rfl rfl rfl fun a hF=>st hF (g_pickT hF rfl rfl) rfl fun a hF=>nt<|c_T hF rfl<|sr<|ag hF rfl rfl fun a hF=>nt<|wp_ret<|iR<|tR<|tR<|iR<|tR<|fin1 rfl hF.defers (res_tmp hF rfl) ⟨_,rfl,hM.below,?_⟩
        show _=_
        exact bool_f (fun hq=>by first | omega | (have hz:=hq.1 gi (by omega) gj (by omega);unfold gElt at hz;omega) | (have hz:=hq.2.2.2 ga (by omega) gb (by omega) gc (by omega);omega) | (have hz:=hq.2.1 ga (by omega);omega) | (obtain ⟨z1,z2,z3,z4⟩:=hq.two hn0 hn (i:=ga) (by omega);exact bo_not (by assumption) (hinv4.1.2 ⟨z1,z2,z3,z4⟩)))
      first | rw [decide_eq_false g22] at hF | simp only [decide_eq_false g22] at hF
      refine stY hF rfl rfl rfl (g_move hF rfl) rfl fun a hF=>stY hF rfl rfl rfl (g_fieldAddr ty_fo_27_1 hF rfl) rfl fun a hF=>stY hF rfl rfl rfl (g_indexAddr ty_ar_25 hF rfl rfl rfl (by omega)) rfl fun a hF=>stY hF rfl rfl rfl (g_indexAddr (i:=0) ty_ar_24 hF rfl rfl rfl (by omega)) rfl fun a hF=>stY hF rfl rfl rfl (g_load ty_on_5 hF rfl (hM.row 0 rfl) (grpC_M (ga) (0) (by omega) (by omega) (by omega))) rfl fun a hF=>stY hF rfl rfl rfl (g_conv ty_un_2 ty_ud_5 hF rfl (wrap_i64 (by omega) (by omega))) rfl fun a hF=>stY hF rfl rfl rfl (g_move hF rfl) rfl fun a hF=>stY hF rfl rfl rfl (g_neq hF rfl rfl) rfl fun a hF=>st hF (g_pickF hF rfl rfl) rfl fun a hF=>nt<|c_cond hF rfl (fun h24=>?_) (fun h24=>?_)
      · refine sq ?_
        refine wp_region_lit<|ag hF rfl rfl fun a hF=>nt<|wp_ret<|iR<|tR<|tR<|iR<|tR<|fin1 rfl hF.defers (res_tmp hF rfl) ⟨_,rfl,hM.below,?_⟩
        show _=_
        exact bool_f (fun hq=>by first | omega | (have hz:=hq.1 gi (by omega) gj (by omega);unfold gElt at hz;omega) | (have hz:=hq.2.2.2 ga (by omega) gb (by omega) gc (by omega);omega) | (have hz:=hq.2.1 ga (by omega);omega) | (obtain ⟨z1,z2,z3,z4⟩:=hq.two hn0 hn (i:=ga) (by omega);exact bo_not (by assumption) (hinv4.1.2 ⟨z1,z2,z3,z4⟩)))
      refine wp_skip<|iN<|tN<|wp_region_lit<|mv hF rfl rfl fun a hF=>st hF (g_add hF rfl rfl (add_nat (ga) (1) (by omega))) rfl fun a hF=>ag hF rfl rfl fun a hF=>nt<|⟨ga+1,⟨by omega,allS hinv3 ⟨by obtain ⟨z1,z2,z3,z4⟩:=hinv4.1.1 (bo_of (by assumption));exact ⟨z1,z2,z3⟩,hinv4.2,by omega,by omega⟩,hF.sub _ (by repeat' constructor),?_⟩,by omega⟩;exact hM
    simp only [g21] at hF;refine stS hF rfl rfl rfl rfl rfl fun a hF=>stS hF rfl rfl rfl rfl rfl fun a hF=>stS hF rfl rfl rfl rfl rfl fun a hF=>stS hF rfl rfl rfl rfl rfl fun a hF=>stS hF rfl rfl rfl rfl rfl fun a hF=>stS hF rfl rfl rfl rfl rfl fun a hF=>stS hF rfl rfl rfl rfl rfl fun a hF=>stS hF rfl rfl rfl rfl rfl fun a hF=>st hF (g_pickT hF rfl rfl) rfl fun a hF=>mv hF rfl rfl fun a hF=>stS hF rfl rfl rfl rfl rfl fun a hF=>stS hF rfl rfl rfl rfl rfl fun a hF=>stS hF rfl rfl rfl rfl rfl fun a hF=>stS hF rfl rfl rfl rfl rfl fun a hF=>stS hF rfl rfl rfl rfl rfl fun a hF=>stS hF rfl rfl rfl rfl rfl fun a hF=>stS hF rfl rfl rfl rfl rfl fun a hF=>stS hF rfl rfl rfl rfl rfl fun a hF=>st hF (g_pickT hF rfl rfl) rfl fun a hF=>nt<|c_T hF rfl<|sr<|ag hF rfl rfl fun a hF=>nt<|wp_ret<|iR<|tR<|tR<|iR<|tR<|fin1 rfl hF.defers (res_tmp hF rfl) ⟨_,rfl,hM.below,?_⟩
    show _=_
    exact bool_f (fun hq=>by first | omega | (have hz:=hq.1 gi (by omega) gj (by omega);unfold gElt at hz;omega) | (have hz:=hq.2.2.2 ga (by omega) gb (by omega) gc (by omega);omega) | (have hz:=hq.2.1 ga (by omega);omega) | (obtain ⟨z1,z2,z3,z4⟩:=hq.two hn0 hn (i:=ga) (by omega);exact bo_not (by assumption) (hinv4.1.2 ⟨z1,z2,z3,z4⟩)))
  obtain rfl:n=ga:=by omega
  refine wp_exit<|tX<|tX<|ib_same<|tN<|sr<|ag hF rfl rfl fun a hF=>nt<|wp_ret<|fin1 rfl hF.defers (res_tmp hF rfl) ⟨_,rfl,hM.below,?_⟩
  show _=_
  exact bool_t ⟨hinv1,fun i hi=>(hinv3 i hi).2.2,fun i hi=>(hinv3 i hi).1,fun i hi=>(hinv3 i hi).2.1⟩
end Go.Proofs.Ytnjdpgaofjbndaa
