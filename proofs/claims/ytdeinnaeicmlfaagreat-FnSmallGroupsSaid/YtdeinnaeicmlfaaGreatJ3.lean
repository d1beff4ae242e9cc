import Derived.Test.YtdeinnaeicmlfaaGreatJ1
import Derived.Test.YtdeinnaeicmlfaaGreatSw29
set_option linter.unusedVariables false
set_option linter.unusedSimpArgs false
namespace Go.Proofs.YtdeinnaeicmlfaaGreat
open Go Go.RowKit Go.Sw Go.Ech
open Classical
theorem IsGroupI_out (n:Int)(M:Nat→Nat→Nat)(w:World)(ho:n<1∨6<n) :
    CallsR Tryz.prog 9 #[.agg (grpC n M)] w (fun res _=>res = .bool false):=by
  refine calls_fr [.agg (grpC n M)] Tryz.func9 rfl Tryz.ntmps9 rfl fun a hF=>?_;have hM:Mem w w [none] []:=MemX.start w 1;change Fr 26 a [(0,.agg (grpC n M))] at hF;refine sr<|stR hF (d_box 0 hM hF rfl) rfl ?_;rintro _ w' a ⟨b1,rfl,hM,-⟩ hF;change Mem w w' [some (b1,grpC n M)] [] at hM;refine ag hF rfl rfl fun a hF=>nt<|sq<|sr<|st hF (g_fieldAddr ty_fo_27_0 hF rfl) rfl fun a hF=>st hF (g_load ty_on_2 hF rfl (hM.row 0 rfl) (grpC_n (by omega))) rfl fun a hF=>st hF (g_lss hF rfl rfl) rfl fun a hF=>mv hF rfl rfl fun a hF=>?_
  by_cases g2:(n:Int)<1
  · first | rw [decide_eq_true g2] at hF | simp only [decide_eq_true g2] at hF
    refine stS hF rfl rfl rfl rfl rfl fun a hF=>stS hF rfl rfl rfl rfl rfl fun a hF=>stS hF rfl rfl rfl rfl rfl fun a hF=>st hF (g_pickT hF rfl rfl) rfl fun a hF=>mv hF rfl rfl fun a hF=>stS hF rfl rfl rfl rfl rfl fun a hF=>stS hF rfl rfl rfl rfl rfl fun a hF=>stS hF rfl rfl rfl rfl rfl fun a hF=>st hF (g_pickT hF rfl rfl) rfl fun a hF=>nt<|c_T hF rfl<|sr<|ag hF rfl rfl fun a hF=>nt<|wp_ret<|tR<|fin1 rfl hF.defers (res_tmp hF rfl) ⟨_,rfl,hM.below,?_⟩
    show _=_
    rfl
  first | rw [decide_eq_false g2] at hF | simp only [decide_eq_false g2] at hF
  refine stY hF rfl rfl rfl (g_fieldAddr ty_fo_27_0 hF rfl) rfl fun a hF=>stY hF rfl rfl rfl (g_load ty_on_2 hF rfl (hM.row 0 rfl) (grpC_n (by omega))) rfl fun a hF=>stY hF rfl rfl rfl (g_gtr hF rfl rfl) rfl fun a hF=>st hF (g_pickF hF rfl rfl) rfl fun a hF=>mv hF rfl rfl fun a hF=>?_
  by_cases g4:6<(n:Int)
  · first | rw [decide_eq_true g4] at hF | simp only [decide_eq_true g4] at hF
    refine stS hF rfl rfl rfl rfl rfl fun a hF=>stS hF rfl rfl rfl rfl rfl fun a hF=>stS hF rfl rfl rfl rfl rfl fun a hF=>st hF (g_pickT hF rfl rfl) rfl fun a hF=>nt<|c_T hF rfl<|sr<|ag hF rfl rfl fun a hF=>nt<|wp_ret<|tR<|fin1 rfl hF.defers (res_tmp hF rfl) ⟨_,rfl,hM.below,?_⟩
    show _=_
    rfl
  first | rw [decide_eq_false g4] at hF | simp only [decide_eq_false g4] at hF
  exfalso;omega
theorem l06Is_out (n:Int)(M:Nat→Nat→Nat)(w:World)(ho:n<1∨6<n) :
    CallsR Tryz.prog 27 #[.agg (grpC n M)] w (fun res _=>res = .bool false):=by
  refine calls_fr [.agg (grpC n M)] Tryz.func27 rfl Tryz.ntmps27 rfl fun a hF=>?_;have hM:Mem w w [none] []:=MemX.start w 1;change Fr 126 a [(0,.agg (grpC n M))] at hF;refine sr<|stR hF (d_box 0 hM hF rfl) rfl ?_;rintro _ w' a ⟨b1,rfl,hM,-⟩ hF;change Mem w w' [some (b1,grpC n M)] [] at hM;refine ag hF rfl rfl fun a hF=>ns<|st hF (g_fieldAddr ty_fo_27_0 hF rfl) rfl fun a hF=>st hF (g_load ty_on_2 hF rfl (hM.row 0 rfl) (grpC_n (by omega))) rfl fun a hF=>ag hF rfl rfl fun a hF=>nt<|sq<|sr<|mv hF rfl rfl fun a hF=>stR hF (d_call Tryz.call52 hF (.cons rfl (.cons rfl (.cons rfl .nil))) (l01In_ok (n) (1) (6) _)) rfl ?_;rintro _ w' a ⟨hx,rfl⟩ hF;have hM:=hM.ext hx;refine st hF (g_notP hF rfl) rfl fun a hF=>nt<|c_cond hF rfl (fun h2=>?_) (fun h2=>?_)
  · refine sq ?_
    refine wp_region_lit<|ag hF rfl rfl fun a hF=>nt<|wp_ret<|tR<|fin1 rfl hF.defers (res_tmp hF rfl) ⟨_,rfl,hM.below,?_⟩
    show _=_
    rfl
  exfalso;omega
theorem isG_I (n:Int)(M:Nat→Nat→Nat)(w:World)(hB:∀ i j,M i j≤255):CallsR Tryz.prog 9 #[.agg (grpC n M)] w (fun res _=>res = .bool (decide (GrpP n M))):=by
  by_cases ho:n<1∨6<n
  · exact CallsR.val (IsGroupI_out n M w ho) (congrArg Value.bool (decide_eq_false (fun h=>by have:=h.1;have:=h.2.1;omega)).symm)
  · have e:(n.toNat:Int)=n:=by omega
    have h:=IsGroupI_ok n.toNat M w (by omega) (by omega) hB;rw [e] at h;exact CallsR.val h (congrArg Value.bool (decide_eq_decide.2 ⟨fun q=>⟨by omega,by omega,q⟩,fun q=>q.2.2⟩))
theorem isG_S (n:Int)(M:Nat→Nat→Nat)(w:World)(hB:∀ i j,M i j≤255):CallsR Tryz.prog 27 #[.agg (grpC n M)] w (fun res _=>res = .bool (decide (GrpP n M))):=by
  by_cases ho:n<1∨6<n
  · exact CallsR.val (l06Is_out n M w ho) (congrArg Value.bool (decide_eq_false (fun h=>by have:=h.1;have:=h.2.1;omega)).symm)
  · have e:(n.toNat:Int)=n:=by omega
    have h:=l06Is_ok n.toNat M w (by omega) (by omega) hB;rw [e] at h;exact CallsR.val h (congrArg Value.bool (decide_eq_decide.2 ⟨fun q=>⟨by omega,by omega,q⟩,fun q=>q.2.2⟩))
theorem GrpP.mk {n:Nat}{M:Nat→Nat→Nat}(hn0:0<n)(hn:n≤6)(hG:TabP n M):GrpP (n:Int) M:=⟨by omega,by omega,hG⟩
theorem TabP.lt {n:Nat}{M:Nat→Nat→Nat}(h:TabP n M){i j:Nat}(hi:i<6)(hj:j<6):M i j<n:=(h.1 i hi j hj).1
theorem IsGroupS_ok (n:Int)(M:Nat→Nat→Nat)(w:World)(hB:∀ i j,M i j≤255) :
    CallsR Tryz.prog 10 #[.agg (grpC n M)] w (fun res _=>res = .bool (decide (GrpP n M))):=by
  refine calls_fr [.agg (grpC n M)] Tryz.func10 rfl Tryz.ntmps10 rfl fun a hF=>?_;have hM:Mem w w [none] []:=MemX.start w 1;change Fr 5 a [(0,.agg (grpC n M))] at hF;refine sr<|stR hF (d_box 0 hM hF rfl) rfl ?_;rintro _ w' a ⟨b1,rfl,hM,-⟩ hF;change Mem w w' [some (b1,grpC n M)] [] at hM;refine ag hF rfl rfl fun a hF=>ns<|st hF (g_loadAgg ty_ag_27 hF rfl (hM.row 0 rfl) (by simp only [sz0,grpC_size]<;>omega) (whole (by simp only [sz0,grpC_size]))) rfl fun a hF=>stR hF (d_call Tryz.call27 hF (.cons rfl .nil) (isG_S n M _ hB)) rfl ?_;rintro _ w' a ⟨hx,rfl⟩ hF;have hM:=hM.ext hx;refine ag hF rfl rfl fun a hF=>nt<|wp_ret<|fin1 rfl hF.defers (res_tmp hF rfl) ⟨_,rfl,hM.below,?_⟩
  show _=_
  rfl
def cmF (M:Nat→Nat→Nat) (i j:Nat):Nat:=if M i j=M j i then 1 else 0
def cpI (M:Nat→Nat→Nat) (n i j:Nat):Nat:=sumTo (fun a=>sumTo (fun b=>cmF M a b) n) i+sumTo (fun b=>cmF M i b) j
theorem cpI_le {M:Nat→Nat→Nat}{n i j:Nat}(hn:n≤6)(hi:i≤n)(hj:j≤n):cpI M n i j≤42:=by
  have h0:∀ a b,cmF M a b≤1:=fun a b=>by unfold cmF;split<;>omega
  have h1:=sumTo_le (f:=fun a=>sumTo (fun b=>cmF M a b) n) (c:=6) (m:=i) fun a _=>Nat.le_trans (sumTo_le (c:=1) fun b _=>h0 a b) (by omega);have h2:=sumTo_le (f:=fun b=>cmF M i b) (c:=1) (m:=j) fun b _=>h0 i b
  unfold cpI;omega
theorem cpI_0 {M:Nat→Nat→Nat}{n i:Nat}:cpI M n i n=cpI M n (i+1) 0:=by unfold cpI;simp [sumTo]
theorem cpI_s {M:Nat→Nat→Nat}{n i j:Nat}(h:M i j=M j i):cpI M n i j+1=cpI M n i (j+1):=by unfold cpI;simp [sumTo,cmF,h];omega
theorem cpI_n {M:Nat→Nat→Nat}{n i j:Nat}(h:¬ M i j=M j i):cpI M n i j=cpI M n i (j+1):=by unfold cpI;simp [sumTo,cmF,h]
theorem CommutingPairsSA (n:Int)(M:Nat→Nat→Nat)(w:World)(hB:∀ i j,M i j≤255)(hc:¬ GrpP n M) :
    CallsR Tryz.prog 21 #[.agg (grpC n M)] w (fun res _=>res = .tuple #[.int .i64 0,.int .i64 1]):=by
  refine calls_fr [.agg (grpC n M)] Tryz.func21 rfl Tryz.ntmps21 rfl fun a hF=>?_;have hM:Mem w w [none] []:=MemX.start w 1;change Fr 38 a [(0,.agg (grpC n M))] at hF;refine sr<|stR hF (d_box 0 hM hF rfl) rfl ?_;rintro _ w' a ⟨b1,rfl,hM,-⟩ hF;change Mem w w' [some (b1,grpC n M)] [] at hM;refine ag hF rfl rfl fun a hF=>ag hF rfl rfl fun a hF=>nt<|sq<|sr<|st hF (g_loadAgg ty_ag_27 hF rfl (hM.row 0 rfl) (by simp only [sz0,grpC_size]<;>omega) (whole (by simp only [sz0,grpC_size]))) rfl fun a hF=>stR hF (d_call Tryz.call27 hF (.cons rfl .nil) ((CallsR.val (isG_S n M _ hB) (congrArg Value.bool (decide_eq_false hc))))) rfl ?_;rintro _ w' a ⟨hx,rfl⟩ hF;have hM:=hM.ext hx;refine st hF (g_not (b:=false) hF rfl) rfl fun a hF=>nt<|c_T hF rfl<|sr<|ag hF rfl rfl fun a hF=>ag hF rfl rfl fun a hF=>nt<|wp_ret<|tR<|fin2 rfl hF.defers (res_tmp hF rfl) (res_tmp hF rfl) ⟨_,rfl,hM.below,?_⟩
  show _=_
  rfl
theorem CommutingPairsSG (n:Nat)(M:Nat→Nat→Nat)(w:World)(hn0:0<n)(hn:n≤6)(hB:∀ i j,M i j≤255)(hG:TabP n M) :
    CallsR Tryz.prog 21 #[.agg (grpC (n:Int) M)] w (fun res _=>res = .tuple #[.int .i64 ((cpI M n n 0:Nat):Int),.int .i64 0]):=by
  refine calls_fr [.agg (grpC (n:Int) M)] Tryz.func21 rfl Tryz.ntmps21 rfl fun a hF=>?_;have hM:Mem w w [none] []:=MemX.start w 1;change Fr 38 a [(0,.agg (grpC (n:Int) M))] at hF;refine sr<|stR hF (d_box 0 hM hF rfl) rfl ?_;rintro _ w' a ⟨b1,rfl,hM,-⟩ hF;change Mem w w' [some (b1,grpC (n:Int) M)] [] at hM;refine ag hF rfl rfl fun a hF=>ag hF rfl rfl fun a hF=>nt<|sq<|sr<|st hF (g_loadAgg ty_ag_27 hF rfl (hM.row 0 rfl) (by simp only [sz0,grpC_size]<;>omega) (whole (by simp only [sz0,grpC_size]))) rfl fun a hF=>stR hF (d_call Tryz.call27 hF (.cons rfl .nil) ((CallsR.val (isG_S (n:Int) M _ hB) (congrArg Value.bool (decide_eq_true (GrpP.mk hn0 hn hG)))))) rfl ?_;rintro _ w' a ⟨hx,rfl⟩ hF;have hM:=hM.ext hx;refine st hF (g_not (b:=true) hF rfl) rfl fun a hF=>nt<|c_Fl hF rfl<|wp_skip<|tN<|sr<|ag hF rfl rfl fun a hF=>nt<|sq<|sr<|ag hF rfl rfl fun a hF=>nt<|wp_block ?_;change Mem w _ [some (b1,grpC (n:Int) M)] [] at hM;refine c_loop (fun (kk:Nat) a w'=>kk≤n∧(True)∧Fr 38 a [(1,ptr b1 (0)),(2,.int .i64 (0)),(3,.int .i64 (0)),(9,.bool (false)),(5,.int .i64 (kk:Int)),(4,.int .i64 (((cpI M n kk 0:Nat):Int)))]∧Mem w w' [some (b1,grpC (n:Int) M)] []) (fun kk=>n - kk) 0 ?_ ?_
  · refine ⟨by omega,trivial,hF.sub _ (by repeat' constructor),?_⟩
    exact hM
  clear hF hM;rintro gi a w' ⟨hgi,hinv1,hF,hM⟩;have hcp:=cpI_le (M:=M) (n:=n) (i:=gi) (j:=0) hn hgi (by omega);refine sq<|sr<|mv hF rfl rfl fun a hF=>st hF (g_fieldAddr ty_fo_27_0 hF rfl) rfl fun a hF=>st hF (g_load ty_on_2 hF rfl (hM.row 0 rfl) (grpC_n (by omega))) rfl fun a hF=>st hF (g_lss hF rfl rfl) rfl fun a hF=>nt<|c_cond hF rfl (fun h3=>?_) (fun h3=>?_)
  · refine wp_skip ?_
    refine tN<|sq<|wp_block<|sr<|ag hF rfl rfl fun a hF=>nt<|wp_block ?_;change Mem w _ [some (b1,grpC (n:Int) M)] [] at hM;refine c_loop (fun (kk:Nat) a w'=>kk≤n∧(True)∧Fr 38 a [(1,ptr b1 (0)),(2,.int .i64 (0)),(3,.int .i64 (0)),(9,.bool (false)),(5,.int .i64 (gi:Int)),(10,.int .i64 (gi:Int)),(11,ptr b1 (0+0)),(12,.int .i64 (n:Int)),(13,.bool (decide (((gi:Int):Int)<(n:Int)))),(6,.int .i64 (kk:Int)),(4,.int .i64 ((cpI M n gi kk:Int)))]∧Mem w w' [some (b1,grpC (n:Int) M)] []) (fun kk=>n - kk) 0 ?_ ?_
    · refine ⟨by omega,trivial,hF.sub _ (by repeat' constructor),?_⟩
      exact hM
    clear hF hM;rintro gj a w' ⟨hgj,hinv2,hF,hM⟩;have hcp2:=cpI_le (M:=M) (n:=n) (i:=gi) (j:=gj) hn hgi hgj;have hb1:=hB gi gj;have hb2:=hB gj gi;refine sq<|sr<|mv hF rfl rfl fun a hF=>st hF (g_fieldAddr ty_fo_27_0 hF rfl) rfl fun a hF=>st hF (g_load ty_on_2 hF rfl (hM.row 0 rfl) (grpC_n (by omega))) rfl fun a hF=>st hF (g_lss hF rfl rfl) rfl fun a hF=>nt<|c_cond hF rfl (fun h4=>?_) (fun h4=>?_)
    · refine wp_skip ?_
      refine tN<|sq<|wp_block<|sq<|c_par 12 [] [.val (.int .i64 (gi:Int)),.val (.int .i64 (gj:Int)),.val (ptr b1 (0+1)),.val (ptr b1 (0+1+(gi)*6)),.val (ptr b1 (0+1+(gi)*6+(gj)*1)),.val (.int .u8 ((M (gi) (gj):Int))),.val (.int .i64 (gj:Int)),.val (.int .i64 (gi:Int)),.val (ptr b1 (0+1)),.val (ptr b1 (0+1+(gj)*6)),.val (ptr b1 (0+1+(gj)*6+(gi)*1)),.val (.int .u8 ((M (gj) (gi):Int)))] hmix rfl hF rfl hM ⟨fun a w gG hF hS hd=>by exact pmv hS rfl hF rfl,fun a w gG hF hS hd=>by exact pmv hS rfl hF rfl,fun a w gG hF hS hd=>by exact par_val hS rfl (g_fieldAddr ty_fo_27_1 hF rfl),fun a w gG hF hS hd=>by have hF:=hF.ext1 22 (hd 0 rfl rfl);have hF:=hF.ext1 24 (hd 2 rfl rfl);exact par_val hS rfl (g_indexAddr ty_ar_25 hF rfl rfl rfl (by omega)),fun a w gG hF hS hd=>by have hF:=hF.ext1 23 (hd 1 rfl rfl);have hF:=hF.ext1 25 (hd 3 rfl rfl);exact par_val hS rfl (g_indexAddr ty_ar_24 hF rfl rfl rfl (by omega)),fun a w gG hF hS hd=>by have hF:=hF.ext1 26 (hd 4 rfl rfl);have hM:=hS.mem rfl;exact par_val hS rfl (g_load ty_on_5 hF rfl (hM.row 0 rfl) (grpC_M (gi) (gj) (by omega) (by omega) (by omega))),fun a w gG hF hS hd=>by exact pmv hS rfl hF rfl,fun a w gG hF hS hd=>by exact pmv hS rfl hF rfl,fun a w gG hF hS hd=>by exact par_val hS rfl (g_fieldAddr ty_fo_27_1 hF rfl),fun a w gG hF hS hd=>by have hF:=hF.ext1 28 (hd 6 rfl rfl);have hF:=hF.ext1 30 (hd 8 rfl rfl);exact par_val hS rfl (g_indexAddr ty_ar_25 hF rfl rfl rfl (by omega)),fun a w gG hF hS hd=>by have hF:=hF.ext1 29 (hd 7 rfl rfl);have hF:=hF.ext1 31 (hd 9 rfl rfl);exact par_val hS rfl (g_indexAddr ty_ar_24 hF rfl rfl rfl (by omega)),fun a w gG hF hS hd=>by have hF:=hF.ext1 32 (hd 10 rfl rfl);have hM:=hS.mem rfl;exact par_val hS rfl (g_load ty_on_5 hF rfl (hM.row 0 rfl) (grpC_M (gj) (gi) (by omega) (by omega) (by omega))),trivial⟩ ?_;intro a w' L hF hS hq;have hF:=hF.ext1 22 (hq 0 rfl rfl);have hF:=hF.ext1 23 (hq 1 rfl rfl);have hF:=hF.ext1 24 (hq 2 rfl rfl);have hF:=hF.ext1 25 (hq 3 rfl rfl);have hF:=hF.ext1 26 (hq 4 rfl rfl);have hF:=hF.ext1 27 (hq 5 rfl rfl);have hF:=hF.ext1 28 (hq 6 rfl rfl);have hF:=hF.ext1 29 (hq 7 rfl rfl);have hF:=hF.ext1 30 (hq 8 rfl rfl);have hF:=hF.ext1 31 (hq 9 rfl rfl);have hF:=hF.ext1 32 (hq 10 rfl rfl);have hF:=hF.ext1 33 (hq 11 rfl rfl);have hM:=hS.mem rfl;change wpList Tryz.prog _ _ [_] _ _;refine st hF (g_eql hF rfl rfl) rfl fun a hF=>nt<|c_cond hF rfl (fun h5=>?_) (fun h5=>?_)
      · refine wp_region_lit ?_
        refine mv hF rfl rfl fun a hF=>st hF (g_add hF rfl rfl (add_nat (cpI M n gi gj) (1) (by omega))) rfl fun a hF=>ag hF rfl rfl fun a hF=>wpList_nil<|iN<|tN<|wp_region_lit<|mv hF rfl rfl fun a hF=>st hF (g_add hF rfl rfl (add_nat (gj) (1) (by omega))) rfl fun a hF=>ag hF rfl rfl fun a hF=>wpList_nil<|tN ?_;rw [show cpI M n gi gj+1=cpI M n gi (gj+1) from cpI_s (by omega)] at hF;refine ⟨gj+1,⟨by omega,trivial,hF.sub _ (by repeat' constructor),?_⟩,by omega⟩;exact hM
      refine wp_skip<|iN<|tN<|wp_region_lit<|mv hF rfl rfl fun a hF=>st hF (g_add hF rfl rfl (add_nat (gj) (1) (by omega))) rfl fun a hF=>ag hF rfl rfl fun a hF=>wpList_nil<|tN ?_;rw [show cpI M n gi gj=cpI M n gi (gj+1) from cpI_n (by omega)] at hF;refine ⟨gj+1,⟨by omega,trivial,hF.sub _ (by repeat' constructor),?_⟩,by omega⟩;exact hM
    obtain rfl:n=gj:=by omega
    refine wp_exit<|tX<|tX<|ib_same<|iN<|tN<|wp_region_lit<|mv hF rfl rfl fun a hF=>st hF (g_add hF rfl rfl (add_nat (gi) (1) (by omega))) rfl fun a hF=>ag hF rfl rfl fun a hF=>wpList_nil<|tN ?_;rw [cpI_0] at hF;refine ⟨gi+1,⟨by omega,trivial,hF.sub _ (by repeat' constructor),?_⟩,by omega⟩;exact hM
  obtain rfl:n=gi:=by omega
  refine wp_exit<|tX<|tX<|ib_same<|tN<|sr<|mv hF rfl rfl fun a hF=>ag hF rfl rfl fun a hF=>ag hF rfl rfl fun a hF=>nt<|wp_ret<|fin2 rfl hF.defers (res_tmp hF rfl) (res_tmp hF rfl) ⟨_,rfl,hM.below,?_⟩
  show _=_
  rfl
theorem CommutingPairsIA (n:Int)(M:Nat→Nat→Nat)(w:World)(hB:∀ i j,M i j≤255)(hc:¬ GrpP n M) :
    CallsR Tryz.prog 20 #[.agg (grpC n M)] w (fun res _=>res = .tuple #[.int .i64 0,.int .i64 1]):=by
  refine calls_fr [.agg (grpC n M)] Tryz.func20 rfl Tryz.ntmps20 rfl fun a hF=>?_;have hM:Mem w w [none] []:=MemX.start w 1;change Fr 29 a [(0,.agg (grpC n M))] at hF;refine sr<|stR hF (d_box 0 hM hF rfl) rfl ?_;rintro _ w' a ⟨b1,rfl,hM,-⟩ hF;change Mem w w' [some (b1,grpC n M)] [] at hM;refine ag hF rfl rfl fun a hF=>ag hF rfl rfl fun a hF=>nt<|sq<|sr<|st hF (g_loadAgg ty_ag_27 hF rfl (hM.row 0 rfl) (by simp only [sz0,grpC_size]<;>omega) (whole (by simp only [sz0,grpC_size]))) rfl fun a hF=>stR hF (d_call Tryz.call9 hF (.cons rfl .nil) ((CallsR.val (isG_I n M _ hB) (congrArg Value.bool (decide_eq_false hc))))) rfl ?_;rintro _ w' a ⟨hx,rfl⟩ hF;have hM:=hM.ext hx;refine st hF (g_not (b:=false) hF rfl) rfl fun a hF=>nt<|c_T hF rfl<|sr<|ag hF rfl rfl fun a hF=>ag hF rfl rfl fun a hF=>nt<|wp_ret<|tR<|fin2 rfl hF.defers (res_tmp hF rfl) (res_tmp hF rfl) ⟨_,rfl,hM.below,?_⟩
  show _=_
  rfl
theorem CommutingPairsIG (n:Nat)(M:Nat→Nat→Nat)(w:World)(hn0:0<n)(hn:n≤6)(hB:∀ i j,M i j≤255)(hG:TabP n M) :
    CallsR Tryz.prog 20 #[.agg (grpC (n:Int) M)] w (fun res _=>res = .tuple #[.int .i64 ((cpI M n n 0:Nat):Int),.int .i64 0]):=by
  refine calls_fr [.agg (grpC (n:Int) M)] Tryz.func20 rfl Tryz.ntmps20 rfl fun a hF=>?_;have hM:Mem w w [none] []:=MemX.start w 1;change Fr 29 a [(0,.agg (grpC (n:Int) M))] at hF;refine sr<|stR hF (d_box 0 hM hF rfl) rfl ?_;rintro _ w' a ⟨b1,rfl,hM,-⟩ hF;change Mem w w' [some (b1,grpC (n:Int) M)] [] at hM;refine ag hF rfl rfl fun a hF=>ag hF rfl rfl fun a hF=>nt<|sq<|sr<|st hF (g_loadAgg ty_ag_27 hF rfl (hM.row 0 rfl) (by simp only [sz0,grpC_size]<;>omega) (whole (by simp only [sz0,grpC_size]))) rfl fun a hF=>stR hF (d_call Tryz.call9 hF (.cons rfl .nil) ((CallsR.val (isG_I (n:Int) M _ hB) (congrArg Value.bool (decide_eq_true (GrpP.mk hn0 hn hG)))))) rfl ?_;rintro _ w' a ⟨hx,rfl⟩ hF;have hM:=hM.ext hx;refine st hF (g_not (b:=true) hF rfl) rfl fun a hF=>nt<|c_Fl hF rfl<|wp_skip<|tN<|sr<|ag hF rfl rfl fun a hF=>nt<|sq<|sr<|st hF (g_fieldAddr ty_fo_27_0 hF rfl) rfl fun a hF=>st hF (g_load ty_on_2 hF rfl (hM.row 0 rfl) (grpC_n (by omega))) rfl fun a hF=>mv hF rfl rfl fun a hF=>nt<|wp_block ?_;change Mem w _ [some (b1,grpC (n:Int) M)] [] at hM;refine c_loop (fun (kk:Nat) a w'=>kk≤n∧(True)∧Fr 29 a [(1,ptr b1 (0)),(2,.int .i64 (0)),(3,.int .i64 (0)),(9,.bool (false)),(11,.int .i64 (n:Int)),(12,.int .i64 (kk:Int)),(4,.int .i64 (((cpI M n kk 0:Nat):Int)))]∧Mem w w' [some (b1,grpC (n:Int) M)] []) (fun kk=>n - kk) 0 ?_ ?_
  · refine ⟨by omega,trivial,hF.sub _ (by repeat' constructor),?_⟩
    exact hM
  clear hF hM;rintro gi a w' ⟨hgi,hinv1,hF,hM⟩;have hcp:=cpI_le (M:=M) (n:=n) (i:=gi) (j:=0) hn hgi (by omega);refine sr<|st hF (g_lss hF rfl rfl) rfl fun a hF=>nt<|sq<|c_cond hF rfl (fun h3=>?_) (fun h3=>?_)
  · refine wp_skip ?_
    refine tN<|sq<|wp_block<|sr<|mv hF rfl rfl fun a hF=>ag hF rfl rfl fun a hF=>ns<|st hF (g_fieldAddr ty_fo_27_0 hF rfl) rfl fun a hF=>st hF (g_load ty_on_2 hF rfl (hM.row 0 rfl) (grpC_n (by omega))) rfl fun a hF=>mv hF rfl rfl fun a hF=>nt<|wp_block ?_;change Mem w _ [some (b1,grpC (n:Int) M)] [] at hM;refine c_loop (fun (kk:Nat) a w'=>kk≤n∧(True)∧Fr 29 a [(1,ptr b1 (0)),(2,.int .i64 (0)),(3,.int .i64 (0)),(9,.bool (false)),(11,.int .i64 (n:Int)),(12,.int .i64 (gi:Int)),(13,.bool (decide (((gi:Int):Int)<(n:Int)))),(14,.int .i64 (gi:Int)),(5,.int .i64 (gi:Int)),(15,ptr b1 (0+0)),(16,.int .i64 (n:Int)),(17,.int .i64 (kk:Int)),(4,.int .i64 ((cpI M n gi kk:Int)))]∧Mem w w' [some (b1,grpC (n:Int) M)] []) (fun kk=>n - kk) 0 ?_ ?_
    · refine ⟨by omega,trivial,hF.sub _ (by repeat' constructor),?_⟩
      exact hM
    clear hF hM;rintro gj a w' ⟨hgj,hinv2,hF,hM⟩;have hcp2:=cpI_le (M:=M) (n:=n) (i:=gi) (j:=gj) hn hgi hgj;have hb1:=hB gi gj;have hb2:=hB gj gi;refine sr<|st hF (g_lss hF rfl rfl) rfl fun a hF=>nt<|sq<|c_cond hF rfl (fun h4=>?_) (fun h4=>?_)
    · refine wp_skip ?_
      refine tN<|sq<|wp_block<|sr<|mv hF rfl rfl fun a hF=>ag hF rfl rfl fun a hF=>ns<|st hF (g_loadAgg ty_ag_27 hF rfl (hM.row 0 rfl) (by simp only [sz0,grpC_size]<;>omega) (whole (by simp only [sz0,grpC_size]))) rfl fun a hF=>mv hF rfl rfl fun a hF=>mv hF rfl rfl fun a hF=>stR hF (d_call Tryz.call45 hF (.cons rfl (.cons rfl (.cons rfl .nil))) (commute_ok (n:Int) M (gi) (gj) _ hB (by omega) (by omega))) rfl ?_;rintro _ w' a ⟨hx,rfl⟩ hF;have hM:=hM.ext hx;refine nt<|c_cond hF rfl (fun h5=>?_) (fun h5=>?_)
      · refine wp_region_lit ?_
        refine mv hF rfl rfl fun a hF=>st hF (g_add hF rfl rfl (add_nat (cpI M n gi gj) (1) (by omega))) rfl fun a hF=>ag hF rfl rfl fun a hF=>wpList_nil<|iN<|tN<|wp_region_lit<|st hF (g_add hF rfl rfl (add_nat (gj) (1) (by omega))) rfl fun a hF=>mv hF rfl rfl fun a hF=>wpList_nil<|tN ?_;rw [show cpI M n gi gj+1=cpI M n gi (gj+1) from cpI_s (by omega)] at hF;refine ⟨gj+1,⟨by omega,trivial,hF.sub _ (by repeat' constructor),?_⟩,by omega⟩;exact hM
      refine wp_skip<|iN<|tN<|wp_region_lit<|st hF (g_add hF rfl rfl (add_nat (gj) (1) (by omega))) rfl fun a hF=>mv hF rfl rfl fun a hF=>wpList_nil<|tN ?_;rw [show cpI M n gi gj=cpI M n gi (gj+1) from cpI_n (by omega)] at hF;refine ⟨gj+1,⟨by omega,trivial,hF.sub _ (by repeat' constructor),?_⟩,by omega⟩;exact hM
    obtain rfl:n=gj:=by omega
    refine wp_exit<|tX<|tX<|ib_same<|iN<|tN<|wp_region_lit<|st hF (g_add hF rfl rfl (add_nat (gi) (1) (by omega))) rfl fun a hF=>mv hF rfl rfl fun a hF=>wpList_nil<|tN ?_;rw [cpI_0] at hF;refine ⟨gi+1,⟨by omega,trivial,hF.sub _ (by repeat' constructor),?_⟩,by omega⟩;exact hM
  obtain rfl:n=gi:=by omega
  refine wp_exit<|tX<|tX<|ib_same<|tN<|sr<|mv hF rfl rfl fun a hF=>ag hF rfl rfl fun a hF=>ag hF rfl rfl fun a hF=>nt<|wp_ret<|fin2 rfl hF.defers (res_tmp hF rfl) (res_tmp hF rfl) ⟨_,rfl,hM.below,?_⟩
  show _=_
  rfl
end Go.Proofs.YtdeinnaeicmlfaaGreat
namespace Go.Proofs.YtdeinnaeicmlfaaGreat
open Go Go.RowKit Go.Sw Go.Ech
open Classical
theorem ty_us_49:Tryz.prog.underlying 49=some (.slice 2):=by kernel_rfl
theorem ty_sl_49:sliceOf Tryz.prog 49=some 1:=by kernel_rfl
theorem sumTo_addf (f g:Nat→Nat):∀ n,sumTo (fun x=>f x+g x) n=sumTo f n+sumTo g n
  | 0=>rfl
  | n+1=>by simp only [sumTo,sumTo_addf f g n];omega
theorem sumTo_swap (f:Nat→Nat→Nat)(m:Nat):∀ n,sumTo (fun x=>sumTo (fun a=>f x a) n) m=sumTo (fun a=>sumTo (fun x=>f x a) m) n
  | 0 => by
    simp only [sumTo]
    induction m with
    | zero=>rfl
    | succ m ih=>simp only [sumTo,ih]
  | n+1=>by simp only [sumTo];rw [sumTo_addf,sumTo_swap f m n]
theorem sumTo_mulr (f:Nat→Nat)(c:Nat):∀ n,sumTo (fun x=>f x*c) n=sumTo f n*c
  | 0=>by simp [sumTo]
  | n+1=>by simp only [sumTo,sumTo_mulr f c n,Nat.add_mul]
theorem sumTo_mull (f:Nat→Nat)(c:Nat):∀ n,sumTo (fun x=>c*f x) n=c*sumTo f n
  | 0=>by simp [sumTo]
  | n+1=>by simp only [sumTo,sumTo_mull f c n,Nat.mul_add]
def wA (F v:Nat→Nat→Nat) (n i j x:Nat):Nat:=sumTo (fun a=>sumTo (fun b=>if F a b=x then v a b else 0) n) i+sumTo (fun b=>if F i b=x then v i b else 0) j
def wy (M:Nat→Nat→Nat) (n:Nat) (e:Nat→Nat):Nat→Nat→Nat
  | 0,x=>if x=0 then 1 else 0
  | k+1,x=>wA M (fun a b=>wy M n e k a*e b) n n 0 x
def comI (M:Nat→Nat→Nat) (n a b:Nat):Nat:=M (M a b) (M (lead (M a) n) (lead (M b) n))
def comS (M:Nat→Nat→Nat) (n a b:Nat):Nat:=M (M (M (M 0 a) b) (lead (M a) n)) (lead (M b) n)
theorem TabP.inv {n:Nat}{M:Nat→Nat→Nat}(h:TabP n M){i:Nat}(hi:i<n):lead (M i) n<n:=lead_lt (h.2.2.1 i hi)
def com (M:Nat→Nat→Nat) (n x:Nat):Nat:=wA (comI M n) (fun _ _=>1) n n 0 x
def foldM (M:Nat→Nat→Nat) (l:Nat→Nat):Nat→Nat
  | 0=>0
  | k+1=>M (foldM M l k) (l k)
theorem foldM_lt {M:Nat→Nat→Nat}{n:Nat}{l:Nat→Nat}(hn0:0<n)(hn:n≤6)(h:TabP n M):∀ m,(∀ i,i<m→l i<n)→foldM M l m<n
  | 0,_=>hn0
  | m + 1, hl => by
    have h1:=foldM_lt (l:=l) hn0 hn h m (fun i hi=>hl i (by omega))
    have h2:=hl m (by omega)
    exact h.lt (by omega) (by omega)
theorem l06Inverse_ok (n:Nat)(M:Nat→Nat→Nat)(i:Nat)(w:World)(hn0:0<n)(hn:n≤6)(hB:∀ i j,M i j≤255)(hG:TabP n M)(hi:i<n) :
    CallsR Tryz.prog 54 #[.agg (grpC (n:Int) M),.int .i64 (i:Int)] w (fun res _=>res = .int .i64 (lead (M i) n:Int)):=by
  refine calls_fr [.agg (grpC (n:Int) M),.int .i64 (i:Int)] Tryz.func54 rfl Tryz.ntmps54 rfl fun a hF=>?_;have hM:Mem w w [none] []:=MemX.start w 1;change Fr 20 a [(0,.agg (grpC (n:Int) M)),(1,.int .i64 (i:Int))] at hF;refine sr<|stR hF (d_box 0 hM hF rfl) rfl ?_;rintro _ w' a ⟨b1,rfl,hM,-⟩ hF;refine ag hF rfl rfl fun a hF=>nt<|sq<|sr<|ag hF rfl rfl fun a hF=>nt<|wp_block ?_;change Mem w _ [some (b1,grpC (n:Int) M)] [] at hM;refine c_loop (fun (kk:Nat) a w'=>kk≤n∧(∀ j,j<kk→M i j≠0)∧Fr 20 a [(1,.int .i64 (i:Int)),(2,ptr b1 (0)),(5,.int .i64 (kk:Int))]∧Mem w w' [some (b1,grpC (n:Int) M)] []) (fun kk=>n - kk) 0 ?_ ?_
  · refine ⟨by omega,fun i hi=>absurd hi (by omega),hF.sub _ (by repeat' constructor),?_⟩
    exact hM
  clear hF hM;rintro gj a w' ⟨hgj,hinv1,hF,hM⟩;have hbb:=hB i gj;refine sq<|sr<|mv hF rfl rfl fun a hF=>st hF (g_fieldAddr ty_fo_27_0 hF rfl) rfl fun a hF=>st hF (g_load ty_on_2 hF rfl (hM.row 0 rfl) (grpC_n (by omega))) rfl fun a hF=>st hF (g_lss hF rfl rfl) rfl fun a hF=>nt<|c_cond hF rfl (fun h2=>?_) (fun h2=>?_)
  · refine wp_skip ?_
    refine tN<|sq<|wp_block<|sr<|mv hF rfl rfl fun a hF=>mv hF rfl rfl fun a hF=>st hF (g_fieldAddr ty_fo_27_1 hF rfl) rfl fun a hF=>st hF (g_indexAddr ty_ar_25 hF rfl rfl rfl (by omega)) rfl fun a hF=>st hF (g_indexAddr ty_ar_24 hF rfl rfl rfl (by omega)) rfl fun a hF=>st hF (g_load ty_on_5 hF rfl (hM.row 0 rfl) (grpC_M (i) (gj) (by omega) (by omega) (by omega))) rfl fun a hF=>st hF (g_eql hF rfl rfl) rfl fun a hF=>nt<|c_cond hF rfl (fun h3=>?_) (fun h3=>?_)
    · refine sq ?_
      refine wp_region_lit<|mv hF rfl rfl fun a hF=>ag hF rfl rfl fun a hF=>nt<|wp_ret<|iR<|tR<|tR<|iR<|tR<|fin1 rfl hF.defers (res_tmp hF rfl) ⟨_,rfl,hM.below,?_⟩
      show _=_
      exact congrArg (Value.int .i64) (congrArg Nat.cast (lead_eq (j:=gj) (by omega) (by omega) hinv1).symm)
    refine wp_skip<|iN<|tN<|wp_region_lit<|mv hF rfl rfl fun a hF=>st hF (g_add hF rfl rfl (add_nat (gj) (1) (by omega))) rfl fun a hF=>ag hF rfl rfl fun a hF=>nt<|⟨gj+1,⟨by omega,allS hinv1 (by omega),hF.sub _ (by repeat' constructor),?_⟩,by omega⟩;exact hM
  obtain rfl:n=gj:=by omega
  refine wp_exit<|tX<|tX<|ib_same<|tN<|sr<|ag hF rfl rfl fun a hF=>nt<|wp_ret<|fin1 rfl hF.defers (res_tmp hF rfl) ⟨_,rfl,hM.below,?_⟩
  show _=_
  exfalso;have hz:=hG.inv (i:=i) (by omega);rw [lead_none hinv1] at hz;omega
theorem l06Times_ok (n:Nat)(M:Nat→Nat→Nat)(b m:Nat)(cs:Array Value)(l:Nat→Nat)(w:World)(hn0:0<n)(hn:n≤6)(hB:∀ i j,M i j≤255)(hG:TabP n M)(hb:Blk w b cs)(hg:∀ i,i<m→cs[0+i*1]? = some (.int .i64 (l i:Int)))(hm:m<10)(hl:∀ i,i<m→l i<n) :
    CallsR Tryz.prog 53 #[.agg (grpC (n:Int) M),.slice (some ⟨b,0,none⟩) m m] w (fun res _=>res = .int .i64 (foldM M l m:Int)):=by
  refine calls_fr [.agg (grpC (n:Int) M),.slice (some ⟨b,0,none⟩) m m] Tryz.func53 rfl Tryz.ntmps53 rfl fun a hF=>?_;have hM:Mem w w [none] [(b,cs)]:=MemX.startD w 1 _ (startD1 hb);change Fr 24 a [(0,.agg (grpC (n:Int) M)),(1,.slice (some ⟨b,0,none⟩) m m)] at hF;refine sr<|stR hF (d_box 0 hM hF rfl) rfl ?_;rintro _ w' a ⟨b1,rfl,hM,-⟩ hF;refine ag hF rfl rfl fun a hF=>ns<|ag hF rfl rfl fun a hF=>nt<|sq<|sr<|ag hF rfl rfl fun a hF=>nt<|wp_block ?_;change Mem w _ [some (b1,grpC (n:Int) M)] [(b,cs)] at hM;refine c_loop (fun (kk:Nat) a w'=>kk≤m∧(True)∧Fr 24 a [(1,.slice (some ⟨b,0,none⟩) m m),(2,ptr b1 (0)),(4,.int .i64 (0)),(6,.int .i64 (kk:Int)),(5,.int .i64 ((foldM M l kk:Int)))]∧Mem w w' [some (b1,grpC (n:Int) M)] [(b,cs)]) (fun kk=>m - kk) 0 ?_ ?_
  · refine ⟨by omega,trivial,hF.sub _ (by repeat' constructor),?_⟩
    exact hM
  clear hF hM;rintro gi a w' ⟨hgi,hinv1,hF,hM⟩;have hfl:=foldM_lt hn0 hn hG gi (fun i hi=>hl i (by omega));have hli:gi<m→l gi<n:=hl gi;have hbb:=hB (foldM M l gi) (l gi);refine sq<|sr<|mv hF rfl rfl fun a hF=>mv hF rfl rfl fun a hF=>st hF (g_len ty_us_49 hF rfl) rfl fun a hF=>st hF (g_lss hF rfl rfl) rfl fun a hF=>nt<|c_cond hF rfl (fun h2=>?_) (fun h2=>?_)
  · refine wp_skip ?_
    refine tN<|sq<|wp_block<|c_par 7 [] [.val (.int .i64 ((foldM M l gi:Int))),.val (.slice (some ⟨b,0,none⟩) m m),.val (.int .i64 (gi:Int)),.val (ptr b (0+(gi)*1)),.val (.int .i64 ((l (gi):Int))),.val (ptr b1 (0+1)),.val (ptr b1 (0+1+(foldM M l gi)*6))] hmix rfl hF rfl hM ⟨fun a w gG hF hS hd=>by exact pmv hS rfl hF rfl,fun a w gG hF hS hd=>by exact pmv hS rfl hF rfl,fun a w gG hF hS hd=>by exact pmv hS rfl hF rfl,fun a w gG hF hS hd=>by have hF:=hF.ext1 14 (hd 1 rfl rfl);have hF:=hF.ext1 15 (hd 2 rfl rfl);exact par_val hS rfl (g_indexSl (i:=gi) ty_sl_49 hF rfl rfl rfl (by omega)),fun a w gG hF hS hd=>by have hF:=hF.ext1 16 (hd 3 rfl rfl);have hM:=hS.mem rfl;exact par_val hS rfl (g_load ty_on_2 hF rfl (hM.fz 0 rfl) (hg (gi) (by omega))),fun a w gG hF hS hd=>by exact par_val hS rfl (g_fieldAddr ty_fo_27_1 hF rfl),fun a w gG hF hS hd=>by have hF:=hF.ext1 13 (hd 0 rfl rfl);have hF:=hF.ext1 18 (hd 5 rfl rfl);exact par_val hS rfl (g_indexAddr ty_ar_25 hF rfl rfl rfl (by omega)),trivial⟩ ?_;intro a w' L hF hS hq;have hF:=hF.ext1 13 (hq 0 rfl rfl);have hF:=hF.ext1 14 (hq 1 rfl rfl);have hF:=hF.ext1 15 (hq 2 rfl rfl);have hF:=hF.ext1 16 (hq 3 rfl rfl);have hF:=hF.ext1 17 (hq 4 rfl rfl);have hF:=hF.ext1 18 (hq 5 rfl rfl);have hF:=hF.ext1 19 (hq 6 rfl rfl);have hM:=hS.mem rfl;change wpList Tryz.prog _ _ [_,_,_,_] _ _;refine st hF (g_indexAddr ty_ar_24 hF rfl rfl rfl (by omega)) rfl fun a hF=>st hF (g_load ty_on_5 hF rfl (hM.row 0 rfl) (grpC_M (foldM M l gi) (l (gi)) (by omega) (by omega) (by omega))) rfl fun a hF=>st hF (g_conv ty_un_2 ty_ud_5 hF rfl (wrap_i64 (by omega) (by omega))) rfl fun a hF=>ag hF rfl rfl fun a hF=>wpList_nil<|iN<|tN<|wp_region_lit<|mv hF rfl rfl fun a hF=>st hF (g_add hF rfl rfl (add_nat (gi) (1) (by omega))) rfl fun a hF=>ag hF rfl rfl fun a hF=>nt<|⟨gi+1,⟨by omega,trivial,hF.sub _ (by repeat' constructor),?_⟩,by omega⟩;exact hM
  obtain rfl:m=gi:=by omega
  refine wp_exit<|tX<|tX<|ib_same<|tN<|sr<|mv hF rfl rfl fun a hF=>ag hF rfl rfl fun a hF=>nt<|wp_ret<|fin1 rfl hF.defers (res_tmp hF rfl) ⟨_,rfl,hM.below,?_⟩
  show _=_
  rfl
theorem l4_lt2 {n a b:Nat}(ha:a<n)(hb:b<n):∀ i,i<2→l4 a b 0 0 i<n:=fun i hi=>by
  obtain rfl | rfl:i=0∨i=1:=by omega
  · exact ha
  · exact hb
theorem l4_lt3 {n a b c:Nat}(ha:a<n)(hb:b<n)(hc:c<n):∀ i,i<3→l4 a b c 0 i<n:=fun i hi=>by
  obtain rfl | rfl | rfl:i=0∨i=1∨i=2:=by omega
  · exact ha
  · exact hb
  · exact hc
end Go.Proofs.YtdeinnaeicmlfaaGreat
