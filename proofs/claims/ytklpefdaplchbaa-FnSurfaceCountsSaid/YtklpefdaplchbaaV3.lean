import Derived.Test.YtklpefdaplchbaaJ3
import Derived.Test.YtklpefdaplchbaaEch10
import Derived.Test.YtklpefdaplchbaaSw85
import Derived.Shelf.Small.Bits
import Derived.Shelf.Strconv.Itoa0
import Derived.Test.YtklpefdaplchbaaProg
set_option linter.unusedVariables false
set_option linter.unusedSimpArgs false
namespace Go.Proofs.Ytklpefdaplchbaa
open Go Go.RowKit Go.Sw Go.Ech
open Classical
theorem ty_bp_39_3:∀ (p n:Int) (f:Nat→Nat) w,(Instr.build 39 #[(0,.int .i64 p),(1,.int .i64 n),(3,.agg (vecC f))]).run Try.prog w = .ok (.agg (algC p n (fun _ _ _=>0) f)) w:=by intros;kernel_rfl
theorem ty_bf_37_24_387:∀ w,(Instr.build 37 #[(0,.int .u8 (1))]).run Try.prog w = .ok (.agg (vecC (fun c=>if c=0 then 1 else 0))) w:=by intros;kernel_rfl
def gTp (n:Nat) (M:Nat→Nat→Nat) (i0 j0 i j k:Nat):Nat:=if (i<i0∨(i=i0∧j<j0))∧j<n∧k=M i j then 1 else 0
def gT (n:Nat) (M:Nat→Nat→Nat) (i j k:Nat):Nat:=if i<n∧j<n∧k=M i j then 1 else 0
theorem gTp_0 {n:Nat}{M:Nat→Nat→Nat}{i j k:Nat}:gTp n M 0 0 i j k=0:=by unfold gTp;rw [if_neg (by omega)]
theorem gTp_row {n:Nat}{M:Nat→Nat→Nat}{a i j k:Nat}:gTp n M a n i j k=gTp n M (a+1) 0 i j k:=by
  unfold gTp
  by_cases h:k=M i j
  · by_cases h2:(i<a∨(i=a∧j<n))∧j<n
    · rw [if_pos ⟨h2.1,h2.2,h⟩,if_pos ⟨by omega,by omega,h⟩]
    · rw [if_neg (fun q=>h2 ⟨q.1,q.2.1⟩),if_neg (fun q=>h2 (by omega))]
  · rw [if_neg (fun q=>h q.2.2),if_neg (fun q=>h q.2.2)]
theorem gTp_end {n:Nat}{M:Nat→Nat→Nat}{i j k:Nat}:gTp n M n 0 i j k=gT n M i j k:=by
  unfold gTp gT
  by_cases h:k=M i j
  · by_cases h2:i<n∧j<n
    · rw [if_pos ⟨by omega,by omega,h⟩,if_pos ⟨by omega,by omega,h⟩]
    · rw [if_neg (by omega),if_neg (by omega)]
  · rw [if_neg (fun q=>h q.2.2),if_neg (fun q=>h q.2.2)]
theorem gTp_step {n:Nat}{M:Nat→Nat→Nat}{a b i j k:Nat}(hb:b<n):(if i=a∧j=b then (if k=M a b then 1 else 0) else gTp n M a b i j k)=gTp n M a (b+1) i j k:=by
  unfold gTp
  by_cases e:i=a∧j=b
  · obtain ⟨rfl,rfl⟩:=e
    rw [if_pos ⟨rfl,rfl⟩]
    by_cases h:k=M i j
    · rw [if_pos h,if_pos ⟨by omega,hb,h⟩]
    · rw [if_neg h,if_neg (fun q=>h q.2.2)]
  · rw [if_neg e]
    by_cases h:k=M i j
    · by_cases h2:(i<a∨(i=a∧j<b))∧j<n
      · rw [if_pos ⟨h2.1,h2.2,h⟩,if_pos ⟨by omega,by omega,h⟩]
      · rw [if_neg (fun q=>h2 ⟨q.1,q.2.1⟩),if_neg (fun q=>h2 (by omega))]
    · rw [if_neg (fun q=>h q.2.2),if_neg (fun q=>h q.2.2)]
def e0F (c:Nat):Nat:=if c=0 then 1 else 0
theorem algebraOfPlaces_ok (p:Int)(n:Nat)(M:Nat→Nat→Nat)(f:Nat→Nat)(w:World)(hn0:0<n)(hn:n≤6)(hB:∀ i j,M i j≤255)(hG:TabP n M) :
    CallsR Try.prog 44 #[.int .i64 (p),.int .i64 (((n:Nat):Int)),.agg (vecC f),.func (.func 36) #[.agg (grpC (n:Int) M)] #[]] w (fun res _=>res = .agg (algC p (n:Int) (gT n M) f)):=by
  refine calls_fr [.int .i64 (p),.int .i64 (((n:Nat):Int)),.agg (vecC f),.func (.func 36) #[.agg (grpC (n:Int) M)] #[]] Try.func44 rfl Try.ntmps44 rfl fun a hF=>?_
  have hM:Mem w w [none,none,none] []:=MemX.start w 3
  change Fr 41 a [(0,.int .i64 (p)),(1,.int .i64 (((n:Nat):Int))),(2,.agg (vecC f)),(3,.func (.func 36) #[.agg (grpC (n:Int) M)] #[])] at hF
  refine sq ?_
  refine wp_region_lit ?_
  refine stR hF (d_box 0 hM hF rfl) rfl ?_
  rintro _ w' a ⟨b1,rfl,hM,-⟩ hF
  change Mem w w' [some (b1,vecC f),none,none] [] at hM
  refine stR hF (d_alloc 1 hM ty_ze_39) rfl ?_
  rintro _ w' a ⟨b2,rfl,hM,-⟩ hF
  change Mem w w' [some (b1,vecC f),some (b2,algC 0 0 (fun _ _ _=>0) (fun _=>0)),none] [] at hM
  refine wpList_nil ?_
  refine tN ?_
  refine sq ?_
  refine wp_region_lit ?_
  refine st hF (g_move hF rfl) rfl fun a hF=>st hF (g_move hF rfl) rfl fun a hF=>st hF (g_loadAgg ty_ag_37 hF rfl (hM.row 0 rfl) (by simp only [fnC_size,cells_size,vecC_size,tabC_size,planeC_size,tenC_size,smC_size,numC_size,numI_size,mrk_size,grpC_size]<;>omega) (whole (by simp only [fnC_size,cells_size,vecC_size,tabC_size,planeC_size,tenC_size,smC_size,numC_size,numI_size,mrk_size,grpC_size]))) rfl fun a hF=>st hF (g_buildP hF (build013 hF rfl rfl rfl) (fun w=>ty_bp_39_3 _ _ _ w)) rfl fun a hF=>?_
  refine stR hF (d_alloc 2 hM ty_ze_39) rfl ?_
  rintro _ w' a ⟨b3,rfl,hM,-⟩ hF
  change Mem w w' [some (b1,vecC f),some (b2,algC 0 0 (fun _ _ _=>0) (fun _=>0)),some (b3,algC 0 0 (fun _ _ _=>0) (fun _=>0))] [] at hM
  refine stN hF (d_storeAgg 2 hM rfl ty_sz_39 hF rfl rfl (by first | exact vecC_one | exact cells_one | (refine fnC_one fun _ _=>?_;first | rfl | (split<;>rfl))) (by simp only [fnC_size,cells_size,vecC_size,tabC_size,planeC_size,tenC_size,smC_size,numC_size,numI_size,mrk_size,grpC_size]) (by simp only [fnC_size,cells_size,vecC_size,tabC_size,planeC_size,tenC_size,smC_size,numC_size,numI_size,mrk_size,grpC_size]<;>omega) (splice_whole _ _ (by simp only [fnC_size,cells_size,vecC_size,tabC_size,planeC_size,tenC_size,smC_size,numC_size,numI_size,mrk_size,grpC_size]))) ?_
  intro _ w' a hM hF
  change Mem w w' [some (b1,vecC f),some (b2,algC 0 0 (fun _ _ _=>0) (fun _=>0)),some (b3,algC (p) (((n:Nat):Int)) (fun _ _ _=>0) f)] [] at hM
  refine wpList_nil ?_
  refine tN ?_
  refine sq ?_
  refine sq ?_
  refine wp_region_lit ?_
  refine st hF (g_move hF rfl) rfl fun a hF=>st hF (g_move hF rfl) rfl fun a hF=>?_
  refine wpList_nil ?_
  refine tN ?_
  refine wp_block ?_
  change Mem w _ [some (b1,vecC f),some (b2,algC 0 0 (fun _ _ _=>0) (fun _=>0)),some (b3,algC (p) (((n:Nat):Int)) (fun _ _ _=>0) f)] [] at hM
  refine c_loop (fun (kk:Nat) a w'=>kk≤n∧(True)∧Fr 41 a [(1,.int .i64 (((n:Nat):Int))),(3,.func (.func 36) #[.agg (grpC (n:Int) M)] #[]),(8,ptr b2 (0)),(9,ptr b3 (0)),(17,.int .i64 (((n:Nat):Int))),(18,.int .i64 (((kk:Nat):Int)))]∧Mem w w' [some (b1,vecC f),some (b2,algC 0 0 (fun _ _ _=>0) (fun _=>0)),some (b3,algC p (n:Int) (gTp n M (kk) (0)) f)] []) (fun kk=>n - kk) 0 ?_ ?_
  ·
   refine ⟨by omega,trivial,hF.sub _ (by repeat' constructor),?_⟩
   exact hM.rowc 2 rfl (algC_congr fun i hi j hj k hk=>gTp_0.symm)
  ·
   clear hF hM
   rintro gi a w' ⟨hgi,hinv1,hF,hM⟩
   refine sq ?_
   refine wp_region_lit ?_
   refine st hF (g_lss hF rfl rfl) rfl fun a hF=>?_
   refine wpList_nil ?_
   refine tN ?_
   refine sq ?_
   refine c_cond hF rfl (fun h4=>?_) (fun h4=>?_)
   ·
    refine wp_skip ?_
    refine tN ?_
    refine sq ?_
    refine wp_block ?_
    refine sq ?_
    refine wp_region_lit ?_
    refine st hF (g_move hF rfl) rfl fun a hF=>st hF (g_assign hF rfl) rfl fun a hF=>?_
    refine wpList_nil ?_
    refine tN ?_
    refine sq ?_
    refine wp_region_lit ?_
    refine st hF (g_move hF rfl) rfl fun a hF=>st hF (g_move hF rfl) rfl fun a hF=>?_
    refine wpList_nil ?_
    refine tN ?_
    refine wp_block ?_
    change Mem w _ [some (b1,vecC f),some (b2,algC 0 0 (fun _ _ _=>0) (fun _=>0)),some (b3,algC p (n:Int) (gTp n M (gi) (0)) f)] [] at hM
    refine c_loop (fun (kk:Nat) a w'=>kk≤n∧(True)∧Fr 41 a [(1,.int .i64 (((n:Nat):Int))),(3,.func (.func 36) #[.agg (grpC (n:Int) M)] #[]),(8,ptr b2 (0)),(9,ptr b3 (0)),(17,.int .i64 (((n:Nat):Int))),(18,.int .i64 (((gi:Nat):Int))),(19,.bool (decide ((((gi:Nat):Int):Int)<((n:Nat):Int)))),(20,.int .i64 (((gi:Nat):Int))),(10,.int .i64 (((gi:Nat):Int))),(21,.int .i64 (((n:Nat):Int))),(22,.int .i64 (((kk:Nat):Int)))]∧Mem w w' [some (b1,vecC f),some (b2,algC 0 0 (fun _ _ _=>0) (fun _=>0)),some (b3,algC p (n:Int) (gTp n M (gi) (kk)) f)] []) (fun kk=>n - kk) 0 ?_ ?_
    ·
     refine ⟨by omega,trivial,hF.sub _ (by repeat' constructor),?_⟩
     exact hM
    ·
     clear hF hM
     rintro gj a w' ⟨hgj,hinv2,hF,hM⟩
     have z3:gi<n→gj<n→M gi gj<n:=fun q1 q2=>hG.lt (by omega) (by omega)
     have hbb:=hB gi gj
     refine sq ?_
     refine wp_region_lit ?_
     refine st hF (g_lss hF rfl rfl) rfl fun a hF=>?_
     refine wpList_nil ?_
     refine tN ?_
     refine sq ?_
     refine c_cond hF rfl (fun h5=>?_) (fun h5=>?_)
     ·
      refine wp_skip ?_
      refine tN ?_
      refine sq ?_
      refine wp_block ?_
      refine sq ?_
      refine wp_region_lit ?_
      refine st hF (g_move hF rfl) rfl fun a hF=>st hF (g_assign hF rfl) rfl fun a hF=>?_
      refine wpList_nil ?_
      refine tN ?_
      refine sq ?_
      refine wp_region_lit ?_
      refine st hF (g_move hF rfl) rfl fun a hF=>st hF (g_move hF rfl) rfl fun a hF=>st hF (g_move hF rfl) rfl fun a hF=>?_
      refine stR hF (d_callVB (bnd:=[.agg (grpC (n:Int) M)]) Try.call36 hF rfl (.cons rfl (.cons rfl .nil)) (times_ok (n:Int) M (gi) (gj) _ hB (by omega) (by omega))) rfl ?_
      rintro _ w' a ⟨hx,rfl⟩ hF
      have hM:=hM.ext hx
      refine st hF (g_assign hF rfl) rfl fun a hF=>?_
      refine wpList_nil ?_
      refine tN ?_
      refine sq ?_
      refine wp_region_lit ?_
      refine st hF (g_move hF rfl) rfl fun a hF=>st hF (g_neq hF rfl rfl) rfl fun a hF=>?_
      refine wpList_nil ?_
      refine tN ?_
      refine c_cond hF rfl (fun h6=>?_) (fun h6=>?_)
      ·
       refine c_par 6 [] [.val (.int .i64 (((gi:Nat):Int))),.val (.int .i64 (((gj:Nat):Int))),.val (.int .i64 (((M (gi) (gj):Nat):Int))),.val (.agg (vecC (fun c=>if c=M (gi) (gj) then 1 else 0))),.val (ptr b3 (0+2)),.val (ptr b3 (0+2+(gi)*36))] hmix rfl hF rfl hM ⟨fun a w gG hF hS hd=>by exact par_val hS rfl (g_move hF rfl),fun a w gG hF hS hd=>by exact par_val hS rfl (g_move hF rfl),fun a w gG hF hS hd=>by exact par_val hS rfl (g_move hF rfl),fun a w gG hF hS hd=>by have hF:=hF.ext1 33 (hd 2 rfl rfl);exact par_call (by repeat constructor) hS rfl (d_call Try.call56 hF (.cons rfl .nil) (basisVector_ok (M (gi) (gj)) _ (by omega))),fun a w gG hF hS hd=>by exact par_val hS rfl (g_fieldAddr ty_fo_39_2 hF rfl),fun a w gG hF hS hd=>by have hF:=hF.ext1 31 (hd 0 rfl rfl);have hF:=hF.ext1 35 (hd 4 rfl rfl);exact par_val hS rfl (g_indexAddr ty_ar_36 hF rfl rfl rfl (by omega)),trivial⟩ ?_
       intro a w' L hF hS hq
       have hF:=hF.ext1 31 (hq 0 rfl rfl)
       have hF:=hF.ext1 32 (hq 1 rfl rfl)
       have hF:=hF.ext1 33 (hq 2 rfl rfl)
       have hF:=hF.ext1 34 (hq 3 rfl rfl)
       have hF:=hF.ext1 35 (hq 4 rfl rfl)
       have hF:=hF.ext1 36 (hq 5 rfl rfl)
       have hM:=hS.mem rfl
       change wpList Try.prog _ _ [_,_] _ _
       refine st hF (g_indexAddr ty_ar_25 hF rfl rfl rfl (by omega)) rfl fun a hF=>?_
       refine stN hF (d_storeAgg 2 hM rfl ty_sz_24 hF rfl rfl (by first | exact vecC_one | exact cells_one | (refine fnC_one fun _ _=>?_;first | rfl | (split<;>rfl))) (by simp only [fnC_size,cells_size,vecC_size,tabC_size,planeC_size,tenC_size,smC_size,numC_size,numI_size,mrk_size,grpC_size]) (by simp only [fnC_size,cells_size,vecC_size,tabC_size,planeC_size,tenC_size,smC_size,numC_size,numI_size,mrk_size,grpC_size]<;>omega) (algC_putRow (gi) (gj) (by omega) (by omega) (by omega))) ?_
       intro _ w' a hM hF
       change Mem w w' [some (b1,vecC f),some (b2,algC 0 0 (fun _ _ _=>0) (fun _=>0)),some (b3,algC p (n:Int) (fun i j k=>if i=gi∧j=gj then ((fun c=>if c=M (gi) (gj) then 1 else 0)) k else ((gTp n M (gi) (gj))) i j k) f)] [] at hM
       refine wpList_nil ?_
       refine iN ?_
       refine tN ?_
       refine wp_region_lit ?_
       refine st hF (g_add hF rfl rfl (add_nat (gj) (1) (by omega))) rfl fun a hF=>st hF (g_move hF rfl) rfl fun a hF=>?_
       refine wpList_nil ?_
       refine tN ?_
       refine ⟨gj+1,⟨by omega,trivial,hF.sub _ (by repeat' constructor),?_⟩,by omega⟩
       exact hM.rowc 2 rfl (algC_congr fun i hi j hj k hk=>gTp_step (by omega))
      ·
       exfalso;omega
     ·
      obtain rfl:n=gj:=by omega
      refine wp_exit ?_
      refine tX ?_
      refine tX ?_
      refine ib_same ?_
      refine iN ?_
      refine tN ?_
      refine wp_region_lit ?_
      refine st hF (g_add hF rfl rfl (add_nat (gi) (1) (by omega))) rfl fun a hF=>st hF (g_move hF rfl) rfl fun a hF=>?_
      refine wpList_nil ?_
      refine tN ?_
      refine ⟨gi+1,⟨by omega,trivial,hF.sub _ (by repeat' constructor),?_⟩,by omega⟩
      exact hM.rowc 2 rfl (algC_congr fun i hi j hj k hk=>gTp_row)
   ·
    obtain rfl:n=gi:=by omega
    have hM:=hM.rowc (cs':=algC p (n:Int) (gT n M) f) 2 rfl (algC_congr fun i hi j hj k hk=>gTp_end)
    refine wp_exit ?_
    refine tX ?_
    refine tX ?_
    refine ib_same ?_
    refine tN ?_
    refine sq ?_
    refine wp_region_lit ?_
    refine st hF (g_loadAgg ty_ag_39 hF rfl (hM.row 2 rfl) (by simp only [fnC_size,cells_size,vecC_size,tabC_size,planeC_size,tenC_size,smC_size,numC_size,numI_size,mrk_size,grpC_size]<;>omega) (whole cells_size)) rfl fun a hF=>?_
    refine stN hF (d_storeAgg 1 hM rfl ty_sz_39 hF rfl rfl (by first | exact vecC_one | exact cells_one | (refine fnC_one fun _ _=>?_;first | rfl | (split<;>rfl))) (by simp only [fnC_size,cells_size,vecC_size,tabC_size,planeC_size,tenC_size,smC_size,numC_size,numI_size,mrk_size,grpC_size]) (by simp only [fnC_size,cells_size,vecC_size,tabC_size,planeC_size,tenC_size,smC_size,numC_size,numI_size,mrk_size,grpC_size]<;>omega) (splice_whole _ _ (by simp only [fnC_size,cells_size,vecC_size,tabC_size,planeC_size,tenC_size,smC_size,numC_size,numI_size,mrk_size,grpC_size]))) ?_
    intro _ w' a hM hF
    change Mem w w' [some (b1,vecC f),some (b2,algC p (n:Int) (gT n M) f),some (b3,algC p (n:Int) (gT n M) f)] [] at hM
    refine wpList_nil ?_
    refine tN ?_
    refine wp_ret ?_
    refine fin1 rfl hF.defers (res_agg ty_ag_39 hF rfl (hM.row 1 rfl) (by simp only [fnC_size,cells_size,vecC_size,tabC_size,planeC_size,tenC_size,smC_size,numC_size,numI_size,mrk_size,grpC_size])) ⟨_,rfl,hM.below,?_⟩
    show _=_
    rfl
theorem groupAlgebra_ok (p:Int)(n:Nat)(M:Nat→Nat→Nat)(w:World)(hn0:0<n)(hn:n≤6)(hB:∀ i j,M i j≤255)(hG:TabP n M) :
    CallsR Try.prog 24 #[.int .i64 (p),.agg (grpC (n:Int) M)] w (fun res _=>res = .agg (algC p (n:Int) (gT n M) (fun c=>if c=0 then 1 else 0))):=by
  refine calls_fr [.int .i64 (p),.agg (grpC (n:Int) M)] Try.func24 rfl Try.ntmps24 rfl fun a hF=>?_
  have hM:Mem w w [none,none] []:=MemX.start w 2
  change Fr 12 a [(0,.int .i64 (p)),(1,.agg (grpC (n:Int) M))] at hF
  refine sq ?_
  refine wp_region_lit ?_
  refine stR hF (d_box 0 hM hF rfl) rfl ?_
  rintro _ w' a ⟨b1,rfl,hM,-⟩ hF
  change Mem w w' [some (b1,grpC (n:Int) M),none] [] at hM
  refine stR hF (d_alloc 1 hM ty_ze_39) rfl ?_
  rintro _ w' a ⟨b2,rfl,hM,-⟩ hF
  change Mem w w' [some (b1,grpC (n:Int) M),some (b2,algC 0 0 (fun _ _ _=>0) (fun _=>0))] [] at hM
  refine wpList_nil ?_
  refine tN ?_
  refine sq ?_
  refine wp_region_lit ?_
  refine st hF (g_move hF rfl) rfl fun a hF=>st hF (g_fieldAddr ty_fo_27_0 hF rfl) rfl fun a hF=>st hF (g_load ty_on_2 hF rfl (hM.row 0 rfl) (grpC_n (by omega))) rfl fun a hF=>st hF (g_buildP hF (build1 hF rfl) ty_bf_37_24_387) rfl fun a hF=>st hF (g_loadAgg ty_ag_27 hF rfl (hM.row 0 rfl) (by simp only [fnC_size,cells_size,vecC_size,tabC_size,planeC_size,tenC_size,smC_size,numC_size,numI_size,mrk_size,grpC_size]<;>omega) (whole (by simp only [fnC_size,cells_size,vecC_size,tabC_size,planeC_size,tenC_size,smC_size,numC_size,numI_size,mrk_size,grpC_size]))) rfl fun a hF=>st hF (g_makeFuncB hF rfl) rfl fun a hF=>?_
  refine stR hF (d_call Try.call44 hF (.cons rfl (.cons rfl (.cons rfl (.cons rfl .nil)))) (algebraOfPlaces_ok (p) n M ((fun c=>if c=0 then 1 else 0)) _ hn0 hn hB hG)) rfl ?_
  rintro _ w' a ⟨hx,rfl⟩ hF
  have hM:=hM.ext hx
  refine stN hF (d_storeAgg 1 hM rfl ty_sz_39 hF rfl rfl (by first | exact vecC_one | exact cells_one | (refine fnC_one fun _ _=>?_;first | rfl | (split<;>rfl))) (by simp only [fnC_size,cells_size,vecC_size,tabC_size,planeC_size,tenC_size,smC_size,numC_size,numI_size,mrk_size,grpC_size]) (by simp only [fnC_size,cells_size,vecC_size,tabC_size,planeC_size,tenC_size,smC_size,numC_size,numI_size,mrk_size,grpC_size]<;>omega) (splice_whole _ _ (by simp only [fnC_size,cells_size,vecC_size,tabC_size,planeC_size,tenC_size,smC_size,numC_size,numI_size,mrk_size,grpC_size]))) ?_
  intro _ w' a hM hF
  change Mem w w' [some (b1,grpC (n:Int) M),some (b2,algC (p) (n:Int) (gT n M) ((fun c=>if c=0 then 1 else 0)))] [] at hM
  refine wpList_nil ?_
  refine tN ?_
  refine wp_ret ?_
  refine fin1 rfl hF.defers (res_agg ty_ag_39 hF rfl (hM.row 1 rfl) (by simp only [fnC_size,cells_size,vecC_size,tabC_size,planeC_size,tenC_size,smC_size,numC_size,numI_size,mrk_size,grpC_size])) ⟨_,rfl,hM.below,?_⟩
  show _=_
  rfl
theorem groupFault_V (p:Int)(n:Nat)(M:Nat→Nat→Nat)(w:World)(hn0:0<n)(hn:n≤6)(hB:∀ i j,M i j≤255)(hG:TabP n M)(hP:primeP p) :
    CallsR Try.prog 23 #[.int .i64 (p),.agg (grpC (n:Int) M)] w (fun res _=>res = .int .i64 0):=by
  refine calls_fr [.int .i64 (p),.agg (grpC (n:Int) M)] Try.func23 rfl Try.ntmps23 rfl fun a hF=>?_
  have hM:Mem w w [none] []:=MemX.start w 1
  change Fr 11 a [(0,.int .i64 (p)),(1,.agg (grpC (n:Int) M))] at hF
  refine sq ?_
  refine wp_region_lit ?_
  refine stR hF (d_box 0 hM hF rfl) rfl ?_
  rintro _ w' a ⟨b1,rfl,hM,-⟩ hF
  change Mem w w' [some (b1,grpC (n:Int) M)] [] at hM
  refine st hF (g_assign hF rfl) rfl fun a hF=>?_
  refine wpList_nil ?_
  refine tN ?_
  refine sq ?_
  refine sq ?_
  refine wp_region_lit ?_
  refine st hF (g_loadAgg ty_ag_27 hF rfl (hM.row 0 rfl) (by simp only [fnC_size,cells_size,vecC_size,tabC_size,planeC_size,tenC_size,smC_size,numC_size,numI_size,mrk_size,grpC_size]<;>omega) (whole (by simp only [fnC_size,cells_size,vecC_size,tabC_size,planeC_size,tenC_size,smC_size,numC_size,numI_size,mrk_size,grpC_size]))) rfl fun a hF=>?_
  refine stR hF (d_call Try.call16 hF (.cons rfl .nil) ((CallsR.val (isG_I (n:Int) M _ hB) (congrArg Value.bool (decide_eq_true (GrpP.mk hn0 hn hG)))))) rfl ?_
  rintro _ w' a ⟨hx,rfl⟩ hF
  have hM:=hM.ext hx
  refine st hF (g_not (b:=true) hF rfl) rfl fun a hF=>?_
  refine wpList_nil ?_
  refine tN ?_
  refine c_Fl hF rfl ?_
  refine wp_skip ?_
  refine tN ?_
  refine sq ?_
  refine sq ?_
  refine wp_region_lit ?_
  refine st hF (g_move hF rfl) rfl fun a hF=>?_
  refine stR hF (d_call Try.call43 hF (.cons rfl .nil) (isPrime_ok (p) _)) rfl ?_
  rintro _ w' a ⟨hx,rfl⟩ hF
  have hM:=hM.ext hx
  refine st hF (g_notP hF rfl) rfl fun a hF=>?_
  refine wpList_nil ?_
  refine tN ?_
  refine c_cond hF rfl (fun h3=>?_) (fun h3=>?_)
  ·
   first | exact absurd (by assumption) hP | exact absurd hP (by assumption)
  ·
   refine wp_skip ?_
   refine tN ?_
   refine sq ?_
   refine wp_region_lit ?_
   refine st hF (g_assign hF rfl) rfl fun a hF=>?_
   refine wpList_nil ?_
   refine tN ?_
   refine wp_ret ?_
   refine fin1 rfl hF.defers (res_tmp hF rfl) ⟨_,rfl,hM.below,?_⟩
   show _=_
   rfl
end Go.Proofs.Ytklpefdaplchbaa
namespace Go.Proofs.Ytklpefdaplchbaa
open Go Go.RowKit Go.Sw Go.Ech
open Classical
def szV (k l:Nat):Int:=if l≤k then ((k - l:Nat):Int) else -1
end Go.Proofs.Ytklpefdaplchbaa
namespace Go.Proofs.Ytklpefdaplchbaa
open Go Go.RowKit Go.Sw Go.Ech
open Classical
def NumPJ (len lo hi:Int) (l:Nat) (f:Nat→Int):Prop:=(l:Int)=len∧∀ j,j<l→lo≤f j∧f j≤hi
def ShP (p:Int) (n m:Nat) (Ln:Nat→Nat) (R:Nat→Nat→Int):Prop:=m=n∧∀ i,i<m→Ln i=n∧∀ j,j<n→0≤R i j∧R i j≤p - 1
def rOf (R:Nat→Nat→Int) (i j:Nat):Nat:=(R i j).toNat
structure ShT (w:World) (b o n p:Nat) (ca be ob:Nat→Nat) (r:Nat→Nat→Nat):Prop where
  cell:∀ i,i<n→w.cell? ⟨b,o+i*1,none⟩=some (.slice (some ⟨be i,ob i,none⟩) n (ca i))
  num:∀ i,i<n→∀ j,j<n→w.cell? ⟨be i,ob i+j*1,none⟩=some (.int .i64 ((r i j:Nat):Int))
  lt:∀ i,i<n→∀ j,j<n→r i j<p
def cocT (p:Nat) (M r:Nat→Nat→Nat) (i j k:Nat):Prop:=(r i j*r (M i j) k)%p=(r j k*r i (M j k))%p
def CocP (p n:Nat) (M r:Nat→Nat→Nat):Prop:=(∀ i,i<n→∀ j,j<n→r i j≠0∧∀ k,k<n→cocT p M r i j k)∧r 0 0=1
theorem primeP_pos2 {p:Int}(h:primeP p):2≤p∧p≤13:=by unfold primeP at h;omega
end Go.Proofs.Ytklpefdaplchbaa
namespace Go.Proofs.Ytklpefdaplchbaa
open Go Go.RowKit Go.Sw Go.Ech
open Classical
end Go.Proofs.Ytklpefdaplchbaa
namespace Go.Proofs.Ytklpefdaplchbaa
open Go Go.RowKit Go.Sw Go.Ech
open Classical
section
variable {n : Nat} {M : Nat → Nat → Nat}
theorem TabP.c (hn:n≤6)(h:TabP n M){a b:Nat}(ha:a<n)(hb:b<n):M a b<n:=h.lt (by omega) (by omega)
theorem TabP.ir (h:TabP n M){a:Nat}(ha:a<n):M a (lead (M a) n)=0:=(lead_spec (M a) n).2.2 (h.inv ha)
theorem TabP.il (hn0:0<n)(hn:n≤6)(h:TabP n M){a:Nat}(ha:a<n):M (lead (M a) n) a=0:=by
  obtain ⟨j,hj,h1,h2⟩:=h.two hn0 hn ha
  have hi:=h.inv ha
  have e:M (M j a) (lead (M a) n)=M j (M a (lead (M a) n)):=h.2.2.2 j hj a ha _ hi
  rw [h2,h.ir ha,(h.2.1 _ hi).1,(h.2.1 j hj).2] at e
  rw [e];exact h2
theorem TabP.iu (hn0:0<n)(hn:n≤6)(h:TabP n M){a b:Nat}(ha:a<n)(hb:b<n)(he:M a b=0):b=lead (M a) n:=by
  have hi:=h.inv ha
  have e:=h.2.2.2 _ hi a ha b hb
  rw [h.il hn0 hn ha,he,(h.2.1 b hb).1,(h.2.1 _ hi).2] at e
  exact e
theorem TabP.ii (hn0:0<n)(hn:n≤6)(h:TabP n M){a:Nat}(ha:a<n):lead (M (lead (M a) n)) n=a:=(h.iu hn0 hn (h.inv ha) ha (h.il hn0 hn ha)).symm
theorem TabP.im (hn0:0<n)(hn:n≤6)(h:TabP n M){a b:Nat}(ha:a<n)(hb:b<n):lead (M (M a b)) n=M (lead (M b) n) (lead (M a) n):=by
  have h1:=h.inv ha
  have h2:=h.inv hb
  refine (h.iu hn0 hn (h.c hn ha hb) (h.c hn h2 h1) ?_).symm
  rw [h.2.2.2 a ha b hb _ (h.c hn h2 h1),← h.2.2.2 b hb _ h2 _ h1,h.ir hb,(h.2.1 _ h1).1,h.ir ha]
def cj (M:Nat→Nat→Nat) (n x y:Nat):Nat:=M (M y x) (lead (M y) n)
def inC (M:Nat→Nat→Nat) (n x j:Nat):Bool:=(List.range n).any fun y=>decide (cj M n x y=j)
theorem inC_iff {x j:Nat}:inC M n x j=true↔∃ y,y<n∧cj M n x y=j:=by
  unfold inC
  rw [List.any_eq_true]
  constructor
  · rintro ⟨y,h1,h2⟩;exact ⟨y,by simpa using h1,by simpa using h2⟩
  · rintro ⟨y,h1,h2⟩;exact ⟨y,by simpa using h1,by simpa using h2⟩
theorem cj_lt (hn:n≤6)(h:TabP n M){x y:Nat}(hx:x<n)(hy:y<n):cj M n x y<n:=h.c hn (h.c hn hy hx) (h.inv hy)
theorem inC_refl (hn0:0<n)(h:TabP n M){x:Nat}(hx:x<n):inC M n x x=true:=inC_iff.2 ⟨0,hn0,by
  have e:lead (M 0) n=0:=lead_eq hn0 (h.2.1 0 hn0).1 (fun i hi=>absurd hi (by omega))
  unfold cj
  rw [e,(h.2.1 x hx).1,(h.2.1 x hx).2]⟩
theorem inC_symm (hn0:0<n)(hn:n≤6)(h:TabP n M){x j:Nat}(hx:x<n)(hj:inC M n x j=true):inC M n j x=true:=by
  obtain ⟨y,hy,rfl⟩:=inC_iff.1 hj
  have hi:=h.inv hy
  have hyx:=h.c hn hy hx
  refine inC_iff.2 ⟨lead (M y) n,hi,?_⟩
  unfold cj
  rw [h.ii hn0 hn hy,← h.2.2.2 _ hi _ hyx _ hi,← h.2.2.2 _ hi y hy x hx,h.il hn0 hn hy,(h.2.1 x hx).1,h.2.2.2 x hx _ hi y hy,h.il hn0 hn hy,(h.2.1 x hx).2]
theorem inC_trans (hn0:0<n)(hn:n≤6)(h:TabP n M){x j k:Nat}(hx:x<n)(h1:inC M n x j=true)(h2:inC M n j k=true):inC M n x k=true:=by
  obtain ⟨y,hy,rfl⟩:=inC_iff.1 h1
  obtain ⟨z,hz,rfl⟩:=inC_iff.1 h2
  refine inC_iff.2 ⟨M z y,h.c hn hz hy,?_⟩
  have hiy:=h.inv hy
  have hiz:=h.inv hz
  have hyx:=h.c hn hy hx
  unfold cj
  rw [h.im hn0 hn hz hy,h.2.2.2 z hz y hy x hx,← h.2.2.2 _ (h.c hn hz hyx) _ hiy _ hiz,h.2.2.2 z hz _ hyx _ hiy]
def isRep (M:Nat→Nat→Nat) (n x:Nat):Bool:=(List.range x).all fun i=>!(inC M n i x)
theorem isRep_iff {x:Nat}:isRep M n x=true↔∀ i,i<x→¬ inC M n i x=true:=by
  unfold isRep
  rw [List.all_eq_true]
  constructor
  · intro h i hi hq;have:=h i (by simpa using hi);rw [hq] at this;cases this
  · intro h i hi;have:=h i (by simpa using hi);simpa using this
theorem rep_met (hn0:0<n)(hn:n≤6)(h:TabP n M){x:Nat}(hx:x<n):isRep M n x=true↔¬ ∃ i,i<x∧isRep M n i=true∧inC M n i x=true:=by
  rw [isRep_iff]
  constructor
  · rintro h1 ⟨i,hi,_,h2⟩;exact h1 i hi h2
  · intro h1 i hi h2
    have key:∀ m i,i≤m→i<x→inC M n i x=true→∃ i,i<x∧isRep M n i=true∧inC M n i x=true:=by
      intro m
      induction m with
      | zero =>
        intro i h3 h4 h5
        obtain rfl:i=0:=by omega
        exact ⟨0,h4,isRep_iff.2 (fun j hj=>absurd hj (by omega)),h5⟩
      | succ m ih =>
        intro i h3 h4 h5
        by_cases e:isRep M n i=true
        · exact ⟨i,h4,e,h5⟩
        · have e2:∃ q,q<i∧inC M n q i=true:=Decidable.by_contra fun hq=>e (isRep_iff.2 fun q h6 h7=>hq ⟨q,h6,h7⟩)
          obtain ⟨q,h6,h7⟩:=e2
          exact ih q (by omega) (by omega) (inC_trans hn0 hn h (by omega) h7 h5)
    exact h1 (key i i (Nat.le_refl _) hi h2)
theorem rep_first (hn0:0<n)(hn:n≤6)(h:TabP n M){x:Nat}(hx:x<n):asc (inC M n x) n 0=x↔isRep M n x=true:=by
  have hr:=inC_refl hn0 h hx
  rw [isRep_iff]
  constructor
  · intro e i hi hq
    have h1:=inC_symm hn0 hn h (by omega) hq
    have h0:0<cnt (inC M n x) n:=Nat.lt_of_le_of_lt (Nat.zero_le _) (cnt_lt hr hx)
    have h2:=asc_of h0
    rw [e] at h2
    have:=cnt_lt h1 hi
    omega
  · intro h1
    have e:cnt (inC M n x) x=0:=by
      by_cases e0:cnt (inC M n x) x=0
      · exact e0
      · obtain ⟨j,hj,hs,_⟩:=cnt_ex (S:=inC M n x) (n:=x) (k:=0) (by omega)
        exact absurd (inC_symm hn0 hn h hx hs) (h1 j hj)
    have:=asc_at hr hx
    rwa [e] at this
theorem cls_pos (hn0:0<n)(h:TabP n M){x:Nat}(hx:x<n):0<cnt (inC M n x) n:=Nat.lt_of_le_of_lt (Nat.zero_le _) (cnt_lt (inC_refl hn0 h hx) hx)
def nC (M:Nat→Nat→Nat) (n:Nat):Nat:=cnt (isRep M n) n
def rC (M:Nat→Nat→Nat) (n k:Nat):Nat:=asc (isRep M n) n k
def sC (M:Nat→Nat→Nat) (n k:Nat):Nat:=cnt (inC M n (rC M n k)) n
def eC (M:Nat→Nat→Nat) (n k c:Nat):Nat:=asc (inC M n (rC M n k)) n c
theorem nC_le (hn:n≤6):nC M n≤6:=Nat.le_trans (cnt_le n) hn
theorem rC_lt {k:Nat}(h:k<nC M n):rC M n k<n:=(asc_of h).1
theorem rC_rep {k:Nat}(h:k<nC M n):isRep M n (rC M n k)=true:=(asc_of h).2.1
theorem sC_pos (hn0:0<n)(hG:TabP n M){k:Nat}(h:k<nC M n):0<sC M n k:=cls_pos hn0 hG (rC_lt h)
theorem eC_0 (hn0:0<n)(hn:n≤6)(hG:TabP n M){k:Nat}(h:k<nC M n):eC M n k 0=rC M n k:=(rep_first hn0 hn hG (rC_lt h)).2 (rC_rep h)
theorem sC_le (hn:n≤6)(k:Nat):sC M n k≤6:=Nat.le_trans (cnt_le n) hn
theorem eC_lt {k c:Nat}(h:c<sC M n k):eC M n k c<n:=(asc_of h).1
end
end Go.Proofs.Ytklpefdaplchbaa
namespace Go.Proofs
open Go.Shelf
def Try.lays128_ren:Go.Shelf.Ren:=⟨fun | 128=>87 | n=>n,fun | 51=>124 | 3=>3 | 4=>4 | 46=>72 | 5=>5 | 9=>9 | n=>n,fun | n=>n⟩
def Try.lays125_ren:Go.Shelf.Ren:=⟨fun | 125=>68 | 128=>87 | 129=>88 | n=>n,fun | 46=>72 | 3=>3 | 51=>124 | 53=>64 | 4=>4 | 5=>5 | 9=>9 | n=>n,fun | n=>n⟩
theorem Try.lays125:Go.Proofs.Lays.n125 Try.prog Try.lays125_ren:={
  mixed:=by kernel_rfl
  f125:=Try.func68.trans (congrArg some (by kernel_rfl))
  f128:=Try.func87.trans (congrArg some (by kernel_rfl))
  f129:=Try.func88.trans (congrArg some (by kernel_rfl))
  t3:=Try.underlying3
  a3:=Try.isAgg3
  z3:=Try.sizeOf3
  v3:=Try.zeroValue3
  t4:=Try.underlying4
  a4:=Try.isAgg4
  z4:=Try.sizeOf4
  v4:=Try.zeroValue4
  t5:=Try.underlying5
  a5:=Try.isAgg5
  z5:=Try.sizeOf5
  v5:=Try.zeroValue5
  t9:=Try.underlying9
  a9:=Try.isAgg9
  z9:=Try.sizeOf9
  v9:=Try.zeroValue9
  t46:=Try.underlying72
  a46:=Try.isAgg72
  z46:=Try.sizeOf72
  v46:=Try.zeroValue72
  t51:=Try.underlying124
  a51:=Try.isAgg124
  z51:=Try.sizeOf124
  v51:=Try.zeroValue124
  t53:=Try.underlying64
  a53:=Try.isAgg64
  z53:=Try.sizeOf64
  v53:=Try.zeroValue64 }
theorem Try.bits_Len (x:Int)(w:World)(h0:0≤x)(h1:x≤18446744073709551615) :
    Calls Try.prog 68 #[.int .u64 x] w fun e w'=>e = .returned (.int .i64 (Lib.bitLen x.toNat))∧w'=w:=Any.bits_Len Try.lays125 x w h0 h1
def Try.lays129_ren:Go.Shelf.Ren:=⟨fun | 129=>88 | n=>n,fun | 53=>64 | 3=>3 | 4=>4 | 46=>72 | 5=>5 | 9=>9 | n=>n,fun | n=>n⟩
end Go.Proofs
