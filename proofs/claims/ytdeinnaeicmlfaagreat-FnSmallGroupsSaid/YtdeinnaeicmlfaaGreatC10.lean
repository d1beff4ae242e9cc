import Derived.Test.YtdeinnaeicmlfaaGreatC5
import Derived.Test.YtdeinnaeicmlfaaGreatSw38
set_option linter.unusedVariables false
set_option linter.unusedSimpArgs false
namespace Go.Proofs.YtdeinnaeicmlfaaGreat
open Go Go.RowKit Go.Sw Go.Ech
open Classical
theorem ty_bu_82:∀ w,(Instr.build 82 #[]).run Tryz.prog w = .ok (.agg (fnC 6 (fun _=>.bool (false)))) w:=by intros;kernel_rfl
theorem ty_bs0_29:∀ w,(Instr.buildSlice 29 0 #[]).run Tryz.prog w = .ok (.slice (some ⟨w.heap.size,0,none⟩) 0 0) (w.alloc (.cells #[] 49)):=by intros;kernel_rfl
theorem ty_ze_82:zeroP Tryz.prog 82=some (.agg (fnC 6 (fun _=>.bool (false)))):=by kernel_rfl
theorem ty_sz_82:sizeP Tryz.prog 82=some 6:=by kernel_rfl
theorem ty_ar_82:arrOf Tryz.prog 82=some (6,1):=by kernel_rfl
theorem ty_on_4:oneP Tryz.prog 4=true:=by kernel_rfl
theorem ty_bsi_49_3:∀ (x0 x1 x2:Int) (w:World),(Instr.buildSlice 49 3 #[(0,.int .i64 x0),(1,.int .i64 x1),(2,.int .i64 x2)]).run Tryz.prog w = .ok (.slice (some ⟨w.heap.size,0,none⟩) 3 3) (w.alloc (.cells #[.int .i64 x0,.int .i64 x1,.int .i64 x2] 2)):=by intros;kernel_rfl
def bolC (f:Nat→Bool):Array Value:=fnC 6 (fun c=>.bool (f c))
def setB (f:Nat→Bool) (j c:Nat):Bool:=if c=j then true else f c
theorem bolC_size (f:Nat→Bool):(bolC f).size=6:=fnC_size _ _
theorem bolC_get {f:Nat→Bool}{o:Nat}(j:Nat)(ho:o=j)(h:j<6):(bolC f)[o]? = some (.bool (decide (f j=true))):=by subst ho;unfold bolC;rw [fnC_get h];simp
theorem bolC_set {f:Nat→Bool}{o:Nat}(j:Nat)(ho:o=j):(bolC f).setIfInBounds o (.bool true)=bolC (setB f j):=fnC_set fun c hc=>by
  subst ho
  unfold setB
  by_cases e:c=o
  · rw [if_pos e,if_pos e]
  · rw [if_neg e,if_neg e]
theorem bolC_congr {f g:Nat→Bool}(h:∀ c,c<6→f c=g c):bolC f=bolC g:=fnC_congr fun c hc=>by rw [h c hc]
theorem bolC_start {g:Nat→Bool}(h:∀ c,g c=false):fnC 6 (fun _=>.bool false)=bolC g:=fnC_congr fun c hc=>by rw [h c]
section
variable {n : Nat} {M : Nat → Nat → Nat}
def metB (M:Nat→Nat→Nat) (n i c:Nat):Bool:=(List.range i).any fun y=>isRep M n y && inC M n y c
def ownB (M:Nat→Nat→Nat) (n i k c:Nat):Bool:=(List.range k).any fun y=>decide (cj M n i y=c)
def metJ (M:Nat→Nat→Nat) (n i j c:Nat):Bool:=metB M n i c || (decide (c<j) && inC M n i c)
theorem metB_iff {i c:Nat}:metB M n i c=true↔∃ y,y<i∧isRep M n y=true∧inC M n y c=true:=by
  unfold metB
  rw [List.any_eq_true]
  constructor
  · rintro ⟨y,h1,h2⟩;rw [Bool.and_eq_true] at h2;exact ⟨y,by simpa using h1,h2⟩
  · rintro ⟨y,h1,h2⟩;exact ⟨y,by simpa using h1,by rw [Bool.and_eq_true];exact h2⟩
theorem any_succ {k:Nat}{p:Nat→Bool}:(List.range (k+1)).any p=((List.range k).any p || p k):=by rw [List.range_succ,List.any_append];simp
theorem own_step {i k x c:Nat}(e:x=cj M n i k):setB (ownB M n i k) x c=ownB M n i (k+1) c:=by
  unfold setB ownB
  rw [any_succ]
  by_cases h:c=x
  · rw [if_pos h,decide_eq_true (show cj M n i k=c by rw [h,e]),Bool.or_true]
  · rw [if_neg h,decide_eq_false (show ¬ cj M n i k=c from fun q=>h (by rw [e,q])),Bool.or_false]
theorem met_yes {i j c:Nat}(h:inC M n i j=true):setB (metJ M n i j) j c=metJ M n i (j+1) c:=by
  unfold setB metJ
  by_cases e:c=j
  · rw [if_pos e,decide_eq_true (show c<j+1 by omega),e,h];simp
  · rw [if_neg e]
    have:decide (c<j+1)=decide (c<j):=decide_eq_decide.2 (by omega);rw [this]
theorem met_no {i j c:Nat}(h:¬ inC M n i j=true):metJ M n i j c=metJ M n i (j+1) c:=by
  unfold metJ
  by_cases e:c=j
  · rw [e,Bool.eq_false_iff.2 h];simp
  · have:decide (c<j+1)=decide (c<j):=decide_eq_decide.2 (by omega)
    rw [this]
theorem met_0 {i c:Nat}:metB M n i c=metJ M n i 0 c:=by unfold metJ;simp
theorem met_n {i c:Nat}(hn:n≤6)(hG:TabP n M)(hi:i<n)(hr:isRep M n i=true):metJ M n i n c=metB M n (i+1) c:=by
  unfold metJ
  have e:metB M n (i+1) c=(metB M n i c || inC M n i c):=by unfold metB;rw [any_succ,hr,Bool.true_and]
  rw [e]
  by_cases h:inC M n i c=true
  · obtain ⟨y,hy,he⟩:=inC_iff.1 h
    rw [h,decide_eq_true (show c<n by rw [← he];exact cj_lt hn hG hi hy)];simp
  · rw [Bool.eq_false_iff.2 h];simp
theorem met_same {i c:Nat}(hr:¬ isRep M n i=true):metB M n i c=metB M n (i+1) c:=by
  unfold metB;rw [any_succ,Bool.eq_false_iff.2 hr];simp
theorem cls_put {i j k:Nat}(hin:inC M n i j=true)(hj:j<n)(_hk:k<(cnt (inC M n i) j+1)*1):(if k<cnt (inC M n i) j*1 then (fun k=>Value.int .i64 (asc (inC M n i) n k:Int)) k else (fun _=>Value.int .i64 (j:Int)) (k - cnt (inC M n i) j*1)) = .int .i64 (asc (inC M n i) n k:Int):=by
  by_cases e:k<cnt (inC M n i) j*1
  · rw [if_pos e]
  · rw [if_neg e,show k=cnt (inC M n i) j by omega,asc_at hin hj]
theorem rep_metB (hn0:0<n)(hn:n≤6)(hG:TabP n M){i:Nat}(hi:i<n):metB M n i i=true↔¬ isRep M n i=true:=by
  rw [rep_met hn0 hn hG hi,metB_iff,Decidable.not_not]
end
theorem l06Classes_ok (n:Nat)(M:Nat→Nat→Nat)(w:World)(hn0:0<n)(hn:n≤6)(hB:∀ i j,M i j≤255)(hG:TabP n M) :
    CallsR Tryz.prog 28 #[.agg (grpC (n:Int) M)] w (fun v w'=>SSOutR w w' (nC M n) (sC M n) (eI M n) v):=by
  refine calls_fr [.agg (grpC (n:Int) M)] Tryz.func28 rfl Tryz.ntmps28 rfl fun a hF=>?_;have hM:Mem w w [none,none,none,none,none,none,none,none] []:=MemX.start w 8;change Fr 58 a [(0,.agg (grpC (n:Int) M))] at hF;refine sr<|stR hF (d_box 0 hM hF rfl) rfl ?_;rintro _ w' a ⟨b1,rfl,hM,-⟩ hF;refine ag hF rfl rfl fun a hF=>ns<|st hF (g_build0 ty_bu_82) rfl fun a hF=>stR hF (d_buildC 1 hM hF rfl ty_bs0_29) rfl ?_;rintro _ w' a ⟨b2,rfl,hM,-⟩ hF;refine stR hF (d_alloc 2 hM ty_ze_82) rfl ?_;rintro _ w' a ⟨b3,rfl,hM,-⟩ hF;change Mem w w' [some (b1,grpC (n:Int) M),some (b2,#[]),some (b3,fnC 6 (fun _=>.bool (false))),none,none,none,none,none] [] at hM;refine stN hF (d_storeAgg 2 hM rfl ty_sz_82 hF rfl rfl (by first | exact vecC_one | exact cells_one | (refine fnC_one fun _ _=>?_;first | rfl | (split<;>rfl))) (by simp only [sz0,grpC_size,numI_size,rowW_size,bolC_size]) (by simp only [sz0,grpC_size,numI_size,rowW_size,bolC_size]<;>omega) (splice_whole _ _ (by simp only [sz0,grpC_size,numI_size,rowW_size,bolC_size]))) ?_;intro _ w' a hM hF;refine ag hF rfl rfl fun a hF=>nt<|sq<|sr<|ag hF rfl rfl fun a hF=>nt<|wp_block ?_;change Mem w _ [some (b1,grpC (n:Int) M),some (b2,#[]),some (b3,fnC 6 (fun _=>.bool (false))),none,none,none,none,none] [] at hM;refine c_loop (fun (kk:Nat) a w'=>kk≤n∧∃ (D2:Froz),∃ (be2:Nat→Nat),∃ (ka2:Nat→Nat),∃ (CC2:Nat→Array Value),(RowsC D2 (cnt (isRep M n) kk) be2 CC2∧(∀ i,i<cnt (isRep M n) kk→SlAt 1 (.slice (some ⟨be2 i,0,none⟩) (sC M n i) (ka2 i)) (some (be2 i,CC2 i)) (sC M n i) (be2 i) (ka2 i) (CC2 i) (fun q=>.int .i64 (eI M n i q)))∧∀ i,i<cnt (isRep M n) kk→w.heap.size≤be2 i)∧∃ (u4_1:Value) (e4_1:Option (Nat×Array Value)),Sl 1 u4_1 e4_1 (cnt (isRep M n) kk) (fun i=>.slice (some ⟨be2 i,0,none⟩) (sC M n i) (ka2 i))∧Fr 58 a [(1,ptr b1 (0)),(2,.slice none 0 0),(3,ptr b3 (0)),(5,.int .i64 (kk:Int)),(4,u4_1)]∧Mem w w' [some (b1,grpC (n:Int) M),e4_1,some (b3,bolC (metB M n kk)),none,none,none,none,none] D2) (fun kk=>n - kk) 0 ?_ ?_
  · refine ⟨by omega,[],fun _=>0,fun _=>0,fun _=>#[],⟨RowsC.none,fun i hi=>absurd hi (Nat.not_lt_zero _),fun i hi=>absurd hi (Nat.not_lt_zero _)⟩,(.slice (some ⟨b2,0,none⟩) 0 0),(some (b2,#[])),(Sl.empty 1 _ _),hF.sub _ (by repeat' constructor),?_⟩
    exact hM.rowc 2 rfl (bolC_start fun c=>rfl)
  clear hF hM;rintro gi a w' ⟨hgi,D2,be2,ka2,CC2,hinv1,u4_1,e4_1,hout,hF,hM⟩;have hcl:=cnt_le (S:=isRep M n) gi;refine sq<|sr<|mv hF rfl rfl fun a hF=>st hF (g_fieldAddr ty_fo_27_0 hF rfl) rfl fun a hF=>st hF (g_load ty_on_2 hF rfl (hM.row 0 rfl) (grpC_n (by omega))) rfl fun a hF=>st hF (g_lss hF rfl rfl) rfl fun a hF=>nt<|c_cond hF rfl (fun h4=>?_) (fun h4=>?_)
  · refine wp_skip ?_
    refine tN<|sq<|wp_block<|sq<|sr<|mv hF rfl rfl fun a hF=>st hF (g_indexAddr ty_ar_82 hF rfl rfl rfl (by omega)) rfl fun a hF=>st hF (g_load ty_on_4 hF rfl (hM.row 2 rfl) (bolC_get (gi) (by omega) (by omega))) rfl fun a hF=>nt<|c_cond hF rfl (fun h5=>?_) (fun h5=>?_)
    · refine wp_exit ?_
      refine tX<|ib_same<|tN<|wp_region_lit<|mv hF rfl rfl fun a hF=>st hF (g_add hF rfl rfl (add_nat (gi) (1) (by omega))) rfl fun a hF=>ag hF rfl rfl fun a hF=>wpList_nil<|tN ?_;have hrep:¬ isRep M n gi=true:=(rep_metB hn0 hn hG (by omega)).1 (by assumption);refine ⟨gi+1,⟨by omega,D2,be2,ka2,CC2,(by rw [cnt_no hrep];exact hinv1),(u4_1),(e4_1),(by first | (rw [cnt_yes hrep];exact Sl.snocL (cls_row hgn hrep).1 hout) | (rw [cnt_no hrep];exact hout)),hF.sub _ (by repeat' constructor),?_⟩,by omega⟩
      first | exact hM.rowc 2 rfl (bolC_congr fun c _=>met_n hn hG hgn hrep) | exact hM.rowc 2 rfl (bolC_congr fun c _=>met_same hrep)
    refine wp_skip<|tN<|sr<|st hF (g_build0 ty_bu_82) rfl fun a hF=>stR hF (d_alloc 3 hM ty_ze_82) rfl ?_;rintro _ w' a ⟨b6,rfl,hM,-⟩ hF;change Mem w w' [some (b1,grpC (n:Int) M),e4_1,some (b3,bolC (metB M n gi)),some (b6,fnC 6 (fun _=>.bool (false))),none,none,none,none] D2 at hM;refine stN hF (d_storeAgg 3 hM rfl ty_sz_82 hF rfl rfl (by first | exact vecC_one | exact cells_one | (refine fnC_one fun _ _=>?_;first | rfl | (split<;>rfl))) (by simp only [sz0,grpC_size,numI_size,rowW_size,bolC_size]) (by simp only [sz0,grpC_size,numI_size,rowW_size,bolC_size]<;>omega) (splice_whole _ _ (by simp only [sz0,grpC_size,numI_size,rowW_size,bolC_size]))) ?_;intro _ w' a hM hF;refine nt<|sq<|sr<|ag hF rfl rfl fun a hF=>nt<|wp_block ?_;have hgn:gi<n:=by omega
    have hrep:isRep M n gi=true:=Decidable.by_contra fun hq=>(by assumption:¬ metB M n gi gi=true) ((rep_metB hn0 hn hG hgn).2 hq);change Mem w _ [some (b1,grpC (n:Int) M),e4_1,some (b3,bolC (metB M n gi)),some (b6,fnC 6 (fun _=>.bool (false))),none,none,none,none] D2 at hM;refine c_loop (fun (kk:Nat) a w'=>kk≤n∧(True)∧Fr 58 a [(1,ptr b1 (0)),(2,.slice none 0 0),(3,ptr b3 (0)),(5,.int .i64 (gi:Int)),(4,u4_1),(12,.int .i64 (gi:Int)),(13,ptr b1 (0+0)),(14,.int .i64 (n:Int)),(15,.bool (decide (((gi:Int):Int)<(n:Int)))),(18,.int .i64 (gi:Int)),(19,ptr b3 (0+(gi)*1)),(20,.bool (decide ((metB M n gi) (gi)=true))),(21,.agg (fnC 6 (fun _=>.bool (false)))),(6,ptr b6 (0)),(7,.int .i64 (kk:Int))]∧Mem w w' [some (b1,grpC (n:Int) M),e4_1,some (b3,bolC (metB M n gi)),some (b6,bolC (ownB M n gi kk)),none,none,none,none] D2) (fun kk=>n - kk) 0 ?_ ?_
    · refine ⟨by omega,trivial,hF.sub _ (by repeat' constructor),?_⟩
      exact hM.rowc 3 rfl (bolC_start fun c=>rfl)
    clear hF hM;rintro gx a w' ⟨hgx,hinv2,hF,hM⟩;have x1:gx<n→M 0 gx=gx:=fun q=>(hG.2.1 gx q).1;have x1b:gx<n→M (0) (gx)<n:=fun q=>by rw [x1 q];exact q
    have x2:gx<n→lead (M gx) n<n:=fun q=>hG.inv q;have x3:gx<n→M (M (0) (gx)) (gi)<n:=fun q=>hG.c hn (x1b q) hgn;have x4:gx<n→M (M (M (0) (gx)) (gi)) (lead (M (gx)) n)<n:=fun q=>hG.c hn (x3 q) (x2 q);have x5:gx<n→M (M (M (0) (gx)) (gi)) (lead (M (gx)) n)=cj M n gi gx:=fun q=>by rw [x1 q];rfl
    refine sq<|sr<|mv hF rfl rfl fun a hF=>st hF (g_fieldAddr ty_fo_27_0 hF rfl) rfl fun a hF=>st hF (g_load ty_on_2 hF rfl (hM.row 0 rfl) (grpC_n (by omega))) rfl fun a hF=>st hF (g_lss hF rfl rfl) rfl fun a hF=>nt<|c_cond hF rfl (fun h7=>?_) (fun h7=>?_)
    · refine wp_skip ?_
      refine tN<|sq<|wp_block<|c_par 7 [4] [.val (.agg (grpC (n:Int) M)),.val (.int .i64 (gx:Int)),.val (.int .i64 (gi:Int)),.val (.agg (grpC (n:Int) M)),.val (.int .i64 (gx:Int)),.val (.int .i64 ((lead (M (gx)) n:Int))),.own 4 (#[.int .i64 (gx:Int),.int .i64 (gi:Int),.int .i64 ((lead (M (gx)) n:Int))]) (fun b=>.slice (some ⟨b,0,none⟩) 3 3)] hmix rfl hF rfl hM ⟨fun a w gG hF hS hd=>by have hM:=hS.mem rfl;exact par_val hS rfl (g_loadAgg ty_ag_27 hF rfl (hM.row 0 rfl) (by simp only [sz0,grpC_size,numI_size,rowW_size,bolC_size]<;>omega) (whole (by simp only [sz0,grpC_size,numI_size,rowW_size,bolC_size]))),fun a w gG hF hS hd=>by exact pmv hS rfl hF rfl,fun a w gG hF hS hd=>by exact pmv hS rfl hF rfl,fun a w gG hF hS hd=>by have hM:=hS.mem rfl;exact par_val hS rfl (g_loadAgg ty_ag_27 hF rfl (hM.row 0 rfl) (by simp only [sz0,grpC_size,numI_size,rowW_size,bolC_size]<;>omega) (whole (by simp only [sz0,grpC_size,numI_size,rowW_size,bolC_size]))),fun a w gG hF hS hd=>by exact pmv hS rfl hF rfl,fun a w gG hF hS hd=>by have hF:=hF.ext1 31 (hd 3 rfl rfl);have hF:=hF.ext1 32 (hd 4 rfl rfl);exact par_call (by repeat constructor) hS rfl (d_call Tryz.call54 hF (.cons rfl (.cons rfl .nil)) (l06Inverse_ok n M (gx) _ hn0 hn hB hG (by omega))),fun a w gG hF hS hd=>by have hF:=hF.ext1 29 (hd 1 rfl rfl);have hF:=hF.ext1 30 (hd 2 rfl rfl);have hF:=hF.ext1 33 (hd 5 rfl rfl);exact par_own (by repeat constructor) hS rfl rfl rfl rfl (d_buildC (vs:=[(0,.int .i64 (gx:Int)),(1,.int .i64 (gi:Int)),(2,.int .i64 ((lead (M (gx)) n:Int)))]) 4 hS.1 hF (build3 hF rfl rfl rfl) (fun w=>ty_bsi_49_3 _ _ _ w)),trivial⟩ ?_;intro a w' L hF hS hq;have hF:=hF.ext1 28 (hq 0 rfl rfl);have hF:=hF.ext1 29 (hq 1 rfl rfl);have hF:=hF.ext1 30 (hq 2 rfl rfl);have hF:=hF.ext1 31 (hq 3 rfl rfl);have hF:=hF.ext1 32 (hq 4 rfl rfl);have hF:=hF.ext1 33 (hq 5 rfl rfl);obtain ⟨hM,hL⟩:=hS;obtain ⟨b8,hptr,hkk⟩:=hq 6 rfl rfl;have hF:=hF.ext1 34 hptr;have hL:=hL.take hkk;obtain rfl:=hL.eq;change Mem w w' [some (b1,grpC (n:Int) M),e4_1,some (b3,bolC (metB M n gi)),some (b6,bolC (ownB M n gi gx)),some (b8,#[.int .i64 (gx:Int),.int .i64 (gi:Int),.int .i64 ((lead (M (gx)) n:Int))]),none,none,none] D2 at hM;change wpList Tryz.prog _ _ [_,_,_] _ _;refine stR hF (d_call Tryz.call53 hF (.cons rfl (.cons rfl .nil)) ((CallsR.val (l06Times_ok n M b8 3 _ (l4 (gx) (gi) (lead (M (gx)) n) (0)) _ hn0 hn hB hG (hM.row 4 rfl) lit3_get (by omega) (l4_lt3 (by omega) (by omega) (by omega))) (congrArg (Value.int .i64) (congrArg Nat.cast (show foldM M (l4 (gx) (gi) (lead (M (gx)) n) (0)) 3=M (M (M (0) (gx)) (gi)) (lead (M (gx)) n) from rfl)))))) rfl ?_;rintro _ w' a ⟨hx,rfl⟩ hF;have hM:=hM.ext hx;refine st hF (g_indexAddr ty_ar_82 hF rfl rfl rfl (by omega)) rfl fun a hF=>stN hF (d_store 3 hM rfl ty_on_4 hF rfl rfl rfl (by first | omega | (simp only [sz0,grpC_size,numI_size,rowW_size,bolC_size]<;>omega) | (simp only [Array.size_setIfInBounds];omega) | simp)) ?_;intro _ w' a hM hF;rw [(bolC_set (M (M (M (0) (gx)) (gi)) (lead (M (gx)) n)) (by omega))] at hM;change Mem w w' [some (b1,grpC (n:Int) M),e4_1,some (b3,bolC (metB M n gi)),some (b6,bolC (setB (ownB M n gi gx) (M (M (M (0) (gx)) (gi)) (lead (M (gx)) n)))),some (b8,#[.int .i64 (gx:Int),.int .i64 (gi:Int),.int .i64 ((lead (M (gx)) n:Int))]),none,none,none] D2 at hM;refine wpList_nil<|iN<|tN<|wp_region_lit<|mv hF rfl rfl fun a hF=>st hF (g_add hF rfl rfl (add_nat (gx) (1) (by omega))) rfl fun a hF=>ag hF rfl rfl fun a hF=>wpList_nil<|tN ?_;have hM:=hM.drop 4;refine ⟨gx+1,⟨by omega,trivial,hF.sub _ (by repeat' constructor),?_⟩,by omega⟩;exact hM.rowc 3 rfl (bolC_congr fun c _=>own_step (x5 (by omega)))
    obtain rfl:n=gx:=by omega
    refine wp_exit<|tX<|tX<|ib_same<|tN<|sr<|stR hF (d_buildC 5 hM hF rfl ty_bs0_49) rfl ?_;rintro _ w' a ⟨b9,rfl,hM,-⟩ hF;refine ag hF rfl rfl fun a hF=>nt<|sq<|sr<|ag hF rfl rfl fun a hF=>nt<|wp_block ?_;change Mem w _ [some (b1,grpC (n:Int) M),e4_1,some (b3,bolC (metB M n gi)),some (b6,bolC (ownB M n gi n)),none,some (b9,#[]),none,none] D2 at hM;refine c_loop (fun (kk:Nat) a w'=>kk≤n∧(True)∧∃ (u8_3:Value) (e8_3:Option (Nat×Array Value)),Sl 1 u8_3 e8_3 (cnt (inC M n gi) kk) (fun k=>.int .i64 (asc (inC M n gi) n k:Int))∧Fr 58 a [(1,ptr b1 (0)),(2,.slice none 0 0),(3,ptr b3 (0)),(5,.int .i64 (gi:Int)),(4,u4_1),(12,.int .i64 (gi:Int)),(13,ptr b1 (0+0)),(14,.int .i64 (n:Int)),(15,.bool (decide (((gi:Int):Int)<(n:Int)))),(18,.int .i64 (gi:Int)),(19,ptr b3 (0+(gi)*1)),(20,.bool (decide ((metB M n gi) (gi)=true))),(21,.agg (fnC 6 (fun _=>.bool (false)))),(6,ptr b6 (0)),(7,.int .i64 (n:Int)),(22,.int .i64 (n:Int)),(23,ptr b1 (0+0)),(24,.int .i64 (n:Int)),(25,.bool (decide (((n:Int):Int)<(n:Int)))),(37,.slice (some ⟨b9,0,none⟩) 0 0),(9,.int .i64 (kk:Int)),(8,u8_3)]∧Mem w w' [some (b1,grpC (n:Int) M),e4_1,some (b3,bolC (metJ M n gi kk)),some (b6,bolC (ownB M n gi n)),none,e8_3,none,none] D2) (fun kk=>n - kk) 0 ?_ ?_
    · refine ⟨by omega,trivial,(.slice (some ⟨b9,0,none⟩) 0 0),(some (b9,#[])),(Sl.empty 1 _ _),hF.sub _ (by repeat' constructor),?_⟩
      exact hM.rowc 2 rfl (bolC_congr fun c _=>met_0)
    clear hF hM;rintro gj a w' ⟨hgj,hinv3,u8_3,e8_3,hrow,hF,hM⟩;have hcl2:=cnt_le (S:=inC M n gi) gj;refine sq<|sr<|mv hF rfl rfl fun a hF=>st hF (g_fieldAddr ty_fo_27_0 hF rfl) rfl fun a hF=>st hF (g_load ty_on_2 hF rfl (hM.row 0 rfl) (grpC_n (by omega))) rfl fun a hF=>st hF (g_lss hF rfl rfl) rfl fun a hF=>nt<|c_cond hF rfl (fun h10=>?_) (fun h10=>?_)
    · refine wp_skip ?_
      refine tN<|sq<|wp_block<|sr<|mv hF rfl rfl fun a hF=>st hF (g_indexAddr ty_ar_82 hF rfl rfl rfl (by omega)) rfl fun a hF=>st hF (g_load ty_on_4 hF rfl (hM.row 3 rfl) (bolC_get (gj) (by omega) (by omega))) rfl fun a hF=>nt<|c_cond hF rfl (fun h11=>?_) (fun h11=>?_)
      · refine sq ?_
        refine wp_region_lit<|mv hF rfl rfl fun a hF=>st hF (g_indexAddr ty_ar_82 hF rfl rfl rfl (by omega)) rfl fun a hF=>stN hF (d_store 2 hM rfl ty_on_4 hF rfl rfl rfl (by first | omega | (simp only [sz0,grpC_size,numI_size,rowW_size,bolC_size]<;>omega) | (simp only [Array.size_setIfInBounds];omega) | simp)) ?_;intro _ w' a hM hF;rw [(bolC_set (gj) (by omega))] at hM;refine nt<|wp_region_lit<|mv hF rfl rfl fun a hF=>mv hF rfl rfl fun a hF=>stR hF (d_buildC 6 hM hF (build1 hF rfl) (ty_bs1_49 _)) rfl ?_;rintro _ w' a ⟨b12,rfl,hM,-⟩ hF;change Mem w w' [some (b1,grpC (n:Int) M),e4_1,some (b3,bolC (setB (metJ M n gi gj) (gj))),some (b6,bolC (ownB M n gi n)),none,e8_3,some (b12,#[.int .i64 (gj:Int)]),none] D2 at hM;refine stR hF (d_append (k:=5) (m:=1) (g:=fun _=>.int .i64 (gj:Int)) ty_si_49 rfl (by decide) hM rfl hF rfl rfl hrow (fun i hi=>by rw [show i=0 by omega];exact (hM.row 6 rfl).cell 0) (fun _ _=>rfl) (by decide) (by unfold maxLen;omega) (by omega)) rfl ?_;rintro u13 w' a ⟨e14,hM,hs15⟩ hF;change Mem w w' [some (b1,grpC (n:Int) M),e4_1,some (b3,bolC (setB (metJ M n gi gj) (gj))),some (b6,bolC (ownB M n gi n)),none,e14,some (b12,#[.int .i64 (gj:Int)]),none] D2 at hM;refine ag hF rfl rfl fun a hF=>wpList_nil<|iN<|tN<|wp_region_lit<|mv hF rfl rfl fun a hF=>st hF (g_add hF rfl rfl (add_nat (gj) (1) (by omega))) rfl fun a hF=>ag hF rfl rfl fun a hF=>wpList_nil<|tN ?_;have hin:inC M n gi gj=true:=by show ownB M n gi n gj=true;assumption
        have hM:=hM.drop 6;refine ⟨gj+1,⟨by omega,trivial,(u13),(e14),(by first | (rw [cnt_yes hin];exact hs15.congr (fun k hk=>cls_put hin (by omega) hk)) | (rw [cnt_no hin];exact hs15)),hF.sub _ (by repeat' constructor),?_⟩,by omega⟩
        first | exact hM.rowc 2 rfl (bolC_congr fun c _=>met_yes hin) | exact hM.rowc 2 rfl (bolC_congr fun c _=>met_no hin)
      refine wp_skip<|iN<|tN<|wp_region_lit<|mv hF rfl rfl fun a hF=>st hF (g_add hF rfl rfl (add_nat (gj) (1) (by omega))) rfl fun a hF=>ag hF rfl rfl fun a hF=>wpList_nil<|tN ?_;have hin:¬ inC M n gi gj=true:=by show ¬ ownB M n gi n gj=true;assumption
      refine ⟨gj+1,⟨by omega,trivial,(u8_3),(e8_3),(by first | (rw [cnt_yes hin];exact hrow.congr (fun k hk=>cls_put hin (by omega) hk)) | (rw [cnt_no hin];exact hrow)),hF.sub _ (by repeat' constructor),?_⟩,by omega⟩
      first | exact hM.rowc 2 rfl (bolC_congr fun c _=>met_yes hin) | exact hM.rowc 2 rfl (bolC_congr fun c _=>met_no hin)
    obtain rfl:n=gj:=by omega
    obtain ⟨bR,cR,csR,hvR,heR,hsR⟩:=hrow.pos (cls_pos hn0 hG hgn);subst hvR;subst heR;refine wp_exit<|tX<|tX<|ib_same<|tN<|wp_region_lit<|mv hF rfl rfl fun a hF=>mv hF rfl rfl fun a hF=>stR hF (d_buildC 7 hM hF (build1 hF rfl) (ty_bsv_29 _ _ _)) rfl ?_;rintro _ w' a ⟨b16,rfl,hM,-⟩ hF;change Mem w w' [some (b1,grpC (n:Int) M),e4_1,some (b3,bolC (metJ M n gi n)),some (b6,bolC (ownB M n gi n)),none,some (bR,csR),none,some (b16,#[.slice (some ⟨bR,0,none⟩) (cnt (inC M n gi) n) (cR)])] D2 at hM;refine stR hF (d_append (k:=1) (m:=1) (g:=fun _=>.slice (some ⟨bR,0,none⟩) (cnt (inC M n gi) n) (cR)) ty_si_29 rfl (by decide) hM rfl hF rfl rfl hout (fun i hi=>by rw [show i=0 by omega];exact (hM.row 7 rfl).cell 0) (fun _ _=>rfl) (by decide) (by unfold maxLen;omega) (by omega)) rfl ?_;rintro u17 w' a ⟨e18,hM,hs19⟩ hF;change Mem w w' [some (b1,grpC (n:Int) M),e18,some (b3,bolC (metJ M n gi n)),some (b6,bolC (ownB M n gi n)),none,some (bR,csR),none,some (b16,#[.slice (some ⟨bR,0,none⟩) (cnt (inC M n gi) n) (cR)])] D2 at hM;refine ag hF rfl rfl fun a hF=>wpList_nil<|iN<|tN<|wp_region_lit<|mv hF rfl rfl fun a hF=>st hF (g_add hF rfl rfl (add_nat (gi) (1) (by omega))) rfl fun a hF=>ag hF rfl rfl fun a hF=>wpList_nil<|tN ?_;have hgw:=hM.ge 5 rfl;have hnb:=fun i hi=>(hM.froz _ _ (hinv1.1.mem i hi)).2 5 bR _ rfl;have hM:=hM.freeze 5 rfl;have hC:=(hinv1.1.more (D':=(bR,csR)::D2) (fun x hx=>List.mem_cons_of_mem _ hx)).snoc (List.mem_cons_self ..) hnb;have hrs:=up3 (P:=fun i b c cs=>SlAt 1 (.slice (some ⟨b,0,none⟩) (sC M n i) c) (some (b,cs)) (sC M n i) b c cs (fun q=>.int .i64 (eI M n i q))) hinv1.2.1 (cls_sl hgn hrep hsR);have hgs:=up3 (P:=fun _ b _ _=>w.heap.size≤b) (κ:=ka2) (c:=cR) (cs:=csR) (C:=CC2) hinv1.2.2 hgw;have hM:=hM.drop 3;have hM:=hM.drop 7;refine ⟨gi+1,⟨by omega,((bR,csR)::D2),up be2 (cnt (isRep M n) gi) bR,up ka2 (cnt (isRep M n) gi) cR,upE CC2 (cnt (isRep M n) gi) csR,(by rw [cnt_yes hrep];exact ⟨hC,hrs,hgs⟩),(u17),(e18),(by first | (rw [cnt_yes hrep];exact Sl.snocL (cls_row hgn hrep).1 hs19) | (rw [cnt_no hrep];exact hs19)),hF.sub _ (by repeat' constructor),?_⟩,by omega⟩
    first | exact hM.rowc 2 rfl (bolC_congr fun c _=>met_n hn hG hgn hrep) | exact hM.rowc 2 rfl (bolC_congr fun c _=>met_same hrep)
  obtain rfl:n=gi:=by omega
  refine wp_exit<|tX<|tX<|ib_same<|tN<|sr<|mv hF rfl rfl fun a hF=>ag hF rfl rfl fun a hF=>nt<|wp_ret<|fin1 rfl hF.defers (res_tmp hF rfl) ⟨_,rfl,hM.below,?_⟩;obtain ⟨bO,cO,csO,hvO,heO,hsO⟩:=hout.pos (nC_pos hn0);subst heO;exact SSOutR.of (q:=1) hM hinv1.1 rfl hsO hinv1.2.2 hinv1.2.1
end Go.Proofs.YtdeinnaeicmlfaaGreat
namespace Go.Proofs.YtdeinnaeicmlfaaGreat
open Go Go.RowKit Go.Sw Go.Ech
open Classical
theorem SSOutR.mono {w w1 w2:World}{m:Nat}{Ln:Nat→Nat}{F:Nat→Nat→Int}{u:Value}(h:SSOutR w1 w2 m Ln F u)(hs:w.heap.size≤w1.heap.size):SSOutR w w2 m Ln F u:=by
  obtain ⟨D,b,cap,cs,β,κ,C,h1,h2⟩:=h;exact ⟨D,b,cap,cs,β,κ,C,fun x ds hx=>⟨Nat.le_trans hs (h1 x ds hx).1,(h1 x ds hx).2⟩,h2⟩
theorem ClassesOfSA (n:Int)(M:Nat→Nat→Nat)(w:World)(hB:∀ i j,M i j≤255)(hc:¬ GrpP n M) :
    CallsR Tryz.prog 7 #[.agg (grpC n M)] w (fun res _=>res = .tuple #[.slice none 0 0,.int .i64 1]):=by
  refine calls_fr [.agg (grpC n M)] Tryz.func7 rfl Tryz.ntmps7 rfl fun a hF=>?_;have hM:Mem w w [none] []:=MemX.start w 1;change Fr 9 a [(0,.agg (grpC n M))] at hF;refine sr<|stR hF (d_box 0 hM hF rfl) rfl ?_;rintro _ w' a ⟨b1,rfl,hM,-⟩ hF;change Mem w w' [some (b1,grpC n M)] [] at hM;refine ag hF rfl rfl fun a hF=>ag hF rfl rfl fun a hF=>nt<|sq<|sr<|st hF (g_loadAgg ty_ag_27 hF rfl (hM.row 0 rfl) (by simp only [sz0,grpC_size,numI_size,rowW_size,bolC_size,mri_size]<;>omega) (whole (by simp only [sz0,grpC_size,numI_size,rowW_size,bolC_size,mri_size]))) rfl fun a hF=>stR hF (d_call Tryz.call27 hF (.cons rfl .nil) ((CallsR.val (isG_S n M _ hB) (congrArg Value.bool (decide_eq_false hc))))) rfl ?_;rintro _ w' a ⟨hx,rfl⟩ hF;have hM:=hM.ext hx;refine st hF (g_not (b:=false) hF rfl) rfl fun a hF=>nt<|c_T hF rfl<|sr<|ag hF rfl rfl fun a hF=>ag hF rfl rfl fun a hF=>nt<|wp_ret<|tR<|fin2 rfl hF.defers (res_tmp hF rfl) (res_tmp hF rfl) ⟨_,rfl,hM.below,?_⟩
  show _=_
  rfl
theorem ClassesOfSG (n:Nat)(M:Nat→Nat→Nat)(w:World)(hn0:0<n)(hn:n≤6)(hB:∀ i j,M i j≤255)(hG:TabP n M) :
    CallsR Tryz.prog 7 #[.agg (grpC (n:Int) M)] w (fun u w'=>∃ l,u = .tuple #[l,.int .i64 0]∧SSOutR w w' (nC M n) (sC M n) (eI M n) l):=by
  refine calls_fr [.agg (grpC (n:Int) M)] Tryz.func7 rfl Tryz.ntmps7 rfl fun a hF=>?_;have hM:Mem w w [none] []:=MemX.start w 1;change Fr 9 a [(0,.agg (grpC (n:Int) M))] at hF;refine sr<|stR hF (d_box 0 hM hF rfl) rfl ?_;rintro _ w' a ⟨b1,rfl,hM,-⟩ hF;change Mem w w' [some (b1,grpC (n:Int) M)] [] at hM;refine ag hF rfl rfl fun a hF=>ag hF rfl rfl fun a hF=>nt<|sq<|sr<|st hF (g_loadAgg ty_ag_27 hF rfl (hM.row 0 rfl) (by simp only [sz0,grpC_size,numI_size,rowW_size,bolC_size,mri_size]<;>omega) (whole (by simp only [sz0,grpC_size,numI_size,rowW_size,bolC_size,mri_size]))) rfl fun a hF=>stR hF (d_call Tryz.call27 hF (.cons rfl .nil) ((CallsR.val (isG_S (n:Int) M _ hB) (congrArg Value.bool (decide_eq_true (GrpP.mk hn0 hn hG)))))) rfl ?_;rintro _ w' a ⟨hx,rfl⟩ hF;have hM:=hM.ext hx;refine st hF (g_not (b:=true) hF rfl) rfl fun a hF=>nt<|c_Fl hF rfl<|wp_skip<|tN<|sr<|st hF (g_loadAgg ty_ag_27 hF rfl (hM.row 0 rfl) (by simp only [sz0,grpC_size,numI_size,rowW_size,bolC_size,mri_size]<;>omega) (whole (by simp only [sz0,grpC_size,numI_size,rowW_size,bolC_size,mri_size]))) rfl fun a hF=>?_;have hsz0:=hM.bel.size;refine stR hF (d_call Tryz.call28 hF (.cons rfl .nil) (l06Classes_ok n M _ hn0 hn hB hG)) rfl ?_;rintro lv w' a ⟨hx,hr⟩ hF;have hM:=hM.ext hx;change Mem w w' [some (b1,grpC (n:Int) M)] [] at hM;refine ag hF rfl rfl fun a hF=>ag hF rfl rfl fun a hF=>nt<|wp_ret<|fin2 rfl hF.defers (res_tmp hF rfl) (res_tmp hF rfl) ⟨_,rfl,hM.below,?_⟩;exact ⟨_,rfl,SSOutR.mono hr hsz0⟩
theorem ClassesOfIA (n:Int)(M:Nat→Nat→Nat)(w:World)(hB:∀ i j,M i j≤255)(hc:¬ GrpP n M) :
    CallsR Tryz.prog 6 #[.agg (grpC n M)] w (fun res _=>res = .tuple #[.slice none 0 0,.int .i64 1]):=by
  refine calls_fr [.agg (grpC n M)] Tryz.func6 rfl Tryz.ntmps6 rfl fun a hF=>?_;have hM:Mem w w [none] []:=MemX.start w 1;change Fr 9 a [(0,.agg (grpC n M))] at hF;refine sr<|stR hF (d_box 0 hM hF rfl) rfl ?_;rintro _ w' a ⟨b1,rfl,hM,-⟩ hF;change Mem w w' [some (b1,grpC n M)] [] at hM;refine ag hF rfl rfl fun a hF=>ag hF rfl rfl fun a hF=>nt<|sq<|sr<|st hF (g_loadAgg ty_ag_27 hF rfl (hM.row 0 rfl) (by simp only [sz0,grpC_size,numI_size,rowW_size,bolC_size,mri_size]<;>omega) (whole (by simp only [sz0,grpC_size,numI_size,rowW_size,bolC_size,mri_size]))) rfl fun a hF=>stR hF (d_call Tryz.call9 hF (.cons rfl .nil) ((CallsR.val (isG_I n M _ hB) (congrArg Value.bool (decide_eq_false hc))))) rfl ?_;rintro _ w' a ⟨hx,rfl⟩ hF;have hM:=hM.ext hx;refine st hF (g_not (b:=false) hF rfl) rfl fun a hF=>nt<|c_T hF rfl<|sr<|ag hF rfl rfl fun a hF=>ag hF rfl rfl fun a hF=>nt<|wp_ret<|tR<|fin2 rfl hF.defers (res_tmp hF rfl) (res_tmp hF rfl) ⟨_,rfl,hM.below,?_⟩
  show _=_
  rfl
theorem ClassesOfIG (n:Nat)(M:Nat→Nat→Nat)(w:World)(hn0:0<n)(hn:n≤6)(hB:∀ i j,M i j≤255)(hG:TabP n M) :
    CallsR Tryz.prog 6 #[.agg (grpC (n:Int) M)] w (fun u w'=>∃ l,u = .tuple #[l,.int .i64 0]∧SSOutR w w' (nC M n) (sC M n) (eI M n) l):=by
  refine calls_fr [.agg (grpC (n:Int) M)] Tryz.func6 rfl Tryz.ntmps6 rfl fun a hF=>?_;have hM:Mem w w [none] []:=MemX.start w 1;change Fr 9 a [(0,.agg (grpC (n:Int) M))] at hF;refine sr<|stR hF (d_box 0 hM hF rfl) rfl ?_;rintro _ w' a ⟨b1,rfl,hM,-⟩ hF;change Mem w w' [some (b1,grpC (n:Int) M)] [] at hM;refine ag hF rfl rfl fun a hF=>ag hF rfl rfl fun a hF=>nt<|sq<|sr<|st hF (g_loadAgg ty_ag_27 hF rfl (hM.row 0 rfl) (by simp only [sz0,grpC_size,numI_size,rowW_size,bolC_size,mri_size]<;>omega) (whole (by simp only [sz0,grpC_size,numI_size,rowW_size,bolC_size,mri_size]))) rfl fun a hF=>stR hF (d_call Tryz.call9 hF (.cons rfl .nil) ((CallsR.val (isG_I (n:Int) M _ hB) (congrArg Value.bool (decide_eq_true (GrpP.mk hn0 hn hG)))))) rfl ?_;rintro _ w' a ⟨hx,rfl⟩ hF;have hM:=hM.ext hx;refine st hF (g_not (b:=true) hF rfl) rfl fun a hF=>nt<|c_Fl hF rfl<|wp_skip<|tN<|sr<|st hF (g_loadAgg ty_ag_27 hF rfl (hM.row 0 rfl) (by simp only [sz0,grpC_size,numI_size,rowW_size,bolC_size,mri_size]<;>omega) (whole (by simp only [sz0,grpC_size,numI_size,rowW_size,bolC_size,mri_size]))) rfl fun a hF=>?_;have hsz0:=hM.bel.size;refine stR hF (d_call Tryz.call26 hF (.cons rfl .nil) (classesOf_ok n M _ hn0 hn hB hG)) rfl ?_;rintro lv w' a ⟨hx,hr⟩ hF;have hM:=hM.ext hx;change Mem w w' [some (b1,grpC (n:Int) M)] [] at hM;refine ag hF rfl rfl fun a hF=>ag hF rfl rfl fun a hF=>nt<|wp_ret<|fin2 rfl hF.defers (res_tmp hF rfl) (res_tmp hF rfl) ⟨_,rfl,hM.below,?_⟩;exact ⟨_,rfl,SSOutR.mono hr hsz0⟩
end Go.Proofs.YtdeinnaeicmlfaaGreat
namespace Go.Proofs.YtdeinnaeicmlfaaGreat
open Go Go.RowKit Go.Sw Go.Ech
open Classical
section
variable {n : Nat} {M : Nat → Nat → Nat}
def chiP (E:Nat→Nat) (m a:Nat):Nat:=if (List.range m).any (fun x=>decide (E x=a))=true then 1 else 0
theorem chiP_le (E:Nat→Nat)(m a:Nat):chiP E m a≤1:=by unfold chiP;split<;>omega
theorem chiP_0 {E:Nat→Nat}{a:Nat}:chiP E 0 a=0:=by unfold chiP;simp
theorem chiP_s {E:Nat→Nat}{m a:Nat}:chiP E (m+1) a=if a=E m then 1 else chiP E m a:=by
  unfold chiP
  rw [any_succ]
  by_cases e:a=E m
  · rw [if_pos e,if_pos (by rw [Bool.or_eq_true];exact .inr (decide_eq_true e.symm))]
  · rw [if_neg e]
    by_cases h:(List.range m).any (fun x=>decide (E x=a))=true
    · rw [if_pos h,if_pos (by rw [Bool.or_eq_true];exact .inl h)]
    · rw [if_neg h,if_neg (by rw [Bool.or_eq_true];exact fun q=>q.elim h fun q=>e (of_decide_eq_true q).symm)]
theorem chiP_new {E:Nat→Nat}{m:Nat}(h:∀ x,x<m→E x≠E m):chiP E m (E m)=0:=by
  unfold chiP
  rw [if_neg];intro q;obtain ⟨x,hx,hd⟩:=List.any_eq_true.1 q;exact h x (by simpa using hx) (by simpa using hd)
theorem sumTo_congr' {f g:Nat→Nat}{k:Nat}(h:∀ i,i<k→f i=g i):sumTo f k=sumTo g k:=by
  induction k with
  | zero=>rfl
  | succ k ih=>simp only [sumTo];rw [ih (fun i hi=>h i (by omega)),h k (by omega)]
theorem sumTo_pick {F:Nat→Nat}{k e:Nat}(he:e<k):sumTo (fun a=>(if a=e then 1 else 0)*F a) k=F e:=by
  induction k with
  | zero=>omega
  | succ k ih =>
    simp only [sumTo]
    by_cases h:e=k
    · subst h
      have h0:sumTo (fun a=>(if a=e then 1 else 0)*F a) e=0:=by
        have:∀ m,m≤e→sumTo (fun a=>(if a=e then 1 else 0)*F a) m=0:=by
          intro m
          induction m with
          | zero=>intro _;rfl
          | succ m ih2=>intro hm;simp only [sumTo];rw [ih2 (by omega),if_neg (by omega)];omega
        exact this e (Nat.le_refl _)
      rw [h0,if_pos rfl];omega
    · rw [ih (by omega),if_neg (fun q=>h q.symm)];omega
theorem sumTo_add {f g:Nat→Nat}{k:Nat}:sumTo (fun a=>f a+g a) k=sumTo f k+sumTo g k:=by
  induction k with
  | zero=>rfl
  | succ k ih=>simp only [sumTo];rw [ih];omega
theorem sum_chi {E F:Nat→Nat}{k:Nat}:∀ {m:Nat},(∀ x y,x<y→y<m→E x<E y)→(∀ x,x<m→E x<k)→sumTo (fun a=>chiP E m a*F a) k=sumTo (fun x=>F (E x)) m
  | 0, _, _ => by
    have:∀ q,sumTo (fun a=>chiP E 0 a*F a) q=0:=by
      intro q
      induction q with
      | zero=>rfl
      | succ q ih=>simp only [sumTo];rw [ih,chiP_0,Nat.zero_mul]
    exact this k
  | m + 1, h1, h2 => by
    have hn:=chiP_new (E:=E) (m:=m) fun x hx=>Nat.ne_of_lt (h1 x m hx (by omega));have e:∀ a,a<k→chiP E (m+1) a*F a=chiP E m a*F a+(if a=E m then 1 else 0)*F a:=fun a _=>by
      rw [chiP_s]
      by_cases q:a=E m
      · subst q;rw [if_pos rfl,if_pos rfl,hn];omega
      · rw [if_neg q,if_neg q];omega
    rw [sumTo_congr' e,sumTo_add,sum_chi (fun x y hx hy=>h1 x y hx (by omega)) (fun x hx=>h2 x (by omega)),sumTo_pick (h2 m (by omega))]
    rfl
def dA (M:Nat→Nat→Nat) (n k a b:Nat):Nat:=if M a b=eC M n k 0 then 1 else 0
def cA (M:Nat→Nat→Nat) (n i j k:Nat):Nat:=sumTo (fun x=>sumTo (fun y=>dA M n k (eC M n i x) (eC M n j y)) (sC M n j)) (sC M n i)
def cAp (M:Nat→Nat→Nat) (n i j k x y:Nat):Nat:=sumTo (fun x=>sumTo (fun y=>dA M n k (eC M n i x) (eC M n j y)) (sC M n j)) x+sumTo (fun y=>dA M n k (eC M n i x) (eC M n j y)) y
theorem cAp_row {i j k x:Nat}:cAp M n i j k x (sC M n j)=cAp M n i j k (x+1) 0:=by unfold cAp;simp only [sumTo];omega
theorem cAp_end {i j k:Nat}:cAp M n i j k (sC M n i) 0=cA M n i j k:=by unfold cAp cA;simp only [sumTo];omega
theorem cAp_yes {i j k x y:Nat}(h:M (eC M n i x) (eC M n j y)=eC M n k 0):cAp M n i j k x y+1=cAp M n i j k x (y+1):=by unfold cAp;simp only [sumTo];unfold dA;rw [if_pos h];omega
theorem cAp_no {i j k x y:Nat}(h:¬ M (eC M n i x) (eC M n j y)=eC M n k 0):cAp M n i j k x y=cAp M n i j k x (y+1):=by unfold cAp;simp only [sumTo];unfold dA;rw [if_neg h];omega
theorem dA_le (k a b:Nat):dA M n k a b≤1:=by unfold dA;split<;>omega
theorem cAp_le (hn:n≤6){i j k x y:Nat}(hx:x≤sC M n i)(hy:y≤sC M n j):cAp M n i j k x y≤42:=by
  have hi:=sC_le (M:=M) hn i;have hj:=sC_le (M:=M) hn j;have h1:=sumTo_le (f:=fun x=>sumTo (fun y=>dA M n k (eC M n i x) (eC M n j y)) (sC M n j)) (c:=6) (m:=x) fun a _=>Nat.le_trans (sumTo_le (c:=1) fun b _=>dA_le k _ _) (by omega);have h2:=sumTo_le (f:=fun y=>dA M n k (eC M n i x) (eC M n j y)) (c:=1) (m:=y) fun b _=>dA_le k _ _
  unfold cAp;omega
theorem eC_up {i x y:Nat}(h:x<y)(hy:y<sC M n i):eC M n i x<eC M n i y:=asc_lt h hy
theorem cA_prod {i j k:Nat}:prodI (gT n M) (chiP (eC M n i) (sC M n i)) (chiP (eC M n j) (sC M n j)) n n (eC M n k 0)=cA M n i j k:=by
  unfold prodI cA
  have e:∀ a,a<n→sumTo (fun b=>chiP (eC M n i) (sC M n i) a*chiP (eC M n j) (sC M n j) b*gT n M a b (eC M n k 0)) n=chiP (eC M n i) (sC M n i) a*sumTo (fun y=>dA M n k a (eC M n j y)) (sC M n j):=fun a ha=>by
    have e2:∀ b,b<n→chiP (eC M n i) (sC M n i) a*chiP (eC M n j) (sC M n j) b*gT n M a b (eC M n k 0)=chiP (eC M n j) (sC M n j) b*(chiP (eC M n i) (sC M n i) a*dA M n k a b):=fun b hb=>by
      have e3:gT n M a b (eC M n k 0)=dA M n k a b:=by
        unfold gT dA
        by_cases q:M a b=eC M n k 0
        · rw [if_pos q,if_pos ⟨ha,hb,q.symm⟩]
        · rw [if_neg q,if_neg (fun z=>q z.2.2.symm)]
      rw [e3,Nat.mul_comm (chiP (eC M n i) (sC M n i) a),Nat.mul_assoc]
    rw [sumTo_congr' e2,sum_chi (E:=eC M n j) (F:=fun b=>chiP (eC M n i) (sC M n i) a*dA M n k a b) (fun x y h hy=>eC_up h hy) (fun x hx=>eC_lt hx)]
    generalize chiP (eC M n i) (sC M n i) a=c
    have:∀ m,sumTo (fun x=>c*dA M n k a (eC M n j x)) m=c*sumTo (fun y=>dA M n k a (eC M n j y)) m:=by
      intro m
      induction m with
      | zero=>simp [sumTo]
      | succ m ih=>simp only [sumTo];rw [ih,Nat.mul_add]
    exact this _
  rw [sumTo_congr' e,sum_chi (E:=eC M n i) (F:=fun a=>sumTo (fun y=>dA M n k a (eC M n j y)) (sC M n j)) (fun x y h hy=>eC_up h hy) (fun x hx=>eC_lt hx)]
def tCp (p n:Nat) (M:Nat→Nat→Nat) (a b c i j k:Nat):Nat:=if j<nC M n∧k<nC M n∧(i<a∨(i=a∧(j<b∨(j=b∧k<c)))) then cA M n i j k%p else 0
theorem tCp_0 {p i j k:Nat}:tCp p n M 0 0 0 i j k=0:=by unfold tCp;rw [if_neg (by omega)]
theorem tCp_k {p a b i j k:Nat}:tCp p n M a b (nC M n) i j k=tCp p n M a (b+1) 0 i j k:=by
  unfold tCp
  have e:(j<nC M n∧k<nC M n∧(i<a∨(i=a∧(j<b∨(j=b∧k<nC M n)))))=(j<nC M n∧k<nC M n∧(i<a∨(i=a∧(j<b+1∨(j=b+1∧k<0))))):=by apply propext;omega
  simp only [e]
theorem tCp_j {p a i j k:Nat}:tCp p n M a (nC M n) 0 i j k=tCp p n M (a+1) 0 0 i j k:=by
  unfold tCp
  have e:(j<nC M n∧k<nC M n∧(i<a∨(i=a∧(j<nC M n∨(j=nC M n∧k<0)))))=(j<nC M n∧k<nC M n∧(i<a+1∨(i=a+1∧(j<0∨(j=0∧k<0))))):=by apply propext;omega
  simp only [e]
theorem tCp_step {p a b c i j k v:Nat}(hb:b<nC M n)(hc:c<nC M n)(hv:v=cA M n a b c%p):(if i=a∧j=b∧k=c then v else tCp p n M a b c i j k)=tCp p n M a b (c+1) i j k:=by
  unfold tCp
  by_cases e:i=a∧j=b∧k=c
  · obtain ⟨rfl,rfl,rfl⟩:=e
    rw [if_pos ⟨rfl,rfl,rfl⟩,if_pos (by omega),hv]
  · rw [if_neg e]
    have e:(j<nC M n∧k<nC M n∧(i<a∨(i=a∧(j<b∨(j=b∧k<c)))))=(j<nC M n∧k<nC M n∧(i<a∨(i=a∧(j<b∨(j=b∧k<c+1))))):=by apply propext;omega
    simp only [e]
end
end Go.Proofs.YtdeinnaeicmlfaaGreat
