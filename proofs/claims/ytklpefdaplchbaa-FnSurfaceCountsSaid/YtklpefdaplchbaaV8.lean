import Derived.Test.YtklpefdaplchbaaV7
set_option linter.unusedVariables false
set_option linter.unusedSimpArgs false
namespace Go.Proofs.Ytklpefdaplchbaa
open Go Go.RowKit Go.Sw Go.Ech
open Classical
theorem ty_ze_2:zeroP Try.prog 2=some (.int .i64 (0)):=by kernel_rfl
theorem CountHomSA (n m:Int)(M M2:Nat→Nat→Nat)(w:World)(hB:∀ i j,M i j≤255)(hB2:∀ i j,M2 i j≤255)(hc:¬ (GrpP n M∧GrpP m M2)) :
    CallsR Try.prog 10 #[.agg (grpC n M),.agg (grpC m M2)] w (fun res _=>res = .tuple #[.int .i64 0,.int .i64 1]):=by
  refine calls_fr [.agg (grpC n M),.agg (grpC m M2)] Try.func10 rfl Try.ntmps10 rfl fun a hF=>?_
  have hM:Mem w w [none,none,none] []:=MemX.start w 3
  change Fr 99 a [(0,.agg (grpC n M)),(1,.agg (grpC m M2))] at hF
  refine sq ?_
  refine wp_region_lit ?_
  refine stR hF (d_box 0 hM hF rfl) rfl ?_
  rintro _ w' a ⟨b1,rfl,hM,-⟩ hF
  change Mem w w' [some (b1,grpC n M),none,none] [] at hM
  refine stR hF (d_box 1 hM hF rfl) rfl ?_
  rintro _ w' a ⟨b2,rfl,hM,-⟩ hF
  change Mem w w' [some (b1,grpC n M),some (b2,grpC m M2),none] [] at hM
  refine st hF (g_assign hF rfl) rfl fun a hF=>st hF (g_assign hF rfl) rfl fun a hF=>?_
  refine wpList_nil ?_
  refine tN ?_
  refine sq ?_
  refine sq ?_
  refine wp_region_lit ?_
  refine st hF (g_loadAgg ty_ag_27 hF rfl (hM.row 0 rfl) (by simp only [fnC_size,cells_size,vecC_size,tabC_size,planeC_size,tenC_size,smC_size,numC_size,numI_size,mrk_size,grpC_size,rowW_size,bolC_size,mri_size,srcC_size,recC_size,recZ_size]<;>omega) (whole (by simp only [fnC_size,cells_size,vecC_size,tabC_size,planeC_size,tenC_size,smC_size,numC_size,numI_size,mrk_size,grpC_size,rowW_size,bolC_size,mri_size,srcC_size,recC_size,recZ_size]))) rfl fun a hF=>?_
  refine stR hF (d_call Try.call19 hF (.cons rfl .nil) (isG_S n M _ hB)) rfl ?_
  rintro _ w' a ⟨hx,rfl⟩ hF
  have hM:=hM.ext hx
  refine st hF (g_notP hF rfl) rfl fun a hF=>st hF (g_move hF rfl) rfl fun a hF=>?_
  by_cases g3:¬ (GrpP n M)
  ·
   first | rw [decide_eq_true g3] at hF | simp only [decide_eq_true g3] at hF
   refine stS hF rfl rfl rfl rfl rfl fun a hF=>stS hF rfl rfl rfl rfl rfl fun a hF=>stS hF rfl rfl rfl rfl rfl fun a hF=>st hF (g_pickT hF rfl rfl) rfl fun a hF=>?_
   refine wpList_nil ?_
   refine tN ?_
   refine c_T hF rfl ?_
   refine sq ?_
   refine wp_region_lit ?_
   refine st hF (g_assign hF rfl) rfl fun a hF=>st hF (g_assign hF rfl) rfl fun a hF=>?_
   refine wpList_nil ?_
   refine tN ?_
   refine wp_ret ?_
   refine tR ?_
   refine fin2 rfl hF.defers (res_tmp hF rfl) (res_tmp hF rfl) ⟨_,rfl,hM.below,?_⟩
   show _=_
   rfl
  ·
   first | rw [decide_eq_false g3] at hF | simp only [decide_eq_false g3] at hF
   refine stY hF rfl rfl rfl (g_loadAgg ty_ag_27 hF rfl (hM.row 1 rfl) (by simp only [fnC_size,cells_size,vecC_size,tabC_size,planeC_size,tenC_size,smC_size,numC_size,numI_size,mrk_size,grpC_size,rowW_size,bolC_size,mri_size,srcC_size,recC_size,recZ_size]<;>omega) (whole (by simp only [fnC_size,cells_size,vecC_size,tabC_size,planeC_size,tenC_size,smC_size,numC_size,numI_size,mrk_size,grpC_size,rowW_size,bolC_size,mri_size,srcC_size,recC_size,recZ_size]))) rfl fun a hF=>?_
   refine stYR hF rfl rfl rfl (d_call Try.call19 hF (.cons rfl .nil) (isG_S m M2 _ hB2)) rfl ?_
   rintro _ w' a ⟨hx,rfl⟩ hF
   have hM:=hM.ext hx
   refine stY hF rfl rfl rfl (g_notP hF rfl) rfl fun a hF=>st hF (g_pickF hF rfl rfl) rfl fun a hF=>?_
   refine wpList_nil ?_
   refine tN ?_
   refine c_cond hF rfl (fun h5=>?_) (fun h5=>?_)
   ·
    refine sq ?_
    refine wp_region_lit ?_
    refine st hF (g_assign hF rfl) rfl fun a hF=>st hF (g_assign hF rfl) rfl fun a hF=>?_
    refine wpList_nil ?_
    refine tN ?_
    refine wp_ret ?_
    refine tR ?_
    refine fin2 rfl hF.defers (res_tmp hF rfl) (res_tmp hF rfl) ⟨_,rfl,hM.below,?_⟩
    show _=_
    rfl
   ·
    exact absurd ⟨by first | assumption | exact Decidable.not_not.1 (by assumption),by first | assumption | exact Decidable.not_not.1 (by assumption)⟩ hc
theorem CountHomIA (n m:Int)(M M2:Nat→Nat→Nat)(w:World)(hB:∀ i j,M i j≤255)(hB2:∀ i j,M2 i j≤255)(hc:¬ (GrpP n M∧GrpP m M2)) :
    CallsR Try.prog 9 #[.agg (grpC n M),.agg (grpC m M2)] w (fun res _=>res = .tuple #[.int .i64 0,.int .i64 1]):=by
  refine calls_fr [.agg (grpC n M),.agg (grpC m M2)] Try.func9 rfl Try.ntmps9 rfl fun a hF=>?_
  have hM:Mem w w [none,none,none] []:=MemX.start w 3
  change Fr 22 a [(0,.agg (grpC n M)),(1,.agg (grpC m M2))] at hF
  refine sq ?_
  refine wp_region_lit ?_
  refine stR hF (d_box 0 hM hF rfl) rfl ?_
  rintro _ w' a ⟨b1,rfl,hM,-⟩ hF
  change Mem w w' [some (b1,grpC n M),none,none] [] at hM
  refine stR hF (d_box 1 hM hF rfl) rfl ?_
  rintro _ w' a ⟨b2,rfl,hM,-⟩ hF
  change Mem w w' [some (b1,grpC n M),some (b2,grpC m M2),none] [] at hM
  refine st hF (g_assign hF rfl) rfl fun a hF=>st hF (g_assign hF rfl) rfl fun a hF=>?_
  refine wpList_nil ?_
  refine tN ?_
  refine sq ?_
  refine sq ?_
  refine wp_region_lit ?_
  refine st hF (g_loadAgg ty_ag_27 hF rfl (hM.row 0 rfl) (by simp only [fnC_size,cells_size,vecC_size,tabC_size,planeC_size,tenC_size,smC_size,numC_size,numI_size,mrk_size,grpC_size,rowW_size,bolC_size,mri_size,srcC_size,recC_size,recZ_size]<;>omega) (whole (by simp only [fnC_size,cells_size,vecC_size,tabC_size,planeC_size,tenC_size,smC_size,numC_size,numI_size,mrk_size,grpC_size,rowW_size,bolC_size,mri_size,srcC_size,recC_size,recZ_size]))) rfl fun a hF=>?_
  refine stR hF (d_call Try.call16 hF (.cons rfl .nil) (isG_I n M _ hB)) rfl ?_
  rintro _ w' a ⟨hx,rfl⟩ hF
  have hM:=hM.ext hx
  refine st hF (g_notP hF rfl) rfl fun a hF=>st hF (g_move hF rfl) rfl fun a hF=>?_
  by_cases g3:¬ (GrpP n M)
  ·
   first | rw [decide_eq_true g3] at hF | simp only [decide_eq_true g3] at hF
   refine stS hF rfl rfl rfl rfl rfl fun a hF=>stS hF rfl rfl rfl rfl rfl fun a hF=>stS hF rfl rfl rfl rfl rfl fun a hF=>st hF (g_pickT hF rfl rfl) rfl fun a hF=>?_
   refine wpList_nil ?_
   refine tN ?_
   refine c_T hF rfl ?_
   refine sq ?_
   refine wp_region_lit ?_
   refine st hF (g_assign hF rfl) rfl fun a hF=>st hF (g_assign hF rfl) rfl fun a hF=>?_
   refine wpList_nil ?_
   refine tN ?_
   refine wp_ret ?_
   refine tR ?_
   refine fin2 rfl hF.defers (res_tmp hF rfl) (res_tmp hF rfl) ⟨_,rfl,hM.below,?_⟩
   show _=_
   rfl
  ·
   first | rw [decide_eq_false g3] at hF | simp only [decide_eq_false g3] at hF
   refine stY hF rfl rfl rfl (g_loadAgg ty_ag_27 hF rfl (hM.row 1 rfl) (by simp only [fnC_size,cells_size,vecC_size,tabC_size,planeC_size,tenC_size,smC_size,numC_size,numI_size,mrk_size,grpC_size,rowW_size,bolC_size,mri_size,srcC_size,recC_size,recZ_size]<;>omega) (whole (by simp only [fnC_size,cells_size,vecC_size,tabC_size,planeC_size,tenC_size,smC_size,numC_size,numI_size,mrk_size,grpC_size,rowW_size,bolC_size,mri_size,srcC_size,recC_size,recZ_size]))) rfl fun a hF=>?_
   refine stYR hF rfl rfl rfl (d_call Try.call16 hF (.cons rfl .nil) (isG_I m M2 _ hB2)) rfl ?_
   rintro _ w' a ⟨hx,rfl⟩ hF
   have hM:=hM.ext hx
   refine stY hF rfl rfl rfl (g_notP hF rfl) rfl fun a hF=>st hF (g_pickF hF rfl rfl) rfl fun a hF=>?_
   refine wpList_nil ?_
   refine tN ?_
   refine c_cond hF rfl (fun h5=>?_) (fun h5=>?_)
   ·
    refine sq ?_
    refine wp_region_lit ?_
    refine st hF (g_assign hF rfl) rfl fun a hF=>st hF (g_assign hF rfl) rfl fun a hF=>?_
    refine wpList_nil ?_
    refine tN ?_
    refine wp_ret ?_
    refine tR ?_
    refine fin2 rfl hF.defers (res_tmp hF rfl) (res_tmp hF rfl) ⟨_,rfl,hM.below,?_⟩
    show _=_
    rfl
   ·
    exact absurd ⟨by first | assumption | exact Decidable.not_not.1 (by assumption),by first | assumption | exact Decidable.not_not.1 (by assumption)⟩ hc
theorem CountHomIG (n m:Nat)(M M2:Nat→Nat→Nat)(w:World)(hn0:0<n)(hn:n≤6)(hm0:0<m)(hm:m≤6)(hB:∀ i j,M i j≤255)(hB2:∀ i j,M2 i j≤255)(hG:TabP n M)(hG2:TabP m M2) :
    CallsR Try.prog 9 #[.agg (grpC (n:Int) M),.agg (grpC (m:Int) M2)] w (fun res _=>res = .tuple #[.int .i64 ((hmF n m M M2 (m ^ n):Nat):Int),.int .i64 0]):=by
  refine Rw.calls_frM [.agg (grpC (n:Int) M),.agg (grpC (m:Int) M2)] Try.func9 rfl Try.ntmps9 rfl fun a hF=>?_
  have hM:Mem w w [none,none,none] []:=MemX.start w 3
  change Fr 22 a [(0,.agg (grpC (n:Int) M)),(1,.agg (grpC (m:Int) M2))] at hF
  have hlg:n≤16:=by omega
  have hpb:=pow_bd hm hlg
  refine sq ?_
  refine wp_region_lit ?_
  refine stR hF (d_box 0 hM hF rfl) rfl ?_
  rintro _ w' a ⟨b1,rfl,hM,-⟩ hF
  change Mem w w' [some (b1,grpC (n:Int) M),none,none] [] at hM
  refine stR hF (d_box 1 hM hF rfl) rfl ?_
  rintro _ w' a ⟨b2,rfl,hM,-⟩ hF
  change Mem w w' [some (b1,grpC (n:Int) M),some (b2,grpC (m:Int) M2),none] [] at hM
  refine st hF (g_assign hF rfl) rfl fun a hF=>st hF (g_assign hF rfl) rfl fun a hF=>?_
  refine wpList_nil ?_
  refine tN ?_
  refine sq ?_
  refine sq ?_
  refine wp_region_lit ?_
  refine st hF (g_loadAgg ty_ag_27 hF rfl (hM.row 0 rfl) (by simp only [fnC_size,cells_size,vecC_size,tabC_size,planeC_size,tenC_size,smC_size,numC_size,numI_size,mrk_size,grpC_size,rowW_size,bolC_size,mri_size,srcC_size,recC_size,recZ_size]<;>omega) (whole (by simp only [fnC_size,cells_size,vecC_size,tabC_size,planeC_size,tenC_size,smC_size,numC_size,numI_size,mrk_size,grpC_size,rowW_size,bolC_size,mri_size,srcC_size,recC_size,recZ_size]))) rfl fun a hF=>?_
  refine stR hF (d_call Try.call16 hF (.cons rfl .nil) ((CallsR.val (isG_I (n:Int) M _ hB) (congrArg Value.bool (decide_eq_true (GrpP.mk hn0 hn hG)))))) rfl ?_
  rintro _ w' a ⟨hx,rfl⟩ hF
  have hM:=hM.ext hx
  refine st hF (g_not (b:=true) hF rfl) rfl fun a hF=>st hF (g_move hF rfl) rfl fun a hF=>stY hF rfl rfl rfl (g_loadAgg ty_ag_27 hF rfl (hM.row 1 rfl) (by simp only [fnC_size,cells_size,vecC_size,tabC_size,planeC_size,tenC_size,smC_size,numC_size,numI_size,mrk_size,grpC_size,rowW_size,bolC_size,mri_size,srcC_size,recC_size,recZ_size]<;>omega) (whole (by simp only [fnC_size,cells_size,vecC_size,tabC_size,planeC_size,tenC_size,smC_size,numC_size,numI_size,mrk_size,grpC_size,rowW_size,bolC_size,mri_size,srcC_size,recC_size,recZ_size]))) rfl fun a hF=>?_
  refine stYR hF rfl rfl rfl (d_call Try.call16 hF (.cons rfl .nil) ((CallsR.val (isG_I (m:Int) M2 _ hB2) (congrArg Value.bool (decide_eq_true (GrpP.mk hm0 hm hG2)))))) rfl ?_
  rintro _ w' a ⟨hx,rfl⟩ hF
  have hM:=hM.ext hx
  refine stY hF rfl rfl rfl (g_not (b:=true) hF rfl) rfl fun a hF=>st hF (g_pickF hF rfl rfl) rfl fun a hF=>?_
  refine wpList_nil ?_
  refine tN ?_
  refine c_Fl hF rfl ?_
  refine wp_skip ?_
  refine tN ?_
  refine sq ?_
  refine wp_region_lit ?_
  refine stR hF (d_alloc 2 hM ty_ze_2) rfl ?_
  rintro _ w' a ⟨b4,rfl,hM,-⟩ hF
  change Mem w w' [some (b1,grpC (n:Int) M),some (b2,grpC (m:Int) M2),some (b4,#[.int .i64 (0)])] [] at hM
  refine stN hF (d_store 2 hM rfl ty_on_2 hF rfl rfl rfl (by first | omega | (simp only [fnC_size,cells_size,vecC_size,tabC_size,planeC_size,tenC_size,smC_size,numC_size,numI_size,mrk_size,grpC_size,rowW_size,bolC_size,mri_size,srcC_size,recC_size,recZ_size]<;>omega) | (simp only [Array.size_setIfInBounds];omega) | simp)) ?_
  intro _ w' a hM hF
  rw [(show (#[.int .i64 (0)]:Array Value).setIfInBounds (0) (.int .i64 (0)) = #[.int .i64 (0)] from rfl)] at hM
  change Mem w w' [some (b1,grpC (n:Int) M),some (b2,grpC (m:Int) M2),some (b4,#[.int .i64 (0)])] [] at hM
  refine wpList_nil ?_
  refine tN ?_
  refine sq ?_
  refine sq ?_
  refine wp_region_lit ?_
  refine st hF (g_loadAgg ty_ag_27 hF rfl (hM.row 0 rfl) (by simp only [fnC_size,cells_size,vecC_size,tabC_size,planeC_size,tenC_size,smC_size,numC_size,numI_size,mrk_size,grpC_size,rowW_size,bolC_size,mri_size,srcC_size,recC_size,recZ_size]<;>omega) (whole (by simp only [fnC_size,cells_size,vecC_size,tabC_size,planeC_size,tenC_size,smC_size,numC_size,numI_size,mrk_size,grpC_size,rowW_size,bolC_size,mri_size,srcC_size,recC_size,recZ_size]))) rfl fun a hF=>st hF (g_loadAgg ty_ag_27 hF rfl (hM.row 1 rfl) (by simp only [fnC_size,cells_size,vecC_size,tabC_size,planeC_size,tenC_size,smC_size,numC_size,numI_size,mrk_size,grpC_size,rowW_size,bolC_size,mri_size,srcC_size,recC_size,recZ_size]<;>omega) (whole (by simp only [fnC_size,cells_size,vecC_size,tabC_size,planeC_size,tenC_size,smC_size,numC_size,numI_size,mrk_size,grpC_size,rowW_size,bolC_size,mri_size,srcC_size,recC_size,recZ_size]))) rfl fun a hF=>?_
  refine stR hF (d_call Try.call22 hF (.cons rfl (.cons rfl .nil)) (homomorphisms_ok n m M M2 _)) rfl ?_
  rintro _ w' a ⟨hx,bg,bh,rfl,hgg,hgh,hcG,hcH⟩ hF
  have hM:=hM.addD (D':=[(bg,grpC (n:Int) M),(bh,grpC (m:Int) M2)]) hx (fun b cs hm=>by
    rcases List.mem_cons.1 hm with e | hm
    · simp only [Prod.mk.injEq] at e;obtain ⟨rfl,rfl⟩:=e;exact ⟨hgg,hcG⟩
    · simp only [List.mem_singleton,Prod.mk.injEq] at hm;obtain ⟨rfl,rfl⟩:=hm;exact ⟨hgh,hcH⟩)
  change Mem w w' [some (b1,grpC (n:Int) M),some (b2,grpC (m:Int) M2),some (b4,#[.int .i64 (0)])] [(bg,grpC (n:Int) M),(bh,grpC (m:Int) M2)] at hM
  refine wpList_nil ?_
  refine tN ?_
  refine wp_block ?_
  have hszR:=hM.bel.size
  have hM:Mem w w' [some (b1,grpC (n:Int) M),some (b2,grpC (m:Int) M2),some (b4,#[.int .i64 (((0):Nat):Int)])] [(bg,grpC (n:Int) M),(bh,grpC (m:Int) M2)]:=hM
  obtain ⟨s1,hs1⟩:∃ z,z=w'.heap.size:=⟨_,rfl⟩
  have hlt:∀ b,b∈Rw.blks [some (b1,grpC (n:Int) M),some (b2,grpC (m:Int) M2),some (b4,#[.int .i64 (((0):Nat):Int)])]→b<s1:=fun b hb=>by obtain ⟨k,cs,hk⟩:=Rw.mem_blks.1 hb;rw [hs1];exact (hM.blk k _ _ hk).2.lt
  refine Rw.c_rangeFnM (N:=hmF n m M M2 (m ^ n)) (arg:=Rw.ArgO) (K:=CapG bg bh n m M M2) hF.defers (hF.eval rfl) Try.call40 (homsIt bg bh n m M M2 hn0 hn hm0 hm hB hB2 hG hG2) ?_ ?_ (fun k W=>Mem w W [some (b1,grpC (n:Int) M),some (b2,grpC (m:Int) M2),some (b4,#[.int .i64 (((k):Nat):Int)])] [(bg,grpC (n:Int) M),(bh,grpC (m:Int) M2)]) (fun _=>False) ?_ ?_ ?_ ?_ hM (fun args a1=>Fr 22 a1 [(0,.agg (grpC (n:Int) M)),(1,.agg (grpC (m:Int) M2)),(2,ptr b1 (0)),(3,ptr b2 (0)),(4,.int .i64 (0)),(5,.int .i64 (0)),(7,.agg (grpC (n:Int) M)),(8,.bool (true)),(9,.bool (false)),(10,.bool (false)),(11,.agg (grpC (m:Int) M2)),(12,.bool (true)),(13,.bool (false)),(14,.bool (false)),(6,ptr b4 (0)),(15,.agg (grpC (n:Int) M)),(16,.agg (grpC (m:Int) M2)),(17,.func (.func 40) #[] #[ptr bh 0,ptr bg 0])]) ?_ ?_ ?_ ?_
  · rintro k A B args ⟨v,rfl⟩;rfl
  · exact fun k A B args l o o' h _ _=>h
  · exact fun _ _ _ h hx=>h.ext hx
  · exact fun _ _ _ _ o' hge h hl hno=>Rw.mem_put h o' hl hno (Nat.le_trans hszR hge)
  · exact fun _ _ _ _ _ h _ _=>h.elim
  · exact fun _ _ h=>⟨h.fzm (by simp),h.fzm (by simp)⟩
  ·
   rintro l k A B args K ⟨v,rfl⟩ hK
   have hF:=Rw.round1 (p:=18) (u:=v) hF rfl
   refine Rw.wp_skip ?_
   refine tN ?_
   exact hK _ (hF.sub _ (by repeat' constructor))
  ·
   rintro l gk A w args a hgk hA hxA ⟨v,rfl⟩ hF
   have hle:=hmF_le (n:=n) (m:=m) (M:=M) (M2:=M2) (k:=m ^ n)
   have hA2:=hA.ext hxA
   have hM:=Rw.rebase hA2
   change MemX (Rw.blks [some (b1,grpC (n:Int) M),some (b2,grpC (m:Int) M2),some (b4,#[.int .i64 (((gk):Nat):Int)])]) w w [some (b1,grpC (n:Int) M),some (b2,grpC (m:Int) M2),some (b4,#[.int .i64 (((gk):Nat):Int)])] [(bg,grpC (n:Int) M),(bh,grpC (m:Int) M2)] at hM
   refine Rw.wp_block ?_
   refine Rw.wp_region_lit ?_
   refine st hF (g_load ty_on_2 hF rfl (hM.row 2 rfl) rfl) rfl fun a hF=>st hF (g_add hF rfl rfl (add_nat ((gk)) (1) (by omega))) rfl fun a hF=>?_
   refine stN hF (d_store 2 hM rfl ty_on_2 hF rfl rfl rfl (by first | omega | (simp only [fnC_size,cells_size,vecC_size,tabC_size,planeC_size,tenC_size,smC_size,numC_size,numI_size,mrk_size,grpC_size,rowW_size,bolC_size,mri_size,srcC_size,recC_size,recZ_size]<;>omega) | (simp only [Array.size_setIfInBounds];omega) | simp)) ?_
   intro _ w' a hM hF
   rw [(show (#[.int .i64 (((gk):Nat):Int)]:Array Value).setIfInBounds (0) (.int .i64 ((((gk)+1:Nat):Int))) = #[.int .i64 ((((gk)+1:Nat):Int))] from rfl)] at hM
   change MemX (Rw.blks [some (b1,grpC (n:Int) M),some (b2,grpC (m:Int) M2),some (b4,#[.int .i64 (((gk):Nat):Int)])]) w w' [some (b1,grpC (n:Int) M),some (b2,grpC (m:Int) M2),some (b4,#[.int .i64 ((((gk)+1:Nat):Int))])] [(bg,grpC (n:Int) M),(bh,grpC (m:Int) M2)] at hM
   refine wpList_nil ?_
   refine iN ?_
   rw [← hs1]
   exact ⟨Rw.KeepG.of_extX hM.bel (fun b hb=>hlt b hb),Rw.unbase hA2 hM (fun x hx=>hx)⟩
  ·
   intro D0 w hgD hM0 hD0
   rw [Rw.addD_mark hF]
   have hM:=Rw.rebase hM0
   change MemX (Rw.blks [some (b1,grpC (n:Int) M),some (b2,grpC (m:Int) M2),some (b4,#[.int .i64 (((hmF n m M M2 (m ^ n)):Nat):Int)])]) w w [some (b1,grpC (n:Int) M),some (b2,grpC (m:Int) M2),some (b4,#[.int .i64 (((hmF n m M M2 (m ^ n)):Nat):Int)])] [(bg,grpC (n:Int) M),(bh,grpC (m:Int) M2)] at hM
   refine iN ?_
   refine tN ?_
   refine sq ?_
   refine wp_regionD ?_
   refine st hF (g_load ty_on_2 hF rfl (hM.row 2 rfl) rfl) rfl fun a hF=>st hF (g_assign hF rfl) rfl fun a hF=>st hF (g_assign hF rfl) rfl fun a hF=>?_
   refine wpList_nil ?_
   refine tN ?_
   refine wp_ret ?_
   have hMu:=Rw.unbase hM0 hM (fun x hx=>hx)
   have hD1:=Rw.keeps hM0 hM _ _ hD0 (fun _ _ e=>by cases e)
   have hMD:=Rw.mem_put (o:=.deferred (some [])) hMu (.deferred none) hD1 (fun _ _ e=>by cases e) (Nat.le_trans hszR hgD)
   refine Rw.fin2K rfl hF.defers hD1 (res_tmp hF rfl) (res_tmp hF rfl) ⟨_,rfl,hMD.below,?_⟩
   rfl
  · exact fun _ _ _ h _=>h.elim
theorem fnI_set {f:Nat→Nat}{o i v:Nat}(h:o=i):(fnC 6 (fun c=>.int .i64 ((f c:Nat):Int))).setIfInBounds o (.int .i64 ((v:Nat):Int))=fnC 6 (fun c=>.int .i64 ((if c=i then v else f c:Nat):Int)):=by
  subst h
  exact fnC_set fun c _=>by by_cases e:c=o<;>simp [e]
def dgP (m k x c:Nat):Nat:=if c<x then digL m k c else 0
theorem dgP_lt {m k x c:Nat}(hm:0<m):dgP m k x c<m:=by unfold dgP;split;exact digL_lt hm;exact hm
theorem dgP_in {m k x c:Nat}(h:c<x):dgP m k x c=digL m k c:=if_pos h
theorem dgP_s {m k x c:Nat}:(if c=x then digL m k x else dgP m k x c)=dgP m k (x+1) c:=by
  unfold dgP
  by_cases e:c=x
  · rw [if_pos e,if_pos (by omega),e]
  · rw [if_neg e]
    by_cases h:c<x
    · rw [if_pos h,if_pos (by omega)]
    · rw [if_neg h,if_neg (by omega)]
def rowH (n m:Nat) (M M2:Nat→Nat→Nat) (d:Nat→Nat) (i:Nat):Prop:=∀ j,j<n→d (M i j)=M2 (d i) (d j)
theorem step_all {b b':Bool}{k:Nat}{Q:Nat→Prop}(hb:b=true)(h:b=true↔∀ i,i<k→Q i)(h':b'=true↔Q k):b'=true↔∀ i,i<k+1→Q i:=by
  rw [h']
  constructor
  · intro q i hi
    by_cases e:i=k
    · rw [e];exact q
    · exact h.1 hb i (by omega)
  · intro q;exact q k (by omega)
theorem end_no {b:Bool}{k n:Nat}{Q:Nat→Prop}(hk:k≤n)(hb:b=false)(h:b=true↔∀ i,i<k→Q i):b=true↔∀ i,i<n→Q i:=by
  subst hb
  constructor
  · intro q;cases q
  · intro q;exact h.2 fun i hi=>q i (by omega)
theorem end_yes {b:Bool}{k n:Nat}{Q:Nat→Prop}(hk:k=n)(h:b=true↔∀ i,i<k→Q i):b=true↔∀ i,i<n→Q i:=by subst hk;exact h
theorem hom_dg {n m k:Nat}{M M2:Nat→Nat→Nat}(hM:∀ i j,i<n→j<n→M i j<n):homP n M M2 (dgP m k n)↔homP n M M2 (digL m k):=by
  rw [← homB_iff,← homB_iff,homB_congr hM (fun i hi=>dgP_in hi)]
set_option maxRecDepth 100000 in
theorem CountHomSG (n m:Nat)(M M2:Nat→Nat→Nat)(w:World)(hn0:0<n)(hn:n≤6)(hm0:0<m)(hm:m≤6)(hB:∀ i j,M i j≤255)(hB2:∀ i j,M2 i j≤255)(hG:TabP n M)(hG2:TabP m M2) :
    CallsR Try.prog 10 #[.agg (grpC (n:Int) M),.agg (grpC (m:Int) M2)] w (fun res _=>res = .tuple #[.int .i64 ((hmF n m M M2 (m ^ n):Nat):Int),.int .i64 0]):=by
  refine calls_fr [.agg (grpC (n:Int) M),.agg (grpC (m:Int) M2)] Try.func10 rfl Try.ntmps10 rfl fun a hF=>?_
  have hM:Mem w w [none,none,none] []:=MemX.start w 3
  change Fr 99 a [(0,.agg (grpC (n:Int) M)),(1,.agg (grpC (m:Int) M2))] at hF
  have hlg:n≤16:=by omega
  have hpb:=pow_bd hm hlg
  have z0:∀ i j,i<n→j<n→M i j<n:=fun i j q1 q2=>hG.lt (by omega) (by omega)
  refine sq ?_
  refine wp_region_lit ?_
  refine stR hF (d_box 0 hM hF rfl) rfl ?_
  rintro _ w' a ⟨b1,rfl,hM,-⟩ hF
  change Mem w w' [some (b1,grpC (n:Int) M),none,none] [] at hM
  refine stR hF (d_box 1 hM hF rfl) rfl ?_
  rintro _ w' a ⟨b2,rfl,hM,-⟩ hF
  change Mem w w' [some (b1,grpC (n:Int) M),some (b2,grpC (m:Int) M2),none] [] at hM
  refine st hF (g_assign hF rfl) rfl fun a hF=>st hF (g_assign hF rfl) rfl fun a hF=>?_
  refine wpList_nil ?_
  refine tN ?_
  refine sq ?_
  refine sq ?_
  refine wp_region_lit ?_
  refine st hF (g_loadAgg ty_ag_27 hF rfl (hM.row 0 rfl) (by simp only [fnC_size,cells_size,vecC_size,tabC_size,planeC_size,tenC_size,smC_size,numC_size,numI_size,mrk_size,grpC_size,rowW_size,bolC_size,mri_size,srcC_size,recC_size,recZ_size]<;>omega) (whole (by simp only [fnC_size,cells_size,vecC_size,tabC_size,planeC_size,tenC_size,smC_size,numC_size,numI_size,mrk_size,grpC_size,rowW_size,bolC_size,mri_size,srcC_size,recC_size,recZ_size]))) rfl fun a hF=>?_
  refine stR hF (d_call Try.call19 hF (.cons rfl .nil) ((CallsR.val (isG_S (n:Int) M _ hB) (congrArg Value.bool (decide_eq_true (GrpP.mk hn0 hn hG)))))) rfl ?_
  rintro _ w' a ⟨hx,rfl⟩ hF
  have hM:=hM.ext hx
  refine st hF (g_not (b:=true) hF rfl) rfl fun a hF=>st hF (g_move hF rfl) rfl fun a hF=>stY hF rfl rfl rfl (g_loadAgg ty_ag_27 hF rfl (hM.row 1 rfl) (by simp only [fnC_size,cells_size,vecC_size,tabC_size,planeC_size,tenC_size,smC_size,numC_size,numI_size,mrk_size,grpC_size,rowW_size,bolC_size,mri_size,srcC_size,recC_size,recZ_size]<;>omega) (whole (by simp only [fnC_size,cells_size,vecC_size,tabC_size,planeC_size,tenC_size,smC_size,numC_size,numI_size,mrk_size,grpC_size,rowW_size,bolC_size,mri_size,srcC_size,recC_size,recZ_size]))) rfl fun a hF=>?_
  refine stYR hF rfl rfl rfl (d_call Try.call19 hF (.cons rfl .nil) ((CallsR.val (isG_S (m:Int) M2 _ hB2) (congrArg Value.bool (decide_eq_true (GrpP.mk hm0 hm hG2)))))) rfl ?_
  rintro _ w' a ⟨hx,rfl⟩ hF
  have hM:=hM.ext hx
  refine stY hF rfl rfl rfl (g_not (b:=true) hF rfl) rfl fun a hF=>st hF (g_pickF hF rfl rfl) rfl fun a hF=>?_
  refine wpList_nil ?_
  refine tN ?_
  refine c_Fl hF rfl ?_
  refine wp_skip ?_
  refine tN ?_
  refine sq ?_
  refine wp_region_lit ?_
  refine st hF (g_assign hF rfl) rfl fun a hF=>st hF (g_assign hF rfl) rfl fun a hF=>?_
  refine wpList_nil ?_
  refine tN ?_
  refine sq ?_
  refine sq ?_
  refine wp_region_lit ?_
  refine st hF (g_assign hF rfl) rfl fun a hF=>?_
  refine wpList_nil ?_
  refine tN ?_
  refine wp_block ?_
  change Mem w _ [some (b1,grpC (n:Int) M),some (b2,grpC (m:Int) M2),none] [] at hM
  refine c_loop (fun (kk:Nat) a w'=>kk≤n∧(True)∧Fr 99 a [(2,ptr b1 (0)),(3,ptr b2 (0)),(4,.int .i64 (0)),(5,.int .i64 (0)),(23,.bool (false)),(7,.int .i64 (0)),(8,.int .i64 (((kk:Nat):Int))),(6,.int .i64 (((m ^ kk:Nat):Int)))]∧Mem w w' [some (b1,grpC (n:Int) M),some (b2,grpC (m:Int) M2),none] []) (fun kk=>n - kk) 0 ?_ ?_
  ·
   refine ⟨by omega,trivial,hF.sub _ (by repeat' constructor),?_⟩
   exact hM
  ·
   clear hF hM
   rintro gq a w' ⟨hgq,hinv1,hF,hM⟩
   have hpq:m ^ gq≤2821109907456:=Nat.le_trans (Nat.pow_le_pow_right hm0 hgq) (by omega)
   have hpq2:m ^ gq*m≤2821109907456*6:=Nat.mul_le_mul hpq hm
   refine sq ?_
   refine sq ?_
   refine wp_region_lit ?_
   refine st hF (g_move hF rfl) rfl fun a hF=>st hF (g_fieldAddr ty_fo_27_0 hF rfl) rfl fun a hF=>st hF (g_load ty_on_2 hF rfl (hM.row 0 rfl) (grpC_n (by omega))) rfl fun a hF=>st hF (g_lss hF rfl rfl) rfl fun a hF=>?_
   refine wpList_nil ?_
   refine tN ?_
   refine c_cond hF rfl (fun h4=>?_) (fun h4=>?_)
   ·
    refine wp_skip ?_
    refine tN ?_
    refine sq ?_
    refine wp_block ?_
    refine wp_region_lit ?_
    refine st hF (g_move hF rfl) rfl fun a hF=>st hF (g_fieldAddr ty_fo_27_0 hF rfl) rfl fun a hF=>st hF (g_load ty_on_2 hF rfl (hM.row 1 rfl) (grpC_n (by omega))) rfl fun a hF=>st hF (g_mul hF rfl rfl (mul_nat (m ^ gq) (m) (by omega))) rfl fun a hF=>st hF (g_assign hF rfl) rfl fun a hF=>?_
    refine wpList_nil ?_
    refine iN ?_
    refine tN ?_
    refine wp_region_lit ?_
    refine st hF (g_move hF rfl) rfl fun a hF=>st hF (g_add hF rfl rfl (add_nat (gq) (1) (by omega))) rfl fun a hF=>st hF (g_assign hF rfl) rfl fun a hF=>?_
    refine wpList_nil ?_
    refine tN ?_
    rw [show m ^ gq*m=m ^ (gq+1) from rfl] at hF
    refine ⟨gq+1,⟨by omega,trivial,hF.sub _ (by repeat' constructor),?_⟩,by omega⟩
    exact hM
   ·
    obtain rfl:n=gq:=by omega
    refine wp_exit ?_
    refine tX ?_
    refine tX ?_
    refine ib_same ?_
    refine tN ?_
    refine sq ?_
    refine sq ?_
    refine wp_region_lit ?_
    refine st hF (g_assign hF rfl) rfl fun a hF=>?_
    refine wpList_nil ?_
    refine tN ?_
    refine wp_block ?_
    change Mem w _ [some (b1,grpC (n:Int) M),some (b2,grpC (m:Int) M2),none] [] at hM
    refine c_loop (fun (kk:Nat) a w'=>kk≤m ^ n∧(True)∧Fr 99 a [(2,ptr b1 (0)),(3,ptr b2 (0)),(4,.int .i64 (0)),(5,.int .i64 (0)),(23,.bool (false)),(8,.int .i64 (((n:Nat):Int))),(6,.int .i64 (((m ^ n:Nat):Int))),(24,.int .i64 (((n:Nat):Int))),(25,ptr b1 (0+0)),(26,.int .i64 (((n:Nat):Int))),(27,.bool (decide ((((n:Nat):Int):Int)<((n:Nat):Int)))),(9,.int .i64 (((kk:Nat):Int))),(7,.int .i64 (((hmL n m M M2 kk:Nat):Int)))]∧Mem w w' [some (b1,grpC (n:Int) M),some (b2,grpC (m:Int) M2),none] []) (fun kk=>m ^ n - kk) 0 ?_ ?_
    ·
     refine ⟨by omega,trivial,hF.sub _ (by repeat' constructor),?_⟩
     exact hM
    ·
     clear hF hM
     rintro gc a w' ⟨hgc,hinv2,hF,hM⟩
     have hle:=hmL_le (n:=n) (m:=m) (M:=M) (M2:=M2) (k:=gc)
     refine sq ?_
     refine sq ?_
     refine wp_region_lit ?_
     refine st hF (g_move hF rfl) rfl fun a hF=>st hF (g_move hF rfl) rfl fun a hF=>st hF (g_lss hF rfl rfl) rfl fun a hF=>?_
     refine wpList_nil ?_
     refine tN ?_
     refine c_cond hF rfl (fun h5=>?_) (fun h5=>?_)
     ·
      refine wp_skip ?_
      refine tN ?_
      refine sq ?_
      refine wp_block ?_
      refine sq ?_
      refine wp_region_lit ?_
      refine st hF (g_build0 ty_bu_49) rfl fun a hF=>st hF (g_move hF rfl) rfl fun a hF=>?_
      refine stR hF (d_alloc 2 hM ty_ze_49) rfl ?_
      rintro _ w' a ⟨b6,rfl,hM,-⟩ hF
      change Mem w w' [some (b1,grpC (n:Int) M),some (b2,grpC (m:Int) M2),some (b6,fnC 6 (fun _=>.int .i64 (0)))] [] at hM
      refine stN hF (d_storeAgg 2 hM rfl ty_sz_49 hF rfl rfl (by first | exact vecC_one | exact cells_one | (refine fnC_one fun _ _=>?_;first | rfl | (split<;>rfl))) (by simp only [fnC_size,cells_size,vecC_size,tabC_size,planeC_size,tenC_size,smC_size,numC_size,numI_size,mrk_size,grpC_size,rowW_size,bolC_size,mri_size,srcC_size,recC_size,recZ_size]) (by simp only [fnC_size,cells_size,vecC_size,tabC_size,planeC_size,tenC_size,smC_size,numC_size,numI_size,mrk_size,grpC_size,rowW_size,bolC_size,mri_size,srcC_size,recC_size,recZ_size]<;>omega) (splice_whole _ _ (by simp only [fnC_size,cells_size,vecC_size,tabC_size,planeC_size,tenC_size,smC_size,numC_size,numI_size,mrk_size,grpC_size,rowW_size,bolC_size,mri_size,srcC_size,recC_size,recZ_size]))) ?_
      intro _ w' a hM hF
      change Mem w w' [some (b1,grpC (n:Int) M),some (b2,grpC (m:Int) M2),some (b6,fnC 6 (fun _=>.int .i64 (0)))] [] at hM
      refine st hF (g_assign hF rfl) rfl fun a hF=>?_
      refine wpList_nil ?_
      refine tN ?_
      refine sq ?_
      refine sq ?_
      refine wp_region_lit ?_
      refine st hF (g_assign hF rfl) rfl fun a hF=>?_
      refine wpList_nil ?_
      refine tN ?_
      refine wp_block ?_
      change Mem w _ [some (b1,grpC (n:Int) M),some (b2,grpC (m:Int) M2),some (b6,fnC 6 (fun _=>.int .i64 (0)))] [] at hM
      refine c_loop (fun (kk:Nat) a w'=>kk≤n∧∃ (rr:Nat),(rr=gc / m ^ kk)∧Fr 99 a [(2,ptr b1 (0)),(3,ptr b2 (0)),(4,.int .i64 (0)),(5,.int .i64 (0)),(23,.bool (false)),(8,.int .i64 (((n:Nat):Int))),(6,.int .i64 (((m ^ n:Nat):Int))),(24,.int .i64 (((n:Nat):Int))),(25,ptr b1 (0+0)),(26,.int .i64 (((n:Nat):Int))),(27,.bool (decide ((((n:Nat):Int):Int)<((n:Nat):Int)))),(9,.int .i64 (((gc:Nat):Int))),(7,.int .i64 (((hmL n m M M2 gc:Nat):Int))),(34,.int .i64 (((gc:Nat):Int))),(35,.int .i64 (((m ^ n:Nat):Int))),(36,.bool (decide ((((gc:Nat):Int):Int)<((m ^ n:Nat):Int)))),(39,.agg (fnC 6 (fun _=>.int .i64 (0)))),(40,.int .i64 (((gc:Nat):Int))),(10,ptr b6 (0)),(12,.int .i64 (((kk:Nat):Int))),(11,.int .i64 (((rr:Nat):Int)))]∧Mem w w' [some (b1,grpC (n:Int) M),some (b2,grpC (m:Int) M2),some (b6,fnC 6 (fun c=>.int .i64 ((dgP m gc (kk) c:Nat):Int)))] []) (fun kk=>n - kk) 0 ?_ ?_
      ·
       refine ⟨by omega,gc,by rw [Nat.pow_zero,Nat.div_one],hF.sub _ (by repeat' constructor),?_⟩
       exact hM.rowc 2 rfl (fnC_congr fun c hc=>congrArg (Value.int .i64) (congrArg Nat.cast (if_neg (by omega)).symm))
      ·
       clear hF hM
       rintro gk a w' ⟨hgk,rr,hinv3,hF,hM⟩
       have hrr:rr≤gc:=by rw [hinv3];exact Nat.div_le_self _ _
       have hrs:=Nat.div_le_self rr m
       refine sq ?_
       refine sq ?_
       refine wp_region_lit ?_
       refine st hF (g_move hF rfl) rfl fun a hF=>st hF (g_fieldAddr ty_fo_27_0 hF rfl) rfl fun a hF=>st hF (g_load ty_on_2 hF rfl (hM.row 0 rfl) (grpC_n (by omega))) rfl fun a hF=>st hF (g_lss hF rfl rfl) rfl fun a hF=>?_
       refine wpList_nil ?_
       refine tN ?_
       refine c_cond hF rfl (fun h7=>?_) (fun h7=>?_)
       ·
        refine wp_skip ?_
        refine tN ?_
        refine sq ?_
        refine wp_block ?_
        refine sq ?_
        refine wp_region_lit ?_
        refine st hF (g_move hF rfl) rfl fun a hF=>st hF (g_move hF rfl) rfl fun a hF=>st hF (g_fieldAddr ty_fo_27_0 hF rfl) rfl fun a hF=>st hF (g_load ty_on_2 hF rfl (hM.row 1 rfl) (grpC_n (by omega))) rfl fun a hF=>st hF (g_rem hF rfl rfl (by omega) (rem_nat (rr) (m))) rfl fun a hF=>st hF (g_indexAddr ty_ar_49 hF rfl rfl rfl (by omega)) rfl fun a hF=>?_
        refine stN hF (d_store 2 hM rfl ty_on_2 hF rfl rfl rfl (by first | omega | (simp only [fnC_size,cells_size,vecC_size,tabC_size,planeC_size,tenC_size,smC_size,numC_size,numI_size,mrk_size,grpC_size,rowW_size,bolC_size,mri_size,srcC_size,recC_size,recZ_size]<;>omega) | (simp only [Array.size_setIfInBounds];omega) | simp)) ?_
        intro _ w' a hM hF
        rw [(fnI_set (i:=gk) (by omega))] at hM
        change Mem w w' [some (b1,grpC (n:Int) M),some (b2,grpC (m:Int) M2),some (b6,fnC 6 (fun c=>.int .i64 ((if c=gk then (rr)%(m) else dgP m gc (gk) c:Nat):Int)))] [] at hM
        refine wpList_nil ?_
        refine tN ?_
        refine wp_region_lit ?_
        refine st hF (g_move hF rfl) rfl fun a hF=>st hF (g_fieldAddr ty_fo_27_0 hF rfl) rfl fun a hF=>st hF (g_load ty_on_2 hF rfl (hM.row 1 rfl) (grpC_n (by omega))) rfl fun a hF=>st hF (g_quo hF rfl rfl (by omega) (quo_nat (rr) (m) (by omega))) rfl fun a hF=>st hF (g_assign hF rfl) rfl fun a hF=>?_
        refine wpList_nil ?_
        refine iN ?_
        refine tN ?_
        refine wp_region_lit ?_
        refine st hF (g_move hF rfl) rfl fun a hF=>st hF (g_add hF rfl rfl (add_nat (gk) (1) (by omega))) rfl fun a hF=>st hF (g_assign hF rfl) rfl fun a hF=>?_
        refine wpList_nil ?_
        refine tN ?_
        refine ⟨gk+1,⟨by omega,(rr / m),by rw [hinv3];exact Rw.div_step,hF.sub _ (by repeat' constructor),?_⟩,by omega⟩
        exact hM.rowc 2 rfl (fnC_congr fun c hc=>congrArg (Value.int .i64) (congrArg Nat.cast (by rw [hinv3];exact dgP_s)))
       ·
        obtain rfl:n=gk:=by omega
        refine wp_exit ?_
        refine tX ?_
        refine tX ?_
        refine ib_same ?_
        refine tN ?_
        refine sq ?_
        refine wp_region_lit ?_
        refine st hF (g_assign hF rfl) rfl fun a hF=>?_
        refine wpList_nil ?_
        refine tN ?_
        refine sq ?_
        refine sq ?_
        refine wp_region_lit ?_
        refine st hF (g_assign hF rfl) rfl fun a hF=>?_
        refine wpList_nil ?_
        refine tN ?_
        refine wp_block ?_
        change Mem w _ [some (b1,grpC (n:Int) M),some (b2,grpC (m:Int) M2),some (b6,fnC 6 (fun c=>.int .i64 ((dgP m gc (n) c:Nat):Int)))] [] at hM
        refine c_loop (fun (kk:Nat) a w'=>kk≤n∧∃ (bo:Bool),(bo=true↔∀ i,i<kk→rowH n m M M2 (dgP m gc n) i)∧Fr 99 a [(2,ptr b1 (0)),(3,ptr b2 (0)),(4,.int .i64 (0)),(5,.int .i64 (0)),(23,.bool (false)),(8,.int .i64 (((n:Nat):Int))),(6,.int .i64 (((m ^ n:Nat):Int))),(24,.int .i64 (((n:Nat):Int))),(25,ptr b1 (0+0)),(26,.int .i64 (((n:Nat):Int))),(27,.bool (decide ((((n:Nat):Int):Int)<((n:Nat):Int)))),(9,.int .i64 (((gc:Nat):Int))),(7,.int .i64 (((hmL n m M M2 gc:Nat):Int))),(34,.int .i64 (((gc:Nat):Int))),(35,.int .i64 (((m ^ n:Nat):Int))),(36,.bool (decide ((((gc:Nat):Int):Int)<((m ^ n:Nat):Int)))),(39,.agg (fnC 6 (fun _=>.int .i64 (0)))),(40,.int .i64 (((gc:Nat):Int))),(10,ptr b6 (0)),(12,.int .i64 (((n:Nat):Int))),(11,.int .i64 (((rr:Nat):Int))),(41,.int .i64 (((n:Nat):Int))),(42,ptr b1 (0+0)),(43,.int .i64 (((n:Nat):Int))),(44,.bool (decide ((((n:Nat):Int):Int)<((n:Nat):Int)))),(14,.int .i64 (((kk:Nat):Int))),(13,.bool (bo))]∧Mem w w' [some (b1,grpC (n:Int) M),some (b2,grpC (m:Int) M2),some (b6,fnC 6 (fun c=>.int .i64 ((dgP m gc (n) c:Nat):Int)))] []) (fun kk=>n - kk) 0 ?_ ?_
        ·
         refine ⟨by omega,true,⟨fun _ i hi=>absurd hi (by omega),fun _=>rfl⟩,hF.sub _ (by repeat' constructor),?_⟩
         exact hM
        ·
         clear hF hM
         rintro gi a w' ⟨hgi,bo,hb1,hF,hM⟩
         refine sq ?_
         refine sq ?_
         refine wp_region_lit ?_
         refine st hF (g_move hF rfl) rfl fun a hF=>st hF (g_fieldAddr ty_fo_27_0 hF rfl) rfl fun a hF=>st hF (g_load ty_on_2 hF rfl (hM.row 0 rfl) (grpC_n (by omega))) rfl fun a hF=>st hF (g_lss hF rfl rfl) rfl fun a hF=>st hF (g_move hF rfl) rfl fun a hF=>?_
         by_cases g8:(((gi:Nat):Int):Int)<((n:Nat):Int)
         ·
          first | rw [decide_eq_true g8] at hF | simp only [decide_eq_true g8] at hF
          refine stY hF rfl rfl rfl (g_move hF rfl) rfl fun a hF=>st hF (g_pickT hF rfl rfl) rfl fun a hF=>?_
          refine wpList_nil ?_
          refine tN ?_
          refine c_condB hF rfl (fun h9=>?_) (fun h9=>?_)
          ·
           refine wp_skip ?_
           refine tN ?_
           refine sq ?_
           refine wp_block ?_
           refine sq ?_
           refine wp_region_lit ?_
           refine st hF (g_assign hF rfl) rfl fun a hF=>?_
           refine wpList_nil ?_
           refine tN ?_
           refine wp_block ?_
           change Mem w _ [some (b1,grpC (n:Int) M),some (b2,grpC (m:Int) M2),some (b6,fnC 6 (fun c=>.int .i64 ((dgP m gc (n) c:Nat):Int)))] [] at hM
           refine c_loop (fun (kk:Nat) a w'=>kk≤n∧∃ (bp:Bool),(bp=true↔∀ j,j<kk→dgP m gc n (M gi j)=M2 (dgP m gc n gi) (dgP m gc n j))∧Fr 99 a [(2,ptr b1 (0)),(3,ptr b2 (0)),(4,.int .i64 (0)),(5,.int .i64 (0)),(23,.bool (false)),(8,.int .i64 (((n:Nat):Int))),(6,.int .i64 (((m ^ n:Nat):Int))),(24,.int .i64 (((n:Nat):Int))),(25,ptr b1 (0+0)),(26,.int .i64 (((n:Nat):Int))),(27,.bool (decide ((((n:Nat):Int):Int)<((n:Nat):Int)))),(9,.int .i64 (((gc:Nat):Int))),(7,.int .i64 (((hmL n m M M2 gc:Nat):Int))),(34,.int .i64 (((gc:Nat):Int))),(35,.int .i64 (((m ^ n:Nat):Int))),(36,.bool (decide ((((gc:Nat):Int):Int)<((m ^ n:Nat):Int)))),(39,.agg (fnC 6 (fun _=>.int .i64 (0)))),(40,.int .i64 (((gc:Nat):Int))),(10,ptr b6 (0)),(12,.int .i64 (((n:Nat):Int))),(11,.int .i64 (((rr:Nat):Int))),(41,.int .i64 (((n:Nat):Int))),(42,ptr b1 (0+0)),(43,.int .i64 (((n:Nat):Int))),(44,.bool (decide ((((n:Nat):Int):Int)<((n:Nat):Int)))),(14,.int .i64 (((gi:Nat):Int))),(57,.int .i64 (((gi:Nat):Int))),(58,ptr b1 (0+0)),(59,.int .i64 (((n:Nat):Int))),(60,.bool (true)),(61,.bool (true)),(62,.bool (bo)),(63,.bool (bo)),(15,.int .i64 (((kk:Nat):Int))),(13,.bool (bp))]∧Mem w w' [some (b1,grpC (n:Int) M),some (b2,grpC (m:Int) M2),some (b6,fnC 6 (fun c=>.int .i64 ((dgP m gc (n) c:Nat):Int)))] []) (fun kk=>n - kk) 0 ?_ ?_
           ·
            refine ⟨by omega,bo,⟨fun _ i hi=>absurd hi (by omega),fun _=>by assumption⟩,hF.sub _ (by repeat' constructor),?_⟩
            exact hM
           ·
            clear hF hM
            rintro gj a w' ⟨hgj,bp,hb2,hF,hM⟩
            have z1:=dgP_lt (k:=gc) (x:=n) (c:=gi) hm0
            have z2:=dgP_lt (k:=gc) (x:=n) (c:=gj) hm0
            have z3:gj<n→M gi gj<n:=fun q=>z0 gi gj (by omega) q
            have z4:=hB2 (dgP m gc n gi) (dgP m gc n gj)
            have z5:=dgP_lt (k:=gc) (x:=n) (c:=M gi gj) hm0
            refine sq ?_
            refine sq ?_
            refine wp_region_lit ?_
            refine st hF (g_move hF rfl) rfl fun a hF=>st hF (g_fieldAddr ty_fo_27_0 hF rfl) rfl fun a hF=>st hF (g_load ty_on_2 hF rfl (hM.row 0 rfl) (grpC_n (by omega))) rfl fun a hF=>st hF (g_lss hF rfl rfl) rfl fun a hF=>st hF (g_move hF rfl) rfl fun a hF=>?_
            by_cases g10:(((gj:Nat):Int):Int)<((n:Nat):Int)
            ·
             first | rw [decide_eq_true g10] at hF | simp only [decide_eq_true g10] at hF
             refine stY hF rfl rfl rfl (g_move hF rfl) rfl fun a hF=>st hF (g_pickT hF rfl rfl) rfl fun a hF=>?_
             refine wpList_nil ?_
             refine tN ?_
             refine c_condB hF rfl (fun h11=>?_) (fun h11=>?_)
             ·
              refine wp_skip ?_
              refine tN ?_
              refine sq ?_
              refine wp_block ?_
              refine c_par 19 [] [.val (.int .i64 (((gi:Nat):Int))),.val (.int .i64 (((gj:Nat):Int))),.val (ptr b1 (0+1)),.val (ptr b1 (0+1+(gi)*6)),.val (ptr b1 (0+1+(gi)*6+(gj)*1)),.val (.int .u8 (((M (gi) (gj):Nat):Int))),.val (ptr b6 (0+(M (gi) (gj))*1)),.val (.int .i64 (((dgP m gc (n) (M (gi) (gj)):Nat):Int))),.val (.int .i64 (((gi:Nat):Int))),.val (ptr b6 (0+(gi)*1)),.val (.int .i64 (((dgP m gc (n) (gi):Nat):Int))),.val (.int .i64 (((gj:Nat):Int))),.val (ptr b6 (0+(gj)*1)),.val (.int .i64 (((dgP m gc (n) (gj):Nat):Int))),.val (ptr b2 (0+1)),.val (ptr b2 (0+1+(dgP m gc (n) (gi))*6)),.val (ptr b2 (0+1+(dgP m gc (n) (gi))*6+(dgP m gc (n) (gj))*1)),.val (.int .u8 (((M2 (dgP m gc (n) (gi)) (dgP m gc (n) (gj)):Nat):Int))),.val (.int .i64 (((M2 (dgP m gc (n) (gi)) (dgP m gc (n) (gj)):Nat):Int)))] hmix rfl hF rfl hM ⟨fun a w gG hF hS hd=>by exact par_val hS rfl (g_move hF rfl),fun a w gG hF hS hd=>by exact par_val hS rfl (g_move hF rfl),fun a w gG hF hS hd=>by exact par_val hS rfl (g_fieldAddr ty_fo_27_1 hF rfl),fun a w gG hF hS hd=>by have hF:=hF.ext1 75 (hd 0 rfl rfl);have hF:=hF.ext1 77 (hd 2 rfl rfl);exact par_val hS rfl (g_indexAddr ty_ar_25 hF rfl rfl rfl (by omega)),fun a w gG hF hS hd=>by have hF:=hF.ext1 76 (hd 1 rfl rfl);have hF:=hF.ext1 78 (hd 3 rfl rfl);exact par_val hS rfl (g_indexAddr ty_ar_24 hF rfl rfl rfl (by omega)),fun a w gG hF hS hd=>by have hF:=hF.ext1 79 (hd 4 rfl rfl);have hM:=hS.mem rfl;exact par_val hS rfl (g_load ty_on_5 hF rfl (hM.row 0 rfl) (grpC_M (gi) (gj) (by omega) (by omega) (by omega))),fun a w gG hF hS hd=>by have hF:=hF.ext1 80 (hd 5 rfl rfl);exact par_val hS rfl (g_indexAddr ty_ar_49 hF rfl rfl rfl (by omega)),fun a w gG hF hS hd=>by have hF:=hF.ext1 81 (hd 6 rfl rfl);have hM:=hS.mem rfl;exact par_val hS rfl (g_load ty_on_2 hF rfl (hM.row 2 rfl) (fnC_getE (M (gi) (gj)) (by omega) (by omega) rfl)),fun a w gG hF hS hd=>by exact par_val hS rfl (g_move hF rfl),fun a w gG hF hS hd=>by have hF:=hF.ext1 83 (hd 8 rfl rfl);exact par_val hS rfl (g_indexAddr ty_ar_49 hF rfl rfl rfl (by omega)),fun a w gG hF hS hd=>by have hF:=hF.ext1 84 (hd 9 rfl rfl);have hM:=hS.mem rfl;exact par_val hS rfl (g_load ty_on_2 hF rfl (hM.row 2 rfl) (fnC_getE (gi) (by omega) (by omega) rfl)),fun a w gG hF hS hd=>by exact par_val hS rfl (g_move hF rfl),fun a w gG hF hS hd=>by have hF:=hF.ext1 86 (hd 11 rfl rfl);exact par_val hS rfl (g_indexAddr ty_ar_49 hF rfl rfl rfl (by omega)),fun a w gG hF hS hd=>by have hF:=hF.ext1 87 (hd 12 rfl rfl);have hM:=hS.mem rfl;exact par_val hS rfl (g_load ty_on_2 hF rfl (hM.row 2 rfl) (fnC_getE (gj) (by omega) (by omega) rfl)),fun a w gG hF hS hd=>by exact par_val hS rfl (g_fieldAddr ty_fo_27_1 hF rfl),fun a w gG hF hS hd=>by have hF:=hF.ext1 85 (hd 10 rfl rfl);have hF:=hF.ext1 89 (hd 14 rfl rfl);exact par_val hS rfl (g_indexAddr ty_ar_25 hF rfl rfl rfl (by omega)),fun a w gG hF hS hd=>by have hF:=hF.ext1 88 (hd 13 rfl rfl);have hF:=hF.ext1 90 (hd 15 rfl rfl);exact par_val hS rfl (g_indexAddr ty_ar_24 hF rfl rfl rfl (by omega)),fun a w gG hF hS hd=>by have hF:=hF.ext1 91 (hd 16 rfl rfl);have hM:=hS.mem rfl;exact par_val hS rfl (g_load ty_on_5 hF rfl (hM.row 1 rfl) (grpC_M (dgP m gc (n) (gi)) (dgP m gc (n) (gj)) (by omega) (by omega) (by omega))),fun a w gG hF hS hd=>by have hF:=hF.ext1 92 (hd 17 rfl rfl);exact par_val hS rfl (g_conv ty_un_2 ty_ud_5 hF rfl (wrap_i64 (by omega) (by omega))),trivial⟩ ?_
              intro a w' L hF hS hq
              have hF:=hF.ext1 75 (hq 0 rfl rfl)
              have hF:=hF.ext1 76 (hq 1 rfl rfl)
              have hF:=hF.ext1 77 (hq 2 rfl rfl)
              have hF:=hF.ext1 78 (hq 3 rfl rfl)
              have hF:=hF.ext1 79 (hq 4 rfl rfl)
              have hF:=hF.ext1 80 (hq 5 rfl rfl)
              have hF:=hF.ext1 81 (hq 6 rfl rfl)
              have hF:=hF.ext1 82 (hq 7 rfl rfl)
              have hF:=hF.ext1 83 (hq 8 rfl rfl)
              have hF:=hF.ext1 84 (hq 9 rfl rfl)
              have hF:=hF.ext1 85 (hq 10 rfl rfl)
              have hF:=hF.ext1 86 (hq 11 rfl rfl)
              have hF:=hF.ext1 87 (hq 12 rfl rfl)
              have hF:=hF.ext1 88 (hq 13 rfl rfl)
              have hF:=hF.ext1 89 (hq 14 rfl rfl)
              have hF:=hF.ext1 90 (hq 15 rfl rfl)
              have hF:=hF.ext1 91 (hq 16 rfl rfl)
              have hF:=hF.ext1 92 (hq 17 rfl rfl)
              have hF:=hF.ext1 93 (hq 18 rfl rfl)
              have hM:=hS.mem rfl
              change wpList Try.prog _ _ [_,_] _ _
              refine st hF (g_eql hF rfl rfl) rfl fun a hF=>st hF (g_assign hF rfl) rfl fun a hF=>?_
              refine wpList_nil ?_
              refine iN ?_
              refine tN ?_
              refine wp_region_lit ?_
              refine st hF (g_move hF rfl) rfl fun a hF=>st hF (g_add hF rfl rfl (add_nat (gj) (1) (by omega))) rfl fun a hF=>st hF (g_assign hF rfl) rfl fun a hF=>?_
              refine wpList_nil ?_
              refine tN ?_
              refine ⟨gj+1,⟨by omega,decide ((((dgP m gc (n) (M (gi) (gj)):Nat):Int):Int)=((M2 (dgP m gc (n) (gi)) (dgP m gc (n) (gj)):Nat):Int)),step_all (Q:=fun j=>dgP m gc n (M gi j)=M2 (dgP m gc n gi) (dgP m gc n j)) (by assumption) hb2 (by simp only [decide_eq_true_eq];omega),hF.sub _ (by repeat' constructor),?_⟩,by omega⟩
              exact hM
             ·
              refine wp_exit ?_
              refine tX ?_
              refine tX ?_
              refine ib_same ?_
              refine iN ?_
              refine tN ?_
              refine wp_region_lit ?_
              refine st hF (g_move hF rfl) rfl fun a hF=>st hF (g_add hF rfl rfl (add_nat (gi) (1) (by omega))) rfl fun a hF=>st hF (g_assign hF rfl) rfl fun a hF=>?_
              refine wpList_nil ?_
              refine tN ?_
              refine ⟨gi+1,⟨by omega,bp,step_all (Q:=rowH n m M M2 (dgP m gc n)) (by assumption) hb1 (by first | exact end_yes (by omega) hb2 | exact end_no hgj (by assumption) hb2),hF.sub _ (by repeat' constructor),?_⟩,by omega⟩
              exact hM
            ·
             first | rw [decide_eq_false g10] at hF | simp only [decide_eq_false g10] at hF
             refine stS hF rfl rfl rfl rfl rfl fun a hF=>st hF (g_pickF hF rfl rfl) rfl fun a hF=>?_
             refine wpList_nil ?_
             refine tN ?_
             refine c_Fl hF rfl ?_
             refine wp_exit ?_
             refine tX ?_
             refine tX ?_
             refine ib_same ?_
             refine iN ?_
             refine tN ?_
             refine wp_region_lit ?_
             refine st hF (g_move hF rfl) rfl fun a hF=>st hF (g_add hF rfl rfl (add_nat (gi) (1) (by omega))) rfl fun a hF=>st hF (g_assign hF rfl) rfl fun a hF=>?_
             refine wpList_nil ?_
             refine tN ?_
             refine ⟨gi+1,⟨by omega,bp,step_all (Q:=rowH n m M M2 (dgP m gc n)) (by assumption) hb1 (by first | exact end_yes (by omega) hb2 | exact end_no hgj (by assumption) hb2),hF.sub _ (by repeat' constructor),?_⟩,by omega⟩
             exact hM
          ·
           refine wp_exit ?_
           refine tX ?_
           refine tX ?_
           refine ib_same ?_
           refine tN ?_
           refine sq ?_
           refine wp_region_lit ?_
           refine st hF (g_move hF rfl) rfl fun a hF=>?_
           refine wpList_nil ?_
           refine tN ?_
           refine c_condB hF rfl (fun h13=>?_) (fun h13=>?_)
           ·
            refine wp_region_lit ?_
            refine st hF (g_move hF rfl) rfl fun a hF=>st hF (g_add hF rfl rfl (add_nat (hmL n m M M2 gc) (1) (by omega))) rfl fun a hF=>st hF (g_assign hF rfl) rfl fun a hF=>?_
            refine wpList_nil ?_
            refine iN ?_
            refine tN ?_
            refine wp_region_lit ?_
            refine st hF (g_move hF rfl) rfl fun a hF=>st hF (g_add hF rfl rfl (add_nat (gc) (1) (by omega))) rfl fun a hF=>st hF (g_assign hF rfl) rfl fun a hF=>?_
            refine wpList_nil ?_
            refine tN ?_
            have hM:=hM.drop 2
            have hh:homP n M M2 (dgP m gc n):=(show bo=true↔∀ i,i<n→rowH n m M M2 (dgP m gc n) i from by first | exact end_yes (by omega) hb1 | exact end_no hgi (by assumption) hb1).1 (by assumption)
            rw [show hmL n m M M2 gc+1=hmL n m M M2 (gc+1) from (hmL_yes ((hom_dg z0).1 hh)).symm] at hF
            refine ⟨gc+1,⟨by omega,trivial,hF.sub _ (by repeat' constructor),?_⟩,by omega⟩
            exact hM
           ·
            refine wp_skip ?_
            refine iN ?_
            refine tN ?_
            refine wp_region_lit ?_
            refine st hF (g_move hF rfl) rfl fun a hF=>st hF (g_add hF rfl rfl (add_nat (gc) (1) (by omega))) rfl fun a hF=>st hF (g_assign hF rfl) rfl fun a hF=>?_
            refine wpList_nil ?_
            refine tN ?_
            have hM:=hM.drop 2
            have hh:¬ homP n M M2 (dgP m gc n):=fun q=>by have q2:=(show bo=true↔∀ i,i<n→rowH n m M M2 (dgP m gc n) i from by first | exact end_yes (by omega) hb1 | exact end_no hgi (by assumption) hb1).2 q;exact absurd (q2.symm.trans (by assumption:bo=false)) (by decide)
            rw [show hmL n m M M2 gc=hmL n m M M2 (gc+1) from (hmL_no (fun q=>hh ((hom_dg z0).2 q))).symm] at hF
            refine ⟨gc+1,⟨by omega,trivial,hF.sub _ (by repeat' constructor),?_⟩,by omega⟩
            exact hM
         ·
          first | rw [decide_eq_false g8] at hF | simp only [decide_eq_false g8] at hF
          refine stS hF rfl rfl rfl rfl rfl fun a hF=>st hF (g_pickF hF rfl rfl) rfl fun a hF=>?_
          refine wpList_nil ?_
          refine tN ?_
          refine c_Fl hF rfl ?_
          refine wp_exit ?_
          refine tX ?_
          refine tX ?_
          refine ib_same ?_
          refine tN ?_
          refine sq ?_
          refine wp_region_lit ?_
          refine st hF (g_move hF rfl) rfl fun a hF=>?_
          refine wpList_nil ?_
          refine tN ?_
          refine c_condB hF rfl (fun h15=>?_) (fun h15=>?_)
          ·
           refine wp_region_lit ?_
           refine st hF (g_move hF rfl) rfl fun a hF=>st hF (g_add hF rfl rfl (add_nat (hmL n m M M2 gc) (1) (by omega))) rfl fun a hF=>st hF (g_assign hF rfl) rfl fun a hF=>?_
           refine wpList_nil ?_
           refine iN ?_
           refine tN ?_
           refine wp_region_lit ?_
           refine st hF (g_move hF rfl) rfl fun a hF=>st hF (g_add hF rfl rfl (add_nat (gc) (1) (by omega))) rfl fun a hF=>st hF (g_assign hF rfl) rfl fun a hF=>?_
           refine wpList_nil ?_
           refine tN ?_
           have hM:=hM.drop 2
           have hh:homP n M M2 (dgP m gc n):=(show bo=true↔∀ i,i<n→rowH n m M M2 (dgP m gc n) i from by first | exact end_yes (by omega) hb1 | exact end_no hgi (by assumption) hb1).1 (by assumption)
           rw [show hmL n m M M2 gc+1=hmL n m M M2 (gc+1) from (hmL_yes ((hom_dg z0).1 hh)).symm] at hF
           refine ⟨gc+1,⟨by omega,trivial,hF.sub _ (by repeat' constructor),?_⟩,by omega⟩
           exact hM
          ·
           refine wp_skip ?_
           refine iN ?_
           refine tN ?_
           refine wp_region_lit ?_
           refine st hF (g_move hF rfl) rfl fun a hF=>st hF (g_add hF rfl rfl (add_nat (gc) (1) (by omega))) rfl fun a hF=>st hF (g_assign hF rfl) rfl fun a hF=>?_
           refine wpList_nil ?_
           refine tN ?_
           have hM:=hM.drop 2
           have hh:¬ homP n M M2 (dgP m gc n):=fun q=>by have q2:=(show bo=true↔∀ i,i<n→rowH n m M M2 (dgP m gc n) i from by first | exact end_yes (by omega) hb1 | exact end_no hgi (by assumption) hb1).2 q;exact absurd (q2.symm.trans (by assumption:bo=false)) (by decide)
           rw [show hmL n m M M2 gc=hmL n m M M2 (gc+1) from (hmL_no (fun q=>hh ((hom_dg z0).2 q))).symm] at hF
           refine ⟨gc+1,⟨by omega,trivial,hF.sub _ (by repeat' constructor),?_⟩,by omega⟩
           exact hM
     ·
      obtain rfl:m ^ n=gc:=by omega
      refine wp_exit ?_
      refine tX ?_
      refine tX ?_
      refine ib_same ?_
      refine tN ?_
      refine sq ?_
      refine wp_region_lit ?_
      refine st hF (g_move hF rfl) rfl fun a hF=>st hF (g_assign hF rfl) rfl fun a hF=>st hF (g_assign hF rfl) rfl fun a hF=>?_
      refine wpList_nil ?_
      refine tN ?_
      refine wp_ret ?_
      refine fin2 rfl hF.defers (res_tmp hF rfl) (res_tmp hF rfl) ⟨_,rfl,hM.below,?_⟩
      show _=_
      exact congrArg (fun z:Nat=>Value.tuple #[.int .i64 (z:Int),.int .i64 0]) (hm_eq hm0 z0)
end Go.Proofs.Ytklpefdaplchbaa
