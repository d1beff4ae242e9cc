import Derived.Test.YtklpefdaplchbaaD5
import Derived.Test.YtklpefdaplchbaaSw10
set_option linter.unusedVariables false
set_option linter.unusedSimpArgs false
namespace Go.Proofs.Ytklpefdaplchbaa
open Go Go.RowKit Go.Sw Go.Ech
open Classical
end Go.Proofs.Ytklpefdaplchbaa
namespace Go.Proofs.Ytklpefdaplchbaa
open Go Go.RowKit Go.Sw Go.Ech
open Classical
theorem ty_on_77:oneP Try.prog 77=true:=by kernel_rfl
theorem hom_zero {n m:Nat}{M M2:Nat→Nat→Nat}{d:Nat→Nat}(hn0:0<n)(hG:TabP n M)(hG2:TabP m M2)(hd:d 0<m)(h:homP n M M2 d):d 0=0:=by
  have h0:=h 0 hn0 0 hn0
  rw [(hG.2.1 0 hn0).1] at h0
  obtain ⟨j,hj,hj0⟩:=hG2.2.2.1 (d 0) hd
  have ha:=hG2.2.2.2 (d 0) hd (d 0) hd j hj
  rw [← h0,hj0,(hG2.2.1 (d 0) hd).2] at ha
  exact ha.symm
set_option maxRecDepth 100000 in
theorem keepsProducts_ok (n m:Nat)(M M2:Nat→Nat→Nat)(b c:Nat)(d:Nat→Nat)(w:World)(hn0:0<n)(hn:n≤6)(hm0:0<m)(hm:m≤6)(hB:∀ i j,M i j≤255)(hB2:∀ i j,M2 i j≤255)(hG:TabP n M)(hG2:TabP m M2)(hd:∀ c,d c<m)(hb:Blk w b (numC n d)) :
    CallsR Try.prog 42 #[.agg (grpC (n:Int) M),.agg (grpC (m:Int) M2),.slice (some ⟨b,0,none⟩) (n) (c)] w (fun res _=>res = .bool (decide (homP n M M2 d))):=by
  refine calls_fr [.agg (grpC (n:Int) M),.agg (grpC (m:Int) M2),.slice (some ⟨b,0,none⟩) (n) (c)] Try.func42 rfl Try.ntmps42 rfl fun a hF=>?_
  have hM:Mem w w [none,none] [(b,numC n d)]:=MemX.startD w 2 _ (startD1 hb)
  change Fr 39 a [(0,.agg (grpC (n:Int) M)),(1,.agg (grpC (m:Int) M2)),(2,.slice (some ⟨b,0,none⟩) (n) (c))] at hF
  refine sq ?_
  refine wp_region_lit ?_
  refine stR hF (d_box 0 hM hF rfl) rfl ?_
  rintro _ w' a ⟨b1,rfl,hM,-⟩ hF
  change Mem w w' [some (b1,grpC (n:Int) M),none] [(b,numC n d)] at hM
  refine stR hF (d_box 1 hM hF rfl) rfl ?_
  rintro _ w' a ⟨b2,rfl,hM,-⟩ hF
  change Mem w w' [some (b1,grpC (n:Int) M),some (b2,grpC (m:Int) M2)] [(b,numC n d)] at hM
  refine st hF (g_assign hF rfl) rfl fun a hF=>?_
  refine wpList_nil ?_
  refine tN ?_
  refine sq ?_
  refine sq ?_
  refine wp_region_lit ?_
  refine st hF (g_fieldAddr ty_fo_27_0 hF rfl) rfl fun a hF=>st hF (g_load ty_on_2 hF rfl (hM.row 0 rfl) (grpC_n (by omega))) rfl fun a hF=>st hF (g_move hF rfl) rfl fun a hF=>?_
  refine wpList_nil ?_
  refine tN ?_
  refine wp_block ?_
  change Mem w _ [some (b1,grpC (n:Int) M),some (b2,grpC (m:Int) M2)] [(b,numC n d)] at hM
  refine c_loop (fun (kk:Nat) a w'=>kk≤n∧(∀ i,i<kk→∀ j,j<n→d (M i j)=M2 (d i) (d j))∧Fr 39 a [(2,.slice (some ⟨b,0,none⟩) (n) (c)),(3,ptr b1 (0)),(4,ptr b2 (0)),(10,.int .i64 (((n:Nat):Int))),(11,.int .i64 (((kk:Nat):Int)))]∧Mem w w' [some (b1,grpC (n:Int) M),some (b2,grpC (m:Int) M2)] [(b,numC n d)]) (fun kk=>n - kk) 0 ?_ ?_
  ·
   refine ⟨by omega,fun i hi=>absurd hi (by omega),hF.sub _ (by repeat' constructor),?_⟩
   exact hM
  ·
   clear hF hM
   rintro gi a w' ⟨hgi,hinv1,hF,hM⟩
   refine sq ?_
   refine wp_region_lit ?_
   refine st hF (g_lss hF rfl rfl) rfl fun a hF=>?_
   refine wpList_nil ?_
   refine tN ?_
   refine sq ?_
   refine c_cond hF rfl (fun h3=>?_) (fun h3=>?_)
   ·
    refine wp_skip ?_
    refine tN ?_
    refine sq ?_
    refine wp_block ?_
    refine sq ?_
    refine wp_region_lit ?_
    refine st hF (g_move hF rfl) rfl fun a hF=>st hF (g_assign hF rfl) rfl fun a hF=>?_
    refine wpList_nil ?_
    refine tN ?_
    refine sq ?_
    refine wp_region_lit ?_
    refine st hF (g_fieldAddr ty_fo_27_0 hF rfl) rfl fun a hF=>st hF (g_load ty_on_2 hF rfl (hM.row 0 rfl) (grpC_n (by omega))) rfl fun a hF=>st hF (g_move hF rfl) rfl fun a hF=>?_
    refine wpList_nil ?_
    refine tN ?_
    refine wp_block ?_
    change Mem w _ [some (b1,grpC (n:Int) M),some (b2,grpC (m:Int) M2)] [(b,numC n d)] at hM
    refine c_loop (fun (kk:Nat) a w'=>kk≤n∧(∀ j,j<kk→d (M gi j)=M2 (d gi) (d j))∧Fr 39 a [(2,.slice (some ⟨b,0,none⟩) (n) (c)),(3,ptr b1 (0)),(4,ptr b2 (0)),(10,.int .i64 (((n:Nat):Int))),(11,.int .i64 (((gi:Nat):Int))),(12,.bool (decide ((((gi:Nat):Int):Int)<((n:Nat):Int)))),(13,.int .i64 (((gi:Nat):Int))),(7,.int .i64 (((gi:Nat):Int))),(14,ptr b1 (0+0)),(15,.int .i64 (((n:Nat):Int))),(16,.int .i64 (((kk:Nat):Int)))]∧Mem w w' [some (b1,grpC (n:Int) M),some (b2,grpC (m:Int) M2)] [(b,numC n d)]) (fun kk=>n - kk) 0 ?_ ?_
    ·
     refine ⟨by omega,fun i hi=>absurd hi (by omega),hF.sub _ (by repeat' constructor),?_⟩
     exact hM
    ·
     clear hF hM
     rintro gj a w' ⟨hgj,hinv2,hF,hM⟩
     have z1:gi<n→gj<n→M gi gj<n:=fun q1 q2=>hG.lt (by omega) (by omega)
     have z2:=hd gi
     have z3:=hd gj
     refine sq ?_
     refine wp_region_lit ?_
     refine st hF (g_lss hF rfl rfl) rfl fun a hF=>?_
     refine wpList_nil ?_
     refine tN ?_
     refine sq ?_
     refine c_cond hF rfl (fun h4=>?_) (fun h4=>?_)
     ·
      refine wp_skip ?_
      refine tN ?_
      refine sq ?_
      refine wp_block ?_
      refine sq ?_
      refine wp_region_lit ?_
      refine st hF (g_move hF rfl) rfl fun a hF=>st hF (g_assign hF rfl) rfl fun a hF=>?_
      refine wpList_nil ?_
      refine tN ?_
      refine sq ?_
      refine c_par 17 [] [.val (.slice (some ⟨b,0,none⟩) (n) (c)),.val (.agg (grpC (n:Int) M)),.val (.int .i64 (((gi:Nat):Int))),.val (.int .i64 (((gj:Nat):Int))),.val (.int .i64 (((M (gi) (gj):Nat):Int))),.val (ptr b (0+(M (gi) (gj))*1)),.val (.int .i64 (((d (M (gi) (gj)):Nat):Int))),.val (.agg (grpC (m:Int) M2)),.val (.slice (some ⟨b,0,none⟩) (n) (c)),.val (.int .i64 (((gi:Nat):Int))),.val (ptr b (0+(gi)*1)),.val (.int .i64 (((d (gi):Nat):Int))),.val (.slice (some ⟨b,0,none⟩) (n) (c)),.val (.int .i64 (((gj:Nat):Int))),.val (ptr b (0+(gj)*1)),.val (.int .i64 (((d (gj):Nat):Int))),.val (.int .i64 (((M2 (d (gi)) (d (gj)):Nat):Int)))] hmix rfl hF rfl hM ⟨fun a w gG hF hS hd=>by exact par_val hS rfl (g_move hF rfl),fun a w gG hF hS hd=>by have hM:=hS.mem rfl;exact par_val hS rfl (g_loadAgg ty_ag_27 hF rfl (hM.row 0 rfl) (by simp only [fnC_size,cells_size,vecC_size,tabC_size,planeC_size,tenC_size,smC_size,numC_size,numI_size,mrk_size,grpC_size,rowW_size,bolC_size,mri_size,srcC_size,recC_size,recZ_size]<;>omega) (whole (by simp only [fnC_size,cells_size,vecC_size,tabC_size,planeC_size,tenC_size,smC_size,numC_size,numI_size,mrk_size,grpC_size,rowW_size,bolC_size,mri_size,srcC_size,recC_size,recZ_size]))),fun a w gG hF hS hd=>by exact par_val hS rfl (g_move hF rfl),fun a w gG hF hS hd=>by exact par_val hS rfl (g_move hF rfl),fun a w gG hF hS hd=>by have hF:=hF.ext1 20 (hd 1 rfl rfl);have hF:=hF.ext1 21 (hd 2 rfl rfl);have hF:=hF.ext1 22 (hd 3 rfl rfl);exact par_call (by repeat constructor) hS rfl (d_call Try.call36 hF (.cons rfl (.cons rfl (.cons rfl .nil))) (times_ok (n:Int) M (gi) (gj) _ hB (by omega) (by omega))),fun a w gG hF hS hd=>by have hF:=hF.ext1 19 (hd 0 rfl rfl);have hF:=hF.ext1 23 (hd 4 rfl rfl);exact par_val hS rfl (g_indexSl (i:=M (gi) (gj)) ty_sl_35 hF rfl rfl rfl (by omega)),fun a w gG hF hS hd=>by have hF:=hF.ext1 24 (hd 5 rfl rfl);have hM:=hS.mem rfl;exact par_val hS rfl (g_load ty_on_2 hF rfl (hM.fz 0 rfl) (numC_get (k:=M (gi) (gj)) (by omega) (by omega))),fun a w gG hF hS hd=>by have hM:=hS.mem rfl;exact par_val hS rfl (g_loadAgg ty_ag_27 hF rfl (hM.row 1 rfl) (by simp only [fnC_size,cells_size,vecC_size,tabC_size,planeC_size,tenC_size,smC_size,numC_size,numI_size,mrk_size,grpC_size,rowW_size,bolC_size,mri_size,srcC_size,recC_size,recZ_size]<;>omega) (whole (by simp only [fnC_size,cells_size,vecC_size,tabC_size,planeC_size,tenC_size,smC_size,numC_size,numI_size,mrk_size,grpC_size,rowW_size,bolC_size,mri_size,srcC_size,recC_size,recZ_size]))),fun a w gG hF hS hd=>by exact par_val hS rfl (g_move hF rfl),fun a w gG hF hS hd=>by exact par_val hS rfl (g_move hF rfl),fun a w gG hF hS hd=>by have hF:=hF.ext1 27 (hd 8 rfl rfl);have hF:=hF.ext1 28 (hd 9 rfl rfl);exact par_val hS rfl (g_indexSl (i:=gi) ty_sl_35 hF rfl rfl rfl (by omega)),fun a w gG hF hS hd=>by have hF:=hF.ext1 29 (hd 10 rfl rfl);have hM:=hS.mem rfl;exact par_val hS rfl (g_load ty_on_2 hF rfl (hM.fz 0 rfl) (numC_get (k:=gi) (by omega) (by omega))),fun a w gG hF hS hd=>by exact par_val hS rfl (g_move hF rfl),fun a w gG hF hS hd=>by exact par_val hS rfl (g_move hF rfl),fun a w gG hF hS hd=>by have hF:=hF.ext1 31 (hd 12 rfl rfl);have hF:=hF.ext1 32 (hd 13 rfl rfl);exact par_val hS rfl (g_indexSl (i:=gj) ty_sl_35 hF rfl rfl rfl (by omega)),fun a w gG hF hS hd=>by have hF:=hF.ext1 33 (hd 14 rfl rfl);have hM:=hS.mem rfl;exact par_val hS rfl (g_load ty_on_2 hF rfl (hM.fz 0 rfl) (numC_get (k:=gj) (by omega) (by omega))),fun a w gG hF hS hd=>by have hF:=hF.ext1 26 (hd 7 rfl rfl);have hF:=hF.ext1 30 (hd 11 rfl rfl);have hF:=hF.ext1 34 (hd 15 rfl rfl);exact par_call (by repeat constructor) hS rfl (d_call Try.call36 hF (.cons rfl (.cons rfl (.cons rfl .nil))) (times_ok (m:Int) M2 (d (gi)) (d (gj)) _ hB2 (by omega) (by omega))),trivial⟩ ?_
      intro a w' L hF hS hq
      have hF:=hF.ext1 19 (hq 0 rfl rfl)
      have hF:=hF.ext1 20 (hq 1 rfl rfl)
      have hF:=hF.ext1 21 (hq 2 rfl rfl)
      have hF:=hF.ext1 22 (hq 3 rfl rfl)
      have hF:=hF.ext1 23 (hq 4 rfl rfl)
      have hF:=hF.ext1 24 (hq 5 rfl rfl)
      have hF:=hF.ext1 25 (hq 6 rfl rfl)
      have hF:=hF.ext1 26 (hq 7 rfl rfl)
      have hF:=hF.ext1 27 (hq 8 rfl rfl)
      have hF:=hF.ext1 28 (hq 9 rfl rfl)
      have hF:=hF.ext1 29 (hq 10 rfl rfl)
      have hF:=hF.ext1 30 (hq 11 rfl rfl)
      have hF:=hF.ext1 31 (hq 12 rfl rfl)
      have hF:=hF.ext1 32 (hq 13 rfl rfl)
      have hF:=hF.ext1 33 (hq 14 rfl rfl)
      have hF:=hF.ext1 34 (hq 15 rfl rfl)
      have hF:=hF.ext1 35 (hq 16 rfl rfl)
      have hM:=hS.mem rfl
      change wpList Try.prog _ _ [_] _ _
      refine st hF (g_neq hF rfl rfl) rfl fun a hF=>?_
      refine wpList_nil ?_
      refine tN ?_
      refine c_cond hF rfl (fun h5=>?_) (fun h5=>?_)
      ·
       refine sq ?_
       refine wp_region_lit ?_
       refine st hF (g_assign hF rfl) rfl fun a hF=>?_
       refine wpList_nil ?_
       refine tN ?_
       refine wp_ret ?_
       refine iR ?_
       refine tR ?_
       refine tR ?_
       refine iR ?_
       refine iR ?_
       refine tR ?_
       refine tR ?_
       refine iR ?_
       refine tR ?_
       refine fin1 rfl hF.defers (res_tmp hF rfl) ⟨_,rfl,hM.below,?_⟩
       show _=_
       exact bool_f (fun hq=>by have hz:=hq gi (by omega) gj (by omega);omega)
      ·
       refine wp_skip ?_
       refine iN ?_
       refine tN ?_
       refine wp_region_lit ?_
       refine st hF (g_add hF rfl rfl (add_nat (gj) (1) (by omega))) rfl fun a hF=>st hF (g_move hF rfl) rfl fun a hF=>?_
       refine wpList_nil ?_
       refine tN ?_
       refine ⟨gj+1,⟨by omega,allS hinv2 (by omega),hF.sub _ (by repeat' constructor),?_⟩,by omega⟩
       exact hM
     ·
      obtain rfl:n=gj:=by omega
      refine wp_exit ?_
      refine tX ?_
      refine tX ?_
      refine ib_same ?_
      refine iN ?_
      refine tN ?_
      refine wp_region_lit ?_
      refine st hF (g_add hF rfl rfl (add_nat (gi) (1) (by omega))) rfl fun a hF=>st hF (g_move hF rfl) rfl fun a hF=>?_
      refine wpList_nil ?_
      refine tN ?_
      refine ⟨gi+1,⟨by omega,allS hinv1 hinv2,hF.sub _ (by repeat' constructor),?_⟩,by omega⟩
      exact hM
   ·
    obtain rfl:n=gi:=by omega
    refine wp_exit ?_
    refine tX ?_
    refine tX ?_
    refine ib_same ?_
    refine tN ?_
    refine sq ?_
    refine wp_region_lit ?_
    refine st hF (g_assign hF rfl) rfl fun a hF=>?_
    refine wpList_nil ?_
    refine tN ?_
    refine wp_ret ?_
    refine fin1 rfl hF.defers (res_tmp hF rfl) ⟨_,rfl,hM.below,?_⟩
    show _=_
    exact bool_t (hinv1)
def CapG (bg bh n m:Nat) (M M2:Nat→Nat→Nat) (W:World):Prop:=Blk W bg (grpC (n:Int) M)∧Blk W bh (grpC (m:Int) M2)
theorem homomorphisms_ok (n m:Nat)(M M2:Nat→Nat→Nat)(w:World) :
    CallsR Try.prog 22 #[.agg (grpC (n:Int) M),.agg (grpC (m:Int) M2)] w (fun v w'=>∃ bg bh,v = .func (.func 40) #[] #[ptr bh 0,ptr bg 0]∧w.heap.size≤bg∧w.heap.size≤bh∧CapG bg bh n m M M2 w'):=by
  refine calls_fr [.agg (grpC (n:Int) M),.agg (grpC (m:Int) M2)] Try.func22 rfl Try.ntmps22 rfl fun a hF=>?_
  have hM:Mem w w [none,none] []:=MemX.start w 2
  change Fr 6 a [(0,.agg (grpC (n:Int) M)),(1,.agg (grpC (m:Int) M2))] at hF
  refine sq ?_
  refine wp_region_lit ?_
  refine stR hF (d_box 0 hM hF rfl) rfl ?_
  rintro _ w' a ⟨b1,rfl,hM,-⟩ hF
  change Mem w w' [some (b1,grpC (n:Int) M),none] [] at hM
  refine stR hF (d_box 1 hM hF rfl) rfl ?_
  rintro _ w' a ⟨b2,rfl,hM,-⟩ hF
  change Mem w w' [some (b1,grpC (n:Int) M),some (b2,grpC (m:Int) M2)] [] at hM
  refine st hF (g_assign hF rfl) rfl fun a hF=>?_
  refine wpList_nil ?_
  refine tN ?_
  refine sq ?_
  refine wp_region_lit ?_
  refine st hF (g_makeFunc2 hF rfl rfl) rfl fun a hF=>st hF (g_assign hF rfl) rfl fun a hF=>?_
  refine wpList_nil ?_
  refine tN ?_
  refine wp_ret ?_
  refine fin1 rfl hF.defers (res_tmp hF rfl) ⟨_,rfl,hM.below,?_⟩
  exact ⟨b1,b2,rfl,hM.ge 0 rfl,hM.ge 1 rfl,hM.row 0 rfl,hM.row 1 rfl⟩
theorem homsIt (bg bh n m:Nat)(M M2:Nat→Nat→Nat)(hn0:0<n)(hn:n≤6)(hm0:0<m)(hm:m≤6)(hB:∀ i j,M i j≤255)(hB2:∀ i j,M2 i j≤255)(hG:TabP n M)(hG2:TabP m M2):Rw.IterM Try.prog 40 #[ptr bh 0,ptr bg 0] (hmF n m M M2 (m ^ n)) Rw.ArgO (CapG bg bh n m M M2):=by
  intro l J Jx w hJe hJK hJp hXp hY h0
  rw [show ((#[.func (.yield l) #[] #[]]:Array Value)++#[ptr bh 0,ptr bg 0])=[.func (.yield l) #[] #[],ptr bh (0),ptr bg (0)].toArray from by simp]
  refine Rw.calls_frMW [.func (.yield l) #[] #[],ptr bh (0),ptr bg (0)] Try.func40 rfl Try.ntmps40 rfl fun a hF=>?_
  have hlg:n≤16:=by omega
  have hpb:=pow_bd hm hlg
  have hcap:=hJK 0 w h0
  obtain ⟨s0,hs0⟩:∃ z,z=w.heap.size:=⟨_,rfl⟩
  have hM:Mem w w [none] [(bg,grpC (n:Int) M),(bh,grpC (m:Int) M2)]:=MemX.startD w 1 _ (startD2 hcap.1 hcap.2)
  change Fr 27 a [(0,.func (.yield l) #[] #[]),(1,ptr bh (0)),(2,ptr bg (0))] at hF
  refine sq ?_
  refine wp_region_lit ?_
  refine stR hF (d_box 0 hM hF rfl) rfl ?_
  rintro _ w' a ⟨b1,rfl,hM,-⟩ hF
  change Mem w w' [some (b1,#[.func (.yield l) #[] #[]])] [(bg,grpC (n:Int) M),(bh,grpC (m:Int) M2)] at hM
  refine wpList_nil ?_
  refine tN ?_
  refine sq ?_
  refine wp_region_lit ?_
  refine st hF (g_fieldAddr ty_fo_27_0 hF rfl) rfl fun a hF=>st hF (g_load ty_on_2 hF rfl (hM.fzm (b:=bh) (cs:=grpC (m:Int) M2) (by simp)) (grpC_n (by omega))) rfl fun a hF=>st hF (g_fieldAddr ty_fo_27_0 hF rfl) rfl fun a hF=>st hF (g_load ty_on_2 hF rfl (hM.fzm (b:=bg) (cs:=grpC (n:Int) M) (by simp)) (grpC_n (by omega))) rfl fun a hF=>?_
  have hszA:=hM.bel.size
  refine stR hF (d_call Try.call41 hF (.cons rfl (.cons rfl .nil)) (choices_ok (m) (n) _)) rfl ?_
  rintro _ w' a ⟨hx,bs,bl,rfl,hgs,hgl,hcs,hcl⟩ hF
  have hM:=hM.addD (D':=[(bs,#[.int .i64 ((m:Nat):Int)]),(bl,#[.int .i64 ((n:Nat):Int)])]) hx (fun b cs hm=>by
    rcases List.mem_cons.1 hm with e | hm
    · simp only [Prod.mk.injEq] at e;obtain ⟨rfl,rfl⟩:=e;exact ⟨hgs,hcs⟩
    · simp only [List.mem_singleton,Prod.mk.injEq] at hm;obtain ⟨rfl,rfl⟩:=hm;exact ⟨hgl,hcl⟩)
  change Mem w w' [some (b1,#[.func (.yield l) #[] #[]])] [(bs,#[.int .i64 ((m:Nat):Int)]),(bl,#[.int .i64 ((n:Nat):Int)]),(bg,grpC (n:Int) M),(bh,grpC (m:Int) M2)] at hM
  refine wpList_nil ?_
  refine tN ?_
  refine wp_block ?_
  have hszB:=hM.bel.size
  obtain ⟨w1,hw1⟩:∃ z,z=w':=⟨_,rfl⟩
  have hKC:∀ W,Rw.KeepG s0 w1 W→Rw.CapK bs bl m n W:=fun W h=>by rw [hw1] at h;exact ⟨h.blk (hM.fzm (by simp)) (by omega),h.blk (hM.fzm (by simp)) (by omega)⟩
  have hKB:∀ W,Rw.KeepG s0 w1 W→Blk W b1 #[.func (.yield l) #[] #[]]:=fun W h=>by rw [hw1] at h;exact h.blk (hM.row 0 rfl) (by have:=hM.ge 0 rfl;omega)
  have hJ1:J 0 w1:=by rw [hw1];exact hJe _ _ _ h0 hM.below
  have hs1:s0≤w1.heap.size:=by rw [hw1];omega
  have hz0:∀ x,homP n M M2 (Rw.digF m n x)→Rw.digF m n x 0=0:=fun x h=>hom_zero hn0 hG hG2 (Rw.digF_lt hm0) h
  clear hM
  rw [← hw1]
  refine Rw.c_rangeFnM (N:=m ^ n) (arg:=Rw.ArgCh m n) (K:=Rw.CapK bs bl m n) hF.defers (hF.eval rfl) Try.call54 (choicesIt bs bl m n (by omega) (by omega) (by omega)).toM ?_ ?_ (fun k W=>J (hmF n m M M2 k) W∧Rw.KeepG s0 w1 W) (fun W=>(J (hmF n m M M2 (m ^ n)) W∨Jx W)∧Rw.KeepG s0 w1 W) ?_ ?_ ?_ ?_ ⟨hJ1,Nat.le_refl _,fun _ _ _=>rfl⟩ (fun args a1=>∃ k bn,args = #[.int .i64 ((k:Nat):Int),.slice (some ⟨bn,0,none⟩) n n]∧Fr 27 a1 [(5,.slice (some ⟨bn,0,none⟩) (n) (n)),(0,.func (.yield l) #[] #[]),(1,ptr bh (0)),(2,ptr bg (0)),(3,ptr b1 (0)),(6,ptr bh (0+0)),(7,.int .i64 (((m:Nat):Int))),(8,ptr bg (0+0)),(9,.int .i64 (((n:Nat):Int))),(10,.func (.func 54) #[] #[ptr bs 0,ptr bl 0])]) ?_ ?_ ?_ ?_
  · rintro k A B args ⟨bn,rfl,_,_⟩;rfl
  · exact fun k A B args l o o' h hA hB=>Rw.argCh_put A B args l o o' h hB
  · exact fun k A B h hx=>⟨hJe _ _ _ h.1 hx,h.2.trans (Rw.KeepG.of_ext hx)⟩
  · exact fun k A q o o' hq h ho hno=>⟨hJp _ _ _ _ _ (by omega) h.1 ho hno,h.2.put (.inr hq)⟩
  · exact fun A q o o' hq h ho hno=>⟨h.1.elim (fun z=>.inl (hJp _ _ _ _ _ (by omega) z ho hno)) (fun z=>.inr (hXp _ _ _ _ (by omega) z ho hno)),h.2.put (.inr hq)⟩
  · exact fun k A h=>hKC _ h.2
  ·
   rintro l k A B args K ⟨bn,rfl,hgebn,hbn⟩ hK
   have hF:=Rw.round2 (p:=11) (q:=12) (u:=.int .i64 ((k:Nat):Int)) (v:=.slice (some ⟨bn,0,none⟩) n n) hF rfl rfl
   refine Rw.wp_region_lit ?_
   refine st hF (g_assign hF rfl) rfl fun a hF=>?_
   refine wpList_nil ?_
   refine tN ?_
   exact hK _ ⟨k,bn,rfl,hF.sub _ (by repeat' constructor)⟩
  ·
   rintro lr gk A w args a hgk hA hxA ⟨bn,rfl,hgebn,hbn⟩ ⟨k',bn',he,hF⟩
   obtain ⟨rfl,rfl⟩:=Rw.args_inj he
   clear he
   have hJw:=hJe _ _ _ hA.1 hxA
   have hKw:=hA.2.trans (Rw.KeepG.of_ext (s:=s0) hxA)
   have hcap:=hJK _ _ hJw
   have hbx:=hKB _ hKw
   have hgs1:=hKw.1
   have hM:Mem w w [none] [(bn,numC n (Rw.digF m n gk)),(b1,#[.func (.yield l) #[] #[]]),(bg,grpC (n:Int) M),(bh,grpC (m:Int) M2)]:=MemX.startD w 1 _ (Rw.startD4 hbn hbx hcap.1 hcap.2)
   have hle:hmF n m M M2 (gk+1)≤hmF n m M M2 (m ^ n):=cnt_mono (by omega)
   refine Rw.wp_block ?_
   refine Rw.sq ?_
   refine Rw.sq ?_
   refine Rw.wp_region_lit ?_
   refine st hF (g_move hF rfl) rfl fun a hF=>st hF (g_indexSl (i:=0) ty_sl_35 hF rfl rfl rfl (by omega)) rfl fun a hF=>st hF (g_load ty_on_2 hF rfl (hM.fzm (List.mem_cons_self ..)) (numC_get (k:=0) (by omega) (by omega))) rfl fun a hF=>st hF (g_neq hF rfl rfl) rfl fun a hF=>?_
   refine wpList_nil ?_
   refine tN ?_
   refine Rw.c_cond hF rfl (fun h2=>?_) (fun h2=>?_)
   ·
    refine Rw.wp_ret ?_
    refine tR ?_
    refine iR ?_
    exact ⟨Rw.KeepG.of_ext hM.below,.inl (by rw [← hmF_end hn0 hz0 hgk (by omega)];exact hJe _ _ _ hJw hM.below),hKw.trans (Rw.KeepG.of_ext hM.below)⟩
   ·
    refine Rw.wp_skip ?_
    refine tN ?_
    refine Rw.sq ?_
    refine Rw.region_F ?_
    refine Rw.stF hF (g_loadAgg ty_ag_27 hF rfl (hM.fzm (b:=bg) (cs:=grpC (n:Int) M) (by simp)) (by rw [grpC_size];omega) (whole (by simp only [fnC_size,cells_size,vecC_size,tabC_size,planeC_size,tenC_size,smC_size,numC_size,numI_size,mrk_size,grpC_size,rowW_size,bolC_size,mri_size,srcC_size,recC_size,recZ_size]))) rfl rfl fun a hF=>?_
    refine Rw.stF hF (g_loadAgg ty_ag_27 hF rfl (hM.fzm (b:=bh) (cs:=grpC (m:Int) M2) (by simp)) (by rw [grpC_size];omega) (whole (by simp only [fnC_size,cells_size,vecC_size,tabC_size,planeC_size,tenC_size,smC_size,numC_size,numI_size,mrk_size,grpC_size,rowW_size,bolC_size,mri_size,srcC_size,recC_size,recZ_size]))) rfl rfl fun a hF=>?_
    refine Rw.stF hF (g_move hF rfl) rfl rfl fun a hF=>?_
    refine Rw.stRF hF (d_call Try.call42 hF (.cons rfl (.cons rfl (.cons rfl .nil))) (keepsProducts_ok n m M M2 bn (n) (Rw.digF m n gk) _ hn0 hn hm0 hm hB hB2 hG hG2 (fun c=>Rw.digF_lt hm0) (hM.fzm (by simp)))) rfl rfl ?_
    rintro _ w' a ⟨hx1,rfl⟩ hF
    have hM:=hM.ext hx1
    refine Rw.stF hF (g_move hF rfl) rfl rfl fun a hF=>?_
    by_cases hk:homP n M M2 (Rw.digF m n gk)
    ·
     simp only [decide_eq_true hk] at hF
     refine Rw.stYF hF rfl rfl rfl (g_load ty_on_77 hF rfl (hM.fzm (b:=b1) (cs:=#[.func (.yield l) #[] #[]]) (by simp)) rfl) rfl rfl fun a hF=>?_
     refine Rw.stYF hF rfl rfl rfl (g_move hF rfl) rfl rfl fun a hF=>?_
     have hyk:=hY (hmF n m M M2 gk) w' w' #[.slice (some ⟨bn,0,none⟩) (n) (n)] (by have:=hmF_yes hk;omega) (hJe _ _ _ hJw hM.below) (Ext.refl _) ⟨_,rfl⟩
     refine Rw.stYieldG (R:=fun v W'=>Rw.KeepG s0 w' W'∧((v = .bool true∧J (hmF n m M M2 gk+1) W')∨(v = .bool false∧Jx W'))) hF rfl rfl rfl rfl (.cons rfl .nil) rfl (Rw.yield_mono hyk fun e W' h=>h.2.elim (fun z=>⟨_,z.1,by rw [hs0];exact h.1,.inl ⟨rfl,z.2⟩⟩) (fun z=>⟨_,z.1,by rw [hs0];exact h.1,.inr ⟨rfl,z.2⟩⟩)) ?_
     rintro v w2 a ⟨hKG,(⟨rfl,hJ3⟩ | ⟨rfl,hX3⟩)⟩ hF
     ·
      refine Rw.stYF hF rfl rfl rfl (g_not hF rfl) rfl rfl fun a hF=>?_
      refine Rw.stF hF (g_pickT hF rfl rfl) rfl rfl fun a hF=>?_
      refine Rw.nilF ?_
      refine tN ?_
      refine Rw.c_Fl hF rfl ?_
      refine Rw.wp_skip ?_
      refine iN ?_
      exact ⟨(Rw.KeepG.of_ext hx1).trans (hKG.mono (by omega)),by rw [hmF_yes hk];exact hJ3,(hKw.trans (Rw.KeepG.of_ext hx1)).trans hKG⟩
     ·
      refine Rw.stYF hF rfl rfl rfl (g_not hF rfl) rfl rfl fun a hF=>?_
      refine Rw.stF hF (g_pickT hF rfl rfl) rfl rfl fun a hF=>?_
      refine Rw.nilF ?_
      refine tN ?_
      refine Rw.c_T hF rfl ?_
      refine Rw.wp_ret ?_
      refine iR ?_
      exact ⟨(Rw.KeepG.of_ext hx1).trans (hKG.mono (by omega)),.inr hX3,(hKw.trans (Rw.KeepG.of_ext hx1)).trans hKG⟩
    ·
     simp only [decide_eq_false hk] at hF
     refine Rw.stSF hF rfl rfl rfl rfl rfl fun a hF=>?_
     refine Rw.stSF hF rfl rfl rfl rfl rfl fun a hF=>?_
     refine Rw.stSF hF rfl rfl rfl rfl rfl fun a hF=>?_
     refine Rw.stSF hF rfl rfl rfl rfl rfl fun a hF=>?_
     refine Rw.stF hF (g_pickF hF rfl rfl) rfl rfl fun a hF=>?_
     refine Rw.nilF ?_
     refine tN ?_
     refine Rw.c_Fl hF rfl ?_
     refine Rw.wp_skip ?_
     refine iN ?_
     exact ⟨Rw.KeepG.of_ext hM.below,by rw [hmF_no hk];exact hJe _ _ _ hJw hM.below,hKw.trans (Rw.KeepG.of_ext hM.below)⟩
  ·
   intro D0 W hgD hI hD0
   rw [Rw.addD_mark hF]
   refine iN ?_
   refine Rw.fin0K rfl hF.defers hD0 ⟨⟨_,rfl⟩,?_⟩
   exact .inl (hJp _ _ _ _ _ (by omega) hI.1 hD0 (fun _ _ e=>by cases e))
  ·
   intro D0 W hgD hX hD0
   rw [Rw.addD_mark hF]
   refine iR ?_
   refine Rw.fin0K' rfl hF.defers hD0 ⟨⟨_,rfl⟩,?_⟩
   exact hX.1.elim (fun z=>.inl (hJp _ _ _ _ _ (by omega) z hD0 (fun _ _ e=>by cases e))) (fun z=>.inr (hXp _ _ _ _ (by omega) z hD0 (fun _ _ e=>by cases e)))
end Go.Proofs.Ytklpefdaplchbaa
