import Derived.Test.YtklpefdaplchbaaK9
import Derived.Test.YtklpefdaplchbaaSw9
import Derived.Test.YtklpefdaplchbaaEch6
import Derived.Test.YtklpefdaplchbaaSw93
set_option linter.unusedVariables false
set_option linter.unusedSimpArgs false
namespace Go.Proofs.Ytklpefdaplchbaa
open Go Go.RowKit Go.Sw Go.Ech
open Classical
theorem countChoices_ok (n l:Nat)(w:World)(hn:n≤6)(hl:l≤16) :
    CallsR Try.prog 55 #[.int .i64 (((n:Nat):Int)),.int .i64 (((l:Nat):Int))] w (fun res _=>res = .int .i64 ((n ^ l:Nat):Int)):=by
  refine calls_fr [.int .i64 (((n:Nat):Int)),.int .i64 (((l:Nat):Int))] Try.func55 rfl Try.ntmps55 rfl fun a hF=>?_
  have hM:Mem w w [] []:=MemX.start w 0
  change Fr 14 a [(0,.int .i64 (((n:Nat):Int))),(1,.int .i64 (((l:Nat):Int)))] at hF
  refine sq ?_
  refine wp_region_lit ?_
  refine st hF (g_assign hF rfl) rfl fun a hF=>?_
  refine wpList_nil ?_
  refine tN ?_
  refine sq ?_
  refine wp_region_lit ?_
  refine st hF (g_assign hF rfl) rfl fun a hF=>?_
  refine wpList_nil ?_
  refine tN ?_
  refine sq ?_
  refine sq ?_
  refine wp_region_lit ?_
  refine st hF (g_move hF rfl) rfl fun a hF=>st hF (g_move hF rfl) rfl fun a hF=>?_
  refine wpList_nil ?_
  refine tN ?_
  refine wp_block ?_
  change Mem w _ [] [] at hM
  refine c_loop (fun (kk:Nat) a w'=>kk≤l∧(True)∧Fr 14 a [(0,.int .i64 (((n:Nat):Int))),(4,.int .i64 (0)),(6,.int .i64 (((l:Nat):Int))),(7,.int .i64 (((kk:Nat):Int))),(5,.int .i64 (((n ^ kk:Nat):Int)))]∧Mem w w' [] []) (fun kk=>l - kk) 0 ?_ ?_
  ·
   refine ⟨by omega,trivial,hF.sub _ (by repeat' constructor),?_⟩
   exact hM
  ·
   clear hF hM
   rintro gk a w' ⟨hgk,hinv1,hF,hM⟩
   refine sq ?_
   refine wp_region_lit ?_
   refine st hF (g_lss hF rfl rfl) rfl fun a hF=>?_
   refine wpList_nil ?_
   refine tN ?_
   refine sq ?_
   refine c_cond hF rfl (fun h1=>?_) (fun h1=>?_)
   ·
    refine wp_skip ?_
    refine tN ?_
    refine sq ?_
    refine wp_block ?_
    refine wp_region_lit ?_
    refine st hF (g_move hF rfl) rfl fun a hF=>st hF (g_move hF rfl) rfl fun a hF=>st hF (g_mul hF rfl rfl (show _=((n ^ (gk+1):Nat):Int) from (by have hb:=pow_bd hn (show gk+1≤16 by omega);rw [Nat.pow_succ] at hb ⊢;exact mul_nat (n ^ gk) n (by omega)))) rfl fun a hF=>st hF (g_assign hF rfl) rfl fun a hF=>?_
    refine wpList_nil ?_
    refine iN ?_
    refine tN ?_
    refine wp_region_lit ?_
    refine st hF (g_add hF rfl rfl (add_nat (gk) (1) (by omega))) rfl fun a hF=>st hF (g_move hF rfl) rfl fun a hF=>?_
    refine wpList_nil ?_
    refine tN ?_
    refine ⟨gk+1,⟨by omega,trivial,hF.sub _ (by repeat' constructor),?_⟩,by omega⟩
    exact hM
   ·
    obtain rfl:l=gk:=by omega
    refine wp_exit ?_
    refine tX ?_
    refine tX ?_
    refine ib_same ?_
    refine tN ?_
    refine sq ?_
    refine wp_region_lit ?_
    refine st hF (g_move hF rfl) rfl fun a hF=>st hF (g_assign hF rfl) rfl fun a hF=>?_
    refine wpList_nil ?_
    refine tN ?_
    refine wp_ret ?_
    refine fin1 rfl hF.defers (res_tmp hF rfl) ⟨_,rfl,hM.below,?_⟩
    show _=_
    rfl
end Go.Proofs.Ytklpefdaplchbaa
namespace Go.Proofs.Ytklpefdaplchbaa
open Go Go.RowKit Go.Sw Go.Ech
open Classical
end Go.Proofs.Ytklpefdaplchbaa
namespace Go.Proofs.Ytklpefdaplchbaa
open Go Go.RowKit Go.Sw Go.Ech
open Classical
end Go.Proofs.Ytklpefdaplchbaa
namespace Go.Proofs.Ytklpefdaplchbaa
open Go Go.RowKit Go.Sw Go.Ech
open Classical
def dgF (W j c:Nat):Nat:=if c%(W+1)=0∧c / (W+1)<j then 1 else 0
end Go.Proofs.Ytklpefdaplchbaa
namespace Go.Proofs.Ytklpefdaplchbaa
open Go Go.RowKit Go.Sw Go.Ech
open Classical
def tvF (n k:Nat) (V:Nat→Nat→Nat) (c:Nat):Nat:=if c<k*n then V (c / n) (c%n) else 0
end Go.Proofs.Ytklpefdaplchbaa
namespace Go.Proofs.Ytklpefdaplchbaa
open Go Go.RowKit Go.Sw Go.Ech
open Classical
def in6 (f:Nat→Nat) (c:Nat):Nat:=if c<6 then f c else 0
end Go.Proofs.Ytklpefdaplchbaa
namespace Go.Proofs.Ytklpefdaplchbaa
open Go Go.RowKit Go.Sw Go.Ech
open Classical
def tenH (p n i o:Int):Prop:=primeP p∧(1≤n∧n≤6)∧(0≤i∧i≤8)∧(0≤o∧o≤8)
def TenP (p n i o:Int) (m:Nat) (g:Nat→Int):Prop:=tenH p n i o∧n.toNat ^ (i.toNat+o.toNat)≤1296∧m=n.toNat ^ (i.toNat+o.toNat)∧∀ c,c<m→0≤g c∧g c<p
instance (p n i o:Int) (m:Nat) (g:Nat→Int):Decidable (TenP p n i o m g):=by unfold TenP tenH;infer_instance
def NumP (p:Int) (m:Nat) (g:Nat→Int):Prop:=∀ c,c<m→0≤g c∧g c<p
instance (p:Int) (m:Nat) (g:Nat→Int):Decidable (NumP p m g):=by unfold NumP;infer_instance
end Go.Proofs.Ytklpefdaplchbaa
namespace Go.Proofs.Ytklpefdaplchbaa
open Go Go.RowKit Go.Sw Go.Ech
open Classical
def adF (p k:Nat) (f h:Nat→Nat) (c:Nat):Nat:=(f c+k*h c)%p
end Go.Proofs.Ytklpefdaplchbaa
namespace Go.Proofs.Ytklpefdaplchbaa
open Go Go.RowKit Go.Sw Go.Ech
open Classical
theorem ty_si_35:slI Try.prog 35=some (2,some (.int .i64 (0)),1,8):=by kernel_rfl
theorem ty_sl_35:sliceOf Try.prog 35=some 1:=by kernel_rfl
theorem choices_ok (sz lg:Nat)(w:World) :
    CallsR Try.prog 41 #[.int .i64 (((sz:Nat):Int)),.int .i64 (((lg:Nat):Int))] w (fun v w'=>∃ bs bl,v = .func (.func 54) #[] #[ptr bs 0,ptr bl 0]∧w.heap.size≤bs∧w.heap.size≤bl∧Rw.CapK bs bl sz lg w'):=by
  refine calls_fr [.int .i64 (((sz:Nat):Int)),.int .i64 (((lg:Nat):Int))] Try.func41 rfl Try.ntmps41 rfl fun a hF=>?_
  have hM:Mem w w [none,none] []:=MemX.start w 2
  change Fr 6 a [(0,.int .i64 (((sz:Nat):Int))),(1,.int .i64 (((lg:Nat):Int)))] at hF
  refine sq ?_
  refine wp_region_lit ?_
  refine stR hF (d_box 0 hM hF rfl) rfl ?_
  rintro _ w' a ⟨b1,rfl,hM,-⟩ hF
  change Mem w w' [some (b1,#[.int .i64 (((sz:Nat):Int))]),none] [] at hM
  refine stR hF (d_box 1 hM hF rfl) rfl ?_
  rintro _ w' a ⟨b2,rfl,hM,-⟩ hF
  change Mem w w' [some (b1,#[.int .i64 (((sz:Nat):Int))]),some (b2,#[.int .i64 (((lg:Nat):Int))])] [] at hM
  refine st hF (g_assign hF rfl) rfl fun a hF=>?_
  refine wpList_nil ?_
  refine tN ?_
  refine sq ?_
  refine wp_region_lit ?_
  refine st hF (g_makeFunc2 hF rfl rfl) rfl fun a hF=>st hF (g_assign hF rfl) rfl fun a hF=>?_
  refine wpList_nil ?_
  refine tN ?_
  refine wp_ret ?_
  refine fin1 rfl hF.defers (res_tmp hF rfl) ⟨_,rfl,hM.below,?_⟩
  exact ⟨b1,b2,rfl,hM.ge 0 rfl,hM.ge 1 rfl,hM.row 0 rfl,hM.row 1 rfl⟩
theorem choicesIt (bs bl sz lg:Nat)(hs0:0<sz)(hsz:sz≤6)(hlg:lg≤16):Rw.IterC Try.prog 54 #[ptr bs 0,ptr bl 0] (sz ^ lg) (Rw.ArgCh sz lg) (Rw.CapK bs bl sz lg):=by
  intro l J Jx w hJe hJK hY h0
  rw [show ((#[.func (.yield l) #[] #[]]:Array Value)++#[ptr bs 0,ptr bl 0])=[.func (.yield l) #[] #[],ptr bs (0),ptr bl (0)].toArray from by simp]
  refine Rw.callsW_fr [.func (.yield l) #[] #[],ptr bs (0),ptr bl (0)] Try.func54 rfl Try.ntmps54 rfl fun a hF=>?_
  have hpb:=pow_bd hsz hlg
  have hcap:=hJK 0 w h0
  have hM:Mem w w [none] [(bs,#[.int .i64 ((sz:Nat):Int)]),(bl,#[.int .i64 ((lg:Nat):Int)])]:=MemX.startD w 1 _ (startD2 hcap.1 hcap.2)
  change Fr 38 a [(0,.func (.yield l) #[] #[]),(1,ptr bs (0)),(2,ptr bl (0))] at hF
  refine sq ?_
  refine wp_region_lit ?_
  refine st hF (g_load ty_on_2 hF rfl (hM.fz 0 rfl) rfl) rfl fun a hF=>st hF (g_load ty_on_2 hF rfl (hM.fz 1 rfl) rfl) rfl fun a hF=>?_
  refine stR hF (d_call Try.call55 hF (.cons rfl (.cons rfl .nil)) (countChoices_ok (sz) (lg) _ (by omega) (by omega))) rfl ?_
  rintro _ w' a ⟨hx,rfl⟩ hF
  have hM:=hM.ext hx
  refine st hF (g_move hF rfl) rfl fun a hF=>?_
  refine wpList_nil ?_
  refine tN ?_
  refine wp_block ?_
  change Mem w _ [none] [(bs,#[.int .i64 ((sz:Nat):Int)]),(bl,#[.int .i64 ((lg:Nat):Int)])] at hM
  refine c_loop (fun (kk:Nat) a w'=>kk≤sz ^ lg∧∃ (w:World),(J kk w)∧Fr 38 a [(0,.func (.yield l) #[] #[]),(1,ptr bs (0)),(2,ptr bl (0)),(10,.int .i64 ((((sz) ^ (lg):Nat):Int))),(11,.int .i64 (((kk:Nat):Int)))]∧Mem w w' [none] [(bs,#[.int .i64 ((sz:Nat):Int)]),(bl,#[.int .i64 ((lg:Nat):Int)])]) (fun kk=>sz ^ lg - kk) 0 ?_ ?_
  ·
   refine ⟨by omega,w,h0,hF.sub _ (by repeat' constructor),?_⟩
   exact hM
  ·
   clear hF hM
   rintro gk a w' ⟨hgk,w,hJ,hF,hM⟩
   refine sq ?_
   refine wp_region_lit ?_
   refine st hF (g_lss hF rfl rfl) rfl fun a hF=>?_
   refine wpList_nil ?_
   refine tN ?_
   refine sq ?_
   refine c_cond hF rfl (fun h1=>?_) (fun h1=>?_)
   ·
    refine wp_skip ?_
    refine tN ?_
    refine sq ?_
    refine wp_block ?_
    refine sq ?_
    refine wp_region_lit ?_
    refine st hF (g_move hF rfl) rfl fun a hF=>st hF (g_assign hF rfl) rfl fun a hF=>?_
    refine wpList_nil ?_
    refine tN ?_
    refine sq ?_
    refine wp_region_lit ?_
    refine st hF (g_load ty_on_2 hF rfl (hM.fz 1 rfl) rfl) rfl fun a hF=>?_
    refine stR hF (d_make1 (len:=lg) 0 hM hF ty_si_35 rfl rfl rfl (by omega) (by decide)) rfl ?_
    rintro _ w' a ⟨b3,rfl,hM,-⟩ hF
    change Mem w w' [some (b3,numC (lg) (fun _=>0))] [(bs,#[.int .i64 ((sz:Nat):Int)]),(bl,#[.int .i64 ((lg:Nat):Int)])] at hM
    refine st hF (g_assign hF rfl) rfl fun a hF=>?_
    refine wpList_nil ?_
    refine tN ?_
    refine sq ?_
    refine wp_region_lit ?_
    refine st hF (g_move hF rfl) rfl fun a hF=>st hF (g_assign hF rfl) rfl fun a hF=>?_
    refine wpList_nil ?_
    refine tN ?_
    refine sq ?_
    refine sq ?_
    refine wp_region_lit ?_
    refine st hF (g_load ty_on_2 hF rfl (hM.fz 1 rfl) rfl) rfl fun a hF=>st hF (g_sub hF rfl rfl (wrap_i64 (by omega) (by omega))) rfl fun a hF=>st hF (g_assign hF rfl) rfl fun a hF=>?_
    refine wpList_nil ?_
    refine tN ?_
    refine wp_block ?_
    change Mem w _ [some (b3,numC (lg) (fun _=>0))] [(bs,#[.int .i64 ((sz:Nat):Int)]),(bl,#[.int .i64 ((lg:Nat):Int)])] at hM
    refine c_loop (fun (kk:Nat) a w'=>kk≤lg∧∃ (rr:Nat),∃ (ll:Int),(rr=gk / sz ^ kk∧ll=((lg:Nat):Int) - 1 - ((kk:Nat):Int))∧Fr 38 a [(0,.func (.yield l) #[] #[]),(1,ptr bs (0)),(2,ptr bl (0)),(10,.int .i64 ((((sz) ^ (lg):Nat):Int))),(11,.int .i64 (((gk:Nat):Int))),(12,.bool (decide ((((gk:Nat):Int):Int)<(((sz) ^ (lg):Nat):Int)))),(13,.int .i64 (((gk:Nat):Int))),(4,.int .i64 (((gk:Nat):Int))),(14,.int .i64 (((lg:Nat):Int))),(15,.slice (some ⟨b3,0,none⟩) (lg) (lg)),(5,.slice (some ⟨b3,0,none⟩) (lg) (lg)),(16,.int .i64 (((gk:Nat):Int))),(17,.int .i64 (((lg:Nat):Int))),(18,.int .i64 (((lg:Nat):Int) - 1)),(6,.int .i64 (((rr:Nat):Int))),(7,.int .i64 (ll))]∧Mem w w' [some (b3,numC (lg) (Rw.digG sz lg gk kk))] [(bs,#[.int .i64 ((sz:Nat):Int)]),(bl,#[.int .i64 ((lg:Nat):Int)])]) (fun kk=>lg - kk) 0 ?_ ?_
    ·
     refine ⟨by omega,gk,(((lg:Nat):Int) - 1),⟨by rw [Nat.pow_zero,Nat.div_one],by omega⟩,hF.sub _ (by repeat' constructor),?_⟩
     exact hM.rowc 0 rfl (numC_congr fun c hc=>(if_neg (by omega)).symm)
    ·
     clear hF hM
     rintro gj a w' ⟨hgj,rr,ll,hinv2,hF,hM⟩
     have hrr:rr≤gk:=by rw [hinv2.1];exact Nat.div_le_self _ _
     have hrs:=Nat.div_le_self rr sz
     refine sq ?_
     refine sq ?_
     refine wp_region_lit ?_
     refine st hF (g_move hF rfl) rfl fun a hF=>st hF (g_geq hF rfl rfl) rfl fun a hF=>?_
     refine wpList_nil ?_
     refine tN ?_
     refine c_cond hF rfl (fun h4=>?_) (fun h4=>?_)
     ·
      refine wp_skip ?_
      refine tN ?_
      refine sq ?_
      refine wp_block ?_
      refine sq ?_
      refine wp_region_lit ?_
      refine st hF (g_move hF rfl) rfl fun a hF=>st hF (g_move hF rfl) rfl fun a hF=>st hF (g_move hF rfl) rfl fun a hF=>st hF (g_load ty_on_2 hF rfl (hM.fz 0 rfl) rfl) rfl fun a hF=>st hF (g_rem hF rfl rfl (by omega) (rem_nat (rr) (sz))) rfl fun a hF=>st hF (g_indexSl (i:=lg - 1 - gj) ty_sl_35 hF rfl rfl (by omega) (by omega)) rfl fun a hF=>?_
      refine stN hF (d_store 0 hM rfl ty_on_2 hF rfl rfl rfl (by first | omega | (simp only [fnC_size,cells_size,vecC_size,tabC_size,planeC_size,tenC_size,smC_size,numC_size,numI_size]<;>omega) | (simp only [Array.size_setIfInBounds];omega) | simp)) ?_
      intro _ w' a hM hF
      rw [show (numC (lg) (Rw.digG sz lg gk gj)).setIfInBounds (0+(lg - 1 - gj)*1) (.int .i64 ((((rr)%(sz):Nat):Int)))=numC (lg) (fun c=>if c=(lg - 1 - gj) then (rr)%(sz) else (Rw.digG sz lg gk gj) c) from numC_set (k:=(lg - 1 - gj)) (by omega) (fun c _=>rfl)] at hM
      change Mem w w' [some (b3,numC (lg) (fun c=>if c=(lg - 1 - gj) then (rr)%(sz) else (Rw.digG sz lg gk gj) c))] [(bs,#[.int .i64 ((sz:Nat):Int)]),(bl,#[.int .i64 ((lg:Nat):Int)])] at hM
      refine wpList_nil ?_
      refine tN ?_
      refine wp_region_lit ?_
      refine st hF (g_move hF rfl) rfl fun a hF=>st hF (g_load ty_on_2 hF rfl (hM.fz 0 rfl) rfl) rfl fun a hF=>st hF (g_quo hF rfl rfl (by omega) (quo_nat (rr) (sz) (by omega))) rfl fun a hF=>st hF (g_assign hF rfl) rfl fun a hF=>?_
      refine wpList_nil ?_
      refine iN ?_
      refine tN ?_
      refine wp_region_lit ?_
      refine st hF (g_move hF rfl) rfl fun a hF=>st hF (g_sub hF rfl rfl (wrap_i64 (by omega) (by omega))) rfl fun a hF=>st hF (g_assign hF rfl) rfl fun a hF=>?_
      refine wpList_nil ?_
      refine tN ?_
      refine ⟨gj+1,⟨by omega,(rr / sz),(ll - 1),⟨by rw [hinv2.1];exact Rw.div_step,by omega⟩,hF.sub _ (by repeat' constructor),?_⟩,by omega⟩
      exact hM.rowc 0 rfl (numC_congr fun c hc=>by rw [← Rw.digG_put (by omega),← hinv2.1])
     ·
      obtain rfl:lg=gj:=by omega
      refine wp_exit ?_
      refine tX ?_
      refine tX ?_
      refine ib_same ?_
      refine tN ?_
      refine sq ?_
      have hM:=hM.rowc (cs':=numC (lg) (Rw.digF sz lg gk)) 0 rfl (numC_congr fun c hc=>if_pos (by omega))
      refine Rw.region_W ?_
      refine Rw.stW hF (g_move hF rfl) rfl fun a hF=>?_
      refine Rw.stW hF (g_move hF rfl) rfl fun a hF=>?_
      refine Rw.stW hF (g_move hF rfl) rfl fun a hF=>?_
      obtain ⟨fy,ty,ay,by',hy,hR⟩:=hY gk w _ _ (by omega) hJ hM.below ⟨b3,rfl,hM.ge 0 rfl,hM.row 0 rfl⟩
      refine Rw.stYield (R:=fun v W'=>(v = .bool true∧J (gk+1) W')∨(v = .bool false∧Jx W')) hF rfl (.cons rfl (.cons rfl .nil)) rfl ⟨fy,ty,ay,by',hy,hR.mono fun e W' h=>h.elim (fun h=>⟨_,h.1,.inl ⟨rfl,h.2⟩⟩) (fun h=>⟨_,h.1,.inr ⟨rfl,h.2⟩⟩)⟩ ?_
      rintro v w' a (⟨rfl,hJ3⟩ | ⟨rfl,hX3⟩) hF
      ·
       refine Rw.stW hF (g_not hF rfl) rfl fun a hF=>?_
       refine Rw.nilW ?_
       have hcap:=hJK _ _ hJ3
       have hM:Mem w' w' [none] [(bs,#[.int .i64 ((sz:Nat):Int)]),(bl,#[.int .i64 ((lg:Nat):Int)])]:=MemX.startD w' 1 _ (startD2 hcap.1 hcap.2)
       refine tN ?_
       refine c_Fl hF rfl ?_
       refine wp_skip ?_
       refine iN ?_
       refine tN ?_
       refine wp_region_lit ?_
       refine st hF (g_add hF rfl rfl (add_nat (gk) (1) (by omega))) rfl fun a hF=>st hF (g_move hF rfl) rfl fun a hF=>?_
       refine wpList_nil ?_
       refine tN ?_
       refine ⟨gk+1,⟨by omega,w',hJ3,hF.sub _ (by repeat' constructor),?_⟩,by omega⟩
       exact hM
      ·
       refine Rw.stW hF (g_not hF rfl) rfl fun a hF=>?_
       refine Rw.nilW ?_
       refine tN ?_
       refine c_T hF rfl ?_
       refine wp_ret ?_
       refine iR ?_
       refine tR ?_
       refine tR ?_
       refine iR ?_
       refine fin0 rfl hF.defers ⟨⟨_,rfl⟩,?_⟩
       exact .inr hX3
   ·
    obtain rfl:sz ^ lg=gk:=by omega
    refine wp_exit ?_
    refine tX ?_
    refine tX ?_
    refine ib_same ?_
    refine fin0n rfl hF.defers ⟨⟨_,rfl⟩,?_⟩
    exact .inl (hJe _ _ _ hJ hM.below)
end Go.Proofs.Ytklpefdaplchbaa
