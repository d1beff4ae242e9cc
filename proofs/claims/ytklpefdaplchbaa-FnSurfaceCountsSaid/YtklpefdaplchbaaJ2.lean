import Derived.Test.YtklpefdaplchbaaJ1
set_option linter.unusedVariables false
set_option linter.unusedSimpArgs false
namespace Go.Proofs.Ytklpefdaplchbaa
open Go Go.RowKit Go.Sw Go.Ech
open Classical
theorem IsGroupI_out (n:Int)(M:Nat→Nat→Nat)(w:World)(ho:n<1∨6<n) :
    CallsR Try.prog 16 #[.agg (grpC n M)] w (fun res _=>res = .bool false):=by
  refine calls_fr [.agg (grpC n M)] Try.func16 rfl Try.ntmps16 rfl fun a hF=>?_;have hM:Mem w w [none] []:=MemX.start w 1;change Fr 26 a [(0,.agg (grpC n M))] at hF;refine sr<|stR hF (d_box 0 hM hF rfl) rfl ?_;rintro _ w' a ⟨b1,rfl,hM,-⟩ hF;change Mem w w' [some (b1,grpC n M)] [] at hM;refine ag hF rfl rfl fun a hF=>nt<|sq<|sr<|st hF (g_fieldAddr ty_fo_27_0 hF rfl) rfl fun a hF=>st hF (g_load ty_on_2 hF rfl (hM.row 0 rfl) (grpC_n (by omega))) rfl fun a hF=>st hF (g_lss hF rfl rfl) rfl fun a hF=>mv hF rfl rfl fun a hF=>?_
  by_cases g2:(n:Int)<1
  · first | rw [decide_eq_true g2] at hF | simp only [decide_eq_true g2] at hF
    refine stS hF rfl rfl rfl rfl rfl fun a hF=>stS hF rfl rfl rfl rfl rfl fun a hF=>stS hF rfl rfl rfl rfl rfl fun a hF=>st hF (g_pickT hF rfl rfl) rfl fun a hF=>mv hF rfl rfl fun a hF=>stS hF rfl rfl rfl rfl rfl fun a hF=>stS hF rfl rfl rfl rfl rfl fun a hF=>stS hF rfl rfl rfl rfl rfl fun a hF=>st hF (g_pickT hF rfl rfl) rfl fun a hF=>nt<|c_T hF rfl<|sr<|ag hF rfl rfl fun a hF=>nt<|wp_ret<|tR<|fin1 rfl hF.defers (res_tmp hF rfl) ⟨_,rfl,hM.below,?_⟩
    show _=_
    rfl
  first | rw [decide_eq_false g2] at hF | simp only [decide_eq_false g2] at hF
  refine stY hF rfl rfl rfl (g_fieldAddr ty_fo_27_0 hF rfl) rfl fun a hF=>stY hF rfl rfl rfl (g_load ty_on_2 hF rfl (hM.row 0 rfl) (grpC_n (by omega))) rfl fun a hF=>stY hF rfl rfl rfl (g_gtr hF rfl rfl) rfl fun a hF=>st hF (g_pickF hF rfl rfl) rfl fun a hF=>mv hF rfl rfl fun a hF=>?_
  by_cases g4:6<(n:Int)
  · first | rw [decide_eq_true g4] at hF | simp only [decide_eq_true g4] at hF
    refine stS hF rfl rfl rfl rfl rfl fun a hF=>stS hF rfl rfl rfl rfl rfl fun a hF=>stS hF rfl rfl rfl rfl rfl fun a hF=>st hF (g_pickT hF rfl rfl) rfl fun a hF=>nt<|c_T hF rfl<|sr<|ag hF rfl rfl fun a hF=>nt<|wp_ret<|tR<|fin1 rfl hF.defers (res_tmp hF rfl) ⟨_,rfl,hM.below,?_⟩
    show _=_
    rfl
  first | rw [decide_eq_false g4] at hF | simp only [decide_eq_false g4] at hF
  exfalso;omega
theorem l06Is_out (n:Int)(M:Nat→Nat→Nat)(w:World)(ho:n<1∨6<n) :
    CallsR Try.prog 19 #[.agg (grpC n M)] w (fun res _=>res = .bool false):=by
  refine calls_fr [.agg (grpC n M)] Try.func19 rfl Try.ntmps19 rfl fun a hF=>?_;have hM:Mem w w [none] []:=MemX.start w 1;change Fr 126 a [(0,.agg (grpC n M))] at hF;refine sr<|stR hF (d_box 0 hM hF rfl) rfl ?_;rintro _ w' a ⟨b1,rfl,hM,-⟩ hF;change Mem w w' [some (b1,grpC n M)] [] at hM;refine ag hF rfl rfl fun a hF=>ns<|st hF (g_fieldAddr ty_fo_27_0 hF rfl) rfl fun a hF=>st hF (g_load ty_on_2 hF rfl (hM.row 0 rfl) (grpC_n (by omega))) rfl fun a hF=>ag hF rfl rfl fun a hF=>nt<|sq<|sr<|mv hF rfl rfl fun a hF=>stR hF (d_call Try.call20 hF (.cons rfl (.cons rfl (.cons rfl .nil))) (l01In_ok (n) (1) (6) _)) rfl ?_;rintro _ w' a ⟨hx,rfl⟩ hF;have hM:=hM.ext hx;refine st hF (g_notP hF rfl) rfl fun a hF=>nt<|c_cond hF rfl (fun h2=>?_) (fun h2=>?_)
  · refine sq ?_
    refine wp_region_lit<|ag hF rfl rfl fun a hF=>nt<|wp_ret<|tR<|fin1 rfl hF.defers (res_tmp hF rfl) ⟨_,rfl,hM.below,?_⟩
    show _=_
    rfl
  exfalso;omega
theorem isG_I (n:Int)(M:Nat→Nat→Nat)(w:World)(hB:∀ i j,M i j≤255):CallsR Try.prog 16 #[.agg (grpC n M)] w (fun res _=>res = .bool (decide (GrpP n M))):=by
  by_cases ho:n<1∨6<n
  · exact CallsR.val (IsGroupI_out n M w ho) (congrArg Value.bool (decide_eq_false (fun h=>by have:=h.1;have:=h.2.1;omega)).symm)
  · have e:(n.toNat:Int)=n:=by omega
    have h:=IsGroupI_ok n.toNat M w (by omega) (by omega) hB;rw [e] at h;exact CallsR.val h (congrArg Value.bool (decide_eq_decide.2 ⟨fun q=>⟨by omega,by omega,q⟩,fun q=>q.2.2⟩))
theorem isG_S (n:Int)(M:Nat→Nat→Nat)(w:World)(hB:∀ i j,M i j≤255):CallsR Try.prog 19 #[.agg (grpC n M)] w (fun res _=>res = .bool (decide (GrpP n M))):=by
  by_cases ho:n<1∨6<n
  · exact CallsR.val (l06Is_out n M w ho) (congrArg Value.bool (decide_eq_false (fun h=>by have:=h.1;have:=h.2.1;omega)).symm)
  · have e:(n.toNat:Int)=n:=by omega
    have h:=l06Is_ok n.toNat M w (by omega) (by omega) hB;rw [e] at h;exact CallsR.val h (congrArg Value.bool (decide_eq_decide.2 ⟨fun q=>⟨by omega,by omega,q⟩,fun q=>q.2.2⟩))
theorem GrpP.mk {n:Nat}{M:Nat→Nat→Nat}(hn0:0<n)(hn:n≤6)(hG:TabP n M):GrpP (n:Int) M:=⟨by omega,by omega,hG⟩
theorem TabP.lt {n:Nat}{M:Nat→Nat→Nat}(h:TabP n M){i j:Nat}(hi:i<6)(hj:j<6):M i j<n:=(h.1 i hi j hj).1
def cmF (M:Nat→Nat→Nat) (i j:Nat):Nat:=if M i j=M j i then 1 else 0
def cpI (M:Nat→Nat→Nat) (n i j:Nat):Nat:=sumTo (fun a=>sumTo (fun b=>cmF M a b) n) i+sumTo (fun b=>cmF M i b) j
end Go.Proofs.Ytklpefdaplchbaa
