import Derived.Test.YtnjdpgaofjbndaaD6
import Derived.Test.YtnjdpgaofjbndaaSw118
import Derived.Test.YtnjdpgaofjbndaaD5
set_option linter.unusedVariables false
set_option linter.unusedSimpArgs false
namespace Go.Proofs.Ytnjdpgaofjbndaa
open Go Go.RowKit Go.Sw Go.Ech
open Classical
theorem Cob_any (p q:Int)(M:Nat→Nat→Nat)(sl:Value)(m:Nat)(F:Nat→Int)(w:World)(hB:∀ i j,M i j≤255)(hs:ArgSl w sl m F):CallsR Try.prog 55 #[.int .i64 p,.agg (grpC q M),sl] w (fun u w'=>∃ (D1:Froz) (tb:Value) (cd:Int),u = .tuple #[tb,.int .i64 cd]∧(∀ x ds,(x,ds)∈D1→w.heap.size≤x∧Blk w' x ds)∧
    (cd=0→TabOk w.heap.size D1 q tb)):=by
  by_cases hc:GrpP q M
  · have h0:0<q.toNat:=by have:=hc.1;omega
    have h6:q.toNat≤6:=by have:=hc.2.1;omega
    have eq_:(q.toNat:Int)=q:=by have:=hc.1;omega
    by_cases hP:primeP p
    · have hp2:=primeP_pos2 hP
      have ep:(p.toNat:Int)=p:=by omega
      have hP':primeP (p.toNat:Int):=by rw [ep];exact hP
      by_cases hS:LstP p q.toNat m F
      · have h:=CoboundarySW p.toNat q.toNat M sl m F w h0 h6 hB hc.2.2 hP' (by rw [ep];exact hS) hs
        rw [eq_,ep] at h;refine h.mono fun u w' _ hu=>?_;obtain ⟨l,e,hr⟩:=hu;obtain ⟨D1,bt,ct,cst,e2,hle,hD,hT⟩:=tabX_of hr;exact ⟨D1,l,0,e,hD,fun _=>⟨by omega,by omega,bt,ct,cst,e2,hle,hT⟩⟩
      · have h:=CoboundaryST p.toNat q.toNat M sl m F w h0 h6 hB hc.2.2 hP' (by rw [ep];exact hS) hs
        rw [eq_,ep] at h;exact h.mono fun u w' _ e=>⟨[],_,2,e,(fun _ _ h=>by cases h),fun e=>absurd e (by decide)⟩
    · have h:=CoboundarySP p q.toNat M sl m F w h0 h6 hB hc.2.2 hP hs
      rw [eq_] at h;exact h.mono fun u w' _ e=>⟨[],_,2,e,(fun _ _ h=>by cases h),fun e=>absurd e (by decide)⟩
  · exact (CoboundarySA p q M sl m F w hB hc hs).mono fun u w' _ e=>⟨[],_,1,e,(fun _ _ h=>by cases h),fun e=>absurd e (by decide)⟩
end Go.Proofs.Ytnjdpgaofjbndaa
namespace Go.Proofs.Ytnjdpgaofjbndaa
open Go Go.RowKit Go.Sw Go.Ech
open Classical
theorem DrawCountSquares_ok (m:Nat)(sl:Value)(w:World)(hc:CodeB w [] sl m) :
    CallsR Try.prog 5 #[sl] w (fun u _=>∃ (q:Int) (M:Nat→Nat→Nat) (h:Int),u = .tuple #[.agg (grpC q M),.int .i64 h]∧∀ i j,M i j≤255):=by
  refine calls_fr [sl] Try.func5 rfl Try.ntmps5 rfl fun a hF=>?_;have hM:Mem w w [none,none] []:=MemX.start w 2;change Fr 11 a [(0,sl)] at hF;refine sr<|stR hF (d_alloc 0 hM ty_ze_27) rfl ?_;rintro _ w' a ⟨b1,rfl,hM,-⟩ hF;change Mem w w' [some (b1,grpC 0 (fun _ _=>0)),none] [] at hM;refine ag hF rfl rfl fun a hF=>ns<|mv hF rfl rfl fun a hF=>stR hF (d_call Try.call13 hF (.cons rfl .nil) (l01From_ok m sl _ (hc.carry hM.bel (fun y hy=>by cases hy)))) rfl ?_;rintro _ w' a ⟨hx,b2,ha3,hh4,rfl,hge,hbk,hlha3,hlhh4⟩ hF;have hM:=hM.fill hx 1 hbk hge;change Mem w w' [some (b1,grpC 0 (fun _ _=>0)),some (b2,srcC sl ha3 hh4)] [] at hM;refine ag hF rfl rfl fun a hF=>ns<|mv hF rfl rfl fun a hF=>stR hF (d_callX Try.call14 hF (.cons rfl .nil) (l06Draw_ok b2 m ha3 hh4 sl _ (hM.row 1 rfl) (hM.code hc (k:=1) rfl) (by omega) (by omega))) rfl ?_;rintro _ w' a ⟨hx,q5,M6,ha7,hh8,rfl,hmM6,hbk,hlha7,hlhh8⟩ hF;have hM:=hM.upd (cs':=srcC sl ha7 hh8) 1 rfl hx hbk;change Mem w w' [some (b1,grpC 0 (fun _ _=>0)),some (b2,srcC sl ha7 hh8)] [] at hM;refine mv hF rfl rfl fun a hF=>stR hF (d_callX Try.call15 hF (.cons rfl (.cons rfl .nil)) (l01Near_ok b2 m ha7 hh8 sl (12) _ (hM.row 1 rfl) (hM.code hc (k:=1) rfl) (by omega) (by omega) (by omega))) rfl ?_;rintro _ w' a ⟨hx,x9,ha10,hh11,rfl,hbk,hlha10,hlhh11⟩ hF;have hM:=hM.upd (cs':=srcC sl ha10 hh11) 1 rfl hx hbk;change Mem w w' [some (b1,grpC 0 (fun _ _=>0)),some (b2,srcC sl ha10 hh11)] [] at hM;refine stN hF (d_storeAgg 0 hM rfl ty_sz_27 hF rfl rfl (grpC_one) (by simp only [sz0,grpC_size,numI_size,rowW_size,bolC_size,mri_size,srcC_size,recC_size,recZ_size]) (by simp only [sz0,grpC_size,numI_size,rowW_size,bolC_size,mri_size,srcC_size,recC_size,recZ_size]<;>omega) (splice_whole _ _ (by simp only [sz0,grpC_size,numI_size,rowW_size,bolC_size,mri_size,srcC_size,recC_size,recZ_size]))) ?_;intro _ w' a hM hF;change Mem w w' [some (b1,grpC q5 M6),some (b2,srcC sl ha10 hh11)] [] at hM;refine ag hF rfl rfl fun a hF=>nt<|wp_ret<|fin2 rfl hF.defers (res_agg ty_ag_27 hF rfl (hM.row 0 rfl) (by simp only [sz0,grpC_size,numI_size,rowW_size,bolC_size,mri_size,srcC_size,recC_size,recZ_size])) (res_tmp hF rfl) ⟨_,rfl,hM.below,?_⟩;exact ⟨_,_,_,rfl,by assumption⟩
end Go.Proofs.Ytnjdpgaofjbndaa
