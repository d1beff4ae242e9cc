import Derived.Test.YtgioobkkkicfeaaD6
import Derived.Test.YtgioobkkkicfeaaEch28
set_option linter.unusedVariables false
set_option linter.unusedSimpArgs false
namespace Go.Proofs.Ytgioobkkkicfeaa
open Go Go.RowKit Go.Sw Go.Ech
open Classical
theorem M5 (p q:Int)(M:Nat->Nat->Nat)(sl:Value)(m:Nat)(F:Nat->Int)(w:World)(hB:∀ i j,M i j<=255)(hs:ArgSl w sl m F):CallsR Try.prog 12 #[.int .i64 p,.agg (AB q M),sl] w (fun u w'=>∃ (D1:Al) (tb:Value) (cd:Int),u = .tuple #[tb,.int .i64 cd]/\(∀ x ds,(x,ds)∈D1->w.heap.size<=x/\Blk w' x ds)/\
    (cd=0->Rc w.heap.size D1 q tb)):=by
  by_cases hc:GrpP q M
  . have h0:0<q.toNat:=by have:=hc.1;omega
    have h6:q.toNat<=6:=by have:=hc.2.1;omega
    have eq_:(q.toNat:Int)=q:=by have:=hc.1;omega
    by_cases hP:Ae p
    . have hH:=At hP
      have ep:(p.toNat:Int)=p:=by omega
      have hP':Ae (p.toNat:Int):=by rw [ep];exact hP
      by_cases hS:LJ p q.toNat m F
      . have h:=Gf p.toNat q.toNat M sl m F w h0 h6 hB hc.2.2 hP' (by rw [ep];exact hS) hs
        rw [eq_,ep] at h;refine h.mono fun u w' _ hu=>?_;obtain ⟨l,e,hr⟩:=hu;obtain ⟨D1,bt,ct,cst,e2,hle,hD,hT⟩:=PY hr;exact ⟨D1,l,0,e,hD,fun _=>⟨by omega,by omega,bt,ct,cst,e2,hle,hT⟩⟩
      . have h:=Gg p.toNat q.toNat M sl m F w h0 h6 hB hc.2.2 hP' (by rw [ep];exact hS) hs
        rw [eq_,ep] at h;exact h.mono fun u w' _ e=>⟨[],_,2,e,(fun _ _ h=>by cases h),fun e=>absurd e (by decide)⟩
    . have h:=Gh p q.toNat M sl m F w h0 h6 hB hc.2.2 hP hs
      rw [eq_] at h;exact h.mono fun u w' _ e=>⟨[],_,2,e,(fun _ _ h=>by cases h),fun e=>absurd e (by decide)⟩
  . exact (Gi p q M sl m F w hB hc hs).mono fun u w' _ e=>⟨[],_,1,e,(fun _ _ h=>by cases h),fun e=>absurd e (by decide)⟩
end Go.Proofs.Ytgioobkkkicfeaa
