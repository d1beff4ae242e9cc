import Derived.Test.YtmlnjicajdbjlaaGreatDoorZ21
set_option linter.unusedVariables false
set_option linter.unusedSimpArgs false
namespace Go.Proofs.YtmlnjicajdbjlaaGreatDoor
open Go Go.RowKit Go.Sw Go.Ech
open Classical
theorem ty_ag_26:aggP Tryz.prog 26=some 224:=by kernel_rfl
theorem degH_exists {p n:Nat}{T:Nat→Nat→Nat→Nat}{uu:Nat→Nat}(W:Nat→Nat→Nat)(hp:primeN p)(hM:∀ i c,(fun r c=>imP p n T uu (kkE p (nilE p n)) c r) i c<p):∃ rN:Nat→Nat,∀ i,DegH p n T uu (W i) (rN i):=by
  rcases nf_cases (n:=n) (m:=n) hp hM with hne | hzk
  · obtain ⟨r,V,hIK⟩:=isKer_exists (n:=n) (m:=n) hp hM
    obtain ⟨R,hR⟩:=isRk_all (n:=n) (m:=r) (M:=fun k=>ptM p n T (W k) (padN n V)) hp (fun k=>ptM_lt (by have:=hp.two;omega));refine ⟨R,fun i=>.inl ⟨hne,hpos_of hp.two hne,fun r' V' h'=>?_⟩⟩;obtain ⟨rfl,e⟩:=IsKer.unique hp.two hIK h';intro a Z hZ;refine hR i a Z (hZ.same fun j hj c hc=>?_);have e2:padN n V' j=padN n V j:=funext fun c=>by
      unfold padN;split
      · exact (e j hj c (by assumption)).symm
      · rfl
    unfold ptM;rw [e2]
  · exact ⟨fun _=>0,fun i=>.inr ⟨hzk,rfl⟩⟩
theorem rb_exists {p n:Nat}{T:Nat→Nat→Nat→Nat}(W:Nat→Nat→Nat)(hp:primeN p)(hn:n≤6):∃ rB:Nat→Nat,(∀ i,IsRk p n (ptM p n T (W i) (fun i q=>if q=i then 1 else 0)) n (rB i))∧∀ i,rB i≤6:=by
  obtain ⟨R,hR⟩:=isRk_all (n:=n) (m:=n) (M:=fun k=>ptM p n T (W k) (fun i q=>if q=i then 1 else 0)) hp (fun k=>ptM_lt (by have:=hp.two;omega));exact ⟨R,hR,fun i=>by have:=isRk_le hp (ptM_lt (by have:=hp.two;omega)) (hR i);omega⟩
end Go.Proofs.YtmlnjicajdbjlaaGreatDoor
