import Derived.Test.YtccdgjmomcljkaaDoorY28
set_option linter.unusedVariables false
set_option linter.unusedSimpArgs false
namespace Go.Proofs.YtccdgjmomcljkaaDoor
open Go Go.RowKit Go.Sw Go.Ech
open Classical
theorem degH_exists {p n:Nat}{T:Nat→Nat→Nat→Nat}{uu:Nat→Nat}(W:Nat→Nat→Nat)(hp:primeN p)(hM:∀ i c,(fun r c=>imP p n T uu (kkE p (nilE p n)) c r) i c<p):∃ rN:Nat→Nat,∀ i,DegH p n T uu (W i) (rN i):=by
  rcases nf_cases (n:=n) (m:=n) hp hM with hne | hzk
  · obtain ⟨r,V,hIK⟩:=isKer_exists (n:=n) (m:=n) hp hM
    obtain ⟨R,hR⟩:=isRk_all (n:=n) (m:=r) (M:=fun k=>ptM p n T (W k) (padN n V)) hp (fun k=>ptM_lt (by have:=hp.two;omega));refine ⟨R,fun i=>.inl ⟨hne,hpos_of hp.two hne,fun r' V' h'=>?_⟩⟩;obtain ⟨rfl,e⟩:=IsKer.unique hp.two hIK h';intro a Z hZ;refine hR i a Z (hZ.same fun j hj c hc=>?_);have e2:padN n V' j=padN n V j:=funext fun c=>by
      unfold padN;split
      · exact (e j hj c (by assumption)).symm
      · rfl
    unfold ptM;rw [e2]
  · exact ⟨fun _=>0,fun i=>.inr ⟨hzk,rfl⟩⟩
theorem rb_exists {p n:Nat}{T:Nat→Nat→Nat→Nat}(W:Nat→Nat→Nat)(hp:primeN p)(hn:n≤6):∃ rB:Nat→Nat,(∀ i,IsRk p n (ptM p n T (W i) (fun i q=>if q=i then 1 else 0)) n (rB i))∧∀ i,rB i≤6:=by
  obtain ⟨R,hR⟩:=isRk_all (n:=n) (m:=n) (M:=fun k=>ptM p n T (W k) (fun i q=>if q=i then 1 else 0)) hp (fun k=>ptM_lt (by have:=hp.two;omega));exact ⟨R,hR,fun i=>by have:=isRk_le hp (ptM_lt (by have:=hp.two;omega)) (hR i);omega⟩
theorem law_SymC (p n:Int)(T:Nat→Nat→Nat→Nat)(f:Nat→Nat)(C0:Int)(q9:Bool)(w:World)(hSS:∀ w1,Ext w w1→CallsR Tryd.prog 28 #[.agg (algC p n T f)] w1 (fun v w2=>v = .tuple #[.bool q9,.int .i64 C0]))(hII:∀ w1,Ext w w1→CallsR Tryd.prog 29 #[.agg (algC p n T f)] w1 (fun v w2=>v = .tuple #[.bool q9,.int .i64 C0])) :
    CallsR Tryd.prog 8 #[.agg (algC p n T f)] w (fun res _=>res = .bool true):=by
  refine calls_fr [.agg (algC p n T f)] Tryd.func8 rfl Tryd.ntmps8 rfl fun a hF=>?_;have hM:Mem w w [none,none,none,none] []:=MemX.start w 4;change Fr 27 a [(0,.agg (algC p n T f))] at hF;refine sr<|stR hF (d_box 0 hM hF rfl) rfl ?_;rintro _ w' a ⟨b1,rfl,hM,-⟩ hF;change Mem w w' [some (b1,algC p n T f),none,none,none] [] at hM;refine ag hF rfl rfl fun a hF=>ns<|st hF (g_loadAgg ty_ag_26 hF rfl (hM.row 0 rfl) (by simp only [sz0,dgC_size,numC_sz,ldB_size,mrk_size,vecsC_size,mrw_size]<;>omega) (whole cells_size)) rfl fun a hF=>stR hF (d_call Tryd.call10 hF (.cons rfl .nil) (toAlgebra_ok p n T f _)) rfl ?_;rintro _ w' a ⟨hx,rfl⟩ hF;have hM:=hM.ext hx;refine stR hF (d_call Tryd.call28 hF (.cons rfl .nil) (hSS _ hM.below)) rfl ?_;rintro _ w' a ⟨hx,rfl⟩ hF;have hM:=hM.ext hx;refine mv hF rfl rfl fun a hF=>st hF (g_extract hF rfl rfl) rfl fun a hF=>st hF (g_extract hF rfl rfl) rfl fun a hF=>ag hF rfl rfl fun a hF=>ag hF rfl rfl fun a hF=>ns<|st hF (g_loadAgg ty_ag_26 hF rfl (hM.row 0 rfl) (by simp only [sz0,dgC_size,numC_sz,ldB_size,mrk_size,vecsC_size,mrw_size]<;>omega) (whole cells_size)) rfl fun a hF=>stR hF (d_call Tryd.call10 hF (.cons rfl .nil) (toAlgebra_ok p n T f _)) rfl ?_;rintro _ w' a ⟨hx,rfl⟩ hF;have hM:=hM.ext hx;refine stR hF (d_call Tryd.call29 hF (.cons rfl .nil) (hII _ hM.below)) rfl ?_;rintro _ w' a ⟨hx,rfl⟩ hF;have hM:=hM.ext hx;refine mv hF rfl rfl fun a hF=>st hF (g_extract hF rfl rfl) rfl fun a hF=>st hF (g_extract hF rfl rfl) rfl fun a hF=>ag hF rfl rfl fun a hF=>ag hF rfl rfl fun a hF=>nt<|sq<|sr<|mv hF rfl rfl fun a hF=>mv hF rfl rfl fun a hF=>st hF (g_neqBo ty_ub_4 hF rfl rfl) rfl fun a hF=>mv hF rfl rfl fun a hF=>?_
  by_cases g2:(q9:Bool)≠(q9:Bool)
  · first | rw [decide_eq_true g2] at hF | simp only [decide_eq_true g2] at hF
    first | exact absurd rfl g2 | (exfalso;omega)
  first | rw [decide_eq_false g2] at hF | simp only [decide_eq_false g2] at hF
  refine stY hF rfl rfl rfl (g_move hF rfl) rfl fun a hF=>stY hF rfl rfl rfl (g_move hF rfl) rfl fun a hF=>stY hF rfl rfl rfl (g_neq hF rfl rfl) rfl fun a hF=>st hF (g_pickF hF rfl rfl) rfl fun a hF=>nt<|c_cond hF rfl (fun h3=>?_) (fun h3=>?_)
  · first | exact absurd rfl h3 | (exfalso;omega)
  refine wp_skip<|tN<|sr<|ag hF rfl rfl fun a hF=>nt<|wp_ret<|fin1 rfl hF.defers (res_tmp hF rfl) ⟨_,rfl,hM.below,?_⟩
  show _=_
  rfl
theorem ker_none {p n m r:Nat}{M V:Nat→Nat→Nat}(hp:2≤p)(h:IsKer p n M m r V)(hz:∀ k E ld,Rref p n E k ld→(∀ x,Ker p n E k x↔Ker p n M m x)→nf k ld n=0):r=0:=Classical.byContradiction fun hr=>by
  obtain ⟨k,E,ld,ld2,g1,g2,g3,g4⟩:=h
  have hall:=nf_zero (hz k E ld g1 g2)
  have hk:=(g4 (eb (ld2 0))).2 (fun c hc hn=>absurd (hall c hc) hn) 0 (by omega)
  rw [dot_eb (g3.lt 0 (by omega))] at hk
  have h1:V 0 (ld2 0)=1:=g3.one 0 (by omega)
  have h2:(p:Int)∣((V 0 (ld2 0):Nat):Int):=hk
  rw [h1] at h2
  have:=Nat.le_of_dvd (by omega) (Int.natCast_dvd_natCast.1 h2)
  omega
theorem law_IsSymmetricInItself (p n:Int)(T:Nat→Nat→Nat→Nat)(f:Nat→Nat)(ev:Value)(w:World)(hT:∀ i j k,T i j k≤255)(hf:∀ i,f i≤255)(hg:Blk w 0 #[.iface 108 ev]):CallsV Tryd.prog 8 #[.agg (algC p n T f)] w (.bool true):=by
  by_cases hc:CodeP p n T f 0 (vAtL [])
  · have hs0:=hc.1.1
    have hp0:=primeP_pos hs0.1;have hn:=hs0.2.1;have e1:(p.toNat:Int)=p:=by omega
    have e2:(n.toNat:Int)=n:=by omega
    have hc2:CodeP (p.toNat:Int) (n.toNat:Int) (trunc n.toNat T) f 0 (vAtL []):=by rw [e1,e2];exact code_trunc hc
    obtain ⟨uu,huu⟩:=hc.1.2.2;have hpp:=primeN_of hs0.1
    by_cases hcom:comP (trunc n.toNat T)
    · have hpm:=hpp.two
      have haI:=AssI_of (p:=p.toNat) (n:=n.toNat) (T:=(trunc n.toNat T)) (by omega) hc.1.2.1;have hkI:=ComI_of (n:=n.toNat) (T:=(trunc n.toNat T)) (by omega) hcom;obtain ⟨r0,W0,hK0⟩:=isKer_exists (n:=n.toNat) (m:=n.toNat) (M:=spE p.toNat n.toNat (trunc n.toNat T) uu p.toNat 1) hpp (fun i c=>spE_lt (by omega) i c);obtain ⟨rB,hrb,hrb6⟩:=rb_exists (p:=p.toNat) (n:=n.toNat) (T:=(trunc n.toNat T)) (srt (gz (prL p.toNat n.toNat (trunc n.toNat T) uu W0 r0)) (prL p.toNat n.toNat (trunc n.toNat T) uu W0 r0).length) hpp (by omega);obtain ⟨rN,hdg⟩:=degH_exists (p:=p.toNat) (n:=n.toNat) (T:=(trunc n.toNat T)) (uu:=uu) (srt (gz (prL p.toNat n.toNat (trunc n.toNat T) uu W0 r0)) (prL p.toNat n.toNat (trunc n.toNat T) uu W0 r0).length) hpp (fun i c=>imP_lt huu.small c i);obtain ⟨R1,W1,hW1⟩:=isKer_exists (n:=n.toNat) (m:=n.toNat) (M:=(fun r c=>imP p.toNat n.toNat (trunc n.toNat T) uu (kkE p.toNat (nilE p.toNat n.toNat)) c r)) hpp (fun i c=>imP_lt huu.small c i)
      rcases nf_cases (n:=n.toNat) (m:=n.toNat) (M:=(fun r c=>imP p.toNat n.toNat (trunc n.toNat T) uu (kkE p.toNat (nilE p.toNat n.toNat)) c r)) hpp (fun i c=>imP_lt huu.small c i) with hne | hzk
      · have hpos:=hpos_of hpp.two hne
        obtain ⟨R2,W2,hW2⟩:=isKer_exists (n:=n.toNat) (m:=R1*n.toNat) (M:=(anM p.toNat n.toNat (trunc n.toNat T) (cutR n.toNat R1 W1))) hpp (anM_lt hpp.two);obtain ⟨rS,hrs⟩:=isRk_all (n:=n.toNat) (m:=R2) (M:=fun k=>ptM p.toNat n.toNat (trunc n.toNat T) ((srt (gz (prL p.toNat n.toNat (trunc n.toNat T) uu W0 r0)) (prL p.toNat n.toNat (trunc n.toNat T) uu W0 r0).length) k) (cutR n.toNat R2 W2)) hpp (fun k=>ptM_lt (by omega))
        rcases nf_cases (n:=n.toNat) (m:=R1*n.toNat) (M:=(anM p.toNat n.toNat (trunc n.toNat T) (cutR n.toNat R1 W1))) hpp (anM_lt hpp.two) with hne2 | hzk2
        · have hpos2:=hpos_of hpp.two hne2
          have hboth:=sym_both (rN:=rN) hpp (by omega) (by omega) haI hkI trunc_out huu hK0 hW1 socS_an hW2 (fun i _=>hrb i) (fun i _=>degH_Y hne (hdg i) hW1) (fun i _=>hrs i);have hsb:decide (((R2+R1:Nat):Int)=(n.toNat:Int))=true↔∀ i,i<(prL p.toNat n.toNat (trunc n.toNat T) uu W0 r0).length→(rS i:Int)=(rB i:Int) - (rN i:Int):=by
            rw [decide_eq_true_eq];exact ⟨fun h=>hboth.2 (by omega),fun h=>by have:=hboth.1 h;omega⟩
          exact law_SymC p n T f 0 (decide (((R2+R1:Nat):Int)=n)) w (fun w1 hx=>by
            have h:=IsSymS_V p.toNat n.toNat (trunc n.toNat T) f R1 R2 W1 W2 _ _ r0 W0 rB rN rS _ w1 hpp (by omega) (by omega) (trunc_lt hs0) trunc_out hf hc2 hcom uu huu hne hpos hW1 hne2 hpos2 hW2 haI hkI hK0 rfl rfl (fun i _=>hrb i) (fun i _=>hrb6 i) (fun i _=>hdg i) (fun i _=>hrs i) (fun i _=>by have:=isRk_le hpp (ptM_lt (by have:=hpp.two;omega)) (hrs i);omega) hsb;rw [e1,e2,← algC_trunc hs0] at h;exact h) (fun w1 hx=>by
            have h:=IsSymI_Y p.toNat n.toNat (trunc n.toNat T) f R2 R1 w1 hpp (by omega) (by omega) (trunc_lt hs0) trunc_out hf hc2 hcom (fun w1=>(socle_V p.toNat n.toNat (trunc n.toNat T) f R1 R2 W1 W2 w1 hpp (by omega) (by omega) (trunc_lt hs0) trunc_out hf uu huu hne hpos hW1 hne2 hpos2 hW2).mono fun _ _ _ h=>lenOwn h) (fun w1=>(nilI_W p.toNat n.toNat (trunc n.toNat T) f R1 W1 w1 hpp (by omega) (by omega) (trunc_lt hs0) trunc_out hf uu huu hne hpos hW1).mono fun _ _ _ h=>lenOwn h) (by have:=isKer_le hW2;omega) (by have:=isKer_le hW1;omega);rw [e1,e2,← algC_trunc hs0] at h;exact h)
        ·
          have hR2:R2=0:=by
            exact ker_none hpp.two hW2 hzk2
          subst hR2;have hboth:=sym_both (rN:=rN) (rS:=fun _=>0) hpp (by omega) (by omega) haI hkI trunc_out huu hK0 hW1 socS_an hW2 (fun i _=>hrb i) (fun i _=>degH_Y hne (hdg i) hW1) (fun i _=>isRk_zero hpp (ptM_lt (by omega)));have hsb:decide (((0+R1:Nat):Int)=(n.toNat:Int))=true↔∀ i,i<(prL p.toNat n.toNat (trunc n.toNat T) uu W0 r0).length→(((fun _=>0) i:Nat):Int)=(rB i:Int) - (rN i:Int):=by
            rw [decide_eq_true_eq];exact ⟨fun h=>hboth.2 (by omega),fun h=>by have:=hboth.1 h;omega⟩
          exact law_SymC p n T f 0 (decide (((0+R1:Nat):Int)=n)) w (fun w1 hx=>by
            have h:=IsSymS_Q p.toNat n.toNat (trunc n.toNat T) f R1 W1 _ _ r0 W0 rB rN (fun _=>0) _ w1 hpp (by omega) (by omega) (trunc_lt hs0) trunc_out hf hc2 hcom uu huu hne hpos hW1 hzk2 haI hkI hK0 rfl rfl (fun i _=>hrb i) (fun i _=>hrb6 i) (fun i _=>hdg i) (fun i _=>rfl) (fun i _=>by show 0≤6;omega) hsb;rw [e1,e2,← algC_trunc hs0] at h;exact h) (fun w1 hx=>by
            have h:=IsSymI_Y p.toNat n.toNat (trunc n.toNat T) f 0 R1 w1 hpp (by omega) (by omega) (trunc_lt hs0) trunc_out hf hc2 hcom (fun w1=>(socle_Q p.toNat n.toNat (trunc n.toNat T) f R1 W1 w1 hpp (by omega) (by omega) (trunc_lt hs0) trunc_out hf uu huu hne hpos hW1 hzk2).mono fun _ _ _ h=>⟨_,_,h⟩) (fun w1=>(nilI_W p.toNat n.toNat (trunc n.toNat T) f R1 W1 w1 hpp (by omega) (by omega) (trunc_lt hs0) trunc_out hf uu huu hne hpos hW1).mono fun _ _ _ h=>lenOwn h) (by omega) (by have:=isKer_le hW1;omega);rw [e1,e2,← algC_trunc hs0] at h;exact h)
      · have hR1:R1=0:=by
          exact ker_none hpp.two hW1 hzk
        subst hR1
        rcases nf_cases (n:=n.toNat) (m:=0) (M:=fun _ _=>0) hpp (fun _ _=>by have:=hpp.two;omega) with hne2 | hzk2
        · have hpos2:=hpos_of hpp.two hne2
          obtain ⟨R2,W2,hW2⟩:=isKer_exists (n:=n.toNat) (m:=0) (M:=fun _ _=>0) hpp (fun _ _=>by have:=hpp.two;omega);obtain ⟨rS,hrs⟩:=isRk_all (n:=n.toNat) (m:=R2) (M:=fun k=>ptM p.toNat n.toNat (trunc n.toNat T) ((srt (gz (prL p.toNat n.toNat (trunc n.toNat T) uu W0 r0)) (prL p.toNat n.toNat (trunc n.toNat T) uu W0 r0).length) k) (cutR n.toNat R2 W2)) hpp (fun k=>ptM_lt (by omega));have hboth:=sym_both (rN:=rN) hpp (by omega) (by omega) haI hkI trunc_out huu hK0 hW1 (fun y=>⟨fun _ j hj=>absurd hj (by omega),fun _ i hi=>absurd hi (by omega)⟩) hW2 (fun i _=>hrb i) (fun i _=>by rw [degH_Z hpp (fun i c=>imP_lt huu.small c i) hzk (hdg i)];exact isRk_zero hpp (ptM_lt (by omega))) (fun i _=>hrs i);have hsb:decide (((R2+0:Nat):Int)=(n.toNat:Int))=true↔∀ i,i<(prL p.toNat n.toNat (trunc n.toNat T) uu W0 r0).length→(rS i:Int)=(rB i:Int) - (rN i:Int):=by
            rw [decide_eq_true_eq];exact ⟨fun h=>hboth.2 (by omega),fun h=>by have:=hboth.1 h;omega⟩
          exact law_SymC p n T f 0 (decide (((R2+0:Nat):Int)=n)) w (fun w1 hx=>by
            have h:=IsSymS_E p.toNat n.toNat (trunc n.toNat T) f R2 W2 _ _ r0 W0 rB rN rS _ w1 hpp (by omega) (by omega) (trunc_lt hs0) trunc_out hf hc2 hcom uu huu hzk hne2 hpos2 hW2 haI hkI hK0 rfl rfl (fun i _=>hrb i) (fun i _=>hrb6 i) (fun i _=>hdg i) (fun i _=>hrs i) (fun i _=>by have:=isRk_le hpp (ptM_lt (by have:=hpp.two;omega)) (hrs i);omega) hsb;rw [e1,e2,← algC_trunc hs0] at h;exact h) (fun w1 hx=>by
            have h:=IsSymI_Y p.toNat n.toNat (trunc n.toNat T) f R2 0 w1 hpp (by omega) (by omega) (trunc_lt hs0) trunc_out hf hc2 hcom (fun w1=>(socle_E p.toNat n.toNat (trunc n.toNat T) f R2 W2 w1 hpp (by omega) (by omega) (trunc_lt hs0) trunc_out hf uu huu hzk hne2 hpos2 hW2).mono fun _ _ _ h=>lenOwn h) (fun w1=>(nilradical_Z p.toNat n.toNat (trunc n.toNat T) f w1 hpp (by omega) (by omega) (trunc_lt hs0) trunc_out hf uu huu hzk).mono fun _ _ _ h=>⟨_,_,h⟩) (by have:=isKer_le hW2;omega) (by omega);rw [e1,e2,← algC_trunc hs0] at h;exact h)
        · have hz:=hzk2 0 (fun _ _=>0) (fun _=>0) ⟨fun i hi=>absurd hi (by omega),fun i j _ hi=>absurd hi (by omega),fun i hi=>absurd hi (by omega),fun i hi=>absurd hi (by omega),fun i j hi=>absurd hi (by omega),fun i hi=>absurd hi (by omega)⟩ (fun x=>Iff.rfl)
          rw [nf_none] at hz
          omega
    ·
      exact law_SymC p n T f _ _ w (fun w1 hx=>by
        have h:=IsSymS_N p.toNat n.toNat (trunc n.toNat T) f w1 hpp (by omega) (by omega) (trunc_lt hs0) trunc_out hf hc2 hcom;rw [e1,e2,← algC_trunc hs0] at h;exact h) (fun w1 hx=>by
        have h:=IsSymI_N p.toNat n.toNat (trunc n.toNat T) f ev w1 hpp (by omega) (by omega) (trunc_lt hs0) trunc_out hf hc2 hcom (hg.ext hx);rw [e1,e2,← algC_trunc hs0] at h;exact h)
  ·
    exact law_SymC p n T f _ _ w (fun w1 hx=>IsSymS_A p n T f w1 hT hf hc) (fun w1 hx=>IsSymI_A p n T f w1 hT hf hc)
end Go.Proofs.YtccdgjmomcljkaaDoor
