import Derived.Test.YtmlnjicajdbjlaaGreatDoorZ21
set_option linter.unusedVariables false
set_option linter.unusedSimpArgs false
namespace Go.Proofs.YtmlnjicajdbjlaaGreatDoor
open Go Go.RowKit Go.Sw Go.Ech
open Classical
theorem ty_ag_26:aggP Tryz.prog 26=some 224:=by kernel_rfl
theorem l05Split_ok (p n:Nat)(T:Nat→Nat→Nat→Nat)(f:Nat→Nat)(R0:Nat)(W:Nat→Nat→Nat)(r0:Nat)(W0:Nat→Nat→Nat)(rB:Nat→Nat)(rN:Nat→Nat)(w:World)(hp:primeN p)(hn0:0<n)(hn:n≤6)(hTp:∀ i j k,T i j k<p)(hT0:∀ i j k,n≤k→T i j k=0)(hf:∀ i,f i≤255)(uu:Nat→Nat)(huu:UnitI p n T uu)(haI:AssI p n T)(hkI:ComI n T)(hK0:IsKer p n (spE p n T uu p 1) n r0 W0)(hR0:R0=(prL p n T uu W0 r0).length)(hW0:W=srt (gz (prL p n T uu W0 r0)) (prL p n T uu W0 r0).length)(hrb:∀ i,i<R0→IsRk p n (ptM p n T (W i) (fun i q=>if q=i then 1 else 0)) n (rB i))(hrb6:∀ i,i<R0→rB i≤6)(hdg:∀ i,i<R0→DegH p n T uu (W i) (rN i)) :
    CallsR Tryz.prog 41 #[.agg (algC (p:Int) (n:Int) T f)] w (fun res _=>res = .bool (decide (∀ i,i<R0→(rB i:Int) - (rN i:Int)=1))):=by
  refine calls_fr [.agg (algC (p:Int) (n:Int) T f)] Tryz.func41 rfl Tryz.ntmps41 rfl fun a hF=>?_;have hM:Mem w w [none,none] []:=MemX.start w 2;change Fr 18 a [(0,.agg (algC (p:Int) (n:Int) T f))] at hF;have hp2:=hp.two;have hp13:=hp.le;have hT:∀ i j k,T i j k≤255:=fun i j k=>by have:=hTp i j k;omega
  have hInv0:InvA p n T (prL p n T uu W0 r0):=prL_inv hp hn0 hn haI hkI hT0 huu hK0 r0 (Nat.le_refl _);have hR6:R0≤n:=by rw [hR0];exact hInv0.count hp hn hkI
  have hvf:∀ i c,W i c≤255:=by rw [hW0];exact srt_le (gz_le hp.le hInv0) _
  have hR0p:0<R0:=by rw [hR0];exact List.length_pos_iff.2 hInv0.ne
  refine sr<|stR hF (d_box 0 hM hF rfl) rfl ?_;rintro _ w' a ⟨b1,rfl,hM,-⟩ hF;change Mem w w' [some (b1,algC (p:Int) (n:Int) T f),none] [] at hM;refine ag hF rfl rfl fun a hF=>ns<|st hF (g_loadAgg ty_ag_32 hF rfl (hM.row 0 rfl) (by simp only [sz0,dgC_size,numC_sz,ldB_size,rowV_size,mrk_size,lpC_size]<;>omega) (whole cells_size)) rfl fun a hF=>stR hF (d_call Tryz.call36 hF (.cons rfl (.cons rfl .nil)) (l05Sizes_D p n T f R0 W r0 W0 rB rN _ hp hn0 hn hTp hT0 hf uu huu haI hkI hK0 hR0 hW0 hrb hrb6 hdg)) rfl ?_;rintro u w' a ⟨hx,b9,cap9,cs9,hs9,hge9,hb9⟩ hF;obtain rfl:=hs9.val;have hM:=hM.fill hx 1 hb9 hge9;refine ag hF rfl rfl fun a hF=>nt<|sq<|sr<|ag hF rfl rfl fun a hF=>nt<|wp_block ?_;change Mem w _ [some (b1,algC (p:Int) (n:Int) T f),some (b9,cs9)] [] at hM;refine c_loop (fun (kk:Nat) a w'=>kk≤R0∧(∀ i,i<kk→(rB i:Int) - (rN i:Int)=1)∧Fr 18 a [(3,.slice (some ⟨b9,0,none⟩) R0 cap9),(4,.int .i64 (kk:Int))]∧Mem w w' [some (b1,algC (p:Int) (n:Int) T f),some (b9,cs9)] []) (fun kk=>R0 - kk) 0 ?_ ?_
  · refine ⟨by omega,fun i hi=>absurd hi (by omega),hF.sub _ (by repeat' constructor),?_⟩
    exact hM
  clear hF hM;rintro gi a w' ⟨hgi,hno,hF,hM⟩;refine sq<|sr<|mv hF rfl rfl fun a hF=>mv hF rfl rfl fun a hF=>st hF (g_len ty_us_38 hF rfl) rfl fun a hF=>st hF (g_lss hF rfl rfl) rfl fun a hF=>nt<|c_cond hF rfl (fun h2=>?_) (fun h2=>?_)
  · refine wp_skip ?_
    refine tN<|sq<|wp_block<|sr<|mv hF rfl rfl fun a hF=>mv hF rfl rfl fun a hF=>st hF (g_indexSl (i:=gi) ty_sl_38 hF rfl rfl rfl (by omega)) rfl fun a hF=>st hF (g_load ty_on_2 hF rfl (hM.row 1 rfl) (hs9.get1 (gi) (by omega))) rfl fun a hF=>st hF (g_neq hF rfl rfl) rfl fun a hF=>nt<|c_cond hF rfl (fun h3=>?_) (fun h3=>?_)
    · refine sq ?_
      refine wp_region_lit<|ag hF rfl rfl fun a hF=>nt<|wp_ret<|iR<|tR<|tR<|iR<|tR<|fin1 rfl hF.defers (res_tmp hF rfl) ⟨_,rfl,hM.below,?_⟩
      show _=_
      first | exact congrArg Value.bool (decide_eq_false (fun h=>absurd (h gi (by omega)) (by assumption))).symm | exact congrArg Value.bool (decide_eq_true hno).symm
    refine wp_skip<|iN<|tN<|wp_region_lit<|mv hF rfl rfl fun a hF=>st hF (g_add hF rfl rfl (add_nat (gi) (1) (by omega))) rfl fun a hF=>ag hF rfl rfl fun a hF=>wpList_nil<|tN ?_;refine ⟨gi+1,⟨by omega,fun i hi=>by
                             by_cases e:i=gi
                             · rw [e];first | assumption | exact Decidable.not_not.1 (by assumption) | omega
                             · exact hno i (by omega),hF.sub _ (by repeat' constructor),?_⟩,by omega⟩
    exact hM
  obtain rfl:R0=gi:=by omega
  refine wp_exit<|tX<|tX<|ib_same<|tN<|sr<|ag hF rfl rfl fun a hF=>nt<|wp_ret<|fin1 rfl hF.defers (res_tmp hF rfl) ⟨_,rfl,hM.below,?_⟩
  show _=_
  first | exact congrArg Value.bool (decide_eq_false (fun h=>absurd (h gi (by omega)) (by assumption))).symm | exact congrArg Value.bool (decide_eq_true hno).symm
theorem degH_exists {p n:Nat}{T:Nat→Nat→Nat→Nat}{uu:Nat→Nat}(W:Nat→Nat→Nat)(hp:primeN p)(hM:∀ i c,(fun r c=>imP p n T uu (kkE p (nilE p n)) c r) i c<p):∃ rN:Nat→Nat,∀ i,DegH p n T uu (W i) (rN i):=by
  rcases nf_cases (n:=n) (m:=n) hp hM with hne | hzk
  · obtain ⟨r,V,hIK⟩:=isKer_exists (n:=n) (m:=n) hp hM
    obtain ⟨R,hR⟩:=isRk_all (n:=n) (m:=r) (M:=fun k=>ptM p n T (W k) (padN n V)) hp (fun k=>ptM_lt (by have:=hp.two;omega));refine ⟨R,fun i=>.inl ⟨hne,hpos_of hp.two hne,fun r' V' h'=>?_⟩⟩;obtain ⟨rfl,e⟩:=IsKer.unique hp.two hIK h';intro a Z hZ;refine hR i a Z (hZ.same fun j hj c hc=>?_);have e2:padN n V' j=padN n V j:=funext fun c=>by
      unfold padN;split
      · exact (e j hj c (by assumption)).symm
      · rfl
    unfold ptM;rw [e2]
  · exact ⟨fun _=>0,fun i=>.inr ⟨hzk,rfl⟩⟩
theorem rb_exists {p n:Nat}{T:Nat→Nat→Nat→Nat}(W:Nat→Nat→Nat)(hp:primeN p)(hn:n≤6):∃ rB:Nat→Nat,(∀ i,IsRk p n (ptM p n T (W i) (fun i q=>if q=i then 1 else 0)) n (rB i))∧∀ i,rB i≤6:=by
  obtain ⟨R,hR⟩:=isRk_all (n:=n) (m:=n) (M:=fun k=>ptM p n T (W k) (fun i q=>if q=i then 1 else 0)) hp (fun k=>ptM_lt (by have:=hp.two;omega));exact ⟨R,hR,fun i=>by have:=isRk_le hp (ptM_lt (by have:=hp.two;omega)) (hR i);omega⟩
end Go.Proofs.YtmlnjicajdbjlaaGreatDoor
