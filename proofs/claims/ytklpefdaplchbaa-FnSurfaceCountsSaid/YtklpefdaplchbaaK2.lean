import Derived.Test.YtklpefdaplchbaaH6
import Derived.Test.YtklpefdaplchbaaEch5
set_option linter.unusedVariables false
set_option linter.unusedSimpArgs false
namespace Go.Proofs.Ytklpefdaplchbaa
open Go Go.RowKit Go.Sw Go.Ech
def bE (i:Nat):Nat→Nat:=fun x=>if x=i then 1 else 0
def bigM (p n:Nat) (T:Nat→Nat→Nat→Nat) (r:Nat):Nat→Nat:=eqG p n T (bE (r / (2*n))) (bE (r / (2*n))) n (r%(2*n))
theorem bigM_at {p n i k:Nat}{T:Nat→Nat→Nat→Nat}(hk:k<2*n):bigM p n T (i*(2*n)+k)=eqG p n T (bE i) (bE i) n k:=by
  have e1:(i*(2*n)+k) / (2*n)=i:=by rw [Nat.mul_comm,Nat.mul_add_div (by omega),Nat.div_eq_of_lt hk];omega
  have e2:(i*(2*n)+k)%(2*n)=k:=by rw [Nat.mul_comm,Nat.mul_add_mod,Nat.mod_eq_of_lt hk]
  unfold bigM;rw [e1,e2]
theorem eqG_lt {p n g:Nat}{T:Nat→Nat→Nat→Nat}{bb cc:Nat→Nat}(hp:0<p)(hcc:∀ i,cc i<p):∀ r c,eqG p n T bb cc g r c<p:=fun r c=>by
  unfold eqG timesV
  split
  · split<;>exact Nat.mod_lt _ hp
  · split
    · exact hcc _
    · exact hp
theorem bE_lt {p i:Nat}(hp:2≤p):∀ c,bE i c<p:=fun c=>by unfold bE;split<;>omega
theorem timesV_bb {p n a i k:Nat}{T:Nat→Nat→Nat→Nat}(ha:a<n)(hi:i<n)(hT:T a i k<p):timesV p n T (fun x=>if x=a then 1 else 0) (bE i) k=T a i k:=by
  unfold timesV
  have e:(prodI T (fun x=>if x=a then 1 else 0) (bE i) n n k:Int)=(T a i k:Int):=by
    rw [prodI_left ha,sI_one hi]
    · simp [bE]
    · intro j _ hne;simp [bE,hne]
  rw [show prodI T (fun x=>if x=a then 1 else 0) (bE i) n n k=T a i k by omega];exact Nat.mod_eq_of_lt hT
theorem eqG_dot {p n r:Nat}{T:Nat→Nat→Nat→Nat}{bb cc x:Nat→Nat}(hn:n≤6) :
    dot 7 (ci (eqG p n T bb cc n r)) (aug 6 x)=sI (fun a=>(x a:Int)*((if r<n then timesV p n T (fun x=>if x=a then 1 else 0) bb r else timesV p n T bb (fun x=>if x=a then 1 else 0) (r - n):Nat):Int)) n - (cc (r%n):Int):=by
  have e:dot 7 (ci (eqG p n T bb cc n r)) (aug 6 x)=sI (fun c=>ci (eqG p n T bb cc n r) c*aug 6 x c) 6+ci (eqG p n T bb cc n r) 6*aug 6 x 6:=rfl;rw [e,sI_cut hn (fun c h1 h2=>by simp only [ci,eqG];rw [if_neg (by omega),if_neg (by omega)];simp)];have e1:sI (fun c=>ci (eqG p n T bb cc n r) c*aug 6 x c) n=sI (fun a=>(x a:Int)*((if r<n then timesV p n T (fun x=>if x=a then 1 else 0) bb r else timesV p n T bb (fun x=>if x=a then 1 else 0) (r - n):Nat):Int)) n:=sI_congr fun c hc=>by
    rw [aug_lt (by omega)];simp only [ci,eqG,if_pos hc];exact Int.mul_comm _ _
  have e2:ci (eqG p n T bb cc n r) 6=(cc (r%n):Int):=by simp only [ci,eqG];rw [if_neg (by omega)];simp
  rw [e1,e2,aug_n];omega
theorem eqG_ker {p n:Nat}{T:Nat→Nat→Nat→Nat}{bb cc x:Nat→Nat}(hn0:0<n)(hn:n≤6):Ker p 7 (eqG p n T bb cc n) (2*n) (aug 6 x) ↔
    (∀ k,k<n→(p:Int)∣sI (fun a=>(x a:Int)*(timesV p n T (fun x=>if x=a then 1 else 0) bb k:Int)) n - (cc k:Int))∧(∀ k,k<n→(p:Int)∣sI (fun a=>(x a:Int)*(timesV p n T bb (fun x=>if x=a then 1 else 0) k:Int)) n - (cc k:Int)):=by
  constructor
  · intro h
    refine ⟨fun k hk=>?_,fun k hk=>?_⟩
    · have:=h k (by omega);rw [eqG_dot hn,Nat.mod_eq_of_lt hk] at this;simpa only [if_pos hk] using this
    · have:=h (n+k) (by omega);rw [eqG_dot hn,Nat.add_mod_left,Nat.mod_eq_of_lt hk] at this;simpa only [if_neg (show ¬ n+k<n by omega),Nat.add_sub_cancel_left] using this
  · intro h r hr
    rw [eqG_dot hn]
    by_cases e:r<n
    · rw [Nat.mod_eq_of_lt e];simp only [if_pos e];exact h.1 r e
    · have em:r%n=r - n:=by rw [Nat.mod_eq_sub_mod (by omega),Nat.mod_eq_of_lt (by omega)]
      rw [em];simp only [if_neg e];exact h.2 (r - n) (by omega)
theorem bigM_ker {p n:Nat}{T:Nat→Nat→Nat→Nat}{x:Nat→Nat}(hp:2≤p)(hn0:0<n)(hn:n≤6)(hT:∀ i j k,T i j k<p):Ker p 7 (bigM p n T) (n*(2*n)) (aug 6 x) ↔
    (∀ i,i<n→∀ c,c<n→(p:Int)∣sI (fun a=>(x a:Int)*(T a i c:Int)) n - (dl i c:Int))∧(∀ i,i<n→∀ c,c<n→(p:Int)∣sI (fun b=>(x b:Int)*(T i b c:Int)) n - (dl i c:Int)):=by
  have key:∀ i,i<n→(Ker p 7 (eqG p n T (bE i) (bE i) n) (2*n) (aug 6 x)↔(∀ c,c<n→(p:Int)∣sI (fun a=>(x a:Int)*(T a i c:Int)) n - (dl i c:Int))∧(∀ c,c<n→(p:Int)∣sI (fun b=>(x b:Int)*(T i b c:Int)) n - (dl i c:Int))):=by
    intro i hi;rw [eqG_ker hn0 hn];have eb:∀ c,bE i c=dl i c:=fun c=>dl_if;refine and_congr (forall_congr' fun c=>imp_congr_right fun hc=>?_) (forall_congr' fun c=>imp_congr_right fun hc=>?_)
    · rw [eb,sI_congr (g:=fun a=>(x a:Int)*(T a i c:Int)) (fun a ha=>by rw [timesV_bb ha hi (hT _ _ _)])]
    · rw [eb,sI_congr (g:=fun b=>(x b:Int)*(T i b c:Int)) (fun b hb=>by rw [show timesV p n T (bE i) (fun x=>if x=b then 1 else 0) c=T i b c from timesV_bb (i:=b) hi hb (hT _ _ _)])]
  constructor
  · intro h
    have hh:∀ i,i<n→Ker p 7 (eqG p n T (bE i) (bE i) n) (2*n) (aug 6 x):=fun i hi k hk=>by
      have hlt:i*(2*n)+k<n*(2*n):=by
        have h1:(i+1)*(2*n)≤n*(2*n):=Nat.mul_le_mul_right _ hi;have h2:(i+1)*(2*n)=i*(2*n)+2*n:=Nat.succ_mul i _
        omega
      have:=h (i*(2*n)+k) hlt
      rwa [bigM_at hk] at this
    exact ⟨fun i hi=>((key i hi).1 (hh i hi)).1,fun i hi=>((key i hi).1 (hh i hi)).2⟩
  · intro h r hr
    have hi:r / (2*n)<n:=(Nat.div_lt_iff_lt_mul (by omega)).2 hr;exact (key _ hi).2 ⟨h.1 _ hi,h.2 _ hi⟩ _ (Nat.mod_lt _ (by omega))
theorem bigM_zero {p n r c:Nat}{T:Nat→Nat→Nat→Nat}(h1:n≤c)(h2:c<6):bigM p n T r c=0:=by
  unfold bigM eqG;rw [if_neg (by omega),if_neg (by omega)]
theorem find2_yes {p n k:Nat}{E:Nat→Nat→Nat}{ld:Nat→Nat}{T:Nat→Nat→Nat→Nat}(hp:2≤p)(hn0:0<n)(hn:n≤6)(hT:∀ i j k,T i j k<p)(hE1:∀ i c,E i c<p)(h:Rref p 7 E k ld)(hK:∀ x,Ker p 7 E k x↔Ker p 7 (bigM p n T) (n*(2*n)) x)(hl:¬ isLd k ld 6) :
    UnitI p n T (fun c=>solK E ld 6 k c):=by
  have h1:=(bigM_ker hp hn0 hn hT).1 ((hK _).1 (sol_ker h hl));refine ⟨fun c=>solK_lt (k:=k) (by omega) hE1 (p:=p) (N:=7),fun c hc=>?_,h1.1,h1.2⟩;refine solK_out fun hlc=>?_;obtain ⟨j,hj,e⟩:=hlc;have h3:=h.lt j hj
  by_cases e6:c=6
  · exact hl ⟨j,hj,by omega⟩
  · exact no_lead hp h hK (c:=c) (by omega) (fun i _=>bigM_zero hc (by omega)) ⟨j,hj,e⟩
theorem find2_no {p n k:Nat}{E:Nat→Nat→Nat}{ld:Nat→Nat}{T:Nat→Nat→Nat→Nat}(hp:2≤p)(hn0:0<n)(hn:n≤6)(hT:∀ i j k,T i j k<p)(h:Rref p 7 E k ld)(hK:∀ x,Ker p 7 E k x↔Ker p 7 (bigM p n T) (n*(2*n)) x)(hl:isLd k ld 6)(u:Nat→Nat):¬ UnitI p n T u:=
  fun hu=>no_sol hp h hl ((hK _).2 ((bigM_ker hp hn0 hn hT).2 ⟨hu.right,hu.left⟩))
theorem findUnit_ok (p n:Nat)(T:Nat→Nat→Nat→Nat)(f:Nat→Nat)(w:World)(hp:primeN p)(hn0:0<n)(hn:n≤6)(hTp:∀ i j k,T i j k<p) :
    CallsR Try.prog 64 #[.agg (algC (p:Int) (n:Int) T f)] w (fun res _=>(∃ u,UnitI p n T u∧res = .tuple #[.agg (vecC u),.bool true])∨((∀ u,¬ UnitI p n T u)∧res = .tuple #[.agg (vecC (fun _=>0)),.bool false])):=by
  refine calls_fr [.agg (algC (p:Int) (n:Int) T f)] Try.func64 rfl Try.ntmps64 rfl fun a hF=>?_;have hM:Mem w w [none,none,none,none] []:=MemX.start w 4;change Fr 27 a [(0,.agg (algC (p:Int) (n:Int) T f))] at hF;have hp2:=hp.two;have hp13:=hp.le;have hT:∀ i j k,T i j k≤255:=fun i j k=>by have:=hTp i j k;omega
  refine sr<|stR hF (d_box 0 hM hF rfl) rfl ?_;rintro _ w' a ⟨b1,rfl,hM,-⟩ hF;refine stR hF (d_alloc 1 hM ty_ze_37) rfl ?_;rintro _ w' a ⟨b2,rfl,hM,-⟩ hF;change Mem w w' [some (b1,algC (p:Int) (n:Int) T f),some (b2,fnC 6 (fun _=>.int .u8 (0))),none,none] [] at hM;refine ag hF rfl rfl fun a hF=>ns<|ag hF rfl rfl fun a hF=>nt<|sq<|sr<|st hF (g_fieldAddr ty_fo_39_1 hF rfl) rfl fun a hF=>st hF (g_load ty_on_2 hF rfl (hM.row 0 rfl) (algC_n (by omega))) rfl fun a hF=>mv hF rfl rfl fun a hF=>nt<|wp_block ?_;change Mem w _ [some (b1,algC (p:Int) (n:Int) T f),some (b2,fnC 6 (fun _=>.int .u8 (0))),none,none] [] at hM;refine c_loop (fun (kk:Nat) a w'=>kk≤n∧∃ (D1:Froz),∃ (β:Nat→Nat),(RowsB D1 7 (kk*(2*n)) β (bigM p n T)∧(∀ i,i<kk*(2*n)→w.heap.size≤β i))∧∃ (u4_1:Value) (e4_1:Option (Nat×Array Value)),Sl 1 u4_1 e4_1 (kk*(2*n)) (fun i=>.slice (some ⟨β i,0,none⟩) 7 7)∧Fr 27 a [(1,ptr b1 (0)),(2,ptr b2 (0)),(3,.bool (false)),(8,.int .i64 (n:Int)),(9,.int .i64 (kk:Int)),(4,u4_1)]∧Mem w w' [some (b1,algC (p:Int) (n:Int) T f),some (b2,fnC 6 (fun _=>.int .u8 (0))),none,e4_1] D1) (fun kk=>n - kk) 0 ?_ ?_
  · refine ⟨by omega,[],(fun _=>0),⟨by rw [Nat.zero_mul];exact RowsB.none,fun i hi=>by rw [Nat.zero_mul] at hi;omega⟩,(.slice none 0 0),(none),(by rw [Nat.zero_mul];exact Sl.nil _ _),hF.sub _ (by repeat' constructor),?_⟩
    exact hM
  clear hF hM;rintro gi a w' ⟨hgi,D1,β,⟨hB,hbg⟩,u4_1,e4_1,hsl,hF,hM⟩;have hgin:=Nat.le_trans (Nat.mul_le_mul_right (2*n) hgi) (Nat.mul_le_mul hn (Nat.mul_le_mul_left 2 hn));refine sr<|st hF (g_lss hF rfl rfl) rfl fun a hF=>nt<|sq<|c_cond hF rfl (fun h3=>?_) (fun h3=>?_)
  · refine wp_skip ?_
    refine tN<|sq<|wp_block<|sr<|mv hF rfl rfl fun a hF=>ag hF rfl rfl fun a hF=>ns<|mv hF rfl rfl fun a hF=>stR hF (d_call Try.call56 hF (.cons rfl .nil) (basisVector_ok (gi) _ (by omega))) rfl ?_;rintro _ w' a ⟨hx,rfl⟩ hF;have hM:=hM.ext hx;refine stR hF (d_alloc 2 hM ty_ze_37) rfl ?_;rintro _ w' a ⟨b4,rfl,hM,-⟩ hF;change Mem w w' [some (b1,algC (p:Int) (n:Int) T f),some (b2,fnC 6 (fun _=>.int .u8 (0))),some (b4,fnC 6 (fun _=>.int .u8 (0))),e4_1] D1 at hM;refine stN hF (d_storeAgg 2 hM rfl ty_sz_37 hF rfl rfl (by first | exact vecC_one | exact cells_one | (refine fnC_one fun _ _=>?_;first | rfl | (split<;>rfl))) (by simp only [sz0]) (by simp only [sz0]<;>omega) (splice_whole _ _ (by simp only [sz0]))) ?_;intro _ w' a hM hF;change Mem w w' [some (b1,algC (p:Int) (n:Int) T f),some (b2,fnC 6 (fun _=>.int .u8 (0))),some (b4,vecC (fun c=>if c=gi then 1 else 0)),e4_1] D1 at hM;refine nt<|wp_region_lit<|mv hF rfl rfl fun a hF=>st hF (g_loadAgg ty_ag_39 hF rfl (hM.row 0 rfl) (by simp only [sz0]<;>omega) (whole cells_size)) rfl fun a hF=>st hF (g_loadAgg ty_ag_37 hF rfl (hM.row 2 rfl) (by simp only [sz0]<;>omega) (whole (by simp only [sz0]))) rfl fun a hF=>st hF (g_loadAgg ty_ag_37 hF rfl (hM.row 2 rfl) (by simp only [sz0]<;>omega) (whole (by simp only [sz0]))) rfl fun a hF=>stR hF (d_call Try.call75 hF (.cons rfl (.cons rfl (.cons rfl .nil))) (equationsFor_ok p n T f ((fun c=>if c=gi then 1 else 0)) ((fun c=>if c=gi then 1 else 0)) _ (by omega) (by omega) (by omega) (by omega) (fun _ _ _=>hT _ _ _) (fun i=>by first | (dsimp only;split<;>omega) | (split<;>omega)) (fun i=>by first | (dsimp only;split<;>omega) | (split<;>omega)))) rfl ?_;rintro u w' a ⟨hx,hr⟩ hF;obtain ⟨DQ,βq,bq,csq,hBq,rfl,hsq,hgq,hqm,hqb,hqg,hbqg,hM,hqn⟩:=hM.addBo hx hr;change Mem w w' [some (b1,algC (p:Int) (n:Int) T f),some (b2,fnC 6 (fun _=>.int .u8 (0))),some (b4,vecC (fun c=>if c=gi then 1 else 0)),e4_1] (DQ++D1) at hM;refine stR hF (d_append (k:=3) (N:=gi*(2*n)) (m:=(2*n)) (g:=fun i=>.slice (some ⟨βq (i),0,none⟩) 7 7) ty_si_97 rfl (by decide) hM rfl hF rfl rfl hsl (fun i hi=>((hM.fzm hqm).cell _).trans (by have:=(hgq (i) (by omega));rwa [show 0+i*1=0+i by omega] at this)) (fun _ _=>rfl) (by omega) (by unfold maxLen;omega) (by omega)) rfl ?_;rintro u5 w' a ⟨e6,hM,hs7⟩ hF;change Mem w w' [some (b1,algC (p:Int) (n:Int) T f),some (b2,fnC 6 (fun _=>.int .u8 (0))),some (b4,vecC (fun c=>if c=gi then 1 else 0)),e6] (DQ++D1) at hM;refine ag hF rfl rfl fun a hF=>wpList_nil<|iN<|tN<|wp_region_lit<|st hF (g_add hF rfl rfl (add_nat (gi) (1) (by omega))) rfl fun a hF=>mv hF rfl rfl fun a hF=>wpList_nil<|tN ?_;have hsl:=hs7.congr (g:=fun i=>.slice (some ⟨(fun i=>if i<gi*(2*n) then β i else βq (i - gi*(2*n))) i,0,none⟩) 7 7) (fun i hi=>by
      by_cases e:i<gi*(2*n)
      · rw [if_pos (by omega)];simp only [if_pos e]
      · rw [if_neg (by omega)];simp only [if_neg e,Nat.mul_one])
    have hB:=((hB.more (D':=(DQ++D1)) (fun x hx=>List.mem_append_right _ hx)).append hBq (fun i j hi hj=>hqn _ _ (hB.mem i hi) j hj)).congr (M':=bigM p n T) (fun r hr c _=>by
      by_cases e:r<gi*(2*n)
      · simp only [if_pos e]
      · simp only [if_neg e];have e2:=bigM_at (p:=p) (T:=T) (i:=gi) (show r - gi*(2*n)<2*n by omega);rw [show gi*(2*n)+(r - gi*(2*n))=r by omega] at e2;rw [e2];rfl)
    have hbg:∀ i,i<gi*(2*n)+2*n→w.heap.size≤(fun i=>if i<gi*(2*n) then β i else βq (i - gi*(2*n))) i:=fun i hi=>by
      dsimp only;split
      · exact hbg i (by omega)
      · exact hqg _ (by omega)
    have hM:=hM.drop 2;refine ⟨gi+1,⟨by omega,(DQ++D1),(fun i=>if i<gi*(2*n) then β i else βq (i - gi*(2*n))),⟨by rw [Nat.succ_mul];exact hB,by rw [Nat.succ_mul];exact hbg⟩,(u5),(e6),(by rw [Nat.succ_mul];exact hsl),hF.sub _ (by repeat' constructor),?_⟩,by omega⟩;exact hM
  obtain rfl:n=gi:=by omega
  have hmm:=Nat.mul_le_mul hn (Nat.mul_le_mul_left 2 hn);have hm0:0<n*(2*n):=Nat.mul_pos (by omega) (by omega);obtain ⟨b0,c0,cs0,rfl,rfl,hs0⟩:=hsl.pos hm0;have hne0:∀ i,i<n*(2*n)→β i≠b0:=fun i hi e=>(hM.froz _ _ (hB.mem i hi)).2 3 b0 cs0 rfl e.symm;have hgb0:=hM.ge 3 rfl;have hM:=hM.freeze 3 rfl;change Mem w _ [some (b1,algC (p:Int) (n:Int) T f),some (b2,fnC 6 (fun _=>.int .u8 (0))),none,none] ((b0,cs0)::D1) at hM;refine wp_exit<|tX<|tX<|ib_same<|tN<|sr<|mv hF rfl rfl fun a hF=>st hF (g_fieldAddr ty_fo_39_0 hF rfl) rfl fun a hF=>st hF (g_load ty_on_2 hF rfl (hM.row 0 rfl) (algC_p (by omega))) rfl fun a hF=>stR hF (d_callX Try.call76 hF (.cons rfl (.cons rfl .nil)) (solveRows_ok p (n*(2*n)) b0 c0 cs0 β (bigM p n T) _ hp (by omega) hs0.le (fun r c=>eqG_lt (by omega) (bE_lt hp2) _ _) (hM.fzm (List.mem_cons_self ..)) (by have:=hs0.sz;have:=hs0.le;omega) (fun i hi=>hs0.get1 i hi) (fun i hi=>hM.fzm (List.mem_cons_of_mem _ (hB.mem i hi))) hB.inj hne0)) rfl ?_;rintro _ w' a ⟨hx,k,E,ld,hE,hKer,hE1,⟨hl,rfl⟩ | ⟨hl,rfl⟩⟩ hF
  · have hM:=hM.swapD (D':=[]) hx (fun y hy=>by
     rcases List.mem_cons.1 hy with e | hy
     · exact ⟨cs0,by rw [e];exact List.mem_cons_self ..⟩
     · obtain ⟨i,hi,rfl⟩:=List.mem_map.1 hy
       exact ⟨_,List.mem_cons_of_mem _ (hB.mem i (by simpa using hi))⟩) (fun y hy=>by
     rcases List.mem_cons.1 hy with e | hy
     · exact .inl (by rw [e];exact hgb0)
     · obtain ⟨i,hi,rfl⟩:=List.mem_map.1 hy
       exact .inl (hbg i (by simpa using hi))) (fun _ _ h=>by cases h)
    change Mem w w' [some (b1,algC (p:Int) (n:Int) T f),some (b2,fnC 6 (fun _=>.int .u8 (0))),none,none] [] at hM;refine st hF (g_extract hF rfl rfl) rfl fun a hF=>st hF (g_extract hF rfl rfl) rfl fun a hF=>stN hF (d_storeAgg 1 hM rfl ty_sz_37 hF rfl rfl (by first | exact vecC_one | exact cells_one | (refine fnC_one fun _ _=>?_;first | rfl | (split<;>rfl))) (by simp only [sz0]) (by simp only [sz0]<;>omega) (splice_whole _ _ (by simp only [sz0]))) ?_;intro _ w' a hM hF;change Mem w w' [some (b1,algC (p:Int) (n:Int) T f),some (b2,vecC (fun c=>solK E ld 6 k c)),none,none] [] at hM;refine ag hF rfl rfl fun a hF=>nt<|wp_ret<|fin2 rfl hF.defers (res_agg ty_ag_37 hF rfl (hM.row 1 rfl) (by simp only [sz0])) (res_tmp hF rfl) ⟨_,rfl,hM.below,?_⟩;exact .inl ⟨_,find2_yes hp2 hn0 hn hTp hE1 hE hKer hl,rfl⟩
  have hM:=hM.swapD (D':=[]) hx (fun y hy=>by
   rcases List.mem_cons.1 hy with e | hy
   · exact ⟨cs0,by rw [e];exact List.mem_cons_self ..⟩
   · obtain ⟨i,hi,rfl⟩:=List.mem_map.1 hy
     exact ⟨_,List.mem_cons_of_mem _ (hB.mem i (by simpa using hi))⟩) (fun y hy=>by
   rcases List.mem_cons.1 hy with e | hy
   · exact .inl (by rw [e];exact hgb0)
   · obtain ⟨i,hi,rfl⟩:=List.mem_map.1 hy
     exact .inl (hbg i (by simpa using hi))) (fun _ _ h=>by cases h)
  change Mem w w' [some (b1,algC (p:Int) (n:Int) T f),some (b2,fnC 6 (fun _=>.int .u8 (0))),none,none] [] at hM;refine st hF (g_extract hF rfl rfl) rfl fun a hF=>st hF (g_extract hF rfl rfl) rfl fun a hF=>stN hF (d_storeAgg 1 hM rfl ty_sz_37 hF rfl rfl (by first | exact vecC_one | exact cells_one | (refine fnC_one fun _ _=>?_;first | rfl | (split<;>rfl))) (by simp only [sz0]) (by simp only [sz0]<;>omega) (splice_whole _ _ (by simp only [sz0]))) ?_;intro _ w' a hM hF;change Mem w w' [some (b1,algC (p:Int) (n:Int) T f),some (b2,vecC (fun _=>0)),none,none] [] at hM;refine ag hF rfl rfl fun a hF=>nt<|wp_ret<|fin2 rfl hF.defers (res_agg ty_ag_37 hF rfl (hM.row 1 rfl) (by simp only [sz0])) (res_tmp hF rfl) ⟨_,rfl,hM.below,?_⟩;exact .inr ⟨fun u=>find2_no hp2 hn0 hn hTp hE hKer hl u,rfl⟩
end Go.Proofs.Ytklpefdaplchbaa
namespace Go.Proofs.Ytklpefdaplchbaa
open Go Go.RowKit Go.Sw Go.Ech
open Classical
theorem CallsR.val {P:Program}{f:FuncId}{args:Array Value}{w:World}{v v':Value}(h:CallsR P f args w (fun u _=>u=v))(e:v=v'):CallsR P f args w (fun u _=>u=v'):=e ▸ h
def asS (p n:Nat) (T:Nat→Nat→Nat→Nat):Prop:=∀ i,i<n→∀ j,j<n→∀ k,k<n→eqV 6 (timesS p n T (T i j) (fun c=>if c=k then 1 else 0)) (timesS p n T (fun c=>if c=i then 1 else 0) (T j k))
def AlgN (p n:Nat) (T:Nat→Nat→Nat→Nat):Prop:=asS p n T∧∃ u,UnitI p n T u
def trunc (n:Nat) (T:Nat→Nat→Nat→Nat) (i j k:Nat):Nat:=if i<n∧j<n∧k<n then T i j k else 0
def AlgP (p n:Int) (T:Nat→Nat→Nat→Nat) (f:Nat→Nat):Prop:=shapeP p n T f∧AlgN p.toNat n.toNat (trunc n.toNat T)
theorem sumTo_zero {f:Nat→Nat}{n:Nat}(h:∀ i,i<n→f i=0):sumTo f n=0:=by
  induction n with
  | zero=>rfl
  | succ n ih=>simp only [sumTo];rw [ih (fun i hi=>h i (by omega)),h n (by omega)]
theorem timesV_out {p n c:Nat}{T:Nat→Nat→Nat→Nat}{v u:Nat→Nat}(hT0:∀ i j k,n≤k→T i j k=0)(hc:n≤c):timesV p n T v u c=0:=by
  unfold timesV prodI
  rw [sumTo_zero (fun i _=>sumTo_zero fun j _=>by rw [hT0 i j c hc];simp)]
  simp
theorem times_eq {p n:Nat}{T:Nat→Nat→Nat→Nat}(hT0:∀ i j k,n≤k→T i j k=0)(v u:Nat→Nat):timesV p n T v u=timesS p n T v u:=by
  funext c
  unfold timesS
  by_cases h:c<n
  · rw [if_pos h]
  · rw [if_neg h,timesV_out hT0 (by omega)]
theorem asP_iff {p n:Nat}{T:Nat→Nat→Nat→Nat}(hT0:∀ i j k,n≤k→T i j k=0):asP p n T↔asS p n T:=by
  unfold asP asJ asT asS
  simp only [times_eq hT0];exact ⟨fun h i hi j hj k hk=>h j hj i hi k hk,fun h j hj i hi k hk=>h i hi j hj k hk⟩
theorem okE_iff {p n:Int}{T:Nat→Nat→Nat→Nat}{i j:Nat}(hp:0<p):okE p n T i j↔okS2 p n T i j:=by
  unfold okE okS2
  by_cases h:(i:Int)≥n∨(j:Int)≥n
  · rw [if_pos h]
    constructor
    · intro h1 c hc
      have h2:eqV 6 (T i j) (fun _=>0):=Classical.byContradiction fun h3=>h1 (.inl ⟨by omega,h3⟩);have h4:=h2 c hc
      dsimp only at h4
      unfold okN;omega
    · intro h1 h2
      have h0:∀ c,c<6→T i j c=0:=fun c hc=>by have:=h1 c hc;unfold okN at this;omega
      rcases h2 with ⟨_,h3⟩ | h3
      · exact h3 h0
      · exact h3 fun c hc=>by have:=h0 c hc;unfold okN;omega
  · rw [if_neg h]
    constructor
    · intro h1;exact Classical.byContradiction fun h3=>h1 (.inr h3)
    · rintro h1 (⟨h2,_⟩ | h2)
      · exact h2 ⟨by omega,by omega⟩
      · exact h2 h1
theorem table_iff {p n:Int}{T:Nat→Nat→Nat→Nat}(hp:0<p):all2 6 (okE p n T)↔all2 6 (okS2 p n T):=by
  unfold all2
  simp only [okE_iff hp]
theorem primeP_pos {p:Int}(h:primeP p):0<p:=by unfold primeP at h;omega
theorem algC_trunc {p n:Int}{T:Nat→Nat→Nat→Nat}{f:Nat→Nat}(h:shapeP p n T f):algC p n T f=algC p n (trunc n.toNat T) f:=by
  obtain ⟨_,hn,_,hT⟩:=h
  unfold algC
  refine fnC_congr fun c hc=>?_
  by_cases h0:c=0
  · rw [if_pos h0,if_pos h0]
  · rw [if_neg h0,if_neg h0]
    by_cases h1:c=1
    · rw [if_pos h1,if_pos h1]
    · rw [if_neg h1,if_neg h1]
      by_cases h2:c<218
      · rw [if_pos h2,if_pos h2]
        have:=hT ((c - 2) / 36) (by omega) ((c - 2) / 6%6) (by omega) ((c - 2)%6) (by omega);have e:trunc n.toNat T ((c - 2) / 36) ((c - 2) / 6%6) ((c - 2)%6)=T ((c - 2) / 36) ((c - 2) / 6%6) ((c - 2)%6):=by
          unfold trunc;split
          · rfl
          · rename_i hno
            unfold okN at this
            split at this<;>omega
        rw [e]
      · rw [if_neg h2,if_neg h2]
theorem trunc_lt {p n:Int}{T:Nat→Nat→Nat→Nat}{f:Nat→Nat}(h:shapeP p n T f)(i j k:Nat):trunc n.toNat T i j k<p.toNat:=by
  obtain ⟨hp,hn,_,hT⟩:=h;have hp0:=primeP_pos hp
  unfold trunc;split
  · rename_i hh
    have:=hT i (by omega) j (by omega) k (by omega)
    unfold okN at this
    omega
  · omega
theorem trunc_out {n:Nat}{T:Nat→Nat→Nat→Nat}(i j k:Nat)(h:n≤k):trunc n T i j k=0:=by unfold trunc;rw [if_neg (by omega)]
theorem shape_trunc {p n:Int}{T:Nat→Nat→Nat→Nat}{f:Nat→Nat}(h:shapeP p n T f):shapeP p n (trunc n.toNat T) f:=by
  refine ⟨h.1,h.2.1,h.2.2.1,fun i hi j hj c hc=>?_⟩;have h1:=h.2.2.2 i hi j hj c hc;have hp:=primeP_pos h.1
  by_cases e:i<n.toNat∧j<n.toNat∧c<n.toNat
  · have e2:trunc n.toNat T i j c=T i j c:=by unfold trunc;rw [if_pos e]
    rw [e2];exact h1
  · have e2:trunc n.toNat T i j c=0:=by unfold trunc;rw [if_neg e]
    rw [e2];unfold okN;omega
theorem primeN_of {p:Int}(h:primeP p):primeN p.toNat:=by unfold primeP at h;unfold primeN;omega
theorem IsAlgebraA (p n:Int)(T:Nat→Nat→Nat→Nat)(f:Nat→Nat)(w:World)(hT:∀ i j k,T i j k≤255)(hf:∀ i,f i≤255)(hsh:¬ shapeP p n T f) :
    CallsR Try.prog 60 #[.agg (algC p n T f)] w (fun res _=>res = .bool false):=by
  refine calls_fr [.agg (algC p n T f)] Try.func60 rfl Try.ntmps60 rfl fun a hF=>?_;have hM:Mem w w [none,none] []:=MemX.start w 2;change Fr 40 a [(0,.agg (algC p n T f))] at hF;refine sr<|stR hF (d_box 0 hM hF rfl) rfl ?_;rintro _ w' a ⟨b1,rfl,hM,-⟩ hF;change Mem w w' [some (b1,algC p n T f),none] [] at hM;refine ag hF rfl rfl fun a hF=>nt<|sq<|sr<|st hF (g_fieldAddr ty_fo_39_0 hF rfl) rfl fun a hF=>st hF (g_load ty_on_2 hF rfl (hM.row 0 rfl) (algC_p (by omega))) rfl fun a hF=>stR hF (d_call Try.call43 hF (.cons rfl .nil) (isPrime_ok (p) _)) rfl ?_;rintro _ w' a ⟨hx,rfl⟩ hF;have hM:=hM.ext hx;refine st hF (g_notP hF rfl) rfl fun a hF=>mv hF rfl rfl fun a hF=>?_
  by_cases g2:¬ (primeP (p))
  · first | rw [decide_eq_true g2] at hF | simp only [decide_eq_true g2] at hF
    refine stS hF rfl rfl rfl rfl rfl fun a hF=>stS hF rfl rfl rfl rfl rfl fun a hF=>stS hF rfl rfl rfl rfl rfl fun a hF=>st hF (g_pickT hF rfl rfl) rfl fun a hF=>mv hF rfl rfl fun a hF=>stS hF rfl rfl rfl rfl rfl fun a hF=>stS hF rfl rfl rfl rfl rfl fun a hF=>stS hF rfl rfl rfl rfl rfl fun a hF=>st hF (g_pickT hF rfl rfl) rfl fun a hF=>nt<|c_T hF rfl<|sr<|ag hF rfl rfl fun a hF=>nt<|wp_ret<|tR<|fin1 rfl hF.defers (res_tmp hF rfl) ⟨_,rfl,hM.below,?_⟩
    show _=_
    rfl
  first | rw [decide_eq_false g2] at hF | simp only [decide_eq_false g2] at hF
  refine stY hF rfl rfl rfl (g_fieldAddr ty_fo_39_1 hF rfl) rfl fun a hF=>stY hF rfl rfl rfl (g_load ty_on_2 hF rfl (hM.row 0 rfl) (algC_n (by omega))) rfl fun a hF=>stY hF rfl rfl rfl (g_lss hF rfl rfl) rfl fun a hF=>st hF (g_pickF hF rfl rfl) rfl fun a hF=>mv hF rfl rfl fun a hF=>?_
  by_cases g4:(n:Int)<1
  · first | rw [decide_eq_true g4] at hF | simp only [decide_eq_true g4] at hF
    refine stS hF rfl rfl rfl rfl rfl fun a hF=>stS hF rfl rfl rfl rfl rfl fun a hF=>stS hF rfl rfl rfl rfl rfl fun a hF=>st hF (g_pickT hF rfl rfl) rfl fun a hF=>nt<|c_T hF rfl<|sr<|ag hF rfl rfl fun a hF=>nt<|wp_ret<|tR<|fin1 rfl hF.defers (res_tmp hF rfl) ⟨_,rfl,hM.below,?_⟩
    show _=_
    rfl
  first | rw [decide_eq_false g4] at hF | simp only [decide_eq_false g4] at hF
  refine stY hF rfl rfl rfl (g_fieldAddr ty_fo_39_1 hF rfl) rfl fun a hF=>stY hF rfl rfl rfl (g_load ty_on_2 hF rfl (hM.row 0 rfl) (algC_n (by omega))) rfl fun a hF=>stY hF rfl rfl rfl (g_gtr hF rfl rfl) rfl fun a hF=>st hF (g_pickF hF rfl rfl) rfl fun a hF=>nt<|c_cond hF rfl (fun h6=>?_) (fun h6=>?_)
  · refine sq ?_
    refine wp_region_lit<|ag hF rfl rfl fun a hF=>nt<|wp_ret<|tR<|fin1 rfl hF.defers (res_tmp hF rfl) ⟨_,rfl,hM.below,?_⟩
    show _=_
    rfl
  refine wp_skip<|tN<|sq<|sr<|st hF (g_loadAgg ty_ag_39 hF rfl (hM.row 0 rfl) (by simp only [sz0]<;>omega) (whole cells_size)) rfl fun a hF=>st hF (g_fieldAddr ty_fo_39_3 hF rfl) rfl fun a hF=>st hF (g_loadAgg ty_ag_37 hF rfl (hM.row 0 rfl) (by simp only [sz0]<;>omega) (algC_form (by omega) (by omega))) rfl fun a hF=>stR hF (d_call Try.call59 hF (.cons rfl (.cons rfl .nil)) (isVector_ok p n T f (f) _ (fun _=>by first | exact hv _ | exact hu _ | exact hT _ _ _ | exact hf _ | omega | (split<;>omega) | (dsimp only;split<;>omega) | assumption))) rfl ?_;rintro _ w' a ⟨hx,rfl⟩ hF;have hM:=hM.ext hx;refine st hF (g_notP hF rfl) rfl fun a hF=>mv hF rfl rfl fun a hF=>?_
  by_cases g7:¬ (okV p n (f))
  · first | rw [decide_eq_true g7] at hF | simp only [decide_eq_true g7] at hF
    refine stS hF rfl rfl rfl rfl rfl fun a hF=>stS hF rfl rfl rfl rfl rfl fun a hF=>stS hF rfl rfl rfl rfl rfl fun a hF=>st hF (g_pickT hF rfl rfl) rfl fun a hF=>mv hF rfl rfl fun a hF=>stS hF rfl rfl rfl rfl rfl fun a hF=>stS hF rfl rfl rfl rfl rfl fun a hF=>stS hF rfl rfl rfl rfl rfl fun a hF=>st hF (g_pickT hF rfl rfl) rfl fun a hF=>nt<|c_T hF rfl<|sr<|ag hF rfl rfl fun a hF=>nt<|wp_ret<|tR<|fin1 rfl hF.defers (res_tmp hF rfl) ⟨_,rfl,hM.below,?_⟩
    show _=_
    rfl
  first | rw [decide_eq_false g7] at hF | simp only [decide_eq_false g7] at hF
  refine stY hF rfl rfl rfl (g_loadAgg ty_ag_39 hF rfl (hM.row 0 rfl) (by simp only [sz0]<;>omega) (whole cells_size)) rfl fun a hF=>stYR hF rfl rfl rfl (d_call Try.call69 hF (.cons rfl .nil) (hasTable_ok p n T f _ (fun _ _ _=>hT _ _ _) (fun _=>hf _))) rfl ?_;rintro _ w' a ⟨hx,rfl⟩ hF;have hM:=hM.ext hx;refine stY hF rfl rfl rfl (g_notP hF rfl) rfl fun a hF=>st hF (g_pickF hF rfl rfl) rfl fun a hF=>mv hF rfl rfl fun a hF=>?_
  by_cases g9:¬ (all2 6 (okE p n T))
  · first | rw [decide_eq_true g9] at hF | simp only [decide_eq_true g9] at hF
    refine stS hF rfl rfl rfl rfl rfl fun a hF=>stS hF rfl rfl rfl rfl rfl fun a hF=>stS hF rfl rfl rfl rfl rfl fun a hF=>st hF (g_pickT hF rfl rfl) rfl fun a hF=>nt<|c_T hF rfl<|sr<|ag hF rfl rfl fun a hF=>nt<|wp_ret<|tR<|fin1 rfl hF.defers (res_tmp hF rfl) ⟨_,rfl,hM.below,?_⟩
    show _=_
    rfl
  first | rw [decide_eq_false g9] at hF | simp only [decide_eq_false g9] at hF
  exact absurd (show shapeP p n T f from ⟨Decidable.not_not.1 (by assumption),⟨by omega,by omega⟩,Decidable.not_not.1 (by assumption),(table_iff (primeP_pos (Decidable.not_not.1 (by assumption)))).1 (Decidable.not_not.1 (by assumption))⟩) hsh
theorem IsAlgebraB (p n:Nat)(T:Nat→Nat→Nat→Nat)(f:Nat→Nat)(w:World)(hp:primeN p)(hn0:0<n)(hn:n≤6)(hTp:∀ i j k,T i j k<p)(hT0:∀ i j k,n≤k→T i j k=0)(hf:∀ i,f i≤255)(hsh:shapeP (p:Int) (n:Int) T f) :
    CallsR Try.prog 60 #[.agg (algC (p:Int) (n:Int) T f)] w (fun res _=>res = .bool (decide (AlgN p n T))):=by
  refine calls_fr [.agg (algC (p:Int) (n:Int) T f)] Try.func60 rfl Try.ntmps60 rfl fun a hF=>?_;have hM:Mem w w [none,none] []:=MemX.start w 2;change Fr 40 a [(0,.agg (algC (p:Int) (n:Int) T f))] at hF;have hp2:=hp.two;have hp13:=hp.le;have hT:∀ i j k,T i j k≤255:=fun i j k=>by have:=hTp i j k;omega
  refine sr<|stR hF (d_box 0 hM hF rfl) rfl ?_;rintro _ w' a ⟨b1,rfl,hM,-⟩ hF;change Mem w w' [some (b1,algC (p:Int) (n:Int) T f),none] [] at hM;refine ag hF rfl rfl fun a hF=>nt<|sq<|sr<|st hF (g_fieldAddr ty_fo_39_0 hF rfl) rfl fun a hF=>st hF (g_load ty_on_2 hF rfl (hM.row 0 rfl) (algC_p (by omega))) rfl fun a hF=>stR hF (d_call Try.call43 hF (.cons rfl .nil) ((CallsR.val (isPrime_ok (p:Int) _) (congrArg Value.bool (decide_eq_true (hsh.1)))))) rfl ?_;rintro _ w' a ⟨hx,rfl⟩ hF;have hM:=hM.ext hx;refine st hF (g_not (b:=true) hF rfl) rfl fun a hF=>mv hF rfl rfl fun a hF=>stY hF rfl rfl rfl (g_fieldAddr ty_fo_39_1 hF rfl) rfl fun a hF=>stY hF rfl rfl rfl (g_load ty_on_2 hF rfl (hM.row 0 rfl) (algC_n (by omega))) rfl fun a hF=>stY hF rfl rfl rfl (g_lss hF rfl rfl) rfl fun a hF=>st hF (g_pickF hF rfl rfl) rfl fun a hF=>mv hF rfl rfl fun a hF=>?_
  by_cases g2:((n:Int):Int)<1
  · first | rw [decide_eq_true g2] at hF | simp only [decide_eq_true g2] at hF
    exfalso;omega
  first | rw [decide_eq_false g2] at hF | simp only [decide_eq_false g2] at hF
  refine stY hF rfl rfl rfl (g_fieldAddr ty_fo_39_1 hF rfl) rfl fun a hF=>stY hF rfl rfl rfl (g_load ty_on_2 hF rfl (hM.row 0 rfl) (algC_n (by omega))) rfl fun a hF=>stY hF rfl rfl rfl (g_gtr hF rfl rfl) rfl fun a hF=>st hF (g_pickF hF rfl rfl) rfl fun a hF=>nt<|c_cond hF rfl (fun h3=>?_) (fun h3=>?_)
  · exfalso;omega
  refine wp_skip<|tN<|sq<|sr<|st hF (g_loadAgg ty_ag_39 hF rfl (hM.row 0 rfl) (by simp only [sz0]<;>omega) (whole cells_size)) rfl fun a hF=>st hF (g_fieldAddr ty_fo_39_3 hF rfl) rfl fun a hF=>st hF (g_loadAgg ty_ag_37 hF rfl (hM.row 0 rfl) (by simp only [sz0]<;>omega) (algC_form (by omega) (by omega))) rfl fun a hF=>stR hF (d_call Try.call59 hF (.cons rfl (.cons rfl .nil)) ((CallsR.val (isVector_ok (p:Int) (n:Int) T f (f) _ (fun _=>by first | exact hv _ | exact hu _ | exact hT _ _ _ | exact hf _ | omega | (split<;>omega) | (dsimp only;split<;>omega) | assumption)) (congrArg Value.bool (decide_eq_true (hsh.2.2.1)))))) rfl ?_;rintro _ w' a ⟨hx,rfl⟩ hF;have hM:=hM.ext hx;refine st hF (g_not (b:=true) hF rfl) rfl fun a hF=>mv hF rfl rfl fun a hF=>stY hF rfl rfl rfl (g_loadAgg ty_ag_39 hF rfl (hM.row 0 rfl) (by simp only [sz0]<;>omega) (whole cells_size)) rfl fun a hF=>stYR hF rfl rfl rfl (d_call Try.call69 hF (.cons rfl .nil) ((CallsR.val (hasTable_ok (p:Int) (n:Int) T f _ (fun _ _ _=>hT _ _ _) (fun _=>hf _)) (congrArg Value.bool (decide_eq_true ((table_iff (primeP_pos hsh.1)).2 hsh.2.2.2)))))) rfl ?_;rintro _ w' a ⟨hx,rfl⟩ hF;have hM:=hM.ext hx;refine stY hF rfl rfl rfl (g_not (b:=true) hF rfl) rfl fun a hF=>st hF (g_pickF hF rfl rfl) rfl fun a hF=>mv hF rfl rfl fun a hF=>stY hF rfl rfl rfl (g_loadAgg ty_ag_39 hF rfl (hM.row 0 rfl) (by simp only [sz0]<;>omega) (whole cells_size)) rfl fun a hF=>stYR hF rfl rfl rfl (d_call Try.call70 hF (.cons rfl .nil) (isAssociative_ok p n T f _ (by omega) (by omega) (by omega) (fun _ _ _=>hT _ _ _) (fun _=>hf _))) rfl ?_;rintro _ w' a ⟨hx,rfl⟩ hF;have hM:=hM.ext hx;refine stY hF rfl rfl rfl (g_notP hF rfl) rfl fun a hF=>st hF (g_pickF hF rfl rfl) rfl fun a hF=>nt<|c_cond hF rfl (fun h4=>?_) (fun h4=>?_)
  · refine sq ?_
    refine wp_region_lit<|ag hF rfl rfl fun a hF=>nt<|wp_ret<|tR<|fin1 rfl hF.defers (res_tmp hF rfl) ⟨_,rfl,hM.below,?_⟩
    show _=_
    exact bool_f (fun hq=>(by assumption:¬ asP p n T) ((asP_iff hT0).2 hq.1))
  refine wp_skip<|tN<|sr<|st hF (g_loadAgg ty_ag_39 hF rfl (hM.row 0 rfl) (by simp only [sz0]<;>omega) (whole cells_size)) rfl fun a hF=>stR hF (d_call Try.call64 hF (.cons rfl .nil) (findUnit_ok p n T f _ hp hn0 hn hTp)) rfl ?_;rintro _ w' a ⟨hx,⟨uu,huu,rfl⟩ | ⟨huu,rfl⟩⟩ hF
  · have hM:=hM.ext hx
    refine mv hF rfl rfl fun a hF=>st hF (g_extract hF rfl rfl) rfl fun a hF=>st hF (g_extract hF rfl rfl) rfl fun a hF=>stR hF (d_alloc 1 hM ty_ze_37) rfl ?_;rintro _ w' a ⟨b5,rfl,hM,-⟩ hF;change Mem w w' [some (b1,algC (p:Int) (n:Int) T f),some (b5,fnC 6 (fun _=>.int .u8 (0)))] [] at hM;refine stN hF (d_storeAgg 1 hM rfl ty_sz_37 hF rfl rfl (by first | exact vecC_one | exact cells_one | (refine fnC_one fun _ _=>?_;first | rfl | (split<;>rfl))) (by simp only [sz0]) (by simp only [sz0]<;>omega) (splice_whole _ _ (by simp only [sz0]))) ?_;intro _ w' a hM hF;change Mem w w' [some (b1,algC (p:Int) (n:Int) T f),some (b5,vecC uu)] [] at hM;refine ag hF rfl rfl fun a hF=>ns<|mv hF rfl rfl fun a hF=>ag hF rfl rfl fun a hF=>nt<|wp_ret<|fin1 rfl hF.defers (res_tmp hF rfl) ⟨_,rfl,hM.below,?_⟩
    show _=_
    exact bool_t ⟨(asP_iff hT0).1 (Decidable.not_not.1 (by assumption)),_,huu⟩
  have hM:=hM.ext hx;refine mv hF rfl rfl fun a hF=>st hF (g_extract hF rfl rfl) rfl fun a hF=>st hF (g_extract hF rfl rfl) rfl fun a hF=>stR hF (d_alloc 1 hM ty_ze_37) rfl ?_;rintro _ w' a ⟨b6,rfl,hM,-⟩ hF;change Mem w w' [some (b1,algC (p:Int) (n:Int) T f),some (b6,fnC 6 (fun _=>.int .u8 (0)))] [] at hM;refine stN hF (d_storeAgg 1 hM rfl ty_sz_37 hF rfl rfl (by first | exact vecC_one | exact cells_one | (refine fnC_one fun _ _=>?_;first | rfl | (split<;>rfl))) (by simp only [sz0]) (by simp only [sz0]<;>omega) (splice_whole _ _ (by simp only [sz0]))) ?_;intro _ w' a hM hF;change Mem w w' [some (b1,algC (p:Int) (n:Int) T f),some (b6,vecC (fun _=>0))] [] at hM;refine ag hF rfl rfl fun a hF=>ns<|mv hF rfl rfl fun a hF=>ag hF rfl rfl fun a hF=>nt<|wp_ret<|fin1 rfl hF.defers (res_tmp hF rfl) ⟨_,rfl,hM.below,?_⟩
  show _=_
  exact bool_f (fun hq=>by obtain ⟨u,hu⟩:=hq.2;exact huu u hu)
theorem IsAlgebraI_ok (p n:Int)(T:Nat→Nat→Nat→Nat)(f:Nat→Nat)(w:World)(hT:∀ i j k,T i j k≤255)(hf:∀ i,f i≤255):CallsV Try.prog 60 #[.agg (algC p n T f)] w (.bool (decide (AlgP p n T f))):=by
  by_cases hs:shapeP p n T f
  · have hp0:=primeP_pos hs.1
    have hn:=hs.2.1;have h:=IsAlgebraB p.toNat n.toNat (trunc n.toNat T) f w (primeN_of hs.1) (by omega) (by omega) (trunc_lt hs) trunc_out hf;rw [show (p.toNat:Int)=p by omega,show (n.toNat:Int)=n by omega,← algC_trunc hs] at h;exact CallsR.val (h (shape_trunc hs)) (congrArg Value.bool (decide_eq_decide.2 ⟨fun h=>⟨hs,h⟩,fun h=>h.2⟩))
  · exact CallsR.val (IsAlgebraA p n T f w hT hf hs) (congrArg Value.bool (decide_eq_false (fun h=>hs h.1)).symm)
end Go.Proofs.Ytklpefdaplchbaa
namespace Go.Proofs.Ytklpefdaplchbaa
open Go Go.RowKit Go.Sw Go.Ech
open Classical
theorem ty_us_86:Try.prog.underlying 86=some (.slice 37):=by kernel_rfl
theorem ty_sl_86:sliceOf Try.prog 86=some 6:=by kernel_rfl
def CodeP (p n:Int) (T:Nat→Nat→Nat→Nat) (f:Nat→Nat) (m:Nat) (V:Nat→Nat→Nat):Prop:=AlgP p n T f∧∀ i,i<m→okV p n (V i)
theorem areVectors_0 (p n:Int)(T:Nat→Nat→Nat→Nat)(f:Nat→Nat)(V:Nat→Nat→Nat)(w:World)(hT:∀ i j k,T i j k≤255)(hf:∀ i,f i≤255) :
    CallsR Try.prog 47 #[.agg (algC p n T f),.slice none 0 0] w (fun res _=>res = .bool (decide (CodeP p n T f 0 V))):=by
  refine calls_fr [.agg (algC p n T f),.slice none 0 0] Try.func47 rfl Try.ntmps47 rfl fun a hF=>?_;have hM:Mem w w [none,none] []:=MemX.start w 2;change Fr 20 a [(0,.agg (algC p n T f)),(1,.slice none 0 0)] at hF;refine sr<|stR hF (d_box 0 hM hF rfl) rfl ?_;rintro _ w' a ⟨b1,rfl,hM,-⟩ hF;refine ag hF rfl rfl fun a hF=>nt<|sq<|sr<|mv hF rfl rfl fun a hF=>st hF (g_len0 ty_us_86 hF rfl) rfl fun a hF=>mv hF rfl rfl fun a hF=>nt<|wp_block ?_;change Mem w _ [some (b1,algC p n T f),none] [] at hM;refine c_loop (fun (kk:Nat) a w'=>kk≤0∧(True)∧Fr 20 a [(2,ptr b1 (0)),(7,.slice none 0 0),(8,.int .i64 (0)),(9,.int .i64 (kk:Int))]∧Mem w w' [some (b1,algC p n T f),none] []) (fun kk=>0 - kk) 0 ?_ ?_
  · refine ⟨by omega,trivial,hF.sub _ (by repeat' constructor),?_⟩
    exact hM
  clear hF hM;rintro gi a w' ⟨hgi,hinv1,hF,hM⟩;refine sr<|st hF (g_lss hF rfl rfl) rfl fun a hF=>nt<|sq<|c_cond hF rfl (fun h2=>?_) (fun h2=>?_)
  · exfalso;omega
  obtain rfl:0=gi:=by omega
  refine wp_exit<|tX<|tX<|ib_same<|tN<|sr<|st hF (g_loadAgg ty_ag_39 hF rfl (hM.row 0 rfl) (by simp only [sz0]<;>omega) (whole cells_size)) rfl fun a hF=>stR hF (d_call Try.call60 hF (.cons rfl .nil) (IsAlgebraI_ok p n T f _ (fun _ _ _=>hT _ _ _) (fun _=>hf _))) rfl ?_;rintro _ w' a ⟨hx,rfl⟩ hF;have hM:=hM.ext hx;refine ag hF rfl rfl fun a hF=>nt<|wp_ret<|fin1 rfl hF.defers (res_tmp hF rfl) ⟨_,rfl,hM.below,?_⟩
  show _=_
  exact congrArg Value.bool (decide_eq_decide.2 ⟨fun h=>⟨h,fun i hi=>absurd hi (by omega)⟩,fun h=>h.1⟩)
end Go.Proofs.Ytklpefdaplchbaa
namespace Go.Proofs.Ytklpefdaplchbaa
open Go Go.RowKit Go.Sw Go.Ech
open Classical
end Go.Proofs.Ytklpefdaplchbaa
