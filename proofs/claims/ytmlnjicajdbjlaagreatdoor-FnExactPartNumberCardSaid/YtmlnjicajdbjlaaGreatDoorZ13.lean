import Derived.Test.YtmlnjicajdbjlaaGreatDoorZ10
import Derived.Test.YtmlnjicajdbjlaaGreatDoorSw47
import Derived.Test.YtmlnjicajdbjlaaGreatDoorSw52
import Derived.Test.YtmlnjicajdbjlaaGreatDoorQ9
import Derived.Test.YtmlnjicajdbjlaaGreatDoorSw10
set_option linter.unusedVariables false
set_option linter.unusedSimpArgs false
namespace Go.Proofs.YtmlnjicajdbjlaaGreatDoor
open Go Go.RowKit Go.Sw Go.Ech
open Classical
theorem l05Code_A (p n:Int)(T:Nat→Nat→Nat→Nat)(f:Nat→Nat)(w:World)(hT:∀ i j k,T i j k≤255)(hf:∀ i,f i≤255)(hc:¬ CodeP p n T f 0 (vAtL [])) :
    CallsR Tryz.prog 26 #[.agg (algC p n T f),.slice none 0 0] w (fun res _=>res = .int .i64 1):=by
  refine calls_fr [.agg (algC p n T f),.slice none 0 0] Tryz.func26 rfl Tryz.ntmps26 rfl fun a hF=>?_;have hM:Mem w w [none] []:=MemX.start w 1;change Fr 15 a [(0,.agg (algC p n T f)),(1,.slice none 0 0)] at hF;refine sr<|stR hF (d_box 0 hM hF rfl) rfl ?_;rintro _ w' a ⟨b1,rfl,hM,-⟩ hF;change Mem w w' [some (b1,algC p n T f)] [] at hM;refine ag hF rfl rfl fun a hF=>nt<|sq<|sr<|st hF (g_loadAgg ty_ag_32 hF rfl (hM.row 0 rfl) (by simp only [sz0,dgC_size,numC_sz,ldB_size,rowV_size]<;>omega) (whole cells_size)) rfl fun a hF=>mv hF rfl rfl fun a hF=>stR hF (d_call Tryz.call54 hF (.cons rfl (.cons rfl .nil)) ((CallsR.val (l01Code_0 p n T f (vAtL []) _ (fun _ _ _=>hT _ _ _) (fun _=>hf _)) (congrArg (Value.int .i64) (if_neg hc))))) rfl ?_;rintro _ w' a ⟨hx,rfl⟩ hF;have hM:=hM.ext hx;refine ag hF rfl rfl fun a hF=>ns<|mv hF rfl rfl fun a hF=>st hF (g_neq hF rfl rfl) rfl fun a hF=>nt<|c_kT hF rfl (by decide)<|sr<|mv hF rfl rfl fun a hF=>ag hF rfl rfl fun a hF=>nt<|wp_ret<|tR<|fin1 rfl hF.defers (res_tmp hF rfl) ⟨_,rfl,hM.below,?_⟩
  show _=_
  rfl
theorem l05Code_N (p n:Nat)(T:Nat→Nat→Nat→Nat)(f:Nat→Nat)(w:World)(hp:primeN p)(hn0:0<n)(hn:n≤6)(hTp:∀ i j k,T i j k<p)(hT0:∀ i j k,n≤k→T i j k=0)(hf:∀ i,f i≤255)(hc:CodeP (p:Int) (n:Int) T f 0 (vAtL []))(hcom:¬ comP T) :
    CallsR Tryz.prog 26 #[.agg (algC (p:Int) (n:Int) T f),.slice none 0 0] w (fun res _=>res = .int .i64 5):=by
  refine calls_fr [.agg (algC (p:Int) (n:Int) T f),.slice none 0 0] Tryz.func26 rfl Tryz.ntmps26 rfl fun a hF=>?_;have hM:Mem w w [none] []:=MemX.start w 1;change Fr 15 a [(0,.agg (algC (p:Int) (n:Int) T f)),(1,.slice none 0 0)] at hF;have hp2:=hp.two;have hp13:=hp.le;have hT:∀ i j k,T i j k≤255:=fun i j k=>by have:=hTp i j k;omega
  refine sr<|stR hF (d_box 0 hM hF rfl) rfl ?_;rintro _ w' a ⟨b1,rfl,hM,-⟩ hF;change Mem w w' [some (b1,algC (p:Int) (n:Int) T f)] [] at hM;refine ag hF rfl rfl fun a hF=>nt<|sq<|sr<|st hF (g_loadAgg ty_ag_32 hF rfl (hM.row 0 rfl) (by simp only [sz0,dgC_size,numC_sz,ldB_size,rowV_size]<;>omega) (whole cells_size)) rfl fun a hF=>mv hF rfl rfl fun a hF=>stR hF (d_call Tryz.call54 hF (.cons rfl (.cons rfl .nil)) ((CallsR.val (l01Code_0 (p:Int) (n:Int) T f (vAtL []) _ (fun _ _ _=>hT _ _ _) (fun _=>hf _)) (congrArg (Value.int .i64) (if_pos hc))))) rfl ?_;rintro _ w' a ⟨hx,rfl⟩ hF;have hM:=hM.ext hx;refine ag hF rfl rfl fun a hF=>ns<|mv hF rfl rfl fun a hF=>st hF (g_neq hF rfl rfl) rfl fun a hF=>nt<|c_kF hF rfl (by decide)<|wp_skip<|tN<|sq<|sr<|st hF (g_loadAgg ty_ag_32 hF rfl (hM.row 0 rfl) (by simp only [sz0,dgC_size,numC_sz,ldB_size,rowV_size]<;>omega) (whole cells_size)) rfl fun a hF=>stR hF (d_call Tryz.call55 hF (.cons rfl .nil) ((CallsR.val (l01Commutative_ok (p:Int) (n:Int) T f _) (congrArg Value.bool (decide_eq_false hcom))))) rfl ?_;rintro _ w' a ⟨hx,rfl⟩ hF;have hM:=hM.ext hx;refine st hF (g_not hF rfl) rfl fun a hF=>nt<|c_T hF rfl<|sr<|ag hF rfl rfl fun a hF=>nt<|wp_ret<|tR<|fin1 rfl hF.defers (res_tmp hF rfl) ⟨_,rfl,hM.below,?_⟩
  show _=_
  rfl
theorem l05Code_Y (p n:Nat)(T:Nat→Nat→Nat→Nat)(f:Nat→Nat)(w:World)(hp:primeN p)(hn0:0<n)(hn:n≤6)(hTp:∀ i j k,T i j k<p)(hT0:∀ i j k,n≤k→T i j k=0)(hf:∀ i,f i≤255)(hc:CodeP (p:Int) (n:Int) T f 0 (vAtL []))(hcom:comP T) :
    CallsR Tryz.prog 26 #[.agg (algC (p:Int) (n:Int) T f),.slice none 0 0] w (fun res _=>res = .int .i64 0):=by
  refine calls_fr [.agg (algC (p:Int) (n:Int) T f),.slice none 0 0] Tryz.func26 rfl Tryz.ntmps26 rfl fun a hF=>?_;have hM:Mem w w [none] []:=MemX.start w 1;change Fr 15 a [(0,.agg (algC (p:Int) (n:Int) T f)),(1,.slice none 0 0)] at hF;have hp2:=hp.two;have hp13:=hp.le;have hT:∀ i j k,T i j k≤255:=fun i j k=>by have:=hTp i j k;omega
  refine sr<|stR hF (d_box 0 hM hF rfl) rfl ?_;rintro _ w' a ⟨b1,rfl,hM,-⟩ hF;change Mem w w' [some (b1,algC (p:Int) (n:Int) T f)] [] at hM;refine ag hF rfl rfl fun a hF=>nt<|sq<|sr<|st hF (g_loadAgg ty_ag_32 hF rfl (hM.row 0 rfl) (by simp only [sz0,dgC_size,numC_sz,ldB_size,rowV_size]<;>omega) (whole cells_size)) rfl fun a hF=>mv hF rfl rfl fun a hF=>stR hF (d_call Tryz.call54 hF (.cons rfl (.cons rfl .nil)) ((CallsR.val (l01Code_0 (p:Int) (n:Int) T f (vAtL []) _ (fun _ _ _=>hT _ _ _) (fun _=>hf _)) (congrArg (Value.int .i64) (if_pos hc))))) rfl ?_;rintro _ w' a ⟨hx,rfl⟩ hF;have hM:=hM.ext hx;refine ag hF rfl rfl fun a hF=>ns<|mv hF rfl rfl fun a hF=>st hF (g_neq hF rfl rfl) rfl fun a hF=>nt<|c_kF hF rfl (by decide)<|wp_skip<|tN<|sq<|sr<|st hF (g_loadAgg ty_ag_32 hF rfl (hM.row 0 rfl) (by simp only [sz0,dgC_size,numC_sz,ldB_size,rowV_size]<;>omega) (whole cells_size)) rfl fun a hF=>stR hF (d_call Tryz.call55 hF (.cons rfl .nil) ((CallsR.val (l01Commutative_ok (p:Int) (n:Int) T f _) (congrArg Value.bool (decide_eq_true hcom))))) rfl ?_;rintro _ w' a ⟨hx,rfl⟩ hF;have hM:=hM.ext hx;refine st hF (g_not hF rfl) rfl fun a hF=>nt<|c_Fl hF rfl<|wp_skip<|tN<|sr<|ag hF rfl rfl fun a hF=>nt<|wp_ret<|fin1 rfl hF.defers (res_tmp hF rfl) ⟨_,rfl,hM.below,?_⟩
  show _=_
  rfl
theorem prL_same {p n r r0:Nat}{T:Nat→Nat→Nat→Nat}{uu:Nat→Nat}{VF W0:Nat→Nat→Nat}(hp:2≤p)(h0:IsKer p n (spE p n T uu p 1) n r0 W0)(h:IsKer p n (spE p n T uu p 1) n r VF):prL p n T uu (padN n VF) r=prL p n T uu W0 r0:=by
  obtain ⟨rfl,e⟩:=IsKer.unique hp h0 h;rw [prL_pad];exact prL_cong r0 fun i hi c hc=>(e i hi c hc).symm
end Go.Proofs.YtmlnjicajdbjlaaGreatDoor
namespace Go.Proofs.YtmlnjicajdbjlaaGreatDoor
open Go Go.RowKit Go.Sw Go.Ech
open Classical
theorem dvd_small {p x:Nat}(h:(p:Int)∣(x:Int))(hx:x<p):x=0:=Nat.eq_zero_of_dvd_of_lt (Int.natCast_dvd_natCast.1 h) hx
theorem hpos_of {p n m:Nat}{M:Nat→Nat→Nat}(hp:2≤p)(hne:∀ k E ld,Rref p n E k ld→(∀ x,Ker p n E k x↔Ker p n M m x)→0<nf k ld n):∀ r V,IsKer p n M m r V→0<r:=fun r V h=>by
  obtain ⟨k,E,ld,ld2,h1,h2,h3,h4⟩:=h
  obtain ⟨c,hc,hf,_⟩:=nf_at n 0 (hne k E ld h1 h2)
  refine Decidable.byContradiction fun h0=>?_
  have h5:=(h4 (fun d=>if d=c then 1 else 0)).1 (fun i hi=>absurd hi (by omega)) c hc hf
  have e:dot n (ci (sol p E k ld c)) (fun d=>if d=c then 1 else 0)=((1:Nat):Int):=by
    unfold dot
    rw [sI_one hc]
    · unfold ci sol;simp
    · intro j _ hne2;simp [hne2]
  rw [e] at h5;have:=dvd_small h5 (by omega)
  omega
def cutR (n R:Nat) (W:Nat→Nat→Nat) (i c:Nat):Nat:=if i<R∧c<n then W i c else 0
end Go.Proofs.YtmlnjicajdbjlaaGreatDoor
namespace Go.Proofs.YtmlnjicajdbjlaaGreatDoor
open Go Go.RowKit Go.Sw Go.Ech
open Classical
theorem ta_nil83:∀ w,Sem.run Tryz.prog (Instr.typeAssert Value.nilIface 20 56 true) w = .ok (.tuple #[.nilIface,.bool false]) w:=by intros;kernel_rfl
theorem ta_err83:∀ v w,Sem.run Tryz.prog (Instr.typeAssert (.iface 152 v) 20 56 true) w = .ok (.tuple #[.iface 152 v,.bool true]) w:=by intros;kernel_rfl
theorem on_two83:oneP Tryz.prog 2=true:=by kernel_rfl
theorem clo_idle83 (b:Nat)(w:World)(c:Value)(hb:Blk w b #[c]):Clo Tryz.prog 83 b .returning w c:=by
  refine callsD_of_wpS Tryz.func83 rfl fun c₀ cs hu=>?_
  apply wpS_seq
  apply wpS_region
  simp [wpOpsS,go_sem,recoverD,hu,Tryz.ntmps83,Exit.thenS,ta_nil83,Oper.upon]
  apply wpS_seq
  apply wpS_region
  simp [wpOpsS,go_sem,Exit.thenS]
  refine wpS_cond (t:=false) (by simp [Act.eval,Array.replicate]) ?_;simp only [Bool.false_eq_true,if_false];refine wpS_of_wp (wp_skip ?_);have:({ c₀ with mode:=.returning }:Frame)=c₀:=by cases c₀;simp_all
  refine ⟨rfl,.returning,by rw [this],.tuple #[],?_,⟨_,rfl⟩,rfl,ExtX.refl _ _,hb⟩
  simp [results,Tryz.results83]
theorem clo_panic83 (b:Nat)(w:World)(c v:Value)(hb:Blk w b #[c]):Clo Tryz.prog 83 b (.panicking [{ v:=.iface 152 v,recovered:=false }]) w (.int .i64 5):=by
  refine callsD_of_wpS Tryz.func83 rfl fun c₀ cs hu=>?_
  apply wpS_seq
  apply wpS_region
  simp [wpOpsS,go_sem,recoverD,hu,Tryz.ntmps83,Exit.thenS,ta_err83,Oper.upon]
  apply wpS_seq
  apply wpS_region
  simp [wpOpsS,go_sem,Exit.thenS]
  refine wpS_cond (t:=true) (by simp [Act.eval,Array.replicate]) ?_;simp only [if_true];refine wpS_of_wp<|wp_region_lit ?_;have hM:MemX [b] w w [some (b,#[c])] []:=MemX.startX1 0 hb;refine at_lit (F:=[(0,ptr b 0)]) ?_ (by simp [okA,Array.getD_eq_getD_getElem?]);intro a hF;refine stN hF (d_store 0 hM rfl on_two83 hF rfl rfl rfl (by simp)) ?_;intro _ w' a hM hF;refine wpList_nil<|⟨hF.defers,.panicking [{ v:=.iface 152 v,recovered:=true }],rfl,.tuple #[],?_,⟨_,rfl⟩,rfl,hM.bel,hM.row 0 rfl⟩
  simp [results,Tryz.results83]
theorem doorI_A (p n:Int)(T:Nat→Nat→Nat→Nat)(f:Nat→Nat)(wf:Value)(w:World)(hT:∀ i j k,T i j k≤255)(hf:∀ i,f i≤255)(hc:¬ CodeP p n T f 0 (vAtL [])) :
    CallsR Tryz.prog 51 #[.agg (algC p n T f),wf,.slice none 0 0] w (fun res _=>res = .tuple #[.int .i64 0,.int .i64 1]):=by
  refine calls_frD [.agg (algC p n T f),wf,.slice none 0 0] Tryz.func51 rfl Tryz.ntmps51 rfl fun a hF=>?_;have hM:Mem w w [none,none] []:=MemX.start w 2;change Fr 21 a [(0,.agg (algC p n T f)),(1,wf),(2,.slice none 0 0)] at hF;refine sr<|stR hF (d_box 0 hM hF rfl) rfl ?_;rintro _ w' a ⟨b1,rfl,hM,-⟩ hF;refine ag hF rfl rfl fun a hF=>stR hF (d_alloc 1 hM ty_ze_2) rfl ?_;rintro _ w' a ⟨b2,rfl,hM,-⟩ hF;change Mem w w' [some (b1,algC p n T f),some (b2,#[.int .i64 (0)])] [] at hM;refine wpList_nil<|tN<|sr<|st hF (g_makeFunc hF rfl) rfl fun a hF=>st_defer hF rfl fun a hF=>wpList_nil<|tN<|sq<|sq<|wp_regionD<|st hF (g_loadAgg ty_ag_32 hF rfl (hM.row 0 rfl) (by simp only [sz0,dgC_size,numC_sz,ldB_size,rowV_size,mrk_size]<;>omega) (whole cells_size)) rfl fun a hF=>mv hF rfl rfl fun a hF=>stR hF (d_call Tryz.call63 hF (.cons rfl (.cons rfl .nil)) ((CallsR.val (areVectors_0 p n T f (vAtL []) _ (fun _ _ _=>hT _ _ _) (fun _=>hf _)) (congrArg Value.bool (decide_eq_false hc))))) rfl ?_;rintro _ w' a ⟨hx,rfl⟩ hF;have hM:=hM.ext hx;refine st hF (g_not hF rfl) rfl fun a hF=>wpList_nil<|tN<|c_TD hF rfl<|sq<|wp_regionD<|mv hF rfl rfl fun a hF=>ag hF rfl rfl fun a hF=>stN hF (d_store 1 hM rfl ty_on_2 hF rfl rfl rfl (by first | omega | (simp only [sz0,dgC_size,numC_sz,ldB_size,rowV_size,mrk_size]<;>omega) | (simp only [Array.size_setIfInBounds];omega) | simp)) ?_;intro _ w' a hM hF;change Mem w w' [some (b1,algC p n T f),some (b2,#[.int .i64 (1)])] [] at hM;refine wpList_nil<|tN<|wp_ret<|tR<|door_end (f:=83) (b:=b2) (by intro hq;cases hq) Tryz.call83 hF (clo_idle83 b2 _ _ (hM.row 1 rfl)) fun w3 hx3 hb3=>?_;have hM:=hM.upd 1 rfl hx3 hb3;refine ⟨_,fin2D rfl (res_tmp hF rfl) (res_one ty_on_2 hF rfl (hM.row 1 rfl) rfl),_,rfl,hM.below,?_⟩
  rfl
theorem doorI_N (p n:Nat)(T:Nat→Nat→Nat→Nat)(f:Nat→Nat)(ev:Value)(wf:Value)(w:World)(hp:primeN p)(hn0:0<n)(hn:n≤6)(hTp:∀ i j k,T i j k<p)(hT0:∀ i j k,n≤k→T i j k=0)(hf:∀ i,f i≤255)(hc:CodeP (p:Int) (n:Int) T f 0 (vAtL []))(hcom:¬ comP T)(hg:Blk w 1 #[.iface 152 ev]) :
    CallsR Tryz.prog 51 #[.agg (algC (p:Int) (n:Int) T f),wf,.slice none 0 0] w (fun res _=>res = .tuple #[.int .i64 0,.int .i64 5]):=by
  refine calls_frD [.agg (algC (p:Int) (n:Int) T f),wf,.slice none 0 0] Tryz.func51 rfl Tryz.ntmps51 rfl fun a hF=>?_;have hM:Mem w w [none,none] [(1,#[.iface 152 ev])]:=MemX.startD w 2 _ (startD1 hg);change Fr 21 a [(0,.agg (algC (p:Int) (n:Int) T f)),(1,wf),(2,.slice none 0 0)] at hF;have hp2:=hp.two;have hp13:=hp.le;have hT:∀ i j k,T i j k≤255:=fun i j k=>by have:=hTp i j k;omega
  have hp2:=hp.two;refine sr<|stR hF (d_box 0 hM hF rfl) rfl ?_;rintro _ w' a ⟨b1,rfl,hM,-⟩ hF;refine ag hF rfl rfl fun a hF=>stR hF (d_alloc 1 hM ty_ze_2) rfl ?_;rintro _ w' a ⟨b2,rfl,hM,-⟩ hF;change Mem w w' [some (b1,algC (p:Int) (n:Int) T f),some (b2,#[.int .i64 (0)])] [(1,#[.iface 152 ev])] at hM;refine wpList_nil<|tN<|sr<|st hF (g_makeFunc hF rfl) rfl fun a hF=>st_defer hF rfl fun a hF=>wpList_nil<|tN<|sq<|sq<|wp_regionD<|st hF (g_loadAgg ty_ag_32 hF rfl (hM.row 0 rfl) (by simp only [sz0,dgC_size,numC_sz,ldB_size,rowV_size,mrk_size]<;>omega) (whole cells_size)) rfl fun a hF=>mv hF rfl rfl fun a hF=>stR hF (d_call Tryz.call63 hF (.cons rfl (.cons rfl .nil)) ((CallsR.val (areVectors_0 (p:Int) (n:Int) T f (vAtL []) _ (fun _ _ _=>hT _ _ _) (fun _=>hf _)) (congrArg Value.bool (decide_eq_true hc))))) rfl ?_;rintro _ w' a ⟨hx,rfl⟩ hF;have hM:=hM.ext hx;refine st hF (g_not hF rfl) rfl fun a hF=>wpList_nil<|tN<|c_FlD hF rfl<|wp_skip<|tN<|sq<|sq<|wp_regionD<|st hF (g_loadAgg ty_ag_32 hF rfl (hM.row 0 rfl) (by simp only [sz0,dgC_size,numC_sz,ldB_size,rowV_size,mrk_size]<;>omega) (whole cells_size)) rfl fun a hF=>stR hF (d_call Tryz.call64 hF (.cons rfl .nil) ((CallsR.val (isOwnOpposite_ok p n T f _ (by omega) (by omega) (fun _ _ _=>hT _ _ _) (fun _=>hf _)) (congrArg Value.bool (decide_eq_false (fun h=>hcom (comP_iff.1 h))))))) rfl ?_;rintro _ w' a ⟨hx,rfl⟩ hF;have hM:=hM.ext hx;refine st hF (g_not hF rfl) rfl fun a hF=>wpList_nil<|tN<|c_TD hF rfl<|wp_regionD<|st hF (g_load ty_on_56 hF rfl (hM.fz 0 rfl) rfl) rfl fun a hF=>st_panic hF rfl<|tP<|door_end (f:=83) (b:=b2) (by intro hq;cases hq) Tryz.call83 hF (clo_panic83 b2 _ _ _ (hM.row 1 rfl)) fun w3 hx3 hb3=>?_;have hM:=hM.upd 1 rfl hx3 hb3;refine ⟨_,fin2D rfl (res_tmp hF rfl) (res_one ty_on_2 hF rfl (hM.row 1 rfl) rfl),_,rfl,hM.below,?_⟩
  rfl
end Go.Proofs.YtmlnjicajdbjlaaGreatDoor
