import Derived.Test.YtccdgjmomcljkaaDoorY7
set_option linter.unusedVariables false
set_option linter.unusedSimpArgs false
namespace Go.Proofs.YtccdgjmomcljkaaDoor
open Go Go.RowKit Go.Sw Go.Ech
open Classical
theorem ty_ze_2:zeroP Tryd.prog 2=some (.int .i64 (0)):=by kernel_rfl
theorem ty_on_71:oneP Tryd.prog 71=true:=by kernel_rfl
theorem ta_nil63:∀ w,Sem.run Tryd.prog (Instr.typeAssert Value.nilIface 20 71 true) w = .ok (.tuple #[.nilIface,.bool false]) w:=by intros;kernel_rfl
theorem ta_err63:∀ v w,Sem.run Tryd.prog (Instr.typeAssert (.iface 108 v) 20 71 true) w = .ok (.tuple #[.iface 108 v,.bool true]) w:=by intros;kernel_rfl
theorem on_two63:oneP Tryd.prog 2=true:=by kernel_rfl
theorem clo_idle63 (b:Nat)(w:World)(c:Value)(hb:Blk w b #[c]):Clo Tryd.prog 63 b .returning w c:=by
  refine callsD_of_wpS Tryd.func63 rfl fun c₀ cs hu=>?_
  apply wpS_seq
  apply wpS_region
  simp [wpOpsS,go_sem,recoverD,hu,Tryd.ntmps63,Exit.thenS,ta_nil63,Oper.upon]
  apply wpS_seq
  apply wpS_region
  simp [wpOpsS,go_sem,Exit.thenS]
  refine wpS_cond (t:=false) (by simp [Act.eval,Array.replicate]) ?_;simp only [Bool.false_eq_true,if_false];refine wpS_of_wp (wp_skip ?_);have:({ c₀ with mode:=.returning }:Frame)=c₀:=by cases c₀;simp_all
  refine ⟨rfl,.returning,by rw [this],.tuple #[],?_,⟨_,rfl⟩,rfl,ExtX.refl _ _,hb⟩
  simp [results,Tryd.results63]
theorem clo_panic63 (b:Nat)(w:World)(c v:Value)(hb:Blk w b #[c]):Clo Tryd.prog 63 b (.panicking [{ v:=.iface 108 v,recovered:=false }]) w (.int .i64 5):=by
  refine callsD_of_wpS Tryd.func63 rfl fun c₀ cs hu=>?_
  apply wpS_seq
  apply wpS_region
  simp [wpOpsS,go_sem,recoverD,hu,Tryd.ntmps63,Exit.thenS,ta_err63,Oper.upon]
  apply wpS_seq
  apply wpS_region
  simp [wpOpsS,go_sem,Exit.thenS]
  refine wpS_cond (t:=true) (by simp [Act.eval,Array.replicate]) ?_;simp only [if_true];refine wpS_of_wp<|wp_region_lit ?_;have hM:MemX [b] w w [some (b,#[c])] []:=MemX.startX1 0 hb;refine at_lit (F:=[(0,ptr b 0)]) ?_ (by simp [okA,Array.getD_eq_getD_getElem?]);intro a hF;refine stN hF (d_store 0 hM rfl on_two63 hF rfl rfl rfl (by simp)) ?_;intro _ w' a hM hF;refine wpList_nil<|⟨hF.defers,.panicking [{ v:=.iface 108 v,recovered:=true }],rfl,.tuple #[],?_,⟨_,rfl⟩,rfl,hM.bel,hM.row 0 rfl⟩
  simp [results,Tryd.results63]
theorem doorB_A (p n:Int)(T:Nat→Nat→Nat→Nat)(f:Nat→Nat)(wf:Value)(w:World)(hT:∀ i j k,T i j k≤255)(hf:∀ i,f i≤255)(hc:¬ CodeP p n T f 0 (vAtL [])) :
    CallsR Tryd.prog 37 #[.agg (algC p n T f),wf,.slice none 0 0] w (fun res _=>res = .tuple #[.bool false,.int .i64 1]):=by
  refine calls_frD [.agg (algC p n T f),wf,.slice none 0 0] Tryd.func37 rfl Tryd.ntmps37 rfl fun a hF=>?_;have hM:Mem w w [none,none] []:=MemX.start w 2;change Fr 21 a [(0,.agg (algC p n T f)),(1,wf),(2,.slice none 0 0)] at hF;refine sr<|stR hF (d_box 0 hM hF rfl) rfl ?_;rintro _ w' a ⟨b1,rfl,hM,-⟩ hF;refine ag hF rfl rfl fun a hF=>stR hF (d_alloc 1 hM ty_ze_2) rfl ?_;rintro _ w' a ⟨b2,rfl,hM,-⟩ hF;change Mem w w' [some (b1,algC p n T f),some (b2,#[.int .i64 (0)])] [] at hM;refine wpList_nil<|tN<|sr<|st hF (g_makeFunc hF rfl) rfl fun a hF=>st_defer hF rfl fun a hF=>wpList_nil<|tN<|sq<|sq<|wp_regionD<|st hF (g_loadAgg ty_ag_32 hF rfl (hM.row 0 rfl) (by simp only [sz0,dgC_size,numC_sz,ldB_size]<;>omega) (whole cells_size)) rfl fun a hF=>mv hF rfl rfl fun a hF=>stR hF (d_call Tryd.call42 hF (.cons rfl (.cons rfl .nil)) ((CallsR.val (areVectors_0 p n T f (vAtL []) _ (fun _ _ _=>hT _ _ _) (fun _=>hf _)) (congrArg Value.bool (decide_eq_false hc))))) rfl ?_;rintro _ w' a ⟨hx,rfl⟩ hF;have hM:=hM.ext hx;refine st hF (g_not hF rfl) rfl fun a hF=>wpList_nil<|tN<|c_TD hF rfl<|sq<|wp_regionD<|mv hF rfl rfl fun a hF=>ag hF rfl rfl fun a hF=>stN hF (d_store 1 hM rfl ty_on_2 hF rfl rfl rfl (by first | omega | (simp only [sz0,dgC_size,numC_sz,ldB_size]<;>omega) | (simp only [Array.size_setIfInBounds];omega) | simp)) ?_;intro _ w' a hM hF;change Mem w w' [some (b1,algC p n T f),some (b2,#[.int .i64 (1)])] [] at hM;refine wpList_nil<|tN<|wp_ret<|tR<|door_end (f:=63) (b:=b2) (by intro hq;cases hq) Tryd.call63 hF (clo_idle63 b2 _ _ (hM.row 1 rfl)) fun w3 hx3 hb3=>?_;have hM:=hM.upd 1 rfl hx3 hb3;refine ⟨_,fin2D rfl (res_tmp hF rfl) (res_one ty_on_2 hF rfl (hM.row 1 rfl) rfl),_,rfl,hM.below,?_⟩
  rfl
theorem doorB_N (p n:Nat)(T:Nat→Nat→Nat→Nat)(f:Nat→Nat)(ev:Value)(wf:Value)(w:World)(hp:primeN p)(hn0:0<n)(hn:n≤6)(hTp:∀ i j k,T i j k<p)(hT0:∀ i j k,n≤k→T i j k=0)(hf:∀ i,f i≤255)(hc:CodeP (p:Int) (n:Int) T f 0 (vAtL []))(hcom:¬ comP T)(hg:Blk w 0 #[.iface 108 ev]) :
    CallsR Tryd.prog 37 #[.agg (algC (p:Int) (n:Int) T f),wf,.slice none 0 0] w (fun res _=>res = .tuple #[.bool false,.int .i64 5]):=by
  refine calls_frD [.agg (algC (p:Int) (n:Int) T f),wf,.slice none 0 0] Tryd.func37 rfl Tryd.ntmps37 rfl fun a hF=>?_;have hM:Mem w w [none,none] [(0,#[.iface 108 ev])]:=MemX.startD w 2 _ (startD1 hg);change Fr 21 a [(0,.agg (algC (p:Int) (n:Int) T f)),(1,wf),(2,.slice none 0 0)] at hF;have hp2:=hp.two;have hp13:=hp.le;have hT:∀ i j k,T i j k≤255:=fun i j k=>by have:=hTp i j k;omega
  have hp2:=hp.two;refine sr<|stR hF (d_box 0 hM hF rfl) rfl ?_;rintro _ w' a ⟨b1,rfl,hM,-⟩ hF;refine ag hF rfl rfl fun a hF=>stR hF (d_alloc 1 hM ty_ze_2) rfl ?_;rintro _ w' a ⟨b2,rfl,hM,-⟩ hF;change Mem w w' [some (b1,algC (p:Int) (n:Int) T f),some (b2,#[.int .i64 (0)])] [(0,#[.iface 108 ev])] at hM;refine wpList_nil<|tN<|sr<|st hF (g_makeFunc hF rfl) rfl fun a hF=>st_defer hF rfl fun a hF=>wpList_nil<|tN<|sq<|sq<|wp_regionD<|st hF (g_loadAgg ty_ag_32 hF rfl (hM.row 0 rfl) (by simp only [sz0,dgC_size,numC_sz,ldB_size]<;>omega) (whole cells_size)) rfl fun a hF=>mv hF rfl rfl fun a hF=>stR hF (d_call Tryd.call42 hF (.cons rfl (.cons rfl .nil)) ((CallsR.val (areVectors_0 (p:Int) (n:Int) T f (vAtL []) _ (fun _ _ _=>hT _ _ _) (fun _=>hf _)) (congrArg Value.bool (decide_eq_true hc))))) rfl ?_;rintro _ w' a ⟨hx,rfl⟩ hF;have hM:=hM.ext hx;refine st hF (g_not hF rfl) rfl fun a hF=>wpList_nil<|tN<|c_FlD hF rfl<|wp_skip<|tN<|sq<|sq<|wp_regionD<|st hF (g_loadAgg ty_ag_32 hF rfl (hM.row 0 rfl) (by simp only [sz0,dgC_size,numC_sz,ldB_size]<;>omega) (whole cells_size)) rfl fun a hF=>stR hF (d_call Tryd.call59 hF (.cons rfl .nil) ((CallsR.val (isOwnOpposite_ok p n T f _ (by omega) (by omega) (fun _ _ _=>hT _ _ _) (fun _=>hf _)) (congrArg Value.bool (decide_eq_false (fun h=>hcom (comP_iff.1 h))))))) rfl ?_;rintro _ w' a ⟨hx,rfl⟩ hF;have hM:=hM.ext hx;refine st hF (g_not hF rfl) rfl fun a hF=>wpList_nil<|tN<|c_TD hF rfl<|wp_regionD<|st hF (g_load ty_on_71 hF rfl (hM.fz 0 rfl) rfl) rfl fun a hF=>st_panic hF rfl<|tP<|door_end (f:=63) (b:=b2) (by intro hq;cases hq) Tryd.call63 hF (clo_panic63 b2 _ _ _ (hM.row 1 rfl)) fun w3 hx3 hb3=>?_;have hM:=hM.upd 1 rfl hx3 hb3;refine ⟨_,fin2D rfl (res_tmp hF rfl) (res_one ty_on_2 hF rfl (hM.row 1 rfl) rfl),_,rfl,hM.below,?_⟩
  rfl
end Go.Proofs.YtccdgjmomcljkaaDoor
