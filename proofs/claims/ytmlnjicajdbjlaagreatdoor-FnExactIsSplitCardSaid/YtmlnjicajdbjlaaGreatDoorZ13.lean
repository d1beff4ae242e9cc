import Derived.Test.YtmlnjicajdbjlaaGreatDoorZ10
import Derived.Test.YtmlnjicajdbjlaaGreatDoorSw47
import Derived.Test.YtmlnjicajdbjlaaGreatDoorSw52
import Derived.Test.YtmlnjicajdbjlaaGreatDoorQ9
import Derived.Test.YtmlnjicajdbjlaaGreatDoorSw10
set_option linter.unusedVariables false
set_option linter.unusedSimpArgs false
namespace Go.Proofs.YtmlnjicajdbjlaaGreatDoor
open Go Go.RowKit Go.Sw Go.Ech
open Classical
theorem l05Code_A (p n:Int)(T:Nat→Nat→Nat→Nat)(f:Nat→Nat)(w:World)(hT:∀ i j k,T i j k≤255)(hf:∀ i,f i≤255)(hc:¬ CodeP p n T f 0 (vAtL [])) :
    CallsR Tryz.prog 26 #[.agg (algC p n T f),.slice none 0 0] w (fun res _=>res = .int .i64 1):=by
  refine calls_fr [.agg (algC p n T f),.slice none 0 0] Tryz.func26 rfl Tryz.ntmps26 rfl fun a hF=>?_;have hM:Mem w w [none] []:=MemX.start w 1;change Fr 15 a [(0,.agg (algC p n T f)),(1,.slice none 0 0)] at hF;refine sr<|stR hF (d_box 0 hM hF rfl) rfl ?_;rintro _ w' a ⟨b1,rfl,hM,-⟩ hF;change Mem w w' [some (b1,algC p n T f)] [] at hM;refine ag hF rfl rfl fun a hF=>nt<|sq<|sr<|st hF (g_loadAgg ty_ag_32 hF rfl (hM.row 0 rfl) (by simp only [sz0,dgC_size,numC_sz,ldB_size,rowV_size]<;>omega) (whole cells_size)) rfl fun a hF=>mv hF rfl rfl fun a hF=>stR hF (d_call Tryz.call54 hF (.cons rfl (.cons rfl .nil)) ((CallsR.val (l01Code_0 p n T f (vAtL []) _ (fun _ _ _=>hT _ _ _) (fun _=>hf _)) (congrArg (Value.int .i64) (if_neg hc))))) rfl ?_;rintro _ w' a ⟨hx,rfl⟩ hF;have hM:=hM.ext hx;refine ag hF rfl rfl fun a hF=>ns<|mv hF rfl rfl fun a hF=>st hF (g_neq hF rfl rfl) rfl fun a hF=>nt<|c_kT hF rfl (by decide)<|sr<|mv hF rfl rfl fun a hF=>ag hF rfl rfl fun a hF=>nt<|wp_ret<|tR<|fin1 rfl hF.defers (res_tmp hF rfl) ⟨_,rfl,hM.below,?_⟩
  show _=_
  rfl
theorem l05Code_N (p n:Nat)(T:Nat→Nat→Nat→Nat)(f:Nat→Nat)(w:World)(hp:primeN p)(hn0:0<n)(hn:n≤6)(hTp:∀ i j k,T i j k<p)(hT0:∀ i j k,n≤k→T i j k=0)(hf:∀ i,f i≤255)(hc:CodeP (p:Int) (n:Int) T f 0 (vAtL []))(hcom:¬ comP T) :
    CallsR Tryz.prog 26 #[.agg (algC (p:Int) (n:Int) T f),.slice none 0 0] w (fun res _=>res = .int .i64 5):=by
  refine calls_fr [.agg (algC (p:Int) (n:Int) T f),.slice none 0 0] Tryz.func26 rfl Tryz.ntmps26 rfl fun a hF=>?_;have hM:Mem w w [none] []:=MemX.start w 1;change Fr 15 a [(0,.agg (algC (p:Int) (n:Int) T f)),(1,.slice none 0 0)] at hF;have hp2:=hp.two;have hp13:=hp.le;have hT:∀ i j k,T i j k≤255:=fun i j k=>by have:=hTp i j k;omega
  refine sr<|stR hF (d_box 0 hM hF rfl) rfl ?_;rintro _ w' a ⟨b1,rfl,hM,-⟩ hF;change Mem w w' [some (b1,algC (p:Int) (n:Int) T f)] [] at hM;refine ag hF rfl rfl fun a hF=>nt<|sq<|sr<|st hF (g_loadAgg ty_ag_32 hF rfl (hM.row 0 rfl) (by simp only [sz0,dgC_size,numC_sz,ldB_size,rowV_size]<;>omega) (whole cells_size)) rfl fun a hF=>mv hF rfl rfl fun a hF=>stR hF (d_call Tryz.call54 hF (.cons rfl (.cons rfl .nil)) ((CallsR.val (l01Code_0 (p:Int) (n:Int) T f (vAtL []) _ (fun _ _ _=>hT _ _ _) (fun _=>hf _)) (congrArg (Value.int .i64) (if_pos hc))))) rfl ?_;rintro _ w' a ⟨hx,rfl⟩ hF;have hM:=hM.ext hx;refine ag hF rfl rfl fun a hF=>ns<|mv hF rfl rfl fun a hF=>st hF (g_neq hF rfl rfl) rfl fun a hF=>nt<|c_kF hF rfl (by decide)<|wp_skip<|tN<|sq<|sr<|st hF (g_loadAgg ty_ag_32 hF rfl (hM.row 0 rfl) (by simp only [sz0,dgC_size,numC_sz,ldB_size,rowV_size]<;>omega) (whole cells_size)) rfl fun a hF=>stR hF (d_call Tryz.call55 hF (.cons rfl .nil) ((CallsR.val (l01Commutative_ok (p:Int) (n:Int) T f _) (congrArg Value.bool (decide_eq_false hcom))))) rfl ?_;rintro _ w' a ⟨hx,rfl⟩ hF;have hM:=hM.ext hx;refine st hF (g_not hF rfl) rfl fun a hF=>nt<|c_T hF rfl<|sr<|ag hF rfl rfl fun a hF=>nt<|wp_ret<|tR<|fin1 rfl hF.defers (res_tmp hF rfl) ⟨_,rfl,hM.below,?_⟩
  show _=_
  rfl
theorem l05Code_Y (p n:Nat)(T:Nat→Nat→Nat→Nat)(f:Nat→Nat)(w:World)(hp:primeN p)(hn0:0<n)(hn:n≤6)(hTp:∀ i j k,T i j k<p)(hT0:∀ i j k,n≤k→T i j k=0)(hf:∀ i,f i≤255)(hc:CodeP (p:Int) (n:Int) T f 0 (vAtL []))(hcom:comP T) :
    CallsR Tryz.prog 26 #[.agg (algC (p:Int) (n:Int) T f),.slice none 0 0] w (fun res _=>res = .int .i64 0):=by
  refine calls_fr [.agg (algC (p:Int) (n:Int) T f),.slice none 0 0] Tryz.func26 rfl Tryz.ntmps26 rfl fun a hF=>?_;have hM:Mem w w [none] []:=MemX.start w 1;change Fr 15 a [(0,.agg (algC (p:Int) (n:Int) T f)),(1,.slice none 0 0)] at hF;have hp2:=hp.two;have hp13:=hp.le;have hT:∀ i j k,T i j k≤255:=fun i j k=>by have:=hTp i j k;omega
  refine sr<|stR hF (d_box 0 hM hF rfl) rfl ?_;rintro _ w' a ⟨b1,rfl,hM,-⟩ hF;change Mem w w' [some (b1,algC (p:Int) (n:Int) T f)] [] at hM;refine ag hF rfl rfl fun a hF=>nt<|sq<|sr<|st hF (g_loadAgg ty_ag_32 hF rfl (hM.row 0 rfl) (by simp only [sz0,dgC_size,numC_sz,ldB_size,rowV_size]<;>omega) (whole cells_size)) rfl fun a hF=>mv hF rfl rfl fun a hF=>stR hF (d_call Tryz.call54 hF (.cons rfl (.cons rfl .nil)) ((CallsR.val (l01Code_0 (p:Int) (n:Int) T f (vAtL []) _ (fun _ _ _=>hT _ _ _) (fun _=>hf _)) (congrArg (Value.int .i64) (if_pos hc))))) rfl ?_;rintro _ w' a ⟨hx,rfl⟩ hF;have hM:=hM.ext hx;refine ag hF rfl rfl fun a hF=>ns<|mv hF rfl rfl fun a hF=>st hF (g_neq hF rfl rfl) rfl fun a hF=>nt<|c_kF hF rfl (by decide)<|wp_skip<|tN<|sq<|sr<|st hF (g_loadAgg ty_ag_32 hF rfl (hM.row 0 rfl) (by simp only [sz0,dgC_size,numC_sz,ldB_size,rowV_size]<;>omega) (whole cells_size)) rfl fun a hF=>stR hF (d_call Tryz.call55 hF (.cons rfl .nil) ((CallsR.val (l01Commutative_ok (p:Int) (n:Int) T f _) (congrArg Value.bool (decide_eq_true hcom))))) rfl ?_;rintro _ w' a ⟨hx,rfl⟩ hF;have hM:=hM.ext hx;refine st hF (g_not hF rfl) rfl fun a hF=>nt<|c_Fl hF rfl<|wp_skip<|tN<|sr<|ag hF rfl rfl fun a hF=>nt<|wp_ret<|fin1 rfl hF.defers (res_tmp hF rfl) ⟨_,rfl,hM.below,?_⟩
  show _=_
  rfl
theorem prL_same {p n r r0:Nat}{T:Nat→Nat→Nat→Nat}{uu:Nat→Nat}{VF W0:Nat→Nat→Nat}(hp:2≤p)(h0:IsKer p n (spE p n T uu p 1) n r0 W0)(h:IsKer p n (spE p n T uu p 1) n r VF):prL p n T uu (padN n VF) r=prL p n T uu W0 r0:=by
  obtain ⟨rfl,e⟩:=IsKer.unique hp h0 h;rw [prL_pad];exact prL_cong r0 fun i hi c hc=>(e i hi c hc).symm
end Go.Proofs.YtmlnjicajdbjlaaGreatDoor
namespace Go.Proofs.YtmlnjicajdbjlaaGreatDoor
open Go Go.RowKit Go.Sw Go.Ech
open Classical
theorem dvd_small {p x:Nat}(h:(p:Int)∣(x:Int))(hx:x<p):x=0:=Nat.eq_zero_of_dvd_of_lt (Int.natCast_dvd_natCast.1 h) hx
theorem hpos_of {p n m:Nat}{M:Nat→Nat→Nat}(hp:2≤p)(hne:∀ k E ld,Rref p n E k ld→(∀ x,Ker p n E k x↔Ker p n M m x)→0<nf k ld n):∀ r V,IsKer p n M m r V→0<r:=fun r V h=>by
  obtain ⟨k,E,ld,ld2,h1,h2,h3,h4⟩:=h
  obtain ⟨c,hc,hf,_⟩:=nf_at n 0 (hne k E ld h1 h2)
  refine Decidable.byContradiction fun h0=>?_
  have h5:=(h4 (fun d=>if d=c then 1 else 0)).1 (fun i hi=>absurd hi (by omega)) c hc hf
  have e:dot n (ci (sol p E k ld c)) (fun d=>if d=c then 1 else 0)=((1:Nat):Int):=by
    unfold dot
    rw [sI_one hc]
    · unfold ci sol;simp
    · intro j _ hne2;simp [hne2]
  rw [e] at h5;have:=dvd_small h5 (by omega)
  omega
def cutR (n R:Nat) (W:Nat→Nat→Nat) (i c:Nat):Nat:=if i<R∧c<n then W i c else 0
end Go.Proofs.YtmlnjicajdbjlaaGreatDoor
namespace Go.Proofs.YtmlnjicajdbjlaaGreatDoor
open Go Go.RowKit Go.Sw Go.Ech
open Classical
end Go.Proofs.YtmlnjicajdbjlaaGreatDoor
