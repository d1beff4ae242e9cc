import Derived.Test.YtnjdpgaofjbndaaK2
import Derived.Test.YtnjdpgaofjbndaaEch5
set_option linter.unusedVariables false
set_option linter.unusedSimpArgs false
namespace Go.Proofs.Ytnjdpgaofjbndaa
open Go Go.RowKit Go.Sw Go.Ech
open Classical
theorem algC_putRow {p n:Int}{T:Nat→Nat→Nat→Nat}{f v:Nat→Nat}{o:Nat}(a b:Nat)(h:o=2+a*36+b*6)(ha:a<6)(hb:b<6):splice (algC p n T f) o (vecC v)=algC p n (fun i j k=>if i=a∧j=b then v k else T i j k) f:=by
  subst h;have hz:2+a*36+b*6+(vecC v).size≤(algC p n T f).size:=by rw [vecC_size,cells_size];omega
  refine algC_eq (by rw [splice_size _ _ _ hz,cells_size]) ?_ ?_ ?_ ?_
  · rw [splice_get _ _ _ _ hz,if_neg (by omega)];exact algC_p rfl
  · rw [splice_get _ _ _ _ hz,if_neg (by omega)];exact algC_n rfl
  · intro i j k hi hj hk
    rw [splice_get _ _ _ _ hz,vecC_size]
    by_cases e:i=a∧j=b
    · rw [if_pos (by omega),if_pos e];exact vecC_get k (by omega) hk
    · rw [if_neg (by omega),if_neg e];exact algC_T i j k rfl hi hj hk
  · intro i hi;rw [splice_get _ _ _ _ hz,vecC_size,if_neg (by omega)];exact algC_f i rfl hi
theorem algC_congr {p n:Int}{T U:Nat→Nat→Nat→Nat}{f:Nat→Nat}(h:∀ i,i<6→∀ j,j<6→∀ k,k<6→T i j k=U i j k):algC p n T f=algC p n U f:=by
  unfold algC
  refine fnC_congr fun c hc=>?_
  by_cases h0:c=0
  · rw [if_pos h0,if_pos h0]
  · rw [if_neg h0,if_neg h0]
    by_cases h1:c=1
    · rw [if_pos h1,if_pos h1]
    · rw [if_neg h1,if_neg h1]
      by_cases h2:c<218
      · rw [if_pos h2,if_pos h2,h _ (by omega) _ (by omega) _ (by omega)]
      · rw [if_neg h2,if_neg h2]
def trT (T:Nat→Nat→Nat→Nat) (i j k:Nat):Nat:=T j i k
theorem findUnit_u (p n:Nat)(T:Nat→Nat→Nat→Nat)(f uu:Nat→Nat)(w:World)(hp:primeN p)(hn0:0<n)(hn:n≤6)(hTp:∀ i j k,T i j k<p)(huu:UnitI p n T uu):CallsV Try.prog 51 #[.agg (algC (p:Int) (n:Int) T f)] w (.tuple #[.agg (vecC uu),.bool true]):=
  (findUnit_ok p n T f w hp hn0 hn hTp).mono fun v w' _ h=>by
    rcases h with ⟨u,hu,rfl⟩ | ⟨hu,rfl⟩
    · rw [huu.unique hu]
    · exact absurd huu (hu uu)
def comP (T:Nat→Nat→Nat→Nat):Prop:=∀ i,i<6→∀ j,j<i→eqV 6 (T i j) (T j i)
end Go.Proofs.Ytnjdpgaofjbndaa
namespace Go.Proofs.Ytnjdpgaofjbndaa
open Go Go.RowKit Go.Sw Go.Ech
open Classical
end Go.Proofs.Ytnjdpgaofjbndaa
namespace Go.Proofs.Ytnjdpgaofjbndaa
open Go Go.RowKit Go.Sw Go.Ech
open Classical
theorem ty_bsg_81_1:∀ (v0:Nat→Nat) (w:World),(Instr.buildSlice 81 1 #[(0,.agg (vecC v0))]).run Try.prog w = .ok (.slice (some ⟨w.heap.size,0,none⟩) 1 1) (w.alloc (.cells (vecsC 1 (vAtL [v0])) 34)):=by intros;kernel_rfl
def powW (mul:(Nat→Nat)→(Nat→Nat)→Nat→Nat) (u v:Nat→Nat):Nat→Nat→Nat
  | 0=>u
  | k+1=>mul (powW mul u v k) v
theorem powW_le {mul:(Nat→Nat)→(Nat→Nat)→Nat→Nat}{u v:Nat→Nat}(hu:∀ c,u c≤255)(hm:∀ x c,mul x v c≤255):∀ k c,powW mul u v k c≤255
  | 0,c=>hu c
  | k+1,c=>hm _ c
theorem timesV_le {p n:Nat}{T:Nat→Nat→Nat→Nat}(hp:0<p)(hp2:p<200)(x v:Nat→Nat)(c:Nat):timesV p n T x v c≤255:=by
  unfold timesV;have:=Nat.mod_lt (prodI T x v n n c) hp;omega
theorem prodI_Pr0 {n c:Nat}{T:Nat→Nat→Nat→Nat}{v u:Nat→Nat}:(prodI T v u n n c:Int)=Pr n T (ci v) (ci u) c:=by
  unfold prodI Pr
  rw [sumTo_sI];refine sI_congr fun a _=>?_;rw [sumTo_sI];exact sI_congr fun b _=>by simp [ci,Int.natCast_mul]
theorem unit_timesV {p n:Nat}{T:Nat→Nat→Nat→Nat}{u v:Nat→Nat}(hT0:∀ i j k,n≤k→T i j k=0)(hu:UnitI p n T u)(hv:∀ c,c<6→v c<p)(hv0:∀ c,n≤c→c<6→v c=0):∀ c,c<6→timesV p n T u v c=v c:=fun c hc=>by
  by_cases h:c<n
  · have hp0:0<p:=by have:=hv c hc;omega
    refine eq_of_dvd (Nat.mod_lt _ hp0) (hv c hc) ?_
    have h1:(p:Int)∣(timesV p n T u v c:Int) - Pr n T (ci u) (ci v) c:=by
      rw [← prodI_Pr0];unfold timesV;rw [Int.natCast_emod];exact emod_dvd _ _
    have h2:=Int.dvd_add h1 (Pr_unit_left hu (ci v) h)
    rwa [show ∀ A B C:Int,A - B+(B - C)=A - C from fun A B C=>by omega] at h2
  · rw [timesV_out hT0 (by omega),hv0 c (by omega) hc]
theorem okV_small {p n:Nat}{v:Nat→Nat}(h:okV (p:Int) (n:Int) v):∀ c,c<6→v c<p:=fun c hc=>by
  have:=h c hc;unfold okN at this;omega
theorem okV_out {p n:Nat}{v:Nat→Nat}(h:okV (p:Int) (n:Int) v):∀ c,n≤c→c<6→v c=0:=fun c hn hc=>by
  have:=h c hc;unfold okN at this;omega
theorem power_ok (p n:Nat)(T:Nat→Nat→Nat→Nat)(f v:Nat→Nat)(x:Nat)(w:World)(hp:primeN p)(hn0:0<n)(hn:n≤6)(hTp:∀ i j k,T i j k<p)(uu:Nat→Nat)(huu:UnitI p n T uu)(hv:∀ i,v i≤255)(hk:x≤1000)(h1:∀ c,c<6→timesV p n T uu v c=v c) :
    CallsR Try.prog 32 #[.agg (algC (p:Int) (n:Int) T f),.agg (vecC v),.int .i64 (x:Int)] w (fun res _=>res = .agg (vecC (powW (timesV p n T) uu v x))):=by
  refine calls_fr [.agg (algC (p:Int) (n:Int) T f),.agg (vecC v),.int .i64 (x:Int)] Try.func32 rfl Try.ntmps32 rfl fun a hF=>?_;have hM:Mem w w [none,none,none,none,none] []:=MemX.start w 5;change Fr 29 a [(0,.agg (algC (p:Int) (n:Int) T f)),(1,.agg (vecC v)),(2,.int .i64 (x:Int))] at hF;have hp2:=hp.two;have hp13:=hp.le;have hT:∀ i j k,T i j k≤255:=fun i j k=>by have:=hTp i j k;omega
  have hvp:∀ k c,powW (timesV p n T) uu v k c≤255:=powW_le (fun c=>by have:=huu.small c;omega) (fun x c=>timesV_le (by omega) (by omega) x v c);refine sr<|stR hF (d_box 0 hM hF rfl) rfl ?_;rintro _ w' a ⟨b1,rfl,hM,-⟩ hF;refine stR hF (d_box 1 hM hF rfl) rfl ?_;rintro _ w' a ⟨b2,rfl,hM,-⟩ hF;refine stR hF (d_alloc 2 hM ty_ze_34) rfl ?_;rintro _ w' a ⟨b3,rfl,hM,-⟩ hF;change Mem w w' [some (b1,algC (p:Int) (n:Int) T f),some (b2,vecC v),some (b3,fnC 6 (fun _=>.int .u8 (0))),none,none] [] at hM;refine nt<|sq<|sr<|mv hF rfl rfl fun a hF=>st hF (g_eql hF rfl rfl) rfl fun a hF=>nt<|c_cond hF rfl (fun h4=>?_) (fun h4=>?_)
  · refine sq ?_
    refine wp_region_lit<|st hF (g_loadAgg ty_ag_39 hF rfl (hM.row 0 rfl) (by simp only [sz0]<;>omega) (whole cells_size)) rfl fun a hF=>stR hF (d_call Try.call51 hF (.cons rfl .nil) (findUnit_u p n T f uu _ hp hn0 hn hTp huu)) rfl ?_;rintro _ w' a ⟨hx,rfl⟩ hF;have hM:=hM.ext hx;refine mv hF rfl rfl fun a hF=>st hF (g_extract hF rfl rfl) rfl fun a hF=>st hF (g_extract hF rfl rfl) rfl fun a hF=>stR hF (d_alloc 3 hM ty_ze_34) rfl ?_;rintro _ w' a ⟨b5,rfl,hM,-⟩ hF;change Mem w w' [some (b1,algC (p:Int) (n:Int) T f),some (b2,vecC v),some (b3,fnC 6 (fun _=>.int .u8 (0))),some (b5,fnC 6 (fun _=>.int .u8 (0))),none] [] at hM;refine stN hF (d_storeAgg 3 hM rfl ty_sz_34 hF rfl rfl (by first | exact vecC_one | exact cells_one | (refine fnC_one fun _ _=>?_;first | rfl | (split<;>rfl))) (by simp only [sz0]) (by simp only [sz0]<;>omega) (splice_whole _ _ (by simp only [sz0]))) ?_;intro _ w' a hM hF;change Mem w w' [some (b1,algC (p:Int) (n:Int) T f),some (b2,vecC v),some (b3,fnC 6 (fun _=>.int .u8 (0))),some (b5,vecC uu),none] [] at hM;refine ag hF rfl rfl fun a hF=>ns<|st hF (g_loadAgg ty_ag_34 hF rfl (hM.row 3 rfl) (by simp only [sz0]<;>omega) (whole (by simp only [sz0]))) rfl fun a hF=>stN hF (d_storeAgg 2 hM rfl ty_sz_34 hF rfl rfl (by first | exact vecC_one | exact cells_one | (refine fnC_one fun _ _=>?_;first | rfl | (split<;>rfl))) (by simp only [sz0]) (by simp only [sz0]<;>omega) (splice_whole _ _ (by simp only [sz0]))) ?_;intro _ w' a hM hF;change Mem w w' [some (b1,algC (p:Int) (n:Int) T f),some (b2,vecC v),some (b3,vecC uu),some (b5,vecC uu),none] [] at hM;refine nt<|wp_ret<|tR<|fin1 rfl hF.defers (res_agg ty_ag_34 hF rfl (hM.row 2 rfl) (by simp only [sz0])) ⟨_,rfl,hM.below,?_⟩
    show _=_
    obtain rfl:x=0:=by omega
    rfl
  refine wp_skip<|tN<|sr<|st hF (g_loadAgg ty_ag_34 hF rfl (hM.row 1 rfl) (by simp only [sz0]<;>omega) (whole (by simp only [sz0]))) rfl fun a hF=>stR hF (d_alloc 4 hM ty_ze_34) rfl ?_;rintro _ w' a ⟨b6,rfl,hM,-⟩ hF;change Mem w w' [some (b1,algC (p:Int) (n:Int) T f),some (b2,vecC v),some (b3,fnC 6 (fun _=>.int .u8 (0))),none,some (b6,fnC 6 (fun _=>.int .u8 (0)))] [] at hM;refine stN hF (d_storeAgg 4 hM rfl ty_sz_34 hF rfl rfl (by first | exact vecC_one | exact cells_one | (refine fnC_one fun _ _=>?_;first | rfl | (split<;>rfl))) (by simp only [sz0]) (by simp only [sz0]<;>omega) (splice_whole _ _ (by simp only [sz0]))) ?_;intro _ w' a hM hF;refine nt<|sq<|sr<|mv hF rfl rfl fun a hF=>st hF (g_sub hF rfl rfl (show _=((x - 1:Nat):Int) from (by rw [wrap_i64]<;>omega))) rfl fun a hF=>mv hF rfl rfl fun a hF=>nt<|wp_block ?_;change Mem w _ [some (b1,algC (p:Int) (n:Int) T f),some (b2,vecC v),some (b3,fnC 6 (fun _=>.int .u8 (0))),none,some (b6,vecC v)] [] at hM;refine c_loop (fun (kk:Nat) a w'=>kk≤(x - 1)∧(True)∧Fr 29 a [(3,ptr b1 (0)),(4,ptr b2 (0)),(6,ptr b3 (0)),(11,.bool (decide (((x:Int):Int)=0))),(9,ptr b6 (0)),(20,.int .i64 (((x - 1:Nat):Int))),(21,.int .i64 (kk:Int))]∧Mem w w' [some (b1,algC (p:Int) (n:Int) T f),some (b2,vecC v),some (b3,fnC 6 (fun _=>.int .u8 (0))),none,some (b6,vecC (powW (timesV p n T) uu v (kk+1)))] []) (fun kk=>(x - 1) - kk) 0 ?_ ?_
  · refine ⟨by omega,trivial,hF.sub _ (by repeat' constructor),?_⟩
    exact hM.rowc 4 rfl (fnC_congr fun c hc=>congrArg (Value.int .u8) (congrArg Nat.cast (h1 c hc).symm))
  clear hF hM;rintro gi a w' ⟨hgi,hinv1,hF,hM⟩;have hvt:=hvp (gi+1);refine sr<|st hF (g_lss hF rfl rfl) rfl fun a hF=>nt<|sq<|c_cond hF rfl (fun h7=>?_) (fun h7=>?_)
  · refine wp_skip ?_
    refine tN<|sq<|wp_block<|wp_region_lit<|st hF (g_loadAgg ty_ag_39 hF rfl (hM.row 0 rfl) (by simp only [sz0]<;>omega) (whole cells_size)) rfl fun a hF=>st hF (g_loadAgg ty_ag_34 hF rfl (hM.row 4 rfl) (by simp only [sz0]<;>omega) (whole (by simp only [sz0]))) rfl fun a hF=>st hF (g_loadAgg ty_ag_34 hF rfl (hM.row 1 rfl) (by simp only [sz0]<;>omega) (whole (by simp only [sz0]))) rfl fun a hF=>stR hF (d_call Try.call29 hF (.cons rfl (.cons rfl (.cons rfl .nil))) (product_ok p n T f ((powW (timesV p n T) uu v (gi+1))) (v) _ (by omega) (by omega) (by omega) (fun _ _ _=>hT _ _ _) (fun _=>by first | exact hv _ | exact hvt _ | exact hvs _ | exact hu _ | exact hT _ _ _ | exact hf _ | omega | (split<;>omega) | (dsimp only;split<;>omega) | assumption) (fun _=>by first | exact hv _ | exact hvt _ | exact hvs _ | exact hu _ | exact hT _ _ _ | exact hf _ | omega | (split<;>omega) | (dsimp only;split<;>omega) | assumption))) rfl ?_;rintro _ w' a ⟨hx,rfl⟩ hF;have hM:=hM.ext hx;refine stN hF (d_storeAgg 4 hM rfl ty_sz_34 hF rfl rfl (by first | exact vecC_one | exact cells_one | (refine fnC_one fun _ _=>?_;first | rfl | (split<;>rfl))) (by simp only [sz0]) (by simp only [sz0]<;>omega) (splice_whole _ _ (by simp only [sz0]))) ?_;intro _ w' a hM hF;change Mem w w' [some (b1,algC (p:Int) (n:Int) T f),some (b2,vecC v),some (b3,fnC 6 (fun _=>.int .u8 (0))),none,some (b6,vecC (timesV p n T ((powW (timesV p n T) uu v (gi+1))) (v)))] [] at hM;refine wpList_nil<|iN<|tN<|wp_region_lit<|st hF (g_add hF rfl rfl (add_nat (gi) (1) (by omega))) rfl fun a hF=>mv hF rfl rfl fun a hF=>nt<|⟨gi+1,⟨by omega,trivial,hF.sub _ (by repeat' constructor),?_⟩,by omega⟩;exact hM
  obtain rfl:(x - 1)=gi:=by omega
  refine wp_exit<|tX<|tX<|ib_same<|tN<|sr<|st hF (g_loadAgg ty_ag_34 hF rfl (hM.row 4 rfl) (by simp only [sz0]<;>omega) (whole (by simp only [sz0]))) rfl fun a hF=>stN hF (d_storeAgg 2 hM rfl ty_sz_34 hF rfl rfl (by first | exact vecC_one | exact cells_one | (refine fnC_one fun _ _=>?_;first | rfl | (split<;>rfl))) (by simp only [sz0]) (by simp only [sz0]<;>omega) (splice_whole _ _ (by simp only [sz0]))) ?_;intro _ w' a hM hF;change Mem w w' [some (b1,algC (p:Int) (n:Int) T f),some (b2,vecC v),some (b3,vecC (powW (timesV p n T) uu v (((x - 1))+1))),none,some (b6,vecC (powW (timesV p n T) uu v (((x - 1))+1)))] [] at hM;refine nt<|wp_ret<|fin1 rfl hF.defers (res_agg ty_ag_34 hF rfl (hM.row 2 rfl) (by simp only [sz0])) ⟨_,rfl,hM.below,?_⟩
  show _=_
  rw [show x - 1+1=x by omega]
theorem PowerVectorIB (p n:Nat)(T:Nat→Nat→Nat→Nat)(f:Nat→Nat)(v:Nat→Nat)(x:Nat)(w:World)(hp:primeN p)(hn0:0<n)(hn:n≤6)(hTp:∀ i j k,T i j k<p)(hT0:∀ i j k,n≤k→T i j k=0)(hf:∀ i,f i≤255)(hv:∀ i,v i≤255)(hk:x≤1000)(uu:Nat→Nat)(huu:UnitI p n T uu)(hc:CodeP (p:Int) (n:Int) T f 1 (vAtL [v])) :
    CallsR Try.prog 12 #[.agg (algC (p:Int) (n:Int) T f),.agg (vecC v),.int .i64 (x:Int)] w (fun res _=>res = .tuple #[.agg (vecC (powW (timesV p n T) uu v x)),.int .i64 0]):=by
  refine calls_fr [.agg (algC (p:Int) (n:Int) T f),.agg (vecC v),.int .i64 (x:Int)] Try.func12 rfl Try.ntmps12 rfl fun a hF=>?_;have hM:Mem w w [none,none,none,none] []:=MemX.start w 4;change Fr 25 a [(0,.agg (algC (p:Int) (n:Int) T f)),(1,.agg (vecC v)),(2,.int .i64 (x:Int))] at hF;have hp2:=hp.two;have hp13:=hp.le;have hT:∀ i j k,T i j k≤255:=fun i j k=>by have:=hTp i j k;omega
  have hVb:∀ i c,vAtL [v] i c≤255:=vAtL_le (fun x hx=>by simp at hx;subst hx<;>assumption);refine sr<|stR hF (d_box 0 hM hF rfl) rfl ?_;rintro _ w' a ⟨b1,rfl,hM,-⟩ hF;refine stR hF (d_box 1 hM hF rfl) rfl ?_;rintro _ w' a ⟨b2,rfl,hM,-⟩ hF;refine stR hF (d_alloc 2 hM ty_ze_34) rfl ?_;rintro _ w' a ⟨b3,rfl,hM,-⟩ hF;change Mem w w' [some (b1,algC (p:Int) (n:Int) T f),some (b2,vecC v),some (b3,fnC 6 (fun _=>.int .u8 (0))),none] [] at hM;refine ag hF rfl rfl fun a hF=>nt<|sq<|sr<|st hF (g_loadAgg ty_ag_39 hF rfl (hM.row 0 rfl) (by simp only [sz0]<;>omega) (whole cells_size)) rfl fun a hF=>st hF (g_loadAgg ty_ag_34 hF rfl (hM.row 1 rfl) (by simp only [sz0]<;>omega) (whole (by simp only [sz0]))) rfl fun a hF=>stR hF (d_buildC (vs:=[(0,.agg (vecC v))]) 3 hM hF (build1 hF rfl) (fun w=>ty_bsg_81_1 v w)) rfl ?_;rintro _ w' a ⟨b4,rfl,hM,-⟩ hF;change Mem w w' [some (b1,algC (p:Int) (n:Int) T f),some (b2,vecC v),some (b3,fnC 6 (fun _=>.int .u8 (0))),some (b4,vecsC 1 (vAtL [v]))] [] at hM;refine stR hF (d_call Try.call31 hF (.cons rfl (.cons rfl .nil)) ((CallsR.val (areVectors_ok (p:Int) (n:Int) T f b4 1 1 (vAtL [v]) _ (fun _ _ _=>hT _ _ _) (fun _=>hf _) hVb (by omega) (hM.row 3 rfl)) (congrArg Value.bool (decide_eq_true hc))))) rfl ?_;rintro _ w' a ⟨hx,rfl⟩ hF;have hM:=hM.ext hx;refine st hF (g_not (b:=true) hF rfl) rfl fun a hF=>nt<|c_Fl hF rfl<|wp_skip<|tN<|sq<|sr<|mv hF rfl rfl fun a hF=>st hF (g_lss hF rfl rfl) rfl fun a hF=>mv hF rfl rfl fun a hF=>?_
  by_cases g6:((x:Int):Int)<0
  · first | rw [decide_eq_true g6] at hF | simp only [decide_eq_true g6] at hF
    exfalso;omega
  first | rw [decide_eq_false g6] at hF | simp only [decide_eq_false g6] at hF
  refine stY hF rfl rfl rfl (g_move hF rfl) rfl fun a hF=>stY hF rfl rfl rfl (g_gtr hF rfl rfl) rfl fun a hF=>st hF (g_pickF hF rfl rfl) rfl fun a hF=>nt<|c_cond hF rfl (fun h7=>?_) (fun h7=>?_)
  · exfalso;omega
  refine wp_skip<|tN<|sr<|st hF (g_loadAgg ty_ag_39 hF rfl (hM.row 0 rfl) (by simp only [sz0]<;>omega) (whole cells_size)) rfl fun a hF=>st hF (g_loadAgg ty_ag_34 hF rfl (hM.row 1 rfl) (by simp only [sz0]<;>omega) (whole (by simp only [sz0]))) rfl fun a hF=>mv hF rfl rfl fun a hF=>stR hF (d_call Try.call32 hF (.cons rfl (.cons rfl (.cons rfl .nil))) (power_ok p n T f (v) (x) _ hp hn0 hn hTp uu huu (fun _=>by first | exact hv _ | exact hvt _ | exact hvs _ | exact hu _ | exact hT _ _ _ | exact hf _ | omega | (split<;>omega) | (dsimp only;split<;>omega) | assumption) (by omega) (unit_timesV hT0 huu (okV_small (hc.2 0 (by omega))) (okV_out (hc.2 0 (by omega)))))) rfl ?_;rintro _ w' a ⟨hx,rfl⟩ hF;have hM:=hM.ext hx;refine stN hF (d_storeAgg 2 hM rfl ty_sz_34 hF rfl rfl (by first | exact vecC_one | exact cells_one | (refine fnC_one fun _ _=>?_;first | rfl | (split<;>rfl))) (by simp only [sz0]) (by simp only [sz0]<;>omega) (splice_whole _ _ (by simp only [sz0]))) ?_;intro _ w' a hM hF;change Mem w w' [some (b1,algC (p:Int) (n:Int) T f),some (b2,vecC v),some (b3,vecC (powW (timesV p n T) uu (v) (x))),some (b4,vecsC 1 (vAtL [v]))] [] at hM;refine ag hF rfl rfl fun a hF=>nt<|wp_ret<|fin2 rfl hF.defers (res_agg ty_ag_34 hF rfl (hM.row 2 rfl) (by simp only [sz0])) (res_tmp hF rfl) ⟨_,rfl,hM.below,?_⟩
  show _=_
  rfl
end Go.Proofs.Ytnjdpgaofjbndaa
namespace Go.Proofs.Ytnjdpgaofjbndaa
open Go Go.RowKit Go.Sw Go.Ech
open Classical
end Go.Proofs.Ytnjdpgaofjbndaa
