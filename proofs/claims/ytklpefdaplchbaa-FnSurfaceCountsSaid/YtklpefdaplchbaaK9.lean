import Derived.Test.YtklpefdaplchbaaK2
import Derived.Test.YtklpefdaplchbaaEch5
import Derived.Test.YtklpefdaplchbaaSw9
set_option linter.unusedVariables false
set_option linter.unusedSimpArgs false
namespace Go.Proofs.Ytklpefdaplchbaa
open Go Go.RowKit Go.Sw Go.Ech
open Classical
theorem ty_ze_36:zeroP Try.prog 36=some (.agg (fnC 216 (fun _=>.int .u8 (0)))):=by kernel_rfl
theorem ty_sz_36:sizeP Try.prog 36=some 216:=by kernel_rfl
theorem ty_ze_39:zeroP Try.prog 39=some (.agg (algC 0 0 (fun _ _ _=>0) (fun _=>0))):=by kernel_rfl
theorem ty_sz_39:sizeP Try.prog 39=some 224:=by kernel_rfl
theorem tabC_putRow {T:Nat→Nat→Nat→Nat}{v:Nat→Nat}{o:Nat}(a b:Nat)(h:o=a*36+b*6)(ha:a<6)(hb:b<6):splice (tabC T) o (vecC v)=tabC (fun i j k=>if i=a∧j=b then v k else T i j k):=by
  subst h;have hz:a*36+b*6+(vecC v).size≤(tabC T).size:=by rw [vecC_size,tabC_size];omega
  apply fnC_ext (by rw [splice_size _ _ _ hz,tabC_size])
  intro i hi;rw [splice_get _ _ _ _ hz,vecC_size]
  by_cases e:a*36+b*6≤i∧i<a*36+b*6+6
  · rw [if_pos e,vecC_get (i - (a*36+b*6)) rfl (by omega)];dsimp only;rw [if_pos ⟨by omega,by omega⟩,show i - (a*36+b*6)=i%6 by omega]
  · rw [if_neg e,tabC_get (i / 36) (i / 6%6) (i%6) (by omega) (by omega) (by omega) (by omega)];dsimp only;rw [if_neg (by omega)]
theorem algC_putRow {p n:Int}{T:Nat→Nat→Nat→Nat}{f v:Nat→Nat}{o:Nat}(a b:Nat)(h:o=2+a*36+b*6)(ha:a<6)(hb:b<6):splice (algC p n T f) o (vecC v)=algC p n (fun i j k=>if i=a∧j=b then v k else T i j k) f:=by
  subst h;have hz:2+a*36+b*6+(vecC v).size≤(algC p n T f).size:=by rw [vecC_size,cells_size];omega
  refine algC_eq (by rw [splice_size _ _ _ hz,cells_size]) ?_ ?_ ?_ ?_
  · rw [splice_get _ _ _ _ hz,if_neg (by omega)];exact algC_p rfl
  · rw [splice_get _ _ _ _ hz,if_neg (by omega)];exact algC_n rfl
  · intro i j k hi hj hk
    rw [splice_get _ _ _ _ hz,vecC_size]
    by_cases e:i=a∧j=b
    · rw [if_pos (by omega),if_pos e];exact vecC_get k (by omega) hk
    · rw [if_neg (by omega),if_neg e];exact algC_T i j k rfl hi hj hk
  · intro i hi;rw [splice_get _ _ _ _ hz,vecC_size,if_neg (by omega)];exact algC_f i rfl hi
theorem tabC_congr {T U:Nat→Nat→Nat→Nat}(h:∀ i,i<6→∀ j,j<6→∀ k,k<6→T i j k=U i j k):tabC T=tabC U:=by
  unfold tabC
  exact fnC_congr fun c hc=>by rw [h _ (by omega) _ (by omega) _ (by omega)]
theorem algC_congr {p n:Int}{T U:Nat→Nat→Nat→Nat}{f:Nat→Nat}(h:∀ i,i<6→∀ j,j<6→∀ k,k<6→T i j k=U i j k):algC p n T f=algC p n U f:=by
  unfold algC
  refine fnC_congr fun c hc=>?_
  by_cases h0:c=0
  · rw [if_pos h0,if_pos h0]
  · rw [if_neg h0,if_neg h0]
    by_cases h1:c=1
    · rw [if_pos h1,if_pos h1]
    · rw [if_neg h1,if_neg h1]
      by_cases h2:c<218
      · rw [if_pos h2,if_pos h2,h _ (by omega) _ (by omega) _ (by omega)]
      · rw [if_neg h2,if_neg h2]
def trT (T:Nat→Nat→Nat→Nat) (i j k:Nat):Nat:=T j i k
theorem findUnit_u (p n:Nat)(T:Nat→Nat→Nat→Nat)(f uu:Nat→Nat)(w:World)(hp:primeN p)(hn0:0<n)(hn:n≤6)(hTp:∀ i j k,T i j k<p)(huu:UnitI p n T uu):CallsV Try.prog 64 #[.agg (algC (p:Int) (n:Int) T f)] w (.tuple #[.agg (vecC uu),.bool true]):=
  (findUnit_ok p n T f w hp hn0 hn hTp).mono fun v w' _ h=>by
    rcases h with ⟨u,hu,rfl⟩ | ⟨hu,rfl⟩
    · rw [huu.unique hu]
    · exact absurd huu (hu uu)
theorem transposed_ok (T:Nat→Nat→Nat→Nat)(w:World) :
    CallsR Try.prog 74 #[.agg (tabC T)] w (fun res _=>res = .agg (tabC (trT T))):=by
  refine calls_fr [.agg (tabC T)] Try.func74 rfl Try.ntmps74 rfl fun a hF=>?_;have hM:Mem w w [none,none,none,none,none] []:=MemX.start w 5;change Fr 26 a [(0,.agg (tabC T))] at hF;refine sr<|stR hF (d_box 0 hM hF rfl) rfl ?_;rintro _ w' a ⟨b1,rfl,hM,-⟩ hF;refine stR hF (d_alloc 1 hM ty_ze_36) rfl ?_;rintro _ w' a ⟨b2,rfl,hM,-⟩ hF;refine ns<|stR hF (d_alloc 2 hM ty_ze_36) rfl ?_;rintro _ w' a ⟨b3,rfl,hM,-⟩ hF;change Mem w w' [some (b1,tabC T),some (b2,fnC 216 (fun _=>.int .u8 (0))),some (b3,fnC 216 (fun _=>.int .u8 (0))),none,none] [] at hM;refine nt<|sq<|sr<|st hF (g_loadAgg ty_ag_36 hF rfl (hM.row 0 rfl) (by simp only [sz0]<;>omega) (whole (by simp only [sz0]))) rfl fun a hF=>mv hF rfl rfl fun a hF=>nt<|wp_block ?_;change Mem w _ [some (b1,tabC T),some (b2,fnC 216 (fun _=>.int .u8 (0))),some (b3,fnC 216 (fun _=>.int .u8 (0))),none,none] [] at hM;refine c_loop (fun (kk:Nat) a w'=>kk≤6∧(True)∧Fr 26 a [(2,ptr b2 (0)),(3,ptr b3 (0)),(8,.agg (tabC T)),(9,.int .i64 (kk:Int))]∧Mem w w' [some (b1,tabC T),some (b2,fnC 216 (fun _=>.int .u8 (0))),some (b3,tabC (fun i j k=>if j<kk∨(j=kk∧i<0) then T j i k else 0)),none,none] []) (fun kk=>6 - kk) 0 ?_ ?_
  · refine ⟨by omega,trivial,hF.sub _ (by repeat' constructor),?_⟩
    refine hM.rowc 2 rfl (fnC_congr fun c hc=>by simp)
  clear hF hM;rintro gi a w' ⟨hgi,hinv1,hF,hM⟩;refine sr<|st hF (g_lss hF rfl rfl) rfl fun a hF=>nt<|sq<|c_cond hF rfl (fun h4=>?_) (fun h4=>?_)
  · refine wp_skip ?_
    refine tN<|sq<|wp_block<|sr<|mv hF rfl rfl fun a hF=>st hF (g_indexA ty_ua_36 ty_ag_25 hF rfl rfl rfl (by omega) (tabC_plane (gi) (by omega) (by omega) (by omega))) rfl fun a hF=>stR hF (d_alloc 3 hM ty_ze_25) rfl ?_;rintro _ w' a ⟨b5,rfl,hM,-⟩ hF;change Mem w w' [some (b1,tabC T),some (b2,fnC 216 (fun _=>.int .u8 (0))),some (b3,tabC (fun i j k=>if j<gi∨(j=gi∧i<0) then T j i k else 0)),some (b5,fnC 36 (fun _=>.int .u8 (0))),none] [] at hM;refine ag hF rfl rfl fun a hF=>stN hF (d_storeAgg 3 hM rfl ty_sz_25 hF rfl rfl (by first | exact vecC_one | exact cells_one | (refine fnC_one fun _ _=>?_;first | rfl | (split<;>rfl))) (by simp only [sz0]) (by simp only [sz0]<;>omega) (splice_whole _ _ (by simp only [sz0]))) ?_;intro _ w' a hM hF;change Mem w w' [some (b1,tabC T),some (b2,fnC 216 (fun _=>.int .u8 (0))),some (b3,tabC (fun i j k=>if j<gi∨(j=gi∧i<0) then T j i k else 0)),some (b5,planeC (T (gi))),none] [] at hM;refine ns<|st hF (g_loadAgg ty_ag_25 hF rfl (hM.row 3 rfl) (by simp only [sz0]<;>omega) (whole (by simp only [sz0]))) rfl fun a hF=>mv hF rfl rfl fun a hF=>nt<|wp_block ?_;change Mem w _ [some (b1,tabC T),some (b2,fnC 216 (fun _=>.int .u8 (0))),some (b3,tabC (fun i j k=>if j<gi∨(j=gi∧i<0) then T j i k else 0)),some (b5,planeC (T (gi))),none] [] at hM;refine c_loop (fun (kk:Nat) a w'=>kk≤6∧(True)∧Fr 26 a [(2,ptr b2 (0)),(3,ptr b3 (0)),(8,.agg (tabC T)),(9,.int .i64 (gi:Int)),(10,.bool (decide (((gi:Int):Int)<6))),(11,.int .i64 (gi:Int)),(12,.agg (planeC (T (gi)))),(5,ptr b5 (0)),(4,.int .i64 (gi:Int)),(13,.agg (planeC (T (gi)))),(14,.int .i64 (kk:Int))]∧Mem w w' [some (b1,tabC T),some (b2,fnC 216 (fun _=>.int .u8 (0))),some (b3,tabC (fun i j k=>if j<gi∨(j=gi∧i<kk) then T j i k else 0)),some (b5,planeC (T (gi))),none] []) (fun kk=>6 - kk) 0 ?_ ?_
    · refine ⟨by omega,trivial,hF.sub _ (by repeat' constructor),?_⟩
      exact hM
    clear hF hM;rintro gj a w' ⟨hgj,hinv2,hF,hM⟩;refine sr<|st hF (g_lss hF rfl rfl) rfl fun a hF=>nt<|sq<|c_cond hF rfl (fun h6=>?_) (fun h6=>?_)
    · refine wp_skip ?_
      refine tN<|sq<|wp_block<|sr<|mv hF rfl rfl fun a hF=>st hF (g_indexA ty_ua_25 ty_ag_24 hF rfl rfl rfl (by omega) (planeC_row (gj) (by omega) (by omega) (by omega))) rfl fun a hF=>stR hF (d_alloc 4 hM ty_ze_24) rfl ?_;rintro _ w' a ⟨b7,rfl,hM,-⟩ hF;change Mem w w' [some (b1,tabC T),some (b2,fnC 216 (fun _=>.int .u8 (0))),some (b3,tabC (fun i j k=>if j<gi∨(j=gi∧i<gj) then T j i k else 0)),some (b5,planeC (T (gi))),some (b7,fnC 6 (fun _=>.int .u8 (0)))] [] at hM;refine ag hF rfl rfl fun a hF=>stN hF (d_storeAgg 4 hM rfl ty_sz_24 hF rfl rfl (by first | exact vecC_one | exact cells_one | (refine fnC_one fun _ _=>?_;first | rfl | (split<;>rfl))) (by simp only [sz0]) (by simp only [sz0]<;>omega) (splice_whole _ _ (by simp only [sz0]))) ?_;intro _ w' a hM hF;change Mem w w' [some (b1,tabC T),some (b2,fnC 216 (fun _=>.int .u8 (0))),some (b3,tabC (fun i j k=>if j<gi∨(j=gi∧i<gj) then T j i k else 0)),some (b5,planeC (T (gi))),some (b7,vecC ((T (gi)) (gj)))] [] at hM;refine nt<|c_par 4 [] [.val (.int .i64 (gj:Int)),.val (.int .i64 (gi:Int)),.val (.agg (vecC ((T (gi)) (gj)))),.val (ptr b3 (0+(gj)*36))] hmix rfl hF rfl hM ⟨fun a w gG hF hS hd=>by exact pmv hS rfl hF rfl,fun a w gG hF hS hd=>by exact pmv hS rfl hF rfl,fun a w gG hF hS hd=>by have hM:=hS.mem rfl;exact par_val hS rfl (g_loadAgg ty_ag_24 hF rfl (hM.row 4 rfl) (by simp only [sz0]<;>omega) (whole (by simp only [sz0]))),fun a w gG hF hS hd=>by have hF:=hF.ext1 18 (hd 0 rfl rfl);exact par_val hS rfl (g_indexAddr ty_ar_36 hF rfl rfl rfl (by omega)),trivial⟩ ?_;intro a w' L hF hS hq;have hF:=hF.ext1 18 (hq 0 rfl rfl);have hF:=hF.ext1 19 (hq 1 rfl rfl);have hF:=hF.ext1 20 (hq 2 rfl rfl);have hF:=hF.ext1 21 (hq 3 rfl rfl);have hM:=hS.mem rfl;change wpList Try.prog _ _ [_,_] _ _;refine st hF (g_indexAddr ty_ar_25 hF rfl rfl rfl (by omega)) rfl fun a hF=>stN hF (d_storeAgg 2 hM rfl ty_sz_24 hF rfl rfl (by first | exact vecC_one | exact cells_one | (refine fnC_one fun _ _=>?_;first | rfl | (split<;>rfl))) (by simp only [sz0]) (by simp only [sz0]<;>omega) (tabC_putRow (gj) (gi) (by omega) (by omega) (by omega))) ?_;intro _ w' a hM hF;change Mem w w' [some (b1,tabC T),some (b2,fnC 216 (fun _=>.int .u8 (0))),some (b3,tabC (fun i j k=>if i=gj∧j=gi then (((T (gi)) (gj))) k else ((fun i j k=>if j<gi∨(j=gi∧i<gj) then T j i k else 0)) i j k)),some (b5,planeC (T (gi))),some (b7,vecC ((T (gi)) (gj)))] [] at hM;refine wpList_nil<|iN<|tN<|wp_region_lit<|st hF (g_add hF rfl rfl (add_nat (gj) (1) (by omega))) rfl fun a hF=>mv hF rfl rfl fun a hF=>wpList_nil<|tN ?_;have hM:=hM.drop 4;refine ⟨gj+1,⟨by omega,trivial,hF.sub _ (by repeat' constructor),?_⟩,by omega⟩;refine hM.rowc 2 rfl (tabC_congr fun i hi j hj k hk=>?_)
      by_cases e:i=gj∧j=gi
      · rw [if_pos e,if_pos (by omega),e.1,e.2]
      · have e0:(j<gi∨(j=gi∧i<gj+1))=(j<gi∨(j=gi∧i<gj)):=by apply propext;omega
        rw [if_neg e];simp only [e0]
    obtain rfl:6=gj:=by omega
    refine wp_exit<|tX<|tX<|ib_same<|iN<|tN<|wp_region_lit<|st hF (g_add hF rfl rfl (add_nat (gi) (1) (by omega))) rfl fun a hF=>mv hF rfl rfl fun a hF=>wpList_nil<|tN ?_;have hM:=hM.drop 3;refine ⟨gi+1,⟨by omega,trivial,hF.sub _ (by repeat' constructor),?_⟩,by omega⟩;refine hM.rowc 2 rfl (tabC_congr fun i hi j hj k hk=>?_)
    by_cases e:j<gi∨(j=gi∧i<6)
    · rw [if_pos e,if_pos (by omega)]
    · rw [if_neg e,if_neg (by omega)]
  obtain rfl:6=gi:=by omega
  have hM:=hM.rowc (cs':=tabC (trT T)) 2 rfl (tabC_congr fun i hi j hj k hk=>by unfold trT;rw [if_pos (by omega)]);refine wp_exit<|tX<|tX<|ib_same<|tN<|sr<|st hF (g_loadAgg ty_ag_36 hF rfl (hM.row 2 rfl) (by simp only [sz0]<;>omega) (whole (by simp only [sz0]))) rfl fun a hF=>stN hF (d_storeAgg 1 hM rfl ty_sz_36 hF rfl rfl (by first | exact vecC_one | exact cells_one | (refine fnC_one fun _ _=>?_;first | rfl | (split<;>rfl))) (by simp only [sz0]) (by simp only [sz0]<;>omega) (splice_whole _ _ (by simp only [sz0]))) ?_;intro _ w' a hM hF;change Mem w w' [some (b1,tabC T),some (b2,tabC (trT T)),some (b3,tabC (trT T)),none,none] [] at hM;refine nt<|wp_ret<|fin1 rfl hF.defers (res_agg ty_ag_36 hF rfl (hM.row 1 rfl) (by simp only [sz0])) ⟨_,rfl,hM.below,?_⟩
  show _=_
  rfl
theorem oppositeTo_ok (p n:Int)(T:Nat→Nat→Nat→Nat)(f:Nat→Nat)(w:World) :
    CallsR Try.prog 63 #[.agg (algC p n T f)] w (fun res _=>res = .agg (algC p n (trT T) f)):=by
  refine calls_fr [.agg (algC p n T f)] Try.func63 rfl Try.ntmps63 rfl fun a hF=>?_;have hM:Mem w w [none,none] []:=MemX.start w 2;change Fr 8 a [(0,.agg (algC p n T f))] at hF;refine sr<|stR hF (d_box 0 hM hF rfl) rfl ?_;rintro _ w' a ⟨b1,rfl,hM,-⟩ hF;refine stR hF (d_alloc 1 hM ty_ze_39) rfl ?_;rintro _ w' a ⟨b2,rfl,hM,-⟩ hF;change Mem w w' [some (b1,algC p n T f),some (b2,algC 0 0 (fun _ _ _=>0) (fun _=>0))] [] at hM;refine ns<|st hF (g_fieldAddr ty_fo_39_2 hF rfl) rfl fun a hF=>st hF (g_loadAgg ty_ag_36 hF rfl (hM.row 0 rfl) (by simp only [sz0]<;>omega) (algC_tab (by omega) (by omega))) rfl fun a hF=>stR hF (d_call Try.call74 hF (.cons rfl .nil) (transposed_ok T _)) rfl ?_;rintro _ w' a ⟨hx,rfl⟩ hF;have hM:=hM.ext hx;refine st hF (g_fieldAddr ty_fo_39_2 hF rfl) rfl fun a hF=>stN hF (d_storeAgg 0 hM rfl ty_sz_36 hF rfl rfl (by first | exact vecC_one | exact cells_one | (refine fnC_one fun _ _=>?_;first | rfl | (split<;>rfl))) (by simp only [sz0]) (by simp only [sz0]<;>omega) (algC_putT (by omega))) ?_;intro _ w' a hM hF;change Mem w w' [some (b1,algC p n (trT T) f),some (b2,algC 0 0 (fun _ _ _=>0) (fun _=>0))] [] at hM;refine ns<|st hF (g_loadAgg ty_ag_39 hF rfl (hM.row 0 rfl) (by simp only [sz0]<;>omega) (whole cells_size)) rfl fun a hF=>stN hF (d_storeAgg 1 hM rfl ty_sz_39 hF rfl rfl (by first | exact vecC_one | exact cells_one | (refine fnC_one fun _ _=>?_;first | rfl | (split<;>rfl))) (by simp only [sz0]) (by simp only [sz0]<;>omega) (splice_whole _ _ (by simp only [sz0]))) ?_;intro _ w' a hM hF;change Mem w w' [some (b1,algC p n (trT T) f),some (b2,algC p n (trT T) f)] [] at hM;refine nt<|wp_ret<|fin1 rfl hF.defers (res_agg ty_ag_39 hF rfl (hM.row 1 rfl) (by simp only [sz0])) ⟨_,rfl,hM.below,?_⟩
  show _=_
  rfl
def comP (T:Nat→Nat→Nat→Nat):Prop:=∀ i,i<6→∀ j,j<i→eqV 6 (T i j) (T j i)
theorem comP_iff {T:Nat→Nat→Nat→Nat}:eqT T (trT T)↔comP T:=by
  constructor
  · intro h i hi j hj;exact h i hi j (by omega)
  · intro h i hi j hj k hk
    show T i j k=T j i k
    rcases Nat.lt_trichotomy i j with e | e | e
    · exact (h j hj i e k hk).symm
    · rw [e]
    · exact h i hi j e k hk
end Go.Proofs.Ytklpefdaplchbaa
namespace Go.Proofs.Ytklpefdaplchbaa
open Go Go.RowKit Go.Sw Go.Ech
open Classical
end Go.Proofs.Ytklpefdaplchbaa
namespace Go.Proofs.Ytklpefdaplchbaa
open Go Go.RowKit Go.Sw Go.Ech
open Classical
theorem addN_addM {p x i:Nat}{v u:Nat→Nat}:addN p v u (x:Int) i=addM p v u x i:=by
  unfold addN addM
  rw [show (v i:Int)+(x:Int)*(u i:Int)=((v i+x*u i:Nat):Int) by rw [Int.natCast_add,Int.natCast_mul],← Int.natCast_emod]
  rfl
def powW (mul:(Nat→Nat)→(Nat→Nat)→Nat→Nat) (u v:Nat→Nat):Nat→Nat→Nat
  | 0=>u
  | k+1=>mul (powW mul u v k) v
theorem powW_le {mul:(Nat→Nat)→(Nat→Nat)→Nat→Nat}{u v:Nat→Nat}(hu:∀ c,u c≤255)(hm:∀ x c,mul x v c≤255):∀ k c,powW mul u v k c≤255
  | 0,c=>hu c
  | k+1,c=>hm _ c
theorem timesV_le {p n:Nat}{T:Nat→Nat→Nat→Nat}(hp:0<p)(hp2:p<200)(x v:Nat→Nat)(c:Nat):timesV p n T x v c≤255:=by
  unfold timesV;have:=Nat.mod_lt (prodI T x v n n c) hp;omega
theorem prodI_Pr0 {n c:Nat}{T:Nat→Nat→Nat→Nat}{v u:Nat→Nat}:(prodI T v u n n c:Int)=Pr n T (ci v) (ci u) c:=by
  unfold prodI Pr
  rw [sumTo_sI];refine sI_congr fun a _=>?_;rw [sumTo_sI];exact sI_congr fun b _=>by simp [ci,Int.natCast_mul]
theorem unit_timesV {p n:Nat}{T:Nat→Nat→Nat→Nat}{u v:Nat→Nat}(hT0:∀ i j k,n≤k→T i j k=0)(hu:UnitI p n T u)(hv:∀ c,c<6→v c<p)(hv0:∀ c,n≤c→c<6→v c=0):∀ c,c<6→timesV p n T u v c=v c:=fun c hc=>by
  by_cases h:c<n
  · have hp0:0<p:=by have:=hv c hc;omega
    refine eq_of_dvd (Nat.mod_lt _ hp0) (hv c hc) ?_
    have h1:(p:Int)∣(timesV p n T u v c:Int) - Pr n T (ci u) (ci v) c:=by
      rw [← prodI_Pr0];unfold timesV;rw [Int.natCast_emod];exact emod_dvd _ _
    have h2:=Int.dvd_add h1 (Pr_unit_left hu (ci v) h)
    rwa [show ∀ A B C:Int,A - B+(B - C)=A - C from fun A B C=>by omega] at h2
  · rw [timesV_out hT0 (by omega),hv0 c (by omega) hc]
theorem power_ok (p n:Nat)(T:Nat→Nat→Nat→Nat)(f v:Nat→Nat)(x:Nat)(w:World)(hp:primeN p)(hn0:0<n)(hn:n≤6)(hTp:∀ i j k,T i j k<p)(uu:Nat→Nat)(huu:UnitI p n T uu)(hv:∀ i,v i≤255)(hk:x≤1000)(h1:∀ c,c<6→timesV p n T uu v c=v c) :
    CallsR Try.prog 50 #[.agg (algC (p:Int) (n:Int) T f),.agg (vecC v),.int .i64 (x:Int)] w (fun res _=>res = .agg (vecC (powW (timesV p n T) uu v x))):=by
  refine calls_fr [.agg (algC (p:Int) (n:Int) T f),.agg (vecC v),.int .i64 (x:Int)] Try.func50 rfl Try.ntmps50 rfl fun a hF=>?_;have hM:Mem w w [none,none,none,none,none] []:=MemX.start w 5;change Fr 29 a [(0,.agg (algC (p:Int) (n:Int) T f)),(1,.agg (vecC v)),(2,.int .i64 (x:Int))] at hF;have hp2:=hp.two;have hp13:=hp.le;have hT:∀ i j k,T i j k≤255:=fun i j k=>by have:=hTp i j k;omega
  have hvp:∀ k c,powW (timesV p n T) uu v k c≤255:=powW_le (fun c=>by have:=huu.small c;omega) (fun x c=>timesV_le (by omega) (by omega) x v c);refine sr<|stR hF (d_box 0 hM hF rfl) rfl ?_;rintro _ w' a ⟨b1,rfl,hM,-⟩ hF;refine stR hF (d_box 1 hM hF rfl) rfl ?_;rintro _ w' a ⟨b2,rfl,hM,-⟩ hF;refine stR hF (d_alloc 2 hM ty_ze_37) rfl ?_;rintro _ w' a ⟨b3,rfl,hM,-⟩ hF;change Mem w w' [some (b1,algC (p:Int) (n:Int) T f),some (b2,vecC v),some (b3,fnC 6 (fun _=>.int .u8 (0))),none,none] [] at hM;refine nt<|sq<|sr<|mv hF rfl rfl fun a hF=>st hF (g_eql hF rfl rfl) rfl fun a hF=>nt<|c_cond hF rfl (fun h4=>?_) (fun h4=>?_)
  · refine sq ?_
    refine wp_region_lit<|st hF (g_loadAgg ty_ag_39 hF rfl (hM.row 0 rfl) (by simp only [sz0]<;>omega) (whole cells_size)) rfl fun a hF=>stR hF (d_call Try.call64 hF (.cons rfl .nil) (findUnit_u p n T f uu _ hp hn0 hn hTp huu)) rfl ?_;rintro _ w' a ⟨hx,rfl⟩ hF;have hM:=hM.ext hx;refine mv hF rfl rfl fun a hF=>st hF (g_extract hF rfl rfl) rfl fun a hF=>st hF (g_extract hF rfl rfl) rfl fun a hF=>stR hF (d_alloc 3 hM ty_ze_37) rfl ?_;rintro _ w' a ⟨b5,rfl,hM,-⟩ hF;change Mem w w' [some (b1,algC (p:Int) (n:Int) T f),some (b2,vecC v),some (b3,fnC 6 (fun _=>.int .u8 (0))),some (b5,fnC 6 (fun _=>.int .u8 (0))),none] [] at hM;refine stN hF (d_storeAgg 3 hM rfl ty_sz_37 hF rfl rfl (by first | exact vecC_one | exact cells_one | (refine fnC_one fun _ _=>?_;first | rfl | (split<;>rfl))) (by simp only [sz0]) (by simp only [sz0]<;>omega) (splice_whole _ _ (by simp only [sz0]))) ?_;intro _ w' a hM hF;change Mem w w' [some (b1,algC (p:Int) (n:Int) T f),some (b2,vecC v),some (b3,fnC 6 (fun _=>.int .u8 (0))),some (b5,vecC uu),none] [] at hM;refine ag hF rfl rfl fun a hF=>ns<|st hF (g_loadAgg ty_ag_37 hF rfl (hM.row 3 rfl) (by simp only [sz0]<;>omega) (whole (by simp only [sz0]))) rfl fun a hF=>stN hF (d_storeAgg 2 hM rfl ty_sz_37 hF rfl rfl (by first | exact vecC_one | exact cells_one | (refine fnC_one fun _ _=>?_;first | rfl | (split<;>rfl))) (by simp only [sz0]) (by simp only [sz0]<;>omega) (splice_whole _ _ (by simp only [sz0]))) ?_;intro _ w' a hM hF;change Mem w w' [some (b1,algC (p:Int) (n:Int) T f),some (b2,vecC v),some (b3,vecC uu),some (b5,vecC uu),none] [] at hM;refine nt<|wp_ret<|tR<|fin1 rfl hF.defers (res_agg ty_ag_37 hF rfl (hM.row 2 rfl) (by simp only [sz0])) ⟨_,rfl,hM.below,?_⟩
    show _=_
    obtain rfl:x=0:=by omega
    rfl
  refine wp_skip<|tN<|sr<|st hF (g_loadAgg ty_ag_37 hF rfl (hM.row 1 rfl) (by simp only [sz0]<;>omega) (whole (by simp only [sz0]))) rfl fun a hF=>stR hF (d_alloc 4 hM ty_ze_37) rfl ?_;rintro _ w' a ⟨b6,rfl,hM,-⟩ hF;change Mem w w' [some (b1,algC (p:Int) (n:Int) T f),some (b2,vecC v),some (b3,fnC 6 (fun _=>.int .u8 (0))),none,some (b6,fnC 6 (fun _=>.int .u8 (0)))] [] at hM;refine stN hF (d_storeAgg 4 hM rfl ty_sz_37 hF rfl rfl (by first | exact vecC_one | exact cells_one | (refine fnC_one fun _ _=>?_;first | rfl | (split<;>rfl))) (by simp only [sz0]) (by simp only [sz0]<;>omega) (splice_whole _ _ (by simp only [sz0]))) ?_;intro _ w' a hM hF;refine nt<|sq<|sr<|mv hF rfl rfl fun a hF=>st hF (g_sub hF rfl rfl (show _=((x - 1:Nat):Int) from (by rw [wrap_i64]<;>omega))) rfl fun a hF=>mv hF rfl rfl fun a hF=>nt<|wp_block ?_;change Mem w _ [some (b1,algC (p:Int) (n:Int) T f),some (b2,vecC v),some (b3,fnC 6 (fun _=>.int .u8 (0))),none,some (b6,vecC v)] [] at hM;refine c_loop (fun (kk:Nat) a w'=>kk≤(x - 1)∧(True)∧Fr 29 a [(3,ptr b1 (0)),(4,ptr b2 (0)),(6,ptr b3 (0)),(11,.bool (decide (((x:Int):Int)=0))),(9,ptr b6 (0)),(20,.int .i64 (((x - 1:Nat):Int))),(21,.int .i64 (kk:Int))]∧Mem w w' [some (b1,algC (p:Int) (n:Int) T f),some (b2,vecC v),some (b3,fnC 6 (fun _=>.int .u8 (0))),none,some (b6,vecC (powW (timesV p n T) uu v (kk+1)))] []) (fun kk=>(x - 1) - kk) 0 ?_ ?_
  · refine ⟨by omega,trivial,hF.sub _ (by repeat' constructor),?_⟩
    exact hM.rowc 4 rfl (fnC_congr fun c hc=>congrArg (Value.int .u8) (congrArg Nat.cast (h1 c hc).symm))
  clear hF hM;rintro gi a w' ⟨hgi,hinv1,hF,hM⟩;have hvt:=hvp (gi+1);refine sr<|st hF (g_lss hF rfl rfl) rfl fun a hF=>nt<|sq<|c_cond hF rfl (fun h7=>?_) (fun h7=>?_)
  · refine wp_skip ?_
    refine tN<|sq<|wp_block<|wp_region_lit<|st hF (g_loadAgg ty_ag_39 hF rfl (hM.row 0 rfl) (by simp only [sz0]<;>omega) (whole cells_size)) rfl fun a hF=>st hF (g_loadAgg ty_ag_37 hF rfl (hM.row 4 rfl) (by simp only [sz0]<;>omega) (whole (by simp only [sz0]))) rfl fun a hF=>st hF (g_loadAgg ty_ag_37 hF rfl (hM.row 1 rfl) (by simp only [sz0]<;>omega) (whole (by simp only [sz0]))) rfl fun a hF=>stR hF (d_call Try.call26 hF (.cons rfl (.cons rfl (.cons rfl .nil))) (product_ok p n T f ((powW (timesV p n T) uu v (gi+1))) (v) _ (by omega) (by omega) (by omega) (fun _ _ _=>hT _ _ _) (fun _=>by first | exact hv _ | exact hvt _ | exact hvs _ | exact hu _ | exact hT _ _ _ | exact hf _ | omega | (split<;>omega) | (dsimp only;split<;>omega) | assumption) (fun _=>by first | exact hv _ | exact hvt _ | exact hvs _ | exact hu _ | exact hT _ _ _ | exact hf _ | omega | (split<;>omega) | (dsimp only;split<;>omega) | assumption))) rfl ?_;rintro _ w' a ⟨hx,rfl⟩ hF;have hM:=hM.ext hx;refine stN hF (d_storeAgg 4 hM rfl ty_sz_37 hF rfl rfl (by first | exact vecC_one | exact cells_one | (refine fnC_one fun _ _=>?_;first | rfl | (split<;>rfl))) (by simp only [sz0]) (by simp only [sz0]<;>omega) (splice_whole _ _ (by simp only [sz0]))) ?_;intro _ w' a hM hF;change Mem w w' [some (b1,algC (p:Int) (n:Int) T f),some (b2,vecC v),some (b3,fnC 6 (fun _=>.int .u8 (0))),none,some (b6,vecC (timesV p n T ((powW (timesV p n T) uu v (gi+1))) (v)))] [] at hM;refine wpList_nil<|iN<|tN<|wp_region_lit<|st hF (g_add hF rfl rfl (add_nat (gi) (1) (by omega))) rfl fun a hF=>mv hF rfl rfl fun a hF=>nt<|⟨gi+1,⟨by omega,trivial,hF.sub _ (by repeat' constructor),?_⟩,by omega⟩;exact hM
  obtain rfl:(x - 1)=gi:=by omega
  refine wp_exit<|tX<|tX<|ib_same<|tN<|sr<|st hF (g_loadAgg ty_ag_37 hF rfl (hM.row 4 rfl) (by simp only [sz0]<;>omega) (whole (by simp only [sz0]))) rfl fun a hF=>stN hF (d_storeAgg 2 hM rfl ty_sz_37 hF rfl rfl (by first | exact vecC_one | exact cells_one | (refine fnC_one fun _ _=>?_;first | rfl | (split<;>rfl))) (by simp only [sz0]) (by simp only [sz0]<;>omega) (splice_whole _ _ (by simp only [sz0]))) ?_;intro _ w' a hM hF;change Mem w w' [some (b1,algC (p:Int) (n:Int) T f),some (b2,vecC v),some (b3,vecC (powW (timesV p n T) uu v (((x - 1))+1))),none,some (b6,vecC (powW (timesV p n T) uu v (((x - 1))+1)))] [] at hM;refine nt<|wp_ret<|fin1 rfl hF.defers (res_agg ty_ag_37 hF rfl (hM.row 2 rfl) (by simp only [sz0])) ⟨_,rfl,hM.below,?_⟩
  show _=_
  rw [show x - 1+1=x by omega]
end Go.Proofs.Ytklpefdaplchbaa
namespace Go.Proofs.Ytklpefdaplchbaa
open Go Go.RowKit Go.Sw Go.Ech
open Classical
end Go.Proofs.Ytklpefdaplchbaa
namespace Go.Proofs.Ytklpefdaplchbaa
open Go Go.RowKit Go.Sw Go.Ech
open Classical
def formM (p n:Nat) (T:Nat→Nat→Nat→Nat) (f:Nat→Nat) (i c:Nat):Nat:=if c<n then sumTo (fun k=>T i c k*f k) 6%p else 0
theorem formM_lt {p n:Nat}{T:Nat→Nat→Nat→Nat}{f:Nat→Nat}(hp:0<p):∀ i c,formM p n T f i c<p:=fun i c=>by
  unfold formM;split
  · exact Nat.mod_lt _ hp
  · exact hp
def FrobN (p n:Nat) (T:Nat→Nat→Nat→Nat) (f:Nat→Nat):Prop:=∃ E ld,Rref p 6 E n ld∧∀ x,Ker p 6 E n x↔Ker p 6 (formM p n T f) n x
theorem frob_iff {p n k:Nat}{T:Nat→Nat→Nat→Nat}{f:Nat→Nat}{E:Nat→Nat→Nat}{ld:Nat→Nat}(hp:2≤p)(h:Rref p 6 E k ld)(hK:∀ x,Ker p 6 E k x↔Ker p 6 (formM p n T f) n x):(k:Int)=(n:Int)↔FrobN p n T f:=by
  constructor
  · intro e
    have e:k=n:=by omega
    subst e;exact ⟨E,ld,h,hK⟩
  · rintro ⟨E',ld',h',hK'⟩
    have:=(rref_unique hp h h' (fun x=>(hK x).trans (hK' x).symm)).1
    omega
theorem formRows_ok (p n:Nat)(T:Nat→Nat→Nat→Nat)(f:Nat→Nat)(w:World)(hp:0<p)(hp2:p<100)(hn0:0<n)(hn:n≤6)(hT:∀ i j k,T i j k≤255)(hf:∀ i,f i≤255) :
    CallsR Try.prog 62 #[.agg (algC (p:Int) (n:Int) T f)] w (fun u w'=>BytesOut w w' 6 n (formM p n T f) u):=by
  refine calls_fr [.agg (algC (p:Int) (n:Int) T f)] Try.func62 rfl Try.ntmps62 rfl fun a hF=>?_;have hM:Mem w w [none,none,none] []:=MemX.start w 3;change Fr 41 a [(0,.agg (algC (p:Int) (n:Int) T f))] at hF;have hT:∀ i j k,T i j k≤255:=hT;refine sr<|stR hF (d_box 0 hM hF rfl) rfl ?_;rintro _ w' a ⟨b1,rfl,hM,-⟩ hF;change Mem w w' [some (b1,algC (p:Int) (n:Int) T f),none,none] [] at hM;refine ag hF rfl rfl fun a hF=>ns<|st hF (g_fieldAddr ty_fo_39_1 hF rfl) rfl fun a hF=>st hF (g_load ty_on_2 hF rfl (hM.row 0 rfl) (algC_n (by omega))) rfl fun a hF=>stR hF (d_make1 (len:=n) 1 hM hF ty_si_97 rfl rfl rfl (by omega) (by decide)) rfl ?_;rintro _ w' a ⟨bo,rfl,hM,-⟩ hF;refine ag hF rfl rfl fun a hF=>nt<|sq<|sr<|mv hF rfl rfl fun a hF=>st hF (g_len ty_us_97 hF rfl) rfl fun a hF=>mv hF rfl rfl fun a hF=>nt<|wp_block ?_;change Mem w _ [some (b1,algC (p:Int) (n:Int) T f),some (bo,fnC n (fun _=>.slice none 0 0)),none] [] at hM;refine c_loop (fun (kk:Nat) a w'=>kk≤n∧∃ (D1:Froz),∃ (β:Nat→Nat),∃ (cso:Array Value),(cso.size=n∧(∀ i,i<kk→cso[0+i*1]? = some (.slice (some ⟨β i,0,none⟩) 6 6))∧RowsB D1 6 kk β (formM p n T f)∧(∀ i,i<kk→w.heap.size≤β i))∧Fr 41 a [(1,ptr b1 (0)),(2,.slice none 0 0),(3,.slice (some ⟨bo,0,none⟩) n n),(10,.int .i64 (n:Int)),(11,.int .i64 (kk:Int))]∧Mem w w' [some (b1,algC (p:Int) (n:Int) T f),some (bo,cso),none] D1) (fun kk=>n - kk) 0 ?_ ?_
  · refine ⟨by omega,[],(fun _=>0),(fnC n (fun _=>.slice none 0 0)),⟨fnC_size _ _,fun i hi=>absurd hi (by omega),RowsB.none,fun i hi=>absurd hi (by omega)⟩,hF.sub _ (by repeat' constructor),?_⟩
    exact hM
  clear hF hM;rintro gk a w' ⟨hgk,D1,β,cso,⟨hso,hgo,hB,hbg⟩,hF,hM⟩;refine sr<|st hF (g_lss hF rfl rfl) rfl fun a hF=>nt<|sq<|c_cond hF rfl (fun h3=>?_) (fun h3=>?_)
  · refine wp_skip ?_
    refine tN<|sq<|wp_block<|sr<|mv hF rfl rfl fun a hF=>ag hF rfl rfl fun a hF=>ns<|mv hF rfl rfl fun a hF=>mv hF rfl rfl fun a hF=>stR hF (d_makeC (len:=6) 2 hM hF rfl rfl ty_mk_22_6) rfl ?_;rintro _ w' a ⟨b4,rfl,hM,-⟩ hF;change Mem w w' [some (b1,algC (p:Int) (n:Int) T f),some (bo,cso),some (b4,fnC 6 (fun _=>.int .u8 (0)))] D1 at hM;refine st hF (g_indexSl (i:=gk) ty_sl_97 hF rfl rfl rfl (by omega)) rfl fun a hF=>stN hF (d_store 1 hM rfl ty_on_22 hF rfl rfl rfl (by first | omega | (simp only [sz0]<;>omega) | (simp only [Array.size_setIfInBounds];omega) | simp)) ?_;intro _ w' a hM hF;change Mem w w' [some (b1,algC (p:Int) (n:Int) T f),some (bo,(cso).setIfInBounds (0+(gk)*1) (.slice (some ⟨b4,0,none⟩) 6 6)),some (b4,fnC 6 (fun _=>.int .u8 (0)))] D1 at hM;refine nt<|sq ?_;have hself:((cso).setIfInBounds (0+(gk)*1) (.slice (some ⟨b4,0,none⟩) 6 6))[0+gk*1]? = some (.slice (some ⟨b4,0,none⟩) 6 6):=Array.getElem?_setIfInBounds_self_of_lt (by omega);refine wp_region_lit<|st hF (g_fieldAddr ty_fo_39_1 hF rfl) rfl fun a hF=>st hF (g_load ty_on_2 hF rfl (hM.row 0 rfl) (algC_n (by omega))) rfl fun a hF=>mv hF rfl rfl fun a hF=>nt<|wp_block ?_;change Mem w _ [some (b1,algC (p:Int) (n:Int) T f),some (bo,(cso).setIfInBounds (0+(gk)*1) (.slice (some ⟨b4,0,none⟩) 6 6)),some (b4,fnC 6 (fun _=>.int .u8 (0)))] D1 at hM;refine c_loop (fun (kk:Nat) a w'=>kk≤n∧(True)∧Fr 41 a [(1,ptr b1 (0)),(2,.slice none 0 0),(3,.slice (some ⟨bo,0,none⟩) n n),(10,.int .i64 (n:Int)),(11,.int .i64 (gk:Int)),(12,.bool (decide (((gk:Int):Int)<(n:Int)))),(13,.int .i64 (gk:Int)),(4,.int .i64 (gk:Int)),(14,.slice (some ⟨bo,0,none⟩) n n),(15,.int .i64 (gk:Int)),(16,.slice (some ⟨b4,0,none⟩) 6 6),(17,ptr bo (0+(gk)*1)),(18,ptr b1 (0+1)),(19,.int .i64 (n:Int)),(20,.int .i64 (kk:Int))]∧Mem w w' [some (b1,algC (p:Int) (n:Int) T f),some (bo,(cso).setIfInBounds (0+(gk)*1) (.slice (some ⟨b4,0,none⟩) 6 6)),some (b4,fnC 6 (fun c=>.int .u8 ((if c<kk then sumTo (fun k=>T gk c k*f k) 6%p else 0:Nat):Int)))] D1) (fun kk=>n - kk) 0 ?_ ?_
    · refine ⟨by omega,trivial,hF.sub _ (by repeat' constructor),?_⟩
      exact hM.rowc 2 rfl (fnC_congr fun c hc=>by rw [if_neg (by omega)];rfl)
    clear hF hM;rintro gj a w' ⟨hgj,hinv2,hF,hM⟩;refine sr<|st hF (g_lss hF rfl rfl) rfl fun a hF=>nt<|sq<|c_cond hF rfl (fun h5=>?_) (fun h5=>?_)
    · refine wp_skip ?_
      refine tN<|sq<|wp_block<|sr<|mv hF rfl rfl fun a hF=>ag hF rfl rfl fun a hF=>nt<|c_par 14 [] [.val (.slice (some ⟨bo,0,none⟩) n n),.val (.int .i64 (gk:Int)),.val (ptr bo (0+(gk)*1)),.val (.slice (some ⟨b4,0,none⟩) 6 6),.val (.int .i64 (gj:Int)),.val (.agg (algC (p:Int) (n:Int) T f)),.val (.int .i64 (gk:Int)),.val (.int .i64 (gj:Int)),.val (ptr b1 (0+2)),.val (ptr b1 (0+2+(gk)*36)),.val (ptr b1 (0+2+(gk)*36+(gj)*6)),.val (.agg (vecC (T (gk) (gj)))),.val (.int .i64 (((sumTo (fun i=>((T (gk) (gj))) i*f i) 6%p:Nat):Int))),.val (.int .u8 (((sumTo (fun i=>((T (gk) (gj))) i*f i) 6%p:Nat):Int)))] hmix rfl hF rfl hM ⟨fun a w gG hF hS hd=>by exact pmv hS rfl hF rfl,fun a w gG hF hS hd=>by exact pmv hS rfl hF rfl,fun a w gG hF hS hd=>by have hF:=hF.ext1 23 (hd 0 rfl rfl);have hF:=hF.ext1 24 (hd 1 rfl rfl);exact par_val hS rfl (g_indexSl (i:=gk) ty_sl_97 hF rfl rfl rfl (by omega)),fun a w gG hF hS hd=>by have hF:=hF.ext1 25 (hd 2 rfl rfl);have hM:=hS.mem rfl;exact par_val hS rfl (g_load ty_on_22 hF rfl (hM.row 1 rfl) hself),fun a w gG hF hS hd=>by exact pmv hS rfl hF rfl,fun a w gG hF hS hd=>by have hM:=hS.mem rfl;exact par_val hS rfl (g_loadAgg ty_ag_39 hF rfl (hM.row 0 rfl) (by simp only [sz0]<;>omega) (whole cells_size)),fun a w gG hF hS hd=>by exact pmv hS rfl hF rfl,fun a w gG hF hS hd=>by exact pmv hS rfl hF rfl,fun a w gG hF hS hd=>by exact par_val hS rfl (g_fieldAddr ty_fo_39_2 hF rfl),fun a w gG hF hS hd=>by have hF:=hF.ext1 29 (hd 6 rfl rfl);have hF:=hF.ext1 31 (hd 8 rfl rfl);exact par_val hS rfl (g_indexAddr ty_ar_36 hF rfl rfl rfl (by omega)),fun a w gG hF hS hd=>by have hF:=hF.ext1 30 (hd 7 rfl rfl);have hF:=hF.ext1 32 (hd 9 rfl rfl);exact par_val hS rfl (g_indexAddr ty_ar_25 hF rfl rfl rfl (by omega)),fun a w gG hF hS hd=>by have hF:=hF.ext1 33 (hd 10 rfl rfl);have hM:=hS.mem rfl;exact par_val hS rfl (g_loadAgg ty_ag_24 hF rfl (hM.row 0 rfl) (by simp only [sz0]<;>omega) (algC_row (gk) (gj) (by omega) (by omega) (by omega) (by omega))),fun a w gG hF hS hd=>by have hF:=hF.ext1 28 (hd 5 rfl rfl);have hF:=hF.ext1 34 (hd 11 rfl rfl);exact par_call (by repeat constructor) hS rfl (d_call Try.call52 hF (.cons rfl (.cons rfl .nil)) (form_ok p n T f ((T (gk) (gj))) _ (by omega) (fun _=>by first | exact hv _ | exact hvt _ | exact hvs _ | exact hu _ | exact hT _ _ _ | exact hf _ | omega | (split<;>omega) | (dsimp only;split<;>omega) | assumption) (fun _=>by first | exact hv _ | exact hvt _ | exact hvs _ | exact hu _ | exact hT _ _ _ | exact hf _ | omega | (split<;>omega) | (dsimp only;split<;>omega) | assumption))),fun a w gG hF hS hd=>by have hF:=hF.ext1 35 (hd 12 rfl rfl);exact par_val hS rfl (g_conv ty_un_5 ty_ud_2 hF rfl (wrap_u8 (by omega) (by have:=Nat.mod_lt (sumTo (fun k=>T gk gj k*f k) 6) hp;omega))),trivial⟩ ?_;intro a w' L hF hS hq;have hF:=hF.ext1 23 (hq 0 rfl rfl);have hF:=hF.ext1 24 (hq 1 rfl rfl);have hF:=hF.ext1 25 (hq 2 rfl rfl);have hF:=hF.ext1 26 (hq 3 rfl rfl);have hF:=hF.ext1 27 (hq 4 rfl rfl);have hF:=hF.ext1 28 (hq 5 rfl rfl);have hF:=hF.ext1 29 (hq 6 rfl rfl);have hF:=hF.ext1 30 (hq 7 rfl rfl);have hF:=hF.ext1 31 (hq 8 rfl rfl);have hF:=hF.ext1 32 (hq 9 rfl rfl);have hF:=hF.ext1 33 (hq 10 rfl rfl);have hF:=hF.ext1 34 (hq 11 rfl rfl);have hF:=hF.ext1 35 (hq 12 rfl rfl);have hF:=hF.ext1 36 (hq 13 rfl rfl);have hM:=hS.mem rfl;change wpList Try.prog _ _ [_,_] _ _;refine st hF (g_indexSl (i:=gj) ty_sl_22 hF rfl rfl rfl (by omega)) rfl fun a hF=>stN hF (d_store 2 hM rfl ty_on_5 hF rfl rfl rfl (by first | omega | (simp only [sz0]<;>omega) | (simp only [Array.size_setIfInBounds];omega) | simp)) ?_;intro _ w' a hM hF;rw [show (fnC 6 (fun c=>.int .u8 ((if c<gj then sumTo (fun k=>T gk c k*f k) 6%p else 0:Nat):Int))).setIfInBounds (0+(gj)*1) (.int .u8 (((sumTo (fun i=>((T (gk) (gj))) i*f i) 6%p:Nat):Int)))=fnC 6 (fun c=>.int .u8 (((if c=gj then sumTo (fun i=>((T (gk) (gj))) i*f i) 6%p else if c<gj then sumTo (fun k=>T gk c k*f k) 6%p else 0):Nat):Int)) from fnC_set (fun c _=>by rw [show 0+(gj)*1=gj by omega];by_cases hh:c=gj<;>simp [hh])] at hM
      change Mem w w' [some (b1,algC (p:Int) (n:Int) T f),some (bo,(cso).setIfInBounds (0+(gk)*1) (.slice (some ⟨b4,0,none⟩) 6 6)),some (b4,fnC 6 (fun c=>.int .u8 (((if c=gj then sumTo (fun i=>((T (gk) (gj))) i*f i) 6%p else if c<gj then sumTo (fun k=>T gk c k*f k) 6%p else 0):Nat):Int)))] D1 at hM;refine wpList_nil<|iN<|tN<|wp_region_lit<|st hF (g_add hF rfl rfl (add_nat (gj) (1) (by omega))) rfl fun a hF=>mv hF rfl rfl fun a hF=>nt<|⟨gj+1,⟨by omega,trivial,hF.sub _ (by repeat' constructor),?_⟩,by omega⟩;refine hM.rowc 2 rfl (fnC_congr fun c hc=>congrArg (Value.int .u8) (congrArg Nat.cast ?_))
      by_cases e1:c=gj
      · simp [e1]
      · have e0:(c<gj+1)=(c<gj):=by apply propext;omega
        simp [e0,e1]
    obtain rfl:n=gj:=by omega
    refine wp_exit<|tX<|tX<|ib_same<|iN<|tN<|wp_region_lit<|st hF (g_add hF rfl rfl (add_nat (gk) (1) (by omega))) rfl fun a hF=>mv hF rfl rfl fun a hF=>wpList_nil<|tN ?_;have hgb:=hM.ge 2 rfl;have hnb:=fun i hi=>(hM.froz _ _ (hB.mem i hi)).2 2 b4 _ rfl;have hM:=hM.freeze 2 rfl;have hB:=((hB.more (D':=(b4,fnC 6 (fun c=>.int .u8 ((if c<n then sumTo (fun k=>T gk c k*f k) 6%p else 0:Nat):Int)))::D1) (fun x hx=>List.mem_cons_of_mem _ hx)).snoc (r:=formM p n T f gk) rfl (List.mem_cons_self ..) hnb).congr (M':=formM p n T f) (fun i hi c hc=>by
      by_cases e:i=gk<;>simp [upE,e])
    have hgo:∀ i,i<gk+1→((cso).setIfInBounds (0+(gk)*1) (.slice (some ⟨b4,0,none⟩) 6 6))[0+i*1]? = some (.slice (some ⟨up β gk b4 i,0,none⟩) 6 6):=fun i hi=>by
      unfold up
      by_cases e:i=gk
      · rw [if_pos e,e];exact hself
      · rw [if_neg e,Array.getElem?_setIfInBounds_ne (by omega)];exact hgo i (by omega)
    have hbg:∀ i,i<gk+1→w.heap.size≤up β gk b4 i:=fun i hi=>by
      unfold up;split
      · exact hgb
      · exact hbg i (by omega)
    skip
    have hM:=hM.drop 2;refine ⟨gk+1,⟨by omega,((b4,fnC 6 (fun c=>.int .u8 ((if c<n then sumTo (fun k=>T gk c k*f k) 6%p else 0:Nat):Int)))::D1),(up β gk b4),((cso).setIfInBounds (0+(gk)*1) (.slice (some ⟨b4,0,none⟩) 6 6)),⟨by rw [Array.size_setIfInBounds];exact hso,hgo,hB,hbg⟩,hF.sub _ (by repeat' constructor),?_⟩,by omega⟩;exact hM
  obtain rfl:n=gk:=by omega
  refine wp_exit<|tX<|tX<|ib_same<|tN<|sr<|mv hF rfl rfl fun a hF=>ag hF rfl rfl fun a hF=>nt<|wp_ret<|fin1 rfl hF.defers (res_tmp hF rfl) ⟨_,rfl,hM.below,?_⟩;exact BytesOut.of hM (k:=1) rfl hB hbg (by omega) hgo
end Go.Proofs.Ytklpefdaplchbaa
namespace Go.Proofs.Ytklpefdaplchbaa
open Go Go.RowKit Go.Sw Go.Ech
open Classical
theorem hasFullForm_ok (p n:Nat)(T:Nat→Nat→Nat→Nat)(f:Nat→Nat)(w:World)(hp:primeN p)(hn0:0<n)(hn:n≤6)(hT:∀ i j k,T i j k≤255)(hf:∀ i,f i≤255) :
    CallsR Try.prog 48 #[.agg (algC (p:Int) (n:Int) T f)] w (fun res _=>res = .bool (decide (FrobN p n T f))):=by
  refine calls_fr [.agg (algC (p:Int) (n:Int) T f)] Try.func48 rfl Try.ntmps48 rfl fun a hF=>?_;have hM:Mem w w [none] []:=MemX.start w 1;change Fr 12 a [(0,.agg (algC (p:Int) (n:Int) T f))] at hF;have hp2:=hp.two;have hp13:=hp.le;refine sr<|stR hF (d_box 0 hM hF rfl) rfl ?_;rintro _ w' a ⟨b1,rfl,hM,-⟩ hF;change Mem w w' [some (b1,algC (p:Int) (n:Int) T f)] [] at hM;refine ag hF rfl rfl fun a hF=>nt<|sq ?_;refine c_drawH (S:=fun (bb:Bool) (g:Option Nat) w2=>bb=g.isSome∧MemX [] w w2 [some (b1,algC (p:Int) (n:Int) T f)] []∧∀ k,g=some k→∃ E ld,Rref p 6 E k ld∧(∀ x,Ker p 6 E k x↔Ker p 6 (formM p n T f) n x)) 9 4 hmix rfl rfl rfl hF rfl (dstEvery_spec rfl) none ⟨rfl,hM,fun k e=>by cases e⟩ (fun bb g w h=>⟨h.1,h.2.1.ext (Below.drew (Below.refl _ _)),h.2.2⟩) (fun i (g:Option Nat) u w2=>match i with | 0=>u = .agg (algC (p:Int) (n:Int) T f) | 1=>g=none→BytesFr w [some (b1,algC (p:Int) (n:Int) T f)] 6 n (formM p n T f) u w2 | 2=>u=ptr b1 (0+0) | 3=>u = .int .i64 (p:Int) | 4=>∃ k b cap,g=some k∧u = .slice (some ⟨b,0,none⟩) k cap | 5=>∃ k,g=some k∧u = .int .i64 ((k:Nat):Int) | 6=>u=ptr b1 (0+1) | 7=>u = .int .i64 (n:Int) | 8=>∃ k,g=some k∧u = .bool (decide (((k:Nat):Int)=(n:Int))) | _=>True) ⟨fun a w2 bb g hF hS hb hd=>by have hM:=hS.2.1;exact ph_val hS rfl (g_loadAgg ty_ag_39 hF rfl (hM.row 0 rfl) (by simp only [sz0]<;>omega) (whole cells_size)),fun a w2 bb g hF hS hb hd=>by have hF:=hF.ext1 3 (hd 0 rfl rfl);exact (d_call Try.call62 hF (.cons rfl .nil) (formRows_ok p n T f _ (by omega) (by omega) (by omega) (by omega) hT hf)).mono fun u w3 ⟨hx,hr⟩=>⟨g,⟨hS.1,hS.2.1.ext hx,hS.2.2⟩,fun _=>hr.fresh hS.2.1,fun j u hj h=>by rcases j with _ | _ | _ | _ | _ | _ | _ | _ | _ | j<;>first | exact h | exact absurd rfl hj⟩,fun a w2 bb g hF hS hb hd=>by have hM:=hS.2.1;exact ph_val hS rfl (g_fieldAddr ty_fo_39_0 hF rfl),fun a w2 bb g hF hS hb hd=>by have hF:=hF.ext1 5 (hd 2 rfl rfl);have hM:=hS.2.1;exact ph_val hS rfl (g_load ty_on_2 hF rfl (hM.row 0 rfl) (algC_p (by omega))),fun a w2 g hF hS hd=>by
    obtain rfl:g=none:=by (cases g;rfl;exact absurd hS.1 (by simp))
    obtain ⟨D,β,br,cs,h1,hB,hu,hsz,hgc,hbm,hne⟩:=hd 1 rfl rfl rfl;have hF:=hF.ext1 4 hu;have hF:=hF.ext1 6 (hd 3 rfl rfl);exact (d_callX Try.call61 hF (.cons rfl (.cons rfl .nil)) (reduceRows_ok p 6 n br n cs β (formM p n T f) _ hp (by omega) (by omega) (by omega) (Nat.le_refl _) (formM_lt (by omega)) (h1 _ _ hbm).2.1 (by omega) hgc (fun i hi=>(h1 _ _ (hB.mem i hi)).2.1) hB.inj hne)).mono fun u w3 ⟨hx,k,E,γ',ld,cs',hu3,hkm,hE,hKer,_⟩=>⟨some k,⟨rfl,hS.2.1.extY hx (fun y hy=>by
      rcases List.mem_cons.1 hy with e | hy
      · rw [e];exact ⟨(h1 _ _ hbm).1,(h1 _ _ hbm).2.2,fun _ _ h=>by cases h⟩
      · obtain ⟨i,hi,rfl⟩:=List.mem_map.1 hy
        have hm:=hB.mem i (by simpa using hi);exact ⟨(h1 _ _ hm).1,(h1 _ _ hm).2.2,fun _ _ h=>by cases h⟩),fun k' e=>by cases e;exact ⟨E,ld,hE,hKer⟩⟩,⟨k,br,n,rfl,hu3⟩,fun j u hj h=>by
      rcases j with _ | _ | _ | _ | _ | _ | _ | _ | _ | j<;>first | exact h | exact absurd rfl hj | exact (fun e=>by cases e) | (obtain ⟨k',e,_⟩:=h;cases e)⟩,fun a w2 bb g hF hS hb hd=>by obtain ⟨k,b,cap,rfl,hu⟩:=hd 4 rfl rfl;have hF:=hF.ext1 7 hu;exact ph_val hS ⟨k,rfl,rfl⟩ (g_len ty_us_97 hF rfl),fun a w2 bb g hF hS hb hd=>by have hM:=hS.2.1;exact ph_val hS rfl (g_fieldAddr ty_fo_39_1 hF rfl),fun a w2 bb g hF hS hb hd=>by have hF:=hF.ext1 9 (hd 6 rfl rfl);have hM:=hS.2.1;exact ph_val hS rfl (g_load ty_on_2 hF rfl (hM.row 0 rfl) (algC_n (by omega))),fun a w2 bb g hF hS hb hd=>by obtain ⟨k,rfl,hu⟩:=hd 5 rfl rfl;have hF:=hF.ext1 8 hu;have hF:=hF.ext1 10 (hd 7 rfl rfl);exact ph_val hS ⟨k,rfl,rfl⟩ (g_eql hF rfl rfl),trivial⟩ ?_
  intro a w' g hF hS hq;obtain ⟨k,rfl,hu8⟩:=hq 8 rfl rfl;obtain ⟨-,hM,hE0⟩:=hS;obtain ⟨E,ld,hE,hKer⟩:=hE0 k rfl;have hF:=hF.ext1 11 hu8;change Mem w w' [some (b1,algC (p:Int) (n:Int) T f)] [] at hM;change wpList Try.prog _ _ [_] _ _;refine ag hF rfl rfl fun a hF=>nt<|wp_ret<|fin1 rfl hF.defers (res_tmp hF rfl) ⟨_,rfl,hM.below,?_⟩
  show _=_
  exact congrArg Value.bool (decide_eq_decide.2 (frob_iff hp2 hE hKer))
end Go.Proofs.Ytklpefdaplchbaa
namespace Go.Proofs.Ytklpefdaplchbaa
open Go Go.RowKit Go.Sw Go.Ech
open Classical
end Go.Proofs.Ytklpefdaplchbaa
