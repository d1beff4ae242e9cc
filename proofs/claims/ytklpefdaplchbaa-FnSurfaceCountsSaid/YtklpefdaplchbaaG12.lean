import Derived.Test.YtklpefdaplchbaaSw14
import Derived.Test.YtklpefdaplchbaaChecked
set_option linter.unusedVariables false
set_option linter.unusedSimpArgs false
namespace Go.Proofs.Ytklpefdaplchbaa
open Go Go.RowKit Go.Sw
theorem hmix:Try.prog.follows .mixedOrders=true:=by kernel_rfl
def sumTo (f:Nat→Nat):Nat→Nat
  | 0=>0
  | m+1=>sumTo f m+f m
def prodI (T:Nat→Nat→Nat→Nat) (v u:Nat→Nat) (n i c:Nat):Nat:=sumTo (fun i=>sumTo (fun j=>v i*u j*T i j c) n) i
def timesV (p n:Nat) (T:Nat→Nat→Nat→Nat) (v u:Nat→Nat) (c:Nat):Nat:=prodI T v u n n c%p
theorem sumTo_le {f:Nat→Nat}{c m:Nat}(h:∀ i,i<m→f i≤c):sumTo f m≤m*c:=by
  induction m with
  | zero=>simp [sumTo]
  | succ m ih=>have h1:=ih (fun i hi=>h i (by omega));have h2:=h m (by omega);simp only [sumTo,Nat.succ_mul];omega
theorem vv_bd {x y:Nat}(hx:x≤255)(hy:y≤255):x*y≤65025:=Nat.le_trans (Nat.mul_le_mul hx hy) (by decide)
theorem term_bd {x y z:Nat}(hx:x≤255)(hy:y≤255)(hz:z≤255):x*y*z≤16581375:=Nat.le_trans (Nat.mul_le_mul (vv_bd hx hy) hz) (by decide)
theorem prod_bd {T:Nat→Nat→Nat→Nat}{v u:Nat→Nat}{n i j:Nat}(hv:∀ i,v i≤255)(hu:∀ i,u i≤255)(hT:∀ i j k,T i j k≤255)(hn:n≤6)(hi:i≤n)(hj:j≤n)(c:Nat) :
    prodI T v u n i c+sumTo (fun j=>v i*u j*T i j c) j≤700000000:=by
  have h1:prodI T v u n i c≤6*(6*16581375):=Nat.le_trans (sumTo_le (c:=6*16581375) fun a _=>Nat.le_trans (sumTo_le (c:=16581375) fun b _=>term_bd (hv a) (hu b) (hT a b c)) (Nat.mul_le_mul_right _ hn)) (Nat.mul_le_mul_right _ (by omega));have h2:=sumTo_le (m:=j) (c:=16581375) fun b (_:b<j)=>term_bd (hv i) (hu b) (hT i b c);have h3:j*16581375≤6*16581375:=Nat.mul_le_mul_right _ (by omega)
  omega
theorem whole {c:Array Value}{n:Nat}(h:c.size=n):c.extract 0 (0+n)=c:=by subst h;simp
theorem fnC_getE {n:Nat}{f:Nat→Value}{o:Nat}{v:Value}(i:Nat)(h:o=i)(hi:i<n)(hv:f i=v):(fnC n f)[o]? = some v:=by subst h;subst hv;exact fnC_get hi
theorem tmod_bd (x:Int)(p:Nat)(hp:0<p):-(p:Int)<x.tmod p∧x.tmod p<p:=by
  have h1:=Int.tmod_lt_of_pos x (b:=(p:Int)) (by omega);have h2:=Int.lt_tmod_of_pos x (b:=(p:Int)) (by omega);exact ⟨h2,h1⟩
theorem emod_bd (x:Int)(p:Nat)(hp:0<p):0≤x%(p:Int)∧x%(p:Int)<p:=⟨Int.emod_nonneg x (by omega),Int.emod_lt_of_pos x (by omega)⟩
theorem tmod_add (x:Int)(p:Nat)(hp:0<p):(x.tmod (p:Int)+(p:Int)).tmod (p:Int)=x%(p:Int):=by
  have h:=tmod_bd x p hp;rw [Int.tmod_eq_emod_of_nonneg (by omega),Int.add_emod_right];rw [Int.tmod_eq_emod]
  split
  · simp
  · have:(((p:Int).natAbs:Int))=p:=by simp
    rw [this,Int.sub_emod_right,Int.emod_emod]
def mtx (k:Nat):ByteArray:=⟨#[109,UInt8.ofNat (48+k)]⟩
def nmS (i:Nat):ByteArray:=match i with
  | 0=>⟨#[102,105,101,108,100]⟩
  | 1=>⟨#[100,117,97,108]⟩
  | 2=>⟨#[112,97,105,114]⟩
  | 3=>⟨#[99,121,99,108,105,99,51]⟩
  | 4=>⟨#[115,121,109,109,101,116,114,105,99]⟩
  | _=>⟨#[109,97,116,114,105,120]⟩
theorem ty_ud_2:Try.prog.underlying 2=some (.int .i64):=by kernel_rfl
theorem ty_un_5:Try.prog.underlying 5=some (.int .u8):=by kernel_rfl
theorem ty_ze_37:zeroP Try.prog 37=some (.agg (fnC 6 (fun _=>.int .u8 (0)))):=by kernel_rfl
theorem ty_ar_37:arrOf Try.prog 37=some (6,1):=by kernel_rfl
theorem ty_on_5:oneP Try.prog 5=true:=by kernel_rfl
theorem ty_ag_37:aggP Try.prog 37=some 6:=by kernel_rfl
theorem ty_sz_37:sizeP Try.prog 37=some 6:=by kernel_rfl
theorem ty_ze_49:zeroP Try.prog 49=some (.agg (fnC 6 (fun _=>.int .i64 (0)))):=by kernel_rfl
theorem ty_fo_39_1:fieldOff Try.prog 39 1=some 1:=by kernel_rfl
theorem ty_on_2:oneP Try.prog 2=true:=by kernel_rfl
theorem ty_ud_5:Try.prog.underlying 5=some (.int .u8):=by kernel_rfl
theorem ty_un_2:Try.prog.underlying 2=some (.int .i64):=by kernel_rfl
theorem ty_fo_39_2:fieldOff Try.prog 39 2=some 2:=by kernel_rfl
theorem ty_ar_36:arrOf Try.prog 36=some (6,36):=by kernel_rfl
theorem ty_ar_25:arrOf Try.prog 25=some (6,6):=by kernel_rfl
theorem ty_ag_24:aggP Try.prog 24=some 6:=by kernel_rfl
theorem ty_ua_24:Try.prog.underlying 24=some (.array 6 5):=by kernel_rfl
theorem ty_ar_49:arrOf Try.prog 49=some (6,1):=by kernel_rfl
theorem ty_ag_49:aggP Try.prog 49=some 6:=by kernel_rfl
theorem ty_ua_49:Try.prog.underlying 49=some (.array 6 2):=by kernel_rfl
theorem ty_fo_39_0:fieldOff Try.prog 39 0=some 0:=by kernel_rfl
theorem ty_ua_37:Try.prog.underlying 37=some (.array 6 5):=by kernel_rfl
theorem ty_fo_39_3:fieldOff Try.prog 39 3=some 218:=by kernel_rfl
theorem ty_ag_36:aggP Try.prog 36=some 216:=by kernel_rfl
theorem ty_ag_25:aggP Try.prog 25=some 36:=by kernel_rfl
theorem ty_ua_36:Try.prog.underlying 36=some (.array 6 25):=by kernel_rfl
theorem ty_ze_25:zeroP Try.prog 25=some (.agg (fnC 36 (fun _=>.int .u8 (0)))):=by kernel_rfl
theorem ty_sz_25:sizeP Try.prog 25=some 36:=by kernel_rfl
theorem ty_ua_25:Try.prog.underlying 25=some (.array 6 24):=by kernel_rfl
theorem ty_ze_24:zeroP Try.prog 24=some (.agg (fnC 6 (fun _=>.int .u8 (0)))):=by kernel_rfl
theorem ty_sz_24:sizeP Try.prog 24=some 6:=by kernel_rfl
theorem ty_bu_37:∀ w,(Instr.build 37 #[]).run Try.prog w = .ok (.agg (fnC 6 (fun _=>.int .u8 (0)))) w:=by intros;kernel_rfl
theorem ty_ae_24:arrE Try.prog 24=some (6,5,1):=by kernel_rfl
theorem ty_ip_5:intP Try.prog 5=true:=by kernel_rfl
theorem ty_eg_24:Try.prog.eqGuardType Try.prog.depth 24=false:=by kernel_rfl
theorem ty_ag_39:aggP Try.prog 39=some 224:=by kernel_rfl
theorem ty_ae_37:arrE Try.prog 37=some (6,5,1):=by kernel_rfl
theorem ty_eg_37:Try.prog.eqGuardType Try.prog.depth 37=false:=by kernel_rfl
theorem ty_us_22:Try.prog.underlying 22=some (.slice 5):=by kernel_rfl
theorem ty_sl_22:sliceOf Try.prog 22=some 1:=by kernel_rfl
theorem residue_ok (x:Int)(p:Nat)(w:World)(hp:0<p)(hp2:p<100)(hx:-1000000000<x)(hx2:x<1000000000) :
    CallsR Try.prog 46 #[.int .i64 (x),.int .i64 (p:Int)] w (fun res _=>res = .int .u8 (x%(p:Int))):=by
  refine calls_fr [.int .i64 (x),.int .i64 (p:Int)] Try.func46 rfl Try.ntmps46 rfl fun a hF=>?_;have hM:Mem w w [] []:=MemX.start w 0;change Fr 13 a [(0,.int .i64 (x)),(1,.int .i64 (p:Int))] at hF;have h1:=tmod_bd x p hp;have h2:=emod_bd x p hp;refine sr<|ag hF rfl rfl fun a hF=>ns<|mv hF rfl rfl fun a hF=>mv hF rfl rfl fun a hF=>st hF (g_rem hF rfl rfl (by omega) rfl) rfl fun a hF=>mv hF rfl rfl fun a hF=>st hF (g_add hF rfl rfl (wrap_i64 (by omega) (by omega))) rfl fun a hF=>mv hF rfl rfl fun a hF=>st hF (g_rem hF rfl rfl (by omega) (tmod_add x p hp)) rfl fun a hF=>st hF (g_conv ty_un_5 ty_ud_2 hF rfl (wrap_u8 (by omega) (by omega))) rfl fun a hF=>ag hF rfl rfl fun a hF=>nt<|wp_ret<|fin1 rfl hF.defers (res_tmp hF rfl) ⟨_,rfl,hM.below,?_⟩
  show _=_
  rfl
theorem basisVector_ok (i:Nat)(w:World)(hi:i<6) :
    CallsR Try.prog 56 #[.int .i64 (i:Int)] w (fun res _=>res = .agg (vecC (fun c=>if c=i then 1 else 0))):=by
  refine calls_fr [.int .i64 (i:Int)] Try.func56 rfl Try.ntmps56 rfl fun a hF=>?_;have hM:Mem w w [none,none] []:=MemX.start w 2;change Fr 7 a [(0,.int .i64 (i:Int))] at hF;refine sr<|stR hF (d_alloc 0 hM ty_ze_37) rfl ?_;rintro _ w' a ⟨b1,rfl,hM,-⟩ hF;refine ns<|stR hF (d_alloc 1 hM ty_ze_37) rfl ?_;rintro _ w' a ⟨b2,rfl,hM,-⟩ hF;change Mem w w' [some (b1,fnC 6 (fun _=>.int .u8 (0))),some (b2,fnC 6 (fun _=>.int .u8 (0)))] [] at hM;refine ns<|mv hF rfl rfl fun a hF=>st hF (g_indexAddr ty_ar_37 hF rfl rfl rfl (by omega)) rfl fun a hF=>stN hF (d_store 1 hM rfl ty_on_5 hF rfl rfl rfl (by first | omega | (simp only [sz0]<;>omega) | (simp only [Array.size_setIfInBounds];omega) | simp)) ?_;intro _ w' a hM hF;rw [show (fnC 6 (fun x=>.int .u8 (0))).setIfInBounds (0+(i)*1) (.int .u8 (1))=fnC 6 (fun x=>.int .u8 (((if x=i then 1 else 0):Nat):Int)) from fnC_set (fun x _=>by rw [show 0+(i)*1=i by omega];by_cases hh:x=i<;>simp [hh])] at hM;change Mem w w' [some (b1,fnC 6 (fun _=>.int .u8 (0))),some (b2,fnC 6 (fun x=>.int .u8 (((if x=i then 1 else 0):Nat):Int)))] [] at hM;refine ns<|st hF (g_loadAgg ty_ag_37 hF rfl (hM.row 1 rfl) (by simp only [sz0]<;>omega) (whole (by simp only [sz0]))) rfl fun a hF=>stN hF (d_storeAgg 0 hM rfl ty_sz_37 hF rfl rfl (by first | exact vecC_one | exact cells_one | (refine fnC_one fun _ _=>?_;first | rfl | (split<;>rfl))) (by simp only [sz0]) (by simp only [sz0]<;>omega) (splice_whole _ _ (by simp only [sz0]))) ?_;intro _ w' a hM hF;change Mem w w' [some (b1,fnC 6 (fun x=>.int .u8 (((if x=i then 1 else 0):Nat):Int))),some (b2,fnC 6 (fun x=>.int .u8 (((if x=i then 1 else 0):Nat):Int)))] [] at hM;refine nt<|wp_ret<|fin1 rfl hF.defers (res_agg ty_ag_37 hF rfl (hM.row 0 rfl) (by simp only [sz0])) ⟨_,rfl,hM.below,?_⟩
  show _=_
  rfl
theorem residue_nat (x p:Nat)(w:World)(hp:0<p)(hp2:p<100)(hx:x<1000000000):CallsR Try.prog 46 #[.int .i64 (x:Int),.int .i64 (p:Int)] w (fun u _=>u = .int .u8 ((x%p:Nat):Int)):=residue_ok x p w hp hp2 (by omega) (by omega)
theorem product_ok (p n:Nat)(T:Nat→Nat→Nat→Nat)(f v u:Nat→Nat)(w:World)(hp:0<p)(hp2:p<100)(hn:n≤6)(hT:∀ i j k,T i j k≤255)(hv:∀ i,v i≤255)(hu:∀ i,u i≤255) :
    CallsR Try.prog 26 #[.agg (algC (p:Int) (n:Int) T f),.agg (vecC v),.agg (vecC u)] w (fun res _=>res = .agg (vecC (timesV p n T v u))):=by
  refine calls_fr [.agg (algC (p:Int) (n:Int) T f),.agg (vecC v),.agg (vecC u)] Try.func26 rfl Try.ntmps26 rfl fun a hF=>?_;have hM:Mem w w [none,none,none,none,none,none] []:=MemX.start w 6;change Fr 72 a [(0,.agg (algC (p:Int) (n:Int) T f)),(1,.agg (vecC v)),(2,.agg (vecC u))] at hF;refine sr<|stR hF (d_box 0 hM hF rfl) rfl ?_;rintro _ w' a ⟨b1,rfl,hM,-⟩ hF;refine stR hF (d_box 1 hM hF rfl) rfl ?_;rintro _ w' a ⟨b2,rfl,hM,-⟩ hF;refine stR hF (d_box 2 hM hF rfl) rfl ?_;rintro _ w' a ⟨b3,rfl,hM,-⟩ hF;refine stR hF (d_alloc 3 hM ty_ze_37) rfl ?_;rintro _ w' a ⟨b4,rfl,hM,-⟩ hF;refine ns<|stR hF (d_alloc 4 hM ty_ze_49) rfl ?_;rintro _ w' a ⟨b5,rfl,hM,-⟩ hF;change Mem w w' [some (b1,algC (p:Int) (n:Int) T f),some (b2,vecC v),some (b3,vecC u),some (b4,fnC 6 (fun _=>.int .u8 (0))),some (b5,fnC 6 (fun _=>.int .i64 (0))),none] [] at hM;refine nt<|sq<|sr<|st hF (g_fieldAddr ty_fo_39_1 hF rfl) rfl fun a hF=>st hF (g_load ty_on_2 hF rfl (hM.row 0 rfl) (algC_n (by omega))) rfl fun a hF=>mv hF rfl rfl fun a hF=>nt<|wp_block ?_;change Mem w _ [some (b1,algC (p:Int) (n:Int) T f),some (b2,vecC v),some (b3,vecC u),some (b4,fnC 6 (fun _=>.int .u8 (0))),some (b5,fnC 6 (fun _=>.int .i64 (0))),none] [] at hM;refine c_loop (fun (kk:Nat) a w'=>kk≤n∧(True)∧Fr 72 a [(3,ptr b1 (0)),(4,ptr b2 (0)),(5,ptr b3 (0)),(6,ptr b4 (0)),(7,ptr b5 (0)),(17,.int .i64 (n:Int)),(18,.int .i64 (kk:Int))]∧Mem w w' [some (b1,algC (p:Int) (n:Int) T f),some (b2,vecC v),some (b3,vecC u),some (b4,fnC 6 (fun _=>.int .u8 (0))),some (b5,fnC 6 (fun c=>.int .i64 (prodI T v u n kk c:Int))),none] []) (fun kk=>n - kk) 0 ?_ ?_
  · refine ⟨by omega,trivial,hF.sub _ (by repeat' constructor),?_⟩
    exact hM
  clear hF hM;rintro i a w' ⟨hi,hinv1,hF,hM⟩;refine sr<|st hF (g_lss hF rfl rfl) rfl fun a hF=>nt<|sq<|c_cond hF rfl (fun h6=>?_) (fun h6=>?_)
  · refine wp_skip ?_
    refine tN<|sq<|wp_block<|sr<|mv hF rfl rfl fun a hF=>ag hF rfl rfl fun a hF=>ns<|st hF (g_fieldAddr ty_fo_39_1 hF rfl) rfl fun a hF=>st hF (g_load ty_on_2 hF rfl (hM.row 0 rfl) (algC_n (by omega))) rfl fun a hF=>mv hF rfl rfl fun a hF=>nt<|wp_block ?_;change Mem w _ [some (b1,algC (p:Int) (n:Int) T f),some (b2,vecC v),some (b3,vecC u),some (b4,fnC 6 (fun _=>.int .u8 (0))),some (b5,fnC 6 (fun c=>.int .i64 (prodI T v u n i c:Int))),none] [] at hM;refine c_loop (fun (kk:Nat) a w'=>kk≤n∧(True)∧Fr 72 a [(3,ptr b1 (0)),(4,ptr b2 (0)),(5,ptr b3 (0)),(6,ptr b4 (0)),(7,ptr b5 (0)),(17,.int .i64 (n:Int)),(18,.int .i64 (i:Int)),(19,.bool (decide (((i:Int):Int)<(n:Int)))),(20,.int .i64 (i:Int)),(8,.int .i64 (i:Int)),(21,ptr b1 (0+1)),(22,.int .i64 (n:Int)),(23,.int .i64 (kk:Int))]∧Mem w w' [some (b1,algC (p:Int) (n:Int) T f),some (b2,vecC v),some (b3,vecC u),some (b4,fnC 6 (fun _=>.int .u8 (0))),some (b5,fnC 6 (fun c=>.int .i64 ((prodI T v u n i c+sumTo (fun kk=>v i*u kk*T i kk c) kk:Nat):Int))),none] []) (fun kk=>n - kk) 0 ?_ ?_
    · refine ⟨by omega,trivial,hF.sub _ (by repeat' constructor),?_⟩
      exact hM
    clear hF hM;rintro j a w' ⟨hj,hinv2,hF,hM⟩;have hvi:=hv i;have huj:=hu j;refine sr<|st hF (g_lss hF rfl rfl) rfl fun a hF=>nt<|sq<|c_cond hF rfl (fun h7=>?_) (fun h7=>?_)
    · refine wp_skip ?_
      refine tN<|sq<|wp_block<|sr<|mv hF rfl rfl fun a hF=>ag hF rfl rfl fun a hF=>nt<|sq<|c_par 8 [] [.val (.int .i64 (i:Int)),.val (ptr b2 (0+(i)*1)),.val (.int .u8 ((v (i):Int))),.val (.int .i64 ((v (i):Int))),.val (.int .i64 (j:Int)),.val (ptr b3 (0+(j)*1)),.val (.int .u8 ((u (j):Int))),.val (.int .i64 ((u (j):Int)))] hmix rfl hF rfl hM ⟨fun a w gG hF hS hd=>by exact pmv hS rfl hF rfl,fun a w gG hF hS hd=>by have hF:=hF.ext1 26 (hd 0 rfl rfl);exact par_val hS rfl (g_indexAddr ty_ar_37 hF rfl rfl rfl (by omega)),fun a w gG hF hS hd=>by have hF:=hF.ext1 27 (hd 1 rfl rfl);have hM:=hS.mem rfl;exact par_val hS rfl (g_load ty_on_5 hF rfl (hM.row 1 rfl) (vecC_get (i) (by omega) (by omega))),fun a w gG hF hS hd=>by have hF:=hF.ext1 28 (hd 2 rfl rfl);exact par_val hS rfl (g_conv ty_un_2 ty_ud_5 hF rfl (wrap_i64 (by omega) (by omega))),fun a w gG hF hS hd=>by exact pmv hS rfl hF rfl,fun a w gG hF hS hd=>by have hF:=hF.ext1 30 (hd 4 rfl rfl);exact par_val hS rfl (g_indexAddr ty_ar_37 hF rfl rfl rfl (by omega)),fun a w gG hF hS hd=>by have hF:=hF.ext1 31 (hd 5 rfl rfl);have hM:=hS.mem rfl;exact par_val hS rfl (g_load ty_on_5 hF rfl (hM.row 2 rfl) (vecC_get (j) (by omega) (by omega))),fun a w gG hF hS hd=>by have hF:=hF.ext1 32 (hd 6 rfl rfl);exact par_val hS rfl (g_conv ty_un_2 ty_ud_5 hF rfl (wrap_i64 (by omega) (by omega))),trivial⟩ ?_;intro a w' L hF hS hq;have hF:=hF.ext1 26 (hq 0 rfl rfl);have hF:=hF.ext1 27 (hq 1 rfl rfl);have hF:=hF.ext1 28 (hq 2 rfl rfl);have hF:=hF.ext1 29 (hq 3 rfl rfl);have hF:=hF.ext1 30 (hq 4 rfl rfl);have hF:=hF.ext1 31 (hq 5 rfl rfl);have hF:=hF.ext1 32 (hq 6 rfl rfl);have hF:=hF.ext1 33 (hq 7 rfl rfl);have hM:=hS.mem rfl;change wpList Try.prog _ _ [_,_] _ _;refine st hF (g_mul hF rfl rfl (mul_nat (v i) (u j) (by have:=vv_bd (hv i) (hu j);omega))) rfl fun a hF=>ag hF rfl rfl fun a hF=>nt<|sq<|sr<|mv hF rfl rfl fun a hF=>st hF (g_eql hF rfl rfl) rfl fun a hF=>nt<|c_cond hF rfl (fun h8=>?_) (fun h8=>?_)
      · refine wp_exit ?_
        refine tX<|ib_same<|tN<|wp_region_lit<|st hF (g_add hF rfl rfl (add_nat (j) (1) (by omega))) rfl fun a hF=>mv hF rfl rfl fun a hF=>nt<|⟨j+1,⟨by omega,trivial,hF.sub _ (by repeat' constructor),?_⟩,by omega⟩;refine hM.rowc 4 rfl (fnC_congr fun c hc=>?_);have e0:v i*u j=0:=by omega
        simp [sumTo,e0]
      refine wp_skip<|tN<|sr<|mv hF rfl rfl fun a hF=>mv hF rfl rfl fun a hF=>st hF (g_fieldAddr ty_fo_39_2 hF rfl) rfl fun a hF=>st hF (g_indexAddr ty_ar_36 hF rfl rfl rfl (by omega)) rfl fun a hF=>st hF (g_indexAddr ty_ar_25 hF rfl rfl rfl (by omega)) rfl fun a hF=>st hF (g_loadAgg ty_ag_24 hF rfl (hM.row 0 rfl) (by simp only [sz0]<;>omega) (algC_row (i) (j) (by omega) (by omega) (by omega) (by omega))) rfl fun a hF=>mv hF rfl rfl fun a hF=>nt<|wp_block ?_;change Mem w _ [some (b1,algC (p:Int) (n:Int) T f),some (b2,vecC v),some (b3,vecC u),some (b4,fnC 6 (fun _=>.int .u8 (0))),some (b5,fnC 6 (fun c=>.int .i64 ((prodI T v u n i c+sumTo (fun j=>v i*u j*T i j c) j:Nat):Int))),none] [] at hM;refine c_loop (fun (kk:Nat) a w'=>kk≤6∧(True)∧Fr 72 a [(33,.int .i64 ((u (j):Int))),(32,.int .u8 ((u (j):Int))),(31,ptr b3 (0+(j)*1)),(30,.int .i64 (j:Int)),(29,.int .i64 ((v (i):Int))),(28,.int .u8 ((v (i):Int))),(27,ptr b2 (0+(i)*1)),(26,.int .i64 (i:Int)),(3,ptr b1 (0)),(4,ptr b2 (0)),(5,ptr b3 (0)),(6,ptr b4 (0)),(7,ptr b5 (0)),(17,.int .i64 (n:Int)),(18,.int .i64 (i:Int)),(19,.bool (decide (((i:Int):Int)<(n:Int)))),(20,.int .i64 (i:Int)),(8,.int .i64 (i:Int)),(21,ptr b1 (0+1)),(22,.int .i64 (n:Int)),(23,.int .i64 (j:Int)),(24,.bool (decide (((j:Int):Int)<(n:Int)))),(25,.int .i64 (j:Int)),(9,.int .i64 (j:Int)),(34,.int .i64 ((((v (i))*(u (j)):Nat):Int))),(10,.int .i64 ((((v (i))*(u (j)):Nat):Int))),(35,.int .i64 ((((v (i))*(u (j)):Nat):Int))),(36,.bool (decide (((((v (i))*(u (j)):Nat):Int):Int)=0))),(37,.int .i64 (i:Int)),(38,.int .i64 (j:Int)),(39,ptr b1 (0+2)),(40,ptr b1 (0+2+(i)*36)),(41,ptr b1 (0+2+(i)*36+(j)*6)),(42,.agg (vecC (T (i) (j)))),(43,.int .i64 (kk:Int))]∧Mem w w' [some (b1,algC (p:Int) (n:Int) T f),some (b2,vecC v),some (b3,vecC u),some (b4,fnC 6 (fun _=>.int .u8 (0))),some (b5,fnC 6 (fun c=>.int .i64 (((prodI T v u n i c+sumTo (fun j=>v i*u j*T i j c) j)+(if c<kk then v i*u j*T i j c else 0):Nat):Int))),none] []) (fun kk=>6 - kk) 0 ?_ ?_
      · refine ⟨by omega,trivial,hF.sub _ (by repeat' constructor),?_⟩
        exact hM.cast (by simp)
      clear hF hM;rintro k a w' ⟨hk,hinv3,hF,hM⟩;have hb1:=prod_bd (T:=T) hv hu hT hn hi hj k;have hb2:=term_bd (hv i) (hu j) (hT i j k);have htk:=hT i j k;refine sr<|st hF (g_lss hF rfl rfl) rfl fun a hF=>nt<|sq<|c_cond hF rfl (fun h9=>?_) (fun h9=>?_)
      · refine wp_skip ?_
        refine tN<|sq<|wp_block<|sr<|mv hF rfl rfl fun a hF=>st hF (g_index ty_ua_24 ty_on_5 hF rfl rfl rfl (by omega) (vecC_get (k) (by omega) (by omega))) rfl fun a hF=>ag hF rfl rfl fun a hF=>ag hF rfl rfl fun a hF=>nt<|wp_region_lit<|mv hF rfl rfl fun a hF=>st hF (g_indexAddr ty_ar_49 hF rfl rfl rfl (by omega)) rfl fun a hF=>st hF (g_load ty_on_2 hF rfl (hM.row 4 rfl) (fnC_getE (k) (by omega) (by omega) (by simp))) rfl fun a hF=>mv hF rfl rfl fun a hF=>mv hF rfl rfl fun a hF=>st hF (g_conv ty_un_2 ty_ud_5 hF rfl (wrap_i64 (by omega) (by omega))) rfl fun a hF=>st hF (g_mul hF rfl rfl (mul_nat (v i*u j) (T i j k) (by omega))) rfl fun a hF=>st hF (g_add hF rfl rfl (add_nat (prodI T v u n i k+sumTo (fun j=>v i*u j*T i j k) j) (((v (i))*(u (j)))*((T (i) (j)) (k))) (by omega))) rfl fun a hF=>st hF (g_indexAddr ty_ar_49 hF rfl rfl rfl (by omega)) rfl fun a hF=>stN hF (d_store 4 hM rfl ty_on_2 hF rfl rfl rfl (by first | omega | (simp only [sz0]<;>omega) | (simp only [Array.size_setIfInBounds];omega) | simp)) ?_;intro _ w' a hM hF;rw [show (fnC 6 (fun c=>.int .i64 (((prodI T v u n i c+sumTo (fun j=>v i*u j*T i j c) j)+(if c<k then v i*u j*T i j c else 0):Nat):Int))).setIfInBounds (0+(k)*1) (.int .i64 (((prodI T v u n i k+sumTo (fun j=>v i*u j*T i j k) j+((v (i))*(u (j)))*((T (i) (j)) (k)):Nat):Int)))=fnC 6 (fun c=>.int .i64 (((if c=k then prodI T v u n i k+sumTo (fun j=>v i*u j*T i j k) j+((v (i))*(u (j)))*((T (i) (j)) (k)) else (prodI T v u n i c+sumTo (fun j=>v i*u j*T i j c) j)+(if c<k then v i*u j*T i j c else 0)):Nat):Int)) from fnC_set (fun c _=>by rw [show 0+(k)*1=k by omega];by_cases hh:c=k<;>simp [hh])] at hM;change Mem w w' [some (b1,algC (p:Int) (n:Int) T f),some (b2,vecC v),some (b3,vecC u),some (b4,fnC 6 (fun _=>.int .u8 (0))),some (b5,fnC 6 (fun c=>.int .i64 (((if c=k then prodI T v u n i k+sumTo (fun j=>v i*u j*T i j k) j+((v (i))*(u (j)))*((T (i) (j)) (k)) else (prodI T v u n i c+sumTo (fun j=>v i*u j*T i j c) j)+(if c<k then v i*u j*T i j c else 0)):Nat):Int))),none] [] at hM;refine wpList_nil<|iN<|tN<|wp_region_lit<|st hF (g_add hF rfl rfl (add_nat (k) (1) (by omega))) rfl fun a hF=>mv hF rfl rfl fun a hF=>nt<|⟨k+1,⟨by omega,trivial,hF.sub _ (by repeat' constructor),?_⟩,by omega⟩;refine hM.rowc 4 rfl (fnC_congr fun c hc=>?_);have e0:(c<k+1)=(c<k∨c=k):=by apply propext;omega
        by_cases e1:c=k
        · subst e1;simp
        · simp [e0,e1]
      obtain rfl:6=k:=by omega
      refine wp_exit<|tX<|tX<|ib_same<|iN<|tN<|wp_region_lit<|st hF (g_add hF rfl rfl (add_nat (j) (1) (by omega))) rfl fun a hF=>mv hF rfl rfl fun a hF=>nt<|⟨j+1,⟨by omega,trivial,hF.sub _ (by repeat' constructor),?_⟩,by omega⟩;refine hM.rowc 4 rfl (fnC_congr fun c hc=>?_)
      simp [sumTo,hc,Nat.add_assoc]
    obtain rfl:n=j:=by omega
    refine wp_exit<|tX<|tX<|ib_same<|iN<|tN<|wp_region_lit<|st hF (g_add hF rfl rfl (add_nat (i) (1) (by omega))) rfl fun a hF=>mv hF rfl rfl fun a hF=>nt<|⟨i+1,⟨by omega,trivial,hF.sub _ (by repeat' constructor),?_⟩,by omega⟩;exact hM
  obtain rfl:n=i:=by omega
  refine wp_exit<|tX<|tX<|ib_same<|tN<|sr<|stR hF (d_alloc 5 hM ty_ze_37) rfl ?_;rintro _ w' a ⟨b10,rfl,hM,-⟩ hF;change Mem w w' [some (b1,algC (p:Int) (n:Int) T f),some (b2,vecC v),some (b3,vecC u),some (b4,fnC 6 (fun _=>.int .u8 (0))),some (b5,fnC 6 (fun c=>.int .i64 (prodI T v u n n c:Int))),some (b10,fnC 6 (fun _=>.int .u8 (0)))] [] at hM;refine nt<|sq<|sr<|st hF (g_loadAgg ty_ag_49 hF rfl (hM.row 4 rfl) (by simp only [sz0]<;>omega) (whole (by simp only [sz0]))) rfl fun a hF=>mv hF rfl rfl fun a hF=>nt<|wp_block ?_;change Mem w _ [some (b1,algC (p:Int) (n:Int) T f),some (b2,vecC v),some (b3,vecC u),some (b4,fnC 6 (fun _=>.int .u8 (0))),some (b5,fnC 6 (fun c=>.int .i64 (prodI T v u n n c:Int))),some (b10,fnC 6 (fun _=>.int .u8 (0)))] [] at hM;refine c_loop (fun (kk:Nat) a w'=>kk≤6∧(True)∧Fr 72 a [(3,ptr b1 (0)),(4,ptr b2 (0)),(5,ptr b3 (0)),(6,ptr b4 (0)),(7,ptr b5 (0)),(17,.int .i64 (n:Int)),(18,.int .i64 (n:Int)),(19,.bool (decide (((n:Int):Int)<(n:Int)))),(13,ptr b10 (0)),(59,.agg (fnC 6 (fun c=>.int .i64 (prodI T v u n n c:Int)))),(60,.int .i64 (kk:Int))]∧Mem w w' [some (b1,algC (p:Int) (n:Int) T f),some (b2,vecC v),some (b3,vecC u),some (b4,fnC 6 (fun _=>.int .u8 (0))),some (b5,fnC 6 (fun c=>.int .i64 (prodI T v u n n c:Int))),some (b10,fnC 6 (fun d=>.int .u8 ((if d<kk then timesV p n T v u d else 0:Nat):Int)))] []) (fun kk=>6 - kk) 0 ?_ ?_
  · refine ⟨by omega,trivial,hF.sub _ (by repeat' constructor),?_⟩
    exact hM.cast (by simp)
  clear hF hM;rintro q a w' ⟨hq,hinv4,hF,hM⟩;have hb1:prodI T v u n n q≤700000000:=by have:=prod_bd (T:=T) hv hu hT hn (Nat.le_refl n) (Nat.zero_le n) q;omega
  refine sr<|st hF (g_lss hF rfl rfl) rfl fun a hF=>nt<|sq<|c_cond hF rfl (fun h11=>?_) (fun h11=>?_)
  · refine wp_skip ?_
    refine tN<|sq<|wp_block<|sr<|mv hF rfl rfl fun a hF=>st hF (g_index ty_ua_49 ty_on_2 hF rfl rfl rfl (by omega) (fnC_getE (q) (by omega) (by omega) rfl)) rfl fun a hF=>ag hF rfl rfl fun a hF=>ag hF rfl rfl fun a hF=>nt<|wp_region_lit<|mv hF rfl rfl fun a hF=>mv hF rfl rfl fun a hF=>st hF (g_fieldAddr ty_fo_39_0 hF rfl) rfl fun a hF=>st hF (g_load ty_on_2 hF rfl (hM.row 0 rfl) (algC_p (by omega))) rfl fun a hF=>stR hF (d_call Try.call46 hF (.cons rfl (.cons rfl .nil)) (residue_nat (prodI T v u n n (q)) (p) _ (by omega) (by omega) (by omega))) rfl ?_;rintro _ w' a ⟨hx,rfl⟩ hF;have hM:=hM.ext hx;refine st hF (g_indexAddr ty_ar_37 hF rfl rfl rfl (by omega)) rfl fun a hF=>stN hF (d_store 5 hM rfl ty_on_5 hF rfl rfl rfl (by first | omega | (simp only [sz0]<;>omega) | (simp only [Array.size_setIfInBounds];omega) | simp)) ?_;intro _ w' a hM hF;rw [show (fnC 6 (fun d=>.int .u8 ((if d<q then timesV p n T v u d else 0:Nat):Int))).setIfInBounds (0+(q)*1) (.int .u8 ((((prodI T v u n n (q))%(p):Nat):Int)))=fnC 6 (fun d=>.int .u8 (((if d=q then (prodI T v u n n (q))%(p) else if d<q then timesV p n T v u d else 0):Nat):Int)) from fnC_set (fun d _=>by rw [show 0+(q)*1=q by omega];by_cases hh:d=q<;>simp [hh])] at hM;change Mem w w' [some (b1,algC (p:Int) (n:Int) T f),some (b2,vecC v),some (b3,vecC u),some (b4,fnC 6 (fun _=>.int .u8 (0))),some (b5,fnC 6 (fun c=>.int .i64 (prodI T v u n n c:Int))),some (b10,fnC 6 (fun d=>.int .u8 (((if d=q then (prodI T v u n n (q))%(p) else if d<q then timesV p n T v u d else 0):Nat):Int)))] [] at hM;refine wpList_nil<|iN<|tN<|wp_region_lit<|st hF (g_add hF rfl rfl (add_nat (q) (1) (by omega))) rfl fun a hF=>mv hF rfl rfl fun a hF=>nt<|⟨q+1,⟨by omega,trivial,hF.sub _ (by repeat' constructor),?_⟩,by omega⟩;refine hM.rowc 5 rfl (fnC_congr fun c hc=>?_);have e0:(c<q+1)=(c<q∨c=q):=by apply propext;omega
    by_cases e1:c=q
    · subst e1;simp [timesV]
    · simp [e0,e1]
  obtain rfl:6=q:=by omega
  refine wp_exit<|tX<|tX<|ib_same<|tN<|sr<|st hF (g_loadAgg ty_ag_37 hF rfl (hM.row 5 rfl) (by simp only [sz0]<;>omega) (whole (by simp only [sz0]))) rfl fun a hF=>stN hF (d_storeAgg 3 hM rfl ty_sz_37 hF rfl rfl (by first | exact vecC_one | exact cells_one | (refine fnC_one fun _ _=>?_;first | rfl | (split<;>rfl))) (by simp only [sz0]) (by simp only [sz0]<;>omega) (splice_whole _ _ (by simp only [sz0]))) ?_;intro _ w' a hM hF;change Mem w w' [some (b1,algC (p:Int) (n:Int) T f),some (b2,vecC v),some (b3,vecC u),some (b4,fnC 6 (fun d=>.int .u8 ((if d<6 then timesV p n T v u d else 0:Nat):Int))),some (b5,fnC 6 (fun c=>.int .i64 (prodI T v u n n c:Int))),some (b10,fnC 6 (fun d=>.int .u8 ((if d<6 then timesV p n T v u d else 0:Nat):Int)))] [] at hM;refine nt<|wp_ret<|fin1 rfl hF.defers (res_agg ty_ag_37 hF rfl (hM.row 3 rfl) (by simp only [sz0])) ⟨_,rfl,hM.below,?_⟩
  show _=_
  exact congrArg Value.agg (fnC_congr fun c hc=>by simp [hc])
def primeP (x:Int):Prop:=x=2∨x=3∨x=5∨x=7∨x=11∨x=13
instance (x:Int):Decidable (primeP x):=by unfold primeP;infer_instance
def okN (p n:Int) (x i:Nat):Prop:=¬ ((x:Int)≥p∨((i:Int)≥n∧x≠0))
instance (p n:Int) (x i:Nat):Decidable (okN p n x i):=by unfold okN;infer_instance
def okV (p n:Int) (v:Nat→Nat):Prop:=∀ i,i<6→okN p n (v i) i
instance (p n:Int) (v:Nat→Nat):Decidable (okV p n v):=Nat.decidableBallLT 6 _
theorem okV_not {p n:Int}{v:Nat→Nat}(i:Nat)(hi:i<6)(h:¬ okN p n (v i) i):¬ okV p n v:=fun hq=>h (hq i hi)
theorem okS {p n:Int}{v:Nat→Nat}{k:Nat}(h:∀ i,i<k→okN p n (v i) i)(hk:okN p n (v k) k):∀ i,i<k+1→okN p n (v i) i:=fun i hi=>by
  by_cases e:i=k
  · subst e;exact hk
  · exact h i (by omega)
theorem bool_t {p:Prop}[Decidable p](h:p):Value.bool true=Value.bool (decide p):=by simp [h]
theorem bool_f {p:Prop}[Decidable p](h:¬ p):Value.bool false=Value.bool (decide p):=by simp [h]
theorem isPrime_ok (x:Int)(w:World) :
    CallsR Try.prog 43 #[.int .i64 (x)] w (fun res _=>res = .bool (decide (primeP x))):=by
  refine calls_fr [.int .i64 (x)] Try.func43 rfl Try.ntmps43 rfl fun a hF=>?_;have hM:Mem w w [] []:=MemX.start w 0;change Fr 11 a [(0,.int .i64 (x))] at hF;refine sr<|ag hF rfl rfl fun a hF=>nt<|sq<|sr<|mv hF rfl rfl fun a hF=>nt<|wp_block<|sq<|sr<|st hF (g_eql hF rfl rfl) rfl fun a hF=>ag hF rfl rfl fun a hF=>nt<|c_cond hF rfl (fun h1=>?_) (fun h1=>?_)
  · refine wp_skip ?_
    refine tN<|c_kT hF rfl h1<|sr<|ag hF rfl rfl fun a hF=>nt<|wp_ret<|iR<|tR<|fin1 rfl hF.defers (res_tmp hF rfl) ⟨_,rfl,hM.below,?_⟩
    show _=_
    first | exact congrArg Value.bool (decide_eq_true (by unfold primeP;omega)).symm | exact congrArg Value.bool (decide_eq_false (by unfold primeP;omega)).symm | exact congrArg Value.bool (decide_eq_decide.2 (by unfold primeP;omega))
  refine sr<|st hF (g_eql hF rfl rfl) rfl fun a hF=>ag hF rfl rfl fun a hF=>nt<|c_cond hF rfl (fun h3=>?_) (fun h3=>?_)
  · refine wp_skip ?_
    refine tN<|c_kT hF rfl h3<|sr<|ag hF rfl rfl fun a hF=>nt<|wp_ret<|iR<|tR<|fin1 rfl hF.defers (res_tmp hF rfl) ⟨_,rfl,hM.below,?_⟩
    show _=_
    first | exact congrArg Value.bool (decide_eq_true (by unfold primeP;omega)).symm | exact congrArg Value.bool (decide_eq_false (by unfold primeP;omega)).symm | exact congrArg Value.bool (decide_eq_decide.2 (by unfold primeP;omega))
  refine sr<|st hF (g_eql hF rfl rfl) rfl fun a hF=>ag hF rfl rfl fun a hF=>nt<|c_cond hF rfl (fun h5=>?_) (fun h5=>?_)
  · refine wp_skip ?_
    refine tN<|c_kT hF rfl h5<|sr<|ag hF rfl rfl fun a hF=>nt<|wp_ret<|iR<|tR<|fin1 rfl hF.defers (res_tmp hF rfl) ⟨_,rfl,hM.below,?_⟩
    show _=_
    first | exact congrArg Value.bool (decide_eq_true (by unfold primeP;omega)).symm | exact congrArg Value.bool (decide_eq_false (by unfold primeP;omega)).symm | exact congrArg Value.bool (decide_eq_decide.2 (by unfold primeP;omega))
  refine sr<|st hF (g_eql hF rfl rfl) rfl fun a hF=>ag hF rfl rfl fun a hF=>nt<|c_cond hF rfl (fun h7=>?_) (fun h7=>?_)
  · refine wp_skip ?_
    refine tN<|c_kT hF rfl h7<|sr<|ag hF rfl rfl fun a hF=>nt<|wp_ret<|iR<|tR<|fin1 rfl hF.defers (res_tmp hF rfl) ⟨_,rfl,hM.below,?_⟩
    show _=_
    first | exact congrArg Value.bool (decide_eq_true (by unfold primeP;omega)).symm | exact congrArg Value.bool (decide_eq_false (by unfold primeP;omega)).symm | exact congrArg Value.bool (decide_eq_decide.2 (by unfold primeP;omega))
  refine sr<|st hF (g_eql hF rfl rfl) rfl fun a hF=>ag hF rfl rfl fun a hF=>nt<|c_cond hF rfl (fun h9=>?_) (fun h9=>?_)
  · refine wp_skip ?_
    refine tN<|c_kT hF rfl h9<|sr<|ag hF rfl rfl fun a hF=>nt<|wp_ret<|iR<|tR<|fin1 rfl hF.defers (res_tmp hF rfl) ⟨_,rfl,hM.below,?_⟩
    show _=_
    first | exact congrArg Value.bool (decide_eq_true (by unfold primeP;omega)).symm | exact congrArg Value.bool (decide_eq_false (by unfold primeP;omega)).symm | exact congrArg Value.bool (decide_eq_decide.2 (by unfold primeP;omega))
  refine wp_region_lit<|st hF (g_eql hF rfl rfl) rfl fun a hF=>ag hF rfl rfl fun a hF=>nt<|c_cond hF rfl (fun h11=>?_) (fun h11=>?_)
  · refine sq ?_
    refine wp_region_lit<|ag hF rfl rfl fun a hF=>nt<|wp_ret<|iR<|tR<|fin1 rfl hF.defers (res_tmp hF rfl) ⟨_,rfl,hM.below,?_⟩
    show _=_
    first | exact congrArg Value.bool (decide_eq_true (by unfold primeP;omega)).symm | exact congrArg Value.bool (decide_eq_false (by unfold primeP;omega)).symm | exact congrArg Value.bool (decide_eq_decide.2 (by unfold primeP;omega))
  refine wp_skip<|iN<|tN<|sr<|ag hF rfl rfl fun a hF=>nt<|wp_ret<|fin1 rfl hF.defers (res_tmp hF rfl) ⟨_,rfl,hM.below,?_⟩
  show _=_
  first | exact congrArg Value.bool (decide_eq_true (by unfold primeP;omega)).symm | exact congrArg Value.bool (decide_eq_false (by unfold primeP;omega)).symm | exact congrArg Value.bool (decide_eq_decide.2 (by unfold primeP;omega))
theorem l01In_ok (x lo hi:Int)(w:World) :
    CallsR Try.prog 20 #[.int .i64 (x),.int .i64 (lo),.int .i64 (hi)] w (fun res _=>res = .bool (decide (lo≤x∧x≤hi))):=by
  refine calls_fr [.int .i64 (x),.int .i64 (lo),.int .i64 (hi)] Try.func20 rfl Try.ntmps20 rfl fun a hF=>?_;have hM:Mem w w [] []:=MemX.start w 0;change Fr 15 a [(0,.int .i64 (x)),(1,.int .i64 (lo)),(2,.int .i64 (hi))] at hF;refine sr<|ag hF rfl rfl fun a hF=>ns<|mv hF rfl rfl fun a hF=>mv hF rfl rfl fun a hF=>st hF (g_geq hF rfl rfl) rfl fun a hF=>mv hF rfl rfl fun a hF=>?_
  by_cases g1:lo≤(x:Int)
  · first | rw [decide_eq_true g1] at hF | simp only [decide_eq_true g1] at hF
    refine stY hF rfl rfl rfl (g_move hF rfl) rfl fun a hF=>stY hF rfl rfl rfl (g_move hF rfl) rfl fun a hF=>stY hF rfl rfl rfl (g_leq hF rfl rfl) rfl fun a hF=>st hF (g_pickT hF rfl rfl) rfl fun a hF=>ag hF rfl rfl fun a hF=>nt<|wp_ret<|fin1 rfl hF.defers (res_tmp hF rfl) ⟨_,rfl,hM.below,?_⟩
    show _=_
    first | exact congrArg Value.bool (decide_eq_true (by omega)).symm | exact congrArg Value.bool (decide_eq_false (by omega)).symm | exact congrArg Value.bool (decide_eq_decide.2 (by omega))
  first | rw [decide_eq_false g1] at hF | simp only [decide_eq_false g1] at hF
  refine stS hF rfl rfl rfl rfl rfl fun a hF=>stS hF rfl rfl rfl rfl rfl fun a hF=>stS hF rfl rfl rfl rfl rfl fun a hF=>st hF (g_pickF hF rfl rfl) rfl fun a hF=>ag hF rfl rfl fun a hF=>nt<|wp_ret<|fin1 rfl hF.defers (res_tmp hF rfl) ⟨_,rfl,hM.below,?_⟩
  show _=_
  first | exact congrArg Value.bool (decide_eq_true (by omega)).symm | exact congrArg Value.bool (decide_eq_false (by omega)).symm | exact congrArg Value.bool (decide_eq_decide.2 (by omega))
theorem isVector_ok (p n:Int)(T:Nat→Nat→Nat→Nat)(f v:Nat→Nat)(w:World)(hv:∀ i,v i≤255) :
    CallsR Try.prog 59 #[.agg (algC p n T f),.agg (vecC v)] w (fun res _=>res = .bool (decide (okV p n v))):=by
  refine calls_fr [.agg (algC p n T f),.agg (vecC v)] Try.func59 rfl Try.ntmps59 rfl fun a hF=>?_;have hM:Mem w w [none,none] []:=MemX.start w 2;change Fr 28 a [(0,.agg (algC p n T f)),(1,.agg (vecC v))] at hF;refine sr<|stR hF (d_box 0 hM hF rfl) rfl ?_;rintro _ w' a ⟨b1,rfl,hM,-⟩ hF;refine stR hF (d_box 1 hM hF rfl) rfl ?_;rintro _ w' a ⟨b2,rfl,hM,-⟩ hF;change Mem w w' [some (b1,algC p n T f),some (b2,vecC v)] [] at hM;refine ag hF rfl rfl fun a hF=>nt<|sq<|sr<|st hF (g_loadAgg ty_ag_37 hF rfl (hM.row 1 rfl) (by simp only [sz0]<;>omega) (whole (by simp only [sz0]))) rfl fun a hF=>mv hF rfl rfl fun a hF=>nt<|wp_block ?_;change Mem w _ [some (b1,algC p n T f),some (b2,vecC v)] [] at hM;refine c_loop (fun (kk:Nat) a w'=>kk≤6∧(∀ i,i<kk→okN p n (v i) i)∧Fr 28 a [(2,ptr b1 (0)),(7,.agg (vecC v)),(8,.int .i64 (kk:Int))]∧Mem w w' [some (b1,algC p n T f),some (b2,vecC v)] []) (fun kk=>6 - kk) 0 ?_ ?_
  · refine ⟨by omega,fun i hi=>absurd hi (by omega),hF.sub _ (by repeat' constructor),?_⟩
    exact hM
  clear hF hM;rintro gk a w' ⟨hgk,hinv1,hF,hM⟩;have hvb:=hv gk;refine sr<|st hF (g_lss hF rfl rfl) rfl fun a hF=>nt<|sq<|c_cond hF rfl (fun h3=>?_) (fun h3=>?_)
  · refine wp_skip ?_
    refine tN<|sq<|wp_block<|sr<|mv hF rfl rfl fun a hF=>st hF (g_index ty_ua_37 ty_on_5 hF rfl rfl rfl (by omega) (vecC_get (gk) (by omega) (by omega))) rfl fun a hF=>ag hF rfl rfl fun a hF=>ag hF rfl rfl fun a hF=>ns<|mv hF rfl rfl fun a hF=>st hF (g_conv ty_un_2 ty_ud_5 hF rfl (wrap_i64 (by omega) (by omega))) rfl fun a hF=>st hF (g_fieldAddr ty_fo_39_0 hF rfl) rfl fun a hF=>st hF (g_load ty_on_2 hF rfl (hM.row 0 rfl) (algC_p (by omega))) rfl fun a hF=>st hF (g_geq hF rfl rfl) rfl fun a hF=>mv hF rfl rfl fun a hF=>?_
    by_cases g4:p≤((v (gk):Int):Int)
    · first | rw [decide_eq_true g4] at hF | simp only [decide_eq_true g4] at hF
      refine stS hF rfl rfl rfl rfl rfl fun a hF=>stS hF rfl rfl rfl rfl rfl fun a hF=>stS hF rfl rfl rfl rfl rfl fun a hF=>stS hF rfl rfl rfl rfl rfl fun a hF=>stS hF rfl rfl rfl rfl rfl fun a hF=>stU hF rfl rfl rfl rfl fun a hF=>stU hF rfl rfl rfl rfl fun a hF=>stS hF rfl rfl rfl rfl rfl fun a hF=>st hF (g_pickT hF rfl rfl) rfl fun a hF=>nt<|c_T hF rfl<|sr<|ag hF rfl rfl fun a hF=>nt<|wp_ret<|iR<|tR<|tR<|iR<|tR<|fin1 rfl hF.defers (res_tmp hF rfl) ⟨_,rfl,hM.below,?_⟩
      show _=_
      exact bool_f (okV_not gk (by omega) (by unfold okN;omega))
    first | rw [decide_eq_false g4] at hF | simp only [decide_eq_false g4] at hF
    refine stY hF rfl rfl rfl (g_move hF rfl) rfl fun a hF=>stY hF rfl rfl rfl (g_fieldAddr ty_fo_39_1 hF rfl) rfl fun a hF=>stY hF rfl rfl rfl (g_load ty_on_2 hF rfl (hM.row 0 rfl) (algC_n (by omega))) rfl fun a hF=>stY hF rfl rfl rfl (g_geq hF rfl rfl) rfl fun a hF=>stY hF rfl rfl rfl (g_move hF rfl) rfl fun a hF=>?_
    by_cases g6:n≤((gk:Int):Int)
    · first | rw [decide_eq_true g6] at hF | simp only [decide_eq_true g6] at hF
      refine stY hF rfl rfl rfl (g_move hF rfl) rfl fun a hF=>stY hF rfl rfl rfl (g_neq hF rfl rfl) rfl fun a hF=>stY hF rfl rfl rfl (g_pickT hF rfl rfl) rfl fun a hF=>st hF (g_pickF hF rfl rfl) rfl fun a hF=>nt<|c_cond hF rfl (fun h7=>?_) (fun h7=>?_)
      · refine sq ?_
        refine wp_region_lit<|ag hF rfl rfl fun a hF=>nt<|wp_ret<|iR<|tR<|tR<|iR<|tR<|fin1 rfl hF.defers (res_tmp hF rfl) ⟨_,rfl,hM.below,?_⟩
        show _=_
        exact bool_f (okV_not gk (by omega) (by unfold okN;omega))
      refine wp_skip<|iN<|tN<|wp_region_lit<|st hF (g_add hF rfl rfl (add_nat (gk) (1) (by omega))) rfl fun a hF=>mv hF rfl rfl fun a hF=>nt<|⟨gk+1,⟨by omega,okS hinv1 (by unfold okN;omega),hF.sub _ (by repeat' constructor),?_⟩,by omega⟩;exact hM
    first | rw [decide_eq_false g6] at hF | simp only [decide_eq_false g6] at hF
    refine stS hF rfl rfl rfl rfl rfl fun a hF=>stS hF rfl rfl rfl rfl rfl fun a hF=>stY hF rfl rfl rfl (g_pickF hF rfl rfl) rfl fun a hF=>st hF (g_pickF hF rfl rfl) rfl fun a hF=>nt<|c_Fl hF rfl<|wp_skip<|iN<|tN<|wp_region_lit<|st hF (g_add hF rfl rfl (add_nat (gk) (1) (by omega))) rfl fun a hF=>mv hF rfl rfl fun a hF=>nt<|⟨gk+1,⟨by omega,okS hinv1 (by unfold okN;omega),hF.sub _ (by repeat' constructor),?_⟩,by omega⟩;exact hM
  obtain rfl:6=gk:=by omega
  refine wp_exit<|tX<|tX<|ib_same<|tN<|sr<|ag hF rfl rfl fun a hF=>nt<|wp_ret<|fin1 rfl hF.defers (res_tmp hF rfl) ⟨_,rfl,hM.below,?_⟩
  show _=_
  exact bool_t hinv1
theorem add_then {x y z:Nat}(h:x+y<9223372036854775808)(e:x+y=z):IntKind.i64.wrap ((x:Int)+(y:Int))=(z:Int):=e ▸ add_nat x y h
def timesS (p n:Nat) (T:Nat→Nat→Nat→Nat) (v u:Nat→Nat) (c:Nat):Nat:=if c<n then timesV p n T v u c else 0
def invN (x p:Nat):Nat:=((List.range p).find? (fun c=>c*x%p == 1)).getD 0
theorem invN_some {x p k:Nat}(hk:k<p)(h:∀ c,c<k→¬ c*x%p=1)(h1:k*x%p=1):invN x p=k:=by
  unfold invN
  have:(List.range p).find? (fun c=>c*x%p == 1)=some k:=by
    rw [List.find?_eq_some_iff_append];refine ⟨by simpa using h1,List.range k,(List.range (p - k - 1)).map (fun x=>k+1+x),?_,?_⟩
    · have e:List.range p=List.range (k+(p - k)):=by congr 1;omega
      rw [e,List.range_add]
      congr 1
      rw [show p - k=(p - k - 1)+1 by omega,List.range_succ_eq_map]
      simp [Function.comp_def,Nat.add_assoc,Nat.add_comm]
      intro a _;omega
    · intro c hc;simpa using h c (by simpa using hc)
  rw [this];rfl
theorem invN_none {x p:Nat}(h:∀ c,c<p→¬ c*x%p=1):invN x p=0:=by
  unfold invN
  have:(List.range p).find? (fun c=>c*x%p == 1)=none:=by
    rw [List.find?_eq_none];intro c hc;simpa using h c (by simpa using hc)
  rw [this];rfl
theorem noS {x p k:Nat}(h:∀ c,c<k→¬ c*x%p=1)(h1:¬ ((k*x%p:Nat):Int)=1):∀ c,c<k+1→¬ c*x%p=1:=fun c hc=>by
  by_cases e:c=k
  · subst e;omega
  · exact h c (by omega)
theorem form_ok (p n:Nat)(T:Nat→Nat→Nat→Nat)(f v:Nat→Nat)(w:World)(hp:0<p)(hf:∀ i,f i≤255)(hv:∀ i,v i≤255) :
    CallsR Try.prog 52 #[.agg (algC (p:Int) (n:Int) T f),.agg (vecC v)] w (fun res _=>res = .int .i64 ((sumTo (fun i=>v i*f i) 6%p:Nat):Int)):=by
  refine calls_fr [.agg (algC (p:Int) (n:Int) T f),.agg (vecC v)] Try.func52 rfl Try.ntmps52 rfl fun a hF=>?_;have hM:Mem w w [none,none] []:=MemX.start w 2;change Fr 28 a [(0,.agg (algC (p:Int) (n:Int) T f)),(1,.agg (vecC v))] at hF;refine sr<|stR hF (d_box 0 hM hF rfl) rfl ?_;rintro _ w' a ⟨b1,rfl,hM,-⟩ hF;refine stR hF (d_box 1 hM hF rfl) rfl ?_;rintro _ w' a ⟨b2,rfl,hM,-⟩ hF;change Mem w w' [some (b1,algC (p:Int) (n:Int) T f),some (b2,vecC v)] [] at hM;refine ag hF rfl rfl fun a hF=>ns<|ag hF rfl rfl fun a hF=>nt<|sq<|sr<|st hF (g_loadAgg ty_ag_37 hF rfl (hM.row 1 rfl) (by simp only [sz0]<;>omega) (whole (by simp only [sz0]))) rfl fun a hF=>mv hF rfl rfl fun a hF=>nt<|wp_block ?_;change Mem w _ [some (b1,algC (p:Int) (n:Int) T f),some (b2,vecC v)] [] at hM;refine c_loop (fun (kk:Nat) a w'=>kk≤6∧(True)∧Fr 28 a [(2,ptr b1 (0)),(4,.int .i64 (0)),(8,.agg (vecC v)),(5,.int .i64 ((sumTo (fun i=>v i*f i) kk:Int))),(9,.int .i64 (kk:Int))]∧Mem w w' [some (b1,algC (p:Int) (n:Int) T f),some (b2,vecC v)] []) (fun kk=>6 - kk) 0 ?_ ?_
  · refine ⟨by omega,trivial,hF.sub _ (by repeat' constructor),?_⟩
    exact hM
  clear hF hM;rintro gk a w' ⟨hgk,hinv1,hF,hM⟩;have hvi:=hv gk;have hfi:=hf gk;have hvv:=vv_bd (hv gk) (hf gk);have hvf:=vv_bd (hf gk) (hv gk);have hsb:=sumTo_le (m:=gk) (c:=65025) fun i (_:i<gk)=>vv_bd (hv i) (hf i);refine sr<|st hF (g_lss hF rfl rfl) rfl fun a hF=>nt<|sq<|c_cond hF rfl (fun h3=>?_) (fun h3=>?_)
  · refine wp_skip ?_
    refine tN<|sq<|wp_block<|sr<|mv hF rfl rfl fun a hF=>st hF (g_index ty_ua_37 ty_on_5 hF rfl rfl rfl (by omega) (vecC_get (gk) (by omega) (by omega))) rfl fun a hF=>ag hF rfl rfl fun a hF=>ag hF rfl rfl fun a hF=>nt<|wp_region_lit<|mv hF rfl rfl fun a hF=>mv hF rfl rfl fun a hF=>st hF (g_conv ty_un_2 ty_ud_5 hF rfl (wrap_i64 (by omega) (by omega))) rfl fun a hF=>mv hF rfl rfl fun a hF=>st hF (g_fieldAddr ty_fo_39_3 hF rfl) rfl fun a hF=>st hF (g_indexAddr ty_ar_37 hF rfl rfl rfl (by omega)) rfl fun a hF=>st hF (g_load ty_on_5 hF rfl (hM.row 0 rfl) (algC_f (gk) (by omega) (by omega))) rfl fun a hF=>st hF (g_conv ty_un_2 ty_ud_5 hF rfl (wrap_i64 (by omega) (by omega))) rfl fun a hF=>st hF (g_mul hF rfl rfl (mul_nat (v gk) (f gk) (by omega))) rfl fun a hF=>st hF (g_add hF rfl rfl (show _=(sumTo (fun i=>v i*f i) (gk+1):Int) from (add_then (by omega) rfl))) rfl fun a hF=>ag hF rfl rfl fun a hF=>wpList_nil<|iN<|tN<|wp_region_lit<|st hF (g_add hF rfl rfl (add_nat (gk) (1) (by omega))) rfl fun a hF=>mv hF rfl rfl fun a hF=>nt<|⟨gk+1,⟨by omega,trivial,hF.sub _ (by repeat' constructor),?_⟩,by omega⟩;exact hM
  obtain rfl:6=gk:=by omega
  refine wp_exit<|tX<|tX<|ib_same<|tN<|sr<|mv hF rfl rfl fun a hF=>st hF (g_fieldAddr ty_fo_39_0 hF rfl) rfl fun a hF=>st hF (g_load ty_on_2 hF rfl (hM.row 0 rfl) (algC_p (by omega))) rfl fun a hF=>st hF (g_rem hF rfl rfl (by omega) (rem_nat (sumTo (fun i=>v i*f i) 6) (p))) rfl fun a hF=>ag hF rfl rfl fun a hF=>nt<|wp_ret<|fin1 rfl hF.defers (res_tmp hF rfl) ⟨_,rfl,hM.below,?_⟩
  show _=_
  rfl
theorem inverseNumber_ok (x p:Nat)(w:World)(hp:0<p)(hp2:p<100)(hx:x≤255) :
    CallsR Try.prog 73 #[.int .u8 (x:Int),.int .i64 (p:Int)] w (fun res _=>res = .int .i64 (invN x p:Int)):=by
  refine calls_fr [.int .u8 (x:Int),.int .i64 (p:Int)] Try.func73 rfl Try.ntmps73 rfl fun a hF=>?_;have hM:Mem w w [] []:=MemX.start w 0;change Fr 19 a [(0,.int .u8 (x:Int)),(1,.int .i64 (p:Int))] at hF;refine sr<|ag hF rfl rfl fun a hF=>nt<|sq<|sr<|mv hF rfl rfl fun a hF=>mv hF rfl rfl fun a hF=>nt<|wp_block ?_;change Mem w _ [] [] at hM;refine c_loop (fun (kk:Nat) a w'=>kk≤p∧(∀ c,c<kk→¬ c*x%p=1)∧Fr 19 a [(0,.int .u8 (x:Int)),(1,.int .i64 (p:Int)),(6,.int .i64 (p:Int)),(7,.int .i64 (kk:Int))]∧Mem w w' [] []) (fun kk=>p - kk) 0 ?_ ?_
  · refine ⟨by omega,fun c hc=>absurd hc (by omega),hF.sub _ (by repeat' constructor),?_⟩
    exact hM
  clear hF hM;rintro gk a w' ⟨hgk,hinv1,hF,hM⟩;have hkx:gk*x≤100*255:=Nat.mul_le_mul (by omega) hx;refine sr<|st hF (g_lss hF rfl rfl) rfl fun a hF=>nt<|sq<|c_cond hF rfl (fun h1=>?_) (fun h1=>?_)
  · refine wp_skip ?_
    refine tN<|sq<|wp_block<|sr<|mv hF rfl rfl fun a hF=>ag hF rfl rfl fun a hF=>ns<|mv hF rfl rfl fun a hF=>mv hF rfl rfl fun a hF=>st hF (g_conv ty_un_2 ty_ud_5 hF rfl (wrap_i64 (by omega) (by omega))) rfl fun a hF=>st hF (g_mul hF rfl rfl (mul_nat gk x (by omega))) rfl fun a hF=>mv hF rfl rfl fun a hF=>stR hF (d_call Try.call46 hF (.cons rfl (.cons rfl .nil)) (residue_nat ((gk)*(x)) (p) _ (by omega) (by omega) (by omega))) rfl ?_;rintro _ w' a ⟨hx,rfl⟩ hF;have hM:=hM.ext hx;refine st hF (g_eql hF rfl rfl) rfl fun a hF=>nt<|c_cond hF rfl (fun h2=>?_) (fun h2=>?_)
    · refine sq ?_
      refine wp_region_lit<|mv hF rfl rfl fun a hF=>ag hF rfl rfl fun a hF=>nt<|wp_ret<|iR<|tR<|tR<|iR<|tR<|fin1 rfl hF.defers (res_tmp hF rfl) ⟨_,rfl,hM.below,?_⟩
      show _=_
      exact congrArg (fun y:Nat=>Value.int .i64 (y:Int)) (invN_some (by omega) hinv1 (by omega)).symm
    refine wp_skip<|iN<|tN<|wp_region_lit<|st hF (g_add hF rfl rfl (add_nat (gk) (1) (by omega))) rfl fun a hF=>mv hF rfl rfl fun a hF=>nt<|⟨gk+1,⟨by omega,noS hinv1 (by assumption),hF.sub _ (by repeat' constructor),?_⟩,by omega⟩;exact hM
  obtain rfl:p=gk:=by omega
  refine wp_exit<|tX<|tX<|ib_same<|tN<|sr<|ag hF rfl rfl fun a hF=>nt<|wp_ret<|fin1 rfl hF.defers (res_tmp hF rfl) ⟨_,rfl,hM.below,?_⟩
  show _=_
  exact congrArg (fun y:Nat=>Value.int .i64 (y:Int)) (invN_none hinv1).symm
def okE (p n:Int) (T:Nat→Nat→Nat→Nat) (i j:Nat):Prop:=¬ ((¬ ((i:Int)<n∧(j:Int)<n)∧¬ eqV 6 (T i j) (fun _=>0))∨¬ okV p n (T i j))
instance (p n:Int) (T:Nat→Nat→Nat→Nat) (i j:Nat):Decidable (okE p n T i j):=by unfold okE;infer_instance
def all2 (m:Nat) (q:Nat→Nat→Prop):Prop:=∀ i,i<m→∀ j,j<m→q i j
instance (m:Nat) (q:Nat→Nat→Prop) [∀ i j,Decidable (q i j)]:Decidable (all2 m q):=by unfold all2;exact Nat.decidableBallLT m _
theorem all2_not {m:Nat}{q:Nat→Nat→Prop}(i j:Nat)(hi:i<m)(hj:j<m)(h:¬ q i j):¬ all2 m q:=fun ha=>h (ha i hi j hj)
theorem allS {q:Nat→Prop}{k:Nat}(h:∀ i,i<k→q i)(hk:q k):∀ i,i<k+1→q i:=fun i hi=>by
  by_cases e:i=k
  · subst e;exact hk
  · exact h i (by omega)
def okS2 (p n:Int) (T:Nat→Nat→Nat→Nat) (i j:Nat):Prop:=okV p (if (i:Int)≥n∨(j:Int)≥n then 0 else n) (T i j)
instance (p n:Int) (T:Nat→Nat→Nat→Nat) (i j:Nat):Decidable (okS2 p n T i j):=by unfold okS2;infer_instance
def shapeP (p n:Int) (T:Nat→Nat→Nat→Nat) (f:Nat→Nat):Prop:=primeP p∧(1≤n∧n≤6)∧okV p n f∧all2 6 (okS2 p n T)
instance (p n:Int) (T:Nat→Nat→Nat→Nat) (f:Nat→Nat):Decidable (shapeP p n T f):=by unfold shapeP;infer_instance
theorem hasTable_ok (p n:Int)(T:Nat→Nat→Nat→Nat)(f:Nat→Nat)(w:World)(hT:∀ i j k,T i j k≤255)(hf:∀ i,f i≤255) :
    CallsR Try.prog 69 #[.agg (algC p n T f)] w (fun res _=>res = .bool (decide (all2 6 (okE p n T)))):=by
  refine calls_fr [.agg (algC p n T f)] Try.func69 rfl Try.ntmps69 rfl fun a hF=>?_;have hM:Mem w w [none,none,none] []:=MemX.start w 3;change Fr 44 a [(0,.agg (algC p n T f))] at hF;refine sr<|stR hF (d_box 0 hM hF rfl) rfl ?_;rintro _ w' a ⟨b1,rfl,hM,-⟩ hF;change Mem w w' [some (b1,algC p n T f),none,none] [] at hM;refine ag hF rfl rfl fun a hF=>nt<|sq<|sr<|st hF (g_fieldAddr ty_fo_39_2 hF rfl) rfl fun a hF=>st hF (g_loadAgg ty_ag_36 hF rfl (hM.row 0 rfl) (by simp only [sz0]<;>omega) (algC_tab (by omega) (by omega))) rfl fun a hF=>mv hF rfl rfl fun a hF=>nt<|wp_block ?_;change Mem w _ [some (b1,algC p n T f),none,none] [] at hM;refine c_loop (fun (kk:Nat) a w'=>kk≤6∧(∀ i,i<kk→∀ j,j<6→okE p n T i j)∧Fr 44 a [(1,ptr b1 (0)),(9,.agg (tabC T)),(10,.int .i64 (kk:Int))]∧Mem w w' [some (b1,algC p n T f),none,none] []) (fun kk=>6 - kk) 0 ?_ ?_
  · refine ⟨by omega,fun i hi=>absurd hi (by omega),hF.sub _ (by repeat' constructor),?_⟩
    exact hM
  clear hF hM;rintro gi a w' ⟨hgi,hinv1,hF,hM⟩;refine sr<|st hF (g_lss hF rfl rfl) rfl fun a hF=>nt<|sq<|c_cond hF rfl (fun h2=>?_) (fun h2=>?_)
  · refine wp_skip ?_
    refine tN<|sq<|wp_block<|sr<|mv hF rfl rfl fun a hF=>st hF (g_indexA ty_ua_36 ty_ag_25 hF rfl rfl rfl (by omega) (tabC_plane (gi) (by omega) (by omega) (by omega))) rfl fun a hF=>stR hF (d_alloc 1 hM ty_ze_25) rfl ?_;rintro _ w' a ⟨b3,rfl,hM,-⟩ hF;change Mem w w' [some (b1,algC p n T f),some (b3,fnC 36 (fun _=>.int .u8 (0))),none] [] at hM;refine ag hF rfl rfl fun a hF=>stN hF (d_storeAgg 1 hM rfl ty_sz_25 hF rfl rfl (by first | exact vecC_one | exact cells_one | (refine fnC_one fun _ _=>?_;first | rfl | (split<;>rfl))) (by simp only [sz0]) (by simp only [sz0]<;>omega) (splice_whole _ _ (by simp only [sz0]))) ?_;intro _ w' a hM hF;change Mem w w' [some (b1,algC p n T f),some (b3,planeC (T (gi))),none] [] at hM;refine ns<|st hF (g_loadAgg ty_ag_25 hF rfl (hM.row 1 rfl) (by simp only [sz0]<;>omega) (whole (by simp only [sz0]))) rfl fun a hF=>mv hF rfl rfl fun a hF=>nt<|wp_block ?_;change Mem w _ [some (b1,algC p n T f),some (b3,planeC (T (gi))),none] [] at hM;refine c_loop (fun (kk:Nat) a w'=>kk≤6∧(∀ j,j<kk→okE p n T gi j)∧Fr 44 a [(1,ptr b1 (0)),(9,.agg (tabC T)),(10,.int .i64 (gi:Int)),(11,.bool (decide (((gi:Int):Int)<6))),(12,.int .i64 (gi:Int)),(13,.agg (planeC (T (gi)))),(4,ptr b3 (0)),(3,.int .i64 (gi:Int)),(14,.agg (planeC (T (gi)))),(15,.int .i64 (kk:Int))]∧Mem w w' [some (b1,algC p n T f),some (b3,planeC (T (gi))),none] []) (fun kk=>6 - kk) 0 ?_ ?_
    · refine ⟨by omega,fun i hi=>absurd hi (by omega),hF.sub _ (by repeat' constructor),?_⟩
      exact hM
    clear hF hM;rintro gj a w' ⟨hgj,hinv2,hF,hM⟩;refine sr<|st hF (g_lss hF rfl rfl) rfl fun a hF=>nt<|sq<|c_cond hF rfl (fun h4=>?_) (fun h4=>?_)
    · refine wp_skip ?_
      refine tN<|sq<|wp_block<|sr<|mv hF rfl rfl fun a hF=>st hF (g_indexA ty_ua_25 ty_ag_24 hF rfl rfl rfl (by omega) (planeC_row (gj) (by omega) (by omega) (by omega))) rfl fun a hF=>stR hF (d_alloc 2 hM ty_ze_24) rfl ?_;rintro _ w' a ⟨b5,rfl,hM,-⟩ hF;change Mem w w' [some (b1,algC p n T f),some (b3,planeC (T (gi))),some (b5,fnC 6 (fun _=>.int .u8 (0)))] [] at hM;refine ag hF rfl rfl fun a hF=>stN hF (d_storeAgg 2 hM rfl ty_sz_24 hF rfl rfl (by first | exact vecC_one | exact cells_one | (refine fnC_one fun _ _=>?_;first | rfl | (split<;>rfl))) (by simp only [sz0]) (by simp only [sz0]<;>omega) (splice_whole _ _ (by simp only [sz0]))) ?_;intro _ w' a hM hF;change Mem w w' [some (b1,algC p n T f),some (b3,planeC (T (gi))),some (b5,vecC ((T (gi)) (gj)))] [] at hM;refine ns<|mv hF rfl rfl fun a hF=>st hF (g_fieldAddr ty_fo_39_1 hF rfl) rfl fun a hF=>st hF (g_load ty_on_2 hF rfl (hM.row 0 rfl) (algC_n (by omega))) rfl fun a hF=>st hF (g_lss hF rfl rfl) rfl fun a hF=>mv hF rfl rfl fun a hF=>?_
      by_cases g6:((gi:Int):Int)<n
      · first | rw [decide_eq_true g6] at hF | simp only [decide_eq_true g6] at hF
        refine stY hF rfl rfl rfl (g_move hF rfl) rfl fun a hF=>stY hF rfl rfl rfl (g_fieldAddr ty_fo_39_1 hF rfl) rfl fun a hF=>stY hF rfl rfl rfl (g_load ty_on_2 hF rfl (hM.row 0 rfl) (algC_n (by omega))) rfl fun a hF=>stY hF rfl rfl rfl (g_lss hF rfl rfl) rfl fun a hF=>st hF (g_pickT hF rfl rfl) rfl fun a hF=>ag hF rfl rfl fun a hF=>ns<|mv hF rfl rfl fun a hF=>st hF (g_notP hF rfl) rfl fun a hF=>mv hF rfl rfl fun a hF=>?_
        by_cases g7:¬ (((gj:Int):Int)<n)
        · first | rw [decide_eq_true g7] at hF | simp only [decide_eq_true g7] at hF
          refine stY hF rfl rfl rfl (g_loadAgg ty_ag_24 hF rfl (hM.row 2 rfl) (by simp only [sz0]<;>omega) (whole (by simp only [sz0]))) rfl fun a hF=>stY hF rfl rfl rfl (g_build0 ty_bu_37) rfl fun a hF=>stY hF rfl rfl rfl (g_neqA ty_eg_24 hF rfl rfl (eqAt_vec ty_ae_24 ty_ip_5 ty_on_5)) rfl fun a hF=>st hF (g_pickT hF rfl rfl) rfl fun a hF=>mv hF rfl rfl fun a hF=>?_
          by_cases g8:¬ (eqV 6 (((T (gi)) (gj))) ((fun _=>0)))
          · first | rw [decide_eq_true g8] at hF | simp only [decide_eq_true g8] at hF
            refine stS hF rfl rfl rfl rfl rfl fun a hF=>stS hF rfl rfl rfl rfl rfl fun a hF=>stS hF rfl rfl rfl rfl rfl fun a hF=>stS hF rfl rfl rfl rfl rfl fun a hF=>st hF (g_pickT hF rfl rfl) rfl fun a hF=>nt<|c_T hF rfl<|sr<|ag hF rfl rfl fun a hF=>nt<|wp_ret<|iR<|tR<|tR<|iR<|iR<|tR<|tR<|iR<|tR<|fin1 rfl hF.defers (res_tmp hF rfl) ⟨_,rfl,hM.below,?_⟩
            show _=_
            exact bool_f (all2_not gi gj (by omega) (by omega) (by unfold okE;intro hq;apply hq;first | (right;assumption) | (left;exact ⟨by omega,by assumption⟩)))
          first | rw [decide_eq_false g8] at hF | simp only [decide_eq_false g8] at hF
          refine stY hF rfl rfl rfl (g_loadAgg ty_ag_39 hF rfl (hM.row 0 rfl) (by simp only [sz0]<;>omega) (whole cells_size)) rfl fun a hF=>stY hF rfl rfl rfl (g_loadAgg ty_ag_24 hF rfl (hM.row 2 rfl) (by simp only [sz0]<;>omega) (whole (by simp only [sz0]))) rfl fun a hF=>stYR hF rfl rfl rfl (d_call Try.call59 hF (.cons rfl (.cons rfl .nil)) (isVector_ok p n T f (((T (gi)) (gj))) _ (fun _=>by first | exact hv _ | exact hu _ | exact hT _ _ _ | exact hf _ | omega | (split<;>omega) | (dsimp only;split<;>omega) | assumption))) rfl ?_;rintro _ w' a ⟨hx,rfl⟩ hF;have hM:=hM.ext hx;refine stY hF rfl rfl rfl (g_notP hF rfl) rfl fun a hF=>st hF (g_pickF hF rfl rfl) rfl fun a hF=>nt<|c_cond hF rfl (fun h10=>?_) (fun h10=>?_)
          · refine sq ?_
            refine wp_region_lit<|ag hF rfl rfl fun a hF=>nt<|wp_ret<|iR<|tR<|tR<|iR<|iR<|tR<|tR<|iR<|tR<|fin1 rfl hF.defers (res_tmp hF rfl) ⟨_,rfl,hM.below,?_⟩
            show _=_
            exact bool_f (all2_not gi gj (by omega) (by omega) (by unfold okE;intro hq;apply hq;first | (right;assumption) | (left;exact ⟨by omega,by assumption⟩)))
          refine wp_skip<|iN<|tN<|wp_region_lit<|st hF (g_add hF rfl rfl (add_nat (gj) (1) (by omega))) rfl fun a hF=>mv hF rfl rfl fun a hF=>wpList_nil<|tN ?_;have hM:=hM.drop 2;refine ⟨gj+1,⟨by omega,allS hinv2 (by unfold okE;simp_all),hF.sub _ (by repeat' constructor),?_⟩,by omega⟩;exact hM
        first | rw [decide_eq_false g7] at hF | simp only [decide_eq_false g7] at hF
        refine stS hF rfl rfl rfl rfl rfl fun a hF=>stS hF rfl rfl rfl rfl rfl fun a hF=>stS hF rfl rfl rfl rfl rfl fun a hF=>st hF (g_pickF hF rfl rfl) rfl fun a hF=>mv hF rfl rfl fun a hF=>stY hF rfl rfl rfl (g_loadAgg ty_ag_39 hF rfl (hM.row 0 rfl) (by simp only [sz0]<;>omega) (whole cells_size)) rfl fun a hF=>stY hF rfl rfl rfl (g_loadAgg ty_ag_24 hF rfl (hM.row 2 rfl) (by simp only [sz0]<;>omega) (whole (by simp only [sz0]))) rfl fun a hF=>stYR hF rfl rfl rfl (d_call Try.call59 hF (.cons rfl (.cons rfl .nil)) (isVector_ok p n T f (((T (gi)) (gj))) _ (fun _=>by first | exact hv _ | exact hu _ | exact hT _ _ _ | exact hf _ | omega | (split<;>omega) | (dsimp only;split<;>omega) | assumption))) rfl ?_;rintro _ w' a ⟨hx,rfl⟩ hF;have hM:=hM.ext hx;refine stY hF rfl rfl rfl (g_notP hF rfl) rfl fun a hF=>st hF (g_pickF hF rfl rfl) rfl fun a hF=>nt<|c_cond hF rfl (fun h11=>?_) (fun h11=>?_)
        · refine sq ?_
          refine wp_region_lit<|ag hF rfl rfl fun a hF=>nt<|wp_ret<|iR<|tR<|tR<|iR<|iR<|tR<|tR<|iR<|tR<|fin1 rfl hF.defers (res_tmp hF rfl) ⟨_,rfl,hM.below,?_⟩
          show _=_
          exact bool_f (all2_not gi gj (by omega) (by omega) (by unfold okE;intro hq;apply hq;first | (right;assumption) | (left;exact ⟨by omega,by assumption⟩)))
        refine wp_skip<|iN<|tN<|wp_region_lit<|st hF (g_add hF rfl rfl (add_nat (gj) (1) (by omega))) rfl fun a hF=>mv hF rfl rfl fun a hF=>wpList_nil<|tN ?_;have hM:=hM.drop 2;refine ⟨gj+1,⟨by omega,allS hinv2 (by unfold okE;simp_all),hF.sub _ (by repeat' constructor),?_⟩,by omega⟩;exact hM
      first | rw [decide_eq_false g6] at hF | simp only [decide_eq_false g6] at hF
      refine stS hF rfl rfl rfl rfl rfl fun a hF=>stS hF rfl rfl rfl rfl rfl fun a hF=>stS hF rfl rfl rfl rfl rfl fun a hF=>stS hF rfl rfl rfl rfl rfl fun a hF=>st hF (g_pickF hF rfl rfl) rfl fun a hF=>ag hF rfl rfl fun a hF=>ns<|mv hF rfl rfl fun a hF=>st hF (g_not (b:=false) hF rfl) rfl fun a hF=>mv hF rfl rfl fun a hF=>stY hF rfl rfl rfl (g_loadAgg ty_ag_24 hF rfl (hM.row 2 rfl) (by simp only [sz0]<;>omega) (whole (by simp only [sz0]))) rfl fun a hF=>stY hF rfl rfl rfl (g_build0 ty_bu_37) rfl fun a hF=>stY hF rfl rfl rfl (g_neqA ty_eg_24 hF rfl rfl (eqAt_vec ty_ae_24 ty_ip_5 ty_on_5)) rfl fun a hF=>st hF (g_pickT hF rfl rfl) rfl fun a hF=>mv hF rfl rfl fun a hF=>?_
      by_cases g12:¬ (eqV 6 (((T (gi)) (gj))) ((fun _=>0)))
      · first | rw [decide_eq_true g12] at hF | simp only [decide_eq_true g12] at hF
        refine stS hF rfl rfl rfl rfl rfl fun a hF=>stS hF rfl rfl rfl rfl rfl fun a hF=>stS hF rfl rfl rfl rfl rfl fun a hF=>stS hF rfl rfl rfl rfl rfl fun a hF=>st hF (g_pickT hF rfl rfl) rfl fun a hF=>nt<|c_T hF rfl<|sr<|ag hF rfl rfl fun a hF=>nt<|wp_ret<|iR<|tR<|tR<|iR<|iR<|tR<|tR<|iR<|tR<|fin1 rfl hF.defers (res_tmp hF rfl) ⟨_,rfl,hM.below,?_⟩
        show _=_
        exact bool_f (all2_not gi gj (by omega) (by omega) (by unfold okE;intro hq;apply hq;first | (right;assumption) | (left;exact ⟨by omega,by assumption⟩)))
      first | rw [decide_eq_false g12] at hF | simp only [decide_eq_false g12] at hF
      refine stY hF rfl rfl rfl (g_loadAgg ty_ag_39 hF rfl (hM.row 0 rfl) (by simp only [sz0]<;>omega) (whole cells_size)) rfl fun a hF=>stY hF rfl rfl rfl (g_loadAgg ty_ag_24 hF rfl (hM.row 2 rfl) (by simp only [sz0]<;>omega) (whole (by simp only [sz0]))) rfl fun a hF=>stYR hF rfl rfl rfl (d_call Try.call59 hF (.cons rfl (.cons rfl .nil)) (isVector_ok p n T f (((T (gi)) (gj))) _ (fun _=>by first | exact hv _ | exact hu _ | exact hT _ _ _ | exact hf _ | omega | (split<;>omega) | (dsimp only;split<;>omega) | assumption))) rfl ?_;rintro _ w' a ⟨hx,rfl⟩ hF;have hM:=hM.ext hx;refine stY hF rfl rfl rfl (g_notP hF rfl) rfl fun a hF=>st hF (g_pickF hF rfl rfl) rfl fun a hF=>nt<|c_cond hF rfl (fun h14=>?_) (fun h14=>?_)
      · refine sq ?_
        refine wp_region_lit<|ag hF rfl rfl fun a hF=>nt<|wp_ret<|iR<|tR<|tR<|iR<|iR<|tR<|tR<|iR<|tR<|fin1 rfl hF.defers (res_tmp hF rfl) ⟨_,rfl,hM.below,?_⟩
        show _=_
        exact bool_f (all2_not gi gj (by omega) (by omega) (by unfold okE;intro hq;apply hq;first | (right;assumption) | (left;exact ⟨by omega,by assumption⟩)))
      refine wp_skip<|iN<|tN<|wp_region_lit<|st hF (g_add hF rfl rfl (add_nat (gj) (1) (by omega))) rfl fun a hF=>mv hF rfl rfl fun a hF=>wpList_nil<|tN ?_;have hM:=hM.drop 2;refine ⟨gj+1,⟨by omega,allS hinv2 (by unfold okE;simp_all),hF.sub _ (by repeat' constructor),?_⟩,by omega⟩;exact hM
    obtain rfl:6=gj:=by omega
    refine wp_exit<|tX<|tX<|ib_same<|iN<|tN<|wp_region_lit<|st hF (g_add hF rfl rfl (add_nat (gi) (1) (by omega))) rfl fun a hF=>mv hF rfl rfl fun a hF=>wpList_nil<|tN ?_;have hM:=hM.drop 1;refine ⟨gi+1,⟨by omega,allS hinv1 hinv2,hF.sub _ (by repeat' constructor),?_⟩,by omega⟩;exact hM
  obtain rfl:6=gi:=by omega
  refine wp_exit<|tX<|tX<|ib_same<|tN<|sr<|ag hF rfl rfl fun a hF=>nt<|wp_ret<|fin1 rfl hF.defers (res_tmp hF rfl) ⟨_,rfl,hM.below,?_⟩
  show _=_
  exact bool_t hinv1
def e1 (i:Nat):Nat→Nat:=fun c=>if c=i then 1 else 0
def asT (p n:Nat) (T:Nat→Nat→Nat→Nat) (i j k:Nat):Prop:=eqV 6 (timesV p n T (T i j) (fun c=>if c=k then 1 else 0)) (timesV p n T (fun c=>if c=i then 1 else 0) (T j k))
instance (p n:Nat) (T:Nat→Nat→Nat→Nat) (i j k:Nat):Decidable (asT p n T i j k):=by unfold asT;infer_instance
def asJ (p n:Nat) (T:Nat→Nat→Nat→Nat) (j:Nat):Prop:=∀ i,i<n→∀ k,k<n→asT p n T i j k
instance (p n:Nat) (T:Nat→Nat→Nat→Nat) (j:Nat):Decidable (asJ p n T j):=by unfold asJ;exact Nat.decidableBallLT n _
def cntA (p n:Nat) (T:Nat→Nat→Nat→Nat) (g:Nat):Nat:=sumTo (fun j=>if asJ p n T j then 1 else 0) g
theorem cntA_yes {p n g:Nat}{T:Nat→Nat→Nat→Nat}(h:asJ p n T g):cntA p n T g+1=cntA p n T (g+1):=by simp [cntA,sumTo,h]
theorem cntA_no {p n g:Nat}{T:Nat→Nat→Nat→Nat}(i k:Nat)(hi:i<n)(hk:k<n)(h:¬ asT p n T i g k):cntA p n T g=cntA p n T (g+1):=by
  have:¬ asJ p n T g:=fun hq=>h (hq i hi k hk)
  simp [cntA,sumTo,this]
theorem sumTo_ones {q:Nat→Prop}[∀ j,Decidable (q j)]:∀ (m:Nat),sumTo (fun j=>if q j then 1 else 0) m≤m∧(sumTo (fun j=>if q j then 1 else 0) m=m↔∀ j,j<m→q j)
  | 0=>⟨Nat.le_refl _,by simp [sumTo]⟩
  | m + 1 => by
    have ih:=sumTo_ones (q:=q) m
    simp only [sumTo]
    by_cases h:q m
    · refine ⟨by simp [h];omega,⟨fun e j hj=>?_,fun ha=>?_⟩⟩
      · by_cases ej:j=m
        · subst ej;exact h
        · exact ih.2.1 (by simp [h] at e;omega) j (by omega)
      · have:=ih.2.2 (fun j hj=>ha j (by omega));simp [h];omega
    · refine ⟨by simp [h];omega,⟨fun e=>?_,fun ha=>absurd (ha m (by omega)) h⟩⟩
      simp [h] at e;omega
def asP (p n:Nat) (T:Nat→Nat→Nat→Nat):Prop:=∀ j,j<n→asJ p n T j
instance (p n:Nat) (T:Nat→Nat→Nat→Nat):Decidable (asP p n T):=Nat.decidableBallLT n _
theorem cntA_le {p n g:Nat}{T:Nat→Nat→Nat→Nat}:cntA p n T g≤g:=(sumTo_ones g).1
theorem cntA_all {p n:Nat}{T:Nat→Nat→Nat→Nat}:(cntA p n T n:Int)=(n:Int)↔asP p n T:=by
  have:=(sumTo_ones (q:=asJ p n T) n).2
  unfold cntA asP;rw [← this];omega
theorem isAssociative_ok (p n:Nat)(T:Nat→Nat→Nat→Nat)(f:Nat→Nat)(w:World)(hp:0<p)(hp2:p<100)(hn:n≤6)(hT:∀ i j k,T i j k≤255)(hf:∀ i,f i≤255) :
    CallsR Try.prog 70 #[.agg (algC (p:Int) (n:Int) T f)] w (fun res _=>res = .bool (decide (asP p n T))):=by
  refine calls_fr [.agg (algC (p:Int) (n:Int) T f)] Try.func70 rfl Try.ntmps70 rfl fun a hF=>?_;have hM:Mem w w [none,none,none] []:=MemX.start w 3;change Fr 56 a [(0,.agg (algC (p:Int) (n:Int) T f))] at hF;refine sr<|stR hF (d_box 0 hM hF rfl) rfl ?_;rintro _ w' a ⟨b1,rfl,hM,-⟩ hF;change Mem w w' [some (b1,algC (p:Int) (n:Int) T f),none,none] [] at hM;refine ag hF rfl rfl fun a hF=>nt<|wp_scope_straight<|sr<|ag hF rfl rfl fun a hF=>nt<|sq<|wp_label<|tN<|sq<|sr<|st hF (g_fieldAddr ty_fo_39_1 hF rfl) rfl fun a hF=>st hF (g_load ty_on_2 hF rfl (hM.row 0 rfl) (algC_n (by omega))) rfl fun a hF=>mv hF rfl rfl fun a hF=>nt<|wp_block ?_;change Mem w _ [some (b1,algC (p:Int) (n:Int) T f),none,none] [] at hM;refine c_loop (fun (kk:Nat) a w'=>kk≤n∧(True)∧Fr 56 a [(1,ptr b1 (0)),(2,.bool (false)),(10,.int .i64 (n:Int)),(11,.int .i64 (kk:Int)),(3,.int .i64 ((cntA p n T kk:Int)))]∧Mem w w' [some (b1,algC (p:Int) (n:Int) T f),none,none] []) (fun kk=>n - kk) 0 ?_ ?_
  · refine ⟨by omega,trivial,hF.sub _ (by repeat' constructor),?_⟩
    exact hM
  clear hF hM;rintro gj a w' ⟨hgj,hinv1,hF,hM⟩;have hca:=cntA_le (p:=p) (n:=n) (g:=gj) (T:=T);refine sr<|st hF (g_lss hF rfl rfl) rfl fun a hF=>nt<|sq<|c_cond hF rfl (fun h2=>?_) (fun h2=>?_)
  · refine wp_skip ?_
    refine tN<|sq<|wp_block<|sr<|mv hF rfl rfl fun a hF=>ag hF rfl rfl fun a hF=>nt<|sq<|sr<|st hF (g_fieldAddr ty_fo_39_1 hF rfl) rfl fun a hF=>st hF (g_load ty_on_2 hF rfl (hM.row 0 rfl) (algC_n (by omega))) rfl fun a hF=>mv hF rfl rfl fun a hF=>nt<|wp_block ?_;change Mem w _ [some (b1,algC (p:Int) (n:Int) T f),none,none] [] at hM;refine c_loop (fun (kk:Nat) a w'=>kk≤n∧(∀ i,i<kk→∀ k,k<n→asT p n T i gj k)∧Fr 56 a [(1,ptr b1 (0)),(2,.bool (false)),(10,.int .i64 (n:Int)),(11,.int .i64 (gj:Int)),(3,.int .i64 ((cntA p n T gj:Int))),(12,.bool (decide (((gj:Int):Int)<(n:Int)))),(13,.int .i64 (gj:Int)),(4,.int .i64 (gj:Int)),(14,ptr b1 (0+1)),(15,.int .i64 (n:Int)),(16,.int .i64 (kk:Int))]∧Mem w w' [some (b1,algC (p:Int) (n:Int) T f),none,none] []) (fun kk=>n - kk) 0 ?_ ?_
    · refine ⟨by omega,fun i hi=>absurd hi (by omega),hF.sub _ (by repeat' constructor),?_⟩
      exact hM
    clear hF hM;rintro gi a w' ⟨hgi,hinv2,hF,hM⟩;refine sr<|st hF (g_lss hF rfl rfl) rfl fun a hF=>nt<|sq<|c_cond hF rfl (fun h3=>?_) (fun h3=>?_)
    · refine wp_skip ?_
      refine tN<|sq<|wp_block<|sr<|mv hF rfl rfl fun a hF=>ag hF rfl rfl fun a hF=>ns<|st hF (g_fieldAddr ty_fo_39_1 hF rfl) rfl fun a hF=>st hF (g_load ty_on_2 hF rfl (hM.row 0 rfl) (algC_n (by omega))) rfl fun a hF=>mv hF rfl rfl fun a hF=>nt<|wp_block ?_;change Mem w _ [some (b1,algC (p:Int) (n:Int) T f),none,none] [] at hM;refine c_loop (fun (kk:Nat) a w'=>kk≤n∧(∀ k,k<kk→asT p n T gi gj k)∧Fr 56 a [(1,ptr b1 (0)),(2,.bool (false)),(10,.int .i64 (n:Int)),(11,.int .i64 (gj:Int)),(3,.int .i64 ((cntA p n T gj:Int))),(12,.bool (decide (((gj:Int):Int)<(n:Int)))),(13,.int .i64 (gj:Int)),(4,.int .i64 (gj:Int)),(14,ptr b1 (0+1)),(15,.int .i64 (n:Int)),(16,.int .i64 (gi:Int)),(17,.bool (decide (((gi:Int):Int)<(n:Int)))),(18,.int .i64 (gi:Int)),(5,.int .i64 (gi:Int)),(19,ptr b1 (0+1)),(20,.int .i64 (n:Int)),(21,.int .i64 (kk:Int))]∧Mem w w' [some (b1,algC (p:Int) (n:Int) T f),none,none] []) (fun kk=>n - kk) 0 ?_ ?_
      · refine ⟨by omega,fun i hi=>absurd hi (by omega),hF.sub _ (by repeat' constructor),?_⟩
        exact hM
      clear hF hM;rintro gk a w' ⟨hgk,hinv3,hF,hM⟩;refine sr<|st hF (g_lss hF rfl rfl) rfl fun a hF=>nt<|sq<|c_cond hF rfl (fun h4=>?_) (fun h4=>?_)
      · refine wp_skip ?_
        refine tN<|sq<|wp_block<|sr<|mv hF rfl rfl fun a hF=>ag hF rfl rfl fun a hF=>nt<|sq<|c_par 11 [1] [.val (.agg (algC (p:Int) (n:Int) T f)),.val (.int .i64 (gi:Int)),.val (.int .i64 (gj:Int)),.val (ptr b1 (0+2)),.val (ptr b1 (0+2+(gi)*36)),.val (ptr b1 (0+2+(gi)*36+(gj)*6)),.val (.agg (vecC (T (gi) (gj)))),.val (.int .i64 (gk:Int)),.val (.agg (vecC (fun c=>if c=gk then 1 else 0))),.val (.agg (vecC (timesV p n T ((T (gi) (gj))) ((fun c=>if c=gk then 1 else 0))))),.own 1 (fnC 6 (fun _=>.int .u8 (0))) (fun b=>ptr b 0)] hmix rfl hF rfl hM ⟨fun a w gG hF hS hd=>by have hM:=hS.mem rfl;exact par_val hS rfl (g_loadAgg ty_ag_39 hF rfl (hM.row 0 rfl) (by simp only [sz0]<;>omega) (whole cells_size)),fun a w gG hF hS hd=>by exact pmv hS rfl hF rfl,fun a w gG hF hS hd=>by exact pmv hS rfl hF rfl,fun a w gG hF hS hd=>by exact par_val hS rfl (g_fieldAddr ty_fo_39_2 hF rfl),fun a w gG hF hS hd=>by have hF:=hF.ext1 25 (hd 1 rfl rfl);have hF:=hF.ext1 27 (hd 3 rfl rfl);exact par_val hS rfl (g_indexAddr ty_ar_36 hF rfl rfl rfl (by omega)),fun a w gG hF hS hd=>by have hF:=hF.ext1 26 (hd 2 rfl rfl);have hF:=hF.ext1 28 (hd 4 rfl rfl);exact par_val hS rfl (g_indexAddr ty_ar_25 hF rfl rfl rfl (by omega)),fun a w gG hF hS hd=>by have hF:=hF.ext1 29 (hd 5 rfl rfl);have hM:=hS.mem rfl;exact par_val hS rfl (g_loadAgg ty_ag_24 hF rfl (hM.row 0 rfl) (by simp only [sz0]<;>omega) (algC_row (gi) (gj) (by omega) (by omega) (by omega) (by omega))),fun a w gG hF hS hd=>by exact pmv hS rfl hF rfl,fun a w gG hF hS hd=>by have hF:=hF.ext1 31 (hd 7 rfl rfl);exact par_call (by repeat constructor) hS rfl (d_call Try.call56 hF (.cons rfl .nil) (basisVector_ok (gk) _ (by omega))),fun a w gG hF hS hd=>by have hF:=hF.ext1 24 (hd 0 rfl rfl);have hF:=hF.ext1 30 (hd 6 rfl rfl);have hF:=hF.ext1 32 (hd 8 rfl rfl);exact par_call (by repeat constructor) hS rfl (d_call Try.call26 hF (.cons rfl (.cons rfl (.cons rfl .nil))) (product_ok p n T f ((T (gi) (gj))) ((fun c=>if c=gk then 1 else 0)) _ (by omega) (by omega) (by omega) (fun _ _ _=>hT _ _ _) (fun _=>by first | exact hv _ | exact hu _ | exact hT _ _ _ | exact hf _ | omega | (split<;>omega) | (dsimp only;split<;>omega) | assumption) (fun _=>by first | exact hv _ | exact hu _ | exact hT _ _ _ | exact hf _ | omega | (split<;>omega) | (dsimp only;split<;>omega) | assumption))),fun a w gG hF hS hd=>by exact par_own (by repeat constructor) hS rfl rfl rfl rfl (d_alloc 1 hS.1 ty_ze_37),trivial⟩ ?_;intro a w' L hF hS hq;have hF:=hF.ext1 24 (hq 0 rfl rfl);have hF:=hF.ext1 25 (hq 1 rfl rfl);have hF:=hF.ext1 26 (hq 2 rfl rfl);have hF:=hF.ext1 27 (hq 3 rfl rfl);have hF:=hF.ext1 28 (hq 4 rfl rfl);have hF:=hF.ext1 29 (hq 5 rfl rfl);have hF:=hF.ext1 30 (hq 6 rfl rfl);have hF:=hF.ext1 31 (hq 7 rfl rfl);have hF:=hF.ext1 32 (hq 8 rfl rfl);have hF:=hF.ext1 33 (hq 9 rfl rfl);obtain ⟨hM,hL⟩:=hS;obtain ⟨b5,hptr,hkk⟩:=hq 10 rfl rfl;have hF:=hF.ext1 7 hptr;have hL:=hL.take hkk;obtain rfl:=hL.eq;change Mem w w' [some (b1,algC (p:Int) (n:Int) T f),some (b5,fnC 6 (fun _=>.int .u8 (0))),none] [] at hM;change wpList Try.prog _ _ [_] _ _;refine stN hF (d_storeAgg 1 hM rfl ty_sz_37 hF rfl rfl (by first | exact vecC_one | exact cells_one | (refine fnC_one fun _ _=>?_;first | rfl | (split<;>rfl))) (by simp only [sz0]) (by simp only [sz0]<;>omega) (splice_whole _ _ (by simp only [sz0]))) ?_;intro _ w' a hM hF;change Mem w w' [some (b1,algC (p:Int) (n:Int) T f),some (b5,vecC (timesV p n T ((T (gi) (gj))) ((fun c=>if c=gk then 1 else 0)))),none] [] at hM;refine nt<|sq<|c_par 11 [2] [.val (.agg (algC (p:Int) (n:Int) T f)),.val (.int .i64 (gi:Int)),.val (.agg (vecC (fun c=>if c=gi then 1 else 0))),.val (.int .i64 (gj:Int)),.val (.int .i64 (gk:Int)),.val (ptr b1 (0+2)),.val (ptr b1 (0+2+(gj)*36)),.val (ptr b1 (0+2+(gj)*36+(gk)*6)),.val (.agg (vecC (T (gj) (gk)))),.val (.agg (vecC (timesV p n T ((fun c=>if c=gi then 1 else 0)) ((T (gj) (gk)))))),.own 2 (fnC 6 (fun _=>.int .u8 (0))) (fun b=>ptr b 0)] hmix rfl hF rfl hM ⟨fun a w gG hF hS hd=>by have hM:=hS.mem rfl;exact par_val hS rfl (g_loadAgg ty_ag_39 hF rfl (hM.row 0 rfl) (by simp only [sz0]<;>omega) (whole cells_size)),fun a w gG hF hS hd=>by exact pmv hS rfl hF rfl,fun a w gG hF hS hd=>by have hF:=hF.ext1 35 (hd 1 rfl rfl);exact par_call (by repeat constructor) hS rfl (d_call Try.call56 hF (.cons rfl .nil) (basisVector_ok (gi) _ (by omega))),fun a w gG hF hS hd=>by exact pmv hS rfl hF rfl,fun a w gG hF hS hd=>by exact pmv hS rfl hF rfl,fun a w gG hF hS hd=>by exact par_val hS rfl (g_fieldAddr ty_fo_39_2 hF rfl),fun a w gG hF hS hd=>by have hF:=hF.ext1 37 (hd 3 rfl rfl);have hF:=hF.ext1 39 (hd 5 rfl rfl);exact par_val hS rfl (g_indexAddr ty_ar_36 hF rfl rfl rfl (by omega)),fun a w gG hF hS hd=>by have hF:=hF.ext1 38 (hd 4 rfl rfl);have hF:=hF.ext1 40 (hd 6 rfl rfl);exact par_val hS rfl (g_indexAddr ty_ar_25 hF rfl rfl rfl (by omega)),fun a w gG hF hS hd=>by have hF:=hF.ext1 41 (hd 7 rfl rfl);have hM:=hS.mem rfl;exact par_val hS rfl (g_loadAgg ty_ag_24 hF rfl (hM.row 0 rfl) (by simp only [sz0]<;>omega) (algC_row (gj) (gk) (by omega) (by omega) (by omega) (by omega))),fun a w gG hF hS hd=>by have hF:=hF.ext1 34 (hd 0 rfl rfl);have hF:=hF.ext1 36 (hd 2 rfl rfl);have hF:=hF.ext1 42 (hd 8 rfl rfl);exact par_call (by repeat constructor) hS rfl (d_call Try.call26 hF (.cons rfl (.cons rfl (.cons rfl .nil))) (product_ok p n T f ((fun c=>if c=gi then 1 else 0)) ((T (gj) (gk))) _ (by omega) (by omega) (by omega) (fun _ _ _=>hT _ _ _) (fun _=>by first | exact hv _ | exact hu _ | exact hT _ _ _ | exact hf _ | omega | (split<;>omega) | (dsimp only;split<;>omega) | assumption) (fun _=>by first | exact hv _ | exact hu _ | exact hT _ _ _ | exact hf _ | omega | (split<;>omega) | (dsimp only;split<;>omega) | assumption))),fun a w gG hF hS hd=>by exact par_own (by repeat constructor) hS rfl rfl rfl rfl (d_alloc 2 hS.1 ty_ze_37),trivial⟩ ?_
        intro a w' L hF hS hq;have hF:=hF.ext1 34 (hq 0 rfl rfl);have hF:=hF.ext1 35 (hq 1 rfl rfl);have hF:=hF.ext1 36 (hq 2 rfl rfl);have hF:=hF.ext1 37 (hq 3 rfl rfl);have hF:=hF.ext1 38 (hq 4 rfl rfl);have hF:=hF.ext1 39 (hq 5 rfl rfl);have hF:=hF.ext1 40 (hq 6 rfl rfl);have hF:=hF.ext1 41 (hq 7 rfl rfl);have hF:=hF.ext1 42 (hq 8 rfl rfl);have hF:=hF.ext1 43 (hq 9 rfl rfl);obtain ⟨hM,hL⟩:=hS;obtain ⟨b6,hptr,hkk⟩:=hq 10 rfl rfl;have hF:=hF.ext1 8 hptr;have hL:=hL.take hkk;obtain rfl:=hL.eq;change Mem w w' [some (b1,algC (p:Int) (n:Int) T f),some (b5,vecC (timesV p n T ((T (gi) (gj))) ((fun c=>if c=gk then 1 else 0)))),some (b6,fnC 6 (fun _=>.int .u8 (0)))] [] at hM;change wpList Try.prog _ _ [_] _ _;refine stN hF (d_storeAgg 2 hM rfl ty_sz_37 hF rfl rfl (by first | exact vecC_one | exact cells_one | (refine fnC_one fun _ _=>?_;first | rfl | (split<;>rfl))) (by simp only [sz0]) (by simp only [sz0]<;>omega) (splice_whole _ _ (by simp only [sz0]))) ?_;intro _ w' a hM hF;change Mem w w' [some (b1,algC (p:Int) (n:Int) T f),some (b5,vecC (timesV p n T ((T (gi) (gj))) ((fun c=>if c=gk then 1 else 0)))),some (b6,vecC (timesV p n T ((fun c=>if c=gi then 1 else 0)) ((T (gj) (gk)))))] [] at hM;refine ns<|st hF (g_loadAgg ty_ag_37 hF rfl (hM.row 1 rfl) (by simp only [sz0]<;>omega) (whole (by simp only [sz0]))) rfl fun a hF=>st hF (g_loadAgg ty_ag_37 hF rfl (hM.row 2 rfl) (by simp only [sz0]<;>omega) (whole (by simp only [sz0]))) rfl fun a hF=>st hF (g_neqA ty_eg_37 hF rfl rfl (eqAt_vec ty_ae_37 ty_ip_5 ty_on_5)) rfl fun a hF=>nt<|c_cond hF rfl (fun h7=>?_) (fun h7=>?_)
        · refine wp_exit ?_
          refine ib_other rfl<|tX<|tX<|ib_other rfl<|ib_other rfl<|tX<|tX<|ib_other rfl<|tX<|ib_same<|tN<|wp_region_lit<|st hF (g_add hF rfl rfl (add_nat (gj) (1) (by omega))) rfl fun a hF=>mv hF rfl rfl fun a hF=>wpList_nil<|tN ?_;have hM:=hM.drop 1;have hM:=hM.drop 2;have ea:=cntA_no (p:=p) (n:=n) (g:=gj) (T:=T) gi gk (by omega) (by omega) (by assumption);rw [ea] at hF;refine ⟨gj+1,⟨by omega,trivial,hF.sub _ (by repeat' constructor),?_⟩,by omega⟩;exact hM
        refine wp_skip<|iN<|tN<|wp_region_lit<|st hF (g_add hF rfl rfl (add_nat (gk) (1) (by omega))) rfl fun a hF=>mv hF rfl rfl fun a hF=>wpList_nil<|tN ?_;have hM:=hM.drop 1;have hM:=hM.drop 2;refine ⟨gk+1,⟨by omega,allS hinv3 (Decidable.not_not.1 (by assumption)),hF.sub _ (by repeat' constructor),?_⟩,by omega⟩;exact hM
      obtain rfl:n=gk:=by omega
      refine wp_exit<|tX<|tX<|ib_same<|iN<|tN<|wp_region_lit<|st hF (g_add hF rfl rfl (add_nat (gi) (1) (by omega))) rfl fun a hF=>mv hF rfl rfl fun a hF=>nt<|⟨gi+1,⟨by omega,allS hinv2 hinv3,hF.sub _ (by repeat' constructor),?_⟩,by omega⟩;exact hM
    obtain rfl:n=gi:=by omega
    refine wp_exit<|tX<|tX<|ib_same<|tN<|wp_region_lit<|mv hF rfl rfl fun a hF=>st hF (g_add hF rfl rfl (show _=(cntA p n T (gj+1):Int) from (add_then (x:=cntA p n T gj) (y:=1) (by omega) (cntA_yes hinv2)))) rfl fun a hF=>ag hF rfl rfl fun a hF=>wpList_nil<|iN<|tN<|wp_region_lit<|st hF (g_add hF rfl rfl (add_nat (gj) (1) (by omega))) rfl fun a hF=>mv hF rfl rfl fun a hF=>nt<|⟨gj+1,⟨by omega,trivial,hF.sub _ (by repeat' constructor),?_⟩,by omega⟩;exact hM
  obtain rfl:n=gj:=by omega
  refine wp_exit<|tX<|tX<|ib_same<|tN<|sr<|mv hF rfl rfl fun a hF=>st hF (g_fieldAddr ty_fo_39_1 hF rfl) rfl fun a hF=>st hF (g_load ty_on_2 hF rfl (hM.row 0 rfl) (algC_n (by omega))) rfl fun a hF=>st hF (g_eql hF rfl rfl) rfl fun a hF=>ag hF rfl rfl fun a hF=>nt<|wp_ret<|sR<|fin1 rfl hF.defers (res_tmp hF rfl) ⟨_,rfl,hM.below,?_⟩
  show _=_
  exact congrArg Value.bool (decide_eq_decide.2 cntA_all)
theorem leadingPlace_ok (b o c m:Nat)(cs:Array Value)(f:Nat→Nat)(w:World)(hb:Blk w b cs)(hg:∀ i,i<m→cs[o+i*1]? = some (.int .u8 ((f i:Int))))(hm:m<1000) :
    CallsR Try.prog 71 #[.slice (some ⟨b,o,none⟩) m c] w (fun res _=>res = .int .i64 (leadN (fun i=>(f i:Int)) m:Int)):=by
  refine calls_fr [.slice (some ⟨b,o,none⟩) m c] Try.func71 rfl Try.ntmps71 rfl fun a hF=>?_;have hM:Mem w w [] [(b,cs)]:=MemX.startD w 0 _ (startD1 hb);change Fr 18 a [(0,.slice (some ⟨b,o,none⟩) m c)] at hF;refine sr<|ag hF rfl rfl fun a hF=>nt<|sq<|sr<|mv hF rfl rfl fun a hF=>st hF (g_len ty_us_22 hF rfl) rfl fun a hF=>mv hF rfl rfl fun a hF=>nt<|wp_block ?_;change Mem w _ [] [(b,cs)] at hM;refine c_loop (fun (kk:Nat) a w'=>kk≤m∧(∀ i,i<kk→f i=0)∧Fr 18 a [(0,.slice (some ⟨b,o,none⟩) m c),(5,.slice (some ⟨b,o,none⟩) m c),(6,.int .i64 (m:Int)),(7,.int .i64 (kk:Int))]∧Mem w w' [] [(b,cs)]) (fun kk=>m - kk) 0 ?_ ?_
  · refine ⟨by omega,fun i hi=>absurd hi (by omega),hF.sub _ (by repeat' constructor),?_⟩
    exact hM
  clear hF hM;rintro gk a w' ⟨hgk,hinv1,hF,hM⟩;refine sr<|st hF (g_lss hF rfl rfl) rfl fun a hF=>nt<|sq<|c_cond hF rfl (fun h1=>?_) (fun h1=>?_)
  · refine wp_skip ?_
    refine tN<|sq<|wp_block<|sr<|mv hF rfl rfl fun a hF=>st hF (g_indexSl (i:=gk) ty_sl_22 hF rfl rfl rfl (by omega)) rfl fun a hF=>st hF (g_load ty_on_5 hF rfl (hM.fz 0 rfl) (hg (gk) (by omega))) rfl fun a hF=>ag hF rfl rfl fun a hF=>ag hF rfl rfl fun a hF=>ns<|mv hF rfl rfl fun a hF=>st hF (g_neq hF rfl rfl) rfl fun a hF=>nt<|c_cond hF rfl (fun h2=>?_) (fun h2=>?_)
    · refine sq ?_
      refine wp_region_lit<|mv hF rfl rfl fun a hF=>ag hF rfl rfl fun a hF=>nt<|wp_ret<|iR<|tR<|tR<|iR<|tR<|fin1 rfl hF.defers (res_tmp hF rfl) ⟨_,rfl,hM.below,?_⟩
      show _=_
      rw [leadN_some (k:=gk) (by omega) (fun i hi=>by have:=hinv1 i hi;omega) (by omega)]
    refine wp_skip<|iN<|tN<|wp_region_lit<|st hF (g_add hF rfl rfl (add_nat (gk) (1) (by omega))) rfl fun a hF=>mv hF rfl rfl fun a hF=>nt<|⟨gk+1,⟨by omega,allS hinv1 (by omega),hF.sub _ (by repeat' constructor),?_⟩,by omega⟩;exact hM
  obtain rfl:m=gk:=by omega
  refine wp_exit<|tX<|tX<|ib_same<|tN<|sr<|mv hF rfl rfl fun a hF=>st hF (g_len ty_us_22 hF rfl) rfl fun a hF=>ag hF rfl rfl fun a hF=>nt<|wp_ret<|fin1 rfl hF.defers (res_tmp hF rfl) ⟨_,rfl,hM.below,?_⟩
  show _=_
  rw [leadN_none (fun i hi=>by have:=hinv1 i hi;omega)]
def lessN (p:Nat) (f h:Nat→Nat) (x i:Nat):Int:=((f i:Int) - (x:Int)*(h i:Int))%(p:Int)
theorem rnd {P:Program}{c:Code}{Q:Exit→Act→World→Prop}{n:Nat}{a:Act}{w:World}(h:c.wp P (Exit.then (Code.rounds P c Q n) Q) a w):Code.rounds P c Q (n+1) a w:=h
def addN (p:Nat) (f h:Nat→Nat) (x:Int) (i:Nat):Nat:=(((f i:Int)+x*(h i:Int))%(p:Int)).toNat
theorem addN_int {p:Nat}{f h:Nat→Nat}{x:Int}{i:Nat}(hp:0<p):(addN p f h x i:Int)=((f i:Int)+x*(h i:Int))%(p:Int):=
  Int.toNat_of_nonneg (Int.emod_nonneg _ (by omega))
theorem mulB {x:Int}{y:Nat}(h1:-100<x)(h2:x<100)(hy:y≤255):-25500≤x*(y:Int)∧x*(y:Int)≤25500:=by
  have a1:=Int.mul_le_mul_of_nonneg_right (show x≤99 by omega) (Int.natCast_nonneg y);have a2:=Int.mul_le_mul_of_nonneg_right (show -99≤x by omega) (Int.natCast_nonneg y)
  omega
theorem getRow {m gk:Nat}{F G:Nat→Nat}(i:Nat)(hi:gk≤i∧i<m):(fnC m (fun c=>.int .u8 ((if c<gk then G c else F c:Nat):Int)))[0+i*1]? = some (.int .u8 (F i:Int)):=
  fnC_getE i (by omega) hi.2 (by rw [if_neg (by omega)])
theorem addRowSelf_ok (p b c m:Nat)(f:Nat→Nat)(x:Int)(w:World)(hp:0<p)(hp2:p<100)(hx:-100<x)(hx2:x<100)(hm:m<1000)(hf:∀ i,f i≤255)(hb:Blk w b (fnC m (fun c=>.int .u8 (f c:Int)))) :
    CallsX Try.prog [b] 72 #[.slice (some ⟨b,0,none⟩) m c,.slice (some ⟨b,0,none⟩) m c,.int .i64 (x),.int .i64 (p:Int)] w (fun v w'=>v = .tuple #[]∧Blk w' b (fnC m (fun c=>.int .u8 (addN p f f x c:Int)))):=by
  refine calls_frX [.slice (some ⟨b,0,none⟩) m c,.slice (some ⟨b,0,none⟩) m c,.int .i64 (x),.int .i64 (p:Int)] Try.func72 rfl Try.ntmps72 rfl fun a hF=>?_;have hM:MemX [b] w w [some (b,fnC m (fun c=>.int .u8 (f c:Int)))] []:=MemX.startX1 0 hb;change Fr 33 a [(0,.slice (some ⟨b,0,none⟩) m c),(1,.slice (some ⟨b,0,none⟩) m c),(2,.int .i64 (x)),(3,.int .i64 (p:Int))] at hF;refine sr<|mv hF rfl rfl fun a hF=>st hF (g_len ty_us_22 hF rfl) rfl fun a hF=>mv hF rfl rfl fun a hF=>nt<|wp_block ?_;change MemX [b] w _ [some (b,fnC m (fun c=>.int .u8 (f c:Int)))] [] at hM;refine c_loop (fun (kk:Nat) a w'=>kk≤m∧(True)∧Fr 33 a [(0,.slice (some ⟨b,0,none⟩) m c),(2,.int .i64 (x)),(3,.int .i64 (p:Int)),(10,.slice (some ⟨b,0,none⟩) m c),(11,.int .i64 (m:Int)),(12,.int .i64 (kk:Int))]∧MemX [b] w w' [some (b,fnC m (fun c=>.int .u8 ((if c<kk then addN p f f x c else f c:Nat):Int)))] []) (fun kk=>m - kk) 0 ?_ ?_
  · refine ⟨by omega,trivial,hF.sub _ (by repeat' constructor),?_⟩
    exact hM.cast (by simp)
  clear hF hM;rintro gk a w' ⟨hgk,hinv1,hF,hM⟩;have hfk:=hf gk;have hhk:=hf gk;have hxh:=mulB hx hx2 (hf gk);refine sr<|st hF (g_lss hF rfl rfl) rfl fun a hF=>nt<|sq<|c_cond hF rfl (fun h1=>?_) (fun h1=>?_)
  · refine wp_skip ?_
    refine tN<|sq<|wp_block<|sr<|mv hF rfl rfl fun a hF=>st hF (g_indexSl (i:=gk) ty_sl_22 hF rfl rfl rfl (by omega)) rfl fun a hF=>st hF (g_load ty_on_5 hF rfl (hM.row 0 rfl) (getRow (gk) (by omega))) rfl fun a hF=>ag hF rfl rfl fun a hF=>ag hF rfl rfl fun a hF=>nt<|wp_region_lit<|mv hF rfl rfl fun a hF=>mv hF rfl rfl fun a hF=>mv hF rfl rfl fun a hF=>mv hF rfl rfl fun a hF=>st hF (g_indexSl (i:=gk) ty_sl_22 hF rfl rfl rfl (by omega)) rfl fun a hF=>st hF (g_load ty_on_5 hF rfl (hM.row 0 rfl) (getRow (gk) (by omega))) rfl fun a hF=>st hF (g_conv ty_un_2 ty_ud_5 hF rfl (wrap_i64 (by omega) (by omega))) rfl fun a hF=>mv hF rfl rfl fun a hF=>mv hF rfl rfl fun a hF=>st hF (g_conv ty_un_2 ty_ud_5 hF rfl (wrap_i64 (by omega) (by omega))) rfl fun a hF=>st hF (g_mul hF rfl rfl (wrap_i64 (by omega) (by omega))) rfl fun a hF=>st hF (g_add hF rfl rfl (wrap_i64 (by omega) (by omega))) rfl fun a hF=>mv hF rfl rfl fun a hF=>stR hF (d_call Try.call46 hF (.cons rfl (.cons rfl .nil)) (residue_ok ((f (gk):Int)+(x)*((f (gk):Int))) (p) _ (by omega) (by omega) (by omega) (by omega))) rfl ?_;rintro _ w' a ⟨hx,rfl⟩ hF;have hM:=hM.ext hx;refine st hF (g_indexSl (i:=gk) ty_sl_22 hF rfl rfl rfl (by omega)) rfl fun a hF=>stN hF (d_store 0 hM rfl ty_on_5 hF rfl rfl rfl (by first | omega | (simp only [sz0]<;>omega) | (simp only [Array.size_setIfInBounds];omega) | simp)) ?_;intro _ w' a hM hF;rw [show (fnC m (fun c=>.int .u8 ((if c<gk then addN p f f x c else f c:Nat):Int))).setIfInBounds (0+(gk)*1) (.int .u8 (((f (gk):Int)+(x)*((f (gk):Int)))%(p:Int)))=fnC m (fun c=>if c=gk then .int .u8 (((f (gk):Int)+(x)*((f (gk):Int)))%(p:Int)) else .int .u8 ((if c<gk then addN p f f x c else f c:Nat):Int)) from fnC_set (fun c _=>by rw [show 0+(gk)*1=gk by omega])] at hM;change MemX [b] w w' [some (b,fnC m (fun c=>if c=gk then .int .u8 (((f (gk):Int)+(x)*((f (gk):Int)))%(p:Int)) else .int .u8 ((if c<gk then addN p f f x c else f c:Nat):Int)))] [] at hM;refine wpList_nil<|iN<|tN<|wp_region_lit<|st hF (g_add hF rfl rfl (add_nat (gk) (1) (by omega))) rfl fun a hF=>mv hF rfl rfl fun a hF=>nt<|⟨gk+1,⟨by omega,trivial,hF.sub _ (by repeat' constructor),?_⟩,by omega⟩;refine hM.rowc 0 rfl (fnC_congr fun c hc=>?_)
    by_cases e1:c=gk
    · subst e1;rw [if_pos rfl,if_pos (by omega)];exact congrArg (Value.int .u8) (addN_int hp).symm
    · have e0:(c<gk+1)=(c<gk):=by apply propext;omega
      simp [e0,e1]
  obtain rfl:m=gk:=by omega
  refine wp_exit<|tX<|tX<|ib_same<|fin0n rfl hF.defers ⟨_,rfl,hM.bel,?_⟩;exact ⟨rfl,(hM.rowc (cs':=fnC m (fun c=>.int .u8 (addN p f f x c:Int))) 0 rfl (fnC_congr fun c hc=>by simp [hc])).row 0 rfl⟩
theorem addRow_ok (p b c b2 o2 c2 m:Nat)(cs2:Array Value)(f h:Nat→Nat)(x:Int)(w:World)(hp:0<p)(hp2:p<100)(hx:-100<x)(hx2:x<100)(hm:m<1000)(hf:∀ i,f i≤255)(hb:Blk w b (fnC m (fun c=>.int .u8 (f c:Int))))(hh:∀ i,h i≤255)(hne:b2≠b)(hb2:Blk w b2 cs2)(hg2:∀ i,i<m→cs2[o2+i*1]? = some (.int .u8 (h i:Int))) :
    CallsX Try.prog [b] 72 #[.slice (some ⟨b,0,none⟩) m c,.slice (some ⟨b2,o2,none⟩) m c2,.int .i64 (x),.int .i64 (p:Int)] w (fun v w'=>v = .tuple #[]∧Blk w' b (fnC m (fun c=>.int .u8 (addN p f h x c:Int)))):=by
  refine calls_frX [.slice (some ⟨b,0,none⟩) m c,.slice (some ⟨b2,o2,none⟩) m c2,.int .i64 (x),.int .i64 (p:Int)] Try.func72 rfl Try.ntmps72 rfl fun a hF=>?_;have hM:MemX [b] w w [some (b,fnC m (fun c=>.int .u8 (f c:Int)))] [(b2,cs2)]:=MemX.startX1D 0 hb (startXD1 hb2 hne);change Fr 33 a [(0,.slice (some ⟨b,0,none⟩) m c),(1,.slice (some ⟨b2,o2,none⟩) m c2),(2,.int .i64 (x)),(3,.int .i64 (p:Int))] at hF;refine sr<|mv hF rfl rfl fun a hF=>st hF (g_len ty_us_22 hF rfl) rfl fun a hF=>mv hF rfl rfl fun a hF=>nt<|wp_block ?_;change MemX [b] w _ [some (b,fnC m (fun c=>.int .u8 (f c:Int)))] [(b2,cs2)] at hM;refine c_loop (fun (kk:Nat) a w'=>kk≤m∧(True)∧Fr 33 a [(0,.slice (some ⟨b,0,none⟩) m c),(2,.int .i64 (x)),(3,.int .i64 (p:Int)),(10,.slice (some ⟨b2,o2,none⟩) m c2),(11,.int .i64 (m:Int)),(12,.int .i64 (kk:Int))]∧MemX [b] w w' [some (b,fnC m (fun c=>.int .u8 ((if c<kk then addN p f h x c else f c:Nat):Int)))] [(b2,cs2)]) (fun kk=>m - kk) 0 ?_ ?_
  · refine ⟨by omega,trivial,hF.sub _ (by repeat' constructor),?_⟩
    exact hM.cast (by simp)
  clear hF hM;rintro gk a w' ⟨hgk,hinv1,hF,hM⟩;have hfk:=hf gk;have hhk:=hh gk;have hxh:=mulB hx hx2 (hh gk);refine sr<|st hF (g_lss hF rfl rfl) rfl fun a hF=>nt<|sq<|c_cond hF rfl (fun h1=>?_) (fun h1=>?_)
  · refine wp_skip ?_
    refine tN<|sq<|wp_block<|sr<|mv hF rfl rfl fun a hF=>st hF (g_indexSl (i:=gk) ty_sl_22 hF rfl rfl rfl (by omega)) rfl fun a hF=>st hF (g_load ty_on_5 hF rfl (hM.fz 0 rfl) (hg2 (gk) (by omega))) rfl fun a hF=>ag hF rfl rfl fun a hF=>ag hF rfl rfl fun a hF=>nt<|wp_region_lit<|mv hF rfl rfl fun a hF=>mv hF rfl rfl fun a hF=>mv hF rfl rfl fun a hF=>mv hF rfl rfl fun a hF=>st hF (g_indexSl (i:=gk) ty_sl_22 hF rfl rfl rfl (by omega)) rfl fun a hF=>st hF (g_load ty_on_5 hF rfl (hM.row 0 rfl) (getRow (gk) (by omega))) rfl fun a hF=>st hF (g_conv ty_un_2 ty_ud_5 hF rfl (wrap_i64 (by omega) (by omega))) rfl fun a hF=>mv hF rfl rfl fun a hF=>mv hF rfl rfl fun a hF=>st hF (g_conv ty_un_2 ty_ud_5 hF rfl (wrap_i64 (by omega) (by omega))) rfl fun a hF=>st hF (g_mul hF rfl rfl (wrap_i64 (by omega) (by omega))) rfl fun a hF=>st hF (g_add hF rfl rfl (wrap_i64 (by omega) (by omega))) rfl fun a hF=>mv hF rfl rfl fun a hF=>stR hF (d_call Try.call46 hF (.cons rfl (.cons rfl .nil)) (residue_ok ((f (gk):Int)+(x)*((h (gk):Int))) (p) _ (by omega) (by omega) (by omega) (by omega))) rfl ?_;rintro _ w' a ⟨hx,rfl⟩ hF;have hM:=hM.ext hx;refine st hF (g_indexSl (i:=gk) ty_sl_22 hF rfl rfl rfl (by omega)) rfl fun a hF=>stN hF (d_store 0 hM rfl ty_on_5 hF rfl rfl rfl (by first | omega | (simp only [sz0]<;>omega) | (simp only [Array.size_setIfInBounds];omega) | simp)) ?_;intro _ w' a hM hF;rw [show (fnC m (fun c=>.int .u8 ((if c<gk then addN p f h x c else f c:Nat):Int))).setIfInBounds (0+(gk)*1) (.int .u8 (((f (gk):Int)+(x)*((h (gk):Int)))%(p:Int)))=fnC m (fun c=>if c=gk then .int .u8 (((f (gk):Int)+(x)*((h (gk):Int)))%(p:Int)) else .int .u8 ((if c<gk then addN p f h x c else f c:Nat):Int)) from fnC_set (fun c _=>by rw [show 0+(gk)*1=gk by omega])] at hM;change MemX [b] w w' [some (b,fnC m (fun c=>if c=gk then .int .u8 (((f (gk):Int)+(x)*((h (gk):Int)))%(p:Int)) else .int .u8 ((if c<gk then addN p f h x c else f c:Nat):Int)))] [(b2,cs2)] at hM;refine wpList_nil<|iN<|tN<|wp_region_lit<|st hF (g_add hF rfl rfl (add_nat (gk) (1) (by omega))) rfl fun a hF=>mv hF rfl rfl fun a hF=>nt<|⟨gk+1,⟨by omega,trivial,hF.sub _ (by repeat' constructor),?_⟩,by omega⟩;refine hM.rowc 0 rfl (fnC_congr fun c hc=>?_)
    by_cases e1:c=gk
    · subst e1;rw [if_pos rfl,if_pos (by omega)];exact congrArg (Value.int .u8) (addN_int hp).symm
    · have e0:(c<gk+1)=(c<gk):=by apply propext;omega
      simp [e0,e1]
  obtain rfl:m=gk:=by omega
  refine wp_exit<|tX<|tX<|ib_same<|fin0n rfl hF.defers ⟨_,rfl,hM.bel,?_⟩;exact ⟨rfl,(hM.rowc (cs':=fnC m (fun c=>.int .u8 (addN p f h x c:Int))) 0 rfl (fnC_congr fun c hc=>by simp [hc])).row 0 rfl⟩
def eqM (M N:Nat→Nat→Nat):Prop:=∀ j,j<6→eqV 6 (M j) (N j)
instance (M N:Nat→Nat→Nat):Decidable (eqM M N):=Nat.decidableBallLT 6 _
def eqT (T U:Nat→Nat→Nat→Nat):Prop:=∀ i,i<6→eqM (T i) (U i)
instance (T U:Nat→Nat→Nat→Nat):Decidable (eqT T U):=Nat.decidableBallLT 6 _
def addM (p:Nat) (v u:Nat→Nat) (x i:Nat):Nat:=(v i+x*u i)%p
end Go.Proofs.Ytklpefdaplchbaa
