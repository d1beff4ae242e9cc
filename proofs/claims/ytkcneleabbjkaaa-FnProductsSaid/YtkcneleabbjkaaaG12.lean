import Derived.Test.YtkcneleabbjkaaaSw14
import Derived.Test.YtkcneleabbjkaaaChecked
set_option linter.unusedVariables false
set_option linter.unusedSimpArgs false
namespace Go.Proofs.Ytkcneleabbjkaaa
open Go Go.RowKit Go.Sw
theorem Bc:Try.prog.follows .mixedOrders=true:=by kernel_rfl
def sumTo (f:Nat→Nat):Nat→Nat
  | 0=>0
  | m+1=>sumTo f m+f m
def prodI (T:Nat→Nat→Nat→Nat) (v u:Nat→Nat) (n i c:Nat):Nat:=sumTo (fun i=>sumTo (fun j=>v i*u j*T i j c) n) i
def timesV (p n:Nat) (T:Nat→Nat→Nat→Nat) (v u:Nat→Nat) (c:Nat):Nat:=prodI T v u n n c%p
theorem sumTo_le {f:Nat→Nat}{c m:Nat}(h:∀ i,i<m→f i≤c):sumTo f m≤m*c:=by
  induction m with
  | zero=>simp [sumTo]
  | succ m ih=>have h1:=ih (fun i hi=>h i (by omega));have h2:=h m (by omega);simp only [sumTo,Nat.succ_mul];omega
theorem EZ {x y:Nat}(hx:x≤255)(hy:y≤255):x*y≤65025:=Nat.le_trans (Nat.mul_le_mul hx hy) (by decide)
theorem Gs {x y z:Nat}(hx:x≤255)(hy:y≤255)(hz:z≤255):x*y*z≤16581375:=Nat.le_trans (Nat.mul_le_mul (EZ hx hy) hz) (by decide)
theorem IN {T:Nat→Nat→Nat→Nat}{v u:Nat→Nat}{n i j:Nat}(hv:∀ i,v i≤255)(hu:∀ i,u i≤255)(hT:∀ i j k,T i j k≤255)(hn:n≤6)(hi:i≤n)(hj:j≤n)(c:Nat) :
    prodI T v u n i c+sumTo (fun j=>v i*u j*T i j c) j≤700000000:=by
  have h1:prodI T v u n i c≤6*(6*16581375):=Nat.le_trans (sumTo_le (c:=6*16581375) fun a _=>Nat.le_trans (sumTo_le (c:=16581375) fun b _=>Gs (hv a) (hu b) (hT a b c)) (Nat.mul_le_mul_right _ hn)) (Nat.mul_le_mul_right _ (by omega));have h2:=sumTo_le (m:=j) (c:=16581375) fun b (_:b<j)=>Gs (hv i) (hu b) (hT i b c);have h3:j*16581375≤6*16581375:=Nat.mul_le_mul_right _ (by omega)
  omega
theorem whole {c:Array Value}{n:Nat}(h:c.size=n):c.extract 0 (0+n)=c:=by subst h;simp
theorem CZ {n:Nat}{f:Nat→Value}{o:Nat}{v:Value}(i:Nat)(h:o=i)(hi:i<n)(hv:f i=v):(Ag n f)[o]? = some v:=by subst h;subst hv;exact CW hi
theorem IM (x:Int)(p:Nat)(hp:0<p):-(p:Int)<x.tmod p∧x.tmod p<p:=by
  have h1:=Int.tmod_lt_of_pos x (b:=(p:Int)) (by omega);have h2:=Int.lt_tmod_of_pos x (b:=(p:Int)) (by omega);exact ⟨h2,h1⟩
theorem KE (x:Int)(p:Nat)(hp:0<p):0≤x%(p:Int)∧x%(p:Int)<p:=⟨Int.emod_nonneg x (by omega),Int.emod_lt_of_pos x (by omega)⟩
theorem Iy (x:Int)(p:Nat)(hp:0<p):(x.tmod (p:Int)+(p:Int)).tmod (p:Int)=x%(p:Int):=by
  have h:=IM x p hp;rw [Int.tmod_eq_emod_of_nonneg (by omega),Int.add_emod_right];rw [Int.tmod_eq_emod]
  split
  · simp
  · have:(((p:Int).natAbs:Int))=p:=by simp
    rw [this,Int.sub_emod_right,Int.emod_emod]
def O6 (k:Nat):ByteArray:=⟨#[109,UInt8.ofNat (48+k)]⟩
def Oe (i:Nat):ByteArray:=match i with
  | 0=>⟨#[102,105,101,108,100]⟩
  | 1=>⟨#[100,117,97,108]⟩
  | 2=>⟨#[112,97,105,114]⟩
  | 3=>⟨#[99,121,99,108,105,99,51]⟩
  | 4=>⟨#[115,121,109,109,101,116,114,105,99]⟩
  | _=>⟨#[109,97,116,114,105,120]⟩
theorem B4:Try.prog.underlying 2=some (.int .i64):=by kernel_rfl
theorem B3:Try.prog.underlying 5=some (.int .u8):=by kernel_rfl
theorem Ac:FS Try.prog 27=some (.agg (Ag 6 (fun _=>.int .u8 (0)))):=by kernel_rfl
theorem Ax:Fm Try.prog 27=some (6,1):=by kernel_rfl
theorem Al:E8 Try.prog 5=true:=by kernel_rfl
theorem AP:GS Try.prog 27=some 6:=by kernel_rfl
theorem AY:DO Try.prog 27=some 6:=by kernel_rfl
theorem KN:FS Try.prog 119=some (.agg (Ag 6 (fun _=>.int .i64 (0)))):=by kernel_rfl
theorem Ai:Cz Try.prog 29 1=some 1:=by kernel_rfl
theorem Ae:E8 Try.prog 2=true:=by kernel_rfl
theorem BK:Try.prog.underlying 5=some (.int .u8):=by kernel_rfl
theorem BH:Try.prog.underlying 2=some (.int .i64):=by kernel_rfl
theorem BD:Cz Try.prog 29 2=some 2:=by kernel_rfl
theorem BT:Fm Try.prog 26=some (6,36):=by kernel_rfl
theorem BU:Fm Try.prog 25=some (6,6):=by kernel_rfl
theorem CK:GS Try.prog 24=some 6:=by kernel_rfl
theorem K3:Try.prog.underlying 24=some (.array 6 5):=by kernel_rfl
theorem Hm:Fm Try.prog 119=some (6,1):=by kernel_rfl
theorem KR:GS Try.prog 119=some 6:=by kernel_rfl
theorem KO:Try.prog.underlying 119=some (.array 6 2):=by kernel_rfl
theorem Aw:Cz Try.prog 29 0=some 0:=by kernel_rfl
theorem Di:Try.prog.underlying 27=some (.array 6 5):=by kernel_rfl
theorem BL:∀ w,(Instr.build 27 #[]).run Try.prog w = .ok (.agg (Ag 6 (fun _=>.int .u8 (0)))) w:=by intros;kernel_rfl
theorem B6:Fm Try.prog 24=some (6,1):=by kernel_rfl
theorem BO:Cz Try.prog 29 3=some 218:=by kernel_rfl
theorem K5:GS Try.prog 26=some 216:=by kernel_rfl
theorem Iw:GS Try.prog 25=some 36:=by kernel_rfl
theorem K1:Try.prog.underlying 26=some (.array 6 25):=by kernel_rfl
theorem Kz:FS Try.prog 25=some (.agg (Ag 36 (fun _=>.int .u8 (0)))):=by kernel_rfl
theorem K4:DO Try.prog 25=some 36:=by kernel_rfl
theorem K2:Try.prog.underlying 25=some (.array 6 24):=by kernel_rfl
theorem K0:FS Try.prog 24=some (.agg (Ag 6 (fun _=>.int .u8 (0)))):=by kernel_rfl
theorem Eb:DO Try.prog 24=some 6:=by kernel_rfl
theorem Ix:Ks Try.prog 24=some (6,5,1):=by kernel_rfl
theorem CH:Ko Try.prog 5=true:=by kernel_rfl
theorem Iu:Try.prog.eqGuardType Try.prog.depth 24=false:=by kernel_rfl
theorem AU:GS Try.prog 29=some 224:=by kernel_rfl
theorem B9:Ks Try.prog 27=some (6,5,1):=by kernel_rfl
theorem B8:Try.prog.eqGuardType Try.prog.depth 27=false:=by kernel_rfl
theorem DN:Try.prog.underlying 65=some (.slice 2):=by kernel_rfl
theorem CE:sliceOf Try.prog 65=some 1:=by kernel_rfl
theorem CJ:Try.prog.underlying 22=some (.slice 5):=by kernel_rfl
theorem B5:sliceOf Try.prog 22=some 1:=by kernel_rfl
theorem Db:∀ w,(Instr.buildSlice 65 0 #[]).run Try.prog w = .ok (.slice (some ⟨w.heap.size,0,none⟩) 0 0) (w.alloc (.cells #[] 2)):=by intros;kernel_rfl
theorem Cj:∀ (x:Int) (w:World),(Instr.buildSlice 65 1 #[(0,.int .i64 x)]).run Try.prog w = .ok (.slice (some ⟨w.heap.size,0,none⟩) 1 1) (w.alloc (.cells #[.int .i64 x] 2)):=by intros;kernel_rfl
theorem Cm:MW Try.prog 65=some (2,some (.int .i64 (0)),1,8):=by kernel_rfl
theorem IE:∀ w,(Instr.buildSlice 137 6 #[(0,.string (⟨#[102,105,101,108,100]⟩)),(1,.string (⟨#[100,117,97,108]⟩)),(2,.string (⟨#[112,97,105,114]⟩)),(3,.string (⟨#[99,121,99,108,105,99,51]⟩)),(4,.string (⟨#[115,121,109,109,101,116,114,105,99]⟩)),(5,.string (⟨#[109,97,116,114,105,120]⟩))]).run Try.prog w = .ok (.slice (some ⟨w.heap.size,0,none⟩) 6 6) (w.alloc (.cells (Ag 6 (fun c=>.string (Oe c))) 9)):=by intros;kernel_rfl
theorem FG (x:Int)(p:Nat)(w:World)(hp:0<p)(hp2:p<100)(hx:-1000000000<x)(hx2:x<1000000000) :
    CallsR Try.prog 115 #[.int .i64 (x),.int .i64 (p:Int)] w (fun res _=>res = .int .u8 (x%(p:Int))):=by
  refine Ak [.int .i64 (x),.int .i64 (p:Int)] Try.func115 rfl Try.ntmps115 rfl fun a hF=>?_;have hM:Af w w [] []:=MemX.start w 0;change Fr 13 a [(0,.int .i64 (x)),(1,.int .i64 (p:Int))] at hF;have h1:=IM x p hp;have h2:=KE x p hp;refine sr<|ag hF rfl rfl fun a hF=>ns<|mv hF rfl rfl fun a hF=>mv hF rfl rfl fun a hF=>st hF (CY hF rfl rfl (by omega) rfl) rfl fun a hF=>mv hF rfl rfl fun a hF=>st hF (Ar hF rfl rfl (wrap_i64 (by omega) (by omega))) rfl fun a hF=>mv hF rfl rfl fun a hF=>st hF (CY hF rfl rfl (by omega) (Iy x p hp)) rfl fun a hF=>st hF (A6 B3 B4 hF rfl (wrap_u8 (by omega) (by omega))) rfl fun a hF=>ag hF rfl rfl fun a hF=>nt<|wp_ret<|BC rfl hF.defers (Ab hF rfl) ⟨_,rfl,hM.below,?_⟩
  show _=_
  rfl
theorem Ch (i:Nat)(w:World)(hi:i<6) :
    CallsR Try.prog 142 #[.int .i64 (i:Int)] w (fun res _=>res = .agg (AI (fun c=>if c=i then 1 else 0))):=by
  refine Ak [.int .i64 (i:Int)] Try.func142 rfl Try.ntmps142 rfl fun a hF=>?_;have hM:Af w w [none,none] []:=MemX.start w 2;change Fr 7 a [(0,.int .i64 (i:Int))] at hF;refine sr<|Am hF (AW 0 hM Ac) rfl ?_;rintro _ w' a ⟨b1,rfl,hM,-⟩ hF;refine ns<|Am hF (AW 1 hM Ac) rfl ?_;rintro _ w' a ⟨b2,rfl,hM,-⟩ hF;change Af w w' [some (b1,Ag 6 (fun _=>.int .u8 (0))),some (b2,Ag 6 (fun _=>.int .u8 (0)))] [] at hM;refine ns<|mv hF rfl rfl fun a hF=>st hF (AS Ax hF rfl rfl rfl (by omega)) rfl fun a hF=>A8 hF (A0 1 hM rfl Al hF rfl rfl rfl (by first | omega | (simp only [AR]<;>omega) | (simp only [Array.size_setIfInBounds];omega) | simp)) ?_;intro _ w' a hM hF;rw [show (Ag 6 (fun x=>.int .u8 (0))).setIfInBounds (0+(i)*1) (.int .u8 (1))=Ag 6 (fun x=>.int .u8 (((if x=i then 1 else 0):Nat):Int)) from By (fun x _=>by rw [show 0+(i)*1=i by omega];by_cases hh:x=i<;>simp [hh])] at hM;change Af w w' [some (b1,Ag 6 (fun _=>.int .u8 (0))),some (b2,Ag 6 (fun x=>.int .u8 (((if x=i then 1 else 0):Nat):Int)))] [] at hM;refine ns<|st hF (AK AP hF rfl (hM.row 1 rfl) (by simp only [AR]<;>omega) (whole (by simp only [AR]))) rfl fun a hF=>A8 hF (AO 0 hM rfl AY hF rfl rfl (by first | exact AT | exact cells_one | (refine AV fun _ _=>?_;first | rfl | (split<;>rfl))) (by simp only [AR]) (by simp only [AR]<;>omega) (AL _ _ (by simp only [AR]))) ?_;intro _ w' a hM hF;change Af w w' [some (b1,Ag 6 (fun x=>.int .u8 (((if x=i then 1 else 0):Nat):Int))),some (b2,Ag 6 (fun x=>.int .u8 (((if x=i then 1 else 0):Nat):Int)))] [] at hM;refine nt<|wp_ret<|BC rfl hF.defers (Ao AP hF rfl (hM.row 0 rfl) (by simp only [AR])) ⟨_,rfl,hM.below,?_⟩
  show _=_
  rfl
theorem GY (x p:Nat)(w:World)(hp:0<p)(hp2:p<100)(hx:x<1000000000):CallsR Try.prog 115 #[.int .i64 (x:Int),.int .i64 (p:Int)] w (fun u _=>u = .int .u8 ((x%p:Nat):Int)):=FG x p w hp hp2 (by omega) (by omega)
theorem C8 (p n:Nat)(T:Nat→Nat→Nat→Nat)(f v u:Nat→Nat)(w:World)(hp:0<p)(hp2:p<100)(hn:n≤6)(hT:∀ i j k,T i j k≤255)(hv:∀ i,v i≤255)(hu:∀ i,u i≤255) :
    CallsR Try.prog 87 #[.agg (AJ (p:Int) (n:Int) T f),.agg (AI v),.agg (AI u)] w (fun res _=>res = .agg (AI (timesV p n T v u))):=by
  refine Ak [.agg (AJ (p:Int) (n:Int) T f),.agg (AI v),.agg (AI u)] Try.func87 rfl Try.ntmps87 rfl fun a hF=>?_;have hM:Af w w [none,none,none,none,none,none] []:=MemX.start w 6;change Fr 72 a [(0,.agg (AJ (p:Int) (n:Int) T f)),(1,.agg (AI v)),(2,.agg (AI u))] at hF;refine sr<|Am hF (Au 0 hM hF rfl) rfl ?_;rintro _ w' a ⟨b1,rfl,hM,-⟩ hF;refine Am hF (Au 1 hM hF rfl) rfl ?_;rintro _ w' a ⟨b2,rfl,hM,-⟩ hF;refine Am hF (Au 2 hM hF rfl) rfl ?_;rintro _ w' a ⟨b3,rfl,hM,-⟩ hF;refine Am hF (AW 3 hM Ac) rfl ?_;rintro _ w' a ⟨b4,rfl,hM,-⟩ hF;refine ns<|Am hF (AW 4 hM KN) rfl ?_;rintro _ w' a ⟨b5,rfl,hM,-⟩ hF;change Af w w' [some (b1,AJ (p:Int) (n:Int) T f),some (b2,AI v),some (b3,AI u),some (b4,Ag 6 (fun _=>.int .u8 (0))),some (b5,Ag 6 (fun _=>.int .i64 (0))),none] [] at hM;refine nt<|sq<|sr<|st hF (AN Ai hF rfl) rfl fun a hF=>st hF (AZ Ae hF rfl (hM.row 0 rfl) (A5 (by omega))) rfl fun a hF=>mv hF rfl rfl fun a hF=>nt<|wp_block ?_;change Af w _ [some (b1,AJ (p:Int) (n:Int) T f),some (b2,AI v),some (b3,AI u),some (b4,Ag 6 (fun _=>.int .u8 (0))),some (b5,Ag 6 (fun _=>.int .i64 (0))),none] [] at hM;refine Az (fun (kk:Nat) a w'=>kk≤n∧(True)∧Fr 72 a [(3,ptr b1 (0)),(4,ptr b2 (0)),(5,ptr b3 (0)),(6,ptr b4 (0)),(7,ptr b5 (0)),(17,.int .i64 (n:Int)),(18,.int .i64 (kk:Int))]∧Af w w' [some (b1,AJ (p:Int) (n:Int) T f),some (b2,AI v),some (b3,AI u),some (b4,Ag 6 (fun _=>.int .u8 (0))),some (b5,Ag 6 (fun c=>.int .i64 (prodI T v u n kk c:Int))),none] []) (fun kk=>n - kk) 0 ?_ ?_
  · refine ⟨by omega,trivial,hF.sub _ (by repeat' constructor),?_⟩
    exact hM
  clear hF hM;rintro i a w' ⟨hi,hinv1,hF,hM⟩;refine sr<|st hF (A4 hF rfl rfl) rfl fun a hF=>nt<|sq<|Ad hF rfl (fun h6=>?_) (fun h6=>?_)
  · refine wp_skip ?_
    refine tN<|sq<|wp_block<|sr<|mv hF rfl rfl fun a hF=>ag hF rfl rfl fun a hF=>ns<|st hF (AN Ai hF rfl) rfl fun a hF=>st hF (AZ Ae hF rfl (hM.row 0 rfl) (A5 (by omega))) rfl fun a hF=>mv hF rfl rfl fun a hF=>nt<|wp_block ?_;change Af w _ [some (b1,AJ (p:Int) (n:Int) T f),some (b2,AI v),some (b3,AI u),some (b4,Ag 6 (fun _=>.int .u8 (0))),some (b5,Ag 6 (fun c=>.int .i64 (prodI T v u n i c:Int))),none] [] at hM;refine Az (fun (kk:Nat) a w'=>kk≤n∧(True)∧Fr 72 a [(3,ptr b1 (0)),(4,ptr b2 (0)),(5,ptr b3 (0)),(6,ptr b4 (0)),(7,ptr b5 (0)),(17,.int .i64 (n:Int)),(18,.int .i64 (i:Int)),(19,.bool (decide (((i:Int):Int)<(n:Int)))),(20,.int .i64 (i:Int)),(8,.int .i64 (i:Int)),(21,ptr b1 (0+1)),(22,.int .i64 (n:Int)),(23,.int .i64 (kk:Int))]∧Af w w' [some (b1,AJ (p:Int) (n:Int) T f),some (b2,AI v),some (b3,AI u),some (b4,Ag 6 (fun _=>.int .u8 (0))),some (b5,Ag 6 (fun c=>.int .i64 ((prodI T v u n i c+sumTo (fun kk=>v i*u kk*T i kk c) kk:Nat):Int))),none] []) (fun kk=>n - kk) 0 ?_ ?_
    · refine ⟨by omega,trivial,hF.sub _ (by repeat' constructor),?_⟩
      exact hM
    clear hF hM;rintro j a w' ⟨hj,hinv2,hF,hM⟩;have hvi:=hv i;have huj:=hu j;refine sr<|st hF (A4 hF rfl rfl) rfl fun a hF=>nt<|sq<|Ad hF rfl (fun h7=>?_) (fun h7=>?_)
    · refine wp_skip ?_
      refine tN<|sq<|wp_block<|sr<|mv hF rfl rfl fun a hF=>ag hF rfl rfl fun a hF=>nt<|sq<|BY 8 [] [.val (.int .i64 (i:Int)),.val (ptr b2 (0+(i)*1)),.val (.int .u8 ((v (i):Int))),.val (.int .i64 ((v (i):Int))),.val (.int .i64 (j:Int)),.val (ptr b3 (0+(j)*1)),.val (.int .u8 ((u (j):Int))),.val (.int .i64 ((u (j):Int)))] Bc rfl hF rfl hM ⟨fun a w gG hF hS hd=>by exact BP hS rfl hF rfl,fun a w gG hF hS hd=>by have hF:=hF.ext1 26 (hd 0 rfl rfl);exact AM hS rfl (AS Ax hF rfl rfl rfl (by omega)),fun a w gG hF hS hd=>by have hF:=hF.ext1 27 (hd 1 rfl rfl);have hM:=hS.mem rfl;exact AM hS rfl (AZ Al hF rfl (hM.row 1 rfl) (BS (i) (by omega) (by omega))),fun a w gG hF hS hd=>by have hF:=hF.ext1 28 (hd 2 rfl rfl);exact AM hS rfl (A6 BH BK hF rfl (wrap_i64 (by omega) (by omega))),fun a w gG hF hS hd=>by exact BP hS rfl hF rfl,fun a w gG hF hS hd=>by have hF:=hF.ext1 30 (hd 4 rfl rfl);exact AM hS rfl (AS Ax hF rfl rfl rfl (by omega)),fun a w gG hF hS hd=>by have hF:=hF.ext1 31 (hd 5 rfl rfl);have hM:=hS.mem rfl;exact AM hS rfl (AZ Al hF rfl (hM.row 2 rfl) (BS (j) (by omega) (by omega))),fun a w gG hF hS hd=>by have hF:=hF.ext1 32 (hd 6 rfl rfl);exact AM hS rfl (A6 BH BK hF rfl (wrap_i64 (by omega) (by omega))),trivial⟩ ?_;intro a w' L hF hS hq;have hF:=hF.ext1 26 (hq 0 rfl rfl);have hF:=hF.ext1 27 (hq 1 rfl rfl);have hF:=hF.ext1 28 (hq 2 rfl rfl);have hF:=hF.ext1 29 (hq 3 rfl rfl);have hF:=hF.ext1 30 (hq 4 rfl rfl);have hF:=hF.ext1 31 (hq 5 rfl rfl);have hF:=hF.ext1 32 (hq 6 rfl rfl);have hF:=hF.ext1 33 (hq 7 rfl rfl);have hM:=hS.mem rfl;change wpList Try.prog _ _ [_,_] _ _;refine st hF (CA hF rfl rfl (Bj (v i) (u j) (by have:=EZ (hv i) (hu j);omega))) rfl fun a hF=>ag hF rfl rfl fun a hF=>nt<|sq<|sr<|mv hF rfl rfl fun a hF=>st hF (Bd hF rfl rfl) rfl fun a hF=>nt<|Ad hF rfl (fun h8=>?_) (fun h8=>?_)
      · refine wp_exit ?_
        refine tX<|Aq<|tN<|wp_region_lit<|st hF (Ar hF rfl rfl (Aj (j) (1) (by omega))) rfl fun a hF=>mv hF rfl rfl fun a hF=>nt<|⟨j+1,⟨by omega,trivial,hF.sub _ (by repeat' constructor),?_⟩,by omega⟩;refine hM.rowc 4 rfl (BV fun c hc=>?_);have e0:v i*u j=0:=by omega
        simp [sumTo,e0]
      refine wp_skip<|tN<|sr<|mv hF rfl rfl fun a hF=>mv hF rfl rfl fun a hF=>st hF (AN BD hF rfl) rfl fun a hF=>st hF (AS BT hF rfl rfl rfl (by omega)) rfl fun a hF=>st hF (AS BU hF rfl rfl rfl (by omega)) rfl fun a hF=>st hF (AK CK hF rfl (hM.row 0 rfl) (by simp only [AR]<;>omega) (DU (i) (j) (by omega) (by omega) (by omega) (by omega))) rfl fun a hF=>mv hF rfl rfl fun a hF=>nt<|wp_block ?_;change Af w _ [some (b1,AJ (p:Int) (n:Int) T f),some (b2,AI v),some (b3,AI u),some (b4,Ag 6 (fun _=>.int .u8 (0))),some (b5,Ag 6 (fun c=>.int .i64 ((prodI T v u n i c+sumTo (fun j=>v i*u j*T i j c) j:Nat):Int))),none] [] at hM;refine Az (fun (kk:Nat) a w'=>kk≤6∧(True)∧Fr 72 a [(33,.int .i64 ((u (j):Int))),(32,.int .u8 ((u (j):Int))),(31,ptr b3 (0+(j)*1)),(30,.int .i64 (j:Int)),(29,.int .i64 ((v (i):Int))),(28,.int .u8 ((v (i):Int))),(27,ptr b2 (0+(i)*1)),(26,.int .i64 (i:Int)),(3,ptr b1 (0)),(4,ptr b2 (0)),(5,ptr b3 (0)),(6,ptr b4 (0)),(7,ptr b5 (0)),(17,.int .i64 (n:Int)),(18,.int .i64 (i:Int)),(19,.bool (decide (((i:Int):Int)<(n:Int)))),(20,.int .i64 (i:Int)),(8,.int .i64 (i:Int)),(21,ptr b1 (0+1)),(22,.int .i64 (n:Int)),(23,.int .i64 (j:Int)),(24,.bool (decide (((j:Int):Int)<(n:Int)))),(25,.int .i64 (j:Int)),(9,.int .i64 (j:Int)),(34,.int .i64 ((((v (i))*(u (j)):Nat):Int))),(10,.int .i64 ((((v (i))*(u (j)):Nat):Int))),(35,.int .i64 ((((v (i))*(u (j)):Nat):Int))),(36,.bool (decide (((((v (i))*(u (j)):Nat):Int):Int)=0))),(37,.int .i64 (i:Int)),(38,.int .i64 (j:Int)),(39,ptr b1 (0+2)),(40,ptr b1 (0+2+(i)*36)),(41,ptr b1 (0+2+(i)*36+(j)*6)),(42,.agg (AI (T (i) (j)))),(43,.int .i64 (kk:Int))]∧Af w w' [some (b1,AJ (p:Int) (n:Int) T f),some (b2,AI v),some (b3,AI u),some (b4,Ag 6 (fun _=>.int .u8 (0))),some (b5,Ag 6 (fun c=>.int .i64 (((prodI T v u n i c+sumTo (fun j=>v i*u j*T i j c) j)+(if c<kk then v i*u j*T i j c else 0):Nat):Int))),none] []) (fun kk=>6 - kk) 0 ?_ ?_
      · refine ⟨by omega,trivial,hF.sub _ (by repeat' constructor),?_⟩
        exact hM.cast (by simp)
      clear hF hM;rintro k a w' ⟨hk,hinv3,hF,hM⟩;have hb1:=IN (T:=T) hv hu hT hn hi hj k;have hb2:=Gs (hv i) (hu j) (hT i j k);have htk:=hT i j k;refine sr<|st hF (A4 hF rfl rfl) rfl fun a hF=>nt<|sq<|Ad hF rfl (fun h9=>?_) (fun h9=>?_)
      · refine wp_skip ?_
        refine tN<|sq<|wp_block<|sr<|mv hF rfl rfl fun a hF=>st hF (E3 K3 Al hF rfl rfl rfl (by omega) (BS (k) (by omega) (by omega))) rfl fun a hF=>ag hF rfl rfl fun a hF=>ag hF rfl rfl fun a hF=>nt<|wp_region_lit<|mv hF rfl rfl fun a hF=>st hF (AS Hm hF rfl rfl rfl (by omega)) rfl fun a hF=>st hF (AZ Ae hF rfl (hM.row 4 rfl) (CZ (k) (by omega) (by omega) (by simp))) rfl fun a hF=>mv hF rfl rfl fun a hF=>mv hF rfl rfl fun a hF=>st hF (A6 BH BK hF rfl (wrap_i64 (by omega) (by omega))) rfl fun a hF=>st hF (CA hF rfl rfl (Bj (v i*u j) (T i j k) (by omega))) rfl fun a hF=>st hF (Ar hF rfl rfl (Aj (prodI T v u n i k+sumTo (fun j=>v i*u j*T i j k) j) (((v (i))*(u (j)))*((T (i) (j)) (k))) (by omega))) rfl fun a hF=>st hF (AS Hm hF rfl rfl rfl (by omega)) rfl fun a hF=>A8 hF (A0 4 hM rfl Ae hF rfl rfl rfl (by first | omega | (simp only [AR]<;>omega) | (simp only [Array.size_setIfInBounds];omega) | simp)) ?_;intro _ w' a hM hF;rw [show (Ag 6 (fun c=>.int .i64 (((prodI T v u n i c+sumTo (fun j=>v i*u j*T i j c) j)+(if c<k then v i*u j*T i j c else 0):Nat):Int))).setIfInBounds (0+(k)*1) (.int .i64 (((prodI T v u n i k+sumTo (fun j=>v i*u j*T i j k) j+((v (i))*(u (j)))*((T (i) (j)) (k)):Nat):Int)))=Ag 6 (fun c=>.int .i64 (((if c=k then prodI T v u n i k+sumTo (fun j=>v i*u j*T i j k) j+((v (i))*(u (j)))*((T (i) (j)) (k)) else (prodI T v u n i c+sumTo (fun j=>v i*u j*T i j c) j)+(if c<k then v i*u j*T i j c else 0)):Nat):Int)) from By (fun c _=>by rw [show 0+(k)*1=k by omega];by_cases hh:c=k<;>simp [hh])] at hM;change Af w w' [some (b1,AJ (p:Int) (n:Int) T f),some (b2,AI v),some (b3,AI u),some (b4,Ag 6 (fun _=>.int .u8 (0))),some (b5,Ag 6 (fun c=>.int .i64 (((if c=k then prodI T v u n i k+sumTo (fun j=>v i*u j*T i j k) j+((v (i))*(u (j)))*((T (i) (j)) (k)) else (prodI T v u n i c+sumTo (fun j=>v i*u j*T i j c) j)+(if c<k then v i*u j*T i j c else 0)):Nat):Int))),none] [] at hM;refine wpList_nil<|iN<|tN<|wp_region_lit<|st hF (Ar hF rfl rfl (Aj (k) (1) (by omega))) rfl fun a hF=>mv hF rfl rfl fun a hF=>nt<|⟨k+1,⟨by omega,trivial,hF.sub _ (by repeat' constructor),?_⟩,by omega⟩;refine hM.rowc 4 rfl (BV fun c hc=>?_);have e0:(c<k+1)=(c<k∨c=k):=by apply propext;omega
        by_cases e1:c=k
        · subst e1;simp
        · simp [e0,e1]
      obtain rfl:6=k:=by omega
      refine wp_exit<|tX<|tX<|Aq<|iN<|tN<|wp_region_lit<|st hF (Ar hF rfl rfl (Aj (j) (1) (by omega))) rfl fun a hF=>mv hF rfl rfl fun a hF=>nt<|⟨j+1,⟨by omega,trivial,hF.sub _ (by repeat' constructor),?_⟩,by omega⟩;refine hM.rowc 4 rfl (BV fun c hc=>?_)
      simp [sumTo,hc,Nat.add_assoc]
    obtain rfl:n=j:=by omega
    refine wp_exit<|tX<|tX<|Aq<|iN<|tN<|wp_region_lit<|st hF (Ar hF rfl rfl (Aj (i) (1) (by omega))) rfl fun a hF=>mv hF rfl rfl fun a hF=>nt<|⟨i+1,⟨by omega,trivial,hF.sub _ (by repeat' constructor),?_⟩,by omega⟩;exact hM
  obtain rfl:n=i:=by omega
  refine wp_exit<|tX<|tX<|Aq<|tN<|sr<|Am hF (AW 5 hM Ac) rfl ?_;rintro _ w' a ⟨b10,rfl,hM,-⟩ hF;change Af w w' [some (b1,AJ (p:Int) (n:Int) T f),some (b2,AI v),some (b3,AI u),some (b4,Ag 6 (fun _=>.int .u8 (0))),some (b5,Ag 6 (fun c=>.int .i64 (prodI T v u n n c:Int))),some (b10,Ag 6 (fun _=>.int .u8 (0)))] [] at hM;refine nt<|sq<|sr<|st hF (AK KR hF rfl (hM.row 4 rfl) (by simp only [AR]<;>omega) (whole (by simp only [AR]))) rfl fun a hF=>mv hF rfl rfl fun a hF=>nt<|wp_block ?_;change Af w _ [some (b1,AJ (p:Int) (n:Int) T f),some (b2,AI v),some (b3,AI u),some (b4,Ag 6 (fun _=>.int .u8 (0))),some (b5,Ag 6 (fun c=>.int .i64 (prodI T v u n n c:Int))),some (b10,Ag 6 (fun _=>.int .u8 (0)))] [] at hM;refine Az (fun (kk:Nat) a w'=>kk≤6∧(True)∧Fr 72 a [(3,ptr b1 (0)),(4,ptr b2 (0)),(5,ptr b3 (0)),(6,ptr b4 (0)),(7,ptr b5 (0)),(17,.int .i64 (n:Int)),(18,.int .i64 (n:Int)),(19,.bool (decide (((n:Int):Int)<(n:Int)))),(13,ptr b10 (0)),(59,.agg (Ag 6 (fun c=>.int .i64 (prodI T v u n n c:Int)))),(60,.int .i64 (kk:Int))]∧Af w w' [some (b1,AJ (p:Int) (n:Int) T f),some (b2,AI v),some (b3,AI u),some (b4,Ag 6 (fun _=>.int .u8 (0))),some (b5,Ag 6 (fun c=>.int .i64 (prodI T v u n n c:Int))),some (b10,Ag 6 (fun d=>.int .u8 ((if d<kk then timesV p n T v u d else 0:Nat):Int)))] []) (fun kk=>6 - kk) 0 ?_ ?_
  · refine ⟨by omega,trivial,hF.sub _ (by repeat' constructor),?_⟩
    exact hM.cast (by simp)
  clear hF hM;rintro q a w' ⟨hq,hinv4,hF,hM⟩;have hb1:prodI T v u n n q≤700000000:=by have:=IN (T:=T) hv hu hT hn (Nat.le_refl n) (Nat.zero_le n) q;omega
  refine sr<|st hF (A4 hF rfl rfl) rfl fun a hF=>nt<|sq<|Ad hF rfl (fun h11=>?_) (fun h11=>?_)
  · refine wp_skip ?_
    refine tN<|sq<|wp_block<|sr<|mv hF rfl rfl fun a hF=>st hF (E3 KO Ae hF rfl rfl rfl (by omega) (CZ (q) (by omega) (by omega) rfl)) rfl fun a hF=>ag hF rfl rfl fun a hF=>ag hF rfl rfl fun a hF=>nt<|wp_region_lit<|mv hF rfl rfl fun a hF=>mv hF rfl rfl fun a hF=>st hF (AN Aw hF rfl) rfl fun a hF=>st hF (AZ Ae hF rfl (hM.row 0 rfl) (BQ (by omega))) rfl fun a hF=>Am hF (Aa Try.call115 hF (.cons rfl (.cons rfl .nil)) (GY (prodI T v u n n (q)) (p) _ (by omega) (by omega) (by omega))) rfl ?_;rintro _ w' a ⟨hx,rfl⟩ hF;have hM:=hM.ext hx;refine st hF (AS Ax hF rfl rfl rfl (by omega)) rfl fun a hF=>A8 hF (A0 5 hM rfl Al hF rfl rfl rfl (by first | omega | (simp only [AR]<;>omega) | (simp only [Array.size_setIfInBounds];omega) | simp)) ?_;intro _ w' a hM hF;rw [show (Ag 6 (fun d=>.int .u8 ((if d<q then timesV p n T v u d else 0:Nat):Int))).setIfInBounds (0+(q)*1) (.int .u8 ((((prodI T v u n n (q))%(p):Nat):Int)))=Ag 6 (fun d=>.int .u8 (((if d=q then (prodI T v u n n (q))%(p) else if d<q then timesV p n T v u d else 0):Nat):Int)) from By (fun d _=>by rw [show 0+(q)*1=q by omega];by_cases hh:d=q<;>simp [hh])] at hM;change Af w w' [some (b1,AJ (p:Int) (n:Int) T f),some (b2,AI v),some (b3,AI u),some (b4,Ag 6 (fun _=>.int .u8 (0))),some (b5,Ag 6 (fun c=>.int .i64 (prodI T v u n n c:Int))),some (b10,Ag 6 (fun d=>.int .u8 (((if d=q then (prodI T v u n n (q))%(p) else if d<q then timesV p n T v u d else 0):Nat):Int)))] [] at hM;refine wpList_nil<|iN<|tN<|wp_region_lit<|st hF (Ar hF rfl rfl (Aj (q) (1) (by omega))) rfl fun a hF=>mv hF rfl rfl fun a hF=>nt<|⟨q+1,⟨by omega,trivial,hF.sub _ (by repeat' constructor),?_⟩,by omega⟩;refine hM.rowc 5 rfl (BV fun c hc=>?_);have e0:(c<q+1)=(c<q∨c=q):=by apply propext;omega
    by_cases e1:c=q
    · subst e1;simp [timesV]
    · simp [e0,e1]
  obtain rfl:6=q:=by omega
  refine wp_exit<|tX<|tX<|Aq<|tN<|sr<|st hF (AK AP hF rfl (hM.row 5 rfl) (by simp only [AR]<;>omega) (whole (by simp only [AR]))) rfl fun a hF=>A8 hF (AO 3 hM rfl AY hF rfl rfl (by first | exact AT | exact cells_one | (refine AV fun _ _=>?_;first | rfl | (split<;>rfl))) (by simp only [AR]) (by simp only [AR]<;>omega) (AL _ _ (by simp only [AR]))) ?_;intro _ w' a hM hF;change Af w w' [some (b1,AJ (p:Int) (n:Int) T f),some (b2,AI v),some (b3,AI u),some (b4,Ag 6 (fun d=>.int .u8 ((if d<6 then timesV p n T v u d else 0:Nat):Int))),some (b5,Ag 6 (fun c=>.int .i64 (prodI T v u n n c:Int))),some (b10,Ag 6 (fun d=>.int .u8 ((if d<6 then timesV p n T v u d else 0:Nat):Int)))] [] at hM;refine nt<|wp_ret<|BC rfl hF.defers (Ao AP hF rfl (hM.row 3 rfl) (by simp only [AR])) ⟨_,rfl,hM.below,?_⟩
  show _=_
  exact congrArg Value.agg (BV fun c hc=>by simp [hc])
def BN (x:Int):Prop:=x=2∨x=3∨x=5∨x=7∨x=11∨x=13
instance (x:Int):Decidable (BN x):=by unfold BN;infer_instance
def Fw (p n:Int) (x i:Nat):Prop:=¬ ((x:Int)≥p∨((i:Int)≥n∧x≠0))
instance (p n:Int) (x i:Nat):Decidable (Fw p n x i):=by unfold Fw;infer_instance
def okV (p n:Int) (v:Nat→Nat):Prop:=∀ i,i<6→Fw p n (v i) i
instance (p n:Int) (v:Nat→Nat):Decidable (okV p n v):=Nat.decidableBallLT 6 _
theorem Gu {p n:Int}{v:Nat→Nat}(i:Nat)(hi:i<6)(h:¬ Fw p n (v i) i):¬ okV p n v:=fun hq=>h (hq i hi)
theorem Nf {p n:Int}{v:Nat→Nat}{k:Nat}(h:∀ i,i<k→Fw p n (v i) i)(hk:Fw p n (v k) k):∀ i,i<k+1→Fw p n (v i) i:=fun i hi=>by
  by_cases e:i=k
  · subst e;exact hk
  · exact h i (by omega)
theorem GO {p:Prop}[Decidable p](h:p):Value.bool true=Value.bool (decide p):=by simp [h]
theorem CS {p:Prop}[Decidable p](h:¬ p):Value.bool false=Value.bool (decide p):=by simp [h]
theorem HF (x:Int)(w:World) :
    CallsR Try.prog 90 #[.int .i64 (x)] w (fun res _=>res = .bool (decide (BN x))):=by
  refine Ak [.int .i64 (x)] Try.func90 rfl Try.ntmps90 rfl fun a hF=>?_;have hM:Af w w [] []:=MemX.start w 0;change Fr 11 a [(0,.int .i64 (x))] at hF;refine sr<|ag hF rfl rfl fun a hF=>nt<|sq<|sr<|mv hF rfl rfl fun a hF=>nt<|wp_block<|sq<|sr<|st hF (Bd hF rfl rfl) rfl fun a hF=>ag hF rfl rfl fun a hF=>nt<|Ad hF rfl (fun h1=>?_) (fun h1=>?_)
  · refine wp_skip ?_
    refine tN<|Gi hF rfl h1<|sr<|ag hF rfl rfl fun a hF=>nt<|wp_ret<|iR<|tR<|BC rfl hF.defers (Ab hF rfl) ⟨_,rfl,hM.below,?_⟩
    show _=_
    first | exact congrArg Value.bool (decide_eq_true (by unfold BN;omega)).symm | exact congrArg Value.bool (decide_eq_false (by unfold BN;omega)).symm | exact congrArg Value.bool (decide_eq_decide.2 (by unfold BN;omega))
  refine sr<|st hF (Bd hF rfl rfl) rfl fun a hF=>ag hF rfl rfl fun a hF=>nt<|Ad hF rfl (fun h3=>?_) (fun h3=>?_)
  · refine wp_skip ?_
    refine tN<|Gi hF rfl h3<|sr<|ag hF rfl rfl fun a hF=>nt<|wp_ret<|iR<|tR<|BC rfl hF.defers (Ab hF rfl) ⟨_,rfl,hM.below,?_⟩
    show _=_
    first | exact congrArg Value.bool (decide_eq_true (by unfold BN;omega)).symm | exact congrArg Value.bool (decide_eq_false (by unfold BN;omega)).symm | exact congrArg Value.bool (decide_eq_decide.2 (by unfold BN;omega))
  refine sr<|st hF (Bd hF rfl rfl) rfl fun a hF=>ag hF rfl rfl fun a hF=>nt<|Ad hF rfl (fun h5=>?_) (fun h5=>?_)
  · refine wp_skip ?_
    refine tN<|Gi hF rfl h5<|sr<|ag hF rfl rfl fun a hF=>nt<|wp_ret<|iR<|tR<|BC rfl hF.defers (Ab hF rfl) ⟨_,rfl,hM.below,?_⟩
    show _=_
    first | exact congrArg Value.bool (decide_eq_true (by unfold BN;omega)).symm | exact congrArg Value.bool (decide_eq_false (by unfold BN;omega)).symm | exact congrArg Value.bool (decide_eq_decide.2 (by unfold BN;omega))
  refine sr<|st hF (Bd hF rfl rfl) rfl fun a hF=>ag hF rfl rfl fun a hF=>nt<|Ad hF rfl (fun h7=>?_) (fun h7=>?_)
  · refine wp_skip ?_
    refine tN<|Gi hF rfl h7<|sr<|ag hF rfl rfl fun a hF=>nt<|wp_ret<|iR<|tR<|BC rfl hF.defers (Ab hF rfl) ⟨_,rfl,hM.below,?_⟩
    show _=_
    first | exact congrArg Value.bool (decide_eq_true (by unfold BN;omega)).symm | exact congrArg Value.bool (decide_eq_false (by unfold BN;omega)).symm | exact congrArg Value.bool (decide_eq_decide.2 (by unfold BN;omega))
  refine sr<|st hF (Bd hF rfl rfl) rfl fun a hF=>ag hF rfl rfl fun a hF=>nt<|Ad hF rfl (fun h9=>?_) (fun h9=>?_)
  · refine wp_skip ?_
    refine tN<|Gi hF rfl h9<|sr<|ag hF rfl rfl fun a hF=>nt<|wp_ret<|iR<|tR<|BC rfl hF.defers (Ab hF rfl) ⟨_,rfl,hM.below,?_⟩
    show _=_
    first | exact congrArg Value.bool (decide_eq_true (by unfold BN;omega)).symm | exact congrArg Value.bool (decide_eq_false (by unfold BN;omega)).symm | exact congrArg Value.bool (decide_eq_decide.2 (by unfold BN;omega))
  refine wp_region_lit<|st hF (Bd hF rfl rfl) rfl fun a hF=>ag hF rfl rfl fun a hF=>nt<|Ad hF rfl (fun h11=>?_) (fun h11=>?_)
  · refine sq ?_
    refine wp_region_lit<|ag hF rfl rfl fun a hF=>nt<|wp_ret<|iR<|tR<|BC rfl hF.defers (Ab hF rfl) ⟨_,rfl,hM.below,?_⟩
    show _=_
    first | exact congrArg Value.bool (decide_eq_true (by unfold BN;omega)).symm | exact congrArg Value.bool (decide_eq_false (by unfold BN;omega)).symm | exact congrArg Value.bool (decide_eq_decide.2 (by unfold BN;omega))
  refine wp_skip<|iN<|tN<|sr<|ag hF rfl rfl fun a hF=>nt<|wp_ret<|BC rfl hF.defers (Ab hF rfl) ⟨_,rfl,hM.below,?_⟩
  show _=_
  first | exact congrArg Value.bool (decide_eq_true (by unfold BN;omega)).symm | exact congrArg Value.bool (decide_eq_false (by unfold BN;omega)).symm | exact congrArg Value.bool (decide_eq_decide.2 (by unfold BN;omega))
theorem I8 (x:Int)(w:World) :
    CallsR Try.prog 166 #[.int .i64 (x)] w (fun res _=>res = .bool (decide (BN x))):=by
  refine Ak [.int .i64 (x)] Try.func166 rfl Try.ntmps166 rfl fun a hF=>?_;have hM:Af w w [] []:=MemX.start w 0;change Fr 25 a [(0,.int .i64 (x))] at hF;refine sr<|ag hF rfl rfl fun a hF=>ns<|mv hF rfl rfl fun a hF=>st hF (Bd hF rfl rfl) rfl fun a hF=>mv hF rfl rfl fun a hF=>?_
  by_cases g1:(x:Int)=2
  · first | rw [decide_eq_true g1] at hF | simp only [decide_eq_true g1] at hF
    refine Bg hF rfl rfl rfl rfl rfl fun a hF=>Bg hF rfl rfl rfl rfl rfl fun a hF=>st hF (A7 hF rfl rfl) rfl fun a hF=>mv hF rfl rfl fun a hF=>Bg hF rfl rfl rfl rfl rfl fun a hF=>Bg hF rfl rfl rfl rfl rfl fun a hF=>st hF (A7 hF rfl rfl) rfl fun a hF=>mv hF rfl rfl fun a hF=>Bg hF rfl rfl rfl rfl rfl fun a hF=>Bg hF rfl rfl rfl rfl rfl fun a hF=>st hF (A7 hF rfl rfl) rfl fun a hF=>mv hF rfl rfl fun a hF=>Bg hF rfl rfl rfl rfl rfl fun a hF=>Bg hF rfl rfl rfl rfl rfl fun a hF=>st hF (A7 hF rfl rfl) rfl fun a hF=>mv hF rfl rfl fun a hF=>Bg hF rfl rfl rfl rfl rfl fun a hF=>Bg hF rfl rfl rfl rfl rfl fun a hF=>st hF (A7 hF rfl rfl) rfl fun a hF=>ag hF rfl rfl fun a hF=>nt<|wp_ret<|BC rfl hF.defers (Ab hF rfl) ⟨_,rfl,hM.below,?_⟩
    show _=_
    first | exact congrArg Value.bool (decide_eq_true (by unfold BN;omega)).symm | exact congrArg Value.bool (decide_eq_false (by unfold BN;omega)).symm | exact congrArg Value.bool (decide_eq_decide.2 (by unfold BN;omega))
  first | rw [decide_eq_false g1] at hF | simp only [decide_eq_false g1] at hF
  refine BR hF rfl rfl rfl (At hF rfl) rfl fun a hF=>BR hF rfl rfl rfl (Bd hF rfl rfl) rfl fun a hF=>st hF (A3 hF rfl rfl) rfl fun a hF=>mv hF rfl rfl fun a hF=>?_
  by_cases g2:(x:Int)=3
  · first | rw [decide_eq_true g2] at hF | simp only [decide_eq_true g2] at hF
    refine Bg hF rfl rfl rfl rfl rfl fun a hF=>Bg hF rfl rfl rfl rfl rfl fun a hF=>st hF (A7 hF rfl rfl) rfl fun a hF=>mv hF rfl rfl fun a hF=>Bg hF rfl rfl rfl rfl rfl fun a hF=>Bg hF rfl rfl rfl rfl rfl fun a hF=>st hF (A7 hF rfl rfl) rfl fun a hF=>mv hF rfl rfl fun a hF=>Bg hF rfl rfl rfl rfl rfl fun a hF=>Bg hF rfl rfl rfl rfl rfl fun a hF=>st hF (A7 hF rfl rfl) rfl fun a hF=>mv hF rfl rfl fun a hF=>Bg hF rfl rfl rfl rfl rfl fun a hF=>Bg hF rfl rfl rfl rfl rfl fun a hF=>st hF (A7 hF rfl rfl) rfl fun a hF=>ag hF rfl rfl fun a hF=>nt<|wp_ret<|BC rfl hF.defers (Ab hF rfl) ⟨_,rfl,hM.below,?_⟩
    show _=_
    first | exact congrArg Value.bool (decide_eq_true (by unfold BN;omega)).symm | exact congrArg Value.bool (decide_eq_false (by unfold BN;omega)).symm | exact congrArg Value.bool (decide_eq_decide.2 (by unfold BN;omega))
  first | rw [decide_eq_false g2] at hF | simp only [decide_eq_false g2] at hF
  refine BR hF rfl rfl rfl (At hF rfl) rfl fun a hF=>BR hF rfl rfl rfl (Bd hF rfl rfl) rfl fun a hF=>st hF (A3 hF rfl rfl) rfl fun a hF=>mv hF rfl rfl fun a hF=>?_
  by_cases g3:(x:Int)=5
  · first | rw [decide_eq_true g3] at hF | simp only [decide_eq_true g3] at hF
    refine Bg hF rfl rfl rfl rfl rfl fun a hF=>Bg hF rfl rfl rfl rfl rfl fun a hF=>st hF (A7 hF rfl rfl) rfl fun a hF=>mv hF rfl rfl fun a hF=>Bg hF rfl rfl rfl rfl rfl fun a hF=>Bg hF rfl rfl rfl rfl rfl fun a hF=>st hF (A7 hF rfl rfl) rfl fun a hF=>mv hF rfl rfl fun a hF=>Bg hF rfl rfl rfl rfl rfl fun a hF=>Bg hF rfl rfl rfl rfl rfl fun a hF=>st hF (A7 hF rfl rfl) rfl fun a hF=>ag hF rfl rfl fun a hF=>nt<|wp_ret<|BC rfl hF.defers (Ab hF rfl) ⟨_,rfl,hM.below,?_⟩
    show _=_
    first | exact congrArg Value.bool (decide_eq_true (by unfold BN;omega)).symm | exact congrArg Value.bool (decide_eq_false (by unfold BN;omega)).symm | exact congrArg Value.bool (decide_eq_decide.2 (by unfold BN;omega))
  first | rw [decide_eq_false g3] at hF | simp only [decide_eq_false g3] at hF
  refine BR hF rfl rfl rfl (At hF rfl) rfl fun a hF=>BR hF rfl rfl rfl (Bd hF rfl rfl) rfl fun a hF=>st hF (A3 hF rfl rfl) rfl fun a hF=>mv hF rfl rfl fun a hF=>?_
  by_cases g4:(x:Int)=7
  · first | rw [decide_eq_true g4] at hF | simp only [decide_eq_true g4] at hF
    refine Bg hF rfl rfl rfl rfl rfl fun a hF=>Bg hF rfl rfl rfl rfl rfl fun a hF=>st hF (A7 hF rfl rfl) rfl fun a hF=>mv hF rfl rfl fun a hF=>Bg hF rfl rfl rfl rfl rfl fun a hF=>Bg hF rfl rfl rfl rfl rfl fun a hF=>st hF (A7 hF rfl rfl) rfl fun a hF=>ag hF rfl rfl fun a hF=>nt<|wp_ret<|BC rfl hF.defers (Ab hF rfl) ⟨_,rfl,hM.below,?_⟩
    show _=_
    first | exact congrArg Value.bool (decide_eq_true (by unfold BN;omega)).symm | exact congrArg Value.bool (decide_eq_false (by unfold BN;omega)).symm | exact congrArg Value.bool (decide_eq_decide.2 (by unfold BN;omega))
  first | rw [decide_eq_false g4] at hF | simp only [decide_eq_false g4] at hF
  refine BR hF rfl rfl rfl (At hF rfl) rfl fun a hF=>BR hF rfl rfl rfl (Bd hF rfl rfl) rfl fun a hF=>st hF (A3 hF rfl rfl) rfl fun a hF=>mv hF rfl rfl fun a hF=>?_
  by_cases g5:(x:Int)=11
  · first | rw [decide_eq_true g5] at hF | simp only [decide_eq_true g5] at hF
    refine Bg hF rfl rfl rfl rfl rfl fun a hF=>Bg hF rfl rfl rfl rfl rfl fun a hF=>st hF (A7 hF rfl rfl) rfl fun a hF=>ag hF rfl rfl fun a hF=>nt<|wp_ret<|BC rfl hF.defers (Ab hF rfl) ⟨_,rfl,hM.below,?_⟩
    show _=_
    first | exact congrArg Value.bool (decide_eq_true (by unfold BN;omega)).symm | exact congrArg Value.bool (decide_eq_false (by unfold BN;omega)).symm | exact congrArg Value.bool (decide_eq_decide.2 (by unfold BN;omega))
  first | rw [decide_eq_false g5] at hF | simp only [decide_eq_false g5] at hF
  refine BR hF rfl rfl rfl (At hF rfl) rfl fun a hF=>BR hF rfl rfl rfl (Bd hF rfl rfl) rfl fun a hF=>st hF (A3 hF rfl rfl) rfl fun a hF=>ag hF rfl rfl fun a hF=>nt<|wp_ret<|BC rfl hF.defers (Ab hF rfl) ⟨_,rfl,hM.below,?_⟩
  show _=_
  first | exact congrArg Value.bool (decide_eq_true (by unfold BN;omega)).symm | exact congrArg Value.bool (decide_eq_false (by unfold BN;omega)).symm | exact congrArg Value.bool (decide_eq_decide.2 (by unfold BN;omega))
theorem Ej (x lo hi:Int)(w:World) :
    CallsR Try.prog 101 #[.int .i64 (x),.int .i64 (lo),.int .i64 (hi)] w (fun res _=>res = .bool (decide (lo≤x∧x≤hi))):=by
  refine Ak [.int .i64 (x),.int .i64 (lo),.int .i64 (hi)] Try.func101 rfl Try.ntmps101 rfl fun a hF=>?_;have hM:Af w w [] []:=MemX.start w 0;change Fr 15 a [(0,.int .i64 (x)),(1,.int .i64 (lo)),(2,.int .i64 (hi))] at hF;refine sr<|ag hF rfl rfl fun a hF=>ns<|mv hF rfl rfl fun a hF=>mv hF rfl rfl fun a hF=>st hF (Fg hF rfl rfl) rfl fun a hF=>mv hF rfl rfl fun a hF=>?_
  by_cases g1:lo≤(x:Int)
  · first | rw [decide_eq_true g1] at hF | simp only [decide_eq_true g1] at hF
    refine BR hF rfl rfl rfl (At hF rfl) rfl fun a hF=>BR hF rfl rfl rfl (At hF rfl) rfl fun a hF=>BR hF rfl rfl rfl (KC hF rfl rfl) rfl fun a hF=>st hF (A7 hF rfl rfl) rfl fun a hF=>ag hF rfl rfl fun a hF=>nt<|wp_ret<|BC rfl hF.defers (Ab hF rfl) ⟨_,rfl,hM.below,?_⟩
    show _=_
    first | exact congrArg Value.bool (decide_eq_true (by omega)).symm | exact congrArg Value.bool (decide_eq_false (by omega)).symm | exact congrArg Value.bool (decide_eq_decide.2 (by omega))
  first | rw [decide_eq_false g1] at hF | simp only [decide_eq_false g1] at hF
  refine Bg hF rfl rfl rfl rfl rfl fun a hF=>Bg hF rfl rfl rfl rfl rfl fun a hF=>Bg hF rfl rfl rfl rfl rfl fun a hF=>st hF (A3 hF rfl rfl) rfl fun a hF=>ag hF rfl rfl fun a hF=>nt<|wp_ret<|BC rfl hF.defers (Ab hF rfl) ⟨_,rfl,hM.below,?_⟩
  show _=_
  first | exact congrArg Value.bool (decide_eq_true (by omega)).symm | exact congrArg Value.bool (decide_eq_false (by omega)).symm | exact congrArg Value.bool (decide_eq_decide.2 (by omega))
theorem Cv (p n:Int)(T:Nat→Nat→Nat→Nat)(f v:Nat→Nat)(w:World)(hv:∀ i,v i≤255) :
    CallsR Try.prog 91 #[.agg (AJ p n T f),.agg (AI v)] w (fun res _=>res = .bool (decide (okV p n v))):=by
  refine Ak [.agg (AJ p n T f),.agg (AI v)] Try.func91 rfl Try.ntmps91 rfl fun a hF=>?_;have hM:Af w w [none,none] []:=MemX.start w 2;change Fr 28 a [(0,.agg (AJ p n T f)),(1,.agg (AI v))] at hF;refine sr<|Am hF (Au 0 hM hF rfl) rfl ?_;rintro _ w' a ⟨b1,rfl,hM,-⟩ hF;refine Am hF (Au 1 hM hF rfl) rfl ?_;rintro _ w' a ⟨b2,rfl,hM,-⟩ hF;change Af w w' [some (b1,AJ p n T f),some (b2,AI v)] [] at hM;refine ag hF rfl rfl fun a hF=>nt<|sq<|sr<|st hF (AK AP hF rfl (hM.row 1 rfl) (by simp only [AR]<;>omega) (whole (by simp only [AR]))) rfl fun a hF=>mv hF rfl rfl fun a hF=>nt<|wp_block ?_;change Af w _ [some (b1,AJ p n T f),some (b2,AI v)] [] at hM;refine Az (fun (kk:Nat) a w'=>kk≤6∧(∀ i,i<kk→Fw p n (v i) i)∧Fr 28 a [(2,ptr b1 (0)),(7,.agg (AI v)),(8,.int .i64 (kk:Int))]∧Af w w' [some (b1,AJ p n T f),some (b2,AI v)] []) (fun kk=>6 - kk) 0 ?_ ?_
  · refine ⟨by omega,fun i hi=>absurd hi (by omega),hF.sub _ (by repeat' constructor),?_⟩
    exact hM
  clear hF hM;rintro gk a w' ⟨hgk,hinv1,hF,hM⟩;have hvb:=hv gk;refine sr<|st hF (A4 hF rfl rfl) rfl fun a hF=>nt<|sq<|Ad hF rfl (fun h3=>?_) (fun h3=>?_)
  · refine wp_skip ?_
    refine tN<|sq<|wp_block<|sr<|mv hF rfl rfl fun a hF=>st hF (E3 Di Al hF rfl rfl rfl (by omega) (BS (gk) (by omega) (by omega))) rfl fun a hF=>ag hF rfl rfl fun a hF=>ag hF rfl rfl fun a hF=>ns<|mv hF rfl rfl fun a hF=>st hF (A6 BH BK hF rfl (wrap_i64 (by omega) (by omega))) rfl fun a hF=>st hF (AN Aw hF rfl) rfl fun a hF=>st hF (AZ Ae hF rfl (hM.row 0 rfl) (BQ (by omega))) rfl fun a hF=>st hF (Fg hF rfl rfl) rfl fun a hF=>mv hF rfl rfl fun a hF=>?_
    by_cases g4:p≤((v (gk):Int):Int)
    · first | rw [decide_eq_true g4] at hF | simp only [decide_eq_true g4] at hF
      refine Bg hF rfl rfl rfl rfl rfl fun a hF=>Bg hF rfl rfl rfl rfl rfl fun a hF=>Bg hF rfl rfl rfl rfl rfl fun a hF=>Bg hF rfl rfl rfl rfl rfl fun a hF=>Bg hF rfl rfl rfl rfl rfl fun a hF=>NB hF rfl rfl rfl rfl fun a hF=>NB hF rfl rfl rfl rfl fun a hF=>Bg hF rfl rfl rfl rfl rfl fun a hF=>st hF (A7 hF rfl rfl) rfl fun a hF=>nt<|GN hF rfl<|sr<|ag hF rfl rfl fun a hF=>nt<|wp_ret<|iR<|tR<|tR<|iR<|tR<|BC rfl hF.defers (Ab hF rfl) ⟨_,rfl,hM.below,?_⟩
      show _=_
      exact CS (Gu gk (by omega) (by unfold Fw;omega))
    first | rw [decide_eq_false g4] at hF | simp only [decide_eq_false g4] at hF
    refine BR hF rfl rfl rfl (At hF rfl) rfl fun a hF=>BR hF rfl rfl rfl (AN Ai hF rfl) rfl fun a hF=>BR hF rfl rfl rfl (AZ Ae hF rfl (hM.row 0 rfl) (A5 (by omega))) rfl fun a hF=>BR hF rfl rfl rfl (Fg hF rfl rfl) rfl fun a hF=>BR hF rfl rfl rfl (At hF rfl) rfl fun a hF=>?_
    by_cases g6:n≤((gk:Int):Int)
    · first | rw [decide_eq_true g6] at hF | simp only [decide_eq_true g6] at hF
      refine BR hF rfl rfl rfl (At hF rfl) rfl fun a hF=>BR hF rfl rfl rfl (Bz hF rfl rfl) rfl fun a hF=>BR hF rfl rfl rfl (A7 hF rfl rfl) rfl fun a hF=>st hF (A3 hF rfl rfl) rfl fun a hF=>nt<|Ad hF rfl (fun h7=>?_) (fun h7=>?_)
      · refine sq ?_
        refine wp_region_lit<|ag hF rfl rfl fun a hF=>nt<|wp_ret<|iR<|tR<|tR<|iR<|tR<|BC rfl hF.defers (Ab hF rfl) ⟨_,rfl,hM.below,?_⟩
        show _=_
        exact CS (Gu gk (by omega) (by unfold Fw;omega))
      refine wp_skip<|iN<|tN<|wp_region_lit<|st hF (Ar hF rfl rfl (Aj (gk) (1) (by omega))) rfl fun a hF=>mv hF rfl rfl fun a hF=>nt<|⟨gk+1,⟨by omega,Nf hinv1 (by unfold Fw;omega),hF.sub _ (by repeat' constructor),?_⟩,by omega⟩;exact hM
    first | rw [decide_eq_false g6] at hF | simp only [decide_eq_false g6] at hF
    refine Bg hF rfl rfl rfl rfl rfl fun a hF=>Bg hF rfl rfl rfl rfl rfl fun a hF=>BR hF rfl rfl rfl (A3 hF rfl rfl) rfl fun a hF=>st hF (A3 hF rfl rfl) rfl fun a hF=>nt<|DT hF rfl<|wp_skip<|iN<|tN<|wp_region_lit<|st hF (Ar hF rfl rfl (Aj (gk) (1) (by omega))) rfl fun a hF=>mv hF rfl rfl fun a hF=>nt<|⟨gk+1,⟨by omega,Nf hinv1 (by unfold Fw;omega),hF.sub _ (by repeat' constructor),?_⟩,by omega⟩;exact hM
  obtain rfl:6=gk:=by omega
  refine wp_exit<|tX<|tX<|Aq<|tN<|sr<|ag hF rfl rfl fun a hF=>nt<|wp_ret<|BC rfl hF.defers (Ab hF rfl) ⟨_,rfl,hM.below,?_⟩
  show _=_
  exact GO hinv1
theorem DR (p n:Int)(v:Nat→Nat)(w:World)(hv:∀ i,v i≤255) :
    CallsR Try.prog 165 #[.int .i64 (p),.int .i64 (n),.agg (AI v)] w (fun res _=>res = .bool (decide (okV p n v))):=by
  refine Ak [.int .i64 (p),.int .i64 (n),.agg (AI v)] Try.func165 rfl Try.ntmps165 rfl fun a hF=>?_;have hM:Af w w [none] []:=MemX.start w 1;change Fr 29 a [(0,.int .i64 (p)),(1,.int .i64 (n)),(2,.agg (AI v))] at hF;refine sr<|Am hF (Au 0 hM hF rfl) rfl ?_;rintro _ w' a ⟨b1,rfl,hM,-⟩ hF;refine ag hF rfl rfl fun a hF=>nt<|sq<|sr<|ag hF rfl rfl fun a hF=>nt<|wp_block ?_;change Af w _ [some (b1,AI v)] [] at hM;refine Az (fun (kk:Nat) a w'=>kk≤6∧(∀ i,i<kk→Fw p n (v i) i)∧Fr 29 a [(0,.int .i64 (p)),(1,.int .i64 (n)),(5,ptr b1 (0)),(7,.int .i64 (kk:Int))]∧Af w w' [some (b1,AI v)] []) (fun kk=>6 - kk) 0 ?_ ?_
  · refine ⟨by omega,fun i hi=>absurd hi (by omega),hF.sub _ (by repeat' constructor),?_⟩
    exact hM
  clear hF hM;rintro gk a w' ⟨hgk,hinv1,hF,hM⟩;have hvb:=hv gk;refine sq<|sr<|mv hF rfl rfl fun a hF=>st hF (A4 hF rfl rfl) rfl fun a hF=>nt<|Ad hF rfl (fun h2=>?_) (fun h2=>?_)
  · refine wp_skip ?_
    refine tN<|sq<|wp_block<|sr<|mv hF rfl rfl fun a hF=>st hF (AS Ax hF rfl rfl rfl (by omega)) rfl fun a hF=>st hF (AZ Al hF rfl (hM.row 0 rfl) (BS (gk) (by omega) (by omega))) rfl fun a hF=>st hF (A6 BH BK hF rfl (wrap_i64 (by omega) (by omega))) rfl fun a hF=>mv hF rfl rfl fun a hF=>st hF (Fg hF rfl rfl) rfl fun a hF=>mv hF rfl rfl fun a hF=>?_
    by_cases g3:p≤((v (gk):Int):Int)
    · first | rw [decide_eq_true g3] at hF | simp only [decide_eq_true g3] at hF
      refine Bg hF rfl rfl rfl rfl rfl fun a hF=>Bg hF rfl rfl rfl rfl rfl fun a hF=>Bg hF rfl rfl rfl rfl rfl fun a hF=>Bg hF rfl rfl rfl rfl rfl fun a hF=>NB hF rfl rfl rfl rfl fun a hF=>NB hF rfl rfl rfl rfl fun a hF=>NB hF rfl rfl rfl rfl fun a hF=>NB hF rfl rfl rfl rfl fun a hF=>Bg hF rfl rfl rfl rfl rfl fun a hF=>st hF (A7 hF rfl rfl) rfl fun a hF=>nt<|GN hF rfl<|sr<|ag hF rfl rfl fun a hF=>nt<|wp_ret<|iR<|tR<|tR<|iR<|tR<|BC rfl hF.defers (Ab hF rfl) ⟨_,rfl,hM.below,?_⟩
      show _=_
      exact CS (Gu gk (by omega) (by unfold Fw;omega))
    first | rw [decide_eq_false g3] at hF | simp only [decide_eq_false g3] at hF
    refine BR hF rfl rfl rfl (At hF rfl) rfl fun a hF=>BR hF rfl rfl rfl (At hF rfl) rfl fun a hF=>BR hF rfl rfl rfl (Fg hF rfl rfl) rfl fun a hF=>BR hF rfl rfl rfl (At hF rfl) rfl fun a hF=>?_
    by_cases g5:n≤((gk:Int):Int)
    · first | rw [decide_eq_true g5] at hF | simp only [decide_eq_true g5] at hF
      refine BR hF rfl rfl rfl (At hF rfl) rfl fun a hF=>BR hF rfl rfl rfl (AS Ax hF rfl rfl rfl (by omega)) rfl fun a hF=>BR hF rfl rfl rfl (AZ Al hF rfl (hM.row 0 rfl) (BS (gk) (by omega) (by omega))) rfl fun a hF=>BR hF rfl rfl rfl (Bz hF rfl rfl) rfl fun a hF=>BR hF rfl rfl rfl (A7 hF rfl rfl) rfl fun a hF=>st hF (A3 hF rfl rfl) rfl fun a hF=>nt<|Ad hF rfl (fun h6=>?_) (fun h6=>?_)
      · refine sq ?_
        refine wp_region_lit<|ag hF rfl rfl fun a hF=>nt<|wp_ret<|iR<|tR<|tR<|iR<|tR<|BC rfl hF.defers (Ab hF rfl) ⟨_,rfl,hM.below,?_⟩
        show _=_
        exact CS (Gu gk (by omega) (by unfold Fw;omega))
      refine wp_skip<|iN<|tN<|wp_region_lit<|mv hF rfl rfl fun a hF=>st hF (Ar hF rfl rfl (Aj (gk) (1) (by omega))) rfl fun a hF=>ag hF rfl rfl fun a hF=>nt<|⟨gk+1,⟨by omega,Nf hinv1 (by unfold Fw;omega),hF.sub _ (by repeat' constructor),?_⟩,by omega⟩;exact hM
    first | rw [decide_eq_false g5] at hF | simp only [decide_eq_false g5] at hF
    refine Bg hF rfl rfl rfl rfl rfl fun a hF=>Bg hF rfl rfl rfl rfl rfl fun a hF=>Bg hF rfl rfl rfl rfl rfl fun a hF=>Bg hF rfl rfl rfl rfl rfl fun a hF=>BR hF rfl rfl rfl (A3 hF rfl rfl) rfl fun a hF=>st hF (A3 hF rfl rfl) rfl fun a hF=>nt<|DT hF rfl<|wp_skip<|iN<|tN<|wp_region_lit<|mv hF rfl rfl fun a hF=>st hF (Ar hF rfl rfl (Aj (gk) (1) (by omega))) rfl fun a hF=>ag hF rfl rfl fun a hF=>nt<|⟨gk+1,⟨by omega,Nf hinv1 (by unfold Fw;omega),hF.sub _ (by repeat' constructor),?_⟩,by omega⟩;exact hM
  obtain rfl:6=gk:=by omega
  refine wp_exit<|tX<|tX<|Aq<|tN<|sr<|ag hF rfl rfl fun a hF=>nt<|wp_ret<|BC rfl hF.defers (Ab hF rfl) ⟨_,rfl,hM.below,?_⟩
  show _=_
  exact GO hinv1
theorem HK {x p:Nat}(hp:0<p)(hp2:p<100):IntKind.u8.wrap ((x%p:Nat):Int)=((x%p:Nat):Int):=by
  have:=Nat.mod_lt x hp;exact wrap_u8 (by omega) (by omega)
theorem Fo {x y z:Nat}(h:x+y<9223372036854775808)(e:x+y=z):IntKind.i64.wrap ((x:Int)+(y:Int))=(z:Int):=e ▸ Aj x y h
theorem Mj {q f:Nat→Nat}{k c x:Nat}(hx:x=q k)(hf:∀ c,f c=if c<k then q c else 0):((if c=k then x else f c:Nat):Int)=((if c<k+1 then q c else 0:Nat):Int):=by
  rw [hf]
  by_cases e:c=k
  · subst e;simp [hx]
  · have e0:(c<k+1)=(c<k):=by apply propext;omega
    simp [e,e0]
def timesS (p n:Nat) (T:Nat→Nat→Nat→Nat) (v u:Nat→Nat) (c:Nat):Nat:=if c<n then timesV p n T v u c else 0
def invN (x p:Nat):Nat:=((List.range p).find? (fun c=>c*x%p == 1)).getD 0
theorem H1 {x p k:Nat}(hk:k<p)(h:∀ c,c<k→¬ c*x%p=1)(h1:k*x%p=1):invN x p=k:=by
  unfold invN
  have:(List.range p).find? (fun c=>c*x%p == 1)=some k:=by
    rw [List.find?_eq_some_iff_append];refine ⟨by simpa using h1,List.range k,(List.range (p - k - 1)).map (fun x=>k+1+x),?_,?_⟩
    · have e:List.range p=List.range (k+(p - k)):=by congr 1;omega
      rw [e,List.range_add]
      congr 1
      rw [show p - k=(p - k - 1)+1 by omega,List.range_succ_eq_map]
      simp [Function.comp_def,Nat.add_assoc,Nat.add_comm]
      intro a _;omega
    · intro c hc;simpa using h c (by simpa using hc)
  rw [this];rfl
theorem H2 {x p:Nat}(h:∀ c,c<p→¬ c*x%p=1):invN x p=0:=by
  unfold invN
  have:(List.range p).find? (fun c=>c*x%p == 1)=none:=by
    rw [List.find?_eq_none];intro c hc;simpa using h c (by simpa using hc)
  rw [this];rfl
theorem noS {x p k:Nat}(h:∀ c,c<k→¬ c*x%p=1)(h1:¬ ((k*x%p:Nat):Int)=1):∀ c,c<k+1→¬ c*x%p=1:=fun c hc=>by
  by_cases e:c=k
  · subst e;omega
  · exact h c (by omega)
theorem Bx (p n:Nat)(T:Nat→Nat→Nat→Nat)(f v u:Nat→Nat)(w:World)(hp:0<p)(hp2:p<100)(hn:n≤6)(hT:∀ i j k,T i j k≤255)(hv:∀ i,v i≤255)(hu:∀ i,u i≤255) :
    CallsR Try.prog 89 #[.agg (AJ (p:Int) (n:Int) T f),.agg (AI v),.agg (AI u)] w (fun res _=>res = .agg (AI (timesS p n T v u))):=by
  refine Ak [.agg (AJ (p:Int) (n:Int) T f),.agg (AI v),.agg (AI u)] Try.func89 rfl Try.ntmps89 rfl fun a hF=>?_;have hM:Af w w [none,none,none,none,none] []:=MemX.start w 5;change Fr 60 a [(0,.agg (AJ (p:Int) (n:Int) T f)),(1,.agg (AI v)),(2,.agg (AI u))] at hF;refine sr<|Am hF (Au 0 hM hF rfl) rfl ?_;rintro _ w' a ⟨b1,rfl,hM,-⟩ hF;refine Am hF (Au 1 hM hF rfl) rfl ?_;rintro _ w' a ⟨b2,rfl,hM,-⟩ hF;refine Am hF (Au 2 hM hF rfl) rfl ?_;rintro _ w' a ⟨b3,rfl,hM,-⟩ hF;refine Am hF (AW 3 hM Ac) rfl ?_;rintro _ w' a ⟨b4,rfl,hM,-⟩ hF;refine ns<|st hF (BM BL) rfl fun a hF=>Am hF (AW 4 hM Ac) rfl ?_;rintro _ w' a ⟨b5,rfl,hM,-⟩ hF;change Af w w' [some (b1,AJ (p:Int) (n:Int) T f),some (b2,AI v),some (b3,AI u),some (b4,Ag 6 (fun _=>.int .u8 (0))),some (b5,Ag 6 (fun _=>.int .u8 (0)))] [] at hM;refine A8 hF (AO 4 hM rfl AY hF rfl rfl (by first | exact AT | exact cells_one | (refine AV fun _ _=>?_;first | rfl | (split<;>rfl))) (by simp only [AR]) (by simp only [AR]<;>omega) (AL _ _ (by simp only [AR]))) ?_;intro _ w' a hM hF;refine nt<|sq<|sr<|ag hF rfl rfl fun a hF=>nt<|wp_block ?_;change Af w _ [some (b1,AJ (p:Int) (n:Int) T f),some (b2,AI v),some (b3,AI u),some (b4,Ag 6 (fun _=>.int .u8 (0))),some (b5,Ag 6 (fun _=>.int .u8 (0)))] [] at hM;refine Az (fun (kk:Nat) a w'=>kk≤n∧(True)∧Fr 60 a [(3,ptr b1 (0)),(4,ptr b2 (0)),(5,ptr b3 (0)),(6,ptr b4 (0)),(7,ptr b5 (0)),(8,.int .i64 (kk:Int))]∧Af w w' [some (b1,AJ (p:Int) (n:Int) T f),some (b2,AI v),some (b3,AI u),some (b4,Ag 6 (fun _=>.int .u8 (0))),some (b5,Ag 6 (fun c=>.int .u8 ((if c<kk then timesV p n T v u c else 0:Nat):Int)))] []) (fun kk=>n - kk) 0 ?_ ?_
  · refine ⟨by omega,trivial,hF.sub _ (by repeat' constructor),?_⟩
    exact hM.cast (by simp)
  clear hF hM;rintro gk a w' ⟨hgk,hinv1,hF,hM⟩;refine sq<|sr<|mv hF rfl rfl fun a hF=>st hF (AN Ai hF rfl) rfl fun a hF=>st hF (AZ Ae hF rfl (hM.row 0 rfl) (A5 (by omega))) rfl fun a hF=>st hF (A4 hF rfl rfl) rfl fun a hF=>nt<|Ad hF rfl (fun h6=>?_) (fun h6=>?_)
  · refine wp_skip ?_
    refine tN<|sq<|wp_block<|sr<|ag hF rfl rfl fun a hF=>nt<|sq<|sr<|ag hF rfl rfl fun a hF=>nt<|wp_block ?_;change Af w _ [some (b1,AJ (p:Int) (n:Int) T f),some (b2,AI v),some (b3,AI u),some (b4,Ag 6 (fun _=>.int .u8 (0))),some (b5,Ag 6 (fun c=>.int .u8 ((if c<gk then timesV p n T v u c else 0:Nat):Int)))] [] at hM;refine Az (fun (kk:Nat) a w'=>kk≤n∧(True)∧Fr 60 a [(3,ptr b1 (0)),(4,ptr b2 (0)),(5,ptr b3 (0)),(6,ptr b4 (0)),(7,ptr b5 (0)),(8,.int .i64 (gk:Int)),(13,.int .i64 (gk:Int)),(14,ptr b1 (0+1)),(15,.int .i64 (n:Int)),(16,.bool (decide (((gk:Int):Int)<(n:Int)))),(9,.int .i64 ((prodI T v u n kk gk:Int))),(10,.int .i64 (kk:Int))]∧Af w w' [some (b1,AJ (p:Int) (n:Int) T f),some (b2,AI v),some (b3,AI u),some (b4,Ag 6 (fun _=>.int .u8 (0))),some (b5,Ag 6 (fun c=>.int .u8 ((if c<gk then timesV p n T v u c else 0:Nat):Int)))] []) (fun kk=>n - kk) 0 ?_ ?_
    · refine ⟨by omega,trivial,hF.sub _ (by repeat' constructor),?_⟩
      exact hM
    clear hF hM;rintro gi a w' ⟨hgi,hinv2,hF,hM⟩;refine sq<|sr<|mv hF rfl rfl fun a hF=>st hF (AN Ai hF rfl) rfl fun a hF=>st hF (AZ Ae hF rfl (hM.row 0 rfl) (A5 (by omega))) rfl fun a hF=>st hF (A4 hF rfl rfl) rfl fun a hF=>nt<|Ad hF rfl (fun h7=>?_) (fun h7=>?_)
    · refine wp_skip ?_
      refine tN<|sq<|wp_block<|sr<|ag hF rfl rfl fun a hF=>nt<|wp_block ?_;change Af w _ [some (b1,AJ (p:Int) (n:Int) T f),some (b2,AI v),some (b3,AI u),some (b4,Ag 6 (fun _=>.int .u8 (0))),some (b5,Ag 6 (fun c=>.int .u8 ((if c<gk then timesV p n T v u c else 0:Nat):Int)))] [] at hM;refine Az (fun (kk:Nat) a w'=>kk≤n∧(True)∧Fr 60 a [(3,ptr b1 (0)),(4,ptr b2 (0)),(5,ptr b3 (0)),(6,ptr b4 (0)),(7,ptr b5 (0)),(8,.int .i64 (gk:Int)),(13,.int .i64 (gk:Int)),(14,ptr b1 (0+1)),(15,.int .i64 (n:Int)),(16,.bool (decide (((gk:Int):Int)<(n:Int)))),(10,.int .i64 (gi:Int)),(19,.int .i64 (gi:Int)),(20,ptr b1 (0+1)),(21,.int .i64 (n:Int)),(22,.bool (decide (((gi:Int):Int)<(n:Int)))),(9,.int .i64 (((prodI T v u n gi gk+sumTo (fun j=>v gi*u j*T gi j gk) kk:Nat):Int))),(11,.int .i64 (kk:Int))]∧Af w w' [some (b1,AJ (p:Int) (n:Int) T f),some (b2,AI v),some (b3,AI u),some (b4,Ag 6 (fun _=>.int .u8 (0))),some (b5,Ag 6 (fun c=>.int .u8 ((if c<gk then timesV p n T v u c else 0:Nat):Int)))] []) (fun kk=>n - kk) 0 ?_ ?_
      · refine ⟨by omega,trivial,hF.sub _ (by repeat' constructor),?_⟩
        exact hM
      clear hF hM;rintro gj a w' ⟨hgj,hinv3,hF,hM⟩;have hb1:=IN (T:=T) hv hu hT hn hgi hgj gk;have hb2:=Gs (hv gi) (hu gj) (hT gi gj gk);have hvi:=hv gi;have huj:=hu gj;have htk:=hT gi gj gk;have hvv:=EZ (hv gi) (hu gj);refine sq<|sr<|mv hF rfl rfl fun a hF=>st hF (AN Ai hF rfl) rfl fun a hF=>st hF (AZ Ae hF rfl (hM.row 0 rfl) (A5 (by omega))) rfl fun a hF=>st hF (A4 hF rfl rfl) rfl fun a hF=>nt<|Ad hF rfl (fun h8=>?_) (fun h8=>?_)
      · refine wp_skip ?_
        refine tN<|sq<|wp_block<|BY 20 [] [.val (.int .i64 (((prodI T v u n gi gk+sumTo (fun j=>v gi*u j*T gi j gk) gj:Nat):Int))),.val (.int .i64 (gi:Int)),.val (ptr b2 (0+(gi)*1)),.val (.int .u8 ((v (gi):Int))),.val (.int .i64 ((v (gi):Int))),.val (.int .i64 (gj:Int)),.val (ptr b3 (0+(gj)*1)),.val (.int .u8 ((u (gj):Int))),.val (.int .i64 ((u (gj):Int))),.val (.int .i64 ((((v (gi))*(u (gj)):Nat):Int))),.val (.int .i64 (gi:Int)),.val (.int .i64 (gj:Int)),.val (.int .i64 (gk:Int)),.val (ptr b1 (0+2)),.val (ptr b1 (0+2+(gi)*36)),.val (ptr b1 (0+2+(gi)*36+(gj)*6)),.val (ptr b1 (0+2+(gi)*36+(gj)*6+(gk)*1)),.val (.int .u8 ((T (gi) (gj) (gk):Int))),.val (.int .i64 ((T (gi) (gj) (gk):Int))),.val (.int .i64 (((((v (gi))*(u (gj)))*(T (gi) (gj) (gk)):Nat):Int)))] Bc rfl hF rfl hM ⟨fun a w gG hF hS hd=>by exact BP hS rfl hF rfl,fun a w gG hF hS hd=>by exact BP hS rfl hF rfl,fun a w gG hF hS hd=>by have hF:=hF.ext1 32 (hd 1 rfl rfl);exact AM hS rfl (AS Ax hF rfl rfl rfl (by omega)),fun a w gG hF hS hd=>by have hF:=hF.ext1 33 (hd 2 rfl rfl);have hM:=hS.mem rfl;exact AM hS rfl (AZ Al hF rfl (hM.row 1 rfl) (BS (gi) (by omega) (by omega))),fun a w gG hF hS hd=>by have hF:=hF.ext1 34 (hd 3 rfl rfl);exact AM hS rfl (A6 BH BK hF rfl (wrap_i64 (by omega) (by omega))),fun a w gG hF hS hd=>by exact BP hS rfl hF rfl,fun a w gG hF hS hd=>by have hF:=hF.ext1 36 (hd 5 rfl rfl);exact AM hS rfl (AS Ax hF rfl rfl rfl (by omega)),fun a w gG hF hS hd=>by have hF:=hF.ext1 37 (hd 6 rfl rfl);have hM:=hS.mem rfl;exact AM hS rfl (AZ Al hF rfl (hM.row 2 rfl) (BS (gj) (by omega) (by omega))),fun a w gG hF hS hd=>by have hF:=hF.ext1 38 (hd 7 rfl rfl);exact AM hS rfl (A6 BH BK hF rfl (wrap_i64 (by omega) (by omega))),fun a w gG hF hS hd=>by have hF:=hF.ext1 35 (hd 4 rfl rfl);have hF:=hF.ext1 39 (hd 8 rfl rfl);exact AM hS rfl (CA hF rfl rfl (Bj (v gi) (u gj) (by omega))),fun a w gG hF hS hd=>by exact BP hS rfl hF rfl,fun a w gG hF hS hd=>by exact BP hS rfl hF rfl,fun a w gG hF hS hd=>by exact BP hS rfl hF rfl,fun a w gG hF hS hd=>by exact AM hS rfl (AN BD hF rfl),fun a w gG hF hS hd=>by have hF:=hF.ext1 41 (hd 10 rfl rfl);have hF:=hF.ext1 44 (hd 13 rfl rfl);exact AM hS rfl (AS BT hF rfl rfl rfl (by omega)),fun a w gG hF hS hd=>by have hF:=hF.ext1 42 (hd 11 rfl rfl);have hF:=hF.ext1 45 (hd 14 rfl rfl);exact AM hS rfl (AS BU hF rfl rfl rfl (by omega)),fun a w gG hF hS hd=>by have hF:=hF.ext1 43 (hd 12 rfl rfl);have hF:=hF.ext1 46 (hd 15 rfl rfl);exact AM hS rfl (AS B6 hF rfl rfl rfl (by omega)),fun a w gG hF hS hd=>by have hF:=hF.ext1 47 (hd 16 rfl rfl);have hM:=hS.mem rfl;exact AM hS rfl (AZ Al hF rfl (hM.row 0 rfl) (C4 (gi) (gj) (gk) (by omega) (by omega) (by omega) (by omega))),fun a w gG hF hS hd=>by have hF:=hF.ext1 48 (hd 17 rfl rfl);exact AM hS rfl (A6 BH BK hF rfl (wrap_i64 (by omega) (by omega))),fun a w gG hF hS hd=>by have hF:=hF.ext1 40 (hd 9 rfl rfl);have hF:=hF.ext1 49 (hd 18 rfl rfl);exact AM hS rfl (CA hF rfl rfl (Bj (v gi*u gj) (T gi gj gk) (by omega))),trivial⟩ ?_;intro a w' L hF hS hq;have hF:=hF.ext1 31 (hq 0 rfl rfl);have hF:=hF.ext1 32 (hq 1 rfl rfl);have hF:=hF.ext1 33 (hq 2 rfl rfl);have hF:=hF.ext1 34 (hq 3 rfl rfl);have hF:=hF.ext1 35 (hq 4 rfl rfl);have hF:=hF.ext1 36 (hq 5 rfl rfl);have hF:=hF.ext1 37 (hq 6 rfl rfl);have hF:=hF.ext1 38 (hq 7 rfl rfl);have hF:=hF.ext1 39 (hq 8 rfl rfl);have hF:=hF.ext1 40 (hq 9 rfl rfl);have hF:=hF.ext1 41 (hq 10 rfl rfl)
        have hF:=hF.ext1 42 (hq 11 rfl rfl);have hF:=hF.ext1 43 (hq 12 rfl rfl);have hF:=hF.ext1 44 (hq 13 rfl rfl);have hF:=hF.ext1 45 (hq 14 rfl rfl);have hF:=hF.ext1 46 (hq 15 rfl rfl);have hF:=hF.ext1 47 (hq 16 rfl rfl);have hF:=hF.ext1 48 (hq 17 rfl rfl);have hF:=hF.ext1 49 (hq 18 rfl rfl);have hF:=hF.ext1 50 (hq 19 rfl rfl);have hM:=hS.mem rfl;change wpList Try.prog _ _ [_,_] _ _;refine st hF (Ar hF rfl rfl (show _=((prodI T v u n gi gk+sumTo (fun j=>v gi*u j*T gi j gk) (gj+1):Nat):Int) from (Fo (by omega) (by simp only [sumTo,Nat.add_assoc])))) rfl fun a hF=>ag hF rfl rfl fun a hF=>wpList_nil<|iN<|tN<|wp_region_lit<|mv hF rfl rfl fun a hF=>st hF (Ar hF rfl rfl (Aj (gj) (1) (by omega))) rfl fun a hF=>ag hF rfl rfl fun a hF=>nt<|⟨gj+1,⟨by omega,trivial,hF.sub _ (by repeat' constructor),?_⟩,by omega⟩;exact hM
      obtain rfl:n=gj:=by omega
      refine wp_exit<|tX<|tX<|Aq<|iN<|tN<|wp_region_lit<|mv hF rfl rfl fun a hF=>st hF (Ar hF rfl rfl (Aj (gi) (1) (by omega))) rfl fun a hF=>ag hF rfl rfl fun a hF=>nt<|⟨gi+1,⟨by omega,trivial,hF.sub _ (by repeat' constructor),?_⟩,by omega⟩;exact hM
    obtain rfl:n=gi:=by omega
    refine wp_exit<|tX<|tX<|Aq<|tN<|wp_region_lit<|mv hF rfl rfl fun a hF=>mv hF rfl rfl fun a hF=>st hF (AN Aw hF rfl) rfl fun a hF=>st hF (AZ Ae hF rfl (hM.row 0 rfl) (BQ (by omega))) rfl fun a hF=>st hF (CY hF rfl rfl (by omega) (CU (prodI T v u n n gk) (p))) rfl fun a hF=>st hF (A6 B3 B4 hF rfl (HK hp hp2)) rfl fun a hF=>st hF (AS Ax hF rfl rfl rfl (by omega)) rfl fun a hF=>A8 hF (A0 4 hM rfl Al hF rfl rfl rfl (by first | omega | (simp only [AR]<;>omega) | (simp only [Array.size_setIfInBounds];omega) | simp)) ?_;intro _ w' a hM hF;rw [show (Ag 6 (fun c=>.int .u8 ((if c<gk then timesV p n T v u c else 0:Nat):Int))).setIfInBounds (0+(gk)*1) (.int .u8 ((((prodI T v u n n gk)%(p):Nat):Int)))=Ag 6 (fun c=>.int .u8 (((if c=gk then (prodI T v u n n gk)%(p) else if c<gk then timesV p n T v u c else 0):Nat):Int)) from By (fun c _=>by rw [show 0+(gk)*1=gk by omega];by_cases hh:c=gk<;>simp [hh])] at hM;change Af w w' [some (b1,AJ (p:Int) (n:Int) T f),some (b2,AI v),some (b3,AI u),some (b4,Ag 6 (fun _=>.int .u8 (0))),some (b5,Ag 6 (fun c=>.int .u8 (((if c=gk then (prodI T v u n n gk)%(p) else if c<gk then timesV p n T v u c else 0):Nat):Int)))] [] at hM;refine wpList_nil<|iN<|tN<|wp_region_lit<|mv hF rfl rfl fun a hF=>st hF (Ar hF rfl rfl (Aj (gk) (1) (by omega))) rfl fun a hF=>ag hF rfl rfl fun a hF=>nt<|⟨gk+1,⟨by omega,trivial,hF.sub _ (by repeat' constructor),?_⟩,by omega⟩;exact hM.rowc 4 rfl (BV fun c hc=>congrArg (Value.int .u8) (Mj rfl fun _=>rfl))
  obtain rfl:n=gk:=by omega
  refine wp_exit<|tX<|tX<|Aq<|tN<|sr<|st hF (AK AP hF rfl (hM.row 4 rfl) (by simp only [AR]<;>omega) (whole (by simp only [AR]))) rfl fun a hF=>A8 hF (AO 3 hM rfl AY hF rfl rfl (by first | exact AT | exact cells_one | (refine AV fun _ _=>?_;first | rfl | (split<;>rfl))) (by simp only [AR]) (by simp only [AR]<;>omega) (AL _ _ (by simp only [AR]))) ?_;intro _ w' a hM hF;change Af w w' [some (b1,AJ (p:Int) (n:Int) T f),some (b2,AI v),some (b3,AI u),some (b4,Ag 6 (fun c=>.int .u8 ((if c<n then timesV p n T v u c else 0:Nat):Int))),some (b5,Ag 6 (fun c=>.int .u8 ((if c<n then timesV p n T v u c else 0:Nat):Int)))] [] at hM;refine nt<|wp_ret<|BC rfl hF.defers (Ao AP hF rfl (hM.row 3 rfl) (by simp only [AR])) ⟨_,rfl,hM.below,?_⟩
  show _=_
  exact congrArg Value.agg (BV fun c hc=>rfl)
theorem Bo (i:Nat)(w:World)(hi:i<6) :
    CallsR Try.prog 143 #[.int .i64 (i:Int)] w (fun res _=>res = .agg (AI (fun c=>if c=i then 1 else 0))):=by
  refine Ak [.int .i64 (i:Int)] Try.func143 rfl Try.ntmps143 rfl fun a hF=>?_;have hM:Af w w [none,none] []:=MemX.start w 2;change Fr 8 a [(0,.int .i64 (i:Int))] at hF;refine sr<|Am hF (AW 0 hM Ac) rfl ?_;rintro _ w' a ⟨b1,rfl,hM,-⟩ hF;refine ns<|st hF (BM BL) rfl fun a hF=>Am hF (AW 1 hM Ac) rfl ?_;rintro _ w' a ⟨b2,rfl,hM,-⟩ hF;change Af w w' [some (b1,Ag 6 (fun _=>.int .u8 (0))),some (b2,Ag 6 (fun _=>.int .u8 (0)))] [] at hM;refine A8 hF (AO 1 hM rfl AY hF rfl rfl (by first | exact AT | exact cells_one | (refine AV fun _ _=>?_;first | rfl | (split<;>rfl))) (by simp only [AR]) (by simp only [AR]<;>omega) (AL _ _ (by simp only [AR]))) ?_;intro _ w' a hM hF;change Af w w' [some (b1,Ag 6 (fun _=>.int .u8 (0))),some (b2,Ag 6 (fun _=>.int .u8 (0)))] [] at hM;refine ns<|mv hF rfl rfl fun a hF=>st hF (AS Ax hF rfl rfl rfl (by omega)) rfl fun a hF=>A8 hF (A0 1 hM rfl Al hF rfl rfl rfl (by first | omega | (simp only [AR]<;>omega) | (simp only [Array.size_setIfInBounds];omega) | simp)) ?_;intro _ w' a hM hF;rw [show (Ag 6 (fun x=>.int .u8 (0))).setIfInBounds (0+(i)*1) (.int .u8 (1))=Ag 6 (fun x=>.int .u8 (((if x=i then 1 else 0):Nat):Int)) from By (fun x _=>by rw [show 0+(i)*1=i by omega];by_cases hh:x=i<;>simp [hh])] at hM;change Af w w' [some (b1,Ag 6 (fun _=>.int .u8 (0))),some (b2,Ag 6 (fun x=>.int .u8 (((if x=i then 1 else 0):Nat):Int)))] [] at hM;refine ns<|st hF (AK AP hF rfl (hM.row 1 rfl) (by simp only [AR]<;>omega) (whole (by simp only [AR]))) rfl fun a hF=>A8 hF (AO 0 hM rfl AY hF rfl rfl (by first | exact AT | exact cells_one | (refine AV fun _ _=>?_;first | rfl | (split<;>rfl))) (by simp only [AR]) (by simp only [AR]<;>omega) (AL _ _ (by simp only [AR]))) ?_;intro _ w' a hM hF;change Af w w' [some (b1,Ag 6 (fun x=>.int .u8 (((if x=i then 1 else 0):Nat):Int))),some (b2,Ag 6 (fun x=>.int .u8 (((if x=i then 1 else 0):Nat):Int)))] [] at hM;refine nt<|wp_ret<|BC rfl hF.defers (Ao AP hF rfl (hM.row 0 rfl) (by simp only [AR])) ⟨_,rfl,hM.below,?_⟩
  show _=_
  rfl
theorem MK (p n:Nat)(T:Nat→Nat→Nat→Nat)(f v:Nat→Nat)(w:World)(hp:0<p)(hf:∀ i,f i≤255)(hv:∀ i,v i≤255) :
    CallsR Try.prog 106 #[.agg (AJ (p:Int) (n:Int) T f),.agg (AI v)] w (fun res _=>res = .int .i64 ((sumTo (fun i=>v i*f i) 6%p:Nat):Int)):=by
  refine Ak [.agg (AJ (p:Int) (n:Int) T f),.agg (AI v)] Try.func106 rfl Try.ntmps106 rfl fun a hF=>?_;have hM:Af w w [none,none] []:=MemX.start w 2;change Fr 28 a [(0,.agg (AJ (p:Int) (n:Int) T f)),(1,.agg (AI v))] at hF;refine sr<|Am hF (Au 0 hM hF rfl) rfl ?_;rintro _ w' a ⟨b1,rfl,hM,-⟩ hF;refine Am hF (Au 1 hM hF rfl) rfl ?_;rintro _ w' a ⟨b2,rfl,hM,-⟩ hF;change Af w w' [some (b1,AJ (p:Int) (n:Int) T f),some (b2,AI v)] [] at hM;refine ag hF rfl rfl fun a hF=>ns<|ag hF rfl rfl fun a hF=>nt<|sq<|sr<|st hF (AK AP hF rfl (hM.row 1 rfl) (by simp only [AR]<;>omega) (whole (by simp only [AR]))) rfl fun a hF=>mv hF rfl rfl fun a hF=>nt<|wp_block ?_;change Af w _ [some (b1,AJ (p:Int) (n:Int) T f),some (b2,AI v)] [] at hM;refine Az (fun (kk:Nat) a w'=>kk≤6∧(True)∧Fr 28 a [(2,ptr b1 (0)),(4,.int .i64 (0)),(8,.agg (AI v)),(5,.int .i64 ((sumTo (fun i=>v i*f i) kk:Int))),(9,.int .i64 (kk:Int))]∧Af w w' [some (b1,AJ (p:Int) (n:Int) T f),some (b2,AI v)] []) (fun kk=>6 - kk) 0 ?_ ?_
  · refine ⟨by omega,trivial,hF.sub _ (by repeat' constructor),?_⟩
    exact hM
  clear hF hM;rintro gk a w' ⟨hgk,hinv1,hF,hM⟩;have hvi:=hv gk;have hfi:=hf gk;have hvv:=EZ (hv gk) (hf gk);have hvf:=EZ (hf gk) (hv gk);have hsb:=sumTo_le (m:=gk) (c:=65025) fun i (_:i<gk)=>EZ (hv i) (hf i);refine sr<|st hF (A4 hF rfl rfl) rfl fun a hF=>nt<|sq<|Ad hF rfl (fun h3=>?_) (fun h3=>?_)
  · refine wp_skip ?_
    refine tN<|sq<|wp_block<|sr<|mv hF rfl rfl fun a hF=>st hF (E3 Di Al hF rfl rfl rfl (by omega) (BS (gk) (by omega) (by omega))) rfl fun a hF=>ag hF rfl rfl fun a hF=>ag hF rfl rfl fun a hF=>nt<|wp_region_lit<|mv hF rfl rfl fun a hF=>mv hF rfl rfl fun a hF=>st hF (A6 BH BK hF rfl (wrap_i64 (by omega) (by omega))) rfl fun a hF=>mv hF rfl rfl fun a hF=>st hF (AN BO hF rfl) rfl fun a hF=>st hF (AS Ax hF rfl rfl rfl (by omega)) rfl fun a hF=>st hF (AZ Al hF rfl (hM.row 0 rfl) (C3 (gk) (by omega) (by omega))) rfl fun a hF=>st hF (A6 BH BK hF rfl (wrap_i64 (by omega) (by omega))) rfl fun a hF=>st hF (CA hF rfl rfl (Bj (v gk) (f gk) (by omega))) rfl fun a hF=>st hF (Ar hF rfl rfl (show _=(sumTo (fun i=>v i*f i) (gk+1):Int) from (Fo (by omega) rfl))) rfl fun a hF=>ag hF rfl rfl fun a hF=>wpList_nil<|iN<|tN<|wp_region_lit<|st hF (Ar hF rfl rfl (Aj (gk) (1) (by omega))) rfl fun a hF=>mv hF rfl rfl fun a hF=>nt<|⟨gk+1,⟨by omega,trivial,hF.sub _ (by repeat' constructor),?_⟩,by omega⟩;exact hM
  obtain rfl:6=gk:=by omega
  refine wp_exit<|tX<|tX<|Aq<|tN<|sr<|mv hF rfl rfl fun a hF=>st hF (AN Aw hF rfl) rfl fun a hF=>st hF (AZ Ae hF rfl (hM.row 0 rfl) (BQ (by omega))) rfl fun a hF=>st hF (CY hF rfl rfl (by omega) (CU (sumTo (fun i=>v i*f i) 6) (p))) rfl fun a hF=>ag hF rfl rfl fun a hF=>nt<|wp_ret<|BC rfl hF.defers (Ab hF rfl) ⟨_,rfl,hM.below,?_⟩
  show _=_
  rfl
theorem FK (p n:Nat)(T:Nat→Nat→Nat→Nat)(f v:Nat→Nat)(w:World)(hp:0<p)(hf:∀ i,f i≤255)(hv:∀ i,v i≤255) :
    CallsR Try.prog 107 #[.agg (AJ (p:Int) (n:Int) T f),.agg (AI v)] w (fun res _=>res = .int .i64 ((sumTo (fun i=>f i*v i) 6%p:Nat):Int)):=by
  refine Ak [.agg (AJ (p:Int) (n:Int) T f),.agg (AI v)] Try.func107 rfl Try.ntmps107 rfl fun a hF=>?_;have hM:Af w w [none,none] []:=MemX.start w 2;change Fr 27 a [(0,.agg (AJ (p:Int) (n:Int) T f)),(1,.agg (AI v))] at hF;refine sr<|Am hF (Au 0 hM hF rfl) rfl ?_;rintro _ w' a ⟨b1,rfl,hM,-⟩ hF;refine Am hF (Au 1 hM hF rfl) rfl ?_;rintro _ w' a ⟨b2,rfl,hM,-⟩ hF;refine ag hF rfl rfl fun a hF=>ns<|ag hF rfl rfl fun a hF=>nt<|sq<|sr<|ag hF rfl rfl fun a hF=>nt<|wp_block ?_;change Af w _ [some (b1,AJ (p:Int) (n:Int) T f),some (b2,AI v)] [] at hM;refine Az (fun (kk:Nat) a w'=>kk≤6∧(True)∧Fr 27 a [(2,ptr b1 (0)),(3,ptr b2 (0)),(4,.int .i64 (0)),(5,.int .i64 ((sumTo (fun i=>f i*v i) kk:Int))),(6,.int .i64 (kk:Int))]∧Af w w' [some (b1,AJ (p:Int) (n:Int) T f),some (b2,AI v)] []) (fun kk=>6 - kk) 0 ?_ ?_
  · refine ⟨by omega,trivial,hF.sub _ (by repeat' constructor),?_⟩
    exact hM
  clear hF hM;rintro gk a w' ⟨hgk,hinv1,hF,hM⟩;have hvi:=hv gk;have hfi:=hf gk;have hvv:=EZ (hv gk) (hf gk);have hvf:=EZ (hf gk) (hv gk);have hsb:=sumTo_le (m:=gk) (c:=65025) fun i (_:i<gk)=>EZ (hf i) (hv i);refine sq<|sr<|mv hF rfl rfl fun a hF=>st hF (A4 hF rfl rfl) rfl fun a hF=>nt<|Ad hF rfl (fun h3=>?_) (fun h3=>?_)
  · refine wp_skip ?_
    refine tN<|sq<|wp_block<|BY 11 [] [.val (.int .i64 ((sumTo (fun i=>f i*v i) gk:Int))),.val (.int .i64 (gk:Int)),.val (ptr b1 (0+218)),.val (ptr b1 (0+218+(gk)*1)),.val (.int .u8 ((f (gk):Int))),.val (.int .i64 ((f (gk):Int))),.val (.int .i64 (gk:Int)),.val (ptr b2 (0+(gk)*1)),.val (.int .u8 ((v (gk):Int))),.val (.int .i64 ((v (gk):Int))),.val (.int .i64 ((((f (gk))*(v (gk)):Nat):Int)))] Bc rfl hF rfl hM ⟨fun a w gG hF hS hd=>by exact BP hS rfl hF rfl,fun a w gG hF hS hd=>by exact BP hS rfl hF rfl,fun a w gG hF hS hd=>by exact AM hS rfl (AN BO hF rfl),fun a w gG hF hS hd=>by have hF:=hF.ext1 12 (hd 1 rfl rfl);have hF:=hF.ext1 13 (hd 2 rfl rfl);exact AM hS rfl (AS Ax hF rfl rfl rfl (by omega)),fun a w gG hF hS hd=>by have hF:=hF.ext1 14 (hd 3 rfl rfl);have hM:=hS.mem rfl;exact AM hS rfl (AZ Al hF rfl (hM.row 0 rfl) (C3 (gk) (by omega) (by omega))),fun a w gG hF hS hd=>by have hF:=hF.ext1 15 (hd 4 rfl rfl);exact AM hS rfl (A6 BH BK hF rfl (wrap_i64 (by omega) (by omega))),fun a w gG hF hS hd=>by exact BP hS rfl hF rfl,fun a w gG hF hS hd=>by have hF:=hF.ext1 17 (hd 6 rfl rfl);exact AM hS rfl (AS Ax hF rfl rfl rfl (by omega)),fun a w gG hF hS hd=>by have hF:=hF.ext1 18 (hd 7 rfl rfl);have hM:=hS.mem rfl;exact AM hS rfl (AZ Al hF rfl (hM.row 1 rfl) (BS (gk) (by omega) (by omega))),fun a w gG hF hS hd=>by have hF:=hF.ext1 19 (hd 8 rfl rfl);exact AM hS rfl (A6 BH BK hF rfl (wrap_i64 (by omega) (by omega))),fun a w gG hF hS hd=>by have hF:=hF.ext1 16 (hd 5 rfl rfl);have hF:=hF.ext1 20 (hd 9 rfl rfl);exact AM hS rfl (CA hF rfl rfl (Bj (f gk) (v gk) (by omega))),trivial⟩ ?_;intro a w' L hF hS hq;have hF:=hF.ext1 11 (hq 0 rfl rfl);have hF:=hF.ext1 12 (hq 1 rfl rfl);have hF:=hF.ext1 13 (hq 2 rfl rfl);have hF:=hF.ext1 14 (hq 3 rfl rfl);have hF:=hF.ext1 15 (hq 4 rfl rfl);have hF:=hF.ext1 16 (hq 5 rfl rfl);have hF:=hF.ext1 17 (hq 6 rfl rfl);have hF:=hF.ext1 18 (hq 7 rfl rfl);have hF:=hF.ext1 19 (hq 8 rfl rfl);have hF:=hF.ext1 20 (hq 9 rfl rfl);have hF:=hF.ext1 21 (hq 10 rfl rfl);have hM:=hS.mem rfl;change wpList Try.prog _ _ [_,_] _ _;refine st hF (Ar hF rfl rfl (show _=(sumTo (fun i=>f i*v i) (gk+1):Int) from (Fo (by omega) rfl))) rfl fun a hF=>ag hF rfl rfl fun a hF=>wpList_nil<|iN<|tN<|wp_region_lit<|mv hF rfl rfl fun a hF=>st hF (Ar hF rfl rfl (Aj (gk) (1) (by omega))) rfl fun a hF=>ag hF rfl rfl fun a hF=>nt<|⟨gk+1,⟨by omega,trivial,hF.sub _ (by repeat' constructor),?_⟩,by omega⟩;exact hM
  obtain rfl:6=gk:=by omega
  refine wp_exit<|tX<|tX<|Aq<|tN<|sr<|mv hF rfl rfl fun a hF=>st hF (AN Aw hF rfl) rfl fun a hF=>st hF (AZ Ae hF rfl (hM.row 0 rfl) (BQ (by omega))) rfl fun a hF=>st hF (CY hF rfl rfl (by omega) (CU (sumTo (fun i=>f i*v i) 6) (p))) rfl fun a hF=>ag hF rfl rfl fun a hF=>nt<|wp_ret<|BC rfl hF.defers (Ab hF rfl) ⟨_,rfl,hM.below,?_⟩
  show _=_
  rfl
theorem GI (x p:Nat)(w:World)(hp:0<p)(hp2:p<100)(hx:x≤255) :
    CallsR Try.prog 170 #[.int .u8 (x:Int),.int .i64 (p:Int)] w (fun res _=>res = .int .i64 (invN x p:Int)):=by
  refine Ak [.int .u8 (x:Int),.int .i64 (p:Int)] Try.func170 rfl Try.ntmps170 rfl fun a hF=>?_;have hM:Af w w [] []:=MemX.start w 0;change Fr 19 a [(0,.int .u8 (x:Int)),(1,.int .i64 (p:Int))] at hF;refine sr<|ag hF rfl rfl fun a hF=>nt<|sq<|sr<|mv hF rfl rfl fun a hF=>mv hF rfl rfl fun a hF=>nt<|wp_block ?_;change Af w _ [] [] at hM;refine Az (fun (kk:Nat) a w'=>kk≤p∧(∀ c,c<kk→¬ c*x%p=1)∧Fr 19 a [(0,.int .u8 (x:Int)),(1,.int .i64 (p:Int)),(6,.int .i64 (p:Int)),(7,.int .i64 (kk:Int))]∧Af w w' [] []) (fun kk=>p - kk) 0 ?_ ?_
  · refine ⟨by omega,fun c hc=>absurd hc (by omega),hF.sub _ (by repeat' constructor),?_⟩
    exact hM
  clear hF hM;rintro gk a w' ⟨hgk,hinv1,hF,hM⟩;have hkx:gk*x≤100*255:=Nat.mul_le_mul (by omega) hx;refine sr<|st hF (A4 hF rfl rfl) rfl fun a hF=>nt<|sq<|Ad hF rfl (fun h1=>?_) (fun h1=>?_)
  · refine wp_skip ?_
    refine tN<|sq<|wp_block<|sr<|mv hF rfl rfl fun a hF=>ag hF rfl rfl fun a hF=>ns<|mv hF rfl rfl fun a hF=>mv hF rfl rfl fun a hF=>st hF (A6 BH BK hF rfl (wrap_i64 (by omega) (by omega))) rfl fun a hF=>st hF (CA hF rfl rfl (Bj gk x (by omega))) rfl fun a hF=>mv hF rfl rfl fun a hF=>Am hF (Aa Try.call115 hF (.cons rfl (.cons rfl .nil)) (GY ((gk)*(x)) (p) _ (by omega) (by omega) (by omega))) rfl ?_;rintro _ w' a ⟨hx,rfl⟩ hF;have hM:=hM.ext hx;refine st hF (Bd hF rfl rfl) rfl fun a hF=>nt<|Ad hF rfl (fun h2=>?_) (fun h2=>?_)
    · refine sq ?_
      refine wp_region_lit<|mv hF rfl rfl fun a hF=>ag hF rfl rfl fun a hF=>nt<|wp_ret<|iR<|tR<|tR<|iR<|tR<|BC rfl hF.defers (Ab hF rfl) ⟨_,rfl,hM.below,?_⟩
      show _=_
      exact congrArg (fun y:Nat=>Value.int .i64 (y:Int)) (H1 (by omega) hinv1 (by omega)).symm
    refine wp_skip<|iN<|tN<|wp_region_lit<|st hF (Ar hF rfl rfl (Aj (gk) (1) (by omega))) rfl fun a hF=>mv hF rfl rfl fun a hF=>nt<|⟨gk+1,⟨by omega,noS hinv1 (by assumption),hF.sub _ (by repeat' constructor),?_⟩,by omega⟩;exact hM
  obtain rfl:p=gk:=by omega
  refine wp_exit<|tX<|tX<|Aq<|tN<|sr<|ag hF rfl rfl fun a hF=>nt<|wp_ret<|BC rfl hF.defers (Ab hF rfl) ⟨_,rfl,hM.below,?_⟩
  show _=_
  exact congrArg (fun y:Nat=>Value.int .i64 (y:Int)) (H2 hinv1).symm
theorem De (x:Int)(p:Nat)(w:World)(hp:0<p)(hp2:p<100)(hx:-1000000000<x)(hx2:x<1000000000) :
    CallsR Try.prog 153 #[.int .i64 (p:Int),.int .i64 (x)] w (fun res _=>res = .int .i64 (x%(p:Int))):=by
  refine Ak [.int .i64 (p:Int),.int .i64 (x)] Try.func153 rfl Try.ntmps153 rfl fun a hF=>?_;have hM:Af w w [] []:=MemX.start w 0;change Fr 12 a [(0,.int .i64 (p:Int)),(1,.int .i64 (x))] at hF;have h1:=IM x p hp;have h2:=KE x p hp;refine sr<|ag hF rfl rfl fun a hF=>ns<|mv hF rfl rfl fun a hF=>mv hF rfl rfl fun a hF=>st hF (CY hF rfl rfl (by omega) rfl) rfl fun a hF=>mv hF rfl rfl fun a hF=>st hF (Ar hF rfl rfl (wrap_i64 (by omega) (by omega))) rfl fun a hF=>mv hF rfl rfl fun a hF=>st hF (CY hF rfl rfl (by omega) (Iy x p hp)) rfl fun a hF=>ag hF rfl rfl fun a hF=>nt<|wp_ret<|BC rfl hF.defers (Ab hF rfl) ⟨_,rfl,hM.below,?_⟩
  show _=_
  rfl
theorem FJ (x p:Nat)(w:World)(hp:0<p)(hp2:p<100)(hx:x<1000000000):CallsR Try.prog 153 #[.int .i64 (p:Int),.int .i64 (x:Int)] w (fun res _=>res = .int .i64 ((x%p:Nat):Int)):=De x p w hp hp2 (by omega) (by omega)
theorem HR (x p:Nat)(w:World)(hp:0<p)(hp2:p<100)(hx:x<p) :
    CallsR Try.prog 173 #[.int .i64 (p:Int),.int .i64 (x:Int)] w (fun res _=>res = .int .i64 (invN x p:Int)):=by
  refine Ak [.int .i64 (p:Int),.int .i64 (x:Int)] Try.func173 rfl Try.ntmps173 rfl fun a hF=>?_;have hM:Af w w [] []:=MemX.start w 0;change Fr 20 a [(0,.int .i64 (p:Int)),(1,.int .i64 (x:Int))] at hF;refine sr<|ag hF rfl rfl fun a hF=>nt<|sq<|sr<|ag hF rfl rfl fun a hF=>nt<|wp_block ?_;change Af w _ [] [] at hM;refine Az (fun (kk:Nat) a w'=>kk≤p∧(∀ c,c<kk→¬ c*x%p=1)∧Fr 20 a [(0,.int .i64 (p:Int)),(1,.int .i64 (x:Int)),(5,.int .i64 (kk:Int))]∧Af w w' [] []) (fun kk=>p - kk) 1 ?_ ?_
  · refine ⟨by omega,fun c hc=>by rw [show c=0 by omega,Nat.zero_mul,Nat.zero_mod];decide,hF.sub _ (by repeat' constructor),?_⟩
    exact hM
  clear hF hM;rintro gk a w' ⟨hgk,hinv1,hF,hM⟩;have hkx:gk*x≤100*100:=Nat.mul_le_mul (by omega) (by omega);have hxm:x%p=x:=Nat.mod_eq_of_lt hx;refine sq<|sr<|mv hF rfl rfl fun a hF=>mv hF rfl rfl fun a hF=>st hF (A4 hF rfl rfl) rfl fun a hF=>nt<|Ad hF rfl (fun h1=>?_) (fun h1=>?_)
  · refine wp_skip ?_
    refine tN<|sq<|wp_block<|sr<|mv hF rfl rfl fun a hF=>mv hF rfl rfl fun a hF=>mv hF rfl rfl fun a hF=>Am hF (Aa Try.call153 hF (.cons rfl (.cons rfl .nil)) (FJ (x) (p) _ (by omega) (by omega) (by omega))) rfl ?_;rintro _ w' a ⟨hx,rfl⟩ hF;have hM:=hM.ext hx;refine st hF (CA hF rfl rfl (show _=((gk*x:Nat):Int) from (by rw [hxm];exact Bj gk x (by omega)))) rfl fun a hF=>mv hF rfl rfl fun a hF=>st hF (CY hF rfl rfl (by omega) (CU (gk*x) (p))) rfl fun a hF=>st hF (Bd hF rfl rfl) rfl fun a hF=>nt<|Ad hF rfl (fun h2=>?_) (fun h2=>?_)
    · refine sq ?_
      refine wp_region_lit<|mv hF rfl rfl fun a hF=>ag hF rfl rfl fun a hF=>nt<|wp_ret<|iR<|tR<|tR<|iR<|tR<|BC rfl hF.defers (Ab hF rfl) ⟨_,rfl,hM.below,?_⟩
      show _=_
      exact congrArg (fun y:Nat=>Value.int .i64 (y:Int)) (H1 (by omega) hinv1 (by omega)).symm
    refine wp_skip<|iN<|tN<|wp_region_lit<|mv hF rfl rfl fun a hF=>st hF (Ar hF rfl rfl (Aj (gk) (1) (by omega))) rfl fun a hF=>ag hF rfl rfl fun a hF=>nt<|⟨gk+1,⟨by omega,noS hinv1 (by assumption),hF.sub _ (by repeat' constructor),?_⟩,by omega⟩;exact hM
  obtain rfl:p=gk:=by omega
  refine wp_exit<|tX<|tX<|Aq<|tN<|sr<|ag hF rfl rfl fun a hF=>nt<|wp_ret<|BC rfl hF.defers (Ab hF rfl) ⟨_,rfl,hM.below,?_⟩
  show _=_
  exact congrArg (fun y:Nat=>Value.int .i64 (y:Int)) (H2 hinv1).symm
def I3 (p n:Int) (T:Nat→Nat→Nat→Nat) (i j:Nat):Prop:=¬ ((¬ ((i:Int)<n∧(j:Int)<n)∧¬ FR 6 (T i j) (fun _=>0))∨¬ okV p n (T i j))
instance (p n:Int) (T:Nat→Nat→Nat→Nat) (i j:Nat):Decidable (I3 p n T i j):=by unfold I3;infer_instance
def Ii (m:Nat) (q:Nat→Nat→Prop):Prop:=∀ i,i<m→∀ j,j<m→q i j
instance (m:Nat) (q:Nat→Nat→Prop) [∀ i j,Decidable (q i j)]:Decidable (Ii m q):=by unfold Ii;exact Nat.decidableBallLT m _
theorem Er {m:Nat}{q:Nat→Nat→Prop}(i j:Nat)(hi:i<m)(hj:j<m)(h:¬ q i j):¬ Ii m q:=fun ha=>h (ha i hi j hj)
theorem D6 {q:Nat→Prop}{k:Nat}(h:∀ i,i<k→q i)(hk:q k):∀ i,i<k+1→q i:=fun i hi=>by
  by_cases e:i=k
  · subst e;exact hk
  · exact h i (by omega)
def FZ (p n:Int) (T:Nat→Nat→Nat→Nat) (i j:Nat):Prop:=okV p (if (i:Int)≥n∨(j:Int)≥n then 0 else n) (T i j)
instance (p n:Int) (T:Nat→Nat→Nat→Nat) (i j:Nat):Decidable (FZ p n T i j):=by unfold FZ;infer_instance
def Cr (p n:Int) (T:Nat→Nat→Nat→Nat) (f:Nat→Nat):Prop:=BN p∧(1≤n∧n≤6)∧okV p n f∧Ii 6 (FZ p n T)
instance (p n:Int) (T:Nat→Nat→Nat→Nat) (f:Nat→Nat):Decidable (Cr p n T f):=by unfold Cr;infer_instance
theorem Gd (p n:Int)(T:Nat→Nat→Nat→Nat)(f:Nat→Nat)(w:World)(hT:∀ i j k,T i j k≤255)(hf:∀ i,f i≤255) :
    CallsR Try.prog 92 #[.agg (AJ p n T f)] w (fun res _=>res = .bool (decide (Ii 6 (I3 p n T)))):=by
  refine Ak [.agg (AJ p n T f)] Try.func92 rfl Try.ntmps92 rfl fun a hF=>?_;have hM:Af w w [none,none,none] []:=MemX.start w 3;change Fr 44 a [(0,.agg (AJ p n T f))] at hF;refine sr<|Am hF (Au 0 hM hF rfl) rfl ?_;rintro _ w' a ⟨b1,rfl,hM,-⟩ hF;change Af w w' [some (b1,AJ p n T f),none,none] [] at hM;refine ag hF rfl rfl fun a hF=>nt<|sq<|sr<|st hF (AN BD hF rfl) rfl fun a hF=>st hF (AK K5 hF rfl (hM.row 0 rfl) (by simp only [AR]<;>omega) (Le (by omega) (by omega))) rfl fun a hF=>mv hF rfl rfl fun a hF=>nt<|wp_block ?_;change Af w _ [some (b1,AJ p n T f),none,none] [] at hM;refine Az (fun (kk:Nat) a w'=>kk≤6∧(∀ i,i<kk→∀ j,j<6→I3 p n T i j)∧Fr 44 a [(1,ptr b1 (0)),(9,.agg (I0 T)),(10,.int .i64 (kk:Int))]∧Af w w' [some (b1,AJ p n T f),none,none] []) (fun kk=>6 - kk) 0 ?_ ?_
  · refine ⟨by omega,fun i hi=>absurd hi (by omega),hF.sub _ (by repeat' constructor),?_⟩
    exact hM
  clear hF hM;rintro gi a w' ⟨hgi,hinv1,hF,hM⟩;refine sr<|st hF (A4 hF rfl rfl) rfl fun a hF=>nt<|sq<|Ad hF rfl (fun h2=>?_) (fun h2=>?_)
  · refine wp_skip ?_
    refine tN<|sq<|wp_block<|sr<|mv hF rfl rfl fun a hF=>st hF (JF K1 Iw hF rfl rfl rfl (by omega) (JZ (gi) (by omega) (by omega) (by omega))) rfl fun a hF=>Am hF (AW 1 hM Kz) rfl ?_;rintro _ w' a ⟨b3,rfl,hM,-⟩ hF;change Af w w' [some (b1,AJ p n T f),some (b3,Ag 36 (fun _=>.int .u8 (0))),none] [] at hM;refine ag hF rfl rfl fun a hF=>A8 hF (AO 1 hM rfl K4 hF rfl rfl (by first | exact AT | exact cells_one | (refine AV fun _ _=>?_;first | rfl | (split<;>rfl))) (by simp only [AR]) (by simp only [AR]<;>omega) (AL _ _ (by simp only [AR]))) ?_;intro _ w' a hM hF;change Af w w' [some (b1,AJ p n T f),some (b3,DA (T (gi))),none] [] at hM;refine ns<|st hF (AK Iw hF rfl (hM.row 1 rfl) (by simp only [AR]<;>omega) (whole (by simp only [AR]))) rfl fun a hF=>mv hF rfl rfl fun a hF=>nt<|wp_block ?_;change Af w _ [some (b1,AJ p n T f),some (b3,DA (T (gi))),none] [] at hM;refine Az (fun (kk:Nat) a w'=>kk≤6∧(∀ j,j<kk→I3 p n T gi j)∧Fr 44 a [(1,ptr b1 (0)),(9,.agg (I0 T)),(10,.int .i64 (gi:Int)),(11,.bool (decide (((gi:Int):Int)<6))),(12,.int .i64 (gi:Int)),(13,.agg (DA (T (gi)))),(4,ptr b3 (0)),(3,.int .i64 (gi:Int)),(14,.agg (DA (T (gi)))),(15,.int .i64 (kk:Int))]∧Af w w' [some (b1,AJ p n T f),some (b3,DA (T (gi))),none] []) (fun kk=>6 - kk) 0 ?_ ?_
    · refine ⟨by omega,fun i hi=>absurd hi (by omega),hF.sub _ (by repeat' constructor),?_⟩
      exact hM
    clear hF hM;rintro gj a w' ⟨hgj,hinv2,hF,hM⟩;refine sr<|st hF (A4 hF rfl rfl) rfl fun a hF=>nt<|sq<|Ad hF rfl (fun h4=>?_) (fun h4=>?_)
    · refine wp_skip ?_
      refine tN<|sq<|wp_block<|sr<|mv hF rfl rfl fun a hF=>st hF (JF K2 CK hF rfl rfl rfl (by omega) (Jd (gj) (by omega) (by omega) (by omega))) rfl fun a hF=>Am hF (AW 2 hM K0) rfl ?_;rintro _ w' a ⟨b5,rfl,hM,-⟩ hF;change Af w w' [some (b1,AJ p n T f),some (b3,DA (T (gi))),some (b5,Ag 6 (fun _=>.int .u8 (0)))] [] at hM;refine ag hF rfl rfl fun a hF=>A8 hF (AO 2 hM rfl Eb hF rfl rfl (by first | exact AT | exact cells_one | (refine AV fun _ _=>?_;first | rfl | (split<;>rfl))) (by simp only [AR]) (by simp only [AR]<;>omega) (AL _ _ (by simp only [AR]))) ?_;intro _ w' a hM hF;change Af w w' [some (b1,AJ p n T f),some (b3,DA (T (gi))),some (b5,AI ((T (gi)) (gj)))] [] at hM;refine ns<|mv hF rfl rfl fun a hF=>st hF (AN Ai hF rfl) rfl fun a hF=>st hF (AZ Ae hF rfl (hM.row 0 rfl) (A5 (by omega))) rfl fun a hF=>st hF (A4 hF rfl rfl) rfl fun a hF=>mv hF rfl rfl fun a hF=>?_
      by_cases g6:((gi:Int):Int)<n
      · first | rw [decide_eq_true g6] at hF | simp only [decide_eq_true g6] at hF
        refine BR hF rfl rfl rfl (At hF rfl) rfl fun a hF=>BR hF rfl rfl rfl (AN Ai hF rfl) rfl fun a hF=>BR hF rfl rfl rfl (AZ Ae hF rfl (hM.row 0 rfl) (A5 (by omega))) rfl fun a hF=>BR hF rfl rfl rfl (A4 hF rfl rfl) rfl fun a hF=>st hF (A7 hF rfl rfl) rfl fun a hF=>ag hF rfl rfl fun a hF=>ns<|mv hF rfl rfl fun a hF=>st hF (CB hF rfl) rfl fun a hF=>mv hF rfl rfl fun a hF=>?_
        by_cases g7:¬ (((gj:Int):Int)<n)
        · first | rw [decide_eq_true g7] at hF | simp only [decide_eq_true g7] at hF
          refine BR hF rfl rfl rfl (AK CK hF rfl (hM.row 2 rfl) (by simp only [AR]<;>omega) (whole (by simp only [AR]))) rfl fun a hF=>BR hF rfl rfl rfl (BM BL) rfl fun a hF=>BR hF rfl rfl rfl (DF Iu hF rfl rfl (B0 Ix CH Al)) rfl fun a hF=>st hF (A7 hF rfl rfl) rfl fun a hF=>mv hF rfl rfl fun a hF=>?_
          by_cases g8:¬ (FR 6 (((T (gi)) (gj))) ((fun _=>0)))
          · first | rw [decide_eq_true g8] at hF | simp only [decide_eq_true g8] at hF
            refine Bg hF rfl rfl rfl rfl rfl fun a hF=>Bg hF rfl rfl rfl rfl rfl fun a hF=>Bg hF rfl rfl rfl rfl rfl fun a hF=>Bg hF rfl rfl rfl rfl rfl fun a hF=>st hF (A7 hF rfl rfl) rfl fun a hF=>nt<|GN hF rfl<|sr<|ag hF rfl rfl fun a hF=>nt<|wp_ret<|iR<|tR<|tR<|iR<|iR<|tR<|tR<|iR<|tR<|BC rfl hF.defers (Ab hF rfl) ⟨_,rfl,hM.below,?_⟩
            show _=_
            exact CS (Er gi gj (by omega) (by omega) (by unfold I3;intro hq;apply hq;first | (right;assumption) | (left;exact ⟨by omega,by assumption⟩)))
          first | rw [decide_eq_false g8] at hF | simp only [decide_eq_false g8] at hF
          refine BR hF rfl rfl rfl (AK AU hF rfl (hM.row 0 rfl) (by simp only [AR]<;>omega) (whole AQ)) rfl fun a hF=>BR hF rfl rfl rfl (AK CK hF rfl (hM.row 2 rfl) (by simp only [AR]<;>omega) (whole (by simp only [AR]))) rfl fun a hF=>FU hF rfl rfl rfl (Aa Try.call91 hF (.cons rfl (.cons rfl .nil)) (Cv p n T f (((T (gi)) (gj))) _ (fun _=>by first | exact hv _ | exact hu _ | exact hT _ _ _ | exact hf _ | omega | (split<;>omega) | (dsimp only;split<;>omega) | assumption))) rfl ?_;rintro _ w' a ⟨hx,rfl⟩ hF;have hM:=hM.ext hx;refine BR hF rfl rfl rfl (CB hF rfl) rfl fun a hF=>st hF (A3 hF rfl rfl) rfl fun a hF=>nt<|Ad hF rfl (fun h10=>?_) (fun h10=>?_)
          · refine sq ?_
            refine wp_region_lit<|ag hF rfl rfl fun a hF=>nt<|wp_ret<|iR<|tR<|tR<|iR<|iR<|tR<|tR<|iR<|tR<|BC rfl hF.defers (Ab hF rfl) ⟨_,rfl,hM.below,?_⟩
            show _=_
            exact CS (Er gi gj (by omega) (by omega) (by unfold I3;intro hq;apply hq;first | (right;assumption) | (left;exact ⟨by omega,by assumption⟩)))
          refine wp_skip<|iN<|tN<|wp_region_lit<|st hF (Ar hF rfl rfl (Aj (gj) (1) (by omega))) rfl fun a hF=>mv hF rfl rfl fun a hF=>wpList_nil<|tN ?_;have hM:=hM.drop 2;refine ⟨gj+1,⟨by omega,D6 hinv2 (by unfold I3;simp_all),hF.sub _ (by repeat' constructor),?_⟩,by omega⟩;exact hM
        first | rw [decide_eq_false g7] at hF | simp only [decide_eq_false g7] at hF
        refine Bg hF rfl rfl rfl rfl rfl fun a hF=>Bg hF rfl rfl rfl rfl rfl fun a hF=>Bg hF rfl rfl rfl rfl rfl fun a hF=>st hF (A3 hF rfl rfl) rfl fun a hF=>mv hF rfl rfl fun a hF=>BR hF rfl rfl rfl (AK AU hF rfl (hM.row 0 rfl) (by simp only [AR]<;>omega) (whole AQ)) rfl fun a hF=>BR hF rfl rfl rfl (AK CK hF rfl (hM.row 2 rfl) (by simp only [AR]<;>omega) (whole (by simp only [AR]))) rfl fun a hF=>FU hF rfl rfl rfl (Aa Try.call91 hF (.cons rfl (.cons rfl .nil)) (Cv p n T f (((T (gi)) (gj))) _ (fun _=>by first | exact hv _ | exact hu _ | exact hT _ _ _ | exact hf _ | omega | (split<;>omega) | (dsimp only;split<;>omega) | assumption))) rfl ?_;rintro _ w' a ⟨hx,rfl⟩ hF;have hM:=hM.ext hx;refine BR hF rfl rfl rfl (CB hF rfl) rfl fun a hF=>st hF (A3 hF rfl rfl) rfl fun a hF=>nt<|Ad hF rfl (fun h11=>?_) (fun h11=>?_)
        · refine sq ?_
          refine wp_region_lit<|ag hF rfl rfl fun a hF=>nt<|wp_ret<|iR<|tR<|tR<|iR<|iR<|tR<|tR<|iR<|tR<|BC rfl hF.defers (Ab hF rfl) ⟨_,rfl,hM.below,?_⟩
          show _=_
          exact CS (Er gi gj (by omega) (by omega) (by unfold I3;intro hq;apply hq;first | (right;assumption) | (left;exact ⟨by omega,by assumption⟩)))
        refine wp_skip<|iN<|tN<|wp_region_lit<|st hF (Ar hF rfl rfl (Aj (gj) (1) (by omega))) rfl fun a hF=>mv hF rfl rfl fun a hF=>wpList_nil<|tN ?_;have hM:=hM.drop 2;refine ⟨gj+1,⟨by omega,D6 hinv2 (by unfold I3;simp_all),hF.sub _ (by repeat' constructor),?_⟩,by omega⟩;exact hM
      first | rw [decide_eq_false g6] at hF | simp only [decide_eq_false g6] at hF
      refine Bg hF rfl rfl rfl rfl rfl fun a hF=>Bg hF rfl rfl rfl rfl rfl fun a hF=>Bg hF rfl rfl rfl rfl rfl fun a hF=>Bg hF rfl rfl rfl rfl rfl fun a hF=>st hF (A3 hF rfl rfl) rfl fun a hF=>ag hF rfl rfl fun a hF=>ns<|mv hF rfl rfl fun a hF=>st hF (CF (b:=false) hF rfl) rfl fun a hF=>mv hF rfl rfl fun a hF=>BR hF rfl rfl rfl (AK CK hF rfl (hM.row 2 rfl) (by simp only [AR]<;>omega) (whole (by simp only [AR]))) rfl fun a hF=>BR hF rfl rfl rfl (BM BL) rfl fun a hF=>BR hF rfl rfl rfl (DF Iu hF rfl rfl (B0 Ix CH Al)) rfl fun a hF=>st hF (A7 hF rfl rfl) rfl fun a hF=>mv hF rfl rfl fun a hF=>?_
      by_cases g12:¬ (FR 6 (((T (gi)) (gj))) ((fun _=>0)))
      · first | rw [decide_eq_true g12] at hF | simp only [decide_eq_true g12] at hF
        refine Bg hF rfl rfl rfl rfl rfl fun a hF=>Bg hF rfl rfl rfl rfl rfl fun a hF=>Bg hF rfl rfl rfl rfl rfl fun a hF=>Bg hF rfl rfl rfl rfl rfl fun a hF=>st hF (A7 hF rfl rfl) rfl fun a hF=>nt<|GN hF rfl<|sr<|ag hF rfl rfl fun a hF=>nt<|wp_ret<|iR<|tR<|tR<|iR<|iR<|tR<|tR<|iR<|tR<|BC rfl hF.defers (Ab hF rfl) ⟨_,rfl,hM.below,?_⟩
        show _=_
        exact CS (Er gi gj (by omega) (by omega) (by unfold I3;intro hq;apply hq;first | (right;assumption) | (left;exact ⟨by omega,by assumption⟩)))
      first | rw [decide_eq_false g12] at hF | simp only [decide_eq_false g12] at hF
      refine BR hF rfl rfl rfl (AK AU hF rfl (hM.row 0 rfl) (by simp only [AR]<;>omega) (whole AQ)) rfl fun a hF=>BR hF rfl rfl rfl (AK CK hF rfl (hM.row 2 rfl) (by simp only [AR]<;>omega) (whole (by simp only [AR]))) rfl fun a hF=>FU hF rfl rfl rfl (Aa Try.call91 hF (.cons rfl (.cons rfl .nil)) (Cv p n T f (((T (gi)) (gj))) _ (fun _=>by first | exact hv _ | exact hu _ | exact hT _ _ _ | exact hf _ | omega | (split<;>omega) | (dsimp only;split<;>omega) | assumption))) rfl ?_;rintro _ w' a ⟨hx,rfl⟩ hF;have hM:=hM.ext hx;refine BR hF rfl rfl rfl (CB hF rfl) rfl fun a hF=>st hF (A3 hF rfl rfl) rfl fun a hF=>nt<|Ad hF rfl (fun h14=>?_) (fun h14=>?_)
      · refine sq ?_
        refine wp_region_lit<|ag hF rfl rfl fun a hF=>nt<|wp_ret<|iR<|tR<|tR<|iR<|iR<|tR<|tR<|iR<|tR<|BC rfl hF.defers (Ab hF rfl) ⟨_,rfl,hM.below,?_⟩
        show _=_
        exact CS (Er gi gj (by omega) (by omega) (by unfold I3;intro hq;apply hq;first | (right;assumption) | (left;exact ⟨by omega,by assumption⟩)))
      refine wp_skip<|iN<|tN<|wp_region_lit<|st hF (Ar hF rfl rfl (Aj (gj) (1) (by omega))) rfl fun a hF=>mv hF rfl rfl fun a hF=>wpList_nil<|tN ?_;have hM:=hM.drop 2;refine ⟨gj+1,⟨by omega,D6 hinv2 (by unfold I3;simp_all),hF.sub _ (by repeat' constructor),?_⟩,by omega⟩;exact hM
    obtain rfl:6=gj:=by omega
    refine wp_exit<|tX<|tX<|Aq<|iN<|tN<|wp_region_lit<|st hF (Ar hF rfl rfl (Aj (gi) (1) (by omega))) rfl fun a hF=>mv hF rfl rfl fun a hF=>wpList_nil<|tN ?_;have hM:=hM.drop 1;refine ⟨gi+1,⟨by omega,D6 hinv1 hinv2,hF.sub _ (by repeat' constructor),?_⟩,by omega⟩;exact hM
  obtain rfl:6=gi:=by omega
  refine wp_exit<|tX<|tX<|Aq<|tN<|sr<|ag hF rfl rfl fun a hF=>nt<|wp_ret<|BC rfl hF.defers (Ab hF rfl) ⟨_,rfl,hM.below,?_⟩
  show _=_
  exact GO hinv1
theorem Gb (p n:Int)(T:Nat→Nat→Nat→Nat)(f:Nat→Nat)(w:World)(hT:∀ i j k,T i j k≤255)(hf:∀ i,f i≤255) :
    CallsR Try.prog 151 #[.agg (AJ p n T f)] w (fun res _=>res = .bool (decide (Cr p n T f))):=by
  refine Ak [.agg (AJ p n T f)] Try.func151 rfl Try.ntmps151 rfl fun a hF=>?_;have hM:Af w w [none] []:=MemX.start w 1;change Fr 55 a [(0,.agg (AJ p n T f))] at hF;refine sr<|Am hF (Au 0 hM hF rfl) rfl ?_;rintro _ w' a ⟨b1,rfl,hM,-⟩ hF;change Af w w' [some (b1,AJ p n T f)] [] at hM;refine ag hF rfl rfl fun a hF=>nt<|sq<|sr<|st hF (AN Aw hF rfl) rfl fun a hF=>st hF (AZ Ae hF rfl (hM.row 0 rfl) (BQ (by omega))) rfl fun a hF=>Am hF (Aa Try.call166 hF (.cons rfl .nil) (I8 (p) _)) rfl ?_;rintro _ w' a ⟨hx,rfl⟩ hF;have hM:=hM.ext hx;refine st hF (CB hF rfl) rfl fun a hF=>mv hF rfl rfl fun a hF=>?_
  by_cases g2:¬ (BN (p))
  · first | rw [decide_eq_true g2] at hF | simp only [decide_eq_true g2] at hF
    refine Bg hF rfl rfl rfl rfl rfl fun a hF=>Bg hF rfl rfl rfl rfl rfl fun a hF=>Bg hF rfl rfl rfl rfl rfl fun a hF=>Bg hF rfl rfl rfl rfl rfl fun a hF=>st hF (A7 hF rfl rfl) rfl fun a hF=>mv hF rfl rfl fun a hF=>Bg hF rfl rfl rfl rfl rfl fun a hF=>Bg hF rfl rfl rfl rfl rfl fun a hF=>Bg hF rfl rfl rfl rfl rfl fun a hF=>Bg hF rfl rfl rfl rfl rfl fun a hF=>Bg hF rfl rfl rfl rfl rfl fun a hF=>Bg hF rfl rfl rfl rfl rfl fun a hF=>Bg hF rfl rfl rfl rfl rfl fun a hF=>Bg hF rfl rfl rfl rfl rfl fun a hF=>st hF (A7 hF rfl rfl) rfl fun a hF=>nt<|GN hF rfl<|sr<|ag hF rfl rfl fun a hF=>nt<|wp_ret<|tR<|BC rfl hF.defers (Ab hF rfl) ⟨_,rfl,hM.below,?_⟩
    show _=_
    exact CS (fun hq=>by obtain ⟨q1,q2,q3,q4⟩:=hq;simp_all)
  first | rw [decide_eq_false g2] at hF | simp only [decide_eq_false g2] at hF
  refine BR hF rfl rfl rfl (AN Ai hF rfl) rfl fun a hF=>BR hF rfl rfl rfl (AZ Ae hF rfl (hM.row 0 rfl) (A5 (by omega))) rfl fun a hF=>FU hF rfl rfl rfl (Aa Try.call101 hF (.cons rfl (.cons rfl (.cons rfl .nil))) (Ej (n) (1) (6) _)) rfl ?_;rintro _ w' a ⟨hx,rfl⟩ hF;have hM:=hM.ext hx;refine BR hF rfl rfl rfl (CB hF rfl) rfl fun a hF=>st hF (A3 hF rfl rfl) rfl fun a hF=>mv hF rfl rfl fun a hF=>?_
  by_cases g4:¬ ((1:Int)≤n∧n≤6)
  · first | rw [decide_eq_true g4] at hF | simp only [decide_eq_true g4] at hF
    refine Bg hF rfl rfl rfl rfl rfl fun a hF=>Bg hF rfl rfl rfl rfl rfl fun a hF=>Bg hF rfl rfl rfl rfl rfl fun a hF=>Bg hF rfl rfl rfl rfl rfl fun a hF=>Bg hF rfl rfl rfl rfl rfl fun a hF=>Bg hF rfl rfl rfl rfl rfl fun a hF=>Bg hF rfl rfl rfl rfl rfl fun a hF=>Bg hF rfl rfl rfl rfl rfl fun a hF=>st hF (A7 hF rfl rfl) rfl fun a hF=>nt<|GN hF rfl<|sr<|ag hF rfl rfl fun a hF=>nt<|wp_ret<|tR<|BC rfl hF.defers (Ab hF rfl) ⟨_,rfl,hM.below,?_⟩
    show _=_
    exact CS (fun hq=>by obtain ⟨q1,q2,q3,q4⟩:=hq;simp_all)
  first | rw [decide_eq_false g4] at hF | simp only [decide_eq_false g4] at hF
  refine BR hF rfl rfl rfl (AN Aw hF rfl) rfl fun a hF=>BR hF rfl rfl rfl (AZ Ae hF rfl (hM.row 0 rfl) (BQ (by omega))) rfl fun a hF=>BR hF rfl rfl rfl (AN Ai hF rfl) rfl fun a hF=>BR hF rfl rfl rfl (AZ Ae hF rfl (hM.row 0 rfl) (A5 (by omega))) rfl fun a hF=>BR hF rfl rfl rfl (AN BO hF rfl) rfl fun a hF=>BR hF rfl rfl rfl (AK AP hF rfl (hM.row 0 rfl) (by simp only [AR]<;>omega) (GR (by omega) (by omega))) rfl fun a hF=>FU hF rfl rfl rfl (Aa Try.call165 hF (.cons rfl (.cons rfl (.cons rfl .nil))) (DR (p) (n) (f) _ (fun _=>by first | exact hv _ | exact hu _ | exact hT _ _ _ | exact hf _ | omega | (split<;>omega) | (dsimp only;split<;>omega) | assumption))) rfl ?_;rintro _ w' a ⟨hx,rfl⟩ hF;have hM:=hM.ext hx;refine BR hF rfl rfl rfl (CB hF rfl) rfl fun a hF=>st hF (A3 hF rfl rfl) rfl fun a hF=>nt<|Ad hF rfl (fun h6=>?_) (fun h6=>?_)
  · refine sq ?_
    refine wp_region_lit<|ag hF rfl rfl fun a hF=>nt<|wp_ret<|tR<|BC rfl hF.defers (Ab hF rfl) ⟨_,rfl,hM.below,?_⟩
    show _=_
    exact CS (fun hq=>by obtain ⟨q1,q2,q3,q4⟩:=hq;simp_all)
  refine wp_skip<|tN<|sq<|sr<|ag hF rfl rfl fun a hF=>nt<|wp_block ?_;change Af w _ [some (b1,AJ p n T f)] [] at hM;refine Az (fun (kk:Nat) a w'=>kk≤6∧(∀ i,i<kk→∀ j,j<6→FZ p n T i j)∧Fr 55 a [(1,ptr b1 (0)),(25,.bool (decide (¬ (okV (p) (n) (f))))),(3,.int .i64 (kk:Int))]∧Af w w' [some (b1,AJ p n T f)] []) (fun kk=>6 - kk) 0 ?_ ?_
  · refine ⟨by omega,fun i hi=>absurd hi (by omega),hF.sub _ (by repeat' constructor),?_⟩
    exact hM
  clear hF hM;rintro gi a w' ⟨hgi,hinv1,hF,hM⟩;refine sq<|sr<|mv hF rfl rfl fun a hF=>st hF (A4 hF rfl rfl) rfl fun a hF=>nt<|Ad hF rfl (fun h7=>?_) (fun h7=>?_)
  · refine wp_skip ?_
    refine tN<|sq<|wp_block<|sr<|ag hF rfl rfl fun a hF=>nt<|wp_block ?_;change Af w _ [some (b1,AJ p n T f)] [] at hM;refine Az (fun (kk:Nat) a w'=>kk≤6∧(∀ j,j<kk→FZ p n T gi j)∧Fr 55 a [(1,ptr b1 (0)),(25,.bool (decide (¬ (okV (p) (n) (f))))),(3,.int .i64 (gi:Int)),(26,.int .i64 (gi:Int)),(27,.bool (decide (((gi:Int):Int)<6))),(4,.int .i64 (kk:Int))]∧Af w w' [some (b1,AJ p n T f)] []) (fun kk=>6 - kk) 0 ?_ ?_
    · refine ⟨by omega,fun i hi=>absurd hi (by omega),hF.sub _ (by repeat' constructor),?_⟩
      exact hM
    clear hF hM;rintro gj a w' ⟨hgj,hinv2,hF,hM⟩;refine sq<|sr<|mv hF rfl rfl fun a hF=>st hF (A4 hF rfl rfl) rfl fun a hF=>nt<|Ad hF rfl (fun h8=>?_) (fun h8=>?_)
    · refine wp_skip ?_
      refine tN<|sq<|wp_block<|sr<|st hF (AN Ai hF rfl) rfl fun a hF=>st hF (AZ Ae hF rfl (hM.row 0 rfl) (A5 (by omega))) rfl fun a hF=>ag hF rfl rfl fun a hF=>nt<|sq<|sr<|mv hF rfl rfl fun a hF=>mv hF rfl rfl fun a hF=>st hF (Fg hF rfl rfl) rfl fun a hF=>mv hF rfl rfl fun a hF=>?_
      by_cases g9:n≤((gi:Int):Int)
      · first | rw [decide_eq_true g9] at hF | simp only [decide_eq_true g9] at hF
        refine Bg hF rfl rfl rfl rfl rfl fun a hF=>Bg hF rfl rfl rfl rfl rfl fun a hF=>Bg hF rfl rfl rfl rfl rfl fun a hF=>st hF (A7 hF rfl rfl) rfl fun a hF=>nt<|GN hF rfl<|wp_region_lit<|ag hF rfl rfl fun a hF=>nt<|sq<|BY 9 [] [.val (ptr b1 (0+0)),.val (.int .i64 (p)),.val (.int .i64 (0)),.val (.int .i64 (gi:Int)),.val (.int .i64 (gj:Int)),.val (ptr b1 (0+2)),.val (ptr b1 (0+2+(gi)*36)),.val (ptr b1 (0+2+(gi)*36+(gj)*6)),.val (.agg (AI (T (gi) (gj))))] Bc rfl hF rfl hM ⟨fun a w gG hF hS hd=>by exact AM hS rfl (AN Aw hF rfl),fun a w gG hF hS hd=>by have hF:=hF.ext1 44 (hd 0 rfl rfl);have hM:=hS.mem rfl;exact AM hS rfl (AZ Ae hF rfl (hM.row 0 rfl) (BQ (by omega))),fun a w gG hF hS hd=>by exact BP hS rfl hF rfl,fun a w gG hF hS hd=>by exact BP hS rfl hF rfl,fun a w gG hF hS hd=>by exact BP hS rfl hF rfl,fun a w gG hF hS hd=>by exact AM hS rfl (AN BD hF rfl),fun a w gG hF hS hd=>by have hF:=hF.ext1 47 (hd 3 rfl rfl);have hF:=hF.ext1 49 (hd 5 rfl rfl);exact AM hS rfl (AS BT hF rfl rfl rfl (by omega)),fun a w gG hF hS hd=>by have hF:=hF.ext1 48 (hd 4 rfl rfl);have hF:=hF.ext1 50 (hd 6 rfl rfl);exact AM hS rfl (AS BU hF rfl rfl rfl (by omega)),fun a w gG hF hS hd=>by have hF:=hF.ext1 51 (hd 7 rfl rfl);have hM:=hS.mem rfl;exact AM hS rfl (AK CK hF rfl (hM.row 0 rfl) (by simp only [AR]<;>omega) (DU (gi) (gj) (by omega) (by omega) (by omega) (by omega))),trivial⟩ ?_;intro a w' L hF hS hq;have hF:=hF.ext1 44 (hq 0 rfl rfl);have hF:=hF.ext1 45 (hq 1 rfl rfl);have hF:=hF.ext1 46 (hq 2 rfl rfl);have hF:=hF.ext1 47 (hq 3 rfl rfl);have hF:=hF.ext1 48 (hq 4 rfl rfl);have hF:=hF.ext1 49 (hq 5 rfl rfl);have hF:=hF.ext1 50 (hq 6 rfl rfl);have hF:=hF.ext1 51 (hq 7 rfl rfl);have hF:=hF.ext1 52 (hq 8 rfl rfl);have hM:=hS.mem rfl;change wpList Try.prog _ _ [_,_] _ _;refine Am hF (Aa Try.call165 hF (.cons rfl (.cons rfl (.cons rfl .nil))) (DR (p) (0) ((T (gi) (gj))) _ (fun _=>by first | exact hv _ | exact hu _ | exact hT _ _ _ | exact hf _ | omega | (split<;>omega) | (dsimp only;split<;>omega) | assumption))) rfl ?_;rintro _ w' a ⟨hx,rfl⟩ hF;have hM:=hM.ext hx;refine st hF (CB hF rfl) rfl fun a hF=>nt<|Ad hF rfl (fun h11=>?_) (fun h11=>?_)
        · refine sq ?_
          refine wp_region_lit<|ag hF rfl rfl fun a hF=>nt<|wp_ret<|iR<|tR<|tR<|iR<|iR<|tR<|tR<|iR<|tR<|BC rfl hF.defers (Ab hF rfl) ⟨_,rfl,hM.below,?_⟩
          show _=_
          exact CS (fun hq=>absurd (hq.2.2.2 gi (by omega) gj (by omega)) (by unfold FZ;first | (rw [if_pos (by omega)];first | assumption | exact Classical.byContradiction ‹_›) | (rw [if_neg (by omega)];first | assumption | exact Classical.byContradiction ‹_›)))
        refine wp_skip<|iN<|tN<|wp_region_lit<|mv hF rfl rfl fun a hF=>st hF (Ar hF rfl rfl (Aj (gj) (1) (by omega))) rfl fun a hF=>ag hF rfl rfl fun a hF=>nt<|⟨gj+1,⟨by omega,D6 hinv2 (by unfold FZ;first | (rw [if_pos (by omega)];first | assumption | exact Classical.byContradiction ‹_›) | (rw [if_neg (by omega)];first | assumption | exact Classical.byContradiction ‹_›)),hF.sub _ (by repeat' constructor),?_⟩,by omega⟩;exact hM
      first | rw [decide_eq_false g9] at hF | simp only [decide_eq_false g9] at hF
      refine BR hF rfl rfl rfl (At hF rfl) rfl fun a hF=>BR hF rfl rfl rfl (At hF rfl) rfl fun a hF=>BR hF rfl rfl rfl (Fg hF rfl rfl) rfl fun a hF=>st hF (A3 hF rfl rfl) rfl fun a hF=>nt<|Ad hF rfl (fun h12=>?_) (fun h12=>?_)
      · refine wp_region_lit ?_
        refine ag hF rfl rfl fun a hF=>nt<|sq<|BY 9 [] [.val (ptr b1 (0+0)),.val (.int .i64 (p)),.val (.int .i64 (0)),.val (.int .i64 (gi:Int)),.val (.int .i64 (gj:Int)),.val (ptr b1 (0+2)),.val (ptr b1 (0+2+(gi)*36)),.val (ptr b1 (0+2+(gi)*36+(gj)*6)),.val (.agg (AI (T (gi) (gj))))] Bc rfl hF rfl hM ⟨fun a w gG hF hS hd=>by exact AM hS rfl (AN Aw hF rfl),fun a w gG hF hS hd=>by have hF:=hF.ext1 44 (hd 0 rfl rfl);have hM:=hS.mem rfl;exact AM hS rfl (AZ Ae hF rfl (hM.row 0 rfl) (BQ (by omega))),fun a w gG hF hS hd=>by exact BP hS rfl hF rfl,fun a w gG hF hS hd=>by exact BP hS rfl hF rfl,fun a w gG hF hS hd=>by exact BP hS rfl hF rfl,fun a w gG hF hS hd=>by exact AM hS rfl (AN BD hF rfl),fun a w gG hF hS hd=>by have hF:=hF.ext1 47 (hd 3 rfl rfl);have hF:=hF.ext1 49 (hd 5 rfl rfl);exact AM hS rfl (AS BT hF rfl rfl rfl (by omega)),fun a w gG hF hS hd=>by have hF:=hF.ext1 48 (hd 4 rfl rfl);have hF:=hF.ext1 50 (hd 6 rfl rfl);exact AM hS rfl (AS BU hF rfl rfl rfl (by omega)),fun a w gG hF hS hd=>by have hF:=hF.ext1 51 (hd 7 rfl rfl);have hM:=hS.mem rfl;exact AM hS rfl (AK CK hF rfl (hM.row 0 rfl) (by simp only [AR]<;>omega) (DU (gi) (gj) (by omega) (by omega) (by omega) (by omega))),trivial⟩ ?_;intro a w' L hF hS hq;have hF:=hF.ext1 44 (hq 0 rfl rfl);have hF:=hF.ext1 45 (hq 1 rfl rfl);have hF:=hF.ext1 46 (hq 2 rfl rfl);have hF:=hF.ext1 47 (hq 3 rfl rfl);have hF:=hF.ext1 48 (hq 4 rfl rfl);have hF:=hF.ext1 49 (hq 5 rfl rfl);have hF:=hF.ext1 50 (hq 6 rfl rfl);have hF:=hF.ext1 51 (hq 7 rfl rfl);have hF:=hF.ext1 52 (hq 8 rfl rfl);have hM:=hS.mem rfl;change wpList Try.prog _ _ [_,_] _ _;refine Am hF (Aa Try.call165 hF (.cons rfl (.cons rfl (.cons rfl .nil))) (DR (p) (0) ((T (gi) (gj))) _ (fun _=>by first | exact hv _ | exact hu _ | exact hT _ _ _ | exact hf _ | omega | (split<;>omega) | (dsimp only;split<;>omega) | assumption))) rfl ?_;rintro _ w' a ⟨hx,rfl⟩ hF;have hM:=hM.ext hx;refine st hF (CB hF rfl) rfl fun a hF=>nt<|Ad hF rfl (fun h13=>?_) (fun h13=>?_)
        · refine sq ?_
          refine wp_region_lit<|ag hF rfl rfl fun a hF=>nt<|wp_ret<|iR<|tR<|tR<|iR<|iR<|tR<|tR<|iR<|tR<|BC rfl hF.defers (Ab hF rfl) ⟨_,rfl,hM.below,?_⟩
          show _=_
          exact CS (fun hq=>absurd (hq.2.2.2 gi (by omega) gj (by omega)) (by unfold FZ;first | (rw [if_pos (by omega)];first | assumption | exact Classical.byContradiction ‹_›) | (rw [if_neg (by omega)];first | assumption | exact Classical.byContradiction ‹_›)))
        refine wp_skip<|iN<|tN<|wp_region_lit<|mv hF rfl rfl fun a hF=>st hF (Ar hF rfl rfl (Aj (gj) (1) (by omega))) rfl fun a hF=>ag hF rfl rfl fun a hF=>nt<|⟨gj+1,⟨by omega,D6 hinv2 (by unfold FZ;first | (rw [if_pos (by omega)];first | assumption | exact Classical.byContradiction ‹_›) | (rw [if_neg (by omega)];first | assumption | exact Classical.byContradiction ‹_›)),hF.sub _ (by repeat' constructor),?_⟩,by omega⟩;exact hM
      refine wp_skip<|tN<|sq<|BY 9 [] [.val (ptr b1 (0+0)),.val (.int .i64 (p)),.val (.int .i64 (n)),.val (.int .i64 (gi:Int)),.val (.int .i64 (gj:Int)),.val (ptr b1 (0+2)),.val (ptr b1 (0+2+(gi)*36)),.val (ptr b1 (0+2+(gi)*36+(gj)*6)),.val (.agg (AI (T (gi) (gj))))] Bc rfl hF rfl hM ⟨fun a w gG hF hS hd=>by exact AM hS rfl (AN Aw hF rfl),fun a w gG hF hS hd=>by have hF:=hF.ext1 44 (hd 0 rfl rfl);have hM:=hS.mem rfl;exact AM hS rfl (AZ Ae hF rfl (hM.row 0 rfl) (BQ (by omega))),fun a w gG hF hS hd=>by exact BP hS rfl hF rfl,fun a w gG hF hS hd=>by exact BP hS rfl hF rfl,fun a w gG hF hS hd=>by exact BP hS rfl hF rfl,fun a w gG hF hS hd=>by exact AM hS rfl (AN BD hF rfl),fun a w gG hF hS hd=>by have hF:=hF.ext1 47 (hd 3 rfl rfl);have hF:=hF.ext1 49 (hd 5 rfl rfl);exact AM hS rfl (AS BT hF rfl rfl rfl (by omega)),fun a w gG hF hS hd=>by have hF:=hF.ext1 48 (hd 4 rfl rfl);have hF:=hF.ext1 50 (hd 6 rfl rfl);exact AM hS rfl (AS BU hF rfl rfl rfl (by omega)),fun a w gG hF hS hd=>by have hF:=hF.ext1 51 (hd 7 rfl rfl);have hM:=hS.mem rfl;exact AM hS rfl (AK CK hF rfl (hM.row 0 rfl) (by simp only [AR]<;>omega) (DU (gi) (gj) (by omega) (by omega) (by omega) (by omega))),trivial⟩ ?_;intro a w' L hF hS hq;have hF:=hF.ext1 44 (hq 0 rfl rfl);have hF:=hF.ext1 45 (hq 1 rfl rfl);have hF:=hF.ext1 46 (hq 2 rfl rfl);have hF:=hF.ext1 47 (hq 3 rfl rfl);have hF:=hF.ext1 48 (hq 4 rfl rfl);have hF:=hF.ext1 49 (hq 5 rfl rfl);have hF:=hF.ext1 50 (hq 6 rfl rfl);have hF:=hF.ext1 51 (hq 7 rfl rfl);have hF:=hF.ext1 52 (hq 8 rfl rfl);have hM:=hS.mem rfl;change wpList Try.prog _ _ [_,_] _ _;refine Am hF (Aa Try.call165 hF (.cons rfl (.cons rfl (.cons rfl .nil))) (DR (p) (n) ((T (gi) (gj))) _ (fun _=>by first | exact hv _ | exact hu _ | exact hT _ _ _ | exact hf _ | omega | (split<;>omega) | (dsimp only;split<;>omega) | assumption))) rfl ?_;rintro _ w' a ⟨hx,rfl⟩ hF;have hM:=hM.ext hx;refine st hF (CB hF rfl) rfl fun a hF=>nt<|Ad hF rfl (fun h14=>?_) (fun h14=>?_)
      · refine sq ?_
        refine wp_region_lit<|ag hF rfl rfl fun a hF=>nt<|wp_ret<|iR<|tR<|tR<|iR<|iR<|tR<|tR<|iR<|tR<|BC rfl hF.defers (Ab hF rfl) ⟨_,rfl,hM.below,?_⟩
        show _=_
        exact CS (fun hq=>absurd (hq.2.2.2 gi (by omega) gj (by omega)) (by unfold FZ;first | (rw [if_pos (by omega)];first | assumption | exact Classical.byContradiction ‹_›) | (rw [if_neg (by omega)];first | assumption | exact Classical.byContradiction ‹_›)))
      refine wp_skip<|iN<|tN<|wp_region_lit<|mv hF rfl rfl fun a hF=>st hF (Ar hF rfl rfl (Aj (gj) (1) (by omega))) rfl fun a hF=>ag hF rfl rfl fun a hF=>nt<|⟨gj+1,⟨by omega,D6 hinv2 (by unfold FZ;first | (rw [if_pos (by omega)];first | assumption | exact Classical.byContradiction ‹_›) | (rw [if_neg (by omega)];first | assumption | exact Classical.byContradiction ‹_›)),hF.sub _ (by repeat' constructor),?_⟩,by omega⟩;exact hM
    obtain rfl:6=gj:=by omega
    refine wp_exit<|tX<|tX<|Aq<|iN<|tN<|wp_region_lit<|mv hF rfl rfl fun a hF=>st hF (Ar hF rfl rfl (Aj (gi) (1) (by omega))) rfl fun a hF=>ag hF rfl rfl fun a hF=>nt<|⟨gi+1,⟨by omega,D6 hinv1 hinv2,hF.sub _ (by repeat' constructor),?_⟩,by omega⟩;exact hM
  obtain rfl:6=gi:=by omega
  refine wp_exit<|tX<|tX<|Aq<|tN<|sr<|ag hF rfl rfl fun a hF=>nt<|wp_ret<|BC rfl hF.defers (Ab hF rfl) ⟨_,rfl,hM.below,?_⟩
  show _=_
  exact GO ⟨by simp_all,by simp_all,by simp_all,hinv1⟩
def e1 (i:Nat):Nat→Nat:=fun c=>if c=i then 1 else 0
def M5 (p n:Nat) (T:Nat→Nat→Nat→Nat) (i j k:Nat):Prop:=FR 6 (timesV p n T (T i j) (fun c=>if c=k then 1 else 0)) (timesV p n T (fun c=>if c=i then 1 else 0) (T j k))
instance (p n:Nat) (T:Nat→Nat→Nat→Nat) (i j k:Nat):Decidable (M5 p n T i j k):=by unfold M5;infer_instance
def Mg (p n:Nat) (T:Nat→Nat→Nat→Nat) (j:Nat):Prop:=∀ i,i<n→∀ k,k<n→M5 p n T i j k
instance (p n:Nat) (T:Nat→Nat→Nat→Nat) (j:Nat):Decidable (Mg p n T j):=by unfold Mg;exact Nat.decidableBallLT n _
def cntA (p n:Nat) (T:Nat→Nat→Nat→Nat) (g:Nat):Nat:=sumTo (fun j=>if Mg p n T j then 1 else 0) g
theorem LZ {p n g:Nat}{T:Nat→Nat→Nat→Nat}(h:Mg p n T g):cntA p n T g+1=cntA p n T (g+1):=by simp [cntA,sumTo,h]
theorem MQ {p n g:Nat}{T:Nat→Nat→Nat→Nat}(i k:Nat)(hi:i<n)(hk:k<n)(h:¬ M5 p n T i g k):cntA p n T g=cntA p n T (g+1):=by
  have:¬ Mg p n T g:=fun hq=>h (hq i hi k hk)
  simp [cntA,sumTo,this]
theorem FF {q:Nat→Prop}[∀ j,Decidable (q j)]:∀ (m:Nat),sumTo (fun j=>if q j then 1 else 0) m≤m∧(sumTo (fun j=>if q j then 1 else 0) m=m↔∀ j,j<m→q j)
  | 0=>⟨Nat.le_refl _,by simp [sumTo]⟩
  | m + 1 => by
    have ih:=FF (q:=q) m
    simp only [sumTo]
    by_cases h:q m
    · refine ⟨by simp [h];omega,⟨fun e j hj=>?_,fun ha=>?_⟩⟩
      · by_cases ej:j=m
        · subst ej;exact h
        · exact ih.2.1 (by simp [h] at e;omega) j (by omega)
      · have:=ih.2.2 (fun j hj=>ha j (by omega));simp [h];omega
    · refine ⟨by simp [h];omega,⟨fun e=>?_,fun ha=>absurd (ha m (by omega)) h⟩⟩
      simp [h] at e;omega
def M6 (p n:Nat) (T:Nat→Nat→Nat→Nat):Prop:=∀ j,j<n→Mg p n T j
instance (p n:Nat) (T:Nat→Nat→Nat→Nat):Decidable (M6 p n T):=Nat.decidableBallLT n _
theorem MR {p n g:Nat}{T:Nat→Nat→Nat→Nat}:cntA p n T g≤g:=(FF g).1
theorem La {p n:Nat}{T:Nat→Nat→Nat→Nat}:(cntA p n T n:Int)=(n:Int)↔M6 p n T:=by
  have:=(FF (q:=Mg p n T) n).2
  unfold cntA M6;rw [← this];omega
theorem GH (p n:Nat)(T:Nat→Nat→Nat→Nat)(f:Nat→Nat)(w:World)(hp:0<p)(hp2:p<100)(hn:n≤6)(hT:∀ i j k,T i j k≤255)(hf:∀ i,f i≤255) :
    CallsR Try.prog 93 #[.agg (AJ (p:Int) (n:Int) T f)] w (fun res _=>res = .bool (decide (M6 p n T))):=by
  refine Ak [.agg (AJ (p:Int) (n:Int) T f)] Try.func93 rfl Try.ntmps93 rfl fun a hF=>?_;have hM:Af w w [none,none,none] []:=MemX.start w 3;change Fr 56 a [(0,.agg (AJ (p:Int) (n:Int) T f))] at hF;refine sr<|Am hF (Au 0 hM hF rfl) rfl ?_;rintro _ w' a ⟨b1,rfl,hM,-⟩ hF;change Af w w' [some (b1,AJ (p:Int) (n:Int) T f),none,none] [] at hM;refine ag hF rfl rfl fun a hF=>nt<|wp_scope_straight<|sr<|ag hF rfl rfl fun a hF=>nt<|sq<|wp_label<|tN<|sq<|sr<|st hF (AN Ai hF rfl) rfl fun a hF=>st hF (AZ Ae hF rfl (hM.row 0 rfl) (A5 (by omega))) rfl fun a hF=>mv hF rfl rfl fun a hF=>nt<|wp_block ?_;change Af w _ [some (b1,AJ (p:Int) (n:Int) T f),none,none] [] at hM;refine Az (fun (kk:Nat) a w'=>kk≤n∧(True)∧Fr 56 a [(1,ptr b1 (0)),(2,.bool (false)),(10,.int .i64 (n:Int)),(11,.int .i64 (kk:Int)),(3,.int .i64 ((cntA p n T kk:Int)))]∧Af w w' [some (b1,AJ (p:Int) (n:Int) T f),none,none] []) (fun kk=>n - kk) 0 ?_ ?_
  · refine ⟨by omega,trivial,hF.sub _ (by repeat' constructor),?_⟩
    exact hM
  clear hF hM;rintro gj a w' ⟨hgj,hinv1,hF,hM⟩;have hca:=MR (p:=p) (n:=n) (g:=gj) (T:=T);refine sr<|st hF (A4 hF rfl rfl) rfl fun a hF=>nt<|sq<|Ad hF rfl (fun h2=>?_) (fun h2=>?_)
  · refine wp_skip ?_
    refine tN<|sq<|wp_block<|sr<|mv hF rfl rfl fun a hF=>ag hF rfl rfl fun a hF=>nt<|sq<|sr<|st hF (AN Ai hF rfl) rfl fun a hF=>st hF (AZ Ae hF rfl (hM.row 0 rfl) (A5 (by omega))) rfl fun a hF=>mv hF rfl rfl fun a hF=>nt<|wp_block ?_;change Af w _ [some (b1,AJ (p:Int) (n:Int) T f),none,none] [] at hM;refine Az (fun (kk:Nat) a w'=>kk≤n∧(∀ i,i<kk→∀ k,k<n→M5 p n T i gj k)∧Fr 56 a [(1,ptr b1 (0)),(2,.bool (false)),(10,.int .i64 (n:Int)),(11,.int .i64 (gj:Int)),(3,.int .i64 ((cntA p n T gj:Int))),(12,.bool (decide (((gj:Int):Int)<(n:Int)))),(13,.int .i64 (gj:Int)),(4,.int .i64 (gj:Int)),(14,ptr b1 (0+1)),(15,.int .i64 (n:Int)),(16,.int .i64 (kk:Int))]∧Af w w' [some (b1,AJ (p:Int) (n:Int) T f),none,none] []) (fun kk=>n - kk) 0 ?_ ?_
    · refine ⟨by omega,fun i hi=>absurd hi (by omega),hF.sub _ (by repeat' constructor),?_⟩
      exact hM
    clear hF hM;rintro gi a w' ⟨hgi,hinv2,hF,hM⟩;refine sr<|st hF (A4 hF rfl rfl) rfl fun a hF=>nt<|sq<|Ad hF rfl (fun h3=>?_) (fun h3=>?_)
    · refine wp_skip ?_
      refine tN<|sq<|wp_block<|sr<|mv hF rfl rfl fun a hF=>ag hF rfl rfl fun a hF=>ns<|st hF (AN Ai hF rfl) rfl fun a hF=>st hF (AZ Ae hF rfl (hM.row 0 rfl) (A5 (by omega))) rfl fun a hF=>mv hF rfl rfl fun a hF=>nt<|wp_block ?_;change Af w _ [some (b1,AJ (p:Int) (n:Int) T f),none,none] [] at hM;refine Az (fun (kk:Nat) a w'=>kk≤n∧(∀ k,k<kk→M5 p n T gi gj k)∧Fr 56 a [(1,ptr b1 (0)),(2,.bool (false)),(10,.int .i64 (n:Int)),(11,.int .i64 (gj:Int)),(3,.int .i64 ((cntA p n T gj:Int))),(12,.bool (decide (((gj:Int):Int)<(n:Int)))),(13,.int .i64 (gj:Int)),(4,.int .i64 (gj:Int)),(14,ptr b1 (0+1)),(15,.int .i64 (n:Int)),(16,.int .i64 (gi:Int)),(17,.bool (decide (((gi:Int):Int)<(n:Int)))),(18,.int .i64 (gi:Int)),(5,.int .i64 (gi:Int)),(19,ptr b1 (0+1)),(20,.int .i64 (n:Int)),(21,.int .i64 (kk:Int))]∧Af w w' [some (b1,AJ (p:Int) (n:Int) T f),none,none] []) (fun kk=>n - kk) 0 ?_ ?_
      · refine ⟨by omega,fun i hi=>absurd hi (by omega),hF.sub _ (by repeat' constructor),?_⟩
        exact hM
      clear hF hM;rintro gk a w' ⟨hgk,hinv3,hF,hM⟩;refine sr<|st hF (A4 hF rfl rfl) rfl fun a hF=>nt<|sq<|Ad hF rfl (fun h4=>?_) (fun h4=>?_)
      · refine wp_skip ?_
        refine tN<|sq<|wp_block<|sr<|mv hF rfl rfl fun a hF=>ag hF rfl rfl fun a hF=>nt<|sq<|BY 11 [1] [.val (.agg (AJ (p:Int) (n:Int) T f)),.val (.int .i64 (gi:Int)),.val (.int .i64 (gj:Int)),.val (ptr b1 (0+2)),.val (ptr b1 (0+2+(gi)*36)),.val (ptr b1 (0+2+(gi)*36+(gj)*6)),.val (.agg (AI (T (gi) (gj)))),.val (.int .i64 (gk:Int)),.val (.agg (AI (fun c=>if c=gk then 1 else 0))),.val (.agg (AI (timesV p n T ((T (gi) (gj))) ((fun c=>if c=gk then 1 else 0))))),.own 1 (Ag 6 (fun _=>.int .u8 (0))) (fun b=>ptr b 0)] Bc rfl hF rfl hM ⟨fun a w gG hF hS hd=>by have hM:=hS.mem rfl;exact AM hS rfl (AK AU hF rfl (hM.row 0 rfl) (by simp only [AR]<;>omega) (whole AQ)),fun a w gG hF hS hd=>by exact BP hS rfl hF rfl,fun a w gG hF hS hd=>by exact BP hS rfl hF rfl,fun a w gG hF hS hd=>by exact AM hS rfl (AN BD hF rfl),fun a w gG hF hS hd=>by have hF:=hF.ext1 25 (hd 1 rfl rfl);have hF:=hF.ext1 27 (hd 3 rfl rfl);exact AM hS rfl (AS BT hF rfl rfl rfl (by omega)),fun a w gG hF hS hd=>by have hF:=hF.ext1 26 (hd 2 rfl rfl);have hF:=hF.ext1 28 (hd 4 rfl rfl);exact AM hS rfl (AS BU hF rfl rfl rfl (by omega)),fun a w gG hF hS hd=>by have hF:=hF.ext1 29 (hd 5 rfl rfl);have hM:=hS.mem rfl;exact AM hS rfl (AK CK hF rfl (hM.row 0 rfl) (by simp only [AR]<;>omega) (DU (gi) (gj) (by omega) (by omega) (by omega) (by omega))),fun a w gG hF hS hd=>by exact BP hS rfl hF rfl,fun a w gG hF hS hd=>by have hF:=hF.ext1 31 (hd 7 rfl rfl);exact BJ (by repeat constructor) hS rfl (Aa Try.call142 hF (.cons rfl .nil) (Ch (gk) _ (by omega))),fun a w gG hF hS hd=>by have hF:=hF.ext1 24 (hd 0 rfl rfl);have hF:=hF.ext1 30 (hd 6 rfl rfl);have hF:=hF.ext1 32 (hd 8 rfl rfl);exact BJ (by repeat constructor) hS rfl (Aa Try.call87 hF (.cons rfl (.cons rfl (.cons rfl .nil))) (C8 p n T f ((T (gi) (gj))) ((fun c=>if c=gk then 1 else 0)) _ (by omega) (by omega) (by omega) (fun _ _ _=>hT _ _ _) (fun _=>by first | exact hv _ | exact hu _ | exact hT _ _ _ | exact hf _ | omega | (split<;>omega) | (dsimp only;split<;>omega) | assumption) (fun _=>by first | exact hv _ | exact hu _ | exact hT _ _ _ | exact hf _ | omega | (split<;>omega) | (dsimp only;split<;>omega) | assumption))),fun a w gG hF hS hd=>by exact Ds (by repeat constructor) hS rfl rfl rfl rfl (AW 1 hS.1 Ac),trivial⟩ ?_;intro a w' L hF hS hq;have hF:=hF.ext1 24 (hq 0 rfl rfl);have hF:=hF.ext1 25 (hq 1 rfl rfl);have hF:=hF.ext1 26 (hq 2 rfl rfl);have hF:=hF.ext1 27 (hq 3 rfl rfl);have hF:=hF.ext1 28 (hq 4 rfl rfl);have hF:=hF.ext1 29 (hq 5 rfl rfl);have hF:=hF.ext1 30 (hq 6 rfl rfl);have hF:=hF.ext1 31 (hq 7 rfl rfl);have hF:=hF.ext1 32 (hq 8 rfl rfl);have hF:=hF.ext1 33 (hq 9 rfl rfl);obtain ⟨hM,hL⟩:=hS;obtain ⟨b5,hptr,hkk⟩:=hq 10 rfl rfl;have hF:=hF.ext1 7 hptr;have hL:=hL.take hkk;obtain rfl:=hL.eq;change Af w w' [some (b1,AJ (p:Int) (n:Int) T f),some (b5,Ag 6 (fun _=>.int .u8 (0))),none] [] at hM;change wpList Try.prog _ _ [_] _ _;refine A8 hF (AO 1 hM rfl AY hF rfl rfl (by first | exact AT | exact cells_one | (refine AV fun _ _=>?_;first | rfl | (split<;>rfl))) (by simp only [AR]) (by simp only [AR]<;>omega) (AL _ _ (by simp only [AR]))) ?_;intro _ w' a hM hF;change Af w w' [some (b1,AJ (p:Int) (n:Int) T f),some (b5,AI (timesV p n T ((T (gi) (gj))) ((fun c=>if c=gk then 1 else 0)))),none] [] at hM;refine nt<|sq<|BY 11 [2] [.val (.agg (AJ (p:Int) (n:Int) T f)),.val (.int .i64 (gi:Int)),.val (.agg (AI (fun c=>if c=gi then 1 else 0))),.val (.int .i64 (gj:Int)),.val (.int .i64 (gk:Int)),.val (ptr b1 (0+2)),.val (ptr b1 (0+2+(gj)*36)),.val (ptr b1 (0+2+(gj)*36+(gk)*6)),.val (.agg (AI (T (gj) (gk)))),.val (.agg (AI (timesV p n T ((fun c=>if c=gi then 1 else 0)) ((T (gj) (gk)))))),.own 2 (Ag 6 (fun _=>.int .u8 (0))) (fun b=>ptr b 0)] Bc rfl hF rfl hM ⟨fun a w gG hF hS hd=>by have hM:=hS.mem rfl;exact AM hS rfl (AK AU hF rfl (hM.row 0 rfl) (by simp only [AR]<;>omega) (whole AQ)),fun a w gG hF hS hd=>by exact BP hS rfl hF rfl,fun a w gG hF hS hd=>by have hF:=hF.ext1 35 (hd 1 rfl rfl);exact BJ (by repeat constructor) hS rfl (Aa Try.call142 hF (.cons rfl .nil) (Ch (gi) _ (by omega))),fun a w gG hF hS hd=>by exact BP hS rfl hF rfl,fun a w gG hF hS hd=>by exact BP hS rfl hF rfl,fun a w gG hF hS hd=>by exact AM hS rfl (AN BD hF rfl),fun a w gG hF hS hd=>by have hF:=hF.ext1 37 (hd 3 rfl rfl);have hF:=hF.ext1 39 (hd 5 rfl rfl);exact AM hS rfl (AS BT hF rfl rfl rfl (by omega)),fun a w gG hF hS hd=>by have hF:=hF.ext1 38 (hd 4 rfl rfl);have hF:=hF.ext1 40 (hd 6 rfl rfl);exact AM hS rfl (AS BU hF rfl rfl rfl (by omega)),fun a w gG hF hS hd=>by have hF:=hF.ext1 41 (hd 7 rfl rfl);have hM:=hS.mem rfl;exact AM hS rfl (AK CK hF rfl (hM.row 0 rfl) (by simp only [AR]<;>omega) (DU (gj) (gk) (by omega) (by omega) (by omega) (by omega))),fun a w gG hF hS hd=>by have hF:=hF.ext1 34 (hd 0 rfl rfl);have hF:=hF.ext1 36 (hd 2 rfl rfl);have hF:=hF.ext1 42 (hd 8 rfl rfl);exact BJ (by repeat constructor) hS rfl (Aa Try.call87 hF (.cons rfl (.cons rfl (.cons rfl .nil))) (C8 p n T f ((fun c=>if c=gi then 1 else 0)) ((T (gj) (gk))) _ (by omega) (by omega) (by omega) (fun _ _ _=>hT _ _ _) (fun _=>by first | exact hv _ | exact hu _ | exact hT _ _ _ | exact hf _ | omega | (split<;>omega) | (dsimp only;split<;>omega) | assumption) (fun _=>by first | exact hv _ | exact hu _ | exact hT _ _ _ | exact hf _ | omega | (split<;>omega) | (dsimp only;split<;>omega) | assumption))),fun a w gG hF hS hd=>by exact Ds (by repeat constructor) hS rfl rfl rfl rfl (AW 2 hS.1 Ac),trivial⟩ ?_
        intro a w' L hF hS hq;have hF:=hF.ext1 34 (hq 0 rfl rfl);have hF:=hF.ext1 35 (hq 1 rfl rfl);have hF:=hF.ext1 36 (hq 2 rfl rfl);have hF:=hF.ext1 37 (hq 3 rfl rfl);have hF:=hF.ext1 38 (hq 4 rfl rfl);have hF:=hF.ext1 39 (hq 5 rfl rfl);have hF:=hF.ext1 40 (hq 6 rfl rfl);have hF:=hF.ext1 41 (hq 7 rfl rfl);have hF:=hF.ext1 42 (hq 8 rfl rfl);have hF:=hF.ext1 43 (hq 9 rfl rfl);obtain ⟨hM,hL⟩:=hS;obtain ⟨b6,hptr,hkk⟩:=hq 10 rfl rfl;have hF:=hF.ext1 8 hptr;have hL:=hL.take hkk;obtain rfl:=hL.eq;change Af w w' [some (b1,AJ (p:Int) (n:Int) T f),some (b5,AI (timesV p n T ((T (gi) (gj))) ((fun c=>if c=gk then 1 else 0)))),some (b6,Ag 6 (fun _=>.int .u8 (0)))] [] at hM;change wpList Try.prog _ _ [_] _ _;refine A8 hF (AO 2 hM rfl AY hF rfl rfl (by first | exact AT | exact cells_one | (refine AV fun _ _=>?_;first | rfl | (split<;>rfl))) (by simp only [AR]) (by simp only [AR]<;>omega) (AL _ _ (by simp only [AR]))) ?_;intro _ w' a hM hF;change Af w w' [some (b1,AJ (p:Int) (n:Int) T f),some (b5,AI (timesV p n T ((T (gi) (gj))) ((fun c=>if c=gk then 1 else 0)))),some (b6,AI (timesV p n T ((fun c=>if c=gi then 1 else 0)) ((T (gj) (gk)))))] [] at hM;refine ns<|st hF (AK AP hF rfl (hM.row 1 rfl) (by simp only [AR]<;>omega) (whole (by simp only [AR]))) rfl fun a hF=>st hF (AK AP hF rfl (hM.row 2 rfl) (by simp only [AR]<;>omega) (whole (by simp only [AR]))) rfl fun a hF=>st hF (DF B8 hF rfl rfl (B0 B9 CH Al)) rfl fun a hF=>nt<|Ad hF rfl (fun h7=>?_) (fun h7=>?_)
        · refine wp_exit ?_
          refine Ek rfl<|tX<|tX<|Ek rfl<|Ek rfl<|tX<|tX<|Ek rfl<|tX<|Aq<|tN<|wp_region_lit<|st hF (Ar hF rfl rfl (Aj (gj) (1) (by omega))) rfl fun a hF=>mv hF rfl rfl fun a hF=>wpList_nil<|tN ?_;have hM:=hM.drop 1;have hM:=hM.drop 2;have ea:=MQ (p:=p) (n:=n) (g:=gj) (T:=T) gi gk (by omega) (by omega) (by assumption);rw [ea] at hF;refine ⟨gj+1,⟨by omega,trivial,hF.sub _ (by repeat' constructor),?_⟩,by omega⟩;exact hM
        refine wp_skip<|iN<|tN<|wp_region_lit<|st hF (Ar hF rfl rfl (Aj (gk) (1) (by omega))) rfl fun a hF=>mv hF rfl rfl fun a hF=>wpList_nil<|tN ?_;have hM:=hM.drop 1;have hM:=hM.drop 2;refine ⟨gk+1,⟨by omega,D6 hinv3 (Decidable.not_not.1 (by assumption)),hF.sub _ (by repeat' constructor),?_⟩,by omega⟩;exact hM
      obtain rfl:n=gk:=by omega
      refine wp_exit<|tX<|tX<|Aq<|iN<|tN<|wp_region_lit<|st hF (Ar hF rfl rfl (Aj (gi) (1) (by omega))) rfl fun a hF=>mv hF rfl rfl fun a hF=>nt<|⟨gi+1,⟨by omega,D6 hinv2 hinv3,hF.sub _ (by repeat' constructor),?_⟩,by omega⟩;exact hM
    obtain rfl:n=gi:=by omega
    refine wp_exit<|tX<|tX<|Aq<|tN<|wp_region_lit<|mv hF rfl rfl fun a hF=>st hF (Ar hF rfl rfl (show _=(cntA p n T (gj+1):Int) from (Fo (x:=cntA p n T gj) (y:=1) (by omega) (LZ hinv2)))) rfl fun a hF=>ag hF rfl rfl fun a hF=>wpList_nil<|iN<|tN<|wp_region_lit<|st hF (Ar hF rfl rfl (Aj (gj) (1) (by omega))) rfl fun a hF=>mv hF rfl rfl fun a hF=>nt<|⟨gj+1,⟨by omega,trivial,hF.sub _ (by repeat' constructor),?_⟩,by omega⟩;exact hM
  obtain rfl:n=gj:=by omega
  refine wp_exit<|tX<|tX<|Aq<|tN<|sr<|mv hF rfl rfl fun a hF=>st hF (AN Ai hF rfl) rfl fun a hF=>st hF (AZ Ae hF rfl (hM.row 0 rfl) (A5 (by omega))) rfl fun a hF=>st hF (Bd hF rfl rfl) rfl fun a hF=>ag hF rfl rfl fun a hF=>nt<|wp_ret<|sR<|BC rfl hF.defers (Ab hF rfl) ⟨_,rfl,hM.below,?_⟩
  show _=_
  exact congrArg Value.bool (decide_eq_decide.2 La)
theorem HB (b o c m:Nat)(cs:Array Value)(f:Nat→Int)(w:World)(hb:Blk w b cs)(hg:∀ i,i<m→cs[o+i*1]? = some (.int .i64 (f i)))(hm:m<1000) :
    CallsR Try.prog 161 #[.slice (some ⟨b,o,none⟩) m c] w (fun res _=>res = .int .i64 (if leadN f m<m then (leadN f m:Int) else -1)):=by
  refine Ak [.slice (some ⟨b,o,none⟩) m c] Try.func161 rfl Try.ntmps161 rfl fun a hF=>?_;have hM:Af w w [] [(b,cs)]:=MemX.startD w 0 _ (FT hb);change Fr 16 a [(0,.slice (some ⟨b,o,none⟩) m c)] at hF;refine sr<|ag hF rfl rfl fun a hF=>nt<|sq<|sr<|ag hF rfl rfl fun a hF=>nt<|wp_block ?_;change Af w _ [] [(b,cs)] at hM;refine Az (fun (kk:Nat) a w'=>kk≤m∧(∀ i,i<kk→f i=0)∧Fr 16 a [(0,.slice (some ⟨b,o,none⟩) m c),(3,.int .i64 (kk:Int))]∧Af w w' [] [(b,cs)]) (fun kk=>m - kk) 0 ?_ ?_
  · refine ⟨by omega,fun i hi=>absurd hi (by omega),hF.sub _ (by repeat' constructor),?_⟩
    exact hM
  clear hF hM;rintro gk a w' ⟨hgk,hinv1,hF,hM⟩;refine sq<|sr<|mv hF rfl rfl fun a hF=>mv hF rfl rfl fun a hF=>st hF (CL DN hF rfl) rfl fun a hF=>st hF (A4 hF rfl rfl) rfl fun a hF=>nt<|Ad hF rfl (fun h1=>?_) (fun h1=>?_)
  · refine wp_skip ?_
    refine tN<|sq<|wp_block<|sr<|mv hF rfl rfl fun a hF=>mv hF rfl rfl fun a hF=>st hF (Ap (i:=gk) CE hF rfl rfl rfl (by omega)) rfl fun a hF=>st hF (AZ Ae hF rfl (hM.fz 0 rfl) (hg (gk) (by omega))) rfl fun a hF=>st hF (Bz hF rfl rfl) rfl fun a hF=>nt<|Ad hF rfl (fun h2=>?_) (fun h2=>?_)
    · refine sq ?_
      refine wp_region_lit<|mv hF rfl rfl fun a hF=>ag hF rfl rfl fun a hF=>nt<|wp_ret<|iR<|tR<|tR<|iR<|tR<|BC rfl hF.defers (Ab hF rfl) ⟨_,rfl,hM.below,?_⟩
      show _=_
      rw [EH (by omega) hinv1 (by omega),if_pos (by omega)]
    refine wp_skip<|iN<|tN<|wp_region_lit<|mv hF rfl rfl fun a hF=>st hF (Ar hF rfl rfl (Aj (gk) (1) (by omega))) rfl fun a hF=>ag hF rfl rfl fun a hF=>nt<|⟨gk+1,⟨by omega,D6 hinv1 (by omega),hF.sub _ (by repeat' constructor),?_⟩,by omega⟩;exact hM
  obtain rfl:m=gk:=by omega
  refine wp_exit<|tX<|tX<|Aq<|tN<|sr<|ag hF rfl rfl fun a hF=>nt<|wp_ret<|BC rfl hF.defers (Ab hF rfl) ⟨_,rfl,hM.below,?_⟩
  show _=_
  rw [FH hinv1,if_neg (by omega)]
theorem Cq (b o c m:Nat)(cs:Array Value)(f:Nat→Nat)(w:World)(hb:Blk w b cs)(hg:∀ i,i<m→cs[o+i*1]? = some (.int .u8 ((f i:Int))))(hm:m<1000) :
    CallsR Try.prog 157 #[.slice (some ⟨b,o,none⟩) m c] w (fun res _=>res = .int .i64 (leadN (fun i=>(f i:Int)) m:Int)):=by
  refine Ak [.slice (some ⟨b,o,none⟩) m c] Try.func157 rfl Try.ntmps157 rfl fun a hF=>?_;have hM:Af w w [] [(b,cs)]:=MemX.startD w 0 _ (FT hb);change Fr 18 a [(0,.slice (some ⟨b,o,none⟩) m c)] at hF;refine sr<|ag hF rfl rfl fun a hF=>nt<|sq<|sr<|mv hF rfl rfl fun a hF=>st hF (CL CJ hF rfl) rfl fun a hF=>mv hF rfl rfl fun a hF=>nt<|wp_block ?_;change Af w _ [] [(b,cs)] at hM;refine Az (fun (kk:Nat) a w'=>kk≤m∧(∀ i,i<kk→f i=0)∧Fr 18 a [(0,.slice (some ⟨b,o,none⟩) m c),(5,.slice (some ⟨b,o,none⟩) m c),(6,.int .i64 (m:Int)),(7,.int .i64 (kk:Int))]∧Af w w' [] [(b,cs)]) (fun kk=>m - kk) 0 ?_ ?_
  · refine ⟨by omega,fun i hi=>absurd hi (by omega),hF.sub _ (by repeat' constructor),?_⟩
    exact hM
  clear hF hM;rintro gk a w' ⟨hgk,hinv1,hF,hM⟩;refine sr<|st hF (A4 hF rfl rfl) rfl fun a hF=>nt<|sq<|Ad hF rfl (fun h1=>?_) (fun h1=>?_)
  · refine wp_skip ?_
    refine tN<|sq<|wp_block<|sr<|mv hF rfl rfl fun a hF=>st hF (Ap (i:=gk) B5 hF rfl rfl rfl (by omega)) rfl fun a hF=>st hF (AZ Al hF rfl (hM.fz 0 rfl) (hg (gk) (by omega))) rfl fun a hF=>ag hF rfl rfl fun a hF=>ag hF rfl rfl fun a hF=>ns<|mv hF rfl rfl fun a hF=>st hF (Bz hF rfl rfl) rfl fun a hF=>nt<|Ad hF rfl (fun h2=>?_) (fun h2=>?_)
    · refine sq ?_
      refine wp_region_lit<|mv hF rfl rfl fun a hF=>ag hF rfl rfl fun a hF=>nt<|wp_ret<|iR<|tR<|tR<|iR<|tR<|BC rfl hF.defers (Ab hF rfl) ⟨_,rfl,hM.below,?_⟩
      show _=_
      rw [EH (k:=gk) (by omega) (fun i hi=>by have:=hinv1 i hi;omega) (by omega)]
    refine wp_skip<|iN<|tN<|wp_region_lit<|st hF (Ar hF rfl rfl (Aj (gk) (1) (by omega))) rfl fun a hF=>mv hF rfl rfl fun a hF=>nt<|⟨gk+1,⟨by omega,D6 hinv1 (by omega),hF.sub _ (by repeat' constructor),?_⟩,by omega⟩;exact hM
  obtain rfl:m=gk:=by omega
  refine wp_exit<|tX<|tX<|Aq<|tN<|sr<|mv hF rfl rfl fun a hF=>st hF (CL CJ hF rfl) rfl fun a hF=>ag hF rfl rfl fun a hF=>nt<|wp_ret<|BC rfl hF.defers (Ab hF rfl) ⟨_,rfl,hM.below,?_⟩
  show _=_
  rw [FH (fun i hi=>by have:=hinv1 i hi;omega)]
def MX (p:Nat) (f h:Nat→Nat) (x i:Nat):Int:=((f i:Int) - (x:Int)*(h i:Int))%(p:Int)
theorem EL (p b o c b2 o2 c2 m x:Nat)(cs cs2:Array Value)(f h:Nat→Nat)(w:World)(hp:0<p)(hp2:p<100)(hb:Blk w b cs)(hb2:Blk w b2 cs2)(hg:∀ i,i<m→cs[o+i*1]? = some (.int .i64 (f i:Int)))(hg2:∀ i,i<m→cs2[o2+i*1]? = some (.int .i64 (h i:Int)))(hm:0<m)(hm2:m<1000)(hf:∀ i,f i<p)(hh:∀ i,h i<p)(hx:x<p) :
    CallsR Try.prog 172 #[.int .i64 (p:Int),.slice (some ⟨b,o,none⟩) m c,.slice (some ⟨b2,o2,none⟩) m c2,.int .i64 (x:Int)] w (OwnSl 1 w m (fun i=>.int .i64 (MX p f h x i))):=by
  refine Ak [.int .i64 (p:Int),.slice (some ⟨b,o,none⟩) m c,.slice (some ⟨b2,o2,none⟩) m c2,.int .i64 (x:Int)] Try.func172 rfl Try.ntmps172 rfl fun a hF=>?_;have hM:Af w w [none,none] [(b,cs),(b2,cs2)]:=MemX.startD w 2 _ (Lw hb hb2);change Fr 35 a [(0,.int .i64 (p:Int)),(1,.slice (some ⟨b,o,none⟩) m c),(2,.slice (some ⟨b2,o2,none⟩) m c2),(3,.int .i64 (x:Int))] at hF;refine sr<|ag hF rfl rfl fun a hF=>ns<|Am hF (As 0 hM hF rfl Db) rfl ?_;rintro _ w' a ⟨b1,rfl,hM,-⟩ hF;refine ag hF rfl rfl fun a hF=>nt<|sq<|sr<|ag hF rfl rfl fun a hF=>nt<|wp_block ?_;change Af w _ [some (b1,#[]),none] [(b,cs),(b2,cs2)] at hM;refine Az (fun (kk:Nat) a w'=>kk≤m∧(True)∧∃ (u9_1:Value) (e9_1:Option (Nat×Array Value)),Sl 1 u9_1 e9_1 (kk) (fun i=>.int .i64 (MX p f h x i))∧Fr 35 a [(0,.int .i64 (p:Int)),(1,.slice (some ⟨b,o,none⟩) m c),(2,.slice (some ⟨b2,o2,none⟩) m c2),(3,.int .i64 (x:Int)),(8,.slice none 0 0),(10,.int .i64 (kk:Int)),(9,u9_1)]∧Af w w' [e9_1,none] [(b,cs),(b2,cs2)]) (fun kk=>m - kk) 0 ?_ ?_
  · refine ⟨by omega,trivial,(.slice (some ⟨b1,0,none⟩) 0 0),(some (b1,#[])),Sl.empty _ _ _,hF.sub _ (by repeat' constructor),?_⟩
    exact hM
  clear hF hM;rintro gk a w' ⟨hgk,hinv1,u9_1,e9_1,hsl,hF,hM⟩;have hfk:=hf gk;have hhk:=hh gk;have hxh:x*h gk≤100*100:=Nat.mul_le_mul (by omega) (by omega);refine sq<|sr<|mv hF rfl rfl fun a hF=>mv hF rfl rfl fun a hF=>st hF (CL DN hF rfl) rfl fun a hF=>st hF (A4 hF rfl rfl) rfl fun a hF=>nt<|Ad hF rfl (fun h2=>?_) (fun h2=>?_)
  · refine wp_skip ?_
    refine tN<|sq<|wp_block<|BY 15 [1] [.val (u9_1),.val (.int .i64 (p:Int)),.val (.slice (some ⟨b,o,none⟩) m c),.val (.int .i64 (gk:Int)),.val (ptr b (o+(gk)*1)),.val (.int .i64 ((f (gk):Int))),.val (.int .i64 (x:Int)),.val (.slice (some ⟨b2,o2,none⟩) m c2),.val (.int .i64 (gk:Int)),.val (ptr b2 (o2+(gk)*1)),.val (.int .i64 ((h (gk):Int))),.val (.int .i64 ((((x)*(h (gk)):Nat):Int))),.val (.int .i64 ((f (gk):Int) - (((x)*(h (gk)):Nat):Int))),.val (.int .i64 (((f (gk):Int) - (((x)*(h (gk)):Nat):Int))%(p:Int))),.own 1 (#[.int .i64 (((f (gk):Int) - (((x)*(h (gk)):Nat):Int))%(p:Int))]) (fun b=>.slice (some ⟨b,0,none⟩) 1 1)] Bc rfl hF rfl hM ⟨fun a w gG hF hS hd=>by exact BP hS rfl hF rfl,fun a w gG hF hS hd=>by exact BP hS rfl hF rfl,fun a w gG hF hS hd=>by exact BP hS rfl hF rfl,fun a w gG hF hS hd=>by exact BP hS rfl hF rfl,fun a w gG hF hS hd=>by have hF:=hF.ext1 20 (hd 2 rfl rfl);have hF:=hF.ext1 21 (hd 3 rfl rfl);exact AM hS rfl (Ap (i:=gk) CE hF rfl rfl rfl (by omega)),fun a w gG hF hS hd=>by have hF:=hF.ext1 22 (hd 4 rfl rfl);have hM:=hS.mem rfl;exact AM hS rfl (AZ Ae hF rfl (hM.fz 0 rfl) (hg (gk) (by omega))),fun a w gG hF hS hd=>by exact BP hS rfl hF rfl,fun a w gG hF hS hd=>by exact BP hS rfl hF rfl,fun a w gG hF hS hd=>by exact BP hS rfl hF rfl,fun a w gG hF hS hd=>by have hF:=hF.ext1 25 (hd 7 rfl rfl);have hF:=hF.ext1 26 (hd 8 rfl rfl);exact AM hS rfl (Ap (i:=gk) CE hF rfl rfl rfl (by omega)),fun a w gG hF hS hd=>by have hF:=hF.ext1 27 (hd 9 rfl rfl);have hM:=hS.mem rfl;exact AM hS rfl (AZ Ae hF rfl (hM.fz 1 rfl) (hg2 (gk) (by omega))),fun a w gG hF hS hd=>by have hF:=hF.ext1 24 (hd 6 rfl rfl);have hF:=hF.ext1 28 (hd 10 rfl rfl);exact AM hS rfl (CA hF rfl rfl (Bj x (h gk) (by omega))),fun a w gG hF hS hd=>by have hF:=hF.ext1 23 (hd 5 rfl rfl);have hF:=hF.ext1 29 (hd 11 rfl rfl);exact AM hS rfl (Dn hF rfl rfl (wrap_i64 (by omega) (by omega))),fun a w gG hF hS hd=>by have hF:=hF.ext1 19 (hd 1 rfl rfl);have hF:=hF.ext1 30 (hd 12 rfl rfl);exact BJ (by repeat constructor) hS rfl (Aa Try.call153 hF (.cons rfl (.cons rfl .nil)) (De ((f (gk):Int) - (((x)*(h (gk)):Nat):Int)) (p) _ (by omega) (by omega) (by omega) (by omega))),fun a w gG hF hS hd=>by have hF:=hF.ext1 31 (hd 13 rfl rfl);exact Ds (by repeat constructor) hS rfl rfl rfl rfl (As 1 hS.1 hF (Bb hF rfl) (Cj _)),trivial⟩ ?_;intro a w' L hF hS hq;have hF:=hF.ext1 18 (hq 0 rfl rfl);have hF:=hF.ext1 19 (hq 1 rfl rfl);have hF:=hF.ext1 20 (hq 2 rfl rfl);have hF:=hF.ext1 21 (hq 3 rfl rfl);have hF:=hF.ext1 22 (hq 4 rfl rfl);have hF:=hF.ext1 23 (hq 5 rfl rfl);have hF:=hF.ext1 24 (hq 6 rfl rfl);have hF:=hF.ext1 25 (hq 7 rfl rfl);have hF:=hF.ext1 26 (hq 8 rfl rfl);have hF:=hF.ext1 27 (hq 9 rfl rfl);have hF:=hF.ext1 28 (hq 10 rfl rfl);have hF:=hF.ext1 29 (hq 11 rfl rfl);have hF:=hF.ext1 30 (hq 12 rfl rfl);have hF:=hF.ext1 31 (hq 13 rfl rfl);obtain ⟨hM,hL⟩:=hS;obtain ⟨b3,hptr,hkk⟩:=hq 14 rfl rfl;have hF:=hF.ext1 32 hptr;have hL:=hL.take hkk;obtain rfl:=hL.eq;change Af w w' [e9_1,some (b3,#[.int .i64 (((f (gk):Int) - (((x)*(h (gk)):Nat):Int))%(p:Int))])] [(b,cs),(b2,cs2)] at hM;change wpList Try.prog _ _ [_,_] _ _;refine Am hF (Br (k:=0) (m:=1) (g:=fun _=>.int .i64 (((f (gk):Int) - (((x)*(h (gk)):Nat):Int))%(p:Int))) Cm rfl (by decide) hM rfl hF rfl rfl hsl (fun i hi=>by rw [show i=0 by omega];exact (hM.row 1 rfl).cell 0) (fun _ _=>rfl) (by decide) (by unfold maxLen;omega) (by omega)) rfl ?_;rintro u4 w' a ⟨e5,hM,hs6⟩ hF;change Af w w' [e5,some (b3,#[.int .i64 (((f (gk):Int) - (((x)*(h (gk)):Nat):Int))%(p:Int))])] [(b,cs),(b2,cs2)] at hM
    refine ag hF rfl rfl fun a hF=>wpList_nil<|iN<|tN<|wp_region_lit<|mv hF rfl rfl fun a hF=>st hF (Ar hF rfl rfl (Aj (gk) (1) (by omega))) rfl fun a hF=>ag hF rfl rfl fun a hF=>wpList_nil<|tN ?_;have hM:=hM.drop 1;refine ⟨gk+1,⟨by omega,trivial,(u4),(e5),hs6.snoc rfl,hF.sub _ (by repeat' constructor),?_⟩,by omega⟩;exact hM
  obtain rfl:m=gk:=by omega
  refine wp_exit<|tX<|tX<|Aq<|tN<|sr<|mv hF rfl rfl fun a hF=>ag hF rfl rfl fun a hF=>nt<|wp_ret<|BC rfl hF.defers (Ab hF rfl) ⟨_,rfl,hM.below,?_⟩;exact OwnSl.pos hM (k:=0) rfl hsl hm
def addN (p:Nat) (f h:Nat→Nat) (x:Int) (i:Nat):Nat:=(((f i:Int)+x*(h i:Int))%(p:Int)).toNat
theorem JN {p:Nat}{f h:Nat→Nat}{x:Int}{i:Nat}(hp:0<p):(addN p f h x i:Int)=((f i:Int)+x*(h i:Int))%(p:Int):=
  Int.toNat_of_nonneg (Int.emod_nonneg _ (by omega))
theorem NM {x:Int}{y:Nat}(h1:-100<x)(h2:x<100)(hy:y≤255):-25500≤x*(y:Int)∧x*(y:Int)≤25500:=by
  have a1:=Int.mul_le_mul_of_nonneg_right (show x≤99 by omega) (Int.natCast_nonneg y);have a2:=Int.mul_le_mul_of_nonneg_right (show -99≤x by omega) (Int.natCast_nonneg y)
  omega
theorem getRow {m gk:Nat}{F G:Nat→Nat}(i:Nat)(hi:gk≤i∧i<m):(Ag m (fun c=>.int .u8 ((if c<gk then G c else F c:Nat):Int)))[0+i*1]? = some (.int .u8 (F i:Int)):=
  CZ i (by omega) hi.2 (by rw [if_neg (by omega)])
theorem Ha (p b c m:Nat)(f:Nat→Nat)(x:Int)(w:World)(hp:0<p)(hp2:p<100)(hx:-100<x)(hx2:x<100)(hm:m<1000)(hf:∀ i,f i≤255)(hb:Blk w b (Ag m (fun c=>.int .u8 (f c:Int)))) :
    CallsX Try.prog [b] 103 #[.slice (some ⟨b,0,none⟩) m c,.slice (some ⟨b,0,none⟩) m c,.int .i64 (x),.int .i64 (p:Int)] w (fun v w'=>v = .tuple #[]∧Blk w' b (Ag m (fun c=>.int .u8 (addN p f f x c:Int)))):=by
  refine Bs [.slice (some ⟨b,0,none⟩) m c,.slice (some ⟨b,0,none⟩) m c,.int .i64 (x),.int .i64 (p:Int)] Try.func103 rfl Try.ntmps103 rfl fun a hF=>?_;have hM:MemX [b] w w [some (b,Ag m (fun c=>.int .u8 (f c:Int)))] []:=MemX.startX1 0 hb;change Fr 33 a [(0,.slice (some ⟨b,0,none⟩) m c),(1,.slice (some ⟨b,0,none⟩) m c),(2,.int .i64 (x)),(3,.int .i64 (p:Int))] at hF;refine sr<|mv hF rfl rfl fun a hF=>st hF (CL CJ hF rfl) rfl fun a hF=>mv hF rfl rfl fun a hF=>nt<|wp_block ?_;change MemX [b] w _ [some (b,Ag m (fun c=>.int .u8 (f c:Int)))] [] at hM;refine Az (fun (kk:Nat) a w'=>kk≤m∧(True)∧Fr 33 a [(0,.slice (some ⟨b,0,none⟩) m c),(2,.int .i64 (x)),(3,.int .i64 (p:Int)),(10,.slice (some ⟨b,0,none⟩) m c),(11,.int .i64 (m:Int)),(12,.int .i64 (kk:Int))]∧MemX [b] w w' [some (b,Ag m (fun c=>.int .u8 ((if c<kk then addN p f f x c else f c:Nat):Int)))] []) (fun kk=>m - kk) 0 ?_ ?_
  · refine ⟨by omega,trivial,hF.sub _ (by repeat' constructor),?_⟩
    exact hM.cast (by simp)
  clear hF hM;rintro gk a w' ⟨hgk,hinv1,hF,hM⟩;have hfk:=hf gk;have hhk:=hf gk;have hxh:=NM hx hx2 (hf gk);refine sr<|st hF (A4 hF rfl rfl) rfl fun a hF=>nt<|sq<|Ad hF rfl (fun h1=>?_) (fun h1=>?_)
  · refine wp_skip ?_
    refine tN<|sq<|wp_block<|sr<|mv hF rfl rfl fun a hF=>st hF (Ap (i:=gk) B5 hF rfl rfl rfl (by omega)) rfl fun a hF=>st hF (AZ Al hF rfl (hM.row 0 rfl) (getRow (gk) (by omega))) rfl fun a hF=>ag hF rfl rfl fun a hF=>ag hF rfl rfl fun a hF=>nt<|wp_region_lit<|mv hF rfl rfl fun a hF=>mv hF rfl rfl fun a hF=>mv hF rfl rfl fun a hF=>mv hF rfl rfl fun a hF=>st hF (Ap (i:=gk) B5 hF rfl rfl rfl (by omega)) rfl fun a hF=>st hF (AZ Al hF rfl (hM.row 0 rfl) (getRow (gk) (by omega))) rfl fun a hF=>st hF (A6 BH BK hF rfl (wrap_i64 (by omega) (by omega))) rfl fun a hF=>mv hF rfl rfl fun a hF=>mv hF rfl rfl fun a hF=>st hF (A6 BH BK hF rfl (wrap_i64 (by omega) (by omega))) rfl fun a hF=>st hF (CA hF rfl rfl (wrap_i64 (by omega) (by omega))) rfl fun a hF=>st hF (Ar hF rfl rfl (wrap_i64 (by omega) (by omega))) rfl fun a hF=>mv hF rfl rfl fun a hF=>Am hF (Aa Try.call115 hF (.cons rfl (.cons rfl .nil)) (FG ((f (gk):Int)+(x)*((f (gk):Int))) (p) _ (by omega) (by omega) (by omega) (by omega))) rfl ?_;rintro _ w' a ⟨hx,rfl⟩ hF;have hM:=hM.ext hx;refine st hF (Ap (i:=gk) B5 hF rfl rfl rfl (by omega)) rfl fun a hF=>A8 hF (A0 0 hM rfl Al hF rfl rfl rfl (by first | omega | (simp only [AR]<;>omega) | (simp only [Array.size_setIfInBounds];omega) | simp)) ?_;intro _ w' a hM hF;rw [show (Ag m (fun c=>.int .u8 ((if c<gk then addN p f f x c else f c:Nat):Int))).setIfInBounds (0+(gk)*1) (.int .u8 (((f (gk):Int)+(x)*((f (gk):Int)))%(p:Int)))=Ag m (fun c=>if c=gk then .int .u8 (((f (gk):Int)+(x)*((f (gk):Int)))%(p:Int)) else .int .u8 ((if c<gk then addN p f f x c else f c:Nat):Int)) from By (fun c _=>by rw [show 0+(gk)*1=gk by omega])] at hM;change MemX [b] w w' [some (b,Ag m (fun c=>if c=gk then .int .u8 (((f (gk):Int)+(x)*((f (gk):Int)))%(p:Int)) else .int .u8 ((if c<gk then addN p f f x c else f c:Nat):Int)))] [] at hM;refine wpList_nil<|iN<|tN<|wp_region_lit<|st hF (Ar hF rfl rfl (Aj (gk) (1) (by omega))) rfl fun a hF=>mv hF rfl rfl fun a hF=>nt<|⟨gk+1,⟨by omega,trivial,hF.sub _ (by repeat' constructor),?_⟩,by omega⟩;refine hM.rowc 0 rfl (BV fun c hc=>?_)
    by_cases e1:c=gk
    · subst e1;rw [if_pos rfl,if_pos (by omega)];exact congrArg (Value.int .u8) (JN hp).symm
    · have e0:(c<gk+1)=(c<gk):=by apply propext;omega
      simp [e0,e1]
  obtain rfl:m=gk:=by omega
  refine wp_exit<|tX<|tX<|Aq<|Mc rfl hF.defers ⟨_,rfl,hM.bel,?_⟩;exact ⟨rfl,(hM.rowc (cs':=Ag m (fun c=>.int .u8 (addN p f f x c:Int))) 0 rfl (BV fun c hc=>by simp [hc])).row 0 rfl⟩
theorem IC (p b c b2 o2 c2 m:Nat)(cs2:Array Value)(f h:Nat→Nat)(x:Int)(w:World)(hp:0<p)(hp2:p<100)(hx:-100<x)(hx2:x<100)(hm:m<1000)(hf:∀ i,f i≤255)(hb:Blk w b (Ag m (fun c=>.int .u8 (f c:Int))))(hh:∀ i,h i≤255)(hne:b2≠b)(hb2:Blk w b2 cs2)(hg2:∀ i,i<m→cs2[o2+i*1]? = some (.int .u8 (h i:Int))) :
    CallsX Try.prog [b] 103 #[.slice (some ⟨b,0,none⟩) m c,.slice (some ⟨b2,o2,none⟩) m c2,.int .i64 (x),.int .i64 (p:Int)] w (fun v w'=>v = .tuple #[]∧Blk w' b (Ag m (fun c=>.int .u8 (addN p f h x c:Int)))):=by
  refine Bs [.slice (some ⟨b,0,none⟩) m c,.slice (some ⟨b2,o2,none⟩) m c2,.int .i64 (x),.int .i64 (p:Int)] Try.func103 rfl Try.ntmps103 rfl fun a hF=>?_;have hM:MemX [b] w w [some (b,Ag m (fun c=>.int .u8 (f c:Int)))] [(b2,cs2)]:=MemX.startX1D 0 hb (K9 hb2 hne);change Fr 33 a [(0,.slice (some ⟨b,0,none⟩) m c),(1,.slice (some ⟨b2,o2,none⟩) m c2),(2,.int .i64 (x)),(3,.int .i64 (p:Int))] at hF;refine sr<|mv hF rfl rfl fun a hF=>st hF (CL CJ hF rfl) rfl fun a hF=>mv hF rfl rfl fun a hF=>nt<|wp_block ?_;change MemX [b] w _ [some (b,Ag m (fun c=>.int .u8 (f c:Int)))] [(b2,cs2)] at hM;refine Az (fun (kk:Nat) a w'=>kk≤m∧(True)∧Fr 33 a [(0,.slice (some ⟨b,0,none⟩) m c),(2,.int .i64 (x)),(3,.int .i64 (p:Int)),(10,.slice (some ⟨b2,o2,none⟩) m c2),(11,.int .i64 (m:Int)),(12,.int .i64 (kk:Int))]∧MemX [b] w w' [some (b,Ag m (fun c=>.int .u8 ((if c<kk then addN p f h x c else f c:Nat):Int)))] [(b2,cs2)]) (fun kk=>m - kk) 0 ?_ ?_
  · refine ⟨by omega,trivial,hF.sub _ (by repeat' constructor),?_⟩
    exact hM.cast (by simp)
  clear hF hM;rintro gk a w' ⟨hgk,hinv1,hF,hM⟩;have hfk:=hf gk;have hhk:=hh gk;have hxh:=NM hx hx2 (hh gk);refine sr<|st hF (A4 hF rfl rfl) rfl fun a hF=>nt<|sq<|Ad hF rfl (fun h1=>?_) (fun h1=>?_)
  · refine wp_skip ?_
    refine tN<|sq<|wp_block<|sr<|mv hF rfl rfl fun a hF=>st hF (Ap (i:=gk) B5 hF rfl rfl rfl (by omega)) rfl fun a hF=>st hF (AZ Al hF rfl (hM.fz 0 rfl) (hg2 (gk) (by omega))) rfl fun a hF=>ag hF rfl rfl fun a hF=>ag hF rfl rfl fun a hF=>nt<|wp_region_lit<|mv hF rfl rfl fun a hF=>mv hF rfl rfl fun a hF=>mv hF rfl rfl fun a hF=>mv hF rfl rfl fun a hF=>st hF (Ap (i:=gk) B5 hF rfl rfl rfl (by omega)) rfl fun a hF=>st hF (AZ Al hF rfl (hM.row 0 rfl) (getRow (gk) (by omega))) rfl fun a hF=>st hF (A6 BH BK hF rfl (wrap_i64 (by omega) (by omega))) rfl fun a hF=>mv hF rfl rfl fun a hF=>mv hF rfl rfl fun a hF=>st hF (A6 BH BK hF rfl (wrap_i64 (by omega) (by omega))) rfl fun a hF=>st hF (CA hF rfl rfl (wrap_i64 (by omega) (by omega))) rfl fun a hF=>st hF (Ar hF rfl rfl (wrap_i64 (by omega) (by omega))) rfl fun a hF=>mv hF rfl rfl fun a hF=>Am hF (Aa Try.call115 hF (.cons rfl (.cons rfl .nil)) (FG ((f (gk):Int)+(x)*((h (gk):Int))) (p) _ (by omega) (by omega) (by omega) (by omega))) rfl ?_;rintro _ w' a ⟨hx,rfl⟩ hF;have hM:=hM.ext hx;refine st hF (Ap (i:=gk) B5 hF rfl rfl rfl (by omega)) rfl fun a hF=>A8 hF (A0 0 hM rfl Al hF rfl rfl rfl (by first | omega | (simp only [AR]<;>omega) | (simp only [Array.size_setIfInBounds];omega) | simp)) ?_;intro _ w' a hM hF;rw [show (Ag m (fun c=>.int .u8 ((if c<gk then addN p f h x c else f c:Nat):Int))).setIfInBounds (0+(gk)*1) (.int .u8 (((f (gk):Int)+(x)*((h (gk):Int)))%(p:Int)))=Ag m (fun c=>if c=gk then .int .u8 (((f (gk):Int)+(x)*((h (gk):Int)))%(p:Int)) else .int .u8 ((if c<gk then addN p f h x c else f c:Nat):Int)) from By (fun c _=>by rw [show 0+(gk)*1=gk by omega])] at hM;change MemX [b] w w' [some (b,Ag m (fun c=>if c=gk then .int .u8 (((f (gk):Int)+(x)*((h (gk):Int)))%(p:Int)) else .int .u8 ((if c<gk then addN p f h x c else f c:Nat):Int)))] [(b2,cs2)] at hM;refine wpList_nil<|iN<|tN<|wp_region_lit<|st hF (Ar hF rfl rfl (Aj (gk) (1) (by omega))) rfl fun a hF=>mv hF rfl rfl fun a hF=>nt<|⟨gk+1,⟨by omega,trivial,hF.sub _ (by repeat' constructor),?_⟩,by omega⟩;refine hM.rowc 0 rfl (BV fun c hc=>?_)
    by_cases e1:c=gk
    · subst e1;rw [if_pos rfl,if_pos (by omega)];exact congrArg (Value.int .u8) (JN hp).symm
    · have e0:(c<gk+1)=(c<gk):=by apply propext;omega
      simp [e0,e1]
  obtain rfl:m=gk:=by omega
  refine wp_exit<|tX<|tX<|Aq<|Mc rfl hF.defers ⟨_,rfl,hM.bel,?_⟩;exact ⟨rfl,(hM.rowc (cs':=Ag m (fun c=>.int .u8 (addN p f h x c:Int))) 0 rfl (BV fun c hc=>by simp [hc])).row 0 rfl⟩
theorem Ki (b o c m:Nat)(cs:Array Value)(f:Nat→Int)(w:World)(hb:Blk w b cs)(hg:∀ i,i<m→cs[o+i*1]? = some (.int .i64 (f i)))(hm0:0<m)(hm:m<1000) :
    CallsR Try.prog 171 #[.slice (some ⟨b,o,none⟩) m c] w (OwnSl 1 w m (fun i=>.int .i64 (f i))):=by
  refine Ak [.slice (some ⟨b,o,none⟩) m c] Try.func171 rfl Try.ntmps171 rfl fun a hF=>?_;have hM:Af w w [none] [(b,cs)]:=MemX.startD w 1 _ (FT hb);change Fr 6 a [(0,.slice (some ⟨b,o,none⟩) m c)] at hF;refine sr<|ag hF rfl rfl fun a hF=>ns<|Am hF (As 0 hM hF rfl Db) rfl ?_;rintro _ w' a ⟨b1,rfl,hM,-⟩ hF;change Af w w' [some (b1,#[])] [(b,cs)] at hM;refine mv hF rfl rfl fun a hF=>Am hF (Br (k:=0) (N:=0) (m:=m) (f:=fun i=>.int .i64 (f (i))) (g:=fun i=>.int .i64 (f (i))) Cm rfl (by decide) hM rfl hF rfl rfl (Sl.empty 1 _ _) (fun i hi=>((hM.fz 0 rfl).cell _).trans (by have:=hg i (by omega);rwa [show o+i*1=o+i by omega] at this)) (fun _ _=>rfl) (by omega) (by unfold maxLen;omega) (by omega)) rfl ?_;rintro u2 w' a ⟨e3,hM,hs4⟩ hF;change Af w w' [e3] [(b,cs)] at hM;refine ag hF rfl rfl fun a hF=>nt<|wp_ret<|BC rfl hF.defers (Ab hF rfl) ⟨_,rfl,hM.below,?_⟩;exact OwnSl.pos hM (k:=0) rfl (by have:=hs4.congr (g:=fun i=>.int .i64 (f i)) (fun i hi=>by simp);simpa using this) hm0
def OE (M N:Nat→Nat→Nat):Prop:=∀ j,j<6→FR 6 (M j) (N j)
instance (M N:Nat→Nat→Nat):Decidable (OE M N):=Nat.decidableBallLT 6 _
def Ok (T U:Nat→Nat→Nat→Nat):Prop:=∀ i,i<6→OE (T i) (U i)
instance (T U:Nat→Nat→Nat→Nat):Decidable (Ok T U):=Nat.decidableBallLT 6 _
def CX (p:Nat) (v u:Nat→Nat) (x i:Nat):Nat:=(v i+x*u i)%p
theorem E1 (p:Nat)(v u:Nat→Nat)(x:Nat)(w:World)(hp:0<p)(hp2:p<100)(hx:x<100)(hv:∀ i,v i≤255)(hu:∀ i,u i≤255) :
    CallsR Try.prog 104 #[.int .i64 (p:Int),.agg (AI v),.agg (AI u),.int .i64 (x:Int)] w (fun res _=>res = .agg (AI (CX p v u x))):=by
  refine Ak [.int .i64 (p:Int),.agg (AI v),.agg (AI u),.int .i64 (x:Int)] Try.func104 rfl Try.ntmps104 rfl fun a hF=>?_;have hM:Af w w [none,none,none] []:=MemX.start w 3;change Fr 31 a [(0,.int .i64 (p:Int)),(1,.agg (AI v)),(2,.agg (AI u)),(3,.int .i64 (x:Int))] at hF;refine sr<|Am hF (Au 0 hM hF rfl) rfl ?_;rintro _ w' a ⟨b1,rfl,hM,-⟩ hF;refine Am hF (Au 1 hM hF rfl) rfl ?_;rintro _ w' a ⟨b2,rfl,hM,-⟩ hF;refine Am hF (AW 2 hM Ac) rfl ?_;rintro _ w' a ⟨b3,rfl,hM,-⟩ hF;refine nt<|sq<|sr<|ag hF rfl rfl fun a hF=>nt<|wp_block ?_;change Af w _ [some (b1,AI v),some (b2,AI u),some (b3,Ag 6 (fun _=>.int .u8 (0)))] [] at hM;refine Az (fun (kk:Nat) a w'=>kk≤6∧(True)∧Fr 31 a [(0,.int .i64 (p:Int)),(3,.int .i64 (x:Int)),(5,ptr b1 (0)),(6,ptr b2 (0)),(8,ptr b3 (0)),(9,.int .i64 (kk:Int))]∧Af w w' [some (b1,Ag 6 (fun c=>.int .u8 ((if c<kk then CX p v u x c else v c:Nat):Int))),some (b2,AI u),some (b3,Ag 6 (fun _=>.int .u8 (0)))] []) (fun kk=>6 - kk) 0 ?_ ?_
  · refine ⟨by omega,trivial,hF.sub _ (by repeat' constructor),?_⟩
    refine hM.rowc 0 rfl (BV fun c hc=>by simp)
  clear hF hM;rintro gk a w' ⟨hgk,hinv1,hF,hM⟩;have hvk:=hv gk;have huk:=hu gk;have hxu:x*u gk≤100*255:=Nat.mul_le_mul (by omega) huk;refine sq<|sr<|mv hF rfl rfl fun a hF=>st hF (A4 hF rfl rfl) rfl fun a hF=>nt<|Ad hF rfl (fun h4=>?_) (fun h4=>?_)
  · refine wp_skip ?_
    refine tN<|sq<|wp_block<|BY 15 [] [.val (.int .i64 (gk:Int)),.val (.int .i64 (p:Int)),.val (.int .i64 (gk:Int)),.val (ptr b1 (0+(gk)*1)),.val (.int .u8 ((v (gk):Int))),.val (.int .i64 ((v (gk):Int))),.val (.int .i64 (x:Int)),.val (.int .i64 (gk:Int)),.val (ptr b2 (0+(gk)*1)),.val (.int .u8 ((u (gk):Int))),.val (.int .i64 ((u (gk):Int))),.val (.int .i64 ((((x)*(u (gk)):Nat):Int))),.val (.int .i64 (((v (gk)+(x)*(u (gk)):Nat):Int))),.val (.int .i64 ((((v (gk)+(x)*(u (gk)))%(p):Nat):Int))),.val (.int .u8 ((((v (gk)+(x)*(u (gk)))%(p):Nat):Int)))] Bc rfl hF rfl hM ⟨fun a w gG hF hS hd=>by exact BP hS rfl hF rfl,fun a w gG hF hS hd=>by exact BP hS rfl hF rfl,fun a w gG hF hS hd=>by exact BP hS rfl hF rfl,fun a w gG hF hS hd=>by have hF:=hF.ext1 16 (hd 2 rfl rfl);exact AM hS rfl (AS Ax hF rfl rfl rfl (by omega)),fun a w gG hF hS hd=>by have hF:=hF.ext1 17 (hd 3 rfl rfl);have hM:=hS.mem rfl;exact AM hS rfl (AZ Al hF rfl (hM.row 0 rfl) (CZ gk (by omega) (by omega) (by rw [if_neg (by omega)]))),fun a w gG hF hS hd=>by have hF:=hF.ext1 18 (hd 4 rfl rfl);exact AM hS rfl (A6 BH BK hF rfl (wrap_i64 (by omega) (by omega))),fun a w gG hF hS hd=>by exact BP hS rfl hF rfl,fun a w gG hF hS hd=>by exact BP hS rfl hF rfl,fun a w gG hF hS hd=>by have hF:=hF.ext1 21 (hd 7 rfl rfl);exact AM hS rfl (AS Ax hF rfl rfl rfl (by omega)),fun a w gG hF hS hd=>by have hF:=hF.ext1 22 (hd 8 rfl rfl);have hM:=hS.mem rfl;exact AM hS rfl (AZ Al hF rfl (hM.row 1 rfl) (BS (gk) (by omega) (by omega))),fun a w gG hF hS hd=>by have hF:=hF.ext1 23 (hd 9 rfl rfl);exact AM hS rfl (A6 BH BK hF rfl (wrap_i64 (by omega) (by omega))),fun a w gG hF hS hd=>by have hF:=hF.ext1 20 (hd 6 rfl rfl);have hF:=hF.ext1 24 (hd 10 rfl rfl);exact AM hS rfl (CA hF rfl rfl (Bj x (u gk) (by omega))),fun a w gG hF hS hd=>by have hF:=hF.ext1 19 (hd 5 rfl rfl);have hF:=hF.ext1 25 (hd 11 rfl rfl);exact AM hS rfl (Ar hF rfl rfl (Aj (v (gk)) ((x)*(u (gk))) (by omega))),fun a w gG hF hS hd=>by have hF:=hF.ext1 15 (hd 1 rfl rfl);have hF:=hF.ext1 26 (hd 12 rfl rfl);exact BJ (by repeat constructor) hS rfl (Aa Try.call153 hF (.cons rfl (.cons rfl .nil)) (FJ (v (gk)+(x)*(u (gk))) (p) _ (by omega) (by omega) (by omega))),fun a w gG hF hS hd=>by have hF:=hF.ext1 27 (hd 13 rfl rfl);exact AM hS rfl (A6 B3 B4 hF rfl (wrap_u8 (by omega) (by have:=Nat.mod_lt (v gk+x*u gk) hp;omega))),trivial⟩ ?_;intro a w' L hF hS hq;have hF:=hF.ext1 14 (hq 0 rfl rfl);have hF:=hF.ext1 15 (hq 1 rfl rfl);have hF:=hF.ext1 16 (hq 2 rfl rfl);have hF:=hF.ext1 17 (hq 3 rfl rfl);have hF:=hF.ext1 18 (hq 4 rfl rfl);have hF:=hF.ext1 19 (hq 5 rfl rfl);have hF:=hF.ext1 20 (hq 6 rfl rfl);have hF:=hF.ext1 21 (hq 7 rfl rfl);have hF:=hF.ext1 22 (hq 8 rfl rfl);have hF:=hF.ext1 23 (hq 9 rfl rfl);have hF:=hF.ext1 24 (hq 10 rfl rfl);have hF:=hF.ext1 25 (hq 11 rfl rfl);have hF:=hF.ext1 26 (hq 12 rfl rfl);have hF:=hF.ext1 27 (hq 13 rfl rfl);have hF:=hF.ext1 28 (hq 14 rfl rfl);have hM:=hS.mem rfl;change wpList Try.prog _ _ [_,_] _ _;refine st hF (AS Ax hF rfl rfl rfl (by omega)) rfl fun a hF=>A8 hF (A0 0 hM rfl Al hF rfl rfl rfl (by first | omega | (simp only [AR]<;>omega) | (simp only [Array.size_setIfInBounds];omega) | simp)) ?_;intro _ w' a hM hF;rw [show (Ag 6 (fun c=>.int .u8 ((if c<gk then CX p v u x c else v c:Nat):Int))).setIfInBounds (0+(gk)*1) (.int .u8 ((((v (gk)+(x)*(u (gk)))%(p):Nat):Int)))=Ag 6 (fun c=>.int .u8 (((if c=gk then (v (gk)+(x)*(u (gk)))%(p) else if c<gk then CX p v u x c else v c):Nat):Int)) from By (fun c _=>by rw [show 0+(gk)*1=gk by omega];by_cases hh:c=gk<;>simp [hh])] at hM
    change Af w w' [some (b1,Ag 6 (fun c=>.int .u8 (((if c=gk then (v (gk)+(x)*(u (gk)))%(p) else if c<gk then CX p v u x c else v c):Nat):Int))),some (b2,AI u),some (b3,Ag 6 (fun _=>.int .u8 (0)))] [] at hM;refine wpList_nil<|iN<|tN<|wp_region_lit<|mv hF rfl rfl fun a hF=>st hF (Ar hF rfl rfl (Aj (gk) (1) (by omega))) rfl fun a hF=>ag hF rfl rfl fun a hF=>nt<|⟨gk+1,⟨by omega,trivial,hF.sub _ (by repeat' constructor),?_⟩,by omega⟩;refine hM.rowc 0 rfl (BV fun c hc=>congrArg (Value.int .u8) (congrArg Nat.cast ?_))
    by_cases e1:c=gk
    · simp [e1,CX]
    · have e0:(c<gk+1)=(c<gk):=by apply propext;omega
      simp [e0,e1]
  obtain rfl:6=gk:=by omega
  have hM:=hM.rowc (cs':=AI (CX p v u x)) 0 rfl (BV fun c hc=>by simp [show c<6 by omega]);refine wp_exit<|tX<|tX<|Aq<|tN<|sr<|st hF (AK AP hF rfl (hM.row 0 rfl) (by simp only [AR]<;>omega) (whole (by simp only [AR]))) rfl fun a hF=>A8 hF (AO 2 hM rfl AY hF rfl rfl (by first | exact AT | exact cells_one | (refine AV fun _ _=>?_;first | rfl | (split<;>rfl))) (by simp only [AR]) (by simp only [AR]<;>omega) (AL _ _ (by simp only [AR]))) ?_;intro _ w' a hM hF;change Af w w' [some (b1,AI (CX p v u x)),some (b2,AI u),some (b3,AI (CX p v u x))] [] at hM;refine nt<|wp_ret<|BC rfl hF.defers (Ao AP hF rfl (hM.row 2 rfl) (by simp only [AR])) ⟨_,rfl,hM.below,?_⟩
  show _=_
  rfl
end Go.Proofs.Ytkcneleabbjkaaa
