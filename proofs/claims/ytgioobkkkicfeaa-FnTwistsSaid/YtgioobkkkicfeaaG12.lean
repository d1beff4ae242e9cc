import Derived.Test.YtgioobkkkicfeaaSw16
import Derived.Test.YtgioobkkkicfeaaChecked
set_option linter.unusedVariables false
set_option linter.unusedSimpArgs false
namespace Go.Proofs.Ytgioobkkkicfeaa
open Go Go.RowKit Go.Sw
theorem Bb:Try.prog.follows .mixedOrders=true:=by kernel_rfl
def sumTo (f:Nat->Nat):Nat->Nat
  | 0=>0
  | m+1=>sumTo f m+f m
def prodI (T:Nat->Nat->Nat->Nat) (v u:Nat->Nat) (n i c:Nat):Nat:=sumTo (fun i=>sumTo (fun j=>v i*u j*T i j c) n) i
def timesV (p n:Nat) (T:Nat->Nat->Nat->Nat) (v u:Nat->Nat) (c:Nat):Nat:=prodI T v u n n c%p
theorem sumTo_le {f:Nat->Nat}{c m:Nat}(h:∀ i,i<m->f i<=c):sumTo f m<=m*c:=by
  induction m with
  | zero=>simp [sumTo]
  | succ m ih=>have h1:=ih (fun i hi=>h i (by omega));have h2:=h m (by omega);simp only [sumTo,Nat.succ_mul];omega
theorem KP {x y:Nat}(hx:x<=255)(hy:y<=255):x*y<=65025:=Nat.le_trans (Nat.mul_le_mul hx hy) (by decide)
theorem JZ {x y z:Nat}(hx:x<=255)(hy:y<=255)(hz:z<=255):x*y*z<=16581375:=Nat.le_trans (Nat.mul_le_mul (KP hx hy) hz) (by decide)
theorem MT {T:Nat->Nat->Nat->Nat}{v u:Nat->Nat}{n i j:Nat}(hv:∀ i,v i<=255)(hu:∀ i,u i<=255)(hT:∀ i j k,T i j k<=255)(hn:n<=6)(hi:i<=n)(hj:j<=n)(c:Nat) :
    prodI T v u n i c+sumTo (fun j=>v i*u j*T i j c) j<=700000000:=by
  have h1:prodI T v u n i c<=6*(6*16581375):=Nat.le_trans (sumTo_le (c:=6*16581375) fun a _=>Nat.le_trans (sumTo_le (c:=16581375) fun b _=>JZ (hv a) (hu b) (hT a b c)) (Nat.mul_le_mul_right _ hn)) (Nat.mul_le_mul_right _ (by omega));have h2:=sumTo_le (m:=j) (c:=16581375) fun b (_:b<j)=>JZ (hv i) (hu b) (hT i b c);have h3:j*16581375<=6*16581375:=Nat.mul_le_mul_right _ (by omega)
  omega
theorem whole {c:Array Value}{n:Nat}(h:c.size=n):c.extract 0 (0+n)=c:=by subst h;simp
theorem CL {n:Nat}{f:Nat->Value}{o:Nat}{v:Value}(i:Nat)(h:o=i)(hi:i<n)(hv:f i=v):(BH n f)[o]? = some v:=by subst h;subst hv;exact B3 hi
theorem JY (x:Int)(p:Nat)(hp:0<p):-(p:Int)<x.tmod p/\x.tmod p<p:=by
  have h1:=Int.tmod_lt_of_pos x (b:=(p:Int)) (by omega);have h2:=Int.lt_tmod_of_pos x (b:=(p:Int)) (by omega);exact ⟨h2,h1⟩
theorem Ml (x:Int)(p:Nat)(hp:0<p):0<=x%(p:Int)/\x%(p:Int)<p:=⟨Int.emod_nonneg x (by omega),Int.emod_lt_of_pos x (by omega)⟩
theorem Kh (x:Int)(p:Nat)(hp:0<p):(x.tmod (p:Int)+(p:Int)).tmod (p:Int)=x%(p:Int):=by
  have h:=JY x p hp;rw [Int.tmod_eq_emod_of_nonneg (by omega),Int.add_emod_right];rw [Int.tmod_eq_emod]
  split
  . simp
  . have:(((p:Int).natAbs:Int))=p:=by simp
    rw [this,Int.sub_emod_right,Int.emod_emod]
def TN (k:Nat):ByteArray:=⟨#[109,UInt8.ofNat (48+k)]⟩
def TM (i:Nat):ByteArray:=match i with
  | 0=>⟨#[102,105,101,108,100]⟩
  | 1=>⟨#[100,117,97,108]⟩
  | 2=>⟨#[112,97,105,114]⟩
  | 3=>⟨#[99,121,99,108,105,99,51]⟩
  | 4=>⟨#[115,121,109,109,101,116,114,105,99]⟩
  | _=>⟨#[109,97,116,114,105,120]⟩
theorem DM:Try.prog.underlying 2=some (.int .i64):=by kernel_rfl
theorem DL:Try.prog.underlying 5=some (.int .u8):=by kernel_rfl
theorem CU:F7 Try.prog 32=some (.agg (BH 6 (fun _=>.int .u8 (0)))):=by kernel_rfl
theorem DO:Hd Try.prog 32=some (6,1):=by kernel_rfl
theorem Ah:ED Try.prog 5=true:=by kernel_rfl
theorem Bc:Ek Try.prog 32=some 6:=by kernel_rfl
theorem CV:DJ Try.prog 32=some 6:=by kernel_rfl
theorem NA:F7 Try.prog 107=some (.agg (BH 6 (fun _=>.int .i64 (0)))):=by kernel_rfl
theorem BG:Cz Try.prog 34 1=some 1:=by kernel_rfl
theorem AL:ED Try.prog 2=true:=by kernel_rfl
theorem Bf:Try.prog.underlying 5=some (.int .u8):=by kernel_rfl
theorem Ba:Try.prog.underlying 2=some (.int .i64):=by kernel_rfl
theorem CH:Cz Try.prog 34 2=some 2:=by kernel_rfl
theorem C8:Hd Try.prog 31=some (6,36):=by kernel_rfl
theorem Av:Hd Try.prog 25=some (6,6):=by kernel_rfl
theorem B9:Ek Try.prog 24=some 6:=by kernel_rfl
theorem KW:Try.prog.underlying 24=some (.array 6 5):=by kernel_rfl
theorem I2:Hd Try.prog 107=some (6,1):=by kernel_rfl
theorem NC:Ek Try.prog 107=some 6:=by kernel_rfl
theorem NB:Try.prog.underlying 107=some (.array 6 2):=by kernel_rfl
theorem Ca:Cz Try.prog 34 0=some 0:=by kernel_rfl
theorem F9:Try.prog.underlying 32=some (.array 6 5):=by kernel_rfl
theorem Em:Cz Try.prog 34 3=some 218:=by kernel_rfl
theorem Kf:Ek Try.prog 31=some 216:=by kernel_rfl
theorem D6:Ek Try.prog 25=some 36:=by kernel_rfl
theorem Nt:Try.prog.underlying 31=some (.array 6 25):=by kernel_rfl
theorem Nr:F7 Try.prog 25=some (.agg (BH 36 (fun _=>.int .u8 (0)))):=by kernel_rfl
theorem Nu:DJ Try.prog 25=some 36:=by kernel_rfl
theorem KV:Try.prog.underlying 25=some (.array 6 24):=by kernel_rfl
theorem KT:F7 Try.prog 24=some (.agg (BH 6 (fun _=>.int .u8 (0)))):=by kernel_rfl
theorem Hx:DJ Try.prog 24=some 6:=by kernel_rfl
theorem H2:∀ w,(Instr.build 32 #[]).run Try.prog w = .ok (.agg (BH 6 (fun _=>.int .u8 (0)))) w:=by intros;kernel_rfl
theorem EW:GT Try.prog 24=some (6,5,1):=by kernel_rfl
theorem EK:Im Try.prog 5=true:=by kernel_rfl
theorem KZ:Try.prog.eqGuardType Try.prog.depth 24=false:=by kernel_rfl
theorem A3:Ek Try.prog 34=some 224:=by kernel_rfl
theorem Kg:GT Try.prog 32=some (6,5,1):=by kernel_rfl
theorem N1:Try.prog.eqGuardType Try.prog.depth 32=false:=by kernel_rfl
theorem Ch:Try.prog.underlying 22=some (.slice 5):=by kernel_rfl
theorem Bj:sliceOf Try.prog 22=some 1:=by kernel_rfl
theorem Dv:∀ w,(Instr.buildSlice 39 0 #[]).run Try.prog w = .ok (.slice (some ⟨w.heap.size,0,none⟩) 0 0) (w.alloc (.cells #[] 2)):=by intros;kernel_rfl
theorem DN:OF Try.prog 39=some (2,some (.int .i64 (0)),1,8):=by kernel_rfl
theorem EB (x:Int)(p:Nat)(w:World)(hp:0<p)(hO:p<100)(hx:-1000000000<x)(hx2:x<1000000000) :
    CallsR Try.prog 31 #[.int .i64 (x),.int .i64 (p:Int)] w (fun res _=>res = .int .u8 (x%(p:Int))):=by
  refine AQ [.int .i64 (x),.int .i64 (p:Int)] Try.func31 rfl Try.ntmps31 rfl fun a O=>?_;have J:AR w w [] []:=MemX.start w 0;change Fr 13 a [(0,.int .i64 (x)),(1,.int .i64 (p:Int))] at O;have h1:=JY x p hp;have h2:=Ml x p hp;refine sr<|ag O rfl rfl fun a O=>ns<|mv O rfl rfl fun a O=>mv O rfl rfl fun a O=>st O (CI O rfl rfl (by omega) rfl) rfl fun a O=>mv O rfl rfl fun a O=>st O (Ac O rfl rfl (wrap_i64 (by omega) (by omega))) rfl fun a O=>mv O rfl rfl fun a O=>st O (CI O rfl rfl (by omega) (Kh x p hp)) rfl fun a O=>st O (BO DL DM O rfl (wrap_u8 (by omega) (by omega))) rfl fun a O=>ag O rfl rfl fun a O=>nt<|wp_ret<|Ap rfl O.defers (AE O rfl) ⟨_,rfl,J.below,?_⟩
  show _=_
  rfl
theorem CZ (i:Nat)(w:World)(hi:i<6) :
    CallsR Try.prog 70 #[.int .i64 (i:Int)] w (fun res _=>res = .agg (Af (fun c=>if c=i then 1 else 0))):=by
  refine AQ [.int .i64 (i:Int)] Try.func70 rfl Try.ntmps70 rfl fun a O=>?_;have J:AR w w [none,none] []:=MemX.start w 2;change Fr 7 a [(0,.int .i64 (i:Int))] at O;refine sr<|Aj O (Ax 0 J CU) rfl ?_;rintro _ w' a ⟨b1,rfl,J,-⟩ O;refine ns<|Aj O (Ax 1 J CU) rfl ?_;rintro _ w' a ⟨b2,rfl,J,-⟩ O;change AR _ _ [some (b1,BH 6 (fun _=>.int .u8 (0))),some (b2,BH 6 (fun _=>.int .u8 (0)))] [] at J;refine ns<|mv O rfl rfl fun a O=>st O (AH DO O rfl rfl rfl (by omega)) rfl fun a O=>Bu O (BE 1 J rfl Ah O rfl rfl rfl (by first | omega | (simp only [AT]<;>omega) | (simp only [Array.size_setIfInBounds];omega) | simp)) ?_;intro _ w' a J O;rw [show (BH 6 (fun x=>.int .u8 (0))).setIfInBounds (0+(i)*1) (.int .u8 (1))=BH 6 (fun x=>.int .u8 (((if x=i then 1 else 0):Nat):Int)) from Ce (fun x _=>by rw [show 0+(i)*1=i by omega];by_cases hh:x=i<;>simp [hh])] at J;change AR _ _ [_,_] [] at J;refine ns<|st O (AF Bc O rfl (J.row 1 rfl) (by simp only [AT]<;>omega) (whole (by simp only [AT]))) rfl fun a O=>Bu O (AX 0 J rfl CV O rfl rfl (by first | exact Bp | exact cells_one | (refine Dj fun _ _=>?_;first | rfl | (split<;>rfl))) (by simp only [AT]) (by simp only [AT]<;>omega) (AP _ _ (by simp only [AT]))) ?_;intro _ w' a J O;change AR _ _ [some (b1,BH 6 (fun x=>.int .u8 (((if x=i then 1 else 0):Nat):Int))),_] [] at J;refine nt<|wp_ret<|Ap rfl O.defers (BD Bc O rfl (J.row 0 rfl) (by simp only [AT])) ⟨_,rfl,J.below,?_⟩
  show _=_
  rfl
theorem E9 (x p:Nat)(w:World)(hp:0<p)(hO:p<100)(hx:x<1000000000):CallsR Try.prog 31 #[.int .i64 (x:Int),.int .i64 (p:Int)] w (fun u _=>u = .int .u8 ((x%p:Nat):Int)):=EB x p w hp hO (by omega) (by omega)
theorem Eo (p n:Nat)(T:Nat->Nat->Nat->Nat)(f v u:Nat->Nat)(w:World)(hp:0<p)(hO:p<100)(hn:n<=6)(hT:∀ i j k,T i j k<=255)(hv:∀ i,v i<=255)(hu:∀ i,u i<=255) :
    CallsR Try.prog 78 #[.agg (AY (p:Int) (n:Int) T f),.agg (Af v),.agg (Af u)] w (fun res _=>res = .agg (Af (timesV p n T v u))):=by
  refine AQ [.agg (AY (p:Int) (n:Int) T f),.agg (Af v),.agg (Af u)] Try.func78 rfl Try.ntmps78 rfl fun a O=>?_;have J:AR w w [none,none,none,none,none,none] []:=MemX.start w 6;change Fr 72 a [(0,.agg (AY (p:Int) (n:Int) T f)),(1,.agg (Af v)),(2,.agg (Af u))] at O;refine sr<|Aj O (Aw 0 J O rfl) rfl ?_;rintro _ w' a ⟨b1,rfl,J,-⟩ O;refine Aj O (Aw 1 J O rfl) rfl ?_;rintro _ w' a ⟨b2,rfl,J,-⟩ O;refine Aj O (Aw 2 J O rfl) rfl ?_;rintro _ w' a ⟨b3,rfl,J,-⟩ O;refine Aj O (Ax 3 J CU) rfl ?_;rintro _ w' a ⟨b4,rfl,J,-⟩ O;refine ns<|Aj O (Ax 4 J NA) rfl ?_;rintro _ w' a ⟨b5,rfl,J,-⟩ O;change AR _ _ [some (b1,AY (p:Int) (n:Int) T f),some (b2,Af v),some (b3,Af u),some (b4,BH 6 (fun _=>.int .u8 (0))),some (b5,BH 6 (fun _=>.int .i64 (0))),_] [] at J;refine nt<|sq<|sr<|st O (AC BG O rfl) rfl fun a O=>st O (AM AL O rfl (J.row 0 rfl) (Bn (by omega))) rfl fun a O=>mv O rfl rfl fun a O=>nt<|wp_block ?_;change AR _ _ [_,_,_,_,_,_] [] at J;refine Ag (fun (kk:Nat) a w'=>kk<=n/\(True)/\Fr 72 a [(3,ptr b1 (0)),(4,ptr b2 (0)),(5,ptr b3 (0)),(6,ptr b4 (0)),(7,ptr b5 (0)),(17,.int .i64 (n:Int)),(18,.int .i64 (kk:Int))]/\AR w w' [some (b1,AY (p:Int) (n:Int) T f),some (b2,Af v),some (b3,Af u),some (b4,BH 6 (fun _=>.int .u8 (0))),some (b5,BH 6 (fun c=>.int .i64 (prodI T v u n kk c:Int))),none] []) (fun kk=>n - kk) 0 ?_ ?_
  . refine ⟨by omega,trivial,O.sub _ (by repeat' constructor),?_⟩
    exact J
  clear O J;rintro i a w' ⟨hi,hH,O,J⟩;refine sr<|st O (Ak O rfl rfl) rfl fun a O=>nt<|sq<|AI O rfl (fun h6=>?_) (fun h6=>?_)
  . refine wp_skip ?_
    refine tN<|sq<|wp_block<|sr<|mv O rfl rfl fun a O=>ag O rfl rfl fun a O=>ns<|st O (AC BG O rfl) rfl fun a O=>st O (AM AL O rfl (J.row 0 rfl) (Bn (by omega))) rfl fun a O=>mv O rfl rfl fun a O=>nt<|wp_block ?_;change AR w _ [some (b1,AY (p:Int) (n:Int) T f),some (b2,Af v),some (b3,Af u),some (b4,BH 6 (fun _=>.int .u8 (0))),some (b5,BH 6 (fun c=>.int .i64 (prodI T v u n i c:Int))),none] [] at J;refine Ag (fun (kk:Nat) a w'=>kk<=n/\(True)/\Fr 72 a [(3,ptr b1 (0)),(4,ptr b2 (0)),(5,ptr b3 (0)),(6,ptr b4 (0)),(7,ptr b5 (0)),(17,.int .i64 (n:Int)),(18,.int .i64 (i:Int)),(19,.bool (decide (((i:Int):Int)<(n:Int)))),(20,.int .i64 (i:Int)),(8,.int .i64 (i:Int)),(21,ptr b1 (0+1)),(22,.int .i64 (n:Int)),(23,.int .i64 (kk:Int))]/\AR w w' [some (b1,AY (p:Int) (n:Int) T f),some (b2,Af v),some (b3,Af u),some (b4,BH 6 (fun _=>.int .u8 (0))),some (b5,BH 6 (fun c=>.int .i64 ((prodI T v u n i c+sumTo (fun kk=>v i*u kk*T i kk c) kk:Nat):Int))),none] []) (fun kk=>n - kk) 0 ?_ ?_
    . refine ⟨by omega,trivial,O.sub _ (by repeat' constructor),?_⟩
      exact J
    clear O J;rintro j a w' ⟨hj,hJ,O,J⟩;have hvi:=hv i;have huj:=hu j;refine sr<|st O (Ak O rfl rfl) rfl fun a O=>nt<|sq<|AI O rfl (fun h7=>?_) (fun h7=>?_)
    . refine wp_skip ?_
      refine tN<|sq<|wp_block<|sr<|mv O rfl rfl fun a O=>ag O rfl rfl fun a O=>nt<|sq<|Bt 8 [] [.val (.int .i64 (i:Int)),.val (ptr b2 (0+(i)*1)),.val (.int .u8 ((v (i):Int))),.val (.int .i64 ((v (i):Int))),.val (.int .i64 (j:Int)),.val (ptr b3 (0+(j)*1)),.val (.int .u8 ((u (j):Int))),.val (.int .i64 ((u (j):Int)))] Bb rfl O rfl J ⟨fun a w gG O hS hd=>by exact BF hS rfl O rfl,fun a w gG O hS hd=>by have O:=O.ext1 26 (hd 0 rfl rfl);exact AD hS rfl (AH DO O rfl rfl rfl (by omega)),fun a w gG O hS hd=>by have O:=O.ext1 27 (hd 1 rfl rfl);have J:=hS.mem rfl;exact AD hS rfl (AM Ah O rfl (J.row 1 rfl) (C7 (i) (by omega) (by omega))),fun a w gG O hS hd=>by have O:=O.ext1 28 (hd 2 rfl rfl);exact AD hS rfl (BO Ba Bf O rfl (wrap_i64 (by omega) (by omega))),fun a w gG O hS hd=>by exact BF hS rfl O rfl,fun a w gG O hS hd=>by have O:=O.ext1 30 (hd 4 rfl rfl);exact AD hS rfl (AH DO O rfl rfl rfl (by omega)),fun a w gG O hS hd=>by have O:=O.ext1 31 (hd 5 rfl rfl);have J:=hS.mem rfl;exact AD hS rfl (AM Ah O rfl (J.row 2 rfl) (C7 (j) (by omega) (by omega))),fun a w gG O hS hd=>by have O:=O.ext1 32 (hd 6 rfl rfl);exact AD hS rfl (BO Ba Bf O rfl (wrap_i64 (by omega) (by omega))),trivial⟩ ?_;intro a w' L O hS hq;have O:=O.ext1 26 (hq 0 rfl rfl);have O:=O.ext1 27 (hq 1 rfl rfl);have O:=O.ext1 28 (hq 2 rfl rfl);have O:=O.ext1 29 (hq 3 rfl rfl);have O:=O.ext1 30 (hq 4 rfl rfl);have O:=O.ext1 31 (hq 5 rfl rfl);have O:=O.ext1 32 (hq 6 rfl rfl);have O:=O.ext1 33 (hq 7 rfl rfl);have J:=hS.mem rfl;change wpList Try.prog _ _ [_,_] _ _;refine st O (Cp O rfl rfl (CE (v i) (u j) (by have:=KP (hv i) (hu j);omega))) rfl fun a O=>ag O rfl rfl fun a O=>nt<|sq<|sr<|mv O rfl rfl fun a O=>st O (Ao O rfl rfl) rfl fun a O=>nt<|AI O rfl (fun h8=>?_) (fun h8=>?_)
      . refine wp_exit ?_
        refine tX<|AW<|tN<|wp_region_lit<|st O (Ac O rfl rfl (AN (j) (1) (by omega))) rfl fun a O=>mv O rfl rfl fun a O=>nt<|⟨j+1,⟨by omega,trivial,O.sub _ (by repeat' constructor),?_⟩,by omega⟩;refine J.rowc 4 rfl (BL fun c hc=>?_);have e0:v i*u j=0:=by omega
        simp [sumTo,e0]
      refine wp_skip<|tN<|sr<|mv O rfl rfl fun a O=>mv O rfl rfl fun a O=>st O (AC CH O rfl) rfl fun a O=>st O (AH C8 O rfl rfl rfl (by omega)) rfl fun a O=>st O (AH Av O rfl rfl rfl (by omega)) rfl fun a O=>st O (AF B9 O rfl (J.row 0 rfl) (by simp only [AT]<;>omega) (GV (i) (j) (by omega) (by omega) (by omega) (by omega))) rfl fun a O=>mv O rfl rfl fun a O=>nt<|wp_block ?_;change AR w _ [some (b1,AY (p:Int) (n:Int) T f),some (b2,Af v),some (b3,Af u),some (b4,BH 6 (fun _=>.int .u8 (0))),some (b5,BH 6 (fun c=>.int .i64 ((prodI T v u n i c+sumTo (fun j=>v i*u j*T i j c) j:Nat):Int))),none] [] at J;refine Ag (fun (kk:Nat) a w'=>kk<=6/\(True)/\Fr 72 a [(33,.int .i64 ((u (j):Int))),(32,.int .u8 ((u (j):Int))),(31,ptr b3 (0+(j)*1)),(30,.int .i64 (j:Int)),(29,.int .i64 ((v (i):Int))),(28,.int .u8 ((v (i):Int))),(27,ptr b2 (0+(i)*1)),(26,.int .i64 (i:Int)),(3,ptr b1 (0)),(4,ptr b2 (0)),(5,ptr b3 (0)),(6,ptr b4 (0)),(7,ptr b5 (0)),(17,.int .i64 (n:Int)),(18,.int .i64 (i:Int)),(19,.bool (decide (((i:Int):Int)<(n:Int)))),(20,.int .i64 (i:Int)),(8,.int .i64 (i:Int)),(21,ptr b1 (0+1)),(22,.int .i64 (n:Int)),(23,.int .i64 (j:Int)),(24,.bool (decide (((j:Int):Int)<(n:Int)))),(25,.int .i64 (j:Int)),(9,.int .i64 (j:Int)),(34,.int .i64 ((((v (i))*(u (j)):Nat):Int))),(10,.int .i64 ((((v (i))*(u (j)):Nat):Int))),(35,.int .i64 ((((v (i))*(u (j)):Nat):Int))),(36,.bool (decide (((((v (i))*(u (j)):Nat):Int):Int)=0))),(37,.int .i64 (i:Int)),(38,.int .i64 (j:Int)),(39,ptr b1 (0+2)),(40,ptr b1 (0+2+(i)*36)),(41,ptr b1 (0+2+(i)*36+(j)*6)),(42,.agg (Af (T (i) (j)))),(43,.int .i64 (kk:Int))]/\AR w w' [some (b1,AY (p:Int) (n:Int) T f),some (b2,Af v),some (b3,Af u),some (b4,BH 6 (fun _=>.int .u8 (0))),some (b5,BH 6 (fun c=>.int .i64 (((prodI T v u n i c+sumTo (fun j=>v i*u j*T i j c) j)+(if c<kk then v i*u j*T i j c else 0):Nat):Int))),none] []) (fun kk=>6 - kk) 0 ?_ ?_
      . refine ⟨by omega,trivial,O.sub _ (by repeat' constructor),?_⟩
        exact J.cast (by simp)
      clear O J;rintro k a w' ⟨hk,hU,O,J⟩;have hb1:=MT (T:=T) hv hu hT hn hi hj k;have hb2:=JZ (hv i) (hu j) (hT i j k);have htk:=hT i j k;refine sr<|st O (Ak O rfl rfl) rfl fun a O=>nt<|sq<|AI O rfl (fun h9=>?_) (fun h9=>?_)
      . refine wp_skip ?_
        refine tN<|sq<|wp_block<|sr<|mv O rfl rfl fun a O=>st O (GM KW Ah O rfl rfl rfl (by omega) (C7 (k) (by omega) (by omega))) rfl fun a O=>ag O rfl rfl fun a O=>ag O rfl rfl fun a O=>nt<|wp_region_lit<|mv O rfl rfl fun a O=>st O (AH I2 O rfl rfl rfl (by omega)) rfl fun a O=>st O (AM AL O rfl (J.row 4 rfl) (CL (k) (by omega) (by omega) (by simp))) rfl fun a O=>mv O rfl rfl fun a O=>mv O rfl rfl fun a O=>st O (BO Ba Bf O rfl (wrap_i64 (by omega) (by omega))) rfl fun a O=>st O (Cp O rfl rfl (CE (v i*u j) (T i j k) (by omega))) rfl fun a O=>st O (Ac O rfl rfl (AN (prodI T v u n i k+sumTo (fun j=>v i*u j*T i j k) j) (((v (i))*(u (j)))*((T (i) (j)) (k))) (by omega))) rfl fun a O=>st O (AH I2 O rfl rfl rfl (by omega)) rfl fun a O=>Bu O (BE 4 J rfl AL O rfl rfl rfl (by first | omega | (simp only [AT]<;>omega) | (simp only [Array.size_setIfInBounds];omega) | simp)) ?_;intro _ w' a J O;rw [show (BH 6 (fun c=>.int .i64 (((prodI T v u n i c+sumTo (fun j=>v i*u j*T i j c) j)+(if c<k then v i*u j*T i j c else 0):Nat):Int))).setIfInBounds (0+(k)*1) (.int .i64 (((prodI T v u n i k+sumTo (fun j=>v i*u j*T i j k) j+((v (i))*(u (j)))*((T (i) (j)) (k)):Nat):Int)))=BH 6 (fun c=>.int .i64 (((if c=k then prodI T v u n i k+sumTo (fun j=>v i*u j*T i j k) j+((v (i))*(u (j)))*((T (i) (j)) (k)) else (prodI T v u n i c+sumTo (fun j=>v i*u j*T i j c) j)+(if c<k then v i*u j*T i j c else 0)):Nat):Int)) from Ce (fun c _=>by rw [show 0+(k)*1=k by omega];by_cases hh:c=k<;>simp [hh])] at J;change AR _ _ [_,_,_,_,_,_] [] at J;refine wpList_nil<|iN<|tN<|wp_region_lit<|st O (Ac O rfl rfl (AN (k) (1) (by omega))) rfl fun a O=>mv O rfl rfl fun a O=>nt<|⟨k+1,⟨by omega,trivial,O.sub _ (by repeat' constructor),?_⟩,by omega⟩;refine J.rowc 4 rfl (BL fun c hc=>?_);have e0:(c<k+1)=(c<k\/c=k):=by apply propext;omega
        by_cases e1:c=k
        . subst e1;simp
        . simp [e0,e1]
      obtain rfl:6=k:=by omega
      refine wp_exit<|tX<|tX<|AW<|iN<|tN<|wp_region_lit<|st O (Ac O rfl rfl (AN (j) (1) (by omega))) rfl fun a O=>mv O rfl rfl fun a O=>nt<|⟨j+1,⟨by omega,trivial,O.sub _ (by repeat' constructor),?_⟩,by omega⟩;refine J.rowc 4 rfl (BL fun c hc=>?_)
      simp [sumTo,hc,Nat.add_assoc]
    obtain rfl:n=j:=by omega
    refine wp_exit<|tX<|tX<|AW<|iN<|tN<|wp_region_lit<|st O (Ac O rfl rfl (AN (i) (1) (by omega))) rfl fun a O=>mv O rfl rfl fun a O=>nt<|⟨i+1,⟨by omega,trivial,O.sub _ (by repeat' constructor),?_⟩,by omega⟩;exact J
  obtain rfl:n=i:=by omega
  refine wp_exit<|tX<|tX<|AW<|tN<|sr<|Aj O (Ax 5 J CU) rfl ?_;rintro _ w' a ⟨b10,rfl,J,-⟩ O;change AR _ _ [_,_,_,_,_,some (b10,BH 6 (fun _=>.int .u8 (0)))] [] at J;refine nt<|sq<|sr<|st O (AF NC O rfl (J.row 4 rfl) (by simp only [AT]<;>omega) (whole (by simp only [AT]))) rfl fun a O=>mv O rfl rfl fun a O=>nt<|wp_block ?_;change AR _ _ [_,_,_,_,_,_] [] at J;refine Ag (fun (kk:Nat) a w'=>kk<=6/\(True)/\Fr 72 a [(3,ptr b1 (0)),(4,ptr b2 (0)),(5,ptr b3 (0)),(6,ptr b4 (0)),(7,ptr b5 (0)),(17,.int .i64 (n:Int)),(18,.int .i64 (n:Int)),(19,.bool (decide (((n:Int):Int)<(n:Int)))),(13,ptr b10 (0)),(59,.agg (BH 6 (fun c=>.int .i64 (prodI T v u n n c:Int)))),(60,.int .i64 (kk:Int))]/\AR w w' [some (b1,AY (p:Int) (n:Int) T f),some (b2,Af v),some (b3,Af u),some (b4,BH 6 (fun _=>.int .u8 (0))),some (b5,BH 6 (fun c=>.int .i64 (prodI T v u n n c:Int))),some (b10,BH 6 (fun d=>.int .u8 ((if d<kk then timesV p n T v u d else 0:Nat):Int)))] []) (fun kk=>6 - kk) 0 ?_ ?_
  . refine ⟨by omega,trivial,O.sub _ (by repeat' constructor),?_⟩
    exact J.cast (by simp)
  clear O J;rintro q a w' ⟨hq,hinv4,O,J⟩;have hb1:prodI T v u n n q<=700000000:=by have:=MT (T:=T) hv hu hT hn (Nat.le_refl n) (Nat.zero_le n) q;omega
  refine sr<|st O (Ak O rfl rfl) rfl fun a O=>nt<|sq<|AI O rfl (fun h11=>?_) (fun h11=>?_)
  . refine wp_skip ?_
    refine tN<|sq<|wp_block<|sr<|mv O rfl rfl fun a O=>st O (GM NB AL O rfl rfl rfl (by omega) (CL (q) (by omega) (by omega) rfl)) rfl fun a O=>ag O rfl rfl fun a O=>ag O rfl rfl fun a O=>nt<|wp_region_lit<|mv O rfl rfl fun a O=>mv O rfl rfl fun a O=>st O (AC Ca O rfl) rfl fun a O=>st O (AM AL O rfl (J.row 0 rfl) (DV (by omega))) rfl fun a O=>Aj O (AO Try.call31 O (.cons rfl (.cons rfl .nil)) (E9 (prodI T v u n n (q)) (p) _ (by omega) (by omega) (by omega))) rfl ?_;rintro _ w' a ⟨hx,rfl⟩ O;have J:=J.ext hx;refine st O (AH DO O rfl rfl rfl (by omega)) rfl fun a O=>Bu O (BE 5 J rfl Ah O rfl rfl rfl (by first | omega | (simp only [AT]<;>omega) | (simp only [Array.size_setIfInBounds];omega) | simp)) ?_;intro _ w' a J O;rw [show (BH 6 (fun d=>.int .u8 ((if d<q then timesV p n T v u d else 0:Nat):Int))).setIfInBounds (0+(q)*1) (.int .u8 ((((prodI T v u n n (q))%(p):Nat):Int)))=BH 6 (fun d=>.int .u8 (((if d=q then (prodI T v u n n (q))%(p) else if d<q then timesV p n T v u d else 0):Nat):Int)) from Ce (fun d _=>by rw [show 0+(q)*1=q by omega];by_cases hh:d=q<;>simp [hh])] at J;change AR _ _ [_,_,_,_,_,_] [] at J;refine wpList_nil<|iN<|tN<|wp_region_lit<|st O (Ac O rfl rfl (AN (q) (1) (by omega))) rfl fun a O=>mv O rfl rfl fun a O=>nt<|⟨q+1,⟨by omega,trivial,O.sub _ (by repeat' constructor),?_⟩,by omega⟩;refine J.rowc 5 rfl (BL fun c hc=>?_);have e0:(c<q+1)=(c<q\/c=q):=by apply propext;omega
    by_cases e1:c=q
    . subst e1;simp [timesV]
    . simp [e0,e1]
  obtain rfl:6=q:=by omega
  refine wp_exit<|tX<|tX<|AW<|tN<|sr<|st O (AF Bc O rfl (J.row 5 rfl) (by simp only [AT]<;>omega) (whole (by simp only [AT]))) rfl fun a O=>Bu O (AX 3 J rfl CV O rfl rfl (by first | exact Bp | exact cells_one | (refine Dj fun _ _=>?_;first | rfl | (split<;>rfl))) (by simp only [AT]) (by simp only [AT]<;>omega) (AP _ _ (by simp only [AT]))) ?_;intro _ w' a J O;change AR _ _ [_,_,_,some (b4,BH 6 (fun d=>.int .u8 ((if d<6 then timesV p n T v u d else 0:Nat):Int))),_,_] [] at J;refine nt<|wp_ret<|Ap rfl O.defers (BD Bc O rfl (J.row 3 rfl) (by simp only [AT])) ⟨_,rfl,J.below,?_⟩
  show _=_
  exact congrArg Value.agg (BL fun c hc=>by simp [hc])
def Ae (x:Int):Prop:=x=2\/x=3\/x=5\/x=7\/x=11\/x=13
instance (x:Int):Decidable (Ae x):=by unfold Ae;infer_instance
def JE (p n:Int) (x i:Nat):Prop:=¬ ((x:Int)≥p\/((i:Int)≥n/\x≠0))
instance (p n:Int) (x i:Nat):Decidable (JE p n x i):=by unfold JE;infer_instance
def okV (p n:Int) (v:Nat->Nat):Prop:=∀ i,i<6->JE p n (v i) i
instance (p n:Int) (v:Nat->Nat):Decidable (okV p n v):=Nat.decidableBallLT 6 _
theorem MV {p n:Int}{v:Nat->Nat}(i:Nat)(hi:i<6)(h:¬ JE p n (v i) i):¬ okV p n v:=fun hq=>h (hq i hi)
theorem SK {p n:Int}{v:Nat->Nat}{k:Nat}(h:∀ i,i<k->JE p n (v i) i)(hk:JE p n (v k) k):∀ i,i<k+1->JE p n (v i) i:=fun i hi=>by
  by_cases e:i=k
  . subst e;exact hk
  . exact h i (by omega)
theorem Ds {p:Prop}[Decidable p](h:p):Value.bool true=Value.bool (decide p):=by simp [h]
theorem BP {p:Prop}[Decidable p](h:¬ p):Value.bool false=Value.bool (decide p):=by simp [h]
theorem Et (x:Int)(w:World) :
    CallsR Try.prog 49 #[.int .i64 (x)] w (fun res _=>res = .bool (decide (Ae x))):=by
  refine AQ [.int .i64 (x)] Try.func49 rfl Try.ntmps49 rfl fun a O=>?_;have J:AR w w [] []:=MemX.start w 0;change Fr 11 a [(0,.int .i64 (x))] at O;refine sr<|ag O rfl rfl fun a O=>nt<|sq<|sr<|mv O rfl rfl fun a O=>nt<|wp_block<|sq<|sr<|st O (Ao O rfl rfl) rfl fun a O=>ag O rfl rfl fun a O=>nt<|AI O rfl (fun h1=>?_) (fun h1=>?_)
  . refine wp_skip ?_
    refine tN<|Cm O rfl h1<|sr<|ag O rfl rfl fun a O=>nt<|wp_ret<|iR<|tR<|Ap rfl O.defers (AE O rfl) ⟨_,rfl,J.below,?_⟩
    show _=_
    first | exact congrArg Value.bool (decide_eq_true (by unfold Ae;omega)).symm | exact congrArg Value.bool (decide_eq_false (by unfold Ae;omega)).symm | exact congrArg Value.bool (decide_eq_decide.2 (by unfold Ae;omega))
  refine sr<|st O (Ao O rfl rfl) rfl fun a O=>ag O rfl rfl fun a O=>nt<|AI O rfl (fun h3=>?_) (fun h3=>?_)
  . refine wp_skip ?_
    refine tN<|Cm O rfl h3<|sr<|ag O rfl rfl fun a O=>nt<|wp_ret<|iR<|tR<|Ap rfl O.defers (AE O rfl) ⟨_,rfl,J.below,?_⟩
    show _=_
    first | exact congrArg Value.bool (decide_eq_true (by unfold Ae;omega)).symm | exact congrArg Value.bool (decide_eq_false (by unfold Ae;omega)).symm | exact congrArg Value.bool (decide_eq_decide.2 (by unfold Ae;omega))
  refine sr<|st O (Ao O rfl rfl) rfl fun a O=>ag O rfl rfl fun a O=>nt<|AI O rfl (fun h5=>?_) (fun h5=>?_)
  . refine wp_skip ?_
    refine tN<|Cm O rfl h5<|sr<|ag O rfl rfl fun a O=>nt<|wp_ret<|iR<|tR<|Ap rfl O.defers (AE O rfl) ⟨_,rfl,J.below,?_⟩
    show _=_
    first | exact congrArg Value.bool (decide_eq_true (by unfold Ae;omega)).symm | exact congrArg Value.bool (decide_eq_false (by unfold Ae;omega)).symm | exact congrArg Value.bool (decide_eq_decide.2 (by unfold Ae;omega))
  refine sr<|st O (Ao O rfl rfl) rfl fun a O=>ag O rfl rfl fun a O=>nt<|AI O rfl (fun h7=>?_) (fun h7=>?_)
  . refine wp_skip ?_
    refine tN<|Cm O rfl h7<|sr<|ag O rfl rfl fun a O=>nt<|wp_ret<|iR<|tR<|Ap rfl O.defers (AE O rfl) ⟨_,rfl,J.below,?_⟩
    show _=_
    first | exact congrArg Value.bool (decide_eq_true (by unfold Ae;omega)).symm | exact congrArg Value.bool (decide_eq_false (by unfold Ae;omega)).symm | exact congrArg Value.bool (decide_eq_decide.2 (by unfold Ae;omega))
  refine sr<|st O (Ao O rfl rfl) rfl fun a O=>ag O rfl rfl fun a O=>nt<|AI O rfl (fun h9=>?_) (fun h9=>?_)
  . refine wp_skip ?_
    refine tN<|Cm O rfl h9<|sr<|ag O rfl rfl fun a O=>nt<|wp_ret<|iR<|tR<|Ap rfl O.defers (AE O rfl) ⟨_,rfl,J.below,?_⟩
    show _=_
    first | exact congrArg Value.bool (decide_eq_true (by unfold Ae;omega)).symm | exact congrArg Value.bool (decide_eq_false (by unfold Ae;omega)).symm | exact congrArg Value.bool (decide_eq_decide.2 (by unfold Ae;omega))
  refine wp_region_lit<|st O (Ao O rfl rfl) rfl fun a O=>ag O rfl rfl fun a O=>nt<|AI O rfl (fun h11=>?_) (fun h11=>?_)
  . refine sq ?_
    refine wp_region_lit<|ag O rfl rfl fun a O=>nt<|wp_ret<|iR<|tR<|Ap rfl O.defers (AE O rfl) ⟨_,rfl,J.below,?_⟩
    show _=_
    first | exact congrArg Value.bool (decide_eq_true (by unfold Ae;omega)).symm | exact congrArg Value.bool (decide_eq_false (by unfold Ae;omega)).symm | exact congrArg Value.bool (decide_eq_decide.2 (by unfold Ae;omega))
  refine wp_skip<|iN<|tN<|sr<|ag O rfl rfl fun a O=>nt<|wp_ret<|Ap rfl O.defers (AE O rfl) ⟨_,rfl,J.below,?_⟩
  show _=_
  first | exact congrArg Value.bool (decide_eq_true (by unfold Ae;omega)).symm | exact congrArg Value.bool (decide_eq_false (by unfold Ae;omega)).symm | exact congrArg Value.bool (decide_eq_decide.2 (by unfold Ae;omega))
theorem HZ (x:Int)(w:World) :
    CallsR Try.prog 52 #[.int .i64 (x)] w (fun res _=>res = .bool (decide (Ae x))):=by
  refine AQ [.int .i64 (x)] Try.func52 rfl Try.ntmps52 rfl fun a O=>?_;have J:AR w w [] []:=MemX.start w 0;change Fr 25 a [(0,.int .i64 (x))] at O;refine sr<|ag O rfl rfl fun a O=>ns<|mv O rfl rfl fun a O=>st O (Ao O rfl rfl) rfl fun a O=>mv O rfl rfl fun a O=>?_
  by_cases g1:(x:Int)=2
  . first | rw [decide_eq_true g1] at O | simp only [decide_eq_true g1] at O
    refine A4 O rfl rfl rfl rfl rfl fun a O=>A4 O rfl rfl rfl rfl rfl fun a O=>st O (Aa O rfl rfl) rfl fun a O=>mv O rfl rfl fun a O=>A4 O rfl rfl rfl rfl rfl fun a O=>A4 O rfl rfl rfl rfl rfl fun a O=>st O (Aa O rfl rfl) rfl fun a O=>mv O rfl rfl fun a O=>A4 O rfl rfl rfl rfl rfl fun a O=>A4 O rfl rfl rfl rfl rfl fun a O=>st O (Aa O rfl rfl) rfl fun a O=>mv O rfl rfl fun a O=>A4 O rfl rfl rfl rfl rfl fun a O=>A4 O rfl rfl rfl rfl rfl fun a O=>st O (Aa O rfl rfl) rfl fun a O=>mv O rfl rfl fun a O=>A4 O rfl rfl rfl rfl rfl fun a O=>A4 O rfl rfl rfl rfl rfl fun a O=>st O (Aa O rfl rfl) rfl fun a O=>ag O rfl rfl fun a O=>nt<|wp_ret<|Ap rfl O.defers (AE O rfl) ⟨_,rfl,J.below,?_⟩
    show _=_
    first | exact congrArg Value.bool (decide_eq_true (by unfold Ae;omega)).symm | exact congrArg Value.bool (decide_eq_false (by unfold Ae;omega)).symm | exact congrArg Value.bool (decide_eq_decide.2 (by unfold Ae;omega))
  first | rw [decide_eq_false g1] at O | simp only [decide_eq_false g1] at O
  refine Ay O rfl rfl rfl (AS O rfl) rfl fun a O=>Ay O rfl rfl rfl (Ao O rfl rfl) rfl fun a O=>st O (Ai O rfl rfl) rfl fun a O=>mv O rfl rfl fun a O=>?_
  by_cases g2:(x:Int)=3
  . first | rw [decide_eq_true g2] at O | simp only [decide_eq_true g2] at O
    refine A4 O rfl rfl rfl rfl rfl fun a O=>A4 O rfl rfl rfl rfl rfl fun a O=>st O (Aa O rfl rfl) rfl fun a O=>mv O rfl rfl fun a O=>A4 O rfl rfl rfl rfl rfl fun a O=>A4 O rfl rfl rfl rfl rfl fun a O=>st O (Aa O rfl rfl) rfl fun a O=>mv O rfl rfl fun a O=>A4 O rfl rfl rfl rfl rfl fun a O=>A4 O rfl rfl rfl rfl rfl fun a O=>st O (Aa O rfl rfl) rfl fun a O=>mv O rfl rfl fun a O=>A4 O rfl rfl rfl rfl rfl fun a O=>A4 O rfl rfl rfl rfl rfl fun a O=>st O (Aa O rfl rfl) rfl fun a O=>ag O rfl rfl fun a O=>nt<|wp_ret<|Ap rfl O.defers (AE O rfl) ⟨_,rfl,J.below,?_⟩
    show _=_
    first | exact congrArg Value.bool (decide_eq_true (by unfold Ae;omega)).symm | exact congrArg Value.bool (decide_eq_false (by unfold Ae;omega)).symm | exact congrArg Value.bool (decide_eq_decide.2 (by unfold Ae;omega))
  first | rw [decide_eq_false g2] at O | simp only [decide_eq_false g2] at O
  refine Ay O rfl rfl rfl (AS O rfl) rfl fun a O=>Ay O rfl rfl rfl (Ao O rfl rfl) rfl fun a O=>st O (Ai O rfl rfl) rfl fun a O=>mv O rfl rfl fun a O=>?_
  by_cases g3:(x:Int)=5
  . first | rw [decide_eq_true g3] at O | simp only [decide_eq_true g3] at O
    refine A4 O rfl rfl rfl rfl rfl fun a O=>A4 O rfl rfl rfl rfl rfl fun a O=>st O (Aa O rfl rfl) rfl fun a O=>mv O rfl rfl fun a O=>A4 O rfl rfl rfl rfl rfl fun a O=>A4 O rfl rfl rfl rfl rfl fun a O=>st O (Aa O rfl rfl) rfl fun a O=>mv O rfl rfl fun a O=>A4 O rfl rfl rfl rfl rfl fun a O=>A4 O rfl rfl rfl rfl rfl fun a O=>st O (Aa O rfl rfl) rfl fun a O=>ag O rfl rfl fun a O=>nt<|wp_ret<|Ap rfl O.defers (AE O rfl) ⟨_,rfl,J.below,?_⟩
    show _=_
    first | exact congrArg Value.bool (decide_eq_true (by unfold Ae;omega)).symm | exact congrArg Value.bool (decide_eq_false (by unfold Ae;omega)).symm | exact congrArg Value.bool (decide_eq_decide.2 (by unfold Ae;omega))
  first | rw [decide_eq_false g3] at O | simp only [decide_eq_false g3] at O
  refine Ay O rfl rfl rfl (AS O rfl) rfl fun a O=>Ay O rfl rfl rfl (Ao O rfl rfl) rfl fun a O=>st O (Ai O rfl rfl) rfl fun a O=>mv O rfl rfl fun a O=>?_
  by_cases g4:(x:Int)=7
  . first | rw [decide_eq_true g4] at O | simp only [decide_eq_true g4] at O
    refine A4 O rfl rfl rfl rfl rfl fun a O=>A4 O rfl rfl rfl rfl rfl fun a O=>st O (Aa O rfl rfl) rfl fun a O=>mv O rfl rfl fun a O=>A4 O rfl rfl rfl rfl rfl fun a O=>A4 O rfl rfl rfl rfl rfl fun a O=>st O (Aa O rfl rfl) rfl fun a O=>ag O rfl rfl fun a O=>nt<|wp_ret<|Ap rfl O.defers (AE O rfl) ⟨_,rfl,J.below,?_⟩
    show _=_
    first | exact congrArg Value.bool (decide_eq_true (by unfold Ae;omega)).symm | exact congrArg Value.bool (decide_eq_false (by unfold Ae;omega)).symm | exact congrArg Value.bool (decide_eq_decide.2 (by unfold Ae;omega))
  first | rw [decide_eq_false g4] at O | simp only [decide_eq_false g4] at O
  refine Ay O rfl rfl rfl (AS O rfl) rfl fun a O=>Ay O rfl rfl rfl (Ao O rfl rfl) rfl fun a O=>st O (Ai O rfl rfl) rfl fun a O=>mv O rfl rfl fun a O=>?_
  by_cases g5:(x:Int)=11
  . first | rw [decide_eq_true g5] at O | simp only [decide_eq_true g5] at O
    refine A4 O rfl rfl rfl rfl rfl fun a O=>A4 O rfl rfl rfl rfl rfl fun a O=>st O (Aa O rfl rfl) rfl fun a O=>ag O rfl rfl fun a O=>nt<|wp_ret<|Ap rfl O.defers (AE O rfl) ⟨_,rfl,J.below,?_⟩
    show _=_
    first | exact congrArg Value.bool (decide_eq_true (by unfold Ae;omega)).symm | exact congrArg Value.bool (decide_eq_false (by unfold Ae;omega)).symm | exact congrArg Value.bool (decide_eq_decide.2 (by unfold Ae;omega))
  first | rw [decide_eq_false g5] at O | simp only [decide_eq_false g5] at O
  refine Ay O rfl rfl rfl (AS O rfl) rfl fun a O=>Ay O rfl rfl rfl (Ao O rfl rfl) rfl fun a O=>st O (Ai O rfl rfl) rfl fun a O=>ag O rfl rfl fun a O=>nt<|wp_ret<|Ap rfl O.defers (AE O rfl) ⟨_,rfl,J.below,?_⟩
  show _=_
  first | exact congrArg Value.bool (decide_eq_true (by unfold Ae;omega)).symm | exact congrArg Value.bool (decide_eq_false (by unfold Ae;omega)).symm | exact congrArg Value.bool (decide_eq_decide.2 (by unfold Ae;omega))
theorem FG (x lo hi:Int)(w:World) :
    CallsR Try.prog 35 #[.int .i64 (x),.int .i64 (lo),.int .i64 (hi)] w (fun res _=>res = .bool (decide (lo<=x/\x<=hi))):=by
  refine AQ [.int .i64 (x),.int .i64 (lo),.int .i64 (hi)] Try.func35 rfl Try.ntmps35 rfl fun a O=>?_;have J:AR w w [] []:=MemX.start w 0;change Fr 15 a [(0,.int .i64 (x)),(1,.int .i64 (lo)),(2,.int .i64 (hi))] at O;refine sr<|ag O rfl rfl fun a O=>ns<|mv O rfl rfl fun a O=>mv O rfl rfl fun a O=>st O (GN O rfl rfl) rfl fun a O=>mv O rfl rfl fun a O=>?_
  by_cases g1:lo<=(x:Int)
  . first | rw [decide_eq_true g1] at O | simp only [decide_eq_true g1] at O
    refine Ay O rfl rfl rfl (AS O rfl) rfl fun a O=>Ay O rfl rfl rfl (AS O rfl) rfl fun a O=>Ay O rfl rfl rfl (Ow O rfl rfl) rfl fun a O=>st O (Aa O rfl rfl) rfl fun a O=>ag O rfl rfl fun a O=>nt<|wp_ret<|Ap rfl O.defers (AE O rfl) ⟨_,rfl,J.below,?_⟩
    show _=_
    first | exact congrArg Value.bool (decide_eq_true (by omega)).symm | exact congrArg Value.bool (decide_eq_false (by omega)).symm | exact congrArg Value.bool (decide_eq_decide.2 (by omega))
  first | rw [decide_eq_false g1] at O | simp only [decide_eq_false g1] at O
  refine A4 O rfl rfl rfl rfl rfl fun a O=>A4 O rfl rfl rfl rfl rfl fun a O=>A4 O rfl rfl rfl rfl rfl fun a O=>st O (Ai O rfl rfl) rfl fun a O=>ag O rfl rfl fun a O=>nt<|wp_ret<|Ap rfl O.defers (AE O rfl) ⟨_,rfl,J.below,?_⟩
  show _=_
  first | exact congrArg Value.bool (decide_eq_true (by omega)).symm | exact congrArg Value.bool (decide_eq_false (by omega)).symm | exact congrArg Value.bool (decide_eq_decide.2 (by omega))
theorem Dp (p n:Int)(T:Nat->Nat->Nat->Nat)(f v:Nat->Nat)(w:World)(hv:∀ i,v i<=255) :
    CallsR Try.prog 58 #[.agg (AY p n T f),.agg (Af v)] w (fun res _=>res = .bool (decide (okV p n v))):=by
  refine AQ [.agg (AY p n T f),.agg (Af v)] Try.func58 rfl Try.ntmps58 rfl fun a O=>?_;have J:AR w w [none,none] []:=MemX.start w 2;change Fr 28 a [(0,.agg (AY p n T f)),(1,.agg (Af v))] at O;refine sr<|Aj O (Aw 0 J O rfl) rfl ?_;rintro _ w' a ⟨b1,rfl,J,-⟩ O;refine Aj O (Aw 1 J O rfl) rfl ?_;rintro _ w' a ⟨b2,rfl,J,-⟩ O;change AR _ _ [some (b1,AY p n T f),some (b2,Af v)] [] at J;refine ag O rfl rfl fun a O=>nt<|sq<|sr<|st O (AF Bc O rfl (J.row 1 rfl) (by simp only [AT]<;>omega) (whole (by simp only [AT]))) rfl fun a O=>mv O rfl rfl fun a O=>nt<|wp_block ?_;change AR _ _ [_,_] [] at J;refine Ag (fun (kk:Nat) a w'=>kk<=6/\(∀ i,i<kk->JE p n (v i) i)/\Fr 28 a [(2,ptr b1 (0)),(7,.agg (Af v)),(8,.int .i64 (kk:Int))]/\AR w w' [some (b1,AY p n T f),some (b2,Af v)] []) (fun kk=>6 - kk) 0 ?_ ?_
  . refine ⟨by omega,fun i hi=>absurd hi (by omega),O.sub _ (by repeat' constructor),?_⟩
    exact J
  clear O J;rintro gk a w' ⟨hgk,hH,O,J⟩;have hvb:=hv gk;refine sr<|st O (Ak O rfl rfl) rfl fun a O=>nt<|sq<|AI O rfl (fun h3=>?_) (fun h3=>?_)
  . refine wp_skip ?_
    refine tN<|sq<|wp_block<|sr<|mv O rfl rfl fun a O=>st O (GM F9 Ah O rfl rfl rfl (by omega) (C7 (gk) (by omega) (by omega))) rfl fun a O=>ag O rfl rfl fun a O=>ag O rfl rfl fun a O=>ns<|mv O rfl rfl fun a O=>st O (BO Ba Bf O rfl (wrap_i64 (by omega) (by omega))) rfl fun a O=>st O (AC Ca O rfl) rfl fun a O=>st O (AM AL O rfl (J.row 0 rfl) (DV (by omega))) rfl fun a O=>st O (GN O rfl rfl) rfl fun a O=>mv O rfl rfl fun a O=>?_
    by_cases g4:p<=((v (gk):Int):Int)
    . first | rw [decide_eq_true g4] at O | simp only [decide_eq_true g4] at O
      refine A4 O rfl rfl rfl rfl rfl fun a O=>A4 O rfl rfl rfl rfl rfl fun a O=>A4 O rfl rfl rfl rfl rfl fun a O=>A4 O rfl rfl rfl rfl rfl fun a O=>A4 O rfl rfl rfl rfl rfl fun a O=>NF O rfl rfl rfl rfl fun a O=>NF O rfl rfl rfl rfl fun a O=>A4 O rfl rfl rfl rfl rfl fun a O=>st O (Aa O rfl rfl) rfl fun a O=>nt<|Hk O rfl<|sr<|ag O rfl rfl fun a O=>nt<|wp_ret<|iR<|tR<|tR<|iR<|tR<|Ap rfl O.defers (AE O rfl) ⟨_,rfl,J.below,?_⟩
      show _=_
      exact BP (MV gk (by omega) (by unfold JE;omega))
    first | rw [decide_eq_false g4] at O | simp only [decide_eq_false g4] at O
    refine Ay O rfl rfl rfl (AS O rfl) rfl fun a O=>Ay O rfl rfl rfl (AC BG O rfl) rfl fun a O=>Ay O rfl rfl rfl (AM AL O rfl (J.row 0 rfl) (Bn (by omega))) rfl fun a O=>Ay O rfl rfl rfl (GN O rfl rfl) rfl fun a O=>Ay O rfl rfl rfl (AS O rfl) rfl fun a O=>?_
    by_cases g6:n<=((gk:Int):Int)
    . first | rw [decide_eq_true g6] at O | simp only [decide_eq_true g6] at O
      refine Ay O rfl rfl rfl (AS O rfl) rfl fun a O=>Ay O rfl rfl rfl (A0 O rfl rfl) rfl fun a O=>Ay O rfl rfl rfl (Aa O rfl rfl) rfl fun a O=>st O (Ai O rfl rfl) rfl fun a O=>nt<|AI O rfl (fun h7=>?_) (fun h7=>?_)
      . refine sq ?_
        refine wp_region_lit<|ag O rfl rfl fun a O=>nt<|wp_ret<|iR<|tR<|tR<|iR<|tR<|Ap rfl O.defers (AE O rfl) ⟨_,rfl,J.below,?_⟩
        show _=_
        exact BP (MV gk (by omega) (by unfold JE;omega))
      refine wp_skip<|iN<|tN<|wp_region_lit<|st O (Ac O rfl rfl (AN (gk) (1) (by omega))) rfl fun a O=>mv O rfl rfl fun a O=>nt<|⟨gk+1,⟨by omega,SK hH (by unfold JE;omega),O.sub _ (by repeat' constructor),?_⟩,by omega⟩;exact J
    first | rw [decide_eq_false g6] at O | simp only [decide_eq_false g6] at O
    refine A4 O rfl rfl rfl rfl rfl fun a O=>A4 O rfl rfl rfl rfl rfl fun a O=>Ay O rfl rfl rfl (Ai O rfl rfl) rfl fun a O=>st O (Ai O rfl rfl) rfl fun a O=>nt<|CN O rfl<|wp_skip<|iN<|tN<|wp_region_lit<|st O (Ac O rfl rfl (AN (gk) (1) (by omega))) rfl fun a O=>mv O rfl rfl fun a O=>nt<|⟨gk+1,⟨by omega,SK hH (by unfold JE;omega),O.sub _ (by repeat' constructor),?_⟩,by omega⟩;exact J
  obtain rfl:6=gk:=by omega
  refine wp_exit<|tX<|tX<|AW<|tN<|sr<|ag O rfl rfl fun a O=>nt<|wp_ret<|Ap rfl O.defers (AE O rfl) ⟨_,rfl,J.below,?_⟩
  show _=_
  exact Ds hH
theorem LG {x y z:Nat}(h:x+y<9223372036854775808)(e:x+y=z):IntKind.i64.wrap ((x:Int)+(y:Int))=(z:Int):=e ▸ AN x y h
def timesS (p n:Nat) (T:Nat->Nat->Nat->Nat) (v u:Nat->Nat) (c:Nat):Nat:=if c<n then timesV p n T v u c else 0
def invN (x p:Nat):Nat:=((List.range p).find? (fun c=>c*x%p == 1)).getD 0
theorem JK {x p k:Nat}(hk:k<p)(h:∀ c,c<k->¬ c*x%p=1)(h1:k*x%p=1):invN x p=k:=by
  unfold invN
  have:(List.range p).find? (fun c=>c*x%p == 1)=some k:=by
    rw [List.find?_eq_some_iff_append];refine ⟨by simpa using h1,List.range k,(List.range (p - k - 1)).map (fun x=>k+1+x),?_,?_⟩
    . have e:List.range p=List.range (k+(p - k)):=by congr 1;omega
      rw [e,List.range_add]
      congr 1
      rw [show p - k=(p - k - 1)+1 by omega,List.range_succ_eq_map]
      simp [Function.comp_def,Nat.add_assoc,Nat.add_comm]
      intro a _;omega
    . intro c hc;simpa using h c (by simpa using hc)
  rw [this];rfl
theorem JL {x p:Nat}(h:∀ c,c<p->¬ c*x%p=1):invN x p=0:=by
  unfold invN
  have:(List.range p).find? (fun c=>c*x%p == 1)=none:=by
    rw [List.find?_eq_none];intro c hc;simpa using h c (by simpa using hc)
  rw [this];rfl
theorem noS {x p k:Nat}(h:∀ c,c<k->¬ c*x%p=1)(h1:¬ ((k*x%p:Nat):Int)=1):∀ c,c<k+1->¬ c*x%p=1:=fun c hc=>by
  by_cases e:c=k
  . subst e;omega
  . exact h c (by omega)
theorem P4 (p n:Nat)(T:Nat->Nat->Nat->Nat)(f v:Nat->Nat)(w:World)(hp:0<p)(hf:∀ i,f i<=255)(hv:∀ i,v i<=255) :
    CallsR Try.prog 82 #[.agg (AY (p:Int) (n:Int) T f),.agg (Af v)] w (fun res _=>res = .int .i64 ((sumTo (fun i=>v i*f i) 6%p:Nat):Int)):=by
  refine AQ [.agg (AY (p:Int) (n:Int) T f),.agg (Af v)] Try.func82 rfl Try.ntmps82 rfl fun a O=>?_;have J:AR w w [none,none] []:=MemX.start w 2;change Fr 28 a [(0,.agg (AY (p:Int) (n:Int) T f)),(1,.agg (Af v))] at O;refine sr<|Aj O (Aw 0 J O rfl) rfl ?_;rintro _ w' a ⟨b1,rfl,J,-⟩ O;refine Aj O (Aw 1 J O rfl) rfl ?_;rintro _ w' a ⟨b2,rfl,J,-⟩ O;change AR _ _ [some (b1,AY (p:Int) (n:Int) T f),some (b2,Af v)] [] at J;refine ag O rfl rfl fun a O=>ns<|ag O rfl rfl fun a O=>nt<|sq<|sr<|st O (AF Bc O rfl (J.row 1 rfl) (by simp only [AT]<;>omega) (whole (by simp only [AT]))) rfl fun a O=>mv O rfl rfl fun a O=>nt<|wp_block ?_;change AR _ _ [_,_] [] at J;refine Ag (fun (kk:Nat) a w'=>kk<=6/\(True)/\Fr 28 a [(2,ptr b1 (0)),(4,.int .i64 (0)),(8,.agg (Af v)),(5,.int .i64 ((sumTo (fun i=>v i*f i) kk:Int))),(9,.int .i64 (kk:Int))]/\AR w w' [some (b1,AY (p:Int) (n:Int) T f),some (b2,Af v)] []) (fun kk=>6 - kk) 0 ?_ ?_
  . refine ⟨by omega,trivial,O.sub _ (by repeat' constructor),?_⟩
    exact J
  clear O J;rintro gk a w' ⟨hgk,hH,O,J⟩;have hvi:=hv gk;have hfi:=hf gk;have hvv:=KP (hv gk) (hf gk);have hvf:=KP (hf gk) (hv gk);have hsb:=sumTo_le (m:=gk) (c:=65025) fun i (_:i<gk)=>KP (hv i) (hf i);refine sr<|st O (Ak O rfl rfl) rfl fun a O=>nt<|sq<|AI O rfl (fun h3=>?_) (fun h3=>?_)
  . refine wp_skip ?_
    refine tN<|sq<|wp_block<|sr<|mv O rfl rfl fun a O=>st O (GM F9 Ah O rfl rfl rfl (by omega) (C7 (gk) (by omega) (by omega))) rfl fun a O=>ag O rfl rfl fun a O=>ag O rfl rfl fun a O=>nt<|wp_region_lit<|mv O rfl rfl fun a O=>mv O rfl rfl fun a O=>st O (BO Ba Bf O rfl (wrap_i64 (by omega) (by omega))) rfl fun a O=>mv O rfl rfl fun a O=>st O (AC Em O rfl) rfl fun a O=>st O (AH DO O rfl rfl rfl (by omega)) rfl fun a O=>st O (AM Ah O rfl (J.row 0 rfl) (G9 (gk) (by omega) (by omega))) rfl fun a O=>st O (BO Ba Bf O rfl (wrap_i64 (by omega) (by omega))) rfl fun a O=>st O (Cp O rfl rfl (CE (v gk) (f gk) (by omega))) rfl fun a O=>st O (Ac O rfl rfl (show _=(sumTo (fun i=>v i*f i) (gk+1):Int) from (LG (by omega) rfl))) rfl fun a O=>ag O rfl rfl fun a O=>wpList_nil<|iN<|tN<|wp_region_lit<|st O (Ac O rfl rfl (AN (gk) (1) (by omega))) rfl fun a O=>mv O rfl rfl fun a O=>nt<|⟨gk+1,⟨by omega,trivial,O.sub _ (by repeat' constructor),?_⟩,by omega⟩;exact J
  obtain rfl:6=gk:=by omega
  refine wp_exit<|tX<|tX<|AW<|tN<|sr<|mv O rfl rfl fun a O=>st O (AC Ca O rfl) rfl fun a O=>st O (AM AL O rfl (J.row 0 rfl) (DV (by omega))) rfl fun a O=>st O (CI O rfl rfl (by omega) (B6 (sumTo (fun i=>v i*f i) 6) (p))) rfl fun a O=>ag O rfl rfl fun a O=>nt<|wp_ret<|Ap rfl O.defers (AE O rfl) ⟨_,rfl,J.below,?_⟩
  show _=_
  rfl
theorem Ee (x p:Nat)(w:World)(hp:0<p)(hO:p<100)(hx:x<=255) :
    CallsR Try.prog 33 #[.int .u8 (x:Int),.int .i64 (p:Int)] w (fun res _=>res = .int .i64 (invN x p:Int)):=by
  refine AQ [.int .u8 (x:Int),.int .i64 (p:Int)] Try.func33 rfl Try.ntmps33 rfl fun a O=>?_;have J:AR w w [] []:=MemX.start w 0;change Fr 19 a [(0,.int .u8 (x:Int)),(1,.int .i64 (p:Int))] at O;refine sr<|ag O rfl rfl fun a O=>nt<|sq<|sr<|mv O rfl rfl fun a O=>mv O rfl rfl fun a O=>nt<|wp_block ?_;change AR w _ [] [] at J;refine Ag (fun (kk:Nat) a w'=>kk<=p/\(∀ c,c<kk->¬ c*x%p=1)/\Fr 19 a [(0,.int .u8 (x:Int)),(1,.int .i64 (p:Int)),(6,.int .i64 (p:Int)),(7,.int .i64 (kk:Int))]/\AR w w' [] []) (fun kk=>p - kk) 0 ?_ ?_
  . refine ⟨by omega,fun c hc=>absurd hc (by omega),O.sub _ (by repeat' constructor),?_⟩
    exact J
  clear O J;rintro gk a w' ⟨hgk,hH,O,J⟩;have hkx:gk*x<=100*255:=Nat.mul_le_mul (by omega) hx;refine sr<|st O (Ak O rfl rfl) rfl fun a O=>nt<|sq<|AI O rfl (fun h1=>?_) (fun h1=>?_)
  . refine wp_skip ?_
    refine tN<|sq<|wp_block<|sr<|mv O rfl rfl fun a O=>ag O rfl rfl fun a O=>ns<|mv O rfl rfl fun a O=>mv O rfl rfl fun a O=>st O (BO Ba Bf O rfl (wrap_i64 (by omega) (by omega))) rfl fun a O=>st O (Cp O rfl rfl (CE gk x (by omega))) rfl fun a O=>mv O rfl rfl fun a O=>Aj O (AO Try.call31 O (.cons rfl (.cons rfl .nil)) (E9 ((gk)*(x)) (p) _ (by omega) (by omega) (by omega))) rfl ?_;rintro _ w' a ⟨hx,rfl⟩ O;have J:=J.ext hx;refine st O (Ao O rfl rfl) rfl fun a O=>nt<|AI O rfl (fun h2=>?_) (fun h2=>?_)
    . refine sq ?_
      refine wp_region_lit<|mv O rfl rfl fun a O=>ag O rfl rfl fun a O=>nt<|wp_ret<|iR<|tR<|tR<|iR<|tR<|Ap rfl O.defers (AE O rfl) ⟨_,rfl,J.below,?_⟩
      show _=_
      exact congrArg (fun y:Nat=>Value.int .i64 (y:Int)) (JK (by omega) hH (by omega)).symm
    refine wp_skip<|iN<|tN<|wp_region_lit<|st O (Ac O rfl rfl (AN (gk) (1) (by omega))) rfl fun a O=>mv O rfl rfl fun a O=>nt<|⟨gk+1,⟨by omega,noS hH (by assumption),O.sub _ (by repeat' constructor),?_⟩,by omega⟩;exact J
  obtain rfl:p=gk:=by omega
  refine wp_exit<|tX<|tX<|AW<|tN<|sr<|ag O rfl rfl fun a O=>nt<|wp_ret<|Ap rfl O.defers (AE O rfl) ⟨_,rfl,J.below,?_⟩
  show _=_
  exact congrArg (fun y:Nat=>Value.int .i64 (y:Int)) (JL hH).symm
theorem NV (x:Int)(p:Nat)(w:World)(hp:0<p)(hO:p<100)(hx:-1000000000<x)(hx2:x<1000000000) :
    CallsR Try.prog 53 #[.int .i64 (p:Int),.int .i64 (x)] w (fun res _=>res = .int .i64 (x%(p:Int))):=by
  refine AQ [.int .i64 (p:Int),.int .i64 (x)] Try.func53 rfl Try.ntmps53 rfl fun a O=>?_;have J:AR w w [] []:=MemX.start w 0;change Fr 12 a [(0,.int .i64 (p:Int)),(1,.int .i64 (x))] at O;have h1:=JY x p hp;have h2:=Ml x p hp;refine sr<|ag O rfl rfl fun a O=>ns<|mv O rfl rfl fun a O=>mv O rfl rfl fun a O=>st O (CI O rfl rfl (by omega) rfl) rfl fun a O=>mv O rfl rfl fun a O=>st O (Ac O rfl rfl (wrap_i64 (by omega) (by omega))) rfl fun a O=>mv O rfl rfl fun a O=>st O (CI O rfl rfl (by omega) (Kh x p hp)) rfl fun a O=>ag O rfl rfl fun a O=>nt<|wp_ret<|Ap rfl O.defers (AE O rfl) ⟨_,rfl,J.below,?_⟩
  show _=_
  rfl
theorem Ly (x p:Nat)(w:World)(hp:0<p)(hO:p<100)(hx:x<1000000000):CallsR Try.prog 53 #[.int .i64 (p:Int),.int .i64 (x:Int)] w (fun res _=>res = .int .i64 ((x%p:Nat):Int)):=NV x p w hp hO (by omega) (by omega)
theorem Il (x p:Nat)(w:World)(hp:0<p)(hO:p<100)(hx:x<p) :
    CallsR Try.prog 36 #[.int .i64 (p:Int),.int .i64 (x:Int)] w (fun res _=>res = .int .i64 (invN x p:Int)):=by
  refine AQ [.int .i64 (p:Int),.int .i64 (x:Int)] Try.func36 rfl Try.ntmps36 rfl fun a O=>?_;have J:AR w w [] []:=MemX.start w 0;change Fr 20 a [(0,.int .i64 (p:Int)),(1,.int .i64 (x:Int))] at O;refine sr<|ag O rfl rfl fun a O=>nt<|sq<|sr<|ag O rfl rfl fun a O=>nt<|wp_block ?_;change AR w _ [] [] at J;refine Ag (fun (kk:Nat) a w'=>kk<=p/\(∀ c,c<kk->¬ c*x%p=1)/\Fr 20 a [(0,.int .i64 (p:Int)),(1,.int .i64 (x:Int)),(5,.int .i64 (kk:Int))]/\AR w w' [] []) (fun kk=>p - kk) 1 ?_ ?_
  . refine ⟨by omega,fun c hc=>by rw [show c=0 by omega,Nat.zero_mul,Nat.zero_mod];decide,O.sub _ (by repeat' constructor),?_⟩
    exact J
  clear O J;rintro gk a w' ⟨hgk,hH,O,J⟩;have hkx:gk*x<=100*100:=Nat.mul_le_mul (by omega) (by omega);have hxm:x%p=x:=Nat.mod_eq_of_lt hx;refine sq<|sr<|mv O rfl rfl fun a O=>mv O rfl rfl fun a O=>st O (Ak O rfl rfl) rfl fun a O=>nt<|AI O rfl (fun h1=>?_) (fun h1=>?_)
  . refine wp_skip ?_
    refine tN<|sq<|wp_block<|sr<|mv O rfl rfl fun a O=>mv O rfl rfl fun a O=>mv O rfl rfl fun a O=>Aj O (AO Try.call53 O (.cons rfl (.cons rfl .nil)) (Ly (x) (p) _ (by omega) (by omega) (by omega))) rfl ?_;rintro _ w' a ⟨hx,rfl⟩ O;have J:=J.ext hx;refine st O (Cp O rfl rfl (show _=((gk*x:Nat):Int) from (by rw [hxm];exact CE gk x (by omega)))) rfl fun a O=>mv O rfl rfl fun a O=>st O (CI O rfl rfl (by omega) (B6 (gk*x) (p))) rfl fun a O=>st O (Ao O rfl rfl) rfl fun a O=>nt<|AI O rfl (fun h2=>?_) (fun h2=>?_)
    . refine sq ?_
      refine wp_region_lit<|mv O rfl rfl fun a O=>ag O rfl rfl fun a O=>nt<|wp_ret<|iR<|tR<|tR<|iR<|tR<|Ap rfl O.defers (AE O rfl) ⟨_,rfl,J.below,?_⟩
      show _=_
      exact congrArg (fun y:Nat=>Value.int .i64 (y:Int)) (JK (by omega) hH (by omega)).symm
    refine wp_skip<|iN<|tN<|wp_region_lit<|mv O rfl rfl fun a O=>st O (Ac O rfl rfl (AN (gk) (1) (by omega))) rfl fun a O=>ag O rfl rfl fun a O=>nt<|⟨gk+1,⟨by omega,noS hH (by assumption),O.sub _ (by repeat' constructor),?_⟩,by omega⟩;exact J
  obtain rfl:p=gk:=by omega
  refine wp_exit<|tX<|tX<|AW<|tN<|sr<|ag O rfl rfl fun a O=>nt<|wp_ret<|Ap rfl O.defers (AE O rfl) ⟨_,rfl,J.below,?_⟩
  show _=_
  exact congrArg (fun y:Nat=>Value.int .i64 (y:Int)) (JL hH).symm
def Kp (p n:Int) (T:Nat->Nat->Nat->Nat) (i j:Nat):Prop:=¬ ((¬ ((i:Int)<n/\(j:Int)<n)/\¬ LP 6 (T i j) (fun _=>0))\/¬ okV p n (T i j))
instance (p n:Int) (T:Nat->Nat->Nat->Nat) (i j:Nat):Decidable (Kp p n T i j):=by unfold Kp;infer_instance
def KA (m:Nat) (q:Nat->Nat->Prop):Prop:=∀ i,i<m->∀ j,j<m->q i j
instance (m:Nat) (q:Nat->Nat->Prop) [∀ i j,Decidable (q i j)]:Decidable (KA m q):=by unfold KA;exact Nat.decidableBallLT m _
theorem FT {m:Nat}{q:Nat->Nat->Prop}(i j:Nat)(hi:i<m)(hj:j<m)(h:¬ q i j):¬ KA m q:=fun ha=>h (ha i hi j hj)
theorem CO {q:Nat->Prop}{k:Nat}(h:∀ i,i<k->q i)(hk:q k):∀ i,i<k+1->q i:=fun i hi=>by
  by_cases e:i=k
  . subst e;exact hk
  . exact h i (by omega)
def NK (p n:Int) (T:Nat->Nat->Nat->Nat) (i j:Nat):Prop:=okV p (if (i:Int)≥n\/(j:Int)≥n then 0 else n) (T i j)
instance (p n:Int) (T:Nat->Nat->Nat->Nat) (i j:Nat):Decidable (NK p n T i j):=by unfold NK;infer_instance
def D7 (p n:Int) (T:Nat->Nat->Nat->Nat) (f:Nat->Nat):Prop:=Ae p/\(1<=n/\n<=6)/\okV p n f/\KA 6 (NK p n T)
instance (p n:Int) (T:Nat->Nat->Nat->Nat) (f:Nat->Nat):Decidable (D7 p n T f):=by unfold D7;infer_instance
theorem Ha (p n:Int)(T:Nat->Nat->Nat->Nat)(f:Nat->Nat)(w:World)(hT:∀ i j k,T i j k<=255)(hf:∀ i,f i<=255) :
    CallsR Try.prog 59 #[.agg (AY p n T f)] w (fun res _=>res = .bool (decide (KA 6 (Kp p n T)))):=by
  refine AQ [.agg (AY p n T f)] Try.func59 rfl Try.ntmps59 rfl fun a O=>?_;have J:AR w w [none,none,none] []:=MemX.start w 3;change Fr 44 a [(0,.agg (AY p n T f))] at O;refine sr<|Aj O (Aw 0 J O rfl) rfl ?_;rintro _ w' a ⟨b1,rfl,J,-⟩ O;change AR _ _ [some (b1,AY p n T f),_,_] [] at J;refine ag O rfl rfl fun a O=>nt<|sq<|sr<|st O (AC CH O rfl) rfl fun a O=>st O (AF Kf O rfl (J.row 0 rfl) (by simp only [AT]<;>omega) (LD (by omega) (by omega))) rfl fun a O=>mv O rfl rfl fun a O=>nt<|wp_block ?_;change AR _ _ [_,_,_] [] at J;refine Ag (fun (kk:Nat) a w'=>kk<=6/\(∀ i,i<kk->∀ j,j<6->Kp p n T i j)/\Fr 44 a [(1,ptr b1 (0)),(9,.agg (Gl T)),(10,.int .i64 (kk:Int))]/\AR w w' [some (b1,AY p n T f),none,none] []) (fun kk=>6 - kk) 0 ?_ ?_
  . refine ⟨by omega,fun i hi=>absurd hi (by omega),O.sub _ (by repeat' constructor),?_⟩
    exact J
  clear O J;rintro gi a w' ⟨hgi,hH,O,J⟩;refine sr<|st O (Ak O rfl rfl) rfl fun a O=>nt<|sq<|AI O rfl (fun h2=>?_) (fun h2=>?_)
  . refine wp_skip ?_
    refine tN<|sq<|wp_block<|sr<|mv O rfl rfl fun a O=>st O (IS Nt D6 O rfl rfl rfl (by omega) (Ft (gi) (by omega) (by omega) (by omega))) rfl fun a O=>Aj O (Ax 1 J Nr) rfl ?_;rintro _ w' a ⟨b3,rfl,J,-⟩ O;change AR _ _ [_,some (b3,BH 36 (fun _=>.int .u8 (0))),_] [] at J;refine ag O rfl rfl fun a O=>Bu O (AX 1 J rfl Nu O rfl rfl (by first | exact Bp | exact cells_one | (refine Dj fun _ _=>?_;first | rfl | (split<;>rfl))) (by simp only [AT]) (by simp only [AT]<;>omega) (AP _ _ (by simp only [AT]))) ?_;intro _ w' a J O;change AR _ _ [_,some (b3,Cv (T (gi))),_] [] at J;refine ns<|st O (AF D6 O rfl (J.row 1 rfl) (by simp only [AT]<;>omega) (whole (by simp only [AT]))) rfl fun a O=>mv O rfl rfl fun a O=>nt<|wp_block ?_;change AR _ _ [_,_,_] [] at J;refine Ag (fun (kk:Nat) a w'=>kk<=6/\(∀ j,j<kk->Kp p n T gi j)/\Fr 44 a [(1,ptr b1 (0)),(9,.agg (Gl T)),(10,.int .i64 (gi:Int)),(11,.bool (decide (((gi:Int):Int)<6))),(12,.int .i64 (gi:Int)),(13,.agg (Cv (T (gi)))),(4,ptr b3 (0)),(3,.int .i64 (gi:Int)),(14,.agg (Cv (T (gi)))),(15,.int .i64 (kk:Int))]/\AR w w' [some (b1,AY p n T f),some (b3,Cv (T (gi))),none] []) (fun kk=>6 - kk) 0 ?_ ?_
    . refine ⟨by omega,fun i hi=>absurd hi (by omega),O.sub _ (by repeat' constructor),?_⟩
      exact J
    clear O J;rintro gj a w' ⟨hgj,hJ,O,J⟩;refine sr<|st O (Ak O rfl rfl) rfl fun a O=>nt<|sq<|AI O rfl (fun h4=>?_) (fun h4=>?_)
    . refine wp_skip ?_
      refine tN<|sq<|wp_block<|sr<|mv O rfl rfl fun a O=>st O (IS KV B9 O rfl rfl rfl (by omega) (DY (gj) (by omega) (by omega) (by omega))) rfl fun a O=>Aj O (Ax 2 J KT) rfl ?_;rintro _ w' a ⟨b5,rfl,J,-⟩ O;change AR _ _ [_,_,some (b5,BH 6 (fun _=>.int .u8 (0)))] [] at J;refine ag O rfl rfl fun a O=>Bu O (AX 2 J rfl Hx O rfl rfl Bp (by simp only [AT]) (by simp only [AT]<;>omega) (AP _ _ (by simp only [AT]))) ?_;intro _ w' a J O;change AR _ _ [_,_,some (b5,Af ((T (gi)) (gj)))] [] at J;refine ns<|mv O rfl rfl fun a O=>st O (AC BG O rfl) rfl fun a O=>st O (AM AL O rfl (J.row 0 rfl) (Bn (by omega))) rfl fun a O=>st O (Ak O rfl rfl) rfl fun a O=>mv O rfl rfl fun a O=>?_
      by_cases g6:((gi:Int):Int)<n
      . first | rw [decide_eq_true g6] at O | simp only [decide_eq_true g6] at O
        refine Ay O rfl rfl rfl (AS O rfl) rfl fun a O=>Ay O rfl rfl rfl (AC BG O rfl) rfl fun a O=>Ay O rfl rfl rfl (AM AL O rfl (J.row 0 rfl) (Bn (by omega))) rfl fun a O=>Ay O rfl rfl rfl (Ak O rfl rfl) rfl fun a O=>st O (Aa O rfl rfl) rfl fun a O=>ag O rfl rfl fun a O=>ns<|mv O rfl rfl fun a O=>st O (CP O rfl) rfl fun a O=>mv O rfl rfl fun a O=>?_
        by_cases g7:¬ (((gj:Int):Int)<n)
        . first | rw [decide_eq_true g7] at O | simp only [decide_eq_true g7] at O
          refine Ay O rfl rfl rfl (AF B9 O rfl (J.row 2 rfl) (by simp only [AT]<;>omega) (whole (by simp only [AT]))) rfl fun a O=>Ay O rfl rfl rfl (CC H2) rfl fun a O=>Ay O rfl rfl rfl (Jz KZ O rfl rfl (Eh EW EK Ah)) rfl fun a O=>st O (Aa O rfl rfl) rfl fun a O=>mv O rfl rfl fun a O=>?_
          by_cases g8:¬ (LP 6 (((T (gi)) (gj))) ((fun _=>0)))
          . first | rw [decide_eq_true g8] at O | simp only [decide_eq_true g8] at O
            refine A4 O rfl rfl rfl rfl rfl fun a O=>A4 O rfl rfl rfl rfl rfl fun a O=>A4 O rfl rfl rfl rfl rfl fun a O=>A4 O rfl rfl rfl rfl rfl fun a O=>st O (Aa O rfl rfl) rfl fun a O=>nt<|Hk O rfl<|sr<|ag O rfl rfl fun a O=>nt<|wp_ret<|iR<|tR<|tR<|iR<|iR<|tR<|tR<|iR<|tR<|Ap rfl O.defers (AE O rfl) ⟨_,rfl,J.below,?_⟩
            show _=_
            exact BP (FT gi gj (by omega) (by omega) (by unfold Kp;intro hq;apply hq;first | (right;assumption) | (left;exact ⟨by omega,by assumption⟩)))
          first | rw [decide_eq_false g8] at O | simp only [decide_eq_false g8] at O
          refine Ay O rfl rfl rfl (AF A3 O rfl (J.row 0 rfl) (by simp only [AT]<;>omega) (whole Aq)) rfl fun a O=>Ay O rfl rfl rfl (AF B9 O rfl (J.row 2 rfl) (by simp only [AT]<;>omega) (whole (by simp only [AT]))) rfl fun a O=>EX O rfl rfl rfl (AO Try.call58 O (.cons rfl (.cons rfl .nil)) (Dp p n T f (((T (gi)) (gj))) _ (fun _=>by first | exact hv _ | exact hu _ | exact hT _ _ _ | exact hf _ | omega | (split<;>omega) | (dsimp only;split<;>omega) | assumption))) rfl ?_;rintro _ w' a ⟨hx,rfl⟩ O;have J:=J.ext hx;refine Ay O rfl rfl rfl (CP O rfl) rfl fun a O=>st O (Ai O rfl rfl) rfl fun a O=>nt<|AI O rfl (fun h10=>?_) (fun h10=>?_)
          . refine sq ?_
            refine wp_region_lit<|ag O rfl rfl fun a O=>nt<|wp_ret<|iR<|tR<|tR<|iR<|iR<|tR<|tR<|iR<|tR<|Ap rfl O.defers (AE O rfl) ⟨_,rfl,J.below,?_⟩
            show _=_
            exact BP (FT gi gj (by omega) (by omega) (by unfold Kp;intro hq;apply hq;first | (right;assumption) | (left;exact ⟨by omega,by assumption⟩)))
          refine wp_skip<|iN<|tN<|wp_region_lit<|st O (Ac O rfl rfl (AN (gj) (1) (by omega))) rfl fun a O=>mv O rfl rfl fun a O=>wpList_nil<|tN ?_;have J:=J.drop 2;refine ⟨gj+1,⟨by omega,CO hJ (by unfold Kp;simp_all),O.sub _ (by repeat' constructor),?_⟩,by omega⟩;exact J
        first | rw [decide_eq_false g7] at O | simp only [decide_eq_false g7] at O
        refine A4 O rfl rfl rfl rfl rfl fun a O=>A4 O rfl rfl rfl rfl rfl fun a O=>A4 O rfl rfl rfl rfl rfl fun a O=>st O (Ai O rfl rfl) rfl fun a O=>mv O rfl rfl fun a O=>Ay O rfl rfl rfl (AF A3 O rfl (J.row 0 rfl) (by simp only [AT]<;>omega) (whole Aq)) rfl fun a O=>Ay O rfl rfl rfl (AF B9 O rfl (J.row 2 rfl) (by simp only [AT]<;>omega) (whole (by simp only [AT]))) rfl fun a O=>EX O rfl rfl rfl (AO Try.call58 O (.cons rfl (.cons rfl .nil)) (Dp p n T f (((T (gi)) (gj))) _ (fun _=>by first | exact hv _ | exact hu _ | exact hT _ _ _ | exact hf _ | omega | (split<;>omega) | (dsimp only;split<;>omega) | assumption))) rfl ?_;rintro _ w' a ⟨hx,rfl⟩ O;have J:=J.ext hx;refine Ay O rfl rfl rfl (CP O rfl) rfl fun a O=>st O (Ai O rfl rfl) rfl fun a O=>nt<|AI O rfl (fun h11=>?_) (fun h11=>?_)
        . refine sq ?_
          refine wp_region_lit<|ag O rfl rfl fun a O=>nt<|wp_ret<|iR<|tR<|tR<|iR<|iR<|tR<|tR<|iR<|tR<|Ap rfl O.defers (AE O rfl) ⟨_,rfl,J.below,?_⟩
          show _=_
          exact BP (FT gi gj (by omega) (by omega) (by unfold Kp;intro hq;apply hq;first | (right;assumption) | (left;exact ⟨by omega,by assumption⟩)))
        refine wp_skip<|iN<|tN<|wp_region_lit<|st O (Ac O rfl rfl (AN (gj) (1) (by omega))) rfl fun a O=>mv O rfl rfl fun a O=>wpList_nil<|tN ?_;have J:=J.drop 2;refine ⟨gj+1,⟨by omega,CO hJ (by unfold Kp;simp_all),O.sub _ (by repeat' constructor),?_⟩,by omega⟩;exact J
      first | rw [decide_eq_false g6] at O | simp only [decide_eq_false g6] at O
      refine A4 O rfl rfl rfl rfl rfl fun a O=>A4 O rfl rfl rfl rfl rfl fun a O=>A4 O rfl rfl rfl rfl rfl fun a O=>A4 O rfl rfl rfl rfl rfl fun a O=>st O (Ai O rfl rfl) rfl fun a O=>ag O rfl rfl fun a O=>ns<|mv O rfl rfl fun a O=>st O (Co (b:=false) O rfl) rfl fun a O=>mv O rfl rfl fun a O=>Ay O rfl rfl rfl (AF B9 O rfl (J.row 2 rfl) (by simp only [AT]<;>omega) (whole (by simp only [AT]))) rfl fun a O=>Ay O rfl rfl rfl (CC H2) rfl fun a O=>Ay O rfl rfl rfl (Jz KZ O rfl rfl (Eh EW EK Ah)) rfl fun a O=>st O (Aa O rfl rfl) rfl fun a O=>mv O rfl rfl fun a O=>?_
      by_cases g12:¬ (LP 6 (((T (gi)) (gj))) ((fun _=>0)))
      . first | rw [decide_eq_true g12] at O | simp only [decide_eq_true g12] at O
        refine A4 O rfl rfl rfl rfl rfl fun a O=>A4 O rfl rfl rfl rfl rfl fun a O=>A4 O rfl rfl rfl rfl rfl fun a O=>A4 O rfl rfl rfl rfl rfl fun a O=>st O (Aa O rfl rfl) rfl fun a O=>nt<|Hk O rfl<|sr<|ag O rfl rfl fun a O=>nt<|wp_ret<|iR<|tR<|tR<|iR<|iR<|tR<|tR<|iR<|tR<|Ap rfl O.defers (AE O rfl) ⟨_,rfl,J.below,?_⟩
        show _=_
        exact BP (FT gi gj (by omega) (by omega) (by unfold Kp;intro hq;apply hq;first | (right;assumption) | (left;exact ⟨by omega,by assumption⟩)))
      first | rw [decide_eq_false g12] at O | simp only [decide_eq_false g12] at O
      refine Ay O rfl rfl rfl (AF A3 O rfl (J.row 0 rfl) (by simp only [AT]<;>omega) (whole Aq)) rfl fun a O=>Ay O rfl rfl rfl (AF B9 O rfl (J.row 2 rfl) (by simp only [AT]<;>omega) (whole (by simp only [AT]))) rfl fun a O=>EX O rfl rfl rfl (AO Try.call58 O (.cons rfl (.cons rfl .nil)) (Dp p n T f (((T (gi)) (gj))) _ (fun _=>by first | exact hv _ | exact hu _ | exact hT _ _ _ | exact hf _ | omega | (split<;>omega) | (dsimp only;split<;>omega) | assumption))) rfl ?_;rintro _ w' a ⟨hx,rfl⟩ O;have J:=J.ext hx;refine Ay O rfl rfl rfl (CP O rfl) rfl fun a O=>st O (Ai O rfl rfl) rfl fun a O=>nt<|AI O rfl (fun h14=>?_) (fun h14=>?_)
      . refine sq ?_
        refine wp_region_lit<|ag O rfl rfl fun a O=>nt<|wp_ret<|iR<|tR<|tR<|iR<|iR<|tR<|tR<|iR<|tR<|Ap rfl O.defers (AE O rfl) ⟨_,rfl,J.below,?_⟩
        show _=_
        exact BP (FT gi gj (by omega) (by omega) (by unfold Kp;intro hq;apply hq;first | (right;assumption) | (left;exact ⟨by omega,by assumption⟩)))
      refine wp_skip<|iN<|tN<|wp_region_lit<|st O (Ac O rfl rfl (AN (gj) (1) (by omega))) rfl fun a O=>mv O rfl rfl fun a O=>wpList_nil<|tN ?_;have J:=J.drop 2;refine ⟨gj+1,⟨by omega,CO hJ (by unfold Kp;simp_all),O.sub _ (by repeat' constructor),?_⟩,by omega⟩;exact J
    obtain rfl:6=gj:=by omega
    refine wp_exit<|tX<|tX<|AW<|iN<|tN<|wp_region_lit<|st O (Ac O rfl rfl (AN (gi) (1) (by omega))) rfl fun a O=>mv O rfl rfl fun a O=>wpList_nil<|tN ?_;have J:=J.drop 1;refine ⟨gi+1,⟨by omega,CO hH hJ,O.sub _ (by repeat' constructor),?_⟩,by omega⟩;exact J
  obtain rfl:6=gi:=by omega
  refine wp_exit<|tX<|tX<|AW<|tN<|sr<|ag O rfl rfl fun a O=>nt<|wp_ret<|Ap rfl O.defers (AE O rfl) ⟨_,rfl,J.below,?_⟩
  show _=_
  exact Ds hH
def e1 (i:Nat):Nat->Nat:=fun c=>if c=i then 1 else 0
def Q8 (p n:Nat) (T:Nat->Nat->Nat->Nat) (i j k:Nat):Prop:=LP 6 (timesV p n T (T i j) (fun c=>if c=k then 1 else 0)) (timesV p n T (fun c=>if c=i then 1 else 0) (T j k))
instance (p n:Nat) (T:Nat->Nat->Nat->Nat) (i j k:Nat):Decidable (Q8 p n T i j k):=by unfold Q8;infer_instance
def Qd (p n:Nat) (T:Nat->Nat->Nat->Nat) (j:Nat):Prop:=∀ i,i<n->∀ k,k<n->Q8 p n T i j k
instance (p n:Nat) (T:Nat->Nat->Nat->Nat) (j:Nat):Decidable (Qd p n T j):=by unfold Qd;exact Nat.decidableBallLT n _
def cntA (p n:Nat) (T:Nat->Nat->Nat->Nat) (g:Nat):Nat:=sumTo (fun j=>if Qd p n T j then 1 else 0) g
theorem PE {p n g:Nat}{T:Nat->Nat->Nat->Nat}(h:Qd p n T g):cntA p n T g+1=cntA p n T (g+1):=by simp [cntA,sumTo,h]
theorem QD {p n g:Nat}{T:Nat->Nat->Nat->Nat}(i k:Nat)(hi:i<n)(hk:k<n)(h:¬ Q8 p n T i g k):cntA p n T g=cntA p n T (g+1):=by
  have:¬ Qd p n T g:=fun hq=>h (hq i hi k hk)
  simp [cntA,sumTo,this]
theorem Fu {q:Nat->Prop}[∀ j,Decidable (q j)]:∀ (m:Nat),sumTo (fun j=>if q j then 1 else 0) m<=m/\(sumTo (fun j=>if q j then 1 else 0) m=m↔∀ j,j<m->q j)
  | 0=>⟨Nat.le_refl _,by simp [sumTo]⟩
  | m + 1 => by
    have ih:=Fu (q:=q) m
    simp only [sumTo]
    by_cases h:q m
    . refine ⟨by simp [h];omega,⟨fun e j hj=>?_,fun ha=>?_⟩⟩
      . by_cases ej:j=m
        . subst ej;exact h
        . exact ih.2.1 (by simp [h] at e;omega) j (by omega)
      . have:=ih.2.2 (fun j hj=>ha j (by omega));simp [h];omega
    . refine ⟨by simp [h];omega,⟨fun e=>?_,fun ha=>absurd (ha m (by omega)) h⟩⟩
      simp [h] at e;omega
def RA (p n:Nat) (T:Nat->Nat->Nat->Nat):Prop:=∀ j,j<n->Qd p n T j
instance (p n:Nat) (T:Nat->Nat->Nat->Nat):Decidable (RA p n T):=Nat.decidableBallLT n _
theorem QE {p n g:Nat}{T:Nat->Nat->Nat->Nat}:cntA p n T g<=g:=(Fu g).1
theorem PF {p n:Nat}{T:Nat->Nat->Nat->Nat}:(cntA p n T n:Int)=(n:Int)↔RA p n T:=by
  have:=(Fu (q:=Qd p n T) n).2
  unfold cntA RA;rw [← this];omega
theorem Gu (p n:Nat)(T:Nat->Nat->Nat->Nat)(f:Nat->Nat)(w:World)(hp:0<p)(hO:p<100)(hn:n<=6)(hT:∀ i j k,T i j k<=255)(hf:∀ i,f i<=255) :
    CallsR Try.prog 60 #[.agg (AY (p:Int) (n:Int) T f)] w (fun res _=>res = .bool (decide (RA p n T))):=by
  refine AQ [.agg (AY (p:Int) (n:Int) T f)] Try.func60 rfl Try.ntmps60 rfl fun a O=>?_;have J:AR w w [none,none,none] []:=MemX.start w 3;change Fr 56 a [(0,.agg (AY (p:Int) (n:Int) T f))] at O;refine sr<|Aj O (Aw 0 J O rfl) rfl ?_;rintro _ w' a ⟨b1,rfl,J,-⟩ O;change AR _ _ [some (b1,AY (p:Int) (n:Int) T f),_,_] [] at J;refine ag O rfl rfl fun a O=>nt<|wp_scope_straight<|sr<|ag O rfl rfl fun a O=>nt<|sq<|wp_label<|tN<|sq<|sr<|st O (AC BG O rfl) rfl fun a O=>st O (AM AL O rfl (J.row 0 rfl) (Bn (by omega))) rfl fun a O=>mv O rfl rfl fun a O=>nt<|wp_block ?_;change AR _ _ [_,_,_] [] at J;refine Ag (fun (kk:Nat) a w'=>kk<=n/\(True)/\Fr 56 a [(1,ptr b1 (0)),(2,.bool (false)),(10,.int .i64 (n:Int)),(11,.int .i64 (kk:Int)),(3,.int .i64 ((cntA p n T kk:Int)))]/\AR w w' [some (b1,AY (p:Int) (n:Int) T f),none,none] []) (fun kk=>n - kk) 0 ?_ ?_
  . refine ⟨by omega,trivial,O.sub _ (by repeat' constructor),?_⟩
    exact J
  clear O J;rintro gj a w' ⟨hgj,hH,O,J⟩;have hca:=QE (p:=p) (n:=n) (g:=gj) (T:=T);refine sr<|st O (Ak O rfl rfl) rfl fun a O=>nt<|sq<|AI O rfl (fun h2=>?_) (fun h2=>?_)
  . refine wp_skip ?_
    refine tN<|sq<|wp_block<|sr<|mv O rfl rfl fun a O=>ag O rfl rfl fun a O=>nt<|sq<|sr<|st O (AC BG O rfl) rfl fun a O=>st O (AM AL O rfl (J.row 0 rfl) (Bn (by omega))) rfl fun a O=>mv O rfl rfl fun a O=>nt<|wp_block ?_;change AR w _ [some (b1,AY (p:Int) (n:Int) T f),none,none] [] at J;refine Ag (fun (kk:Nat) a w'=>kk<=n/\(∀ i,i<kk->∀ k,k<n->Q8 p n T i gj k)/\Fr 56 a [(1,ptr b1 (0)),(2,.bool (false)),(10,.int .i64 (n:Int)),(11,.int .i64 (gj:Int)),(3,.int .i64 ((cntA p n T gj:Int))),(12,.bool (decide (((gj:Int):Int)<(n:Int)))),(13,.int .i64 (gj:Int)),(4,.int .i64 (gj:Int)),(14,ptr b1 (0+1)),(15,.int .i64 (n:Int)),(16,.int .i64 (kk:Int))]/\AR w w' [some (b1,AY (p:Int) (n:Int) T f),none,none] []) (fun kk=>n - kk) 0 ?_ ?_
    . refine ⟨by omega,fun i hi=>absurd hi (by omega),O.sub _ (by repeat' constructor),?_⟩
      exact J
    clear O J;rintro gi a w' ⟨hgi,hJ,O,J⟩;refine sr<|st O (Ak O rfl rfl) rfl fun a O=>nt<|sq<|AI O rfl (fun h3=>?_) (fun h3=>?_)
    . refine wp_skip ?_
      refine tN<|sq<|wp_block<|sr<|mv O rfl rfl fun a O=>ag O rfl rfl fun a O=>ns<|st O (AC BG O rfl) rfl fun a O=>st O (AM AL O rfl (J.row 0 rfl) (Bn (by omega))) rfl fun a O=>mv O rfl rfl fun a O=>nt<|wp_block ?_;change AR w _ [some (b1,AY (p:Int) (n:Int) T f),none,none] [] at J;refine Ag (fun (kk:Nat) a w'=>kk<=n/\(∀ k,k<kk->Q8 p n T gi gj k)/\Fr 56 a [(1,ptr b1 (0)),(2,.bool (false)),(10,.int .i64 (n:Int)),(11,.int .i64 (gj:Int)),(3,.int .i64 ((cntA p n T gj:Int))),(12,.bool (decide (((gj:Int):Int)<(n:Int)))),(13,.int .i64 (gj:Int)),(4,.int .i64 (gj:Int)),(14,ptr b1 (0+1)),(15,.int .i64 (n:Int)),(16,.int .i64 (gi:Int)),(17,.bool (decide (((gi:Int):Int)<(n:Int)))),(18,.int .i64 (gi:Int)),(5,.int .i64 (gi:Int)),(19,ptr b1 (0+1)),(20,.int .i64 (n:Int)),(21,.int .i64 (kk:Int))]/\AR w w' [some (b1,AY (p:Int) (n:Int) T f),none,none] []) (fun kk=>n - kk) 0 ?_ ?_
      . refine ⟨by omega,fun i hi=>absurd hi (by omega),O.sub _ (by repeat' constructor),?_⟩
        exact J
      clear O J;rintro gk a w' ⟨hgk,hU,O,J⟩;refine sr<|st O (Ak O rfl rfl) rfl fun a O=>nt<|sq<|AI O rfl (fun h4=>?_) (fun h4=>?_)
      . refine wp_skip ?_
        refine tN<|sq<|wp_block<|sr<|mv O rfl rfl fun a O=>ag O rfl rfl fun a O=>nt<|sq<|Bt 11 [1] [.val (.agg (AY (p:Int) (n:Int) T f)),.val (.int .i64 (gi:Int)),.val (.int .i64 (gj:Int)),.val (ptr b1 (0+2)),.val (ptr b1 (0+2+(gi)*36)),.val (ptr b1 (0+2+(gi)*36+(gj)*6)),.val (.agg (Af (T (gi) (gj)))),.val (.int .i64 (gk:Int)),.val (.agg (Af (fun c=>if c=gk then 1 else 0))),.val (.agg (Af (timesV p n T ((T (gi) (gj))) ((fun c=>if c=gk then 1 else 0))))),.own 1 (BH 6 (fun _=>.int .u8 (0))) (fun b=>ptr b 0)] Bb rfl O rfl J ⟨fun a w gG O hS hd=>by have J:=hS.mem rfl;exact AD hS rfl (AF A3 O rfl (J.row 0 rfl) (by simp only [AT]<;>omega) (whole Aq)),fun a w gG O hS hd=>by exact BF hS rfl O rfl,fun a w gG O hS hd=>by exact BF hS rfl O rfl,fun a w gG O hS hd=>by exact AD hS rfl (AC CH O rfl),fun a w gG O hS hd=>by have O:=O.ext1 25 (hd 1 rfl rfl);have O:=O.ext1 27 (hd 3 rfl rfl);exact AD hS rfl (AH C8 O rfl rfl rfl (by omega)),fun a w gG O hS hd=>by have O:=O.ext1 26 (hd 2 rfl rfl);have O:=O.ext1 28 (hd 4 rfl rfl);exact AD hS rfl (AH Av O rfl rfl rfl (by omega)),fun a w gG O hS hd=>by have O:=O.ext1 29 (hd 5 rfl rfl);have J:=hS.mem rfl;exact AD hS rfl (AF B9 O rfl (J.row 0 rfl) (by simp only [AT]<;>omega) (GV (gi) (gj) (by omega) (by omega) (by omega) (by omega))),fun a w gG O hS hd=>by exact BF hS rfl O rfl,fun a w gG O hS hd=>by have O:=O.ext1 31 (hd 7 rfl rfl);exact BT (by repeat constructor) hS rfl (AO Try.call70 O (.cons rfl .nil) (CZ (gk) _ (by omega))),fun a w gG O hS hd=>by have O:=O.ext1 24 (hd 0 rfl rfl);have O:=O.ext1 30 (hd 6 rfl rfl);have O:=O.ext1 32 (hd 8 rfl rfl);exact BT (by repeat constructor) hS rfl (AO Try.call78 O (.cons rfl (.cons rfl (.cons rfl .nil))) (Eo p n T f ((T (gi) (gj))) ((fun c=>if c=gk then 1 else 0)) _ (by omega) (by omega) (by omega) (fun _ _ _=>hT _ _ _) (fun _=>by first | exact hv _ | exact hu _ | exact hT _ _ _ | exact hf _ | omega | (split<;>omega) | (dsimp only;split<;>omega) | assumption) (fun _=>by first | exact hv _ | exact hu _ | exact hT _ _ _ | exact hf _ | omega | (split<;>omega) | (dsimp only;split<;>omega) | assumption))),fun a w gG O hS hd=>by exact Ep (by repeat constructor) hS rfl rfl rfl rfl (Ax 1 hS.1 CU),trivial⟩ ?_;intro a w' L O hS hq;have O:=O.ext1 24 (hq 0 rfl rfl);have O:=O.ext1 25 (hq 1 rfl rfl);have O:=O.ext1 26 (hq 2 rfl rfl);have O:=O.ext1 27 (hq 3 rfl rfl);have O:=O.ext1 28 (hq 4 rfl rfl);have O:=O.ext1 29 (hq 5 rfl rfl);have O:=O.ext1 30 (hq 6 rfl rfl);have O:=O.ext1 31 (hq 7 rfl rfl);have O:=O.ext1 32 (hq 8 rfl rfl);have O:=O.ext1 33 (hq 9 rfl rfl);obtain ⟨J,hL⟩:=hS;obtain ⟨b5,hptr,hkk⟩:=hq 10 rfl rfl;have O:=O.ext1 7 hptr;have hL:=hL.take hkk;obtain rfl:=hL.eq;change AR w w' [some (b1,AY (p:Int) (n:Int) T f),some (b5,BH 6 (fun _=>.int .u8 (0))),none] [] at J;change wpList Try.prog _ _ [_] _ _;refine Bu O (AX 1 J rfl CV O rfl rfl Bp (by simp only [AT]) (by simp only [AT]<;>omega) (AP _ _ (by simp only [AT]))) ?_;intro _ w' a J O;change AR _ _ [_,some (b5,Af (timesV p n T ((T (gi) (gj))) ((fun c=>if c=gk then 1 else 0)))),_] [] at J;refine nt<|sq<|Bt 11 [2] [.val (.agg (AY (p:Int) (n:Int) T f)),.val (.int .i64 (gi:Int)),.val (.agg (Af (fun c=>if c=gi then 1 else 0))),.val (.int .i64 (gj:Int)),.val (.int .i64 (gk:Int)),.val (ptr b1 (0+2)),.val (ptr b1 (0+2+(gj)*36)),.val (ptr b1 (0+2+(gj)*36+(gk)*6)),.val (.agg (Af (T (gj) (gk)))),.val (.agg (Af (timesV p n T ((fun c=>if c=gi then 1 else 0)) ((T (gj) (gk)))))),.own 2 (BH 6 (fun _=>.int .u8 (0))) (fun b=>ptr b 0)] Bb rfl O rfl J ⟨fun a w gG O hS hd=>by have J:=hS.mem rfl;exact AD hS rfl (AF A3 O rfl (J.row 0 rfl) (by simp only [AT]<;>omega) (whole Aq)),fun a w gG O hS hd=>by exact BF hS rfl O rfl,fun a w gG O hS hd=>by have O:=O.ext1 35 (hd 1 rfl rfl);exact BT (by repeat constructor) hS rfl (AO Try.call70 O (.cons rfl .nil) (CZ (gi) _ (by omega))),fun a w gG O hS hd=>by exact BF hS rfl O rfl,fun a w gG O hS hd=>by exact BF hS rfl O rfl,fun a w gG O hS hd=>by exact AD hS rfl (AC CH O rfl),fun a w gG O hS hd=>by have O:=O.ext1 37 (hd 3 rfl rfl);have O:=O.ext1 39 (hd 5 rfl rfl);exact AD hS rfl (AH C8 O rfl rfl rfl (by omega)),fun a w gG O hS hd=>by have O:=O.ext1 38 (hd 4 rfl rfl);have O:=O.ext1 40 (hd 6 rfl rfl);exact AD hS rfl (AH Av O rfl rfl rfl (by omega)),fun a w gG O hS hd=>by have O:=O.ext1 41 (hd 7 rfl rfl);have J:=hS.mem rfl;exact AD hS rfl (AF B9 O rfl (J.row 0 rfl) (by simp only [AT]<;>omega) (GV (gj) (gk) (by omega) (by omega) (by omega) (by omega))),fun a w gG O hS hd=>by have O:=O.ext1 34 (hd 0 rfl rfl);have O:=O.ext1 36 (hd 2 rfl rfl);have O:=O.ext1 42 (hd 8 rfl rfl);exact BT (by repeat constructor) hS rfl (AO Try.call78 O (.cons rfl (.cons rfl (.cons rfl .nil))) (Eo p n T f ((fun c=>if c=gi then 1 else 0)) ((T (gj) (gk))) _ (by omega) (by omega) (by omega) (fun _ _ _=>hT _ _ _) (fun _=>by first | exact hv _ | exact hu _ | exact hT _ _ _ | exact hf _ | omega | (split<;>omega) | (dsimp only;split<;>omega) | assumption) (fun _=>by first | exact hv _ | exact hu _ | exact hT _ _ _ | exact hf _ | omega | (split<;>omega) | (dsimp only;split<;>omega) | assumption))),fun a w gG O hS hd=>by exact Ep (by repeat constructor) hS rfl rfl rfl rfl (Ax 2 hS.1 CU),trivial⟩ ?_
        intro a w' L O hS hq;have O:=O.ext1 34 (hq 0 rfl rfl);have O:=O.ext1 35 (hq 1 rfl rfl);have O:=O.ext1 36 (hq 2 rfl rfl);have O:=O.ext1 37 (hq 3 rfl rfl);have O:=O.ext1 38 (hq 4 rfl rfl);have O:=O.ext1 39 (hq 5 rfl rfl);have O:=O.ext1 40 (hq 6 rfl rfl);have O:=O.ext1 41 (hq 7 rfl rfl);have O:=O.ext1 42 (hq 8 rfl rfl);have O:=O.ext1 43 (hq 9 rfl rfl);obtain ⟨J,hL⟩:=hS;obtain ⟨b6,hptr,hkk⟩:=hq 10 rfl rfl;have O:=O.ext1 8 hptr;have hL:=hL.take hkk;obtain rfl:=hL.eq;change AR w w' [some (b1,AY (p:Int) (n:Int) T f),some (b5,Af (timesV p n T ((T (gi) (gj))) ((fun c=>if c=gk then 1 else 0)))),some (b6,BH 6 (fun _=>.int .u8 (0)))] [] at J;change wpList Try.prog _ _ [_] _ _;refine Bu O (AX 2 J rfl CV O rfl rfl Bp (by simp only [AT]) (by simp only [AT]<;>omega) (AP _ _ (by simp only [AT]))) ?_;intro _ w' a J O;change AR _ _ [_,_,some (b6,Af (timesV p n T ((fun c=>if c=gi then 1 else 0)) ((T (gj) (gk)))))] [] at J;refine ns<|st O (AF Bc O rfl (J.row 1 rfl) (by simp only [AT]<;>omega) (whole (by simp only [AT]))) rfl fun a O=>st O (AF Bc O rfl (J.row 2 rfl) (by simp only [AT]<;>omega) (whole (by simp only [AT]))) rfl fun a O=>st O (Jz N1 O rfl rfl (Eh Kg EK Ah)) rfl fun a O=>nt<|AI O rfl (fun h7=>?_) (fun h7=>?_)
        . refine wp_exit ?_
          refine FI rfl<|tX<|tX<|FI rfl<|FI rfl<|tX<|tX<|FI rfl<|tX<|AW<|tN<|wp_region_lit<|st O (Ac O rfl rfl (AN (gj) (1) (by omega))) rfl fun a O=>mv O rfl rfl fun a O=>wpList_nil<|tN ?_;have J:=J.drop 1;have J:=J.drop 2;have ea:=QD (p:=p) (n:=n) (g:=gj) (T:=T) gi gk (by omega) (by omega) (by assumption);rw [ea] at O;refine ⟨gj+1,⟨by omega,trivial,O.sub _ (by repeat' constructor),?_⟩,by omega⟩;exact J
        refine wp_skip<|iN<|tN<|wp_region_lit<|st O (Ac O rfl rfl (AN (gk) (1) (by omega))) rfl fun a O=>mv O rfl rfl fun a O=>wpList_nil<|tN ?_;have J:=J.drop 1;have J:=J.drop 2;refine ⟨gk+1,⟨by omega,CO hU (Decidable.not_not.1 (by assumption)),O.sub _ (by repeat' constructor),?_⟩,by omega⟩;exact J
      obtain rfl:n=gk:=by omega
      refine wp_exit<|tX<|tX<|AW<|iN<|tN<|wp_region_lit<|st O (Ac O rfl rfl (AN (gi) (1) (by omega))) rfl fun a O=>mv O rfl rfl fun a O=>nt<|⟨gi+1,⟨by omega,CO hJ hU,O.sub _ (by repeat' constructor),?_⟩,by omega⟩;exact J
    obtain rfl:n=gi:=by omega
    refine wp_exit<|tX<|tX<|AW<|tN<|wp_region_lit<|mv O rfl rfl fun a O=>st O (Ac O rfl rfl (show _=(cntA p n T (gj+1):Int) from (LG (x:=cntA p n T gj) (y:=1) (by omega) (PE hJ)))) rfl fun a O=>ag O rfl rfl fun a O=>wpList_nil<|iN<|tN<|wp_region_lit<|st O (Ac O rfl rfl (AN (gj) (1) (by omega))) rfl fun a O=>mv O rfl rfl fun a O=>nt<|⟨gj+1,⟨by omega,trivial,O.sub _ (by repeat' constructor),?_⟩,by omega⟩;exact J
  obtain rfl:n=gj:=by omega
  refine wp_exit<|tX<|tX<|AW<|tN<|sr<|mv O rfl rfl fun a O=>st O (AC BG O rfl) rfl fun a O=>st O (AM AL O rfl (J.row 0 rfl) (Bn (by omega))) rfl fun a O=>st O (Ao O rfl rfl) rfl fun a O=>ag O rfl rfl fun a O=>nt<|wp_ret<|sR<|Ap rfl O.defers (AE O rfl) ⟨_,rfl,J.below,?_⟩
  show _=_
  exact congrArg Value.bool (decide_eq_decide.2 PF)
theorem DD (b o c m:Nat)(cs:Array Value)(f:Nat->Nat)(w:World)(hb:Blk w b cs)(hg:∀ i,i<m->cs[o+i*1]? = some (.int .u8 ((f i:Int))))(hm:m<1000) :
    CallsR Try.prog 64 #[.slice (some ⟨b,o,none⟩) m c] w (fun res _=>res = .int .i64 (DR (fun i=>(f i:Int)) m:Int)):=by
  refine AQ [.slice (some ⟨b,o,none⟩) m c] Try.func64 rfl Try.ntmps64 rfl fun a O=>?_;have J:AR w w [] [(b,cs)]:=MemX.startD w 0 _ (Jc hb);change Fr 18 a [(0,.slice (some ⟨b,o,none⟩) m c)] at O;refine sr<|ag O rfl rfl fun a O=>nt<|sq<|sr<|mv O rfl rfl fun a O=>st O (BY Ch O rfl) rfl fun a O=>mv O rfl rfl fun a O=>nt<|wp_block ?_;change AR w _ [] [(b,cs)] at J;refine Ag (fun (kk:Nat) a w'=>kk<=m/\(∀ i,i<kk->f i=0)/\Fr 18 a [(0,.slice (some ⟨b,o,none⟩) m c),(5,.slice (some ⟨b,o,none⟩) m c),(6,.int .i64 (m:Int)),(7,.int .i64 (kk:Int))]/\AR w w' [] [(b,cs)]) (fun kk=>m - kk) 0 ?_ ?_
  . refine ⟨by omega,fun i hi=>absurd hi (by omega),O.sub _ (by repeat' constructor),?_⟩
    exact J
  clear O J;rintro gk a w' ⟨hgk,hH,O,J⟩;refine sr<|st O (Ak O rfl rfl) rfl fun a O=>nt<|sq<|AI O rfl (fun h1=>?_) (fun h1=>?_)
  . refine wp_skip ?_
    refine tN<|sq<|wp_block<|sr<|mv O rfl rfl fun a O=>st O (AJ (i:=gk) Bj O rfl rfl rfl (by omega)) rfl fun a O=>st O (AM Ah O rfl (J.fz 0 rfl) (hg (gk) (by omega))) rfl fun a O=>ag O rfl rfl fun a O=>ag O rfl rfl fun a O=>ns<|mv O rfl rfl fun a O=>st O (A0 O rfl rfl) rfl fun a O=>nt<|AI O rfl (fun h2=>?_) (fun h2=>?_)
    . refine sq ?_
      refine wp_region_lit<|mv O rfl rfl fun a O=>ag O rfl rfl fun a O=>nt<|wp_ret<|iR<|tR<|tR<|iR<|tR<|Ap rfl O.defers (AE O rfl) ⟨_,rfl,J.below,?_⟩
      show _=_
      rw [Fz (k:=gk) (by omega) (fun i hi=>by have:=hH i hi;omega) (by omega)]
    refine wp_skip<|iN<|tN<|wp_region_lit<|st O (Ac O rfl rfl (AN (gk) (1) (by omega))) rfl fun a O=>mv O rfl rfl fun a O=>nt<|⟨gk+1,⟨by omega,CO hH (by omega),O.sub _ (by repeat' constructor),?_⟩,by omega⟩;exact J
  obtain rfl:m=gk:=by omega
  refine wp_exit<|tX<|tX<|AW<|tN<|sr<|mv O rfl rfl fun a O=>st O (BY Ch O rfl) rfl fun a O=>ag O rfl rfl fun a O=>nt<|wp_ret<|Ap rfl O.defers (AE O rfl) ⟨_,rfl,J.below,?_⟩
  show _=_
  rw [H8 (fun i hi=>by have:=hH i hi;omega)]
def SM (p:Nat) (f h:Nat->Nat) (x i:Nat):Int:=((f i:Int) - (x:Int)*(h i:Int))%(p:Int)
theorem Sj {P:Program}{c:Code}{Q:Exit->Act->World->Prop}{n:Nat}{a:Act}{w:World}(h:c.wp P (Exit.then (Code.rounds P c Q n) Q) a w):Code.rounds P c Q (n+1) a w:=h
def addN (p:Nat) (f h:Nat->Nat) (x:Int) (i:Nat):Nat:=(((f i:Int)+x*(h i:Int))%(p:Int)).toNat
theorem LH {p:Nat}{f h:Nat->Nat}{x:Int}{i:Nat}(hp:0<p):(addN p f h x i:Int)=((f i:Int)+x*(h i:Int))%(p:Int):=
  Int.toNat_of_nonneg (Int.emod_nonneg _ (by omega))
theorem RI {x:Int}{y:Nat}(h1:-100<x)(h2:x<100)(hy:y<=255):-25500<=x*(y:Int)/\x*(y:Int)<=25500:=by
  have a1:=Int.mul_le_mul_of_nonneg_right (show x<=99 by omega) (Int.natCast_nonneg y);have a2:=Int.mul_le_mul_of_nonneg_right (show -99<=x by omega) (Int.natCast_nonneg y)
  omega
theorem getRow {m gk:Nat}{F G:Nat->Nat}(i:Nat)(hi:gk<=i/\i<m):(BH m (fun c=>.int .u8 ((if c<gk then G c else F c:Nat):Int)))[0+i*1]? = some (.int .u8 (F i:Int)):=
  CL i (by omega) hi.2 (by rw [if_neg (by omega)])
theorem Ip (p b c m:Nat)(f:Nat->Nat)(x:Int)(w:World)(hp:0<p)(hO:p<100)(hx:-100<x)(hx2:x<100)(hm:m<1000)(hf:∀ i,f i<=255)(hb:Blk w b (BH m (fun c=>.int .u8 (f c:Int)))) :
    CallsX Try.prog [b] 81 #[.slice (some ⟨b,0,none⟩) m c,.slice (some ⟨b,0,none⟩) m c,.int .i64 (x),.int .i64 (p:Int)] w (fun v w'=>v = .tuple #[]/\Blk w' b (BH m (fun c=>.int .u8 (addN p f f x c:Int)))):=by
  refine B0 [.slice (some ⟨b,0,none⟩) m c,.slice (some ⟨b,0,none⟩) m c,.int .i64 (x),.int .i64 (p:Int)] Try.func81 rfl Try.ntmps81 rfl fun a O=>?_;have J:MemX [b] w w [some (b,BH m (fun c=>.int .u8 (f c:Int)))] []:=MemX.startX1 0 hb;change Fr 33 a [(0,.slice (some ⟨b,0,none⟩) m c),(1,.slice (some ⟨b,0,none⟩) m c),(2,.int .i64 (x)),(3,.int .i64 (p:Int))] at O;refine sr<|mv O rfl rfl fun a O=>st O (BY Ch O rfl) rfl fun a O=>mv O rfl rfl fun a O=>nt<|wp_block ?_;change MemX [b] w _ [some (b,BH m (fun c=>.int .u8 (f c:Int)))] [] at J;refine Ag (fun (kk:Nat) a w'=>kk<=m/\(True)/\Fr 33 a [(0,.slice (some ⟨b,0,none⟩) m c),(2,.int .i64 (x)),(3,.int .i64 (p:Int)),(10,.slice (some ⟨b,0,none⟩) m c),(11,.int .i64 (m:Int)),(12,.int .i64 (kk:Int))]/\MemX [b] w w' [some (b,BH m (fun c=>.int .u8 ((if c<kk then addN p f f x c else f c:Nat):Int)))] []) (fun kk=>m - kk) 0 ?_ ?_
  . refine ⟨by omega,trivial,O.sub _ (by repeat' constructor),?_⟩
    exact J.cast (by simp)
  clear O J;rintro gk a w' ⟨hgk,hH,O,J⟩;have hfk:=hf gk;have hhk:=hf gk;have hxh:=RI hx hx2 (hf gk);refine sr<|st O (Ak O rfl rfl) rfl fun a O=>nt<|sq<|AI O rfl (fun h1=>?_) (fun h1=>?_)
  . refine wp_skip ?_
    refine tN<|sq<|wp_block<|sr<|mv O rfl rfl fun a O=>st O (AJ (i:=gk) Bj O rfl rfl rfl (by omega)) rfl fun a O=>st O (AM Ah O rfl (J.row 0 rfl) (getRow (gk) (by omega))) rfl fun a O=>ag O rfl rfl fun a O=>ag O rfl rfl fun a O=>nt<|wp_region_lit<|mv O rfl rfl fun a O=>mv O rfl rfl fun a O=>mv O rfl rfl fun a O=>mv O rfl rfl fun a O=>st O (AJ (i:=gk) Bj O rfl rfl rfl (by omega)) rfl fun a O=>st O (AM Ah O rfl (J.row 0 rfl) (getRow (gk) (by omega))) rfl fun a O=>st O (BO Ba Bf O rfl (wrap_i64 (by omega) (by omega))) rfl fun a O=>mv O rfl rfl fun a O=>mv O rfl rfl fun a O=>st O (BO Ba Bf O rfl (wrap_i64 (by omega) (by omega))) rfl fun a O=>st O (Cp O rfl rfl (wrap_i64 (by omega) (by omega))) rfl fun a O=>st O (Ac O rfl rfl (wrap_i64 (by omega) (by omega))) rfl fun a O=>mv O rfl rfl fun a O=>Aj O (AO Try.call31 O (.cons rfl (.cons rfl .nil)) (EB ((f (gk):Int)+(x)*((f (gk):Int))) (p) _ (by omega) (by omega) (by omega) (by omega))) rfl ?_;rintro _ w' a ⟨hx,rfl⟩ O;have J:=J.ext hx;refine st O (AJ (i:=gk) Bj O rfl rfl rfl (by omega)) rfl fun a O=>Bu O (BE 0 J rfl Ah O rfl rfl rfl (by first | omega | (simp only [AT]<;>omega) | (simp only [Array.size_setIfInBounds];omega) | simp)) ?_;intro _ w' a J O;rw [show (BH m (fun c=>.int .u8 ((if c<gk then addN p f f x c else f c:Nat):Int))).setIfInBounds (0+(gk)*1) (.int .u8 (((f (gk):Int)+(x)*((f (gk):Int)))%(p:Int)))=BH m (fun c=>if c=gk then .int .u8 (((f (gk):Int)+(x)*((f (gk):Int)))%(p:Int)) else .int .u8 ((if c<gk then addN p f f x c else f c:Nat):Int)) from Ce (fun c _=>by rw [show 0+(gk)*1=gk by omega])] at J;change MemX _ _ _ [_] [] at J;refine wpList_nil<|iN<|tN<|wp_region_lit<|st O (Ac O rfl rfl (AN (gk) (1) (by omega))) rfl fun a O=>mv O rfl rfl fun a O=>nt<|⟨gk+1,⟨by omega,trivial,O.sub _ (by repeat' constructor),?_⟩,by omega⟩;refine J.rowc 0 rfl (BL fun c hc=>?_)
    by_cases e1:c=gk
    . subst e1;rw [if_pos rfl,if_pos (by omega)];exact congrArg (Value.int .u8) (LH hp).symm
    . have e0:(c<gk+1)=(c<gk):=by apply propext;omega
      simp [e0,e1]
  obtain rfl:m=gk:=by omega
  refine wp_exit<|tX<|tX<|AW<|Mj rfl O.defers ⟨_,rfl,J.bel,?_⟩;exact ⟨rfl,(J.rowc (cs':=BH m (fun c=>.int .u8 (addN p f f x c:Int))) 0 rfl (BL fun c hc=>by simp [hc])).row 0 rfl⟩
theorem Nl (p b c b2 o2 c2 m:Nat)(cs2:Array Value)(f h:Nat->Nat)(x:Int)(w:World)(hp:0<p)(hO:p<100)(hx:-100<x)(hx2:x<100)(hm:m<1000)(hf:∀ i,f i<=255)(hb:Blk w b (BH m (fun c=>.int .u8 (f c:Int))))(hh:∀ i,h i<=255)(hne:b2≠b)(hb2:Blk w b2 cs2)(hg2:∀ i,i<m->cs2[o2+i*1]? = some (.int .u8 (h i:Int))) :
    CallsX Try.prog [b] 81 #[.slice (some ⟨b,0,none⟩) m c,.slice (some ⟨b2,o2,none⟩) m c2,.int .i64 (x),.int .i64 (p:Int)] w (fun v w'=>v = .tuple #[]/\Blk w' b (BH m (fun c=>.int .u8 (addN p f h x c:Int)))):=by
  refine B0 [.slice (some ⟨b,0,none⟩) m c,.slice (some ⟨b2,o2,none⟩) m c2,.int .i64 (x),.int .i64 (p:Int)] Try.func81 rfl Try.ntmps81 rfl fun a O=>?_;have J:MemX [b] w w [some (b,BH m (fun c=>.int .u8 (f c:Int)))] [(b2,cs2)]:=MemX.startX1D 0 hb (OB hb2 hne);change Fr 33 a [(0,.slice (some ⟨b,0,none⟩) m c),(1,.slice (some ⟨b2,o2,none⟩) m c2),(2,.int .i64 (x)),(3,.int .i64 (p:Int))] at O;refine sr<|mv O rfl rfl fun a O=>st O (BY Ch O rfl) rfl fun a O=>mv O rfl rfl fun a O=>nt<|wp_block ?_;change MemX [b] w _ [some (b,BH m (fun c=>.int .u8 (f c:Int)))] [(b2,cs2)] at J;refine Ag (fun (kk:Nat) a w'=>kk<=m/\(True)/\Fr 33 a [(0,.slice (some ⟨b,0,none⟩) m c),(2,.int .i64 (x)),(3,.int .i64 (p:Int)),(10,.slice (some ⟨b2,o2,none⟩) m c2),(11,.int .i64 (m:Int)),(12,.int .i64 (kk:Int))]/\MemX [b] w w' [some (b,BH m (fun c=>.int .u8 ((if c<kk then addN p f h x c else f c:Nat):Int)))] [(b2,cs2)]) (fun kk=>m - kk) 0 ?_ ?_
  . refine ⟨by omega,trivial,O.sub _ (by repeat' constructor),?_⟩
    exact J.cast (by simp)
  clear O J;rintro gk a w' ⟨hgk,hH,O,J⟩;have hfk:=hf gk;have hhk:=hh gk;have hxh:=RI hx hx2 (hh gk);refine sr<|st O (Ak O rfl rfl) rfl fun a O=>nt<|sq<|AI O rfl (fun h1=>?_) (fun h1=>?_)
  . refine wp_skip ?_
    refine tN<|sq<|wp_block<|sr<|mv O rfl rfl fun a O=>st O (AJ (i:=gk) Bj O rfl rfl rfl (by omega)) rfl fun a O=>st O (AM Ah O rfl (J.fz 0 rfl) (hg2 (gk) (by omega))) rfl fun a O=>ag O rfl rfl fun a O=>ag O rfl rfl fun a O=>nt<|wp_region_lit<|mv O rfl rfl fun a O=>mv O rfl rfl fun a O=>mv O rfl rfl fun a O=>mv O rfl rfl fun a O=>st O (AJ (i:=gk) Bj O rfl rfl rfl (by omega)) rfl fun a O=>st O (AM Ah O rfl (J.row 0 rfl) (getRow (gk) (by omega))) rfl fun a O=>st O (BO Ba Bf O rfl (wrap_i64 (by omega) (by omega))) rfl fun a O=>mv O rfl rfl fun a O=>mv O rfl rfl fun a O=>st O (BO Ba Bf O rfl (wrap_i64 (by omega) (by omega))) rfl fun a O=>st O (Cp O rfl rfl (wrap_i64 (by omega) (by omega))) rfl fun a O=>st O (Ac O rfl rfl (wrap_i64 (by omega) (by omega))) rfl fun a O=>mv O rfl rfl fun a O=>Aj O (AO Try.call31 O (.cons rfl (.cons rfl .nil)) (EB ((f (gk):Int)+(x)*((h (gk):Int))) (p) _ (by omega) (by omega) (by omega) (by omega))) rfl ?_;rintro _ w' a ⟨hx,rfl⟩ O;have J:=J.ext hx;refine st O (AJ (i:=gk) Bj O rfl rfl rfl (by omega)) rfl fun a O=>Bu O (BE 0 J rfl Ah O rfl rfl rfl (by first | omega | (simp only [AT]<;>omega) | (simp only [Array.size_setIfInBounds];omega) | simp)) ?_;intro _ w' a J O;rw [show (BH m (fun c=>.int .u8 ((if c<gk then addN p f h x c else f c:Nat):Int))).setIfInBounds (0+(gk)*1) (.int .u8 (((f (gk):Int)+(x)*((h (gk):Int)))%(p:Int)))=BH m (fun c=>if c=gk then .int .u8 (((f (gk):Int)+(x)*((h (gk):Int)))%(p:Int)) else .int .u8 ((if c<gk then addN p f h x c else f c:Nat):Int)) from Ce (fun c _=>by rw [show 0+(gk)*1=gk by omega])] at J;change MemX _ _ _ [_] _ at J;refine wpList_nil<|iN<|tN<|wp_region_lit<|st O (Ac O rfl rfl (AN (gk) (1) (by omega))) rfl fun a O=>mv O rfl rfl fun a O=>nt<|⟨gk+1,⟨by omega,trivial,O.sub _ (by repeat' constructor),?_⟩,by omega⟩;refine J.rowc 0 rfl (BL fun c hc=>?_)
    by_cases e1:c=gk
    . subst e1;rw [if_pos rfl,if_pos (by omega)];exact congrArg (Value.int .u8) (LH hp).symm
    . have e0:(c<gk+1)=(c<gk):=by apply propext;omega
      simp [e0,e1]
  obtain rfl:m=gk:=by omega
  refine wp_exit<|tX<|tX<|AW<|Mj rfl O.defers ⟨_,rfl,J.bel,?_⟩;exact ⟨rfl,(J.rowc (cs':=BH m (fun c=>.int .u8 (addN p f h x c:Int))) 0 rfl (BL fun c hc=>by simp [hc])).row 0 rfl⟩
theorem NS (b o c m:Nat)(cs:Array Value)(f:Nat->Int)(w:World)(hb:Blk w b cs)(hg:∀ i,i<m->cs[o+i*1]? = some (.int .i64 (f i)))(hm0:0<m)(hm:m<1000) :
    CallsR Try.prog 45 #[.slice (some ⟨b,o,none⟩) m c] w (OwnSl 1 w m (fun i=>.int .i64 (f i))):=by
  refine AQ [.slice (some ⟨b,o,none⟩) m c] Try.func45 rfl Try.ntmps45 rfl fun a O=>?_;have J:AR w w [none] [(b,cs)]:=MemX.startD w 1 _ (Jc hb);change Fr 6 a [(0,.slice (some ⟨b,o,none⟩) m c)] at O;refine sr<|ag O rfl rfl fun a O=>ns<|Aj O (BK 0 J O rfl Dv) rfl ?_;rintro _ w' a ⟨b1,rfl,J,-⟩ O;change AR _ _ [some (b1,#[])] _ at J;refine mv O rfl rfl fun a O=>Aj O (B5 (k:=0) (N:=0) (m:=m) (f:=fun i=>.int .i64 (f (i))) (g:=fun i=>.int .i64 (f (i))) DN rfl (by decide) J rfl O rfl rfl (Sl.empty 1 _ _) (fun i hi=>((J.fz 0 rfl).cell _).trans (by have:=hg i (by omega);rwa [show o+i*1=o+i by omega] at this)) (fun _ _=>rfl) (by omega) (by unfold maxLen;omega) (by omega)) rfl ?_;rintro u2 w' a ⟨e3,J,hs4⟩ O;change AR w w' [e3] [(b,cs)] at J;refine ag O rfl rfl fun a O=>nt<|wp_ret<|Ap rfl O.defers (AE O rfl) ⟨_,rfl,J.below,?_⟩;exact OwnSl.pos J (k:=0) rfl (by have:=hs4.congr (g:=fun i=>.int .i64 (f i)) (fun i hi=>by simp);simpa using this) hm0
def Ry (M N:Nat->Nat->Nat):Prop:=∀ j,j<6->LP 6 (M j) (N j)
instance (M N:Nat->Nat->Nat):Decidable (Ry M N):=Nat.decidableBallLT 6 _
def Rj (T U:Nat->Nat->Nat->Nat):Prop:=∀ i,i<6->Ry (T i) (U i)
instance (T U:Nat->Nat->Nat->Nat):Decidable (Rj T U):=Nat.decidableBallLT 6 _
def S1 (p:Nat) (v u:Nat->Nat) (x i:Nat):Nat:=(v i+x*u i)%p
end Go.Proofs.Ytgioobkkkicfeaa
