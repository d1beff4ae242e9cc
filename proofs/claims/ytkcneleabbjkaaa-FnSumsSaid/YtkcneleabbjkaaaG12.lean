import Derived.Test.YtkcneleabbjkaaaSw16
import Derived.Test.YtkcneleabbjkaaaChecked
set_option linter.unusedVariables false
set_option linter.unusedSimpArgs false
namespace Go.Proofs.Ytkcneleabbjkaaa
open Go Go.RowKit Go.Sw
theorem Bf:Try.prog.follows .mixedOrders=true:=by kernel_rfl
def sumTo (f:Nat->Nat):Nat->Nat
  | 0=>0
  | m+1=>sumTo f m+f m
def prodI (T:Nat->Nat->Nat->Nat) (v u:Nat->Nat) (n i c:Nat):Nat:=sumTo (fun i=>sumTo (fun j=>v i*u j*T i j c) n) i
def timesV (p n:Nat) (T:Nat->Nat->Nat->Nat) (v u:Nat->Nat) (c:Nat):Nat:=prodI T v u n n c%p
theorem sumTo_le {f:Nat->Nat}{c m:Nat}(h:∀ i,i<m->f i<=c):sumTo f m<=m*c:=by
  induction m with
  | zero=>simp [sumTo]
  | succ m ih=>have h1:=ih (fun i hi=>h i (by omega));have h2:=h m (by omega);simp only [sumTo,Nat.succ_mul];omega
theorem FU {x y:Nat}(hx:x<=255)(hy:y<=255):x*y<=65025:=Nat.le_trans (Nat.mul_le_mul hx hy) (by decide)
theorem H5 {x y z:Nat}(hx:x<=255)(hy:y<=255)(hz:z<=255):x*y*z<=16581375:=Nat.le_trans (Nat.mul_le_mul (FU hx hy) hz) (by decide)
theorem Jr {T:Nat->Nat->Nat->Nat}{v u:Nat->Nat}{n i j:Nat}(hv:∀ i,v i<=255)(hu:∀ i,u i<=255)(hT:∀ i j k,T i j k<=255)(hn:n<=6)(hi:i<=n)(hj:j<=n)(c:Nat) :
    prodI T v u n i c+sumTo (fun j=>v i*u j*T i j c) j<=700000000:=by
  have h1:prodI T v u n i c<=6*(6*16581375):=Nat.le_trans (sumTo_le (c:=6*16581375) fun a _=>Nat.le_trans (sumTo_le (c:=16581375) fun b _=>H5 (hv a) (hu b) (hT a b c)) (Nat.mul_le_mul_right _ hn)) (Nat.mul_le_mul_right _ (by omega));have h2:=sumTo_le (m:=j) (c:=16581375) fun b (_:b<j)=>H5 (hv i) (hu b) (hT i b c);have h3:j*16581375<=6*16581375:=Nat.mul_le_mul_right _ (by omega)
  omega
theorem whole {c:Array Value}{n:Nat}(h:c.size=n):c.extract 0 (0+n)=c:=by subst h;simp
theorem CP {n:Nat}{f:Nat->Value}{o:Nat}{v:Value}(i:Nat)(h:o=i)(hi:i<n)(hv:f i=v):(A1 n f)[o]? = some v:=by subst h;subst hv;exact CA hi
theorem Jn (x:Int)(p:Nat)(hp:0<p):-(p:Int)<x.tmod p/\x.tmod p<p:=by
  have h1:=Int.tmod_lt_of_pos x (b:=(p:Int)) (by omega);have h2:=Int.lt_tmod_of_pos x (b:=(p:Int)) (by omega);exact ⟨h2,h1⟩
theorem MV (x:Int)(p:Nat)(hp:0<p):0<=x%(p:Int)/\x%(p:Int)<p:=⟨Int.emod_nonneg x (by omega),Int.emod_lt_of_pos x (by omega)⟩
theorem KW (x:Int)(p:Nat)(hp:0<p):(x.tmod (p:Int)+(p:Int)).tmod (p:Int)=x%(p:Int):=by
  have h:=Jn x p hp;rw [Int.tmod_eq_emod_of_nonneg (by omega),Int.add_emod_right];rw [Int.tmod_eq_emod]
  split
  . simp
  . have:(((p:Int).natAbs:Int))=p:=by simp
    rw [this,Int.sub_emod_right,Int.emod_emod]
def Ru (k:Nat):ByteArray:=⟨#[109,UInt8.ofNat (48+k)]⟩
def RZ (i:Nat):ByteArray:=match i with
  | 0=>⟨#[102,105,101,108,100]⟩
  | 1=>⟨#[100,117,97,108]⟩
  | 2=>⟨#[112,97,105,114]⟩
  | 3=>⟨#[99,121,99,108,105,99,51]⟩
  | 4=>⟨#[115,121,109,109,101,116,114,105,99]⟩
  | _=>⟨#[109,97,116,114,105,120]⟩
theorem B9:Try.prog.underlying 2=some (.int .i64):=by kernel_rfl
theorem B8:Try.prog.underlying 5=some (.int .u8):=by kernel_rfl
theorem BE:Fa Try.prog 27=some (.agg (A1 6 (fun _=>.int .u8 (0)))):=by kernel_rfl
theorem A4:GO Try.prog 27=some (6,1):=by kernel_rfl
theorem Ai:FB Try.prog 5=true:=by kernel_rfl
theorem Aq:FY Try.prog 27=some 6:=by kernel_rfl
theorem A3:DD Try.prog 27=some 6:=by kernel_rfl
theorem Mf:Fa Try.prog 119=some (.agg (A1 6 (fun _=>.int .i64 (0)))):=by kernel_rfl
theorem AZ:Dc Try.prog 29 1=some 1:=by kernel_rfl
theorem AX:FB Try.prog 2=true:=by kernel_rfl
theorem BN:Try.prog.underlying 5=some (.int .u8):=by kernel_rfl
theorem BJ:Try.prog.underlying 2=some (.int .i64):=by kernel_rfl
theorem Ax:Dc Try.prog 29 2=some 2:=by kernel_rfl
theorem BF:GO Try.prog 26=some (6,36):=by kernel_rfl
theorem BG:GO Try.prog 25=some (6,6):=by kernel_rfl
theorem BY:FY Try.prog 24=some 6:=by kernel_rfl
theorem IF:Try.prog.underlying 24=some (.array 6 5):=by kernel_rfl
theorem JG:GO Try.prog 119=some (6,1):=by kernel_rfl
theorem Mk:FY Try.prog 119=some 6:=by kernel_rfl
theorem Mg:Try.prog.underlying 119=some (.array 6 2):=by kernel_rfl
theorem A2:Dc Try.prog 29 0=some 0:=by kernel_rfl
theorem EL:Try.prog.underlying 27=some (.array 6 5):=by kernel_rfl
theorem CO:∀ w,(Instr.build 27 #[]).run Try.prog w = .ok (.agg (A1 6 (fun _=>.int .u8 (0)))) w:=by intros;kernel_rfl
theorem Bx:GO Try.prog 24=some (6,1):=by kernel_rfl
theorem BO:Dc Try.prog 29 3=some 218:=by kernel_rfl
theorem Co:FY Try.prog 26=some 216:=by kernel_rfl
theorem DG:FY Try.prog 25=some 36:=by kernel_rfl
theorem KN:Try.prog.underlying 26=some (.array 6 25):=by kernel_rfl
theorem KM:Fa Try.prog 25=some (.agg (A1 36 (fun _=>.int .u8 (0)))):=by kernel_rfl
theorem KQ:DD Try.prog 25=some 36:=by kernel_rfl
theorem KO:Try.prog.underlying 25=some (.array 6 24):=by kernel_rfl
theorem Gk:Fa Try.prog 24=some (.agg (A1 6 (fun _=>.int .u8 (0)))):=by kernel_rfl
theorem Cy:DD Try.prog 24=some 6:=by kernel_rfl
theorem DZ:Hh Try.prog 24=some (6,5,1):=by kernel_rfl
theorem CL:Kr Try.prog 5=true:=by kernel_rfl
theorem IG:Try.prog.eqGuardType Try.prog.depth 24=false:=by kernel_rfl
theorem AI:FY Try.prog 29=some 224:=by kernel_rfl
theorem DH:Hh Try.prog 27=some (6,5,1):=by kernel_rfl
theorem Fi:Try.prog.eqGuardType Try.prog.depth 27=false:=by kernel_rfl
theorem Dr:Try.prog.underlying 65=some (.slice 2):=by kernel_rfl
theorem Bs:sliceOf Try.prog 65=some 1:=by kernel_rfl
theorem CK:Try.prog.underlying 22=some (.slice 5):=by kernel_rfl
theorem Bt:sliceOf Try.prog 22=some 1:=by kernel_rfl
theorem Df:∀ w,(Instr.buildSlice 65 0 #[]).run Try.prog w = .ok (.slice (some ⟨w.heap.size,0,none⟩) 0 0) (w.alloc (.cells #[] 2)):=by intros;kernel_rfl
theorem DA:∀ (x:Int) (w:World),(Instr.buildSlice 65 1 #[(0,.int .i64 x)]).run Try.prog w = .ok (.slice (some ⟨w.heap.size,0,none⟩) 1 1) (w.alloc (.cells #[.int .i64 x] 2)):=by intros;kernel_rfl
theorem Cn:Nk Try.prog 65=some (2,some (.int .i64 (0)),1,8):=by kernel_rfl
theorem Jf:∀ w,(Instr.buildSlice 137 6 #[(0,.string (⟨#[102,105,101,108,100]⟩)),(1,.string (⟨#[100,117,97,108]⟩)),(2,.string (⟨#[112,97,105,114]⟩)),(3,.string (⟨#[99,121,99,108,105,99,51]⟩)),(4,.string (⟨#[115,121,109,109,101,116,114,105,99]⟩)),(5,.string (⟨#[109,97,116,114,105,120]⟩))]).run Try.prog w = .ok (.slice (some ⟨w.heap.size,0,none⟩) 6 6) (w.alloc (.cells (A1 6 (fun c=>.string (RZ c))) 9)):=by intros;kernel_rfl
theorem EP (x:Int)(p:Nat)(w:World)(hp:0<p)(hO:p<100)(hx:-1000000000<x)(hx2:x<1000000000) :
    CallsR Try.prog 115 #[.int .i64 (x),.int .i64 (p:Int)] w (fun res _=>res = .int .u8 (x%(p:Int))):=by
  refine Al [.int .i64 (x),.int .i64 (p:Int)] Try.func115 rfl Try.ntmps115 rfl fun a O=>?_;have J:Ag w w [] []:=MemX.start w 0;change Fr 13 a [(0,.int .i64 (x)),(1,.int .i64 (p:Int))] at O;have h1:=Jn x p hp;have h2:=MV x p hp;refine sr<|ag O rfl rfl fun a O=>ns<|mv O rfl rfl fun a O=>mv O rfl rfl fun a O=>st O (CY O rfl rfl (by omega) rfl) rfl fun a O=>mv O rfl rfl fun a O=>st O (Ap O rfl rfl (wrap_i64 (by omega) (by omega))) rfl fun a O=>mv O rfl rfl fun a O=>st O (CY O rfl rfl (by omega) (KW x p hp)) rfl fun a O=>st O (A9 B8 B9 O rfl (wrap_u8 (by omega) (by omega))) rfl fun a O=>ag O rfl rfl fun a O=>nt<|wp_ret<|BC rfl O.defers (Ad O rfl) ⟨_,rfl,J.below,?_⟩
  show _=_
  rfl
theorem C7 (i:Nat)(w:World)(hi:i<6) :
    CallsR Try.prog 142 #[.int .i64 (i:Int)] w (fun res _=>res = .agg (AQ (fun c=>if c=i then 1 else 0))):=by
  refine Al [.int .i64 (i:Int)] Try.func142 rfl Try.ntmps142 rfl fun a O=>?_;have J:Ag w w [none,none] []:=MemX.start w 2;change Fr 7 a [(0,.int .i64 (i:Int))] at O;refine sr<|Ar O (Ah 0 J BE) rfl ?_;rintro _ w' a ⟨b1,rfl,J,-⟩ O;refine ns<|Ar O (Ah 1 J BE) rfl ?_;rintro _ w' a ⟨b2,rfl,J,-⟩ O;change Ag _ _ [some (b1,A1 6 (fun _=>.int .u8 (0))),some (b2,A1 6 (fun _=>.int .u8 (0)))] [] at J;refine ns<|mv O rfl rfl fun a O=>st O (AF A4 O rfl rfl rfl (by omega)) rfl fun a O=>BQ O (Az 1 J rfl Ai O rfl rfl rfl (by first | omega | (simp only [Aa]<;>omega) | (simp only [Array.size_setIfInBounds];omega) | simp)) ?_;intro _ w' a J O;rw [show (A1 6 (fun x=>.int .u8 (0))).setIfInBounds (0+(i)*1) (.int .u8 (1))=A1 6 (fun x=>.int .u8 (((if x=i then 1 else 0):Nat):Int)) from Bv (fun x _=>by rw [show 0+(i)*1=i by omega];by_cases hh:x=i<;>simp [hh])] at J;change Ag _ _ [_,_] [] at J;refine ns<|st O (AE Aq O rfl (J.row 1 rfl) (by simp only [Aa]<;>omega) (whole (by simp only [Aa]))) rfl fun a O=>BQ O (AJ 0 J rfl A3 O rfl rfl (by first | exact At | exact cells_one | (refine Bd fun _ _=>?_;first | rfl | (split<;>rfl))) (by simp only [Aa]) (by simp only [Aa]<;>omega) (AH _ _ (by simp only [Aa]))) ?_;intro _ w' a J O;change Ag _ _ [some (b1,A1 6 (fun x=>.int .u8 (((if x=i then 1 else 0):Nat):Int))),_] [] at J;refine nt<|wp_ret<|BC rfl O.defers (A5 Aq O rfl (J.row 0 rfl) (by simp only [Aa])) ⟨_,rfl,J.below,?_⟩
  show _=_
  rfl
theorem Fl (x p:Nat)(w:World)(hp:0<p)(hO:p<100)(hx:x<1000000000):CallsR Try.prog 115 #[.int .i64 (x:Int),.int .i64 (p:Int)] w (fun u _=>u = .int .u8 ((x%p:Nat):Int)):=EP x p w hp hO (by omega) (by omega)
theorem E9 (p n:Nat)(T:Nat->Nat->Nat->Nat)(f v u:Nat->Nat)(w:World)(hp:0<p)(hO:p<100)(hn:n<=6)(hT:∀ i j k,T i j k<=255)(hv:∀ i,v i<=255)(hu:∀ i,u i<=255) :
    CallsR Try.prog 87 #[.agg (AD (p:Int) (n:Int) T f),.agg (AQ v),.agg (AQ u)] w (fun res _=>res = .agg (AQ (timesV p n T v u))):=by
  refine Al [.agg (AD (p:Int) (n:Int) T f),.agg (AQ v),.agg (AQ u)] Try.func87 rfl Try.ntmps87 rfl fun a O=>?_;have J:Ag w w [none,none,none,none,none,none] []:=MemX.start w 6;change Fr 72 a [(0,.agg (AD (p:Int) (n:Int) T f)),(1,.agg (AQ v)),(2,.agg (AQ u))] at O;refine sr<|Ar O (BI 0 J O rfl) rfl ?_;rintro _ w' a ⟨b1,rfl,J,-⟩ O;refine Ar O (BI 1 J O rfl) rfl ?_;rintro _ w' a ⟨b2,rfl,J,-⟩ O;refine Ar O (BI 2 J O rfl) rfl ?_;rintro _ w' a ⟨b3,rfl,J,-⟩ O;refine Ar O (Ah 3 J BE) rfl ?_;rintro _ w' a ⟨b4,rfl,J,-⟩ O;refine ns<|Ar O (Ah 4 J Mf) rfl ?_;rintro _ w' a ⟨b5,rfl,J,-⟩ O;change Ag _ _ [some (b1,AD (p:Int) (n:Int) T f),some (b2,AQ v),some (b3,AQ u),some (b4,A1 6 (fun _=>.int .u8 (0))),some (b5,A1 6 (fun _=>.int .i64 (0))),_] [] at J;refine nt<|sq<|sr<|st O (AB AZ O rfl) rfl fun a O=>st O (AP AX O rfl (J.row 0 rfl) (Ao (by omega))) rfl fun a O=>mv O rfl rfl fun a O=>nt<|wp_block ?_;change Ag _ _ [_,_,_,_,_,_] [] at J;refine Av (fun (kk:Nat) a w'=>kk<=n/\(True)/\Fr 72 a [(3,ptr b1 (0)),(4,ptr b2 (0)),(5,ptr b3 (0)),(6,ptr b4 (0)),(7,ptr b5 (0)),(17,.int .i64 (n:Int)),(18,.int .i64 (kk:Int))]/\Ag w w' [some (b1,AD (p:Int) (n:Int) T f),some (b2,AQ v),some (b3,AQ u),some (b4,A1 6 (fun _=>.int .u8 (0))),some (b5,A1 6 (fun c=>.int .i64 (prodI T v u n kk c:Int))),none] []) (fun kk=>n - kk) 0 ?_ ?_
  . refine ⟨by omega,trivial,O.sub _ (by repeat' constructor),?_⟩
    exact J
  clear O J;rintro i a w' ⟨hi,hH,O,J⟩;refine sr<|st O (A0 O rfl rfl) rfl fun a O=>nt<|sq<|Ab O rfl (fun h6=>?_) (fun h6=>?_)
  . refine wp_skip ?_
    refine tN<|sq<|wp_block<|sr<|mv O rfl rfl fun a O=>ag O rfl rfl fun a O=>ns<|st O (AB AZ O rfl) rfl fun a O=>st O (AP AX O rfl (J.row 0 rfl) (Ao (by omega))) rfl fun a O=>mv O rfl rfl fun a O=>nt<|wp_block ?_;change Ag w _ [some (b1,AD (p:Int) (n:Int) T f),some (b2,AQ v),some (b3,AQ u),some (b4,A1 6 (fun _=>.int .u8 (0))),some (b5,A1 6 (fun c=>.int .i64 (prodI T v u n i c:Int))),none] [] at J;refine Av (fun (kk:Nat) a w'=>kk<=n/\(True)/\Fr 72 a [(3,ptr b1 (0)),(4,ptr b2 (0)),(5,ptr b3 (0)),(6,ptr b4 (0)),(7,ptr b5 (0)),(17,.int .i64 (n:Int)),(18,.int .i64 (i:Int)),(19,.bool (decide (((i:Int):Int)<(n:Int)))),(20,.int .i64 (i:Int)),(8,.int .i64 (i:Int)),(21,ptr b1 (0+1)),(22,.int .i64 (n:Int)),(23,.int .i64 (kk:Int))]/\Ag w w' [some (b1,AD (p:Int) (n:Int) T f),some (b2,AQ v),some (b3,AQ u),some (b4,A1 6 (fun _=>.int .u8 (0))),some (b5,A1 6 (fun c=>.int .i64 ((prodI T v u n i c+sumTo (fun kk=>v i*u kk*T i kk c) kk:Nat):Int))),none] []) (fun kk=>n - kk) 0 ?_ ?_
    . refine ⟨by omega,trivial,O.sub _ (by repeat' constructor),?_⟩
      exact J
    clear O J;rintro j a w' ⟨hj,hJ,O,J⟩;have hvi:=hv i;have huj:=hu j;refine sr<|st O (A0 O rfl rfl) rfl fun a O=>nt<|sq<|Ab O rfl (fun h7=>?_) (fun h7=>?_)
    . refine wp_skip ?_
      refine tN<|sq<|wp_block<|sr<|mv O rfl rfl fun a O=>ag O rfl rfl fun a O=>nt<|sq<|BV 8 [] [.val (.int .i64 (i:Int)),.val (ptr b2 (0+(i)*1)),.val (.int .u8 ((v (i):Int))),.val (.int .i64 ((v (i):Int))),.val (.int .i64 (j:Int)),.val (ptr b3 (0+(j)*1)),.val (.int .u8 ((u (j):Int))),.val (.int .i64 ((u (j):Int)))] Bf rfl O rfl J ⟨fun a w gG O hS hd=>by exact BP hS rfl O rfl,fun a w gG O hS hd=>by have O:=O.ext1 26 (hd 0 rfl rfl);exact AA hS rfl (AF A4 O rfl rfl rfl (by omega)),fun a w gG O hS hd=>by have O:=O.ext1 27 (hd 1 rfl rfl);have J:=hS.mem rfl;exact AA hS rfl (AP Ai O rfl (J.row 1 rfl) (Ba (i) (by omega) (by omega))),fun a w gG O hS hd=>by have O:=O.ext1 28 (hd 2 rfl rfl);exact AA hS rfl (A9 BJ BN O rfl (wrap_i64 (by omega) (by omega))),fun a w gG O hS hd=>by exact BP hS rfl O rfl,fun a w gG O hS hd=>by have O:=O.ext1 30 (hd 4 rfl rfl);exact AA hS rfl (AF A4 O rfl rfl rfl (by omega)),fun a w gG O hS hd=>by have O:=O.ext1 31 (hd 5 rfl rfl);have J:=hS.mem rfl;exact AA hS rfl (AP Ai O rfl (J.row 2 rfl) (Ba (j) (by omega) (by omega))),fun a w gG O hS hd=>by have O:=O.ext1 32 (hd 6 rfl rfl);exact AA hS rfl (A9 BJ BN O rfl (wrap_i64 (by omega) (by omega))),trivial⟩ ?_;intro a w' L O hS hq;have O:=O.ext1 26 (hq 0 rfl rfl);have O:=O.ext1 27 (hq 1 rfl rfl);have O:=O.ext1 28 (hq 2 rfl rfl);have O:=O.ext1 29 (hq 3 rfl rfl);have O:=O.ext1 30 (hq 4 rfl rfl);have O:=O.ext1 31 (hq 5 rfl rfl);have O:=O.ext1 32 (hq 6 rfl rfl);have O:=O.ext1 33 (hq 7 rfl rfl);have J:=hS.mem rfl;change wpList Try.prog _ _ [_,_] _ _;refine st O (B1 O rfl rfl (Bh (v i) (u j) (by have:=FU (hv i) (hu j);omega))) rfl fun a O=>ag O rfl rfl fun a O=>nt<|sq<|sr<|mv O rfl rfl fun a O=>st O (Bk O rfl rfl) rfl fun a O=>nt<|Ab O rfl (fun h8=>?_) (fun h8=>?_)
      . refine wp_exit ?_
        refine tX<|Am<|tN<|wp_region_lit<|st O (Ap O rfl rfl (Af (j) (1) (by omega))) rfl fun a O=>mv O rfl rfl fun a O=>nt<|⟨j+1,⟨by omega,trivial,O.sub _ (by repeat' constructor),?_⟩,by omega⟩;refine J.rowc 4 rfl (BS fun c hc=>?_);have e0:v i*u j=0:=by omega
        simp [sumTo,e0]
      refine wp_skip<|tN<|sr<|mv O rfl rfl fun a O=>mv O rfl rfl fun a O=>st O (AB Ax O rfl) rfl fun a O=>st O (AF BF O rfl rfl rfl (by omega)) rfl fun a O=>st O (AF BG O rfl rfl rfl (by omega)) rfl fun a O=>st O (AE BY O rfl (J.row 0 rfl) (by simp only [Aa]<;>omega) (CQ (i) (j) (by omega) (by omega) (by omega) (by omega))) rfl fun a O=>mv O rfl rfl fun a O=>nt<|wp_block ?_;change Ag w _ [some (b1,AD (p:Int) (n:Int) T f),some (b2,AQ v),some (b3,AQ u),some (b4,A1 6 (fun _=>.int .u8 (0))),some (b5,A1 6 (fun c=>.int .i64 ((prodI T v u n i c+sumTo (fun j=>v i*u j*T i j c) j:Nat):Int))),none] [] at J;refine Av (fun (kk:Nat) a w'=>kk<=6/\(True)/\Fr 72 a [(33,.int .i64 ((u (j):Int))),(32,.int .u8 ((u (j):Int))),(31,ptr b3 (0+(j)*1)),(30,.int .i64 (j:Int)),(29,.int .i64 ((v (i):Int))),(28,.int .u8 ((v (i):Int))),(27,ptr b2 (0+(i)*1)),(26,.int .i64 (i:Int)),(3,ptr b1 (0)),(4,ptr b2 (0)),(5,ptr b3 (0)),(6,ptr b4 (0)),(7,ptr b5 (0)),(17,.int .i64 (n:Int)),(18,.int .i64 (i:Int)),(19,.bool (decide (((i:Int):Int)<(n:Int)))),(20,.int .i64 (i:Int)),(8,.int .i64 (i:Int)),(21,ptr b1 (0+1)),(22,.int .i64 (n:Int)),(23,.int .i64 (j:Int)),(24,.bool (decide (((j:Int):Int)<(n:Int)))),(25,.int .i64 (j:Int)),(9,.int .i64 (j:Int)),(34,.int .i64 ((((v (i))*(u (j)):Nat):Int))),(10,.int .i64 ((((v (i))*(u (j)):Nat):Int))),(35,.int .i64 ((((v (i))*(u (j)):Nat):Int))),(36,.bool (decide (((((v (i))*(u (j)):Nat):Int):Int)=0))),(37,.int .i64 (i:Int)),(38,.int .i64 (j:Int)),(39,ptr b1 (0+2)),(40,ptr b1 (0+2+(i)*36)),(41,ptr b1 (0+2+(i)*36+(j)*6)),(42,.agg (AQ (T (i) (j)))),(43,.int .i64 (kk:Int))]/\Ag w w' [some (b1,AD (p:Int) (n:Int) T f),some (b2,AQ v),some (b3,AQ u),some (b4,A1 6 (fun _=>.int .u8 (0))),some (b5,A1 6 (fun c=>.int .i64 (((prodI T v u n i c+sumTo (fun j=>v i*u j*T i j c) j)+(if c<kk then v i*u j*T i j c else 0):Nat):Int))),none] []) (fun kk=>6 - kk) 0 ?_ ?_
      . refine ⟨by omega,trivial,O.sub _ (by repeat' constructor),?_⟩
        exact J.cast (by simp)
      clear O J;rintro k a w' ⟨hk,hZ,O,J⟩;have hb1:=Jr (T:=T) hv hu hT hn hi hj k;have hb2:=H5 (hv i) (hu j) (hT i j k);have htk:=hT i j k;refine sr<|st O (A0 O rfl rfl) rfl fun a O=>nt<|sq<|Ab O rfl (fun h9=>?_) (fun h9=>?_)
      . refine wp_skip ?_
        refine tN<|sq<|wp_block<|sr<|mv O rfl rfl fun a O=>st O (G3 IF Ai O rfl rfl rfl (by omega) (Ba (k) (by omega) (by omega))) rfl fun a O=>ag O rfl rfl fun a O=>ag O rfl rfl fun a O=>nt<|wp_region_lit<|mv O rfl rfl fun a O=>st O (AF JG O rfl rfl rfl (by omega)) rfl fun a O=>st O (AP AX O rfl (J.row 4 rfl) (CP (k) (by omega) (by omega) (by simp))) rfl fun a O=>mv O rfl rfl fun a O=>mv O rfl rfl fun a O=>st O (A9 BJ BN O rfl (wrap_i64 (by omega) (by omega))) rfl fun a O=>st O (B1 O rfl rfl (Bh (v i*u j) (T i j k) (by omega))) rfl fun a O=>st O (Ap O rfl rfl (Af (prodI T v u n i k+sumTo (fun j=>v i*u j*T i j k) j) (((v (i))*(u (j)))*((T (i) (j)) (k))) (by omega))) rfl fun a O=>st O (AF JG O rfl rfl rfl (by omega)) rfl fun a O=>BQ O (Az 4 J rfl AX O rfl rfl rfl (by first | omega | (simp only [Aa]<;>omega) | (simp only [Array.size_setIfInBounds];omega) | simp)) ?_;intro _ w' a J O;rw [show (A1 6 (fun c=>.int .i64 (((prodI T v u n i c+sumTo (fun j=>v i*u j*T i j c) j)+(if c<k then v i*u j*T i j c else 0):Nat):Int))).setIfInBounds (0+(k)*1) (.int .i64 (((prodI T v u n i k+sumTo (fun j=>v i*u j*T i j k) j+((v (i))*(u (j)))*((T (i) (j)) (k)):Nat):Int)))=A1 6 (fun c=>.int .i64 (((if c=k then prodI T v u n i k+sumTo (fun j=>v i*u j*T i j k) j+((v (i))*(u (j)))*((T (i) (j)) (k)) else (prodI T v u n i c+sumTo (fun j=>v i*u j*T i j c) j)+(if c<k then v i*u j*T i j c else 0)):Nat):Int)) from Bv (fun c _=>by rw [show 0+(k)*1=k by omega];by_cases hh:c=k<;>simp [hh])] at J;change Ag _ _ [_,_,_,_,_,_] [] at J;refine wpList_nil<|iN<|tN<|wp_region_lit<|st O (Ap O rfl rfl (Af (k) (1) (by omega))) rfl fun a O=>mv O rfl rfl fun a O=>nt<|⟨k+1,⟨by omega,trivial,O.sub _ (by repeat' constructor),?_⟩,by omega⟩;refine J.rowc 4 rfl (BS fun c hc=>?_);have e0:(c<k+1)=(c<k\/c=k):=by apply propext;omega
        by_cases e1:c=k
        . subst e1;simp
        . simp [e0,e1]
      obtain rfl:6=k:=by omega
      refine wp_exit<|tX<|tX<|Am<|iN<|tN<|wp_region_lit<|st O (Ap O rfl rfl (Af (j) (1) (by omega))) rfl fun a O=>mv O rfl rfl fun a O=>nt<|⟨j+1,⟨by omega,trivial,O.sub _ (by repeat' constructor),?_⟩,by omega⟩;refine J.rowc 4 rfl (BS fun c hc=>?_)
      simp [sumTo,hc,Nat.add_assoc]
    obtain rfl:n=j:=by omega
    refine wp_exit<|tX<|tX<|Am<|iN<|tN<|wp_region_lit<|st O (Ap O rfl rfl (Af (i) (1) (by omega))) rfl fun a O=>mv O rfl rfl fun a O=>nt<|⟨i+1,⟨by omega,trivial,O.sub _ (by repeat' constructor),?_⟩,by omega⟩;exact J
  obtain rfl:n=i:=by omega
  refine wp_exit<|tX<|tX<|Am<|tN<|sr<|Ar O (Ah 5 J BE) rfl ?_;rintro _ w' a ⟨b10,rfl,J,-⟩ O;change Ag _ _ [_,_,_,_,_,some (b10,A1 6 (fun _=>.int .u8 (0)))] [] at J;refine nt<|sq<|sr<|st O (AE Mk O rfl (J.row 4 rfl) (by simp only [Aa]<;>omega) (whole (by simp only [Aa]))) rfl fun a O=>mv O rfl rfl fun a O=>nt<|wp_block ?_;change Ag _ _ [_,_,_,_,_,_] [] at J;refine Av (fun (kk:Nat) a w'=>kk<=6/\(True)/\Fr 72 a [(3,ptr b1 (0)),(4,ptr b2 (0)),(5,ptr b3 (0)),(6,ptr b4 (0)),(7,ptr b5 (0)),(17,.int .i64 (n:Int)),(18,.int .i64 (n:Int)),(19,.bool (decide (((n:Int):Int)<(n:Int)))),(13,ptr b10 (0)),(59,.agg (A1 6 (fun c=>.int .i64 (prodI T v u n n c:Int)))),(60,.int .i64 (kk:Int))]/\Ag w w' [some (b1,AD (p:Int) (n:Int) T f),some (b2,AQ v),some (b3,AQ u),some (b4,A1 6 (fun _=>.int .u8 (0))),some (b5,A1 6 (fun c=>.int .i64 (prodI T v u n n c:Int))),some (b10,A1 6 (fun d=>.int .u8 ((if d<kk then timesV p n T v u d else 0:Nat):Int)))] []) (fun kk=>6 - kk) 0 ?_ ?_
  . refine ⟨by omega,trivial,O.sub _ (by repeat' constructor),?_⟩
    exact J.cast (by simp)
  clear O J;rintro q a w' ⟨hq,hinv4,O,J⟩;have hb1:prodI T v u n n q<=700000000:=by have:=Jr (T:=T) hv hu hT hn (Nat.le_refl n) (Nat.zero_le n) q;omega
  refine sr<|st O (A0 O rfl rfl) rfl fun a O=>nt<|sq<|Ab O rfl (fun h11=>?_) (fun h11=>?_)
  . refine wp_skip ?_
    refine tN<|sq<|wp_block<|sr<|mv O rfl rfl fun a O=>st O (G3 Mg AX O rfl rfl rfl (by omega) (CP (q) (by omega) (by omega) rfl)) rfl fun a O=>ag O rfl rfl fun a O=>ag O rfl rfl fun a O=>nt<|wp_region_lit<|mv O rfl rfl fun a O=>mv O rfl rfl fun a O=>st O (AB A2 O rfl) rfl fun a O=>st O (AP AX O rfl (J.row 0 rfl) (BU (by omega))) rfl fun a O=>Ar O (Ae Try.call115 O (.cons rfl (.cons rfl .nil)) (Fl (prodI T v u n n (q)) (p) _ (by omega) (by omega) (by omega))) rfl ?_;rintro _ w' a ⟨hx,rfl⟩ O;have J:=J.ext hx;refine st O (AF A4 O rfl rfl rfl (by omega)) rfl fun a O=>BQ O (Az 5 J rfl Ai O rfl rfl rfl (by first | omega | (simp only [Aa]<;>omega) | (simp only [Array.size_setIfInBounds];omega) | simp)) ?_;intro _ w' a J O;rw [show (A1 6 (fun d=>.int .u8 ((if d<q then timesV p n T v u d else 0:Nat):Int))).setIfInBounds (0+(q)*1) (.int .u8 ((((prodI T v u n n (q))%(p):Nat):Int)))=A1 6 (fun d=>.int .u8 (((if d=q then (prodI T v u n n (q))%(p) else if d<q then timesV p n T v u d else 0):Nat):Int)) from Bv (fun d _=>by rw [show 0+(q)*1=q by omega];by_cases hh:d=q<;>simp [hh])] at J;change Ag _ _ [_,_,_,_,_,_] [] at J;refine wpList_nil<|iN<|tN<|wp_region_lit<|st O (Ap O rfl rfl (Af (q) (1) (by omega))) rfl fun a O=>mv O rfl rfl fun a O=>nt<|⟨q+1,⟨by omega,trivial,O.sub _ (by repeat' constructor),?_⟩,by omega⟩;refine J.rowc 5 rfl (BS fun c hc=>?_);have e0:(c<q+1)=(c<q\/c=q):=by apply propext;omega
    by_cases e1:c=q
    . subst e1;simp [timesV]
    . simp [e0,e1]
  obtain rfl:6=q:=by omega
  refine wp_exit<|tX<|tX<|Am<|tN<|sr<|st O (AE Aq O rfl (J.row 5 rfl) (by simp only [Aa]<;>omega) (whole (by simp only [Aa]))) rfl fun a O=>BQ O (AJ 3 J rfl A3 O rfl rfl (by first | exact At | exact cells_one | (refine Bd fun _ _=>?_;first | rfl | (split<;>rfl))) (by simp only [Aa]) (by simp only [Aa]<;>omega) (AH _ _ (by simp only [Aa]))) ?_;intro _ w' a J O;change Ag _ _ [_,_,_,some (b4,A1 6 (fun d=>.int .u8 ((if d<6 then timesV p n T v u d else 0:Nat):Int))),_,_] [] at J;refine nt<|wp_ret<|BC rfl O.defers (A5 Aq O rfl (J.row 3 rfl) (by simp only [Aa])) ⟨_,rfl,J.below,?_⟩
  show _=_
  exact congrArg Value.agg (BS fun c hc=>by simp [hc])
def BT (x:Int):Prop:=x=2\/x=3\/x=5\/x=7\/x=11\/x=13
instance (x:Int):Decidable (BT x):=by unfold BT;infer_instance
def GW (p n:Int) (x i:Nat):Prop:=¬ ((x:Int)≥p\/((i:Int)≥n/\x≠0))
instance (p n:Int) (x i:Nat):Decidable (GW p n x i):=by unfold GW;infer_instance
def okV (p n:Int) (v:Nat->Nat):Prop:=∀ i,i<6->GW p n (v i) i
instance (p n:Int) (v:Nat->Nat):Decidable (okV p n v):=Nat.decidableBallLT 6 _
theorem H8 {p n:Int}{v:Nat->Nat}(i:Nat)(hi:i<6)(h:¬ GW p n (v i) i):¬ okV p n v:=fun hq=>h (hq i hi)
theorem Qp {p n:Int}{v:Nat->Nat}{k:Nat}(h:∀ i,i<k->GW p n (v i) i)(hk:GW p n (v k) k):∀ i,i<k+1->GW p n (v i) i:=fun i hi=>by
  by_cases e:i=k
  . subst e;exact hk
  . exact h i (by omega)
theorem Ge {p:Prop}[Decidable p](h:p):Value.bool true=Value.bool (decide p):=by simp [h]
theorem Cd {p:Prop}[Decidable p](h:¬ p):Value.bool false=Value.bool (decide p):=by simp [h]
theorem IW (x:Int)(w:World) :
    CallsR Try.prog 90 #[.int .i64 (x)] w (fun res _=>res = .bool (decide (BT x))):=by
  refine Al [.int .i64 (x)] Try.func90 rfl Try.ntmps90 rfl fun a O=>?_;have J:Ag w w [] []:=MemX.start w 0;change Fr 11 a [(0,.int .i64 (x))] at O;refine sr<|ag O rfl rfl fun a O=>nt<|sq<|sr<|mv O rfl rfl fun a O=>nt<|wp_block<|sq<|sr<|st O (Bk O rfl rfl) rfl fun a O=>ag O rfl rfl fun a O=>nt<|Ab O rfl (fun h1=>?_) (fun h1=>?_)
  . refine wp_skip ?_
    refine tN<|I2 O rfl h1<|sr<|ag O rfl rfl fun a O=>nt<|wp_ret<|iR<|tR<|BC rfl O.defers (Ad O rfl) ⟨_,rfl,J.below,?_⟩
    show _=_
    first | exact congrArg Value.bool (decide_eq_true (by unfold BT;omega)).symm | exact congrArg Value.bool (decide_eq_false (by unfold BT;omega)).symm | exact congrArg Value.bool (decide_eq_decide.2 (by unfold BT;omega))
  refine sr<|st O (Bk O rfl rfl) rfl fun a O=>ag O rfl rfl fun a O=>nt<|Ab O rfl (fun h3=>?_) (fun h3=>?_)
  . refine wp_skip ?_
    refine tN<|I2 O rfl h3<|sr<|ag O rfl rfl fun a O=>nt<|wp_ret<|iR<|tR<|BC rfl O.defers (Ad O rfl) ⟨_,rfl,J.below,?_⟩
    show _=_
    first | exact congrArg Value.bool (decide_eq_true (by unfold BT;omega)).symm | exact congrArg Value.bool (decide_eq_false (by unfold BT;omega)).symm | exact congrArg Value.bool (decide_eq_decide.2 (by unfold BT;omega))
  refine sr<|st O (Bk O rfl rfl) rfl fun a O=>ag O rfl rfl fun a O=>nt<|Ab O rfl (fun h5=>?_) (fun h5=>?_)
  . refine wp_skip ?_
    refine tN<|I2 O rfl h5<|sr<|ag O rfl rfl fun a O=>nt<|wp_ret<|iR<|tR<|BC rfl O.defers (Ad O rfl) ⟨_,rfl,J.below,?_⟩
    show _=_
    first | exact congrArg Value.bool (decide_eq_true (by unfold BT;omega)).symm | exact congrArg Value.bool (decide_eq_false (by unfold BT;omega)).symm | exact congrArg Value.bool (decide_eq_decide.2 (by unfold BT;omega))
  refine sr<|st O (Bk O rfl rfl) rfl fun a O=>ag O rfl rfl fun a O=>nt<|Ab O rfl (fun h7=>?_) (fun h7=>?_)
  . refine wp_skip ?_
    refine tN<|I2 O rfl h7<|sr<|ag O rfl rfl fun a O=>nt<|wp_ret<|iR<|tR<|BC rfl O.defers (Ad O rfl) ⟨_,rfl,J.below,?_⟩
    show _=_
    first | exact congrArg Value.bool (decide_eq_true (by unfold BT;omega)).symm | exact congrArg Value.bool (decide_eq_false (by unfold BT;omega)).symm | exact congrArg Value.bool (decide_eq_decide.2 (by unfold BT;omega))
  refine sr<|st O (Bk O rfl rfl) rfl fun a O=>ag O rfl rfl fun a O=>nt<|Ab O rfl (fun h9=>?_) (fun h9=>?_)
  . refine wp_skip ?_
    refine tN<|I2 O rfl h9<|sr<|ag O rfl rfl fun a O=>nt<|wp_ret<|iR<|tR<|BC rfl O.defers (Ad O rfl) ⟨_,rfl,J.below,?_⟩
    show _=_
    first | exact congrArg Value.bool (decide_eq_true (by unfold BT;omega)).symm | exact congrArg Value.bool (decide_eq_false (by unfold BT;omega)).symm | exact congrArg Value.bool (decide_eq_decide.2 (by unfold BT;omega))
  refine wp_region_lit<|st O (Bk O rfl rfl) rfl fun a O=>ag O rfl rfl fun a O=>nt<|Ab O rfl (fun h11=>?_) (fun h11=>?_)
  . refine sq ?_
    refine wp_region_lit<|ag O rfl rfl fun a O=>nt<|wp_ret<|iR<|tR<|BC rfl O.defers (Ad O rfl) ⟨_,rfl,J.below,?_⟩
    show _=_
    first | exact congrArg Value.bool (decide_eq_true (by unfold BT;omega)).symm | exact congrArg Value.bool (decide_eq_false (by unfold BT;omega)).symm | exact congrArg Value.bool (decide_eq_decide.2 (by unfold BT;omega))
  refine wp_skip<|iN<|tN<|sr<|ag O rfl rfl fun a O=>nt<|wp_ret<|BC rfl O.defers (Ad O rfl) ⟨_,rfl,J.below,?_⟩
  show _=_
  first | exact congrArg Value.bool (decide_eq_true (by unfold BT;omega)).symm | exact congrArg Value.bool (decide_eq_false (by unfold BT;omega)).symm | exact congrArg Value.bool (decide_eq_decide.2 (by unfold BT;omega))
theorem Kk (x:Int)(w:World) :
    CallsR Try.prog 166 #[.int .i64 (x)] w (fun res _=>res = .bool (decide (BT x))):=by
  refine Al [.int .i64 (x)] Try.func166 rfl Try.ntmps166 rfl fun a O=>?_;have J:Ag w w [] []:=MemX.start w 0;change Fr 25 a [(0,.int .i64 (x))] at O;refine sr<|ag O rfl rfl fun a O=>ns<|mv O rfl rfl fun a O=>st O (Bk O rfl rfl) rfl fun a O=>mv O rfl rfl fun a O=>?_
  by_cases g1:(x:Int)=2
  . first | rw [decide_eq_true g1] at O | simp only [decide_eq_true g1] at O
    refine Bm O rfl rfl rfl rfl rfl fun a O=>Bm O rfl rfl rfl rfl rfl fun a O=>st O (BD O rfl rfl) rfl fun a O=>mv O rfl rfl fun a O=>Bm O rfl rfl rfl rfl rfl fun a O=>Bm O rfl rfl rfl rfl rfl fun a O=>st O (BD O rfl rfl) rfl fun a O=>mv O rfl rfl fun a O=>Bm O rfl rfl rfl rfl rfl fun a O=>Bm O rfl rfl rfl rfl rfl fun a O=>st O (BD O rfl rfl) rfl fun a O=>mv O rfl rfl fun a O=>Bm O rfl rfl rfl rfl rfl fun a O=>Bm O rfl rfl rfl rfl rfl fun a O=>st O (BD O rfl rfl) rfl fun a O=>mv O rfl rfl fun a O=>Bm O rfl rfl rfl rfl rfl fun a O=>Bm O rfl rfl rfl rfl rfl fun a O=>st O (BD O rfl rfl) rfl fun a O=>ag O rfl rfl fun a O=>nt<|wp_ret<|BC rfl O.defers (Ad O rfl) ⟨_,rfl,J.below,?_⟩
    show _=_
    first | exact congrArg Value.bool (decide_eq_true (by unfold BT;omega)).symm | exact congrArg Value.bool (decide_eq_false (by unfold BT;omega)).symm | exact congrArg Value.bool (decide_eq_decide.2 (by unfold BT;omega))
  first | rw [decide_eq_false g1] at O | simp only [decide_eq_false g1] at O
  refine BX O rfl rfl rfl (Ay O rfl) rfl fun a O=>BX O rfl rfl rfl (Bk O rfl rfl) rfl fun a O=>st O (A8 O rfl rfl) rfl fun a O=>mv O rfl rfl fun a O=>?_
  by_cases g2:(x:Int)=3
  . first | rw [decide_eq_true g2] at O | simp only [decide_eq_true g2] at O
    refine Bm O rfl rfl rfl rfl rfl fun a O=>Bm O rfl rfl rfl rfl rfl fun a O=>st O (BD O rfl rfl) rfl fun a O=>mv O rfl rfl fun a O=>Bm O rfl rfl rfl rfl rfl fun a O=>Bm O rfl rfl rfl rfl rfl fun a O=>st O (BD O rfl rfl) rfl fun a O=>mv O rfl rfl fun a O=>Bm O rfl rfl rfl rfl rfl fun a O=>Bm O rfl rfl rfl rfl rfl fun a O=>st O (BD O rfl rfl) rfl fun a O=>mv O rfl rfl fun a O=>Bm O rfl rfl rfl rfl rfl fun a O=>Bm O rfl rfl rfl rfl rfl fun a O=>st O (BD O rfl rfl) rfl fun a O=>ag O rfl rfl fun a O=>nt<|wp_ret<|BC rfl O.defers (Ad O rfl) ⟨_,rfl,J.below,?_⟩
    show _=_
    first | exact congrArg Value.bool (decide_eq_true (by unfold BT;omega)).symm | exact congrArg Value.bool (decide_eq_false (by unfold BT;omega)).symm | exact congrArg Value.bool (decide_eq_decide.2 (by unfold BT;omega))
  first | rw [decide_eq_false g2] at O | simp only [decide_eq_false g2] at O
  refine BX O rfl rfl rfl (Ay O rfl) rfl fun a O=>BX O rfl rfl rfl (Bk O rfl rfl) rfl fun a O=>st O (A8 O rfl rfl) rfl fun a O=>mv O rfl rfl fun a O=>?_
  by_cases g3:(x:Int)=5
  . first | rw [decide_eq_true g3] at O | simp only [decide_eq_true g3] at O
    refine Bm O rfl rfl rfl rfl rfl fun a O=>Bm O rfl rfl rfl rfl rfl fun a O=>st O (BD O rfl rfl) rfl fun a O=>mv O rfl rfl fun a O=>Bm O rfl rfl rfl rfl rfl fun a O=>Bm O rfl rfl rfl rfl rfl fun a O=>st O (BD O rfl rfl) rfl fun a O=>mv O rfl rfl fun a O=>Bm O rfl rfl rfl rfl rfl fun a O=>Bm O rfl rfl rfl rfl rfl fun a O=>st O (BD O rfl rfl) rfl fun a O=>ag O rfl rfl fun a O=>nt<|wp_ret<|BC rfl O.defers (Ad O rfl) ⟨_,rfl,J.below,?_⟩
    show _=_
    first | exact congrArg Value.bool (decide_eq_true (by unfold BT;omega)).symm | exact congrArg Value.bool (decide_eq_false (by unfold BT;omega)).symm | exact congrArg Value.bool (decide_eq_decide.2 (by unfold BT;omega))
  first | rw [decide_eq_false g3] at O | simp only [decide_eq_false g3] at O
  refine BX O rfl rfl rfl (Ay O rfl) rfl fun a O=>BX O rfl rfl rfl (Bk O rfl rfl) rfl fun a O=>st O (A8 O rfl rfl) rfl fun a O=>mv O rfl rfl fun a O=>?_
  by_cases g4:(x:Int)=7
  . first | rw [decide_eq_true g4] at O | simp only [decide_eq_true g4] at O
    refine Bm O rfl rfl rfl rfl rfl fun a O=>Bm O rfl rfl rfl rfl rfl fun a O=>st O (BD O rfl rfl) rfl fun a O=>mv O rfl rfl fun a O=>Bm O rfl rfl rfl rfl rfl fun a O=>Bm O rfl rfl rfl rfl rfl fun a O=>st O (BD O rfl rfl) rfl fun a O=>ag O rfl rfl fun a O=>nt<|wp_ret<|BC rfl O.defers (Ad O rfl) ⟨_,rfl,J.below,?_⟩
    show _=_
    first | exact congrArg Value.bool (decide_eq_true (by unfold BT;omega)).symm | exact congrArg Value.bool (decide_eq_false (by unfold BT;omega)).symm | exact congrArg Value.bool (decide_eq_decide.2 (by unfold BT;omega))
  first | rw [decide_eq_false g4] at O | simp only [decide_eq_false g4] at O
  refine BX O rfl rfl rfl (Ay O rfl) rfl fun a O=>BX O rfl rfl rfl (Bk O rfl rfl) rfl fun a O=>st O (A8 O rfl rfl) rfl fun a O=>mv O rfl rfl fun a O=>?_
  by_cases g5:(x:Int)=11
  . first | rw [decide_eq_true g5] at O | simp only [decide_eq_true g5] at O
    refine Bm O rfl rfl rfl rfl rfl fun a O=>Bm O rfl rfl rfl rfl rfl fun a O=>st O (BD O rfl rfl) rfl fun a O=>ag O rfl rfl fun a O=>nt<|wp_ret<|BC rfl O.defers (Ad O rfl) ⟨_,rfl,J.below,?_⟩
    show _=_
    first | exact congrArg Value.bool (decide_eq_true (by unfold BT;omega)).symm | exact congrArg Value.bool (decide_eq_false (by unfold BT;omega)).symm | exact congrArg Value.bool (decide_eq_decide.2 (by unfold BT;omega))
  first | rw [decide_eq_false g5] at O | simp only [decide_eq_false g5] at O
  refine BX O rfl rfl rfl (Ay O rfl) rfl fun a O=>BX O rfl rfl rfl (Bk O rfl rfl) rfl fun a O=>st O (A8 O rfl rfl) rfl fun a O=>ag O rfl rfl fun a O=>nt<|wp_ret<|BC rfl O.defers (Ad O rfl) ⟨_,rfl,J.below,?_⟩
  show _=_
  first | exact congrArg Value.bool (decide_eq_true (by unfold BT;omega)).symm | exact congrArg Value.bool (decide_eq_false (by unfold BT;omega)).symm | exact congrArg Value.bool (decide_eq_decide.2 (by unfold BT;omega))
theorem Ep (x lo hi:Int)(w:World) :
    CallsR Try.prog 101 #[.int .i64 (x),.int .i64 (lo),.int .i64 (hi)] w (fun res _=>res = .bool (decide (lo<=x/\x<=hi))):=by
  refine Al [.int .i64 (x),.int .i64 (lo),.int .i64 (hi)] Try.func101 rfl Try.ntmps101 rfl fun a O=>?_;have J:Ag w w [] []:=MemX.start w 0;change Fr 15 a [(0,.int .i64 (x)),(1,.int .i64 (lo)),(2,.int .i64 (hi))] at O;refine sr<|ag O rfl rfl fun a O=>ns<|mv O rfl rfl fun a O=>mv O rfl rfl fun a O=>st O (If O rfl rfl) rfl fun a O=>mv O rfl rfl fun a O=>?_
  by_cases g1:lo<=(x:Int)
  . first | rw [decide_eq_true g1] at O | simp only [decide_eq_true g1] at O
    refine BX O rfl rfl rfl (Ay O rfl) rfl fun a O=>BX O rfl rfl rfl (Ay O rfl) rfl fun a O=>BX O rfl rfl rfl (MR O rfl rfl) rfl fun a O=>st O (BD O rfl rfl) rfl fun a O=>ag O rfl rfl fun a O=>nt<|wp_ret<|BC rfl O.defers (Ad O rfl) ⟨_,rfl,J.below,?_⟩
    show _=_
    first | exact congrArg Value.bool (decide_eq_true (by omega)).symm | exact congrArg Value.bool (decide_eq_false (by omega)).symm | exact congrArg Value.bool (decide_eq_decide.2 (by omega))
  first | rw [decide_eq_false g1] at O | simp only [decide_eq_false g1] at O
  refine Bm O rfl rfl rfl rfl rfl fun a O=>Bm O rfl rfl rfl rfl rfl fun a O=>Bm O rfl rfl rfl rfl rfl fun a O=>st O (A8 O rfl rfl) rfl fun a O=>ag O rfl rfl fun a O=>nt<|wp_ret<|BC rfl O.defers (Ad O rfl) ⟨_,rfl,J.below,?_⟩
  show _=_
  first | exact congrArg Value.bool (decide_eq_true (by omega)).symm | exact congrArg Value.bool (decide_eq_false (by omega)).symm | exact congrArg Value.bool (decide_eq_decide.2 (by omega))
theorem Dz (p n:Int)(T:Nat->Nat->Nat->Nat)(f v:Nat->Nat)(w:World)(hv:∀ i,v i<=255) :
    CallsR Try.prog 91 #[.agg (AD p n T f),.agg (AQ v)] w (fun res _=>res = .bool (decide (okV p n v))):=by
  refine Al [.agg (AD p n T f),.agg (AQ v)] Try.func91 rfl Try.ntmps91 rfl fun a O=>?_;have J:Ag w w [none,none] []:=MemX.start w 2;change Fr 28 a [(0,.agg (AD p n T f)),(1,.agg (AQ v))] at O;refine sr<|Ar O (BI 0 J O rfl) rfl ?_;rintro _ w' a ⟨b1,rfl,J,-⟩ O;refine Ar O (BI 1 J O rfl) rfl ?_;rintro _ w' a ⟨b2,rfl,J,-⟩ O;change Ag _ _ [some (b1,AD p n T f),some (b2,AQ v)] [] at J;refine ag O rfl rfl fun a O=>nt<|sq<|sr<|st O (AE Aq O rfl (J.row 1 rfl) (by simp only [Aa]<;>omega) (whole (by simp only [Aa]))) rfl fun a O=>mv O rfl rfl fun a O=>nt<|wp_block ?_;change Ag _ _ [_,_] [] at J;refine Av (fun (kk:Nat) a w'=>kk<=6/\(∀ i,i<kk->GW p n (v i) i)/\Fr 28 a [(2,ptr b1 (0)),(7,.agg (AQ v)),(8,.int .i64 (kk:Int))]/\Ag w w' [some (b1,AD p n T f),some (b2,AQ v)] []) (fun kk=>6 - kk) 0 ?_ ?_
  . refine ⟨by omega,fun i hi=>absurd hi (by omega),O.sub _ (by repeat' constructor),?_⟩
    exact J
  clear O J;rintro gk a w' ⟨hgk,hH,O,J⟩;have hvb:=hv gk;refine sr<|st O (A0 O rfl rfl) rfl fun a O=>nt<|sq<|Ab O rfl (fun h3=>?_) (fun h3=>?_)
  . refine wp_skip ?_
    refine tN<|sq<|wp_block<|sr<|mv O rfl rfl fun a O=>st O (G3 EL Ai O rfl rfl rfl (by omega) (Ba (gk) (by omega) (by omega))) rfl fun a O=>ag O rfl rfl fun a O=>ag O rfl rfl fun a O=>ns<|mv O rfl rfl fun a O=>st O (A9 BJ BN O rfl (wrap_i64 (by omega) (by omega))) rfl fun a O=>st O (AB A2 O rfl) rfl fun a O=>st O (AP AX O rfl (J.row 0 rfl) (BU (by omega))) rfl fun a O=>st O (If O rfl rfl) rfl fun a O=>mv O rfl rfl fun a O=>?_
    by_cases g4:p<=((v (gk):Int):Int)
    . first | rw [decide_eq_true g4] at O | simp only [decide_eq_true g4] at O
      refine Bm O rfl rfl rfl rfl rfl fun a O=>Bm O rfl rfl rfl rfl rfl fun a O=>Bm O rfl rfl rfl rfl rfl fun a O=>Bm O rfl rfl rfl rfl rfl fun a O=>Bm O rfl rfl rfl rfl rfl fun a O=>QM O rfl rfl rfl rfl fun a O=>QM O rfl rfl rfl rfl fun a O=>Bm O rfl rfl rfl rfl rfl fun a O=>st O (BD O rfl rfl) rfl fun a O=>nt<|It O rfl<|sr<|ag O rfl rfl fun a O=>nt<|wp_ret<|iR<|tR<|tR<|iR<|tR<|BC rfl O.defers (Ad O rfl) ⟨_,rfl,J.below,?_⟩
      show _=_
      exact Cd (H8 gk (by omega) (by unfold GW;omega))
    first | rw [decide_eq_false g4] at O | simp only [decide_eq_false g4] at O
    refine BX O rfl rfl rfl (Ay O rfl) rfl fun a O=>BX O rfl rfl rfl (AB AZ O rfl) rfl fun a O=>BX O rfl rfl rfl (AP AX O rfl (J.row 0 rfl) (Ao (by omega))) rfl fun a O=>BX O rfl rfl rfl (If O rfl rfl) rfl fun a O=>BX O rfl rfl rfl (Ay O rfl) rfl fun a O=>?_
    by_cases g6:n<=((gk:Int):Int)
    . first | rw [decide_eq_true g6] at O | simp only [decide_eq_true g6] at O
      refine BX O rfl rfl rfl (Ay O rfl) rfl fun a O=>BX O rfl rfl rfl (By O rfl rfl) rfl fun a O=>BX O rfl rfl rfl (BD O rfl rfl) rfl fun a O=>st O (A8 O rfl rfl) rfl fun a O=>nt<|Ab O rfl (fun h7=>?_) (fun h7=>?_)
      . refine sq ?_
        refine wp_region_lit<|ag O rfl rfl fun a O=>nt<|wp_ret<|iR<|tR<|tR<|iR<|tR<|BC rfl O.defers (Ad O rfl) ⟨_,rfl,J.below,?_⟩
        show _=_
        exact Cd (H8 gk (by omega) (by unfold GW;omega))
      refine wp_skip<|iN<|tN<|wp_region_lit<|st O (Ap O rfl rfl (Af (gk) (1) (by omega))) rfl fun a O=>mv O rfl rfl fun a O=>nt<|⟨gk+1,⟨by omega,Qp hH (by unfold GW;omega),O.sub _ (by repeat' constructor),?_⟩,by omega⟩;exact J
    first | rw [decide_eq_false g6] at O | simp only [decide_eq_false g6] at O
    refine Bm O rfl rfl rfl rfl rfl fun a O=>Bm O rfl rfl rfl rfl rfl fun a O=>BX O rfl rfl rfl (A8 O rfl rfl) rfl fun a O=>st O (A8 O rfl rfl) rfl fun a O=>nt<|EE O rfl<|wp_skip<|iN<|tN<|wp_region_lit<|st O (Ap O rfl rfl (Af (gk) (1) (by omega))) rfl fun a O=>mv O rfl rfl fun a O=>nt<|⟨gk+1,⟨by omega,Qp hH (by unfold GW;omega),O.sub _ (by repeat' constructor),?_⟩,by omega⟩;exact J
  obtain rfl:6=gk:=by omega
  refine wp_exit<|tX<|tX<|Am<|tN<|sr<|ag O rfl rfl fun a O=>nt<|wp_ret<|BC rfl O.defers (Ad O rfl) ⟨_,rfl,J.below,?_⟩
  show _=_
  exact Ge hH
theorem Eb (p n:Int)(v:Nat->Nat)(w:World)(hv:∀ i,v i<=255) :
    CallsR Try.prog 165 #[.int .i64 (p),.int .i64 (n),.agg (AQ v)] w (fun res _=>res = .bool (decide (okV p n v))):=by
  refine Al [.int .i64 (p),.int .i64 (n),.agg (AQ v)] Try.func165 rfl Try.ntmps165 rfl fun a O=>?_;have J:Ag w w [none] []:=MemX.start w 1;change Fr 29 a [(0,.int .i64 (p)),(1,.int .i64 (n)),(2,.agg (AQ v))] at O;refine sr<|Ar O (BI 0 J O rfl) rfl ?_;rintro _ w' a ⟨b1,rfl,J,-⟩ O;refine ag O rfl rfl fun a O=>nt<|sq<|sr<|ag O rfl rfl fun a O=>nt<|wp_block ?_;change Ag _ _ [some (b1,AQ v)] [] at J;refine Av (fun (kk:Nat) a w'=>kk<=6/\(∀ i,i<kk->GW p n (v i) i)/\Fr 29 a [(0,.int .i64 (p)),(1,.int .i64 (n)),(5,ptr b1 (0)),(7,.int .i64 (kk:Int))]/\Ag w w' [some (b1,AQ v)] []) (fun kk=>6 - kk) 0 ?_ ?_
  . refine ⟨by omega,fun i hi=>absurd hi (by omega),O.sub _ (by repeat' constructor),?_⟩
    exact J
  clear O J;rintro gk a w' ⟨hgk,hH,O,J⟩;have hvb:=hv gk;refine sq<|sr<|mv O rfl rfl fun a O=>st O (A0 O rfl rfl) rfl fun a O=>nt<|Ab O rfl (fun h2=>?_) (fun h2=>?_)
  . refine wp_skip ?_
    refine tN<|sq<|wp_block<|sr<|mv O rfl rfl fun a O=>st O (AF A4 O rfl rfl rfl (by omega)) rfl fun a O=>st O (AP Ai O rfl (J.row 0 rfl) (Ba (gk) (by omega) (by omega))) rfl fun a O=>st O (A9 BJ BN O rfl (wrap_i64 (by omega) (by omega))) rfl fun a O=>mv O rfl rfl fun a O=>st O (If O rfl rfl) rfl fun a O=>mv O rfl rfl fun a O=>?_
    by_cases g3:p<=((v (gk):Int):Int)
    . first | rw [decide_eq_true g3] at O | simp only [decide_eq_true g3] at O
      refine Bm O rfl rfl rfl rfl rfl fun a O=>Bm O rfl rfl rfl rfl rfl fun a O=>Bm O rfl rfl rfl rfl rfl fun a O=>Bm O rfl rfl rfl rfl rfl fun a O=>QM O rfl rfl rfl rfl fun a O=>QM O rfl rfl rfl rfl fun a O=>QM O rfl rfl rfl rfl fun a O=>QM O rfl rfl rfl rfl fun a O=>Bm O rfl rfl rfl rfl rfl fun a O=>st O (BD O rfl rfl) rfl fun a O=>nt<|It O rfl<|sr<|ag O rfl rfl fun a O=>nt<|wp_ret<|iR<|tR<|tR<|iR<|tR<|BC rfl O.defers (Ad O rfl) ⟨_,rfl,J.below,?_⟩
      show _=_
      exact Cd (H8 gk (by omega) (by unfold GW;omega))
    first | rw [decide_eq_false g3] at O | simp only [decide_eq_false g3] at O
    refine BX O rfl rfl rfl (Ay O rfl) rfl fun a O=>BX O rfl rfl rfl (Ay O rfl) rfl fun a O=>BX O rfl rfl rfl (If O rfl rfl) rfl fun a O=>BX O rfl rfl rfl (Ay O rfl) rfl fun a O=>?_
    by_cases g5:n<=((gk:Int):Int)
    . first | rw [decide_eq_true g5] at O | simp only [decide_eq_true g5] at O
      refine BX O rfl rfl rfl (Ay O rfl) rfl fun a O=>BX O rfl rfl rfl (AF A4 O rfl rfl rfl (by omega)) rfl fun a O=>BX O rfl rfl rfl (AP Ai O rfl (J.row 0 rfl) (Ba (gk) (by omega) (by omega))) rfl fun a O=>BX O rfl rfl rfl (By O rfl rfl) rfl fun a O=>BX O rfl rfl rfl (BD O rfl rfl) rfl fun a O=>st O (A8 O rfl rfl) rfl fun a O=>nt<|Ab O rfl (fun h6=>?_) (fun h6=>?_)
      . refine sq ?_
        refine wp_region_lit<|ag O rfl rfl fun a O=>nt<|wp_ret<|iR<|tR<|tR<|iR<|tR<|BC rfl O.defers (Ad O rfl) ⟨_,rfl,J.below,?_⟩
        show _=_
        exact Cd (H8 gk (by omega) (by unfold GW;omega))
      refine wp_skip<|iN<|tN<|wp_region_lit<|mv O rfl rfl fun a O=>st O (Ap O rfl rfl (Af (gk) (1) (by omega))) rfl fun a O=>ag O rfl rfl fun a O=>nt<|⟨gk+1,⟨by omega,Qp hH (by unfold GW;omega),O.sub _ (by repeat' constructor),?_⟩,by omega⟩;exact J
    first | rw [decide_eq_false g5] at O | simp only [decide_eq_false g5] at O
    refine Bm O rfl rfl rfl rfl rfl fun a O=>Bm O rfl rfl rfl rfl rfl fun a O=>Bm O rfl rfl rfl rfl rfl fun a O=>Bm O rfl rfl rfl rfl rfl fun a O=>BX O rfl rfl rfl (A8 O rfl rfl) rfl fun a O=>st O (A8 O rfl rfl) rfl fun a O=>nt<|EE O rfl<|wp_skip<|iN<|tN<|wp_region_lit<|mv O rfl rfl fun a O=>st O (Ap O rfl rfl (Af (gk) (1) (by omega))) rfl fun a O=>ag O rfl rfl fun a O=>nt<|⟨gk+1,⟨by omega,Qp hH (by unfold GW;omega),O.sub _ (by repeat' constructor),?_⟩,by omega⟩;exact J
  obtain rfl:6=gk:=by omega
  refine wp_exit<|tX<|tX<|Am<|tN<|sr<|ag O rfl rfl fun a O=>nt<|wp_ret<|BC rfl O.defers (Ad O rfl) ⟨_,rfl,J.below,?_⟩
  show _=_
  exact Ge hH
theorem Il {x p:Nat}(hp:0<p)(hO:p<100):IntKind.u8.wrap ((x%p:Nat):Int)=((x%p:Nat):Int):=by
  have:=Nat.mod_lt x hp;exact wrap_u8 (by omega) (by omega)
theorem HA {x y z:Nat}(h:x+y<9223372036854775808)(e:x+y=z):IntKind.i64.wrap ((x:Int)+(y:Int))=(z:Int):=e ▸ Af x y h
theorem Pl {q f:Nat->Nat}{k c x:Nat}(hx:x=q k)(hf:∀ c,f c=if c<k then q c else 0):((if c=k then x else f c:Nat):Int)=((if c<k+1 then q c else 0:Nat):Int):=by
  rw [hf]
  by_cases e:c=k
  . subst e;simp [hx]
  . have e0:(c<k+1)=(c<k):=by apply propext;omega
    simp [e,e0]
def timesS (p n:Nat) (T:Nat->Nat->Nat->Nat) (v u:Nat->Nat) (c:Nat):Nat:=if c<n then timesV p n T v u c else 0
def invN (x p:Nat):Nat:=((List.range p).find? (fun c=>c*x%p == 1)).getD 0
theorem JT {x p k:Nat}(hk:k<p)(h:∀ c,c<k->¬ c*x%p=1)(h1:k*x%p=1):invN x p=k:=by
  unfold invN
  have:(List.range p).find? (fun c=>c*x%p == 1)=some k:=by
    rw [List.find?_eq_some_iff_append];refine ⟨by simpa using h1,List.range k,(List.range (p - k - 1)).map (fun x=>k+1+x),?_,?_⟩
    . have e:List.range p=List.range (k+(p - k)):=by congr 1;omega
      rw [e,List.range_add]
      congr 1
      rw [show p - k=(p - k - 1)+1 by omega,List.range_succ_eq_map]
      simp [Function.comp_def,Nat.add_assoc,Nat.add_comm]
      intro a _;omega
    . intro c hc;simpa using h c (by simpa using hc)
  rw [this];rfl
theorem JU {x p:Nat}(h:∀ c,c<p->¬ c*x%p=1):invN x p=0:=by
  unfold invN
  have:(List.range p).find? (fun c=>c*x%p == 1)=none:=by
    rw [List.find?_eq_none];intro c hc;simpa using h c (by simpa using hc)
  rw [this];rfl
theorem noS {x p k:Nat}(h:∀ c,c<k->¬ c*x%p=1)(h1:¬ ((k*x%p:Nat):Int)=1):∀ c,c<k+1->¬ c*x%p=1:=fun c hc=>by
  by_cases e:c=k
  . subst e;omega
  . exact h c (by omega)
theorem Cg (p n:Nat)(T:Nat->Nat->Nat->Nat)(f v u:Nat->Nat)(w:World)(hp:0<p)(hO:p<100)(hn:n<=6)(hT:∀ i j k,T i j k<=255)(hv:∀ i,v i<=255)(hu:∀ i,u i<=255) :
    CallsR Try.prog 89 #[.agg (AD (p:Int) (n:Int) T f),.agg (AQ v),.agg (AQ u)] w (fun res _=>res = .agg (AQ (timesS p n T v u))):=by
  refine Al [.agg (AD (p:Int) (n:Int) T f),.agg (AQ v),.agg (AQ u)] Try.func89 rfl Try.ntmps89 rfl fun a O=>?_;have J:Ag w w [none,none,none,none,none] []:=MemX.start w 5;change Fr 60 a [(0,.agg (AD (p:Int) (n:Int) T f)),(1,.agg (AQ v)),(2,.agg (AQ u))] at O;refine sr<|Ar O (BI 0 J O rfl) rfl ?_;rintro _ w' a ⟨b1,rfl,J,-⟩ O;refine Ar O (BI 1 J O rfl) rfl ?_;rintro _ w' a ⟨b2,rfl,J,-⟩ O;refine Ar O (BI 2 J O rfl) rfl ?_;rintro _ w' a ⟨b3,rfl,J,-⟩ O;refine Ar O (Ah 3 J BE) rfl ?_;rintro _ w' a ⟨b4,rfl,J,-⟩ O;refine ns<|st O (Bo CO) rfl fun a O=>Ar O (Ah 4 J BE) rfl ?_;rintro _ w' a ⟨b5,rfl,J,-⟩ O;change Ag _ _ [some (b1,AD (p:Int) (n:Int) T f),some (b2,AQ v),some (b3,AQ u),some (b4,A1 6 (fun _=>.int .u8 (0))),some (b5,A1 6 (fun _=>.int .u8 (0)))] [] at J;refine BQ O (AJ 4 J rfl A3 O rfl rfl (by first | exact At | exact cells_one | (refine Bd fun _ _=>?_;first | rfl | (split<;>rfl))) (by simp only [Aa]) (by simp only [Aa]<;>omega) (AH _ _ (by simp only [Aa]))) ?_;intro _ w' a J O;refine nt<|sq<|sr<|ag O rfl rfl fun a O=>nt<|wp_block ?_;change Ag _ _ [_,_,_,_,some (b5,A1 6 (fun _=>.int .u8 (0)))] [] at J;refine Av (fun (kk:Nat) a w'=>kk<=n/\(True)/\Fr 60 a [(3,ptr b1 (0)),(4,ptr b2 (0)),(5,ptr b3 (0)),(6,ptr b4 (0)),(7,ptr b5 (0)),(8,.int .i64 (kk:Int))]/\Ag w w' [some (b1,AD (p:Int) (n:Int) T f),some (b2,AQ v),some (b3,AQ u),some (b4,A1 6 (fun _=>.int .u8 (0))),some (b5,A1 6 (fun c=>.int .u8 ((if c<kk then timesV p n T v u c else 0:Nat):Int)))] []) (fun kk=>n - kk) 0 ?_ ?_
  . refine ⟨by omega,trivial,O.sub _ (by repeat' constructor),?_⟩
    exact J.cast (by simp)
  clear O J;rintro gk a w' ⟨hgk,hH,O,J⟩;refine sq<|sr<|mv O rfl rfl fun a O=>st O (AB AZ O rfl) rfl fun a O=>st O (AP AX O rfl (J.row 0 rfl) (Ao (by omega))) rfl fun a O=>st O (A0 O rfl rfl) rfl fun a O=>nt<|Ab O rfl (fun h6=>?_) (fun h6=>?_)
  . refine wp_skip ?_
    refine tN<|sq<|wp_block<|sr<|ag O rfl rfl fun a O=>nt<|sq<|sr<|ag O rfl rfl fun a O=>nt<|wp_block ?_;change Ag w _ [some (b1,AD (p:Int) (n:Int) T f),some (b2,AQ v),some (b3,AQ u),some (b4,A1 6 (fun _=>.int .u8 (0))),some (b5,A1 6 (fun c=>.int .u8 ((if c<gk then timesV p n T v u c else 0:Nat):Int)))] [] at J;refine Av (fun (kk:Nat) a w'=>kk<=n/\(True)/\Fr 60 a [(3,ptr b1 (0)),(4,ptr b2 (0)),(5,ptr b3 (0)),(6,ptr b4 (0)),(7,ptr b5 (0)),(8,.int .i64 (gk:Int)),(13,.int .i64 (gk:Int)),(14,ptr b1 (0+1)),(15,.int .i64 (n:Int)),(16,.bool (decide (((gk:Int):Int)<(n:Int)))),(9,.int .i64 ((prodI T v u n kk gk:Int))),(10,.int .i64 (kk:Int))]/\Ag w w' [some (b1,AD (p:Int) (n:Int) T f),some (b2,AQ v),some (b3,AQ u),some (b4,A1 6 (fun _=>.int .u8 (0))),some (b5,A1 6 (fun c=>.int .u8 ((if c<gk then timesV p n T v u c else 0:Nat):Int)))] []) (fun kk=>n - kk) 0 ?_ ?_
    . refine ⟨by omega,trivial,O.sub _ (by repeat' constructor),?_⟩
      exact J
    clear O J;rintro gi a w' ⟨hgi,hJ,O,J⟩;refine sq<|sr<|mv O rfl rfl fun a O=>st O (AB AZ O rfl) rfl fun a O=>st O (AP AX O rfl (J.row 0 rfl) (Ao (by omega))) rfl fun a O=>st O (A0 O rfl rfl) rfl fun a O=>nt<|Ab O rfl (fun h7=>?_) (fun h7=>?_)
    . refine wp_skip ?_
      refine tN<|sq<|wp_block<|sr<|ag O rfl rfl fun a O=>nt<|wp_block ?_;change Ag w _ [some (b1,AD (p:Int) (n:Int) T f),some (b2,AQ v),some (b3,AQ u),some (b4,A1 6 (fun _=>.int .u8 (0))),some (b5,A1 6 (fun c=>.int .u8 ((if c<gk then timesV p n T v u c else 0:Nat):Int)))] [] at J;refine Av (fun (kk:Nat) a w'=>kk<=n/\(True)/\Fr 60 a [(3,ptr b1 (0)),(4,ptr b2 (0)),(5,ptr b3 (0)),(6,ptr b4 (0)),(7,ptr b5 (0)),(8,.int .i64 (gk:Int)),(13,.int .i64 (gk:Int)),(14,ptr b1 (0+1)),(15,.int .i64 (n:Int)),(16,.bool (decide (((gk:Int):Int)<(n:Int)))),(10,.int .i64 (gi:Int)),(19,.int .i64 (gi:Int)),(20,ptr b1 (0+1)),(21,.int .i64 (n:Int)),(22,.bool (decide (((gi:Int):Int)<(n:Int)))),(9,.int .i64 (((prodI T v u n gi gk+sumTo (fun j=>v gi*u j*T gi j gk) kk:Nat):Int))),(11,.int .i64 (kk:Int))]/\Ag w w' [some (b1,AD (p:Int) (n:Int) T f),some (b2,AQ v),some (b3,AQ u),some (b4,A1 6 (fun _=>.int .u8 (0))),some (b5,A1 6 (fun c=>.int .u8 ((if c<gk then timesV p n T v u c else 0:Nat):Int)))] []) (fun kk=>n - kk) 0 ?_ ?_
      . refine ⟨by omega,trivial,O.sub _ (by repeat' constructor),?_⟩
        exact J
      clear O J;rintro gj a w' ⟨hgj,hZ,O,J⟩;have hb1:=Jr (T:=T) hv hu hT hn hgi hgj gk;have hb2:=H5 (hv gi) (hu gj) (hT gi gj gk);have hvi:=hv gi;have huj:=hu gj;have htk:=hT gi gj gk;have hvv:=FU (hv gi) (hu gj);refine sq<|sr<|mv O rfl rfl fun a O=>st O (AB AZ O rfl) rfl fun a O=>st O (AP AX O rfl (J.row 0 rfl) (Ao (by omega))) rfl fun a O=>st O (A0 O rfl rfl) rfl fun a O=>nt<|Ab O rfl (fun h8=>?_) (fun h8=>?_)
      . refine wp_skip ?_
        refine tN<|sq<|wp_block<|BV 20 [] [.val (.int .i64 (((prodI T v u n gi gk+sumTo (fun j=>v gi*u j*T gi j gk) gj:Nat):Int))),.val (.int .i64 (gi:Int)),.val (ptr b2 (0+(gi)*1)),.val (.int .u8 ((v (gi):Int))),.val (.int .i64 ((v (gi):Int))),.val (.int .i64 (gj:Int)),.val (ptr b3 (0+(gj)*1)),.val (.int .u8 ((u (gj):Int))),.val (.int .i64 ((u (gj):Int))),.val (.int .i64 ((((v (gi))*(u (gj)):Nat):Int))),.val (.int .i64 (gi:Int)),.val (.int .i64 (gj:Int)),.val (.int .i64 (gk:Int)),.val (ptr b1 (0+2)),.val (ptr b1 (0+2+(gi)*36)),.val (ptr b1 (0+2+(gi)*36+(gj)*6)),.val (ptr b1 (0+2+(gi)*36+(gj)*6+(gk)*1)),.val (.int .u8 ((T (gi) (gj) (gk):Int))),.val (.int .i64 ((T (gi) (gj) (gk):Int))),.val (.int .i64 (((((v (gi))*(u (gj)))*(T (gi) (gj) (gk)):Nat):Int)))] Bf rfl O rfl J ⟨fun a w gG O hS hd=>by exact BP hS rfl O rfl,fun a w gG O hS hd=>by exact BP hS rfl O rfl,fun a w gG O hS hd=>by have O:=O.ext1 32 (hd 1 rfl rfl);exact AA hS rfl (AF A4 O rfl rfl rfl (by omega)),fun a w gG O hS hd=>by have O:=O.ext1 33 (hd 2 rfl rfl);have J:=hS.mem rfl;exact AA hS rfl (AP Ai O rfl (J.row 1 rfl) (Ba (gi) (by omega) (by omega))),fun a w gG O hS hd=>by have O:=O.ext1 34 (hd 3 rfl rfl);exact AA hS rfl (A9 BJ BN O rfl (wrap_i64 (by omega) (by omega))),fun a w gG O hS hd=>by exact BP hS rfl O rfl,fun a w gG O hS hd=>by have O:=O.ext1 36 (hd 5 rfl rfl);exact AA hS rfl (AF A4 O rfl rfl rfl (by omega)),fun a w gG O hS hd=>by have O:=O.ext1 37 (hd 6 rfl rfl);have J:=hS.mem rfl;exact AA hS rfl (AP Ai O rfl (J.row 2 rfl) (Ba (gj) (by omega) (by omega))),fun a w gG O hS hd=>by have O:=O.ext1 38 (hd 7 rfl rfl);exact AA hS rfl (A9 BJ BN O rfl (wrap_i64 (by omega) (by omega))),fun a w gG O hS hd=>by have O:=O.ext1 35 (hd 4 rfl rfl);have O:=O.ext1 39 (hd 8 rfl rfl);exact AA hS rfl (B1 O rfl rfl (Bh (v gi) (u gj) (by omega))),fun a w gG O hS hd=>by exact BP hS rfl O rfl,fun a w gG O hS hd=>by exact BP hS rfl O rfl,fun a w gG O hS hd=>by exact BP hS rfl O rfl,fun a w gG O hS hd=>by exact AA hS rfl (AB Ax O rfl),fun a w gG O hS hd=>by have O:=O.ext1 41 (hd 10 rfl rfl);have O:=O.ext1 44 (hd 13 rfl rfl);exact AA hS rfl (AF BF O rfl rfl rfl (by omega)),fun a w gG O hS hd=>by have O:=O.ext1 42 (hd 11 rfl rfl);have O:=O.ext1 45 (hd 14 rfl rfl);exact AA hS rfl (AF BG O rfl rfl rfl (by omega)),fun a w gG O hS hd=>by have O:=O.ext1 43 (hd 12 rfl rfl);have O:=O.ext1 46 (hd 15 rfl rfl);exact AA hS rfl (AF Bx O rfl rfl rfl (by omega)),fun a w gG O hS hd=>by have O:=O.ext1 47 (hd 16 rfl rfl);have J:=hS.mem rfl;exact AA hS rfl (AP Ai O rfl (J.row 0 rfl) (CR (gi) (gj) (gk) (by omega) (by omega) (by omega) (by omega))),fun a w gG O hS hd=>by have O:=O.ext1 48 (hd 17 rfl rfl);exact AA hS rfl (A9 BJ BN O rfl (wrap_i64 (by omega) (by omega))),fun a w gG O hS hd=>by have O:=O.ext1 40 (hd 9 rfl rfl);have O:=O.ext1 49 (hd 18 rfl rfl);exact AA hS rfl (B1 O rfl rfl (Bh (v gi*u gj) (T gi gj gk) (by omega))),trivial⟩ ?_;intro a w' L O hS hq;have O:=O.ext1 31 (hq 0 rfl rfl);have O:=O.ext1 32 (hq 1 rfl rfl);have O:=O.ext1 33 (hq 2 rfl rfl);have O:=O.ext1 34 (hq 3 rfl rfl);have O:=O.ext1 35 (hq 4 rfl rfl);have O:=O.ext1 36 (hq 5 rfl rfl);have O:=O.ext1 37 (hq 6 rfl rfl);have O:=O.ext1 38 (hq 7 rfl rfl);have O:=O.ext1 39 (hq 8 rfl rfl);have O:=O.ext1 40 (hq 9 rfl rfl);have O:=O.ext1 41 (hq 10 rfl rfl)
        have O:=O.ext1 42 (hq 11 rfl rfl);have O:=O.ext1 43 (hq 12 rfl rfl);have O:=O.ext1 44 (hq 13 rfl rfl);have O:=O.ext1 45 (hq 14 rfl rfl);have O:=O.ext1 46 (hq 15 rfl rfl);have O:=O.ext1 47 (hq 16 rfl rfl);have O:=O.ext1 48 (hq 17 rfl rfl);have O:=O.ext1 49 (hq 18 rfl rfl);have O:=O.ext1 50 (hq 19 rfl rfl);have J:=hS.mem rfl;change wpList Try.prog _ _ [_,_] _ _;refine st O (Ap O rfl rfl (show _=((prodI T v u n gi gk+sumTo (fun j=>v gi*u j*T gi j gk) (gj+1):Nat):Int) from (HA (by omega) (by simp only [sumTo,Nat.add_assoc])))) rfl fun a O=>ag O rfl rfl fun a O=>wpList_nil<|iN<|tN<|wp_region_lit<|mv O rfl rfl fun a O=>st O (Ap O rfl rfl (Af (gj) (1) (by omega))) rfl fun a O=>ag O rfl rfl fun a O=>nt<|⟨gj+1,⟨by omega,trivial,O.sub _ (by repeat' constructor),?_⟩,by omega⟩;exact J
      obtain rfl:n=gj:=by omega
      refine wp_exit<|tX<|tX<|Am<|iN<|tN<|wp_region_lit<|mv O rfl rfl fun a O=>st O (Ap O rfl rfl (Af (gi) (1) (by omega))) rfl fun a O=>ag O rfl rfl fun a O=>nt<|⟨gi+1,⟨by omega,trivial,O.sub _ (by repeat' constructor),?_⟩,by omega⟩;exact J
    obtain rfl:n=gi:=by omega
    refine wp_exit<|tX<|tX<|Am<|tN<|wp_region_lit<|mv O rfl rfl fun a O=>mv O rfl rfl fun a O=>st O (AB A2 O rfl) rfl fun a O=>st O (AP AX O rfl (J.row 0 rfl) (BU (by omega))) rfl fun a O=>st O (CY O rfl rfl (by omega) (CS (prodI T v u n n gk) (p))) rfl fun a O=>st O (A9 B8 B9 O rfl (Il hp hO)) rfl fun a O=>st O (AF A4 O rfl rfl rfl (by omega)) rfl fun a O=>BQ O (Az 4 J rfl Ai O rfl rfl rfl (by first | omega | (simp only [Aa]<;>omega) | (simp only [Array.size_setIfInBounds];omega) | simp)) ?_;intro _ w' a J O;rw [show (A1 6 (fun c=>.int .u8 ((if c<gk then timesV p n T v u c else 0:Nat):Int))).setIfInBounds (0+(gk)*1) (.int .u8 ((((prodI T v u n n gk)%(p):Nat):Int)))=A1 6 (fun c=>.int .u8 (((if c=gk then (prodI T v u n n gk)%(p) else if c<gk then timesV p n T v u c else 0):Nat):Int)) from Bv (fun c _=>by rw [show 0+(gk)*1=gk by omega];by_cases hh:c=gk<;>simp [hh])] at J;change Ag _ _ [_,_,_,_,_] [] at J;refine wpList_nil<|iN<|tN<|wp_region_lit<|mv O rfl rfl fun a O=>st O (Ap O rfl rfl (Af (gk) (1) (by omega))) rfl fun a O=>ag O rfl rfl fun a O=>nt<|⟨gk+1,⟨by omega,trivial,O.sub _ (by repeat' constructor),?_⟩,by omega⟩;exact J.rowc 4 rfl (BS fun c hc=>congrArg (Value.int .u8) (Pl rfl fun _=>rfl))
  obtain rfl:n=gk:=by omega
  refine wp_exit<|tX<|tX<|Am<|tN<|sr<|st O (AE Aq O rfl (J.row 4 rfl) (by simp only [Aa]<;>omega) (whole (by simp only [Aa]))) rfl fun a O=>BQ O (AJ 3 J rfl A3 O rfl rfl (by first | exact At | exact cells_one | (refine Bd fun _ _=>?_;first | rfl | (split<;>rfl))) (by simp only [Aa]) (by simp only [Aa]<;>omega) (AH _ _ (by simp only [Aa]))) ?_;intro _ w' a J O;change Ag _ _ [_,_,_,some (b4,A1 6 (fun c=>.int .u8 ((if c<n then timesV p n T v u c else 0:Nat):Int))),_] [] at J;refine nt<|wp_ret<|BC rfl O.defers (A5 Aq O rfl (J.row 3 rfl) (by simp only [Aa])) ⟨_,rfl,J.below,?_⟩
  show _=_
  exact congrArg Value.agg (BS fun c hc=>rfl)
theorem B5 (i:Nat)(w:World)(hi:i<6) :
    CallsR Try.prog 143 #[.int .i64 (i:Int)] w (fun res _=>res = .agg (AQ (fun c=>if c=i then 1 else 0))):=by
  refine Al [.int .i64 (i:Int)] Try.func143 rfl Try.ntmps143 rfl fun a O=>?_;have J:Ag w w [none,none] []:=MemX.start w 2;change Fr 8 a [(0,.int .i64 (i:Int))] at O;refine sr<|Ar O (Ah 0 J BE) rfl ?_;rintro _ w' a ⟨b1,rfl,J,-⟩ O;refine ns<|st O (Bo CO) rfl fun a O=>Ar O (Ah 1 J BE) rfl ?_;rintro _ w' a ⟨b2,rfl,J,-⟩ O;change Ag _ _ [some (b1,A1 6 (fun _=>.int .u8 (0))),some (b2,A1 6 (fun _=>.int .u8 (0)))] [] at J;refine BQ O (AJ 1 J rfl A3 O rfl rfl (by first | exact At | exact cells_one | (refine Bd fun _ _=>?_;first | rfl | (split<;>rfl))) (by simp only [Aa]) (by simp only [Aa]<;>omega) (AH _ _ (by simp only [Aa]))) ?_;intro _ w' a J O;change Ag _ _ [_,some (b2,A1 6 (fun _=>.int .u8 (0)))] [] at J;refine ns<|mv O rfl rfl fun a O=>st O (AF A4 O rfl rfl rfl (by omega)) rfl fun a O=>BQ O (Az 1 J rfl Ai O rfl rfl rfl (by first | omega | (simp only [Aa]<;>omega) | (simp only [Array.size_setIfInBounds];omega) | simp)) ?_;intro _ w' a J O;rw [show (A1 6 (fun x=>.int .u8 (0))).setIfInBounds (0+(i)*1) (.int .u8 (1))=A1 6 (fun x=>.int .u8 (((if x=i then 1 else 0):Nat):Int)) from Bv (fun x _=>by rw [show 0+(i)*1=i by omega];by_cases hh:x=i<;>simp [hh])] at J;change Ag _ _ [_,_] [] at J;refine ns<|st O (AE Aq O rfl (J.row 1 rfl) (by simp only [Aa]<;>omega) (whole (by simp only [Aa]))) rfl fun a O=>BQ O (AJ 0 J rfl A3 O rfl rfl (by first | exact At | exact cells_one | (refine Bd fun _ _=>?_;first | rfl | (split<;>rfl))) (by simp only [Aa]) (by simp only [Aa]<;>omega) (AH _ _ (by simp only [Aa]))) ?_;intro _ w' a J O;change Ag _ _ [some (b1,A1 6 (fun x=>.int .u8 (((if x=i then 1 else 0):Nat):Int))),_] [] at J;refine nt<|wp_ret<|BC rfl O.defers (A5 Aq O rfl (J.row 0 rfl) (by simp only [Aa])) ⟨_,rfl,J.below,?_⟩
  show _=_
  rfl
theorem PC (p n:Nat)(T:Nat->Nat->Nat->Nat)(f v:Nat->Nat)(w:World)(hp:0<p)(hf:∀ i,f i<=255)(hv:∀ i,v i<=255) :
    CallsR Try.prog 106 #[.agg (AD (p:Int) (n:Int) T f),.agg (AQ v)] w (fun res _=>res = .int .i64 ((sumTo (fun i=>v i*f i) 6%p:Nat):Int)):=by
  refine Al [.agg (AD (p:Int) (n:Int) T f),.agg (AQ v)] Try.func106 rfl Try.ntmps106 rfl fun a O=>?_;have J:Ag w w [none,none] []:=MemX.start w 2;change Fr 28 a [(0,.agg (AD (p:Int) (n:Int) T f)),(1,.agg (AQ v))] at O;refine sr<|Ar O (BI 0 J O rfl) rfl ?_;rintro _ w' a ⟨b1,rfl,J,-⟩ O;refine Ar O (BI 1 J O rfl) rfl ?_;rintro _ w' a ⟨b2,rfl,J,-⟩ O;change Ag _ _ [some (b1,AD (p:Int) (n:Int) T f),some (b2,AQ v)] [] at J;refine ag O rfl rfl fun a O=>ns<|ag O rfl rfl fun a O=>nt<|sq<|sr<|st O (AE Aq O rfl (J.row 1 rfl) (by simp only [Aa]<;>omega) (whole (by simp only [Aa]))) rfl fun a O=>mv O rfl rfl fun a O=>nt<|wp_block ?_;change Ag _ _ [_,_] [] at J;refine Av (fun (kk:Nat) a w'=>kk<=6/\(True)/\Fr 28 a [(2,ptr b1 (0)),(4,.int .i64 (0)),(8,.agg (AQ v)),(5,.int .i64 ((sumTo (fun i=>v i*f i) kk:Int))),(9,.int .i64 (kk:Int))]/\Ag w w' [some (b1,AD (p:Int) (n:Int) T f),some (b2,AQ v)] []) (fun kk=>6 - kk) 0 ?_ ?_
  . refine ⟨by omega,trivial,O.sub _ (by repeat' constructor),?_⟩
    exact J
  clear O J;rintro gk a w' ⟨hgk,hH,O,J⟩;have hvi:=hv gk;have hfi:=hf gk;have hvv:=FU (hv gk) (hf gk);have hvf:=FU (hf gk) (hv gk);have hsb:=sumTo_le (m:=gk) (c:=65025) fun i (_:i<gk)=>FU (hv i) (hf i);refine sr<|st O (A0 O rfl rfl) rfl fun a O=>nt<|sq<|Ab O rfl (fun h3=>?_) (fun h3=>?_)
  . refine wp_skip ?_
    refine tN<|sq<|wp_block<|sr<|mv O rfl rfl fun a O=>st O (G3 EL Ai O rfl rfl rfl (by omega) (Ba (gk) (by omega) (by omega))) rfl fun a O=>ag O rfl rfl fun a O=>ag O rfl rfl fun a O=>nt<|wp_region_lit<|mv O rfl rfl fun a O=>mv O rfl rfl fun a O=>st O (A9 BJ BN O rfl (wrap_i64 (by omega) (by omega))) rfl fun a O=>mv O rfl rfl fun a O=>st O (AB BO O rfl) rfl fun a O=>st O (AF A4 O rfl rfl rfl (by omega)) rfl fun a O=>st O (AP Ai O rfl (J.row 0 rfl) (Cu (gk) (by omega) (by omega))) rfl fun a O=>st O (A9 BJ BN O rfl (wrap_i64 (by omega) (by omega))) rfl fun a O=>st O (B1 O rfl rfl (Bh (v gk) (f gk) (by omega))) rfl fun a O=>st O (Ap O rfl rfl (show _=(sumTo (fun i=>v i*f i) (gk+1):Int) from (HA (by omega) rfl))) rfl fun a O=>ag O rfl rfl fun a O=>wpList_nil<|iN<|tN<|wp_region_lit<|st O (Ap O rfl rfl (Af (gk) (1) (by omega))) rfl fun a O=>mv O rfl rfl fun a O=>nt<|⟨gk+1,⟨by omega,trivial,O.sub _ (by repeat' constructor),?_⟩,by omega⟩;exact J
  obtain rfl:6=gk:=by omega
  refine wp_exit<|tX<|tX<|Am<|tN<|sr<|mv O rfl rfl fun a O=>st O (AB A2 O rfl) rfl fun a O=>st O (AP AX O rfl (J.row 0 rfl) (BU (by omega))) rfl fun a O=>st O (CY O rfl rfl (by omega) (CS (sumTo (fun i=>v i*f i) 6) (p))) rfl fun a O=>ag O rfl rfl fun a O=>nt<|wp_ret<|BC rfl O.defers (Ad O rfl) ⟨_,rfl,J.below,?_⟩
  show _=_
  rfl
theorem GZ (p n:Nat)(T:Nat->Nat->Nat->Nat)(f v:Nat->Nat)(w:World)(hp:0<p)(hf:∀ i,f i<=255)(hv:∀ i,v i<=255) :
    CallsR Try.prog 107 #[.agg (AD (p:Int) (n:Int) T f),.agg (AQ v)] w (fun res _=>res = .int .i64 ((sumTo (fun i=>f i*v i) 6%p:Nat):Int)):=by
  refine Al [.agg (AD (p:Int) (n:Int) T f),.agg (AQ v)] Try.func107 rfl Try.ntmps107 rfl fun a O=>?_;have J:Ag w w [none,none] []:=MemX.start w 2;change Fr 27 a [(0,.agg (AD (p:Int) (n:Int) T f)),(1,.agg (AQ v))] at O;refine sr<|Ar O (BI 0 J O rfl) rfl ?_;rintro _ w' a ⟨b1,rfl,J,-⟩ O;refine Ar O (BI 1 J O rfl) rfl ?_;rintro _ w' a ⟨b2,rfl,J,-⟩ O;refine ag O rfl rfl fun a O=>ns<|ag O rfl rfl fun a O=>nt<|sq<|sr<|ag O rfl rfl fun a O=>nt<|wp_block ?_;change Ag _ _ [some (b1,AD (p:Int) (n:Int) T f),some (b2,AQ v)] [] at J;refine Av (fun (kk:Nat) a w'=>kk<=6/\(True)/\Fr 27 a [(2,ptr b1 (0)),(3,ptr b2 (0)),(4,.int .i64 (0)),(5,.int .i64 ((sumTo (fun i=>f i*v i) kk:Int))),(6,.int .i64 (kk:Int))]/\Ag w w' [some (b1,AD (p:Int) (n:Int) T f),some (b2,AQ v)] []) (fun kk=>6 - kk) 0 ?_ ?_
  . refine ⟨by omega,trivial,O.sub _ (by repeat' constructor),?_⟩
    exact J
  clear O J;rintro gk a w' ⟨hgk,hH,O,J⟩;have hvi:=hv gk;have hfi:=hf gk;have hvv:=FU (hv gk) (hf gk);have hvf:=FU (hf gk) (hv gk);have hsb:=sumTo_le (m:=gk) (c:=65025) fun i (_:i<gk)=>FU (hf i) (hv i);refine sq<|sr<|mv O rfl rfl fun a O=>st O (A0 O rfl rfl) rfl fun a O=>nt<|Ab O rfl (fun h3=>?_) (fun h3=>?_)
  . refine wp_skip ?_
    refine tN<|sq<|wp_block<|BV 11 [] [.val (.int .i64 ((sumTo (fun i=>f i*v i) gk:Int))),.val (.int .i64 (gk:Int)),.val (ptr b1 (0+218)),.val (ptr b1 (0+218+(gk)*1)),.val (.int .u8 ((f (gk):Int))),.val (.int .i64 ((f (gk):Int))),.val (.int .i64 (gk:Int)),.val (ptr b2 (0+(gk)*1)),.val (.int .u8 ((v (gk):Int))),.val (.int .i64 ((v (gk):Int))),.val (.int .i64 ((((f (gk))*(v (gk)):Nat):Int)))] Bf rfl O rfl J ⟨fun a w gG O hS hd=>by exact BP hS rfl O rfl,fun a w gG O hS hd=>by exact BP hS rfl O rfl,fun a w gG O hS hd=>by exact AA hS rfl (AB BO O rfl),fun a w gG O hS hd=>by have O:=O.ext1 12 (hd 1 rfl rfl);have O:=O.ext1 13 (hd 2 rfl rfl);exact AA hS rfl (AF A4 O rfl rfl rfl (by omega)),fun a w gG O hS hd=>by have O:=O.ext1 14 (hd 3 rfl rfl);have J:=hS.mem rfl;exact AA hS rfl (AP Ai O rfl (J.row 0 rfl) (Cu (gk) (by omega) (by omega))),fun a w gG O hS hd=>by have O:=O.ext1 15 (hd 4 rfl rfl);exact AA hS rfl (A9 BJ BN O rfl (wrap_i64 (by omega) (by omega))),fun a w gG O hS hd=>by exact BP hS rfl O rfl,fun a w gG O hS hd=>by have O:=O.ext1 17 (hd 6 rfl rfl);exact AA hS rfl (AF A4 O rfl rfl rfl (by omega)),fun a w gG O hS hd=>by have O:=O.ext1 18 (hd 7 rfl rfl);have J:=hS.mem rfl;exact AA hS rfl (AP Ai O rfl (J.row 1 rfl) (Ba (gk) (by omega) (by omega))),fun a w gG O hS hd=>by have O:=O.ext1 19 (hd 8 rfl rfl);exact AA hS rfl (A9 BJ BN O rfl (wrap_i64 (by omega) (by omega))),fun a w gG O hS hd=>by have O:=O.ext1 16 (hd 5 rfl rfl);have O:=O.ext1 20 (hd 9 rfl rfl);exact AA hS rfl (B1 O rfl rfl (Bh (f gk) (v gk) (by omega))),trivial⟩ ?_;intro a w' L O hS hq;have O:=O.ext1 11 (hq 0 rfl rfl);have O:=O.ext1 12 (hq 1 rfl rfl);have O:=O.ext1 13 (hq 2 rfl rfl);have O:=O.ext1 14 (hq 3 rfl rfl);have O:=O.ext1 15 (hq 4 rfl rfl);have O:=O.ext1 16 (hq 5 rfl rfl);have O:=O.ext1 17 (hq 6 rfl rfl);have O:=O.ext1 18 (hq 7 rfl rfl);have O:=O.ext1 19 (hq 8 rfl rfl);have O:=O.ext1 20 (hq 9 rfl rfl);have O:=O.ext1 21 (hq 10 rfl rfl);have J:=hS.mem rfl;change wpList Try.prog _ _ [_,_] _ _;refine st O (Ap O rfl rfl (show _=(sumTo (fun i=>f i*v i) (gk+1):Int) from (HA (by omega) rfl))) rfl fun a O=>ag O rfl rfl fun a O=>wpList_nil<|iN<|tN<|wp_region_lit<|mv O rfl rfl fun a O=>st O (Ap O rfl rfl (Af (gk) (1) (by omega))) rfl fun a O=>ag O rfl rfl fun a O=>nt<|⟨gk+1,⟨by omega,trivial,O.sub _ (by repeat' constructor),?_⟩,by omega⟩;exact J
  obtain rfl:6=gk:=by omega
  refine wp_exit<|tX<|tX<|Am<|tN<|sr<|mv O rfl rfl fun a O=>st O (AB A2 O rfl) rfl fun a O=>st O (AP AX O rfl (J.row 0 rfl) (BU (by omega))) rfl fun a O=>st O (CY O rfl rfl (by omega) (CS (sumTo (fun i=>f i*v i) 6) (p))) rfl fun a O=>ag O rfl rfl fun a O=>nt<|wp_ret<|BC rfl O.defers (Ad O rfl) ⟨_,rfl,J.below,?_⟩
  show _=_
  rfl
theorem Ha (x p:Nat)(w:World)(hp:0<p)(hO:p<100)(hx:x<=255) :
    CallsR Try.prog 170 #[.int .u8 (x:Int),.int .i64 (p:Int)] w (fun res _=>res = .int .i64 (invN x p:Int)):=by
  refine Al [.int .u8 (x:Int),.int .i64 (p:Int)] Try.func170 rfl Try.ntmps170 rfl fun a O=>?_;have J:Ag w w [] []:=MemX.start w 0;change Fr 19 a [(0,.int .u8 (x:Int)),(1,.int .i64 (p:Int))] at O;refine sr<|ag O rfl rfl fun a O=>nt<|sq<|sr<|mv O rfl rfl fun a O=>mv O rfl rfl fun a O=>nt<|wp_block ?_;change Ag w _ [] [] at J;refine Av (fun (kk:Nat) a w'=>kk<=p/\(∀ c,c<kk->¬ c*x%p=1)/\Fr 19 a [(0,.int .u8 (x:Int)),(1,.int .i64 (p:Int)),(6,.int .i64 (p:Int)),(7,.int .i64 (kk:Int))]/\Ag w w' [] []) (fun kk=>p - kk) 0 ?_ ?_
  . refine ⟨by omega,fun c hc=>absurd hc (by omega),O.sub _ (by repeat' constructor),?_⟩
    exact J
  clear O J;rintro gk a w' ⟨hgk,hH,O,J⟩;have hkx:gk*x<=100*255:=Nat.mul_le_mul (by omega) hx;refine sr<|st O (A0 O rfl rfl) rfl fun a O=>nt<|sq<|Ab O rfl (fun h1=>?_) (fun h1=>?_)
  . refine wp_skip ?_
    refine tN<|sq<|wp_block<|sr<|mv O rfl rfl fun a O=>ag O rfl rfl fun a O=>ns<|mv O rfl rfl fun a O=>mv O rfl rfl fun a O=>st O (A9 BJ BN O rfl (wrap_i64 (by omega) (by omega))) rfl fun a O=>st O (B1 O rfl rfl (Bh gk x (by omega))) rfl fun a O=>mv O rfl rfl fun a O=>Ar O (Ae Try.call115 O (.cons rfl (.cons rfl .nil)) (Fl ((gk)*(x)) (p) _ (by omega) (by omega) (by omega))) rfl ?_;rintro _ w' a ⟨hx,rfl⟩ O;have J:=J.ext hx;refine st O (Bk O rfl rfl) rfl fun a O=>nt<|Ab O rfl (fun h2=>?_) (fun h2=>?_)
    . refine sq ?_
      refine wp_region_lit<|mv O rfl rfl fun a O=>ag O rfl rfl fun a O=>nt<|wp_ret<|iR<|tR<|tR<|iR<|tR<|BC rfl O.defers (Ad O rfl) ⟨_,rfl,J.below,?_⟩
      show _=_
      exact congrArg (fun y:Nat=>Value.int .i64 (y:Int)) (JT (by omega) hH (by omega)).symm
    refine wp_skip<|iN<|tN<|wp_region_lit<|st O (Ap O rfl rfl (Af (gk) (1) (by omega))) rfl fun a O=>mv O rfl rfl fun a O=>nt<|⟨gk+1,⟨by omega,noS hH (by assumption),O.sub _ (by repeat' constructor),?_⟩,by omega⟩;exact J
  obtain rfl:p=gk:=by omega
  refine wp_exit<|tX<|tX<|Am<|tN<|sr<|ag O rfl rfl fun a O=>nt<|wp_ret<|BC rfl O.defers (Ad O rfl) ⟨_,rfl,J.below,?_⟩
  show _=_
  exact congrArg (fun y:Nat=>Value.int .i64 (y:Int)) (JU hH).symm
theorem DU (x:Int)(p:Nat)(w:World)(hp:0<p)(hO:p<100)(hx:-1000000000<x)(hx2:x<1000000000) :
    CallsR Try.prog 153 #[.int .i64 (p:Int),.int .i64 (x)] w (fun res _=>res = .int .i64 (x%(p:Int))):=by
  refine Al [.int .i64 (p:Int),.int .i64 (x)] Try.func153 rfl Try.ntmps153 rfl fun a O=>?_;have J:Ag w w [] []:=MemX.start w 0;change Fr 12 a [(0,.int .i64 (p:Int)),(1,.int .i64 (x))] at O;have h1:=Jn x p hp;have h2:=MV x p hp;refine sr<|ag O rfl rfl fun a O=>ns<|mv O rfl rfl fun a O=>mv O rfl rfl fun a O=>st O (CY O rfl rfl (by omega) rfl) rfl fun a O=>mv O rfl rfl fun a O=>st O (Ap O rfl rfl (wrap_i64 (by omega) (by omega))) rfl fun a O=>mv O rfl rfl fun a O=>st O (CY O rfl rfl (by omega) (KW x p hp)) rfl fun a O=>ag O rfl rfl fun a O=>nt<|wp_ret<|BC rfl O.defers (Ad O rfl) ⟨_,rfl,J.below,?_⟩
  show _=_
  rfl
theorem GY (x p:Nat)(w:World)(hp:0<p)(hO:p<100)(hx:x<1000000000):CallsR Try.prog 153 #[.int .i64 (p:Int),.int .i64 (x:Int)] w (fun res _=>res = .int .i64 ((x%p:Nat):Int)):=DU x p w hp hO (by omega) (by omega)
theorem Iy (x p:Nat)(w:World)(hp:0<p)(hO:p<100)(hx:x<p) :
    CallsR Try.prog 173 #[.int .i64 (p:Int),.int .i64 (x:Int)] w (fun res _=>res = .int .i64 (invN x p:Int)):=by
  refine Al [.int .i64 (p:Int),.int .i64 (x:Int)] Try.func173 rfl Try.ntmps173 rfl fun a O=>?_;have J:Ag w w [] []:=MemX.start w 0;change Fr 20 a [(0,.int .i64 (p:Int)),(1,.int .i64 (x:Int))] at O;refine sr<|ag O rfl rfl fun a O=>nt<|sq<|sr<|ag O rfl rfl fun a O=>nt<|wp_block ?_;change Ag w _ [] [] at J;refine Av (fun (kk:Nat) a w'=>kk<=p/\(∀ c,c<kk->¬ c*x%p=1)/\Fr 20 a [(0,.int .i64 (p:Int)),(1,.int .i64 (x:Int)),(5,.int .i64 (kk:Int))]/\Ag w w' [] []) (fun kk=>p - kk) 1 ?_ ?_
  . refine ⟨by omega,fun c hc=>by rw [show c=0 by omega,Nat.zero_mul,Nat.zero_mod];decide,O.sub _ (by repeat' constructor),?_⟩
    exact J
  clear O J;rintro gk a w' ⟨hgk,hH,O,J⟩;have hkx:gk*x<=100*100:=Nat.mul_le_mul (by omega) (by omega);have hxm:x%p=x:=Nat.mod_eq_of_lt hx;refine sq<|sr<|mv O rfl rfl fun a O=>mv O rfl rfl fun a O=>st O (A0 O rfl rfl) rfl fun a O=>nt<|Ab O rfl (fun h1=>?_) (fun h1=>?_)
  . refine wp_skip ?_
    refine tN<|sq<|wp_block<|sr<|mv O rfl rfl fun a O=>mv O rfl rfl fun a O=>mv O rfl rfl fun a O=>Ar O (Ae Try.call153 O (.cons rfl (.cons rfl .nil)) (GY (x) (p) _ (by omega) (by omega) (by omega))) rfl ?_;rintro _ w' a ⟨hx,rfl⟩ O;have J:=J.ext hx;refine st O (B1 O rfl rfl (show _=((gk*x:Nat):Int) from (by rw [hxm];exact Bh gk x (by omega)))) rfl fun a O=>mv O rfl rfl fun a O=>st O (CY O rfl rfl (by omega) (CS (gk*x) (p))) rfl fun a O=>st O (Bk O rfl rfl) rfl fun a O=>nt<|Ab O rfl (fun h2=>?_) (fun h2=>?_)
    . refine sq ?_
      refine wp_region_lit<|mv O rfl rfl fun a O=>ag O rfl rfl fun a O=>nt<|wp_ret<|iR<|tR<|tR<|iR<|tR<|BC rfl O.defers (Ad O rfl) ⟨_,rfl,J.below,?_⟩
      show _=_
      exact congrArg (fun y:Nat=>Value.int .i64 (y:Int)) (JT (by omega) hH (by omega)).symm
    refine wp_skip<|iN<|tN<|wp_region_lit<|mv O rfl rfl fun a O=>st O (Ap O rfl rfl (Af (gk) (1) (by omega))) rfl fun a O=>ag O rfl rfl fun a O=>nt<|⟨gk+1,⟨by omega,noS hH (by assumption),O.sub _ (by repeat' constructor),?_⟩,by omega⟩;exact J
  obtain rfl:p=gk:=by omega
  refine wp_exit<|tX<|tX<|Am<|tN<|sr<|ag O rfl rfl fun a O=>nt<|wp_ret<|BC rfl O.defers (Ad O rfl) ⟨_,rfl,J.below,?_⟩
  show _=_
  exact congrArg (fun y:Nat=>Value.int .i64 (y:Int)) (JU hH).symm
def Kd (p n:Int) (T:Nat->Nat->Nat->Nat) (i j:Nat):Prop:=¬ ((¬ ((i:Int)<n/\(j:Int)<n)/\¬ IA 6 (T i j) (fun _=>0))\/¬ okV p n (T i j))
instance (p n:Int) (T:Nat->Nat->Nat->Nat) (i j:Nat):Decidable (Kd p n T i j):=by unfold Kd;infer_instance
def KG (m:Nat) (q:Nat->Nat->Prop):Prop:=∀ i,i<m->∀ j,j<m->q i j
instance (m:Nat) (q:Nat->Nat->Prop) [∀ i j,Decidable (q i j)]:Decidable (KG m q):=by unfold KG;exact Nat.decidableBallLT m _
theorem Fu {m:Nat}{q:Nat->Nat->Prop}(i j:Nat)(hi:i<m)(hj:j<m)(h:¬ q i j):¬ KG m q:=fun ha=>h (ha i hi j hj)
theorem Ei {q:Nat->Prop}{k:Nat}(h:∀ i,i<k->q i)(hk:q k):∀ i,i<k+1->q i:=fun i hi=>by
  by_cases e:i=k
  . subst e;exact hk
  . exact h i (by omega)
def Gp (p n:Int) (T:Nat->Nat->Nat->Nat) (i j:Nat):Prop:=okV p (if (i:Int)≥n\/(j:Int)≥n then 0 else n) (T i j)
instance (p n:Int) (T:Nat->Nat->Nat->Nat) (i j:Nat):Decidable (Gp p n T i j):=by unfold Gp;infer_instance
def DR (p n:Int) (T:Nat->Nat->Nat->Nat) (f:Nat->Nat):Prop:=BT p/\(1<=n/\n<=6)/\okV p n f/\KG 6 (Gp p n T)
instance (p n:Int) (T:Nat->Nat->Nat->Nat) (f:Nat->Nat):Decidable (DR p n T f):=by unfold DR;infer_instance
theorem Hu (p n:Int)(T:Nat->Nat->Nat->Nat)(f:Nat->Nat)(w:World)(hT:∀ i j k,T i j k<=255)(hf:∀ i,f i<=255) :
    CallsR Try.prog 92 #[.agg (AD p n T f)] w (fun res _=>res = .bool (decide (KG 6 (Kd p n T)))):=by
  refine Al [.agg (AD p n T f)] Try.func92 rfl Try.ntmps92 rfl fun a O=>?_;have J:Ag w w [none,none,none] []:=MemX.start w 3;change Fr 44 a [(0,.agg (AD p n T f))] at O;refine sr<|Ar O (BI 0 J O rfl) rfl ?_;rintro _ w' a ⟨b1,rfl,J,-⟩ O;change Ag _ _ [some (b1,AD p n T f),_,_] [] at J;refine ag O rfl rfl fun a O=>nt<|sq<|sr<|st O (AB Ax O rfl) rfl fun a O=>st O (AE Co O rfl (J.row 0 rfl) (by simp only [Aa]<;>omega) (Fv (by omega) (by omega))) rfl fun a O=>mv O rfl rfl fun a O=>nt<|wp_block ?_;change Ag _ _ [_,_,_] [] at J;refine Av (fun (kk:Nat) a w'=>kk<=6/\(∀ i,i<kk->∀ j,j<6->Kd p n T i j)/\Fr 44 a [(1,ptr b1 (0)),(9,.agg (Cp T)),(10,.int .i64 (kk:Int))]/\Ag w w' [some (b1,AD p n T f),none,none] []) (fun kk=>6 - kk) 0 ?_ ?_
  . refine ⟨by omega,fun i hi=>absurd hi (by omega),O.sub _ (by repeat' constructor),?_⟩
    exact J
  clear O J;rintro gi a w' ⟨hgi,hH,O,J⟩;refine sr<|st O (A0 O rfl rfl) rfl fun a O=>nt<|sq<|Ab O rfl (fun h2=>?_) (fun h2=>?_)
  . refine wp_skip ?_
    refine tN<|sq<|wp_block<|sr<|mv O rfl rfl fun a O=>st O (G0 KN DG O rfl rfl rfl (by omega) (E7 (gi) (by omega) (by omega) (by omega))) rfl fun a O=>Ar O (Ah 1 J KM) rfl ?_;rintro _ w' a ⟨b3,rfl,J,-⟩ O;change Ag _ _ [_,some (b3,A1 36 (fun _=>.int .u8 (0))),_] [] at J;refine ag O rfl rfl fun a O=>BQ O (AJ 1 J rfl KQ O rfl rfl (by first | exact At | exact cells_one | (refine Bd fun _ _=>?_;first | rfl | (split<;>rfl))) (by simp only [Aa]) (by simp only [Aa]<;>omega) (AH _ _ (by simp only [Aa]))) ?_;intro _ w' a J O;change Ag _ _ [_,some (b3,Db (T (gi))),_] [] at J;refine ns<|st O (AE DG O rfl (J.row 1 rfl) (by simp only [Aa]<;>omega) (whole (by simp only [Aa]))) rfl fun a O=>mv O rfl rfl fun a O=>nt<|wp_block ?_;change Ag _ _ [_,_,_] [] at J;refine Av (fun (kk:Nat) a w'=>kk<=6/\(∀ j,j<kk->Kd p n T gi j)/\Fr 44 a [(1,ptr b1 (0)),(9,.agg (Cp T)),(10,.int .i64 (gi:Int)),(11,.bool (decide (((gi:Int):Int)<6))),(12,.int .i64 (gi:Int)),(13,.agg (Db (T (gi)))),(4,ptr b3 (0)),(3,.int .i64 (gi:Int)),(14,.agg (Db (T (gi)))),(15,.int .i64 (kk:Int))]/\Ag w w' [some (b1,AD p n T f),some (b3,Db (T (gi))),none] []) (fun kk=>6 - kk) 0 ?_ ?_
    . refine ⟨by omega,fun i hi=>absurd hi (by omega),O.sub _ (by repeat' constructor),?_⟩
      exact J
    clear O J;rintro gj a w' ⟨hgj,hJ,O,J⟩;refine sr<|st O (A0 O rfl rfl) rfl fun a O=>nt<|sq<|Ab O rfl (fun h4=>?_) (fun h4=>?_)
    . refine wp_skip ?_
      refine tN<|sq<|wp_block<|sr<|mv O rfl rfl fun a O=>st O (G0 KO BY O rfl rfl rfl (by omega) (FA (gj) (by omega) (by omega) (by omega))) rfl fun a O=>Ar O (Ah 2 J Gk) rfl ?_;rintro _ w' a ⟨b5,rfl,J,-⟩ O;change Ag _ _ [_,_,some (b5,A1 6 (fun _=>.int .u8 (0)))] [] at J;refine ag O rfl rfl fun a O=>BQ O (AJ 2 J rfl Cy O rfl rfl At (by simp only [Aa]) (by simp only [Aa]<;>omega) (AH _ _ (by simp only [Aa]))) ?_;intro _ w' a J O;change Ag _ _ [_,_,some (b5,AQ ((T (gi)) (gj)))] [] at J;refine ns<|mv O rfl rfl fun a O=>st O (AB AZ O rfl) rfl fun a O=>st O (AP AX O rfl (J.row 0 rfl) (Ao (by omega))) rfl fun a O=>st O (A0 O rfl rfl) rfl fun a O=>mv O rfl rfl fun a O=>?_
      by_cases g6:((gi:Int):Int)<n
      . first | rw [decide_eq_true g6] at O | simp only [decide_eq_true g6] at O
        refine BX O rfl rfl rfl (Ay O rfl) rfl fun a O=>BX O rfl rfl rfl (AB AZ O rfl) rfl fun a O=>BX O rfl rfl rfl (AP AX O rfl (J.row 0 rfl) (Ao (by omega))) rfl fun a O=>BX O rfl rfl rfl (A0 O rfl rfl) rfl fun a O=>st O (BD O rfl rfl) rfl fun a O=>ag O rfl rfl fun a O=>ns<|mv O rfl rfl fun a O=>st O (CW O rfl) rfl fun a O=>mv O rfl rfl fun a O=>?_
        by_cases g7:¬ (((gj:Int):Int)<n)
        . first | rw [decide_eq_true g7] at O | simp only [decide_eq_true g7] at O
          refine BX O rfl rfl rfl (AE BY O rfl (J.row 2 rfl) (by simp only [Aa]<;>omega) (whole (by simp only [Aa]))) rfl fun a O=>BX O rfl rfl rfl (Bo CO) rfl fun a O=>BX O rfl rfl rfl (ET IG O rfl rfl (CT DZ CL Ai)) rfl fun a O=>st O (BD O rfl rfl) rfl fun a O=>mv O rfl rfl fun a O=>?_
          by_cases g8:¬ (IA 6 (((T (gi)) (gj))) ((fun _=>0)))
          . first | rw [decide_eq_true g8] at O | simp only [decide_eq_true g8] at O
            refine Bm O rfl rfl rfl rfl rfl fun a O=>Bm O rfl rfl rfl rfl rfl fun a O=>Bm O rfl rfl rfl rfl rfl fun a O=>Bm O rfl rfl rfl rfl rfl fun a O=>st O (BD O rfl rfl) rfl fun a O=>nt<|It O rfl<|sr<|ag O rfl rfl fun a O=>nt<|wp_ret<|iR<|tR<|tR<|iR<|iR<|tR<|tR<|iR<|tR<|BC rfl O.defers (Ad O rfl) ⟨_,rfl,J.below,?_⟩
            show _=_
            exact Cd (Fu gi gj (by omega) (by omega) (by unfold Kd;intro hq;apply hq;first | (right;assumption) | (left;exact ⟨by omega,by assumption⟩)))
          first | rw [decide_eq_false g8] at O | simp only [decide_eq_false g8] at O
          refine BX O rfl rfl rfl (AE AI O rfl (J.row 0 rfl) (by simp only [Aa]<;>omega) (whole AG)) rfl fun a O=>BX O rfl rfl rfl (AE BY O rfl (J.row 2 rfl) (by simp only [Aa]<;>omega) (whole (by simp only [Aa]))) rfl fun a O=>D8 O rfl rfl rfl (Ae Try.call91 O (.cons rfl (.cons rfl .nil)) (Dz p n T f (((T (gi)) (gj))) _ (fun _=>by first | exact hv _ | exact hu _ | exact hT _ _ _ | exact hf _ | omega | (split<;>omega) | (dsimp only;split<;>omega) | assumption))) rfl ?_;rintro _ w' a ⟨hx,rfl⟩ O;have J:=J.ext hx;refine BX O rfl rfl rfl (CW O rfl) rfl fun a O=>st O (A8 O rfl rfl) rfl fun a O=>nt<|Ab O rfl (fun h10=>?_) (fun h10=>?_)
          . refine sq ?_
            refine wp_region_lit<|ag O rfl rfl fun a O=>nt<|wp_ret<|iR<|tR<|tR<|iR<|iR<|tR<|tR<|iR<|tR<|BC rfl O.defers (Ad O rfl) ⟨_,rfl,J.below,?_⟩
            show _=_
            exact Cd (Fu gi gj (by omega) (by omega) (by unfold Kd;intro hq;apply hq;first | (right;assumption) | (left;exact ⟨by omega,by assumption⟩)))
          refine wp_skip<|iN<|tN<|wp_region_lit<|st O (Ap O rfl rfl (Af (gj) (1) (by omega))) rfl fun a O=>mv O rfl rfl fun a O=>wpList_nil<|tN ?_;have J:=J.drop 2;refine ⟨gj+1,⟨by omega,Ei hJ (by unfold Kd;simp_all),O.sub _ (by repeat' constructor),?_⟩,by omega⟩;exact J
        first | rw [decide_eq_false g7] at O | simp only [decide_eq_false g7] at O
        refine Bm O rfl rfl rfl rfl rfl fun a O=>Bm O rfl rfl rfl rfl rfl fun a O=>Bm O rfl rfl rfl rfl rfl fun a O=>st O (A8 O rfl rfl) rfl fun a O=>mv O rfl rfl fun a O=>BX O rfl rfl rfl (AE AI O rfl (J.row 0 rfl) (by simp only [Aa]<;>omega) (whole AG)) rfl fun a O=>BX O rfl rfl rfl (AE BY O rfl (J.row 2 rfl) (by simp only [Aa]<;>omega) (whole (by simp only [Aa]))) rfl fun a O=>D8 O rfl rfl rfl (Ae Try.call91 O (.cons rfl (.cons rfl .nil)) (Dz p n T f (((T (gi)) (gj))) _ (fun _=>by first | exact hv _ | exact hu _ | exact hT _ _ _ | exact hf _ | omega | (split<;>omega) | (dsimp only;split<;>omega) | assumption))) rfl ?_;rintro _ w' a ⟨hx,rfl⟩ O;have J:=J.ext hx;refine BX O rfl rfl rfl (CW O rfl) rfl fun a O=>st O (A8 O rfl rfl) rfl fun a O=>nt<|Ab O rfl (fun h11=>?_) (fun h11=>?_)
        . refine sq ?_
          refine wp_region_lit<|ag O rfl rfl fun a O=>nt<|wp_ret<|iR<|tR<|tR<|iR<|iR<|tR<|tR<|iR<|tR<|BC rfl O.defers (Ad O rfl) ⟨_,rfl,J.below,?_⟩
          show _=_
          exact Cd (Fu gi gj (by omega) (by omega) (by unfold Kd;intro hq;apply hq;first | (right;assumption) | (left;exact ⟨by omega,by assumption⟩)))
        refine wp_skip<|iN<|tN<|wp_region_lit<|st O (Ap O rfl rfl (Af (gj) (1) (by omega))) rfl fun a O=>mv O rfl rfl fun a O=>wpList_nil<|tN ?_;have J:=J.drop 2;refine ⟨gj+1,⟨by omega,Ei hJ (by unfold Kd;simp_all),O.sub _ (by repeat' constructor),?_⟩,by omega⟩;exact J
      first | rw [decide_eq_false g6] at O | simp only [decide_eq_false g6] at O
      refine Bm O rfl rfl rfl rfl rfl fun a O=>Bm O rfl rfl rfl rfl rfl fun a O=>Bm O rfl rfl rfl rfl rfl fun a O=>Bm O rfl rfl rfl rfl rfl fun a O=>st O (A8 O rfl rfl) rfl fun a O=>ag O rfl rfl fun a O=>ns<|mv O rfl rfl fun a O=>st O (Cw (b:=false) O rfl) rfl fun a O=>mv O rfl rfl fun a O=>BX O rfl rfl rfl (AE BY O rfl (J.row 2 rfl) (by simp only [Aa]<;>omega) (whole (by simp only [Aa]))) rfl fun a O=>BX O rfl rfl rfl (Bo CO) rfl fun a O=>BX O rfl rfl rfl (ET IG O rfl rfl (CT DZ CL Ai)) rfl fun a O=>st O (BD O rfl rfl) rfl fun a O=>mv O rfl rfl fun a O=>?_
      by_cases g12:¬ (IA 6 (((T (gi)) (gj))) ((fun _=>0)))
      . first | rw [decide_eq_true g12] at O | simp only [decide_eq_true g12] at O
        refine Bm O rfl rfl rfl rfl rfl fun a O=>Bm O rfl rfl rfl rfl rfl fun a O=>Bm O rfl rfl rfl rfl rfl fun a O=>Bm O rfl rfl rfl rfl rfl fun a O=>st O (BD O rfl rfl) rfl fun a O=>nt<|It O rfl<|sr<|ag O rfl rfl fun a O=>nt<|wp_ret<|iR<|tR<|tR<|iR<|iR<|tR<|tR<|iR<|tR<|BC rfl O.defers (Ad O rfl) ⟨_,rfl,J.below,?_⟩
        show _=_
        exact Cd (Fu gi gj (by omega) (by omega) (by unfold Kd;intro hq;apply hq;first | (right;assumption) | (left;exact ⟨by omega,by assumption⟩)))
      first | rw [decide_eq_false g12] at O | simp only [decide_eq_false g12] at O
      refine BX O rfl rfl rfl (AE AI O rfl (J.row 0 rfl) (by simp only [Aa]<;>omega) (whole AG)) rfl fun a O=>BX O rfl rfl rfl (AE BY O rfl (J.row 2 rfl) (by simp only [Aa]<;>omega) (whole (by simp only [Aa]))) rfl fun a O=>D8 O rfl rfl rfl (Ae Try.call91 O (.cons rfl (.cons rfl .nil)) (Dz p n T f (((T (gi)) (gj))) _ (fun _=>by first | exact hv _ | exact hu _ | exact hT _ _ _ | exact hf _ | omega | (split<;>omega) | (dsimp only;split<;>omega) | assumption))) rfl ?_;rintro _ w' a ⟨hx,rfl⟩ O;have J:=J.ext hx;refine BX O rfl rfl rfl (CW O rfl) rfl fun a O=>st O (A8 O rfl rfl) rfl fun a O=>nt<|Ab O rfl (fun h14=>?_) (fun h14=>?_)
      . refine sq ?_
        refine wp_region_lit<|ag O rfl rfl fun a O=>nt<|wp_ret<|iR<|tR<|tR<|iR<|iR<|tR<|tR<|iR<|tR<|BC rfl O.defers (Ad O rfl) ⟨_,rfl,J.below,?_⟩
        show _=_
        exact Cd (Fu gi gj (by omega) (by omega) (by unfold Kd;intro hq;apply hq;first | (right;assumption) | (left;exact ⟨by omega,by assumption⟩)))
      refine wp_skip<|iN<|tN<|wp_region_lit<|st O (Ap O rfl rfl (Af (gj) (1) (by omega))) rfl fun a O=>mv O rfl rfl fun a O=>wpList_nil<|tN ?_;have J:=J.drop 2;refine ⟨gj+1,⟨by omega,Ei hJ (by unfold Kd;simp_all),O.sub _ (by repeat' constructor),?_⟩,by omega⟩;exact J
    obtain rfl:6=gj:=by omega
    refine wp_exit<|tX<|tX<|Am<|iN<|tN<|wp_region_lit<|st O (Ap O rfl rfl (Af (gi) (1) (by omega))) rfl fun a O=>mv O rfl rfl fun a O=>wpList_nil<|tN ?_;have J:=J.drop 1;refine ⟨gi+1,⟨by omega,Ei hH hJ,O.sub _ (by repeat' constructor),?_⟩,by omega⟩;exact J
  obtain rfl:6=gi:=by omega
  refine wp_exit<|tX<|tX<|Am<|tN<|sr<|ag O rfl rfl fun a O=>nt<|wp_ret<|BC rfl O.defers (Ad O rfl) ⟨_,rfl,J.below,?_⟩
  show _=_
  exact Ge hH
theorem Hr (p n:Int)(T:Nat->Nat->Nat->Nat)(f:Nat->Nat)(w:World)(hT:∀ i j k,T i j k<=255)(hf:∀ i,f i<=255) :
    CallsR Try.prog 151 #[.agg (AD p n T f)] w (fun res _=>res = .bool (decide (DR p n T f))):=by
  refine Al [.agg (AD p n T f)] Try.func151 rfl Try.ntmps151 rfl fun a O=>?_;have J:Ag w w [none] []:=MemX.start w 1;change Fr 55 a [(0,.agg (AD p n T f))] at O;refine sr<|Ar O (BI 0 J O rfl) rfl ?_;rintro _ w' a ⟨b1,rfl,J,-⟩ O;change Ag _ _ [some (b1,AD p n T f)] [] at J;refine ag O rfl rfl fun a O=>nt<|sq<|sr<|st O (AB A2 O rfl) rfl fun a O=>st O (AP AX O rfl (J.row 0 rfl) (BU (by omega))) rfl fun a O=>Ar O (Ae Try.call166 O (.cons rfl .nil) (Kk (p) _)) rfl ?_;rintro _ w' a ⟨hx,rfl⟩ O;have J:=J.ext hx;refine st O (CW O rfl) rfl fun a O=>mv O rfl rfl fun a O=>?_
  by_cases g2:¬ (BT (p))
  . first | rw [decide_eq_true g2] at O | simp only [decide_eq_true g2] at O
    refine Bm O rfl rfl rfl rfl rfl fun a O=>Bm O rfl rfl rfl rfl rfl fun a O=>Bm O rfl rfl rfl rfl rfl fun a O=>Bm O rfl rfl rfl rfl rfl fun a O=>st O (BD O rfl rfl) rfl fun a O=>mv O rfl rfl fun a O=>Bm O rfl rfl rfl rfl rfl fun a O=>Bm O rfl rfl rfl rfl rfl fun a O=>Bm O rfl rfl rfl rfl rfl fun a O=>Bm O rfl rfl rfl rfl rfl fun a O=>Bm O rfl rfl rfl rfl rfl fun a O=>Bm O rfl rfl rfl rfl rfl fun a O=>Bm O rfl rfl rfl rfl rfl fun a O=>Bm O rfl rfl rfl rfl rfl fun a O=>st O (BD O rfl rfl) rfl fun a O=>nt<|It O rfl<|sr<|ag O rfl rfl fun a O=>nt<|wp_ret<|tR<|BC rfl O.defers (Ad O rfl) ⟨_,rfl,J.below,?_⟩
    show _=_
    exact Cd (fun hq=>by obtain ⟨q1,q2,q3,q4⟩:=hq;simp_all)
  first | rw [decide_eq_false g2] at O | simp only [decide_eq_false g2] at O
  refine BX O rfl rfl rfl (AB AZ O rfl) rfl fun a O=>BX O rfl rfl rfl (AP AX O rfl (J.row 0 rfl) (Ao (by omega))) rfl fun a O=>D8 O rfl rfl rfl (Ae Try.call101 O (.cons rfl (.cons rfl (.cons rfl .nil))) (Ep (n) (1) (6) _)) rfl ?_;rintro _ w' a ⟨hx,rfl⟩ O;have J:=J.ext hx;refine BX O rfl rfl rfl (CW O rfl) rfl fun a O=>st O (A8 O rfl rfl) rfl fun a O=>mv O rfl rfl fun a O=>?_
  by_cases g4:¬ ((1:Int)<=n/\n<=6)
  . first | rw [decide_eq_true g4] at O | simp only [decide_eq_true g4] at O
    refine Bm O rfl rfl rfl rfl rfl fun a O=>Bm O rfl rfl rfl rfl rfl fun a O=>Bm O rfl rfl rfl rfl rfl fun a O=>Bm O rfl rfl rfl rfl rfl fun a O=>Bm O rfl rfl rfl rfl rfl fun a O=>Bm O rfl rfl rfl rfl rfl fun a O=>Bm O rfl rfl rfl rfl rfl fun a O=>Bm O rfl rfl rfl rfl rfl fun a O=>st O (BD O rfl rfl) rfl fun a O=>nt<|It O rfl<|sr<|ag O rfl rfl fun a O=>nt<|wp_ret<|tR<|BC rfl O.defers (Ad O rfl) ⟨_,rfl,J.below,?_⟩
    show _=_
    exact Cd (fun hq=>by obtain ⟨q1,q2,q3,q4⟩:=hq;simp_all)
  first | rw [decide_eq_false g4] at O | simp only [decide_eq_false g4] at O
  refine BX O rfl rfl rfl (AB A2 O rfl) rfl fun a O=>BX O rfl rfl rfl (AP AX O rfl (J.row 0 rfl) (BU (by omega))) rfl fun a O=>BX O rfl rfl rfl (AB AZ O rfl) rfl fun a O=>BX O rfl rfl rfl (AP AX O rfl (J.row 0 rfl) (Ao (by omega))) rfl fun a O=>BX O rfl rfl rfl (AB BO O rfl) rfl fun a O=>BX O rfl rfl rfl (AE Aq O rfl (J.row 0 rfl) (by simp only [Aa]<;>omega) (EK (by omega) (by omega))) rfl fun a O=>D8 O rfl rfl rfl (Ae Try.call165 O (.cons rfl (.cons rfl (.cons rfl .nil))) (Eb (p) (n) (f) _ (fun _=>by first | exact hv _ | exact hu _ | exact hT _ _ _ | exact hf _ | omega | (split<;>omega) | (dsimp only;split<;>omega) | assumption))) rfl ?_;rintro _ w' a ⟨hx,rfl⟩ O;have J:=J.ext hx;refine BX O rfl rfl rfl (CW O rfl) rfl fun a O=>st O (A8 O rfl rfl) rfl fun a O=>nt<|Ab O rfl (fun h6=>?_) (fun h6=>?_)
  . refine sq ?_
    refine wp_region_lit<|ag O rfl rfl fun a O=>nt<|wp_ret<|tR<|BC rfl O.defers (Ad O rfl) ⟨_,rfl,J.below,?_⟩
    show _=_
    exact Cd (fun hq=>by obtain ⟨q1,q2,q3,q4⟩:=hq;simp_all)
  refine wp_skip<|tN<|sq<|sr<|ag O rfl rfl fun a O=>nt<|wp_block ?_;change Ag w _ [some (b1,AD p n T f)] [] at J;refine Av (fun (kk:Nat) a w'=>kk<=6/\(∀ i,i<kk->∀ j,j<6->Gp p n T i j)/\Fr 55 a [(1,ptr b1 (0)),(25,.bool (decide (¬ (okV (p) (n) (f))))),(3,.int .i64 (kk:Int))]/\Ag w w' [some (b1,AD p n T f)] []) (fun kk=>6 - kk) 0 ?_ ?_
  . refine ⟨by omega,fun i hi=>absurd hi (by omega),O.sub _ (by repeat' constructor),?_⟩
    exact J
  clear O J;rintro gi a w' ⟨hgi,hH,O,J⟩;refine sq<|sr<|mv O rfl rfl fun a O=>st O (A0 O rfl rfl) rfl fun a O=>nt<|Ab O rfl (fun h7=>?_) (fun h7=>?_)
  . refine wp_skip ?_
    refine tN<|sq<|wp_block<|sr<|ag O rfl rfl fun a O=>nt<|wp_block ?_;change Ag w _ [some (b1,AD p n T f)] [] at J;refine Av (fun (kk:Nat) a w'=>kk<=6/\(∀ j,j<kk->Gp p n T gi j)/\Fr 55 a [(1,ptr b1 (0)),(25,.bool (decide (¬ (okV (p) (n) (f))))),(3,.int .i64 (gi:Int)),(26,.int .i64 (gi:Int)),(27,.bool (decide (((gi:Int):Int)<6))),(4,.int .i64 (kk:Int))]/\Ag w w' [some (b1,AD p n T f)] []) (fun kk=>6 - kk) 0 ?_ ?_
    . refine ⟨by omega,fun i hi=>absurd hi (by omega),O.sub _ (by repeat' constructor),?_⟩
      exact J
    clear O J;rintro gj a w' ⟨hgj,hJ,O,J⟩;refine sq<|sr<|mv O rfl rfl fun a O=>st O (A0 O rfl rfl) rfl fun a O=>nt<|Ab O rfl (fun h8=>?_) (fun h8=>?_)
    . refine wp_skip ?_
      refine tN<|sq<|wp_block<|sr<|st O (AB AZ O rfl) rfl fun a O=>st O (AP AX O rfl (J.row 0 rfl) (Ao (by omega))) rfl fun a O=>ag O rfl rfl fun a O=>nt<|sq<|sr<|mv O rfl rfl fun a O=>mv O rfl rfl fun a O=>st O (If O rfl rfl) rfl fun a O=>mv O rfl rfl fun a O=>?_
      by_cases g9:n<=((gi:Int):Int)
      . first | rw [decide_eq_true g9] at O | simp only [decide_eq_true g9] at O
        refine Bm O rfl rfl rfl rfl rfl fun a O=>Bm O rfl rfl rfl rfl rfl fun a O=>Bm O rfl rfl rfl rfl rfl fun a O=>st O (BD O rfl rfl) rfl fun a O=>nt<|It O rfl<|wp_region_lit<|ag O rfl rfl fun a O=>nt<|sq<|BV 9 [] [.val (ptr b1 (0+0)),.val (.int .i64 (p)),.val (.int .i64 (0)),.val (.int .i64 (gi:Int)),.val (.int .i64 (gj:Int)),.val (ptr b1 (0+2)),.val (ptr b1 (0+2+(gi)*36)),.val (ptr b1 (0+2+(gi)*36+(gj)*6)),.val (.agg (AQ (T (gi) (gj))))] Bf rfl O rfl J ⟨fun a w gG O hS hd=>by exact AA hS rfl (AB A2 O rfl),fun a w gG O hS hd=>by have O:=O.ext1 44 (hd 0 rfl rfl);have J:=hS.mem rfl;exact AA hS rfl (AP AX O rfl (J.row 0 rfl) (BU (by omega))),fun a w gG O hS hd=>by exact BP hS rfl O rfl,fun a w gG O hS hd=>by exact BP hS rfl O rfl,fun a w gG O hS hd=>by exact BP hS rfl O rfl,fun a w gG O hS hd=>by exact AA hS rfl (AB Ax O rfl),fun a w gG O hS hd=>by have O:=O.ext1 47 (hd 3 rfl rfl);have O:=O.ext1 49 (hd 5 rfl rfl);exact AA hS rfl (AF BF O rfl rfl rfl (by omega)),fun a w gG O hS hd=>by have O:=O.ext1 48 (hd 4 rfl rfl);have O:=O.ext1 50 (hd 6 rfl rfl);exact AA hS rfl (AF BG O rfl rfl rfl (by omega)),fun a w gG O hS hd=>by have O:=O.ext1 51 (hd 7 rfl rfl);have J:=hS.mem rfl;exact AA hS rfl (AE BY O rfl (J.row 0 rfl) (by simp only [Aa]<;>omega) (CQ (gi) (gj) (by omega) (by omega) (by omega) (by omega))),trivial⟩ ?_;intro a w' L O hS hq;have O:=O.ext1 44 (hq 0 rfl rfl);have O:=O.ext1 45 (hq 1 rfl rfl);have O:=O.ext1 46 (hq 2 rfl rfl);have O:=O.ext1 47 (hq 3 rfl rfl);have O:=O.ext1 48 (hq 4 rfl rfl);have O:=O.ext1 49 (hq 5 rfl rfl);have O:=O.ext1 50 (hq 6 rfl rfl);have O:=O.ext1 51 (hq 7 rfl rfl);have O:=O.ext1 52 (hq 8 rfl rfl);have J:=hS.mem rfl;change wpList Try.prog _ _ [_,_] _ _;refine Ar O (Ae Try.call165 O (.cons rfl (.cons rfl (.cons rfl .nil))) (Eb (p) (0) ((T (gi) (gj))) _ (fun _=>by first | exact hv _ | exact hu _ | exact hT _ _ _ | exact hf _ | omega | (split<;>omega) | (dsimp only;split<;>omega) | assumption))) rfl ?_;rintro _ w' a ⟨hx,rfl⟩ O;have J:=J.ext hx;refine st O (CW O rfl) rfl fun a O=>nt<|Ab O rfl (fun h11=>?_) (fun h11=>?_)
        . refine sq ?_
          refine wp_region_lit<|ag O rfl rfl fun a O=>nt<|wp_ret<|iR<|tR<|tR<|iR<|iR<|tR<|tR<|iR<|tR<|BC rfl O.defers (Ad O rfl) ⟨_,rfl,J.below,?_⟩
          show _=_
          exact Cd (fun hq=>absurd (hq.2.2.2 gi (by omega) gj (by omega)) (by unfold Gp;first | (rw [if_pos (by omega)];first | assumption | exact Classical.byContradiction ‹_›) | (rw [if_neg (by omega)];first | assumption | exact Classical.byContradiction ‹_›)))
        refine wp_skip<|iN<|tN<|wp_region_lit<|mv O rfl rfl fun a O=>st O (Ap O rfl rfl (Af (gj) (1) (by omega))) rfl fun a O=>ag O rfl rfl fun a O=>nt<|⟨gj+1,⟨by omega,Ei hJ (by unfold Gp;first | (rw [if_pos (by omega)];first | assumption | exact Classical.byContradiction ‹_›) | (rw [if_neg (by omega)];first | assumption | exact Classical.byContradiction ‹_›)),O.sub _ (by repeat' constructor),?_⟩,by omega⟩;exact J
      first | rw [decide_eq_false g9] at O | simp only [decide_eq_false g9] at O
      refine BX O rfl rfl rfl (Ay O rfl) rfl fun a O=>BX O rfl rfl rfl (Ay O rfl) rfl fun a O=>BX O rfl rfl rfl (If O rfl rfl) rfl fun a O=>st O (A8 O rfl rfl) rfl fun a O=>nt<|Ab O rfl (fun h12=>?_) (fun h12=>?_)
      . refine wp_region_lit ?_
        refine ag O rfl rfl fun a O=>nt<|sq<|BV 9 [] [.val (ptr b1 (0+0)),.val (.int .i64 (p)),.val (.int .i64 (0)),.val (.int .i64 (gi:Int)),.val (.int .i64 (gj:Int)),.val (ptr b1 (0+2)),.val (ptr b1 (0+2+(gi)*36)),.val (ptr b1 (0+2+(gi)*36+(gj)*6)),.val (.agg (AQ (T (gi) (gj))))] Bf rfl O rfl J ⟨fun a w gG O hS hd=>by exact AA hS rfl (AB A2 O rfl),fun a w gG O hS hd=>by have O:=O.ext1 44 (hd 0 rfl rfl);have J:=hS.mem rfl;exact AA hS rfl (AP AX O rfl (J.row 0 rfl) (BU (by omega))),fun a w gG O hS hd=>by exact BP hS rfl O rfl,fun a w gG O hS hd=>by exact BP hS rfl O rfl,fun a w gG O hS hd=>by exact BP hS rfl O rfl,fun a w gG O hS hd=>by exact AA hS rfl (AB Ax O rfl),fun a w gG O hS hd=>by have O:=O.ext1 47 (hd 3 rfl rfl);have O:=O.ext1 49 (hd 5 rfl rfl);exact AA hS rfl (AF BF O rfl rfl rfl (by omega)),fun a w gG O hS hd=>by have O:=O.ext1 48 (hd 4 rfl rfl);have O:=O.ext1 50 (hd 6 rfl rfl);exact AA hS rfl (AF BG O rfl rfl rfl (by omega)),fun a w gG O hS hd=>by have O:=O.ext1 51 (hd 7 rfl rfl);have J:=hS.mem rfl;exact AA hS rfl (AE BY O rfl (J.row 0 rfl) (by simp only [Aa]<;>omega) (CQ (gi) (gj) (by omega) (by omega) (by omega) (by omega))),trivial⟩ ?_;intro a w' L O hS hq;have O:=O.ext1 44 (hq 0 rfl rfl);have O:=O.ext1 45 (hq 1 rfl rfl);have O:=O.ext1 46 (hq 2 rfl rfl);have O:=O.ext1 47 (hq 3 rfl rfl);have O:=O.ext1 48 (hq 4 rfl rfl);have O:=O.ext1 49 (hq 5 rfl rfl);have O:=O.ext1 50 (hq 6 rfl rfl);have O:=O.ext1 51 (hq 7 rfl rfl);have O:=O.ext1 52 (hq 8 rfl rfl);have J:=hS.mem rfl;change wpList Try.prog _ _ [_,_] _ _;refine Ar O (Ae Try.call165 O (.cons rfl (.cons rfl (.cons rfl .nil))) (Eb (p) (0) ((T (gi) (gj))) _ (fun _=>by first | exact hv _ | exact hu _ | exact hT _ _ _ | exact hf _ | omega | (split<;>omega) | (dsimp only;split<;>omega) | assumption))) rfl ?_;rintro _ w' a ⟨hx,rfl⟩ O;have J:=J.ext hx;refine st O (CW O rfl) rfl fun a O=>nt<|Ab O rfl (fun h13=>?_) (fun h13=>?_)
        . refine sq ?_
          refine wp_region_lit<|ag O rfl rfl fun a O=>nt<|wp_ret<|iR<|tR<|tR<|iR<|iR<|tR<|tR<|iR<|tR<|BC rfl O.defers (Ad O rfl) ⟨_,rfl,J.below,?_⟩
          show _=_
          exact Cd (fun hq=>absurd (hq.2.2.2 gi (by omega) gj (by omega)) (by unfold Gp;first | (rw [if_pos (by omega)];first | assumption | exact Classical.byContradiction ‹_›) | (rw [if_neg (by omega)];first | assumption | exact Classical.byContradiction ‹_›)))
        refine wp_skip<|iN<|tN<|wp_region_lit<|mv O rfl rfl fun a O=>st O (Ap O rfl rfl (Af (gj) (1) (by omega))) rfl fun a O=>ag O rfl rfl fun a O=>nt<|⟨gj+1,⟨by omega,Ei hJ (by unfold Gp;first | (rw [if_pos (by omega)];first | assumption | exact Classical.byContradiction ‹_›) | (rw [if_neg (by omega)];first | assumption | exact Classical.byContradiction ‹_›)),O.sub _ (by repeat' constructor),?_⟩,by omega⟩;exact J
      refine wp_skip<|tN<|sq<|BV 9 [] [.val (ptr b1 (0+0)),.val (.int .i64 (p)),.val (.int .i64 (n)),.val (.int .i64 (gi:Int)),.val (.int .i64 (gj:Int)),.val (ptr b1 (0+2)),.val (ptr b1 (0+2+(gi)*36)),.val (ptr b1 (0+2+(gi)*36+(gj)*6)),.val (.agg (AQ (T (gi) (gj))))] Bf rfl O rfl J ⟨fun a w gG O hS hd=>by exact AA hS rfl (AB A2 O rfl),fun a w gG O hS hd=>by have O:=O.ext1 44 (hd 0 rfl rfl);have J:=hS.mem rfl;exact AA hS rfl (AP AX O rfl (J.row 0 rfl) (BU (by omega))),fun a w gG O hS hd=>by exact BP hS rfl O rfl,fun a w gG O hS hd=>by exact BP hS rfl O rfl,fun a w gG O hS hd=>by exact BP hS rfl O rfl,fun a w gG O hS hd=>by exact AA hS rfl (AB Ax O rfl),fun a w gG O hS hd=>by have O:=O.ext1 47 (hd 3 rfl rfl);have O:=O.ext1 49 (hd 5 rfl rfl);exact AA hS rfl (AF BF O rfl rfl rfl (by omega)),fun a w gG O hS hd=>by have O:=O.ext1 48 (hd 4 rfl rfl);have O:=O.ext1 50 (hd 6 rfl rfl);exact AA hS rfl (AF BG O rfl rfl rfl (by omega)),fun a w gG O hS hd=>by have O:=O.ext1 51 (hd 7 rfl rfl);have J:=hS.mem rfl;exact AA hS rfl (AE BY O rfl (J.row 0 rfl) (by simp only [Aa]<;>omega) (CQ (gi) (gj) (by omega) (by omega) (by omega) (by omega))),trivial⟩ ?_;intro a w' L O hS hq;have O:=O.ext1 44 (hq 0 rfl rfl);have O:=O.ext1 45 (hq 1 rfl rfl);have O:=O.ext1 46 (hq 2 rfl rfl);have O:=O.ext1 47 (hq 3 rfl rfl);have O:=O.ext1 48 (hq 4 rfl rfl);have O:=O.ext1 49 (hq 5 rfl rfl);have O:=O.ext1 50 (hq 6 rfl rfl);have O:=O.ext1 51 (hq 7 rfl rfl);have O:=O.ext1 52 (hq 8 rfl rfl);have J:=hS.mem rfl;change wpList Try.prog _ _ [_,_] _ _;refine Ar O (Ae Try.call165 O (.cons rfl (.cons rfl (.cons rfl .nil))) (Eb (p) (n) ((T (gi) (gj))) _ (fun _=>by first | exact hv _ | exact hu _ | exact hT _ _ _ | exact hf _ | omega | (split<;>omega) | (dsimp only;split<;>omega) | assumption))) rfl ?_;rintro _ w' a ⟨hx,rfl⟩ O;have J:=J.ext hx;refine st O (CW O rfl) rfl fun a O=>nt<|Ab O rfl (fun h14=>?_) (fun h14=>?_)
      . refine sq ?_
        refine wp_region_lit<|ag O rfl rfl fun a O=>nt<|wp_ret<|iR<|tR<|tR<|iR<|iR<|tR<|tR<|iR<|tR<|BC rfl O.defers (Ad O rfl) ⟨_,rfl,J.below,?_⟩
        show _=_
        exact Cd (fun hq=>absurd (hq.2.2.2 gi (by omega) gj (by omega)) (by unfold Gp;first | (rw [if_pos (by omega)];first | assumption | exact Classical.byContradiction ‹_›) | (rw [if_neg (by omega)];first | assumption | exact Classical.byContradiction ‹_›)))
      refine wp_skip<|iN<|tN<|wp_region_lit<|mv O rfl rfl fun a O=>st O (Ap O rfl rfl (Af (gj) (1) (by omega))) rfl fun a O=>ag O rfl rfl fun a O=>nt<|⟨gj+1,⟨by omega,Ei hJ (by unfold Gp;first | (rw [if_pos (by omega)];first | assumption | exact Classical.byContradiction ‹_›) | (rw [if_neg (by omega)];first | assumption | exact Classical.byContradiction ‹_›)),O.sub _ (by repeat' constructor),?_⟩,by omega⟩;exact J
    obtain rfl:6=gj:=by omega
    refine wp_exit<|tX<|tX<|Am<|iN<|tN<|wp_region_lit<|mv O rfl rfl fun a O=>st O (Ap O rfl rfl (Af (gi) (1) (by omega))) rfl fun a O=>ag O rfl rfl fun a O=>nt<|⟨gi+1,⟨by omega,Ei hH hJ,O.sub _ (by repeat' constructor),?_⟩,by omega⟩;exact J
  obtain rfl:6=gi:=by omega
  refine wp_exit<|tX<|tX<|Am<|tN<|sr<|ag O rfl rfl fun a O=>nt<|wp_ret<|BC rfl O.defers (Ad O rfl) ⟨_,rfl,J.below,?_⟩
  show _=_
  exact Ge ⟨by simp_all,by simp_all,by simp_all,hH⟩
def e1 (i:Nat):Nat->Nat:=fun c=>if c=i then 1 else 0
def QG (p n:Nat) (T:Nat->Nat->Nat->Nat) (i j k:Nat):Prop:=IA 6 (timesV p n T (T i j) (fun c=>if c=k then 1 else 0)) (timesV p n T (fun c=>if c=i then 1 else 0) (T j k))
instance (p n:Nat) (T:Nat->Nat->Nat->Nat) (i j k:Nat):Decidable (QG p n T i j k):=by unfold QG;infer_instance
def Pi (p n:Nat) (T:Nat->Nat->Nat->Nat) (j:Nat):Prop:=∀ i,i<n->∀ k,k<n->QG p n T i j k
instance (p n:Nat) (T:Nat->Nat->Nat->Nat) (j:Nat):Decidable (Pi p n T j):=by unfold Pi;exact Nat.decidableBallLT n _
def cntA (p n:Nat) (T:Nat->Nat->Nat->Nat) (g:Nat):Nat:=sumTo (fun j=>if Pi p n T j then 1 else 0) g
theorem OS {p n g:Nat}{T:Nat->Nat->Nat->Nat}(h:Pi p n T g):cntA p n T g+1=cntA p n T (g+1):=by simp [cntA,sumTo,h]
theorem PM {p n g:Nat}{T:Nat->Nat->Nat->Nat}(i k:Nat)(hi:i<n)(hk:k<n)(h:¬ QG p n T i g k):cntA p n T g=cntA p n T (g+1):=by
  have:¬ Pi p n T g:=fun hq=>h (hq i hi k hk)
  simp [cntA,sumTo,this]
theorem GS {q:Nat->Prop}[∀ j,Decidable (q j)]:∀ (m:Nat),sumTo (fun j=>if q j then 1 else 0) m<=m/\(sumTo (fun j=>if q j then 1 else 0) m=m↔∀ j,j<m->q j)
  | 0=>⟨Nat.le_refl _,by simp [sumTo]⟩
  | m + 1 => by
    have ih:=GS (q:=q) m
    simp only [sumTo]
    by_cases h:q m
    . refine ⟨by simp [h];omega,⟨fun e j hj=>?_,fun ha=>?_⟩⟩
      . by_cases ej:j=m
        . subst ej;exact h
        . exact ih.2.1 (by simp [h] at e;omega) j (by omega)
      . have:=ih.2.2 (fun j hj=>ha j (by omega));simp [h];omega
    . refine ⟨by simp [h];omega,⟨fun e=>?_,fun ha=>absurd (ha m (by omega)) h⟩⟩
      simp [h] at e;omega
def QI (p n:Nat) (T:Nat->Nat->Nat->Nat):Prop:=∀ j,j<n->Pi p n T j
instance (p n:Nat) (T:Nat->Nat->Nat->Nat):Decidable (QI p n T):=Nat.decidableBallLT n _
theorem PN {p n g:Nat}{T:Nat->Nat->Nat->Nat}:cntA p n T g<=g:=(GS g).1
theorem OT {p n:Nat}{T:Nat->Nat->Nat->Nat}:(cntA p n T n:Int)=(n:Int)↔QI p n T:=by
  have:=(GS (q:=Pi p n T) n).2
  unfold cntA QI;rw [← this];omega
theorem HZ (p n:Nat)(T:Nat->Nat->Nat->Nat)(f:Nat->Nat)(w:World)(hp:0<p)(hO:p<100)(hn:n<=6)(hT:∀ i j k,T i j k<=255)(hf:∀ i,f i<=255) :
    CallsR Try.prog 93 #[.agg (AD (p:Int) (n:Int) T f)] w (fun res _=>res = .bool (decide (QI p n T))):=by
  refine Al [.agg (AD (p:Int) (n:Int) T f)] Try.func93 rfl Try.ntmps93 rfl fun a O=>?_;have J:Ag w w [none,none,none] []:=MemX.start w 3;change Fr 56 a [(0,.agg (AD (p:Int) (n:Int) T f))] at O;refine sr<|Ar O (BI 0 J O rfl) rfl ?_;rintro _ w' a ⟨b1,rfl,J,-⟩ O;change Ag _ _ [some (b1,AD (p:Int) (n:Int) T f),_,_] [] at J;refine ag O rfl rfl fun a O=>nt<|wp_scope_straight<|sr<|ag O rfl rfl fun a O=>nt<|sq<|wp_label<|tN<|sq<|sr<|st O (AB AZ O rfl) rfl fun a O=>st O (AP AX O rfl (J.row 0 rfl) (Ao (by omega))) rfl fun a O=>mv O rfl rfl fun a O=>nt<|wp_block ?_;change Ag _ _ [_,_,_] [] at J;refine Av (fun (kk:Nat) a w'=>kk<=n/\(True)/\Fr 56 a [(1,ptr b1 (0)),(2,.bool (false)),(10,.int .i64 (n:Int)),(11,.int .i64 (kk:Int)),(3,.int .i64 ((cntA p n T kk:Int)))]/\Ag w w' [some (b1,AD (p:Int) (n:Int) T f),none,none] []) (fun kk=>n - kk) 0 ?_ ?_
  . refine ⟨by omega,trivial,O.sub _ (by repeat' constructor),?_⟩
    exact J
  clear O J;rintro gj a w' ⟨hgj,hH,O,J⟩;have hca:=PN (p:=p) (n:=n) (g:=gj) (T:=T);refine sr<|st O (A0 O rfl rfl) rfl fun a O=>nt<|sq<|Ab O rfl (fun h2=>?_) (fun h2=>?_)
  . refine wp_skip ?_
    refine tN<|sq<|wp_block<|sr<|mv O rfl rfl fun a O=>ag O rfl rfl fun a O=>nt<|sq<|sr<|st O (AB AZ O rfl) rfl fun a O=>st O (AP AX O rfl (J.row 0 rfl) (Ao (by omega))) rfl fun a O=>mv O rfl rfl fun a O=>nt<|wp_block ?_;change Ag w _ [some (b1,AD (p:Int) (n:Int) T f),none,none] [] at J;refine Av (fun (kk:Nat) a w'=>kk<=n/\(∀ i,i<kk->∀ k,k<n->QG p n T i gj k)/\Fr 56 a [(1,ptr b1 (0)),(2,.bool (false)),(10,.int .i64 (n:Int)),(11,.int .i64 (gj:Int)),(3,.int .i64 ((cntA p n T gj:Int))),(12,.bool (decide (((gj:Int):Int)<(n:Int)))),(13,.int .i64 (gj:Int)),(4,.int .i64 (gj:Int)),(14,ptr b1 (0+1)),(15,.int .i64 (n:Int)),(16,.int .i64 (kk:Int))]/\Ag w w' [some (b1,AD (p:Int) (n:Int) T f),none,none] []) (fun kk=>n - kk) 0 ?_ ?_
    . refine ⟨by omega,fun i hi=>absurd hi (by omega),O.sub _ (by repeat' constructor),?_⟩
      exact J
    clear O J;rintro gi a w' ⟨hgi,hJ,O,J⟩;refine sr<|st O (A0 O rfl rfl) rfl fun a O=>nt<|sq<|Ab O rfl (fun h3=>?_) (fun h3=>?_)
    . refine wp_skip ?_
      refine tN<|sq<|wp_block<|sr<|mv O rfl rfl fun a O=>ag O rfl rfl fun a O=>ns<|st O (AB AZ O rfl) rfl fun a O=>st O (AP AX O rfl (J.row 0 rfl) (Ao (by omega))) rfl fun a O=>mv O rfl rfl fun a O=>nt<|wp_block ?_;change Ag w _ [some (b1,AD (p:Int) (n:Int) T f),none,none] [] at J;refine Av (fun (kk:Nat) a w'=>kk<=n/\(∀ k,k<kk->QG p n T gi gj k)/\Fr 56 a [(1,ptr b1 (0)),(2,.bool (false)),(10,.int .i64 (n:Int)),(11,.int .i64 (gj:Int)),(3,.int .i64 ((cntA p n T gj:Int))),(12,.bool (decide (((gj:Int):Int)<(n:Int)))),(13,.int .i64 (gj:Int)),(4,.int .i64 (gj:Int)),(14,ptr b1 (0+1)),(15,.int .i64 (n:Int)),(16,.int .i64 (gi:Int)),(17,.bool (decide (((gi:Int):Int)<(n:Int)))),(18,.int .i64 (gi:Int)),(5,.int .i64 (gi:Int)),(19,ptr b1 (0+1)),(20,.int .i64 (n:Int)),(21,.int .i64 (kk:Int))]/\Ag w w' [some (b1,AD (p:Int) (n:Int) T f),none,none] []) (fun kk=>n - kk) 0 ?_ ?_
      . refine ⟨by omega,fun i hi=>absurd hi (by omega),O.sub _ (by repeat' constructor),?_⟩
        exact J
      clear O J;rintro gk a w' ⟨hgk,hZ,O,J⟩;refine sr<|st O (A0 O rfl rfl) rfl fun a O=>nt<|sq<|Ab O rfl (fun h4=>?_) (fun h4=>?_)
      . refine wp_skip ?_
        refine tN<|sq<|wp_block<|sr<|mv O rfl rfl fun a O=>ag O rfl rfl fun a O=>nt<|sq<|BV 11 [1] [.val (.agg (AD (p:Int) (n:Int) T f)),.val (.int .i64 (gi:Int)),.val (.int .i64 (gj:Int)),.val (ptr b1 (0+2)),.val (ptr b1 (0+2+(gi)*36)),.val (ptr b1 (0+2+(gi)*36+(gj)*6)),.val (.agg (AQ (T (gi) (gj)))),.val (.int .i64 (gk:Int)),.val (.agg (AQ (fun c=>if c=gk then 1 else 0))),.val (.agg (AQ (timesV p n T ((T (gi) (gj))) ((fun c=>if c=gk then 1 else 0))))),.own 1 (A1 6 (fun _=>.int .u8 (0))) (fun b=>ptr b 0)] Bf rfl O rfl J ⟨fun a w gG O hS hd=>by have J:=hS.mem rfl;exact AA hS rfl (AE AI O rfl (J.row 0 rfl) (by simp only [Aa]<;>omega) (whole AG)),fun a w gG O hS hd=>by exact BP hS rfl O rfl,fun a w gG O hS hd=>by exact BP hS rfl O rfl,fun a w gG O hS hd=>by exact AA hS rfl (AB Ax O rfl),fun a w gG O hS hd=>by have O:=O.ext1 25 (hd 1 rfl rfl);have O:=O.ext1 27 (hd 3 rfl rfl);exact AA hS rfl (AF BF O rfl rfl rfl (by omega)),fun a w gG O hS hd=>by have O:=O.ext1 26 (hd 2 rfl rfl);have O:=O.ext1 28 (hd 4 rfl rfl);exact AA hS rfl (AF BG O rfl rfl rfl (by omega)),fun a w gG O hS hd=>by have O:=O.ext1 29 (hd 5 rfl rfl);have J:=hS.mem rfl;exact AA hS rfl (AE BY O rfl (J.row 0 rfl) (by simp only [Aa]<;>omega) (CQ (gi) (gj) (by omega) (by omega) (by omega) (by omega))),fun a w gG O hS hd=>by exact BP hS rfl O rfl,fun a w gG O hS hd=>by have O:=O.ext1 31 (hd 7 rfl rfl);exact BL (by repeat constructor) hS rfl (Ae Try.call142 O (.cons rfl .nil) (C7 (gk) _ (by omega))),fun a w gG O hS hd=>by have O:=O.ext1 24 (hd 0 rfl rfl);have O:=O.ext1 30 (hd 6 rfl rfl);have O:=O.ext1 32 (hd 8 rfl rfl);exact BL (by repeat constructor) hS rfl (Ae Try.call87 O (.cons rfl (.cons rfl (.cons rfl .nil))) (E9 p n T f ((T (gi) (gj))) ((fun c=>if c=gk then 1 else 0)) _ (by omega) (by omega) (by omega) (fun _ _ _=>hT _ _ _) (fun _=>by first | exact hv _ | exact hu _ | exact hT _ _ _ | exact hf _ | omega | (split<;>omega) | (dsimp only;split<;>omega) | assumption) (fun _=>by first | exact hv _ | exact hu _ | exact hT _ _ _ | exact hf _ | omega | (split<;>omega) | (dsimp only;split<;>omega) | assumption))),fun a w gG O hS hd=>by exact DB (by repeat constructor) hS rfl rfl rfl rfl (Ah 1 hS.1 BE),trivial⟩ ?_;intro a w' L O hS hq;have O:=O.ext1 24 (hq 0 rfl rfl);have O:=O.ext1 25 (hq 1 rfl rfl);have O:=O.ext1 26 (hq 2 rfl rfl);have O:=O.ext1 27 (hq 3 rfl rfl);have O:=O.ext1 28 (hq 4 rfl rfl);have O:=O.ext1 29 (hq 5 rfl rfl);have O:=O.ext1 30 (hq 6 rfl rfl);have O:=O.ext1 31 (hq 7 rfl rfl);have O:=O.ext1 32 (hq 8 rfl rfl);have O:=O.ext1 33 (hq 9 rfl rfl);obtain ⟨J,hL⟩:=hS;obtain ⟨b5,hptr,hkk⟩:=hq 10 rfl rfl;have O:=O.ext1 7 hptr;have hL:=hL.take hkk;obtain rfl:=hL.eq;change Ag w w' [some (b1,AD (p:Int) (n:Int) T f),some (b5,A1 6 (fun _=>.int .u8 (0))),none] [] at J;change wpList Try.prog _ _ [_] _ _;refine BQ O (AJ 1 J rfl A3 O rfl rfl At (by simp only [Aa]) (by simp only [Aa]<;>omega) (AH _ _ (by simp only [Aa]))) ?_;intro _ w' a J O;change Ag _ _ [_,some (b5,AQ (timesV p n T ((T (gi) (gj))) ((fun c=>if c=gk then 1 else 0)))),_] [] at J;refine nt<|sq<|BV 11 [2] [.val (.agg (AD (p:Int) (n:Int) T f)),.val (.int .i64 (gi:Int)),.val (.agg (AQ (fun c=>if c=gi then 1 else 0))),.val (.int .i64 (gj:Int)),.val (.int .i64 (gk:Int)),.val (ptr b1 (0+2)),.val (ptr b1 (0+2+(gj)*36)),.val (ptr b1 (0+2+(gj)*36+(gk)*6)),.val (.agg (AQ (T (gj) (gk)))),.val (.agg (AQ (timesV p n T ((fun c=>if c=gi then 1 else 0)) ((T (gj) (gk)))))),.own 2 (A1 6 (fun _=>.int .u8 (0))) (fun b=>ptr b 0)] Bf rfl O rfl J ⟨fun a w gG O hS hd=>by have J:=hS.mem rfl;exact AA hS rfl (AE AI O rfl (J.row 0 rfl) (by simp only [Aa]<;>omega) (whole AG)),fun a w gG O hS hd=>by exact BP hS rfl O rfl,fun a w gG O hS hd=>by have O:=O.ext1 35 (hd 1 rfl rfl);exact BL (by repeat constructor) hS rfl (Ae Try.call142 O (.cons rfl .nil) (C7 (gi) _ (by omega))),fun a w gG O hS hd=>by exact BP hS rfl O rfl,fun a w gG O hS hd=>by exact BP hS rfl O rfl,fun a w gG O hS hd=>by exact AA hS rfl (AB Ax O rfl),fun a w gG O hS hd=>by have O:=O.ext1 37 (hd 3 rfl rfl);have O:=O.ext1 39 (hd 5 rfl rfl);exact AA hS rfl (AF BF O rfl rfl rfl (by omega)),fun a w gG O hS hd=>by have O:=O.ext1 38 (hd 4 rfl rfl);have O:=O.ext1 40 (hd 6 rfl rfl);exact AA hS rfl (AF BG O rfl rfl rfl (by omega)),fun a w gG O hS hd=>by have O:=O.ext1 41 (hd 7 rfl rfl);have J:=hS.mem rfl;exact AA hS rfl (AE BY O rfl (J.row 0 rfl) (by simp only [Aa]<;>omega) (CQ (gj) (gk) (by omega) (by omega) (by omega) (by omega))),fun a w gG O hS hd=>by have O:=O.ext1 34 (hd 0 rfl rfl);have O:=O.ext1 36 (hd 2 rfl rfl);have O:=O.ext1 42 (hd 8 rfl rfl);exact BL (by repeat constructor) hS rfl (Ae Try.call87 O (.cons rfl (.cons rfl (.cons rfl .nil))) (E9 p n T f ((fun c=>if c=gi then 1 else 0)) ((T (gj) (gk))) _ (by omega) (by omega) (by omega) (fun _ _ _=>hT _ _ _) (fun _=>by first | exact hv _ | exact hu _ | exact hT _ _ _ | exact hf _ | omega | (split<;>omega) | (dsimp only;split<;>omega) | assumption) (fun _=>by first | exact hv _ | exact hu _ | exact hT _ _ _ | exact hf _ | omega | (split<;>omega) | (dsimp only;split<;>omega) | assumption))),fun a w gG O hS hd=>by exact DB (by repeat constructor) hS rfl rfl rfl rfl (Ah 2 hS.1 BE),trivial⟩ ?_
        intro a w' L O hS hq;have O:=O.ext1 34 (hq 0 rfl rfl);have O:=O.ext1 35 (hq 1 rfl rfl);have O:=O.ext1 36 (hq 2 rfl rfl);have O:=O.ext1 37 (hq 3 rfl rfl);have O:=O.ext1 38 (hq 4 rfl rfl);have O:=O.ext1 39 (hq 5 rfl rfl);have O:=O.ext1 40 (hq 6 rfl rfl);have O:=O.ext1 41 (hq 7 rfl rfl);have O:=O.ext1 42 (hq 8 rfl rfl);have O:=O.ext1 43 (hq 9 rfl rfl);obtain ⟨J,hL⟩:=hS;obtain ⟨b6,hptr,hkk⟩:=hq 10 rfl rfl;have O:=O.ext1 8 hptr;have hL:=hL.take hkk;obtain rfl:=hL.eq;change Ag w w' [some (b1,AD (p:Int) (n:Int) T f),some (b5,AQ (timesV p n T ((T (gi) (gj))) ((fun c=>if c=gk then 1 else 0)))),some (b6,A1 6 (fun _=>.int .u8 (0)))] [] at J;change wpList Try.prog _ _ [_] _ _;refine BQ O (AJ 2 J rfl A3 O rfl rfl At (by simp only [Aa]) (by simp only [Aa]<;>omega) (AH _ _ (by simp only [Aa]))) ?_;intro _ w' a J O;change Ag _ _ [_,_,some (b6,AQ (timesV p n T ((fun c=>if c=gi then 1 else 0)) ((T (gj) (gk)))))] [] at J;refine ns<|st O (AE Aq O rfl (J.row 1 rfl) (by simp only [Aa]<;>omega) (whole (by simp only [Aa]))) rfl fun a O=>st O (AE Aq O rfl (J.row 2 rfl) (by simp only [Aa]<;>omega) (whole (by simp only [Aa]))) rfl fun a O=>st O (ET Fi O rfl rfl (CT DH CL Ai)) rfl fun a O=>nt<|Ab O rfl (fun h7=>?_) (fun h7=>?_)
        . refine wp_exit ?_
          refine Fm rfl<|tX<|tX<|Fm rfl<|Fm rfl<|tX<|tX<|Fm rfl<|tX<|Am<|tN<|wp_region_lit<|st O (Ap O rfl rfl (Af (gj) (1) (by omega))) rfl fun a O=>mv O rfl rfl fun a O=>wpList_nil<|tN ?_;have J:=J.drop 1;have J:=J.drop 2;have ea:=PM (p:=p) (n:=n) (g:=gj) (T:=T) gi gk (by omega) (by omega) (by assumption);rw [ea] at O;refine ⟨gj+1,⟨by omega,trivial,O.sub _ (by repeat' constructor),?_⟩,by omega⟩;exact J
        refine wp_skip<|iN<|tN<|wp_region_lit<|st O (Ap O rfl rfl (Af (gk) (1) (by omega))) rfl fun a O=>mv O rfl rfl fun a O=>wpList_nil<|tN ?_;have J:=J.drop 1;have J:=J.drop 2;refine ⟨gk+1,⟨by omega,Ei hZ (Decidable.not_not.1 (by assumption)),O.sub _ (by repeat' constructor),?_⟩,by omega⟩;exact J
      obtain rfl:n=gk:=by omega
      refine wp_exit<|tX<|tX<|Am<|iN<|tN<|wp_region_lit<|st O (Ap O rfl rfl (Af (gi) (1) (by omega))) rfl fun a O=>mv O rfl rfl fun a O=>nt<|⟨gi+1,⟨by omega,Ei hJ hZ,O.sub _ (by repeat' constructor),?_⟩,by omega⟩;exact J
    obtain rfl:n=gi:=by omega
    refine wp_exit<|tX<|tX<|Am<|tN<|wp_region_lit<|mv O rfl rfl fun a O=>st O (Ap O rfl rfl (show _=(cntA p n T (gj+1):Int) from (HA (x:=cntA p n T gj) (y:=1) (by omega) (OS hJ)))) rfl fun a O=>ag O rfl rfl fun a O=>wpList_nil<|iN<|tN<|wp_region_lit<|st O (Ap O rfl rfl (Af (gj) (1) (by omega))) rfl fun a O=>mv O rfl rfl fun a O=>nt<|⟨gj+1,⟨by omega,trivial,O.sub _ (by repeat' constructor),?_⟩,by omega⟩;exact J
  obtain rfl:n=gj:=by omega
  refine wp_exit<|tX<|tX<|Am<|tN<|sr<|mv O rfl rfl fun a O=>st O (AB AZ O rfl) rfl fun a O=>st O (AP AX O rfl (J.row 0 rfl) (Ao (by omega))) rfl fun a O=>st O (Bk O rfl rfl) rfl fun a O=>ag O rfl rfl fun a O=>nt<|wp_ret<|sR<|BC rfl O.defers (Ad O rfl) ⟨_,rfl,J.below,?_⟩
  show _=_
  exact congrArg Value.bool (decide_eq_decide.2 OT)
theorem IV (b o c m:Nat)(cs:Array Value)(f:Nat->Int)(w:World)(hb:Blk w b cs)(hg:∀ i,i<m->cs[o+i*1]? = some (.int .i64 (f i)))(hm:m<1000) :
    CallsR Try.prog 161 #[.slice (some ⟨b,o,none⟩) m c] w (fun res _=>res = .int .i64 (if leadN f m<m then (leadN f m:Int) else -1)):=by
  refine Al [.slice (some ⟨b,o,none⟩) m c] Try.func161 rfl Try.ntmps161 rfl fun a O=>?_;have J:Ag w w [] [(b,cs)]:=MemX.startD w 0 _ (Jo hb);change Fr 16 a [(0,.slice (some ⟨b,o,none⟩) m c)] at O;refine sr<|ag O rfl rfl fun a O=>nt<|sq<|sr<|ag O rfl rfl fun a O=>nt<|wp_block ?_;change Ag w _ [] [(b,cs)] at J;refine Av (fun (kk:Nat) a w'=>kk<=m/\(∀ i,i<kk->f i=0)/\Fr 16 a [(0,.slice (some ⟨b,o,none⟩) m c),(3,.int .i64 (kk:Int))]/\Ag w w' [] [(b,cs)]) (fun kk=>m - kk) 0 ?_ ?_
  . refine ⟨by omega,fun i hi=>absurd hi (by omega),O.sub _ (by repeat' constructor),?_⟩
    exact J
  clear O J;rintro gk a w' ⟨hgk,hH,O,J⟩;refine sq<|sr<|mv O rfl rfl fun a O=>mv O rfl rfl fun a O=>st O (B2 Dr O rfl) rfl fun a O=>st O (A0 O rfl rfl) rfl fun a O=>nt<|Ab O rfl (fun h1=>?_) (fun h1=>?_)
  . refine wp_skip ?_
    refine tN<|sq<|wp_block<|sr<|mv O rfl rfl fun a O=>mv O rfl rfl fun a O=>st O (Ak (i:=gk) Bs O rfl rfl rfl (by omega)) rfl fun a O=>st O (AP AX O rfl (J.fz 0 rfl) (hg (gk) (by omega))) rfl fun a O=>st O (By O rfl rfl) rfl fun a O=>nt<|Ab O rfl (fun h2=>?_) (fun h2=>?_)
    . refine sq ?_
      refine wp_region_lit<|mv O rfl rfl fun a O=>ag O rfl rfl fun a O=>nt<|wp_ret<|iR<|tR<|tR<|iR<|tR<|BC rfl O.defers (Ad O rfl) ⟨_,rfl,J.below,?_⟩
      show _=_
      rw [FF (by omega) hH (by omega),if_pos (by omega)]
    refine wp_skip<|iN<|tN<|wp_region_lit<|mv O rfl rfl fun a O=>st O (Ap O rfl rfl (Af (gk) (1) (by omega))) rfl fun a O=>ag O rfl rfl fun a O=>nt<|⟨gk+1,⟨by omega,Ei hH (by omega),O.sub _ (by repeat' constructor),?_⟩,by omega⟩;exact J
  obtain rfl:m=gk:=by omega
  refine wp_exit<|tX<|tX<|Am<|tN<|sr<|ag O rfl rfl fun a O=>nt<|wp_ret<|BC rfl O.defers (Ad O rfl) ⟨_,rfl,J.below,?_⟩
  show _=_
  rw [GX hH,if_neg (by omega)]
theorem DO (b o c m:Nat)(cs:Array Value)(f:Nat->Nat)(w:World)(hb:Blk w b cs)(hg:∀ i,i<m->cs[o+i*1]? = some (.int .u8 ((f i:Int))))(hm:m<1000) :
    CallsR Try.prog 157 #[.slice (some ⟨b,o,none⟩) m c] w (fun res _=>res = .int .i64 (leadN (fun i=>(f i:Int)) m:Int)):=by
  refine Al [.slice (some ⟨b,o,none⟩) m c] Try.func157 rfl Try.ntmps157 rfl fun a O=>?_;have J:Ag w w [] [(b,cs)]:=MemX.startD w 0 _ (Jo hb);change Fr 18 a [(0,.slice (some ⟨b,o,none⟩) m c)] at O;refine sr<|ag O rfl rfl fun a O=>nt<|sq<|sr<|mv O rfl rfl fun a O=>st O (B2 CK O rfl) rfl fun a O=>mv O rfl rfl fun a O=>nt<|wp_block ?_;change Ag w _ [] [(b,cs)] at J;refine Av (fun (kk:Nat) a w'=>kk<=m/\(∀ i,i<kk->f i=0)/\Fr 18 a [(0,.slice (some ⟨b,o,none⟩) m c),(5,.slice (some ⟨b,o,none⟩) m c),(6,.int .i64 (m:Int)),(7,.int .i64 (kk:Int))]/\Ag w w' [] [(b,cs)]) (fun kk=>m - kk) 0 ?_ ?_
  . refine ⟨by omega,fun i hi=>absurd hi (by omega),O.sub _ (by repeat' constructor),?_⟩
    exact J
  clear O J;rintro gk a w' ⟨hgk,hH,O,J⟩;refine sr<|st O (A0 O rfl rfl) rfl fun a O=>nt<|sq<|Ab O rfl (fun h1=>?_) (fun h1=>?_)
  . refine wp_skip ?_
    refine tN<|sq<|wp_block<|sr<|mv O rfl rfl fun a O=>st O (Ak (i:=gk) Bt O rfl rfl rfl (by omega)) rfl fun a O=>st O (AP Ai O rfl (J.fz 0 rfl) (hg (gk) (by omega))) rfl fun a O=>ag O rfl rfl fun a O=>ag O rfl rfl fun a O=>ns<|mv O rfl rfl fun a O=>st O (By O rfl rfl) rfl fun a O=>nt<|Ab O rfl (fun h2=>?_) (fun h2=>?_)
    . refine sq ?_
      refine wp_region_lit<|mv O rfl rfl fun a O=>ag O rfl rfl fun a O=>nt<|wp_ret<|iR<|tR<|tR<|iR<|tR<|BC rfl O.defers (Ad O rfl) ⟨_,rfl,J.below,?_⟩
      show _=_
      rw [FF (k:=gk) (by omega) (fun i hi=>by have:=hH i hi;omega) (by omega)]
    refine wp_skip<|iN<|tN<|wp_region_lit<|st O (Ap O rfl rfl (Af (gk) (1) (by omega))) rfl fun a O=>mv O rfl rfl fun a O=>nt<|⟨gk+1,⟨by omega,Ei hH (by omega),O.sub _ (by repeat' constructor),?_⟩,by omega⟩;exact J
  obtain rfl:m=gk:=by omega
  refine wp_exit<|tX<|tX<|Am<|tN<|sr<|mv O rfl rfl fun a O=>st O (B2 CK O rfl) rfl fun a O=>ag O rfl rfl fun a O=>nt<|wp_ret<|BC rfl O.defers (Ad O rfl) ⟨_,rfl,J.below,?_⟩
  show _=_
  rw [GX (fun i hi=>by have:=hH i hi;omega)]
def PY (p:Nat) (f h:Nat->Nat) (x i:Nat):Int:=((f i:Int) - (x:Int)*(h i:Int))%(p:Int)
theorem FK (p b o c b2 o2 c2 m x:Nat)(cs cs2:Array Value)(f h:Nat->Nat)(w:World)(hp:0<p)(hO:p<100)(hb:Blk w b cs)(hb2:Blk w b2 cs2)(hg:∀ i,i<m->cs[o+i*1]? = some (.int .i64 (f i:Int)))(hg2:∀ i,i<m->cs2[o2+i*1]? = some (.int .i64 (h i:Int)))(hm:0<m)(hm2:m<1000)(hf:∀ i,f i<p)(hh:∀ i,h i<p)(hx:x<p) :
    CallsR Try.prog 172 #[.int .i64 (p:Int),.slice (some ⟨b,o,none⟩) m c,.slice (some ⟨b2,o2,none⟩) m c2,.int .i64 (x:Int)] w (OwnSl 1 w m (fun i=>.int .i64 (PY p f h x i))):=by
  refine Al [.int .i64 (p:Int),.slice (some ⟨b,o,none⟩) m c,.slice (some ⟨b2,o2,none⟩) m c2,.int .i64 (x:Int)] Try.func172 rfl Try.ntmps172 rfl fun a O=>?_;have J:Ag w w [none,none] [(b,cs),(b2,cs2)]:=MemX.startD w 2 _ (MC hb hb2);change Fr 35 a [(0,.int .i64 (p:Int)),(1,.slice (some ⟨b,o,none⟩) m c),(2,.slice (some ⟨b2,o2,none⟩) m c2),(3,.int .i64 (x:Int))] at O;refine sr<|ag O rfl rfl fun a O=>ns<|Ar O (BH 0 J O rfl Df) rfl ?_;rintro _ w' a ⟨b1,rfl,J,-⟩ O;refine ag O rfl rfl fun a O=>nt<|sq<|sr<|ag O rfl rfl fun a O=>nt<|wp_block ?_;change Ag _ _ [some (b1,#[]),_] _ at J;refine Av (fun (kk:Nat) a w'=>kk<=m/\(True)/\∃ (u9_1:Value) (e9_1:Option (Nat×Array Value)),Sl 1 u9_1 e9_1 (kk) (fun i=>.int .i64 (PY p f h x i))/\Fr 35 a [(0,.int .i64 (p:Int)),(1,.slice (some ⟨b,o,none⟩) m c),(2,.slice (some ⟨b2,o2,none⟩) m c2),(3,.int .i64 (x:Int)),(8,.slice none 0 0),(10,.int .i64 (kk:Int)),(9,u9_1)]/\Ag w w' [e9_1,none] [(b,cs),(b2,cs2)]) (fun kk=>m - kk) 0 ?_ ?_
  . refine ⟨by omega,trivial,(.slice (some ⟨b1,0,none⟩) 0 0),(some (b1,#[])),Sl.empty _ _ _,O.sub _ (by repeat' constructor),?_⟩
    exact J
  clear O J;rintro gk a w' ⟨hgk,hH,u9_1,e9_1,hsl,O,J⟩;have hfk:=hf gk;have hhk:=hh gk;have hxh:x*h gk<=100*100:=Nat.mul_le_mul (by omega) (by omega);refine sq<|sr<|mv O rfl rfl fun a O=>mv O rfl rfl fun a O=>st O (B2 Dr O rfl) rfl fun a O=>st O (A0 O rfl rfl) rfl fun a O=>nt<|Ab O rfl (fun h2=>?_) (fun h2=>?_)
  . refine wp_skip ?_
    refine tN<|sq<|wp_block<|BV 15 [1] [.val (u9_1),.val (.int .i64 (p:Int)),.val (.slice (some ⟨b,o,none⟩) m c),.val (.int .i64 (gk:Int)),.val (ptr b (o+(gk)*1)),.val (.int .i64 ((f (gk):Int))),.val (.int .i64 (x:Int)),.val (.slice (some ⟨b2,o2,none⟩) m c2),.val (.int .i64 (gk:Int)),.val (ptr b2 (o2+(gk)*1)),.val (.int .i64 ((h (gk):Int))),.val (.int .i64 ((((x)*(h (gk)):Nat):Int))),.val (.int .i64 ((f (gk):Int) - (((x)*(h (gk)):Nat):Int))),.val (.int .i64 (((f (gk):Int) - (((x)*(h (gk)):Nat):Int))%(p:Int))),.own 1 (#[.int .i64 (((f (gk):Int) - (((x)*(h (gk)):Nat):Int))%(p:Int))]) (fun b=>.slice (some ⟨b,0,none⟩) 1 1)] Bf rfl O rfl J ⟨fun a w gG O hS hd=>by exact BP hS rfl O rfl,fun a w gG O hS hd=>by exact BP hS rfl O rfl,fun a w gG O hS hd=>by exact BP hS rfl O rfl,fun a w gG O hS hd=>by exact BP hS rfl O rfl,fun a w gG O hS hd=>by have O:=O.ext1 20 (hd 2 rfl rfl);have O:=O.ext1 21 (hd 3 rfl rfl);exact AA hS rfl (Ak (i:=gk) Bs O rfl rfl rfl (by omega)),fun a w gG O hS hd=>by have O:=O.ext1 22 (hd 4 rfl rfl);have J:=hS.mem rfl;exact AA hS rfl (AP AX O rfl (J.fz 0 rfl) (hg (gk) (by omega))),fun a w gG O hS hd=>by exact BP hS rfl O rfl,fun a w gG O hS hd=>by exact BP hS rfl O rfl,fun a w gG O hS hd=>by exact BP hS rfl O rfl,fun a w gG O hS hd=>by have O:=O.ext1 25 (hd 7 rfl rfl);have O:=O.ext1 26 (hd 8 rfl rfl);exact AA hS rfl (Ak (i:=gk) Bs O rfl rfl rfl (by omega)),fun a w gG O hS hd=>by have O:=O.ext1 27 (hd 9 rfl rfl);have J:=hS.mem rfl;exact AA hS rfl (AP AX O rfl (J.fz 1 rfl) (hg2 (gk) (by omega))),fun a w gG O hS hd=>by have O:=O.ext1 24 (hd 6 rfl rfl);have O:=O.ext1 28 (hd 10 rfl rfl);exact AA hS rfl (B1 O rfl rfl (Bh x (h gk) (by omega))),fun a w gG O hS hd=>by have O:=O.ext1 23 (hd 5 rfl rfl);have O:=O.ext1 29 (hd 11 rfl rfl);exact AA hS rfl (Et O rfl rfl (wrap_i64 (by omega) (by omega))),fun a w gG O hS hd=>by have O:=O.ext1 19 (hd 1 rfl rfl);have O:=O.ext1 30 (hd 12 rfl rfl);exact BL (by repeat constructor) hS rfl (Ae Try.call153 O (.cons rfl (.cons rfl .nil)) (DU ((f (gk):Int) - (((x)*(h (gk)):Nat):Int)) (p) _ (by omega) (by omega) (by omega) (by omega))),fun a w gG O hS hd=>by have O:=O.ext1 31 (hd 13 rfl rfl);exact DB (by repeat constructor) hS rfl rfl rfl rfl (BH 1 hS.1 O (CD O rfl) (DA _)),trivial⟩ ?_;intro a w' L O hS hq;have O:=O.ext1 18 (hq 0 rfl rfl);have O:=O.ext1 19 (hq 1 rfl rfl);have O:=O.ext1 20 (hq 2 rfl rfl);have O:=O.ext1 21 (hq 3 rfl rfl);have O:=O.ext1 22 (hq 4 rfl rfl);have O:=O.ext1 23 (hq 5 rfl rfl);have O:=O.ext1 24 (hq 6 rfl rfl);have O:=O.ext1 25 (hq 7 rfl rfl);have O:=O.ext1 26 (hq 8 rfl rfl);have O:=O.ext1 27 (hq 9 rfl rfl);have O:=O.ext1 28 (hq 10 rfl rfl);have O:=O.ext1 29 (hq 11 rfl rfl);have O:=O.ext1 30 (hq 12 rfl rfl);have O:=O.ext1 31 (hq 13 rfl rfl);obtain ⟨J,hL⟩:=hS;obtain ⟨b3,hptr,hkk⟩:=hq 14 rfl rfl;have O:=O.ext1 32 hptr;have hL:=hL.take hkk;obtain rfl:=hL.eq;change Ag w w' [e9_1,some (b3,#[.int .i64 (((f (gk):Int) - (((x)*(h (gk)):Nat):Int))%(p:Int))])] [(b,cs),(b2,cs2)] at J;change wpList Try.prog _ _ [_,_] _ _;refine Ar O (Bg (k:=0) (m:=1) (g:=fun _=>.int .i64 (((f (gk):Int) - (((x)*(h (gk)):Nat):Int))%(p:Int))) Cn rfl (by decide) J rfl O rfl rfl hsl (fun i hi=>by rw [show i=0 by omega];exact (J.row 1 rfl).cell 0) (fun _ _=>rfl) (by decide) (by unfold maxLen;omega) (by omega)) rfl ?_;rintro u4 w' a ⟨e5,J,hs6⟩ O;change Ag w w' [e5,some (b3,#[.int .i64 (((f (gk):Int) - (((x)*(h (gk)):Nat):Int))%(p:Int))])] [(b,cs),(b2,cs2)] at J
    refine ag O rfl rfl fun a O=>wpList_nil<|iN<|tN<|wp_region_lit<|mv O rfl rfl fun a O=>st O (Ap O rfl rfl (Af (gk) (1) (by omega))) rfl fun a O=>ag O rfl rfl fun a O=>wpList_nil<|tN ?_;have J:=J.drop 1;refine ⟨gk+1,⟨by omega,trivial,(u4),(e5),hs6.snoc rfl,O.sub _ (by repeat' constructor),?_⟩,by omega⟩;exact J
  obtain rfl:m=gk:=by omega
  refine wp_exit<|tX<|tX<|Am<|tN<|sr<|mv O rfl rfl fun a O=>ag O rfl rfl fun a O=>nt<|wp_ret<|BC rfl O.defers (Ad O rfl) ⟨_,rfl,J.below,?_⟩;exact OwnSl.pos J (k:=0) rfl hsl hm
def addN (p:Nat) (f h:Nat->Nat) (x:Int) (i:Nat):Nat:=(((f i:Int)+x*(h i:Int))%(p:Int)).toNat
theorem K7 {p:Nat}{f h:Nat->Nat}{x:Int}{i:Nat}(hp:0<p):(addN p f h x i:Int)=((f i:Int)+x*(h i:Int))%(p:Int):=
  Int.toNat_of_nonneg (Int.emod_nonneg _ (by omega))
theorem QZ {x:Int}{y:Nat}(h1:-100<x)(h2:x<100)(hy:y<=255):-25500<=x*(y:Int)/\x*(y:Int)<=25500:=by
  have a1:=Int.mul_le_mul_of_nonneg_right (show x<=99 by omega) (Int.natCast_nonneg y);have a2:=Int.mul_le_mul_of_nonneg_right (show -99<=x by omega) (Int.natCast_nonneg y)
  omega
theorem getRow {m gk:Nat}{F G:Nat->Nat}(i:Nat)(hi:gk<=i/\i<m):(A1 m (fun c=>.int .u8 ((if c<gk then G c else F c:Nat):Int)))[0+i*1]? = some (.int .u8 (F i:Int)):=
  CP i (by omega) hi.2 (by rw [if_neg (by omega)])
theorem I4 (p b c m:Nat)(f:Nat->Nat)(x:Int)(w:World)(hp:0<p)(hO:p<100)(hx:-100<x)(hx2:x<100)(hm:m<1000)(hf:∀ i,f i<=255)(hb:Blk w b (A1 m (fun c=>.int .u8 (f c:Int)))) :
    CallsX Try.prog [b] 103 #[.slice (some ⟨b,0,none⟩) m c,.slice (some ⟨b,0,none⟩) m c,.int .i64 (x),.int .i64 (p:Int)] w (fun v w'=>v = .tuple #[]/\Blk w' b (A1 m (fun c=>.int .u8 (addN p f f x c:Int)))):=by
  refine B3 [.slice (some ⟨b,0,none⟩) m c,.slice (some ⟨b,0,none⟩) m c,.int .i64 (x),.int .i64 (p:Int)] Try.func103 rfl Try.ntmps103 rfl fun a O=>?_;have J:MemX [b] w w [some (b,A1 m (fun c=>.int .u8 (f c:Int)))] []:=MemX.startX1 0 hb;change Fr 33 a [(0,.slice (some ⟨b,0,none⟩) m c),(1,.slice (some ⟨b,0,none⟩) m c),(2,.int .i64 (x)),(3,.int .i64 (p:Int))] at O;refine sr<|mv O rfl rfl fun a O=>st O (B2 CK O rfl) rfl fun a O=>mv O rfl rfl fun a O=>nt<|wp_block ?_;change MemX [b] w _ [some (b,A1 m (fun c=>.int .u8 (f c:Int)))] [] at J;refine Av (fun (kk:Nat) a w'=>kk<=m/\(True)/\Fr 33 a [(0,.slice (some ⟨b,0,none⟩) m c),(2,.int .i64 (x)),(3,.int .i64 (p:Int)),(10,.slice (some ⟨b,0,none⟩) m c),(11,.int .i64 (m:Int)),(12,.int .i64 (kk:Int))]/\MemX [b] w w' [some (b,A1 m (fun c=>.int .u8 ((if c<kk then addN p f f x c else f c:Nat):Int)))] []) (fun kk=>m - kk) 0 ?_ ?_
  . refine ⟨by omega,trivial,O.sub _ (by repeat' constructor),?_⟩
    exact J.cast (by simp)
  clear O J;rintro gk a w' ⟨hgk,hH,O,J⟩;have hfk:=hf gk;have hhk:=hf gk;have hxh:=QZ hx hx2 (hf gk);refine sr<|st O (A0 O rfl rfl) rfl fun a O=>nt<|sq<|Ab O rfl (fun h1=>?_) (fun h1=>?_)
  . refine wp_skip ?_
    refine tN<|sq<|wp_block<|sr<|mv O rfl rfl fun a O=>st O (Ak (i:=gk) Bt O rfl rfl rfl (by omega)) rfl fun a O=>st O (AP Ai O rfl (J.row 0 rfl) (getRow (gk) (by omega))) rfl fun a O=>ag O rfl rfl fun a O=>ag O rfl rfl fun a O=>nt<|wp_region_lit<|mv O rfl rfl fun a O=>mv O rfl rfl fun a O=>mv O rfl rfl fun a O=>mv O rfl rfl fun a O=>st O (Ak (i:=gk) Bt O rfl rfl rfl (by omega)) rfl fun a O=>st O (AP Ai O rfl (J.row 0 rfl) (getRow (gk) (by omega))) rfl fun a O=>st O (A9 BJ BN O rfl (wrap_i64 (by omega) (by omega))) rfl fun a O=>mv O rfl rfl fun a O=>mv O rfl rfl fun a O=>st O (A9 BJ BN O rfl (wrap_i64 (by omega) (by omega))) rfl fun a O=>st O (B1 O rfl rfl (wrap_i64 (by omega) (by omega))) rfl fun a O=>st O (Ap O rfl rfl (wrap_i64 (by omega) (by omega))) rfl fun a O=>mv O rfl rfl fun a O=>Ar O (Ae Try.call115 O (.cons rfl (.cons rfl .nil)) (EP ((f (gk):Int)+(x)*((f (gk):Int))) (p) _ (by omega) (by omega) (by omega) (by omega))) rfl ?_;rintro _ w' a ⟨hx,rfl⟩ O;have J:=J.ext hx;refine st O (Ak (i:=gk) Bt O rfl rfl rfl (by omega)) rfl fun a O=>BQ O (Az 0 J rfl Ai O rfl rfl rfl (by first | omega | (simp only [Aa]<;>omega) | (simp only [Array.size_setIfInBounds];omega) | simp)) ?_;intro _ w' a J O;rw [show (A1 m (fun c=>.int .u8 ((if c<gk then addN p f f x c else f c:Nat):Int))).setIfInBounds (0+(gk)*1) (.int .u8 (((f (gk):Int)+(x)*((f (gk):Int)))%(p:Int)))=A1 m (fun c=>if c=gk then .int .u8 (((f (gk):Int)+(x)*((f (gk):Int)))%(p:Int)) else .int .u8 ((if c<gk then addN p f f x c else f c:Nat):Int)) from Bv (fun c _=>by rw [show 0+(gk)*1=gk by omega])] at J;change MemX _ _ _ [_] [] at J;refine wpList_nil<|iN<|tN<|wp_region_lit<|st O (Ap O rfl rfl (Af (gk) (1) (by omega))) rfl fun a O=>mv O rfl rfl fun a O=>nt<|⟨gk+1,⟨by omega,trivial,O.sub _ (by repeat' constructor),?_⟩,by omega⟩;refine J.rowc 0 rfl (BS fun c hc=>?_)
    by_cases e1:c=gk
    . subst e1;rw [if_pos rfl,if_pos (by omega)];exact congrArg (Value.int .u8) (K7 hp).symm
    . have e0:(c<gk+1)=(c<gk):=by apply propext;omega
      simp [e0,e1]
  obtain rfl:m=gk:=by omega
  refine wp_exit<|tX<|tX<|Am<|Pd rfl O.defers ⟨_,rfl,J.bel,?_⟩;exact ⟨rfl,(J.rowc (cs':=A1 m (fun c=>.int .u8 (addN p f f x c:Int))) 0 rfl (BS fun c hc=>by simp [hc])).row 0 rfl⟩
theorem NK (p b c b2 o2 c2 m:Nat)(cs2:Array Value)(f h:Nat->Nat)(x:Int)(w:World)(hp:0<p)(hO:p<100)(hx:-100<x)(hx2:x<100)(hm:m<1000)(hf:∀ i,f i<=255)(hb:Blk w b (A1 m (fun c=>.int .u8 (f c:Int))))(hh:∀ i,h i<=255)(hne:b2≠b)(hb2:Blk w b2 cs2)(hg2:∀ i,i<m->cs2[o2+i*1]? = some (.int .u8 (h i:Int))) :
    CallsX Try.prog [b] 103 #[.slice (some ⟨b,0,none⟩) m c,.slice (some ⟨b2,o2,none⟩) m c2,.int .i64 (x),.int .i64 (p:Int)] w (fun v w'=>v = .tuple #[]/\Blk w' b (A1 m (fun c=>.int .u8 (addN p f h x c:Int)))):=by
  refine B3 [.slice (some ⟨b,0,none⟩) m c,.slice (some ⟨b2,o2,none⟩) m c2,.int .i64 (x),.int .i64 (p:Int)] Try.func103 rfl Try.ntmps103 rfl fun a O=>?_;have J:MemX [b] w w [some (b,A1 m (fun c=>.int .u8 (f c:Int)))] [(b2,cs2)]:=MemX.startX1D 0 hb (Nc hb2 hne);change Fr 33 a [(0,.slice (some ⟨b,0,none⟩) m c),(1,.slice (some ⟨b2,o2,none⟩) m c2),(2,.int .i64 (x)),(3,.int .i64 (p:Int))] at O;refine sr<|mv O rfl rfl fun a O=>st O (B2 CK O rfl) rfl fun a O=>mv O rfl rfl fun a O=>nt<|wp_block ?_;change MemX [b] w _ [some (b,A1 m (fun c=>.int .u8 (f c:Int)))] [(b2,cs2)] at J;refine Av (fun (kk:Nat) a w'=>kk<=m/\(True)/\Fr 33 a [(0,.slice (some ⟨b,0,none⟩) m c),(2,.int .i64 (x)),(3,.int .i64 (p:Int)),(10,.slice (some ⟨b2,o2,none⟩) m c2),(11,.int .i64 (m:Int)),(12,.int .i64 (kk:Int))]/\MemX [b] w w' [some (b,A1 m (fun c=>.int .u8 ((if c<kk then addN p f h x c else f c:Nat):Int)))] [(b2,cs2)]) (fun kk=>m - kk) 0 ?_ ?_
  . refine ⟨by omega,trivial,O.sub _ (by repeat' constructor),?_⟩
    exact J.cast (by simp)
  clear O J;rintro gk a w' ⟨hgk,hH,O,J⟩;have hfk:=hf gk;have hhk:=hh gk;have hxh:=QZ hx hx2 (hh gk);refine sr<|st O (A0 O rfl rfl) rfl fun a O=>nt<|sq<|Ab O rfl (fun h1=>?_) (fun h1=>?_)
  . refine wp_skip ?_
    refine tN<|sq<|wp_block<|sr<|mv O rfl rfl fun a O=>st O (Ak (i:=gk) Bt O rfl rfl rfl (by omega)) rfl fun a O=>st O (AP Ai O rfl (J.fz 0 rfl) (hg2 (gk) (by omega))) rfl fun a O=>ag O rfl rfl fun a O=>ag O rfl rfl fun a O=>nt<|wp_region_lit<|mv O rfl rfl fun a O=>mv O rfl rfl fun a O=>mv O rfl rfl fun a O=>mv O rfl rfl fun a O=>st O (Ak (i:=gk) Bt O rfl rfl rfl (by omega)) rfl fun a O=>st O (AP Ai O rfl (J.row 0 rfl) (getRow (gk) (by omega))) rfl fun a O=>st O (A9 BJ BN O rfl (wrap_i64 (by omega) (by omega))) rfl fun a O=>mv O rfl rfl fun a O=>mv O rfl rfl fun a O=>st O (A9 BJ BN O rfl (wrap_i64 (by omega) (by omega))) rfl fun a O=>st O (B1 O rfl rfl (wrap_i64 (by omega) (by omega))) rfl fun a O=>st O (Ap O rfl rfl (wrap_i64 (by omega) (by omega))) rfl fun a O=>mv O rfl rfl fun a O=>Ar O (Ae Try.call115 O (.cons rfl (.cons rfl .nil)) (EP ((f (gk):Int)+(x)*((h (gk):Int))) (p) _ (by omega) (by omega) (by omega) (by omega))) rfl ?_;rintro _ w' a ⟨hx,rfl⟩ O;have J:=J.ext hx;refine st O (Ak (i:=gk) Bt O rfl rfl rfl (by omega)) rfl fun a O=>BQ O (Az 0 J rfl Ai O rfl rfl rfl (by first | omega | (simp only [Aa]<;>omega) | (simp only [Array.size_setIfInBounds];omega) | simp)) ?_;intro _ w' a J O;rw [show (A1 m (fun c=>.int .u8 ((if c<gk then addN p f h x c else f c:Nat):Int))).setIfInBounds (0+(gk)*1) (.int .u8 (((f (gk):Int)+(x)*((h (gk):Int)))%(p:Int)))=A1 m (fun c=>if c=gk then .int .u8 (((f (gk):Int)+(x)*((h (gk):Int)))%(p:Int)) else .int .u8 ((if c<gk then addN p f h x c else f c:Nat):Int)) from Bv (fun c _=>by rw [show 0+(gk)*1=gk by omega])] at J;change MemX _ _ _ [_] _ at J;refine wpList_nil<|iN<|tN<|wp_region_lit<|st O (Ap O rfl rfl (Af (gk) (1) (by omega))) rfl fun a O=>mv O rfl rfl fun a O=>nt<|⟨gk+1,⟨by omega,trivial,O.sub _ (by repeat' constructor),?_⟩,by omega⟩;refine J.rowc 0 rfl (BS fun c hc=>?_)
    by_cases e1:c=gk
    . subst e1;rw [if_pos rfl,if_pos (by omega)];exact congrArg (Value.int .u8) (K7 hp).symm
    . have e0:(c<gk+1)=(c<gk):=by apply propext;omega
      simp [e0,e1]
  obtain rfl:m=gk:=by omega
  refine wp_exit<|tX<|tX<|Am<|Pd rfl O.defers ⟨_,rfl,J.bel,?_⟩;exact ⟨rfl,(J.rowc (cs':=A1 m (fun c=>.int .u8 (addN p f h x c:Int))) 0 rfl (BS fun c hc=>by simp [hc])).row 0 rfl⟩
theorem M4 (b o c m:Nat)(cs:Array Value)(f:Nat->Int)(w:World)(hb:Blk w b cs)(hg:∀ i,i<m->cs[o+i*1]? = some (.int .i64 (f i)))(hm0:0<m)(hm:m<1000) :
    CallsR Try.prog 171 #[.slice (some ⟨b,o,none⟩) m c] w (OwnSl 1 w m (fun i=>.int .i64 (f i))):=by
  refine Al [.slice (some ⟨b,o,none⟩) m c] Try.func171 rfl Try.ntmps171 rfl fun a O=>?_;have J:Ag w w [none] [(b,cs)]:=MemX.startD w 1 _ (Jo hb);change Fr 6 a [(0,.slice (some ⟨b,o,none⟩) m c)] at O;refine sr<|ag O rfl rfl fun a O=>ns<|Ar O (BH 0 J O rfl Df) rfl ?_;rintro _ w' a ⟨b1,rfl,J,-⟩ O;change Ag _ _ [some (b1,#[])] _ at J;refine mv O rfl rfl fun a O=>Ar O (Bg (k:=0) (N:=0) (m:=m) (f:=fun i=>.int .i64 (f (i))) (g:=fun i=>.int .i64 (f (i))) Cn rfl (by decide) J rfl O rfl rfl (Sl.empty 1 _ _) (fun i hi=>((J.fz 0 rfl).cell _).trans (by have:=hg i (by omega);rwa [show o+i*1=o+i by omega] at this)) (fun _ _=>rfl) (by omega) (by unfold maxLen;omega) (by omega)) rfl ?_;rintro u2 w' a ⟨e3,J,hs4⟩ O;change Ag w w' [e3] [(b,cs)] at J;refine ag O rfl rfl fun a O=>nt<|wp_ret<|BC rfl O.defers (Ad O rfl) ⟨_,rfl,J.below,?_⟩;exact OwnSl.pos J (k:=0) rfl (by have:=hs4.congr (g:=fun i=>.int .i64 (f i)) (fun i hi=>by simp);simpa using this) hm0
def Q3 (M N:Nat->Nat->Nat):Prop:=∀ j,j<6->IA 6 (M j) (N j)
instance (M N:Nat->Nat->Nat):Decidable (Q3 M N):=Nat.decidableBallLT 6 _
def Pf (T U:Nat->Nat->Nat->Nat):Prop:=∀ i,i<6->Q3 (T i) (U i)
instance (T U:Nat->Nat->Nat->Nat):Decidable (Pf T U):=Nat.decidableBallLT 6 _
def Fw (p:Nat) (v u:Nat->Nat) (x i:Nat):Nat:=(v i+x*u i)%p
theorem HY (p:Nat)(v u:Nat->Nat)(x:Nat)(w:World)(hp:0<p)(hO:p<100)(hx:x<100)(hv:∀ i,v i<=255)(hu:∀ i,u i<=255) :
    CallsR Try.prog 104 #[.int .i64 (p:Int),.agg (AQ v),.agg (AQ u),.int .i64 (x:Int)] w (fun res _=>res = .agg (AQ (Fw p v u x))):=by
  refine Al [.int .i64 (p:Int),.agg (AQ v),.agg (AQ u),.int .i64 (x:Int)] Try.func104 rfl Try.ntmps104 rfl fun a O=>?_;have J:Ag w w [none,none,none] []:=MemX.start w 3;change Fr 31 a [(0,.int .i64 (p:Int)),(1,.agg (AQ v)),(2,.agg (AQ u)),(3,.int .i64 (x:Int))] at O;refine sr<|Ar O (BI 0 J O rfl) rfl ?_;rintro _ w' a ⟨b1,rfl,J,-⟩ O;refine Ar O (BI 1 J O rfl) rfl ?_;rintro _ w' a ⟨b2,rfl,J,-⟩ O;refine Ar O (Ah 2 J BE) rfl ?_;rintro _ w' a ⟨b3,rfl,J,-⟩ O;refine nt<|sq<|sr<|ag O rfl rfl fun a O=>nt<|wp_block ?_;change Ag _ _ [some (b1,AQ v),some (b2,AQ u),some (b3,A1 6 (fun _=>.int .u8 (0)))] [] at J;refine Av (fun (kk:Nat) a w'=>kk<=6/\(True)/\Fr 31 a [(0,.int .i64 (p:Int)),(3,.int .i64 (x:Int)),(5,ptr b1 (0)),(6,ptr b2 (0)),(8,ptr b3 (0)),(9,.int .i64 (kk:Int))]/\Ag w w' [some (b1,A1 6 (fun c=>.int .u8 ((if c<kk then Fw p v u x c else v c:Nat):Int))),some (b2,AQ u),some (b3,A1 6 (fun _=>.int .u8 (0)))] []) (fun kk=>6 - kk) 0 ?_ ?_
  . refine ⟨by omega,trivial,O.sub _ (by repeat' constructor),?_⟩
    refine J.rowc 0 rfl (BS fun c hc=>by simp)
  clear O J;rintro gk a w' ⟨hgk,hH,O,J⟩;have hvk:=hv gk;have huk:=hu gk;have hxu:x*u gk<=100*255:=Nat.mul_le_mul (by omega) huk;refine sq<|sr<|mv O rfl rfl fun a O=>st O (A0 O rfl rfl) rfl fun a O=>nt<|Ab O rfl (fun h4=>?_) (fun h4=>?_)
  . refine wp_skip ?_
    refine tN<|sq<|wp_block<|BV 15 [] [.val (.int .i64 (gk:Int)),.val (.int .i64 (p:Int)),.val (.int .i64 (gk:Int)),.val (ptr b1 (0+(gk)*1)),.val (.int .u8 ((v (gk):Int))),.val (.int .i64 ((v (gk):Int))),.val (.int .i64 (x:Int)),.val (.int .i64 (gk:Int)),.val (ptr b2 (0+(gk)*1)),.val (.int .u8 ((u (gk):Int))),.val (.int .i64 ((u (gk):Int))),.val (.int .i64 ((((x)*(u (gk)):Nat):Int))),.val (.int .i64 (((v (gk)+(x)*(u (gk)):Nat):Int))),.val (.int .i64 ((((v (gk)+(x)*(u (gk)))%(p):Nat):Int))),.val (.int .u8 ((((v (gk)+(x)*(u (gk)))%(p):Nat):Int)))] Bf rfl O rfl J ⟨fun a w gG O hS hd=>by exact BP hS rfl O rfl,fun a w gG O hS hd=>by exact BP hS rfl O rfl,fun a w gG O hS hd=>by exact BP hS rfl O rfl,fun a w gG O hS hd=>by have O:=O.ext1 16 (hd 2 rfl rfl);exact AA hS rfl (AF A4 O rfl rfl rfl (by omega)),fun a w gG O hS hd=>by have O:=O.ext1 17 (hd 3 rfl rfl);have J:=hS.mem rfl;exact AA hS rfl (AP Ai O rfl (J.row 0 rfl) (CP gk (by omega) (by omega) (by rw [if_neg (by omega)]))),fun a w gG O hS hd=>by have O:=O.ext1 18 (hd 4 rfl rfl);exact AA hS rfl (A9 BJ BN O rfl (wrap_i64 (by omega) (by omega))),fun a w gG O hS hd=>by exact BP hS rfl O rfl,fun a w gG O hS hd=>by exact BP hS rfl O rfl,fun a w gG O hS hd=>by have O:=O.ext1 21 (hd 7 rfl rfl);exact AA hS rfl (AF A4 O rfl rfl rfl (by omega)),fun a w gG O hS hd=>by have O:=O.ext1 22 (hd 8 rfl rfl);have J:=hS.mem rfl;exact AA hS rfl (AP Ai O rfl (J.row 1 rfl) (Ba (gk) (by omega) (by omega))),fun a w gG O hS hd=>by have O:=O.ext1 23 (hd 9 rfl rfl);exact AA hS rfl (A9 BJ BN O rfl (wrap_i64 (by omega) (by omega))),fun a w gG O hS hd=>by have O:=O.ext1 20 (hd 6 rfl rfl);have O:=O.ext1 24 (hd 10 rfl rfl);exact AA hS rfl (B1 O rfl rfl (Bh x (u gk) (by omega))),fun a w gG O hS hd=>by have O:=O.ext1 19 (hd 5 rfl rfl);have O:=O.ext1 25 (hd 11 rfl rfl);exact AA hS rfl (Ap O rfl rfl (Af (v (gk)) ((x)*(u (gk))) (by omega))),fun a w gG O hS hd=>by have O:=O.ext1 15 (hd 1 rfl rfl);have O:=O.ext1 26 (hd 12 rfl rfl);exact BL (by repeat constructor) hS rfl (Ae Try.call153 O (.cons rfl (.cons rfl .nil)) (GY (v (gk)+(x)*(u (gk))) (p) _ (by omega) (by omega) (by omega))),fun a w gG O hS hd=>by have O:=O.ext1 27 (hd 13 rfl rfl);exact AA hS rfl (A9 B8 B9 O rfl (wrap_u8 (by omega) (by have:=Nat.mod_lt (v gk+x*u gk) hp;omega))),trivial⟩ ?_;intro a w' L O hS hq;have O:=O.ext1 14 (hq 0 rfl rfl);have O:=O.ext1 15 (hq 1 rfl rfl);have O:=O.ext1 16 (hq 2 rfl rfl);have O:=O.ext1 17 (hq 3 rfl rfl);have O:=O.ext1 18 (hq 4 rfl rfl);have O:=O.ext1 19 (hq 5 rfl rfl);have O:=O.ext1 20 (hq 6 rfl rfl);have O:=O.ext1 21 (hq 7 rfl rfl);have O:=O.ext1 22 (hq 8 rfl rfl);have O:=O.ext1 23 (hq 9 rfl rfl);have O:=O.ext1 24 (hq 10 rfl rfl);have O:=O.ext1 25 (hq 11 rfl rfl);have O:=O.ext1 26 (hq 12 rfl rfl);have O:=O.ext1 27 (hq 13 rfl rfl);have O:=O.ext1 28 (hq 14 rfl rfl);have J:=hS.mem rfl;change wpList Try.prog _ _ [_,_] _ _;refine st O (AF A4 O rfl rfl rfl (by omega)) rfl fun a O=>BQ O (Az 0 J rfl Ai O rfl rfl rfl (by first | omega | (simp only [Aa]<;>omega) | (simp only [Array.size_setIfInBounds];omega) | simp)) ?_;intro _ w' a J O;rw [show (A1 6 (fun c=>.int .u8 ((if c<gk then Fw p v u x c else v c:Nat):Int))).setIfInBounds (0+(gk)*1) (.int .u8 ((((v (gk)+(x)*(u (gk)))%(p):Nat):Int)))=A1 6 (fun c=>.int .u8 (((if c=gk then (v (gk)+(x)*(u (gk)))%(p) else if c<gk then Fw p v u x c else v c):Nat):Int)) from Bv (fun c _=>by rw [show 0+(gk)*1=gk by omega];by_cases hh:c=gk<;>simp [hh])] at J
    change Ag _ _ [_,_,_] [] at J;refine wpList_nil<|iN<|tN<|wp_region_lit<|mv O rfl rfl fun a O=>st O (Ap O rfl rfl (Af (gk) (1) (by omega))) rfl fun a O=>ag O rfl rfl fun a O=>nt<|⟨gk+1,⟨by omega,trivial,O.sub _ (by repeat' constructor),?_⟩,by omega⟩;refine J.rowc 0 rfl (BS fun c hc=>congrArg (Value.int .u8) (congrArg Nat.cast ?_))
    by_cases e1:c=gk
    . simp [e1,Fw]
    . have e0:(c<gk+1)=(c<gk):=by apply propext;omega
      simp [e0,e1]
  obtain rfl:6=gk:=by omega
  have J:=J.rowc (cs':=AQ (Fw p v u x)) 0 rfl (BS fun c hc=>by simp [show c<6 by omega]);refine wp_exit<|tX<|tX<|Am<|tN<|sr<|st O (AE Aq O rfl (J.row 0 rfl) (by simp only [Aa]<;>omega) (whole (by simp only [Aa]))) rfl fun a O=>BQ O (AJ 2 J rfl A3 O rfl rfl At (by simp only [Aa]) (by simp only [Aa]<;>omega) (AH _ _ (by simp only [Aa]))) ?_;intro _ w' a J O;change Ag _ _ [_,_,some (b3,AQ (Fw p v u x))] [] at J;refine nt<|wp_ret<|BC rfl O.defers (A5 Aq O rfl (J.row 2 rfl) (by simp only [Aa])) ⟨_,rfl,J.below,?_⟩
  show _=_
  rfl
end Go.Proofs.Ytkcneleabbjkaaa
