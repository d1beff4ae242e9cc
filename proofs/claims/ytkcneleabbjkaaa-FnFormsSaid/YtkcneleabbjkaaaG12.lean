import Derived.Test.YtkcneleabbjkaaaSw16
import Derived.Test.YtkcneleabbjkaaaChecked
set_option linter.unusedVariables false
set_option linter.unusedSimpArgs false
namespace Go.Proofs.Ytkcneleabbjkaaa
open Go Go.RowKit Go.Sw
theorem BT:Try.prog.follows .mixedOrders=true:=by kernel_rfl
def sumTo (f:Nat->Nat):Nat->Nat
  | 0=>0
  | m+1=>sumTo f m+f m
def prodI (T:Nat->Nat->Nat->Nat) (v u:Nat->Nat) (n i c:Nat):Nat:=sumTo (fun i=>sumTo (fun j=>v i*u j*T i j c) n) i
def timesV (p n:Nat) (T:Nat->Nat->Nat->Nat) (v u:Nat->Nat) (c:Nat):Nat:=prodI T v u n n c%p
theorem sumTo_le {f:Nat->Nat}{c m:Nat}(h:∀ i,i<m->f i<=c):sumTo f m<=m*c:=by
  induction m with
  | zero=>simp [sumTo]
  | succ m ih=>have h1:=ih (fun i hi=>h i (by omega));have h2:=h m (by omega);simp only [sumTo,Nat.succ_mul];omega
theorem Es {x y:Nat}(hx:x<=255)(hy:y<=255):x*y<=65025:=Nat.le_trans (Nat.mul_le_mul hx hy) (by decide)
theorem HE {x y z:Nat}(hx:x<=255)(hy:y<=255)(hz:z<=255):x*y*z<=16581375:=Nat.le_trans (Nat.mul_le_mul (Es hx hy) hz) (by decide)
theorem Iw {T:Nat->Nat->Nat->Nat}{v u:Nat->Nat}{n i j:Nat}(hv:∀ i,v i<=255)(hu:∀ i,u i<=255)(hT:∀ i j k,T i j k<=255)(hn:n<=6)(hi:i<=n)(hj:j<=n)(c:Nat) :
    prodI T v u n i c+sumTo (fun j=>v i*u j*T i j c) j<=700000000:=by
  have h1:prodI T v u n i c<=6*(6*16581375):=Nat.le_trans (sumTo_le (c:=6*16581375) fun a _=>Nat.le_trans (sumTo_le (c:=16581375) fun b _=>HE (hv a) (hu b) (hT a b c)) (Nat.mul_le_mul_right _ hn)) (Nat.mul_le_mul_right _ (by omega));have h2:=sumTo_le (m:=j) (c:=16581375) fun b (_:b<j)=>HE (hv i) (hu b) (hT i b c);have h3:j*16581375<=6*16581375:=Nat.mul_le_mul_right _ (by omega)
  omega
theorem whole {c:Array Value}{n:Nat}(h:c.size=n):c.extract 0 (0+n)=c:=by subst h;simp
theorem CS {n:Nat}{f:Nat->Value}{o:Nat}{v:Value}(i:Nat)(h:o=i)(hi:i<n)(hv:f i=v):(Al n f)[o]? = some v:=by subst h;subst hv;exact Bx hi
theorem Ir (x:Int)(p:Nat)(hp:0<p):-(p:Int)<x.tmod p/\x.tmod p<p:=by
  have h1:=Int.tmod_lt_of_pos x (b:=(p:Int)) (by omega);have h2:=Int.lt_tmod_of_pos x (b:=(p:Int)) (by omega);exact ⟨h2,h1⟩
theorem LQ (x:Int)(p:Nat)(hp:0<p):0<=x%(p:Int)/\x%(p:Int)<p:=⟨Int.emod_nonneg x (by omega),Int.emod_lt_of_pos x (by omega)⟩
theorem Jh (x:Int)(p:Nat)(hp:0<p):(x.tmod (p:Int)+(p:Int)).tmod (p:Int)=x%(p:Int):=by
  have h:=Ir x p hp;rw [Int.tmod_eq_emod_of_nonneg (by omega),Int.add_emod_right];rw [Int.tmod_eq_emod]
  split
  . simp
  . have:(((p:Int).natAbs:Int))=p:=by simp
    rw [this,Int.sub_emod_right,Int.emod_emod]
def Qa (k:Nat):ByteArray:=⟨#[109,UInt8.ofNat (48+k)]⟩
def QA (i:Nat):ByteArray:=match i with
  | 0=>⟨#[102,105,101,108,100]⟩
  | 1=>⟨#[100,117,97,108]⟩
  | 2=>⟨#[112,97,105,114]⟩
  | 3=>⟨#[99,121,99,108,105,99,51]⟩
  | 4=>⟨#[115,121,109,109,101,116,114,105,99]⟩
  | _=>⟨#[109,97,116,114,105,120]⟩
theorem Bs:Try.prog.underlying 2=some (.int .i64):=by kernel_rfl
theorem Br:Try.prog.underlying 5=some (.int .u8):=by kernel_rfl
theorem Am:FP Try.prog 27=some (.agg (Al 6 (fun _=>.int .u8 (0)))):=by kernel_rfl
theorem Ap:GN Try.prog 27=some (6,1):=by kernel_rfl
theorem AZ:FO Try.prog 5=true:=by kernel_rfl
theorem AU:Gv Try.prog 27=some 6:=by kernel_rfl
theorem Ai:DA Try.prog 27=some 6:=by kernel_rfl
theorem LZ:FP Try.prog 119=some (.agg (Al 6 (fun _=>.int .i64 (0)))):=by kernel_rfl
theorem AT:DI Try.prog 29 1=some 1:=by kernel_rfl
theorem AR:FO Try.prog 2=true:=by kernel_rfl
theorem A6:Try.prog.underlying 5=some (.int .u8):=by kernel_rfl
theorem A1:Try.prog.underlying 2=some (.int .i64):=by kernel_rfl
theorem Ay:DI Try.prog 29 2=some 2:=by kernel_rfl
theorem BH:GN Try.prog 26=some (6,36):=by kernel_rfl
theorem BI:GN Try.prog 25=some (6,6):=by kernel_rfl
theorem Bv:Gv Try.prog 24=some 6:=by kernel_rfl
theorem MM:Try.prog.underlying 24=some (.array 6 5):=by kernel_rfl
theorem IH:GN Try.prog 119=some (6,1):=by kernel_rfl
theorem Ld:Gv Try.prog 119=some 6:=by kernel_rfl
theorem La:Try.prog.underlying 119=some (.array 6 2):=by kernel_rfl
theorem As:DI Try.prog 29 0=some 0:=by kernel_rfl
theorem Cq:Try.prog.underlying 27=some (.array 6 5):=by kernel_rfl
theorem By:∀ w,(Instr.build 27 #[]).run Try.prog w = .ok (.agg (Al 6 (fun _=>.int .u8 (0)))) w:=by intros;kernel_rfl
theorem Bz:GN Try.prog 24=some (6,1):=by kernel_rfl
theorem BG:DI Try.prog 29 3=some 218:=by kernel_rfl
theorem Ew:Gv Try.prog 26=some 216:=by kernel_rfl
theorem F3:Gv Try.prog 25=some 36:=by kernel_rfl
theorem JZ:Try.prog.underlying 26=some (.array 6 25):=by kernel_rfl
theorem JX:FP Try.prog 25=some (.agg (Al 36 (fun _=>.int .u8 (0)))):=by kernel_rfl
theorem Jc:DA Try.prog 25=some 36:=by kernel_rfl
theorem Ja:Try.prog.underlying 25=some (.array 6 24):=by kernel_rfl
theorem JY:FP Try.prog 24=some (.agg (Al 6 (fun _=>.int .u8 (0)))):=by kernel_rfl
theorem Du:DA Try.prog 24=some 6:=by kernel_rfl
theorem Jg:ME Try.prog 24=some (6,5,1):=by kernel_rfl
theorem EX:L8 Try.prog 5=true:=by kernel_rfl
theorem Jd:Try.prog.eqGuardType Try.prog.depth 24=false:=by kernel_rfl
theorem AJ:Gv Try.prog 29=some 224:=by kernel_rfl
theorem Ex:ME Try.prog 27=some (6,5,1):=by kernel_rfl
theorem Eu:Try.prog.eqGuardType Try.prog.depth 27=false:=by kernel_rfl
theorem Ch:Try.prog.underlying 65=some (.slice 2):=by kernel_rfl
theorem Bd:sliceOf Try.prog 65=some 1:=by kernel_rfl
theorem Bu:Try.prog.underlying 22=some (.slice 5):=by kernel_rfl
theorem BX:sliceOf Try.prog 22=some 1:=by kernel_rfl
theorem DO:∀ w,(Instr.buildSlice 65 0 #[]).run Try.prog w = .ok (.slice (some ⟨w.heap.size,0,none⟩) 0 0) (w.alloc (.cells #[] 2)):=by intros;kernel_rfl
theorem CJ:∀ (x:Int) (w:World),(Instr.buildSlice 65 1 #[(0,.int .i64 x)]).run Try.prog w = .ok (.slice (some ⟨w.heap.size,0,none⟩) 1 1) (w.alloc (.cells #[.int .i64 x] 2)):=by intros;kernel_rfl
theorem CF:Lr Try.prog 65=some (2,some (.int .i64 (0)),1,8):=by kernel_rfl
theorem Ii:∀ w,(Instr.buildSlice 137 6 #[(0,.string (⟨#[102,105,101,108,100]⟩)),(1,.string (⟨#[100,117,97,108]⟩)),(2,.string (⟨#[112,97,105,114]⟩)),(3,.string (⟨#[99,121,99,108,105,99,51]⟩)),(4,.string (⟨#[115,121,109,109,101,116,114,105,99]⟩)),(5,.string (⟨#[109,97,116,114,105,120]⟩))]).run Try.prog w = .ok (.slice (some ⟨w.heap.size,0,none⟩) 6 6) (w.alloc (.cells (Al 6 (fun c=>.string (QA c))) 9)):=by intros;kernel_rfl
theorem Dx (x:Int)(p:Nat)(w:World)(hp:0<p)(hO:p<100)(hx:-1000000000<x)(hx2:x<1000000000) :
    CallsR Try.prog 115 #[.int .i64 (x),.int .i64 (p:Int)] w (fun res _=>res = .int .u8 (x%(p:Int))):=by
  refine AV [.int .i64 (x),.int .i64 (p:Int)] Try.func115 rfl Try.ntmps115 rfl fun a O=>?_;have J:AX w w [] []:=MemX.start w 0;change Fr 13 a [(0,.int .i64 (x)),(1,.int .i64 (p:Int))] at O;have h1:=Ir x p hp;have h2:=LQ x p hp;refine sr<|ag O rfl rfl fun a O=>ns<|mv O rfl rfl fun a O=>mv O rfl rfl fun a O=>st O (Ca O rfl rfl (by omega) rfl) rfl fun a O=>mv O rfl rfl fun a O=>st O (Ad O rfl rfl (wrap_i64 (by omega) (by omega))) rfl fun a O=>mv O rfl rfl fun a O=>st O (Ca O rfl rfl (by omega) (Jh x p hp)) rfl fun a O=>st O (Aw Br Bs O rfl (wrap_u8 (by omega) (by omega))) rfl fun a O=>ag O rfl rfl fun a O=>nt<|wp_ret<|Ax rfl O.defers (AM O rfl) ⟨_,rfl,J.below,?_⟩
  show _=_
  rfl
theorem CU (i:Nat)(w:World)(hi:i<6) :
    CallsR Try.prog 142 #[.int .i64 (i:Int)] w (fun res _=>res = .agg (AF (fun c=>if c=i then 1 else 0))):=by
  refine AV [.int .i64 (i:Int)] Try.func142 rfl Try.ntmps142 rfl fun a O=>?_;have J:AX w w [none,none] []:=MemX.start w 2;change Fr 7 a [(0,.int .i64 (i:Int))] at O;refine sr<|Ae O (Aa 0 J Am) rfl ?_;rintro _ w' a ⟨b1,rfl,J,-⟩ O;refine ns<|Ae O (Aa 1 J Am) rfl ?_;rintro _ w' a ⟨b2,rfl,J,-⟩ O;change AX _ _ [some (b1,Al 6 (fun _=>.int .u8 (0))),some (b2,Al 6 (fun _=>.int .u8 (0)))] [] at J;refine ns<|mv O rfl rfl fun a O=>st O (AG Ap O rfl rfl rfl (by omega)) rfl fun a O=>BF O (Ak 1 J rfl AZ O rfl rfl rfl (by first | omega | (simp only [AP]<;>omega) | (simp only [Array.size_setIfInBounds];omega) | simp)) ?_;intro _ w' a J O;rw [show (Al 6 (fun x=>.int .u8 (0))).setIfInBounds (0+(i)*1) (.int .u8 (1))=Al 6 (fun x=>.int .u8 (((if x=i then 1 else 0):Nat):Int)) from Bc (fun x _=>by rw [show 0+(i)*1=i by omega];by_cases hh:x=i<;>simp [hh])] at J;change AX _ _ [_,_] [] at J;refine ns<|st O (AC AU O rfl (J.row 1 rfl) (by simp only [AP]<;>omega) (whole (by simp only [AP]))) rfl fun a O=>BF O (AL 0 J rfl Ai O rfl rfl (by first | exact Ac | exact cells_one | (refine BO fun _ _=>?_;first | rfl | (split<;>rfl))) (by simp only [AP]) (by simp only [AP]<;>omega) (AI _ _ (by simp only [AP]))) ?_;intro _ w' a J O;change AX _ _ [some (b1,Al 6 (fun x=>.int .u8 (((if x=i then 1 else 0):Nat):Int))),_] [] at J;refine nt<|wp_ret<|Ax rfl O.defers (A7 AU O rfl (J.row 0 rfl) (by simp only [AP])) ⟨_,rfl,J.below,?_⟩
  show _=_
  rfl
theorem G1 (x p:Nat)(w:World)(hp:0<p)(hO:p<100)(hx:x<1000000000):CallsR Try.prog 115 #[.int .i64 (x:Int),.int .i64 (p:Int)] w (fun u _=>u = .int .u8 ((x%p:Nat):Int)):=Dx x p w hp hO (by omega) (by omega)
theorem DT (p n:Nat)(T:Nat->Nat->Nat->Nat)(f v u:Nat->Nat)(w:World)(hp:0<p)(hO:p<100)(hn:n<=6)(hT:∀ i j k,T i j k<=255)(hv:∀ i,v i<=255)(hu:∀ i,u i<=255) :
    CallsR Try.prog 87 #[.agg (AD (p:Int) (n:Int) T f),.agg (AF v),.agg (AF u)] w (fun res _=>res = .agg (AF (timesV p n T v u))):=by
  refine AV [.agg (AD (p:Int) (n:Int) T f),.agg (AF v),.agg (AF u)] Try.func87 rfl Try.ntmps87 rfl fun a O=>?_;have J:AX w w [none,none,none,none,none,none] []:=MemX.start w 6;change Fr 72 a [(0,.agg (AD (p:Int) (n:Int) T f)),(1,.agg (AF v)),(2,.agg (AF u))] at O;refine sr<|Ae O (At 0 J O rfl) rfl ?_;rintro _ w' a ⟨b1,rfl,J,-⟩ O;refine Ae O (At 1 J O rfl) rfl ?_;rintro _ w' a ⟨b2,rfl,J,-⟩ O;refine Ae O (At 2 J O rfl) rfl ?_;rintro _ w' a ⟨b3,rfl,J,-⟩ O;refine Ae O (Aa 3 J Am) rfl ?_;rintro _ w' a ⟨b4,rfl,J,-⟩ O;refine ns<|Ae O (Aa 4 J LZ) rfl ?_;rintro _ w' a ⟨b5,rfl,J,-⟩ O;change AX _ _ [some (b1,AD (p:Int) (n:Int) T f),some (b2,AF v),some (b3,AF u),some (b4,Al 6 (fun _=>.int .u8 (0))),some (b5,Al 6 (fun _=>.int .i64 (0))),_] [] at J;refine nt<|sq<|sr<|st O (AB AT O rfl) rfl fun a O=>st O (AK AR O rfl (J.row 0 rfl) (Ao (by omega))) rfl fun a O=>mv O rfl rfl fun a O=>nt<|wp_block ?_;change AX _ _ [_,_,_,_,_,_] [] at J;refine Af (fun (kk:Nat) a w'=>kk<=n/\(True)/\Fr 72 a [(3,ptr b1 (0)),(4,ptr b2 (0)),(5,ptr b3 (0)),(6,ptr b4 (0)),(7,ptr b5 (0)),(17,.int .i64 (n:Int)),(18,.int .i64 (kk:Int))]/\AX w w' [some (b1,AD (p:Int) (n:Int) T f),some (b2,AF v),some (b3,AF u),some (b4,Al 6 (fun _=>.int .u8 (0))),some (b5,Al 6 (fun c=>.int .i64 (prodI T v u n kk c:Int))),none] []) (fun kk=>n - kk) 0 ?_ ?_
  . refine ⟨by omega,trivial,O.sub _ (by repeat' constructor),?_⟩
    exact J
  clear O J;rintro i a w' ⟨hi,hH,O,J⟩;refine sr<|st O (Aj O rfl rfl) rfl fun a O=>nt<|sq<|AO O rfl (fun h6=>?_) (fun h6=>?_)
  . refine wp_skip ?_
    refine tN<|sq<|wp_block<|sr<|mv O rfl rfl fun a O=>ag O rfl rfl fun a O=>ns<|st O (AB AT O rfl) rfl fun a O=>st O (AK AR O rfl (J.row 0 rfl) (Ao (by omega))) rfl fun a O=>mv O rfl rfl fun a O=>nt<|wp_block ?_;change AX w _ [some (b1,AD (p:Int) (n:Int) T f),some (b2,AF v),some (b3,AF u),some (b4,Al 6 (fun _=>.int .u8 (0))),some (b5,Al 6 (fun c=>.int .i64 (prodI T v u n i c:Int))),none] [] at J;refine Af (fun (kk:Nat) a w'=>kk<=n/\(True)/\Fr 72 a [(3,ptr b1 (0)),(4,ptr b2 (0)),(5,ptr b3 (0)),(6,ptr b4 (0)),(7,ptr b5 (0)),(17,.int .i64 (n:Int)),(18,.int .i64 (i:Int)),(19,.bool (decide (((i:Int):Int)<(n:Int)))),(20,.int .i64 (i:Int)),(8,.int .i64 (i:Int)),(21,ptr b1 (0+1)),(22,.int .i64 (n:Int)),(23,.int .i64 (kk:Int))]/\AX w w' [some (b1,AD (p:Int) (n:Int) T f),some (b2,AF v),some (b3,AF u),some (b4,Al 6 (fun _=>.int .u8 (0))),some (b5,Al 6 (fun c=>.int .i64 ((prodI T v u n i c+sumTo (fun kk=>v i*u kk*T i kk c) kk:Nat):Int))),none] []) (fun kk=>n - kk) 0 ?_ ?_
    . refine ⟨by omega,trivial,O.sub _ (by repeat' constructor),?_⟩
      exact J
    clear O J;rintro j a w' ⟨hj,hJ,O,J⟩;have hvi:=hv i;have huj:=hu j;refine sr<|st O (Aj O rfl rfl) rfl fun a O=>nt<|sq<|AO O rfl (fun h7=>?_) (fun h7=>?_)
    . refine wp_skip ?_
      refine tN<|sq<|wp_block<|sr<|mv O rfl rfl fun a O=>ag O rfl rfl fun a O=>nt<|sq<|BA 8 [] [.val (.int .i64 (i:Int)),.val (ptr b2 (0+(i)*1)),.val (.int .u8 ((v (i):Int))),.val (.int .i64 ((v (i):Int))),.val (.int .i64 (j:Int)),.val (ptr b3 (0+(j)*1)),.val (.int .u8 ((u (j):Int))),.val (.int .i64 ((u (j):Int)))] BT rfl O rfl J ⟨fun a w gG O hS hd=>by exact A8 hS rfl O rfl,fun a w gG O hS hd=>by have O:=O.ext1 26 (hd 0 rfl rfl);exact AA hS rfl (AG Ap O rfl rfl rfl (by omega)),fun a w gG O hS hd=>by have O:=O.ext1 27 (hd 1 rfl rfl);have J:=hS.mem rfl;exact AA hS rfl (AK AZ O rfl (J.row 1 rfl) (BL (i) (by omega) (by omega))),fun a w gG O hS hd=>by have O:=O.ext1 28 (hd 2 rfl rfl);exact AA hS rfl (Aw A1 A6 O rfl (wrap_i64 (by omega) (by omega))),fun a w gG O hS hd=>by exact A8 hS rfl O rfl,fun a w gG O hS hd=>by have O:=O.ext1 30 (hd 4 rfl rfl);exact AA hS rfl (AG Ap O rfl rfl rfl (by omega)),fun a w gG O hS hd=>by have O:=O.ext1 31 (hd 5 rfl rfl);have J:=hS.mem rfl;exact AA hS rfl (AK AZ O rfl (J.row 2 rfl) (BL (j) (by omega) (by omega))),fun a w gG O hS hd=>by have O:=O.ext1 32 (hd 6 rfl rfl);exact AA hS rfl (Aw A1 A6 O rfl (wrap_i64 (by omega) (by omega))),trivial⟩ ?_;intro a w' L O hS hq;have O:=O.ext1 26 (hq 0 rfl rfl);have O:=O.ext1 27 (hq 1 rfl rfl);have O:=O.ext1 28 (hq 2 rfl rfl);have O:=O.ext1 29 (hq 3 rfl rfl);have O:=O.ext1 30 (hq 4 rfl rfl);have O:=O.ext1 31 (hq 5 rfl rfl);have O:=O.ext1 32 (hq 6 rfl rfl);have O:=O.ext1 33 (hq 7 rfl rfl);have J:=hS.mem rfl;change wpList Try.prog _ _ [_,_] _ _;refine st O (B0 O rfl rfl (Bh (v i) (u j) (by have:=Es (hv i) (hu j);omega))) rfl fun a O=>ag O rfl rfl fun a O=>nt<|sq<|sr<|mv O rfl rfl fun a O=>st O (Bb O rfl rfl) rfl fun a O=>nt<|AO O rfl (fun h8=>?_) (fun h8=>?_)
      . refine wp_exit ?_
        refine tX<|AY<|tN<|wp_region_lit<|st O (Ad O rfl rfl (AS (j) (1) (by omega))) rfl fun a O=>mv O rfl rfl fun a O=>nt<|⟨j+1,⟨by omega,trivial,O.sub _ (by repeat' constructor),?_⟩,by omega⟩;refine J.rowc 4 rfl (Az fun c hc=>?_);have e0:v i*u j=0:=by omega
        simp [sumTo,e0]
      refine wp_skip<|tN<|sr<|mv O rfl rfl fun a O=>mv O rfl rfl fun a O=>st O (AB Ay O rfl) rfl fun a O=>st O (AG BH O rfl rfl rfl (by omega)) rfl fun a O=>st O (AG BI O rfl rfl rfl (by omega)) rfl fun a O=>st O (AC Bv O rfl (J.row 0 rfl) (by simp only [AP]<;>omega) (Cs (i) (j) (by omega) (by omega) (by omega) (by omega))) rfl fun a O=>mv O rfl rfl fun a O=>nt<|wp_block ?_;change AX w _ [some (b1,AD (p:Int) (n:Int) T f),some (b2,AF v),some (b3,AF u),some (b4,Al 6 (fun _=>.int .u8 (0))),some (b5,Al 6 (fun c=>.int .i64 ((prodI T v u n i c+sumTo (fun j=>v i*u j*T i j c) j:Nat):Int))),none] [] at J;refine Af (fun (kk:Nat) a w'=>kk<=6/\(True)/\Fr 72 a [(33,.int .i64 ((u (j):Int))),(32,.int .u8 ((u (j):Int))),(31,ptr b3 (0+(j)*1)),(30,.int .i64 (j:Int)),(29,.int .i64 ((v (i):Int))),(28,.int .u8 ((v (i):Int))),(27,ptr b2 (0+(i)*1)),(26,.int .i64 (i:Int)),(3,ptr b1 (0)),(4,ptr b2 (0)),(5,ptr b3 (0)),(6,ptr b4 (0)),(7,ptr b5 (0)),(17,.int .i64 (n:Int)),(18,.int .i64 (i:Int)),(19,.bool (decide (((i:Int):Int)<(n:Int)))),(20,.int .i64 (i:Int)),(8,.int .i64 (i:Int)),(21,ptr b1 (0+1)),(22,.int .i64 (n:Int)),(23,.int .i64 (j:Int)),(24,.bool (decide (((j:Int):Int)<(n:Int)))),(25,.int .i64 (j:Int)),(9,.int .i64 (j:Int)),(34,.int .i64 ((((v (i))*(u (j)):Nat):Int))),(10,.int .i64 ((((v (i))*(u (j)):Nat):Int))),(35,.int .i64 ((((v (i))*(u (j)):Nat):Int))),(36,.bool (decide (((((v (i))*(u (j)):Nat):Int):Int)=0))),(37,.int .i64 (i:Int)),(38,.int .i64 (j:Int)),(39,ptr b1 (0+2)),(40,ptr b1 (0+2+(i)*36)),(41,ptr b1 (0+2+(i)*36+(j)*6)),(42,.agg (AF (T (i) (j)))),(43,.int .i64 (kk:Int))]/\AX w w' [some (b1,AD (p:Int) (n:Int) T f),some (b2,AF v),some (b3,AF u),some (b4,Al 6 (fun _=>.int .u8 (0))),some (b5,Al 6 (fun c=>.int .i64 (((prodI T v u n i c+sumTo (fun j=>v i*u j*T i j c) j)+(if c<kk then v i*u j*T i j c else 0):Nat):Int))),none] []) (fun kk=>6 - kk) 0 ?_ ?_
      . refine ⟨by omega,trivial,O.sub _ (by repeat' constructor),?_⟩
        exact J.cast (by simp)
      clear O J;rintro k a w' ⟨hk,hZ,O,J⟩;have hb1:=Iw (T:=T) hv hu hT hn hi hj k;have hb2:=HE (hv i) (hu j) (hT i j k);have htk:=hT i j k;refine sr<|st O (Aj O rfl rfl) rfl fun a O=>nt<|sq<|AO O rfl (fun h9=>?_) (fun h9=>?_)
      . refine wp_skip ?_
        refine tN<|sq<|wp_block<|sr<|mv O rfl rfl fun a O=>st O (GF MM AZ O rfl rfl rfl (by omega) (BL (k) (by omega) (by omega))) rfl fun a O=>ag O rfl rfl fun a O=>ag O rfl rfl fun a O=>nt<|wp_region_lit<|mv O rfl rfl fun a O=>st O (AG IH O rfl rfl rfl (by omega)) rfl fun a O=>st O (AK AR O rfl (J.row 4 rfl) (CS (k) (by omega) (by omega) (by simp))) rfl fun a O=>mv O rfl rfl fun a O=>mv O rfl rfl fun a O=>st O (Aw A1 A6 O rfl (wrap_i64 (by omega) (by omega))) rfl fun a O=>st O (B0 O rfl rfl (Bh (v i*u j) (T i j k) (by omega))) rfl fun a O=>st O (Ad O rfl rfl (AS (prodI T v u n i k+sumTo (fun j=>v i*u j*T i j k) j) (((v (i))*(u (j)))*((T (i) (j)) (k))) (by omega))) rfl fun a O=>st O (AG IH O rfl rfl rfl (by omega)) rfl fun a O=>BF O (Ak 4 J rfl AR O rfl rfl rfl (by first | omega | (simp only [AP]<;>omega) | (simp only [Array.size_setIfInBounds];omega) | simp)) ?_;intro _ w' a J O;rw [show (Al 6 (fun c=>.int .i64 (((prodI T v u n i c+sumTo (fun j=>v i*u j*T i j c) j)+(if c<k then v i*u j*T i j c else 0):Nat):Int))).setIfInBounds (0+(k)*1) (.int .i64 (((prodI T v u n i k+sumTo (fun j=>v i*u j*T i j k) j+((v (i))*(u (j)))*((T (i) (j)) (k)):Nat):Int)))=Al 6 (fun c=>.int .i64 (((if c=k then prodI T v u n i k+sumTo (fun j=>v i*u j*T i j k) j+((v (i))*(u (j)))*((T (i) (j)) (k)) else (prodI T v u n i c+sumTo (fun j=>v i*u j*T i j c) j)+(if c<k then v i*u j*T i j c else 0)):Nat):Int)) from Bc (fun c _=>by rw [show 0+(k)*1=k by omega];by_cases hh:c=k<;>simp [hh])] at J;change AX _ _ [_,_,_,_,_,_] [] at J;refine wpList_nil<|iN<|tN<|wp_region_lit<|st O (Ad O rfl rfl (AS (k) (1) (by omega))) rfl fun a O=>mv O rfl rfl fun a O=>nt<|⟨k+1,⟨by omega,trivial,O.sub _ (by repeat' constructor),?_⟩,by omega⟩;refine J.rowc 4 rfl (Az fun c hc=>?_);have e0:(c<k+1)=(c<k\/c=k):=by apply propext;omega
        by_cases e1:c=k
        . subst e1;simp
        . simp [e0,e1]
      obtain rfl:6=k:=by omega
      refine wp_exit<|tX<|tX<|AY<|iN<|tN<|wp_region_lit<|st O (Ad O rfl rfl (AS (j) (1) (by omega))) rfl fun a O=>mv O rfl rfl fun a O=>nt<|⟨j+1,⟨by omega,trivial,O.sub _ (by repeat' constructor),?_⟩,by omega⟩;refine J.rowc 4 rfl (Az fun c hc=>?_)
      simp [sumTo,hc,Nat.add_assoc]
    obtain rfl:n=j:=by omega
    refine wp_exit<|tX<|tX<|AY<|iN<|tN<|wp_region_lit<|st O (Ad O rfl rfl (AS (i) (1) (by omega))) rfl fun a O=>mv O rfl rfl fun a O=>nt<|⟨i+1,⟨by omega,trivial,O.sub _ (by repeat' constructor),?_⟩,by omega⟩;exact J
  obtain rfl:n=i:=by omega
  refine wp_exit<|tX<|tX<|AY<|tN<|sr<|Ae O (Aa 5 J Am) rfl ?_;rintro _ w' a ⟨b10,rfl,J,-⟩ O;change AX _ _ [_,_,_,_,_,some (b10,Al 6 (fun _=>.int .u8 (0)))] [] at J;refine nt<|sq<|sr<|st O (AC Ld O rfl (J.row 4 rfl) (by simp only [AP]<;>omega) (whole (by simp only [AP]))) rfl fun a O=>mv O rfl rfl fun a O=>nt<|wp_block ?_;change AX _ _ [_,_,_,_,_,_] [] at J;refine Af (fun (kk:Nat) a w'=>kk<=6/\(True)/\Fr 72 a [(3,ptr b1 (0)),(4,ptr b2 (0)),(5,ptr b3 (0)),(6,ptr b4 (0)),(7,ptr b5 (0)),(17,.int .i64 (n:Int)),(18,.int .i64 (n:Int)),(19,.bool (decide (((n:Int):Int)<(n:Int)))),(13,ptr b10 (0)),(59,.agg (Al 6 (fun c=>.int .i64 (prodI T v u n n c:Int)))),(60,.int .i64 (kk:Int))]/\AX w w' [some (b1,AD (p:Int) (n:Int) T f),some (b2,AF v),some (b3,AF u),some (b4,Al 6 (fun _=>.int .u8 (0))),some (b5,Al 6 (fun c=>.int .i64 (prodI T v u n n c:Int))),some (b10,Al 6 (fun d=>.int .u8 ((if d<kk then timesV p n T v u d else 0:Nat):Int)))] []) (fun kk=>6 - kk) 0 ?_ ?_
  . refine ⟨by omega,trivial,O.sub _ (by repeat' constructor),?_⟩
    exact J.cast (by simp)
  clear O J;rintro q a w' ⟨hq,hinv4,O,J⟩;have hb1:prodI T v u n n q<=700000000:=by have:=Iw (T:=T) hv hu hT hn (Nat.le_refl n) (Nat.zero_le n) q;omega
  refine sr<|st O (Aj O rfl rfl) rfl fun a O=>nt<|sq<|AO O rfl (fun h11=>?_) (fun h11=>?_)
  . refine wp_skip ?_
    refine tN<|sq<|wp_block<|sr<|mv O rfl rfl fun a O=>st O (GF La AR O rfl rfl rfl (by omega) (CS (q) (by omega) (by omega) rfl)) rfl fun a O=>ag O rfl rfl fun a O=>ag O rfl rfl fun a O=>nt<|wp_region_lit<|mv O rfl rfl fun a O=>mv O rfl rfl fun a O=>st O (AB As O rfl) rfl fun a O=>st O (AK AR O rfl (J.row 0 rfl) (BP (by omega))) rfl fun a O=>Ae O (AN Try.call115 O (.cons rfl (.cons rfl .nil)) (G1 (prodI T v u n n (q)) (p) _ (by omega) (by omega) (by omega))) rfl ?_;rintro _ w' a ⟨hx,rfl⟩ O;have J:=J.ext hx;refine st O (AG Ap O rfl rfl rfl (by omega)) rfl fun a O=>BF O (Ak 5 J rfl AZ O rfl rfl rfl (by first | omega | (simp only [AP]<;>omega) | (simp only [Array.size_setIfInBounds];omega) | simp)) ?_;intro _ w' a J O;rw [show (Al 6 (fun d=>.int .u8 ((if d<q then timesV p n T v u d else 0:Nat):Int))).setIfInBounds (0+(q)*1) (.int .u8 ((((prodI T v u n n (q))%(p):Nat):Int)))=Al 6 (fun d=>.int .u8 (((if d=q then (prodI T v u n n (q))%(p) else if d<q then timesV p n T v u d else 0):Nat):Int)) from Bc (fun d _=>by rw [show 0+(q)*1=q by omega];by_cases hh:d=q<;>simp [hh])] at J;change AX _ _ [_,_,_,_,_,_] [] at J;refine wpList_nil<|iN<|tN<|wp_region_lit<|st O (Ad O rfl rfl (AS (q) (1) (by omega))) rfl fun a O=>mv O rfl rfl fun a O=>nt<|⟨q+1,⟨by omega,trivial,O.sub _ (by repeat' constructor),?_⟩,by omega⟩;refine J.rowc 5 rfl (Az fun c hc=>?_);have e0:(c<q+1)=(c<q\/c=q):=by apply propext;omega
    by_cases e1:c=q
    . subst e1;simp [timesV]
    . simp [e0,e1]
  obtain rfl:6=q:=by omega
  refine wp_exit<|tX<|tX<|AY<|tN<|sr<|st O (AC AU O rfl (J.row 5 rfl) (by simp only [AP]<;>omega) (whole (by simp only [AP]))) rfl fun a O=>BF O (AL 3 J rfl Ai O rfl rfl (by first | exact Ac | exact cells_one | (refine BO fun _ _=>?_;first | rfl | (split<;>rfl))) (by simp only [AP]) (by simp only [AP]<;>omega) (AI _ _ (by simp only [AP]))) ?_;intro _ w' a J O;change AX _ _ [_,_,_,some (b4,Al 6 (fun d=>.int .u8 ((if d<6 then timesV p n T v u d else 0:Nat):Int))),_,_] [] at J;refine nt<|wp_ret<|Ax rfl O.defers (A7 AU O rfl (J.row 3 rfl) (by simp only [AP])) ⟨_,rfl,J.below,?_⟩
  show _=_
  exact congrArg Value.agg (Az fun c hc=>by simp [hc])
def BE (x:Int):Prop:=x=2\/x=3\/x=5\/x=7\/x=11\/x=13
instance (x:Int):Decidable (BE x):=by unfold BE;infer_instance
def HA (p n:Int) (x i:Nat):Prop:=¬ ((x:Int)≥p\/((i:Int)≥n/\x≠0))
instance (p n:Int) (x i:Nat):Decidable (HA p n x i):=by unfold HA;infer_instance
def okV (p n:Int) (v:Nat->Nat):Prop:=∀ i,i<6->HA p n (v i) i
instance (p n:Int) (v:Nat->Nat):Decidable (okV p n v):=Nat.decidableBallLT 6 _
theorem HG {p n:Int}{v:Nat->Nat}(i:Nat)(hi:i<6)(h:¬ HA p n (v i) i):¬ okV p n v:=fun hq=>h (hq i hi)
theorem PD {p n:Int}{v:Nat->Nat}{k:Nat}(h:∀ i,i<k->HA p n (v i) i)(hk:HA p n (v k) k):∀ i,i<k+1->HA p n (v i) i:=fun i hi=>by
  by_cases e:i=k
  . subst e;exact hk
  . exact h i (by omega)
theorem Gt {p:Prop}[Decidable p](h:p):Value.bool true=Value.bool (decide p):=by simp [h]
theorem CT {p:Prop}[Decidable p](h:¬ p):Value.bool false=Value.bool (decide p):=by simp [h]
theorem Hh (x:Int)(w:World) :
    CallsR Try.prog 90 #[.int .i64 (x)] w (fun res _=>res = .bool (decide (BE x))):=by
  refine AV [.int .i64 (x)] Try.func90 rfl Try.ntmps90 rfl fun a O=>?_;have J:AX w w [] []:=MemX.start w 0;change Fr 11 a [(0,.int .i64 (x))] at O;refine sr<|ag O rfl rfl fun a O=>nt<|sq<|sr<|mv O rfl rfl fun a O=>nt<|wp_block<|sq<|sr<|st O (Bb O rfl rfl) rfl fun a O=>ag O rfl rfl fun a O=>nt<|AO O rfl (fun h1=>?_) (fun h1=>?_)
  . refine wp_skip ?_
    refine tN<|EU O rfl h1<|sr<|ag O rfl rfl fun a O=>nt<|wp_ret<|iR<|tR<|Ax rfl O.defers (AM O rfl) ⟨_,rfl,J.below,?_⟩
    show _=_
    first | exact congrArg Value.bool (decide_eq_true (by unfold BE;omega)).symm | exact congrArg Value.bool (decide_eq_false (by unfold BE;omega)).symm | exact congrArg Value.bool (decide_eq_decide.2 (by unfold BE;omega))
  refine sr<|st O (Bb O rfl rfl) rfl fun a O=>ag O rfl rfl fun a O=>nt<|AO O rfl (fun h3=>?_) (fun h3=>?_)
  . refine wp_skip ?_
    refine tN<|EU O rfl h3<|sr<|ag O rfl rfl fun a O=>nt<|wp_ret<|iR<|tR<|Ax rfl O.defers (AM O rfl) ⟨_,rfl,J.below,?_⟩
    show _=_
    first | exact congrArg Value.bool (decide_eq_true (by unfold BE;omega)).symm | exact congrArg Value.bool (decide_eq_false (by unfold BE;omega)).symm | exact congrArg Value.bool (decide_eq_decide.2 (by unfold BE;omega))
  refine sr<|st O (Bb O rfl rfl) rfl fun a O=>ag O rfl rfl fun a O=>nt<|AO O rfl (fun h5=>?_) (fun h5=>?_)
  . refine wp_skip ?_
    refine tN<|EU O rfl h5<|sr<|ag O rfl rfl fun a O=>nt<|wp_ret<|iR<|tR<|Ax rfl O.defers (AM O rfl) ⟨_,rfl,J.below,?_⟩
    show _=_
    first | exact congrArg Value.bool (decide_eq_true (by unfold BE;omega)).symm | exact congrArg Value.bool (decide_eq_false (by unfold BE;omega)).symm | exact congrArg Value.bool (decide_eq_decide.2 (by unfold BE;omega))
  refine sr<|st O (Bb O rfl rfl) rfl fun a O=>ag O rfl rfl fun a O=>nt<|AO O rfl (fun h7=>?_) (fun h7=>?_)
  . refine wp_skip ?_
    refine tN<|EU O rfl h7<|sr<|ag O rfl rfl fun a O=>nt<|wp_ret<|iR<|tR<|Ax rfl O.defers (AM O rfl) ⟨_,rfl,J.below,?_⟩
    show _=_
    first | exact congrArg Value.bool (decide_eq_true (by unfold BE;omega)).symm | exact congrArg Value.bool (decide_eq_false (by unfold BE;omega)).symm | exact congrArg Value.bool (decide_eq_decide.2 (by unfold BE;omega))
  refine sr<|st O (Bb O rfl rfl) rfl fun a O=>ag O rfl rfl fun a O=>nt<|AO O rfl (fun h9=>?_) (fun h9=>?_)
  . refine wp_skip ?_
    refine tN<|EU O rfl h9<|sr<|ag O rfl rfl fun a O=>nt<|wp_ret<|iR<|tR<|Ax rfl O.defers (AM O rfl) ⟨_,rfl,J.below,?_⟩
    show _=_
    first | exact congrArg Value.bool (decide_eq_true (by unfold BE;omega)).symm | exact congrArg Value.bool (decide_eq_false (by unfold BE;omega)).symm | exact congrArg Value.bool (decide_eq_decide.2 (by unfold BE;omega))
  refine wp_region_lit<|st O (Bb O rfl rfl) rfl fun a O=>ag O rfl rfl fun a O=>nt<|AO O rfl (fun h11=>?_) (fun h11=>?_)
  . refine sq ?_
    refine wp_region_lit<|ag O rfl rfl fun a O=>nt<|wp_ret<|iR<|tR<|Ax rfl O.defers (AM O rfl) ⟨_,rfl,J.below,?_⟩
    show _=_
    first | exact congrArg Value.bool (decide_eq_true (by unfold BE;omega)).symm | exact congrArg Value.bool (decide_eq_false (by unfold BE;omega)).symm | exact congrArg Value.bool (decide_eq_decide.2 (by unfold BE;omega))
  refine wp_skip<|iN<|tN<|sr<|ag O rfl rfl fun a O=>nt<|wp_ret<|Ax rfl O.defers (AM O rfl) ⟨_,rfl,J.below,?_⟩
  show _=_
  first | exact congrArg Value.bool (decide_eq_true (by unfold BE;omega)).symm | exact congrArg Value.bool (decide_eq_false (by unfold BE;omega)).symm | exact congrArg Value.bool (decide_eq_decide.2 (by unfold BE;omega))
theorem Jw (x:Int)(w:World) :
    CallsR Try.prog 166 #[.int .i64 (x)] w (fun res _=>res = .bool (decide (BE x))):=by
  refine AV [.int .i64 (x)] Try.func166 rfl Try.ntmps166 rfl fun a O=>?_;have J:AX w w [] []:=MemX.start w 0;change Fr 25 a [(0,.int .i64 (x))] at O;refine sr<|ag O rfl rfl fun a O=>ns<|mv O rfl rfl fun a O=>st O (Bb O rfl rfl) rfl fun a O=>mv O rfl rfl fun a O=>?_
  by_cases g1:(x:Int)=2
  . first | rw [decide_eq_true g1] at O | simp only [decide_eq_true g1] at O
    refine Bg O rfl rfl rfl rfl rfl fun a O=>Bg O rfl rfl rfl rfl rfl fun a O=>st O (A5 O rfl rfl) rfl fun a O=>mv O rfl rfl fun a O=>Bg O rfl rfl rfl rfl rfl fun a O=>Bg O rfl rfl rfl rfl rfl fun a O=>st O (A5 O rfl rfl) rfl fun a O=>mv O rfl rfl fun a O=>Bg O rfl rfl rfl rfl rfl fun a O=>Bg O rfl rfl rfl rfl rfl fun a O=>st O (A5 O rfl rfl) rfl fun a O=>mv O rfl rfl fun a O=>Bg O rfl rfl rfl rfl rfl fun a O=>Bg O rfl rfl rfl rfl rfl fun a O=>st O (A5 O rfl rfl) rfl fun a O=>mv O rfl rfl fun a O=>Bg O rfl rfl rfl rfl rfl fun a O=>Bg O rfl rfl rfl rfl rfl fun a O=>st O (A5 O rfl rfl) rfl fun a O=>ag O rfl rfl fun a O=>nt<|wp_ret<|Ax rfl O.defers (AM O rfl) ⟨_,rfl,J.below,?_⟩
    show _=_
    first | exact congrArg Value.bool (decide_eq_true (by unfold BE;omega)).symm | exact congrArg Value.bool (decide_eq_false (by unfold BE;omega)).symm | exact congrArg Value.bool (decide_eq_decide.2 (by unfold BE;omega))
  first | rw [decide_eq_false g1] at O | simp only [decide_eq_false g1] at O
  refine Ba O rfl rfl rfl (Ah O rfl) rfl fun a O=>Ba O rfl rfl rfl (Bb O rfl rfl) rfl fun a O=>st O (A2 O rfl rfl) rfl fun a O=>mv O rfl rfl fun a O=>?_
  by_cases g2:(x:Int)=3
  . first | rw [decide_eq_true g2] at O | simp only [decide_eq_true g2] at O
    refine Bg O rfl rfl rfl rfl rfl fun a O=>Bg O rfl rfl rfl rfl rfl fun a O=>st O (A5 O rfl rfl) rfl fun a O=>mv O rfl rfl fun a O=>Bg O rfl rfl rfl rfl rfl fun a O=>Bg O rfl rfl rfl rfl rfl fun a O=>st O (A5 O rfl rfl) rfl fun a O=>mv O rfl rfl fun a O=>Bg O rfl rfl rfl rfl rfl fun a O=>Bg O rfl rfl rfl rfl rfl fun a O=>st O (A5 O rfl rfl) rfl fun a O=>mv O rfl rfl fun a O=>Bg O rfl rfl rfl rfl rfl fun a O=>Bg O rfl rfl rfl rfl rfl fun a O=>st O (A5 O rfl rfl) rfl fun a O=>ag O rfl rfl fun a O=>nt<|wp_ret<|Ax rfl O.defers (AM O rfl) ⟨_,rfl,J.below,?_⟩
    show _=_
    first | exact congrArg Value.bool (decide_eq_true (by unfold BE;omega)).symm | exact congrArg Value.bool (decide_eq_false (by unfold BE;omega)).symm | exact congrArg Value.bool (decide_eq_decide.2 (by unfold BE;omega))
  first | rw [decide_eq_false g2] at O | simp only [decide_eq_false g2] at O
  refine Ba O rfl rfl rfl (Ah O rfl) rfl fun a O=>Ba O rfl rfl rfl (Bb O rfl rfl) rfl fun a O=>st O (A2 O rfl rfl) rfl fun a O=>mv O rfl rfl fun a O=>?_
  by_cases g3:(x:Int)=5
  . first | rw [decide_eq_true g3] at O | simp only [decide_eq_true g3] at O
    refine Bg O rfl rfl rfl rfl rfl fun a O=>Bg O rfl rfl rfl rfl rfl fun a O=>st O (A5 O rfl rfl) rfl fun a O=>mv O rfl rfl fun a O=>Bg O rfl rfl rfl rfl rfl fun a O=>Bg O rfl rfl rfl rfl rfl fun a O=>st O (A5 O rfl rfl) rfl fun a O=>mv O rfl rfl fun a O=>Bg O rfl rfl rfl rfl rfl fun a O=>Bg O rfl rfl rfl rfl rfl fun a O=>st O (A5 O rfl rfl) rfl fun a O=>ag O rfl rfl fun a O=>nt<|wp_ret<|Ax rfl O.defers (AM O rfl) ⟨_,rfl,J.below,?_⟩
    show _=_
    first | exact congrArg Value.bool (decide_eq_true (by unfold BE;omega)).symm | exact congrArg Value.bool (decide_eq_false (by unfold BE;omega)).symm | exact congrArg Value.bool (decide_eq_decide.2 (by unfold BE;omega))
  first | rw [decide_eq_false g3] at O | simp only [decide_eq_false g3] at O
  refine Ba O rfl rfl rfl (Ah O rfl) rfl fun a O=>Ba O rfl rfl rfl (Bb O rfl rfl) rfl fun a O=>st O (A2 O rfl rfl) rfl fun a O=>mv O rfl rfl fun a O=>?_
  by_cases g4:(x:Int)=7
  . first | rw [decide_eq_true g4] at O | simp only [decide_eq_true g4] at O
    refine Bg O rfl rfl rfl rfl rfl fun a O=>Bg O rfl rfl rfl rfl rfl fun a O=>st O (A5 O rfl rfl) rfl fun a O=>mv O rfl rfl fun a O=>Bg O rfl rfl rfl rfl rfl fun a O=>Bg O rfl rfl rfl rfl rfl fun a O=>st O (A5 O rfl rfl) rfl fun a O=>ag O rfl rfl fun a O=>nt<|wp_ret<|Ax rfl O.defers (AM O rfl) ⟨_,rfl,J.below,?_⟩
    show _=_
    first | exact congrArg Value.bool (decide_eq_true (by unfold BE;omega)).symm | exact congrArg Value.bool (decide_eq_false (by unfold BE;omega)).symm | exact congrArg Value.bool (decide_eq_decide.2 (by unfold BE;omega))
  first | rw [decide_eq_false g4] at O | simp only [decide_eq_false g4] at O
  refine Ba O rfl rfl rfl (Ah O rfl) rfl fun a O=>Ba O rfl rfl rfl (Bb O rfl rfl) rfl fun a O=>st O (A2 O rfl rfl) rfl fun a O=>mv O rfl rfl fun a O=>?_
  by_cases g5:(x:Int)=11
  . first | rw [decide_eq_true g5] at O | simp only [decide_eq_true g5] at O
    refine Bg O rfl rfl rfl rfl rfl fun a O=>Bg O rfl rfl rfl rfl rfl fun a O=>st O (A5 O rfl rfl) rfl fun a O=>ag O rfl rfl fun a O=>nt<|wp_ret<|Ax rfl O.defers (AM O rfl) ⟨_,rfl,J.below,?_⟩
    show _=_
    first | exact congrArg Value.bool (decide_eq_true (by unfold BE;omega)).symm | exact congrArg Value.bool (decide_eq_false (by unfold BE;omega)).symm | exact congrArg Value.bool (decide_eq_decide.2 (by unfold BE;omega))
  first | rw [decide_eq_false g5] at O | simp only [decide_eq_false g5] at O
  refine Ba O rfl rfl rfl (Ah O rfl) rfl fun a O=>Ba O rfl rfl rfl (Bb O rfl rfl) rfl fun a O=>st O (A2 O rfl rfl) rfl fun a O=>ag O rfl rfl fun a O=>nt<|wp_ret<|Ax rfl O.defers (AM O rfl) ⟨_,rfl,J.below,?_⟩
  show _=_
  first | exact congrArg Value.bool (decide_eq_true (by unfold BE;omega)).symm | exact congrArg Value.bool (decide_eq_false (by unfold BE;omega)).symm | exact congrArg Value.bool (decide_eq_decide.2 (by unfold BE;omega))
theorem Md (x lo hi:Int)(w:World) :
    CallsR Try.prog 101 #[.int .i64 (x),.int .i64 (lo),.int .i64 (hi)] w (fun res _=>res = .bool (decide (lo<=x/\x<=hi))):=by
  refine AV [.int .i64 (x),.int .i64 (lo),.int .i64 (hi)] Try.func101 rfl Try.ntmps101 rfl fun a O=>?_;have J:AX w w [] []:=MemX.start w 0;change Fr 15 a [(0,.int .i64 (x)),(1,.int .i64 (lo)),(2,.int .i64 (hi))] at O;refine sr<|ag O rfl rfl fun a O=>ns<|mv O rfl rfl fun a O=>mv O rfl rfl fun a O=>st O (Hk O rfl rfl) rfl fun a O=>mv O rfl rfl fun a O=>?_
  by_cases g1:lo<=(x:Int)
  . first | rw [decide_eq_true g1] at O | simp only [decide_eq_true g1] at O
    refine Ba O rfl rfl rfl (Ah O rfl) rfl fun a O=>Ba O rfl rfl rfl (Ah O rfl) rfl fun a O=>Ba O rfl rfl rfl (LN O rfl rfl) rfl fun a O=>st O (A5 O rfl rfl) rfl fun a O=>ag O rfl rfl fun a O=>nt<|wp_ret<|Ax rfl O.defers (AM O rfl) ⟨_,rfl,J.below,?_⟩
    show _=_
    first | exact congrArg Value.bool (decide_eq_true (by omega)).symm | exact congrArg Value.bool (decide_eq_false (by omega)).symm | exact congrArg Value.bool (decide_eq_decide.2 (by omega))
  first | rw [decide_eq_false g1] at O | simp only [decide_eq_false g1] at O
  refine Bg O rfl rfl rfl rfl rfl fun a O=>Bg O rfl rfl rfl rfl rfl fun a O=>Bg O rfl rfl rfl rfl rfl fun a O=>st O (A2 O rfl rfl) rfl fun a O=>ag O rfl rfl fun a O=>nt<|wp_ret<|Ax rfl O.defers (AM O rfl) ⟨_,rfl,J.below,?_⟩
  show _=_
  first | exact congrArg Value.bool (decide_eq_true (by omega)).symm | exact congrArg Value.bool (decide_eq_false (by omega)).symm | exact congrArg Value.bool (decide_eq_decide.2 (by omega))
theorem C6 (p n:Int)(T:Nat->Nat->Nat->Nat)(f v:Nat->Nat)(w:World)(hv:∀ i,v i<=255) :
    CallsR Try.prog 91 #[.agg (AD p n T f),.agg (AF v)] w (fun res _=>res = .bool (decide (okV p n v))):=by
  refine AV [.agg (AD p n T f),.agg (AF v)] Try.func91 rfl Try.ntmps91 rfl fun a O=>?_;have J:AX w w [none,none] []:=MemX.start w 2;change Fr 28 a [(0,.agg (AD p n T f)),(1,.agg (AF v))] at O;refine sr<|Ae O (At 0 J O rfl) rfl ?_;rintro _ w' a ⟨b1,rfl,J,-⟩ O;refine Ae O (At 1 J O rfl) rfl ?_;rintro _ w' a ⟨b2,rfl,J,-⟩ O;change AX _ _ [some (b1,AD p n T f),some (b2,AF v)] [] at J;refine ag O rfl rfl fun a O=>nt<|sq<|sr<|st O (AC AU O rfl (J.row 1 rfl) (by simp only [AP]<;>omega) (whole (by simp only [AP]))) rfl fun a O=>mv O rfl rfl fun a O=>nt<|wp_block ?_;change AX _ _ [_,_] [] at J;refine Af (fun (kk:Nat) a w'=>kk<=6/\(∀ i,i<kk->HA p n (v i) i)/\Fr 28 a [(2,ptr b1 (0)),(7,.agg (AF v)),(8,.int .i64 (kk:Int))]/\AX w w' [some (b1,AD p n T f),some (b2,AF v)] []) (fun kk=>6 - kk) 0 ?_ ?_
  . refine ⟨by omega,fun i hi=>absurd hi (by omega),O.sub _ (by repeat' constructor),?_⟩
    exact J
  clear O J;rintro gk a w' ⟨hgk,hH,O,J⟩;have hvb:=hv gk;refine sr<|st O (Aj O rfl rfl) rfl fun a O=>nt<|sq<|AO O rfl (fun h3=>?_) (fun h3=>?_)
  . refine wp_skip ?_
    refine tN<|sq<|wp_block<|sr<|mv O rfl rfl fun a O=>st O (GF Cq AZ O rfl rfl rfl (by omega) (BL (gk) (by omega) (by omega))) rfl fun a O=>ag O rfl rfl fun a O=>ag O rfl rfl fun a O=>ns<|mv O rfl rfl fun a O=>st O (Aw A1 A6 O rfl (wrap_i64 (by omega) (by omega))) rfl fun a O=>st O (AB As O rfl) rfl fun a O=>st O (AK AR O rfl (J.row 0 rfl) (BP (by omega))) rfl fun a O=>st O (Hk O rfl rfl) rfl fun a O=>mv O rfl rfl fun a O=>?_
    by_cases g4:p<=((v (gk):Int):Int)
    . first | rw [decide_eq_true g4] at O | simp only [decide_eq_true g4] at O
      refine Bg O rfl rfl rfl rfl rfl fun a O=>Bg O rfl rfl rfl rfl rfl fun a O=>Bg O rfl rfl rfl rfl rfl fun a O=>Bg O rfl rfl rfl rfl rfl fun a O=>Bg O rfl rfl rfl rfl rfl fun a O=>Ob O rfl rfl rfl rfl fun a O=>Ob O rfl rfl rfl rfl fun a O=>Bg O rfl rfl rfl rfl rfl fun a O=>st O (A5 O rfl rfl) rfl fun a O=>nt<|Hs O rfl<|sr<|ag O rfl rfl fun a O=>nt<|wp_ret<|iR<|tR<|tR<|iR<|tR<|Ax rfl O.defers (AM O rfl) ⟨_,rfl,J.below,?_⟩
      show _=_
      exact CT (HG gk (by omega) (by unfold HA;omega))
    first | rw [decide_eq_false g4] at O | simp only [decide_eq_false g4] at O
    refine Ba O rfl rfl rfl (Ah O rfl) rfl fun a O=>Ba O rfl rfl rfl (AB AT O rfl) rfl fun a O=>Ba O rfl rfl rfl (AK AR O rfl (J.row 0 rfl) (Ao (by omega))) rfl fun a O=>Ba O rfl rfl rfl (Hk O rfl rfl) rfl fun a O=>Ba O rfl rfl rfl (Ah O rfl) rfl fun a O=>?_
    by_cases g6:n<=((gk:Int):Int)
    . first | rw [decide_eq_true g6] at O | simp only [decide_eq_true g6] at O
      refine Ba O rfl rfl rfl (Ah O rfl) rfl fun a O=>Ba O rfl rfl rfl (BY O rfl rfl) rfl fun a O=>Ba O rfl rfl rfl (A5 O rfl rfl) rfl fun a O=>st O (A2 O rfl rfl) rfl fun a O=>nt<|AO O rfl (fun h7=>?_) (fun h7=>?_)
      . refine sq ?_
        refine wp_region_lit<|ag O rfl rfl fun a O=>nt<|wp_ret<|iR<|tR<|tR<|iR<|tR<|Ax rfl O.defers (AM O rfl) ⟨_,rfl,J.below,?_⟩
        show _=_
        exact CT (HG gk (by omega) (by unfold HA;omega))
      refine wp_skip<|iN<|tN<|wp_region_lit<|st O (Ad O rfl rfl (AS (gk) (1) (by omega))) rfl fun a O=>mv O rfl rfl fun a O=>nt<|⟨gk+1,⟨by omega,PD hH (by unfold HA;omega),O.sub _ (by repeat' constructor),?_⟩,by omega⟩;exact J
    first | rw [decide_eq_false g6] at O | simp only [decide_eq_false g6] at O
    refine Bg O rfl rfl rfl rfl rfl fun a O=>Bg O rfl rfl rfl rfl rfl fun a O=>Ba O rfl rfl rfl (A2 O rfl rfl) rfl fun a O=>st O (A2 O rfl rfl) rfl fun a O=>nt<|DN O rfl<|wp_skip<|iN<|tN<|wp_region_lit<|st O (Ad O rfl rfl (AS (gk) (1) (by omega))) rfl fun a O=>mv O rfl rfl fun a O=>nt<|⟨gk+1,⟨by omega,PD hH (by unfold HA;omega),O.sub _ (by repeat' constructor),?_⟩,by omega⟩;exact J
  obtain rfl:6=gk:=by omega
  refine wp_exit<|tX<|tX<|AY<|tN<|sr<|ag O rfl rfl fun a O=>nt<|wp_ret<|Ax rfl O.defers (AM O rfl) ⟨_,rfl,J.below,?_⟩
  show _=_
  exact Gt hH
theorem Dh (p n:Int)(v:Nat->Nat)(w:World)(hv:∀ i,v i<=255) :
    CallsR Try.prog 165 #[.int .i64 (p),.int .i64 (n),.agg (AF v)] w (fun res _=>res = .bool (decide (okV p n v))):=by
  refine AV [.int .i64 (p),.int .i64 (n),.agg (AF v)] Try.func165 rfl Try.ntmps165 rfl fun a O=>?_;have J:AX w w [none] []:=MemX.start w 1;change Fr 29 a [(0,.int .i64 (p)),(1,.int .i64 (n)),(2,.agg (AF v))] at O;refine sr<|Ae O (At 0 J O rfl) rfl ?_;rintro _ w' a ⟨b1,rfl,J,-⟩ O;refine ag O rfl rfl fun a O=>nt<|sq<|sr<|ag O rfl rfl fun a O=>nt<|wp_block ?_;change AX _ _ [some (b1,AF v)] [] at J;refine Af (fun (kk:Nat) a w'=>kk<=6/\(∀ i,i<kk->HA p n (v i) i)/\Fr 29 a [(0,.int .i64 (p)),(1,.int .i64 (n)),(5,ptr b1 (0)),(7,.int .i64 (kk:Int))]/\AX w w' [some (b1,AF v)] []) (fun kk=>6 - kk) 0 ?_ ?_
  . refine ⟨by omega,fun i hi=>absurd hi (by omega),O.sub _ (by repeat' constructor),?_⟩
    exact J
  clear O J;rintro gk a w' ⟨hgk,hH,O,J⟩;have hvb:=hv gk;refine sq<|sr<|mv O rfl rfl fun a O=>st O (Aj O rfl rfl) rfl fun a O=>nt<|AO O rfl (fun h2=>?_) (fun h2=>?_)
  . refine wp_skip ?_
    refine tN<|sq<|wp_block<|sr<|mv O rfl rfl fun a O=>st O (AG Ap O rfl rfl rfl (by omega)) rfl fun a O=>st O (AK AZ O rfl (J.row 0 rfl) (BL (gk) (by omega) (by omega))) rfl fun a O=>st O (Aw A1 A6 O rfl (wrap_i64 (by omega) (by omega))) rfl fun a O=>mv O rfl rfl fun a O=>st O (Hk O rfl rfl) rfl fun a O=>mv O rfl rfl fun a O=>?_
    by_cases g3:p<=((v (gk):Int):Int)
    . first | rw [decide_eq_true g3] at O | simp only [decide_eq_true g3] at O
      refine Bg O rfl rfl rfl rfl rfl fun a O=>Bg O rfl rfl rfl rfl rfl fun a O=>Bg O rfl rfl rfl rfl rfl fun a O=>Bg O rfl rfl rfl rfl rfl fun a O=>Ob O rfl rfl rfl rfl fun a O=>Ob O rfl rfl rfl rfl fun a O=>Ob O rfl rfl rfl rfl fun a O=>Ob O rfl rfl rfl rfl fun a O=>Bg O rfl rfl rfl rfl rfl fun a O=>st O (A5 O rfl rfl) rfl fun a O=>nt<|Hs O rfl<|sr<|ag O rfl rfl fun a O=>nt<|wp_ret<|iR<|tR<|tR<|iR<|tR<|Ax rfl O.defers (AM O rfl) ⟨_,rfl,J.below,?_⟩
      show _=_
      exact CT (HG gk (by omega) (by unfold HA;omega))
    first | rw [decide_eq_false g3] at O | simp only [decide_eq_false g3] at O
    refine Ba O rfl rfl rfl (Ah O rfl) rfl fun a O=>Ba O rfl rfl rfl (Ah O rfl) rfl fun a O=>Ba O rfl rfl rfl (Hk O rfl rfl) rfl fun a O=>Ba O rfl rfl rfl (Ah O rfl) rfl fun a O=>?_
    by_cases g5:n<=((gk:Int):Int)
    . first | rw [decide_eq_true g5] at O | simp only [decide_eq_true g5] at O
      refine Ba O rfl rfl rfl (Ah O rfl) rfl fun a O=>Ba O rfl rfl rfl (AG Ap O rfl rfl rfl (by omega)) rfl fun a O=>Ba O rfl rfl rfl (AK AZ O rfl (J.row 0 rfl) (BL (gk) (by omega) (by omega))) rfl fun a O=>Ba O rfl rfl rfl (BY O rfl rfl) rfl fun a O=>Ba O rfl rfl rfl (A5 O rfl rfl) rfl fun a O=>st O (A2 O rfl rfl) rfl fun a O=>nt<|AO O rfl (fun h6=>?_) (fun h6=>?_)
      . refine sq ?_
        refine wp_region_lit<|ag O rfl rfl fun a O=>nt<|wp_ret<|iR<|tR<|tR<|iR<|tR<|Ax rfl O.defers (AM O rfl) ⟨_,rfl,J.below,?_⟩
        show _=_
        exact CT (HG gk (by omega) (by unfold HA;omega))
      refine wp_skip<|iN<|tN<|wp_region_lit<|mv O rfl rfl fun a O=>st O (Ad O rfl rfl (AS (gk) (1) (by omega))) rfl fun a O=>ag O rfl rfl fun a O=>nt<|⟨gk+1,⟨by omega,PD hH (by unfold HA;omega),O.sub _ (by repeat' constructor),?_⟩,by omega⟩;exact J
    first | rw [decide_eq_false g5] at O | simp only [decide_eq_false g5] at O
    refine Bg O rfl rfl rfl rfl rfl fun a O=>Bg O rfl rfl rfl rfl rfl fun a O=>Bg O rfl rfl rfl rfl rfl fun a O=>Bg O rfl rfl rfl rfl rfl fun a O=>Ba O rfl rfl rfl (A2 O rfl rfl) rfl fun a O=>st O (A2 O rfl rfl) rfl fun a O=>nt<|DN O rfl<|wp_skip<|iN<|tN<|wp_region_lit<|mv O rfl rfl fun a O=>st O (Ad O rfl rfl (AS (gk) (1) (by omega))) rfl fun a O=>ag O rfl rfl fun a O=>nt<|⟨gk+1,⟨by omega,PD hH (by unfold HA;omega),O.sub _ (by repeat' constructor),?_⟩,by omega⟩;exact J
  obtain rfl:6=gk:=by omega
  refine wp_exit<|tX<|tX<|AY<|tN<|sr<|ag O rfl rfl fun a O=>nt<|wp_ret<|Ax rfl O.defers (AM O rfl) ⟨_,rfl,J.below,?_⟩
  show _=_
  exact Gt hH
theorem Hp {x p:Nat}(hp:0<p)(hO:p<100):IntKind.u8.wrap ((x%p:Nat):Int)=((x%p:Nat):Int):=by
  have:=Nat.mod_lt x hp;exact wrap_u8 (by omega) (by omega)
theorem GP {x y z:Nat}(h:x+y<9223372036854775808)(e:x+y=z):IntKind.i64.wrap ((x:Int)+(y:Int))=(z:Int):=e ▸ AS x y h
theorem N6 {q f:Nat->Nat}{k c x:Nat}(hx:x=q k)(hf:∀ c,f c=if c<k then q c else 0):((if c=k then x else f c:Nat):Int)=((if c<k+1 then q c else 0:Nat):Int):=by
  rw [hf]
  by_cases e:c=k
  . subst e;simp [hx]
  . have e0:(c<k+1)=(c<k):=by apply propext;omega
    simp [e,e0]
def timesS (p n:Nat) (T:Nat->Nat->Nat->Nat) (v u:Nat->Nat) (c:Nat):Nat:=if c<n then timesV p n T v u c else 0
def invN (x p:Nat):Nat:=((List.range p).find? (fun c=>c*x%p == 1)).getD 0
theorem IV {x p k:Nat}(hk:k<p)(h:∀ c,c<k->¬ c*x%p=1)(h1:k*x%p=1):invN x p=k:=by
  unfold invN
  have:(List.range p).find? (fun c=>c*x%p == 1)=some k:=by
    rw [List.find?_eq_some_iff_append];refine ⟨by simpa using h1,List.range k,(List.range (p - k - 1)).map (fun x=>k+1+x),?_,?_⟩
    . have e:List.range p=List.range (k+(p - k)):=by congr 1;omega
      rw [e,List.range_add]
      congr 1
      rw [show p - k=(p - k - 1)+1 by omega,List.range_succ_eq_map]
      simp [Function.comp_def,Nat.add_assoc,Nat.add_comm]
      intro a _;omega
    . intro c hc;simpa using h c (by simpa using hc)
  rw [this];rfl
theorem IW {x p:Nat}(h:∀ c,c<p->¬ c*x%p=1):invN x p=0:=by
  unfold invN
  have:(List.range p).find? (fun c=>c*x%p == 1)=none:=by
    rw [List.find?_eq_none];intro c hc;simpa using h c (by simpa using hc)
  rw [this];rfl
theorem noS {x p k:Nat}(h:∀ c,c<k->¬ c*x%p=1)(h1:¬ ((k*x%p:Nat):Int)=1):∀ c,c<k+1->¬ c*x%p=1:=fun c hc=>by
  by_cases e:c=k
  . subst e;omega
  . exact h c (by omega)
theorem B6 (p n:Nat)(T:Nat->Nat->Nat->Nat)(f v u:Nat->Nat)(w:World)(hp:0<p)(hO:p<100)(hn:n<=6)(hT:∀ i j k,T i j k<=255)(hv:∀ i,v i<=255)(hu:∀ i,u i<=255) :
    CallsR Try.prog 89 #[.agg (AD (p:Int) (n:Int) T f),.agg (AF v),.agg (AF u)] w (fun res _=>res = .agg (AF (timesS p n T v u))):=by
  refine AV [.agg (AD (p:Int) (n:Int) T f),.agg (AF v),.agg (AF u)] Try.func89 rfl Try.ntmps89 rfl fun a O=>?_;have J:AX w w [none,none,none,none,none] []:=MemX.start w 5;change Fr 60 a [(0,.agg (AD (p:Int) (n:Int) T f)),(1,.agg (AF v)),(2,.agg (AF u))] at O;refine sr<|Ae O (At 0 J O rfl) rfl ?_;rintro _ w' a ⟨b1,rfl,J,-⟩ O;refine Ae O (At 1 J O rfl) rfl ?_;rintro _ w' a ⟨b2,rfl,J,-⟩ O;refine Ae O (At 2 J O rfl) rfl ?_;rintro _ w' a ⟨b3,rfl,J,-⟩ O;refine Ae O (Aa 3 J Am) rfl ?_;rintro _ w' a ⟨b4,rfl,J,-⟩ O;refine ns<|st O (B1 By) rfl fun a O=>Ae O (Aa 4 J Am) rfl ?_;rintro _ w' a ⟨b5,rfl,J,-⟩ O;change AX _ _ [some (b1,AD (p:Int) (n:Int) T f),some (b2,AF v),some (b3,AF u),some (b4,Al 6 (fun _=>.int .u8 (0))),some (b5,Al 6 (fun _=>.int .u8 (0)))] [] at J;refine BF O (AL 4 J rfl Ai O rfl rfl (by first | exact Ac | exact cells_one | (refine BO fun _ _=>?_;first | rfl | (split<;>rfl))) (by simp only [AP]) (by simp only [AP]<;>omega) (AI _ _ (by simp only [AP]))) ?_;intro _ w' a J O;refine nt<|sq<|sr<|ag O rfl rfl fun a O=>nt<|wp_block ?_;change AX _ _ [_,_,_,_,some (b5,Al 6 (fun _=>.int .u8 (0)))] [] at J;refine Af (fun (kk:Nat) a w'=>kk<=n/\(True)/\Fr 60 a [(3,ptr b1 (0)),(4,ptr b2 (0)),(5,ptr b3 (0)),(6,ptr b4 (0)),(7,ptr b5 (0)),(8,.int .i64 (kk:Int))]/\AX w w' [some (b1,AD (p:Int) (n:Int) T f),some (b2,AF v),some (b3,AF u),some (b4,Al 6 (fun _=>.int .u8 (0))),some (b5,Al 6 (fun c=>.int .u8 ((if c<kk then timesV p n T v u c else 0:Nat):Int)))] []) (fun kk=>n - kk) 0 ?_ ?_
  . refine ⟨by omega,trivial,O.sub _ (by repeat' constructor),?_⟩
    exact J.cast (by simp)
  clear O J;rintro gk a w' ⟨hgk,hH,O,J⟩;refine sq<|sr<|mv O rfl rfl fun a O=>st O (AB AT O rfl) rfl fun a O=>st O (AK AR O rfl (J.row 0 rfl) (Ao (by omega))) rfl fun a O=>st O (Aj O rfl rfl) rfl fun a O=>nt<|AO O rfl (fun h6=>?_) (fun h6=>?_)
  . refine wp_skip ?_
    refine tN<|sq<|wp_block<|sr<|ag O rfl rfl fun a O=>nt<|sq<|sr<|ag O rfl rfl fun a O=>nt<|wp_block ?_;change AX w _ [some (b1,AD (p:Int) (n:Int) T f),some (b2,AF v),some (b3,AF u),some (b4,Al 6 (fun _=>.int .u8 (0))),some (b5,Al 6 (fun c=>.int .u8 ((if c<gk then timesV p n T v u c else 0:Nat):Int)))] [] at J;refine Af (fun (kk:Nat) a w'=>kk<=n/\(True)/\Fr 60 a [(3,ptr b1 (0)),(4,ptr b2 (0)),(5,ptr b3 (0)),(6,ptr b4 (0)),(7,ptr b5 (0)),(8,.int .i64 (gk:Int)),(13,.int .i64 (gk:Int)),(14,ptr b1 (0+1)),(15,.int .i64 (n:Int)),(16,.bool (decide (((gk:Int):Int)<(n:Int)))),(9,.int .i64 ((prodI T v u n kk gk:Int))),(10,.int .i64 (kk:Int))]/\AX w w' [some (b1,AD (p:Int) (n:Int) T f),some (b2,AF v),some (b3,AF u),some (b4,Al 6 (fun _=>.int .u8 (0))),some (b5,Al 6 (fun c=>.int .u8 ((if c<gk then timesV p n T v u c else 0:Nat):Int)))] []) (fun kk=>n - kk) 0 ?_ ?_
    . refine ⟨by omega,trivial,O.sub _ (by repeat' constructor),?_⟩
      exact J
    clear O J;rintro gi a w' ⟨hgi,hJ,O,J⟩;refine sq<|sr<|mv O rfl rfl fun a O=>st O (AB AT O rfl) rfl fun a O=>st O (AK AR O rfl (J.row 0 rfl) (Ao (by omega))) rfl fun a O=>st O (Aj O rfl rfl) rfl fun a O=>nt<|AO O rfl (fun h7=>?_) (fun h7=>?_)
    . refine wp_skip ?_
      refine tN<|sq<|wp_block<|sr<|ag O rfl rfl fun a O=>nt<|wp_block ?_;change AX w _ [some (b1,AD (p:Int) (n:Int) T f),some (b2,AF v),some (b3,AF u),some (b4,Al 6 (fun _=>.int .u8 (0))),some (b5,Al 6 (fun c=>.int .u8 ((if c<gk then timesV p n T v u c else 0:Nat):Int)))] [] at J;refine Af (fun (kk:Nat) a w'=>kk<=n/\(True)/\Fr 60 a [(3,ptr b1 (0)),(4,ptr b2 (0)),(5,ptr b3 (0)),(6,ptr b4 (0)),(7,ptr b5 (0)),(8,.int .i64 (gk:Int)),(13,.int .i64 (gk:Int)),(14,ptr b1 (0+1)),(15,.int .i64 (n:Int)),(16,.bool (decide (((gk:Int):Int)<(n:Int)))),(10,.int .i64 (gi:Int)),(19,.int .i64 (gi:Int)),(20,ptr b1 (0+1)),(21,.int .i64 (n:Int)),(22,.bool (decide (((gi:Int):Int)<(n:Int)))),(9,.int .i64 (((prodI T v u n gi gk+sumTo (fun j=>v gi*u j*T gi j gk) kk:Nat):Int))),(11,.int .i64 (kk:Int))]/\AX w w' [some (b1,AD (p:Int) (n:Int) T f),some (b2,AF v),some (b3,AF u),some (b4,Al 6 (fun _=>.int .u8 (0))),some (b5,Al 6 (fun c=>.int .u8 ((if c<gk then timesV p n T v u c else 0:Nat):Int)))] []) (fun kk=>n - kk) 0 ?_ ?_
      . refine ⟨by omega,trivial,O.sub _ (by repeat' constructor),?_⟩
        exact J
      clear O J;rintro gj a w' ⟨hgj,hZ,O,J⟩;have hb1:=Iw (T:=T) hv hu hT hn hgi hgj gk;have hb2:=HE (hv gi) (hu gj) (hT gi gj gk);have hvi:=hv gi;have huj:=hu gj;have htk:=hT gi gj gk;have hvv:=Es (hv gi) (hu gj);refine sq<|sr<|mv O rfl rfl fun a O=>st O (AB AT O rfl) rfl fun a O=>st O (AK AR O rfl (J.row 0 rfl) (Ao (by omega))) rfl fun a O=>st O (Aj O rfl rfl) rfl fun a O=>nt<|AO O rfl (fun h8=>?_) (fun h8=>?_)
      . refine wp_skip ?_
        refine tN<|sq<|wp_block<|BA 20 [] [.val (.int .i64 (((prodI T v u n gi gk+sumTo (fun j=>v gi*u j*T gi j gk) gj:Nat):Int))),.val (.int .i64 (gi:Int)),.val (ptr b2 (0+(gi)*1)),.val (.int .u8 ((v (gi):Int))),.val (.int .i64 ((v (gi):Int))),.val (.int .i64 (gj:Int)),.val (ptr b3 (0+(gj)*1)),.val (.int .u8 ((u (gj):Int))),.val (.int .i64 ((u (gj):Int))),.val (.int .i64 ((((v (gi))*(u (gj)):Nat):Int))),.val (.int .i64 (gi:Int)),.val (.int .i64 (gj:Int)),.val (.int .i64 (gk:Int)),.val (ptr b1 (0+2)),.val (ptr b1 (0+2+(gi)*36)),.val (ptr b1 (0+2+(gi)*36+(gj)*6)),.val (ptr b1 (0+2+(gi)*36+(gj)*6+(gk)*1)),.val (.int .u8 ((T (gi) (gj) (gk):Int))),.val (.int .i64 ((T (gi) (gj) (gk):Int))),.val (.int .i64 (((((v (gi))*(u (gj)))*(T (gi) (gj) (gk)):Nat):Int)))] BT rfl O rfl J ⟨fun a w gG O hS hd=>by exact A8 hS rfl O rfl,fun a w gG O hS hd=>by exact A8 hS rfl O rfl,fun a w gG O hS hd=>by have O:=O.ext1 32 (hd 1 rfl rfl);exact AA hS rfl (AG Ap O rfl rfl rfl (by omega)),fun a w gG O hS hd=>by have O:=O.ext1 33 (hd 2 rfl rfl);have J:=hS.mem rfl;exact AA hS rfl (AK AZ O rfl (J.row 1 rfl) (BL (gi) (by omega) (by omega))),fun a w gG O hS hd=>by have O:=O.ext1 34 (hd 3 rfl rfl);exact AA hS rfl (Aw A1 A6 O rfl (wrap_i64 (by omega) (by omega))),fun a w gG O hS hd=>by exact A8 hS rfl O rfl,fun a w gG O hS hd=>by have O:=O.ext1 36 (hd 5 rfl rfl);exact AA hS rfl (AG Ap O rfl rfl rfl (by omega)),fun a w gG O hS hd=>by have O:=O.ext1 37 (hd 6 rfl rfl);have J:=hS.mem rfl;exact AA hS rfl (AK AZ O rfl (J.row 2 rfl) (BL (gj) (by omega) (by omega))),fun a w gG O hS hd=>by have O:=O.ext1 38 (hd 7 rfl rfl);exact AA hS rfl (Aw A1 A6 O rfl (wrap_i64 (by omega) (by omega))),fun a w gG O hS hd=>by have O:=O.ext1 35 (hd 4 rfl rfl);have O:=O.ext1 39 (hd 8 rfl rfl);exact AA hS rfl (B0 O rfl rfl (Bh (v gi) (u gj) (by omega))),fun a w gG O hS hd=>by exact A8 hS rfl O rfl,fun a w gG O hS hd=>by exact A8 hS rfl O rfl,fun a w gG O hS hd=>by exact A8 hS rfl O rfl,fun a w gG O hS hd=>by exact AA hS rfl (AB Ay O rfl),fun a w gG O hS hd=>by have O:=O.ext1 41 (hd 10 rfl rfl);have O:=O.ext1 44 (hd 13 rfl rfl);exact AA hS rfl (AG BH O rfl rfl rfl (by omega)),fun a w gG O hS hd=>by have O:=O.ext1 42 (hd 11 rfl rfl);have O:=O.ext1 45 (hd 14 rfl rfl);exact AA hS rfl (AG BI O rfl rfl rfl (by omega)),fun a w gG O hS hd=>by have O:=O.ext1 43 (hd 12 rfl rfl);have O:=O.ext1 46 (hd 15 rfl rfl);exact AA hS rfl (AG Bz O rfl rfl rfl (by omega)),fun a w gG O hS hd=>by have O:=O.ext1 47 (hd 16 rfl rfl);have J:=hS.mem rfl;exact AA hS rfl (AK AZ O rfl (J.row 0 rfl) (DL (gi) (gj) (gk) (by omega) (by omega) (by omega) (by omega))),fun a w gG O hS hd=>by have O:=O.ext1 48 (hd 17 rfl rfl);exact AA hS rfl (Aw A1 A6 O rfl (wrap_i64 (by omega) (by omega))),fun a w gG O hS hd=>by have O:=O.ext1 40 (hd 9 rfl rfl);have O:=O.ext1 49 (hd 18 rfl rfl);exact AA hS rfl (B0 O rfl rfl (Bh (v gi*u gj) (T gi gj gk) (by omega))),trivial⟩ ?_;intro a w' L O hS hq;have O:=O.ext1 31 (hq 0 rfl rfl);have O:=O.ext1 32 (hq 1 rfl rfl);have O:=O.ext1 33 (hq 2 rfl rfl);have O:=O.ext1 34 (hq 3 rfl rfl);have O:=O.ext1 35 (hq 4 rfl rfl);have O:=O.ext1 36 (hq 5 rfl rfl);have O:=O.ext1 37 (hq 6 rfl rfl);have O:=O.ext1 38 (hq 7 rfl rfl);have O:=O.ext1 39 (hq 8 rfl rfl);have O:=O.ext1 40 (hq 9 rfl rfl);have O:=O.ext1 41 (hq 10 rfl rfl)
        have O:=O.ext1 42 (hq 11 rfl rfl);have O:=O.ext1 43 (hq 12 rfl rfl);have O:=O.ext1 44 (hq 13 rfl rfl);have O:=O.ext1 45 (hq 14 rfl rfl);have O:=O.ext1 46 (hq 15 rfl rfl);have O:=O.ext1 47 (hq 16 rfl rfl);have O:=O.ext1 48 (hq 17 rfl rfl);have O:=O.ext1 49 (hq 18 rfl rfl);have O:=O.ext1 50 (hq 19 rfl rfl);have J:=hS.mem rfl;change wpList Try.prog _ _ [_,_] _ _;refine st O (Ad O rfl rfl (show _=((prodI T v u n gi gk+sumTo (fun j=>v gi*u j*T gi j gk) (gj+1):Nat):Int) from (GP (by omega) (by simp only [sumTo,Nat.add_assoc])))) rfl fun a O=>ag O rfl rfl fun a O=>wpList_nil<|iN<|tN<|wp_region_lit<|mv O rfl rfl fun a O=>st O (Ad O rfl rfl (AS (gj) (1) (by omega))) rfl fun a O=>ag O rfl rfl fun a O=>nt<|⟨gj+1,⟨by omega,trivial,O.sub _ (by repeat' constructor),?_⟩,by omega⟩;exact J
      obtain rfl:n=gj:=by omega
      refine wp_exit<|tX<|tX<|AY<|iN<|tN<|wp_region_lit<|mv O rfl rfl fun a O=>st O (Ad O rfl rfl (AS (gi) (1) (by omega))) rfl fun a O=>ag O rfl rfl fun a O=>nt<|⟨gi+1,⟨by omega,trivial,O.sub _ (by repeat' constructor),?_⟩,by omega⟩;exact J
    obtain rfl:n=gi:=by omega
    refine wp_exit<|tX<|tX<|AY<|tN<|wp_region_lit<|mv O rfl rfl fun a O=>mv O rfl rfl fun a O=>st O (AB As O rfl) rfl fun a O=>st O (AK AR O rfl (J.row 0 rfl) (BP (by omega))) rfl fun a O=>st O (Ca O rfl rfl (by omega) (CV (prodI T v u n n gk) (p))) rfl fun a O=>st O (Aw Br Bs O rfl (Hp hp hO)) rfl fun a O=>st O (AG Ap O rfl rfl rfl (by omega)) rfl fun a O=>BF O (Ak 4 J rfl AZ O rfl rfl rfl (by first | omega | (simp only [AP]<;>omega) | (simp only [Array.size_setIfInBounds];omega) | simp)) ?_;intro _ w' a J O;rw [show (Al 6 (fun c=>.int .u8 ((if c<gk then timesV p n T v u c else 0:Nat):Int))).setIfInBounds (0+(gk)*1) (.int .u8 ((((prodI T v u n n gk)%(p):Nat):Int)))=Al 6 (fun c=>.int .u8 (((if c=gk then (prodI T v u n n gk)%(p) else if c<gk then timesV p n T v u c else 0):Nat):Int)) from Bc (fun c _=>by rw [show 0+(gk)*1=gk by omega];by_cases hh:c=gk<;>simp [hh])] at J;change AX _ _ [_,_,_,_,_] [] at J;refine wpList_nil<|iN<|tN<|wp_region_lit<|mv O rfl rfl fun a O=>st O (Ad O rfl rfl (AS (gk) (1) (by omega))) rfl fun a O=>ag O rfl rfl fun a O=>nt<|⟨gk+1,⟨by omega,trivial,O.sub _ (by repeat' constructor),?_⟩,by omega⟩;exact J.rowc 4 rfl (Az fun c hc=>congrArg (Value.int .u8) (N6 rfl fun _=>rfl))
  obtain rfl:n=gk:=by omega
  refine wp_exit<|tX<|tX<|AY<|tN<|sr<|st O (AC AU O rfl (J.row 4 rfl) (by simp only [AP]<;>omega) (whole (by simp only [AP]))) rfl fun a O=>BF O (AL 3 J rfl Ai O rfl rfl (by first | exact Ac | exact cells_one | (refine BO fun _ _=>?_;first | rfl | (split<;>rfl))) (by simp only [AP]) (by simp only [AP]<;>omega) (AI _ _ (by simp only [AP]))) ?_;intro _ w' a J O;change AX _ _ [_,_,_,some (b4,Al 6 (fun c=>.int .u8 ((if c<n then timesV p n T v u c else 0:Nat):Int))),_] [] at J;refine nt<|wp_ret<|Ax rfl O.defers (A7 AU O rfl (J.row 3 rfl) (by simp only [AP])) ⟨_,rfl,J.below,?_⟩
  show _=_
  exact congrArg Value.agg (Az fun c hc=>rfl)
theorem Bi (i:Nat)(w:World)(hi:i<6) :
    CallsR Try.prog 143 #[.int .i64 (i:Int)] w (fun res _=>res = .agg (AF (fun c=>if c=i then 1 else 0))):=by
  refine AV [.int .i64 (i:Int)] Try.func143 rfl Try.ntmps143 rfl fun a O=>?_;have J:AX w w [none,none] []:=MemX.start w 2;change Fr 8 a [(0,.int .i64 (i:Int))] at O;refine sr<|Ae O (Aa 0 J Am) rfl ?_;rintro _ w' a ⟨b1,rfl,J,-⟩ O;refine ns<|st O (B1 By) rfl fun a O=>Ae O (Aa 1 J Am) rfl ?_;rintro _ w' a ⟨b2,rfl,J,-⟩ O;change AX _ _ [some (b1,Al 6 (fun _=>.int .u8 (0))),some (b2,Al 6 (fun _=>.int .u8 (0)))] [] at J;refine BF O (AL 1 J rfl Ai O rfl rfl (by first | exact Ac | exact cells_one | (refine BO fun _ _=>?_;first | rfl | (split<;>rfl))) (by simp only [AP]) (by simp only [AP]<;>omega) (AI _ _ (by simp only [AP]))) ?_;intro _ w' a J O;change AX _ _ [_,some (b2,Al 6 (fun _=>.int .u8 (0)))] [] at J;refine ns<|mv O rfl rfl fun a O=>st O (AG Ap O rfl rfl rfl (by omega)) rfl fun a O=>BF O (Ak 1 J rfl AZ O rfl rfl rfl (by first | omega | (simp only [AP]<;>omega) | (simp only [Array.size_setIfInBounds];omega) | simp)) ?_;intro _ w' a J O;rw [show (Al 6 (fun x=>.int .u8 (0))).setIfInBounds (0+(i)*1) (.int .u8 (1))=Al 6 (fun x=>.int .u8 (((if x=i then 1 else 0):Nat):Int)) from Bc (fun x _=>by rw [show 0+(i)*1=i by omega];by_cases hh:x=i<;>simp [hh])] at J;change AX _ _ [_,_] [] at J;refine ns<|st O (AC AU O rfl (J.row 1 rfl) (by simp only [AP]<;>omega) (whole (by simp only [AP]))) rfl fun a O=>BF O (AL 0 J rfl Ai O rfl rfl (by first | exact Ac | exact cells_one | (refine BO fun _ _=>?_;first | rfl | (split<;>rfl))) (by simp only [AP]) (by simp only [AP]<;>omega) (AI _ _ (by simp only [AP]))) ?_;intro _ w' a J O;change AX _ _ [some (b1,Al 6 (fun x=>.int .u8 (((if x=i then 1 else 0):Nat):Int))),_] [] at J;refine nt<|wp_ret<|Ax rfl O.defers (A7 AU O rfl (J.row 0 rfl) (by simp only [AP])) ⟨_,rfl,J.below,?_⟩
  show _=_
  rfl
theorem JC (p n:Nat)(T:Nat->Nat->Nat->Nat)(f v:Nat->Nat)(w:World)(hp:0<p)(hf:∀ i,f i<=255)(hv:∀ i,v i<=255) :
    CallsR Try.prog 106 #[.agg (AD (p:Int) (n:Int) T f),.agg (AF v)] w (fun res _=>res = .int .i64 ((sumTo (fun i=>v i*f i) 6%p:Nat):Int)):=by
  refine AV [.agg (AD (p:Int) (n:Int) T f),.agg (AF v)] Try.func106 rfl Try.ntmps106 rfl fun a O=>?_;have J:AX w w [none,none] []:=MemX.start w 2;change Fr 28 a [(0,.agg (AD (p:Int) (n:Int) T f)),(1,.agg (AF v))] at O;refine sr<|Ae O (At 0 J O rfl) rfl ?_;rintro _ w' a ⟨b1,rfl,J,-⟩ O;refine Ae O (At 1 J O rfl) rfl ?_;rintro _ w' a ⟨b2,rfl,J,-⟩ O;change AX _ _ [some (b1,AD (p:Int) (n:Int) T f),some (b2,AF v)] [] at J;refine ag O rfl rfl fun a O=>ns<|ag O rfl rfl fun a O=>nt<|sq<|sr<|st O (AC AU O rfl (J.row 1 rfl) (by simp only [AP]<;>omega) (whole (by simp only [AP]))) rfl fun a O=>mv O rfl rfl fun a O=>nt<|wp_block ?_;change AX _ _ [_,_] [] at J;refine Af (fun (kk:Nat) a w'=>kk<=6/\(True)/\Fr 28 a [(2,ptr b1 (0)),(4,.int .i64 (0)),(8,.agg (AF v)),(5,.int .i64 ((sumTo (fun i=>v i*f i) kk:Int))),(9,.int .i64 (kk:Int))]/\AX w w' [some (b1,AD (p:Int) (n:Int) T f),some (b2,AF v)] []) (fun kk=>6 - kk) 0 ?_ ?_
  . refine ⟨by omega,trivial,O.sub _ (by repeat' constructor),?_⟩
    exact J
  clear O J;rintro gk a w' ⟨hgk,hH,O,J⟩;have hvi:=hv gk;have hfi:=hf gk;have hvv:=Es (hv gk) (hf gk);have hvf:=Es (hf gk) (hv gk);have hsb:=sumTo_le (m:=gk) (c:=65025) fun i (_:i<gk)=>Es (hv i) (hf i);refine sr<|st O (Aj O rfl rfl) rfl fun a O=>nt<|sq<|AO O rfl (fun h3=>?_) (fun h3=>?_)
  . refine wp_skip ?_
    refine tN<|sq<|wp_block<|sr<|mv O rfl rfl fun a O=>st O (GF Cq AZ O rfl rfl rfl (by omega) (BL (gk) (by omega) (by omega))) rfl fun a O=>ag O rfl rfl fun a O=>ag O rfl rfl fun a O=>nt<|wp_region_lit<|mv O rfl rfl fun a O=>mv O rfl rfl fun a O=>st O (Aw A1 A6 O rfl (wrap_i64 (by omega) (by omega))) rfl fun a O=>mv O rfl rfl fun a O=>st O (AB BG O rfl) rfl fun a O=>st O (AG Ap O rfl rfl rfl (by omega)) rfl fun a O=>st O (AK AZ O rfl (J.row 0 rfl) (Cz (gk) (by omega) (by omega))) rfl fun a O=>st O (Aw A1 A6 O rfl (wrap_i64 (by omega) (by omega))) rfl fun a O=>st O (B0 O rfl rfl (Bh (v gk) (f gk) (by omega))) rfl fun a O=>st O (Ad O rfl rfl (show _=(sumTo (fun i=>v i*f i) (gk+1):Int) from (GP (by omega) rfl))) rfl fun a O=>ag O rfl rfl fun a O=>wpList_nil<|iN<|tN<|wp_region_lit<|st O (Ad O rfl rfl (AS (gk) (1) (by omega))) rfl fun a O=>mv O rfl rfl fun a O=>nt<|⟨gk+1,⟨by omega,trivial,O.sub _ (by repeat' constructor),?_⟩,by omega⟩;exact J
  obtain rfl:6=gk:=by omega
  refine wp_exit<|tX<|tX<|AY<|tN<|sr<|mv O rfl rfl fun a O=>st O (AB As O rfl) rfl fun a O=>st O (AK AR O rfl (J.row 0 rfl) (BP (by omega))) rfl fun a O=>st O (Ca O rfl rfl (by omega) (CV (sumTo (fun i=>v i*f i) 6) (p))) rfl fun a O=>ag O rfl rfl fun a O=>nt<|wp_ret<|Ax rfl O.defers (AM O rfl) ⟨_,rfl,J.below,?_⟩
  show _=_
  rfl
theorem D6 (p n:Nat)(T:Nat->Nat->Nat->Nat)(f v:Nat->Nat)(w:World)(hp:0<p)(hf:∀ i,f i<=255)(hv:∀ i,v i<=255) :
    CallsR Try.prog 107 #[.agg (AD (p:Int) (n:Int) T f),.agg (AF v)] w (fun res _=>res = .int .i64 ((sumTo (fun i=>f i*v i) 6%p:Nat):Int)):=by
  refine AV [.agg (AD (p:Int) (n:Int) T f),.agg (AF v)] Try.func107 rfl Try.ntmps107 rfl fun a O=>?_;have J:AX w w [none,none] []:=MemX.start w 2;change Fr 27 a [(0,.agg (AD (p:Int) (n:Int) T f)),(1,.agg (AF v))] at O;refine sr<|Ae O (At 0 J O rfl) rfl ?_;rintro _ w' a ⟨b1,rfl,J,-⟩ O;refine Ae O (At 1 J O rfl) rfl ?_;rintro _ w' a ⟨b2,rfl,J,-⟩ O;refine ag O rfl rfl fun a O=>ns<|ag O rfl rfl fun a O=>nt<|sq<|sr<|ag O rfl rfl fun a O=>nt<|wp_block ?_;change AX _ _ [some (b1,AD (p:Int) (n:Int) T f),some (b2,AF v)] [] at J;refine Af (fun (kk:Nat) a w'=>kk<=6/\(True)/\Fr 27 a [(2,ptr b1 (0)),(3,ptr b2 (0)),(4,.int .i64 (0)),(5,.int .i64 ((sumTo (fun i=>f i*v i) kk:Int))),(6,.int .i64 (kk:Int))]/\AX w w' [some (b1,AD (p:Int) (n:Int) T f),some (b2,AF v)] []) (fun kk=>6 - kk) 0 ?_ ?_
  . refine ⟨by omega,trivial,O.sub _ (by repeat' constructor),?_⟩
    exact J
  clear O J;rintro gk a w' ⟨hgk,hH,O,J⟩;have hvi:=hv gk;have hfi:=hf gk;have hvv:=Es (hv gk) (hf gk);have hvf:=Es (hf gk) (hv gk);have hsb:=sumTo_le (m:=gk) (c:=65025) fun i (_:i<gk)=>Es (hf i) (hv i);refine sq<|sr<|mv O rfl rfl fun a O=>st O (Aj O rfl rfl) rfl fun a O=>nt<|AO O rfl (fun h3=>?_) (fun h3=>?_)
  . refine wp_skip ?_
    refine tN<|sq<|wp_block<|BA 11 [] [.val (.int .i64 ((sumTo (fun i=>f i*v i) gk:Int))),.val (.int .i64 (gk:Int)),.val (ptr b1 (0+218)),.val (ptr b1 (0+218+(gk)*1)),.val (.int .u8 ((f (gk):Int))),.val (.int .i64 ((f (gk):Int))),.val (.int .i64 (gk:Int)),.val (ptr b2 (0+(gk)*1)),.val (.int .u8 ((v (gk):Int))),.val (.int .i64 ((v (gk):Int))),.val (.int .i64 ((((f (gk))*(v (gk)):Nat):Int)))] BT rfl O rfl J ⟨fun a w gG O hS hd=>by exact A8 hS rfl O rfl,fun a w gG O hS hd=>by exact A8 hS rfl O rfl,fun a w gG O hS hd=>by exact AA hS rfl (AB BG O rfl),fun a w gG O hS hd=>by have O:=O.ext1 12 (hd 1 rfl rfl);have O:=O.ext1 13 (hd 2 rfl rfl);exact AA hS rfl (AG Ap O rfl rfl rfl (by omega)),fun a w gG O hS hd=>by have O:=O.ext1 14 (hd 3 rfl rfl);have J:=hS.mem rfl;exact AA hS rfl (AK AZ O rfl (J.row 0 rfl) (Cz (gk) (by omega) (by omega))),fun a w gG O hS hd=>by have O:=O.ext1 15 (hd 4 rfl rfl);exact AA hS rfl (Aw A1 A6 O rfl (wrap_i64 (by omega) (by omega))),fun a w gG O hS hd=>by exact A8 hS rfl O rfl,fun a w gG O hS hd=>by have O:=O.ext1 17 (hd 6 rfl rfl);exact AA hS rfl (AG Ap O rfl rfl rfl (by omega)),fun a w gG O hS hd=>by have O:=O.ext1 18 (hd 7 rfl rfl);have J:=hS.mem rfl;exact AA hS rfl (AK AZ O rfl (J.row 1 rfl) (BL (gk) (by omega) (by omega))),fun a w gG O hS hd=>by have O:=O.ext1 19 (hd 8 rfl rfl);exact AA hS rfl (Aw A1 A6 O rfl (wrap_i64 (by omega) (by omega))),fun a w gG O hS hd=>by have O:=O.ext1 16 (hd 5 rfl rfl);have O:=O.ext1 20 (hd 9 rfl rfl);exact AA hS rfl (B0 O rfl rfl (Bh (f gk) (v gk) (by omega))),trivial⟩ ?_;intro a w' L O hS hq;have O:=O.ext1 11 (hq 0 rfl rfl);have O:=O.ext1 12 (hq 1 rfl rfl);have O:=O.ext1 13 (hq 2 rfl rfl);have O:=O.ext1 14 (hq 3 rfl rfl);have O:=O.ext1 15 (hq 4 rfl rfl);have O:=O.ext1 16 (hq 5 rfl rfl);have O:=O.ext1 17 (hq 6 rfl rfl);have O:=O.ext1 18 (hq 7 rfl rfl);have O:=O.ext1 19 (hq 8 rfl rfl);have O:=O.ext1 20 (hq 9 rfl rfl);have O:=O.ext1 21 (hq 10 rfl rfl);have J:=hS.mem rfl;change wpList Try.prog _ _ [_,_] _ _;refine st O (Ad O rfl rfl (show _=(sumTo (fun i=>f i*v i) (gk+1):Int) from (GP (by omega) rfl))) rfl fun a O=>ag O rfl rfl fun a O=>wpList_nil<|iN<|tN<|wp_region_lit<|mv O rfl rfl fun a O=>st O (Ad O rfl rfl (AS (gk) (1) (by omega))) rfl fun a O=>ag O rfl rfl fun a O=>nt<|⟨gk+1,⟨by omega,trivial,O.sub _ (by repeat' constructor),?_⟩,by omega⟩;exact J
  obtain rfl:6=gk:=by omega
  refine wp_exit<|tX<|tX<|AY<|tN<|sr<|mv O rfl rfl fun a O=>st O (AB As O rfl) rfl fun a O=>st O (AK AR O rfl (J.row 0 rfl) (BP (by omega))) rfl fun a O=>st O (Ca O rfl rfl (by omega) (CV (sumTo (fun i=>f i*v i) 6) (p))) rfl fun a O=>ag O rfl rfl fun a O=>nt<|wp_ret<|Ax rfl O.defers (AM O rfl) ⟨_,rfl,J.below,?_⟩
  show _=_
  rfl
theorem EP (x p:Nat)(w:World)(hp:0<p)(hO:p<100)(hx:x<=255) :
    CallsR Try.prog 170 #[.int .u8 (x:Int),.int .i64 (p:Int)] w (fun res _=>res = .int .i64 (invN x p:Int)):=by
  refine AV [.int .u8 (x:Int),.int .i64 (p:Int)] Try.func170 rfl Try.ntmps170 rfl fun a O=>?_;have J:AX w w [] []:=MemX.start w 0;change Fr 19 a [(0,.int .u8 (x:Int)),(1,.int .i64 (p:Int))] at O;refine sr<|ag O rfl rfl fun a O=>nt<|sq<|sr<|mv O rfl rfl fun a O=>mv O rfl rfl fun a O=>nt<|wp_block ?_;change AX w _ [] [] at J;refine Af (fun (kk:Nat) a w'=>kk<=p/\(∀ c,c<kk->¬ c*x%p=1)/\Fr 19 a [(0,.int .u8 (x:Int)),(1,.int .i64 (p:Int)),(6,.int .i64 (p:Int)),(7,.int .i64 (kk:Int))]/\AX w w' [] []) (fun kk=>p - kk) 0 ?_ ?_
  . refine ⟨by omega,fun c hc=>absurd hc (by omega),O.sub _ (by repeat' constructor),?_⟩
    exact J
  clear O J;rintro gk a w' ⟨hgk,hH,O,J⟩;have hkx:gk*x<=100*255:=Nat.mul_le_mul (by omega) hx;refine sr<|st O (Aj O rfl rfl) rfl fun a O=>nt<|sq<|AO O rfl (fun h1=>?_) (fun h1=>?_)
  . refine wp_skip ?_
    refine tN<|sq<|wp_block<|sr<|mv O rfl rfl fun a O=>ag O rfl rfl fun a O=>ns<|mv O rfl rfl fun a O=>mv O rfl rfl fun a O=>st O (Aw A1 A6 O rfl (wrap_i64 (by omega) (by omega))) rfl fun a O=>st O (B0 O rfl rfl (Bh gk x (by omega))) rfl fun a O=>mv O rfl rfl fun a O=>Ae O (AN Try.call115 O (.cons rfl (.cons rfl .nil)) (G1 ((gk)*(x)) (p) _ (by omega) (by omega) (by omega))) rfl ?_;rintro _ w' a ⟨hx,rfl⟩ O;have J:=J.ext hx;refine st O (Bb O rfl rfl) rfl fun a O=>nt<|AO O rfl (fun h2=>?_) (fun h2=>?_)
    . refine sq ?_
      refine wp_region_lit<|mv O rfl rfl fun a O=>ag O rfl rfl fun a O=>nt<|wp_ret<|iR<|tR<|tR<|iR<|tR<|Ax rfl O.defers (AM O rfl) ⟨_,rfl,J.below,?_⟩
      show _=_
      exact congrArg (fun y:Nat=>Value.int .i64 (y:Int)) (IV (by omega) hH (by omega)).symm
    refine wp_skip<|iN<|tN<|wp_region_lit<|st O (Ad O rfl rfl (AS (gk) (1) (by omega))) rfl fun a O=>mv O rfl rfl fun a O=>nt<|⟨gk+1,⟨by omega,noS hH (by assumption),O.sub _ (by repeat' constructor),?_⟩,by omega⟩;exact J
  obtain rfl:p=gk:=by omega
  refine wp_exit<|tX<|tX<|AY<|tN<|sr<|ag O rfl rfl fun a O=>nt<|wp_ret<|Ax rfl O.defers (AM O rfl) ⟨_,rfl,J.below,?_⟩
  show _=_
  exact congrArg (fun y:Nat=>Value.int .i64 (y:Int)) (IW hH).symm
theorem Dr (x:Int)(p:Nat)(w:World)(hp:0<p)(hO:p<100)(hx:-1000000000<x)(hx2:x<1000000000) :
    CallsR Try.prog 153 #[.int .i64 (p:Int),.int .i64 (x)] w (fun res _=>res = .int .i64 (x%(p:Int))):=by
  refine AV [.int .i64 (p:Int),.int .i64 (x)] Try.func153 rfl Try.ntmps153 rfl fun a O=>?_;have J:AX w w [] []:=MemX.start w 0;change Fr 12 a [(0,.int .i64 (p:Int)),(1,.int .i64 (x))] at O;have h1:=Ir x p hp;have h2:=LQ x p hp;refine sr<|ag O rfl rfl fun a O=>ns<|mv O rfl rfl fun a O=>mv O rfl rfl fun a O=>st O (Ca O rfl rfl (by omega) rfl) rfl fun a O=>mv O rfl rfl fun a O=>st O (Ad O rfl rfl (wrap_i64 (by omega) (by omega))) rfl fun a O=>mv O rfl rfl fun a O=>st O (Ca O rfl rfl (by omega) (Jh x p hp)) rfl fun a O=>ag O rfl rfl fun a O=>nt<|wp_ret<|Ax rfl O.defers (AM O rfl) ⟨_,rfl,J.below,?_⟩
  show _=_
  rfl
theorem Fk (x p:Nat)(w:World)(hp:0<p)(hO:p<100)(hx:x<1000000000):CallsR Try.prog 153 #[.int .i64 (p:Int),.int .i64 (x:Int)] w (fun res _=>res = .int .i64 ((x%p:Nat):Int)):=Dr x p w hp hO (by omega) (by omega)
theorem Hx (x p:Nat)(w:World)(hp:0<p)(hO:p<100)(hx:x<p) :
    CallsR Try.prog 173 #[.int .i64 (p:Int),.int .i64 (x:Int)] w (fun res _=>res = .int .i64 (invN x p:Int)):=by
  refine AV [.int .i64 (p:Int),.int .i64 (x:Int)] Try.func173 rfl Try.ntmps173 rfl fun a O=>?_;have J:AX w w [] []:=MemX.start w 0;change Fr 20 a [(0,.int .i64 (p:Int)),(1,.int .i64 (x:Int))] at O;refine sr<|ag O rfl rfl fun a O=>nt<|sq<|sr<|ag O rfl rfl fun a O=>nt<|wp_block ?_;change AX w _ [] [] at J;refine Af (fun (kk:Nat) a w'=>kk<=p/\(∀ c,c<kk->¬ c*x%p=1)/\Fr 20 a [(0,.int .i64 (p:Int)),(1,.int .i64 (x:Int)),(5,.int .i64 (kk:Int))]/\AX w w' [] []) (fun kk=>p - kk) 1 ?_ ?_
  . refine ⟨by omega,fun c hc=>by rw [show c=0 by omega,Nat.zero_mul,Nat.zero_mod];decide,O.sub _ (by repeat' constructor),?_⟩
    exact J
  clear O J;rintro gk a w' ⟨hgk,hH,O,J⟩;have hkx:gk*x<=100*100:=Nat.mul_le_mul (by omega) (by omega);have hxm:x%p=x:=Nat.mod_eq_of_lt hx;refine sq<|sr<|mv O rfl rfl fun a O=>mv O rfl rfl fun a O=>st O (Aj O rfl rfl) rfl fun a O=>nt<|AO O rfl (fun h1=>?_) (fun h1=>?_)
  . refine wp_skip ?_
    refine tN<|sq<|wp_block<|sr<|mv O rfl rfl fun a O=>mv O rfl rfl fun a O=>mv O rfl rfl fun a O=>Ae O (AN Try.call153 O (.cons rfl (.cons rfl .nil)) (Fk (x) (p) _ (by omega) (by omega) (by omega))) rfl ?_;rintro _ w' a ⟨hx,rfl⟩ O;have J:=J.ext hx;refine st O (B0 O rfl rfl (show _=((gk*x:Nat):Int) from (by rw [hxm];exact Bh gk x (by omega)))) rfl fun a O=>mv O rfl rfl fun a O=>st O (Ca O rfl rfl (by omega) (CV (gk*x) (p))) rfl fun a O=>st O (Bb O rfl rfl) rfl fun a O=>nt<|AO O rfl (fun h2=>?_) (fun h2=>?_)
    . refine sq ?_
      refine wp_region_lit<|mv O rfl rfl fun a O=>ag O rfl rfl fun a O=>nt<|wp_ret<|iR<|tR<|tR<|iR<|tR<|Ax rfl O.defers (AM O rfl) ⟨_,rfl,J.below,?_⟩
      show _=_
      exact congrArg (fun y:Nat=>Value.int .i64 (y:Int)) (IV (by omega) hH (by omega)).symm
    refine wp_skip<|iN<|tN<|wp_region_lit<|mv O rfl rfl fun a O=>st O (Ad O rfl rfl (AS (gk) (1) (by omega))) rfl fun a O=>ag O rfl rfl fun a O=>nt<|⟨gk+1,⟨by omega,noS hH (by assumption),O.sub _ (by repeat' constructor),?_⟩,by omega⟩;exact J
  obtain rfl:p=gk:=by omega
  refine wp_exit<|tX<|tX<|AY<|tN<|sr<|ag O rfl rfl fun a O=>nt<|wp_ret<|Ax rfl O.defers (AM O rfl) ⟨_,rfl,J.below,?_⟩
  show _=_
  exact congrArg (fun y:Nat=>Value.int .i64 (y:Int)) (IW hH).symm
def Jp (p n:Int) (T:Nat->Nat->Nat->Nat) (i j:Nat):Prop:=¬ ((¬ ((i:Int)<n/\(j:Int)<n)/\¬ JV 6 (T i j) (fun _=>0))\/¬ okV p n (T i j))
instance (p n:Int) (T:Nat->Nat->Nat->Nat) (i j:Nat):Decidable (Jp p n T i j):=by unfold Jp;infer_instance
def JK (m:Nat) (q:Nat->Nat->Prop):Prop:=∀ i,i<m->∀ j,j<m->q i j
instance (m:Nat) (q:Nat->Nat->Prop) [∀ i j,Decidable (q i j)]:Decidable (JK m q):=by unfold JK;exact Nat.decidableBallLT m _
theorem FA {m:Nat}{q:Nat->Nat->Prop}(i j:Nat)(hi:i<m)(hj:j<m)(h:¬ q i j):¬ JK m q:=fun ha=>h (ha i hi j hj)
theorem EL {q:Nat->Prop}{k:Nat}(h:∀ i,i<k->q i)(hk:q k):∀ i,i<k+1->q i:=fun i hi=>by
  by_cases e:i=k
  . subst e;exact hk
  . exact h i (by omega)
def F8 (p n:Int) (T:Nat->Nat->Nat->Nat) (i j:Nat):Prop:=okV p (if (i:Int)≥n\/(j:Int)≥n then 0 else n) (T i j)
instance (p n:Int) (T:Nat->Nat->Nat->Nat) (i j:Nat):Decidable (F8 p n T i j):=by unfold F8;infer_instance
def Cw (p n:Int) (T:Nat->Nat->Nat->Nat) (f:Nat->Nat):Prop:=BE p/\(1<=n/\n<=6)/\okV p n f/\JK 6 (F8 p n T)
instance (p n:Int) (T:Nat->Nat->Nat->Nat) (f:Nat->Nat):Decidable (Cw p n T f):=by unfold Cw;infer_instance
theorem G6 (p n:Int)(T:Nat->Nat->Nat->Nat)(f:Nat->Nat)(w:World)(hT:∀ i j k,T i j k<=255)(hf:∀ i,f i<=255) :
    CallsR Try.prog 92 #[.agg (AD p n T f)] w (fun res _=>res = .bool (decide (JK 6 (Jp p n T)))):=by
  refine AV [.agg (AD p n T f)] Try.func92 rfl Try.ntmps92 rfl fun a O=>?_;have J:AX w w [none,none,none] []:=MemX.start w 3;change Fr 44 a [(0,.agg (AD p n T f))] at O;refine sr<|Ae O (At 0 J O rfl) rfl ?_;rintro _ w' a ⟨b1,rfl,J,-⟩ O;change AX _ _ [some (b1,AD p n T f),_,_] [] at J;refine ag O rfl rfl fun a O=>nt<|sq<|sr<|st O (AB Ay O rfl) rfl fun a O=>st O (AC Ew O rfl (J.row 0 rfl) (by simp only [AP]<;>omega) (KD (by omega) (by omega))) rfl fun a O=>mv O rfl rfl fun a O=>nt<|wp_block ?_;change AX _ _ [_,_,_] [] at J;refine Af (fun (kk:Nat) a w'=>kk<=6/\(∀ i,i<kk->∀ j,j<6->Jp p n T i j)/\Fr 44 a [(1,ptr b1 (0)),(9,.agg (C9 T)),(10,.int .i64 (kk:Int))]/\AX w w' [some (b1,AD p n T f),none,none] []) (fun kk=>6 - kk) 0 ?_ ?_
  . refine ⟨by omega,fun i hi=>absurd hi (by omega),O.sub _ (by repeat' constructor),?_⟩
    exact J
  clear O J;rintro gi a w' ⟨hgi,hH,O,J⟩;refine sr<|st O (Aj O rfl rfl) rfl fun a O=>nt<|sq<|AO O rfl (fun h2=>?_) (fun h2=>?_)
  . refine wp_skip ?_
    refine tN<|sq<|wp_block<|sr<|mv O rfl rfl fun a O=>st O (GE JZ F3 O rfl rfl rfl (by omega) (HT (gi) (by omega) (by omega) (by omega))) rfl fun a O=>Ae O (Aa 1 J JX) rfl ?_;rintro _ w' a ⟨b3,rfl,J,-⟩ O;change AX _ _ [_,some (b3,Al 36 (fun _=>.int .u8 (0))),_] [] at J;refine ag O rfl rfl fun a O=>BF O (AL 1 J rfl Jc O rfl rfl (by first | exact Ac | exact cells_one | (refine BO fun _ _=>?_;first | rfl | (split<;>rfl))) (by simp only [AP]) (by simp only [AP]<;>omega) (AI _ _ (by simp only [AP]))) ?_;intro _ w' a J O;change AX _ _ [_,some (b3,DC (T (gi))),_] [] at J;refine ns<|st O (AC F3 O rfl (J.row 1 rfl) (by simp only [AP]<;>omega) (whole (by simp only [AP]))) rfl fun a O=>mv O rfl rfl fun a O=>nt<|wp_block ?_;change AX _ _ [_,_,_] [] at J;refine Af (fun (kk:Nat) a w'=>kk<=6/\(∀ j,j<kk->Jp p n T gi j)/\Fr 44 a [(1,ptr b1 (0)),(9,.agg (C9 T)),(10,.int .i64 (gi:Int)),(11,.bool (decide (((gi:Int):Int)<6))),(12,.int .i64 (gi:Int)),(13,.agg (DC (T (gi)))),(4,ptr b3 (0)),(3,.int .i64 (gi:Int)),(14,.agg (DC (T (gi)))),(15,.int .i64 (kk:Int))]/\AX w w' [some (b1,AD p n T f),some (b3,DC (T (gi))),none] []) (fun kk=>6 - kk) 0 ?_ ?_
    . refine ⟨by omega,fun i hi=>absurd hi (by omega),O.sub _ (by repeat' constructor),?_⟩
      exact J
    clear O J;rintro gj a w' ⟨hgj,hJ,O,J⟩;refine sr<|st O (Aj O rfl rfl) rfl fun a O=>nt<|sq<|AO O rfl (fun h4=>?_) (fun h4=>?_)
    . refine wp_skip ?_
      refine tN<|sq<|wp_block<|sr<|mv O rfl rfl fun a O=>st O (GE Ja Bv O rfl rfl rfl (by omega) (Hb (gj) (by omega) (by omega) (by omega))) rfl fun a O=>Ae O (Aa 2 J JY) rfl ?_;rintro _ w' a ⟨b5,rfl,J,-⟩ O;change AX _ _ [_,_,some (b5,Al 6 (fun _=>.int .u8 (0)))] [] at J;refine ag O rfl rfl fun a O=>BF O (AL 2 J rfl Du O rfl rfl Ac (by simp only [AP]) (by simp only [AP]<;>omega) (AI _ _ (by simp only [AP]))) ?_;intro _ w' a J O;change AX _ _ [_,_,some (b5,AF ((T (gi)) (gj)))] [] at J;refine ns<|mv O rfl rfl fun a O=>st O (AB AT O rfl) rfl fun a O=>st O (AK AR O rfl (J.row 0 rfl) (Ao (by omega))) rfl fun a O=>st O (Aj O rfl rfl) rfl fun a O=>mv O rfl rfl fun a O=>?_
      by_cases g6:((gi:Int):Int)<n
      . first | rw [decide_eq_true g6] at O | simp only [decide_eq_true g6] at O
        refine Ba O rfl rfl rfl (Ah O rfl) rfl fun a O=>Ba O rfl rfl rfl (AB AT O rfl) rfl fun a O=>Ba O rfl rfl rfl (AK AR O rfl (J.row 0 rfl) (Ao (by omega))) rfl fun a O=>Ba O rfl rfl rfl (Aj O rfl rfl) rfl fun a O=>st O (A5 O rfl rfl) rfl fun a O=>ag O rfl rfl fun a O=>ns<|mv O rfl rfl fun a O=>st O (CR O rfl) rfl fun a O=>mv O rfl rfl fun a O=>?_
        by_cases g7:¬ (((gj:Int):Int)<n)
        . first | rw [decide_eq_true g7] at O | simp only [decide_eq_true g7] at O
          refine Ba O rfl rfl rfl (AC Bv O rfl (J.row 2 rfl) (by simp only [AP]<;>omega) (whole (by simp only [AP]))) rfl fun a O=>Ba O rfl rfl rfl (B1 By) rfl fun a O=>Ba O rfl rfl rfl (Gn Jd O rfl rfl (EA Jg EX AZ)) rfl fun a O=>st O (A5 O rfl rfl) rfl fun a O=>mv O rfl rfl fun a O=>?_
          by_cases g8:¬ (JV 6 (((T (gi)) (gj))) ((fun _=>0)))
          . first | rw [decide_eq_true g8] at O | simp only [decide_eq_true g8] at O
            refine Bg O rfl rfl rfl rfl rfl fun a O=>Bg O rfl rfl rfl rfl rfl fun a O=>Bg O rfl rfl rfl rfl rfl fun a O=>Bg O rfl rfl rfl rfl rfl fun a O=>st O (A5 O rfl rfl) rfl fun a O=>nt<|Hs O rfl<|sr<|ag O rfl rfl fun a O=>nt<|wp_ret<|iR<|tR<|tR<|iR<|iR<|tR<|tR<|iR<|tR<|Ax rfl O.defers (AM O rfl) ⟨_,rfl,J.below,?_⟩
            show _=_
            exact CT (FA gi gj (by omega) (by omega) (by unfold Jp;intro hq;apply hq;first | (right;assumption) | (left;exact ⟨by omega,by assumption⟩)))
          first | rw [decide_eq_false g8] at O | simp only [decide_eq_false g8] at O
          refine Ba O rfl rfl rfl (AC AJ O rfl (J.row 0 rfl) (by simp only [AP]<;>omega) (whole AE)) rfl fun a O=>Ba O rfl rfl rfl (AC Bv O rfl (J.row 2 rfl) (by simp only [AP]<;>omega) (whole (by simp only [AP]))) rfl fun a O=>Ey O rfl rfl rfl (AN Try.call91 O (.cons rfl (.cons rfl .nil)) (C6 p n T f (((T (gi)) (gj))) _ (fun _=>by first | exact hv _ | exact hu _ | exact hT _ _ _ | exact hf _ | omega | (split<;>omega) | (dsimp only;split<;>omega) | assumption))) rfl ?_;rintro _ w' a ⟨hx,rfl⟩ O;have J:=J.ext hx;refine Ba O rfl rfl rfl (CR O rfl) rfl fun a O=>st O (A2 O rfl rfl) rfl fun a O=>nt<|AO O rfl (fun h10=>?_) (fun h10=>?_)
          . refine sq ?_
            refine wp_region_lit<|ag O rfl rfl fun a O=>nt<|wp_ret<|iR<|tR<|tR<|iR<|iR<|tR<|tR<|iR<|tR<|Ax rfl O.defers (AM O rfl) ⟨_,rfl,J.below,?_⟩
            show _=_
            exact CT (FA gi gj (by omega) (by omega) (by unfold Jp;intro hq;apply hq;first | (right;assumption) | (left;exact ⟨by omega,by assumption⟩)))
          refine wp_skip<|iN<|tN<|wp_region_lit<|st O (Ad O rfl rfl (AS (gj) (1) (by omega))) rfl fun a O=>mv O rfl rfl fun a O=>wpList_nil<|tN ?_;have J:=J.drop 2;refine ⟨gj+1,⟨by omega,EL hJ (by unfold Jp;simp_all),O.sub _ (by repeat' constructor),?_⟩,by omega⟩;exact J
        first | rw [decide_eq_false g7] at O | simp only [decide_eq_false g7] at O
        refine Bg O rfl rfl rfl rfl rfl fun a O=>Bg O rfl rfl rfl rfl rfl fun a O=>Bg O rfl rfl rfl rfl rfl fun a O=>st O (A2 O rfl rfl) rfl fun a O=>mv O rfl rfl fun a O=>Ba O rfl rfl rfl (AC AJ O rfl (J.row 0 rfl) (by simp only [AP]<;>omega) (whole AE)) rfl fun a O=>Ba O rfl rfl rfl (AC Bv O rfl (J.row 2 rfl) (by simp only [AP]<;>omega) (whole (by simp only [AP]))) rfl fun a O=>Ey O rfl rfl rfl (AN Try.call91 O (.cons rfl (.cons rfl .nil)) (C6 p n T f (((T (gi)) (gj))) _ (fun _=>by first | exact hv _ | exact hu _ | exact hT _ _ _ | exact hf _ | omega | (split<;>omega) | (dsimp only;split<;>omega) | assumption))) rfl ?_;rintro _ w' a ⟨hx,rfl⟩ O;have J:=J.ext hx;refine Ba O rfl rfl rfl (CR O rfl) rfl fun a O=>st O (A2 O rfl rfl) rfl fun a O=>nt<|AO O rfl (fun h11=>?_) (fun h11=>?_)
        . refine sq ?_
          refine wp_region_lit<|ag O rfl rfl fun a O=>nt<|wp_ret<|iR<|tR<|tR<|iR<|iR<|tR<|tR<|iR<|tR<|Ax rfl O.defers (AM O rfl) ⟨_,rfl,J.below,?_⟩
          show _=_
          exact CT (FA gi gj (by omega) (by omega) (by unfold Jp;intro hq;apply hq;first | (right;assumption) | (left;exact ⟨by omega,by assumption⟩)))
        refine wp_skip<|iN<|tN<|wp_region_lit<|st O (Ad O rfl rfl (AS (gj) (1) (by omega))) rfl fun a O=>mv O rfl rfl fun a O=>wpList_nil<|tN ?_;have J:=J.drop 2;refine ⟨gj+1,⟨by omega,EL hJ (by unfold Jp;simp_all),O.sub _ (by repeat' constructor),?_⟩,by omega⟩;exact J
      first | rw [decide_eq_false g6] at O | simp only [decide_eq_false g6] at O
      refine Bg O rfl rfl rfl rfl rfl fun a O=>Bg O rfl rfl rfl rfl rfl fun a O=>Bg O rfl rfl rfl rfl rfl fun a O=>Bg O rfl rfl rfl rfl rfl fun a O=>st O (A2 O rfl rfl) rfl fun a O=>ag O rfl rfl fun a O=>ns<|mv O rfl rfl fun a O=>st O (CI (b:=false) O rfl) rfl fun a O=>mv O rfl rfl fun a O=>Ba O rfl rfl rfl (AC Bv O rfl (J.row 2 rfl) (by simp only [AP]<;>omega) (whole (by simp only [AP]))) rfl fun a O=>Ba O rfl rfl rfl (B1 By) rfl fun a O=>Ba O rfl rfl rfl (Gn Jd O rfl rfl (EA Jg EX AZ)) rfl fun a O=>st O (A5 O rfl rfl) rfl fun a O=>mv O rfl rfl fun a O=>?_
      by_cases g12:¬ (JV 6 (((T (gi)) (gj))) ((fun _=>0)))
      . first | rw [decide_eq_true g12] at O | simp only [decide_eq_true g12] at O
        refine Bg O rfl rfl rfl rfl rfl fun a O=>Bg O rfl rfl rfl rfl rfl fun a O=>Bg O rfl rfl rfl rfl rfl fun a O=>Bg O rfl rfl rfl rfl rfl fun a O=>st O (A5 O rfl rfl) rfl fun a O=>nt<|Hs O rfl<|sr<|ag O rfl rfl fun a O=>nt<|wp_ret<|iR<|tR<|tR<|iR<|iR<|tR<|tR<|iR<|tR<|Ax rfl O.defers (AM O rfl) ⟨_,rfl,J.below,?_⟩
        show _=_
        exact CT (FA gi gj (by omega) (by omega) (by unfold Jp;intro hq;apply hq;first | (right;assumption) | (left;exact ⟨by omega,by assumption⟩)))
      first | rw [decide_eq_false g12] at O | simp only [decide_eq_false g12] at O
      refine Ba O rfl rfl rfl (AC AJ O rfl (J.row 0 rfl) (by simp only [AP]<;>omega) (whole AE)) rfl fun a O=>Ba O rfl rfl rfl (AC Bv O rfl (J.row 2 rfl) (by simp only [AP]<;>omega) (whole (by simp only [AP]))) rfl fun a O=>Ey O rfl rfl rfl (AN Try.call91 O (.cons rfl (.cons rfl .nil)) (C6 p n T f (((T (gi)) (gj))) _ (fun _=>by first | exact hv _ | exact hu _ | exact hT _ _ _ | exact hf _ | omega | (split<;>omega) | (dsimp only;split<;>omega) | assumption))) rfl ?_;rintro _ w' a ⟨hx,rfl⟩ O;have J:=J.ext hx;refine Ba O rfl rfl rfl (CR O rfl) rfl fun a O=>st O (A2 O rfl rfl) rfl fun a O=>nt<|AO O rfl (fun h14=>?_) (fun h14=>?_)
      . refine sq ?_
        refine wp_region_lit<|ag O rfl rfl fun a O=>nt<|wp_ret<|iR<|tR<|tR<|iR<|iR<|tR<|tR<|iR<|tR<|Ax rfl O.defers (AM O rfl) ⟨_,rfl,J.below,?_⟩
        show _=_
        exact CT (FA gi gj (by omega) (by omega) (by unfold Jp;intro hq;apply hq;first | (right;assumption) | (left;exact ⟨by omega,by assumption⟩)))
      refine wp_skip<|iN<|tN<|wp_region_lit<|st O (Ad O rfl rfl (AS (gj) (1) (by omega))) rfl fun a O=>mv O rfl rfl fun a O=>wpList_nil<|tN ?_;have J:=J.drop 2;refine ⟨gj+1,⟨by omega,EL hJ (by unfold Jp;simp_all),O.sub _ (by repeat' constructor),?_⟩,by omega⟩;exact J
    obtain rfl:6=gj:=by omega
    refine wp_exit<|tX<|tX<|AY<|iN<|tN<|wp_region_lit<|st O (Ad O rfl rfl (AS (gi) (1) (by omega))) rfl fun a O=>mv O rfl rfl fun a O=>wpList_nil<|tN ?_;have J:=J.drop 1;refine ⟨gi+1,⟨by omega,EL hH hJ,O.sub _ (by repeat' constructor),?_⟩,by omega⟩;exact J
  obtain rfl:6=gi:=by omega
  refine wp_exit<|tX<|tX<|AY<|tN<|sr<|ag O rfl rfl fun a O=>nt<|wp_ret<|Ax rfl O.defers (AM O rfl) ⟨_,rfl,J.below,?_⟩
  show _=_
  exact Gt hH
theorem G4 (p n:Int)(T:Nat->Nat->Nat->Nat)(f:Nat->Nat)(w:World)(hT:∀ i j k,T i j k<=255)(hf:∀ i,f i<=255) :
    CallsR Try.prog 151 #[.agg (AD p n T f)] w (fun res _=>res = .bool (decide (Cw p n T f))):=by
  refine AV [.agg (AD p n T f)] Try.func151 rfl Try.ntmps151 rfl fun a O=>?_;have J:AX w w [none] []:=MemX.start w 1;change Fr 55 a [(0,.agg (AD p n T f))] at O;refine sr<|Ae O (At 0 J O rfl) rfl ?_;rintro _ w' a ⟨b1,rfl,J,-⟩ O;change AX _ _ [some (b1,AD p n T f)] [] at J;refine ag O rfl rfl fun a O=>nt<|sq<|sr<|st O (AB As O rfl) rfl fun a O=>st O (AK AR O rfl (J.row 0 rfl) (BP (by omega))) rfl fun a O=>Ae O (AN Try.call166 O (.cons rfl .nil) (Jw (p) _)) rfl ?_;rintro _ w' a ⟨hx,rfl⟩ O;have J:=J.ext hx;refine st O (CR O rfl) rfl fun a O=>mv O rfl rfl fun a O=>?_
  by_cases g2:¬ (BE (p))
  . first | rw [decide_eq_true g2] at O | simp only [decide_eq_true g2] at O
    refine Bg O rfl rfl rfl rfl rfl fun a O=>Bg O rfl rfl rfl rfl rfl fun a O=>Bg O rfl rfl rfl rfl rfl fun a O=>Bg O rfl rfl rfl rfl rfl fun a O=>st O (A5 O rfl rfl) rfl fun a O=>mv O rfl rfl fun a O=>Bg O rfl rfl rfl rfl rfl fun a O=>Bg O rfl rfl rfl rfl rfl fun a O=>Bg O rfl rfl rfl rfl rfl fun a O=>Bg O rfl rfl rfl rfl rfl fun a O=>Bg O rfl rfl rfl rfl rfl fun a O=>Bg O rfl rfl rfl rfl rfl fun a O=>Bg O rfl rfl rfl rfl rfl fun a O=>Bg O rfl rfl rfl rfl rfl fun a O=>st O (A5 O rfl rfl) rfl fun a O=>nt<|Hs O rfl<|sr<|ag O rfl rfl fun a O=>nt<|wp_ret<|tR<|Ax rfl O.defers (AM O rfl) ⟨_,rfl,J.below,?_⟩
    show _=_
    exact CT (fun hq=>by obtain ⟨q1,q2,q3,q4⟩:=hq;simp_all)
  first | rw [decide_eq_false g2] at O | simp only [decide_eq_false g2] at O
  refine Ba O rfl rfl rfl (AB AT O rfl) rfl fun a O=>Ba O rfl rfl rfl (AK AR O rfl (J.row 0 rfl) (Ao (by omega))) rfl fun a O=>Ey O rfl rfl rfl (AN Try.call101 O (.cons rfl (.cons rfl (.cons rfl .nil))) (Md (n) (1) (6) _)) rfl ?_;rintro _ w' a ⟨hx,rfl⟩ O;have J:=J.ext hx;refine Ba O rfl rfl rfl (CR O rfl) rfl fun a O=>st O (A2 O rfl rfl) rfl fun a O=>mv O rfl rfl fun a O=>?_
  by_cases g4:¬ ((1:Int)<=n/\n<=6)
  . first | rw [decide_eq_true g4] at O | simp only [decide_eq_true g4] at O
    refine Bg O rfl rfl rfl rfl rfl fun a O=>Bg O rfl rfl rfl rfl rfl fun a O=>Bg O rfl rfl rfl rfl rfl fun a O=>Bg O rfl rfl rfl rfl rfl fun a O=>Bg O rfl rfl rfl rfl rfl fun a O=>Bg O rfl rfl rfl rfl rfl fun a O=>Bg O rfl rfl rfl rfl rfl fun a O=>Bg O rfl rfl rfl rfl rfl fun a O=>st O (A5 O rfl rfl) rfl fun a O=>nt<|Hs O rfl<|sr<|ag O rfl rfl fun a O=>nt<|wp_ret<|tR<|Ax rfl O.defers (AM O rfl) ⟨_,rfl,J.below,?_⟩
    show _=_
    exact CT (fun hq=>by obtain ⟨q1,q2,q3,q4⟩:=hq;simp_all)
  first | rw [decide_eq_false g4] at O | simp only [decide_eq_false g4] at O
  refine Ba O rfl rfl rfl (AB As O rfl) rfl fun a O=>Ba O rfl rfl rfl (AK AR O rfl (J.row 0 rfl) (BP (by omega))) rfl fun a O=>Ba O rfl rfl rfl (AB AT O rfl) rfl fun a O=>Ba O rfl rfl rfl (AK AR O rfl (J.row 0 rfl) (Ao (by omega))) rfl fun a O=>Ba O rfl rfl rfl (AB BG O rfl) rfl fun a O=>Ba O rfl rfl rfl (AC AU O rfl (J.row 0 rfl) (by simp only [AP]<;>omega) (Gu (by omega) (by omega))) rfl fun a O=>Ey O rfl rfl rfl (AN Try.call165 O (.cons rfl (.cons rfl (.cons rfl .nil))) (Dh (p) (n) (f) _ (fun _=>by first | exact hv _ | exact hu _ | exact hT _ _ _ | exact hf _ | omega | (split<;>omega) | (dsimp only;split<;>omega) | assumption))) rfl ?_;rintro _ w' a ⟨hx,rfl⟩ O;have J:=J.ext hx;refine Ba O rfl rfl rfl (CR O rfl) rfl fun a O=>st O (A2 O rfl rfl) rfl fun a O=>nt<|AO O rfl (fun h6=>?_) (fun h6=>?_)
  . refine sq ?_
    refine wp_region_lit<|ag O rfl rfl fun a O=>nt<|wp_ret<|tR<|Ax rfl O.defers (AM O rfl) ⟨_,rfl,J.below,?_⟩
    show _=_
    exact CT (fun hq=>by obtain ⟨q1,q2,q3,q4⟩:=hq;simp_all)
  refine wp_skip<|tN<|sq<|sr<|ag O rfl rfl fun a O=>nt<|wp_block ?_;change AX w _ [some (b1,AD p n T f)] [] at J;refine Af (fun (kk:Nat) a w'=>kk<=6/\(∀ i,i<kk->∀ j,j<6->F8 p n T i j)/\Fr 55 a [(1,ptr b1 (0)),(25,.bool (decide (¬ (okV (p) (n) (f))))),(3,.int .i64 (kk:Int))]/\AX w w' [some (b1,AD p n T f)] []) (fun kk=>6 - kk) 0 ?_ ?_
  . refine ⟨by omega,fun i hi=>absurd hi (by omega),O.sub _ (by repeat' constructor),?_⟩
    exact J
  clear O J;rintro gi a w' ⟨hgi,hH,O,J⟩;refine sq<|sr<|mv O rfl rfl fun a O=>st O (Aj O rfl rfl) rfl fun a O=>nt<|AO O rfl (fun h7=>?_) (fun h7=>?_)
  . refine wp_skip ?_
    refine tN<|sq<|wp_block<|sr<|ag O rfl rfl fun a O=>nt<|wp_block ?_;change AX w _ [some (b1,AD p n T f)] [] at J;refine Af (fun (kk:Nat) a w'=>kk<=6/\(∀ j,j<kk->F8 p n T gi j)/\Fr 55 a [(1,ptr b1 (0)),(25,.bool (decide (¬ (okV (p) (n) (f))))),(3,.int .i64 (gi:Int)),(26,.int .i64 (gi:Int)),(27,.bool (decide (((gi:Int):Int)<6))),(4,.int .i64 (kk:Int))]/\AX w w' [some (b1,AD p n T f)] []) (fun kk=>6 - kk) 0 ?_ ?_
    . refine ⟨by omega,fun i hi=>absurd hi (by omega),O.sub _ (by repeat' constructor),?_⟩
      exact J
    clear O J;rintro gj a w' ⟨hgj,hJ,O,J⟩;refine sq<|sr<|mv O rfl rfl fun a O=>st O (Aj O rfl rfl) rfl fun a O=>nt<|AO O rfl (fun h8=>?_) (fun h8=>?_)
    . refine wp_skip ?_
      refine tN<|sq<|wp_block<|sr<|st O (AB AT O rfl) rfl fun a O=>st O (AK AR O rfl (J.row 0 rfl) (Ao (by omega))) rfl fun a O=>ag O rfl rfl fun a O=>nt<|sq<|sr<|mv O rfl rfl fun a O=>mv O rfl rfl fun a O=>st O (Hk O rfl rfl) rfl fun a O=>mv O rfl rfl fun a O=>?_
      by_cases g9:n<=((gi:Int):Int)
      . first | rw [decide_eq_true g9] at O | simp only [decide_eq_true g9] at O
        refine Bg O rfl rfl rfl rfl rfl fun a O=>Bg O rfl rfl rfl rfl rfl fun a O=>Bg O rfl rfl rfl rfl rfl fun a O=>st O (A5 O rfl rfl) rfl fun a O=>nt<|Hs O rfl<|wp_region_lit<|ag O rfl rfl fun a O=>nt<|sq<|BA 9 [] [.val (ptr b1 (0+0)),.val (.int .i64 (p)),.val (.int .i64 (0)),.val (.int .i64 (gi:Int)),.val (.int .i64 (gj:Int)),.val (ptr b1 (0+2)),.val (ptr b1 (0+2+(gi)*36)),.val (ptr b1 (0+2+(gi)*36+(gj)*6)),.val (.agg (AF (T (gi) (gj))))] BT rfl O rfl J ⟨fun a w gG O hS hd=>by exact AA hS rfl (AB As O rfl),fun a w gG O hS hd=>by have O:=O.ext1 44 (hd 0 rfl rfl);have J:=hS.mem rfl;exact AA hS rfl (AK AR O rfl (J.row 0 rfl) (BP (by omega))),fun a w gG O hS hd=>by exact A8 hS rfl O rfl,fun a w gG O hS hd=>by exact A8 hS rfl O rfl,fun a w gG O hS hd=>by exact A8 hS rfl O rfl,fun a w gG O hS hd=>by exact AA hS rfl (AB Ay O rfl),fun a w gG O hS hd=>by have O:=O.ext1 47 (hd 3 rfl rfl);have O:=O.ext1 49 (hd 5 rfl rfl);exact AA hS rfl (AG BH O rfl rfl rfl (by omega)),fun a w gG O hS hd=>by have O:=O.ext1 48 (hd 4 rfl rfl);have O:=O.ext1 50 (hd 6 rfl rfl);exact AA hS rfl (AG BI O rfl rfl rfl (by omega)),fun a w gG O hS hd=>by have O:=O.ext1 51 (hd 7 rfl rfl);have J:=hS.mem rfl;exact AA hS rfl (AC Bv O rfl (J.row 0 rfl) (by simp only [AP]<;>omega) (Cs (gi) (gj) (by omega) (by omega) (by omega) (by omega))),trivial⟩ ?_;intro a w' L O hS hq;have O:=O.ext1 44 (hq 0 rfl rfl);have O:=O.ext1 45 (hq 1 rfl rfl);have O:=O.ext1 46 (hq 2 rfl rfl);have O:=O.ext1 47 (hq 3 rfl rfl);have O:=O.ext1 48 (hq 4 rfl rfl);have O:=O.ext1 49 (hq 5 rfl rfl);have O:=O.ext1 50 (hq 6 rfl rfl);have O:=O.ext1 51 (hq 7 rfl rfl);have O:=O.ext1 52 (hq 8 rfl rfl);have J:=hS.mem rfl;change wpList Try.prog _ _ [_,_] _ _;refine Ae O (AN Try.call165 O (.cons rfl (.cons rfl (.cons rfl .nil))) (Dh (p) (0) ((T (gi) (gj))) _ (fun _=>by first | exact hv _ | exact hu _ | exact hT _ _ _ | exact hf _ | omega | (split<;>omega) | (dsimp only;split<;>omega) | assumption))) rfl ?_;rintro _ w' a ⟨hx,rfl⟩ O;have J:=J.ext hx;refine st O (CR O rfl) rfl fun a O=>nt<|AO O rfl (fun h11=>?_) (fun h11=>?_)
        . refine sq ?_
          refine wp_region_lit<|ag O rfl rfl fun a O=>nt<|wp_ret<|iR<|tR<|tR<|iR<|iR<|tR<|tR<|iR<|tR<|Ax rfl O.defers (AM O rfl) ⟨_,rfl,J.below,?_⟩
          show _=_
          exact CT (fun hq=>absurd (hq.2.2.2 gi (by omega) gj (by omega)) (by unfold F8;first | (rw [if_pos (by omega)];first | assumption | exact Classical.byContradiction ‹_›) | (rw [if_neg (by omega)];first | assumption | exact Classical.byContradiction ‹_›)))
        refine wp_skip<|iN<|tN<|wp_region_lit<|mv O rfl rfl fun a O=>st O (Ad O rfl rfl (AS (gj) (1) (by omega))) rfl fun a O=>ag O rfl rfl fun a O=>nt<|⟨gj+1,⟨by omega,EL hJ (by unfold F8;first | (rw [if_pos (by omega)];first | assumption | exact Classical.byContradiction ‹_›) | (rw [if_neg (by omega)];first | assumption | exact Classical.byContradiction ‹_›)),O.sub _ (by repeat' constructor),?_⟩,by omega⟩;exact J
      first | rw [decide_eq_false g9] at O | simp only [decide_eq_false g9] at O
      refine Ba O rfl rfl rfl (Ah O rfl) rfl fun a O=>Ba O rfl rfl rfl (Ah O rfl) rfl fun a O=>Ba O rfl rfl rfl (Hk O rfl rfl) rfl fun a O=>st O (A2 O rfl rfl) rfl fun a O=>nt<|AO O rfl (fun h12=>?_) (fun h12=>?_)
      . refine wp_region_lit ?_
        refine ag O rfl rfl fun a O=>nt<|sq<|BA 9 [] [.val (ptr b1 (0+0)),.val (.int .i64 (p)),.val (.int .i64 (0)),.val (.int .i64 (gi:Int)),.val (.int .i64 (gj:Int)),.val (ptr b1 (0+2)),.val (ptr b1 (0+2+(gi)*36)),.val (ptr b1 (0+2+(gi)*36+(gj)*6)),.val (.agg (AF (T (gi) (gj))))] BT rfl O rfl J ⟨fun a w gG O hS hd=>by exact AA hS rfl (AB As O rfl),fun a w gG O hS hd=>by have O:=O.ext1 44 (hd 0 rfl rfl);have J:=hS.mem rfl;exact AA hS rfl (AK AR O rfl (J.row 0 rfl) (BP (by omega))),fun a w gG O hS hd=>by exact A8 hS rfl O rfl,fun a w gG O hS hd=>by exact A8 hS rfl O rfl,fun a w gG O hS hd=>by exact A8 hS rfl O rfl,fun a w gG O hS hd=>by exact AA hS rfl (AB Ay O rfl),fun a w gG O hS hd=>by have O:=O.ext1 47 (hd 3 rfl rfl);have O:=O.ext1 49 (hd 5 rfl rfl);exact AA hS rfl (AG BH O rfl rfl rfl (by omega)),fun a w gG O hS hd=>by have O:=O.ext1 48 (hd 4 rfl rfl);have O:=O.ext1 50 (hd 6 rfl rfl);exact AA hS rfl (AG BI O rfl rfl rfl (by omega)),fun a w gG O hS hd=>by have O:=O.ext1 51 (hd 7 rfl rfl);have J:=hS.mem rfl;exact AA hS rfl (AC Bv O rfl (J.row 0 rfl) (by simp only [AP]<;>omega) (Cs (gi) (gj) (by omega) (by omega) (by omega) (by omega))),trivial⟩ ?_;intro a w' L O hS hq;have O:=O.ext1 44 (hq 0 rfl rfl);have O:=O.ext1 45 (hq 1 rfl rfl);have O:=O.ext1 46 (hq 2 rfl rfl);have O:=O.ext1 47 (hq 3 rfl rfl);have O:=O.ext1 48 (hq 4 rfl rfl);have O:=O.ext1 49 (hq 5 rfl rfl);have O:=O.ext1 50 (hq 6 rfl rfl);have O:=O.ext1 51 (hq 7 rfl rfl);have O:=O.ext1 52 (hq 8 rfl rfl);have J:=hS.mem rfl;change wpList Try.prog _ _ [_,_] _ _;refine Ae O (AN Try.call165 O (.cons rfl (.cons rfl (.cons rfl .nil))) (Dh (p) (0) ((T (gi) (gj))) _ (fun _=>by first | exact hv _ | exact hu _ | exact hT _ _ _ | exact hf _ | omega | (split<;>omega) | (dsimp only;split<;>omega) | assumption))) rfl ?_;rintro _ w' a ⟨hx,rfl⟩ O;have J:=J.ext hx;refine st O (CR O rfl) rfl fun a O=>nt<|AO O rfl (fun h13=>?_) (fun h13=>?_)
        . refine sq ?_
          refine wp_region_lit<|ag O rfl rfl fun a O=>nt<|wp_ret<|iR<|tR<|tR<|iR<|iR<|tR<|tR<|iR<|tR<|Ax rfl O.defers (AM O rfl) ⟨_,rfl,J.below,?_⟩
          show _=_
          exact CT (fun hq=>absurd (hq.2.2.2 gi (by omega) gj (by omega)) (by unfold F8;first | (rw [if_pos (by omega)];first | assumption | exact Classical.byContradiction ‹_›) | (rw [if_neg (by omega)];first | assumption | exact Classical.byContradiction ‹_›)))
        refine wp_skip<|iN<|tN<|wp_region_lit<|mv O rfl rfl fun a O=>st O (Ad O rfl rfl (AS (gj) (1) (by omega))) rfl fun a O=>ag O rfl rfl fun a O=>nt<|⟨gj+1,⟨by omega,EL hJ (by unfold F8;first | (rw [if_pos (by omega)];first | assumption | exact Classical.byContradiction ‹_›) | (rw [if_neg (by omega)];first | assumption | exact Classical.byContradiction ‹_›)),O.sub _ (by repeat' constructor),?_⟩,by omega⟩;exact J
      refine wp_skip<|tN<|sq<|BA 9 [] [.val (ptr b1 (0+0)),.val (.int .i64 (p)),.val (.int .i64 (n)),.val (.int .i64 (gi:Int)),.val (.int .i64 (gj:Int)),.val (ptr b1 (0+2)),.val (ptr b1 (0+2+(gi)*36)),.val (ptr b1 (0+2+(gi)*36+(gj)*6)),.val (.agg (AF (T (gi) (gj))))] BT rfl O rfl J ⟨fun a w gG O hS hd=>by exact AA hS rfl (AB As O rfl),fun a w gG O hS hd=>by have O:=O.ext1 44 (hd 0 rfl rfl);have J:=hS.mem rfl;exact AA hS rfl (AK AR O rfl (J.row 0 rfl) (BP (by omega))),fun a w gG O hS hd=>by exact A8 hS rfl O rfl,fun a w gG O hS hd=>by exact A8 hS rfl O rfl,fun a w gG O hS hd=>by exact A8 hS rfl O rfl,fun a w gG O hS hd=>by exact AA hS rfl (AB Ay O rfl),fun a w gG O hS hd=>by have O:=O.ext1 47 (hd 3 rfl rfl);have O:=O.ext1 49 (hd 5 rfl rfl);exact AA hS rfl (AG BH O rfl rfl rfl (by omega)),fun a w gG O hS hd=>by have O:=O.ext1 48 (hd 4 rfl rfl);have O:=O.ext1 50 (hd 6 rfl rfl);exact AA hS rfl (AG BI O rfl rfl rfl (by omega)),fun a w gG O hS hd=>by have O:=O.ext1 51 (hd 7 rfl rfl);have J:=hS.mem rfl;exact AA hS rfl (AC Bv O rfl (J.row 0 rfl) (by simp only [AP]<;>omega) (Cs (gi) (gj) (by omega) (by omega) (by omega) (by omega))),trivial⟩ ?_;intro a w' L O hS hq;have O:=O.ext1 44 (hq 0 rfl rfl);have O:=O.ext1 45 (hq 1 rfl rfl);have O:=O.ext1 46 (hq 2 rfl rfl);have O:=O.ext1 47 (hq 3 rfl rfl);have O:=O.ext1 48 (hq 4 rfl rfl);have O:=O.ext1 49 (hq 5 rfl rfl);have O:=O.ext1 50 (hq 6 rfl rfl);have O:=O.ext1 51 (hq 7 rfl rfl);have O:=O.ext1 52 (hq 8 rfl rfl);have J:=hS.mem rfl;change wpList Try.prog _ _ [_,_] _ _;refine Ae O (AN Try.call165 O (.cons rfl (.cons rfl (.cons rfl .nil))) (Dh (p) (n) ((T (gi) (gj))) _ (fun _=>by first | exact hv _ | exact hu _ | exact hT _ _ _ | exact hf _ | omega | (split<;>omega) | (dsimp only;split<;>omega) | assumption))) rfl ?_;rintro _ w' a ⟨hx,rfl⟩ O;have J:=J.ext hx;refine st O (CR O rfl) rfl fun a O=>nt<|AO O rfl (fun h14=>?_) (fun h14=>?_)
      . refine sq ?_
        refine wp_region_lit<|ag O rfl rfl fun a O=>nt<|wp_ret<|iR<|tR<|tR<|iR<|iR<|tR<|tR<|iR<|tR<|Ax rfl O.defers (AM O rfl) ⟨_,rfl,J.below,?_⟩
        show _=_
        exact CT (fun hq=>absurd (hq.2.2.2 gi (by omega) gj (by omega)) (by unfold F8;first | (rw [if_pos (by omega)];first | assumption | exact Classical.byContradiction ‹_›) | (rw [if_neg (by omega)];first | assumption | exact Classical.byContradiction ‹_›)))
      refine wp_skip<|iN<|tN<|wp_region_lit<|mv O rfl rfl fun a O=>st O (Ad O rfl rfl (AS (gj) (1) (by omega))) rfl fun a O=>ag O rfl rfl fun a O=>nt<|⟨gj+1,⟨by omega,EL hJ (by unfold F8;first | (rw [if_pos (by omega)];first | assumption | exact Classical.byContradiction ‹_›) | (rw [if_neg (by omega)];first | assumption | exact Classical.byContradiction ‹_›)),O.sub _ (by repeat' constructor),?_⟩,by omega⟩;exact J
    obtain rfl:6=gj:=by omega
    refine wp_exit<|tX<|tX<|AY<|iN<|tN<|wp_region_lit<|mv O rfl rfl fun a O=>st O (Ad O rfl rfl (AS (gi) (1) (by omega))) rfl fun a O=>ag O rfl rfl fun a O=>nt<|⟨gi+1,⟨by omega,EL hH hJ,O.sub _ (by repeat' constructor),?_⟩,by omega⟩;exact J
  obtain rfl:6=gi:=by omega
  refine wp_exit<|tX<|tX<|AY<|tN<|sr<|ag O rfl rfl fun a O=>nt<|wp_ret<|Ax rfl O.defers (AM O rfl) ⟨_,rfl,J.below,?_⟩
  show _=_
  exact Gt ⟨by simp_all,by simp_all,by simp_all,hH⟩
def e1 (i:Nat):Nat->Nat:=fun c=>if c=i then 1 else 0
def OU (p n:Nat) (T:Nat->Nat->Nat->Nat) (i j k:Nat):Prop:=JV 6 (timesV p n T (T i j) (fun c=>if c=k then 1 else 0)) (timesV p n T (fun c=>if c=i then 1 else 0) (T j k))
instance (p n:Nat) (T:Nat->Nat->Nat->Nat) (i j k:Nat):Decidable (OU p n T i j k):=by unfold OU;infer_instance
def N3 (p n:Nat) (T:Nat->Nat->Nat->Nat) (j:Nat):Prop:=∀ i,i<n->∀ k,k<n->OU p n T i j k
instance (p n:Nat) (T:Nat->Nat->Nat->Nat) (j:Nat):Decidable (N3 p n T j):=by unfold N3;exact Nat.decidableBallLT n _
def cntA (p n:Nat) (T:Nat->Nat->Nat->Nat) (g:Nat):Nat:=sumTo (fun j=>if N3 p n T j then 1 else 0) g
theorem Mv {p n g:Nat}{T:Nat->Nat->Nat->Nat}(h:N3 p n T g):cntA p n T g+1=cntA p n T (g+1):=by simp [cntA,sumTo,h]
theorem Ni {p n g:Nat}{T:Nat->Nat->Nat->Nat}(i k:Nat)(hi:i<n)(hk:k<n)(h:¬ OU p n T i g k):cntA p n T g=cntA p n T (g+1):=by
  have:¬ N3 p n T g:=fun hq=>h (hq i hi k hk)
  simp [cntA,sumTo,this]
theorem Fc {q:Nat->Prop}[∀ j,Decidable (q j)]:∀ (m:Nat),sumTo (fun j=>if q j then 1 else 0) m<=m/\(sumTo (fun j=>if q j then 1 else 0) m=m↔∀ j,j<m->q j)
  | 0=>⟨Nat.le_refl _,by simp [sumTo]⟩
  | m + 1 => by
    have ih:=Fc (q:=q) m
    simp only [sumTo]
    by_cases h:q m
    . refine ⟨by simp [h];omega,⟨fun e j hj=>?_,fun ha=>?_⟩⟩
      . by_cases ej:j=m
        . subst ej;exact h
        . exact ih.2.1 (by simp [h] at e;omega) j (by omega)
      . have:=ih.2.2 (fun j hj=>ha j (by omega));simp [h];omega
    . refine ⟨by simp [h];omega,⟨fun e=>?_,fun ha=>absurd (ha m (by omega)) h⟩⟩
      simp [h] at e;omega
def OW (p n:Nat) (T:Nat->Nat->Nat->Nat):Prop:=∀ j,j<n->N3 p n T j
instance (p n:Nat) (T:Nat->Nat->Nat->Nat):Decidable (OW p n T):=Nat.decidableBallLT n _
theorem Nj {p n g:Nat}{T:Nat->Nat->Nat->Nat}:cntA p n T g<=g:=(Fc g).1
theorem Mw {p n:Nat}{T:Nat->Nat->Nat->Nat}:(cntA p n T n:Int)=(n:Int)↔OW p n T:=by
  have:=(Fc (q:=N3 p n T) n).2
  unfold cntA OW;rw [← this];omega
theorem Gm (p n:Nat)(T:Nat->Nat->Nat->Nat)(f:Nat->Nat)(w:World)(hp:0<p)(hO:p<100)(hn:n<=6)(hT:∀ i j k,T i j k<=255)(hf:∀ i,f i<=255) :
    CallsR Try.prog 93 #[.agg (AD (p:Int) (n:Int) T f)] w (fun res _=>res = .bool (decide (OW p n T))):=by
  refine AV [.agg (AD (p:Int) (n:Int) T f)] Try.func93 rfl Try.ntmps93 rfl fun a O=>?_;have J:AX w w [none,none,none] []:=MemX.start w 3;change Fr 56 a [(0,.agg (AD (p:Int) (n:Int) T f))] at O;refine sr<|Ae O (At 0 J O rfl) rfl ?_;rintro _ w' a ⟨b1,rfl,J,-⟩ O;change AX _ _ [some (b1,AD (p:Int) (n:Int) T f),_,_] [] at J;refine ag O rfl rfl fun a O=>nt<|wp_scope_straight<|sr<|ag O rfl rfl fun a O=>nt<|sq<|wp_label<|tN<|sq<|sr<|st O (AB AT O rfl) rfl fun a O=>st O (AK AR O rfl (J.row 0 rfl) (Ao (by omega))) rfl fun a O=>mv O rfl rfl fun a O=>nt<|wp_block ?_;change AX _ _ [_,_,_] [] at J;refine Af (fun (kk:Nat) a w'=>kk<=n/\(True)/\Fr 56 a [(1,ptr b1 (0)),(2,.bool (false)),(10,.int .i64 (n:Int)),(11,.int .i64 (kk:Int)),(3,.int .i64 ((cntA p n T kk:Int)))]/\AX w w' [some (b1,AD (p:Int) (n:Int) T f),none,none] []) (fun kk=>n - kk) 0 ?_ ?_
  . refine ⟨by omega,trivial,O.sub _ (by repeat' constructor),?_⟩
    exact J
  clear O J;rintro gj a w' ⟨hgj,hH,O,J⟩;have hca:=Nj (p:=p) (n:=n) (g:=gj) (T:=T);refine sr<|st O (Aj O rfl rfl) rfl fun a O=>nt<|sq<|AO O rfl (fun h2=>?_) (fun h2=>?_)
  . refine wp_skip ?_
    refine tN<|sq<|wp_block<|sr<|mv O rfl rfl fun a O=>ag O rfl rfl fun a O=>nt<|sq<|sr<|st O (AB AT O rfl) rfl fun a O=>st O (AK AR O rfl (J.row 0 rfl) (Ao (by omega))) rfl fun a O=>mv O rfl rfl fun a O=>nt<|wp_block ?_;change AX w _ [some (b1,AD (p:Int) (n:Int) T f),none,none] [] at J;refine Af (fun (kk:Nat) a w'=>kk<=n/\(∀ i,i<kk->∀ k,k<n->OU p n T i gj k)/\Fr 56 a [(1,ptr b1 (0)),(2,.bool (false)),(10,.int .i64 (n:Int)),(11,.int .i64 (gj:Int)),(3,.int .i64 ((cntA p n T gj:Int))),(12,.bool (decide (((gj:Int):Int)<(n:Int)))),(13,.int .i64 (gj:Int)),(4,.int .i64 (gj:Int)),(14,ptr b1 (0+1)),(15,.int .i64 (n:Int)),(16,.int .i64 (kk:Int))]/\AX w w' [some (b1,AD (p:Int) (n:Int) T f),none,none] []) (fun kk=>n - kk) 0 ?_ ?_
    . refine ⟨by omega,fun i hi=>absurd hi (by omega),O.sub _ (by repeat' constructor),?_⟩
      exact J
    clear O J;rintro gi a w' ⟨hgi,hJ,O,J⟩;refine sr<|st O (Aj O rfl rfl) rfl fun a O=>nt<|sq<|AO O rfl (fun h3=>?_) (fun h3=>?_)
    . refine wp_skip ?_
      refine tN<|sq<|wp_block<|sr<|mv O rfl rfl fun a O=>ag O rfl rfl fun a O=>ns<|st O (AB AT O rfl) rfl fun a O=>st O (AK AR O rfl (J.row 0 rfl) (Ao (by omega))) rfl fun a O=>mv O rfl rfl fun a O=>nt<|wp_block ?_;change AX w _ [some (b1,AD (p:Int) (n:Int) T f),none,none] [] at J;refine Af (fun (kk:Nat) a w'=>kk<=n/\(∀ k,k<kk->OU p n T gi gj k)/\Fr 56 a [(1,ptr b1 (0)),(2,.bool (false)),(10,.int .i64 (n:Int)),(11,.int .i64 (gj:Int)),(3,.int .i64 ((cntA p n T gj:Int))),(12,.bool (decide (((gj:Int):Int)<(n:Int)))),(13,.int .i64 (gj:Int)),(4,.int .i64 (gj:Int)),(14,ptr b1 (0+1)),(15,.int .i64 (n:Int)),(16,.int .i64 (gi:Int)),(17,.bool (decide (((gi:Int):Int)<(n:Int)))),(18,.int .i64 (gi:Int)),(5,.int .i64 (gi:Int)),(19,ptr b1 (0+1)),(20,.int .i64 (n:Int)),(21,.int .i64 (kk:Int))]/\AX w w' [some (b1,AD (p:Int) (n:Int) T f),none,none] []) (fun kk=>n - kk) 0 ?_ ?_
      . refine ⟨by omega,fun i hi=>absurd hi (by omega),O.sub _ (by repeat' constructor),?_⟩
        exact J
      clear O J;rintro gk a w' ⟨hgk,hZ,O,J⟩;refine sr<|st O (Aj O rfl rfl) rfl fun a O=>nt<|sq<|AO O rfl (fun h4=>?_) (fun h4=>?_)
      . refine wp_skip ?_
        refine tN<|sq<|wp_block<|sr<|mv O rfl rfl fun a O=>ag O rfl rfl fun a O=>nt<|sq<|BA 11 [1] [.val (.agg (AD (p:Int) (n:Int) T f)),.val (.int .i64 (gi:Int)),.val (.int .i64 (gj:Int)),.val (ptr b1 (0+2)),.val (ptr b1 (0+2+(gi)*36)),.val (ptr b1 (0+2+(gi)*36+(gj)*6)),.val (.agg (AF (T (gi) (gj)))),.val (.int .i64 (gk:Int)),.val (.agg (AF (fun c=>if c=gk then 1 else 0))),.val (.agg (AF (timesV p n T ((T (gi) (gj))) ((fun c=>if c=gk then 1 else 0))))),.own 1 (Al 6 (fun _=>.int .u8 (0))) (fun b=>ptr b 0)] BT rfl O rfl J ⟨fun a w gG O hS hd=>by have J:=hS.mem rfl;exact AA hS rfl (AC AJ O rfl (J.row 0 rfl) (by simp only [AP]<;>omega) (whole AE)),fun a w gG O hS hd=>by exact A8 hS rfl O rfl,fun a w gG O hS hd=>by exact A8 hS rfl O rfl,fun a w gG O hS hd=>by exact AA hS rfl (AB Ay O rfl),fun a w gG O hS hd=>by have O:=O.ext1 25 (hd 1 rfl rfl);have O:=O.ext1 27 (hd 3 rfl rfl);exact AA hS rfl (AG BH O rfl rfl rfl (by omega)),fun a w gG O hS hd=>by have O:=O.ext1 26 (hd 2 rfl rfl);have O:=O.ext1 28 (hd 4 rfl rfl);exact AA hS rfl (AG BI O rfl rfl rfl (by omega)),fun a w gG O hS hd=>by have O:=O.ext1 29 (hd 5 rfl rfl);have J:=hS.mem rfl;exact AA hS rfl (AC Bv O rfl (J.row 0 rfl) (by simp only [AP]<;>omega) (Cs (gi) (gj) (by omega) (by omega) (by omega) (by omega))),fun a w gG O hS hd=>by exact A8 hS rfl O rfl,fun a w gG O hS hd=>by have O:=O.ext1 31 (hd 7 rfl rfl);exact Av (by repeat constructor) hS rfl (AN Try.call142 O (.cons rfl .nil) (CU (gk) _ (by omega))),fun a w gG O hS hd=>by have O:=O.ext1 24 (hd 0 rfl rfl);have O:=O.ext1 30 (hd 6 rfl rfl);have O:=O.ext1 32 (hd 8 rfl rfl);exact Av (by repeat constructor) hS rfl (AN Try.call87 O (.cons rfl (.cons rfl (.cons rfl .nil))) (DT p n T f ((T (gi) (gj))) ((fun c=>if c=gk then 1 else 0)) _ (by omega) (by omega) (by omega) (fun _ _ _=>hT _ _ _) (fun _=>by first | exact hv _ | exact hu _ | exact hT _ _ _ | exact hf _ | omega | (split<;>omega) | (dsimp only;split<;>omega) | assumption) (fun _=>by first | exact hv _ | exact hu _ | exact hT _ _ _ | exact hf _ | omega | (split<;>omega) | (dsimp only;split<;>omega) | assumption))),fun a w gG O hS hd=>by exact DY (by repeat constructor) hS rfl rfl rfl rfl (Aa 1 hS.1 Am),trivial⟩ ?_;intro a w' L O hS hq;have O:=O.ext1 24 (hq 0 rfl rfl);have O:=O.ext1 25 (hq 1 rfl rfl);have O:=O.ext1 26 (hq 2 rfl rfl);have O:=O.ext1 27 (hq 3 rfl rfl);have O:=O.ext1 28 (hq 4 rfl rfl);have O:=O.ext1 29 (hq 5 rfl rfl);have O:=O.ext1 30 (hq 6 rfl rfl);have O:=O.ext1 31 (hq 7 rfl rfl);have O:=O.ext1 32 (hq 8 rfl rfl);have O:=O.ext1 33 (hq 9 rfl rfl);obtain ⟨J,hL⟩:=hS;obtain ⟨b5,hptr,hkk⟩:=hq 10 rfl rfl;have O:=O.ext1 7 hptr;have hL:=hL.take hkk;obtain rfl:=hL.eq;change AX w w' [some (b1,AD (p:Int) (n:Int) T f),some (b5,Al 6 (fun _=>.int .u8 (0))),none] [] at J;change wpList Try.prog _ _ [_] _ _;refine BF O (AL 1 J rfl Ai O rfl rfl Ac (by simp only [AP]) (by simp only [AP]<;>omega) (AI _ _ (by simp only [AP]))) ?_;intro _ w' a J O;change AX _ _ [_,some (b5,AF (timesV p n T ((T (gi) (gj))) ((fun c=>if c=gk then 1 else 0)))),_] [] at J;refine nt<|sq<|BA 11 [2] [.val (.agg (AD (p:Int) (n:Int) T f)),.val (.int .i64 (gi:Int)),.val (.agg (AF (fun c=>if c=gi then 1 else 0))),.val (.int .i64 (gj:Int)),.val (.int .i64 (gk:Int)),.val (ptr b1 (0+2)),.val (ptr b1 (0+2+(gj)*36)),.val (ptr b1 (0+2+(gj)*36+(gk)*6)),.val (.agg (AF (T (gj) (gk)))),.val (.agg (AF (timesV p n T ((fun c=>if c=gi then 1 else 0)) ((T (gj) (gk)))))),.own 2 (Al 6 (fun _=>.int .u8 (0))) (fun b=>ptr b 0)] BT rfl O rfl J ⟨fun a w gG O hS hd=>by have J:=hS.mem rfl;exact AA hS rfl (AC AJ O rfl (J.row 0 rfl) (by simp only [AP]<;>omega) (whole AE)),fun a w gG O hS hd=>by exact A8 hS rfl O rfl,fun a w gG O hS hd=>by have O:=O.ext1 35 (hd 1 rfl rfl);exact Av (by repeat constructor) hS rfl (AN Try.call142 O (.cons rfl .nil) (CU (gi) _ (by omega))),fun a w gG O hS hd=>by exact A8 hS rfl O rfl,fun a w gG O hS hd=>by exact A8 hS rfl O rfl,fun a w gG O hS hd=>by exact AA hS rfl (AB Ay O rfl),fun a w gG O hS hd=>by have O:=O.ext1 37 (hd 3 rfl rfl);have O:=O.ext1 39 (hd 5 rfl rfl);exact AA hS rfl (AG BH O rfl rfl rfl (by omega)),fun a w gG O hS hd=>by have O:=O.ext1 38 (hd 4 rfl rfl);have O:=O.ext1 40 (hd 6 rfl rfl);exact AA hS rfl (AG BI O rfl rfl rfl (by omega)),fun a w gG O hS hd=>by have O:=O.ext1 41 (hd 7 rfl rfl);have J:=hS.mem rfl;exact AA hS rfl (AC Bv O rfl (J.row 0 rfl) (by simp only [AP]<;>omega) (Cs (gj) (gk) (by omega) (by omega) (by omega) (by omega))),fun a w gG O hS hd=>by have O:=O.ext1 34 (hd 0 rfl rfl);have O:=O.ext1 36 (hd 2 rfl rfl);have O:=O.ext1 42 (hd 8 rfl rfl);exact Av (by repeat constructor) hS rfl (AN Try.call87 O (.cons rfl (.cons rfl (.cons rfl .nil))) (DT p n T f ((fun c=>if c=gi then 1 else 0)) ((T (gj) (gk))) _ (by omega) (by omega) (by omega) (fun _ _ _=>hT _ _ _) (fun _=>by first | exact hv _ | exact hu _ | exact hT _ _ _ | exact hf _ | omega | (split<;>omega) | (dsimp only;split<;>omega) | assumption) (fun _=>by first | exact hv _ | exact hu _ | exact hT _ _ _ | exact hf _ | omega | (split<;>omega) | (dsimp only;split<;>omega) | assumption))),fun a w gG O hS hd=>by exact DY (by repeat constructor) hS rfl rfl rfl rfl (Aa 2 hS.1 Am),trivial⟩ ?_
        intro a w' L O hS hq;have O:=O.ext1 34 (hq 0 rfl rfl);have O:=O.ext1 35 (hq 1 rfl rfl);have O:=O.ext1 36 (hq 2 rfl rfl);have O:=O.ext1 37 (hq 3 rfl rfl);have O:=O.ext1 38 (hq 4 rfl rfl);have O:=O.ext1 39 (hq 5 rfl rfl);have O:=O.ext1 40 (hq 6 rfl rfl);have O:=O.ext1 41 (hq 7 rfl rfl);have O:=O.ext1 42 (hq 8 rfl rfl);have O:=O.ext1 43 (hq 9 rfl rfl);obtain ⟨J,hL⟩:=hS;obtain ⟨b6,hptr,hkk⟩:=hq 10 rfl rfl;have O:=O.ext1 8 hptr;have hL:=hL.take hkk;obtain rfl:=hL.eq;change AX w w' [some (b1,AD (p:Int) (n:Int) T f),some (b5,AF (timesV p n T ((T (gi) (gj))) ((fun c=>if c=gk then 1 else 0)))),some (b6,Al 6 (fun _=>.int .u8 (0)))] [] at J;change wpList Try.prog _ _ [_] _ _;refine BF O (AL 2 J rfl Ai O rfl rfl Ac (by simp only [AP]) (by simp only [AP]<;>omega) (AI _ _ (by simp only [AP]))) ?_;intro _ w' a J O;change AX _ _ [_,_,some (b6,AF (timesV p n T ((fun c=>if c=gi then 1 else 0)) ((T (gj) (gk)))))] [] at J;refine ns<|st O (AC AU O rfl (J.row 1 rfl) (by simp only [AP]<;>omega) (whole (by simp only [AP]))) rfl fun a O=>st O (AC AU O rfl (J.row 2 rfl) (by simp only [AP]<;>omega) (whole (by simp only [AP]))) rfl fun a O=>st O (Gn Eu O rfl rfl (EA Ex EX AZ)) rfl fun a O=>nt<|AO O rfl (fun h7=>?_) (fun h7=>?_)
        . refine wp_exit ?_
          refine ER rfl<|tX<|tX<|ER rfl<|ER rfl<|tX<|tX<|ER rfl<|tX<|AY<|tN<|wp_region_lit<|st O (Ad O rfl rfl (AS (gj) (1) (by omega))) rfl fun a O=>mv O rfl rfl fun a O=>wpList_nil<|tN ?_;have J:=J.drop 1;have J:=J.drop 2;have ea:=Ni (p:=p) (n:=n) (g:=gj) (T:=T) gi gk (by omega) (by omega) (by assumption);rw [ea] at O;refine ⟨gj+1,⟨by omega,trivial,O.sub _ (by repeat' constructor),?_⟩,by omega⟩;exact J
        refine wp_skip<|iN<|tN<|wp_region_lit<|st O (Ad O rfl rfl (AS (gk) (1) (by omega))) rfl fun a O=>mv O rfl rfl fun a O=>wpList_nil<|tN ?_;have J:=J.drop 1;have J:=J.drop 2;refine ⟨gk+1,⟨by omega,EL hZ (Decidable.not_not.1 (by assumption)),O.sub _ (by repeat' constructor),?_⟩,by omega⟩;exact J
      obtain rfl:n=gk:=by omega
      refine wp_exit<|tX<|tX<|AY<|iN<|tN<|wp_region_lit<|st O (Ad O rfl rfl (AS (gi) (1) (by omega))) rfl fun a O=>mv O rfl rfl fun a O=>nt<|⟨gi+1,⟨by omega,EL hJ hZ,O.sub _ (by repeat' constructor),?_⟩,by omega⟩;exact J
    obtain rfl:n=gi:=by omega
    refine wp_exit<|tX<|tX<|AY<|tN<|wp_region_lit<|mv O rfl rfl fun a O=>st O (Ad O rfl rfl (show _=(cntA p n T (gj+1):Int) from (GP (x:=cntA p n T gj) (y:=1) (by omega) (Mv hJ)))) rfl fun a O=>ag O rfl rfl fun a O=>wpList_nil<|iN<|tN<|wp_region_lit<|st O (Ad O rfl rfl (AS (gj) (1) (by omega))) rfl fun a O=>mv O rfl rfl fun a O=>nt<|⟨gj+1,⟨by omega,trivial,O.sub _ (by repeat' constructor),?_⟩,by omega⟩;exact J
  obtain rfl:n=gj:=by omega
  refine wp_exit<|tX<|tX<|AY<|tN<|sr<|mv O rfl rfl fun a O=>st O (AB AT O rfl) rfl fun a O=>st O (AK AR O rfl (J.row 0 rfl) (Ao (by omega))) rfl fun a O=>st O (Bb O rfl rfl) rfl fun a O=>ag O rfl rfl fun a O=>nt<|wp_ret<|sR<|Ax rfl O.defers (AM O rfl) ⟨_,rfl,J.below,?_⟩
  show _=_
  exact congrArg Value.bool (decide_eq_decide.2 Mw)
theorem He (b o c m:Nat)(cs:Array Value)(f:Nat->Int)(w:World)(hb:Blk w b cs)(hg:∀ i,i<m->cs[o+i*1]? = some (.int .i64 (f i)))(hm:m<1000) :
    CallsR Try.prog 161 #[.slice (some ⟨b,o,none⟩) m c] w (fun res _=>res = .int .i64 (if leadN f m<m then (leadN f m:Int) else -1)):=by
  refine AV [.slice (some ⟨b,o,none⟩) m c] Try.func161 rfl Try.ntmps161 rfl fun a O=>?_;have J:AX w w [] [(b,cs)]:=MemX.startD w 0 _ (EZ hb);change Fr 16 a [(0,.slice (some ⟨b,o,none⟩) m c)] at O;refine sr<|ag O rfl rfl fun a O=>nt<|sq<|sr<|ag O rfl rfl fun a O=>nt<|wp_block ?_;change AX w _ [] [(b,cs)] at J;refine Af (fun (kk:Nat) a w'=>kk<=m/\(∀ i,i<kk->f i=0)/\Fr 16 a [(0,.slice (some ⟨b,o,none⟩) m c),(3,.int .i64 (kk:Int))]/\AX w w' [] [(b,cs)]) (fun kk=>m - kk) 0 ?_ ?_
  . refine ⟨by omega,fun i hi=>absurd hi (by omega),O.sub _ (by repeat' constructor),?_⟩
    exact J
  clear O J;rintro gk a w' ⟨hgk,hH,O,J⟩;refine sq<|sr<|mv O rfl rfl fun a O=>mv O rfl rfl fun a O=>st O (BV Ch O rfl) rfl fun a O=>st O (Aj O rfl rfl) rfl fun a O=>nt<|AO O rfl (fun h1=>?_) (fun h1=>?_)
  . refine wp_skip ?_
    refine tN<|sq<|wp_block<|sr<|mv O rfl rfl fun a O=>mv O rfl rfl fun a O=>st O (AQ (i:=gk) Bd O rfl rfl rfl (by omega)) rfl fun a O=>st O (AK AR O rfl (J.fz 0 rfl) (hg (gk) (by omega))) rfl fun a O=>st O (BY O rfl rfl) rfl fun a O=>nt<|AO O rfl (fun h2=>?_) (fun h2=>?_)
    . refine sq ?_
      refine wp_region_lit<|mv O rfl rfl fun a O=>ag O rfl rfl fun a O=>nt<|wp_ret<|iR<|tR<|tR<|iR<|tR<|Ax rfl O.defers (AM O rfl) ⟨_,rfl,J.below,?_⟩
      show _=_
      rw [Ed (by omega) hH (by omega),if_pos (by omega)]
    refine wp_skip<|iN<|tN<|wp_region_lit<|mv O rfl rfl fun a O=>st O (Ad O rfl rfl (AS (gk) (1) (by omega))) rfl fun a O=>ag O rfl rfl fun a O=>nt<|⟨gk+1,⟨by omega,EL hH (by omega),O.sub _ (by repeat' constructor),?_⟩,by omega⟩;exact J
  obtain rfl:m=gk:=by omega
  refine wp_exit<|tX<|tX<|AY<|tN<|sr<|ag O rfl rfl fun a O=>nt<|wp_ret<|Ax rfl O.defers (AM O rfl) ⟨_,rfl,J.below,?_⟩
  show _=_
  rw [Ff hH,if_neg (by omega)]
theorem B4 (b o c m:Nat)(cs:Array Value)(f:Nat->Nat)(w:World)(hb:Blk w b cs)(hg:∀ i,i<m->cs[o+i*1]? = some (.int .u8 ((f i:Int))))(hm:m<1000) :
    CallsR Try.prog 157 #[.slice (some ⟨b,o,none⟩) m c] w (fun res _=>res = .int .i64 (leadN (fun i=>(f i:Int)) m:Int)):=by
  refine AV [.slice (some ⟨b,o,none⟩) m c] Try.func157 rfl Try.ntmps157 rfl fun a O=>?_;have J:AX w w [] [(b,cs)]:=MemX.startD w 0 _ (EZ hb);change Fr 18 a [(0,.slice (some ⟨b,o,none⟩) m c)] at O;refine sr<|ag O rfl rfl fun a O=>nt<|sq<|sr<|mv O rfl rfl fun a O=>st O (BV Bu O rfl) rfl fun a O=>mv O rfl rfl fun a O=>nt<|wp_block ?_;change AX w _ [] [(b,cs)] at J;refine Af (fun (kk:Nat) a w'=>kk<=m/\(∀ i,i<kk->f i=0)/\Fr 18 a [(0,.slice (some ⟨b,o,none⟩) m c),(5,.slice (some ⟨b,o,none⟩) m c),(6,.int .i64 (m:Int)),(7,.int .i64 (kk:Int))]/\AX w w' [] [(b,cs)]) (fun kk=>m - kk) 0 ?_ ?_
  . refine ⟨by omega,fun i hi=>absurd hi (by omega),O.sub _ (by repeat' constructor),?_⟩
    exact J
  clear O J;rintro gk a w' ⟨hgk,hH,O,J⟩;refine sr<|st O (Aj O rfl rfl) rfl fun a O=>nt<|sq<|AO O rfl (fun h1=>?_) (fun h1=>?_)
  . refine wp_skip ?_
    refine tN<|sq<|wp_block<|sr<|mv O rfl rfl fun a O=>st O (AQ (i:=gk) BX O rfl rfl rfl (by omega)) rfl fun a O=>st O (AK AZ O rfl (J.fz 0 rfl) (hg (gk) (by omega))) rfl fun a O=>ag O rfl rfl fun a O=>ag O rfl rfl fun a O=>ns<|mv O rfl rfl fun a O=>st O (BY O rfl rfl) rfl fun a O=>nt<|AO O rfl (fun h2=>?_) (fun h2=>?_)
    . refine sq ?_
      refine wp_region_lit<|mv O rfl rfl fun a O=>ag O rfl rfl fun a O=>nt<|wp_ret<|iR<|tR<|tR<|iR<|tR<|Ax rfl O.defers (AM O rfl) ⟨_,rfl,J.below,?_⟩
      show _=_
      rw [Ed (k:=gk) (by omega) (fun i hi=>by have:=hH i hi;omega) (by omega)]
    refine wp_skip<|iN<|tN<|wp_region_lit<|st O (Ad O rfl rfl (AS (gk) (1) (by omega))) rfl fun a O=>mv O rfl rfl fun a O=>nt<|⟨gk+1,⟨by omega,EL hH (by omega),O.sub _ (by repeat' constructor),?_⟩,by omega⟩;exact J
  obtain rfl:m=gk:=by omega
  refine wp_exit<|tX<|tX<|AY<|tN<|sr<|mv O rfl rfl fun a O=>st O (BV Bu O rfl) rfl fun a O=>ag O rfl rfl fun a O=>nt<|wp_ret<|Ax rfl O.defers (AM O rfl) ⟨_,rfl,J.below,?_⟩
  show _=_
  rw [Ff (fun i hi=>by have:=hH i hi;omega)]
def Nr (p:Nat) (f h:Nat->Nat) (x i:Nat):Int:=((f i:Int) - (x:Int)*(h i:Int))%(p:Int)
theorem Eg (p b o c b2 o2 c2 m x:Nat)(cs cs2:Array Value)(f h:Nat->Nat)(w:World)(hp:0<p)(hO:p<100)(hb:Blk w b cs)(hb2:Blk w b2 cs2)(hg:∀ i,i<m->cs[o+i*1]? = some (.int .i64 (f i:Int)))(hg2:∀ i,i<m->cs2[o2+i*1]? = some (.int .i64 (h i:Int)))(hm:0<m)(hm2:m<1000)(hf:∀ i,f i<p)(hh:∀ i,h i<p)(hx:x<p) :
    CallsR Try.prog 172 #[.int .i64 (p:Int),.slice (some ⟨b,o,none⟩) m c,.slice (some ⟨b2,o2,none⟩) m c2,.int .i64 (x:Int)] w (OwnSl 1 w m (fun i=>.int .i64 (Nr p f h x i))):=by
  refine AV [.int .i64 (p:Int),.slice (some ⟨b,o,none⟩) m c,.slice (some ⟨b2,o2,none⟩) m c2,.int .i64 (x:Int)] Try.func172 rfl Try.ntmps172 rfl fun a O=>?_;have J:AX w w [none,none] [(b,cs),(b2,cs2)]:=MemX.startD w 2 _ (Is hb hb2);change Fr 35 a [(0,.int .i64 (p:Int)),(1,.slice (some ⟨b,o,none⟩) m c),(2,.slice (some ⟨b2,o2,none⟩) m c2),(3,.int .i64 (x:Int))] at O;refine sr<|ag O rfl rfl fun a O=>ns<|Ae O (Aq 0 J O rfl DO) rfl ?_;rintro _ w' a ⟨b1,rfl,J,-⟩ O;refine ag O rfl rfl fun a O=>nt<|sq<|sr<|ag O rfl rfl fun a O=>nt<|wp_block ?_;change AX _ _ [some (b1,#[]),_] _ at J;refine Af (fun (kk:Nat) a w'=>kk<=m/\(True)/\∃ (u9_1:Value) (e9_1:Option (Nat×Array Value)),Sl 1 u9_1 e9_1 (kk) (fun i=>.int .i64 (Nr p f h x i))/\Fr 35 a [(0,.int .i64 (p:Int)),(1,.slice (some ⟨b,o,none⟩) m c),(2,.slice (some ⟨b2,o2,none⟩) m c2),(3,.int .i64 (x:Int)),(8,.slice none 0 0),(10,.int .i64 (kk:Int)),(9,u9_1)]/\AX w w' [e9_1,none] [(b,cs),(b2,cs2)]) (fun kk=>m - kk) 0 ?_ ?_
  . refine ⟨by omega,trivial,(.slice (some ⟨b1,0,none⟩) 0 0),(some (b1,#[])),Sl.empty _ _ _,O.sub _ (by repeat' constructor),?_⟩
    exact J
  clear O J;rintro gk a w' ⟨hgk,hH,u9_1,e9_1,hsl,O,J⟩;have hfk:=hf gk;have hhk:=hh gk;have hxh:x*h gk<=100*100:=Nat.mul_le_mul (by omega) (by omega);refine sq<|sr<|mv O rfl rfl fun a O=>mv O rfl rfl fun a O=>st O (BV Ch O rfl) rfl fun a O=>st O (Aj O rfl rfl) rfl fun a O=>nt<|AO O rfl (fun h2=>?_) (fun h2=>?_)
  . refine wp_skip ?_
    refine tN<|sq<|wp_block<|BA 15 [1] [.val (u9_1),.val (.int .i64 (p:Int)),.val (.slice (some ⟨b,o,none⟩) m c),.val (.int .i64 (gk:Int)),.val (ptr b (o+(gk)*1)),.val (.int .i64 ((f (gk):Int))),.val (.int .i64 (x:Int)),.val (.slice (some ⟨b2,o2,none⟩) m c2),.val (.int .i64 (gk:Int)),.val (ptr b2 (o2+(gk)*1)),.val (.int .i64 ((h (gk):Int))),.val (.int .i64 ((((x)*(h (gk)):Nat):Int))),.val (.int .i64 ((f (gk):Int) - (((x)*(h (gk)):Nat):Int))),.val (.int .i64 (((f (gk):Int) - (((x)*(h (gk)):Nat):Int))%(p:Int))),.own 1 (#[.int .i64 (((f (gk):Int) - (((x)*(h (gk)):Nat):Int))%(p:Int))]) (fun b=>.slice (some ⟨b,0,none⟩) 1 1)] BT rfl O rfl J ⟨fun a w gG O hS hd=>by exact A8 hS rfl O rfl,fun a w gG O hS hd=>by exact A8 hS rfl O rfl,fun a w gG O hS hd=>by exact A8 hS rfl O rfl,fun a w gG O hS hd=>by exact A8 hS rfl O rfl,fun a w gG O hS hd=>by have O:=O.ext1 20 (hd 2 rfl rfl);have O:=O.ext1 21 (hd 3 rfl rfl);exact AA hS rfl (AQ (i:=gk) Bd O rfl rfl rfl (by omega)),fun a w gG O hS hd=>by have O:=O.ext1 22 (hd 4 rfl rfl);have J:=hS.mem rfl;exact AA hS rfl (AK AR O rfl (J.fz 0 rfl) (hg (gk) (by omega))),fun a w gG O hS hd=>by exact A8 hS rfl O rfl,fun a w gG O hS hd=>by exact A8 hS rfl O rfl,fun a w gG O hS hd=>by exact A8 hS rfl O rfl,fun a w gG O hS hd=>by have O:=O.ext1 25 (hd 7 rfl rfl);have O:=O.ext1 26 (hd 8 rfl rfl);exact AA hS rfl (AQ (i:=gk) Bd O rfl rfl rfl (by omega)),fun a w gG O hS hd=>by have O:=O.ext1 27 (hd 9 rfl rfl);have J:=hS.mem rfl;exact AA hS rfl (AK AR O rfl (J.fz 1 rfl) (hg2 (gk) (by omega))),fun a w gG O hS hd=>by have O:=O.ext1 24 (hd 6 rfl rfl);have O:=O.ext1 28 (hd 10 rfl rfl);exact AA hS rfl (B0 O rfl rfl (Bh x (h gk) (by omega))),fun a w gG O hS hd=>by have O:=O.ext1 23 (hd 5 rfl rfl);have O:=O.ext1 29 (hd 11 rfl rfl);exact AA hS rfl (E4 O rfl rfl (wrap_i64 (by omega) (by omega))),fun a w gG O hS hd=>by have O:=O.ext1 19 (hd 1 rfl rfl);have O:=O.ext1 30 (hd 12 rfl rfl);exact Av (by repeat constructor) hS rfl (AN Try.call153 O (.cons rfl (.cons rfl .nil)) (Dr ((f (gk):Int) - (((x)*(h (gk)):Nat):Int)) (p) _ (by omega) (by omega) (by omega) (by omega))),fun a w gG O hS hd=>by have O:=O.ext1 31 (hd 13 rfl rfl);exact DY (by repeat constructor) hS rfl rfl rfl rfl (Aq 1 hS.1 O (Bl O rfl) (CJ _)),trivial⟩ ?_;intro a w' L O hS hq;have O:=O.ext1 18 (hq 0 rfl rfl);have O:=O.ext1 19 (hq 1 rfl rfl);have O:=O.ext1 20 (hq 2 rfl rfl);have O:=O.ext1 21 (hq 3 rfl rfl);have O:=O.ext1 22 (hq 4 rfl rfl);have O:=O.ext1 23 (hq 5 rfl rfl);have O:=O.ext1 24 (hq 6 rfl rfl);have O:=O.ext1 25 (hq 7 rfl rfl);have O:=O.ext1 26 (hq 8 rfl rfl);have O:=O.ext1 27 (hq 9 rfl rfl);have O:=O.ext1 28 (hq 10 rfl rfl);have O:=O.ext1 29 (hq 11 rfl rfl);have O:=O.ext1 30 (hq 12 rfl rfl);have O:=O.ext1 31 (hq 13 rfl rfl);obtain ⟨J,hL⟩:=hS;obtain ⟨b3,hptr,hkk⟩:=hq 14 rfl rfl;have O:=O.ext1 32 hptr;have hL:=hL.take hkk;obtain rfl:=hL.eq;change AX w w' [e9_1,some (b3,#[.int .i64 (((f (gk):Int) - (((x)*(h (gk)):Nat):Int))%(p:Int))])] [(b,cs),(b2,cs2)] at J;change wpList Try.prog _ _ [_,_] _ _;refine Ae O (BN (k:=0) (m:=1) (g:=fun _=>.int .i64 (((f (gk):Int) - (((x)*(h (gk)):Nat):Int))%(p:Int))) CF rfl (by decide) J rfl O rfl rfl hsl (fun i hi=>by rw [show i=0 by omega];exact (J.row 1 rfl).cell 0) (fun _ _=>rfl) (by decide) (by unfold maxLen;omega) (by omega)) rfl ?_;rintro u4 w' a ⟨e5,J,hs6⟩ O;change AX w w' [e5,some (b3,#[.int .i64 (((f (gk):Int) - (((x)*(h (gk)):Nat):Int))%(p:Int))])] [(b,cs),(b2,cs2)] at J
    refine ag O rfl rfl fun a O=>wpList_nil<|iN<|tN<|wp_region_lit<|mv O rfl rfl fun a O=>st O (Ad O rfl rfl (AS (gk) (1) (by omega))) rfl fun a O=>ag O rfl rfl fun a O=>wpList_nil<|tN ?_;have J:=J.drop 1;refine ⟨gk+1,⟨by omega,trivial,(u4),(e5),hs6.snoc rfl,O.sub _ (by repeat' constructor),?_⟩,by omega⟩;exact J
  obtain rfl:m=gk:=by omega
  refine wp_exit<|tX<|tX<|AY<|tN<|sr<|mv O rfl rfl fun a O=>ag O rfl rfl fun a O=>nt<|wp_ret<|Ax rfl O.defers (AM O rfl) ⟨_,rfl,J.below,?_⟩;exact OwnSl.pos J (k:=0) rfl hsl hm
def addN (p:Nat) (f h:Nat->Nat) (x:Int) (i:Nat):Nat:=(((f i:Int)+x*(h i:Int))%(p:Int)).toNat
theorem GQ {p:Nat}{f h:Nat->Nat}{x:Int}{i:Nat}(hp:0<p):(addN p f h x i:Int)=((f i:Int)+x*(h i:Int))%(p:Int):=
  Int.toNat_of_nonneg (Int.emod_nonneg _ (by omega))
theorem NR {x:Int}{y:Nat}(h1:-100<x)(h2:x<100)(hy:y<=255):-25500<=x*(y:Int)/\x*(y:Int)<=25500:=by
  have a1:=Int.mul_le_mul_of_nonneg_right (show x<=99 by omega) (Int.natCast_nonneg y);have a2:=Int.mul_le_mul_of_nonneg_right (show -99<=x by omega) (Int.natCast_nonneg y)
  omega
theorem getRow {m gk:Nat}{F G:Nat->Nat}(i:Nat)(hi:gk<=i/\i<m):(Al m (fun c=>.int .u8 ((if c<gk then G c else F c:Nat):Int)))[0+i*1]? = some (.int .u8 (F i:Int)):=
  CS i (by omega) hi.2 (by rw [if_neg (by omega)])
theorem H1 (p b c m:Nat)(f:Nat->Nat)(x:Int)(w:World)(hp:0<p)(hO:p<100)(hx:-100<x)(hx2:x<100)(hm:m<1000)(hf:∀ i,f i<=255)(hb:Blk w b (Al m (fun c=>.int .u8 (f c:Int)))) :
    CallsX Try.prog [b] 103 #[.slice (some ⟨b,0,none⟩) m c,.slice (some ⟨b,0,none⟩) m c,.int .i64 (x),.int .i64 (p:Int)] w (fun v w'=>v = .tuple #[]/\Blk w' b (Al m (fun c=>.int .u8 (addN p f f x c:Int)))):=by
  refine Bk [.slice (some ⟨b,0,none⟩) m c,.slice (some ⟨b,0,none⟩) m c,.int .i64 (x),.int .i64 (p:Int)] Try.func103 rfl Try.ntmps103 rfl fun a O=>?_;have J:MemX [b] w w [some (b,Al m (fun c=>.int .u8 (f c:Int)))] []:=MemX.startX1 0 hb;change Fr 33 a [(0,.slice (some ⟨b,0,none⟩) m c),(1,.slice (some ⟨b,0,none⟩) m c),(2,.int .i64 (x)),(3,.int .i64 (p:Int))] at O;refine sr<|mv O rfl rfl fun a O=>st O (BV Bu O rfl) rfl fun a O=>mv O rfl rfl fun a O=>nt<|wp_block ?_;change MemX [b] w _ [some (b,Al m (fun c=>.int .u8 (f c:Int)))] [] at J;refine Af (fun (kk:Nat) a w'=>kk<=m/\(True)/\Fr 33 a [(0,.slice (some ⟨b,0,none⟩) m c),(2,.int .i64 (x)),(3,.int .i64 (p:Int)),(10,.slice (some ⟨b,0,none⟩) m c),(11,.int .i64 (m:Int)),(12,.int .i64 (kk:Int))]/\MemX [b] w w' [some (b,Al m (fun c=>.int .u8 ((if c<kk then addN p f f x c else f c:Nat):Int)))] []) (fun kk=>m - kk) 0 ?_ ?_
  . refine ⟨by omega,trivial,O.sub _ (by repeat' constructor),?_⟩
    exact J.cast (by simp)
  clear O J;rintro gk a w' ⟨hgk,hH,O,J⟩;have hfk:=hf gk;have hhk:=hf gk;have hxh:=NR hx hx2 (hf gk);refine sr<|st O (Aj O rfl rfl) rfl fun a O=>nt<|sq<|AO O rfl (fun h1=>?_) (fun h1=>?_)
  . refine wp_skip ?_
    refine tN<|sq<|wp_block<|sr<|mv O rfl rfl fun a O=>st O (AQ (i:=gk) BX O rfl rfl rfl (by omega)) rfl fun a O=>st O (AK AZ O rfl (J.row 0 rfl) (getRow (gk) (by omega))) rfl fun a O=>ag O rfl rfl fun a O=>ag O rfl rfl fun a O=>nt<|wp_region_lit<|mv O rfl rfl fun a O=>mv O rfl rfl fun a O=>mv O rfl rfl fun a O=>mv O rfl rfl fun a O=>st O (AQ (i:=gk) BX O rfl rfl rfl (by omega)) rfl fun a O=>st O (AK AZ O rfl (J.row 0 rfl) (getRow (gk) (by omega))) rfl fun a O=>st O (Aw A1 A6 O rfl (wrap_i64 (by omega) (by omega))) rfl fun a O=>mv O rfl rfl fun a O=>mv O rfl rfl fun a O=>st O (Aw A1 A6 O rfl (wrap_i64 (by omega) (by omega))) rfl fun a O=>st O (B0 O rfl rfl (wrap_i64 (by omega) (by omega))) rfl fun a O=>st O (Ad O rfl rfl (wrap_i64 (by omega) (by omega))) rfl fun a O=>mv O rfl rfl fun a O=>Ae O (AN Try.call115 O (.cons rfl (.cons rfl .nil)) (Dx ((f (gk):Int)+(x)*((f (gk):Int))) (p) _ (by omega) (by omega) (by omega) (by omega))) rfl ?_;rintro _ w' a ⟨hx,rfl⟩ O;have J:=J.ext hx;refine st O (AQ (i:=gk) BX O rfl rfl rfl (by omega)) rfl fun a O=>BF O (Ak 0 J rfl AZ O rfl rfl rfl (by first | omega | (simp only [AP]<;>omega) | (simp only [Array.size_setIfInBounds];omega) | simp)) ?_;intro _ w' a J O;rw [show (Al m (fun c=>.int .u8 ((if c<gk then addN p f f x c else f c:Nat):Int))).setIfInBounds (0+(gk)*1) (.int .u8 (((f (gk):Int)+(x)*((f (gk):Int)))%(p:Int)))=Al m (fun c=>if c=gk then .int .u8 (((f (gk):Int)+(x)*((f (gk):Int)))%(p:Int)) else .int .u8 ((if c<gk then addN p f f x c else f c:Nat):Int)) from Bc (fun c _=>by rw [show 0+(gk)*1=gk by omega])] at J;change MemX _ _ _ [_] [] at J;refine wpList_nil<|iN<|tN<|wp_region_lit<|st O (Ad O rfl rfl (AS (gk) (1) (by omega))) rfl fun a O=>mv O rfl rfl fun a O=>nt<|⟨gk+1,⟨by omega,trivial,O.sub _ (by repeat' constructor),?_⟩,by omega⟩;refine J.rowc 0 rfl (Az fun c hc=>?_)
    by_cases e1:c=gk
    . subst e1;rw [if_pos rfl,if_pos (by omega)];exact congrArg (Value.int .u8) (GQ hp).symm
    . have e0:(c<gk+1)=(c<gk):=by apply propext;omega
      simp [e0,e1]
  obtain rfl:m=gk:=by omega
  refine wp_exit<|tX<|tX<|AY<|LP rfl O.defers ⟨_,rfl,J.bel,?_⟩;exact ⟨rfl,(J.rowc (cs':=Al m (fun c=>.int .u8 (addN p f f x c:Int))) 0 rfl (Az fun c hc=>by simp [hc])).row 0 rfl⟩
theorem Ie (p b c b2 o2 c2 m:Nat)(cs2:Array Value)(f h:Nat->Nat)(x:Int)(w:World)(hp:0<p)(hO:p<100)(hx:-100<x)(hx2:x<100)(hm:m<1000)(hf:∀ i,f i<=255)(hb:Blk w b (Al m (fun c=>.int .u8 (f c:Int))))(hh:∀ i,h i<=255)(hne:b2≠b)(hb2:Blk w b2 cs2)(hg2:∀ i,i<m->cs2[o2+i*1]? = some (.int .u8 (h i:Int))) :
    CallsX Try.prog [b] 103 #[.slice (some ⟨b,0,none⟩) m c,.slice (some ⟨b2,o2,none⟩) m c2,.int .i64 (x),.int .i64 (p:Int)] w (fun v w'=>v = .tuple #[]/\Blk w' b (Al m (fun c=>.int .u8 (addN p f h x c:Int)))):=by
  refine Bk [.slice (some ⟨b,0,none⟩) m c,.slice (some ⟨b2,o2,none⟩) m c2,.int .i64 (x),.int .i64 (p:Int)] Try.func103 rfl Try.ntmps103 rfl fun a O=>?_;have J:MemX [b] w w [some (b,Al m (fun c=>.int .u8 (f c:Int)))] [(b2,cs2)]:=MemX.startX1D 0 hb (Jj hb2 hne);change Fr 33 a [(0,.slice (some ⟨b,0,none⟩) m c),(1,.slice (some ⟨b2,o2,none⟩) m c2),(2,.int .i64 (x)),(3,.int .i64 (p:Int))] at O;refine sr<|mv O rfl rfl fun a O=>st O (BV Bu O rfl) rfl fun a O=>mv O rfl rfl fun a O=>nt<|wp_block ?_;change MemX [b] w _ [some (b,Al m (fun c=>.int .u8 (f c:Int)))] [(b2,cs2)] at J;refine Af (fun (kk:Nat) a w'=>kk<=m/\(True)/\Fr 33 a [(0,.slice (some ⟨b,0,none⟩) m c),(2,.int .i64 (x)),(3,.int .i64 (p:Int)),(10,.slice (some ⟨b2,o2,none⟩) m c2),(11,.int .i64 (m:Int)),(12,.int .i64 (kk:Int))]/\MemX [b] w w' [some (b,Al m (fun c=>.int .u8 ((if c<kk then addN p f h x c else f c:Nat):Int)))] [(b2,cs2)]) (fun kk=>m - kk) 0 ?_ ?_
  . refine ⟨by omega,trivial,O.sub _ (by repeat' constructor),?_⟩
    exact J.cast (by simp)
  clear O J;rintro gk a w' ⟨hgk,hH,O,J⟩;have hfk:=hf gk;have hhk:=hh gk;have hxh:=NR hx hx2 (hh gk);refine sr<|st O (Aj O rfl rfl) rfl fun a O=>nt<|sq<|AO O rfl (fun h1=>?_) (fun h1=>?_)
  . refine wp_skip ?_
    refine tN<|sq<|wp_block<|sr<|mv O rfl rfl fun a O=>st O (AQ (i:=gk) BX O rfl rfl rfl (by omega)) rfl fun a O=>st O (AK AZ O rfl (J.fz 0 rfl) (hg2 (gk) (by omega))) rfl fun a O=>ag O rfl rfl fun a O=>ag O rfl rfl fun a O=>nt<|wp_region_lit<|mv O rfl rfl fun a O=>mv O rfl rfl fun a O=>mv O rfl rfl fun a O=>mv O rfl rfl fun a O=>st O (AQ (i:=gk) BX O rfl rfl rfl (by omega)) rfl fun a O=>st O (AK AZ O rfl (J.row 0 rfl) (getRow (gk) (by omega))) rfl fun a O=>st O (Aw A1 A6 O rfl (wrap_i64 (by omega) (by omega))) rfl fun a O=>mv O rfl rfl fun a O=>mv O rfl rfl fun a O=>st O (Aw A1 A6 O rfl (wrap_i64 (by omega) (by omega))) rfl fun a O=>st O (B0 O rfl rfl (wrap_i64 (by omega) (by omega))) rfl fun a O=>st O (Ad O rfl rfl (wrap_i64 (by omega) (by omega))) rfl fun a O=>mv O rfl rfl fun a O=>Ae O (AN Try.call115 O (.cons rfl (.cons rfl .nil)) (Dx ((f (gk):Int)+(x)*((h (gk):Int))) (p) _ (by omega) (by omega) (by omega) (by omega))) rfl ?_;rintro _ w' a ⟨hx,rfl⟩ O;have J:=J.ext hx;refine st O (AQ (i:=gk) BX O rfl rfl rfl (by omega)) rfl fun a O=>BF O (Ak 0 J rfl AZ O rfl rfl rfl (by first | omega | (simp only [AP]<;>omega) | (simp only [Array.size_setIfInBounds];omega) | simp)) ?_;intro _ w' a J O;rw [show (Al m (fun c=>.int .u8 ((if c<gk then addN p f h x c else f c:Nat):Int))).setIfInBounds (0+(gk)*1) (.int .u8 (((f (gk):Int)+(x)*((h (gk):Int)))%(p:Int)))=Al m (fun c=>if c=gk then .int .u8 (((f (gk):Int)+(x)*((h (gk):Int)))%(p:Int)) else .int .u8 ((if c<gk then addN p f h x c else f c:Nat):Int)) from Bc (fun c _=>by rw [show 0+(gk)*1=gk by omega])] at J;change MemX _ _ _ [_] _ at J;refine wpList_nil<|iN<|tN<|wp_region_lit<|st O (Ad O rfl rfl (AS (gk) (1) (by omega))) rfl fun a O=>mv O rfl rfl fun a O=>nt<|⟨gk+1,⟨by omega,trivial,O.sub _ (by repeat' constructor),?_⟩,by omega⟩;refine J.rowc 0 rfl (Az fun c hc=>?_)
    by_cases e1:c=gk
    . subst e1;rw [if_pos rfl,if_pos (by omega)];exact congrArg (Value.int .u8) (GQ hp).symm
    . have e0:(c<gk+1)=(c<gk):=by apply propext;omega
      simp [e0,e1]
  obtain rfl:m=gk:=by omega
  refine wp_exit<|tX<|tX<|AY<|LP rfl O.defers ⟨_,rfl,J.bel,?_⟩;exact ⟨rfl,(J.rowc (cs':=Al m (fun c=>.int .u8 (addN p f h x c:Int))) 0 rfl (Az fun c hc=>by simp [hc])).row 0 rfl⟩
theorem Lv (b o c m:Nat)(cs:Array Value)(f:Nat->Int)(w:World)(hb:Blk w b cs)(hg:∀ i,i<m->cs[o+i*1]? = some (.int .i64 (f i)))(hm0:0<m)(hm:m<1000) :
    CallsR Try.prog 171 #[.slice (some ⟨b,o,none⟩) m c] w (OwnSl 1 w m (fun i=>.int .i64 (f i))):=by
  refine AV [.slice (some ⟨b,o,none⟩) m c] Try.func171 rfl Try.ntmps171 rfl fun a O=>?_;have J:AX w w [none] [(b,cs)]:=MemX.startD w 1 _ (EZ hb);change Fr 6 a [(0,.slice (some ⟨b,o,none⟩) m c)] at O;refine sr<|ag O rfl rfl fun a O=>ns<|Ae O (Aq 0 J O rfl DO) rfl ?_;rintro _ w' a ⟨b1,rfl,J,-⟩ O;change AX _ _ [some (b1,#[])] _ at J;refine mv O rfl rfl fun a O=>Ae O (BN (k:=0) (N:=0) (m:=m) (f:=fun i=>.int .i64 (f (i))) (g:=fun i=>.int .i64 (f (i))) CF rfl (by decide) J rfl O rfl rfl (Sl.empty 1 _ _) (fun i hi=>((J.fz 0 rfl).cell _).trans (by have:=hg i (by omega);rwa [show o+i*1=o+i by omega] at this)) (fun _ _=>rfl) (by omega) (by unfold maxLen;omega) (by omega)) rfl ?_;rintro u2 w' a ⟨e3,J,hs4⟩ O;change AX w w' [e3] [(b,cs)] at J;refine ag O rfl rfl fun a O=>nt<|wp_ret<|Ax rfl O.defers (AM O rfl) ⟨_,rfl,J.below,?_⟩;exact OwnSl.pos J (k:=0) rfl (by have:=hs4.congr (g:=fun i=>.int .i64 (f i)) (fun i hi=>by simp);simpa using this) hm0
def Ph (M N:Nat->Nat->Nat):Prop:=∀ j,j<6->JV 6 (M j) (N j)
instance (M N:Nat->Nat->Nat):Decidable (Ph M N):=Nat.decidableBallLT 6 _
def QI (T U:Nat->Nat->Nat->Nat):Prop:=∀ i,i<6->Ph (T i) (U i)
instance (T U:Nat->Nat->Nat->Nat):Decidable (QI T U):=Nat.decidableBallLT 6 _
def EM (p:Nat) (v u:Nat->Nat) (x i:Nat):Nat:=(v i+x*u i)%p
theorem Gl (p:Nat)(v u:Nat->Nat)(x:Nat)(w:World)(hp:0<p)(hO:p<100)(hx:x<100)(hv:∀ i,v i<=255)(hu:∀ i,u i<=255) :
    CallsR Try.prog 104 #[.int .i64 (p:Int),.agg (AF v),.agg (AF u),.int .i64 (x:Int)] w (fun res _=>res = .agg (AF (EM p v u x))):=by
  refine AV [.int .i64 (p:Int),.agg (AF v),.agg (AF u),.int .i64 (x:Int)] Try.func104 rfl Try.ntmps104 rfl fun a O=>?_;have J:AX w w [none,none,none] []:=MemX.start w 3;change Fr 31 a [(0,.int .i64 (p:Int)),(1,.agg (AF v)),(2,.agg (AF u)),(3,.int .i64 (x:Int))] at O;refine sr<|Ae O (At 0 J O rfl) rfl ?_;rintro _ w' a ⟨b1,rfl,J,-⟩ O;refine Ae O (At 1 J O rfl) rfl ?_;rintro _ w' a ⟨b2,rfl,J,-⟩ O;refine Ae O (Aa 2 J Am) rfl ?_;rintro _ w' a ⟨b3,rfl,J,-⟩ O;refine nt<|sq<|sr<|ag O rfl rfl fun a O=>nt<|wp_block ?_;change AX _ _ [some (b1,AF v),some (b2,AF u),some (b3,Al 6 (fun _=>.int .u8 (0)))] [] at J;refine Af (fun (kk:Nat) a w'=>kk<=6/\(True)/\Fr 31 a [(0,.int .i64 (p:Int)),(3,.int .i64 (x:Int)),(5,ptr b1 (0)),(6,ptr b2 (0)),(8,ptr b3 (0)),(9,.int .i64 (kk:Int))]/\AX w w' [some (b1,Al 6 (fun c=>.int .u8 ((if c<kk then EM p v u x c else v c:Nat):Int))),some (b2,AF u),some (b3,Al 6 (fun _=>.int .u8 (0)))] []) (fun kk=>6 - kk) 0 ?_ ?_
  . refine ⟨by omega,trivial,O.sub _ (by repeat' constructor),?_⟩
    refine J.rowc 0 rfl (Az fun c hc=>by simp)
  clear O J;rintro gk a w' ⟨hgk,hH,O,J⟩;have hvk:=hv gk;have huk:=hu gk;have hxu:x*u gk<=100*255:=Nat.mul_le_mul (by omega) huk;refine sq<|sr<|mv O rfl rfl fun a O=>st O (Aj O rfl rfl) rfl fun a O=>nt<|AO O rfl (fun h4=>?_) (fun h4=>?_)
  . refine wp_skip ?_
    refine tN<|sq<|wp_block<|BA 15 [] [.val (.int .i64 (gk:Int)),.val (.int .i64 (p:Int)),.val (.int .i64 (gk:Int)),.val (ptr b1 (0+(gk)*1)),.val (.int .u8 ((v (gk):Int))),.val (.int .i64 ((v (gk):Int))),.val (.int .i64 (x:Int)),.val (.int .i64 (gk:Int)),.val (ptr b2 (0+(gk)*1)),.val (.int .u8 ((u (gk):Int))),.val (.int .i64 ((u (gk):Int))),.val (.int .i64 ((((x)*(u (gk)):Nat):Int))),.val (.int .i64 (((v (gk)+(x)*(u (gk)):Nat):Int))),.val (.int .i64 ((((v (gk)+(x)*(u (gk)))%(p):Nat):Int))),.val (.int .u8 ((((v (gk)+(x)*(u (gk)))%(p):Nat):Int)))] BT rfl O rfl J ⟨fun a w gG O hS hd=>by exact A8 hS rfl O rfl,fun a w gG O hS hd=>by exact A8 hS rfl O rfl,fun a w gG O hS hd=>by exact A8 hS rfl O rfl,fun a w gG O hS hd=>by have O:=O.ext1 16 (hd 2 rfl rfl);exact AA hS rfl (AG Ap O rfl rfl rfl (by omega)),fun a w gG O hS hd=>by have O:=O.ext1 17 (hd 3 rfl rfl);have J:=hS.mem rfl;exact AA hS rfl (AK AZ O rfl (J.row 0 rfl) (CS gk (by omega) (by omega) (by rw [if_neg (by omega)]))),fun a w gG O hS hd=>by have O:=O.ext1 18 (hd 4 rfl rfl);exact AA hS rfl (Aw A1 A6 O rfl (wrap_i64 (by omega) (by omega))),fun a w gG O hS hd=>by exact A8 hS rfl O rfl,fun a w gG O hS hd=>by exact A8 hS rfl O rfl,fun a w gG O hS hd=>by have O:=O.ext1 21 (hd 7 rfl rfl);exact AA hS rfl (AG Ap O rfl rfl rfl (by omega)),fun a w gG O hS hd=>by have O:=O.ext1 22 (hd 8 rfl rfl);have J:=hS.mem rfl;exact AA hS rfl (AK AZ O rfl (J.row 1 rfl) (BL (gk) (by omega) (by omega))),fun a w gG O hS hd=>by have O:=O.ext1 23 (hd 9 rfl rfl);exact AA hS rfl (Aw A1 A6 O rfl (wrap_i64 (by omega) (by omega))),fun a w gG O hS hd=>by have O:=O.ext1 20 (hd 6 rfl rfl);have O:=O.ext1 24 (hd 10 rfl rfl);exact AA hS rfl (B0 O rfl rfl (Bh x (u gk) (by omega))),fun a w gG O hS hd=>by have O:=O.ext1 19 (hd 5 rfl rfl);have O:=O.ext1 25 (hd 11 rfl rfl);exact AA hS rfl (Ad O rfl rfl (AS (v (gk)) ((x)*(u (gk))) (by omega))),fun a w gG O hS hd=>by have O:=O.ext1 15 (hd 1 rfl rfl);have O:=O.ext1 26 (hd 12 rfl rfl);exact Av (by repeat constructor) hS rfl (AN Try.call153 O (.cons rfl (.cons rfl .nil)) (Fk (v (gk)+(x)*(u (gk))) (p) _ (by omega) (by omega) (by omega))),fun a w gG O hS hd=>by have O:=O.ext1 27 (hd 13 rfl rfl);exact AA hS rfl (Aw Br Bs O rfl (wrap_u8 (by omega) (by have:=Nat.mod_lt (v gk+x*u gk) hp;omega))),trivial⟩ ?_;intro a w' L O hS hq;have O:=O.ext1 14 (hq 0 rfl rfl);have O:=O.ext1 15 (hq 1 rfl rfl);have O:=O.ext1 16 (hq 2 rfl rfl);have O:=O.ext1 17 (hq 3 rfl rfl);have O:=O.ext1 18 (hq 4 rfl rfl);have O:=O.ext1 19 (hq 5 rfl rfl);have O:=O.ext1 20 (hq 6 rfl rfl);have O:=O.ext1 21 (hq 7 rfl rfl);have O:=O.ext1 22 (hq 8 rfl rfl);have O:=O.ext1 23 (hq 9 rfl rfl);have O:=O.ext1 24 (hq 10 rfl rfl);have O:=O.ext1 25 (hq 11 rfl rfl);have O:=O.ext1 26 (hq 12 rfl rfl);have O:=O.ext1 27 (hq 13 rfl rfl);have O:=O.ext1 28 (hq 14 rfl rfl);have J:=hS.mem rfl;change wpList Try.prog _ _ [_,_] _ _;refine st O (AG Ap O rfl rfl rfl (by omega)) rfl fun a O=>BF O (Ak 0 J rfl AZ O rfl rfl rfl (by first | omega | (simp only [AP]<;>omega) | (simp only [Array.size_setIfInBounds];omega) | simp)) ?_;intro _ w' a J O;rw [show (Al 6 (fun c=>.int .u8 ((if c<gk then EM p v u x c else v c:Nat):Int))).setIfInBounds (0+(gk)*1) (.int .u8 ((((v (gk)+(x)*(u (gk)))%(p):Nat):Int)))=Al 6 (fun c=>.int .u8 (((if c=gk then (v (gk)+(x)*(u (gk)))%(p) else if c<gk then EM p v u x c else v c):Nat):Int)) from Bc (fun c _=>by rw [show 0+(gk)*1=gk by omega];by_cases hh:c=gk<;>simp [hh])] at J
    change AX _ _ [_,_,_] [] at J;refine wpList_nil<|iN<|tN<|wp_region_lit<|mv O rfl rfl fun a O=>st O (Ad O rfl rfl (AS (gk) (1) (by omega))) rfl fun a O=>ag O rfl rfl fun a O=>nt<|⟨gk+1,⟨by omega,trivial,O.sub _ (by repeat' constructor),?_⟩,by omega⟩;refine J.rowc 0 rfl (Az fun c hc=>congrArg (Value.int .u8) (congrArg Nat.cast ?_))
    by_cases e1:c=gk
    . simp [e1,EM]
    . have e0:(c<gk+1)=(c<gk):=by apply propext;omega
      simp [e0,e1]
  obtain rfl:6=gk:=by omega
  have J:=J.rowc (cs':=AF (EM p v u x)) 0 rfl (Az fun c hc=>by simp [show c<6 by omega]);refine wp_exit<|tX<|tX<|AY<|tN<|sr<|st O (AC AU O rfl (J.row 0 rfl) (by simp only [AP]<;>omega) (whole (by simp only [AP]))) rfl fun a O=>BF O (AL 2 J rfl Ai O rfl rfl Ac (by simp only [AP]) (by simp only [AP]<;>omega) (AI _ _ (by simp only [AP]))) ?_;intro _ w' a J O;change AX _ _ [_,_,some (b3,AF (EM p v u x))] [] at J;refine nt<|wp_ret<|Ax rfl O.defers (A7 AU O rfl (J.row 2 rfl) (by simp only [AP])) ⟨_,rfl,J.below,?_⟩
  show _=_
  rfl
end Go.Proofs.Ytkcneleabbjkaaa
