import Derived.Test.YtkcneleabbjkaaaP8
set_option linter.unusedVariables false
set_option linter.unusedSimpArgs false
namespace Go.Proofs.Ytkcneleabbjkaaa
open Go Go.RowKit Go.Sw Go.Ech
open Classical
theorem JM:Try.prog.underlying 135=some (.map 29 4):=by kernel_rfl
theorem Oq:Ej Try.prog 4=some (.bool (false)):=by kernel_rfl
theorem OK:WideMaps.KeyLaw Try.prog 29:=deep_law (m:=8) (by decide) (by kernel_rfl) (by kernel_rfl) (by kernel_rfl)
theorem OI:IQ Try.prog (Try.prog.types.size+1) 29 (.i64::.i64::List.replicate 222 .u8)=true:=by kernel_rfl
theorem NT:Try.prog.keyType 29=true:=by kernel_rfl
theorem OJ:Try.prog.cellsOf 29=224:=by kernel_rfl
theorem O8:Nn Try.prog 29=true:=by kernel_rfl
theorem OH {p n:Nat}{T:Nat->Nat->Nat->Nat}{f:Nat->Nat}(hp:p<1000)(hn:n<1000)(hT:∀ i j k,T i j k<=255)(hf:∀ i,f i<=255):∃ l,keyOf Try.prog 29 (.agg (AB (p:Int) (n:Int) T f))=some l:=
  LO O8 NT OI (by rw [OJ,List.length_cons,List.length_cons,List.length_replicate]) (NJ (by omega) (by omega) hT hf)
theorem Qa {p n:Int}{T:Nat->Nat->Nat->Nat}{f:Nat->Nat}:Value.agg (AB p n T f)=Value.agg (AB p n (Nm T) f)↔Pb T (Nm T):=by
  constructor
  . intro h i hi j hj k hk
    have h1:=congrArg (fun v:Value=>match v with | .agg c=>c[2+i*36+j*6+k]? | _=>none) h
    dsimp only at h1
    rw [C7 i j k rfl hi hj hk,C7 i j k rfl hi hj hk] at h1;have h2:=Option.some.inj h1
    injection h2 with _ h3
    exact Int.ofNat.inj h3
  . intro h
    exact congrArg Value.agg (B3 fun i hi j hj k hk=>h i hi j hj k hk)
theorem NV {P:Program}{q:Prop}[Decidable q]{o:Oper}{a:Act}{w:World}(h:BX P o a w (if q then .bool true else .bool false)):BX P o a w (.bool (decide q)):=by
  by_cases e:q
  . rw [if_pos e] at h;rw [decide_eq_true e];exact h
  . rw [if_neg e] at h;rw [decide_eq_false e];exact h
def Ce (mul:(Nat->Nat)->(Nat->Nat)->Nat->Nat) (u:Nat->Nat) (V:Nat->Nat->Nat):Nat->Nat->Nat
  | 0=>u
  | k+1=>mul (Ce mul u V k) (V k)
theorem Ia {mul:(Nat->Nat)->(Nat->Nat)->Nat->Nat}{u:Nat->Nat}{V:Nat->Nat->Nat}(hu:∀ c,u c<=255)(hm:∀ x y c,mul x y c<=255):∀ k c,Ce mul u V k c<=255
  | 0,c=>hu c
  | k+1,c=>hm _ _ c
theorem DB (p n:Nat)(T:Nat->Nat->Nat->Nat)(f:Nat->Nat)(w:World)(hp2:p<1000)(hn2:n<1000)(hT:∀ i j k,T i j k<=255)(hf:∀ i,f i<=255) :
    CallsR Try.prog 141 #[.agg (AB (p:Int) (n:Int) T f)] w (fun res _=>res = .bool (decide (Pb T (Nm T)))):=by
  refine AS [.agg (AB (p:Int) (n:Int) T f)] Try.func141 rfl Try.ntmps141 rfl fun a O=>?_;have J:AT w w [none] []:=MemX.start w 1;change Fr 11 a [(0,.agg (AB (p:Int) (n:Int) T f))] at O;refine sr<|Ab O (Aj 0 J O rfl) rfl ?_;rintro _ w' a ⟨b1,rfl,J,-⟩ O;refine ag O rfl rfl fun a O=>ns<|Ab O (Na J) rfl ?_;rintro _ w' a ⟨bm2,rfl,J,hO,hH⟩ O;change AT w w' [some (b1,AB (p:Int) (n:Int) T f)] [] at J;refine st O (AA AH O rfl (J.row 0 rfl) (by simp only [AM]<;>omega) (whole AE)) rfl fun a O=>?_;obtain ⟨lkbm2,hJ⟩:=OH (p:=p) (n:=n) (T:=T) (f:=f) (by omega) (by omega) hT hf;refine A7 O (Ob OK JM J hH hO O rfl rfl rfl hJ) ?_;rintro _ w' a ⟨J,hH⟩ O;change AT w w' [some (b1,AB (p:Int) (n:Int) T f)] [] at J;refine mv O rfl rfl fun a O=>ag O rfl rfl fun a O=>ns<|mv O rfl rfl fun a O=>st O (AA AH O rfl (J.row 0 rfl) (by simp only [AM]<;>omega) (whole AE)) rfl fun a O=>Ab O (AN Try.call118 O (.cons rfl .nil) (JA (p:Int) (n:Int) T f _)) rfl ?_;rintro _ w' a ⟨hx,rfl⟩ O;have J:=J.ext hx;have hH:=hH.ext hx;refine st O (NV (NX (p:=Pb T (Nm T)) (z0:=.bool (false)) OK JM Oq hH O rfl rfl (OH (by omega) (by omega) (fun i j k=>hT j i k) hf).choose_spec hJ Qa)) rfl fun a O=>ag O rfl rfl fun a O=>nt<|wp_ret<|A0 rfl O.defers (AL O rfl) ⟨_,rfl,J.below,?_⟩
  show _=_
  rfl
theorem NY {p:Nat}{f v:Nat->Nat}:sumTo (fun i=>f i*v i) 6%p=sumTo (fun i=>v i*f i) 6%p:=by
  rw [show (fun i=>f i*v i)=(fun i=>v i*f i) from funext fun i=>Nat.mul_comm _ _]
theorem MT:∀ m,sumTo (fun _=>0) m=0
  | 0=>rfl
  | m+1=>by rw [sumTo,MT m]
theorem Me {p n:Nat}{T:Nat->Nat->Nat->Nat}{G:Nat->Nat->Nat}{k l c:Nat}(hT0:∀ i j k,n<=k->T i j k=0)(hc:n<=c):CO p n T G k l c=0:=by
  unfold CO
  simp only [hT0 _ _ c hc,Nat.mul_zero,MT,Nat.add_zero,Nat.zero_mod]
theorem LC (p n:Nat)(T:Nat->Nat->Nat->Nat)(f:Nat->Nat)(G:Nat->Nat->Nat)(x:Nat)(w:World)(hp:primeN p)(hn0:0<n)(hn:n<=6)(hTp:∀ i j k,T i j k<p)(hT0:∀ i j k,n<=k->T i j k=0)(hf:∀ i,f i<=255)(hfr:Bl p n T f)(hG:IsCop p n (formM p n T f) G)(uu:Nat->Nat)(huu:UnitI p n T uu)(hk:x<=30) :
    CallsR Try.prog 164 #[.agg (AB (p:Int) (n:Int) T f),.int .i64 (x:Int)] w (fun res _=>res = .agg (AG (CA (timesV p n T) uu (CO p n T G n 0) x))):=by
  refine AS [.agg (AB (p:Int) (n:Int) T f),.int .i64 (x:Int)] Try.func164 rfl Try.ntmps164 rfl fun a O=>?_;have J:AT w w [none,none,none,none] []:=MemX.start w 4;change Fr 20 a [(0,.agg (AB (p:Int) (n:Int) T f)),(1,.int .i64 (x:Int))] at O;have hp2:=hp.two;have hp13:=hp.le;have hT:∀ i j k,T i j k<=255:=fun i j k=>by have:=hTp i j k;omega
  have hGp:=hG.lt;have hG5:∀ i c,G i c<=255:=fun i c=>by have:=hGp i c;omega
  have hhd:∀ c,CO p n T G n 0 c<=255:=fun c=>by have:=FW (p:=p) (n:=n) (T:=T) (G:=G) (k:=n) (l:=0) (c:=c) (by omega);omega
  have hvp:∀ k c,CA (timesV p n T) uu (CO p n T G n 0) k c<=255:=Ge (fun c=>by have:=huu.small c;omega) (fun x c=>Cd (by omega) (by omega) x _ c);refine sr<|Ab O (Aj 0 J O rfl) rfl ?_;rintro _ w' a ⟨b1,rfl,J,-⟩ O;refine Ab O (AV 1 J Ae) rfl ?_;rintro _ w' a ⟨b2,rfl,J,-⟩ O;change AT _ _ [some (b1,AB (p:Int) (n:Int) T f),some (b2,Al 6 (fun _=>.int .u8 (0))),_,_] [] at J;refine nt<|sq<|BG 6 [2,3] [.val (.agg (AB (p:Int) (n:Int) T f)),.val (.agg (AG uu)),.val (.agg (AB (p:Int) (n:Int) T f)),.val (.agg (AG (CO p n T G n 0))),.own 2 (Al 6 (fun _=>.int .u8 (0))) (fun b=>ptr b 0),.own 3 (Al 6 (fun _=>.int .u8 (0))) (fun b=>ptr b 0)] BV rfl O rfl J ⟨fun a w gG O hS hd=>by have J:=hS.mem rfl;exact AC hS rfl (AA AH O rfl (J.row 0 rfl) (by simp only [AM]<;>omega) (whole AE)),fun a w gG O hS hd=>by have O:=O.ext1 7 (hd 0 rfl rfl);exact Ap (by repeat constructor) hS rfl (AN Try.call102 O (.cons rfl .nil) (GD p n T f _ hp hn0 hn hTp uu huu)),fun a w gG O hS hd=>by have J:=hS.mem rfl;exact AC hS rfl (AA AH O rfl (J.row 0 rfl) (by simp only [AM]<;>omega) (whole AE)),fun a w gG O hS hd=>by have O:=O.ext1 9 (hd 2 rfl rfl);exact Ap (by repeat constructor) hS rfl (AN Try.call139 O (.cons rfl .nil) (KB p n T f G _ hp hn0 hn hTp hT0 hf hfr hG)),fun a w gG O hS hd=>by exact Cj (by repeat constructor) hS rfl rfl rfl rfl (AV 2 hS.1 Ae),fun a w gG O hS hd=>by exact Cj (by repeat constructor) hS rfl rfl rfl rfl (AV 3 hS.1 Ae),trivial⟩ ?_;intro a w' L O hS hq;have O:=O.ext1 7 (hq 0 rfl rfl);have O:=O.ext1 8 (hq 1 rfl rfl);have O:=O.ext1 9 (hq 2 rfl rfl);have O:=O.ext1 10 (hq 3 rfl rfl);obtain ⟨J,hL⟩:=hS;obtain ⟨b3,hZ,hkk⟩:=hq 4 rfl rfl;have O:=O.ext1 5 hZ;have hL:=hL.take hkk;obtain ⟨b4,hZ,hkk⟩:=hq 5 rfl rfl;have O:=O.ext1 6 hZ;have hL:=hL.take hkk;obtain rfl:=hL.eq;change AT w w' [some (b1,AB (p:Int) (n:Int) T f),some (b2,Al 6 (fun _=>.int .u8 (0))),some (b3,Al 6 (fun _=>.int .u8 (0))),some (b4,Al 6 (fun _=>.int .u8 (0)))] [] at J;change wpList Try.prog _ _ [_,_] _ _;refine A7 O (AI 2 J rfl Aa O rfl rfl AX (by simp only [AM]) (by simp only [AM]<;>omega) (AF _ _ (by simp only [AM]))) ?_;intro _ w' a J O;change AT _ _ [_,_,some (b3,AG uu),_] [] at J;refine A7 O (AI 3 J rfl Aa O rfl rfl AX (by simp only [AM]) (by simp only [AM]<;>omega) (AF _ _ (by simp only [AM]))) ?_;intro _ w' a J O;refine nt<|sq<|wp_block ?_;change AT _ _ [_,_,_,some (b4,AG (CO p n T G n 0))] [] at J;refine Ai (fun (kk:Nat) a w'=>kk<=x/\(True)/\Fr 20 a [(6,ptr b4 (0)),(5,ptr b3 (0)),(2,ptr b1 (0)),(4,ptr b2 (0)),(1,.int .i64 (((x - kk:Nat):Int)))]/\AT w w' [some (b1,AB (p:Int) (n:Int) T f),some (b2,Al 6 (fun _=>.int .u8 (0))),some (b3,AG (CA (timesV p n T) uu (CO p n T G n 0) kk)),some (b4,AG (CO p n T G n 0))] []) (fun kk=>x - kk) 0 ?_ ?_
  . refine ⟨by omega,trivial,O.sub _ (by repeat' constructor),?_⟩
    exact J
  clear O J;rintro gi a w' ⟨hgi,hinv1,O,J⟩;have hvt:=hvp gi;have hvs:∀ c,CO p n T G n 0 c<=255:=hhd;refine sq<|sr<|mv O rfl rfl fun a O=>st O (CV O rfl rfl) rfl fun a O=>nt<|AR O rfl (fun h5=>?_) (fun h5=>?_)
  . refine wp_skip ?_
    refine tN<|sq<|wp_block<|wp_region_lit<|st O (AA AH O rfl (J.row 0 rfl) (by simp only [AM]<;>omega) (whole AE)) rfl fun a O=>st O (AA AQ O rfl (J.row 2 rfl) (by simp only [AM]<;>omega) (whole (by simp only [AM]))) rfl fun a O=>st O (AA AQ O rfl (J.row 3 rfl) (by simp only [AM]<;>omega) (whole (by simp only [AM]))) rfl fun a O=>Ab O (AN Try.call89 O (.cons rfl (.cons rfl (.cons rfl .nil))) ((CallsR.val (Bj p n T f ((CA (timesV p n T) uu (CO p n T G n 0) gi)) ((CO p n T G n 0)) _ (by omega) (by omega) (by omega) (fun _ _ _=>hT _ _ _) (fun _=>by first | exact hv _ | exact hvt _ | exact hvs _ | exact hu _ | exact hT _ _ _ | exact hf _ | omega | (split<;>omega) | (dsimp only;split<;>omega) | assumption) (fun _=>by first | exact hv _ | exact hvt _ | exact hvs _ | exact hu _ | exact hT _ _ _ | exact hf _ | omega | (split<;>omega) | (dsimp only;split<;>omega) | assumption)) (congrArg (fun v=>Value.agg (AG v)) (FO hT0 ((CA (timesV p n T) uu (CO p n T G n 0) gi)) ((CO p n T G n 0))).symm)))) rfl ?_;rintro _ w' a ⟨hx,rfl⟩ O;have J:=J.ext hx;refine A7 O (AI 2 J rfl Aa O rfl rfl AX (by simp only [AM]) (by simp only [AM]<;>omega) (AF _ _ (by simp only [AM]))) ?_;intro _ w' a J O;change AT _ _ [_,_,some (b3,AG (timesV p n T ((CA (timesV p n T) uu (CO p n T G n 0) gi)) ((CO p n T G n 0)))),_] [] at J;refine wpList_nil<|iN<|tN<|wp_region_lit<|mv O rfl rfl fun a O=>st O (Ea O rfl rfl (show _=((x - (gi+1):Nat):Int) from (by rw [wrap_i64]<;>omega))) rfl fun a O=>ag O rfl rfl fun a O=>nt<|⟨gi+1,⟨by omega,trivial,O.sub _ (by repeat' constructor),?_⟩,by omega⟩;exact J
  obtain rfl:x=gi:=by omega
  refine wp_exit<|tX<|tX<|Ac<|tN<|sr<|st O (AA AQ O rfl (J.row 2 rfl) (by simp only [AM]<;>omega) (whole (by simp only [AM]))) rfl fun a O=>A7 O (AI 1 J rfl Aa O rfl rfl AX (by simp only [AM]) (by simp only [AM]<;>omega) (AF _ _ (by simp only [AM]))) ?_;intro _ w' a J O;change AT _ _ [_,some (b2,AG (CA (timesV p n T) uu (CO p n T G n 0) x)),_,_] [] at J;refine nt<|wp_ret<|A0 rfl O.defers (As AQ O rfl (J.row 1 rfl) (by simp only [AM])) ⟨_,rfl,J.below,?_⟩
  show _=_
  rfl
end Go.Proofs.Ytkcneleabbjkaaa
