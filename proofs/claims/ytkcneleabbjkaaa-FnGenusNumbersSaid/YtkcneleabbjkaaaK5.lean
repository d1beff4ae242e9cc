import Derived.Test.YtkcneleabbjkaaaK4
set_option linter.unusedVariables false
set_option linter.unusedSimpArgs false
namespace Go.Proofs.Ytkcneleabbjkaaa
open Go Go.RowKit Go.Sw Go.Ech
open Classical
theorem Hy:DT Try.prog 5=some 1:=by kernel_rfl
theorem Jo {p x i:Nat}{v u:Nat->Nat}:addN p v u (x:Int) i=EW p v u x i:=by
  unfold addN EW
  rw [show (v i:Int)+(x:Int)*(u i:Int)=((v i+x*u i:Nat):Int) by rw [Int.natCast_add,Int.natCast_mul],← Int.natCast_emod]
  rfl
def CA (mul:(Nat->Nat)->(Nat->Nat)->Nat->Nat) (u v:Nat->Nat):Nat->Nat->Nat
  | 0=>u
  | k+1=>mul (CA mul u v k) v
theorem Ge {mul:(Nat->Nat)->(Nat->Nat)->Nat->Nat}{u v:Nat->Nat}(hu:∀ c,u c<=255)(hm:∀ x c,mul x v c<=255):∀ k c,CA mul u v k c<=255
  | 0,c=>hu c
  | k+1,c=>hm _ c
theorem Cd {p n:Nat}{T:Nat->Nat->Nat->Nat}(hp:0<p)(hH:p<200)(x v:Nat->Nat)(c:Nat):timesV p n T x v c<=255:=by
  unfold timesV;have:=Nat.mod_lt (prodI T x v n n c) hp;omega
theorem HL {p n:Nat}{T:Nat->Nat->Nat->Nat}(hp:0<p)(hH:p<200)(x v:Nat->Nat)(c:Nat):timesS p n T x v c<=255:=by
  unfold timesS;split
  . exact Cd hp hH x v c
  . omega
theorem NF {n c:Nat}{T:Nat->Nat->Nat->Nat}{v u:Nat->Nat}:(prodI T v u n n c:Int)=Pr n T (ci v) (ci u) c:=by
  unfold prodI Pr
  rw [CT];refine Ao fun a _=>?_;rw [CT];exact Ao fun b _=>by simp [ci,Int.natCast_mul]
theorem Hb {p n:Nat}{T:Nat->Nat->Nat->Nat}{u v:Nat->Nat}(hT0:∀ i j k,n<=k->T i j k=0)(hu:UnitI p n T u)(hv:∀ c,c<6->v c<p)(hv0:∀ c,n<=c->c<6->v c=0):∀ c,c<6->timesV p n T u v c=v c:=fun c hc=>by
  by_cases h:c<n
  . have hp0:0<p:=by have:=hv c hc;omega
    refine DD (Nat.mod_lt _ hp0) (hv c hc) ?_
    have h1:(p:Int)∣(timesV p n T u v c:Int) - Pr n T (ci u) (ci v) c:=by
      rw [← NF];unfold timesV;rw [Int.natCast_emod];exact De _ _
    have h2:=Int.dvd_add h1 (CY hu (ci v) h)
    rwa [show ∀ A B C:Int,A - B+(B - C)=A - C from fun A B C=>by omega] at h2
  . rw [IF hT0 (by omega),hv0 c (by omega) hc]
theorem K6 (p n:Nat)(T:Nat->Nat->Nat->Nat)(f v:Nat->Nat)(x:Nat)(w:World)(hp:primeN p)(hn0:0<n)(hn:n<=6)(hJ:∀ i j k,T i j k<p)(uu:Nat->Nat)(hO:UnitI p n T uu)(hv:∀ i,v i<=255)(hk:x<=1000)(h1:∀ c,c<6->timesV p n T uu v c=v c) :
    CallsR Try.prog 96 #[.agg (AB (p:Int) (n:Int) T f),.agg (AG v),.int .i64 (x:Int)] w (fun res _=>res = .agg (AG (CA (timesV p n T) uu v x))):=by
  refine AS [.agg (AB (p:Int) (n:Int) T f),.agg (AG v),.int .i64 (x:Int)] Try.func96 rfl Try.ntmps96 rfl fun a O=>?_;have J:AT w w [none,none,none,none,none] []:=MemX.start w 5;change Fr 29 a [(0,.agg (AB (p:Int) (n:Int) T f)),(1,.agg (AG v)),(2,.int .i64 (x:Int))] at O;have hH:=hp.two;have hp13:=hp.le;have hT:∀ i j k,T i j k<=255:=fun i j k=>by have:=hJ i j k;omega
  have hvp:∀ k c,CA (timesV p n T) uu v k c<=255:=Ge (fun c=>by have:=hO.small c;omega) (fun x c=>Cd (by omega) (by omega) x v c);refine sr<|Ab O (Aj 0 J O rfl) rfl ?_;rintro _ w' a ⟨b1,rfl,J,-⟩ O;refine Ab O (Aj 1 J O rfl) rfl ?_;rintro _ w' a ⟨b2,rfl,J,-⟩ O;refine Ab O (AV 2 J Ae) rfl ?_;rintro _ w' a ⟨b3,rfl,J,-⟩ O;change AT _ _ [some (b1,AB (p:Int) (n:Int) T f),some (b2,AG v),some (b3,Al 6 (fun _=>.int .u8 (0))),_,_] [] at J;refine nt<|sq<|sr<|mv O rfl rfl fun a O=>st O (Bb O rfl rfl) rfl fun a O=>nt<|AR O rfl (fun h4=>?_) (fun h4=>?_)
  . refine sq ?_
    refine wp_region_lit<|st O (AA AH O rfl (J.row 0 rfl) (by simp only [AM]<;>omega) (whole AE)) rfl fun a O=>Ab O (AN Try.call94 O (.cons rfl .nil) (GN p n T f uu _ hp hn0 hn hJ hO)) rfl ?_;rintro _ w' a ⟨hx,rfl⟩ O;have J:=J.ext hx;refine mv O rfl rfl fun a O=>st O (AO O rfl rfl) rfl fun a O=>st O (AO O rfl rfl) rfl fun a O=>Ab O (AV 3 J Ae) rfl ?_;rintro _ w' a ⟨b5,rfl,J,-⟩ O;change AT _ _ [_,_,_,some (b5,Al 6 (fun _=>.int .u8 (0))),_] [] at J;refine A7 O (AI 3 J rfl Aa O rfl rfl AX (by simp only [AM]) (by simp only [AM]<;>omega) (AF _ _ (by simp only [AM]))) ?_;intro _ w' a J O;change AT _ _ [_,_,_,some (b5,AG uu),_] [] at J;refine ag O rfl rfl fun a O=>ns<|st O (AA AQ O rfl (J.row 3 rfl) (by simp only [AM]<;>omega) (whole (by simp only [AM]))) rfl fun a O=>A7 O (AI 2 J rfl Aa O rfl rfl AX (by simp only [AM]) (by simp only [AM]<;>omega) (AF _ _ (by simp only [AM]))) ?_;intro _ w' a J O;change AT _ _ [_,_,some (b3,AG uu),_,_] [] at J;refine nt<|wp_ret<|tR<|A0 rfl O.defers (As AQ O rfl (J.row 2 rfl) (by simp only [AM])) ⟨_,rfl,J.below,?_⟩
    show _=_
    obtain rfl:x=0:=by omega
    rfl
  refine wp_skip<|tN<|sr<|st O (AA AQ O rfl (J.row 1 rfl) (by simp only [AM]<;>omega) (whole (by simp only [AM]))) rfl fun a O=>Ab O (AV 4 J Ae) rfl ?_;rintro _ w' a ⟨b6,rfl,J,-⟩ O;change AT _ _ [_,_,_,_,some (b6,Al 6 (fun _=>.int .u8 (0)))] [] at J;refine A7 O (AI 4 J rfl Aa O rfl rfl AX (by simp only [AM]) (by simp only [AM]<;>omega) (AF _ _ (by simp only [AM]))) ?_;intro _ w' a J O;refine nt<|sq<|sr<|mv O rfl rfl fun a O=>st O (Ea O rfl rfl (show _=((x - 1:Nat):Int) from (by rw [wrap_i64]<;>omega))) rfl fun a O=>mv O rfl rfl fun a O=>nt<|wp_block ?_;change AT _ _ [_,_,_,_,some (b6,AG v)] [] at J;refine Ai (fun (kk:Nat) a w'=>kk<=(x - 1)/\(True)/\Fr 29 a [(3,ptr b1 (0)),(4,ptr b2 (0)),(6,ptr b3 (0)),(11,.bool (decide (((x:Int):Int)=0))),(9,ptr b6 (0)),(20,.int .i64 (((x - 1:Nat):Int))),(21,.int .i64 (kk:Int))]/\AT w w' [some (b1,AB (p:Int) (n:Int) T f),some (b2,AG v),some (b3,Al 6 (fun _=>.int .u8 (0))),none,some (b6,AG (CA (timesV p n T) uu v (kk+1)))] []) (fun kk=>(x - 1) - kk) 0 ?_ ?_
  . refine ⟨by omega,trivial,O.sub _ (by repeat' constructor),?_⟩
    exact J.rowc 4 rfl (A5 fun c hc=>congrArg (Value.int .u8) (congrArg Nat.cast (h1 c hc).symm))
  clear O J;rintro gi a w' ⟨hgi,hZ,O,J⟩;have hvt:=hvp (gi+1);refine sr<|st O (Am O rfl rfl) rfl fun a O=>nt<|sq<|AR O rfl (fun h7=>?_) (fun h7=>?_)
  . refine wp_skip ?_
    refine tN<|sq<|wp_block<|wp_region_lit<|st O (AA AH O rfl (J.row 0 rfl) (by simp only [AM]<;>omega) (whole AE)) rfl fun a O=>st O (AA AQ O rfl (J.row 4 rfl) (by simp only [AM]<;>omega) (whole (by simp only [AM]))) rfl fun a O=>st O (AA AQ O rfl (J.row 1 rfl) (by simp only [AM]<;>omega) (whole (by simp only [AM]))) rfl fun a O=>Ab O (AN Try.call87 O (.cons rfl (.cons rfl (.cons rfl .nil))) (Ch p n T f ((CA (timesV p n T) uu v (gi+1))) (v) _ (by omega) (by omega) (by omega) (fun _ _ _=>hT _ _ _) (fun _=>by first | exact hv _ | exact hvt _ | exact hvs _ | exact hu _ | exact hT _ _ _ | exact hf _ | omega | (split<;>omega) | (dsimp only;split<;>omega) | assumption) (fun _=>by first | exact hv _ | exact hvt _ | exact hvs _ | exact hu _ | exact hT _ _ _ | exact hf _ | omega | (split<;>omega) | (dsimp only;split<;>omega) | assumption))) rfl ?_;rintro _ w' a ⟨hx,rfl⟩ O;have J:=J.ext hx;refine A7 O (AI 4 J rfl Aa O rfl rfl AX (by simp only [AM]) (by simp only [AM]<;>omega) (AF _ _ (by simp only [AM]))) ?_;intro _ w' a J O;change AT _ _ [_,_,_,_,some (b6,AG (timesV p n T ((CA (timesV p n T) uu v (gi+1))) (v)))] [] at J;refine wpList_nil<|iN<|tN<|wp_region_lit<|st O (Af O rfl rfl (AW (gi) (1) (by omega))) rfl fun a O=>mv O rfl rfl fun a O=>nt<|⟨gi+1,⟨by omega,trivial,O.sub _ (by repeat' constructor),?_⟩,by omega⟩;exact J
  obtain rfl:(x - 1)=gi:=by omega
  refine wp_exit<|tX<|tX<|Ac<|tN<|sr<|st O (AA AQ O rfl (J.row 4 rfl) (by simp only [AM]<;>omega) (whole (by simp only [AM]))) rfl fun a O=>A7 O (AI 2 J rfl Aa O rfl rfl AX (by simp only [AM]) (by simp only [AM]<;>omega) (AF _ _ (by simp only [AM]))) ?_;intro _ w' a J O;change AT _ _ [_,_,some (b3,AG (CA (timesV p n T) uu v (((x - 1))+1))),_,_] [] at J;refine nt<|wp_ret<|A0 rfl O.defers (As AQ O rfl (J.row 2 rfl) (by simp only [AM])) ⟨_,rfl,J.below,?_⟩
  show _=_
  rw [show x - 1+1=x by omega]
end Go.Proofs.Ytkcneleabbjkaaa
