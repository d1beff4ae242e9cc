import Derived.Test.YtkcneleabbjkaaaK2
set_option linter.unusedVariables false
set_option linter.unusedSimpArgs false
namespace Go.Proofs.Ytkcneleabbjkaaa
open Go Go.RowKit Go.Sw Go.Ech
open Classical
theorem BO:F3 Try.prog 29=some (.agg (AD 0 0 (fun _ _ _=>0) (fun _=>0))):=by kernel_rfl
theorem A0:DT Try.prog 29=some 224:=by kernel_rfl
theorem EE {p n:Int}{T:Nat->Nat->Nat->Nat}{f v:Nat->Nat}{o:Nat}(a b:Nat)(h:o=2+a*36+b*6)(ha:a<6)(hb:b<6):splice (AD p n T f) o (AE v)=AD p n (fun i j k=>if i=a/\j=b then v k else T i j k) f:=by
  subst h;have hz:2+a*36+b*6+(AE v).size<=(AD p n T f).size:=by rw [DA,AH];omega
  refine FK (by rw [EC _ _ _ hz,AH]) ?_ ?_ ?_ ?_
  . rw [CT _ _ _ _ hz,if_neg (by omega)];exact BI rfl
  . rw [CT _ _ _ _ hz,if_neg (by omega)];exact Ao rfl
  . intro i j k hi hj hk
    rw [CT _ _ _ _ hz,DA]
    by_cases e:i=a/\j=b
    . rw [if_pos (by omega),if_pos e];exact BK k (by omega) hk
    . rw [if_neg (by omega),if_neg e];exact DR i j k rfl hi hj hk
  . intro i hi;rw [CT _ _ _ _ hz,DA,if_neg (by omega)];exact DP i rfl hi
theorem Bx {p n:Int}{T U:Nat->Nat->Nat->Nat}{f:Nat->Nat}(h:∀ i,i<6->∀ j,j<6->∀ k,k<6->T i j k=U i j k):AD p n T f=AD p n U f:=by
  unfold AD
  refine A5 fun c hc=>?_
  by_cases h0:c=0
  . rw [if_pos h0,if_pos h0]
  . rw [if_neg h0,if_neg h0]
    by_cases h1:c=1
    . rw [if_pos h1,if_pos h1]
    . rw [if_neg h1,if_neg h1]
      by_cases h2:c<218
      . rw [if_pos h2,if_pos h2,h _ (by omega) _ (by omega) _ (by omega)]
      . rw [if_neg h2,if_neg h2]
def Qj (T:Nat->Nat->Nat->Nat) (i j k:Nat):Nat:=T j i k
theorem L8 (p n:Nat)(T:Nat->Nat->Nat->Nat)(f uu:Nat->Nat)(w:World)(hp:primeN p)(hn0:0<n)(hn:n<=6)(hJ:∀ i j k,T i j k<p)(hH:UnitI p n T uu):H1 Try.prog 152 #[.agg (AD (p:Int) (n:Int) T f)] w (.tuple #[.agg (AE uu),.bool true]):=
  (Fk p n T f w hp hn0 hn hJ).mono fun v w' _ h=>by
    rcases h with ⟨u,hu,rfl⟩ | ⟨hu,rfl⟩
    . rw [hH.unique hu]
    . exact absurd hH (hu uu)
theorem Ks (p n:Nat)(T:Nat->Nat->Nat->Nat)(f uu:Nat->Nat)(w:World)(hp:primeN p)(hn0:0<n)(hn:n<=6)(hJ:∀ i j k,T i j k<p)(hH:UnitI p n T uu):H1 Try.prog 94 #[.agg (AD (p:Int) (n:Int) T f)] w (.tuple #[.agg (AE uu),.bool true]):=
  (HI p n T f w hp hn0 hn hJ).mono fun v w' _ h=>by
    rcases h with ⟨u,hu,rfl⟩ | ⟨hu,rfl⟩
    . rw [hH.unique hu]
    . exact absurd hH (hu uu)
def QW (T:Nat->Nat->Nat->Nat):Prop:=∀ i,i<6->∀ j,j<i->Ic 6 (T i j) (T j i)
theorem Kh (p n:Nat)(T:Nat->Nat->Nat->Nat)(f:Nat->Nat)(w:World)(hp:primeN p)(hn0:0<n)(hn:n<=6)(hJ:∀ i j k,T i j k<p)(uu:Nat->Nat)(hH:UnitI p n T uu) :
    CallsR Try.prog 102 #[.agg (AD (p:Int) (n:Int) T f)] w (fun res _=>res = .agg (AE uu)):=by
  refine AX [.agg (AD (p:Int) (n:Int) T f)] Try.func102 rfl Try.ntmps102 rfl fun a O=>?_;have J:AW w w [none,none,none] []:=MemX.start w 3;change Fr 11 a [(0,.agg (AD (p:Int) (n:Int) T f))] at O;refine sr<|Ag O (Aw 0 J O rfl) rfl ?_;rintro _ w' a ⟨b1,rfl,J,-⟩ O;refine Ag O (Aa 1 J Ae) rfl ?_;rintro _ w' a ⟨b2,rfl,J,-⟩ O;change AW _ _ [some (b1,AD (p:Int) (n:Int) T f),some (b2,Ak 6 (fun _=>.int .u8 (0))),_] [] at J;refine ns<|st O (AC AM O rfl (J.row 0 rfl) (by simp only [AN]<;>omega) (whole AH)) rfl fun a O=>Ag O (AP Try.call152 O (.cons rfl .nil) (L8 p n T f uu _ hp hn0 hn hJ hH)) rfl ?_;rintro _ w' a ⟨hx,rfl⟩ O;have J:=J.ext hx;refine mv O rfl rfl fun a O=>st O (Af O rfl rfl) rfl fun a O=>st O (Af O rfl rfl) rfl fun a O=>Ag O (Aa 2 J Ae) rfl ?_;rintro _ w' a ⟨b3,rfl,J,-⟩ O;change AW _ _ [_,_,some (b3,Ak 6 (fun _=>.int .u8 (0)))] [] at J;refine BC O (AI 2 J rfl Ab O rfl rfl AY (by simp only [AN]) (by simp only [AN]<;>omega) (AF _ _ (by simp only [AN]))) ?_;intro _ w' a J O;change AW _ _ [_,_,some (b3,AE uu)] [] at J;refine ag O rfl rfl fun a O=>ns<|st O (AC AT O rfl (J.row 2 rfl) (by simp only [AN]<;>omega) (whole (by simp only [AN]))) rfl fun a O=>BC O (AI 1 J rfl Ab O rfl rfl AY (by simp only [AN]) (by simp only [AN]<;>omega) (AF _ _ (by simp only [AN]))) ?_;intro _ w' a J O;change AW _ _ [_,some (b2,AE uu),_] [] at J;refine nt<|wp_ret<|Av rfl O.defers (Ay AT O rfl (J.row 1 rfl) (by simp only [AN])) ⟨_,rfl,J.below,?_⟩
  show _=_
  rfl
theorem NJ (p n:Nat)(T:Nat->Nat->Nat->Nat)(f:Nat->Nat)(w:World)(hp:primeN p)(hn0:0<n)(hn:n<=6)(hJ:∀ i j k,T i j k<p)(hT0:∀ i j k,n<=k->T i j k=0)(hf:∀ i,f i<=255)(uu:Nat->Nat)(hH:UnitI p n T uu)(hc:B1 (p:Int) (n:Int) T f 0 (Bb [])) :
    CallsR Try.prog 14 #[.agg (AD (p:Int) (n:Int) T f)] w (fun res _=>res = .tuple #[.agg (AE uu),.int .i64 0]):=by
  refine AX [.agg (AD (p:Int) (n:Int) T f)] Try.func14 rfl Try.ntmps14 rfl fun a O=>?_;have J:AW w w [none,none,none] []:=MemX.start w 3;change Fr 16 a [(0,.agg (AD (p:Int) (n:Int) T f))] at O;have hp2:=hp.two;have hO:=hp.le;have hT:∀ i j k,T i j k<=255:=fun i j k=>by have:=hJ i j k;omega
  refine sr<|Ag O (Aw 0 J O rfl) rfl ?_;rintro _ w' a ⟨b1,rfl,J,-⟩ O;refine Ag O (Aa 1 J Ae) rfl ?_;rintro _ w' a ⟨b2,rfl,J,-⟩ O;change AW _ _ [some (b1,AD (p:Int) (n:Int) T f),some (b2,Ak 6 (fun _=>.int .u8 (0))),_] [] at J;refine ag O rfl rfl fun a O=>nt<|sq<|sr<|st O (AC AM O rfl (J.row 0 rfl) (by simp only [AN]<;>omega) (whole AH)) rfl fun a O=>Ag O (AP Try.call12 O (.cons rfl .nil) ((CallsR.val (EK (p:Int) (n:Int) T f _ (fun _ _ _=>hT _ _ _) (fun _=>hf _)) (congrArg Value.bool (decide_eq_true hc.1))))) rfl ?_;rintro _ w' a ⟨hx,rfl⟩ O;have J:=J.ext hx;refine st O (CN (b:=true) O rfl) rfl fun a O=>nt<|DS O rfl<|wp_skip<|tN<|sr<|st O (AC AM O rfl (J.row 0 rfl) (by simp only [AN]<;>omega) (whole AH)) rfl fun a O=>Ag O (AP Try.call94 O (.cons rfl .nil) (Ks p n T f uu _ hp hn0 hn hJ hH)) rfl ?_;rintro _ w' a ⟨hx,rfl⟩ O;have J:=J.ext hx;refine mv O rfl rfl fun a O=>st O (Af O rfl rfl) rfl fun a O=>st O (Af O rfl rfl) rfl fun a O=>Ag O (Aa 2 J Ae) rfl ?_;rintro _ w' a ⟨b4,rfl,J,-⟩ O;change AW _ _ [_,_,some (b4,Ak 6 (fun _=>.int .u8 (0)))] [] at J;refine BC O (AI 2 J rfl Ab O rfl rfl AY (by simp only [AN]) (by simp only [AN]<;>omega) (AF _ _ (by simp only [AN]))) ?_;intro _ w' a J O;change AW _ _ [_,_,some (b4,AE uu)] [] at J;refine ag O rfl rfl fun a O=>ns<|st O (AC AT O rfl (J.row 2 rfl) (by simp only [AN]<;>omega) (whole (by simp only [AN]))) rfl fun a O=>BC O (AI 1 J rfl Ab O rfl rfl AY (by simp only [AN]) (by simp only [AN]<;>omega) (AF _ _ (by simp only [AN]))) ?_;intro _ w' a J O;change AW _ _ [_,some (b2,AE uu),_] [] at J;refine ag O rfl rfl fun a O=>nt<|wp_ret<|Cp rfl O.defers (Ay AT O rfl (J.row 1 rfl) (by simp only [AN])) (AR O rfl) ⟨_,rfl,J.below,?_⟩
  show _=_
  rfl
end Go.Proofs.Ytkcneleabbjkaaa
