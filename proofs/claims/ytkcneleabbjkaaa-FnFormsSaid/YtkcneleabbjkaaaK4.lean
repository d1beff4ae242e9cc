import Derived.Test.YtkcneleabbjkaaaK2
set_option linter.unusedVariables false
set_option linter.unusedSimpArgs false
namespace Go.Proofs.Ytkcneleabbjkaaa
open Go Go.RowKit Go.Sw Go.Ech
open Classical
theorem JW:FP Try.prog 26=some (.agg (Al 216 (fun _=>.int .u8 (0)))):=by kernel_rfl
theorem Jb:DA Try.prog 26=some 216:=by kernel_rfl
theorem BM:FP Try.prog 29=some (.agg (AD 0 0 (fun _ _ _=>0) (fun _=>0))):=by kernel_rfl
theorem A0:DA Try.prog 29=some 224:=by kernel_rfl
theorem Ji {T:Nat->Nat->Nat->Nat}{v:Nat->Nat}{o:Nat}(a b:Nat)(h:o=a*36+b*6)(ha:a<6)(hb:b<6):splice (C9 T) o (AF v)=C9 (fun i j k=>if i=a/\j=b then v k else T i j k):=by
  subst h;have hz:a*36+b*6+(AF v).size<=(C9 T).size:=by rw [Cl,DS];omega
  apply GH (by rw [Df _ _ _ hz,DS])
  intro i hi;rw [Bo _ _ _ _ hz,Cl]
  by_cases e:a*36+b*6<=i/\i<a*36+b*6+6
  . rw [if_pos e,BL (i - (a*36+b*6)) rfl (by omega)];dsimp only;rw [if_pos ⟨by omega,by omega⟩,show i - (a*36+b*6)=i%6 by omega]
  . rw [if_neg e,HU (i / 36) (i / 6%6) (i%6) (by omega) (by omega) (by omega) (by omega)];dsimp only;rw [if_neg (by omega)]
theorem EG {p n:Int}{T:Nat->Nat->Nat->Nat}{f v:Nat->Nat}{o:Nat}(a b:Nat)(h:o=2+a*36+b*6)(ha:a<6)(hb:b<6):splice (AD p n T f) o (AF v)=AD p n (fun i j k=>if i=a/\j=b then v k else T i j k) f:=by
  subst h;have hz:2+a*36+b*6+(AF v).size<=(AD p n T f).size:=by rw [Cl,AE];omega
  refine El (by rw [Df _ _ _ hz,AE]) ?_ ?_ ?_ ?_
  . rw [Bo _ _ _ _ hz,if_neg (by omega)];exact BP rfl
  . rw [Bo _ _ _ _ hz,if_neg (by omega)];exact Ao rfl
  . intro i j k hi hj hk
    rw [Bo _ _ _ _ hz,Cl]
    by_cases e:i=a/\j=b
    . rw [if_pos (by omega),if_pos e];exact BL k (by omega) hk
    . rw [if_neg (by omega),if_neg e];exact DL i j k rfl hi hj hk
  . intro i hi;rw [Bo _ _ _ _ hz,Cl,if_neg (by omega)];exact Cz i rfl hi
theorem Fa {T U:Nat->Nat->Nat->Nat}(h:∀ i,i<6->∀ j,j<6->∀ k,k<6->T i j k=U i j k):C9 T=C9 U:=by
  unfold C9
  exact Az fun c hc=>by rw [h _ (by omega) _ (by omega) _ (by omega)]
theorem Bw {p n:Int}{T U:Nat->Nat->Nat->Nat}{f:Nat->Nat}(h:∀ i,i<6->∀ j,j<6->∀ k,k<6->T i j k=U i j k):AD p n T f=AD p n U f:=by
  unfold AD
  refine Az fun c hc=>?_
  by_cases h0:c=0
  . rw [if_pos h0,if_pos h0]
  . rw [if_neg h0,if_neg h0]
    by_cases h1:c=1
    . rw [if_pos h1,if_pos h1]
    . rw [if_neg h1,if_neg h1]
      by_cases h2:c<218
      . rw [if_pos h2,if_pos h2,h _ (by omega) _ (by omega) _ (by omega)]
      . rw [if_neg h2,if_neg h2]
def NB (T:Nat->Nat->Nat->Nat) (i j k:Nat):Nat:=T j i k
theorem L6 (p n:Nat)(T:Nat->Nat->Nat->Nat)(f uu:Nat->Nat)(w:World)(hp:primeN p)(hn0:0<n)(hn:n<=6)(hJ:∀ i j k,T i j k<p)(hH:UnitI p n T uu):JT Try.prog 152 #[.agg (AD (p:Int) (n:Int) T f)] w (.tuple #[.agg (AF uu),.bool true]):=
  (Fl p n T f w hp hn0 hn hJ).mono fun v w' _ h=>by
    rcases h with ⟨u,hu,rfl⟩ | ⟨hu,rfl⟩
    . rw [hH.unique hu]
    . exact absurd hH (hu uu)
theorem Hv (T:Nat->Nat->Nat->Nat)(w:World) :
    CallsR Try.prog 119 #[.agg (C9 T)] w (fun res _=>res = .agg (C9 (NB T))):=by
  refine AV [.agg (C9 T)] Try.func119 rfl Try.ntmps119 rfl fun a O=>?_;have J:AX w w [none,none,none,none,none] []:=MemX.start w 5;change Fr 26 a [(0,.agg (C9 T))] at O;refine sr<|Ae O (At 0 J O rfl) rfl ?_;rintro _ w' a ⟨b1,rfl,J,-⟩ O;refine Ae O (Aa 1 J JW) rfl ?_;rintro _ w' a ⟨b2,rfl,J,-⟩ O;refine ns<|Ae O (Aa 2 J JW) rfl ?_;rintro _ w' a ⟨b3,rfl,J,-⟩ O;change AX _ _ [some (b1,C9 T),some (b2,Al 216 (fun _=>.int .u8 (0))),some (b3,Al 216 (fun _=>.int .u8 (0))),_,_] [] at J;refine nt<|sq<|sr<|st O (AC Ew O rfl (J.row 0 rfl) (by simp only [AP]<;>omega) (whole (by simp only [AP]))) rfl fun a O=>mv O rfl rfl fun a O=>nt<|wp_block ?_;change AX _ _ [_,_,_,_,_] [] at J;refine Af (fun (kk:Nat) a w'=>kk<=6/\(True)/\Fr 26 a [(2,ptr b2 (0)),(3,ptr b3 (0)),(8,.agg (C9 T)),(9,.int .i64 (kk:Int))]/\AX w w' [some (b1,C9 T),some (b2,Al 216 (fun _=>.int .u8 (0))),some (b3,C9 (fun i j k=>if j<kk\/(j=kk/\i<0) then T j i k else 0)),none,none] []) (fun kk=>6 - kk) 0 ?_ ?_
  . refine ⟨by omega,trivial,O.sub _ (by repeat' constructor),?_⟩
    refine J.rowc 2 rfl (Az fun c hc=>by simp)
  clear O J;rintro gi a w' ⟨hgi,hO,O,J⟩;refine sr<|st O (Aj O rfl rfl) rfl fun a O=>nt<|sq<|AO O rfl (fun h4=>?_) (fun h4=>?_)
  . refine wp_skip ?_
    refine tN<|sq<|wp_block<|sr<|mv O rfl rfl fun a O=>st O (GE JZ F3 O rfl rfl rfl (by omega) (HT (gi) (by omega) (by omega) (by omega))) rfl fun a O=>Ae O (Aa 3 J JX) rfl ?_;rintro _ w' a ⟨b5,rfl,J,-⟩ O;change AX _ _ [_,_,_,some (b5,Al 36 (fun _=>.int .u8 (0))),_] [] at J;refine ag O rfl rfl fun a O=>BF O (AL 3 J rfl Jc O rfl rfl (by first | exact Ac | exact cells_one | (refine BO fun _ _=>?_;first | rfl | (split<;>rfl))) (by simp only [AP]) (by simp only [AP]<;>omega) (AI _ _ (by simp only [AP]))) ?_;intro _ w' a J O;change AX _ _ [_,_,_,some (b5,DC (T (gi))),_] [] at J;refine ns<|st O (AC F3 O rfl (J.row 3 rfl) (by simp only [AP]<;>omega) (whole (by simp only [AP]))) rfl fun a O=>mv O rfl rfl fun a O=>nt<|wp_block ?_;change AX _ _ [_,_,_,_,_] [] at J;refine Af (fun (kk:Nat) a w'=>kk<=6/\(True)/\Fr 26 a [(2,ptr b2 (0)),(3,ptr b3 (0)),(8,.agg (C9 T)),(9,.int .i64 (gi:Int)),(10,.bool (decide (((gi:Int):Int)<6))),(11,.int .i64 (gi:Int)),(12,.agg (DC (T (gi)))),(5,ptr b5 (0)),(4,.int .i64 (gi:Int)),(13,.agg (DC (T (gi)))),(14,.int .i64 (kk:Int))]/\AX w w' [some (b1,C9 T),some (b2,Al 216 (fun _=>.int .u8 (0))),some (b3,C9 (fun i j k=>if j<gi\/(j=gi/\i<kk) then T j i k else 0)),some (b5,DC (T (gi))),none] []) (fun kk=>6 - kk) 0 ?_ ?_
    . refine ⟨by omega,trivial,O.sub _ (by repeat' constructor),?_⟩
      exact J
    clear O J;rintro gj a w' ⟨hgj,hZ,O,J⟩;refine sr<|st O (Aj O rfl rfl) rfl fun a O=>nt<|sq<|AO O rfl (fun h6=>?_) (fun h6=>?_)
    . refine wp_skip ?_
      refine tN<|sq<|wp_block<|sr<|mv O rfl rfl fun a O=>st O (GE Ja Bv O rfl rfl rfl (by omega) (Hb (gj) (by omega) (by omega) (by omega))) rfl fun a O=>Ae O (Aa 4 J JY) rfl ?_;rintro _ w' a ⟨b7,rfl,J,-⟩ O;change AX _ _ [_,_,_,_,some (b7,Al 6 (fun _=>.int .u8 (0)))] [] at J;refine ag O rfl rfl fun a O=>BF O (AL 4 J rfl Du O rfl rfl Ac (by simp only [AP]) (by simp only [AP]<;>omega) (AI _ _ (by simp only [AP]))) ?_;intro _ w' a J O;change AX _ _ [_,_,_,_,some (b7,AF ((T (gi)) (gj)))] [] at J;refine nt<|BA 4 [] [.val (.int .i64 (gj:Int)),.val (.int .i64 (gi:Int)),.val (.agg (AF ((T (gi)) (gj)))),.val (ptr b3 (0+(gj)*36))] BT rfl O rfl J ⟨fun a w gG O hS hd=>by exact A8 hS rfl O rfl,fun a w gG O hS hd=>by exact A8 hS rfl O rfl,fun a w gG O hS hd=>by have J:=hS.mem rfl;exact AA hS rfl (AC Bv O rfl (J.row 4 rfl) (by simp only [AP]<;>omega) (whole (by simp only [AP]))),fun a w gG O hS hd=>by have O:=O.ext1 18 (hd 0 rfl rfl);exact AA hS rfl (AG BH O rfl rfl rfl (by omega)),trivial⟩ ?_;intro a w' L O hS hq;have O:=O.ext1 18 (hq 0 rfl rfl);have O:=O.ext1 19 (hq 1 rfl rfl);have O:=O.ext1 20 (hq 2 rfl rfl);have O:=O.ext1 21 (hq 3 rfl rfl);have J:=hS.mem rfl;change wpList Try.prog _ _ [_,_] _ _;refine st O (AG BI O rfl rfl rfl (by omega)) rfl fun a O=>BF O (AL 2 J rfl Du O rfl rfl Ac (by simp only [AP]) (by simp only [AP]<;>omega) (Ji (gj) (gi) (by omega) (by omega) (by omega))) ?_;intro _ w' a J O;change AX _ _ [_,_,some (b3,C9 (fun i j k=>if i=gj/\j=gi then (((T (gi)) (gj))) k else ((fun i j k=>if j<gi\/(j=gi/\i<gj) then T j i k else 0)) i j k)),_,_] [] at J;refine wpList_nil<|iN<|tN<|wp_region_lit<|st O (Ad O rfl rfl (AS (gj) (1) (by omega))) rfl fun a O=>mv O rfl rfl fun a O=>wpList_nil<|tN ?_;have J:=J.drop 4;refine ⟨gj+1,⟨by omega,trivial,O.sub _ (by repeat' constructor),?_⟩,by omega⟩;refine J.rowc 2 rfl (Fa fun i hi j hj k hk=>?_)
      by_cases e:i=gj/\j=gi
      . rw [if_pos e,if_pos (by omega),e.1,e.2]
      . have e0:(j<gi\/(j=gi/\i<gj+1))=(j<gi\/(j=gi/\i<gj)):=by apply propext;omega
        rw [if_neg e];simp only [e0]
    obtain rfl:6=gj:=by omega
    refine wp_exit<|tX<|tX<|AY<|iN<|tN<|wp_region_lit<|st O (Ad O rfl rfl (AS (gi) (1) (by omega))) rfl fun a O=>mv O rfl rfl fun a O=>wpList_nil<|tN ?_;have J:=J.drop 3;refine ⟨gi+1,⟨by omega,trivial,O.sub _ (by repeat' constructor),?_⟩,by omega⟩;refine J.rowc 2 rfl (Fa fun i hi j hj k hk=>?_)
    by_cases e:j<gi\/(j=gi/\i<6)
    . rw [if_pos e,if_pos (by omega)]
    . rw [if_neg e,if_neg (by omega)]
  obtain rfl:6=gi:=by omega
  have J:=J.rowc (cs':=C9 (NB T)) 2 rfl (Fa fun i hi j hj k hk=>by unfold NB;rw [if_pos (by omega)]);refine wp_exit<|tX<|tX<|AY<|tN<|sr<|st O (AC Ew O rfl (J.row 2 rfl) (by simp only [AP]<;>omega) (whole (by simp only [AP]))) rfl fun a O=>BF O (AL 1 J rfl Jb O rfl rfl (by first | exact Ac | exact cells_one | (refine BO fun _ _=>?_;first | rfl | (split<;>rfl))) (by simp only [AP]) (by simp only [AP]<;>omega) (AI _ _ (by simp only [AP]))) ?_;intro _ w' a J O;change AX _ _ [_,some (b2,C9 (NB T)),_,_,_] [] at J;refine nt<|wp_ret<|Ax rfl O.defers (A7 Ew O rfl (J.row 1 rfl) (by simp only [AP])) ⟨_,rfl,J.below,?_⟩
  show _=_
  rfl
theorem Hw (p n:Int)(T:Nat->Nat->Nat->Nat)(f:Nat->Nat)(w:World) :
    CallsR Try.prog 118 #[.agg (AD p n T f)] w (fun res _=>res = .agg (AD p n (NB T) f)):=by
  refine AV [.agg (AD p n T f)] Try.func118 rfl Try.ntmps118 rfl fun a O=>?_;have J:AX w w [none,none] []:=MemX.start w 2;change Fr 8 a [(0,.agg (AD p n T f))] at O;refine sr<|Ae O (At 0 J O rfl) rfl ?_;rintro _ w' a ⟨b1,rfl,J,-⟩ O;refine Ae O (Aa 1 J BM) rfl ?_;rintro _ w' a ⟨b2,rfl,J,-⟩ O;change AX _ _ [some (b1,AD p n T f),some (b2,AD 0 0 (fun _ _ _=>0) (fun _=>0))] [] at J;refine ns<|st O (AB Ay O rfl) rfl fun a O=>st O (AC Ew O rfl (J.row 0 rfl) (by simp only [AP]<;>omega) (KD (by omega) (by omega))) rfl fun a O=>Ae O (AN Try.call119 O (.cons rfl .nil) (Hv T _)) rfl ?_;rintro _ w' a ⟨hx,rfl⟩ O;have J:=J.ext hx;refine st O (AB Ay O rfl) rfl fun a O=>BF O (AL 0 J rfl Jb O rfl rfl (by first | exact Ac | exact cells_one | (refine BO fun _ _=>?_;first | rfl | (split<;>rfl))) (by simp only [AP]) (by simp only [AP]<;>omega) (MI (by omega))) ?_;intro _ w' a J O;change AX _ _ [some (b1,AD p n (NB T) f),_] [] at J;refine ns<|st O (AC AJ O rfl (J.row 0 rfl) (by simp only [AP]<;>omega) (whole AE)) rfl fun a O=>BF O (AL 1 J rfl A0 O rfl rfl cells_one (by simp only [AP]) (by simp only [AP]<;>omega) (AI _ _ (by simp only [AP]))) ?_;intro _ w' a J O;change AX _ _ [_,some (b2,AD p n (NB T) f)] [] at J;refine nt<|wp_ret<|Ax rfl O.defers (A7 AJ O rfl (J.row 1 rfl) (by simp only [AP])) ⟨_,rfl,J.below,?_⟩
  show _=_
  rfl
def QK (T:Nat->Nat->Nat->Nat):Prop:=∀ i,i<6->∀ j,j<i->JV 6 (T i j) (T j i)
theorem Kq (p n:Nat)(T:Nat->Nat->Nat->Nat)(f:Nat->Nat)(w:World)(hp:primeN p)(hn0:0<n)(hn:n<=6)(hJ:∀ i j k,T i j k<p)(uu:Nat->Nat)(hH:UnitI p n T uu) :
    CallsR Try.prog 102 #[.agg (AD (p:Int) (n:Int) T f)] w (fun res _=>res = .agg (AF uu)):=by
  refine AV [.agg (AD (p:Int) (n:Int) T f)] Try.func102 rfl Try.ntmps102 rfl fun a O=>?_;have J:AX w w [none,none,none] []:=MemX.start w 3;change Fr 11 a [(0,.agg (AD (p:Int) (n:Int) T f))] at O;refine sr<|Ae O (At 0 J O rfl) rfl ?_;rintro _ w' a ⟨b1,rfl,J,-⟩ O;refine Ae O (Aa 1 J Am) rfl ?_;rintro _ w' a ⟨b2,rfl,J,-⟩ O;change AX _ _ [some (b1,AD (p:Int) (n:Int) T f),some (b2,Al 6 (fun _=>.int .u8 (0))),_] [] at J;refine ns<|st O (AC AJ O rfl (J.row 0 rfl) (by simp only [AP]<;>omega) (whole AE)) rfl fun a O=>Ae O (AN Try.call152 O (.cons rfl .nil) (L6 p n T f uu _ hp hn0 hn hJ hH)) rfl ?_;rintro _ w' a ⟨hx,rfl⟩ O;have J:=J.ext hx;refine mv O rfl rfl fun a O=>st O (Ab O rfl rfl) rfl fun a O=>st O (Ab O rfl rfl) rfl fun a O=>Ae O (Aa 2 J Am) rfl ?_;rintro _ w' a ⟨b3,rfl,J,-⟩ O;change AX _ _ [_,_,some (b3,Al 6 (fun _=>.int .u8 (0)))] [] at J;refine BF O (AL 2 J rfl Ai O rfl rfl Ac (by simp only [AP]) (by simp only [AP]<;>omega) (AI _ _ (by simp only [AP]))) ?_;intro _ w' a J O;change AX _ _ [_,_,some (b3,AF uu)] [] at J;refine ag O rfl rfl fun a O=>ns<|st O (AC AU O rfl (J.row 2 rfl) (by simp only [AP]<;>omega) (whole (by simp only [AP]))) rfl fun a O=>BF O (AL 1 J rfl Ai O rfl rfl Ac (by simp only [AP]) (by simp only [AP]<;>omega) (AI _ _ (by simp only [AP]))) ?_;intro _ w' a J O;change AX _ _ [_,some (b2,AF uu),_] [] at J;refine nt<|wp_ret<|Ax rfl O.defers (A7 AU O rfl (J.row 1 rfl) (by simp only [AP])) ⟨_,rfl,J.below,?_⟩
  show _=_
  rfl
end Go.Proofs.Ytkcneleabbjkaaa
