import Derived.Test.YtkcneleabbjkaaaK2
set_option linter.unusedVariables false
set_option linter.unusedSimpArgs false
namespace Go.Proofs.Ytkcneleabbjkaaa
open Go Go.RowKit Go.Sw Go.Ech
open Classical
theorem KL:Fa Try.prog 26=some (.agg (A1 216 (fun _=>.int .u8 (0)))):=by kernel_rfl
theorem KP:DD Try.prog 26=some 216:=by kernel_rfl
theorem Au:Fa Try.prog 29=some (.agg (AD 0 0 (fun _ _ _=>0) (fun _=>0))):=by kernel_rfl
theorem An:DD Try.prog 29=some 224:=by kernel_rfl
theorem Em:Hh Try.prog 26=some (6,25,36):=by kernel_rfl
theorem En:Hh Try.prog 25=some (6,24,6):=by kernel_rfl
theorem NP:Try.prog.eqGuardType Try.prog.depth 26=false:=by kernel_rfl
theorem Du:∀ w,(Instr.build 29 #[]).run Try.prog w = .ok (.agg (AD 0 0 (fun _ _ _=>0) (fun _=>0))) w:=by intros;kernel_rfl
theorem KX {T:Nat->Nat->Nat->Nat}{v:Nat->Nat}{o:Nat}(a b:Nat)(h:o=a*36+b*6)(ha:a<6)(hb:b<6):splice (Cp T) o (AQ v)=Cp (fun i j k=>if i=a/\j=b then v k else T i j k):=by
  subst h;have hz:a*36+b*6+(AQ v).size<=(Cp T).size:=by rw [C8,Di];omega
  apply GF (by rw [C1 _ _ _ hz,Di])
  intro i hi;rw [BZ _ _ _ _ hz,C8]
  by_cases e:a*36+b*6<=i/\i<a*36+b*6+6
  . rw [if_pos e,Ba (i - (a*36+b*6)) rfl (by omega)];dsimp only;rw [if_pos ⟨by omega,by omega⟩,show i - (a*36+b*6)=i%6 by omega]
  . rw [if_neg e,II (i / 36) (i / 6%6) (i%6) (by omega) (by omega) (by omega) (by omega)];dsimp only;rw [if_neg (by omega)]
theorem DY {p n:Int}{T:Nat->Nat->Nat->Nat}{f v:Nat->Nat}{o:Nat}(a b:Nat)(h:o=2+a*36+b*6)(ha:a<6)(hb:b<6):splice (AD p n T f) o (AQ v)=AD p n (fun i j k=>if i=a/\j=b then v k else T i j k) f:=by
  subst h;have hz:2+a*36+b*6+(AQ v).size<=(AD p n T f).size:=by rw [C8,AG];omega
  refine EF (by rw [C1 _ _ _ hz,AG]) ?_ ?_ ?_ ?_
  . rw [BZ _ _ _ _ hz,if_neg (by omega)];exact BU rfl
  . rw [BZ _ _ _ _ hz,if_neg (by omega)];exact Ao rfl
  . intro i j k hi hj hk
    rw [BZ _ _ _ _ hz,C8]
    by_cases e:i=a/\j=b
    . rw [if_pos (by omega),if_pos e];exact Ba k (by omega) hk
    . rw [if_neg (by omega),if_neg e];exact CR i j k rfl hi hj hk
  . intro i hi;rw [BZ _ _ _ _ hz,C8,if_neg (by omega)];exact Cu i rfl hi
theorem GR {T U:Nat->Nat->Nat->Nat}(h:∀ i,i<6->∀ j,j<6->∀ k,k<6->T i j k=U i j k):Cp T=Cp U:=by
  unfold Cp
  exact BS fun c hc=>by rw [h _ (by omega) _ (by omega) _ (by omega)]
theorem Bc {p n:Int}{T U:Nat->Nat->Nat->Nat}{f:Nat->Nat}(h:∀ i,i<6->∀ j,j<6->∀ k,k<6->T i j k=U i j k):AD p n T f=AD p n U f:=by
  unfold AD
  refine BS fun c hc=>?_
  by_cases h0:c=0
  . rw [if_pos h0,if_pos h0]
  . rw [if_neg h0,if_neg h0]
    by_cases h1:c=1
    . rw [if_pos h1,if_pos h1]
    . rw [if_neg h1,if_neg h1]
      by_cases h2:c<218
      . rw [if_pos h2,if_pos h2,h _ (by omega) _ (by omega) _ (by omega)]
      . rw [if_neg h2,if_neg h2]
def trT (T:Nat->Nat->Nat->Nat) (i j k:Nat):Nat:=T j i k
theorem Ev {P:Program}{d:Nat}{t1 t2 t3 e:TypeId}{T U:Nat->Nat->Nat->Nat}(h1:Hh P t1=some (6,t2,36))(a1:FY P t2=some 36)(h2:Hh P t2=some (6,t3,6))(a2:FY P t3=some 6)(h3:Hh P t3=some (6,e,1))(he:Kr P e=true)(ho:FB P e=true) :
    Go.Sw.EqAt P (d+4) t1 (.agg (Cp T)) (.agg (Cp U)) (Pf T U):=
  (JZ (q:=fun i=>Q3 (T i) (U i)) h1 a1 fun i hi=>by
    rw [E7 i rfl rfl hi,E7 i rfl rfl hi]
    exact (JZ (q:=fun j=>IA 6 (T i j) (U i j)) h2 a2 fun j hj=>by
      rw [FA j rfl rfl hj,FA j rfl rfl hj]
      exact CT h3 he ho).congr Iff.rfl).congr Iff.rfl
theorem NA (p n:Nat)(T:Nat->Nat->Nat->Nat)(f uu:Nat->Nat)(w:World)(hp:primeN p)(hn0:0<n)(hn:n<=6)(hO:∀ i j k,T i j k<p)(huu:UnitI p n T uu):KK Try.prog 152 #[.agg (AD (p:Int) (n:Int) T f)] w (.tuple #[.agg (AQ uu),.bool true]):=
  (Ga p n T f w hp hn0 hn hO).mono fun v w' _ h=>by
    rcases h with ⟨u,hu,rfl⟩ | ⟨hu,rfl⟩
    . rw [huu.unique hu]
    . exact absurd huu (hu uu)
theorem GM (T:Nat->Nat->Nat->Nat)(w:World) :
    CallsR Try.prog 119 #[.agg (Cp T)] w (fun res _=>res = .agg (Cp (trT T))):=by
  refine Al [.agg (Cp T)] Try.func119 rfl Try.ntmps119 rfl fun a O=>?_;have J:Ag w w [none,none,none,none,none] []:=MemX.start w 5;change Fr 26 a [(0,.agg (Cp T))] at O;refine sr<|Ar O (BI 0 J O rfl) rfl ?_;rintro _ w' a ⟨b1,rfl,J,-⟩ O;refine Ar O (Ah 1 J KL) rfl ?_;rintro _ w' a ⟨b2,rfl,J,-⟩ O;refine ns<|Ar O (Ah 2 J KL) rfl ?_;rintro _ w' a ⟨b3,rfl,J,-⟩ O;change Ag _ _ [some (b1,Cp T),some (b2,A1 216 (fun _=>.int .u8 (0))),some (b3,A1 216 (fun _=>.int .u8 (0))),_,_] [] at J;refine nt<|sq<|sr<|st O (AE Co O rfl (J.row 0 rfl) (by simp only [Aa]<;>omega) (whole (by simp only [Aa]))) rfl fun a O=>mv O rfl rfl fun a O=>nt<|wp_block ?_;change Ag _ _ [_,_,_,_,_] [] at J;refine Av (fun (kk:Nat) a w'=>kk<=6/\(True)/\Fr 26 a [(2,ptr b2 (0)),(3,ptr b3 (0)),(8,.agg (Cp T)),(9,.int .i64 (kk:Int))]/\Ag w w' [some (b1,Cp T),some (b2,A1 216 (fun _=>.int .u8 (0))),some (b3,Cp (fun i j k=>if j<kk\/(j=kk/\i<0) then T j i k else 0)),none,none] []) (fun kk=>6 - kk) 0 ?_ ?_
  . refine ⟨by omega,trivial,O.sub _ (by repeat' constructor),?_⟩
    refine J.rowc 2 rfl (BS fun c hc=>by simp)
  clear O J;rintro gi a w' ⟨hgi,hH,O,J⟩;refine sr<|st O (A0 O rfl rfl) rfl fun a O=>nt<|sq<|Ab O rfl (fun h4=>?_) (fun h4=>?_)
  . refine wp_skip ?_
    refine tN<|sq<|wp_block<|sr<|mv O rfl rfl fun a O=>st O (G0 KN DG O rfl rfl rfl (by omega) (E7 (gi) (by omega) (by omega) (by omega))) rfl fun a O=>Ar O (Ah 3 J KM) rfl ?_;rintro _ w' a ⟨b5,rfl,J,-⟩ O;change Ag _ _ [_,_,_,some (b5,A1 36 (fun _=>.int .u8 (0))),_] [] at J;refine ag O rfl rfl fun a O=>BQ O (AJ 3 J rfl KQ O rfl rfl (by first | exact At | exact cells_one | (refine Bd fun _ _=>?_;first | rfl | (split<;>rfl))) (by simp only [Aa]) (by simp only [Aa]<;>omega) (AH _ _ (by simp only [Aa]))) ?_;intro _ w' a J O;change Ag _ _ [_,_,_,some (b5,Db (T (gi))),_] [] at J;refine ns<|st O (AE DG O rfl (J.row 3 rfl) (by simp only [Aa]<;>omega) (whole (by simp only [Aa]))) rfl fun a O=>mv O rfl rfl fun a O=>nt<|wp_block ?_;change Ag _ _ [_,_,_,_,_] [] at J;refine Av (fun (kk:Nat) a w'=>kk<=6/\(True)/\Fr 26 a [(2,ptr b2 (0)),(3,ptr b3 (0)),(8,.agg (Cp T)),(9,.int .i64 (gi:Int)),(10,.bool (decide (((gi:Int):Int)<6))),(11,.int .i64 (gi:Int)),(12,.agg (Db (T (gi)))),(5,ptr b5 (0)),(4,.int .i64 (gi:Int)),(13,.agg (Db (T (gi)))),(14,.int .i64 (kk:Int))]/\Ag w w' [some (b1,Cp T),some (b2,A1 216 (fun _=>.int .u8 (0))),some (b3,Cp (fun i j k=>if j<gi\/(j=gi/\i<kk) then T j i k else 0)),some (b5,Db (T (gi))),none] []) (fun kk=>6 - kk) 0 ?_ ?_
    . refine ⟨by omega,trivial,O.sub _ (by repeat' constructor),?_⟩
      exact J
    clear O J;rintro gj a w' ⟨hgj,hJ,O,J⟩;refine sr<|st O (A0 O rfl rfl) rfl fun a O=>nt<|sq<|Ab O rfl (fun h6=>?_) (fun h6=>?_)
    . refine wp_skip ?_
      refine tN<|sq<|wp_block<|sr<|mv O rfl rfl fun a O=>st O (G0 KO BY O rfl rfl rfl (by omega) (FA (gj) (by omega) (by omega) (by omega))) rfl fun a O=>Ar O (Ah 4 J Gk) rfl ?_;rintro _ w' a ⟨b7,rfl,J,-⟩ O;change Ag _ _ [_,_,_,_,some (b7,A1 6 (fun _=>.int .u8 (0)))] [] at J;refine ag O rfl rfl fun a O=>BQ O (AJ 4 J rfl Cy O rfl rfl At (by simp only [Aa]) (by simp only [Aa]<;>omega) (AH _ _ (by simp only [Aa]))) ?_;intro _ w' a J O;change Ag _ _ [_,_,_,_,some (b7,AQ ((T (gi)) (gj)))] [] at J;refine nt<|BV 4 [] [.val (.int .i64 (gj:Int)),.val (.int .i64 (gi:Int)),.val (.agg (AQ ((T (gi)) (gj)))),.val (ptr b3 (0+(gj)*36))] Bf rfl O rfl J ⟨fun a w gG O hS hd=>by exact BP hS rfl O rfl,fun a w gG O hS hd=>by exact BP hS rfl O rfl,fun a w gG O hS hd=>by have J:=hS.mem rfl;exact AA hS rfl (AE BY O rfl (J.row 4 rfl) (by simp only [Aa]<;>omega) (whole (by simp only [Aa]))),fun a w gG O hS hd=>by have O:=O.ext1 18 (hd 0 rfl rfl);exact AA hS rfl (AF BF O rfl rfl rfl (by omega)),trivial⟩ ?_;intro a w' L O hS hq;have O:=O.ext1 18 (hq 0 rfl rfl);have O:=O.ext1 19 (hq 1 rfl rfl);have O:=O.ext1 20 (hq 2 rfl rfl);have O:=O.ext1 21 (hq 3 rfl rfl);have J:=hS.mem rfl;change wpList Try.prog _ _ [_,_] _ _;refine st O (AF BG O rfl rfl rfl (by omega)) rfl fun a O=>BQ O (AJ 2 J rfl Cy O rfl rfl At (by simp only [Aa]) (by simp only [Aa]<;>omega) (KX (gj) (gi) (by omega) (by omega) (by omega))) ?_;intro _ w' a J O;change Ag _ _ [_,_,some (b3,Cp (fun i j k=>if i=gj/\j=gi then (((T (gi)) (gj))) k else ((fun i j k=>if j<gi\/(j=gi/\i<gj) then T j i k else 0)) i j k)),_,_] [] at J;refine wpList_nil<|iN<|tN<|wp_region_lit<|st O (Ap O rfl rfl (Af (gj) (1) (by omega))) rfl fun a O=>mv O rfl rfl fun a O=>wpList_nil<|tN ?_;have J:=J.drop 4;refine ⟨gj+1,⟨by omega,trivial,O.sub _ (by repeat' constructor),?_⟩,by omega⟩;refine J.rowc 2 rfl (GR fun i hi j hj k hk=>?_)
      by_cases e:i=gj/\j=gi
      . rw [if_pos e,if_pos (by omega),e.1,e.2]
      . have e0:(j<gi\/(j=gi/\i<gj+1))=(j<gi\/(j=gi/\i<gj)):=by apply propext;omega
        rw [if_neg e];simp only [e0]
    obtain rfl:6=gj:=by omega
    refine wp_exit<|tX<|tX<|Am<|iN<|tN<|wp_region_lit<|st O (Ap O rfl rfl (Af (gi) (1) (by omega))) rfl fun a O=>mv O rfl rfl fun a O=>wpList_nil<|tN ?_;have J:=J.drop 3;refine ⟨gi+1,⟨by omega,trivial,O.sub _ (by repeat' constructor),?_⟩,by omega⟩;refine J.rowc 2 rfl (GR fun i hi j hj k hk=>?_)
    by_cases e:j<gi\/(j=gi/\i<6)
    . rw [if_pos e,if_pos (by omega)]
    . rw [if_neg e,if_neg (by omega)]
  obtain rfl:6=gi:=by omega
  have J:=J.rowc (cs':=Cp (trT T)) 2 rfl (GR fun i hi j hj k hk=>by unfold trT;rw [if_pos (by omega)]);refine wp_exit<|tX<|tX<|Am<|tN<|sr<|st O (AE Co O rfl (J.row 2 rfl) (by simp only [Aa]<;>omega) (whole (by simp only [Aa]))) rfl fun a O=>BQ O (AJ 1 J rfl KP O rfl rfl (by first | exact At | exact cells_one | (refine Bd fun _ _=>?_;first | rfl | (split<;>rfl))) (by simp only [Aa]) (by simp only [Aa]<;>omega) (AH _ _ (by simp only [Aa]))) ?_;intro _ w' a J O;change Ag _ _ [_,some (b2,Cp (trT T)),_,_,_] [] at J;refine nt<|wp_ret<|BC rfl O.defers (A5 Co O rfl (J.row 1 rfl) (by simp only [Aa])) ⟨_,rfl,J.below,?_⟩
  show _=_
  rfl
theorem Iw (p n:Int)(T:Nat->Nat->Nat->Nat)(f:Nat->Nat)(w:World) :
    CallsR Try.prog 118 #[.agg (AD p n T f)] w (fun res _=>res = .agg (AD p n (trT T) f)):=by
  refine Al [.agg (AD p n T f)] Try.func118 rfl Try.ntmps118 rfl fun a O=>?_;have J:Ag w w [none,none] []:=MemX.start w 2;change Fr 8 a [(0,.agg (AD p n T f))] at O;refine sr<|Ar O (BI 0 J O rfl) rfl ?_;rintro _ w' a ⟨b1,rfl,J,-⟩ O;refine Ar O (Ah 1 J Au) rfl ?_;rintro _ w' a ⟨b2,rfl,J,-⟩ O;change Ag _ _ [some (b1,AD p n T f),some (b2,AD 0 0 (fun _ _ _=>0) (fun _=>0))] [] at J;refine ns<|st O (AB Ax O rfl) rfl fun a O=>st O (AE Co O rfl (J.row 0 rfl) (by simp only [Aa]<;>omega) (Fv (by omega) (by omega))) rfl fun a O=>Ar O (Ae Try.call119 O (.cons rfl .nil) (GM T _)) rfl ?_;rintro _ w' a ⟨hx,rfl⟩ O;have J:=J.ext hx;refine st O (AB Ax O rfl) rfl fun a O=>BQ O (AJ 0 J rfl KP O rfl rfl (by first | exact At | exact cells_one | (refine Bd fun _ _=>?_;first | rfl | (split<;>rfl))) (by simp only [Aa]) (by simp only [Aa]<;>omega) (NJ (by omega))) ?_;intro _ w' a J O;change Ag _ _ [some (b1,AD p n (trT T) f),_] [] at J;refine ns<|st O (AE AI O rfl (J.row 0 rfl) (by simp only [Aa]<;>omega) (whole AG)) rfl fun a O=>BQ O (AJ 1 J rfl An O rfl rfl cells_one (by simp only [Aa]) (by simp only [Aa]<;>omega) (AH _ _ (by simp only [Aa]))) ?_;intro _ w' a J O;change Ag _ _ [_,some (b2,AD p n (trT T) f)] [] at J;refine nt<|wp_ret<|BC rfl O.defers (A5 AI O rfl (J.row 1 rfl) (by simp only [Aa])) ⟨_,rfl,J.below,?_⟩
  show _=_
  rfl
def KD (T:Nat->Nat->Nat->Nat):Prop:=∀ i,i<6->∀ j,j<i->IA 6 (T i j) (T j i)
theorem K4 {T:Nat->Nat->Nat->Nat}:Pf T (trT T)↔KD T:=by
  constructor
  . intro h i hi j hj;exact h i hi j (by omega)
  . intro h i hi j hj k hk
    show T i j k=T j i k
    rcases Nat.lt_trichotomy i j with e | e | e
    . exact (h j hj i e k hk).symm
    . rw [e]
    . exact h i hi j e k hk
theorem Gu (p n:Int)(T:Nat->Nat->Nat->Nat)(f:Nat->Nat)(w:World) :
    CallsR Try.prog 122 #[.agg (AD p n T f)] w (fun res _=>res = .bool (decide (KD T))):=by
  refine Al [.agg (AD p n T f)] Try.func122 rfl Try.ntmps122 rfl fun a O=>?_;have J:Ag w w [none] []:=MemX.start w 1;change Fr 27 a [(0,.agg (AD p n T f))] at O;refine sr<|Ar O (BI 0 J O rfl) rfl ?_;rintro _ w' a ⟨b1,rfl,J,-⟩ O;refine ag O rfl rfl fun a O=>nt<|sq<|sr<|ag O rfl rfl fun a O=>nt<|wp_block ?_;change Ag _ _ [some (b1,AD p n T f)] [] at J;refine Av (fun (kk:Nat) a w'=>kk<=6/\(∀ i,i<kk->∀ j,j<i->IA 6 (T i j) (T j i))/\Fr 27 a [(1,ptr b1 (0)),(3,.int .i64 (kk:Int))]/\Ag w w' [some (b1,AD p n T f)] []) (fun kk=>6 - kk) 0 ?_ ?_
  . refine ⟨by omega,fun i hi=>absurd hi (by omega),O.sub _ (by repeat' constructor),?_⟩
    exact J
  clear O J;rintro gi a w' ⟨hgi,hH,O,J⟩;refine sq<|sr<|mv O rfl rfl fun a O=>st O (A0 O rfl rfl) rfl fun a O=>nt<|Ab O rfl (fun h2=>?_) (fun h2=>?_)
  . refine wp_skip ?_
    refine tN<|sq<|wp_block<|sr<|ag O rfl rfl fun a O=>nt<|wp_block ?_;change Ag w _ [some (b1,AD p n T f)] [] at J;refine Av (fun (kk:Nat) a w'=>kk<=gi/\(∀ j,j<kk->IA 6 (T gi j) (T j gi))/\Fr 27 a [(1,ptr b1 (0)),(3,.int .i64 (gi:Int)),(5,.int .i64 (gi:Int)),(6,.bool (decide (((gi:Int):Int)<6))),(4,.int .i64 (kk:Int))]/\Ag w w' [some (b1,AD p n T f)] []) (fun kk=>gi - kk) 0 ?_ ?_
    . refine ⟨by omega,fun i hi=>absurd hi (by omega),O.sub _ (by repeat' constructor),?_⟩
      exact J
    clear O J;rintro gj a w' ⟨hgj,hJ,O,J⟩;refine sq<|sr<|mv O rfl rfl fun a O=>mv O rfl rfl fun a O=>st O (A0 O rfl rfl) rfl fun a O=>nt<|Ab O rfl (fun h3=>?_) (fun h3=>?_)
    . refine wp_skip ?_
      refine tN<|sq<|wp_block<|sq<|BV 12 [] [.val (.int .i64 (gi:Int)),.val (.int .i64 (gj:Int)),.val (ptr b1 (0+2)),.val (ptr b1 (0+2+(gi)*36)),.val (ptr b1 (0+2+(gi)*36+(gj)*6)),.val (.agg (AQ (T (gi) (gj)))),.val (.int .i64 (gj:Int)),.val (.int .i64 (gi:Int)),.val (ptr b1 (0+2)),.val (ptr b1 (0+2+(gj)*36)),.val (ptr b1 (0+2+(gj)*36+(gi)*6)),.val (.agg (AQ (T (gj) (gi))))] Bf rfl O rfl J ⟨fun a w gG O hS hd=>by exact BP hS rfl O rfl,fun a w gG O hS hd=>by exact BP hS rfl O rfl,fun a w gG O hS hd=>by exact AA hS rfl (AB Ax O rfl),fun a w gG O hS hd=>by have O:=O.ext1 14 (hd 0 rfl rfl);have O:=O.ext1 16 (hd 2 rfl rfl);exact AA hS rfl (AF BF O rfl rfl rfl (by omega)),fun a w gG O hS hd=>by have O:=O.ext1 15 (hd 1 rfl rfl);have O:=O.ext1 17 (hd 3 rfl rfl);exact AA hS rfl (AF BG O rfl rfl rfl (by omega)),fun a w gG O hS hd=>by have O:=O.ext1 18 (hd 4 rfl rfl);have J:=hS.mem rfl;exact AA hS rfl (AE BY O rfl (J.row 0 rfl) (by simp only [Aa]<;>omega) (CQ (gi) (gj) (by omega) (by omega) (by omega) (by omega))),fun a w gG O hS hd=>by exact BP hS rfl O rfl,fun a w gG O hS hd=>by exact BP hS rfl O rfl,fun a w gG O hS hd=>by exact AA hS rfl (AB Ax O rfl),fun a w gG O hS hd=>by have O:=O.ext1 20 (hd 6 rfl rfl);have O:=O.ext1 22 (hd 8 rfl rfl);exact AA hS rfl (AF BF O rfl rfl rfl (by omega)),fun a w gG O hS hd=>by have O:=O.ext1 21 (hd 7 rfl rfl);have O:=O.ext1 23 (hd 9 rfl rfl);exact AA hS rfl (AF BG O rfl rfl rfl (by omega)),fun a w gG O hS hd=>by have O:=O.ext1 24 (hd 10 rfl rfl);have J:=hS.mem rfl;exact AA hS rfl (AE BY O rfl (J.row 0 rfl) (by simp only [Aa]<;>omega) (CQ (gj) (gi) (by omega) (by omega) (by omega) (by omega))),trivial⟩ ?_;intro a w' L O hS hq;have O:=O.ext1 14 (hq 0 rfl rfl);have O:=O.ext1 15 (hq 1 rfl rfl);have O:=O.ext1 16 (hq 2 rfl rfl);have O:=O.ext1 17 (hq 3 rfl rfl);have O:=O.ext1 18 (hq 4 rfl rfl);have O:=O.ext1 19 (hq 5 rfl rfl);have O:=O.ext1 20 (hq 6 rfl rfl);have O:=O.ext1 21 (hq 7 rfl rfl);have O:=O.ext1 22 (hq 8 rfl rfl);have O:=O.ext1 23 (hq 9 rfl rfl);have O:=O.ext1 24 (hq 10 rfl rfl);have O:=O.ext1 25 (hq 11 rfl rfl);have J:=hS.mem rfl;change wpList Try.prog _ _ [_] _ _;refine st O (ET IG O rfl rfl (CT DZ CL Ai)) rfl fun a O=>nt<|Ab O rfl (fun h4=>?_) (fun h4=>?_)
      . refine sq ?_
        refine wp_region_lit<|ag O rfl rfl fun a O=>nt<|wp_ret<|iR<|tR<|tR<|iR<|iR<|tR<|tR<|iR<|tR<|BC rfl O.defers (Ad O rfl) ⟨_,rfl,J.below,?_⟩
        show _=_
        exact Cd (fun hq=>(by assumption:¬ IA 6 _ _) (hq gi (by omega) gj (by omega)))
      refine wp_skip<|iN<|tN<|wp_region_lit<|mv O rfl rfl fun a O=>st O (Ap O rfl rfl (Af (gj) (1) (by omega))) rfl fun a O=>ag O rfl rfl fun a O=>nt<|⟨gj+1,⟨by omega,Ei hJ (Decidable.not_not.1 (by assumption)),O.sub _ (by repeat' constructor),?_⟩,by omega⟩;exact J
    obtain rfl:gi=gj:=by omega
    refine wp_exit<|tX<|tX<|Am<|iN<|tN<|wp_region_lit<|mv O rfl rfl fun a O=>st O (Ap O rfl rfl (Af (gi) (1) (by omega))) rfl fun a O=>ag O rfl rfl fun a O=>nt<|⟨gi+1,⟨by omega,Ei hH hJ,O.sub _ (by repeat' constructor),?_⟩,by omega⟩;exact J
  obtain rfl:6=gi:=by omega
  refine wp_exit<|tX<|tX<|Am<|tN<|sr<|ag O rfl rfl fun a O=>nt<|wp_ret<|BC rfl O.defers (Ad O rfl) ⟨_,rfl,J.below,?_⟩
  show _=_
  exact Ge hH
theorem Lh (p n:Nat)(T:Nat->Nat->Nat->Nat)(f:Nat->Nat)(w:World)(hp:primeN p)(hn0:0<n)(hn:n<=6)(hO:∀ i j k,T i j k<p)(uu:Nat->Nat)(huu:UnitI p n T uu) :
    CallsR Try.prog 102 #[.agg (AD (p:Int) (n:Int) T f)] w (fun res _=>res = .agg (AQ uu)):=by
  refine Al [.agg (AD (p:Int) (n:Int) T f)] Try.func102 rfl Try.ntmps102 rfl fun a O=>?_;have J:Ag w w [none,none,none] []:=MemX.start w 3;change Fr 11 a [(0,.agg (AD (p:Int) (n:Int) T f))] at O;refine sr<|Ar O (BI 0 J O rfl) rfl ?_;rintro _ w' a ⟨b1,rfl,J,-⟩ O;refine Ar O (Ah 1 J BE) rfl ?_;rintro _ w' a ⟨b2,rfl,J,-⟩ O;change Ag _ _ [some (b1,AD (p:Int) (n:Int) T f),some (b2,A1 6 (fun _=>.int .u8 (0))),_] [] at J;refine ns<|st O (AE AI O rfl (J.row 0 rfl) (by simp only [Aa]<;>omega) (whole AG)) rfl fun a O=>Ar O (Ae Try.call152 O (.cons rfl .nil) (NA p n T f uu _ hp hn0 hn hO huu)) rfl ?_;rintro _ w' a ⟨hx,rfl⟩ O;have J:=J.ext hx;refine mv O rfl rfl fun a O=>st O (Aj O rfl rfl) rfl fun a O=>st O (Aj O rfl rfl) rfl fun a O=>Ar O (Ah 2 J BE) rfl ?_;rintro _ w' a ⟨b3,rfl,J,-⟩ O;change Ag _ _ [_,_,some (b3,A1 6 (fun _=>.int .u8 (0)))] [] at J;refine BQ O (AJ 2 J rfl A3 O rfl rfl At (by simp only [Aa]) (by simp only [Aa]<;>omega) (AH _ _ (by simp only [Aa]))) ?_;intro _ w' a J O;change Ag _ _ [_,_,some (b3,AQ uu)] [] at J;refine ag O rfl rfl fun a O=>ns<|st O (AE Aq O rfl (J.row 2 rfl) (by simp only [Aa]<;>omega) (whole (by simp only [Aa]))) rfl fun a O=>BQ O (AJ 1 J rfl A3 O rfl rfl At (by simp only [Aa]) (by simp only [Aa]<;>omega) (AH _ _ (by simp only [Aa]))) ?_;intro _ w' a J O;change Ag _ _ [_,some (b2,AQ uu),_] [] at J;refine nt<|wp_ret<|BC rfl O.defers (A5 Aq O rfl (J.row 1 rfl) (by simp only [Aa])) ⟨_,rfl,J.below,?_⟩
  show _=_
  rfl
theorem H2 (p n:Int)(T:Nat->Nat->Nat->Nat)(f:Nat->Nat)(w:World)(hT:∀ i j k,T i j k<=255)(hf:∀ i,f i<=255)(hc:¬ Cx p n T f 0 (Cj [])) :
    CallsR Try.prog 45 #[.agg (AD p n T f)] w (fun res _=>res = .tuple #[.bool false,.int .i64 1]):=by
  refine Al [.agg (AD p n T f)] Try.func45 rfl Try.ntmps45 rfl fun a O=>?_;have J:Ag w w [none] []:=MemX.start w 1;change Fr 12 a [(0,.agg (AD p n T f))] at O;refine sr<|Ar O (BI 0 J O rfl) rfl ?_;rintro _ w' a ⟨b1,rfl,J,-⟩ O;change Ag _ _ [some (b1,AD p n T f)] [] at J;refine ag O rfl rfl fun a O=>ag O rfl rfl fun a O=>nt<|sq<|sr<|st O (AE AI O rfl (J.row 0 rfl) (by simp only [Aa]<;>omega) (whole AG)) rfl fun a O=>Ar O (Ae Try.call88 O (.cons rfl (.cons rfl .nil)) ((CallsR.val (DW p n T f (Cj []) _ (fun _ _ _=>hT _ _ _) (fun _=>hf _)) (congrArg (Value.int .i64) (if_neg hc))))) rfl ?_;rintro _ w' a ⟨hx,rfl⟩ O;have J:=J.ext hx;refine ag O rfl rfl fun a O=>ns<|mv O rfl rfl fun a O=>st O (By O rfl rfl) rfl fun a O=>nt<|I2 O rfl (by decide)<|sr<|mv O rfl rfl fun a O=>ag O rfl rfl fun a O=>ag O rfl rfl fun a O=>nt<|wp_ret<|tR<|CN rfl O.defers (Ad O rfl) (Ad O rfl) ⟨_,rfl,J.below,?_⟩
  show _=_
  rfl
theorem H1 (p n:Nat)(T:Nat->Nat->Nat->Nat)(f:Nat->Nat)(w:World)(hp:primeN p)(hn0:0<n)(hn:n<=6)(hO:∀ i j k,T i j k<p)(hT0:∀ i j k,n<=k->T i j k=0)(hf:∀ i,f i<=255)(hc:Cx (p:Int) (n:Int) T f 0 (Cj [])) :
    CallsR Try.prog 45 #[.agg (AD (p:Int) (n:Int) T f)] w (fun res _=>res = .tuple #[.bool (decide (KD T)),.int .i64 0]):=by
  refine Al [.agg (AD (p:Int) (n:Int) T f)] Try.func45 rfl Try.ntmps45 rfl fun a O=>?_;have J:Ag w w [none] []:=MemX.start w 1;change Fr 12 a [(0,.agg (AD (p:Int) (n:Int) T f))] at O;have hp2:=hp.two;have hZ:=hp.le;have hT:∀ i j k,T i j k<=255:=fun i j k=>by have:=hO i j k;omega
  refine sr<|Ar O (BI 0 J O rfl) rfl ?_;rintro _ w' a ⟨b1,rfl,J,-⟩ O;change Ag _ _ [some (b1,AD (p:Int) (n:Int) T f)] [] at J;refine ag O rfl rfl fun a O=>ag O rfl rfl fun a O=>nt<|sq<|sr<|st O (AE AI O rfl (J.row 0 rfl) (by simp only [Aa]<;>omega) (whole AG)) rfl fun a O=>Ar O (Ae Try.call88 O (.cons rfl (.cons rfl .nil)) ((CallsR.val (DW (p:Int) (n:Int) T f (Cj []) _ (fun _ _ _=>hT _ _ _) (fun _=>hf _)) (congrArg (Value.int .i64) (if_pos hc))))) rfl ?_;rintro _ w' a ⟨hx,rfl⟩ O;have J:=J.ext hx;refine ag O rfl rfl fun a O=>ns<|mv O rfl rfl fun a O=>st O (By O rfl rfl) rfl fun a O=>nt<|Im O rfl (by decide)<|wp_skip<|tN<|sr<|st O (AE AI O rfl (J.row 0 rfl) (by simp only [Aa]<;>omega) (whole AG)) rfl fun a O=>Ar O (Ae Try.call122 O (.cons rfl .nil) (Gu (p:Int) (n:Int) T f _)) rfl ?_;rintro _ w' a ⟨hx,rfl⟩ O;have J:=J.ext hx;refine ag O rfl rfl fun a O=>ag O rfl rfl fun a O=>nt<|wp_ret<|CN rfl O.defers (Ad O rfl) (Ad O rfl) ⟨_,rfl,J.below,?_⟩
  show _=_
  rfl
theorem H3 (p n:Int)(T:Nat->Nat->Nat->Nat)(f:Nat->Nat)(w:World)(hT:∀ i j k,T i j k<=255)(hf:∀ i,f i<=255)(hc:¬ Cx p n T f 0 (Cj [])) :
    CallsR Try.prog 41 #[.agg (AD p n T f)] w (fun res _=>res = .tuple #[.bool false,.int .i64 1]):=by
  refine Al [.agg (AD p n T f)] Try.func41 rfl Try.ntmps41 rfl fun a O=>?_;have J:Ag w w [none] []:=MemX.start w 1;change Fr 13 a [(0,.agg (AD p n T f))] at O;refine sr<|Ar O (BI 0 J O rfl) rfl ?_;rintro _ w' a ⟨b1,rfl,J,-⟩ O;change Ag _ _ [some (b1,AD p n T f)] [] at J;refine ag O rfl rfl fun a O=>ag O rfl rfl fun a O=>nt<|sq<|sr<|st O (AE AI O rfl (J.row 0 rfl) (by simp only [Aa]<;>omega) (whole AG)) rfl fun a O=>Ar O (Ae Try.call12 O (.cons rfl .nil) ((CallsR.val (Br p n T f _ (fun _ _ _=>hT _ _ _) (fun _=>hf _)) (congrArg Value.bool (decide_eq_false (fun h=>hc ⟨h,fun i hi=>absurd hi (by omega)⟩)))))) rfl ?_;rintro _ w' a ⟨hx,rfl⟩ O;have J:=J.ext hx;refine st O (Cw (b:=false) O rfl) rfl fun a O=>nt<|It O rfl<|sr<|ag O rfl rfl fun a O=>ag O rfl rfl fun a O=>nt<|wp_ret<|tR<|CN rfl O.defers (Ad O rfl) (Ad O rfl) ⟨_,rfl,J.below,?_⟩
  show _=_
  rfl
theorem FX (p n:Nat)(T:Nat->Nat->Nat->Nat)(f:Nat->Nat)(w:World)(hp:primeN p)(hn0:0<n)(hn:n<=6)(hO:∀ i j k,T i j k<p)(hT0:∀ i j k,n<=k->T i j k=0)(hf:∀ i,f i<=255)(hc:Cx (p:Int) (n:Int) T f 0 (Cj [])) :
    CallsR Try.prog 41 #[.agg (AD (p:Int) (n:Int) T f)] w (fun res _=>res = .tuple #[.bool (decide (Pf T (trT T))),.int .i64 0]):=by
  refine Al [.agg (AD (p:Int) (n:Int) T f)] Try.func41 rfl Try.ntmps41 rfl fun a O=>?_;have J:Ag w w [none] []:=MemX.start w 1;change Fr 13 a [(0,.agg (AD (p:Int) (n:Int) T f))] at O;have hp2:=hp.two;have hZ:=hp.le;have hT:∀ i j k,T i j k<=255:=fun i j k=>by have:=hO i j k;omega
  refine sr<|Ar O (BI 0 J O rfl) rfl ?_;rintro _ w' a ⟨b1,rfl,J,-⟩ O;change Ag _ _ [some (b1,AD (p:Int) (n:Int) T f)] [] at J;refine ag O rfl rfl fun a O=>ag O rfl rfl fun a O=>nt<|sq<|sr<|st O (AE AI O rfl (J.row 0 rfl) (by simp only [Aa]<;>omega) (whole AG)) rfl fun a O=>Ar O (Ae Try.call12 O (.cons rfl .nil) ((CallsR.val (Br (p:Int) (n:Int) T f _ (fun _ _ _=>hT _ _ _) (fun _=>hf _)) (congrArg Value.bool (decide_eq_true hc.1))))) rfl ?_;rintro _ w' a ⟨hx,rfl⟩ O;have J:=J.ext hx;refine st O (Cw (b:=true) O rfl) rfl fun a O=>nt<|EE O rfl<|wp_skip<|tN<|sq<|BV 5 [] [.val (ptr b1 (0+2)),.val (.agg (Cp T)),.val (ptr b1 (0+2)),.val (.agg (Cp T)),.val (.agg (Cp (trT T)))] Bf rfl O rfl J ⟨fun a w gG O hS hd=>by exact AA hS rfl (AB Ax O rfl),fun a w gG O hS hd=>by have O:=O.ext1 7 (hd 0 rfl rfl);have J:=hS.mem rfl;exact AA hS rfl (AE Co O rfl (J.row 0 rfl) (by simp only [Aa]<;>omega) (Fv (by omega) (by omega))),fun a w gG O hS hd=>by exact AA hS rfl (AB Ax O rfl),fun a w gG O hS hd=>by have O:=O.ext1 9 (hd 2 rfl rfl);have J:=hS.mem rfl;exact AA hS rfl (AE Co O rfl (J.row 0 rfl) (by simp only [Aa]<;>omega) (Fv (by omega) (by omega))),fun a w gG O hS hd=>by have O:=O.ext1 10 (hd 3 rfl rfl);exact BL (by repeat constructor) hS rfl (Ae Try.call119 O (.cons rfl .nil) (GM T _)),trivial⟩ ?_;intro a w' L O hS hq;have O:=O.ext1 7 (hq 0 rfl rfl);have O:=O.ext1 8 (hq 1 rfl rfl);have O:=O.ext1 9 (hq 2 rfl rfl);have O:=O.ext1 10 (hq 3 rfl rfl);have O:=O.ext1 11 (hq 4 rfl rfl);have J:=hS.mem rfl;change wpList Try.prog _ _ [_,_,_] _ _;refine st O (KA NP O rfl rfl (Ev Em DG En BY DZ CL Ai)) rfl fun a O=>ag O rfl rfl fun a O=>ag O rfl rfl fun a O=>nt<|wp_ret<|CN rfl O.defers (Ad O rfl) (Ad O rfl) ⟨_,rfl,J.below,?_⟩
  show _=_
  rfl
theorem HC (p n:Int)(T:Nat->Nat->Nat->Nat)(f:Nat->Nat)(w:World)(hT:∀ i j k,T i j k<=255)(hf:∀ i,f i<=255)(hc:¬ Cx p n T f 0 (Cj [])) :
    CallsR Try.prog 39 #[.agg (AD p n T f)] w (fun res _=>res = .tuple #[.agg (AD 0 0 (fun _ _ _=>0) (fun _=>0)),.int .i64 1]):=by
  refine Al [.agg (AD p n T f)] Try.func39 rfl Try.ntmps39 rfl fun a O=>?_;have J:Ag w w [none,none,none] []:=MemX.start w 3;change Fr 35 a [(0,.agg (AD p n T f))] at O;refine sr<|Ar O (BI 0 J O rfl) rfl ?_;rintro _ w' a ⟨b1,rfl,J,-⟩ O;refine Ar O (Ah 1 J Au) rfl ?_;rintro _ w' a ⟨b2,rfl,J,-⟩ O;change Ag _ _ [some (b1,AD p n T f),some (b2,AD 0 0 (fun _ _ _=>0) (fun _=>0)),_] [] at J;refine ag O rfl rfl fun a O=>nt<|sq<|sr<|st O (AE AI O rfl (J.row 0 rfl) (by simp only [Aa]<;>omega) (whole AG)) rfl fun a O=>Ar O (Ae Try.call88 O (.cons rfl (.cons rfl .nil)) ((CallsR.val (DW p n T f (Cj []) _ (fun _ _ _=>hT _ _ _) (fun _=>hf _)) (congrArg (Value.int .i64) (if_neg hc))))) rfl ?_;rintro _ w' a ⟨hx,rfl⟩ O;have J:=J.ext hx;refine ag O rfl rfl fun a O=>ns<|mv O rfl rfl fun a O=>st O (By O rfl rfl) rfl fun a O=>nt<|I2 O rfl (by decide)<|sr<|st O (Bo Du) rfl fun a O=>mv O rfl rfl fun a O=>BQ O (AJ 1 J rfl An O rfl rfl cells_one (by simp only [Aa]) (by simp only [Aa]<;>omega) (AH _ _ (by simp only [Aa]))) ?_;intro _ w' a J O;change Ag _ _ [_,some (b2,AD 0 0 (fun _ _ _=>0) (fun _=>0)),_] [] at J;refine ag O rfl rfl fun a O=>nt<|wp_ret<|tR<|CN rfl O.defers (A5 AI O rfl (J.row 1 rfl) (by simp only [Aa])) (Ad O rfl) ⟨_,rfl,J.below,?_⟩
  show _=_
  rfl
theorem HB (p n:Nat)(T:Nat->Nat->Nat->Nat)(f:Nat->Nat)(w:World)(hp:primeN p)(hn0:0<n)(hn:n<=6)(hO:∀ i j k,T i j k<p)(hT0:∀ i j k,n<=k->T i j k=0)(hf:∀ i,f i<=255)(hc:Cx (p:Int) (n:Int) T f 0 (Cj [])) :
    CallsR Try.prog 39 #[.agg (AD (p:Int) (n:Int) T f)] w (fun res _=>res = .tuple #[.agg (AD (p:Int) (n:Int) (trT T) f),.int .i64 0]):=by
  refine Al [.agg (AD (p:Int) (n:Int) T f)] Try.func39 rfl Try.ntmps39 rfl fun a O=>?_;have J:Ag w w [none,none,none] []:=MemX.start w 3;change Fr 35 a [(0,.agg (AD (p:Int) (n:Int) T f))] at O;have hp2:=hp.two;have hZ:=hp.le;have hT:∀ i j k,T i j k<=255:=fun i j k=>by have:=hO i j k;omega
  refine sr<|Ar O (BI 0 J O rfl) rfl ?_;rintro _ w' a ⟨b1,rfl,J,-⟩ O;refine Ar O (Ah 1 J Au) rfl ?_;rintro _ w' a ⟨b2,rfl,J,-⟩ O;change Ag _ _ [some (b1,AD (p:Int) (n:Int) T f),some (b2,AD 0 0 (fun _ _ _=>0) (fun _=>0)),_] [] at J;refine ag O rfl rfl fun a O=>nt<|sq<|sr<|st O (AE AI O rfl (J.row 0 rfl) (by simp only [Aa]<;>omega) (whole AG)) rfl fun a O=>Ar O (Ae Try.call88 O (.cons rfl (.cons rfl .nil)) ((CallsR.val (DW (p:Int) (n:Int) T f (Cj []) _ (fun _ _ _=>hT _ _ _) (fun _=>hf _)) (congrArg (Value.int .i64) (if_pos hc))))) rfl ?_;rintro _ w' a ⟨hx,rfl⟩ O;have J:=J.ext hx;refine ag O rfl rfl fun a O=>ns<|mv O rfl rfl fun a O=>st O (By O rfl rfl) rfl fun a O=>nt<|Im O rfl (by decide)<|wp_skip<|tN<|sr<|st O (AE AI O rfl (J.row 0 rfl) (by simp only [Aa]<;>omega) (whole AG)) rfl fun a O=>Ar O (Ah 2 J Au) rfl ?_;rintro _ w' a ⟨b4,rfl,J,-⟩ O;change Ag _ _ [_,_,some (b4,AD 0 0 (fun _ _ _=>0) (fun _=>0))] [] at J;refine BQ O (AJ 2 J rfl An O rfl rfl cells_one (by simp only [Aa]) (by simp only [Aa]<;>omega) (AH _ _ (by simp only [Aa]))) ?_;intro _ w' a J O;refine nt<|sq<|sr<|ag O rfl rfl fun a O=>nt<|wp_block ?_;change Ag _ _ [_,_,some (b4,AD (p:Int) (n:Int) T f)] [] at J;refine Av (fun (kk:Nat) a w'=>kk<=6/\(True)/\Fr 35 a [(1,ptr b1 (0)),(2,ptr b2 (0)),(3,.int .i64 (0)),(11,.bool (decide ((0:Int)≠0))),(5,ptr b4 (0)),(6,.int .i64 (kk:Int))]/\Ag w w' [some (b1,AD (p:Int) (n:Int) T f),some (b2,AD 0 0 (fun _ _ _=>0) (fun _=>0)),some (b4,AD (p:Int) (n:Int) (fun i j k=>if i<kk then T j i k else T i j k) f)] []) (fun kk=>6 - kk) 0 ?_ ?_
  . refine ⟨by omega,trivial,O.sub _ (by repeat' constructor),?_⟩
    refine J.rowc 2 rfl (Bc fun i hi j hj k hk=>by rw [if_neg (by omega)])
  clear O J;rintro gi a w' ⟨hgi,hH,O,J⟩;refine sq<|sr<|mv O rfl rfl fun a O=>st O (A0 O rfl rfl) rfl fun a O=>nt<|Ab O rfl (fun h5=>?_) (fun h5=>?_)
  . refine wp_skip ?_
    refine tN<|sq<|wp_block<|sr<|ag O rfl rfl fun a O=>nt<|wp_block ?_;change Ag w _ [some (b1,AD (p:Int) (n:Int) T f),some (b2,AD 0 0 (fun _ _ _=>0) (fun _=>0)),some (b4,AD (p:Int) (n:Int) (fun i j k=>if i<gi then T j i k else T i j k) f)] [] at J;refine Av (fun (kk:Nat) a w'=>kk<=6/\(True)/\Fr 35 a [(1,ptr b1 (0)),(2,ptr b2 (0)),(3,.int .i64 (0)),(11,.bool (decide ((0:Int)≠0))),(5,ptr b4 (0)),(6,.int .i64 (gi:Int)),(15,.int .i64 (gi:Int)),(16,.bool (decide (((gi:Int):Int)<6))),(7,.int .i64 (kk:Int))]/\Ag w w' [some (b1,AD (p:Int) (n:Int) T f),some (b2,AD 0 0 (fun _ _ _=>0) (fun _=>0)),some (b4,AD (p:Int) (n:Int) (fun i j k=>if i<gi\/(i=gi/\j<kk) then T j i k else T i j k) f)] []) (fun kk=>6 - kk) 0 ?_ ?_
    . refine ⟨by omega,trivial,O.sub _ (by repeat' constructor),?_⟩
      refine J.rowc 2 rfl (Bc fun i hi j hj k hk=>?_)
      by_cases e:i<gi
      . rw [if_pos e,if_pos (by omega)]
      . rw [if_neg e,if_neg (by omega)]
    clear O J;rintro gj a w' ⟨hgj,hJ,O,J⟩;refine sq<|sr<|mv O rfl rfl fun a O=>st O (A0 O rfl rfl) rfl fun a O=>nt<|Ab O rfl (fun h6=>?_) (fun h6=>?_)
    . refine wp_skip ?_
      refine tN<|sq<|wp_block<|BV 10 [] [.val (.int .i64 (gi:Int)),.val (.int .i64 (gj:Int)),.val (.int .i64 (gj:Int)),.val (.int .i64 (gi:Int)),.val (ptr b1 (0+2)),.val (ptr b1 (0+2+(gj)*36)),.val (ptr b1 (0+2+(gj)*36+(gi)*6)),.val (.agg (AQ (T (gj) (gi)))),.val (ptr b4 (0+2)),.val (ptr b4 (0+2+(gi)*36))] Bf rfl O rfl J ⟨fun a w gG O hS hd=>by exact BP hS rfl O rfl,fun a w gG O hS hd=>by exact BP hS rfl O rfl,fun a w gG O hS hd=>by exact BP hS rfl O rfl,fun a w gG O hS hd=>by exact BP hS rfl O rfl,fun a w gG O hS hd=>by exact AA hS rfl (AB Ax O rfl),fun a w gG O hS hd=>by have O:=O.ext1 25 (hd 2 rfl rfl);have O:=O.ext1 27 (hd 4 rfl rfl);exact AA hS rfl (AF BF O rfl rfl rfl (by omega)),fun a w gG O hS hd=>by have O:=O.ext1 26 (hd 3 rfl rfl);have O:=O.ext1 28 (hd 5 rfl rfl);exact AA hS rfl (AF BG O rfl rfl rfl (by omega)),fun a w gG O hS hd=>by have O:=O.ext1 29 (hd 6 rfl rfl);have J:=hS.mem rfl;exact AA hS rfl (AE BY O rfl (J.row 0 rfl) (by simp only [Aa]<;>omega) (CQ (gj) (gi) (by omega) (by omega) (by omega) (by omega))),fun a w gG O hS hd=>by exact AA hS rfl (AB Ax O rfl),fun a w gG O hS hd=>by have O:=O.ext1 23 (hd 0 rfl rfl);have O:=O.ext1 31 (hd 8 rfl rfl);exact AA hS rfl (AF BF O rfl rfl rfl (by omega)),trivial⟩ ?_;intro a w' L O hS hq;have O:=O.ext1 23 (hq 0 rfl rfl);have O:=O.ext1 24 (hq 1 rfl rfl);have O:=O.ext1 25 (hq 2 rfl rfl);have O:=O.ext1 26 (hq 3 rfl rfl);have O:=O.ext1 27 (hq 4 rfl rfl);have O:=O.ext1 28 (hq 5 rfl rfl);have O:=O.ext1 29 (hq 6 rfl rfl);have O:=O.ext1 30 (hq 7 rfl rfl);have O:=O.ext1 31 (hq 8 rfl rfl);have O:=O.ext1 32 (hq 9 rfl rfl);have J:=hS.mem rfl;change wpList Try.prog _ _ [_,_] _ _;refine st O (AF BG O rfl rfl rfl (by omega)) rfl fun a O=>BQ O (AJ 2 J rfl Cy O rfl rfl At (by simp only [Aa]) (by simp only [Aa]<;>omega) (DY (gi) (gj) (by omega) (by omega) (by omega))) ?_;intro _ w' a J O;change Ag _ _ [_,_,some (b4,AD (p:Int) (n:Int) (fun i j k=>if i=gi/\j=gj then ((T (gj) (gi))) k else ((fun i j k=>if i<gi\/(i=gi/\j<gj) then T j i k else T i j k)) i j k) f)] [] at J;refine wpList_nil<|iN<|tN<|wp_region_lit<|mv O rfl rfl fun a O=>st O (Ap O rfl rfl (Af (gj) (1) (by omega))) rfl fun a O=>ag O rfl rfl fun a O=>nt<|⟨gj+1,⟨by omega,trivial,O.sub _ (by repeat' constructor),?_⟩,by omega⟩;refine J.rowc 2 rfl (Bc fun i hi j hj k hk=>?_)
      by_cases e:i=gi/\j=gj
      . rw [if_pos e,if_pos (by omega),e.1,e.2]
      . have e0:(i<gi\/(i=gi/\j<gj+1))=(i<gi\/(i=gi/\j<gj)):=by apply propext;omega
        rw [if_neg e];simp only [e0]
    obtain rfl:6=gj:=by omega
    refine wp_exit<|tX<|tX<|Am<|iN<|tN<|wp_region_lit<|mv O rfl rfl fun a O=>st O (Ap O rfl rfl (Af (gi) (1) (by omega))) rfl fun a O=>ag O rfl rfl fun a O=>nt<|⟨gi+1,⟨by omega,trivial,O.sub _ (by repeat' constructor),?_⟩,by omega⟩;refine J.rowc 2 rfl (Bc fun i hi j hj k hk=>?_)
    by_cases e:i<gi\/(i=gi/\j<6)
    . rw [if_pos e,if_pos (by omega)]
    . rw [if_neg e,if_neg (by omega)]
  obtain rfl:6=gi:=by omega
  have J:=J.rowc (cs':=AD (p:Int) (n:Int) (trT T) f) 2 rfl (Bc fun i hi j hj k hk=>by unfold trT;rw [if_pos hi]);refine wp_exit<|tX<|tX<|Am<|tN<|sr<|st O (AE AI O rfl (J.row 2 rfl) (by simp only [Aa]<;>omega) (whole AG)) rfl fun a O=>BQ O (AJ 1 J rfl An O rfl rfl cells_one (by simp only [Aa]) (by simp only [Aa]<;>omega) (AH _ _ (by simp only [Aa]))) ?_;intro _ w' a J O;change Ag _ _ [_,some (b2,AD (p:Int) (n:Int) (trT T) f),_] [] at J;refine ag O rfl rfl fun a O=>nt<|wp_ret<|CN rfl O.defers (A5 AI O rfl (J.row 1 rfl) (by simp only [Aa])) (Ad O rfl) ⟨_,rfl,J.below,?_⟩
  show _=_
  rfl
theorem HD (p n:Int)(T:Nat->Nat->Nat->Nat)(f:Nat->Nat)(w:World)(hT:∀ i j k,T i j k<=255)(hf:∀ i,f i<=255)(hc:¬ Cx p n T f 0 (Cj [])) :
    CallsR Try.prog 38 #[.agg (AD p n T f)] w (fun res _=>res = .tuple #[.agg (AD 0 0 (fun _ _ _=>0) (fun _=>0)),.int .i64 1]):=by
  refine Al [.agg (AD p n T f)] Try.func38 rfl Try.ntmps38 rfl fun a O=>?_;have J:Ag w w [none,none] []:=MemX.start w 2;change Fr 10 a [(0,.agg (AD p n T f))] at O;refine sr<|Ar O (BI 0 J O rfl) rfl ?_;rintro _ w' a ⟨b1,rfl,J,-⟩ O;refine Ar O (Ah 1 J Au) rfl ?_;rintro _ w' a ⟨b2,rfl,J,-⟩ O;change Ag _ _ [some (b1,AD p n T f),some (b2,AD 0 0 (fun _ _ _=>0) (fun _=>0))] [] at J;refine ag O rfl rfl fun a O=>nt<|sq<|sr<|st O (AE AI O rfl (J.row 0 rfl) (by simp only [Aa]<;>omega) (whole AG)) rfl fun a O=>Ar O (Ae Try.call12 O (.cons rfl .nil) ((CallsR.val (Br p n T f _ (fun _ _ _=>hT _ _ _) (fun _=>hf _)) (congrArg Value.bool (decide_eq_false (fun h=>hc ⟨h,fun i hi=>absurd hi (by omega)⟩)))))) rfl ?_;rintro _ w' a ⟨hx,rfl⟩ O;have J:=J.ext hx;refine st O (Cw (b:=false) O rfl) rfl fun a O=>nt<|It O rfl<|sr<|st O (Bo Du) rfl fun a O=>BQ O (AJ 1 J rfl An O rfl rfl cells_one (by simp only [Aa]) (by simp only [Aa]<;>omega) (AH _ _ (by simp only [Aa]))) ?_;intro _ w' a J O;change Ag _ _ [_,some (b2,AD 0 0 (fun _ _ _=>0) (fun _=>0))] [] at J;refine ag O rfl rfl fun a O=>nt<|wp_ret<|tR<|CN rfl O.defers (A5 AI O rfl (J.row 1 rfl) (by simp only [Aa])) (Ad O rfl) ⟨_,rfl,J.below,?_⟩
  show _=_
  rfl
theorem Ef (p n:Nat)(T:Nat->Nat->Nat->Nat)(f:Nat->Nat)(w:World)(hp:primeN p)(hn0:0<n)(hn:n<=6)(hO:∀ i j k,T i j k<p)(hT0:∀ i j k,n<=k->T i j k=0)(hf:∀ i,f i<=255)(hc:Cx (p:Int) (n:Int) T f 0 (Cj [])) :
    CallsR Try.prog 38 #[.agg (AD (p:Int) (n:Int) T f)] w (fun res _=>res = .tuple #[.agg (AD (p:Int) (n:Int) (trT T) f),.int .i64 0]):=by
  refine Al [.agg (AD (p:Int) (n:Int) T f)] Try.func38 rfl Try.ntmps38 rfl fun a O=>?_;have J:Ag w w [none,none] []:=MemX.start w 2;change Fr 10 a [(0,.agg (AD (p:Int) (n:Int) T f))] at O;have hp2:=hp.two;have hZ:=hp.le;have hT:∀ i j k,T i j k<=255:=fun i j k=>by have:=hO i j k;omega
  refine sr<|Ar O (BI 0 J O rfl) rfl ?_;rintro _ w' a ⟨b1,rfl,J,-⟩ O;refine Ar O (Ah 1 J Au) rfl ?_;rintro _ w' a ⟨b2,rfl,J,-⟩ O;change Ag _ _ [some (b1,AD (p:Int) (n:Int) T f),some (b2,AD 0 0 (fun _ _ _=>0) (fun _=>0))] [] at J;refine ag O rfl rfl fun a O=>nt<|sq<|sr<|st O (AE AI O rfl (J.row 0 rfl) (by simp only [Aa]<;>omega) (whole AG)) rfl fun a O=>Ar O (Ae Try.call12 O (.cons rfl .nil) ((CallsR.val (Br (p:Int) (n:Int) T f _ (fun _ _ _=>hT _ _ _) (fun _=>hf _)) (congrArg Value.bool (decide_eq_true hc.1))))) rfl ?_;rintro _ w' a ⟨hx,rfl⟩ O;have J:=J.ext hx;refine st O (Cw (b:=true) O rfl) rfl fun a O=>nt<|EE O rfl<|wp_skip<|tN<|sr<|st O (AE AI O rfl (J.row 0 rfl) (by simp only [Aa]<;>omega) (whole AG)) rfl fun a O=>Ar O (Ae Try.call118 O (.cons rfl .nil) (Iw (p:Int) (n:Int) T f _)) rfl ?_;rintro _ w' a ⟨hx,rfl⟩ O;have J:=J.ext hx;refine BQ O (AJ 1 J rfl An O rfl rfl cells_one (by simp only [Aa]) (by simp only [Aa]<;>omega) (AH _ _ (by simp only [Aa]))) ?_;intro _ w' a J O;change Ag _ _ [_,some (b2,AD (p:Int) (n:Int) (trT T) f)] [] at J;refine ag O rfl rfl fun a O=>nt<|wp_ret<|CN rfl O.defers (A5 AI O rfl (J.row 1 rfl) (by simp only [Aa])) (Ad O rfl) ⟨_,rfl,J.below,?_⟩
  show _=_
  rfl
end Go.Proofs.Ytkcneleabbjkaaa
