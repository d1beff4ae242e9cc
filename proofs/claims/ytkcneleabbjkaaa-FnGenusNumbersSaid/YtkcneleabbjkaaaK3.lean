import Derived.Test.YtkcneleabbjkaaaK2
set_option linter.unusedVariables false
set_option linter.unusedSimpArgs false
namespace Go.Proofs.Ytkcneleabbjkaaa
open Go Go.RowKit Go.Sw Go.Ech
open Classical
theorem Kl:Ej Try.prog 26=some (.agg (Al 216 (fun _=>.int .u8 (0)))):=by kernel_rfl
theorem Kq:DT Try.prog 26=some 216:=by kernel_rfl
theorem Ax:Ej Try.prog 29=some (.agg (AB 0 0 (fun _ _ _=>0) (fun _=>0))):=by kernel_rfl
theorem An:DT Try.prog 29=some 224:=by kernel_rfl
theorem Kz:HZ Try.prog 26=some (6,25,36):=by kernel_rfl
theorem K0:HZ Try.prog 25=some (6,24,6):=by kernel_rfl
theorem El:∀ w,(Instr.build 29 #[]).run Try.prog w = .ok (.agg (AB 0 0 (fun _ _ _=>0) (fun _=>0))) w:=by intros;kernel_rfl
theorem K2 {T:Nat->Nat->Nat->Nat}{v:Nat->Nat}{o:Nat}(a b:Nat)(h:o=a*36+b*6)(ha:a<6)(hb:b<6):splice (Cx T) o (AG v)=Cx (fun i j k=>if i=a/\j=b then v k else T i j k):=by
  subst h;have hz:a*36+b*6+(AG v).size<=(Cx T).size:=by rw [C8,Dk];omega
  apply Gt (by rw [Du _ _ _ hz,Dk])
  intro i hi;rw [B0 _ _ _ _ hz,C8]
  by_cases e:a*36+b*6<=i/\i<a*36+b*6+6
  . rw [if_pos e,BQ (i - (a*36+b*6)) rfl (by omega)];dsimp only;rw [if_pos ⟨by omega,by omega⟩,show i - (a*36+b*6)=i%6 by omega]
  . rw [if_neg e,IG (i / 36) (i / 6%6) (i%6) (by omega) (by omega) (by omega) (by omega)];dsimp only;rw [if_neg (by omega)]
theorem Ed {p n:Int}{T:Nat->Nat->Nat->Nat}{f v:Nat->Nat}{o:Nat}(a b:Nat)(h:o=2+a*36+b*6)(ha:a<6)(hb:b<6):splice (AB p n T f) o (AG v)=AB p n (fun i j k=>if i=a/\j=b then v k else T i j k) f:=by
  subst h;have hz:2+a*36+b*6+(AG v).size<=(AB p n T f).size:=by rw [C8,AE];omega
  refine FD (by rw [Du _ _ _ hz,AE]) ?_ ?_ ?_ ?_
  . rw [B0 _ _ _ _ hz,if_neg (by omega)];exact BM rfl
  . rw [B0 _ _ _ _ hz,if_neg (by omega)];exact Aq rfl
  . intro i j k hi hj hk
    rw [B0 _ _ _ _ hz,C8]
    by_cases e:i=a/\j=b
    . rw [if_pos (by omega),if_pos e];exact BQ k (by omega) hk
    . rw [if_neg (by omega),if_neg e];exact C7 i j k rfl hi hj hk
  . intro i hi;rw [B0 _ _ _ _ hz,C8,if_neg (by omega)];exact DH i rfl hi
theorem F7 {T U:Nat->Nat->Nat->Nat}(h:∀ i,i<6->∀ j,j<6->∀ k,k<6->T i j k=U i j k):Cx T=Cx U:=by
  unfold Cx
  exact A5 fun c hc=>by rw [h _ (by omega) _ (by omega) _ (by omega)]
theorem B3 {p n:Int}{T U:Nat->Nat->Nat->Nat}{f:Nat->Nat}(h:∀ i,i<6->∀ j,j<6->∀ k,k<6->T i j k=U i j k):AB p n T f=AB p n U f:=by
  unfold AB
  refine A5 fun c hc=>?_
  by_cases h0:c=0
  . rw [if_pos h0,if_pos h0]
  . rw [if_neg h0,if_neg h0]
    by_cases h1:c=1
    . rw [if_pos h1,if_pos h1]
    . rw [if_neg h1,if_neg h1]
      by_cases h2:c<218
      . rw [if_pos h2,if_pos h2,h _ (by omega) _ (by omega) _ (by omega)]
      . rw [if_neg h2,if_neg h2]
def Nm (T:Nat->Nat->Nat->Nat) (i j k:Nat):Nat:=T j i k
theorem LV {P:Program}{d:Nat}{t1 t2 t3 e:TypeId}{T U:Nat->Nat->Nat->Nat}(h1:HZ P t1=some (6,t2,36))(a1:FK P t2=some 36)(h2:HZ P t2=some (6,t3,6))(a2:FK P t3=some 6)(h3:HZ P t3=some (6,e,1))(he:LQ P e=true)(ho:FI P e=true) :
    Go.Sw.EqAt P (d+4) t1 (.agg (Cx T)) (.agg (Cx U)) (Pb T U):=
  (Ji (q:=fun i=>Q0 (T i) (U i)) h1 a1 fun i hi=>by
    rw [Ex i rfl rfl hi,Ex i rfl rfl hi]
    exact (Ji (q:=fun j=>H4 6 (T i j) (U i j)) h2 a2 fun j hj=>by
      rw [E2 j rfl rfl hj,E2 j rfl rfl hj]
      exact DJ h3 he ho).congr Iff.rfl).congr Iff.rfl
theorem NR (p n:Nat)(T:Nat->Nat->Nat->Nat)(f uu:Nat->Nat)(w:World)(hp:primeN p)(hn0:0<n)(hn:n<=6)(hZ:∀ i j k,T i j k<p)(hO:UnitI p n T uu):I5 Try.prog 152 #[.agg (AB (p:Int) (n:Int) T f)] w (.tuple #[.agg (AG uu),.bool true]):=
  (GH p n T f w hp hn0 hn hZ).mono fun v w' _ h=>by
    rcases h with ⟨u,hu,rfl⟩ | ⟨hu,rfl⟩
    . rw [hO.unique hu]
    . exact absurd hO (hu uu)
theorem GN (p n:Nat)(T:Nat->Nat->Nat->Nat)(f uu:Nat->Nat)(w:World)(hp:primeN p)(hn0:0<n)(hn:n<=6)(hZ:∀ i j k,T i j k<p)(hO:UnitI p n T uu):I5 Try.prog 94 #[.agg (AB (p:Int) (n:Int) T f)] w (.tuple #[.agg (AG uu),.bool true]):=
  (Hu p n T f w hp hn0 hn hZ).mono fun v w' _ h=>by
    rcases h with ⟨u,hu,rfl⟩ | ⟨hu,rfl⟩
    . rw [hO.unique hu]
    . exact absurd hO (hu uu)
theorem I9 (T:Nat->Nat->Nat->Nat)(w:World) :
    CallsR Try.prog 119 #[.agg (Cx T)] w (fun res _=>res = .agg (Cx (Nm T))):=by
  refine AS [.agg (Cx T)] Try.func119 rfl Try.ntmps119 rfl fun a O=>?_;have J:AT w w [none,none,none,none,none] []:=MemX.start w 5;change Fr 26 a [(0,.agg (Cx T))] at O;refine sr<|Ab O (Aj 0 J O rfl) rfl ?_;rintro _ w' a ⟨b1,rfl,J,-⟩ O;refine Ab O (AV 1 J Kl) rfl ?_;rintro _ w' a ⟨b2,rfl,J,-⟩ O;refine ns<|Ab O (AV 2 J Kl) rfl ?_;rintro _ w' a ⟨b3,rfl,J,-⟩ O;change AT _ _ [some (b1,Cx T),some (b2,Al 216 (fun _=>.int .u8 (0))),some (b3,Al 216 (fun _=>.int .u8 (0))),_,_] [] at J;refine nt<|sq<|sr<|st O (AA EI O rfl (J.row 0 rfl) (by simp only [AM]<;>omega) (whole (by simp only [AM]))) rfl fun a O=>mv O rfl rfl fun a O=>nt<|wp_block ?_;change AT _ _ [_,_,_,_,_] [] at J;refine Ai (fun (kk:Nat) a w'=>kk<=6/\(True)/\Fr 26 a [(2,ptr b2 (0)),(3,ptr b3 (0)),(8,.agg (Cx T)),(9,.int .i64 (kk:Int))]/\AT w w' [some (b1,Cx T),some (b2,Al 216 (fun _=>.int .u8 (0))),some (b3,Cx (fun i j k=>if j<kk\/(j=kk/\i<0) then T j i k else 0)),none,none] []) (fun kk=>6 - kk) 0 ?_ ?_
  . refine ⟨by omega,trivial,O.sub _ (by repeat' constructor),?_⟩
    refine J.rowc 2 rfl (A5 fun c hc=>by simp)
  clear O J;rintro gi a w' ⟨hgi,hH,O,J⟩;refine sr<|st O (Am O rfl rfl) rfl fun a O=>nt<|sq<|AR O rfl (fun h4=>?_) (fun h4=>?_)
  . refine wp_skip ?_
    refine tN<|sq<|wp_block<|sr<|mv O rfl rfl fun a O=>st O (Gs Ko Em O rfl rfl rfl (by omega) (Ex (gi) (by omega) (by omega) (by omega))) rfl fun a O=>Ab O (AV 3 J Km) rfl ?_;rintro _ w' a ⟨b5,rfl,J,-⟩ O;change AT _ _ [_,_,_,some (b5,Al 36 (fun _=>.int .u8 (0))),_] [] at J;refine ag O rfl rfl fun a O=>A7 O (AI 3 J rfl Kr O rfl rfl (by first | exact AX | exact cells_one | (refine BT fun _ _=>?_;first | rfl | (split<;>rfl))) (by simp only [AM]) (by simp only [AM]<;>omega) (AF _ _ (by simp only [AM]))) ?_;intro _ w' a J O;change AT _ _ [_,_,_,some (b5,Db (T (gi))),_] [] at J;refine ns<|st O (AA Em O rfl (J.row 3 rfl) (by simp only [AM]<;>omega) (whole (by simp only [AM]))) rfl fun a O=>mv O rfl rfl fun a O=>nt<|wp_block ?_;change AT _ _ [_,_,_,_,_] [] at J;refine Ai (fun (kk:Nat) a w'=>kk<=6/\(True)/\Fr 26 a [(2,ptr b2 (0)),(3,ptr b3 (0)),(8,.agg (Cx T)),(9,.int .i64 (gi:Int)),(10,.bool (decide (((gi:Int):Int)<6))),(11,.int .i64 (gi:Int)),(12,.agg (Db (T (gi)))),(5,ptr b5 (0)),(4,.int .i64 (gi:Int)),(13,.agg (Db (T (gi)))),(14,.int .i64 (kk:Int))]/\AT w w' [some (b1,Cx T),some (b2,Al 216 (fun _=>.int .u8 (0))),some (b3,Cx (fun i j k=>if j<gi\/(j=gi/\i<kk) then T j i k else 0)),some (b5,Db (T (gi))),none] []) (fun kk=>6 - kk) 0 ?_ ?_
    . refine ⟨by omega,trivial,O.sub _ (by repeat' constructor),?_⟩
      exact J
    clear O J;rintro gj a w' ⟨hgj,hJ,O,J⟩;refine sr<|st O (Am O rfl rfl) rfl fun a O=>nt<|sq<|AR O rfl (fun h6=>?_) (fun h6=>?_)
    . refine wp_skip ?_
      refine tN<|sq<|wp_block<|sr<|mv O rfl rfl fun a O=>st O (Gs Kp Bo O rfl rfl rfl (by omega) (E2 (gj) (by omega) (by omega) (by omega))) rfl fun a O=>Ab O (AV 4 J Kn) rfl ?_;rintro _ w' a ⟨b7,rfl,J,-⟩ O;change AT _ _ [_,_,_,_,some (b7,Al 6 (fun _=>.int .u8 (0)))] [] at J;refine ag O rfl rfl fun a O=>A7 O (AI 4 J rfl EH O rfl rfl AX (by simp only [AM]) (by simp only [AM]<;>omega) (AF _ _ (by simp only [AM]))) ?_;intro _ w' a J O;change AT _ _ [_,_,_,_,some (b7,AG ((T (gi)) (gj)))] [] at J;refine nt<|BG 4 [] [.val (.int .i64 (gj:Int)),.val (.int .i64 (gi:Int)),.val (.agg (AG ((T (gi)) (gj)))),.val (ptr b3 (0+(gj)*36))] BV rfl O rfl J ⟨fun a w gG O hS hd=>by exact BC hS rfl O rfl,fun a w gG O hS hd=>by exact BC hS rfl O rfl,fun a w gG O hS hd=>by have J:=hS.mem rfl;exact AC hS rfl (AA Bo O rfl (J.row 4 rfl) (by simp only [AM]<;>omega) (whole (by simp only [AM]))),fun a w gG O hS hd=>by have O:=O.ext1 18 (hd 0 rfl rfl);exact AC hS rfl (AJ BK O rfl rfl rfl (by omega)),trivial⟩ ?_;intro a w' L O hS hq;have O:=O.ext1 18 (hq 0 rfl rfl);have O:=O.ext1 19 (hq 1 rfl rfl);have O:=O.ext1 20 (hq 2 rfl rfl);have O:=O.ext1 21 (hq 3 rfl rfl);have J:=hS.mem rfl;change wpList Try.prog _ _ [_,_] _ _;refine st O (AJ BL O rfl rfl rfl (by omega)) rfl fun a O=>A7 O (AI 2 J rfl EH O rfl rfl AX (by simp only [AM]) (by simp only [AM]<;>omega) (K2 (gj) (gi) (by omega) (by omega) (by omega))) ?_;intro _ w' a J O;change AT _ _ [_,_,some (b3,Cx (fun i j k=>if i=gj/\j=gi then (((T (gi)) (gj))) k else ((fun i j k=>if j<gi\/(j=gi/\i<gj) then T j i k else 0)) i j k)),_,_] [] at J;refine wpList_nil<|iN<|tN<|wp_region_lit<|st O (Af O rfl rfl (AW (gj) (1) (by omega))) rfl fun a O=>mv O rfl rfl fun a O=>wpList_nil<|tN ?_;have J:=J.drop 4;refine ⟨gj+1,⟨by omega,trivial,O.sub _ (by repeat' constructor),?_⟩,by omega⟩;refine J.rowc 2 rfl (F7 fun i hi j hj k hk=>?_)
      by_cases e:i=gj/\j=gi
      . rw [if_pos e,if_pos (by omega),e.1,e.2]
      . have e0:(j<gi\/(j=gi/\i<gj+1))=(j<gi\/(j=gi/\i<gj)):=by apply propext;omega
        rw [if_neg e];simp only [e0]
    obtain rfl:6=gj:=by omega
    refine wp_exit<|tX<|tX<|Ac<|iN<|tN<|wp_region_lit<|st O (Af O rfl rfl (AW (gi) (1) (by omega))) rfl fun a O=>mv O rfl rfl fun a O=>wpList_nil<|tN ?_;have J:=J.drop 3;refine ⟨gi+1,⟨by omega,trivial,O.sub _ (by repeat' constructor),?_⟩,by omega⟩;refine J.rowc 2 rfl (F7 fun i hi j hj k hk=>?_)
    by_cases e:j<gi\/(j=gi/\i<6)
    . rw [if_pos e,if_pos (by omega)]
    . rw [if_neg e,if_neg (by omega)]
  obtain rfl:6=gi:=by omega
  have J:=J.rowc (cs':=Cx (Nm T)) 2 rfl (F7 fun i hi j hj k hk=>by unfold Nm;rw [if_pos (by omega)]);refine wp_exit<|tX<|tX<|Ac<|tN<|sr<|st O (AA EI O rfl (J.row 2 rfl) (by simp only [AM]<;>omega) (whole (by simp only [AM]))) rfl fun a O=>A7 O (AI 1 J rfl Kq O rfl rfl (by first | exact AX | exact cells_one | (refine BT fun _ _=>?_;first | rfl | (split<;>rfl))) (by simp only [AM]) (by simp only [AM]<;>omega) (AF _ _ (by simp only [AM]))) ?_;intro _ w' a J O;change AT _ _ [_,some (b2,Cx (Nm T)),_,_,_] [] at J;refine nt<|wp_ret<|A0 rfl O.defers (As EI O rfl (J.row 1 rfl) (by simp only [AM])) ⟨_,rfl,J.below,?_⟩
  show _=_
  rfl
theorem JA (p n:Int)(T:Nat->Nat->Nat->Nat)(f:Nat->Nat)(w:World) :
    CallsR Try.prog 118 #[.agg (AB p n T f)] w (fun res _=>res = .agg (AB p n (Nm T) f)):=by
  refine AS [.agg (AB p n T f)] Try.func118 rfl Try.ntmps118 rfl fun a O=>?_;have J:AT w w [none,none] []:=MemX.start w 2;change Fr 8 a [(0,.agg (AB p n T f))] at O;refine sr<|Ab O (Aj 0 J O rfl) rfl ?_;rintro _ w' a ⟨b1,rfl,J,-⟩ O;refine Ab O (AV 1 J Ax) rfl ?_;rintro _ w' a ⟨b2,rfl,J,-⟩ O;change AT _ _ [some (b1,AB p n T f),some (b2,AB 0 0 (fun _ _ _=>0) (fun _=>0))] [] at J;refine ns<|st O (AD A3 O rfl) rfl fun a O=>st O (AA EI O rfl (J.row 0 rfl) (by simp only [AM]<;>omega) (Il (by omega) (by omega))) rfl fun a O=>Ab O (AN Try.call119 O (.cons rfl .nil) (I9 T _)) rfl ?_;rintro _ w' a ⟨hx,rfl⟩ O;have J:=J.ext hx;refine st O (AD A3 O rfl) rfl fun a O=>A7 O (AI 0 J rfl Kq O rfl rfl (by first | exact AX | exact cells_one | (refine BT fun _ _=>?_;first | rfl | (split<;>rfl))) (by simp only [AM]) (by simp only [AM]<;>omega) (Nf (by omega))) ?_;intro _ w' a J O;change AT _ _ [some (b1,AB p n (Nm T) f),_] [] at J;refine ns<|st O (AA AH O rfl (J.row 0 rfl) (by simp only [AM]<;>omega) (whole AE)) rfl fun a O=>A7 O (AI 1 J rfl An O rfl rfl cells_one (by simp only [AM]) (by simp only [AM]<;>omega) (AF _ _ (by simp only [AM]))) ?_;intro _ w' a J O;change AT _ _ [_,some (b2,AB p n (Nm T) f)] [] at J;refine nt<|wp_ret<|A0 rfl O.defers (As AH O rfl (J.row 1 rfl) (by simp only [AM])) ⟨_,rfl,J.below,?_⟩
  show _=_
  rfl
def EV (T:Nat->Nat->Nat->Nat):Prop:=∀ i,i<6->∀ j,j<i->H4 6 (T i j) (T j i)
theorem comP_iff {T:Nat->Nat->Nat->Nat}:Pb T (Nm T)↔EV T:=by
  constructor
  . intro h i hi j hj;exact h i hi j (by omega)
  . intro h i hi j hj k hk
    show T i j k=T j i k
    rcases Nat.lt_trichotomy i j with e | e | e
    . exact (h j hj i e k hk).symm
    . rw [e]
    . exact h i hi j e k hk
theorem EZ (p n:Int)(T:Nat->Nat->Nat->Nat)(f:Nat->Nat)(w:World) :
    CallsR Try.prog 122 #[.agg (AB p n T f)] w (fun res _=>res = .bool (decide (EV T))):=by
  refine AS [.agg (AB p n T f)] Try.func122 rfl Try.ntmps122 rfl fun a O=>?_;have J:AT w w [none] []:=MemX.start w 1;change Fr 27 a [(0,.agg (AB p n T f))] at O;refine sr<|Ab O (Aj 0 J O rfl) rfl ?_;rintro _ w' a ⟨b1,rfl,J,-⟩ O;refine ag O rfl rfl fun a O=>nt<|sq<|sr<|ag O rfl rfl fun a O=>nt<|wp_block ?_;change AT _ _ [some (b1,AB p n T f)] [] at J;refine Ai (fun (kk:Nat) a w'=>kk<=6/\(∀ i,i<kk->∀ j,j<i->H4 6 (T i j) (T j i))/\Fr 27 a [(1,ptr b1 (0)),(3,.int .i64 (kk:Int))]/\AT w w' [some (b1,AB p n T f)] []) (fun kk=>6 - kk) 0 ?_ ?_
  . refine ⟨by omega,fun i hi=>absurd hi (by omega),O.sub _ (by repeat' constructor),?_⟩
    exact J
  clear O J;rintro gi a w' ⟨hgi,hH,O,J⟩;refine sq<|sr<|mv O rfl rfl fun a O=>st O (Am O rfl rfl) rfl fun a O=>nt<|AR O rfl (fun h2=>?_) (fun h2=>?_)
  . refine wp_skip ?_
    refine tN<|sq<|wp_block<|sr<|ag O rfl rfl fun a O=>nt<|wp_block ?_;change AT w _ [some (b1,AB p n T f)] [] at J;refine Ai (fun (kk:Nat) a w'=>kk<=gi/\(∀ j,j<kk->H4 6 (T gi j) (T j gi))/\Fr 27 a [(1,ptr b1 (0)),(3,.int .i64 (gi:Int)),(5,.int .i64 (gi:Int)),(6,.bool (decide (((gi:Int):Int)<6))),(4,.int .i64 (kk:Int))]/\AT w w' [some (b1,AB p n T f)] []) (fun kk=>gi - kk) 0 ?_ ?_
    . refine ⟨by omega,fun i hi=>absurd hi (by omega),O.sub _ (by repeat' constructor),?_⟩
      exact J
    clear O J;rintro gj a w' ⟨hgj,hJ,O,J⟩;refine sq<|sr<|mv O rfl rfl fun a O=>mv O rfl rfl fun a O=>st O (Am O rfl rfl) rfl fun a O=>nt<|AR O rfl (fun h3=>?_) (fun h3=>?_)
    . refine wp_skip ?_
      refine tN<|sq<|wp_block<|sq<|BG 12 [] [.val (.int .i64 (gi:Int)),.val (.int .i64 (gj:Int)),.val (ptr b1 (0+2)),.val (ptr b1 (0+2+(gi)*36)),.val (ptr b1 (0+2+(gi)*36+(gj)*6)),.val (.agg (AG (T (gi) (gj)))),.val (.int .i64 (gj:Int)),.val (.int .i64 (gi:Int)),.val (ptr b1 (0+2)),.val (ptr b1 (0+2+(gj)*36)),.val (ptr b1 (0+2+(gj)*36+(gi)*6)),.val (.agg (AG (T (gj) (gi))))] BV rfl O rfl J ⟨fun a w gG O hS hd=>by exact BC hS rfl O rfl,fun a w gG O hS hd=>by exact BC hS rfl O rfl,fun a w gG O hS hd=>by exact AC hS rfl (AD A3 O rfl),fun a w gG O hS hd=>by have O:=O.ext1 14 (hd 0 rfl rfl);have O:=O.ext1 16 (hd 2 rfl rfl);exact AC hS rfl (AJ BK O rfl rfl rfl (by omega)),fun a w gG O hS hd=>by have O:=O.ext1 15 (hd 1 rfl rfl);have O:=O.ext1 17 (hd 3 rfl rfl);exact AC hS rfl (AJ BL O rfl rfl rfl (by omega)),fun a w gG O hS hd=>by have O:=O.ext1 18 (hd 4 rfl rfl);have J:=hS.mem rfl;exact AC hS rfl (AA Bo O rfl (J.row 0 rfl) (by simp only [AM]<;>omega) (Cq (gi) (gj) (by omega) (by omega) (by omega) (by omega))),fun a w gG O hS hd=>by exact BC hS rfl O rfl,fun a w gG O hS hd=>by exact BC hS rfl O rfl,fun a w gG O hS hd=>by exact AC hS rfl (AD A3 O rfl),fun a w gG O hS hd=>by have O:=O.ext1 20 (hd 6 rfl rfl);have O:=O.ext1 22 (hd 8 rfl rfl);exact AC hS rfl (AJ BK O rfl rfl rfl (by omega)),fun a w gG O hS hd=>by have O:=O.ext1 21 (hd 7 rfl rfl);have O:=O.ext1 23 (hd 9 rfl rfl);exact AC hS rfl (AJ BL O rfl rfl rfl (by omega)),fun a w gG O hS hd=>by have O:=O.ext1 24 (hd 10 rfl rfl);have J:=hS.mem rfl;exact AC hS rfl (AA Bo O rfl (J.row 0 rfl) (by simp only [AM]<;>omega) (Cq (gj) (gi) (by omega) (by omega) (by omega) (by omega))),trivial⟩ ?_;intro a w' L O hS hq;have O:=O.ext1 14 (hq 0 rfl rfl);have O:=O.ext1 15 (hq 1 rfl rfl);have O:=O.ext1 16 (hq 2 rfl rfl);have O:=O.ext1 17 (hq 3 rfl rfl);have O:=O.ext1 18 (hq 4 rfl rfl);have O:=O.ext1 19 (hq 5 rfl rfl);have O:=O.ext1 20 (hq 6 rfl rfl);have O:=O.ext1 21 (hq 7 rfl rfl);have O:=O.ext1 22 (hq 8 rfl rfl);have O:=O.ext1 23 (hq 9 rfl rfl);have O:=O.ext1 24 (hq 10 rfl rfl);have O:=O.ext1 25 (hq 11 rfl rfl);have J:=hS.mem rfl;change wpList Try.prog _ _ [_] _ _;refine st O (FX ID O rfl rfl (DJ FN DY Ad)) rfl fun a O=>nt<|AR O rfl (fun h4=>?_) (fun h4=>?_)
      . refine sq ?_
        refine wp_region_lit<|ag O rfl rfl fun a O=>nt<|wp_ret<|iR<|tR<|tR<|iR<|iR<|tR<|tR<|iR<|tR<|A0 rfl O.defers (AL O rfl) ⟨_,rfl,J.below,?_⟩
        show _=_
        exact CP (fun hq=>(by assumption:¬ H4 6 _ _) (hq gi (by omega) gj (by omega)))
      refine wp_skip<|iN<|tN<|wp_region_lit<|mv O rfl rfl fun a O=>st O (Af O rfl rfl (AW (gj) (1) (by omega))) rfl fun a O=>ag O rfl rfl fun a O=>nt<|⟨gj+1,⟨by omega,D8 hJ (Decidable.not_not.1 (by assumption)),O.sub _ (by repeat' constructor),?_⟩,by omega⟩;exact J
    obtain rfl:gi=gj:=by omega
    refine wp_exit<|tX<|tX<|Ac<|iN<|tN<|wp_region_lit<|mv O rfl rfl fun a O=>st O (Af O rfl rfl (AW (gi) (1) (by omega))) rfl fun a O=>ag O rfl rfl fun a O=>nt<|⟨gi+1,⟨by omega,D8 hH hJ,O.sub _ (by repeat' constructor),?_⟩,by omega⟩;exact J
  obtain rfl:6=gi:=by omega
  refine wp_exit<|tX<|tX<|Ac<|tN<|sr<|ag O rfl rfl fun a O=>nt<|wp_ret<|A0 rfl O.defers (AL O rfl) ⟨_,rfl,J.below,?_⟩
  show _=_
  exact GT hH
theorem GD (p n:Nat)(T:Nat->Nat->Nat->Nat)(f:Nat->Nat)(w:World)(hp:primeN p)(hn0:0<n)(hn:n<=6)(hZ:∀ i j k,T i j k<p)(uu:Nat->Nat)(hO:UnitI p n T uu) :
    CallsR Try.prog 102 #[.agg (AB (p:Int) (n:Int) T f)] w (fun res _=>res = .agg (AG uu)):=by
  refine AS [.agg (AB (p:Int) (n:Int) T f)] Try.func102 rfl Try.ntmps102 rfl fun a O=>?_;have J:AT w w [none,none,none] []:=MemX.start w 3;change Fr 11 a [(0,.agg (AB (p:Int) (n:Int) T f))] at O;refine sr<|Ab O (Aj 0 J O rfl) rfl ?_;rintro _ w' a ⟨b1,rfl,J,-⟩ O;refine Ab O (AV 1 J Ae) rfl ?_;rintro _ w' a ⟨b2,rfl,J,-⟩ O;change AT _ _ [some (b1,AB (p:Int) (n:Int) T f),some (b2,Al 6 (fun _=>.int .u8 (0))),_] [] at J;refine ns<|st O (AA AH O rfl (J.row 0 rfl) (by simp only [AM]<;>omega) (whole AE)) rfl fun a O=>Ab O (AN Try.call152 O (.cons rfl .nil) (NR p n T f uu _ hp hn0 hn hZ hO)) rfl ?_;rintro _ w' a ⟨hx,rfl⟩ O;have J:=J.ext hx;refine mv O rfl rfl fun a O=>st O (AO O rfl rfl) rfl fun a O=>st O (AO O rfl rfl) rfl fun a O=>Ab O (AV 2 J Ae) rfl ?_;rintro _ w' a ⟨b3,rfl,J,-⟩ O;change AT _ _ [_,_,some (b3,Al 6 (fun _=>.int .u8 (0)))] [] at J;refine A7 O (AI 2 J rfl Aa O rfl rfl AX (by simp only [AM]) (by simp only [AM]<;>omega) (AF _ _ (by simp only [AM]))) ?_;intro _ w' a J O;change AT _ _ [_,_,some (b3,AG uu)] [] at J;refine ag O rfl rfl fun a O=>ns<|st O (AA AQ O rfl (J.row 2 rfl) (by simp only [AM]<;>omega) (whole (by simp only [AM]))) rfl fun a O=>A7 O (AI 1 J rfl Aa O rfl rfl AX (by simp only [AM]) (by simp only [AM]<;>omega) (AF _ _ (by simp only [AM]))) ?_;intro _ w' a J O;change AT _ _ [_,some (b2,AG uu),_] [] at J;refine nt<|wp_ret<|A0 rfl O.defers (As AQ O rfl (J.row 1 rfl) (by simp only [AM])) ⟨_,rfl,J.below,?_⟩
  show _=_
  rfl
theorem Om (p n:Nat)(T:Nat->Nat->Nat->Nat)(f:Nat->Nat)(w:World)(hp:primeN p)(hn0:0<n)(hn:n<=6)(hZ:∀ i j k,T i j k<p)(hT0:∀ i j k,n<=k->T i j k=0)(hf:∀ i,f i<=255)(uu:Nat->Nat)(hO:UnitI p n T uu)(hc:BO (p:Int) (n:Int) T f 0 (Aw [])) :
    CallsR Try.prog 14 #[.agg (AB (p:Int) (n:Int) T f)] w (fun res _=>res = .tuple #[.agg (AG uu),.int .i64 0]):=by
  refine AS [.agg (AB (p:Int) (n:Int) T f)] Try.func14 rfl Try.ntmps14 rfl fun a O=>?_;have J:AT w w [none,none,none] []:=MemX.start w 3;change Fr 16 a [(0,.agg (AB (p:Int) (n:Int) T f))] at O;have hp2:=hp.two;have hp13:=hp.le;have hT:∀ i j k,T i j k<=255:=fun i j k=>by have:=hZ i j k;omega
  refine sr<|Ab O (Aj 0 J O rfl) rfl ?_;rintro _ w' a ⟨b1,rfl,J,-⟩ O;refine Ab O (AV 1 J Ae) rfl ?_;rintro _ w' a ⟨b2,rfl,J,-⟩ O;change AT _ _ [some (b1,AB (p:Int) (n:Int) T f),some (b2,Al 6 (fun _=>.int .u8 (0))),_] [] at J;refine ag O rfl rfl fun a O=>nt<|sq<|sr<|st O (AA AH O rfl (J.row 0 rfl) (by simp only [AM]<;>omega) (whole AE)) rfl fun a O=>Ab O (AN Try.call12 O (.cons rfl .nil) ((CallsR.val (Dq (p:Int) (n:Int) T f _ (fun _ _ _=>hT _ _ _) (fun _=>hf _)) (congrArg Value.bool (decide_eq_true hc.1))))) rfl ?_;rintro _ w' a ⟨hx,rfl⟩ O;have J:=J.ext hx;refine st O (BW (b:=true) O rfl) rfl fun a O=>nt<|Cm O rfl<|wp_skip<|tN<|sr<|st O (AA AH O rfl (J.row 0 rfl) (by simp only [AM]<;>omega) (whole AE)) rfl fun a O=>Ab O (AN Try.call94 O (.cons rfl .nil) (GN p n T f uu _ hp hn0 hn hZ hO)) rfl ?_;rintro _ w' a ⟨hx,rfl⟩ O;have J:=J.ext hx;refine mv O rfl rfl fun a O=>st O (AO O rfl rfl) rfl fun a O=>st O (AO O rfl rfl) rfl fun a O=>Ab O (AV 2 J Ae) rfl ?_;rintro _ w' a ⟨b4,rfl,J,-⟩ O;change AT _ _ [_,_,some (b4,Al 6 (fun _=>.int .u8 (0)))] [] at J;refine A7 O (AI 2 J rfl Aa O rfl rfl AX (by simp only [AM]) (by simp only [AM]<;>omega) (AF _ _ (by simp only [AM]))) ?_;intro _ w' a J O;change AT _ _ [_,_,some (b4,AG uu)] [] at J;refine ag O rfl rfl fun a O=>ns<|st O (AA AQ O rfl (J.row 2 rfl) (by simp only [AM]<;>omega) (whole (by simp only [AM]))) rfl fun a O=>A7 O (AI 1 J rfl Aa O rfl rfl AX (by simp only [AM]) (by simp only [AM]<;>omega) (AF _ _ (by simp only [AM]))) ?_;intro _ w' a J O;change AT _ _ [_,some (b2,AG uu),_] [] at J;refine ag O rfl rfl fun a O=>nt<|wp_ret<|Ba rfl O.defers (As AQ O rfl (J.row 1 rfl) (by simp only [AM])) (AL O rfl) ⟨_,rfl,J.below,?_⟩
  show _=_
  rfl
end Go.Proofs.Ytkcneleabbjkaaa
