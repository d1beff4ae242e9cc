import Derived.Test.YtgioobkkkicfeaaK9
import Derived.Test.YtgioobkkkicfeaaSw29
set_option linter.unusedVariables false
set_option linter.unusedSimpArgs false
namespace Go.Proofs.Ytgioobkkkicfeaa
open Go Go.RowKit Go.Sw Go.Ech
open Classical
theorem As:Cz Try.prog 27 1=some 1:=by kernel_rfl
theorem Az:Hd Try.prog 24=some (6,1):=by kernel_rfl
theorem AV:Cz Try.prog 27 0=some 0:=by kernel_rfl
theorem AK:Ek Try.prog 27=some 37:=by kernel_rfl
def lead (f:Nat->Nat):Nat->Nat
  | 0=>0
  | m+1=>if lead f m<m then lead f m else if f m=0 then m else m+1
theorem Dx (f:Nat->Nat):∀ n,lead f n<=n/\(∀ j,j<lead f n->f j≠0)/\(lead f n<n->f (lead f n)=0)
  | 0=>⟨Nat.le_refl _,fun j h=>absurd h (by simp [lead]),fun h=>absurd h (by simp [lead])⟩
  | m + 1 => by
    obtain ⟨h1,h2,h3⟩:=Dx f m
    by_cases e:lead f m<m
    . have e0:lead f (m+1)=lead f m:=by simp only [lead];rw [if_pos e]
      rw [e0]
      exact ⟨by omega,h2,fun _=>h3 e⟩
    . have e1:lead f m=m:=by omega
      by_cases e2:f m=0
      . have e0:lead f (m+1)=m:=by simp only [lead];rw [if_neg e,if_pos e2]
        rw [e0]
        exact ⟨by omega,fun j hj=>h2 j (by omega),fun _=>e2⟩
      . have e0:lead f (m+1)=m+1:=by simp only [lead];rw [if_neg e,if_neg e2]
        rw [e0]
        refine ⟨by omega,fun j hj=>?_,fun h=>absurd h (by omega)⟩
        by_cases e3:j=m
        . rw [e3];exact e2
        . exact h2 j (by omega)
theorem Jm {f:Nat->Nat}{n j:Nat}(hj:j<n)(h0:f j=0)(h:∀ i,i<j->f i≠0):lead f n=j:=by
  obtain ⟨h1,h2,h3⟩:=Dx f n;have a1:¬ lead f n<j:=fun hl=>h _ hl (h3 (by omega));have a2:¬ j<lead f n:=fun hl=>h2 j hl h0
  omega
theorem JF {f:Nat->Nat}{n:Nat}(h:∀ i,i<n->f i≠0):lead f n=n:=by
  obtain ⟨h1,h2,h3⟩:=Dx f n;have a1:¬ lead f n<n:=fun hl=>h _ hl (h3 hl)
  omega
theorem Jl {f:Nat->Nat}{n:Nat}(h:∃ j,j<n/\f j=0):lead f n<n:=by
  obtain ⟨h1,h2,h3⟩:=Dx f n;obtain ⟨j,hj,h0⟩:=h;have a2:¬ j<lead f n:=fun hl=>h2 j hl h0
  omega
def Dd (n:Nat) (M:Nat->Nat->Nat) (i j:Nat):Prop:=M i j<n/\(¬ (i<n/\j<n)->M i j=0)
def ElP (n:Nat) (M:Nat->Nat->Nat):Prop:=∀ i,i<6->∀ j,j<6->Dd n M i j
def R9 (n:Nat) (M:Nat->Nat->Nat):Prop:=∀ i,i<n->M 0 i=i/\M i 0=i
def SE (n:Nat) (M:Nat->Nat->Nat):Prop:=∀ i,i<n->∃ j,j<n/\M i j=0
def SZ (n:Nat) (M:Nat->Nat->Nat):Prop:=∀ i,i<n->∀ j,j<n->∀ k,k<n->M (M i j) k=M i (M j k)
def TabP (n:Nat) (M:Nat->Nat->Nat):Prop:=ElP n M/\R9 n M/\SE n M/\SZ n M
def GrpP (n:Int) (M:Nat->Nat->Nat):Prop:=1<=n/\n<=6/\TabP n.toNat M
theorem TabP.two {n:Nat}{M:Nat->Nat->Nat}(hn0:0<n)(hn:n<=6)(h:TabP n M){i:Nat}(hi:i<n):∃ j,j<n/\M i j=0/\M j i=0:=by
  obtain ⟨he,hu,hv,ha⟩:=h;obtain ⟨j,hj,h1⟩:=hv i hi;obtain ⟨k,hk,h2⟩:=hv j hj;have hc:∀ a b,a<n->b<n->M a b<n:=fun a b h3 h4=>(he a (by omega) b (by omega)).1;refine ⟨j,hj,h1,?_⟩;have e1:=ha (M j i) (hc _ _ hj hi) j hj k hk;have e2:=ha j hj i hi j hj;rw [h2,e2,h1,(hu j hj).2,h2,(hu _ (hc _ _ hj hi)).2] at e1;exact e1.symm
instance (n:Nat) (M:Nat->Nat->Nat) (i j:Nat):Decidable (Dd n M i j):=by unfold Dd;infer_instance
theorem CW (n:Int)(M:Nat->Nat->Nat)(i j:Nat)(w:World)(hB:∀ i j,M i j<=255)(hi:i<6)(hj:j<6) :
    CallsR Try.prog 32 #[.agg (AB n M),.int .i64 (i:Int),.int .i64 (j:Int)] w (fun res _=>res = .int .i64 (M i j:Int)):=by
  refine AQ [.agg (AB n M),.int .i64 (i:Int),.int .i64 (j:Int)] Try.func32 rfl Try.ntmps32 rfl fun a O=>?_;have J:AR w w [none] []:=MemX.start w 1;change Fr 14 a [(0,.agg (AB n M)),(1,.int .i64 (i:Int)),(2,.int .i64 (j:Int))] at O;have hbij:=hB i j;refine sr<|Aj O (Aw 0 J O rfl) rfl ?_;rintro _ w' a ⟨b1,rfl,J,-⟩ O;change AR _ _ [some (b1,AB n M)] [] at J;refine ag O rfl rfl fun a O=>ns<|mv O rfl rfl fun a O=>mv O rfl rfl fun a O=>st O (AC As O rfl) rfl fun a O=>st O (AH Av O rfl rfl rfl (by omega)) rfl fun a O=>st O (AH Az O rfl rfl rfl (by omega)) rfl fun a O=>st O (AM Ah O rfl (J.row 0 rfl) (BU (i) (j) (by omega) (by omega) (by omega))) rfl fun a O=>st O (BO Ba Bf O rfl (wrap_i64 (by omega) (by omega))) rfl fun a O=>ag O rfl rfl fun a O=>nt<|wp_ret<|Ap rfl O.defers (AE O rfl) ⟨_,rfl,J.below,?_⟩
  show _=_
  rfl
theorem IW (n:Int)(M:Nat->Nat->Nat)(i j:Nat)(w:World)(hB:∀ i j,M i j<=255)(hi:i<6)(hj:j<6) :
    CallsR Try.prog 55 #[.agg (AB n M),.int .i64 (i:Int),.int .i64 (j:Int)] w (fun res _=>res = .bool (decide (M i j=M j i))):=by
  refine AQ [.agg (AB n M),.int .i64 (i:Int),.int .i64 (j:Int)] Try.func55 rfl Try.ntmps55 rfl fun a O=>?_;have J:AR w w [none] []:=MemX.start w 1;change Fr 20 a [(0,.agg (AB n M)),(1,.int .i64 (i:Int)),(2,.int .i64 (j:Int))] at O;have hbij:=hB i j;have hbji:=hB j i;refine sr<|Aj O (Aw 0 J O rfl) rfl ?_;rintro _ w' a ⟨b1,rfl,J,-⟩ O;change AR _ _ [some (b1,AB n M)] [] at J;refine ag O rfl rfl fun a O=>nt<|sq<|Bt 12 [] [.val (.int .i64 (i:Int)),.val (.int .i64 (j:Int)),.val (ptr b1 (0+1)),.val (ptr b1 (0+1+(i)*6)),.val (ptr b1 (0+1+(i)*6+(j)*1)),.val (.int .u8 ((M (i) (j):Int))),.val (.int .i64 (j:Int)),.val (.int .i64 (i:Int)),.val (ptr b1 (0+1)),.val (ptr b1 (0+1+(j)*6)),.val (ptr b1 (0+1+(j)*6+(i)*1)),.val (.int .u8 ((M (j) (i):Int)))] Bb rfl O rfl J ⟨fun a w gG O hS hd=>by exact BF hS rfl O rfl,fun a w gG O hS hd=>by exact BF hS rfl O rfl,fun a w gG O hS hd=>by exact AD hS rfl (AC As O rfl),fun a w gG O hS hd=>by have O:=O.ext1 7 (hd 0 rfl rfl);have O:=O.ext1 9 (hd 2 rfl rfl);exact AD hS rfl (AH Av O rfl rfl rfl (by omega)),fun a w gG O hS hd=>by have O:=O.ext1 8 (hd 1 rfl rfl);have O:=O.ext1 10 (hd 3 rfl rfl);exact AD hS rfl (AH Az O rfl rfl rfl (by omega)),fun a w gG O hS hd=>by have O:=O.ext1 11 (hd 4 rfl rfl);have J:=hS.mem rfl;exact AD hS rfl (AM Ah O rfl (J.row 0 rfl) (BU (i) (j) (by omega) (by omega) (by omega))),fun a w gG O hS hd=>by exact BF hS rfl O rfl,fun a w gG O hS hd=>by exact BF hS rfl O rfl,fun a w gG O hS hd=>by exact AD hS rfl (AC As O rfl),fun a w gG O hS hd=>by have O:=O.ext1 13 (hd 6 rfl rfl);have O:=O.ext1 15 (hd 8 rfl rfl);exact AD hS rfl (AH Av O rfl rfl rfl (by omega)),fun a w gG O hS hd=>by have O:=O.ext1 14 (hd 7 rfl rfl);have O:=O.ext1 16 (hd 9 rfl rfl);exact AD hS rfl (AH Az O rfl rfl rfl (by omega)),fun a w gG O hS hd=>by have O:=O.ext1 17 (hd 10 rfl rfl);have J:=hS.mem rfl;exact AD hS rfl (AM Ah O rfl (J.row 0 rfl) (BU (j) (i) (by omega) (by omega) (by omega))),trivial⟩ ?_;intro a w' L O hS hq;have O:=O.ext1 7 (hq 0 rfl rfl);have O:=O.ext1 8 (hq 1 rfl rfl);have O:=O.ext1 9 (hq 2 rfl rfl);have O:=O.ext1 10 (hq 3 rfl rfl);have O:=O.ext1 11 (hq 4 rfl rfl);have O:=O.ext1 12 (hq 5 rfl rfl);have O:=O.ext1 13 (hq 6 rfl rfl);have O:=O.ext1 14 (hq 7 rfl rfl);have O:=O.ext1 15 (hq 8 rfl rfl);have O:=O.ext1 16 (hq 9 rfl rfl);have O:=O.ext1 17 (hq 10 rfl rfl);have O:=O.ext1 18 (hq 11 rfl rfl);have J:=hS.mem rfl;change wpList Try.prog _ _ [_,_] _ _;refine st O (Ao O rfl rfl) rfl fun a O=>ag O rfl rfl fun a O=>nt<|wp_ret<|Ap rfl O.defers (AE O rfl) ⟨_,rfl,J.below,?_⟩
  show _=_
  exact congrArg Value.bool (decide_eq_decide.2 (by omega))
theorem IQ (n:Nat)(M:Nat->Nat->Nat)(w:World)(hn0:0<n)(hn:n<=6)(hB:∀ i j,M i j<=255) :
    CallsR Try.prog 71 #[.agg (AB (n:Int) M)] w (fun res _=>res = .bool (decide (ElP n M))):=by
  refine AQ [.agg (AB (n:Int) M)] Try.func71 rfl Try.ntmps71 rfl fun a O=>?_;have J:AR w w [none,none] []:=MemX.start w 2;change Fr 44 a [(0,.agg (AB (n:Int) M))] at O;refine sr<|Aj O (Aw 0 J O rfl) rfl ?_;rintro _ w' a ⟨b1,rfl,J,-⟩ O;change AR _ _ [some (b1,AB (n:Int) M),_] [] at J;refine ag O rfl rfl fun a O=>nt<|sq<|sr<|st O (AC As O rfl) rfl fun a O=>st O (AF D6 O rfl (J.row 0 rfl) (by simp only [AT,AA]<;>omega) (IR (by omega) (by omega))) rfl fun a O=>mv O rfl rfl fun a O=>nt<|wp_block ?_;change AR _ _ [_,_] [] at J;refine Ag (fun (kk:Nat) a w'=>kk<=6/\(∀ i,i<kk->∀ j,j<6->Dd n M i j)/\Fr 44 a [(1,ptr b1 (0)),(9,.agg (Cv M)),(10,.int .i64 (kk:Int))]/\AR w w' [some (b1,AB (n:Int) M),none] []) (fun kk=>6 - kk) 0 ?_ ?_
  . refine ⟨by omega,fun i hi=>absurd hi (by omega),O.sub _ (by repeat' constructor),?_⟩
    exact J
  clear O J;rintro gi a w' ⟨hgi,hH,O,J⟩;refine sr<|st O (Ak O rfl rfl) rfl fun a O=>nt<|sq<|AI O rfl (fun h2=>?_) (fun h2=>?_)
  . refine wp_skip ?_
    refine tN<|sq<|wp_block<|sr<|mv O rfl rfl fun a O=>st O (IS KV B9 O rfl rfl rfl (by omega) (DY (gi) (by omega) (by omega) (by omega))) rfl fun a O=>Aj O (Ax 1 J KT) rfl ?_;rintro _ w' a ⟨b3,rfl,J,-⟩ O;change AR _ _ [_,some (b3,BH 6 (fun _=>.int .u8 (0)))] [] at J;refine ag O rfl rfl fun a O=>Bu O (AX 1 J rfl Hx O rfl rfl Bp (by simp only [AT,AA]) (by simp only [AT,AA]<;>omega) (AP _ _ (by simp only [AT,AA]))) ?_;intro _ w' a J O;change AR _ _ [_,some (b3,Af (M (gi)))] [] at J;refine ns<|st O (AF B9 O rfl (J.row 1 rfl) (by simp only [AT,AA]<;>omega) (whole (by simp only [AT,AA]))) rfl fun a O=>mv O rfl rfl fun a O=>nt<|wp_block ?_;change AR _ _ [_,_] [] at J;refine Ag (fun (kk:Nat) a w'=>kk<=6/\(∀ j,j<kk->Dd n M gi j)/\Fr 44 a [(1,ptr b1 (0)),(9,.agg (Cv M)),(10,.int .i64 (gi:Int)),(11,.bool (decide (((gi:Int):Int)<6))),(12,.int .i64 (gi:Int)),(13,.agg (Af (M (gi)))),(4,ptr b3 (0)),(3,.int .i64 (gi:Int)),(14,.agg (Af (M (gi)))),(15,.int .i64 (kk:Int))]/\AR w w' [some (b1,AB (n:Int) M),some (b3,Af (M (gi)))] []) (fun kk=>6 - kk) 0 ?_ ?_
    . refine ⟨by omega,fun i hi=>absurd hi (by omega),O.sub _ (by repeat' constructor),?_⟩
      exact J
    clear O J;rintro gj a w' ⟨hgj,hO,O,J⟩;have hbb:=hB gi gj;refine sr<|st O (Ak O rfl rfl) rfl fun a O=>nt<|sq<|AI O rfl (fun h4=>?_) (fun h4=>?_)
    . refine wp_skip ?_
      refine tN<|sq<|wp_block<|sr<|mv O rfl rfl fun a O=>st O (GM KW Ah O rfl rfl rfl (by omega) (C7 (gj) (by omega) (by omega))) rfl fun a O=>ag O rfl rfl fun a O=>ag O rfl rfl fun a O=>ns<|mv O rfl rfl fun a O=>st O (AC AV O rfl) rfl fun a O=>st O (AM AL O rfl (J.row 0 rfl) (Au (by omega))) rfl fun a O=>st O (Ak O rfl rfl) rfl fun a O=>mv O rfl rfl fun a O=>?_
      by_cases g5:((gi:Int):Int)<(n:Int)
      . first | rw [decide_eq_true g5] at O | simp only [decide_eq_true g5] at O
        refine Ay O rfl rfl rfl (AS O rfl) rfl fun a O=>Ay O rfl rfl rfl (AC AV O rfl) rfl fun a O=>Ay O rfl rfl rfl (AM AL O rfl (J.row 0 rfl) (Au (by omega))) rfl fun a O=>Ay O rfl rfl rfl (Ak O rfl rfl) rfl fun a O=>st O (Aa O rfl rfl) rfl fun a O=>ag O rfl rfl fun a O=>ns<|mv O rfl rfl fun a O=>st O (BO Ba Bf O rfl (wrap_i64 (by omega) (by omega))) rfl fun a O=>st O (AC AV O rfl) rfl fun a O=>st O (AM AL O rfl (J.row 0 rfl) (Au (by omega))) rfl fun a O=>st O (GN O rfl rfl) rfl fun a O=>mv O rfl rfl fun a O=>?_
        by_cases g6:(n:Int)<=((((M (gi)) (gj):Nat):Int):Int)
        . first | rw [decide_eq_true g6] at O | simp only [decide_eq_true g6] at O
          refine A4 O rfl rfl rfl rfl rfl fun a O=>A4 O rfl rfl rfl rfl rfl fun a O=>A4 O rfl rfl rfl rfl rfl fun a O=>NF O rfl rfl rfl rfl fun a O=>NF O rfl rfl rfl rfl fun a O=>A4 O rfl rfl rfl rfl rfl fun a O=>st O (Aa O rfl rfl) rfl fun a O=>nt<|Hk O rfl<|sr<|ag O rfl rfl fun a O=>nt<|wp_ret<|iR<|tR<|tR<|iR<|iR<|tR<|tR<|iR<|tR<|Ap rfl O.defers (AE O rfl) ⟨_,rfl,J.below,?_⟩
          show _=_
          exact BP (fun hq=>by have hz:=hq gi (by omega) gj (by omega);unfold Dd at hz;omega)
        first | rw [decide_eq_false g6] at O | simp only [decide_eq_false g6] at O
        refine Ay O rfl rfl rfl (AS O rfl) rfl fun a O=>Ay O rfl rfl rfl (CP O rfl) rfl fun a O=>Ay O rfl rfl rfl (AS O rfl) rfl fun a O=>?_
        by_cases g8:¬ (((gj:Int):Int)<(n:Int))
        . first | rw [decide_eq_true g8] at O | simp only [decide_eq_true g8] at O
          refine Ay O rfl rfl rfl (AS O rfl) rfl fun a O=>Ay O rfl rfl rfl (A0 O rfl rfl) rfl fun a O=>Ay O rfl rfl rfl (Aa O rfl rfl) rfl fun a O=>st O (Ai O rfl rfl) rfl fun a O=>nt<|AI O rfl (fun h9=>?_) (fun h9=>?_)
          . refine sq ?_
            refine wp_region_lit<|ag O rfl rfl fun a O=>nt<|wp_ret<|iR<|tR<|tR<|iR<|iR<|tR<|tR<|iR<|tR<|Ap rfl O.defers (AE O rfl) ⟨_,rfl,J.below,?_⟩
            show _=_
            exact BP (fun hq=>by have hz:=hq gi (by omega) gj (by omega);unfold Dd at hz;omega)
          refine wp_skip<|iN<|tN<|wp_region_lit<|st O (Ac O rfl rfl (AN (gj) (1) (by omega))) rfl fun a O=>mv O rfl rfl fun a O=>nt<|⟨gj+1,⟨by omega,CO hO (by unfold Dd;omega),O.sub _ (by repeat' constructor),?_⟩,by omega⟩;exact J
        first | rw [decide_eq_false g8] at O | simp only [decide_eq_false g8] at O
        refine A4 O rfl rfl rfl rfl rfl fun a O=>A4 O rfl rfl rfl rfl rfl fun a O=>Ay O rfl rfl rfl (Ai O rfl rfl) rfl fun a O=>st O (Ai O rfl rfl) rfl fun a O=>nt<|CN O rfl<|wp_skip<|iN<|tN<|wp_region_lit<|st O (Ac O rfl rfl (AN (gj) (1) (by omega))) rfl fun a O=>mv O rfl rfl fun a O=>nt<|⟨gj+1,⟨by omega,CO hO (by unfold Dd;omega),O.sub _ (by repeat' constructor),?_⟩,by omega⟩;exact J
      first | rw [decide_eq_false g5] at O | simp only [decide_eq_false g5] at O
      refine A4 O rfl rfl rfl rfl rfl fun a O=>A4 O rfl rfl rfl rfl rfl fun a O=>A4 O rfl rfl rfl rfl rfl fun a O=>A4 O rfl rfl rfl rfl rfl fun a O=>st O (Ai O rfl rfl) rfl fun a O=>ag O rfl rfl fun a O=>ns<|mv O rfl rfl fun a O=>st O (BO Ba Bf O rfl (wrap_i64 (by omega) (by omega))) rfl fun a O=>st O (AC AV O rfl) rfl fun a O=>st O (AM AL O rfl (J.row 0 rfl) (Au (by omega))) rfl fun a O=>st O (GN O rfl rfl) rfl fun a O=>mv O rfl rfl fun a O=>?_
      by_cases g11:(n:Int)<=((((M (gi)) (gj):Nat):Int):Int)
      . first | rw [decide_eq_true g11] at O | simp only [decide_eq_true g11] at O
        refine A4 O rfl rfl rfl rfl rfl fun a O=>A4 O rfl rfl rfl rfl rfl fun a O=>A4 O rfl rfl rfl rfl rfl fun a O=>NF O rfl rfl rfl rfl fun a O=>NF O rfl rfl rfl rfl fun a O=>A4 O rfl rfl rfl rfl rfl fun a O=>st O (Aa O rfl rfl) rfl fun a O=>nt<|Hk O rfl<|sr<|ag O rfl rfl fun a O=>nt<|wp_ret<|iR<|tR<|tR<|iR<|iR<|tR<|tR<|iR<|tR<|Ap rfl O.defers (AE O rfl) ⟨_,rfl,J.below,?_⟩
        show _=_
        exact BP (fun hq=>by have hz:=hq gi (by omega) gj (by omega);unfold Dd at hz;omega)
      first | rw [decide_eq_false g11] at O | simp only [decide_eq_false g11] at O
      refine Ay O rfl rfl rfl (AS O rfl) rfl fun a O=>Ay O rfl rfl rfl (Co (b:=false) O rfl) rfl fun a O=>Ay O rfl rfl rfl (AS O rfl) rfl fun a O=>Ay O rfl rfl rfl (AS O rfl) rfl fun a O=>Ay O rfl rfl rfl (A0 O rfl rfl) rfl fun a O=>Ay O rfl rfl rfl (Aa O rfl rfl) rfl fun a O=>st O (Ai O rfl rfl) rfl fun a O=>nt<|AI O rfl (fun h13=>?_) (fun h13=>?_)
      . refine sq ?_
        refine wp_region_lit<|ag O rfl rfl fun a O=>nt<|wp_ret<|iR<|tR<|tR<|iR<|iR<|tR<|tR<|iR<|tR<|Ap rfl O.defers (AE O rfl) ⟨_,rfl,J.below,?_⟩
        show _=_
        exact BP (fun hq=>by have hz:=hq gi (by omega) gj (by omega);unfold Dd at hz;omega)
      refine wp_skip<|iN<|tN<|wp_region_lit<|st O (Ac O rfl rfl (AN (gj) (1) (by omega))) rfl fun a O=>mv O rfl rfl fun a O=>nt<|⟨gj+1,⟨by omega,CO hO (by unfold Dd;omega),O.sub _ (by repeat' constructor),?_⟩,by omega⟩;exact J
    obtain rfl:6=gj:=by omega
    refine wp_exit<|tX<|tX<|AW<|iN<|tN<|wp_region_lit<|st O (Ac O rfl rfl (AN (gi) (1) (by omega))) rfl fun a O=>mv O rfl rfl fun a O=>wpList_nil<|tN ?_;have J:=J.drop 1;refine ⟨gi+1,⟨by omega,CO hH hO,O.sub _ (by repeat' constructor),?_⟩,by omega⟩;exact J
  obtain rfl:6=gi:=by omega
  refine wp_exit<|tX<|tX<|AW<|tN<|sr<|ag O rfl rfl fun a O=>nt<|wp_ret<|Ap rfl O.defers (AE O rfl) ⟨_,rfl,J.below,?_⟩
  show _=_
  exact Ds (hH)
theorem L7 (n:Nat)(M:Nat->Nat->Nat)(w:World)(hn0:0<n)(hn:n<=6)(hB:∀ i j,M i j<=255) :
    CallsR Try.prog 72 #[.agg (AB (n:Int) M)] w (fun res _=>res = .bool (decide (R9 n M))):=by
  refine AQ [.agg (AB (n:Int) M)] Try.func72 rfl Try.ntmps72 rfl fun a O=>?_;have J:AR w w [none] []:=MemX.start w 1;change Fr 22 a [(0,.agg (AB (n:Int) M))] at O;refine sr<|Aj O (Aw 0 J O rfl) rfl ?_;rintro _ w' a ⟨b1,rfl,J,-⟩ O;change AR _ _ [some (b1,AB (n:Int) M)] [] at J;refine ag O rfl rfl fun a O=>nt<|sq<|sr<|st O (AC AV O rfl) rfl fun a O=>st O (AM AL O rfl (J.row 0 rfl) (Au (by omega))) rfl fun a O=>mv O rfl rfl fun a O=>nt<|wp_block ?_;change AR _ _ [_] [] at J;refine Ag (fun (kk:Nat) a w'=>kk<=n/\(∀ i,i<kk->M 0 i=i/\M i 0=i)/\Fr 22 a [(1,ptr b1 (0)),(5,.int .i64 (n:Int)),(6,.int .i64 (kk:Int))]/\AR w w' [some (b1,AB (n:Int) M)] []) (fun kk=>n - kk) 0 ?_ ?_
  . refine ⟨by omega,fun i hi=>absurd hi (by omega),O.sub _ (by repeat' constructor),?_⟩
    exact J
  clear O J;rintro gi a w' ⟨hgi,hH,O,J⟩;have hb1:=hB 0 gi;have hb2:=hB gi 0;refine sr<|st O (Ak O rfl rfl) rfl fun a O=>nt<|sq<|AI O rfl (fun h2=>?_) (fun h2=>?_)
  . refine wp_skip ?_
    refine tN<|sq<|wp_block<|sr<|mv O rfl rfl fun a O=>ag O rfl rfl fun a O=>ns<|st O (AF AK O rfl (J.row 0 rfl) (by simp only [AT,AA]<;>omega) (whole (by simp only [AT,AA]))) rfl fun a O=>mv O rfl rfl fun a O=>Aj O (AO Try.call32 O (.cons rfl (.cons rfl (.cons rfl .nil))) (CW (n:Int) M (0) (gi) _ hB (by omega) (by omega))) rfl ?_;rintro _ w' a ⟨hx,rfl⟩ O;have J:=J.ext hx;refine mv O rfl rfl fun a O=>st O (A0 O rfl rfl) rfl fun a O=>mv O rfl rfl fun a O=>?_
    by_cases g3:((M (0) (gi):Int):Int)≠(gi:Int)
    . first | rw [decide_eq_true g3] at O | simp only [decide_eq_true g3] at O
      refine A4 O rfl rfl rfl rfl rfl fun a O=>A4 O rfl rfl rfl rfl rfl fun a O=>A4 O rfl rfl rfl rfl rfl fun a O=>A4 O rfl rfl rfl rfl rfl fun a O=>A4 O rfl rfl rfl rfl rfl fun a O=>st O (Aa O rfl rfl) rfl fun a O=>nt<|Hk O rfl<|sr<|ag O rfl rfl fun a O=>nt<|wp_ret<|iR<|tR<|tR<|iR<|tR<|Ap rfl O.defers (AE O rfl) ⟨_,rfl,J.below,?_⟩
      show _=_
      exact BP (fun hq=>by have hz:=hq gi (by omega);omega)
    first | rw [decide_eq_false g3] at O | simp only [decide_eq_false g3] at O
    refine Ay O rfl rfl rfl (AF AK O rfl (J.row 0 rfl) (by simp only [AT,AA]<;>omega) (whole (by simp only [AT,AA]))) rfl fun a O=>Ay O rfl rfl rfl (AS O rfl) rfl fun a O=>EX O rfl rfl rfl (AO Try.call32 O (.cons rfl (.cons rfl (.cons rfl .nil))) (CW (n:Int) M (gi) (0) _ hB (by omega) (by omega))) rfl ?_;rintro _ w' a ⟨hx,rfl⟩ O;have J:=J.ext hx;refine Ay O rfl rfl rfl (AS O rfl) rfl fun a O=>Ay O rfl rfl rfl (A0 O rfl rfl) rfl fun a O=>st O (Ai O rfl rfl) rfl fun a O=>nt<|AI O rfl (fun h5=>?_) (fun h5=>?_)
    . refine sq ?_
      refine wp_region_lit<|ag O rfl rfl fun a O=>nt<|wp_ret<|iR<|tR<|tR<|iR<|tR<|Ap rfl O.defers (AE O rfl) ⟨_,rfl,J.below,?_⟩
      show _=_
      exact BP (fun hq=>by have hz:=hq gi (by omega);omega)
    refine wp_skip<|iN<|tN<|wp_region_lit<|st O (Ac O rfl rfl (AN (gi) (1) (by omega))) rfl fun a O=>mv O rfl rfl fun a O=>nt<|⟨gi+1,⟨by omega,CO hH (by omega),O.sub _ (by repeat' constructor),?_⟩,by omega⟩;exact J
  obtain rfl:n=gi:=by omega
  refine wp_exit<|tX<|tX<|AW<|tN<|sr<|ag O rfl rfl fun a O=>nt<|wp_ret<|Ap rfl O.defers (AE O rfl) ⟨_,rfl,J.below,?_⟩
  show _=_
  exact Ds (hH)
def Jv (n:Nat) (M:Nat->Nat->Nat) (i:Nat):Int:=if lead (M i) n<n then (lead (M i) n:Int) else -1
theorem Ou {n:Nat}{M:Nat->Nat->Nat}{i:Nat}(h:¬ Jv n M i<0):∃ j,j<n/\M i j=0:=by
  have hz:=Dx (M i) n
  unfold Jv at h
  split at h
  . exact ⟨_,by assumption,hz.2.2 (by assumption)⟩
  . omega
theorem ElP.lt {n:Nat}{M:Nat->Nat->Nat}(h:ElP n M){i j:Nat}(hi:i<6)(hj:j<6):M i j<n:=(h i hi j hj).1
theorem IL (n:Nat)(M:Nat->Nat->Nat)(i:Nat)(w:World)(hn0:0<n)(hn:n<=6)(hB:∀ i j,M i j<=255)(hi:i<6) :
    CallsR Try.prog 75 #[.agg (AB (n:Int) M),.int .i64 (i:Int)] w (fun res _=>res = .int .i64 (Jv n M i)):=by
  refine AQ [.agg (AB (n:Int) M),.int .i64 (i:Int)] Try.func75 rfl Try.ntmps75 rfl fun a O=>?_;have J:AR w w [none] []:=MemX.start w 1;change Fr 18 a [(0,.agg (AB (n:Int) M)),(1,.int .i64 (i:Int))] at O;refine sr<|Aj O (Aw 0 J O rfl) rfl ?_;rintro _ w' a ⟨b1,rfl,J,-⟩ O;change AR _ _ [some (b1,AB (n:Int) M)] [] at J;refine ag O rfl rfl fun a O=>nt<|sq<|sr<|st O (AC AV O rfl) rfl fun a O=>st O (AM AL O rfl (J.row 0 rfl) (Au (by omega))) rfl fun a O=>mv O rfl rfl fun a O=>nt<|wp_block ?_;change AR _ _ [_] [] at J;refine Ag (fun (kk:Nat) a w'=>kk<=n/\(∀ j,j<kk->M i j≠0)/\Fr 18 a [(1,.int .i64 (i:Int)),(2,ptr b1 (0)),(7,.int .i64 (n:Int)),(8,.int .i64 (kk:Int))]/\AR w w' [some (b1,AB (n:Int) M)] []) (fun kk=>n - kk) 0 ?_ ?_
  . refine ⟨by omega,fun i hi=>absurd hi (by omega),O.sub _ (by repeat' constructor),?_⟩
    exact J
  clear O J;rintro gj a w' ⟨hgj,hH,O,J⟩;have hbb:=hB i gj;refine sr<|st O (Ak O rfl rfl) rfl fun a O=>nt<|sq<|AI O rfl (fun h2=>?_) (fun h2=>?_)
  . refine wp_skip ?_
    refine tN<|sq<|wp_block<|sr<|mv O rfl rfl fun a O=>ag O rfl rfl fun a O=>ns<|st O (AF AK O rfl (J.row 0 rfl) (by simp only [AT,AA]<;>omega) (whole (by simp only [AT,AA]))) rfl fun a O=>mv O rfl rfl fun a O=>mv O rfl rfl fun a O=>Aj O (AO Try.call32 O (.cons rfl (.cons rfl (.cons rfl .nil))) (CW (n:Int) M (i) (gj) _ hB (by omega) (by omega))) rfl ?_;rintro _ w' a ⟨hx,rfl⟩ O;have J:=J.ext hx;refine st O (Ao O rfl rfl) rfl fun a O=>nt<|AI O rfl (fun h3=>?_) (fun h3=>?_)
    . refine sq ?_
      refine wp_region_lit<|mv O rfl rfl fun a O=>ag O rfl rfl fun a O=>nt<|wp_ret<|iR<|tR<|tR<|iR<|tR<|Ap rfl O.defers (AE O rfl) ⟨_,rfl,J.below,?_⟩
      show _=_
      exact congrArg (Value.int .i64) (by unfold Jv;rw [Jm (j:=gj) (by omega) (by omega) hH,if_pos (by omega)])
    refine wp_skip<|iN<|tN<|wp_region_lit<|st O (Ac O rfl rfl (AN (gj) (1) (by omega))) rfl fun a O=>mv O rfl rfl fun a O=>nt<|⟨gj+1,⟨by omega,CO hH (by omega),O.sub _ (by repeat' constructor),?_⟩,by omega⟩;exact J
  obtain rfl:n=gj:=by omega
  refine wp_exit<|tX<|tX<|AW<|tN<|sr<|ag O rfl rfl fun a O=>nt<|wp_ret<|Ap rfl O.defers (AE O rfl) ⟨_,rfl,J.below,?_⟩
  show _=_
  exact congrArg (Value.int .i64) (by unfold Jv;rw [JF hH,if_neg (by omega)])
theorem IN (n:Nat)(M:Nat->Nat->Nat)(w:World)(hn0:0<n)(hn:n<=6)(hB:∀ i j,M i j<=255) :
    CallsR Try.prog 73 #[.agg (AB (n:Int) M)] w (fun res _=>res = .bool (decide (SE n M))):=by
  refine AQ [.agg (AB (n:Int) M)] Try.func73 rfl Try.ntmps73 rfl fun a O=>?_;have J:AR w w [none] []:=MemX.start w 1;change Fr 14 a [(0,.agg (AB (n:Int) M))] at O;refine sr<|Aj O (Aw 0 J O rfl) rfl ?_;rintro _ w' a ⟨b1,rfl,J,-⟩ O;change AR _ _ [some (b1,AB (n:Int) M)] [] at J;refine ag O rfl rfl fun a O=>nt<|sq<|sr<|st O (AC AV O rfl) rfl fun a O=>st O (AM AL O rfl (J.row 0 rfl) (Au (by omega))) rfl fun a O=>mv O rfl rfl fun a O=>nt<|wp_block ?_;change AR _ _ [_] [] at J;refine Ag (fun (kk:Nat) a w'=>kk<=n/\(∀ i,i<kk->∃ j,j<n/\M i j=0)/\Fr 14 a [(1,ptr b1 (0)),(5,.int .i64 (n:Int)),(6,.int .i64 (kk:Int))]/\AR w w' [some (b1,AB (n:Int) M)] []) (fun kk=>n - kk) 0 ?_ ?_
  . refine ⟨by omega,fun i hi=>absurd hi (by omega),O.sub _ (by repeat' constructor),?_⟩
    exact J
  clear O J;rintro gi a w' ⟨hgi,hH,O,J⟩;refine sr<|st O (Ak O rfl rfl) rfl fun a O=>nt<|sq<|AI O rfl (fun h2=>?_) (fun h2=>?_)
  . refine wp_skip ?_
    refine tN<|sq<|wp_block<|sr<|mv O rfl rfl fun a O=>ag O rfl rfl fun a O=>ns<|st O (AF AK O rfl (J.row 0 rfl) (by simp only [AT,AA]<;>omega) (whole (by simp only [AT,AA]))) rfl fun a O=>mv O rfl rfl fun a O=>Aj O (AO Try.call75 O (.cons rfl (.cons rfl .nil)) (IL n M (gi) _ hn0 hn hB (by omega))) rfl ?_;rintro _ w' a ⟨hx,rfl⟩ O;have J:=J.ext hx;refine st O (Ak O rfl rfl) rfl fun a O=>nt<|AI O rfl (fun h3=>?_) (fun h3=>?_)
    . refine sq ?_
      refine wp_region_lit<|ag O rfl rfl fun a O=>nt<|wp_ret<|iR<|tR<|tR<|iR<|tR<|Ap rfl O.defers (AE O rfl) ⟨_,rfl,J.below,?_⟩
      show _=_
      exact BP (fun hq=>by have hz:=Jl (hq gi (by omega));have hz2:Jv n M gi<0:=(by assumption);unfold Jv at hz2;rw [if_pos hz] at hz2;exact absurd hz2 (by omega))
    refine wp_skip<|iN<|tN<|wp_region_lit<|st O (Ac O rfl rfl (AN (gi) (1) (by omega))) rfl fun a O=>mv O rfl rfl fun a O=>nt<|⟨gi+1,⟨by omega,CO hH (Ou (by assumption)),O.sub _ (by repeat' constructor),?_⟩,by omega⟩;exact J
  obtain rfl:n=gi:=by omega
  refine wp_exit<|tX<|tX<|AW<|tN<|sr<|ag O rfl rfl fun a O=>nt<|wp_ret<|Ap rfl O.defers (AE O rfl) ⟨_,rfl,J.below,?_⟩
  show _=_
  exact Ds (hH)
theorem Oq (n:Nat)(M:Nat->Nat->Nat)(w:World)(hn0:0<n)(hn:n<=6)(hB:∀ i j,M i j<=255)(hE:ElP n M) :
    CallsR Try.prog 74 #[.agg (AB (n:Int) M)] w (fun res _=>res = .bool (decide (SZ n M))):=by
  refine AQ [.agg (AB (n:Int) M)] Try.func74 rfl Try.ntmps74 rfl fun a O=>?_;have J:AR w w [none] []:=MemX.start w 1;change Fr 39 a [(0,.agg (AB (n:Int) M))] at O;refine sr<|Aj O (Aw 0 J O rfl) rfl ?_;rintro _ w' a ⟨b1,rfl,J,-⟩ O;change AR _ _ [some (b1,AB (n:Int) M)] [] at J;refine ag O rfl rfl fun a O=>nt<|sq<|sr<|st O (AC AV O rfl) rfl fun a O=>st O (AM AL O rfl (J.row 0 rfl) (Au (by omega))) rfl fun a O=>mv O rfl rfl fun a O=>nt<|wp_block ?_;change AR _ _ [_] [] at J;refine Ag (fun (kk:Nat) a w'=>kk<=n/\(∀ i,i<kk->∀ j,j<n->∀ k,k<n->M (M i j) k=M i (M j k))/\Fr 39 a [(1,ptr b1 (0)),(7,.int .i64 (n:Int)),(8,.int .i64 (kk:Int))]/\AR w w' [some (b1,AB (n:Int) M)] []) (fun kk=>n - kk) 0 ?_ ?_
  . refine ⟨by omega,fun i hi=>absurd hi (by omega),O.sub _ (by repeat' constructor),?_⟩
    exact J
  clear O J;rintro gi a w' ⟨hgi,hH,O,J⟩;refine sr<|st O (Ak O rfl rfl) rfl fun a O=>nt<|sq<|AI O rfl (fun h2=>?_) (fun h2=>?_)
  . refine wp_skip ?_
    refine tN<|sq<|wp_block<|sr<|mv O rfl rfl fun a O=>ag O rfl rfl fun a O=>ns<|st O (AC AV O rfl) rfl fun a O=>st O (AM AL O rfl (J.row 0 rfl) (Au (by omega))) rfl fun a O=>mv O rfl rfl fun a O=>nt<|wp_block ?_;change AR w _ [some (b1,AB (n:Int) M)] [] at J;refine Ag (fun (kk:Nat) a w'=>kk<=n/\(∀ j,j<kk->∀ k,k<n->M (M gi j) k=M gi (M j k))/\Fr 39 a [(1,ptr b1 (0)),(7,.int .i64 (n:Int)),(8,.int .i64 (gi:Int)),(9,.bool (decide (((gi:Int):Int)<(n:Int)))),(10,.int .i64 (gi:Int)),(3,.int .i64 (gi:Int)),(11,ptr b1 (0+0)),(12,.int .i64 (n:Int)),(13,.int .i64 (kk:Int))]/\AR w w' [some (b1,AB (n:Int) M)] []) (fun kk=>n - kk) 0 ?_ ?_
    . refine ⟨by omega,fun i hi=>absurd hi (by omega),O.sub _ (by repeat' constructor),?_⟩
      exact J
    clear O J;rintro gj a w' ⟨hgj,hO,O,J⟩;refine sr<|st O (Ak O rfl rfl) rfl fun a O=>nt<|sq<|AI O rfl (fun h3=>?_) (fun h3=>?_)
    . refine wp_skip ?_
      refine tN<|sq<|wp_block<|sr<|mv O rfl rfl fun a O=>ag O rfl rfl fun a O=>ns<|st O (AC AV O rfl) rfl fun a O=>st O (AM AL O rfl (J.row 0 rfl) (Au (by omega))) rfl fun a O=>mv O rfl rfl fun a O=>nt<|wp_block ?_;change AR w _ [some (b1,AB (n:Int) M)] [] at J;refine Ag (fun (kk:Nat) a w'=>kk<=n/\(∀ k,k<kk->M (M gi gj) k=M gi (M gj k))/\Fr 39 a [(1,ptr b1 (0)),(7,.int .i64 (n:Int)),(8,.int .i64 (gi:Int)),(9,.bool (decide (((gi:Int):Int)<(n:Int)))),(10,.int .i64 (gi:Int)),(3,.int .i64 (gi:Int)),(11,ptr b1 (0+0)),(12,.int .i64 (n:Int)),(13,.int .i64 (gj:Int)),(14,.bool (decide (((gj:Int):Int)<(n:Int)))),(15,.int .i64 (gj:Int)),(4,.int .i64 (gj:Int)),(16,ptr b1 (0+0)),(17,.int .i64 (n:Int)),(18,.int .i64 (kk:Int))]/\AR w w' [some (b1,AB (n:Int) M)] []) (fun kk=>n - kk) 0 ?_ ?_
      . refine ⟨by omega,fun i hi=>absurd hi (by omega),O.sub _ (by repeat' constructor),?_⟩
        exact J
      clear O J;rintro gk a w' ⟨hgk,hU,O,J⟩;have hbij:=hE.lt (i:=gi) (j:=gj) (by omega) (by omega);have hbjk:gk<n->M gj gk<n:=fun hq=>hE.lt (by omega) (by omega);refine sr<|st O (Ak O rfl rfl) rfl fun a O=>nt<|sq<|AI O rfl (fun h4=>?_) (fun h4=>?_)
      . refine wp_skip ?_
        refine tN<|sq<|wp_block<|sr<|mv O rfl rfl fun a O=>ag O rfl rfl fun a O=>nt<|sq<|Bt 13 [] [.val (.agg (AB (n:Int) M)),.val (.agg (AB (n:Int) M)),.val (.int .i64 (gi:Int)),.val (.int .i64 (gj:Int)),.val (.int .i64 ((M (gi) (gj):Int))),.val (.int .i64 (gk:Int)),.val (.int .i64 ((M (M (gi) (gj)) (gk):Int))),.val (.agg (AB (n:Int) M)),.val (.int .i64 (gi:Int)),.val (.agg (AB (n:Int) M)),.val (.int .i64 (gj:Int)),.val (.int .i64 (gk:Int)),.val (.int .i64 ((M (gj) (gk):Int)))] Bb rfl O rfl J ⟨fun a w gG O hS hd=>by have J:=hS.mem rfl;exact AD hS rfl (AF AK O rfl (J.row 0 rfl) (by simp only [AT,AA]<;>omega) (whole (by simp only [AT,AA]))),fun a w gG O hS hd=>by have J:=hS.mem rfl;exact AD hS rfl (AF AK O rfl (J.row 0 rfl) (by simp only [AT,AA]<;>omega) (whole (by simp only [AT,AA]))),fun a w gG O hS hd=>by exact BF hS rfl O rfl,fun a w gG O hS hd=>by exact BF hS rfl O rfl,fun a w gG O hS hd=>by have O:=O.ext1 22 (hd 1 rfl rfl);have O:=O.ext1 23 (hd 2 rfl rfl);have O:=O.ext1 24 (hd 3 rfl rfl);exact BT (by repeat constructor) hS rfl (AO Try.call32 O (.cons rfl (.cons rfl (.cons rfl .nil))) (CW (n:Int) M (gi) (gj) _ hB (by omega) (by omega))),fun a w gG O hS hd=>by exact BF hS rfl O rfl,fun a w gG O hS hd=>by have O:=O.ext1 21 (hd 0 rfl rfl);have O:=O.ext1 25 (hd 4 rfl rfl);have O:=O.ext1 26 (hd 5 rfl rfl);exact BT (by repeat constructor) hS rfl (AO Try.call32 O (.cons rfl (.cons rfl (.cons rfl .nil))) (CW (n:Int) M (M (gi) (gj)) (gk) _ hB (by omega) (by omega))),fun a w gG O hS hd=>by have J:=hS.mem rfl;exact AD hS rfl (AF AK O rfl (J.row 0 rfl) (by simp only [AT,AA]<;>omega) (whole (by simp only [AT,AA]))),fun a w gG O hS hd=>by exact BF hS rfl O rfl,fun a w gG O hS hd=>by have J:=hS.mem rfl;exact AD hS rfl (AF AK O rfl (J.row 0 rfl) (by simp only [AT,AA]<;>omega) (whole (by simp only [AT,AA]))),fun a w gG O hS hd=>by exact BF hS rfl O rfl,fun a w gG O hS hd=>by exact BF hS rfl O rfl,fun a w gG O hS hd=>by have O:=O.ext1 30 (hd 9 rfl rfl);have O:=O.ext1 31 (hd 10 rfl rfl);have O:=O.ext1 32 (hd 11 rfl rfl);exact BT (by repeat constructor) hS rfl (AO Try.call32 O (.cons rfl (.cons rfl (.cons rfl .nil))) (CW (n:Int) M (gj) (gk) _ hB (by omega) (by omega))),trivial⟩ ?_;intro a w' L O hS hq;have O:=O.ext1 21 (hq 0 rfl rfl);have O:=O.ext1 22 (hq 1 rfl rfl);have O:=O.ext1 23 (hq 2 rfl rfl);have O:=O.ext1 24 (hq 3 rfl rfl);have O:=O.ext1 25 (hq 4 rfl rfl);have O:=O.ext1 26 (hq 5 rfl rfl);have O:=O.ext1 27 (hq 6 rfl rfl);have O:=O.ext1 28 (hq 7 rfl rfl);have O:=O.ext1 29 (hq 8 rfl rfl);have O:=O.ext1 30 (hq 9 rfl rfl);have O:=O.ext1 31 (hq 10 rfl rfl);have O:=O.ext1 32 (hq 11 rfl rfl);have O:=O.ext1 33 (hq 12 rfl rfl);have J:=hS.mem rfl;change wpList Try.prog _ _ [_,_] _ _;refine Aj O (AO Try.call32 O (.cons rfl (.cons rfl (.cons rfl .nil))) (CW (n:Int) M (gi) (M (gj) (gk)) _ hB (by omega) (by omega))) rfl ?_;rintro _ w' a ⟨hx,rfl⟩ O;have J:=J.ext hx;refine st O (A0 O rfl rfl) rfl fun a O=>nt<|AI O rfl (fun h5=>?_) (fun h5=>?_)
        . refine sq ?_
          refine wp_region_lit<|ag O rfl rfl fun a O=>nt<|wp_ret<|iR<|tR<|tR<|iR<|iR<|tR<|tR<|iR<|iR<|tR<|tR<|iR<|tR<|Ap rfl O.defers (AE O rfl) ⟨_,rfl,J.below,?_⟩
          show _=_
          exact BP (fun hq=>by have hz:=hq gi (by omega) gj (by omega) gk (by omega);omega)
        refine wp_skip<|iN<|tN<|wp_region_lit<|st O (Ac O rfl rfl (AN (gk) (1) (by omega))) rfl fun a O=>mv O rfl rfl fun a O=>nt<|⟨gk+1,⟨by omega,CO hU (by omega),O.sub _ (by repeat' constructor),?_⟩,by omega⟩;exact J
      obtain rfl:n=gk:=by omega
      refine wp_exit<|tX<|tX<|AW<|iN<|tN<|wp_region_lit<|st O (Ac O rfl rfl (AN (gj) (1) (by omega))) rfl fun a O=>mv O rfl rfl fun a O=>nt<|⟨gj+1,⟨by omega,CO hO hU,O.sub _ (by repeat' constructor),?_⟩,by omega⟩;exact J
    obtain rfl:n=gj:=by omega
    refine wp_exit<|tX<|tX<|AW<|iN<|tN<|wp_region_lit<|st O (Ac O rfl rfl (AN (gi) (1) (by omega))) rfl fun a O=>mv O rfl rfl fun a O=>nt<|⟨gi+1,⟨by omega,CO hH hO,O.sub _ (by repeat' constructor),?_⟩,by omega⟩;exact J
  obtain rfl:n=gi:=by omega
  refine wp_exit<|tX<|tX<|AW<|tN<|sr<|ag O rfl rfl fun a O=>nt<|wp_ret<|Ap rfl O.defers (AE O rfl) ⟨_,rfl,J.below,?_⟩
  show _=_
  exact Ds (hH)
theorem LK (n:Nat)(M:Nat->Nat->Nat)(w:World)(hn0:0<n)(hn:n<=6)(hB:∀ i j,M i j<=255) :
    CallsR Try.prog 48 #[.agg (AB (n:Int) M)] w (fun res _=>res = .bool (decide (TabP n M))):=by
  refine AQ [.agg (AB (n:Int) M)] Try.func48 rfl Try.ntmps48 rfl fun a O=>?_;have J:AR w w [none] []:=MemX.start w 1;change Fr 26 a [(0,.agg (AB (n:Int) M))] at O;refine sr<|Aj O (Aw 0 J O rfl) rfl ?_;rintro _ w' a ⟨b1,rfl,J,-⟩ O;change AR _ _ [some (b1,AB (n:Int) M)] [] at J;refine ag O rfl rfl fun a O=>nt<|sq<|sr<|st O (AC AV O rfl) rfl fun a O=>st O (AM AL O rfl (J.row 0 rfl) (Au (by omega))) rfl fun a O=>st O (Ak O rfl rfl) rfl fun a O=>mv O rfl rfl fun a O=>?_
  by_cases g2:((n:Int):Int)<1
  . first | rw [decide_eq_true g2] at O | simp only [decide_eq_true g2] at O
    refine A4 O rfl rfl rfl rfl rfl fun a O=>A4 O rfl rfl rfl rfl rfl fun a O=>A4 O rfl rfl rfl rfl rfl fun a O=>st O (Aa O rfl rfl) rfl fun a O=>mv O rfl rfl fun a O=>A4 O rfl rfl rfl rfl rfl fun a O=>A4 O rfl rfl rfl rfl rfl fun a O=>A4 O rfl rfl rfl rfl rfl fun a O=>st O (Aa O rfl rfl) rfl fun a O=>nt<|Hk O rfl<|sr<|ag O rfl rfl fun a O=>nt<|wp_ret<|tR<|Ap rfl O.defers (AE O rfl) ⟨_,rfl,J.below,?_⟩
    show _=_
    exact BP (fun hq=>by first | omega | exact absurd hq.1 (by assumption) | exact absurd hq.2.1 (by assumption) | exact absurd hq.2.2.1 (by assumption))
  first | rw [decide_eq_false g2] at O | simp only [decide_eq_false g2] at O
  refine Ay O rfl rfl rfl (AC AV O rfl) rfl fun a O=>Ay O rfl rfl rfl (AM AL O rfl (J.row 0 rfl) (Au (by omega))) rfl fun a O=>Ay O rfl rfl rfl (Cq O rfl rfl) rfl fun a O=>st O (Ai O rfl rfl) rfl fun a O=>mv O rfl rfl fun a O=>?_
  by_cases g4:6<((n:Int):Int)
  . first | rw [decide_eq_true g4] at O | simp only [decide_eq_true g4] at O
    refine A4 O rfl rfl rfl rfl rfl fun a O=>A4 O rfl rfl rfl rfl rfl fun a O=>A4 O rfl rfl rfl rfl rfl fun a O=>st O (Aa O rfl rfl) rfl fun a O=>nt<|Hk O rfl<|sr<|ag O rfl rfl fun a O=>nt<|wp_ret<|tR<|Ap rfl O.defers (AE O rfl) ⟨_,rfl,J.below,?_⟩
    show _=_
    exact BP (fun hq=>by first | omega | exact absurd hq.1 (by assumption) | exact absurd hq.2.1 (by assumption) | exact absurd hq.2.2.1 (by assumption))
  first | rw [decide_eq_false g4] at O | simp only [decide_eq_false g4] at O
  refine Ay O rfl rfl rfl (AF AK O rfl (J.row 0 rfl) (by simp only [AT,AA]<;>omega) (whole (by simp only [AT,AA]))) rfl fun a O=>EX O rfl rfl rfl (AO Try.call71 O (.cons rfl .nil) (IQ n M _ hn0 hn hB)) rfl ?_;rintro _ w' a ⟨hx,rfl⟩ O;have J:=J.ext hx;refine Ay O rfl rfl rfl (CP O rfl) rfl fun a O=>st O (Ai O rfl rfl) rfl fun a O=>nt<|AI O rfl (fun h6=>?_) (fun h6=>?_)
  . refine sq ?_
    refine wp_region_lit<|ag O rfl rfl fun a O=>nt<|wp_ret<|tR<|Ap rfl O.defers (AE O rfl) ⟨_,rfl,J.below,?_⟩
    show _=_
    exact BP (fun hq=>by first | omega | exact absurd hq.1 (by assumption) | exact absurd hq.2.1 (by assumption) | exact absurd hq.2.2.1 (by assumption))
  refine wp_skip<|tN<|sr<|st O (AF AK O rfl (J.row 0 rfl) (by simp only [AT,AA]<;>omega) (whole (by simp only [AT,AA]))) rfl fun a O=>Aj O (AO Try.call72 O (.cons rfl .nil) (L7 n M _ hn0 hn hB)) rfl ?_;rintro _ w' a ⟨hx,rfl⟩ O;have J:=J.ext hx;refine mv O rfl rfl fun a O=>?_
  by_cases g7:R9 n M
  . first | rw [decide_eq_true g7] at O | simp only [decide_eq_true g7] at O
    refine Ay O rfl rfl rfl (AF AK O rfl (J.row 0 rfl) (by simp only [AT,AA]<;>omega) (whole (by simp only [AT,AA]))) rfl fun a O=>EX O rfl rfl rfl (AO Try.call73 O (.cons rfl .nil) (IN n M _ hn0 hn hB)) rfl ?_;rintro _ w' a ⟨hx,rfl⟩ O;have J:=J.ext hx;refine st O (Aa O rfl rfl) rfl fun a O=>mv O rfl rfl fun a O=>?_
    by_cases g8:SE n M
    . first | rw [decide_eq_true g8] at O | simp only [decide_eq_true g8] at O
      refine Ay O rfl rfl rfl (AF AK O rfl (J.row 0 rfl) (by simp only [AT,AA]<;>omega) (whole (by simp only [AT,AA]))) rfl fun a O=>EX O rfl rfl rfl (AO Try.call74 O (.cons rfl .nil) (Oq n M _ hn0 hn hB (by first | assumption | exact Decidable.not_not.1 (by assumption)))) rfl ?_;rintro _ w' a ⟨hx,rfl⟩ O;have J:=J.ext hx;refine st O (Aa O rfl rfl) rfl fun a O=>ag O rfl rfl fun a O=>nt<|wp_ret<|Ap rfl O.defers (AE O rfl) ⟨_,rfl,J.below,?_⟩
      show _=_
      exact congrArg Value.bool (decide_eq_decide.2 ⟨fun h=>⟨by first | assumption | exact Decidable.not_not.1 (by assumption),by assumption,by assumption,h⟩,fun h=>h.2.2.2⟩)
    first | rw [decide_eq_false g8] at O | simp only [decide_eq_false g8] at O
    refine A4 O rfl rfl rfl rfl rfl fun a O=>A4 O rfl rfl rfl rfl rfl fun a O=>st O (Ai O rfl rfl) rfl fun a O=>ag O rfl rfl fun a O=>nt<|wp_ret<|Ap rfl O.defers (AE O rfl) ⟨_,rfl,J.below,?_⟩
    show _=_
    exact BP (fun hq=>by first | omega | exact absurd hq.1 (by assumption) | exact absurd hq.2.1 (by assumption) | exact absurd hq.2.2.1 (by assumption))
  first | rw [decide_eq_false g7] at O | simp only [decide_eq_false g7] at O
  refine A4 O rfl rfl rfl rfl rfl fun a O=>A4 O rfl rfl rfl rfl rfl fun a O=>st O (Ai O rfl rfl) rfl fun a O=>mv O rfl rfl fun a O=>A4 O rfl rfl rfl rfl rfl fun a O=>A4 O rfl rfl rfl rfl rfl fun a O=>st O (Ai O rfl rfl) rfl fun a O=>ag O rfl rfl fun a O=>nt<|wp_ret<|Ap rfl O.defers (AE O rfl) ⟨_,rfl,J.below,?_⟩
  show _=_
  exact BP (fun hq=>by first | omega | exact absurd hq.1 (by assumption) | exact absurd hq.2.1 (by assumption) | exact absurd hq.2.2.1 (by assumption))
theorem PJ {b b':Bool}{k:Nat}{P:Nat->Prop}(h:b=true↔∃ j,j<k/\P j)(e:b'=true↔b=true\/P k):b'=true↔∃ j,j<k+1/\P j:=by
  rw [e,h]
  constructor
  . rintro (⟨j,h1,h2⟩ | h1)
    . exact ⟨j,by omega,h2⟩
    . exact ⟨k,by omega,h1⟩
  . rintro ⟨j,h1,h2⟩
    by_cases e:j=k
    . subst e;exact Or.inr h2
    . exact Or.inl ⟨j,by omega,h2⟩
theorem RZ {b:Bool}(h:(!(b))=false):b=true:=by simpa using h
theorem ET {b:Bool}(h:(!(b))=true):¬ b=true:=by simpa using h
theorem R6 {b:Bool}{P:Prop}(h:b=true\/P):true=true↔b=true\/P:=⟨fun _=>h,fun _=>rfl⟩
theorem R7 {b:Bool}{P:Prop}(h:¬ (b=true\/P)):false=true↔b=true\/P:=⟨fun h=>absurd h (by simp),fun q=>absurd q h⟩
theorem R8 {b:Bool}{P Q:Prop}[Decidable Q](h:Q↔b=true\/P):decide Q=true↔b=true\/P:=by rw [decide_eq_true_eq];exact h
theorem Oj (n:Nat)(M:Nat->Nat->Nat)(w:World)(hn0:0<n)(hn:n<=6)(hB:∀ i j,M i j<=255) :
    CallsR Try.prog 51 #[.agg (AB (n:Int) M)] w (fun res _=>res = .bool (decide (TabP n M))):=by
  refine AQ [.agg (AB (n:Int) M)] Try.func51 rfl Try.ntmps51 rfl fun a O=>?_;have J:AR w w [none] []:=MemX.start w 1;change Fr 126 a [(0,.agg (AB (n:Int) M))] at O;refine sr<|Aj O (Aw 0 J O rfl) rfl ?_;rintro _ w' a ⟨b1,rfl,J,-⟩ O;change AR _ _ [some (b1,AB (n:Int) M)] [] at J;refine ag O rfl rfl fun a O=>ns<|st O (AC AV O rfl) rfl fun a O=>st O (AM AL O rfl (J.row 0 rfl) (Au (by omega))) rfl fun a O=>ag O rfl rfl fun a O=>nt<|sq<|sr<|mv O rfl rfl fun a O=>Aj O (AO Try.call35 O (.cons rfl (.cons rfl (.cons rfl .nil))) (FG (n:Int) (1) (6) _)) rfl ?_;rintro _ w' a ⟨hx,rfl⟩ O;have J:=J.ext hx;refine st O (CP O rfl) rfl fun a O=>nt<|AI O rfl (fun h2=>?_) (fun h2=>?_)
  . refine sq ?_
    refine wp_region_lit<|ag O rfl rfl fun a O=>nt<|wp_ret<|tR<|Ap rfl O.defers (AE O rfl) ⟨_,rfl,J.below,?_⟩
    show _=_
    exact BP (fun hq=>by first | omega | (have hz:=hq.1 gi (by omega) gj (by omega);unfold Dd at hz;omega) | (have hz:=hq.2.2.2 ga (by omega) gb (by omega) gc (by omega);omega) | (have hz:=hq.2.1 ga (by omega);omega) | (obtain ⟨z1,z2,z3,z4⟩:=hq.two hn0 hn (i:=ga) (by omega);exact ET (by assumption) (hJ.1.2 ⟨z1,z2,z3,z4⟩)))
  refine wp_skip<|tN<|sq<|sr<|ag O rfl rfl fun a O=>nt<|wp_block ?_;change AR w _ [some (b1,AB (n:Int) M)] [] at J;refine Ag (fun (kk:Nat) a w'=>kk<=6/\(∀ i,i<kk->∀ j,j<6->Dd n M i j)/\Fr 126 a [(1,ptr b1 (0)),(3,.int .i64 (n:Int)),(14,.bool (decide (¬ ((1:Int)<=(n:Int)/\(n:Int)<=6)))),(4,.int .i64 (kk:Int))]/\AR w w' [some (b1,AB (n:Int) M)] []) (fun kk=>6 - kk) 0 ?_ ?_
  . refine ⟨by omega,fun i hi=>absurd hi (by omega),O.sub _ (by repeat' constructor),?_⟩
    exact J
  clear O J;rintro gi a w' ⟨hgi,hH,O,J⟩;refine sq<|sr<|mv O rfl rfl fun a O=>st O (Ak O rfl rfl) rfl fun a O=>nt<|AI O rfl (fun h3=>?_) (fun h3=>?_)
  . refine wp_skip ?_
    refine tN<|sq<|wp_block<|sr<|ag O rfl rfl fun a O=>nt<|wp_block ?_;change AR w _ [some (b1,AB (n:Int) M)] [] at J;refine Ag (fun (kk:Nat) a w'=>kk<=6/\(∀ j,j<kk->Dd n M gi j)/\Fr 126 a [(1,ptr b1 (0)),(3,.int .i64 (n:Int)),(14,.bool (decide (¬ ((1:Int)<=(n:Int)/\(n:Int)<=6)))),(4,.int .i64 (gi:Int)),(15,.int .i64 (gi:Int)),(16,.bool (decide (((gi:Int):Int)<6))),(5,.int .i64 (kk:Int))]/\AR w w' [some (b1,AB (n:Int) M)] []) (fun kk=>6 - kk) 0 ?_ ?_
    . refine ⟨by omega,fun i hi=>absurd hi (by omega),O.sub _ (by repeat' constructor),?_⟩
      exact J
    clear O J;rintro gj a w' ⟨hgj,hO,O,J⟩;have hbb:=hB gi gj;refine sq<|sr<|mv O rfl rfl fun a O=>st O (Ak O rfl rfl) rfl fun a O=>nt<|AI O rfl (fun h4=>?_) (fun h4=>?_)
    . refine wp_skip ?_
      refine tN<|sq<|wp_block<|sr<|mv O rfl rfl fun a O=>mv O rfl rfl fun a O=>st O (GN O rfl rfl) rfl fun a O=>mv O rfl rfl fun a O=>?_
      by_cases g5:(n:Int)<=((gi:Int):Int)
      . first | rw [decide_eq_true g5] at O | simp only [decide_eq_true g5] at O
        refine A4 O rfl rfl rfl rfl rfl fun a O=>A4 O rfl rfl rfl rfl rfl fun a O=>A4 O rfl rfl rfl rfl rfl fun a O=>st O (Aa O rfl rfl) rfl fun a O=>nt<|Hk O rfl<|sr<|mv O rfl rfl fun a O=>mv O rfl rfl fun a O=>st O (AC As O rfl) rfl fun a O=>st O (AH Av O rfl rfl rfl (by omega)) rfl fun a O=>st O (AH Az O rfl rfl rfl (by omega)) rfl fun a O=>st O (AM Ah O rfl (J.row 0 rfl) (BU (gi) (gj) (by omega) (by omega) (by omega))) rfl fun a O=>st O (A0 O rfl rfl) rfl fun a O=>nt<|AI O rfl (fun h7=>?_) (fun h7=>?_)
        . refine sq ?_
          refine wp_region_lit<|ag O rfl rfl fun a O=>nt<|wp_ret<|iR<|tR<|tR<|iR<|iR<|tR<|tR<|iR<|tR<|Ap rfl O.defers (AE O rfl) ⟨_,rfl,J.below,?_⟩
          show _=_
          exact BP (fun hq=>by first | omega | (have hz:=hq.1 gi (by omega) gj (by omega);unfold Dd at hz;omega) | (have hz:=hq.2.2.2 ga (by omega) gb (by omega) gc (by omega);omega) | (have hz:=hq.2.1 ga (by omega);omega) | (obtain ⟨z1,z2,z3,z4⟩:=hq.two hn0 hn (i:=ga) (by omega);exact ET (by assumption) (hJ.1.2 ⟨z1,z2,z3,z4⟩)))
        refine wp_skip<|iN<|tN<|wp_region_lit<|mv O rfl rfl fun a O=>st O (Ac O rfl rfl (AN (gj) (1) (by omega))) rfl fun a O=>ag O rfl rfl fun a O=>nt<|⟨gj+1,⟨by omega,CO hO (by unfold Dd;omega),O.sub _ (by repeat' constructor),?_⟩,by omega⟩;exact J
      first | rw [decide_eq_false g5] at O | simp only [decide_eq_false g5] at O
      refine Ay O rfl rfl rfl (AS O rfl) rfl fun a O=>Ay O rfl rfl rfl (AS O rfl) rfl fun a O=>Ay O rfl rfl rfl (GN O rfl rfl) rfl fun a O=>st O (Ai O rfl rfl) rfl fun a O=>nt<|AI O rfl (fun h8=>?_) (fun h8=>?_)
      . refine sq ?_
        refine wp_region_lit<|mv O rfl rfl fun a O=>mv O rfl rfl fun a O=>st O (AC As O rfl) rfl fun a O=>st O (AH Av O rfl rfl rfl (by omega)) rfl fun a O=>st O (AH Az O rfl rfl rfl (by omega)) rfl fun a O=>st O (AM Ah O rfl (J.row 0 rfl) (BU (gi) (gj) (by omega) (by omega) (by omega))) rfl fun a O=>st O (A0 O rfl rfl) rfl fun a O=>nt<|AI O rfl (fun h9=>?_) (fun h9=>?_)
        . refine sq ?_
          refine wp_region_lit<|ag O rfl rfl fun a O=>nt<|wp_ret<|iR<|tR<|tR<|iR<|iR<|tR<|tR<|iR<|tR<|Ap rfl O.defers (AE O rfl) ⟨_,rfl,J.below,?_⟩
          show _=_
          exact BP (fun hq=>by first | omega | (have hz:=hq.1 gi (by omega) gj (by omega);unfold Dd at hz;omega) | (have hz:=hq.2.2.2 ga (by omega) gb (by omega) gc (by omega);omega) | (have hz:=hq.2.1 ga (by omega);omega) | (obtain ⟨z1,z2,z3,z4⟩:=hq.two hn0 hn (i:=ga) (by omega);exact ET (by assumption) (hJ.1.2 ⟨z1,z2,z3,z4⟩)))
        refine wp_skip<|iN<|tN<|wp_region_lit<|mv O rfl rfl fun a O=>st O (Ac O rfl rfl (AN (gj) (1) (by omega))) rfl fun a O=>ag O rfl rfl fun a O=>nt<|⟨gj+1,⟨by omega,CO hO (by unfold Dd;omega),O.sub _ (by repeat' constructor),?_⟩,by omega⟩;exact J
      refine sr<|mv O rfl rfl fun a O=>mv O rfl rfl fun a O=>st O (AC As O rfl) rfl fun a O=>st O (AH Av O rfl rfl rfl (by omega)) rfl fun a O=>st O (AH Az O rfl rfl rfl (by omega)) rfl fun a O=>st O (AM Ah O rfl (J.row 0 rfl) (BU (gi) (gj) (by omega) (by omega) (by omega))) rfl fun a O=>st O (BO Ba Bf O rfl (wrap_i64 (by omega) (by omega))) rfl fun a O=>mv O rfl rfl fun a O=>st O (GN O rfl rfl) rfl fun a O=>nt<|AI O rfl (fun h10=>?_) (fun h10=>?_)
      . refine sq ?_
        refine wp_region_lit<|ag O rfl rfl fun a O=>nt<|wp_ret<|iR<|tR<|tR<|iR<|iR<|tR<|tR<|iR<|tR<|Ap rfl O.defers (AE O rfl) ⟨_,rfl,J.below,?_⟩
        show _=_
        exact BP (fun hq=>by first | omega | (have hz:=hq.1 gi (by omega) gj (by omega);unfold Dd at hz;omega) | (have hz:=hq.2.2.2 ga (by omega) gb (by omega) gc (by omega);omega) | (have hz:=hq.2.1 ga (by omega);omega) | (obtain ⟨z1,z2,z3,z4⟩:=hq.two hn0 hn (i:=ga) (by omega);exact ET (by assumption) (hJ.1.2 ⟨z1,z2,z3,z4⟩)))
      refine wp_skip<|iN<|tN<|wp_region_lit<|mv O rfl rfl fun a O=>st O (Ac O rfl rfl (AN (gj) (1) (by omega))) rfl fun a O=>ag O rfl rfl fun a O=>nt<|⟨gj+1,⟨by omega,CO hO (by unfold Dd;omega),O.sub _ (by repeat' constructor),?_⟩,by omega⟩;exact J
    obtain rfl:6=gj:=by omega
    refine wp_exit<|tX<|tX<|AW<|iN<|tN<|wp_region_lit<|mv O rfl rfl fun a O=>st O (Ac O rfl rfl (AN (gi) (1) (by omega))) rfl fun a O=>ag O rfl rfl fun a O=>nt<|⟨gi+1,⟨by omega,CO hH hO,O.sub _ (by repeat' constructor),?_⟩,by omega⟩;exact J
  obtain rfl:6=gi:=by omega
  refine wp_exit<|tX<|tX<|AW<|tN<|sq<|sr<|ag O rfl rfl fun a O=>nt<|wp_block ?_;change AR w _ [some (b1,AB (n:Int) M)] [] at J;refine Ag (fun (kk:Nat) a w'=>kk<=n/\(∀ i,i<kk->(∃ j,j<n/\M i j=0)/\(∀ j,j<n->∀ k,k<n->M (M i j) k=M i (M j k))/\M 0 i=i/\M i 0=i)/\Fr 126 a [(1,ptr b1 (0)),(3,.int .i64 (n:Int)),(14,.bool (decide (¬ ((1:Int)<=(n:Int)/\(n:Int)<=6)))),(4,.int .i64 (((6:Nat):Int))),(15,.int .i64 (((6:Nat):Int))),(16,.bool (decide ((((6:Nat):Int):Int)<6))),(6,.int .i64 (kk:Int))]/\AR w w' [some (b1,AB (n:Int) M)] []) (fun kk=>n - kk) 0 ?_ ?_
  . refine ⟨by omega,fun i hi=>absurd hi (by omega),O.sub _ (by repeat' constructor),?_⟩
    exact J
  clear O J;rintro ga a w' ⟨hga,hU,O,J⟩;have hb0:=hB 0 ga;have hb1:=hB ga 0;refine sq<|sr<|mv O rfl rfl fun a O=>mv O rfl rfl fun a O=>st O (Ak O rfl rfl) rfl fun a O=>nt<|AI O rfl (fun h11=>?_) (fun h11=>?_)
  . refine wp_skip ?_
    refine tN<|sq<|wp_block<|sr<|ag O rfl rfl fun a O=>nt<|sq<|sr<|ag O rfl rfl fun a O=>nt<|wp_block ?_;change AR w _ [some (b1,AB (n:Int) M)] [] at J;refine Ag (fun (kk:Nat) a w'=>kk<=n/\∃ (bo:Bool),((bo=true↔∃ j,j<kk/\M ga j=0/\M j ga=0)/\∀ j,j<kk->∀ k,k<n->M (M ga j) k=M ga (M j k))/\Fr 126 a [(1,ptr b1 (0)),(3,.int .i64 (n:Int)),(14,.bool (decide (¬ ((1:Int)<=(n:Int)/\(n:Int)<=6)))),(4,.int .i64 (((6:Nat):Int))),(15,.int .i64 (((6:Nat):Int))),(16,.bool (decide ((((6:Nat):Int):Int)<6))),(6,.int .i64 (ga:Int)),(47,.int .i64 (ga:Int)),(48,.int .i64 (n:Int)),(49,.bool (decide (((ga:Int):Int)<(n:Int)))),(8,.int .i64 (kk:Int)),(7,.bool (bo))]/\AR w w' [some (b1,AB (n:Int) M)] []) (fun kk=>n - kk) 0 ?_ ?_
    . refine ⟨by omega,false,⟨⟨fun h=>absurd h (by simp),fun h=>by obtain ⟨z1,z2,_⟩:=h;omega⟩,fun j hj=>absurd hj (by omega)⟩,O.sub _ (by repeat' constructor),?_⟩
      exact J
    clear O J;rintro gb a w' ⟨hgb,bo,hJ,O,J⟩;refine sq<|sr<|mv O rfl rfl fun a O=>mv O rfl rfl fun a O=>st O (Ak O rfl rfl) rfl fun a O=>nt<|AI O rfl (fun h12=>?_) (fun h12=>?_)
    . refine wp_skip ?_
      refine tN<|sq<|wp_block<|sr<|mv O rfl rfl fun a O=>mv O rfl rfl fun a O=>?_
      cases g13:(bo:Bool)
      . simp only [g13] at O
        refine Ay O rfl rfl rfl (AS O rfl) rfl fun a O=>Ay O rfl rfl rfl (AS O rfl) rfl fun a O=>Ay O rfl rfl rfl (AC As O rfl) rfl fun a O=>Ay O rfl rfl rfl (AH Av O rfl rfl rfl (by omega)) rfl fun a O=>Ay O rfl rfl rfl (AH Az O rfl rfl rfl (by omega)) rfl fun a O=>Ay O rfl rfl rfl (AM Ah O rfl (J.row 0 rfl) (BU (ga) (gb) (by omega) (by omega) (by omega))) rfl fun a O=>Ay O rfl rfl rfl (Ao O rfl rfl) rfl fun a O=>Ay O rfl rfl rfl (AS O rfl) rfl fun a O=>?_
        by_cases g14:((M (ga) (gb):Int):Int)=0
        . first | rw [decide_eq_true g14] at O | simp only [decide_eq_true g14] at O
          refine Ay O rfl rfl rfl (AS O rfl) rfl fun a O=>Ay O rfl rfl rfl (AS O rfl) rfl fun a O=>Ay O rfl rfl rfl (AC As O rfl) rfl fun a O=>Ay O rfl rfl rfl (AH Av O rfl rfl rfl (by omega)) rfl fun a O=>Ay O rfl rfl rfl (AH Az O rfl rfl rfl (by omega)) rfl fun a O=>Ay O rfl rfl rfl (AM Ah O rfl (J.row 0 rfl) (BU (gb) (ga) (by omega) (by omega) (by omega))) rfl fun a O=>Ay O rfl rfl rfl (Ao O rfl rfl) rfl fun a O=>Ay O rfl rfl rfl (Aa O rfl rfl) rfl fun a O=>st O (Ai O rfl rfl) rfl fun a O=>ag O rfl rfl fun a O=>ns<|ag O rfl rfl fun a O=>nt<|wp_block ?_;change AR w _ [some (b1,AB (n:Int) M)] [] at J;refine Ag (fun (kk:Nat) a w'=>kk<=n/\(∀ k,k<kk->M (M ga gb) k=M ga (M gb k))/\Fr 126 a [(1,ptr b1 (0)),(3,.int .i64 (n:Int)),(14,.bool (decide (¬ ((1:Int)<=(n:Int)/\(n:Int)<=6)))),(4,.int .i64 (((6:Nat):Int))),(15,.int .i64 (((6:Nat):Int))),(16,.bool (decide ((((6:Nat):Int):Int)<6))),(6,.int .i64 (ga:Int)),(47,.int .i64 (ga:Int)),(48,.int .i64 (n:Int)),(49,.bool (decide (((ga:Int):Int)<(n:Int)))),(8,.int .i64 (gb:Int)),(7,.bool (decide (((M (gb) (ga):Int):Int)=0))),(52,.int .i64 (gb:Int)),(53,.int .i64 (n:Int)),(54,.bool (decide (((gb:Int):Int)<(n:Int)))),(57,.bool (false)),(58,.bool (false)),(59,.int .i64 (ga:Int)),(60,.int .i64 (gb:Int)),(61,ptr b1 (0+1)),(62,ptr b1 (0+1+(ga)*6)),(63,ptr b1 (0+1+(ga)*6+(gb)*1)),(64,.int .u8 ((M (ga) (gb):Int))),(65,.bool (true)),(66,.bool (true)),(67,.int .i64 (gb:Int)),(68,.int .i64 (ga:Int)),(69,ptr b1 (0+1)),(70,ptr b1 (0+1+(gb)*6)),(71,ptr b1 (0+1+(gb)*6+(ga)*1)),(72,.int .u8 ((M (gb) (ga):Int))),(73,.bool (decide (((M (gb) (ga):Int):Int)=0))),(74,.bool (decide (((M (gb) (ga):Int):Int)=0))),(75,.bool (decide (((M (gb) (ga):Int):Int)=0))),(9,.int .i64 (kk:Int))]/\AR w w' [some (b1,AB (n:Int) M)] []) (fun kk=>n - kk) 0 ?_ ?_
          . refine ⟨by omega,fun i hi=>absurd hi (by omega),O.sub _ (by repeat' constructor),?_⟩
            exact J
          clear O J;rintro gc a w' ⟨hgc,hv5,O,J⟩;have hbab:=ElP.lt hH (i:=ga) (j:=gb) (by omega) (by omega);have hbbc:gc<n->M gb gc<n:=fun hq=>ElP.lt hH (by omega) (by omega);refine sq<|sr<|mv O rfl rfl fun a O=>mv O rfl rfl fun a O=>st O (Ak O rfl rfl) rfl fun a O=>nt<|AI O rfl (fun h15=>?_) (fun h15=>?_)
          . refine wp_skip ?_
            refine tN<|sq<|wp_block<|sq<|Bt 22 [] [.val (.int .i64 (ga:Int)),.val (.int .i64 (gb:Int)),.val (ptr b1 (0+1)),.val (ptr b1 (0+1+(ga)*6)),.val (ptr b1 (0+1+(ga)*6+(gb)*1)),.val (.int .u8 ((M (ga) (gb):Int))),.val (.int .i64 (gc:Int)),.val (ptr b1 (0+1)),.val (ptr b1 (0+1+(M (ga) (gb))*6)),.val (ptr b1 (0+1+(M (ga) (gb))*6+(gc)*1)),.val (.int .u8 ((M (M (ga) (gb)) (gc):Int))),.val (.int .i64 (ga:Int)),.val (.int .i64 (gb:Int)),.val (.int .i64 (gc:Int)),.val (ptr b1 (0+1)),.val (ptr b1 (0+1+(gb)*6)),.val (ptr b1 (0+1+(gb)*6+(gc)*1)),.val (.int .u8 ((M (gb) (gc):Int))),.val (ptr b1 (0+1)),.val (ptr b1 (0+1+(ga)*6)),.val (ptr b1 (0+1+(ga)*6+(M (gb) (gc))*1)),.val (.int .u8 ((M (ga) (M (gb) (gc)):Int)))] Bb rfl O rfl J ⟨fun a w gG O hS hd=>by exact BF hS rfl O rfl,fun a w gG O hS hd=>by exact BF hS rfl O rfl,fun a w gG O hS hd=>by exact AD hS rfl (AC As O rfl),fun a w gG O hS hd=>by have O:=O.ext1 81 (hd 0 rfl rfl);have O:=O.ext1 83 (hd 2 rfl rfl);exact AD hS rfl (AH Av O rfl rfl rfl (by omega)),fun a w gG O hS hd=>by have O:=O.ext1 82 (hd 1 rfl rfl);have O:=O.ext1 84 (hd 3 rfl rfl);exact AD hS rfl (AH Az O rfl rfl rfl (by omega)),fun a w gG O hS hd=>by have O:=O.ext1 85 (hd 4 rfl rfl);have J:=hS.mem rfl;exact AD hS rfl (AM Ah O rfl (J.row 0 rfl) (BU (ga) (gb) (by omega) (by omega) (by omega))),fun a w gG O hS hd=>by exact BF hS rfl O rfl,fun a w gG O hS hd=>by exact AD hS rfl (AC As O rfl),fun a w gG O hS hd=>by have O:=O.ext1 86 (hd 5 rfl rfl);have O:=O.ext1 88 (hd 7 rfl rfl);exact AD hS rfl (AH Av O rfl rfl rfl (by omega)),fun a w gG O hS hd=>by have O:=O.ext1 87 (hd 6 rfl rfl);have O:=O.ext1 89 (hd 8 rfl rfl);exact AD hS rfl (AH Az O rfl rfl rfl (by omega)),fun a w gG O hS hd=>by have O:=O.ext1 90 (hd 9 rfl rfl);have J:=hS.mem rfl;exact AD hS rfl (AM Ah O rfl (J.row 0 rfl) (BU (M (ga) (gb)) (gc) (by omega) (by omega) (by omega))),fun a w gG O hS hd=>by exact BF hS rfl O rfl,fun a w gG O hS hd=>by exact BF hS rfl O rfl,fun a w gG O hS hd=>by exact BF hS rfl O rfl,fun a w gG O hS hd=>by exact AD hS rfl (AC As O rfl),fun a w gG O hS hd=>by have O:=O.ext1 93 (hd 12 rfl rfl);have O:=O.ext1 95 (hd 14 rfl rfl);exact AD hS rfl (AH Av O rfl rfl rfl (by omega)),fun a w gG O hS hd=>by have O:=O.ext1 94 (hd 13 rfl rfl);have O:=O.ext1 96 (hd 15 rfl rfl);exact AD hS rfl (AH Az O rfl rfl rfl (by omega)),fun a w gG O hS hd=>by have O:=O.ext1 97 (hd 16 rfl rfl);have J:=hS.mem rfl;exact AD hS rfl (AM Ah O rfl (J.row 0 rfl) (BU (gb) (gc) (by omega) (by omega) (by omega))),fun a w gG O hS hd=>by exact AD hS rfl (AC As O rfl),fun a w gG O hS hd=>by have O:=O.ext1 92 (hd 11 rfl rfl);have O:=O.ext1 99 (hd 18 rfl rfl);exact AD hS rfl (AH Av O rfl rfl rfl (by omega)),fun a w gG O hS hd=>by have O:=O.ext1 98 (hd 17 rfl rfl);have O:=O.ext1 100 (hd 19 rfl rfl);exact AD hS rfl (AH Az O rfl rfl rfl (by omega)),fun a w gG O hS hd=>by have O:=O.ext1 101 (hd 20 rfl rfl);have J:=hS.mem rfl;exact AD hS rfl (AM Ah O rfl (J.row 0 rfl) (BU (ga) (M (gb) (gc)) (by omega) (by omega) (by omega))),trivial⟩ ?_;intro a w' L O hS hq;have O:=O.ext1 81 (hq 0 rfl rfl);have O:=O.ext1 82 (hq 1 rfl rfl);have O:=O.ext1 83 (hq 2 rfl rfl);have O:=O.ext1 84 (hq 3 rfl rfl);have O:=O.ext1 85 (hq 4 rfl rfl)
            have O:=O.ext1 86 (hq 5 rfl rfl);have O:=O.ext1 87 (hq 6 rfl rfl);have O:=O.ext1 88 (hq 7 rfl rfl);have O:=O.ext1 89 (hq 8 rfl rfl);have O:=O.ext1 90 (hq 9 rfl rfl);have O:=O.ext1 91 (hq 10 rfl rfl);have O:=O.ext1 92 (hq 11 rfl rfl);have O:=O.ext1 93 (hq 12 rfl rfl);have O:=O.ext1 94 (hq 13 rfl rfl);have O:=O.ext1 95 (hq 14 rfl rfl);have O:=O.ext1 96 (hq 15 rfl rfl);have O:=O.ext1 97 (hq 16 rfl rfl);have O:=O.ext1 98 (hq 17 rfl rfl);have O:=O.ext1 99 (hq 18 rfl rfl);have O:=O.ext1 100 (hq 19 rfl rfl);have O:=O.ext1 101 (hq 20 rfl rfl);have O:=O.ext1 102 (hq 21 rfl rfl);have J:=hS.mem rfl;change wpList Try.prog _ _ [_] _ _;refine st O (A0 O rfl rfl) rfl fun a O=>nt<|AI O rfl (fun h16=>?_) (fun h16=>?_)
            . refine sq ?_
              refine wp_region_lit<|ag O rfl rfl fun a O=>nt<|wp_ret<|iR<|tR<|tR<|iR<|iR<|tR<|tR<|iR<|tR<|iR<|tR<|tR<|iR<|tR<|Ap rfl O.defers (AE O rfl) ⟨_,rfl,J.below,?_⟩
              show _=_
              exact BP (fun hq=>by first | omega | (have hz:=hq.1 gi (by omega) gj (by omega);unfold Dd at hz;omega) | (have hz:=hq.2.2.2 ga (by omega) gb (by omega) gc (by omega);omega) | (have hz:=hq.2.1 ga (by omega);omega) | (obtain ⟨z1,z2,z3,z4⟩:=hq.two hn0 hn (i:=ga) (by omega);exact ET (by assumption) (hJ.1.2 ⟨z1,z2,z3,z4⟩)))
            refine wp_skip<|iN<|tN<|wp_region_lit<|mv O rfl rfl fun a O=>st O (Ac O rfl rfl (AN (gc) (1) (by omega))) rfl fun a O=>ag O rfl rfl fun a O=>nt<|⟨gc+1,⟨by omega,CO hv5 (by omega),O.sub _ (by repeat' constructor),?_⟩,by omega⟩;exact J
          obtain rfl:n=gc:=by omega
          refine wp_exit<|tX<|tX<|AW<|iN<|tN<|wp_region_lit<|mv O rfl rfl fun a O=>st O (Ac O rfl rfl (AN (gb) (1) (by omega))) rfl fun a O=>ag O rfl rfl fun a O=>nt<|⟨gb+1,⟨by omega,decide (((M (gb) (ga):Int):Int)=0),⟨PJ hJ.1 (R8 (by simp [*];try omega)),CO hJ.2 hv5⟩,O.sub _ (by repeat' constructor),?_⟩,by omega⟩;exact J
        first | rw [decide_eq_false g14] at O | simp only [decide_eq_false g14] at O
        refine A4 O rfl rfl rfl rfl rfl fun a O=>A4 O rfl rfl rfl rfl rfl fun a O=>A4 O rfl rfl rfl rfl rfl fun a O=>A4 O rfl rfl rfl rfl rfl fun a O=>A4 O rfl rfl rfl rfl rfl fun a O=>A4 O rfl rfl rfl rfl rfl fun a O=>A4 O rfl rfl rfl rfl rfl fun a O=>Ay O rfl rfl rfl (Ai O rfl rfl) rfl fun a O=>st O (Ai O rfl rfl) rfl fun a O=>ag O rfl rfl fun a O=>ns<|ag O rfl rfl fun a O=>nt<|wp_block ?_;change AR w _ [some (b1,AB (n:Int) M)] [] at J;refine Ag (fun (kk:Nat) a w'=>kk<=n/\(∀ k,k<kk->M (M ga gb) k=M ga (M gb k))/\Fr 126 a [(1,ptr b1 (0)),(3,.int .i64 (n:Int)),(14,.bool (decide (¬ ((1:Int)<=(n:Int)/\(n:Int)<=6)))),(4,.int .i64 (((6:Nat):Int))),(15,.int .i64 (((6:Nat):Int))),(16,.bool (decide ((((6:Nat):Int):Int)<6))),(6,.int .i64 (ga:Int)),(47,.int .i64 (ga:Int)),(48,.int .i64 (n:Int)),(49,.bool (decide (((ga:Int):Int)<(n:Int)))),(8,.int .i64 (gb:Int)),(7,.bool (false)),(52,.int .i64 (gb:Int)),(53,.int .i64 (n:Int)),(54,.bool (decide (((gb:Int):Int)<(n:Int)))),(57,.bool (false)),(58,.bool (false)),(59,.int .i64 (ga:Int)),(60,.int .i64 (gb:Int)),(61,ptr b1 (0+1)),(62,ptr b1 (0+1+(ga)*6)),(63,ptr b1 (0+1+(ga)*6+(gb)*1)),(64,.int .u8 ((M (ga) (gb):Int))),(65,.bool (false)),(66,.bool (false)),(67,undef),(68,undef),(69,undef),(70,undef),(71,undef),(72,undef),(73,undef),(74,.bool (false)),(75,.bool (false)),(9,.int .i64 (kk:Int))]/\AR w w' [some (b1,AB (n:Int) M)] []) (fun kk=>n - kk) 0 ?_ ?_
        . refine ⟨by omega,fun i hi=>absurd hi (by omega),O.sub _ (by repeat' constructor),?_⟩
          exact J
        clear O J;rintro gc a w' ⟨hgc,hv5,O,J⟩;have hbab:=ElP.lt hH (i:=ga) (j:=gb) (by omega) (by omega);have hbbc:gc<n->M gb gc<n:=fun hq=>ElP.lt hH (by omega) (by omega);refine sq<|sr<|mv O rfl rfl fun a O=>mv O rfl rfl fun a O=>st O (Ak O rfl rfl) rfl fun a O=>nt<|AI O rfl (fun h17=>?_) (fun h17=>?_)
        . refine wp_skip ?_
          refine tN<|sq<|wp_block<|sq<|Bt 22 [] [.val (.int .i64 (ga:Int)),.val (.int .i64 (gb:Int)),.val (ptr b1 (0+1)),.val (ptr b1 (0+1+(ga)*6)),.val (ptr b1 (0+1+(ga)*6+(gb)*1)),.val (.int .u8 ((M (ga) (gb):Int))),.val (.int .i64 (gc:Int)),.val (ptr b1 (0+1)),.val (ptr b1 (0+1+(M (ga) (gb))*6)),.val (ptr b1 (0+1+(M (ga) (gb))*6+(gc)*1)),.val (.int .u8 ((M (M (ga) (gb)) (gc):Int))),.val (.int .i64 (ga:Int)),.val (.int .i64 (gb:Int)),.val (.int .i64 (gc:Int)),.val (ptr b1 (0+1)),.val (ptr b1 (0+1+(gb)*6)),.val (ptr b1 (0+1+(gb)*6+(gc)*1)),.val (.int .u8 ((M (gb) (gc):Int))),.val (ptr b1 (0+1)),.val (ptr b1 (0+1+(ga)*6)),.val (ptr b1 (0+1+(ga)*6+(M (gb) (gc))*1)),.val (.int .u8 ((M (ga) (M (gb) (gc)):Int)))] Bb rfl O rfl J ⟨fun a w gG O hS hd=>by exact BF hS rfl O rfl,fun a w gG O hS hd=>by exact BF hS rfl O rfl,fun a w gG O hS hd=>by exact AD hS rfl (AC As O rfl),fun a w gG O hS hd=>by have O:=O.ext1 81 (hd 0 rfl rfl);have O:=O.ext1 83 (hd 2 rfl rfl);exact AD hS rfl (AH Av O rfl rfl rfl (by omega)),fun a w gG O hS hd=>by have O:=O.ext1 82 (hd 1 rfl rfl);have O:=O.ext1 84 (hd 3 rfl rfl);exact AD hS rfl (AH Az O rfl rfl rfl (by omega)),fun a w gG O hS hd=>by have O:=O.ext1 85 (hd 4 rfl rfl);have J:=hS.mem rfl;exact AD hS rfl (AM Ah O rfl (J.row 0 rfl) (BU (ga) (gb) (by omega) (by omega) (by omega))),fun a w gG O hS hd=>by exact BF hS rfl O rfl,fun a w gG O hS hd=>by exact AD hS rfl (AC As O rfl),fun a w gG O hS hd=>by have O:=O.ext1 86 (hd 5 rfl rfl);have O:=O.ext1 88 (hd 7 rfl rfl);exact AD hS rfl (AH Av O rfl rfl rfl (by omega)),fun a w gG O hS hd=>by have O:=O.ext1 87 (hd 6 rfl rfl);have O:=O.ext1 89 (hd 8 rfl rfl);exact AD hS rfl (AH Az O rfl rfl rfl (by omega)),fun a w gG O hS hd=>by have O:=O.ext1 90 (hd 9 rfl rfl);have J:=hS.mem rfl;exact AD hS rfl (AM Ah O rfl (J.row 0 rfl) (BU (M (ga) (gb)) (gc) (by omega) (by omega) (by omega))),fun a w gG O hS hd=>by exact BF hS rfl O rfl,fun a w gG O hS hd=>by exact BF hS rfl O rfl,fun a w gG O hS hd=>by exact BF hS rfl O rfl,fun a w gG O hS hd=>by exact AD hS rfl (AC As O rfl),fun a w gG O hS hd=>by have O:=O.ext1 93 (hd 12 rfl rfl);have O:=O.ext1 95 (hd 14 rfl rfl);exact AD hS rfl (AH Av O rfl rfl rfl (by omega)),fun a w gG O hS hd=>by have O:=O.ext1 94 (hd 13 rfl rfl);have O:=O.ext1 96 (hd 15 rfl rfl);exact AD hS rfl (AH Az O rfl rfl rfl (by omega)),fun a w gG O hS hd=>by have O:=O.ext1 97 (hd 16 rfl rfl);have J:=hS.mem rfl;exact AD hS rfl (AM Ah O rfl (J.row 0 rfl) (BU (gb) (gc) (by omega) (by omega) (by omega))),fun a w gG O hS hd=>by exact AD hS rfl (AC As O rfl),fun a w gG O hS hd=>by have O:=O.ext1 92 (hd 11 rfl rfl);have O:=O.ext1 99 (hd 18 rfl rfl);exact AD hS rfl (AH Av O rfl rfl rfl (by omega)),fun a w gG O hS hd=>by have O:=O.ext1 98 (hd 17 rfl rfl);have O:=O.ext1 100 (hd 19 rfl rfl);exact AD hS rfl (AH Az O rfl rfl rfl (by omega)),fun a w gG O hS hd=>by have O:=O.ext1 101 (hd 20 rfl rfl);have J:=hS.mem rfl;exact AD hS rfl (AM Ah O rfl (J.row 0 rfl) (BU (ga) (M (gb) (gc)) (by omega) (by omega) (by omega))),trivial⟩ ?_;intro a w' L O hS hq;have O:=O.ext1 81 (hq 0 rfl rfl);have O:=O.ext1 82 (hq 1 rfl rfl);have O:=O.ext1 83 (hq 2 rfl rfl);have O:=O.ext1 84 (hq 3 rfl rfl);have O:=O.ext1 85 (hq 4 rfl rfl)
          have O:=O.ext1 86 (hq 5 rfl rfl);have O:=O.ext1 87 (hq 6 rfl rfl);have O:=O.ext1 88 (hq 7 rfl rfl);have O:=O.ext1 89 (hq 8 rfl rfl);have O:=O.ext1 90 (hq 9 rfl rfl);have O:=O.ext1 91 (hq 10 rfl rfl);have O:=O.ext1 92 (hq 11 rfl rfl);have O:=O.ext1 93 (hq 12 rfl rfl);have O:=O.ext1 94 (hq 13 rfl rfl);have O:=O.ext1 95 (hq 14 rfl rfl);have O:=O.ext1 96 (hq 15 rfl rfl);have O:=O.ext1 97 (hq 16 rfl rfl);have O:=O.ext1 98 (hq 17 rfl rfl);have O:=O.ext1 99 (hq 18 rfl rfl);have O:=O.ext1 100 (hq 19 rfl rfl);have O:=O.ext1 101 (hq 20 rfl rfl);have O:=O.ext1 102 (hq 21 rfl rfl);have J:=hS.mem rfl;change wpList Try.prog _ _ [_] _ _;refine st O (A0 O rfl rfl) rfl fun a O=>nt<|AI O rfl (fun h18=>?_) (fun h18=>?_)
          . refine sq ?_
            refine wp_region_lit<|ag O rfl rfl fun a O=>nt<|wp_ret<|iR<|tR<|tR<|iR<|iR<|tR<|tR<|iR<|tR<|iR<|tR<|tR<|iR<|tR<|Ap rfl O.defers (AE O rfl) ⟨_,rfl,J.below,?_⟩
            show _=_
            exact BP (fun hq=>by first | omega | (have hz:=hq.1 gi (by omega) gj (by omega);unfold Dd at hz;omega) | (have hz:=hq.2.2.2 ga (by omega) gb (by omega) gc (by omega);omega) | (have hz:=hq.2.1 ga (by omega);omega) | (obtain ⟨z1,z2,z3,z4⟩:=hq.two hn0 hn (i:=ga) (by omega);exact ET (by assumption) (hJ.1.2 ⟨z1,z2,z3,z4⟩)))
          refine wp_skip<|iN<|tN<|wp_region_lit<|mv O rfl rfl fun a O=>st O (Ac O rfl rfl (AN (gc) (1) (by omega))) rfl fun a O=>ag O rfl rfl fun a O=>nt<|⟨gc+1,⟨by omega,CO hv5 (by omega),O.sub _ (by repeat' constructor),?_⟩,by omega⟩;exact J
        obtain rfl:n=gc:=by omega
        refine wp_exit<|tX<|tX<|AW<|iN<|tN<|wp_region_lit<|mv O rfl rfl fun a O=>st O (Ac O rfl rfl (AN (gb) (1) (by omega))) rfl fun a O=>ag O rfl rfl fun a O=>nt<|⟨gb+1,⟨by omega,false,⟨PJ hJ.1 (R7 (by simp [*];try omega)),CO hJ.2 hv5⟩,O.sub _ (by repeat' constructor),?_⟩,by omega⟩;exact J
      simp only [g13] at O;refine A4 O rfl rfl rfl rfl rfl fun a O=>A4 O rfl rfl rfl rfl rfl fun a O=>A4 O rfl rfl rfl rfl rfl fun a O=>A4 O rfl rfl rfl rfl rfl fun a O=>A4 O rfl rfl rfl rfl rfl fun a O=>A4 O rfl rfl rfl rfl rfl fun a O=>A4 O rfl rfl rfl rfl rfl fun a O=>A4 O rfl rfl rfl rfl rfl fun a O=>NF O rfl rfl rfl rfl fun a O=>NF O rfl rfl rfl rfl fun a O=>NF O rfl rfl rfl rfl fun a O=>NF O rfl rfl rfl rfl fun a O=>NF O rfl rfl rfl rfl fun a O=>NF O rfl rfl rfl rfl fun a O=>NF O rfl rfl rfl rfl fun a O=>A4 O rfl rfl rfl rfl rfl fun a O=>st O (Aa O rfl rfl) rfl fun a O=>ag O rfl rfl fun a O=>ns<|ag O rfl rfl fun a O=>nt<|wp_block ?_;change AR w _ [some (b1,AB (n:Int) M)] [] at J;refine Ag (fun (kk:Nat) a w'=>kk<=n/\(∀ k,k<kk->M (M ga gb) k=M ga (M gb k))/\Fr 126 a [(1,ptr b1 (0)),(3,.int .i64 (n:Int)),(14,.bool (decide (¬ ((1:Int)<=(n:Int)/\(n:Int)<=6)))),(4,.int .i64 (((6:Nat):Int))),(15,.int .i64 (((6:Nat):Int))),(16,.bool (decide ((((6:Nat):Int):Int)<6))),(6,.int .i64 (ga:Int)),(47,.int .i64 (ga:Int)),(48,.int .i64 (n:Int)),(49,.bool (decide (((ga:Int):Int)<(n:Int)))),(8,.int .i64 (gb:Int)),(7,.bool (true)),(52,.int .i64 (gb:Int)),(53,.int .i64 (n:Int)),(54,.bool (decide (((gb:Int):Int)<(n:Int)))),(57,.bool (true)),(58,.bool (true)),(59,undef),(60,undef),(61,undef),(62,undef),(63,undef),(64,undef),(65,undef),(66,undef),(67,undef),(68,undef),(69,undef),(70,undef),(71,undef),(72,undef),(73,undef),(74,undef),(75,.bool (true)),(9,.int .i64 (kk:Int))]/\AR w w' [some (b1,AB (n:Int) M)] []) (fun kk=>n - kk) 0 ?_ ?_
      . refine ⟨by omega,fun i hi=>absurd hi (by omega),O.sub _ (by repeat' constructor),?_⟩
        exact J
      clear O J;rintro gc a w' ⟨hgc,hv5,O,J⟩;have hbab:=ElP.lt hH (i:=ga) (j:=gb) (by omega) (by omega);have hbbc:gc<n->M gb gc<n:=fun hq=>ElP.lt hH (by omega) (by omega);refine sq<|sr<|mv O rfl rfl fun a O=>mv O rfl rfl fun a O=>st O (Ak O rfl rfl) rfl fun a O=>nt<|AI O rfl (fun h19=>?_) (fun h19=>?_)
      . refine wp_skip ?_
        refine tN<|sq<|wp_block<|sq<|Bt 22 [] [.val (.int .i64 (ga:Int)),.val (.int .i64 (gb:Int)),.val (ptr b1 (0+1)),.val (ptr b1 (0+1+(ga)*6)),.val (ptr b1 (0+1+(ga)*6+(gb)*1)),.val (.int .u8 ((M (ga) (gb):Int))),.val (.int .i64 (gc:Int)),.val (ptr b1 (0+1)),.val (ptr b1 (0+1+(M (ga) (gb))*6)),.val (ptr b1 (0+1+(M (ga) (gb))*6+(gc)*1)),.val (.int .u8 ((M (M (ga) (gb)) (gc):Int))),.val (.int .i64 (ga:Int)),.val (.int .i64 (gb:Int)),.val (.int .i64 (gc:Int)),.val (ptr b1 (0+1)),.val (ptr b1 (0+1+(gb)*6)),.val (ptr b1 (0+1+(gb)*6+(gc)*1)),.val (.int .u8 ((M (gb) (gc):Int))),.val (ptr b1 (0+1)),.val (ptr b1 (0+1+(ga)*6)),.val (ptr b1 (0+1+(ga)*6+(M (gb) (gc))*1)),.val (.int .u8 ((M (ga) (M (gb) (gc)):Int)))] Bb rfl O rfl J ⟨fun a w gG O hS hd=>by exact BF hS rfl O rfl,fun a w gG O hS hd=>by exact BF hS rfl O rfl,fun a w gG O hS hd=>by exact AD hS rfl (AC As O rfl),fun a w gG O hS hd=>by have O:=O.ext1 81 (hd 0 rfl rfl);have O:=O.ext1 83 (hd 2 rfl rfl);exact AD hS rfl (AH Av O rfl rfl rfl (by omega)),fun a w gG O hS hd=>by have O:=O.ext1 82 (hd 1 rfl rfl);have O:=O.ext1 84 (hd 3 rfl rfl);exact AD hS rfl (AH Az O rfl rfl rfl (by omega)),fun a w gG O hS hd=>by have O:=O.ext1 85 (hd 4 rfl rfl);have J:=hS.mem rfl;exact AD hS rfl (AM Ah O rfl (J.row 0 rfl) (BU (ga) (gb) (by omega) (by omega) (by omega))),fun a w gG O hS hd=>by exact BF hS rfl O rfl,fun a w gG O hS hd=>by exact AD hS rfl (AC As O rfl),fun a w gG O hS hd=>by have O:=O.ext1 86 (hd 5 rfl rfl);have O:=O.ext1 88 (hd 7 rfl rfl);exact AD hS rfl (AH Av O rfl rfl rfl (by omega)),fun a w gG O hS hd=>by have O:=O.ext1 87 (hd 6 rfl rfl);have O:=O.ext1 89 (hd 8 rfl rfl);exact AD hS rfl (AH Az O rfl rfl rfl (by omega)),fun a w gG O hS hd=>by have O:=O.ext1 90 (hd 9 rfl rfl);have J:=hS.mem rfl;exact AD hS rfl (AM Ah O rfl (J.row 0 rfl) (BU (M (ga) (gb)) (gc) (by omega) (by omega) (by omega))),fun a w gG O hS hd=>by exact BF hS rfl O rfl,fun a w gG O hS hd=>by exact BF hS rfl O rfl,fun a w gG O hS hd=>by exact BF hS rfl O rfl,fun a w gG O hS hd=>by exact AD hS rfl (AC As O rfl),fun a w gG O hS hd=>by have O:=O.ext1 93 (hd 12 rfl rfl);have O:=O.ext1 95 (hd 14 rfl rfl);exact AD hS rfl (AH Av O rfl rfl rfl (by omega)),fun a w gG O hS hd=>by have O:=O.ext1 94 (hd 13 rfl rfl);have O:=O.ext1 96 (hd 15 rfl rfl);exact AD hS rfl (AH Az O rfl rfl rfl (by omega)),fun a w gG O hS hd=>by have O:=O.ext1 97 (hd 16 rfl rfl);have J:=hS.mem rfl;exact AD hS rfl (AM Ah O rfl (J.row 0 rfl) (BU (gb) (gc) (by omega) (by omega) (by omega))),fun a w gG O hS hd=>by exact AD hS rfl (AC As O rfl),fun a w gG O hS hd=>by have O:=O.ext1 92 (hd 11 rfl rfl);have O:=O.ext1 99 (hd 18 rfl rfl);exact AD hS rfl (AH Av O rfl rfl rfl (by omega)),fun a w gG O hS hd=>by have O:=O.ext1 98 (hd 17 rfl rfl);have O:=O.ext1 100 (hd 19 rfl rfl);exact AD hS rfl (AH Az O rfl rfl rfl (by omega)),fun a w gG O hS hd=>by have O:=O.ext1 101 (hd 20 rfl rfl);have J:=hS.mem rfl;exact AD hS rfl (AM Ah O rfl (J.row 0 rfl) (BU (ga) (M (gb) (gc)) (by omega) (by omega) (by omega))),trivial⟩ ?_;intro a w' L O hS hq;have O:=O.ext1 81 (hq 0 rfl rfl);have O:=O.ext1 82 (hq 1 rfl rfl);have O:=O.ext1 83 (hq 2 rfl rfl);have O:=O.ext1 84 (hq 3 rfl rfl);have O:=O.ext1 85 (hq 4 rfl rfl)
        have O:=O.ext1 86 (hq 5 rfl rfl);have O:=O.ext1 87 (hq 6 rfl rfl);have O:=O.ext1 88 (hq 7 rfl rfl);have O:=O.ext1 89 (hq 8 rfl rfl);have O:=O.ext1 90 (hq 9 rfl rfl);have O:=O.ext1 91 (hq 10 rfl rfl);have O:=O.ext1 92 (hq 11 rfl rfl);have O:=O.ext1 93 (hq 12 rfl rfl);have O:=O.ext1 94 (hq 13 rfl rfl);have O:=O.ext1 95 (hq 14 rfl rfl);have O:=O.ext1 96 (hq 15 rfl rfl);have O:=O.ext1 97 (hq 16 rfl rfl);have O:=O.ext1 98 (hq 17 rfl rfl);have O:=O.ext1 99 (hq 18 rfl rfl);have O:=O.ext1 100 (hq 19 rfl rfl);have O:=O.ext1 101 (hq 20 rfl rfl);have O:=O.ext1 102 (hq 21 rfl rfl);have J:=hS.mem rfl;change wpList Try.prog _ _ [_] _ _;refine st O (A0 O rfl rfl) rfl fun a O=>nt<|AI O rfl (fun h20=>?_) (fun h20=>?_)
        . refine sq ?_
          refine wp_region_lit<|ag O rfl rfl fun a O=>nt<|wp_ret<|iR<|tR<|tR<|iR<|iR<|tR<|tR<|iR<|tR<|iR<|tR<|tR<|iR<|tR<|Ap rfl O.defers (AE O rfl) ⟨_,rfl,J.below,?_⟩
          show _=_
          exact BP (fun hq=>by first | omega | (have hz:=hq.1 gi (by omega) gj (by omega);unfold Dd at hz;omega) | (have hz:=hq.2.2.2 ga (by omega) gb (by omega) gc (by omega);omega) | (have hz:=hq.2.1 ga (by omega);omega) | (obtain ⟨z1,z2,z3,z4⟩:=hq.two hn0 hn (i:=ga) (by omega);exact ET (by assumption) (hJ.1.2 ⟨z1,z2,z3,z4⟩)))
        refine wp_skip<|iN<|tN<|wp_region_lit<|mv O rfl rfl fun a O=>st O (Ac O rfl rfl (AN (gc) (1) (by omega))) rfl fun a O=>ag O rfl rfl fun a O=>nt<|⟨gc+1,⟨by omega,CO hv5 (by omega),O.sub _ (by repeat' constructor),?_⟩,by omega⟩;exact J
      obtain rfl:n=gc:=by omega
      refine wp_exit<|tX<|tX<|AW<|iN<|tN<|wp_region_lit<|mv O rfl rfl fun a O=>st O (Ac O rfl rfl (AN (gb) (1) (by omega))) rfl fun a O=>ag O rfl rfl fun a O=>nt<|⟨gb+1,⟨by omega,true,⟨PJ hJ.1 (R6 (by simp [*];try omega)),CO hJ.2 hv5⟩,O.sub _ (by repeat' constructor),?_⟩,by omega⟩;exact J
    obtain rfl:n=gb:=by omega
    refine wp_exit<|tX<|tX<|AW<|tN<|sr<|mv O rfl rfl fun a O=>st O (Co O rfl) rfl fun a O=>mv O rfl rfl fun a O=>?_
    cases g21:(!(bo):Bool)
    . simp only [g21] at O
      refine Ay O rfl rfl rfl (AS O rfl) rfl fun a O=>Ay O rfl rfl rfl (AC As O rfl) rfl fun a O=>Ay O rfl rfl rfl (AH (i:=0) Av O rfl rfl rfl (by omega)) rfl fun a O=>Ay O rfl rfl rfl (AH Az O rfl rfl rfl (by omega)) rfl fun a O=>Ay O rfl rfl rfl (AM Ah O rfl (J.row 0 rfl) (BU (0) (ga) (by omega) (by omega) (by omega))) rfl fun a O=>Ay O rfl rfl rfl (BO Ba Bf O rfl (wrap_i64 (by omega) (by omega))) rfl fun a O=>Ay O rfl rfl rfl (AS O rfl) rfl fun a O=>Ay O rfl rfl rfl (A0 O rfl rfl) rfl fun a O=>st O (Ai O rfl rfl) rfl fun a O=>mv O rfl rfl fun a O=>?_
      by_cases g22:((M (0) (ga):Int):Int)≠(ga:Int)
      . first | rw [decide_eq_true g22] at O | simp only [decide_eq_true g22] at O
        refine A4 O rfl rfl rfl rfl rfl fun a O=>A4 O rfl rfl rfl rfl rfl fun a O=>A4 O rfl rfl rfl rfl rfl fun a O=>A4 O rfl rfl rfl rfl rfl fun a O=>A4 O rfl rfl rfl rfl rfl fun a O=>A4 O rfl rfl rfl rfl rfl fun a O=>A4 O rfl rfl rfl rfl rfl fun a O=>A4 O rfl rfl rfl rfl rfl fun a O=>st O (Aa O rfl rfl) rfl fun a O=>nt<|Hk O rfl<|sr<|ag O rfl rfl fun a O=>nt<|wp_ret<|iR<|tR<|tR<|iR<|tR<|Ap rfl O.defers (AE O rfl) ⟨_,rfl,J.below,?_⟩
        show _=_
        exact BP (fun hq=>by first | omega | (have hz:=hq.1 gi (by omega) gj (by omega);unfold Dd at hz;omega) | (have hz:=hq.2.2.2 ga (by omega) gb (by omega) gc (by omega);omega) | (have hz:=hq.2.1 ga (by omega);omega) | (obtain ⟨z1,z2,z3,z4⟩:=hq.two hn0 hn (i:=ga) (by omega);exact ET (by assumption) (hJ.1.2 ⟨z1,z2,z3,z4⟩)))
      first | rw [decide_eq_false g22] at O | simp only [decide_eq_false g22] at O
      refine Ay O rfl rfl rfl (AS O rfl) rfl fun a O=>Ay O rfl rfl rfl (AC As O rfl) rfl fun a O=>Ay O rfl rfl rfl (AH Av O rfl rfl rfl (by omega)) rfl fun a O=>Ay O rfl rfl rfl (AH (i:=0) Az O rfl rfl rfl (by omega)) rfl fun a O=>Ay O rfl rfl rfl (AM Ah O rfl (J.row 0 rfl) (BU (ga) (0) (by omega) (by omega) (by omega))) rfl fun a O=>Ay O rfl rfl rfl (BO Ba Bf O rfl (wrap_i64 (by omega) (by omega))) rfl fun a O=>Ay O rfl rfl rfl (AS O rfl) rfl fun a O=>Ay O rfl rfl rfl (A0 O rfl rfl) rfl fun a O=>st O (Ai O rfl rfl) rfl fun a O=>nt<|AI O rfl (fun h24=>?_) (fun h24=>?_)
      . refine sq ?_
        refine wp_region_lit<|ag O rfl rfl fun a O=>nt<|wp_ret<|iR<|tR<|tR<|iR<|tR<|Ap rfl O.defers (AE O rfl) ⟨_,rfl,J.below,?_⟩
        show _=_
        exact BP (fun hq=>by first | omega | (have hz:=hq.1 gi (by omega) gj (by omega);unfold Dd at hz;omega) | (have hz:=hq.2.2.2 ga (by omega) gb (by omega) gc (by omega);omega) | (have hz:=hq.2.1 ga (by omega);omega) | (obtain ⟨z1,z2,z3,z4⟩:=hq.two hn0 hn (i:=ga) (by omega);exact ET (by assumption) (hJ.1.2 ⟨z1,z2,z3,z4⟩)))
      refine wp_skip<|iN<|tN<|wp_region_lit<|mv O rfl rfl fun a O=>st O (Ac O rfl rfl (AN (ga) (1) (by omega))) rfl fun a O=>ag O rfl rfl fun a O=>nt<|⟨ga+1,⟨by omega,CO hU ⟨by obtain ⟨z1,z2,z3,z4⟩:=hJ.1.1 (RZ (by assumption));exact ⟨z1,z2,z3⟩,hJ.2,by omega,by omega⟩,O.sub _ (by repeat' constructor),?_⟩,by omega⟩;exact J
    simp only [g21] at O;refine A4 O rfl rfl rfl rfl rfl fun a O=>A4 O rfl rfl rfl rfl rfl fun a O=>A4 O rfl rfl rfl rfl rfl fun a O=>A4 O rfl rfl rfl rfl rfl fun a O=>A4 O rfl rfl rfl rfl rfl fun a O=>A4 O rfl rfl rfl rfl rfl fun a O=>A4 O rfl rfl rfl rfl rfl fun a O=>A4 O rfl rfl rfl rfl rfl fun a O=>st O (Aa O rfl rfl) rfl fun a O=>mv O rfl rfl fun a O=>A4 O rfl rfl rfl rfl rfl fun a O=>A4 O rfl rfl rfl rfl rfl fun a O=>A4 O rfl rfl rfl rfl rfl fun a O=>A4 O rfl rfl rfl rfl rfl fun a O=>A4 O rfl rfl rfl rfl rfl fun a O=>A4 O rfl rfl rfl rfl rfl fun a O=>A4 O rfl rfl rfl rfl rfl fun a O=>A4 O rfl rfl rfl rfl rfl fun a O=>st O (Aa O rfl rfl) rfl fun a O=>nt<|Hk O rfl<|sr<|ag O rfl rfl fun a O=>nt<|wp_ret<|iR<|tR<|tR<|iR<|tR<|Ap rfl O.defers (AE O rfl) ⟨_,rfl,J.below,?_⟩
    show _=_
    exact BP (fun hq=>by first | omega | (have hz:=hq.1 gi (by omega) gj (by omega);unfold Dd at hz;omega) | (have hz:=hq.2.2.2 ga (by omega) gb (by omega) gc (by omega);omega) | (have hz:=hq.2.1 ga (by omega);omega) | (obtain ⟨z1,z2,z3,z4⟩:=hq.two hn0 hn (i:=ga) (by omega);exact ET (by assumption) (hJ.1.2 ⟨z1,z2,z3,z4⟩)))
  obtain rfl:n=ga:=by omega
  refine wp_exit<|tX<|tX<|AW<|tN<|sr<|ag O rfl rfl fun a O=>nt<|wp_ret<|Ap rfl O.defers (AE O rfl) ⟨_,rfl,J.below,?_⟩
  show _=_
  exact Ds ⟨hH,fun i hi=>(hU i hi).2.2,fun i hi=>(hU i hi).1,fun i hi=>(hU i hi).2.1⟩
end Go.Proofs.Ytgioobkkkicfeaa
