import Derived.Test.YtgioobkkkicfeaaC2
set_option linter.unusedVariables false
set_option linter.unusedSimpArgs false
namespace Go.Proofs.Ytgioobkkkicfeaa
open Go Go.RowKit Go.Sw Go.Ech
open Classical
theorem JW:DJ Try.prog 2=some 1:=by kernel_rfl
theorem PS:∀ w,(zeroValue 2).run Try.prog w = .ok (.int .i64 ((0:Nat):Int)) w:=by intros;kernel_rfl
theorem PL {nn:Nat}{D:Nat->Nat}(h:Asc nn D){i:Nat}(hi:i+1<nn)(hne:D (i+1)≠D i):D i<D (i+1):=by
  have:=h i (i+1) (by omega) hi
  omega
def Cmp (D E:Nat->Nat) (q m:Nat):Prop:=(∀ i,i+1<m->E i<E (i+1))/\0<m/\E (m - 1)=D (q - 1)/\∀ x,(∃ k,k<q/\D k=x)↔∃ k,k<m/\E k=x
theorem Cmp.self {D:Nat->Nat}{q:Nat}(hq:0<q)(h:∀ i,i+1<q->D i<D (i+1)):Cmp D D q q:=⟨h,hq,rfl,fun _=>Iff.rfl⟩
theorem Cmp.same {D E:Nat->Nat}{q m:Nat}(h:Cmp D E q m)(hq:0<q)(e:D q=D (q - 1)):Cmp D E (q+1) m:=⟨h.1,h.2.1,by rw [h.2.2.1,Nat.add_sub_cancel,e],fun x=>by
  rw [← h.2.2.2 x]
  constructor
  . rintro ⟨k,hk,he⟩
    by_cases e2:k=q
    . subst e2;exact ⟨k - 1,by omega,by rw [← e];exact he⟩
    . exact ⟨k,by omega,he⟩
  . rintro ⟨k,hk,he⟩;exact ⟨k,by omega,he⟩⟩
theorem Cmp.more {D E:Nat->Nat}{q m:Nat}(h:Cmp D E q m)(hlt:D (q - 1)<D q):Cmp D (Cl E m (D q)) (q+1) (m+1):=by
  have key:∀ i,Cl E m (D q) i=if i=m then D q else E i:=fun i=>rfl;have hm:=h.2.1;refine ⟨fun i hi=>?_,by omega,?_,fun x=>?_⟩
  . rw [key,key,if_neg (show ¬ i=m by omega)]
    by_cases e:i+1=m
    . rw [if_pos e,show i=m - 1 by omega,h.2.2.1];exact hlt
    . rw [if_neg e];exact h.1 i (by omega)
  . rw [key,Nat.add_sub_cancel,if_pos rfl,Nat.add_sub_cancel]
  . constructor
    . rintro ⟨k,hk,he⟩
      by_cases e:k=q
      . subst e;exact ⟨m,by omega,by rw [key,if_pos rfl];exact he⟩
      . obtain ⟨j,hj,he2⟩:=(h.2.2.2 x).1 ⟨k,by omega,he⟩
        exact ⟨j,by omega,by rw [key,if_neg (by omega)];exact he2⟩
    . rintro ⟨k,hk,he⟩
      rw [key] at he
      by_cases e:k=m
      . rw [if_pos e] at he;exact ⟨q,by omega,he⟩
      . rw [if_neg e] at he
        obtain ⟨j,hj,he2⟩:=(h.2.2.2 x).2 ⟨k,by omega,he⟩;exact ⟨j,by omega,he2⟩
theorem Cmp.congr {D E E':Nat->Nat}{q m:Nat}(h:Cmp D E q m)(e:∀ i,i<m->E' i=E i):Cmp D E' q m:=by
  have hm:=h.2.1;refine ⟨fun i hi=>by rw [e i (by omega),e (i+1) hi];exact h.1 i hi,hm,by rw [e _ (by omega)];exact h.2.2.1,fun x=>?_⟩;rw [h.2.2.2 x]
  constructor
  . rintro ⟨k,hk,he⟩;exact ⟨k,hk,by rw [e k hk];exact he⟩
  . rintro ⟨k,hk,he⟩;exact ⟨k,hk,by rw [← e k hk];exact he⟩
theorem MC (b1 c1 nn:Nat)(cs1:Array Value)(ls:Nat->Nat)(w:World)(hnn:0<nn)(hnn2:nn<=12)(hU:nn<=cs1.size)(hb:Blk w b1 (BV cs1 nn ls))(hA:Asc nn ls)(hcap:nn<=c1) :
    CallsX Try.prog [b1] 77 #[.slice (some ⟨b1,0,none⟩) nn c1] w (fun v w'=>∃ m E,v = .slice (some ⟨b1,0,none⟩) m c1/\Blk w' b1 (BV cs1 nn E)/\Cmp ls E nn m/\m<=nn):=by
  refine B0 [.slice (some ⟨b1,0,none⟩) nn c1] Try.func77 rfl Try.ntmps77 rfl fun a O=>?_;have J:MemX [b1] w w [some (b1,BV cs1 nn ls)] []:=MemX.startX1 0 hb;change Fr 61 a [(0,.slice (some ⟨b1,0,none⟩) nn c1)] at O;refine sr<|ag O rfl rfl fun a O=>nt<|sq<|sr<|mv O rfl rfl fun a O=>st O (BY A7 O rfl) rfl fun a O=>st O (Ak O rfl rfl) rfl fun a O=>nt<|AI O rfl (fun h1=>?_) (fun h1=>?_)
  . refine sq ?_
    refine wp_region_lit<|mv O rfl rfl fun a O=>ag O rfl rfl fun a O=>nt<|wp_ret<|tR<|Ap rfl O.defers (AE O rfl) ⟨_,rfl,J.bel,?_⟩;exact ⟨nn,ls,rfl,J.row 0 rfl,Cmp.self hnn (by first | (intro i hi;omega) | (intro i hi;exact hH i (by omega))),Nat.le_refl _⟩
  refine wp_skip<|tN<|sq<|sr<|ag O rfl rfl fun a O=>nt<|wp_block ?_;change MemX [b1] w _ [some (b1,BV cs1 nn ls)] [] at J;refine Ag (fun (kk:Nat) a w'=>kk<=(nn - 1)/\(∀ i,i<kk->ls i<ls (i+1))/\Fr 61 a [(0,.slice (some ⟨b1,0,none⟩) nn c1),(8,.bool (decide (((nn:Int):Int)<2))),(3,.int .i64 (((kk+1:Nat):Int)))]/\MemX [b1] w w' [some (b1,BV cs1 nn ls)] []) (fun kk=>(nn - 1) - kk) 0 ?_ ?_
  . refine ⟨by omega,fun i hi=>absurd hi (by omega),O.sub _ (by repeat' constructor),?_⟩
    exact J
  clear O J;rintro gk a w' ⟨hgk,hH,O,J⟩;refine sq<|sr<|mv O rfl rfl fun a O=>mv O rfl rfl fun a O=>st O (BY A7 O rfl) rfl fun a O=>st O (Ak O rfl rfl) rfl fun a O=>nt<|AI O rfl (fun h2=>?_) (fun h2=>?_)
  . refine wp_skip ?_
    refine tN<|sq<|wp_block<|sq<|Bt 9 [] [.val (.slice (some ⟨b1,0,none⟩) nn c1),.val (.int .i64 (((gk+1:Nat):Int))),.val (ptr b1 (0+(gk+1)*1)),.val (.int .i64 ((ls (gk+1):Int))),.val (.slice (some ⟨b1,0,none⟩) nn c1),.val (.int .i64 (((gk+1:Nat):Int))),.val (.int .i64 (gk:Int)),.val (ptr b1 (0+(gk)*1)),.val (.int .i64 ((ls (gk):Int)))] Bb rfl O rfl J ⟨fun a w gG O hS hd=>by exact BF hS rfl O rfl,fun a w gG O hS hd=>by exact BF hS rfl O rfl,fun a w gG O hS hd=>by have O:=O.ext1 16 (hd 0 rfl rfl);have O:=O.ext1 17 (hd 1 rfl rfl);exact AD hS rfl (AJ (i:=gk+1) An O rfl rfl rfl (by omega)),fun a w gG O hS hd=>by have O:=O.ext1 18 (hd 2 rfl rfl);have J:=hS.mem rfl;exact AD hS rfl (AM AL O rfl (J.row 0 rfl) (C9 hU (gk+1) (by omega) (by omega))),fun a w gG O hS hd=>by exact BF hS rfl O rfl,fun a w gG O hS hd=>by exact BF hS rfl O rfl,fun a w gG O hS hd=>by have O:=O.ext1 21 (hd 5 rfl rfl);exact AD hS rfl (CY O rfl rfl (show _=(gk:Int) from (by rw [wrap_i64]<;>omega))),fun a w gG O hS hd=>by have O:=O.ext1 20 (hd 4 rfl rfl);have O:=O.ext1 22 (hd 6 rfl rfl);exact AD hS rfl (AJ (i:=gk) An O rfl rfl rfl (by omega)),fun a w gG O hS hd=>by have O:=O.ext1 23 (hd 7 rfl rfl);have J:=hS.mem rfl;exact AD hS rfl (AM AL O rfl (J.row 0 rfl) (C9 hU (gk) (by omega) (by omega))),trivial⟩ ?_;intro a w' L O hS hq;have O:=O.ext1 16 (hq 0 rfl rfl);have O:=O.ext1 17 (hq 1 rfl rfl);have O:=O.ext1 18 (hq 2 rfl rfl);have O:=O.ext1 19 (hq 3 rfl rfl);have O:=O.ext1 20 (hq 4 rfl rfl);have O:=O.ext1 21 (hq 5 rfl rfl);have O:=O.ext1 22 (hq 6 rfl rfl);have O:=O.ext1 23 (hq 7 rfl rfl);have O:=O.ext1 24 (hq 8 rfl rfl);have J:=hS.mem rfl;change wpList Try.prog _ _ [_] _ _;refine st O (Ao O rfl rfl) rfl fun a O=>nt<|AI O rfl (fun h3=>?_) (fun h3=>?_)
    . refine sq ?_
      refine wp_region_lit<|mv O rfl rfl fun a O=>mv O rfl rfl fun a O=>st O (Gw (i:=gk+1) A7 JW O rfl rfl rfl (by omega) (by omega) (by omega)) rfl fun a O=>ag O rfl rfl fun a O=>nt<|sq<|sr<|ag O rfl rfl fun a O=>nt<|wp_block ?_;change MemX [b1] w _ [some (b1,BV cs1 nn ls)] [] at J;refine Ag (fun (kk:Nat) a w'=>kk<=(nn - (gk+1) - 1)/\∃ (kc:Nat),∃ (E2:Nat->Nat),((gk+1<=kc/\kc<=gk+1+kk)/\Cmp ls E2 (gk+1+kk+1) kc/\∀ j,kc<=j->E2 j=ls j)/\Fr 61 a [(24,.int .i64 ((ls (gk):Int))),(23,ptr b1 (0+(gk)*1)),(22,.int .i64 (gk:Int)),(21,.int .i64 (((gk+1:Nat):Int))),(20,.slice (some ⟨b1,0,none⟩) nn c1),(19,.int .i64 ((ls (gk+1):Int))),(18,ptr b1 (0+(gk+1)*1)),(17,.int .i64 (((gk+1:Nat):Int))),(16,.slice (some ⟨b1,0,none⟩) nn c1),(0,.slice (some ⟨b1,0,none⟩) nn c1),(8,.bool (decide (((nn:Int):Int)<2))),(10,.int .i64 (((gk+1:Nat):Int))),(11,.slice (some ⟨b1,0,none⟩) nn c1),(12,.int .i64 (nn:Int)),(13,.bool (decide ((((gk+1:Nat):Int):Int)<(nn:Int)))),(25,.bool (decide (((ls (gk+1):Int):Int)=(ls (gk):Int)))),(26,.slice (some ⟨b1,0,none⟩) nn c1),(27,.int .i64 (((gk+1:Nat):Int))),(28,.slice (some ⟨b1,0+(gk+1)*1,none⟩) ((nn - (gk+1))) ((c1 - (gk+1)))),(4,.slice (some ⟨b1,0+(gk+1)*1,none⟩) ((nn - (gk+1))) ((c1 - (gk+1)))),(5,.int .i64 (((kk+1:Nat):Int))),(3,.int .i64 (kc:Int))]/\MemX [b1] w w' [some (b1,BV cs1 nn E2)] []) (fun kk=>(nn - (gk+1) - 1) - kk) 0 ?_ ?_
      . refine ⟨by omega,gk+1,ls,⟨⟨by omega,by omega⟩,(Cmp.self (D:=ls) (q:=gk+1) (by omega) (fun i hi=>hH i (by omega))).same (by omega) (by rw [Nat.add_sub_cancel];omega),fun _ _=>rfl⟩,O.sub _ (by repeat' constructor),?_⟩
        exact J
      clear O J;rintro gq a w' ⟨hgq,kc,E2,hcq,O,J⟩;have hE1:=hcq.2.2 (gk+1+(gq+1)) (by omega);have hE0:=hcq.2.2 (gk+1+gq) (by omega);refine sq<|sr<|mv O rfl rfl fun a O=>mv O rfl rfl fun a O=>st O (BY A7 O rfl) rfl fun a O=>st O (Ak O rfl rfl) rfl fun a O=>nt<|AI O rfl (fun h4=>?_) (fun h4=>?_)
      . refine wp_skip ?_
        refine tN<|sq<|wp_block<|sq<|Bt 9 [] [.val (.slice (some ⟨b1,0+(gk+1)*1,none⟩) ((nn - (gk+1))) ((c1 - (gk+1)))),.val (.int .i64 (((gq+1:Nat):Int))),.val (ptr b1 (0+(gk+1)*1+(gq+1)*1)),.val (.int .i64 ((E2 (gk+1+(gq+1)):Int))),.val (.slice (some ⟨b1,0+(gk+1)*1,none⟩) ((nn - (gk+1))) ((c1 - (gk+1)))),.val (.int .i64 (((gq+1:Nat):Int))),.val (.int .i64 (gq:Int)),.val (ptr b1 (0+(gk+1)*1+(gq)*1)),.val (.int .i64 ((E2 (gk+1+(gq)):Int)))] Bb rfl O rfl J ⟨fun a w gG O hS hd=>by exact BF hS rfl O rfl,fun a w gG O hS hd=>by exact BF hS rfl O rfl,fun a w gG O hS hd=>by have O:=O.ext1 35 (hd 0 rfl rfl);have O:=O.ext1 36 (hd 1 rfl rfl);exact AD hS rfl (AJ (i:=gq+1) An O rfl rfl rfl (by omega)),fun a w gG O hS hd=>by have O:=O.ext1 37 (hd 2 rfl rfl);have J:=hS.mem rfl;exact AD hS rfl (AM AL O rfl (J.row 0 rfl) (C9 hU (gk+1+(gq+1)) (by omega) (by omega))),fun a w gG O hS hd=>by exact BF hS rfl O rfl,fun a w gG O hS hd=>by exact BF hS rfl O rfl,fun a w gG O hS hd=>by have O:=O.ext1 40 (hd 5 rfl rfl);exact AD hS rfl (CY O rfl rfl (show _=(gq:Int) from (by rw [wrap_i64]<;>omega))),fun a w gG O hS hd=>by have O:=O.ext1 39 (hd 4 rfl rfl);have O:=O.ext1 41 (hd 6 rfl rfl);exact AD hS rfl (AJ (i:=gq) An O rfl rfl rfl (by omega)),fun a w gG O hS hd=>by have O:=O.ext1 42 (hd 7 rfl rfl);have J:=hS.mem rfl;exact AD hS rfl (AM AL O rfl (J.row 0 rfl) (C9 hU (gk+1+(gq)) (by omega) (by omega))),trivial⟩ ?_;intro a w' L O hS hq;have O:=O.ext1 35 (hq 0 rfl rfl);have O:=O.ext1 36 (hq 1 rfl rfl);have O:=O.ext1 37 (hq 2 rfl rfl);have O:=O.ext1 38 (hq 3 rfl rfl);have O:=O.ext1 39 (hq 4 rfl rfl);have O:=O.ext1 40 (hq 5 rfl rfl);have O:=O.ext1 41 (hq 6 rfl rfl);have O:=O.ext1 42 (hq 7 rfl rfl);have O:=O.ext1 43 (hq 8 rfl rfl);have J:=hS.mem rfl;change wpList Try.prog _ _ [_] _ _;refine st O (A0 O rfl rfl) rfl fun a O=>nt<|AI O rfl (fun h5=>?_) (fun h5=>?_)
        . refine sq ?_
          refine wp_region_lit<|mv O rfl rfl fun a O=>mv O rfl rfl fun a O=>mv O rfl rfl fun a O=>mv O rfl rfl fun a O=>st O (AJ (i:=gq+1) An O rfl rfl rfl (by omega)) rfl fun a O=>st O (AM AL O rfl (J.row 0 rfl) (C9 hU (gk+1+(gq+1)) (by omega) (by omega))) rfl fun a O=>st O (AJ (i:=kc) An O rfl rfl rfl (by omega)) rfl fun a O=>Bu O (BE 0 J rfl AL O rfl rfl rfl (by first | omega | (simp only [AT,Bi]<;>omega) | (simp only [Array.size_setIfInBounds];omega) | simp)) ?_;intro _ w' a J O;rw [show (BV cs1 nn E2).setIfInBounds (0+(kc)*1) (.int .i64 ((E2 (gk+1+(gq+1)):Int)))=BV cs1 nn (Cl E2 (kc) (E2 (gk+1+(gq+1)))) from H6 hU (kc) (by omega) (by omega)] at J;change MemX _ _ _ [_] [] at J;refine nt<|wp_region_lit<|mv O rfl rfl fun a O=>st O (Ac O rfl rfl (AN (kc) (1) (by omega))) rfl fun a O=>ag O rfl rfl fun a O=>wpList_nil<|iN<|tN<|wp_region_lit<|mv O rfl rfl fun a O=>st O (Ac O rfl rfl (AN (gq+1) (1) (by omega))) rfl fun a O=>ag O rfl rfl fun a O=>nt<|⟨gq+1,⟨by omega,kc+1,(Cl E2 (kc) (E2 (gk+1+(gq+1)))),⟨⟨by omega,by omega⟩,by rw [hE1];exact hcq.2.1.more (PL hA (i:=gk+1+gq) (by omega) (by rw [show gk+1+gq+1=gk+1+(gq+1) from rfl,← hE1,← hE0];omega)),fun j hj=>by unfold Cl;rw [if_neg (by omega)];exact hcq.2.2 j (by omega)⟩,O.sub _ (by repeat' constructor),?_⟩,by omega⟩;exact J
        refine wp_skip<|iN<|tN<|wp_region_lit<|mv O rfl rfl fun a O=>st O (Ac O rfl rfl (AN (gq+1) (1) (by omega))) rfl fun a O=>ag O rfl rfl fun a O=>nt<|⟨gq+1,⟨by omega,kc,E2,⟨⟨by omega,by omega⟩,hcq.2.1.same (by omega) (by rw [Nat.add_sub_cancel,← hE0,show gk+1+gq+1=gk+1+(gq+1) by omega,← hE1];omega),hcq.2.2⟩,O.sub _ (by repeat' constructor),?_⟩,by omega⟩;exact J
      obtain rfl:(nn - (gk+1) - 1)=gq:=by omega
      refine wp_exit<|tX<|tX<|AW<|tN<|sr<|mv O rfl rfl fun a O=>mv O rfl rfl fun a O=>st O (Gw (i:=kc) A7 JW O rfl rfl rfl (by omega) (by omega) (by omega)) rfl fun a O=>Bu O (P8 0 J rfl A7 PS rfl rfl O rfl (by omega) (by simp only [AT,Bi];omega) (Li (k:=kc) hU (by omega) rfl (by omega))) ?_;intro _ w' a J O;change MemX _ _ _ [some (b1,BV cs1 nn (fun i=>if i<kc then E2 i else 0))] [] at J;refine ns<|mv O rfl rfl fun a O=>mv O rfl rfl fun a O=>st O (Gx A7 JW O rfl rfl rfl (by omega)) rfl fun a O=>ag O rfl rfl fun a O=>nt<|wp_ret<|iR<|tR<|tR<|iR<|tR<|Ap rfl O.defers (AE O rfl) ⟨_,rfl,J.bel,?_⟩;exact ⟨kc,_,rfl,J.row 0 rfl,(by have h9:=hcq.2.1;rw [show gk+1+(nn - (gk+1) - 1)+1=nn by omega] at h9;exact h9.congr (fun i hi=>if_pos hi)),by omega⟩
    refine wp_skip<|iN<|tN<|wp_region_lit<|mv O rfl rfl fun a O=>st O (Ac O rfl rfl (AN (gk+1) (1) (by omega))) rfl fun a O=>ag O rfl rfl fun a O=>nt<|⟨gk+1,⟨by omega,CO hH (PL hA (by omega) (by omega)),O.sub _ (by repeat' constructor),?_⟩,by omega⟩;exact J
  obtain rfl:(nn - 1)=gk:=by omega
  refine wp_exit<|tX<|tX<|AW<|tN<|sr<|mv O rfl rfl fun a O=>ag O rfl rfl fun a O=>nt<|wp_ret<|Ap rfl O.defers (AE O rfl) ⟨_,rfl,J.bel,?_⟩;exact ⟨nn,ls,rfl,J.row 0 rfl,Cmp.self hnn (by first | (intro i hi;omega) | (intro i hi;exact hH i (by omega))),Nat.le_refl _⟩
theorem DH:∀ (x:Int) (w:World),(Instr.buildSlice 39 1 #[(0,.int .i64 x)]).run Try.prog w = .ok (.slice (some ⟨w.heap.size,0,none⟩) 1 1) (w.alloc (.cells #[.int .i64 x] 2)):=by intros;kernel_rfl
theorem Nh {n:Nat}{M:Nat->Nat->Nat}(hn:n<=6)(hG:TabP n M){x m:Nat}(hx:x<n){D E:Nat->Nat}(h1:SameSet n D (cj M n x))(h2:Cmp D E n m):cnt (DG M n x) n=m/\∀ i,i<m->E i=asc (DG M n x) n i:=by
  have key:∀ z,(∃ y,y<n/\cj M n x y=z)↔∃ k,k<m/\E k=z:=fun z=>(h1 z).symm.trans (h2.2.2.2 z);refine MF h2.1 (fun z _=>inC_iff.trans (key z)) fun i hi=>?_;obtain ⟨y,hy,e⟩:=(key (E i)).2 ⟨i,hi,rfl⟩;rw [← e];exact Qa hn hG hx hy
def Ic (w w':World) (m:Nat) (f:Nat->Nat) (v:Value):Prop:=∃ b c cs,v = .slice (some ⟨b,0,none⟩) m c/\w.heap.size<=b/\Blk w' b cs/\SlAt 1 v (some (b,cs)) m b c cs (fun k=>.int .i64 (f k:Int))
theorem Hj (n:Nat)(M:Nat->Nat->Nat)(x:Nat)(w:World)(hn0:0<n)(hn:n<=6)(hB:∀ i j,M i j<=255)(hG:TabP n M)(hxn:x<n) :
    CallsR Try.prog 54 #[.agg (AB (n:Int) M),.int .i64 (x:Int)] w (fun v w'=>Ic w w' (cnt (DG M n x) n) (asc (DG M n x) n) v):=by
  refine AQ [.agg (AB (n:Int) M),.int .i64 (x:Int)] Try.func54 rfl Try.ntmps54 rfl fun a O=>?_;have J:AR w w [none,none,none] []:=MemX.start w 3;change Fr 29 a [(0,.agg (AB (n:Int) M)),(1,.int .i64 (x:Int))] at O;refine sr<|Aj O (Aw 0 J O rfl) rfl ?_;rintro _ w' a ⟨b1,rfl,J,-⟩ O;change AR _ _ [some (b1,AB (n:Int) M),_,_] [] at J;refine ag O rfl rfl fun a O=>ns<|ag O rfl rfl fun a O=>nt<|sq<|sr<|st O (AC AV O rfl) rfl fun a O=>st O (AM AL O rfl (J.row 0 rfl) (Au (by omega))) rfl fun a O=>mv O rfl rfl fun a O=>nt<|wp_block ?_;change AR _ _ [_,_,_] [] at J;refine Ag (fun (kk:Nat) a w'=>kk<=n/\(True)/\∃ (u5_1:Value) (e5_1:Option (Nat×Array Value)),Sl 1 u5_1 e5_1 (kk) (fun c=>.int .i64 (cj M n x c:Int))/\Fr 29 a [(1,.int .i64 (x:Int)),(2,ptr b1 (0)),(4,.slice none 0 0),(8,.int .i64 (n:Int)),(9,.int .i64 (kk:Int)),(5,u5_1)]/\AR w w' [some (b1,AB (n:Int) M),none,e5_1] []) (fun kk=>n - kk) 0 ?_ ?_
  . refine ⟨by omega,trivial,(.slice none 0 0),(none),(Sl.nil 1 _),O.sub _ (by repeat' constructor),?_⟩
    exact J
  clear O J;rintro gy a w' ⟨hgy,hH,u5_1,e5_1,hur,O,J⟩;have y1:gy<n->M gy x<n:=fun q=>hG.c hn q hxn;have y2:gy<n->lead (M gy) n<n:=fun q=>hG.inv q;refine sr<|st O (Ak O rfl rfl) rfl fun a O=>nt<|sq<|AI O rfl (fun h2=>?_) (fun h2=>?_)
  . refine wp_skip ?_
    refine tN<|sq<|wp_block<|sr<|mv O rfl rfl fun a O=>ag O rfl rfl fun a O=>nt<|Bt 11 [1] [.val (u5_1),.val (.agg (AB (n:Int) M)),.val (.agg (AB (n:Int) M)),.val (.int .i64 (gy:Int)),.val (.int .i64 (x:Int)),.val (.int .i64 ((M (gy) (x):Int))),.val (.agg (AB (n:Int) M)),.val (.int .i64 (gy:Int)),.val (.int .i64 ((lead (M (gy)) n:Int))),.val (.int .i64 (((M (M (gy) (x)) (lead (M (gy)) n):Nat):Int))),.own 1 (#[.int .i64 (((M (M (gy) (x)) (lead (M (gy)) n):Nat):Int))]) (fun b=>.slice (some ⟨b,0,none⟩) 1 1)] Bb rfl O rfl J ⟨fun a w gG O hS hd=>by exact BF hS rfl O rfl,fun a w gG O hS hd=>by have J:=hS.mem rfl;exact AD hS rfl (AF AK O rfl (J.row 0 rfl) (by simp only [AT,AA,Bi]<;>omega) (whole (by simp only [AT,AA,Bi]))),fun a w gG O hS hd=>by have J:=hS.mem rfl;exact AD hS rfl (AF AK O rfl (J.row 0 rfl) (by simp only [AT,AA,Bi]<;>omega) (whole (by simp only [AT,AA,Bi]))),fun a w gG O hS hd=>by exact BF hS rfl O rfl,fun a w gG O hS hd=>by exact BF hS rfl O rfl,fun a w gG O hS hd=>by have O:=O.ext1 14 (hd 2 rfl rfl);have O:=O.ext1 15 (hd 3 rfl rfl);have O:=O.ext1 16 (hd 4 rfl rfl);exact BT (by repeat constructor) hS rfl (AO Try.call32 O (.cons rfl (.cons rfl (.cons rfl .nil))) (CW (n:Int) M (gy) (x) _ hB (by omega) (by omega))),fun a w gG O hS hd=>by have J:=hS.mem rfl;exact AD hS rfl (AF AK O rfl (J.row 0 rfl) (by simp only [AT,AA,Bi]<;>omega) (whole (by simp only [AT,AA,Bi]))),fun a w gG O hS hd=>by exact BF hS rfl O rfl,fun a w gG O hS hd=>by have O:=O.ext1 18 (hd 6 rfl rfl);have O:=O.ext1 19 (hd 7 rfl rfl);exact BT (by repeat constructor) hS rfl (AO Try.call75 O (.cons rfl (.cons rfl .nil)) ((CallsR.val (IL n M (gy) _ hn0 hn hB (by omega)) (congrArg (Value.int .i64) (if_pos (Jl (hG.2.2.1 _ (by omega)))))))),fun a w gG O hS hd=>by have O:=O.ext1 13 (hd 1 rfl rfl);have O:=O.ext1 17 (hd 5 rfl rfl);have O:=O.ext1 20 (hd 8 rfl rfl);exact BT (by repeat constructor) hS rfl (AO Try.call32 O (.cons rfl (.cons rfl (.cons rfl .nil))) (CW (n:Int) M (M (gy) (x)) (lead (M (gy)) n) _ hB (by omega) (by omega))),fun a w gG O hS hd=>by have O:=O.ext1 21 (hd 9 rfl rfl);exact Ep (by repeat constructor) hS rfl rfl rfl rfl (BK 1 hS.1 O (C2 O rfl) (DH _)),trivial⟩ ?_;intro a w' L O hS hq;have O:=O.ext1 12 (hq 0 rfl rfl);have O:=O.ext1 13 (hq 1 rfl rfl);have O:=O.ext1 14 (hq 2 rfl rfl);have O:=O.ext1 15 (hq 3 rfl rfl);have O:=O.ext1 16 (hq 4 rfl rfl);have O:=O.ext1 17 (hq 5 rfl rfl);have O:=O.ext1 18 (hq 6 rfl rfl);have O:=O.ext1 19 (hq 7 rfl rfl);have O:=O.ext1 20 (hq 8 rfl rfl);have O:=O.ext1 21 (hq 9 rfl rfl);obtain ⟨J,hL⟩:=hS;obtain ⟨b3,hptr,hkk⟩:=hq 10 rfl rfl;have O:=O.ext1 22 hptr;have hL:=hL.take hkk;obtain rfl:=hL.eq;change AR w w' [some (b1,AB (n:Int) M),some (b3,#[.int .i64 (((M (M (gy) (x)) (lead (M (gy)) n):Nat):Int))]),e5_1] [] at J;change wpList Try.prog _ _ [_,_] _ _;refine Aj O (B5 (k:=2) (m:=1) (g:=fun _=>.int .i64 (((M (M (gy) (x)) (lead (M (gy)) n):Nat):Int))) DN rfl (by decide) J rfl O rfl rfl hur (fun i hi=>by rw [show i=0 by omega];exact (J.row 1 rfl).cell 0) (fun _ _=>rfl) (by decide) (by unfold maxLen;omega) (by omega)) rfl ?_;rintro u4 w' a ⟨e5,J,hs6⟩ O;change AR w w' [some (b1,AB (n:Int) M),some (b3,#[.int .i64 (((M (M (gy) (x)) (lead (M (gy)) n):Nat):Int))]),e5] [] at J;refine ag O rfl rfl fun a O=>wpList_nil<|iN<|tN<|wp_region_lit<|st O (Ac O rfl rfl (AN (gy) (1) (by omega))) rfl fun a O=>mv O rfl rfl fun a O=>wpList_nil<|tN ?_
    have J:=J.drop 1;refine ⟨gy+1,⟨by omega,trivial,(u4),(e5),(hs6.congr (fun i hi=>by
            by_cases e:i<gy*1
            . rw [if_pos e]
            . rw [if_neg e,show i=gy by omega];rfl)),O.sub _ (by repeat' constructor),?_⟩,by omega⟩
    exact J
  obtain rfl:n=gy:=by omega
  obtain ⟨bR,cR,csR,hvR,heR,hsR⟩:=hur.pos hn0;subst hvR;subst heR;have hcR:=hsR.le;have hmR:=hsR.max;have hzR:csR.size=cR:=by rw [hsR.sz,Nat.mul_one]
  change AR w _ [some (b1,AB (n:Int) M),none,some (bR,csR)] [] at J;have J:=J.rowc (cs':=BV csR n (cj M n x)) 2 rfl (Ph hsR);change AR w _ [some (b1,AB (n:Int) M),none,some (bR,BV csR n (cj M n x))] [] at J;refine wp_exit<|tX<|tX<|AW<|tN<|sr<|mv O rfl rfl fun a O=>Aj O (Am Try.call76 O (.cons rfl .nil) (Pa bR cR n csR (cj M n x) _ hn0 (by omega) (by omega) (J.row 2 rfl))) rfl ?_;rintro _ w' a ⟨hx,rfl,D4,hbk,hA4,hS4⟩ O;have J:=J.upd 2 rfl hx hbk;change AR _ _ [_,_,_] [] at J;refine ns<|mv O rfl rfl fun a O=>Aj O (Am Try.call77 O (.cons rfl .nil) (MC bR cR n csR D4 _ hn0 (by omega) (by omega) (J.row 2 rfl) hA4 (by omega))) rfl ?_;rintro _ w' a ⟨hx,mm,E4,rfl,hbk,hC4,hm4⟩ O;have J:=J.upd 2 rfl hx hbk;change AR _ _ [_,_,_] [] at J;refine ag O rfl rfl fun a O=>nt<|wp_ret<|Ap rfl O.defers (AE O rfl) ⟨_,rfl,J.below,?_⟩;obtain ⟨hce,hEe⟩:=Nh hn hG hxn hS4 hC4;rw [hce];exact ⟨bR,cR,_,rfl,J.ge 2 rfl,J.row 2 rfl,(Pg hm4 (by omega) hmR hzR).congr (fun i hi=>congrArg (fun q:Nat=>Value.int .i64 (q:Int)) (hEe i (by omega)))⟩
theorem FY:∀ (x:Option Addr) (n c:Nat) (w:World),(Instr.buildSlice 28 1 #[(0,.slice x n c)]).run Try.prog w = .ok (.slice (some ⟨w.heap.size,0,none⟩) 1 1) (w.alloc (.cells #[.slice x n c] 39)):=by intros;kernel_rfl
theorem E6:OF Try.prog 28=some (39,some (.slice none 0 0),1,24):=by kernel_rfl
theorem QK {k b c:Nat}{cs:Array Value}{β κ:Nat->Nat}{C:Nat->Array Value}{P:Nat->Nat->Nat->Array Value->Prop}(h:∀ i,i<k->P i (β i) (κ i) (C i))(hk:P k b c cs):∀ i,i<k+1->P i (up β k b i) (up κ k c i) (upE C k cs i):=fun i hi=>by
  unfold up upE
  by_cases e:i=k
  . rw [if_pos e,if_pos e,if_pos e,e];exact hk
  . rw [if_neg e,if_neg e,if_neg e];exact h i (by omega)
theorem new_ne {X:List Nat}{w0 w:World}{L:Own}{D:Al}{b x:Nat}{ds:Array Value}(h:MemX X w0 w L D)(hge:w.heap.size<=b)(hx:(x,ds)∈D):b≠x:=fun e=>by
  have h1:=(h.froz x ds hx).1.lt
  omega
theorem Sl.snocL {u:Value}{e:Option (Nat×Array Value)}{n m b cap:Nat}{Ln β κ:Nat->Nat}(hm:Ln n=m)(h:Sl 1 u e (n+1) (fun i=>if i<n*1 then (fun i=>.slice (some ⟨β i,0,none⟩) (Ln i) (κ i)) i else (fun _=>.slice (some ⟨b,0,none⟩) m cap) (i - n*1))) :
    Sl 1 u e (n+1) (fun i=>.slice (some ⟨up β n b i,0,none⟩) (Ln i) (up κ n cap i)):=
  h.congr fun i hi=>by
    by_cases e:i<n
    . rw [if_pos (by omega)];simp only [HU (show i≠n by omega)]
    . obtain rfl:i=n:=by omega
      rw [if_neg (by omega)];simp only [HV,hm]
theorem Jh {n:Nat}{M:Nat->Nat->Nat}(hn0:0<n):0<nC M n:=Nat.lt_of_le_of_lt (Nat.zero_le _) (cnt_lt (S:=BW M n) (i:=0) (isRep_iff.2 fun i hi=>absurd hi (by omega)) hn0)
def eI (M:Nat->Nat->Nat) (n k c:Nat):Int:=(eC M n k c:Int)
theorem Fh {n x:Nat}{M:Nat->Nat->Nat}(hx:x<n)(hr:BW M n x=true):sC M n (cnt (BW M n) x)=cnt (DG M n x) n/\∀ c,eC M n (cnt (BW M n) x) c=asc (DG M n x) n c:=by
  have e:rC M n (cnt (BW M n) x)=x:=EU hr hx
  unfold sC eC
  rw [e];exact ⟨rfl,fun _=>rfl⟩
theorem PG {n x b c:Nat}{M:Nat->Nat->Nat}{cs:Array Value}(hx:x<n)(hr:BW M n x=true)(h:SlAt 1 (.slice (some ⟨b,0,none⟩) (cnt (DG M n x) n) c) (some (b,cs)) (cnt (DG M n x) n) b c cs (fun k=>.int .i64 (asc (DG M n x) n k:Int))) :
    SlAt 1 (.slice (some ⟨b,0,none⟩) (sC M n (cnt (BW M n) x)) c) (some (b,cs)) (sC M n (cnt (BW M n) x)) b c cs (fun k=>.int .i64 (eI M n (cnt (BW M n) x) k)):=by
  rw [(Fh hx hr).1];exact h.congr fun k _=>congrArg (fun q:Nat=>Value.int .i64 (q:Int)) ((Fh hx hr).2 k).symm
theorem J5 (n:Nat)(M:Nat->Nat->Nat)(w:World)(hn0:0<n)(hn:n<=6)(hB:∀ i j,M i j<=255)(hG:TabP n M) :
    CallsR Try.prog 37 #[.agg (AB (n:Int) M)] w (fun v w'=>SSOutR w w' (nC M n) (sC M n) (eI M n) v):=by
  refine AQ [.agg (AB (n:Int) M)] Try.func37 rfl Try.ntmps37 rfl fun a O=>?_;have J:AR w w [none,none,none] []:=MemX.start w 3;change Fr 25 a [(0,.agg (AB (n:Int) M))] at O;refine sr<|Aj O (Aw 0 J O rfl) rfl ?_;rintro _ w' a ⟨b1,rfl,J,-⟩ O;change AR _ _ [some (b1,AB (n:Int) M),_,_] [] at J;refine ag O rfl rfl fun a O=>ns<|ag O rfl rfl fun a O=>nt<|sq<|sr<|st O (AC AV O rfl) rfl fun a O=>st O (AM AL O rfl (J.row 0 rfl) (Au (by omega))) rfl fun a O=>mv O rfl rfl fun a O=>nt<|wp_block ?_;change AR _ _ [_,_,_] [] at J;refine Ag (fun (kk:Nat) a w'=>kk<=n/\∃ (D2:Al),∃ (be2:Nat->Nat),∃ (ka2:Nat->Nat),∃ (CC2:Nat->Array Value),(RowsC D2 (cnt (BW M n) kk) be2 CC2/\(∀ i,i<cnt (BW M n) kk->SlAt 1 (.slice (some ⟨be2 i,0,none⟩) (sC M n i) (ka2 i)) (some (be2 i,CC2 i)) (sC M n i) (be2 i) (ka2 i) (CC2 i) (fun q=>.int .i64 (eI M n i q)))/\∀ i,i<cnt (BW M n) kk->w.heap.size<=be2 i)/\∃ (u3_1:Value) (e3_1:Option (Nat×Array Value)),Sl 1 u3_1 e3_1 (cnt (BW M n) kk) (fun i=>.slice (some ⟨be2 i,0,none⟩) (sC M n i) (ka2 i))/\Fr 25 a [(1,ptr b1 (0)),(2,.slice none 0 0),(7,.int .i64 (n:Int)),(8,.int .i64 (kk:Int)),(3,u3_1)]/\AR w w' [some (b1,AB (n:Int) M),none,e3_1] D2) (fun kk=>n - kk) 0 ?_ ?_
  . refine ⟨by omega,[],fun _=>0,fun _=>0,fun _=>#[],⟨RowsC.none,fun i hi=>absurd hi (Nat.not_lt_zero _),fun i hi=>absurd hi (Nat.not_lt_zero _)⟩,(.slice none 0 0),(none),(Sl.nil 1 _),O.sub _ (by repeat' constructor),?_⟩
    exact J
  clear O J;rintro gx a w' ⟨hgx,D2,be2,ka2,CC2,hH,u3_1,e3_1,hO,O,J⟩;have hpos:=J4 hn0 hG (x:=gx);have hcl:=cnt_le (S:=BW M n) gx;refine sr<|st O (Ak O rfl rfl) rfl fun a O=>nt<|sq<|AI O rfl (fun h2=>?_) (fun h2=>?_)
  . refine wp_skip ?_
    refine tN<|sq<|wp_block<|sr<|mv O rfl rfl fun a O=>ag O rfl rfl fun a O=>ns<|st O (AF AK O rfl (J.row 0 rfl) (by simp only [AT,AA]<;>omega) (whole (by simp only [AT,AA]))) rfl fun a O=>mv O rfl rfl fun a O=>?_;have hgn:gx<n:=by omega
    refine Aj O (AO Try.call54 O (.cons rfl (.cons rfl .nil)) (Hj n M gx _ hn0 hn hB hG hgn)) rfl ?_;rintro _ w' a ⟨hx,bR,cR,csR,rfl,hgR,hbR,hsR⟩ O;have hgw:=Nat.le_trans J.bel.size hgR;have hnb:=fun i hi=>new_ne J hgR (hH.1.mem i hi);have J:=J.addD (D':=[(bR,csR)]) hx (fun b cs hm=>by simp only [List.mem_singleton,Prod.mk.injEq] at hm;obtain ⟨rfl,rfl⟩:=hm;exact ⟨hgR,hbR⟩);have hmR:(bR,csR)∈([(bR,csR)]++D2:Al):=by simp
    change AR w w' [some (b1,AB (n:Int) M),none,e3_1] ([(bR,csR)]++D2) at J;refine ag O rfl rfl fun a O=>ns<|mv O rfl rfl fun a O=>st O (AJ (i:=0) An O rfl rfl rfl (by omega)) rfl fun a O=>st O (AM AL O rfl (J.fzm hmR) (hsR.get1 (0) (by omega))) rfl fun a O=>mv O rfl rfl fun a O=>st O (Ao O rfl rfl) rfl fun a O=>nt<|AI O rfl (fun h3=>?_) (fun h3=>?_)
    . refine wp_region_lit ?_
      refine mv O rfl rfl fun a O=>mv O rfl rfl fun a O=>Aj O (BK 1 J O (C2 O rfl) (FY _ _ _)) rfl ?_;rintro _ w' a ⟨b4,rfl,J,-⟩ O;change AR _ _ [_,some (b4,#[.slice (some ⟨bR,0,none⟩) (cnt (DG M n gx) n) (cR)]),_] _ at J;refine Aj O (B5 (k:=2) (m:=1) (g:=fun _=>.slice (some ⟨bR,0,none⟩) (cnt (DG M n gx) n) (cR)) E6 rfl (by decide) J rfl O rfl rfl hO (fun i hi=>by rw [show i=0 by omega];exact (J.row 1 rfl).cell 0) (fun _ _=>rfl) (by decide) (by unfold maxLen;omega) (by omega)) rfl ?_;rintro u5 w' a ⟨e6,J,hs7⟩ O;change AR w w' [some (b1,AB (n:Int) M),some (b4,#[.slice (some ⟨bR,0,none⟩) (cnt (DG M n gx) n) (cR)]),e6] ([(bR,csR)]++D2) at J;refine ag O rfl rfl fun a O=>wpList_nil<|iN<|tN<|wp_region_lit<|st O (Ac O rfl rfl (AN (gx) (1) (by omega))) rfl fun a O=>mv O rfl rfl fun a O=>wpList_nil<|tN ?_;have hJ:=(Gn hn0 hn hG hgn).1 (by omega);have hC:=(hH.1.more (D':=[(bR,csR)]++D2) (fun x hx=>List.mem_append_right _ hx)).snoc hmR hnb;have hrs:=QK (P:=fun i b c cs=>SlAt 1 (.slice (some ⟨b,0,none⟩) (sC M n i) c) (some (b,cs)) (sC M n i) b c cs (fun q=>.int .i64 (eI M n i q))) hH.2.1 (PG hgn hJ hsR);have hgs:=QK (P:=fun _ b _ _=>w.heap.size<=b) (κ:=ka2) (c:=cR) (cs:=csR) (C:=CC2) hH.2.2 hgw;have J:=J.drop 1;refine ⟨gx+1,⟨by omega,([(bR,csR)]++D2),up be2 (cnt (BW M n) gx) bR,up ka2 (cnt (BW M n) gx) cR,upE CC2 (cnt (BW M n) gx) csR,(by rw [Cf hJ];exact ⟨hC,hrs,hgs⟩),(u5),(e6),(by first | (rw [Cf hJ];exact Sl.snocL (Fh hgn hJ).1 hs7) | (rw [C6 hJ];exact hs7)),O.sub _ (by repeat' constructor),?_⟩,by omega⟩;exact J
    refine wp_skip<|iN<|tN<|wp_region_lit<|st O (Ac O rfl rfl (AN (gx) (1) (by omega))) rfl fun a O=>mv O rfl rfl fun a O=>wpList_nil<|tN ?_;have hJ:¬ BW M n gx=true:=fun hq=>absurd ((Gn hn0 hn hG hgn).2 hq) (by omega);have hC:=hH.1.more (D':=[(bR,csR)]++D2) (fun x hx=>List.mem_append_right _ hx);refine ⟨gx+1,⟨by omega,([(bR,csR)]++D2),be2,ka2,CC2,(by rw [C6 hJ];exact ⟨hC,hH.2⟩),(u3_1),(e3_1),(by first | (rw [Cf hJ];exact Sl.snocL (Fh hgn hJ).1 hO) | (rw [C6 hJ];exact hO)),O.sub _ (by repeat' constructor),?_⟩,by omega⟩;exact J
  obtain rfl:n=gx:=by omega
  refine wp_exit<|tX<|tX<|AW<|tN<|sr<|mv O rfl rfl fun a O=>ag O rfl rfl fun a O=>nt<|wp_ret<|Ap rfl O.defers (AE O rfl) ⟨_,rfl,J.below,?_⟩;obtain ⟨bO,cO,csO,hvO,heO,hsO⟩:=hO.pos (Jh hn0);subst heO;exact SSOutR.of (q:=2) J hH.1 rfl hsO hH.2.2 hH.2.1
theorem Ka:∀ w,(Instr.build 84 #[]).run Try.prog w = .ok (.agg (BH 6 (fun _=>.bool (false)))) w:=by intros;kernel_rfl
theorem FZ:∀ w,(Instr.buildSlice 28 0 #[]).run Try.prog w = .ok (.slice (some ⟨w.heap.size,0,none⟩) 0 0) (w.alloc (.cells #[] 39)):=by intros;kernel_rfl
theorem Hv:F7 Try.prog 84=some (.agg (BH 6 (fun _=>.bool (false)))):=by kernel_rfl
theorem KX:DJ Try.prog 84=some 6:=by kernel_rfl
theorem EV:Hd Try.prog 84=some (6,1):=by kernel_rfl
theorem FX:ED Try.prog 4=true:=by kernel_rfl
theorem Kc:∀ (x0 x1 x2:Int) (w:World),(Instr.buildSlice 39 3 #[(0,.int .i64 x0),(1,.int .i64 x1),(2,.int .i64 x2)]).run Try.prog w = .ok (.slice (some ⟨w.heap.size,0,none⟩) 3 3) (w.alloc (.cells #[.int .i64 x0,.int .i64 x1,.int .i64 x2] 2)):=by intros;kernel_rfl
def Dq (f:Nat->Bool):Array Value:=BH 6 (fun c=>.bool (f c))
def Je (f:Nat->Bool) (j c:Nat):Bool:=if c=j then true else f c
theorem Bo (f:Nat->Bool):(Dq f).size=6:=BZ _ _
theorem LB {f:Nat->Bool}{o:Nat}(j:Nat)(ho:o=j)(h:j<6):(Dq f)[o]? = some (.bool (decide (f j=true))):=by subst ho;unfold Dq;rw [B3 h];simp
theorem LA {f:Nat->Bool}{o:Nat}(j:Nat)(ho:o=j):(Dq f).setIfInBounds o (.bool true)=Dq (Je f j):=Ce fun c hc=>by
  subst ho
  unfold Je
  by_cases e:c=o
  . rw [if_pos e,if_pos e]
  . rw [if_neg e,if_neg e]
theorem CT {f g:Nat->Bool}(h:∀ c,c<6->f c=g c):Dq f=Dq g:=BL fun c hc=>by rw [h c hc]
theorem IY {g:Nat->Bool}(h:∀ c,g c=false):BH 6 (fun _=>.bool false)=Dq g:=BL fun c hc=>by rw [h c]
section
variable {n : Nat} {M : Nat -> Nat -> Nat}
def Eb (M:Nat->Nat->Nat) (n i c:Nat):Bool:=(List.range i).any fun y=>BW M n y && DG M n y c
def ownB (M:Nat->Nat->Nat) (n i k c:Nat):Bool:=(List.range k).any fun y=>decide (cj M n i y=c)
def Fx (M:Nat->Nat->Nat) (n i j c:Nat):Bool:=Eb M n i c || (decide (c<j) && DG M n i c)
theorem Oa {i c:Nat}:Eb M n i c=true↔∃ y,y<i/\BW M n y=true/\DG M n y c=true:=by
  unfold Eb
  rw [List.any_eq_true]
  constructor
  . rintro ⟨y,h1,h2⟩;rw [Bool.and_eq_true] at h2;exact ⟨y,by simpa using h1,h2⟩
  . rintro ⟨y,h1,h2⟩;exact ⟨y,by simpa using h1,by rw [Bool.and_eq_true];exact h2⟩
theorem IZ {k:Nat}{p:Nat->Bool}:(List.range (k+1)).any p=((List.range k).any p || p k):=by rw [List.range_succ,List.any_append];simp
theorem OO {i k x c:Nat}(e:x=cj M n i k):Je (ownB M n i k) x c=ownB M n i (k+1) c:=by
  unfold Je ownB
  rw [IZ]
  by_cases h:c=x
  . rw [if_pos h,decide_eq_true (show cj M n i k=c by rw [h,e]),Bool.or_true]
  . rw [if_neg h,decide_eq_false (show ¬ cj M n i k=c from fun q=>h (by rw [e,q])),Bool.or_false]
theorem MZ {i j c:Nat}(h:DG M n i j=true):Je (Fx M n i j) j c=Fx M n i (j+1) c:=by
  unfold Je Fx
  by_cases e:c=j
  . rw [if_pos e,decide_eq_true (show c<j+1 by omega),e,h];simp
  . rw [if_neg e]
    have:decide (c<j+1)=decide (c<j):=decide_eq_decide.2 (by omega);rw [this]
theorem OZ {i j c:Nat}(h:¬ DG M n i j=true):Fx M n i j c=Fx M n i (j+1) c:=by
  unfold Fx
  by_cases e:c=j
  . rw [e,Bool.eq_false_iff.2 h];simp
  . have:decide (c<j+1)=decide (c<j):=decide_eq_decide.2 (by omega)
    rw [this]
theorem RJ {i c:Nat}:Eb M n i c=Fx M n i 0 c:=by unfold Fx;simp
theorem QP {i c:Nat}(hn:n<=6)(hG:TabP n M)(hi:i<n)(hr:BW M n i=true):Fx M n i n c=Eb M n (i+1) c:=by
  unfold Fx
  have e:Eb M n (i+1) c=(Eb M n i c || DG M n i c):=by unfold Eb;rw [IZ,hr,Bool.true_and]
  rw [e]
  by_cases h:DG M n i c=true
  . obtain ⟨y,hy,he⟩:=inC_iff.1 h
    rw [h,decide_eq_true (show c<n by rw [← he];exact Qa hn hG hi hy)];simp
  . rw [Bool.eq_false_iff.2 h];simp
theorem Ks {i c:Nat}(hr:¬ BW M n i=true):Eb M n i c=Eb M n (i+1) c:=by
  unfold Eb;rw [IZ,Bool.eq_false_iff.2 hr];simp
theorem Mr {i j k:Nat}(hin:DG M n i j=true)(hj:j<n)(_hk:k<(cnt (DG M n i) j+1)*1):(if k<cnt (DG M n i) j*1 then (fun k=>Value.int .i64 (asc (DG M n i) n k:Int)) k else (fun _=>Value.int .i64 (j:Int)) (k - cnt (DG M n i) j*1)) = .int .i64 (asc (DG M n i) n k:Int):=by
  by_cases e:k<cnt (DG M n i) j*1
  . rw [if_pos e]
  . rw [if_neg e,show k=cnt (DG M n i) j by omega,EU hin hj]
theorem Kn (hn0:0<n)(hn:n<=6)(hG:TabP n M){i:Nat}(hi:i<n):Eb M n i i=true↔¬ BW M n i=true:=by
  rw [MS hn0 hn hG hi,Oa,Decidable.not_not]
end
theorem Ij (n:Nat)(M:Nat->Nat->Nat)(w:World)(hn0:0<n)(hn:n<=6)(hB:∀ i j,M i j<=255)(hG:TabP n M) :
    CallsR Try.prog 39 #[.agg (AB (n:Int) M)] w (fun v w'=>SSOutR w w' (nC M n) (sC M n) (eI M n) v):=by
  refine AQ [.agg (AB (n:Int) M)] Try.func39 rfl Try.ntmps39 rfl fun a O=>?_;have J:AR w w [none,none,none,none,none,none,none,none] []:=MemX.start w 8;change Fr 58 a [(0,.agg (AB (n:Int) M))] at O;refine sr<|Aj O (Aw 0 J O rfl) rfl ?_;rintro _ w' a ⟨b1,rfl,J,-⟩ O;refine ag O rfl rfl fun a O=>ns<|st O (CC Ka) rfl fun a O=>Aj O (BK 1 J O rfl FZ) rfl ?_;rintro _ w' a ⟨b2,rfl,J,-⟩ O;refine Aj O (Ax 2 J Hv) rfl ?_;rintro _ w' a ⟨b3,rfl,J,-⟩ O;change AR _ _ [some (b1,AB (n:Int) M),some (b2,#[]),some (b3,BH 6 (fun _=>.bool (false))),_,_,_,_,_] [] at J;refine Bu O (AX 2 J rfl KX O rfl rfl (by first | exact Bp | exact cells_one | (refine Dj fun _ _=>?_;first | rfl | (split<;>rfl))) (by simp only [AT,AA,Bo]) (by simp only [AT,AA,Bo]<;>omega) (AP _ _ (by simp only [AT,AA,Bo]))) ?_;intro _ w' a J O;refine ag O rfl rfl fun a O=>nt<|sq<|sr<|ag O rfl rfl fun a O=>nt<|wp_block ?_;change AR _ _ [_,_,some (b3,BH 6 (fun _=>.bool (false))),_,_,_,_,_] [] at J;refine Ag (fun (kk:Nat) a w'=>kk<=n/\∃ (D2:Al),∃ (be2:Nat->Nat),∃ (ka2:Nat->Nat),∃ (CC2:Nat->Array Value),(RowsC D2 (cnt (BW M n) kk) be2 CC2/\(∀ i,i<cnt (BW M n) kk->SlAt 1 (.slice (some ⟨be2 i,0,none⟩) (sC M n i) (ka2 i)) (some (be2 i,CC2 i)) (sC M n i) (be2 i) (ka2 i) (CC2 i) (fun q=>.int .i64 (eI M n i q)))/\∀ i,i<cnt (BW M n) kk->w.heap.size<=be2 i)/\∃ (u4_1:Value) (e4_1:Option (Nat×Array Value)),Sl 1 u4_1 e4_1 (cnt (BW M n) kk) (fun i=>.slice (some ⟨be2 i,0,none⟩) (sC M n i) (ka2 i))/\Fr 58 a [(1,ptr b1 (0)),(2,.slice none 0 0),(3,ptr b3 (0)),(5,.int .i64 (kk:Int)),(4,u4_1)]/\AR w w' [some (b1,AB (n:Int) M),e4_1,some (b3,Dq (Eb M n kk)),none,none,none,none,none] D2) (fun kk=>n - kk) 0 ?_ ?_
  . refine ⟨by omega,[],fun _=>0,fun _=>0,fun _=>#[],⟨RowsC.none,fun i hi=>absurd hi (Nat.not_lt_zero _),fun i hi=>absurd hi (Nat.not_lt_zero _)⟩,(.slice (some ⟨b2,0,none⟩) 0 0),(some (b2,#[])),(Sl.empty 1 _ _),O.sub _ (by repeat' constructor),?_⟩
    exact J.rowc 2 rfl (IY fun c=>rfl)
  clear O J;rintro gi a w' ⟨hgi,D2,be2,ka2,CC2,hH,u4_1,e4_1,hO,O,J⟩;have hcl:=cnt_le (S:=BW M n) gi;refine sq<|sr<|mv O rfl rfl fun a O=>st O (AC AV O rfl) rfl fun a O=>st O (AM AL O rfl (J.row 0 rfl) (Au (by omega))) rfl fun a O=>st O (Ak O rfl rfl) rfl fun a O=>nt<|AI O rfl (fun h4=>?_) (fun h4=>?_)
  . refine wp_skip ?_
    refine tN<|sq<|wp_block<|sq<|sr<|mv O rfl rfl fun a O=>st O (AH EV O rfl rfl rfl (by omega)) rfl fun a O=>st O (AM FX O rfl (J.row 2 rfl) (LB (gi) (by omega) (by omega))) rfl fun a O=>nt<|AI O rfl (fun h5=>?_) (fun h5=>?_)
    . refine wp_exit ?_
      refine tX<|AW<|tN<|wp_region_lit<|mv O rfl rfl fun a O=>st O (Ac O rfl rfl (AN (gi) (1) (by omega))) rfl fun a O=>ag O rfl rfl fun a O=>wpList_nil<|tN ?_;have hJ:¬ BW M n gi=true:=(Kn hn0 hn hG (by omega)).1 (by assumption);refine ⟨gi+1,⟨by omega,D2,be2,ka2,CC2,(by rw [C6 hJ];exact hH),(u4_1),(e4_1),(by first | (rw [Cf hJ];exact Sl.snocL (Fh hgn hJ).1 hO) | (rw [C6 hJ];exact hO)),O.sub _ (by repeat' constructor),?_⟩,by omega⟩
      first | exact J.rowc 2 rfl (CT fun c _=>QP hn hG hgn hJ) | exact J.rowc 2 rfl (CT fun c _=>Ks hJ)
    refine wp_skip<|tN<|sr<|st O (CC Ka) rfl fun a O=>Aj O (Ax 3 J Hv) rfl ?_;rintro _ w' a ⟨b6,rfl,J,-⟩ O;change AR _ _ [_,_,_,some (b6,BH 6 (fun _=>.bool (false))),_,_,_,_] _ at J;refine Bu O (AX 3 J rfl KX O rfl rfl (by first | exact Bp | exact cells_one | (refine Dj fun _ _=>?_;first | rfl | (split<;>rfl))) (by simp only [AT,AA,Bo]) (by simp only [AT,AA,Bo]<;>omega) (AP _ _ (by simp only [AT,AA,Bo]))) ?_;intro _ w' a J O;refine nt<|sq<|sr<|ag O rfl rfl fun a O=>nt<|wp_block ?_;have hgn:gi<n:=by omega
    have hJ:BW M n gi=true:=Decidable.by_contra fun hq=>(by assumption:¬ Eb M n gi gi=true) ((Kn hn0 hn hG hgn).2 hq);change AR w _ [some (b1,AB (n:Int) M),e4_1,some (b3,Dq (Eb M n gi)),some (b6,BH 6 (fun _=>.bool (false))),none,none,none,none] D2 at J;refine Ag (fun (kk:Nat) a w'=>kk<=n/\(True)/\Fr 58 a [(1,ptr b1 (0)),(2,.slice none 0 0),(3,ptr b3 (0)),(5,.int .i64 (gi:Int)),(4,u4_1),(12,.int .i64 (gi:Int)),(13,ptr b1 (0+0)),(14,.int .i64 (n:Int)),(15,.bool (decide (((gi:Int):Int)<(n:Int)))),(18,.int .i64 (gi:Int)),(19,ptr b3 (0+(gi)*1)),(20,.bool (decide ((Eb M n gi) (gi)=true))),(21,.agg (BH 6 (fun _=>.bool (false)))),(6,ptr b6 (0)),(7,.int .i64 (kk:Int))]/\AR w w' [some (b1,AB (n:Int) M),e4_1,some (b3,Dq (Eb M n gi)),some (b6,Dq (ownB M n gi kk)),none,none,none,none] D2) (fun kk=>n - kk) 0 ?_ ?_
    . refine ⟨by omega,trivial,O.sub _ (by repeat' constructor),?_⟩
      exact J.rowc 3 rfl (IY fun c=>rfl)
    clear O J;rintro gx a w' ⟨hgx,hinv2,O,J⟩;have x1:gx<n->M 0 gx=gx:=fun q=>(hG.2.1 gx q).1;have x1b:gx<n->M (0) (gx)<n:=fun q=>by rw [x1 q];exact q
    have x2:gx<n->lead (M gx) n<n:=fun q=>hG.inv q;have x3:gx<n->M (M (0) (gx)) (gi)<n:=fun q=>hG.c hn (x1b q) hgn;have x4:gx<n->M (M (M (0) (gx)) (gi)) (lead (M (gx)) n)<n:=fun q=>hG.c hn (x3 q) (x2 q);have x5:gx<n->M (M (M (0) (gx)) (gi)) (lead (M (gx)) n)=cj M n gi gx:=fun q=>by rw [x1 q];rfl
    refine sq<|sr<|mv O rfl rfl fun a O=>st O (AC AV O rfl) rfl fun a O=>st O (AM AL O rfl (J.row 0 rfl) (Au (by omega))) rfl fun a O=>st O (Ak O rfl rfl) rfl fun a O=>nt<|AI O rfl (fun h7=>?_) (fun h7=>?_)
    . refine wp_skip ?_
      refine tN<|sq<|wp_block<|Bt 7 [4] [.val (.agg (AB (n:Int) M)),.val (.int .i64 (gx:Int)),.val (.int .i64 (gi:Int)),.val (.agg (AB (n:Int) M)),.val (.int .i64 (gx:Int)),.val (.int .i64 ((lead (M (gx)) n:Int))),.own 4 (#[.int .i64 (gx:Int),.int .i64 (gi:Int),.int .i64 ((lead (M (gx)) n:Int))]) (fun b=>.slice (some ⟨b,0,none⟩) 3 3)] Bb rfl O rfl J ⟨fun a w gG O hS hd=>by have J:=hS.mem rfl;exact AD hS rfl (AF AK O rfl (J.row 0 rfl) (by simp only [AT,AA,Bo]<;>omega) (whole (by simp only [AT,AA,Bo]))),fun a w gG O hS hd=>by exact BF hS rfl O rfl,fun a w gG O hS hd=>by exact BF hS rfl O rfl,fun a w gG O hS hd=>by have J:=hS.mem rfl;exact AD hS rfl (AF AK O rfl (J.row 0 rfl) (by simp only [AT,AA,Bo]<;>omega) (whole (by simp only [AT,AA,Bo]))),fun a w gG O hS hd=>by exact BF hS rfl O rfl,fun a w gG O hS hd=>by have O:=O.ext1 31 (hd 3 rfl rfl);have O:=O.ext1 32 (hd 4 rfl rfl);exact BT (by repeat constructor) hS rfl (AO Try.call57 O (.cons rfl (.cons rfl .nil)) (Ih n M (gx) _ hn0 hn hB hG (by omega))),fun a w gG O hS hd=>by have O:=O.ext1 29 (hd 1 rfl rfl);have O:=O.ext1 30 (hd 2 rfl rfl);have O:=O.ext1 33 (hd 5 rfl rfl);exact Ep (by repeat constructor) hS rfl rfl rfl rfl (BK (vs:=[(0,.int .i64 (gx:Int)),(1,.int .i64 (gi:Int)),(2,.int .i64 ((lead (M (gx)) n:Int)))]) 4 hS.1 O (Q5 O rfl rfl rfl) (fun w=>Kc _ _ _ w)),trivial⟩ ?_;intro a w' L O hS hq;have O:=O.ext1 28 (hq 0 rfl rfl);have O:=O.ext1 29 (hq 1 rfl rfl);have O:=O.ext1 30 (hq 2 rfl rfl);have O:=O.ext1 31 (hq 3 rfl rfl);have O:=O.ext1 32 (hq 4 rfl rfl);have O:=O.ext1 33 (hq 5 rfl rfl);obtain ⟨J,hL⟩:=hS;obtain ⟨b8,hptr,hkk⟩:=hq 6 rfl rfl;have O:=O.ext1 34 hptr;have hL:=hL.take hkk;obtain rfl:=hL.eq;change AR w w' [some (b1,AB (n:Int) M),e4_1,some (b3,Dq (Eb M n gi)),some (b6,Dq (ownB M n gi gx)),some (b8,#[.int .i64 (gx:Int),.int .i64 (gi:Int),.int .i64 ((lead (M (gx)) n:Int))]),none,none,none] D2 at J;change wpList Try.prog _ _ [_,_,_] _ _;refine Aj O (AO Try.call56 O (.cons rfl (.cons rfl .nil)) ((CallsR.val (Kv n M b8 3 _ (l4 (gx) (gi) (lead (M (gx)) n) (0)) _ hn0 hn hB hG (J.row 4 rfl) Ob (by omega) (Qs (by omega) (by omega) (by omega))) (congrArg (Value.int .i64) (congrArg Nat.cast (show foldM M (l4 (gx) (gi) (lead (M (gx)) n) (0)) 3=M (M (M (0) (gx)) (gi)) (lead (M (gx)) n) from rfl)))))) rfl ?_;rintro _ w' a ⟨hx,rfl⟩ O;have J:=J.ext hx;refine st O (AH EV O rfl rfl rfl (by omega)) rfl fun a O=>Bu O (BE 3 J rfl FX O rfl rfl rfl (by first | omega | (simp only [AT,AA,Bo]<;>omega) | (simp only [Array.size_setIfInBounds];omega) | simp)) ?_;intro _ w' a J O;rw [(LA (M (M (M (0) (gx)) (gi)) (lead (M (gx)) n)) (by omega))] at J;change AR w w' [some (b1,AB (n:Int) M),e4_1,some (b3,Dq (Eb M n gi)),some (b6,Dq (Je (ownB M n gi gx) (M (M (M (0) (gx)) (gi)) (lead (M (gx)) n)))),some (b8,#[.int .i64 (gx:Int),.int .i64 (gi:Int),.int .i64 ((lead (M (gx)) n:Int))]),none,none,none] D2 at J;refine wpList_nil<|iN<|tN<|wp_region_lit<|mv O rfl rfl fun a O=>st O (Ac O rfl rfl (AN (gx) (1) (by omega))) rfl fun a O=>ag O rfl rfl fun a O=>wpList_nil<|tN ?_;have J:=J.drop 4;refine ⟨gx+1,⟨by omega,trivial,O.sub _ (by repeat' constructor),?_⟩,by omega⟩;exact J.rowc 3 rfl (CT fun c _=>OO (x5 (by omega)))
    obtain rfl:n=gx:=by omega
    refine wp_exit<|tX<|tX<|AW<|tN<|sr<|Aj O (BK 5 J O rfl Dv) rfl ?_;rintro _ w' a ⟨b9,rfl,J,-⟩ O;refine ag O rfl rfl fun a O=>nt<|sq<|sr<|ag O rfl rfl fun a O=>nt<|wp_block ?_;change AR _ _ [_,_,_,_,_,some (b9,#[]),_,_] _ at J;refine Ag (fun (kk:Nat) a w'=>kk<=n/\(True)/\∃ (u8_3:Value) (e8_3:Option (Nat×Array Value)),Sl 1 u8_3 e8_3 (cnt (DG M n gi) kk) (fun k=>.int .i64 (asc (DG M n gi) n k:Int))/\Fr 58 a [(1,ptr b1 (0)),(2,.slice none 0 0),(3,ptr b3 (0)),(5,.int .i64 (gi:Int)),(4,u4_1),(12,.int .i64 (gi:Int)),(13,ptr b1 (0+0)),(14,.int .i64 (n:Int)),(15,.bool (decide (((gi:Int):Int)<(n:Int)))),(18,.int .i64 (gi:Int)),(19,ptr b3 (0+(gi)*1)),(20,.bool (decide ((Eb M n gi) (gi)=true))),(21,.agg (BH 6 (fun _=>.bool (false)))),(6,ptr b6 (0)),(7,.int .i64 (n:Int)),(22,.int .i64 (n:Int)),(23,ptr b1 (0+0)),(24,.int .i64 (n:Int)),(25,.bool (decide (((n:Int):Int)<(n:Int)))),(37,.slice (some ⟨b9,0,none⟩) 0 0),(9,.int .i64 (kk:Int)),(8,u8_3)]/\AR w w' [some (b1,AB (n:Int) M),e4_1,some (b3,Dq (Fx M n gi kk)),some (b6,Dq (ownB M n gi n)),none,e8_3,none,none] D2) (fun kk=>n - kk) 0 ?_ ?_
    . refine ⟨by omega,trivial,(.slice (some ⟨b9,0,none⟩) 0 0),(some (b9,#[])),(Sl.empty 1 _ _),O.sub _ (by repeat' constructor),?_⟩
      exact J.rowc 2 rfl (CT fun c _=>RJ)
    clear O J;rintro gj a w' ⟨hgj,hinv3,u8_3,e8_3,hrow,O,J⟩;have hcl2:=cnt_le (S:=DG M n gi) gj;refine sq<|sr<|mv O rfl rfl fun a O=>st O (AC AV O rfl) rfl fun a O=>st O (AM AL O rfl (J.row 0 rfl) (Au (by omega))) rfl fun a O=>st O (Ak O rfl rfl) rfl fun a O=>nt<|AI O rfl (fun h10=>?_) (fun h10=>?_)
    . refine wp_skip ?_
      refine tN<|sq<|wp_block<|sr<|mv O rfl rfl fun a O=>st O (AH EV O rfl rfl rfl (by omega)) rfl fun a O=>st O (AM FX O rfl (J.row 3 rfl) (LB (gj) (by omega) (by omega))) rfl fun a O=>nt<|AI O rfl (fun h11=>?_) (fun h11=>?_)
      . refine sq ?_
        refine wp_region_lit<|mv O rfl rfl fun a O=>st O (AH EV O rfl rfl rfl (by omega)) rfl fun a O=>Bu O (BE 2 J rfl FX O rfl rfl rfl (by first | omega | (simp only [AT,AA,Bo]<;>omega) | (simp only [Array.size_setIfInBounds];omega) | simp)) ?_;intro _ w' a J O;rw [(LA (gj) (by omega))] at J;refine nt<|wp_region_lit<|mv O rfl rfl fun a O=>mv O rfl rfl fun a O=>Aj O (BK 6 J O (C2 O rfl) (DH _)) rfl ?_;rintro _ w' a ⟨b12,rfl,J,-⟩ O;change AR w w' [some (b1,AB (n:Int) M),e4_1,some (b3,Dq (Je (Fx M n gi gj) (gj))),some (b6,Dq (ownB M n gi n)),none,e8_3,some (b12,#[.int .i64 (gj:Int)]),none] D2 at J;refine Aj O (B5 (k:=5) (m:=1) (g:=fun _=>.int .i64 (gj:Int)) DN rfl (by decide) J rfl O rfl rfl hrow (fun i hi=>by rw [show i=0 by omega];exact (J.row 6 rfl).cell 0) (fun _ _=>rfl) (by decide) (by unfold maxLen;omega) (by omega)) rfl ?_;rintro u13 w' a ⟨e14,J,hs15⟩ O;change AR w w' [some (b1,AB (n:Int) M),e4_1,some (b3,Dq (Je (Fx M n gi gj) (gj))),some (b6,Dq (ownB M n gi n)),none,e14,some (b12,#[.int .i64 (gj:Int)]),none] D2 at J;refine ag O rfl rfl fun a O=>wpList_nil<|iN<|tN<|wp_region_lit<|mv O rfl rfl fun a O=>st O (Ac O rfl rfl (AN (gj) (1) (by omega))) rfl fun a O=>ag O rfl rfl fun a O=>wpList_nil<|tN ?_;have hin:DG M n gi gj=true:=by show ownB M n gi n gj=true;assumption
        have J:=J.drop 6;refine ⟨gj+1,⟨by omega,trivial,(u13),(e14),(by first | (rw [Cf hin];exact hs15.congr (fun k hk=>Mr hin (by omega) hk)) | (rw [C6 hin];exact hs15)),O.sub _ (by repeat' constructor),?_⟩,by omega⟩
        first | exact J.rowc 2 rfl (CT fun c _=>MZ hin) | exact J.rowc 2 rfl (CT fun c _=>OZ hin)
      refine wp_skip<|iN<|tN<|wp_region_lit<|mv O rfl rfl fun a O=>st O (Ac O rfl rfl (AN (gj) (1) (by omega))) rfl fun a O=>ag O rfl rfl fun a O=>wpList_nil<|tN ?_;have hin:¬ DG M n gi gj=true:=by show ¬ ownB M n gi n gj=true;assumption
      refine ⟨gj+1,⟨by omega,trivial,(u8_3),(e8_3),(by first | (rw [Cf hin];exact hrow.congr (fun k hk=>Mr hin (by omega) hk)) | (rw [C6 hin];exact hrow)),O.sub _ (by repeat' constructor),?_⟩,by omega⟩
      first | exact J.rowc 2 rfl (CT fun c _=>MZ hin) | exact J.rowc 2 rfl (CT fun c _=>OZ hin)
    obtain rfl:n=gj:=by omega
    obtain ⟨bR,cR,csR,hvR,heR,hsR⟩:=hrow.pos (J4 hn0 hG hgn);subst hvR;subst heR;refine wp_exit<|tX<|tX<|AW<|tN<|wp_region_lit<|mv O rfl rfl fun a O=>mv O rfl rfl fun a O=>Aj O (BK 7 J O (C2 O rfl) (FY _ _ _)) rfl ?_;rintro _ w' a ⟨b16,rfl,J,-⟩ O;change AR w w' [some (b1,AB (n:Int) M),e4_1,some (b3,Dq (Fx M n gi n)),some (b6,Dq (ownB M n gi n)),none,some (bR,csR),none,some (b16,#[.slice (some ⟨bR,0,none⟩) (cnt (DG M n gi) n) (cR)])] D2 at J;refine Aj O (B5 (k:=1) (m:=1) (g:=fun _=>.slice (some ⟨bR,0,none⟩) (cnt (DG M n gi) n) (cR)) E6 rfl (by decide) J rfl O rfl rfl hO (fun i hi=>by rw [show i=0 by omega];exact (J.row 7 rfl).cell 0) (fun _ _=>rfl) (by decide) (by unfold maxLen;omega) (by omega)) rfl ?_;rintro u17 w' a ⟨e18,J,hs19⟩ O;change AR w w' [some (b1,AB (n:Int) M),e18,some (b3,Dq (Fx M n gi n)),some (b6,Dq (ownB M n gi n)),none,some (bR,csR),none,some (b16,#[.slice (some ⟨bR,0,none⟩) (cnt (DG M n gi) n) (cR)])] D2 at J;refine ag O rfl rfl fun a O=>wpList_nil<|iN<|tN<|wp_region_lit<|mv O rfl rfl fun a O=>st O (Ac O rfl rfl (AN (gi) (1) (by omega))) rfl fun a O=>ag O rfl rfl fun a O=>wpList_nil<|tN ?_;have hgw:=J.ge 5 rfl;have hnb:=fun i hi=>(J.froz _ _ (hH.1.mem i hi)).2 5 bR _ rfl;have J:=J.freeze 5 rfl;have hC:=(hH.1.more (D':=(bR,csR)::D2) (fun x hx=>List.mem_cons_of_mem _ hx)).snoc (List.mem_cons_self ..) hnb;have hrs:=QK (P:=fun i b c cs=>SlAt 1 (.slice (some ⟨b,0,none⟩) (sC M n i) c) (some (b,cs)) (sC M n i) b c cs (fun q=>.int .i64 (eI M n i q))) hH.2.1 (PG hgn hJ hsR);have hgs:=QK (P:=fun _ b _ _=>w.heap.size<=b) (κ:=ka2) (c:=cR) (cs:=csR) (C:=CC2) hH.2.2 hgw;have J:=J.drop 3;have J:=J.drop 7;refine ⟨gi+1,⟨by omega,((bR,csR)::D2),up be2 (cnt (BW M n) gi) bR,up ka2 (cnt (BW M n) gi) cR,upE CC2 (cnt (BW M n) gi) csR,(by rw [Cf hJ];exact ⟨hC,hrs,hgs⟩),(u17),(e18),(by first | (rw [Cf hJ];exact Sl.snocL (Fh hgn hJ).1 hs19) | (rw [C6 hJ];exact hs19)),O.sub _ (by repeat' constructor),?_⟩,by omega⟩
    first | exact J.rowc 2 rfl (CT fun c _=>QP hn hG hgn hJ) | exact J.rowc 2 rfl (CT fun c _=>Ks hJ)
  obtain rfl:n=gi:=by omega
  refine wp_exit<|tX<|tX<|AW<|tN<|sr<|mv O rfl rfl fun a O=>ag O rfl rfl fun a O=>nt<|wp_ret<|Ap rfl O.defers (AE O rfl) ⟨_,rfl,J.below,?_⟩;obtain ⟨bO,cO,csO,hvO,heO,hsO⟩:=hO.pos (Jh hn0);subst heO;exact SSOutR.of (q:=1) J hH.1 rfl hsO hH.2.2 hH.2.1
theorem SSOutR.mono {w w1 w2:World}{m:Nat}{Ln:Nat->Nat}{F:Nat->Nat->Int}{u:Value}(h:SSOutR w1 w2 m Ln F u)(hs:w.heap.size<=w1.heap.size):SSOutR w w2 m Ln F u:=by
  obtain ⟨D,b,cap,cs,β,κ,C,h1,h2⟩:=h;exact ⟨D,b,cap,cs,β,κ,C,fun x ds hx=>⟨Nat.le_trans hs (h1 x ds hx).1,(h1 x ds hx).2⟩,h2⟩
section
variable {n : Nat} {M : Nat -> Nat -> Nat}
def R4 (E:Nat->Nat) (m a:Nat):Nat:=if (List.range m).any (fun x=>decide (E x=a))=true then 1 else 0
theorem Jb {f g:Nat->Nat}{k:Nat}(h:∀ i,i<k->f i=g i):sumTo f k=sumTo g k:=by
  induction k with
  | zero=>rfl
  | succ k ih=>simp only [sumTo];rw [ih (fun i hi=>h i (by omega)),h k (by omega)]
theorem LZ {F:Nat->Nat}{k e:Nat}(he:e<k):sumTo (fun a=>(if a=e then 1 else 0)*F a) k=F e:=by
  induction k with
  | zero=>omega
  | succ k ih =>
    simp only [sumTo]
    by_cases h:e=k
    . subst h
      have h0:sumTo (fun a=>(if a=e then 1 else 0)*F a) e=0:=by
        have:∀ m,m<=e->sumTo (fun a=>(if a=e then 1 else 0)*F a) m=0:=by
          intro m
          induction m with
          | zero=>intro _;rfl
          | succ m ih2=>intro hm;simp only [sumTo];rw [ih2 (by omega),if_neg (by omega)];omega
        exact this e (Nat.le_refl _)
      rw [h0,if_pos rfl];omega
    . rw [ih (by omega),if_neg (fun q=>h q.symm)];omega
def dA (M:Nat->Nat->Nat) (n k a b:Nat):Nat:=if M a b=eC M n k 0 then 1 else 0
def cA (M:Nat->Nat->Nat) (n i j k:Nat):Nat:=sumTo (fun x=>sumTo (fun y=>dA M n k (eC M n i x) (eC M n j y)) (sC M n j)) (sC M n i)
def TY (M:Nat->Nat->Nat) (n i j k x y:Nat):Nat:=sumTo (fun x=>sumTo (fun y=>dA M n k (eC M n i x) (eC M n j y)) (sC M n j)) x+sumTo (fun y=>dA M n k (eC M n i x) (eC M n j y)) y
def TF (p n:Nat) (M:Nat->Nat->Nat) (a b c i j k:Nat):Nat:=if j<nC M n/\k<nC M n/\(i<a\/(i=a/\(j<b\/(j=b/\k<c)))) then cA M n i j k%p else 0
end
def Sg (M:Nat->Nat->Nat) (i c:Nat):Nat:=sumTo (fun x=>if M x x=c then 1 else 0) i
def TH (M:Nat->Nat->Nat) (n p c:Nat):Nat:=if c<nC M n then Sg M n (eC M n c 0)%p else 0
end Go.Proofs.Ytgioobkkkicfeaa
