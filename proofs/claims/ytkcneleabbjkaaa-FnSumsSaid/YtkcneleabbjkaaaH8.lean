import Derived.Test.YtkcneleabbjkaaaH5
set_option linter.unusedVariables false
set_option linter.unusedSimpArgs false
namespace Go.Proofs.Ytkcneleabbjkaaa
open Go Go.RowKit Go.Sw Go.Ech
theorem Fc:Nk Try.prog 98=some (22,some (.slice none 0 0),1,24):=by kernel_rfl
theorem LL:∀ w,(Instr.makeSlice 22 (.int .i64 ((7:Nat):Int)) (.int .i64 ((7:Nat):Int))).run Try.prog w = .ok (.slice (some ⟨w.heap.size,0,none⟩) 7 7) (w.alloc (.cells (A1 7 (fun _=>.int .u8 (0))) 5)):=by intros;kernel_rfl
def Gi (p n:Nat) (T:Nat->Nat->Nat->Nat) (bb cc:Nat->Nat) (g r c:Nat):Nat:=if c<g then (if r<n then timesV p n T (fun x=>if x=c then 1 else 0) bb r else timesV p n T bb (fun x=>if x=c then 1 else 0) (r - n)) else if c=6 then cc (r%n) else 0
def EU (p n:Nat) (T:Nat->Nat->Nat->Nat) (bb cc:Nat->Nat) (g k r c:Nat):Nat:=if c=g/\(r<k\/(n<=r/\r<n+k)) then Gi p n T bb cc (g+1) r c else Gi p n T bb cc g r c
theorem eqH_zero {p n g r c:Nat}{T:Nat->Nat->Nat->Nat}{bb cc:Nat->Nat}:EU p n T bb cc g 0 r c=Gi p n T bb cc g r c:=by
  unfold EU;rw [if_neg (by omega)]
theorem PD {p n g r c:Nat}{T:Nat->Nat->Nat->Nat}{bb cc:Nat->Nat}(hr:r<2*n):EU p n T bb cc g n r c=Gi p n T bb cc (g+1) r c:=by
  unfold EU
  by_cases e:c=g
  . rw [if_pos ⟨e,by omega⟩]
  . rw [if_neg (fun h=>e h.1)]
    by_cases e2:c<g
    . have e3:c<g+1:=by omega
      simp [Gi,e2,e3]
    . have e3:¬ c<g+1:=by omega
      simp [Gi,e2,e3]
theorem OO {p n g k r c:Nat}{T:Nat->Nat->Nat->Nat}{bb cc:Nat->Nat}{r1 r2:Nat->Nat}(hk:k<n)(hr:r<2*n)
    (h1:∀ c,r1 c=if c=g then timesV p n T (fun x=>if x=g then 1 else 0) bb k else EU p n T bb cc g k k c) (h2:∀ c,r2 c=if c=g then timesV p n T bb (fun x=>if x=g then 1 else 0) k else EU p n T bb cc g k (n+k) c) :
    upE (upE (EU p n T bb cc g k) k r1) (n+k) r2 r c=EU p n T bb cc g (k+1) r c:=by
  have hgg:∀ r,Gi p n T bb cc (g+1) r g=if r<n then timesV p n T (fun x=>if x=g then 1 else 0) bb r else timesV p n T bb (fun x=>if x=g then 1 else 0) (r - n):=fun r=>by unfold Gi;rw [if_pos (by omega)]
  unfold upE
  by_cases e2:r=n+k
  . rw [if_pos e2,h2,e2]
    by_cases ec:c=g
    . rw [if_pos ec];unfold EU;rw [if_pos ⟨ec,by omega⟩,ec,hgg,if_neg (by omega),show n+k - n=k by omega]
    . rw [if_neg ec];unfold EU;rw [if_neg (fun h=>ec h.1),if_neg (fun h=>ec h.1)]
  . rw [if_neg e2]
    by_cases e1:r=k
    . rw [if_pos e1,h1,e1]
      by_cases ec:c=g
      . rw [if_pos ec];unfold EU;rw [if_pos ⟨ec,by omega⟩,ec,hgg,if_pos (by omega)]
      . rw [if_neg ec];unfold EU;rw [if_neg (fun h=>ec h.1),if_neg (fun h=>ec h.1)]
    . rw [if_neg e1];unfold EU
      by_cases e3:c=g/\(r<k\/(n<=r/\r<n+k))
      . rw [if_pos e3,if_pos ⟨e3.1,by omega⟩]
      . rw [if_neg e3,if_neg (fun h=>e3 ⟨h.1,by omega⟩)]
theorem H0 (p n:Nat)(T:Nat->Nat->Nat->Nat)(f bb cc:Nat->Nat)(w:World)(hp:0<p)(hp2:p<100)(hn0:0<n)(hn:n<=6)(hT:∀ i j k,T i j k<=255)(hbb:∀ i,bb i<=255)(hcc:∀ i,cc i<=255) :
    CallsR Try.prog 149 #[.agg (AD (p:Int) (n:Int) T f),.agg (AQ bb),.agg (AQ cc)] w (fun u w'=>BytesOut w w' 7 (2*n) (Gi p n T bb cc n) u):=by
  refine Al [.agg (AD (p:Int) (n:Int) T f),.agg (AQ bb),.agg (AQ cc)] Try.func149 rfl Try.ntmps149 rfl fun a O=>?_;have J:Ag w w [none,none,none,none,none,none,none] []:=MemX.start w 7;change Fr 82 a [(0,.agg (AD (p:Int) (n:Int) T f)),(1,.agg (AQ bb)),(2,.agg (AQ cc))] at O;have hv:∀ i,bb i<=255:=hbb;have hu:∀ i,bb i<=255:=hbb;refine sr<|Ar O (BI 0 J O rfl) rfl ?_;rintro _ w' a ⟨b1,rfl,J,-⟩ O;refine Ar O (BI 1 J O rfl) rfl ?_;rintro _ w' a ⟨b2,rfl,J,-⟩ O;refine Ar O (BI 2 J O rfl) rfl ?_;rintro _ w' a ⟨b3,rfl,J,-⟩ O;change Ag _ _ [some (b1,AD (p:Int) (n:Int) T f),some (b2,AQ bb),some (b3,AQ cc),_,_,_,_] [] at J;refine ag O rfl rfl fun a O=>ns<|st O (AB AZ O rfl) rfl fun a O=>st O (AP AX O rfl (J.row 0 rfl) (Ao (by omega))) rfl fun a O=>st O (B1 O rfl rfl (Bh (2) (n) (by omega))) rfl fun a O=>Ar O (MZ (len:=2*n) 3 J O Fc rfl rfl rfl (by omega) (by decide)) rfl ?_;rintro _ w' a ⟨bo,rfl,J,-⟩ O;refine ag O rfl rfl fun a O=>nt<|sq<|sr<|mv O rfl rfl fun a O=>st O (B2 Cm O rfl) rfl fun a O=>mv O rfl rfl fun a O=>nt<|wp_block ?_;change Ag _ _ [_,_,_,some (bo,A1 (2*n) (fun _=>.slice none 0 0)),_,_,_] [] at J;refine Av (fun (kk:Nat) a w'=>kk<=2*n/\∃ (D1:A7),∃ (β:Nat->Nat),∃ (cso:Array Value),(cso.size=2*n/\(∀ i,i<kk->cso[0+i*1]? = some (.slice (some ⟨β i,0,none⟩) 7 7))/\RowsB D1 7 kk β (Gi p n T bb cc 0)/\(∀ i,i<kk->w.heap.size<=β i))/\Fr 82 a [(3,ptr b1 (0)),(4,ptr b2 (0)),(5,ptr b3 (0)),(6,.slice none 0 0),(7,.slice (some ⟨bo,0,none⟩) ((2)*(n)) ((2)*(n))),(18,.int .i64 ((((2)*(n):Nat):Int))),(19,.int .i64 (kk:Int)),(17,.slice (some ⟨bo,0,none⟩) ((2)*(n)) ((2)*(n)))]/\Ag w w' [some (b1,AD (p:Int) (n:Int) T f),some (b2,AQ bb),some (b3,AQ cc),some (bo,cso),none,none,none] D1) (fun kk=>2*n - kk) 0 ?_ ?_
  . refine ⟨by omega,[],(fun _=>0),(A1 (2*n) (fun _=>.slice none 0 0)),⟨BM _ _,fun i hi=>absurd hi (by omega),RowsB.none,fun i hi=>absurd hi (by omega)⟩,O.sub _ (by repeat' constructor),?_⟩
    exact J
  clear O J;rintro gk a w' ⟨hgk,D1,β,cso,⟨hso,hgo,hB,hH⟩,O,J⟩;refine sr<|st O (A0 O rfl rfl) rfl fun a O=>nt<|sq<|Ab O rfl (fun h5=>?_) (fun h5=>?_)
  . refine wp_skip ?_
    refine tN<|sq<|wp_block<|sr<|mv O rfl rfl fun a O=>ag O rfl rfl fun a O=>ns<|mv O rfl rfl fun a O=>mv O rfl rfl fun a O=>Ar O (G7 (len:=7) 4 J O rfl rfl LL) rfl ?_;rintro _ w' a ⟨b6,rfl,J,-⟩ O;change Ag _ _ [_,_,_,_,some (b6,A1 7 (fun _=>.int .u8 (0))),_,_] _ at J;refine st O (Ak (i:=gk) CB O rfl rfl rfl (by omega)) rfl fun a O=>BQ O (Az 3 J rfl Bj O rfl rfl rfl (by first | omega | (simp only [Aa]<;>omega) | (simp only [Array.size_setIfInBounds];omega) | simp)) ?_;intro _ w' a J O;change Ag _ _ [_,_,_,some (bo,(cso).setIfInBounds (0+(gk)*1) (.slice (some ⟨b6,0,none⟩) 7 7)),_,_,_] _ at J;refine wpList_nil<|tN ?_;have hmod:=Nat.mod_lt gk hn0;have hself:((cso).setIfInBounds (0+(gk)*1) (.slice (some ⟨b6,0,none⟩) 7 7))[0+gk*1]? = some (.slice (some ⟨b6,0,none⟩) 7 7):=Array.getElem?_setIfInBounds_self_of_lt (by omega);refine BV 10 [] [.val (.slice (some ⟨bo,0,none⟩) ((2)*(n)) ((2)*(n))),.val (.int .i64 (gk:Int)),.val (ptr bo (0+(gk)*1)),.val (.slice (some ⟨b6,0,none⟩) 7 7),.val (.int .i64 (gk:Int)),.val (ptr b1 (0+1)),.val (.int .i64 (n:Int)),.val (.int .i64 ((((gk)%(n):Nat):Int))),.val (ptr b3 (0+((gk)%(n))*1)),.val (.int .u8 ((cc ((gk)%(n)):Int)))] Bf rfl O rfl J ⟨fun a w gG O hS hd=>by exact BP hS rfl O rfl,fun a w gG O hS hd=>by exact BP hS rfl O rfl,fun a w gG O hS hd=>by have O:=O.ext1 26 (hd 0 rfl rfl);have O:=O.ext1 27 (hd 1 rfl rfl);exact AA hS rfl (Ak (i:=gk) CB O rfl rfl rfl (by omega)),fun a w gG O hS hd=>by have O:=O.ext1 28 (hd 2 rfl rfl);have J:=hS.mem rfl;exact AA hS rfl (AP Bj O rfl (J.row 3 rfl) hself),fun a w gG O hS hd=>by exact BP hS rfl O rfl,fun a w gG O hS hd=>by exact AA hS rfl (AB AZ O rfl),fun a w gG O hS hd=>by have O:=O.ext1 31 (hd 5 rfl rfl);have J:=hS.mem rfl;exact AA hS rfl (AP AX O rfl (J.row 0 rfl) (Ao (by omega))),fun a w gG O hS hd=>by have O:=O.ext1 30 (hd 4 rfl rfl);have O:=O.ext1 32 (hd 6 rfl rfl);exact AA hS rfl (CY O rfl rfl (by omega) (CS (gk) (n))),fun a w gG O hS hd=>by have O:=O.ext1 33 (hd 7 rfl rfl);exact AA hS rfl (AF A4 O rfl rfl rfl (by omega)),fun a w gG O hS hd=>by have O:=O.ext1 34 (hd 8 rfl rfl);have J:=hS.mem rfl;exact AA hS rfl (AP Ai O rfl (J.row 2 rfl) (Ba ((gk)%(n)) (by omega) (by omega))),trivial⟩ ?_;intro a w' L O hS hq;have O:=O.ext1 26 (hq 0 rfl rfl);have O:=O.ext1 27 (hq 1 rfl rfl);have O:=O.ext1 28 (hq 2 rfl rfl);have O:=O.ext1 29 (hq 3 rfl rfl);have O:=O.ext1 30 (hq 4 rfl rfl);have O:=O.ext1 31 (hq 5 rfl rfl);have O:=O.ext1 32 (hq 6 rfl rfl);have O:=O.ext1 33 (hq 7 rfl rfl);have O:=O.ext1 34 (hq 8 rfl rfl);have O:=O.ext1 35 (hq 9 rfl rfl);have J:=hS.mem rfl;change wpList Try.prog _ _ [_,_] _ _;refine st O (Ak (i:=6) Bt O rfl rfl rfl (by omega)) rfl fun a O=>BQ O (Az 4 J rfl Ai O rfl rfl rfl (by first | omega | (simp only [Aa]<;>omega) | (simp only [Array.size_setIfInBounds];omega) | simp)) ?_;intro _ w' a J O;rw [show (A1 7 (fun x=>.int .u8 (0))).setIfInBounds (0+(6)*1) (.int .u8 ((cc ((gk)%(n)):Int)))=A1 7 (fun x=>.int .u8 (((if x=6 then cc ((gk)%(n)) else 0):Nat):Int)) from Bv (fun x _=>by rw [show 0+(6)*1=6 by omega];by_cases hh:x=6<;>simp [hh])] at J;change Ag _ _ [_,_,_,_,_,_,_] _ at J;refine wpList_nil<|iN<|tN<|wp_region_lit<|st O (Ap O rfl rfl (Af (gk) (1) (by omega))) rfl fun a O=>mv O rfl rfl fun a O=>wpList_nil<|tN ?_;have hgb:=J.ge 4 rfl;have hnb:=fun i hi=>(J.froz _ _ (hB.mem i hi)).2 4 b6 _ rfl;have J:=J.freeze 4 rfl
    have hB:=((hB.more (D':=(b6,A1 7 (fun x=>.int .u8 (((if x=6 then cc ((gk)%(n)) else 0):Nat):Int)))::D1) (fun x hx=>List.mem_cons_of_mem _ hx)).snoc (r:=fun c=>if c=6 then cc (gk%n) else 0) rfl (List.mem_cons_self ..) hnb).congr (M':=(Gi p n T bb cc 0)) (fun i hi c hc=>by
      by_cases e:i=gk<;>simp [upE,Gi,e])
    have hgo:∀ i,i<gk+1->((cso).setIfInBounds (0+(gk)*1) (.slice (some ⟨b6,0,none⟩) 7 7))[0+i*1]? = some (.slice (some ⟨up β gk b6 i,0,none⟩) 7 7):=fun i hi=>by
      unfold up
      by_cases e:i=gk
      . rw [if_pos e,e];exact hself
      . rw [if_neg e,Array.getElem?_setIfInBounds_ne (by omega)];exact hgo i (by omega)
    have hH:∀ i,i<gk+1->w.heap.size<=up β gk b6 i:=fun i hi=>by
      unfold up;split
      . exact hgb
      . exact hH i (by omega)
    skip
    have J:=J.drop 4;refine ⟨gk+1,⟨by omega,((b6,A1 7 (fun x=>.int .u8 (((if x=6 then cc ((gk)%(n)) else 0):Nat):Int)))::D1),(up β gk b6),((cso).setIfInBounds (0+(gk)*1) (.slice (some ⟨b6,0,none⟩) 7 7)),⟨by rw [Array.size_setIfInBounds];exact hso,hgo,hB,hH⟩,O.sub _ (by repeat' constructor),?_⟩,by omega⟩;exact J
  obtain rfl:2*n=gk:=by omega
  refine wp_exit<|tX<|tX<|Am<|tN<|sq<|sr<|st O (AB AZ O rfl) rfl fun a O=>st O (AP AX O rfl (J.row 0 rfl) (Ao (by omega))) rfl fun a O=>mv O rfl rfl fun a O=>nt<|wp_block ?_;change Ag w _ [some (b1,AD (p:Int) (n:Int) T f),some (b2,AQ bb),some (b3,AQ cc),some (bo,cso),none,none,none] D1 at J;refine Av (fun (kk:Nat) a w'=>kk<=n/\∃ (D2:A7),(RowsB D2 7 (2*n) β (Gi p n T bb cc kk))/\Fr 82 a [(3,ptr b1 (0)),(4,ptr b2 (0)),(5,ptr b3 (0)),(6,.slice none 0 0),(7,.slice (some ⟨bo,0,none⟩) ((2)*(n)) ((2)*(n))),(18,.int .i64 ((((2)*(n):Nat):Int))),(19,.int .i64 ((((2*n):Nat):Int))),(20,.bool (decide (((((2*n):Nat):Int):Int)<(((2)*(n):Nat):Int)))),(38,ptr b1 (0+1)),(39,.int .i64 (n:Int)),(40,.int .i64 (kk:Int))]/\Ag w w' [some (b1,AD (p:Int) (n:Int) T f),some (b2,AQ bb),some (b3,AQ cc),some (bo,cso),none,none,none] D2) (fun kk=>n - kk) 0 ?_ ?_
  . refine ⟨by omega,D1,hB,O.sub _ (by repeat' constructor),?_⟩
    exact J
  clear O J;rintro gi a w' ⟨hgi,D2,hB,O,J⟩;refine sr<|st O (A0 O rfl rfl) rfl fun a O=>nt<|sq<|Ab O rfl (fun h7=>?_) (fun h7=>?_)
  . refine wp_skip ?_
    refine tN<|sq<|wp_block<|sr<|mv O rfl rfl fun a O=>ag O rfl rfl fun a O=>nt<|sq<|BV 12 [5,6] [.val (.agg (AD (p:Int) (n:Int) T f)),.val (.int .i64 (gi:Int)),.val (.agg (AQ (fun c=>if c=gi then 1 else 0))),.val (.agg (AQ bb)),.val (.agg (AQ (timesV p n T ((fun c=>if c=gi then 1 else 0)) (bb)))),.val (.agg (AD (p:Int) (n:Int) T f)),.val (.agg (AQ bb)),.val (.int .i64 (gi:Int)),.val (.agg (AQ (fun c=>if c=gi then 1 else 0))),.val (.agg (AQ (timesV p n T (bb) ((fun c=>if c=gi then 1 else 0))))),.own 5 (A1 6 (fun _=>.int .u8 (0))) (fun b=>ptr b 0),.own 6 (A1 6 (fun _=>.int .u8 (0))) (fun b=>ptr b 0)] Bf rfl O rfl J ⟨fun a w gG O hS hd=>by have J:=hS.mem rfl;exact AA hS rfl (AE AI O rfl (J.row 0 rfl) (by simp only [Aa]<;>omega) (whole AG)),fun a w gG O hS hd=>by exact BP hS rfl O rfl,fun a w gG O hS hd=>by have O:=O.ext1 44 (hd 1 rfl rfl);exact BL (by repeat constructor) hS rfl (Ae Try.call142 O (.cons rfl .nil) (C7 (gi) _ (by omega))),fun a w gG O hS hd=>by have J:=hS.mem rfl;exact AA hS rfl (AE Aq O rfl (J.row 1 rfl) (by simp only [Aa]<;>omega) (whole (by simp only [Aa]))),fun a w gG O hS hd=>by have O:=O.ext1 43 (hd 0 rfl rfl);have O:=O.ext1 45 (hd 2 rfl rfl);have O:=O.ext1 46 (hd 3 rfl rfl);exact BL (by repeat constructor) hS rfl (Ae Try.call87 O (.cons rfl (.cons rfl (.cons rfl .nil))) (E9 p n T f ((fun c=>if c=gi then 1 else 0)) (bb) _ (by omega) (by omega) (by omega) (fun _ _ _=>hT _ _ _) (fun _=>by first | exact hv _ | exact hu _ | exact hT _ _ _ | exact hf _ | omega | (split<;>omega) | (dsimp only;split<;>omega) | assumption) (fun _=>by first | exact hv _ | exact hu _ | exact hT _ _ _ | exact hf _ | omega | (split<;>omega) | (dsimp only;split<;>omega) | assumption))),fun a w gG O hS hd=>by have J:=hS.mem rfl;exact AA hS rfl (AE AI O rfl (J.row 0 rfl) (by simp only [Aa]<;>omega) (whole AG)),fun a w gG O hS hd=>by have J:=hS.mem rfl;exact AA hS rfl (AE Aq O rfl (J.row 1 rfl) (by simp only [Aa]<;>omega) (whole (by simp only [Aa]))),fun a w gG O hS hd=>by exact BP hS rfl O rfl,fun a w gG O hS hd=>by have O:=O.ext1 50 (hd 7 rfl rfl);exact BL (by repeat constructor) hS rfl (Ae Try.call142 O (.cons rfl .nil) (C7 (gi) _ (by omega))),fun a w gG O hS hd=>by have O:=O.ext1 48 (hd 5 rfl rfl);have O:=O.ext1 49 (hd 6 rfl rfl);have O:=O.ext1 51 (hd 8 rfl rfl);exact BL (by repeat constructor) hS rfl (Ae Try.call87 O (.cons rfl (.cons rfl (.cons rfl .nil))) (E9 p n T f (bb) ((fun c=>if c=gi then 1 else 0)) _ (by omega) (by omega) (by omega) (fun _ _ _=>hT _ _ _) (fun _=>by first | exact hv _ | exact hu _ | exact hT _ _ _ | exact hf _ | omega | (split<;>omega) | (dsimp only;split<;>omega) | assumption) (fun _=>by first | exact hv _ | exact hu _ | exact hT _ _ _ | exact hf _ | omega | (split<;>omega) | (dsimp only;split<;>omega) | assumption))),fun a w gG O hS hd=>by exact DB (by repeat constructor) hS rfl rfl rfl rfl (Ah 5 hS.1 BE),fun a w gG O hS hd=>by exact DB (by repeat constructor) hS rfl rfl rfl rfl (Ah 6 hS.1 BE),trivial⟩ ?_;intro a w' L O hS hq;have O:=O.ext1 43 (hq 0 rfl rfl);have O:=O.ext1 44 (hq 1 rfl rfl);have O:=O.ext1 45 (hq 2 rfl rfl);have O:=O.ext1 46 (hq 3 rfl rfl);have O:=O.ext1 47 (hq 4 rfl rfl);have O:=O.ext1 48 (hq 5 rfl rfl);have O:=O.ext1 49 (hq 6 rfl rfl);have O:=O.ext1 50 (hq 7 rfl rfl);have O:=O.ext1 51 (hq 8 rfl rfl);have O:=O.ext1 52 (hq 9 rfl rfl);obtain ⟨J,hL⟩:=hS;obtain ⟨b8,hptr,hkk⟩:=hq 10 rfl rfl;have O:=O.ext1 10 hptr;have hL:=hL.take hkk;obtain ⟨b9,hptr,hkk⟩:=hq 11 rfl rfl
    have O:=O.ext1 11 hptr;have hL:=hL.take hkk;obtain rfl:=hL.eq;change Ag w w' [some (b1,AD (p:Int) (n:Int) T f),some (b2,AQ bb),some (b3,AQ cc),some (bo,cso),none,some (b8,A1 6 (fun _=>.int .u8 (0))),some (b9,A1 6 (fun _=>.int .u8 (0)))] D2 at J;change wpList Try.prog _ _ [_,_] _ _;refine BQ O (AJ 5 J rfl A3 O rfl rfl At (by simp only [Aa]) (by simp only [Aa]<;>omega) (AH _ _ (by simp only [Aa]))) ?_;intro _ w' a J O;change Ag _ _ [_,_,_,_,_,some (b8,AQ (timesV p n T ((fun c=>if c=gi then 1 else 0)) (bb))),_] _ at J;refine BQ O (AJ 6 J rfl A3 O rfl rfl At (by simp only [Aa]) (by simp only [Aa]<;>omega) (AH _ _ (by simp only [Aa]))) ?_;intro _ w' a J O;change Ag _ _ [_,_,_,_,_,_,some (b9,AQ (timesV p n T (bb) ((fun c=>if c=gi then 1 else 0))))] _ at J;refine ns<|st O (AB AZ O rfl) rfl fun a O=>st O (AP AX O rfl (J.row 0 rfl) (Ao (by omega))) rfl fun a O=>mv O rfl rfl fun a O=>nt<|wp_block ?_;change Ag _ _ [_,_,_,_,_,_,_] _ at J;refine Av (fun (kk:Nat) a w'=>kk<=n/\∃ (D3:A7),(RowsB D3 7 (2*n) β (EU p n T bb cc gi kk))/\Fr 82 a [(11,ptr b9 (0)),(10,ptr b8 (0)),(52,.agg (AQ (timesV p n T (bb) ((fun c=>if c=gi then 1 else 0))))),(51,.agg (AQ (fun c=>if c=gi then 1 else 0))),(50,.int .i64 (gi:Int)),(49,.agg (AQ bb)),(48,.agg (AD (p:Int) (n:Int) T f)),(47,.agg (AQ (timesV p n T ((fun c=>if c=gi then 1 else 0)) (bb)))),(46,.agg (AQ bb)),(45,.agg (AQ (fun c=>if c=gi then 1 else 0))),(44,.int .i64 (gi:Int)),(43,.agg (AD (p:Int) (n:Int) T f)),(3,ptr b1 (0)),(4,ptr b2 (0)),(5,ptr b3 (0)),(6,.slice none 0 0),(7,.slice (some ⟨bo,0,none⟩) ((2)*(n)) ((2)*(n))),(18,.int .i64 ((((2)*(n):Nat):Int))),(19,.int .i64 ((((2*n):Nat):Int))),(20,.bool (decide (((((2*n):Nat):Int):Int)<(((2)*(n):Nat):Int)))),(38,ptr b1 (0+1)),(39,.int .i64 (n:Int)),(40,.int .i64 (gi:Int)),(41,.bool (decide (((gi:Int):Int)<(n:Int)))),(42,.int .i64 (gi:Int)),(9,.int .i64 (gi:Int)),(53,ptr b1 (0+1)),(54,.int .i64 (n:Int)),(55,.int .i64 (kk:Int))]/\Ag w w' [some (b1,AD (p:Int) (n:Int) T f),some (b2,AQ bb),some (b3,AQ cc),some (bo,cso),none,some (b8,AQ (timesV p n T ((fun c=>if c=gi then 1 else 0)) (bb))),some (b9,AQ (timesV p n T (bb) ((fun c=>if c=gi then 1 else 0))))] D3) (fun kk=>n - kk) 0 ?_ ?_
    . refine ⟨by omega,D2,hB.congr (fun r hr c _=>eqH_zero.symm),O.sub _ (by repeat' constructor),?_⟩
      exact J
    clear O J;rintro gk a w' ⟨hgk,D3,hB,O,J⟩;refine sr<|st O (A0 O rfl rfl) rfl fun a O=>nt<|sq<|Ab O rfl (fun h10=>?_) (fun h10=>?_)
    . refine wp_skip ?_
      refine tN<|sq<|wp_block<|sr<|mv O rfl rfl fun a O=>ag O rfl rfl fun a O=>wpList_nil<|tN ?_;refine GK (S:=fun (b:Bool) w2=>MemX [] w w2 [some (b1,AD (p:Int) (n:Int) T f),some (b2,AQ bb),some (b3,AQ cc),some (bo,cso),none,some (b8,AQ (timesV p n T ((fun c=>if c=gi then 1 else 0)) (bb))),some (b9,AQ (timesV p n T (bb) ((fun c=>if c=gi then 1 else 0))))] (if b then Cr D3 (β gk) ((A1 7 (fun c=>.int .u8 (((EU p n T bb cc gi gk) gk c:Nat):Int))).setIfInBounds (0+(gi)*1) (.int .u8 ((timesV p n T (fun x=>if x=gi then 1 else 0) bb gk:Int)))) else D3)) 21 20 Bf rfl rfl rfl O rfl (fun j o hj hne=>Ci (s:=20) (i:=0) rfl j o hj (by omega)) J (fun b w h=>h.ext (Below.drew (Below.refl _ _))) (QJ [.slice (some ⟨bo,0,none⟩) ((2)*(n)) ((2)*(n)),.int .i64 (gk:Int),ptr bo (0+(gk)*1),.slice (some ⟨β (gk),0,none⟩) 7 7,.int .i64 (gi:Int),.slice (some ⟨bo,0,none⟩) ((2)*(n)) ((2)*(n)),ptr b1 (0+1),.int .i64 (n:Int),.int .i64 (gk:Int),.int .i64 (((n+gk:Nat):Int)),ptr bo (0+(n+gk)*1),.slice (some ⟨β (n+gk),0,none⟩) 7 7,.int .i64 (gi:Int),.int .i64 (gk:Int),ptr b8 (0+(gk)*1),.int .u8 ((((timesV p n T ((fun c=>if c=gi then 1 else 0)) (bb)) (gk):Nat):Int)),.int .i64 (gk:Int),ptr b9 (0+(gk)*1),.int .u8 ((((timesV p n T (bb) ((fun c=>if c=gi then 1 else 0))) (gk):Nat):Int)),ptr (β (gk)) (0+(gi)*1),undef]) ⟨fun a w2 b O hS hb hd=>by exact A6 (S:=fun (b:Bool) w2=>MemX [] w w2 [some (b1,AD (p:Int) (n:Int) T f),some (b2,AQ bb),some (b3,AQ cc),some (bo,cso),none,some (b8,AQ (timesV p n T ((fun c=>if c=gi then 1 else 0)) (bb))),some (b9,AQ (timesV p n T (bb) ((fun c=>if c=gi then 1 else 0))))] (if b then Cr D3 (β gk) ((A1 7 (fun c=>.int .u8 (((EU p n T bb cc gi gk) gk c:Nat):Int))).setIfInBounds (0+(gi)*1) (.int .u8 ((timesV p n T (fun x=>if x=gi then 1 else 0) bb gk:Int)))) else D3)) hS (Ay O rfl),fun a w2 b O hS hb hd=>by exact A6 (S:=fun (b:Bool) w2=>MemX [] w w2 [some (b1,AD (p:Int) (n:Int) T f),some (b2,AQ bb),some (b3,AQ cc),some (bo,cso),none,some (b8,AQ (timesV p n T ((fun c=>if c=gi then 1 else 0)) (bb))),some (b9,AQ (timesV p n T (bb) ((fun c=>if c=gi then 1 else 0))))] (if b then Cr D3 (β gk) ((A1 7 (fun c=>.int .u8 (((EU p n T bb cc gi gk) gk c:Nat):Int))).setIfInBounds (0+(gi)*1) (.int .u8 ((timesV p n T (fun x=>if x=gi then 1 else 0) bb gk:Int)))) else D3)) hS (Ay O rfl),fun a w2 b O hS hb hd=>by have O:=O.ext1 58 (hd 0 rfl rfl rfl);have O:=O.ext1 59 (hd 1 rfl rfl rfl);exact A6 (S:=fun (b:Bool) w2=>MemX [] w w2 [some (b1,AD (p:Int) (n:Int) T f),some (b2,AQ bb),some (b3,AQ cc),some (bo,cso),none,some (b8,AQ (timesV p n T ((fun c=>if c=gi then 1 else 0)) (bb))),some (b9,AQ (timesV p n T (bb) ((fun c=>if c=gi then 1 else 0))))] (if b then Cr D3 (β gk) ((A1 7 (fun c=>.int .u8 (((EU p n T bb cc gi gk) gk c:Nat):Int))).setIfInBounds (0+(gi)*1) (.int .u8 ((timesV p n T (fun x=>if x=gi then 1 else 0) bb gk:Int)))) else D3)) hS (Ak (i:=gk) CB O rfl rfl rfl (by omega)),fun a w2 b O hS hb hd=>by have O:=O.ext1 60 (hd 2 rfl rfl rfl);obtain rfl:=hb rfl;have J:MemX [] w w2 [some (b1,AD (p:Int) (n:Int) T f),some (b2,AQ bb),some (b3,AQ cc),some (bo,cso),none,some (b8,AQ (timesV p n T ((fun c=>if c=gi then 1 else 0)) (bb))),some (b9,AQ (timesV p n T (bb) ((fun c=>if c=gi then 1 else 0))))] D3:=hS;exact A6 (S:=fun (b:Bool) w2=>MemX [] w w2 [some (b1,AD (p:Int) (n:Int) T f),some (b2,AQ bb),some (b3,AQ cc),some (bo,cso),none,some (b8,AQ (timesV p n T ((fun c=>if c=gi then 1 else 0)) (bb))),some (b9,AQ (timesV p n T (bb) ((fun c=>if c=gi then 1 else 0))))] (if b then Cr D3 (β gk) ((A1 7 (fun c=>.int .u8 (((EU p n T bb cc gi gk) gk c:Nat):Int))).setIfInBounds (0+(gi)*1) (.int .u8 ((timesV p n T (fun x=>if x=gi then 1 else 0) bb gk:Int)))) else D3)) (b:=false) hS (AP Bj O rfl (J.row 3 rfl) (hgo (gk) (by omega))),fun a w2 b O hS hb hd=>by exact A6 (S:=fun (b:Bool) w2=>MemX [] w w2 [some (b1,AD (p:Int) (n:Int) T f),some (b2,AQ bb),some (b3,AQ cc),some (bo,cso),none,some (b8,AQ (timesV p n T ((fun c=>if c=gi then 1 else 0)) (bb))),some (b9,AQ (timesV p n T (bb) ((fun c=>if c=gi then 1 else 0))))] (if b then Cr D3 (β gk) ((A1 7 (fun c=>.int .u8 (((EU p n T bb cc gi gk) gk c:Nat):Int))).setIfInBounds (0+(gi)*1) (.int .u8 ((timesV p n T (fun x=>if x=gi then 1 else 0) bb gk:Int)))) else D3)) hS (Ay O rfl),fun a w2 b O hS hb hd=>by exact A6 (S:=fun (b:Bool) w2=>MemX [] w w2 [some (b1,AD (p:Int) (n:Int) T f),some (b2,AQ bb),some (b3,AQ cc),some (bo,cso),none,some (b8,AQ (timesV p n T ((fun c=>if c=gi then 1 else 0)) (bb))),some (b9,AQ (timesV p n T (bb) ((fun c=>if c=gi then 1 else 0))))] (if b then Cr D3 (β gk) ((A1 7 (fun c=>.int .u8 (((EU p n T bb cc gi gk) gk c:Nat):Int))).setIfInBounds (0+(gi)*1) (.int .u8 ((timesV p n T (fun x=>if x=gi then 1 else 0) bb gk:Int)))) else D3)) hS (Ay O rfl),fun a w2 b O hS hb hd=>by exact A6 (S:=fun (b:Bool) w2=>MemX [] w w2 [some (b1,AD (p:Int) (n:Int) T f),some (b2,AQ bb),some (b3,AQ cc),some (bo,cso),none,some (b8,AQ (timesV p n T ((fun c=>if c=gi then 1 else 0)) (bb))),some (b9,AQ (timesV p n T (bb) ((fun c=>if c=gi then 1 else 0))))] (if b then Cr D3 (β gk) ((A1 7 (fun c=>.int .u8 (((EU p n T bb cc gi gk) gk c:Nat):Int))).setIfInBounds (0+(gi)*1) (.int .u8 ((timesV p n T (fun x=>if x=gi then 1 else 0) bb gk:Int)))) else D3)) hS (AB AZ O rfl),fun a w2 b O hS hb hd=>by have O:=O.ext1 64 (hd 6 rfl rfl rfl);have J:=hS;exact A6 (S:=fun (b:Bool) w2=>MemX [] w w2 [some (b1,AD (p:Int) (n:Int) T f),some (b2,AQ bb),some (b3,AQ cc),some (bo,cso),none,some (b8,AQ (timesV p n T ((fun c=>if c=gi then 1 else 0)) (bb))),some (b9,AQ (timesV p n T (bb) ((fun c=>if c=gi then 1 else 0))))] (if b then Cr D3 (β gk) ((A1 7 (fun c=>.int .u8 (((EU p n T bb cc gi gk) gk c:Nat):Int))).setIfInBounds (0+(gi)*1) (.int .u8 ((timesV p n T (fun x=>if x=gi then 1 else 0) bb gk:Int)))) else D3)) hS (AP AX O rfl (J.row 0 rfl) (Ao (by omega))),fun a w2 b O hS hb hd=>by exact A6 (S:=fun (b:Bool) w2=>MemX [] w w2 [some (b1,AD (p:Int) (n:Int) T f),some (b2,AQ bb),some (b3,AQ cc),some (bo,cso),none,some (b8,AQ (timesV p n T ((fun c=>if c=gi then 1 else 0)) (bb))),some (b9,AQ (timesV p n T (bb) ((fun c=>if c=gi then 1 else 0))))] (if b then Cr D3 (β gk) ((A1 7 (fun c=>.int .u8 (((EU p n T bb cc gi gk) gk c:Nat):Int))).setIfInBounds (0+(gi)*1) (.int .u8 ((timesV p n T (fun x=>if x=gi then 1 else 0) bb gk:Int)))) else D3)) hS (Ay O rfl),fun a w2 b O hS hb hd=>by have O:=O.ext1 65 (hd 7 rfl rfl rfl);have O:=O.ext1 66 (hd 8 rfl rfl rfl);exact A6 (S:=fun (b:Bool) w2=>MemX [] w w2 [some (b1,AD (p:Int) (n:Int) T f),some (b2,AQ bb),some (b3,AQ cc),some (bo,cso),none,some (b8,AQ (timesV p n T ((fun c=>if c=gi then 1 else 0)) (bb))),some (b9,AQ (timesV p n T (bb) ((fun c=>if c=gi then 1 else 0))))] (if b then Cr D3 (β gk) ((A1 7 (fun c=>.int .u8 (((EU p n T bb cc gi gk) gk c:Nat):Int))).setIfInBounds (0+(gi)*1) (.int .u8 ((timesV p n T (fun x=>if x=gi then 1 else 0) bb gk:Int)))) else D3)) hS (Ap O rfl rfl (Af (n) (gk) (by omega))),fun a w2 b O hS hb hd=>by have O:=O.ext1 63 (hd 5 rfl rfl rfl);have O:=O.ext1 67 (hd 9 rfl rfl rfl);exact A6 (S:=fun (b:Bool) w2=>MemX [] w w2 [some (b1,AD (p:Int) (n:Int) T f),some (b2,AQ bb),some (b3,AQ cc),some (bo,cso),none,some (b8,AQ (timesV p n T ((fun c=>if c=gi then 1 else 0)) (bb))),some (b9,AQ (timesV p n T (bb) ((fun c=>if c=gi then 1 else 0))))] (if b then Cr D3 (β gk) ((A1 7 (fun c=>.int .u8 (((EU p n T bb cc gi gk) gk c:Nat):Int))).setIfInBounds (0+(gi)*1) (.int .u8 ((timesV p n T (fun x=>if x=gi then 1 else 0) bb gk:Int)))) else D3)) hS (Ak (i:=n+gk) CB O rfl rfl rfl (by omega)),fun a w2 b O hS hb hd=>by have O:=O.ext1 68 (hd 10 rfl rfl rfl);obtain rfl:=hb rfl;have J:MemX [] w w2 [some (b1,AD (p:Int) (n:Int) T f),some (b2,AQ bb),some (b3,AQ cc),some (bo,cso),none,some (b8,AQ (timesV p n T ((fun c=>if c=gi then 1 else 0)) (bb))),some (b9,AQ (timesV p n T (bb) ((fun c=>if c=gi then 1 else 0))))] D3:=hS;exact A6 (S:=fun (b:Bool) w2=>MemX [] w w2 [some (b1,AD (p:Int) (n:Int) T f),some (b2,AQ bb),some (b3,AQ cc),some (bo,cso),none,some (b8,AQ (timesV p n T ((fun c=>if c=gi then 1 else 0)) (bb))),some (b9,AQ (timesV p n T (bb) ((fun c=>if c=gi then 1 else 0))))] (if b then Cr D3 (β gk) ((A1 7 (fun c=>.int .u8 (((EU p n T bb cc gi gk) gk c:Nat):Int))).setIfInBounds (0+(gi)*1) (.int .u8 ((timesV p n T (fun x=>if x=gi then 1 else 0) bb gk:Int)))) else D3)) (b:=false) hS (AP Bj O rfl (J.row 3 rfl) (hgo (n+gk) (by omega))),fun a w2 b O hS hb hd=>by exact A6 (S:=fun (b:Bool) w2=>MemX [] w w2 [some (b1,AD (p:Int) (n:Int) T f),some (b2,AQ bb),some (b3,AQ cc),some (bo,cso),none,some (b8,AQ (timesV p n T ((fun c=>if c=gi then 1 else 0)) (bb))),some (b9,AQ (timesV p n T (bb) ((fun c=>if c=gi then 1 else 0))))] (if b then Cr D3 (β gk) ((A1 7 (fun c=>.int .u8 (((EU p n T bb cc gi gk) gk c:Nat):Int))).setIfInBounds (0+(gi)*1) (.int .u8 ((timesV p n T (fun x=>if x=gi then 1 else 0) bb gk:Int)))) else D3)) hS (Ay O rfl),fun a w2 b O hS hb hd=>by exact A6 (S:=fun (b:Bool) w2=>MemX [] w w2 [some (b1,AD (p:Int) (n:Int) T f),some (b2,AQ bb),some (b3,AQ cc),some (bo,cso),none,some (b8,AQ (timesV p n T ((fun c=>if c=gi then 1 else 0)) (bb))),some (b9,AQ (timesV p n T (bb) ((fun c=>if c=gi then 1 else 0))))] (if b then Cr D3 (β gk) ((A1 7 (fun c=>.int .u8 (((EU p n T bb cc gi gk) gk c:Nat):Int))).setIfInBounds (0+(gi)*1) (.int .u8 ((timesV p n T (fun x=>if x=gi then 1 else 0) bb gk:Int)))) else D3)) hS (Ay O rfl),fun a w2 b O hS hb hd=>by have O:=O.ext1 71 (hd 13 rfl rfl rfl);exact A6 (S:=fun (b:Bool) w2=>MemX [] w w2 [some (b1,AD (p:Int) (n:Int) T f),some (b2,AQ bb),some (b3,AQ cc),some (bo,cso),none,some (b8,AQ (timesV p n T ((fun c=>if c=gi then 1 else 0)) (bb))),some (b9,AQ (timesV p n T (bb) ((fun c=>if c=gi then 1 else 0))))] (if b then Cr D3 (β gk) ((A1 7 (fun c=>.int .u8 (((EU p n T bb cc gi gk) gk c:Nat):Int))).setIfInBounds (0+(gi)*1) (.int .u8 ((timesV p n T (fun x=>if x=gi then 1 else 0) bb gk:Int)))) else D3)) hS (AF A4 O rfl rfl rfl (by omega)),fun a w2 b O hS hb hd=>by have O:=O.ext1 72 (hd 14 rfl rfl rfl);obtain rfl:=hb rfl;have J:MemX [] w w2 [some (b1,AD (p:Int) (n:Int) T f),some (b2,AQ bb),some (b3,AQ cc),some (bo,cso),none,some (b8,AQ (timesV p n T ((fun c=>if c=gi then 1 else 0)) (bb))),some (b9,AQ (timesV p n T (bb) ((fun c=>if c=gi then 1 else 0))))] D3:=hS;exact A6 (S:=fun (b:Bool) w2=>MemX [] w w2 [some (b1,AD (p:Int) (n:Int) T f),some (b2,AQ bb),some (b3,AQ cc),some (bo,cso),none,some (b8,AQ (timesV p n T ((fun c=>if c=gi then 1 else 0)) (bb))),some (b9,AQ (timesV p n T (bb) ((fun c=>if c=gi then 1 else 0))))] (if b then Cr D3 (β gk) ((A1 7 (fun c=>.int .u8 (((EU p n T bb cc gi gk) gk c:Nat):Int))).setIfInBounds (0+(gi)*1) (.int .u8 ((timesV p n T (fun x=>if x=gi then 1 else 0) bb gk:Int)))) else D3)) (b:=false) hS (AP Ai O rfl (J.row 5 rfl) (Ba (gk) (by omega) (by omega))),fun a w2 b O hS hb hd=>by exact A6 (S:=fun (b:Bool) w2=>MemX [] w w2 [some (b1,AD (p:Int) (n:Int) T f),some (b2,AQ bb),some (b3,AQ cc),some (bo,cso),none,some (b8,AQ (timesV p n T ((fun c=>if c=gi then 1 else 0)) (bb))),some (b9,AQ (timesV p n T (bb) ((fun c=>if c=gi then 1 else 0))))] (if b then Cr D3 (β gk) ((A1 7 (fun c=>.int .u8 (((EU p n T bb cc gi gk) gk c:Nat):Int))).setIfInBounds (0+(gi)*1) (.int .u8 ((timesV p n T (fun x=>if x=gi then 1 else 0) bb gk:Int)))) else D3)) hS (Ay O rfl),fun a w2 b O hS hb hd=>by have O:=O.ext1 74 (hd 16 rfl rfl rfl);exact A6 (S:=fun (b:Bool) w2=>MemX [] w w2 [some (b1,AD (p:Int) (n:Int) T f),some (b2,AQ bb),some (b3,AQ cc),some (bo,cso),none,some (b8,AQ (timesV p n T ((fun c=>if c=gi then 1 else 0)) (bb))),some (b9,AQ (timesV p n T (bb) ((fun c=>if c=gi then 1 else 0))))] (if b then Cr D3 (β gk) ((A1 7 (fun c=>.int .u8 (((EU p n T bb cc gi gk) gk c:Nat):Int))).setIfInBounds (0+(gi)*1) (.int .u8 ((timesV p n T (fun x=>if x=gi then 1 else 0) bb gk:Int)))) else D3)) hS (AF A4 O rfl rfl rfl (by omega)),fun a w2 b O hS hb hd=>by have O:=O.ext1 75 (hd 17 rfl rfl rfl);have J:=hS;exact A6 (S:=fun (b:Bool) w2=>MemX [] w w2 [some (b1,AD (p:Int) (n:Int) T f),some (b2,AQ bb),some (b3,AQ cc),some (bo,cso),none,some (b8,AQ (timesV p n T ((fun c=>if c=gi then 1 else 0)) (bb))),some (b9,AQ (timesV p n T (bb) ((fun c=>if c=gi then 1 else 0))))] (if b then Cr D3 (β gk) ((A1 7 (fun c=>.int .u8 (((EU p n T bb cc gi gk) gk c:Nat):Int))).setIfInBounds (0+(gi)*1) (.int .u8 ((timesV p n T (fun x=>if x=gi then 1 else 0) bb gk:Int)))) else D3)) hS (AP Ai O rfl (J.row 6 rfl) (Ba (gk) (by omega) (by omega))),fun a w2 b O hS hb hd=>by have O:=O.ext1 61 (hd 3 rfl rfl rfl);have O:=O.ext1 62 (hd 4 rfl rfl rfl);exact A6 (S:=fun (b:Bool) w2=>MemX [] w w2 [some (b1,AD (p:Int) (n:Int) T f),some (b2,AQ bb),some (b3,AQ cc),some (bo,cso),none,some (b8,AQ (timesV p n T ((fun c=>if c=gi then 1 else 0)) (bb))),some (b9,AQ (timesV p n T (bb) ((fun c=>if c=gi then 1 else 0))))] (if b then Cr D3 (β gk) ((A1 7 (fun c=>.int .u8 (((EU p n T bb cc gi gk) gk c:Nat):Int))).setIfInBounds (0+(gi)*1) (.int .u8 ((timesV p n T (fun x=>if x=gi then 1 else 0) bb gk:Int)))) else D3)) hS (Ak (i:=gi) Bt O rfl rfl rfl (by omega)),fun a w2 O hS hd=>by have O:=O.ext1 73 (hd 15 rfl rfl rfl);have O:=O.ext1 77 (hd 19 rfl rfl rfl);have J:MemX [] w w2 [some (b1,AD (p:Int) (n:Int) T f),some (b2,AQ bb),some (b3,AQ cc),some (bo,cso),none,some (b8,AQ (timesV p n T ((fun c=>if c=gi then 1 else 0)) (bb))),some (b9,AQ (timesV p n T (bb) ((fun c=>if c=gi then 1 else 0))))] D3:=hS;exact K1 J (hB.mem gk (by omega)) (.inl (hH _ (by omega))) Ai O rfl rfl rfl (by rw [BM];omega),trivial⟩ ?_
      intro a w' O hS hq;have J:MemX [] w w' [some (b1,AD (p:Int) (n:Int) T f),some (b2,AQ bb),some (b3,AQ cc),some (bo,cso),none,some (b8,AQ (timesV p n T ((fun c=>if c=gi then 1 else 0)) (bb))),some (b9,AQ (timesV p n T (bb) ((fun c=>if c=gi then 1 else 0))))] (Cr D3 (β gk) ((A1 7 (fun c=>.int .u8 (((EU p n T bb cc gi gk) gk c:Nat):Int))).setIfInBounds (0+(gi)*1) (.int .u8 ((timesV p n T (fun x=>if x=gi then 1 else 0) bb gk:Int))))):=hS;have O:=O.ext1 69 (hq 11 rfl rfl rfl);have O:=O.ext1 70 (hq 12 rfl rfl rfl);have O:=O.ext1 76 (hq 18 rfl rfl rfl);change wpList Try.prog _ _ [_,_] _ _;have hB1:=hB.setRow (i:=gk) (by omega) (fun c=>if c=gi then timesV p n T (fun x=>if x=gi then 1 else 0) bb gk else (EU p n T bb cc gi gk) gk c) (cs:=((A1 7 (fun c=>.int .u8 (((EU p n T bb cc gi gk) gk c:Nat):Int))).setIfInBounds (0+(gi)*1) (.int .u8 ((timesV p n T (fun x=>if x=gi then 1 else 0) bb gk:Int))))) (Bv (fun c hc=>by by_cases e:c=gi<;>simp [e]));have hB2m:(β (n+gk),(A1 7 (fun c=>.int .u8 (((EU p n T bb cc gi gk) (n+gk) c:Nat):Int))))∈Cr D3 (β gk) ((A1 7 (fun c=>.int .u8 (((EU p n T bb cc gi gk) gk c:Nat):Int))).setIfInBounds (0+(gi)*1) (.int .u8 ((timesV p n T (fun x=>if x=gi then 1 else 0) bb gk:Int)))):=by
        have:=hB1.mem (n+gk) (by omega)
        unfold upE at this;rwa [if_neg (by omega)] at this
      refine st O (Ak (i:=gi) Bt O rfl rfl rfl (by omega)) rfl fun a O=>BQ O (K1 J hB2m (.inl (hH _ (by omega))) Ai O rfl rfl rfl (by rw [BM];omega)) ?_;intro _ w' a J O;have J:MemX [] w w' [some (b1,AD (p:Int) (n:Int) T f),some (b2,AQ bb),some (b3,AQ cc),some (bo,cso),none,some (b8,AQ (timesV p n T ((fun c=>if c=gi then 1 else 0)) (bb))),some (b9,AQ (timesV p n T (bb) ((fun c=>if c=gi then 1 else 0))))] (Cr (Cr D3 (β gk) ((A1 7 (fun c=>.int .u8 (((EU p n T bb cc gi gk) gk c:Nat):Int))).setIfInBounds (0+(gi)*1) (.int .u8 ((timesV p n T (fun x=>if x=gi then 1 else 0) bb gk:Int))))) (β (n+gk)) ((A1 7 (fun c=>.int .u8 (((EU p n T bb cc gi gk) (n+gk) c:Nat):Int))).setIfInBounds (0+(gi)*1) (.int .u8 ((timesV p n T bb (fun x=>if x=gi then 1 else 0) gk:Int))))):=J;have hB:=(hB1.setRow (i:=n+gk) (by omega) (fun c=>if c=gi then timesV p n T bb (fun x=>if x=gi then 1 else 0) gk else (EU p n T bb cc gi gk) (n+gk) c) (cs:=((A1 7 (fun c=>.int .u8 (((EU p n T bb cc gi gk) (n+gk) c:Nat):Int))).setIfInBounds (0+(gi)*1) (.int .u8 ((timesV p n T bb (fun x=>if x=gi then 1 else 0) gk:Int))))) (Bv (fun c hc=>by by_cases e:c=gi<;>simp [e]))).congr (M':=(EU p n T bb cc gi (gk+1))) (fun r hr c hc=>OO (by omega) hr (fun _=>rfl) (fun _=>rfl));have O:=O.sub [(11,ptr b9 (0)),(10,ptr b8 (0)),(52,.agg (AQ (timesV p n T (bb) ((fun c=>if c=gi then 1 else 0))))),(51,.agg (AQ (fun c=>if c=gi then 1 else 0))),(50,.int .i64 (gi:Int)),(49,.agg (AQ bb)),(48,.agg (AD (p:Int) (n:Int) T f)),(47,.agg (AQ (timesV p n T ((fun c=>if c=gi then 1 else 0)) (bb)))),(46,.agg (AQ bb)),(45,.agg (AQ (fun c=>if c=gi then 1 else 0))),(44,.int .i64 (gi:Int)),(43,.agg (AD (p:Int) (n:Int) T f)),(3,ptr b1 (0)),(4,ptr b2 (0)),(5,ptr b3 (0)),(6,.slice none 0 0),(7,.slice (some ⟨bo,0,none⟩) ((2)*(n)) ((2)*(n))),(18,.int .i64 ((((2)*(n):Nat):Int))),(19,.int .i64 ((((2*n):Nat):Int))),(20,.bool (decide (((((2*n):Nat):Int):Int)<(((2)*(n):Nat):Int)))),(38,ptr b1 (0+1)),(39,.int .i64 (n:Int)),(40,.int .i64 (gi:Int)),(41,.bool (decide (((gi:Int):Int)<(n:Int)))),(42,.int .i64 (gi:Int)),(9,.int .i64 (gi:Int)),(53,ptr b1 (0+1)),(54,.int .i64 (n:Int)),(55,.int .i64 (gk:Int)),(56,.bool (decide (((gk:Int):Int)<(n:Int)))),(57,.int .i64 (gk:Int)),(12,.int .i64 (gk:Int))] (by repeat' constructor);refine wpList_nil<|iN<|tN<|wp_region_lit<|st O (Ap O rfl rfl (Af (gk) (1) (by omega))) rfl fun a O=>mv O rfl rfl fun a O=>nt<|⟨gk+1,⟨by omega,(Cr (Cr D3 (β gk) ((A1 7 (fun c=>.int .u8 (((EU p n T bb cc gi gk) gk c:Nat):Int))).setIfInBounds (0+(gi)*1) (.int .u8 ((timesV p n T (fun x=>if x=gi then 1 else 0) bb gk:Int))))) (β (n+gk)) ((A1 7 (fun c=>.int .u8 (((EU p n T bb cc gi gk) (n+gk) c:Nat):Int))).setIfInBounds (0+(gi)*1) (.int .u8 ((timesV p n T bb (fun x=>if x=gi then 1 else 0) gk:Int))))),hB,O.sub _ (by repeat' constructor),?_⟩,by omega⟩;exact J
    obtain rfl:n=gk:=by omega
    refine wp_exit<|tX<|tX<|Am<|iN<|tN<|wp_region_lit<|st O (Ap O rfl rfl (Af (gi) (1) (by omega))) rfl fun a O=>mv O rfl rfl fun a O=>wpList_nil<|tN ?_;have J:=J.drop 5;have J:=J.drop 6;refine ⟨gi+1,⟨by omega,D3,hB.congr (fun r hr c _=>PD hr),O.sub _ (by repeat' constructor),?_⟩,by omega⟩;exact J
  obtain rfl:n=gi:=by omega
  refine wp_exit<|tX<|tX<|Am<|tN<|sr<|mv O rfl rfl fun a O=>ag O rfl rfl fun a O=>nt<|wp_ret<|BC rfl O.defers (Ad O rfl) ⟨_,rfl,J.below,?_⟩;have hhB:=hB;exact BytesOut.of J (k:=3) rfl hB hH (by omega) hgo
def bE (i:Nat):Nat->Nat:=fun x=>if x=i then 1 else 0
def I3 (p n:Nat) (T:Nat->Nat->Nat->Nat) (r:Nat):Nat->Nat:=Gi p n T (bE (r / (2*n))) (bE (r / (2*n))) n (r%(2*n))
theorem Mb {p n i k:Nat}{T:Nat->Nat->Nat->Nat}(hk:k<2*n):I3 p n T (i*(2*n)+k)=Gi p n T (bE i) (bE i) n k:=by
  have e1:(i*(2*n)+k) / (2*n)=i:=by rw [Nat.mul_comm,Nat.mul_add_div (by omega),Nat.div_eq_of_lt hk];omega
  have e2:(i*(2*n)+k)%(2*n)=k:=by rw [Nat.mul_comm,Nat.mul_add_mod,Nat.mod_eq_of_lt hk]
  unfold I3;rw [e1,e2]
theorem QC {p n g:Nat}{T:Nat->Nat->Nat->Nat}{bb cc:Nat->Nat}(hp:0<p)(hcc:∀ i,cc i<p):∀ r c,Gi p n T bb cc g r c<p:=fun r c=>by
  unfold Gi timesV
  split
  . split<;>exact Nat.mod_lt _ hp
  . split
    . exact hcc _
    . exact hp
theorem Qk {p i:Nat}(hp:2<=p):∀ c,bE i c<p:=fun c=>by unfold bE;split<;>omega
theorem JI {p n a i k:Nat}{T:Nat->Nat->Nat->Nat}(ha:a<n)(hi:i<n)(hT:T a i k<p):timesV p n T (fun x=>if x=a then 1 else 0) (bE i) k=T a i k:=by
  unfold timesV
  have e:(prodI T (fun x=>if x=a then 1 else 0) (bE i) n n k:Int)=(T a i k:Int):=by
    rw [GU ha,Cc hi]
    . simp [bE]
    . intro j _ hne;simp [bE,hne]
  rw [show prodI T (fun x=>if x=a then 1 else 0) (bE i) n n k=T a i k by omega];exact Nat.mod_eq_of_lt hT
theorem KB {p n r:Nat}{T:Nat->Nat->Nat->Nat}{bb cc x:Nat->Nat}(hn:n<=6) :
    dot 7 (ci (Gi p n T bb cc n r)) (Hv 6 x)=sI (fun a=>(x a:Int)*((if r<n then timesV p n T (fun x=>if x=a then 1 else 0) bb r else timesV p n T bb (fun x=>if x=a then 1 else 0) (r - n):Nat):Int)) n - (cc (r%n):Int):=by
  have e:dot 7 (ci (Gi p n T bb cc n r)) (Hv 6 x)=sI (fun c=>ci (Gi p n T bb cc n r) c*Hv 6 x c) 6+ci (Gi p n T bb cc n r) 6*Hv 6 x 6:=rfl;rw [e,HQ hn (fun c h1 h2=>by simp only [ci,Gi];rw [if_neg (by omega),if_neg (by omega)];simp)];have e1:sI (fun c=>ci (Gi p n T bb cc n r) c*Hv 6 x c) n=sI (fun a=>(x a:Int)*((if r<n then timesV p n T (fun x=>if x=a then 1 else 0) bb r else timesV p n T bb (fun x=>if x=a then 1 else 0) (r - n):Nat):Int)) n:=Aw fun c hc=>by
    rw [Iq (by omega)];simp only [ci,Gi,if_pos hc];exact Int.mul_comm _ _
  have e2:ci (Gi p n T bb cc n r) 6=(cc (r%n):Int):=by simp only [ci,Gi];rw [if_neg (by omega)];simp
  rw [e1,e2,Ip];omega
theorem PE {p n:Nat}{T:Nat->Nat->Nat->Nat}{bb cc x:Nat->Nat}(hn0:0<n)(hn:n<=6):Ker p 7 (Gi p n T bb cc n) (2*n) (Hv 6 x) ↔
    (∀ k,k<n->(p:Int)∣sI (fun a=>(x a:Int)*(timesV p n T (fun x=>if x=a then 1 else 0) bb k:Int)) n - (cc k:Int))/\(∀ k,k<n->(p:Int)∣sI (fun a=>(x a:Int)*(timesV p n T bb (fun x=>if x=a then 1 else 0) k:Int)) n - (cc k:Int)):=by
  constructor
  . intro h
    refine ⟨fun k hk=>?_,fun k hk=>?_⟩
    . have:=h k (by omega);rw [KB hn,Nat.mod_eq_of_lt hk] at this;simpa only [if_pos hk] using this
    . have:=h (n+k) (by omega);rw [KB hn,Nat.add_mod_left,Nat.mod_eq_of_lt hk] at this;simpa only [if_neg (show ¬ n+k<n by omega),Nat.add_sub_cancel_left] using this
  . intro h r hr
    rw [KB hn]
    by_cases e:r<n
    . rw [Nat.mod_eq_of_lt e];simp only [if_pos e];exact h.1 r e
    . have em:r%n=r - n:=by rw [Nat.mod_eq_sub_mod (by omega),Nat.mod_eq_of_lt (by omega)]
      rw [em];simp only [if_neg e];exact h.2 (r - n) (by omega)
theorem K6 {p n:Nat}{T:Nat->Nat->Nat->Nat}{x:Nat->Nat}(hp:2<=p)(hn0:0<n)(hn:n<=6)(hT:∀ i j k,T i j k<p):Ker p 7 (I3 p n T) (n*(2*n)) (Hv 6 x) ↔
    (∀ i,i<n->∀ c,c<n->(p:Int)∣sI (fun a=>(x a:Int)*(T a i c:Int)) n - (dl i c:Int))/\(∀ i,i<n->∀ c,c<n->(p:Int)∣sI (fun b=>(x b:Int)*(T i b c:Int)) n - (dl i c:Int)):=by
  have key:∀ i,i<n->(Ker p 7 (Gi p n T (bE i) (bE i) n) (2*n) (Hv 6 x)↔(∀ c,c<n->(p:Int)∣sI (fun a=>(x a:Int)*(T a i c:Int)) n - (dl i c:Int))/\(∀ c,c<n->(p:Int)∣sI (fun b=>(x b:Int)*(T i b c:Int)) n - (dl i c:Int))):=by
    intro i hi;rw [PE hn0 hn];have eb:∀ c,bE i c=dl i c:=fun c=>MY;refine and_congr (forall_congr' fun c=>imp_congr_right fun hc=>?_) (forall_congr' fun c=>imp_congr_right fun hc=>?_)
    . rw [eb,Aw (g:=fun a=>(x a:Int)*(T a i c:Int)) (fun a ha=>by rw [JI ha hi (hT _ _ _)])]
    . rw [eb,Aw (g:=fun b=>(x b:Int)*(T i b c:Int)) (fun b hb=>by rw [show timesV p n T (bE i) (fun x=>if x=b then 1 else 0) c=T i b c from JI (i:=b) hi hb (hT _ _ _)])]
  constructor
  . intro h
    have hh:∀ i,i<n->Ker p 7 (Gi p n T (bE i) (bE i) n) (2*n) (Hv 6 x):=fun i hi k hk=>by
      have hlt:i*(2*n)+k<n*(2*n):=by
        have h1:(i+1)*(2*n)<=n*(2*n):=Nat.mul_le_mul_right _ hi;have h2:(i+1)*(2*n)=i*(2*n)+2*n:=Nat.succ_mul i _
        omega
      have:=h (i*(2*n)+k) hlt
      rwa [Mb hk] at this
    exact ⟨fun i hi=>((key i hi).1 (hh i hi)).1,fun i hi=>((key i hi).1 (hh i hi)).2⟩
  . intro h r hr
    have hi:r / (2*n)<n:=(Nat.div_lt_iff_lt_mul (by omega)).2 hr;exact (key _ hi).2 ⟨h.1 _ hi,h.2 _ hi⟩ _ (Nat.mod_lt _ (by omega))
theorem NG {p n r c:Nat}{T:Nat->Nat->Nat->Nat}(h1:n<=c)(h2:c<6):I3 p n T r c=0:=by
  unfold I3 Gi;rw [if_neg (by omega),if_neg (by omega)]
theorem NF {p n k:Nat}{E:Nat->Nat->Nat}{ld:Nat->Nat}{T:Nat->Nat->Nat->Nat}(hp:2<=p)(hn0:0<n)(hn:n<=6)(hT:∀ i j k,T i j k<p)(hE1:∀ i c,E i c<p)(h:Rref p 7 E k ld)(hK:∀ x,Ker p 7 E k x↔Ker p 7 (I3 p n T) (n*(2*n)) x)(hl:¬ CI k ld 6) :
    UnitI p n T (fun c=>solK E ld 6 k c):=by
  have h1:=(K6 hp hn0 hn hT).1 ((hK _).1 (Oo h hl));refine ⟨fun c=>Oq (k:=k) (by omega) hE1 (p:=p) (N:=7),fun c hc=>?_,h1.1,h1.2⟩;refine Nj fun hlc=>?_;obtain ⟨j,hj,e⟩:=hlc;have h3:=h.lt j hj
  by_cases e6:c=6
  . exact hl ⟨j,hj,by omega⟩
  . exact Jv hp h hK (c:=c) (by omega) (fun i _=>NG hc (by omega)) ⟨j,hj,e⟩
theorem OL {p n k:Nat}{E:Nat->Nat->Nat}{ld:Nat->Nat}{T:Nat->Nat->Nat->Nat}(hp:2<=p)(hn0:0<n)(hn:n<=6)(hT:∀ i j k,T i j k<p)(h:Rref p 7 E k ld)(hK:∀ x,Ker p 7 E k x↔Ker p 7 (I3 p n T) (n*(2*n)) x)(hl:CI k ld 6)(u:Nat->Nat):¬ UnitI p n T u:=
  fun hu=>P2 hp h hl ((hK _).2 ((K6 hp hn0 hn hT).2 ⟨hu.right,hu.left⟩))
theorem Kx (p n:Nat)(T:Nat->Nat->Nat->Nat)(f:Nat->Nat)(w:World)(hp:primeN p)(hn0:0<n)(hn:n<=6)(hO:∀ i j k,T i j k<p) :
    CallsR Try.prog 94 #[.agg (AD (p:Int) (n:Int) T f)] w (fun res _=>(∃ u,UnitI p n T u/\res = .tuple #[.agg (AQ u),.bool true])\/((∀ u,¬ UnitI p n T u)/\res = .tuple #[.agg (AQ (fun _=>0)),.bool false])):=by
  refine Al [.agg (AD (p:Int) (n:Int) T f)] Try.func94 rfl Try.ntmps94 rfl fun a O=>?_;have J:Ag w w [none,none,none,none] []:=MemX.start w 4;change Fr 27 a [(0,.agg (AD (p:Int) (n:Int) T f))] at O;have hp2:=hp.two;have hp13:=hp.le;have hT:∀ i j k,T i j k<=255:=fun i j k=>by have:=hO i j k;omega
  refine sr<|Ar O (BI 0 J O rfl) rfl ?_;rintro _ w' a ⟨b1,rfl,J,-⟩ O;refine Ar O (Ah 1 J BE) rfl ?_;rintro _ w' a ⟨b2,rfl,J,-⟩ O;change Ag _ _ [some (b1,AD (p:Int) (n:Int) T f),some (b2,A1 6 (fun _=>.int .u8 (0))),_,_] [] at J;refine ag O rfl rfl fun a O=>ns<|ag O rfl rfl fun a O=>nt<|sq<|sr<|st O (AB AZ O rfl) rfl fun a O=>st O (AP AX O rfl (J.row 0 rfl) (Ao (by omega))) rfl fun a O=>mv O rfl rfl fun a O=>nt<|wp_block ?_;change Ag _ _ [_,_,_,_] [] at J;refine Av (fun (kk:Nat) a w'=>kk<=n/\∃ (D1:A7),∃ (β:Nat->Nat),(RowsB D1 7 (kk*(2*n)) β (I3 p n T)/\(∀ i,i<kk*(2*n)->w.heap.size<=β i))/\∃ (u4_1:Value) (e4_1:Option (Nat×Array Value)),Sl 1 u4_1 e4_1 (kk*(2*n)) (fun i=>.slice (some ⟨β i,0,none⟩) 7 7)/\Fr 27 a [(1,ptr b1 (0)),(2,ptr b2 (0)),(3,.bool (false)),(8,.int .i64 (n:Int)),(9,.int .i64 (kk:Int)),(4,u4_1)]/\Ag w w' [some (b1,AD (p:Int) (n:Int) T f),some (b2,A1 6 (fun _=>.int .u8 (0))),none,e4_1] D1) (fun kk=>n - kk) 0 ?_ ?_
  . refine ⟨by omega,[],(fun _=>0),⟨by rw [Nat.zero_mul];exact RowsB.none,fun i hi=>by rw [Nat.zero_mul] at hi;omega⟩,(.slice none 0 0),(none),(by rw [Nat.zero_mul];exact Sl.nil _ _),O.sub _ (by repeat' constructor),?_⟩
    exact J
  clear O J;rintro gi a w' ⟨hgi,D1,β,⟨hB,hH⟩,u4_1,e4_1,hsl,O,J⟩;have hgin:=Nat.le_trans (Nat.mul_le_mul_right (2*n) hgi) (Nat.mul_le_mul hn (Nat.mul_le_mul_left 2 hn));refine sr<|st O (A0 O rfl rfl) rfl fun a O=>nt<|sq<|Ab O rfl (fun h3=>?_) (fun h3=>?_)
  . refine wp_skip ?_
    refine tN<|sq<|wp_block<|sr<|mv O rfl rfl fun a O=>ag O rfl rfl fun a O=>ns<|mv O rfl rfl fun a O=>Ar O (Ae Try.call142 O (.cons rfl .nil) (C7 (gi) _ (by omega))) rfl ?_;rintro _ w' a ⟨hx,rfl⟩ O;have J:=J.ext hx;refine Ar O (Ah 2 J BE) rfl ?_;rintro _ w' a ⟨b4,rfl,J,-⟩ O;change Ag _ _ [_,_,some (b4,A1 6 (fun _=>.int .u8 (0))),_] _ at J;refine BQ O (AJ 2 J rfl A3 O rfl rfl At (by simp only [Aa]) (by simp only [Aa]<;>omega) (AH _ _ (by simp only [Aa]))) ?_;intro _ w' a J O;change Ag _ _ [_,_,some (b4,AQ (fun c=>if c=gi then 1 else 0)),_] _ at J;refine nt<|wp_region_lit<|mv O rfl rfl fun a O=>st O (AE AI O rfl (J.row 0 rfl) (by simp only [Aa]<;>omega) (whole AG)) rfl fun a O=>st O (AE Aq O rfl (J.row 2 rfl) (by simp only [Aa]<;>omega) (whole (by simp only [Aa]))) rfl fun a O=>st O (AE Aq O rfl (J.row 2 rfl) (by simp only [Aa]<;>omega) (whole (by simp only [Aa]))) rfl fun a O=>Ar O (Ae Try.call149 O (.cons rfl (.cons rfl (.cons rfl .nil))) (H0 p n T f ((fun c=>if c=gi then 1 else 0)) ((fun c=>if c=gi then 1 else 0)) _ (by omega) (by omega) (by omega) (by omega) (fun _ _ _=>hT _ _ _) (fun i=>by first | (dsimp only;split<;>omega) | (split<;>omega)) (fun i=>by first | (dsimp only;split<;>omega) | (split<;>omega)))) rfl ?_;rintro u w' a ⟨hx,hr⟩ O;obtain ⟨DQ,βq,bq,csq,hBq,rfl,hsq,hgq,hqm,hqb,hqg,hbqg,J,hqn⟩:=J.addBo hx hr;change Ag w w' [some (b1,AD (p:Int) (n:Int) T f),some (b2,A1 6 (fun _=>.int .u8 (0))),some (b4,AQ (fun c=>if c=gi then 1 else 0)),e4_1] (DQ++D1) at J;refine Ar O (Bg (k:=3) (N:=gi*(2*n)) (m:=(2*n)) (g:=fun i=>.slice (some ⟨βq (i),0,none⟩) 7 7) Fc rfl (by decide) J rfl O rfl rfl hsl (fun i hi=>((J.fzm hqm).cell _).trans (by have:=(hgq (i) (by omega));rwa [show 0+i*1=0+i by omega] at this)) (fun _ _=>rfl) (by omega) (by unfold maxLen;omega) (by omega)) rfl ?_;rintro u5 w' a ⟨e6,J,hs7⟩ O;change Ag w w' [some (b1,AD (p:Int) (n:Int) T f),some (b2,A1 6 (fun _=>.int .u8 (0))),some (b4,AQ (fun c=>if c=gi then 1 else 0)),e6] (DQ++D1) at J;refine ag O rfl rfl fun a O=>wpList_nil<|iN<|tN<|wp_region_lit<|st O (Ap O rfl rfl (Af (gi) (1) (by omega))) rfl fun a O=>mv O rfl rfl fun a O=>wpList_nil<|tN ?_;have hsl:=hs7.congr (g:=fun i=>.slice (some ⟨(fun i=>if i<gi*(2*n) then β i else βq (i - gi*(2*n))) i,0,none⟩) 7 7) (fun i hi=>by
      by_cases e:i<gi*(2*n)
      . rw [if_pos (by omega)];simp only [if_pos e]
      . rw [if_neg (by omega)];simp only [if_neg e,Nat.mul_one])
    have hB:=((hB.more (D':=(DQ++D1)) (fun x hx=>List.mem_append_right _ hx)).append hBq (fun i j hi hj=>hqn _ _ (hB.mem i hi) j hj)).congr (M':=I3 p n T) (fun r hr c _=>by
      by_cases e:r<gi*(2*n)
      . simp only [if_pos e]
      . simp only [if_neg e];have e2:=Mb (p:=p) (T:=T) (i:=gi) (show r - gi*(2*n)<2*n by omega);rw [show gi*(2*n)+(r - gi*(2*n))=r by omega] at e2;rw [e2];rfl)
    have hH:∀ i,i<gi*(2*n)+2*n->w.heap.size<=(fun i=>if i<gi*(2*n) then β i else βq (i - gi*(2*n))) i:=fun i hi=>by
      dsimp only;split
      . exact hH i (by omega)
      . exact hqg _ (by omega)
    have J:=J.drop 2;refine ⟨gi+1,⟨by omega,(DQ++D1),(fun i=>if i<gi*(2*n) then β i else βq (i - gi*(2*n))),⟨by rw [Nat.succ_mul];exact hB,by rw [Nat.succ_mul];exact hH⟩,(u5),(e6),(by rw [Nat.succ_mul];exact hsl),O.sub _ (by repeat' constructor),?_⟩,by omega⟩;exact J
  obtain rfl:n=gi:=by omega
  have hmm:=Nat.mul_le_mul hn (Nat.mul_le_mul_left 2 hn);have hm0:0<n*(2*n):=Nat.mul_pos (by omega) (by omega);obtain ⟨b0,c0,cs0,rfl,rfl,hs0⟩:=hsl.pos hm0;have hne0:∀ i,i<n*(2*n)->β i≠b0:=fun i hi e=>(J.froz _ _ (hB.mem i hi)).2 3 b0 cs0 rfl e.symm;have hgb0:=J.ge 3 rfl;have J:=J.freeze 3 rfl;change Ag w _ [some (b1,AD (p:Int) (n:Int) T f),some (b2,A1 6 (fun _=>.int .u8 (0))),none,none] ((b0,cs0)::D1) at J;refine wp_exit<|tX<|tX<|Am<|tN<|sr<|mv O rfl rfl fun a O=>st O (AB A2 O rfl) rfl fun a O=>st O (AP AX O rfl (J.row 0 rfl) (BU (by omega))) rfl fun a O=>Ar O (BA Try.call150 O (.cons rfl (.cons rfl .nil)) (Jp p (n*(2*n)) b0 c0 cs0 β (I3 p n T) _ hp (by omega) hs0.le (fun r c=>QC (by omega) (Qk hp2) _ _) (J.fzm (List.mem_cons_self ..)) (by have:=hs0.sz;have:=hs0.le;omega) (fun i hi=>hs0.get1 i hi) (fun i hi=>J.fzm (List.mem_cons_of_mem _ (hB.mem i hi))) hB.inj hne0)) rfl ?_;rintro _ w' a ⟨hx,k,E,ld,hE,hKer,hE1,⟨hl,rfl⟩ | ⟨hl,rfl⟩⟩ O
  . have J:=J.swapD (D':=[]) hx (fun y hy=>by
     rcases List.mem_cons.1 hy with e | hy
     . exact ⟨cs0,by rw [e];exact List.mem_cons_self ..⟩
     . obtain ⟨i,hi,rfl⟩:=List.mem_map.1 hy
       exact ⟨_,List.mem_cons_of_mem _ (hB.mem i (by simpa using hi))⟩) (fun y hy=>by
     rcases List.mem_cons.1 hy with e | hy
     . exact .inl (by rw [e];exact hgb0)
     . obtain ⟨i,hi,rfl⟩:=List.mem_map.1 hy
       exact .inl (hH i (by simpa using hi))) (fun _ _ h=>by cases h)
    change Ag w w' [some (b1,AD (p:Int) (n:Int) T f),some (b2,A1 6 (fun _=>.int .u8 (0))),none,none] [] at J;refine st O (Aj O rfl rfl) rfl fun a O=>st O (Aj O rfl rfl) rfl fun a O=>BQ O (AJ 1 J rfl A3 O rfl rfl At (by simp only [Aa]) (by simp only [Aa]<;>omega) (AH _ _ (by simp only [Aa]))) ?_;intro _ w' a J O;change Ag _ _ [_,some (b2,AQ (fun c=>solK E ld 6 k c)),_,_] [] at J;refine ag O rfl rfl fun a O=>nt<|wp_ret<|CN rfl O.defers (A5 Aq O rfl (J.row 1 rfl) (by simp only [Aa])) (Ad O rfl) ⟨_,rfl,J.below,?_⟩;exact .inl ⟨_,NF hp2 hn0 hn hO hE1 hE hKer hl,rfl⟩
  have J:=J.swapD (D':=[]) hx (fun y hy=>by
   rcases List.mem_cons.1 hy with e | hy
   . exact ⟨cs0,by rw [e];exact List.mem_cons_self ..⟩
   . obtain ⟨i,hi,rfl⟩:=List.mem_map.1 hy
     exact ⟨_,List.mem_cons_of_mem _ (hB.mem i (by simpa using hi))⟩) (fun y hy=>by
   rcases List.mem_cons.1 hy with e | hy
   . exact .inl (by rw [e];exact hgb0)
   . obtain ⟨i,hi,rfl⟩:=List.mem_map.1 hy
     exact .inl (hH i (by simpa using hi))) (fun _ _ h=>by cases h)
  change Ag w w' [some (b1,AD (p:Int) (n:Int) T f),some (b2,A1 6 (fun _=>.int .u8 (0))),none,none] [] at J;refine st O (Aj O rfl rfl) rfl fun a O=>st O (Aj O rfl rfl) rfl fun a O=>BQ O (AJ 1 J rfl A3 O rfl rfl At (by simp only [Aa]) (by simp only [Aa]<;>omega) (AH _ _ (by simp only [Aa]))) ?_;intro _ w' a J O;change Ag _ _ [_,some (b2,AQ (fun _=>0)),_,_] [] at J;refine ag O rfl rfl fun a O=>nt<|wp_ret<|CN rfl O.defers (A5 Aq O rfl (J.row 1 rfl) (by simp only [Aa])) (Ad O rfl) ⟨_,rfl,J.below,?_⟩;exact .inr ⟨fun u=>OL hp2 hn0 hn hO hE hKer hl u,rfl⟩
open Classical
theorem CallsR.val {P:Program}{f:FuncId}{args:Array Value}{w:World}{v v':Value}(h:CallsR P f args w (fun u _=>u=v))(e:v=v'):CallsR P f args w (fun u _=>u=v'):=e ▸ h
def QO (p n:Nat) (T:Nat->Nat->Nat->Nat):Prop:=∀ i,i<n->∀ j,j<n->∀ k,k<n->IA 6 (timesS p n T (T i j) (fun c=>if c=k then 1 else 0)) (timesS p n T (fun c=>if c=i then 1 else 0) (T j k))
def PT (p n:Nat) (T:Nat->Nat->Nat->Nat):Prop:=QO p n T/\∃ u,UnitI p n T u
def trunc (n:Nat) (T:Nat->Nat->Nat->Nat) (i j k:Nat):Nat:=if i<n/\j<n/\k<n then T i j k else 0
def B4 (p n:Int) (T:Nat->Nat->Nat->Nat) (f:Nat->Nat):Prop:=DR p n T f/\PT p.toNat n.toNat (trunc n.toNat T)
theorem IJ {f:Nat->Nat}{n:Nat}(h:∀ i,i<n->f i=0):sumTo f n=0:=by
  induction n with
  | zero=>rfl
  | succ n ih=>simp only [sumTo];rw [ih (fun i hi=>h i (by omega)),h n (by omega)]
theorem LP {p n c:Nat}{T:Nat->Nat->Nat->Nat}{v u:Nat->Nat}(hZ:∀ i j k,n<=k->T i j k=0)(hc:n<=c):timesV p n T v u c=0:=by
  unfold timesV prodI
  rw [IJ (fun i _=>IJ fun j _=>by rw [hZ i j c hc];simp)]
  simp
theorem NR {p n:Nat}{T:Nat->Nat->Nat->Nat}(hZ:∀ i j k,n<=k->T i j k=0)(v u:Nat->Nat):timesV p n T v u=timesS p n T v u:=by
  funext c
  unfold timesS
  by_cases h:c<n
  . rw [if_pos h]
  . rw [if_neg h,LP hZ (by omega)]
theorem Mc {p n:Nat}{T:Nat->Nat->Nat->Nat}(hZ:∀ i j k,n<=k->T i j k=0):QI p n T↔QO p n T:=by
  unfold QI Pi QG QO
  simp only [NR hZ];exact ⟨fun h i hi j hj k hk=>h j hj i hi k hk,fun h j hj i hi k hk=>h i hi j hj k hk⟩
theorem Oy {p n:Int}{T:Nat->Nat->Nat->Nat}{i j:Nat}(hp:0<p):Kd p n T i j↔Gp p n T i j:=by
  unfold Kd Gp
  by_cases h:(i:Int)≥n\/(j:Int)≥n
  . rw [if_pos h]
    constructor
    . intro h1 c hc
      have h2:IA 6 (T i j) (fun _=>0):=Classical.byContradiction fun h3=>h1 (.inl ⟨by omega,h3⟩);have h4:=h2 c hc
      dsimp only at h4
      unfold GW;omega
    . intro h1 h2
      have h0:∀ c,c<6->T i j c=0:=fun c hc=>by have:=h1 c hc;unfold GW at this;omega
      rcases h2 with ⟨_,h3⟩ | h3
      . exact h3 h0
      . exact h3 fun c hc=>by have:=h0 c hc;unfold GW;omega
  . rw [if_neg h]
    constructor
    . intro h1;exact Classical.byContradiction fun h3=>h1 (.inr h3)
    . rintro h1 (⟨h2,_⟩ | h2)
      . exact h2 ⟨by omega,by omega⟩
      . exact h2 h1
theorem JK {p n:Int}{T:Nat->Nat->Nat->Nat}(hp:0<p):KG 6 (Kd p n T)↔KG 6 (Gp p n T):=by
  unfold KG
  simp only [Oy hp]
theorem C4 {p:Int}(h:BT p):0<p:=by unfold BT at h;omega
theorem FT {p n:Int}{T:Nat->Nat->Nat->Nat}{f:Nat->Nat}(h:DR p n T f):AD p n T f=AD p n (trunc n.toNat T) f:=by
  obtain ⟨_,hn,_,hT⟩:=h
  unfold AD
  refine BS fun c hc=>?_
  by_cases h0:c=0
  . rw [if_pos h0,if_pos h0]
  . rw [if_neg h0,if_neg h0]
    by_cases h1:c=1
    . rw [if_pos h1,if_pos h1]
    . rw [if_neg h1,if_neg h1]
      by_cases h2:c<218
      . rw [if_pos h2,if_pos h2]
        have:=hT ((c - 2) / 36) (by omega) ((c - 2) / 6%6) (by omega) ((c - 2)%6) (by omega);have e:trunc n.toNat T ((c - 2) / 36) ((c - 2) / 6%6) ((c - 2)%6)=T ((c - 2) / 36) ((c - 2) / 6%6) ((c - 2)%6):=by
          unfold trunc;split
          . rfl
          . rename_i hno
            unfold GW at this
            split at this<;>omega
        rw [e]
      . rw [if_neg h2,if_neg h2]
theorem Gl {p n:Int}{T:Nat->Nat->Nat->Nat}{f:Nat->Nat}(h:DR p n T f)(i j k:Nat):trunc n.toNat T i j k<p.toNat:=by
  obtain ⟨hp,hn,_,hT⟩:=h;have hp0:=C4 hp
  unfold trunc;split
  . rename_i hh
    have:=hT i (by omega) j (by omega) k (by omega)
    unfold GW at this
    omega
  . omega
theorem F6 {n:Nat}{T:Nat->Nat->Nat->Nat}(i j k:Nat)(h:n<=k):trunc n T i j k=0:=by unfold trunc;rw [if_neg (by omega)]
theorem EX {p n:Int}{T:Nat->Nat->Nat->Nat}{f:Nat->Nat}(h:DR p n T f):DR p n (trunc n.toNat T) f:=by
  refine ⟨h.1,h.2.1,h.2.2.1,fun i hi j hj c hc=>?_⟩;have h1:=h.2.2.2 i hi j hj c hc;have hp:=C4 h.1
  by_cases e:i<n.toNat/\j<n.toNat/\c<n.toNat
  . have e2:trunc n.toNat T i j c=T i j c:=by unfold trunc;rw [if_pos e]
    rw [e2];exact h1
  . have e2:trunc n.toNat T i j c=0:=by unfold trunc;rw [if_neg e]
    rw [e2];unfold GW;omega
theorem GB {p:Int}(h:BT p):primeN p.toNat:=by unfold BT at h;unfold primeN;omega
theorem Ko (p n:Int)(T:Nat->Nat->Nat->Nat)(f:Nat->Nat)(w:World)(hT:∀ i j k,T i j k<=255)(hf:∀ i,f i<=255)(hJ:¬ DR p n T f) :
    CallsR Try.prog 95 #[.agg (AD p n T f)] w (fun res _=>res = .bool false):=by
  refine Al [.agg (AD p n T f)] Try.func95 rfl Try.ntmps95 rfl fun a O=>?_;have J:Ag w w [none,none] []:=MemX.start w 2;change Fr 56 a [(0,.agg (AD p n T f))] at O;refine sr<|Ar O (BI 0 J O rfl) rfl ?_;rintro _ w' a ⟨b1,rfl,J,-⟩ O;change Ag _ _ [some (b1,AD p n T f),_] [] at J;refine ag O rfl rfl fun a O=>nt<|sq<|sr<|st O (AE AI O rfl (J.row 0 rfl) (by simp only [Aa]<;>omega) (whole AG)) rfl fun a O=>Ar O (Ae Try.call151 O (.cons rfl .nil) ((CallsR.val (Hr p n T f _ (fun _ _ _=>hT _ _ _) (fun _=>hf _)) (congrArg Value.bool (decide_eq_false hJ))))) rfl ?_;rintro _ w' a ⟨hx,rfl⟩ O;have J:=J.ext hx;refine st O (Cw (b:=false) O rfl) rfl fun a O=>nt<|It O rfl<|sr<|ag O rfl rfl fun a O=>nt<|wp_ret<|tR<|BC rfl O.defers (Ad O rfl) ⟨_,rfl,J.below,?_⟩
  show _=_
  rfl
theorem Kn (p n:Nat)(T:Nat->Nat->Nat->Nat)(f:Nat->Nat)(w:World)(hp:primeN p)(hn0:0<n)(hn:n<=6)(hO:∀ i j k,T i j k<p)(hZ:∀ i j k,n<=k->T i j k=0)(hf:∀ i,f i<=255)(hJ:DR (p:Int) (n:Int) T f) :
    CallsR Try.prog 95 #[.agg (AD (p:Int) (n:Int) T f)] w (fun res _=>res = .bool (decide (PT p n T))):=by
  refine Al [.agg (AD (p:Int) (n:Int) T f)] Try.func95 rfl Try.ntmps95 rfl fun a O=>?_;have J:Ag w w [none,none] []:=MemX.start w 2;change Fr 56 a [(0,.agg (AD (p:Int) (n:Int) T f))] at O;have hp2:=hp.two;have hp13:=hp.le;have hT:∀ i j k,T i j k<=255:=fun i j k=>by have:=hO i j k;omega
  refine sr<|Ar O (BI 0 J O rfl) rfl ?_;rintro _ w' a ⟨b1,rfl,J,-⟩ O;change Ag _ _ [some (b1,AD (p:Int) (n:Int) T f),_] [] at J;refine ag O rfl rfl fun a O=>nt<|sq<|sr<|st O (AE AI O rfl (J.row 0 rfl) (by simp only [Aa]<;>omega) (whole AG)) rfl fun a O=>Ar O (Ae Try.call151 O (.cons rfl .nil) ((CallsR.val (Hr (p:Int) (n:Int) T f _ (fun _ _ _=>hT _ _ _) (fun _=>hf _)) (congrArg Value.bool (decide_eq_true hJ))))) rfl ?_;rintro _ w' a ⟨hx,rfl⟩ O;have J:=J.ext hx;refine st O (Cw (b:=true) O rfl) rfl fun a O=>nt<|EE O rfl<|wp_skip<|tN<|sq<|sr<|ag O rfl rfl fun a O=>nt<|wp_block ?_;change Ag w _ [some (b1,AD (p:Int) (n:Int) T f),none] [] at J;refine Av (fun (kk:Nat) a w'=>kk<=n/\(∀ i,i<kk->∀ j,j<n->∀ k,k<n->IA 6 (timesS p n T (T i j) (fun c=>if c=k then 1 else 0)) (timesS p n T (fun c=>if c=i then 1 else 0) (T j k)))/\Fr 56 a [(1,ptr b1 (0)),(10,.bool (false)),(3,.int .i64 (kk:Int))]/\Ag w w' [some (b1,AD (p:Int) (n:Int) T f),none] []) (fun kk=>n - kk) 0 ?_ ?_
  . refine ⟨by omega,fun i hi=>absurd hi (by omega),O.sub _ (by repeat' constructor),?_⟩
    exact J
  clear O J;rintro gi a w' ⟨hgi,hinv1,O,J⟩;refine sq<|sr<|mv O rfl rfl fun a O=>st O (AB AZ O rfl) rfl fun a O=>st O (AP AX O rfl (J.row 0 rfl) (Ao (by omega))) rfl fun a O=>st O (A0 O rfl rfl) rfl fun a O=>nt<|Ab O rfl (fun h3=>?_) (fun h3=>?_)
  . refine wp_skip ?_
    refine tN<|sq<|wp_block<|sr<|ag O rfl rfl fun a O=>nt<|wp_block ?_;change Ag w _ [some (b1,AD (p:Int) (n:Int) T f),none] [] at J;refine Av (fun (kk:Nat) a w'=>kk<=n/\(∀ j,j<kk->∀ k,k<n->IA 6 (timesS p n T (T gi j) (fun c=>if c=k then 1 else 0)) (timesS p n T (fun c=>if c=gi then 1 else 0) (T j k)))/\Fr 56 a [(1,ptr b1 (0)),(10,.bool (false)),(3,.int .i64 (gi:Int)),(11,.int .i64 (gi:Int)),(12,ptr b1 (0+1)),(13,.int .i64 (n:Int)),(14,.bool (decide (((gi:Int):Int)<(n:Int)))),(4,.int .i64 (kk:Int))]/\Ag w w' [some (b1,AD (p:Int) (n:Int) T f),none] []) (fun kk=>n - kk) 0 ?_ ?_
    . refine ⟨by omega,fun i hi=>absurd hi (by omega),O.sub _ (by repeat' constructor),?_⟩
      exact J
    clear O J;rintro gj a w' ⟨hgj,hinv2,O,J⟩;refine sq<|sr<|mv O rfl rfl fun a O=>st O (AB AZ O rfl) rfl fun a O=>st O (AP AX O rfl (J.row 0 rfl) (Ao (by omega))) rfl fun a O=>st O (A0 O rfl rfl) rfl fun a O=>nt<|Ab O rfl (fun h4=>?_) (fun h4=>?_)
    . refine wp_skip ?_
      refine tN<|sq<|wp_block<|sr<|ag O rfl rfl fun a O=>nt<|wp_block ?_;change Ag w _ [some (b1,AD (p:Int) (n:Int) T f),none] [] at J;refine Av (fun (kk:Nat) a w'=>kk<=n/\(∀ k,k<kk->IA 6 (timesS p n T (T gi gj) (fun c=>if c=k then 1 else 0)) (timesS p n T (fun c=>if c=gi then 1 else 0) (T gj k)))/\Fr 56 a [(1,ptr b1 (0)),(10,.bool (false)),(3,.int .i64 (gi:Int)),(11,.int .i64 (gi:Int)),(12,ptr b1 (0+1)),(13,.int .i64 (n:Int)),(14,.bool (decide (((gi:Int):Int)<(n:Int)))),(4,.int .i64 (gj:Int)),(17,.int .i64 (gj:Int)),(18,ptr b1 (0+1)),(19,.int .i64 (n:Int)),(20,.bool (decide (((gj:Int):Int)<(n:Int)))),(5,.int .i64 (kk:Int))]/\Ag w w' [some (b1,AD (p:Int) (n:Int) T f),none] []) (fun kk=>n - kk) 0 ?_ ?_
      . refine ⟨by omega,fun i hi=>absurd hi (by omega),O.sub _ (by repeat' constructor),?_⟩
        exact J
      clear O J;rintro gk a w' ⟨hgk,hinv3,O,J⟩;refine sq<|sr<|mv O rfl rfl fun a O=>st O (AB AZ O rfl) rfl fun a O=>st O (AP AX O rfl (J.row 0 rfl) (Ao (by omega))) rfl fun a O=>st O (A0 O rfl rfl) rfl fun a O=>nt<|Ab O rfl (fun h5=>?_) (fun h5=>?_)
      . refine wp_skip ?_
        refine tN<|sq<|wp_block<|sq<|BV 19 [] [.val (.agg (AD (p:Int) (n:Int) T f)),.val (.int .i64 (gi:Int)),.val (.int .i64 (gj:Int)),.val (ptr b1 (0+2)),.val (ptr b1 (0+2+(gi)*36)),.val (ptr b1 (0+2+(gi)*36+(gj)*6)),.val (.agg (AQ (T (gi) (gj)))),.val (.int .i64 (gk:Int)),.val (.agg (AQ (fun c=>if c=gk then 1 else 0))),.val (.agg (AQ (timesS p n T ((T (gi) (gj))) ((fun c=>if c=gk then 1 else 0))))),.val (.agg (AD (p:Int) (n:Int) T f)),.val (.int .i64 (gi:Int)),.val (.agg (AQ (fun c=>if c=gi then 1 else 0))),.val (.int .i64 (gj:Int)),.val (.int .i64 (gk:Int)),.val (ptr b1 (0+2)),.val (ptr b1 (0+2+(gj)*36)),.val (ptr b1 (0+2+(gj)*36+(gk)*6)),.val (.agg (AQ (T (gj) (gk))))] Bf rfl O rfl J ⟨fun a w gG O hS hd=>by have J:=hS.mem rfl;exact AA hS rfl (AE AI O rfl (J.row 0 rfl) (by simp only [Aa]<;>omega) (whole AG)),fun a w gG O hS hd=>by exact BP hS rfl O rfl,fun a w gG O hS hd=>by exact BP hS rfl O rfl,fun a w gG O hS hd=>by exact AA hS rfl (AB Ax O rfl),fun a w gG O hS hd=>by have O:=O.ext1 30 (hd 1 rfl rfl);have O:=O.ext1 32 (hd 3 rfl rfl);exact AA hS rfl (AF BF O rfl rfl rfl (by omega)),fun a w gG O hS hd=>by have O:=O.ext1 31 (hd 2 rfl rfl);have O:=O.ext1 33 (hd 4 rfl rfl);exact AA hS rfl (AF BG O rfl rfl rfl (by omega)),fun a w gG O hS hd=>by have O:=O.ext1 34 (hd 5 rfl rfl);have J:=hS.mem rfl;exact AA hS rfl (AE BY O rfl (J.row 0 rfl) (by simp only [Aa]<;>omega) (CQ (gi) (gj) (by omega) (by omega) (by omega) (by omega))),fun a w gG O hS hd=>by exact BP hS rfl O rfl,fun a w gG O hS hd=>by have O:=O.ext1 36 (hd 7 rfl rfl);exact BL (by repeat constructor) hS rfl (Ae Try.call143 O (.cons rfl .nil) (B5 (gk) _ (by omega))),fun a w gG O hS hd=>by have O:=O.ext1 29 (hd 0 rfl rfl);have O:=O.ext1 35 (hd 6 rfl rfl);have O:=O.ext1 37 (hd 8 rfl rfl);exact BL (by repeat constructor) hS rfl (Ae Try.call89 O (.cons rfl (.cons rfl (.cons rfl .nil))) (Cg p n T f ((T (gi) (gj))) ((fun c=>if c=gk then 1 else 0)) _ (by omega) (by omega) (by omega) (fun _ _ _=>hT _ _ _) (fun _=>by first | exact hv _ | exact hu _ | exact hT _ _ _ | exact hf _ | omega | (split<;>omega) | (dsimp only;split<;>omega) | assumption) (fun _=>by first | exact hv _ | exact hu _ | exact hT _ _ _ | exact hf _ | omega | (split<;>omega) | (dsimp only;split<;>omega) | assumption))),fun a w gG O hS hd=>by have J:=hS.mem rfl;exact AA hS rfl (AE AI O rfl (J.row 0 rfl) (by simp only [Aa]<;>omega) (whole AG)),fun a w gG O hS hd=>by exact BP hS rfl O rfl,fun a w gG O hS hd=>by have O:=O.ext1 40 (hd 11 rfl rfl);exact BL (by repeat constructor) hS rfl (Ae Try.call143 O (.cons rfl .nil) (B5 (gi) _ (by omega))),fun a w gG O hS hd=>by exact BP hS rfl O rfl,fun a w gG O hS hd=>by exact BP hS rfl O rfl,fun a w gG O hS hd=>by exact AA hS rfl (AB Ax O rfl),fun a w gG O hS hd=>by have O:=O.ext1 42 (hd 13 rfl rfl);have O:=O.ext1 44 (hd 15 rfl rfl);exact AA hS rfl (AF BF O rfl rfl rfl (by omega)),fun a w gG O hS hd=>by have O:=O.ext1 43 (hd 14 rfl rfl);have O:=O.ext1 45 (hd 16 rfl rfl);exact AA hS rfl (AF BG O rfl rfl rfl (by omega)),fun a w gG O hS hd=>by have O:=O.ext1 46 (hd 17 rfl rfl);have J:=hS.mem rfl;exact AA hS rfl (AE BY O rfl (J.row 0 rfl) (by simp only [Aa]<;>omega) (CQ (gj) (gk) (by omega) (by omega) (by omega) (by omega))),trivial⟩ ?_;intro a w' L O hS hq;have O:=O.ext1 29 (hq 0 rfl rfl);have O:=O.ext1 30 (hq 1 rfl rfl)
        have O:=O.ext1 31 (hq 2 rfl rfl);have O:=O.ext1 32 (hq 3 rfl rfl);have O:=O.ext1 33 (hq 4 rfl rfl);have O:=O.ext1 34 (hq 5 rfl rfl);have O:=O.ext1 35 (hq 6 rfl rfl);have O:=O.ext1 36 (hq 7 rfl rfl);have O:=O.ext1 37 (hq 8 rfl rfl);have O:=O.ext1 38 (hq 9 rfl rfl);have O:=O.ext1 39 (hq 10 rfl rfl);have O:=O.ext1 40 (hq 11 rfl rfl);have O:=O.ext1 41 (hq 12 rfl rfl);have O:=O.ext1 42 (hq 13 rfl rfl);have O:=O.ext1 43 (hq 14 rfl rfl);have O:=O.ext1 44 (hq 15 rfl rfl);have O:=O.ext1 45 (hq 16 rfl rfl);have O:=O.ext1 46 (hq 17 rfl rfl);have O:=O.ext1 47 (hq 18 rfl rfl);have J:=hS.mem rfl;change wpList Try.prog _ _ [_,_] _ _;refine Ar O (Ae Try.call89 O (.cons rfl (.cons rfl (.cons rfl .nil))) (Cg p n T f ((fun c=>if c=gi then 1 else 0)) ((T (gj) (gk))) _ (by omega) (by omega) (by omega) (fun _ _ _=>hT _ _ _) (fun _=>by first | exact hv _ | exact hu _ | exact hT _ _ _ | exact hf _ | omega | (split<;>omega) | (dsimp only;split<;>omega) | assumption) (fun _=>by first | exact hv _ | exact hu _ | exact hT _ _ _ | exact hf _ | omega | (split<;>omega) | (dsimp only;split<;>omega) | assumption))) rfl ?_;rintro _ w' a ⟨hx,rfl⟩ O;have J:=J.ext hx;refine st O (ET Fi O rfl rfl (CT DH CL Ai)) rfl fun a O=>nt<|Ab O rfl (fun h6=>?_) (fun h6=>?_)
        . refine sq ?_
          refine wp_region_lit<|ag O rfl rfl fun a O=>nt<|wp_ret<|iR<|tR<|tR<|iR<|iR<|tR<|tR<|iR<|iR<|tR<|tR<|iR<|tR<|BC rfl O.defers (Ad O rfl) ⟨_,rfl,J.below,?_⟩
          show _=_
          exact Cd (fun hq=>(by assumption:¬ IA 6 _ _) (hq.1 gi (by omega) gj (by omega) gk (by omega)))
        refine wp_skip<|iN<|tN<|wp_region_lit<|mv O rfl rfl fun a O=>st O (Ap O rfl rfl (Af (gk) (1) (by omega))) rfl fun a O=>ag O rfl rfl fun a O=>nt<|⟨gk+1,⟨by omega,Ei hinv3 (Decidable.not_not.1 (by assumption)),O.sub _ (by repeat' constructor),?_⟩,by omega⟩;exact J
      obtain rfl:n=gk:=by omega
      refine wp_exit<|tX<|tX<|Am<|iN<|tN<|wp_region_lit<|mv O rfl rfl fun a O=>st O (Ap O rfl rfl (Af (gj) (1) (by omega))) rfl fun a O=>ag O rfl rfl fun a O=>nt<|⟨gj+1,⟨by omega,Ei hinv2 hinv3,O.sub _ (by repeat' constructor),?_⟩,by omega⟩;exact J
    obtain rfl:n=gj:=by omega
    refine wp_exit<|tX<|tX<|Am<|iN<|tN<|wp_region_lit<|mv O rfl rfl fun a O=>st O (Ap O rfl rfl (Af (gi) (1) (by omega))) rfl fun a O=>ag O rfl rfl fun a O=>nt<|⟨gi+1,⟨by omega,Ei hinv1 hinv2,O.sub _ (by repeat' constructor),?_⟩,by omega⟩;exact J
  obtain rfl:n=gi:=by omega
  refine wp_exit<|tX<|tX<|Am<|tN<|sr<|st O (AE AI O rfl (J.row 0 rfl) (by simp only [Aa]<;>omega) (whole AG)) rfl fun a O=>Ar O (Ae Try.call152 O (.cons rfl .nil) (Ga p n T f _ hp hn0 hn hO)) rfl ?_;rintro _ w' a ⟨hx,⟨uu,huu,rfl⟩ | ⟨huu,rfl⟩⟩ O
  . have J:=J.ext hx
    refine mv O rfl rfl fun a O=>st O (Aj O rfl rfl) rfl fun a O=>st O (Aj O rfl rfl) rfl fun a O=>Ar O (Ah 1 J BE) rfl ?_;rintro _ w' a ⟨b7,rfl,J,-⟩ O;change Ag _ _ [_,some (b7,A1 6 (fun _=>.int .u8 (0)))] [] at J;refine BQ O (AJ 1 J rfl A3 O rfl rfl At (by simp only [Aa]) (by simp only [Aa]<;>omega) (AH _ _ (by simp only [Aa]))) ?_;intro _ w' a J O;change Ag _ _ [_,some (b7,AQ uu)] [] at J;refine ag O rfl rfl fun a O=>ns<|mv O rfl rfl fun a O=>ag O rfl rfl fun a O=>nt<|wp_ret<|BC rfl O.defers (Ad O rfl) ⟨_,rfl,J.below,?_⟩
    show _=_
    exact Ge ⟨hinv1,_,huu⟩
  have J:=J.ext hx;refine mv O rfl rfl fun a O=>st O (Aj O rfl rfl) rfl fun a O=>st O (Aj O rfl rfl) rfl fun a O=>Ar O (Ah 1 J BE) rfl ?_;rintro _ w' a ⟨b8,rfl,J,-⟩ O;change Ag _ _ [_,some (b8,A1 6 (fun _=>.int .u8 (0)))] [] at J;refine BQ O (AJ 1 J rfl A3 O rfl rfl At (by simp only [Aa]) (by simp only [Aa]<;>omega) (AH _ _ (by simp only [Aa]))) ?_;intro _ w' a J O;change Ag _ _ [_,some (b8,AQ (fun _=>0))] [] at J;refine ag O rfl rfl fun a O=>ns<|mv O rfl rfl fun a O=>ag O rfl rfl fun a O=>nt<|wp_ret<|BC rfl O.defers (Ad O rfl) ⟨_,rfl,J.below,?_⟩
  show _=_
  exact Cd (fun hq=>by obtain ⟨u,hu⟩:=hq.2;exact huu u hu)
theorem L7 (p n:Int)(T:Nat->Nat->Nat->Nat)(f:Nat->Nat)(w:World)(hT:∀ i j k,T i j k<=255)(hf:∀ i,f i<=255)(hJ:¬ DR p n T f) :
    CallsR Try.prog 12 #[.agg (AD p n T f)] w (fun res _=>res = .bool false):=by
  refine Al [.agg (AD p n T f)] Try.func12 rfl Try.ntmps12 rfl fun a O=>?_;have J:Ag w w [none,none] []:=MemX.start w 2;change Fr 40 a [(0,.agg (AD p n T f))] at O;refine sr<|Ar O (BI 0 J O rfl) rfl ?_;rintro _ w' a ⟨b1,rfl,J,-⟩ O;change Ag _ _ [some (b1,AD p n T f),_] [] at J;refine ag O rfl rfl fun a O=>nt<|sq<|sr<|st O (AB A2 O rfl) rfl fun a O=>st O (AP AX O rfl (J.row 0 rfl) (BU (by omega))) rfl fun a O=>Ar O (Ae Try.call90 O (.cons rfl .nil) (IW (p) _)) rfl ?_;rintro _ w' a ⟨hx,rfl⟩ O;have J:=J.ext hx;refine st O (CW O rfl) rfl fun a O=>mv O rfl rfl fun a O=>?_
  by_cases g2:¬ (BT (p))
  . first | rw [decide_eq_true g2] at O | simp only [decide_eq_true g2] at O
    refine Bm O rfl rfl rfl rfl rfl fun a O=>Bm O rfl rfl rfl rfl rfl fun a O=>Bm O rfl rfl rfl rfl rfl fun a O=>st O (BD O rfl rfl) rfl fun a O=>mv O rfl rfl fun a O=>Bm O rfl rfl rfl rfl rfl fun a O=>Bm O rfl rfl rfl rfl rfl fun a O=>Bm O rfl rfl rfl rfl rfl fun a O=>st O (BD O rfl rfl) rfl fun a O=>nt<|It O rfl<|sr<|ag O rfl rfl fun a O=>nt<|wp_ret<|tR<|BC rfl O.defers (Ad O rfl) ⟨_,rfl,J.below,?_⟩
    show _=_
    rfl
  first | rw [decide_eq_false g2] at O | simp only [decide_eq_false g2] at O
  refine BX O rfl rfl rfl (AB AZ O rfl) rfl fun a O=>BX O rfl rfl rfl (AP AX O rfl (J.row 0 rfl) (Ao (by omega))) rfl fun a O=>BX O rfl rfl rfl (A0 O rfl rfl) rfl fun a O=>st O (A8 O rfl rfl) rfl fun a O=>mv O rfl rfl fun a O=>?_
  by_cases g4:(n:Int)<1
  . first | rw [decide_eq_true g4] at O | simp only [decide_eq_true g4] at O
    refine Bm O rfl rfl rfl rfl rfl fun a O=>Bm O rfl rfl rfl rfl rfl fun a O=>Bm O rfl rfl rfl rfl rfl fun a O=>st O (BD O rfl rfl) rfl fun a O=>nt<|It O rfl<|sr<|ag O rfl rfl fun a O=>nt<|wp_ret<|tR<|BC rfl O.defers (Ad O rfl) ⟨_,rfl,J.below,?_⟩
    show _=_
    rfl
  first | rw [decide_eq_false g4] at O | simp only [decide_eq_false g4] at O
  refine BX O rfl rfl rfl (AB AZ O rfl) rfl fun a O=>BX O rfl rfl rfl (AP AX O rfl (J.row 0 rfl) (Ao (by omega))) rfl fun a O=>BX O rfl rfl rfl (Fo O rfl rfl) rfl fun a O=>st O (A8 O rfl rfl) rfl fun a O=>nt<|Ab O rfl (fun h6=>?_) (fun h6=>?_)
  . refine sq ?_
    refine wp_region_lit<|ag O rfl rfl fun a O=>nt<|wp_ret<|tR<|BC rfl O.defers (Ad O rfl) ⟨_,rfl,J.below,?_⟩
    show _=_
    rfl
  refine wp_skip<|tN<|sq<|sr<|st O (AE AI O rfl (J.row 0 rfl) (by simp only [Aa]<;>omega) (whole AG)) rfl fun a O=>st O (AB BO O rfl) rfl fun a O=>st O (AE Aq O rfl (J.row 0 rfl) (by simp only [Aa]<;>omega) (EK (by omega) (by omega))) rfl fun a O=>Ar O (Ae Try.call91 O (.cons rfl (.cons rfl .nil)) (Dz p n T f (f) _ (fun _=>by first | exact hv _ | exact hu _ | exact hT _ _ _ | exact hf _ | omega | (split<;>omega) | (dsimp only;split<;>omega) | assumption))) rfl ?_;rintro _ w' a ⟨hx,rfl⟩ O;have J:=J.ext hx;refine st O (CW O rfl) rfl fun a O=>mv O rfl rfl fun a O=>?_
  by_cases g7:¬ (okV p n (f))
  . first | rw [decide_eq_true g7] at O | simp only [decide_eq_true g7] at O
    refine Bm O rfl rfl rfl rfl rfl fun a O=>Bm O rfl rfl rfl rfl rfl fun a O=>Bm O rfl rfl rfl rfl rfl fun a O=>st O (BD O rfl rfl) rfl fun a O=>mv O rfl rfl fun a O=>Bm O rfl rfl rfl rfl rfl fun a O=>Bm O rfl rfl rfl rfl rfl fun a O=>Bm O rfl rfl rfl rfl rfl fun a O=>st O (BD O rfl rfl) rfl fun a O=>nt<|It O rfl<|sr<|ag O rfl rfl fun a O=>nt<|wp_ret<|tR<|BC rfl O.defers (Ad O rfl) ⟨_,rfl,J.below,?_⟩
    show _=_
    rfl
  first | rw [decide_eq_false g7] at O | simp only [decide_eq_false g7] at O
  refine BX O rfl rfl rfl (AE AI O rfl (J.row 0 rfl) (by simp only [Aa]<;>omega) (whole AG)) rfl fun a O=>D8 O rfl rfl rfl (Ae Try.call92 O (.cons rfl .nil) (Hu p n T f _ (fun _ _ _=>hT _ _ _) (fun _=>hf _))) rfl ?_;rintro _ w' a ⟨hx,rfl⟩ O;have J:=J.ext hx;refine BX O rfl rfl rfl (CW O rfl) rfl fun a O=>st O (A8 O rfl rfl) rfl fun a O=>mv O rfl rfl fun a O=>?_
  by_cases g9:¬ (KG 6 (Kd p n T))
  . first | rw [decide_eq_true g9] at O | simp only [decide_eq_true g9] at O
    refine Bm O rfl rfl rfl rfl rfl fun a O=>Bm O rfl rfl rfl rfl rfl fun a O=>Bm O rfl rfl rfl rfl rfl fun a O=>st O (BD O rfl rfl) rfl fun a O=>nt<|It O rfl<|sr<|ag O rfl rfl fun a O=>nt<|wp_ret<|tR<|BC rfl O.defers (Ad O rfl) ⟨_,rfl,J.below,?_⟩
    show _=_
    rfl
  first | rw [decide_eq_false g9] at O | simp only [decide_eq_false g9] at O
  exact absurd (show DR p n T f from ⟨Decidable.not_not.1 (by assumption),⟨by omega,by omega⟩,Decidable.not_not.1 (by assumption),(JK (C4 (Decidable.not_not.1 (by assumption)))).1 (Decidable.not_not.1 (by assumption))⟩) hJ
theorem L6 (p n:Nat)(T:Nat->Nat->Nat->Nat)(f:Nat->Nat)(w:World)(hp:primeN p)(hn0:0<n)(hn:n<=6)(hO:∀ i j k,T i j k<p)(hZ:∀ i j k,n<=k->T i j k=0)(hf:∀ i,f i<=255)(hJ:DR (p:Int) (n:Int) T f) :
    CallsR Try.prog 12 #[.agg (AD (p:Int) (n:Int) T f)] w (fun res _=>res = .bool (decide (PT p n T))):=by
  refine Al [.agg (AD (p:Int) (n:Int) T f)] Try.func12 rfl Try.ntmps12 rfl fun a O=>?_;have J:Ag w w [none,none] []:=MemX.start w 2;change Fr 40 a [(0,.agg (AD (p:Int) (n:Int) T f))] at O;have hp2:=hp.two;have hp13:=hp.le;have hT:∀ i j k,T i j k<=255:=fun i j k=>by have:=hO i j k;omega
  refine sr<|Ar O (BI 0 J O rfl) rfl ?_;rintro _ w' a ⟨b1,rfl,J,-⟩ O;change Ag _ _ [some (b1,AD (p:Int) (n:Int) T f),_] [] at J;refine ag O rfl rfl fun a O=>nt<|sq<|sr<|st O (AB A2 O rfl) rfl fun a O=>st O (AP AX O rfl (J.row 0 rfl) (BU (by omega))) rfl fun a O=>Ar O (Ae Try.call90 O (.cons rfl .nil) ((CallsR.val (IW (p:Int) _) (congrArg Value.bool (decide_eq_true (hJ.1)))))) rfl ?_;rintro _ w' a ⟨hx,rfl⟩ O;have J:=J.ext hx;refine st O (Cw (b:=true) O rfl) rfl fun a O=>mv O rfl rfl fun a O=>BX O rfl rfl rfl (AB AZ O rfl) rfl fun a O=>BX O rfl rfl rfl (AP AX O rfl (J.row 0 rfl) (Ao (by omega))) rfl fun a O=>BX O rfl rfl rfl (A0 O rfl rfl) rfl fun a O=>st O (A8 O rfl rfl) rfl fun a O=>mv O rfl rfl fun a O=>?_
  by_cases g2:((n:Int):Int)<1
  . first | rw [decide_eq_true g2] at O | simp only [decide_eq_true g2] at O
    exfalso;omega
  first | rw [decide_eq_false g2] at O | simp only [decide_eq_false g2] at O
  refine BX O rfl rfl rfl (AB AZ O rfl) rfl fun a O=>BX O rfl rfl rfl (AP AX O rfl (J.row 0 rfl) (Ao (by omega))) rfl fun a O=>BX O rfl rfl rfl (Fo O rfl rfl) rfl fun a O=>st O (A8 O rfl rfl) rfl fun a O=>nt<|Ab O rfl (fun h3=>?_) (fun h3=>?_)
  . exfalso;omega
  refine wp_skip<|tN<|sq<|sr<|st O (AE AI O rfl (J.row 0 rfl) (by simp only [Aa]<;>omega) (whole AG)) rfl fun a O=>st O (AB BO O rfl) rfl fun a O=>st O (AE Aq O rfl (J.row 0 rfl) (by simp only [Aa]<;>omega) (EK (by omega) (by omega))) rfl fun a O=>Ar O (Ae Try.call91 O (.cons rfl (.cons rfl .nil)) ((CallsR.val (Dz (p:Int) (n:Int) T f (f) _ (fun _=>by first | exact hv _ | exact hu _ | exact hT _ _ _ | exact hf _ | omega | (split<;>omega) | (dsimp only;split<;>omega) | assumption)) (congrArg Value.bool (decide_eq_true (hJ.2.2.1)))))) rfl ?_;rintro _ w' a ⟨hx,rfl⟩ O;have J:=J.ext hx;refine st O (Cw (b:=true) O rfl) rfl fun a O=>mv O rfl rfl fun a O=>BX O rfl rfl rfl (AE AI O rfl (J.row 0 rfl) (by simp only [Aa]<;>omega) (whole AG)) rfl fun a O=>D8 O rfl rfl rfl (Ae Try.call92 O (.cons rfl .nil) ((CallsR.val (Hu (p:Int) (n:Int) T f _ (fun _ _ _=>hT _ _ _) (fun _=>hf _)) (congrArg Value.bool (decide_eq_true ((JK (C4 hJ.1)).2 hJ.2.2.2)))))) rfl ?_;rintro _ w' a ⟨hx,rfl⟩ O;have J:=J.ext hx;refine BX O rfl rfl rfl (Cw (b:=true) O rfl) rfl fun a O=>st O (A8 O rfl rfl) rfl fun a O=>mv O rfl rfl fun a O=>BX O rfl rfl rfl (AE AI O rfl (J.row 0 rfl) (by simp only [Aa]<;>omega) (whole AG)) rfl fun a O=>D8 O rfl rfl rfl (Ae Try.call93 O (.cons rfl .nil) (HZ p n T f _ (by omega) (by omega) (by omega) (fun _ _ _=>hT _ _ _) (fun _=>hf _))) rfl ?_;rintro _ w' a ⟨hx,rfl⟩ O;have J:=J.ext hx;refine BX O rfl rfl rfl (CW O rfl) rfl fun a O=>st O (A8 O rfl rfl) rfl fun a O=>nt<|Ab O rfl (fun h4=>?_) (fun h4=>?_)
  . refine sq ?_
    refine wp_region_lit<|ag O rfl rfl fun a O=>nt<|wp_ret<|tR<|BC rfl O.defers (Ad O rfl) ⟨_,rfl,J.below,?_⟩
    show _=_
    exact Cd (fun hq=>(by assumption:¬ QI p n T) ((Mc hZ).2 hq.1))
  refine wp_skip<|tN<|sr<|st O (AE AI O rfl (J.row 0 rfl) (by simp only [Aa]<;>omega) (whole AG)) rfl fun a O=>Ar O (Ae Try.call94 O (.cons rfl .nil) (Kx p n T f _ hp hn0 hn hO)) rfl ?_;rintro _ w' a ⟨hx,⟨uu,huu,rfl⟩ | ⟨huu,rfl⟩⟩ O
  . have J:=J.ext hx
    refine mv O rfl rfl fun a O=>st O (Aj O rfl rfl) rfl fun a O=>st O (Aj O rfl rfl) rfl fun a O=>Ar O (Ah 1 J BE) rfl ?_;rintro _ w' a ⟨b5,rfl,J,-⟩ O;change Ag _ _ [_,some (b5,A1 6 (fun _=>.int .u8 (0)))] [] at J;refine BQ O (AJ 1 J rfl A3 O rfl rfl At (by simp only [Aa]) (by simp only [Aa]<;>omega) (AH _ _ (by simp only [Aa]))) ?_;intro _ w' a J O;change Ag _ _ [_,some (b5,AQ uu)] [] at J;refine ag O rfl rfl fun a O=>ns<|mv O rfl rfl fun a O=>ag O rfl rfl fun a O=>nt<|wp_ret<|BC rfl O.defers (Ad O rfl) ⟨_,rfl,J.below,?_⟩
    show _=_
    exact Ge ⟨(Mc hZ).1 (Decidable.not_not.1 (by assumption)),_,huu⟩
  have J:=J.ext hx;refine mv O rfl rfl fun a O=>st O (Aj O rfl rfl) rfl fun a O=>st O (Aj O rfl rfl) rfl fun a O=>Ar O (Ah 1 J BE) rfl ?_;rintro _ w' a ⟨b6,rfl,J,-⟩ O;change Ag _ _ [_,some (b6,A1 6 (fun _=>.int .u8 (0)))] [] at J;refine BQ O (AJ 1 J rfl A3 O rfl rfl At (by simp only [Aa]) (by simp only [Aa]<;>omega) (AH _ _ (by simp only [Aa]))) ?_;intro _ w' a J O;change Ag _ _ [_,some (b6,AQ (fun _=>0))] [] at J;refine ag O rfl rfl fun a O=>ns<|mv O rfl rfl fun a O=>ag O rfl rfl fun a O=>nt<|wp_ret<|BC rfl O.defers (Ad O rfl) ⟨_,rfl,J.below,?_⟩
  show _=_
  exact Cd (fun hq=>by obtain ⟨u,hu⟩:=hq.2;exact huu u hu)
theorem Br (p n:Int)(T:Nat->Nat->Nat->Nat)(f:Nat->Nat)(w:World)(hT:∀ i j k,T i j k<=255)(hf:∀ i,f i<=255):KK Try.prog 12 #[.agg (AD p n T f)] w (.bool (decide (B4 p n T f))):=by
  by_cases hs:DR p n T f
  . have hp0:=C4 hs.1
    have hn:=hs.2.1;have h:=L6 p.toNat n.toNat (trunc n.toNat T) f w (GB hs.1) (by omega) (by omega) (Gl hs) F6 hf;rw [show (p.toNat:Int)=p by omega,show (n.toNat:Int)=n by omega,← FT hs] at h;exact CallsR.val (h (EX hs)) (congrArg Value.bool (decide_eq_decide.2 ⟨fun h=>⟨hs,h⟩,fun h=>h.2⟩))
  . exact CallsR.val (L7 p n T f w hT hf hs) (congrArg Value.bool (decide_eq_false (fun h=>hs h.1)).symm)
theorem Eh (p n:Int)(T:Nat->Nat->Nat->Nat)(f:Nat->Nat)(w:World)(hT:∀ i j k,T i j k<=255)(hf:∀ i,f i<=255):KK Try.prog 95 #[.agg (AD p n T f)] w (.bool (decide (B4 p n T f))):=by
  by_cases hs:DR p n T f
  . have hp0:=C4 hs.1
    have hn:=hs.2.1;have h:=Kn p.toNat n.toNat (trunc n.toNat T) f w (GB hs.1) (by omega) (by omega) (Gl hs) F6 hf;rw [show (p.toNat:Int)=p by omega,show (n.toNat:Int)=n by omega,← FT hs] at h;exact CallsR.val (h (EX hs)) (congrArg Value.bool (decide_eq_decide.2 ⟨fun h=>⟨hs,h⟩,fun h=>h.2⟩))
  . exact CallsR.val (Ko p n T f w hT hf hs) (congrArg Value.bool (decide_eq_false (fun h=>hs h.1)).symm)
end Go.Proofs.Ytkcneleabbjkaaa
