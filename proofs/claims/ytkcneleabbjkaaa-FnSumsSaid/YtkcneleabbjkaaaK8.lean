import Derived.Test.YtkcneleabbjkaaaK4
set_option linter.unusedVariables false
set_option linter.unusedSimpArgs false
namespace Go.Proofs.Ytkcneleabbjkaaa
open Go Go.RowKit Go.Sw Go.Ech
open Classical
theorem F3:DD Try.prog 5=some 1:=by kernel_rfl
def Qu (mul:(Nat->Nat)->(Nat->Nat)->Nat->Nat) (u v:Nat->Nat):Nat->Nat->Nat
  | 0=>u
  | k+1=>mul (Qu mul u v k) v
theorem Mm {p n:Nat}{T:Nat->Nat->Nat->Nat}(hp:0<p)(hO:p<200)(x v:Nat->Nat)(c:Nat):timesV p n T x v c<=255:=by
  unfold timesV;have:=Nat.mod_lt (prodI T x v n n c) hp;omega
theorem Mn {p n:Nat}{T:Nat->Nat->Nat->Nat}(hp:0<p)(hO:p<200)(x v:Nat->Nat)(c:Nat):timesS p n T x v c<=255:=by
  unfold timesS;split
  . exact Mm hp hO x v c
  . omega
def formM (p n:Nat) (T:Nat->Nat->Nat->Nat) (f:Nat->Nat) (i c:Nat):Nat:=if c<n then sumTo (fun k=>T i c k*f k) 6%p else 0
theorem Ih {p n:Nat}{T:Nat->Nat->Nat->Nat}{f:Nat->Nat}(hp:0<p):∀ i c,formM p n T f i c<p:=fun i c=>by
  unfold formM;split
  . exact Nat.mod_lt _ hp
  . exact hp
def D5 (p n:Nat) (T:Nat->Nat->Nat->Nat) (f:Nat->Nat):Prop:=∃ E ld,Rref p 6 E n ld/\∀ x,Ker p 6 E n x↔Ker p 6 (formM p n T f) n x
theorem Ku {p n k:Nat}{T:Nat->Nat->Nat->Nat}{f:Nat->Nat}{E:Nat->Nat->Nat}{ld:Nat->Nat}(hp:2<=p)(h:Rref p 6 E k ld)(hK:∀ x,Ker p 6 E k x↔Ker p 6 (formM p n T f) n x):(k:Int)=(n:Int)↔D5 p n T f:=by
  constructor
  . intro e
    have e:k=n:=by omega
    subst e;exact ⟨E,ld,h,hK⟩
  . rintro ⟨E',ld',h',hK'⟩
    have:=(EY hp h h' (fun x=>(hK x).trans (hK' x).symm)).1
    omega
theorem Kv (p n:Nat)(T:Nat->Nat->Nat->Nat)(f:Nat->Nat)(w:World)(hp:0<p)(hO:p<100)(hn0:0<n)(hn:n<=6)(hT:∀ i j k,T i j k<=255)(hf:∀ i,f i<=255) :
    CallsR Try.prog 130 #[.agg (AD (p:Int) (n:Int) T f)] w (fun u w'=>BytesOut w w' 6 n (formM p n T f) u):=by
  refine Al [.agg (AD (p:Int) (n:Int) T f)] Try.func130 rfl Try.ntmps130 rfl fun a O=>?_;have J:Ag w w [none,none,none] []:=MemX.start w 3;change Fr 41 a [(0,.agg (AD (p:Int) (n:Int) T f))] at O;have hT:∀ i j k,T i j k<=255:=hT;refine sr<|Ar O (BI 0 J O rfl) rfl ?_;rintro _ w' a ⟨b1,rfl,J,-⟩ O;change Ag _ _ [some (b1,AD (p:Int) (n:Int) T f),_,_] [] at J;refine ag O rfl rfl fun a O=>ns<|st O (AB AZ O rfl) rfl fun a O=>st O (AP AX O rfl (J.row 0 rfl) (Ao (by omega))) rfl fun a O=>Ar O (MZ (len:=n) 1 J O Fc rfl rfl rfl (by omega) (by decide)) rfl ?_;rintro _ w' a ⟨bo,rfl,J,-⟩ O;refine ag O rfl rfl fun a O=>nt<|sq<|sr<|mv O rfl rfl fun a O=>st O (B2 Cm O rfl) rfl fun a O=>mv O rfl rfl fun a O=>nt<|wp_block ?_;change Ag _ _ [_,some (bo,A1 n (fun _=>.slice none 0 0)),_] [] at J;refine Av (fun (kk:Nat) a w'=>kk<=n/\∃ (D1:A7),∃ (β:Nat->Nat),∃ (cso:Array Value),(cso.size=n/\(∀ i,i<kk->cso[0+i*1]? = some (.slice (some ⟨β i,0,none⟩) 6 6))/\RowsB D1 6 kk β (formM p n T f)/\(∀ i,i<kk->w.heap.size<=β i))/\Fr 41 a [(1,ptr b1 (0)),(2,.slice none 0 0),(3,.slice (some ⟨bo,0,none⟩) n n),(10,.int .i64 (n:Int)),(11,.int .i64 (kk:Int))]/\Ag w w' [some (b1,AD (p:Int) (n:Int) T f),some (bo,cso),none] D1) (fun kk=>n - kk) 0 ?_ ?_
  . refine ⟨by omega,[],(fun _=>0),(A1 n (fun _=>.slice none 0 0)),⟨BM _ _,fun i hi=>absurd hi (by omega),RowsB.none,fun i hi=>absurd hi (by omega)⟩,O.sub _ (by repeat' constructor),?_⟩
    exact J
  clear O J;rintro gk a w' ⟨hgk,D1,β,cso,⟨hso,hZ,hB,hbg⟩,O,J⟩;refine sr<|st O (A0 O rfl rfl) rfl fun a O=>nt<|sq<|Ab O rfl (fun h3=>?_) (fun h3=>?_)
  . refine wp_skip ?_
    refine tN<|sq<|wp_block<|sr<|mv O rfl rfl fun a O=>ag O rfl rfl fun a O=>ns<|mv O rfl rfl fun a O=>mv O rfl rfl fun a O=>Ar O (G7 (len:=6) 2 J O rfl rfl E6) rfl ?_;rintro _ w' a ⟨b4,rfl,J,-⟩ O;change Ag _ _ [_,_,some (b4,A1 6 (fun _=>.int .u8 (0)))] _ at J;refine st O (Ak (i:=gk) CB O rfl rfl rfl (by omega)) rfl fun a O=>BQ O (Az 1 J rfl Bj O rfl rfl rfl (by first | omega | (simp only [Aa]<;>omega) | (simp only [Array.size_setIfInBounds];omega) | simp)) ?_;intro _ w' a J O;change Ag _ _ [_,some (bo,(cso).setIfInBounds (0+(gk)*1) (.slice (some ⟨b4,0,none⟩) 6 6)),_] _ at J;refine nt<|sq ?_;have hH:((cso).setIfInBounds (0+(gk)*1) (.slice (some ⟨b4,0,none⟩) 6 6))[0+gk*1]? = some (.slice (some ⟨b4,0,none⟩) 6 6):=Array.getElem?_setIfInBounds_self_of_lt (by omega);refine wp_region_lit<|st O (AB AZ O rfl) rfl fun a O=>st O (AP AX O rfl (J.row 0 rfl) (Ao (by omega))) rfl fun a O=>mv O rfl rfl fun a O=>nt<|wp_block ?_;change Ag _ _ [_,_,_] _ at J;refine Av (fun (kk:Nat) a w'=>kk<=n/\(True)/\Fr 41 a [(1,ptr b1 (0)),(2,.slice none 0 0),(3,.slice (some ⟨bo,0,none⟩) n n),(10,.int .i64 (n:Int)),(11,.int .i64 (gk:Int)),(12,.bool (decide (((gk:Int):Int)<(n:Int)))),(13,.int .i64 (gk:Int)),(4,.int .i64 (gk:Int)),(14,.slice (some ⟨bo,0,none⟩) n n),(15,.int .i64 (gk:Int)),(16,.slice (some ⟨b4,0,none⟩) 6 6),(17,ptr bo (0+(gk)*1)),(18,ptr b1 (0+1)),(19,.int .i64 (n:Int)),(20,.int .i64 (kk:Int))]/\Ag w w' [some (b1,AD (p:Int) (n:Int) T f),some (bo,(cso).setIfInBounds (0+(gk)*1) (.slice (some ⟨b4,0,none⟩) 6 6)),some (b4,A1 6 (fun c=>.int .u8 ((if c<kk then sumTo (fun k=>T gk c k*f k) 6%p else 0:Nat):Int)))] D1) (fun kk=>n - kk) 0 ?_ ?_
    . refine ⟨by omega,trivial,O.sub _ (by repeat' constructor),?_⟩
      exact J.rowc 2 rfl (BS fun c hc=>by rw [if_neg (by omega)];rfl)
    clear O J;rintro gj a w' ⟨hgj,hinv2,O,J⟩;refine sr<|st O (A0 O rfl rfl) rfl fun a O=>nt<|sq<|Ab O rfl (fun h5=>?_) (fun h5=>?_)
    . refine wp_skip ?_
      refine tN<|sq<|wp_block<|sr<|mv O rfl rfl fun a O=>ag O rfl rfl fun a O=>nt<|BV 14 [] [.val (.slice (some ⟨bo,0,none⟩) n n),.val (.int .i64 (gk:Int)),.val (ptr bo (0+(gk)*1)),.val (.slice (some ⟨b4,0,none⟩) 6 6),.val (.int .i64 (gj:Int)),.val (.agg (AD (p:Int) (n:Int) T f)),.val (.int .i64 (gk:Int)),.val (.int .i64 (gj:Int)),.val (ptr b1 (0+2)),.val (ptr b1 (0+2+(gk)*36)),.val (ptr b1 (0+2+(gk)*36+(gj)*6)),.val (.agg (AQ (T (gk) (gj)))),.val (.int .i64 (((sumTo (fun i=>((T (gk) (gj))) i*f i) 6%p:Nat):Int))),.val (.int .u8 (((sumTo (fun i=>((T (gk) (gj))) i*f i) 6%p:Nat):Int)))] Bf rfl O rfl J ⟨fun a w gG O hS hd=>by exact BP hS rfl O rfl,fun a w gG O hS hd=>by exact BP hS rfl O rfl,fun a w gG O hS hd=>by have O:=O.ext1 23 (hd 0 rfl rfl);have O:=O.ext1 24 (hd 1 rfl rfl);exact AA hS rfl (Ak (i:=gk) CB O rfl rfl rfl (by omega)),fun a w gG O hS hd=>by have O:=O.ext1 25 (hd 2 rfl rfl);have J:=hS.mem rfl;exact AA hS rfl (AP Bj O rfl (J.row 1 rfl) hH),fun a w gG O hS hd=>by exact BP hS rfl O rfl,fun a w gG O hS hd=>by have J:=hS.mem rfl;exact AA hS rfl (AE AI O rfl (J.row 0 rfl) (by simp only [Aa]<;>omega) (whole AG)),fun a w gG O hS hd=>by exact BP hS rfl O rfl,fun a w gG O hS hd=>by exact BP hS rfl O rfl,fun a w gG O hS hd=>by exact AA hS rfl (AB Ax O rfl),fun a w gG O hS hd=>by have O:=O.ext1 29 (hd 6 rfl rfl);have O:=O.ext1 31 (hd 8 rfl rfl);exact AA hS rfl (AF BF O rfl rfl rfl (by omega)),fun a w gG O hS hd=>by have O:=O.ext1 30 (hd 7 rfl rfl);have O:=O.ext1 32 (hd 9 rfl rfl);exact AA hS rfl (AF BG O rfl rfl rfl (by omega)),fun a w gG O hS hd=>by have O:=O.ext1 33 (hd 10 rfl rfl);have J:=hS.mem rfl;exact AA hS rfl (AE BY O rfl (J.row 0 rfl) (by simp only [Aa]<;>omega) (CQ (gk) (gj) (by omega) (by omega) (by omega) (by omega))),fun a w gG O hS hd=>by have O:=O.ext1 28 (hd 5 rfl rfl);have O:=O.ext1 34 (hd 11 rfl rfl);exact BL (by repeat constructor) hS rfl (Ae Try.call106 O (.cons rfl (.cons rfl .nil)) (PC p n T f ((T (gk) (gj))) _ (by omega) (fun _=>by first | exact hv _ | exact hvt _ | exact hvs _ | exact hu _ | exact hT _ _ _ | exact hf _ | omega | (split<;>omega) | (dsimp only;split<;>omega) | assumption) (fun _=>by first | exact hv _ | exact hvt _ | exact hvs _ | exact hu _ | exact hT _ _ _ | exact hf _ | omega | (split<;>omega) | (dsimp only;split<;>omega) | assumption))),fun a w gG O hS hd=>by have O:=O.ext1 35 (hd 12 rfl rfl);exact AA hS rfl (A9 B8 B9 O rfl (wrap_u8 (by omega) (by have:=Nat.mod_lt (sumTo (fun k=>T gk gj k*f k) 6) hp;omega))),trivial⟩ ?_;intro a w' L O hS hq;have O:=O.ext1 23 (hq 0 rfl rfl);have O:=O.ext1 24 (hq 1 rfl rfl);have O:=O.ext1 25 (hq 2 rfl rfl);have O:=O.ext1 26 (hq 3 rfl rfl);have O:=O.ext1 27 (hq 4 rfl rfl);have O:=O.ext1 28 (hq 5 rfl rfl);have O:=O.ext1 29 (hq 6 rfl rfl);have O:=O.ext1 30 (hq 7 rfl rfl);have O:=O.ext1 31 (hq 8 rfl rfl);have O:=O.ext1 32 (hq 9 rfl rfl);have O:=O.ext1 33 (hq 10 rfl rfl);have O:=O.ext1 34 (hq 11 rfl rfl);have O:=O.ext1 35 (hq 12 rfl rfl);have O:=O.ext1 36 (hq 13 rfl rfl);have J:=hS.mem rfl;change wpList Try.prog _ _ [_,_] _ _;refine st O (Ak (i:=gj) Bt O rfl rfl rfl (by omega)) rfl fun a O=>BQ O (Az 2 J rfl Ai O rfl rfl rfl (by first | omega | (simp only [Aa]<;>omega) | (simp only [Array.size_setIfInBounds];omega) | simp)) ?_;intro _ w' a J O;rw [show (A1 6 (fun c=>.int .u8 ((if c<gj then sumTo (fun k=>T gk c k*f k) 6%p else 0:Nat):Int))).setIfInBounds (0+(gj)*1) (.int .u8 (((sumTo (fun i=>((T (gk) (gj))) i*f i) 6%p:Nat):Int)))=A1 6 (fun c=>.int .u8 (((if c=gj then sumTo (fun i=>((T (gk) (gj))) i*f i) 6%p else if c<gj then sumTo (fun k=>T gk c k*f k) 6%p else 0):Nat):Int)) from Bv (fun c _=>by rw [show 0+(gj)*1=gj by omega];by_cases hh:c=gj<;>simp [hh])] at J
      change Ag _ _ [_,_,_] _ at J;refine wpList_nil<|iN<|tN<|wp_region_lit<|st O (Ap O rfl rfl (Af (gj) (1) (by omega))) rfl fun a O=>mv O rfl rfl fun a O=>nt<|⟨gj+1,⟨by omega,trivial,O.sub _ (by repeat' constructor),?_⟩,by omega⟩;refine J.rowc 2 rfl (BS fun c hc=>congrArg (Value.int .u8) (congrArg Nat.cast ?_))
      by_cases e1:c=gj
      . simp [e1]
      . have e0:(c<gj+1)=(c<gj):=by apply propext;omega
        simp [e0,e1]
    obtain rfl:n=gj:=by omega
    refine wp_exit<|tX<|tX<|Am<|iN<|tN<|wp_region_lit<|st O (Ap O rfl rfl (Af (gk) (1) (by omega))) rfl fun a O=>mv O rfl rfl fun a O=>wpList_nil<|tN ?_;have hgb:=J.ge 2 rfl;have hnb:=fun i hi=>(J.froz _ _ (hB.mem i hi)).2 2 b4 _ rfl;have J:=J.freeze 2 rfl;have hB:=((hB.more (D':=(b4,A1 6 (fun c=>.int .u8 ((if c<n then sumTo (fun k=>T gk c k*f k) 6%p else 0:Nat):Int)))::D1) (fun x hx=>List.mem_cons_of_mem _ hx)).snoc (r:=formM p n T f gk) rfl (List.mem_cons_self ..) hnb).congr (M':=formM p n T f) (fun i hi c hc=>by
      by_cases e:i=gk<;>simp [upE,e])
    have hZ:∀ i,i<gk+1->((cso).setIfInBounds (0+(gk)*1) (.slice (some ⟨b4,0,none⟩) 6 6))[0+i*1]? = some (.slice (some ⟨up β gk b4 i,0,none⟩) 6 6):=fun i hi=>by
      unfold up
      by_cases e:i=gk
      . rw [if_pos e,e];exact hH
      . rw [if_neg e,Array.getElem?_setIfInBounds_ne (by omega)];exact hZ i (by omega)
    have hbg:∀ i,i<gk+1->w.heap.size<=up β gk b4 i:=fun i hi=>by
      unfold up;split
      . exact hgb
      . exact hbg i (by omega)
    skip
    have J:=J.drop 2;refine ⟨gk+1,⟨by omega,((b4,A1 6 (fun c=>.int .u8 ((if c<n then sumTo (fun k=>T gk c k*f k) 6%p else 0:Nat):Int)))::D1),(up β gk b4),((cso).setIfInBounds (0+(gk)*1) (.slice (some ⟨b4,0,none⟩) 6 6)),⟨by rw [Array.size_setIfInBounds];exact hso,hZ,hB,hbg⟩,O.sub _ (by repeat' constructor),?_⟩,by omega⟩;exact J
  obtain rfl:n=gk:=by omega
  refine wp_exit<|tX<|tX<|Am<|tN<|sr<|mv O rfl rfl fun a O=>ag O rfl rfl fun a O=>nt<|wp_ret<|BC rfl O.defers (Ad O rfl) ⟨_,rfl,J.below,?_⟩;exact BytesOut.of J (k:=1) rfl hB hbg (by omega) hZ
theorem Ib (p n:Nat)(T:Nat->Nat->Nat->Nat)(f:Nat->Nat)(w:World)(hp:primeN p)(hn0:0<n)(hn:n<=6)(hT:∀ i j k,T i j k<=255)(hf:∀ i,f i<=255) :
    CallsR Try.prog 114 #[.agg (AD (p:Int) (n:Int) T f)] w (fun res _=>res = .bool (decide (D5 p n T f))):=by
  refine Al [.agg (AD (p:Int) (n:Int) T f)] Try.func114 rfl Try.ntmps114 rfl fun a O=>?_;have J:Ag w w [none] []:=MemX.start w 1;change Fr 12 a [(0,.agg (AD (p:Int) (n:Int) T f))] at O;have hO:=hp.two;have hp13:=hp.le;refine sr<|Ar O (BI 0 J O rfl) rfl ?_;rintro _ w' a ⟨b1,rfl,J,-⟩ O;change Ag _ _ [some (b1,AD (p:Int) (n:Int) T f)] [] at J;refine ag O rfl rfl fun a O=>nt<|sq ?_;refine PP (S:=fun (bb:Bool) (g:Option Nat) w2=>bb=g.isSome/\MemX [] w w2 [some (b1,AD (p:Int) (n:Int) T f)] []/\∀ k,g=some k->∃ E ld,Rref p 6 E k ld/\(∀ x,Ker p 6 E k x↔Ker p 6 (formM p n T f) n x)) 9 4 Bf rfl rfl rfl O rfl (I1 rfl) none ⟨rfl,J,fun k e=>by cases e⟩ (fun bb g w h=>⟨h.1,h.2.1.ext (Below.drew (Below.refl _ _)),h.2.2⟩) (fun i (g:Option Nat) u w2=>match i with | 0=>u = .agg (AD (p:Int) (n:Int) T f) | 1=>g=none->BytesFr w [some (b1,AD (p:Int) (n:Int) T f)] 6 n (formM p n T f) u w2 | 2=>u=ptr b1 (0+0) | 3=>u = .int .i64 (p:Int) | 4=>∃ k b cap,g=some k/\u = .slice (some ⟨b,0,none⟩) k cap | 5=>∃ k,g=some k/\u = .int .i64 ((k:Nat):Int) | 6=>u=ptr b1 (0+1) | 7=>u = .int .i64 (n:Int) | 8=>∃ k,g=some k/\u = .bool (decide (((k:Nat):Int)=(n:Int))) | _=>True) ⟨fun a w2 bb g O hS hb hd=>by have J:=hS.2.1;exact GV hS rfl (AE AI O rfl (J.row 0 rfl) (by simp only [Aa]<;>omega) (whole AG)),fun a w2 bb g O hS hb hd=>by have O:=O.ext1 3 (hd 0 rfl rfl);exact (Ae Try.call130 O (.cons rfl .nil) (Kv p n T f _ (by omega) (by omega) (by omega) (by omega) hT hf)).mono fun u w3 ⟨hx,hr⟩=>⟨g,⟨hS.1,hS.2.1.ext hx,hS.2.2⟩,fun _=>hr.fresh hS.2.1,fun j u hj h=>by rcases j with _ | _ | _ | _ | _ | _ | _ | _ | _ | j<;>first | exact h | exact absurd rfl hj⟩,fun a w2 bb g O hS hb hd=>by have J:=hS.2.1;exact GV hS rfl (AB A2 O rfl),fun a w2 bb g O hS hb hd=>by have O:=O.ext1 5 (hd 2 rfl rfl);have J:=hS.2.1;exact GV hS rfl (AP AX O rfl (J.row 0 rfl) (BU (by omega))),fun a w2 g O hS hd=>by
    obtain rfl:g=none:=by (cases g;rfl;exact absurd hS.1 (by simp))
    obtain ⟨D,β,br,cs,h1,hB,hu,hsz,hgc,hbm,hne⟩:=hd 1 rfl rfl rfl;have O:=O.ext1 4 hu;have O:=O.ext1 6 (hd 3 rfl rfl);exact (BA Try.call156 O (.cons rfl (.cons rfl .nil)) (Do p 6 n br n cs β (formM p n T f) _ hp (by omega) (by omega) (by omega) (Nat.le_refl _) (Ih (by omega)) (h1 _ _ hbm).2.1 (by omega) hgc (fun i hi=>(h1 _ _ (hB.mem i hi)).2.1) hB.inj hne)).mono fun u w3 ⟨hx,k,E,γ',ld,cs',hu3,hkm,hE,hJ,_⟩=>⟨some k,⟨rfl,hS.2.1.extY hx (fun y hy=>by
      rcases List.mem_cons.1 hy with e | hy
      . rw [e];exact ⟨(h1 _ _ hbm).1,(h1 _ _ hbm).2.2,fun _ _ h=>by cases h⟩
      . obtain ⟨i,hi,rfl⟩:=List.mem_map.1 hy
        have hm:=hB.mem i (by simpa using hi);exact ⟨(h1 _ _ hm).1,(h1 _ _ hm).2.2,fun _ _ h=>by cases h⟩),fun k' e=>by cases e;exact ⟨E,ld,hE,hJ⟩⟩,⟨k,br,n,rfl,hu3⟩,fun j u hj h=>by
      rcases j with _ | _ | _ | _ | _ | _ | _ | _ | _ | j<;>first | exact h | exact absurd rfl hj | exact (fun e=>by cases e) | (obtain ⟨k',e,_⟩:=h;cases e)⟩,fun a w2 bb g O hS hb hd=>by obtain ⟨k,b,cap,rfl,hu⟩:=hd 4 rfl rfl;have O:=O.ext1 7 hu;exact GV hS ⟨k,rfl,rfl⟩ (B2 Cm O rfl),fun a w2 bb g O hS hb hd=>by have J:=hS.2.1;exact GV hS rfl (AB AZ O rfl),fun a w2 bb g O hS hb hd=>by have O:=O.ext1 9 (hd 6 rfl rfl);have J:=hS.2.1;exact GV hS rfl (AP AX O rfl (J.row 0 rfl) (Ao (by omega))),fun a w2 bb g O hS hb hd=>by obtain ⟨k,rfl,hu⟩:=hd 5 rfl rfl;have O:=O.ext1 8 hu;have O:=O.ext1 10 (hd 7 rfl rfl);exact GV hS ⟨k,rfl,rfl⟩ (Bk O rfl rfl),trivial⟩ ?_
  intro a w' g O hS hq;obtain ⟨k,rfl,hu8⟩:=hq 8 rfl rfl;obtain ⟨-,J,hE0⟩:=hS;obtain ⟨E,ld,hE,hJ⟩:=hE0 k rfl;have O:=O.ext1 11 hu8;change Ag w w' [some (b1,AD (p:Int) (n:Int) T f)] [] at J;change wpList Try.prog _ _ [_] _ _;refine ag O rfl rfl fun a O=>nt<|wp_ret<|BC rfl O.defers (Ad O rfl) ⟨_,rfl,J.below,?_⟩
  show _=_
  exact congrArg Value.bool (decide_eq_decide.2 (Ku hO hE hJ))
end Go.Proofs.Ytkcneleabbjkaaa
