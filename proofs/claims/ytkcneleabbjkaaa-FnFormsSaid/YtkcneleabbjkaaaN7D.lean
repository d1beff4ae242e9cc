import Derived.Test.YtkcneleabbjkaaaK19
import Derived.Test.YtkcneleabbjkaaaEch7
set_option linter.unusedVariables false
set_option linter.unusedSimpArgs false
namespace Go.Proofs.Ytkcneleabbjkaaa
open Go Go.RowKit Go.Sw Go.Ech
open Classical
theorem KX:∀ (p n:Int) w,(Instr.build 29 #[(0,.int .i64 p),(1,.int .i64 n)]).run Try.prog w = .ok (.agg (AD p n (fun _ _ _=>0) (fun _=>0))) w:=by intros;kernel_rfl
def EY (p m s:Nat) (v u:Nat->Nat) (k:Nat):Nat:=if k<s then v (k / m)*u (k%m)%p else 0
def De (p m s:Nat) (T U:Nat->Nat->Nat->Nat) (a b c i j k:Nat):Nat:=if i<s/\j<s/\k<s/\(i<a\/i=a/\(j<b\/j=b/\k<c)) then T (i / m) (j / m) (k / m)*U (i%m) (j%m) (k%m)%p else 0
theorem Lh {p m:Nat}{v u:Nat->Nat}:EY p m 0 v u=fun _=>0:=funext fun i=>by unfold EY;rw [if_neg (by omega)]
theorem Li {p m g j:Nat}{v u:Nat->Nat}:EY p m (g+1) v u j=if j=g then v (g / m)*u (g%m)%p else EY p m g v u j:=by
  unfold EY
  by_cases e:j=g
  . subst e;rw [if_pos (by omega),if_pos rfl]
  . rw [if_neg e]
    by_cases e2:j<g
    . rw [if_pos (by omega),if_pos e2]
    . rw [if_neg (by omega),if_neg e2]
theorem Lj {p m s:Nat}{T U:Nat->Nat->Nat->Nat}:De p m s T U 0 0 0=fun _ _ _=>0:=funext fun i=>funext fun j=>funext fun k=>by unfold De;rw [if_neg (by omega)]
theorem N9 {p m s a b c i j k:Nat}{T U:Nat->Nat->Nat->Nat}(ha:a<s)(hb:b<s)(hc:c<s):De p m s T U a b (c+1) i j k=if i=a/\j=b/\k=c then T (a / m) (b / m) (c / m)*U (a%m) (b%m) (c%m)%p else De p m s T U a b c i j k:=by
  unfold De
  by_cases e:i=a/\j=b/\k=c
  . obtain ⟨rfl,rfl,rfl⟩:=e
    rw [if_pos (by omega),if_pos ⟨rfl,rfl,rfl⟩]
  . rw [if_neg e]
    by_cases e2:i<s/\j<s/\k<s/\(i<a\/i=a/\(j<b\/j=b/\k<c))
    . rw [if_pos (by omega),if_pos e2]
    . rw [if_neg (by omega),if_neg e2]
theorem OA {p m s a b:Nat}{T U:Nat->Nat->Nat->Nat}:De p m s T U a b s=De p m s T U a (b+1) 0:=funext fun i=>funext fun j=>funext fun k=>by
  unfold De
  by_cases e2:i<s/\j<s/\k<s/\(i<a\/i=a/\(j<b\/j=b/\k<s))
  . rw [if_pos e2,if_pos (by omega)]
  . rw [if_neg e2,if_neg (by omega)]
theorem OB {p m s a:Nat}{T U:Nat->Nat->Nat->Nat}:De p m s T U a s 0=De p m s T U (a+1) 0 0:=funext fun i=>funext fun j=>funext fun k=>by
  unfold De
  by_cases e2:i<s/\j<s/\k<s/\(i<a\/i=a/\(j<s\/j=s/\k<0))
  . rw [if_pos e2,if_pos (by omega)]
  . rw [if_neg e2,if_neg (by omega)]
theorem GC (p n m:Nat)(T U:Nat->Nat->Nat->Nat)(f h:Nat->Nat)(w:World)(hp:0<p)(hJ:p<100)(hn0:0<n)(hH:0<m)(hn6:n<=6)(hm6:m<=6)(hnm:(n)*(m)<=6)(hT:∀ i j k,T i j k<=255)(hf:∀ i,f i<=255)(hU:∀ i j k,U i j k<=255)(hh:∀ i,h i<=255) :
    CallsR Try.prog 113 #[.agg (AD (p:Int) (n:Int) T f),.agg (AD (p:Int) (m:Int) U h)] w (fun res _=>res = .agg (AD (p:Int) ((((n)*(m)):Nat):Int) (De p m ((n)*(m)) T U ((n)*(m)) 0 0) (EY p m ((n)*(m)) f h))):=by
  refine AV [.agg (AD (p:Int) (n:Int) T f),.agg (AD (p:Int) (m:Int) U h)] Try.func113 rfl Try.ntmps113 rfl fun a O=>?_;have J:AX w w [none,none,none,none] []:=MemX.start w 4;change Fr 107 a [(0,.agg (AD (p:Int) (n:Int) T f)),(1,.agg (AD (p:Int) (m:Int) U h))] at O;refine sr<|Ae O (At 0 J O rfl) rfl ?_;rintro _ w' a ⟨b1,rfl,J,-⟩ O;refine Ae O (At 1 J O rfl) rfl ?_;rintro _ w' a ⟨b2,rfl,J,-⟩ O;refine Ae O (Aa 2 J BM) rfl ?_;rintro _ w' a ⟨b3,rfl,J,-⟩ O;change AX _ _ [some (b1,AD (p:Int) (n:Int) T f),some (b2,AD (p:Int) (m:Int) U h),some (b3,AD 0 0 (fun _ _ _=>0) (fun _=>0)),_] [] at J;refine nt<|sq<|BA 5 [] [.val (ptr b1 (0+1)),.val (.int .i64 (n:Int)),.val (ptr b2 (0+1)),.val (.int .i64 (m:Int)),.val (.int .i64 (n:Int))] BT rfl O rfl J ⟨fun a w gG O hS hd=>by exact AA hS rfl (AB AT O rfl),fun a w gG O hS hd=>by have O:=O.ext1 11 (hd 0 rfl rfl);have J:=hS.mem rfl;exact AA hS rfl (AK AR O rfl (J.row 0 rfl) (Ao (by omega))),fun a w gG O hS hd=>by exact AA hS rfl (AB AT O rfl),fun a w gG O hS hd=>by have O:=O.ext1 13 (hd 2 rfl rfl);have J:=hS.mem rfl;exact AA hS rfl (AK AR O rfl (J.row 1 rfl) (Ao (by omega))),fun a w gG O hS hd=>by have O:=O.ext1 12 (hd 1 rfl rfl);exact AA hS rfl (E5 O rfl),trivial⟩ ?_;intro a w' L O hS hq;have O:=O.ext1 11 (hq 0 rfl rfl);have O:=O.ext1 12 (hq 1 rfl rfl);have O:=O.ext1 13 (hq 2 rfl rfl);have O:=O.ext1 14 (hq 3 rfl rfl);have O:=O.ext1 5 (hq 4 rfl rfl);have J:=hS.mem rfl;change wpList Try.prog _ _ [_] _ _;refine ag O rfl rfl fun a O=>ns<|st O (AB As O rfl) rfl fun a O=>st O (AK AR O rfl (J.row 0 rfl) (BP (by omega))) rfl fun a O=>mv O rfl rfl fun a O=>mv O rfl rfl fun a O=>st O (B0 O rfl rfl (Bh (n) (m) (by omega))) rfl fun a O=>st O (Bp O (Fv O rfl rfl) (fun w=>KX _ _ w)) rfl fun a O=>Ae O (Aa 3 J BM) rfl ?_;rintro _ w' a ⟨b4,rfl,J,-⟩ O;change AX _ _ [_,_,_,some (b4,AD 0 0 (fun _ _ _=>0) (fun _=>0))] [] at J;refine BF O (AL 3 J rfl A0 O rfl rfl cells_one (by simp only [AP]) (by simp only [AP]<;>omega) (AI _ _ (by simp only [AP]))) ?_;intro _ w' a J O;refine nt<|sq<|sr<|ag O rfl rfl fun a O=>nt<|wp_block ?_;change AX _ _ [_,_,_,some (b4,AD (p:Int) ((((n)*(m):Nat):Int)) (fun _ _ _=>0) (fun _=>0))] [] at J;refine Af (fun (kk:Nat) a w'=>kk<=((n)*(m))/\(True)/\Fr 107 a [(5,.int .i64 (n:Int)),(2,ptr b1 (0)),(3,ptr b2 (0)),(4,ptr b3 (0)),(6,.int .i64 (m:Int)),(7,ptr b4 (0)),(8,.int .i64 (kk:Int))]/\AX w w' [some (b1,AD (p:Int) (n:Int) T f),some (b2,AD (p:Int) (m:Int) U h),some (b3,AD 0 0 (fun _ _ _=>0) (fun _=>0)),some (b4,AD (p:Int) ((((n)*(m)):Nat):Int) (De p m ((n)*(m)) T U (kk) (0) (0)) (EY p m (kk) f h))] []) (fun kk=>((n)*(m)) - kk) 0 ?_ ?_
  . refine ⟨by omega,trivial,O.sub _ (by repeat' constructor),?_⟩
    exact J.cast (by rw [Lj,Lh])
  clear O J;rintro gi a w' ⟨hgi,hO,O,J⟩;have hqi1:=Nat.div_le_self gi m;have hqi2:=Nat.mod_lt gi hH;have hvu:=Es (hf (gi / m)) (hh (gi%m));have hfi:=hf (gi / m);have hhi:=hh (gi%m);refine sq<|sr<|mv O rfl rfl fun a O=>mv O rfl rfl fun a O=>mv O rfl rfl fun a O=>st O (B0 O rfl rfl (Bh (n) (m) (by omega))) rfl fun a O=>st O (Aj O rfl rfl) rfl fun a O=>nt<|AO O rfl (fun h5=>?_) (fun h5=>?_)
  . refine wp_skip ?_
    refine tN<|sq<|wp_block<|sq<|BA 21 [] [.val (.int .i64 (gi:Int)),.val (.int .i64 (gi:Int)),.val (.int .i64 (m:Int)),.val (.int .i64 ((((gi) / (m):Nat):Int))),.val (ptr b1 (0+218)),.val (ptr b1 (0+218+((gi) / (m))*1)),.val (.int .u8 ((f ((gi) / (m)):Int))),.val (.int .i64 ((f ((gi) / (m)):Int))),.val (.int .i64 (gi:Int)),.val (.int .i64 (m:Int)),.val (.int .i64 ((((gi)%(m):Nat):Int))),.val (ptr b2 (0+218)),.val (ptr b2 (0+218+((gi)%(m))*1)),.val (.int .u8 ((h ((gi)%(m)):Int))),.val (.int .i64 ((h ((gi)%(m)):Int))),.val (.int .i64 ((((f ((gi) / (m)))*(h ((gi)%(m))):Nat):Int))),.val (ptr b1 (0+0)),.val (.int .i64 (p:Int)),.val (.int .i64 (((((f ((gi) / (m)))*(h ((gi)%(m))))%(p):Nat):Int))),.val (.int .u8 (((((f ((gi) / (m)))*(h ((gi)%(m))))%(p):Nat):Int))),.val (ptr b4 (0+218))] BT rfl O rfl J ⟨fun a w gG O hS hd=>by exact A8 hS rfl O rfl,fun a w gG O hS hd=>by exact A8 hS rfl O rfl,fun a w gG O hS hd=>by exact A8 hS rfl O rfl,fun a w gG O hS hd=>by have O:=O.ext1 29 (hd 1 rfl rfl);have O:=O.ext1 30 (hd 2 rfl rfl);exact AA hS rfl (IX O rfl rfl (by omega) (FH (gi) (m) (by omega))),fun a w gG O hS hd=>by exact AA hS rfl (AB BG O rfl),fun a w gG O hS hd=>by have O:=O.ext1 31 (hd 3 rfl rfl);have O:=O.ext1 32 (hd 4 rfl rfl);exact AA hS rfl (AG Ap O rfl rfl rfl (by omega)),fun a w gG O hS hd=>by have O:=O.ext1 33 (hd 5 rfl rfl);have J:=hS.mem rfl;exact AA hS rfl (AK AZ O rfl (J.row 0 rfl) (Cz ((gi) / (m)) (by omega) (by omega))),fun a w gG O hS hd=>by have O:=O.ext1 34 (hd 6 rfl rfl);exact AA hS rfl (Aw A1 A6 O rfl (wrap_i64 (by omega) (by omega))),fun a w gG O hS hd=>by exact A8 hS rfl O rfl,fun a w gG O hS hd=>by exact A8 hS rfl O rfl,fun a w gG O hS hd=>by have O:=O.ext1 36 (hd 8 rfl rfl);have O:=O.ext1 37 (hd 9 rfl rfl);exact AA hS rfl (Ca O rfl rfl (by omega) (CV (gi) (m))),fun a w gG O hS hd=>by exact AA hS rfl (AB BG O rfl),fun a w gG O hS hd=>by have O:=O.ext1 38 (hd 10 rfl rfl);have O:=O.ext1 39 (hd 11 rfl rfl);exact AA hS rfl (AG Ap O rfl rfl rfl (by omega)),fun a w gG O hS hd=>by have O:=O.ext1 40 (hd 12 rfl rfl);have J:=hS.mem rfl;exact AA hS rfl (AK AZ O rfl (J.row 1 rfl) (Cz ((gi)%(m)) (by omega) (by omega))),fun a w gG O hS hd=>by have O:=O.ext1 41 (hd 13 rfl rfl);exact AA hS rfl (Aw A1 A6 O rfl (wrap_i64 (by omega) (by omega))),fun a w gG O hS hd=>by have O:=O.ext1 35 (hd 7 rfl rfl);have O:=O.ext1 42 (hd 14 rfl rfl);exact AA hS rfl (B0 O rfl rfl (Bh (f ((gi) / (m))) (h ((gi)%(m))) (by omega))),fun a w gG O hS hd=>by exact AA hS rfl (AB As O rfl),fun a w gG O hS hd=>by have O:=O.ext1 44 (hd 16 rfl rfl);have J:=hS.mem rfl;exact AA hS rfl (AK AR O rfl (J.row 0 rfl) (BP (by omega))),fun a w gG O hS hd=>by have O:=O.ext1 43 (hd 15 rfl rfl);have O:=O.ext1 45 (hd 17 rfl rfl);exact AA hS rfl (Ca O rfl rfl (by omega) (CV ((f ((gi) / (m)))*(h ((gi)%(m)))) (p))),fun a w gG O hS hd=>by have O:=O.ext1 46 (hd 18 rfl rfl);exact AA hS rfl (Aw Br Bs O rfl (Hp hp hJ)),fun a w gG O hS hd=>by exact AA hS rfl (AB BG O rfl),trivial⟩ ?_;intro a w' L O hS hq;have O:=O.ext1 28 (hq 0 rfl rfl);have O:=O.ext1 29 (hq 1 rfl rfl);have O:=O.ext1 30 (hq 2 rfl rfl);have O:=O.ext1 31 (hq 3 rfl rfl);have O:=O.ext1 32 (hq 4 rfl rfl);have O:=O.ext1 33 (hq 5 rfl rfl);have O:=O.ext1 34 (hq 6 rfl rfl);have O:=O.ext1 35 (hq 7 rfl rfl)
    have O:=O.ext1 36 (hq 8 rfl rfl);have O:=O.ext1 37 (hq 9 rfl rfl);have O:=O.ext1 38 (hq 10 rfl rfl);have O:=O.ext1 39 (hq 11 rfl rfl);have O:=O.ext1 40 (hq 12 rfl rfl);have O:=O.ext1 41 (hq 13 rfl rfl);have O:=O.ext1 42 (hq 14 rfl rfl);have O:=O.ext1 43 (hq 15 rfl rfl);have O:=O.ext1 44 (hq 16 rfl rfl);have O:=O.ext1 45 (hq 17 rfl rfl);have O:=O.ext1 46 (hq 18 rfl rfl);have O:=O.ext1 47 (hq 19 rfl rfl);have O:=O.ext1 48 (hq 20 rfl rfl);have J:=hS.mem rfl;change wpList Try.prog _ _ [_,_] _ _;refine st O (AG Ap O rfl rfl rfl (by omega)) rfl fun a O=>BF O (Ak 3 J rfl AZ O rfl rfl rfl (by first | omega | (simp only [AP]<;>omega) | (simp only [Array.size_setIfInBounds];omega) | simp)) ?_;intro _ w' a J O;refine ns<|ag O rfl rfl fun a O=>nt<|wp_block ?_;change AX _ _ [_,_,_,some (b4,(AD (p:Int) ((((n)*(m)):Nat):Int) (De p m ((n)*(m)) T U (gi) (0) (0)) (EY p m (gi) f h)).setIfInBounds (0+218+(gi)*1) (.int .u8 (((((f ((gi) / (m)))*(h ((gi)%(m))))%(p):Nat):Int))))] [] at J;refine Af (fun (kk:Nat) a w'=>kk<=((n)*(m))/\(True)/\Fr 107 a [(48,ptr b4 (0+218)),(47,.int .u8 (((((f ((gi) / (m)))*(h ((gi)%(m))))%(p):Nat):Int))),(46,.int .i64 (((((f ((gi) / (m)))*(h ((gi)%(m))))%(p):Nat):Int))),(45,.int .i64 (p:Int)),(44,ptr b1 (0+0)),(43,.int .i64 ((((f ((gi) / (m)))*(h ((gi)%(m))):Nat):Int))),(42,.int .i64 ((h ((gi)%(m)):Int))),(41,.int .u8 ((h ((gi)%(m)):Int))),(40,ptr b2 (0+218+((gi)%(m))*1)),(39,ptr b2 (0+218)),(38,.int .i64 ((((gi)%(m):Nat):Int))),(37,.int .i64 (m:Int)),(36,.int .i64 (gi:Int)),(35,.int .i64 ((f ((gi) / (m)):Int))),(34,.int .u8 ((f ((gi) / (m)):Int))),(33,ptr b1 (0+218+((gi) / (m))*1)),(32,ptr b1 (0+218)),(31,.int .i64 ((((gi) / (m):Nat):Int))),(30,.int .i64 (m:Int)),(29,.int .i64 (gi:Int)),(28,.int .i64 (gi:Int)),(5,.int .i64 (n:Int)),(2,ptr b1 (0)),(3,ptr b2 (0)),(4,ptr b3 (0)),(6,.int .i64 (m:Int)),(7,ptr b4 (0)),(8,.int .i64 (gi:Int)),(21,.int .i64 (gi:Int)),(22,.int .i64 (n:Int)),(23,.int .i64 (m:Int)),(24,.int .i64 ((((n)*(m):Nat):Int))),(25,.bool (decide (((gi:Int):Int)<(((n)*(m):Nat):Int)))),(49,ptr b4 (0+218+(gi)*1)),(9,.int .i64 (kk:Int))]/\AX w w' [some (b1,AD (p:Int) (n:Int) T f),some (b2,AD (p:Int) (m:Int) U h),some (b3,AD 0 0 (fun _ _ _=>0) (fun _=>0)),some (b4,AD (p:Int) ((((n)*(m)):Nat):Int) (De p m ((n)*(m)) T U (gi) (kk) (0)) (EY p m (gi+1) f h))] []) (fun kk=>((n)*(m)) - kk) 0 ?_ ?_
    . refine ⟨by omega,trivial,O.sub _ (by repeat' constructor),?_⟩
      exact J.rowc 3 rfl (Ib (i:=gi) (by omega) (by omega) (fun j hj=>Li))
    clear O J;rintro gj a w' ⟨hgj,hZ,O,J⟩;have hqj1:=Nat.div_le_self gj m;have hqj2:=Nat.mod_lt gj hH;refine sq<|sr<|mv O rfl rfl fun a O=>mv O rfl rfl fun a O=>mv O rfl rfl fun a O=>st O (B0 O rfl rfl (Bh (n) (m) (by omega))) rfl fun a O=>st O (Aj O rfl rfl) rfl fun a O=>nt<|AO O rfl (fun h6=>?_) (fun h6=>?_)
    . refine wp_skip ?_
      refine tN<|sq<|wp_block<|sr<|ag O rfl rfl fun a O=>nt<|wp_block ?_;change AX w _ [some (b1,AD (p:Int) (n:Int) T f),some (b2,AD (p:Int) (m:Int) U h),some (b3,AD 0 0 (fun _ _ _=>0) (fun _=>0)),some (b4,AD (p:Int) ((((n)*(m)):Nat):Int) (De p m ((n)*(m)) T U (gi) (gj) (0)) (EY p m (gi+1) f h))] [] at J;refine Af (fun (kk:Nat) a w'=>kk<=((n)*(m))/\(True)/\Fr 107 a [(48,ptr b4 (0+218)),(47,.int .u8 (((((f ((gi) / (m)))*(h ((gi)%(m))))%(p):Nat):Int))),(46,.int .i64 (((((f ((gi) / (m)))*(h ((gi)%(m))))%(p):Nat):Int))),(45,.int .i64 (p:Int)),(44,ptr b1 (0+0)),(43,.int .i64 ((((f ((gi) / (m)))*(h ((gi)%(m))):Nat):Int))),(42,.int .i64 ((h ((gi)%(m)):Int))),(41,.int .u8 ((h ((gi)%(m)):Int))),(40,ptr b2 (0+218+((gi)%(m))*1)),(39,ptr b2 (0+218)),(38,.int .i64 ((((gi)%(m):Nat):Int))),(37,.int .i64 (m:Int)),(36,.int .i64 (gi:Int)),(35,.int .i64 ((f ((gi) / (m)):Int))),(34,.int .u8 ((f ((gi) / (m)):Int))),(33,ptr b1 (0+218+((gi) / (m))*1)),(32,ptr b1 (0+218)),(31,.int .i64 ((((gi) / (m):Nat):Int))),(30,.int .i64 (m:Int)),(29,.int .i64 (gi:Int)),(28,.int .i64 (gi:Int)),(5,.int .i64 (n:Int)),(2,ptr b1 (0)),(3,ptr b2 (0)),(4,ptr b3 (0)),(6,.int .i64 (m:Int)),(7,ptr b4 (0)),(8,.int .i64 (gi:Int)),(21,.int .i64 (gi:Int)),(22,.int .i64 (n:Int)),(23,.int .i64 (m:Int)),(24,.int .i64 ((((n)*(m):Nat):Int))),(25,.bool (decide (((gi:Int):Int)<(((n)*(m):Nat):Int)))),(49,ptr b4 (0+218+(gi)*1)),(9,.int .i64 (gj:Int)),(50,.int .i64 (gj:Int)),(51,.int .i64 (n:Int)),(52,.int .i64 (m:Int)),(53,.int .i64 ((((n)*(m):Nat):Int))),(54,.bool (decide (((gj:Int):Int)<(((n)*(m):Nat):Int)))),(10,.int .i64 (kk:Int))]/\AX w w' [some (b1,AD (p:Int) (n:Int) T f),some (b2,AD (p:Int) (m:Int) U h),some (b3,AD 0 0 (fun _ _ _=>0) (fun _=>0)),some (b4,AD (p:Int) ((((n)*(m)):Nat):Int) (De p m ((n)*(m)) T U (gi) (gj) (kk)) (EY p m (gi+1) f h))] []) (fun kk=>((n)*(m)) - kk) 0 ?_ ?_
      . refine ⟨by omega,trivial,O.sub _ (by repeat' constructor),?_⟩
        exact J
      clear O J;rintro gk a w' ⟨hgk,hinv3,O,J⟩;have hqk1:=Nat.div_le_self gk m;have hqk2:=Nat.mod_lt gk hH;have hvu2:=Es (hT (gi / m) (gj / m) (gk / m)) (hU (gi%m) (gj%m) (gk%m));have htt:=hT (gi / m) (gj / m) (gk / m);have huu:=hU (gi%m) (gj%m) (gk%m);refine sq<|sr<|mv O rfl rfl fun a O=>mv O rfl rfl fun a O=>mv O rfl rfl fun a O=>st O (B0 O rfl rfl (Bh (n) (m) (by omega))) rfl fun a O=>st O (Aj O rfl rfl) rfl fun a O=>nt<|AO O rfl (fun h7=>?_) (fun h7=>?_)
      . refine wp_skip ?_
        refine tN<|sq<|wp_block ?_;refine BA 41 [] [.val (.int .i64 (gi:Int)),.val (.int .i64 (gj:Int)),.val (.int .i64 (gk:Int)),.val (.int .i64 (gi:Int)),.val (.int .i64 (m:Int)),.val (.int .i64 ((((gi) / (m):Nat):Int))),.val (.int .i64 (gj:Int)),.val (.int .i64 (m:Int)),.val (.int .i64 ((((gj) / (m):Nat):Int))),.val (.int .i64 (gk:Int)),.val (.int .i64 (m:Int)),.val (.int .i64 ((((gk) / (m):Nat):Int))),.val (ptr b1 (0+2)),.val (ptr b1 (0+2+((gi) / (m))*36)),.val (ptr b1 (0+2+((gi) / (m))*36+((gj) / (m))*6)),.val (ptr b1 (0+2+((gi) / (m))*36+((gj) / (m))*6+((gk) / (m))*1)),.val (.int .u8 ((T ((gi) / (m)) ((gj) / (m)) ((gk) / (m)):Int))),.val (.int .i64 ((T ((gi) / (m)) ((gj) / (m)) ((gk) / (m)):Int))),.val (.int .i64 (gi:Int)),.val (.int .i64 (m:Int)),.val (.int .i64 ((((gi)%(m):Nat):Int))),.val (.int .i64 (gj:Int)),.val (.int .i64 (m:Int)),.val (.int .i64 ((((gj)%(m):Nat):Int))),.val (.int .i64 (gk:Int)),.val (.int .i64 (m:Int)),.val (.int .i64 ((((gk)%(m):Nat):Int))),.val (ptr b2 (0+2)),.val (ptr b2 (0+2+((gi)%(m))*36)),.val (ptr b2 (0+2+((gi)%(m))*36+((gj)%(m))*6)),.val (ptr b2 (0+2+((gi)%(m))*36+((gj)%(m))*6+((gk)%(m))*1)),.val (.int .u8 ((U ((gi)%(m)) ((gj)%(m)) ((gk)%(m)):Int))),.val (.int .i64 ((U ((gi)%(m)) ((gj)%(m)) ((gk)%(m)):Int))),.val (.int .i64 ((((T ((gi) / (m)) ((gj) / (m)) ((gk) / (m)))*(U ((gi)%(m)) ((gj)%(m)) ((gk)%(m))):Nat):Int))),.val (ptr b1 (0+0)),.val (.int .i64 (p:Int)),.val (.int .i64 (((((T ((gi) / (m)) ((gj) / (m)) ((gk) / (m)))*(U ((gi)%(m)) ((gj)%(m)) ((gk)%(m))))%(p):Nat):Int))),.val (.int .u8 (((((T ((gi) / (m)) ((gj) / (m)) ((gk) / (m)))*(U ((gi)%(m)) ((gj)%(m)) ((gk)%(m))))%(p):Nat):Int))),.val (ptr b4 (0+2)),.val (ptr b4 (0+2+(gi)*36)),.val (ptr b4 (0+2+(gi)*36+(gj)*6))] BT rfl O rfl J ⟨fun a w gG O hS hd=>by exact A8 hS rfl O rfl,fun a w gG O hS hd=>by exact A8 hS rfl O rfl,fun a w gG O hS hd=>by exact A8 hS rfl O rfl,fun a w gG O hS hd=>by exact A8 hS rfl O rfl,fun a w gG O hS hd=>by exact A8 hS rfl O rfl,fun a w gG O hS hd=>by have O:=O.ext1 67 (hd 3 rfl rfl);have O:=O.ext1 68 (hd 4 rfl rfl);exact AA hS rfl (IX O rfl rfl (by omega) (FH (gi) (m) (by omega))),fun a w gG O hS hd=>by exact A8 hS rfl O rfl,fun a w gG O hS hd=>by exact A8 hS rfl O rfl,fun a w gG O hS hd=>by have O:=O.ext1 70 (hd 6 rfl rfl);have O:=O.ext1 71 (hd 7 rfl rfl);exact AA hS rfl (IX O rfl rfl (by omega) (FH (gj) (m) (by omega))),fun a w gG O hS hd=>by exact A8 hS rfl O rfl,fun a w gG O hS hd=>by exact A8 hS rfl O rfl,fun a w gG O hS hd=>by have O:=O.ext1 73 (hd 9 rfl rfl);have O:=O.ext1 74 (hd 10 rfl rfl);exact AA hS rfl (IX O rfl rfl (by omega) (FH (gk) (m) (by omega))),fun a w gG O hS hd=>by exact AA hS rfl (AB Ay O rfl),fun a w gG O hS hd=>by have O:=O.ext1 69 (hd 5 rfl rfl);have O:=O.ext1 76 (hd 12 rfl rfl);exact AA hS rfl (AG BH O rfl rfl rfl (by omega)),fun a w gG O hS hd=>by have O:=O.ext1 72 (hd 8 rfl rfl);have O:=O.ext1 77 (hd 13 rfl rfl);exact AA hS rfl (AG BI O rfl rfl rfl (by omega)),fun a w gG O hS hd=>by have O:=O.ext1 75 (hd 11 rfl rfl);have O:=O.ext1 78 (hd 14 rfl rfl);exact AA hS rfl (AG Bz O rfl rfl rfl (by omega)),fun a w gG O hS hd=>by have O:=O.ext1 79 (hd 15 rfl rfl);have J:=hS.mem rfl;exact AA hS rfl (AK AZ O rfl (J.row 0 rfl) (DL ((gi) / (m)) ((gj) / (m)) ((gk) / (m)) (by omega) (by omega) (by omega) (by omega))),fun a w gG O hS hd=>by have O:=O.ext1 80 (hd 16 rfl rfl);exact AA hS rfl (Aw A1 A6 O rfl (wrap_i64 (by omega) (by omega))),fun a w gG O hS hd=>by exact A8 hS rfl O rfl,fun a w gG O hS hd=>by exact A8 hS rfl O rfl,fun a w gG O hS hd=>by have O:=O.ext1 82 (hd 18 rfl rfl);have O:=O.ext1 83 (hd 19 rfl rfl);exact AA hS rfl (Ca O rfl rfl (by omega) (CV (gi) (m))),fun a w gG O hS hd=>by exact A8 hS rfl O rfl,fun a w gG O hS hd=>by exact A8 hS rfl O rfl,fun a w gG O hS hd=>by have O:=O.ext1 85 (hd 21 rfl rfl);have O:=O.ext1 86 (hd 22 rfl rfl);exact AA hS rfl (Ca O rfl rfl (by omega) (CV (gj) (m))),fun a w gG O hS hd=>by exact A8 hS rfl O rfl,fun a w gG O hS hd=>by exact A8 hS rfl O rfl,fun a w gG O hS hd=>by have O:=O.ext1 88 (hd 24 rfl rfl);have O:=O.ext1 89 (hd 25 rfl rfl);exact AA hS rfl (Ca O rfl rfl (by omega) (CV (gk) (m))),fun a w gG O hS hd=>by exact AA hS rfl (AB Ay O rfl),fun a w gG O hS hd=>by have O:=O.ext1 84 (hd 20 rfl rfl);have O:=O.ext1 91 (hd 27 rfl rfl);exact AA hS rfl (AG BH O rfl rfl rfl (by omega)),fun a w gG O hS hd=>by have O:=O.ext1 87 (hd 23 rfl rfl);have O:=O.ext1 92 (hd 28 rfl rfl);exact AA hS rfl (AG BI O rfl rfl rfl (by omega)),fun a w gG O hS hd=>by have O:=O.ext1 90 (hd 26 rfl rfl);have O:=O.ext1 93 (hd 29 rfl rfl);exact AA hS rfl (AG Bz O rfl rfl rfl (by omega)),fun a w gG O hS hd=>by have O:=O.ext1 94 (hd 30 rfl rfl);have J:=hS.mem rfl;exact AA hS rfl (AK AZ O rfl (J.row 1 rfl) (DL ((gi)%(m)) ((gj)%(m)) ((gk)%(m)) (by omega) (by omega) (by omega) (by omega))),fun a w gG O hS hd=>by have O:=O.ext1 95 (hd 31 rfl rfl);exact AA hS rfl (Aw A1 A6 O rfl (wrap_i64 (by omega) (by omega))),fun a w gG O hS hd=>by have O:=O.ext1 81 (hd 17 rfl rfl);have O:=O.ext1 96 (hd 32 rfl rfl);exact AA hS rfl (B0 O rfl rfl (Bh (T ((gi) / (m)) ((gj) / (m)) ((gk) / (m))) (U ((gi)%(m)) ((gj)%(m)) ((gk)%(m))) (by omega))),fun a w gG O hS hd=>by exact AA hS rfl (AB As O rfl),fun a w gG O hS hd=>by have O:=O.ext1 98 (hd 34 rfl rfl);have J:=hS.mem rfl;exact AA hS rfl (AK AR O rfl (J.row 0 rfl) (BP (by omega))),fun a w gG O hS hd=>by have O:=O.ext1 97 (hd 33 rfl rfl);have O:=O.ext1 99 (hd 35 rfl rfl);exact AA hS rfl (Ca O rfl rfl (by omega) (CV ((T ((gi) / (m)) ((gj) / (m)) ((gk) / (m)))*(U ((gi)%(m)) ((gj)%(m)) ((gk)%(m)))) (p))),fun a w gG O hS hd=>by have O:=O.ext1 100 (hd 36 rfl rfl);exact AA hS rfl (Aw Br Bs O rfl (Hp hp hJ)),fun a w gG O hS hd=>by exact AA hS rfl (AB Ay O rfl),fun a w gG O hS hd=>by have O:=O.ext1 64 (hd 0 rfl rfl);have O:=O.ext1 102 (hd 38 rfl rfl);exact AA hS rfl (AG BH O rfl rfl rfl (by omega)),fun a w gG O hS hd=>by have O:=O.ext1 65 (hd 1 rfl rfl);have O:=O.ext1 103 (hd 39 rfl rfl);exact AA hS rfl (AG BI O rfl rfl rfl (by omega)),trivial⟩ ?_
        intro a w' L O hS hq;have O:=O.ext1 64 (hq 0 rfl rfl);have O:=O.ext1 65 (hq 1 rfl rfl);have O:=O.ext1 66 (hq 2 rfl rfl);have O:=O.ext1 67 (hq 3 rfl rfl);have O:=O.ext1 68 (hq 4 rfl rfl);have O:=O.ext1 69 (hq 5 rfl rfl);have O:=O.ext1 70 (hq 6 rfl rfl);have O:=O.ext1 71 (hq 7 rfl rfl);have O:=O.ext1 72 (hq 8 rfl rfl);have O:=O.ext1 73 (hq 9 rfl rfl);have O:=O.ext1 74 (hq 10 rfl rfl);have O:=O.ext1 75 (hq 11 rfl rfl);have O:=O.ext1 76 (hq 12 rfl rfl);have O:=O.ext1 77 (hq 13 rfl rfl);have O:=O.ext1 78 (hq 14 rfl rfl);have O:=O.ext1 79 (hq 15 rfl rfl);have O:=O.ext1 80 (hq 16 rfl rfl);have O:=O.ext1 81 (hq 17 rfl rfl);have O:=O.ext1 82 (hq 18 rfl rfl);have O:=O.ext1 83 (hq 19 rfl rfl);have O:=O.ext1 84 (hq 20 rfl rfl);have O:=O.ext1 85 (hq 21 rfl rfl);have O:=O.ext1 86 (hq 22 rfl rfl);have O:=O.ext1 87 (hq 23 rfl rfl);have O:=O.ext1 88 (hq 24 rfl rfl);have O:=O.ext1 89 (hq 25 rfl rfl);have O:=O.ext1 90 (hq 26 rfl rfl);have O:=O.ext1 91 (hq 27 rfl rfl);have O:=O.ext1 92 (hq 28 rfl rfl);have O:=O.ext1 93 (hq 29 rfl rfl);have O:=O.ext1 94 (hq 30 rfl rfl);have O:=O.ext1 95 (hq 31 rfl rfl);have O:=O.ext1 96 (hq 32 rfl rfl);have O:=O.ext1 97 (hq 33 rfl rfl);have O:=O.ext1 98 (hq 34 rfl rfl);have O:=O.ext1 99 (hq 35 rfl rfl);have O:=O.ext1 100 (hq 36 rfl rfl);have O:=O.ext1 101 (hq 37 rfl rfl);have O:=O.ext1 102 (hq 38 rfl rfl);have O:=O.ext1 103 (hq 39 rfl rfl);have O:=O.ext1 104 (hq 40 rfl rfl);have J:=hS.mem rfl;change wpList Try.prog _ _ [_,_] _ _;refine st O (AG Bz O rfl rfl rfl (by omega)) rfl fun a O=>BF O (Ak 3 J rfl AZ O rfl rfl rfl (by first | omega | (simp only [AP]<;>omega) | (simp only [Array.size_setIfInBounds];omega) | simp)) ?_;intro _ w' a J O;change AX _ _ [_,_,_,some (b4,(AD (p:Int) ((((n)*(m)):Nat):Int) (De p m ((n)*(m)) T U (gi) (gj) (gk)) (EY p m (gi+1) f h)).setIfInBounds (0+2+(gi)*36+(gj)*6+(gk)*1) (.int .u8 (((((T ((gi) / (m)) ((gj) / (m)) ((gk) / (m)))*(U ((gi)%(m)) ((gj)%(m)) ((gk)%(m))))%(p):Nat):Int))))] [] at J;refine wpList_nil<|iN<|tN<|wp_region_lit<|mv O rfl rfl fun a O=>st O (Ad O rfl rfl (AS (gk) (1) (by omega))) rfl fun a O=>ag O rfl rfl fun a O=>nt<|⟨gk+1,⟨by omega,trivial,O.sub _ (by repeat' constructor),?_⟩,by omega⟩;exact J.rowc 3 rfl (Ic gi gj gk (by omega) (by omega) (by omega) (by omega) (fun a _ b _ c _=>N9 (by omega) (by omega) (by omega)))
      obtain rfl:((n)*(m))=gk:=by omega
      refine wp_exit<|tX<|tX<|AY<|iN<|tN<|wp_region_lit<|mv O rfl rfl fun a O=>st O (Ad O rfl rfl (AS (gj) (1) (by omega))) rfl fun a O=>ag O rfl rfl fun a O=>nt<|⟨gj+1,⟨by omega,trivial,O.sub _ (by repeat' constructor),?_⟩,by omega⟩;exact J.cast (by rw [OA])
    obtain rfl:((n)*(m))=gj:=by omega
    refine wp_exit<|tX<|tX<|AY<|iN<|tN<|wp_region_lit<|mv O rfl rfl fun a O=>st O (Ad O rfl rfl (AS (gi) (1) (by omega))) rfl fun a O=>ag O rfl rfl fun a O=>nt<|⟨gi+1,⟨by omega,trivial,O.sub _ (by repeat' constructor),?_⟩,by omega⟩;exact J.cast (by rw [OB])
  obtain rfl:((n)*(m))=gi:=by omega
  refine wp_exit<|tX<|tX<|AY<|tN<|sr<|st O (AC AJ O rfl (J.row 3 rfl) (by simp only [AP]<;>omega) (whole AE)) rfl fun a O=>BF O (AL 2 J rfl A0 O rfl rfl cells_one (by simp only [AP]) (by simp only [AP]<;>omega) (AI _ _ (by simp only [AP]))) ?_;intro _ w' a J O;change AX _ _ [_,_,some (b3,AD (p:Int) ((((n)*(m)):Nat):Int) (De p m ((n)*(m)) T U ((((n)*(m)))) (0) (0)) (EY p m ((((n)*(m)))) f h)),_] [] at J;refine nt<|wp_ret<|Ax rfl O.defers (A7 AJ O rfl (J.row 2 rfl) (by simp only [AP])) ⟨_,rfl,J.below,?_⟩
  show _=_
  rfl
def Dn (pl:Nat->Nat->Int) (n a b i j k:Nat):Nat:=if (i<a\/(i=a/\j<b))/\j<n/\(k:Int)=pl i j then 1 else 0
theorem pTp_0 {pl:Nat->Nat->Int}{n i j k:Nat}:Dn pl n 0 0 i j k=0:=by unfold Dn;rw [if_neg (by omega)]
theorem Iz {pl:Nat->Nat->Int}{n a i j k:Nat}:Dn pl n a n i j k=Dn pl n (a+1) 0 i j k:=by
  unfold Dn
  have e:((i<a\/(i=a/\j<n))/\j<n/\(k:Int)=pl i j)=((i<a+1\/(i=a+1/\j<0))/\j<n/\(k:Int)=pl i j):=by apply propext;omega
  simp only [e]
theorem NM {pl:Nat->Nat->Int}{n a b i j k q:Nat}(hb:b<n)(h:pl a b=(q:Int)):(if i=a/\j=b then (if k=q then 1 else 0) else Dn pl n a b i j k)=Dn pl n a (b+1) i j k:=by
  unfold Dn
  by_cases e:i=a/\j=b
  . obtain ⟨rfl,rfl⟩:=e
    rw [if_pos ⟨rfl,rfl⟩,h]
    by_cases h2:k=q
    . rw [if_pos h2,if_pos (by omega)]
    . rw [if_neg h2,if_neg (by omega)]
  . rw [if_neg e]
    have e:((i<a\/(i=a/\j<b))/\j<n/\(k:Int)=pl i j)=((i<a\/(i=a/\j<b+1))/\j<n/\(k:Int)=pl i j):=by apply propext;omega
    simp only [e]
theorem MW {pl:Nat->Nat->Int}{n a b i j k:Nat}(h:pl a b = -1):Dn pl n a b i j k=Dn pl n a (b+1) i j k:=by
  unfold Dn
  have e:((i<a\/(i=a/\j<b))/\j<n/\(k:Int)=pl i j)=((i<a\/(i=a/\j<b+1))/\j<n/\(k:Int)=pl i j):=by
    apply propext
    by_cases q:i=a/\j=b
    . obtain ⟨rfl,rfl⟩:=q
      rw [h];omega
    . omega
  simp only [e]
def Mt (i j:Nat):Int:=if i=1/\j=1 then -1 else ((i+j:Nat):Int)
def IN (i j:Nat):Int:=if i=j then (i:Int) else -1
def J9 (i j:Nat):Int:=(((i+j)%3:Nat):Int)
def pmT:List (List Nat):=[[0,1,2],[0,2,1],[1,0,2],[1,2,0],[2,0,1],[2,1,0]]
def pmL (i k:Nat):Nat:=(pmT.getD i []).getD k 0
def N5 (v:Nat->Nat):Array Value:=Al 3 (fun c=>.int .u8 (v c:Int))
def pm6C:Array Value:=Al 18 (fun c=>.int .u8 (pmL (c / 3) (c%3):Int))
theorem Oh (v:Nat->Nat):(N5 v).size=3:=BJ _ _
theorem Od:pm6C.size=18:=BJ _ _
def P6:Array MapEntry:=#[{ key:=.agg (N5 (pmL 0)),val:=.int .i64 ((0:Nat):Int),born:=0 },{ key:=.agg (N5 (pmL 1)),val:=.int .i64 ((1:Nat):Int),born:=1 },{ key:=.agg (N5 (pmL 2)),val:=.int .i64 ((2:Nat):Int),born:=2 },{ key:=.agg (N5 (pmL 3)),val:=.int .i64 ((3:Nat):Int),born:=3 },{ key:=.agg (N5 (pmL 4)),val:=.int .i64 ((4:Nat):Int),born:=4 },{ key:=.agg (N5 (pmL 5)),val:=.int .i64 ((5:Nat):Int),born:=5 }]
def pmVT:List (List Nat):=[[0,1,2,3,4,5],[1,0,4,5,2,3],[2,3,0,1,5,4],[3,2,5,4,0,1],[4,5,1,0,3,2],[5,4,3,2,1,0]]
def pmV (i j:Nat):Nat:=(pmVT.getD i []).getD j 0
theorem Kj {i j:Nat}(hi:i<6)(hj:j<6):pmV i j<6:=by
  have h:∀ i,i<6->∀ j,j<6->pmV i j<6:=by decide
  exact h i hi j hj
theorem Ix {i j:Nat}(hi:i<6)(hj:j<6):∀ d,d<3->pmL i (pmL j d)=pmL (pmV i j) d:=by
  have h:∀ i,i<6->∀ j,j<6->∀ d,d<3->pmL i (pmL j d)=pmL (pmV i j) d:=by decide
  exact h i hi j hj
theorem Iy {i d:Nat}(hi:i<6)(hd:d<3):pmL i d<3:=by
  have h:∀ i,i<6->∀ d,d<3->pmL i d<3:=by decide
  exact h i hi d hd
theorem OJ {k q:Nat}(hk:k<6)(hq:q<6)(h:∀ c,c<3->pmL k c=pmL q c):k=q:=by
  have h2:∀ k,k<6->∀ q,q<6->(∀ c,c<3->pmL k c=pmL q c)->k=q:=by decide
  exact h2 k hk q hq h
def sqT:List (List Nat):=[[1,0,0,0],[0,1,0,0],[0,0,1,0],[0,0,0,1]]
def Pb (i k:Nat):Nat:=(sqT.getD i []).getD k 0
def Oa (v:Nat->Nat):Array Value:=Al 4 (fun c=>.int .u8 (v c:Int))
def sq4C:Array Value:=Al 16 (fun c=>.int .u8 (Pb (c / 4) (c%4):Int))
def Oj (q c:Nat):Nat:=if q=0 then 0 else Pb (q - 1) c
theorem Og (v:Nat->Nat):(Oa v).size=4:=BJ _ _
theorem Oc:sq4C.size=16:=BJ _ _
def On (f g:Nat->Nat) (c:Nat):Nat:=f (c / 2*2)*g (c%2)+f (c / 2*2+1)*g (2+c%2)
def sqQT:List (List Nat):=[[1,2,0,0],[0,0,1,2],[3,4,0,0],[0,0,3,4]]
def sqQ (i j:Nat):Nat:=(sqQT.getD i []).getD j 0
def M8 (i j:Nat):Int:=(sqQ i j:Int) - 1
theorem OI {i j:Nat}(hi:i<4)(hj:j<4):sqQ i j<5:=by
  have h:∀ i,i<4->∀ j,j<4->sqQ i j<5:=by decide
  exact h i hi j hj
def Px:Array MapEntry:=#[{ key:=.agg (Oa (Oj 0)),val:=.int .i64 (((0:Nat):Int) - 1),born:=0 },{ key:=.agg (Oa (Oj 1)),val:=.int .i64 (((1:Nat):Int) - 1),born:=1 },{ key:=.agg (Oa (Oj 2)),val:=.int .i64 (((2:Nat):Int) - 1),born:=2 },{ key:=.agg (Oa (Oj 3)),val:=.int .i64 (((3:Nat):Int) - 1),born:=3 },{ key:=.agg (Oa (Oj 4)),val:=.int .i64 (((4:Nat):Int) - 1),born:=4 }]
def Qb (f g:Nat->Nat) (r c d:Nat):Nat:=if d<r*2+c then On f g d else 0
def Nq (i j:Nat):Int:=(pmV i j:Int)
def FZ (v:Nat->Nat):Array Value:=Al 3 (fun c=>.int .i64 (v c:Int))
def pm6I:Array Value:=Al 18 (fun c=>.int .i64 (pmL (c / 3) (c%3):Int))
theorem CX (v:Nat->Nat):(FZ v).size=3:=BJ _ _
theorem B8:pm6I.size=18:=BJ _ _
theorem Ha {o e:Nat}(k:Nat)(ho:o=k*3)(he:e=o+3)(hk:k<6):pm6I.extract o e=FZ (pmL k):=by
  subst ho;exact B7 he (by rw [B8];omega) fun c hc=>by
    unfold pm6I
    rw [Bx (by omega),show (k*3+c) / 3=k by omega,show (k*3+c)%3=c by omega]
theorem Er {v:Nat->Nat}{o:Nat}(c:Nat)(ho:o=c)(hc:c<3):(FZ v)[o]? = some (.int .i64 (v c:Int)):=by
  subst ho;exact Bx hc
theorem N4 {a b c:Nat}{v:Nat->Nat}(h0:a=v 0)(h1:b=v 1)(h2:c=v 2):#[Value.int .i64 (a:Int),.int .i64 (b:Int),.int .i64 (c:Int)]=FZ v:=by
  subst h0 h1 h2;rfl
theorem Of {k q:Nat}(hk:k<6)(hq:q<6)(h:∀ i,i<3->(pmL k i:Int)=(pmL q i:Int)):k=q:=OJ hk hq fun c hc=>Int.ofNat.inj (h c hc)
end Go.Proofs.Ytkcneleabbjkaaa
