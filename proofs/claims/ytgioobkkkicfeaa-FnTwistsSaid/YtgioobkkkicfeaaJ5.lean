import Derived.Test.YtgioobkkkicfeaaJ1
set_option linter.unusedVariables false
set_option linter.unusedSimpArgs false
namespace Go.Proofs.Ytgioobkkkicfeaa
open Go Go.RowKit Go.Sw Go.Ech
open Classical
theorem KD (n:Int)(M:Nat->Nat->Nat)(w:World)(ho:n<1\/6<n) :
    CallsR Try.prog 48 #[.agg (AB n M)] w (fun res _=>res = .bool false):=by
  refine AQ [.agg (AB n M)] Try.func48 rfl Try.ntmps48 rfl fun a O=>?_;have J:AR w w [none] []:=MemX.start w 1;change Fr 26 a [(0,.agg (AB n M))] at O;refine sr<|Aj O (Aw 0 J O rfl) rfl ?_;rintro _ w' a ⟨b1,rfl,J,-⟩ O;change AR _ _ [some (b1,AB n M)] [] at J;refine ag O rfl rfl fun a O=>nt<|sq<|sr<|st O (AC AV O rfl) rfl fun a O=>st O (AM AL O rfl (J.row 0 rfl) (Au (by omega))) rfl fun a O=>st O (Ak O rfl rfl) rfl fun a O=>mv O rfl rfl fun a O=>?_
  by_cases g2:(n:Int)<1
  . first | rw [decide_eq_true g2] at O | simp only [decide_eq_true g2] at O
    refine A4 O rfl rfl rfl rfl rfl fun a O=>A4 O rfl rfl rfl rfl rfl fun a O=>A4 O rfl rfl rfl rfl rfl fun a O=>st O (Aa O rfl rfl) rfl fun a O=>mv O rfl rfl fun a O=>A4 O rfl rfl rfl rfl rfl fun a O=>A4 O rfl rfl rfl rfl rfl fun a O=>A4 O rfl rfl rfl rfl rfl fun a O=>st O (Aa O rfl rfl) rfl fun a O=>nt<|Hk O rfl<|sr<|ag O rfl rfl fun a O=>nt<|wp_ret<|tR<|Ap rfl O.defers (AE O rfl) ⟨_,rfl,J.below,?_⟩
    show _=_
    rfl
  first | rw [decide_eq_false g2] at O | simp only [decide_eq_false g2] at O
  refine Ay O rfl rfl rfl (AC AV O rfl) rfl fun a O=>Ay O rfl rfl rfl (AM AL O rfl (J.row 0 rfl) (Au (by omega))) rfl fun a O=>Ay O rfl rfl rfl (Cq O rfl rfl) rfl fun a O=>st O (Ai O rfl rfl) rfl fun a O=>mv O rfl rfl fun a O=>?_
  by_cases g4:6<(n:Int)
  . first | rw [decide_eq_true g4] at O | simp only [decide_eq_true g4] at O
    refine A4 O rfl rfl rfl rfl rfl fun a O=>A4 O rfl rfl rfl rfl rfl fun a O=>A4 O rfl rfl rfl rfl rfl fun a O=>st O (Aa O rfl rfl) rfl fun a O=>nt<|Hk O rfl<|sr<|ag O rfl rfl fun a O=>nt<|wp_ret<|tR<|Ap rfl O.defers (AE O rfl) ⟨_,rfl,J.below,?_⟩
    show _=_
    rfl
  first | rw [decide_eq_false g4] at O | simp only [decide_eq_false g4] at O
  exfalso;omega
theorem NR (n:Int)(M:Nat->Nat->Nat)(w:World)(ho:n<1\/6<n) :
    CallsR Try.prog 51 #[.agg (AB n M)] w (fun res _=>res = .bool false):=by
  refine AQ [.agg (AB n M)] Try.func51 rfl Try.ntmps51 rfl fun a O=>?_;have J:AR w w [none] []:=MemX.start w 1;change Fr 126 a [(0,.agg (AB n M))] at O;refine sr<|Aj O (Aw 0 J O rfl) rfl ?_;rintro _ w' a ⟨b1,rfl,J,-⟩ O;change AR _ _ [some (b1,AB n M)] [] at J;refine ag O rfl rfl fun a O=>ns<|st O (AC AV O rfl) rfl fun a O=>st O (AM AL O rfl (J.row 0 rfl) (Au (by omega))) rfl fun a O=>ag O rfl rfl fun a O=>nt<|sq<|sr<|mv O rfl rfl fun a O=>Aj O (AO Try.call35 O (.cons rfl (.cons rfl (.cons rfl .nil))) (FG (n) (1) (6) _)) rfl ?_;rintro _ w' a ⟨hx,rfl⟩ O;have J:=J.ext hx;refine st O (CP O rfl) rfl fun a O=>nt<|AI O rfl (fun h2=>?_) (fun h2=>?_)
  . refine sq ?_
    refine wp_region_lit<|ag O rfl rfl fun a O=>nt<|wp_ret<|tR<|Ap rfl O.defers (AE O rfl) ⟨_,rfl,J.below,?_⟩
    show _=_
    rfl
  exfalso;omega
theorem Oo (n:Int)(M:Nat->Nat->Nat)(w:World)(hB:∀ i j,M i j<=255):CallsR Try.prog 48 #[.agg (AB n M)] w (fun res _=>res = .bool (decide (GrpP n M))):=by
  by_cases ho:n<1\/6<n
  . exact CallsR.val (KD n M w ho) (congrArg Value.bool (decide_eq_false (fun h=>by have:=h.1;have:=h.2.1;omega)).symm)
  . have e:(n.toNat:Int)=n:=by omega
    have h:=LK n.toNat M w (by omega) (by omega) hB;rw [e] at h;exact CallsR.val h (congrArg Value.bool (decide_eq_decide.2 ⟨fun q=>⟨by omega,by omega,q⟩,fun q=>q.2.2⟩))
theorem On (n:Int)(M:Nat->Nat->Nat)(w:World)(hB:∀ i j,M i j<=255):CallsR Try.prog 51 #[.agg (AB n M)] w (fun res _=>res = .bool (decide (GrpP n M))):=by
  by_cases ho:n<1\/6<n
  . exact CallsR.val (NR n M w ho) (congrArg Value.bool (decide_eq_false (fun h=>by have:=h.1;have:=h.2.1;omega)).symm)
  . have e:(n.toNat:Int)=n:=by omega
    have h:=Oj n.toNat M w (by omega) (by omega) hB;rw [e] at h;exact CallsR.val h (congrArg Value.bool (decide_eq_decide.2 ⟨fun q=>⟨by omega,by omega,q⟩,fun q=>q.2.2⟩))
theorem GrpP.mk {n:Nat}{M:Nat->Nat->Nat}(hn0:0<n)(hn:n<=6)(hG:TabP n M):GrpP (n:Int) M:=⟨by omega,by omega,hG⟩
theorem TabP.lt {n:Nat}{M:Nat->Nat->Nat}(h:TabP n M){i j:Nat}(hi:i<6)(hj:j<6):M i j<n:=(h.1 i hi j hj).1
theorem TabP.out {n:Nat}{M:Nat->Nat->Nat}(h:TabP n M){i j:Nat}(hi:i<6)(hj:j<6)(ho:n<=i\/n<=j):M i j=0:=(h.1 i hi j hj).2 (by omega)
def SR (M:Nat->Nat->Nat) (i j:Nat):Nat:=if M i j=M j i then 1 else 0
def TV (M:Nat->Nat->Nat) (n i j:Nat):Nat:=sumTo (fun a=>sumTo (fun b=>SR M a b) n) i+sumTo (fun b=>SR M i b) j
theorem A7:Try.prog.underlying 39=some (.slice 2):=by kernel_rfl
theorem An:sliceOf Try.prog 39=some 1:=by kernel_rfl
def wA (F v:Nat->Nat->Nat) (n i j x:Nat):Nat:=sumTo (fun a=>sumTo (fun b=>if F a b=x then v a b else 0) n) i+sumTo (fun b=>if F i b=x then v i b else 0) j
def wy (M:Nat->Nat->Nat) (n:Nat) (e:Nat->Nat):Nat->Nat->Nat
  | 0,x=>if x=0 then 1 else 0
  | k+1,x=>wA M (fun a b=>wy M n e k a*e b) n n 0 x
def R3 (M:Nat->Nat->Nat) (n a b:Nat):Nat:=M (M a b) (M (lead (M a) n) (lead (M b) n))
def Sv (M:Nat->Nat->Nat) (n a b:Nat):Nat:=M (M (M (M 0 a) b) (lead (M a) n)) (lead (M b) n)
theorem TabP.inv {n:Nat}{M:Nat->Nat->Nat}(h:TabP n M){i:Nat}(hi:i<n):lead (M i) n<n:=Jl (h.2.2.1 i hi)
def TW (M:Nat->Nat->Nat) (n x:Nat):Nat:=wA (R3 M n) (fun _ _=>1) n n 0 x
def foldM (M:Nat->Nat->Nat) (l:Nat->Nat):Nat->Nat
  | 0=>0
  | k+1=>M (foldM M l k) (l k)
theorem K3 {M:Nat->Nat->Nat}{n:Nat}{l:Nat->Nat}(hn0:0<n)(hn:n<=6)(h:TabP n M):∀ m,(∀ i,i<m->l i<n)->foldM M l m<n
  | 0,_=>hn0
  | m + 1, hl => by
    have h1:=K3 (l:=l) hn0 hn h m (fun i hi=>hl i (by omega))
    have h2:=hl m (by omega)
    exact h.lt (by omega) (by omega)
theorem Ih (n:Nat)(M:Nat->Nat->Nat)(i:Nat)(w:World)(hn0:0<n)(hn:n<=6)(hB:∀ i j,M i j<=255)(hG:TabP n M)(hi:i<n) :
    CallsR Try.prog 57 #[.agg (AB (n:Int) M),.int .i64 (i:Int)] w (fun res _=>res = .int .i64 (lead (M i) n:Int)):=by
  refine AQ [.agg (AB (n:Int) M),.int .i64 (i:Int)] Try.func57 rfl Try.ntmps57 rfl fun a O=>?_;have J:AR w w [none] []:=MemX.start w 1;change Fr 20 a [(0,.agg (AB (n:Int) M)),(1,.int .i64 (i:Int))] at O;refine sr<|Aj O (Aw 0 J O rfl) rfl ?_;rintro _ w' a ⟨b1,rfl,J,-⟩ O;refine ag O rfl rfl fun a O=>nt<|sq<|sr<|ag O rfl rfl fun a O=>nt<|wp_block ?_;change AR _ _ [some (b1,AB (n:Int) M)] [] at J;refine Ag (fun (kk:Nat) a w'=>kk<=n/\(∀ j,j<kk->M i j≠0)/\Fr 20 a [(1,.int .i64 (i:Int)),(2,ptr b1 (0)),(5,.int .i64 (kk:Int))]/\AR w w' [some (b1,AB (n:Int) M)] []) (fun kk=>n - kk) 0 ?_ ?_
  . refine ⟨by omega,fun i hi=>absurd hi (by omega),O.sub _ (by repeat' constructor),?_⟩
    exact J
  clear O J;rintro gj a w' ⟨hU,hH,O,J⟩;have hO:=hB i gj;refine sq<|sr<|mv O rfl rfl fun a O=>st O (AC AV O rfl) rfl fun a O=>st O (AM AL O rfl (J.row 0 rfl) (Au (by omega))) rfl fun a O=>st O (Ak O rfl rfl) rfl fun a O=>nt<|AI O rfl (fun h2=>?_) (fun h2=>?_)
  . refine wp_skip ?_
    refine tN<|sq<|wp_block<|sr<|mv O rfl rfl fun a O=>mv O rfl rfl fun a O=>st O (AC As O rfl) rfl fun a O=>st O (AH Av O rfl rfl rfl (by omega)) rfl fun a O=>st O (AH Az O rfl rfl rfl (by omega)) rfl fun a O=>st O (AM Ah O rfl (J.row 0 rfl) (BU (i) (gj) (by omega) (by omega) (by omega))) rfl fun a O=>st O (Ao O rfl rfl) rfl fun a O=>nt<|AI O rfl (fun h3=>?_) (fun h3=>?_)
    . refine sq ?_
      refine wp_region_lit<|mv O rfl rfl fun a O=>ag O rfl rfl fun a O=>nt<|wp_ret<|iR<|tR<|tR<|iR<|tR<|Ap rfl O.defers (AE O rfl) ⟨_,rfl,J.below,?_⟩
      show _=_
      exact congrArg (Value.int .i64) (congrArg Nat.cast (Jm (j:=gj) (by omega) (by omega) hH).symm)
    refine wp_skip<|iN<|tN<|wp_region_lit<|mv O rfl rfl fun a O=>st O (Ac O rfl rfl (AN (gj) (1) (by omega))) rfl fun a O=>ag O rfl rfl fun a O=>nt<|⟨gj+1,⟨by omega,CO hH (by omega),O.sub _ (by repeat' constructor),?_⟩,by omega⟩;exact J
  obtain rfl:n=gj:=by omega
  refine wp_exit<|tX<|tX<|AW<|tN<|sr<|ag O rfl rfl fun a O=>nt<|wp_ret<|Ap rfl O.defers (AE O rfl) ⟨_,rfl,J.below,?_⟩
  show _=_
  exfalso;have hz:=hG.inv (i:=i) (by omega);rw [JF hH] at hz;omega
theorem Kv (n:Nat)(M:Nat->Nat->Nat)(b m:Nat)(cs:Array Value)(l:Nat->Nat)(w:World)(hn0:0<n)(hn:n<=6)(hB:∀ i j,M i j<=255)(hG:TabP n M)(hb:Blk w b cs)(hg:∀ i,i<m->cs[0+i*1]? = some (.int .i64 (l i:Int)))(hm:m<10)(hl:∀ i,i<m->l i<n) :
    CallsR Try.prog 56 #[.agg (AB (n:Int) M),.slice (some ⟨b,0,none⟩) m m] w (fun res _=>res = .int .i64 (foldM M l m:Int)):=by
  refine AQ [.agg (AB (n:Int) M),.slice (some ⟨b,0,none⟩) m m] Try.func56 rfl Try.ntmps56 rfl fun a O=>?_;have J:AR w w [none] [(b,cs)]:=MemX.startD w 1 _ (Jc hb);change Fr 24 a [(0,.agg (AB (n:Int) M)),(1,.slice (some ⟨b,0,none⟩) m m)] at O;refine sr<|Aj O (Aw 0 J O rfl) rfl ?_;rintro _ w' a ⟨b1,rfl,J,-⟩ O;refine ag O rfl rfl fun a O=>ns<|ag O rfl rfl fun a O=>nt<|sq<|sr<|ag O rfl rfl fun a O=>nt<|wp_block ?_;change AR _ _ [some (b1,AB (n:Int) M)] _ at J;refine Ag (fun (kk:Nat) a w'=>kk<=m/\(True)/\Fr 24 a [(1,.slice (some ⟨b,0,none⟩) m m),(2,ptr b1 (0)),(4,.int .i64 (0)),(6,.int .i64 (kk:Int)),(5,.int .i64 ((foldM M l kk:Int)))]/\AR w w' [some (b1,AB (n:Int) M)] [(b,cs)]) (fun kk=>m - kk) 0 ?_ ?_
  . refine ⟨by omega,trivial,O.sub _ (by repeat' constructor),?_⟩
    exact J
  clear O J;rintro gi a w' ⟨hgi,hH,O,J⟩;have hfl:=K3 hn0 hn hG gi (fun i hi=>hl i (by omega));have hli:gi<m->l gi<n:=hl gi;have hO:=hB (foldM M l gi) (l gi);refine sq<|sr<|mv O rfl rfl fun a O=>mv O rfl rfl fun a O=>st O (BY A7 O rfl) rfl fun a O=>st O (Ak O rfl rfl) rfl fun a O=>nt<|AI O rfl (fun h2=>?_) (fun h2=>?_)
  . refine wp_skip ?_
    refine tN<|sq<|wp_block<|Bt 7 [] [.val (.int .i64 ((foldM M l gi:Int))),.val (.slice (some ⟨b,0,none⟩) m m),.val (.int .i64 (gi:Int)),.val (ptr b (0+(gi)*1)),.val (.int .i64 ((l (gi):Int))),.val (ptr b1 (0+1)),.val (ptr b1 (0+1+(foldM M l gi)*6))] Bb rfl O rfl J ⟨fun a w gG O hS hd=>by exact BF hS rfl O rfl,fun a w gG O hS hd=>by exact BF hS rfl O rfl,fun a w gG O hS hd=>by exact BF hS rfl O rfl,fun a w gG O hS hd=>by have O:=O.ext1 14 (hd 1 rfl rfl);have O:=O.ext1 15 (hd 2 rfl rfl);exact AD hS rfl (AJ (i:=gi) An O rfl rfl rfl (by omega)),fun a w gG O hS hd=>by have O:=O.ext1 16 (hd 3 rfl rfl);have J:=hS.mem rfl;exact AD hS rfl (AM AL O rfl (J.fz 0 rfl) (hg (gi) (by omega))),fun a w gG O hS hd=>by exact AD hS rfl (AC As O rfl),fun a w gG O hS hd=>by have O:=O.ext1 13 (hd 0 rfl rfl);have O:=O.ext1 18 (hd 5 rfl rfl);exact AD hS rfl (AH Av O rfl rfl rfl (by omega)),trivial⟩ ?_;intro a w' L O hS hq;have O:=O.ext1 13 (hq 0 rfl rfl);have O:=O.ext1 14 (hq 1 rfl rfl);have O:=O.ext1 15 (hq 2 rfl rfl);have O:=O.ext1 16 (hq 3 rfl rfl);have O:=O.ext1 17 (hq 4 rfl rfl);have O:=O.ext1 18 (hq 5 rfl rfl);have O:=O.ext1 19 (hq 6 rfl rfl);have J:=hS.mem rfl;change wpList Try.prog _ _ [_,_,_,_] _ _;refine st O (AH Az O rfl rfl rfl (by omega)) rfl fun a O=>st O (AM Ah O rfl (J.row 0 rfl) (BU (foldM M l gi) (l (gi)) (by omega) (by omega) (by omega))) rfl fun a O=>st O (BO Ba Bf O rfl (wrap_i64 (by omega) (by omega))) rfl fun a O=>ag O rfl rfl fun a O=>wpList_nil<|iN<|tN<|wp_region_lit<|mv O rfl rfl fun a O=>st O (Ac O rfl rfl (AN (gi) (1) (by omega))) rfl fun a O=>ag O rfl rfl fun a O=>nt<|⟨gi+1,⟨by omega,trivial,O.sub _ (by repeat' constructor),?_⟩,by omega⟩;exact J
  obtain rfl:m=gi:=by omega
  refine wp_exit<|tX<|tX<|AW<|tN<|sr<|mv O rfl rfl fun a O=>ag O rfl rfl fun a O=>nt<|wp_ret<|Ap rfl O.defers (AE O rfl) ⟨_,rfl,J.below,?_⟩
  show _=_
  rfl
theorem Qs {n a b c:Nat}(ha:a<n)(hb:b<n)(hc:c<n):∀ i,i<3->l4 a b c 0 i<n:=fun i hi=>by
  obtain rfl | rfl | rfl:i=0\/i=1\/i=2:=by omega
  . exact ha
  . exact hb
  . exact hc
theorem Bq:F7 Try.prog 34=some (.agg (AY 0 0 (fun _ _ _=>0) (fun _=>0))):=by kernel_rfl
theorem LS:∀ (p n:Int) (f:Nat->Nat) w,(Instr.build 34 #[(0,.int .i64 p),(1,.int .i64 n),(3,.agg (Af f))]).run Try.prog w = .ok (.agg (AY p n (fun _ _ _=>0) f)) w:=by intros;kernel_rfl
theorem Bs:DJ Try.prog 34=some 224:=by kernel_rfl
theorem Hf:∀ w,(Instr.build 32 #[(0,.int .u8 (1))]).run Try.prog w = .ok (.agg (Af (fun c=>if c=0 then 1 else 0))) w:=by intros;kernel_rfl
theorem LU:∀ (p n:Int) w,(Instr.build 34 #[(0,.int .i64 p),(1,.int .i64 n)]).run Try.prog w = .ok (.agg (AY p n (fun _ _ _=>0) (fun _=>0))) w:=by intros;kernel_rfl
def Ie (n:Nat) (M:Nat->Nat->Nat) (i0 j0 i j k:Nat):Nat:=if (i<i0\/(i=i0/\j<j0))/\j<n/\k=M i j then 1 else 0
def gT (n:Nat) (M:Nat->Nat->Nat) (i j k:Nat):Nat:=if i<n/\j<n/\k=M i j then 1 else 0
theorem gTp_0 {n:Nat}{M:Nat->Nat->Nat}{i j k:Nat}:Ie n M 0 0 i j k=0:=by unfold Ie;rw [if_neg (by omega)]
theorem Mh {n:Nat}{M:Nat->Nat->Nat}{a i j k:Nat}:Ie n M a n i j k=Ie n M (a+1) 0 i j k:=by
  unfold Ie
  by_cases h:k=M i j
  . by_cases h2:(i<a\/(i=a/\j<n))/\j<n
    . rw [if_pos ⟨h2.1,h2.2,h⟩,if_pos ⟨by omega,by omega,h⟩]
    . rw [if_neg (fun q=>h2 ⟨q.1,q.2.1⟩),if_neg (fun q=>h2 (by omega))]
  . rw [if_neg (fun q=>h q.2.2),if_neg (fun q=>h q.2.2)]
theorem Mi {n:Nat}{M:Nat->Nat->Nat}{i j k:Nat}:Ie n M n 0 i j k=gT n M i j k:=by
  unfold Ie gT
  by_cases h:k=M i j
  . by_cases h2:i<n/\j<n
    . rw [if_pos ⟨by omega,by omega,h⟩,if_pos ⟨by omega,by omega,h⟩]
    . rw [if_neg (by omega),if_neg (by omega)]
  . rw [if_neg (fun q=>h q.2.2),if_neg (fun q=>h q.2.2)]
theorem K1 {n:Nat}{M:Nat->Nat->Nat}{a b i j k:Nat}(hb:b<n):(if i=a/\j=b then (if k=M a b then 1 else 0) else Ie n M a b i j k)=Ie n M a (b+1) i j k:=by
  unfold Ie
  by_cases e:i=a/\j=b
  . obtain ⟨rfl,rfl⟩:=e
    rw [if_pos ⟨rfl,rfl⟩]
    by_cases h:k=M i j
    . rw [if_pos h,if_pos ⟨by omega,hb,h⟩]
    . rw [if_neg h,if_neg (fun q=>h q.2.2)]
  . rw [if_neg e]
    by_cases h:k=M i j
    . by_cases h2:(i<a\/(i=a/\j<b))/\j<n
      . rw [if_pos ⟨h2.1,h2.2,h⟩,if_pos ⟨by omega,by omega,h⟩]
      . rw [if_neg (fun q=>h2 ⟨q.1,q.2.1⟩),if_neg (fun q=>h2 (by omega))]
    . rw [if_neg (fun q=>h q.2.2),if_neg (fun q=>h q.2.2)]
theorem NZ {n:Nat}{M:Nat->Nat->Nat}{a b i j k:Nat}(hb:b<n):(if i=a/\j=b/\k=M a b then 1 else Ie n M a b i j k)=Ie n M a (b+1) i j k:=by
  rw [← K1 hb]
  by_cases e:i=a/\j=b
  . rw [if_pos e]
    by_cases h:k=M a b
    . rw [if_pos ⟨e.1,e.2,h⟩,if_pos h]
    . rw [if_neg (fun q=>h q.2.2),if_neg h]
      obtain ⟨rfl,rfl⟩:=e
      unfold Ie;rw [if_neg (fun q=>h q.2.2)]
  . rw [if_neg e,if_neg (fun q=>e ⟨q.1,q.2.1⟩)]
def TS (c:Nat):Nat:=if c=0 then 1 else 0
theorem F5 (p:Int)(n:Nat)(M:Nat->Nat->Nat)(f:Nat->Nat)(w:World)(hn0:0<n)(hn:n<=6)(hB:∀ i j,M i j<=255)(hG:TabP n M) :
    CallsR Try.prog 47 #[.int .i64 (p),.int .i64 (n:Int),.agg (Af f),.func (.func 32) #[.agg (AB (n:Int) M)] #[]] w (fun res _=>res = .agg (AY p (n:Int) (gT n M) f)):=by
  refine AQ [.int .i64 (p),.int .i64 (n:Int),.agg (Af f),.func (.func 32) #[.agg (AB (n:Int) M)] #[]] Try.func47 rfl Try.ntmps47 rfl fun a O=>?_;have J:AR w w [none,none,none] []:=MemX.start w 3;change Fr 41 a [(0,.int .i64 (p)),(1,.int .i64 (n:Int)),(2,.agg (Af f)),(3,.func (.func 32) #[.agg (AB (n:Int) M)] #[])] at O;refine sr<|Aj O (Aw 0 J O rfl) rfl ?_;rintro _ w' a ⟨b1,rfl,J,-⟩ O;refine Aj O (Ax 1 J Bq) rfl ?_;rintro _ w' a ⟨b2,rfl,J,-⟩ O;change AR _ _ [some (b1,Af f),some (b2,AY 0 0 (fun _ _ _=>0) (fun _=>0)),_] [] at J;refine ns<|mv O rfl rfl fun a O=>mv O rfl rfl fun a O=>st O (AF Bc O rfl (J.row 0 rfl) (by simp only [AT,AA]<;>omega) (whole (by simp only [AT,AA]))) rfl fun a O=>st O (Eg O (PI O rfl rfl rfl) (fun w=>LS _ _ _ w)) rfl fun a O=>Aj O (Ax 2 J Bq) rfl ?_;rintro _ w' a ⟨b3,rfl,J,-⟩ O;change AR _ _ [_,_,some (b3,AY 0 0 (fun _ _ _=>0) (fun _=>0))] [] at J;refine Bu O (AX 2 J rfl Bs O rfl rfl cells_one (by simp only [AT,AA]) (by simp only [AT,AA]<;>omega) (AP _ _ (by simp only [AT,AA]))) ?_;intro _ w' a J O;refine nt<|sq<|sr<|mv O rfl rfl fun a O=>mv O rfl rfl fun a O=>nt<|wp_block ?_;change AR _ _ [_,_,some (b3,AY (p) (n:Int) (fun _ _ _=>0) f)] [] at J;refine Ag (fun (kk:Nat) a w'=>kk<=n/\(True)/\Fr 41 a [(1,.int .i64 (n:Int)),(3,.func (.func 32) #[.agg (AB (n:Int) M)] #[]),(8,ptr b2 (0)),(9,ptr b3 (0)),(17,.int .i64 (n:Int)),(18,.int .i64 (kk:Int))]/\AR w w' [some (b1,Af f),some (b2,AY 0 0 (fun _ _ _=>0) (fun _=>0)),some (b3,AY p (n:Int) (Ie n M (kk) (0)) f)] []) (fun kk=>n - kk) 0 ?_ ?_
  . refine ⟨by omega,trivial,O.sub _ (by repeat' constructor),?_⟩
    exact J.rowc 2 rfl (Be fun i hi j hj k hk=>gTp_0.symm)
  clear O J;rintro gi a w' ⟨hgi,hH,O,J⟩;refine sr<|st O (Ak O rfl rfl) rfl fun a O=>nt<|sq<|AI O rfl (fun h4=>?_) (fun h4=>?_)
  . refine wp_skip ?_
    refine tN<|sq<|wp_block<|sr<|mv O rfl rfl fun a O=>ag O rfl rfl fun a O=>ns<|mv O rfl rfl fun a O=>mv O rfl rfl fun a O=>nt<|wp_block ?_;change AR w _ [some (b1,Af f),some (b2,AY 0 0 (fun _ _ _=>0) (fun _=>0)),some (b3,AY p (n:Int) (Ie n M (gi) (0)) f)] [] at J;refine Ag (fun (kk:Nat) a w'=>kk<=n/\(True)/\Fr 41 a [(1,.int .i64 (n:Int)),(3,.func (.func 32) #[.agg (AB (n:Int) M)] #[]),(8,ptr b2 (0)),(9,ptr b3 (0)),(17,.int .i64 (n:Int)),(18,.int .i64 (gi:Int)),(19,.bool (decide (((gi:Int):Int)<(n:Int)))),(20,.int .i64 (gi:Int)),(10,.int .i64 (gi:Int)),(21,.int .i64 (n:Int)),(22,.int .i64 (kk:Int))]/\AR w w' [some (b1,Af f),some (b2,AY 0 0 (fun _ _ _=>0) (fun _=>0)),some (b3,AY p (n:Int) (Ie n M (gi) (kk)) f)] []) (fun kk=>n - kk) 0 ?_ ?_
    . refine ⟨by omega,trivial,O.sub _ (by repeat' constructor),?_⟩
      exact J
    clear O J;rintro gj a w' ⟨hU,hJ,O,J⟩;have z3:gi<n->gj<n->M gi gj<n:=fun q1 q2=>hG.lt (by omega) (by omega);have hO:=hB gi gj;refine sr<|st O (Ak O rfl rfl) rfl fun a O=>nt<|sq<|AI O rfl (fun h5=>?_) (fun h5=>?_)
    . refine wp_skip ?_
      refine tN<|sq<|wp_block<|sr<|mv O rfl rfl fun a O=>ag O rfl rfl fun a O=>ns<|mv O rfl rfl fun a O=>mv O rfl rfl fun a O=>mv O rfl rfl fun a O=>Aj O (PB (bnd:=[.agg (AB (n:Int) M)]) Try.call32 O rfl (.cons rfl (.cons rfl .nil)) (CW (n:Int) M (gi) (gj) _ hB (by omega) (by omega))) rfl ?_;rintro _ w' a ⟨hx,rfl⟩ O;have J:=J.ext hx;refine ag O rfl rfl fun a O=>ns<|mv O rfl rfl fun a O=>st O (A0 O rfl rfl) rfl fun a O=>nt<|AI O rfl (fun h6=>?_) (fun h6=>?_)
      . refine Bt 6 [] [.val (.int .i64 (gi:Int)),.val (.int .i64 (gj:Int)),.val (.int .i64 ((M (gi) (gj):Int))),.val (.agg (Af (fun c=>if c=M (gi) (gj) then 1 else 0))),.val (ptr b3 (0+2)),.val (ptr b3 (0+2+(gi)*36))] Bb rfl O rfl J ⟨fun a w gG O hS hd=>by exact BF hS rfl O rfl,fun a w gG O hS hd=>by exact BF hS rfl O rfl,fun a w gG O hS hd=>by exact BF hS rfl O rfl,fun a w gG O hS hd=>by have O:=O.ext1 33 (hd 2 rfl rfl);exact BT (by repeat constructor) hS rfl (AO Try.call70 O (.cons rfl .nil) (CZ (M (gi) (gj)) _ (by omega))),fun a w gG O hS hd=>by exact AD hS rfl (AC CH O rfl),fun a w gG O hS hd=>by have O:=O.ext1 31 (hd 0 rfl rfl);have O:=O.ext1 35 (hd 4 rfl rfl);exact AD hS rfl (AH C8 O rfl rfl rfl (by omega)),trivial⟩ ?_
        intro a w' L O hS hq;have O:=O.ext1 31 (hq 0 rfl rfl);have O:=O.ext1 32 (hq 1 rfl rfl);have O:=O.ext1 33 (hq 2 rfl rfl);have O:=O.ext1 34 (hq 3 rfl rfl);have O:=O.ext1 35 (hq 4 rfl rfl);have O:=O.ext1 36 (hq 5 rfl rfl);have J:=hS.mem rfl;change wpList Try.prog _ _ [_,_] _ _;refine st O (AH Av O rfl rfl rfl (by omega)) rfl fun a O=>Bu O (AX 2 J rfl Hx O rfl rfl Bp (by simp only [AT,AA]) (by simp only [AT,AA]<;>omega) (LF (gi) (gj) (by omega) (by omega) (by omega))) ?_;intro _ w' a J O;change AR _ _ [_,_,some (b3,AY p (n:Int) (fun i j k=>if i=gi/\j=gj then ((fun c=>if c=M (gi) (gj) then 1 else 0)) k else ((Ie n M (gi) (gj))) i j k) f)] [] at J;refine wpList_nil<|iN<|tN<|wp_region_lit<|st O (Ac O rfl rfl (AN (gj) (1) (by omega))) rfl fun a O=>mv O rfl rfl fun a O=>nt<|⟨gj+1,⟨by omega,trivial,O.sub _ (by repeat' constructor),?_⟩,by omega⟩;exact J.rowc 2 rfl (Be fun i hi j hj k hk=>K1 (by omega))
      exfalso;omega
    obtain rfl:n=gj:=by omega
    refine wp_exit<|tX<|tX<|AW<|iN<|tN<|wp_region_lit<|st O (Ac O rfl rfl (AN (gi) (1) (by omega))) rfl fun a O=>mv O rfl rfl fun a O=>nt<|⟨gi+1,⟨by omega,trivial,O.sub _ (by repeat' constructor),?_⟩,by omega⟩;exact J.rowc 2 rfl (Be fun i hi j hj k hk=>Mh)
  obtain rfl:n=gi:=by omega
  have J:=J.rowc (cs':=AY p (n:Int) (gT n M) f) 2 rfl (Be fun i hi j hj k hk=>Mi);refine wp_exit<|tX<|tX<|AW<|tN<|sr<|st O (AF A3 O rfl (J.row 2 rfl) (by simp only [AT,AA]<;>omega) (whole Aq)) rfl fun a O=>Bu O (AX 1 J rfl Bs O rfl rfl cells_one (by simp only [AT,AA]) (by simp only [AT,AA]<;>omega) (AP _ _ (by simp only [AT,AA]))) ?_;intro _ w' a J O;change AR _ _ [_,some (b2,AY p (n:Int) (gT n M) f),_] [] at J;refine nt<|wp_ret<|Ap rfl O.defers (BD A3 O rfl (J.row 1 rfl) (by simp only [AT,AA])) ⟨_,rfl,J.below,?_⟩
  show _=_
  rfl
theorem Hh (p:Int)(n:Nat)(M:Nat->Nat->Nat)(w:World)(hn0:0<n)(hn:n<=6)(hB:∀ i j,M i j<=255)(hG:TabP n M) :
    CallsR Try.prog 21 #[.int .i64 (p),.agg (AB (n:Int) M)] w (fun res _=>res = .agg (AY p (n:Int) (gT n M) (fun c=>if c=0 then 1 else 0))):=by
  refine AQ [.int .i64 (p),.agg (AB (n:Int) M)] Try.func21 rfl Try.ntmps21 rfl fun a O=>?_;have J:AR w w [none,none] []:=MemX.start w 2;change Fr 12 a [(0,.int .i64 (p)),(1,.agg (AB (n:Int) M))] at O;refine sr<|Aj O (Aw 0 J O rfl) rfl ?_;rintro _ w' a ⟨b1,rfl,J,-⟩ O;refine Aj O (Ax 1 J Bq) rfl ?_;rintro _ w' a ⟨b2,rfl,J,-⟩ O;change AR _ _ [some (b1,AB (n:Int) M),some (b2,AY 0 0 (fun _ _ _=>0) (fun _=>0))] [] at J;refine ns<|mv O rfl rfl fun a O=>st O (AC AV O rfl) rfl fun a O=>st O (AM AL O rfl (J.row 0 rfl) (Au (by omega))) rfl fun a O=>st O (Eg O (C2 O rfl) Hf) rfl fun a O=>st O (AF AK O rfl (J.row 0 rfl) (by simp only [AT,AA]<;>omega) (whole (by simp only [AT,AA]))) rfl fun a O=>st O (K0 O rfl) rfl fun a O=>Aj O (AO Try.call47 O (.cons rfl (.cons rfl (.cons rfl (.cons rfl .nil)))) (F5 (p) n M ((fun c=>if c=0 then 1 else 0)) _ hn0 hn hB hG)) rfl ?_;rintro _ w' a ⟨hx,rfl⟩ O;have J:=J.ext hx;refine Bu O (AX 1 J rfl Bs O rfl rfl cells_one (by simp only [AT,AA]) (by simp only [AT,AA]<;>omega) (AP _ _ (by simp only [AT,AA]))) ?_;intro _ w' a J O;change AR _ _ [_,some (b2,AY (p) (n:Int) (gT n M) ((fun c=>if c=0 then 1 else 0)))] [] at J;refine nt<|wp_ret<|Ap rfl O.defers (BD A3 O rfl (J.row 1 rfl) (by simp only [AT,AA])) ⟨_,rfl,J.below,?_⟩
  show _=_
  rfl
theorem Ik (p:Int)(n:Nat)(M:Nat->Nat->Nat)(w:World)(hn0:0<n)(hn:n<=6)(hB:∀ i j,M i j<=255)(hG:TabP n M) :
    CallsR Try.prog 23 #[.int .i64 (p),.agg (AB (n:Int) M)] w (fun res _=>res = .agg (AY p (n:Int) (gT n M) (fun c=>if c=0 then 1 else 0))):=by
  refine AQ [.int .i64 (p),.agg (AB (n:Int) M)] Try.func23 rfl Try.ntmps23 rfl fun a O=>?_;have J:AR w w [none,none,none] []:=MemX.start w 3;change Fr 39 a [(0,.int .i64 (p)),(1,.agg (AB (n:Int) M))] at O;refine sr<|Aj O (Aw 0 J O rfl) rfl ?_;rintro _ w' a ⟨b1,rfl,J,-⟩ O;refine Aj O (Ax 1 J Bq) rfl ?_;rintro _ w' a ⟨b2,rfl,J,-⟩ O;change AR _ _ [some (b1,AB (n:Int) M),some (b2,AY 0 0 (fun _ _ _=>0) (fun _=>0)),_] [] at J;refine ns<|mv O rfl rfl fun a O=>st O (AC AV O rfl) rfl fun a O=>st O (AM AL O rfl (J.row 0 rfl) (Au (by omega))) rfl fun a O=>st O (Eg O (Q6 O rfl rfl) (fun w=>LU _ _ w)) rfl fun a O=>Aj O (Ax 2 J Bq) rfl ?_;rintro _ w' a ⟨b3,rfl,J,-⟩ O;change AR _ _ [_,_,some (b3,AY 0 0 (fun _ _ _=>0) (fun _=>0))] [] at J;refine Bu O (AX 2 J rfl Bs O rfl rfl cells_one (by simp only [AT,AA]) (by simp only [AT,AA]<;>omega) (AP _ _ (by simp only [AT,AA]))) ?_;intro _ w' a J O;refine nt<|sq<|sr<|ag O rfl rfl fun a O=>nt<|wp_block ?_;change AR _ _ [_,_,some (b3,AY (p) (n:Int) (fun _ _ _=>0) (fun _=>0))] [] at J;refine Ag (fun (kk:Nat) a w'=>kk<=n/\(True)/\Fr 39 a [(3,ptr b1 (0)),(4,ptr b2 (0)),(5,ptr b3 (0)),(6,.int .i64 (kk:Int))]/\AR w w' [some (b1,AB (n:Int) M),some (b2,AY 0 0 (fun _ _ _=>0) (fun _=>0)),some (b3,AY p (n:Int) (Ie n M (kk) (0)) (fun _=>0))] []) (fun kk=>n - kk) 0 ?_ ?_
  . refine ⟨by omega,trivial,O.sub _ (by repeat' constructor),?_⟩
    exact J.rowc 2 rfl (Be fun i hi j hj k hk=>gTp_0.symm)
  clear O J;rintro gi a w' ⟨hgi,hH,O,J⟩;refine sq<|sr<|mv O rfl rfl fun a O=>st O (AC AV O rfl) rfl fun a O=>st O (AM AL O rfl (J.row 0 rfl) (Au (by omega))) rfl fun a O=>st O (Ak O rfl rfl) rfl fun a O=>nt<|AI O rfl (fun h4=>?_) (fun h4=>?_)
  . refine wp_skip ?_
    refine tN<|sq<|wp_block<|sr<|ag O rfl rfl fun a O=>nt<|wp_block ?_;change AR w _ [some (b1,AB (n:Int) M),some (b2,AY 0 0 (fun _ _ _=>0) (fun _=>0)),some (b3,AY p (n:Int) (Ie n M (gi) (0)) (fun _=>0))] [] at J;refine Ag (fun (kk:Nat) a w'=>kk<=n/\(True)/\Fr 39 a [(3,ptr b1 (0)),(4,ptr b2 (0)),(5,ptr b3 (0)),(6,.int .i64 (gi:Int)),(12,.int .i64 (gi:Int)),(13,ptr b1 (0+0)),(14,.int .i64 (n:Int)),(15,.bool (decide (((gi:Int):Int)<(n:Int)))),(7,.int .i64 (kk:Int))]/\AR w w' [some (b1,AB (n:Int) M),some (b2,AY 0 0 (fun _ _ _=>0) (fun _=>0)),some (b3,AY p (n:Int) (Ie n M (gi) (kk)) (fun _=>0))] []) (fun kk=>n - kk) 0 ?_ ?_
    . refine ⟨by omega,trivial,O.sub _ (by repeat' constructor),?_⟩
      exact J
    clear O J;rintro gj a w' ⟨hU,hJ,O,J⟩;have z3:gi<n->gj<n->M gi gj<n:=fun q1 q2=>hG.lt (by omega) (by omega);have hO:=hB gi gj;refine sq<|sr<|mv O rfl rfl fun a O=>st O (AC AV O rfl) rfl fun a O=>st O (AM AL O rfl (J.row 0 rfl) (Au (by omega))) rfl fun a O=>st O (Ak O rfl rfl) rfl fun a O=>nt<|AI O rfl (fun h5=>?_) (fun h5=>?_)
    . refine wp_skip ?_
      refine tN<|sq<|wp_block<|Bt 11 [] [.val (.int .i64 (gi:Int)),.val (.int .i64 (gj:Int)),.val (.int .i64 (gi:Int)),.val (.int .i64 (gj:Int)),.val (ptr b1 (0+1)),.val (ptr b1 (0+1+(gi)*6)),.val (ptr b1 (0+1+(gi)*6+(gj)*1)),.val (.int .u8 ((M (gi) (gj):Int))),.val (ptr b3 (0+2)),.val (ptr b3 (0+2+(gi)*36)),.val (ptr b3 (0+2+(gi)*36+(gj)*6))] Bb rfl O rfl J ⟨fun a w gG O hS hd=>by exact BF hS rfl O rfl,fun a w gG O hS hd=>by exact BF hS rfl O rfl,fun a w gG O hS hd=>by exact BF hS rfl O rfl,fun a w gG O hS hd=>by exact BF hS rfl O rfl,fun a w gG O hS hd=>by exact AD hS rfl (AC As O rfl),fun a w gG O hS hd=>by have O:=O.ext1 26 (hd 2 rfl rfl);have O:=O.ext1 28 (hd 4 rfl rfl);exact AD hS rfl (AH Av O rfl rfl rfl (by omega)),fun a w gG O hS hd=>by have O:=O.ext1 27 (hd 3 rfl rfl);have O:=O.ext1 29 (hd 5 rfl rfl);exact AD hS rfl (AH Az O rfl rfl rfl (by omega)),fun a w gG O hS hd=>by have O:=O.ext1 30 (hd 6 rfl rfl);have J:=hS.mem rfl;exact AD hS rfl (AM Ah O rfl (J.row 0 rfl) (BU (gi) (gj) (by omega) (by omega) (by omega))),fun a w gG O hS hd=>by exact AD hS rfl (AC CH O rfl),fun a w gG O hS hd=>by have O:=O.ext1 24 (hd 0 rfl rfl);have O:=O.ext1 32 (hd 8 rfl rfl);exact AD hS rfl (AH C8 O rfl rfl rfl (by omega)),fun a w gG O hS hd=>by have O:=O.ext1 25 (hd 1 rfl rfl);have O:=O.ext1 33 (hd 9 rfl rfl);exact AD hS rfl (AH Av O rfl rfl rfl (by omega)),trivial⟩ ?_;intro a w' L O hS hq;have O:=O.ext1 24 (hq 0 rfl rfl);have O:=O.ext1 25 (hq 1 rfl rfl);have O:=O.ext1 26 (hq 2 rfl rfl);have O:=O.ext1 27 (hq 3 rfl rfl);have O:=O.ext1 28 (hq 4 rfl rfl);have O:=O.ext1 29 (hq 5 rfl rfl);have O:=O.ext1 30 (hq 6 rfl rfl);have O:=O.ext1 31 (hq 7 rfl rfl);have O:=O.ext1 32 (hq 8 rfl rfl);have O:=O.ext1 33 (hq 9 rfl rfl);have O:=O.ext1 34 (hq 10 rfl rfl);have J:=hS.mem rfl;change wpList Try.prog _ _ [_,_] _ _;refine st O (AH Az O rfl rfl rfl (by omega)) rfl fun a O=>Bu O (BE 2 J rfl Ah O rfl rfl rfl (by first | omega | (simp only [AT,AA]<;>omega) | (simp only [Array.size_setIfInBounds];omega) | simp)) ?_;intro _ w' a J O;rw [show (AY p (n:Int) (Ie n M (gi) (gj)) (fun _=>0)).setIfInBounds (0+2+(gi)*36+(gj)*6+(M (gi) (gj))*1) (.int .u8 (1))=AY p (n:Int) (fun i j k=>if i=gi/\j=gj/\k=M (gi) (gj) then 1 else ((Ie n M (gi) (gj))) i j k) (fun _=>0) from G7 (v:=1) (gi) (gj) (M (gi) (gj)) (by omega) (by omega) (by omega) (by omega)] at J;change AR _ _ [_,_,_] [] at J;refine wpList_nil<|iN<|tN<|wp_region_lit<|mv O rfl rfl fun a O=>st O (Ac O rfl rfl (AN (gj) (1) (by omega))) rfl fun a O=>ag O rfl rfl fun a O=>nt<|⟨gj+1,⟨by omega,trivial,O.sub _ (by repeat' constructor),?_⟩,by omega⟩;exact J.rowc 2 rfl (Be fun i hi j hj k hk=>NZ (by omega))
    obtain rfl:n=gj:=by omega
    refine wp_exit<|tX<|tX<|AW<|iN<|tN<|wp_region_lit<|mv O rfl rfl fun a O=>st O (Ac O rfl rfl (AN (gi) (1) (by omega))) rfl fun a O=>ag O rfl rfl fun a O=>nt<|⟨gi+1,⟨by omega,trivial,O.sub _ (by repeat' constructor),?_⟩,by omega⟩;exact J.rowc 2 rfl (Be fun i hi j hj k hk=>Mh)
  obtain rfl:n=gi:=by omega
  have J:=J.rowc (cs':=AY p (n:Int) (gT n M) (fun _=>0)) 2 rfl (Be fun i hi j hj k hk=>Mi);refine wp_exit<|tX<|tX<|AW<|tN<|sr<|st O (AC Em O rfl) rfl fun a O=>st O (AH (i:=0) DO O rfl rfl rfl (by omega)) rfl fun a O=>Bu O (BE 2 J rfl Ah O rfl rfl rfl (by first | omega | (simp only [AT,AA]<;>omega) | (simp only [Array.size_setIfInBounds];omega) | simp)) ?_;intro _ w' a J O;rw [show (AY p (n:Int) (gT n M) (fun _=>0)).setIfInBounds (0+218+(0)*1) (.int .u8 (1))=AY p (n:Int) (gT n M) (fun i=>if i=0 then 1 else ((fun _=>0)) i) from Nk (v:=1) (0) (by omega) (by omega)] at J;change AR _ _ [_,_,_] [] at J;refine ns<|st O (AF A3 O rfl (J.row 2 rfl) (by simp only [AT,AA]<;>omega) (whole Aq)) rfl fun a O=>Bu O (AX 1 J rfl Bs O rfl rfl cells_one (by simp only [AT,AA]) (by simp only [AT,AA]<;>omega) (AP _ _ (by simp only [AT,AA]))) ?_;intro _ w' a J O;change AR _ _ [_,some (b2,AY p (n:Int) (gT n M) (fun i=>if i=0 then 1 else ((fun _=>0)) i)),_] [] at J;refine nt<|wp_ret<|Ap rfl O.defers (BD A3 O rfl (J.row 1 rfl) (by simp only [AT,AA])) ⟨_,rfl,J.below,?_⟩
  show _=_
  rfl
theorem GK (p:Int)(n:Int)(M:Nat->Nat->Nat)(w:World)(hB:∀ i j,M i j<=255)(hc:¬ GrpP n M) :
    CallsR Try.prog 24 #[.int .i64 (p),.agg (AB n M)] w (fun res _=>res = .int .i64 1):=by
  refine AQ [.int .i64 (p),.agg (AB n M)] Try.func24 rfl Try.ntmps24 rfl fun a O=>?_;have J:AR w w [none] []:=MemX.start w 1;change Fr 11 a [(0,.int .i64 (p)),(1,.agg (AB n M))] at O;refine sr<|Aj O (Aw 0 J O rfl) rfl ?_;rintro _ w' a ⟨b1,rfl,J,-⟩ O;change AR _ _ [some (b1,AB n M)] [] at J;refine ag O rfl rfl fun a O=>nt<|sq<|sr<|st O (AF AK O rfl (J.row 0 rfl) (by simp only [AT,AA]<;>omega) (whole (by simp only [AT,AA]))) rfl fun a O=>Aj O (AO Try.call48 O (.cons rfl .nil) ((CallsR.val (Oo n M _ hB) (congrArg Value.bool (decide_eq_false hc))))) rfl ?_;rintro _ w' a ⟨hx,rfl⟩ O;have J:=J.ext hx;refine st O (Co (b:=false) O rfl) rfl fun a O=>nt<|Hk O rfl<|sr<|ag O rfl rfl fun a O=>nt<|wp_ret<|tR<|Ap rfl O.defers (AE O rfl) ⟨_,rfl,J.below,?_⟩
  show _=_
  rfl
theorem GJ (p:Int)(n:Nat)(M:Nat->Nat->Nat)(w:World)(hn0:0<n)(hn:n<=6)(hB:∀ i j,M i j<=255)(hG:TabP n M)(hP:¬ Ae p) :
    CallsR Try.prog 24 #[.int .i64 (p),.agg (AB (n:Int) M)] w (fun res _=>res = .int .i64 2):=by
  refine AQ [.int .i64 (p),.agg (AB (n:Int) M)] Try.func24 rfl Try.ntmps24 rfl fun a O=>?_;have J:AR w w [none] []:=MemX.start w 1;change Fr 11 a [(0,.int .i64 (p)),(1,.agg (AB (n:Int) M))] at O;refine sr<|Aj O (Aw 0 J O rfl) rfl ?_;rintro _ w' a ⟨b1,rfl,J,-⟩ O;change AR _ _ [some (b1,AB (n:Int) M)] [] at J;refine ag O rfl rfl fun a O=>nt<|sq<|sr<|st O (AF AK O rfl (J.row 0 rfl) (by simp only [AT,AA]<;>omega) (whole (by simp only [AT,AA]))) rfl fun a O=>Aj O (AO Try.call48 O (.cons rfl .nil) ((CallsR.val (Oo (n:Int) M _ hB) (congrArg Value.bool (decide_eq_true (GrpP.mk hn0 hn hG)))))) rfl ?_;rintro _ w' a ⟨hx,rfl⟩ O;have J:=J.ext hx;refine st O (Co (b:=true) O rfl) rfl fun a O=>nt<|CN O rfl<|wp_skip<|tN<|sq<|sr<|mv O rfl rfl fun a O=>Aj O (AO Try.call49 O (.cons rfl .nil) (Et (p) _)) rfl ?_;rintro _ w' a ⟨hx,rfl⟩ O;have J:=J.ext hx;refine st O (CP O rfl) rfl fun a O=>nt<|AI O rfl (fun h3=>?_) (fun h3=>?_)
  . refine sq ?_
    refine wp_region_lit<|ag O rfl rfl fun a O=>nt<|wp_ret<|tR<|Ap rfl O.defers (AE O rfl) ⟨_,rfl,J.below,?_⟩
    show _=_
    rfl
  first | exact absurd (by assumption) hP | exact absurd hP (by assumption)
theorem DU (p:Int)(n:Nat)(M:Nat->Nat->Nat)(w:World)(hn0:0<n)(hn:n<=6)(hB:∀ i j,M i j<=255)(hG:TabP n M)(hP:Ae p) :
    CallsR Try.prog 24 #[.int .i64 (p),.agg (AB (n:Int) M)] w (fun res _=>res = .int .i64 0):=by
  refine AQ [.int .i64 (p),.agg (AB (n:Int) M)] Try.func24 rfl Try.ntmps24 rfl fun a O=>?_;have J:AR w w [none] []:=MemX.start w 1;change Fr 11 a [(0,.int .i64 (p)),(1,.agg (AB (n:Int) M))] at O;refine sr<|Aj O (Aw 0 J O rfl) rfl ?_;rintro _ w' a ⟨b1,rfl,J,-⟩ O;change AR _ _ [some (b1,AB (n:Int) M)] [] at J;refine ag O rfl rfl fun a O=>nt<|sq<|sr<|st O (AF AK O rfl (J.row 0 rfl) (by simp only [AT,AA]<;>omega) (whole (by simp only [AT,AA]))) rfl fun a O=>Aj O (AO Try.call48 O (.cons rfl .nil) ((CallsR.val (Oo (n:Int) M _ hB) (congrArg Value.bool (decide_eq_true (GrpP.mk hn0 hn hG)))))) rfl ?_;rintro _ w' a ⟨hx,rfl⟩ O;have J:=J.ext hx;refine st O (Co (b:=true) O rfl) rfl fun a O=>nt<|CN O rfl<|wp_skip<|tN<|sq<|sr<|mv O rfl rfl fun a O=>Aj O (AO Try.call49 O (.cons rfl .nil) (Et (p) _)) rfl ?_;rintro _ w' a ⟨hx,rfl⟩ O;have J:=J.ext hx;refine st O (CP O rfl) rfl fun a O=>nt<|AI O rfl (fun h3=>?_) (fun h3=>?_)
  . first | exact absurd (by assumption) hP | exact absurd hP (by assumption)
  refine wp_skip<|tN<|sr<|ag O rfl rfl fun a O=>nt<|wp_ret<|Ap rfl O.defers (AE O rfl) ⟨_,rfl,J.below,?_⟩
  show _=_
  rfl
theorem JI (p:Int)(n:Int)(M:Nat->Nat->Nat)(w:World)(hB:∀ i j,M i j<=255)(hc:¬ GrpP n M) :
    CallsR Try.prog 34 #[.int .i64 (p),.agg (AB n M)] w (fun res _=>res = .int .i64 1):=by
  refine AQ [.int .i64 (p),.agg (AB n M)] Try.func34 rfl Try.ntmps34 rfl fun a O=>?_;have J:AR w w [none] []:=MemX.start w 1;change Fr 13 a [(0,.int .i64 (p)),(1,.agg (AB n M))] at O;refine sr<|Aj O (Aw 0 J O rfl) rfl ?_;rintro _ w' a ⟨b1,rfl,J,-⟩ O;change AR _ _ [some (b1,AB n M)] [] at J;refine ag O rfl rfl fun a O=>nt<|sq<|wp_block<|sr<|st O (AF AK O rfl (J.row 0 rfl) (by simp only [AT,AA]<;>omega) (whole (by simp only [AT,AA]))) rfl fun a O=>Aj O (AO Try.call51 O (.cons rfl .nil) ((CallsR.val (On n M _ hB) (congrArg Value.bool (decide_eq_false hc))))) rfl ?_;rintro _ w' a ⟨hx,rfl⟩ O;have J:=J.ext hx;refine st O (Co (b:=false) O rfl) rfl fun a O=>ag O rfl rfl fun a O=>nt<|Hk O rfl<|sr<|ag O rfl rfl fun a O=>nt<|wp_ret<|iR<|tR<|Ap rfl O.defers (AE O rfl) ⟨_,rfl,J.below,?_⟩
  show _=_
  rfl
theorem JH (p:Int)(n:Nat)(M:Nat->Nat->Nat)(w:World)(hn0:0<n)(hn:n<=6)(hB:∀ i j,M i j<=255)(hG:TabP n M)(hP:¬ Ae p) :
    CallsR Try.prog 34 #[.int .i64 (p),.agg (AB (n:Int) M)] w (fun res _=>res = .int .i64 2):=by
  refine AQ [.int .i64 (p),.agg (AB (n:Int) M)] Try.func34 rfl Try.ntmps34 rfl fun a O=>?_;have J:AR w w [none] []:=MemX.start w 1;change Fr 13 a [(0,.int .i64 (p)),(1,.agg (AB (n:Int) M))] at O;refine sr<|Aj O (Aw 0 J O rfl) rfl ?_;rintro _ w' a ⟨b1,rfl,J,-⟩ O;change AR _ _ [some (b1,AB (n:Int) M)] [] at J;refine ag O rfl rfl fun a O=>nt<|sq<|wp_block<|sr<|st O (AF AK O rfl (J.row 0 rfl) (by simp only [AT,AA]<;>omega) (whole (by simp only [AT,AA]))) rfl fun a O=>Aj O (AO Try.call51 O (.cons rfl .nil) ((CallsR.val (On (n:Int) M _ hB) (congrArg Value.bool (decide_eq_true (GrpP.mk hn0 hn hG)))))) rfl ?_;rintro _ w' a ⟨hx,rfl⟩ O;have J:=J.ext hx;refine st O (Co (b:=true) O rfl) rfl fun a O=>ag O rfl rfl fun a O=>nt<|CN O rfl<|sr<|mv O rfl rfl fun a O=>Aj O (AO Try.call52 O (.cons rfl .nil) (HZ (p) _)) rfl ?_;rintro _ w' a ⟨hx,rfl⟩ O;have J:=J.ext hx;refine st O (CP O rfl) rfl fun a O=>ag O rfl rfl fun a O=>nt<|AI O rfl (fun h3=>?_) (fun h3=>?_)
  . refine sq ?_
    refine wp_region_lit<|ag O rfl rfl fun a O=>nt<|wp_ret<|iR<|tR<|Ap rfl O.defers (AE O rfl) ⟨_,rfl,J.below,?_⟩
    show _=_
    rfl
  first | exact absurd (by assumption) hP | exact absurd hP (by assumption)
theorem Ed (p:Int)(n:Nat)(M:Nat->Nat->Nat)(w:World)(hn0:0<n)(hn:n<=6)(hB:∀ i j,M i j<=255)(hG:TabP n M)(hP:Ae p) :
    CallsR Try.prog 34 #[.int .i64 (p),.agg (AB (n:Int) M)] w (fun res _=>res = .int .i64 0):=by
  refine AQ [.int .i64 (p),.agg (AB (n:Int) M)] Try.func34 rfl Try.ntmps34 rfl fun a O=>?_;have J:AR w w [none] []:=MemX.start w 1;change Fr 13 a [(0,.int .i64 (p)),(1,.agg (AB (n:Int) M))] at O;refine sr<|Aj O (Aw 0 J O rfl) rfl ?_;rintro _ w' a ⟨b1,rfl,J,-⟩ O;change AR _ _ [some (b1,AB (n:Int) M)] [] at J;refine ag O rfl rfl fun a O=>nt<|sq<|wp_block<|sr<|st O (AF AK O rfl (J.row 0 rfl) (by simp only [AT,AA]<;>omega) (whole (by simp only [AT,AA]))) rfl fun a O=>Aj O (AO Try.call51 O (.cons rfl .nil) ((CallsR.val (On (n:Int) M _ hB) (congrArg Value.bool (decide_eq_true (GrpP.mk hn0 hn hG)))))) rfl ?_;rintro _ w' a ⟨hx,rfl⟩ O;have J:=J.ext hx;refine st O (Co (b:=true) O rfl) rfl fun a O=>ag O rfl rfl fun a O=>nt<|CN O rfl<|sr<|mv O rfl rfl fun a O=>Aj O (AO Try.call52 O (.cons rfl .nil) (HZ (p) _)) rfl ?_;rintro _ w' a ⟨hx,rfl⟩ O;have J:=J.ext hx;refine st O (CP O rfl) rfl fun a O=>ag O rfl rfl fun a O=>nt<|AI O rfl (fun h3=>?_) (fun h3=>?_)
  . first | exact absurd (by assumption) hP | exact absurd hP (by assumption)
  refine wp_skip<|iN<|tN<|sr<|ag O rfl rfl fun a O=>nt<|wp_ret<|Ap rfl O.defers (AE O rfl) ⟨_,rfl,J.below,?_⟩
  show _=_
  rfl
def TG (k l:Nat):Int:=if l<=k then ((k - l:Nat):Int) else -1
end Go.Proofs.Ytgioobkkkicfeaa
