import Derived.Test.YtkcneleabbjkaaaK12
set_option linter.unusedVariables false
set_option linter.unusedSimpArgs false
namespace Go.Proofs.Ytkcneleabbjkaaa
open Go Go.RowKit Go.Sw Go.Ech
open Classical
theorem FG (p n:Nat)(T:Nat->Nat->Nat->Nat)(f v:Nat->Nat)(w:World)(hp:primeN p)(hn0:0<n)(hn:n<=6)(hH:∀ i j k,T i j k<p)(hO:∀ i j k,n<=k->T i j k=0)(hf:∀ i,f i<=255)(hv:∀ i,v i<=255)(uu:Nat->Nat)(hJ:UnitI p n T uu)(has:Lk p n T)(iv:Nat->Nat)(hZ:InvI p n T uu v iv)(hc:BO (p:Int) (n:Int) T f 1 (Aw [v])) :
    CallsR Try.prog 17 #[.agg (AB (p:Int) (n:Int) T f),.agg (AG v)] w (fun res _=>res = .tuple #[.agg (AG iv),.int .i64 0]):=by
  refine AS [.agg (AB (p:Int) (n:Int) T f),.agg (AG v)] Try.func17 rfl Try.ntmps17 rfl fun a O=>?_;have J:AT w w [none,none,none,none,none] []:=MemX.start w 5;change Fr 24 a [(0,.agg (AB (p:Int) (n:Int) T f)),(1,.agg (AG v))] at O;have hp2:=hp.two;have hp13:=hp.le;have hT:∀ i j k,T i j k<=255:=fun i j k=>by have:=hH i j k;omega
  have hVb:∀ i c,Aw [v] i c<=255:=B5 (fun x hx=>by simp at hx;subst hx;assumption);have hiv5:∀ c,iv c<=255:=fun c=>by have:=hZ.small c;omega
  refine sr<|Ab O (Aj 0 J O rfl) rfl ?_;rintro _ w' a ⟨b1,rfl,J,-⟩ O;refine Ab O (Aj 1 J O rfl) rfl ?_;rintro _ w' a ⟨b2,rfl,J,-⟩ O;refine Ab O (AV 2 J Ae) rfl ?_;rintro _ w' a ⟨b3,rfl,J,-⟩ O;change AT _ _ [some (b1,AB (p:Int) (n:Int) T f),some (b2,AG v),some (b3,Al 6 (fun _=>.int .u8 (0))),_,_] [] at J;refine ag O rfl rfl fun a O=>nt<|sq<|sr<|st O (AA AH O rfl (J.row 0 rfl) (by simp only [AM]<;>omega) (whole AE)) rfl fun a O=>st O (AA AQ O rfl (J.row 1 rfl) (by simp only [AM]<;>omega) (whole (by simp only [AM]))) rfl fun a O=>Ab O (Ag (vs:=[(0,.agg (AG v))]) 3 J O (BJ O rfl) (fun w=>BD v w)) rfl ?_;rintro _ w' a ⟨b4,rfl,J,-⟩ O;change AT _ _ [_,_,_,some (b4,BE 1 (Aw [v])),_] [] at J;refine Ab O (AN Try.call86 O (.cons rfl (.cons rfl .nil)) ((CallsR.val (Bv (p:Int) (n:Int) T f b4 1 1 (Aw [v]) _ (fun _ _ _=>hT _ _ _) (fun _=>hf _) hVb (by omega) (J.row 3 rfl)) (congrArg Value.bool (decide_eq_true hc))))) rfl ?_;rintro _ w' a ⟨hx,rfl⟩ O;have J:=J.ext hx;refine st O (BW (b:=true) O rfl) rfl fun a O=>nt<|Cm O rfl<|wp_skip<|tN<|sr<|st O (AA AH O rfl (J.row 0 rfl) (by simp only [AM]<;>omega) (whole AE)) rfl fun a O=>st O (AA AQ O rfl (J.row 1 rfl) (by simp only [AM]<;>omega) (whole (by simp only [AM]))) rfl fun a O=>Ab O (AN Try.call97 O (.cons rfl (.cons rfl .nil)) (Cg p n T f (v) _ hp hn0 hn hH hO hv uu hJ)) rfl ?_;rintro _ w' a ⟨hx,x,b,rfl,hI⟩ O;have J:=J.ext hx;obtain ⟨rfl,rfl⟩:b=true/\x=iv:=by
    rcases hI with ⟨e,h⟩ | ⟨_,h⟩
    . exact ⟨e,InvI.unique (Di hn has) hJ hZ h⟩
    . exact absurd hZ (h _)
  refine mv O rfl rfl fun a O=>st O (AO O rfl rfl) rfl fun a O=>st O (AO O rfl rfl) rfl fun a O=>Ab O (AV 4 J Ae) rfl ?_;rintro _ w' a ⟨b6,rfl,J,-⟩ O;change AT _ _ [_,_,_,_,some (b6,Al 6 (fun _=>.int .u8 (0)))] [] at J;refine A7 O (AI 4 J rfl Aa O rfl rfl AX (by simp only [AM]) (by simp only [AM]<;>omega) (AF _ _ (by simp only [AM]))) ?_;intro _ w' a J O;change AT _ _ [_,_,_,_,some (b6,AG x)] [] at J;refine ag O rfl rfl fun a O=>nt<|sq<|sr<|mv O rfl rfl fun a O=>st O (BW (b:=true) O rfl) rfl fun a O=>nt<|Cm O rfl<|wp_skip<|tN<|sr<|st O (AA AQ O rfl (J.row 4 rfl) (by simp only [AM]<;>omega) (whole (by simp only [AM]))) rfl fun a O=>A7 O (AI 2 J rfl Aa O rfl rfl AX (by simp only [AM]) (by simp only [AM]<;>omega) (AF _ _ (by simp only [AM]))) ?_;intro _ w' a J O;change AT _ _ [_,_,some (b3,AG x),_,_] [] at J;refine ag O rfl rfl fun a O=>nt<|wp_ret<|Ba rfl O.defers (As AQ O rfl (J.row 2 rfl) (by simp only [AM])) (AL O rfl) ⟨_,rfl,J.below,?_⟩
  show _=_
  rfl
theorem Hx (p n:Nat)(T:Nat->Nat->Nat->Nat)(f v:Nat->Nat)(w:World)(hp:primeN p)(hn0:0<n)(hn:n<=6)(hH:∀ i j k,T i j k<p)(hO:∀ i j k,n<=k->T i j k=0)(hf:∀ i,f i<=255)(hv:∀ i,v i<=255)(uu:Nat->Nat)(hJ:UnitI p n T uu)(has:Lk p n T)(hno:∀ q,¬ InvI p n T uu v q)(hc:BO (p:Int) (n:Int) T f 1 (Aw [v])) :
    CallsR Try.prog 17 #[.agg (AB (p:Int) (n:Int) T f),.agg (AG v)] w (fun res _=>res = .tuple #[.agg (AG (fun _=>0)),.int .i64 4]):=by
  refine AS [.agg (AB (p:Int) (n:Int) T f),.agg (AG v)] Try.func17 rfl Try.ntmps17 rfl fun a O=>?_;have J:AT w w [none,none,none,none,none] []:=MemX.start w 5;change Fr 24 a [(0,.agg (AB (p:Int) (n:Int) T f)),(1,.agg (AG v))] at O;have hp2:=hp.two;have hp13:=hp.le;have hT:∀ i j k,T i j k<=255:=fun i j k=>by have:=hH i j k;omega
  have hVb:∀ i c,Aw [v] i c<=255:=B5 (fun x hx=>by simp at hx;subst hx;assumption);refine sr<|Ab O (Aj 0 J O rfl) rfl ?_;rintro _ w' a ⟨b1,rfl,J,-⟩ O;refine Ab O (Aj 1 J O rfl) rfl ?_;rintro _ w' a ⟨b2,rfl,J,-⟩ O;refine Ab O (AV 2 J Ae) rfl ?_;rintro _ w' a ⟨b3,rfl,J,-⟩ O;change AT _ _ [some (b1,AB (p:Int) (n:Int) T f),some (b2,AG v),some (b3,Al 6 (fun _=>.int .u8 (0))),_,_] [] at J;refine ag O rfl rfl fun a O=>nt<|sq<|sr<|st O (AA AH O rfl (J.row 0 rfl) (by simp only [AM]<;>omega) (whole AE)) rfl fun a O=>st O (AA AQ O rfl (J.row 1 rfl) (by simp only [AM]<;>omega) (whole (by simp only [AM]))) rfl fun a O=>Ab O (Ag (vs:=[(0,.agg (AG v))]) 3 J O (BJ O rfl) (fun w=>BD v w)) rfl ?_;rintro _ w' a ⟨b4,rfl,J,-⟩ O;change AT _ _ [_,_,_,some (b4,BE 1 (Aw [v])),_] [] at J;refine Ab O (AN Try.call86 O (.cons rfl (.cons rfl .nil)) ((CallsR.val (Bv (p:Int) (n:Int) T f b4 1 1 (Aw [v]) _ (fun _ _ _=>hT _ _ _) (fun _=>hf _) hVb (by omega) (J.row 3 rfl)) (congrArg Value.bool (decide_eq_true hc))))) rfl ?_;rintro _ w' a ⟨hx,rfl⟩ O;have J:=J.ext hx;refine st O (BW (b:=true) O rfl) rfl fun a O=>nt<|Cm O rfl<|wp_skip<|tN<|sr<|st O (AA AH O rfl (J.row 0 rfl) (by simp only [AM]<;>omega) (whole AE)) rfl fun a O=>st O (AA AQ O rfl (J.row 1 rfl) (by simp only [AM]<;>omega) (whole (by simp only [AM]))) rfl fun a O=>Ab O (AN Try.call97 O (.cons rfl (.cons rfl .nil)) (Cg p n T f (v) _ hp hn0 hn hH hO hv uu hJ)) rfl ?_;rintro _ w' a ⟨hx,x,b,rfl,hI⟩ O;have J:=J.ext hx;obtain rfl:b=false:=by
    rcases hI with ⟨_,h⟩ | ⟨e,_⟩
    . exact absurd h (hno _)
    . exact e
  refine mv O rfl rfl fun a O=>st O (AO O rfl rfl) rfl fun a O=>st O (AO O rfl rfl) rfl fun a O=>Ab O (AV 4 J Ae) rfl ?_;rintro _ w' a ⟨b6,rfl,J,-⟩ O;change AT _ _ [_,_,_,_,some (b6,Al 6 (fun _=>.int .u8 (0)))] [] at J;refine A7 O (AI 4 J rfl Aa O rfl rfl AX (by simp only [AM]) (by simp only [AM]<;>omega) (AF _ _ (by simp only [AM]))) ?_;intro _ w' a J O;change AT _ _ [_,_,_,_,some (b6,AG x)] [] at J;refine ag O rfl rfl fun a O=>nt<|sq<|sr<|mv O rfl rfl fun a O=>st O (BW (b:=false) O rfl) rfl fun a O=>nt<|FJ O rfl<|sr<|st O (Bi B8) rfl fun a O=>A7 O (AI 2 J rfl Aa O rfl rfl (by first | exact AX | exact cells_one | (refine BT fun _ _=>?_;first | rfl | (split<;>rfl))) (by simp only [AM]) (by simp only [AM]<;>omega) (AF _ _ (by simp only [AM]))) ?_;intro _ w' a J O;change AT _ _ [_,_,some (b3,Al 6 (fun _=>.int .u8 (0))),_,_] [] at J;refine ag O rfl rfl fun a O=>nt<|wp_ret<|tR<|Ba rfl O.defers (As AQ O rfl (J.row 2 rfl) (by simp only [AM])) (AL O rfl) ⟨_,rfl,J.below,?_⟩
  show _=_
  rfl
def bL (p n:Nat) (T:Nat->Nat->Nat->Nat) (v uu:Nat->Nat) (k j:Nat):Nat:=if j<n then timesS p n T v (fun y=>if y=j then 1 else 0) k else uu k
theorem Qj {p n:Nat}{T:Nat->Nat->Nat->Nat}{v uu:Nat->Nat}(hp:0<p)(hu:∀ c,uu c<p):∀ k j,bL p n T v uu k j<p:=fun k j=>by
  unfold bL;split
  . unfold timesS;split
    . unfold timesV;exact Nat.mod_lt _ hp
    . exact hp
  . exact hu k
theorem bL_ker {p n:Nat}{T:Nat->Nat->Nat->Nat}{v uu x:Nat->Nat}:Ker p (n+1) (bL p n T v uu) n (Fv n x)↔∀ c,c<n->(p:Int)∣Pr n T (ci v) (ci x) c - (uu c:Int):=by
  unfold Ker
  refine forall_congr' fun c=>imp_congr_right fun hc=>?_;rw [← left_iff];have e:dot (n+1) (ci (bL p n T v uu c)) (Fv n x)=sI (fun a=>(x a:Int)*(timesV p n T v (fun y=>if y=a then 1 else 0) c:Int)) n - (uu c:Int):=by
    unfold dot
    simp only [sI];have e1:sI (fun j=>ci (bL p n T v uu c) j*Fv n x j) n=sI (fun a=>(x a:Int)*(timesV p n T v (fun y=>if y=a then 1 else 0) c:Int)) n:=Ao fun j hj=>by
      rw [GU hj];simp only [ci,bL,if_pos hj,timesS,if_pos hc];exact Int.mul_comm _ _
    have e2:ci (bL p n T v uu c) n=(uu c:Int):=by simp only [ci,bL];rw [if_neg (by omega)]
    rw [e1,e2,Gz];omega
  rw [e]
theorem P8 {n:Nat}{T:Nat->Nat->Nat->Nat}{v A B C:Nat->Int}{d:Nat}:Pr n T v (fun c=>A c - B c+C c) d=Pr n T v A d - Pr n T v B d+Pr n T v C d:=by
  simp only [Ff];rw [Eg,← D6];exact Ao fun b _=>by grind
theorem OC {p n:Nat}{T:Nat->Nat->Nat->Nat}{uu v x:Nat->Nat}(hp:0<p)(ha:I6 p n T)(hu:UnitI p n T uu)(hvx:∀ c,c<n->(p:Int)∣Pr n T (ci v) (ci x) c - (uu c:Int))
    (hq:∀ y:Nat->Nat,(∀ i,i<n->y i<p)->(∀ c,c<n->(p:Int)∣Pr n T (ci v) (ci y) c - (uu c:Int))->∀ i,i<n->y i=x i):∀ c,c<n->(p:Int)∣Pr n T (ci x) (ci v) c - (uu c:Int):=by
  intro c hc
  let z:Nat->Int:=fun c=>Pr n T (ci x) (ci v) c - ci uu c+ci x c
  let y:Nat->Nat:=fun c=>(z c%(p:Int)).toNat
  have hp':(0:Int)<p:=by omega
  have hyz:∀ c,(p:Int)∣ci y c - z c:=fun c=>by
    have h1:ci y c=z c%(p:Int):=by
      have:=Int.emod_nonneg (z c) (show (p:Int)≠0 by omega);simp only [ci,y];omega
    rw [h1];exact De _ _
  have hy1:∀ i,i<n->y i<p:=fun i _=>by
    have h1:=Int.emod_nonneg (z i) (show (p:Int)≠0 by omega);have h2:=Int.emod_lt_of_pos (z i) hp';simp only [y];omega
  have hy2:∀ d,d<n->(p:Int)∣Pr n T (ci v) (ci y) d - (uu d:Int):=fun d hd=>by
    have a1:(p:Int)∣Pr n T (ci v) (ci y) d - Pr n T (ci v) z d:=ET (fun a _=>by simp) (fun b _=>hyz b) d;have a2:Pr n T (ci v) z d=Pr n T (ci v) (Pr n T (ci x) (ci v)) d - Pr n T (ci v) (ci uu) d+Pr n T (ci v) (ci x) d:=P8;have a3:=EU ha (ci v) (ci x) (ci v) hd;have a4:(p:Int)∣Pr n T (Pr n T (ci v) (ci x)) (ci v) d - Pr n T (ci uu) (ci v) d:=ET (fun a h=>hvx a h) (fun b _=>by simp) d;have a5:=CY hu (ci v) hd;have a6:=Dp hu (ci v) hd;have a7:=hvx d hd;rw [a2] at a1;have b1:=Int.dvd_add a1 a7;have b2:=Int.dvd_sub b1 a3;have b3:=Int.dvd_add b2 a4;have b4:=Int.dvd_add b3 a5;have b5:=Int.dvd_sub b4 a6;have e:∀ Y A U X W Q V u:Int,Y - (A - U+X)+(X - u) - (W - A)+(W - Q)+(Q - V) - (U - V)=Y - u:=by intro Y A U X W Q V u;omega
    rwa [e] at b5
  have h3:=hq y hy1 hy2 c hc;have h4:=hyz c;have e:ci y c=ci x c:=by simp only [ci];rw [h3]
  rw [e] at h4;have h5:=Int.dvd_neg.2 h4
  rwa [show -(ci x c - z c)=Pr n T (ci x) (ci v) c - (uu c:Int) by simp only [z,ci];omega] at h5
theorem OB {p n k:Nat}{E:Nat->Nat->Nat}{ld:Nat->Nat}{T:Nat->Nat->Nat->Nat}{uu v:Nat->Nat}(hp:0<p)(ha:I6 p n T)(hu:UnitI p n T uu)(h:Rref p (n+1) E k ld)(hK:∀ x,Ker p (n+1) E k x↔Ker p (n+1) (bL p n T v uu) n x)(hf:Full p n E k ld):InvI p n T uu v (fun c=>if c<n then E c n else 0):=by
  have hkk:=hf.k;have hl:∀ c,c<n->(p:Int)∣Pr n T (ci v) (ci (fun c=>if c<n then E c n else 0)) c - (uu c:Int):=
    bL_ker.1 ((hK _).1 ((FY h hf (fun c=>if c<n then E c n else 0) (fun i hi=>by simp only [if_pos hi];exact h.small i (by omega) n (by omega))).2 (fun i hi=>by simp only [if_pos hi])))
  refine ⟨fun c=>?_,fun c hc=>by simp [show ¬ c<n by omega],?_,hl⟩
  . split
    . rename_i hc;exact h.small c (by omega) n (by omega)
    . exact hp
  . exact OC hp ha hu hl fun y hy hyK i hi=>by
      have:=(FY h hf y hy).1 ((hK _).2 (bL_ker.2 hyK)) i hi;rw [this,if_pos hi]
theorem JY {p n k:Nat}{E:Nat->Nat->Nat}{ld:Nat->Nat}{T:Nat->Nat->Nat->Nat}{uu v w:Nat->Nat}(hp:2<=p)(ha:I6 p n T)(hu:UnitI p n T uu)(h:Rref p (n+1) E k ld)(hK:∀ x,Ker p (n+1) E k x↔Ker p (n+1) (bL p n T v uu) n x)(hw:InvI p n T uu v w):Full p n E k ld:=by
  refine EO hp h w (fun i _=>hw.small i) ((hK _).2 (bL_ker.2 hw.left)) (fun y hy hyK i hi=>DD (hy i hi) (hw.small i) ?_);have hyl:=bL_ker.1 ((hK _).1 hyK)
  have h1:=EU ha (ci w) (ci v) (ci y) hi;have h2:(p:Int)∣Pr n T (Pr n T (ci w) (ci v)) (ci y) i - Pr n T (ci uu) (ci y) i:=ET (fun a h=>hw.right a h) (fun b _=>by simp) i;have h3:(p:Int)∣Pr n T (ci w) (Pr n T (ci v) (ci y)) i - Pr n T (ci w) (ci uu) i:=ET (fun a _=>by simp) (fun b h=>hyl b h) i;have h4:=CY hu (ci y) hi;have h5:=Dp hu (ci w) hi;have e:ci y i - ci w i=(Pr n T (Pr n T (ci w) (ci v)) (ci y) i - Pr n T (ci w) (Pr n T (ci v) (ci y)) i) - (Pr n T (Pr n T (ci w) (ci v)) (ci y) i - Pr n T (ci uu) (ci y) i) - (Pr n T (ci uu) (ci y) i - ci y i)+(Pr n T (ci w) (Pr n T (ci v) (ci y)) i - Pr n T (ci w) (ci uu) i)+(Pr n T (ci w) (ci uu) i - ci w i):=by omega
  show (p:Int)∣ci y i - ci w i
  rw [e];exact Int.dvd_add (Int.dvd_add (Int.dvd_sub (Int.dvd_sub h1 h2) h4) h3) h5
end Go.Proofs.Ytkcneleabbjkaaa
