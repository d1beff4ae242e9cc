import Derived.Test.YtkcneleabbjkaaaA21
import Derived.Test.YtkcneleabbjkaaaSw10
set_option linter.unusedVariables false
set_option linter.unusedSimpArgs false
namespace Go.Proofs.Ytkcneleabbjkaaa
open Go Go.RowKit Go.Sw Go.Ech
open Classical
theorem Ka (a p:Int):p∣a%p - a:=⟨-(a / p),by rw [Int.emod_def,Int.mul_neg];omega⟩
theorem Od {p a b:Nat}(h:(p:Int)∣(a:Int) - (b:Int))(ha:a<p)(hb:b<p):a=b:=by
  have h6:=(Int.emod_eq_emod_iff_emod_sub_eq_zero).2 (Int.emod_eq_zero_of_dvd h);rw [Int.emod_eq_of_lt (by omega) (by omega),Int.emod_eq_of_lt (by omega) (by omega)] at h6
  omega
def fV (p:Nat) (f x:Nat->Nat):Nat:=sumTo (fun i=>x i*f i) 6%p
theorem OH {p:Nat}{f x:Nat->Nat}(hp:0<p):fV p f x<p:=Nat.mod_lt _ hp
theorem OI {p n:Nat}{f x:Nat->Nat}(hn:n<=6)(hx:∀ c,n<=c->c<6->x c=0):(p:Int)∣(fV p f x:Int) - fI n f (ci x):=by
  unfold fV
  rw [Int.natCast_emod];refine CK (Ka _ _) (KA ?_);rw [Cc,Fc hn (fun c h1 h2=>by rw [hx c h1 h2];simp)];exact Ah fun c _=>by unfold ci;rw [Int.natCast_mul,Int.mul_comm]
theorem J1 {p n:Nat}{T:Nat->Nat->Nat->Nat}{f:Nat->Nat}(hn:n<=6)(hJ:∀ i j k,n<=k->T i j k=0){i k:Nat}(hk:k<n):(p:Int)∣(formM p n T f i k:Int) - fI n f (fun c=>(T i k c:Int)):=by
  have e:formM p n T f i k=fV p f (T i k):=by unfold formM fV;rw [if_pos hk]
  rw [e];exact OI hn (fun c h _=>hJ i k c h)
theorem NC (i:Nat):ci (fun c=>if c=i then 1 else 0)=fun c=>(dl i c:Int):=funext fun c=>by unfold ci;exact congrArg (fun q:Nat=>(q:Int)) LW
section
variable {P N : Int} {T U : Nat -> Nat -> Nat -> Nat} {f uu : Nat -> Nat} {p n : Nat}
theorem Good.p0 (G:Good P N T f p n U uu):0<p:=by have:=G.hp.two;omega
theorem QK {x:Nat->Nat}(h:OV p n x):∀ c,n<=c->c<6->x c=0:=fun c h1 h2=>h.out h2 h1
end
def OkG (P N:Int) (T:Nat->Nat->Nat->Nat) (f:Nat->Nat) (x r e:Int):Prop:=(e≠0->r=0)/\(e=0->∃ uu:Nat->Nat,(∀ w,CallsR Try.prog 14 #[.agg (AD P N T f)] w (fun u _=>u = .tuple #[.agg (AE uu),.int .i64 0]))/\(∀ c,uu c<=255)/\(∀ w b,Blk w b (Bh 2 (Bb [uu,uu]))->CallsR Try.prog 72 #[.agg (AD P N T f),.int .i64 x,.slice (some ⟨b,0,none⟩) 2 2] w (fun u _=>u = .tuple #[.int .i64 r,.int .i64 0]))/\(∀ w,CallsR Try.prog 69 #[.agg (AD P N T f),.int .i64 1] w (fun u _=>u = .tuple #[.int .i64 (N%P),.int .i64 0]))/\(2<=P/\P<=13)/\1<=N/\N<=6)
def Qu (P N:Int) (T:Nat->Nat->Nat->Nat) (f:Nat->Nat) (v:Nat->Nat) (r e:Int):Prop:=e=0->∃ y e2:Int,(∀ w b,Blk w b (Bh 1 (Bb [v]))->CallsR Try.prog 72 #[.agg (AD P N T f),.int .i64 1,.slice (some ⟨b,0,none⟩) 1 1] w (fun u _=>u = .tuple #[.int .i64 y,.int .i64 e2]))/\(e2=0->y=r)
def Qt (P N:Int) (T:Nat->Nat->Nat->Nat) (f:Nat->Nat) (v:Nat->Nat) (bb:Bool) (e:Int):Prop:=e=0->∃ (r:Nat->Nat) (e2:Int),(∀ w,CallsR Try.prog 17 #[.agg (AD P N T f),.agg (AE v)] w (fun u _=>u = .tuple #[.agg (AE r),.int .i64 e2]))/\bb=decide (e2=0)
def Qq (p n:Nat) (U:Nat->Nat->Nat->Nat) (f v:Nat->Nat) (i:Nat):Nat:=if i<n then fV p f (timesS p n U v (fun c=>if c=i then 1 else 0)) else f i
section
variable {P N : Int} {T U : Nat -> Nat -> Nat -> Nat} {f uu : Nat -> Nat} {p n : Nat}
theorem Jh (hp:primeN p){i:Nat}(hi:i<n):OV p n (fun c=>if c=i then 1 else 0):=OV.mk hp (fun c=>by have:=hp.two;show (if c=i then 1 else 0)<p;split<;>omega) (fun c hc=>by show (if c=i then 1 else 0)=0;rw [if_neg (by omega)])
end
def Qx (P N:Int) (T:Nat->Nat->Nat->Nat) (f:Nat->Nat) (v:Nat->Nat) (D:Array Value) (e:Int):Prop:=e=0->∃ r:Nat->Nat,(∀ w,CallsR Try.prog 17 #[.agg (AD P N T f),.agg (AE v)] w (fun u _=>u = .tuple #[.agg (AE r),.int .i64 0]))/\(∀ w,CallsR Try.prog 78 #[.agg D,.agg (AE r)] w (fun u _=>u = .tuple #[.agg (AD P N T f),.int .i64 0]))
def Pt (fs:List Field) (t u v:TypeId):Bool:=match fs with
  | [f, g, h, k] => f.name != "_" && g.name != "_" && h.name != "_" && k.name != "_" && Nat.beq f.type t && Nat.beq g.type t && Nat.beq h.type u && Nat.beq k.type v && Nat.beq f.offset 0 && Nat.beq g.offset 1 && Nat.beq h.offset 2 && Nat.beq k.offset 218
  | _=>false
theorem KP (p n:Nat)(T:Nat->Nat->Nat->Nat)(f:Nat->Nat)(bv cv:Nat)(csv:Array Value)(vv:Value)(ev:Option (Nat×Array Value))(V:Nat->Nat->Nat)(w:World)(hn0:0<n)(hn:n<=6)(hV:∀ i c,V i c<=255)(hsv:SlAt 6 vv ev n bv cv csv (fun c=>.int .u8 (V (c / 6) (c%6):Int)))(hbv:Blk w bv csv) :
    CallsR Try.prog 124 #[.agg (AD (p:Int) (n:Int) T f),.slice (some ⟨bv,0,none⟩) n cv] w (fun u w'=>TabI w w' n V u):=by
  refine AX [.agg (AD (p:Int) (n:Int) T f),.slice (some ⟨bv,0,none⟩) n cv] Try.func124 rfl Try.ntmps124 rfl fun a O=>?_;have J:AW w w [none,none,none,none] [(bv,csv)]:=MemX.startD w 4 _ (Ct hbv);change Fr 46 a [(0,.agg (AD (p:Int) (n:Int) T f)),(1,.slice (some ⟨bv,0,none⟩) n cv)] at O;have hv:∀ i c,V i c<=255:=hV;refine sr<|Ag O (Aw 0 J O rfl) rfl ?_;rintro _ w' a ⟨b1,rfl,J,-⟩ O;refine ag O rfl rfl fun a O=>ns<|mv O rfl rfl fun a O=>st O (Ba Dd O rfl) rfl fun a O=>Ag O (FH (len:=n) 1 J O Ca rfl rfl rfl (by omega) (by decide)) rfl ?_;rintro _ w' a ⟨bo,rfl,J,-⟩ O;refine ag O rfl rfl fun a O=>nt<|sq<|sr<|mv O rfl rfl fun a O=>st O (Ba Dd O rfl) rfl fun a O=>mv O rfl rfl fun a O=>nt<|wp_block ?_;change AW _ _ [some (b1,AD (p:Int) (n:Int) T f),some (bo,Ak n (fun _=>.slice none 0 0)),_,_] _ at J;refine Ai (fun (kk:Nat) a w'=>kk<=n/\∃ (D1:Ar),∃ (β:Nat->Nat),∃ (cso:Array Value),(cso.size=n/\(∀ i,i<kk->cso[0+i*1]? = some (.slice (some ⟨β i,0,none⟩) n n))/\RowsC D1 kk β (fun i=>B2 n (V i))/\(∀ i,i<kk->w.heap.size<=β i)/\(bv,csv)∈D1)/\Fr 46 a [(2,ptr b1 (0)),(4,.slice none 0 0),(5,.slice (some ⟨bo,0,none⟩) n n),(12,.slice (some ⟨bv,0,none⟩) n cv),(13,.int .i64 (n:Int)),(14,.int .i64 (kk:Int))]/\AW w w' [some (b1,AD (p:Int) (n:Int) T f),some (bo,cso),none,none] D1) (fun kk=>n - kk) 0 ?_ ?_
  . refine ⟨by omega,[(bv,csv)],(fun _=>0),(Ak n (fun _=>.slice none 0 0)),⟨BN _ _,fun i hi=>absurd hi (by omega),RowsC.none,fun i hi=>absurd hi (by omega),List.mem_cons_self ..⟩,O.sub _ (by repeat' constructor),?_⟩
    exact J
  clear O J;rintro gk a w' ⟨hgk,D1,β,cso,⟨hso,hO,hC,hbg,hvm⟩,O,J⟩;have hVg:=hV gk;refine sr<|st O (Am O rfl rfl) rfl fun a O=>nt<|sq<|AO O rfl (fun h3=>?_) (fun h3=>?_)
  . refine wp_skip ?_
    refine tN<|sq<|wp_block<|sr<|mv O rfl rfl fun a O=>st O (AS (i:=gk) Dv O rfl rfl rfl (by omega)) rfl fun a O=>st O (AC AT O rfl (J.fzm hvm) (hsv.room (gk) (by omega)) (hsv.vec0 (gk) (by omega))) rfl fun a O=>Ag O (Aa 2 J Ae) rfl ?_;rintro _ w' a ⟨b4,rfl,J,-⟩ O;change AW _ _ [_,_,some (b4,Ak 6 (fun _=>.int .u8 (0))),_] _ at J;refine ag O rfl rfl fun a O=>BC O (AI 2 J rfl Ab O rfl rfl AY (by simp only [AN,AL]) (by simp only [AN,AL]<;>omega) (AF _ _ (by simp only [AN,AL]))) ?_;intro _ w' a J O;change AW _ _ [_,_,some (b4,AE (V (gk))),_] _ at J;refine ns<|mv O rfl rfl fun a O=>mv O rfl rfl fun a O=>st O (AB AV O rfl) rfl fun a O=>st O (AK AQ O rfl (J.row 0 rfl) (Ao (by omega))) rfl fun a O=>Ag O (FH (len:=n) 3 J O CH rfl rfl rfl (by omega) (by decide)) rfl ?_;rintro _ w' a ⟨br,rfl,J,-⟩ O;change AW _ _ [_,_,_,some (br,B2 n (fun _=>0))] _ at J;refine st O (AS (i:=gk) BQ O rfl rfl rfl (by omega)) rfl fun a O=>BC O (An 1 J rfl BR O rfl rfl rfl (by first | omega | (simp only [AN,AL]<;>omega) | (simp only [Array.size_setIfInBounds];omega) | simp)) ?_;intro _ w' a J O;change AW _ _ [_,some (bo,(cso).setIfInBounds (0+(gk)*1) (.slice (some ⟨br,0,none⟩) n n)),_,_] _ at J;refine nt<|sq ?_;have hH:((cso).setIfInBounds (0+(gk)*1) (.slice (some ⟨br,0,none⟩) n n))[0+gk*1]? = some (.slice (some ⟨br,0,none⟩) n n):=Array.getElem?_setIfInBounds_self_of_lt (by omega);refine wp_region_lit<|mv O rfl rfl fun a O=>mv O rfl rfl fun a O=>st O (AS (i:=gk) BQ O rfl rfl rfl (by omega)) rfl fun a O=>st O (AK BR O rfl (J.row 1 rfl) hH) rfl fun a O=>st O (Ba Cq O rfl) rfl fun a O=>mv O rfl rfl fun a O=>nt<|wp_block ?_;change AW _ _ [_,_,_,_] _ at J;refine Ai (fun (kk:Nat) a w'=>kk<=n/\(True)/\Fr 46 a [(2,ptr b1 (0)),(4,.slice none 0 0),(5,.slice (some ⟨bo,0,none⟩) n n),(12,.slice (some ⟨bv,0,none⟩) n cv),(13,.int .i64 (n:Int)),(14,.int .i64 (gk:Int)),(15,.bool (decide (((gk:Int):Int)<(n:Int)))),(16,.int .i64 (gk:Int)),(17,ptr bv (0+(gk)*6)),(18,.agg (AE (V (gk)))),(7,ptr b4 (0)),(6,.int .i64 (gk:Int)),(19,.slice (some ⟨bo,0,none⟩) n n),(20,.int .i64 (gk:Int)),(21,ptr b1 (0+1)),(22,.int .i64 (n:Int)),(23,.slice (some ⟨br,0,none⟩) n n),(24,ptr bo (0+(gk)*1)),(25,.slice (some ⟨bo,0,none⟩) n n),(26,.int .i64 (gk:Int)),(27,ptr bo (0+(gk)*1)),(28,.slice (some ⟨br,0,none⟩) n n),(29,.int .i64 (n:Int)),(30,.int .i64 (kk:Int))]/\AW w w' [some (b1,AD (p:Int) (n:Int) T f),some (bo,(cso).setIfInBounds (0+(gk)*1) (.slice (some ⟨br,0,none⟩) n n)),some (b4,AE (V (gk))),some (br,B2 n (fun c=>if c<kk then V gk c else 0))] D1) (fun kk=>n - kk) 0 ?_ ?_
    . refine ⟨by omega,trivial,O.sub _ (by repeat' constructor),?_⟩
      refine J.rowc 3 rfl (Bw fun c hc=>by rw [if_neg (by omega)])
    clear O J;rintro gj a w' ⟨hgj,hinv2,O,J⟩;have hVj:=hV gk gj;refine sr<|st O (Am O rfl rfl) rfl fun a O=>nt<|sq<|AO O rfl (fun h6=>?_) (fun h6=>?_)
    . refine wp_skip ?_
      refine tN<|sq<|wp_block<|sr<|mv O rfl rfl fun a O=>ag O rfl rfl fun a O=>nt<|BD 9 [] [.val (.slice (some ⟨bo,0,none⟩) n n),.val (.int .i64 (gk:Int)),.val (ptr bo (0+(gk)*1)),.val (.slice (some ⟨br,0,none⟩) n n),.val (.int .i64 (gj:Int)),.val (.int .i64 (gj:Int)),.val (ptr b4 (0+(gj)*1)),.val (.int .u8 ((((V (gk)) (gj):Nat):Int))),.val (.int .i64 ((((V (gk)) (gj):Nat):Int)))] BS rfl O rfl J ⟨fun a w gG O hS hd=>by exact A7 hS rfl O rfl,fun a w gG O hS hd=>by exact A7 hS rfl O rfl,fun a w gG O hS hd=>by have O:=O.ext1 33 (hd 0 rfl rfl);have O:=O.ext1 34 (hd 1 rfl rfl);exact AA hS rfl (AS (i:=gk) BQ O rfl rfl rfl (by omega)),fun a w gG O hS hd=>by have O:=O.ext1 35 (hd 2 rfl rfl);have J:=hS.mem rfl;exact AA hS rfl (AK BR O rfl (J.row 1 rfl) hH),fun a w gG O hS hd=>by exact A7 hS rfl O rfl,fun a w gG O hS hd=>by exact A7 hS rfl O rfl,fun a w gG O hS hd=>by have O:=O.ext1 38 (hd 5 rfl rfl);exact AA hS rfl (AG Aq O rfl rfl rfl (by omega)),fun a w gG O hS hd=>by have O:=O.ext1 39 (hd 6 rfl rfl);have J:=hS.mem rfl;exact AA hS rfl (AK Ac O rfl (J.row 2 rfl) (BK (gj) (by omega) (by omega))),fun a w gG O hS hd=>by have O:=O.ext1 40 (hd 7 rfl rfl);exact AA hS rfl (Ax A1 A6 O rfl (wrap_i64 (by omega) (by omega))),trivial⟩ ?_;intro a w' L O hS hq;have O:=O.ext1 33 (hq 0 rfl rfl);have O:=O.ext1 34 (hq 1 rfl rfl);have O:=O.ext1 35 (hq 2 rfl rfl);have O:=O.ext1 36 (hq 3 rfl rfl);have O:=O.ext1 37 (hq 4 rfl rfl);have O:=O.ext1 38 (hq 5 rfl rfl);have O:=O.ext1 39 (hq 6 rfl rfl);have O:=O.ext1 40 (hq 7 rfl rfl);have O:=O.ext1 41 (hq 8 rfl rfl);have J:=hS.mem rfl;change wpList Try.prog _ _ [_,_] _ _;refine st O (AS (i:=gj) BV O rfl rfl rfl (by omega)) rfl fun a O=>BC O (An 3 J rfl AQ O rfl rfl rfl (by first | omega | (simp only [AN,AL]<;>omega) | (simp only [Array.size_setIfInBounds];omega) | simp)) ?_;intro _ w' a J O;change AW _ _ [_,_,_,some (br,(B2 n (fun c=>if c<gj then V gk c else 0)).setIfInBounds (0+(gj)*1) (.int .i64 ((((V (gk)) (gj):Nat):Int))))] _ at J;refine wpList_nil<|iN<|tN<|wp_region_lit<|st O (Ad O rfl rfl (AU (gj) (1) (by omega))) rfl fun a O=>mv O rfl rfl fun a O=>nt<|⟨gj+1,⟨by omega,trivial,O.sub _ (by repeat' constructor),?_⟩,by omega⟩;refine J.rowc 3 rfl (Hf (i:=gj) (by omega) (by omega) (fun c hc=>?_))
      by_cases e1:c=gj
      . simp [e1]
      . have e0:(c<gj+1)=(c<gj):=by apply propext;omega
        simp [e0,e1]
    obtain rfl:n=gj:=by omega
    refine wp_exit<|tX<|tX<|AZ<|iN<|tN<|wp_region_lit<|st O (Ad O rfl rfl (AU (gk) (1) (by omega))) rfl fun a O=>mv O rfl rfl fun a O=>wpList_nil<|tN ?_;have J:=J.rowc (cs':=B2 n (V gk)) 3 rfl (Bw (fun c hc=>if_pos hc));have hgb:=J.ge 3 rfl;have hnb:=fun i hi=>(J.froz _ _ (hC.mem i hi)).2 3 br _ rfl;have J:=J.freeze 3 rfl;have hC:=((hC.more (D':=(br,B2 n (V gk))::D1) (fun x hx=>List.mem_cons_of_mem _ hx)).snoc (List.mem_cons_self ..) hnb).congr (R':=fun i=>B2 n (V i)) (fun i hi=>by
      by_cases e:i=gk
      . rw [e];simp [upE]
      . simp [upE,e])
    have hO:∀ i,i<gk+1->((cso).setIfInBounds (0+(gk)*1) (.slice (some ⟨br,0,none⟩) n n))[0+i*1]? = some (.slice (some ⟨up β gk br i,0,none⟩) n n):=fun i hi=>by
      unfold up
      by_cases e:i=gk
      . rw [if_pos e,e];exact hH
      . rw [if_neg e,Array.getElem?_setIfInBounds_ne (by omega)];exact hO i (by omega)
    have hbg:∀ i,i<gk+1->w.heap.size<=up β gk br i:=fun i hi=>by
      unfold up;split
      . exact hgb
      . exact hbg i (by omega)
    have J:=J.drop 2;refine ⟨gk+1,⟨by omega,((br,B2 n (V gk))::D1),(up β gk br),((cso).setIfInBounds (0+(gk)*1) (.slice (some ⟨br,0,none⟩) n n)),⟨by rw [Array.size_setIfInBounds];exact hso,hO,hC,hbg,List.mem_cons_of_mem _ hvm⟩,O.sub _ (by repeat' constructor),?_⟩,by omega⟩;exact J
  obtain rfl:n=gk:=by omega
  refine wp_exit<|tX<|tX<|AZ<|tN<|sr<|mv O rfl rfl fun a O=>ag O rfl rfl fun a O=>nt<|wp_ret<|Av rfl O.defers (AR O rfl) ⟨_,rfl,J.below,?_⟩;exact TabI.of (q:=1) J hC rfl hO hbg
def cpI (p n:Nat) (T:Nat->Nat->Nat->Nat) (G:Nat->Nat->Nat) (v:Nat->Nat) (i:Nat):Nat->Nat:=timesV p n T (G i) v
def cpS (p n:Nat) (T:Nat->Nat->Nat->Nat) (G:Nat->Nat->Nat) (v:Nat->Nat) (k i l:Nat):Nat:=sumTo (fun k=>G k l*timesS p n T v (fun c=>if c=k then 1 else 0) i) k%p
theorem cpS_step {p n k i l:Nat}{T:Nat->Nat->Nat->Nat}{G:Nat->Nat->Nat}{v:Nat->Nat}:(cpS p n T G v k i l+G k l*timesS p n T v (fun c=>if c=k then 1 else 0) i)%p=cpS p n T G v (k+1) i l:=by
  unfold cpS;simp only [sumTo];rw [Nat.add_mod,Nat.mod_mod,← Nat.add_mod]
theorem M7 {p n k i l:Nat}{T:Nat->Nat->Nat->Nat}{G:Nat->Nat->Nat}{v:Nat->Nat}(hp:0<p):cpS p n T G v k i l<p:=Nat.mod_lt _ hp
theorem ME {p n a i:Nat}{T:Nat->Nat->Nat->Nat}{f:Nat->Nat}(hn:n<=6)(hJ:∀ i j k,n<=k->T i j k=0)(hi:i<n):(p:Int)∣(formM p n T f a i:Int) - sI (fun d=>(T a i d:Int)*(f d:Int)) n:=by
  unfold formM;rw [if_pos hi]
  have e:((sumTo (fun k=>T a i k*f k) 6:Nat):Int)=sI (fun d=>(T a i d:Int)*(f d:Int)) n:=by
    rw [Cc,Fc hn (fun c h _=>by simp [hJ a i c h])];exact Ah fun d _=>Int.natCast_mul _ _
  rw [← e,Int.natCast_emod];exact Cs _ _
theorem PL {p n i l:Nat}{T:Nat->Nat->Nat->Nat}{f v:Nat->Nat}{G:Nat->Nat->Nat}(hp:primeN p)(hn:n<=6)(hJ:∀ i j k,n<=k->T i j k=0)(ha:JR p n T)(hf:FullK p n (formM p n T f))(hG:IsCop p n (formM p n T f) G)(hi:i<n)(hl:l<n):cpI p n T G v i l=cpS p n T G v n i l:=by
  have hp2:=hp.two;have k1:∀ i,i<n->∀ j,j<n->(p:Int)∣sI (fun k=>(formM p n T f i k:Int)*(G k j:Int)) n - (dl i j:Int):=hG.sol;have k2:∀ i,i<n->∀ j,j<n->(p:Int)∣sI (fun k=>(G i k:Int)*(formM p n T f k j:Int)) n - (dl i j:Int):=hG.left hp2 hn (fun i c h=>DY h) hf;have k3:∀ a,a<n->∀ b,b<n->(p:Int)∣sI (fun i=>(formM p n T f a i:Int)*sI (fun c=>(v c:Int)*(T c b i:Int)) n) n - sI (fun l=>sI (fun c=>(v c:Int)*(T a c l:Int)) n*(formM p n T f l b:Int)) n:=fun a h1 b h2=>
    Mw (F:=fun a b=>(formM p n T f a b:Int)) (f:=f) ha (fun a _ i hi=>ME hn hJ hi) h1 h2
  have hs:(p:Int)∣sI (fun k=>sI (fun c=>(v c:Int)*(T c k i:Int)) n*(G k l:Int)) n - sI (fun a=>(G i a:Int)*sI (fun c=>(v c:Int)*(T a c l:Int)) n) n:=
    O5 (F:=fun a b=>(formM p n T f a b:Int)) (G:=fun a b=>(G a b:Int)) (L:=fun k i=>sI (fun c=>(v c:Int)*(T c k i:Int)) n) (R:=fun a l=>sI (fun c=>(v c:Int)*(T a c l:Int)) n) k1 k2 k3 hi hl
  refine DF (p:=p) (Nat.mod_lt _ (by omega)) (M7 (by omega)) ?_;have e1:(p:Int)∣(cpI p n T G v i l:Int) - sI (fun a=>(G i a:Int)*sI (fun c=>(v c:Int)*(T a c l:Int)) n) n:=by
    unfold cpI timesV
    have e:(prodI T (G i) v n n l:Int)=sI (fun a=>(G i a:Int)*sI (fun c=>(v c:Int)*(T a c l:Int)) n) n:=by
      rw [Et,GV]
    rw [← e,Int.natCast_emod];exact Cs _ _
  have e2:(p:Int)∣(cpS p n T G v n i l:Int) - sI (fun k=>sI (fun c=>(v c:Int)*(T c k i:Int)) n*(G k l:Int)) n:=by
    unfold cpS
    have e3:(p:Int)∣(sumTo (fun k=>G k l*timesS p n T v (fun c=>if c=k then 1 else 0) i) n:Int) - sI (fun k=>sI (fun c=>(v c:Int)*(T c k i:Int)) n*(G k l:Int)) n:=by
      rw [Cc,Ah (g:=fun k=>(timesS p n T v (fun c=>if c=k then 1 else 0) i:Int)*(G k l:Int)) (fun k _=>by rw [Int.natCast_mul,Int.mul_comm])];refine HR fun k hk=>?_
      unfold timesS;rw [if_pos hi];unfold timesV
      have e:(prodI T v (fun c=>if c=k then 1 else 0) n n i:Int)=sI (fun c=>(v c:Int)*(T c k i:Int)) n:=by
        rw [Et];unfold Pr;exact Ah fun c _=>by
          rw [Cg hk (fun b _ hne=>by simp [ci,hne])];simp [ci]
      rw [← e,Int.natCast_emod];exact Cs _ _
    refine C9 ?_ e3;rw [Int.natCast_emod];exact Cs _ _
  exact C9 e1 (C9 (EP hs) (EP e2))
def J7 (Z n:Nat) (W G:Nat->Nat->Nat) (xs:Nat->Value) (g:Nat):Array Value:=Ak Z (fun c=>if c<n*6 then .int .u8 (((if c / 6<g then W (c / 6) (c%6) else G (c / 6) (c%6):Nat)):Int) else xs c)
theorem CJ {Z n g:Nat}{W G:Nat->Nat->Nat}{xs:Nat->Value}:(J7 Z n W G xs g).size=Z:=BN _ _
theorem Nw {Z n g i:Nat}{W G:Nat->Nat->Nat}{xs:Nat->Value}(hZ:n*6<=Z)(hg:g<=i)(hi:i<n):(J7 Z n W G xs g).extract (0+i*6) (0+i*6+6)=AE (G i):=
  CD rfl (by rw [CJ];omega) fun q hq=>by
    unfold J7;rw [Br (by omega),if_pos (by omega),if_neg (by omega),show (0+i*6+q) / 6=i by omega,show (0+i*6+q)%6=q by omega]
theorem Nv {Z n g o:Nat}{W G:Nat->Nat->Nat}{xs:Nat->Value}(hZ:n*6<=Z)(hg:g<n)(ho:o=g*6):splice (J7 Z n W G xs g) o (AE (W g))=J7 Z n W G xs (g+1):=by
  subst ho;have hs:(J7 Z n W G xs g).size=Z:=CJ;have hv:(AE (W g)).size=6:=DA
  unfold J7
  refine FF (by rw [EC _ _ _ (by rw [BN,hv];omega),BN]) fun i hi=>?_;rw [CT _ _ _ _ (by rw [BN,hv];omega),hv]
  by_cases e:g*6<=i/\i<g*6+6
  . rw [if_pos e,if_pos (by omega),if_pos (by omega),BK (i - g*6) rfl (by omega),show i / 6=g by omega,show i%6=i - g*6 by omega]
  . rw [if_neg e,Br hi]
    by_cases e2:i<n*6
    . rw [if_pos e2,if_pos e2]
      by_cases e3:i / 6<g
      . rw [if_pos e3,if_pos (by omega)]
      . rw [if_neg e3,if_neg (by omega)]
    . rw [if_neg e2,if_neg e2]
theorem MG {n b cap:Nat}{u:Value}{e:Option (Nat×Array Value)}{cs:Array Value}{W G:Nat->Nat->Nat}(h:SlAt 6 u e n b cap cs (fun c=>.int .u8 (G (c / 6) (c%6):Int))):cs=J7 (cap*6) n W G (fun c=>cs[c]?.getD undef) 0:=by
  unfold J7
  refine FF h.sz fun i hi=>?_
  by_cases e:i<n*6
  . rw [if_pos e,if_neg (by omega)];exact h.get i e
  . have:i<cs.size:=by rw [h.sz];exact hi
    rw [if_neg e];simp [this]
theorem Nx {n b cap:Nat}{W G:Nat->Nat->Nat}{xs:Nat->Value}(hle:n<=cap)(hmax:cap<=maxLen):SlAt 6 (.slice (some ⟨b,0,none⟩) n cap) (some (b,J7 (cap*6) n W G xs n)) n b cap (J7 (cap*6) n W G xs n) (fun c=>.int .u8 (W (c / 6) (c%6):Int)):=
  ⟨rfl,rfl,hle,hmax,CJ,fun i hi=>by unfold J7;rw [Br (by omega),if_pos hi,if_pos (by omega)]⟩
end Go.Proofs.Ytkcneleabbjkaaa
