import Derived.Test.YtccdgjmomcljkaaDoorSw67
import Derived.Test.YtccdgjmomcljkaaDoorSw14
import Derived.Test.YtccdgjmomcljkaaDoorEch5
import Derived.Test.YtccdgjmomcljkaaDoorEch6
import Derived.Test.YtccdgjmomcljkaaDoorSw47
import Derived.JoinedOf
import Derived.KernelRfl
set_option linter.unusedVariables false
set_option linter.unusedSimpArgs false
namespace Go.Sw
open Go Go.RowKit
def factsD (l:List Fact) (s:Nat):Facts (Own×Value×Froz):=fun i g u w=>match Nat.beq i s with
  | true=>u=g.2.1
  | false=>factsOf l i g.1 u w
def ParD (X:List Nat) (w0:World) (D:Froz) (W:List Nat) (L0:Own) (Q:Froz→Value→Prop) (b:Bool) (g:Own×Value×Froz) (w:World):Prop:=
  Par X w0 (g.2.2++D) W L0 g.1 w∧(b=false→g.2.2=[])∧(b=true→Q g.2.2 g.2.1)
section
variable {P : Program} {X : List Nat} {w0 w : World} {D : Froz} {W : List Nat} {L0 : Own} {Q : Froz → Value → Prop} {s i : Nat} {b : Bool} {g : Own × Value × Froz} {l : List Fact} {o : Oper} {a : Act}
theorem factsD_ne (h:Nat.beq i s=false)(u:Value):factsD l s i g u w=factsOf l i g.1 u w:=by unfold factsD;rw [h]
theorem ParD.drew (h:ParD X w0 D W L0 Q b g w):ParD X w0 D W L0 Q b g w.drew:=⟨⟨h.1.1.ext (Below.drew (Below.refl _ _)),h.1.2⟩,h.2⟩
theorem ParD.mem (h:ParD X w0 D W L0 Q b g w)(hW:holes W L0=true):MemX X w0 w L0 D:=(Par.mem h.1 hW).sub D (fun _ hx=>List.mem_append_right _ hx)
theorem pd_val {v:Value}(hS:ParD X w0 D W L0 Q b g w)(hs:Nat.beq i s=false)(hi:l[i]? = some (.val v))(hg:Gives P o a w v):Does P o a w (AfterG (ParD X w0 D W L0 Q) (factsD l s) b i g w):=
  hg.mono fun u w' ⟨h1,h2⟩=>by subst h2;exact ⟨g,hS,by rw [factsD_ne hs];exact fact_get hi h1,fun j u _ h=>h⟩
theorem pd_new (hl:Lasts l)(hS:ParD X w0 D W L0 Q false g w)
    (hg:Does P o a w (fun u w'=>Ext w w'∧∃ D',(∀ x ds,(x,ds)∈D'→w.heap.size≤x∧Blk w' x ds)∧Q D' u)):Does P o a w (AfterG (ParD X w0 D W L0 Q) (factsD l s) true s g w):=
  hg.mono fun u w' ⟨hx,D',hD,hq⟩=>by
    have hM:=hS.1.1
    rw [hS.2.1 rfl] at hM
    refine ⟨(g.1,u,D'),⟨⟨hM.addD hx hD,hS.1.2⟩,fun hb=>(by cases hb),fun _=>hq⟩,by unfold factsD;rw [show Nat.beq s s=true by simp],fun j u hj h=>?_⟩
    unfold factsD at *
    cases ej:Nat.beq j s with
    | true=>exact absurd (Nat.eq_of_beq_eq_true ej) hj
    | false=>rw [ej] at h;exact facts_ext hl hx j u h
end
end Go.Sw
namespace Go.Sw
open Go Go.RowKit Go.ChangeShapes Go.WideShapes Go.ChangeAt
def ArgVs (w:World) (sl:Value) (m:Nat) (V:Nat→Nat→Nat):Prop:=
  (∃ x c,sl = .slice x m c)∧(0<m→∃ b o c,sl = .slice (some ⟨b,o,none⟩) m c∧∀ i,i<m→∀ j,j<6→w.cell? ⟨b,o+i*6+j,none⟩=some (.int .u8 (V i j:Int)))
theorem ArgVs.ext {w w':World}{sl:Value}{m:Nat}{V:Nat→Nat→Nat}(h:ArgVs w sl m V)(hx:Ext w w'):ArgVs w' sl m V:=
  ⟨h.1,fun hm=>by obtain ⟨b,o,c,h1,h3⟩:=h.2 hm;exact ⟨b,o,c,h1,fun i hi j hj=>cell_ext (h3 i hi j hj) hx⟩⟩
theorem ArgVs.one {w:World}{sl:Value}{m:Nat}{V:Nat→Nat→Nat}(h:ArgVs w sl m V):sl.oneCell'=true:=by
  obtain ⟨⟨x,c,rfl⟩,_⟩:=h;rfl
section
variable {P : Program} {n : Nat} {F : List (Nat × Value)} {a : Act} {w : World} {d : Option Tmp} {t : TypeId} {pos : String} {af : Array Edge} {gd : Option (Nat × Bool)} {x : Operand}
end
section
variable {H : Type} {enc : TypeId × Value → H} {P : Program} {w w' : World} {base : Nat} {spare : Nat → Bool} {held : Bool}
theorem cells?_get {a:Addr}{n:Nat}{cs:List Value}(h:w.cells? base a n=some cs):cs.length=n∧∀ i,i<n→w.cell? (a.add i)=cs[i]?:=by
  unfold World.cells? at h
  split at h
  · have hl:=mapM_some_length h
    rw [List.length_range] at hl;refine ⟨hl.symm ▸ rfl,fun i hi=>?_⟩;have:=mapM_some_get h i i (by rw [List.getElem?_range hi]);exact this
  · cases h
end
section
variable {H : Type} {enc : TypeId × Value → H} {P : Program} {w : World} {base : Nat} {spare : Nat → Bool} {held : Bool}
end
section
variable {P : Program} {X : List Nat} {w0 w : World} {L : Own} {D : Froz} {n : Nat} {F : List (Nat × Value)} {a : Act} {d : Option Tmp} {T : TypeId} {t : TypeId} {pos : String} {af : Array Edge} {gd : Option (Nat × Bool)} {x y : Operand}
end
end Go.Sw
namespace Go.Ech
open Go.Sw
section
variable {p n : Nat} {T : Nat → Nat → Nat → Nat} {u : Nat → Int}
variable (ha : AssI p n T) (hk : ComI n T) (hu : ∀ y, EqP p n (Pr n T y u) y)
include ha hu in
theorem vP_add (x:Nat→Int)(a:Nat):∀ b,EqP p n (Pr n T (vP n T u x a) (vP n T u x b)) (vP n T u x (a+b))
  | 0=>hu _
  | b+1=>EqP.trans (EqP.symm fun c hc=>Pr_assoc ha (vP n T u x a) (vP n T u x b) x hc) (EqP.mul (vP_add x a b) (EqP.refl x))
include ha hu in
theorem vP_vP (x:Nat→Int)(a:Nat):∀ b,EqP p n (vP n T u (vP n T u x a) b) (vP n T u x (a*b))
  | 0=>EqP.refl _
  | b+1=>(EqP.mul (vP_vP x a b) (EqP.refl _)).trans (vP_add ha hu x (a*b) a)
def LinK (p n:Nat) (T:Nat→Nat→Nat→Nat) (u:Nat→Int) (K:Nat):Prop:=(∀ x y,EqP p n (vP n T u (fun c=>x c+y c) K) (fun c=>vP n T u x K c+vP n T u y K c))∧∀ (a:Nat),a<p→∀ x,EqP p n (vP n T u (fun c=>(a:Int)*x c) K) (fun c=>(a:Int)*vP n T u x K c)
include ha hk hu in
theorem lin_p (hp:primeN p):LinK p n T u p:=by
  refine ⟨vP_frob ha hk hu hp,fun a hap x c hc=>?_⟩;have hm:p∈([2,3,5,7,11,13]:List Nat):=by unfold primeN at hp;simp;omega
  rw [vP_smul];have h1:(p:Int)∣((a:Int) ^ p - (a:Int))*vP n T u x p c:=by
    refine Int.dvd_mul_of_dvd_left ?_;have h2:=fermat p hm a hap;have h3:=emod_dvd (p:Int) ((a ^ p:Nat):Int);rw [← Int.natCast_emod,h2] at h3;have:=Int.dvd_neg.2 h3
    rwa [Int.neg_sub,Int.natCast_pow] at this
  rwa [Int.sub_mul] at h1
include ha hk hu in
theorem lin_mul (hp:primeN p){K:Nat}(h:LinK p n T u K):LinK p n T u (K*p):=by
  have h0:=lin_p ha hk hu hp;refine ⟨fun x y=>?_,fun a hap x=>?_⟩
  · refine (vP_vP ha hu _ K p).symm.trans (EqP.trans (vP_congr (h.1 x y) p) (EqP.trans (h0.1 _ _) ?_))
    exact EqP.add (vP_vP ha hu x K p) (vP_vP ha hu y K p)
  · refine (vP_vP ha hu _ K p).symm.trans (EqP.trans (vP_congr (h.2 a hap x) p) (EqP.trans (h0.2 a hap _) ?_))
    exact EqP.smul (a:Int) (vP_vP ha hu x K p)
theorem lin_cut {K:Nat}(hK:0<K)(h:LinK p n T u K)(v:Nat→Nat)(hv:∀ c,c<n→v c<p):∀ m,m≤n→EqP p n (vP n T u (cutV v m) K) (fun c=>sI (fun i=>(v i:Int)*vP n T u (eb i) K c) m)
  | 0, _ => fun c hc => by
    obtain ⟨q,rfl⟩:∃ q,K=q+1:=⟨K - 1,by omega⟩
    have e:cutV v 0=fun _=>0:=funext fun d=>by unfold cutV;rw [if_neg (by omega)]
    rw [e,vP_zero];exact ⟨0,by simp [sI]⟩
  | m + 1, hm => by
    have e:cutV v (m+1)=fun c=>cutV v m c+(fun c=>(v m:Int)*eb m c) c:=funext fun d=>by
      show (if d<m+1 then (v d:Int) else 0)=(if d<m then (v d:Int) else 0)+(v m:Int)*(if d=m then 1 else 0)
      by_cases h1:d=m
      · subst h1;rw [if_pos (by omega),if_neg (by omega),if_pos rfl];omega
      · rw [if_neg h1]
        by_cases h2:d<m
        · rw [if_pos (by omega),if_pos h2];omega
        · rw [if_neg (by omega),if_neg h2];omega
    rw [e]
    exact EqP.trans (h.1 _ _) (EqP.add (lin_cut hK h v hv m (by omega)) (h.2 (v m) (hv m (by omega)) (eb m)))
theorem nil_ker {K:Nat}(hK:0<K)(h:LinK p n T u K){M:Nat→Nat→Nat}(hM:∀ r,r<n→∀ c,c<n→(p:Int)∣(M r c:Int) - vP n T u (eb c) K r)(v:Nat→Nat)(hv:∀ c,c<n→v c<p)(hx:Ker p n M n (ci v)):EqP p n (vP n T u (ci v) K) (fun _=>0):=fun r hr=>by
  have h1:(p:Int)∣vP n T u (ci v) K r - sI (fun i=>(v i:Int)*vP n T u (eb i) K r) n:=EqP.trans (vP_congr (fun c hc=>by unfold cutV ci;rw [if_pos hc,Int.sub_self];exact ⟨0,by simp⟩) K) (lin_cut hK h v hv n (Nat.le_refl _)) r hr
  have h2:(p:Int)∣sI (fun i=>(v i:Int)*(M r i:Int)) n - sI (fun i=>(v i:Int)*vP n T u (eb i) K r) n:=sI_mod fun i hi=>hM r hr i hi
  have h3:=hx r hr
  have e:dot n (ci (M r)) (ci v)=sI (fun i=>(v i:Int)*(M r i:Int)) n:=sI_congr fun c _=>Int.mul_comm _ _
  rw [e] at h3
  have:=Int.dvd_add (Int.dvd_sub h1 h2) h3
  rwa [show ∀ A B C:Int,A - B - (C - B)+C=A - 0 from fun A B C=>by omega] at this
def wdL (n:Nat) (T:Nat→Nat→Nat→Nat) (u:Nat→Int) (z:Nat→Nat→Int):List Nat→Nat→Int
  | []=>u
  | j::w=>Pr n T (wdL n T u z w) (z j)
def cntL (a:Nat):List Nat→Nat
  | []=>0
  | j::w=>if j=a then cntL a w+1 else cntL a w
def fltL (a:Nat):List Nat→List Nat
  | []=>[]
  | j::w=>if j=a then fltL a w else j::fltL a w
theorem flt_len (a:Nat):∀ w,(fltL a w).length+cntL a w=w.length
  | []=>rfl
  | j :: w => by
    have:=flt_len a w
    unfold fltL cntL
    split<;>simp only [List.length_cons]<;>omega
theorem flt_mem {a:Nat}:∀ {w:List Nat} {j:Nat},j∈fltL a w→j∈w∧j≠a
  | [],j,h=>by simp [fltL] at h
  | i :: w, j, h => by
    unfold fltL at h
    by_cases e:i=a
    · rw [if_pos e] at h
      have:=flt_mem h
      exact ⟨List.mem_cons_of_mem _ this.1,this.2⟩
    · rw [if_neg e] at h
      rcases List.mem_cons.1 h with h | h
      · subst h;exact ⟨List.mem_cons_self ..,e⟩
      · have:=flt_mem h
        exact ⟨List.mem_cons_of_mem _ this.1,this.2⟩
variable {z : Nat → Nat → Int}
include ha hk hu in
theorem wd_sort (a:Nat):∀ w,EqP p n (wdL n T u z w) (Pr n T (wdL n T u z (fltL a w)) (vP n T u (z a) (cntL a w)))
  | []=>(hu u).symm
  | j :: w => by
    have h1:EqP p n (wdL n T u z (j::w)) (Pr n T (Pr n T (wdL n T u z (fltL a w)) (vP n T u (z a) (cntL a w))) (z j)):=EqP.mul (wd_sort a w) (EqP.refl _)
    unfold fltL cntL
    by_cases e:j=a
    · rw [if_pos e,if_pos e]
      subst e
      exact h1.trans fun c hc=>Pr_assoc ha (wdL n T u z (fltL j w)) (vP n T u (z j) (cntL j w)) (z j) hc
    · rw [if_neg e,if_neg e]
      exact h1.trans (Pr_right_comm ha hk _ _ _)
theorem zero_l {y w:Nat→Int}(hy:EqP p n y (fun _=>0)):EqP p n (Pr n T y w) (fun _=>0):=(EqP.mul hy (EqP.refl w)).trans fun c hc=>by rw [Pr_zero];exact ⟨0,by simp⟩
theorem zero_r {y w:Nat→Int}(hy:EqP p n y (fun _=>0)):EqP p n (Pr n T w y) (fun _=>0):=(EqP.mul (EqP.refl w) hy).trans fun c hc=>by rw [Pr_zeroR];exact ⟨0,by simp⟩
include ha hu in
theorem vP_nil {x:Nat→Int}{L k:Nat}(h:EqP p n (vP n T u x L) (fun _=>0))(hk:L≤k):EqP p n (vP n T u x k) (fun _=>0):=by
  have:=vP_add ha hu x L (k - L);rw [show L+(k - L)=k by omega] at this;exact this.symm.trans (zero_l h)
include ha hk hu in
theorem wd_nil {L:Nat}:∀ d,(∀ j,j<d→EqP p n (vP n T u (z j) L) (fun _=>0))→∀ w:List Nat,(∀ j,j∈w→j<d)→d*L<w.length→EqP p n (wdL n T u z w) (fun _=>0)
  | 0, _, w, hw, hl => by
    match w,hw,hl with
    | j::w,hw,_=>exact absurd (hw j (List.mem_cons_self ..)) (by omega)
  | d + 1, hz, w, hw, hl => by
    refine (wd_sort ha hk hu d w).trans ?_
    by_cases h:L≤cntL d w
    · exact zero_r (vP_nil ha hu (hz d (by omega)) h)
    · refine zero_l (wd_nil d (fun j hj=>hz j (by omega)) (fltL d w) (fun j hj=>?_) ?_)
      · have h1:=flt_mem hj
        have h2:=hw j h1.1
        omega
      · have:=flt_len d w
        rw [Nat.succ_mul] at hl
        omega
def adjV (n:Nat) (T:Nat→Nat→Nat→Nat) (z x:Nat→Int) (c:Nat):Int:=dot n (fun d=>sI (fun b=>z b*(T c b d:Int)) n) x
theorem dot_adj (v z x:Nat→Int):dot n (Pr n T v z) x=dot n v (adjV n T z x):=by
  unfold dot adjV dot
  have e:∀ d,Pr n T v z d*x d=sI (fun a=>v a*(sI (fun b=>z b*(T a b d:Int)) n*x d)) n:=fun d=>by
    rw [Pr_left,sI_mulr];exact sI_congr fun a _=>Int.mul_assoc _ _ _
  rw [sI_congr fun d _=>e d,sI_swap];exact sI_congr fun a _=>sI_mul (v a) _ n
def adjW (n:Nat) (T:Nat→Nat→Nat→Nat) (z:Nat→Nat→Int):List Nat→(Nat→Int)→Nat→Int
  | [],x=>x
  | j::w,x=>adjW n T z w (adjV n T (z j) x)
def mulW (n:Nat) (T:Nat→Nat→Nat→Nat) (z:Nat→Nat→Int):List Nat→(Nat→Int)→Nat→Int
  | [],v=>v
  | j::w,v=>Pr n T (mulW n T z w v) (z j)
theorem dot_adjW (v:Nat→Int):∀ w x,dot n v (adjW n T z w x)=dot n (mulW n T z w v) x
  | [],x=>rfl
  | j :: w, x => by
    show dot n v (adjW n T z w (adjV n T (z j) x))=dot n (Pr n T (mulW n T z w v) (z j)) x
    rw [dot_adjW v w,dot_adj]
include ha hu in
theorem mulW_wd (v:Nat→Int):∀ w,EqP p n (mulW n T z w v) (Pr n T v (wdL n T u z w))
  | []=>(hu v).symm
  | j::w=>(EqP.mul (mulW_wd v w) (EqP.refl (z j))).trans fun c hc=>Pr_assoc ha v (wdL n T u z w) (z j) hc
theorem dot_eq0 {v x:Nat→Int}(h:EqP p n v (fun _=>0)):(p:Int)∣dot n v x:=sI_dvd fun c hc=>by
  have:=h c hc
  rw [Int.sub_zero] at this
  exact Int.dvd_mul_of_dvd_left this
structure PowS (p n:Nat) (T:Nat→Nat→Nat→Nat) (R:Nat→Nat) (U Z:Nat→Nat→Nat→Nat) (PM:Nat→Nat→Nat→Nat):Prop where
  agree:∀ k i,i<R k→∀ c,c<n→U k i c=Z k i c
  prod:∀ k q,∀ c,c<n→(p:Int)∣(PM k q c:Int) - Pr n T (ci (U k (q / R 0))) (ci (U 0 (q%R 0))) c
  red:∀ k,RedOf p n (PM k) (R k*R 0) (R (k+1)) (Z (k+1))
theorem PowS.ker {R:Nat→Nat}{U Z PM:Nat→Nat→Nat→Nat}(h:PowS p n T R U Z PM):∀ k x,(∀ w:List Nat,(∀ j,j∈w→j<R 0)→w.length=k→Ker p n (Z 0) (R 0) (adjW n T (fun j=>ci (U 0 j)) w x))→Ker p n (Z k) (R k) x
  | 0,x,hw=>hw [] (fun j hj=>by simp at hj) rfl
  | k + 1, x, hw => by
    obtain ⟨ld,_,h2⟩:=h.red k
    refine (h2 x).2 fun q hq=>?_
    have hR0:0<R 0:=Nat.pos_of_ne_zero fun e=>by rw [e,Nat.mul_zero] at hq;omega
    have hi:q / R 0<R k:=Nat.div_lt_of_lt_mul (by rw [Nat.mul_comm];exact hq)
    have hj:q%R 0<R 0:=Nat.mod_lt _ hR0
    have h3:=PowS.ker h k (adjV n T (ci (U 0 (q%R 0))) x) (fun w hwl hwn=>hw (q%R 0::w) (fun j hj2=>by
      rcases List.mem_cons.1 hj2 with e | hj2
      · rw [e];exact hj
      · exact hwl j hj2) (by simp [hwn])) (q / R 0) hi
    have e1:dot n (ci (Z k (q / R 0))) (adjV n T (ci (U 0 (q%R 0))) x)=dot n (ci (U k (q / R 0))) (adjV n T (ci (U 0 (q%R 0))) x):=dot_same fun c hc=>(h.agree k _ hi c hc).symm
    rw [e1,← dot_adj] at h3
    exact (dvd_iff_sub (dot_congr fun c hc=>h.prod k q c hc)).2 h3
include ha hk hu in
theorem PowS.stop {R:Nat→Nat}{U Z PM:Nat→Nat→Nat→Nat}(hp2:2≤p)(h:PowS p n T R U Z PM){L:Nat}(hz:∀ j,j<R 0→EqP p n (vP n T u (ci (U 0 j)) L) (fun _=>0)):R (R 0*L+1)=0:=by
  have hK:∀ x,Ker p n (Z (R 0*L+1)) (R (R 0*L+1)) x:=fun x=>h.ker _ x fun w hw hl i hi=>by
    rw [dot_adjW];exact dot_eq0 ((mulW_wd ha hu _ w).trans (zero_r (wd_nil ha hk hu (R 0) hz w hw (by omega))))
  obtain ⟨ld,h1,_⟩:=h.red (R 0*L);refine Decidable.byContradiction fun hne=>?_;have hl:=h1.lt 0 (by omega);have h2:=hK (fun c=>if c=ld 0 then 1 else 0) 0 (by omega);have e:dot n (ci (Z (R 0*L+1) 0)) (fun c=>if c=ld 0 then 1 else 0)=1:=by
    unfold dot
    rw [sI_one hl fun i _ hi=>by dsimp only;rw [if_neg hi,Int.mul_zero]]
    dsimp only
    rw [if_pos rfl,Int.mul_one]
    unfold ci
    rw [h1.one 0 (by omega)];rfl
  rw [e] at h2;have:=Int.le_of_dvd (by omega) h2
  omega
end
theorem first_zero {R:Nat→Nat}:∀ {B:Nat},R B=0→∃ t,t≤B∧R t=0∧∀ k,k<t→0<R k
  | 0,h=>⟨0,Nat.le_refl _,h,fun k hk=>absurd hk (by omega)⟩
  | B + 1, h => by
    by_cases e:∃ k,k≤B∧R k=0
    · obtain ⟨k,hk,hz⟩:=e
      obtain ⟨t,h1,h2,h3⟩:=first_zero hz
      exact ⟨t,by omega,h2,h3⟩
    · exact ⟨B+1,Nat.le_refl _,h,fun k hk=>Nat.pos_of_ne_zero fun z=>e ⟨k,by omega,z⟩⟩
end Go.Ech
namespace Go.Sw
open Go Go.RowKit
def mri (Z k t:Nat) (xs:Nat→Value):Array Value:=fnC Z (fun c=>if c<t then .int .i64 (((k+c:Nat)):Int) else xs c)
section
variable {Z k t : Nat} {xs : Nat → Value}
theorem mri_size:(mri Z k t xs).size=Z:=fnC_size _ _
theorem mri_get {o c:Nat}(h:o=c)(hc:c<t)(ht:t≤Z):(mri Z k t xs)[o]? = some (.int .i64 (((k+c:Nat)):Int)):=by
  subst h;unfold mri;rw [fnC_get (by omega),if_pos hc]
theorem mri_set {o:Nat}(h:o=t)(ht:t<Z):(mri Z k t xs).setIfInBounds o (.int .i64 (((k+t:Nat)):Int))=mri Z k (t+1) xs:=by
  subst h;unfold mri;refine fnC_set fun c hc=>?_
  by_cases e:c=o
  · subst e;rw [if_pos rfl,if_pos (by omega)]
  · rw [if_neg e]
    by_cases h:c<o
    · rw [if_pos h,if_pos (by omega)]
    · rw [if_neg h,if_neg (by omega)]
theorem mri_self (cs:Array Value):cs=mri cs.size k 0 (fun c=>cs[c]?.getD undef):=by
  unfold mri
  refine fnC_ext rfl fun c hc=>?_;rw [if_neg (by omega)]
  simp [hc]
end
end Go.Sw
namespace Go.Sw
theorem wordsSigns_nb:∀ (c:Char) (r:List Char),c≠' '→wordsSigns (c::r)=match wordsSigns r with
    | w::ws=>(c::w)::ws
    | []=>[[c]]:=by
  intro c r h;rw [wordsSigns.eq_def]
  split
  · simp_all
  · rename_i heq;simp at heq;exact absurd heq.1 h
  · rename_i heq;simp only [List.cons.injEq] at heq;obtain ⟨rfl,rfl⟩:=heq;rfl
theorem wordsSigns_word:∀ (w r:List Char),(∀ c∈w,c≠' ')→wordsSigns (w++' '::r)=w::wordsSigns r
  | [],r,_=>by simp [wordsSigns]
  | c :: w, r, h => by
    rw [List.cons_append,wordsSigns_nb c _ (h c (by simp)),wordsSigns_word w r (fun d hd=>h d (by simp [hd]))]
theorem sum_nb (s:List Char)(h:isSumSigns s=true):∀ c∈s,c≠' ':=by
  intro c hc he
  unfold isSumSigns at h
  simp only [Bool.and_eq_true,List.all_eq_true] at h;have:=h.2 c hc;subst he
  revert this;decide
theorem cutHead (L s r : List Char) (h : L = "harness".toList ++ ' ' :: (s ++ ' ' :: ("cut".toList ++ ' ' :: r))) (hs : isSumSigns s = true) :
    behindMainWord (wordsSigns L) = "cut".toList :: wordsSigns r := by
  rw [h, wordsSigns_word _ _ (by decide), wordsSigns_word _ _ (sum_nb s hs), wordsSigns_word _ _ (by decide)];have : ("harness".toList == "harness".toList || "harness".toList == "ownmain".toList) = true := by decide
  unfold behindMainWord
  show (if (("harness".toList == "harness".toList || "harness".toList == "ownmain".toList) && isSumSigns s) = true then _ else _) = _
  rw [if_pos (by rw [this,hs];rfl)]
theorem strip_cut (R : List (List Char)) : stripLifts liftWords ("cut".toList :: R) = ([], "cut".toList :: R) := by
  kernel_rfl
theorem lifts_cut (P : Program) (R : List (List Char)) (h : behindMainWord (wordsSigns P.initOrder.toList) = "cut".toList :: R) : P.headLifts = [] := by
  unfold Program.headLifts;rw [h,strip_cut];rfl
theorem make_cut (P : Program) (R : List (List Char)) (h : behindMainWord (wordsSigns P.initOrder.toList) = "cut".toList :: R) : P.make = some .cut := by
  unfold Program.make;rw [h]
  have h1 : ("cut".toList == "gc".toList || "cut".toList == "spec".toList) = false := by decide
  have h2 : ("cut".toList == "cut".toList) = true := by decide
  simp only [h1,h2];rfl
theorem final_cut (P : Program) (R : List (List Char)) (h : behindMainWord (wordsSigns P.initOrder.toList) = "cut".toList :: R) : P.liftsFinal = false := by
  unfold Program.liftsFinal;rw [lifts_cut P R h,h];kernel_rfl
theorem enter_cut (P : Program) (R : List (List Char)) (h : behindMainWord (wordsSigns P.initOrder.toList) = "cut".toList :: R)
    (hl:P.laysLater=false) (hb:P.bearsReflect=false) (hd:P.doorFits []=true):P.mayEnter=true:=by
  unfold Program.mayEnter;rw [h]
  simp only [strip_cut,hl,hb,hd]
  kernel_rfl
end Go.Sw
