import Derived.Test.YtccdgjmomcljkaaDoorSw67
import Derived.Test.YtccdgjmomcljkaaDoorSw14
import Derived.Test.YtccdgjmomcljkaaDoorEch5
import Derived.Test.YtccdgjmomcljkaaDoorEch6
import Derived.Test.YtccdgjmomcljkaaDoorEch3
set_option linter.unusedVariables false
set_option linter.unusedSimpArgs false
namespace Go.Sw
open Go Go.RowKit
def factsD (l:List Fact) (s:Nat):Facts (Own×Value×Froz):=fun i g u w=>match Nat.beq i s with
  | true=>u=g.2.1
  | false=>factsOf l i g.1 u w
def ParD (X:List Nat) (w0:World) (D:Froz) (W:List Nat) (L0:Own) (Q:Froz→Value→Prop) (b:Bool) (g:Own×Value×Froz) (w:World):Prop:=
  Par X w0 (g.2.2++D) W L0 g.1 w∧(b=false→g.2.2=[])∧(b=true→Q g.2.2 g.2.1)
section
variable {P : Program} {X : List Nat} {w0 w : World} {D : Froz} {W : List Nat} {L0 : Own} {Q : Froz → Value → Prop} {s i : Nat} {b : Bool} {g : Own × Value × Froz} {l : List Fact} {o : Oper} {a : Act}
theorem factsD_ne (h:Nat.beq i s=false)(u:Value):factsD l s i g u w=factsOf l i g.1 u w:=by unfold factsD;rw [h]
theorem ParD.drew (h:ParD X w0 D W L0 Q b g w):ParD X w0 D W L0 Q b g w.drew:=⟨⟨h.1.1.ext (Below.drew (Below.refl _ _)),h.1.2⟩,h.2⟩
theorem ParD.mem (h:ParD X w0 D W L0 Q b g w)(hW:holes W L0=true):MemX X w0 w L0 D:=(Par.mem h.1 hW).sub D (fun _ hx=>List.mem_append_right _ hx)
theorem pd_val {v:Value}(hS:ParD X w0 D W L0 Q b g w)(hs:Nat.beq i s=false)(hi:l[i]? = some (.val v))(hg:Gives P o a w v):Does P o a w (AfterG (ParD X w0 D W L0 Q) (factsD l s) b i g w):=
  hg.mono fun u w' ⟨h1,h2⟩=>by subst h2;exact ⟨g,hS,by rw [factsD_ne hs];exact fact_get hi h1,fun j u _ h=>h⟩
theorem pd_own {k:Nat}{cs:Array Value}{mk:Nat→Value}(hl:Lasts l)(hS:ParD X w0 D W L0 Q b g w)(hs:Nat.beq i s=false)(hi:l[i]? = some (.own k cs mk))(hk:memNat k W=true)(hkl:Nat.blt k L0.length=true)(h1:onePlace k i l 0=true)
    (hg:Does P o a w (fun u w'=>∃ b,u=mk b∧MemX X w0 w' (g.1.set k (some (b,cs))) (g.2.2++D)∧Ext w w')):Does P o a w (AfterG (ParD X w0 D W L0 Q) (factsD l s) b i g w):=
  hg.mono fun u w' ⟨bq,hu,hM,hx⟩=>by
    have hkl':k<g.1.length:=by rw [hS.1.2.1];exact Nat.blt_eq.mp hkl
    refine ⟨(g.1.set k (some (bq,cs)),g.2),⟨⟨hM,hS.1.2.set k hk _⟩,hS.2⟩,?_,fun j u hj h=>?_⟩
    · rw [factsD_ne hs];exact fact_get hi ⟨bq,hu,by simp [hkl']⟩
    · unfold factsD at *
      cases ej:Nat.beq j s with
      | true=>rw [ej] at h;exact h
      | false =>
        rw [ej] at h
        have h2:=facts_ext hl hx j u h
        dsimp only at h2 ⊢
        unfold factsOf at *
        cases e:l[j]? with
        | none=>trivial
        | some fq =>
          rw [e] at h2
          have hp:=onePlace_spec h1 j fq e (by omega)
          cases fq with
          | val v=>exact h2
          | rel R=>exact h2
          | own q ds mk' =>
            obtain ⟨c,h3,h4⟩:=h2
            refine ⟨c,h3,?_⟩
            rw [List.getElem?_set,if_neg (fun e=>hp (by subst e;rfl))];exact h4
theorem pd_new (hl:Lasts l)(hS:ParD X w0 D W L0 Q false g w)
    (hg:Does P o a w (fun u w'=>Ext w w'∧∃ D',(∀ x ds,(x,ds)∈D'→w.heap.size≤x∧Blk w' x ds)∧Q D' u)):Does P o a w (AfterG (ParD X w0 D W L0 Q) (factsD l s) true s g w):=
  hg.mono fun u w' ⟨hx,D',hD,hq⟩=>by
    have hM:=hS.1.1
    rw [hS.2.1 rfl] at hM
    refine ⟨(g.1,u,D'),⟨⟨hM.addD hx hD,hS.1.2⟩,fun hb=>(by cases hb),fun _=>hq⟩,by unfold factsD;rw [show Nat.beq s s=true by simp],fun j u hj h=>?_⟩
    unfold factsD at *
    cases ej:Nat.beq j s with
    | true=>exact absurd (Nat.eq_of_beq_eq_true ej) hj
    | false=>rw [ej] at h;exact facts_ext hl hx j u h
end
end Go.Sw
namespace Go.Sw
open Go Go.RowKit Go.ChangeShapes Go.WideShapes Go.ChangeAt
def ArgVs (w:World) (sl:Value) (m:Nat) (V:Nat→Nat→Nat):Prop:=
  (∃ x c,sl = .slice x m c)∧(0<m→∃ b o c,sl = .slice (some ⟨b,o,none⟩) m c∧∀ i,i<m→∀ j,j<6→w.cell? ⟨b,o+i*6+j,none⟩=some (.int .u8 (V i j:Int)))
section
variable {P : Program} {n : Nat} {F : List (Nat × Value)} {a : Act} {w : World} {d : Option Tmp} {t : TypeId} {pos : String} {af : Array Edge} {gd : Option (Nat × Bool)} {x : Operand}
end
section
variable {H : Type} {enc : TypeId × Value → H} {P : Program} {w w' : World} {base : Nat} {spare : Nat → Bool} {held : Bool}
end
section
variable {H : Type} {enc : TypeId × Value → H} {P : Program} {w : World} {base : Nat} {spare : Nat → Bool} {held : Bool}
end
section
variable {P : Program} {X : List Nat} {w0 w : World} {L : Own} {D : Froz} {n : Nat} {F : List (Nat × Value)} {a : Act} {d : Option Tmp} {T : TypeId} {t : TypeId} {pos : String} {af : Array Edge} {gd : Option (Nat × Bool)} {x y : Operand}
end
end Go.Sw
namespace Go.Ech
open Go.Sw
section
variable {p n : Nat} {T : Nat → Nat → Nat → Nat} {u : Nat → Int}
variable (ha : AssI p n T) (hk : ComI n T) (hu : ∀ y, EqP p n (Pr n T y u) y)
include ha hu in
theorem vP_add (x:Nat→Int)(a:Nat):∀ b,EqP p n (Pr n T (vP n T u x a) (vP n T u x b)) (vP n T u x (a+b))
  | 0=>hu _
  | b+1=>EqP.trans (EqP.symm fun c hc=>Pr_assoc ha (vP n T u x a) (vP n T u x b) x hc) (EqP.mul (vP_add x a b) (EqP.refl x))
include ha hu in
theorem vP_vP (x:Nat→Int)(a:Nat):∀ b,EqP p n (vP n T u (vP n T u x a) b) (vP n T u x (a*b))
  | 0=>EqP.refl _
  | b+1=>(EqP.mul (vP_vP x a b) (EqP.refl _)).trans (vP_add ha hu x (a*b) a)
def LinK (p n:Nat) (T:Nat→Nat→Nat→Nat) (u:Nat→Int) (K:Nat):Prop:=(∀ x y,EqP p n (vP n T u (fun c=>x c+y c) K) (fun c=>vP n T u x K c+vP n T u y K c))∧∀ (a:Nat),a<p→∀ x,EqP p n (vP n T u (fun c=>(a:Int)*x c) K) (fun c=>(a:Int)*vP n T u x K c)
include ha hk hu in
theorem lin_p (hp:primeN p):LinK p n T u p:=by
  refine ⟨vP_frob ha hk hu hp,fun a hap x c hc=>?_⟩;have hm:p∈([2,3,5,7,11,13]:List Nat):=by unfold primeN at hp;simp;omega
  rw [vP_smul];have h1:(p:Int)∣((a:Int) ^ p - (a:Int))*vP n T u x p c:=by
    refine Int.dvd_mul_of_dvd_left ?_;have h2:=fermat p hm a hap;have h3:=emod_dvd (p:Int) ((a ^ p:Nat):Int);rw [← Int.natCast_emod,h2] at h3;have:=Int.dvd_neg.2 h3
    rwa [Int.neg_sub,Int.natCast_pow] at this
  rwa [Int.sub_mul] at h1
include ha hk hu in
theorem lin_mul (hp:primeN p){K:Nat}(h:LinK p n T u K):LinK p n T u (K*p):=by
  have h0:=lin_p ha hk hu hp;refine ⟨fun x y=>?_,fun a hap x=>?_⟩
  · refine (vP_vP ha hu _ K p).symm.trans (EqP.trans (vP_congr (h.1 x y) p) (EqP.trans (h0.1 _ _) ?_))
    exact EqP.add (vP_vP ha hu x K p) (vP_vP ha hu y K p)
  · refine (vP_vP ha hu _ K p).symm.trans (EqP.trans (vP_congr (h.2 a hap x) p) (EqP.trans (h0.2 a hap _) ?_))
    exact EqP.smul (a:Int) (vP_vP ha hu x K p)
theorem lin_cut {K:Nat}(hK:0<K)(h:LinK p n T u K)(v:Nat→Nat)(hv:∀ c,c<n→v c<p):∀ m,m≤n→EqP p n (vP n T u (cutV v m) K) (fun c=>sI (fun i=>(v i:Int)*vP n T u (eb i) K c) m)
  | 0, _ => fun c hc => by
    obtain ⟨q,rfl⟩:∃ q,K=q+1:=⟨K - 1,by omega⟩
    have e:cutV v 0=fun _=>0:=funext fun d=>by unfold cutV;rw [if_neg (by omega)]
    rw [e,vP_zero];exact ⟨0,by simp [sI]⟩
  | m + 1, hm => by
    have e:cutV v (m+1)=fun c=>cutV v m c+(fun c=>(v m:Int)*eb m c) c:=funext fun d=>by
      show (if d<m+1 then (v d:Int) else 0)=(if d<m then (v d:Int) else 0)+(v m:Int)*(if d=m then 1 else 0)
      by_cases h1:d=m
      · subst h1;rw [if_pos (by omega),if_neg (by omega),if_pos rfl];omega
      · rw [if_neg h1]
        by_cases h2:d<m
        · rw [if_pos (by omega),if_pos h2];omega
        · rw [if_neg (by omega),if_neg h2];omega
    rw [e]
    exact EqP.trans (h.1 _ _) (EqP.add (lin_cut hK h v hv m (by omega)) (h.2 (v m) (hv m (by omega)) (eb m)))
def wdL (n:Nat) (T:Nat→Nat→Nat→Nat) (u:Nat→Int) (z:Nat→Nat→Int):List Nat→Nat→Int
  | []=>u
  | j::w=>Pr n T (wdL n T u z w) (z j)
def cntL (a:Nat):List Nat→Nat
  | []=>0
  | j::w=>if j=a then cntL a w+1 else cntL a w
def fltL (a:Nat):List Nat→List Nat
  | []=>[]
  | j::w=>if j=a then fltL a w else j::fltL a w
theorem flt_len (a:Nat):∀ w,(fltL a w).length+cntL a w=w.length
  | []=>rfl
  | j :: w => by
    have:=flt_len a w
    unfold fltL cntL
    split<;>simp only [List.length_cons]<;>omega
theorem flt_mem {a:Nat}:∀ {w:List Nat} {j:Nat},j∈fltL a w→j∈w∧j≠a
  | [],j,h=>by simp [fltL] at h
  | i :: w, j, h => by
    unfold fltL at h
    by_cases e:i=a
    · rw [if_pos e] at h
      have:=flt_mem h
      exact ⟨List.mem_cons_of_mem _ this.1,this.2⟩
    · rw [if_neg e] at h
      rcases List.mem_cons.1 h with h | h
      · subst h;exact ⟨List.mem_cons_self ..,e⟩
      · have:=flt_mem h
        exact ⟨List.mem_cons_of_mem _ this.1,this.2⟩
variable {z : Nat → Nat → Int}
include ha hk hu in
theorem wd_sort (a:Nat):∀ w,EqP p n (wdL n T u z w) (Pr n T (wdL n T u z (fltL a w)) (vP n T u (z a) (cntL a w)))
  | []=>(hu u).symm
  | j :: w => by
    have h1:EqP p n (wdL n T u z (j::w)) (Pr n T (Pr n T (wdL n T u z (fltL a w)) (vP n T u (z a) (cntL a w))) (z j)):=EqP.mul (wd_sort a w) (EqP.refl _)
    unfold fltL cntL
    by_cases e:j=a
    · rw [if_pos e,if_pos e]
      subst e
      exact h1.trans fun c hc=>Pr_assoc ha (wdL n T u z (fltL j w)) (vP n T u (z j) (cntL j w)) (z j) hc
    · rw [if_neg e,if_neg e]
      exact h1.trans (Pr_right_comm ha hk _ _ _)
theorem zero_l {y w:Nat→Int}(hy:EqP p n y (fun _=>0)):EqP p n (Pr n T y w) (fun _=>0):=(EqP.mul hy (EqP.refl w)).trans fun c hc=>by rw [Pr_zero];exact ⟨0,by simp⟩
theorem zero_r {y w:Nat→Int}(hy:EqP p n y (fun _=>0)):EqP p n (Pr n T w y) (fun _=>0):=(EqP.mul (EqP.refl w) hy).trans fun c hc=>by rw [Pr_zeroR];exact ⟨0,by simp⟩
include ha hu in
theorem vP_nil {x:Nat→Int}{L k:Nat}(h:EqP p n (vP n T u x L) (fun _=>0))(hk:L≤k):EqP p n (vP n T u x k) (fun _=>0):=by
  have:=vP_add ha hu x L (k - L);rw [show L+(k - L)=k by omega] at this;exact this.symm.trans (zero_l h)
include ha hk hu in
theorem wd_nil {L:Nat}:∀ d,(∀ j,j<d→EqP p n (vP n T u (z j) L) (fun _=>0))→∀ w:List Nat,(∀ j,j∈w→j<d)→d*L<w.length→EqP p n (wdL n T u z w) (fun _=>0)
  | 0, _, w, hw, hl => by
    match w,hw,hl with
    | j::w,hw,_=>exact absurd (hw j (List.mem_cons_self ..)) (by omega)
  | d + 1, hz, w, hw, hl => by
    refine (wd_sort ha hk hu d w).trans ?_
    by_cases h:L≤cntL d w
    · exact zero_r (vP_nil ha hu (hz d (by omega)) h)
    · refine zero_l (wd_nil d (fun j hj=>hz j (by omega)) (fltL d w) (fun j hj=>?_) ?_)
      · have h1:=flt_mem hj
        have h2:=hw j h1.1
        omega
      · have:=flt_len d w
        rw [Nat.succ_mul] at hl
        omega
def adjV (n:Nat) (T:Nat→Nat→Nat→Nat) (z x:Nat→Int) (c:Nat):Int:=dot n (fun d=>sI (fun b=>z b*(T c b d:Int)) n) x
theorem dot_adj (v z x:Nat→Int):dot n (Pr n T v z) x=dot n v (adjV n T z x):=by
  unfold dot adjV dot
  have e:∀ d,Pr n T v z d*x d=sI (fun a=>v a*(sI (fun b=>z b*(T a b d:Int)) n*x d)) n:=fun d=>by
    rw [Pr_left,sI_mulr];exact sI_congr fun a _=>Int.mul_assoc _ _ _
  rw [sI_congr fun d _=>e d,sI_swap];exact sI_congr fun a _=>sI_mul (v a) _ n
def adjW (n:Nat) (T:Nat→Nat→Nat→Nat) (z:Nat→Nat→Int):List Nat→(Nat→Int)→Nat→Int
  | [],x=>x
  | j::w,x=>adjW n T z w (adjV n T (z j) x)
def mulW (n:Nat) (T:Nat→Nat→Nat→Nat) (z:Nat→Nat→Int):List Nat→(Nat→Int)→Nat→Int
  | [],v=>v
  | j::w,v=>Pr n T (mulW n T z w v) (z j)
structure PowS (p n:Nat) (T:Nat→Nat→Nat→Nat) (R:Nat→Nat) (U Z:Nat→Nat→Nat→Nat) (PM:Nat→Nat→Nat→Nat):Prop where
  agree:∀ k i,i<R k→∀ c,c<n→U k i c=Z k i c
  prod:∀ k q,∀ c,c<n→(p:Int)∣(PM k q c:Int) - Pr n T (ci (U k (q / R 0))) (ci (U 0 (q%R 0))) c
  red:∀ k,RedOf p n (PM k) (R k*R 0) (R (k+1)) (Z (k+1))
end
end Go.Ech
namespace Go.Ech
open Go.Sw
def Ind (p n:Nat) (P:Nat→Nat→Nat) (d:Nat):Prop:=∀ x:Nat→Int,(∀ c,c<n→(p:Int)∣sI (fun i=>x i*(P i c:Int)) d)→∀ i,i<d→(p:Int)∣x i
structure MinP (p n:Nat) (P:Nat→Nat→Nat) (d:Nat) (B:Nat→Nat):Prop where
  pos:0<d
  ind:Ind p n P d
  small:∀ i,B i<p
  one:B d=1
  rel:∀ c,c<n→(p:Int)∣sI (fun i=>(B i:Int)*(P i c:Int)) (d+1)
structure RowC (p n:Nat) (P:Nat→Nat→Nat) (d:Nat) (r:Nat→Nat):Prop where
  small:∀ c,r c<p
  out:∀ c,n≤c→c<6→r c=0
  one:r (6+d)=1
  high:∀ i,d<i→r (6+i)=0
  rel:∀ c,c<n→(p:Int)∣(r c:Int) - sI (fun i=>(r (6+i):Int)*(P i c:Int)) (d+1)
structure KeptC (p n:Nat) (P:Nat→Nat→Nat) (m:Nat) (K:Nat→Nat→Nat) (ld:Nat→Nat):Prop where
  row:∀ j,j<m→RowC p n P j (K j)
  lt:∀ j,j<m→ld j<n
  ne:∀ j,j<m→K j (ld j)≠0
  zero:∀ j,j<m→∀ i,i<j→K j (ld i)=0
def startC (P:Nat→Nat→Nat) (d c:Nat):Nat:=if c<6 then P d c else if c=6+d then 1 else 0
end Go.Ech
