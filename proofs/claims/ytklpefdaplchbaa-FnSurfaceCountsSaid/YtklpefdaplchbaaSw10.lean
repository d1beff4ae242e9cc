import Derived.Test.YtklpefdaplchbaaSw97
import Derived.Test.YtklpefdaplchbaaSw85
import Derived.Test.YtklpefdaplchbaaEch10
import Derived.Test.YtklpefdaplchbaaEch5
import Derived.Test.YtklpefdaplchbaaSw19
import Derived.Control
import Derived.Test.YtklpefdaplchbaaSw21
import Derived.JoinedOf
import Derived.KernelRfl
set_option linter.unusedVariables false
set_option linter.unusedSimpArgs false
namespace Go.Sw
open Go Go.RowKit
def digL (m k i:Nat):Nat:=k / m ^ i%m
theorem digL_lt {m k i:Nat}(h:0<m):digL m k i<m:=Nat.mod_lt _ h
theorem digL_s {m k i:Nat}:digL m (k / m) i=digL m k (i+1):=by
  unfold digL
  rw [Nat.div_div_eq_div_mul,Nat.pow_succ,Nat.mul_comm m]
theorem digL_inj {m:Nat}(hm:0<m):∀ {n k j:Nat},k<m ^ n→j<m ^ n→(∀ i,i<n→digL m k i=digL m j i)→k=j
  | 0,k,j,hk,hj,_=>by rw [Nat.pow_zero] at hk hj;omega
  | n + 1, k, j, hk, hj, h => by
    have h0:=h 0 (by omega)
    unfold digL at h0
    rw [Nat.pow_zero,Nat.div_one,Nat.div_one] at h0
    rw [Nat.pow_succ] at hk hj
    have e:=digL_inj hm (n:=n) (k:=k / m) (j:=j / m) ((Nat.div_lt_iff_lt_mul hm).2 hk) ((Nat.div_lt_iff_lt_mul hm).2 hj) fun i hi=>by rw [digL_s,digL_s];exact h (i+1) (by omega)
    have e1:=Nat.div_add_mod k m
    have e2:=Nat.div_add_mod j m
    rw [e,h0] at e1
    omega
theorem digF_plF {s:Nat}{g:Nat→Nat}(hg:∀ c,g c<s):∀ {l i:Nat},i<l→Rw.digF s l (Rw.plF s g l) i=g i
  | 0,i,h=>absurd h (by omega)
  | l + 1, i, h => by
    have hs:0<s:=Nat.lt_of_le_of_lt (Nat.zero_le _) (hg 0)
    have hd:(Rw.plF s g l*s+g l) / s=Rw.plF s g l:=by rw [Nat.add_comm,Nat.add_mul_div_right _ _ hs,Nat.div_eq_of_lt (hg l),Nat.zero_add]
    have hm:(Rw.plF s g l*s+g l)%s=g l:=by rw [Nat.add_comm,Nat.add_mul_mod_self_right,Nat.mod_eq_of_lt (hg l)]
    unfold Rw.digF
    show (Rw.plF s g l*s+g l) / s ^ (l+1 - 1 - i)%s=g i
    by_cases e:i=l
    · subst e
      rw [show i+1 - 1 - i=0 by omega,Nat.pow_zero,Nat.div_one,hm]
    · rw [show l+1 - 1 - i=(l - 1 - i)+1 by omega,Nat.pow_succ,Nat.mul_comm (s ^ (l - 1 - i)) s,← Nat.div_div_eq_div_mul,hd]
      exact digF_plF hg (by omega)
theorem cnt_erase {S:Nat→Bool}{y:Nat}:∀ {N:Nat},y<N→S y=true→cnt (fun x=>S x && decide (x≠y)) N+1=cnt S N
  | 0,h,_=>absurd h (by omega)
  | N + 1, h, hS => by
    by_cases e:y=N
    · subst e
      rw [cnt_yes hS,cnt_no (by simp)]
      congr 1
      exact cnt_congr fun x hx=>by rw [decide_eq_true (show x≠y by omega),Bool.and_true]
    · have ih:=cnt_erase (S:=S) (y:=y) (N:=N) (by omega) hS
      have e2:(S N && decide (N≠y))=S N:=by rw [decide_eq_true (show N≠y by omega),Bool.and_true]
      by_cases q:S N=true
      · rw [cnt_yes (S:=fun x=>S x && decide (x≠y)) (i:=N) (by show (S N && decide (N≠y))=true;rw [e2];exact q),cnt_yes q,← ih]
      · rw [cnt_no (S:=fun x=>S x && decide (x≠y)) (i:=N) (by show ¬ (S N && decide (N≠y))=true;rw [e2];exact q),cnt_no q,← ih]
theorem cnt_map_le {π:Nat→Nat}{N:Nat}:∀ {n:Nat} {S:Nat→Bool},(∀ x,x<n→π x<N)→(∀ x y,x<n→y<n→π x=π y→x=y)→cnt (fun x=>S (π x)) n≤cnt S N
  | 0,S,_,_=>Nat.zero_le _
  | n + 1, S, h1, h2 => by
    by_cases q:S (π n)=true
    · have ih:=cnt_map_le (π:=π) (N:=N) (n:=n) (S:=fun x=>S x && decide (x≠π n)) (fun x hx=>h1 x (by omega)) (fun x y hx hy=>h2 x y (by omega) (by omega))
      have e:=cnt_erase (h1 n (by omega)) q
      have e2:cnt (fun x=>S (π x)) n=cnt (fun x=>S (π x) && decide (π x≠π n)) n:=cnt_congr fun x hx=>by
        rw [decide_eq_true (show π x≠π n from fun z=>by have:=h2 x n (by omega) (by omega) z;omega),Bool.and_true]
      rw [cnt_yes (S:=fun x=>S (π x)) q,e2]
      omega
    · rw [cnt_no (S:=fun x=>S (π x)) q]
      exact cnt_map_le (fun x hx=>h1 x (by omega)) (fun x y hx hy=>h2 x y (by omega) (by omega))
theorem cnt_not {S:Nat→Bool}:∀ {n:Nat},cnt S n+cnt (fun x=>!(S x)) n=n
  | 0=>rfl
  | n + 1 => by
    have ih:=cnt_not (S:=S) (n:=n)
    by_cases q:S n=true
    · rw [cnt_yes q,cnt_no (S:=fun x=>!(S x)) (i:=n) (by simp [q])];omega
    · rw [cnt_no q,cnt_yes (S:=fun x=>!(S x)) (i:=n) (by simpa using q)];omega
theorem cnt_map {π:Nat→Nat}{N:Nat}{S:Nat→Bool}(h1:∀ x,x<N→π x<N)(h2:∀ x y,x<N→y<N→π x=π y→x=y):cnt (fun x=>S (π x)) N=cnt S N:=by
  have a:=cnt_map_le (S:=S) h1 h2;have b:=cnt_map_le (S:=fun x=>!(S x)) h1 h2;have c:=cnt_not (S:=S) (n:=N);have d:=cnt_not (S:=fun x=>S (π x)) (n:=N)
  omega
def homP (n:Nat) (M M2:Nat→Nat→Nat) (d:Nat→Nat):Prop:=∀ i,i<n→∀ j,j<n→d (M i j)=M2 (d i) (d j)
def homB (n:Nat) (M M2:Nat→Nat→Nat) (d:Nat→Nat):Bool:=(List.range n).all fun i=>(List.range n).all fun j=>d (M i j) == M2 (d i) (d j)
theorem homB_iff {n:Nat}{M M2:Nat→Nat→Nat}{d:Nat→Nat}:homB n M M2 d=true↔homP n M M2 d:=by
  unfold homB homP
  simp [List.all_eq_true]
theorem homB_congr {n:Nat}{M M2:Nat→Nat→Nat}{d e:Nat→Nat}(hM:∀ i j,i<n→j<n→M i j<n)(h:∀ i,i<n→d i=e i):homB n M M2 d=homB n M M2 e:=by
  rw [Bool.eq_iff_iff,homB_iff,homB_iff]
  unfold homP
  constructor<;>intro q i hi j hj
  · rw [← h _ (hM i j hi hj),← h i hi,← h j hj];exact q i hi j hj
  · rw [h _ (hM i j hi hj),h i hi,h j hj];exact q i hi j hj
def hmF (n m:Nat) (M M2:Nat→Nat→Nat) (k:Nat):Nat:=cnt (fun x=>homB n M M2 (Rw.digF m n x)) k
def hmL (n m:Nat) (M M2:Nat→Nat→Nat) (k:Nat):Nat:=cnt (fun x=>homB n M M2 (digL m x)) k
theorem hm_eq {n m:Nat}{M M2:Nat→Nat→Nat}(hm:0<m)(hM:∀ i j,i<n→j<n→M i j<n):hmL n m M M2 (m ^ n)=hmF n m M M2 (m ^ n):=by
  have hlt:∀ x c,digL m x c<m:=fun x c=>digL_lt hm
  unfold hmL hmF
  rw [← cnt_map (π:=fun x=>Rw.plF m (digL m x) n) (S:=fun x=>homB n M M2 (Rw.digF m n x)) (fun x _=>Rw.plF_lt (hlt x) n)]
  · exact cnt_congr fun x _=>homB_congr hM fun i hi=>(digF_plF (hlt x) hi).symm
  · intro x y hx hy e
    refine digL_inj hm hx hy fun i hi=>?_;rw [← digF_plF (hlt x) hi,← digF_plF (hlt y) hi];exact congrArg (fun z=>Rw.digF m n z i) e
theorem hmF_yes {n m k:Nat}{M M2:Nat→Nat→Nat}(h:homP n M M2 (Rw.digF m n k)):hmF n m M M2 (k+1)=hmF n m M M2 k+1:=cnt_yes (homB_iff.2 h)
theorem hmF_no {n m k:Nat}{M M2:Nat→Nat→Nat}(h:¬ homP n M M2 (Rw.digF m n k)):hmF n m M M2 (k+1)=hmF n m M M2 k:=cnt_no (fun q=>h (homB_iff.1 q))
theorem hmL_yes {n m k:Nat}{M M2:Nat→Nat→Nat}(h:homP n M M2 (digL m k)):hmL n m M M2 (k+1)=hmL n m M M2 k+1:=cnt_yes (homB_iff.2 h)
theorem hmL_no {n m k:Nat}{M M2:Nat→Nat→Nat}(h:¬ homP n M M2 (digL m k)):hmL n m M M2 (k+1)=hmL n m M M2 k:=cnt_no (fun q=>h (homB_iff.1 q))
theorem hmF_le {n m k:Nat}{M M2:Nat→Nat→Nat}:hmF n m M M2 k≤k:=cnt_le k
theorem hmL_le {n m k:Nat}{M M2:Nat→Nat→Nat}:hmL n m M M2 k≤k:=cnt_le k
theorem digF_0 {m n k:Nat}(hn:0<n)(hk:k<m ^ n):Rw.digF m n k 0=k / m ^ (n - 1):=by
  unfold Rw.digF
  rw [show n - 1 - 0=n - 1 by omega];refine Nat.mod_eq_of_lt ?_;rw [show m ^ n=m ^ (n - 1)*m from by rw [← Nat.pow_succ,show (n - 1).succ=n by omega]] at hk;exact Nat.div_lt_of_lt_mul hk
theorem digF_up {m n k j:Nat}(hn:0<n)(hk:k≤j)(hj:j<m ^ n)(h:Rw.digF m n k 0≠0):Rw.digF m n j 0≠0:=by
  rw [digF_0 hn (by omega)] at h;rw [digF_0 hn hj];have h3:=Nat.div_le_div_right (c:=m ^ (n - 1)) hk;intro e;rw [e] at h3;exact h (Nat.le_zero.1 h3)
theorem hmF_end {n m k:Nat}{M M2:Nat→Nat→Nat}(hn:0<n)(h0:∀ x,homP n M M2 (Rw.digF m n x)→Rw.digF m n x 0=0)(hk:k<m ^ n)(h:Rw.digF m n k 0≠0):hmF n m M M2 k=hmF n m M M2 (m ^ n):=by
  have key:∀ d,k+d≤m ^ n→hmF n m M M2 (k+d)=hmF n m M M2 k:=by
    intro d
    induction d with
    | zero=>intro _;rfl
    | succ d ih =>
      intro hd;rw [show k+(d+1)=k+d+1 by omega,hmF_no (fun q=>digF_up hn (show k≤k+d by omega) (by omega) h (h0 _ q))];exact ih (by omega)
  have:=key (m ^ n - k) (by omega);rw [show k+(m ^ n - k)=m ^ n by omega] at this;exact this.symm
end Go.Sw
namespace Go.Ech
open Go.Sw
theorem dvd_prime {p a:Nat}{x:Int}(hp:primeN p)(ha:a<p)(h0:a≠0)(h:(p:Int)∣x*(a:Int)):(p:Int)∣x:=by
  obtain ⟨v,hv⟩:=inv_ex hp ha h0;have h1:(p:Int)∣((a*v:Nat):Int) - 1:=by
    have:=emod_dvd (p:Int) ((a*v:Nat):Int);rw [← Int.natCast_emod,hv] at this;have h2:=Int.dvd_neg.2 this
    rwa [show -(((1:Nat):Int) - ((a*v:Nat):Int))=((a*v:Nat):Int) - 1 by omega] at h2
  have h3:x=(x*(a:Int))*(v:Int) - x*(((a*v:Nat):Int) - 1):=by rw [Int.natCast_mul];grind
  rw [h3];exact Int.dvd_sub (Int.dvd_mul_of_dvd_left h) (Int.dvd_mul_of_dvd_right h1)
def powU (u:Nat→Nat) (W:Nat→Nat→Nat):Nat→Nat→Nat
  | 0=>u
  | k+1=>W k
end Go.Ech
namespace Go.Sw
open Go Go.RowKit
def CutQ (R:Act→World→Prop):Exit→Act→World→Prop
  | .normal,a,w=>R a w
  | _,_,_=>False
theorem cutI {R:Act→World→Prop}{a:Act}{w:World}(h:R a w):CutQ R .normal a w:=h
theorem sqC {P:Program}{Q:Exit→Act→World→Prop}{a:Act}{w:World}{x y:Code}(R:Act→World→Prop)(h:x.wp P (CutQ R) a w)(k:∀ a w,R a w→y.wp P Q a w):(x.seq y).wp P Q a w:=
  sq (wp_mono h fun e a w hq=>by
    cases e with
    | normal=>exact k a w hq
    | _=>exact hq.elim)
end Go.Sw
namespace Go.Sw
open Go Go.RowKit Go.ChangeShapes Go.WideShapes Go.ChangeAt
def ArgB (w:World) (sl:Value) (m:Nat):Prop:=
  (∃ x c,sl = .slice x m c)∧(0<m→∃ (b o c:Nat) (F:Nat→Nat),sl = .slice (some ⟨b,o,none⟩) m c∧b<w.heap.size∧b ∉ ([]:List Nat)∧(∀ i,F i≤255)∧∀ i,i<m→w.cell? ⟨b,o+i*1,none⟩=some (.int .u8 (F i:Int)))
theorem ArgB.code {w:World}{sl:Value}{m:Nat}(h:ArgB w sl m)(hm:m≤4096):CodeB w [] sl m:=⟨hm,h.1,h.2⟩
section
variable {H : Type} {enc : TypeId × Value → H} {P : Program} {w : World} {base : Nat} {spare : Nat → Bool} {held : Bool}
theorem argb_of_trod {t e:TypeId}{fuel:Nat}{v:Value}{y:DataW H×List MemPlace}(ht:P.underlying t=some (.slice e))(he:P.underlying e=some (.int .u8))(hc:P.cellsOf e=1)
    (h:DataW.trod enc P w base spare held fuel t [v]=some y):∃ m:Nat,ArgB w v m:=by
  rcases open_ints ht he hc h with ⟨e1,_⟩ | ⟨ad,len,cap,zs,e1,_,hle,hmx,hlen,_,hcell,hwf⟩
  · simp only [List.cons.injEq,and_true] at e1
    rw [e1];exact ⟨0,⟨none,0,rfl⟩,fun h=>absurd h (by omega)⟩
  · simp only [List.cons.injEq,and_true] at e1
    rw [e1];refine ⟨len,⟨some ad,cap,rfl⟩,fun hm=>?_⟩;have hzl:len≤zs.length:=by rw [hlen];split<;>omega
    have bd:∀ i,0≤zs.getD i 0∧zs.getD i 0≤255:=fun i=>by
      by_cases hi:i<zs.length
      · have:zs.getD i 0=zs[i]:=by simp [List.getD,hi]
        rw [this];exact wf_u8 (hwf _ (List.getElem_mem _))
      · have:zs.getD i 0=0:=by simp [List.getD,Nat.not_lt.1 hi]
        rw [this];exact ⟨by decide,by decide⟩
    have h0:=hcell 0 (by omega);rw [show ad.add 0=ad from rfl] at h0;obtain ⟨b,o,s⟩:=ad
    unfold World.cell? at h0
    cases hb:w.heap[b]? with
    | none=>simp [hb] at h0
    | some ob =>
      cases ob with
      | cells cs tt ck =>
        simp only [hb] at h0
        cases s with
        | some s=>simp at h0
        | none =>
          refine ⟨b,o,cap,fun i=>(zs.getD i 0).toNat,rfl,(Array.getElem?_eq_some_iff.1 hb).1,by simp,fun i=>by have h9:=bd i;show (zs.getD i 0).toNat≤255;omega,fun i hi=>?_⟩;have hi':=hcell i (by omega);rw [show (Addr.add ⟨b,o,none⟩ i)=⟨b,o+i,none⟩ from by unfold Addr.add;split<;>simp_all] at hi';rw [Nat.mul_one,hi'];have:=bd i;rw [Int.toNat_of_nonneg this.1]
      | _=>simp [hb] at h0
theorem open_by {r:Go.Reach}{b0:Nat}{t e:TypeId}{v:Value}{d:DataW H}{p:List MemPlace}(ht:P.underlying t=some (.slice e))(he:P.underlying e=some (.int .u8))(hc:P.cellsOf e=1)
    (hv:Value.okWide P w r b0 t v) (h:DataW.Trod enc P w base spare held t v d p):∃ m:Nat,ArgB w v m:=by
  obtain ⟨a,l,c,rfl⟩:=okWide_slice ht hv;obtain ⟨fuel,h⟩:=h;exact argb_of_trod ht he hc h
end
end Go.Sw
namespace Go.Sw
theorem wordsSigns_nb:∀ (c:Char) (r:List Char),c≠' '→wordsSigns (c::r)=match wordsSigns r with
    | w::ws=>(c::w)::ws
    | []=>[[c]]:=by
  intro c r h;rw [wordsSigns.eq_def]
  split
  · simp_all
  · rename_i heq;simp at heq;exact absurd heq.1 h
  · rename_i heq;simp only [List.cons.injEq] at heq;obtain ⟨rfl,rfl⟩:=heq;rfl
theorem wordsSigns_word:∀ (w r:List Char),(∀ c∈w,c≠' ')→wordsSigns (w++' '::r)=w::wordsSigns r
  | [],r,_=>by simp [wordsSigns]
  | c :: w, r, h => by
    rw [List.cons_append,wordsSigns_nb c _ (h c (by simp)),wordsSigns_word w r (fun d hd=>h d (by simp [hd]))]
theorem sum_nb (s:List Char)(h:isSumSigns s=true):∀ c∈s,c≠' ':=by
  intro c hc he
  unfold isSumSigns at h
  simp only [Bool.and_eq_true,List.all_eq_true] at h;have:=h.2 c hc;subst he
  revert this;decide
theorem cutHead (L s r : List Char) (h : L = "harness".toList ++ ' ' :: (s ++ ' ' :: ("cut".toList ++ ' ' :: r))) (hs : isSumSigns s = true) :
    behindMainWord (wordsSigns L) = "cut".toList :: wordsSigns r := by
  rw [h, wordsSigns_word _ _ (by decide), wordsSigns_word _ _ (sum_nb s hs), wordsSigns_word _ _ (by decide)];have : ("harness".toList == "harness".toList || "harness".toList == "ownmain".toList) = true := by decide
  unfold behindMainWord
  show (if (("harness".toList == "harness".toList || "harness".toList == "ownmain".toList) && isSumSigns s) = true then _ else _) = _
  rw [if_pos (by rw [this,hs];rfl)]
theorem strip_cut (R : List (List Char)) : stripLifts liftWords ("cut".toList :: R) = ([], "cut".toList :: R) := by
  kernel_rfl
theorem lifts_cut (P : Program) (R : List (List Char)) (h : behindMainWord (wordsSigns P.initOrder.toList) = "cut".toList :: R) : P.headLifts = [] := by
  unfold Program.headLifts;rw [h,strip_cut];rfl
theorem make_cut (P : Program) (R : List (List Char)) (h : behindMainWord (wordsSigns P.initOrder.toList) = "cut".toList :: R) : P.make = some .cut := by
  unfold Program.make;rw [h]
  have h1 : ("cut".toList == "gc".toList || "cut".toList == "spec".toList) = false := by decide
  have h2 : ("cut".toList == "cut".toList) = true := by decide
  simp only [h1,h2];rfl
theorem final_cut (P : Program) (R : List (List Char)) (h : behindMainWord (wordsSigns P.initOrder.toList) = "cut".toList :: R) : P.liftsFinal = false := by
  unfold Program.liftsFinal;rw [lifts_cut P R h,h];kernel_rfl
theorem enter_cut (P : Program) (R : List (List Char)) (h : behindMainWord (wordsSigns P.initOrder.toList) = "cut".toList :: R)
    (hl:P.laysLater=false) (hb:P.bearsReflect=false) (hd:P.doorFits []=true):P.mayEnter=true:=by
  unfold Program.mayEnter;rw [h]
  simp only [strip_cut,hl,hb,hd]
  kernel_rfl
end Go.Sw
