import Derived.Test.YtccdgjmomcljkaaDoorSw56
import Derived.Test.YtccdgjmomcljkaaDoorEch5
import Derived.Test.YtccdgjmomcljkaaDoorSw9
import Derived.Test.YtccdgjmomcljkaaDoorSw14
set_option linter.unusedVariables false
set_option linter.unusedSimpArgs false
namespace Go.Ech
open Go.Sw
def powU (u:Nat→Nat) (W:Nat→Nat→Nat):Nat→Nat→Nat
  | 0=>u
  | k+1=>W k
end Go.Ech
namespace Go.Ech
open Go.Sw
def EqP (p n:Nat) (x y:Nat→Int):Prop:=∀ c,c<n→(p:Int)∣x c - y c
section
variable {p n : Nat} {T : Nat → Nat → Nat → Nat} {x y z x' y' : Nat → Int}
theorem EqP.refl (x:Nat→Int):EqP p n x x:=fun c _=>by rw [Int.sub_self];exact ⟨0,by simp⟩
theorem EqP.symm (h:EqP p n x y):EqP p n y x:=fun c hc=>by
  have:=Int.dvd_neg.2 (h c hc)
  rwa [Int.neg_sub] at this
theorem EqP.trans (h:EqP p n x y)(k:EqP p n y z):EqP p n x z:=fun c hc=>by
  have:=Int.dvd_add (h c hc) (k c hc)
  rwa [show x c - y c+(y c - z c)=x c - z c by omega] at this
theorem EqP.mul (h:EqP p n x x')(k:EqP p n y y'):EqP p n (Pr n T x y) (Pr n T x' y'):=fun c _=>Pr_congr h k c
theorem EqP.add (h:EqP p n x x')(k:EqP p n y y'):EqP p n (fun c=>x c+y c) (fun c=>x' c+y' c):=fun c hc=>by
  have:=Int.dvd_add (h c hc) (k c hc)
  rwa [show x c - x' c+(y c - y' c)=x c+y c - (x' c+y' c) by omega] at this
def ComI (n:Nat) (T:Nat→Nat→Nat→Nat):Prop:=∀ i,i<n→∀ j,j<n→∀ k,k<n→T i j k=T j i k
end
def eP (n:Nat) (T:Nat→Nat→Nat→Nat) (e v:Nat→Int):Nat→Nat→Int
  | 0=>e
  | k+1=>Pr n T (eP n T e v k) v
def evl (n:Nat) (T:Nat→Nat→Nat→Nat) (e v:Nat→Int):List Int→Nat→Nat→Int
  | [],_,_=>0
  | a::r,j,c=>a*eP n T e v j c+evl n T e v r (j+1) c
def addL:List Int→List Int→List Int
  | [],r=>r
  | q,[]=>q
  | a::q,b::r=>(a+b)::addL q r
def mulLL (q:List Int):List Int→List Int
  | []=>[]
  | b::r=>addL (q.map (b * ·)) (0::mulLL q r)
def congL (p:Int) (q r:List Int):Bool:=(addL q (r.map (-1 * ·))).all fun a=>decide (a%p=0)
section
variable {p n : Nat} {T : Nat → Nat → Nat → Nat} {e v : Nat → Int}
variable (ha : AssI p n T) (hk : ComI n T) (he : EqP p n (Pr n T e e) e)
include ha hk in
end
end Go.Ech
namespace Go.Ech
open Go.Sw
def linL (p:Int) (k a:Int) (q:List Int):List Int:=(addL (0::q.map (k * ·)) (q.map (-(k*a) * ·))).map (· % p)
def iL (p:Int) (c:Int):Nat→List Int
  | 0=>[1]
  | k+1=>linL p 1 c (iL p c k)
def invI (p:Nat) (x:Int):Nat:=((List.range p).find? (fun (k:Nat)=>decide ((x*(k:Int))%(p:Int)=1))).getD 0
def sL (p c:Nat):Nat→List Int
  | 0=>[1]
  | d+1=>if d=c then sL p c d else linL p (invI p ((c:Int) - (d:Int))) d (sL p c d)
def pcL (p c:Nat):List Int:=addL [1] ((iL p c (p - 1)).map (-1 * ·))
def redL (p:Nat) (q:List Int):List Int:=addL (q.take p) (0::q.drop p)
section
variable {p n : Nat} {T : Nat → Nat → Nat → Nat} {e v u : Nat → Int}
variable (ha : AssI p n T) (hk : ComI n T) (he : EqP p n (Pr n T e e) e)
def vP (n:Nat) (T:Nat→Nat→Nat→Nat) (u v:Nat→Int):Nat→Nat→Int
  | 0=>u
  | k+1=>Pr n T (vP n T u v k) v
include ha in
end
end Go.Ech
namespace Go.Ech
open Go.Sw
def bin:Nat→Nat→Nat
  | 0,0=>1
  | 0,_+1=>0
  | _+1,0=>1
  | k+1,i+1=>bin k i+bin k (i+1)
section
variable {p n : Nat} {T : Nat → Nat → Nat → Nat} {u : Nat → Int}
variable (ha : AssI p n T) (hk : ComI n T) (hu : ∀ y, EqP p n (Pr n T y u) y)
include ha hk hu in
def eb (c:Nat):Nat→Int:=fun d=>if d=c then 1 else 0
def cutV (v:Nat→Nat) (m:Nat):Nat→Int:=fun d=>if d<m then (v d:Int) else 0
include ha hk hu in
end
end Go.Ech
namespace Go.Ech
open Go.Sw
end Go.Ech
namespace Go.Ech
open Go.Sw
def RedOf (p n:Nat) (M:Nat→Nat→Nat) (m r:Nat) (V:Nat→Nat→Nat):Prop:=∃ ld,Rref p n V r ld∧∀ x,Ker p n V r x↔Ker p n M m x
theorem RedOf.unique {p n m r r':Nat}{M V V':Nat→Nat→Nat}(hp:2≤p)(h:RedOf p n M m r V)(h':RedOf p n M m r' V'):r=r'∧∀ i,i<r→∀ c,c<n→V i c=V' i c:=by
  obtain ⟨ld,h1,h2⟩:=h;obtain ⟨ld',h1',h2'⟩:=h';obtain ⟨e,_,eV⟩:=rref_unique hp h1 h1' (fun x=>(h2 x).trans (h2' x).symm);exact ⟨e,eV⟩
theorem ker_eqv {p n m:Nat}{M M':Nat→Nat→Nat}{x:Nat→Int}(e:∀ i,i<m→∀ c,c<n→M i c=M' i c):Ker p n M m x↔Ker p n M' m x:=
  ⟨fun q i hi=>by rw [← dot_same (e i hi)];exact q i hi,fun q i hi=>by rw [dot_same (e i hi)];exact q i hi⟩
theorem RedOf.same {p n m r:Nat}{M M' V:Nat→Nat→Nat}(e:∀ i,i<m→∀ c,c<n→M i c=M' i c)(h:RedOf p n M m r V):RedOf p n M' m r V:=by
  obtain ⟨ld,h1,h2⟩:=h;exact ⟨ld,h1,fun x=>(h2 x).trans (ker_eqv e)⟩
theorem rref_le {p N k:Nat}{E:Nat→Nat→Nat}{ld:Nat→Nat}(h:Rref p N E k ld):k≤N:=by
  have key:∀ i,i<k→i≤ld i:=by
    intro i
    induction i with
    | zero=>intro _;omega
    | succ i ih=>intro hi;have:=ih (by omega);have:=h.mono i (i+1) (by omega) hi;omega
  by_cases e:k=0
  · omega
  · have:=key (k - 1) (by omega);have:=h.lt (k - 1) (by omega);omega
theorem RedOf.le {p n m r:Nat}{M V:Nat→Nat→Nat}(h:RedOf p n M m r V):r≤n:=by
  obtain ⟨ld,h1,_⟩:=h;exact rref_le h1
theorem RedOf.pos {p n m r i c:Nat}{M V:Nat→Nat→Nat}(h:RedOf p n M m r V)(hi:i<m)(hc:c<n)(hM:M i c<p)(h0:M i c≠0):0<r:=by
  obtain ⟨ld,h1,h2⟩:=h;refine Nat.pos_of_ne_zero fun e=>?_;subst e;have h3:=(h2 (fun d=>if d=c then 1 else 0)).1 (fun j hj=>absurd hj (by omega)) i hi
  unfold dot at h3
  rw [sI_one (a:=c) hc (fun d _ hd=>by simp [hd])] at h3;simp only [if_true,Int.mul_one] at h3;have h4:(p:Int)∣(M i c:Int):=h3;have h5:p∣M i c:=by exact_mod_cast h4
  have:=Nat.le_of_dvd (by omega) h5
  omega
def IsRk (p n:Nat) (M:Nat→Nat→Nat) (m R:Nat):Prop:=∀ r V,RedOf p n M m r V→r=R
end Go.Ech
namespace Go.Sw
open Go Go.RowKit
def factsA (l:List Fact) (s:Nat):Facts (Own×Value):=fun i g u w=>match Nat.beq i s with
  | true=>u=g.2
  | false=>factsOf l i g.1 u w
def ParA (X:List Nat) (w0:World) (D:Froz) (W:List Nat) (L0:Own) (kr N:Nat) (e0:Option (Nat×Array Value)) (f:Nat→Value) (b:Bool) (g:Own×Value) (w:World):Prop:=
  Par X w0 D (kr::W) L0 g.1 w∧(b=false→g.1[kr]? = some e0)∧(b=true→∃ e',g.1[kr]? = some e'∧Sl 1 g.2 e' N f)
section
variable {P : Program} {X : List Nat} {w0 w : World} {D : Froz} {W : List Nat} {L0 : Own} {kr N s i : Nat} {e0 : Option (Nat × Array Value)} {f : Nat → Value} {b : Bool} {g : Own × Value} {l : List Fact} {o : Oper} {a : Act}
theorem ParA.drew (h:ParA X w0 D W L0 kr N e0 f b g w):ParA X w0 D W L0 kr N e0 f b g w.drew:=⟨⟨h.1.1.ext (Below.drew (Below.refl _ _)),h.1.2⟩,h.2⟩
theorem ParA.mem (h:ParA X w0 D W L0 kr N e0 f b g w)(hW:holes (kr::W) L0=true):MemX X w0 w L0 D:=Par.mem h.1 hW
def noPlace (k:Nat):List Fact→Bool
  | []=>true
  | fq::r=>(match fq.place with | some q=>!(Nat.beq q k) | none=>true) && noPlace k r
def noRel:List Fact→Bool
  | []=>true
  | .rel _::_=>false
  | .val _::r=>noRel r
  | .own _ _ _::r=>noRel r
end
end Go.Sw
