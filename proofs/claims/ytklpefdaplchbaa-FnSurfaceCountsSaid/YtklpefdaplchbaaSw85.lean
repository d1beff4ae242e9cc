import Derived.Test.YtklpefdaplchbaaSw81
import Derived.LaidEql
import Derived.Test.YtklpefdaplchbaaEch10
set_option linter.unusedVariables false
set_option linter.unusedSimpArgs false
namespace Go.Sw
open Go Go.RowKit Go.Ech
variable {P : Program}
section
variable {ops : Array Oper} {Q : Exit → Act → World → Prop} {rest : List Oper} {n : Nat} {F : List (Nat × Value)} {a : Act} {X : List Nat} {w w0 : World} {L : Own} {D : Froz}
variable {d : Option Tmp} {t : TypeId} {pos : String} {af : Array Edge} {gd : Option (Nat × Bool)} {T : TypeId} {x y : Operand}
end
section
variable {K : Nat → Int} {tw τ σ φ ψ : Nat → Nat} {q u bx b1 b2 bT : Nat} {k : Int}
end
end Go.Sw
namespace Go.Sw
open Go Go.RowKit Go.Ech
section
variable {P : Program} {n : Nat} {F : List (Nat × Value)} {a : Act} {w : World} {d : Option Tmp} {t T T' e : TypeId} {pos : String} {af : Array Edge} {gd : Option (Nat × Bool)} {x y : Operand} {b1 b2 : Nat} {c1 c2 : Array Value}
end
end Go.Sw
namespace Go.Sw
open Go Go.RowKit
def cnt (S:Nat→Bool):Nat→Nat
  | 0=>0
  | i+1=>cnt S i+if S i=true then 1 else 0
theorem cnt_yes {S:Nat→Bool}{i:Nat}(h:S i=true):cnt S (i+1)=cnt S i+1:=by simp only [cnt];rw [if_pos h]
theorem cnt_no {S:Nat→Bool}{i:Nat}(h:¬ S i=true):cnt S (i+1)=cnt S i:=by simp only [cnt];rw [if_neg h];rfl
theorem cnt_le {S:Nat→Bool}:∀ i,cnt S i≤i
  | 0=>Nat.le_refl _
  | i+1=>by have:=cnt_le (S:=S) i;simp only [cnt];split<;>omega
theorem cnt_mono {S:Nat→Bool}{i:Nat}:∀ {j:Nat},i≤j→cnt S i≤cnt S j
  | 0,h=>by rw [show i=0 by omega];exact Nat.le_refl _
  | j + 1, h => by
    by_cases e:i=j+1
    · rw [e];exact Nat.le_refl _
    · exact Nat.le_trans (cnt_mono (S:=S) (j:=j) (by omega)) (Nat.le_add_right _ _)
theorem cnt_lt {S:Nat→Bool}{i j:Nat}(hi:S i=true)(h:i<j):cnt S i<cnt S j:=by
  have h1:=cnt_yes hi;have h2:=cnt_mono (S:=S) (show i+1≤j by omega)
  omega
theorem cnt_inj {S:Nat→Bool}{i j:Nat}(hi:S i=true)(hj:S j=true)(h:cnt S i=cnt S j):i=j:=by
  rcases Nat.lt_trichotomy i j with e | e | e
  · have:=cnt_lt hi e;omega
  · exact e
  · have:=cnt_lt hj e;omega
theorem cnt_congr {S T:Nat→Bool}:∀ {n:Nat},(∀ i,i<n→S i=T i)→cnt S n=cnt T n
  | 0,_=>rfl
  | n + 1, h => by
    simp only [cnt]
    rw [cnt_congr (S:=S) (T:=T) (n:=n) (fun i hi=>h i (by omega)),h n (by omega)]
theorem cnt_ex {S:Nat→Bool}:∀ {n k:Nat},k<cnt S n→∃ j,j<n∧S j=true∧cnt S j=k
  | 0,k,h=>absurd h (by simp [cnt])
  | n + 1, k, h => by
    by_cases e:S n=true
    · rw [cnt_yes e] at h
      by_cases e2:k=cnt S n
      · exact ⟨n,by omega,e,e2.symm⟩
      · obtain ⟨j,h1,h2⟩:=cnt_ex (S:=S) (n:=n) (k:=k) (by omega)
        exact ⟨j,by omega,h2⟩
    · rw [cnt_no e] at h
      obtain ⟨j,h1,h2⟩:=cnt_ex (S:=S) (n:=n) (k:=k) h
      exact ⟨j,by omega,h2⟩
def asc (S:Nat→Bool):Nat→Nat→Nat
  | 0,_=>0
  | n+1,k=>if S n=true∧cnt S n=k then n else asc S n k
theorem asc_at {S:Nat→Bool}{j:Nat}(h:S j=true):∀ {n:Nat},j<n→asc S n (cnt S j)=j
  | 0,hj=>absurd hj (by omega)
  | n + 1, hj => by
    simp only [asc]
    by_cases e:S n=true∧cnt S n=cnt S j
    · rw [if_pos e];exact cnt_inj e.1 h e.2
    · rw [if_neg e]
      refine asc_at h ?_
      by_cases e2:j=n
      · subst e2;exact absurd ⟨h,rfl⟩ e
      · omega
theorem asc_of {S:Nat→Bool}{n k:Nat}(h:k<cnt S n):asc S n k<n∧S (asc S n k)=true∧cnt S (asc S n k)=k:=by
  obtain ⟨j,h1,h2,h3⟩:=cnt_ex h;have e:=asc_at h2 h1;rw [h3] at e;rw [e];exact ⟨h1,h2,h3⟩
theorem asc_lt {S:Nat→Bool}{n i k:Nat}(hik:i<k)(h:k<cnt S n):asc S n i<asc S n k:=by
  have h1:=asc_of (show i<cnt S n by omega);have h2:=asc_of h
  rcases Nat.lt_trichotomy (asc S n i) (asc S n k) with e | e | e
  · exact e
  · have:=h1.2.2;rw [e,h2.2.2] at this;omega
  · have:=cnt_lt h2.2.1 e;omega
theorem asc_unique {S:Nat→Bool}{n m:Nat}{g:Nat→Nat}(hg:∀ i,i+1<m→g i<g (i+1))(hS:∀ x,x<n→(S x=true↔∃ i,i<m∧g i=x))(hn:∀ i,i<m→g i<n):cnt S n=m∧∀ i,i<m→g i=asc S n i:=by
  have mono:∀ d i,i+d<m→0<d→g i<g (i+d):=by
    intro d
    induction d with
    | zero=>intro i _ h;omega
    | succ d ih =>
      intro i h _;have h1:=hg (i+d) (by omega)
      by_cases e:d=0
      · subst e;exact h1
      · exact Nat.lt_trans (ih i (by omega) (by omega)) h1
  have key:∀ k,k<m→cnt S (g k)=k:=by
    intro k
    induction k with
    | zero =>
      intro h0;have e:∀ j,j≤g 0→cnt S j=0:=by
        intro j
        induction j with
        | zero=>intro _;rfl
        | succ j ih =>
          intro hj;rw [cnt_no,ih (by omega)];intro hs;obtain ⟨i,hi,he⟩:=(hS j (by have:=hn 0 h0;omega)).1 hs
          by_cases e0:i=0
          · subst e0;omega
          · have:=mono i 0 (by omega) (by omega);rw [Nat.zero_add] at this;omega
      exact e _ (Nat.le_refl _)
    | succ k ih =>
      intro hk;have h1:=ih (by omega);have h2:=hg k hk;have hs:S (g k)=true:=(hS _ (hn k (by omega))).2 ⟨k,by omega,rfl⟩;have e:∀ d,g k+1+d≤g (k+1)→cnt S (g k+1+d)=k+1:=by
        intro d
        induction d with
        | zero=>intro _;rw [Nat.add_zero,cnt_yes hs,h1]
        | succ d ih2 =>
          intro hd;rw [← Nat.add_assoc,cnt_no,ih2 (by omega)];intro hq;obtain ⟨i,hi,he⟩:=(hS _ (by have:=hn (k+1) hk;omega)).1 hq
          by_cases e0:i≤k
          · by_cases e1:i=k
            · subst e1;omega
            · have:=mono (k - i) i (by omega) (by omega);rw [show i+(k - i)=k by omega] at this;omega
          · by_cases e1:i=k+1
            · subst e1;omega
            · have:=mono (i - (k+1)) (k+1) (by omega) (by omega);rw [show k+1+(i - (k+1))=i by omega] at this;omega
      have:=e (g (k+1) - (g k+1)) (by omega)
      rwa [show g k+1+(g (k+1) - (g k+1))=g (k+1) by omega] at this
  have hSg:∀ i,i<m→S (g i)=true:=fun i hi=>(hS _ (hn i hi)).2 ⟨i,hi,rfl⟩;refine ⟨?_,fun i hi=>?_⟩
  · by_cases h0:m=0
    · subst h0
      have e:∀ j,j≤n→cnt S j=0:=by
        intro j
        induction j with
        | zero=>intro _;rfl
        | succ j ih =>
          intro hj;rw [cnt_no,ih (by omega)];intro hs;obtain ⟨i,hi,_⟩:=(hS j (by omega)).1 hs
          omega
      exact e n (Nat.le_refl _)
    · have h1:=key (m - 1) (by omega)
      have h2:=cnt_lt (hSg (m - 1) (by omega)) (hn (m - 1) (by omega))
      by_cases h3:cnt S n≤m
      · omega
      · obtain ⟨j,hj,hs,hc⟩:=cnt_ex (S:=S) (n:=n) (k:=m) (by omega)
        obtain ⟨i,hi,he⟩:=(hS j hj).1 hs;have:=key i hi;rw [he] at this;omega
  · have:=asc_at (hSg i hi) (hn i hi)
    rw [key i hi] at this;exact this.symm
end Go.Sw
namespace Go.Sw
open Go Go.RowKit Go.Ech
def isF (l:Nat→Nat) (i:Nat):Bool:=decide (∀ k,k<i→l k≠l i)
def dif (l:Nat→Nat) (N:Nat):Nat:=cnt (isF l) N
def joinL (l:Nat→Nat) (a b c:Nat):Nat:=if l c=l b then l a else l c
structure UF (N:Nat) (par rt dp:Nat→Nat):Prop where
  pl:∀ c,c<N→par c<N
  rl:∀ c,c<N→rt c<N
  rr:∀ c,c<N→par (rt c)=rt c
  rp:∀ c,c<N→rt (par c)=rt c
  r0:∀ c,c<N→par c=c→rt c=c
  dl:∀ c,c<N→par c≠c→dp (par c)<dp c
def rtU (rt:Nat→Nat) (a b c:Nat):Nat:=if rt c=a then b else rt c
def dpU (rt dp:Nat→Nat) (a b c:Nat):Nat:=if rt c=a then dp c+dp b+1 else dp c
def endK (K:Nat→Int) (x:Nat):Nat:=if 0<K x then 2*(K x).natAbs - 1 else 2*(K x).natAbs - 2
def begK (K:Nat→Int) (x:Nat):Nat:=if 0<K x then 2*(K x).natAbs - 2 else 2*(K x).natAbs - 1
def ldS (K:Nat→Int):Nat→Nat→Nat
  | 0,c=>c
  | x+1,c=>joinL (ldS K x) (endK K x) (begK K (nxt x)) c
def tipV (par tb:Nat→Nat) (c:Nat):Value:=if par c=c then .pointer none else ptr (tb (par c)) 0
structure Tp (D:Froz) (N:Nat) (tb par:Nat→Nat):Prop where
  mem:∀ c,c<N→(tb c,#[tipV par tb c])∈D
  inj:∀ c d,c<N→d<N→tb c=tb d→c=d
structure Gs (D:Froz) (lo N:Nat) (K:Nat→Int) (tw:Nat→Nat) (q u t:Nat) (τ σ φ ψ:Nat→Nat):Prop where
  sid:∀ x,x<q→(σ x,SC K tw τ σ φ ψ q u x)∈D
  tri:∀ i,i<t→(τ i,TCv σ i)∈D
end Go.Sw
namespace Go.Sw
open Go Go.RowKit Go.Ech
section
variable {P : Program} {n : Nat} {F : List (Nat × Value)} {a : Act} {w : World} {d : Option Tmp} {t T T' : TypeId} {pos : String} {af : Array Edge} {gd : Option (Nat × Bool)} {x y : Operand} {par tb : Nat → Nat} {c : Nat} {e : TypeId}
end
end Go.Sw
