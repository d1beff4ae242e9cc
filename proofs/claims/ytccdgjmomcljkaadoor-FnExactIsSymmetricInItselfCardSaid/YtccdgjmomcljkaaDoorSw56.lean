import Derived.Test.YtccdgjmomcljkaaDoorEch6
import Derived.Test.YtccdgjmomcljkaaDoorSw47
import Derived.Test.YtccdgjmomcljkaaDoorSw9
import Derived.Test.YtccdgjmomcljkaaDoorSw14
import Derived.Recover
import Derived.Test.YtccdgjmomcljkaaDoorSw19
import Derived.DeepKeys4
import Derived.Test.YtccdgjmomcljkaaDoorSw6
set_option linter.unusedVariables false
set_option linter.unusedSimpArgs false
namespace Go.Ech
open Go.Sw
theorem sI_sub' (f g:Nat→Int)(n:Nat):sI (fun i=>f i - g i) n=sI f n - sI g n:=by
  have:=sI_add (fun c=>f c - g c) g n;rw [show (fun i=>(f i - g i)+g i)=f from by funext i;omega] at this;omega
theorem sI_mod {p:Nat}{f g h:Nat→Int}{n:Nat}(e:∀ i,i<n→(p:Int)∣g i - h i):(p:Int)∣sI (fun i=>f i*g i) n - sI (fun i=>f i*h i) n:=by
  rw [← sI_sub'];exact sI_dvd fun i hi=>by rw [← Int.mul_sub];exact Int.dvd_mul_of_dvd_right (e i hi)
end Go.Ech
namespace Go.Ech
open Go.Sw
def sol (p:Nat) (E:Nat→Nat→Nat) (k:Nat) (ld:Nat→Nat) (c d:Nat):Nat:=if d=c then 1 else match ldAt k ld d with
  | some j=>(p - E j c)%p
  | none=>0
theorem sol_lt {p k c d:Nat}{E:Nat→Nat→Nat}{ld:Nat→Nat}(hp:2≤p):sol p E k ld c d<p:=by
  unfold sol
  split
  · omega
  · cases ldAt k ld d with
    | none=>show 0<p;omega
    | some j=>exact Nat.mod_lt _ (by omega)
def nf (k:Nat) (ld:Nat→Nat):Nat→Nat
  | 0=>0
  | c+1=>if isLd k ld c then nf k ld c else nf k ld c+1
theorem nf_le {k:Nat}{ld:Nat→Nat}:∀ c,nf k ld c≤c
  | 0=>Nat.le_refl _
  | c+1=>by have:=nf_le (k:=k) (ld:=ld) c;rw [nf];split<;>omega
theorem nf_free {k c:Nat}{ld:Nat→Nat}(h:¬ isLd k ld c):nf k ld (c+1)=nf k ld c+1:=by rw [nf,if_neg h]
theorem nf_lead {k c:Nat}{ld:Nat→Nat}(h:isLd k ld c):nf k ld (c+1)=nf k ld c:=by rw [nf,if_pos h]
theorem nf_mono {k:Nat}{ld:Nat→Nat}{c d:Nat}(h:c≤d):nf k ld c≤nf k ld d:=by
  induction d with
  | zero=>rw [show c=0 by omega];exact Nat.le_refl _
  | succ d ih =>
    by_cases e:c=d+1
    · rw [e];exact Nat.le_refl _
    · have:=ih (by omega)
      rw [nf];split<;>omega
theorem nf_lt {k:Nat}{ld:Nat→Nat}{c d:Nat}(h:c<d)(hf:¬ isLd k ld c):nf k ld c<nf k ld d:=by
  have:=nf_mono (k:=k) (ld:=ld) (show c+1≤d by omega);rw [nf_free hf] at this;omega
theorem nf_at {k:Nat}{ld:Nat→Nat}:∀ (n a:Nat),a<nf k ld n→∃ c,c<n∧¬ isLd k ld c∧nf k ld c=a
  | 0,a,h=>absurd h (by rw [nf];omega)
  | n + 1, a, h => by
    by_cases hl:isLd k ld n
    · have h':a<nf k ld n:=by rw [← nf_lead hl];exact h
      obtain ⟨c,h1,h2,h3⟩:=nf_at n a h'
      exact ⟨c,by omega,h2,h3⟩
    · have h':a<nf k ld n+1:=by rw [← nf_free hl];exact h
      by_cases e:a=nf k ld n
      · exact ⟨n,by omega,hl,e.symm⟩
      · obtain ⟨c,h1,h2,h3⟩:=nf_at (k:=k) (ld:=ld) n a (by omega)
        exact ⟨c,by omega,h2,h3⟩
def SolR (p n:Nat) (E:Nat→Nat→Nat) (k:Nat) (ld:Nat→Nat) (S:Nat→Nat→Nat):Prop:=∀ c,c<n→¬ isLd k ld c→∀ d,S (nf k ld c) d=sol p E k ld c d
theorem ker_S {p n N k:Nat}{E S:Nat→Nat→Nat}{ld:Nat→Nat}{x:Nat→Int}(hS:SolR p n E k ld S):Ker p N S (nf k ld n) x↔∀ c,c<n→¬ isLd k ld c→(p:Int)∣dot N (ci (sol p E k ld c)) x:=by
  have e:∀ c,c<n→¬ isLd k ld c→ci (S (nf k ld c))=ci (sol p E k ld c):=fun c hc hf=>by
    funext d;unfold ci;rw [hS c hc hf d]
  constructor
  · intro h c hc hf
    have:=h _ (nf_lt hc hf)
    rwa [e c hc hf] at this
  · intro h a ha
    obtain ⟨c,hc,hf,rfl⟩:=nf_at n a ha;rw [e c hc hf];exact h c hc hf
theorem solR_ex {p n k:Nat}{E:Nat→Nat→Nat}{ld:Nat→Nat}(hp:2≤p):∃ S,SolR p n E k ld S∧∀ a d,S a d<p:=by
  refine ⟨fun a d=>if h:∃ c,c<n∧¬ isLd k ld c∧nf k ld c=a then sol p E k ld (Classical.choose h) d else 0,fun c hc hf d=>?_,fun a d=>?_⟩
  · have hx:∃ c',c'<n∧¬ isLd k ld c'∧nf k ld c'=nf k ld c:=⟨c,hc,hf,rfl⟩
    dsimp only
    rw [dif_pos hx];have hs:=Classical.choose_spec hx;have:Classical.choose hx=c:=by
      rcases Nat.lt_trichotomy (Classical.choose hx) c with h | h | h
      · have:=nf_lt (k:=k) (ld:=ld) h hs.2.1;omega
      · exact h
      · have:=nf_lt (k:=k) (ld:=ld) h hf;omega
    rw [this]
  · dsimp only
    split
    · exact sol_lt hp
    · omega
def IsKer (p n:Nat) (M:Nat→Nat→Nat) (m r:Nat) (V:Nat→Nat→Nat):Prop:=∃ (k:Nat) (E:Nat→Nat→Nat) (ld ld2:Nat→Nat),Rref p n E k ld∧(∀ x,Ker p n E k x↔Ker p n M m x)∧Rref p n V r ld2∧
  ∀ x,Ker p n V r x↔∀ c,c<n→¬ isLd k ld c→(p:Int)∣dot n (ci (sol p E k ld c)) x
theorem isKer_of {p n m k r:Nat}{M E S V:Nat→Nat→Nat}{ld ld2:Nat→Nat}(h:Rref p n E k ld)(hk:∀ x,Ker p n E k x↔Ker p n M m x)(hS:SolR p n E k ld S)(h2:Rref p n V r ld2)(hk2:∀ x,Ker p n V r x↔Ker p n S (nf k ld n) x):IsKer p n M m r V:=
  ⟨k,E,ld,ld2,h,hk,h2,fun x=>(hk2 x).trans (ker_S hS)⟩
theorem isKer_exists {p n m:Nat}{M:Nat→Nat→Nat}(hp:primeN p)(hM:∀ i c,M i c<p):∃ r V,IsKer p n M m r V:=by
  obtain ⟨k,E,ld,h,_,hk⟩:=rref_exists (N:=n) (m:=m) hp hM;obtain ⟨S,hS,hSp⟩:=solR_ex (p:=p) (n:=n) (k:=k) (E:=E) (ld:=ld) hp.two;obtain ⟨r,V,ld2,h2,_,hk2⟩:=rref_exists (N:=n) (m:=nf k ld n) hp hSp;exact ⟨r,V,isKer_of h hk hS h2 hk2⟩
theorem isLd_congr {k:Nat}{ld ld':Nat→Nat}(e:∀ i,i<k→ld i=ld' i)(c:Nat):isLd k ld c↔isLd k ld' c:=
  ⟨fun ⟨i,hi,h⟩=>⟨i,hi,by rw [← e i hi];exact h⟩,fun ⟨i,hi,h⟩=>⟨i,hi,by rw [e i hi];exact h⟩⟩
theorem ldAt_congr {k:Nat}{ld ld':Nat→Nat}(e:∀ i,i<k→ld i=ld' i)(d:Nat):ldAt k ld d=ldAt k ld' d:=by
  unfold ldAt
  have:∀ l:List Nat,(∀ i∈l,i<k)→l.find? (fun i=>ld i == d)=l.find? (fun i=>ld' i == d):=by
    intro l
    induction l with
    | nil=>intro _;rfl
    | cons a l ih =>
      intro h;rw [List.find?_cons,List.find?_cons,e a (h a (List.mem_cons_self ..)),ih (fun i hi=>h i (List.mem_cons_of_mem _ hi))]
  exact this _ (fun i hi=>List.mem_range.1 hi)
theorem nf_congr {k:Nat}{ld ld':Nat→Nat}(e:∀ i,i<k→ld i=ld' i):∀ c,nf k ld c=nf k ld' c
  | 0=>rfl
  | c + 1 => by
    by_cases h:isLd k ld c
    · rw [nf_lead h,nf_lead ((isLd_congr e c).1 h),nf_congr e c]
    · rw [nf_free h,nf_free (fun h2=>h ((isLd_congr e c).2 h2)),nf_congr e c]
theorem sol_congr {p n k:Nat}{E E':Nat→Nat→Nat}{ld ld':Nat→Nat}(e:∀ i,i<k→ld i=ld' i)(eE:∀ i,i<k→∀ c,c<n→E i c=E' i c){c:Nat}(hc:c<n)(d:Nat):sol p E k ld c d=sol p E' k ld' c d:=by
  unfold sol
  rw [ldAt_congr e d]
  split
  · rfl
  · cases h:ldAt k ld' d with
    | none=>rfl
    | some j=>dsimp only;rw [eE j (ldAt_some h).1 c hc]
theorem IsKer.unique {p n m r r':Nat}{M V V':Nat→Nat→Nat}(hp:2≤p)(h:IsKer p n M m r V)(h':IsKer p n M m r' V'):r=r'∧∀ i,i<r→∀ c,c<n→V i c=V' i c:=by
  obtain ⟨k,E,ld,ld2,h1,h2,h3,h4⟩:=h;obtain ⟨k',E',ld',ld2',h1',h2',h3',h4'⟩:=h';obtain ⟨rfl,e1,e2⟩:=rref_unique hp h1 h1' (fun x=>(h2 x).trans (h2' x).symm);have e3:∀ x,Ker p n V r x↔Ker p n V' r' x:=fun x=>by
    rw [h4 x,h4' x];have es:∀ c,c<n→ci (sol p E k ld c)=ci (sol p E' k ld' c):=fun c hc=>by
      funext d;unfold ci;rw [sol_congr e1 e2 hc d]
    exact ⟨fun q c hc hf=>by rw [← es c hc];exact q c hc (fun hl=>hf ((isLd_congr e1 c).1 hl)),fun q c hc hf=>by rw [es c hc];exact q c hc (fun hl=>hf ((isLd_congr e1 c).2 hl))⟩
  obtain ⟨er,_,eV⟩:=rref_unique hp h3 h3' e3;exact ⟨er,eV⟩
theorem dot_pad {n N:Nat}{r:Nat→Nat}{x:Nat→Int}(hn:n≤N)(h:∀ c,n≤c→c<N→r c=0):dot N (ci r) x=dot n (ci r) x:=by
  obtain ⟨q,rfl⟩:∃ q,N=n+q:=⟨N - n,by omega⟩
  unfold dot
  rw [sI_split,sI_zero (f:=fun i=>ci r (n+i)*x (n+i)) (fun i hi=>by unfold ci;rw [h (n+i) (by omega) (by omega)];simp)]
  omega
theorem ker_pad {p n N m:Nat}{M:Nat→Nat→Nat}{x:Nat→Int}(hn:n≤N)(h:∀ i,i<m→∀ c,n≤c→c<N→M i c=0):Ker p N M m x↔Ker p n M m x:=
  ⟨fun q i hi=>by rw [← dot_pad hn (h i hi)];exact q i hi,fun q i hi=>by rw [dot_pad hn (h i hi)];exact q i hi⟩
theorem dot_same {n:Nat}{r s:Nat→Nat}{x:Nat→Int}(h:∀ c,c<n→r c=s c):dot n (ci r) x=dot n (ci s) x:=
  sI_congr fun c hc=>by unfold ci;rw [h c hc]
def padN (n:Nat) (E:Nat→Nat→Nat) (i c:Nat):Nat:=if c<n then E i c else 0
theorem padN_lt {n:Nat}{E:Nat→Nat→Nat}{i c:Nat}(h:c<n):padN n E i c=E i c:=if_pos h
theorem padN_ge {n:Nat}{E:Nat→Nat→Nat}{i c:Nat}(h:n≤c):padN n E i c=0:=if_neg (by omega)
theorem rref_pad {p n N m k:Nat}{M E:Nat→Nat→Nat}{ld:Nat→Nat}(hp:primeN p)(hn:n≤N)(hM:∀ i c,M i c<p)(hM0:∀ i,i<m→∀ c,n≤c→c<N→M i c=0)(h:Rref p N E k ld)(hk:∀ x,Ker p N E k x↔Ker p N M m x) :
    Rref p n E k ld∧(∀ x,Ker p n E k x↔Ker p n M m x)∧∀ i,i<k→∀ c,n≤c→c<N→E i c=0:=by
  obtain ⟨k0,E0,ld0,h0,_,hk0⟩:=rref_exists (N:=n) (m:=m) hp hM;have hP:Rref p N (padN n E0) k0 ld0:={
    lt:=fun i hi=>Nat.lt_of_lt_of_le (h0.lt i hi) hn
    mono:=h0.mono
    one:=fun i hi=>by rw [padN_lt (h0.lt i hi)];exact h0.one i hi
    left:=fun i hi c hc=>by
      have:=h0.lt i hi;rw [padN_lt (by omega)];exact h0.left i hi c hc
    zero:=fun i j hi hj hne=>by rw [padN_lt (h0.lt i hi)];exact h0.zero i j hi hj hne
    small:=fun i hi c hc=>by
      by_cases hcn:c<n
      · rw [padN_lt hcn];exact h0.small i hi c hcn
      · rw [padN_ge (by omega)];have:=hp.two;omega }
  have hPk:∀ x,Ker p N (padN n E0) k0 x↔Ker p n E0 k0 x:=fun x=>by
    rw [ker_pad hn (fun i hi c hc _=>padN_ge hc)];exact ⟨fun q i hi=>by rw [← dot_same (r:=padN n E0 i) (fun c hc=>padN_lt hc)];exact q i hi,fun q i hi=>by rw [dot_same (s:=E0 i) (fun c hc=>padN_lt hc)];exact q i hi⟩
  obtain ⟨rfl,e1,e2⟩:=rref_unique hp.two h hP (fun x=>by rw [hk,hPk,hk0,ker_pad hn hM0]);have z:∀ i,i<k→∀ c,n≤c→c<N→E i c=0:=fun i hi c hc hcN=>by rw [e2 i hi c hcN,padN_ge hc]
  refine ⟨{
    lt:=fun i hi=>by rw [e1 i hi];exact h0.lt i hi
    mono:=h.mono
    one:=h.one
    left:=h.left
    zero:=h.zero
    small:=fun i hi c hc=>h.small i hi c (by omega) },fun x=>?_,z⟩
  rw [← ker_pad hn z,hk,ker_pad hn hM0]
def lv (ld:Nat→Nat) (q c:Nat):Nat:=match ldAt q ld c with
  | some j=>j+1
  | none=>0
theorem lv_le {ld:Nat→Nat}{q c:Nat}:lv ld q c≤q:=by
  unfold lv
  cases h:ldAt q ld c with
  | none=>exact Nat.zero_le _
  | some j=>exact (ldAt_some h).1
theorem lv_pos {ld:Nat→Nat}{q c:Nat}:0<lv ld q c↔isLd q ld c:=by
  unfold lv
  cases h:ldAt q ld c with
  | none=>exact ⟨fun q=>absurd q (Nat.lt_irrefl 0),fun ⟨i,hi,e⟩=>absurd e (ldAt_none h i hi)⟩
  | some j=>exact ⟨fun _=>⟨j,ldAt_some h⟩,fun _=>Nat.succ_pos _⟩
theorem ldAt_succ {ld:Nat→Nat}{q c:Nat}:ldAt (q+1) ld c=(ldAt q ld c).or (if ld q=c then some q else none):=by
  unfold ldAt
  rw [List.range_succ,List.find?_append]
  by_cases e:ld q=c
  · simp [e]
  · simp [e]
theorem lv_step {p N k q:Nat}{E:Nat→Nat→Nat}{ld:Nat→Nat}(h:Rref p N E k ld)(hq:q<k)(c:Nat):lv ld (q+1) c=if c=ld q then q+1 else lv ld q c:=by
  unfold lv
  rw [ldAt_succ]
  by_cases e:c=ld q
  · subst e
    have:ldAt q ld (ld q)=none:=by
      cases h2:ldAt q ld (ld q) with
      | none=>rfl
      | some j=>have:=ldAt_some h2;have:=h.mono j q this.1 hq;omega
    rw [this];simp
  · have e2:¬ ld q=c:=fun x=>e x.symm
    rw [if_neg e,if_neg e2];simp
theorem sol_lead {p k c d:Nat}{E:Nat→Nat→Nat}{ld:Nat→Nat}(h:0<lv ld k d)(hne:d≠c):sol p E k ld c d=(p - E (lv ld k d - 1) c)%p:=by
  unfold sol
  rw [if_neg hne]
  unfold lv at h ⊢
  cases h2:ldAt k ld d with
  | none=>rw [h2] at h;exact absurd h (by simp)
  | some j=>rfl
theorem sol_free {p k c d:Nat}{E:Nat→Nat→Nat}{ld:Nat→Nat}(h:¬ 0<lv ld k d):sol p E k ld c d=if d=c then 1 else 0:=by
  unfold sol
  split
  · rfl
  · unfold lv at h
    cases h2:ldAt k ld d with
    | none=>rfl
    | some j=>rw [h2] at h;exact absurd (Nat.succ_pos j) h
theorem neg_mod {p x:Nat}(hp:0<p)(hx:x≤p):(-(x:Int))%(p:Int)=(((p - x)%p:Nat):Int):=by
  rw [Int.natCast_emod,Int.natCast_sub hx,← Int.add_emod_left (p:Int) (-(x:Int))]
  rfl
end Go.Ech
namespace Go.Sw
open Go Go.RowKit Go.Ech
theorem Blk.same {w:World}{b:Nat}{cs ds:Array Value}(h:Blk w b cs)(h2:Blk w b ds):cs=ds:=by
  obtain ⟨t1,h1⟩:=h;obtain ⟨t2,h3⟩:=h2;rw [h1] at h3;simp only [Option.some.injEq,Obj.cells.injEq] at h3;exact h3.1
theorem RowsOut.last {w w1 w2:World}{N k:Nat}{f:Nat→Nat→Value}{u:Value}(h:RowsOut w w1 N k f u)(hx:Ext w1 w2):RowsOut w w2 N k f u:=by
  obtain ⟨D,β,κ,C,b,cap,cs,h1,h2⟩:=h;exact ⟨D,β,κ,C,b,cap,cs,fun x ds hm=>⟨(h1 x ds hm).1,(h1 x ds hm).2.ext hx⟩,h2⟩
theorem rowsOut_le {w0 w w':World}{N k:Nat}{f:Nat→Nat→Value}{u:Value}(hs:w0.heap.size≤w.heap.size)(h:RowsOut w w' N k f u):RowsOut w0 w' N k f u:=by
  obtain ⟨D,β,κ,C,b,cap,cs,h1,h2,h3,h4⟩:=h;exact ⟨D,β,κ,C,b,cap,cs,fun x ds hm=>⟨Nat.le_trans hs (h1 x ds hm).1,(h1 x ds hm).2⟩,h2,h3,h4⟩
def KRel (w0:World) (p N m:Nat) (M:Nat→Nat→Nat) (u:Value) (w':World):Prop:=∃ k E ld,Rref p N E k ld∧(∀ x,Ker p N E k x↔Ker p N M m x)∧(∀ i c,E i c<p)∧k≤m∧RowsOut w0 w' N k (fun i c=>.int .i64 (E i c:Int)) u
theorem KRel.last {w0 w w':World}{p N m:Nat}{M:Nat→Nat→Nat}{u:Value}(h:KRel w0 p N m M u w)(hx:Ext w w'):KRel w0 p N m M u w':=by
  obtain ⟨k,E,ld,h1,h2,h3,h4,h5⟩:=h;exact ⟨k,E,ld,h1,h2,h3,h4,h5.last hx⟩
theorem KRel.of {X:List Nat}{w0 w w':World}{L:Own}{D:Froz}{p N m:Nat}{M:Nat→Nat→Nat}{u:Value}(hM:MemX X w0 w L D)(h:∃ k E ld,Rref p N E k ld∧(∀ x,Ker p N E k x↔Ker p N M m x)∧(∀ i c,E i c<p)∧k≤m∧RowsOut w w' N k (fun i c=>.int .i64 (E i c:Int)) u):KRel w0 p N m M u w':=by
  obtain ⟨k,E,ld,h1,h2,h3,h4,h5⟩:=h;exact ⟨k,E,ld,h1,h2,h3,h4,rowsOut_le hM.bel.size h5⟩
def EmpN (w0:World) (u:Value) (w':World):Prop:=∃ b,u = .slice (some ⟨b,0,none⟩) 0 0∧Blk w' b #[]∧w0.heap.size≤b
theorem EmpN.last {w0 w w':World}{u:Value}(h:EmpN w0 u w)(hx:Ext w w'):EmpN w0 u w':=by
  obtain ⟨b,h1,h2,h3⟩:=h;exact ⟨b,h1,h2.ext hx,h3⟩
theorem EmpN.build {P:Program}{o:Oper}{a:Act}{w0 w:World}{L:Own}{D:Froz}{k:Nat}(hk:k<L.length)(hg:Does P o a w (fun u w'=>∃ b,u = .slice (some ⟨b,0,none⟩) 0 0∧Mem w0 w' (L.set k (some (b,#[]))) D∧Ext w w')):Does P o a w (fun u w'=>Ext w w'∧EmpN w0 u w'):=
  hg.mono fun u w' ⟨b,h1,hM,hx⟩=>by
    have e:(L.set k (some (b,#[])))[k]? = some (some (b,#[])):=by rw [List.getElem?_set,if_pos rfl,if_pos hk]
    exact ⟨hx,b,h1,hM.row k e,hM.ge k e⟩
theorem MemX.addD0 {X:List Nat}{w0 w:World}{L:Own}{D D1:Froz}(h:MemX X w0 w L D)(h1:∀ c ds,(c,ds)∈D1→Blk w c ds∧∀ (j:Nat) e es,L[j]? = some (some (e,es))→e≠c):MemX X w0 w L (D1++D):=
  ⟨h.bel,h.blk,h.apart,fun c ds hm=>by
    rcases List.mem_append.1 hm with hm | hm
    · exact h1 c ds hm
    · exact h.froz c ds hm⟩
theorem MemX.putN {X:List Nat}{w0 w:World}{L:Own}{D:Froz}{b:Nat}{cs:Array Value}(k:Nat)(h:MemX X w0 w L D)(hb:Blk w b cs)(hge:w0.heap.size≤b)(hL:∀ (j:Nat) c ds,L[j]? = some (some (c,ds))→c≠b)(hD:∀ c ds,(c,ds)∈D→c≠b):MemX X w0 w (L.set k (some (b,cs))) D:=by
  have key:∀ (j:Nat) c ds,(L.set k (some (b,cs)))[j]? = some (some (c,ds))→(j=k∧c=b∧ds=cs)∨(j≠k∧L[j]? = some (some (c,ds))):=by
    intro j c ds hj;rw [List.getElem?_set] at hj
    split at hj
    · split at hj
      · simp only [Option.some.injEq,Prod.mk.injEq] at hj;rename_i e _;exact .inl ⟨e.symm,hj.1.symm,hj.2.symm⟩
      · cases hj
    · rename_i e;exact .inr ⟨fun e2=>e e2.symm,hj⟩
  refine ⟨h.bel,fun j c ds hj=>?_,fun i j c es ds hi hj=>?_,fun c ds hc=>⟨(h.froz c ds hc).1,fun j e es hj=>?_⟩⟩
  · rcases key j c ds hj with ⟨_,rfl,rfl⟩ | ⟨_,hj⟩
    · exact ⟨.inl hge,hb⟩
    · exact h.blk j c ds hj
  · rcases key i c es hi with ⟨e1,e2,_⟩ | ⟨n1,hi⟩<;>rcases key j c ds hj with ⟨e3,e4,_⟩ | ⟨n2,hj⟩
    · omega
    · exact absurd e2 (hL j c ds hj)
    · exact absurd e4 (hL i c es hi)
    · exact h.apart i j c es ds hi hj
  · rcases key j e es hj with ⟨_,rfl,_⟩ | ⟨_,hj⟩
    · exact fun q=>hD c ds hc q.symm
    · exact (h.froz c ds hc).2 j e es hj
theorem kern_put {w0 w:World}{L:Own}{D0:Froz}{p n k:Nat}{E:Nat→Nat→Nat}{ld:Nat→Nat}{u ue:Value}(q:Nat)(h:Mem w0 w L D0)(hL:∀ (j:Nat) c ds,L[j]? = some (some (c,ds))→ds=numC n (fun _=>0))(hn0:0<n)(hE:Rref p n E k ld)
    (hr:RowsOut w0 w n k (fun i c=>.int .i64 (E i c:Int)) u) (he:EmpN w0 ue w) (hD0:∀ b cs,(b,cs)∈D0→Blk w0 b cs) :
    ∃ (D:Froz) (β κ:Nat→Nat) (C:Nat→Array Value) (ob oc:Nat) (ocs:Array Value) (be:Nat),RowsD (D++D0) n k β κ C (fun i c=>.int .i64 (E i c:Int))∧SlAt 1 u (some (ob,ocs)) k ob oc ocs (fun i=>.slice (some ⟨β i,0,none⟩) n (κ i))∧(0<k→(ob,ocs)∈D++D0)∧
      ue = .slice (some ⟨be,0,none⟩) 0 0∧Mem w0 w (L.set q (some (be,#[]))) (D++D0):=by
  obtain ⟨D',β,κ,C,ob,oc,ocs,h1,h2,h3,h4⟩:=hr;obtain ⟨be,rfl,hbe,hge⟩:=he;have hz:(numC n (fun _=>0)).size=n:=fnC_size _ _;have hrow:∀ i,i<k→0<(C i).size:=fun i hi=>by have:=(h2.sl i hi).sz;have:=(h2.sl i hi).le;omega
  have hlist:0<k→0<ocs.size:=fun hk=>by have:=h3.sz;have:=h3.le;omega
  have hrn:∀ i,i<k→C i≠numC n (fun _=>0):=fun i hi e=>by
    have g:=(h2.sl i hi).get (ld i) (by have:=hE.lt i hi;omega);rw [e,numC_get rfl (hE.lt i hi),hE.one i hi] at g
    simp at g
  have hln:0<k→ocs≠numC n (fun _=>0):=fun hk e=>by
    have g:=h3.get 0 (by omega);rw [e,numC_get rfl hn0] at g
    simp at g
  let D:Froz:=(if 0<k then [(ob,ocs)] else [])++(List.range k).map (fun i=>(β i,C i))
  have mem:∀ c ds,(c,ds)∈D→(0<k∧c=ob∧ds=ocs)∨∃ i,i<k∧c=β i∧ds=C i:=by
    intro c ds hm
    rcases List.mem_append.1 hm with hm | hm
    · split at hm
      · simp only [List.mem_singleton,Prod.mk.injEq] at hm;exact .inl ⟨by assumption,hm.1,hm.2⟩
      · cases hm
    · obtain ⟨i,hi,e⟩:=List.mem_map.1 hm
      simp only [Prod.mk.injEq] at e;exact .inr ⟨i,List.mem_range.1 hi,e.1.symm,e.2.symm⟩
  have hblk:∀ c ds,(c,ds)∈D→Blk w c ds∧0<ds.size∧ds≠numC n (fun _=>0):=by
    intro c ds hm
    rcases mem c ds hm with ⟨hk,rfl,rfl⟩ | ⟨i,hi,rfl,rfl⟩
    · exact ⟨(h1 _ _ h4).2,hlist hk,hln hk⟩
    · exact ⟨(h1 _ _ (h2.mem i hi)).2,hrow i hi,hrn i hi⟩
  have hM2:Mem w0 w L (D++D0):=h.addD0 fun c ds hm=>⟨(hblk c ds hm).1,fun j e es hj q=>by
    subst q;have:=(hL j e es hj).symm.trans (((h.blk j e es hj).2).same (hblk e ds hm).1);exact (hblk e ds hm).2.2 this.symm⟩
  have hrow2:∀ i,i<k→(β i,C i)∈D++D0:=fun i hi=>List.mem_append_left _ (List.mem_append_right _ (List.mem_map.2 ⟨i,List.mem_range.2 hi,rfl⟩));refine ⟨D,β,κ,C,ob,oc,ocs,be,⟨hrow2,h2.sl⟩,h3,fun hk=>List.mem_append_left _ (List.mem_append_left _ (by rw [if_pos hk];exact List.mem_singleton.2 rfl)),rfl,hM2.putN q hbe hge (fun j c ds hj e=>?_) (fun c ds hc e=>?_)⟩
  · subst e
    have e1:=((h.blk j c ds hj).2).same hbe;rw [hL j c ds hj] at e1;rw [e1] at hz
    simp at hz;omega
  · subst e
    rcases List.mem_append.1 hc with hc | hc
    · have e1:=(hblk c ds hc).1.same hbe
      have:=(hblk c ds hc).2.1;rw [e1] at this;simp at this
    · have:=(hD0 c ds hc).lt;omega
end Go.Sw
namespace Go.Sw
open Go Go.RowKit
variable {P : Program}
def addD (ds:List Deferred) (a:Act):Act:=⟨a.tmps,a.defers++ds⟩
section
variable {ds : List Deferred} {ops : Array Oper} {Q : Exit → Act → World → Prop} {n : Nat} {F : List (Nat × Value)} {a : Act} {w : World}
theorem addD_put (ds:List Deferred)(a:Act)(d:Option Tmp)(v:Value):(addD ds a).put d v=addD ds (a.put d v):=by cases d<;>rfl
theorem eval_addD (ds:List Deferred)(a:Act):(addD ds a).eval=a.eval:=by funext o;cases o<;>rfl
theorem upon_add {o:Oper}{K K':Act→World→Prop}(hK:∀ a w,K' a w→K (addD ds a) w)(r:Result Next)(h:o.upon P a K' (fun e a w=>Q e (addD ds a) w) r):o.upon P (addD ds a) K Q r:=by
  have hout:LetsOut (fun e a w=>Q e (addD ds a) w)→LetsOut Q:=fun ⟨a,w,h⟩=>⟨addD ds a,w,h⟩
  unfold Oper.upon at h ⊢
  split at h
  · rw [addD_put];exact hK _ _ h
  · rw [addD_put];exact hK _ _ h
  · rename_i d w'
    have:=hK _ _ h;rw [← addD_put] at this;exact this
  · refine h.mono fun e w'' hq=>?_
    cases e with
    | returned v =>
      show K ((addD ds a).put o.dst v) w''
      rw [addD_put];exact hK _ _ hq
    | panicked c=>exact hq
    | outgrown=>exact hout hq
  · exact h.mono fun v w'' hq=>by rw [addD_put];exact hK _ _ hq
  · exact h
  · rename_i h1 h2 h3 h4 h5 h6
    exact h.elim
theorem wpList_add:∀ (l:List Oper) (a:Act) (w:World),wpList P ops (fun e a w=>Q e (addD ds a) w) l a w→wpList P ops Q l (addD ds a) w
  | [],a,w,h=>h
  | o :: r, a, w, h => by
    have ih:=wpList_add r
    unfold wpList at h ⊢
    have e:yielded ops (addD ds a).tmps=yielded ops a.tmps:=rfl
    rw [e]
    split
    · rename_i hw
      rw [if_pos hw] at h
      rcases h with h | h
      · refine Or.inl ?_
        unfold Oper.wp at h ⊢
        rw [eval_addD]
        exact upon_add ih _ h
      · refine Or.inr ⟨?_,?_⟩
        · have:=h.1
          unfold Oper.asks at this ⊢
          rw [eval_addD];exact this
        · obtain ⟨a,w,h⟩:=h.2
          exact ⟨addD ds a,w,h⟩
    · rename_i hw
      rw [if_neg hw] at h
      rw [addD_put]
      exact ih _ _ h
theorem wp_regionD {id:Nat}{l:List Oper}(h:wpList P l.toArray (fun e a w=>Q e (addD ds a) w) l a w):(Code.region id l.toArray false).wp P Q (addD ds a) w:=wp_region_lit (wpList_add _ _ _ h)
theorem c_condBD {c:Operand}{x y:Code}{b:Bool}(hF:Fr n a F)(hc:look F c=some (.bool b))(h1:b=true→x.wp P Q (addD ds a) w)(h2:b=false→y.wp P Q (addD ds a) w):(Code.cond c x y).wp P Q (addD ds a) w:=
  wp_cond_split (by rw [eval_addD];exact hF.eval hc) h1 h2
theorem c_TD {c:Operand}{x y:Code}(hF:Fr n a F)(hc:look F c=some (.bool true))(h:x.wp P Q (addD ds a) w):(Code.cond c x y).wp P Q (addD ds a) w:=c_condBD hF hc (fun _=>h) (fun e=>by cases e)
theorem c_FlD {c:Operand}{x y:Code}(hF:Fr n a F)(hc:look F c=some (.bool false))(h:y.wp P Q (addD ds a) w):(Code.cond c x y).wp P Q (addD ds a) w:=c_condBD hF hc (fun e=>by cases e) (fun _=>h)
end
end Go.Sw
namespace Go.Sw
open Go Go.RowKit
variable {P : Program}
section
variable {n : Nat} {F : List (Nat × Value)} {a : Act} {w : World} {d : Option Tmp} {t : TypeId} {pos : String} {af : Array Edge} {gd : Option (Nat × Bool)} {T : TypeId} {x y : Operand}
theorem g_sliceNil {e:TypeId}{s:Nat}{κ:IntKind}{X:Int}(hT:P.underlying T=some (.slice e))(he:sizeP P e=some s)(hF:Fr n a F)(hx:look F x=some (.slice none 0 0))(hy:look F y=some (.int κ X))(hX:X=0) :
    Gives P ⟨d,.slice T x none (some y) none,t,pos,af,gd⟩ a w (.slice none 0 0):=by
  subst hX;refine gives_of_run ?_;have h2:=run_sizeOf he w
  simp [execOp,Instr.sliceAt,Instr.slice,run_underlying hT,hF.eval hx,hF.eval hy,Instr.sliceBounds,Instr.sliceBound,asIntOf,h2]
end
end Go.Sw
namespace Go.Sw
open Go Go.RowKit
def leafs (P:Program):Nat→TypeId→List IntKind→Bool
  | 0,_,_=>false
  | d + 1, t, ks =>
    match P.underlying t with
    | some (.int q)=>decide (ks=[q])
    | some (.array n e)=>Nat.beq ks.length (P.cellsOf t) && (List.range n).all fun i=>leafs P d e ((ks.drop (i*P.cellsOf e)).take (P.cellsOf e))
    | some (.struct fs) => Nat.beq ks.length (P.cellsOf t) && fs.all (·.name != "_") && fs.toList.all fun f => leafs P d f.type ((ks.drop f.offset).take (P.cellsOf f.type))
    | _=>false
def Leafy (cs:List Value) (ks:List IntKind):Prop:=cs.length=ks.length∧∀ (i:Nat) (q:IntKind),ks[i]? = some q→∃ x,cs[i]? = some (Value.int q x)∧(Lit.int q x).wf=true
theorem Leafy.part {cs:List Value}{ks:List IntKind}(h:Leafy cs ks)(o l:Nat):Leafy ((cs.drop o).take l) ((ks.drop o).take l):=
  ⟨by simp [h.1],fun i q hi=>by
    rw [List.getElem?_take] at hi ⊢
    split at hi
    · rename_i hl
      rw [if_pos hl,List.getElem?_drop]
      rw [List.getElem?_drop] at hi
      exact h.2 _ q hi
    · cases hi⟩
theorem mapM_some {α β:Type}{f:α→Option β}:∀ {l:List α},(∀ x∈l,∃ y,f x=some y)→∃ ys,l.mapM f=some ys
  | [],_=>⟨[],rfl⟩
  | x :: r, h => by
    obtain ⟨y,hy⟩:=h x (by simp)
    obtain ⟨ys,hys⟩:=mapM_some (l:=r) fun z hz=>h z (by simp [hz])
    exact ⟨y::ys,by simp [List.mapM_cons,hy,hys]⟩
theorem leafs_lits {P:Program}:∀ (d:Nat) (t:TypeId) (ks:List IntKind) (cs:List Value),leafs P d t ks=true→Leafy cs ks→∃ l,P.keyLits d t cs=some l
  | 0,_,_,_,h,_=>by simp [leafs] at h
  | d + 1, t, ks, cs, h, hl => by
    unfold leafs at h
    unfold Program.keyLits
    cases hu:P.underlying t with
    | none=>simp [hu] at h
    | some dd =>
      cases dd
      case int q=>
        simp only [hu,decide_eq_true_eq] at h
        subst h
        obtain ⟨x,hx,hw⟩:=hl.2 0 q rfl
        have h1:=hl.1
        match cs,h1,hx with
        | [c], _, hx =>
          simp at hx;subst hx
          exact ⟨[.int q x],by simp [hw]⟩
      case array n e=>
        simp only [hu,Bool.and_eq_true,List.all_eq_true,List.mem_range] at h
        have h1:=Nat.eq_of_beq_eq_true h.1
        obtain ⟨ys,hys⟩:=mapM_some (l:=List.range n) (f:=fun i=>P.keyLits d e ((cs.drop (i*P.cellsOf e)).take (P.cellsOf e))) fun i hi=>
          leafs_lits d e _ _ (h.2 i (by simpa using hi)) (hl.part _ _)
        refine ⟨ys.flatten,?_⟩
        simp only
        rw [if_pos (hl.1.trans h1),hys];rfl
      case struct fs=>
        simp only [hu,Bool.and_eq_true,List.all_eq_true] at h
        have h1:=Nat.eq_of_beq_eq_true h.1.1
        obtain ⟨ys,hys⟩:=mapM_some (l:=fs.toList) (f:=fun f=>P.keyLits d f.type ((cs.drop f.offset).take (P.cellsOf f.type))) fun f hf=>
          leafs_lits d f.type _ _ (h.2 f hf) (hl.part _ _)
        refine ⟨ys.flatten,?_⟩
        simp only
        rw [if_pos ⟨hl.1.trans h1,h.1.2⟩,hys];rfl
      all_goals simp [hu] at h
def wideB (P:Program) (k:TypeId):Bool:=match P.underlying k with | some (.array _ _) | some (.struct _)=>true | _=>false
theorem keyOf_leafs {P:Program}{k:TypeId}{ks:List IntKind}{cs:Array Value}(hw:wideB P k=true)(hk:P.keyType k=true)(hl:leafs P (P.types.size+1) k ks=true)(hc:P.cellsOf k=ks.length)(h:Leafy cs.toList ks):∃ l,keyOf P k (.agg cs)=some l:=by
  obtain ⟨ls,hls⟩:=leafs_lits _ k ks cs.toList hl h;have hz:cs.size=P.cellsOf k:=by rw [hc,← h.1];simp
  unfold wideB at hw
  unfold keyOf
  cases hu:P.underlying k with
  | none=>simp [hu] at hw
  | some dd =>
    cases dd<;>simp [hu] at hw<;>exact ⟨_,by simp [hk,Value.formed,hu,hz,Value.cells,hls];rfl⟩
def IsMap (w:World) (b:Nat) (es:Array MapEntry) (c:Nat):Prop:=w.heap[b]? = some (.map es c)
theorem IsMap.ext {w w':World}{b:Nat}{es:Array MapEntry}{c:Nat}(h:IsMap w b es c)(hx:Ext w w'):IsMap w' b es c:=by
  have hlt:b<w.heap.size:=(Array.getElem?_eq_some_iff.1 h).1
  unfold IsMap
  rw [hx.block b hlt];exact h
theorem MemX.setMap {X:List Nat}{w0 w:World}{L:Own}{D:Froz}(h:MemX X w0 w L D){b:Nat}{es:Array MapEntry}{c:Nat}(hb:IsMap w b es c)(hge:w0.heap.size≤b)(o:Obj):MemX X w0 { w with heap:=w.heap.setIfInBounds b o } L D:=by
  have hne:∀ {q:Nat} {cs:Array Value},Blk w q cs→q≠b:=fun hq e=>by
    obtain ⟨t,ht⟩:=hq
    unfold IsMap at hb
    rw [e,hb] at ht;cases ht
  have hbl:∀ {q:Nat} {cs:Array Value},Blk w q cs→Blk { w with heap:=w.heap.setIfInBounds b o } q cs:=fun hq=>by
    have h1:=hne hq;obtain ⟨t,ht⟩:=hq;exact ⟨t,by show (w.heap.setIfInBounds b o)[_]? = _;rw [Array.getElem?_setIfInBounds_ne (Ne.symm h1)];exact ht⟩
  refine ⟨⟨h.bel.os,h.bel.tape,h.bel.output,by show _≤(w.heap.setIfInBounds b o).size;rw [Array.size_setIfInBounds];exact h.bel.size,fun k hk hX=>?_⟩,fun k q cs hq=>⟨(h.blk k q cs hq).1,hbl (h.blk k q cs hq).2⟩,h.apart,fun q cs hq=>⟨hbl (h.froz q cs hq).1,(h.froz q cs hq).2⟩⟩
  show (w.heap.setIfInBounds b o)[k]? = _
  rw [Array.getElem?_setIfInBounds_ne (by omega)];exact h.bel.block k hk hX
section
variable {P : Program} {n : Nat} {F : List (Nat × Value)} {a : Act} {w w0 : World} {d : Option Tmp} {t T kt et : TypeId} {pos : String} {af : Array Edge} {gd : Option (Nat × Bool)} {x y z : Operand} {X : List Nat} {L : Own} {D : Froz}
theorem d_makeMap (hM:MemX X w0 w L D):Does P ⟨d,.makeMap T none,t,pos,af,gd⟩ a w (fun u w'=>∃ b,u = .map (some b)∧MemX X w0 w' L D∧w0.heap.size≤b∧IsMap w' b #[] 0):=
  ⟨fun K Q hk=>by
    have h:=hk (.map (some w.heap.size)) (w.alloc (.map #[] 0)) ⟨_,rfl,hM.ext (Ext.alloc _ _),hM.bel.size,by unfold IsMap;show (w.heap.push _)[w.heap.size]? = _;simp⟩
    unfold Oper.wp execOp
    simp [Instr.makeMap]
    exact h⟩
theorem d_insert {b:Nat}{k v:Value}{l:Lit}(K:WideMaps.KeyLaw P kt)(hT:P.underlying T=some (.map kt et))(hM:MemX X w0 w L D)(hb:IsMap w b #[] 0)(hge:w0.heap.size≤b)(hF:Fr n a F)(hx:look F x=some (.map (some b)))(hy:look F y=some k)(hz:look F z=some v)(hk:keyOf P kt k=some l) :
    Does P ⟨d,.insert T x y z,t,pos,af,gd⟩ a w (fun _ w'=>MemX X w0 w' L D∧IsMap w' b #[{ key:=k,val:=v,born:=0 }] 1):=
  ⟨fun Kk Q hkk=>by
    have hlt:b<w.heap.size:=(Array.getElem?_eq_some_iff.1 hb).1
    have hf:(Instr.findKey kt k []).run P w = .ok none w:=by
      rcases K.find w hk [] (by simp) with h | ⟨j,e,_,h2,_⟩
      · exact h.1
      · simp at h2
    have hr:(Instr.mapUpdate T (.map (some b)) k v).run P w = .ok () { w with heap:=w.heap.setIfInBounds b (.map #[{ key:=k,val:=v,born:=0 }] 1) }:=by
      simp [Instr.mapUpdate,run_underlying hT,MapKept.run_getObj_map hb,K.check w false hk,hf,MapKept.run_setObj_map _ hb,Result.andThen]
    have h:=hkk undef _ ⟨hM.setMap hb hge (.map #[{ key:=k,val:=v,born:=0 }] 1),by unfold IsMap;show (w.heap.setIfInBounds b _)[b]? = _;simp [hlt]⟩
    unfold Oper.wp execOp
    simp [hF.eval hx,hF.eval hy,hF.eval hz,hr,Result.andThen]
    exact h⟩
theorem g_lookup1 {b c:Nat}{k k0:Value}{l l0:Lit}{v z0:Value}{p:Prop}[Decidable p](K:WideMaps.KeyLaw P kt)(hT:P.underlying T=some (.map kt et))(hz:zeroP P et=some z0)(hb:IsMap w b #[{ key:=k0,val:=v,born:=c }] 1)(hF:Fr n a F)(hx:look F x=some (.map (some b)))(hy:look F y=some k)(hk:keyOf P kt k=some l)(hk0:keyOf P kt k0=some l0)(hp:k0=k↔p) :
    Gives P ⟨d,.lookup T x y false,t,pos,af,gd⟩ a w (if p then v else z0):=by
  have hzr:(zeroValue et).run P w = .ok z0 w:=by
    unfold zeroP at hz
    cases hi:P.info? et with
    | none=>simp [hi] at hz
    | some i=>simp [hi] at hz;simp [zeroValue,typeInfo,hi,hz]
  rcases K.find w hk [{ key:=k0,val:=v,born:=c }] (by intro e he;simp at he;subst he;exact ⟨l0,hk0⟩) with ⟨h1,h2⟩ | ⟨j,e,h1,h2,h3⟩
  · have hne:¬ p:=fun hh=>h2 { key:=k0,val:=v,born:=c } (by simp) (hp.2 hh)
    rw [if_neg hne];exact gives_of_run (by simp [execOp,Instr.lookup,run_underlying hT,hF.eval hx,hF.eval hy,MapKept.run_getObj_map hb,K.check w _ hk,h1,hzr,Result.andThen])
  · have he:e={ key:=k0,val:=v,born:=c }:=by
      have:=List.mem_of_getElem? h2;simpa using this
    subst he;rw [if_pos (hp.1 h3)];exact gives_of_run (by simp [execOp,Instr.lookup,run_underlying hT,hF.eval hx,hF.eval hy,MapKept.run_getObj_map hb,K.check w _ hk,h1,Result.andThen])
end
end Go.Sw
namespace Go.Sw
open Go Go.RowKit
section
variable {P : Program} {X : List Nat} {w0 w : World} {D : Froz} {W : List Nat} {L0 L : Own} {kt : Nat} {csO csN : Array Value} {bb : Bool} {l : List Fact} {i : Nat} {o : Oper} {a : Act}
end
theorem leafy_alg {p n:Int}{T:Nat→Nat→Nat→Nat}{f:Nat→Nat}(hp:-9223372036854775808≤p∧p≤9223372036854775807)(hn:-9223372036854775808≤n∧n≤9223372036854775807)(hT:∀ i j k,T i j k≤255)(hf:∀ i,f i≤255) :
    Leafy (algC p n T f).toList (.i64::.i64::List.replicate 222 .u8):=by
  have w64:∀ {x:Int},-9223372036854775808≤x∧x≤9223372036854775807→(Lit.int .i64 x).wf=true:=fun {x} h=>by
    have e1:IntKind.i64.min = -9223372036854775808:=by decide
    have e2:IntKind.i64.max=9223372036854775807:=by decide
    simp [Lit.wf,e1,e2,h.1,h.2]
  have w8:∀ {x:Nat},x≤255→(Lit.int .u8 (x:Int)).wf=true:=fun {x} h=>by
    have e1:IntKind.u8.min=0:=by decide
    have e2:IntKind.u8.max=255:=by decide
    simp [Lit.wf,e1,e2];omega
  refine ⟨by rw [Array.length_toList,cells_size];simp only [List.length_cons,List.length_replicate],fun i q hi=>?_⟩;rw [Array.getElem?_toList]
  match i,hi with
  | 0,hi=>rw [List.getElem?_cons_zero] at hi;obtain rfl:=Option.some.inj hi;exact ⟨p,algC_p rfl,w64 hp⟩
  | 1,hi=>rw [List.getElem?_cons_succ,List.getElem?_cons_zero] at hi;obtain rfl:=Option.some.inj hi;exact ⟨n,algC_n rfl,w64 hn⟩
  | i + 2, hi =>
    have h2:=hi;rw [List.getElem?_cons_succ,List.getElem?_cons_succ,List.getElem?_replicate] at h2
    split at h2
    · rename_i hlt
      cases h2
      by_cases e:i<216
      · exact ⟨_,algC_T (i / 36) (i / 6%6) (i%6) (by omega) (by omega) (by omega) (by omega),w8 (hT _ _ _)⟩
      · exact ⟨_,algC_f (i - 216) (by omega) (by omega),w8 (hf _)⟩
    · cases h2
end Go.Sw
namespace Go.Sw
open Go Go.RowKit
variable {P : Program}
section
variable {ops : Array Oper} {Q : Exit → Act → World → Prop} {rest : List Oper} {n : Nat} {F : List (Nat × Value)} {a : Act} {w : World} {d : Option Tmp} {t : TypeId} {pos : String} {af : Array Edge} {gd : Option (Nat × Bool)}
theorem tP {M:Act→World→Prop}{c:List PanicEntry}(h:Q (.panic c) a w):Exit.then M Q (.panic c) a w:=h
theorem calls_frD {fn:Func}{f:FuncId}{c:Code}{R:Value→World→Prop}{N:Nat}(vs:List Value)(hf:P.funcs[f]? = some fn)(hb:fn.body=some c)(hN:fn.ntmps=N)(hn:Nat.ble vs.length N=true)
    (h:∀ a,Fr N a (argF vs 0)→c.wp P (bodyPostD P fn (fun e w'=>∃ v,e = .returned v∧Ext w w'∧R v w')) a w):CallsR P f vs.toArray w R:=by
  subst hN;exact calls_of_wp_defers hf hb (h _ (frameA vs rfl hn))
theorem g_makeFunc {fn:Fn}{x:Operand}{v:Value}(hF:Fr n a F)(hx:look F x=some v):Gives P ⟨d,.makeFunc fn #[] #[x],t,pos,af,gd⟩ a w (.func fn #[] #[v]):=
  gives_of_run (by simp [execOp,Instr.makeFunc,hF.eval hx])
theorem st_defer {fn:Fn}{cap:Array Value}{x:Operand}{ats:Array TypeId}(hF:Fr n a F)(hx:look F x=some (.func fn #[] cap))
    (h:∀ a',Fr n a' F→wpList P ops Q rest (addD [{ target:=.fn fn cap,args:=#[] }] a') w):wpList P ops Q (⟨none,.defer { callee:=.value x,args:=#[],argTypes:=ats },t,pos,af,none⟩::rest) a w:=
  wpList_plain rfl fun K hK=>by
    have hrun:(execOp a.eval ⟨none,.defer { callee:=.value x,args:=#[],argTypes:=ats },t,pos,af,none⟩).run P w = .ok (.defer { target:=.fn fn cap,args:=#[] }) w:=by
      simp [execOp,resolve,hF.eval hx,Deferred.ofValue]
    unfold Oper.wp
    rw [hrun];have h1:=hK _ _ (h a hF);have e:addD [{ target:=.fn fn cap,args:=#[] }] a=({ a with defers:={ target:=.fn fn cap,args:=#[] }::a.defers }:Act):=by
      unfold addD;rw [hF.defers];rfl
    rw [e] at h1;exact h1
theorem st_panic {x:Operand}{T:TypeId}{v:Value}(hF:Fr n a F)(hx:look F x=some (.iface T v))(h:Q (.panic [{ v:=.iface T v,recovered:=false }]) a w):wpList P ops Q (⟨none,.panic x,t,pos,af,none⟩::rest) a w:=
  wpList_plain rfl fun K hK=>by
    have hrun:(execOp a.eval ⟨none,.panic x,t,pos,af,none⟩).run P w = .halt (.panic (.iface T v)) w:=by
      simp [execOp,Instr.panic,goPanic,hF.eval hx]
    unfold Oper.wp
    rw [hrun];exact h
theorem d_callV {f:FuncId}{x:Operand}{cap:List Value}{xs:List Operand}{vs:List Value}{ats:Array TypeId}{R:Value→World→Prop}(hf:∀ args w,(callFunc f args).run P w = .ok (.enter f args) w)(hF:Fr n a F)(hfx:look F x=some (.func (.func f) #[] cap.toArray))(hx:looks F xs vs)(hc:CallsR P f (vs++cap).toArray w R) :
    Does P ⟨d,.call { callee:=.value x,args:=xs.toArray,argTypes:=ats },t,pos,af,gd⟩ a w (fun u w'=>Ext w w'∧R u w'):=
  ⟨fun K Q hk=>by
    have hrun:(execOp a.eval ⟨d,.call { callee:=.value x,args:=xs.toArray,argTypes:=ats },t,pos,af,gd⟩).run P w = .ok (.enter f (vs++cap).toArray) w:=by
      have e:(xs.toArray.map a.eval)=vs.toArray:=by rw [← hF.evals hx];simp
      simp [execOp,resolve,hF.eval hfx,Deferred.ofValue,invoke,e,hf]
    unfold Oper.wp
    rw [hrun]
    show Calls P f (vs++cap).toArray w _
    exact Calls.mono (show Calls P f (vs++cap).toArray w _ from hc) fun e w' ⟨v,he,h1,h2⟩=>by subst he;exact hk v w' ⟨h1,h2⟩⟩
theorem fin2D {fn:Func}{r s:ResultVar}{v u:Value}(hr:fn.results = #[r,s])(h1:resIs P a w r v)(h2:resIs P a w s u):(results fn a.tmps).run P w = .ok (.tuple #[v,u]) w:=by
  rw [results_eq,hr]
  simp [resIs_run h1,resIs_run h2]
def okA (tm:Array Value):List (Nat×Value)→Prop
  | []=>True
  | (t,v)::r=>tm.getD t undef=v∧okA tm r
theorem okA_get {tm:Array Value}:∀ {F:List (Nat×Value)},okA tm F→∀ t v,lk F t=some v→tm.getD t undef=v
  | [],_,_,_,h=>by cases h
  | (k, u) :: r, hs, t, v, h => by
    simp only [lk] at h
    by_cases e:k=t
    · subst e;simp at h;subst h;exact hs.1
    · rw [beqF e] at h;exact okA_get hs.2 t v h
theorem fr_lit {tm:Array Value}{F:List (Nat×Value)}(h:okA tm F):Fr tm.size ⟨tm,[]⟩ F:=⟨rfl,rfl,okA_get h⟩
theorem at_lit {l:List Oper}{tm:Array Value}{F:List (Nat×Value)}(h:∀ a,Fr tm.size a F→wpList P ops Q l a w)(hk:okA tm F):wpList P ops Q l ⟨tm,[]⟩ w:=h _ (fr_lit hk)
def Clo (P:Program) (f b:Nat) (u:FrameMode) (w:World) (c:Value):Prop:=
  CallsD P f #[ptr b 0] u w fun e u' w'=>(∃ v,e = .returned v)∧settle u' = .returning∧ExtX [b] w w'∧Blk w' b #[c]
theorem door_end {fn:Func}{f b:Nat}{u:FrameMode}{c:Value}{R:Ending→World→Prop}(hu:u≠.run)(hf:∀ args w,(callFunc f args).run P w = .ok (.enter f args) w)(hF:Fr n a F)(hc:Clo P f b u w c)
    (hres:∀ w',ExtX [b] w w'→Blk w' b #[c]→∃ v,(results fn a.tmps).run P w' = .ok v w'∧R (.returned v) w') :
    Leaves P fn (addD [{ target:=.fn (.func f) #[ptr b 0],args:=#[] }] a).tmps R (addD [{ target:=.fn (.func f) #[ptr b 0],args:=#[] }] a).defers u w:=by
  have e:(addD [{ target:=.fn (.func f) #[ptr b 0],args:=#[] }] a).defers=[{ target:=.fn (.func f) #[ptr b 0],args:=#[] }]:=by
    show a.defers++_=_;rw [hF.defers];rfl
  rw [e];refine leaves_cons hu (f:=f) (args:=#[ptr b 0]) (by simp [invoke,hf]) (hc.mono fun e u' w' ⟨⟨v,he⟩,hs,hx,hb⟩=>?_);subst he
  show Leaves P fn _ R [] (settle u') w'
  rw [hs];exact hres w' hx hb
end
end Go.Sw
namespace Go.Sw
open Go Go.RowKit
def lpC (p n:Int) (T:Nat→Nat→Nat→Nat) (f e:Nat→Nat):Array Value:=algC p n T f++vecC e
section
variable {p n : Int} {T : Nat → Nat → Nat → Nat} {f e : Nat → Nat}
end
end Go.Sw
