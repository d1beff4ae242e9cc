import Derived.Test.YtkcneleabbjkaaaEch7
import Derived.Recover
import Derived.DeepKeys4
import Derived.StringKeys
import Derived.Control
set_option linter.unusedVariables false
set_option linter.unusedSimpArgs false
namespace Go.Ech
open Go.Sw
def sol (p:Nat) (E:Nat->Nat->Nat) (k:Nat) (ld:Nat->Nat) (c d:Nat):Nat:=if d=c then 1 else match Cf k ld d with
  | some j=>(p - E j c)%p
  | none=>0
theorem IK {p k c d:Nat}{E:Nat->Nat->Nat}{ld:Nat->Nat}(hp:2<=p):sol p E k ld c d<p:=by
  unfold sol
  split
  . omega
  . cases Cf k ld d with
    | none=>show 0<p;omega
    | some j=>exact Nat.mod_lt _ (by omega)
def nf (k:Nat) (ld:Nat->Nat):Nat->Nat
  | 0=>0
  | c+1=>if CI k ld c then nf k ld c else nf k ld c+1
theorem JQ {k:Nat}{ld:Nat->Nat}:∀ c,nf k ld c<=c
  | 0=>Nat.le_refl _
  | c+1=>by have:=JQ (k:=k) (ld:=ld) c;rw [nf];split<;>omega
theorem DN {k c:Nat}{ld:Nat->Nat}(h:¬ CI k ld c):nf k ld (c+1)=nf k ld c+1:=by rw [nf,if_neg h]
theorem DM {k c:Nat}{ld:Nat->Nat}(h:CI k ld c):nf k ld (c+1)=nf k ld c:=by rw [nf,if_pos h]
theorem O0 {k:Nat}{ld:Nat->Nat}{c d:Nat}(h:c<=d):nf k ld c<=nf k ld d:=by
  induction d with
  | zero=>rw [show c=0 by omega];exact Nat.le_refl _
  | succ d ih =>
    by_cases e:c=d+1
    . rw [e];exact Nat.le_refl _
    . have:=ih (by omega)
      rw [nf];split<;>omega
theorem Ke {k:Nat}{ld:Nat->Nat}{c d:Nat}(h:c<d)(hf:¬ CI k ld c):nf k ld c<nf k ld d:=by
  have:=O0 (k:=k) (ld:=ld) (show c+1<=d by omega);rw [DN hf] at this;omega
theorem Kf {k:Nat}{ld:Nat->Nat}:∀ (n a:Nat),a<nf k ld n->∃ c,c<n/\¬ CI k ld c/\nf k ld c=a
  | 0,a,h=>absurd h (by rw [nf];omega)
  | n + 1, a, h => by
    by_cases hl:CI k ld n
    . have h':a<nf k ld n:=by rw [← DM hl];exact h
      obtain ⟨c,h1,h2,h3⟩:=Kf n a h'
      exact ⟨c,by omega,h2,h3⟩
    . have h':a<nf k ld n+1:=by rw [← DN hl];exact h
      by_cases e:a=nf k ld n
      . exact ⟨n,by omega,hl,e.symm⟩
      . obtain ⟨c,h1,h2,h3⟩:=Kf (k:=k) (ld:=ld) n a (by omega)
        exact ⟨c,by omega,h2,h3⟩
def Ir (p n:Nat) (E:Nat->Nat->Nat) (k:Nat) (ld:Nat->Nat) (S:Nat->Nat->Nat):Prop:=∀ c,c<n->¬ CI k ld c->∀ d,S (nf k ld c) d=sol p E k ld c d
theorem Pa {p n N k:Nat}{E S:Nat->Nat->Nat}{ld:Nat->Nat}{x:Nat->Int}(hS:Ir p n E k ld S):Ker p N S (nf k ld n) x↔∀ c,c<n->¬ CI k ld c->(p:Int)∣dot N (ci (sol p E k ld c)) x:=by
  have e:∀ c,c<n->¬ CI k ld c->ci (S (nf k ld c))=ci (sol p E k ld c):=fun c hc hf=>by
    funext d;unfold ci;rw [hS c hc hf d]
  constructor
  . intro h c hc hf
    have:=h _ (Ke hc hf)
    rwa [e c hc hf] at this
  . intro h a ha
    obtain ⟨c,hc,hf,rfl⟩:=Kf n a ha;rw [e c hc hf];exact h c hc hf
theorem MD {p n k:Nat}{E:Nat->Nat->Nat}{ld:Nat->Nat}(hp:2<=p):∃ S,Ir p n E k ld S/\∀ a d,S a d<p:=by
  refine ⟨fun a d=>if h:∃ c,c<n/\¬ CI k ld c/\nf k ld c=a then sol p E k ld (Classical.choose h) d else 0,fun c hc hf d=>?_,fun a d=>?_⟩
  . have hx:∃ c',c'<n/\¬ CI k ld c'/\nf k ld c'=nf k ld c:=⟨c,hc,hf,rfl⟩
    dsimp only
    rw [dif_pos hx];have hs:=Classical.choose_spec hx;have:Classical.choose hx=c:=by
      rcases Nat.lt_trichotomy (Classical.choose hx) c with h | h | h
      . have:=Ke (k:=k) (ld:=ld) h hs.2.1;omega
      . exact h
      . have:=Ke (k:=k) (ld:=ld) h hf;omega
    rw [this]
  . dsimp only
    split
    . exact IK hp
    . omega
def IsKer (p n:Nat) (M:Nat->Nat->Nat) (m r:Nat) (V:Nat->Nat->Nat):Prop:=∃ (k:Nat) (E:Nat->Nat->Nat) (ld ld2:Nat->Nat),Rref p n E k ld/\(∀ x,Ker p n E k x↔Ker p n M m x)/\Rref p n V r ld2/\
  ∀ x,Ker p n V r x↔∀ c,c<n->¬ CI k ld c->(p:Int)∣dot n (ci (sol p E k ld c)) x
theorem IZ {p n m k r:Nat}{M E S V:Nat->Nat->Nat}{ld ld2:Nat->Nat}(h:Rref p n E k ld)(hk:∀ x,Ker p n E k x↔Ker p n M m x)(hS:Ir p n E k ld S)(h2:Rref p n V r ld2)(hJ:∀ x,Ker p n V r x↔Ker p n S (nf k ld n) x):IsKer p n M m r V:=
  ⟨k,E,ld,ld2,h,hk,h2,fun x=>(hJ x).trans (Pa hS)⟩
theorem J6 {p n m:Nat}{M:Nat->Nat->Nat}(hp:primeN p)(J:∀ i c,M i c<p):∃ r V,IsKer p n M m r V:=by
  obtain ⟨k,E,ld,h,_,hk⟩:=Dx (N:=n) (m:=m) hp J;obtain ⟨S,hS,hSp⟩:=MD (p:=p) (n:=n) (k:=k) (E:=E) (ld:=ld) hp.two;obtain ⟨r,V,ld2,h2,_,hJ⟩:=Dx (N:=n) (m:=nf k ld n) hp hSp;exact ⟨r,V,IZ h hk hS h2 hJ⟩
theorem IX {k:Nat}{ld ld':Nat->Nat}(e:∀ i,i<k->ld i=ld' i)(c:Nat):CI k ld c↔CI k ld' c:=
  ⟨fun ⟨i,hi,h⟩=>⟨i,hi,by rw [← e i hi];exact h⟩,fun ⟨i,hi,h⟩=>⟨i,hi,by rw [e i hi];exact h⟩⟩
theorem Lf {k:Nat}{ld ld':Nat->Nat}(e:∀ i,i<k->ld i=ld' i)(d:Nat):Cf k ld d=Cf k ld' d:=by
  unfold Cf
  have:∀ l:List Nat,(∀ i∈l,i<k)->l.find? (fun i=>ld i == d)=l.find? (fun i=>ld' i == d):=by
    intro l
    induction l with
    | nil=>intro _;rfl
    | cons a l ih =>
      intro h;rw [List.find?_cons,List.find?_cons,e a (h a (List.mem_cons_self ..)),ih (fun i hi=>h i (List.mem_cons_of_mem _ hi))]
  exact this _ (fun i hi=>List.mem_range.1 hi)
theorem Ms {p n k:Nat}{E E':Nat->Nat->Nat}{ld ld':Nat->Nat}(e:∀ i,i<k->ld i=ld' i)(eE:∀ i,i<k->∀ c,c<n->E i c=E' i c){c:Nat}(hc:c<n)(d:Nat):sol p E k ld c d=sol p E' k ld' c d:=by
  unfold sol
  rw [Lf e d]
  split
  . rfl
  . cases h:Cf k ld' d with
    | none=>rfl
    | some j=>dsimp only;rw [eE j (CC h).1 c hc]
theorem IsKer.unique {p n m r r':Nat}{M V V':Nat->Nat->Nat}(hp:2<=p)(h:IsKer p n M m r V)(h':IsKer p n M m r' V'):r=r'/\∀ i,i<r->∀ c,c<n->V i c=V' i c:=by
  obtain ⟨k,E,ld,ld2,h1,h2,h3,h4⟩:=h;obtain ⟨k',E',ld',ld2',h1',h2',h3',h4'⟩:=h';obtain ⟨rfl,e1,e2⟩:=EY hp h1 h1' (fun x=>(h2 x).trans (h2' x).symm);have e3:∀ x,Ker p n V r x↔Ker p n V' r' x:=fun x=>by
    rw [h4 x,h4' x];have es:∀ c,c<n->ci (sol p E k ld c)=ci (sol p E' k ld' c):=fun c hc=>by
      funext d;unfold ci;rw [Ms e1 e2 hc d]
    exact ⟨fun q c hc hf=>by rw [← es c hc];exact q c hc (fun hl=>hf ((IX e1 c).1 hl)),fun q c hc hf=>by rw [es c hc];exact q c hc (fun hl=>hf ((IX e1 c).2 hl))⟩
  obtain ⟨er,_,eV⟩:=EY hp h3 h3' e3;exact ⟨er,eV⟩
theorem MW {n N:Nat}{r:Nat->Nat}{x:Nat->Int}(hn:n<=N)(h:∀ c,n<=c->c<N->r c=0):dot N (ci r) x=dot n (ci r) x:=by
  obtain ⟨q,rfl⟩:∃ q,N=n+q:=⟨N - n,by omega⟩
  unfold dot
  rw [Cb,Bn (f:=fun i=>ci r (n+i)*x (n+i)) (fun i hi=>by unfold ci;rw [h (n+i) (by omega) (by omega)];simp)]
  omega
theorem H9 {p n N m:Nat}{M:Nat->Nat->Nat}{x:Nat->Int}(hn:n<=N)(h:∀ i,i<m->∀ c,n<=c->c<N->M i c=0):Ker p N M m x↔Ker p n M m x:=
  ⟨fun q i hi=>by rw [← MW hn (h i hi)];exact q i hi,fun q i hi=>by rw [MW hn (h i hi)];exact q i hi⟩
theorem Ex {n:Nat}{r s:Nat->Nat}{x:Nat->Int}(h:∀ c,c<n->r c=s c):dot n (ci r) x=dot n (ci s) x:=
  Aw fun c hc=>by unfold ci;rw [h c hc]
def C5 (n:Nat) (E:Nat->Nat->Nat) (i c:Nat):Nat:=if c<n then E i c else 0
theorem EA {n:Nat}{E:Nat->Nat->Nat}{i c:Nat}(h:c<n):C5 n E i c=E i c:=if_pos h
theorem H7 {n:Nat}{E:Nat->Nat->Nat}{i c:Nat}(h:n<=c):C5 n E i c=0:=if_neg (by omega)
theorem KZ {p n N m k:Nat}{M E:Nat->Nat->Nat}{ld:Nat->Nat}(hp:primeN p)(hn:n<=N)(J:∀ i c,M i c<p)(hZ:∀ i,i<m->∀ c,n<=c->c<N->M i c=0)(h:Rref p N E k ld)(hk:∀ x,Ker p N E k x↔Ker p N M m x) :
    Rref p n E k ld/\(∀ x,Ker p n E k x↔Ker p n M m x)/\∀ i,i<k->∀ c,n<=c->c<N->E i c=0:=by
  obtain ⟨k0,E0,ld0,h0,_,hk0⟩:=Dx (N:=n) (m:=m) hp J;have hP:Rref p N (C5 n E0) k0 ld0:={
    lt:=fun i hi=>Nat.lt_of_lt_of_le (h0.lt i hi) hn
    mono:=h0.mono
    one:=fun i hi=>by rw [EA (h0.lt i hi)];exact h0.one i hi
    left:=fun i hi c hc=>by
      have:=h0.lt i hi;rw [EA (by omega)];exact h0.left i hi c hc
    zero:=fun i j hi hj hH=>by rw [EA (h0.lt i hi)];exact h0.zero i j hi hj hH
    small:=fun i hi c hc=>by
      by_cases hcn:c<n
      . rw [EA hcn];exact h0.small i hi c hcn
      . rw [H7 (by omega)];have:=hp.two;omega }
  have hPk:∀ x,Ker p N (C5 n E0) k0 x↔Ker p n E0 k0 x:=fun x=>by
    rw [H9 hn (fun i hi c hc _=>H7 hc)];exact ⟨fun q i hi=>by rw [← Ex (r:=C5 n E0 i) (fun c hc=>EA hc)];exact q i hi,fun q i hi=>by rw [Ex (s:=E0 i) (fun c hc=>EA hc)];exact q i hi⟩
  obtain ⟨rfl,e1,e2⟩:=EY hp.two h hP (fun x=>by rw [hk,hPk,hk0,H9 hn hZ]);have z:∀ i,i<k->∀ c,n<=c->c<N->E i c=0:=fun i hi c hc hcN=>by rw [e2 i hi c hcN,H7 hc]
  refine ⟨{
    lt:=fun i hi=>by rw [e1 i hi];exact h0.lt i hi
    mono:=h.mono
    one:=h.one
    left:=h.left
    zero:=h.zero
    small:=fun i hi c hc=>h.small i hi c (by omega) },fun x=>?_,z⟩
  rw [← H9 hn z,hk,H9 hn hZ]
def lv (ld:Nat->Nat) (q c:Nat):Nat:=match Cf q ld c with
  | some j=>j+1
  | none=>0
theorem Qa {ld:Nat->Nat}{q c:Nat}:lv ld q c<=q:=by
  unfold lv
  cases h:Cf q ld c with
  | none=>exact Nat.zero_le _
  | some j=>exact (CC h).1
theorem lv_pos {ld:Nat->Nat}{q c:Nat}:0<lv ld q c↔CI q ld c:=by
  unfold lv
  cases h:Cf q ld c with
  | none=>exact ⟨fun q=>absurd q (Nat.lt_irrefl 0),fun ⟨i,hi,e⟩=>absurd e (GD h i hi)⟩
  | some j=>exact ⟨fun _=>⟨j,CC h⟩,fun _=>Nat.succ_pos _⟩
theorem HW {ld:Nat->Nat}{q c:Nat}:Cf (q+1) ld c=(Cf q ld c).or (if ld q=c then some q else none):=by
  unfold Cf
  rw [List.range_succ,List.find?_append]
  by_cases e:ld q=c
  . simp [e]
  . simp [e]
theorem O1 {p N k q:Nat}{E:Nat->Nat->Nat}{ld:Nat->Nat}(h:Rref p N E k ld)(hq:q<k)(c:Nat):lv ld (q+1) c=if c=ld q then q+1 else lv ld q c:=by
  unfold lv
  rw [HW]
  by_cases e:c=ld q
  . subst e
    have:Cf q ld (ld q)=none:=by
      cases h2:Cf q ld (ld q) with
      | none=>rfl
      | some j=>have:=CC h2;have:=h.mono j q this.1 hq;omega
    rw [this];simp
  . have e2:¬ ld q=c:=fun x=>e x.symm
    rw [if_neg e,if_neg e2];simp
theorem Ng {p k c d:Nat}{E:Nat->Nat->Nat}{ld:Nat->Nat}(h:0<lv ld k d)(hH:d≠c):sol p E k ld c d=(p - E (lv ld k d - 1) c)%p:=by
  unfold sol
  rw [if_neg hH]
  unfold lv at h ⊢
  cases h2:Cf k ld d with
  | none=>rw [h2] at h;exact absurd h (by simp)
  | some j=>rfl
theorem Nh {p k c d:Nat}{E:Nat->Nat->Nat}{ld:Nat->Nat}(h:¬ 0<lv ld k d):sol p E k ld c d=if d=c then 1 else 0:=by
  unfold sol
  split
  . rfl
  . unfold lv at h
    cases h2:Cf k ld d with
    | none=>rfl
    | some j=>rw [h2] at h;exact absurd (Nat.succ_pos j) h
theorem MH {p x:Nat}(hp:0<p)(hx:x<=p):(-(x:Int))%(p:Int)=(((p - x)%p:Nat):Int):=by
  rw [Int.natCast_emod,Int.natCast_sub hx,← Int.add_emod_left (p:Int) (-(x:Int))]
  rfl
end Go.Ech
namespace Go.Sw
open Go Go.RowKit Go.ChangeShapes Go.WideShapes Go.ChangeAt
def ArgVs (w:World) (sl:Value) (m:Nat) (V:Nat->Nat->Nat):Prop:=
  (∃ x c,sl = .slice x m c)/\(0<m->∃ b o c,sl = .slice (some ⟨b,o,none⟩) m c/\∀ i,i<m->∀ j,j<6->w.cell? ⟨b,o+i*6+j,none⟩=some (.int .u8 (V i j:Int)))
theorem ArgVs.ext {w w':World}{sl:Value}{m:Nat}{V:Nat->Nat->Nat}(h:ArgVs w sl m V)(hx:Ext w w'):ArgVs w' sl m V:=
  ⟨h.1,fun hm=>by obtain ⟨b,o,c,h1,h3⟩:=h.2 hm;exact ⟨b,o,c,h1,fun i hi j hj=>E1 (h3 i hi j hj) hx⟩⟩
theorem ArgVs.one {w:World}{sl:Value}{m:Nat}{V:Nat->Nat->Nat}(h:ArgVs w sl m V):sl.oneCell'=true:=by
  obtain ⟨⟨x,c,rfl⟩,_⟩:=h;rfl
section
variable {P : Program} {n : Nat} {F : List (Nat × Value)} {a : Act} {w : World} {d : Option Tmp} {t : TypeId} {pos : String} {af : Array Edge} {gd : Option (Nat × Bool)} {x : Operand}
end
section
variable {H : Type} {enc : TypeId × Value -> H} {P : Program} {w w' : World} {base : Nat} {spare : Nat -> Bool} {held : Bool}
end
section
variable {H : Type} {enc : TypeId × Value -> H} {P : Program} {w : World} {base : Nat} {spare : Nat -> Bool} {held : Bool}
end
section
variable {P : Program} {X : List Nat} {w0 w : World} {L : Own} {D : A7} {n : Nat} {F : List (Nat × Value)} {a : Act} {d : Option Tmp} {T : TypeId} {t : TypeId} {pos : String} {af : Array Edge} {gd : Option (Nat × Bool)} {x y : Operand}
end
end Go.Sw
namespace Go.Sw
open Go Go.RowKit Go.ChangeShapes Go.WideShapes Go.ChangeAt
def Qx (n:Int) (M:Nat->Nat->Nat):Array Value:=A1 37 fun c=>if c=0 then .int .i64 n else .int .u8 (M ((c - 1) / 6) ((c - 1)%6))
section
variable {n q : Int} {M N : Nat -> Nat -> Nat}
theorem AO:(Qx n M).size=37:=BM _ _
end
def RG:List IntKind:=.i64::List.replicate 36 .u8
section
variable {H : Type} {enc : TypeId × Value -> H} {P : Program} {w : World} {base : Nat} {spare : Nat -> Bool} {held : Bool} {t : TypeId} {v : Value} {d : DataW H} {p : List MemPlace}
end
end Go.Sw
namespace Go.Sw
open Go Go.RowKit
variable {P : Program}
def addD (ds:List Deferred) (a:Act):Act:=⟨a.tmps,a.defers++ds⟩
section
variable {ds : List Deferred} {ops : Array Oper} {Q : Exit -> Act -> World -> Prop} {n : Nat} {F : List (Nat × Value)} {a : Act} {w : World}
end
end Go.Sw
namespace Go.Sw
open Go Go.RowKit
variable {P : Program}
section
variable {ops : Array Oper} {Q : Exit -> Act -> World -> Prop} {rest : List Oper} {n : Nat} {F : List (Nat × Value)} {a : Act} {w : World} {d : Option Tmp} {t : TypeId} {pos : String} {af : Array Edge} {gd : Option (Nat × Bool)}
def okA (tm:Array Value):List (Nat×Value)->Prop
  | []=>True
  | (t,v)::r=>tm.getD t undef=v/\okA tm r
def SH (P:Program) (f b:Nat) (u:FrameMode) (w:World) (c:Value):Prop:=
  CallsD P f #[ptr b 0] u w fun e u' w'=>(∃ v,e = .returned v)/\settle u' = .returning/\ExtX [b] w w'/\Blk w' b #[c]
end
end Go.Sw
namespace Go.Sw
open Go Go.RowKit
theorem Hg {n:Nat}{a:Act}{F:List (Nat×Value)}{x0 x1 x2 x3:Operand}{v0 v1 v2 v3:Value}(O:Fr n a F)(h0:look F x0=some v0)(h1:look F x1=some v1)(h2:look F x2=some v2)(h3:look F x3=some v3):(#[(0,x0),(1,x1),(2,x2),(3,x3)]:Array (Nat×Operand)).toList.map (fun p=>(p.1,a.eval p.2))=[(0,v0),(1,v1),(2,v2),(3,v3)]:=by simp [O.eval h0,O.eval h1,O.eval h2,O.eval h3]
def l4 (a b c d:Nat) (i:Nat):Nat:=match i with
  | 0=>a
  | 1=>b
  | 2=>c
  | _=>d
theorem Cq {p n:Int}{T:Nat->Nat->Nat->Nat}{f:Nat->Nat}{o v:Nat}(a b c:Nat)(h:o=2+a*36+b*6+c)(ha:a<6)(hb:b<6)(hc:c<6):(AD p n T f).setIfInBounds o (.int .u8 (v:Int))=AD p n (fun i j k=>if i=a/\j=b/\k=c then v else T i j k) f:=by
  subst h;refine EF (by rw [Array.size_setIfInBounds,AG]) ?_ ?_ ?_ ?_
  . rw [Array.getElem?_setIfInBounds_ne (by omega)];exact BU rfl
  . rw [Array.getElem?_setIfInBounds_ne (by omega)];exact Ao rfl
  . intro i j k hi hj hk
    by_cases e:i=a/\j=b/\k=c
    . obtain ⟨rfl,rfl,rfl⟩:=e
      rw [Array.getElem?_setIfInBounds_self_of_lt (by rw [AG];omega),if_pos ⟨rfl,rfl,rfl⟩]
    . rw [Array.getElem?_setIfInBounds_ne (by omega),if_neg e];exact CR i j k rfl hi hj hk
  . intro i hi;rw [Array.getElem?_setIfInBounds_ne (by omega)];exact Cu i rfl hi
theorem DX {p n:Int}{T:Nat->Nat->Nat->Nat}{f:Nat->Nat}{o v:Nat}(a:Nat)(h:o=218+a)(ha:a<6):(AD p n T f).setIfInBounds o (.int .u8 (v:Int))=AD p n T (fun i=>if i=a then v else f i):=by
  subst h;refine EF (by rw [Array.size_setIfInBounds,AG]) ?_ ?_ ?_ ?_
  . rw [Array.getElem?_setIfInBounds_ne (by omega)];exact BU rfl
  . rw [Array.getElem?_setIfInBounds_ne (by omega)];exact Ao rfl
  . intro i j k hi hj hk;rw [Array.getElem?_setIfInBounds_ne (by omega)];exact CR i j k rfl hi hj hk
  . intro i hi
    by_cases e:i=a
    . subst e
      rw [Array.getElem?_setIfInBounds_self_of_lt (by rw [AG];omega),if_pos rfl]
    . rw [Array.getElem?_setIfInBounds_ne (by omega),if_neg e];exact Cu i rfl hi
section
variable {P : Program} {n : Nat} {F : List (Nat × Value)} {a : Act} {w : World} {d : Option Tmp} {t : TypeId} {pos : String} {af : Array Edge} {gd : Option (Nat × Bool)}
end
end Go.Sw
namespace Go.Sw
open Go Go.RowKit
def PZ (P:Program):Nat->TypeId->List IntKind->Bool
  | 0,_,_=>false
  | d + 1, t, ks =>
    match P.underlying t with
    | some (.int q)=>decide (ks=[q])
    | some (.array n e)=>Nat.beq ks.length (P.cellsOf t) && (List.range n).all fun i=>PZ P d e ((ks.drop (i*P.cellsOf e)).take (P.cellsOf e))
    | some (.struct fs) => Nat.beq ks.length (P.cellsOf t) && fs.all (·.name != "_") && fs.toList.all fun f => PZ P d f.type ((ks.drop f.offset).take (P.cellsOf f.type))
    | _=>false
def Leafy (cs:List Value) (ks:List IntKind):Prop:=cs.length=ks.length/\∀ (i:Nat) (q:IntKind),ks[i]? = some q->∃ x,cs[i]? = some (Value.int q x)/\(Lit.int q x).wf=true
theorem Leafy.part {cs:List Value}{ks:List IntKind}(h:Leafy cs ks)(o l:Nat):Leafy ((cs.drop o).take l) ((ks.drop o).take l):=
  ⟨by simp [h.1],fun i q hi=>by
    rw [List.getElem?_take] at hi ⊢
    split at hi
    . rename_i hl
      rw [if_pos hl,List.getElem?_drop]
      rw [List.getElem?_drop] at hi
      exact h.2 _ q hi
    . cases hi⟩
def Q8 (P:Program) (k:TypeId):Bool:=match P.underlying k with | some (.array _ _) | some (.struct _)=>true | _=>false
def IsMap (w:World) (b:Nat) (es:Array MapEntry) (c:Nat):Prop:=w.heap[b]? = some (.map es c)
theorem IsMap.ext {w w':World}{b:Nat}{es:Array MapEntry}{c:Nat}(h:IsMap w b es c)(hx:Ext w w'):IsMap w' b es c:=by
  have hlt:b<w.heap.size:=(Array.getElem?_eq_some_iff.1 h).1
  unfold IsMap
  rw [hx.block b hlt];exact h
section
variable {P : Program} {n : Nat} {F : List (Nat × Value)} {a : Act} {w w0 : World} {d : Option Tmp} {t T kt et : TypeId} {pos : String} {af : Array Edge} {gd : Option (Nat × Bool)} {x y z : Operand} {X : List Nat} {L : Own} {D : A7}
end
end Go.Sw
namespace Go.Sw
open Go Go.RowKit
section
variable {P : Program} {n : Nat} {F : List (Nat × Value)} {a : Act} {w w0 : World} {d : Option Tmp} {t T kt et : TypeId} {pos : String} {af : Array Edge} {gd : Option (Nat × Bool)} {x y z : Operand} {X : List Nat} {L : Own} {D : A7}
end
end Go.Sw
namespace Go.Sw
open Go Go.RowKit
section
variable {P : Program} {n : Nat} {F : List (Nat × Value)} {a : Act} {w : World} {d : Option Tmp} {t T T' : TypeId} {pos : String} {af : Array Edge} {gd : Option (Nat × Bool)} {x y : Operand} {k : IntKind} {A B C : Int}
end
end Go.Sw
namespace Go.Sw
open Go Go.RowKit
section
variable {P : Program} {n : Nat} {F : List (Nat × Value)} {a : Act} {w w0 : World} {d : Option Tmp} {t T kt et : TypeId} {pos : String} {af : Array Edge} {gd : Option (Nat × Bool)} {x y z : Operand} {X : List Nat} {L : Own} {D : A7}
end
theorem OX {n:Nat}{a:Act}{F:List (Nat×Value)}{x0 x1 x2 x3 x4 x5:Operand}{v0 v1 v2 v3 v4 v5:Value}(O:Fr n a F)(h0:look F x0=some v0)(h1:look F x1=some v1)(h2:look F x2=some v2)(h3:look F x3=some v3)(h4:look F x4=some v4)(h5:look F x5=some v5):(#[(0,x0),(1,x1),(2,x2),(3,x3),(4,x4),(5,x5)]:Array (Nat×Operand)).toList.map (fun p=>(p.1,a.eval p.2))=[(0,v0),(1,v1),(2,v2),(3,v3),(4,v4),(5,v5)]:=by simp [O.eval h0,O.eval h1,O.eval h2,O.eval h3,O.eval h4,O.eval h5]
theorem I0 (cs:Array Value)(n:Nat)(h:n=cs.size):cs.extract 0 n=cs:=by subst h;simp
theorem IsMap.setRow {w:World}{b q:Nat}{cs cs':Array Value}{es:Array MapEntry}{c:Nat}(h:IsMap w q es c)(hb:Blk w b cs):IsMap (w.setRow b cs') q es c:=by
  have hH:q≠b:=fun e=>by
    obtain ⟨t,ht⟩:=hb
    unfold IsMap at h
    rw [e,ht] at h;cases h
  unfold IsMap
  rw [setRow_other w b q cs' hH];exact h
section
variable {P : Program} {n : Nat} {F : List (Nat × Value)} {a : Act} {w w0 : World} {d : Option Tmp} {t T : TypeId} {pos : String} {af : Array Edge} {gd : Option (Nat × Bool)} {x y : Operand} {X : List Nat} {L : Own} {D : A7}
end
end Go.Sw
namespace Go.Sw
open Go Go.RowKit
section
variable {P : Program} {X : List Nat} {w0 w : World} {D : A7} {W : List Nat} {L0 L : Own} {kt : Nat} {csO csN : Array Value} {bb : Bool} {l : List Fact} {i : Nat} {o : Oper} {a : Act}
theorem Ov {mk:Nat->Value}{k:Nat}{cs:Array Value}(hS:KJ X w0 D W L0 kt csO csN bb L w)(hi:l[i]? = some (.own k cs mk))(hH:Nat.beq k kt=false)(hk:Ct k W=true)(hkl:Nat.blt k L0.length=true)(h1:Dy k i l 0=true)
    (hg:Does P o a w (fun u w'=>∃ b,u=mk b/\MemX X w0 w' (L.set k (some (b,cs))) D/\Ext w w')):Does P o a w (Ej (KJ X w0 D W L0 kt csO csN) (Dd kt l) bb i L w):=
  hg.mono fun u w' ⟨b,hu,J,hx⟩=>by
    have hO:k<L.length:=by rw [hS.1.2.1];exact Nat.blt_eq.mp hkl
    have hn:¬ k=kt:=fun e=>by rw [e,Nat.beq_refl] at hH;cases hH
    refine ⟨L.set k (some (b,cs)),⟨⟨J,hS.1.2.set k hk _⟩,fun c ds hc=>?_⟩,?_,fun j u hj h=>Gc h1 j u hj h⟩
    . rw [List.getElem?_set_ne hn] at hc;exact hS.2 c ds hc
    . unfold Dd;rw [hi];show (if k=kt then _ else _);rw [if_neg hn];exact ⟨b,hu,by simp [hO]⟩
end
end Go.Sw
namespace Go.Sw
open Go Go.RowKit
section
variable {P : Program} {n : Nat} {F : List (Nat × Value)} {a : Act} {w : World} {d : Option Tmp} {t T T' : TypeId} {pos : String} {af : Array Edge} {gd : Option (Nat × Bool)} {x y : Operand} {k k' : IntKind} {A B C : Int}
theorem MQ (O:Fr n a F)(hx:look F x=some (.int k A))(hy:look F y=some (.int k' B))(hB:¬ B<0)(hC:A.fdiv (2 ^ (min B.toNat k.bits))=C):Be P ⟨d,.binOp .shr T x y T',t,pos,af,gd⟩ a w (.int k C):=
  As (by simp [execOp,B0,binOp,Op.shift,O.eval hx,O.eval hy,hB,hC])
theorem MT (O:Fr n a F)(hx:look F x=some (.int k A))(hy:look F y=some (.int k B))(hC:k.wrap ((BitVec.ofInt k.bits A &&& BitVec.ofInt k.bits B).toNat:Int)=C):Be P ⟨d,.binOp .and T x y T',t,pos,af,gd⟩ a w (.int k C):=
  As (by simp [execOp,B0,binOp,Op.intBits,O.eval hx,O.eval hy,← hC])
end
theorem HG (x:Nat):IntKind.u64.wrap (x:Int)=((x%18446744073709551616:Nat):Int):=by
  unfold IntKind.wrap IntKind.bits IntKind.signed
  simp
theorem Gq (x c:Nat):IntKind.u64.wrap ((x:Int)*(c:Int))=((x*c%18446744073709551616:Nat):Int):=by rw [← HG];simp
theorem Ed (x c:Nat):IntKind.u64.wrap ((x:Int)+(c:Int))=(((x+c)%18446744073709551616:Nat):Int):=by rw [← HG];simp
theorem H6 (x:Nat):(x:Int).fdiv (2 ^ (min (33:Int).toNat IntKind.u64.bits))=((x / 8589934592:Nat):Int):=by
  rw [show (2:Int) ^ (min (33:Int).toNat IntKind.u64.bits)=((8589934592:Nat):Int) from by decide,Int.fdiv_eq_ediv_of_nonneg _ (by omega)]
  rfl
theorem ID (x:Nat)(h:x<18446744073709551616):IntKind.u64.wrap ((BitVec.ofInt IntKind.u64.bits (x:Int) &&& BitVec.ofInt IntKind.u64.bits ((16777215:Nat):Int)).toNat:Int)=((x%16777216:Nat):Int):=by
  have e:(BitVec.ofInt IntKind.u64.bits (x:Int) &&& BitVec.ofInt IntKind.u64.bits ((16777215:Nat):Int)).toNat=x%16777216:=by
    show (BitVec.ofInt 64 (x:Int) &&& BitVec.ofInt 64 ((16777215:Nat):Int)).toNat=x%16777216
    rw [BitVec.toNat_and,BitVec.ofInt_natCast,BitVec.ofInt_natCast,BitVec.toNat_ofNat,BitVec.toNat_ofNat,Nat.mod_eq_of_lt (show x<2 ^ 64 by omega),show (16777215:Nat)%2 ^ 64=2 ^ 24 - 1 from by decide,Nat.and_two_pow_sub_one_eq_mod]
  rw [e,HG,Nat.mod_eq_of_lt (by omega)]
def HE (l:List (Value->Prop)):Facts Unit:=fun i _ v _=>(l.getD i (fun _=>True)) v
theorem Bp {P:Program}{S:World->Prop}{l:List (Value->Prop)}{o:Oper}{a:Act}{w:World}{v:Value}{i:Nat}(hS:S w)(hg:Be P o a w v)(hv:HE l i () v w):Does P o a w (After (fun _:Unit=>S) (HE l) i () w):=
  hg.mono fun u w' ⟨e1,e2⟩=>by subst e1;subst e2;exact ⟨(),hS,hv,fun _ _ _ h=>h⟩
theorem Dq {P:Program}{S:World->Prop}{l:List (Value->Prop)}{o:Oper}{a:Act}{w:World}{R:Value->World->Prop}{i:Nat}(h:Does P o a w R)(hr:∀ v w',R v w'->S w'/\HE l i () v w'):Does P o a w (After (fun _:Unit=>S) (HE l) i () w):=
  h.mono fun u w' hu=>⟨(),(hr u w' hu).1,(hr u w' hu).2,fun _ _ _ h=>h⟩
def Bb (sl:Value) (at_ h:Nat):Array Value:=#[sl,.int .i64 (at_:Int),.int .u64 (h:Int)]
def CodeB (w:World) (X:List Nat) (sl:Value) (m:Nat):Prop:=
  m<=4096/\(∃ x c,sl = .slice x m c)/\(0<m->∃ (b o c:Nat) (F:Nat->Nat),sl = .slice (some ⟨b,o,none⟩) m c/\b<w.heap.size/\b ∉ X/\(∀ i,F i<=255)/\∀ i,i<m->w.cell? ⟨b,o+i*1,none⟩=some (.int .u8 (F i:Int)))
theorem GJ {X:List Nat}{w w':World}{b o:Nat}{v:Value}(h:w.cell? ⟨b,o,none⟩=some v)(hx:ExtX X w w')(hb:b<w.heap.size)(hX:b ∉ X):w'.cell? ⟨b,o,none⟩=some v:=by
  unfold World.cell? at h ⊢
  simp only [hx.block b hb hX];exact h
theorem CodeB.carry {X Y:List Nat}{w0 w:World}{sl:Value}{m:Nat}(h:CodeB w0 X sl m)(hx:ExtX X w0 w)(hY:∀ y,y∈Y->y∈X\/w0.heap.size<=y):CodeB w Y sl m:=
  ⟨h.1,h.2.1,fun hm=>by
    obtain ⟨b,o,c,F,h1,h2,h3,h4,h5⟩:=h.2.2 hm
    refine ⟨b,o,c,F,h1,Nat.lt_of_lt_of_le h2 hx.size,fun hb=>?_,h4,fun i hi=>GJ (h5 i hi) hx h2 h3⟩
    rcases hY b hb with e | e
    . exact h3 e
    . omega⟩
theorem MemX.code {X:List Nat}{w0 w:World}{L:Own}{D:A7}{sl:Value}{m k b:Nat}{cs:Array Value}(h:MemX X w0 w L D)(hc:CodeB w0 X sl m)(hk:L[k]? = some (some (b,cs))):CodeB w [b] sl m:=
  hc.carry h.bel (fun y hy=>by
    have e:y=b:=by simpa using hy
    subst e
    exact (h.blk k y cs hk).1.symm)
theorem AC {sl:Value}{at_ h:Nat}:(Bb sl at_ h).size=3:=rfl
def E4 (x n:Int):Prop:=0<=x/\(1<=n->x<n)/\(n<1->x=0)
theorem CallsX.mono {P:Program}{X:List Nat}{f:FuncId}{args:Array Value}{w:World}{R R':Value->World->Prop}(h:CallsX P X f args w R)(hr:∀ v w',R v w'->R' v w'):CallsX P X f args w R':=
  Calls.mono h (fun _ _ ⟨v,he,h1,h2⟩=>⟨v,he,h1,hr v _ h2⟩)
section
variable {n : Nat} {F : List (Nat × Value)} {a : Act}
theorem Ma {x0 x1:Operand}{v0 v1:Value}(O:Fr n a F)(h0:look F x0=some v0)(h1:look F x1=some v1):(#[(0,x0),(2,x1)]:Array (Nat×Operand)).toList.map (fun p=>(p.1,a.eval p.2))=[(0,v0),(2,v1)]:=by simp [O.eval h0,O.eval h1]
theorem QF {x0 x1 x2 x3 x4 x5 x6:Operand}{v0 v1 v2 v3 v4 v5 v6:Value}(O:Fr n a F)(h0:look F x0=some v0)(h1:look F x1=some v1)(h2:look F x2=some v2)(h3:look F x3=some v3)(h4:look F x4=some v4)(h5:look F x5=some v5)(h6:look F x6=some v6):(#[(0,x0),(1,x1),(2,x2),(3,x3),(4,x4),(5,x5),(6,x6)]:Array (Nat×Operand)).toList.map (fun p=>(p.1,a.eval p.2))=[(0,v0),(1,v1),(2,v2),(3,v3),(4,v4),(5,v5),(6,v6)]:=by simp [O.eval h0,O.eval h1,O.eval h2,O.eval h3,O.eval h4,O.eval h5,O.eval h6]
end
end Go.Sw
namespace Go.Sw
def Hx (h:Nat):Nat:=(h*6364136223846793005%18446744073709551616+1442695040888963407)%18446744073709551616
def Ls (f:Nat->Nat):Nat->Nat->Nat
  | 0,h=>h
  | k+1,h=>Ls f k (f h)
theorem Qc (f:Nat->Nat)(k h:Nat):Ls f (k+1) h=Ls f k (f h):=rfl
theorem Pb (f:Nat->Nat)(h:Nat):Ls f 1 h=f h:=rfl
theorem J5 (f:Nat->Nat)(k:Nat):∀ j h,Ls f (j+k) h=Ls f k (Ls f j h)
  | 0,h=>by rw [Nat.zero_add];rfl
  | j + 1, h => by
    rw [Nat.add_right_comm]
    exact J5 f k j (f h)
def Aff (m a b:Nat):Prop:=∀ h,Ls Hx m h%34359738368=(a*h+b)%34359738368
theorem On {A C P Q:Nat}(hd:Q∣P)(h:Nat):((h*A%P+C)%P)%Q=((A%Q)*h+C%Q)%Q:=by
  rw [Nat.mod_mod_of_dvd _ hd,Nat.add_mod,Nat.mod_mod_of_dvd _ hd,Nat.mul_comm h A,Nat.add_mod (A%Q*h),Nat.mod_mod,Nat.mod_mul_mod]
theorem Q6:(34359738368:Nat)∣18446744073709551616:=⟨536870912,rfl⟩
theorem Aff.one:Aff 1 (6364136223846793005%34359738368) (1442695040888963407%34359738368):=fun h=>by
  rw [Pb]
  unfold Hx
  exact On Q6 h
theorem Aff.dbl {m a b:Nat}(h:Aff m a b):Aff (m+m) (a*a%34359738368) ((a*b+b)%34359738368):=fun x=>by
  rw [J5,h (Ls Hx m x),Nat.add_mod,Nat.mul_mod,h x,← Nat.mul_mod,← Nat.add_mod]
  rw [Nat.add_mod (a*a%34359738368*x),Nat.mod_mod,Nat.mod_mul_mod,← Nat.add_mod]
  congr 1
  rw [Nat.mul_add,Nat.mul_assoc,Nat.add_assoc]
def Pg:Nat->Nat×Nat
  | 0=>(6364136223846793005%34359738368,1442695040888963407%34359738368)
  | k+1=>((Pg k).1*(Pg k).1%34359738368,((Pg k).1*(Pg k).2+(Pg k).2)%34359738368)
theorem Aff.pow:∀ k,Aff (2 ^ k) (Pg k).1 (Pg k).2
  | 0=>Aff.one
  | k + 1 => by
    rw [Nat.pow_succ,Nat.mul_two]
    exact (Aff.pow k).dbl
theorem Aff.far:∃ N,1<=N/\N<=8589934592/\Aff N 1 8589934592:=by
  have h:=Aff.pow 33;have e:Pg 33=(1,8589934592):=by decide +kernel
  rw [e] at h;exact ⟨2 ^ 33,by decide,by decide,h⟩
theorem Pe {N D:Nat}(hA:Aff N 1 D)(h:Nat):∀ j,Ls Hx (j*N) h%34359738368=(h+j*D)%34359738368
  | 0=>by rw [Nat.zero_mul,Nat.zero_mul];rfl
  | j + 1 => by
    rw [Nat.succ_mul,J5,hA,Nat.one_mul,Nat.add_mod,Pe hA h j,← Nat.add_mod,Nat.succ_mul,Nat.add_assoc]
def Iz (h:Nat):Prop:=h / 8589934592%4=0
theorem PA {h h':Nat}(e:h%34359738368=h'%34359738368):Iz h↔Iz h':=by
  unfold Iz
  omega
theorem Qd (h:Nat):∃ k,1<=k/\k<=34359738368/\Iz (Ls Hx k h):=by
  obtain ⟨N,hN1,hN2,hA⟩:=Aff.far;have key:∀ j,1<=j->j<=4->(h+j*8589934592) / 8589934592%4=0->∃ k,1<=k/\k<=34359738368/\Iz (Ls Hx k h):=fun j h1 h4 e=>by
    refine ⟨j*N,Nat.mul_le_mul h1 hN1,Nat.le_trans (Nat.mul_le_mul h4 hN2) (by decide),?_⟩;rw [PA (Pe hA h j)];exact e
  have e:h / 8589934592%4=0\/h / 8589934592%4=1\/h / 8589934592%4=2\/h / 8589934592%4=3:=by omega
  rcases e with e | e | e | e
  . exact key 4 (by omega) (by omega) (by omega)
  . exact key 3 (by omega) (by omega) (by omega)
  . exact key 2 (by omega) (by omega) (by omega)
  . exact key 1 (by omega) (by omega) (by omega)
theorem NC {k h:Nat}(h1:1<=k)(hh:Iz (Ls Hx k h)):Iz (Hx h)\/(1<=k - 1/\Iz (Ls Hx (k - 1) (Hx h))):=by
  obtain ⟨j,rfl⟩:∃ j,k=j+1:=⟨k - 1,by omega⟩
  by_cases e:j=0
  . subst e;rw [Pb] at hh;exact .inl hh
  . rw [Qc] at hh;exact .inr ⟨by omega,by rw [Nat.add_sub_cancel];exact hh⟩
end Go.Sw
namespace Go.Sw
def Qs (m:Nat) (nn:Int) (ha hh:Nat) (x:Int) (ha' hh':Nat):Prop:=
  1<=nn->(ha<m/\ha'=ha+1)\/(m<=ha/\ha'=ha/\hh'=Hx hh/\x=((hh' / 8589934592%16777216:Nat):Int).tmod nn)
def K9 (fit:Prop) (kk N m ha hh:Nat):Prop:=fit\/∃ k,1<=k/\k<=34359738368/\Iz (Ls Hx k hh)/\kk+(m - ha)*34359738369+k<=N
theorem Le (fit:Prop)(m ha hh:Nat):∃ N,K9 fit 0 N m ha hh:=by
  obtain ⟨k,h1,h2,h3⟩:=Qd hh;exact ⟨0+(m - ha)*34359738369+k,.inr ⟨k,h1,h2,h3,Nat.le_refl _⟩⟩
theorem O3 {fit:Prop}{kk N m ha hh:Nat}(h:K9 fit kk N m ha hh)(hn:¬ fit):kk+1<=N:=by
  rcases h with h | ⟨k,h1,_,_,h4⟩
  . exact absurd h hn
  . omega
theorem QR (y:Nat):((y%16777216:Nat):Int).tmod 4=((y%4:Nat):Int):=by
  rw [Int.tmod_eq_emod_of_nonneg (by omega)]
  omega
theorem left_step {fit fit':Prop}{kk N m ha hh ha' hh':Nat}{x:Int}(h:K9 fit kk N m ha hh)(hn:¬ fit)(hx:Qs m 4 ha hh x ha' hh')(hf:x=0->fit'):K9 fit' (kk+1) N m ha' hh':=by
  rcases h with h | ⟨k,h1,h2,h3,h4⟩
  . exact absurd h hn
  . rcases hx (by decide) with ⟨a1,a2⟩ | ⟨a1,a2,a3,a4⟩
    . obtain ⟨k',b1,b2,b3⟩:=Qd hh'
      refine .inr ⟨k',b1,b2,b3,?_⟩;obtain ⟨d,hd⟩:∃ d,m - ha=d+1:=⟨m - ha - 1,by omega⟩;rw [show m - ha'=d by omega];rw [hd] at h4
      omega
    . subst a2
      rcases NC h1 h3 with hit | ⟨c1,c2⟩
      . refine .inl (hf ?_)
        rw [a4,a3,QR]
        unfold Iz at hit
        rw [hit];rfl
      . rw [← a3] at c2
        clear a3 a4 h3;exact .inr ⟨k - 1,c1,by omega,c2,by omega⟩
end Go.Sw
namespace Go.Sw
open Go Go.RowKit
theorem MemX.subD {X:List Nat}{w0 w:World}{L:Own}{D D':A7}(h:MemX X w0 w L D)(hs:∀ x,x∈D'->x∈D):MemX X w0 w L D':=
  ⟨h.bel,h.blk,h.apart,fun b cs hm=>h.froz b cs (hs _ hm)⟩
def Qm (R:Act->World->Prop):Exit->Act->World->Prop
  | .normal,a,w=>R a w
  | _,_,_=>False
theorem Ey {R:Act->World->Prop}{a:Act}{w:World}(h:R a w):Qm R .normal a w:=h
theorem QT {P:Program}{Q:Exit->Act->World->Prop}{a:Act}{w:World}{x y:Code}(R:Act->World->Prop)(h:x.wp P (Qm R) a w)(k:∀ a w,R a w->y.wp P Q a w):(x.seq y).wp P Q a w:=
  sq (wp_mono h fun e a w hq=>by
    cases e with
    | normal=>exact k a w hq
    | _=>exact hq.elim)
end Go.Sw
namespace Go.Sw
open Go Go.RowKit
variable {P : Program} {n : Nat} {F : List (Nat × Value)} {a : Act} {w : World} {d : Option Tmp} {t : TypeId} {pos : String} {af : Array Edge} {gd : Option (Nat × Bool)} {x y : Operand}
end Go.Sw
namespace Go.Sw
open Go Go.RowKit Go.ChangeShapes Go.WideShapes Go.ChangeAt
structure ArgSS (w:World) (sl:Value) (m:Nat) (L:Nat->Nat) (R:Nat->Nat->Int) (xs:Nat->Option Addr) (ca be ob:Nat->Nat):Prop where
  out:∃ x c,sl = .slice x m c
  cell:0<m->∃ b o c,sl = .slice (some ⟨b,o,none⟩) m c/\∀ i,i<m->w.cell? ⟨b,o+i*1,none⟩=some (.slice (xs i) (L i) (ca i))
  adr:∀ i,i<m->0<L i->xs i=some ⟨be i,ob i,none⟩
  num:∀ i,i<m->∀ j,j<L i->w.cell? ⟨be i,ob i+j*1,none⟩=some (.int .i64 (R i j))
namespace ArgSS
variable {w w' : World} {sl : Value} {m : Nat} {L : Nat -> Nat} {R : Nat -> Nat -> Int} {xs : Nat -> Option Addr} {ca be ob : Nat -> Nat}
theorem ext (h:ArgSS w sl m L R xs ca be ob)(hx:Ext w w'):ArgSS w' sl m L R xs ca be ob:=
  ⟨h.out,fun hm=>by obtain ⟨b,o,c,h1,h2⟩:=h.cell hm;exact ⟨b,o,c,h1,fun i hi=>E1 (h2 i hi) hx⟩,h.adr,fun i hi j hj=>E1 (h.num i hi j hj) hx⟩
theorem one (h:ArgSS w sl m L R xs ca be ob):sl.oneCell'=true:=by
  obtain ⟨x,c,rfl⟩:=h.out;rfl
theorem row (h:ArgSS w sl m L R xs ca be ob){i:Nat}(hi:i<m):ArgSl w (.slice (xs i) (L i) (ca i)) (L i) (R i):=
  ⟨⟨_,_,rfl⟩,fun hl=>⟨be i,ob i,ca i,by rw [h.adr i hi hl],h.num i hi⟩⟩
theorem congr {R':Nat->Nat->Int}(h:ArgSS w sl m L R xs ca be ob)(e:∀ i,i<m->∀ j,j<L i->R i j=R' i j):ArgSS w sl m L R' xs ca be ob:=
  ⟨h.out,h.cell,h.adr,fun i hi j hj=>by rw [← e i hi j hj];exact h.num i hi j hj⟩
end ArgSS
section
variable {H : Type} {enc : TypeId × Value -> H} {P : Program} {w : World} {base : Nat} {spare : Nat -> Bool} {held : Bool}
end
def QV (m:Nat) (L:Nat->Nat) (β:Nat->Nat):Array Value:=A1 m fun i=>.slice (some ⟨β i,0,none⟩) (L i) (L i)
structure SSD (D:A7) (u:Value) (m:Nat) (L:Nat->Nat) (R:Nat->Nat->Int) (b:Nat) (β:Nat->Nat):Prop where
  val:u = .slice (some ⟨b,0,none⟩) m m
  out:(b,QV m L β)∈D
  row:∀ i,i<m->(β i,QW (L i) (R i))∈D
  inj:∀ i j,i<m->j<m->β i=β j->i=j
  ne:∀ i,i<m->β i≠b
theorem SSD.more {D D':A7}{u:Value}{m b:Nat}{L β:Nat->Nat}{R:Nat->Nat->Int}(h:SSD D u m L R b β)(hs:∀ x,x∈D->x∈D'):SSD D' u m L R b β:=⟨h.val,hs _ h.out,fun i hi=>hs _ (h.row i hi),h.inj,h.ne⟩
def RM (w w':World) (m:Nat) (L:Nat->Nat) (R:Nat->Nat->Int) (u:Value):Prop:=∃ (D:A7) (b:Nat) (β:Nat->Nat),(∀ x ds,(x,ds)∈D->w.heap.size<=x/\Blk w' x ds)/\SSD D u m L R b β
end Go.Sw
namespace Go.Sw
open Go Go.RowKit
def Rd (Z k t:Nat) (xs:Nat->Value):Array Value:=A1 Z (fun c=>if c<t then .int .i64 (((k+c:Nat)):Int) else xs c)
section
variable {Z k t : Nat} {xs : Nat -> Value}
end
end Go.Sw
namespace Go.Sw
open Go Go.RowKit
structure SSR (D:A7) (u:Value) (m:Nat) (Ln:Nat->Nat) (F:Nat->Nat->Int) (b cap:Nat) (cs:Array Value) (β κ:Nat->Nat) (C:Nat->Array Value):Prop where
  sl:SlAt 1 u (some (b,cs)) m b cap cs (fun i=>.slice (some ⟨β i,0,none⟩) (Ln i) (κ i))
  out:(b,cs)∈D
  rows:RowsC D m β C
  row:∀ i,i<m->SlAt 1 (.slice (some ⟨β i,0,none⟩) (Ln i) (κ i)) (some (β i,C i)) (Ln i) (β i) (κ i) (C i) (fun c=>.int .i64 (F i c))
  ne:∀ i,i<m->β i≠b
namespace SSR
variable {D D' : A7} {u : Value} {m b cap : Nat} {Ln β κ : Nat -> Nat} {F : Nat -> Nat -> Int} {cs : Array Value} {C : Nat -> Array Value}
theorem more (h:SSR D u m Ln F b cap cs β κ C)(hs:∀ x,x∈D->x∈D'):SSR D' u m Ln F b cap cs β κ C:=⟨h.sl,hs _ h.out,h.rows.more hs,h.row,h.ne⟩
theorem cell (h:SSR D u m Ln F b cap cs β κ C)(i:Nat)(hi:i<m):cs[0+i*1]? = some (.slice (some ⟨β i,0,none⟩) (Ln i) (κ i)):=h.sl.get1 i hi
theorem num (h:SSR D u m Ln F b cap cs β κ C)(i:Nat)(hi:i<m)(c:Nat)(hc:c<Ln i):(C i)[0+c*1]? = some (.int .i64 (F i c)):=(h.row i hi).get1 c hc
theorem congr {G:Nat->Nat->Int}(h:SSR D u m Ln F b cap cs β κ C)(e:∀ i,i<m->∀ c,c<Ln i->F i c=G i c):SSR D u m Ln G b cap cs β κ C:=
  ⟨h.sl,h.out,h.rows,fun i hi=>(h.row i hi).congr fun c hc=>by rw [e i hi c (by omega)],h.ne⟩
end SSR
def SSOutR (w w':World) (m:Nat) (Ln:Nat->Nat) (F:Nat->Nat->Int) (u:Value):Prop:=∃ (D:A7) (b cap:Nat) (cs:Array Value) (β κ:Nat->Nat) (C:Nat->Array Value),(∀ x ds,(x,ds)∈D->w.heap.size<=x/\Blk w' x ds)/\SSR D u m Ln F b cap cs β κ C
theorem SSOutR.of {w w':World}{L:Own}{D:A7}{m q:Nat}{Ln β κ:Nat->Nat}{C:Nat->Array Value}{F:Nat->Nat->Int}{u:Value}{b cap:Nat}{cs:Array Value}(J:Ag w w' L D)(hR:RowsC D m β C)
    (hq:L[q]? = some (some (b,cs))) (hs:SlAt 1 u (some (b,cs)) m b cap cs (fun i=>.slice (some ⟨β i,0,none⟩) (Ln i) (κ i))) (hge:∀ i,i<m->w.heap.size<=β i)
    (hr:∀ i,i<m->SlAt 1 (.slice (some ⟨β i,0,none⟩) (Ln i) (κ i)) (some (β i,C i)) (Ln i) (β i) (κ i) (C i) (fun c=>.int .i64 (F i c))):SSOutR w w' m Ln F u:=by
  refine ⟨(b,cs)::(List.range m).map (fun i=>(β i,C i)),b,cap,cs,β,κ,C,fun x ds hx=>?_,hs,List.mem_cons_self ..,⟨fun i hi=>?_,hR.inj⟩,hr,fun i hi e=>(J.froz _ _ (hR.mem i hi)).2 q b cs hq e.symm⟩
  . rcases List.mem_cons.1 hx with e | hx
    . simp only [Prod.mk.injEq] at e;obtain ⟨rfl,rfl⟩:=e;exact ⟨J.ge q hq,J.row q hq⟩
    . obtain ⟨i,hi,e⟩:=List.mem_map.1 hx
      simp only [Prod.mk.injEq] at e;obtain ⟨rfl,rfl⟩:=e;have hi:i<m:=by simpa using hi
      exact ⟨hge i hi,J.fzm (hR.mem i hi)⟩
  . exact List.mem_cons_of_mem _ (List.mem_map.2 ⟨i,by simpa using hi,rfl⟩)
def RN (C:Nat->Array Value) (i:Nat):Nat->Value:=fun c=>((C i)[c]?).getD undef
def Rw (C:Nat->Array Value) (Ln:Nat->Nat) (st:Nat->Nat) (i:Nat):Array Value:=Rd (C i).size (st i) (Ln i) (RN C i)
end Go.Sw
namespace Go.Sw
open Go Go.RowKit
theorem SSOutR.mono {w w1 w2:World}{m:Nat}{Ln:Nat->Nat}{F:Nat->Nat->Int}{u:Value}(h:SSOutR w1 w2 m Ln F u)(hs:w.heap.size<=w1.heap.size):SSOutR w w2 m Ln F u:=by
  obtain ⟨D,b,cap,cs,β,κ,C,h1,h2⟩:=h;exact ⟨D,b,cap,cs,β,κ,C,fun x ds hx=>⟨Nat.le_trans hs (h1 x ds hx).1,(h1 x ds hx).2⟩,h2⟩
end Go.Sw
