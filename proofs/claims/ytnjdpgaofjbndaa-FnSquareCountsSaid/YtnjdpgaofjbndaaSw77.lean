import Derived.Test.YtnjdpgaofjbndaaSw72
import Derived.Test.YtnjdpgaofjbndaaSw66
import Derived.Test.YtnjdpgaofjbndaaSw19
import Derived.Test.YtnjdpgaofjbndaaEch6
import Derived.Test.YtnjdpgaofjbndaaSw27
set_option linter.unusedVariables false
set_option linter.unusedSimpArgs false
namespace Go.Sw
open Go Go.RowKit
variable {P : Program} {n : Nat} {F : List (Nat × Value)} {a : Act} {w : World} {d : Option Tmp} {t : TypeId} {pos : String} {af : Array Edge} {gd : Option (Nat × Bool)} {x y : Operand}
theorem g_max {T1 T2:TypeId}{k:IntKind}{A B C:Int}(hF:Fr n a F)(hx:look F x=some (.int k A))(hy:look F y=some (.int k B))(hC:(if B > A then B else A)=C):Gives P ⟨d,.call { callee:=.builtin .max,args:=#[x,y],argTypes:=#[T1,T2] },t,pos,af,gd⟩ a w (.int k C):=
  gives_of_run (by simp [execOp,resolve,invoke,hF.eval hx,hF.eval hy,builtin,Builtin.max_,Builtin.max2,hC])
end Go.Sw
namespace Go.Sw
open Go Go.RowKit
theorem SSOutR.mono {w w1 w2:World}{m:Nat}{Ln:Nat→Nat}{F:Nat→Nat→Int}{u:Value}(h:SSOutR w1 w2 m Ln F u)(hs:w.heap.size≤w1.heap.size):SSOutR w w2 m Ln F u:=by
  obtain ⟨D,b,cap,cs,β,κ,C,h1,h2⟩:=h;exact ⟨D,b,cap,cs,β,κ,C,fun x ds hx=>⟨Nat.le_trans hs (h1 x ds hx).1,(h1 x ds hx).2⟩,h2⟩
end Go.Sw
namespace Go.Sw
open Go Go.RowKit
section
variable {P : Program} {n : Nat} {F : List (Nat × Value)} {a : Act} {w : World} {d : Option Tmp} {t T T' e : TypeId} {pos : String} {af : Array Edge} {gd : Option (Nat × Bool)} {x y : Operand} {ad : Addr} {l c : Nat}
end
theorem own_none {L:Own}{k:Nat}(h:L[k]? = some none):L.set k none=L:=by
  apply List.ext_getElem?
  intro i;rw [List.getElem?_set]
  split
  · rename_i e;subst e;rw [if_pos (List.getElem?_eq_some_iff.1 h).1,h]
  · rfl
inductive FactF where
  | val (v:Value)
  | own (cs:Array Value) (n:Nat)
  | two (c1 c2:Array Value) (n1 n2:Nat)
def FactF.sem:FactF→Froz→Value→Prop
  | .val v,_,u=>u=v
  | .own cs n,D,u=>∃ b,u = .slice (some ⟨b,0,none⟩) n n∧(b,cs)∈D
  | .two c1 c2 n1 n2,D,u=>∃ b b1 b2,u = .slice (some ⟨b,0,none⟩) 2 2∧(b,#[.slice (some ⟨b1,0,none⟩) n1 n1,.slice (some ⟨b2,0,none⟩) n2 n2])∈D∧(b1,c1)∈D∧(b2,c2)∈D
theorem FactF.more {f:FactF}{D D':Froz}{u:Value}(h:f.sem D u)(hs:∀ x,x∈D→x∈D'):f.sem D' u:=by
  cases f with
  | val v=>exact h
  | own cs n=>obtain ⟨b,h1,h2⟩:=h;exact ⟨b,h1,hs _ h2⟩
  | two c1 c2 n1 n2=>obtain ⟨b,b1,b2,h1,h2,h3,h4⟩:=h;exact ⟨b,b1,b2,h1,hs _ h2,hs _ h3,hs _ h4⟩
def factsF (l:List FactF) (s:Nat):Facts (Froz×Option (Nat×Array Value)×Value):=fun i g u _=>match Nat.beq i s with
  | true=>u=g.2.2
  | false => match l[i]? with
    | some f=>f.sem g.1 u
    | none=>True
def ParF (w0:World) (D:Froz) (L0:Own) (kr:Nat) (e0:Option (Nat×Array Value)) (R:Froz→Option (Nat×Array Value)→Value→Prop) (b:Bool) (g:Froz×Option (Nat×Array Value)×Value) (w:World):Prop:=
  Mem w0 w (L0.set kr g.2.1) (g.1++D)∧(∀ x ds,(x,ds)∈g.1→w0.heap.size≤x∧∀ y es,(y,es)∈D→y≠x)∧(b=false→g.2.1=e0)∧(b=true→R g.1 g.2.1 g.2.2)
section
variable {P : Program} {w0 w : World} {D : Froz} {L0 : Own} {kr s i k : Nat} {e0 : Option (Nat × Array Value)} {R : Froz → Option (Nat × Array Value) → Value → Prop} {b : Bool} {g : Froz × Option (Nat × Array Value) × Value} {l : List FactF} {o : Oper} {a : Act}
theorem ParF.drew (h:ParF w0 D L0 kr e0 R b g w):ParF w0 D L0 kr e0 R b g w.drew:=⟨h.1.ext (Below.drew (Below.refl _ _)),h.2⟩
theorem ParF.mem (h:ParF w0 D L0 kr e0 R b g w)(hk:L0[kr]? = some none):Mem w0 w L0 D:=by
  have h1:=(h.1.drop kr).sub D (fun _ hx=>List.mem_append_right _ hx)
  rwa [List.set_set,own_none hk] at h1
end
def tri3 (x y z:Int) (c:Nat):Int:=if c=0 then x else if c=1 then y else z
end Go.Sw
namespace Go.Sw
open Go Go.RowKit Go.Ech
structure Tri (w:World) (b o m:Nat) (R:Nat→Nat→Int) (ca be ob:Nat→Nat):Prop where
  cell:∀ i,i<m→w.cell? ⟨b,o+i*1,none⟩=some (.slice (some ⟨be i,ob i,none⟩) 3 (ca i))
  num:∀ i,i<m→∀ j,j<3→w.cell? ⟨be i,ob i+j*1,none⟩=some (.int .i64 (R i j))
theorem Tri.ext {w w':World}{b o m:Nat}{R:Nat→Nat→Int}{ca be ob:Nat→Nat}(h:Tri w b o m R ca be ob)(hx:Ext w w'):Tri w' b o m R ca be ob:=
  ⟨fun i hi=>cell_ext (h.cell i hi) hx,fun i hi j hj=>cell_ext (h.num i hi j hj) hx⟩
theorem ArgSS.tri {w:World}{sl:Value}{m:Nat}{Ln:Nat→Nat}{R:Nat→Nat→Int}{xs:Nat→Option Addr}{ca be ob:Nat→Nat}(h:ArgSS w sl m Ln R xs ca be ob)(h0:0<m)(hl:∀ i,i<m→Ln i=3):∃ b o c,sl = .slice (some ⟨b,o,none⟩) m c∧Tri w b o m R ca be ob:=by
  obtain ⟨b,o,c,h1,h2⟩:=h.cell h0;refine ⟨b,o,c,h1,fun i hi=>?_,fun i hi j hj=>h.num i hi j (by rw [hl i hi];exact hj)⟩;have:=h2 i hi
  rwa [hl i hi,h.adr i hi (by rw [hl i hi];omega)] at this
def Num3 (w w':World) (f:Nat→Int) (v:Value):Prop:=∃ b c cs,v = .slice (some ⟨b,0,none⟩) 3 c∧w.heap.size≤b∧Blk w' b cs∧SlAt 1 v (some (b,cs)) 3 b c cs (fun k=>.int .i64 (f k))
theorem up3 {k b c:Nat}{cs:Array Value}{β κ:Nat→Nat}{C:Nat→Array Value}{P:Nat→Nat→Nat→Array Value→Prop}(h:∀ i,i<k→P i (β i) (κ i) (C i))(hk:P k b c cs):∀ i,i<k+1→P i (up β k b i) (up κ k c i) (upE C k cs i):=fun i hi=>by
  unfold up upE
  by_cases e:i=k
  · rw [if_pos e,if_pos e,if_pos e,e];exact hk
  · rw [if_neg e,if_neg e,if_neg e];exact h i (by omega)
theorem new_ne {X:List Nat}{w0 w:World}{L:Own}{D:Froz}{b x:Nat}{ds:Array Value}(h:MemX X w0 w L D)(hge:w.heap.size≤b)(hx:(x,ds)∈D):b≠x:=fun e=>by
  have h1:=(h.froz x ds hx).1.lt
  omega
end Go.Sw
namespace Go.Ech
open Go.Sw
theorem sI_sub' (f g:Nat→Int)(n:Nat):sI (fun i=>f i - g i) n=sI f n - sI g n:=by
  have:=sI_add (fun c=>f c - g c) g n;rw [show (fun i=>(f i - g i)+g i)=f from by funext i;omega] at this;omega
theorem sI_dl {f:Nat→Int}{n a:Nat}(ha:a<n):sI (fun i=>f i*(dl i a:Int)) n=f a:=by
  rw [sI_one ha (fun i _ hne=>by simp [dl,hne])];simp [dl]
theorem sI_dl' {f:Nat→Int}{n a:Nat}(ha:a<n):sI (fun i=>(dl a i:Int)*f i) n=f a:=by
  rw [sI_one ha (fun i _ hne=>by simp [dl,Ne.symm hne])];simp [dl]
theorem sI_mod {p:Nat}{f g h:Nat→Int}{n:Nat}(e:∀ i,i<n→(p:Int)∣g i - h i):(p:Int)∣sI (fun i=>f i*g i) n - sI (fun i=>f i*h i) n:=by
  rw [← sI_sub'];exact sI_dvd fun i hi=>by rw [← Int.mul_sub];exact Int.dvd_mul_of_dvd_right (e i hi)
theorem IsCop.left {p n:Nat}{F G:Nat→Nat→Nat}(hp:2≤p)(hn:n≤6)(hF:∀ i c,n≤c→F i c=0)(hf:FullK p n F)(h:IsCop p n F G):∀ i,i<n→∀ j,j<n→(p:Int)∣sI (fun k=>(G i k:Int)*(F k j:Int)) n - (dl i j:Int):=by
  intro i hi j hj;have hK:Ker p 6 F n (fun a=>if a<n then sI (fun k=>(G a k:Int)*(F k j:Int)) n - (dl a j:Int) else 0):=fun b hb=>by
    unfold dot
    rw [sI_cut hn (fun c h1 _=>by simp [show ¬ c<n by omega])];have e:sI (fun c=>ci (F b) c*(if c<n then sI (fun k=>(G c k:Int)*(F k j:Int)) n - (dl c j:Int) else 0)) n=sI (fun k=>(F k j:Int)*sI (fun c=>(F b c:Int)*(G c k:Int)) n) n - (F b j:Int):=by
      rw [sI_congr (g:=fun c=>(F b c:Int)*sI (fun k=>(G c k:Int)*(F k j:Int)) n - (F b c:Int)*(dl c j:Int)) (fun c hc=>by rw [if_pos hc,Int.mul_sub]),sI_sub',sI_dl hj]
      congr 1
      rw [sI_congr (g:=fun c=>sI (fun k=>(F b c:Int)*((G c k:Int)*(F k j:Int))) n) (fun c _=>(sI_mul _ _ _).symm),sI_swap];exact sI_congr fun k _=>by rw [← sI_mul];exact sI_congr fun c _=>by rw [← Int.mul_assoc];exact Int.mul_comm _ _
    rw [e];have h1:=sI_mod (p:=p) (f:=fun k=>(F k j:Int)) (g:=fun k=>sI (fun c=>(F b c:Int)*(G c k:Int)) n) (h:=fun k=>(dl b k:Int)) (n:=n) (fun k hk=>h.sol b hb k hk)
    rwa [show sI (fun k=>(F k j:Int)*(dl b k:Int)) n=(F b j:Int) from by
      rw [sI_congr (g:=fun k=>(dl b k:Int)*(F k j:Int)) (fun k _=>Int.mul_comm _ _)];exact sI_dl' hb] at h1
  have:=hf.zero hp hn hF hK (fun d h1 _=>by simp [show ¬ d<n by omega]) hi
  simpa only [if_pos hi] using this
end Go.Ech
namespace Go.Ech
open Go.Sw
def sol (p:Nat) (E:Nat→Nat→Nat) (k:Nat) (ld:Nat→Nat) (c d:Nat):Nat:=if d=c then 1 else match ldAt k ld d with
  | some j=>(p - E j c)%p
  | none=>0
def nf (k:Nat) (ld:Nat→Nat):Nat→Nat
  | 0=>0
  | c+1=>if isLd k ld c then nf k ld c else nf k ld c+1
def SolR (p n:Nat) (E:Nat→Nat→Nat) (k:Nat) (ld:Nat→Nat) (S:Nat→Nat→Nat):Prop:=∀ c,c<n→¬ isLd k ld c→∀ d,S (nf k ld c) d=sol p E k ld c d
def IsKer (p n:Nat) (M:Nat→Nat→Nat) (m r:Nat) (V:Nat→Nat→Nat):Prop:=∃ (k:Nat) (E:Nat→Nat→Nat) (ld ld2:Nat→Nat),Rref p n E k ld∧(∀ x,Ker p n E k x↔Ker p n M m x)∧Rref p n V r ld2∧
  ∀ x,Ker p n V r x↔∀ c,c<n→¬ isLd k ld c→(p:Int)∣dot n (ci (sol p E k ld c)) x
theorem isLd_congr {k:Nat}{ld ld':Nat→Nat}(e:∀ i,i<k→ld i=ld' i)(c:Nat):isLd k ld c↔isLd k ld' c:=
  ⟨fun ⟨i,hi,h⟩=>⟨i,hi,by rw [← e i hi];exact h⟩,fun ⟨i,hi,h⟩=>⟨i,hi,by rw [e i hi];exact h⟩⟩
theorem ldAt_congr {k:Nat}{ld ld':Nat→Nat}(e:∀ i,i<k→ld i=ld' i)(d:Nat):ldAt k ld d=ldAt k ld' d:=by
  unfold ldAt
  have:∀ l:List Nat,(∀ i∈l,i<k)→l.find? (fun i=>ld i == d)=l.find? (fun i=>ld' i == d):=by
    intro l
    induction l with
    | nil=>intro _;rfl
    | cons a l ih =>
      intro h;rw [List.find?_cons,List.find?_cons,e a (h a (List.mem_cons_self ..)),ih (fun i hi=>h i (List.mem_cons_of_mem _ hi))]
  exact this _ (fun i hi=>List.mem_range.1 hi)
theorem sol_congr {p n k:Nat}{E E':Nat→Nat→Nat}{ld ld':Nat→Nat}(e:∀ i,i<k→ld i=ld' i)(eE:∀ i,i<k→∀ c,c<n→E i c=E' i c){c:Nat}(hc:c<n)(d:Nat):sol p E k ld c d=sol p E' k ld' c d:=by
  unfold sol
  rw [ldAt_congr e d]
  split
  · rfl
  · cases h:ldAt k ld' d with
    | none=>rfl
    | some j=>dsimp only;rw [eE j (ldAt_some h).1 c hc]
theorem IsKer.unique {p n m r r':Nat}{M V V':Nat→Nat→Nat}(hp:2≤p)(h:IsKer p n M m r V)(h':IsKer p n M m r' V'):r=r'∧∀ i,i<r→∀ c,c<n→V i c=V' i c:=by
  obtain ⟨k,E,ld,ld2,h1,h2,h3,h4⟩:=h;obtain ⟨k',E',ld',ld2',h1',h2',h3',h4'⟩:=h';obtain ⟨rfl,e1,e2⟩:=rref_unique hp h1 h1' (fun x=>(h2 x).trans (h2' x).symm);have e3:∀ x,Ker p n V r x↔Ker p n V' r' x:=fun x=>by
    rw [h4 x,h4' x];have es:∀ c,c<n→ci (sol p E k ld c)=ci (sol p E' k ld' c):=fun c hc=>by
      funext d;unfold ci;rw [sol_congr e1 e2 hc d]
    exact ⟨fun q c hc hf=>by rw [← es c hc];exact q c hc (fun hl=>hf ((isLd_congr e1 c).1 hl)),fun q c hc hf=>by rw [es c hc];exact q c hc (fun hl=>hf ((isLd_congr e1 c).2 hl))⟩
  obtain ⟨er,_,eV⟩:=rref_unique hp h3 h3' e3;exact ⟨er,eV⟩
def padN (n:Nat) (E:Nat→Nat→Nat) (i c:Nat):Nat:=if c<n then E i c else 0
def lv (ld:Nat→Nat) (q c:Nat):Nat:=match ldAt q ld c with
  | some j=>j+1
  | none=>0
end Go.Ech
namespace Go.Sw
open Go Go.RowKit Go.Ech
theorem Blk.same {w:World}{b:Nat}{cs ds:Array Value}(h:Blk w b cs)(h2:Blk w b ds):cs=ds:=by
  obtain ⟨t1,h1⟩:=h;obtain ⟨t2,h3⟩:=h2;rw [h1] at h3;simp only [Option.some.injEq,Obj.cells.injEq] at h3;exact h3.1
theorem RowsOut.last {w w1 w2:World}{N k:Nat}{f:Nat→Nat→Value}{u:Value}(h:RowsOut w w1 N k f u)(hx:Ext w1 w2):RowsOut w w2 N k f u:=by
  obtain ⟨D,β,κ,C,b,cap,cs,h1,h2⟩:=h;exact ⟨D,β,κ,C,b,cap,cs,fun x ds hm=>⟨(h1 x ds hm).1,(h1 x ds hm).2.ext hx⟩,h2⟩
theorem rowsOut_le {w0 w w':World}{N k:Nat}{f:Nat→Nat→Value}{u:Value}(hs:w0.heap.size≤w.heap.size)(h:RowsOut w w' N k f u):RowsOut w0 w' N k f u:=by
  obtain ⟨D,β,κ,C,b,cap,cs,h1,h2,h3,h4⟩:=h;exact ⟨D,β,κ,C,b,cap,cs,fun x ds hm=>⟨Nat.le_trans hs (h1 x ds hm).1,(h1 x ds hm).2⟩,h2,h3,h4⟩
def KRel (w0:World) (p N m:Nat) (M:Nat→Nat→Nat) (u:Value) (w':World):Prop:=∃ k E ld,Rref p N E k ld∧(∀ x,Ker p N E k x↔Ker p N M m x)∧(∀ i c,E i c<p)∧k≤m∧RowsOut w0 w' N k (fun i c=>.int .i64 (E i c:Int)) u
theorem KRel.last {w0 w w':World}{p N m:Nat}{M:Nat→Nat→Nat}{u:Value}(h:KRel w0 p N m M u w)(hx:Ext w w'):KRel w0 p N m M u w':=by
  obtain ⟨k,E,ld,h1,h2,h3,h4,h5⟩:=h;exact ⟨k,E,ld,h1,h2,h3,h4,h5.last hx⟩
theorem KRel.of {X:List Nat}{w0 w w':World}{L:Own}{D:Froz}{p N m:Nat}{M:Nat→Nat→Nat}{u:Value}(hM:MemX X w0 w L D)(h:∃ k E ld,Rref p N E k ld∧(∀ x,Ker p N E k x↔Ker p N M m x)∧(∀ i c,E i c<p)∧k≤m∧RowsOut w w' N k (fun i c=>.int .i64 (E i c:Int)) u):KRel w0 p N m M u w':=by
  obtain ⟨k,E,ld,h1,h2,h3,h4,h5⟩:=h;exact ⟨k,E,ld,h1,h2,h3,h4,rowsOut_le hM.bel.size h5⟩
def EmpN (w0:World) (u:Value) (w':World):Prop:=∃ b,u = .slice (some ⟨b,0,none⟩) 0 0∧Blk w' b #[]∧w0.heap.size≤b
theorem EmpN.last {w0 w w':World}{u:Value}(h:EmpN w0 u w)(hx:Ext w w'):EmpN w0 u w':=by
  obtain ⟨b,h1,h2,h3⟩:=h;exact ⟨b,h1,h2.ext hx,h3⟩
theorem EmpN.build {P:Program}{o:Oper}{a:Act}{w0 w:World}{L:Own}{D:Froz}{k:Nat}(hk:k<L.length)(hg:Does P o a w (fun u w'=>∃ b,u = .slice (some ⟨b,0,none⟩) 0 0∧Mem w0 w' (L.set k (some (b,#[]))) D∧Ext w w')):Does P o a w (fun u w'=>Ext w w'∧EmpN w0 u w'):=
  hg.mono fun u w' ⟨b,h1,hM,hx⟩=>by
    have e:(L.set k (some (b,#[])))[k]? = some (some (b,#[])):=by rw [List.getElem?_set,if_pos rfl,if_pos hk]
    exact ⟨hx,b,h1,hM.row k e,hM.ge k e⟩
end Go.Sw
namespace Go.Sw
open Go Go.RowKit Go.Ech
def TwoR (c1 c2:Array Value) (e0:Option (Nat×Array Value)) (D:Froz) (e:Option (Nat×Array Value)) (u:Value):Prop:=e=e0∧∃ b b1 b2,u = .slice (some ⟨b,0,none⟩) 2 2∧(b,#[.slice (some ⟨b1,0,none⟩) 3 3,.slice (some ⟨b2,0,none⟩) 3 3])∈D∧(b1,c1)∈D∧(b2,c2)∈D
theorem TwoR.more {c1 c2:Array Value}{e0:Option (Nat×Array Value)}(D1 D2:Froz)(e:Option (Nat×Array Value))(u:Value)(hs:∀ x,x∈D1→x∈D2)(h:TwoR c1 c2 e0 D1 e u):TwoR c1 c2 e0 D2 e u:=by
  obtain ⟨h0,b,b1,b2,h1,h2,h3,h4⟩:=h;exact ⟨h0,b,b1,b2,h1,hs _ h2,hs _ h3,hs _ h4⟩
end Go.Sw
namespace Go.Sw
open Go Go.RowKit Go.Ech
theorem SSOutR.last {w w1 w2:World}{m:Nat}{Ln:Nat→Nat}{F:Nat→Nat→Int}{u:Value}(h:SSOutR w w1 m Ln F u)(hx:Ext w1 w2):SSOutR w w2 m Ln F u:=by
  obtain ⟨D,b,cap,cs,β,κ,C,h1,h2⟩:=h;exact ⟨D,b,cap,cs,β,κ,C,fun x ds hm=>⟨(h1 x ds hm).1,(h1 x ds hm).2.ext hx⟩,h2⟩
end Go.Sw
