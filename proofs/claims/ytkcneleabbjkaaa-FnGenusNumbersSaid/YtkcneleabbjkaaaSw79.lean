import Derived.Test.YtkcneleabbjkaaaSw74
set_option linter.unusedVariables false
set_option linter.unusedSimpArgs false
namespace Go.Sw
open Go Go.RowKit
section
variable {P : Program} {n : Nat} {F : List (Nat × Value)} {a : Act} {w : World} {d : Option Tmp} {t T T' e : TypeId} {pos : String} {af : Array Edge} {gd : Option (Nat × Bool)} {x y : Operand} {ad : Addr} {l c : Nat}
end
inductive FactF where
  | val (v:Value)
  | own (cs:Array Value) (n:Nat)
  | two (c1 c2:Array Value) (n1 n2:Nat)
def FactF.sem:FactF->A4->Value->Prop
  | .val v,_,u=>u=v
  | .own cs n,D,u=>∃ b,u = .slice (some ⟨b,0,none⟩) n n/\(b,cs)∈D
  | .two c1 c2 n1 n2,D,u=>∃ b b1 b2,u = .slice (some ⟨b,0,none⟩) 2 2/\(b,#[.slice (some ⟨b1,0,none⟩) n1 n1,.slice (some ⟨b2,0,none⟩) n2 n2])∈D/\(b1,c1)∈D/\(b2,c2)∈D
def Qy (l:List FactF) (s:Nat):Facts (A4×Option (Nat×Array Value)×Value):=fun i g u _=>match Nat.beq i s with
  | true=>u=g.2.2
  | false => match l[i]? with
    | some f=>f.sem g.1 u
    | none=>True
def Rn (w0:World) (D:A4) (L0:Own) (kr:Nat) (e0:Option (Nat×Array Value)) (R:A4->Option (Nat×Array Value)->Value->Prop) (b:Bool) (g:A4×Option (Nat×Array Value)×Value) (w:World):Prop:=
  AT w0 w (L0.set kr g.2.1) (g.1++D)/\(∀ x ds,(x,ds)∈g.1->w0.heap.size<=x/\∀ y es,(y,es)∈D->y≠x)/\(b=false->g.2.1=e0)/\(b=true->R g.1 g.2.1 g.2.2)
section
variable {P : Program} {w0 w : World} {D : A4} {L0 : Own} {kr s i k : Nat} {e0 : Option (Nat × Array Value)} {R : A4 -> Option (Nat × Array Value) -> Value -> Prop} {b : Bool} {g : A4 × Option (Nat × Array Value) × Value} {l : List FactF} {o : Oper} {a : Act}
end
def RO (x y z:Int) (c:Nat):Int:=if c=0 then x else if c=1 then y else z
open Go Go.RowKit Go.Ech
structure Tri (w:World) (b o m:Nat) (R:Nat->Nat->Int) (ca be ob:Nat->Nat):Prop where
  cell:∀ i,i<m->w.cell? ⟨b,o+i*1,none⟩=some (.slice (some ⟨be i,ob i,none⟩) 3 (ca i))
  num:∀ i,i<m->∀ j,j<3->w.cell? ⟨be i,ob i+j*1,none⟩=some (.int .i64 (R i j))
def Rs (w w':World) (f:Nat->Int) (v:Value):Prop:=∃ b c cs,v = .slice (some ⟨b,0,none⟩) 3 c/\w.heap.size<=b/\Blk w' b cs/\SlAt 1 v (some (b,cs)) 3 b c cs (fun k=>.int .i64 (f k))
end Go.Sw
namespace Go.Ech
open Go.Sw
theorem OD {p N n k:Nat}{E:Nat->Nat->Nat}{ld:Nat->Nat}(h:Rref p N E k ld)(hc:∀ c,c<n->DW k ld c):∀ i,i<n->i<k/\ld i=i:=by
  intro i
  induction i using Nat.strongRecOn with
  | ind i ih =>
    intro hi;obtain ⟨j,hj,e⟩:=hc i hi;have h1:¬ j<i:=fun hH=>by have:=(ih j hH (by omega)).2;omega
    have h2:¬ i<j:=fun hH=>by
      have h3:=h.mono i j hH hj;have h4:=ih (ld i) (by omega) (by omega);have:=h.inj h4.1 (show i<k by omega) h4.2
      omega
    have:j=i:=by omega
    subst this;exact ⟨hj,e⟩
theorem OP {p n:Nat}{F:Nat->Nat->Nat}(hp:primeN p)(hn0:0<n)(hn:n<=6)(O:∀ i c,n<=c->F i c=0)(hO:∀ i c,F i c<p)(hz:∀ x,Ker p 6 F n x->(∀ d,n<=d->d<6->x d=0)->∀ c,c<n->(p:Int)∣x c):FullK p n F:=by
  have hZ:=hp.two;obtain ⟨k,E,ld,hR,hk,hK⟩:=Hg (N:=6) (m:=n) hp hO;have hnl:∀ d,n<=d->d<6->¬ DW k ld d:=fun d h1 h2=>Gh hZ hR hK h2 (fun i _=>O i d h1);have hc:∀ c,c<n->DW k ld c:=by
    intro c hc;refine Decidable.byContradiction fun hno=>?_;have:=hz _ ((hK _).1 (hR.free_ker (show c<6 by omega) hno)) (fun d h1 h2=>by
      unfold free;rw [if_neg (by omega)]
      cases e:D7 k ld d with
      | none=>rfl
      | some j=>exact absurd ⟨j,CM e⟩ (hnl d h1 h2)) c hc
    rw [show free E k ld c c=1 by simp [free]] at this;have:=Int.le_of_dvd (by omega) this
    omega
  have hkn:k=n:=by have:=(OD hR hc (n - 1) (by omega)).1;omega
  subst hkn;exact ⟨E,ld,hR,hK⟩
theorem QQ {f:Nat->Int}{n a:Nat}(ha:a<n):sI (fun i=>f i*(dl i a:Int)) n=f a:=by
  rw [Cs ha (fun i _ hJ=>by simp [dl,hJ])];simp [dl]
theorem J1 {f:Nat->Int}{n a:Nat}(ha:a<n):sI (fun i=>(dl a i:Int)*f i) n=f a:=by
  rw [Cs ha (fun i _ hJ=>by simp [dl,Ne.symm hJ])];simp [dl]
end Go.Ech
namespace Go.Ech
open Go.Sw
def sol (p:Nat) (E:Nat->Nat->Nat) (k:Nat) (ld:Nat->Nat) (c d:Nat):Nat:=if d=c then 1 else match D7 k ld d with
  | some j=>(p - E j c)%p
  | none=>0
def nf (k:Nat) (ld:Nat->Nat):Nat->Nat
  | 0=>0
  | c+1=>if DW k ld c then nf k ld c else nf k ld c+1
def Rm (p n:Nat) (E:Nat->Nat->Nat) (k:Nat) (ld:Nat->Nat) (S:Nat->Nat->Nat):Prop:=∀ c,c<n->¬ DW k ld c->∀ d,S (nf k ld c) d=sol p E k ld c d
def RK (p n:Nat) (M:Nat->Nat->Nat) (m r:Nat) (V:Nat->Nat->Nat):Prop:=∃ (k:Nat) (E:Nat->Nat->Nat) (ld ld2:Nat->Nat),Rref p n E k ld/\(∀ x,Ker p n E k x↔Ker p n M m x)/\Rref p n V r ld2/\
  ∀ x,Ker p n V r x↔∀ c,c<n->¬ DW k ld c->(p:Int)∣dot n (ci (sol p E k ld c)) x
def RZ (n:Nat) (E:Nat->Nat->Nat) (i c:Nat):Nat:=if c<n then E i c else 0
def lv (ld:Nat->Nat) (q c:Nat):Nat:=match D7 q ld c with
  | some j=>j+1
  | none=>0
end Go.Ech
namespace Go.Sw
open Go Go.RowKit Go.Ech
def Rt (w0:World) (p N m:Nat) (M:Nat->Nat->Nat) (u:Value) (w':World):Prop:=∃ k E ld,Rref p N E k ld/\(∀ x,Ker p N E k x↔Ker p N M m x)/\(∀ i c,E i c<p)/\k<=m/\RowsOut w0 w' N k (fun i c=>.int .i64 (E i c:Int)) u
def Ru (w0:World) (u:Value) (w':World):Prop:=∃ b,u = .slice (some ⟨b,0,none⟩) 0 0/\Blk w' b #[]/\w0.heap.size<=b
def Ri (c1 c2:Array Value) (e0:Option (Nat×Array Value)) (D:A4) (e:Option (Nat×Array Value)) (u:Value):Prop:=e=e0/\∃ b b1 b2,u = .slice (some ⟨b,0,none⟩) 2 2/\(b,#[.slice (some ⟨b1,0,none⟩) 3 3,.slice (some ⟨b2,0,none⟩) 3 3])∈D/\(b1,c1)∈D/\(b2,c2)∈D
def Qc (k:Int):Value:=.int .i64 k
def PZ (k:Int) (es:List MapEntry) (i:Nat):Option (Option (Nat×Value)):=Instr.findNow (.int .i64) (Qc k) es i
def Ql (es:List MapEntry):Prop:=∀ e,e∈es->∃ k,e.key=Qc k
section
variable {P : Program} {n : Nat} {F : List (Nat × Value)} {a : Act} {w w0 : World} {d : Option Tmp} {t T kt et : TypeId} {pos : String} {af : Array Edge} {gd : Option (Nat × Bool)} {x y z : Operand} {X : List Nat} {L : Own} {D : A4}
end
def RS (k:Int) (tr nx tw fr to:Value) (ch:Int):Array Value:=#[.int .i64 k,tr,nx,tw,fr,to,.int .i64 ch]
def RP (i:Nat) (f:Nat->Value):Array Value:=Al 4 (fun c=>if c=0 then .int .i64 (i:Int) else f (c - 1))
end Go.Sw
