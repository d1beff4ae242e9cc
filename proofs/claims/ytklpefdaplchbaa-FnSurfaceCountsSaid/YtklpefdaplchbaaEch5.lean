import Derived.Test.YtklpefdaplchbaaSw19
import Derived.Test.YtklpefdaplchbaaEch3
set_option linter.unusedVariables false
set_option linter.unusedSimpArgs false
namespace Go.Sw
open Go Go.RowKit Go.Ech
variable {P : Program}
def BytesFr (w0:World) (L:Own) (N m:Nat) (M:Nat→Nat→Nat) (u:Value) (w':World):Prop:=∃ (D:Froz) (β:Nat→Nat) (b:Nat) (cs:Array Value),
  (∀ x ds,(x,ds)∈D→w0.heap.size≤x∧Blk w' x ds∧∀ (k:Nat) c es,L[k]? = some (some (c,es))→c≠x)∧RowsB D N m β M∧u = .slice (some ⟨b,0,none⟩) m m∧cs.size=m∧(∀ i,i<m→cs[0+i*1]? = some (.slice (some ⟨β i,0,none⟩) N N))∧(b,cs)∈D∧∀ i,i<m→β i≠b
theorem BytesOut.fresh {X:List Nat}{w0 w w':World}{L:Own}{D:Froz}{N m:Nat}{M:Nat→Nat→Nat}{u:Value}(hM:MemX X w0 w L D)(h:BytesOut w w' N m M u):BytesFr w0 L N m M u w':=by
  obtain ⟨D',β,b,cs,h1,h2⟩:=h;refine ⟨D',β,b,cs,fun x ds hm=>⟨Nat.le_trans hM.bel.size (h1 x ds hm).1,(h1 x ds hm).2,fun k c es hk e=>?_⟩,h2⟩;have:=(hM.blk k c es hk).2.lt;have:=(h1 x ds hm).1
  omega
theorem MemX.addBo {X:List Nat}{w0 w w':World}{L:Own}{D:Froz}{N m:Nat}{M:Nat→Nat→Nat}{u:Value}(h:MemX X w0 w L D)(hx:Ext w w')(hf:BytesOut w w' N m M u) :
    ∃ (D':Froz) (β:Nat→Nat) (b:Nat) (cs:Array Value),RowsB (D'++D) N m β M∧u = .slice (some ⟨b,0,none⟩) m m∧cs.size=m∧(∀ i,i<m→cs[0+i*1]? = some (.slice (some ⟨β i,0,none⟩) N N))∧(b,cs)∈D'++D∧(∀ i,i<m→β i≠b)∧(∀ i,i<m→w0.heap.size≤β i)∧w0.heap.size≤b∧MemX X w0 w' L (D'++D)∧(∀ c ds,(c,ds)∈D→∀ i,i<m→c≠β i):=by
  obtain ⟨D',β,b,cs,h1,h2,h3,h4,h5,h6,h7⟩:=hf;refine ⟨D',β,b,cs,h2.more (fun x hx=>List.mem_append_left _ hx),h3,h4,h5,List.mem_append_left _ h6,h7,fun i hi=>Nat.le_trans h.bel.size (h1 _ _ (h2.mem i hi)).1,Nat.le_trans h.bel.size (h1 _ _ h6).1,h.addD hx h1,fun c ds hm i hi e=>?_⟩;have:=(h.froz c ds hm).1.lt;have:=(h1 _ _ (h2.mem i hi)).1
  omega
theorem sI_cut {f:Nat→Int}{n N:Nat}(hn:n≤N)(h:∀ c,n≤c→c<N→f c=0):sI f N=sI f n:=by
  induction N with
  | zero=>rw [show n=0 by omega]
  | succ N ih =>
    by_cases e:n=N+1
    · rw [e]
    · simp only [sI];rw [ih (by omega) (fun c h1 h2=>h c h1 (by omega)),h N (by omega) (by omega)];omega
theorem sol_ker {p L k:Nat}{E:Nat→Nat→Nat}{ld:Nat→Nat}(h:Rref p (L+1) E k ld)(hn:¬ isLd k ld L):Ker p (L+1) E k (aug L (solK E ld L k)):=by
  have h1:=h.free_ker (show L<L+1 by omega) hn;intro i hi;have h2:=h1 i hi;have e:dot (L+1) (ci (E i)) (aug L (solK E ld L k))=(-1)*dot (L+1) (ci (E i)) (free E k ld L):=by
    rw [← dot_mul]
    unfold dot
    refine sI_congr fun c hc=>?_
    show ci (E i) c*aug L (solK E ld L k) c=ci (E i) c*(-1*free E k ld L c)
    congr 1
    unfold aug free solK
    by_cases e:c<L
    · rw [if_pos e,if_neg (by omega)]
      cases ldAt k ld c with
      | none=>simp
      | some j=>simp
    · rw [if_neg e,if_pos (by omega)];omega
  rw [e];exact Int.dvd_mul_of_dvd_right h2
theorem no_sol {p L k:Nat}{E:Nat→Nat→Nat}{ld:Nat→Nat}{x:Nat→Nat}(hp:2≤p)(h:Rref p (L+1) E k ld)(hl:isLd k ld L):¬ Ker p (L+1) E k (aug L x):=by
  intro hK;obtain ⟨i,hi,e⟩:=hl;have:=h.ker_lead hK hi (fun d h1 h2=>by omega);rw [e,aug_n] at this;have:=Int.le_of_dvd (by omega) (Int.dvd_neg.2 this)
  omega
theorem no_lead {p N k m c:Nat}{E M:Nat→Nat→Nat}{ld:Nat→Nat}(hp:2≤p)(h:Rref p N E k ld)(hK:∀ x,Ker p N E k x↔Ker p N M m x)(hc:c<N)(hz:∀ i,i<m→M i c=0):¬ isLd k ld c:=by
  rintro ⟨j,hj,e⟩;have h1:Ker p N M m (fun d=>if d=c then 1 else 0):=fun i hi=>by
    have:dot N (ci (M i)) (fun d=>if d=c then 1 else 0)=0:=by
      unfold dot
      refine sI_zero fun d _=>?_
      by_cases ed:d=c
      · simp [ci,ed,hz i hi]
      · simp [ed]
    rw [this];exact Int.dvd_zero _
  have h2:=h.ker_lead ((hK _).2 h1) hj (fun d h1 _=>by rw [if_neg (by omega)]);rw [e,if_pos rfl] at h2;have:=Int.le_of_dvd (by omega) h2
  omega
theorem solK_out {E:Nat→Nat→Nat}{ld:Nat→Nat}{L k c:Nat}(h:¬ isLd k ld c):solK E ld L k c=0:=by
  unfold solK
  rw [ldAt_eq_none (fun j hj e=>h ⟨j,hj,e⟩)]
end Go.Sw
namespace Go.Sw
open Go Go.RowKit
variable {P : Program}
section
variable {n : Nat} {F : List (Nat × Value)} {a : Act} {w : World} {d : Option Tmp} {t : TypeId} {pos : String} {af : Array Edge} {gd : Option (Nat × Bool)} {T T' : TypeId} {x y : Operand}
end
end Go.Sw
namespace Go.Sw
open Go Go.RowKit
variable {P : Program}
section
variable {ops : List Oper} {Q : Exit → Act → World → Prop} {n : Nat} {F : List (Nat × Value)}
def DepsG {G:Type} (ops:List Oper) (k s:Nat) (φ:Facts G) (o:Oper) (g:G) (a:Act) (w:World):Prop:=
  ∀ j,Nat.blt j k=true→Nat.beq j s=false→edgeTo o j=true→φ j g (a.tmps.getD (dstOf ops j) undef) w
def AfterS {G:Type} (S:Bool→G→World→Prop) (φ:Facts G) (bb:Bool) (g:G) (w w':World):Prop:=∃ g',S bb g' w'∧∀ j u,φ j g u w→φ j g' u w'
def AfterG {G:Type} (S:Bool→G→World→Prop) (φ:Facts G) (bb:Bool) (i:Nat) (g:G) (w:World) (v:Value) (w':World):Prop:=∃ g',S bb g' w'∧φ i g' v w'∧∀ j u,j≠i→φ j g u w→φ j g' u w'
def StepsG {G:Type} (P:Program) (ops:List Oper) (k s n:Nat) (F:List (Nat×Value)) (S:Bool→G→World→Prop) (φ:Facts G):List Oper→Nat→Prop
  | [],_=>True
  | o::r,i=>(if Nat.beq i s=true then ∀ a w g,Fr n a F→S false g w→DepsG ops k s φ o g a w→Does P o a w (fun _ w'=>AfterS S φ true g w w')
      else ∀ a w b g,Fr n a F→S b g w→(edgeS ops s i=true→b=false)→DepsG ops k s φ o g a w→Does P o a w (AfterG S φ b i g w))∧StepsG P ops k s n F S φ r (i+1)
end
def factsG (kt:Nat) (l:List Fact):Facts Own:=fun i L u w=>match l[i]? with
  | some (.own k cs mk)=>if k=kt then ∃ b cs',u=mk b∧L[k]? = some (some (b,cs')) else ∃ b,u=mk b∧L[k]? = some (some (b,cs))
  | some (.val v)=>u=v
  | some (.rel _)=>True
  | none=>True
def ParG (X:List Nat) (w0:World) (D:Froz) (W:List Nat) (L0:Own) (kt:Nat) (csO csN:Array Value) (bb:Bool) (L:Own) (w:World):Prop:=
  Par X w0 D W L0 L w∧∀ b cs,L[kt]? = some (some (b,cs))→cs=(if bb then csN else csO)
section
variable {X : List Nat} {w0 w : World} {D : Froz} {W : List Nat} {L0 L : Own} {kt : Nat} {csO csN : Array Value} {bb : Bool} {l : List Fact} {i : Nat} {o : Oper} {a : Act}
end
end Go.Sw
namespace Go.Sw
open Go Go.RowKit
variable {P : Program}
def vecsC (m:Nat) (V:Nat→Nat→Nat):Array Value:=fnC (m*6) (fun c=>.int .u8 (V (c / 6) (c%6):Int))
def vAtL (l:List (Nat→Nat)) (i:Nat):Nat→Nat:=l.getD i (fun _=>0)
section
variable {n : Nat} {F : List (Nat × Value)} {a : Act} {w : World} {d : Option Tmp} {t : TypeId} {pos : String} {af : Array Edge} {gd : Option (Nat × Bool)} {x : Operand}
theorem build2 {x0 x1:Operand}{v0 v1:Value}(hF:Fr n a F)(h0:look F x0=some v0)(h1:look F x1=some v1):(#[(0,x0),(1,x1)]:Array (Nat×Operand)).toList.map (fun p=>(p.1,a.eval p.2))=[(0,v0),(1,v1)]:=by simp [hF.eval h0,hF.eval h1]
end
end Go.Sw
namespace Go.Sw
open Go Go.RowKit
variable {P : Program}
section
variable {n : Nat} {F : List (Nat × Value)} {a : Act} {w : World} {d : Option Tmp} {t : TypeId} {pos : String} {af : Array Edge} {gd : Option (Nat × Bool)} {T : TypeId} {x : Operand}
theorem g_sliceArr {k b o s:Nat}{e:TypeId}(hT:P.underlying T=some (.array k e))(he:sizeP P e=some s)(hk:0<k)(hF:Fr n a F)(hx:look F x=some (ptr b o)):Gives P ⟨d,.slice T x none none none,t,pos,af,gd⟩ a w (.slice (some ⟨b,o,none⟩) k k):=
  gives_of_run (by
    have h2:=run_sizeOf he w
    have h3:¬ k=0:=by omega
    simp [execOp,Instr.sliceAt,run_underlying hT,hF.eval hx,Instr.sureAddr,Instr.sliceBounds,h2,h3,Addr.add_lit])
end
theorem MemX.ne2 {X:List Nat}{w0 w:World}{L:Own}{D:Froz}(h:MemX X w0 w L D){i j b c:Nat}{cs ds:Array Value}(hi:L[i]? = some (some (b,cs)))(hj:L[j]? = some (some (c,ds)))(hne:i≠j):b≠c:=fun e=>by
  subst e;exact hne (h.apart i j _ _ _ hi hj)
end Go.Sw
namespace Go.Ech
theorem sI_sub (f g:Nat→Int)(n:Nat):sI f n - sI g n=sI (fun i=>f i - g i) n:=by
  have:=sI_add (fun i=>f i - g i) g n;rw [show (fun i=>(f i - g i)+g i)=f from by funext i;omega] at this;omega
def Pr (n:Nat) (T:Nat→Nat→Nat→Nat) (x y:Nat→Int) (c:Nat):Int:=sI (fun a=>sI (fun b=>x a*y b*(T a b c:Int)) n) n
theorem Pr_right {n:Nat}{T:Nat→Nat→Nat→Nat}{x v:Nat→Int}{c:Nat}:Pr n T v x c=sI (fun b=>x b*sI (fun a=>v a*(T a b c:Int)) n) n:=by
  unfold Pr
  rw [sI_swap];exact sI_congr fun b _=>by rw [← sI_mul];exact sI_congr fun a _=>by grind
def AssI (p n:Nat) (T:Nat→Nat→Nat→Nat):Prop:=∀ i,i<n→∀ j,j<n→∀ k,k<n→∀ d,d<n→(p:Int)∣sI (fun a=>(T i j a:Int)*(T a k d:Int)) n - sI (fun b=>(T j k b:Int)*(T i b d:Int)) n
theorem Pr_unit_left {p n:Nat}{T:Nat→Nat→Nat→Nat}{u:Nat→Nat}(hu:UnitI p n T u)(w:Nat→Int){d:Nat}(hd:d<n):(p:Int)∣Pr n T (ci u) w d - w d:=by
  rw [Pr_right];have e:w d=sI (fun b=>w b*(dl b d:Int)) n:=by
    rw [sI_one hd]
    · simp [dl]
    · intro i _ hne;simp [dl,hne]
  rw [e,sI_sub];refine sI_dvd fun b hb=>?_;rw [← Int.mul_sub];exact Int.dvd_mul_of_dvd_right (hu.right b hb d hd)
structure InvI (p n:Nat) (T:Nat→Nat→Nat→Nat) (u v w:Nat→Nat):Prop where
  small:∀ c,w c<p
  out:∀ c,n≤c→w c=0
  right:∀ c,c<n→(p:Int)∣Pr n T (ci w) (ci v) c - (u c:Int)
  left:∀ c,c<n→(p:Int)∣Pr n T (ci v) (ci w) c - (u c:Int)
end Go.Ech
