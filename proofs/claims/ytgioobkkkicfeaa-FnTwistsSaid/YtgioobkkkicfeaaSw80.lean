import Derived.Test.YtgioobkkkicfeaaSw39
import Derived.StringKeys
set_option linter.unusedVariables false
set_option linter.unusedSimpArgs false
namespace Go.Sw
open Go Go.RowKit
section
variable {P : Program} {n : Nat} {F : List (Nat × Value)} {a : Act} {w w0 : World} {d : Option Tmp} {t T kt et : TypeId} {pos : String} {af : Array Edge} {gd : Option (Nat × Bool)} {x y z : Operand} {X : List Nat} {L : Own} {D : Al}
end
section
variable {P : Program} {n : Nat} {F : List (Nat × Value)} {a : Act} {w : World} {d : Option Tmp} {t T T' : TypeId} {pos : String} {af : Array Edge} {gd : Option (Nat × Bool)} {x y : Operand} {k : IntKind} {A B C : Int}
theorem RP (O:Fr n a F)(hx:look F x=some (.int k A))(hy:look F y=some (.int k B))(hC:k.wrap (((A%2 ^ k.bits).toNat ^^^ (B%2 ^ k.bits).toNat:Nat):Int)=C):BN P ⟨d,.binOp .xor T x y T',t,pos,af,gd⟩ a w (.int k C):=
  Ab (by simp [execOp,Bg,binOp,Op.intBits,O.eval hx,O.eval hy,hC])
end
theorem Np {x y:Nat}(hx:x<4)(hy:y<4):IntKind.i64.wrap ((((x:Int)%2 ^ IntKind.i64.bits).toNat ^^^ ((y:Int)%2 ^ IntKind.i64.bits).toNat:Nat):Int)=((x ^^^ y:Nat):Int):=by
  have h:∀ x:Nat,x<4->∀ y:Nat,y<4->IntKind.i64.wrap ((((x:Int)%2 ^ IntKind.i64.bits).toNat ^^^ ((y:Int)%2 ^ IntKind.i64.bits).toNat:Nat):Int)=((x ^^^ y:Nat):Int):=by decide
  exact h x hx y hy
theorem ML {x y:Nat}(hx:x<4)(hy:y<4):x ^^^ y<4:=by
  have h:∀ x:Nat,x<4->∀ y:Nat,y<4->x ^^^ y<4:=by decide
  exact h x hx y hy
section
variable {P : Program} {n : Nat} {F : List (Nat × Value)} {a : Act} {w : World} {d : Option Tmp} {t T T' : TypeId} {pos : String} {af : Array Edge} {gd : Option (Nat × Bool)} {x y : Operand} {k k' : IntKind} {A B C : Int}
theorem QR (O:Fr n a F)(hx:look F x=some (.int k A))(hy:look F y=some (.int k' B))(hB:¬ B<0)(hC:A.fdiv (2 ^ (min B.toNat k.bits))=C):BN P ⟨d,.binOp .shr T x y T',t,pos,af,gd⟩ a w (.int k C):=
  Ab (by simp [execOp,Bg,binOp,Op.shift,O.eval hx,O.eval hy,hB,hC])
theorem QU (O:Fr n a F)(hx:look F x=some (.int k A))(hy:look F y=some (.int k B))(hC:k.wrap ((BitVec.ofInt k.bits A &&& BitVec.ofInt k.bits B).toNat:Int)=C):BN P ⟨d,.binOp .and T x y T',t,pos,af,gd⟩ a w (.int k C):=
  Ab (by simp [execOp,Bg,binOp,Op.intBits,O.eval hx,O.eval hy,← hC])
end
theorem Gj (x:Nat):IntKind.u64.wrap (x:Int)=((x%18446744073709551616:Nat):Int):=by
  unfold IntKind.wrap IntKind.bits IntKind.signed
  simp
theorem Ji (x c:Nat):IntKind.u64.wrap ((x:Int)*(c:Int))=((x*c%18446744073709551616:Nat):Int):=by rw [← Gj];simp
theorem Fi (x c:Nat):IntKind.u64.wrap ((x:Int)+(c:Int))=(((x+c)%18446744073709551616:Nat):Int):=by rw [← Gj];simp
theorem MP (x:Nat):(x:Int).fdiv (2 ^ (min (33:Int).toNat IntKind.u64.bits))=((x / 8589934592:Nat):Int):=by
  rw [show (2:Int) ^ (min (33:Int).toNat IntKind.u64.bits)=((8589934592:Nat):Int) from by decide,Int.fdiv_eq_ediv_of_nonneg _ (by omega)]
  rfl
theorem Mw (x:Nat)(h:x<18446744073709551616):IntKind.u64.wrap ((BitVec.ofInt IntKind.u64.bits (x:Int) &&& BitVec.ofInt IntKind.u64.bits ((16777215:Nat):Int)).toNat:Int)=((x%16777216:Nat):Int):=by
  have e:(BitVec.ofInt IntKind.u64.bits (x:Int) &&& BitVec.ofInt IntKind.u64.bits ((16777215:Nat):Int)).toNat=x%16777216:=by
    show (BitVec.ofInt 64 (x:Int) &&& BitVec.ofInt 64 ((16777215:Nat):Int)).toNat=x%16777216
    rw [BitVec.toNat_and,BitVec.ofInt_natCast,BitVec.ofInt_natCast,BitVec.toNat_ofNat,BitVec.toNat_ofNat,Nat.mod_eq_of_lt (show x<2 ^ 64 by omega),show (16777215:Nat)%2 ^ 64=2 ^ 24 - 1 from by decide,Nat.and_two_pow_sub_one_eq_mod]
  rw [e,Gj,Nat.mod_eq_of_lt (by omega)]
def Ge (l:List (Value->Prop)):Facts Unit:=fun i _ v _=>(l.getD i (fun _=>True)) v
theorem BX {P:Program}{S:World->Prop}{l:List (Value->Prop)}{o:Oper}{a:Act}{w:World}{v:Value}{i:Nat}(hS:S w)(hg:BN P o a w v)(hv:Ge l i () v w):Does P o a w (After (fun _:Unit=>S) (Ge l) i () w):=
  hg.mono fun u w' ⟨e1,e2⟩=>by subst e1;subst e2;exact ⟨(),hS,hv,fun _ _ _ h=>h⟩
theorem DE {P:Program}{S:World->Prop}{l:List (Value->Prop)}{o:Oper}{a:Act}{w:World}{R:Value->World->Prop}{i:Nat}(h:Does P o a w R)(hr:∀ v w',R v w'->S w'/\Ge l i () v w'):Does P o a w (After (fun _:Unit=>S) (Ge l) i () w):=
  h.mono fun u w' hu=>⟨(),(hr u w' hu).1,(hr u w' hu).2,fun _ _ _ h=>h⟩
def BI (sl:Value) (at_ h:Nat):Array Value:=#[sl,.int .i64 (at_:Int),.int .u64 (h:Int)]
def CodeB (w:World) (X:List Nat) (sl:Value) (m:Nat):Prop:=
  m<=4096/\(∃ x c,sl = .slice x m c)/\(0<m->∃ (b o c:Nat) (F:Nat->Nat),sl = .slice (some ⟨b,o,none⟩) m c/\b<w.heap.size/\b ∉ X/\(∀ i,F i<=255)/\∀ i,i<m->w.cell? ⟨b,o+i*1,none⟩=some (.int .u8 (F i:Int)))
theorem G3 {X:List Nat}{w w':World}{b o:Nat}{v:Value}(h:w.cell? ⟨b,o,none⟩=some v)(hx:ExtX X w w')(hb:b<w.heap.size)(hX:b ∉ X):w'.cell? ⟨b,o,none⟩=some v:=by
  unfold World.cell? at h ⊢
  simp only [hx.block b hb hX];exact h
theorem CodeB.carry {X Y:List Nat}{w0 w:World}{sl:Value}{m:Nat}(h:CodeB w0 X sl m)(hx:ExtX X w0 w)(hY:∀ y,y∈Y->y∈X\/w0.heap.size<=y):CodeB w Y sl m:=
  ⟨h.1,h.2.1,fun hm=>by
    obtain ⟨b,o,c,F,h1,h2,h3,h4,h5⟩:=h.2.2 hm
    refine ⟨b,o,c,F,h1,Nat.lt_of_lt_of_le h2 hx.size,fun hb=>?_,h4,fun i hi=>G3 (h5 i hi) hx h2 h3⟩
    rcases hY b hb with e | e
    . exact h3 e
    . omega⟩
theorem MemX.code {X:List Nat}{w0 w:World}{L:Own}{D:Al}{sl:Value}{m k b:Nat}{cs:Array Value}(h:MemX X w0 w L D)(hc:CodeB w0 X sl m)(hk:L[k]? = some (some (b,cs))):CodeB w [b] sl m:=
  hc.carry h.bel (fun y hy=>by
    have e:y=b:=by simpa using hy
    subst e
    exact (h.blk k y cs hk).1.symm)
theorem AG {sl:Value}{at_ h:Nat}:(BI sl at_ h).size=3:=rfl
def He (x n:Int):Prop:=0<=x/\(1<=n->x<n)/\(n<1->x=0)
theorem CallsX.mono {P:Program}{X:List Nat}{f:FuncId}{args:Array Value}{w:World}{R R':Value->World->Prop}(h:CallsX P X f args w R)(hr:∀ v w',R v w'->R' v w'):CallsX P X f args w R':=
  Calls.mono h (fun _ _ ⟨v,he,h1,h2⟩=>⟨v,he,h1,hr v _ h2⟩)
section
variable {n : Nat} {F : List (Nat × Value)} {a : Act}
theorem Mt {x0 x1:Operand}{v0 v1:Value}(O:Fr n a F)(h0:look F x0=some v0)(h1:look F x1=some v1):(#[(0,x0),(2,x1)]:Array (Nat×Operand)).toList.map (fun p=>(p.1,a.eval p.2))=[(0,v0),(2,v1)]:=by simp [O.eval h0,O.eval h1]
theorem Q4 {x0 x1 x2 x3 x4 x5 x6:Operand}{v0 v1 v2 v3 v4 v5 v6:Value}(O:Fr n a F)(h0:look F x0=some v0)(h1:look F x1=some v1)(h2:look F x2=some v2)(h3:look F x3=some v3)(h4:look F x4=some v4)(h5:look F x5=some v5)(h6:look F x6=some v6):(#[(0,x0),(1,x1),(2,x2),(3,x3),(4,x4),(5,x5),(6,x6)]:Array (Nat×Operand)).toList.map (fun p=>(p.1,a.eval p.2))=[(0,v0),(1,v1),(2,v2),(3,v3),(4,v4),(5,v5),(6,v6)]:=by simp [O.eval h0,O.eval h1,O.eval h2,O.eval h3,O.eval h4,O.eval h5,O.eval h6]
end
variable {P : Program}
def Exit.goes (J:Nat->Act->World->Prop) (Q:Exit->Act->World->Prop):Exit->Act->World->Prop
  | .goto l,a,w=>J l a w
  | e,a,w=>Q e a w
section
variable {Q : Exit -> Act -> World -> Prop} {J : Nat -> Act -> World -> Prop} {K : Act -> World -> Prop} {a : Act} {w : World}
end
section
variable {n : Nat} {F : List (Nat × Value)} {a : Act} {w : World} {d : Option Tmp} {t T : TypeId} {pos : String} {af : Array Edge} {gd : Option (Nat × Bool)} {x : Operand}
theorem Bd {b o:Nat}(O:Fr n a F)(hx:look F x=some (ptr b o)):BN P ⟨d,.nilCheck x,t,pos,af,gd⟩ a w (ptr b o):=
  Ab (by simp [execOp,O.eval hx])
end
theorem str_eq {s u:ByteArray}(h:s.toList=u.toList):s=u:=by
  have h2:(s.toList == u.toList)=true:=by rw [h];simp
  exact ByteArray.ext (by simpa [ByteArray.toList_eq] using h2)
section
variable {P : Program} {fn : Func} {a : Act} {w : World}
theorem GO {r s t:ResultVar}{v u x:Value}{R:Ending->World->Prop}(hr:fn.results = #[r,s,t])(hd:a.defers=[])(h1:Fo P a w r v)(h2:Fo P a w s u)(h3:Fo P a w t x)(h:R (.returned (.tuple #[v,u,x])) w):bodyPost P fn R .ret a w:=
  bodyPost_ret (by
    rw [En,hr]
    simp [Dw h1,Dw h2,Dw h3]) hd h
end
end Go.Sw
namespace Go.Sw
open Go Go.RowKit
theorem Dc {n:Int}{M:Nat->Nat->Nat}{o v:Nat}(i j:Nat)(h:o=1+i*6+j)(hi:i<6)(hj:j<6):(AB n M).setIfInBounds o (.int .u8 (v:Int))=AB n (fun a b=>if a=i/\b=j then v else M a b):=by
  subst h;refine Me (by rw [Array.size_setIfInBounds,AA]) ?_ ?_
  . rw [Array.getElem?_setIfInBounds_ne (by omega)];exact Au rfl
  . intro a b ha hb
    by_cases e:a=i/\b=j
    . obtain ⟨rfl,rfl⟩:=e
      rw [if_pos ⟨rfl,rfl⟩,Array.getElem?_setIfInBounds_self_of_lt (by rw [AA];omega)]
    . rw [if_neg e,Array.getElem?_setIfInBounds_ne (by omega)];exact BU a b rfl ha hb
section
variable {P : Program} {n : Nat} {F : List (Nat × Value)} {a : Act} {w w0 : World} {d : Option Tmp} {t T kt et : TypeId} {pos : String} {af : Array Edge} {gd : Option (Nat × Bool)} {x y z : Operand} {X : List Nat} {L : Own} {D : Al}
end
theorem IsMap.setRow {w:World}{b q:Nat}{cs cs':Array Value}{es:Array MapEntry}{c:Nat}(h:IsMap w q es c)(hb:Blk w b cs):IsMap (w.setRow b cs') q es c:=by
  have hH:q≠b:=fun e=>by
    obtain ⟨t,ht⟩:=hb
    unfold IsMap at h
    rw [e,ht] at h;cases h
  unfold IsMap
  rw [setRow_other w b q cs' hH];exact h
section
variable {P : Program} {n : Nat} {F : List (Nat × Value)} {a : Act} {w w0 : World} {d : Option Tmp} {t T : TypeId} {pos : String} {af : Array Edge} {gd : Option (Nat × Bool)} {x y : Operand} {X : List Nat} {L : Own} {D : Al}
end
variable {P : Program} {n : Nat} {F : List (Nat × Value)} {a : Act} {w : World} {d : Option Tmp} {t : TypeId} {pos : String} {af : Array Edge} {gd : Option (Nat × Bool)} {x y : Operand}
theorem JP {T1 T2:TypeId}{k:IntKind}{A B C:Int}(O:Fr n a F)(hx:look F x=some (.int k A))(hy:look F y=some (.int k B))(hC:(if B > A then B else A)=C):BN P ⟨d,.call { callee:=.builtin .max,args:=#[x,y],argTypes:=#[T1,T2] },t,pos,af,gd⟩ a w (.int k C):=
  Ab (by simp [execOp,resolve,invoke,O.eval hx,O.eval hy,builtin,Builtin.max_,Builtin.max2,hC])
end Go.Sw
namespace Go.Sw
open Go Go.RowKit
theorem SSOutR.mono {w w1 w2:World}{m:Nat}{Ln:Nat->Nat}{F:Nat->Nat->Int}{u:Value}(h:SSOutR w1 w2 m Ln F u)(hs:w.heap.size<=w1.heap.size):SSOutR w w2 m Ln F u:=by
  obtain ⟨D,b,cap,cs,β,κ,C,h1,h2⟩:=h;exact ⟨D,b,cap,cs,β,κ,C,fun x ds hx=>⟨Nat.le_trans hs (h1 x ds hx).1,(h1 x ds hx).2⟩,h2⟩
section
variable {P : Program} {n : Nat} {F : List (Nat × Value)} {a : Act} {w : World} {d : Option Tmp} {t T T' e : TypeId} {pos : String} {af : Array Edge} {gd : Option (Nat × Bool)} {x y : Operand} {ad : Addr} {l c : Nat}
end
theorem OQ {L:Own}{k:Nat}(h:L[k]? = some none):L.set k none=L:=by
  apply List.ext_getElem?
  intro i;rw [List.getElem?_set]
  split
  . rename_i e;subst e;rw [if_pos (List.getElem?_eq_some_iff.1 h).1,h]
  . rfl
inductive FactF where
  | val (v:Value)
  | own (cs:Array Value) (n:Nat)
  | two (c1 c2:Array Value) (n1 n2:Nat)
def FactF.sem:FactF->Al->Value->Prop
  | .val v,_,u=>u=v
  | .own cs n,D,u=>∃ b,u = .slice (some ⟨b,0,none⟩) n n/\(b,cs)∈D
  | .two c1 c2 n1 n2,D,u=>∃ b b1 b2,u = .slice (some ⟨b,0,none⟩) 2 2/\(b,#[.slice (some ⟨b1,0,none⟩) n1 n1,.slice (some ⟨b2,0,none⟩) n2 n2])∈D/\(b1,c1)∈D/\(b2,c2)∈D
theorem FactF.more {f:FactF}{D D':Al}{u:Value}(h:f.sem D u)(hs:∀ x,x∈D->x∈D'):f.sem D' u:=by
  cases f with
  | val v=>exact h
  | own cs n=>obtain ⟨b,h1,h2⟩:=h;exact ⟨b,h1,hs _ h2⟩
  | two c1 c2 n1 n2=>obtain ⟨b,b1,b2,h1,h2,h3,h4⟩:=h;exact ⟨b,b1,b2,h1,hs _ h2,hs _ h3,hs _ h4⟩
def Rv (l:List FactF) (s:Nat):Facts (Al×Option (Nat×Array Value)×Value):=fun i g u _=>match Nat.beq i s with
  | true=>u=g.2.2
  | false => match l[i]? with
    | some f=>f.sem g.1 u
    | none=>True
def ParF (w0:World) (D:Al) (L0:Own) (kr:Nat) (e0:Option (Nat×Array Value)) (R:Al->Option (Nat×Array Value)->Value->Prop) (b:Bool) (g:Al×Option (Nat×Array Value)×Value) (w:World):Prop:=
  AR w0 w (L0.set kr g.2.1) (g.1++D)/\(∀ x ds,(x,ds)∈g.1->w0.heap.size<=x/\∀ y es,(y,es)∈D->y≠x)/\(b=false->g.2.1=e0)/\(b=true->R g.1 g.2.1 g.2.2)
section
variable {P : Program} {w0 w : World} {D : Al} {L0 : Own} {kr s i k : Nat} {e0 : Option (Nat × Array Value)} {R : Al -> Option (Nat × Array Value) -> Value -> Prop} {b : Bool} {g : Al × Option (Nat × Array Value) × Value} {l : List FactF} {o : Oper} {a : Act}
theorem ParF.mem (h:ParF w0 D L0 kr e0 R b g w)(hk:L0[kr]? = some none):AR w0 w L0 D:=by
  have h1:=(h.1.drop kr).sub D (fun _ hx=>List.mem_append_right _ hx)
  rwa [List.set_set,OQ hk] at h1
end
def Sc (x y z:Int) (c:Nat):Int:=if c=0 then x else if c=1 then y else z
open Go Go.RowKit Go.Ech
structure Tri (w:World) (b o m:Nat) (R:Nat->Nat->Int) (ca be ob:Nat->Nat):Prop where
  cell:∀ i,i<m->w.cell? ⟨b,o+i*1,none⟩=some (.slice (some ⟨be i,ob i,none⟩) 3 (ca i))
  num:∀ i,i<m->∀ j,j<3->w.cell? ⟨be i,ob i+j*1,none⟩=some (.int .i64 (R i j))
def S7 (w w':World) (f:Nat->Int) (v:Value):Prop:=∃ b c cs,v = .slice (some ⟨b,0,none⟩) 3 c/\w.heap.size<=b/\Blk w' b cs/\SlAt 1 v (some (b,cs)) 3 b c cs (fun k=>.int .i64 (f k))
end Go.Sw
namespace Go.Ech
open Go.Sw
theorem Of {p N n k:Nat}{E:Nat->Nat->Nat}{ld:Nat->Nat}(h:Rref p N E k ld)(hc:∀ c,c<n->Bx k ld c):∀ i,i<n->i<k/\ld i=i:=by
  intro i
  induction i using Nat.strongRecOn with
  | ind i ih =>
    intro hi;obtain ⟨j,hj,e⟩:=hc i hi;have h1:¬ j<i:=fun hJ=>by have:=(ih j hJ (by omega)).2;omega
    have h2:¬ i<j:=fun hJ=>by
      have h3:=h.mono i j hJ hj;have h4:=ih (ld i) (by omega) (by omega);have:=h.inj h4.1 (show i<k by omega) h4.2
      omega
    have:j=i:=by omega
    subst this;exact ⟨hj,e⟩
theorem Jf (f g:Nat->Int)(n:Nat):sI (fun i=>f i - g i) n=sI f n - sI g n:=by
  have:=Dr (fun c=>f c - g c) g n;rw [show (fun i=>(f i - g i)+g i)=f from by funext i;omega] at this;omega
theorem RF {f:Nat->Int}{n a:Nat}(ha:a<n):sI (fun i=>f i*(dl i a:Int)) n=f a:=by
  rw [Bl ha (fun i _ hH=>by simp [dl,hH])];simp [dl]
theorem Le {f:Nat->Int}{n a:Nat}(ha:a<n):sI (fun i=>(dl a i:Int)*f i) n=f a:=by
  rw [Bl ha (fun i _ hH=>by simp [dl,Ne.symm hH])];simp [dl]
theorem Lc {p:Nat}{f g h:Nat->Int}{n:Nat}(e:∀ i,i<n->(p:Int)∣g i - h i):(p:Int)∣sI (fun i=>f i*g i) n - sI (fun i=>f i*h i) n:=by
  rw [← Jf];exact Cu fun i hi=>by rw [← Int.mul_sub];exact Int.dvd_mul_of_dvd_right (e i hi)
theorem IsCop.left {p n:Nat}{F G:Nat->Nat->Nat}(hp:2<=p)(hn:n<=6)(O:∀ i c,n<=c->F i c=0)(hf:FullK p n F)(h:IsCop p n F G):∀ i,i<n->∀ j,j<n->(p:Int)∣sI (fun k=>(G i k:Int)*(F k j:Int)) n - (dl i j:Int):=by
  intro i hi j hj;have hK:Ker p 6 F n (fun a=>if a<n then sI (fun k=>(G a k:Int)*(F k j:Int)) n - (dl a j:Int) else 0):=fun b hb=>by
    unfold dot
    rw [Gm hn (fun c h1 _=>by simp [show ¬ c<n by omega])];have e:sI (fun c=>ci (F b) c*(if c<n then sI (fun k=>(G c k:Int)*(F k j:Int)) n - (dl c j:Int) else 0)) n=sI (fun k=>(F k j:Int)*sI (fun c=>(F b c:Int)*(G c k:Int)) n) n - (F b j:Int):=by
      rw [Ar (g:=fun c=>(F b c:Int)*sI (fun k=>(G c k:Int)*(F k j:Int)) n - (F b c:Int)*(dl c j:Int)) (fun c hc=>by rw [if_pos hc,Int.mul_sub]),Jf,RF hj]
      congr 1
      rw [Ar (g:=fun c=>sI (fun k=>(F b c:Int)*((G c k:Int)*(F k j:Int))) n) (fun c _=>(Cb _ _ _).symm),C4];exact Ar fun k _=>by rw [← Cb];exact Ar fun c _=>by rw [← Int.mul_assoc];exact Int.mul_comm _ _
    rw [e];have h1:=Lc (p:=p) (f:=fun k=>(F k j:Int)) (g:=fun k=>sI (fun c=>(F b c:Int)*(G c k:Int)) n) (h:=fun k=>(dl b k:Int)) (n:=n) (fun k hk=>h.sol b hb k hk)
    rwa [show sI (fun k=>(F k j:Int)*(dl b k:Int)) n=(F b j:Int) from by
      rw [Ar (g:=fun k=>(dl b k:Int)*(F k j:Int)) (fun k _=>Int.mul_comm _ _)];exact Le hb] at h1
  have:=hf.zero hp hn O hK (fun d h1 _=>by simp [show ¬ d<n by omega]) hi
  simpa only [if_pos hi] using this
end Go.Ech
namespace Go.Ech
open Go.Sw
def sol (p:Nat) (E:Nat->Nat->Nat) (k:Nat) (ld:Nat->Nat) (c d:Nat):Nat:=if d=c then 1 else match Cw k ld d with
  | some j=>(p - E j c)%p
  | none=>0
theorem La {p k c d:Nat}{E:Nat->Nat->Nat}{ld:Nat->Nat}(hp:2<=p):sol p E k ld c d<p:=by
  unfold sol
  split
  . omega
  . cases Cw k ld d with
    | none=>show 0<p;omega
    | some j=>exact Nat.mod_lt _ (by omega)
def nf (k:Nat) (ld:Nat->Nat):Nat->Nat
  | 0=>0
  | c+1=>if Bx k ld c then nf k ld c else nf k ld c+1
theorem OT {k:Nat}{ld:Nat->Nat}:∀ c,nf k ld c<=c
  | 0=>Nat.le_refl _
  | c+1=>by have:=OT (k:=k) (ld:=ld) c;rw [nf];split<;>omega
theorem EO {k c:Nat}{ld:Nat->Nat}(h:¬ Bx k ld c):nf k ld (c+1)=nf k ld c+1:=by rw [nf,if_neg h]
theorem Er {k c:Nat}{ld:Nat->Nat}(h:Bx k ld c):nf k ld (c+1)=nf k ld c:=by rw [nf,if_pos h]
theorem Po {k:Nat}{ld:Nat->Nat}{c d:Nat}(h:c<=d):nf k ld c<=nf k ld d:=by
  induction d with
  | zero=>rw [show c=0 by omega];exact Nat.le_refl _
  | succ d ih =>
    by_cases e:c=d+1
    . rw [e];exact Nat.le_refl _
    . have:=ih (by omega)
      rw [nf];split<;>omega
theorem Kq {k:Nat}{ld:Nat->Nat}{c d:Nat}(h:c<d)(hf:¬ Bx k ld c):nf k ld c<nf k ld d:=by
  have:=Po (k:=k) (ld:=ld) (show c+1<=d by omega);rw [EO hf] at this;omega
theorem Kr {k:Nat}{ld:Nat->Nat}:∀ (n a:Nat),a<nf k ld n->∃ c,c<n/\¬ Bx k ld c/\nf k ld c=a
  | 0,a,h=>absurd h (by rw [nf];omega)
  | n + 1, a, h => by
    by_cases hl:Bx k ld n
    . have h':a<nf k ld n:=by rw [← Er hl];exact h
      obtain ⟨c,h1,h2,h3⟩:=Kr n a h'
      exact ⟨c,by omega,h2,h3⟩
    . have h':a<nf k ld n+1:=by rw [← EO hl];exact h
      by_cases e:a=nf k ld n
      . exact ⟨n,by omega,hl,e.symm⟩
      . obtain ⟨c,h1,h2,h3⟩:=Kr (k:=k) (ld:=ld) n a (by omega)
        exact ⟨c,by omega,h2,h3⟩
def Iq (p n:Nat) (E:Nat->Nat->Nat) (k:Nat) (ld:Nat->Nat) (S:Nat->Nat->Nat):Prop:=∀ c,c<n->¬ Bx k ld c->∀ d,S (nf k ld c) d=sol p E k ld c d
theorem RL {p n N k:Nat}{E S:Nat->Nat->Nat}{ld:Nat->Nat}{x:Nat->Int}(hS:Iq p n E k ld S):Ker p N S (nf k ld n) x↔∀ c,c<n->¬ Bx k ld c->(p:Int)∣dot N (ci (sol p E k ld c)) x:=by
  have e:∀ c,c<n->¬ Bx k ld c->ci (S (nf k ld c))=ci (sol p E k ld c):=fun c hc hf=>by
    funext d;unfold ci;rw [hS c hc hf d]
  constructor
  . intro h c hc hf
    have:=h _ (Kq hc hf)
    rwa [e c hc hf] at this
  . intro h a ha
    obtain ⟨c,hc,hf,rfl⟩:=Kr n a ha;rw [e c hc hf];exact h c hc hf
theorem Pc {p n k:Nat}{E:Nat->Nat->Nat}{ld:Nat->Nat}(hp:2<=p):∃ S,Iq p n E k ld S/\∀ a d,S a d<p:=by
  refine ⟨fun a d=>if h:∃ c,c<n/\¬ Bx k ld c/\nf k ld c=a then sol p E k ld (Classical.choose h) d else 0,fun c hc hf d=>?_,fun a d=>?_⟩
  . have hx:∃ c',c'<n/\¬ Bx k ld c'/\nf k ld c'=nf k ld c:=⟨c,hc,hf,rfl⟩
    dsimp only
    rw [dif_pos hx];have hs:=Classical.choose_spec hx;have:Classical.choose hx=c:=by
      rcases Nat.lt_trichotomy (Classical.choose hx) c with h | h | h
      . have:=Kq (k:=k) (ld:=ld) h hs.2.1;omega
      . exact h
      . have:=Kq (k:=k) (ld:=ld) h hf;omega
    rw [this]
  . dsimp only
    split
    . exact La hp
    . omega
def IsKer (p n:Nat) (M:Nat->Nat->Nat) (m r:Nat) (V:Nat->Nat->Nat):Prop:=∃ (k:Nat) (E:Nat->Nat->Nat) (ld ld2:Nat->Nat),Rref p n E k ld/\(∀ x,Ker p n E k x↔Ker p n M m x)/\Rref p n V r ld2/\
  ∀ x,Ker p n V r x↔∀ c,c<n->¬ Bx k ld c->(p:Int)∣dot n (ci (sol p E k ld c)) x
theorem Kz {p n m k r:Nat}{M E S V:Nat->Nat->Nat}{ld ld2:Nat->Nat}(h:Rref p n E k ld)(hk:∀ x,Ker p n E k x↔Ker p n M m x)(hS:Iq p n E k ld S)(h2:Rref p n V r ld2)(hO:∀ x,Ker p n V r x↔Ker p n S (nf k ld n) x):IsKer p n M m r V:=
  ⟨k,E,ld,ld2,h,hk,h2,fun x=>(hO x).trans (RL hS)⟩
theorem Jr {p n m:Nat}{M:Nat->Nat->Nat}(hp:primeN p)(I:∀ i c,M i c<p):∃ r V,IsKer p n M m r V:=by
  obtain ⟨k,E,ld,h,_,hk⟩:=EN (N:=n) (m:=m) hp I;obtain ⟨S,hS,hSp⟩:=Pc (p:=p) (n:=n) (k:=k) (E:=E) (ld:=ld) hp.two;obtain ⟨r,V,ld2,h2,_,hO⟩:=EN (N:=n) (m:=nf k ld n) hp hSp;exact ⟨r,V,Kz h hk hS h2 hO⟩
theorem IJ {k:Nat}{ld ld':Nat->Nat}(e:∀ i,i<k->ld i=ld' i)(c:Nat):Bx k ld c↔Bx k ld' c:=
  ⟨fun ⟨i,hi,h⟩=>⟨i,hi,by rw [← e i hi];exact h⟩,fun ⟨i,hi,h⟩=>⟨i,hi,by rw [e i hi];exact h⟩⟩
theorem Lr {k:Nat}{ld ld':Nat->Nat}(e:∀ i,i<k->ld i=ld' i)(d:Nat):Cw k ld d=Cw k ld' d:=by
  unfold Cw
  have:∀ l:List Nat,(∀ i∈l,i<k)->l.find? (fun i=>ld i == d)=l.find? (fun i=>ld' i == d):=by
    intro l
    induction l with
    | nil=>intro _;rfl
    | cons a l ih =>
      intro h;rw [List.find?_cons,List.find?_cons,e a (h a (List.mem_cons_self ..)),ih (fun i hi=>h i (List.mem_cons_of_mem _ hi))]
  exact this _ (fun i hi=>List.mem_range.1 hi)
theorem NG {p n k:Nat}{E E':Nat->Nat->Nat}{ld ld':Nat->Nat}(e:∀ i,i<k->ld i=ld' i)(eE:∀ i,i<k->∀ c,c<n->E i c=E' i c){c:Nat}(hc:c<n)(d:Nat):sol p E k ld c d=sol p E' k ld' c d:=by
  unfold sol
  rw [Lr e d]
  split
  . rfl
  . cases h:Cw k ld' d with
    | none=>rfl
    | some j=>dsimp only;rw [eE j (CG h).1 c hc]
theorem IsKer.unique {p n m r r':Nat}{M V V':Nat->Nat->Nat}(hp:2<=p)(h:IsKer p n M m r V)(h':IsKer p n M m r' V'):r=r'/\∀ i,i<r->∀ c,c<n->V i c=V' i c:=by
  obtain ⟨k,E,ld,ld2,h1,h2,h3,h4⟩:=h;obtain ⟨k',E',ld',ld2',h1',h2',h3',h4'⟩:=h';obtain ⟨rfl,e1,e2⟩:=Dn hp h1 h1' (fun x=>(h2 x).trans (h2' x).symm);have e3:∀ x,Ker p n V r x↔Ker p n V' r' x:=fun x=>by
    rw [h4 x,h4' x];have es:∀ c,c<n->ci (sol p E k ld c)=ci (sol p E' k ld' c):=fun c hc=>by
      funext d;unfold ci;rw [NG e1 e2 hc d]
    exact ⟨fun q c hc hf=>by rw [← es c hc];exact q c hc (fun hl=>hf ((IJ e1 c).1 hl)),fun q c hc hf=>by rw [es c hc];exact q c hc (fun hl=>hf ((IJ e1 c).2 hl))⟩
  obtain ⟨er,_,eV⟩:=Dn hp h3 h3' e3;exact ⟨er,eV⟩
theorem Mn {n N:Nat}{r:Nat->Nat}{x:Nat->Int}(hn:n<=N)(h:∀ c,n<=c->c<N->r c=0):dot N (ci r) x=dot n (ci r) x:=by
  obtain ⟨q,rfl⟩:∃ q,N=n+q:=⟨N - n,by omega⟩
  unfold dot
  rw [OI,Cn (f:=fun i=>ci r (n+i)*x (n+i)) (fun i hi=>by unfold ci;rw [h (n+i) (by omega) (by omega)];simp)]
  omega
theorem Hq {p n N m:Nat}{M:Nat->Nat->Nat}{x:Nat->Int}(hn:n<=N)(h:∀ i,i<m->∀ c,n<=c->c<N->M i c=0):Ker p N M m x↔Ker p n M m x:=
  ⟨fun q i hi=>by rw [← Mn hn (h i hi)];exact q i hi,fun q i hi=>by rw [Mn hn (h i hi)];exact q i hi⟩
theorem FL {n:Nat}{r s:Nat->Nat}{x:Nat->Int}(h:∀ c,c<n->r c=s c):dot n (ci r) x=dot n (ci s) x:=
  Ar fun c hc=>by unfold ci;rw [h c hc]
def FC (n:Nat) (E:Nat->Nat->Nat) (i c:Nat):Nat:=if c<n then E i c else 0
theorem Du {n:Nat}{E:Nat->Nat->Nat}{i c:Nat}(h:c<n):FC n E i c=E i c:=if_pos h
theorem Ho {n:Nat}{E:Nat->Nat->Nat}{i c:Nat}(h:n<=c):FC n E i c=0:=if_neg (by omega)
theorem Kl {p n N m k:Nat}{M E:Nat->Nat->Nat}{ld:Nat->Nat}(hp:primeN p)(hn:n<=N)(I:∀ i c,M i c<p)(hU:∀ i,i<m->∀ c,n<=c->c<N->M i c=0)(h:Rref p N E k ld)(hk:∀ x,Ker p N E k x↔Ker p N M m x) :
    Rref p n E k ld/\(∀ x,Ker p n E k x↔Ker p n M m x)/\∀ i,i<k->∀ c,n<=c->c<N->E i c=0:=by
  obtain ⟨k0,E0,ld0,h0,_,hk0⟩:=EN (N:=n) (m:=m) hp I;have hP:Rref p N (FC n E0) k0 ld0:={
    lt:=fun i hi=>Nat.lt_of_lt_of_le (h0.lt i hi) hn
    mono:=h0.mono
    one:=fun i hi=>by rw [Du (h0.lt i hi)];exact h0.one i hi
    left:=fun i hi c hc=>by
      have:=h0.lt i hi;rw [Du (by omega)];exact h0.left i hi c hc
    zero:=fun i j hi hj hH=>by rw [Du (h0.lt i hi)];exact h0.zero i j hi hj hH
    small:=fun i hi c hc=>by
      by_cases hcn:c<n
      . rw [Du hcn];exact h0.small i hi c hcn
      . rw [Ho (by omega)];have:=hp.two;omega }
  have hPk:∀ x,Ker p N (FC n E0) k0 x↔Ker p n E0 k0 x:=fun x=>by
    rw [Hq hn (fun i hi c hc _=>Ho hc)];exact ⟨fun q i hi=>by rw [← FL (r:=FC n E0 i) (fun c hc=>Du hc)];exact q i hi,fun q i hi=>by rw [FL (s:=E0 i) (fun c hc=>Du hc)];exact q i hi⟩
  obtain ⟨rfl,e1,e2⟩:=Dn hp.two h hP (fun x=>by rw [hk,hPk,hk0,Hq hn hU]);have z:∀ i,i<k->∀ c,n<=c->c<N->E i c=0:=fun i hi c hc hcN=>by rw [e2 i hi c hcN,Ho hc]
  refine ⟨{
    lt:=fun i hi=>by rw [e1 i hi];exact h0.lt i hi
    mono:=h.mono
    one:=h.one
    left:=h.left
    zero:=h.zero
    small:=fun i hi c hc=>h.small i hi c (by omega) },fun x=>?_,z⟩
  rw [← Hq hn z,hk,Hq hn hU]
def lv (ld:Nat->Nat) (q c:Nat):Nat:=match Cw q ld c with
  | some j=>j+1
  | none=>0
theorem JG {ld:Nat->Nat}{q c:Nat}:Cw (q+1) ld c=(Cw q ld c).or (if ld q=c then some q else none):=by
  unfold Cw
  rw [List.range_succ,List.find?_append]
  by_cases e:ld q=c
  . simp [e]
  . simp [e]
theorem Pp {p x:Nat}(hp:0<p)(hx:x<=p):(-(x:Int))%(p:Int)=(((p - x)%p:Nat):Int):=by
  rw [Int.natCast_emod,Int.natCast_sub hx,← Int.add_emod_left (p:Int) (-(x:Int))]
  rfl
end Go.Ech
namespace Go.Sw
open Go Go.RowKit Go.Ech
theorem Lh {w0 w w':World}{N k:Nat}{f:Nat->Nat->Value}{u:Value}(hs:w0.heap.size<=w.heap.size)(h:RowsOut w w' N k f u):RowsOut w0 w' N k f u:=by
  obtain ⟨D,β,κ,C,b,cap,cs,h1,h2,h3,h4⟩:=h;exact ⟨D,β,κ,C,b,cap,cs,fun x ds hm=>⟨Nat.le_trans hs (h1 x ds hm).1,(h1 x ds hm).2⟩,h2,h3,h4⟩
def KRel (w0:World) (p N m:Nat) (M:Nat->Nat->Nat) (u:Value) (w':World):Prop:=∃ k E ld,Rref p N E k ld/\(∀ x,Ker p N E k x↔Ker p N M m x)/\(∀ i c,E i c<p)/\k<=m/\RowsOut w0 w' N k (fun i c=>.int .i64 (E i c:Int)) u
theorem KRel.of {X:List Nat}{w0 w w':World}{L:Own}{D:Al}{p N m:Nat}{M:Nat->Nat->Nat}{u:Value}(I:MemX X w0 w L D)(h:∃ k E ld,Rref p N E k ld/\(∀ x,Ker p N E k x↔Ker p N M m x)/\(∀ i c,E i c<p)/\k<=m/\RowsOut w w' N k (fun i c=>.int .i64 (E i c:Int)) u):KRel w0 p N m M u w':=by
  obtain ⟨k,E,ld,h1,h2,h3,h4,h5⟩:=h;exact ⟨k,E,ld,h1,h2,h3,h4,Lh I.bel.size h5⟩
def TA (w0:World) (u:Value) (w':World):Prop:=∃ b,u = .slice (some ⟨b,0,none⟩) 0 0/\Blk w' b #[]/\w0.heap.size<=b
def TwoR (c1 c2:Array Value) (e0:Option (Nat×Array Value)) (D:Al) (e:Option (Nat×Array Value)) (u:Value):Prop:=e=e0/\∃ b b1 b2,u = .slice (some ⟨b,0,none⟩) 2 2/\(b,#[.slice (some ⟨b1,0,none⟩) 3 3,.slice (some ⟨b2,0,none⟩) 3 3])∈D/\(b1,c1)∈D/\(b2,c2)∈D
theorem TwoR.more {c1 c2:Array Value}{e0:Option (Nat×Array Value)}(D1 D2:Al)(e:Option (Nat×Array Value))(u:Value)(hs:∀ x,x∈D1->x∈D2)(h:TwoR c1 c2 e0 D1 e u):TwoR c1 c2 e0 D2 e u:=by
  obtain ⟨h0,b,b1,b2,h1,h2,h3,h4⟩:=h;exact ⟨h0,b,b1,b2,h1,hs _ h2,hs _ h3,hs _ h4⟩
def RO (k:Int):Value:=.int .i64 k
def QW (k:Int) (es:List MapEntry) (i:Nat):Option (Option (Nat×Value)):=Instr.findNow (.int .i64) (RO k) es i
def Rg (es:List MapEntry):Prop:=∀ e,e∈es->∃ k,e.key=RO k
section
variable {P : Program} {n : Nat} {F : List (Nat × Value)} {a : Act} {w w0 : World} {d : Option Tmp} {t T kt et : TypeId} {pos : String} {af : Array Edge} {gd : Option (Nat × Bool)} {x y z : Operand} {X : List Nat} {L : Own} {D : Al}
end
def Sh (k:Int) (tr nx tw fr to:Value) (ch:Int):Array Value:=#[.int .i64 k,tr,nx,tw,fr,to,.int .i64 ch]
def Sd (i:Nat) (f:Nat->Value):Array Value:=BH 4 (fun c=>if c=0 then .int .i64 (i:Int) else f (c - 1))
def Rt (l:List Value):Facts Unit:=fun i _ u _=>u=l.getD i undef
end Go.Sw
