import Derived.Test.YtkcneleabbjkaaaSw33
import Derived.DeepKeys4
import Derived.StringKeys
import Derived.Control
set_option linter.unusedVariables false
set_option linter.unusedSimpArgs false
namespace Go.Sw
open Go Go.RowKit Go.Ech
section
variable {X : List Nat} {w0 w w' : World} {L : Own} {D : Au}
def TabI (w w':World) (n:Nat) (M:Nat->Nat->Nat) (u:Value):Prop:=∃ (D:Au) (β:Nat->Nat) (b:Nat) (cs:Array Value),
  (∀ x ds,(x,ds)∈D->w.heap.size<=x/\Blk w' x ds)/\RowsC D n β (fun i=>CZ n (M i))/\u = .slice (some ⟨b,0,Option.none⟩) n n/\(∀ i,i<n->cs[0+i*1]? = some (.slice (some ⟨β i,0,Option.none⟩) n n))/\(b,cs)∈D/\∀ i,i<n->β i≠b
theorem TabI.of {n q:Nat}{β:Nat->Nat}{M:Nat->Nat->Nat}{b:Nat}{cs:Array Value}(I:AX w w' L D)(hR:RowsC D n β (fun i=>CZ n (M i)))(hq:L[q]? = some (some (b,cs)))(hg:∀ i,i<n->cs[0+i*1]? = some (.slice (some ⟨β i,0,Option.none⟩) n n))(hge:∀ i,i<n->w.heap.size<=β i):TabI w w' n M (.slice (some ⟨b,0,Option.none⟩) n n):=by
  refine ⟨(b,cs)::(List.range n).map (fun i=>(β i,CZ n (M i))),β,b,cs,fun x ds hx=>?_,⟨fun i hi=>IS (R:=fun i=>CZ n (M i)) hi,hR.inj⟩,rfl,hg,List.mem_cons_self ..,fun i hi e=>(I.froz _ _ (hR.mem i hi)).2 q b cs hq e.symm⟩
  rcases List.mem_cons.1 hx with e | hx
  . simp only [Prod.mk.injEq] at e;obtain ⟨rfl,rfl⟩:=e;exact ⟨I.ge q hq,I.row q hq⟩
  . obtain ⟨i,hi,e⟩:=List.mem_map.1 hx
    simp only [Prod.mk.injEq] at e;obtain ⟨rfl,rfl⟩:=e;have hi:i<n:=by simpa using hi
    exact ⟨hge i hi,I.fzm (hR.mem i hi)⟩
end
theorem AW {n:Nat}{f:Nat->Nat}:(CZ n f).size=n:=BJ _ _
theorem TabI.base {w w1 w':World}{n:Nat}{M:Nat->Nat->Nat}{u:Value}(h:TabI w1 w' n M u)(hs:w.heap.size<=w1.heap.size):TabI w w' n M u:=by
  obtain ⟨D,β,b,cs,h1,h2⟩:=h;exact ⟨D,β,b,cs,fun x ds hm=>⟨Nat.le_trans hs (h1 x ds hm).1,(h1 x ds hm).2⟩,h2⟩
theorem TabOut.base {w w1 w':World}{N k:Nat}{f:Nat->Nat->Value}{u:Value}(h:TabOut w1 w' N k f u)(hs:w.heap.size<=w1.heap.size):TabOut w w' N k f u:=by
  obtain ⟨D,β,κ,C,b,cap,cs,h1,h2⟩:=h;exact ⟨D,β,κ,C,b,cap,cs,fun x ds hm=>⟨Nat.le_trans hs (h1 x ds hm).1,(h1 x ds hm).2⟩,h2⟩
def FreshV (w0:World) (L:Own) (N:Nat) (f:Nat->Value) (u:Value) (w':World):Prop:=∃ b cap cs,SlAt 6 u (some (b,cs)) N b cap cs f/\Blk w' b cs/\w0.heap.size<=b/\∀ (k:Nat) c ds,L[k]? = some (some (c,ds))->c≠b
theorem FreshV.last {w0 w w':World}{L:Own}{N:Nat}{f:Nat->Value}{u:Value}(h:FreshV w0 L N f u w)(hx:Ext w w'):FreshV w0 L N f u w':=by
  obtain ⟨b,cap,cs,h1,h2,h3⟩:=h;exact ⟨b,cap,cs,h1,h2.ext hx,h3⟩
theorem OwnSl.freshV {X:List Nat}{w0 w w':World}{L:Own}{D:Au}{N:Nat}{f:Nat->Value}{u:Value}(I:MemX X w0 w L D)(h:OwnSl 6 w N f u w'):FreshV w0 L N f u w':=by
  obtain ⟨b,cap,cs,h1,h2,h3⟩:=h;refine ⟨b,cap,cs,h1,h3,Nat.le_trans I.bel.size h2,fun k c ds hk e=>?_⟩;have:=(I.blk k c ds hk).2.lt
  omega
theorem MemX.addV {X:List Nat}{w0 w:World}{L:Own}{D:Au}{N:Nat}{f:Nat->Value}{u:Value}(h:MemX X w0 w L D)(hf:FreshV w0 L N f u w):∃ b cap cs,SlAt 6 u (some (b,cs)) N b cap cs f/\w0.heap.size<=b/\MemX X w0 w L ((b,cs)::D):=by
  obtain ⟨b,cap,cs,h1,h2,h3,h4⟩:=hf;refine ⟨b,cap,cs,h1,h3,h.bel,h.blk,h.apart,fun c ds hm=>?_⟩
  rcases List.mem_cons.1 hm with e | hm
  . simp only [Prod.mk.injEq] at e;obtain ⟨rfl,rfl⟩:=e;exact ⟨h2,h4⟩
  . exact h.froz c ds hm
def QW (w0:World) (L:Own) (u:Value) (w':World):Prop:=∃ b,u = .slice (some ⟨b,0,none⟩) 0 0/\Blk w' b #[]/\w0.heap.size<=b/\∀ (k:Nat) c ds,L[k]? = some (some (c,ds))->c≠b
def Pm (w0:World) (L:Own) (D:Au) (n:Nat) (M:Nat->Nat->Nat) (u:Value) (w':World):Prop:=∃ (D':Au) (β:Nat->Nat) (b:Nat) (cs:Array Value),
  (∀ x ds,(x,ds)∈D'->w0.heap.size<=x/\Blk w' x ds/\∀ (k:Nat) c es,L[k]? = some (some (c,es))->c≠x)/\RowsC D' n β (fun i=>CZ n (M i))/\u = .slice (some ⟨b,0,Option.none⟩) n n/\(∀ i,i<n->cs[0+i*1]? = some (.slice (some ⟨β i,0,Option.none⟩) n n))/\(b,cs)∈D'/\(∀ i,i<n->β i≠b)/\∀ i,i<n->∀ x∈D,x.1≠β i
def QM (R:Value->World->Prop) (u:Value) (w':World):Prop:=∃ l,u = .tuple #[l,.int .i64 0]/\R l w'
open Go Go.RowKit
variable {P : Program}
def Qh (s:ByteArray) (i:Nat):Nat:=(s.data.getD i 0).toNat
section
variable {n : Nat} {F : List (Nat × Value)} {a : Act} {w : World} {d : Option Tmp} {t T T' : TypeId} {pos : String} {af : Array Edge} {gd : Option (Nat × Bool)} {x y z : Operand}
end
end Go.Sw
namespace Go.Sw
open Go Go.RowKit
variable {P : Program}
def Exit.goes (J:Nat->Act->World->Prop) (Q:Exit->Act->World->Prop):Exit->Act->World->Prop
  | .goto l,a,w=>J l a w
  | e,a,w=>Q e a w
section
variable {Q : Exit -> Act -> World -> Prop} {J : Nat -> Act -> World -> Prop} {K : Act -> World -> Prop} {a : Act} {w : World}
end
section
variable {n : Nat} {F : List (Nat × Value)} {a : Act} {w : World} {d : Option Tmp} {t T : TypeId} {pos : String} {af : Array Edge} {gd : Option (Nat × Bool)} {x : Operand}
theorem A4 {b o:Nat}(O:Fr n a F)(hx:look F x=some (ptr b o)):BZ P ⟨d,.nilCheck x,t,pos,af,gd⟩ a w (ptr b o):=
  Ag (by simp [execOp,O.eval hx])
end
section
variable {P : Program} {fn : Func} {a : Act} {w : World}
theorem PN {r s t:ResultVar}{v u x:Value}{R:Ending->World->Prop}(hr:fn.results = #[r,s,t])(hd:a.defers=[])(h1:FT P a w r v)(h2:FT P a w s u)(h3:FT P a w t x)(h:R (.returned (.tuple #[v,u,x])) w):bodyPost P fn R .ret a w:=
  bodyPost_ret (by
    rw [Ea,hr]
    simp [Dq h1,Dq h2,Dq h3]) hd h
end
end Go.Sw
namespace Go.Sw
open Go Go.RowKit
def Ns (P:Program):Nat->TypeId->List IntKind->Bool
  | 0,_,_=>false
  | d + 1, t, ks =>
    match P.underlying t with
    | some (.int q)=>decide (ks=[q])
    | some (.array n e)=>Nat.beq ks.length (P.cellsOf t) && (List.range n).all fun i=>Ns P d e ((ks.drop (i*P.cellsOf e)).take (P.cellsOf e))
    | some (.struct fs) => Nat.beq ks.length (P.cellsOf t) && fs.all (·.name != "_") && fs.toList.all fun f => Ns P d f.type ((ks.drop f.offset).take (P.cellsOf f.type))
    | _=>false
def Po (cs:List Value) (ks:List IntKind):Prop:=cs.length=ks.length/\∀ (i:Nat) (q:IntKind),ks[i]? = some q->∃ x,cs[i]? = some (Value.int q x)/\(Lit.int q x).wf=true
def PY (P:Program) (k:TypeId):Bool:=match P.underlying k with | some (.array _ _) | some (.struct _)=>true | _=>false
def IsMap (w:World) (b:Nat) (es:Array MapEntry) (c:Nat):Prop:=w.heap[b]? = some (.map es c)
section
variable {P : Program} {n : Nat} {F : List (Nat × Value)} {a : Act} {w w0 : World} {d : Option Tmp} {t T kt et : TypeId} {pos : String} {af : Array Edge} {gd : Option (Nat × Bool)} {x y z : Operand} {X : List Nat} {L : Own} {D : Au}
end
section
variable {P : Program} {n : Nat} {F : List (Nat × Value)} {a : Act} {w w0 : World} {d : Option Tmp} {t T kt et : TypeId} {pos : String} {af : Array Edge} {gd : Option (Nat × Bool)} {x y z : Operand} {X : List Nat} {L : Own} {D : Au}
end
section
variable {P : Program} {n : Nat} {F : List (Nat × Value)} {a : Act} {w : World} {d : Option Tmp} {t T T' : TypeId} {pos : String} {af : Array Edge} {gd : Option (Nat × Bool)} {x y : Operand} {k : IntKind} {A B C : Int}
end
section
variable {P : Program} {n : Nat} {F : List (Nat × Value)} {a : Act} {w w0 : World} {d : Option Tmp} {t T kt et : TypeId} {pos : String} {af : Array Edge} {gd : Option (Nat × Bool)} {x y z : Operand} {X : List Nat} {L : Own} {D : Au}
end
theorem M0 {n:Nat}{a:Act}{F:List (Nat×Value)}{x0 x1 x2 x3 x4 x5:Operand}{v0 v1 v2 v3 v4 v5:Value}(O:Fr n a F)(h0:look F x0=some v0)(h1:look F x1=some v1)(h2:look F x2=some v2)(h3:look F x3=some v3)(h4:look F x4=some v4)(h5:look F x5=some v5):(#[(0,x0),(1,x1),(2,x2),(3,x3),(4,x4),(5,x5)]:Array (Nat×Operand)).toList.map (fun p=>(p.1,a.eval p.2))=[(0,v0),(1,v1),(2,v2),(3,v3),(4,v4),(5,v5)]:=by simp [O.eval h0,O.eval h1,O.eval h2,O.eval h3,O.eval h4,O.eval h5]
theorem Hz (cs:Array Value)(n:Nat)(h:n=cs.size):cs.extract 0 n=cs:=by subst h;simp
section
variable {P : Program} {n : Nat} {F : List (Nat × Value)} {a : Act} {w w0 : World} {d : Option Tmp} {t T : TypeId} {pos : String} {af : Array Edge} {gd : Option (Nat × Bool)} {x y : Operand} {X : List Nat} {L : Own} {D : Au}
end
section
variable {P : Program} {X : List Nat} {w0 w : World} {D : Au} {W : List Nat} {L0 L : Own} {kt : Nat} {csO csN : Array Value} {bb : Bool} {l : List Fact} {i : Nat} {o : Oper} {a : Act}
theorem NL {mk:Nat->Value}{k:Nat}{cs:Array Value}(hS:JM X w0 D W L0 kt csO csN bb L w)(hi:l[i]? = some (.own k cs mk))(hJ:Nat.beq k kt=false)(hk:Ce k W=true)(hkl:Nat.blt k L0.length=true)(h1:Dg k i l 0=true)
    (hg:Does P o a w (fun u w'=>∃ b,u=mk b/\MemX X w0 w' (L.set k (some (b,cs))) D/\Ext w w')):Does P o a w (EN (JM X w0 D W L0 kt csO csN) (DJ kt l) bb i L w):=
  hg.mono fun u w' ⟨b,hu,I,hx⟩=>by
    have hO:k<L.length:=by rw [hS.1.2.1];exact Nat.blt_eq.mp hkl
    have hn:¬ k=kt:=fun e=>by rw [e,Nat.beq_refl] at hJ;cases hJ
    refine ⟨L.set k (some (b,cs)),⟨⟨I,hS.1.2.set k hk _⟩,fun c ds hc=>?_⟩,?_,fun j u hj h=>Fp h1 j u hj h⟩
    . rw [List.getElem?_set_ne hn] at hc;exact hS.2 c ds hc
    . unfold DJ;rw [hi];show (if k=kt then _ else _);rw [if_neg hn];exact ⟨b,hu,by simp [hO]⟩
end
section
variable {P : Program} {n : Nat} {F : List (Nat × Value)} {a : Act} {w : World} {d : Option Tmp} {t T T' : TypeId} {pos : String} {af : Array Edge} {gd : Option (Nat × Bool)} {x y : Operand} {k k' : IntKind} {A B C : Int}
theorem LM (O:Fr n a F)(hx:look F x=some (.int k A))(hy:look F y=some (.int k' B))(hB:¬ B<0)(hC:A.fdiv (2 ^ (min B.toNat k.bits))=C):BZ P ⟨d,.binOp .shr T x y T',t,pos,af,gd⟩ a w (.int k C):=
  Ag (by simp [execOp,Bm,binOp,Op.shift,O.eval hx,O.eval hy,hB,hC])
theorem LO (O:Fr n a F)(hx:look F x=some (.int k A))(hy:look F y=some (.int k B))(hC:k.wrap ((BitVec.ofInt k.bits A &&& BitVec.ofInt k.bits B).toNat:Int)=C):BZ P ⟨d,.binOp .and T x y T',t,pos,af,gd⟩ a w (.int k C):=
  Ag (by simp [execOp,Bm,binOp,Op.intBits,O.eval hx,O.eval hy,← hC])
end
theorem GS (x:Nat):IntKind.u64.wrap (x:Int)=((x%18446744073709551616:Nat):Int):=by
  unfold IntKind.wrap IntKind.bits IntKind.signed
  simp
theorem F9 (x c:Nat):IntKind.u64.wrap ((x:Int)*(c:Int))=((x*c%18446744073709551616:Nat):Int):=by rw [← GS];simp
theorem EH (x c:Nat):IntKind.u64.wrap ((x:Int)+(c:Int))=(((x+c)%18446744073709551616:Nat):Int):=by rw [← GS];simp
theorem HF (x:Nat):(x:Int).fdiv (2 ^ (min (33:Int).toNat IntKind.u64.bits))=((x / 8589934592:Nat):Int):=by
  rw [show (2:Int) ^ (min (33:Int).toNat IntKind.u64.bits)=((8589934592:Nat):Int) from by decide,Int.fdiv_eq_ediv_of_nonneg _ (by omega)]
  rfl
theorem HM (x:Nat)(h:x<18446744073709551616):IntKind.u64.wrap ((BitVec.ofInt IntKind.u64.bits (x:Int) &&& BitVec.ofInt IntKind.u64.bits ((16777215:Nat):Int)).toNat:Int)=((x%16777216:Nat):Int):=by
  have e:(BitVec.ofInt IntKind.u64.bits (x:Int) &&& BitVec.ofInt IntKind.u64.bits ((16777215:Nat):Int)).toNat=x%16777216:=by
    show (BitVec.ofInt 64 (x:Int) &&& BitVec.ofInt 64 ((16777215:Nat):Int)).toNat=x%16777216
    rw [BitVec.toNat_and,BitVec.ofInt_natCast,BitVec.ofInt_natCast,BitVec.toNat_ofNat,BitVec.toNat_ofNat,Nat.mod_eq_of_lt (show x<2 ^ 64 by omega),show (16777215:Nat)%2 ^ 64=2 ^ 24 - 1 from by decide,Nat.and_two_pow_sub_one_eq_mod]
  rw [e,GS,Nat.mod_eq_of_lt (by omega)]
def FX (l:List (Value->Prop)):Facts Unit:=fun i _ v _=>(l.getD i (fun _=>True)) v
theorem BW {P:Program}{S:World->Prop}{l:List (Value->Prop)}{o:Oper}{a:Act}{w:World}{v:Value}{i:Nat}(hS:S w)(hg:BZ P o a w v)(hv:FX l i () v w):Does P o a w (After (fun _:Unit=>S) (FX l) i () w):=
  hg.mono fun u w' ⟨e1,e2⟩=>by subst e1;subst e2;exact ⟨(),hS,hv,fun _ _ _ h=>h⟩
theorem Cv {P:Program}{S:World->Prop}{l:List (Value->Prop)}{o:Oper}{a:Act}{w:World}{R:Value->World->Prop}{i:Nat}(h:Does P o a w R)(hr:∀ v w',R v w'->S w'/\FX l i () v w'):Does P o a w (After (fun _:Unit=>S) (FX l) i () w):=
  h.mono fun u w' hu=>⟨(),(hr u w' hu).1,(hr u w' hu).2,fun _ _ _ h=>h⟩
def BK (sl:Value) (at_ h:Nat):Array Value:=#[sl,.int .i64 (at_:Int),.int .u64 (h:Int)]
def CodeB (w:World) (X:List Nat) (sl:Value) (m:Nat):Prop:=
  m<=4096/\(∃ x c,sl = .slice x m c)/\(0<m->∃ (b o c:Nat) (F:Nat->Nat),sl = .slice (some ⟨b,o,none⟩) m c/\b<w.heap.size/\b ∉ X/\(∀ i,F i<=255)/\∀ i,i<m->w.cell? ⟨b,o+i*1,none⟩=some (.int .u8 (F i:Int)))
theorem FL {X:List Nat}{w w':World}{b o:Nat}{v:Value}(h:w.cell? ⟨b,o,none⟩=some v)(hx:ExtX X w w')(hb:b<w.heap.size)(hX:b ∉ X):w'.cell? ⟨b,o,none⟩=some v:=by
  unfold World.cell? at h ⊢
  simp only [hx.block b hb hX];exact h
theorem CodeB.carry {X Y:List Nat}{w0 w:World}{sl:Value}{m:Nat}(h:CodeB w0 X sl m)(hx:ExtX X w0 w)(hY:∀ y,y∈Y->y∈X\/w0.heap.size<=y):CodeB w Y sl m:=
  ⟨h.1,h.2.1,fun hm=>by
    obtain ⟨b,o,c,F,h1,h2,h3,h4,h5⟩:=h.2.2 hm
    refine ⟨b,o,c,F,h1,Nat.lt_of_lt_of_le h2 hx.size,fun hb=>?_,h4,fun i hi=>FL (h5 i hi) hx h2 h3⟩
    rcases hY b hb with e | e
    . exact h3 e
    . omega⟩
theorem MemX.code {X:List Nat}{w0 w:World}{L:Own}{D:Au}{sl:Value}{m k b:Nat}{cs:Array Value}(h:MemX X w0 w L D)(hc:CodeB w0 X sl m)(hk:L[k]? = some (some (b,cs))):CodeB w [b] sl m:=
  hc.carry h.bel (fun y hy=>by
    have e:y=b:=by simpa using hy
    subst e
    exact (h.blk k y cs hk).1.symm)
theorem AH {sl:Value}{at_ h:Nat}:(BK sl at_ h).size=3:=rfl
def Ep (x n:Int):Prop:=0<=x/\(1<=n->x<n)/\(n<1->x=0)
theorem CallsX.mono {P:Program}{X:List Nat}{f:FuncId}{args:Array Value}{w:World}{R R':Value->World->Prop}(h:CallsX P X f args w R)(hr:∀ v w',R v w'->R' v w'):CallsX P X f args w R':=
  Calls.mono h (fun _ _ ⟨v,he,h1,h2⟩=>⟨v,he,h1,hr v _ h2⟩)
section
variable {n : Nat} {F : List (Nat × Value)} {a : Act}
theorem LU {x0 x1:Operand}{v0 v1:Value}(O:Fr n a F)(h0:look F x0=some v0)(h1:look F x1=some v1):(#[(0,x0),(2,x1)]:Array (Nat×Operand)).toList.map (fun p=>(p.1,a.eval p.2))=[(0,v0),(2,v1)]:=by simp [O.eval h0,O.eval h1]
theorem OT {x0 x1 x2 x3 x4 x5 x6:Operand}{v0 v1 v2 v3 v4 v5 v6:Value}(O:Fr n a F)(h0:look F x0=some v0)(h1:look F x1=some v1)(h2:look F x2=some v2)(h3:look F x3=some v3)(h4:look F x4=some v4)(h5:look F x5=some v5)(h6:look F x6=some v6):(#[(0,x0),(1,x1),(2,x2),(3,x3),(4,x4),(5,x5),(6,x6)]:Array (Nat×Operand)).toList.map (fun p=>(p.1,a.eval p.2))=[(0,v0),(1,v1),(2,v2),(3,v3),(4,v4),(5,v5),(6,v6)]:=by simp [O.eval h0,O.eval h1,O.eval h2,O.eval h3,O.eval h4,O.eval h5,O.eval h6]
end
def G8 (h:Nat):Nat:=(h*6364136223846793005%18446744073709551616+1442695040888963407)%18446744073709551616
def K0 (f:Nat->Nat):Nat->Nat->Nat
  | 0,h=>h
  | k+1,h=>K0 f k (f h)
theorem Ov (f:Nat->Nat)(k h:Nat):K0 f (k+1) h=K0 f k (f h):=rfl
theorem Nt (f:Nat->Nat)(h:Nat):K0 f 1 h=f h:=rfl
theorem I8 (f:Nat->Nat)(k:Nat):∀ j h,K0 f (j+k) h=K0 f k (K0 f j h)
  | 0,h=>by rw [Nat.zero_add];rfl
  | j + 1, h => by
    rw [Nat.add_right_comm]
    exact I8 f k j (f h)
def Aff (m a b:Nat):Prop:=∀ h,K0 G8 m h%34359738368=(a*h+b)%34359738368
theorem NC {A C P Q:Nat}(hd:Q∣P)(h:Nat):((h*A%P+C)%P)%Q=((A%Q)*h+C%Q)%Q:=by
  rw [Nat.mod_mod_of_dvd _ hd,Nat.add_mod,Nat.mod_mod_of_dvd _ hd,Nat.mul_comm h A,Nat.add_mod (A%Q*h),Nat.mod_mod,Nat.mod_mul_mod]
theorem PT:(34359738368:Nat)∣18446744073709551616:=⟨536870912,rfl⟩
theorem Aff.one:Aff 1 (6364136223846793005%34359738368) (1442695040888963407%34359738368):=fun h=>by
  rw [Nt]
  unfold G8
  exact NC PT h
theorem Aff.dbl {m a b:Nat}(h:Aff m a b):Aff (m+m) (a*a%34359738368) ((a*b+b)%34359738368):=fun x=>by
  rw [I8,h (K0 G8 m x),Nat.add_mod,Nat.mul_mod,h x,← Nat.mul_mod,← Nat.add_mod]
  rw [Nat.add_mod (a*a%34359738368*x),Nat.mod_mod,Nat.mod_mul_mod,← Nat.add_mod]
  congr 1
  rw [Nat.mul_add,Nat.mul_assoc,Nat.add_assoc]
def Nz:Nat->Nat×Nat
  | 0=>(6364136223846793005%34359738368,1442695040888963407%34359738368)
  | k+1=>((Nz k).1*(Nz k).1%34359738368,((Nz k).1*(Nz k).2+(Nz k).2)%34359738368)
theorem Aff.pow:∀ k,Aff (2 ^ k) (Nz k).1 (Nz k).2
  | 0=>Aff.one
  | k + 1 => by
    rw [Nat.pow_succ,Nat.mul_two]
    exact (Aff.pow k).dbl
theorem Aff.far:∃ N,1<=N/\N<=8589934592/\Aff N 1 8589934592:=by
  have h:=Aff.pow 33;have e:Nz 33=(1,8589934592):=by decide +kernel
  rw [e] at h;exact ⟨2 ^ 33,by decide,by decide,h⟩
theorem Nx {N D:Nat}(hA:Aff N 1 D)(h:Nat):∀ j,K0 G8 (j*N) h%34359738368=(h+j*D)%34359738368
  | 0=>by rw [Nat.zero_mul,Nat.zero_mul];rfl
  | j + 1 => by
    rw [Nat.succ_mul,I8,hA,Nat.one_mul,Nat.add_mod,Nx hA h j,← Nat.add_mod,Nat.succ_mul,Nat.add_assoc]
def Hy (h:Nat):Prop:=h / 8589934592%4=0
theorem NX {h h':Nat}(e:h%34359738368=h'%34359738368):Hy h↔Hy h':=by
  unfold Hy
  omega
theorem Ox (h:Nat):∃ k,1<=k/\k<=34359738368/\Hy (K0 G8 k h):=by
  obtain ⟨N,hN1,hN2,hA⟩:=Aff.far;have key:∀ j,1<=j->j<=4->(h+j*8589934592) / 8589934592%4=0->∃ k,1<=k/\k<=34359738368/\Hy (K0 G8 k h):=fun j h1 h4 e=>by
    refine ⟨j*N,Nat.mul_le_mul h1 hN1,Nat.le_trans (Nat.mul_le_mul h4 hN2) (by decide),?_⟩;rw [NX (Nx hA h j)];exact e
  have e:h / 8589934592%4=0\/h / 8589934592%4=1\/h / 8589934592%4=2\/h / 8589934592%4=3:=by omega
  rcases e with e | e | e | e
  . exact key 4 (by omega) (by omega) (by omega)
  . exact key 3 (by omega) (by omega) (by omega)
  . exact key 2 (by omega) (by omega) (by omega)
  . exact key 1 (by omega) (by omega) (by omega)
theorem MA {k h:Nat}(h1:1<=k)(hh:Hy (K0 G8 k h)):Hy (G8 h)\/(1<=k - 1/\Hy (K0 G8 (k - 1) (G8 h))):=by
  obtain ⟨j,rfl⟩:∃ j,k=j+1:=⟨k - 1,by omega⟩
  by_cases e:j=0
  . subst e;rw [Nt] at hh;exact .inl hh
  . rw [Ov] at hh;exact .inr ⟨by omega,by rw [Nat.add_sub_cancel];exact hh⟩
def PH (m:Nat) (nn:Int) (ha hh:Nat) (x:Int) (ha' hh':Nat):Prop:=
  1<=nn->(ha<m/\ha'=ha+1)\/(m<=ha/\ha'=ha/\hh'=G8 hh/\x=((hh' / 8589934592%16777216:Nat):Int).tmod nn)
def KG (fit:Prop) (kk N m ha hh:Nat):Prop:=fit\/∃ k,1<=k/\k<=34359738368/\Hy (K0 G8 k hh)/\kk+(m - ha)*34359738369+k<=N
theorem Kp (fit:Prop)(m ha hh:Nat):∃ N,KG fit 0 N m ha hh:=by
  obtain ⟨k,h1,h2,h3⟩:=Ox hh;exact ⟨0+(m - ha)*34359738369+k,.inr ⟨k,h1,h2,h3,Nat.le_refl _⟩⟩
theorem NV {fit:Prop}{kk N m ha hh:Nat}(h:KG fit kk N m ha hh)(hn:¬ fit):kk+1<=N:=by
  rcases h with h | ⟨k,h1,_,_,h4⟩
  . exact absurd h hn
  . omega
theorem Oi (y:Nat):((y%16777216:Nat):Int).tmod 4=((y%4:Nat):Int):=by
  rw [Int.tmod_eq_emod_of_nonneg (by omega)]
  omega
theorem left_step {fit fit':Prop}{kk N m ha hh ha' hh':Nat}{x:Int}(h:KG fit kk N m ha hh)(hn:¬ fit)(hx:PH m 4 ha hh x ha' hh')(hf:x=0->fit'):KG fit' (kk+1) N m ha' hh':=by
  rcases h with h | ⟨k,h1,h2,h3,h4⟩
  . exact absurd h hn
  . rcases hx (by decide) with ⟨a1,a2⟩ | ⟨a1,a2,a3,a4⟩
    . obtain ⟨k',b1,b2,b3⟩:=Ox hh'
      refine .inr ⟨k',b1,b2,b3,?_⟩;obtain ⟨d,hd⟩:∃ d,m - ha=d+1:=⟨m - ha - 1,by omega⟩;rw [show m - ha'=d by omega];rw [hd] at h4
      omega
    . subst a2
      rcases MA h1 h3 with hit | ⟨c1,c2⟩
      . refine .inl (hf ?_)
        rw [a4,a3,Oi]
        unfold Hy at hit
        rw [hit];rfl
      . rw [← a3] at c2
        clear a3 a4 h3;exact .inr ⟨k - 1,c1,by omega,c2,by omega⟩
def PA (R:Act->World->Prop):Exit->Act->World->Prop
  | .normal,a,w=>R a w
  | _,_,_=>False
theorem Fq {R:Act->World->Prop}{a:Act}{w:World}(h:R a w):PA R .normal a w:=h
theorem PC {P:Program}{Q:Exit->Act->World->Prop}{a:Act}{w:World}{x y:Code}(R:Act->World->Prop)(h:x.wp P (PA R) a w)(k:∀ a w,R a w->y.wp P Q a w):(x.seq y).wp P Q a w:=
  sq (wp_mono h fun e a w hq=>by
    cases e with
    | normal=>exact k a w hq
    | _=>exact hq.elim)
variable {P : Program} {n : Nat} {F : List (Nat × Value)} {a : Act} {w : World} {d : Option Tmp} {t : TypeId} {pos : String} {af : Array Edge} {gd : Option (Nat × Bool)} {x y : Operand}
end Go.Sw
namespace Go.Sw
open Go Go.RowKit Go.ChangeShapes Go.WideShapes Go.ChangeAt
structure ArgSS (w:World) (sl:Value) (m:Nat) (L:Nat->Nat) (R:Nat->Nat->Int) (xs:Nat->Option Addr) (ca be ob:Nat->Nat):Prop where
  out:∃ x c,sl = .slice x m c
  cell:0<m->∃ b o c,sl = .slice (some ⟨b,o,none⟩) m c/\∀ i,i<m->w.cell? ⟨b,o+i*1,none⟩=some (.slice (xs i) (L i) (ca i))
  adr:∀ i,i<m->0<L i->xs i=some ⟨be i,ob i,none⟩
  num:∀ i,i<m->∀ j,j<L i->w.cell? ⟨be i,ob i+j*1,none⟩=some (.int .i64 (R i j))
namespace ArgSS
variable {w w' : World} {sl : Value} {m : Nat} {L : Nat -> Nat} {R : Nat -> Nat -> Int} {xs : Nat -> Option Addr} {ca be ob : Nat -> Nat}
theorem congr {R':Nat->Nat->Int}(h:ArgSS w sl m L R xs ca be ob)(e:∀ i,i<m->∀ j,j<L i->R i j=R' i j):ArgSS w sl m L R' xs ca be ob:=
  ⟨h.out,h.cell,h.adr,fun i hi j hj=>by rw [← e i hi j hj];exact h.num i hi j hj⟩
end ArgSS
section
variable {H : Type} {enc : TypeId × Value -> H} {P : Program} {w : World} {base : Nat} {spare : Nat -> Bool} {held : Bool}
end
def Ok (m:Nat) (L:Nat->Nat) (β:Nat->Nat):Array Value:=Al m fun i=>.slice (some ⟨β i,0,none⟩) (L i) (L i)
structure SSD (D:Au) (u:Value) (m:Nat) (L:Nat->Nat) (R:Nat->Nat->Int) (b:Nat) (β:Nat->Nat):Prop where
  val:u = .slice (some ⟨b,0,none⟩) m m
  out:(b,Ok m L β)∈D
  row:∀ i,i<m->(β i,Ol (L i) (R i))∈D
  inj:∀ i j,i<m->j<m->β i=β j->i=j
  ne:∀ i,i<m->β i≠b
def Pn (w w':World) (m:Nat) (L:Nat->Nat) (R:Nat->Nat->Int) (u:Value):Prop:=∃ (D:Au) (b:Nat) (β:Nat->Nat),(∀ x ds,(x,ds)∈D->w.heap.size<=x/\Blk w' x ds)/\SSD D u m L R b β
end Go.Sw
namespace Go.Sw
open Go Go.RowKit
def QC (Z k t:Nat) (xs:Nat->Value):Array Value:=Al Z (fun c=>if c<t then .int .i64 (((k+c:Nat)):Int) else xs c)
section
variable {Z k t : Nat} {xs : Nat -> Value}
end
structure SSR (D:Au) (u:Value) (m:Nat) (Ln:Nat->Nat) (F:Nat->Nat->Int) (b cap:Nat) (cs:Array Value) (β κ:Nat->Nat) (C:Nat->Array Value):Prop where
  sl:SlAt 1 u (some (b,cs)) m b cap cs (fun i=>.slice (some ⟨β i,0,none⟩) (Ln i) (κ i))
  out:(b,cs)∈D
  rows:RowsC D m β C
  row:∀ i,i<m->SlAt 1 (.slice (some ⟨β i,0,none⟩) (Ln i) (κ i)) (some (β i,C i)) (Ln i) (β i) (κ i) (C i) (fun c=>.int .i64 (F i c))
  ne:∀ i,i<m->β i≠b
namespace SSR
variable {D D' : Au} {u : Value} {m b cap : Nat} {Ln β κ : Nat -> Nat} {F : Nat -> Nat -> Int} {cs : Array Value} {C : Nat -> Array Value}
theorem more (h:SSR D u m Ln F b cap cs β κ C)(hs:∀ x,x∈D->x∈D'):SSR D' u m Ln F b cap cs β κ C:=⟨h.sl,hs _ h.out,h.rows.more hs,h.row,h.ne⟩
theorem congr {G:Nat->Nat->Int}(h:SSR D u m Ln F b cap cs β κ C)(e:∀ i,i<m->∀ c,c<Ln i->F i c=G i c):SSR D u m Ln G b cap cs β κ C:=
  ⟨h.sl,h.out,h.rows,fun i hi=>(h.row i hi).congr fun c hc=>by rw [e i hi c (by omega)],h.ne⟩
end SSR
def PW (w w':World) (m:Nat) (Ln:Nat->Nat) (F:Nat->Nat->Int) (u:Value):Prop:=∃ (D:Au) (b cap:Nat) (cs:Array Value) (β κ:Nat->Nat) (C:Nat->Array Value),(∀ x ds,(x,ds)∈D->w.heap.size<=x/\Blk w' x ds)/\SSR D u m Ln F b cap cs β κ C
def Pt (C:Nat->Array Value) (i:Nat):Nat->Value:=fun c=>((C i)[c]?).getD undef
def Qc (C:Nat->Array Value) (Ln:Nat->Nat) (st:Nat->Nat) (i:Nat):Array Value:=QC (C i).size (st i) (Ln i) (Pt C i)
end Go.Sw
namespace Go.Sw
open Go Go.RowKit
section
variable {P : Program} {n : Nat} {F : List (Nat × Value)} {a : Act} {w : World} {d : Option Tmp} {t T T' e : TypeId} {pos : String} {af : Array Edge} {gd : Option (Nat × Bool)} {x y : Operand} {ad : Addr} {l c : Nat}
end
inductive FactF where
  | val (v:Value)
  | own (cs:Array Value) (n:Nat)
  | two (c1 c2:Array Value) (n1 n2:Nat)
def FactF.sem:FactF->Au->Value->Prop
  | .val v,_,u=>u=v
  | .own cs n,D,u=>∃ b,u = .slice (some ⟨b,0,none⟩) n n/\(b,cs)∈D
  | .two c1 c2 n1 n2,D,u=>∃ b b1 b2,u = .slice (some ⟨b,0,none⟩) 2 2/\(b,#[.slice (some ⟨b1,0,none⟩) n1 n1,.slice (some ⟨b2,0,none⟩) n2 n2])∈D/\(b1,c1)∈D/\(b2,c2)∈D
def PQ (l:List FactF) (s:Nat):Facts (Au×Option (Nat×Array Value)×Value):=fun i g u _=>match Nat.beq i s with
  | true=>u=g.2.2
  | false => match l[i]? with
    | some f=>f.sem g.1 u
    | none=>True
def QP (w0:World) (D:Au) (L0:Own) (kr:Nat) (e0:Option (Nat×Array Value)) (R:Au->Option (Nat×Array Value)->Value->Prop) (b:Bool) (g:Au×Option (Nat×Array Value)×Value) (w:World):Prop:=
  AX w0 w (L0.set kr g.2.1) (g.1++D)/\(∀ x ds,(x,ds)∈g.1->w0.heap.size<=x/\∀ y es,(y,es)∈D->y≠x)/\(b=false->g.2.1=e0)/\(b=true->R g.1 g.2.1 g.2.2)
section
variable {P : Program} {w0 w : World} {D : Au} {L0 : Own} {kr s i k : Nat} {e0 : Option (Nat × Array Value)} {R : Au -> Option (Nat × Array Value) -> Value -> Prop} {b : Bool} {g : Au × Option (Nat × Array Value) × Value} {l : List FactF} {o : Oper} {a : Act}
end
def Pu (x y z:Int) (c:Nat):Int:=if c=0 then x else if c=1 then y else z
open Go Go.RowKit Go.Ech
structure Tri (w:World) (b o m:Nat) (R:Nat->Nat->Int) (ca be ob:Nat->Nat):Prop where
  cell:∀ i,i<m->w.cell? ⟨b,o+i*1,none⟩=some (.slice (some ⟨be i,ob i,none⟩) 3 (ca i))
  num:∀ i,i<m->∀ j,j<3->w.cell? ⟨be i,ob i+j*1,none⟩=some (.int .i64 (R i j))
def QT (w w':World) (f:Nat->Int) (v:Value):Prop:=∃ b c cs,v = .slice (some ⟨b,0,none⟩) 3 c/\w.heap.size<=b/\Blk w' b cs/\SlAt 1 v (some (b,cs)) 3 b c cs (fun k=>.int .i64 (f k))
end Go.Sw
namespace Go.Ech
open Go.Sw
theorem Ma {p N n k:Nat}{E:Nat->Nat->Nat}{ld:Nat->Nat}(h:Rref p N E k ld)(hc:∀ c,c<n->DM k ld c):∀ i,i<n->i<k/\ld i=i:=by
  intro i
  induction i using Nat.strongRecOn with
  | ind i ih =>
    intro hi;obtain ⟨j,hj,e⟩:=hc i hi;have h1:¬ j<i:=fun hH=>by have:=(ih j hH (by omega)).2;omega
    have h2:¬ i<j:=fun hH=>by
      have h3:=h.mono i j hH hj;have h4:=ih (ld i) (by omega) (by omega);have:=h.inj h4.1 (show i<k by omega) h4.2
      omega
    have:j=i:=by omega
    subst this;exact ⟨hj,e⟩
theorem Mh {p n:Nat}{F:Nat->Nat->Nat}(hp:primeN p)(hn0:0<n)(hn:n<=6)(O:∀ i c,n<=c->F i c=0)(hFp:∀ i c,F i c<p)(hz:∀ x,Ker p 6 F n x->(∀ d,n<=d->d<6->x d=0)->∀ c,c<n->(p:Int)∣x c):FullK p n F:=by
  have hZ:=hp.two;obtain ⟨k,E,ld,hR,hk,hK⟩:=G0 (N:=6) (m:=n) hp hFp;have hnl:∀ d,n<=d->d<6->¬ DM k ld d:=fun d h1 h2=>HH hZ hR hK h2 (fun i _=>O i d h1);have hc:∀ c,c<n->DM k ld c:=by
    intro c hc;refine Decidable.byContradiction fun hno=>?_;have:=hz _ ((hK _).1 (hR.free_ker (show c<6 by omega) hno)) (fun d h1 h2=>by
      unfold free;rw [if_neg (by omega)]
      cases e:Dl k ld d with
      | none=>rfl
      | some j=>exact absurd ⟨j,B9 e⟩ (hnl d h1 h2)) c hc
    rw [show free E k ld c c=1 by simp [free]] at this;have:=Int.le_of_dvd (by omega) this
    omega
  have hkn:k=n:=by have:=(Ma hR hc (n - 1) (by omega)).1;omega
  subst hkn;exact ⟨E,ld,hR,hK⟩
theorem LB (f g:Nat->Int)(n:Nat):sI (fun i=>f i - g i) n=sI f n - sI g n:=by
  have:=EJ (fun c=>f c - g c) g n;rw [show (fun i=>(f i - g i)+g i)=f from by funext i;omega] at this;omega
theorem No {f:Nat->Int}{n a:Nat}(ha:a<n):sI (fun i=>f i*(dl i a:Int)) n=f a:=by
  rw [Ci ha (fun i _ hJ=>by simp [dl,hJ])];simp [dl]
theorem Kg {f:Nat->Int}{n a:Nat}(ha:a<n):sI (fun i=>(dl a i:Int)*f i) n=f a:=by
  rw [Ci ha (fun i _ hJ=>by simp [dl,Ne.symm hJ])];simp [dl]
theorem Iu {p:Nat}{f g h:Nat->Int}{n:Nat}(e:∀ i,i<n->(p:Int)∣g i - h i):(p:Int)∣sI (fun i=>f i*g i) n - sI (fun i=>f i*h i) n:=by
  rw [← LB];exact DB fun i hi=>by rw [← Int.mul_sub];exact Int.dvd_mul_of_dvd_right (e i hi)
theorem IsCop.left {p n:Nat}{F G:Nat->Nat->Nat}(hp:2<=p)(hn:n<=6)(O:∀ i c,n<=c->F i c=0)(hf:FullK p n F)(h:IsCop p n F G):∀ i,i<n->∀ j,j<n->(p:Int)∣sI (fun k=>(G i k:Int)*(F k j:Int)) n - (dl i j:Int):=by
  intro i hi j hj;have hK:Ker p 6 F n (fun a=>if a<n then sI (fun k=>(G a k:Int)*(F k j:Int)) n - (dl a j:Int) else 0):=fun b hb=>by
    unfold dot
    rw [Fe hn (fun c h1 _=>by simp [show ¬ c<n by omega])];have e:sI (fun c=>ci (F b) c*(if c<n then sI (fun k=>(G c k:Int)*(F k j:Int)) n - (dl c j:Int) else 0)) n=sI (fun k=>(F k j:Int)*sI (fun c=>(F b c:Int)*(G c k:Int)) n) n - (F b j:Int):=by
      rw [An (g:=fun c=>(F b c:Int)*sI (fun k=>(G c k:Int)*(F k j:Int)) n - (F b c:Int)*(dl c j:Int)) (fun c hc=>by rw [if_pos hc,Int.mul_sub]),LB,No hj]
      congr 1
      rw [An (g:=fun c=>sI (fun k=>(F b c:Int)*((G c k:Int)*(F k j:Int))) n) (fun c _=>(CQ _ _ _).symm),Cm];exact An fun k _=>by rw [← CQ];exact An fun c _=>by rw [← Int.mul_assoc];exact Int.mul_comm _ _
    rw [e];have h1:=Iu (p:=p) (f:=fun k=>(F k j:Int)) (g:=fun k=>sI (fun c=>(F b c:Int)*(G c k:Int)) n) (h:=fun k=>(dl b k:Int)) (n:=n) (fun k hk=>h.sol b hb k hk)
    rwa [show sI (fun k=>(F k j:Int)*(dl b k:Int)) n=(F b j:Int) from by
      rw [An (g:=fun k=>(dl b k:Int)*(F k j:Int)) (fun k _=>Int.mul_comm _ _)];exact Kg hb] at h1
  have:=hf.zero hp hn O hK (fun d h1 _=>by simp [show ¬ d<n by omega]) hi
  simpa only [if_pos hi] using this
theorem OS {p n:Nat}{F F' G:Nat->Nat->Nat}(hp:primeN p)(hn0:0<n)(hn:n<=6)(O:∀ i c,n<=c->F i c=0)(hF':∀ i c,n<=c->F' i c=0)(hFp':∀ i c,F' i c<p)(e:∀ i,i<n->∀ j,j<n->F' i j=F j i)(hf:FullK p n F)(h:IsCop p n F G) :
    FullK p n F'/\IsCop p n F' (fun i j=>G j i):=by
  have hZ:=hp.two;refine ⟨Mh hp hn0 hn hF' hFp' fun x hx hx0 c hc=>?_,fun i j=>h.lt j i,fun i j q=>h.out j i (by omega),fun i hi j hj=>?_⟩
  . have h1:∀ i,i<n->(p:Int)∣sI (fun k=>(F k i:Int)*x k) n:=fun i hi=>by
      have:=hx i hi
      unfold dot at this
      rw [Fe hn (fun c h1 h2=>by rw [hx0 c h1 h2];simp)] at this
      rwa [An (g:=fun k=>(F k i:Int)*x k) (fun k hk=>by show (F' i k:Int)*_=_;rw [e i hi k hk])] at this
    have h2:(p:Int)∣sI (fun i=>(G i c:Int)*sI (fun k=>(F k i:Int)*x k) n) n:=DB fun i hi=>Int.dvd_mul_of_dvd_right (h1 i hi);have h3:sI (fun i=>(G i c:Int)*sI (fun k=>(F k i:Int)*x k) n) n=sI (fun k=>x k*sI (fun i=>(F k i:Int)*(G i c:Int)) n) n:=by
      rw [An (g:=fun i=>sI (fun k=>(G i c:Int)*((F k i:Int)*x k)) n) (fun i _=>(CQ _ _ _).symm),Cm];exact An fun k _=>by rw [← CQ];exact An fun i _=>by grind
    rw [h3] at h2;have h4:=Iu (p:=p) (f:=x) (g:=fun k=>sI (fun i=>(F k i:Int)*(G i c:Int)) n) (h:=fun k=>(dl k c:Int)) (n:=n) (fun k hk=>h.sol k hk c hc);rw [No hc] at h4;have:=Int.dvd_sub h2 h4
    rwa [show ∀ a b:Int,a - (a - b)=b from fun a b=>by omega] at this
  . have:=h.left hZ hn O hf j hj i hi
    rw [show sI (fun k=>(F' i k:Int)*(G j k:Int)) n=sI (fun k=>(G j k:Int)*(F k i:Int)) n from An fun k hk=>by rw [e i hi k hk];exact Int.mul_comm _ _]
    rwa [show (dl i j)=dl j i by unfold dl;by_cases q:i=j<;>simp [q,eq_comm]]
end Go.Ech
