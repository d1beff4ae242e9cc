import Derived.Test.YtdeinnaeicmlfaaGreatSw38
import Derived.StringKeys
import Derived.Test.YtdeinnaeicmlfaaGreatSw52
import Derived.Test.YtdeinnaeicmlfaaGreatSw14
import Derived.Test.YtdeinnaeicmlfaaGreatSw6
import Derived.Test.YtdeinnaeicmlfaaGreatSw19
import Derived.Test.YtdeinnaeicmlfaaGreatSw33
set_option linter.unusedVariables false
set_option linter.unusedSimpArgs false
namespace Go.Sw
open Go Go.RowKit
section
variable {P : Program} {X : List Nat} {w0 w : World} {D : Froz} {W : List Nat} {L0 L : Own} {kt : Nat} {csO csN : Array Value} {bb : Bool} {l : List Fact} {i : Nat} {o : Oper} {a : Act}
end
end Go.Sw
namespace Go.Sw
open Go Go.RowKit
section
variable {P : Program} {n : Nat} {F : List (Nat × Value)} {a : Act} {w w0 : World} {d : Option Tmp} {t T kt et : TypeId} {pos : String} {af : Array Edge} {gd : Option (Nat × Bool)} {x y z : Operand} {X : List Nat} {L : Own} {D : Froz}
theorem d_insertS {b c:Nat}{es:Array MapEntry}{s:ByteArray}{v:Value}(hk:P.underlying kt=some .string)(hT:P.underlying T=some (.map kt et))(hM:MemX X w0 w L D)(hb:IsMap w b es c)(hge:w0.heap.size≤b)(hF:Fr n a F)(hx:look F x=some (.map (some b)))(hy:look F y=some (.string s))(hz:look F z=some v)
    (hn:Instr.findNow .string (.string s) es.toList 0=some none) :
    Does P ⟨d,.insert T x y z,t,pos,af,gd⟩ a w (fun _ w'=>MemX X w0 w' L D∧IsMap w' b (es.push { key:=.string s,val:=v,born:=c }) (c+1)):=
  ⟨fun Kk Q hkk=>by
    have hlt:b<w.heap.size:=(Array.getElem?_eq_some_iff.1 hb).1
    have hf:(Instr.findKey kt (.string s) es.toList).run P w = .ok none w:=MapKept.run_findKey hk hn
    have hc:(Instr.checkKey false 10000 kt (.string s)).run P w = .ok () w:=MapKept.run_checkKey hk (d:=.string) (k:=.string s) trivial false 9999
    have hr:(Instr.mapUpdate T (.map (some b)) (.string s) v).run P w = .ok () { w with heap:=w.heap.setIfInBounds b (.map (es.push { key:=.string s,val:=v,born:=c }) (c+1)) }:=by
      simp [Instr.mapUpdate,run_underlying hT,MapKept.run_getObj_map hb,hc,hf,MapKept.run_setObj_map _ hb,Result.andThen]
    have h:=hkk undef _ ⟨hM.setMap hb hge (.map (es.push { key:=.string s,val:=v,born:=c }) (c+1)),by unfold IsMap;show (w.heap.setIfInBounds b _)[b]? = _;simp [hlt]⟩
    unfold Oper.wp execOp
    simp [hF.eval hx,hF.eval hy,hF.eval hz,hr,Result.andThen]
    exact h⟩
theorem g_lookupS {b c i:Nat}{es:Array MapEntry}{s:ByteArray}{v:Value}(hk:P.underlying kt=some .string)(hT:P.underlying T=some (.map kt et))(hb:IsMap w b es c)(hF:Fr n a F)(hx:look F x=some (.map (some b)))(hy:look F y=some (.string s))(hn:Instr.findNow .string (.string s) es.toList 0=some (some (i,v))) :
    Gives P ⟨d,.lookup T x y true,t,pos,af,gd⟩ a w (.tuple #[v,.bool true]):=by
  have hf:(Instr.findKey kt (.string s) es.toList).run P w = .ok (some (i,v)) w:=MapKept.run_findKey hk hn;have hc:(Instr.checkKey es.isEmpty 10000 kt (.string s)).run P w = .ok () w:=MapKept.run_checkKey hk (d:=.string) (k:=.string s) trivial es.isEmpty 9999;exact gives_of_run (by simp [execOp,Instr.lookup,run_underlying hT,hF.eval hx,hF.eval hy,MapKept.run_getObj_map hb,hc,hf,Result.andThen])
theorem g_lookupS0 {b c:Nat}{es:Array MapEntry}{s:ByteArray}{z0:Value}(hk:P.underlying kt=some .string)(hT:P.underlying T=some (.map kt et))(hz:zeroP P et=some z0)(hb:IsMap w b es c)(hF:Fr n a F)(hx:look F x=some (.map (some b)))(hy:look F y=some (.string s))(hn:Instr.findNow .string (.string s) es.toList 0=some none) :
    Gives P ⟨d,.lookup T x y true,t,pos,af,gd⟩ a w (.tuple #[z0,.bool false]):=by
  have hzr:(zeroValue et).run P w = .ok z0 w:=by
    unfold zeroP at hz
    cases hi:P.info? et with
    | none=>simp [hi] at hz
    | some i=>simp [hi] at hz;simp [zeroValue,typeInfo,hi,hz]
  have hf:(Instr.findKey kt (.string s) es.toList).run P w = .ok none w:=MapKept.run_findKey hk hn;have hc:(Instr.checkKey es.isEmpty 10000 kt (.string s)).run P w = .ok () w:=MapKept.run_checkKey hk (d:=.string) (k:=.string s) trivial es.isEmpty 9999;exact gives_of_run (by simp [execOp,Instr.lookup,run_underlying hT,hF.eval hx,hF.eval hy,MapKept.run_getObj_map hb,hc,hf,hzr,Result.andThen])
end
end Go.Sw
namespace Go.Sw
open Go Go.RowKit
section
variable {P : Program} {n : Nat} {F : List (Nat × Value)} {a : Act} {w : World} {d : Option Tmp} {t T T' : TypeId} {pos : String} {af : Array Edge} {gd : Option (Nat × Bool)} {x y : Operand} {k : IntKind} {A B C : Int}
theorem g_xor (hF:Fr n a F)(hx:look F x=some (.int k A))(hy:look F y=some (.int k B))(hC:k.wrap (((A%2 ^ k.bits).toNat ^^^ (B%2 ^ k.bits).toNat:Nat):Int)=C):Gives P ⟨d,.binOp .xor T x y T',t,pos,af,gd⟩ a w (.int k C):=
  gives_of_run (by simp [execOp,eqGuard_int,binOp,Op.intBits,hF.eval hx,hF.eval hy,hC])
end
theorem xor_nat4 {x y:Nat}(hx:x<4)(hy:y<4):IntKind.i64.wrap ((((x:Int)%2 ^ IntKind.i64.bits).toNat ^^^ ((y:Int)%2 ^ IntKind.i64.bits).toNat:Nat):Int)=((x ^^^ y:Nat):Int):=by
  have h:∀ x:Nat,x<4→∀ y:Nat,y<4→IntKind.i64.wrap ((((x:Int)%2 ^ IntKind.i64.bits).toNat ^^^ ((y:Int)%2 ^ IntKind.i64.bits).toNat:Nat):Int)=((x ^^^ y:Nat):Int):=by decide
  exact h x hx y hy
theorem xor_lt4 {x y:Nat}(hx:x<4)(hy:y<4):x ^^^ y<4:=by
  have h:∀ x:Nat,x<4→∀ y:Nat,y<4→x ^^^ y<4:=by decide
  exact h x hx y hy
end Go.Sw
namespace Go.Sw
open Go Go.RowKit
section
variable {P : Program} {n : Nat} {F : List (Nat × Value)} {a : Act} {w : World} {d : Option Tmp} {t T T' : TypeId} {pos : String} {af : Array Edge} {gd : Option (Nat × Bool)} {x y : Operand} {k k' : IntKind} {A B C : Int}
theorem g_shr (hF:Fr n a F)(hx:look F x=some (.int k A))(hy:look F y=some (.int k' B))(hB:¬ B<0)(hC:A.fdiv (2 ^ (min B.toNat k.bits))=C):Gives P ⟨d,.binOp .shr T x y T',t,pos,af,gd⟩ a w (.int k C):=
  gives_of_run (by simp [execOp,eqGuard_int,binOp,Op.shift,hF.eval hx,hF.eval hy,hB,hC])
theorem g_and (hF:Fr n a F)(hx:look F x=some (.int k A))(hy:look F y=some (.int k B))(hC:k.wrap ((BitVec.ofInt k.bits A &&& BitVec.ofInt k.bits B).toNat:Int)=C):Gives P ⟨d,.binOp .and T x y T',t,pos,af,gd⟩ a w (.int k C):=
  gives_of_run (by simp [execOp,eqGuard_int,binOp,Op.intBits,hF.eval hx,hF.eval hy,← hC])
end
theorem wrap_u64n (x:Nat):IntKind.u64.wrap (x:Int)=((x%18446744073709551616:Nat):Int):=by
  unfold IntKind.wrap IntKind.bits IntKind.signed
  simp
theorem mul_u64 (x c:Nat):IntKind.u64.wrap ((x:Int)*(c:Int))=((x*c%18446744073709551616:Nat):Int):=by rw [← wrap_u64n];simp
theorem add_u64 (x c:Nat):IntKind.u64.wrap ((x:Int)+(c:Int))=(((x+c)%18446744073709551616:Nat):Int):=by rw [← wrap_u64n];simp
theorem shr_u64 (x:Nat):(x:Int).fdiv (2 ^ (min (33:Int).toNat IntKind.u64.bits))=((x / 8589934592:Nat):Int):=by
  rw [show (2:Int) ^ (min (33:Int).toNat IntKind.u64.bits)=((8589934592:Nat):Int) from by decide,Int.fdiv_eq_ediv_of_nonneg _ (by omega)]
  rfl
theorem and_u64 (x:Nat)(h:x<18446744073709551616):IntKind.u64.wrap ((BitVec.ofInt IntKind.u64.bits (x:Int) &&& BitVec.ofInt IntKind.u64.bits ((16777215:Nat):Int)).toNat:Int)=((x%16777216:Nat):Int):=by
  have e:(BitVec.ofInt IntKind.u64.bits (x:Int) &&& BitVec.ofInt IntKind.u64.bits ((16777215:Nat):Int)).toNat=x%16777216:=by
    show (BitVec.ofInt 64 (x:Int) &&& BitVec.ofInt 64 ((16777215:Nat):Int)).toNat=x%16777216
    rw [BitVec.toNat_and,BitVec.ofInt_natCast,BitVec.ofInt_natCast,BitVec.toNat_ofNat,BitVec.toNat_ofNat,Nat.mod_eq_of_lt (show x<2 ^ 64 by omega),show (16777215:Nat)%2 ^ 64=2 ^ 24 - 1 from by decide,Nat.and_two_pow_sub_one_eq_mod]
  rw [e,wrap_u64n,Nat.mod_eq_of_lt (by omega)]
def FactI (l:List (Value→Prop)):Facts Unit:=fun i _ v _=>(l.getD i (fun _=>True)) v
theorem dI_val {P:Program}{S:World→Prop}{l:List (Value→Prop)}{o:Oper}{a:Act}{w:World}{v:Value}{i:Nat}(hS:S w)(hg:Gives P o a w v)(hv:FactI l i () v w):Does P o a w (After (fun _:Unit=>S) (FactI l) i () w):=
  hg.mono fun u w' ⟨e1,e2⟩=>by subst e1;subst e2;exact ⟨(),hS,hv,fun _ _ _ h=>h⟩
theorem dI_call {P:Program}{S:World→Prop}{l:List (Value→Prop)}{o:Oper}{a:Act}{w:World}{R:Value→World→Prop}{i:Nat}(h:Does P o a w R)(hr:∀ v w',R v w'→S w'∧FactI l i () v w'):Does P o a w (After (fun _:Unit=>S) (FactI l) i () w):=
  h.mono fun u w' hu=>⟨(),(hr u w' hu).1,(hr u w' hu).2,fun _ _ _ h=>h⟩
def srcC (sl:Value) (at_ h:Nat):Array Value:=#[sl,.int .i64 (at_:Int),.int .u64 (h:Int)]
def CodeB (w:World) (X:List Nat) (sl:Value) (m:Nat):Prop:=
  m≤4096∧(∃ x c,sl = .slice x m c)∧(0<m→∃ (b o c:Nat) (F:Nat→Nat),sl = .slice (some ⟨b,o,none⟩) m c∧b<w.heap.size∧b ∉ X∧(∀ i,F i≤255)∧∀ i,i<m→w.cell? ⟨b,o+i*1,none⟩=some (.int .u8 (F i:Int)))
theorem cell_extX {X:List Nat}{w w':World}{b o:Nat}{v:Value}(h:w.cell? ⟨b,o,none⟩=some v)(hx:ExtX X w w')(hb:b<w.heap.size)(hX:b ∉ X):w'.cell? ⟨b,o,none⟩=some v:=by
  unfold World.cell? at h ⊢
  simp only [hx.block b hb hX];exact h
theorem CodeB.carry {X Y:List Nat}{w0 w:World}{sl:Value}{m:Nat}(h:CodeB w0 X sl m)(hx:ExtX X w0 w)(hY:∀ y,y∈Y→y∈X∨w0.heap.size≤y):CodeB w Y sl m:=
  ⟨h.1,h.2.1,fun hm=>by
    obtain ⟨b,o,c,F,h1,h2,h3,h4,h5⟩:=h.2.2 hm
    refine ⟨b,o,c,F,h1,Nat.lt_of_lt_of_le h2 hx.size,fun hb=>?_,h4,fun i hi=>cell_extX (h5 i hi) hx h2 h3⟩
    rcases hY b hb with e | e
    · exact h3 e
    · omega⟩
theorem MemX.code {X:List Nat}{w0 w:World}{L:Own}{D:Froz}{sl:Value}{m k b:Nat}{cs:Array Value}(h:MemX X w0 w L D)(hc:CodeB w0 X sl m)(hk:L[k]? = some (some (b,cs))):CodeB w [b] sl m:=
  hc.carry h.bel (fun y hy=>by
    have e:y=b:=by simpa using hy
    subst e
    exact (h.blk k y cs hk).1.symm)
theorem srcC_size {sl:Value}{at_ h:Nat}:(srcC sl at_ h).size=3:=rfl
def Drawn (x n:Int):Prop:=0≤x∧(1≤n→x<n)∧(n<1→x=0)
theorem CallsX.mono {P:Program}{X:List Nat}{f:FuncId}{args:Array Value}{w:World}{R R':Value→World→Prop}(h:CallsX P X f args w R)(hr:∀ v w',R v w'→R' v w'):CallsX P X f args w R':=
  Calls.mono h (fun _ _ ⟨v,he,h1,h2⟩=>⟨v,he,h1,hr v _ h2⟩)
section
variable {n : Nat} {F : List (Nat × Value)} {a : Act}
theorem build02 {x0 x1:Operand}{v0 v1:Value}(hF:Fr n a F)(h0:look F x0=some v0)(h1:look F x1=some v1):(#[(0,x0),(2,x1)]:Array (Nat×Operand)).toList.map (fun p=>(p.1,a.eval p.2))=[(0,v0),(2,v1)]:=by simp [hF.eval h0,hF.eval h1]
theorem build7 {x0 x1 x2 x3 x4 x5 x6:Operand}{v0 v1 v2 v3 v4 v5 v6:Value}(hF:Fr n a F)(h0:look F x0=some v0)(h1:look F x1=some v1)(h2:look F x2=some v2)(h3:look F x3=some v3)(h4:look F x4=some v4)(h5:look F x5=some v5)(h6:look F x6=some v6):(#[(0,x0),(1,x1),(2,x2),(3,x3),(4,x4),(5,x5),(6,x6)]:Array (Nat×Operand)).toList.map (fun p=>(p.1,a.eval p.2))=[(0,v0),(1,v1),(2,v2),(3,v3),(4,v4),(5,v5),(6,v6)]:=by simp [hF.eval h0,hF.eval h1,hF.eval h2,hF.eval h3,hF.eval h4,hF.eval h5,hF.eval h6]
end
end Go.Sw
namespace Go.Sw
open Go Go.RowKit
variable {P : Program}
def Exit.goes (J:Nat→Act→World→Prop) (Q:Exit→Act→World→Prop):Exit→Act→World→Prop
  | .goto l,a,w=>J l a w
  | e,a,w=>Q e a w
section
variable {Q : Exit → Act → World → Prop} {J : Nat → Act → World → Prop} {K : Act → World → Prop} {a : Act} {w : World}
end
section
variable {n : Nat} {F : List (Nat × Value)} {a : Act} {w : World} {d : Option Tmp} {t T : TypeId} {pos : String} {af : Array Edge} {gd : Option (Nat × Bool)} {x : Operand}
theorem g_nilCheck {b o:Nat}(hF:Fr n a F)(hx:look F x=some (ptr b o)):Gives P ⟨d,.nilCheck x,t,pos,af,gd⟩ a w (ptr b o):=
  gives_of_run (by simp [execOp,hF.eval hx])
end
theorem str_eq {s u:ByteArray}(h:s.toList=u.toList):s=u:=by
  have h2:(s.toList == u.toList)=true:=by rw [h];simp
  exact ByteArray.ext (by simpa [ByteArray.toList_eq] using h2)
section
variable {P : Program} {fn : Func} {a : Act} {w : World}
theorem fin3 {r s t:ResultVar}{v u x:Value}{R:Ending→World→Prop}(hr:fn.results = #[r,s,t])(hd:a.defers=[])(h1:resIs P a w r v)(h2:resIs P a w s u)(h3:resIs P a w t x)(h:R (.returned (.tuple #[v,u,x])) w):bodyPost P fn R .ret a w:=
  bodyPost_ret (by
    rw [results_eq,hr]
    simp [resIs_run h1,resIs_run h2,resIs_run h3]) hd h
end
end Go.Sw
namespace Go.Sw
open Go Go.RowKit
theorem grpC_setM {n:Int}{M:Nat→Nat→Nat}{o v:Nat}(i j:Nat)(h:o=1+i*6+j)(hi:i<6)(hj:j<6):(grpC n M).setIfInBounds o (.int .u8 (v:Int))=grpC n (fun a b=>if a=i∧b=j then v else M a b):=by
  subst h;refine grpC_eq (by rw [Array.size_setIfInBounds,grpC_size]) ?_ ?_
  · rw [Array.getElem?_setIfInBounds_ne (by omega)];exact grpC_n rfl
  · intro a b ha hb
    by_cases e:a=i∧b=j
    · obtain ⟨rfl,rfl⟩:=e
      rw [if_pos ⟨rfl,rfl⟩,Array.getElem?_setIfInBounds_self_of_lt (by rw [grpC_size];omega)]
    · rw [if_neg e,Array.getElem?_setIfInBounds_ne (by omega)];exact grpC_M a b rfl ha hb
end Go.Sw
namespace Go.Sw
open Go Go.RowKit
section
variable {P : Program} {n : Nat} {F : List (Nat × Value)} {a : Act} {w w0 : World} {d : Option Tmp} {t T kt et : TypeId} {pos : String} {af : Array Edge} {gd : Option (Nat × Bool)} {x y z : Operand} {X : List Nat} {L : Own} {D : Froz}
end
theorem IsMap.setRow {w:World}{b q:Nat}{cs cs':Array Value}{es:Array MapEntry}{c:Nat}(h:IsMap w q es c)(hb:Blk w b cs):IsMap (w.setRow b cs') q es c:=by
  have hne:q≠b:=fun e=>by
    obtain ⟨t,ht⟩:=hb
    unfold IsMap at h
    rw [e,ht] at h;cases h
  unfold IsMap
  rw [setRow_other w b q cs' hne];exact h
section
variable {P : Program} {n : Nat} {F : List (Nat × Value)} {a : Act} {w w0 : World} {d : Option Tmp} {t T : TypeId} {pos : String} {af : Array Edge} {gd : Option (Nat × Bool)} {x y : Operand} {X : List Nat} {L : Own} {D : Froz}
end
end Go.Sw
namespace Go.Sw
open Go Go.RowKit
variable {P : Program} {n : Nat} {F : List (Nat × Value)} {a : Act} {w : World} {d : Option Tmp} {t : TypeId} {pos : String} {af : Array Edge} {gd : Option (Nat × Bool)} {x y : Operand}
theorem g_max {T1 T2:TypeId}{k:IntKind}{A B C:Int}(hF:Fr n a F)(hx:look F x=some (.int k A))(hy:look F y=some (.int k B))(hC:(if B > A then B else A)=C):Gives P ⟨d,.call { callee:=.builtin .max,args:=#[x,y],argTypes:=#[T1,T2] },t,pos,af,gd⟩ a w (.int k C):=
  gives_of_run (by simp [execOp,resolve,invoke,hF.eval hx,hF.eval hy,builtin,Builtin.max_,Builtin.max2,hC])
end Go.Sw
namespace Go.Sw
open Go Go.RowKit
end Go.Sw
namespace Go.Sw
open Go Go.RowKit
section
variable {P : Program} {n : Nat} {F : List (Nat × Value)} {a : Act} {w : World} {d : Option Tmp} {t T T' e : TypeId} {pos : String} {af : Array Edge} {gd : Option (Nat × Bool)} {x y : Operand} {ad : Addr} {l c : Nat}
end
inductive FactF where
  | val (v:Value)
  | own (cs:Array Value) (n:Nat)
  | two (c1 c2:Array Value) (n1 n2:Nat)
def FactF.sem:FactF→Froz→Value→Prop
  | .val v,_,u=>u=v
  | .own cs n,D,u=>∃ b,u = .slice (some ⟨b,0,none⟩) n n∧(b,cs)∈D
  | .two c1 c2 n1 n2,D,u=>∃ b b1 b2,u = .slice (some ⟨b,0,none⟩) 2 2∧(b,#[.slice (some ⟨b1,0,none⟩) n1 n1,.slice (some ⟨b2,0,none⟩) n2 n2])∈D∧(b1,c1)∈D∧(b2,c2)∈D
def factsF (l:List FactF) (s:Nat):Facts (Froz×Option (Nat×Array Value)×Value):=fun i g u _=>match Nat.beq i s with
  | true=>u=g.2.2
  | false => match l[i]? with
    | some f=>f.sem g.1 u
    | none=>True
def ParF (w0:World) (D:Froz) (L0:Own) (kr:Nat) (e0:Option (Nat×Array Value)) (R:Froz→Option (Nat×Array Value)→Value→Prop) (b:Bool) (g:Froz×Option (Nat×Array Value)×Value) (w:World):Prop:=
  Mem w0 w (L0.set kr g.2.1) (g.1++D)∧(∀ x ds,(x,ds)∈g.1→w0.heap.size≤x∧∀ y es,(y,es)∈D→y≠x)∧(b=false→g.2.1=e0)∧(b=true→R g.1 g.2.1 g.2.2)
section
variable {P : Program} {w0 w : World} {D : Froz} {L0 : Own} {kr s i k : Nat} {e0 : Option (Nat × Array Value)} {R : Froz → Option (Nat × Array Value) → Value → Prop} {b : Bool} {g : Froz × Option (Nat × Array Value) × Value} {l : List FactF} {o : Oper} {a : Act}
end
def tri3 (x y z:Int) (c:Nat):Int:=if c=0 then x else if c=1 then y else z
end Go.Sw
namespace Go.Sw
open Go Go.RowKit Go.Ech
structure Tri (w:World) (b o m:Nat) (R:Nat→Nat→Int) (ca be ob:Nat→Nat):Prop where
  cell:∀ i,i<m→w.cell? ⟨b,o+i*1,none⟩=some (.slice (some ⟨be i,ob i,none⟩) 3 (ca i))
  num:∀ i,i<m→∀ j,j<3→w.cell? ⟨be i,ob i+j*1,none⟩=some (.int .i64 (R i j))
def Num3 (w w':World) (f:Nat→Int) (v:Value):Prop:=∃ b c cs,v = .slice (some ⟨b,0,none⟩) 3 c∧w.heap.size≤b∧Blk w' b cs∧SlAt 1 v (some (b,cs)) 3 b c cs (fun k=>.int .i64 (f k))
end Go.Sw
namespace Go.Ech
open Go.Sw
end Go.Ech
