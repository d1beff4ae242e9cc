import Derived.Test.YtkcneleabbjkaaaSw70
import Derived.Test.YtkcneleabbjkaaaSw63
import Derived.Test.YtkcneleabbjkaaaSw14
import Derived.Test.YtkcneleabbjkaaaSw6
import Derived.Test.YtkcneleabbjkaaaSw21
import Derived.Test.YtkcneleabbjkaaaSw19
import Derived.Control
set_option linter.unusedVariables false
set_option linter.unusedSimpArgs false
namespace Go.Sw
open Go Go.RowKit
section
variable {P : Program} {n : Nat} {F : List (Nat × Value)} {a : Act} {w w0 : World} {d : Option Tmp} {t T kt et : TypeId} {pos : String} {af : Array Edge} {gd : Option (Nat × Bool)} {x y z : Operand} {X : List Nat} {L : Own} {D : BI}
end
theorem Ju {n:Nat}{a:Act}{F:List (Nat×Value)}{x0 x1 x2 x3 x4 x5:Operand}{v0 v1 v2 v3 v4 v5:Value}(hF:Fr n a F)(h0:look F x0=some v0)(h1:look F x1=some v1)(h2:look F x2=some v2)(h3:look F x3=some v3)(h4:look F x4=some v4)(h5:look F x5=some v5):(#[(0,x0),(1,x1),(2,x2),(3,x3),(4,x4),(5,x5)]:Array (Nat×Operand)).toList.map (fun p=>(p.1,a.eval p.2))=[(0,v0),(1,v1),(2,v2),(3,v3),(4,v4),(5,v5)]:=by simp [hF.eval h0,hF.eval h1,hF.eval h2,hF.eval h3,hF.eval h4,hF.eval h5]
theorem HU (cs:Array Value)(n:Nat)(h:n=cs.size):cs.extract 0 n=cs:=by subst h;simp
section
variable {P : Program} {n : Nat} {F : List (Nat × Value)} {a : Act} {w w0 : World} {d : Option Tmp} {t T : TypeId} {pos : String} {af : Array Edge} {gd : Option (Nat × Bool)} {x y : Operand} {X : List Nat} {L : Own} {D : BI}
end
end Go.Sw
namespace Go.Sw
open Go Go.RowKit
section
variable {P : Program} {X : List Nat} {w0 w : World} {D : BI} {W : List Nat} {L0 L : Own} {kt : Nat} {csO csN : Array Value} {bb : Bool} {l : List Fact} {i : Nat} {o : Oper} {a : Act}
theorem Lz {mk:Nat→Value}{k:Nat}{cs:Array Value}(hS:Ij X w0 D W L0 kt csO csN bb L w)(hi:l[i]? = some (.own k cs mk))(hne:Nat.beq k kt=false)(hk:Cf k W=true)(hkl:Nat.blt k L0.length=true)(h1:DP k i l 0=true)
    (hg:Does P o a w (fun u w'=>∃ b,u=mk b∧MemX X w0 w' (L.set k (some (b,cs))) D∧Ext w w')):Does P o a w (D7 (Ij X w0 D W L0 kt csO csN) (C1 kt l) bb i L w):=
  hg.mono fun u w' ⟨b,hu,hM,hx⟩=>by
    have hkl':k<L.length:=by rw [hS.1.2.1];exact Nat.blt_eq.mp hkl
    have hn:¬ k=kt:=fun e=>by rw [e,Nat.beq_refl] at hne;cases hne
    refine ⟨L.set k (some (b,cs)),⟨⟨hM,hS.1.2.set k hk _⟩,fun c ds hc=>?_⟩,?_,fun j u hj h=>FN h1 j u hj h⟩
    · rw [List.getElem?_set_ne hn] at hc;exact hS.2 c ds hc
    · unfold C1;rw [hi];show (if k=kt then _ else _);rw [if_neg hn];exact ⟨b,hu,by simp [hkl']⟩
end
end Go.Sw
namespace Go.Sw
open Go Go.RowKit
section
variable {P : Program} {n : Nat} {F : List (Nat × Value)} {a : Act} {w : World} {d : Option Tmp} {t T T' : TypeId} {pos : String} {af : Array Edge} {gd : Option (Nat × Bool)} {x y : Operand} {k k' : IntKind} {A B C : Int}
theorem KB (hF:Fr n a F)(hx:look F x=some (.int k A))(hy:look F y=some (.int k' B))(hB:¬ B<0)(hC:A.fdiv (2 ^ (min B.toNat k.bits))=C):BW P ⟨d,.binOp .shr T x y T',t,pos,af,gd⟩ a w (.int k C):=
  An (by simp [execOp,Bq,binOp,Op.shift,hF.eval hx,hF.eval hy,hB,hC])
theorem KD (hF:Fr n a F)(hx:look F x=some (.int k A))(hy:look F y=some (.int k B))(hC:k.wrap ((BitVec.ofInt k.bits A &&& BitVec.ofInt k.bits B).toNat:Int)=C):BW P ⟨d,.binOp .and T x y T',t,pos,af,gd⟩ a w (.int k C):=
  An (by simp [execOp,Bq,binOp,Op.intBits,hF.eval hx,hF.eval hy,← hC])
end
theorem Fx (x:Nat):IntKind.u64.wrap (x:Int)=((x%18446744073709551616:Nat):Int):=by
  unfold IntKind.wrap IntKind.bits IntKind.signed
  simp
theorem Fa (x c:Nat):IntKind.u64.wrap ((x:Int)*(c:Int))=((x*c%18446744073709551616:Nat):Int):=by rw [← Fx];simp
theorem Dv (x c:Nat):IntKind.u64.wrap ((x:Int)+(c:Int))=(((x+c)%18446744073709551616:Nat):Int):=by rw [← Fx];simp
theorem Gt (x:Nat):(x:Int).fdiv (2 ^ (min (33:Int).toNat IntKind.u64.bits))=((x / 8589934592:Nat):Int):=by
  rw [show (2:Int) ^ (min (33:Int).toNat IntKind.u64.bits)=((8589934592:Nat):Int) from by decide,Int.fdiv_eq_ediv_of_nonneg _ (by omega)]
  rfl
theorem Gw (x:Nat)(h:x<18446744073709551616):IntKind.u64.wrap ((BitVec.ofInt IntKind.u64.bits (x:Int) &&& BitVec.ofInt IntKind.u64.bits ((16777215:Nat):Int)).toNat:Int)=((x%16777216:Nat):Int):=by
  have e:(BitVec.ofInt IntKind.u64.bits (x:Int) &&& BitVec.ofInt IntKind.u64.bits ((16777215:Nat):Int)).toNat=x%16777216:=by
    show (BitVec.ofInt 64 (x:Int) &&& BitVec.ofInt 64 ((16777215:Nat):Int)).toNat=x%16777216
    rw [BitVec.toNat_and,BitVec.ofInt_natCast,BitVec.ofInt_natCast,BitVec.toNat_ofNat,BitVec.toNat_ofNat,Nat.mod_eq_of_lt (show x<2 ^ 64 by omega),show (16777215:Nat)%2 ^ 64=2 ^ 24 - 1 from by decide,Nat.and_two_pow_sub_one_eq_mod]
  rw [e,Fx,Nat.mod_eq_of_lt (by omega)]
def Fu (l:List (Value→Prop)):Facts Unit:=fun i _ v _=>(l.getD i (fun _=>True)) v
theorem Be {P:Program}{S:World→Prop}{l:List (Value→Prop)}{o:Oper}{a:Act}{w:World}{v:Value}{i:Nat}(hS:S w)(hg:BW P o a w v)(hv:Fu l i () v w):Does P o a w (After (fun _:Unit=>S) (Fu l) i () w):=
  hg.mono fun u w' ⟨e1,e2⟩=>by subst e1;subst e2;exact ⟨(),hS,hv,fun _ _ _ h=>h⟩
theorem DK {P:Program}{S:World→Prop}{l:List (Value→Prop)}{o:Oper}{a:Act}{w:World}{R:Value→World→Prop}{i:Nat}(h:Does P o a w R)(hr:∀ v w',R v w'→S w'∧Fu l i () v w'):Does P o a w (After (fun _:Unit=>S) (Fu l) i () w):=
  h.mono fun u w' hu=>⟨(),(hr u w' hu).1,(hr u w' hu).2,fun _ _ _ h=>h⟩
def Ah (sl:Value) (at_ h:Nat):Array Value:=#[sl,.int .i64 (at_:Int),.int .u64 (h:Int)]
def CodeB (w:World) (X:List Nat) (sl:Value) (m:Nat):Prop:=
  m≤4096∧(∃ x c,sl = .slice x m c)∧(0<m→∃ (b o c:Nat) (F:Nat→Nat),sl = .slice (some ⟨b,o,none⟩) m c∧b<w.heap.size∧b ∉ X∧(∀ i,F i≤255)∧∀ i,i<m→w.cell? ⟨b,o+i*1,none⟩=some (.int .u8 (F i:Int)))
theorem E5 {X:List Nat}{w w':World}{b o:Nat}{v:Value}(h:w.cell? ⟨b,o,none⟩=some v)(hx:ExtX X w w')(hb:b<w.heap.size)(hX:b ∉ X):w'.cell? ⟨b,o,none⟩=some v:=by
  unfold World.cell? at h ⊢
  simp only [hx.block b hb hX];exact h
theorem CodeB.carry {X Y:List Nat}{w0 w:World}{sl:Value}{m:Nat}(h:CodeB w0 X sl m)(hx:ExtX X w0 w)(hY:∀ y,y∈Y→y∈X∨w0.heap.size≤y):CodeB w Y sl m:=
  ⟨h.1,h.2.1,fun hm=>by
    obtain ⟨b,o,c,F,h1,h2,h3,h4,h5⟩:=h.2.2 hm
    refine ⟨b,o,c,F,h1,Nat.lt_of_lt_of_le h2 hx.size,fun hb=>?_,h4,fun i hi=>E5 (h5 i hi) hx h2 h3⟩
    rcases hY b hb with e | e
    · exact h3 e
    · omega⟩
theorem MemX.code {X:List Nat}{w0 w:World}{L:Own}{D:BI}{sl:Value}{m k b:Nat}{cs:Array Value}(h:MemX X w0 w L D)(hc:CodeB w0 X sl m)(hk:L[k]? = some (some (b,cs))):CodeB w [b] sl m:=
  hc.carry h.bel (fun y hy=>by
    have e:y=b:=by simpa using hy
    subst e
    exact (h.blk k y cs hk).1.symm)
theorem AE {sl:Value}{at_ h:Nat}:(Ah sl at_ h).size=3:=rfl
def EW (x n:Int):Prop:=0≤x∧(1≤n→x<n)∧(n<1→x=0)
theorem CallsX.mono {P:Program}{X:List Nat}{f:FuncId}{args:Array Value}{w:World}{R R':Value→World→Prop}(h:CallsX P X f args w R)(hr:∀ v w',R v w'→R' v w'):CallsX P X f args w R':=
  Calls.mono h (fun _ _ ⟨v,he,h1,h2⟩=>⟨v,he,h1,hr v _ h2⟩)
section
variable {n : Nat} {F : List (Nat × Value)} {a : Act}
theorem KH {x0 x1:Operand}{v0 v1:Value}(hF:Fr n a F)(h0:look F x0=some v0)(h1:look F x1=some v1):(#[(0,x0),(2,x1)]:Array (Nat×Operand)).toList.map (fun p=>(p.1,a.eval p.2))=[(0,v0),(2,v1)]:=by simp [hF.eval h0,hF.eval h1]
theorem M4 {x0 x1 x2 x3 x4 x5 x6:Operand}{v0 v1 v2 v3 v4 v5 v6:Value}(hF:Fr n a F)(h0:look F x0=some v0)(h1:look F x1=some v1)(h2:look F x2=some v2)(h3:look F x3=some v3)(h4:look F x4=some v4)(h5:look F x5=some v5)(h6:look F x6=some v6):(#[(0,x0),(1,x1),(2,x2),(3,x3),(4,x4),(5,x5),(6,x6)]:Array (Nat×Operand)).toList.map (fun p=>(p.1,a.eval p.2))=[(0,v0),(1,v1),(2,v2),(3,v3),(4,v4),(5,v5),(6,v6)]:=by simp [hF.eval h0,hF.eval h1,hF.eval h2,hF.eval h3,hF.eval h4,hF.eval h5,hF.eval h6]
end
end Go.Sw
namespace Go.Sw
def Gh (h:Nat):Nat:=(h*6364136223846793005%18446744073709551616+1442695040888963407)%18446744073709551616
def Jq (f:Nat→Nat):Nat→Nat→Nat
  | 0,h=>h
  | k+1,h=>Jq f k (f h)
theorem NP (f:Nat→Nat)(k h:Nat):Jq f (k+1) h=Jq f k (f h):=rfl
theorem MZ (f:Nat→Nat)(h:Nat):Jq f 1 h=f h:=rfl
theorem Ia (f:Nat→Nat)(k:Nat):∀ j h,Jq f (j+k) h=Jq f k (Jq f j h)
  | 0,h=>by rw [Nat.zero_add];rfl
  | j + 1, h => by
    rw [Nat.add_right_comm]
    exact Ia f k j (f h)
def Aff (m a b:Nat):Prop:=∀ h,Jq Gh m h%34359738368=(a*h+b)%34359738368
theorem Lv {A C P Q:Nat}(hd:Q∣P)(h:Nat):((h*A%P+C)%P)%Q=((A%Q)*h+C%Q)%Q:=by
  rw [Nat.mod_mod_of_dvd _ hd,Nat.add_mod,Nat.mod_mod_of_dvd _ hd,Nat.mul_comm h A,Nat.add_mod (A%Q*h),Nat.mod_mod,Nat.mod_mul_mod]
theorem Ns:(34359738368:Nat)∣18446744073709551616:=⟨536870912,rfl⟩
theorem Aff.one:Aff 1 (6364136223846793005%34359738368) (1442695040888963407%34359738368):=fun h=>by
  rw [MZ]
  unfold Gh
  exact Lv Ns h
theorem Aff.dbl {m a b:Nat}(h:Aff m a b):Aff (m+m) (a*a%34359738368) ((a*b+b)%34359738368):=fun x=>by
  rw [Ia,h (Jq Gh m x),Nat.add_mod,Nat.mul_mod,h x,← Nat.mul_mod,← Nat.add_mod]
  rw [Nat.add_mod (a*a%34359738368*x),Nat.mod_mod,Nat.mod_mul_mod,← Nat.add_mod]
  congr 1
  rw [Nat.mul_add,Nat.mul_assoc,Nat.add_assoc]
def Me:Nat→Nat×Nat
  | 0=>(6364136223846793005%34359738368,1442695040888963407%34359738368)
  | k+1=>((Me k).1*(Me k).1%34359738368,((Me k).1*(Me k).2+(Me k).2)%34359738368)
theorem Aff.pow:∀ k,Aff (2 ^ k) (Me k).1 (Me k).2
  | 0=>Aff.one
  | k + 1 => by
    rw [Nat.pow_succ,Nat.mul_two]
    exact (Aff.pow k).dbl
theorem Aff.far:∃ N,1≤N∧N≤8589934592∧Aff N 1 8589934592:=by
  have h:=Aff.pow 33;have e:Me 33=(1,8589934592):=by decide +kernel
  rw [e] at h;exact ⟨2 ^ 33,by decide,by decide,h⟩
theorem Md {N D:Nat}(hA:Aff N 1 D)(h:Nat):∀ j,Jq Gh (j*N) h%34359738368=(h+j*D)%34359738368
  | 0=>by rw [Nat.zero_mul,Nat.zero_mul];rfl
  | j + 1 => by
    rw [Nat.succ_mul,Ia,hA,Nat.one_mul,Nat.add_mod,Md hA h j,← Nat.add_mod,Nat.succ_mul,Nat.add_assoc]
def HT (h:Nat):Prop:=h / 8589934592%4=0
theorem MH {h h':Nat}(e:h%34359738368=h'%34359738368):HT h↔HT h':=by
  unfold HT
  omega
theorem NR (h:Nat):∃ k,1≤k∧k≤34359738368∧HT (Jq Gh k h):=by
  obtain ⟨N,hN1,hN2,hA⟩:=Aff.far;have key:∀ j,1≤j→j≤4→(h+j*8589934592) / 8589934592%4=0→∃ k,1≤k∧k≤34359738368∧HT (Jq Gh k h):=fun j h1 h4 e=>by
    refine ⟨j*N,Nat.mul_le_mul h1 hN1,Nat.le_trans (Nat.mul_le_mul h4 hN2) (by decide),?_⟩;rw [MH (Md hA h j)];exact e
  have e:h / 8589934592%4=0∨h / 8589934592%4=1∨h / 8589934592%4=2∨h / 8589934592%4=3:=by omega
  rcases e with e | e | e | e
  · exact key 4 (by omega) (by omega) (by omega)
  · exact key 3 (by omega) (by omega) (by omega)
  · exact key 2 (by omega) (by omega) (by omega)
  · exact key 1 (by omega) (by omega) (by omega)
theorem Kp {k h:Nat}(h1:1≤k)(hh:HT (Jq Gh k h)):HT (Gh h)∨(1≤k - 1∧HT (Jq Gh (k - 1) (Gh h))):=by
  obtain ⟨j,rfl⟩:∃ j,k=j+1:=⟨k - 1,by omega⟩
  by_cases e:j=0
  · subst e;rw [MZ] at hh;exact .inl hh
  · rw [NP] at hh;exact .inr ⟨by omega,by rw [Nat.add_sub_cancel];exact hh⟩
end Go.Sw
namespace Go.Sw
def Ni (m:Nat) (nn:Int) (ha hh:Nat) (x:Int) (ha' hh':Nat):Prop:=
  1≤nn→(ha<m∧ha'=ha+1)∨(m≤ha∧ha'=ha∧hh'=Gh hh∧x=((hh' / 8589934592%16777216:Nat):Int).tmod nn)
def JP (fit:Prop) (kk N m ha hh:Nat):Prop:=fit∨∃ k,1≤k∧k≤34359738368∧HT (Jq Gh k hh)∧kk+(m - ha)*34359738369+k≤N
theorem Jh (fit:Prop)(m ha hh:Nat):∃ N,JP fit 0 N m ha hh:=by
  obtain ⟨k,h1,h2,h3⟩:=NR hh;exact ⟨0+(m - ha)*34359738369+k,.inr ⟨k,h1,h2,h3,Nat.le_refl _⟩⟩
theorem MB {fit:Prop}{kk N m ha hh:Nat}(h:JP fit kk N m ha hh)(hn:¬ fit):kk+1≤N:=by
  rcases h with h | ⟨k,h1,_,_,h4⟩
  · exact absurd h hn
  · omega
theorem ND (y:Nat):((y%16777216:Nat):Int).tmod 4=((y%4:Nat):Int):=by
  rw [Int.tmod_eq_emod_of_nonneg (by omega)]
  omega
theorem left_step {fit fit':Prop}{kk N m ha hh ha' hh':Nat}{x:Int}(h:JP fit kk N m ha hh)(hn:¬ fit)(hx:Ni m 4 ha hh x ha' hh')(hf:x=0→fit'):JP fit' (kk+1) N m ha' hh':=by
  rcases h with h | ⟨k,h1,h2,h3,h4⟩
  · exact absurd h hn
  · rcases hx (by decide) with ⟨a1,a2⟩ | ⟨a1,a2,a3,a4⟩
    · obtain ⟨k',b1,b2,b3⟩:=NR hh'
      refine .inr ⟨k',b1,b2,b3,?_⟩;obtain ⟨d,hd⟩:∃ d,m - ha=d+1:=⟨m - ha - 1,by omega⟩;rw [show m - ha'=d by omega];rw [hd] at h4
      omega
    · subst a2
      rcases Kp h1 h3 with hit | ⟨c1,c2⟩
      · refine .inl (hf ?_)
        rw [a4,a3,ND]
        unfold HT at hit
        rw [hit];rfl
      · rw [← a3] at c2
        clear a3 a4 h3;exact .inr ⟨k - 1,c1,by omega,c2,by omega⟩
end Go.Sw
namespace Go.Sw
open Go Go.RowKit
def Nc (R:Act→World→Prop):Exit→Act→World→Prop
  | .normal,a,w=>R a w
  | _,_,_=>False
theorem Ep {R:Act→World→Prop}{a:Act}{w:World}(h:R a w):Nc R .normal a w:=h
theorem NF {P:Program}{Q:Exit→Act→World→Prop}{a:Act}{w:World}{x y:Code}(R:Act→World→Prop)(h:x.wp P (Nc R) a w)(k:∀ a w,R a w→y.wp P Q a w):(x.seq y).wp P Q a w:=
  sq (wp_mono h fun e a w hq=>by
    cases e with
    | normal=>exact k a w hq
    | _=>exact hq.elim)
end Go.Sw
namespace Go.Sw
open Go Go.RowKit
variable {P : Program} {n : Nat} {F : List (Nat × Value)} {a : Act} {w : World} {d : Option Tmp} {t : TypeId} {pos : String} {af : Array Edge} {gd : Option (Nat × Bool)} {x y : Operand}
theorem NU {T1 T2:TypeId}{k:IntKind}{A B C:Int}(hF:Fr n a F)(hx:look F x=some (.int k A))(hy:look F y=some (.int k B))(hC:(if B > A then B else A)=C):BW P ⟨d,.call { callee:=.builtin .max,args:=#[x,y],argTypes:=#[T1,T2] },t,pos,af,gd⟩ a w (.int k C):=
  An (by simp [execOp,resolve,invoke,hF.eval hx,hF.eval hy,builtin,Builtin.max_,Builtin.max2,hC])
end Go.Sw
namespace Go.Sw
open Go Go.RowKit Go.ChangeShapes Go.WideShapes Go.ChangeAt
structure ArgSS (w:World) (sl:Value) (m:Nat) (L:Nat→Nat) (R:Nat→Nat→Int) (xs:Nat→Option Addr) (ca be ob:Nat→Nat):Prop where
  out:∃ x c,sl = .slice x m c
  cell:0<m→∃ b o c,sl = .slice (some ⟨b,o,none⟩) m c∧∀ i,i<m→w.cell? ⟨b,o+i*1,none⟩=some (.slice (xs i) (L i) (ca i))
  adr:∀ i,i<m→0<L i→xs i=some ⟨be i,ob i,none⟩
  num:∀ i,i<m→∀ j,j<L i→w.cell? ⟨be i,ob i+j*1,none⟩=some (.int .i64 (R i j))
namespace ArgSS
variable {w w' : World} {sl : Value} {m : Nat} {L : Nat → Nat} {R : Nat → Nat → Int} {xs : Nat → Option Addr} {ca be ob : Nat → Nat}
end ArgSS
section
variable {H : Type} {enc : TypeId × Value → H} {P : Program} {w : World} {base : Nat} {spare : Nat → Bool} {held : Bool}
end
def NG (m:Nat) (L:Nat→Nat) (β:Nat→Nat):Array Value:=Ag m fun i=>.slice (some ⟨β i,0,none⟩) (L i) (L i)
structure SSD (D:BI) (u:Value) (m:Nat) (L:Nat→Nat) (R:Nat→Nat→Int) (b:Nat) (β:Nat→Nat):Prop where
  val:u = .slice (some ⟨b,0,none⟩) m m
  out:(b,NG m L β)∈D
  row:∀ i,i<m→(β i,NI (L i) (R i))∈D
  inj:∀ i j,i<m→j<m→β i=β j→i=j
  ne:∀ i,i<m→β i≠b
def OJ (w w':World) (m:Nat) (L:Nat→Nat) (R:Nat→Nat→Int) (u:Value):Prop:=∃ (D:BI) (b:Nat) (β:Nat→Nat),(∀ x ds,(x,ds)∈D→w.heap.size≤x∧Blk w' x ds)∧SSD D u m L R b β
end Go.Sw
namespace Go.Sw
open Go Go.RowKit
def Of (Z k t:Nat) (xs:Nat→Value):Array Value:=Ag Z (fun c=>if c<t then .int .i64 (((k+c:Nat)):Int) else xs c)
section
variable {Z k t : Nat} {xs : Nat → Value}
end
end Go.Sw
namespace Go.Sw
open Go Go.RowKit
structure SSR (D:BI) (u:Value) (m:Nat) (Ln:Nat→Nat) (F:Nat→Nat→Int) (b cap:Nat) (cs:Array Value) (β κ:Nat→Nat) (C:Nat→Array Value):Prop where
  sl:SlAt 1 u (some (b,cs)) m b cap cs (fun i=>.slice (some ⟨β i,0,none⟩) (Ln i) (κ i))
  out:(b,cs)∈D
  rows:RowsC D m β C
  row:∀ i,i<m→SlAt 1 (.slice (some ⟨β i,0,none⟩) (Ln i) (κ i)) (some (β i,C i)) (Ln i) (β i) (κ i) (C i) (fun c=>.int .i64 (F i c))
  ne:∀ i,i<m→β i≠b
namespace SSR
variable {D D' : BI} {u : Value} {m b cap : Nat} {Ln β κ : Nat → Nat} {F : Nat → Nat → Int} {cs : Array Value} {C : Nat → Array Value}
end SSR
def Nx (w w':World) (m:Nat) (Ln:Nat→Nat) (F:Nat→Nat→Int) (u:Value):Prop:=∃ (D:BI) (b cap:Nat) (cs:Array Value) (β κ:Nat→Nat) (C:Nat→Array Value),(∀ x ds,(x,ds)∈D→w.heap.size≤x∧Blk w' x ds)∧SSR D u m Ln F b cap cs β κ C
def OQ (C:Nat→Array Value) (i:Nat):Nat→Value:=fun c=>((C i)[c]?).getD undef
def O9 (C:Nat→Array Value) (Ln:Nat→Nat) (st:Nat→Nat) (i:Nat):Array Value:=Of (C i).size (st i) (Ln i) (OQ C i)
end Go.Sw
namespace Go.Sw
open Go Go.RowKit
end Go.Sw
namespace Go.Sw
open Go Go.RowKit
section
variable {P : Program} {n : Nat} {F : List (Nat × Value)} {a : Act} {w : World} {d : Option Tmp} {t T T' e : TypeId} {pos : String} {af : Array Edge} {gd : Option (Nat × Bool)} {x y : Operand} {ad : Addr} {l c : Nat}
end
inductive FactF where
  | val (v:Value)
  | own (cs:Array Value) (n:Nat)
  | two (c1 c2:Array Value) (n1 n2:Nat)
def FactF.sem:FactF→BI→Value→Prop
  | .val v,_,u=>u=v
  | .own cs n,D,u=>∃ b,u = .slice (some ⟨b,0,none⟩) n n∧(b,cs)∈D
  | .two c1 c2 n1 n2,D,u=>∃ b b1 b2,u = .slice (some ⟨b,0,none⟩) 2 2∧(b,#[.slice (some ⟨b1,0,none⟩) n1 n1,.slice (some ⟨b2,0,none⟩) n2 n2])∈D∧(b1,c1)∈D∧(b2,c2)∈D
def Np (l:List FactF) (s:Nat):Facts (BI×Option (Nat×Array Value)×Value):=fun i g u _=>match Nat.beq i s with
  | true=>u=g.2.2
  | false => match l[i]? with
    | some f=>f.sem g.1 u
    | none=>True
def Ov (w0:World) (D:BI) (L0:Own) (kr:Nat) (e0:Option (Nat×Array Value)) (R:BI→Option (Nat×Array Value)→Value→Prop) (b:Bool) (g:BI×Option (Nat×Array Value)×Value) (w:World):Prop:=
  Af w0 w (L0.set kr g.2.1) (g.1++D)∧(∀ x ds,(x,ds)∈g.1→w0.heap.size≤x∧∀ y es,(y,es)∈D→y≠x)∧(b=false→g.2.1=e0)∧(b=true→R g.1 g.2.1 g.2.2)
section
variable {P : Program} {w0 w : World} {D : BI} {L0 : Own} {kr s i k : Nat} {e0 : Option (Nat × Array Value)} {R : BI → Option (Nat × Array Value) → Value → Prop} {b : Bool} {g : BI × Option (Nat × Array Value) × Value} {l : List FactF} {o : Oper} {a : Act}
end
def OR (x y z:Int) (c:Nat):Int:=if c=0 then x else if c=1 then y else z
end Go.Sw
