import Derived.Test.YtkcneleabbjkaaaSw40
import Derived.DeepKeys4
import Derived.StringKeys
import Derived.Control
set_option linter.unusedVariables false
set_option linter.unusedSimpArgs false
namespace Go.Sw
open Go Go.RowKit
def IQ (P:Program):Nat->TypeId->List IntKind->Bool
  | 0,_,_=>false
  | d + 1, t, ks =>
    match P.underlying t with
    | some (.int q)=>decide (ks=[q])
    | some (.array n e)=>Nat.beq ks.length (P.cellsOf t) && (List.range n).all fun i=>IQ P d e ((ks.drop (i*P.cellsOf e)).take (P.cellsOf e))
    | some (.struct fs) => Nat.beq ks.length (P.cellsOf t) && fs.all (·.name != "_") && fs.toList.all fun f => IQ P d f.type ((ks.drop f.offset).take (P.cellsOf f.type))
    | _=>false
def Leafy (cs:List Value) (ks:List IntKind):Prop:=cs.length=ks.length/\∀ (i:Nat) (q:IntKind),ks[i]? = some q->∃ x,cs[i]? = some (Value.int q x)/\(Lit.int q x).wf=true
theorem Leafy.part {cs:List Value}{ks:List IntKind}(h:Leafy cs ks)(o l:Nat):Leafy ((cs.drop o).take l) ((ks.drop o).take l):=
  ⟨by simp [h.1],fun i q hi=>by
    rw [List.getElem?_take] at hi ⊢
    split at hi
    . rename_i hl
      rw [if_pos hl,List.getElem?_drop]
      rw [List.getElem?_drop] at hi
      exact h.2 _ q hi
    . cases hi⟩
theorem mapM_some {α β:Type}{f:α->Option β}:∀ {l:List α},(∀ x∈l,∃ y,f x=some y)->∃ ys,l.mapM f=some ys
  | [],_=>⟨[],rfl⟩
  | x :: r, h => by
    obtain ⟨y,hy⟩:=h x (by simp)
    obtain ⟨ys,hJ⟩:=mapM_some (l:=r) fun z hz=>h z (by simp [hz])
    exact ⟨y::ys,by simp [List.mapM_cons,hy,hJ]⟩
theorem F9 {P:Program}:∀ (d:Nat) (t:TypeId) (ks:List IntKind) (cs:List Value),IQ P d t ks=true->Leafy cs ks->∃ l,P.keyLits d t cs=some l
  | 0,_,_,_,h,_=>by simp [IQ] at h
  | d + 1, t, ks, cs, h, hl => by
    unfold IQ at h
    unfold Program.keyLits
    cases hu:P.underlying t with
    | none=>simp [hu] at h
    | some dd =>
      cases dd
      case int q=>
        simp only [hu,decide_eq_true_eq] at h
        subst h
        obtain ⟨x,hx,hw⟩:=hl.2 0 q rfl
        have h1:=hl.1
        match cs,h1,hx with
        | [c], _, hx =>
          simp at hx;subst hx
          exact ⟨[.int q x],by simp [hw]⟩
      case array n e=>
        simp only [hu,Bool.and_eq_true,List.all_eq_true,List.mem_range] at h
        have h1:=Nat.eq_of_beq_eq_true h.1
        obtain ⟨ys,hJ⟩:=mapM_some (l:=List.range n) (f:=fun i=>P.keyLits d e ((cs.drop (i*P.cellsOf e)).take (P.cellsOf e))) fun i hi=>
          F9 d e _ _ (h.2 i (by simpa using hi)) (hl.part _ _)
        refine ⟨ys.flatten,?_⟩
        simp only
        rw [if_pos (hl.1.trans h1),hJ];rfl
      case struct fs=>
        simp only [hu,Bool.and_eq_true,List.all_eq_true] at h
        have h1:=Nat.eq_of_beq_eq_true h.1.1
        obtain ⟨ys,hJ⟩:=mapM_some (l:=fs.toList) (f:=fun f=>P.keyLits d f.type ((cs.drop f.offset).take (P.cellsOf f.type))) fun f hf=>
          F9 d f.type _ _ (h.2 f hf) (hl.part _ _)
        refine ⟨ys.flatten,?_⟩
        simp only
        rw [if_pos ⟨hl.1.trans h1,h.1.2⟩,hJ];rfl
      all_goals simp [hu] at h
def Nn (P:Program) (k:TypeId):Bool:=match P.underlying k with | some (.array _ _) | some (.struct _)=>true | _=>false
theorem LO {P:Program}{k:TypeId}{ks:List IntKind}{cs:Array Value}(hw:Nn P k=true)(hk:P.keyType k=true)(hl:IQ P (P.types.size+1) k ks=true)(hc:P.cellsOf k=ks.length)(h:Leafy cs.toList ks):∃ l,keyOf P k (.agg cs)=some l:=by
  obtain ⟨ls,hls⟩:=F9 _ k ks cs.toList hl h;have hz:cs.size=P.cellsOf k:=by rw [hc,← h.1];simp
  unfold Nn at hw
  unfold keyOf
  cases hu:P.underlying k with
  | none=>simp [hu] at hw
  | some dd =>
    cases dd<;>simp [hu] at hw<;>exact ⟨_,by simp [hk,Value.formed,hu,hz,Value.cells,hls];rfl⟩
def IsMap (w:World) (b:Nat) (es:Array MapEntry) (c:Nat):Prop:=w.heap[b]? = some (.map es c)
theorem IsMap.ext {w w':World}{b:Nat}{es:Array MapEntry}{c:Nat}(h:IsMap w b es c)(hx:Ext w w'):IsMap w' b es c:=by
  have hO:b<w.heap.size:=(Array.getElem?_eq_some_iff.1 h).1
  unfold IsMap
  rw [hx.block b hO];exact h
theorem MemX.setMap {X:List Nat}{w0 w:World}{L:Own}{D:A4}(h:MemX X w0 w L D){b:Nat}{es:Array MapEntry}{c:Nat}(hb:IsMap w b es c)(hge:w0.heap.size<=b)(o:Obj):MemX X w0 { w with heap:=w.heap.setIfInBounds b o } L D:=by
  have hH:∀ {q:Nat} {cs:Array Value},Blk w q cs->q≠b:=fun hq e=>by
    obtain ⟨t,ht⟩:=hq
    unfold IsMap at hb
    rw [e,hb] at ht;cases ht
  have hbl:∀ {q:Nat} {cs:Array Value},Blk w q cs->Blk { w with heap:=w.heap.setIfInBounds b o } q cs:=fun hq=>by
    have h1:=hH hq;obtain ⟨t,ht⟩:=hq;exact ⟨t,by show (w.heap.setIfInBounds b o)[_]? = _;rw [Array.getElem?_setIfInBounds_ne (Ne.symm h1)];exact ht⟩
  refine ⟨⟨h.bel.os,h.bel.tape,h.bel.output,by show _<=(w.heap.setIfInBounds b o).size;rw [Array.size_setIfInBounds];exact h.bel.size,fun k hk hX=>?_⟩,fun k q cs hq=>⟨(h.blk k q cs hq).1,hbl (h.blk k q cs hq).2⟩,h.apart,fun q cs hq=>⟨hbl (h.froz q cs hq).1,(h.froz q cs hq).2⟩⟩
  show (w.heap.setIfInBounds b o)[k]? = _
  rw [Array.getElem?_setIfInBounds_ne (by omega)];exact h.bel.block k hk hX
section
variable {P : Program} {n : Nat} {F : List (Nat × Value)} {a : Act} {w w0 : World} {d : Option Tmp} {t T kt et : TypeId} {pos : String} {af : Array Edge} {gd : Option (Nat × Bool)} {x y z : Operand} {X : List Nat} {L : Own} {D : A4}
theorem Na (J:MemX X w0 w L D):Does P ⟨d,.makeMap T none,t,pos,af,gd⟩ a w (fun u w'=>∃ b,u = .map (some b)/\MemX X w0 w' L D/\w0.heap.size<=b/\IsMap w' b #[] 0):=
  ⟨fun K Q hk=>by
    have h:=hk (.map (some w.heap.size)) (w.alloc (.map #[] 0)) ⟨_,rfl,J.ext (Ext.alloc _ _),J.bel.size,by unfold IsMap;show (w.heap.push _)[w.heap.size]? = _;simp⟩
    unfold Oper.wp execOp
    simp [Instr.makeMap]
    exact h⟩
theorem Ob {b:Nat}{k v:Value}{l:Lit}(K:WideMaps.KeyLaw P kt)(hT:P.underlying T=some (.map kt et))(J:MemX X w0 w L D)(hb:IsMap w b #[] 0)(hge:w0.heap.size<=b)(O:Fr n a F)(hx:look F x=some (.map (some b)))(hy:look F y=some k)(hz:look F z=some v)(hk:keyOf P kt k=some l) :
    Does P ⟨d,.insert T x y z,t,pos,af,gd⟩ a w (fun _ w'=>MemX X w0 w' L D/\IsMap w' b #[{ key:=k,val:=v,born:=0 }] 1):=
  ⟨fun Kk Q hkk=>by
    have hO:b<w.heap.size:=(Array.getElem?_eq_some_iff.1 hb).1
    have hf:(Instr.findKey kt k []).run P w = .ok none w:=by
      rcases K.find w hk [] (by simp) with h | ⟨j,e,_,h2,_⟩
      . exact h.1
      . simp at h2
    have hr:(Instr.mapUpdate T (.map (some b)) k v).run P w = .ok () { w with heap:=w.heap.setIfInBounds b (.map #[{ key:=k,val:=v,born:=0 }] 1) }:=by
      simp [Instr.mapUpdate,run_underlying hT,MapKept.run_getObj_map hb,K.check w false hk,hf,MapKept.run_setObj_map _ hb,Result.andThen]
    have h:=hkk undef _ ⟨J.setMap hb hge (.map #[{ key:=k,val:=v,born:=0 }] 1),by unfold IsMap;show (w.heap.setIfInBounds b _)[b]? = _;simp [hO]⟩
    unfold Oper.wp execOp
    simp [O.eval hx,O.eval hy,O.eval hz,hr,Result.andThen]
    exact h⟩
theorem NX {b c:Nat}{k k0:Value}{l l0:Lit}{v z0:Value}{p:Prop}[Decidable p](K:WideMaps.KeyLaw P kt)(hT:P.underlying T=some (.map kt et))(hz:Ej P et=some z0)(hb:IsMap w b #[{ key:=k0,val:=v,born:=c }] 1)(O:Fr n a F)(hx:look F x=some (.map (some b)))(hy:look F y=some k)(hk:keyOf P kt k=some l)(hk0:keyOf P kt k0=some l0)(hp:k0=k↔p) :
    BX P ⟨d,.lookup T x y false,t,pos,af,gd⟩ a w (if p then v else z0):=by
  have hzr:(zeroValue et).run P w = .ok z0 w:=by
    unfold Ej at hz
    cases hi:P.info? et with
    | none=>simp [hi] at hz
    | some i=>simp [hi] at hz;simp [zeroValue,typeInfo,hi,hz]
  rcases K.find w hk [{ key:=k0,val:=v,born:=c }] (by intro e he;simp at he;subst he;exact ⟨l0,hk0⟩) with ⟨h1,h2⟩ | ⟨j,e,h1,h2,h3⟩
  . have hH:¬ p:=fun hh=>h2 { key:=k0,val:=v,born:=c } (by simp) (hp.2 hh)
    rw [if_neg hH];exact Ah (by simp [execOp,Instr.lookup,run_underlying hT,O.eval hx,O.eval hy,MapKept.run_getObj_map hb,K.check w _ hk,h1,hzr,Result.andThen])
  . have he:e={ key:=k0,val:=v,born:=c }:=by
      have:=List.mem_of_getElem? h2;simpa using this
    subst he;rw [if_pos (hp.1 h3)];exact Ah (by simp [execOp,Instr.lookup,run_underlying hT,O.eval hx,O.eval hy,MapKept.run_getObj_map hb,K.check w _ hk,h1,Result.andThen])
end
section
variable {P : Program} {n : Nat} {F : List (Nat × Value)} {a : Act} {w w0 : World} {d : Option Tmp} {t T kt et : TypeId} {pos : String} {af : Array Edge} {gd : Option (Nat × Bool)} {x y z : Operand} {X : List Nat} {L : Own} {D : A4}
end
section
variable {P : Program} {n : Nat} {F : List (Nat × Value)} {a : Act} {w : World} {d : Option Tmp} {t T T' : TypeId} {pos : String} {af : Array Edge} {gd : Option (Nat × Bool)} {x y : Operand} {k : IntKind} {A B C : Int}
end
section
variable {P : Program} {n : Nat} {F : List (Nat × Value)} {a : Act} {w w0 : World} {d : Option Tmp} {t T kt et : TypeId} {pos : String} {af : Array Edge} {gd : Option (Nat × Bool)} {x y z : Operand} {X : List Nat} {L : Own} {D : A4}
end
theorem Oi {n:Nat}{a:Act}{F:List (Nat×Value)}{x0 x1 x2 x3 x4 x5:Operand}{v0 v1 v2 v3 v4 v5:Value}(O:Fr n a F)(h0:look F x0=some v0)(h1:look F x1=some v1)(h2:look F x2=some v2)(h3:look F x3=some v3)(h4:look F x4=some v4)(h5:look F x5=some v5):(#[(0,x0),(1,x1),(2,x2),(3,x3),(4,x4),(5,x5)]:Array (Nat×Operand)).toList.map (fun p=>(p.1,a.eval p.2))=[(0,v0),(1,v1),(2,v2),(3,v3),(4,v4),(5,v5)]:=by simp [O.eval h0,O.eval h1,O.eval h2,O.eval h3,O.eval h4,O.eval h5]
theorem JD (cs:Array Value)(n:Nat)(h:n=cs.size):cs.extract 0 n=cs:=by subst h;simp
section
variable {P : Program} {n : Nat} {F : List (Nat × Value)} {a : Act} {w w0 : World} {d : Option Tmp} {t T : TypeId} {pos : String} {af : Array Edge} {gd : Option (Nat × Bool)} {x y : Operand} {X : List Nat} {L : Own} {D : A4}
end
section
variable {P : Program} {X : List Nat} {w0 w : World} {D : A4} {W : List Nat} {L0 L : Own} {kt : Nat} {csO csN : Array Value} {bb : Bool} {l : List Fact} {i : Nat} {o : Oper} {a : Act}
theorem Oz {mk:Nat->Value}{k:Nat}{cs:Array Value}(hS:KU X w0 D W L0 kt csO csN bb L w)(hi:l[i]? = some (.own k cs mk))(hH:Nat.beq k kt=false)(hk:Cu k W=true)(hkl:Nat.blt k L0.length=true)(h1:Dw k i l 0=true)
    (hg:Does P o a w (fun u w'=>∃ b,u=mk b/\MemX X w0 w' (L.set k (some (b,cs))) D/\Ext w w')):Does P o a w (Ei (KU X w0 D W L0 kt csO csN) (Dd kt l) bb i L w):=
  hg.mono fun u w' ⟨b,hu,J,hx⟩=>by
    have hZ:k<L.length:=by rw [hS.1.2.1];exact Nat.blt_eq.mp hkl
    have hn:¬ k=kt:=fun e=>by rw [e,Nat.beq_refl] at hH;cases hH
    refine ⟨L.set k (some (b,cs)),⟨⟨J,hS.1.2.set k hk _⟩,fun c ds hc=>?_⟩,?_,fun j u hj h=>GO h1 j u hj h⟩
    . rw [List.getElem?_set_ne hn] at hc;exact hS.2 c ds hc
    . unfold Dd;rw [hi];show (if k=kt then _ else _);rw [if_neg hn];exact ⟨b,hu,by simp [hZ]⟩
end
theorem NJ {p n:Int}{T:Nat->Nat->Nat->Nat}{f:Nat->Nat}(hp:-9223372036854775808<=p/\p<=9223372036854775807)(hn:-9223372036854775808<=n/\n<=9223372036854775807)(hT:∀ i j k,T i j k<=255)(hf:∀ i,f i<=255) :
    Leafy (AB p n T f).toList (.i64::.i64::List.replicate 222 .u8):=by
  have w64:∀ {x:Int},-9223372036854775808<=x/\x<=9223372036854775807->(Lit.int .i64 x).wf=true:=fun {x} h=>by
    have e1:IntKind.i64.min = -9223372036854775808:=by decide
    have e2:IntKind.i64.max=9223372036854775807:=by decide
    simp [Lit.wf,e1,e2,h.1,h.2]
  have w8:∀ {x:Nat},x<=255->(Lit.int .u8 (x:Int)).wf=true:=fun {x} h=>by
    have e1:IntKind.u8.min=0:=by decide
    have e2:IntKind.u8.max=255:=by decide
    simp [Lit.wf,e1,e2];omega
  refine ⟨by rw [Array.length_toList,AE];simp only [List.length_cons,List.length_replicate],fun i q hi=>?_⟩;rw [Array.getElem?_toList]
  match i,hi with
  | 0,hi=>rw [List.getElem?_cons_zero] at hi;obtain rfl:=Option.some.inj hi;exact ⟨p,BM rfl,w64 hp⟩
  | 1,hi=>rw [List.getElem?_cons_succ,List.getElem?_cons_zero] at hi;obtain rfl:=Option.some.inj hi;exact ⟨n,Aq rfl,w64 hn⟩
  | i + 2, hi =>
    have h2:=hi;rw [List.getElem?_cons_succ,List.getElem?_cons_succ,List.getElem?_replicate] at h2
    split at h2
    . rename_i hO
      cases h2
      by_cases e:i<216
      . exact ⟨_,C7 (i / 36) (i / 6%6) (i%6) (by omega) (by omega) (by omega) (by omega),w8 (hT _ _ _)⟩
      . exact ⟨_,DH (i - 216) (by omega) (by omega),w8 (hf _)⟩
    . cases h2
section
variable {P : Program} {n : Nat} {F : List (Nat × Value)} {a : Act} {w : World} {d : Option Tmp} {t T T' : TypeId} {pos : String} {af : Array Edge} {gd : Option (Nat × Bool)} {x y : Operand} {k k' : IntKind} {A B C : Int}
theorem Mg (O:Fr n a F)(hx:look F x=some (.int k A))(hy:look F y=some (.int k' B))(hB:¬ B<0)(hC:A.fdiv (2 ^ (min B.toNat k.bits))=C):BX P ⟨d,.binOp .shr T x y T',t,pos,af,gd⟩ a w (.int k C):=
  Ah (by simp [execOp,Bu,binOp,Op.shift,O.eval hx,O.eval hy,hB,hC])
theorem Mj (O:Fr n a F)(hx:look F x=some (.int k A))(hy:look F y=some (.int k B))(hC:k.wrap ((BitVec.ofInt k.bits A &&& BitVec.ofInt k.bits B).toNat:Int)=C):BX P ⟨d,.binOp .and T x y T',t,pos,af,gd⟩ a w (.int k C):=
  Ah (by simp [execOp,Bu,binOp,Op.intBits,O.eval hx,O.eval hy,← hC])
end
theorem G9 (x:Nat):IntKind.u64.wrap (x:Int)=((x%18446744073709551616:Nat):Int):=by
  unfold IntKind.wrap IntKind.bits IntKind.signed
  simp
theorem Gi (x c:Nat):IntKind.u64.wrap ((x:Int)*(c:Int))=((x*c%18446744073709551616:Nat):Int):=by rw [← G9];simp
theorem Ee (x c:Nat):IntKind.u64.wrap ((x:Int)+(c:Int))=(((x+c)%18446744073709551616:Nat):Int):=by rw [← G9];simp
theorem H0 (x:Nat):(x:Int).fdiv (2 ^ (min (33:Int).toNat IntKind.u64.bits))=((x / 8589934592:Nat):Int):=by
  rw [show (2:Int) ^ (min (33:Int).toNat IntKind.u64.bits)=((8589934592:Nat):Int) from by decide,Int.fdiv_eq_ediv_of_nonneg _ (by omega)]
  rfl
theorem H7 (x:Nat)(h:x<18446744073709551616):IntKind.u64.wrap ((BitVec.ofInt IntKind.u64.bits (x:Int) &&& BitVec.ofInt IntKind.u64.bits ((16777215:Nat):Int)).toNat:Int)=((x%16777216:Nat):Int):=by
  have e:(BitVec.ofInt IntKind.u64.bits (x:Int) &&& BitVec.ofInt IntKind.u64.bits ((16777215:Nat):Int)).toNat=x%16777216:=by
    show (BitVec.ofInt 64 (x:Int) &&& BitVec.ofInt 64 ((16777215:Nat):Int)).toNat=x%16777216
    rw [BitVec.toNat_and,BitVec.ofInt_natCast,BitVec.ofInt_natCast,BitVec.toNat_ofNat,BitVec.toNat_ofNat,Nat.mod_eq_of_lt (show x<2 ^ 64 by omega),show (16777215:Nat)%2 ^ 64=2 ^ 24 - 1 from by decide,Nat.and_two_pow_sub_one_eq_mod]
  rw [e,G9,Nat.mod_eq_of_lt (by omega)]
def F4 (l:List (Value->Prop)):Facts Unit:=fun i _ v _=>(l.getD i (fun _=>True)) v
theorem Bg {P:Program}{S:World->Prop}{l:List (Value->Prop)}{o:Oper}{a:Act}{w:World}{v:Value}{i:Nat}(hS:S w)(hg:BX P o a w v)(hv:F4 l i () v w):Does P o a w (After (fun _:Unit=>S) (F4 l) i () w):=
  hg.mono fun u w' ⟨e1,e2⟩=>by subst e1;subst e2;exact ⟨(),hS,hv,fun _ _ _ h=>h⟩
theorem Dg {P:Program}{S:World->Prop}{l:List (Value->Prop)}{o:Oper}{a:Act}{w:World}{R:Value->World->Prop}{i:Nat}(h:Does P o a w R)(hr:∀ v w',R v w'->S w'/\F4 l i () v w'):Does P o a w (After (fun _:Unit=>S) (F4 l) i () w):=
  h.mono fun u w' hu=>⟨(),(hr u w' hu).1,(hr u w' hu).2,fun _ _ _ h=>h⟩
def BI (sl:Value) (at_ h:Nat):Array Value:=#[sl,.int .i64 (at_:Int),.int .u64 (h:Int)]
def CodeB (w:World) (X:List Nat) (sl:Value) (m:Nat):Prop:=
  m<=4096/\(∃ x c,sl = .slice x m c)/\(0<m->∃ (b o c:Nat) (F:Nat->Nat),sl = .slice (some ⟨b,o,none⟩) m c/\b<w.heap.size/\b ∉ X/\(∀ i,F i<=255)/\∀ i,i<m->w.cell? ⟨b,o+i*1,none⟩=some (.int .u8 (F i:Int)))
theorem Fs {X:List Nat}{w w':World}{b o:Nat}{v:Value}(h:w.cell? ⟨b,o,none⟩=some v)(hx:ExtX X w w')(hb:b<w.heap.size)(hX:b ∉ X):w'.cell? ⟨b,o,none⟩=some v:=by
  unfold World.cell? at h ⊢
  simp only [hx.block b hb hX];exact h
theorem CodeB.carry {X Y:List Nat}{w0 w:World}{sl:Value}{m:Nat}(h:CodeB w0 X sl m)(hx:ExtX X w0 w)(hY:∀ y,y∈Y->y∈X\/w0.heap.size<=y):CodeB w Y sl m:=
  ⟨h.1,h.2.1,fun hm=>by
    obtain ⟨b,o,c,F,h1,h2,h3,h4,h5⟩:=h.2.2 hm
    refine ⟨b,o,c,F,h1,Nat.lt_of_lt_of_le h2 hx.size,fun hb=>?_,h4,fun i hi=>Fs (h5 i hi) hx h2 h3⟩
    rcases hY b hb with e | e
    . exact h3 e
    . omega⟩
theorem MemX.code {X:List Nat}{w0 w:World}{L:Own}{D:A4}{sl:Value}{m k b:Nat}{cs:Array Value}(h:MemX X w0 w L D)(hc:CodeB w0 X sl m)(hk:L[k]? = some (some (b,cs))):CodeB w [b] sl m:=
  hc.carry h.bel (fun y hy=>by
    have e:y=b:=by simpa using hy
    subst e
    exact (h.blk k y cs hk).1.symm)
theorem AK {sl:Value}{at_ h:Nat}:(BI sl at_ h).size=3:=rfl
def FH (x n:Int):Prop:=0<=x/\(1<=n->x<n)/\(n<1->x=0)
theorem CallsX.mono {P:Program}{X:List Nat}{f:FuncId}{args:Array Value}{w:World}{R R':Value->World->Prop}(h:CallsX P X f args w R)(hr:∀ v w',R v w'->R' v w'):CallsX P X f args w R':=
  Calls.mono h (fun _ _ ⟨v,he,h1,h2⟩=>⟨v,he,h1,hr v _ h2⟩)
section
variable {n : Nat} {F : List (Nat × Value)} {a : Act}
theorem Mr {x0 x1:Operand}{v0 v1:Value}(O:Fr n a F)(h0:look F x0=some v0)(h1:look F x1=some v1):(#[(0,x0),(2,x1)]:Array (Nat×Operand)).toList.map (fun p=>(p.1,a.eval p.2))=[(0,v0),(2,v1)]:=by simp [O.eval h0,O.eval h1]
theorem P0 {x0 x1 x2 x3 x4 x5 x6:Operand}{v0 v1 v2 v3 v4 v5 v6:Value}(O:Fr n a F)(h0:look F x0=some v0)(h1:look F x1=some v1)(h2:look F x2=some v2)(h3:look F x3=some v3)(h4:look F x4=some v4)(h5:look F x5=some v5)(h6:look F x6=some v6):(#[(0,x0),(1,x1),(2,x2),(3,x3),(4,x4),(5,x5),(6,x6)]:Array (Nat×Operand)).toList.map (fun p=>(p.1,a.eval p.2))=[(0,v0),(1,v1),(2,v2),(3,v3),(4,v4),(5,v5),(6,v6)]:=by simp [O.eval h0,O.eval h1,O.eval h2,O.eval h3,O.eval h4,O.eval h5,O.eval h6]
end
def Hv (h:Nat):Nat:=(h*6364136223846793005%18446744073709551616+1442695040888963407)%18446744073709551616
def MH (f:Nat->Nat):Nat->Nat->Nat
  | 0,h=>h
  | k+1,h=>MH f k (f h)
theorem Qb (f:Nat->Nat)(k h:Nat):MH f (k+1) h=MH f k (f h):=rfl
theorem PW (f:Nat->Nat)(h:Nat):MH f 1 h=f h:=rfl
theorem KH (f:Nat->Nat)(k:Nat):∀ j h,MH f (j+k) h=MH f k (MH f j h)
  | 0,h=>by rw [Nat.zero_add];rfl
  | j + 1, h => by
    rw [Nat.add_right_comm]
    exact KH f k j (f h)
def Aff (m a b:Nat):Prop:=∀ h,MH Hv m h%34359738368=(a*h+b)%34359738368
theorem Ov {A C P Q:Nat}(hd:Q∣P)(h:Nat):((h*A%P+C)%P)%Q=((A%Q)*h+C%Q)%Q:=by
  rw [Nat.mod_mod_of_dvd _ hd,Nat.add_mod,Nat.mod_mod_of_dvd _ hd,Nat.mul_comm h A,Nat.add_mod (A%Q*h),Nat.mod_mod,Nat.mod_mul_mod]
theorem Q2:(34359738368:Nat)∣18446744073709551616:=⟨536870912,rfl⟩
theorem Aff.one:Aff 1 (6364136223846793005%34359738368) (1442695040888963407%34359738368):=fun h=>by
  rw [PW]
  unfold Hv
  exact Ov Q2 h
theorem Aff.dbl {m a b:Nat}(h:Aff m a b):Aff (m+m) (a*a%34359738368) ((a*b+b)%34359738368):=fun x=>by
  rw [KH,h (MH Hv m x),Nat.add_mod,Nat.mul_mod,h x,← Nat.mul_mod,← Nat.add_mod]
  rw [Nat.add_mod (a*a%34359738368*x),Nat.mod_mod,Nat.mod_mul_mod,← Nat.add_mod]
  congr 1
  rw [Nat.mul_add,Nat.mul_assoc,Nat.add_assoc]
def Pc:Nat->Nat×Nat
  | 0=>(6364136223846793005%34359738368,1442695040888963407%34359738368)
  | k+1=>((Pc k).1*(Pc k).1%34359738368,((Pc k).1*(Pc k).2+(Pc k).2)%34359738368)
theorem Aff.pow:∀ k,Aff (2 ^ k) (Pc k).1 (Pc k).2
  | 0=>Aff.one
  | k + 1 => by
    rw [Nat.pow_succ,Nat.mul_two]
    exact (Aff.pow k).dbl
theorem Aff.far:∃ N,1<=N/\N<=8589934592/\Aff N 1 8589934592:=by
  have h:=Aff.pow 33;have e:Pc 33=(1,8589934592):=by decide +kernel
  rw [e] at h;exact ⟨2 ^ 33,by decide,by decide,h⟩
theorem Pa {N D:Nat}(hA:Aff N 1 D)(h:Nat):∀ j,MH Hv (j*N) h%34359738368=(h+j*D)%34359738368
  | 0=>by rw [Nat.zero_mul,Nat.zero_mul];rfl
  | j + 1 => by
    rw [Nat.succ_mul,KH,hA,Nat.one_mul,Nat.add_mod,Pa hA h j,← Nat.add_mod,Nat.succ_mul,Nat.add_assoc]
def JC (h:Nat):Prop:=h / 8589934592%4=0
theorem PC {h h':Nat}(e:h%34359738368=h'%34359738368):JC h↔JC h':=by
  unfold JC
  omega
theorem Qd (h:Nat):∃ k,1<=k/\k<=34359738368/\JC (MH Hv k h):=by
  obtain ⟨N,hN1,hN2,hA⟩:=Aff.far;have key:∀ j,1<=j->j<=4->(h+j*8589934592) / 8589934592%4=0->∃ k,1<=k/\k<=34359738368/\JC (MH Hv k h):=fun j h1 h4 e=>by
    refine ⟨j*N,Nat.mul_le_mul h1 hN1,Nat.le_trans (Nat.mul_le_mul h4 hN2) (by decide),?_⟩;rw [PC (Pa hA h j)];exact e
  have e:h / 8589934592%4=0\/h / 8589934592%4=1\/h / 8589934592%4=2\/h / 8589934592%4=3:=by omega
  rcases e with e | e | e | e
  . exact key 4 (by omega) (by omega) (by omega)
  . exact key 3 (by omega) (by omega) (by omega)
  . exact key 2 (by omega) (by omega) (by omega)
  . exact key 1 (by omega) (by omega) (by omega)
theorem NU {k h:Nat}(h1:1<=k)(hh:JC (MH Hv k h)):JC (Hv h)\/(1<=k - 1/\JC (MH Hv (k - 1) (Hv h))):=by
  obtain ⟨j,rfl⟩:∃ j,k=j+1:=⟨k - 1,by omega⟩
  by_cases e:j=0
  . subst e;rw [PW] at hh;exact .inl hh
  . rw [Qb] at hh;exact .inr ⟨by omega,by rw [Nat.add_sub_cancel];exact hh⟩
def Qr (m:Nat) (nn:Int) (ha hh:Nat) (x:Int) (ha' hh':Nat):Prop:=
  1<=nn->(ha<m/\ha'=ha+1)\/(m<=ha/\ha'=ha/\hh'=Hv hh/\x=((hh' / 8589934592%16777216:Nat):Int).tmod nn)
def Lf (fit:Prop) (kk N m ha hh:Nat):Prop:=fit\/∃ k,1<=k/\k<=34359738368/\JC (MH Hv k hh)/\kk+(m - ha)*34359738369+k<=N
theorem L7 (fit:Prop)(m ha hh:Nat):∃ N,Lf fit 0 N m ha hh:=by
  obtain ⟨k,h1,h2,h3⟩:=Qd hh;exact ⟨0+(m - ha)*34359738369+k,.inr ⟨k,h1,h2,h3,Nat.le_refl _⟩⟩
theorem O7 {fit:Prop}{kk N m ha hh:Nat}(h:Lf fit kk N m ha hh)(hn:¬ fit):kk+1<=N:=by
  rcases h with h | ⟨k,h1,_,_,h4⟩
  . exact absurd h hn
  . omega
theorem QN (y:Nat):((y%16777216:Nat):Int).tmod 4=((y%4:Nat):Int):=by
  rw [Int.tmod_eq_emod_of_nonneg (by omega)]
  omega
theorem left_step {fit fit':Prop}{kk N m ha hh ha' hh':Nat}{x:Int}(h:Lf fit kk N m ha hh)(hn:¬ fit)(hx:Qr m 4 ha hh x ha' hh')(hf:x=0->fit'):Lf fit' (kk+1) N m ha' hh':=by
  rcases h with h | ⟨k,h1,h2,h3,h4⟩
  . exact absurd h hn
  . rcases hx (by decide) with ⟨a1,a2⟩ | ⟨a1,a2,a3,a4⟩
    . obtain ⟨k',b1,b2,b3⟩:=Qd hh'
      refine .inr ⟨k',b1,b2,b3,?_⟩;obtain ⟨d,hd⟩:∃ d,m - ha=d+1:=⟨m - ha - 1,by omega⟩;rw [show m - ha'=d by omega];rw [hd] at h4
      omega
    . subst a2
      rcases NU h1 h3 with hit | ⟨c1,c2⟩
      . refine .inl (hf ?_)
        rw [a4,a3,QN]
        unfold JC at hit
        rw [hit];rfl
      . rw [← a3] at c2
        clear a3 a4 h3;exact .inr ⟨k - 1,c1,by omega,c2,by omega⟩
def Qm (R:Act->World->Prop):Exit->Act->World->Prop
  | .normal,a,w=>R a w
  | _,_,_=>False
theorem Er {R:Act->World->Prop}{a:Act}{w:World}(h:R a w):Qm R .normal a w:=h
theorem QF {P:Program}{Q:Exit->Act->World->Prop}{a:Act}{w:World}{x y:Code}(R:Act->World->Prop)(h:x.wp P (Qm R) a w)(k:∀ a w,R a w->y.wp P Q a w):(x.seq y).wp P Q a w:=
  sq (wp_mono h fun e a w hq=>by
    cases e with
    | normal=>exact k a w hq
    | _=>exact hq.elim)
variable {P : Program} {n : Nat} {F : List (Nat × Value)} {a : Act} {w : World} {d : Option Tmp} {t : TypeId} {pos : String} {af : Array Edge} {gd : Option (Nat × Bool)} {x y : Operand}
end Go.Sw
namespace Go.Sw
open Go Go.RowKit Go.ChangeShapes Go.WideShapes Go.ChangeAt
structure ArgSS (w:World) (sl:Value) (m:Nat) (L:Nat->Nat) (R:Nat->Nat->Int) (xs:Nat->Option Addr) (ca be ob:Nat->Nat):Prop where
  out:∃ x c,sl = .slice x m c
  cell:0<m->∃ b o c,sl = .slice (some ⟨b,o,none⟩) m c/\∀ i,i<m->w.cell? ⟨b,o+i*1,none⟩=some (.slice (xs i) (L i) (ca i))
  adr:∀ i,i<m->0<L i->xs i=some ⟨be i,ob i,none⟩
  num:∀ i,i<m->∀ j,j<L i->w.cell? ⟨be i,ob i+j*1,none⟩=some (.int .i64 (R i j))
namespace ArgSS
variable {w w' : World} {sl : Value} {m : Nat} {L : Nat -> Nat} {R : Nat -> Nat -> Int} {xs : Nat -> Option Addr} {ca be ob : Nat -> Nat}
end ArgSS
section
variable {H : Type} {enc : TypeId × Value -> H} {P : Program} {w : World} {base : Nat} {spare : Nat -> Bool} {held : Bool}
end
def QR (m:Nat) (L:Nat->Nat) (β:Nat->Nat):Array Value:=Al m fun i=>.slice (some ⟨β i,0,none⟩) (L i) (L i)
structure SSD (D:A4) (u:Value) (m:Nat) (L:Nat->Nat) (R:Nat->Nat->Int) (b:Nat) (β:Nat->Nat):Prop where
  val:u = .slice (some ⟨b,0,none⟩) m m
  out:(b,QR m L β)∈D
  row:∀ i,i<m->(β i,QT (L i) (R i))∈D
  inj:∀ i j,i<m->j<m->β i=β j->i=j
  ne:∀ i,i<m->β i≠b
def RJ (w w':World) (m:Nat) (L:Nat->Nat) (R:Nat->Nat->Int) (u:Value):Prop:=∃ (D:A4) (b:Nat) (β:Nat->Nat),(∀ x ds,(x,ds)∈D->w.heap.size<=x/\Blk w' x ds)/\SSD D u m L R b β
end Go.Sw
namespace Go.Sw
open Go Go.RowKit
def Rd (Z k t:Nat) (xs:Nat->Value):Array Value:=Al Z (fun c=>if c<t then .int .i64 (((k+c:Nat)):Int) else xs c)
section
variable {Z k t : Nat} {xs : Nat -> Value}
end
structure SSR (D:A4) (u:Value) (m:Nat) (Ln:Nat->Nat) (F:Nat->Nat->Int) (b cap:Nat) (cs:Array Value) (β κ:Nat->Nat) (C:Nat->Array Value):Prop where
  sl:SlAt 1 u (some (b,cs)) m b cap cs (fun i=>.slice (some ⟨β i,0,none⟩) (Ln i) (κ i))
  out:(b,cs)∈D
  rows:RowsC D m β C
  row:∀ i,i<m->SlAt 1 (.slice (some ⟨β i,0,none⟩) (Ln i) (κ i)) (some (β i,C i)) (Ln i) (β i) (κ i) (C i) (fun c=>.int .i64 (F i c))
  ne:∀ i,i<m->β i≠b
namespace SSR
variable {D D' : A4} {u : Value} {m b cap : Nat} {Ln β κ : Nat -> Nat} {F : Nat -> Nat -> Int} {cs : Array Value} {C : Nat -> Array Value}
end SSR
def Q6 (w w':World) (m:Nat) (Ln:Nat->Nat) (F:Nat->Nat->Int) (u:Value):Prop:=∃ (D:A4) (b cap:Nat) (cs:Array Value) (β κ:Nat->Nat) (C:Nat->Array Value),(∀ x ds,(x,ds)∈D->w.heap.size<=x/\Blk w' x ds)/\SSR D u m Ln F b cap cs β κ C
def RN (C:Nat->Array Value) (i:Nat):Nat->Value:=fun c=>((C i)[c]?).getD undef
def R1 (C:Nat->Array Value) (Ln:Nat->Nat) (st:Nat->Nat) (i:Nat):Array Value:=Rd (C i).size (st i) (Ln i) (RN C i)
end Go.Sw
namespace Go.Sw
open Go Go.RowKit
end Go.Sw
