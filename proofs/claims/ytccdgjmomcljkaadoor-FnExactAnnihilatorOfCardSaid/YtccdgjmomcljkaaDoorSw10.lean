import Derived.Test.YtccdgjmomcljkaaDoorSw67
import Derived.Test.YtccdgjmomcljkaaDoorSw14
import Derived.Test.YtccdgjmomcljkaaDoorEch5
import Derived.Test.YtccdgjmomcljkaaDoorEch6
import Derived.JoinedOf
import Derived.KernelRfl
set_option linter.unusedVariables false
set_option linter.unusedSimpArgs false
namespace Go.Sw
open Go Go.RowKit
def factsD (l:List Fact) (s:Nat):Facts (Own×Value×Froz):=fun i g u w=>match Nat.beq i s with
  | true=>u=g.2.1
  | false=>factsOf l i g.1 u w
def ParD (X:List Nat) (w0:World) (D:Froz) (W:List Nat) (L0:Own) (Q:Froz→Value→Prop) (b:Bool) (g:Own×Value×Froz) (w:World):Prop:=
  Par X w0 (g.2.2++D) W L0 g.1 w∧(b=false→g.2.2=[])∧(b=true→Q g.2.2 g.2.1)
section
variable {P : Program} {X : List Nat} {w0 w : World} {D : Froz} {W : List Nat} {L0 : Own} {Q : Froz → Value → Prop} {s i : Nat} {b : Bool} {g : Own × Value × Froz} {l : List Fact} {o : Oper} {a : Act}
theorem factsD_ne (h:Nat.beq i s=false)(u:Value):factsD l s i g u w=factsOf l i g.1 u w:=by unfold factsD;rw [h]
theorem ParD.drew (h:ParD X w0 D W L0 Q b g w):ParD X w0 D W L0 Q b g w.drew:=⟨⟨h.1.1.ext (Below.drew (Below.refl _ _)),h.1.2⟩,h.2⟩
theorem ParD.mem (h:ParD X w0 D W L0 Q b g w)(hW:holes W L0=true):MemX X w0 w L0 D:=(Par.mem h.1 hW).sub D (fun _ hx=>List.mem_append_right _ hx)
theorem pd_val {v:Value}(hS:ParD X w0 D W L0 Q b g w)(hs:Nat.beq i s=false)(hi:l[i]? = some (.val v))(hg:Gives P o a w v):Does P o a w (AfterG (ParD X w0 D W L0 Q) (factsD l s) b i g w):=
  hg.mono fun u w' ⟨h1,h2⟩=>by subst h2;exact ⟨g,hS,by rw [factsD_ne hs];exact fact_get hi h1,fun j u _ h=>h⟩
theorem pd_own {k:Nat}{cs:Array Value}{mk:Nat→Value}(hl:Lasts l)(hS:ParD X w0 D W L0 Q b g w)(hs:Nat.beq i s=false)(hi:l[i]? = some (.own k cs mk))(hk:memNat k W=true)(hkl:Nat.blt k L0.length=true)(h1:onePlace k i l 0=true)
    (hg:Does P o a w (fun u w'=>∃ b,u=mk b∧MemX X w0 w' (g.1.set k (some (b,cs))) (g.2.2++D)∧Ext w w')):Does P o a w (AfterG (ParD X w0 D W L0 Q) (factsD l s) b i g w):=
  hg.mono fun u w' ⟨bq,hu,hM,hx⟩=>by
    have hkl':k<g.1.length:=by rw [hS.1.2.1];exact Nat.blt_eq.mp hkl
    refine ⟨(g.1.set k (some (bq,cs)),g.2),⟨⟨hM,hS.1.2.set k hk _⟩,hS.2⟩,?_,fun j u hj h=>?_⟩
    · rw [factsD_ne hs];exact fact_get hi ⟨bq,hu,by simp [hkl']⟩
    · unfold factsD at *
      cases ej:Nat.beq j s with
      | true=>rw [ej] at h;exact h
      | false =>
        rw [ej] at h
        have h2:=facts_ext hl hx j u h
        dsimp only at h2 ⊢
        unfold factsOf at *
        cases e:l[j]? with
        | none=>trivial
        | some fq =>
          rw [e] at h2
          have hp:=onePlace_spec h1 j fq e (by omega)
          cases fq with
          | val v=>exact h2
          | rel R=>exact h2
          | own q ds mk' =>
            obtain ⟨c,h3,h4⟩:=h2
            refine ⟨c,h3,?_⟩
            rw [List.getElem?_set,if_neg (fun e=>hp (by subst e;rfl))];exact h4
theorem pd_new (hl:Lasts l)(hS:ParD X w0 D W L0 Q false g w)
    (hg:Does P o a w (fun u w'=>Ext w w'∧∃ D',(∀ x ds,(x,ds)∈D'→w.heap.size≤x∧Blk w' x ds)∧Q D' u)):Does P o a w (AfterG (ParD X w0 D W L0 Q) (factsD l s) true s g w):=
  hg.mono fun u w' ⟨hx,D',hD,hq⟩=>by
    have hM:=hS.1.1
    rw [hS.2.1 rfl] at hM
    refine ⟨(g.1,u,D'),⟨⟨hM.addD hx hD,hS.1.2⟩,fun hb=>(by cases hb),fun _=>hq⟩,by unfold factsD;rw [show Nat.beq s s=true by simp],fun j u hj h=>?_⟩
    unfold factsD at *
    cases ej:Nat.beq j s with
    | true=>exact absurd (Nat.eq_of_beq_eq_true ej) hj
    | false=>rw [ej] at h;exact facts_ext hl hx j u h
end
end Go.Sw
namespace Go.Sw
open Go Go.RowKit Go.ChangeShapes Go.WideShapes Go.ChangeAt
def ArgVs (w:World) (sl:Value) (m:Nat) (V:Nat→Nat→Nat):Prop:=
  (∃ x c,sl = .slice x m c)∧(0<m→∃ b o c,sl = .slice (some ⟨b,o,none⟩) m c∧∀ i,i<m→∀ j,j<6→w.cell? ⟨b,o+i*6+j,none⟩=some (.int .u8 (V i j:Int)))
theorem ArgVs.ext {w w':World}{sl:Value}{m:Nat}{V:Nat→Nat→Nat}(h:ArgVs w sl m V)(hx:Ext w w'):ArgVs w' sl m V:=
  ⟨h.1,fun hm=>by obtain ⟨b,o,c,h1,h3⟩:=h.2 hm;exact ⟨b,o,c,h1,fun i hi j hj=>cell_ext (h3 i hi j hj) hx⟩⟩
theorem ArgVs.one {w:World}{sl:Value}{m:Nat}{V:Nat→Nat→Nat}(h:ArgVs w sl m V):sl.oneCell'=true:=by
  obtain ⟨⟨x,c,rfl⟩,_⟩:=h;rfl
section
variable {P : Program} {n : Nat} {F : List (Nat × Value)} {a : Act} {w : World} {d : Option Tmp} {t : TypeId} {pos : String} {af : Array Edge} {gd : Option (Nat × Bool)} {x : Operand}
theorem g_loadCV {T:TypeId}{b o:Nat}{v:Nat→Nat}(hT:aggP P T=some 6)(hF:Fr n a F)(hx:look F x=some (ptr b o))(hc:∀ j,j<6→w.cell? ⟨b,o+j,none⟩=some (.int .u8 (v j:Int))):Gives P ⟨d,.load T x,t,pos,af,gd⟩ a w (.agg (vecC v)):=by
  have h1:=run_isAgg_agg hT w;have hl:=run_loadCells_list (P:=P) (w:=w) ⟨b,o,none⟩ (vecC v).toList (fun j u hj=>by
    rw [Addr.add_lit];have hj6:j<6:=by
      have:=(List.getElem?_eq_some_iff.1 hj).1;rw [Array.length_toList,show (vecC v).size=6 from fnC_size _ _] at this;exact this
    rw [hc j hj6];rw [Array.getElem?_toList,show (vecC v)[j]? = some (.int .u8 (v j:Int)) from fnC_get hj6] at hj;exact hj)
  have hlen:(vecC v).toList.length=6:=by rw [Array.length_toList];exact fnC_size _ _
  rw [hlen,Array.toArray_toList] at hl;have h2:(loadVar T ⟨b,o,none⟩).run P w = .ok (.agg (vecC v)) w:=by
    simp only [loadVar,Sem.run_bind,h1.1,Result.andThen_ok,if_true,h1.2,hl]
    rfl
  exact gives_of_run (by simp [execOp,Instr.loadAt,Instr.sureAddr,hF.eval hx,h2])
end
section
variable {H : Type} {enc : TypeId × Value → H} {P : Program} {w w' : World} {base : Nat} {spare : Nat → Bool} {held : Bool}
theorem cells?_get {a:Addr}{n:Nat}{cs:List Value}(h:w.cells? base a n=some cs):cs.length=n∧∀ i,i<n→w.cell? (a.add i)=cs[i]?:=by
  unfold World.cells? at h
  split at h
  · have hl:=mapM_some_length h
    rw [List.length_range] at hl;refine ⟨hl.symm ▸ rfl,fun i hi=>?_⟩;have:=mapM_some_get h i i (by rw [List.getElem?_range hi]);exact this
  · cases h
theorem argv_of_trod {t e:TypeId}{m0 fuel:Nat}{v:Value}{y:DataW H×List MemPlace}(ht:P.underlying t=some (.slice e))(hk:kindsT P m0 e=some vecKs)(hc:P.cellsOf e=6)
    (h:DataW.trod enc P w base spare held fuel t [v]=some y):∃ (m:Nat) (V:Nat→Nat→Nat),ArgVs w v m V∧m≤maxLen∧∀ i c,V i c≤255:=by
  rcases DataW.trod_slice ht h with ⟨e1,_⟩ | ⟨ad,len,cap,elems,rest,n,_,e1,_,hb,hl,hmx,hlen,hel,_,_⟩
  · simp only [List.cons.injEq,and_true] at e1
    subst e1;exact ⟨0,fun _ _=>0,⟨⟨none,0,rfl⟩,fun h=>absurd h (by omega)⟩,Nat.zero_le _,fun _ _=>Nat.zero_le _⟩
  · simp only [List.cons.injEq,and_true] at e1
    subst e1;have each:∀ i,i<len→∃ g:Nat→Nat,(∀ j,j<6→w.cell? ((ad.add (i*6)).add j)=some (.int .u8 (g j:Int)))∧∀ j,g j≤255:=by
      intro i hi;have h1:=hel i hi;rw [hc] at h1;have hle:i<elems.length:=by omega
      rw [List.getElem?_eq_getElem hle,Option.bind_eq_some_iff] at h1;obtain ⟨cs,hcs,hd⟩:=h1;obtain ⟨hl6,hg⟩:=cells?_get hcs;obtain ⟨g,e2,h2⟩:=cells_vec (cs:=cs.toArray) (by simpa using hl6) (by simpa using trod_kinds m0 e _ hk n _ _ hd);refine ⟨g,fun j hj=>?_,h2⟩;rw [hg j hj];have e3:cs=(vecC g).toList:=by rw [← e2]
      rw [e3,Array.getElem?_toList];exact fnC_get hj
    obtain ⟨V,hV⟩:∃ V:Nat→Nat→Nat,∀ i,i<len→(∀ j,j<6→w.cell? ((ad.add (i*6)).add j)=some (.int .u8 (V i j:Int)))∧∀ j,V i j≤255:=
      ⟨fun i=>if hi:i<len then Classical.choose (each i hi) else fun _=>0,fun i hi=>by simp only [dif_pos hi];exact Classical.choose_spec (each i hi)⟩
    refine ⟨len,fun i j=>if i<len then V i j else 0,⟨⟨some ad,cap,rfl⟩,fun hm=>?_⟩,Nat.le_trans hl hmx,fun i j=>?_⟩
    · have h0:=(hV 0 hm).1 0 (by omega)
      obtain ⟨b,o,s⟩:=ad;have hs:s=none:=by
        cases s with
        | none=>rfl
        | some s =>
          have:=World.cell?_spot h0
          simp [Addr.add] at this
      subst hs;refine ⟨b,o,cap,rfl,fun i hi j hj=>?_⟩;have hi':=(hV i hi).1 j hj;rw [Addr.add_lit,Addr.add_lit] at hi';simp only [hi',if_pos hi]
    · dsimp only
      split
      · rename_i hi
        exact (hV i hi).2 j
      · exact Nat.zero_le _
end
section
variable {H : Type} {enc : TypeId × Value → H} {P : Program} {w : World} {base : Nat} {spare : Nat → Bool} {held : Bool}
theorem open_vecs {r:Go.Reach}{b0:Nat}{t e:TypeId}{m0:Nat}{v:Value}{d:DataW H}{p:List MemPlace}(ht:P.underlying t=some (.slice e))(hk:kindsT P m0 e=some vecKs)(hc:P.cellsOf e=6)
    (hv:Value.okWide P w r b0 t v) (h:DataW.Trod enc P w base spare held t v d p):∃ (m:Nat) (V:Nat→Nat→Nat),ArgVs w v m V∧m≤maxLen∧∀ i c,V i c≤255:=by
  obtain ⟨a,l,c,rfl⟩:=okWide_slice ht hv;obtain ⟨fuel,h⟩:=h;exact argv_of_trod ht hk hc h
end
theorem vecsC_congr {m:Nat}{V V':Nat→Nat→Nat}(h:∀ i,i<m→∀ c,c<6→V i c=V' i c):vecsC m V=vecsC m V':=
  fnC_congr fun c hc=>by rw [h (c / 6) (by omega) (c%6) (by omega)]
theorem vecsC_put {m o:Nat}{V V':Nat→Nat→Nat}{v:Nat→Nat}(i:Nat)(ho:o=i*6)(hi:i<m)(h:∀ r,r<m→∀ c,c<6→V' r c=if r=i then v c else V r c):splice (vecsC m V) o (vecC v)=vecsC m V':=by
  subst ho;have hv:(vecC v).size=6:=fnC_size _ _;have hs:i*6+(vecC v).size≤(vecsC m V).size:=by rw [hv,vecsC_size];omega
  refine fnC_ext (by rw [splice_size _ _ _ hs,vecsC_size]) fun c hc=>?_;rw [splice_get _ _ _ _ hs,hv,h (c / 6) (by omega) (c%6) (by omega)]
  by_cases e:c / 6=i
  · rw [if_pos ⟨by omega,by omega⟩,if_pos e]
    show (vecC v)[c - i*6]? = _
    rw [show c%6=c - i*6 by omega];exact fnC_get (by omega)
  · rw [if_neg (by omega),if_neg e]
    exact fnC_get hc
section
variable {P : Program} {X : List Nat} {w0 w : World} {L : Own} {D : Froz} {n : Nat} {F : List (Nat × Value)} {a : Act} {d : Option Tmp} {T : TypeId} {t : TypeId} {pos : String} {af : Array Edge} {gd : Option (Nat × Bool)} {x y : Operand}
theorem d_makeVs {len by':Nat}{e:TypeId}(k:Nat)(hM:MemX X w0 w L D)(hF:Fr n a F)(hT:slI P T=some (e,some (.agg (vecC fun _=>0)),6,by'))(hx:look F x=some (.int .i64 (len:Int)))(hy:look F y=some (.int .i64 (len:Int)))(hl:len<10000000)(hb:by'<1000) :
    Does P ⟨d,.makeSlice T x y,t,pos,af,gd⟩ a w (fun u w'=>∃ b,u = .slice (some ⟨b,0,none⟩) len len∧MemX X w0 w' (L.set k (some (b,vecsC len fun _ _=>0))) D∧Ext w w'):=
  ⟨fun K Q hk=>by
    have:=hk _ (w.alloc (.cells (vecsC len fun _ _=>0) e)) ⟨w.heap.size,rfl,hM.fill (Ext.alloc _ _) k (Blk.new _ _ _) (Nat.le_refl _),Ext.alloc _ _⟩
    unfold slI at hT
    cases hu:P.underlying T with
    | none=>simp [hu] at hT
    | some dd =>
      cases dd<;>simp [hu] at hT
      rename_i el
      obtain ⟨inf,hinf,rfl,hz0,hsz,hby⟩:=hT
      have hmul:inf.bytes*len≤1000*10000000:=Nat.mul_le_mul (by omega) (by omega)
      have hmul2:(inf.bytes:Int)*(len:Int)≤281474976710656:=by
        have:((inf.bytes*len:Nat):Int)≤281474976710656:=by omega
        rwa [Int.natCast_mul] at this
      have hrun:=run_make (P:=P) w T el inf (.agg (vecC fun _=>0)) hu hinf hz0 .i64 .i64 (len:Int) (len:Int) (by omega) (Int.le_refl _) hmul2 (by omega);have ec:madeCells (Value.agg (vecC fun _=>0)).cells (len*inf.size)=vecsC len fun _ _=>0:=by
        rw [hsz];refine fnC_ext (size_madeCells _ _) fun i hi=>?_
        unfold madeCells
        rw [Array.getElem?_map,Array.getElem?_range,if_pos hi];have hs6:(Value.agg (vecC fun _=>0)).cells.size=6:=fnC_size _ _;simp only [Option.map_some,hs6]
        congr 1
        have:(vecC fun _=>0)[i%6]? = some (.int .u8 ((0:Nat):Int)):=fnC_get (by omega)
        show (vecC fun _=>0).getD (i%6) _=_
        rw [Array.getD_eq_getD_getElem?,this]
        rfl
      simp only [Int.toNat_natCast,ec] at hrun
      unfold Oper.wp execOp
      simp only [hF.eval hx,hF.eval hy,Sem.run_bind,hrun,Result.andThen_ok,Sem.run_pure];exact this⟩
end
end Go.Sw
namespace Go.Sw
theorem wordsSigns_nb:∀ (c:Char) (r:List Char),c≠' '→wordsSigns (c::r)=match wordsSigns r with
    | w::ws=>(c::w)::ws
    | []=>[[c]]:=by
  intro c r h;rw [wordsSigns.eq_def]
  split
  · simp_all
  · rename_i heq;simp at heq;exact absurd heq.1 h
  · rename_i heq;simp only [List.cons.injEq] at heq;obtain ⟨rfl,rfl⟩:=heq;rfl
theorem wordsSigns_word:∀ (w r:List Char),(∀ c∈w,c≠' ')→wordsSigns (w++' '::r)=w::wordsSigns r
  | [],r,_=>by simp [wordsSigns]
  | c :: w, r, h => by
    rw [List.cons_append,wordsSigns_nb c _ (h c (by simp)),wordsSigns_word w r (fun d hd=>h d (by simp [hd]))]
theorem sum_nb (s:List Char)(h:isSumSigns s=true):∀ c∈s,c≠' ':=by
  intro c hc he
  unfold isSumSigns at h
  simp only [Bool.and_eq_true,List.all_eq_true] at h;have:=h.2 c hc;subst he
  revert this;decide
theorem cutHead (L s r : List Char) (h : L = "harness".toList ++ ' ' :: (s ++ ' ' :: ("cut".toList ++ ' ' :: r))) (hs : isSumSigns s = true) :
    behindMainWord (wordsSigns L) = "cut".toList :: wordsSigns r := by
  rw [h, wordsSigns_word _ _ (by decide), wordsSigns_word _ _ (sum_nb s hs), wordsSigns_word _ _ (by decide)];have : ("harness".toList == "harness".toList || "harness".toList == "ownmain".toList) = true := by decide
  unfold behindMainWord
  show (if (("harness".toList == "harness".toList || "harness".toList == "ownmain".toList) && isSumSigns s) = true then _ else _) = _
  rw [if_pos (by rw [this,hs];rfl)]
theorem strip_cut (R : List (List Char)) : stripLifts liftWords ("cut".toList :: R) = ([], "cut".toList :: R) := by
  kernel_rfl
theorem lifts_cut (P : Program) (R : List (List Char)) (h : behindMainWord (wordsSigns P.initOrder.toList) = "cut".toList :: R) : P.headLifts = [] := by
  unfold Program.headLifts;rw [h,strip_cut];rfl
theorem make_cut (P : Program) (R : List (List Char)) (h : behindMainWord (wordsSigns P.initOrder.toList) = "cut".toList :: R) : P.make = some .cut := by
  unfold Program.make;rw [h]
  have h1 : ("cut".toList == "gc".toList || "cut".toList == "spec".toList) = false := by decide
  have h2 : ("cut".toList == "cut".toList) = true := by decide
  simp only [h1,h2];rfl
theorem final_cut (P : Program) (R : List (List Char)) (h : behindMainWord (wordsSigns P.initOrder.toList) = "cut".toList :: R) : P.liftsFinal = false := by
  unfold Program.liftsFinal;rw [lifts_cut P R h,h];kernel_rfl
theorem enter_cut (P : Program) (R : List (List Char)) (h : behindMainWord (wordsSigns P.initOrder.toList) = "cut".toList :: R)
    (hl:P.laysLater=false) (hb:P.bearsReflect=false) (hd:P.doorFits []=true):P.mayEnter=true:=by
  unfold Program.mayEnter;rw [h]
  simp only [strip_cut,hl,hb,hd]
  kernel_rfl
end Go.Sw
