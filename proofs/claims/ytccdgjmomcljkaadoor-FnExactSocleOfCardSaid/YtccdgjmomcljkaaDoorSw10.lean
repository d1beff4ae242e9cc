import Derived.Test.YtccdgjmomcljkaaDoorSw67
import Derived.Test.YtccdgjmomcljkaaDoorSw14
import Derived.JoinedOf
import Derived.KernelRfl
set_option linter.unusedVariables false
set_option linter.unusedSimpArgs false
namespace Go.Sw
open Go Go.RowKit
def factsD (l:List Fact) (s:Nat):Facts (Own×Value×Froz):=fun i g u w=>match Nat.beq i s with
  | true=>u=g.2.1
  | false=>factsOf l i g.1 u w
def ParD (X:List Nat) (w0:World) (D:Froz) (W:List Nat) (L0:Own) (Q:Froz→Value→Prop) (b:Bool) (g:Own×Value×Froz) (w:World):Prop:=
  Par X w0 (g.2.2++D) W L0 g.1 w∧(b=false→g.2.2=[])∧(b=true→Q g.2.2 g.2.1)
section
variable {P : Program} {X : List Nat} {w0 w : World} {D : Froz} {W : List Nat} {L0 : Own} {Q : Froz → Value → Prop} {s i : Nat} {b : Bool} {g : Own × Value × Froz} {l : List Fact} {o : Oper} {a : Act}
theorem factsD_ne (h:Nat.beq i s=false)(u:Value):factsD l s i g u w=factsOf l i g.1 u w:=by unfold factsD;rw [h]
theorem ParD.drew (h:ParD X w0 D W L0 Q b g w):ParD X w0 D W L0 Q b g w.drew:=⟨⟨h.1.1.ext (Below.drew (Below.refl _ _)),h.1.2⟩,h.2⟩
theorem ParD.mem (h:ParD X w0 D W L0 Q b g w)(hW:holes W L0=true):MemX X w0 w L0 D:=(Par.mem h.1 hW).sub D (fun _ hx=>List.mem_append_right _ hx)
theorem pd_val {v:Value}(hS:ParD X w0 D W L0 Q b g w)(hs:Nat.beq i s=false)(hi:l[i]? = some (.val v))(hg:Gives P o a w v):Does P o a w (AfterG (ParD X w0 D W L0 Q) (factsD l s) b i g w):=
  hg.mono fun u w' ⟨h1,h2⟩=>by subst h2;exact ⟨g,hS,by rw [factsD_ne hs];exact fact_get hi h1,fun j u _ h=>h⟩
theorem pd_own {k:Nat}{cs:Array Value}{mk:Nat→Value}(hl:Lasts l)(hS:ParD X w0 D W L0 Q b g w)(hs:Nat.beq i s=false)(hi:l[i]? = some (.own k cs mk))(hk:memNat k W=true)(hkl:Nat.blt k L0.length=true)(h1:onePlace k i l 0=true)
    (hg:Does P o a w (fun u w'=>∃ b,u=mk b∧MemX X w0 w' (g.1.set k (some (b,cs))) (g.2.2++D)∧Ext w w')):Does P o a w (AfterG (ParD X w0 D W L0 Q) (factsD l s) b i g w):=
  hg.mono fun u w' ⟨bq,hu,hM,hx⟩=>by
    have hkl':k<g.1.length:=by rw [hS.1.2.1];exact Nat.blt_eq.mp hkl
    refine ⟨(g.1.set k (some (bq,cs)),g.2),⟨⟨hM,hS.1.2.set k hk _⟩,hS.2⟩,?_,fun j u hj h=>?_⟩
    · rw [factsD_ne hs];exact fact_get hi ⟨bq,hu,by simp [hkl']⟩
    · unfold factsD at *
      cases ej:Nat.beq j s with
      | true=>rw [ej] at h;exact h
      | false =>
        rw [ej] at h
        have h2:=facts_ext hl hx j u h
        dsimp only at h2 ⊢
        unfold factsOf at *
        cases e:l[j]? with
        | none=>trivial
        | some fq =>
          rw [e] at h2
          have hp:=onePlace_spec h1 j fq e (by omega)
          cases fq with
          | val v=>exact h2
          | rel R=>exact h2
          | own q ds mk' =>
            obtain ⟨c,h3,h4⟩:=h2
            refine ⟨c,h3,?_⟩
            rw [List.getElem?_set,if_neg (fun e=>hp (by subst e;rfl))];exact h4
theorem pd_new (hl:Lasts l)(hS:ParD X w0 D W L0 Q false g w)
    (hg:Does P o a w (fun u w'=>Ext w w'∧∃ D',(∀ x ds,(x,ds)∈D'→w.heap.size≤x∧Blk w' x ds)∧Q D' u)):Does P o a w (AfterG (ParD X w0 D W L0 Q) (factsD l s) true s g w):=
  hg.mono fun u w' ⟨hx,D',hD,hq⟩=>by
    have hM:=hS.1.1
    rw [hS.2.1 rfl] at hM
    refine ⟨(g.1,u,D'),⟨⟨hM.addD hx hD,hS.1.2⟩,fun hb=>(by cases hb),fun _=>hq⟩,by unfold factsD;rw [show Nat.beq s s=true by simp],fun j u hj h=>?_⟩
    unfold factsD at *
    cases ej:Nat.beq j s with
    | true=>exact absurd (Nat.eq_of_beq_eq_true ej) hj
    | false=>rw [ej] at h;exact facts_ext hl hx j u h
end
end Go.Sw
namespace Go.Sw
theorem wordsSigns_nb:∀ (c:Char) (r:List Char),c≠' '→wordsSigns (c::r)=match wordsSigns r with
    | w::ws=>(c::w)::ws
    | []=>[[c]]:=by
  intro c r h;rw [wordsSigns.eq_def]
  split
  · simp_all
  · rename_i heq;simp at heq;exact absurd heq.1 h
  · rename_i heq;simp only [List.cons.injEq] at heq;obtain ⟨rfl,rfl⟩:=heq;rfl
theorem wordsSigns_word:∀ (w r:List Char),(∀ c∈w,c≠' ')→wordsSigns (w++' '::r)=w::wordsSigns r
  | [],r,_=>by simp [wordsSigns]
  | c :: w, r, h => by
    rw [List.cons_append,wordsSigns_nb c _ (h c (by simp)),wordsSigns_word w r (fun d hd=>h d (by simp [hd]))]
theorem sum_nb (s:List Char)(h:isSumSigns s=true):∀ c∈s,c≠' ':=by
  intro c hc he
  unfold isSumSigns at h
  simp only [Bool.and_eq_true,List.all_eq_true] at h;have:=h.2 c hc;subst he
  revert this;decide
theorem cutHead (L s r : List Char) (h : L = "harness".toList ++ ' ' :: (s ++ ' ' :: ("cut".toList ++ ' ' :: r))) (hs : isSumSigns s = true) :
    behindMainWord (wordsSigns L) = "cut".toList :: wordsSigns r := by
  rw [h, wordsSigns_word _ _ (by decide), wordsSigns_word _ _ (sum_nb s hs), wordsSigns_word _ _ (by decide)];have : ("harness".toList == "harness".toList || "harness".toList == "ownmain".toList) = true := by decide
  unfold behindMainWord
  show (if (("harness".toList == "harness".toList || "harness".toList == "ownmain".toList) && isSumSigns s) = true then _ else _) = _
  rw [if_pos (by rw [this,hs];rfl)]
theorem strip_cut (R : List (List Char)) : stripLifts liftWords ("cut".toList :: R) = ([], "cut".toList :: R) := by
  kernel_rfl
theorem lifts_cut (P : Program) (R : List (List Char)) (h : behindMainWord (wordsSigns P.initOrder.toList) = "cut".toList :: R) : P.headLifts = [] := by
  unfold Program.headLifts;rw [h,strip_cut];rfl
theorem make_cut (P : Program) (R : List (List Char)) (h : behindMainWord (wordsSigns P.initOrder.toList) = "cut".toList :: R) : P.make = some .cut := by
  unfold Program.make;rw [h]
  have h1 : ("cut".toList == "gc".toList || "cut".toList == "spec".toList) = false := by decide
  have h2 : ("cut".toList == "cut".toList) = true := by decide
  simp only [h1,h2];rfl
theorem final_cut (P : Program) (R : List (List Char)) (h : behindMainWord (wordsSigns P.initOrder.toList) = "cut".toList :: R) : P.liftsFinal = false := by
  unfold Program.liftsFinal;rw [lifts_cut P R h,h];kernel_rfl
theorem enter_cut (P : Program) (R : List (List Char)) (h : behindMainWord (wordsSigns P.initOrder.toList) = "cut".toList :: R)
    (hl:P.laysLater=false) (hb:P.bearsReflect=false) (hd:P.doorFits []=true):P.mayEnter=true:=by
  unfold Program.mayEnter;rw [h]
  simp only [strip_cut,hl,hb,hd]
  kernel_rfl
end Go.Sw
