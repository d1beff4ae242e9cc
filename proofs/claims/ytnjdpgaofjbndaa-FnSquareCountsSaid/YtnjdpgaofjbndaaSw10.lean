import Derived.Test.YtnjdpgaofjbndaaSw14
import Derived.Test.YtnjdpgaofjbndaaSw66
import Derived.Test.YtnjdpgaofjbndaaSw77
import Derived.Test.YtnjdpgaofjbndaaSw72
import Derived.Test.YtnjdpgaofjbndaaSw65
import Derived.Test.YtnjdpgaofjbndaaSw21
import Derived.JoinedOf
import Derived.KernelRfl
set_option linter.unusedVariables false
set_option linter.unusedSimpArgs false
namespace Go.Sw
open Go Go.RowKit
variable {P : Program}
section
variable {ops : Array Oper} {Q : Exit → Act → World → Prop} {rest : List Oper} {n : Nat} {F : List (Nat × Value)} {a : Act} {X : List Nat} {w w0 : World} {L : Own} {D : Froz}
variable {d : Option Tmp} {t : TypeId} {pos : String} {af : Array Edge} {gd : Option (Nat × Bool)} {T : TypeId} {x y : Operand}
theorem g_sliceLoA {e:TypeId}{b o len cap i s:Nat}{κ:IntKind}{X:Int}(hT:P.underlying T=some (.slice e))(he:sizeP P e=some s)(hF:Fr n a F)(hx:look F x=some (.slice (some ⟨b,o,none⟩) len cap))(hy:look F y=some (.int κ X))(hX:X=(i:Int))(hi:i≤len)(hl:len≤cap) :
    Gives P ⟨d,.slice T x (some y) none none,t,pos,af,gd⟩ a w (.slice (some ⟨b,if i=cap then o else o+i*s,none⟩) (len - i) (cap - i)):=by
  by_cases hc:i<cap
  · rw [if_neg (by omega)];exact g_sliceLo hT he hF hx hy hX hi hl hc
  · subst hX
    obtain rfl:i=cap:=by omega
    obtain rfl:len=i:=by omega
    rw [if_pos rfl];refine gives_of_run ?_;have h1:(0:Int)≤(len:Int)∧(len:Int)≤(len:Int):=by omega
    have h2:=run_sizeOf he w
    simp [execOp,Instr.sliceAt,Instr.slice,run_underlying hT,hF.eval hx,hF.eval hy,Instr.sliceBounds,Instr.sliceBound,asIntOf,h1,h2,Addr.add_lit]
end
end Go.Sw
namespace Go.Sw
open Go Go.RowKit
variable {P : Program} {n : Nat} {F : List (Nat × Value)} {a : Act} {w : World} {d : Option Tmp} {t : TypeId} {pos : String} {af : Array Edge} {gd : Option (Nat × Bool)} {x y : Operand}
theorem g_min {T1 T2:TypeId}{k:IntKind}{A B C:Int}(hF:Fr n a F)(hx:look F x=some (.int k A))(hy:look F y=some (.int k B))(hC:(if B<A then B else A)=C):Gives P ⟨d,.call { callee:=.builtin .min,args:=#[x,y],argTypes:=#[T1,T2] },t,pos,af,gd⟩ a w (.int k C):=
  gives_of_run (by simp [execOp,resolve,invoke,hF.eval hx,hF.eval hy,builtin,Builtin.min_,Builtin.min2,hC])
theorem min_if (A B:Int):(if B<A then B else A)=min A B:=by omega
theorem max_if (A B:Int):(if B > A then B else A)=max A B:=by omega
end Go.Sw
namespace Go.Sw
open Go Go.RowKit Go.ChangeShapes Go.WideShapes Go.ChangeAt
def ArgB (w:World) (sl:Value) (m:Nat):Prop:=
  (∃ x c,sl = .slice x m c)∧(0<m→∃ (b o c:Nat) (F:Nat→Nat),sl = .slice (some ⟨b,o,none⟩) m c∧b<w.heap.size∧b ∉ ([]:List Nat)∧(∀ i,F i≤255)∧∀ i,i<m→w.cell? ⟨b,o+i*1,none⟩=some (.int .u8 (F i:Int)))
theorem ArgB.code {w:World}{sl:Value}{m:Nat}(h:ArgB w sl m)(hm:m≤4096):CodeB w [] sl m:=⟨hm,h.1,h.2⟩
section
variable {H : Type} {enc : TypeId × Value → H} {P : Program} {w : World} {base : Nat} {spare : Nat → Bool} {held : Bool}
theorem argb_of_trod {t e:TypeId}{fuel:Nat}{v:Value}{y:DataW H×List MemPlace}(ht:P.underlying t=some (.slice e))(he:P.underlying e=some (.int .u8))(hc:P.cellsOf e=1)
    (h:DataW.trod enc P w base spare held fuel t [v]=some y):∃ m:Nat,ArgB w v m:=by
  rcases open_ints ht he hc h with ⟨e1,_⟩ | ⟨ad,len,cap,zs,e1,_,hle,hmx,hlen,_,hcell,hwf⟩
  · simp only [List.cons.injEq,and_true] at e1
    rw [e1];exact ⟨0,⟨none,0,rfl⟩,fun h=>absurd h (by omega)⟩
  · simp only [List.cons.injEq,and_true] at e1
    rw [e1];refine ⟨len,⟨some ad,cap,rfl⟩,fun hm=>?_⟩;have hzl:len≤zs.length:=by rw [hlen];split<;>omega
    have bd:∀ i,0≤zs.getD i 0∧zs.getD i 0≤255:=fun i=>by
      by_cases hi:i<zs.length
      · have:zs.getD i 0=zs[i]:=by simp [List.getD,hi]
        rw [this];exact wf_u8 (hwf _ (List.getElem_mem _))
      · have:zs.getD i 0=0:=by simp [List.getD,Nat.not_lt.1 hi]
        rw [this];exact ⟨by decide,by decide⟩
    have h0:=hcell 0 (by omega);rw [show ad.add 0=ad from rfl] at h0;obtain ⟨b,o,s⟩:=ad
    unfold World.cell? at h0
    cases hb:w.heap[b]? with
    | none=>simp [hb] at h0
    | some ob =>
      cases ob with
      | cells cs tt ck =>
        simp only [hb] at h0
        cases s with
        | some s=>simp at h0
        | none =>
          refine ⟨b,o,cap,fun i=>(zs.getD i 0).toNat,rfl,(Array.getElem?_eq_some_iff.1 hb).1,by simp,fun i=>by have h9:=bd i;show (zs.getD i 0).toNat≤255;omega,fun i hi=>?_⟩;have hi':=hcell i (by omega);rw [show (Addr.add ⟨b,o,none⟩ i)=⟨b,o+i,none⟩ from by unfold Addr.add;split<;>simp_all] at hi';rw [Nat.mul_one,hi'];have:=bd i;rw [Int.toNat_of_nonneg this.1]
      | _=>simp [hb] at h0
theorem open_by {r:Go.Reach}{b0:Nat}{t e:TypeId}{v:Value}{d:DataW H}{p:List MemPlace}(ht:P.underlying t=some (.slice e))(he:P.underlying e=some (.int .u8))(hc:P.cellsOf e=1)
    (hv:Value.okWide P w r b0 t v) (h:DataW.Trod enc P w base spare held t v d p):∃ m:Nat,ArgB w v m:=by
  obtain ⟨a,l,c,rfl⟩:=okWide_slice ht hv;obtain ⟨fuel,h⟩:=h;exact argb_of_trod ht he hc h
end
end Go.Sw
namespace Go.Sw
theorem wordsSigns_nb:∀ (c:Char) (r:List Char),c≠' '→wordsSigns (c::r)=match wordsSigns r with
    | w::ws=>(c::w)::ws
    | []=>[[c]]:=by
  intro c r h;rw [wordsSigns.eq_def]
  split
  · simp_all
  · rename_i heq;simp at heq;exact absurd heq.1 h
  · rename_i heq;simp only [List.cons.injEq] at heq;obtain ⟨rfl,rfl⟩:=heq;rfl
theorem wordsSigns_word:∀ (w r:List Char),(∀ c∈w,c≠' ')→wordsSigns (w++' '::r)=w::wordsSigns r
  | [],r,_=>by simp [wordsSigns]
  | c :: w, r, h => by
    rw [List.cons_append,wordsSigns_nb c _ (h c (by simp)),wordsSigns_word w r (fun d hd=>h d (by simp [hd]))]
theorem sum_nb (s:List Char)(h:isSumSigns s=true):∀ c∈s,c≠' ':=by
  intro c hc he
  unfold isSumSigns at h
  simp only [Bool.and_eq_true,List.all_eq_true] at h;have:=h.2 c hc;subst he
  revert this;decide
theorem cutHead (L s r : List Char) (h : L = "harness".toList ++ ' ' :: (s ++ ' ' :: ("cut".toList ++ ' ' :: r))) (hs : isSumSigns s = true) :
    behindMainWord (wordsSigns L) = "cut".toList :: wordsSigns r := by
  rw [h, wordsSigns_word _ _ (by decide), wordsSigns_word _ _ (sum_nb s hs), wordsSigns_word _ _ (by decide)];have : ("harness".toList == "harness".toList || "harness".toList == "ownmain".toList) = true := by decide
  unfold behindMainWord
  show (if (("harness".toList == "harness".toList || "harness".toList == "ownmain".toList) && isSumSigns s) = true then _ else _) = _
  rw [if_pos (by rw [this,hs];rfl)]
theorem strip_cut (R : List (List Char)) : stripLifts liftWords ("cut".toList :: R) = ([], "cut".toList :: R) := by
  kernel_rfl
theorem lifts_cut (P : Program) (R : List (List Char)) (h : behindMainWord (wordsSigns P.initOrder.toList) = "cut".toList :: R) : P.headLifts = [] := by
  unfold Program.headLifts;rw [h,strip_cut];rfl
theorem make_cut (P : Program) (R : List (List Char)) (h : behindMainWord (wordsSigns P.initOrder.toList) = "cut".toList :: R) : P.make = some .cut := by
  unfold Program.make;rw [h]
  have h1 : ("cut".toList == "gc".toList || "cut".toList == "spec".toList) = false := by decide
  have h2 : ("cut".toList == "cut".toList) = true := by decide
  simp only [h1,h2];rfl
theorem final_cut (P : Program) (R : List (List Char)) (h : behindMainWord (wordsSigns P.initOrder.toList) = "cut".toList :: R) : P.liftsFinal = false := by
  unfold Program.liftsFinal;rw [lifts_cut P R h,h];kernel_rfl
theorem enter_cut (P : Program) (R : List (List Char)) (h : behindMainWord (wordsSigns P.initOrder.toList) = "cut".toList :: R)
    (hl:P.laysLater=false) (hb:P.bearsReflect=false) (hd:P.doorFits []=true):P.mayEnter=true:=by
  unfold Program.mayEnter;rw [h]
  simp only [strip_cut,hl,hb,hd]
  kernel_rfl
end Go.Sw
