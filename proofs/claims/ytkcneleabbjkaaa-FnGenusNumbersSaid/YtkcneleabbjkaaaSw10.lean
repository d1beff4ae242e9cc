import Derived.Test.YtkcneleabbjkaaaEch13
import Derived.JoinedOf
import Derived.KernelRfl
set_option linter.unusedVariables false
set_option linter.unusedSimpArgs false
namespace Go.Ech
open Go.Sw
def RF:Nat->Nat->Nat
  | 0,0=>1
  | 0,_+1=>0
  | _+1,0=>1
  | k+1,i+1=>RF k i+RF k (i+1)
section
variable {p n : Nat} {T : Nat -> Nat -> Nat -> Nat} {u : Nat -> Int}
theorem On (N:Nat)(f:Nat->Nat->Int)(z:Nat->Int)(c:Nat):Pr n T (fun c=>sI (fun i=>f i c) N) z c=sI (fun i=>Pr n T (f i) z c) N:=by
  induction N with
  | zero=>exact PQ z c
  | succ N ih =>
    show Pr n T (fun c=>sI (fun i=>f i c) N+f N c) z c=sI (fun i=>Pr n T (f i) z c) N+Pr n T (f N) z c
    rw [QB,ih]
variable (ha : I6 p n T) (hk : Nl n T) (hu : ∀ y, EqP p n (Pr n T y u) y)
include ha hk hu in
def eb (c:Nat):Nat->Int:=fun d=>if d=c then 1 else 0
def cutV (v:Nat->Nat) (m:Nat):Nat->Int:=fun d=>if d<m then (v d:Int) else 0
include ha hk hu in
end
def fI (n:Nat) (f:Nat->Nat) (x:Nat->Int):Int:=sI (fun c=>(f c:Int)*x c) n
theorem FE {p:Int}{f g:Nat->Int}{n:Nat}(h:∀ i,i<n->p∣f i - g i):p∣sI f n - sI g n:=by
  rw [Eg];exact Da h
theorem BY {p a b c:Int}(h:p∣a - b)(k:p∣b - c):p∣a - c:=by
  have:=Int.dvd_add h k
  rwa [show a - b+(b - c)=a - c by omega] at this
theorem Gv {p a b:Int}(h:p∣a - b):p∣b - a:=by
  have:=Int.dvd_neg.2 h
  rwa [show -(a - b)=b - a by omega] at this
theorem Gw {p a b:Int}(h:a=b):p∣a - b:=by rw [h,Int.sub_self];exact ⟨0,by simp⟩
theorem HY {p a b:Int}(k:Int)(h:p∣a - b):p∣k*a - k*b:=by
  rw [← Int.mul_sub];exact Int.dvd_trans h (Int.dvd_mul_left ..)
variable {p n : Nat} {T : Nat -> Nat -> Nat -> Nat} {f : Nat -> Nat}
theorem Ib {x y:Nat->Int}(h:EqP p n x y):(p:Int)∣fI n f x - fI n f y:=FE fun c hc=>HY _ (h c hc)
theorem Fp (a:Nat->Int)(g:Nat->Nat->Int)(N:Nat):fI n f (fun c=>sI (fun i=>a i*g i c) N)=sI (fun i=>a i*fI n f (g i)) N:=by
  unfold fI
  calc sI (fun c=>(f c:Int)*sI (fun i=>a i*g i c) N) n=sI (fun c=>sI (fun i=>a i*((f c:Int)*g i c)) N) n:=
        Ao fun c _=>by rw [← Ct];exact Ao fun i _=>by rw [← Int.mul_assoc,Int.mul_comm (f c:Int) (a i),Int.mul_assoc]
    _=sI (fun i=>sI (fun c=>a i*((f c:Int)*g i c)) n) N:=C9 ..
    _=_:=Ao fun i _=>Ct ..
theorem Mu (a:Nat)(ha:a<n)(y:Nat->Int)(c:Nat):Pr n T (fun c=>(dl a c:Int)) y c=sI (fun b=>y b*(T a b c:Int)) n:=by
  rw [H9];exact J1 ha
theorem QA (a b:Nat)(ha:a<n)(hb:b<n)(c:Nat):Pr n T (fun c=>(dl a c:Int)) (fun c=>(dl b c:Int)) c=(T a b c:Int):=by
  rw [Mu a ha];exact J1 hb
theorem Jz {F G:Nat->Nat->Nat}(ha:I6 p n T)(hc:Nl n T)(O:∀ i k,i<n->k<n->(p:Int)∣(F i k:Int) - fI n f (fun c=>(T i k c:Int)))(hG:∀ i,i<n->∀ j,j<n->(p:Int)∣sI (fun k=>(F i k:Int)*(G k j:Int)) n - (dl i j:Int)){h:Nat->Int}(hh:EqP p n h (fun c=>sI (fun a=>sI (fun b=>(G a b:Int)*(T a b c:Int)) n) n))(v:Nat->Int) :
    (p:Int)∣fI n f (Pr n T h v) - sI (fun b=>Pr n T v (fun c=>(dl b c:Int)) b) n:=by
  have e1:EqP p n (Pr n T h v) (fun c=>sI (fun a=>sI (fun b=>(G a b:Int)*sI (fun k=>Pr n T (fun c=>(dl b c:Int)) v k*(T a k c:Int)) n) n) n):=by
    refine (hh.mul (EqP.refl v)).trans fun c hcn=>?_;rw [show Pr n T (fun c=>sI (fun a=>sI (fun b=>(G a b:Int)*(T a b c:Int)) n) n) v c=sI (fun a=>Pr n T (fun c=>sI (fun b=>(G a b:Int)*(T a b c:Int)) n) v c) n from On n (fun a c=>sI (fun b=>(G a b:Int)*(T a b c:Int)) n) v c];refine FE fun a hO=>?_;rw [show Pr n T (fun c=>sI (fun b=>(G a b:Int)*(T a b c:Int)) n) v c=sI (fun b=>Pr n T (fun c=>(G a b:Int)*(T a b c:Int)) v c) n from On n (fun b c=>(G a b:Int)*(T a b c:Int)) v c];refine FE fun b hJ=>?_;rw [PR];refine HY _ ?_;have h1:Pr n T (fun c=>(T a b c:Int)) v c=Pr n T (Pr n T (fun c=>(dl a c:Int)) (fun c=>(dl b c:Int))) v c:=
      congrArg (fun z=>Pr n T z v c) (funext fun c=>(QA a b hO hJ c).symm)
    rw [h1];refine BY (EU ha _ _ _ hcn) (Gw ?_);exact Mu a hO _ c
  refine BY (Ib e1) ?_;have e2:fI n f (fun c=>sI (fun a=>sI (fun b=>(G a b:Int)*sI (fun k=>Pr n T (fun c=>(dl b c:Int)) v k*(T a k c:Int)) n) n) n)=sI (fun a=>sI (fun b=>(G a b:Int)*sI (fun k=>Pr n T (fun c=>(dl b c:Int)) v k*fI n f (fun c=>(T a k c:Int))) n) n) n:=by
    have h1:=Fp (n:=n) (f:=f) (fun _=>1) (fun a c=>sI (fun b=>(G a b:Int)*sI (fun k=>Pr n T (fun c=>(dl b c:Int)) v k*(T a k c:Int)) n) n) n;simp only [Int.one_mul] at h1;rw [h1];refine Ao fun a _=>?_;rw [Fp];refine Ao fun b _=>?_;rw [Fp]
  rw [e2];have e3:(p:Int)∣sI (fun a=>sI (fun b=>(G a b:Int)*sI (fun k=>Pr n T (fun c=>(dl b c:Int)) v k*fI n f (fun c=>(T a k c:Int))) n) n) n - sI (fun a=>sI (fun b=>sI (fun k=>Pr n T (fun c=>(dl b c:Int)) v k*((F k a:Int)*(G a b:Int))) n) n) n:=by
    refine FE fun a hO=>FE fun b hJ=>?_;rw [← Ct];refine FE fun k hZ=>?_;have h1:fI n f (fun c=>(T a k c:Int))=fI n f (fun c=>(T k a c:Int)):=Ao fun c hcn=>by show (f c:Int)*(T a k c:Int)=(f c:Int)*(T k a c:Int);rw [hc a hO k hZ c hcn]
    rw [h1];have h2:=HY ((G a b:Int)*Pr n T (fun c=>(dl b c:Int)) v k) (Gv (O k a hZ hO));refine BY (Gw ?_) (BY h2 (Gw ?_))
    . rw [Int.mul_assoc]
    . rw [Int.mul_comm (G a b:Int),Int.mul_assoc,Int.mul_comm (G a b:Int)]
  refine BY e3 ?_;rw [C9];refine FE fun b hJ=>?_;rw [C9];refine BY (b:=sI (fun k=>Pr n T (fun c=>(dl b c:Int)) v k*(dl k b:Int)) n) (FE fun k hZ=>?_) ?_
  . rw [Ct];exact HY _ (hG k hZ b hJ)
  . rw [QQ hJ];exact PS hc _ _ b hJ
end Go.Ech
namespace Go.Sw
open Go Go.RowKit
variable {P : Program}
section
variable {ops : List Oper} {Q : Exit -> Act -> World -> Prop} {n : Nat} {F : List (Nat × Value)} {G : Type} {S : G -> World -> Prop}
def PH (n:Nat) (F:List (Nat×Value)):List Oper->List Nat->Bool
  | [],_=>true
  | o :: r, seen => (match o.dst with
    | some d=>Nat.blt d n && (lk F d).isNone && !(Cu d seen) && PH n F r (d::seen)
    | none=>false)
def StepsQ {G:Type} (P:Program) (ops:List Oper) (k n:Nat) (F:List (Nat×Value)) (S:G->World->Prop) (φ:Facts G):List Oper->Nat->Prop
  | [],_=>True
  | o::r,i=>(∀ a w g,Fr n a F->S g w->PT ops k φ o g a w->if Region.wanted o (yielded ops.toArray a.tmps)=true then Does P o a w (After S φ i g w) else After S φ i g w undef w)/\StepsQ P ops k n F S φ r (i+1)
theorem StepsQ.get {k:Nat}{φ:Facts G}:∀ {l:List Oper} {i:Nat},StepsQ P ops k n F S φ l i->∀ (j:Nat) (o:Oper),l[j]? = some o->
    ∀ a w g,Fr n a F->S g w->PT ops k φ o g a w->if Region.wanted o (yielded ops.toArray a.tmps)=true then Does P o a w (After S φ (i+j) g w) else After S φ (i+j) g w undef w
  | [],_,_,j,o,h=>by simp at h
  | x :: r, i, hs, j, o, h => by
    cases j with
    | zero=>simp at h;subst h;exact hs.1
    | succ j=>have:=hs.2.get j o (by simpa using h);rwa [show i+1+j=i+(j+1) by omega] at this
end
end Go.Sw
namespace Go.Sw
open Go Go.RowKit Go.ChangeShapes Go.WideShapes Go.ChangeAt
def ArgB (w:World) (sl:Value) (m:Nat):Prop:=
  (∃ x c,sl = .slice x m c)/\(0<m->∃ (b o c:Nat) (F:Nat->Nat),sl = .slice (some ⟨b,o,none⟩) m c/\b<w.heap.size/\b ∉ ([]:List Nat)/\(∀ i,F i<=255)/\∀ i,i<m->w.cell? ⟨b,o+i*1,none⟩=some (.int .u8 (F i:Int)))
theorem ArgB.code {w:World}{sl:Value}{m:Nat}(h:ArgB w sl m)(hm:m<=4096):CodeB w [] sl m:=⟨hm,h.1,h.2⟩
section
variable {H : Type} {enc : TypeId × Value -> H} {P : Program} {w : World} {base : Nat} {spare : Nat -> Bool} {held : Bool}
theorem KS {t e:TypeId}{fuel:Nat}{v:Value}{y:DataW H×List MemPlace}(ht:P.underlying t=some (.slice e))(he:P.underlying e=some (.int .u8))(hc:P.cellsOf e=1)
    (h:DataW.trod enc P w base spare held fuel t [v]=some y):∃ m:Nat,ArgB w v m:=by
  rcases open_ints ht he hc h with ⟨e1,_⟩ | ⟨ad,len,cap,zs,e1,_,hle,hmx,hlen,_,hH,hwf⟩
  . simp only [List.cons.injEq,and_true] at e1
    rw [e1];exact ⟨0,⟨none,0,rfl⟩,fun h=>absurd h (by omega)⟩
  . simp only [List.cons.injEq,and_true] at e1
    rw [e1];refine ⟨len,⟨some ad,cap,rfl⟩,fun hm=>?_⟩;have hzl:len<=zs.length:=by rw [hlen];split<;>omega
    have bd:∀ i,0<=zs.getD i 0/\zs.getD i 0<=255:=fun i=>by
      by_cases hi:i<zs.length
      . have:zs.getD i 0=zs[i]:=by simp [List.getD,hi]
        rw [this];exact wf_u8 (hwf _ (List.getElem_mem _))
      . have:zs.getD i 0=0:=by simp [List.getD,Nat.not_lt.1 hi]
        rw [this];exact ⟨by decide,by decide⟩
    have h0:=hH 0 (by omega);rw [show ad.add 0=ad from rfl] at h0;obtain ⟨b,o,s⟩:=ad
    unfold World.cell? at h0
    cases hb:w.heap[b]? with
    | none=>simp [hb] at h0
    | some ob =>
      cases ob with
      | cells cs tt ck =>
        simp only [hb] at h0
        cases s with
        | some s=>simp at h0
        | none =>
          refine ⟨b,o,cap,fun i=>(zs.getD i 0).toNat,rfl,(Array.getElem?_eq_some_iff.1 hb).1,by simp,fun i=>by have h9:=bd i;show (zs.getD i 0).toNat<=255;omega,fun i hi=>?_⟩;have hi':=hH i (by omega);rw [show (Addr.add ⟨b,o,none⟩ i)=⟨b,o+i,none⟩ from by unfold Addr.add;split<;>simp_all] at hi';rw [Nat.mul_one,hi'];have:=bd i;rw [Int.toNat_of_nonneg this.1]
      | _=>simp [hb] at h0
theorem open_by {r:Go.Reach}{b0:Nat}{t e:TypeId}{v:Value}{d:DataW H}{p:List MemPlace}(ht:P.underlying t=some (.slice e))(he:P.underlying e=some (.int .u8))(hc:P.cellsOf e=1)
    (hv:Value.okWide P w r b0 t v) (h:DataW.Trod enc P w base spare held t v d p):∃ m:Nat,ArgB w v m:=by
  obtain ⟨a,l,c,rfl⟩:=okWide_slice ht hv;obtain ⟨fuel,h⟩:=h;exact KS ht he hc h
end
end Go.Sw
namespace Go.Sw
theorem I8:∀ (c:Char) (r:List Char),c≠' '->wordsSigns (c::r)=match wordsSigns r with
    | w::ws=>(c::w)::ws
    | []=>[[c]]:=by
  intro c r h;rw [wordsSigns.eq_def]
  split
  . simp_all
  . rename_i heq;simp at heq;exact absurd heq.1 h
  . rename_i heq;simp only [List.cons.injEq] at heq;obtain ⟨rfl,rfl⟩:=heq;rfl
theorem DL:∀ (w r:List Char),(∀ c∈w,c≠' ')->wordsSigns (w++' '::r)=w::wordsSigns r
  | [],r,_=>by simp [wordsSigns]
  | c :: w, r, h => by
    rw [List.cons_append,I8 c _ (h c (by simp)),DL w r (fun d hd=>h d (by simp [hd]))]
theorem Po (s:List Char)(h:isSumSigns s=true):∀ c∈s,c≠' ':=by
  intro c hc he
  unfold isSumSigns at h
  simp only [Bool.and_eq_true,List.all_eq_true] at h;have:=h.2 c hc;subst he
  revert this;decide
theorem cutHead (L s r : List Char) (h : L = "harness".toList ++ ' ' :: (s ++ ' ' :: ("cut".toList ++ ' ' :: r))) (hs : isSumSigns s = true) :
    behindMainWord (wordsSigns L) = "cut".toList :: wordsSigns r := by
  rw [h, DL _ _ (by decide), DL _ _ (Po s hs), DL _ _ (by decide)];have : ("harness".toList == "harness".toList || "harness".toList == "ownmain".toList) = true := by decide
  unfold behindMainWord
  show (if (("harness".toList == "harness".toList || "harness".toList == "ownmain".toList) && isSumSigns s) = true then _ else _) = _
  rw [if_pos (by rw [this,hs];rfl)]
theorem JS (R : List (List Char)) : stripLifts liftWords ("cut".toList :: R) = ([], "cut".toList :: R) := by
  kernel_rfl
theorem NI (P : Program) (R : List (List Char)) (h : behindMainWord (wordsSigns P.initOrder.toList) = "cut".toList :: R) : P.headLifts = [] := by
  unfold Program.headLifts;rw [h,JS];rfl
theorem make_cut (P : Program) (R : List (List Char)) (h : behindMainWord (wordsSigns P.initOrder.toList) = "cut".toList :: R) : P.make = some .cut := by
  unfold Program.make;rw [h]
  have h1 : ("cut".toList == "gc".toList || "cut".toList == "spec".toList) = false := by decide
  have h2 : ("cut".toList == "cut".toList) = true := by decide
  simp only [h1,h2];rfl
theorem final_cut (P : Program) (R : List (List Char)) (h : behindMainWord (wordsSigns P.initOrder.toList) = "cut".toList :: R) : P.liftsFinal = false := by
  unfold Program.liftsFinal;rw [NI P R h,h];kernel_rfl
theorem enter_cut (P : Program) (R : List (List Char)) (h : behindMainWord (wordsSigns P.initOrder.toList) = "cut".toList :: R)
    (hl:P.laysLater=false) (hb:P.bearsReflect=false) (hd:P.doorFits []=true):P.mayEnter=true:=by
  unfold Program.mayEnter;rw [h]
  simp only [JS,hl,hb,hd]
  kernel_rfl
end Go.Sw
