import Derived.Test.YtkcneleabbjkaaaEch9
import Derived.JoinedOf
import Derived.KernelRfl
set_option linter.unusedVariables false
set_option linter.unusedSimpArgs false
namespace Go.Ech
open Go.Sw
def Ou (p:Int) (k a:Int) (q:List Int):List Int:=(MK (0::q.map (k * ·)) (q.map (-(k*a) * ·))).map (· % p)
def iL (p:Int) (c:Int):Nat->List Int
  | 0=>[1]
  | k+1=>Ou p 1 c (iL p c k)
def PL (p:Nat) (x:Int):Nat:=((List.range p).find? (fun (k:Nat)=>decide ((x*(k:Int))%(p:Int)=1))).getD 0
def sL (p c:Nat):Nat->List Int
  | 0=>[1]
  | d+1=>if d=c then sL p c d else Ou p (PL p ((c:Int) - (d:Int))) d (sL p c d)
def QZ (p c:Nat):List Int:=MK [1] ((iL p c (p - 1)).map (-1 * ·))
def P3 (p:Nat) (q:List Int):List Int:=MK (q.take p) (0::q.drop p)
section
variable {p n : Nat} {T : Nat -> Nat -> Nat -> Nat} {e v u : Nat -> Int}
variable (ha : ML p n T) (hk : OY n T) (he : O9 p n (Pr n T e e) e)
def vP (n:Nat) (T:Nat->Nat->Nat->Nat) (u v:Nat->Int):Nat->Nat->Int
  | 0=>u
  | k+1=>Pr n T (vP n T u v k) v
include ha in
end
def Pj:Nat->Nat->Nat
  | 0,0=>1
  | 0,_+1=>0
  | _+1,0=>1
  | k+1,i+1=>Pj k i+Pj k (i+1)
section
variable {p n : Nat} {T : Nat -> Nat -> Nat -> Nat} {u : Nat -> Int}
variable (ha : ML p n T) (hk : OY n T) (hu : ∀ y, O9 p n (Pr n T y u) y)
include ha hk hu in
def eb (c:Nat):Nat->Int:=fun d=>if d=c then 1 else 0
def cutV (v:Nat->Nat) (m:Nat):Nat->Int:=fun d=>if d<m then (v d:Int) else 0
include ha hk hu in
end
def fI (n:Nat) (f:Nat->Nat) (x:Nat->Int):Int:=sI (fun c=>(f c:Int)*x c) n
theorem Np {p:Int}{f g:Nat->Int}{n:Nat}(h:∀ i,i<n->p∣f i - g i):p∣sI f n - sI g n:=by
  rw [E0];exact DB h
theorem ET {p a b c:Int}(h:p∣a - b)(k:p∣b - c):p∣a - c:=by
  have:=Int.dvd_add h k
  rwa [show a - b+(b - c)=a - c by omega] at this
theorem Nk {p a b:Int}(h:p∣a - b):p∣b - a:=by
  have:=Int.dvd_neg.2 h
  rwa [show -(a - b)=b - a by omega] at this
theorem N0 {p a b:Int}(h:a=b):p∣a - b:=by rw [h,Int.sub_self];exact ⟨0,by simp⟩
theorem My {p a b:Int}(k:Int)(h:p∣a - b):p∣k*a - k*b:=by
  rw [← Int.mul_sub];exact Int.dvd_trans h (Int.dvd_mul_left ..)
variable {p n : Nat} {T : Nat -> Nat -> Nat -> Nat} {f : Nat -> Nat}
theorem O0 {x y:Nat->Int}(h:O9 p n x y):(p:Int)∣fI n f x - fI n f y:=Np fun c hc=>My _ (h c hc)
theorem Na (a:Nat->Int)(g:Nat->Nat->Int)(N:Nat):fI n f (fun c=>sI (fun i=>a i*g i c) N)=sI (fun i=>a i*fI n f (g i)) N:=by
  unfold fI
  calc sI (fun c=>(f c:Int)*sI (fun i=>a i*g i c) N) n=sI (fun c=>sI (fun i=>a i*((f c:Int)*g i c)) N) n:=
        An fun c _=>by rw [← CQ];exact An fun i _=>by rw [← Int.mul_assoc,Int.mul_comm (f c:Int) (a i),Int.mul_assoc]
    _=sI (fun i=>sI (fun c=>a i*((f c:Int)*g i c)) n) N:=Cm ..
    _=_:=An fun i _=>CQ ..
theorem O7 (a:Nat)(ha:a<n)(y:Nat->Int)(c:Nat):Pr n T (fun c=>(dl a c:Int)) y c=sI (fun b=>y b*(T a b c:Int)) n:=by
  rw [LX];exact Kg ha
end Go.Ech
namespace Go.Ech
open Go.Sw
end Go.Ech
namespace Go.Sw
open Go Go.RowKit Go.Ech
def TbX (D:Au) (m n:Nat) (M:Nat->Nat->Nat) (u:Value):Prop:=
  (m=0/\u = .slice Option.none 0 0)\/(0<m/\∃ (b cap:Nat) (cs:Array Value) (β κ:Nat->Nat) (C:Nat->Array Value),u = .slice (some ⟨b,0,Option.none⟩) m cap/\(b,cs)∈D/\(∀ i,i<m->cs[0+i*1]? = some (.slice (some ⟨β i,0,Option.none⟩) n (κ i)))/\RowsD D n m β κ C (fun i c=>.int .i64 (M i c:Int)))
def VsX (D:Au) (m:Nat) (V:Nat->Nat->Nat) (u:Value):Prop:=
  (m=0/\u = .slice Option.none 0 0)\/(0<m/\∃ (b cap:Nat) (cs:Array Value),(b,cs)∈D/\SlAt 6 u (some (b,cs)) m b cap cs (fun q=>.int .u8 (V (q / 6) (q%6):Int)))
theorem TbX.more {D D':Au}{m n:Nat}{M:Nat->Nat->Nat}{u:Value}(h:TbX D m n M u)(hs:∀ x∈D,x∈D'):TbX D' m n M u:=by
  rcases h with h | ⟨h0,b,cap,cs,β,κ,C,h1,h2,h3,h4⟩
  . exact .inl h
  . exact .inr ⟨h0,b,cap,cs,β,κ,C,h1,hs _ h2,h3,h4.more hs⟩
theorem VsX.more {D D':Au}{m:Nat}{V:Nat->Nat->Nat}{u:Value}(h:VsX D m V u)(hs:∀ x∈D,x∈D'):VsX D' m V u:=by
  rcases h with h | ⟨h0,b,cap,cs,h1,h2⟩
  . exact .inl h
  . exact .inr ⟨h0,b,cap,cs,hs _ h1,h2⟩
def NewX (R:Au->Value->Prop) (w w':World) (u:Value):Prop:=∃ D:Au,(∀ x ds,(x,ds)∈D->w.heap.size<=x/\Blk w' x ds)/\R D u
theorem MemX.addX {X:List Nat}{w0 w w':World}{L:Own}{D:Au}{R:Au->Value->Prop}{u:Value}(h:MemX X w0 w L D)(hx:Ext w w')(hr:NewX R w w' u):∃ D':Au,R D' u/\MemX X w0 w' L (D'++D):=by
  obtain ⟨D',h1,h2⟩:=hr;exact ⟨D',h2,h.addD hx h1⟩
theorem NewX.nilT {n:Nat}{M:Nat->Nat->Nat}{w w':World}:NewX (fun D u=>TbX D 0 n M u) w w' (.slice Option.none 0 0):=⟨[],fun _ _ h=>absurd h (by simp),.inl ⟨rfl,rfl⟩⟩
theorem NewX.nilV {V:Nat->Nat->Nat}{w w':World}:NewX (fun D u=>VsX D 0 V u) w w' (.slice Option.none 0 0):=⟨[],fun _ _ h=>absurd h (by simp),.inl ⟨rfl,rfl⟩⟩
theorem TabOut.newX {w w':World}{n m:Nat}{M:Nat->Nat->Nat}{u:Value}(hm:0<m)(h:TabOut w w' n m (fun i c=>.int .i64 (M i c:Int)) u):NewX (fun D u=>TbX D m n M u) w w' u:=by
  obtain ⟨D,β,κ,C,b,cap,cs,h1,h2,h3,h4,-,-⟩:=h;exact ⟨D,h1,.inr ⟨hm,b,cap,cs,β,κ,C,h3.val,h4,fun i hi=>h3.get1 i hi,h2⟩⟩
theorem TabI.newX {w w':World}{n:Nat}{M:Nat->Nat->Nat}{u:Value}(hn:0<n)(hJ:n<=100)(h:TabI w w' n M u):NewX (fun D u=>TbX D n n M u) w w' u:=by
  obtain ⟨D,β,b,cs,h1,h2,h3,h4,h5,-⟩:=h;exact ⟨D,h1,.inr ⟨hn,b,n,cs,β,fun _=>n,_,h3,h5,h4,h2.rowsD hJ⟩⟩
theorem OwnSl.newX {w w':World}{m:Nat}{V:Nat->Nat->Nat}{u:Value}(hm:0<m)(h:OwnSl 6 w m (fun q=>.int .u8 (V (q / 6) (q%6):Int)) u w'):NewX (fun D u=>VsX D m V u) w w' u:=by
  obtain ⟨b,cap,cs,h1,h2,h3⟩:=h;refine ⟨[(b,cs)],fun x ds hx=>?_,.inr ⟨hm,b,cap,cs,by simp,h1⟩⟩;simp only [List.mem_cons,Prod.mk.injEq,List.not_mem_nil,or_false] at hx;obtain ⟨rfl,rfl⟩:=hx;exact ⟨h2,h3⟩
end Go.Sw
namespace Go.Ech
open Go.Sw
variable {p n : Nat} {T : Nat -> Nat -> Nat -> Nat} {f : Nat -> Nat}
theorem OQ {F:Nat->Nat->Nat}(O:∀ i k,i<n->k<n->(p:Int)∣(F i k:Int) - fI n f (fun c=>(T i k c:Int))){a:Nat}(ha:a<n)(x:Nat->Int):(p:Int)∣fI n f (Pr n T (fun c=>(dl a c:Int)) x) - sI (fun k=>x k*(F a k:Int)) n:=by
  have e:fI n f (Pr n T (fun c=>(dl a c:Int)) x)=sI (fun k=>x k*fI n f (fun c=>(T a k c:Int))) n:=by
    rw [← Na];exact congrArg (fI n f) (funext fun c=>O7 a ha x c)
  rw [e];exact Np fun k hk=>My _ (Nk (O a k ha hk))
end Go.Ech
namespace Go.Sw
open Go Go.RowKit
variable {P : Program}
section
variable {ops : List Oper} {Q : Exit -> Act -> World -> Prop} {n : Nat} {F : List (Nat × Value)} {G : Type} {S : G -> World -> Prop}
def Nd (n:Nat) (F:List (Nat×Value)):List Oper->List Nat->Bool
  | [],_=>true
  | o :: r, seen => (match o.dst with
    | some d=>Nat.blt d n && (lk F d).isNone && !(Ce d seen) && Nd n F r (d::seen)
    | none=>false)
def StepsQ {G:Type} (P:Program) (ops:List Oper) (k n:Nat) (F:List (Nat×Value)) (S:G->World->Prop) (φ:Facts G):List Oper->Nat->Prop
  | [],_=>True
  | o::r,i=>(∀ a w g,Fr n a F->S g w->Nn ops k φ o g a w->if Region.wanted o (yielded ops.toArray a.tmps)=true then Does P o a w (After S φ i g w) else After S φ i g w undef w)/\StepsQ P ops k n F S φ r (i+1)
theorem StepsQ.get {k:Nat}{φ:Facts G}:∀ {l:List Oper} {i:Nat},StepsQ P ops k n F S φ l i->∀ (j:Nat) (o:Oper),l[j]? = some o->
    ∀ a w g,Fr n a F->S g w->Nn ops k φ o g a w->if Region.wanted o (yielded ops.toArray a.tmps)=true then Does P o a w (After S φ (i+j) g w) else After S φ (i+j) g w undef w
  | [],_,_,j,o,h=>by simp at h
  | x :: r, i, hs, j, o, h => by
    cases j with
    | zero=>simp at h;subst h;exact hs.1
    | succ j=>have:=hs.2.get j o (by simpa using h);rwa [show i+1+j=i+(j+1) by omega] at this
end
end Go.Sw
namespace Go.Sw
open Go Go.RowKit Go.ChangeShapes Go.WideShapes Go.ChangeAt
def ArgB (w:World) (sl:Value) (m:Nat):Prop:=
  (∃ x c,sl = .slice x m c)/\(0<m->∃ (b o c:Nat) (F:Nat->Nat),sl = .slice (some ⟨b,o,none⟩) m c/\b<w.heap.size/\b ∉ ([]:List Nat)/\(∀ i,F i<=255)/\∀ i,i<m->w.cell? ⟨b,o+i*1,none⟩=some (.int .u8 (F i:Int)))
theorem ArgB.code {w:World}{sl:Value}{m:Nat}(h:ArgB w sl m)(hm:m<=4096):CodeB w [] sl m:=⟨hm,h.1,h.2⟩
section
variable {H : Type} {enc : TypeId × Value -> H} {P : Program} {w : World} {base : Nat} {spare : Nat -> Bool} {held : Bool}
theorem JJ {t e:TypeId}{fuel:Nat}{v:Value}{y:DataW H×List MemPlace}(ht:P.underlying t=some (.slice e))(he:P.underlying e=some (.int .u8))(hc:P.cellsOf e=1)
    (h:DataW.trod enc P w base spare held fuel t [v]=some y):∃ m:Nat,ArgB w v m:=by
  rcases open_ints ht he hc h with ⟨e1,_⟩ | ⟨ad,len,cap,zs,e1,_,hle,hZ,hlen,_,hH,hO⟩
  . simp only [List.cons.injEq,and_true] at e1
    rw [e1];exact ⟨0,⟨none,0,rfl⟩,fun h=>absurd h (by omega)⟩
  . simp only [List.cons.injEq,and_true] at e1
    rw [e1];refine ⟨len,⟨some ad,cap,rfl⟩,fun hm=>?_⟩;have hzl:len<=zs.length:=by rw [hlen];split<;>omega
    have bd:∀ i,0<=zs.getD i 0/\zs.getD i 0<=255:=fun i=>by
      by_cases hi:i<zs.length
      . have:zs.getD i 0=zs[i]:=by simp [List.getD,hi]
        rw [this];exact wf_u8 (hO _ (List.getElem_mem _))
      . have:zs.getD i 0=0:=by simp [List.getD,Nat.not_lt.1 hi]
        rw [this];exact ⟨by decide,by decide⟩
    have h0:=hH 0 (by omega);rw [show ad.add 0=ad from rfl] at h0;obtain ⟨b,o,s⟩:=ad
    unfold World.cell? at h0
    cases hb:w.heap[b]? with
    | none=>simp [hb] at h0
    | some ob =>
      cases ob with
      | cells cs tt ck =>
        simp only [hb] at h0
        cases s with
        | some s=>simp at h0
        | none =>
          refine ⟨b,o,cap,fun i=>(zs.getD i 0).toNat,rfl,(Array.getElem?_eq_some_iff.1 hb).1,by simp,fun i=>by have h9:=bd i;show (zs.getD i 0).toNat<=255;omega,fun i hi=>?_⟩;have hi':=hH i (by omega);rw [show (Addr.add ⟨b,o,none⟩ i)=⟨b,o+i,none⟩ from by unfold Addr.add;split<;>simp_all] at hi';rw [Nat.mul_one,hi'];have:=bd i;rw [Int.toNat_of_nonneg this.1]
      | _=>simp [hb] at h0
theorem open_by {r:Go.Reach}{b0:Nat}{t e:TypeId}{v:Value}{d:DataW H}{p:List MemPlace}(ht:P.underlying t=some (.slice e))(he:P.underlying e=some (.int .u8))(hc:P.cellsOf e=1)
    (hv:Value.okWide P w r b0 t v) (h:DataW.Trod enc P w base spare held t v d p):∃ m:Nat,ArgB w v m:=by
  obtain ⟨a,l,c,rfl⟩:=okWide_slice ht hv;obtain ⟨fuel,h⟩:=h;exact JJ ht he hc h
end
end Go.Sw
namespace Go.Sw
theorem Hu:∀ (c:Char) (r:List Char),c≠' '->wordsSigns (c::r)=match wordsSigns r with
    | w::ws=>(c::w)::ws
    | []=>[[c]]:=by
  intro c r h;rw [wordsSigns.eq_def]
  split
  . simp_all
  . rename_i heq;simp at heq;exact absurd heq.1 h
  . rename_i heq;simp only [List.cons.injEq] at heq;obtain ⟨rfl,rfl⟩:=heq;rfl
theorem Ct:∀ (w r:List Char),(∀ c∈w,c≠' ')->wordsSigns (w++' '::r)=w::wordsSigns r
  | [],r,_=>by simp [wordsSigns]
  | c :: w, r, h => by
    rw [List.cons_append,Hu c _ (h c (by simp)),Ct w r (fun d hd=>h d (by simp [hd]))]
theorem OE (s:List Char)(h:isSumSigns s=true):∀ c∈s,c≠' ':=by
  intro c hc he
  unfold isSumSigns at h
  simp only [Bool.and_eq_true,List.all_eq_true] at h;have:=h.2 c hc;subst he
  revert this;decide
theorem cutHead (L s r : List Char) (h : L = "harness".toList ++ ' ' :: (s ++ ' ' :: ("cut".toList ++ ' ' :: r))) (hs : isSumSigns s = true) :
    behindMainWord (wordsSigns L) = "cut".toList :: wordsSigns r := by
  rw [h, Ct _ _ (by decide), Ct _ _ (OE s hs), Ct _ _ (by decide)];have : ("harness".toList == "harness".toList || "harness".toList == "ownmain".toList) = true := by decide
  unfold behindMainWord
  show (if (("harness".toList == "harness".toList || "harness".toList == "ownmain".toList) && isSumSigns s) = true then _ else _) = _
  rw [if_pos (by rw [this,hs];rfl)]
theorem IL (R : List (List Char)) : stripLifts liftWords ("cut".toList :: R) = ([], "cut".toList :: R) := by
  kernel_rfl
theorem Lt (P : Program) (R : List (List Char)) (h : behindMainWord (wordsSigns P.initOrder.toList) = "cut".toList :: R) : P.headLifts = [] := by
  unfold Program.headLifts;rw [h,IL];rfl
theorem make_cut (P : Program) (R : List (List Char)) (h : behindMainWord (wordsSigns P.initOrder.toList) = "cut".toList :: R) : P.make = some .cut := by
  unfold Program.make;rw [h]
  have h1 : ("cut".toList == "gc".toList || "cut".toList == "spec".toList) = false := by decide
  have h2 : ("cut".toList == "cut".toList) = true := by decide
  simp only [h1,h2];rfl
theorem final_cut (P : Program) (R : List (List Char)) (h : behindMainWord (wordsSigns P.initOrder.toList) = "cut".toList :: R) : P.liftsFinal = false := by
  unfold Program.liftsFinal;rw [Lt P R h,h];kernel_rfl
theorem enter_cut (P : Program) (R : List (List Char)) (h : behindMainWord (wordsSigns P.initOrder.toList) = "cut".toList :: R)
    (hl:P.laysLater=false) (hb:P.bearsReflect=false) (hd:P.doorFits []=true):P.mayEnter=true:=by
  unfold Program.mayEnter;rw [h]
  simp only [IL,hl,hb,hd]
  kernel_rfl
end Go.Sw
