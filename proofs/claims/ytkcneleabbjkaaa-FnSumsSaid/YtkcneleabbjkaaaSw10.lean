import Derived.Test.YtkcneleabbjkaaaEch9
import Derived.JoinedOf
import Derived.KernelRfl
set_option linter.unusedVariables false
set_option linter.unusedSimpArgs false
namespace Go.Ech
open Go.Sw
def Qb (p:Int) (k a:Int) (q:List Int):List Int:=(NM (0::q.map (k * ·)) (q.map (-(k*a) * ·))).map (· % p)
def iL (p:Int) (c:Int):Nat->List Int
  | 0=>[1]
  | k+1=>Qb p 1 c (iL p c k)
def Qw (p:Nat) (x:Int):Nat:=((List.range p).find? (fun (k:Nat)=>decide ((x*(k:Int))%(p:Int)=1))).getD 0
def sL (p c:Nat):Nat->List Int
  | 0=>[1]
  | d+1=>if d=c then sL p c d else Qb p (Qw p ((c:Int) - (d:Int))) d (sL p c d)
def Rt (p c:Nat):List Int:=NM [1] ((iL p c (p - 1)).map (-1 * ·))
def RU (p:Nat) (q:List Int):List Int:=NM (q.take p) (0::q.drop p)
section
variable {p n : Nat} {T : Nat -> Nat -> Nat -> Nat} {e v u : Nat -> Int}
variable (ha : Gh p n T) (hk : PS n T) (he : EqP p n (Pr n T e e) e)
def vP (n:Nat) (T:Nat->Nat->Nat->Nat) (u v:Nat->Int):Nat->Nat->Int
  | 0=>u
  | k+1=>Pr n T (vP n T u v k) v
include ha in
end
def RJ:Nat->Nat->Nat
  | 0,0=>1
  | 0,_+1=>0
  | _+1,0=>1
  | k+1,i+1=>RJ k i+RJ k (i+1)
section
variable {p n : Nat} {T : Nat -> Nat -> Nat -> Nat} {u : Nat -> Int}
variable (ha : Gh p n T) (hk : PS n T) (hu : ∀ y, EqP p n (Pr n T y u) y)
include ha hk hu in
def eb (c:Nat):Nat->Int:=fun d=>if d=c then 1 else 0
def cutV (v:Nat->Nat) (m:Nat):Nat->Int:=fun d=>if d<m then (v d:Int) else 0
include ha hk hu in
end
def fI (n:Nat) (f:Nat->Nat) (x:Nat->Int):Int:=sI (fun c=>(f c:Int)*x c) n
theorem MF {p:Int}{f g:Nat->Int}{n:Nat}(h:∀ i,i<n->p∣f i - g i):p∣sI f n - sI g n:=by
  rw [Fk];exact Cs h
theorem Bl {p a b c:Int}(h:p∣a - b)(k:p∣b - c):p∣a - c:=by
  have:=Int.dvd_add h k
  rwa [show a - b+(b - c)=a - c by omega] at this
theorem GI {p a b:Int}(h:p∣a - b):p∣b - a:=by
  have:=Int.dvd_neg.2 h
  rwa [show -(a - b)=b - a by omega] at this
theorem D7 {p a b:Int}(h:a=b):p∣a - b:=by rw [h,Int.sub_self];exact ⟨0,by simp⟩
theorem OU {p a b:Int}(k:Int)(h:p∣a - b):p∣k*a - k*b:=by
  rw [← Int.mul_sub];exact Int.dvd_trans h (Int.dvd_mul_left ..)
variable {p n : Nat} {T : Nat -> Nat -> Nat -> Nat} {f : Nat -> Nat}
theorem Ql (a:Nat)(ha:a<n)(y:Nat->Int)(c:Nat):Pr n T (fun c=>(dl a c:Int)) y c=sI (fun b=>y b*(T a b c:Int)) n:=by
  rw [KI];exact LV ha
end Go.Ech
namespace Go.Ech
open Go.Sw
end Go.Ech
namespace Go.Sw
open Go Go.RowKit Go.Ech
def TbX (D:A7) (m n:Nat) (M:Nat->Nat->Nat) (u:Value):Prop:=
  (m=0/\u = .slice Option.none 0 0)\/(0<m/\∃ (b cap:Nat) (cs:Array Value) (β κ:Nat->Nat) (C:Nat->Array Value),u = .slice (some ⟨b,0,Option.none⟩) m cap/\(b,cs)∈D/\(∀ i,i<m->cs[0+i*1]? = some (.slice (some ⟨β i,0,Option.none⟩) n (κ i)))/\RowsD D n m β κ C (fun i c=>.int .i64 (M i c:Int)))
def VsX (D:A7) (m:Nat) (V:Nat->Nat->Nat) (u:Value):Prop:=
  (m=0/\u = .slice Option.none 0 0)\/(0<m/\∃ (b cap:Nat) (cs:Array Value),(b,cs)∈D/\SlAt 6 u (some (b,cs)) m b cap cs (fun q=>.int .u8 (V (q / 6) (q%6):Int)))
theorem TbX.more {D D':A7}{m n:Nat}{M:Nat->Nat->Nat}{u:Value}(h:TbX D m n M u)(hs:∀ x∈D,x∈D'):TbX D' m n M u:=by
  rcases h with h | ⟨h0,b,cap,cs,β,κ,C,h1,h2,h3,h4⟩
  . exact .inl h
  . exact .inr ⟨h0,b,cap,cs,β,κ,C,h1,hs _ h2,h3,h4.more hs⟩
theorem VsX.more {D D':A7}{m:Nat}{V:Nat->Nat->Nat}{u:Value}(h:VsX D m V u)(hs:∀ x∈D,x∈D'):VsX D' m V u:=by
  rcases h with h | ⟨h0,b,cap,cs,h1,h2⟩
  . exact .inl h
  . exact .inr ⟨h0,b,cap,cs,hs _ h1,h2⟩
def NewX (R:A7->Value->Prop) (w w':World) (u:Value):Prop:=∃ D:A7,(∀ x ds,(x,ds)∈D->w.heap.size<=x/\Blk w' x ds)/\R D u
theorem MemX.addX {X:List Nat}{w0 w w':World}{L:Own}{D:A7}{R:A7->Value->Prop}{u:Value}(h:MemX X w0 w L D)(hx:Ext w w')(hr:NewX R w w' u):∃ D':A7,R D' u/\MemX X w0 w' L (D'++D):=by
  obtain ⟨D',h1,h2⟩:=hr;exact ⟨D',h2,h.addD hx h1⟩
theorem NewX.nilV {V:Nat->Nat->Nat}{w w':World}:NewX (fun D u=>VsX D 0 V u) w w' (.slice Option.none 0 0):=⟨[],fun _ _ h=>absurd h (by simp),.inl ⟨rfl,rfl⟩⟩
theorem TabOut.newX {w w':World}{n m:Nat}{M:Nat->Nat->Nat}{u:Value}(hm:0<m)(h:TabOut w w' n m (fun i c=>.int .i64 (M i c:Int)) u):NewX (fun D u=>TbX D m n M u) w w' u:=by
  obtain ⟨D,β,κ,C,b,cap,cs,h1,h2,h3,h4,-,-⟩:=h;exact ⟨D,h1,.inr ⟨hm,b,cap,cs,β,κ,C,h3.val,h4,fun i hi=>h3.get1 i hi,h2⟩⟩
theorem TabI.newX {w w':World}{n:Nat}{M:Nat->Nat->Nat}{u:Value}(hn:0<n)(hn6:n<=100)(h:TabI w w' n M u):NewX (fun D u=>TbX D n n M u) w w' u:=by
  obtain ⟨D,β,b,cs,h1,h2,h3,h4,h5,-⟩:=h;exact ⟨D,h1,.inr ⟨hn,b,n,cs,β,fun _=>n,_,h3,h5,h4,h2.rowsD hn6⟩⟩
theorem OwnSl.newX {w w':World}{m:Nat}{V:Nat->Nat->Nat}{u:Value}(hm:0<m)(h:OwnSl 6 w m (fun q=>.int .u8 (V (q / 6) (q%6):Int)) u w'):NewX (fun D u=>VsX D m V u) w w' u:=by
  obtain ⟨b,cap,cs,h1,h2,h3⟩:=h;refine ⟨[(b,cs)],fun x ds hx=>?_,.inr ⟨hm,b,cap,cs,by simp,h1⟩⟩;simp only [List.mem_cons,Prod.mk.injEq,List.not_mem_nil,or_false] at hx;obtain ⟨rfl,rfl⟩:=hx;exact ⟨h2,h3⟩
end Go.Sw
namespace Go.Ech
open Go.Sw
variable {p n : Nat} {T : Nat -> Nat -> Nat -> Nat} {f : Nat -> Nat}
end Go.Ech
namespace Go.Ech
open Go.Sw
theorem ME (g:Nat->Nat->Int)(n m:Nat):sI (fun a=>g (a / m) (a%m)) (n*m)=sI (fun i=>sI (fun j=>g i j) m) n:=by
  induction n with
  | zero=>rw [Nat.zero_mul];rfl
  | succ n ih =>
    rw [Nat.succ_mul,Cb,ih]
    show _=sI (fun i=>sI (fun j=>g i j) m) n+sI (fun j=>g n j) m
    congr 1
    refine Aw fun j hj=>?_;have hm:0<m:=by omega
    rw [show (n*m+j) / m=n by rw [Nat.add_comm,Nat.add_mul_div_right _ _ hm,Nat.div_eq_of_lt hj,Nat.zero_add],show (n*m+j)%m=j by rw [Nat.add_comm,Nat.add_mul_mod_self_right,Nat.mod_eq_of_lt hj]]
theorem DP {p a b c d:Int}(h:p∣a - b)(k:p∣c - d):p∣a*c - b*d:=by
  refine Bl (b:=b*c) ?_ (OU b k);rw [Int.mul_comm a,Int.mul_comm b];exact OU c h
theorem RE (x p:Nat):(p:Int)∣((x%p:Nat):Int) - (x:Int):=⟨-((x / p:Nat):Int),by
  have:=Nat.mod_add_div x p
  have h2:((x%p:Nat):Int)+(p:Int)*((x / p:Nat):Int)=(x:Int):=by rw [← Int.natCast_mul,← Int.natCast_add,this]
  rw [Int.mul_neg];omega⟩
variable {p n m : Nat}
theorem Fj {F:Nat->Int}{x y:Nat->Int}(h:∀ a,a<n*m->(p:Int)∣F a - x (a / m)*y (a%m)):(p:Int)∣sI F (n*m) - sI x n*sI y m:=by
  refine Bl (MF h) (D7 ?_);rw [ME (fun i j=>x i*y j)];rw [E8];exact Aw fun i _=>C3 ..
theorem D6 {a:Nat}(h:a<n*m):a / m<n/\a%m<m:=by
  have hm:0<m:=by rcases Nat.eq_zero_or_pos m with e | e;(subst e;omega);exact e
  exact ⟨(Nat.div_lt_iff_lt_mul hm).2 h,Nat.mod_lt _ hm⟩
theorem dl_prod {a b:Nat}:(dl a b:Int)=(dl (a / m) (b / m):Int)*(dl (a%m) (b%m):Int):=by
  unfold dl
  by_cases e:a=b
  . subst e;simp
  . rw [if_neg e]
    by_cases e1:a / m=b / m
    . have e2:a%m≠b%m:=fun e2=>e (by rw [← Nat.div_add_mod a m,← Nat.div_add_mod b m,e1,e2])
      rw [if_neg e2];simp
    . rw [if_neg e1];simp
section
variable {T U W : Nat -> Nat -> Nat -> Nat}
theorem Oj (hW:∀ i j k,i<n*m->j<n*m->k<n*m->(p:Int)∣(W i j k:Int) - (T (i / m) (j / m) (k / m):Int)*(U (i%m) (j%m) (k%m):Int))(hT:Gh p n T)(hU:Gh p m U):Gh p (n*m) W:=by
  intro i hi j hj k hk d hd;obtain ⟨i1,i2⟩:=D6 hi;obtain ⟨j1,j2⟩:=D6 hj;obtain ⟨k1,k2⟩:=D6 hk;obtain ⟨d1,d2⟩:=D6 hd;have A:(p:Int)∣sI (fun a=>(W i j a:Int)*(W a k d:Int)) (n*m) - sI (fun a=>(T (i / m) (j / m) a:Int)*(T a (k / m) (d / m):Int)) n*sI (fun b=>(U (i%m) (j%m) b:Int)*(U b (k%m) (d%m):Int)) m:=
    Fj (x:=fun a=>(T (i / m) (j / m) a:Int)*(T a (k / m) (d / m):Int)) (y:=fun b=>(U (i%m) (j%m) b:Int)*(U b (k%m) (d%m):Int)) fun a ha=>Bl (DP (hW i j a hi hj ha) (hW a k d ha hk hd)) (D7 (by simp only [Int.mul_assoc,Int.mul_left_comm]))
  have B:(p:Int)∣sI (fun b=>(W j k b:Int)*(W i b d:Int)) (n*m) - sI (fun a=>(T (j / m) (k / m) a:Int)*(T (i / m) a (d / m):Int)) n*sI (fun b=>(U (j%m) (k%m) b:Int)*(U (i%m) b (d%m):Int)) m:=
    Fj (x:=fun a=>(T (j / m) (k / m) a:Int)*(T (i / m) a (d / m):Int)) (y:=fun b=>(U (j%m) (k%m) b:Int)*(U (i%m) b (d%m):Int)) fun a ha=>Bl (DP (hW j k a hj hk ha) (hW i a d hi ha hd)) (D7 (by simp only [Int.mul_assoc,Int.mul_left_comm,Int.mul_comm]))
  exact Bl A (Bl (DP (hT _ i1 _ j1 _ k1 _ d1) (hU _ i2 _ j2 _ k2 _ d2)) (GI B))
theorem NS {u v z:Nat->Nat}(hW:∀ i j k,i<n*m->j<n*m->k<n*m->(p:Int)∣(W i j k:Int) - (T (i / m) (j / m) (k / m):Int)*(U (i%m) (j%m) (k%m):Int))(hu:UnitI p n T u)(hv:UnitI p m U v)(hz:∀ a,a<n*m->(p:Int)∣(z a:Int) - (u (a / m):Int)*(v (a%m):Int))(h1:∀ c,z c<p)(h2:∀ c,n*m<=c->z c=0):UnitI p (n*m) W z:=by
  refine ⟨h1,h2,fun i hi c hc=>?_,fun i hi c hc=>?_⟩
  . obtain ⟨i1,i2⟩:=D6 hi
    obtain ⟨c1,c2⟩:=D6 hc;refine Bl (Fj (x:=fun a=>(u a:Int)*(T a (i / m) (c / m):Int)) (y:=fun b=>(v b:Int)*(U b (i%m) (c%m):Int)) fun a ha=>Bl (DP (hz a ha) (hW a i c ha hi hc)) (D7 (by simp only [Int.mul_assoc,Int.mul_left_comm,Int.mul_comm])))<|Bl (DP (hu.right _ i1 _ c1) (hv.right _ i2 _ c2)) (D7 ?_);exact dl_prod.symm
  . obtain ⟨i1,i2⟩:=D6 hi
    obtain ⟨c1,c2⟩:=D6 hc;refine Bl (Fj (x:=fun a=>(u a:Int)*(T (i / m) a (c / m):Int)) (y:=fun b=>(v b:Int)*(U (i%m) b (c%m):Int)) fun a ha=>Bl (DP (hz a ha) (hW i a c hi ha hc)) (D7 (by simp only [Int.mul_assoc,Int.mul_left_comm,Int.mul_comm])))<|Bl (DP (hu.left _ i1 _ c1) (hv.left _ i2 _ c2)) (D7 ?_);exact dl_prod.symm
def TK (p n:Nat) (F:Nat->Nat->Nat):Prop:=∀ x:Nat->Int,(∀ i,i<n->(p:Int)∣sI (fun k=>(F i k:Int)*x k) n)->∀ c,c<n->(p:Int)∣x c
theorem Pm {F F1 F2:Nat->Nat->Nat}(hn:0<n)(hm:0<m)(O:∀ i k,i<n*m->k<n*m->(p:Int)∣(F i k:Int) - (F1 (i / m) (k / m):Int)*(F2 (i%m) (k%m):Int)):TK p (n*m) F↔TK p n F1/\TK p m F2:=by
  have hO:∀ i j,i<n->j<m->i*m+j<n*m:=fun i j hi hj=>by
    have:=Nat.mul_le_mul_right m (show i+1<=n from hi);rw [Nat.succ_mul] at this;omega
  have dv:∀ i j,j<m->(i*m+j) / m=i:=fun i j hj=>by rw [Nat.add_comm,Nat.add_mul_div_right _ _ hm,Nat.div_eq_of_lt hj,Nat.zero_add]
  have md:∀ i j,j<m->(i*m+j)%m=j:=fun i j hj=>by rw [Nat.add_comm,Nat.add_mul_mod_self_right,Nat.mod_eq_of_lt hj]
  have key:∀ (x:Nat->Int) i1 i2,i1<n->i2<m->(p:Int)∣sI (fun k=>(F (i1*m+i2) k:Int)*x k) (n*m) - sI (fun k1=>(F1 i1 k1:Int)*sI (fun k2=>(F2 i2 k2:Int)*x (k1*m+k2)) m) n:=fun x i1 i2 h1 h2=>by
    refine Bl (MF (g:=fun k=>((F1 i1 (k / m):Int)*(F2 i2 (k%m):Int))*x ((k / m)*m+k%m)) fun k hk=>?_) (D7 ?_)
    . have h3:=O (i1*m+i2) k (hO i1 i2 h1 h2) hk
      rw [dv i1 i2 h2,md i1 i2 h2] at h3;rw [show (k / m)*m+k%m=k by rw [Nat.mul_comm];exact Nat.div_add_mod k m];exact DP h3 (D7 rfl)
    . rw [ME (fun a b=>((F1 i1 a:Int)*(F2 i2 b:Int))*x (a*m+b))]
      exact Aw fun a _=>by rw [← C3];exact Aw fun b _=>Int.mul_assoc ..
  constructor
  . intro h
    constructor
    . intro x hx c hc
      have:=h (fun k=>x (k / m)*(dl 0 (k%m):Int)) (fun i hi=>?_) (c*m+0) (hO c 0 hc hm)
      . simp only [dv c 0 hm,md c 0 hm] at this
        simpa [dl] using this
      . obtain ⟨i1,i2⟩:=D6 hi
        have h3:=key (fun k=>x (k / m)*(dl 0 (k%m):Int)) (i / m) (i%m) i1 i2;rw [show (i / m)*m+i%m=i by rw [Nat.mul_comm];exact Nat.div_add_mod i m] at h3;have h4:(p:Int)∣sI (fun k1=>(F1 (i / m) k1:Int)*sI (fun k2=>(F2 (i%m) k2:Int)*(x ((k1*m+k2) / m)*(dl 0 ((k1*m+k2)%m):Int))) m) n:=by
          have e:sI (fun k1=>(F1 (i / m) k1:Int)*sI (fun k2=>(F2 (i%m) k2:Int)*(x ((k1*m+k2) / m)*(dl 0 ((k1*m+k2)%m):Int))) m) n=(F2 (i%m) 0:Int)*sI (fun k1=>(F1 (i / m) k1:Int)*x k1) n:=by
            rw [← C3];refine Aw fun k1 _=>?_;rw [Cc hm (fun k2 h2 hH=>by rw [md k1 k2 h2];simp [dl,Ne.symm hH]),dv k1 0 hm,md k1 0 hm];simp only [dl,if_true,Int.natCast_one,Int.mul_one];simp only [Int.mul_left_comm]
          rw [e];exact Int.dvd_mul_of_dvd_right (hx _ i1)
        have:=Int.dvd_add h3 h4
        rwa [Int.sub_add_cancel] at this
    . intro y hy c hc
      have:=h (fun k=>(dl 0 (k / m):Int)*y (k%m)) (fun i hi=>?_) (0*m+c) (hO 0 c hn hc)
      . simp only [dv 0 c hc,md 0 c hc] at this
        simpa [dl] using this
      . obtain ⟨i1,i2⟩:=D6 hi
        have h3:=key (fun k=>(dl 0 (k / m):Int)*y (k%m)) (i / m) (i%m) i1 i2;rw [show (i / m)*m+i%m=i by rw [Nat.mul_comm];exact Nat.div_add_mod i m] at h3;have h4:(p:Int)∣sI (fun k1=>(F1 (i / m) k1:Int)*sI (fun k2=>(F2 (i%m) k2:Int)*((dl 0 ((k1*m+k2) / m):Int)*y ((k1*m+k2)%m))) m) n:=by
          refine Cs fun k1 _=>Int.dvd_mul_of_dvd_right ?_;have e:sI (fun k2=>(F2 (i%m) k2:Int)*((dl 0 ((k1*m+k2) / m):Int)*y ((k1*m+k2)%m))) m=(dl 0 k1:Int)*sI (fun k2=>(F2 (i%m) k2:Int)*y k2) m:=by
            rw [← C3];exact Aw fun k2 h2=>by rw [dv k1 k2 h2,md k1 k2 h2];exact Int.mul_left_comm ..
          rw [e];exact Int.dvd_mul_of_dvd_right (hy _ i2)
        have:=Int.dvd_add h3 h4
        rwa [Int.sub_add_cancel] at this
  . intro ⟨t1,t2⟩ x hx c hc
    obtain ⟨c1,c2⟩:=D6 hc;have h5:∀ i2,i2<m->∀ k1,k1<n->(p:Int)∣sI (fun k2=>(F2 i2 k2:Int)*x (k1*m+k2)) m:=fun i2 h2=>t1 (fun k1=>sI (fun k2=>(F2 i2 k2:Int)*x (k1*m+k2)) m) fun i1 h1=>by
      have:=Int.dvd_sub (hx (i1*m+i2) (hO i1 i2 h1 h2)) (key x i1 i2 h1 h2)
      rwa [show ∀ s t:Int,s - (s - t)=t from fun s t=>by omega] at this
    have:=t2 (fun k2=>x ((c / m)*m+k2)) (fun i2 h2=>h5 i2 h2 (c / m) c1) (c%m) c2
    rwa [show (c / m)*m+c%m=c by rw [Nat.mul_comm];exact Nat.div_add_mod c m] at this
end
end Go.Ech
namespace Go.Ech
open Go.Sw
variable {p n m : Nat} {T U S : Nat -> Nat -> Nat -> Nat}
structure SumT (n m:Nat) (T U S:Nat->Nat->Nat->Nat):Prop where
  one:∀ i j k,i<n->j<n->k<n->S i j k=T i j k
  two:∀ i j k,i<m->j<m->k<m->S (n+i) (n+j) (n+k)=U i j k
  zero:∀ i j k,i<n+m->j<n+m->k<n+m->¬ (i<n/\j<n/\k<n)->¬ (n<=i/\n<=j/\n<=k)->S i j k=0
theorem Ol (hS:SumT n m T U S)(hT:Gh p n T)(hU:Gh p m U):Gh p (n+m) S:=by
  intro i hi j hj k hk d hd
  by_cases h1:i<n/\j<n/\k<n/\d<n
  . obtain ⟨i1,j1,k1,d1⟩:=h1
    have e1:sI (fun a=>(S i j a:Int)*(S a k d:Int)) (n+m)=sI (fun a=>(T i j a:Int)*(T a k d:Int)) n:=by
      rw [Cb,Bn (f:=fun b=>(S i j (n+b):Int)*(S (n+b) k d:Int)) (fun b hb=>by rw [hS.zero i j (n+b) hi hj (by omega) (by omega) (by omega)];simp),Int.add_zero];exact Aw fun a ha=>by rw [hS.one i j a i1 j1 ha,hS.one a k d ha k1 d1]
    have e2:sI (fun b=>(S j k b:Int)*(S i b d:Int)) (n+m)=sI (fun b=>(T j k b:Int)*(T i b d:Int)) n:=by
      rw [Cb,Bn (f:=fun b=>(S j k (n+b):Int)*(S i (n+b) d:Int)) (fun b hb=>by rw [hS.zero j k (n+b) hj hk (by omega) (by omega) (by omega)];simp),Int.add_zero];exact Aw fun a ha=>by rw [hS.one j k a j1 k1 ha,hS.one i a d i1 ha d1]
    rw [e1,e2];exact hT i i1 j j1 k k1 d d1
  . by_cases h2:n<=i/\n<=j/\n<=k/\n<=d
    . obtain ⟨i1,j1,k1,d1⟩:=h2
      have e1:sI (fun a=>(S i j a:Int)*(S a k d:Int)) (n+m)=sI (fun a=>(U (i - n) (j - n) a:Int)*(U a (k - n) (d - n):Int)) m:=by
        rw [Cb,Bn (f:=fun b=>(S i j b:Int)*(S b k d:Int)) (n:=n) (fun b hb=>by rw [hS.zero i j b hi hj (by omega) (by omega) (by omega)];simp),Int.zero_add];exact Aw fun a ha=>by
          have q1:=hS.two (i - n) (j - n) a (by omega) (by omega) ha;have q2:=hS.two a (k - n) (d - n) ha (by omega) (by omega);rw [show n+(i - n)=i by omega,show n+(j - n)=j by omega] at q1;rw [show n+(k - n)=k by omega,show n+(d - n)=d by omega] at q2;rw [q1,q2]
      have e2:sI (fun b=>(S j k b:Int)*(S i b d:Int)) (n+m)=sI (fun b=>(U (j - n) (k - n) b:Int)*(U (i - n) b (d - n):Int)) m:=by
        rw [Cb,Bn (f:=fun b=>(S j k b:Int)*(S i b d:Int)) (n:=n) (fun b hb=>by rw [hS.zero j k b hj hk (by omega) (by omega) (by omega)];simp),Int.zero_add];exact Aw fun a ha=>by
          have q1:=hS.two (j - n) (k - n) a (by omega) (by omega) ha;have q2:=hS.two (i - n) a (d - n) (by omega) ha (by omega);rw [show n+(j - n)=j by omega,show n+(k - n)=k by omega] at q1;rw [show n+(i - n)=i by omega,show n+(d - n)=d by omega] at q2;rw [q1,q2]
      rw [e1,e2];exact hU _ (by omega) _ (by omega) _ (by omega) _ (by omega)
    . have e1:sI (fun a=>(S i j a:Int)*(S a k d:Int)) (n+m)=0:=Bn fun a ha=>by
        by_cases c1:(i<n/\j<n/\a<n)\/(n<=i/\n<=j/\n<=a)
        . rw [hS.zero a k d ha hk hd (by omega) (by omega)];simp
        . rw [hS.zero i j a hi hj ha (by omega) (by omega)];simp
      have e2:sI (fun b=>(S j k b:Int)*(S i b d:Int)) (n+m)=0:=Bn fun a ha=>by
        by_cases c1:(j<n/\k<n/\a<n)\/(n<=j/\n<=k/\n<=a)
        . rw [hS.zero i a d hi ha hd (by omega) (by omega)];simp
        . rw [hS.zero j k a hj hk ha (by omega) (by omega)];simp
      rw [e1,e2];exact ⟨0,by simp⟩
theorem NY {u v z:Nat->Nat}(hS:SumT n m T U S)(hu:UnitI p n T u)(hv:UnitI p m U v)(h1:∀ c,c<n->z c=u c)(h2:∀ c,c<m->z (n+c)=v c)(hz:∀ c,z c<p)(h0:∀ c,n+m<=c->z c=0):UnitI p (n+m) S z:=by
  have dls:∀ a b,n<=a->n<=b->(dl a b:Int)=(dl (a - n) (b - n):Int):=fun a b ha hb=>by unfold dl;by_cases e:a=b;(subst e;simp);rw [if_neg e,if_neg (by omega)]
  have dl0:∀ a b,a≠b->(dl a b:Int)=0:=fun a b e=>by unfold dl;rw [if_neg e];rfl
  refine ⟨hz,h0,fun i hi c hc=>?_,fun i hi c hc=>?_⟩
  . by_cases q1:i<n/\c<n
    . rw [Cb,Bn (f:=fun b=>(z (n+b):Int)*(S (n+b) i c:Int)) (fun b hb=>by rw [hS.zero (n+b) i c (by omega) hi hc (by omega) (by omega)];simp),Int.add_zero,Aw (g:=fun a=>(u a:Int)*(T a i c:Int)) (fun a ha=>by rw [h1 a ha,hS.one a i c ha q1.1 q1.2])]
      exact hu.right i q1.1 c q1.2
    . by_cases q2:n<=i/\n<=c
      . rw [Cb,Bn (f:=fun a=>(z a:Int)*(S a i c:Int)) (n:=n) (fun b hb=>by rw [hS.zero b i c (by omega) hi hc (by omega) (by omega)];simp),Int.zero_add,Aw (g:=fun a=>(v a:Int)*(U a (i - n) (c - n):Int)) (fun a ha=>by
          have q3:=hS.two a (i - n) (c - n) ha (by omega) (by omega);rw [show n+(i - n)=i by omega,show n+(c - n)=c by omega] at q3;rw [h2 a ha,q3]),dls i c q2.1 q2.2]
        exact hv.right _ (by omega) _ (by omega)
      . rw [Bn (fun a ha=>by rw [hS.zero a i c ha hi hc (by omega) (by omega)];simp),dl0 i c (by omega)];exact ⟨0,by simp⟩
  . by_cases q1:i<n/\c<n
    . rw [Cb,Bn (f:=fun b=>(z (n+b):Int)*(S i (n+b) c:Int)) (fun b hb=>by rw [hS.zero i (n+b) c hi (by omega) hc (by omega) (by omega)];simp),Int.add_zero,Aw (g:=fun a=>(u a:Int)*(T i a c:Int)) (fun a ha=>by rw [h1 a ha,hS.one i a c q1.1 ha q1.2])]
      exact hu.left i q1.1 c q1.2
    . by_cases q2:n<=i/\n<=c
      . rw [Cb,Bn (f:=fun a=>(z a:Int)*(S i a c:Int)) (n:=n) (fun b hb=>by rw [hS.zero i b c hi (by omega) hc (by omega) (by omega)];simp),Int.zero_add,Aw (g:=fun a=>(v a:Int)*(U (i - n) a (c - n):Int)) (fun a ha=>by
          have q3:=hS.two (i - n) a (c - n) (by omega) ha (by omega);rw [show n+(i - n)=i by omega,show n+(c - n)=c by omega] at q3;rw [h2 a ha,q3]),dls i c q2.1 q2.2]
        exact hv.left _ (by omega) _ (by omega)
      . rw [Bn (fun a ha=>by rw [hS.zero i a c hi ha hc (by omega) (by omega)];simp),dl0 i c (by omega)];exact ⟨0,by simp⟩
theorem Pt {F F1 F2:Nat->Nat->Nat}(h11:∀ i k,i<n->k<n->(p:Int)∣(F i k:Int) - (F1 i k:Int))(h22:∀ i k,i<m->k<m->(p:Int)∣(F (n+i) (n+k):Int) - (F2 i k:Int))(h12:∀ i k,i<n->k<m->(p:Int)∣(F i (n+k):Int))(h21:∀ i k,i<m->k<n->(p:Int)∣(F (n+i) k:Int)):TK p (n+m) F↔TK p n F1/\TK p m F2:=by
  have k1:∀ (x:Nat->Int) i,i<n->(p:Int)∣sI (fun k=>(F i k:Int)*x k) (n+m) - sI (fun k=>(F1 i k:Int)*x k) n:=fun x i hi=>by
    rw [Cb];have a1:(p:Int)∣sI (fun k=>(F i k:Int)*x k) n - sI (fun k=>(F1 i k:Int)*x k) n:=MF fun k hk=>DP (h11 i k hi hk) (D7 rfl);have a2:(p:Int)∣sI (fun k=>(F i (n+k):Int)*x (n+k)) m:=Cs fun k hk=>Int.dvd_trans (h12 i k hi hk) (Int.dvd_mul_right ..);have:=Int.dvd_add a1 a2
    rwa [show ∀ a b c:Int,a - b+c=a+c - b from fun a b c=>by omega] at this
  have k2:∀ (x:Nat->Int) i,i<m->(p:Int)∣sI (fun k=>(F (n+i) k:Int)*x k) (n+m) - sI (fun k=>(F2 i k:Int)*x (n+k)) m:=fun x i hi=>by
    rw [Cb];have a1:(p:Int)∣sI (fun k=>(F (n+i) (n+k):Int)*x (n+k)) m - sI (fun k=>(F2 i k:Int)*x (n+k)) m:=MF fun k hk=>DP (h22 i k hi hk) (D7 rfl);have a2:(p:Int)∣sI (fun k=>(F (n+i) k:Int)*x k) n:=Cs fun k hk=>Int.dvd_trans (h21 i k hi hk) (Int.dvd_mul_right ..);have:=Int.dvd_add a1 a2
    rwa [show ∀ a b c:Int,a - b+c=c+a - b from fun a b c=>by omega] at this
  constructor
  . intro h
    constructor
    . intro x hx c hc
      have:=h (fun k=>if k<n then x k else 0) (fun i hi=>?_) c (by omega)
      . simpa [hc] using this
      . by_cases q:i<n
        . have b1:=k1 (fun k=>if k<n then x k else 0) i q
          have b2:sI (fun k=>(F1 i k:Int)*(if k<n then x k else 0)) n=sI (fun k=>(F1 i k:Int)*x k) n:=Aw fun k hk=>by rw [if_pos hk]
          rw [b2] at b1;have:=Int.dvd_add b1 (hx i q)
          rwa [Int.sub_add_cancel] at this
        . have b1:=k2 (fun k=>if k<n then x k else 0) (i - n) (by omega)
          rw [show n+(i - n)=i by omega] at b1;have b2:sI (fun k=>(F2 (i - n) k:Int)*(if n+k<n then x (n+k) else 0)) m=0:=Bn fun k _=>by rw [if_neg (by omega)];simp
          rw [b2,Int.sub_zero] at b1;exact b1
    . intro y hy c hc
      have:=h (fun k=>if k<n then 0 else y (k - n)) (fun i hi=>?_) (n+c) (by omega)
      . have q0:¬ n+c<n:=by omega
        simpa [q0] using this
      . by_cases q:i<n
        . have b1:=k1 (fun k=>if k<n then 0 else y (k - n)) i q
          have b2:sI (fun k=>(F1 i k:Int)*(if k<n then 0 else y (k - n))) n=0:=Bn fun k hk=>by rw [if_pos hk];simp
          rw [b2,Int.sub_zero] at b1;exact b1
        . have b1:=k2 (fun k=>if k<n then 0 else y (k - n)) (i - n) (by omega)
          rw [show n+(i - n)=i by omega] at b1;have b2:sI (fun k=>(F2 (i - n) k:Int)*(if n+k<n then 0 else y (n+k - n))) m=sI (fun k=>(F2 (i - n) k:Int)*y k) m:=Aw fun k _=>by rw [if_neg (by omega),show n+k - n=k by omega]
          rw [b2] at b1;have:=Int.dvd_add b1 (hy (i - n) (by omega))
          rwa [Int.sub_add_cancel] at this
  . intro ⟨t1,t2⟩ x hx c hc
    by_cases q:c<n
    . refine t1 x (fun i hi=>?_) c q
      have:=Int.dvd_sub (hx i (by omega)) (k1 x i hi)
      rwa [show ∀ s t:Int,s - (s - t)=t from fun s t=>by omega] at this
    . have:=t2 (fun k=>x (n+k)) (fun i hi=>by
        have:=Int.dvd_sub (hx (n+i) (by omega)) (k2 x i hi)
        rwa [show ∀ s t:Int,s - (s - t)=t from fun s t=>by omega] at this) (c - n) (by omega)
      rwa [show n+(c - n)=c by omega] at this
end Go.Ech
namespace Go.Ech
open Go.Sw
theorem NB {p n m m' r:Nat}{M M' V:Nat->Nat->Nat}(e:∀ x,Ker p n M m x↔Ker p n M' m' x)(h:IsKer p n M m r V):IsKer p n M' m' r V:=by
  obtain ⟨k,E,ld,ld2,h1,h2,h3⟩:=h;exact ⟨k,E,ld,ld2,h1,fun x=>(h2 x).trans (e x),h3⟩
theorem Mw {p n:Nat}{V:Nat->Nat->Nat}{ld:Nat->Nat}(h:Rref p n V n ld){x:Nat->Int}(hk:Ker p n V n x){c:Nat}(hc:c<n):(p:Int)∣x c:=by
  have hid:=MI h.mono (fun i hi=>h.lt i hi);have:=hk c hc
  unfold dot at this
  rw [Cc (a:=c) hc] at this
  . have e:=h.one c hc
    rw [hid c hc] at e
    simpa [ci,e] using this
  . intro d hd hH
    have:=h.zero d c hd hc hH;rw [hid d hd] at this
    simp [ci,this]
theorem Ns {k:Nat}{ld:Nat->Nat}(c:Nat):∀ d,nf k ld (c+d)<=nf k ld c+d
  | 0=>Nat.le_refl _
  | d + 1 => by
    have:=Ns (k:=k) (ld:=ld) c d
    show nf k ld (c+d+1)<=_
    rw [nf];split<;>omega
theorem OA {p n m r:Nat}{M V:Nat->Nat->Nat}(hp:primeN p)(h:IsKer p n M m r V)(hr:r<=n)(hVp:∀ i,i<r->∀ c,c<n->V i c<p):(∀ x,Ker p n M m x)↔r=n:=by
  have hp2:=hp.two;obtain ⟨k,E,ld,ld2,h1,h2,h3,h4⟩:=h
  constructor
  . intro hZ
    have hk:k=0:=by
      refine Decidable.byContradiction fun hk=>?_;have hl:=h1.lt 0 (by omega);have:=(h2 (fun c=>(dl (ld 0) c:Int))).2 (hZ _) 0 (by omega)
      unfold dot at this
      rw [Cc hl (fun d _ hH=>by simp [dl,Ne.symm hH])] at this;have e1:=h1.one 0 (by omega);rw [show ci (E 0) (ld 0)*(dl (ld 0) (ld 0):Int)=1 by simp [ci,e1,dl]] at this;have:=Int.le_of_dvd (by omega) this
      omega
    subst hk;refine Decidable.byContradiction fun hH=>?_;have hVs:∀ x,Ker p n (fun i c=>if i<r/\c<n then V i c else 0) r x↔Ker p n V r x:=fun x=>
      ⟨fun q i hi=>by rw [← Ex (r:=fun c=>if i<r/\c<n then V i c else 0) (fun c hc=>if_pos ⟨hi,hc⟩)];exact q i hi,fun q i hi=>by rw [Ex (r:=fun c=>if i<r/\c<n then V i c else 0) (fun c hc=>if_pos ⟨hi,hc⟩)];exact q i hi⟩
    obtain ⟨x,⟨c,hc,hx⟩,hK⟩:=RH (M:=fun i c=>if i<r/\c<n then V i c else 0) hp (fun i c=>by show (if i<r/\c<n then V i c else 0)<p;split;(rename_i q;exact hVp i q.1 c q.2);omega) (show r<n by omega);have h5:=(h4 x).1 ((hVs x).1 hK) c hc (fun ⟨i,hi,_⟩=>absurd hi (by omega))
    unfold dot at h5
    rw [Cc hc (fun d hd hH=>by
      have e:sol p E 0 ld c d=0:=by unfold sol;rw [if_neg hH];rfl
      simp [ci,e])] at h5
    have e:sol p E 0 ld c c=1:=by unfold sol;rw [if_pos rfl]
    exact hx (by simpa [ci,e] using h5)
  . intro e x
    subst e;have hk:k=0:=by
      refine Decidable.byContradiction fun hk=>?_;have hl:=h1.lt 0 (by omega);have h6:nf k ld r<r:=by
        have a1:=Ns (k:=k) (ld:=ld) (ld 0+1) (r - (ld 0+1));rw [show ld 0+1+(r - (ld 0+1))=r by omega,DM ⟨0,by omega,rfl⟩] at a1;have a2:=JQ (k:=k) (ld:=ld) (ld 0)
        omega
      obtain ⟨S,hS,hSp⟩:=MD (p:=p) (n:=r) (k:=k) (E:=E) (ld:=ld) hp2;obtain ⟨y,⟨c,hc,hy⟩,hK⟩:=RH hp hSp h6;exact hy (Mw h3 ((h4 y).2 ((Pa hS).1 hK)) hc)
    subst hk;exact (h2 x).1 (fun i hi=>absurd hi (by omega))
end Go.Ech
namespace Go.Sw
open Go Go.RowKit
variable {P : Program}
section
variable {ops : List Oper} {Q : Exit -> Act -> World -> Prop} {n : Nat} {F : List (Nat × Value)} {G : Type} {S : G -> World -> Prop}
def PF (n:Nat) (F:List (Nat×Value)):List Oper->List Nat->Bool
  | [],_=>true
  | o :: r, seen => (match o.dst with
    | some d=>Nat.blt d n && (lk F d).isNone && !(Ct d seen) && PF n F r (d::seen)
    | none=>false)
def StepsQ {G:Type} (P:Program) (ops:List Oper) (k n:Nat) (F:List (Nat×Value)) (S:G->World->Prop) (φ:Facts G):List Oper->Nat->Prop
  | [],_=>True
  | o::r,i=>(∀ a w g,Fr n a F->S g w->PR ops k φ o g a w->if Region.wanted o (yielded ops.toArray a.tmps)=true then Does P o a w (After S φ i g w) else After S φ i g w undef w)/\StepsQ P ops k n F S φ r (i+1)
theorem StepsQ.get {k:Nat}{φ:Facts G}:∀ {l:List Oper} {i:Nat},StepsQ P ops k n F S φ l i->∀ (j:Nat) (o:Oper),l[j]? = some o->
    ∀ a w g,Fr n a F->S g w->PR ops k φ o g a w->if Region.wanted o (yielded ops.toArray a.tmps)=true then Does P o a w (After S φ (i+j) g w) else After S φ (i+j) g w undef w
  | [],_,_,j,o,h=>by simp at h
  | x :: r, i, hs, j, o, h => by
    cases j with
    | zero=>simp at h;subst h;exact hs.1
    | succ j=>have:=hs.2.get j o (by simpa using h);rwa [show i+1+j=i+(j+1) by omega] at this
end
end Go.Sw
namespace Go.Sw
open Go Go.RowKit Go.ChangeShapes Go.WideShapes Go.ChangeAt
def ArgB (w:World) (sl:Value) (m:Nat):Prop:=
  (∃ x c,sl = .slice x m c)/\(0<m->∃ (b o c:Nat) (F:Nat->Nat),sl = .slice (some ⟨b,o,none⟩) m c/\b<w.heap.size/\b ∉ ([]:List Nat)/\(∀ i,F i<=255)/\∀ i,i<m->w.cell? ⟨b,o+i*1,none⟩=some (.int .u8 (F i:Int)))
theorem ArgB.code {w:World}{sl:Value}{m:Nat}(h:ArgB w sl m)(hm:m<=4096):CodeB w [] sl m:=⟨hm,h.1,h.2⟩
section
variable {H : Type} {enc : TypeId × Value -> H} {P : Program} {w : World} {base : Nat} {spare : Nat -> Bool} {held : Bool}
theorem KF {t e:TypeId}{fuel:Nat}{v:Value}{y:DataW H×List MemPlace}(ht:P.underlying t=some (.slice e))(he:P.underlying e=some (.int .u8))(hc:P.cellsOf e=1)
    (h:DataW.trod enc P w base spare held fuel t [v]=some y):∃ m:Nat,ArgB w v m:=by
  rcases open_ints ht he hc h with ⟨e1,_⟩ | ⟨ad,len,cap,zs,e1,_,hle,hmx,hlen,_,hJ,hwf⟩
  . simp only [List.cons.injEq,and_true] at e1
    rw [e1];exact ⟨0,⟨none,0,rfl⟩,fun h=>absurd h (by omega)⟩
  . simp only [List.cons.injEq,and_true] at e1
    rw [e1];refine ⟨len,⟨some ad,cap,rfl⟩,fun hm=>?_⟩;have hzl:len<=zs.length:=by rw [hlen];split<;>omega
    have bd:∀ i,0<=zs.getD i 0/\zs.getD i 0<=255:=fun i=>by
      by_cases hi:i<zs.length
      . have:zs.getD i 0=zs[i]:=by simp [List.getD,hi]
        rw [this];exact wf_u8 (hwf _ (List.getElem_mem _))
      . have:zs.getD i 0=0:=by simp [List.getD,Nat.not_lt.1 hi]
        rw [this];exact ⟨by decide,by decide⟩
    have h0:=hJ 0 (by omega);rw [show ad.add 0=ad from rfl] at h0;obtain ⟨b,o,s⟩:=ad
    unfold World.cell? at h0
    cases hb:w.heap[b]? with
    | none=>simp [hb] at h0
    | some ob =>
      cases ob with
      | cells cs tt ck =>
        simp only [hb] at h0
        cases s with
        | some s=>simp at h0
        | none =>
          refine ⟨b,o,cap,fun i=>(zs.getD i 0).toNat,rfl,(Array.getElem?_eq_some_iff.1 hb).1,by simp,fun i=>by have h9:=bd i;show (zs.getD i 0).toNat<=255;omega,fun i hi=>?_⟩;have hi':=hJ i (by omega);rw [show (Addr.add ⟨b,o,none⟩ i)=⟨b,o+i,none⟩ from by unfold Addr.add;split<;>simp_all] at hi';rw [Nat.mul_one,hi'];have:=bd i;rw [Int.toNat_of_nonneg this.1]
      | _=>simp [hb] at h0
theorem open_by {r:Go.Reach}{b0:Nat}{t e:TypeId}{v:Value}{d:DataW H}{p:List MemPlace}(ht:P.underlying t=some (.slice e))(he:P.underlying e=some (.int .u8))(hc:P.cellsOf e=1)
    (hv:Value.okWide P w r b0 t v) (h:DataW.Trod enc P w base spare held t v d p):∃ m:Nat,ArgB w v m:=by
  obtain ⟨a,l,c,rfl⟩:=okWide_slice ht hv;obtain ⟨fuel,h⟩:=h;exact KF ht he hc h
end
end Go.Sw
namespace Go.Sw
theorem Iu:∀ (c:Char) (r:List Char),c≠' '->wordsSigns (c::r)=match wordsSigns r with
    | w::ws=>(c::w)::ws
    | []=>[[c]]:=by
  intro c r h;rw [wordsSigns.eq_def]
  split
  . simp_all
  . rename_i heq;simp at heq;exact absurd heq.1 h
  . rename_i heq;simp only [List.cons.injEq] at heq;obtain ⟨rfl,rfl⟩:=heq;rfl
theorem DL:∀ (w r:List Char),(∀ c∈w,c≠' ')->wordsSigns (w++' '::r)=w::wordsSigns r
  | [],r,_=>by simp [wordsSigns]
  | c :: w, r, h => by
    rw [List.cons_append,Iu c _ (h c (by simp)),DL w r (fun d hd=>h d (by simp [hd]))]
theorem Ps (s:List Char)(h:isSumSigns s=true):∀ c∈s,c≠' ':=by
  intro c hc he
  unfold isSumSigns at h
  simp only [Bool.and_eq_true,List.all_eq_true] at h;have:=h.2 c hc;subst he
  revert this;decide
theorem cutHead (L s r : List Char) (h : L = "harness".toList ++ ' ' :: (s ++ ' ' :: ("cut".toList ++ ' ' :: r))) (hs : isSumSigns s = true) :
    behindMainWord (wordsSigns L) = "cut".toList :: wordsSigns r := by
  rw [h, DL _ _ (by decide), DL _ _ (Ps s hs), DL _ _ (by decide)];have : ("harness".toList == "harness".toList || "harness".toList == "ownmain".toList) = true := by decide
  unfold behindMainWord
  show (if (("harness".toList == "harness".toList || "harness".toList == "ownmain".toList) && isSumSigns s) = true then _ else _) = _
  rw [if_pos (by rw [this,hs];rfl)]
theorem JN (R : List (List Char)) : stripLifts liftWords ("cut".toList :: R) = ([], "cut".toList :: R) := by
  kernel_rfl
theorem M3 (P : Program) (R : List (List Char)) (h : behindMainWord (wordsSigns P.initOrder.toList) = "cut".toList :: R) : P.headLifts = [] := by
  unfold Program.headLifts;rw [h,JN];rfl
theorem make_cut (P : Program) (R : List (List Char)) (h : behindMainWord (wordsSigns P.initOrder.toList) = "cut".toList :: R) : P.make = some .cut := by
  unfold Program.make;rw [h]
  have h1 : ("cut".toList == "gc".toList || "cut".toList == "spec".toList) = false := by decide
  have h2 : ("cut".toList == "cut".toList) = true := by decide
  simp only [h1,h2];rfl
theorem final_cut (P : Program) (R : List (List Char)) (h : behindMainWord (wordsSigns P.initOrder.toList) = "cut".toList :: R) : P.liftsFinal = false := by
  unfold Program.liftsFinal;rw [M3 P R h,h];kernel_rfl
theorem enter_cut (P : Program) (R : List (List Char)) (h : behindMainWord (wordsSigns P.initOrder.toList) = "cut".toList :: R)
    (hl:P.laysLater=false) (hb:P.bearsReflect=false) (hd:P.doorFits []=true):P.mayEnter=true:=by
  unfold Program.mayEnter;rw [h]
  simp only [JN,hl,hb,hd]
  kernel_rfl
end Go.Sw
