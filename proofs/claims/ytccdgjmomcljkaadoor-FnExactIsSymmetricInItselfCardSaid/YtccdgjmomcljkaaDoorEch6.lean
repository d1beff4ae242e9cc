import Derived.Test.YtccdgjmomcljkaaDoorSw9
import Derived.Test.YtccdgjmomcljkaaDoorSw21
import Derived.ReadAgain
import Derived.ChangeSlices
import Derived.Test.YtccdgjmomcljkaaDoorEch5
import Derived.Test.YtccdgjmomcljkaaDoorSw19
set_option linter.unusedVariables false
set_option linter.unusedSimpArgs false
namespace Go.Sw
open Go Go.RowKit Go.ChangeShapes Go.WideShapes Go.ChangeAt
def numI (m:Nat) (g:Nat→Int):Array Value:=fnC m (fun c=>.int .i64 (g c))
section
variable {m q : Nat} {f g : Nat → Int}
end
def ArgSl (w:World) (sl:Value) (m:Nat) (g:Nat→Int):Prop:=
  (∃ x c,sl = .slice x m c)∧(0<m→∃ b o c,sl = .slice (some ⟨b,o,none⟩) m c∧∀ i,i<m→w.cell? ⟨b,o+i*1,none⟩=some (.int .i64 (g i)))
section
variable {P : Program} {n : Nat} {F : List (Nat × Value)} {a : Act} {w : World} {d : Option Tmp} {t : TypeId} {pos : String} {af : Array Edge} {gd : Option (Nat × Bool)} {x : Operand}
end
section
variable {H : Type} {enc : TypeId × Value → H} {P : Program} {w w' : World}
theorem sameAt_ext (hx:Ext w w'){p:MemPlace}(hp:p.block<w.heap.size):w.sameAt w' p:=by
  have h:=hx.block p.block hp
  cases p with
  | cell b off =>
    show w'.cell? ⟨b,off,none⟩=w.cell? ⟨b,off,none⟩
    simp only [MemPlace.block] at h
    unfold World.cell?
    simp only [h]
  | map b=>exact h
variable {base : Nat} {spare : Nat → Bool} {held : Bool}
def tenFs (fs:Array Field) (ti ts:TypeId):Bool:=(List.range 5).all fun i=>match fs[i]? with
  | some f=>Nat.beq f.offset i && Nat.beq f.type (if i<4 then ti else ts)
  | none=>false
end
section
variable {P : Program} {X : List Nat} {w0 w : World} {L : Own} {D : Froz} {n : Nat} {F : List (Nat × Value)} {a : Act} {d : Option Tmp} {T : TypeId} {t : TypeId} {pos : String} {af : Array Edge} {gd : Option (Nat × Bool)} {x y : Operand}
theorem d_make1b {len by':Nat}{e:TypeId}{z:Value}(k:Nat)(hM:MemX X w0 w L D)(hF:Fr n a F)(hT:slI P T=some (e,some z,1,by'))(hz:z.cells = #[z])(hx:look F x=some (.int .i64 (len:Int)))(hy:look F y=some (.int .i64 (len:Int)))(hl:len<10000000)(hb:by'<1000) :
    Does P ⟨d,.makeSlice T x y,t,pos,af,gd⟩ a w (fun u w'=>∃ b,u = .slice (some ⟨b,0,none⟩) len len∧MemX X w0 w' (L.set k (some (b,fnC len (fun _=>z)))) D∧Ext w w'):=
  ⟨fun K Q hk=>by
    have:=hk _ (w.alloc (.cells (fnC len (fun _=>z)) e)) ⟨w.heap.size,rfl,hM.fill (Ext.alloc _ _) k (Blk.new _ _ _) (Nat.le_refl _),Ext.alloc _ _⟩
    unfold slI at hT
    cases hu:P.underlying T with
    | none=>simp [hu] at hT
    | some dd =>
      cases dd<;>simp [hu] at hT
      rename_i el
      obtain ⟨inf,hinf,rfl,hz0,hsz,hby⟩:=hT
      have hmul:inf.bytes*len≤1000*10000000:=Nat.mul_le_mul (by omega) (by omega)
      have hmul2:(inf.bytes:Int)*(len:Int)≤281474976710656:=by
        have:((inf.bytes*len:Nat):Int)≤281474976710656:=by omega
        rwa [Int.natCast_mul] at this
      have hrun:=run_make (P:=P) w T el inf z hu hinf hz0 .i64 .i64 (len:Int) (len:Int) (by omega) (Int.le_refl _) hmul2 (by omega);have ec:madeCells z.cells (len*inf.size)=fnC len (fun _=>z):=by
        rw [hsz,hz,Nat.mul_one]
        apply fnC_ext (size_madeCells _ _)
        intro i hi
        unfold madeCells
        rw [Array.getElem?_map,Array.getElem?_range,if_pos hi]
        simp [Nat.mod_one]
      simp only [Int.toNat_natCast,ec] at hrun
      unfold Oper.wp execOp
      simp only [hF.eval hx,hF.eval hy,Sem.run_bind,hrun,Result.andThen_ok,Sem.run_pure];exact this⟩
end
abbrev TenOutI (w w':World) (p n i o:Int) (m:Nat) (g:Nat→Int) (v:Value):Prop:=
  ∃ b,v = .agg (tenC p n i o (.slice (some ⟨b,0,none⟩) m m))∧w.heap.size≤b∧Blk w' b (numI m g)
end Go.Sw
namespace Go.Sw
open Go Go.RowKit
inductive FactE where
  | val (v:Value)
  | frz (c:Array Value) (mk:Nat→Value)
  | own (mk:Nat→Value)
def factsE (kt:Nat) (l:List FactE):Facts (Own×Froz):=fun i g u _=>match l[i]? with
  | some (.val v)=>u=v
  | some (.frz c mk)=>∃ b,(b,c)∈g.2∧u=mk b
  | some (.own mk)=>∃ b cs,u=mk b∧g.1[kt]? = some (some (b,cs))
  | none=>True
def inE (c:Option (Array Value)) (b:Nat) (E:Froz):Prop:=match c with
  | none=>True
  | some c=>(b,c)∈E
def ParE (X:List Nat) (w0:World) (D:Froz) (L0:Own) (kt:Nat) (csO:Array Value) (c3:Option (Array Value)) (csN:Nat→Array Value) (bb:Bool) (g:Own×Froz) (w:World):Prop:=
  (MemX X w0 w g.1 (g.2++D)∧Same [kt] L0 g.1)∧∀ b cs,g.1[kt]? = some (some (b,cs))→(bb=false→cs=csO)∧(bb=true→∃ x,inE c3 x g.2∧cs=csN x)
section
variable {P : Program} {X : List Nat} {w0 w : World} {D : Froz} {L0 : Own} {g : Own × Froz} {kt : Nat} {csO : Array Value} {c3 : Option (Array Value)} {csN : Nat → Array Value} {bb : Bool} {l : List FactE} {i : Nat} {o : Oper} {a : Act}
def ownOnly:List FactE→Nat→Nat→Bool
  | [],_,_=>true
  | .own _::r,i,s=>Nat.beq s i && ownOnly r i (s+1)
  | _::r,i,s=>ownOnly r i (s+1)
end
end Go.Sw
namespace Go.Sw
open Go Go.RowKit
theorem vecs1_get {v:Nat→Nat}(q:Nat)(hq:q<1*6):(vecsC 1 (vAtL [v]))[0+q]? = some (.int .u8 (v q:Int)):=by
  unfold vecsC
  rw [fnC_get (by omega),show (0+q) / 6=0 by omega,show (0+q)%6=q by omega]
  rfl
theorem Sl.snoc6 {u:Value}{e:Option (Nat×Array Value)}{N:Nat}{F G:Nat→Value}(h:Sl 6 u e (N+1) (fun i=>if i<N*6 then F i else G (i - N*6)))(hG:∀ q,q<6→G q=F (N*6+q)):Sl 6 u e (N+1) F:=
  h.congr fun i hi=>by
    by_cases h1:i<N*6
    · rw [if_pos h1]
    · rw [if_neg h1,hG _ (by omega),show N*6+(i - N*6)=i by omega]
theorem SlAt.vec {u:Value}{e:Option (Nat×Array Value)}{N b cap:Nat}{cs:Array Value}{V:Nat→Nat→Nat}(h:SlAt 6 u e N b cap cs (fun c=>.int .u8 (V (c / 6) (c%6):Int)))(i:Nat)(hi:i<N):cs.extract (i*6) (i*6+6)=vecC (V i):=
  extract_ext rfl (by rw [h.sz];have:=h.le;omega) fun q hq=>by
    rw [h.get _ (by omega),show (i*6+q) / 6=i by omega,show (i*6+q)%6=q by omega]
end Go.Sw
namespace Go.Sw
open Go Go.RowKit
def rowP (N K:Nat) (f:Nat→Nat) (x:Nat→Value):Array Value:=fnC K (fun c=>if c<N then .int .u8 (f c:Int) else x c)
section
variable {N K o : Nat} {f g : Nat → Nat} {x : Nat → Value}
end
structure RowsLP (L:Own) (N m:Nat) (κ:Nat→Nat) (Xs:Nat→Nat→Value) (γ pos:Nat→Nat) (M:Nat→Nat→Nat):Prop where
  at_:∀ i,i<m→L[pos i]? = some (some (γ i,rowP N (κ (γ i)) (M i) (Xs (γ i))))
  inj:∀ i j,i<m→j<m→pos i=pos j→i=j
  ne0:∀ i,i<m→pos i≠0
namespace RowsLP
variable {L : Own} {N m : Nat} {κ : Nat → Nat} {Xs : Nat → Nat → Value} {γ pos : Nat → Nat} {M : Nat → Nat → Nat}
end RowsLP
def rowsLP0 (b0:Nat) (cs0:Array Value) (N m:Nat) (κ:Nat→Nat) (Xs:Nat→Nat→Value) (γ:Nat→Nat) (M:Nat→Nat→Nat):Own:=some (b0,cs0)::(List.range m).map (fun i=>some (γ i,rowP N (κ (γ i)) (M i) (Xs (γ i))))
end Go.Sw
namespace Go.Ech
open Go.Sw
theorem sI_split (f:Nat→Int)(n m:Nat):sI f (n+m)=sI f n+sI (fun i=>f (n+i)) m:=by
  induction m with
  | zero=>simp [sI]
  | succ m ih =>
    show sI f (n+m+1)=_
    simp only [sI];rw [ih];omega
def augI (F:Nat→Nat→Nat) (i c:Nat):Nat:=if c<6 then F i c else if c=6+i then 1 else 0
def FullK (p n:Nat) (F:Nat→Nat→Nat):Prop:=∃ E ld,Rref p 6 E n ld∧∀ x,Ker p 6 E n x↔Ker p 6 F n x
structure IsCop (p n:Nat) (F G:Nat→Nat→Nat):Prop where
  lt:∀ i j,G i j<p
  out:∀ i j,n≤i∨n≤j→G i j=0
  sol:∀ i,i<n→∀ j,j<n→(p:Int)∣sI (fun k=>(F i k:Int)*(G k j:Int)) n - (dl i j:Int)
theorem inv_ex {p u:Nat}(hp:primeN p)(hu:u<p)(h0:u≠0):∃ v,u*v%p=1:=by
  have key:∀ q:Nat,(∀ a,a<q→a≠0→∃ v,v<q∧a*v%q=1)→p=q→∃ v,u*v%p=1:=fun q hq e=>by
    subst e;obtain ⟨v,_,h⟩:=hq u hu h0;exact ⟨v,h⟩
  rcases hp with e | e | e | e | e | e
  · exact key 2 (by decide) e
  · exact key 3 (by decide) e
  · exact key 5 (by decide) e
  · exact key 7 (by decide) e
  · exact key 11 (by decide) e
  · exact key 13 (by decide) e
theorem first_ne {o:Nat→Nat}{N:Nat}(h:¬ ∀ c,c<N→o c=0):∃ t,t<N∧o t≠0∧∀ c,c<t→o c=0:=by
  induction N with
  | zero=>exact absurd (fun c hc=>absurd hc (by omega)) h
  | succ N ih =>
    by_cases e:∀ c,c<N→o c=0
    · refine ⟨N,by omega,fun h0=>h fun c hc=>?_,e⟩
      by_cases ec:c=N
      · rw [ec,h0]
      · exact e c (by omega)
    · obtain ⟨t,h1,h2⟩:=ih e;exact ⟨t,by omega,h2⟩
theorem own_all {p N k:Nat}{E:Nat→Nat→Nat}{ld r:Nat→Nat}(hp:0<p)(h:Rref p N E k ld)(hr:∀ c,r c<p):∃ o,Own p N E k ld r o k∧∀ c,o c<p:=by
  have:∀ j,j≤k→∃ o,Own p N E k ld r o j∧∀ c,o c<p:=by
    intro j
    induction j with
    | zero=>intro _;exact ⟨r,⟨fun c _=>hr c,fun i hi=>absurd hi (by omega),fun x _=>Iff.rfl⟩,hr⟩
    | succ j ih=>intro hj;obtain ⟨o,h1,_⟩:=ih (by omega);exact ⟨_,h1.step hp h (by omega),fun c=>lsM_lt hp⟩
  exact this k (Nat.le_refl _)
theorem rref_exists {p N m:Nat}{M:Nat→Nat→Nat}(hp:primeN p)(hM:∀ i c,M i c<p):∃ k E ld,Rref p N E k ld∧k≤m∧∀ x,Ker p N E k x↔Ker p N M m x:=by
  have hp0:0<p:=by have:=hp.two;omega
  induction m with
  | zero=>exact ⟨0,M,fun _=>0,⟨fun i hi=>absurd hi (by omega),fun i j _ hi=>absurd hi (by omega),fun i hi=>absurd hi (by omega),fun i hi=>absurd hi (by omega),fun i j hi=>absurd hi (by omega),fun i hi=>absurd hi (by omega)⟩,Nat.le_refl _,fun x=>Iff.rfl⟩
  | succ m ih =>
    obtain ⟨k,E,ld,hR,hk,hK⟩:=ih;obtain ⟨o,ho,ho2⟩:=own_all hp0 hR (hM m)
    by_cases hz:∀ c,c<N→o c=0
    · refine ⟨k,E,ld,hR,by omega,fun x=>?_⟩
      rw [Ker.snoc,← hK];exact ⟨fun h=>⟨h,(ho.ker x h).1 (dot_zero hz)⟩,fun h=>h.1⟩
    · obtain ⟨t,ht,h0,hlow⟩:=first_ne hz
      obtain ⟨v,hv⟩:=inv_ex hp (ho2 t) h0;have hne:∀ i,i<k→ld i≠t:=fun i hi e=>h0 (by rw [← e];exact ho.zero i hi);obtain ⟨b1,b2,b3⟩:=below_spec hR hne;have f:Fits p N E k ld (fun c=>o c*v%p) t (below k ld t):=
        ⟨ht,hv,fun c hc=>by simp [hlow c hc],fun c _=>Nat.mod_lt _ hp0,fun i hi=>by simp [ho.zero i hi],b1,b2,b3⟩
      refine ⟨k+1,_,_,hR.insert hp0 f,by omega,fun x=>?_⟩;rw [ker_insert hp0 b1,Ker.snoc,← hK];have hsc:(p:Int)∣dot N (ci fun c=>o c*v%p) x↔(p:Int)∣dot N (ci o) x:=scale_ker (v:=v) (u:=o t) (fun c _=>rfl) hv;rw [hsc];exact ⟨fun h=>⟨h.1,(ho.ker x h.1).1 h.2⟩,fun h=>⟨h.1,(ho.ker x h.1).2 h.2⟩⟩
end Go.Ech
