import Derived.Test.YtkcneleabbjkaaaH7
set_option linter.unusedVariables false
set_option linter.unusedSimpArgs false
namespace Go.Proofs.Ytkcneleabbjkaaa
open Go Go.RowKit Go.Sw Go.Ech
open Classical
theorem CallsR.val {P:Program}{f:FuncId}{args:Array Value}{w:World}{v v':Value}(h:CallsR P f args w (fun u _=>u=v))(e:v=v'):CallsR P f args w (fun u _=>u=v'):=e ▸ h
def Lq (p n:Nat) (T:Nat→Nat→Nat→Nat):Prop:=∀ i,i<n→∀ j,j<n→∀ k,k<n→FR 6 (timesS p n T (T i j) (fun c=>if c=k then 1 else 0)) (timesS p n T (fun c=>if c=i then 1 else 0) (T j k))
def M8 (p n:Nat) (T:Nat→Nat→Nat→Nat):Prop:=Lq p n T∧∃ u,UnitI p n T u
def trunc (n:Nat) (T:Nat→Nat→Nat→Nat) (i j k:Nat):Nat:=if i<n∧j<n∧k<n then T i j k else 0
def Gq (p n:Int) (T:Nat→Nat→Nat→Nat) (f:Nat→Nat):Prop:=Cr p n T f∧M8 p.toNat n.toNat (trunc n.toNat T)
theorem G2 {f:Nat→Nat}{n:Nat}(h:∀ i,i<n→f i=0):sumTo f n=0:=by
  induction n with
  | zero=>rfl
  | succ n ih=>simp only [sumTo];rw [ih (fun i hi=>h i (by omega)),h n (by omega)]
theorem G1 {p n c:Nat}{T:Nat→Nat→Nat→Nat}{v u:Nat→Nat}(hT0:∀ i j k,n≤k→T i j k=0)(hc:n≤c):timesV p n T v u c=0:=by
  unfold timesV prodI
  rw [G2 (fun i _=>G2 fun j _=>by rw [hT0 i j c hc];simp)]
  simp
theorem Iz {p n:Nat}{T:Nat→Nat→Nat→Nat}(hT0:∀ i j k,n≤k→T i j k=0)(v u:Nat→Nat):timesV p n T v u=timesS p n T v u:=by
  funext c
  unfold timesS
  by_cases h:c<n
  · rw [if_pos h]
  · rw [if_neg h,G1 hT0 (by omega)]
theorem KJ {p n:Nat}{T:Nat→Nat→Nat→Nat}(hT0:∀ i j k,n≤k→T i j k=0):M6 p n T↔Lq p n T:=by
  unfold M6 Mg M5 Lq
  simp only [Iz hT0];exact ⟨fun h i hi j hj k hk=>h j hj i hi k hk,fun h j hj i hi k hk=>h i hi j hj k hk⟩
theorem L8 {p n:Int}{T:Nat→Nat→Nat→Nat}{i j:Nat}(hp:0<p):I3 p n T i j↔FZ p n T i j:=by
  unfold I3 FZ
  by_cases h:(i:Int)≥n∨(j:Int)≥n
  · rw [if_pos h]
    constructor
    · intro h1 c hc
      have h2:FR 6 (T i j) (fun _=>0):=Classical.byContradiction fun h3=>h1 (.inl ⟨by omega,h3⟩);have h4:=h2 c hc
      dsimp only at h4
      unfold Fw;omega
    · intro h1 h2
      have h0:∀ c,c<6→T i j c=0:=fun c hc=>by have:=h1 c hc;unfold Fw at this;omega
      rcases h2 with ⟨_,h3⟩ | h3
      · exact h3 h0
      · exact h3 fun c hc=>by have:=h0 c hc;unfold Fw;omega
  · rw [if_neg h]
    constructor
    · intro h1;exact Classical.byContradiction fun h3=>h1 (.inr h3)
    · rintro h1 (⟨h2,_⟩ | h2)
      · exact h2 ⟨by omega,by omega⟩
      · exact h2 h1
theorem Hp {p n:Int}{T:Nat→Nat→Nat→Nat}(hp:0<p):Ii 6 (I3 p n T)↔Ii 6 (FZ p n T):=by
  unfold Ii
  simp only [L8 hp]
theorem Cs {p:Int}(h:BN p):0<p:=by unfold BN at h;omega
theorem FP {p n:Int}{T:Nat→Nat→Nat→Nat}{f:Nat→Nat}(h:Cr p n T f):AJ p n T f=AJ p n (trunc n.toNat T) f:=by
  obtain ⟨_,hn,_,hT⟩:=h
  unfold AJ
  refine BV fun c hc=>?_
  by_cases h0:c=0
  · rw [if_pos h0,if_pos h0]
  · rw [if_neg h0,if_neg h0]
    by_cases h1:c=1
    · rw [if_pos h1,if_pos h1]
    · rw [if_neg h1,if_neg h1]
      by_cases h2:c<218
      · rw [if_pos h2,if_pos h2]
        have:=hT ((c - 2) / 36) (by omega) ((c - 2) / 6%6) (by omega) ((c - 2)%6) (by omega);have e:trunc n.toNat T ((c - 2) / 36) ((c - 2) / 6%6) ((c - 2)%6)=T ((c - 2) / 36) ((c - 2) / 6%6) ((c - 2)%6):=by
          unfold trunc;split
          · rfl
          · rename_i hno
            unfold Fw at this
            split at this<;>omega
        rw [e]
      · rw [if_neg h2,if_neg h2]
theorem G0 {p n:Int}{T:Nat→Nat→Nat→Nat}{f:Nat→Nat}(h:Cr p n T f)(i j k:Nat):trunc n.toNat T i j k<p.toNat:=by
  obtain ⟨hp,hn,_,hT⟩:=h;have hp0:=Cs hp
  unfold trunc;split
  · rename_i hh
    have:=hT i (by omega) j (by omega) k (by omega)
    unfold Fw at this
    omega
  · omega
theorem F6 {n:Nat}{T:Nat→Nat→Nat→Nat}(i j k:Nat)(h:n≤k):trunc n T i j k=0:=by unfold trunc;rw [if_neg (by omega)]
theorem Ed {p n:Int}{T:Nat→Nat→Nat→Nat}{f:Nat→Nat}(h:Cr p n T f):Cr p n (trunc n.toNat T) f:=by
  refine ⟨h.1,h.2.1,h.2.2.1,fun i hi j hj c hc=>?_⟩;have h1:=h.2.2.2 i hi j hj c hc;have hp:=Cs h.1
  by_cases e:i<n.toNat∧j<n.toNat∧c<n.toNat
  · have e2:trunc n.toNat T i j c=T i j c:=by unfold trunc;rw [if_pos e]
    rw [e2];exact h1
  · have e2:trunc n.toNat T i j c=0:=by unfold trunc;rw [if_neg e]
    rw [e2];unfold Fw;omega
theorem GB {p:Int}(h:BN p):primeN p.toNat:=by unfold BN at h;unfold primeN;omega
theorem JC (p n:Int)(T:Nat→Nat→Nat→Nat)(f:Nat→Nat)(w:World)(hT:∀ i j k,T i j k≤255)(hf:∀ i,f i≤255)(hsh:¬ Cr p n T f) :
    CallsR Try.prog 95 #[.agg (AJ p n T f)] w (fun res _=>res = .bool false):=by
  refine Ak [.agg (AJ p n T f)] Try.func95 rfl Try.ntmps95 rfl fun a hF=>?_;have hM:Af w w [none,none] []:=MemX.start w 2;change Fr 56 a [(0,.agg (AJ p n T f))] at hF;refine sr<|Am hF (Au 0 hM hF rfl) rfl ?_;rintro _ w' a ⟨b1,rfl,hM,-⟩ hF;change Af w w' [some (b1,AJ p n T f),none] [] at hM;refine ag hF rfl rfl fun a hF=>nt<|sq<|sr<|st hF (AK AU hF rfl (hM.row 0 rfl) (by simp only [AR]<;>omega) (whole AQ)) rfl fun a hF=>Am hF (Aa Try.call151 hF (.cons rfl .nil) ((CallsR.val (Gb p n T f _ (fun _ _ _=>hT _ _ _) (fun _=>hf _)) (congrArg Value.bool (decide_eq_false hsh))))) rfl ?_;rintro _ w' a ⟨hx,rfl⟩ hF;have hM:=hM.ext hx;refine st hF (CF (b:=false) hF rfl) rfl fun a hF=>nt<|GN hF rfl<|sr<|ag hF rfl rfl fun a hF=>nt<|wp_ret<|tR<|BC rfl hF.defers (Ab hF rfl) ⟨_,rfl,hM.below,?_⟩
  show _=_
  rfl
theorem JB (p n:Nat)(T:Nat→Nat→Nat→Nat)(f:Nat→Nat)(w:World)(hp:primeN p)(hn0:0<n)(hn:n≤6)(hTp:∀ i j k,T i j k<p)(hT0:∀ i j k,n≤k→T i j k=0)(hf:∀ i,f i≤255)(hsh:Cr (p:Int) (n:Int) T f) :
    CallsR Try.prog 95 #[.agg (AJ (p:Int) (n:Int) T f)] w (fun res _=>res = .bool (decide (M8 p n T))):=by
  refine Ak [.agg (AJ (p:Int) (n:Int) T f)] Try.func95 rfl Try.ntmps95 rfl fun a hF=>?_;have hM:Af w w [none,none] []:=MemX.start w 2;change Fr 56 a [(0,.agg (AJ (p:Int) (n:Int) T f))] at hF;have hp2:=hp.two;have hp13:=hp.le;have hT:∀ i j k,T i j k≤255:=fun i j k=>by have:=hTp i j k;omega
  refine sr<|Am hF (Au 0 hM hF rfl) rfl ?_;rintro _ w' a ⟨b1,rfl,hM,-⟩ hF;change Af w w' [some (b1,AJ (p:Int) (n:Int) T f),none] [] at hM;refine ag hF rfl rfl fun a hF=>nt<|sq<|sr<|st hF (AK AU hF rfl (hM.row 0 rfl) (by simp only [AR]<;>omega) (whole AQ)) rfl fun a hF=>Am hF (Aa Try.call151 hF (.cons rfl .nil) ((CallsR.val (Gb (p:Int) (n:Int) T f _ (fun _ _ _=>hT _ _ _) (fun _=>hf _)) (congrArg Value.bool (decide_eq_true hsh))))) rfl ?_;rintro _ w' a ⟨hx,rfl⟩ hF;have hM:=hM.ext hx;refine st hF (CF (b:=true) hF rfl) rfl fun a hF=>nt<|DT hF rfl<|wp_skip<|tN<|sq<|sr<|ag hF rfl rfl fun a hF=>nt<|wp_block ?_;change Af w _ [some (b1,AJ (p:Int) (n:Int) T f),none] [] at hM;refine Az (fun (kk:Nat) a w'=>kk≤n∧(∀ i,i<kk→∀ j,j<n→∀ k,k<n→FR 6 (timesS p n T (T i j) (fun c=>if c=k then 1 else 0)) (timesS p n T (fun c=>if c=i then 1 else 0) (T j k)))∧Fr 56 a [(1,ptr b1 (0)),(10,.bool (false)),(3,.int .i64 (kk:Int))]∧Af w w' [some (b1,AJ (p:Int) (n:Int) T f),none] []) (fun kk=>n - kk) 0 ?_ ?_
  · refine ⟨by omega,fun i hi=>absurd hi (by omega),hF.sub _ (by repeat' constructor),?_⟩
    exact hM
  clear hF hM;rintro gi a w' ⟨hgi,hinv1,hF,hM⟩;refine sq<|sr<|mv hF rfl rfl fun a hF=>st hF (AN Ai hF rfl) rfl fun a hF=>st hF (AZ Ae hF rfl (hM.row 0 rfl) (A5 (by omega))) rfl fun a hF=>st hF (A4 hF rfl rfl) rfl fun a hF=>nt<|Ad hF rfl (fun h3=>?_) (fun h3=>?_)
  · refine wp_skip ?_
    refine tN<|sq<|wp_block<|sr<|ag hF rfl rfl fun a hF=>nt<|wp_block ?_;change Af w _ [some (b1,AJ (p:Int) (n:Int) T f),none] [] at hM;refine Az (fun (kk:Nat) a w'=>kk≤n∧(∀ j,j<kk→∀ k,k<n→FR 6 (timesS p n T (T gi j) (fun c=>if c=k then 1 else 0)) (timesS p n T (fun c=>if c=gi then 1 else 0) (T j k)))∧Fr 56 a [(1,ptr b1 (0)),(10,.bool (false)),(3,.int .i64 (gi:Int)),(11,.int .i64 (gi:Int)),(12,ptr b1 (0+1)),(13,.int .i64 (n:Int)),(14,.bool (decide (((gi:Int):Int)<(n:Int)))),(4,.int .i64 (kk:Int))]∧Af w w' [some (b1,AJ (p:Int) (n:Int) T f),none] []) (fun kk=>n - kk) 0 ?_ ?_
    · refine ⟨by omega,fun i hi=>absurd hi (by omega),hF.sub _ (by repeat' constructor),?_⟩
      exact hM
    clear hF hM;rintro gj a w' ⟨hgj,hinv2,hF,hM⟩;refine sq<|sr<|mv hF rfl rfl fun a hF=>st hF (AN Ai hF rfl) rfl fun a hF=>st hF (AZ Ae hF rfl (hM.row 0 rfl) (A5 (by omega))) rfl fun a hF=>st hF (A4 hF rfl rfl) rfl fun a hF=>nt<|Ad hF rfl (fun h4=>?_) (fun h4=>?_)
    · refine wp_skip ?_
      refine tN<|sq<|wp_block<|sr<|ag hF rfl rfl fun a hF=>nt<|wp_block ?_;change Af w _ [some (b1,AJ (p:Int) (n:Int) T f),none] [] at hM;refine Az (fun (kk:Nat) a w'=>kk≤n∧(∀ k,k<kk→FR 6 (timesS p n T (T gi gj) (fun c=>if c=k then 1 else 0)) (timesS p n T (fun c=>if c=gi then 1 else 0) (T gj k)))∧Fr 56 a [(1,ptr b1 (0)),(10,.bool (false)),(3,.int .i64 (gi:Int)),(11,.int .i64 (gi:Int)),(12,ptr b1 (0+1)),(13,.int .i64 (n:Int)),(14,.bool (decide (((gi:Int):Int)<(n:Int)))),(4,.int .i64 (gj:Int)),(17,.int .i64 (gj:Int)),(18,ptr b1 (0+1)),(19,.int .i64 (n:Int)),(20,.bool (decide (((gj:Int):Int)<(n:Int)))),(5,.int .i64 (kk:Int))]∧Af w w' [some (b1,AJ (p:Int) (n:Int) T f),none] []) (fun kk=>n - kk) 0 ?_ ?_
      · refine ⟨by omega,fun i hi=>absurd hi (by omega),hF.sub _ (by repeat' constructor),?_⟩
        exact hM
      clear hF hM;rintro gk a w' ⟨hgk,hinv3,hF,hM⟩;refine sq<|sr<|mv hF rfl rfl fun a hF=>st hF (AN Ai hF rfl) rfl fun a hF=>st hF (AZ Ae hF rfl (hM.row 0 rfl) (A5 (by omega))) rfl fun a hF=>st hF (A4 hF rfl rfl) rfl fun a hF=>nt<|Ad hF rfl (fun h5=>?_) (fun h5=>?_)
      · refine wp_skip ?_
        refine tN<|sq<|wp_block<|sq<|BY 19 [] [.val (.agg (AJ (p:Int) (n:Int) T f)),.val (.int .i64 (gi:Int)),.val (.int .i64 (gj:Int)),.val (ptr b1 (0+2)),.val (ptr b1 (0+2+(gi)*36)),.val (ptr b1 (0+2+(gi)*36+(gj)*6)),.val (.agg (AI (T (gi) (gj)))),.val (.int .i64 (gk:Int)),.val (.agg (AI (fun c=>if c=gk then 1 else 0))),.val (.agg (AI (timesS p n T ((T (gi) (gj))) ((fun c=>if c=gk then 1 else 0))))),.val (.agg (AJ (p:Int) (n:Int) T f)),.val (.int .i64 (gi:Int)),.val (.agg (AI (fun c=>if c=gi then 1 else 0))),.val (.int .i64 (gj:Int)),.val (.int .i64 (gk:Int)),.val (ptr b1 (0+2)),.val (ptr b1 (0+2+(gj)*36)),.val (ptr b1 (0+2+(gj)*36+(gk)*6)),.val (.agg (AI (T (gj) (gk))))] Bc rfl hF rfl hM ⟨fun a w gG hF hS hd=>by have hM:=hS.mem rfl;exact AM hS rfl (AK AU hF rfl (hM.row 0 rfl) (by simp only [AR]<;>omega) (whole AQ)),fun a w gG hF hS hd=>by exact BP hS rfl hF rfl,fun a w gG hF hS hd=>by exact BP hS rfl hF rfl,fun a w gG hF hS hd=>by exact AM hS rfl (AN BD hF rfl),fun a w gG hF hS hd=>by have hF:=hF.ext1 30 (hd 1 rfl rfl);have hF:=hF.ext1 32 (hd 3 rfl rfl);exact AM hS rfl (AS BT hF rfl rfl rfl (by omega)),fun a w gG hF hS hd=>by have hF:=hF.ext1 31 (hd 2 rfl rfl);have hF:=hF.ext1 33 (hd 4 rfl rfl);exact AM hS rfl (AS BU hF rfl rfl rfl (by omega)),fun a w gG hF hS hd=>by have hF:=hF.ext1 34 (hd 5 rfl rfl);have hM:=hS.mem rfl;exact AM hS rfl (AK CK hF rfl (hM.row 0 rfl) (by simp only [AR]<;>omega) (DU (gi) (gj) (by omega) (by omega) (by omega) (by omega))),fun a w gG hF hS hd=>by exact BP hS rfl hF rfl,fun a w gG hF hS hd=>by have hF:=hF.ext1 36 (hd 7 rfl rfl);exact BJ (by repeat constructor) hS rfl (Aa Try.call143 hF (.cons rfl .nil) (Bo (gk) _ (by omega))),fun a w gG hF hS hd=>by have hF:=hF.ext1 29 (hd 0 rfl rfl);have hF:=hF.ext1 35 (hd 6 rfl rfl);have hF:=hF.ext1 37 (hd 8 rfl rfl);exact BJ (by repeat constructor) hS rfl (Aa Try.call89 hF (.cons rfl (.cons rfl (.cons rfl .nil))) (Bx p n T f ((T (gi) (gj))) ((fun c=>if c=gk then 1 else 0)) _ (by omega) (by omega) (by omega) (fun _ _ _=>hT _ _ _) (fun _=>by first | exact hv _ | exact hu _ | exact hT _ _ _ | exact hf _ | omega | (split<;>omega) | (dsimp only;split<;>omega) | assumption) (fun _=>by first | exact hv _ | exact hu _ | exact hT _ _ _ | exact hf _ | omega | (split<;>omega) | (dsimp only;split<;>omega) | assumption))),fun a w gG hF hS hd=>by have hM:=hS.mem rfl;exact AM hS rfl (AK AU hF rfl (hM.row 0 rfl) (by simp only [AR]<;>omega) (whole AQ)),fun a w gG hF hS hd=>by exact BP hS rfl hF rfl,fun a w gG hF hS hd=>by have hF:=hF.ext1 40 (hd 11 rfl rfl);exact BJ (by repeat constructor) hS rfl (Aa Try.call143 hF (.cons rfl .nil) (Bo (gi) _ (by omega))),fun a w gG hF hS hd=>by exact BP hS rfl hF rfl,fun a w gG hF hS hd=>by exact BP hS rfl hF rfl,fun a w gG hF hS hd=>by exact AM hS rfl (AN BD hF rfl),fun a w gG hF hS hd=>by have hF:=hF.ext1 42 (hd 13 rfl rfl);have hF:=hF.ext1 44 (hd 15 rfl rfl);exact AM hS rfl (AS BT hF rfl rfl rfl (by omega)),fun a w gG hF hS hd=>by have hF:=hF.ext1 43 (hd 14 rfl rfl);have hF:=hF.ext1 45 (hd 16 rfl rfl);exact AM hS rfl (AS BU hF rfl rfl rfl (by omega)),fun a w gG hF hS hd=>by have hF:=hF.ext1 46 (hd 17 rfl rfl);have hM:=hS.mem rfl;exact AM hS rfl (AK CK hF rfl (hM.row 0 rfl) (by simp only [AR]<;>omega) (DU (gj) (gk) (by omega) (by omega) (by omega) (by omega))),trivial⟩ ?_;intro a w' L hF hS hq;have hF:=hF.ext1 29 (hq 0 rfl rfl);have hF:=hF.ext1 30 (hq 1 rfl rfl)
        have hF:=hF.ext1 31 (hq 2 rfl rfl);have hF:=hF.ext1 32 (hq 3 rfl rfl);have hF:=hF.ext1 33 (hq 4 rfl rfl);have hF:=hF.ext1 34 (hq 5 rfl rfl);have hF:=hF.ext1 35 (hq 6 rfl rfl);have hF:=hF.ext1 36 (hq 7 rfl rfl);have hF:=hF.ext1 37 (hq 8 rfl rfl);have hF:=hF.ext1 38 (hq 9 rfl rfl);have hF:=hF.ext1 39 (hq 10 rfl rfl);have hF:=hF.ext1 40 (hq 11 rfl rfl);have hF:=hF.ext1 41 (hq 12 rfl rfl);have hF:=hF.ext1 42 (hq 13 rfl rfl);have hF:=hF.ext1 43 (hq 14 rfl rfl);have hF:=hF.ext1 44 (hq 15 rfl rfl);have hF:=hF.ext1 45 (hq 16 rfl rfl);have hF:=hF.ext1 46 (hq 17 rfl rfl);have hF:=hF.ext1 47 (hq 18 rfl rfl);have hM:=hS.mem rfl;change wpList Try.prog _ _ [_,_] _ _;refine Am hF (Aa Try.call89 hF (.cons rfl (.cons rfl (.cons rfl .nil))) (Bx p n T f ((fun c=>if c=gi then 1 else 0)) ((T (gj) (gk))) _ (by omega) (by omega) (by omega) (fun _ _ _=>hT _ _ _) (fun _=>by first | exact hv _ | exact hu _ | exact hT _ _ _ | exact hf _ | omega | (split<;>omega) | (dsimp only;split<;>omega) | assumption) (fun _=>by first | exact hv _ | exact hu _ | exact hT _ _ _ | exact hf _ | omega | (split<;>omega) | (dsimp only;split<;>omega) | assumption))) rfl ?_;rintro _ w' a ⟨hx,rfl⟩ hF;have hM:=hM.ext hx;refine st hF (DF B8 hF rfl rfl (B0 B9 CH Al)) rfl fun a hF=>nt<|Ad hF rfl (fun h6=>?_) (fun h6=>?_)
        · refine sq ?_
          refine wp_region_lit<|ag hF rfl rfl fun a hF=>nt<|wp_ret<|iR<|tR<|tR<|iR<|iR<|tR<|tR<|iR<|iR<|tR<|tR<|iR<|tR<|BC rfl hF.defers (Ab hF rfl) ⟨_,rfl,hM.below,?_⟩
          show _=_
          exact CS (fun hq=>(by assumption:¬ FR 6 _ _) (hq.1 gi (by omega) gj (by omega) gk (by omega)))
        refine wp_skip<|iN<|tN<|wp_region_lit<|mv hF rfl rfl fun a hF=>st hF (Ar hF rfl rfl (Aj (gk) (1) (by omega))) rfl fun a hF=>ag hF rfl rfl fun a hF=>nt<|⟨gk+1,⟨by omega,D6 hinv3 (Decidable.not_not.1 (by assumption)),hF.sub _ (by repeat' constructor),?_⟩,by omega⟩;exact hM
      obtain rfl:n=gk:=by omega
      refine wp_exit<|tX<|tX<|Aq<|iN<|tN<|wp_region_lit<|mv hF rfl rfl fun a hF=>st hF (Ar hF rfl rfl (Aj (gj) (1) (by omega))) rfl fun a hF=>ag hF rfl rfl fun a hF=>nt<|⟨gj+1,⟨by omega,D6 hinv2 hinv3,hF.sub _ (by repeat' constructor),?_⟩,by omega⟩;exact hM
    obtain rfl:n=gj:=by omega
    refine wp_exit<|tX<|tX<|Aq<|iN<|tN<|wp_region_lit<|mv hF rfl rfl fun a hF=>st hF (Ar hF rfl rfl (Aj (gi) (1) (by omega))) rfl fun a hF=>ag hF rfl rfl fun a hF=>nt<|⟨gi+1,⟨by omega,D6 hinv1 hinv2,hF.sub _ (by repeat' constructor),?_⟩,by omega⟩;exact hM
  obtain rfl:n=gi:=by omega
  refine wp_exit<|tX<|tX<|Aq<|tN<|sr<|st hF (AK AU hF rfl (hM.row 0 rfl) (by simp only [AR]<;>omega) (whole AQ)) rfl fun a hF=>Am hF (Aa Try.call152 hF (.cons rfl .nil) (FL p n T f _ hp hn0 hn hTp)) rfl ?_;rintro _ w' a ⟨hx,⟨uu,huu,rfl⟩ | ⟨huu,rfl⟩⟩ hF
  · have hM:=hM.ext hx
    refine mv hF rfl rfl fun a hF=>st hF (AX hF rfl rfl) rfl fun a hF=>st hF (AX hF rfl rfl) rfl fun a hF=>Am hF (AW 1 hM Ac) rfl ?_;rintro _ w' a ⟨b7,rfl,hM,-⟩ hF;change Af w w' [some (b1,AJ (p:Int) (n:Int) T f),some (b7,Ag 6 (fun _=>.int .u8 (0)))] [] at hM;refine A8 hF (AO 1 hM rfl AY hF rfl rfl (by first | exact AT | exact cells_one | (refine AV fun _ _=>?_;first | rfl | (split<;>rfl))) (by simp only [AR]) (by simp only [AR]<;>omega) (AL _ _ (by simp only [AR]))) ?_;intro _ w' a hM hF;change Af w w' [some (b1,AJ (p:Int) (n:Int) T f),some (b7,AI uu)] [] at hM;refine ag hF rfl rfl fun a hF=>ns<|mv hF rfl rfl fun a hF=>ag hF rfl rfl fun a hF=>nt<|wp_ret<|BC rfl hF.defers (Ab hF rfl) ⟨_,rfl,hM.below,?_⟩
    show _=_
    exact GO ⟨hinv1,_,huu⟩
  have hM:=hM.ext hx;refine mv hF rfl rfl fun a hF=>st hF (AX hF rfl rfl) rfl fun a hF=>st hF (AX hF rfl rfl) rfl fun a hF=>Am hF (AW 1 hM Ac) rfl ?_;rintro _ w' a ⟨b8,rfl,hM,-⟩ hF;change Af w w' [some (b1,AJ (p:Int) (n:Int) T f),some (b8,Ag 6 (fun _=>.int .u8 (0)))] [] at hM;refine A8 hF (AO 1 hM rfl AY hF rfl rfl (by first | exact AT | exact cells_one | (refine AV fun _ _=>?_;first | rfl | (split<;>rfl))) (by simp only [AR]) (by simp only [AR]<;>omega) (AL _ _ (by simp only [AR]))) ?_;intro _ w' a hM hF;change Af w w' [some (b1,AJ (p:Int) (n:Int) T f),some (b8,AI (fun _=>0))] [] at hM;refine ag hF rfl rfl fun a hF=>ns<|mv hF rfl rfl fun a hF=>ag hF rfl rfl fun a hF=>nt<|wp_ret<|BC rfl hF.defers (Ab hF rfl) ⟨_,rfl,hM.below,?_⟩
  show _=_
  exact CS (fun hq=>by obtain ⟨u,hu⟩:=hq.2;exact huu u hu)
theorem Jx (p n:Int)(T:Nat→Nat→Nat→Nat)(f:Nat→Nat)(w:World)(hT:∀ i j k,T i j k≤255)(hf:∀ i,f i≤255)(hsh:¬ Cr p n T f) :
    CallsR Try.prog 12 #[.agg (AJ p n T f)] w (fun res _=>res = .bool false):=by
  refine Ak [.agg (AJ p n T f)] Try.func12 rfl Try.ntmps12 rfl fun a hF=>?_;have hM:Af w w [none,none] []:=MemX.start w 2;change Fr 40 a [(0,.agg (AJ p n T f))] at hF;refine sr<|Am hF (Au 0 hM hF rfl) rfl ?_;rintro _ w' a ⟨b1,rfl,hM,-⟩ hF;change Af w w' [some (b1,AJ p n T f),none] [] at hM;refine ag hF rfl rfl fun a hF=>nt<|sq<|sr<|st hF (AN Aw hF rfl) rfl fun a hF=>st hF (AZ Ae hF rfl (hM.row 0 rfl) (BQ (by omega))) rfl fun a hF=>Am hF (Aa Try.call90 hF (.cons rfl .nil) (HF (p) _)) rfl ?_;rintro _ w' a ⟨hx,rfl⟩ hF;have hM:=hM.ext hx;refine st hF (CB hF rfl) rfl fun a hF=>mv hF rfl rfl fun a hF=>?_
  by_cases g2:¬ (BN (p))
  · first | rw [decide_eq_true g2] at hF | simp only [decide_eq_true g2] at hF
    refine Bg hF rfl rfl rfl rfl rfl fun a hF=>Bg hF rfl rfl rfl rfl rfl fun a hF=>Bg hF rfl rfl rfl rfl rfl fun a hF=>st hF (A7 hF rfl rfl) rfl fun a hF=>mv hF rfl rfl fun a hF=>Bg hF rfl rfl rfl rfl rfl fun a hF=>Bg hF rfl rfl rfl rfl rfl fun a hF=>Bg hF rfl rfl rfl rfl rfl fun a hF=>st hF (A7 hF rfl rfl) rfl fun a hF=>nt<|GN hF rfl<|sr<|ag hF rfl rfl fun a hF=>nt<|wp_ret<|tR<|BC rfl hF.defers (Ab hF rfl) ⟨_,rfl,hM.below,?_⟩
    show _=_
    rfl
  first | rw [decide_eq_false g2] at hF | simp only [decide_eq_false g2] at hF
  refine BR hF rfl rfl rfl (AN Ai hF rfl) rfl fun a hF=>BR hF rfl rfl rfl (AZ Ae hF rfl (hM.row 0 rfl) (A5 (by omega))) rfl fun a hF=>BR hF rfl rfl rfl (A4 hF rfl rfl) rfl fun a hF=>st hF (A3 hF rfl rfl) rfl fun a hF=>mv hF rfl rfl fun a hF=>?_
  by_cases g4:(n:Int)<1
  · first | rw [decide_eq_true g4] at hF | simp only [decide_eq_true g4] at hF
    refine Bg hF rfl rfl rfl rfl rfl fun a hF=>Bg hF rfl rfl rfl rfl rfl fun a hF=>Bg hF rfl rfl rfl rfl rfl fun a hF=>st hF (A7 hF rfl rfl) rfl fun a hF=>nt<|GN hF rfl<|sr<|ag hF rfl rfl fun a hF=>nt<|wp_ret<|tR<|BC rfl hF.defers (Ab hF rfl) ⟨_,rfl,hM.below,?_⟩
    show _=_
    rfl
  first | rw [decide_eq_false g4] at hF | simp only [decide_eq_false g4] at hF
  refine BR hF rfl rfl rfl (AN Ai hF rfl) rfl fun a hF=>BR hF rfl rfl rfl (AZ Ae hF rfl (hM.row 0 rfl) (A5 (by omega))) rfl fun a hF=>BR hF rfl rfl rfl (FC hF rfl rfl) rfl fun a hF=>st hF (A3 hF rfl rfl) rfl fun a hF=>nt<|Ad hF rfl (fun h6=>?_) (fun h6=>?_)
  · refine sq ?_
    refine wp_region_lit<|ag hF rfl rfl fun a hF=>nt<|wp_ret<|tR<|BC rfl hF.defers (Ab hF rfl) ⟨_,rfl,hM.below,?_⟩
    show _=_
    rfl
  refine wp_skip<|tN<|sq<|sr<|st hF (AK AU hF rfl (hM.row 0 rfl) (by simp only [AR]<;>omega) (whole AQ)) rfl fun a hF=>st hF (AN BO hF rfl) rfl fun a hF=>st hF (AK AP hF rfl (hM.row 0 rfl) (by simp only [AR]<;>omega) (GR (by omega) (by omega))) rfl fun a hF=>Am hF (Aa Try.call91 hF (.cons rfl (.cons rfl .nil)) (Cv p n T f (f) _ (fun _=>by first | exact hv _ | exact hu _ | exact hT _ _ _ | exact hf _ | omega | (split<;>omega) | (dsimp only;split<;>omega) | assumption))) rfl ?_;rintro _ w' a ⟨hx,rfl⟩ hF;have hM:=hM.ext hx;refine st hF (CB hF rfl) rfl fun a hF=>mv hF rfl rfl fun a hF=>?_
  by_cases g7:¬ (okV p n (f))
  · first | rw [decide_eq_true g7] at hF | simp only [decide_eq_true g7] at hF
    refine Bg hF rfl rfl rfl rfl rfl fun a hF=>Bg hF rfl rfl rfl rfl rfl fun a hF=>Bg hF rfl rfl rfl rfl rfl fun a hF=>st hF (A7 hF rfl rfl) rfl fun a hF=>mv hF rfl rfl fun a hF=>Bg hF rfl rfl rfl rfl rfl fun a hF=>Bg hF rfl rfl rfl rfl rfl fun a hF=>Bg hF rfl rfl rfl rfl rfl fun a hF=>st hF (A7 hF rfl rfl) rfl fun a hF=>nt<|GN hF rfl<|sr<|ag hF rfl rfl fun a hF=>nt<|wp_ret<|tR<|BC rfl hF.defers (Ab hF rfl) ⟨_,rfl,hM.below,?_⟩
    show _=_
    rfl
  first | rw [decide_eq_false g7] at hF | simp only [decide_eq_false g7] at hF
  refine BR hF rfl rfl rfl (AK AU hF rfl (hM.row 0 rfl) (by simp only [AR]<;>omega) (whole AQ)) rfl fun a hF=>FU hF rfl rfl rfl (Aa Try.call92 hF (.cons rfl .nil) (Gd p n T f _ (fun _ _ _=>hT _ _ _) (fun _=>hf _))) rfl ?_;rintro _ w' a ⟨hx,rfl⟩ hF;have hM:=hM.ext hx;refine BR hF rfl rfl rfl (CB hF rfl) rfl fun a hF=>st hF (A3 hF rfl rfl) rfl fun a hF=>mv hF rfl rfl fun a hF=>?_
  by_cases g9:¬ (Ii 6 (I3 p n T))
  · first | rw [decide_eq_true g9] at hF | simp only [decide_eq_true g9] at hF
    refine Bg hF rfl rfl rfl rfl rfl fun a hF=>Bg hF rfl rfl rfl rfl rfl fun a hF=>Bg hF rfl rfl rfl rfl rfl fun a hF=>st hF (A7 hF rfl rfl) rfl fun a hF=>nt<|GN hF rfl<|sr<|ag hF rfl rfl fun a hF=>nt<|wp_ret<|tR<|BC rfl hF.defers (Ab hF rfl) ⟨_,rfl,hM.below,?_⟩
    show _=_
    rfl
  first | rw [decide_eq_false g9] at hF | simp only [decide_eq_false g9] at hF
  exact absurd (show Cr p n T f from ⟨Decidable.not_not.1 (by assumption),⟨by omega,by omega⟩,Decidable.not_not.1 (by assumption),(Hp (Cs (Decidable.not_not.1 (by assumption)))).1 (Decidable.not_not.1 (by assumption))⟩) hsh
theorem Jw (p n:Nat)(T:Nat→Nat→Nat→Nat)(f:Nat→Nat)(w:World)(hp:primeN p)(hn0:0<n)(hn:n≤6)(hTp:∀ i j k,T i j k<p)(hT0:∀ i j k,n≤k→T i j k=0)(hf:∀ i,f i≤255)(hsh:Cr (p:Int) (n:Int) T f) :
    CallsR Try.prog 12 #[.agg (AJ (p:Int) (n:Int) T f)] w (fun res _=>res = .bool (decide (M8 p n T))):=by
  refine Ak [.agg (AJ (p:Int) (n:Int) T f)] Try.func12 rfl Try.ntmps12 rfl fun a hF=>?_;have hM:Af w w [none,none] []:=MemX.start w 2;change Fr 40 a [(0,.agg (AJ (p:Int) (n:Int) T f))] at hF;have hp2:=hp.two;have hp13:=hp.le;have hT:∀ i j k,T i j k≤255:=fun i j k=>by have:=hTp i j k;omega
  refine sr<|Am hF (Au 0 hM hF rfl) rfl ?_;rintro _ w' a ⟨b1,rfl,hM,-⟩ hF;change Af w w' [some (b1,AJ (p:Int) (n:Int) T f),none] [] at hM;refine ag hF rfl rfl fun a hF=>nt<|sq<|sr<|st hF (AN Aw hF rfl) rfl fun a hF=>st hF (AZ Ae hF rfl (hM.row 0 rfl) (BQ (by omega))) rfl fun a hF=>Am hF (Aa Try.call90 hF (.cons rfl .nil) ((CallsR.val (HF (p:Int) _) (congrArg Value.bool (decide_eq_true (hsh.1)))))) rfl ?_;rintro _ w' a ⟨hx,rfl⟩ hF;have hM:=hM.ext hx;refine st hF (CF (b:=true) hF rfl) rfl fun a hF=>mv hF rfl rfl fun a hF=>BR hF rfl rfl rfl (AN Ai hF rfl) rfl fun a hF=>BR hF rfl rfl rfl (AZ Ae hF rfl (hM.row 0 rfl) (A5 (by omega))) rfl fun a hF=>BR hF rfl rfl rfl (A4 hF rfl rfl) rfl fun a hF=>st hF (A3 hF rfl rfl) rfl fun a hF=>mv hF rfl rfl fun a hF=>?_
  by_cases g2:((n:Int):Int)<1
  · first | rw [decide_eq_true g2] at hF | simp only [decide_eq_true g2] at hF
    exfalso;omega
  first | rw [decide_eq_false g2] at hF | simp only [decide_eq_false g2] at hF
  refine BR hF rfl rfl rfl (AN Ai hF rfl) rfl fun a hF=>BR hF rfl rfl rfl (AZ Ae hF rfl (hM.row 0 rfl) (A5 (by omega))) rfl fun a hF=>BR hF rfl rfl rfl (FC hF rfl rfl) rfl fun a hF=>st hF (A3 hF rfl rfl) rfl fun a hF=>nt<|Ad hF rfl (fun h3=>?_) (fun h3=>?_)
  · exfalso;omega
  refine wp_skip<|tN<|sq<|sr<|st hF (AK AU hF rfl (hM.row 0 rfl) (by simp only [AR]<;>omega) (whole AQ)) rfl fun a hF=>st hF (AN BO hF rfl) rfl fun a hF=>st hF (AK AP hF rfl (hM.row 0 rfl) (by simp only [AR]<;>omega) (GR (by omega) (by omega))) rfl fun a hF=>Am hF (Aa Try.call91 hF (.cons rfl (.cons rfl .nil)) ((CallsR.val (Cv (p:Int) (n:Int) T f (f) _ (fun _=>by first | exact hv _ | exact hu _ | exact hT _ _ _ | exact hf _ | omega | (split<;>omega) | (dsimp only;split<;>omega) | assumption)) (congrArg Value.bool (decide_eq_true (hsh.2.2.1)))))) rfl ?_;rintro _ w' a ⟨hx,rfl⟩ hF;have hM:=hM.ext hx;refine st hF (CF (b:=true) hF rfl) rfl fun a hF=>mv hF rfl rfl fun a hF=>BR hF rfl rfl rfl (AK AU hF rfl (hM.row 0 rfl) (by simp only [AR]<;>omega) (whole AQ)) rfl fun a hF=>FU hF rfl rfl rfl (Aa Try.call92 hF (.cons rfl .nil) ((CallsR.val (Gd (p:Int) (n:Int) T f _ (fun _ _ _=>hT _ _ _) (fun _=>hf _)) (congrArg Value.bool (decide_eq_true ((Hp (Cs hsh.1)).2 hsh.2.2.2)))))) rfl ?_;rintro _ w' a ⟨hx,rfl⟩ hF;have hM:=hM.ext hx;refine BR hF rfl rfl rfl (CF (b:=true) hF rfl) rfl fun a hF=>st hF (A3 hF rfl rfl) rfl fun a hF=>mv hF rfl rfl fun a hF=>BR hF rfl rfl rfl (AK AU hF rfl (hM.row 0 rfl) (by simp only [AR]<;>omega) (whole AQ)) rfl fun a hF=>FU hF rfl rfl rfl (Aa Try.call93 hF (.cons rfl .nil) (GH p n T f _ (by omega) (by omega) (by omega) (fun _ _ _=>hT _ _ _) (fun _=>hf _))) rfl ?_;rintro _ w' a ⟨hx,rfl⟩ hF;have hM:=hM.ext hx;refine BR hF rfl rfl rfl (CB hF rfl) rfl fun a hF=>st hF (A3 hF rfl rfl) rfl fun a hF=>nt<|Ad hF rfl (fun h4=>?_) (fun h4=>?_)
  · refine sq ?_
    refine wp_region_lit<|ag hF rfl rfl fun a hF=>nt<|wp_ret<|tR<|BC rfl hF.defers (Ab hF rfl) ⟨_,rfl,hM.below,?_⟩
    show _=_
    exact CS (fun hq=>(by assumption:¬ M6 p n T) ((KJ hT0).2 hq.1))
  refine wp_skip<|tN<|sr<|st hF (AK AU hF rfl (hM.row 0 rfl) (by simp only [AR]<;>omega) (whole AQ)) rfl fun a hF=>Am hF (Aa Try.call94 hF (.cons rfl .nil) (Ge p n T f _ hp hn0 hn hTp)) rfl ?_;rintro _ w' a ⟨hx,⟨uu,huu,rfl⟩ | ⟨huu,rfl⟩⟩ hF
  · have hM:=hM.ext hx
    refine mv hF rfl rfl fun a hF=>st hF (AX hF rfl rfl) rfl fun a hF=>st hF (AX hF rfl rfl) rfl fun a hF=>Am hF (AW 1 hM Ac) rfl ?_;rintro _ w' a ⟨b5,rfl,hM,-⟩ hF;change Af w w' [some (b1,AJ (p:Int) (n:Int) T f),some (b5,Ag 6 (fun _=>.int .u8 (0)))] [] at hM;refine A8 hF (AO 1 hM rfl AY hF rfl rfl (by first | exact AT | exact cells_one | (refine AV fun _ _=>?_;first | rfl | (split<;>rfl))) (by simp only [AR]) (by simp only [AR]<;>omega) (AL _ _ (by simp only [AR]))) ?_;intro _ w' a hM hF;change Af w w' [some (b1,AJ (p:Int) (n:Int) T f),some (b5,AI uu)] [] at hM;refine ag hF rfl rfl fun a hF=>ns<|mv hF rfl rfl fun a hF=>ag hF rfl rfl fun a hF=>nt<|wp_ret<|BC rfl hF.defers (Ab hF rfl) ⟨_,rfl,hM.below,?_⟩
    show _=_
    exact GO ⟨(KJ hT0).1 (Decidable.not_not.1 (by assumption)),_,huu⟩
  have hM:=hM.ext hx;refine mv hF rfl rfl fun a hF=>st hF (AX hF rfl rfl) rfl fun a hF=>st hF (AX hF rfl rfl) rfl fun a hF=>Am hF (AW 1 hM Ac) rfl ?_;rintro _ w' a ⟨b6,rfl,hM,-⟩ hF;change Af w w' [some (b1,AJ (p:Int) (n:Int) T f),some (b6,Ag 6 (fun _=>.int .u8 (0)))] [] at hM;refine A8 hF (AO 1 hM rfl AY hF rfl rfl (by first | exact AT | exact cells_one | (refine AV fun _ _=>?_;first | rfl | (split<;>rfl))) (by simp only [AR]) (by simp only [AR]<;>omega) (AL _ _ (by simp only [AR]))) ?_;intro _ w' a hM hF;change Af w w' [some (b1,AJ (p:Int) (n:Int) T f),some (b6,AI (fun _=>0))] [] at hM;refine ag hF rfl rfl fun a hF=>ns<|mv hF rfl rfl fun a hF=>ag hF rfl rfl fun a hF=>nt<|wp_ret<|BC rfl hF.defers (Ab hF rfl) ⟨_,rfl,hM.below,?_⟩
  show _=_
  exact CS (fun hq=>by obtain ⟨u,hu⟩:=hq.2;exact huu u hu)
theorem Co (p n:Int)(T:Nat→Nat→Nat→Nat)(f:Nat→Nat)(w:World)(hT:∀ i j k,T i j k≤255)(hf:∀ i,f i≤255):HO Try.prog 12 #[.agg (AJ p n T f)] w (.bool (decide (Gq p n T f))):=by
  by_cases hs:Cr p n T f
  · have hp0:=Cs hs.1
    have hn:=hs.2.1;have h:=Jw p.toNat n.toNat (trunc n.toNat T) f w (GB hs.1) (by omega) (by omega) (G0 hs) F6 hf;rw [show (p.toNat:Int)=p by omega,show (n.toNat:Int)=n by omega,← FP hs] at h;exact CallsR.val (h (Ed hs)) (congrArg Value.bool (decide_eq_decide.2 ⟨fun h=>⟨hs,h⟩,fun h=>h.2⟩))
  · exact CallsR.val (Jx p n T f w hT hf hs) (congrArg Value.bool (decide_eq_false (fun h=>hs h.1)).symm)
theorem D4 (p n:Int)(T:Nat→Nat→Nat→Nat)(f:Nat→Nat)(w:World)(hT:∀ i j k,T i j k≤255)(hf:∀ i,f i≤255):HO Try.prog 95 #[.agg (AJ p n T f)] w (.bool (decide (Gq p n T f))):=by
  by_cases hs:Cr p n T f
  · have hp0:=Cs hs.1
    have hn:=hs.2.1;have h:=JB p.toNat n.toNat (trunc n.toNat T) f w (GB hs.1) (by omega) (by omega) (G0 hs) F6 hf;rw [show (p.toNat:Int)=p by omega,show (n.toNat:Int)=n by omega,← FP hs] at h;exact CallsR.val (h (Ed hs)) (congrArg Value.bool (decide_eq_decide.2 ⟨fun h=>⟨hs,h⟩,fun h=>h.2⟩))
  · exact CallsR.val (JC p n T f w hT hf hs) (congrArg Value.bool (decide_eq_false (fun h=>hs h.1)).symm)
theorem FE (p n:Int)(T:Nat→Nat→Nat→Nat)(f:Nat→Nat)(w:World)(hT:∀ i j k,T i j k≤255)(hf:∀ i,f i≤255) :
    CallsR Try.prog 13 #[.agg (AJ p n T f)] w (fun res _=>res = .bool (decide (Gq p n T f))):=by
  refine Ak [.agg (AJ p n T f)] Try.func13 rfl Try.ntmps13 rfl fun a hF=>?_;have hM:Af w w [none] []:=MemX.start w 1;change Fr 5 a [(0,.agg (AJ p n T f))] at hF;refine sr<|Am hF (Au 0 hM hF rfl) rfl ?_;rintro _ w' a ⟨b1,rfl,hM,-⟩ hF;change Af w w' [some (b1,AJ p n T f)] [] at hM;refine ag hF rfl rfl fun a hF=>ns<|st hF (AK AU hF rfl (hM.row 0 rfl) (by simp only [AR]<;>omega) (whole AQ)) rfl fun a hF=>Am hF (Aa Try.call95 hF (.cons rfl .nil) (D4 p n T f _ (fun _ _ _=>hT _ _ _) (fun _=>hf _))) rfl ?_;rintro _ w' a ⟨hx,rfl⟩ hF;have hM:=hM.ext hx;refine ag hF rfl rfl fun a hF=>nt<|wp_ret<|BC rfl hF.defers (Ab hF rfl) ⟨_,rfl,hM.below,?_⟩
  show _=_
  rfl
end Go.Proofs.Ytkcneleabbjkaaa
