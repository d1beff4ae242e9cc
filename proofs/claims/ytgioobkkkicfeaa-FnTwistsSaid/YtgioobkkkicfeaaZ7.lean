import Derived.Test.YtgioobkkkicfeaaQ12
import Derived.Test.YtgioobkkkicfeaaZ6
set_option linter.unusedVariables false
set_option linter.unusedSimpArgs false
namespace Go.Proofs.Ytgioobkkkicfeaa
open Go Go.RowKit Go.Sw Go.Ech
open Classical
def Re (A1 A2:Int) (T:Nat->Nat->Nat->Nat) (F:Nat->Nat) (k:Nat):Prop:=(∀ w,CallsR Try.prog 17 #[.agg (AY A1 A2 T F)] w (fun u _=>u = .tuple #[.bool true,.int .i64 0]))/\∃ V:Nat->Nat->Nat,∀ w,CallsR Try.prog 18 #[.agg (AY A1 A2 T F)] w (fun u w'=>∃ l,u = .tuple #[l,.int .i64 0]/\NewX (fun D u=>VsX D k V u) w w' l)
theorem Qk {p n m:Nat}{Ln:Nat->Nat}{R:Nat->Nat->Int}(hp:0<p)(h:E3 (p:Int) n m Ln R):∀ i,i<n->∀ j,j<n->CR R i j<p:=fun i hi j hj=>by
  have hm:=h.1
  have h2:=(h.2 i (by omega)).2 j hj
  unfold CR
  omega
theorem PU {p n:Nat}{M r:Nat->Nat->Nat}(hP:Ae (p:Int))(hp:primeN p)(hn0:0<n)(hn:n<=6)(hG:TabP n M)(hC:Cs p n M r)(hJ:∀ i,i<n->∀ j,j<n->r i j<p):Re (p:Int) (n:Int) (tT n M r) (fun c=>if c=0 then 1 else 0) (cnt (rgB n M r) (nC M n)):=by
  have hO:=hp.two;have hp13:=hp.le;have hc:M4 (p:Int) (n:Int) (tT n M r) (fun c=>if c=0 then 1 else 0) 0 (KR []):=⟨Qg hP hp hn0 hn hG hC hJ,fun i hi=>absurd hi (by omega)⟩;have hf:∀ i:Nat,(fun c=>if c=0 then 1 else 0:Nat->Nat) i<=255:=fun i=>by dsimp only;split<;>omega
  have hT0:∀ i j k,n<=k->tT n M r i j k=0:=fun i j k h=>N9 hG hn i j k (by omega);have hTp:=QM (M:=M) (n:=n) (p:=p) (r:=r) (by omega) hJ;refine ⟨fun w=>?_,?_⟩
  . have h:=Is p n (tT n M r) (fun c=>if c=0 then 1 else 0) w hp hn0 hn hTp hT0 hf hc
    rw [decide_eq_true (PW hp hn0 hn hG hC hJ)] at h;exact h
  . have hne:=Qv hO hn0 (MM hp hn0 hn hG hC hJ)
    obtain ⟨R0,W,hW⟩:=Jr (n:=n) (m:=n*n) hp (O5 (n:=n) (T:=tT n M r) hO);have e:=Pj hp hn0 hn hG hC hJ hW;have h0:=Md hO hne _ _ hW;refine ⟨P9 n R0 W,fun w=>?_⟩;rw [← e];exact (LO p n (tT n M r) _ R0 W w hp hn0 hn hTp hT0 hf hc hne (Md hO hne) hW).mono fun u w' _ ⟨l,e,h⟩=>⟨l,e,OwnSl.newX h0 h⟩
theorem PX (P q:Int)(M:Nat->Nat->Nat)(sl:Value)(m:Nat)(Ln:Nat->Nat)(R:Nat->Nat->Int)(xs:Nat->Option Addr)(ca be ob:Nat->Nat)(hB:∀ i j,M i j<=255)(hL:∀ i,Ln i<=6) :
    ∃ (A1 A2:Int) (T:Nat->Nat->Nat->Nat) (F:Nat->Nat) (e1:Int) (yes:Bool) (e2:Int) (k:Nat) (rg:Nat->Nat) (e4:Int),
      ((∀ w,ArgSS w sl m Ln R xs ca be ob->CallsR Try.prog 6 #[.int .i64 P,.agg (AB q M),sl] w (fun u _=>u = .tuple #[.agg (AY A1 A2 T F),.int .i64 e1]))/\(∀ w,ArgSS w sl m Ln R xs ca be ob->CallsR Try.prog 7 #[.int .i64 P,.agg (AB q M),sl] w (fun u _=>u = .tuple #[.agg (AY A1 A2 T F),.int .i64 e1])))/\((∀ w,ArgSS w sl m Ln R xs ca be ob->CallsR Try.prog 8 #[.int .i64 P,.agg (AB q M),sl] w (fun u _=>u = .tuple #[.bool yes,.int .i64 e2]))/\(∀ w,ArgSS w sl m Ln R xs ca be ob->CallsR Try.prog 9 #[.int .i64 P,.agg (AB q M),sl] w (fun u _=>u = .tuple #[.bool yes,.int .i64 e2])))/\((∀ w,ArgSS w sl m Ln R xs ca be ob->CallsR Try.prog 14 #[.int .i64 P,.agg (AB q M),sl] w (fun u w'=>∃ l,u = .tuple #[l,.int .i64 e4]/\NewX (fun D u=>NsX D k rg u) w w' l))/\(∀ w,ArgSS w sl m Ln R xs ca be ob->CallsR Try.prog 15 #[.int .i64 P,.agg (AB q M),sl] w (fun u w'=>∃ l,u = .tuple #[l,.int .i64 e4]/\NewX (fun D u=>NsX D k rg u) w w' l)))/\
      k<=6/\(e2=0->(yes=true↔e1=0))/\(e1≠0->e4=e1/\k=0)/\(e1=0->e4=0/\Re A1 A2 T F k):=by
  have hl:∀ i,i<m->Ln i<10000000:=fun i _=>by have:=hL i;omega
  by_cases hc:GrpP q M
  . have h1:=hc.1
    have h2:=hc.2.1;have hn0:0<q.toNat:=by omega
    have hn:q.toNat<=6:=by omega
    have hG:=hc.2.2;obtain ⟨n,rfl⟩:∃ n:Nat,q=(n:Int):=⟨q.toNat,by omega⟩;rw [show (n:Int).toNat=n by omega] at hn0 hn hG
    by_cases hP:Ae P
    . obtain ⟨p,rfl⟩:∃ p:Nat,P=(p:Int):=⟨P.toNat,by have:=At hP;omega⟩
      have hp:=Gp hP;rw [show (p:Int).toNat=p by omega] at hp;have hO:=hp.two
      by_cases hS:E3 (p:Int) n m Ln R
      . have hJ:=Qk (by omega) hS
        by_cases hC:Cs p n M (CR R)
        . have hpos:=Lk hn0 hn hG hP hC hJ
          have hd:decide (Cs p n M (CR R))=true:=decide_eq_true hC;refine ⟨p,n,tT n M (CR R),fun c=>if c=0 then 1 else 0,0,true,0,cnt (rgB n M (CR R)) (nC M n),asc (rgB n M (CR R)) (nC M n),0,⟨fun w h=>HF p n M sl m Ln R xs ca be ob w hn0 hn hB hG hP hS hC h hl,fun w h=>HA p n M sl m Ln R xs ca be ob w hn0 hn hB hG hP hS hC h hl⟩,⟨fun w h=>?_,fun w h=>?_⟩,⟨fun w h=>?_,fun w h=>?_⟩,Nat.le_trans (cnt_le _) (OW hn),fun _=>⟨fun _=>rfl,fun _=>rfl⟩,fun h=>absurd rfl h,fun _=>⟨rfl,PU hP hp hn0 hn hG hC hJ⟩⟩
          . have:=DW p n M sl m Ln R xs ca be ob w hn0 hn hB hG hP hS h hl
            rwa [hd] at this
          . have:=Ga p n M sl m Ln R xs ca be ob w hn0 hn hB hG hP hS h hl
            rwa [hd] at this
          . exact (HP p n M sl m Ln R xs ca be ob w hn0 hn hB hG hP hS hC h hl).mono fun u w' _ ⟨l,e,b,c,cs,_,h2,h3,h4⟩=>⟨l,e,NewX.nums hpos h2 h3 h4⟩
          . exact (HK p n M sl m Ln R xs ca be ob w hn0 hn hB hG hP hS hC h hl).mono fun u w' _ ⟨l,e,b,c,cs,_,h2,h3,h4⟩=>⟨l,e,NewX.nums hpos h2 h3 h4⟩
        . have hd:decide (Cs p n M (CR R))=false:=decide_eq_false hC
          refine ⟨0,0,fun _ _ _=>0,fun _=>0,2,false,0,0,fun _=>0,2,⟨fun w h=>HI p n M sl m Ln R xs ca be ob w hn0 hn hB hG hP hS hC h hl,fun w h=>HD p n M sl m Ln R xs ca be ob w hn0 hn hB hG hP hS hC h hl⟩,⟨fun w h=>?_,fun w h=>?_⟩,⟨fun w h=>(HS p n M sl m Ln R xs ca be ob w hn0 hn hB hG hP hS hC h hl).mono fun u w' _ e=>⟨_,e,NewX.nilN⟩,fun w h=>(HN p n M sl m Ln R xs ca be ob w hn0 hn hB hG hP hS hC h hl).mono fun u w' _ e=>⟨_,e,NewX.nilN⟩⟩,by omega,fun _=>by simp,fun _=>⟨rfl,rfl⟩,fun h=>absurd h (by decide)⟩
          . have:=DW p n M sl m Ln R xs ca be ob w hn0 hn hB hG hP hS h hl
            rwa [hd] at this
          . have:=Ga p n M sl m Ln R xs ca be ob w hn0 hn hB hG hP hS h hl
            rwa [hd] at this
      . exact ⟨0,0,fun _ _ _=>0,fun _=>0,2,false,2,0,fun _=>0,2,⟨fun w h=>HG p n M sl m Ln R xs ca be ob w hn0 hn hB hG hP hS h hl,fun w h=>HB p n M sl m Ln R xs ca be ob w hn0 hn hB hG hP hS h hl⟩,⟨fun w h=>Gb p n M sl m Ln R xs ca be ob w hn0 hn hB hG hP hS h hl,fun w h=>KE p n M sl m Ln R xs ca be ob w hn0 hn hB hG hP hS h hl⟩,⟨fun w h=>(HQ p n M sl m Ln R xs ca be ob w hn0 hn hB hG hP hS h hl).mono fun u w' _ e=>⟨_,e,NewX.nilN⟩,fun w h=>(HL p n M sl m Ln R xs ca be ob w hn0 hn hB hG hP hS h hl).mono fun u w' _ e=>⟨_,e,NewX.nilN⟩⟩,by omega,fun h=>absurd h (by decide),fun _=>⟨rfl,rfl⟩,fun h=>absurd h (by decide)⟩
    . exact ⟨0,0,fun _ _ _=>0,fun _=>0,2,false,2,0,fun _=>0,2,⟨fun w h=>HH P n M sl w hn0 hn hB hG hP,fun w h=>HC P n M sl w hn0 hn hB hG hP⟩,⟨fun w h=>Gc P n M sl w hn0 hn hB hG hP,fun w h=>KF P n M sl w hn0 hn hB hG hP⟩,⟨fun w h=>(HR P n M sl w hn0 hn hB hG hP).mono fun u w' _ e=>⟨_,e,NewX.nilN⟩,fun w h=>(HM P n M sl w hn0 hn hB hG hP).mono fun u w' _ e=>⟨_,e,NewX.nilN⟩⟩,by omega,fun h=>absurd h (by decide),fun _=>⟨rfl,rfl⟩,fun h=>absurd h (by decide)⟩
  . exact ⟨0,0,fun _ _ _=>0,fun _=>0,1,false,1,0,fun _=>0,1,⟨fun w h=>HJ P q M sl w hB hc,fun w h=>HE P q M sl w hB hc⟩,⟨fun w h=>Gd P q M sl w hB hc,fun w h=>KG P q M sl w hB hc⟩,⟨fun w h=>(HT P q M sl w hB hc).mono fun u w' _ e=>⟨_,e,NewX.nilN⟩,fun w h=>(HO P q M sl w hB hc).mono fun u w' _ e=>⟨_,e,NewX.nilN⟩⟩,by omega,fun h=>absurd h (by decide),fun _=>⟨rfl,rfl⟩,fun h=>absurd h (by decide)⟩
theorem NY {x p:Nat}(hp:primeN p)(hx:x<p)(h0:x≠0):invN x p*x%p=1:=by
  obtain ⟨v,hv⟩:=Jt hp hx h0;have hO:=hp.two;have hm:(v%p)*x%p=1:=by rw [Nat.mul_mod,Nat.mod_mod,← Nat.mul_mod,Nat.mul_comm];exact hv
  unfold invN
  cases hf:(List.range p).find? (fun c=>c*x%p == 1) with
  | none =>
    have:=List.find?_eq_none.1 hf (v%p) (List.mem_range.2 (Nat.mod_lt _ (by omega)))
    simp [hm] at this
  | some k =>
    have:=List.find?_some hf
    simpa using this
section
variable {p n : Nat} {M : Nat -> Nat -> Nat} {f : Nat -> Nat}
theorem Q2 (hp:primeN p){a b c z:Nat}(hc:¬ (p:Int)∣(c:Int))(hz:¬ (p:Int)∣(z:Int)):(p:Int)∣(((a*b*invN (c*z%p) p)%p:Nat):Int)*((c:Int)*(z:Int)) - (a:Int)*(b:Int):=by
  have hO:=hp.two;have hx:c*z%p<p:=Nat.mod_lt _ (by omega);have h0:c*z%p≠0:=fun e=>hc (Ej hp hz (by rw [← Int.natCast_mul];exact Int.natCast_dvd_natCast.2 (Nat.dvd_of_mod_eq_zero e)));have h1:=NY hp hx h0;have e1:=CD (p:Int) ((a*b*invN (c*z%p) p:Nat):Int);have e2:=CD (p:Int) ((invN (c*z%p) p*(c*z%p):Nat):Int);have e3:=CD (p:Int) ((c*z:Nat):Int);rw [← Int.natCast_emod] at e1 e2 e3;rw [h1] at e2
  generalize c*z%p=x at *
  generalize invN x p=i at *
  generalize a*b*i%p=g at *
  obtain ⟨k1,e1⟩:=e1;obtain ⟨k2,e2⟩:=e2;obtain ⟨k3,e3⟩:=e3;simp only [Int.natCast_mul] at e1 e2 e3;refine ⟨-((a:Int)*(b:Int)*k2) - (a:Int)*(b:Int)*(i:Int)*k3+k1*((c:Int)*(z:Int)),?_⟩
  grind
theorem Q3 (hp:primeN p)(hn0:0<n)(hn:n<=6)(hG:TabP n M)(hf:∀ i,i<n->1<=f i/\f i<p):Cs p n M (cb p M f):=by
  have hO:=hp.two;have hl:∀ i,i<n->¬ (p:Int)∣(fun i=>(f i:Int)) i:=fun i hi=>OS (by have:=hf i hi;omega) (hf i hi).2;have hr:∀ i,i<n->∀ j,j<n->(p:Int)∣(fun i j=>(cb p M f i j:Int)) i j*((fun i=>(f i:Int)) (M i j)*(fun i=>(f i:Int)) 0) - (fun i=>(f i:Int)) i*(fun i=>(f i:Int)) j:=fun i hi j hj=>Q2 hp (hl _ (hG.c hn hi hj)) (hl 0 hn0);have hJ:∀ i j,cb p M f i j<p:=fun i j=>Nat.mod_lt _ (by omega);have hco:=Q0 (M:=M) (r:=fun i j=>(cb p M f i j:Int)) hp hn0 (fun i hi j hj=>hG.c hn hi hj) hG.2.2.2 hl hr;refine ⟨fun i hi j hj=>⟨fun e=>?_,fun k hk=>?_⟩,?_⟩
  . exact Qz (M:=M) (r:=fun i j=>(cb p M f i j:Int)) hp hl hi hj (hr i hi j hj) (by rw [e];exact ⟨0,by simp⟩)
  . have h:=hco i hi j hj k hk
    rw [← Int.natCast_mul,← Int.natCast_mul] at h;have h6:=(Int.emod_eq_emod_iff_emod_sub_eq_zero).2 (Int.emod_eq_zero_of_dvd h);rw [← Int.natCast_emod,← Int.natCast_emod] at h6;exact Int.ofNat_inj.1 h6
  . have h:=QB (M:=M) (r:=fun i j=>(cb p M f i j:Int)) hp hn0 (hG.2.1 0 hn0).1 hl (hr 0 hn0 0 hn0)
    exact OU h (hJ 0 0) (by omega)
end
theorem PD (P q:Int)(M:Nat->Nat->Nat)(sl:Value)(m:Nat)(F:Nat->Int)(hB:∀ i j,M i j<=255)(hm:m<=100) :
    ∃ (e3:Int) (k:Nat) (C:Nat->Nat->Int),(∀ w,ArgSl w sl m F->CallsR Try.prog 11 #[.int .i64 P,.agg (AB q M),sl] w (fun u w'=>∃ l,u = .tuple #[l,.int .i64 e3]/\NewX (fun D u=>SsX D k C u) w w' l))/\(∀ w,ArgSl w sl m F->CallsR Try.prog 12 #[.int .i64 P,.agg (AB q M),sl] w (fun u w'=>∃ l,u = .tuple #[l,.int .i64 e3]/\NewX (fun D u=>SsX D k C u) w w' l))/\k<=6/\
      (e3=0->∀ w sl2 xs ca be ob,ArgSS w sl2 k (fun _=>k) C xs ca be ob->CallsR Try.prog 8 #[.int .i64 P,.agg (AB q M),sl2] w (fun u _=>u = .tuple #[.bool true,.int .i64 0])):=by
  by_cases hc:GrpP q M
  . have h1:=hc.1
    have h2:=hc.2.1;have hn0:0<q.toNat:=by omega
    have hn:q.toNat<=6:=by omega
    have hG:=hc.2.2;obtain ⟨n,rfl⟩:∃ n:Nat,q=(n:Int):=⟨q.toNat,by omega⟩;rw [show (n:Int).toNat=n by omega] at hn0 hn hG
    by_cases hP:Ae P
    . obtain ⟨p,rfl⟩:∃ p:Nat,P=(p:Int):=⟨P.toNat,by have:=At hP;omega⟩
      have hp:=Gp hP;rw [show (p:Int).toNat=p by omega] at hp;have hO:=hp.two
      by_cases hS:LJ (p:Int) n m F
      . refine ⟨0,n,LQ p M (fOf F),fun w h=>(KJ p n M sl m F w hn0 hn hB hG hP hS h).mono fun u w' _ ⟨l,e,hr⟩=>⟨l,e,SSOutR.newX hn0 hr⟩,fun w h=>(Gf p n M sl m F w hn0 hn hB hG hP hS h).mono fun u w' _ ⟨l,e,hr⟩=>⟨l,e,SSOutR.newX hn0 hr⟩,hn,fun _ w sl2 xs ca be ob hss=>?_⟩
        have hJ:∀ i j,cb p M (fOf F) i j<p:=fun i j=>Nat.mod_lt _ (by omega);have hSh:E3 (p:Int) n n (fun _=>n) (LQ p M (fOf F)):=⟨rfl,fun i hi=>⟨rfl,fun j hj=>by have:=hJ i j;unfold LQ;omega⟩⟩;have h:=DW p n M sl2 n (fun _=>n) _ xs ca be ob w hn0 hn hB hG hP hSh hss (fun i hi=>by omega);rw [decide_eq_true (show Cs p n M (CR (LQ p M (fOf F))) from Q3 hp hn0 hn hG fun i hi=>((Jj hS).2 i hi).2)] at h;exact h
      . exact ⟨2,0,fun _ _=>0,fun w h=>(KL p n M sl m F w hn0 hn hB hG hP hS h (by omega)).mono fun u w' _ e=>⟨_,e,NewX.nilS⟩,fun w h=>(Gg p n M sl m F w hn0 hn hB hG hP hS h).mono fun u w' _ e=>⟨_,e,NewX.nilS⟩,by omega,fun e=>absurd e (by decide)⟩
    . exact ⟨2,0,fun _ _=>0,fun w h=>(KM P n M sl w hn0 hn hB hG hP).mono fun u w' _ e=>⟨_,e,NewX.nilS⟩,fun w h=>(Gh P n M sl m F w hn0 hn hB hG hP h).mono fun u w' _ e=>⟨_,e,NewX.nilS⟩,by omega,fun e=>absurd e (by decide)⟩
  . exact ⟨1,0,fun _ _=>0,fun w h=>(KN P q M sl w hB hc).mono fun u w' _ e=>⟨_,e,NewX.nilS⟩,fun w h=>(Gi P q M sl m F w hB hc h).mono fun u w' _ e=>⟨_,e,NewX.nilS⟩,by omega,fun e=>absurd e (by decide)⟩
theorem Nx:Try.prog.underlying 34=some (.struct (Try.prog.fieldsOf 34)):=by kernel_rfl
theorem Ny:Try.prog.stoodInHeld 34=false:=by kernel_rfl
theorem Nz:Oy (Try.prog.fieldsOf 34).toList 2 31 32=true:=by kernel_rfl
theorem N3:GT Try.prog 31=some (6,25,36):=by kernel_rfl
theorem N0:Try.prog.eqGuardType Try.prog.depth 34=false:=by kernel_rfl
theorem JV:Try.prog.underlying 4=some .bool:=by kernel_rfl
theorem F8:Try.prog.underlying 49=some (.slice 32):=by kernel_rfl
theorem _root_.Go.Sw.NsX.shape {D:Al}{k:Nat}{f:Nat->Nat}{u:Value}(h:NsX D k f u):∃ x c,u = .slice x k c:=by
  rcases h with ⟨rfl,h⟩ | ⟨_,b,cap,cs,_,h⟩
  . exact ⟨_,_,h⟩
  . exact ⟨_,_,h.val⟩
theorem _root_.Go.Sw.VsX.shape {D:Al}{k:Nat}{f:Nat->Nat->Nat}{u:Value}(h:VsX D k f u):∃ x c,u = .slice x k c:=by
  rcases h with ⟨rfl,h⟩ | ⟨_,b,cap,cs,_,h⟩
  . exact ⟨_,_,h⟩
  . exact ⟨_,_,h.val⟩
theorem PK (x:Option Addr)(m c:Nat)(w:World) :
    CallsR Try.prog 4 #[.slice x m c] w (fun res _=>res = .bool (decide (4096<m))):=by
  refine AQ [.slice x m c] Try.func4 rfl Try.ntmps4 rfl fun a O=>?_;have J:AR w w [] []:=MemX.start w 0;change Fr 6 a [(0,.slice x m c)] at O;refine sr<|ag O rfl rfl fun a O=>ns<|mv O rfl rfl fun a O=>st O (B7 Ch O rfl) rfl fun a O=>st O (Cq O rfl rfl) rfl fun a O=>ag O rfl rfl fun a O=>nt<|wp_ret<|Ap rfl O.defers (AE O rfl) ⟨_,rfl,J.below,?_⟩
  show _=_
  exact congrArg Value.bool (decide_eq_decide.2 (by omega))
set_option maxRecDepth 100000 in
set_option maxHeartbeats 4000000 in
theorem Oh (x:Option Addr)(m c:Nat)(w:World)(hm:¬ 4096<m)(hc:CodeB w [] (.slice x m c) m) :
    CallsR Try.prog 3 #[.slice x m c] w (fun res _=>res = .bool true):=by
  refine AQ [.slice x m c] Try.func3 rfl Try.ntmps3 rfl fun a O=>?_;have J:AR w w [none,none,none,none] []:=MemX.start w 4;change Fr 198 a [(0,.slice x m c)] at O;refine sr<|ag O rfl rfl fun a O=>nt<|sq<|sr<|mv O rfl rfl fun a O=>Aj O (AO Try.call4 O (.cons rfl .nil) ((CallsR.val (PK x m c _) (congrArg Value.bool (decide_eq_false hm))))) rfl ?_;rintro _ w' a ⟨hx,rfl⟩ O;have J:=J.ext hx;refine nt<|CN O rfl<|wp_skip<|tN<|sr<|mv O rfl rfl fun a O=>Aj O (AO Try.call5 O (.cons rfl .nil) (E1 m (.slice x m c) _ (hc.carry J.bel (fun y hy=>by cases hy)))) rfl ?_;rintro _ w' a ⟨hx,p1,q1,M1,tb,rfl,hB1,hpb,hN⟩ O;obtain ⟨DT,hTD,J⟩:=J.addX hx hN;obtain ⟨m1,L1,R1,xs1,ca1,be1,ob1,hm1,hL1,hA1⟩:=hTD.arg;obtain ⟨A1,A2,T1,F1,e1,xb1,e2,k1,rg,e4,⟨hT1,hT2⟩,⟨hC1,hC2⟩,⟨hR1,hR2⟩,hk1,hH,hn1,ho1⟩:=PX p1 q1 M1 tb m1 L1 R1 xs1 ca1 be1 ob1 hB1 hL1;refine mv O rfl rfl fun a O=>st O (AZ O rfl rfl) rfl fun a O=>st O (AZ O rfl rfl) rfl fun a O=>st O (AZ O rfl rfl) rfl fun a O=>Aj O (Ax 0 J Br) rfl ?_;rintro _ w' a ⟨b2,rfl,J,-⟩ O;change AR w w' [some (b2,AB 0 (fun _ _=>0)),none,none,none] (DT++[]) at J;refine ag O rfl rfl fun a O=>Bu O (AX 0 J rfl A8 O rfl rfl (A9) (by simp only [AT,AA]) (by simp only [AT,AA]<;>omega) (AP _ _ (by simp only [AT,AA]))) ?_;intro _ w' a J O;change AR _ _ [some (b2,AB q1 M1),_,_,_] _ at J;refine ag O rfl rfl fun a O=>nt<|sq ?_;have O:=O.sub [(0,.slice x m c),(2,.bool (false)),(4,ptr b2 (0)),(3,.int .i64 (p1)),(5,tb)] (by repeat' constructor);refine wp_region_lit<|mv O rfl rfl fun a O=>st O (AF AK O rfl (J.row 0 rfl) (by simp only [AT,AA]<;>omega) (whole (by simp only [AT,AA]))) rfl fun a O=>mv O rfl rfl fun a O=>Aj O (AO Try.call6 O (.cons rfl (.cons rfl (.cons rfl .nil))) (hT1 _ (hA1 _ (fun x ds h=>J.fzm (by simp [h]))))) rfl ?_;rintro _ w' a ⟨hx,rfl⟩ O;have J:=J.ext hx;refine mv O rfl rfl fun a O=>st O (AZ O rfl rfl) rfl fun a O=>st O (AZ O rfl rfl) rfl fun a O=>Aj O (Ax 1 J Bq) rfl ?_;rintro _ w' a ⟨b3,rfl,J,-⟩ O;change AR _ _ [_,some (b3,AY 0 0 (fun _ _ _=>0) (fun _=>0)),_,_] _ at J;refine Bu O (AX 1 J rfl Bs O rfl rfl cells_one (by simp only [AT,AA]) (by simp only [AT,AA]<;>omega) (AP _ _ (by simp only [AT,AA]))) ?_;intro _ w' a J O;change AR _ _ [_,some (b3,AY A1 A2 T1 F1),_,_] _ at J;refine ag O rfl rfl fun a O=>nt<|sq<|sq ?_;have O:=O.sub [(0,.slice x m c),(2,.bool (false)),(4,ptr b2 (0)),(3,.int .i64 (p1)),(5,tb),(6,ptr b3 (0)),(7,.int .i64 (e1))] (by repeat' constructor);refine wp_region_lit<|mv O rfl rfl fun a O=>st O (AF AK O rfl (J.row 0 rfl) (by simp only [AT,AA]<;>omega) (whole (by simp only [AT,AA]))) rfl fun a O=>mv O rfl rfl fun a O=>Aj O (AO Try.call7 O (.cons rfl (.cons rfl (.cons rfl .nil))) (hT2 _ (hA1 _ (fun x ds h=>J.fzm (by simp [h]))))) rfl ?_
  rintro _ w' a ⟨hx,rfl⟩ O;have J:=J.ext hx;refine mv O rfl rfl fun a O=>st O (AZ O rfl rfl) rfl fun a O=>st O (AZ O rfl rfl) rfl fun a O=>Aj O (Ax 2 J Bq) rfl ?_;rintro _ w' a ⟨b4,rfl,J,-⟩ O;change AR _ _ [_,_,some (b4,AY 0 0 (fun _ _ _=>0) (fun _=>0)),_] _ at J;refine Bu O (AX 2 J rfl Bs O rfl rfl cells_one (by simp only [AT,AA]) (by simp only [AT,AA]<;>omega) (AP _ _ (by simp only [AT,AA]))) ?_;intro _ w' a J O;change AR _ _ [_,_,some (b4,AY A1 A2 T1 F1),_] _ at J;refine ag O rfl rfl fun a O=>nt<|sq ?_;have O:=O.sub [(0,.slice x m c),(2,.bool (false)),(4,ptr b2 (0)),(3,.int .i64 (p1)),(5,tb),(6,ptr b3 (0)),(7,.int .i64 (e1)),(8,ptr b4 (0)),(9,.int .i64 (e1))] (by repeat' constructor);refine wp_region_lit<|mv O rfl rfl fun a O=>mv O rfl rfl fun a O=>st O (A0 O rfl rfl) rfl fun a O=>mv O rfl rfl fun a O=>?_
  by_cases g5:(e1:Int)≠e1
  . first | rw [decide_eq_true g5] at O | simp only [decide_eq_true g5] at O
    first | exact absurd rfl g5 | exact absurd trivial g5 | contradiction | (exfalso;omega) | exact absurd (Bool.eq_iff_iff.2 ((hH (by assumption)).trans decide_eq_true_iff.symm)) g5
  first | rw [decide_eq_false g5] at O | simp only [decide_eq_false g5] at O
  refine Ay O rfl rfl rfl (AF A3 O rfl (J.row 1 rfl) (by simp only [AT,AA]<;>omega) (whole Aq)) rfl fun a O=>Ay O rfl rfl rfl (AF A3 O rfl (J.row 2 rfl) (by simp only [AT,AA]<;>omega) (whole Aq)) rfl fun a O=>Ay O rfl rfl rfl (Jz N0 O rfl rfl (Nd Nx Ny Nz Hl AL Kf (O6 N3 D6 GB B9 EW EK Ah) Bc (Eh Kg EK Ah))) rfl fun a O=>st O (Ai O rfl rfl) rfl fun a O=>nt<|AI O rfl (fun h6=>?_) (fun h6=>?_)
  . first | exact absurd rfl h6 | exact absurd trivial h6 | contradiction | (exfalso;omega) | exact absurd (Bool.eq_iff_iff.2 ((hH (by assumption)).trans decide_eq_true_iff.symm)) h6
  refine wp_skip<|tN<|sq ?_;have O:=O.sub [(0,.slice x m c),(2,.bool (false)),(4,ptr b2 (0)),(3,.int .i64 (p1)),(5,tb),(6,ptr b3 (0)),(7,.int .i64 (e1))] (by repeat' constructor);refine wp_region_lit<|mv O rfl rfl fun a O=>st O (AF AK O rfl (J.row 0 rfl) (by simp only [AT,AA]<;>omega) (whole (by simp only [AT,AA]))) rfl fun a O=>mv O rfl rfl fun a O=>Aj O (AO Try.call8 O (.cons rfl (.cons rfl (.cons rfl .nil))) (hC1 _ (hA1 _ (fun x ds h=>J.fzm (by simp [h]))))) rfl ?_;rintro _ w' a ⟨hx,rfl⟩ O;have J:=J.ext hx;refine mv O rfl rfl fun a O=>st O (AZ O rfl rfl) rfl fun a O=>st O (AZ O rfl rfl) rfl fun a O=>ag O rfl rfl fun a O=>ag O rfl rfl fun a O=>nt<|sq<|sq ?_;have O:=O.sub [(0,.slice x m c),(2,.bool (false)),(4,ptr b2 (0)),(3,.int .i64 (p1)),(5,tb),(6,ptr b3 (0)),(7,.int .i64 (e1)),(10,.bool (xb1)),(11,.int .i64 (e2))] (by repeat' constructor);refine wp_region_lit<|mv O rfl rfl fun a O=>st O (AF AK O rfl (J.row 0 rfl) (by simp only [AT,AA]<;>omega) (whole (by simp only [AT,AA]))) rfl fun a O=>mv O rfl rfl fun a O=>Aj O (AO Try.call9 O (.cons rfl (.cons rfl (.cons rfl .nil))) (hC2 _ (hA1 _ (fun x ds h=>J.fzm (by simp [h]))))) rfl ?_;rintro _ w' a ⟨hx,rfl⟩ O;have J:=J.ext hx;refine mv O rfl rfl fun a O=>st O (AZ O rfl rfl) rfl fun a O=>st O (AZ O rfl rfl) rfl fun a O=>ag O rfl rfl fun a O=>ag O rfl rfl fun a O=>nt<|sq ?_;have O:=O.sub [(0,.slice x m c),(2,.bool (false)),(4,ptr b2 (0)),(3,.int .i64 (p1)),(5,tb),(6,ptr b3 (0)),(7,.int .i64 (e1)),(10,.bool (xb1)),(11,.int .i64 (e2)),(12,.bool (xb1)),(13,.int .i64 (e2))] (by repeat' constructor);refine wp_region_lit<|mv O rfl rfl fun a O=>mv O rfl rfl fun a O=>st O (A0 O rfl rfl) rfl fun a O=>mv O rfl rfl fun a O=>?_
  by_cases g7:(e2:Int)≠e2
  . first | rw [decide_eq_true g7] at O | simp only [decide_eq_true g7] at O
    first | exact absurd rfl g7 | exact absurd trivial g7 | contradiction | (exfalso;omega) | exact absurd (Bool.eq_iff_iff.2 ((hH (by assumption)).trans decide_eq_true_iff.symm)) g7
  first | rw [decide_eq_false g7] at O | simp only [decide_eq_false g7] at O
  refine Ay O rfl rfl rfl (AS O rfl) rfl fun a O=>Ay O rfl rfl rfl (AS O rfl) rfl fun a O=>Ay O rfl rfl rfl (Jy JV O rfl rfl) rfl fun a O=>st O (Ai O rfl rfl) rfl fun a O=>nt<|AI O rfl (fun h8=>?_) (fun h8=>?_)
  . first | exact absurd rfl h8 | exact absurd trivial h8 | contradiction | (exfalso;omega) | exact absurd (Bool.eq_iff_iff.2 ((hH (by assumption)).trans decide_eq_true_iff.symm)) h8
  refine wp_skip<|tN<|sq ?_;have O:=O.sub [(0,.slice x m c),(2,.bool (false)),(4,ptr b2 (0)),(3,.int .i64 (p1)),(5,tb),(6,ptr b3 (0)),(7,.int .i64 (e1)),(10,.bool (xb1)),(11,.int .i64 (e2))] (by repeat' constructor);refine wp_region_lit<|mv O rfl rfl fun a O=>Aj O (AO Try.call10 O (.cons rfl .nil) (Fj m (.slice x m c) _ (hc.carry J.bel (fun y hy=>by cases hy)))) rfl ?_;rintro _ w' a ⟨hx,p2,q2,M2,li,k2,F2,rfl,hB2,hk2,hN⟩ O;obtain ⟨DI,hID,J⟩:=J.addX hx hN;obtain ⟨e3,k3,C3,hb1,hb2,hk3,hCo⟩:=PD p2 q2 M2 li k2 F2 hB2 (by omega);refine mv O rfl rfl fun a O=>st O (AZ O rfl rfl) rfl fun a O=>st O (AZ O rfl rfl) rfl fun a O=>st O (AZ O rfl rfl) rfl fun a O=>Aj O (Ax 3 J Br) rfl ?_;rintro _ w' a ⟨b9,rfl,J,-⟩ O;change AR w w' [some (b2,AB q1 M1),some (b3,AY A1 A2 T1 F1),some (b4,AY A1 A2 T1 F1),some (b9,AB 0 (fun _ _=>0))] (DI++(DT++[])) at J;refine ag O rfl rfl fun a O=>Bu O (AX 3 J rfl A8 O rfl rfl (A9) (by simp only [AT,AA]) (by simp only [AT,AA]<;>omega) (AP _ _ (by simp only [AT,AA]))) ?_;intro _ w' a J O;change AR _ _ [_,_,_,some (b9,AB q2 M2)] _ at J;refine ag O rfl rfl fun a O=>nt<|sq ?_;have O:=O.sub [(2,.bool (false)),(4,ptr b2 (0)),(3,.int .i64 (p1)),(5,tb),(6,ptr b3 (0)),(7,.int .i64 (e1)),(10,.bool (xb1)),(11,.int .i64 (e2)),(15,ptr b9 (0)),(14,.int .i64 (p2)),(16,li)] (by repeat' constructor);refine wp_region_lit<|mv O rfl rfl fun a O=>st O (AF AK O rfl (J.row 3 rfl) (by simp only [AT,AA]<;>omega) (whole (by simp only [AT,AA]))) rfl fun a O=>mv O rfl rfl fun a O=>Aj O (AO Try.call11 O (.cons rfl (.cons rfl (.cons rfl .nil))) (hb1 _ (hID.arg (fun x ds h=>J.fzm (by simp [h]))))) rfl ?_;rintro _ w' a ⟨hx,lc1,rfl,hN⟩ O;obtain ⟨DC1,hX1,J⟩:=J.addX hx hN;change AR w w' [some (b2,AB q1 M1),some (b3,AY A1 A2 T1 F1),some (b4,AY A1 A2 T1 F1),some (b9,AB q2 M2)] (DC1++(DI++(DT++[]))) at J;obtain ⟨xs3,ca3,be3,ob3,hA3⟩:=hX1.arg;refine mv O rfl rfl fun a O=>st O (AZ O rfl rfl) rfl fun a O=>st O (AZ O rfl rfl) rfl fun a O=>ag O rfl rfl fun a O=>ag O rfl rfl fun a O=>nt<|sq<|sq ?_;have O:=O.sub [(2,.bool (false)),(4,ptr b2 (0)),(3,.int .i64 (p1)),(5,tb),(6,ptr b3 (0)),(7,.int .i64 (e1)),(10,.bool (xb1)),(11,.int .i64 (e2)),(15,ptr b9 (0)),(14,.int .i64 (p2)),(16,li),(17,lc1),(18,.int .i64 (e3))] (by repeat' constructor);refine wp_region_lit<|mv O rfl rfl fun a O=>st O (AF AK O rfl (J.row 3 rfl) (by simp only [AT,AA]<;>omega) (whole (by simp only [AT,AA]))) rfl fun a O=>mv O rfl rfl fun a O=>Aj O (AO Try.call12 O (.cons rfl (.cons rfl (.cons rfl .nil))) (hb2 _ (hID.arg (fun x ds h=>J.fzm (by simp [h]))))) rfl ?_;rintro _ w' a ⟨hx,lc2,rfl,hN⟩ O;obtain ⟨DC2,hX2,J⟩:=J.addX hx hN;change AR w w' [some (b2,AB q1 M1),some (b3,AY A1 A2 T1 F1),some (b4,AY A1 A2 T1 F1),some (b9,AB q2 M2)] (DC2++(DC1++(DI++(DT++[])))) at J;refine mv O rfl rfl fun a O=>st O (AZ O rfl rfl) rfl fun a O=>st O (AZ O rfl rfl) rfl fun a O=>ag O rfl rfl fun a O=>ag O rfl rfl fun a O=>nt<|sq ?_
  have O:=O.sub [(2,.bool (false)),(4,ptr b2 (0)),(3,.int .i64 (p1)),(5,tb),(6,ptr b3 (0)),(7,.int .i64 (e1)),(10,.bool (xb1)),(11,.int .i64 (e2)),(15,ptr b9 (0)),(14,.int .i64 (p2)),(17,lc1),(18,.int .i64 (e3)),(19,lc2),(20,.int .i64 (e3))] (by repeat' constructor);refine wp_region_lit<|mv O rfl rfl fun a O=>mv O rfl rfl fun a O=>st O (A0 O rfl rfl) rfl fun a O=>mv O rfl rfl fun a O=>?_
  by_cases g10:(e3:Int)≠e3
  . first | rw [decide_eq_true g10] at O | simp only [decide_eq_true g10] at O
    first | exact absurd rfl g10 | exact absurd trivial g10 | contradiction | (exfalso;omega) | exact absurd (Bool.eq_iff_iff.2 ((hH (by assumption)).trans decide_eq_true_iff.symm)) g10
  first | rw [decide_eq_false g10] at O | simp only [decide_eq_false g10] at O
  refine Ay O rfl rfl rfl (AS O rfl) rfl fun a O=>Ay O rfl rfl rfl (AS O rfl) rfl fun a O=>EX O rfl rfl rfl (AO Try.call13 O (.cons rfl (.cons rfl .nil)) (Od hk3 (hX1.more (fun x hx=>by simp [hx])) (hX2.more (fun x hx=>by simp [hx])) (fun _ _ h=>J.fzm h))) rfl ?_;rintro _ w' a ⟨hx,rfl⟩ O;have J:=J.ext hx;refine Ay O rfl rfl rfl (Co (b:=true) O rfl) rfl fun a O=>st O (Ai O rfl rfl) rfl fun a O=>nt<|CN O rfl<|wp_skip<|tN<|sq ?_;have O:=O.sub [(2,.bool (false)),(4,ptr b2 (0)),(3,.int .i64 (p1)),(5,tb),(6,ptr b3 (0)),(7,.int .i64 (e1)),(10,.bool (xb1)),(11,.int .i64 (e2)),(15,ptr b9 (0)),(14,.int .i64 (p2)),(17,lc1),(18,.int .i64 (e3))] (by repeat' constructor);refine wp_region_lit<|mv O rfl rfl fun a O=>st O (AF AK O rfl (J.row 0 rfl) (by simp only [AT,AA]<;>omega) (whole (by simp only [AT,AA]))) rfl fun a O=>mv O rfl rfl fun a O=>Aj O (AO Try.call14 O (.cons rfl (.cons rfl (.cons rfl .nil))) (hR1 _ (hA1 _ (fun x ds h=>J.fzm (by simp [h]))))) rfl ?_;rintro _ w' a ⟨hx,lr1,rfl,hN⟩ O;obtain ⟨DR1,hY1,J⟩:=J.addX hx hN;change AR w w' [some (b2,AB q1 M1),some (b3,AY A1 A2 T1 F1),some (b4,AY A1 A2 T1 F1),some (b9,AB q2 M2)] (DR1++(DC2++(DC1++(DI++(DT++[]))))) at J;obtain ⟨xr1,cr1,rfl⟩:=hY1.shape;refine mv O rfl rfl fun a O=>st O (AZ O rfl rfl) rfl fun a O=>st O (AZ O rfl rfl) rfl fun a O=>ag O rfl rfl fun a O=>ag O rfl rfl fun a O=>nt<|sq<|sq ?_;have O:=O.sub [(2,.bool (false)),(4,ptr b2 (0)),(3,.int .i64 (p1)),(5,tb),(6,ptr b3 (0)),(7,.int .i64 (e1)),(10,.bool (xb1)),(11,.int .i64 (e2)),(15,ptr b9 (0)),(14,.int .i64 (p2)),(17,lc1),(18,.int .i64 (e3)),(21,.slice xr1 k1 cr1),(22,.int .i64 (e4))] (by repeat' constructor);refine wp_region_lit<|mv O rfl rfl fun a O=>st O (AF AK O rfl (J.row 0 rfl) (by simp only [AT,AA]<;>omega) (whole (by simp only [AT,AA]))) rfl fun a O=>mv O rfl rfl fun a O=>Aj O (AO Try.call15 O (.cons rfl (.cons rfl (.cons rfl .nil))) (hR2 _ (hA1 _ (fun x ds h=>J.fzm (by simp [h]))))) rfl ?_;rintro _ w' a ⟨hx,lr2,rfl,hN⟩ O;obtain ⟨DR2,hY2,J⟩:=J.addX hx hN;change AR w w' [some (b2,AB q1 M1),some (b3,AY A1 A2 T1 F1),some (b4,AY A1 A2 T1 F1),some (b9,AB q2 M2)] (DR2++(DR1++(DC2++(DC1++(DI++(DT++[])))))) at J;obtain ⟨xr2,cr2,rfl⟩:=hY2.shape;refine mv O rfl rfl fun a O=>st O (AZ O rfl rfl) rfl fun a O=>st O (AZ O rfl rfl) rfl fun a O=>ag O rfl rfl fun a O=>ag O rfl rfl fun a O=>nt<|sq ?_;have O:=O.sub [(2,.bool (false)),(6,ptr b3 (0)),(7,.int .i64 (e1)),(10,.bool (xb1)),(11,.int .i64 (e2)),(15,ptr b9 (0)),(14,.int .i64 (p2)),(17,lc1),(18,.int .i64 (e3)),(21,.slice xr1 k1 cr1),(22,.int .i64 (e4)),(23,.slice xr2 k1 cr2),(24,.int .i64 (e4))] (by repeat' constructor);refine wp_region_lit<|mv O rfl rfl fun a O=>mv O rfl rfl fun a O=>st O (A0 O rfl rfl) rfl fun a O=>mv O rfl rfl fun a O=>?_
  by_cases g12:(e4:Int)≠e4
  . first | rw [decide_eq_true g12] at O | simp only [decide_eq_true g12] at O
    first | exact absurd rfl g12 | exact absurd trivial g12 | contradiction | (exfalso;omega) | exact absurd (Bool.eq_iff_iff.2 ((hH (by assumption)).trans decide_eq_true_iff.symm)) g12
  first | rw [decide_eq_false g12] at O | simp only [decide_eq_false g12] at O
  refine Ay O rfl rfl rfl (AS O rfl) rfl fun a O=>Ay O rfl rfl rfl (AS O rfl) rfl fun a O=>EX O rfl rfl rfl (AO Try.call16 O (.cons rfl (.cons rfl .nil)) (Pv hk1 (hY1.more (fun x hx=>by simp [hx])) (hY2.more (fun x hx=>by simp [hx])) (fun _ _ h=>J.fzm h))) rfl ?_;rintro _ w' a ⟨hx,rfl⟩ O;have J:=J.ext hx;refine Ay O rfl rfl rfl (Co (b:=true) O rfl) rfl fun a O=>st O (Ai O rfl rfl) rfl fun a O=>nt<|CN O rfl<|wp_skip<|tN<|sq<|sq ?_;have O:=O.sub [(2,.bool (false)),(6,ptr b3 (0)),(7,.int .i64 (e1)),(10,.bool (xb1)),(11,.int .i64 (e2)),(15,ptr b9 (0)),(14,.int .i64 (p2)),(17,lc1),(18,.int .i64 (e3)),(21,.slice xr1 k1 cr1),(22,.int .i64 (e4))] (by repeat' constructor);refine wp_region_lit<|mv O rfl rfl fun a O=>st O (Ao O rfl rfl) rfl fun a O=>nt<|AI O rfl (fun h14=>?_) (fun h14=>?_)
  . have he3:=h14
    refine sr<|mv O rfl rfl fun a O=>st O (AF AK O rfl (J.row 3 rfl) (by simp only [AT,AA]<;>omega) (whole (by simp only [AT,AA]))) rfl fun a O=>mv O rfl rfl fun a O=>Aj O (AO Try.call8 O (.cons rfl (.cons rfl (.cons rfl .nil))) (hCo he3 _ _ xs3 ca3 be3 ob3 (hA3 _ (fun x ds h=>J.fzm (by simp [h]))))) rfl ?_;rintro _ w' a ⟨hx,rfl⟩ O;have J:=J.ext hx;refine mv O rfl rfl fun a O=>st O (AZ O rfl rfl) rfl fun a O=>st O (AZ O rfl rfl) rfl fun a O=>ag O rfl rfl fun a O=>ag O rfl rfl fun a O=>nt<|sq ?_;have O:=O.sub [(2,.bool (false)),(6,ptr b3 (0)),(7,.int .i64 (e1)),(10,.bool (xb1)),(11,.int .i64 (e2)),(21,.slice xr1 k1 cr1),(22,.int .i64 (e4)),(25,.bool (true)),(26,.int .i64 (0))] (by repeat' constructor);refine wp_region_lit<|mv O rfl rfl fun a O=>st O (A0 O rfl rfl) rfl fun a O=>mv O rfl rfl fun a O=>?_;rw [show decide ((0:Int)≠0)=false from by decide] at O;refine Ay O rfl rfl rfl (AS O rfl) rfl fun a O=>Ay O rfl rfl rfl (Co (b:=true) O rfl) rfl fun a O=>st O (Ai O rfl rfl) rfl fun a O=>nt<|CN O rfl<|wp_skip<|tN<|sq<|sq ?_;have O:=O.sub [(2,.bool (false)),(6,ptr b3 (0)),(7,.int .i64 (e1)),(10,.bool (xb1)),(11,.int .i64 (e2)),(21,.slice xr1 k1 cr1),(22,.int .i64 (e4))] (by repeat' constructor);refine wp_region_lit<|mv O rfl rfl fun a O=>st O (Ao O rfl rfl) rfl fun a O=>mv O rfl rfl fun a O=>?_
    by_cases g16:(e2:Int)=0
    . first | rw [decide_eq_true g16] at O | simp only [decide_eq_true g16] at O
      refine Ay O rfl rfl rfl (AS O rfl) rfl fun a O=>Ay O rfl rfl rfl (AS O rfl) rfl fun a O=>Ay O rfl rfl rfl (Ao O rfl rfl) rfl fun a O=>Ay O rfl rfl rfl (Jy JV O rfl rfl) rfl fun a O=>st O (Aa O rfl rfl) rfl fun a O=>nt<|AI O rfl (fun h17=>?_) (fun h17=>?_)
      . first | exact absurd rfl h17 | exact absurd trivial h17 | contradiction | (exfalso;omega) | exact absurd (Bool.eq_iff_iff.2 ((hH (by assumption)).trans decide_eq_true_iff.symm)) h17
      refine wp_skip<|tN<|sq<|sq ?_;have O:=O.sub [(2,.bool (false)),(6,ptr b3 (0)),(7,.int .i64 (e1)),(21,.slice xr1 k1 cr1),(22,.int .i64 (e4))] (by repeat' constructor);refine wp_region_lit<|mv O rfl rfl fun a O=>st O (A0 O rfl rfl) rfl fun a O=>nt<|AI O rfl (fun h18=>?_) (fun h18=>?_)
      . have hz1:=hn1 h18
        refine sr<|mv O rfl rfl fun a O=>mv O rfl rfl fun a O=>st O (Ao O rfl rfl) rfl fun a O=>mv O rfl rfl fun a O=>?_
        by_cases g19:(e4:Int)=e1
        . first | rw [decide_eq_true g19] at O | simp only [decide_eq_true g19] at O
          refine Ay O rfl rfl rfl (AS O rfl) rfl fun a O=>Ay O rfl rfl rfl (B7 A7 O rfl) rfl fun a O=>Ay O rfl rfl rfl (Ao O rfl rfl) rfl fun a O=>st O (Aa O rfl rfl) rfl fun a O=>ag O rfl rfl fun a O=>nt<|wp_ret<|tR<|Ap rfl O.defers (AE O rfl) ⟨_,rfl,J.below,?_⟩
          show _=_
          first | rfl | exact congrArg Value.bool (decide_eq_true (by omega))
        first | rw [decide_eq_false g19] at O | simp only [decide_eq_false g19] at O
        first | exact absurd rfl g19 | exact absurd trivial g19 | contradiction | (exfalso;omega) | exact absurd (Bool.eq_iff_iff.2 ((hH (by assumption)).trans decide_eq_true_iff.symm)) g19
      obtain ⟨h40,hU,VZ,hO2⟩:=ho1 (by omega);refine wp_skip<|tN<|sr<|st O (AF A3 O rfl (J.row 1 rfl) (by simp only [AT,AA]<;>omega) (whole Aq)) rfl fun a O=>Aj O (AO Try.call17 O (.cons rfl .nil) (hU _)) rfl ?_;rintro _ w' a ⟨hx,rfl⟩ O;have J:=J.ext hx;refine mv O rfl rfl fun a O=>st O (AZ O rfl rfl) rfl fun a O=>st O (AZ O rfl rfl) rfl fun a O=>ag O rfl rfl fun a O=>ag O rfl rfl fun a O=>nt<|sq ?_;have O:=O.sub [(2,.bool (false)),(6,ptr b3 (0)),(21,.slice xr1 k1 cr1),(22,.int .i64 (e4)),(27,.bool (true)),(28,.int .i64 (0))] (by repeat' constructor);refine wp_region_lit<|st O (AF A3 O rfl (J.row 1 rfl) (by simp only [AT,AA]<;>omega) (whole Aq)) rfl fun a O=>Aj O (AO Try.call18 O (.cons rfl .nil) (hO2 _)) rfl ?_;rintro _ w' a ⟨hx,lz,rfl,hN⟩ O;obtain ⟨DZz,hZz,J⟩:=J.addX hx hN;change AR w w' [some (b2,AB q1 M1),some (b3,AY A1 A2 T1 F1),some (b4,AY A1 A2 T1 F1),some (b9,AB q2 M2)] (DZz++(DR2++(DR1++(DC2++(DC1++(DI++(DT++[]))))))) at J;obtain ⟨xz,cz,rfl⟩:=hZz.shape;refine mv O rfl rfl fun a O=>st O (AZ O rfl rfl) rfl fun a O=>st O (AZ O rfl rfl) rfl fun a O=>ag O rfl rfl fun a O=>ag O rfl rfl fun a O=>nt<|sq ?_;have O:=O.sub [(2,.bool (false)),(21,.slice xr1 k1 cr1),(22,.int .i64 (e4)),(27,.bool (true)),(28,.int .i64 (0)),(29,.slice xz k1 cz),(30,.int .i64 (0))] (by repeat' constructor);refine wp_region_lit<|mv O rfl rfl fun a O=>st O (Ao O rfl rfl) rfl fun a O=>mv O rfl rfl fun a O=>?_;rw [show decide ((0:Int)=0)=true from by decide] at O;refine Ay O rfl rfl rfl (AS O rfl) rfl fun a O=>st O (Aa O rfl rfl) rfl fun a O=>mv O rfl rfl fun a O=>Ay O rfl rfl rfl (AS O rfl) rfl fun a O=>Ay O rfl rfl rfl (Ao O rfl rfl) rfl fun a O=>st O (Aa O rfl rfl) rfl fun a O=>mv O rfl rfl fun a O=>?_;rw [show decide ((0:Int)=0)=true from by decide] at O;refine Ay O rfl rfl rfl (AS O rfl) rfl fun a O=>Ay O rfl rfl rfl (Ao O rfl rfl) rfl fun a O=>st O (Aa O rfl rfl) rfl fun a O=>mv O rfl rfl fun a O=>?_
      by_cases g20:(e4:Int)=0
      . first | rw [decide_eq_true g20] at O | simp only [decide_eq_true g20] at O
        refine Ay O rfl rfl rfl (AS O rfl) rfl fun a O=>Ay O rfl rfl rfl (B7 F8 O rfl) rfl fun a O=>Ay O rfl rfl rfl (AS O rfl) rfl fun a O=>Ay O rfl rfl rfl (B7 A7 O rfl) rfl fun a O=>Ay O rfl rfl rfl (Ao O rfl rfl) rfl fun a O=>st O (Aa O rfl rfl) rfl fun a O=>ag O rfl rfl fun a O=>nt<|wp_ret<|Ap rfl O.defers (AE O rfl) ⟨_,rfl,J.below,?_⟩
        show _=_
        first | rfl | exact congrArg Value.bool (decide_eq_true (by omega))
      first | rw [decide_eq_false g20] at O | simp only [decide_eq_false g20] at O
      first | exact absurd rfl g20 | exact absurd trivial g20 | contradiction | (exfalso;omega) | exact absurd (Bool.eq_iff_iff.2 ((hH (by assumption)).trans decide_eq_true_iff.symm)) g20
    first | rw [decide_eq_false g16] at O | simp only [decide_eq_false g16] at O
    refine A4 O rfl rfl rfl rfl rfl fun a O=>A4 O rfl rfl rfl rfl rfl fun a O=>A4 O rfl rfl rfl rfl rfl fun a O=>A4 O rfl rfl rfl rfl rfl fun a O=>st O (Ai O rfl rfl) rfl fun a O=>nt<|CN O rfl<|wp_skip<|tN<|sq<|sq ?_;have O:=O.sub [(2,.bool (false)),(6,ptr b3 (0)),(7,.int .i64 (e1)),(21,.slice xr1 k1 cr1),(22,.int .i64 (e4))] (by repeat' constructor);refine wp_region_lit<|mv O rfl rfl fun a O=>st O (A0 O rfl rfl) rfl fun a O=>nt<|AI O rfl (fun h22=>?_) (fun h22=>?_)
    . have hz1:=hn1 h22
      refine sr<|mv O rfl rfl fun a O=>mv O rfl rfl fun a O=>st O (Ao O rfl rfl) rfl fun a O=>mv O rfl rfl fun a O=>?_
      by_cases g23:(e4:Int)=e1
      . first | rw [decide_eq_true g23] at O | simp only [decide_eq_true g23] at O
        refine Ay O rfl rfl rfl (AS O rfl) rfl fun a O=>Ay O rfl rfl rfl (B7 A7 O rfl) rfl fun a O=>Ay O rfl rfl rfl (Ao O rfl rfl) rfl fun a O=>st O (Aa O rfl rfl) rfl fun a O=>ag O rfl rfl fun a O=>nt<|wp_ret<|tR<|Ap rfl O.defers (AE O rfl) ⟨_,rfl,J.below,?_⟩
        show _=_
        first | rfl | exact congrArg Value.bool (decide_eq_true (by omega))
      first | rw [decide_eq_false g23] at O | simp only [decide_eq_false g23] at O
      first | exact absurd rfl g23 | exact absurd trivial g23 | contradiction | (exfalso;omega) | exact absurd (Bool.eq_iff_iff.2 ((hH (by assumption)).trans decide_eq_true_iff.symm)) g23
    obtain ⟨h40,hU,VZ,hO2⟩:=ho1 (by omega);refine wp_skip<|tN<|sr<|st O (AF A3 O rfl (J.row 1 rfl) (by simp only [AT,AA]<;>omega) (whole Aq)) rfl fun a O=>Aj O (AO Try.call17 O (.cons rfl .nil) (hU _)) rfl ?_;rintro _ w' a ⟨hx,rfl⟩ O;have J:=J.ext hx;refine mv O rfl rfl fun a O=>st O (AZ O rfl rfl) rfl fun a O=>st O (AZ O rfl rfl) rfl fun a O=>ag O rfl rfl fun a O=>ag O rfl rfl fun a O=>nt<|sq ?_;have O:=O.sub [(2,.bool (false)),(6,ptr b3 (0)),(21,.slice xr1 k1 cr1),(22,.int .i64 (e4)),(27,.bool (true)),(28,.int .i64 (0))] (by repeat' constructor);refine wp_region_lit<|st O (AF A3 O rfl (J.row 1 rfl) (by simp only [AT,AA]<;>omega) (whole Aq)) rfl fun a O=>Aj O (AO Try.call18 O (.cons rfl .nil) (hO2 _)) rfl ?_;rintro _ w' a ⟨hx,lz,rfl,hN⟩ O;obtain ⟨DZz,hZz,J⟩:=J.addX hx hN;change AR w w' [some (b2,AB q1 M1),some (b3,AY A1 A2 T1 F1),some (b4,AY A1 A2 T1 F1),some (b9,AB q2 M2)] (DZz++(DR2++(DR1++(DC2++(DC1++(DI++(DT++[]))))))) at J;obtain ⟨xz,cz,rfl⟩:=hZz.shape;refine mv O rfl rfl fun a O=>st O (AZ O rfl rfl) rfl fun a O=>st O (AZ O rfl rfl) rfl fun a O=>ag O rfl rfl fun a O=>ag O rfl rfl fun a O=>nt<|sq ?_;have O:=O.sub [(2,.bool (false)),(21,.slice xr1 k1 cr1),(22,.int .i64 (e4)),(27,.bool (true)),(28,.int .i64 (0)),(29,.slice xz k1 cz),(30,.int .i64 (0))] (by repeat' constructor);refine wp_region_lit<|mv O rfl rfl fun a O=>st O (Ao O rfl rfl) rfl fun a O=>mv O rfl rfl fun a O=>?_;rw [show decide ((0:Int)=0)=true from by decide] at O;refine Ay O rfl rfl rfl (AS O rfl) rfl fun a O=>st O (Aa O rfl rfl) rfl fun a O=>mv O rfl rfl fun a O=>Ay O rfl rfl rfl (AS O rfl) rfl fun a O=>Ay O rfl rfl rfl (Ao O rfl rfl) rfl fun a O=>st O (Aa O rfl rfl) rfl fun a O=>mv O rfl rfl fun a O=>?_;rw [show decide ((0:Int)=0)=true from by decide] at O;refine Ay O rfl rfl rfl (AS O rfl) rfl fun a O=>Ay O rfl rfl rfl (Ao O rfl rfl) rfl fun a O=>st O (Aa O rfl rfl) rfl fun a O=>mv O rfl rfl fun a O=>?_
    by_cases g24:(e4:Int)=0
    . first | rw [decide_eq_true g24] at O | simp only [decide_eq_true g24] at O
      refine Ay O rfl rfl rfl (AS O rfl) rfl fun a O=>Ay O rfl rfl rfl (B7 F8 O rfl) rfl fun a O=>Ay O rfl rfl rfl (AS O rfl) rfl fun a O=>Ay O rfl rfl rfl (B7 A7 O rfl) rfl fun a O=>Ay O rfl rfl rfl (Ao O rfl rfl) rfl fun a O=>st O (Aa O rfl rfl) rfl fun a O=>ag O rfl rfl fun a O=>nt<|wp_ret<|Ap rfl O.defers (AE O rfl) ⟨_,rfl,J.below,?_⟩
      show _=_
      first | rfl | exact congrArg Value.bool (decide_eq_true (by omega))
    first | rw [decide_eq_false g24] at O | simp only [decide_eq_false g24] at O
    first | exact absurd rfl g24 | exact absurd trivial g24 | contradiction | (exfalso;omega) | exact absurd (Bool.eq_iff_iff.2 ((hH (by assumption)).trans decide_eq_true_iff.symm)) g24
  refine wp_skip<|tN<|sq<|sq ?_;have O:=O.sub [(2,.bool (false)),(6,ptr b3 (0)),(7,.int .i64 (e1)),(10,.bool (xb1)),(11,.int .i64 (e2)),(21,.slice xr1 k1 cr1),(22,.int .i64 (e4))] (by repeat' constructor);refine wp_region_lit<|mv O rfl rfl fun a O=>st O (Ao O rfl rfl) rfl fun a O=>mv O rfl rfl fun a O=>?_
  by_cases g25:(e2:Int)=0
  . first | rw [decide_eq_true g25] at O | simp only [decide_eq_true g25] at O
    refine Ay O rfl rfl rfl (AS O rfl) rfl fun a O=>Ay O rfl rfl rfl (AS O rfl) rfl fun a O=>Ay O rfl rfl rfl (Ao O rfl rfl) rfl fun a O=>Ay O rfl rfl rfl (Jy JV O rfl rfl) rfl fun a O=>st O (Aa O rfl rfl) rfl fun a O=>nt<|AI O rfl (fun h26=>?_) (fun h26=>?_)
    . first | exact absurd rfl h26 | exact absurd trivial h26 | contradiction | (exfalso;omega) | exact absurd (Bool.eq_iff_iff.2 ((hH (by assumption)).trans decide_eq_true_iff.symm)) h26
    refine wp_skip<|tN<|sq<|sq ?_;have O:=O.sub [(2,.bool (false)),(6,ptr b3 (0)),(7,.int .i64 (e1)),(21,.slice xr1 k1 cr1),(22,.int .i64 (e4))] (by repeat' constructor);refine wp_region_lit<|mv O rfl rfl fun a O=>st O (A0 O rfl rfl) rfl fun a O=>nt<|AI O rfl (fun h27=>?_) (fun h27=>?_)
    . have hz1:=hn1 h27
      refine sr<|mv O rfl rfl fun a O=>mv O rfl rfl fun a O=>st O (Ao O rfl rfl) rfl fun a O=>mv O rfl rfl fun a O=>?_
      by_cases g28:(e4:Int)=e1
      . first | rw [decide_eq_true g28] at O | simp only [decide_eq_true g28] at O
        refine Ay O rfl rfl rfl (AS O rfl) rfl fun a O=>Ay O rfl rfl rfl (B7 A7 O rfl) rfl fun a O=>Ay O rfl rfl rfl (Ao O rfl rfl) rfl fun a O=>st O (Aa O rfl rfl) rfl fun a O=>ag O rfl rfl fun a O=>nt<|wp_ret<|tR<|Ap rfl O.defers (AE O rfl) ⟨_,rfl,J.below,?_⟩
        show _=_
        first | rfl | exact congrArg Value.bool (decide_eq_true (by omega))
      first | rw [decide_eq_false g28] at O | simp only [decide_eq_false g28] at O
      first | exact absurd rfl g28 | exact absurd trivial g28 | contradiction | (exfalso;omega) | exact absurd (Bool.eq_iff_iff.2 ((hH (by assumption)).trans decide_eq_true_iff.symm)) g28
    obtain ⟨h40,hU,VZ,hO2⟩:=ho1 (by omega);refine wp_skip<|tN<|sr<|st O (AF A3 O rfl (J.row 1 rfl) (by simp only [AT,AA]<;>omega) (whole Aq)) rfl fun a O=>Aj O (AO Try.call17 O (.cons rfl .nil) (hU _)) rfl ?_;rintro _ w' a ⟨hx,rfl⟩ O;have J:=J.ext hx;refine mv O rfl rfl fun a O=>st O (AZ O rfl rfl) rfl fun a O=>st O (AZ O rfl rfl) rfl fun a O=>ag O rfl rfl fun a O=>ag O rfl rfl fun a O=>nt<|sq ?_;have O:=O.sub [(2,.bool (false)),(6,ptr b3 (0)),(21,.slice xr1 k1 cr1),(22,.int .i64 (e4)),(27,.bool (true)),(28,.int .i64 (0))] (by repeat' constructor);refine wp_region_lit<|st O (AF A3 O rfl (J.row 1 rfl) (by simp only [AT,AA]<;>omega) (whole Aq)) rfl fun a O=>Aj O (AO Try.call18 O (.cons rfl .nil) (hO2 _)) rfl ?_;rintro _ w' a ⟨hx,lz,rfl,hN⟩ O;obtain ⟨DZz,hZz,J⟩:=J.addX hx hN;change AR w w' [some (b2,AB q1 M1),some (b3,AY A1 A2 T1 F1),some (b4,AY A1 A2 T1 F1),some (b9,AB q2 M2)] (DZz++(DR2++(DR1++(DC2++(DC1++(DI++(DT++[]))))))) at J;obtain ⟨xz,cz,rfl⟩:=hZz.shape;refine mv O rfl rfl fun a O=>st O (AZ O rfl rfl) rfl fun a O=>st O (AZ O rfl rfl) rfl fun a O=>ag O rfl rfl fun a O=>ag O rfl rfl fun a O=>nt<|sq ?_;have O:=O.sub [(2,.bool (false)),(21,.slice xr1 k1 cr1),(22,.int .i64 (e4)),(27,.bool (true)),(28,.int .i64 (0)),(29,.slice xz k1 cz),(30,.int .i64 (0))] (by repeat' constructor);refine wp_region_lit<|mv O rfl rfl fun a O=>st O (Ao O rfl rfl) rfl fun a O=>mv O rfl rfl fun a O=>?_;rw [show decide ((0:Int)=0)=true from by decide] at O;refine Ay O rfl rfl rfl (AS O rfl) rfl fun a O=>st O (Aa O rfl rfl) rfl fun a O=>mv O rfl rfl fun a O=>Ay O rfl rfl rfl (AS O rfl) rfl fun a O=>Ay O rfl rfl rfl (Ao O rfl rfl) rfl fun a O=>st O (Aa O rfl rfl) rfl fun a O=>mv O rfl rfl fun a O=>?_;rw [show decide ((0:Int)=0)=true from by decide] at O;refine Ay O rfl rfl rfl (AS O rfl) rfl fun a O=>Ay O rfl rfl rfl (Ao O rfl rfl) rfl fun a O=>st O (Aa O rfl rfl) rfl fun a O=>mv O rfl rfl fun a O=>?_
    by_cases g29:(e4:Int)=0
    . first | rw [decide_eq_true g29] at O | simp only [decide_eq_true g29] at O
      refine Ay O rfl rfl rfl (AS O rfl) rfl fun a O=>Ay O rfl rfl rfl (B7 F8 O rfl) rfl fun a O=>Ay O rfl rfl rfl (AS O rfl) rfl fun a O=>Ay O rfl rfl rfl (B7 A7 O rfl) rfl fun a O=>Ay O rfl rfl rfl (Ao O rfl rfl) rfl fun a O=>st O (Aa O rfl rfl) rfl fun a O=>ag O rfl rfl fun a O=>nt<|wp_ret<|Ap rfl O.defers (AE O rfl) ⟨_,rfl,J.below,?_⟩
      show _=_
      first | rfl | exact congrArg Value.bool (decide_eq_true (by omega))
    first | rw [decide_eq_false g29] at O | simp only [decide_eq_false g29] at O
    first | exact absurd rfl g29 | exact absurd trivial g29 | contradiction | (exfalso;omega) | exact absurd (Bool.eq_iff_iff.2 ((hH (by assumption)).trans decide_eq_true_iff.symm)) g29
  first | rw [decide_eq_false g25] at O | simp only [decide_eq_false g25] at O
  refine A4 O rfl rfl rfl rfl rfl fun a O=>A4 O rfl rfl rfl rfl rfl fun a O=>A4 O rfl rfl rfl rfl rfl fun a O=>A4 O rfl rfl rfl rfl rfl fun a O=>st O (Ai O rfl rfl) rfl fun a O=>nt<|CN O rfl<|wp_skip<|tN<|sq<|sq ?_;have O:=O.sub [(2,.bool (false)),(6,ptr b3 (0)),(7,.int .i64 (e1)),(21,.slice xr1 k1 cr1),(22,.int .i64 (e4))] (by repeat' constructor);refine wp_region_lit<|mv O rfl rfl fun a O=>st O (A0 O rfl rfl) rfl fun a O=>nt<|AI O rfl (fun h31=>?_) (fun h31=>?_)
  . have hz1:=hn1 h31
    refine sr<|mv O rfl rfl fun a O=>mv O rfl rfl fun a O=>st O (Ao O rfl rfl) rfl fun a O=>mv O rfl rfl fun a O=>?_
    by_cases g32:(e4:Int)=e1
    . first | rw [decide_eq_true g32] at O | simp only [decide_eq_true g32] at O
      refine Ay O rfl rfl rfl (AS O rfl) rfl fun a O=>Ay O rfl rfl rfl (B7 A7 O rfl) rfl fun a O=>Ay O rfl rfl rfl (Ao O rfl rfl) rfl fun a O=>st O (Aa O rfl rfl) rfl fun a O=>ag O rfl rfl fun a O=>nt<|wp_ret<|tR<|Ap rfl O.defers (AE O rfl) ⟨_,rfl,J.below,?_⟩
      show _=_
      first | rfl | exact congrArg Value.bool (decide_eq_true (by omega))
    first | rw [decide_eq_false g32] at O | simp only [decide_eq_false g32] at O
    first | exact absurd rfl g32 | exact absurd trivial g32 | contradiction | (exfalso;omega) | exact absurd (Bool.eq_iff_iff.2 ((hH (by assumption)).trans decide_eq_true_iff.symm)) g32
  obtain ⟨h40,hU,VZ,hO2⟩:=ho1 (by omega);refine wp_skip<|tN<|sr<|st O (AF A3 O rfl (J.row 1 rfl) (by simp only [AT,AA]<;>omega) (whole Aq)) rfl fun a O=>Aj O (AO Try.call17 O (.cons rfl .nil) (hU _)) rfl ?_;rintro _ w' a ⟨hx,rfl⟩ O;have J:=J.ext hx;refine mv O rfl rfl fun a O=>st O (AZ O rfl rfl) rfl fun a O=>st O (AZ O rfl rfl) rfl fun a O=>ag O rfl rfl fun a O=>ag O rfl rfl fun a O=>nt<|sq ?_;have O:=O.sub [(2,.bool (false)),(6,ptr b3 (0)),(21,.slice xr1 k1 cr1),(22,.int .i64 (e4)),(27,.bool (true)),(28,.int .i64 (0))] (by repeat' constructor);refine wp_region_lit<|st O (AF A3 O rfl (J.row 1 rfl) (by simp only [AT,AA]<;>omega) (whole Aq)) rfl fun a O=>Aj O (AO Try.call18 O (.cons rfl .nil) (hO2 _)) rfl ?_;rintro _ w' a ⟨hx,lz,rfl,hN⟩ O;obtain ⟨DZz,hZz,J⟩:=J.addX hx hN;change AR w w' [some (b2,AB q1 M1),some (b3,AY A1 A2 T1 F1),some (b4,AY A1 A2 T1 F1),some (b9,AB q2 M2)] (DZz++(DR2++(DR1++(DC2++(DC1++(DI++(DT++[]))))))) at J;obtain ⟨xz,cz,rfl⟩:=hZz.shape;refine mv O rfl rfl fun a O=>st O (AZ O rfl rfl) rfl fun a O=>st O (AZ O rfl rfl) rfl fun a O=>ag O rfl rfl fun a O=>ag O rfl rfl fun a O=>nt<|sq ?_;have O:=O.sub [(2,.bool (false)),(21,.slice xr1 k1 cr1),(22,.int .i64 (e4)),(27,.bool (true)),(28,.int .i64 (0)),(29,.slice xz k1 cz),(30,.int .i64 (0))] (by repeat' constructor);refine wp_region_lit<|mv O rfl rfl fun a O=>st O (Ao O rfl rfl) rfl fun a O=>mv O rfl rfl fun a O=>?_;rw [show decide ((0:Int)=0)=true from by decide] at O;refine Ay O rfl rfl rfl (AS O rfl) rfl fun a O=>st O (Aa O rfl rfl) rfl fun a O=>mv O rfl rfl fun a O=>Ay O rfl rfl rfl (AS O rfl) rfl fun a O=>Ay O rfl rfl rfl (Ao O rfl rfl) rfl fun a O=>st O (Aa O rfl rfl) rfl fun a O=>mv O rfl rfl fun a O=>?_;rw [show decide ((0:Int)=0)=true from by decide] at O;refine Ay O rfl rfl rfl (AS O rfl) rfl fun a O=>Ay O rfl rfl rfl (Ao O rfl rfl) rfl fun a O=>st O (Aa O rfl rfl) rfl fun a O=>mv O rfl rfl fun a O=>?_
  by_cases g33:(e4:Int)=0
  . first | rw [decide_eq_true g33] at O | simp only [decide_eq_true g33] at O
    refine Ay O rfl rfl rfl (AS O rfl) rfl fun a O=>Ay O rfl rfl rfl (B7 F8 O rfl) rfl fun a O=>Ay O rfl rfl rfl (AS O rfl) rfl fun a O=>Ay O rfl rfl rfl (B7 A7 O rfl) rfl fun a O=>Ay O rfl rfl rfl (Ao O rfl rfl) rfl fun a O=>st O (Aa O rfl rfl) rfl fun a O=>ag O rfl rfl fun a O=>nt<|wp_ret<|Ap rfl O.defers (AE O rfl) ⟨_,rfl,J.below,?_⟩
    show _=_
    first | rfl | exact congrArg Value.bool (decide_eq_true (by omega))
  first | rw [decide_eq_false g33] at O | simp only [decide_eq_false g33] at O
  first | exact absurd rfl g33 | exact absurd trivial g33 | contradiction | (exfalso;omega) | exact absurd (Bool.eq_iff_iff.2 ((hH (by assumption)).trans decide_eq_true_iff.symm)) g33
theorem Oi (x:Option Addr)(m c:Nat)(w:World)(hm:4096<m) :
    CallsR Try.prog 3 #[.slice x m c] w (fun res _=>res = .bool true):=by
  refine AQ [.slice x m c] Try.func3 rfl Try.ntmps3 rfl fun a O=>?_;have J:AR w w [none,none,none,none] []:=MemX.start w 4;change Fr 198 a [(0,.slice x m c)] at O;refine sr<|ag O rfl rfl fun a O=>nt<|sq<|sr<|mv O rfl rfl fun a O=>Aj O (AO Try.call4 O (.cons rfl .nil) ((CallsR.val (PK x m c _) (congrArg Value.bool (decide_eq_true hm))))) rfl ?_;rintro _ w' a ⟨hx,rfl⟩ O;have J:=J.ext hx;refine nt<|Hk O rfl<|sr<|ag O rfl rfl fun a O=>nt<|wp_ret<|tR<|Ap rfl O.defers (AE O rfl) ⟨_,rfl,J.below,?_⟩
  show _=_
  rfl
end Go.Proofs.Ytgioobkkkicfeaa
