import Derived.Test.YtccdgjmomcljkaaDoorY12
import Derived.Test.YtccdgjmomcljkaaDoorSw47
set_option linter.unusedVariables false
set_option linter.unusedSimpArgs false
namespace Go.Proofs.YtccdgjmomcljkaaDoor
open Go Go.RowKit Go.Sw Go.Ech
open Classical
theorem nilI_W (p n:Nat)(T:Nat→Nat→Nat→Nat)(f:Nat→Nat)(R1:Nat)(W1:Nat→Nat→Nat)(w:World)(hp:primeN p)(hn0:0<n)(hn:n≤6)(hTp:∀ i j k,T i j k<p)(hT0:∀ i j k,n≤k→T i j k=0)(hf:∀ i,f i≤255)(uu:Nat→Nat)(huu:UnitI p n T uu)(hne:∀ k E ld,Rref p n E k ld→(∀ x,Ker p n E k x↔Ker p n (fun r c=>imP p n T uu (kkE p (nilE p n)) c r) n x)→0<nf k ld n)(hpos:∀ r V,IsKer p n (fun r c=>imP p n T uu (kkE p (nilE p n)) c r) n r V→0<r)(hW1:IsKer p n (fun r c=>imP p n T uu (kkE p (nilE p n)) c r) n R1 W1):CallsR Tryd.prog 35 #[.agg (algC (p:Int) (n:Int) T f)] w (fun u w'=>OwnSl 6 w R1 (fun c=>.int .u8 (((cutR n R1 W1) (c / 6) (c%6):Nat):Int)) u w'):=
  (nilradical_Y p n T f w hp hn0 hn hTp hT0 hf uu huu hne hpos).mono fun u w' _ h2=>by
    obtain ⟨r,V,hIK,hVz,hown⟩:=h2
    exact own_same hp.two hW1 hIK (fun i hi c hc=>by split;rfl;exact hVz i hi c (by omega) hc) hown
theorem nilS_W (p n:Nat)(T:Nat→Nat→Nat→Nat)(f:Nat→Nat)(R1:Nat)(W1:Nat→Nat→Nat)(w:World)(hp:primeN p)(hn0:0<n)(hn:n≤6)(hTp:∀ i j k,T i j k<p)(hT0:∀ i j k,n≤k→T i j k=0)(hf:∀ i,f i≤255)(uu:Nat→Nat)(huu:UnitI p n T uu)(hne:∀ k E ld,Rref p n E k ld→(∀ x,Ker p n E k x↔Ker p n (fun r c=>imP p n T uu (kkE p (nilE p n)) c r) n x)→0<nf k ld n)(hpos:∀ r V,IsKer p n (fun r c=>imP p n T uu (kkE p (nilE p n)) c r) n r V→0<r)(hW1:IsKer p n (fun r c=>imP p n T uu (kkE p (nilE p n)) c r) n R1 W1):CallsR Tryd.prog 31 #[.agg (algC (p:Int) (n:Int) T f)] w (fun u w'=>OwnSl 6 w R1 (fun c=>.int .u8 (((cutR n R1 W1) (c / 6) (c%6):Nat):Int)) u w'):=
  (l05Nil_Y p n T f w hp hn0 hn hTp hT0 hf uu huu hne hpos).mono fun u w' _ h2=>by
    obtain ⟨r,V,hIK,hown⟩:=h2
    exact own_same hp.two hW1 hIK (fun i hi c hc=>rfl) hown
end Go.Proofs.YtccdgjmomcljkaaDoor
