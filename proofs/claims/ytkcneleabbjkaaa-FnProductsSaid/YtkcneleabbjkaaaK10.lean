import Derived.Test.YtkcneleabbjkaaaK5
import Derived.Test.YtkcneleabbjkaaaSw21
import Derived.Test.YtkcneleabbjkaaaEch5
set_option linter.unusedVariables false
set_option linter.unusedSimpArgs false
namespace Go.Proofs.Ytkcneleabbjkaaa
open Go Go.RowKit Go.Sw Go.Ech
open Classical
end Go.Proofs.Ytkcneleabbjkaaa
namespace Go.Proofs.Ytkcneleabbjkaaa
open Go Go.RowKit Go.Sw Go.Ech
open Classical
def NV (p n:Nat) (T:Nat→Nat→Nat→Nat) (f:Nat→Nat) (i c:Nat):Nat:=if c<n then sumTo (fun k=>T i c k*f k) 6%p else 0
def ON (p n:Nat) (T:Nat→Nat→Nat→Nat) (f:Nat→Nat):Prop:=∃ E ld,Rref p 6 E n ld∧∀ x,Ker p 6 E n x↔Ker p 6 (NV p n T f) n x
end Go.Proofs.Ytkcneleabbjkaaa
namespace Go.Proofs.Ytkcneleabbjkaaa
open Go Go.RowKit Go.Sw Go.Ech
open Classical
end Go.Proofs.Ytkcneleabbjkaaa
namespace Go.Proofs.Ytkcneleabbjkaaa
open Go Go.RowKit Go.Sw Go.Ech
open Classical
end Go.Proofs.Ytkcneleabbjkaaa
namespace Go.Proofs.Ytkcneleabbjkaaa
open Go Go.RowKit Go.Sw Go.Ech
open Classical
theorem I2 {n c:Nat}{T:Nat→Nat→Nat→Nat}{v u:Nat→Nat}:(prodI T v u n n c:Int)=Pr n T (ci v) (ci u) c:=by
  unfold prodI Pr
  rw [Cy];refine BG fun a _=>?_;rw [Cy];exact BG fun b _=>by simp [ci,Int.natCast_mul]
theorem Fb {p a:Nat}:(p:Int)∣((a%p:Nat):Int) - (a:Int):=by
  have:=DS (p:Int) (a:Int)
  rwa [← Int.natCast_emod] at this
theorem JY {p n c:Nat}{T:Nat→Nat→Nat→Nat}{v u:Nat→Nat}:(p:Int)∣(timesV p n T v u c:Int) - Pr n T (ci v) (ci u) c:=by
  rw [← I2];exact Fb
theorem ET {p n:Nat}{T:Nat→Nat→Nat→Nat}(hn:n≤6)(h:Lq p n T):Kx p n T:=by
  intro i hi j hj k hk d hd;have h1:=h i hi j hj k hk d (by omega)
  unfold timesS at h1
  rw [if_pos hd,if_pos hd] at h1;have a1:(p:Int)∣(timesV p n T (T i j) (fun c=>if c=k then 1 else 0) d:Int) - (prodI T (T i j) (fun c=>if c=k then 1 else 0) n n d:Int):=Fb;have a2:(p:Int)∣(timesV p n T (fun c=>if c=i then 1 else 0) (T j k) d:Int) - (prodI T (fun c=>if c=i then 1 else 0) (T j k) n n d:Int):=Fb;rw [GZ hk] at a1;rw [EE hi] at a2;rw [h1] at a1;have:=Int.dvd_sub a2 a1
  rwa [show ∀ A B C:Int,A - B - (A - C)=C - B from fun A B C=>by omega] at this
theorem JL {p n:Nat}{x:Nat→Int}{R S:Nat→Int}{u:Int}(h:∀ a,a<n→(p:Int)∣R a - S a):(p:Int)∣sI (fun a=>x a*R a) n - u↔(p:Int)∣sI (fun a=>x a*S a) n - u:=by
  refine Dt ?_;rw [show ∀ A B:Int,A - u - (B - u)=A - B from fun A B=>by omega,Ee];exact DV fun a ha=>by rw [← Int.mul_sub];exact Int.dvd_mul_of_dvd_right (h a ha)
theorem right_iff {p n c:Nat}{T:Nat→Nat→Nat→Nat}{v x:Nat→Nat}{u:Int}:(p:Int)∣sI (fun a=>(x a:Int)*(timesV p n T (fun y=>if y=a then 1 else 0) v c:Int)) n - u↔(p:Int)∣Pr n T (ci x) (ci v) c - u:=by
  rw [KK];refine JL (x:=ci x) fun a ha=>?_;have:=Fb (p:=p) (a:=prodI T (fun y=>if y=a then 1 else 0) v n n c)
  rwa [EE ha] at this
theorem left_iff {p n c:Nat}{T:Nat→Nat→Nat→Nat}{v x:Nat→Nat}{u:Int}:(p:Int)∣sI (fun a=>(x a:Int)*(timesV p n T v (fun y=>if y=a then 1 else 0) c:Int)) n - u↔(p:Int)∣Pr n T (ci v) (ci x) c - u:=by
  rw [JO];refine JL (x:=ci x) fun a ha=>?_;have:=Fb (p:=p) (a:=prodI T v (fun y=>if y=a then 1 else 0) n n c)
  rwa [GZ ha] at this
theorem LN {p n k:Nat}{E:Nat→Nat→Nat}{ld:Nat→Nat}{T:Nat→Nat→Nat→Nat}{uu v:Nat→Nat}(hp:2≤p)(hn0:0<n)(hn:n≤6)(hE1:∀ i c,E i c<p)(h:Rref p 7 E k ld)(hK:∀ x,Ker p 7 E k x↔Ker p 7 (En p n T v uu n) (2*n) x)(hl:¬ D5 k ld 6) :
    InvI p n T uu v (fun c=>solK E ld 6 k c):=by
  have h1:=(If hn0 hn).1 ((hK _).1 (J1 h hl));refine ⟨fun c=>J2 (k:=k) (by omega) hE1 (p:=p) (N:=7),fun c hc=>I1 fun hlc=>?_,fun c hc=>right_iff.1 (h1.1 c hc),fun c hc=>left_iff.1 (h1.2 c hc)⟩;obtain ⟨j,hj,e⟩:=hlc;have h3:=h.lt j hj
  by_cases e6:c=6
  · exact hl ⟨j,hj,by omega⟩
  · exact J6 hp h hK (c:=c) (by omega) (fun i _=>by unfold En;rw [if_neg (by omega),if_neg (by omega)]) ⟨j,hj,e⟩
theorem MF {p n k:Nat}{E:Nat→Nat→Nat}{ld:Nat→Nat}{T:Nat→Nat→Nat→Nat}{uu v:Nat→Nat}(hp:2≤p)(hn0:0<n)(hn:n≤6)(h:Rref p 7 E k ld)(hK:∀ x,Ker p 7 E k x↔Ker p 7 (En p n T v uu n) (2*n) x)(hl:D5 k ld 6)(w:Nat→Nat):¬ InvI p n T uu v w:=
  fun hw=>LH hp h hl ((hK _).2 ((If hn0 hn).2 ⟨fun c hc=>right_iff.2 (hw.right c hc),fun c hc=>left_iff.2 (hw.left c hc)⟩))
def bM (p n:Nat) (T:Nat→Nat→Nat→Nat) (v uu:Nat→Nat) (k j:Nat):Nat:=if j<n then timesS p n T (fun y=>if y=j then 1 else 0) v k else uu k
theorem Mf {p n:Nat}{T:Nat→Nat→Nat→Nat}{v uu:Nat→Nat}(hp:0<p)(hu:∀ c,uu c<p):∀ k j,bM p n T v uu k j<p:=fun k j=>by
  unfold bM;split
  · unfold timesS;split
    · unfold timesV;exact Nat.mod_lt _ hp
    · exact hp
  · exact hu k
theorem bM_ker {p n:Nat}{T:Nat→Nat→Nat→Nat}{v uu x:Nat→Nat}:Ker p (n+1) (bM p n T v uu) n (Fl n x)↔∀ c,c<n→(p:Int)∣Pr n T (ci x) (ci v) c - (uu c:Int):=by
  unfold Ker
  refine forall_congr' fun c=>imp_congr_right fun hc=>?_;rw [← right_iff];have e:dot (n+1) (ci (bM p n T v uu c)) (Fl n x)=sI (fun a=>(x a:Int)*(timesV p n T (fun y=>if y=a then 1 else 0) v c:Int)) n - (uu c:Int):=by
    unfold dot
    simp only [sI];have e1:sI (fun j=>ci (bM p n T v uu c) j*Fl n x j) n=sI (fun a=>(x a:Int)*(timesV p n T (fun y=>if y=a then 1 else 0) v c:Int)) n:=BG fun j hj=>by
      rw [GQ hj];simp only [ci,bM,if_pos hj,timesS,if_pos hc];exact Int.mul_comm _ _
    have e2:ci (bM p n T v uu c) n=(uu c:Int):=by simp only [ci,bM];rw [if_neg (by omega)]
    rw [e1,e2,Gg];omega
  rw [e]
theorem H8 {p n:Nat}{T:Nat→Nat→Nat→Nat}{v uu x:Nat→Nat}(hn:n≤6)(hu:∀ c,uu c<p)(hu0:∀ c,n≤c→uu c=0):FR 6 (timesS p n T v x) uu↔∀ c,c<n→(p:Int)∣Pr n T (ci v) (ci x) c - (uu c:Int):=by
  have key:∀ c,c<n→(timesS p n T v x c=uu c↔(p:Int)∣Pr n T (ci v) (ci x) c - (uu c:Int)):=fun c hc=>by
    unfold timesS;rw [if_pos hc,← I2,Gf (hu c)];rfl
  constructor
  · intro h c hc;exact (key c hc).1 (h c (by omega))
  · intro h c _
    by_cases hc:c<n
    · exact (key c hc).2 (h c hc)
    · unfold timesS;rw [if_neg hc,hu0 c (by omega)]
theorem Ld {p n k:Nat}{E:Nat→Nat→Nat}{ld:Nat→Nat}{T:Nat→Nat→Nat→Nat}{uu v:Nat→Nat}(hp:0<p)(hn:n≤6)(hu:UnitI p n T uu)(h:Rref p (n+1) E k ld)(hK:∀ x,Ker p (n+1) E k x↔Ker p (n+1) (bM p n T v uu) n x)(hf:Full p n E k ld)
    (hc:FR 6 (timesS p n T v (fun c=>if c<n then E c n else 0)) uu):InvI p n T uu v (fun c=>if c<n then E c n else 0):=by
  have hkk:=hf.k;refine ⟨fun c=>?_,fun c hc=>by simp [show ¬ c<n by omega],?_,(H8 hn hu.small hu.out).1 hc⟩
  · split
    · rename_i hc;exact h.small c (by omega) n (by omega)
    · exact hp
  · have:=(Fh h hf (fun c=>if c<n then E c n else 0) (fun i hi=>by simp only [if_pos hi];exact h.small i (by omega) n (by omega))).2 (fun i hi=>by simp only [if_pos hi])
    exact bM_ker.1 ((hK _).1 this)
theorem GP {p n k:Nat}{E:Nat→Nat→Nat}{ld:Nat→Nat}{T:Nat→Nat→Nat→Nat}{uu v w:Nat→Nat}(hp:2≤p)(hn:n≤6)(ha:Kx p n T)(hu:UnitI p n T uu)(h:Rref p (n+1) E k ld)(hK:∀ x,Ker p (n+1) E k x↔Ker p (n+1) (bM p n T v uu) n x)(hw:InvI p n T uu v w) :
    Full p n E k ld∧(fun c=>if c<n then E c n else 0)=w:=by
  have hk:=(hK _).2 (bM_ker.2 hw.right);have hf:=El hp h w (fun i _=>hw.small i) hk (fun y hy hyK i hi=>DG (hy i hi) (hw.small i) (JD ha hu hw.left (bM_ker.1 ((hK _).1 hyK)) hi));refine ⟨hf,funext fun c=>?_⟩
  by_cases hc:c<n
  · rw [if_pos hc];exact ((Fh h hf w (fun i _=>hw.small i)).1 hk c hc).symm
  · rw [if_neg hc,hw.out c (by omega)]
end Go.Proofs.Ytkcneleabbjkaaa
