import Derived.Test.YtccdgjmomcljkaaDoorY16
import Derived.Test.YtccdgjmomcljkaaDoorEch17
set_option linter.unusedVariables false
set_option linter.unusedSimpArgs false
namespace Go.Proofs.YtccdgjmomcljkaaDoor
open Go Go.RowKit Go.Sw Go.Ech
open Classical
theorem prodI_Pr {n c:Nat}{T:Nat→Nat→Nat→Nat}{v u:Nat→Nat}:(prodI T v u n n c:Int)=Pr n T (ci v) (ci u) c:=by
  unfold prodI Pr
  rw [sumTo_sI];refine sI_congr fun a _=>?_;rw [sumTo_sI];exact sI_congr fun b _=>by simp [ci,Int.natCast_mul]
theorem mod_dvd {p a:Nat}:(p:Int)∣((a%p:Nat):Int) - (a:Int):=by
  have:=emod_dvd (p:Int) (a:Int)
  rwa [← Int.natCast_emod] at this
theorem timesV_dvd {p n c:Nat}{T:Nat→Nat→Nat→Nat}{v u:Nat→Nat}:(p:Int)∣(timesV p n T v u c:Int) - Pr n T (ci v) (ci u) c:=by
  rw [← prodI_Pr];exact mod_dvd
theorem AssI_of {p n:Nat}{T:Nat→Nat→Nat→Nat}(hn:n≤6)(h:asS p n T):AssI p n T:=by
  intro i hi j hj k hk d hd;have h1:=h i hi j hj k hk d (by omega)
  unfold timesS at h1
  rw [if_pos hd,if_pos hd] at h1;have a1:(p:Int)∣(timesV p n T (T i j) (fun c=>if c=k then 1 else 0) d:Int) - (prodI T (T i j) (fun c=>if c=k then 1 else 0) n n d:Int):=mod_dvd;have a2:(p:Int)∣(timesV p n T (fun c=>if c=i then 1 else 0) (T j k) d:Int) - (prodI T (fun c=>if c=i then 1 else 0) (T j k) n n d:Int):=mod_dvd;rw [prodI_right hk] at a1;rw [prodI_left hi] at a2;rw [h1] at a1;have:=Int.dvd_sub a2 a1
  rwa [show ∀ A B C:Int,A - B - (A - C)=C - B from fun A B C=>by omega] at this
theorem ComI_of {n:Nat}{T:Nat→Nat→Nat→Nat}(hn:n≤6)(h:comP T):ComI n T:=fun i hi j hj k hk=>(comP_iff.2 h) i (by omega) j (by omega) k (by omega)
theorem UnitI.righty {p n:Nat}{T:Nat→Nat→Nat→Nat}{uu:Nat→Nat}(h:UnitI p n T uu):∀ y,EqP p n (Pr n T y (ci uu)) y:=fun y c hc=>Pr_unit_right h y hc
theorem timesV_eq {p n:Nat}{T:Nat→Nat→Nat→Nat}(v u:Nat→Nat):EqP p n (ci (timesV p n T v u)) (Pr n T (ci v) (ci u)):=fun c _=>timesV_dvd
theorem powW_vP {p n:Nat}{T:Nat→Nat→Nat→Nat}{uu v:Nat→Nat}:∀ k,EqP p n (ci (powW (timesV p n T) uu v k)) (vP n T (ci uu) (ci v) k)
  | 0=>EqP.refl _
  | k+1=>(timesV_eq _ _).trans (EqP.mul (powW_vP k) (EqP.refl _))
theorem lin_kk {p n:Nat}{T:Nat→Nat→Nat→Nat}{u:Nat→Int}(ha:AssI p n T)(hk:ComI n T)(hu:∀ y,EqP p n (Pr n T y u) y)(hp:primeN p):∀ e,LinK p n T u (kkE p e)
  | 0=>lin_p ha hk hu hp
  | e+1=>lin_mul ha hk hu hp (lin_kk ha hk hu hp e)
theorem kk_pos {p:Nat}(hp:2≤p):∀ e,0<kkE p e
  | 0=>by show 0<p;omega
  | e+1=>Nat.mul_pos (kk_pos hp e) (by omega)
def PowQ (p n:Nat) (T:Nat→Nat→Nat→Nat) (R:Nat→Nat) (Z:Nat→Nat→Nat→Nat) (t:Nat):Prop:=
  (∀ k,RedOf p n (apV p n T (cutR n (R k) (Z k)) (cutR n (R 0) (Z 0)) (R 0)) (R k*R 0) (R (k+1)) (Z (k+1)))∧(∀ k,R k≤6)∧t≤151∧R t=0∧∀ k,k<t→0<R k
end Go.Proofs.YtccdgjmomcljkaaDoor
namespace Go.Proofs.YtccdgjmomcljkaaDoor
open Go Go.RowKit Go.Sw Go.Ech
open Classical
end Go.Proofs.YtccdgjmomcljkaaDoor
