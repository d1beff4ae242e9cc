import Derived.Test.YtccdgjmomcljkaaDoorY9
import Derived.Test.YtccdgjmomcljkaaDoorSw47
import Derived.Test.YtccdgjmomcljkaaDoorSw56
set_option linter.unusedVariables false
set_option linter.unusedSimpArgs false
namespace Go.Proofs.YtccdgjmomcljkaaDoor
open Go Go.RowKit Go.Sw Go.Ech
open Classical
theorem ty_ag_26:aggP Tryd.prog 26=some 224:=by kernel_rfl
theorem ty_ub_4:Tryd.prog.underlying 4=some .bool:=by kernel_rfl
theorem nf_zero {k n:Nat}{ld:Nat→Nat}(h:nf k ld n=0):∀ c,c<n→isLd k ld c:=fun c hc=>Decidable.byContradiction fun hf=>by have:=nf_lt hc hf;omega
theorem dvd_small {p x:Nat}(h:(p:Int)∣(x:Int))(hx:x<p):x=0:=Nat.eq_zero_of_dvd_of_lt (Int.natCast_dvd_natCast.1 h) hx
theorem hpos_of {p n m:Nat}{M:Nat→Nat→Nat}(hp:2≤p)(hne:∀ k E ld,Rref p n E k ld→(∀ x,Ker p n E k x↔Ker p n M m x)→0<nf k ld n):∀ r V,IsKer p n M m r V→0<r:=fun r V h=>by
  obtain ⟨k,E,ld,ld2,h1,h2,h3,h4⟩:=h
  obtain ⟨c,hc,hf,_⟩:=nf_at n 0 (hne k E ld h1 h2)
  refine Decidable.byContradiction fun h0=>?_
  have h5:=(h4 (fun d=>if d=c then 1 else 0)).1 (fun i hi=>absurd hi (by omega)) c hc hf
  have e:dot n (ci (sol p E k ld c)) (fun d=>if d=c then 1 else 0)=((1:Nat):Int):=by
    unfold dot
    rw [sI_one hc]
    · unfold ci sol;simp
    · intro j _ hne2;simp [hne2]
  rw [e] at h5;have:=dvd_small h5 (by omega)
  omega
theorem isKer_le {p n m r:Nat}{M V:Nat→Nat→Nat}(h:IsKer p n M m r V):r≤n:=by
  obtain ⟨k,E,ld,ld2,_,_,h3,_⟩:=h;have:∀ i,i<r→i≤ld2 i:=by
    intro i
    induction i with
    | zero=>intro _;exact Nat.zero_le _
    | succ i ih=>intro hi;have:=ih (by omega);have:=h3.mono i (i+1) (by omega) hi;omega
  rcases Nat.eq_zero_or_pos r with e | e
  · omega
  · have h1:=this (r - 1) (by omega);have h2:=h3.lt (r - 1) (by omega);omega
theorem isKer_small {p n m r:Nat}{M V:Nat→Nat→Nat}(h:IsKer p n M m r V):∀ i,i<r→∀ c,c<n→V i c<p:=by
  obtain ⟨k,E,ld,ld2,_,_,h3,_⟩:=h;exact h3.small
def cutR (n R:Nat) (W:Nat→Nat→Nat) (i c:Nat):Nat:=if i<R∧c<n then W i c else 0
theorem own_same {p n m r R:Nat}{M V V' W:Nat→Nat→Nat}{w w':World}{u:Value}(hp:2≤p)(hW:IsKer p n M m R W)(hV:IsKer p n M m r V)(e:∀ i,i<r→∀ c,c<6→V' i c=if c<n then V i c else 0)(h:OwnSl 6 w r (fun c=>.int .u8 (V' (c / 6) (c%6):Int)) u w'):OwnSl 6 w R (fun c=>.int .u8 (cutR n R W (c / 6) (c%6):Int)) u w':=by
  obtain ⟨rfl,hu⟩:=IsKer.unique hp hW hV;obtain ⟨b,cap,cs,h1,h2,h3⟩:=h;refine ⟨b,cap,cs,h1.congr (fun c hc=>?_),h2,h3⟩
  congr 2
  rw [e (c / 6) (by omega) (c%6) (by omega)]
  unfold cutR
  by_cases hcn:c%6<n
  · rw [if_pos hcn,if_pos ⟨by omega,hcn⟩,hu (c / 6) (by omega) (c%6) hcn]
  · rw [if_neg hcn,if_neg (fun q=>hcn q.2)]
theorem nf_cases {p n m:Nat}{M:Nat→Nat→Nat}(hp:primeN p)(hM:∀ i c,M i c<p):(∀ k E ld,Rref p n E k ld→(∀ x,Ker p n E k x↔Ker p n M m x)→0<nf k ld n)∨(∀ k E ld,Rref p n E k ld→(∀ x,Ker p n E k x↔Ker p n M m x)→nf k ld n=0):=by
  obtain ⟨k0,E0,ld0,h0,_,hk0⟩:=rref_exists (N:=n) (m:=m) hp hM;have key:∀ k E ld,Rref p n E k ld→(∀ x,Ker p n E k x↔Ker p n M m x)→nf k ld n=nf k0 ld0 n:=fun k E ld h hk=>by
    obtain ⟨rfl,e1,_⟩:=rref_unique hp.two h h0 (fun x=>(hk x).trans (hk0 x).symm);exact nf_congr e1 n
  by_cases e:nf k0 ld0 n=0
  · exact .inr fun k E ld h hk=>by rw [key k E ld h hk,e]
  · exact .inl fun k E ld h hk=>by rw [key k E ld h hk];omega
end Go.Proofs.YtccdgjmomcljkaaDoor
