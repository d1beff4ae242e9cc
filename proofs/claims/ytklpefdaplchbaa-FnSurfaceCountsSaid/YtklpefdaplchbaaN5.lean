import Derived.Test.YtklpefdaplchbaaU6
import Derived.Test.YtklpefdaplchbaaK9
import Derived.Test.YtklpefdaplchbaaSw10
set_option linter.unusedVariables false
set_option linter.unusedSimpArgs false
namespace Go.Proofs.Ytklpefdaplchbaa
open Go Go.RowKit Go.Sw Go.Ech
open Classical
def cv (M:Nat→Nat→Nat) (n:Nat) (f g:Nat→Nat) (z:Nat):Nat:=sumTo (fun a=>sumTo (fun b=>if M a b=z then f a*g b else 0) n) n
theorem wA_cv {M:Nat→Nat→Nat}{n:Nat}{f g:Nat→Nat}{z:Nat}:wA M (fun a b=>f a*g b) n n 0 z=cv M n f g z:=by unfold wA cv;simp [sumTo]
theorem sumTo_00 (n:Nat):sumTo (fun _=>0) n=0:=by
  induction n with
  | zero=>rfl
  | succ n ih=>simp only [sumTo];rw [ih]
section
variable {n : Nat} {M : Nat → Nat → Nat}
theorem cv_congr {f f' g g':Nat→Nat}{z:Nat}(hf:∀ a,a<n→f a=f' a)(hg:∀ a,a<n→g a=g' a):cv M n f g z=cv M n f' g' z:=
  sumTo_congr' fun a ha=>sumTo_congr' fun b hb=>by rw [hf a ha,hg b hb]
theorem cv_addl {f f' g:Nat→Nat}{z:Nat}:cv M n (fun a=>f a+f' a) g z=cv M n f g z+cv M n f' g z:=by
  unfold cv
  rw [← sumTo_add];refine sumTo_congr' fun a _=>?_;rw [← sumTo_add];refine sumTo_congr' fun b _=>?_
  split
  · rw [Nat.add_mul]
  · rfl
theorem cv_addr {f g g':Nat→Nat}{z:Nat}:cv M n f (fun a=>g a+g' a) z=cv M n f g z+cv M n f g' z:=by
  unfold cv
  rw [← sumTo_add];refine sumTo_congr' fun a _=>?_;rw [← sumTo_add];refine sumTo_congr' fun b _=>?_
  split
  · rw [Nat.mul_add]
  · rfl
theorem cv_mull {f g:Nat→Nat}{c z:Nat}:cv M n (fun a=>c*f a) g z=c*cv M n f g z:=by
  unfold cv
  rw [← sumTo_mull];refine sumTo_congr' fun a _=>?_;rw [← sumTo_mull];refine sumTo_congr' fun b _=>?_
  split
  · rw [Nat.mul_assoc]
  · rfl
theorem cv_mulr {f g:Nat→Nat}{c z:Nat}:cv M n f (fun a=>c*g a) z=c*cv M n f g z:=by
  unfold cv
  rw [← sumTo_mull];refine sumTo_congr' fun a _=>?_;rw [← sumTo_mull];refine sumTo_congr' fun b _=>?_
  split
  · rw [Nat.mul_left_comm]
  · rfl
theorem cv_0l {g:Nat→Nat}{z:Nat}:cv M n (fun _=>0) g z=0:=by
  unfold cv
  refine Eq.trans (sumTo_congr' fun a _=>?_) (sumTo_00 n);refine Eq.trans (sumTo_congr' fun b _=>?_) (sumTo_00 n)
  split
  · rw [Nat.zero_mul]
  · rfl
theorem cv_0r {f:Nat→Nat}{z:Nat}:cv M n f (fun _=>0) z=0:=by
  unfold cv
  refine Eq.trans (sumTo_congr' fun a _=>?_) (sumTo_00 n);refine Eq.trans (sumTo_congr' fun b _=>?_) (sumTo_00 n)
  split
  · rw [Nat.mul_zero]
  · rfl
theorem cv_suml {U:Nat→Nat→Nat}{g:Nat→Nat}{z:Nat}:∀ k,cv M n (fun a=>sumTo (fun i=>U i a) k) g z=sumTo (fun i=>cv M n (U i) g z) k
  | 0=>cv_0l
  | k + 1 => by
    simp only [sumTo]
    rw [cv_addl,cv_suml k]
theorem cv_sumr {U:Nat→Nat→Nat}{f:Nat→Nat}{z:Nat}:∀ k,cv M n f (fun a=>sumTo (fun i=>U i a) k) z=sumTo (fun i=>cv M n f (U i) z) k
  | 0=>cv_0r
  | k + 1 => by
    simp only [sumTo]
    rw [cv_addr,cv_sumr k]
theorem sumTo_re {F σ τ:Nat→Nat}(hs:∀ a,a<n→σ a<n)(ht:∀ c,c<n→τ c<n)(h:∀ a c,a<n→c<n→(σ a=c↔a=τ c)):sumTo (fun a=>F (σ a)) n=sumTo F n:=by
  have e1:∀ a,a<n→F (σ a)=sumTo (fun c=>(if c=σ a then 1 else 0)*F c) n:=fun a ha=>(sumTo_pick (hs a ha)).symm;rw [sumTo_congr' e1,sumTo_swap];refine sumTo_congr' fun c hc=>?_;have e2:∀ a,a<n→(if c=σ a then 1 else 0)*F c=(if a=τ c then 1 else 0)*(fun _=>F c) a:=fun a ha=>by
    have:=h a c ha hc
    by_cases q:c=σ a
    · rw [if_pos q,if_pos (this.1 q.symm)]
    · rw [if_neg q,if_neg (fun r=>q (this.2 r).symm)]
  rw [sumTo_congr' e2];exact sumTo_pick (F:=fun _=>F c) (ht c hc)
def iv (M:Nat→Nat→Nat) (n a:Nat):Nat:=lead (M a) n
theorem iv_lt (hG:TabP n M){a:Nat}(ha:a<n):iv M n a<n:=hG.inv ha
theorem iv_r (hG:TabP n M){a:Nat}(ha:a<n):M a (iv M n a)=0:=hG.ir ha
theorem iv_l (hn0:0<n)(hn:n≤6)(hG:TabP n M){a:Nat}(ha:a<n):M (iv M n a) a=0:=hG.il hn0 hn ha
theorem g_as (hn0:0<n)(hn:n≤6)(hG:TabP n M){a b c:Nat}(ha:a<n)(hb:b<n)(hc:c<n):M (M a b) c=M a (M b c):=hG.2.2.2 a ha b hb c hc
theorem g_1l (hn0:0<n)(hn:n≤6)(hG:TabP n M){a:Nat}(ha:a<n):M 0 a=a:=(hG.2.1 a ha).1
theorem g_1r (hn0:0<n)(hn:n≤6)(hG:TabP n M){a:Nat}(ha:a<n):M a 0=a:=(hG.2.1 a ha).2
theorem g_solve (hn0:0<n)(hn:n≤6)(hG:TabP n M){a b z:Nat}(ha:a<n)(hb:b<n)(hz:z<n):M a b=z↔b=M (iv M n a) z:=by
  constructor
  · intro h
    subst h;rw [← g_as hn0 hn hG (iv_lt hG ha) ha hb,iv_l hn0 hn hG ha,g_1l hn0 hn hG hb]
  · intro h
    subst h;rw [← g_as hn0 hn hG ha (iv_lt hG ha) hz,iv_r hG ha,g_1l hn0 hn hG hz]
theorem cv_one (hn0:0<n)(hn:n≤6)(hG:TabP n M){f g:Nat→Nat}{z:Nat}(hz:z<n):cv M n f g z=sumTo (fun a=>f a*g (M (iv M n a) z)) n:=by
  unfold cv
  refine sumTo_congr' fun a ha=>?_;have e:∀ b,b<n→(if M a b=z then f a*g b else 0)=(if b=M (iv M n a) z then 1 else 0)*(fun b=>f a*g b) b:=fun b hb=>by
    have:=g_solve hn0 hn hG ha hb hz
    by_cases q:M a b=z
    · rw [if_pos q,if_pos (this.1 q),Nat.one_mul]
    · rw [if_neg q,if_neg (fun r=>q (this.2 r)),Nat.zero_mul]
  rw [sumTo_congr' e];exact sumTo_pick (F:=fun b=>f a*g b) (hG.c hn (iv_lt hG ha) hz)
theorem iv_m (hn0:0<n)(hn:n≤6)(hG:TabP n M){a b:Nat}(ha:a<n)(hb:b<n):iv M n (M a b)=M (iv M n b) (iv M n a):=hG.im hn0 hn ha hb
theorem iv_iv (hn0:0<n)(hn:n≤6)(hG:TabP n M){a:Nat}(ha:a<n):iv M n (iv M n a)=a:=hG.ii hn0 hn ha
theorem cv_assoc (hn0:0<n)(hn:n≤6)(hG:TabP n M){f g h:Nat→Nat}{z:Nat}(hz:z<n):cv M n (cv M n f g) h z=cv M n f (cv M n g h) z:=by
  rw [cv_one hn0 hn hG hz,cv_one hn0 hn hG hz];have e1:∀ c,c<n→cv M n f g c*h (M (iv M n c) z)=sumTo (fun a=>f a*g (M (iv M n a) c)*h (M (iv M n c) z)) n:=fun c hc=>by
    rw [cv_one hn0 hn hG hc,sumTo_mulr]
  rw [sumTo_congr' e1,sumTo_swap];refine sumTo_congr' fun a ha=>?_;have hia:=iv_lt hG ha;rw [cv_one hn0 hn hG (hG.c hn hia hz),← sumTo_mull];rw [← sumTo_re (F:=fun b=>f a*(g b*h (M (iv M n b) (M (iv M n a) z)))) (σ:=fun c=>M (iv M n a) c) (τ:=fun b=>M a b) (fun c hc=>hG.c hn hia hc) (fun b hb=>hG.c hn ha hb) (fun c b hc hb=>by
    have:=g_solve hn0 hn hG ha hb hc;exact ⟨fun q=>(this.2 q.symm).symm,fun q=>(this.1 q.symm).symm⟩)]
  refine sumTo_congr' fun c hc=>?_
  show f a*g (M (iv M n a) c)*h (M (iv M n c) z)=f a*(g (M (iv M n a) c)*h (M (iv M n (M (iv M n a) c)) (M (iv M n a) z)))
  have hic:=iv_lt hG hc;rw [Nat.mul_assoc,iv_m hn0 hn hG hia hc,iv_iv hn0 hn hG ha,g_as hn0 hn hG hic ha (hG.c hn hia hz),← g_as hn0 hn hG ha hia hz,iv_r hG ha,g_1l hn0 hn hG hz]
def CF (M:Nat→Nat→Nat) (n:Nat) (f:Nat→Nat):Prop:=∀ x y,x<n→y<n→f (cj M n x y)=f x
theorem cj_m (hn0:0<n)(hn:n≤6)(hG:TabP n M){a b y:Nat}(ha:a<n)(hb:b<n)(hy:y<n):cj M n (M a b) y=M (cj M n a y) (cj M n b y):=by
  have hiy:=iv_lt hG hy
  show M (M y (M a b)) (iv M n y)=M (M (M y a) (iv M n y)) (M (M y b) (iv M n y))
  have hya:=hG.c hn hy ha;have hyb:=hG.c hn hy hb;rw [g_as hn0 hn hG hya hiy (hG.c hn hyb hiy),← g_as hn0 hn hG hiy hyb hiy,← g_as hn0 hn hG hiy hy hb,iv_l hn0 hn hG hy,g_1l hn0 hn hG hb,← g_as hn0 hn hG hya hb hiy,g_as hn0 hn hG hy ha hb]
theorem cj_back (hn0:0<n)(hn:n≤6)(hG:TabP n M){a y:Nat}(ha:a<n)(hy:y<n):cj M n (cj M n a y) (iv M n y)=a:=by
  have hiy:=iv_lt hG hy;have hya:=hG.c hn hy ha
  show M (M (iv M n y) (M (M y a) (iv M n y))) (iv M n (iv M n y))=a
  rw [iv_iv hn0 hn hG hy,← g_as hn0 hn hG hiy hya hiy,← g_as hn0 hn hG hiy hy ha,iv_l hn0 hn hG hy,g_1l hn0 hn hG ha,g_as hn0 hn hG ha hiy hy,iv_l hn0 hn hG hy,g_1r hn0 hn hG ha]
theorem cv_CF (hn0:0<n)(hn:n≤6)(hG:TabP n M){f g:Nat→Nat}(hf:CF M n f)(hg:CF M n g):CF M n (cv M n f g):=fun z y hz hy=>by
  have hiy:=iv_lt hG hy
  have hzy:=cj_lt hn hG hz hy
  rw [cv_one hn0 hn hG hzy,cv_one hn0 hn hG hz]
  rw [← sumTo_re (F:=fun a=>f a*g (M (iv M n a) (cj M n z y))) (σ:=fun a=>cj M n a y) (τ:=fun a=>cj M n a (iv M n y)) (fun a ha=>cj_lt hn hG ha hy) (fun a ha=>cj_lt hn hG ha hiy) (fun a c ha hc=>by
    constructor
    · intro q;subst q;exact (cj_back hn0 hn hG ha hy).symm
    · intro q;subst q
      have:=cj_back hn0 hn hG hc hiy
      rwa [iv_iv hn0 hn hG hy] at this)]
  refine sumTo_congr' fun a ha=>?_
  show f (cj M n a y)*g (M (iv M n (cj M n a y)) (cj M n z y))=_
  have hia:=iv_lt hG ha
  have e:iv M n (cj M n a y)=cj M n (iv M n a) y:=by
    have h1:M (cj M n a y) (cj M n (iv M n a) y)=0:=by
      rw [← cj_m hn0 hn hG ha hia hy,iv_r hG ha]
      show M (M y 0) (iv M n y)=0
      rw [g_1r hn0 hn hG hy,iv_r hG hy]
    exact (hG.iu hn0 hn (cj_lt hn hG ha hy) (cj_lt hn hG hia hy) h1).symm
  rw [e,← cj_m hn0 hn hG hia hz hy,hf a y ha hy,hg _ y (hG.c hn hia hz) hy]
end
end Go.Proofs.Ytklpefdaplchbaa
namespace Go.Proofs.Ytklpefdaplchbaa
open Go Go.RowKit Go.Sw Go.Ech
open Classical
section
variable {n : Nat} {M : Nat → Nat → Nat}
def chC (M:Nat→Nat→Nat) (n c:Nat):Nat→Nat:=chiP (eC M n c) (sC M n c)
theorem chC_iff {c x:Nat}(hx:x<n):chC M n c x=if inC M n (rC M n c) x=true then 1 else 0:=by
  unfold chC chiP
  have e:(List.range (sC M n c)).any (fun q=>decide (eC M n c q=x))=true↔inC M n (rC M n c) x=true:=by
    rw [List.any_eq_true]
    constructor
    · rintro ⟨q,hq,he⟩
      have hq':q<cnt (inC M n (rC M n c)) n:=List.mem_range.1 hq;have he':asc (inC M n (rC M n c)) n q=x:=of_decide_eq_true he;rw [← he'];exact (asc_of hq').2.1
    · intro h
      exact ⟨cnt (inC M n (rC M n c)) x,List.mem_range.2 (cnt_lt h hx),decide_eq_true (asc_at h hx)⟩
  by_cases q:inC M n (rC M n c) x=true
  · rw [if_pos q,if_pos (e.2 q)]
  · rw [if_neg q,if_neg (fun r=>q (e.1 r))]
theorem cls_ex (hn0:0<n)(hn:n≤6)(hG:TabP n M){x:Nat}(hx:x<n):∃ c,c<nC M n∧inC M n (rC M n c) x=true:=by
  have key:∀ r,r<n→isRep M n r=true→cnt (isRep M n) r<nC M n∧rC M n (cnt (isRep M n) r)=r:=fun r hr h=>⟨cnt_lt h hr,asc_at h hr⟩
  by_cases h:isRep M n x=true
  · obtain ⟨h1,h2⟩:=key x hx h
    exact ⟨_,h1,by rw [h2];exact inC_refl hn0 hG hx⟩
  · have h3:∃ i,i<x∧isRep M n i=true∧inC M n i x=true:=Classical.byContradiction fun q=>h ((rep_met hn0 hn hG hx).2 q)
    obtain ⟨i,hi,hr,hc⟩:=h3;obtain ⟨h1,h2⟩:=key i (by omega) hr;exact ⟨_,h1,by rw [h2];exact hc⟩
theorem cls_one (hn0:0<n)(hn:n≤6)(hG:TabP n M){c d x:Nat}(hc:c<nC M n)(hd:d<nC M n)(_hx:x<n)(h1:inC M n (rC M n c) x=true)(h2:inC M n (rC M n d) x=true):c=d:=by
  have hrc:=rC_lt hc;have hrd:=rC_lt hd;have e:rC M n c=rC M n d:=by
    have hcd:inC M n (rC M n c) (rC M n d)=true:=inC_trans hn0 hn hG hrc h1 (inC_symm hn0 hn hG hrd h2);have hdc:=inC_symm hn0 hn hG hrc hcd
    rcases Nat.lt_trichotomy (rC M n c) (rC M n d) with q | q | q
    · exact absurd hcd (isRep_iff.1 (rC_rep hd) _ q)
    · exact q
    · exact absurd hdc (isRep_iff.1 (rC_rep hc) _ q)
  have h3:=(asc_of hc).2.2;have h4:=(asc_of hd).2.2;rw [← h3,← h4]
  show cnt (isRep M n) (rC M n c)=cnt (isRep M n) (rC M n d)
  rw [e]
theorem CF_in (hn0:0<n)(hn:n≤6)(hG:TabP n M){f:Nat→Nat}(hf:CF M n f){c x:Nat}(hc:c<nC M n)(h:inC M n (rC M n c) x=true):f x=f (rC M n c):=by
  obtain ⟨y,hy,e⟩:=inC_iff.1 h;rw [← e];exact hf _ y (rC_lt hc) hy
theorem CF_sum (hn0:0<n)(hn:n≤6)(hG:TabP n M){f:Nat→Nat}(hf:CF M n f){x:Nat}(hx:x<n):f x=sumTo (fun c=>f (rC M n c)*chC M n c x) (nC M n):=by
  obtain ⟨c0,hc0,h0⟩:=cls_ex hn0 hn hG hx;have e:∀ c,c<nC M n→f (rC M n c)*chC M n c x=(if c=c0 then 1 else 0)*(fun c=>f (rC M n c)) c:=fun c hc=>by
    rw [chC_iff hx]
    by_cases q:c=c0
    · subst q;rw [if_pos h0,if_pos rfl,Nat.mul_one,Nat.one_mul]
    · rw [if_neg q,if_neg (fun r=>q (cls_one hn0 hn hG hc hc0 hx r h0)),Nat.mul_zero,Nat.zero_mul]
  rw [sumTo_congr' e,sumTo_pick (F:=fun c=>f (rC M n c)) hc0];exact CF_in hn0 hn hG hf hc0 h0
theorem chC_CF (hn0:0<n)(hn:n≤6)(hG:TabP n M){c:Nat}(hc:c<nC M n):CF M n (chC M n c):=fun x y hx hy=>by
  have hxy:=cj_lt hn hG hx hy
  rw [chC_iff hxy,chC_iff hx]
  have h1:inC M n x (cj M n x y)=true:=inC_iff.2 ⟨y,hy,rfl⟩
  by_cases q:inC M n (rC M n c) x=true
  · rw [if_pos q,if_pos (inC_trans hn0 hn hG (rC_lt hc) q h1)]
  · rw [if_neg q,if_neg (fun r=>q (inC_trans hn0 hn hG (rC_lt hc) r (inC_symm hn0 hn hG hx h1)))]
theorem chC_rC (hn0:0<n)(hn:n≤6)(hG:TabP n M){c d:Nat}(hc:c<nC M n)(hd:d<nC M n):chC M n c (rC M n d)=if d=c then 1 else 0:=by
  rw [chC_iff (rC_lt hd)]
  by_cases q:d=c
  · subst q;rw [if_pos rfl,if_pos (inC_refl hn0 hG (rC_lt hd))]
  · rw [if_neg q,if_neg (fun r=>q (cls_one hn0 hn hG hd hc (rC_lt hd) (inC_refl hn0 hG (rC_lt hd)) r))]
theorem cA_cv (hn0:0<n)(hn:n≤6)(hG:TabP n M){i j k:Nat}(hk:k<nC M n):cA M n i j k=cv M n (chC M n i) (chC M n j) (rC M n k):=by
  rw [← cA_prod,eC_0 hn0 hn hG hk]
  unfold prodI cv chC
  refine sumTo_congr' fun a ha=>sumTo_congr' fun b hb=>?_
  unfold gT
  by_cases q:M a b=rC M n k
  · rw [if_pos q,if_pos ⟨ha,hb,q.symm⟩,Nat.mul_one]
  · rw [if_neg q,if_neg (fun r=>q r.2.2.symm),Nat.mul_zero]
theorem cv_ch (hn0:0<n)(hn:n≤6)(hG:TabP n M){i j z:Nat}(hi:i<nC M n)(hj:j<nC M n)(hz:z<n):cv M n (chC M n i) (chC M n j) z=sumTo (fun m=>cA M n i j m*chC M n m z) (nC M n):=by
  rw [CF_sum hn0 hn hG (cv_CF hn0 hn hG (chC_CF hn0 hn hG hi) (chC_CF hn0 hn hG hj)) hz];exact sumTo_congr' fun m hm=>by rw [cA_cv hn0 hn hG hm]
theorem cv_cls (hn0:0<n)(hn:n≤6)(hG:TabP n M){f g:Nat→Nat}(hf:CF M n f)(hg:CF M n g){c:Nat}(hc:c<nC M n) :
    cv M n f g (rC M n c)=sumTo (fun i=>sumTo (fun j=>f (rC M n i)*g (rC M n j)*cA M n i j c) (nC M n)) (nC M n):=by
  rw [cv_congr (f':=fun x=>sumTo (fun i=>f (rC M n i)*chC M n i x) (nC M n)) (g':=fun x=>sumTo (fun j=>g (rC M n j)*chC M n j x) (nC M n)) (fun a ha=>CF_sum hn0 hn hG hf ha) (fun a ha=>CF_sum hn0 hn hG hg ha),
    cv_suml (U:=fun i x=>f (rC M n i)*chC M n i x)]
  refine sumTo_congr' fun i hi=>?_;rw [cv_mull,cv_sumr (U:=fun j x=>g (rC M n j)*chC M n j x),← sumTo_mull];refine sumTo_congr' fun j hj=>?_;rw [cv_mulr,cA_cv hn0 hn hG hc,Nat.mul_assoc]
theorem cA_assoc (hn0:0<n)(hn:n≤6)(hG:TabP n M){i j k l:Nat}(hi:i<nC M n)(hj:j<nC M n)(hk:k<nC M n)(hl:l<nC M n) :
    sumTo (fun m=>cA M n i j m*cA M n m k l) (nC M n)=sumTo (fun m=>cA M n j k m*cA M n i m l) (nC M n):=by
  have hz:=rC_lt hl;have e1:sumTo (fun m=>cA M n i j m*cA M n m k l) (nC M n)=cv M n (cv M n (chC M n i) (chC M n j)) (chC M n k) (rC M n l):=by
    rw [cv_congr (f:=cv M n (chC M n i) (chC M n j)) (g':=chC M n k) (fun a ha=>cv_ch hn0 hn hG hi hj ha) (fun _ _=>rfl),cv_suml (U:=fun m x=>cA M n i j m*chC M n m x)];exact sumTo_congr' fun m hm=>by rw [cv_mull,cA_cv (i:=m) hn0 hn hG hl]
  have e2:sumTo (fun m=>cA M n j k m*cA M n i m l) (nC M n)=cv M n (chC M n i) (cv M n (chC M n j) (chC M n k)) (rC M n l):=by
    rw [cv_congr (f:=chC M n i) (f':=chC M n i) (fun _ _=>rfl) (fun a ha=>cv_ch hn0 hn hG hj hk ha),cv_sumr (U:=fun m x=>cA M n j k m*chC M n m x)];exact sumTo_congr' fun m hm=>by rw [cv_mulr,cA_cv (j:=m) hn0 hn hG hl]
  rw [e1,e2];exact cv_assoc hn0 hn hG hz
def d0 (x:Nat):Nat:=if x=0 then 1 else 0
theorem iv_0 (hn0:0<n)(hn:n≤6)(hG:TabP n M):iv M n 0=0:=(hG.iu hn0 hn hn0 hn0 (g_1l hn0 hn hG hn0)).symm
theorem cv_d0l (hn0:0<n)(hn:n≤6)(hG:TabP n M){f:Nat→Nat}{z:Nat}(hz:z<n):cv M n d0 f z=f z:=by
  rw [cv_one hn0 hn hG hz];have e:∀ a,a<n→d0 a*f (M (iv M n a) z)=(if a=0 then 1 else 0)*(fun a=>f (M (iv M n a) z)) a:=fun a _=>rfl;rw [sumTo_congr' e,sumTo_pick (F:=fun a=>f (M (iv M n a) z)) hn0]
  show f (M (iv M n 0) z)=f z
  rw [iv_0 hn0 hn hG,g_1l hn0 hn hG hz]
theorem cv_d0r (hn0:0<n)(hn:n≤6)(hG:TabP n M){f:Nat→Nat}{z:Nat}(hz:z<n):cv M n f d0 z=f z:=by
  unfold cv
  have e:∀ a,a<n→sumTo (fun b=>if M a b=z then f a*d0 b else 0) n=(if a=z then 1 else 0)*f a:=fun a ha=>by
    have e2:∀ b,b<n→(if M a b=z then f a*d0 b else 0)=(if b=0 then 1 else 0)*(fun b=>if M a b=z then f a else 0) b:=fun b _=>by
      unfold d0
      by_cases q:b=0
      · subst q;rw [if_pos rfl,Nat.one_mul,Nat.mul_one]
      · rw [if_neg q,Nat.zero_mul,Nat.mul_zero];split<;>rfl
    rw [sumTo_congr' e2,sumTo_pick (F:=fun b=>if M a b=z then f a else 0) hn0]
    show (if M a 0=z then f a else 0)=_
    rw [g_1r hn0 hn hG ha]
    split
    · rw [Nat.one_mul]
    · rw [Nat.zero_mul]
  rw [sumTo_congr' e];exact sumTo_pick hz
theorem cj_0 (hn0:0<n)(hn:n≤6)(hG:TabP n M){y:Nat}(hy:y<n):cj M n 0 y=0:=by
  show M (M y 0) (iv M n y)=0
  rw [g_1r hn0 hn hG hy,iv_r hG hy]
theorem rep_0 (hn0:0<n)(hn:n≤6)(hG:TabP n M):isRep M n 0=true:=isRep_iff.2 fun i hi=>absurd hi (by omega)
theorem rC_0 (hn0:0<n)(hn:n≤6)(hG:TabP n M):rC M n 0=0:=asc_at (S:=isRep M n) (rep_0 hn0 hn hG) hn0
theorem nC_p0 (hn0:0<n)(hn:n≤6)(hG:TabP n M):0<nC M n:=cnt_lt (rep_0 hn0 hn hG) hn0
theorem inC_0 (hn0:0<n)(hn:n≤6)(hG:TabP n M){x:Nat}:inC M n 0 x=true↔x=0:=by
  constructor
  · intro h
    obtain ⟨y,hy,e⟩:=inC_iff.1 h;rw [← e];exact cj_0 hn0 hn hG hy
  · rintro rfl;exact inC_refl hn0 hG hn0
theorem ch_0 (hn0:0<n)(hn:n≤6)(hG:TabP n M){x:Nat}(hx:x<n):chC M n 0 x=d0 x:=by
  rw [chC_iff hx,rC_0 hn0 hn hG]
  unfold d0
  by_cases q:x=0
  · rw [if_pos q,if_pos ((inC_0 hn0 hn hG).2 q)]
  · rw [if_neg q,if_neg (fun r=>q ((inC_0 hn0 hn hG).1 r))]
theorem cA_0l (hn0:0<n)(hn:n≤6)(hG:TabP n M){j k:Nat}(hj:j<nC M n)(hk:k<nC M n):cA M n 0 j k=if k=j then 1 else 0:=by
  rw [cA_cv hn0 hn hG hk,cv_congr (f':=d0) (g':=chC M n j) (fun a ha=>ch_0 hn0 hn hG ha) (fun _ _=>rfl),cv_d0l hn0 hn hG (rC_lt hk),chC_rC hn0 hn hG hj hk]
theorem cA_0r (hn0:0<n)(hn:n≤6)(hG:TabP n M){i k:Nat}(hi:i<nC M n)(hk:k<nC M n):cA M n i 0 k=if k=i then 1 else 0:=by
  rw [cA_cv hn0 hn hG hk,cv_congr (f':=chC M n i) (g':=d0) (fun _ _=>rfl) (fun a ha=>ch_0 hn0 hn hG ha),cv_d0r hn0 hn hG (rC_lt hk),chC_rC hn0 hn hG hi hk]
theorem d0_CF (hn0:0<n)(hn:n≤6)(hG:TabP n M):CF M n d0:=fun x y hx hy=>by
  rw [← ch_0 hn0 hn hG (cj_lt hn hG hx hy),← ch_0 hn0 hn hG hx]
  exact chC_CF hn0 hn hG (nC_p0 hn0 hn hG) x y hx hy
theorem wy_CF (hn0:0<n)(hn:n≤6)(hG:TabP n M){e:Nat→Nat}(he:CF M n e):∀ k,CF M n (wy M n e k)
  | 0=>d0_CF hn0 hn hG
  | k + 1 => fun x y hx hy => by
    show wA M (fun a b=>wy M n e k a*e b) n n 0 (cj M n x y)=wA M (fun a b=>wy M n e k a*e b) n n 0 x
    rw [wA_cv,wA_cv]
    exact cv_CF hn0 hn hG (wy_CF hn0 hn hG he k) he x y hx hy
theorem wy_cls (hn0:0<n)(hn:n≤6)(hG:TabP n M){e:Nat→Nat}(he:CF M n e){k c:Nat}(hc:c<nC M n) :
    wy M n e (k+1) (rC M n c)=sumTo (fun i=>sumTo (fun j=>wy M n e k (rC M n i)*e (rC M n j)*cA M n i j c) (nC M n)) (nC M n):=by
  show wA M (fun a b=>wy M n e k a*e b) n n 0 (rC M n c)=_
  rw [wA_cv];exact cv_cls hn0 hn hG (wy_CF hn0 hn hG he k) he hc
theorem cj_inj (hn0:0<n)(hn:n≤6)(hG:TabP n M){a b y:Nat}(ha:a<n)(hb:b<n)(hy:y<n):cj M n a y=cj M n b y↔a=b:=
  ⟨fun h=>by rw [← cj_back hn0 hn hG ha hy,← cj_back hn0 hn hG hb hy,h],fun h=>by rw [h]⟩
end
end Go.Proofs.Ytklpefdaplchbaa
namespace Go.Proofs.Ytklpefdaplchbaa
open Go Go.RowKit Go.Sw Go.Ech
open Classical
theorem sumTo_modc {f g:Nat→Nat}{p:Nat}:∀ {m:Nat},(∀ i,i<m→f i%p=g i%p)→sumTo f m%p=sumTo g m%p
  | 0,_=>rfl
  | m + 1, h => by
    simp only [sumTo]
    rw [Nat.add_mod,sumTo_modc (fun i hi=>h i (by omega)),h m (by omega),← Nat.add_mod]
section
variable {n p : Nat} {M : Nat → Nat → Nat}
def tK (p n:Nat) (M:Nat→Nat→Nat) (i j k:Nat):Nat:=if i<nC M n∧j<nC M n∧k<nC M n then cA M n i j k%p else 0
theorem tC_K:tCp p n M (nC M n) 0 0=tK p n M:=by
  funext i j k
  unfold tCp tK
  have e:(j<nC M n∧k<nC M n∧(i<nC M n∨(i=nC M n∧(j<0∨(j=0∧k<0)))))=(i<nC M n∧j<nC M n∧k<nC M n):=by apply propext;omega
  simp only [e]
theorem tK_in {i j k:Nat}(hi:i<nC M n)(hj:j<nC M n)(hk:k<nC M n):tK p n M i j k=cA M n i j k%p:=if_pos ⟨hi,hj,hk⟩
theorem tK_lt (hp:0<p)(i j k:Nat):tK p n M i j k<p:=by unfold tK;split;exact Nat.mod_lt _ hp;exact hp
theorem tK_out (i j k:Nat)(h:nC M n≤k):tK p n M i j k=0:=if_neg (by omega)
theorem tK_trunc:trunc (nC M n) (tK p n M)=tK p n M:=by
  funext i j k
  unfold trunc
  by_cases h:i<nC M n∧j<nC M n∧k<nC M n
  · rw [if_pos h]
  · rw [if_neg h];exact (if_neg h).symm
def uK (c:Nat):Nat:=if c=0 then 1 else 0
theorem p_two (hn0:0<n)(hn:n≤6)(hG:TabP n M)(hP:primeP (p:Int)):2≤p:=by have:=primeP_pos2 hP;omega
theorem tm_r (hn0:0<n)(hn:n≤6)(hG:TabP n M)(hP:primeP (p:Int)){i j k c:Nat}(hi:i<nC M n)(hj:j<nC M n)(hk:k<nC M n)(hc:c<nC M n) :
    timesV p (nC M n) (tK p n M) (tK p n M i j) (fun c=>if c=k then 1 else 0) c=sumTo (fun a=>cA M n i j a*cA M n a k c) (nC M n)%p:=by
  unfold timesV prodI
  refine sumTo_modc fun a ha=>?_;have e:∀ b,b<nC M n→tK p n M i j a*(if b=k then 1 else 0)*tK p n M a b c=(if b=k then 1 else 0)*(fun b=>tK p n M i j a*tK p n M a b c) b:=fun b _=>by
    rw [Nat.mul_comm (tK p n M i j a),Nat.mul_assoc]
  rw [sumTo_congr' e,sumTo_pick (F:=fun b=>tK p n M i j a*tK p n M a b c) hk]
  show (tK p n M i j a*tK p n M a k c)%p=_
  rw [tK_in hi hj ha,tK_in ha hk hc,← Nat.mul_mod]
theorem tm_l (hn0:0<n)(hn:n≤6)(hG:TabP n M)(hP:primeP (p:Int)){i j k c:Nat}(hi:i<nC M n)(hj:j<nC M n)(hk:k<nC M n)(hc:c<nC M n) :
    timesV p (nC M n) (tK p n M) (fun c=>if c=i then 1 else 0) (tK p n M j k) c=sumTo (fun b=>cA M n j k b*cA M n i b c) (nC M n)%p:=by
  unfold timesV prodI
  have e:∀ a,a<nC M n→sumTo (fun b=>(if a=i then 1 else 0)*tK p n M j k b*tK p n M a b c) (nC M n)=(if a=i then 1 else 0)*(fun a=>sumTo (fun b=>tK p n M j k b*tK p n M a b c) (nC M n)) a:=fun a _=>by
    show _=(if a=i then 1 else 0)*sumTo (fun b=>tK p n M j k b*tK p n M a b c) (nC M n)
    rw [← sumTo_mull];exact sumTo_congr' fun b _=>by rw [Nat.mul_assoc]
  rw [sumTo_congr' e,sumTo_pick (F:=fun a=>sumTo (fun b=>tK p n M j k b*tK p n M a b c) (nC M n)) hi];refine sumTo_modc fun b hb=>?_;rw [tK_in hj hk hb,tK_in hi hb hc,← Nat.mul_mod]
theorem cls_asP (hn0:0<n)(hn:n≤6)(hG:TabP n M)(hP:primeP (p:Int)):asP p (nC M n) (tK p n M):=fun j hj i hi k hk c hc=>by
  by_cases h:c<nC M n
  · rw [tm_r hn0 hn hG hP hi hj hk h,tm_l hn0 hn hG hP hi hj hk h,cA_assoc hn0 hn hG hi hj hk h]
  · rw [timesV_out tK_out (by omega),timesV_out tK_out (by omega)]
theorem cls_unit (hn0:0<n)(hn:n≤6)(hG:TabP n M)(hP:primeP (p:Int)):UnitI p (nC M n) (tK p n M) uK:=by
  have hp2:=p_two hn0 hn hG hP;have hm:=nC_p0 hn0 hn hG;have one:∀ x:Nat,x<2→x%p=x:=fun x hx=>Nat.mod_eq_of_lt (by omega);have h1:∀ i,i<nC M n→∀ c,c<nC M n→(if c=i then 1 else 0:Nat)=dl i c:=fun i _ c _=>by
    unfold dl
    by_cases q:c=i
    · rw [if_pos q,if_pos q.symm]
    · rw [if_neg q,if_neg (fun r=>q r.symm)]
  refine ⟨fun c=>?_,fun c hc=>?_,fun i hi c hc=>?_,fun i hi c hc=>?_⟩
  · unfold uK;split<;>omega
  · unfold uK;rw [if_neg (by omega)]
  · have e:sI (fun a=>(uK a:Int)*(tK p n M a i c:Int)) (nC M n)=(sumTo (fun a=>(if a=0 then 1 else 0)*(fun a=>tK p n M a i c) a) (nC M n):Int):=by
      rw [sumTo_sI];exact sI_congr fun a _=>by rw [Int.natCast_mul];rfl
    rw [e,sumTo_pick (F:=fun a=>tK p n M a i c) hm]
    show (p:Int)∣((tK p n M 0 i c:Nat):Int) - (dl i c:Int)
    rw [tK_in hm hi hc,cA_0l hn0 hn hG hi hc,one _ (by split<;>omega),h1 i hi c hc,Int.sub_self];exact Int.dvd_zero _
  · have e:sI (fun a=>(uK a:Int)*(tK p n M i a c:Int)) (nC M n)=(sumTo (fun a=>(if a=0 then 1 else 0)*(fun a=>tK p n M i a c) a) (nC M n):Int):=by
      rw [sumTo_sI];exact sI_congr fun a _=>by rw [Int.natCast_mul];rfl
    rw [e,sumTo_pick (F:=fun a=>tK p n M i a c) hm]
    show (p:Int)∣((tK p n M i 0 c:Nat):Int) - (dl i c:Int)
    rw [tK_in hi hm hc,cA_0r hn0 hn hG hi hc,one _ (by split<;>omega),h1 i hi c hc,Int.sub_self];exact Int.dvd_zero _
theorem cls_alg (hn0:0<n)(hn:n≤6)(hG:TabP n M)(hP:primeP (p:Int)):AlgP (p:Int) (nC M n:Int) (tK p n M) uK:=by
  have hp2:=p_two hn0 hn hG hP;have hm:=nC_p0 hn0 hn hG;have hm6:=nC_le (M:=M) hn;refine ⟨⟨hP,⟨by omega,by omega⟩,fun i _=>?_,fun i _ j _ k _=>?_⟩,?_⟩
  · unfold okN uK
    split<;>omega
  · have h1:=tK_lt (n:=n) (M:=M) (show 0<p by omega) i j k
    unfold okN
    rintro (h | ⟨h,h2⟩)
    · omega
    · refine h2 (if_neg fun q=>?_)
      by_cases r:(i:Int)≥(nC M n:Int)∨(j:Int)≥(nC M n:Int)
      · omega
      · rw [if_neg r] at h;omega
  · show AlgN p (nC M n) (trunc (nC M n) (tK p n M))
    rw [tK_trunc];exact ⟨(asP_iff tK_out).1 (cls_asP hn0 hn hG hP),uK,cls_unit hn0 hn hG hP⟩
end
end Go.Proofs.Ytklpefdaplchbaa
namespace Go.Proofs.Ytklpefdaplchbaa
open Go Go.RowKit Go.Sw Go.Ech
open Classical
section
variable {n p : Nat} {M : Nat → Nat → Nat}
theorem cv_comm (hn0:0<n)(hn:n≤6)(hG:TabP n M){f g:Nat→Nat}(hg:CF M n g){z:Nat}(hz:z<n):cv M n f g z=cv M n g f z:=by
  rw [cv_one hn0 hn hG hz]
  unfold cv
  rw [sumTo_swap];refine sumTo_congr' fun b hb=>?_;have hib:=iv_lt hG hb;have hzb:=hG.c hn hz hib;have e:∀ a,a<n→(if M a b=z then g a*f b else 0)=(if a=M z (iv M n b) then 1 else 0)*(fun a=>g a*f b) a:=fun a ha=>by
    by_cases q:M a b=z
    · have:a=M z (iv M n b):=by rw [← q,g_as hn0 hn hG ha hb hib,iv_r hG hb,g_1r hn0 hn hG ha]
      rw [if_pos q,if_pos this,Nat.one_mul]
    · have:¬ a=M z (iv M n b):=fun r=>q (by rw [r,g_as hn0 hn hG hz hib hb,iv_l hn0 hn hG hb,g_1r hn0 hn hG hz])
      rw [if_neg q,if_neg this,Nat.zero_mul]
  rw [sumTo_congr' e,sumTo_pick (F:=fun a=>g a*f b) hzb]
  show f b*g (M (iv M n b) z)=g (M z (iv M n b))*f b
  have e2:cj M n (M z (iv M n b)) (iv M n b)=M (iv M n b) z:=by
    show M (M (iv M n b) (M z (iv M n b))) (iv M n (iv M n b))=_
    rw [iv_iv hn0 hn hG hb,← g_as hn0 hn hG hib hz hib,g_as hn0 hn hG (hG.c hn hib hz) hib hb,iv_l hn0 hn hG hb,g_1r hn0 hn hG (hG.c hn hib hz)]
  rw [← e2,hg _ _ hzb hib,Nat.mul_comm]
theorem cA_comm (hn0:0<n)(hn:n≤6)(hG:TabP n M){i j k:Nat}(hi:i<nC M n)(hj:j<nC M n)(hk:k<nC M n):cA M n i j k=cA M n j i k:=by
  rw [cA_cv hn0 hn hG hk,cA_cv hn0 hn hG hk,cv_comm hn0 hn hG (chC_CF hn0 hn hG hj) (rC_lt hk)]
theorem tK_com (hn0:0<n)(hn:n≤6)(hG:TabP n M):comP (tK p n M):=fun i _ j _ k _=>by
  show tK p n M i j k=tK p n M j i k
  unfold tK
  by_cases h:i<nC M n∧j<nC M n∧k<nC M n
  · rw [if_pos h,if_pos ⟨h.2.1,h.1,h.2.2⟩,cA_comm hn0 hn hG h.1 h.2.1 h.2.2]
  · rw [if_neg h,if_neg (fun q=>h ⟨q.2.1,q.1,q.2.2⟩)]
theorem cnt_sum {S:Nat→Bool}:∀ m,cnt S m=sumTo (fun x=>if S x=true then 1 else 0) m
  | 0=>rfl
  | m + 1 => by
    show cnt S m+(if S m=true then 1 else 0)=sumTo (fun x=>if S x=true then 1 else 0) m+(if S m=true then 1 else 0)
    rw [cnt_sum m]
theorem sC_sum {c:Nat}:sC M n c=sumTo (chC M n c) n:=by
  show cnt _ n=_
  rw [cnt_sum];exact sumTo_congr' fun x hx=>(chC_iff hx).symm
theorem sumTo_const (c:Nat):∀ m,sumTo (fun _=>c) m=m*c
  | 0=>by simp [sumTo]
  | m+1=>by simp only [sumTo];rw [sumTo_const c m,Nat.add_mul,Nat.one_mul]
theorem chC_all (hn0:0<n)(hn:n≤6)(hG:TabP n M){x:Nat}(hx:x<n):sumTo (fun c=>chC M n c x) (nC M n)=1:=by
  have h:=CF_sum hn0 hn hG (f:=fun _=>1) (fun _ _ _ _=>rfl) hx;rw [h];exact sumTo_congr' fun c _=>(Nat.one_mul _).symm
theorem sC_all (hn0:0<n)(hn:n≤6)(hG:TabP n M):sumTo (sC M n) (nC M n)=n:=by
  rw [sumTo_congr' (g:=fun c=>sumTo (fun x=>chC M n c x) n) (fun c _=>sC_sum),sumTo_swap,sumTo_congr' (g:=fun _=>1) (fun x hx=>chC_all hn0 hn hG hx),sumTo_const,Nat.mul_one]
def fx (M:Nat→Nat→Nat) (n r x:Nat):Nat:=sumTo (fun y=>if cj M n r y=x then 1 else 0) n
theorem fx_all (hn0:0<n)(hn:n≤6)(hG:TabP n M){r:Nat}(hr:r<n):sumTo (fun x=>fx M n r x) n=n:=by
  unfold fx
  rw [sumTo_swap];have e:∀ y,y<n→sumTo (fun x=>if cj M n r y=x then 1 else 0) n=1:=fun y hy=>by
    have e2:∀ x,x<n→(if cj M n r y=x then 1 else 0)=(if x=cj M n r y then 1 else 0)*(fun _=>1) x:=fun x _=>by
      by_cases q:x=cj M n r y
      · rw [if_pos q,if_pos q.symm];rfl
      · rw [if_neg q,if_neg (fun h=>q h.symm)];exact (Nat.zero_mul _).symm
    rw [sumTo_congr' e2];exact sumTo_pick (F:=fun _=>1) (cj_lt hn hG hr hy)
  rw [sumTo_congr' e,sumTo_const,Nat.mul_one]
theorem cj_comp (hn0:0<n)(hn:n≤6)(hG:TabP n M){r y z:Nat}(hr:r<n)(hy:y<n)(hz:z<n):cj M n r (M y z)=cj M n (cj M n r z) y:=by
  have hiy:=iv_lt hG hy;have hiz:=iv_lt hG hz
  show M (M (M y z) r) (iv M n (M y z))=M (M y (M (M z r) (iv M n z))) (iv M n y)
  have hzr:=hG.c hn hz hr;rw [iv_m hn0 hn hG hy hz,g_as hn0 hn hG hy hz hr,← g_as hn0 hn hG (hG.c hn hy hzr) hiz hiy,g_as hn0 hn hG hy hzr hiz]
theorem fx_in (hn0:0<n)(hn:n≤6)(hG:TabP n M){r x:Nat}(hr:r<n)(h:inC M n r x=true):fx M n r x=fx M n x x:=by
  obtain ⟨y0,hy0,e⟩:=inC_iff.1 h;have hi0:=iv_lt hG hy0
  unfold fx
  rw [← sumTo_re (F:=fun y=>if cj M n r y=x then 1 else 0) (σ:=fun a=>M a y0) (τ:=fun c=>M c (iv M n y0)) (fun a ha=>hG.c hn ha hy0) (fun c hc=>hG.c hn hc hi0) (fun a c ha hc=>by
    constructor
    · intro q;rw [← q,g_as hn0 hn hG ha hy0 hi0,iv_r hG hy0,g_1r hn0 hn hG ha]
    · intro q;rw [q,g_as hn0 hn hG hc hi0 hy0,iv_l hn0 hn hG hy0,g_1r hn0 hn hG hc])]
  refine sumTo_congr' fun y hy=>?_
  show (if cj M n r (M y y0)=x then 1 else 0)=_
  rw [cj_comp hn0 hn hG hr hy hy0,e]
theorem fx_out {r x:Nat}(h:¬ inC M n r x=true):fx M n r x=0:=
  sumTo_zero fun y hy=>if_neg fun q=>h (inC_iff.2 ⟨y,hy,q⟩)
end
end Go.Proofs.Ytklpefdaplchbaa
namespace Go.Proofs.Ytklpefdaplchbaa
open Go Go.RowKit Go.Sw Go.Ech
open Classical
theorem sI_zero {f:Nat→Int}:∀ {N:Nat},(∀ c,c<N→f c=0)→sI f N=0
  | 0,_=>rfl
  | N + 1, h => by
    show sI f N+f N=0
    rw [sI_zero (fun c hc=>h c (by omega)),h N (by omega)];rfl
theorem sI_only {f:Nat→Int}{c0:Nat}:∀ {N:Nat},c0<N→(∀ c,c<N→c≠c0→f c=0)→sI f N=f c0
  | 0,h,_=>by omega
  | N + 1, h, h0 => by
    show sI f N+f N=f c0
    by_cases e:c0=N
    · subst e;rw [sI_zero (fun c hc=>h0 c (by omega) (by omega)),Int.zero_add]
    · rw [sI_only (by omega) (fun c hc=>h0 c (by omega)),h0 N (by omega) (fun q=>e q.symm),Int.add_zero]
section
variable {p m : Nat} {A : Nat → Nat → Nat} {J : Nat → Nat → Prop} {s : Nat → Nat}
structure Mono (p m:Nat) (A:Nat→Nat→Nat) (J:Nat→Nat→Prop) (s:Nat→Nat):Prop where
  inn:∀ i,i<m→∀ c,c<m→A i c=if J i c then s i%p else 0
  out:∀ i,i<m→∀ c,m≤c→A i c=0
  ex:∀ i,i<m→∃ c,c<m∧J i c
  one:∀ i,i<m→∀ c,c<m→∀ d,d<m→J i c→J i d→c=d
  symm:∀ i,i<m→∀ c,c<m→J i c→J c i
theorem Mono.dot (h:Mono p m A J s)(hm:m≤6){i c:Nat}(hi:i<m)(hc:c<m)(hj:J i c)(x:Nat→Int):Go.Ech.dot 6 (ci (A i)) x=((s i%p:Nat):Int)*x c:=by
  unfold Go.Ech.dot
  rw [sI_only (c0:=c) (by omega) fun d hd hne=>?_]
  · show (A i c:Int)*x c=_
    rw [h.inn i hi c hc,if_pos hj]
  · show (A i d:Int)*x d=0
    by_cases q:d<m
    · rw [h.inn i hi d q,if_neg (fun r=>hne (h.one i hi d q c hc r hj))];simp
    · rw [h.out i hi d (by omega)];simp
theorem Mono.frob (h:Mono p m A J s)(hp:primeN p)(hm:m≤6):(∃ E ld,Rref p 6 E m ld∧∀ x,Ker p 6 E m x↔Ker p 6 A m x)↔∀ i,i<m→s i%p≠0:=by
  have hp2:=hp.two
  constructor
  · rintro ⟨E,ld,hE,hK⟩ i hi hs
    obtain ⟨c0,hc0,hj0⟩:=h.ex i hi
    have key:∀ c,c<6→Ker p 6 A m (fun d=>if d=c then 1 else 0)→∀ r,r<m→ld r≠c:=fun c hc hk r hr e=>by
      have h1:=(hK _).2 hk r hr
      unfold Go.Ech.dot at h1
      rw [sI_only (c0:=c) hc (fun d _ hne=>by dsimp only;rw [if_neg hne,Int.mul_zero])] at h1
      dsimp only at h1
      rw [if_pos rfl,Int.mul_one] at h1;have h2:=hE.one r hr;rw [e] at h2;have h3:ci (E r) c=1:=by show (E r c:Int)=1;rw [h2];rfl
      rw [h3] at h1;have:=Int.le_of_dvd (by decide) h1
      omega
    have kz:∀ c,(∀ i',i'<m→A i' c=0)→Ker p 6 A m (fun d=>if d=c then 1 else 0):=fun c hz i' hi'=>by
      unfold Go.Ech.dot
      rw [sI_zero fun d _=>?_]
      · exact Int.dvd_zero _
      · show (A i' d:Int)*(if d=c then 1 else 0)=0
        by_cases q:d=c
        · rw [q,hz i' hi'];simp
        · rw [if_neg q,Int.mul_zero]
    have hin:∀ r,r<m→ld r<m:=fun r hr=>by
      by_cases q:ld r<m
      · exact q
      · exact absurd rfl (key (ld r) (hE.lt r hr) (kz _ fun i' hi'=>h.out i' hi' _ (by omega)) r hr)
    have hno:∀ r,r<m→ld r≠c0:=key c0 (by omega) (kz _ fun i' hi'=>by
      rw [h.inn i' hi' c0 hc0]
      by_cases q:J i' c0
      · have e:i'=i:=h.one c0 hc0 i' hi' i hi (h.symm _ hi' _ hc0 q) (h.symm _ hi _ hc0 hj0)
        rw [if_pos q,e,hs]
      · rw [if_neg q])
    have up:∀ k r,r+k<m→ld r+k≤ld (r+k):=fun k=>by
      induction k with
      | zero=>intro r _;exact Nat.le_refl _
      | succ k ih =>
        intro r hr;have h1:=ih r (by omega);have h2:=hE.mono (r+k) (r+k+1) (by omega) (by omega)
        show ld r+(k+1)≤ld (r+k+1)
        omega
    have e1:=up c0 0 (by omega);have e2:=up (m - 1 - c0) c0 (by omega);have e3:=hin (c0+(m - 1 - c0)) (by omega);rw [Nat.zero_add] at e1;exact hno c0 hc0 (by omega)
  · intro hs
    refine ⟨fun i c=>if c=i then 1 else 0,fun i=>i,⟨fun i hi=>by omega,fun i j hij _=>hij,fun i _=>if_pos rfl,fun i _ c hc=>if_neg (by omega),fun i j _ _ hij=>if_neg hij,fun i _ c _=>by split<;>omega⟩,fun x=>?_⟩;have hI:Ker p 6 (fun i c=>if c=i then 1 else 0) m x↔∀ i,i<m→(p:Int)∣x i:=by
      have e:∀ i,i<m→Go.Ech.dot 6 (ci (fun c=>if c=i then 1 else 0)) x=x i:=fun i hi=>by
        unfold Go.Ech.dot
        rw [sI_only (c0:=i) (by omega) fun d _ hne=>by show (((if d=i then 1 else 0:Nat)):Int)*x d=0;rw [if_neg hne];simp]
        show (((if i=i then 1 else 0:Nat)):Int)*x i=x i
        rw [if_pos rfl];simp
      constructor
      · intro q i hi;have:=q i hi;rwa [e i hi] at this
      · intro q i hi
        show (p:Int)∣Go.Ech.dot 6 (ci (fun c=>if c=i then 1 else 0)) x
        rw [e i hi];exact q i hi
    rw [hI]
    constructor
    · intro q i hi
      obtain ⟨c,hc,hj⟩:=h.ex i hi;rw [h.dot hm hi hc hj];exact Int.dvd_mul_of_dvd_right (q c hc)
    · intro q j hj
      obtain ⟨c,hc,hjc⟩:=h.ex j hj;have h1:=q c hc;rw [h.dot hm hc hj (h.symm _ hj _ hc hjc),Int.mul_comm] at h1;exact dvd_prime hp (Nat.mod_lt _ (by omega)) (hs c hc) h1
end
section
variable {n p : Nat} {M : Nat → Nat → Nat}
theorem iv_cj (hn0:0<n)(hn:n≤6)(hG:TabP n M){a y:Nat}(ha:a<n)(hy:y<n):iv M n (cj M n a y)=cj M n (iv M n a) y:=by
  have hia:=iv_lt hG ha;have h1:M (cj M n a y) (cj M n (iv M n a) y)=0:=by
    rw [← cj_m hn0 hn hG ha hia hy,iv_r hG ha];exact cj_0 hn0 hn hG hy
  exact (hG.iu hn0 hn (cj_lt hn hG ha hy) (cj_lt hn hG hia hy) h1).symm
def ivC (M:Nat→Nat→Nat) (n i c:Nat):Prop:=inC M n (rC M n c) (iv M n (rC M n i))=true
theorem in_iv (hn0:0<n)(hn:n≤6)(hG:TabP n M){r a:Nat}(hr:r<n)(h:inC M n r a=true):inC M n (iv M n r) (iv M n a)=true:=by
  obtain ⟨y,hy,e⟩:=inC_iff.1 h;exact inC_iff.2 ⟨y,hy,by rw [← e,iv_cj hn0 hn hG hr hy]⟩
theorem cA_0 (hn0:0<n)(hn:n≤6)(hG:TabP n M){i c:Nat}(hi:i<nC M n)(hc:c<nC M n):cA M n i c 0=if ivC M n i c then sC M n i else 0:=by
  have hri:=rC_lt hi;have hrc:=rC_lt hc;rw [cA_cv hn0 hn hG (nC_p0 hn0 hn hG),rC_0 hn0 hn hG,cv_one hn0 hn hG hn0];have e:∀ a,a<n→chC M n i a*chC M n c (M (iv M n a) 0)=if ivC M n i c then chC M n i a else 0:=fun a ha=>by
    have hia:=iv_lt hG ha;rw [g_1r hn0 hn hG hia,chC_iff ha,chC_iff hia]
    by_cases q:inC M n (rC M n i) a=true
    · have h1:=in_iv hn0 hn hG hri q
      rw [if_pos q,Nat.one_mul]
      by_cases r:ivC M n i c
      · rw [if_pos r,if_pos (inC_trans hn0 hn hG hrc r h1)]
      · rw [if_neg r,if_neg fun t=>r (inC_trans hn0 hn hG hrc t (inC_symm hn0 hn hG (iv_lt hG hri) h1))]
    · rw [if_neg q,Nat.zero_mul];split<;>rfl
  rw [sumTo_congr' e]
  by_cases r:ivC M n i c
  · rw [if_pos r,sC_sum];exact sumTo_congr' fun a _=>if_pos r
  · rw [if_neg r];exact sumTo_zero fun a _=>if_neg r
theorem cls_mono (hn0:0<n)(hn:n≤6)(hG:TabP n M):Mono p (nC M n) (formM p (nC M n) (tK p n M) uK) (ivC M n) (sC M n):=by
  have hm:=nC_p0 hn0 hn hG;have e:∀ i c,c<nC M n→formM p (nC M n) (tK p n M) uK i c=tK p n M i c 0%p:=fun i c hc=>by
    unfold formM
    rw [if_pos hc];have:∀ k,k<6→tK p n M i c k*uK k=(if k=0 then 1 else 0)*(fun k=>tK p n M i c k) k:=fun k _=>Nat.mul_comm _ _;rw [sumTo_congr' this,sumTo_pick (F:=fun k=>tK p n M i c k) (by omega)]
  refine ⟨fun i hi c hc=>?_,fun i hi c hc=>if_neg (by omega),fun i hi=>?_,fun i hi c hc d hd h1 h2=>?_,fun i hi c hc h=>?_⟩
  · rw [e i c hc,tK_in hi hc hm,cA_0 hn0 hn hG hi hc,Nat.mod_mod]
    split
    · rfl
    · exact Nat.zero_mod _
  · exact cls_ex hn0 hn hG (iv_lt hG (rC_lt hi))
  · exact cls_one hn0 hn hG hc hd (iv_lt hG (rC_lt hi)) h1 h2
  · have hri:=rC_lt hi
    have h1:=in_iv hn0 hn hG (rC_lt hc) h;rw [iv_iv hn0 hn hG hri] at h1;exact inC_symm hn0 hn hG (iv_lt hG (rC_lt hc)) h1
theorem cls_frob (hn0:0<n)(hn:n≤6)(hG:TabP n M)(hp:primeN p):FrobN p (nC M n) (tK p n M) uK↔∀ i,i<nC M n→sC M n i%p≠0:=
  (cls_mono hn0 hn hG).frob hp (nC_le hn)
end
end Go.Proofs.Ytklpefdaplchbaa
