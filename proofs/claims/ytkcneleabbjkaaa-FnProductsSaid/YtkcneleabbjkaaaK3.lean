import Derived.Test.YtkcneleabbjkaaaK2
set_option linter.unusedVariables false
set_option linter.unusedSimpArgs false
namespace Go.Proofs.Ytkcneleabbjkaaa
open Go Go.RowKit Go.Sw Go.Ech
open Classical
theorem A9:FS Try.prog 29=some (.agg (AJ 0 0 (fun _ _ _=>0) (fun _=>0))):=by kernel_rfl
theorem Av:DO Try.prog 29=some 224:=by kernel_rfl
theorem Du {p n:Int}{T:Nat→Nat→Nat→Nat}{f v:Nat→Nat}{o:Nat}(a b:Nat)(h:o=2+a*36+b*6)(ha:a<6)(hb:b<6):splice (AJ p n T f) o (AI v)=AJ p n (fun i j k=>if i=a∧j=b then v k else T i j k) f:=by
  subst h;have hz:2+a*36+b*6+(AI v).size≤(AJ p n T f).size:=by rw [C5,AQ];omega
  refine E7 (by rw [Ec _ _ _ hz,AQ]) ?_ ?_ ?_ ?_
  · rw [CT _ _ _ _ hz,if_neg (by omega)];exact BQ rfl
  · rw [CT _ _ _ _ hz,if_neg (by omega)];exact A5 rfl
  · intro i j k hi hj hk
    rw [CT _ _ _ _ hz,C5]
    by_cases e:i=a∧j=b
    · rw [if_pos (by omega),if_pos e];exact BS k (by omega) hk
    · rw [if_neg (by omega),if_neg e];exact C4 i j k rfl hi hj hk
  · intro i hi;rw [CT _ _ _ _ hz,C5,if_neg (by omega)];exact C3 i rfl hi
theorem B2 {p n:Int}{T U:Nat→Nat→Nat→Nat}{f:Nat→Nat}(h:∀ i,i<6→∀ j,j<6→∀ k,k<6→T i j k=U i j k):AJ p n T f=AJ p n U f:=by
  unfold AJ
  refine BV fun c hc=>?_
  by_cases h0:c=0
  · rw [if_pos h0,if_pos h0]
  · rw [if_neg h0,if_neg h0]
    by_cases h1:c=1
    · rw [if_pos h1,if_pos h1]
    · rw [if_neg h1,if_neg h1]
      by_cases h2:c<218
      · rw [if_pos h2,if_pos h2,h _ (by omega) _ (by omega) _ (by omega)]
      · rw [if_neg h2,if_neg h2]
def O3 (T:Nat→Nat→Nat→Nat) (i j k:Nat):Nat:=T j i k
theorem Kn (p n:Nat)(T:Nat→Nat→Nat→Nat)(f uu:Nat→Nat)(w:World)(hp:primeN p)(hn0:0<n)(hn:n≤6)(hTp:∀ i j k,T i j k<p)(huu:UnitI p n T uu):HO Try.prog 152 #[.agg (AJ (p:Int) (n:Int) T f)] w (.tuple #[.agg (AI uu),.bool true]):=
  (FL p n T f w hp hn0 hn hTp).mono fun v w' _ h=>by
    rcases h with ⟨u,hu,rfl⟩ | ⟨hu,rfl⟩
    · rw [huu.unique hu]
    · exact absurd huu (hu uu)
theorem FM (p n:Nat)(T:Nat→Nat→Nat→Nat)(f uu:Nat→Nat)(w:World)(hp:primeN p)(hn0:0<n)(hn:n≤6)(hTp:∀ i j k,T i j k<p)(huu:UnitI p n T uu):HO Try.prog 94 #[.agg (AJ (p:Int) (n:Int) T f)] w (.tuple #[.agg (AI uu),.bool true]):=
  (Ge p n T f w hp hn0 hn hTp).mono fun v w' _ h=>by
    rcases h with ⟨u,hu,rfl⟩ | ⟨hu,rfl⟩
    · rw [huu.unique hu]
    · exact absurd huu (hu uu)
def Ol (T:Nat→Nat→Nat→Nat):Prop:=∀ i,i<6→∀ j,j<i→FR 6 (T i j) (T j i)
theorem EJ (p n:Nat)(T:Nat→Nat→Nat→Nat)(f:Nat→Nat)(w:World)(hp:primeN p)(hn0:0<n)(hn:n≤6)(hTp:∀ i j k,T i j k<p)(uu:Nat→Nat)(huu:UnitI p n T uu) :
    CallsR Try.prog 102 #[.agg (AJ (p:Int) (n:Int) T f)] w (fun res _=>res = .agg (AI uu)):=by
  refine Ak [.agg (AJ (p:Int) (n:Int) T f)] Try.func102 rfl Try.ntmps102 rfl fun a hF=>?_;have hM:Af w w [none,none,none] []:=MemX.start w 3;change Fr 11 a [(0,.agg (AJ (p:Int) (n:Int) T f))] at hF;refine sr<|Am hF (Au 0 hM hF rfl) rfl ?_;rintro _ w' a ⟨b1,rfl,hM,-⟩ hF;refine Am hF (AW 1 hM Ac) rfl ?_;rintro _ w' a ⟨b2,rfl,hM,-⟩ hF;change Af w w' [some (b1,AJ (p:Int) (n:Int) T f),some (b2,Ag 6 (fun _=>.int .u8 (0))),none] [] at hM;refine ns<|st hF (AK AU hF rfl (hM.row 0 rfl) (by simp only [AR]<;>omega) (whole AQ)) rfl fun a hF=>Am hF (Aa Try.call152 hF (.cons rfl .nil) (Kn p n T f uu _ hp hn0 hn hTp huu)) rfl ?_;rintro _ w' a ⟨hx,rfl⟩ hF;have hM:=hM.ext hx;refine mv hF rfl rfl fun a hF=>st hF (AX hF rfl rfl) rfl fun a hF=>st hF (AX hF rfl rfl) rfl fun a hF=>Am hF (AW 2 hM Ac) rfl ?_;rintro _ w' a ⟨b3,rfl,hM,-⟩ hF;change Af w w' [some (b1,AJ (p:Int) (n:Int) T f),some (b2,Ag 6 (fun _=>.int .u8 (0))),some (b3,Ag 6 (fun _=>.int .u8 (0)))] [] at hM;refine A8 hF (AO 2 hM rfl AY hF rfl rfl (by first | exact AT | exact cells_one | (refine AV fun _ _=>?_;first | rfl | (split<;>rfl))) (by simp only [AR]) (by simp only [AR]<;>omega) (AL _ _ (by simp only [AR]))) ?_;intro _ w' a hM hF;change Af w w' [some (b1,AJ (p:Int) (n:Int) T f),some (b2,Ag 6 (fun _=>.int .u8 (0))),some (b3,AI uu)] [] at hM;refine ag hF rfl rfl fun a hF=>ns<|st hF (AK AP hF rfl (hM.row 2 rfl) (by simp only [AR]<;>omega) (whole (by simp only [AR]))) rfl fun a hF=>A8 hF (AO 1 hM rfl AY hF rfl rfl (by first | exact AT | exact cells_one | (refine AV fun _ _=>?_;first | rfl | (split<;>rfl))) (by simp only [AR]) (by simp only [AR]<;>omega) (AL _ _ (by simp only [AR]))) ?_;intro _ w' a hM hF;change Af w w' [some (b1,AJ (p:Int) (n:Int) T f),some (b2,AI uu),some (b3,AI uu)] [] at hM;refine nt<|wp_ret<|BC rfl hF.defers (Ao AP hF rfl (hM.row 1 rfl) (by simp only [AR])) ⟨_,rfl,hM.below,?_⟩
  show _=_
  rfl
theorem Lh (p n:Int)(T:Nat→Nat→Nat→Nat)(f:Nat→Nat)(w:World)(hT:∀ i j k,T i j k≤255)(hf:∀ i,f i≤255)(hc:¬ Bt p n T f 0 (Ay [])) :
    CallsR Try.prog 25 #[.agg (AJ p n T f)] w (fun res _=>res = .tuple #[.agg (AI (fun _=>0)),.int .i64 1]):=by
  refine Ak [.agg (AJ p n T f)] Try.func25 rfl Try.ntmps25 rfl fun a hF=>?_;have hM:Af w w [none,none] []:=MemX.start w 2;change Fr 13 a [(0,.agg (AJ p n T f))] at hF;refine sr<|Am hF (Au 0 hM hF rfl) rfl ?_;rintro _ w' a ⟨b1,rfl,hM,-⟩ hF;refine Am hF (AW 1 hM Ac) rfl ?_;rintro _ w' a ⟨b2,rfl,hM,-⟩ hF;change Af w w' [some (b1,AJ p n T f),some (b2,Ag 6 (fun _=>.int .u8 (0)))] [] at hM;refine ag hF rfl rfl fun a hF=>nt<|sq<|sr<|st hF (AK AU hF rfl (hM.row 0 rfl) (by simp only [AR]<;>omega) (whole AQ)) rfl fun a hF=>Am hF (Aa Try.call88 hF (.cons rfl (.cons rfl .nil)) ((CallsR.val (Hz p n T f (Ay []) _ (fun _ _ _=>hT _ _ _) (fun _=>hf _)) (congrArg (Value.int .i64) (if_neg hc))))) rfl ?_;rintro _ w' a ⟨hx,rfl⟩ hF;have hM:=hM.ext hx;refine ag hF rfl rfl fun a hF=>ns<|mv hF rfl rfl fun a hF=>st hF (Bz hF rfl rfl) rfl fun a hF=>nt<|Gi hF rfl (by decide)<|sr<|st hF (BM BL) rfl fun a hF=>mv hF rfl rfl fun a hF=>A8 hF (AO 1 hM rfl AY hF rfl rfl (by first | exact AT | exact cells_one | (refine AV fun _ _=>?_;first | rfl | (split<;>rfl))) (by simp only [AR]) (by simp only [AR]<;>omega) (AL _ _ (by simp only [AR]))) ?_;intro _ w' a hM hF;change Af w w' [some (b1,AJ p n T f),some (b2,Ag 6 (fun _=>.int .u8 (0)))] [] at hM;refine ag hF rfl rfl fun a hF=>nt<|wp_ret<|tR<|Bw rfl hF.defers (Ao AP hF rfl (hM.row 1 rfl) (by simp only [AR])) (Ab hF rfl) ⟨_,rfl,hM.below,?_⟩
  show _=_
  rfl
theorem Lg (p n:Nat)(T:Nat→Nat→Nat→Nat)(f:Nat→Nat)(w:World)(hp:primeN p)(hn0:0<n)(hn:n≤6)(hTp:∀ i j k,T i j k<p)(hT0:∀ i j k,n≤k→T i j k=0)(hf:∀ i,f i≤255)(uu:Nat→Nat)(huu:UnitI p n T uu)(hc:Bt (p:Int) (n:Int) T f 0 (Ay [])) :
    CallsR Try.prog 25 #[.agg (AJ (p:Int) (n:Int) T f)] w (fun res _=>res = .tuple #[.agg (AI uu),.int .i64 0]):=by
  refine Ak [.agg (AJ (p:Int) (n:Int) T f)] Try.func25 rfl Try.ntmps25 rfl fun a hF=>?_;have hM:Af w w [none,none] []:=MemX.start w 2;change Fr 13 a [(0,.agg (AJ (p:Int) (n:Int) T f))] at hF;have hp2:=hp.two;have hp13:=hp.le;have hT:∀ i j k,T i j k≤255:=fun i j k=>by have:=hTp i j k;omega
  refine sr<|Am hF (Au 0 hM hF rfl) rfl ?_;rintro _ w' a ⟨b1,rfl,hM,-⟩ hF;refine Am hF (AW 1 hM Ac) rfl ?_;rintro _ w' a ⟨b2,rfl,hM,-⟩ hF;change Af w w' [some (b1,AJ (p:Int) (n:Int) T f),some (b2,Ag 6 (fun _=>.int .u8 (0)))] [] at hM;refine ag hF rfl rfl fun a hF=>nt<|sq<|sr<|st hF (AK AU hF rfl (hM.row 0 rfl) (by simp only [AR]<;>omega) (whole AQ)) rfl fun a hF=>Am hF (Aa Try.call88 hF (.cons rfl (.cons rfl .nil)) ((CallsR.val (Hz (p:Int) (n:Int) T f (Ay []) _ (fun _ _ _=>hT _ _ _) (fun _=>hf _)) (congrArg (Value.int .i64) (if_pos hc))))) rfl ?_;rintro _ w' a ⟨hx,rfl⟩ hF;have hM:=hM.ext hx;refine ag hF rfl rfl fun a hF=>ns<|mv hF rfl rfl fun a hF=>st hF (Bz hF rfl rfl) rfl fun a hF=>nt<|HX hF rfl (by decide)<|wp_skip<|tN<|sr<|st hF (AK AU hF rfl (hM.row 0 rfl) (by simp only [AR]<;>omega) (whole AQ)) rfl fun a hF=>Am hF (Aa Try.call102 hF (.cons rfl .nil) (EJ p n T f _ hp hn0 hn hTp uu huu)) rfl ?_;rintro _ w' a ⟨hx,rfl⟩ hF;have hM:=hM.ext hx;refine A8 hF (AO 1 hM rfl AY hF rfl rfl (by first | exact AT | exact cells_one | (refine AV fun _ _=>?_;first | rfl | (split<;>rfl))) (by simp only [AR]) (by simp only [AR]<;>omega) (AL _ _ (by simp only [AR]))) ?_;intro _ w' a hM hF;change Af w w' [some (b1,AJ (p:Int) (n:Int) T f),some (b2,AI uu)] [] at hM;refine ag hF rfl rfl fun a hF=>nt<|wp_ret<|Bw rfl hF.defers (Ao AP hF rfl (hM.row 1 rfl) (by simp only [AR])) (Ab hF rfl) ⟨_,rfl,hM.below,?_⟩
  show _=_
  rfl
theorem Lj (p n:Int)(T:Nat→Nat→Nat→Nat)(f:Nat→Nat)(w:World)(hT:∀ i j k,T i j k≤255)(hf:∀ i,f i≤255)(hc:¬ Bt p n T f 0 (Ay [])) :
    CallsR Try.prog 14 #[.agg (AJ p n T f)] w (fun res _=>res = .tuple #[.agg (AI (fun _=>0)),.int .i64 1]):=by
  refine Ak [.agg (AJ p n T f)] Try.func14 rfl Try.ntmps14 rfl fun a hF=>?_;have hM:Af w w [none,none,none] []:=MemX.start w 3;change Fr 16 a [(0,.agg (AJ p n T f))] at hF;refine sr<|Am hF (Au 0 hM hF rfl) rfl ?_;rintro _ w' a ⟨b1,rfl,hM,-⟩ hF;refine Am hF (AW 1 hM Ac) rfl ?_;rintro _ w' a ⟨b2,rfl,hM,-⟩ hF;change Af w w' [some (b1,AJ p n T f),some (b2,Ag 6 (fun _=>.int .u8 (0))),none] [] at hM;refine ag hF rfl rfl fun a hF=>nt<|sq<|sr<|st hF (AK AU hF rfl (hM.row 0 rfl) (by simp only [AR]<;>omega) (whole AQ)) rfl fun a hF=>Am hF (Aa Try.call12 hF (.cons rfl .nil) ((CallsR.val (Co p n T f _ (fun _ _ _=>hT _ _ _) (fun _=>hf _)) (congrArg Value.bool (decide_eq_false (fun h=>hc ⟨h,fun i hi=>absurd hi (by omega)⟩)))))) rfl ?_;rintro _ w' a ⟨hx,rfl⟩ hF;have hM:=hM.ext hx;refine st hF (CF (b:=false) hF rfl) rfl fun a hF=>nt<|GN hF rfl<|sr<|st hF (BM BL) rfl fun a hF=>A8 hF (AO 1 hM rfl AY hF rfl rfl (by first | exact AT | exact cells_one | (refine AV fun _ _=>?_;first | rfl | (split<;>rfl))) (by simp only [AR]) (by simp only [AR]<;>omega) (AL _ _ (by simp only [AR]))) ?_;intro _ w' a hM hF;change Af w w' [some (b1,AJ p n T f),some (b2,Ag 6 (fun _=>.int .u8 (0))),none] [] at hM;refine ag hF rfl rfl fun a hF=>nt<|wp_ret<|tR<|Bw rfl hF.defers (Ao AP hF rfl (hM.row 1 rfl) (by simp only [AR])) (Ab hF rfl) ⟨_,rfl,hM.below,?_⟩
  show _=_
  rfl
theorem Li (p n:Nat)(T:Nat→Nat→Nat→Nat)(f:Nat→Nat)(w:World)(hp:primeN p)(hn0:0<n)(hn:n≤6)(hTp:∀ i j k,T i j k<p)(hT0:∀ i j k,n≤k→T i j k=0)(hf:∀ i,f i≤255)(uu:Nat→Nat)(huu:UnitI p n T uu)(hc:Bt (p:Int) (n:Int) T f 0 (Ay [])) :
    CallsR Try.prog 14 #[.agg (AJ (p:Int) (n:Int) T f)] w (fun res _=>res = .tuple #[.agg (AI uu),.int .i64 0]):=by
  refine Ak [.agg (AJ (p:Int) (n:Int) T f)] Try.func14 rfl Try.ntmps14 rfl fun a hF=>?_;have hM:Af w w [none,none,none] []:=MemX.start w 3;change Fr 16 a [(0,.agg (AJ (p:Int) (n:Int) T f))] at hF;have hp2:=hp.two;have hp13:=hp.le;have hT:∀ i j k,T i j k≤255:=fun i j k=>by have:=hTp i j k;omega
  refine sr<|Am hF (Au 0 hM hF rfl) rfl ?_;rintro _ w' a ⟨b1,rfl,hM,-⟩ hF;refine Am hF (AW 1 hM Ac) rfl ?_;rintro _ w' a ⟨b2,rfl,hM,-⟩ hF;change Af w w' [some (b1,AJ (p:Int) (n:Int) T f),some (b2,Ag 6 (fun _=>.int .u8 (0))),none] [] at hM;refine ag hF rfl rfl fun a hF=>nt<|sq<|sr<|st hF (AK AU hF rfl (hM.row 0 rfl) (by simp only [AR]<;>omega) (whole AQ)) rfl fun a hF=>Am hF (Aa Try.call12 hF (.cons rfl .nil) ((CallsR.val (Co (p:Int) (n:Int) T f _ (fun _ _ _=>hT _ _ _) (fun _=>hf _)) (congrArg Value.bool (decide_eq_true hc.1))))) rfl ?_;rintro _ w' a ⟨hx,rfl⟩ hF;have hM:=hM.ext hx;refine st hF (CF (b:=true) hF rfl) rfl fun a hF=>nt<|DT hF rfl<|wp_skip<|tN<|sr<|st hF (AK AU hF rfl (hM.row 0 rfl) (by simp only [AR]<;>omega) (whole AQ)) rfl fun a hF=>Am hF (Aa Try.call94 hF (.cons rfl .nil) (FM p n T f uu _ hp hn0 hn hTp huu)) rfl ?_;rintro _ w' a ⟨hx,rfl⟩ hF;have hM:=hM.ext hx;refine mv hF rfl rfl fun a hF=>st hF (AX hF rfl rfl) rfl fun a hF=>st hF (AX hF rfl rfl) rfl fun a hF=>Am hF (AW 2 hM Ac) rfl ?_;rintro _ w' a ⟨b4,rfl,hM,-⟩ hF;change Af w w' [some (b1,AJ (p:Int) (n:Int) T f),some (b2,Ag 6 (fun _=>.int .u8 (0))),some (b4,Ag 6 (fun _=>.int .u8 (0)))] [] at hM;refine A8 hF (AO 2 hM rfl AY hF rfl rfl (by first | exact AT | exact cells_one | (refine AV fun _ _=>?_;first | rfl | (split<;>rfl))) (by simp only [AR]) (by simp only [AR]<;>omega) (AL _ _ (by simp only [AR]))) ?_;intro _ w' a hM hF;change Af w w' [some (b1,AJ (p:Int) (n:Int) T f),some (b2,Ag 6 (fun _=>.int .u8 (0))),some (b4,AI uu)] [] at hM;refine ag hF rfl rfl fun a hF=>ns<|st hF (AK AP hF rfl (hM.row 2 rfl) (by simp only [AR]<;>omega) (whole (by simp only [AR]))) rfl fun a hF=>A8 hF (AO 1 hM rfl AY hF rfl rfl (by first | exact AT | exact cells_one | (refine AV fun _ _=>?_;first | rfl | (split<;>rfl))) (by simp only [AR]) (by simp only [AR]<;>omega) (AL _ _ (by simp only [AR]))) ?_;intro _ w' a hM hF;change Af w w' [some (b1,AJ (p:Int) (n:Int) T f),some (b2,AI uu),some (b4,AI uu)] [] at hM;refine ag hF rfl rfl fun a hF=>nt<|wp_ret<|Bw rfl hF.defers (Ao AP hF rfl (hM.row 1 rfl) (by simp only [AR])) (Ab hF rfl) ⟨_,rfl,hM.below,?_⟩
  show _=_
  rfl
end Go.Proofs.Ytkcneleabbjkaaa
