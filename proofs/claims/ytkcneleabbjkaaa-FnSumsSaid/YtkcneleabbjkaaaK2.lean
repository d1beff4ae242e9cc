import Derived.Test.YtkcneleabbjkaaaH8
set_option linter.unusedVariables false
set_option linter.unusedSimpArgs false
namespace Go.Proofs.Ytkcneleabbjkaaa
open Go Go.RowKit Go.Sw Go.Ech
open Classical
theorem Dt:Try.prog.underlying 54=some (.slice 27):=by kernel_rfl
theorem KS:sliceOf Try.prog 54=some 6:=by kernel_rfl
theorem Hl:∀ (v0:Nat->Nat) (w:World),(Instr.buildSlice 54 1 #[(0,.agg (AQ v0))]).run Try.prog w = .ok (.slice (some ⟨w.heap.size,0,none⟩) 1 1) (w.alloc (.cells (Gj 1 (Cj [v0])) 27)):=by intros;kernel_rfl
def Cx (p n:Int) (T:Nat->Nat->Nat->Nat) (f:Nat->Nat) (m:Nat) (V:Nat->Nat->Nat):Prop:=B4 p n T f/\∀ i,i<m->okV p n (V i)
theorem DW (p n:Int)(T:Nat->Nat->Nat->Nat)(f:Nat->Nat)(V:Nat->Nat->Nat)(w:World)(hT:∀ i j k,T i j k<=255)(hf:∀ i,f i<=255) :
    CallsR Try.prog 88 #[.agg (AD p n T f),.slice none 0 0] w (fun res _=>res = .int .i64 (if Cx p n T f 0 V then 0 else 1)):=by
  refine Al [.agg (AD p n T f),.slice none 0 0] Try.func88 rfl Try.ntmps88 rfl fun a O=>?_;have J:Ag w w [none] []:=MemX.start w 1;change Fr 22 a [(0,.agg (AD p n T f)),(1,.slice none 0 0)] at O;refine sr<|Ar O (BI 0 J O rfl) rfl ?_;rintro _ w' a ⟨b1,rfl,J,-⟩ O;change Ag _ _ [some (b1,AD p n T f)] [] at J;refine ag O rfl rfl fun a O=>nt<|sq<|sr<|st O (AE AI O rfl (J.row 0 rfl) (by simp only [Aa]<;>omega) (whole AG)) rfl fun a O=>Ar O (Ae Try.call95 O (.cons rfl .nil) (Eh p n T f _ (fun _ _ _=>hT _ _ _) (fun _=>hf _))) rfl ?_;rintro _ w' a ⟨hx,rfl⟩ O;have J:=J.ext hx;refine st O (CW O rfl) rfl fun a O=>nt<|Ab O rfl (fun h2=>?_) (fun h2=>?_)
  . refine sq ?_
    refine wp_region_lit<|ag O rfl rfl fun a O=>nt<|wp_ret<|tR<|BC rfl O.defers (Ad O rfl) ⟨_,rfl,J.below,?_⟩
    show _=_
    rw [if_neg (fun hq=>(by assumption:¬ B4 _ _ _ _) hq.1)]
  refine wp_skip<|tN<|sq<|sr<|ag O rfl rfl fun a O=>nt<|wp_block ?_;change Ag w _ [some (b1,AD p n T f)] [] at J;refine Av (fun (kk:Nat) a w'=>kk<=0/\(True)/\Fr 22 a [(1,.slice none 0 0),(2,ptr b1 (0)),(8,.bool (decide (¬ (B4 p n T f)))),(5,.int .i64 (kk:Int))]/\Ag w w' [some (b1,AD p n T f)] []) (fun kk=>0 - kk) 0 ?_ ?_
  . refine ⟨by omega,trivial,O.sub _ (by repeat' constructor),?_⟩
    exact J
  clear O J;rintro gi a w' ⟨hJ,hH,O,J⟩;refine sq<|sr<|mv O rfl rfl fun a O=>mv O rfl rfl fun a O=>st O (J9 Dt O rfl) rfl fun a O=>st O (A0 O rfl rfl) rfl fun a O=>nt<|Ab O rfl (fun h3=>?_) (fun h3=>?_)
  . exfalso;omega
  obtain rfl:0=gi:=by omega
  refine wp_exit<|tX<|tX<|Am<|tN<|sr<|ag O rfl rfl fun a O=>nt<|wp_ret<|BC rfl O.defers (Ad O rfl) ⟨_,rfl,J.below,?_⟩
  show _=_
  rw [if_pos ⟨Decidable.not_not.1 (by assumption),fun i hi=>absurd hi (by omega)⟩]
theorem IH {n:Nat}{T:Nat->Nat->Nat->Nat}:trunc n (trunc n T)=trunc n T:=by
  funext i j k
  unfold trunc
  by_cases h:i<n/\j<n/\k<n
  . rw [if_pos h,if_pos h]
  . rw [if_neg h,if_neg h]
end Go.Proofs.Ytkcneleabbjkaaa
