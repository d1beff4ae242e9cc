import Derived.Test.YtkcneleabbjkaaaK16
set_option linter.unusedVariables false
set_option linter.unusedSimpArgs false
namespace Go.Proofs.Ytkcneleabbjkaaa
open Go Go.RowKit Go.Sw Go.Ech
open Classical
theorem Jc {p n:Int}{T:Nat->Nat->Nat->Nat}{f g:Nat->Nat}{i o x:Nat}(ho:o=218+i)(hi:i<6)(hg:∀ j,j<6->g j=if j=i then x else f j):(AD p n T f).setIfInBounds o (.int .u8 (x:Int))=AD p n T g:=by
  subst ho
  unfold AD
  refine Bv fun j hj=>?_
  by_cases e:j=218+i
  . rw [if_pos e,if_neg (by omega),if_neg (by omega),if_neg (by omega),hg _ (by omega),if_pos (by omega)]
  . rw [if_neg e]
    by_cases h2:j<218
    . simp only [if_pos h2]
    . rw [if_neg (by omega),if_neg (by omega),if_neg h2,if_neg (by omega),if_neg (by omega),if_neg h2,hg _ (by omega),if_neg (by omega)]
end Go.Proofs.Ytkcneleabbjkaaa
