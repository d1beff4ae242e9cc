import Derived.Test.YtgioobkkkicfeaaSw16
import Derived.ProofKit
import Derived.OpenShut
set_option linter.unusedVariables false
set_option linter.unusedSimpArgs false
namespace Go.Sw
open Go Go.RowKit Go.ChangeShapes Go.WideShapes Go.ChangeAt
variable {P : Program} {H : Type} {enc : TypeId × Value -> H}
theorem post_of_ext {f:Func}{s:ChangeSpec}{apart fresh handsOn again:Bool}{W W':World}{args:Array Value}{v:Value}{ds gs:List (DataW H)}{before pa pv:List MemPlace}
    (hW:DataW.Whole enc P f.params.toList s.vars apart W args.toList ds gs before) (hx:Ext W W')
    (hO:∀ (b:Nat) (sp:Nat->Bool) (hd:Bool),DataW.TrodAll enc P W' b sp hd f.resultTypes.toList (v.resultList f.resultTypes.size) (s.fn H (ds++gs)).results [])
    (hH:∀ sp:Nat->Bool,(∀ p∈before,sp p.block=true)->DataW.TrodAll enc P W' 0 sp true f.params.toList args.toList (s.fn H (ds++gs)).args pa)
    (hJ:∀ sp:Nat->Bool,(∀ p∈before,sp p.block=true)->DataW.TrodVars enc P W' sp s.vars (s.fn H (ds++gs)).vars pv)
    (hU:before=pa++pv)
    (hok:∀ (j:Nat) (t:TypeId) (r:Value),f.resultTypes[j]? = some t->(v.resultList f.resultTypes.size)[j]? = some r->Value.okWide P W' .any 0 t r) :
    s.post enc P f apart fresh handsOn again W args v W':=by
  have hlt:∀ p∈before,p.block<W.heap.size:=fun p hp=>hW.lt p hp;refine ⟨ds,gs,before,[],pa,pv,hW,hO _ _ _,hH _ (fun p hp=>by simpa using hlt p hp),hJ _ (fun p hp=>by simpa using hlt p hp),Below.frame hx _,fun _=>?_⟩;obtain ⟨_,_,_,_,_,hz,hn⟩:=hW;refine ⟨hok,_,_,([]++pa)++pv,⟨[]++pa,pv,trodAll_append (hH _ (fun _ _=>rfl)) (hO _ _ _),hJ _ (fun _ _=>rfl),rfl,?_,?_⟩,?_⟩
  . intro b off hp
    have hm:MemPlace.cell b off∈before:=by rw [hU];simpa using hp
    have hb:b<W.heap.size:=hlt _ hm;rw [Below.frozen hx (p:=⟨b,off,none⟩) hb];exact hz b off hm
  . intro ha
    have:=hn ha;rw [hU] at this
    simpa using this
  . intro p hp _
    rw [hU];simpa using hp
theorem and_mk {a b:Bool}(ha:a=true)(hb:b=true):(a && b)=true:=by rw [ha,hb];rfl
end Go.Sw
