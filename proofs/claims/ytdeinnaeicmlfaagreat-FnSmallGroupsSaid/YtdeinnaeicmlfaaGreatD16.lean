import Derived.Test.YtdeinnaeicmlfaaGreatD15
import Derived.Test.YtdeinnaeicmlfaaGreatSw10
set_option linter.unusedVariables false
set_option linter.unusedSimpArgs false
namespace Go.Proofs.YtdeinnaeicmlfaaGreat
open Go Go.RowKit Go.Sw Go.Ech
open Classical
theorem law_FnSmallGroups (sl:Value)(m:Nat)(w:World)(hs:ArgB w sl m):CallsR Tryz.prog 3 #[sl] w (fun u _=>u = .bool true):=by
  have h2:=hs;obtain ⟨⟨x,c,rfl⟩,-⟩:=h2
  by_cases hm:4096<m
  · exact law_Sm_B x m c w hm
  · exact law_Sm_N x m c w hm (hs.code (by omega))
end Go.Proofs.YtdeinnaeicmlfaaGreat
