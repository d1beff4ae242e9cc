import Derived.Test.YtnjdpgaofjbndaaD12
import Derived.Test.YtnjdpgaofjbndaaSw10
set_option linter.unusedVariables false
set_option linter.unusedSimpArgs false
namespace Go.Proofs.Ytnjdpgaofjbndaa
open Go Go.RowKit Go.Sw Go.Ech
open Classical
theorem law_FnSquareCounts (sl:Value)(m:Nat)(w:World)(hs:ArgB w sl m):CallsR Try.prog 3 #[sl] w (fun u _=>u = .bool true):=by
  have h2:=hs;obtain ⟨⟨x,c,rfl⟩,-⟩:=h2
  by_cases hm:4096<m
  · exact law_Sq_B x m c w hm
  · exact law_Sq_N x m c w hm (hs.code (by omega)) (fun w2 hc2=>DrawSquareVector_ok m _ w2 hc2)
end Go.Proofs.Ytnjdpgaofjbndaa
