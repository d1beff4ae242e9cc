import Derived.Test.YtgioobkkkicfeaaZ7
set_option linter.unusedVariables false
set_option linter.unusedSimpArgs false
namespace Go.Proofs.Ytgioobkkkicfeaa
open Go Go.RowKit Go.Sw Go.Ech
open Classical
theorem Jn (sl:Value)(m:Nat)(w:World)(hs:ArgB w sl m):CallsR Try.prog 3 #[sl] w (fun u _=>u = .bool true):=by
  have h2:=hs;obtain ⟨⟨x,c,rfl⟩,-⟩:=h2
  by_cases hm:4096<m
  . exact Oi x m c w hm
  . exact Oh x m c w hm (hs.code (by omega))
end Go.Proofs.Ytgioobkkkicfeaa
