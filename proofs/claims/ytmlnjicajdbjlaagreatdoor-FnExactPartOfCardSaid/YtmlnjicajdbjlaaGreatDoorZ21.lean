import Derived.Test.YtmlnjicajdbjlaaGreatDoorZ20
set_option linter.unusedVariables false
set_option linter.unusedSimpArgs false
namespace Go.Proofs.YtmlnjicajdbjlaaGreatDoor
open Go Go.RowKit Go.Sw Go.Ech
open Classical
def NilS (w0:World) (L:Own) (p n:Nat) (M:Nat→Nat→Nat) (u:Value) (w':World):Prop:=∃ r V,IsKer p n M n r V∧FreshV w0 L r (fun c=>.int .u8 (((padN n V) (c / 6) (c%6):Nat):Int)) u w'
theorem NilS.last {w0 w w':World}{L:Own}{p n:Nat}{M:Nat→Nat→Nat}{u:Value}(h:NilS w0 L p n M u w)(hx:Ext w w'):NilS w0 L p n M u w':=by
  obtain ⟨r,V,h1,h3⟩:=h;exact ⟨r,V,h1,h3.last hx⟩
theorem NilS.of {X:List Nat}{w0 w w':World}{L:Own}{D:Froz}{p n:Nat}{M:Nat→Nat→Nat}{u:Value}(hM:MemX X w0 w L D)(h:∃ r V,IsKer p n M n r V∧OwnSl 6 w r (fun c=>.int .u8 (((padN n V) (c / 6) (c%6):Nat):Int)) u w'):NilS w0 L p n M u w':=by
  obtain ⟨r,V,h1,h3⟩:=h;exact ⟨r,V,h1,h3.freshV hM⟩
def LenR (N:Nat) (u:Value) (_:World):Prop:=∃ x c,u = .slice x N c
theorem LenR.last {N:Nat}{u:Value}{w w':World}(h:LenR N u w)(_:Ext w w'):LenR N u w':=h
end Go.Proofs.YtmlnjicajdbjlaaGreatDoor
