import Derived.Test.YtgioobkkkicfeaaSw16
import Derived.OpenShut
set_option linter.unusedVariables false
set_option linter.unusedSimpArgs false
namespace Go.Sw
open Go Go.RowKit Go.ChangeShapes Go.WideShapes
def QV (P:Program):Nat->TypeId->Bool
  | 0,_=>false
  | n + 1, t => match P.underlying t with
    | some (.int _)=>true
    | some (.array _ e)=>QV P n e
    | some (.struct fs)=>fs.toList.all (fun f=>QV P n f.type)
    | _=>false
section
variable {H : Type} {enc : TypeId × Value -> H} {P : Program}
def Mc (P:Program) (g:TypeId->Option (List IntKind)):List Field->Nat->Option (List IntKind)
  | [],_=>some []
  | f :: r, o => match g f.type with
    | some l=>if f.offset=o/\l.length=P.cellsOf f.type then (Mc P g r (o+l.length)).map (l++·) else none
    | none=>none
def Ok (P:Program):Nat->TypeId->Option (List IntKind)
  | 0,_=>none
  | n + 1, t => match P.underlying t with
    | some (.int k)=>some [k]
    | some (.array m e) => match Ok P n e with
      | some l=>if l.length=P.cellsOf e/\0<l.length then some (List.replicate m l).flatten else none
      | none=>none
    | some (.struct fs)=>Mc P (Ok P n) fs.toList 0
    | _=>none
def Rn (ks:List IntKind) (cs:List Value):Prop:=∀ (i:Nat) k,ks[i]? = some k->∃ n,cs[i]? = some (.int k n)/\(Lit.int k n).wf=true
end
def Sq:Option Value->Int
  | some (.int _ n)=>n
  | _=>0
theorem wf_u8 {n:Int}(h:(Lit.int .u8 n).wf=true):0<=n/\n<=255:=by
  simp only [Lit.wf,Bool.and_eq_true,decide_eq_true_eq] at h;have h1:IntKind.u8.min=0:=by decide
  have h2:IntKind.u8.max=255:=by decide
  omega
def SU:List IntKind:=.i64::.i64::List.replicate 222 .u8
def SH:List IntKind:=List.replicate 6 .u8
section
variable {H : Type} {enc : TypeId × Value -> H} {P : Program} {w w' : World} {base base' : Nat} {spare spare' : Nat -> Bool} {held hH : Bool} {t : TypeId} {v : Value} {d : DataW H} {p : List MemPlace}
end
end Go.Sw
