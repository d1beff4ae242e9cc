import Derived.Test.YtnjdpgaofjbndaaD3
set_option linter.unusedVariables false
set_option linter.unusedSimpArgs false
namespace Go.Proofs.Ytnjdpgaofjbndaa
open Go Go.RowKit Go.Sw Go.Ech
open Classical
def swN (x i j:Nat):Nat:=if x=i then j else if x=j then i else x
theorem swN_lt {x i j k:Nat}(hx:x<k)(hi:i<k)(hj:j<k):swN x i j<k:=by unfold swN;split<;>(try split)<;>omega
theorem l06Swap_ok (x i j:Nat)(w:World) :
    CallsR Try.prog 35 #[.int .i64 (x:Int),.int .i64 (i:Int),.int .i64 (j:Int)] w (fun res _=>res = .int .i64 (swN x i j:Int)):=by
  refine calls_fr [.int .i64 (x:Int),.int .i64 (i:Int),.int .i64 (j:Int)] Try.func35 rfl Try.ntmps35 rfl fun a hF=>?_;have hM:Mem w w [] []:=MemX.start w 0;change Fr 17 a [(0,.int .i64 (x:Int)),(1,.int .i64 (i:Int)),(2,.int .i64 (j:Int))] at hF;refine sr<|ag hF rfl rfl fun a hF=>nt<|sq<|sr<|mv hF rfl rfl fun a hF=>nt<|wp_block<|sr<|mv hF rfl rfl fun a hF=>st hF (g_eql hF rfl rfl) rfl fun a hF=>ag hF rfl rfl fun a hF=>nt<|c_cond hF rfl (fun h1=>?_) (fun h1=>?_)
  · refine sq ?_
    refine wp_region_lit<|mv hF rfl rfl fun a hF=>ag hF rfl rfl fun a hF=>nt<|wp_ret<|iR<|tR<|fin1 rfl hF.defers (res_tmp hF rfl) ⟨_,rfl,hM.below,?_⟩
    show _=_
    exact congrArg (fun q:Nat=>Value.int .i64 (q:Int)) (by unfold swN;split<;>(try split)<;>omega)
  refine sr<|mv hF rfl rfl fun a hF=>st hF (g_eql hF rfl rfl) rfl fun a hF=>ag hF rfl rfl fun a hF=>nt<|c_cond hF rfl (fun h2=>?_) (fun h2=>?_)
  · refine sq ?_
    refine wp_region_lit<|mv hF rfl rfl fun a hF=>ag hF rfl rfl fun a hF=>nt<|wp_ret<|iR<|tR<|fin1 rfl hF.defers (res_tmp hF rfl) ⟨_,rfl,hM.below,?_⟩
    show _=_
    exact congrArg (fun q:Nat=>Value.int .i64 (q:Int)) (by unfold swN;split<;>(try split)<;>omega)
  refine wp_skip<|iN<|tN<|sr<|mv hF rfl rfl fun a hF=>ag hF rfl rfl fun a hF=>nt<|wp_ret<|fin1 rfl hF.defers (res_tmp hF rfl) ⟨_,rfl,hM.below,?_⟩
  show _=_
  exact congrArg (fun q:Nat=>Value.int .i64 (q:Int)) (by unfold swN;split<;>(try split)<;>omega)
end Go.Proofs.Ytnjdpgaofjbndaa
