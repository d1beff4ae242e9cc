import Derived.Test.YtklpefdaplchbaaQ2
set_option linter.unusedVariables false
set_option linter.unusedSimpArgs false
namespace Go.Proofs.Ytklpefdaplchbaa
open Go Go.RowKit Go.Sw Go.Ech
open Classical
theorem GenusNumberI_Y (p n:Nat)(T:Nat→Nat→Nat→Nat)(f:Nat→Nat)(x:Nat)(w:World)(hp:primeN p)(hn0:0<n)(hn:n≤6)(hTp:∀ i j k,T i j k<p)(hT0:∀ i j k,n≤k→T i j k=0)(hf:∀ i,f i≤255)(hk:x≤30∧0≤6)(hfr:FrobN p n T f)(hcom:comP T)(G:Nat→Nat→Nat)(hG:IsCop p n (formM p n T f) G)(uu:Nat→Nat)(huu:UnitI p n T uu)(hc:CodeP (p:Int) (n:Int) T f 0 (vAtL [])) :
    CallsR Try.prog 12 #[.agg (algC (p:Int) (n:Int) T f),.int .i64 (x:Int)] w (fun res _=>res = .tuple #[.int .i64 (((sumTo (fun i=>((foldW (timesV p n T) (powW (timesV p n T) uu (hdl p n T G n 0) x) (vAtL []) 0)) i*f i) 6%p:Nat):Int)),.int .i64 (0)]):=by
  refine calls_fr [.agg (algC (p:Int) (n:Int) T f),.int .i64 (x:Int)] Try.func12 rfl Try.ntmps12 rfl fun a hF=>?_;have hM:Mem w w [none] []:=MemX.start w 1;change Fr 11 a [(0,.agg (algC (p:Int) (n:Int) T f)),(1,.int .i64 (x:Int))] at hF;have hp2:=hp.two;have hp13:=hp.le;have hT:∀ i j k,T i j k≤255:=fun i j k=>by have:=hTp i j k;omega
  refine sr<|stR hF (d_box 0 hM hF rfl) rfl ?_;rintro _ w' a ⟨b1,rfl,hM,-⟩ hF;change Mem w w' [some (b1,algC (p:Int) (n:Int) T f)] [] at hM;refine ag hF rfl rfl fun a hF=>ag hF rfl rfl fun a hF=>ns<|st hF (g_loadAgg ty_ag_39 hF rfl (hM.row 0 rfl) (by simp only [sz0,tenC_size,smC_size,numC_size,numI_size,mrk_size]<;>omega) (whole cells_size)) rfl fun a hF=>mv hF rfl rfl fun a hF=>stR hF (d_call Try.call28 hF (.cons rfl (.cons rfl (.cons rfl .nil))) (LegNumberI0_Y p n T f (x) _ hp hn0 hn hTp hT0 hf hk hfr hcom G hG uu huu hc)) rfl ?_;rintro _ w' a ⟨hx,rfl⟩ hF;have hM:=hM.ext hx;refine st hF (g_extract hF rfl rfl) rfl fun a hF=>st hF (g_extract hF rfl rfl) rfl fun a hF=>ag hF rfl rfl fun a hF=>ag hF rfl rfl fun a hF=>nt<|wp_ret<|fin2 rfl hF.defers (res_tmp hF rfl) (res_tmp hF rfl) ⟨_,rfl,hM.below,?_⟩
  show _=_
  rfl
end Go.Proofs.Ytklpefdaplchbaa
