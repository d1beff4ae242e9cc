import Derived.Test.YtklpefdaplchbaaKC
set_option linter.unusedVariables false
set_option linter.unusedSimpArgs false
namespace Go.Proofs.Ytklpefdaplchbaa
open Go Go.RowKit Go.Sw Go.Ech
open Classical
def NameP (s:ByteArray):Prop:=s=⟨#[99,49]⟩∨s=⟨#[99,50]⟩∨s=⟨#[99,51]⟩∨s=⟨#[99,52]⟩∨s=⟨#[99,53]⟩∨s=⟨#[99,54]⟩∨s=(⟨#[118,52]⟩:ByteArray)∨s=(⟨#[115,51]⟩:ByteArray)
theorem kTp_le {R:Nat→Nat→Nat}{m c:Nat}(h:∀ i j,i<m→j<m→R i j≤c)(i j:Nat):kTp R m m 0 i j≤c:=by
  unfold kTp
  split
  · rename_i q;exact h i j (by omega) (by omega)
  · exact Nat.zero_le _
theorem l06Known_ok (s:ByteArray)(w:World)(h:NameP s):CallsR Try.prog 29 #[.string s] w (fun u _=>∃ (k:Nat) (M:Nat→Nat→Nat),1≤k∧k≤6∧(∀ i j,M i j≤255)∧u = .tuple #[.agg (grpC (k:Int) M),.bool true]):=by
  rcases h with rfl | rfl | rfl | rfl | rfl | rfl | rfl | rfl
  · exact CallsR.mono (l06Known_T 1 ⟨#[99,49]⟩ w (by decide) (by decide) rfl (by decide) (by decide) (fun h=>absurd (str_eq h) (by decide)) (fun h=>absurd (str_eq h) (by decide))) (fun u _ _ e=>⟨1,_,by decide,by decide,kTp_le (fun i j hi hj=>by omega),e⟩)
  · exact CallsR.mono (l06Known_T 2 ⟨#[99,50]⟩ w (by decide) (by decide) rfl (by decide) (by decide) (fun h=>absurd (str_eq h) (by decide)) (fun h=>absurd (str_eq h) (by decide))) (fun u _ _ e=>⟨2,_,by decide,by decide,kTp_le (fun i j hi hj=>by omega),e⟩)
  · exact CallsR.mono (l06Known_T 3 ⟨#[99,51]⟩ w (by decide) (by decide) rfl (by decide) (by decide) (fun h=>absurd (str_eq h) (by decide)) (fun h=>absurd (str_eq h) (by decide))) (fun u _ _ e=>⟨3,_,by decide,by decide,kTp_le (fun i j hi hj=>by omega),e⟩)
  · exact CallsR.mono (l06Known_T 4 ⟨#[99,52]⟩ w (by decide) (by decide) rfl (by decide) (by decide) (fun h=>absurd (str_eq h) (by decide)) (fun h=>absurd (str_eq h) (by decide))) (fun u _ _ e=>⟨4,_,by decide,by decide,kTp_le (fun i j hi hj=>by omega),e⟩)
  · exact CallsR.mono (l06Known_T 5 ⟨#[99,53]⟩ w (by decide) (by decide) rfl (by decide) (by decide) (fun h=>absurd (str_eq h) (by decide)) (fun h=>absurd (str_eq h) (by decide))) (fun u _ _ e=>⟨5,_,by decide,by decide,kTp_le (fun i j hi hj=>by omega),e⟩)
  · exact CallsR.mono (l06Known_T 6 ⟨#[99,54]⟩ w (by decide) (by decide) rfl (by decide) (by decide) (fun h=>absurd (str_eq h) (by decide)) (fun h=>absurd (str_eq h) (by decide))) (fun u _ _ e=>⟨6,_,by decide,by decide,kTp_le (fun i j hi hj=>by omega),e⟩)
  · exact CallsR.mono (l06Known_D (⟨#[118,52]⟩:ByteArray) w rfl (by decide) rfl) (fun u _ _ e=>⟨4,_,by decide,by decide,kTp_le (fun i j hi hj=>by have:=xor_lt4 hi hj;omega),e⟩)
  · exact CallsR.mono (l06Known_O (⟨#[115,51]⟩:ByteArray) w rfl (by decide) (fun h=>absurd (str_eq h) (by decide)) rfl) (fun u _ _ e=>⟨6,_,by decide,by decide,kTp_le (fun i j hi hj=>by have:=toV_lt (i:=i) (j:=j);omega),e⟩)
end Go.Proofs.Ytklpefdaplchbaa
namespace Go.Proofs.Ytklpefdaplchbaa
open Go Go.RowKit Go.Sw Go.Ech
open Classical
def swN (x i j:Nat):Nat:=if x=i then j else if x=j then i else x
theorem swN_lt {x i j k:Nat}(hx:x<k)(hi:i<k)(hj:j<k):swN x i j<k:=by unfold swN;split<;>(try split)<;>omega
theorem l06Swap_ok (x i j:Nat)(w:World) :
    CallsR Try.prog 30 #[.int .i64 (x:Int),.int .i64 (i:Int),.int .i64 (j:Int)] w (fun res _=>res = .int .i64 (swN x i j:Int)):=by
  refine calls_fr [.int .i64 (x:Int),.int .i64 (i:Int),.int .i64 (j:Int)] Try.func30 rfl Try.ntmps30 rfl fun a hF=>?_;have hM:Mem w w [] []:=MemX.start w 0;change Fr 17 a [(0,.int .i64 (x:Int)),(1,.int .i64 (i:Int)),(2,.int .i64 (j:Int))] at hF;refine sr<|ag hF rfl rfl fun a hF=>nt<|sq<|sr<|mv hF rfl rfl fun a hF=>nt<|wp_block<|sr<|mv hF rfl rfl fun a hF=>st hF (g_eql hF rfl rfl) rfl fun a hF=>ag hF rfl rfl fun a hF=>nt<|c_cond hF rfl (fun h1=>?_) (fun h1=>?_)
  · refine sq ?_
    refine wp_region_lit<|mv hF rfl rfl fun a hF=>ag hF rfl rfl fun a hF=>nt<|wp_ret<|iR<|tR<|fin1 rfl hF.defers (res_tmp hF rfl) ⟨_,rfl,hM.below,?_⟩
    show _=_
    exact congrArg (fun q:Nat=>Value.int .i64 (q:Int)) (by unfold swN;split<;>(try split)<;>omega)
  refine sr<|mv hF rfl rfl fun a hF=>st hF (g_eql hF rfl rfl) rfl fun a hF=>ag hF rfl rfl fun a hF=>nt<|c_cond hF rfl (fun h2=>?_) (fun h2=>?_)
  · refine sq ?_
    refine wp_region_lit<|mv hF rfl rfl fun a hF=>ag hF rfl rfl fun a hF=>nt<|wp_ret<|iR<|tR<|fin1 rfl hF.defers (res_tmp hF rfl) ⟨_,rfl,hM.below,?_⟩
    show _=_
    exact congrArg (fun q:Nat=>Value.int .i64 (q:Int)) (by unfold swN;split<;>(try split)<;>omega)
  refine wp_skip<|iN<|tN<|sr<|mv hF rfl rfl fun a hF=>ag hF rfl rfl fun a hF=>nt<|wp_ret<|fin1 rfl hF.defers (res_tmp hF rfl) ⟨_,rfl,hM.below,?_⟩
  show _=_
  exact congrArg (fun q:Nat=>Value.int .i64 (q:Int)) (by unfold swN;split<;>(try split)<;>omega)
end Go.Proofs.Ytklpefdaplchbaa
