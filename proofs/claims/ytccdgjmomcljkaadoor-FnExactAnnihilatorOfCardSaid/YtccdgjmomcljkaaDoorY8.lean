import Derived.Test.YtccdgjmomcljkaaDoorY7
set_option linter.unusedVariables false
set_option linter.unusedSimpArgs false
namespace Go.Proofs.YtccdgjmomcljkaaDoor
open Go Go.RowKit Go.Sw Go.Ech
open Classical
theorem ty_ze_2:zeroP Tryd.prog 2=some (.int .i64 (0)):=by kernel_rfl
theorem ty_on_71:oneP Tryd.prog 71=true:=by kernel_rfl
theorem ta_nil58:∀ w,Sem.run Tryd.prog (Instr.typeAssert Value.nilIface 20 71 true) w = .ok (.tuple #[.nilIface,.bool false]) w:=by intros;kernel_rfl
theorem ta_err58:∀ v w,Sem.run Tryd.prog (Instr.typeAssert (.iface 108 v) 20 71 true) w = .ok (.tuple #[.iface 108 v,.bool true]) w:=by intros;kernel_rfl
theorem on_two58:oneP Tryd.prog 2=true:=by kernel_rfl
theorem clo_idle58 (b:Nat)(w:World)(c:Value)(hb:Blk w b #[c]):Clo Tryd.prog 58 b .returning w c:=by
  refine callsD_of_wpS Tryd.func58 rfl fun c₀ cs hu=>?_
  apply wpS_seq
  apply wpS_region
  simp [wpOpsS,go_sem,recoverD,hu,Tryd.ntmps58,Exit.thenS,ta_nil58,Oper.upon]
  apply wpS_seq
  apply wpS_region
  simp [wpOpsS,go_sem,Exit.thenS]
  refine wpS_cond (t:=false) (by simp [Act.eval,Array.replicate]) ?_;simp only [Bool.false_eq_true,if_false];refine wpS_of_wp (wp_skip ?_);have:({ c₀ with mode:=.returning }:Frame)=c₀:=by cases c₀;simp_all
  refine ⟨rfl,.returning,by rw [this],.tuple #[],?_,⟨_,rfl⟩,rfl,ExtX.refl _ _,hb⟩
  simp [results,Tryd.results58]
theorem clo_panic58 (b:Nat)(w:World)(c v:Value)(hb:Blk w b #[c]):Clo Tryd.prog 58 b (.panicking [{ v:=.iface 108 v,recovered:=false }]) w (.int .i64 5):=by
  refine callsD_of_wpS Tryd.func58 rfl fun c₀ cs hu=>?_
  apply wpS_seq
  apply wpS_region
  simp [wpOpsS,go_sem,recoverD,hu,Tryd.ntmps58,Exit.thenS,ta_err58,Oper.upon]
  apply wpS_seq
  apply wpS_region
  simp [wpOpsS,go_sem,Exit.thenS]
  refine wpS_cond (t:=true) (by simp [Act.eval,Array.replicate]) ?_;simp only [if_true];refine wpS_of_wp<|wp_region_lit ?_;have hM:MemX [b] w w [some (b,#[c])] []:=MemX.startX1 0 hb;refine at_lit (F:=[(0,ptr b 0)]) ?_ (by simp [okA,Array.getD_eq_getD_getElem?]);intro a hF;refine stN hF (d_store 0 hM rfl on_two58 hF rfl rfl rfl (by simp)) ?_;intro _ w' a hM hF;refine wpList_nil<|⟨hF.defers,.panicking [{ v:=.iface 108 v,recovered:=true }],rfl,.tuple #[],?_,⟨_,rfl⟩,rfl,hM.bel,hM.row 0 rfl⟩
  simp [results,Tryd.results58]
end Go.Proofs.YtccdgjmomcljkaaDoor
