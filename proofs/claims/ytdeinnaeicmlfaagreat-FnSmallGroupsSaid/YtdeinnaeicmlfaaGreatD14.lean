import Derived.Test.YtdeinnaeicmlfaaGreatKD
import Derived.Test.YtdeinnaeicmlfaaGreatN6
set_option linter.unusedVariables false
set_option linter.unusedSimpArgs false
namespace Go.Proofs.YtdeinnaeicmlfaaGreat
open Go Go.RowKit Go.Sw Go.Ech
open Classical
def ImpB (a:Prop) (b:Bool):Prop:=a→b=true
def OkK (q:Int) (M:Nat→Nat→Nat) (e:Int):Prop:=e=0→GrpP q M
def OkP (q:Int) (M:Nat→Nat→Nat) (c e:Int):Prop:=e=0→GrpP q M∧c=q*(nC M q.toNat:Int)
def IffB (fr:Bool) (P:Prop):Prop:=fr=true↔P
theorem iffB {fr:Bool}{P:Prop}(h1:fr=true→P)(h2:P→fr=true):IffB fr P:=⟨h1,h2⟩
def OkC (p q:Int) (M:Nat→Nat→Nat) (b1 b2:Int) (T:Nat→Nat→Nat→Nat) (f:Nat→Nat) (c1 c2:Int) (U:Nat→Nat→Nat→Nat) (g:Nat→Nat) (e4:Int):Prop:=
    (e4=0→GrpP q M∧0<p∧p<100∧∃ fr:Bool,(∀ w,CallsR Tryz.prog 22 #[.agg (algC c1 c2 U g)] w (fun u _=>u = .tuple #[.bool true,.int .i64 0]))∧(∀ w,CallsR Tryz.prog 23 #[.agg (algC c1 c2 U g)] w (fun u _=>u = .tuple #[.bool fr,.int .i64 0]))∧(∀ w,CallsR Tryz.prog 23 #[.agg (algC b1 b2 T f)] w (fun u _=>u = .tuple #[.bool true,.int .i64 0]))∧IffB fr (∀ i,i<nC M q.toNat→((sC M q.toNat i:Int)).tmod p≠0))
theorem isg_both (q:Int)(M:Nat→Nat→Nat)(hB:∀ i j,M i j≤255):∃ b:Bool,(∀ w,CallsR Tryz.prog 9 #[.agg (grpC q M)] w (fun u _=>u = .bool b))∧(∀ w,CallsR Tryz.prog 10 #[.agg (grpC q M)] w (fun u _=>u = .bool b))∧ImpB (GrpP q M) b:=
  ⟨decide (GrpP q M),fun w=>isG_I q M w hB,fun w=>IsGroupS_ok q M w hB,fun h=>decide_eq_true h⟩
theorem cp_both (q:Int)(M:Nat→Nat→Nat)(hB:∀ i j,M i j≤255):∃ c e:Int,(∀ w,CallsR Tryz.prog 20 #[.agg (grpC q M)] w (fun u _=>u = .tuple #[.int .i64 c,.int .i64 e]))∧(∀ w,CallsR Tryz.prog 21 #[.agg (grpC q M)] w (fun u _=>u = .tuple #[.int .i64 c,.int .i64 e]))∧OkP q M c e:=by
  by_cases hc:GrpP q M
  · have h0:0<q.toNat:=by have:=hc.1;omega
    have h6:q.toNat≤6:=by have:=hc.2.1;omega
    have eq_:(q.toNat:Int)=q:=by have:=hc.1;omega
    refine ⟨((cpI M q.toNat q.toNat 0:Nat):Int),0,fun w=>?_,fun w=>?_,fun _=>⟨hc,?_⟩⟩
    · have:=CommutingPairsIG q.toNat M w h0 h6 hB hc.2.2
      rwa [eq_] at this
    · have:=CommutingPairsSG q.toNat M w h0 h6 hB hc.2.2
      rwa [eq_] at this
    · rw [cp_all h0 h6 hc.2.2,Int.natCast_mul,eq_]
  · exact ⟨0,1,fun w=>CommutingPairsIA q M w hB hc,fun w=>CommutingPairsSA q M w hB hc,fun e=>absurd e (by decide)⟩
theorem gc_both (p q:Int)(M:Nat→Nat→Nat)(hB:∀ i j,M i j≤255):∃ (b1 b2:Int) (T:Nat→Nat→Nat→Nat) (f:Nat→Nat) (e3:Int) (c1 c2:Int) (U:Nat→Nat→Nat→Nat) (g:Nat→Nat) (e4:Int),
    (∀ w,CallsR Tryz.prog 15 #[.int .i64 p,.agg (grpC q M)] w (fun u _=>u = .tuple #[.agg (algC b1 b2 T f),.int .i64 e3]))∧(∀ w,CallsR Tryz.prog 16 #[.int .i64 p,.agg (grpC q M)] w (fun u _=>u = .tuple #[.agg (algC b1 b2 T f),.int .i64 e3]))∧(∀ w,CallsR Tryz.prog 17 #[.int .i64 p,.agg (grpC q M)] w (fun u _=>u = .tuple #[.agg (algC c1 c2 U g),.int .i64 e4]))∧(∀ w,CallsR Tryz.prog 18 #[.int .i64 p,.agg (grpC q M)] w (fun u _=>u = .tuple #[.agg (algC c1 c2 U g),.int .i64 e4]))∧
    OkC p q M b1 b2 T f c1 c2 U g e4:=by
  by_cases hc:GrpP q M
  · have h0:0<q.toNat:=by have:=hc.1;omega
    have h6:q.toNat≤6:=by have:=hc.2.1;omega
    have eq_:(q.toNat:Int)=q:=by have:=hc.1;omega
    have hG:=hc.2.2
    by_cases hP:primeP p
    · have hp2:=primeP_pos2 hP
      have ep:(p.toNat:Int)=p:=by omega
      have hP':primeP (p.toNat:Int):=by rw [ep];exact hP
      have hp:primeN p.toNat:=primeN_of hP;have hp13:=hp.le;have hC0:∀ n T f,AlgP (p.toNat:Int) n T f→CodeP (p.toNat:Int) n T f 0 (vAtL []):=fun _ _ _ h=>⟨h,fun i hi=>absurd hi (by omega)⟩;have hu:∀ i,uK i≤255:=fun i=>by unfold uK;split<;>omega
      refine ⟨p,q,gT q.toNat M,uK,0,p,(nC M q.toNat:Int),tK p.toNat q.toNat M,uK,0,fun w=>?_,fun w=>?_,fun w=>?_,fun w=>?_,fun _=>⟨hc,by omega,by omega,decide (FrobN p.toNat (nC M q.toNat) (tK p.toNat q.toNat M) uK),fun w=>?_,fun w=>?_,fun w=>?_,?_⟩⟩
      · have:=GroupAlgebraIV p q.toNat M w h0 h6 hB hG hP
        rw [eq_] at this;exact this
      · have:=GroupAlgebraSV p q.toNat M w h0 h6 hB hG hP
        rw [eq_] at this;exact this
      · have:=ClassAlgebraIV p.toNat q.toNat M w h0 h6 hB hG hP'
        rw [eq_,ep,tC_K] at this;exact this
      · have:=ClassAlgebraSV p.toNat q.toNat M w h0 h6 hB hG hP'
        rw [eq_,ep,tC_K] at this;exact this
      · have:=IsCommutativeIB p.toNat (nC M q.toNat) (tK p.toNat q.toNat M) uK w hp (nC_p0 h0 h6 hG) (nC_le h6) (fun i j k=>tK_lt (by omega) i j k) tK_out hu (hC0 _ _ _ (cls_alg h0 h6 hG hP'))
        rw [ep,decide_eq_true (comP_iff.2 (tK_com h0 h6 hG))] at this;exact this
      · have:=IsFrobeniusIB p.toNat (nC M q.toNat) (tK p.toNat q.toNat M) uK w hp (nC_p0 h0 h6 hG) (nC_le h6) (fun i j k=>tK_lt (by omega) i j k) tK_out hu (hC0 _ _ _ (cls_alg h0 h6 hG hP'))
        rw [ep] at this;exact this
      · have:=IsFrobeniusIB p.toNat q.toNat (gT q.toNat M) uK w hp h0 h6 (fun i j k=>gT_lt (by omega) i j k) (gT_out h6 hG) hu (hC0 _ _ _ (grp_alg h0 h6 hG hP'))
        rw [ep,eq_,decide_eq_true (show FrobN p.toNat q.toNat (gT q.toNat M) uK from grp_frob h0 h6 hG hp)] at this;exact this
      · show _↔_
        rw [decide_eq_true_iff,cls_frob h0 h6 hG hp];have key:∀ i,((sC M q.toNat i:Int)).tmod p=((sC M q.toNat i%p.toNat:Nat):Int):=fun i=>by
          rw [Int.tmod_eq_emod_of_nonneg (by omega),Int.natCast_emod,ep]
        constructor
        · intro h i hi;rw [key];have:=h i hi;omega
        · intro h i hi;have:=h i hi;rw [key] at this;omega
    · refine ⟨0,0,fun _ _ _=>0,fun _=>0,2,0,0,fun _ _ _=>0,fun _=>0,2,fun w=>?_,fun w=>?_,fun w=>?_,fun w=>?_,fun e=>absurd e (by decide)⟩
      · have:=GroupAlgebraIP p q.toNat M w h0 h6 hB hG hP
        rwa [eq_] at this
      · have:=GroupAlgebraSP p q.toNat M w h0 h6 hB hG hP
        rwa [eq_] at this
      · have:=ClassAlgebraIP p q.toNat M w h0 h6 hB hG hP
        rwa [eq_] at this
      · have:=ClassAlgebraSP p q.toNat M w h0 h6 hB hG hP
        rwa [eq_] at this
  · exact ⟨0,0,fun _ _ _=>0,fun _=>0,1,0,0,fun _ _ _=>0,fun _=>0,1,fun w=>GroupAlgebraIA p q M w hB hc,fun w=>GroupAlgebraSA p q M w hB hc,fun w=>ClassAlgebraIA p q M w hB hc,fun w=>ClassAlgebraSA p q M w hB hc,fun e=>absurd e (by decide)⟩
theorem known_both (nm:ByteArray)(h:Name12 nm):∃ (q:Int) (M:Nat→Nat→Nat) (e:Int),(∀ w,CallsR Tryz.prog 12 #[.string nm] w (fun u _=>u = .tuple #[.agg (grpC q M),.int .i64 e]))∧(∀ w,CallsR Tryz.prog 13 #[.string nm] w (fun u _=>u = .tuple #[.agg (grpC q M),.int .i64 e]))∧(∀ i j,M i j≤255)∧OkK q M e:=by
  rcases h with rfl | rfl | rfl | rfl | rfl | rfl | rfl | rfl | rfl | rfl | rfl | rfl
  · refine ⟨((1:Nat):Int),_,0,fun w=>KnownGroupI_T 1 ⟨#[99,49]⟩ 0 w (by decide) (by decide) (by kernel_rfl),fun w=>KnownGroupS_T 1 ⟨#[99,49]⟩ w (by decide) (by decide) rfl (by decide) (by decide) (fun h=>absurd (str_eq h) (by decide)) (fun h=>absurd (str_eq h) (by decide)),kTp_le (fun i j hi hj=>by omega),fun _=>⟨by decide,by decide,known_c1⟩⟩
  · refine ⟨((2:Nat):Int),_,0,fun w=>KnownGroupI_T 2 ⟨#[99,50]⟩ 1 w (by decide) (by decide) (by kernel_rfl),fun w=>KnownGroupS_T 2 ⟨#[99,50]⟩ w (by decide) (by decide) rfl (by decide) (by decide) (fun h=>absurd (str_eq h) (by decide)) (fun h=>absurd (str_eq h) (by decide)),kTp_le (fun i j hi hj=>by omega),fun _=>⟨by decide,by decide,known_c2⟩⟩
  · refine ⟨((3:Nat):Int),_,0,fun w=>KnownGroupI_T 3 ⟨#[99,51]⟩ 2 w (by decide) (by decide) (by kernel_rfl),fun w=>KnownGroupS_T 3 ⟨#[99,51]⟩ w (by decide) (by decide) rfl (by decide) (by decide) (fun h=>absurd (str_eq h) (by decide)) (fun h=>absurd (str_eq h) (by decide)),kTp_le (fun i j hi hj=>by omega),fun _=>⟨by decide,by decide,known_c3⟩⟩
  · refine ⟨((4:Nat):Int),_,0,fun w=>KnownGroupI_T 4 ⟨#[99,52]⟩ 3 w (by decide) (by decide) (by kernel_rfl),fun w=>KnownGroupS_T 4 ⟨#[99,52]⟩ w (by decide) (by decide) rfl (by decide) (by decide) (fun h=>absurd (str_eq h) (by decide)) (fun h=>absurd (str_eq h) (by decide)),kTp_le (fun i j hi hj=>by omega),fun _=>⟨by decide,by decide,known_c4⟩⟩
  · refine ⟨((5:Nat):Int),_,0,fun w=>KnownGroupI_T 5 ⟨#[99,53]⟩ 4 w (by decide) (by decide) (by kernel_rfl),fun w=>KnownGroupS_T 5 ⟨#[99,53]⟩ w (by decide) (by decide) rfl (by decide) (by decide) (fun h=>absurd (str_eq h) (by decide)) (fun h=>absurd (str_eq h) (by decide)),kTp_le (fun i j hi hj=>by omega),fun _=>⟨by decide,by decide,known_c5⟩⟩
  · refine ⟨((6:Nat):Int),_,0,fun w=>KnownGroupI_T 6 ⟨#[99,54]⟩ 5 w (by decide) (by decide) (by kernel_rfl),fun w=>KnownGroupS_T 6 ⟨#[99,54]⟩ w (by decide) (by decide) rfl (by decide) (by decide) (fun h=>absurd (str_eq h) (by decide)) (fun h=>absurd (str_eq h) (by decide)),kTp_le (fun i j hi hj=>by omega),fun _=>⟨by decide,by decide,known_c6⟩⟩
  · refine ⟨4,_,0,fun w=>KnownGroupI_D (⟨#[118,52]⟩:ByteArray) 6 w (by kernel_rfl),fun w=>KnownGroupS_D (⟨#[118,52]⟩:ByteArray) w rfl (by decide) rfl,kTp_le (fun i j hi hj=>by have:=xor_lt4 hi hj;omega),fun _=>⟨by decide,by decide,known_v4⟩⟩
  · refine ⟨6,_,0,fun w=>KnownGroupI_O (⟨#[115,51]⟩:ByteArray) 7 w (by kernel_rfl),fun w=>KnownGroupS_O (⟨#[115,51]⟩:ByteArray) w rfl (by decide) (fun h=>absurd (str_eq h) (by decide)) rfl,kTp_le (fun i j hi hj=>by have:=toV_lt (i:=i) (j:=j);omega),fun _=>⟨by decide,by decide,known_s3⟩⟩
  · exact ⟨0,fun _ _=>0,4,fun w=>KnownGroupI_0 ⟨#[99,55]⟩ w (by kernel_rfl),fun w=>KnownGroupS_0 ⟨#[99,55]⟩ w (by decide) (fun h=>absurd (str_eq h) (by decide)) (fun h=>absurd (str_eq h) (by decide)),fun _ _=>Nat.zero_le _,fun e=>absurd e (by decide)⟩
  · exact ⟨0,fun _ _=>0,4,fun w=>KnownGroupI_0 ⟨#[99,48]⟩ w (by kernel_rfl),fun w=>KnownGroupS_0 ⟨#[99,48]⟩ w (by decide) (fun h=>absurd (str_eq h) (by decide)) (fun h=>absurd (str_eq h) (by decide)),fun _ _=>Nat.zero_le _,fun e=>absurd e (by decide)⟩
  · exact ⟨0,fun _ _=>0,4,fun w=>KnownGroupI_0 ⟨#[]⟩ w (by kernel_rfl),fun w=>KnownGroupS_0 ⟨#[]⟩ w (by decide) (fun h=>absurd (str_eq h) (by decide)) (fun h=>absurd (str_eq h) (by decide)),fun _ _=>Nat.zero_le _,fun e=>absurd e (by decide)⟩
  · exact ⟨0,fun _ _=>0,4,fun w=>KnownGroupI_0 ⟨#[83,51]⟩ w (by kernel_rfl),fun w=>KnownGroupS_0 ⟨#[83,51]⟩ w (by decide) (fun h=>absurd (str_eq h) (by decide)) (fun h=>absurd (str_eq h) (by decide)),fun _ _=>Nat.zero_le _,fun e=>absurd e (by decide)⟩
theorem clI_y (q:Int)(M:Nat→Nat→Nat)(hB:∀ i j,M i j≤255)(hc:GrpP q M)(w:World):CallsR Tryz.prog 6 #[.agg (grpC q M)] w (fun u w'=>∃ l,u = .tuple #[l,.int .i64 0]∧SSOutR w w' (nC M q.toNat) (sC M q.toNat) (eI M q.toNat) l):=by
  have h0:0<q.toNat:=by have:=hc.1;omega
  have h6:q.toNat≤6:=by have:=hc.2.1;omega
  have eq_:(q.toNat:Int)=q:=by have:=hc.1;omega
  have:=ClassesOfIG q.toNat M w h0 h6 hB hc.2.2
  rwa [eq_] at this
theorem clS_y (q:Int)(M:Nat→Nat→Nat)(hB:∀ i j,M i j≤255)(hc:GrpP q M)(w:World):CallsR Tryz.prog 7 #[.agg (grpC q M)] w (fun u w'=>∃ l,u = .tuple #[l,.int .i64 0]∧SSOutR w w' (nC M q.toNat) (sC M q.toNat) (eI M q.toNat) l):=by
  have h0:0<q.toNat:=by have:=hc.1;omega
  have h6:q.toNat≤6:=by have:=hc.2.1;omega
  have eq_:(q.toNat:Int)=q:=by have:=hc.1;omega
  have:=ClassesOfSG q.toNat M w h0 h6 hB hc.2.2
  rwa [eq_] at this
theorem cl_n {q:Int}{M:Nat→Nat→Nat}(hc:GrpP q M):nC M q.toNat≤6∧(∀ i,sC M q.toNat i≤6)∧(sumTo (sC M q.toNat) (nC M q.toNat):Int)=q∧1≤q∧q≤6:=by
  have h0:0<q.toNat:=by have:=hc.1;omega
  have h6:q.toNat≤6:=by have:=hc.2.1;omega
  refine ⟨nC_le h6,fun i=>sC_le h6 i,?_,hc.1,hc.2.1⟩;rw [sC_all h0 h6 hc.2.2];have:=hc.1;omega
end Go.Proofs.YtdeinnaeicmlfaaGreat
