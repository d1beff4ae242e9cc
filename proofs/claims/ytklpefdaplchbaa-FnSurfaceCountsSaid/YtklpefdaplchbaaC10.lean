import Derived.Test.YtklpefdaplchbaaC3
import Derived.Test.YtklpefdaplchbaaSw97
import Derived.Test.YtklpefdaplchbaaEch10
set_option linter.unusedVariables false
set_option linter.unusedSimpArgs false
namespace Go.Proofs.Ytklpefdaplchbaa
open Go Go.RowKit Go.Sw Go.Ech
open Classical
theorem ty_bs1_35:∀ (x:Int) (w:World),(Instr.buildSlice 35 1 #[(0,.int .i64 x)]).run Try.prog w = .ok (.slice (some ⟨w.heap.size,0,none⟩) 1 1) (w.alloc (.cells #[.int .i64 x] 2)):=by intros;kernel_rfl
theorem conj_done {n:Nat}{M:Nat→Nat→Nat}(hn:n≤6)(hG:TabP n M){x m:Nat}(hx:x<n){D E:Nat→Nat}(h1:SameSet n D (cj M n x))(h2:Cmp D E n m):cnt (inC M n x) n=m∧∀ i,i<m→E i=asc (inC M n x) n i:=by
  have key:∀ z,(∃ y,y<n∧cj M n x y=z)↔∃ k,k<m∧E k=z:=fun z=>(h1 z).symm.trans (h2.2.2.2 z);refine asc_unique h2.1 (fun z _=>inC_iff.trans (key z)) fun i hi=>?_;obtain ⟨y,hy,e⟩:=(key (E i)).2 ⟨i,hi,rfl⟩;rw [← e];exact cj_lt hn hG hx hy
def NumOut (w w':World) (m:Nat) (f:Nat→Nat) (v:Value):Prop:=∃ b c cs,v = .slice (some ⟨b,0,none⟩) m c∧w.heap.size≤b∧Blk w' b cs∧SlAt 1 v (some (b,cs)) m b c cs (fun k=>.int .i64 (f k:Int))
theorem conjugatesOf_ok (n:Nat)(M:Nat→Nat→Nat)(x:Nat)(w:World)(hn0:0<n)(hn:n≤6)(hB:∀ i j,M i j≤255)(hG:TabP n M)(hxn:x<n) :
    CallsR Try.prog 45 #[.agg (grpC (n:Int) M),.int .i64 (x:Int)] w (fun v w'=>NumOut w w' (cnt (inC M n x) n) (asc (inC M n x) n) v):=by
  refine calls_fr [.agg (grpC (n:Int) M),.int .i64 (x:Int)] Try.func45 rfl Try.ntmps45 rfl fun a hF=>?_;have hM:Mem w w [none,none,none] []:=MemX.start w 3;change Fr 29 a [(0,.agg (grpC (n:Int) M)),(1,.int .i64 (x:Int))] at hF;refine sr<|stR hF (d_box 0 hM hF rfl) rfl ?_;rintro _ w' a ⟨b1,rfl,hM,-⟩ hF;change Mem w w' [some (b1,grpC (n:Int) M),none,none] [] at hM;refine ag hF rfl rfl fun a hF=>ns<|ag hF rfl rfl fun a hF=>nt<|sq<|sr<|st hF (g_fieldAddr ty_fo_27_0 hF rfl) rfl fun a hF=>st hF (g_load ty_on_2 hF rfl (hM.row 0 rfl) (grpC_n (by omega))) rfl fun a hF=>mv hF rfl rfl fun a hF=>nt<|wp_block ?_;change Mem w _ [some (b1,grpC (n:Int) M),none,none] [] at hM;refine c_loop (fun (kk:Nat) a w'=>kk≤n∧(True)∧∃ (u5_1:Value) (e5_1:Option (Nat×Array Value)),Sl 1 u5_1 e5_1 (kk) (fun c=>.int .i64 (cj M n x c:Int))∧Fr 29 a [(1,.int .i64 (x:Int)),(2,ptr b1 (0)),(4,.slice none 0 0),(8,.int .i64 (n:Int)),(9,.int .i64 (kk:Int)),(5,u5_1)]∧Mem w w' [some (b1,grpC (n:Int) M),none,e5_1] []) (fun kk=>n - kk) 0 ?_ ?_
  · refine ⟨by omega,trivial,(.slice none 0 0),(none),(Sl.nil 1 _),hF.sub _ (by repeat' constructor),?_⟩
    exact hM
  clear hF hM;rintro gy a w' ⟨hgy,hinv1,u5_1,e5_1,hur,hF,hM⟩;have y1:gy<n→M gy x<n:=fun q=>hG.c hn q hxn;have y2:gy<n→lead (M gy) n<n:=fun q=>hG.inv q;refine sr<|st hF (g_lss hF rfl rfl) rfl fun a hF=>nt<|sq<|c_cond hF rfl (fun h2=>?_) (fun h2=>?_)
  · refine wp_skip ?_
    refine tN<|sq<|wp_block<|sr<|mv hF rfl rfl fun a hF=>ag hF rfl rfl fun a hF=>nt<|c_par 11 [1] [.val (u5_1),.val (.agg (grpC (n:Int) M)),.val (.agg (grpC (n:Int) M)),.val (.int .i64 (gy:Int)),.val (.int .i64 (x:Int)),.val (.int .i64 ((M (gy) (x):Int))),.val (.agg (grpC (n:Int) M)),.val (.int .i64 (gy:Int)),.val (.int .i64 ((lead (M (gy)) n:Int))),.val (.int .i64 (((M (M (gy) (x)) (lead (M (gy)) n):Nat):Int))),.own 1 (#[.int .i64 (((M (M (gy) (x)) (lead (M (gy)) n):Nat):Int))]) (fun b=>.slice (some ⟨b,0,none⟩) 1 1)] hmix rfl hF rfl hM ⟨fun a w gG hF hS hd=>by exact pmv hS rfl hF rfl,fun a w gG hF hS hd=>by have hM:=hS.mem rfl;exact par_val hS rfl (g_loadAgg ty_ag_27 hF rfl (hM.row 0 rfl) (by simp only [sz0,tenC_size,smC_size,numC_size,numI_size,mrk_size,grpC_size,rowW_size]<;>omega) (whole (by simp only [sz0,tenC_size,smC_size,numC_size,numI_size,mrk_size,grpC_size,rowW_size]))),fun a w gG hF hS hd=>by have hM:=hS.mem rfl;exact par_val hS rfl (g_loadAgg ty_ag_27 hF rfl (hM.row 0 rfl) (by simp only [sz0,tenC_size,smC_size,numC_size,numI_size,mrk_size,grpC_size,rowW_size]<;>omega) (whole (by simp only [sz0,tenC_size,smC_size,numC_size,numI_size,mrk_size,grpC_size,rowW_size]))),fun a w gG hF hS hd=>by exact pmv hS rfl hF rfl,fun a w gG hF hS hd=>by exact pmv hS rfl hF rfl,fun a w gG hF hS hd=>by have hF:=hF.ext1 14 (hd 2 rfl rfl);have hF:=hF.ext1 15 (hd 3 rfl rfl);have hF:=hF.ext1 16 (hd 4 rfl rfl);exact par_call (by repeat constructor) hS rfl (d_call Try.call36 hF (.cons rfl (.cons rfl (.cons rfl .nil))) (times_ok (n:Int) M (gy) (x) _ hB (by omega) (by omega))),fun a w gG hF hS hd=>by have hM:=hS.mem rfl;exact par_val hS rfl (g_loadAgg ty_ag_27 hF rfl (hM.row 0 rfl) (by simp only [sz0,tenC_size,smC_size,numC_size,numI_size,mrk_size,grpC_size,rowW_size]<;>omega) (whole (by simp only [sz0,tenC_size,smC_size,numC_size,numI_size,mrk_size,grpC_size,rowW_size]))),fun a w gG hF hS hd=>by exact pmv hS rfl hF rfl,fun a w gG hF hS hd=>by have hF:=hF.ext1 18 (hd 6 rfl rfl);have hF:=hF.ext1 19 (hd 7 rfl rfl);exact par_call (by repeat constructor) hS rfl (d_call Try.call37 hF (.cons rfl (.cons rfl .nil)) ((CallsR.val (inverse_ok n M (gy) _ hn0 hn hB (by omega)) (congrArg (Value.int .i64) (if_pos (lead_lt (hG.2.2.1 _ (by omega)))))))),fun a w gG hF hS hd=>by have hF:=hF.ext1 13 (hd 1 rfl rfl);have hF:=hF.ext1 17 (hd 5 rfl rfl);have hF:=hF.ext1 20 (hd 8 rfl rfl);exact par_call (by repeat constructor) hS rfl (d_call Try.call36 hF (.cons rfl (.cons rfl (.cons rfl .nil))) (times_ok (n:Int) M (M (gy) (x)) (lead (M (gy)) n) _ hB (by omega) (by omega))),fun a w gG hF hS hd=>by have hF:=hF.ext1 21 (hd 9 rfl rfl);exact par_own (by repeat constructor) hS rfl rfl rfl rfl (d_buildC 1 hS.1 hF (build1 hF rfl) (ty_bs1_35 _)),trivial⟩ ?_;intro a w' L hF hS hq;have hF:=hF.ext1 12 (hq 0 rfl rfl);have hF:=hF.ext1 13 (hq 1 rfl rfl);have hF:=hF.ext1 14 (hq 2 rfl rfl);have hF:=hF.ext1 15 (hq 3 rfl rfl);have hF:=hF.ext1 16 (hq 4 rfl rfl);have hF:=hF.ext1 17 (hq 5 rfl rfl);have hF:=hF.ext1 18 (hq 6 rfl rfl);have hF:=hF.ext1 19 (hq 7 rfl rfl);have hF:=hF.ext1 20 (hq 8 rfl rfl);have hF:=hF.ext1 21 (hq 9 rfl rfl);obtain ⟨hM,hL⟩:=hS;obtain ⟨b3,hptr,hkk⟩:=hq 10 rfl rfl;have hF:=hF.ext1 22 hptr;have hL:=hL.take hkk;obtain rfl:=hL.eq;change Mem w w' [some (b1,grpC (n:Int) M),some (b3,#[.int .i64 (((M (M (gy) (x)) (lead (M (gy)) n):Nat):Int))]),e5_1] [] at hM;change wpList Try.prog _ _ [_,_] _ _;refine stR hF (d_append (k:=2) (m:=1) (g:=fun _=>.int .i64 (((M (M (gy) (x)) (lead (M (gy)) n):Nat):Int))) ty_si_35 rfl (by decide) hM rfl hF rfl rfl hur (fun i hi=>by rw [show i=0 by omega];exact (hM.row 1 rfl).cell 0) (fun _ _=>rfl) (by decide) (by unfold maxLen;omega) (by omega)) rfl ?_;rintro u4 w' a ⟨e5,hM,hs6⟩ hF
    change Mem w w' [some (b1,grpC (n:Int) M),some (b3,#[.int .i64 (((M (M (gy) (x)) (lead (M (gy)) n):Nat):Int))]),e5] [] at hM;refine ag hF rfl rfl fun a hF=>wpList_nil<|iN<|tN<|wp_region_lit<|st hF (g_add hF rfl rfl (add_nat (gy) (1) (by omega))) rfl fun a hF=>mv hF rfl rfl fun a hF=>wpList_nil<|tN ?_;have hM:=hM.drop 1;refine ⟨gy+1,⟨by omega,trivial,(u4),(e5),(hs6.congr (fun i hi=>by
            by_cases e:i<gy*1
            · rw [if_pos e]
            · rw [if_neg e,show i=gy by omega];rfl)),hF.sub _ (by repeat' constructor),?_⟩,by omega⟩
    exact hM
  obtain rfl:n=gy:=by omega
  obtain ⟨bR,cR,csR,hvR,heR,hsR⟩:=hur.pos hn0;subst hvR;subst heR;have hcR:=hsR.le;have hmR:=hsR.max;have hzR:csR.size=cR:=by rw [hsR.sz,Nat.mul_one]
  change Mem w _ [some (b1,grpC (n:Int) M),none,some (bR,csR)] [] at hM;have hM:=hM.rowc (cs':=rowW csR n (cj M n x)) 2 rfl (rowW_of hsR);change Mem w _ [some (b1,grpC (n:Int) M),none,some (bR,rowW csR n (cj M n x))] [] at hM;refine wp_exit<|tX<|tX<|ib_same<|tN<|sr<|mv hF rfl rfl fun a hF=>stR hF (d_callX Try.call57 hF (.cons rfl .nil) (sort_ok bR cR n csR (cj M n x) _ hn0 (by omega) (by omega) (hM.row 2 rfl))) rfl ?_;rintro _ w' a ⟨hx,rfl,D4,hbk,hA4,hS4⟩ hF;have hM:=hM.upd (cs':=rowW csR n D4) 2 rfl hx hbk;change Mem w w' [some (b1,grpC (n:Int) M),none,some (bR,rowW csR n D4)] [] at hM;refine ns<|mv hF rfl rfl fun a hF=>stR hF (d_callX Try.call58 hF (.cons rfl .nil) (compact_ok bR cR n csR D4 _ hn0 (by omega) (by omega) (hM.row 2 rfl) hA4 (by omega))) rfl ?_;rintro _ w' a ⟨hx,mm,E4,rfl,hbk,hC4,hm4⟩ hF;have hM:=hM.upd (cs':=rowW csR n E4) 2 rfl hx hbk;change Mem w w' [some (b1,grpC (n:Int) M),none,some (bR,rowW csR n E4)] [] at hM;refine ag hF rfl rfl fun a hF=>nt<|wp_ret<|fin1 rfl hF.defers (res_tmp hF rfl) ⟨_,rfl,hM.below,?_⟩;obtain ⟨hce,hEe⟩:=conj_done hn hG hxn hS4 hC4;rw [hce];exact ⟨bR,cR,_,rfl,hM.ge 2 rfl,hM.row 2 rfl,(rowW_sl hm4 (by omega) hmR hzR).congr (fun i hi=>congrArg (fun q:Nat=>Value.int .i64 (q:Int)) (hEe i (by omega)))⟩
end Go.Proofs.Ytklpefdaplchbaa
namespace Go.Proofs.Ytklpefdaplchbaa
open Go Go.RowKit Go.Sw Go.Ech
open Classical
theorem ty_bsv_59:∀ (x:Option Addr) (n c:Nat) (w:World),(Instr.buildSlice 59 1 #[(0,.slice x n c)]).run Try.prog w = .ok (.slice (some ⟨w.heap.size,0,none⟩) 1 1) (w.alloc (.cells #[.slice x n c] 35)):=by intros;kernel_rfl
theorem ty_si_59:slI Try.prog 59=some (35,some (.slice none 0 0),1,24):=by kernel_rfl
theorem up3 {k b c:Nat}{cs:Array Value}{β κ:Nat→Nat}{C:Nat→Array Value}{P:Nat→Nat→Nat→Array Value→Prop}(h:∀ i,i<k→P i (β i) (κ i) (C i))(hk:P k b c cs):∀ i,i<k+1→P i (up β k b i) (up κ k c i) (upE C k cs i):=fun i hi=>by
  unfold up upE
  by_cases e:i=k
  · rw [if_pos e,if_pos e,if_pos e,e];exact hk
  · rw [if_neg e,if_neg e,if_neg e];exact h i (by omega)
theorem new_ne {X:List Nat}{w0 w:World}{L:Own}{D:Froz}{b x:Nat}{ds:Array Value}(h:MemX X w0 w L D)(hge:w.heap.size≤b)(hx:(x,ds)∈D):b≠x:=fun e=>by
  have h1:=(h.froz x ds hx).1.lt
  omega
theorem Sl.snocL {u:Value}{e:Option (Nat×Array Value)}{n m b cap:Nat}{Ln β κ:Nat→Nat}(hm:Ln n=m)(h:Sl 1 u e (n+1) (fun i=>if i<n*1 then (fun i=>.slice (some ⟨β i,0,none⟩) (Ln i) (κ i)) i else (fun _=>.slice (some ⟨b,0,none⟩) m cap) (i - n*1))) :
    Sl 1 u e (n+1) (fun i=>.slice (some ⟨up β n b i,0,none⟩) (Ln i) (up κ n cap i)):=
  h.congr fun i hi=>by
    by_cases e:i<n
    · rw [if_pos (by omega)];simp only [up_ne (show i≠n by omega)]
    · obtain rfl:i=n:=by omega
      rw [if_neg (by omega)];simp only [up_eq,hm]
theorem nC_pos {n:Nat}{M:Nat→Nat→Nat}(hn0:0<n):0<nC M n:=Nat.lt_of_le_of_lt (Nat.zero_le _) (cnt_lt (S:=isRep M n) (i:=0) (isRep_iff.2 fun i hi=>absurd hi (by omega)) hn0)
def eI (M:Nat→Nat→Nat) (n k c:Nat):Int:=(eC M n k c:Int)
theorem cls_row {n x:Nat}{M:Nat→Nat→Nat}(hx:x<n)(hr:isRep M n x=true):sC M n (cnt (isRep M n) x)=cnt (inC M n x) n∧∀ c,eC M n (cnt (isRep M n) x) c=asc (inC M n x) n c:=by
  have e:rC M n (cnt (isRep M n) x)=x:=asc_at hr hx
  unfold sC eC
  rw [e];exact ⟨rfl,fun _=>rfl⟩
theorem cls_sl {n x b c:Nat}{M:Nat→Nat→Nat}{cs:Array Value}(hx:x<n)(hr:isRep M n x=true)(h:SlAt 1 (.slice (some ⟨b,0,none⟩) (cnt (inC M n x) n) c) (some (b,cs)) (cnt (inC M n x) n) b c cs (fun k=>.int .i64 (asc (inC M n x) n k:Int))) :
    SlAt 1 (.slice (some ⟨b,0,none⟩) (sC M n (cnt (isRep M n) x)) c) (some (b,cs)) (sC M n (cnt (isRep M n) x)) b c cs (fun k=>.int .i64 (eI M n (cnt (isRep M n) x) k)):=by
  rw [(cls_row hx hr).1];exact h.congr fun k _=>congrArg (fun q:Nat=>Value.int .i64 (q:Int)) ((cls_row hx hr).2 k).symm
theorem classesOf_ok (n:Nat)(M:Nat→Nat→Nat)(w:World)(hn0:0<n)(hn:n≤6)(hB:∀ i j,M i j≤255)(hG:TabP n M) :
    CallsR Try.prog 25 #[.agg (grpC (n:Int) M)] w (fun v w'=>SSOutR w w' (nC M n) (sC M n) (eI M n) v):=by
  refine calls_fr [.agg (grpC (n:Int) M)] Try.func25 rfl Try.ntmps25 rfl fun a hF=>?_;have hM:Mem w w [none,none,none] []:=MemX.start w 3;change Fr 25 a [(0,.agg (grpC (n:Int) M))] at hF;refine sr<|stR hF (d_box 0 hM hF rfl) rfl ?_;rintro _ w' a ⟨b1,rfl,hM,-⟩ hF;change Mem w w' [some (b1,grpC (n:Int) M),none,none] [] at hM;refine ag hF rfl rfl fun a hF=>ns<|ag hF rfl rfl fun a hF=>nt<|sq<|sr<|st hF (g_fieldAddr ty_fo_27_0 hF rfl) rfl fun a hF=>st hF (g_load ty_on_2 hF rfl (hM.row 0 rfl) (grpC_n (by omega))) rfl fun a hF=>mv hF rfl rfl fun a hF=>nt<|wp_block ?_;change Mem w _ [some (b1,grpC (n:Int) M),none,none] [] at hM;refine c_loop (fun (kk:Nat) a w'=>kk≤n∧∃ (D2:Froz),∃ (be2:Nat→Nat),∃ (ka2:Nat→Nat),∃ (CC2:Nat→Array Value),(RowsC D2 (cnt (isRep M n) kk) be2 CC2∧(∀ i,i<cnt (isRep M n) kk→SlAt 1 (.slice (some ⟨be2 i,0,none⟩) (sC M n i) (ka2 i)) (some (be2 i,CC2 i)) (sC M n i) (be2 i) (ka2 i) (CC2 i) (fun q=>.int .i64 (eI M n i q)))∧∀ i,i<cnt (isRep M n) kk→w.heap.size≤be2 i)∧∃ (u3_1:Value) (e3_1:Option (Nat×Array Value)),Sl 1 u3_1 e3_1 (cnt (isRep M n) kk) (fun i=>.slice (some ⟨be2 i,0,none⟩) (sC M n i) (ka2 i))∧Fr 25 a [(1,ptr b1 (0)),(2,.slice none 0 0),(7,.int .i64 (n:Int)),(8,.int .i64 (kk:Int)),(3,u3_1)]∧Mem w w' [some (b1,grpC (n:Int) M),none,e3_1] D2) (fun kk=>n - kk) 0 ?_ ?_
  · refine ⟨by omega,[],fun _=>0,fun _=>0,fun _=>#[],⟨RowsC.none,fun i hi=>absurd hi (Nat.not_lt_zero _),fun i hi=>absurd hi (Nat.not_lt_zero _)⟩,(.slice none 0 0),(none),(Sl.nil 1 _),hF.sub _ (by repeat' constructor),?_⟩
    exact hM
  clear hF hM;rintro gx a w' ⟨hgx,D2,be2,ka2,CC2,hinv1,u3_1,e3_1,hout,hF,hM⟩;have hpos:=cls_pos hn0 hG (x:=gx);have hcl:=cnt_le (S:=isRep M n) gx;refine sr<|st hF (g_lss hF rfl rfl) rfl fun a hF=>nt<|sq<|c_cond hF rfl (fun h2=>?_) (fun h2=>?_)
  · refine wp_skip ?_
    refine tN<|sq<|wp_block<|sr<|mv hF rfl rfl fun a hF=>ag hF rfl rfl fun a hF=>ns<|st hF (g_loadAgg ty_ag_27 hF rfl (hM.row 0 rfl) (by simp only [sz0,tenC_size,smC_size,numC_size,numI_size,mrk_size,grpC_size,rowW_size]<;>omega) (whole (by simp only [sz0,tenC_size,smC_size,numC_size,numI_size,mrk_size,grpC_size,rowW_size]))) rfl fun a hF=>mv hF rfl rfl fun a hF=>?_;have hgn:gx<n:=by omega
    refine stR hF (d_call Try.call45 hF (.cons rfl (.cons rfl .nil)) (conjugatesOf_ok n M gx _ hn0 hn hB hG hgn)) rfl ?_;rintro _ w' a ⟨hx,bR,cR,csR,rfl,hgR,hbR,hsR⟩ hF;have hgw:=Nat.le_trans hM.bel.size hgR;have hnb:=fun i hi=>new_ne hM hgR (hinv1.1.mem i hi);have hM:=hM.addD (D':=[(bR,csR)]) hx (fun b cs hm=>by simp only [List.mem_singleton,Prod.mk.injEq] at hm;obtain ⟨rfl,rfl⟩:=hm;exact ⟨hgR,hbR⟩);have hmR:(bR,csR)∈([(bR,csR)]++D2:Froz):=by simp
    change Mem w w' [some (b1,grpC (n:Int) M),none,e3_1] ([(bR,csR)]++D2) at hM;refine ag hF rfl rfl fun a hF=>ns<|mv hF rfl rfl fun a hF=>st hF (g_indexSl (i:=0) ty_sl_35 hF rfl rfl rfl (by omega)) rfl fun a hF=>st hF (g_load ty_on_2 hF rfl (hM.fzm hmR) (hsR.get1 (0) (by omega))) rfl fun a hF=>mv hF rfl rfl fun a hF=>st hF (g_eql hF rfl rfl) rfl fun a hF=>nt<|c_cond hF rfl (fun h3=>?_) (fun h3=>?_)
    · refine wp_region_lit ?_
      refine mv hF rfl rfl fun a hF=>mv hF rfl rfl fun a hF=>stR hF (d_buildC 1 hM hF (build1 hF rfl) (ty_bsv_59 _ _ _)) rfl ?_;rintro _ w' a ⟨b4,rfl,hM,-⟩ hF;change Mem w w' [some (b1,grpC (n:Int) M),some (b4,#[.slice (some ⟨bR,0,none⟩) (cnt (inC M n gx) n) (cR)]),e3_1] ([(bR,csR)]++D2) at hM;refine stR hF (d_append (k:=2) (m:=1) (g:=fun _=>.slice (some ⟨bR,0,none⟩) (cnt (inC M n gx) n) (cR)) ty_si_59 rfl (by decide) hM rfl hF rfl rfl hout (fun i hi=>by rw [show i=0 by omega];exact (hM.row 1 rfl).cell 0) (fun _ _=>rfl) (by decide) (by unfold maxLen;omega) (by omega)) rfl ?_;rintro u5 w' a ⟨e6,hM,hs7⟩ hF;change Mem w w' [some (b1,grpC (n:Int) M),some (b4,#[.slice (some ⟨bR,0,none⟩) (cnt (inC M n gx) n) (cR)]),e6] ([(bR,csR)]++D2) at hM;refine ag hF rfl rfl fun a hF=>wpList_nil<|iN<|tN<|wp_region_lit<|st hF (g_add hF rfl rfl (add_nat (gx) (1) (by omega))) rfl fun a hF=>mv hF rfl rfl fun a hF=>wpList_nil<|tN ?_;have hrep:=(rep_first hn0 hn hG hgn).1 (by omega);have hC:=(hinv1.1.more (D':=[(bR,csR)]++D2) (fun x hx=>List.mem_append_right _ hx)).snoc hmR hnb;have hrs:=up3 (P:=fun i b c cs=>SlAt 1 (.slice (some ⟨b,0,none⟩) (sC M n i) c) (some (b,cs)) (sC M n i) b c cs (fun q=>.int .i64 (eI M n i q))) hinv1.2.1 (cls_sl hgn hrep hsR);have hgs:=up3 (P:=fun _ b _ _=>w.heap.size≤b) (κ:=ka2) (c:=cR) (cs:=csR) (C:=CC2) hinv1.2.2 hgw;have hM:=hM.drop 1;refine ⟨gx+1,⟨by omega,([(bR,csR)]++D2),up be2 (cnt (isRep M n) gx) bR,up ka2 (cnt (isRep M n) gx) cR,upE CC2 (cnt (isRep M n) gx) csR,(by rw [cnt_yes hrep];exact ⟨hC,hrs,hgs⟩),(u5),(e6),(by first | (rw [cnt_yes hrep];exact Sl.snocL (cls_row hgn hrep).1 hs7) | (rw [cnt_no hrep];exact hs7)),hF.sub _ (by repeat' constructor),?_⟩,by omega⟩;exact hM
    refine wp_skip<|iN<|tN<|wp_region_lit<|st hF (g_add hF rfl rfl (add_nat (gx) (1) (by omega))) rfl fun a hF=>mv hF rfl rfl fun a hF=>wpList_nil<|tN ?_;have hrep:¬ isRep M n gx=true:=fun hq=>absurd ((rep_first hn0 hn hG hgn).2 hq) (by omega);have hC:=hinv1.1.more (D':=[(bR,csR)]++D2) (fun x hx=>List.mem_append_right _ hx);refine ⟨gx+1,⟨by omega,([(bR,csR)]++D2),be2,ka2,CC2,(by rw [cnt_no hrep];exact ⟨hC,hinv1.2⟩),(u3_1),(e3_1),(by first | (rw [cnt_yes hrep];exact Sl.snocL (cls_row hgn hrep).1 hout) | (rw [cnt_no hrep];exact hout)),hF.sub _ (by repeat' constructor),?_⟩,by omega⟩;exact hM
  obtain rfl:n=gx:=by omega
  refine wp_exit<|tX<|tX<|ib_same<|tN<|sr<|mv hF rfl rfl fun a hF=>ag hF rfl rfl fun a hF=>nt<|wp_ret<|fin1 rfl hF.defers (res_tmp hF rfl) ⟨_,rfl,hM.below,?_⟩;obtain ⟨bO,cO,csO,hvO,heO,hsO⟩:=hout.pos (nC_pos hn0);subst heO;exact SSOutR.of (q:=2) hM hinv1.1 rfl hsO hinv1.2.2 hinv1.2.1
end Go.Proofs.Ytklpefdaplchbaa
namespace Go.Proofs.Ytklpefdaplchbaa
open Go Go.RowKit Go.Sw Go.Ech
open Classical
def bolC (f:Nat→Bool):Array Value:=fnC 6 (fun c=>.bool (f c))
def setB (f:Nat→Bool) (j c:Nat):Bool:=if c=j then true else f c
theorem bolC_size (f:Nat→Bool):(bolC f).size=6:=fnC_size _ _
section
variable {n : Nat} {M : Nat → Nat → Nat}
def metB (M:Nat→Nat→Nat) (n i c:Nat):Bool:=(List.range i).any fun y=>isRep M n y && inC M n y c
def ownB (M:Nat→Nat→Nat) (n i k c:Nat):Bool:=(List.range k).any fun y=>decide (cj M n i y=c)
def metJ (M:Nat→Nat→Nat) (n i j c:Nat):Bool:=metB M n i c || (decide (c<j) && inC M n i c)
theorem any_succ {k:Nat}{p:Nat→Bool}:(List.range (k+1)).any p=((List.range k).any p || p k):=by rw [List.range_succ,List.any_append];simp
end
end Go.Proofs.Ytklpefdaplchbaa
namespace Go.Proofs.Ytklpefdaplchbaa
open Go Go.RowKit Go.Sw Go.Ech
open Classical
end Go.Proofs.Ytklpefdaplchbaa
namespace Go.Proofs.Ytklpefdaplchbaa
open Go Go.RowKit Go.Sw Go.Ech
open Classical
section
variable {n : Nat} {M : Nat → Nat → Nat}
def chiP (E:Nat→Nat) (m a:Nat):Nat:=if (List.range m).any (fun x=>decide (E x=a))=true then 1 else 0
theorem chiP_le (E:Nat→Nat)(m a:Nat):chiP E m a≤1:=by unfold chiP;split<;>omega
theorem chiP_0 {E:Nat→Nat}{a:Nat}:chiP E 0 a=0:=by unfold chiP;simp
theorem chiP_s {E:Nat→Nat}{m a:Nat}:chiP E (m+1) a=if a=E m then 1 else chiP E m a:=by
  unfold chiP
  rw [any_succ]
  by_cases e:a=E m
  · rw [if_pos e,if_pos (by rw [Bool.or_eq_true];exact .inr (decide_eq_true e.symm))]
  · rw [if_neg e]
    by_cases h:(List.range m).any (fun x=>decide (E x=a))=true
    · rw [if_pos h,if_pos (by rw [Bool.or_eq_true];exact .inl h)]
    · rw [if_neg h,if_neg (by rw [Bool.or_eq_true];exact fun q=>q.elim h fun q=>e (of_decide_eq_true q).symm)]
theorem chiP_new {E:Nat→Nat}{m:Nat}(h:∀ x,x<m→E x≠E m):chiP E m (E m)=0:=by
  unfold chiP
  rw [if_neg];intro q;obtain ⟨x,hx,hd⟩:=List.any_eq_true.1 q;exact h x (by simpa using hx) (by simpa using hd)
theorem sumTo_congr' {f g:Nat→Nat}{k:Nat}(h:∀ i,i<k→f i=g i):sumTo f k=sumTo g k:=by
  induction k with
  | zero=>rfl
  | succ k ih=>simp only [sumTo];rw [ih (fun i hi=>h i (by omega)),h k (by omega)]
theorem sumTo_pick {F:Nat→Nat}{k e:Nat}(he:e<k):sumTo (fun a=>(if a=e then 1 else 0)*F a) k=F e:=by
  induction k with
  | zero=>omega
  | succ k ih =>
    simp only [sumTo]
    by_cases h:e=k
    · subst h
      have h0:sumTo (fun a=>(if a=e then 1 else 0)*F a) e=0:=by
        have:∀ m,m≤e→sumTo (fun a=>(if a=e then 1 else 0)*F a) m=0:=by
          intro m
          induction m with
          | zero=>intro _;rfl
          | succ m ih2=>intro hm;simp only [sumTo];rw [ih2 (by omega),if_neg (by omega)];omega
        exact this e (Nat.le_refl _)
      rw [h0,if_pos rfl];omega
    · rw [ih (by omega),if_neg (fun q=>h q.symm)];omega
theorem sumTo_add {f g:Nat→Nat}{k:Nat}:sumTo (fun a=>f a+g a) k=sumTo f k+sumTo g k:=by
  induction k with
  | zero=>rfl
  | succ k ih=>simp only [sumTo];rw [ih];omega
theorem sum_chi {E F:Nat→Nat}{k:Nat}:∀ {m:Nat},(∀ x y,x<y→y<m→E x<E y)→(∀ x,x<m→E x<k)→sumTo (fun a=>chiP E m a*F a) k=sumTo (fun x=>F (E x)) m
  | 0, _, _ => by
    have:∀ q,sumTo (fun a=>chiP E 0 a*F a) q=0:=by
      intro q
      induction q with
      | zero=>rfl
      | succ q ih=>simp only [sumTo];rw [ih,chiP_0,Nat.zero_mul]
    exact this k
  | m + 1, h1, h2 => by
    have hn:=chiP_new (E:=E) (m:=m) fun x hx=>Nat.ne_of_lt (h1 x m hx (by omega));have e:∀ a,a<k→chiP E (m+1) a*F a=chiP E m a*F a+(if a=E m then 1 else 0)*F a:=fun a _=>by
      rw [chiP_s]
      by_cases q:a=E m
      · subst q;rw [if_pos rfl,if_pos rfl,hn];omega
      · rw [if_neg q,if_neg q];omega
    rw [sumTo_congr' e,sumTo_add,sum_chi (fun x y hx hy=>h1 x y hx (by omega)) (fun x hx=>h2 x (by omega)),sumTo_pick (h2 m (by omega))]
    rfl
def dA (M:Nat→Nat→Nat) (n k a b:Nat):Nat:=if M a b=eC M n k 0 then 1 else 0
def cA (M:Nat→Nat→Nat) (n i j k:Nat):Nat:=sumTo (fun x=>sumTo (fun y=>dA M n k (eC M n i x) (eC M n j y)) (sC M n j)) (sC M n i)
def cAp (M:Nat→Nat→Nat) (n i j k x y:Nat):Nat:=sumTo (fun x=>sumTo (fun y=>dA M n k (eC M n i x) (eC M n j y)) (sC M n j)) x+sumTo (fun y=>dA M n k (eC M n i x) (eC M n j y)) y
theorem eC_up {i x y:Nat}(h:x<y)(hy:y<sC M n i):eC M n i x<eC M n i y:=asc_lt h hy
theorem cA_prod {i j k:Nat}:prodI (gT n M) (chiP (eC M n i) (sC M n i)) (chiP (eC M n j) (sC M n j)) n n (eC M n k 0)=cA M n i j k:=by
  unfold prodI cA
  have e:∀ a,a<n→sumTo (fun b=>chiP (eC M n i) (sC M n i) a*chiP (eC M n j) (sC M n j) b*gT n M a b (eC M n k 0)) n=chiP (eC M n i) (sC M n i) a*sumTo (fun y=>dA M n k a (eC M n j y)) (sC M n j):=fun a ha=>by
    have e2:∀ b,b<n→chiP (eC M n i) (sC M n i) a*chiP (eC M n j) (sC M n j) b*gT n M a b (eC M n k 0)=chiP (eC M n j) (sC M n j) b*(chiP (eC M n i) (sC M n i) a*dA M n k a b):=fun b hb=>by
      have e3:gT n M a b (eC M n k 0)=dA M n k a b:=by
        unfold gT dA
        by_cases q:M a b=eC M n k 0
        · rw [if_pos q,if_pos ⟨ha,hb,q.symm⟩]
        · rw [if_neg q,if_neg (fun z=>q z.2.2.symm)]
      rw [e3,Nat.mul_comm (chiP (eC M n i) (sC M n i) a),Nat.mul_assoc]
    rw [sumTo_congr' e2,sum_chi (E:=eC M n j) (F:=fun b=>chiP (eC M n i) (sC M n i) a*dA M n k a b) (fun x y h hy=>eC_up h hy) (fun x hx=>eC_lt hx)]
    generalize chiP (eC M n i) (sC M n i) a=c
    have:∀ m,sumTo (fun x=>c*dA M n k a (eC M n j x)) m=c*sumTo (fun y=>dA M n k a (eC M n j y)) m:=by
      intro m
      induction m with
      | zero=>simp [sumTo]
      | succ m ih=>simp only [sumTo];rw [ih,Nat.mul_add]
    exact this _
  rw [sumTo_congr' e,sum_chi (E:=eC M n i) (F:=fun a=>sumTo (fun y=>dA M n k a (eC M n j y)) (sC M n j)) (fun x y h hy=>eC_up h hy) (fun x hx=>eC_lt hx)]
def tCp (p n:Nat) (M:Nat→Nat→Nat) (a b c i j k:Nat):Nat:=if j<nC M n∧k<nC M n∧(i<a∨(i=a∧(j<b∨(j=b∧k<c)))) then cA M n i j k%p else 0
theorem tCp_0 {p i j k:Nat}:tCp p n M 0 0 0 i j k=0:=by unfold tCp;rw [if_neg (by omega)]
theorem tCp_k {p a b i j k:Nat}:tCp p n M a b (nC M n) i j k=tCp p n M a (b+1) 0 i j k:=by
  unfold tCp
  have e:(j<nC M n∧k<nC M n∧(i<a∨(i=a∧(j<b∨(j=b∧k<nC M n)))))=(j<nC M n∧k<nC M n∧(i<a∨(i=a∧(j<b+1∨(j=b+1∧k<0))))):=by apply propext;omega
  simp only [e]
theorem tCp_j {p a i j k:Nat}:tCp p n M a (nC M n) 0 i j k=tCp p n M (a+1) 0 0 i j k:=by
  unfold tCp
  have e:(j<nC M n∧k<nC M n∧(i<a∨(i=a∧(j<nC M n∨(j=nC M n∧k<0)))))=(j<nC M n∧k<nC M n∧(i<a+1∨(i=a+1∧(j<0∨(j=0∧k<0))))):=by apply propext;omega
  simp only [e]
theorem tCp_step {p a b c i j k v:Nat}(hb:b<nC M n)(hc:c<nC M n)(hv:v=cA M n a b c%p):(if i=a∧j=b∧k=c then v else tCp p n M a b c i j k)=tCp p n M a b (c+1) i j k:=by
  unfold tCp
  by_cases e:i=a∧j=b∧k=c
  · obtain ⟨rfl,rfl,rfl⟩:=e
    rw [if_pos ⟨rfl,rfl,rfl⟩,if_pos (by omega),hv]
  · rw [if_neg e]
    have e:(j<nC M n∧k<nC M n∧(i<a∨(i=a∧(j<b∨(j=b∧k<c)))))=(j<nC M n∧k<nC M n∧(i<a∨(i=a∧(j<b∨(j=b∧k<c+1))))):=by apply propext;omega
    simp only [e]
end
end Go.Proofs.Ytklpefdaplchbaa
