import Derived.Test.YtnjdpgaofjbndaaJ1
import Derived.Test.YtnjdpgaofjbndaaSw65
set_option linter.unusedVariables false
set_option linter.unusedSimpArgs false
namespace Go.Proofs.Ytnjdpgaofjbndaa
open Go Go.RowKit Go.Sw Go.Ech
open Classical
theorem IsGroupI_out (n:Int)(M:Nat→Nat→Nat)(w:World)(ho:n<1∨6<n) :
    CallsR Try.prog 16 #[.agg (grpC n M)] w (fun res _=>res = .bool false):=by
  refine calls_fr [.agg (grpC n M)] Try.func16 rfl Try.ntmps16 rfl fun a hF=>?_;have hM:Mem w w [none] []:=MemX.start w 1;change Fr 26 a [(0,.agg (grpC n M))] at hF;refine sr<|stR hF (d_box 0 hM hF rfl) rfl ?_;rintro _ w' a ⟨b1,rfl,hM,-⟩ hF;change Mem w w' [some (b1,grpC n M)] [] at hM;refine ag hF rfl rfl fun a hF=>nt<|sq<|sr<|st hF (g_fieldAddr ty_fo_27_0 hF rfl) rfl fun a hF=>st hF (g_load ty_on_2 hF rfl (hM.row 0 rfl) (grpC_n (by omega))) rfl fun a hF=>st hF (g_lss hF rfl rfl) rfl fun a hF=>mv hF rfl rfl fun a hF=>?_
  by_cases g2:(n:Int)<1
  · first | rw [decide_eq_true g2] at hF | simp only [decide_eq_true g2] at hF
    refine stS hF rfl rfl rfl rfl rfl fun a hF=>stS hF rfl rfl rfl rfl rfl fun a hF=>stS hF rfl rfl rfl rfl rfl fun a hF=>st hF (g_pickT hF rfl rfl) rfl fun a hF=>mv hF rfl rfl fun a hF=>stS hF rfl rfl rfl rfl rfl fun a hF=>stS hF rfl rfl rfl rfl rfl fun a hF=>stS hF rfl rfl rfl rfl rfl fun a hF=>st hF (g_pickT hF rfl rfl) rfl fun a hF=>nt<|c_T hF rfl<|sr<|ag hF rfl rfl fun a hF=>nt<|wp_ret<|tR<|fin1 rfl hF.defers (res_tmp hF rfl) ⟨_,rfl,hM.below,?_⟩
    show _=_
    rfl
  first | rw [decide_eq_false g2] at hF | simp only [decide_eq_false g2] at hF
  refine stY hF rfl rfl rfl (g_fieldAddr ty_fo_27_0 hF rfl) rfl fun a hF=>stY hF rfl rfl rfl (g_load ty_on_2 hF rfl (hM.row 0 rfl) (grpC_n (by omega))) rfl fun a hF=>stY hF rfl rfl rfl (g_gtr hF rfl rfl) rfl fun a hF=>st hF (g_pickF hF rfl rfl) rfl fun a hF=>mv hF rfl rfl fun a hF=>?_
  by_cases g4:6<(n:Int)
  · first | rw [decide_eq_true g4] at hF | simp only [decide_eq_true g4] at hF
    refine stS hF rfl rfl rfl rfl rfl fun a hF=>stS hF rfl rfl rfl rfl rfl fun a hF=>stS hF rfl rfl rfl rfl rfl fun a hF=>st hF (g_pickT hF rfl rfl) rfl fun a hF=>nt<|c_T hF rfl<|sr<|ag hF rfl rfl fun a hF=>nt<|wp_ret<|tR<|fin1 rfl hF.defers (res_tmp hF rfl) ⟨_,rfl,hM.below,?_⟩
    show _=_
    rfl
  first | rw [decide_eq_false g4] at hF | simp only [decide_eq_false g4] at hF
  exfalso;omega
theorem l06Is_out (n:Int)(M:Nat→Nat→Nat)(w:World)(ho:n<1∨6<n) :
    CallsR Try.prog 19 #[.agg (grpC n M)] w (fun res _=>res = .bool false):=by
  refine calls_fr [.agg (grpC n M)] Try.func19 rfl Try.ntmps19 rfl fun a hF=>?_;have hM:Mem w w [none] []:=MemX.start w 1;change Fr 126 a [(0,.agg (grpC n M))] at hF;refine sr<|stR hF (d_box 0 hM hF rfl) rfl ?_;rintro _ w' a ⟨b1,rfl,hM,-⟩ hF;change Mem w w' [some (b1,grpC n M)] [] at hM;refine ag hF rfl rfl fun a hF=>ns<|st hF (g_fieldAddr ty_fo_27_0 hF rfl) rfl fun a hF=>st hF (g_load ty_on_2 hF rfl (hM.row 0 rfl) (grpC_n (by omega))) rfl fun a hF=>ag hF rfl rfl fun a hF=>nt<|sq<|sr<|mv hF rfl rfl fun a hF=>stR hF (d_call Try.call20 hF (.cons rfl (.cons rfl (.cons rfl .nil))) (l01In_ok (n) (1) (6) _)) rfl ?_;rintro _ w' a ⟨hx,rfl⟩ hF;have hM:=hM.ext hx;refine st hF (g_notP hF rfl) rfl fun a hF=>nt<|c_cond hF rfl (fun h2=>?_) (fun h2=>?_)
  · refine sq ?_
    refine wp_region_lit<|ag hF rfl rfl fun a hF=>nt<|wp_ret<|tR<|fin1 rfl hF.defers (res_tmp hF rfl) ⟨_,rfl,hM.below,?_⟩
    show _=_
    rfl
  exfalso;omega
theorem isG_I (n:Int)(M:Nat→Nat→Nat)(w:World)(hB:∀ i j,M i j≤255):CallsR Try.prog 16 #[.agg (grpC n M)] w (fun res _=>res = .bool (decide (GrpP n M))):=by
  by_cases ho:n<1∨6<n
  · exact CallsR.val (IsGroupI_out n M w ho) (congrArg Value.bool (decide_eq_false (fun h=>by have:=h.1;have:=h.2.1;omega)).symm)
  · have e:(n.toNat:Int)=n:=by omega
    have h:=IsGroupI_ok n.toNat M w (by omega) (by omega) hB;rw [e] at h;exact CallsR.val h (congrArg Value.bool (decide_eq_decide.2 ⟨fun q=>⟨by omega,by omega,q⟩,fun q=>q.2.2⟩))
theorem isG_S (n:Int)(M:Nat→Nat→Nat)(w:World)(hB:∀ i j,M i j≤255):CallsR Try.prog 19 #[.agg (grpC n M)] w (fun res _=>res = .bool (decide (GrpP n M))):=by
  by_cases ho:n<1∨6<n
  · exact CallsR.val (l06Is_out n M w ho) (congrArg Value.bool (decide_eq_false (fun h=>by have:=h.1;have:=h.2.1;omega)).symm)
  · have e:(n.toNat:Int)=n:=by omega
    have h:=l06Is_ok n.toNat M w (by omega) (by omega) hB;rw [e] at h;exact CallsR.val h (congrArg Value.bool (decide_eq_decide.2 ⟨fun q=>⟨by omega,by omega,q⟩,fun q=>q.2.2⟩))
theorem GrpP.mk {n:Nat}{M:Nat→Nat→Nat}(hn0:0<n)(hn:n≤6)(hG:TabP n M):GrpP (n:Int) M:=⟨by omega,by omega,hG⟩
theorem TabP.lt {n:Nat}{M:Nat→Nat→Nat}(h:TabP n M){i j:Nat}(hi:i<6)(hj:j<6):M i j<n:=(h.1 i hi j hj).1
theorem TabP.out {n:Nat}{M:Nat→Nat→Nat}(h:TabP n M){i j:Nat}(hi:i<6)(hj:j<6)(ho:n≤i∨n≤j):M i j=0:=(h.1 i hi j hj).2 (by omega)
def cmF (M:Nat→Nat→Nat) (i j:Nat):Nat:=if M i j=M j i then 1 else 0
def cpI (M:Nat→Nat→Nat) (n i j:Nat):Nat:=sumTo (fun a=>sumTo (fun b=>cmF M a b) n) i+sumTo (fun b=>cmF M i b) j
end Go.Proofs.Ytnjdpgaofjbndaa
namespace Go.Proofs.Ytnjdpgaofjbndaa
open Go Go.RowKit Go.Sw Go.Ech
open Classical
theorem ty_us_57:Try.prog.underlying 57=some (.slice 2):=by kernel_rfl
theorem ty_sl_57:sliceOf Try.prog 57=some 1:=by kernel_rfl
theorem ty_bf_50_17_412:∀ w,(Instr.build 50 #[(0,.int .i64 (1))]).run Try.prog w = .ok (.agg (fnC 6 (fun c=>.int .i64 (((if c=0 then 1 else 0):Nat):Int)))) w:=by intros;kernel_rfl
theorem ty_ze_50:zeroP Try.prog 50=some (.agg (fnC 6 (fun _=>.int .i64 (0)))):=by kernel_rfl
theorem ty_sz_50:sizeP Try.prog 50=some 6:=by kernel_rfl
theorem ty_ar_50:arrOf Try.prog 50=some (6,1):=by kernel_rfl
theorem ty_ag_50:aggP Try.prog 50=some 6:=by kernel_rfl
theorem sumTo_addf (f g:Nat→Nat):∀ n,sumTo (fun x=>f x+g x) n=sumTo f n+sumTo g n
  | 0=>rfl
  | n+1=>by simp only [sumTo,sumTo_addf f g n];omega
theorem sumTo_swap (f:Nat→Nat→Nat)(m:Nat):∀ n,sumTo (fun x=>sumTo (fun a=>f x a) n) m=sumTo (fun a=>sumTo (fun x=>f x a) m) n
  | 0 => by
    simp only [sumTo]
    induction m with
    | zero=>rfl
    | succ m ih=>simp only [sumTo,ih]
  | n+1=>by simp only [sumTo];rw [sumTo_addf,sumTo_swap f m n]
theorem sumTo_mono {f g:Nat→Nat}:∀ {n:Nat},(∀ x,x<n→f x≤g x)→sumTo f n≤sumTo g n
  | 0,_=>Nat.le_refl _
  | n+1,h=>Nat.add_le_add (sumTo_mono fun x hx=>h x (by omega)) (h n (by omega))
theorem sumTo_up {f:Nat→Nat}{m:Nat}:∀ {n:Nat},m≤n→sumTo f m≤sumTo f n
  | 0,h=>by rw [show m=0 by omega];exact Nat.le_refl _
  | n + 1, h => by
    by_cases e:m=n+1
    · rw [e];exact Nat.le_refl _
    · exact Nat.le_trans (sumTo_up (f:=f) (n:=n) (by omega)) (Nat.le_add_right _ _)
theorem le_sumTo {f:Nat→Nat}{x:Nat}:∀ {n:Nat},x<n→f x≤sumTo f n:=fun {n} h=>Nat.le_trans (Nat.le_add_left _ _) (sumTo_up (f:=f) (m:=x+1) (n:=n) h)
theorem sumTo_one (c d:Nat):∀ n,sumTo (fun x=>if c=x then d else 0) n≤d
  | 0=>Nat.zero_le _
  | n + 1 => by
    simp only [sumTo]
    by_cases e:c=n
    · have:sumTo (fun x=>if c=x then d else 0) n=0:=by
        have h:=sumTo_le (f:=fun x=>if c=x then d else 0) (c:=0) (m:=n) fun x hx=>by show (if c=x then d else 0)≤0;rw [if_neg (by omega)];exact Nat.le_refl _
        omega
      rw [this,if_pos e];omega
    · rw [if_neg e];exact sumTo_one c d n
theorem sumTo_cong {f g:Nat→Nat}:∀ {n:Nat},(∀ x,x<n→f x=g x)→sumTo f n=sumTo g n
  | 0,_=>rfl
  | n+1,h=>by simp only [sumTo];rw [sumTo_cong (f:=f) (g:=g) (n:=n) (fun x hx=>h x (by omega)),h n (by omega)]
theorem sumTo_mulr (f:Nat→Nat)(c:Nat):∀ n,sumTo (fun x=>f x*c) n=sumTo f n*c
  | 0=>by simp [sumTo]
  | n+1=>by simp only [sumTo,sumTo_mulr f c n,Nat.add_mul]
theorem sumTo_mull (f:Nat→Nat)(c:Nat):∀ n,sumTo (fun x=>c*f x) n=c*sumTo f n
  | 0=>by simp [sumTo]
  | n+1=>by simp only [sumTo,sumTo_mull f c n,Nat.mul_add]
def wA (F v:Nat→Nat→Nat) (n i j x:Nat):Nat:=sumTo (fun a=>sumTo (fun b=>if F a b=x then v a b else 0) n) i+sumTo (fun b=>if F i b=x then v i b else 0) j
theorem wA_row {F v:Nat→Nat→Nat}{n i x:Nat}:wA F v n i n x=wA F v n (i+1) 0 x:=by unfold wA;simp [sumTo]
theorem wA_0 {F v:Nat→Nat→Nat}{n x:Nat}:wA F v n 0 0 x=0:=by unfold wA;simp [sumTo]
theorem wA_step {F v:Nat→Nat→Nat}{n i j x:Nat}:(if x=F i j then wA F v n i j (F i j)+v i j else wA F v n i j x)=wA F v n i (j+1) x:=by
  unfold wA
  by_cases e:x=F i j
  · subst e;simp [sumTo];omega
  · rw [if_neg e];simp only [sumTo];rw [if_neg (show ¬ F i j=x from fun h=>e h.symm)];omega
theorem wA_sum (F v:Nat→Nat→Nat)(n i j m:Nat):sumTo (fun x=>wA F v n i j x) m≤sumTo (fun a=>sumTo (v a) n) i+sumTo (v i) j:=by
  unfold wA
  rw [sumTo_addf];refine Nat.add_le_add ?_ ?_
  · rw [sumTo_swap]
    refine sumTo_mono fun a _=>?_;rw [sumTo_swap];exact sumTo_mono fun b _=>sumTo_one _ _ _
  · rw [sumTo_swap]
    exact sumTo_mono fun b _=>sumTo_one _ _ _
theorem tot_le {v:Nat→Nat→Nat}{n i j:Nat}(hi:i<n)(hj:j≤n):sumTo (fun a=>sumTo (v a) n) i+sumTo (v i) j≤sumTo (fun a=>sumTo (v a) n) n:=
  Nat.le_trans (Nat.add_le_add_left (sumTo_up hj) _) (sumTo_up (f:=fun a=>sumTo (v a) n) (m:=i+1) hi)
theorem wA_le {F v:Nat→Nat→Nat}{n i j x:Nat}(hi:i<n)(hj:j≤n)(hx:x<n):wA F v n i j x≤sumTo (fun a=>sumTo (v a) n) n:=
  Nat.le_trans (le_sumTo (f:=fun x=>wA F v n i j x) hx) (Nat.le_trans (wA_sum F v n i j n) (tot_le hi hj))
theorem tot_mul (f g:Nat→Nat)(n:Nat):sumTo (fun a=>sumTo (fun b=>f a*g b) n) n=sumTo f n*sumTo g n:=by
  rw [← sumTo_mulr];exact sumTo_cong fun a _=>sumTo_mull g (f a) n
def wy (M:Nat→Nat→Nat) (n:Nat) (e:Nat→Nat):Nat→Nat→Nat
  | 0,x=>if x=0 then 1 else 0
  | k+1,x=>wA M (fun a b=>wy M n e k a*e b) n n 0 x
def comI (M:Nat→Nat→Nat) (n a b:Nat):Nat:=M (M a b) (M (lead (M a) n) (lead (M b) n))
def comS (M:Nat→Nat→Nat) (n a b:Nat):Nat:=M (M (M (M 0 a) b) (lead (M a) n)) (lead (M b) n)
theorem TabP.inv {n:Nat}{M:Nat→Nat→Nat}(h:TabP n M){i:Nat}(hi:i<n):lead (M i) n<n:=lead_lt (h.2.2.1 i hi)
def com (M:Nat→Nat→Nat) (n x:Nat):Nat:=wA (comI M n) (fun _ _=>1) n n 0 x
def foldM (M:Nat→Nat→Nat) (l:Nat→Nat):Nat→Nat
  | 0=>0
  | k+1=>M (foldM M l k) (l k)
theorem foldM_lt {M:Nat→Nat→Nat}{n:Nat}{l:Nat→Nat}(hn0:0<n)(hn:n≤6)(h:TabP n M):∀ m,(∀ i,i<m→l i<n)→foldM M l m<n
  | 0,_=>hn0
  | m + 1, hl => by
    have h1:=foldM_lt (l:=l) hn0 hn h m (fun i hi=>hl i (by omega))
    have h2:=hl m (by omega)
    exact h.lt (by omega) (by omega)
theorem l06Inverse_ok (n:Nat)(M:Nat→Nat→Nat)(i:Nat)(w:World)(hn0:0<n)(hn:n≤6)(hB:∀ i j,M i j≤255)(hG:TabP n M)(hi:i<n) :
    CallsR Try.prog 47 #[.agg (grpC (n:Int) M),.int .i64 (i:Int)] w (fun res _=>res = .int .i64 (lead (M i) n:Int)):=by
  refine calls_fr [.agg (grpC (n:Int) M),.int .i64 (i:Int)] Try.func47 rfl Try.ntmps47 rfl fun a hF=>?_;have hM:Mem w w [none] []:=MemX.start w 1;change Fr 20 a [(0,.agg (grpC (n:Int) M)),(1,.int .i64 (i:Int))] at hF;refine sr<|stR hF (d_box 0 hM hF rfl) rfl ?_;rintro _ w' a ⟨b1,rfl,hM,-⟩ hF;refine ag hF rfl rfl fun a hF=>nt<|sq<|sr<|ag hF rfl rfl fun a hF=>nt<|wp_block ?_;change Mem w _ [some (b1,grpC (n:Int) M)] [] at hM;refine c_loop (fun (kk:Nat) a w'=>kk≤n∧(∀ j,j<kk→M i j≠0)∧Fr 20 a [(1,.int .i64 (i:Int)),(2,ptr b1 (0)),(5,.int .i64 (kk:Int))]∧Mem w w' [some (b1,grpC (n:Int) M)] []) (fun kk=>n - kk) 0 ?_ ?_
  · refine ⟨by omega,fun i hi=>absurd hi (by omega),hF.sub _ (by repeat' constructor),?_⟩
    exact hM
  clear hF hM;rintro gj a w' ⟨hgj,hinv1,hF,hM⟩;have hbb:=hB i gj;refine sq<|sr<|mv hF rfl rfl fun a hF=>st hF (g_fieldAddr ty_fo_27_0 hF rfl) rfl fun a hF=>st hF (g_load ty_on_2 hF rfl (hM.row 0 rfl) (grpC_n (by omega))) rfl fun a hF=>st hF (g_lss hF rfl rfl) rfl fun a hF=>nt<|c_cond hF rfl (fun h2=>?_) (fun h2=>?_)
  · refine wp_skip ?_
    refine tN<|sq<|wp_block<|sr<|mv hF rfl rfl fun a hF=>mv hF rfl rfl fun a hF=>st hF (g_fieldAddr ty_fo_27_1 hF rfl) rfl fun a hF=>st hF (g_indexAddr ty_ar_25 hF rfl rfl rfl (by omega)) rfl fun a hF=>st hF (g_indexAddr ty_ar_24 hF rfl rfl rfl (by omega)) rfl fun a hF=>st hF (g_load ty_on_5 hF rfl (hM.row 0 rfl) (grpC_M (i) (gj) (by omega) (by omega) (by omega))) rfl fun a hF=>st hF (g_eql hF rfl rfl) rfl fun a hF=>nt<|c_cond hF rfl (fun h3=>?_) (fun h3=>?_)
    · refine sq ?_
      refine wp_region_lit<|mv hF rfl rfl fun a hF=>ag hF rfl rfl fun a hF=>nt<|wp_ret<|iR<|tR<|tR<|iR<|tR<|fin1 rfl hF.defers (res_tmp hF rfl) ⟨_,rfl,hM.below,?_⟩
      show _=_
      exact congrArg (Value.int .i64) (congrArg Nat.cast (lead_eq (j:=gj) (by omega) (by omega) hinv1).symm)
    refine wp_skip<|iN<|tN<|wp_region_lit<|mv hF rfl rfl fun a hF=>st hF (g_add hF rfl rfl (add_nat (gj) (1) (by omega))) rfl fun a hF=>ag hF rfl rfl fun a hF=>nt<|⟨gj+1,⟨by omega,allS hinv1 (by omega),hF.sub _ (by repeat' constructor),?_⟩,by omega⟩;exact hM
  obtain rfl:n=gj:=by omega
  refine wp_exit<|tX<|tX<|ib_same<|tN<|sr<|ag hF rfl rfl fun a hF=>nt<|wp_ret<|fin1 rfl hF.defers (res_tmp hF rfl) ⟨_,rfl,hM.below,?_⟩
  show _=_
  exfalso;have hz:=hG.inv (i:=i) (by omega);rw [lead_none hinv1] at hz;omega
theorem l06Times_ok (n:Nat)(M:Nat→Nat→Nat)(b m:Nat)(cs:Array Value)(l:Nat→Nat)(w:World)(hn0:0<n)(hn:n≤6)(hB:∀ i j,M i j≤255)(hG:TabP n M)(hb:Blk w b cs)(hg:∀ i,i<m→cs[0+i*1]? = some (.int .i64 (l i:Int)))(hm:m<10)(hl:∀ i,i<m→l i<n) :
    CallsR Try.prog 46 #[.agg (grpC (n:Int) M),.slice (some ⟨b,0,none⟩) m m] w (fun res _=>res = .int .i64 (foldM M l m:Int)):=by
  refine calls_fr [.agg (grpC (n:Int) M),.slice (some ⟨b,0,none⟩) m m] Try.func46 rfl Try.ntmps46 rfl fun a hF=>?_;have hM:Mem w w [none] [(b,cs)]:=MemX.startD w 1 _ (startD1 hb);change Fr 24 a [(0,.agg (grpC (n:Int) M)),(1,.slice (some ⟨b,0,none⟩) m m)] at hF;refine sr<|stR hF (d_box 0 hM hF rfl) rfl ?_;rintro _ w' a ⟨b1,rfl,hM,-⟩ hF;refine ag hF rfl rfl fun a hF=>ns<|ag hF rfl rfl fun a hF=>nt<|sq<|sr<|ag hF rfl rfl fun a hF=>nt<|wp_block ?_;change Mem w _ [some (b1,grpC (n:Int) M)] [(b,cs)] at hM;refine c_loop (fun (kk:Nat) a w'=>kk≤m∧(True)∧Fr 24 a [(1,.slice (some ⟨b,0,none⟩) m m),(2,ptr b1 (0)),(4,.int .i64 (0)),(6,.int .i64 (kk:Int)),(5,.int .i64 ((foldM M l kk:Int)))]∧Mem w w' [some (b1,grpC (n:Int) M)] [(b,cs)]) (fun kk=>m - kk) 0 ?_ ?_
  · refine ⟨by omega,trivial,hF.sub _ (by repeat' constructor),?_⟩
    exact hM
  clear hF hM;rintro gi a w' ⟨hgi,hinv1,hF,hM⟩;have hfl:=foldM_lt hn0 hn hG gi (fun i hi=>hl i (by omega));have hli:gi<m→l gi<n:=hl gi;have hbb:=hB (foldM M l gi) (l gi);refine sq<|sr<|mv hF rfl rfl fun a hF=>mv hF rfl rfl fun a hF=>st hF (g_len ty_us_57 hF rfl) rfl fun a hF=>st hF (g_lss hF rfl rfl) rfl fun a hF=>nt<|c_cond hF rfl (fun h2=>?_) (fun h2=>?_)
  · refine wp_skip ?_
    refine tN<|sq<|wp_block<|c_par 7 [] [.val (.int .i64 ((foldM M l gi:Int))),.val (.slice (some ⟨b,0,none⟩) m m),.val (.int .i64 (gi:Int)),.val (ptr b (0+(gi)*1)),.val (.int .i64 ((l (gi):Int))),.val (ptr b1 (0+1)),.val (ptr b1 (0+1+(foldM M l gi)*6))] hmix rfl hF rfl hM ⟨fun a w gG hF hS hd=>by exact pmv hS rfl hF rfl,fun a w gG hF hS hd=>by exact pmv hS rfl hF rfl,fun a w gG hF hS hd=>by exact pmv hS rfl hF rfl,fun a w gG hF hS hd=>by have hF:=hF.ext1 14 (hd 1 rfl rfl);have hF:=hF.ext1 15 (hd 2 rfl rfl);exact par_val hS rfl (g_indexSl (i:=gi) ty_sl_57 hF rfl rfl rfl (by omega)),fun a w gG hF hS hd=>by have hF:=hF.ext1 16 (hd 3 rfl rfl);have hM:=hS.mem rfl;exact par_val hS rfl (g_load ty_on_2 hF rfl (hM.fz 0 rfl) (hg (gi) (by omega))),fun a w gG hF hS hd=>by exact par_val hS rfl (g_fieldAddr ty_fo_27_1 hF rfl),fun a w gG hF hS hd=>by have hF:=hF.ext1 13 (hd 0 rfl rfl);have hF:=hF.ext1 18 (hd 5 rfl rfl);exact par_val hS rfl (g_indexAddr ty_ar_25 hF rfl rfl rfl (by omega)),trivial⟩ ?_;intro a w' L hF hS hq;have hF:=hF.ext1 13 (hq 0 rfl rfl);have hF:=hF.ext1 14 (hq 1 rfl rfl);have hF:=hF.ext1 15 (hq 2 rfl rfl);have hF:=hF.ext1 16 (hq 3 rfl rfl);have hF:=hF.ext1 17 (hq 4 rfl rfl);have hF:=hF.ext1 18 (hq 5 rfl rfl);have hF:=hF.ext1 19 (hq 6 rfl rfl);have hM:=hS.mem rfl;change wpList Try.prog _ _ [_,_,_,_] _ _;refine st hF (g_indexAddr ty_ar_24 hF rfl rfl rfl (by omega)) rfl fun a hF=>st hF (g_load ty_on_5 hF rfl (hM.row 0 rfl) (grpC_M (foldM M l gi) (l (gi)) (by omega) (by omega) (by omega))) rfl fun a hF=>st hF (g_conv ty_un_2 ty_ud_5 hF rfl (wrap_i64 (by omega) (by omega))) rfl fun a hF=>ag hF rfl rfl fun a hF=>wpList_nil<|iN<|tN<|wp_region_lit<|mv hF rfl rfl fun a hF=>st hF (g_add hF rfl rfl (add_nat (gi) (1) (by omega))) rfl fun a hF=>ag hF rfl rfl fun a hF=>nt<|⟨gi+1,⟨by omega,trivial,hF.sub _ (by repeat' constructor),?_⟩,by omega⟩;exact hM
  obtain rfl:m=gi:=by omega
  refine wp_exit<|tX<|tX<|ib_same<|tN<|sr<|mv hF rfl rfl fun a hF=>ag hF rfl rfl fun a hF=>nt<|wp_ret<|fin1 rfl hF.defers (res_tmp hF rfl) ⟨_,rfl,hM.below,?_⟩
  show _=_
  rfl
theorem l4_lt3 {n a b c:Nat}(ha:a<n)(hb:b<n)(hc:c<n):∀ i,i<3→l4 a b c 0 i<n:=fun i hi=>by
  obtain rfl | rfl | rfl:i=0∨i=1∨i=2:=by omega
  · exact ha
  · exact hb
  · exact hc
end Go.Proofs.Ytnjdpgaofjbndaa
