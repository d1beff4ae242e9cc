import Derived.Test.YtklpefdaplchbaaG12
import Derived.Test.YtklpefdaplchbaaSw14
import Derived.Test.YtklpefdaplchbaaEch3
import Derived.Test.YtklpefdaplchbaaSw19
set_option linter.unusedVariables false
set_option linter.unusedSimpArgs false
namespace Go.Proofs.Ytklpefdaplchbaa
open Go Go.RowKit Go.Sw Go.Ech
theorem leadN_row {p N k:Nat}{E:Nat→Nat→Nat}{ld:Nat→Nat}(h:Rref p N E k ld){i:Nat}(hi:i<k):leadN (fun c=>(E i c:Int)) N=ld i:=
  leadN_some (h.lt i hi) (fun c hc=>by rw [h.left i hi c hc];rfl) (by rw [h.one i hi];decide)
theorem leadN_spec {f:Nat→Int}{n:Nat}:(leadN f n<n∧f (leadN f n)≠0∧∀ i,i<leadN f n→f i=0)∨(leadN f n=n∧∀ i,i<n→f i=0):=by
  by_cases h:∃ k,k<n∧f k≠0
  · left
    have key:∀ m,m≤n→(∃ k,k<m∧f k≠0)→∃ k,k<m∧f k≠0∧∀ i,i<k→f i=0:=by
      intro m
      induction m with
      | zero=>rintro _ ⟨k,hk,_⟩;omega
      | succ m ih =>
        rintro hm ⟨k,hk,hf⟩
        by_cases h2:∃ k,k<m∧f k≠0
        · obtain ⟨k,h3,h4⟩:=ih (by omega) h2;exact ⟨k,by omega,h4⟩
        · refine ⟨k,hk,hf,fun i hi=>Classical.byContradiction fun h5=>h2 ⟨i,by omega,h5⟩⟩
    obtain ⟨k,h1,h2,h3⟩:=key n (Nat.le_refl _) h;rw [leadN_some h1 h3 h2];exact ⟨h1,h2,h3⟩
  · right
    have h0:∀ i,i<n→f i=0:=fun i hi=>Classical.byContradiction fun h5=>h ⟨i,hi,h5⟩;exact ⟨leadN_none h0,h0⟩
theorem invN_lt {x p:Nat}(hp:0<p):invN x p<p:=by
  unfold invN
  cases e:(List.range p).find? (fun c=>c*x%p == 1) with
  | none=>exact hp
  | some c=>have:=List.mem_of_find?_eq_some e;simpa using this
theorem invN_ok {x p:Nat}(hp:primeN p)(hx:x<p)(h0:x≠0):x*invN x p%p=1:=by
  have h:∀ q∈[2,3,5,7,11,13],∀ y,y<q→y≠0→y*invN y q%q=1:=by decide
  exact h p (by unfold primeN at hp;simp;omega) x hx h0
end Go.Proofs.Ytklpefdaplchbaa
namespace Go.Proofs.Ytklpefdaplchbaa
open Go Go.RowKit Go.Sw Go.Ech
def EchRel (w0:World) (L:Own) (p N m:Nat) (M:Nat→Nat→Nat) (u:Value) (w':World):Prop:=∃ k E ld,Rref p N E k ld∧(∀ x,Ker p N E k x↔Ker p N M m x)∧(∀ i c,E i c<p)∧k≤m∧RowsFr w0 L N k (fun i c=>.int .i64 (E i c:Int)) u w'
end Go.Proofs.Ytklpefdaplchbaa
namespace Go.Proofs.Ytklpefdaplchbaa
open Go Go.RowKit Go.Sw Go.Ech
theorem sumTo_sI (f:Nat→Nat)(n:Nat):(sumTo f n:Int)=sI (fun i=>(f i:Int)) n:=by
  induction n with
  | zero=>rfl
  | succ n ih=>simp only [sumTo,sI,Int.natCast_add,ih]
theorem prodI_left {n i c:Nat}{T:Nat→Nat→Nat→Nat}{x:Nat→Nat}(hi:i<n):(prodI T (fun c=>if c=i then 1 else 0) x n n c:Int)=sI (fun b=>(x b:Int)*(T i b c:Int)) n:=by
  unfold prodI
  rw [sumTo_sI,sI_one hi]
  · rw [sumTo_sI];exact sI_congr fun b _=>by simp
  · intro j _ hne;rw [sumTo_sI];exact sI_zero fun b _=>by simp [hne]
theorem dl_if {i c:Nat}:(if c=i then 1 else 0)=dl i c:=by unfold dl;by_cases h:i=c<;>simp [h];exact fun e=>absurd e.symm h
end Go.Proofs.Ytklpefdaplchbaa
namespace Go.Proofs.Ytklpefdaplchbaa
open Go Go.RowKit Go.Sw Go.Ech
theorem ty_us_97:Try.prog.underlying 97=some (.slice 22):=by kernel_rfl
theorem ty_sl_97:sliceOf Try.prog 97=some 1:=by kernel_rfl
theorem ty_on_22:oneP Try.prog 22=true:=by kernel_rfl
theorem ty_sz_22:sizeP Try.prog 22=some 1:=by kernel_rfl
theorem addN_self {p:Nat}{f:Nat→Nat}{v c:Nat}:addN p f f ((v:Int) - 1) c=f c*v%p:=by
  unfold addN
  rw [show (f c:Int)+((v:Int) - 1)*(f c:Int)=((f c*v:Nat):Int) by rw [Int.natCast_mul];grind,← Int.natCast_emod]
  rfl
theorem addN_neg {p:Nat}{f h:Nat→Nat}{k c:Nat}:addN p f h (-(k:Int)) c=lsM p f h k c:=by
  unfold addN lsM
  rw [show (f c:Int) + -(k:Int)*(h c:Int)=(f c:Int) - (k:Int)*(h c:Int) by grind]
def mixM (p:Nat) (M:Nat→Nat→Nat) (d t:Nat) (sc:Nat→Nat) (g i:Nat):Nat→Nat:=if i<g∧i≠d then lsM p (M i) sc (M i t) else if i=d then sc else M i
theorem mixM_zero {p d t:Nat}{M:Nat→Nat→Nat}{sc:Nat→Nat}(i:Nat):upE M d sc i=mixM p M d t sc 0 i:=by
  by_cases e:i=d<;>simp [upE,mixM,e]
theorem mixM_step {p d t g:Nat}{M:Nat→Nat→Nat}{sc:Nat→Nat}(hg:g≠d)(i:Nat):upE (mixM p M d t sc g) g (lsM p (M g) sc (M g t)) i=mixM p M d t sc (g+1) i:=by
  by_cases e:i=g
  · simp [upE,mixM,e,hg]
  · have e0:(i<g+1)=(i<g):=by apply propext;omega
    simp [upE,mixM,e,e0]
theorem mixM_skip {p d t:Nat}{M:Nat→Nat→Nat}{sc:Nat→Nat}(i:Nat):mixM p M d t sc d i=mixM p M d t sc (d+1) i:=by
  by_cases e:i=d
  · simp [mixM,e]
  · have e0:(i<d+1)=(i<d):=by apply propext;omega
    simp [mixM,e,e0]
theorem mixM_all {p d t m i:Nat}{M:Nat→Nat→Nat}{sc:Nat→Nat}(hi:i<m):mixM p M d t sc m i=elimM p M d t sc i:=by
  by_cases e:i=d<;>simp [mixM,elimM,e,hi]
theorem parS_val {P:Program}{o:Oper}{a:Act}{w:World}{S:Bool→World→Prop}{b:Bool}{v:Value}(hS:S b w)(hg:Gives P o a w v):Does P o a w (fun u w'=>S b w'∧u=v):=
  hg.mono fun _ _ ⟨h1,h2⟩=>⟨h2 ▸ hS,h1⟩
def vAt (l:List Value) (i:Nat) (v:Value):Prop:=v=l.getD i undef
theorem reduceRows_ok (p N m b0 c0:Nat)(cs0:Array Value)(γ:Nat→Nat)(M:Nat→Nat→Nat)(w:World)(hp:primeN p)(hN:0<N)(hN2:N<100)(hm2:m<1000)(hmc:m≤c0)(hM1:∀ i c,M i c<p)(hb0:Blk w b0 cs0)(hsz0:m≤cs0.size)(hg0:∀ i,i<m→cs0[0+i*1]? = some (.slice (some ⟨γ i,0,none⟩) N N))(hbr:∀ i,i<m→Blk w (γ i) (fnC N (fun c=>.int .u8 (M i c:Int))))(hinj:∀ i j,i<m→j<m→γ i=γ j→i=j)(hne0:∀ i,i<m→γ i≠b0) :
    CallsX Try.prog (rowsX b0 m γ) 61 #[.slice (some ⟨b0,0,none⟩) m c0,.int .i64 (p:Int)] w (fun u w'=>∃ (k:Nat) (M':Nat→Nat→Nat) (γ':Nat→Nat) (ld:Nat→Nat) (cs':Array Value),u = .slice (some ⟨b0,0,none⟩) k c0∧k≤m∧Rref p N M' k ld∧(∀ x,Ker p N M' k x↔Ker p N M m x)∧(∀ i c,M' i c<p)∧Blk w' b0 cs'∧(∀ i,i<m→cs'[0+i*1]? = some (.slice (some ⟨γ' i,0,none⟩) N N))∧(∀ i,i<m→Blk w' (γ' i) (fnC N (fun c=>.int .u8 (M' i c:Int))))∧(∀ i,i<m→w.heap.size≤γ' i∨γ' i∈rowsX b0 m γ)):=by
  refine calls_frX [.slice (some ⟨b0,0,none⟩) m c0,.int .i64 (p:Int)] Try.func61 rfl Try.ntmps61 rfl fun a hF=>?_;obtain ⟨hM,hRL0,hL0⟩:=MemX.startRows hb0 hbr hinj hne0;have hp2:=hp.two;have hp13:=hp.le;change Fr 97 a [(0,.slice (some ⟨b0,0,none⟩) m c0),(1,.int .i64 (p:Int))] at hF;refine sr<|ag hF rfl rfl fun a hF=>ns<|ag hF rfl rfl fun a hF=>nt<|sq<|wp_block ?_;change MemX (rowsX b0 m γ) w _ (rowsL0 b0 cs0 N m γ M) [] at hM;refine c_loop (fun (kk:Nat) a w'=>kk≤m∧∃ (L1:Own),∃ (γ1:Nat→Nat),∃ (pos1:Nat→Nat),∃ (M1:Nat→Nat→Nat),∃ (cs1:Array Value),∃ (ld:Nat→Nat),(L1[0]? = some (some (b0,cs1))∧m≤cs1.size∧(∀ i,i<m→cs1[0+i*1]? = some (.slice (some ⟨γ1 i,0,none⟩) N N))∧RowsL L1 N m γ1 pos1 M1∧Red p N m M1 kk ld∧(∀ x,Ker p N M1 m x↔Ker p N M m x)∧(∀ i c,M1 i c<p)∧(∀ i,i<m→w.heap.size≤γ1 i∨γ1 i∈(rowsX b0 m γ)))∧Fr 97 a [(0,.slice (some ⟨b0,0,none⟩) m c0),(1,.int .i64 (p:Int)),(4,.slice none 0 0),(5,.int .i64 (kk:Int))]∧MemX (rowsX b0 m γ) w w' L1 []) (fun kk=>m - kk) 0 ?_ ?_
  · refine ⟨by omega,(rowsL0 b0 cs0 N m γ M),γ,(fun i=>i+1),M,cs0,(fun _=>0),⟨hL0,hsz0,hg0,hRL0,Red.start,fun _=>Iff.rfl,hM1,fun i hi=>.inr (List.mem_cons_of_mem _ (List.mem_map.2 ⟨i,by simpa using hi,rfl⟩))⟩,hF.sub _ (by repeat' constructor),?_⟩
    exact hM
  clear hF hM;rintro gd a w' ⟨hgd,L1,γ1,pos1,M1,cs1,ld,⟨hL1,hsz1,hg1,hRL1,hRed1,hKer1,hM11,hgX1⟩,hF,hM⟩;refine sq<|sr<|mv hF rfl rfl fun a hF=>mv hF rfl rfl fun a hF=>st hF (g_len ty_us_97 hF rfl) rfl fun a hF=>st hF (g_lss hF rfl rfl) rfl fun a hF=>nt<|c_cond hF rfl (fun h1=>?_) (fun h1=>?_)
  · refine wp_skip ?_
    refine tN<|wp_block<|sr<|mv hF rfl rfl fun a hF=>ag hF rfl rfl fun a hF=>nt<|sq<|sr<|mv hF rfl rfl fun a hF=>ag hF rfl rfl fun a hF=>nt<|wp_block ?_;change MemX (rowsX b0 m γ) w _ L1 [] at hM;refine c_loop (fun (kk:Nat) a w'=>kk≤m∧∃ (nx:Nat),(gd≤kk∧gd≤nx∧nx<m∧∀ j,gd≤j→j<kk→leadN (fun c=>(M1 nx c:Int)) N≤leadN (fun c=>(M1 j c:Int)) N)∧Fr 97 a [(0,.slice (some ⟨b0,0,none⟩) m c0),(1,.int .i64 (p:Int)),(4,.slice none 0 0),(5,.int .i64 (gd:Int)),(12,.int .i64 (gd:Int)),(13,.slice (some ⟨b0,0,none⟩) m c0),(14,.int .i64 (m:Int)),(15,.bool (decide (((gd:Int):Int)<(m:Int)))),(16,.int .i64 (gd:Int)),(17,.int .i64 (gd:Int)),(7,.int .i64 (kk:Int)),(6,.int .i64 (nx:Int))]∧MemX (rowsX b0 m γ) w w' L1 []) (fun kk=>m - kk) gd ?_ ?_
    · refine ⟨by omega,gd,⟨Nat.le_refl _,Nat.le_refl _,by omega,fun j h1 h2=>absurd h2 (by omega)⟩,hF.sub _ (by repeat' constructor),?_⟩
      exact hM
    clear hF hM;rintro ga a w' ⟨hga,nx,⟨hga2,hnx1,hnx2,hmn⟩,hF,hM⟩;refine sq<|sr<|mv hF rfl rfl fun a hF=>mv hF rfl rfl fun a hF=>st hF (g_len ty_us_97 hF rfl) rfl fun a hF=>st hF (g_lss hF rfl rfl) rfl fun a hF=>nt<|c_cond hF rfl (fun h2=>?_) (fun h2=>?_)
    · refine wp_skip ?_
      refine tN<|sq<|wp_block<|sq<|c_par 9 [] [.val (.slice (some ⟨b0,0,none⟩) m c0),.val (.int .i64 (ga:Int)),.val (ptr b0 (0+(ga)*1)),.val (.slice (some ⟨γ1 (ga),0,none⟩) N N),.val (.int .i64 (((leadN (fun c=>(M1 (ga) c:Int)) N:Nat):Int))),.val (.slice (some ⟨b0,0,none⟩) m c0),.val (.int .i64 (nx:Int)),.val (ptr b0 (0+(nx)*1)),.val (.slice (some ⟨γ1 (nx),0,none⟩) N N)] hmix rfl hF rfl hM ⟨fun a w gG hF hS hd=>by exact pmv hS rfl hF rfl,fun a w gG hF hS hd=>by exact pmv hS rfl hF rfl,fun a w gG hF hS hd=>by have hF:=hF.ext1 24 (hd 0 rfl rfl);have hF:=hF.ext1 25 (hd 1 rfl rfl);exact par_val hS rfl (g_indexSl (i:=ga) ty_sl_97 hF rfl rfl rfl (by omega)),fun a w gG hF hS hd=>by have hF:=hF.ext1 26 (hd 2 rfl rfl);have hM:=hS.mem rfl;exact par_val hS rfl (g_load ty_on_22 hF rfl (hM.row 0 hL1) (hg1 (ga) (by omega))),fun a w gG hF hS hd=>by have hF:=hF.ext1 27 (hd 3 rfl rfl);have hM:=hS.mem rfl;exact par_call (by repeat constructor) hS rfl (d_call Try.call71 hF (.cons rfl .nil) (leadingPlace_ok (γ1 (ga)) 0 (N) N _ (M1 (ga)) _ (hM.row _ (hRL1.at_ (ga) (by omega))) (fun i hi=>fnC_getE i (by omega) hi rfl) (by omega))),fun a w gG hF hS hd=>by exact pmv hS rfl hF rfl,fun a w gG hF hS hd=>by exact pmv hS rfl hF rfl,fun a w gG hF hS hd=>by have hF:=hF.ext1 29 (hd 5 rfl rfl);have hF:=hF.ext1 30 (hd 6 rfl rfl);exact par_val hS rfl (g_indexSl (i:=nx) ty_sl_97 hF rfl rfl rfl (by omega)),fun a w gG hF hS hd=>by have hF:=hF.ext1 31 (hd 7 rfl rfl);have hM:=hS.mem rfl;exact par_val hS rfl (g_load ty_on_22 hF rfl (hM.row 0 hL1) (hg1 (nx) (by omega))),trivial⟩ ?_;intro a w' L hF hS hq;have hF:=hF.ext1 24 (hq 0 rfl rfl);have hF:=hF.ext1 25 (hq 1 rfl rfl);have hF:=hF.ext1 26 (hq 2 rfl rfl);have hF:=hF.ext1 27 (hq 3 rfl rfl);have hF:=hF.ext1 28 (hq 4 rfl rfl);have hF:=hF.ext1 29 (hq 5 rfl rfl);have hF:=hF.ext1 30 (hq 6 rfl rfl);have hF:=hF.ext1 31 (hq 7 rfl rfl);have hF:=hF.ext1 32 (hq 8 rfl rfl);have hM:=hS.mem rfl;change wpList Try.prog _ _ [_,_] _ _;refine stR hF (d_call Try.call71 hF (.cons rfl .nil) (leadingPlace_ok (γ1 (nx)) 0 (N) N _ (M1 (nx)) _ (hM.row _ (hRL1.at_ (nx) (by omega))) (fun i hi=>fnC_getE i (by omega) hi rfl) (by omega))) rfl ?_;rintro _ w' a ⟨hx,rfl⟩ hF;have hM:=hM.ext hx;refine st hF (g_lss hF rfl rfl) rfl fun a hF=>nt<|c_cond hF rfl (fun h3=>?_) (fun h3=>?_)
      · refine wp_region_lit ?_
        refine mv hF rfl rfl fun a hF=>ag hF rfl rfl fun a hF=>wpList_nil<|iN<|tN<|wp_region_lit<|mv hF rfl rfl fun a hF=>st hF (g_add hF rfl rfl (add_nat (ga) (1) (by omega))) rfl fun a hF=>ag hF rfl rfl fun a hF=>nt<|⟨ga+1,⟨by omega,ga,⟨by omega,by omega,by omega,fun j h1 h2=>by by_cases e:j=ga;(rw [e];exact Nat.le_refl _);(have:=hmn j h1 (by omega);omega)⟩,hF.sub _ (by repeat' constructor),?_⟩,by omega⟩;exact hM
      refine wp_skip<|iN<|tN<|wp_region_lit<|mv hF rfl rfl fun a hF=>st hF (g_add hF rfl rfl (add_nat (ga) (1) (by omega))) rfl fun a hF=>ag hF rfl rfl fun a hF=>nt<|⟨ga+1,⟨by omega,nx,⟨by omega,by omega,by omega,fun j h1 h2=>by by_cases e:j=ga;(rw [e];omega);(exact hmn j h1 (by omega))⟩,hF.sub _ (by repeat' constructor),?_⟩,by omega⟩;exact hM
    obtain rfl:m=ga:=by omega
    refine wp_exit<|tX<|tX<|ib_same<|tN<|sq ?_;have hF:=hF.sub [(0,.slice (some ⟨b0,0,none⟩) m c0),(1,.int .i64 (p:Int)),(4,.slice none 0 0),(5,.int .i64 (gd:Int)),(6,.int .i64 (nx:Int))] (by repeat' constructor);refine c_drawS (S:=fun (b:Bool) w2=>MemX (rowsX b0 m γ) w w2 (if b then L1.set 0 (some (b0,(cs1.setIfInBounds (0+(gd)*1) (.slice (some ⟨γ1 (nx),0,none⟩) N N)))) else L1) []) 14 13 hmix rfl rfl rfl hF rfl (fun j o hj hne=>dstAll_spec (s:=13) (i:=0) rfl j o hj (by omega)) hM (fun b w h=>h.ext (Below.drew (Below.refl _ _))) (vAt [.slice (some ⟨b0,0,none⟩) m c0,.int .i64 (gd:Int),.slice (some ⟨b0,0,none⟩) m c0,.int .i64 (nx:Int),.slice (some ⟨b0,0,none⟩) m c0,.int .i64 (nx:Int),ptr b0 (0+(nx)*1),.slice (some ⟨γ1 (nx),0,none⟩) N N,.slice (some ⟨b0,0,none⟩) m c0,.int .i64 (gd:Int),ptr b0 (0+(gd)*1),.slice (some ⟨γ1 (gd),0,none⟩) N N,ptr b0 (0+(gd)*1),undef]) ⟨fun a w2 b hF hS hb hd=>by exact parS_val (S:=fun (b:Bool) w2=>MemX (rowsX b0 m γ) w w2 (if b then L1.set 0 (some (b0,(cs1.setIfInBounds (0+(gd)*1) (.slice (some ⟨γ1 (nx),0,none⟩) N N)))) else L1) []) hS (g_move hF rfl),fun a w2 b hF hS hb hd=>by exact parS_val (S:=fun (b:Bool) w2=>MemX (rowsX b0 m γ) w w2 (if b then L1.set 0 (some (b0,(cs1.setIfInBounds (0+(gd)*1) (.slice (some ⟨γ1 (nx),0,none⟩) N N)))) else L1) []) hS (g_move hF rfl),fun a w2 b hF hS hb hd=>by exact parS_val (S:=fun (b:Bool) w2=>MemX (rowsX b0 m γ) w w2 (if b then L1.set 0 (some (b0,(cs1.setIfInBounds (0+(gd)*1) (.slice (some ⟨γ1 (nx),0,none⟩) N N)))) else L1) []) hS (g_move hF rfl),fun a w2 b hF hS hb hd=>by exact parS_val (S:=fun (b:Bool) w2=>MemX (rowsX b0 m γ) w w2 (if b then L1.set 0 (some (b0,(cs1.setIfInBounds (0+(gd)*1) (.slice (some ⟨γ1 (nx),0,none⟩) N N)))) else L1) []) hS (g_move hF rfl),fun a w2 b hF hS hb hd=>by exact parS_val (S:=fun (b:Bool) w2=>MemX (rowsX b0 m γ) w w2 (if b then L1.set 0 (some (b0,(cs1.setIfInBounds (0+(gd)*1) (.slice (some ⟨γ1 (nx),0,none⟩) N N)))) else L1) []) hS (g_move hF rfl),fun a w2 b hF hS hb hd=>by exact parS_val (S:=fun (b:Bool) w2=>MemX (rowsX b0 m γ) w w2 (if b then L1.set 0 (some (b0,(cs1.setIfInBounds (0+(gd)*1) (.slice (some ⟨γ1 (nx),0,none⟩) N N)))) else L1) []) hS (g_move hF rfl),fun a w2 b hF hS hb hd=>by have hF:=hF.ext1 40 (hd 4 rfl rfl rfl);have hF:=hF.ext1 41 (hd 5 rfl rfl rfl);exact parS_val (S:=fun (b:Bool) w2=>MemX (rowsX b0 m γ) w w2 (if b then L1.set 0 (some (b0,(cs1.setIfInBounds (0+(gd)*1) (.slice (some ⟨γ1 (nx),0,none⟩) N N)))) else L1) []) hS (g_indexSl (i:=nx) ty_sl_97 hF rfl rfl rfl (by omega)),fun a w2 b hF hS hb hd=>by have hF:=hF.ext1 42 (hd 6 rfl rfl rfl);obtain rfl:=hb rfl;have hM:MemX (rowsX b0 m γ) w w2 L1 []:=hS;exact parS_val (S:=fun (b:Bool) w2=>MemX (rowsX b0 m γ) w w2 (if b then L1.set 0 (some (b0,(cs1.setIfInBounds (0+(gd)*1) (.slice (some ⟨γ1 (nx),0,none⟩) N N)))) else L1) []) (b:=false) hS (g_load ty_on_22 hF rfl (hM.row 0 hL1) (hg1 (nx) (by omega))),fun a w2 b hF hS hb hd=>by exact parS_val (S:=fun (b:Bool) w2=>MemX (rowsX b0 m γ) w w2 (if b then L1.set 0 (some (b0,(cs1.setIfInBounds (0+(gd)*1) (.slice (some ⟨γ1 (nx),0,none⟩) N N)))) else L1) []) hS (g_move hF rfl),fun a w2 b hF hS hb hd=>by exact parS_val (S:=fun (b:Bool) w2=>MemX (rowsX b0 m γ) w w2 (if b then L1.set 0 (some (b0,(cs1.setIfInBounds (0+(gd)*1) (.slice (some ⟨γ1 (nx),0,none⟩) N N)))) else L1) []) hS (g_move hF rfl),fun a w2 b hF hS hb hd=>by have hF:=hF.ext1 44 (hd 8 rfl rfl rfl);have hF:=hF.ext1 45 (hd 9 rfl rfl rfl);exact parS_val (S:=fun (b:Bool) w2=>MemX (rowsX b0 m γ) w w2 (if b then L1.set 0 (some (b0,(cs1.setIfInBounds (0+(gd)*1) (.slice (some ⟨γ1 (nx),0,none⟩) N N)))) else L1) []) hS (g_indexSl (i:=gd) ty_sl_97 hF rfl rfl rfl (by omega)),fun a w2 b hF hS hb hd=>by have hF:=hF.ext1 46 (hd 10 rfl rfl rfl);obtain rfl:=hb rfl;have hM:MemX (rowsX b0 m γ) w w2 L1 []:=hS;exact parS_val (S:=fun (b:Bool) w2=>MemX (rowsX b0 m γ) w w2 (if b then L1.set 0 (some (b0,(cs1.setIfInBounds (0+(gd)*1) (.slice (some ⟨γ1 (nx),0,none⟩) N N)))) else L1) []) (b:=false) hS (g_load ty_on_22 hF rfl (hM.row 0 hL1) (hg1 (gd) (by omega))),fun a w2 b hF hS hb hd=>by have hF:=hF.ext1 36 (hd 0 rfl rfl rfl);have hF:=hF.ext1 37 (hd 1 rfl rfl rfl);exact parS_val (S:=fun (b:Bool) w2=>MemX (rowsX b0 m γ) w w2 (if b then L1.set 0 (some (b0,(cs1.setIfInBounds (0+(gd)*1) (.slice (some ⟨γ1 (nx),0,none⟩) N N)))) else L1) []) hS (g_indexSl (i:=gd) ty_sl_97 hF rfl rfl rfl (by omega)),fun a w2 hF hS hd=>by have hF:=hF.ext1 43 (hd 7 rfl rfl rfl);have hF:=hF.ext1 48 (hd 12 rfl rfl rfl);have hM:MemX (rowsX b0 m γ) w w2 L1 []:=hS;exact d_store 0 hM hL1 ty_on_22 hF rfl rfl rfl (by omega),trivial⟩ ?_
    intro a w' hF hS hq;have hM:MemX (rowsX b0 m γ) w w' (L1.set 0 (some (b0,(cs1.setIfInBounds (0+(gd)*1) (.slice (some ⟨γ1 (nx),0,none⟩) N N))))) []:=hS;have hF:=hF.ext1 38 (hq 2 rfl rfl rfl);have hF:=hF.ext1 39 (hq 3 rfl rfl rfl);have hF:=hF.ext1 47 (hq 11 rfl rfl rfl);change wpList Try.prog _ _ [_,_] _ _;refine st hF (g_indexSl ty_sl_97 hF rfl rfl rfl (by omega)) rfl fun a hF=>stN hF (d_store 0 hM (by rw [List.getElem?_set,if_pos rfl,if_pos (List.getElem?_eq_some_iff.1 hL1).1]) ty_on_22 hF rfl rfl rfl (by rw [Array.size_setIfInBounds];omega)) ?_;intro _ w' a hM hF;have hM:MemX (rowsX b0 m γ) w w' ((L1.set 0 (some (b0,(cs1.setIfInBounds (0+(gd)*1) (.slice (some ⟨γ1 (nx),0,none⟩) N N))))).set 0 (some (b0,((cs1.setIfInBounds (0+(gd)*1) (.slice (some ⟨γ1 (nx),0,none⟩) N N)).setIfInBounds (0+(nx)*1) (.slice (some ⟨γ1 (gd),0,none⟩) N N))))) []:=hM;obtain ⟨L2,γ2,pos2,M2,cs2,hM,hL2,hsz2,hg2,hRL2,hRed2,hKer2,hM21,hmin2,hgX2⟩:∃ (L2:Own) (γ2 pos2:Nat→Nat) (M2:Nat→Nat→Nat) (cs2:Array Value),MemX (rowsX b0 m γ) w w' L2 []∧L2[0]? = some (some (b0,cs2))∧m≤cs2.size∧(∀ i,i<m→cs2[0+i*1]? = some (.slice (some ⟨γ2 i,0,none⟩) N N))∧RowsL L2 N m γ2 pos2 M2∧Red p N m M2 gd ld∧(∀ x,Ker p N M2 m x↔Ker p N M m x)∧(∀ i c,M2 i c<p)∧(∀ j,gd≤j→j<m→leadN (fun c=>(M2 gd c:Int)) N≤leadN (fun c=>(M2 j c:Int)) N)∧(∀ i,i<m→w.heap.size≤γ2 i∨γ2 i∈(rowsX b0 m γ)):=by
      refine ⟨_,Go.Ech.sw gd nx γ1,Go.Ech.sw gd nx pos1,Go.Ech.sw gd nx M1,((cs1.setIfInBounds (0+(gd)*1) (.slice (some ⟨γ1 (nx),0,none⟩) N N)).setIfInBounds (0+(nx)*1) (.slice (some ⟨γ1 (gd),0,none⟩) N N)),hM,?_,?_,?_,((hRL1.swap (by omega) (by omega)).set0 _).set0 _,hRed1.swap (by omega) (by omega) (by omega) (by omega) (by omega),fun x=>(ker_swap (by omega) (by omega)).trans (hKer1 x),fun i c=>?_,fun j h1 h2=>?_,fun i hi=>?_⟩
      · rw [List.getElem?_set,if_pos rfl,if_pos (by rw [List.length_set];exact (List.getElem?_eq_some_iff.1 hL1).1)]
      · rw [Array.size_setIfInBounds,Array.size_setIfInBounds];exact hsz1
      · intro i hi
        rw [Array.getElem?_setIfInBounds,Array.size_setIfInBounds]
        unfold Go.Ech.sw
        by_cases e1:i=nx
        · rw [if_pos (by omega),if_pos (by omega)];by_cases e2:i=gd
          · rw [if_pos e2,show gd=nx by omega]
          · rw [if_neg e2,if_pos e1]
        · rw [if_neg (by omega),Array.getElem?_setIfInBounds];by_cases e2:i=gd
          · rw [if_pos (by omega),if_pos (by omega),if_pos e2]
          · rw [if_neg (by omega),if_neg e2,if_neg e1];exact hg1 i hi
      · unfold Go.Ech.sw;split;exact hM11 _ _;split;exact hM11 _ _;exact hM11 _ _
      · have ea:Go.Ech.sw gd nx M1 gd=M1 nx:=by simp [Go.Ech.sw]
        rw [ea]
        unfold Go.Ech.sw;split
        · exact Nat.le_refl _
        · split
          · exact hmn gd (Nat.le_refl _) (by omega)
          · exact hmn j h1 h2
      · unfold Go.Ech.sw;split;exact hgX1 _ (by omega);split;exact hgX1 _ (by omega);exact hgX1 _ hi
    have hF:=hF.sub [(0,.slice (some ⟨b0,0,none⟩) m c0),(1,.int .i64 (p:Int)),(4,.slice none 0 0),(5,.int .i64 (gd:Int))] (by repeat' constructor);refine ns<|mv hF rfl rfl fun a hF=>mv hF rfl rfl fun a hF=>st hF (g_indexSl (i:=gd) ty_sl_97 hF rfl rfl rfl (by omega)) rfl fun a hF=>st hF (g_load ty_on_22 hF rfl (hM.row 0 hL2) (hg2 (gd) (by omega))) rfl fun a hF=>ag hF rfl rfl fun a hF=>ns<|mv hF rfl rfl fun a hF=>stR hF (d_call Try.call71 hF (.cons rfl .nil) (leadingPlace_ok (γ2 (gd)) 0 (N) N _ (M2 (gd)) _ (hM.row _ (hRL2.at_ (gd) (by omega))) (fun i hi=>fnC_getE i (by omega) hi rfl) (by omega))) rfl ?_;rintro _ w' a ⟨hx,rfl⟩ hF;have hM:=hM.ext hx;refine ag hF rfl rfl fun a hF=>nt<|sq<|sr<|mv hF rfl rfl fun a hF=>mv hF rfl rfl fun a hF=>st hF (g_len ty_us_22 hF rfl) rfl fun a hF=>st hF (g_eql hF rfl rfl) rfl fun a hF=>nt<|c_cond hF rfl (fun h4=>?_) (fun h4=>?_)
    · have hz:∀ j,gd≤j→j<m→∀ c,c<N→M2 j c=0:=fun j h1 h2 c hc=>by
        have q:=hmin2 j h1 h2
        rcases leadN_spec (f:=fun c=>(M2 j c:Int)) (n:=N) with ⟨q1,q2,q3⟩ | ⟨q1,q2⟩
        · omega
        · have:=q2 c hc;omega
      refine wp_exit<|tX<|ib_other rfl<|tX<|ib_same<|tN<|sr<|mv hF rfl rfl fun a hF=>mv hF rfl rfl fun a hF=>st hF (g_sliceHi ty_us_97 ty_sz_22 hF rfl rfl rfl (by omega)) rfl fun a hF=>ag hF rfl rfl fun a hF=>nt<|wp_ret<|fin1 rfl hF.defers (res_tmp hF rfl) ⟨_,rfl,hM.bel,?_⟩;exact ⟨gd,M2,γ2,ld,cs2,rfl,by omega,hRed2.done hM21 (by omega),fun x=>(ker_cut (by omega) hz).trans (hKer2 x),hM21,hM.row 0 hL2,hg2,fun i hi=>hM.row _ (hRL2.at_ i hi),hgX2⟩
    obtain ⟨htN,ht0,htl⟩:leadN (fun c=>(M2 (gd) c:Int)) N<N∧M2 gd (leadN (fun c=>(M2 (gd) c:Int)) N)≠0∧∀ j,gd≤j→j<m→∀ c,c<leadN (fun c=>(M2 (gd) c:Int)) N→M2 j c=0:=by
      rcases leadN_spec (f:=fun c=>(M2 gd c:Int)) (n:=N) with ⟨q1,q2,q3⟩ | ⟨q1,q2⟩
      · refine ⟨q1,fun e=>q2 (by rw [e];rfl),fun j h1 h2 c hc=>?_⟩
        have q:=hmin2 j h1 h2
        rcases leadN_spec (f:=fun c=>(M2 j c:Int)) (n:=N) with ⟨r1,r2,r3⟩ | ⟨r1,r2⟩
        · have:=r3 c (by omega);omega
        · have:=r2 c (by omega);omega
      · omega
    clear h4
    generalize leadN (fun c=>(M2 (gd) c:Int)) N=t at hF htN ht0 htl
    have hinv:=invN_lt (x:=M2 gd t) (p:=p) (by omega);have hF:=hF.sub [(0,.slice (some ⟨b0,0,none⟩) m c0),(1,.int .i64 (p:Int)),(4,.slice none 0 0),(5,.int .i64 (gd:Int)),(50,.slice (some ⟨b0,0,none⟩) m c0),(51,.int .i64 (gd:Int)),(52,ptr b0 (0+(gd)*1)),(53,.slice (some ⟨γ2 (gd),0,none⟩) N N),(8,.slice (some ⟨γ2 (gd),0,none⟩) N N),(54,.slice (some ⟨γ2 (gd),0,none⟩) N N),(55,.int .i64 (t:Int)),(9,.int .i64 (t:Int)),(56,.int .i64 (t:Int)),(57,.slice (some ⟨γ2 (gd),0,none⟩) N N),(58,.int .i64 (N:Int))] (by repeat' constructor);refine wp_skip<|tN<|sr<|mv hF rfl rfl fun a hF=>mv hF rfl rfl fun a hF=>mv hF rfl rfl fun a hF=>mv hF rfl rfl fun a hF=>st hF (g_indexSl (i:=t) ty_sl_22 hF rfl rfl rfl (by omega)) rfl fun a hF=>st hF (g_load ty_on_5 hF rfl (hM.row _ (hRL2.at_ (gd) (by omega))) (fnC_getE (t) (by omega) (by omega) rfl)) rfl fun a hF=>mv hF rfl rfl fun a hF=>stR hF (d_call Try.call73 hF (.cons rfl (.cons rfl .nil)) (inverseNumber_ok (M2 (gd) (t)) (p) _ (by omega) (by omega) (by first | omega | exact Nat.le_of_lt (Nat.lt_of_lt_of_le (hM21 _ _) (by omega))))) rfl ?_;rintro _ w' a ⟨hx,rfl⟩ hF;have hM:=hM.ext hx;refine st hF (g_sub hF rfl rfl (wrap_i64 (by omega) (by omega))) rfl fun a hF=>mv hF rfl rfl fun a hF=>stR hF (d_callX Try.call72 hF (.cons rfl (.cons rfl (.cons rfl (.cons rfl .nil)))) (addRowSelf_ok p (γ2 gd) N N (M2 gd) ((((invN (M2 (gd) (t)) (p):Int) - 1)) ) _ (by omega) (by omega) (by omega) (by omega) (by omega) (fun i=>by have:=hM21 gd i;omega) (hM.row _ (hRL2.at_ (gd) (by omega))))) rfl ?_;rintro u w' a ⟨hx,rfl,hbk⟩ hF;obtain ⟨sc,hsc⟩:∃ sc:Nat→Nat,∀ c,sc c=M2 gd c*invN (M2 gd t) p%p:=⟨_,fun _=>rfl⟩;have hbk:Blk w' (γ2 gd) (fnC N (fun c=>.int .u8 (sc c:Int))):=by
      have e:sc=addN p (M2 gd) (M2 gd) ((invN (M2 gd t) p:Int) - 1):=funext fun c=>by rw [hsc,addN_self]
      rw [e];exact hbk
    obtain ⟨L3,hM,hRL3,hL3⟩:=hM.updRow hRL2 (by omega) hx sc hbk;rw [hL2] at hL3;refine nt<|sq<|sr<|mv hF rfl rfl fun a hF=>st hF (g_len ty_us_97 hF rfl) rfl fun a hF=>mv hF rfl rfl fun a hF=>nt<|wp_block ?_;change MemX (rowsX b0 m γ) w _ L3 [] at hM;refine c_loop (fun (kk:Nat) a w'=>kk≤m∧∃ (L4:Own),(L4[0]? = some (some (b0,cs2))∧RowsL L4 N m γ2 pos2 (mixM p M2 gd t sc kk))∧Fr 97 a [(0,.slice (some ⟨b0,0,none⟩) m c0),(1,.int .i64 (p:Int)),(4,.slice none 0 0),(5,.int .i64 (gd:Int)),(50,.slice (some ⟨b0,0,none⟩) m c0),(51,.int .i64 (gd:Int)),(52,ptr b0 (0+(gd)*1)),(53,.slice (some ⟨γ2 (gd),0,none⟩) N N),(8,.slice (some ⟨γ2 (gd),0,none⟩) N N),(54,.slice (some ⟨γ2 (gd),0,none⟩) N N),(55,.int .i64 (t:Int)),(9,.int .i64 (t:Int)),(56,.int .i64 (t:Int)),(57,.slice (some ⟨γ2 (gd),0,none⟩) N N),(58,.int .i64 (N:Int)),(60,.slice (some ⟨γ2 (gd),0,none⟩) N N),(61,.slice (some ⟨γ2 (gd),0,none⟩) N N),(62,.slice (some ⟨γ2 (gd),0,none⟩) N N),(63,.int .i64 (t:Int)),(64,ptr (γ2 (gd)) (0+(t)*1)),(65,.int .u8 ((M2 (gd) (t):Int))),(66,.int .i64 (p:Int)),(67,.int .i64 ((invN (M2 (gd) (t)) (p):Int))),(68,.int .i64 ((invN (M2 (gd) (t)) (p):Int) - 1)),(69,.int .i64 (p:Int)),(71,.slice (some ⟨b0,0,none⟩) m c0),(72,.int .i64 (m:Int)),(73,.int .i64 (kk:Int))]∧MemX (rowsX b0 m γ) w w' L4 []) (fun kk=>m - kk) 0 ?_ ?_
    · refine ⟨by omega,L3,⟨hL3,hRL3.congr (fun i _=>mixM_zero i)⟩,hF.sub _ (by repeat' constructor),?_⟩
      exact hM
    clear hF hM;rintro gr a w' ⟨hgr,L4,⟨hL4,hRL4⟩,hF,hM⟩;have hmx:∀ i c,mixM p M2 gd t sc gr i c<p:=fun i c=>by (unfold mixM;split;exact lsM_lt (by omega);split;(rw [hsc];exact Nat.mod_lt _ (by omega));exact hM21 i c)
    have hmt:=hmx gr t;refine sr<|st hF (g_lss hF rfl rfl) rfl fun a hF=>nt<|sq<|c_cond hF rfl (fun h5=>?_) (fun h5=>?_)
    · refine wp_skip ?_
      refine tN<|sq<|wp_block<|sr<|mv hF rfl rfl fun a hF=>st hF (g_indexSl (i:=gr) ty_sl_97 hF rfl rfl rfl (by omega)) rfl fun a hF=>st hF (g_load ty_on_22 hF rfl (hM.row 0 hL4) (hg2 (gr) (by omega))) rfl fun a hF=>ag hF rfl rfl fun a hF=>ag hF rfl rfl fun a hF=>ns<|mv hF rfl rfl fun a hF=>mv hF rfl rfl fun a hF=>st hF (g_neq hF rfl rfl) rfl fun a hF=>nt<|c_cond hF rfl (fun h6=>?_) (fun h6=>?_)
      · refine wp_region_lit ?_
        refine mv hF rfl rfl fun a hF=>mv hF rfl rfl fun a hF=>mv hF rfl rfl fun a hF=>mv hF rfl rfl fun a hF=>st hF (g_indexSl (i:=t) ty_sl_22 hF rfl rfl rfl (by omega)) rfl fun a hF=>st hF (g_load ty_on_5 hF rfl (hM.row _ (hRL4.at_ (gr) (by omega))) (fnC_getE (t) (by omega) (by omega) rfl)) rfl fun a hF=>st hF (g_conv ty_un_2 ty_ud_5 hF rfl (wrap_i64 (by omega) (by omega))) rfl fun a hF=>st hF (g_neg hF rfl (wrap_i64 (by have:=hmx gr t;omega) (by have:=hmx gr t;omega))) rfl fun a hF=>mv hF rfl rfl fun a hF=>stR hF (d_callX Try.call72 hF (.cons rfl (.cons rfl (.cons rfl (.cons rfl .nil)))) (addRow_ok p (γ2 gr) N (γ2 gd) 0 N N _ (mixM p M2 gd t sc gr gr) (mixM p M2 gd t sc gr gd) (-((((mixM p M2 gd t sc gr) (gr) (t):Nat):Int))) _ (by omega) (by omega) (by omega) (by omega) (by omega) (fun i=>by have:=hmx gr i;omega) (hM.row _ (hRL4.at_ (gr) (by omega))) (fun i=>by have:=hmx gd i;omega) (hRL4.apart hM (by omega) (by omega) (fun e=>by omega)) (hM.row _ (hRL4.at_ (gd) (by omega))) (fun i hi=>fnC_getE i (by omega) hi rfl))) rfl ?_;rintro u w' a ⟨hx,rfl,hbk⟩ hF;have hbk:Blk w' (γ2 gr) (fnC N (fun c=>.int .u8 (lsM p (M2 gr) sc (M2 gr t) c:Int))):=by
          have e1:mixM p M2 gd t sc gr gr=M2 gr:=by unfold mixM;rw [if_neg (by omega),if_neg (by omega)]
          have e2:mixM p M2 gd t sc gr gd=sc:=by unfold mixM;rw [if_neg (by omega),if_pos rfl]
          have e:lsM p (M2 gr) sc (M2 gr t)=addN p (mixM p M2 gd t sc gr gr) (mixM p M2 gd t sc gr gd) (-(mixM p M2 gd t sc gr gr t:Int)):=funext fun c=>by rw [addN_neg,e1,e2]
          rw [e];exact hbk
        obtain ⟨L5,hM,hRL5,hL5⟩:=hM.updRow hRL4 (by omega) hx _ hbk;rw [hL4] at hL5;change MemX (rowsX b0 m γ) w w' L5 [] at hM;refine wpList_nil<|iN<|tN<|wp_region_lit<|st hF (g_add hF rfl rfl (add_nat (gr) (1) (by omega))) rfl fun a hF=>mv hF rfl rfl fun a hF=>nt<|⟨gr+1,⟨by omega,L5,⟨hL5,hRL5.congr (fun i _=>mixM_step (by omega) i)⟩,hF.sub _ (by repeat' constructor),?_⟩,by omega⟩;exact hM
      refine wp_skip<|iN<|tN<|wp_region_lit<|st hF (g_add hF rfl rfl (add_nat (gr) (1) (by omega))) rfl fun a hF=>mv hF rfl rfl fun a hF=>nt<|⟨gr+1,⟨by omega,L4,⟨hL4,hRL4.congr (fun i _=>by have e:gr=gd:=(by omega);rw [e];exact mixM_skip i)⟩,hF.sub _ (by repeat' constructor),?_⟩,by omega⟩;exact hM
    obtain rfl:m=gr:=by omega
    refine wp_exit<|tX<|tX<|ib_same<|tN<|wp_region_lit<|mv hF rfl rfl fun a hF=>st hF (g_add hF rfl rfl (add_nat (gd) (1) (by omega))) rfl fun a hF=>ag hF rfl rfl fun a hF=>wpList_nil<|iN<|tN ?_;have h1v:=invN_ok hp (hM21 gd t) ht0;refine ⟨gd+1,⟨by omega,L4,γ2,pos2,(elimM p M2 gd t sc),cs2,(upE ld gd t),⟨hL4,hsz2,hg2,hRL4.congr (fun i hi=>mixM_all hi),hRed2.step (by omega) hM21 (by omega) htN ht0 htl hsc h1v,fun x=>(elim_ker (by omega) (by omega) hsc h1v).trans (hKer2 x),fun i c=>by (unfold elimM;split;(rw [hsc];exact Nat.mod_lt _ (by omega));exact lsM_lt (by omega)),hgX2⟩,hF.sub _ (by repeat' constructor),?_⟩,by omega⟩;exact hM
  obtain rfl:m=gd:=by omega
  refine wp_exit<|tX<|tX<|ib_same<|tN<|sr<|mv hF rfl rfl fun a hF=>mv hF rfl rfl fun a hF=>st hF (g_sliceHi ty_us_97 ty_sz_22 hF rfl rfl rfl (by omega)) rfl fun a hF=>ag hF rfl rfl fun a hF=>nt<|wp_ret<|fin1 rfl hF.defers (res_tmp hF rfl) ⟨_,rfl,hM.bel,?_⟩;exact ⟨m,M1,γ1,ld,cs1,rfl,Nat.le_refl _,hRed1.done hM11 (Nat.le_refl _),hKer1,hM11,hM.row 0 hL1,hg1,fun i hi=>hM.row _ (hRL1.at_ i hi),hgX1⟩
end Go.Proofs.Ytklpefdaplchbaa
namespace Go.Proofs.Ytklpefdaplchbaa
open Go Go.RowKit Go.Sw Go.Ech
theorem ty_mk_22_6:∀ w,(Instr.makeSlice 22 (.int .i64 ((6:Nat):Int)) (.int .i64 ((6:Nat):Int))).run Try.prog w = .ok (.slice (some ⟨w.heap.size,0,none⟩) 6 6) (w.alloc (.cells (fnC 6 (fun _=>.int .u8 (0))) 5)):=by intros;kernel_rfl
theorem leadingPlace_row {p N k:Nat}{E:Nat→Nat→Nat}{ld:Nat→Nat}{w:World}(b c:Nat){cs:Array Value}{i:Nat}(hb:Blk w b cs)(hg:∀ c,c<N→cs[0+c*1]? = some (.int .u8 (E i c:Int)))(hN:N<1000)(h:Rref p N E k ld)(hi:i<k) :
    CallsR Try.prog 71 #[.slice (some ⟨b,0,none⟩) N c] w (fun res _=>res = .int .i64 (ld i:Int)):=by
  have:=leadingPlace_ok b 0 c N cs (fun c=>E i c) w hb hg hN
  rwa [leadN_row h hi] at this
theorem solveRows_ok (p m b0 c0:Nat)(cs0:Array Value)(γ:Nat→Nat)(M:Nat→Nat→Nat)(w:World)(hp:primeN p)(hm2:m<1000)(hmc:m≤c0)(hM1:∀ i c,M i c<p)(hb0:Blk w b0 cs0)(hsz0:m≤cs0.size)(hg0:∀ i,i<m→cs0[0+i*1]? = some (.slice (some ⟨γ i,0,none⟩) 7 7))(hbr:∀ i,i<m→Blk w (γ i) (fnC 7 (fun c=>.int .u8 (M i c:Int))))(hinj:∀ i j,i<m→j<m→γ i=γ j→i=j)(hne0:∀ i,i<m→γ i≠b0) :
    CallsX Try.prog (rowsX b0 m γ) 76 #[.slice (some ⟨b0,0,none⟩) m c0,.int .i64 (p:Int)] w (fun u _=>∃ k E ld,Rref p 7 E k ld∧(∀ x,Ker p 7 E k x↔Ker p 7 M m x)∧(∀ i c,E i c<p)∧((¬ isLd k ld 6∧u = .tuple #[.agg (vecC (fun c=>solK E ld 6 k c)),.bool true])∨(isLd k ld 6∧u = .tuple #[.agg (vecC (fun _=>0)),.bool false]))):=by
  refine calls_frX [.slice (some ⟨b0,0,none⟩) m c0,.int .i64 (p:Int)] Try.func76 rfl Try.ntmps76 rfl fun a hF=>?_;have hp2:=hp.two;have hp13:=hp.le;have hM:MemX (rowsX b0 m γ) w w [none,none] (rowsD0 b0 cs0 7 m γ M):=MemX.startXD _ w 2 _ (rowsD0_all hb0 hbr);change Fr 34 a [(0,.slice (some ⟨b0,0,none⟩) m c0),(1,.int .i64 (p:Int))] at hF;refine sr<|stR hF (d_alloc 0 hM ty_ze_37) rfl ?_;rintro _ w' a ⟨b1,rfl,hM,-⟩ hF;refine ag hF rfl rfl fun a hF=>ns<|stR hF (d_makeC (len:=6) 1 hM hF rfl rfl ty_mk_22_6) rfl ?_;rintro _ w' a ⟨b2,rfl,hM,-⟩ hF;change MemX (rowsX b0 m γ) w w' [some (b1,fnC 6 (fun _=>.int .u8 (0))),some (b2,fnC 6 (fun _=>.int .u8 (0)))] (rowsD0 b0 cs0 7 m γ M) at hM;refine ag hF rfl rfl fun a hF=>nt<|sq<|sr<|mv hF rfl rfl fun a hF=>mv hF rfl rfl fun a hF=>stR hF (d_callX Try.call61 hF (.cons rfl (.cons rfl .nil)) (reduceRows_ok p 7 m b0 c0 cs0 γ M _ hp (by omega) (by omega) (by omega) hmc hM1 (hM.fzm rowsD0_0) hsz0 hg0 (fun i hi=>hM.fzm (rowsD0_i hi)) hinj hne0)) rfl ?_;rintro _ w' a ⟨hx,k,E,γ',ld,cs',rfl,hkm,hE,hKer,hE1,hb0',hg0',hbr',hgX'⟩ hF;have hM:=hM.swapD (D':=(rowsD0 b0 cs' 7 m γ' E)) hx rowsD0_Y (fun y hy=>.inr hy) (rowsD0_all ⟨hb0',.inr (List.mem_cons_self ..)⟩ (fun i hi=>⟨hbr' i hi,hgX' i hi⟩));refine st hF (g_len ty_us_97 hF rfl) rfl fun a hF=>mv hF rfl rfl fun a hF=>nt<|wp_block ?_;change MemX (rowsX b0 m γ) w _ [some (b1,fnC 6 (fun _=>.int .u8 (0))),some (b2,fnC 6 (fun _=>.int .u8 (0)))] (rowsD0 b0 cs' 7 m γ' E) at hM;refine c_loop (fun (kk:Nat) a w'=>kk≤k∧(∀ i,i<kk→ld i<6)∧Fr 34 a [(4,ptr b1 (0)),(6,.slice (some ⟨b2,0,none⟩) 6 6),(13,.slice (some ⟨b0,0,none⟩) k c0),(14,.int .i64 (k:Int)),(15,.int .i64 (kk:Int))]∧MemX (rowsX b0 m γ) w w' [some (b1,fnC 6 (fun _=>.int .u8 (0))),some (b2,fnC 6 (fun c=>.int .u8 ((solK E ld 6 kk c:Nat):Int)))] (rowsD0 b0 cs' 7 m γ' E)) (fun kk=>k - kk) 0 ?_ ?_
  · refine ⟨by omega,fun i hi=>absurd hi (by omega),hF.sub _ (by repeat' constructor),?_⟩
    exact hM.rowc 1 rfl (fnC_congr fun c hc=>by rw [solK_zero];rfl)
  clear hF hM;rintro gi a w' ⟨hgi,hinv1,hF,hM⟩;refine sr<|st hF (g_lss hF rfl rfl) rfl fun a hF=>nt<|sq<|c_cond hF rfl (fun h3=>?_) (fun h3=>?_)
  · refine wp_skip ?_
    refine tN<|sq<|wp_block<|sr<|st hF (g_indexSl (i:=gi) ty_sl_97 hF rfl rfl rfl (by omega)) rfl fun a hF=>st hF (g_load ty_on_22 hF rfl (hM.fzm rowsD0_0) (hg0' (gi) (by omega))) rfl fun a hF=>ag hF rfl rfl fun a hF=>nt<|sq ?_;have hlt:=hE.lt gi (by omega);refine wp_region_lit<|mv hF rfl rfl fun a hF=>stR hF (d_call Try.call71 hF (.cons rfl .nil) ((leadingPlace_row (γ' (gi)) (7) (hM.fzm (rowsD0_i (show gi<m by omega))) (fun i hi=>fnC_getE i (by omega) hi rfl) (by omega) hE (i:=gi) (by omega)))) rfl ?_;rintro _ w' a ⟨hx,rfl⟩ hF;have hM:=hM.ext hx;refine ag hF rfl rfl fun a hF=>nt<|sq<|sr<|mv hF rfl rfl fun a hF=>st hF (g_eql hF rfl rfl) rfl fun a hF=>nt<|c_cond hF rfl (fun h4=>?_) (fun h4=>?_)
    · refine sq ?_
      refine wp_region_lit<|st hF (g_build0 ty_bu_37) rfl fun a hF=>stN hF (d_storeAgg 0 hM rfl ty_sz_37 hF rfl rfl (by first | exact vecC_one | exact cells_one | (refine fnC_one fun _ _=>?_;first | rfl | (split<;>rfl))) (by simp only [sz0]) (by simp only [sz0]<;>omega) (splice_whole _ _ (by simp only [sz0]))) ?_;intro _ w' a hM hF;change MemX (rowsX b0 m γ) w w' [some (b1,fnC 6 (fun _=>.int .u8 (0))),some (b2,fnC 6 (fun c=>.int .u8 ((solK E ld 6 gi c:Nat):Int)))] (rowsD0 b0 cs' 7 m γ' E) at hM;refine ag hF rfl rfl fun a hF=>nt<|wp_ret<|tR<|iR<|tR<|tR<|iR<|tR<|fin2 rfl hF.defers (res_agg ty_ag_37 hF rfl (hM.row 0 rfl) (by simp only [sz0])) (res_tmp hF rfl) ⟨_,rfl,hM.bel,?_⟩;exact ⟨k,E,ld,hE,hKer,hE1,.inr ⟨⟨gi,by omega,by omega⟩,rfl⟩⟩
    refine wp_skip<|tN<|wp_region_lit<|mv hF rfl rfl fun a hF=>mv hF rfl rfl fun a hF=>mv hF rfl rfl fun a hF=>st hF (g_indexSl (i:=6) ty_sl_22 hF rfl rfl rfl (by omega)) rfl fun a hF=>st hF (g_load ty_on_5 hF rfl (hM.fzm (rowsD0_i (show gi<m by omega))) (fnC_getE (6) (by omega) (by omega) rfl)) rfl fun a hF=>st hF (g_indexSl (i:=ld (gi)) ty_sl_22 hF rfl rfl rfl (by omega)) rfl fun a hF=>stN hF (d_store 1 hM rfl ty_on_5 hF rfl rfl rfl (by first | omega | (simp only [sz0]<;>omega) | (simp only [Array.size_setIfInBounds];omega) | simp)) ?_;intro _ w' a hM hF;rw [show (fnC 6 (fun c=>.int .u8 ((solK E ld 6 gi c:Nat):Int))).setIfInBounds (0+(ld (gi))*1) (.int .u8 ((E (gi) (6):Int)))=fnC 6 (fun c=>.int .u8 (((if c=ld (gi) then E (gi) (6) else solK E ld 6 gi c):Nat):Int)) from fnC_set (fun c _=>by rw [show 0+(ld (gi))*1=ld (gi) by omega];by_cases hh:c=ld (gi)<;>simp [hh])] at hM;change MemX (rowsX b0 m γ) w w' [some (b1,fnC 6 (fun _=>.int .u8 (0))),some (b2,fnC 6 (fun c=>.int .u8 (((if c=ld (gi) then E (gi) (6) else solK E ld 6 gi c):Nat):Int)))] (rowsD0 b0 cs' 7 m γ' E) at hM;refine wpList_nil<|iN<|tN<|wp_region_lit<|st hF (g_add hF rfl rfl (add_nat (gi) (1) (by omega))) rfl fun a hF=>mv hF rfl rfl fun a hF=>nt<|⟨gi+1,⟨by omega,allS hinv1 (by omega),hF.sub _ (by repeat' constructor),?_⟩,by omega⟩;refine hM.rowc 1 rfl (fnC_congr fun c hc=>congrArg (Value.int .u8) (congrArg Nat.cast (solK_succ hE (by omega)).symm))
  obtain rfl:k=gi:=by omega
  refine wp_exit<|tX<|tX<|ib_same<|tN<|sr<|mv hF rfl rfl fun a hF=>st hF (g_toArr ty_ua_37 hF rfl (by omega)) rfl fun a hF=>st hF (g_loadAgg ty_ag_37 hF rfl (hM.row 1 rfl) (by simp only [sz0]<;>omega) (whole (by simp only [sz0]))) rfl fun a hF=>stN hF (d_storeAgg 0 hM rfl ty_sz_37 hF rfl rfl (by first | exact vecC_one | exact cells_one | (refine fnC_one fun _ _=>?_;first | rfl | (split<;>rfl))) (by simp only [sz0]) (by simp only [sz0]<;>omega) (splice_whole _ _ (by simp only [sz0]))) ?_;intro _ w' a hM hF;change MemX (rowsX b0 m γ) w w' [some (b1,fnC 6 (fun c=>.int .u8 ((solK E ld 6 k c:Nat):Int))),some (b2,fnC 6 (fun c=>.int .u8 ((solK E ld 6 k c:Nat):Int)))] (rowsD0 b0 cs' 7 m γ' E) at hM;refine ag hF rfl rfl fun a hF=>nt<|wp_ret<|fin2 rfl hF.defers (res_agg ty_ag_37 hF rfl (hM.row 0 rfl) (by simp only [sz0])) (res_tmp hF rfl) ⟨_,rfl,hM.bel,?_⟩;exact ⟨k,E,ld,hE,hKer,hE1,.inl ⟨fun ⟨i,hi,e⟩=>by have:=hinv1 i hi;omega,rfl⟩⟩
end Go.Proofs.Ytklpefdaplchbaa
