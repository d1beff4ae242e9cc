import Derived.Test.YtmlnjicajdbjlaaGreatDoorY5
import Derived.Test.YtmlnjicajdbjlaaGreatDoorSw52
set_option linter.unusedVariables false
set_option linter.unusedSimpArgs false
namespace Go.Proofs.YtmlnjicajdbjlaaGreatDoor
open Go Go.RowKit Go.Sw Go.Ech
open Classical
def kkE (p:Nat):Nat→Nat
  | 0=>p
  | e+1=>kkE p e*p
def nilE (p n:Nat):Nat:=if n≤p then 0 else if n≤p*p then 1 else 2
theorem nilE_le {p n:Nat}:nilE p n≤2:=by unfold nilE;split<;>(try split)<;>omega
theorem kk_fact:∀ p∈[2,3,5,7,11,13],∀ n,n<7→∀ g,g<3→g≤nilE p n→((kkE p g<n↔g<nilE p n)∧kkE p g≤25):=by decide
theorem kk_lt {p n g:Nat}(hp:primeN p)(hn:n≤6)(hg:g≤nilE p n):(kkE p g<n↔g<nilE p n)∧kkE p g≤25:=by
  have h2:=nilE_le (p:=p) (n:=n);exact kk_fact p (by unfold primeN at hp;simp;omega) n (by omega) g (by omega) hg
theorem kk_step {p g:Nat}:kkE p g*p=kkE p (g+1):=rfl
theorem eb_lt {p c:Nat}(hp:2≤p):∀ q,(fun q=>if q=c then 1 else 0:Nat→Nat) q<p:=fun q=>by dsimp only;split<;>omega
theorem eb_out {n c q:Nat}(hc:c<n)(h:n≤q):(fun q=>if q=c then 1 else 0:Nat→Nat) q=0:=by dsimp only;rw [if_neg (by omega)]
theorem powW_lt {p n:Nat}{T:Nat→Nat→Nat→Nat}{uu v:Nat→Nat}(hu:∀ c,uu c<p):∀ k c,powW (timesV p n T) uu v k c<p
  | 0,c=>hu c
  | k+1,c=>Nat.mod_lt _ (by have:=hu 0;omega)
def imP (p n:Nat) (T:Nat→Nat→Nat→Nat) (uu:Nat→Nat) (K:Nat) (c r:Nat):Nat:=powW (timesV p n T) uu (fun q=>if q=c then 1 else 0) K r
theorem imP_lt {p n:Nat}{T:Nat→Nat→Nat→Nat}{uu:Nat→Nat}{K:Nat}(hu:∀ c,uu c<p):∀ i c,imP p n T uu K i c<p:=fun i c=>powW_lt hu K c
theorem spE_zero {p n:Nat}{T:Nat→Nat→Nat→Nat}{uu:Nat→Nat}{K:Nat}(hu:∀ c,uu c<p)(r c:Nat):spE p n T uu K 0 r c=imP p n T uu K c r:=by
  have h:=imP_lt (p:=p) (n:=n) (T:=T) (uu:=uu) (K:=K) hu c r
  show addN p (imP p n T uu K c) _ (-((0:Nat):Int)) r=_
  unfold addN
  rw [show (-((0:Nat):Int))=0 by rfl,Int.zero_mul,Int.add_zero,Int.emod_eq_of_lt (by omega) (by omega)];exact Int.toNat_natCast _
theorem l05Nil_Y (p n:Nat)(T:Nat→Nat→Nat→Nat)(f:Nat→Nat)(w:World)(hp:primeN p)(hn0:0<n)(hn:n≤6)(hTp:∀ i j k,T i j k<p)(hT0:∀ i j k,n≤k→T i j k=0)(hf:∀ i,f i≤255)(uu:Nat→Nat)(huu:UnitI p n T uu)(hne:∀ k E ld,Rref p n E k ld→(∀ x,Ker p n E k x↔Ker p n (fun r c=>imP p n T uu (kkE p (nilE p n)) c r) n x)→0<nf k ld n)(hpos:∀ r V,IsKer p n (fun r c=>imP p n T uu (kkE p (nilE p n)) c r) n r V→0<r) :
    CallsR Tryz.prog 45 #[.agg (algC (p:Int) (n:Int) T f)] w (fun u w'=>∃ r V,IsKer p n (fun r c=>imP p n T uu (kkE p (nilE p n)) c r) n r V∧OwnSl 6 w r (fun c=>.int .u8 (((padN n V) (c / 6) (c%6):Nat):Int)) u w'):=by
  refine calls_fr [.agg (algC (p:Int) (n:Int) T f)] Tryz.func45 rfl Tryz.ntmps45 rfl fun a hF=>?_;have hM:Mem w w [none,none] []:=MemX.start w 2;change Fr 17 a [(0,.agg (algC (p:Int) (n:Int) T f))] at hF;have hp2:=hp.two;have hp13:=hp.le;have hT:∀ i j k,T i j k≤255:=fun i j k=>by have:=hTp i j k;omega
  have hp2:=hp.two;have hp13:=hp.le;refine sr<|stR hF (d_box 0 hM hF rfl) rfl ?_;rintro _ w' a ⟨b1,rfl,hM,-⟩ hF;change Mem w w' [some (b1,algC (p:Int) (n:Int) T f),none] [] at hM;refine ag hF rfl rfl fun a hF=>ns<|st hF (g_fieldAddr ty_fo_32_0 hF rfl) rfl fun a hF=>st hF (g_load ty_on_2 hF rfl (hM.row 0 rfl) (algC_p (by omega))) rfl fun a hF=>ag hF rfl rfl fun a hF=>nt<|sq<|wp_block ?_;change Mem w _ [some (b1,algC (p:Int) (n:Int) T f),none] [] at hM;refine c_loop (fun (kk:Nat) a w'=>kk≤(nilE p n)∧(True)∧Fr 17 a [(1,ptr b1 (0)),(2,.slice none 0 0),(3,.int .i64 ((kkE p kk:Int)))]∧Mem w w' [some (b1,algC (p:Int) (n:Int) T f),none] []) (fun kk=>(nilE p n) - kk) 0 ?_ ?_
  · refine ⟨by omega,trivial,hF.sub _ (by repeat' constructor),?_⟩
    exact hM
  clear hF hM;rintro gi a w' ⟨hgi,hinv1,hF,hM⟩;have hkl:=kk_lt (p:=p) (n:=n) (g:=gi) hp hn (by omega);have hE2:=nilE_le (p:=p) (n:=n);refine sq<|sr<|mv hF rfl rfl fun a hF=>st hF (g_fieldAddr ty_fo_32_1 hF rfl) rfl fun a hF=>st hF (g_load ty_on_2 hF rfl (hM.row 0 rfl) (algC_n (by omega))) rfl fun a hF=>st hF (g_lss hF rfl rfl) rfl fun a hF=>nt<|c_cond hF rfl (fun h2=>?_) (fun h2=>?_)
  · refine wp_skip ?_
    refine tN<|wp_block<|wp_region_lit<|mv hF rfl rfl fun a hF=>st hF (g_fieldAddr ty_fo_32_0 hF rfl) rfl fun a hF=>st hF (g_load ty_on_2 hF rfl (hM.row 0 rfl) (algC_p (by omega))) rfl fun a hF=>st hF (g_mul hF rfl rfl (show _=(kkE p (gi+1):Int) from (by rw [show ((kkE p gi:Int)*(p:Int))=((kkE p gi*p:Nat):Int) from (Int.natCast_mul _ _).symm,kk_step];have:=Nat.mul_le_mul hkl.2 hp13;have hks:=kk_step (p:=p) (g:=gi);exact wrap_i64 (by omega) (by omega)))) rfl fun a hF=>ag hF rfl rfl fun a hF=>wpList_nil<|iN<|tN<|⟨gi+1,⟨by omega,trivial,hF.sub _ (by repeat' constructor),?_⟩,by omega⟩;exact hM
  obtain rfl:(nilE p n)=gi:=by omega
  refine wp_exit<|tX<|tX<|ib_same<|tN<|sr<|st hF (g_loadAgg ty_ag_32 hF rfl (hM.row 0 rfl) (by simp only [sz0,dgC_size,numC_sz,ldB_size]<;>omega) (whole cells_size)) rfl fun a hF=>mv hF rfl rfl fun a hF=>?_;have hszc:=hM.bel.size;refine stR hF (d_call Tryz.call73 hF (.cons rfl (.cons rfl (.cons rfl .nil))) (l05Space_Y p n T f (kkE p (nilE p n)) 0 _ hp hn0 hn hTp hT0 hf uu huu (by have:=(kk_lt (p:=p) (n:=n) (g:=nilE p n) hp hn (Nat.le_refl _)).2;omega) (by omega) (fun k E ld h1 h2=>hne k E ld h1 (fun x=>(h2 x).trans (ker_same (fun i _ c _=>spE_zero huu.small i c)))) (fun r V h1=>hpos r V (isKer_same (fun i _ c _=>spE_zero huu.small i c) h1)))) rfl ?_;rintro u w' a ⟨hx,r,V,hIK,hown⟩ hF;have hown2:=ownSl_le hszc hown;have hM:=hM.ext hx;refine ag hF rfl rfl fun a hF=>nt<|wp_ret<|fin1 rfl hF.defers (res_tmp hF rfl) ⟨_,rfl,hM.below,?_⟩;exact ⟨r,V,isKer_same (fun i _ c _=>spE_zero huu.small i c) hIK,hown2⟩
theorem l05Nil_Z (p n:Nat)(T:Nat→Nat→Nat→Nat)(f:Nat→Nat)(w:World)(hp:primeN p)(hn0:0<n)(hn:n≤6)(hTp:∀ i j k,T i j k<p)(hT0:∀ i j k,n≤k→T i j k=0)(hf:∀ i,f i≤255)(uu:Nat→Nat)(huu:UnitI p n T uu)(hzk:∀ k E ld,Rref p n E k ld→(∀ x,Ker p n E k x↔Ker p n (fun r c=>imP p n T uu (kkE p (nilE p n)) c r) n x)→nf k ld n=0) :
    CallsR Tryz.prog 45 #[.agg (algC (p:Int) (n:Int) T f)] w (fun u w'=>∃ b,u = .slice (some ⟨b,0,none⟩) 0 0∧w.heap.size≤b∧Blk w' b #[]):=by
  refine calls_fr [.agg (algC (p:Int) (n:Int) T f)] Tryz.func45 rfl Tryz.ntmps45 rfl fun a hF=>?_;have hM:Mem w w [none,none] []:=MemX.start w 2;change Fr 17 a [(0,.agg (algC (p:Int) (n:Int) T f))] at hF;have hp2:=hp.two;have hp13:=hp.le;have hT:∀ i j k,T i j k≤255:=fun i j k=>by have:=hTp i j k;omega
  have hp2:=hp.two;have hp13:=hp.le;refine sr<|stR hF (d_box 0 hM hF rfl) rfl ?_;rintro _ w' a ⟨b1,rfl,hM,-⟩ hF;change Mem w w' [some (b1,algC (p:Int) (n:Int) T f),none] [] at hM;refine ag hF rfl rfl fun a hF=>ns<|st hF (g_fieldAddr ty_fo_32_0 hF rfl) rfl fun a hF=>st hF (g_load ty_on_2 hF rfl (hM.row 0 rfl) (algC_p (by omega))) rfl fun a hF=>ag hF rfl rfl fun a hF=>nt<|sq<|wp_block ?_;change Mem w _ [some (b1,algC (p:Int) (n:Int) T f),none] [] at hM;refine c_loop (fun (kk:Nat) a w'=>kk≤(nilE p n)∧(True)∧Fr 17 a [(1,ptr b1 (0)),(2,.slice none 0 0),(3,.int .i64 ((kkE p kk:Int)))]∧Mem w w' [some (b1,algC (p:Int) (n:Int) T f),none] []) (fun kk=>(nilE p n) - kk) 0 ?_ ?_
  · refine ⟨by omega,trivial,hF.sub _ (by repeat' constructor),?_⟩
    exact hM
  clear hF hM;rintro gi a w' ⟨hgi,hinv1,hF,hM⟩;have hkl:=kk_lt (p:=p) (n:=n) (g:=gi) hp hn (by omega);have hE2:=nilE_le (p:=p) (n:=n);refine sq<|sr<|mv hF rfl rfl fun a hF=>st hF (g_fieldAddr ty_fo_32_1 hF rfl) rfl fun a hF=>st hF (g_load ty_on_2 hF rfl (hM.row 0 rfl) (algC_n (by omega))) rfl fun a hF=>st hF (g_lss hF rfl rfl) rfl fun a hF=>nt<|c_cond hF rfl (fun h2=>?_) (fun h2=>?_)
  · refine wp_skip ?_
    refine tN<|wp_block<|wp_region_lit<|mv hF rfl rfl fun a hF=>st hF (g_fieldAddr ty_fo_32_0 hF rfl) rfl fun a hF=>st hF (g_load ty_on_2 hF rfl (hM.row 0 rfl) (algC_p (by omega))) rfl fun a hF=>st hF (g_mul hF rfl rfl (show _=(kkE p (gi+1):Int) from (by rw [show ((kkE p gi:Int)*(p:Int))=((kkE p gi*p:Nat):Int) from (Int.natCast_mul _ _).symm,kk_step];have:=Nat.mul_le_mul hkl.2 hp13;have hks:=kk_step (p:=p) (g:=gi);exact wrap_i64 (by omega) (by omega)))) rfl fun a hF=>ag hF rfl rfl fun a hF=>wpList_nil<|iN<|tN<|⟨gi+1,⟨by omega,trivial,hF.sub _ (by repeat' constructor),?_⟩,by omega⟩;exact hM
  obtain rfl:(nilE p n)=gi:=by omega
  refine wp_exit<|tX<|tX<|ib_same<|tN<|sr<|st hF (g_loadAgg ty_ag_32 hF rfl (hM.row 0 rfl) (by simp only [sz0,dgC_size,numC_sz,ldB_size]<;>omega) (whole cells_size)) rfl fun a hF=>mv hF rfl rfl fun a hF=>stR hF (d_call Tryz.call73 hF (.cons rfl (.cons rfl (.cons rfl .nil))) (l05Space_Z p n T f (kkE p (nilE p n)) 0 _ hp hn0 hn hTp hT0 hf uu huu (by have:=(kk_lt (p:=p) (n:=n) (g:=nilE p n) hp hn (Nat.le_refl _)).2;omega) (by omega) (fun k E ld h1 h2=>hzk k E ld h1 (fun x=>(h2 x).trans (ker_same (fun i _ c _=>spE_zero huu.small i c)))))) rfl ?_;rintro _ w' a ⟨hx,b3,rfl,hge,hbk⟩ hF;have hM:=hM.fill hx 1 hbk hge;change Mem w w' [some (b1,algC (p:Int) (n:Int) T f),some (b3,#[])] [] at hM;refine ag hF rfl rfl fun a hF=>nt<|wp_ret<|fin1 rfl hF.defers (res_tmp hF rfl) ⟨_,rfl,hM.below,?_⟩;exact ⟨_,rfl,hM.ge 1 rfl,hM.row 1 rfl⟩
end Go.Proofs.YtmlnjicajdbjlaaGreatDoor
namespace Go.Proofs.YtmlnjicajdbjlaaGreatDoor
open Go Go.RowKit Go.Sw Go.Ech
open Classical
theorem ty_um_98:Tryz.prog.underlying 98=some (.map 32 4):=by kernel_rfl
theorem ty_ze_4:zeroP Tryz.prog 4=some (.bool (false)):=by kernel_rfl
theorem keyAlg:WideMaps.KeyLaw Tryz.prog 32:=deep_law (m:=8) (by decide) (by kernel_rfl) (by kernel_rfl) (by kernel_rfl)
theorem keyLeafs:leafs Tryz.prog (Tryz.prog.types.size+1) 32 (.i64::.i64::List.replicate 222 .u8)=true:=by kernel_rfl
theorem keyType32:Tryz.prog.keyType 32=true:=by kernel_rfl
theorem keyCells:Tryz.prog.cellsOf 32=224:=by kernel_rfl
theorem keyWide:wideB Tryz.prog 32=true:=by kernel_rfl
theorem keyLit {p n:Nat}{T:Nat→Nat→Nat→Nat}{f:Nat→Nat}(hp:p<1000)(hn:n<1000)(hT:∀ i j k,T i j k≤255)(hf:∀ i,f i≤255):∃ l,keyOf Tryz.prog 32 (.agg (algC (p:Int) (n:Int) T f))=some l:=
  keyOf_leafs keyWide keyType32 keyLeafs (by rw [keyCells,List.length_cons,List.length_cons,List.length_replicate]) (leafy_alg (by omega) (by omega) hT hf)
theorem keyEq {p n:Int}{T:Nat→Nat→Nat→Nat}{f:Nat→Nat}:Value.agg (algC p n T f)=Value.agg (algC p n (trT T) f)↔eqT T (trT T):=by
  constructor
  · intro h i hi j hj k hk
    have h1:=congrArg (fun v:Value=>match v with | .agg c=>c[2+i*36+j*6+k]? | _=>none) h
    dsimp only at h1
    rw [algC_T i j k rfl hi hj hk,algC_T i j k rfl hi hj hk] at h1;have h2:=Option.some.inj h1
    injection h2 with _ h3
    exact Int.ofNat.inj h3
  · intro h
    exact congrArg Value.agg (algC_congr fun i hi j hj k hk=>h i hi j hj k hk)
theorem gives_ite {P:Program}{q:Prop}[Decidable q]{o:Oper}{a:Act}{w:World}(h:Gives P o a w (if q then .bool true else .bool false)):Gives P o a w (.bool (decide q)):=by
  by_cases e:q
  · rw [if_pos e] at h;rw [decide_eq_true e];exact h
  · rw [if_neg e] at h;rw [decide_eq_false e];exact h
theorem isOwnOpposite_ok (p n:Nat)(T:Nat→Nat→Nat→Nat)(f:Nat→Nat)(w:World)(hp2:p<1000)(hn2:n<1000)(hT:∀ i j k,T i j k≤255)(hf:∀ i,f i≤255) :
    CallsR Tryz.prog 64 #[.agg (algC (p:Int) (n:Int) T f)] w (fun res _=>res = .bool (decide (eqT T (trT T)))):=by
  refine calls_fr [.agg (algC (p:Int) (n:Int) T f)] Tryz.func64 rfl Tryz.ntmps64 rfl fun a hF=>?_;have hM:Mem w w [none] []:=MemX.start w 1;change Fr 11 a [(0,.agg (algC (p:Int) (n:Int) T f))] at hF;refine sr<|stR hF (d_box 0 hM hF rfl) rfl ?_;rintro _ w' a ⟨b1,rfl,hM,-⟩ hF;refine ag hF rfl rfl fun a hF=>ns<|stR hF (d_makeMap hM) rfl ?_;rintro _ w' a ⟨bm2,rfl,hM,hgebm2,hisbm2⟩ hF;change Mem w w' [some (b1,algC (p:Int) (n:Int) T f)] [] at hM;refine st hF (g_loadAgg ty_ag_32 hF rfl (hM.row 0 rfl) (by simp only [sz0,dgC_size,numC_sz,ldB_size]<;>omega) (whole cells_size)) rfl fun a hF=>?_;obtain ⟨lkbm2,hlkbm2⟩:=keyLit (p:=p) (n:=n) (T:=T) (f:=f) (by omega) (by omega) hT hf;refine stN hF (d_insert keyAlg ty_um_98 hM hisbm2 hgebm2 hF rfl rfl rfl hlkbm2) ?_;rintro _ w' a ⟨hM,hisbm2⟩ hF;change Mem w w' [some (b1,algC (p:Int) (n:Int) T f)] [] at hM;refine mv hF rfl rfl fun a hF=>ag hF rfl rfl fun a hF=>ns<|mv hF rfl rfl fun a hF=>st hF (g_loadAgg ty_ag_32 hF rfl (hM.row 0 rfl) (by simp only [sz0,dgC_size,numC_sz,ldB_size]<;>omega) (whole cells_size)) rfl fun a hF=>stR hF (d_call Tryz.call94 hF (.cons rfl .nil) (oppositeTo_ok (p:Int) (n:Int) T f _)) rfl ?_;rintro _ w' a ⟨hx,rfl⟩ hF;have hM:=hM.ext hx;have hisbm2:=hisbm2.ext hx;refine st hF (gives_ite (g_lookup1 (p:=eqT T (trT T)) (z0:=.bool (false)) keyAlg ty_um_98 ty_ze_4 hisbm2 hF rfl rfl (keyLit (by omega) (by omega) (fun i j k=>hT j i k) hf).choose_spec hlkbm2 keyEq)) rfl fun a hF=>ag hF rfl rfl fun a hF=>nt<|wp_ret<|fin1 rfl hF.defers (res_tmp hF rfl) ⟨_,rfl,hM.below,?_⟩
  show _=_
  rfl
end Go.Proofs.YtmlnjicajdbjlaaGreatDoor
