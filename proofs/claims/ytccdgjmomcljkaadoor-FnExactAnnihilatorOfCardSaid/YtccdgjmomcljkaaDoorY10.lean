import Derived.Test.YtccdgjmomcljkaaDoorY9
import Derived.Test.YtccdgjmomcljkaaDoorSw47
import Derived.Test.YtccdgjmomcljkaaDoorSw56
set_option linter.unusedVariables false
set_option linter.unusedSimpArgs false
namespace Go.Proofs.YtccdgjmomcljkaaDoor
open Go Go.RowKit Go.Sw Go.Ech
open Classical
theorem ty_ag_26:aggP Tryd.prog 26=some 224:=by kernel_rfl
theorem ty_ud_3:Tryd.prog.underlying 3=some (.int .i64):=by kernel_rfl
theorem dvd_small {p x:Nat}(h:(p:Int)∣(x:Int))(hx:x<p):x=0:=Nat.eq_zero_of_dvd_of_lt (Int.natCast_dvd_natCast.1 h) hx
theorem hpos_of {p n m:Nat}{M:Nat→Nat→Nat}(hp:2≤p)(hne:∀ k E ld,Rref p n E k ld→(∀ x,Ker p n E k x↔Ker p n M m x)→0<nf k ld n):∀ r V,IsKer p n M m r V→0<r:=fun r V h=>by
  obtain ⟨k,E,ld,ld2,h1,h2,h3,h4⟩:=h
  obtain ⟨c,hc,hf,_⟩:=nf_at n 0 (hne k E ld h1 h2)
  refine Decidable.byContradiction fun h0=>?_
  have h5:=(h4 (fun d=>if d=c then 1 else 0)).1 (fun i hi=>absurd hi (by omega)) c hc hf
  have e:dot n (ci (sol p E k ld c)) (fun d=>if d=c then 1 else 0)=((1:Nat):Int):=by
    unfold dot
    rw [sI_one hc]
    · unfold ci sol;simp
    · intro j _ hne2;simp [hne2]
  rw [e] at h5;have:=dvd_small h5 (by omega)
  omega
theorem isKer_le {p n m r:Nat}{M V:Nat→Nat→Nat}(h:IsKer p n M m r V):r≤n:=by
  obtain ⟨k,E,ld,ld2,_,_,h3,_⟩:=h;have:∀ i,i<r→i≤ld2 i:=by
    intro i
    induction i with
    | zero=>intro _;exact Nat.zero_le _
    | succ i ih=>intro hi;have:=ih (by omega);have:=h3.mono i (i+1) (by omega) hi;omega
  rcases Nat.eq_zero_or_pos r with e | e
  · omega
  · have h1:=this (r - 1) (by omega);have h2:=h3.lt (r - 1) (by omega);omega
theorem isKer_small {p n m r:Nat}{M V:Nat→Nat→Nat}(h:IsKer p n M m r V):∀ i,i<r→∀ c,c<n→V i c<p:=by
  obtain ⟨k,E,ld,ld2,_,_,h3,_⟩:=h;exact h3.small
def cutR (n R:Nat) (W:Nat→Nat→Nat) (i c:Nat):Nat:=if i<R∧c<n then W i c else 0
theorem own_same {p n m r R:Nat}{M V V' W:Nat→Nat→Nat}{w w':World}{u:Value}(hp:2≤p)(hW:IsKer p n M m R W)(hV:IsKer p n M m r V)(e:∀ i,i<r→∀ c,c<6→V' i c=if c<n then V i c else 0)(h:OwnSl 6 w r (fun c=>.int .u8 (V' (c / 6) (c%6):Int)) u w'):OwnSl 6 w R (fun c=>.int .u8 (cutR n R W (c / 6) (c%6):Int)) u w':=by
  obtain ⟨rfl,hu⟩:=IsKer.unique hp hW hV;obtain ⟨b,cap,cs,h1,h2,h3⟩:=h;refine ⟨b,cap,cs,h1.congr (fun c hc=>?_),h2,h3⟩
  congr 2
  rw [e (c / 6) (by omega) (c%6) (by omega)]
  unfold cutR
  by_cases hcn:c%6<n
  · rw [if_pos hcn,if_pos ⟨by omega,hcn⟩,hu (c / 6) (by omega) (c%6) hcn]
  · rw [if_neg hcn,if_neg (fun q=>hcn q.2)]
theorem nf_cases {p n m:Nat}{M:Nat→Nat→Nat}(hp:primeN p)(hM:∀ i c,M i c<p):(∀ k E ld,Rref p n E k ld→(∀ x,Ker p n E k x↔Ker p n M m x)→0<nf k ld n)∨(∀ k E ld,Rref p n E k ld→(∀ x,Ker p n E k x↔Ker p n M m x)→nf k ld n=0):=by
  obtain ⟨k0,E0,ld0,h0,_,hk0⟩:=rref_exists (N:=n) (m:=m) hp hM;have key:∀ k E ld,Rref p n E k ld→(∀ x,Ker p n E k x↔Ker p n M m x)→nf k ld n=nf k0 ld0 n:=fun k E ld h hk=>by
    obtain ⟨rfl,e1,_⟩:=rref_unique hp.two h h0 (fun x=>(hk x).trans (hk0 x).symm);exact nf_congr e1 n
  by_cases e:nf k0 ld0 n=0
  · exact .inr fun k E ld h hk=>by rw [key k E ld h hk,e]
  · exact .inl fun k E ld h hk=>by rw [key k E ld h hk];omega
theorem eqVectorS_ok (b1 c1 b2 c2 m:Nat)(cs1 cs2:Array Value)(v1 v2:Value)(e1 e2:Option (Nat×Array Value))(V1 V2:Nat→Nat→Nat)(w:World)(hm:m<1000)(hs1:SlAt 6 v1 e1 m b1 c1 cs1 (fun c=>.int .u8 (V1 (c / 6) (c%6):Int)))(hb1:Blk w b1 cs1)(hs2:SlAt 6 v2 e2 m b2 c2 cs2 (fun c=>.int .u8 (V2 (c / 6) (c%6):Int)))(hb2:Blk w b2 cs2)(hv1:∀ i c,V1 i c≤255)(hv2:∀ i c,V2 i c≤255)(he:∀ i,i<m→eqV 6 (V1 i) (V2 i)) :
    CallsR Tryd.prog 12 #[.slice (some ⟨b1,0,none⟩) m c1,.slice (some ⟨b2,0,none⟩) m c2] w (fun res _=>res = .bool true):=by
  refine calls_fr [.slice (some ⟨b1,0,none⟩) m c1,.slice (some ⟨b2,0,none⟩) m c2] Tryd.func12 rfl Tryd.ntmps12 rfl fun a hF=>?_;have hM:Mem w w [] [(b1,cs1),(b2,cs2)]:=MemX.startD w 0 _ (startD2 hb1 hb2);change Fr 27 a [(0,.slice (some ⟨b1,0,none⟩) m c1),(1,.slice (some ⟨b2,0,none⟩) m c2)] at hF;refine sr<|ag hF rfl rfl fun a hF=>nt<|sq<|sr<|mv hF rfl rfl fun a hF=>st hF (g_len ty_us_27 hF rfl) rfl fun a hF=>mv hF rfl rfl fun a hF=>st hF (g_len ty_us_27 hF rfl) rfl fun a hF=>st hF (g_neq hF rfl rfl) rfl fun a hF=>nt<|c_cond hF rfl (fun h1=>?_) (fun h1=>?_)
  · exact absurd rfl h1
  refine wp_skip<|tN<|sq<|sr<|ag hF rfl rfl fun a hF=>nt<|wp_block ?_;change Mem w _ [] [(b1,cs1),(b2,cs2)] at hM;refine c_loop (fun (kk:Nat) a w'=>kk≤m∧(True)∧Fr 27 a [(0,.slice (some ⟨b1,0,none⟩) m c1),(1,.slice (some ⟨b2,0,none⟩) m c2),(10,.bool (decide (((m:Int):Int)≠(m:Int)))),(5,.int .i64 (kk:Int))]∧Mem w w' [] [(b1,cs1),(b2,cs2)]) (fun kk=>m - kk) 0 ?_ ?_
  · refine ⟨by omega,trivial,hF.sub _ (by repeat' constructor),?_⟩
    exact hM
  clear hF hM;rintro gk a w' ⟨hgk,hinv1,hF,hM⟩;refine sq<|sr<|mv hF rfl rfl fun a hF=>mv hF rfl rfl fun a hF=>st hF (g_len ty_us_27 hF rfl) rfl fun a hF=>st hF (g_lss hF rfl rfl) rfl fun a hF=>nt<|c_cond hF rfl (fun h2=>?_) (fun h2=>?_)
  · refine wp_skip ?_
    refine tN<|sq<|wp_block<|sq<|c_par 8 [] [.val (.slice (some ⟨b1,0,none⟩) m c1),.val (.int .i64 (gk:Int)),.val (ptr b1 (0+(gk)*6)),.val (.agg (vecC (V1 (gk)))),.val (.slice (some ⟨b2,0,none⟩) m c2),.val (.int .i64 (gk:Int)),.val (ptr b2 (0+(gk)*6)),.val (.agg (vecC (V2 (gk))))] hmix rfl hF rfl hM ⟨fun a w gG hF hS hd=>by exact pmv hS rfl hF rfl,fun a w gG hF hS hd=>by exact pmv hS rfl hF rfl,fun a w gG hF hS hd=>by have hF:=hF.ext1 17 (hd 0 rfl rfl);have hF:=hF.ext1 18 (hd 1 rfl rfl);exact par_val hS rfl (g_indexSl (i:=gk) ty_sl_27 hF rfl rfl rfl (by omega)),fun a w gG hF hS hd=>by have hF:=hF.ext1 19 (hd 2 rfl rfl);have hM:=hS.mem rfl;exact par_val hS rfl (g_loadAgg ty_ag_30 hF rfl (hM.fz 0 rfl) (hs1.room (gk) (by omega)) (hs1.vec0 (gk) (by omega))),fun a w gG hF hS hd=>by exact pmv hS rfl hF rfl,fun a w gG hF hS hd=>by exact pmv hS rfl hF rfl,fun a w gG hF hS hd=>by have hF:=hF.ext1 21 (hd 4 rfl rfl);have hF:=hF.ext1 22 (hd 5 rfl rfl);exact par_val hS rfl (g_indexSl (i:=gk) ty_sl_27 hF rfl rfl rfl (by omega)),fun a w gG hF hS hd=>by have hF:=hF.ext1 23 (hd 6 rfl rfl);have hM:=hS.mem rfl;exact par_val hS rfl (g_loadAgg ty_ag_30 hF rfl (hM.fz 1 rfl) (hs2.room (gk) (by omega)) (hs2.vec0 (gk) (by omega))),trivial⟩ ?_;intro a w' L hF hS hq;have hF:=hF.ext1 17 (hq 0 rfl rfl);have hF:=hF.ext1 18 (hq 1 rfl rfl);have hF:=hF.ext1 19 (hq 2 rfl rfl);have hF:=hF.ext1 20 (hq 3 rfl rfl);have hF:=hF.ext1 21 (hq 4 rfl rfl);have hF:=hF.ext1 22 (hq 5 rfl rfl);have hF:=hF.ext1 23 (hq 6 rfl rfl);have hF:=hF.ext1 24 (hq 7 rfl rfl);have hM:=hS.mem rfl;change wpList Tryd.prog _ _ [_,_] _ _;refine stR hF (d_call Tryd.call36 hF (.cons rfl (.cons rfl .nil)) (eqVector_ok (V1 (gk)) (V2 (gk)) _)) rfl ?_;rintro _ w' a ⟨hx,rfl⟩ hF;have hM:=hM.ext hx;refine st hF (g_notP hF rfl) rfl fun a hF=>nt<|c_cond hF rfl (fun h3=>?_) (fun h3=>?_)
    · exact absurd (he gk (by omega)) h3
    refine wp_skip<|iN<|tN<|wp_region_lit<|mv hF rfl rfl fun a hF=>st hF (g_add hF rfl rfl (add_nat (gk) (1) (by omega))) rfl fun a hF=>ag hF rfl rfl fun a hF=>nt<|⟨gk+1,⟨by omega,trivial,hF.sub _ (by repeat' constructor),?_⟩,by omega⟩;exact hM
  obtain rfl:m=gk:=by omega
  refine wp_exit<|tX<|tX<|ib_same<|tN<|sr<|ag hF rfl rfl fun a hF=>nt<|wp_ret<|fin1 rfl hF.defers (res_tmp hF rfl) ⟨_,rfl,hM.below,?_⟩
  show _=_
  rfl
theorem eqVectorS_0 (w:World) :
    CallsR Tryd.prog 12 #[.slice none 0 0,.slice none 0 0] w (fun res _=>res = .bool true):=by
  refine calls_fr [.slice none 0 0,.slice none 0 0] Tryd.func12 rfl Tryd.ntmps12 rfl fun a hF=>?_;have hM:Mem w w [] []:=MemX.start w 0;change Fr 27 a [(0,.slice none 0 0),(1,.slice none 0 0)] at hF;refine sr<|ag hF rfl rfl fun a hF=>nt<|sq<|sr<|mv hF rfl rfl fun a hF=>st hF (g_len0 ty_us_27 hF rfl) rfl fun a hF=>mv hF rfl rfl fun a hF=>st hF (g_len0 ty_us_27 hF rfl) rfl fun a hF=>st hF (g_neq hF rfl rfl) rfl fun a hF=>nt<|c_kF hF rfl (by decide)<|wp_skip<|tN<|sq<|sr<|ag hF rfl rfl fun a hF=>nt<|wp_block ?_;change Mem w _ [] [] at hM;refine c_loop (fun (kk:Nat) a w'=>kk≤0∧(True)∧Fr 27 a [(0,.slice none 0 0),(1,.slice none 0 0),(10,.bool (decide ((0:Int)≠0))),(5,.int .i64 (kk:Int))]∧Mem w w' [] []) (fun kk=>0 - kk) 0 ?_ ?_
  · refine ⟨by omega,trivial,hF.sub _ (by repeat' constructor),?_⟩
    exact hM
  clear hF hM;rintro gk a w' ⟨hgk,hinv1,hF,hM⟩;refine sq<|sr<|mv hF rfl rfl fun a hF=>mv hF rfl rfl fun a hF=>st hF (g_len0 ty_us_27 hF rfl) rfl fun a hF=>st hF (g_lss hF rfl rfl) rfl fun a hF=>nt<|c_cond hF rfl (fun h2=>?_) (fun h2=>?_)
  · first | (exfalso;omega) | contradiction
  obtain rfl:0=gk:=by omega
  refine wp_exit<|tX<|tX<|ib_same<|tN<|sr<|ag hF rfl rfl fun a hF=>nt<|wp_ret<|fin1 rfl hF.defers (res_tmp hF rfl) ⟨_,rfl,hM.below,?_⟩
  show _=_
  rfl
theorem markVectorS_ok (b c m k Z:Nat)(xs:Nat→Value)(w:World)(hm:m≤10)(hk:k≤100)(hZ:m*6≤Z)(hb:Blk w b (mrk Z k 0 xs)) :
    CallsX Tryd.prog [b] 13 #[.slice (some ⟨b,0,none⟩) m c,.int .i64 (k:Int)] w (fun v w'=>v = .int .i64 ((k+m*6:Nat):Int)∧Blk w' b (mrk Z k (m*6) xs)):=by
  refine calls_frX [.slice (some ⟨b,0,none⟩) m c,.int .i64 (k:Int)] Tryd.func13 rfl Tryd.ntmps13 rfl fun a hF=>?_;have hM:MemX [b] w w [some (b,mrk Z k 0 xs)] []:=MemX.startX1 0 hb;change Fr 27 a [(0,.slice (some ⟨b,0,none⟩) m c),(1,.int .i64 (k:Int))] at hF;refine sr<|ag hF rfl rfl fun a hF=>nt<|sq<|sr<|ag hF rfl rfl fun a hF=>nt<|wp_block ?_;change MemX [b] w _ [some (b,mrk Z k 0 xs)] [] at hM;refine c_loop (fun (kk:Nat) a w'=>kk≤m∧(True)∧Fr 27 a [(0,.slice (some ⟨b,0,none⟩) m c),(4,.int .i64 (0)),(5,.int .i64 (kk:Int)),(1,.int .i64 (((k+kk*6:Nat):Int)))]∧MemX [b] w w' [some (b,mrk Z k (kk*6) xs)] []) (fun kk=>m - kk) 0 ?_ ?_
  · refine ⟨by omega,trivial,hF.sub _ (by repeat' constructor),?_⟩
    refine hM.rowc 0 rfl (mrk_congr (by omega))
  clear hF hM;rintro gi a w' ⟨hgi,hinv1,hF,hM⟩;refine sq<|sr<|mv hF rfl rfl fun a hF=>mv hF rfl rfl fun a hF=>st hF (g_len ty_us_27 hF rfl) rfl fun a hF=>st hF (g_lss hF rfl rfl) rfl fun a hF=>nt<|c_cond hF rfl (fun h1=>?_) (fun h1=>?_)
  · refine wp_skip ?_
    refine tN<|sq<|wp_block<|sr<|ag hF rfl rfl fun a hF=>nt<|wp_block ?_;change MemX [b] w _ [some (b,mrk Z k (gi*6) xs)] [] at hM;refine c_loop (fun (kk:Nat) a w'=>kk≤6∧(True)∧Fr 27 a [(0,.slice (some ⟨b,0,none⟩) m c),(4,.int .i64 (0)),(5,.int .i64 (gi:Int)),(7,.int .i64 (gi:Int)),(8,.slice (some ⟨b,0,none⟩) m c),(9,.int .i64 (m:Int)),(10,.bool (decide (((gi:Int):Int)<(m:Int)))),(6,.int .i64 (kk:Int)),(1,.int .i64 (((k+gi*6+kk:Nat):Int)))]∧MemX [b] w w' [some (b,mrk Z k (gi*6+kk) xs)] []) (fun kk=>6 - kk) 0 ?_ ?_
    · refine ⟨by omega,trivial,hF.sub _ (by repeat' constructor),?_⟩
      refine hM.rowc 0 rfl (mrk_congr (by omega))
    clear hF hM;rintro gj a w' ⟨hgj,hinv2,hF,hM⟩;refine sq<|sr<|mv hF rfl rfl fun a hF=>st hF (g_lss hF rfl rfl) rfl fun a hF=>nt<|c_cond hF rfl (fun h2=>?_) (fun h2=>?_)
    · refine wp_skip ?_
      refine tN<|sq<|wp_block<|sr<|mv hF rfl rfl fun a hF=>mv hF rfl rfl fun a hF=>mv hF rfl rfl fun a hF=>mv hF rfl rfl fun a hF=>st hF (g_conv ty_un_5 ty_ud_3 hF rfl (wrap_u8 (by omega) (by omega))) rfl fun a hF=>st hF (g_indexSl (i:=gi) ty_sl_27 hF rfl rfl rfl (by omega)) rfl fun a hF=>st hF (g_indexAddr ty_ar_30 hF rfl rfl rfl (by omega)) rfl fun a hF=>stN hF (d_store 0 hM rfl ty_on_5 hF rfl rfl rfl (by first | omega | (simp only [sz0,dgC_size,numC_sz,ldB_size,mrk_size]<;>omega) | (simp only [Array.size_setIfInBounds];omega) | simp)) ?_;intro _ w' a hM hF;change MemX [b] w w' [some (b,(mrk Z k (gi*6+gj) xs).setIfInBounds (0+(gi)*6+(gj)*1) (.int .u8 (((k+gi*6+gj:Nat):Int))))] [] at hM;refine nt<|wp_region_lit<|mv hF rfl rfl fun a hF=>st hF (g_add hF rfl rfl (add_nat (k+gi*6+gj) (1) (by omega))) rfl fun a hF=>ag hF rfl rfl fun a hF=>wpList_nil<|iN<|tN<|wp_region_lit<|mv hF rfl rfl fun a hF=>st hF (g_add hF rfl rfl (add_nat (gj) (1) (by omega))) rfl fun a hF=>ag hF rfl rfl fun a hF=>nt<|⟨gj+1,⟨by omega,trivial,hF.sub _ (by repeat' constructor),?_⟩,by omega⟩;refine hM.rowc 0 rfl ?_;rw [show k+gi*6+gj=k+(gi*6+gj) by omega];exact mrk_set (by omega) (by omega)
    obtain rfl:6=gj:=by omega
    refine wp_exit<|tX<|tX<|ib_same<|iN<|tN<|wp_region_lit<|mv hF rfl rfl fun a hF=>st hF (g_add hF rfl rfl (add_nat (gi) (1) (by omega))) rfl fun a hF=>ag hF rfl rfl fun a hF=>wpList_nil<|tN ?_;rw [show k+gi*6+6=k+(gi+1)*6 from by omega] at hF;refine ⟨gi+1,⟨by omega,trivial,hF.sub _ (by repeat' constructor),?_⟩,by omega⟩;refine hM.rowc 0 rfl (mrk_congr (by omega))
  obtain rfl:m=gi:=by omega
  refine wp_exit<|tX<|tX<|ib_same<|tN<|sr<|mv hF rfl rfl fun a hF=>ag hF rfl rfl fun a hF=>nt<|wp_ret<|fin1 rfl hF.defers (res_tmp hF rfl) ⟨_,rfl,hM.bel,?_⟩;exact ⟨rfl,hM.row 0 rfl⟩
theorem markVectorS_0 (k:Nat)(w:World)(hk:k≤100) :
    CallsR Tryd.prog 13 #[.slice none 0 0,.int .i64 (k:Int)] w (fun res _=>res = .int .i64 (k:Int)):=by
  refine calls_fr [.slice none 0 0,.int .i64 (k:Int)] Tryd.func13 rfl Tryd.ntmps13 rfl fun a hF=>?_;have hM:Mem w w [] []:=MemX.start w 0;change Fr 27 a [(0,.slice none 0 0),(1,.int .i64 (k:Int))] at hF;refine sr<|ag hF rfl rfl fun a hF=>nt<|sq<|sr<|ag hF rfl rfl fun a hF=>nt<|wp_block ?_;change Mem w _ [] [] at hM;refine c_loop (fun (kk:Nat) a w'=>kk≤0∧(True)∧Fr 27 a [(0,.slice none 0 0),(4,.int .i64 (0)),(5,.int .i64 (kk:Int)),(1,.int .i64 (k:Int))]∧Mem w w' [] []) (fun kk=>0 - kk) 0 ?_ ?_
  · refine ⟨by omega,trivial,hF.sub _ (by repeat' constructor),?_⟩
    exact hM
  clear hF hM;rintro gi a w' ⟨hgi,hinv1,hF,hM⟩;refine sq<|sr<|mv hF rfl rfl fun a hF=>mv hF rfl rfl fun a hF=>st hF (g_len0 ty_us_27 hF rfl) rfl fun a hF=>st hF (g_lss hF rfl rfl) rfl fun a hF=>nt<|c_cond hF rfl (fun h1=>?_) (fun h1=>?_)
  · exfalso;omega
  obtain rfl:0=gi:=by omega
  refine wp_exit<|tX<|tX<|ib_same<|tN<|sr<|mv hF rfl rfl fun a hF=>ag hF rfl rfl fun a hF=>nt<|wp_ret<|fin1 rfl hF.defers (res_tmp hF rfl) ⟨_,rfl,hM.below,?_⟩
  show _=_
  rfl
theorem heldVectorS_ok (b c m k Z:Nat)(xs:Nat→Value)(w:World)(hm:m≤10)(hk:k≤100)(hZ:m*6≤Z)(hb:Blk w b (mrk Z k (m*6) xs)) :
    CallsX Tryd.prog [b] 14 #[.slice (some ⟨b,0,none⟩) m c,.int .i64 (k:Int)] w (fun v w'=>v = .int .i64 ((k+m*6:Nat):Int)∧Blk w' b (mrk Z k (m*6) xs)):=by
  refine calls_frX [.slice (some ⟨b,0,none⟩) m c,.int .i64 (k:Int)] Tryd.func14 rfl Tryd.ntmps14 rfl fun a hF=>?_;have hM:MemX [b] w w [some (b,mrk Z k (m*6) xs)] []:=MemX.startX1 0 hb;change Fr 29 a [(0,.slice (some ⟨b,0,none⟩) m c),(1,.int .i64 (k:Int))] at hF;refine sr<|ag hF rfl rfl fun a hF=>nt<|sq<|sr<|ag hF rfl rfl fun a hF=>nt<|wp_block ?_;change MemX [b] w _ [some (b,mrk Z k (m*6) xs)] [] at hM;refine c_loop (fun (kk:Nat) a w'=>kk≤m∧(True)∧Fr 29 a [(0,.slice (some ⟨b,0,none⟩) m c),(5,.int .i64 (kk:Int)),(1,.int .i64 (((k+kk*6:Nat):Int)))]∧MemX [b] w w' [some (b,mrk Z k (m*6) xs)] []) (fun kk=>m - kk) 0 ?_ ?_
  · refine ⟨by omega,trivial,hF.sub _ (by repeat' constructor),?_⟩
    exact hM
  clear hF hM;rintro gi a w' ⟨hgi,hinv1,hF,hM⟩;refine sq<|sr<|mv hF rfl rfl fun a hF=>mv hF rfl rfl fun a hF=>st hF (g_len ty_us_27 hF rfl) rfl fun a hF=>st hF (g_lss hF rfl rfl) rfl fun a hF=>nt<|c_cond hF rfl (fun h1=>?_) (fun h1=>?_)
  · refine wp_skip ?_
    refine tN<|sq<|wp_block<|sr<|ag hF rfl rfl fun a hF=>nt<|wp_block ?_;change MemX [b] w _ [some (b,mrk Z k (m*6) xs)] [] at hM;refine c_loop (fun (kk:Nat) a w'=>kk≤6∧(True)∧Fr 29 a [(0,.slice (some ⟨b,0,none⟩) m c),(5,.int .i64 (gi:Int)),(7,.int .i64 (gi:Int)),(8,.slice (some ⟨b,0,none⟩) m c),(9,.int .i64 (m:Int)),(10,.bool (decide (((gi:Int):Int)<(m:Int)))),(6,.int .i64 (kk:Int)),(1,.int .i64 (((k+gi*6+kk:Nat):Int)))]∧MemX [b] w w' [some (b,mrk Z k (m*6) xs)] []) (fun kk=>6 - kk) 0 ?_ ?_
    · refine ⟨by omega,trivial,hF.sub _ (by repeat' constructor),?_⟩
      exact hM
    clear hF hM;rintro gj a w' ⟨hgj,hinv2,hF,hM⟩;refine sq<|sr<|mv hF rfl rfl fun a hF=>st hF (g_lss hF rfl rfl) rfl fun a hF=>nt<|c_cond hF rfl (fun h2=>?_) (fun h2=>?_)
    · refine wp_skip ?_
      refine tN<|sq<|wp_block<|sq<|sr<|mv hF rfl rfl fun a hF=>mv hF rfl rfl fun a hF=>mv hF rfl rfl fun a hF=>st hF (g_indexSl (i:=gi) ty_sl_27 hF rfl rfl rfl (by omega)) rfl fun a hF=>st hF (g_indexAddr ty_ar_30 hF rfl rfl rfl (by omega)) rfl fun a hF=>st hF (g_load ty_on_5 hF rfl (hM.row 0 rfl) (mrk_get (c:=gi*6+gj) (by omega) (by omega) (by omega))) rfl fun a hF=>mv hF rfl rfl fun a hF=>st hF (g_conv ty_un_5 ty_ud_3 hF rfl (wrap_u8 (by omega) (by omega))) rfl fun a hF=>st hF (g_neq hF rfl rfl) rfl fun a hF=>nt<|c_cond hF rfl (fun h3=>?_) (fun h3=>?_)
      · exfalso;omega
      refine wp_skip<|tN<|wp_region_lit<|mv hF rfl rfl fun a hF=>st hF (g_add hF rfl rfl (add_nat (k+gi*6+gj) (1) (by omega))) rfl fun a hF=>ag hF rfl rfl fun a hF=>wpList_nil<|iN<|tN<|wp_region_lit<|mv hF rfl rfl fun a hF=>st hF (g_add hF rfl rfl (add_nat (gj) (1) (by omega))) rfl fun a hF=>ag hF rfl rfl fun a hF=>nt<|⟨gj+1,⟨by omega,trivial,hF.sub _ (by repeat' constructor),?_⟩,by omega⟩;exact hM
    obtain rfl:6=gj:=by omega
    refine wp_exit<|tX<|tX<|ib_same<|iN<|tN<|wp_region_lit<|mv hF rfl rfl fun a hF=>st hF (g_add hF rfl rfl (add_nat (gi) (1) (by omega))) rfl fun a hF=>ag hF rfl rfl fun a hF=>wpList_nil<|tN ?_;rw [show k+gi*6+6=k+(gi+1)*6 from by omega] at hF;refine ⟨gi+1,⟨by omega,trivial,hF.sub _ (by repeat' constructor),?_⟩,by omega⟩;exact hM
  obtain rfl:m=gi:=by omega
  refine wp_exit<|tX<|tX<|ib_same<|tN<|sr<|mv hF rfl rfl fun a hF=>ag hF rfl rfl fun a hF=>nt<|wp_ret<|fin1 rfl hF.defers (res_tmp hF rfl) ⟨_,rfl,hM.bel,?_⟩;exact ⟨rfl,hM.row 0 rfl⟩
theorem heldVectorS_0 (k:Nat)(w:World)(hk:k≤100) :
    CallsR Tryd.prog 14 #[.slice none 0 0,.int .i64 (k:Int)] w (fun res _=>res = .int .i64 (k:Int)):=by
  refine calls_fr [.slice none 0 0,.int .i64 (k:Int)] Tryd.func14 rfl Tryd.ntmps14 rfl fun a hF=>?_;have hM:Mem w w [] []:=MemX.start w 0;change Fr 29 a [(0,.slice none 0 0),(1,.int .i64 (k:Int))] at hF;refine sr<|ag hF rfl rfl fun a hF=>nt<|sq<|sr<|ag hF rfl rfl fun a hF=>nt<|wp_block ?_;change Mem w _ [] [] at hM;refine c_loop (fun (kk:Nat) a w'=>kk≤0∧(True)∧Fr 29 a [(0,.slice none 0 0),(5,.int .i64 (kk:Int)),(1,.int .i64 (k:Int))]∧Mem w w' [] []) (fun kk=>0 - kk) 0 ?_ ?_
  · refine ⟨by omega,trivial,hF.sub _ (by repeat' constructor),?_⟩
    exact hM
  clear hF hM;rintro gi a w' ⟨hgi,hinv1,hF,hM⟩;refine sq<|sr<|mv hF rfl rfl fun a hF=>mv hF rfl rfl fun a hF=>st hF (g_len0 ty_us_27 hF rfl) rfl fun a hF=>st hF (g_lss hF rfl rfl) rfl fun a hF=>nt<|c_cond hF rfl (fun h1=>?_) (fun h1=>?_)
  · exfalso;omega
  obtain rfl:0=gi:=by omega
  refine wp_exit<|tX<|tX<|ib_same<|tN<|sr<|mv hF rfl rfl fun a hF=>ag hF rfl rfl fun a hF=>nt<|wp_ret<|fin1 rfl hF.defers (res_tmp hF rfl) ⟨_,rfl,hM.below,?_⟩
  show _=_
  rfl
theorem eqVectorS_E (b0:Nat)(w:World) :
    CallsR Tryd.prog 12 #[.slice none 0 0,.slice (some ⟨b0,0,none⟩) 0 0] w (fun res _=>res = .bool true):=by
  refine calls_fr [.slice none 0 0,.slice (some ⟨b0,0,none⟩) 0 0] Tryd.func12 rfl Tryd.ntmps12 rfl fun a hF=>?_;have hM:Mem w w [] []:=MemX.start w 0;change Fr 27 a [(0,.slice none 0 0),(1,.slice (some ⟨b0,0,none⟩) 0 0)] at hF;refine sr<|ag hF rfl rfl fun a hF=>nt<|sq<|sr<|mv hF rfl rfl fun a hF=>st hF (g_len0 ty_us_27 hF rfl) rfl fun a hF=>mv hF rfl rfl fun a hF=>st hF (g_len ty_us_27 hF rfl) rfl fun a hF=>st hF (g_neq hF rfl rfl) rfl fun a hF=>nt<|c_kF hF rfl (by decide)<|wp_skip<|tN<|sq<|sr<|ag hF rfl rfl fun a hF=>nt<|wp_block ?_;change Mem w _ [] [] at hM;refine c_loop (fun (kk:Nat) a w'=>kk≤0∧(True)∧Fr 27 a [(0,.slice none 0 0),(1,.slice (some ⟨b0,0,none⟩) 0 0),(10,.bool (decide ((0:Int)≠0))),(5,.int .i64 (kk:Int))]∧Mem w w' [] []) (fun kk=>0 - kk) 0 ?_ ?_
  · refine ⟨by omega,trivial,hF.sub _ (by repeat' constructor),?_⟩
    exact hM
  clear hF hM;rintro gk a w' ⟨hgk,hinv1,hF,hM⟩;refine sq<|sr<|mv hF rfl rfl fun a hF=>mv hF rfl rfl fun a hF=>st hF (g_len0 ty_us_27 hF rfl) rfl fun a hF=>st hF (g_lss hF rfl rfl) rfl fun a hF=>nt<|c_cond hF rfl (fun h2=>?_) (fun h2=>?_)
  · first | (exfalso;omega) | contradiction
  obtain rfl:0=gk:=by omega
  refine wp_exit<|tX<|tX<|ib_same<|tN<|sr<|ag hF rfl rfl fun a hF=>nt<|wp_ret<|fin1 rfl hF.defers (res_tmp hF rfl) ⟨_,rfl,hM.below,?_⟩
  show _=_
  rfl
end Go.Proofs.YtccdgjmomcljkaaDoor
