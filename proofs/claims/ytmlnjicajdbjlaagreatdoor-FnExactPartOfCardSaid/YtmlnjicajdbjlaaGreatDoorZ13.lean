import Derived.Test.YtmlnjicajdbjlaaGreatDoorZ10
import Derived.Test.YtmlnjicajdbjlaaGreatDoorSw47
import Derived.Test.YtmlnjicajdbjlaaGreatDoorSw52
import Derived.Test.YtmlnjicajdbjlaaGreatDoorQ9
import Derived.Test.YtmlnjicajdbjlaaGreatDoorSw10
set_option linter.unusedVariables false
set_option linter.unusedSimpArgs false
namespace Go.Proofs.YtmlnjicajdbjlaaGreatDoor
open Go Go.RowKit Go.Sw Go.Ech
open Classical
theorem prL_same {p n r r0:Nat}{T:Nat→Nat→Nat→Nat}{uu:Nat→Nat}{VF W0:Nat→Nat→Nat}(hp:2≤p)(h0:IsKer p n (spE p n T uu p 1) n r0 W0)(h:IsKer p n (spE p n T uu p 1) n r VF):prL p n T uu (padN n VF) r=prL p n T uu W0 r0:=by
  obtain ⟨rfl,e⟩:=IsKer.unique hp h0 h;rw [prL_pad];exact prL_cong r0 fun i hi c hc=>(e i hi c hc).symm
end Go.Proofs.YtmlnjicajdbjlaaGreatDoor
namespace Go.Proofs.YtmlnjicajdbjlaaGreatDoor
open Go Go.RowKit Go.Sw Go.Ech
open Classical
def cutR (n R:Nat) (W:Nat→Nat→Nat) (i c:Nat):Nat:=if i<R∧c<n then W i c else 0
theorem eqVectorS_ok (b1 c1 b2 c2 m:Nat)(cs1 cs2:Array Value)(v1 v2:Value)(e1 e2:Option (Nat×Array Value))(V1 V2:Nat→Nat→Nat)(w:World)(hm:m<1000)(hs1:SlAt 6 v1 e1 m b1 c1 cs1 (fun c=>.int .u8 (V1 (c / 6) (c%6):Int)))(hb1:Blk w b1 cs1)(hs2:SlAt 6 v2 e2 m b2 c2 cs2 (fun c=>.int .u8 (V2 (c / 6) (c%6):Int)))(hb2:Blk w b2 cs2)(hv1:∀ i c,V1 i c≤255)(hv2:∀ i c,V2 i c≤255)(he:∀ i,i<m→eqV 6 (V1 i) (V2 i)) :
    CallsR Tryz.prog 12 #[.slice (some ⟨b1,0,none⟩) m c1,.slice (some ⟨b2,0,none⟩) m c2] w (fun res _=>res = .bool true):=by
  refine calls_fr [.slice (some ⟨b1,0,none⟩) m c1,.slice (some ⟨b2,0,none⟩) m c2] Tryz.func12 rfl Tryz.ntmps12 rfl fun a hF=>?_;have hM:Mem w w [] [(b1,cs1),(b2,cs2)]:=MemX.startD w 0 _ (startD2 hb1 hb2);change Fr 27 a [(0,.slice (some ⟨b1,0,none⟩) m c1),(1,.slice (some ⟨b2,0,none⟩) m c2)] at hF;refine sr<|ag hF rfl rfl fun a hF=>nt<|sq<|sr<|mv hF rfl rfl fun a hF=>st hF (g_len ty_us_27 hF rfl) rfl fun a hF=>mv hF rfl rfl fun a hF=>st hF (g_len ty_us_27 hF rfl) rfl fun a hF=>st hF (g_neq hF rfl rfl) rfl fun a hF=>nt<|c_cond hF rfl (fun h1=>?_) (fun h1=>?_)
  · exact absurd rfl h1
  refine wp_skip<|tN<|sq<|sr<|ag hF rfl rfl fun a hF=>nt<|wp_block ?_;change Mem w _ [] [(b1,cs1),(b2,cs2)] at hM;refine c_loop (fun (kk:Nat) a w'=>kk≤m∧(True)∧Fr 27 a [(0,.slice (some ⟨b1,0,none⟩) m c1),(1,.slice (some ⟨b2,0,none⟩) m c2),(10,.bool (decide (((m:Int):Int)≠(m:Int)))),(5,.int .i64 (kk:Int))]∧Mem w w' [] [(b1,cs1),(b2,cs2)]) (fun kk=>m - kk) 0 ?_ ?_
  · refine ⟨by omega,trivial,hF.sub _ (by repeat' constructor),?_⟩
    exact hM
  clear hF hM;rintro gk a w' ⟨hgk,hinv1,hF,hM⟩;refine sq<|sr<|mv hF rfl rfl fun a hF=>mv hF rfl rfl fun a hF=>st hF (g_len ty_us_27 hF rfl) rfl fun a hF=>st hF (g_lss hF rfl rfl) rfl fun a hF=>nt<|c_cond hF rfl (fun h2=>?_) (fun h2=>?_)
  · refine wp_skip ?_
    refine tN<|sq<|wp_block<|sq<|c_par 8 [] [.val (.slice (some ⟨b1,0,none⟩) m c1),.val (.int .i64 (gk:Int)),.val (ptr b1 (0+(gk)*6)),.val (.agg (vecC (V1 (gk)))),.val (.slice (some ⟨b2,0,none⟩) m c2),.val (.int .i64 (gk:Int)),.val (ptr b2 (0+(gk)*6)),.val (.agg (vecC (V2 (gk))))] hmix rfl hF rfl hM ⟨fun a w gG hF hS hd=>by exact pmv hS rfl hF rfl,fun a w gG hF hS hd=>by exact pmv hS rfl hF rfl,fun a w gG hF hS hd=>by have hF:=hF.ext1 17 (hd 0 rfl rfl);have hF:=hF.ext1 18 (hd 1 rfl rfl);exact par_val hS rfl (g_indexSl (i:=gk) ty_sl_27 hF rfl rfl rfl (by omega)),fun a w gG hF hS hd=>by have hF:=hF.ext1 19 (hd 2 rfl rfl);have hM:=hS.mem rfl;exact par_val hS rfl (g_loadAgg ty_ag_30 hF rfl (hM.fz 0 rfl) (hs1.room (gk) (by omega)) (hs1.vec0 (gk) (by omega))),fun a w gG hF hS hd=>by exact pmv hS rfl hF rfl,fun a w gG hF hS hd=>by exact pmv hS rfl hF rfl,fun a w gG hF hS hd=>by have hF:=hF.ext1 21 (hd 4 rfl rfl);have hF:=hF.ext1 22 (hd 5 rfl rfl);exact par_val hS rfl (g_indexSl (i:=gk) ty_sl_27 hF rfl rfl rfl (by omega)),fun a w gG hF hS hd=>by have hF:=hF.ext1 23 (hd 6 rfl rfl);have hM:=hS.mem rfl;exact par_val hS rfl (g_loadAgg ty_ag_30 hF rfl (hM.fz 1 rfl) (hs2.room (gk) (by omega)) (hs2.vec0 (gk) (by omega))),trivial⟩ ?_;intro a w' L hF hS hq;have hF:=hF.ext1 17 (hq 0 rfl rfl);have hF:=hF.ext1 18 (hq 1 rfl rfl);have hF:=hF.ext1 19 (hq 2 rfl rfl);have hF:=hF.ext1 20 (hq 3 rfl rfl);have hF:=hF.ext1 21 (hq 4 rfl rfl);have hF:=hF.ext1 22 (hq 5 rfl rfl);have hF:=hF.ext1 23 (hq 6 rfl rfl);have hF:=hF.ext1 24 (hq 7 rfl rfl);have hM:=hS.mem rfl;change wpList Tryz.prog _ _ [_,_] _ _;refine stR hF (d_call Tryz.call35 hF (.cons rfl (.cons rfl .nil)) (eqVector_ok (V1 (gk)) (V2 (gk)) _)) rfl ?_;rintro _ w' a ⟨hx,rfl⟩ hF;have hM:=hM.ext hx;refine st hF (g_notP hF rfl) rfl fun a hF=>nt<|c_cond hF rfl (fun h3=>?_) (fun h3=>?_)
    · exact absurd (he gk (by omega)) h3
    refine wp_skip<|iN<|tN<|wp_region_lit<|mv hF rfl rfl fun a hF=>st hF (g_add hF rfl rfl (add_nat (gk) (1) (by omega))) rfl fun a hF=>ag hF rfl rfl fun a hF=>nt<|⟨gk+1,⟨by omega,trivial,hF.sub _ (by repeat' constructor),?_⟩,by omega⟩;exact hM
  obtain rfl:m=gk:=by omega
  refine wp_exit<|tX<|tX<|ib_same<|tN<|sr<|ag hF rfl rfl fun a hF=>nt<|wp_ret<|fin1 rfl hF.defers (res_tmp hF rfl) ⟨_,rfl,hM.below,?_⟩
  show _=_
  rfl
theorem eqVectorS_0 (w:World) :
    CallsR Tryz.prog 12 #[.slice none 0 0,.slice none 0 0] w (fun res _=>res = .bool true):=by
  refine calls_fr [.slice none 0 0,.slice none 0 0] Tryz.func12 rfl Tryz.ntmps12 rfl fun a hF=>?_;have hM:Mem w w [] []:=MemX.start w 0;change Fr 27 a [(0,.slice none 0 0),(1,.slice none 0 0)] at hF;refine sr<|ag hF rfl rfl fun a hF=>nt<|sq<|sr<|mv hF rfl rfl fun a hF=>st hF (g_len0 ty_us_27 hF rfl) rfl fun a hF=>mv hF rfl rfl fun a hF=>st hF (g_len0 ty_us_27 hF rfl) rfl fun a hF=>st hF (g_neq hF rfl rfl) rfl fun a hF=>nt<|c_kF hF rfl (by decide)<|wp_skip<|tN<|sq<|sr<|ag hF rfl rfl fun a hF=>nt<|wp_block ?_;change Mem w _ [] [] at hM;refine c_loop (fun (kk:Nat) a w'=>kk≤0∧(True)∧Fr 27 a [(0,.slice none 0 0),(1,.slice none 0 0),(10,.bool (decide ((0:Int)≠0))),(5,.int .i64 (kk:Int))]∧Mem w w' [] []) (fun kk=>0 - kk) 0 ?_ ?_
  · refine ⟨by omega,trivial,hF.sub _ (by repeat' constructor),?_⟩
    exact hM
  clear hF hM;rintro gk a w' ⟨hgk,hinv1,hF,hM⟩;refine sq<|sr<|mv hF rfl rfl fun a hF=>mv hF rfl rfl fun a hF=>st hF (g_len0 ty_us_27 hF rfl) rfl fun a hF=>st hF (g_lss hF rfl rfl) rfl fun a hF=>nt<|c_cond hF rfl (fun h2=>?_) (fun h2=>?_)
  · first | (exfalso;omega) | contradiction
  obtain rfl:0=gk:=by omega
  refine wp_exit<|tX<|tX<|ib_same<|tN<|sr<|ag hF rfl rfl fun a hF=>nt<|wp_ret<|fin1 rfl hF.defers (res_tmp hF rfl) ⟨_,rfl,hM.below,?_⟩
  show _=_
  rfl
theorem markVectorS_ok (b c m k Z:Nat)(xs:Nat→Value)(w:World)(hm:m≤10)(hk:k≤100)(hZ:m*6≤Z)(hb:Blk w b (mrk Z k 0 xs)) :
    CallsX Tryz.prog [b] 13 #[.slice (some ⟨b,0,none⟩) m c,.int .i64 (k:Int)] w (fun v w'=>v = .int .i64 ((k+m*6:Nat):Int)∧Blk w' b (mrk Z k (m*6) xs)):=by
  refine calls_frX [.slice (some ⟨b,0,none⟩) m c,.int .i64 (k:Int)] Tryz.func13 rfl Tryz.ntmps13 rfl fun a hF=>?_;have hM:MemX [b] w w [some (b,mrk Z k 0 xs)] []:=MemX.startX1 0 hb;change Fr 27 a [(0,.slice (some ⟨b,0,none⟩) m c),(1,.int .i64 (k:Int))] at hF;refine sr<|ag hF rfl rfl fun a hF=>nt<|sq<|sr<|ag hF rfl rfl fun a hF=>nt<|wp_block ?_;change MemX [b] w _ [some (b,mrk Z k 0 xs)] [] at hM;refine c_loop (fun (kk:Nat) a w'=>kk≤m∧(True)∧Fr 27 a [(0,.slice (some ⟨b,0,none⟩) m c),(4,.int .i64 (0)),(5,.int .i64 (kk:Int)),(1,.int .i64 (((k+kk*6:Nat):Int)))]∧MemX [b] w w' [some (b,mrk Z k (kk*6) xs)] []) (fun kk=>m - kk) 0 ?_ ?_
  · refine ⟨by omega,trivial,hF.sub _ (by repeat' constructor),?_⟩
    refine hM.rowc 0 rfl (mrk_congr (by omega))
  clear hF hM;rintro gi a w' ⟨hgi,hinv1,hF,hM⟩;refine sq<|sr<|mv hF rfl rfl fun a hF=>mv hF rfl rfl fun a hF=>st hF (g_len ty_us_27 hF rfl) rfl fun a hF=>st hF (g_lss hF rfl rfl) rfl fun a hF=>nt<|c_cond hF rfl (fun h1=>?_) (fun h1=>?_)
  · refine wp_skip ?_
    refine tN<|sq<|wp_block<|sr<|ag hF rfl rfl fun a hF=>nt<|wp_block ?_;change MemX [b] w _ [some (b,mrk Z k (gi*6) xs)] [] at hM;refine c_loop (fun (kk:Nat) a w'=>kk≤6∧(True)∧Fr 27 a [(0,.slice (some ⟨b,0,none⟩) m c),(4,.int .i64 (0)),(5,.int .i64 (gi:Int)),(7,.int .i64 (gi:Int)),(8,.slice (some ⟨b,0,none⟩) m c),(9,.int .i64 (m:Int)),(10,.bool (decide (((gi:Int):Int)<(m:Int)))),(6,.int .i64 (kk:Int)),(1,.int .i64 (((k+gi*6+kk:Nat):Int)))]∧MemX [b] w w' [some (b,mrk Z k (gi*6+kk) xs)] []) (fun kk=>6 - kk) 0 ?_ ?_
    · refine ⟨by omega,trivial,hF.sub _ (by repeat' constructor),?_⟩
      refine hM.rowc 0 rfl (mrk_congr (by omega))
    clear hF hM;rintro gj a w' ⟨hgj,hinv2,hF,hM⟩;refine sq<|sr<|mv hF rfl rfl fun a hF=>st hF (g_lss hF rfl rfl) rfl fun a hF=>nt<|c_cond hF rfl (fun h2=>?_) (fun h2=>?_)
    · refine wp_skip ?_
      refine tN<|sq<|wp_block<|sr<|mv hF rfl rfl fun a hF=>mv hF rfl rfl fun a hF=>mv hF rfl rfl fun a hF=>mv hF rfl rfl fun a hF=>st hF (g_conv ty_un_5 ty_ud_3 hF rfl (wrap_u8 (by omega) (by omega))) rfl fun a hF=>st hF (g_indexSl (i:=gi) ty_sl_27 hF rfl rfl rfl (by omega)) rfl fun a hF=>st hF (g_indexAddr ty_ar_30 hF rfl rfl rfl (by omega)) rfl fun a hF=>stN hF (d_store 0 hM rfl ty_on_5 hF rfl rfl rfl (by first | omega | (simp only [sz0,dgC_size,numC_sz,ldB_size,rowV_size,mrk_size]<;>omega) | (simp only [Array.size_setIfInBounds];omega) | simp)) ?_;intro _ w' a hM hF;change MemX [b] w w' [some (b,(mrk Z k (gi*6+gj) xs).setIfInBounds (0+(gi)*6+(gj)*1) (.int .u8 (((k+gi*6+gj:Nat):Int))))] [] at hM;refine nt<|wp_region_lit<|mv hF rfl rfl fun a hF=>st hF (g_add hF rfl rfl (add_nat (k+gi*6+gj) (1) (by omega))) rfl fun a hF=>ag hF rfl rfl fun a hF=>wpList_nil<|iN<|tN<|wp_region_lit<|mv hF rfl rfl fun a hF=>st hF (g_add hF rfl rfl (add_nat (gj) (1) (by omega))) rfl fun a hF=>ag hF rfl rfl fun a hF=>nt<|⟨gj+1,⟨by omega,trivial,hF.sub _ (by repeat' constructor),?_⟩,by omega⟩;refine hM.rowc 0 rfl ?_;rw [show k+gi*6+gj=k+(gi*6+gj) by omega];exact mrk_set (by omega) (by omega)
    obtain rfl:6=gj:=by omega
    refine wp_exit<|tX<|tX<|ib_same<|iN<|tN<|wp_region_lit<|mv hF rfl rfl fun a hF=>st hF (g_add hF rfl rfl (add_nat (gi) (1) (by omega))) rfl fun a hF=>ag hF rfl rfl fun a hF=>wpList_nil<|tN ?_;rw [show k+gi*6+6=k+(gi+1)*6 from by omega] at hF;refine ⟨gi+1,⟨by omega,trivial,hF.sub _ (by repeat' constructor),?_⟩,by omega⟩;refine hM.rowc 0 rfl (mrk_congr (by omega))
  obtain rfl:m=gi:=by omega
  refine wp_exit<|tX<|tX<|ib_same<|tN<|sr<|mv hF rfl rfl fun a hF=>ag hF rfl rfl fun a hF=>nt<|wp_ret<|fin1 rfl hF.defers (res_tmp hF rfl) ⟨_,rfl,hM.bel,?_⟩;exact ⟨rfl,hM.row 0 rfl⟩
theorem markVectorS_0 (k:Nat)(w:World)(hk:k≤100) :
    CallsR Tryz.prog 13 #[.slice none 0 0,.int .i64 (k:Int)] w (fun res _=>res = .int .i64 (k:Int)):=by
  refine calls_fr [.slice none 0 0,.int .i64 (k:Int)] Tryz.func13 rfl Tryz.ntmps13 rfl fun a hF=>?_;have hM:Mem w w [] []:=MemX.start w 0;change Fr 27 a [(0,.slice none 0 0),(1,.int .i64 (k:Int))] at hF;refine sr<|ag hF rfl rfl fun a hF=>nt<|sq<|sr<|ag hF rfl rfl fun a hF=>nt<|wp_block ?_;change Mem w _ [] [] at hM;refine c_loop (fun (kk:Nat) a w'=>kk≤0∧(True)∧Fr 27 a [(0,.slice none 0 0),(4,.int .i64 (0)),(5,.int .i64 (kk:Int)),(1,.int .i64 (k:Int))]∧Mem w w' [] []) (fun kk=>0 - kk) 0 ?_ ?_
  · refine ⟨by omega,trivial,hF.sub _ (by repeat' constructor),?_⟩
    exact hM
  clear hF hM;rintro gi a w' ⟨hgi,hinv1,hF,hM⟩;refine sq<|sr<|mv hF rfl rfl fun a hF=>mv hF rfl rfl fun a hF=>st hF (g_len0 ty_us_27 hF rfl) rfl fun a hF=>st hF (g_lss hF rfl rfl) rfl fun a hF=>nt<|c_cond hF rfl (fun h1=>?_) (fun h1=>?_)
  · exfalso;omega
  obtain rfl:0=gi:=by omega
  refine wp_exit<|tX<|tX<|ib_same<|tN<|sr<|mv hF rfl rfl fun a hF=>ag hF rfl rfl fun a hF=>nt<|wp_ret<|fin1 rfl hF.defers (res_tmp hF rfl) ⟨_,rfl,hM.below,?_⟩
  show _=_
  rfl
theorem heldVectorS_ok (b c m k Z:Nat)(xs:Nat→Value)(w:World)(hm:m≤10)(hk:k≤100)(hZ:m*6≤Z)(hb:Blk w b (mrk Z k (m*6) xs)) :
    CallsX Tryz.prog [b] 14 #[.slice (some ⟨b,0,none⟩) m c,.int .i64 (k:Int)] w (fun v w'=>v = .int .i64 ((k+m*6:Nat):Int)∧Blk w' b (mrk Z k (m*6) xs)):=by
  refine calls_frX [.slice (some ⟨b,0,none⟩) m c,.int .i64 (k:Int)] Tryz.func14 rfl Tryz.ntmps14 rfl fun a hF=>?_;have hM:MemX [b] w w [some (b,mrk Z k (m*6) xs)] []:=MemX.startX1 0 hb;change Fr 29 a [(0,.slice (some ⟨b,0,none⟩) m c),(1,.int .i64 (k:Int))] at hF;refine sr<|ag hF rfl rfl fun a hF=>nt<|sq<|sr<|ag hF rfl rfl fun a hF=>nt<|wp_block ?_;change MemX [b] w _ [some (b,mrk Z k (m*6) xs)] [] at hM;refine c_loop (fun (kk:Nat) a w'=>kk≤m∧(True)∧Fr 29 a [(0,.slice (some ⟨b,0,none⟩) m c),(5,.int .i64 (kk:Int)),(1,.int .i64 (((k+kk*6:Nat):Int)))]∧MemX [b] w w' [some (b,mrk Z k (m*6) xs)] []) (fun kk=>m - kk) 0 ?_ ?_
  · refine ⟨by omega,trivial,hF.sub _ (by repeat' constructor),?_⟩
    exact hM
  clear hF hM;rintro gi a w' ⟨hgi,hinv1,hF,hM⟩;refine sq<|sr<|mv hF rfl rfl fun a hF=>mv hF rfl rfl fun a hF=>st hF (g_len ty_us_27 hF rfl) rfl fun a hF=>st hF (g_lss hF rfl rfl) rfl fun a hF=>nt<|c_cond hF rfl (fun h1=>?_) (fun h1=>?_)
  · refine wp_skip ?_
    refine tN<|sq<|wp_block<|sr<|ag hF rfl rfl fun a hF=>nt<|wp_block ?_;change MemX [b] w _ [some (b,mrk Z k (m*6) xs)] [] at hM;refine c_loop (fun (kk:Nat) a w'=>kk≤6∧(True)∧Fr 29 a [(0,.slice (some ⟨b,0,none⟩) m c),(5,.int .i64 (gi:Int)),(7,.int .i64 (gi:Int)),(8,.slice (some ⟨b,0,none⟩) m c),(9,.int .i64 (m:Int)),(10,.bool (decide (((gi:Int):Int)<(m:Int)))),(6,.int .i64 (kk:Int)),(1,.int .i64 (((k+gi*6+kk:Nat):Int)))]∧MemX [b] w w' [some (b,mrk Z k (m*6) xs)] []) (fun kk=>6 - kk) 0 ?_ ?_
    · refine ⟨by omega,trivial,hF.sub _ (by repeat' constructor),?_⟩
      exact hM
    clear hF hM;rintro gj a w' ⟨hgj,hinv2,hF,hM⟩;refine sq<|sr<|mv hF rfl rfl fun a hF=>st hF (g_lss hF rfl rfl) rfl fun a hF=>nt<|c_cond hF rfl (fun h2=>?_) (fun h2=>?_)
    · refine wp_skip ?_
      refine tN<|sq<|wp_block<|sq<|sr<|mv hF rfl rfl fun a hF=>mv hF rfl rfl fun a hF=>mv hF rfl rfl fun a hF=>st hF (g_indexSl (i:=gi) ty_sl_27 hF rfl rfl rfl (by omega)) rfl fun a hF=>st hF (g_indexAddr ty_ar_30 hF rfl rfl rfl (by omega)) rfl fun a hF=>st hF (g_load ty_on_5 hF rfl (hM.row 0 rfl) (mrk_get (c:=gi*6+gj) (by omega) (by omega) (by omega))) rfl fun a hF=>mv hF rfl rfl fun a hF=>st hF (g_conv ty_un_5 ty_ud_3 hF rfl (wrap_u8 (by omega) (by omega))) rfl fun a hF=>st hF (g_neq hF rfl rfl) rfl fun a hF=>nt<|c_cond hF rfl (fun h3=>?_) (fun h3=>?_)
      · exfalso;omega
      refine wp_skip<|tN<|wp_region_lit<|mv hF rfl rfl fun a hF=>st hF (g_add hF rfl rfl (add_nat (k+gi*6+gj) (1) (by omega))) rfl fun a hF=>ag hF rfl rfl fun a hF=>wpList_nil<|iN<|tN<|wp_region_lit<|mv hF rfl rfl fun a hF=>st hF (g_add hF rfl rfl (add_nat (gj) (1) (by omega))) rfl fun a hF=>ag hF rfl rfl fun a hF=>nt<|⟨gj+1,⟨by omega,trivial,hF.sub _ (by repeat' constructor),?_⟩,by omega⟩;exact hM
    obtain rfl:6=gj:=by omega
    refine wp_exit<|tX<|tX<|ib_same<|iN<|tN<|wp_region_lit<|mv hF rfl rfl fun a hF=>st hF (g_add hF rfl rfl (add_nat (gi) (1) (by omega))) rfl fun a hF=>ag hF rfl rfl fun a hF=>wpList_nil<|tN ?_;rw [show k+gi*6+6=k+(gi+1)*6 from by omega] at hF;refine ⟨gi+1,⟨by omega,trivial,hF.sub _ (by repeat' constructor),?_⟩,by omega⟩;exact hM
  obtain rfl:m=gi:=by omega
  refine wp_exit<|tX<|tX<|ib_same<|tN<|sr<|mv hF rfl rfl fun a hF=>ag hF rfl rfl fun a hF=>nt<|wp_ret<|fin1 rfl hF.defers (res_tmp hF rfl) ⟨_,rfl,hM.bel,?_⟩;exact ⟨rfl,hM.row 0 rfl⟩
theorem heldVectorS_0 (k:Nat)(w:World)(hk:k≤100) :
    CallsR Tryz.prog 14 #[.slice none 0 0,.int .i64 (k:Int)] w (fun res _=>res = .int .i64 (k:Int)):=by
  refine calls_fr [.slice none 0 0,.int .i64 (k:Int)] Tryz.func14 rfl Tryz.ntmps14 rfl fun a hF=>?_;have hM:Mem w w [] []:=MemX.start w 0;change Fr 29 a [(0,.slice none 0 0),(1,.int .i64 (k:Int))] at hF;refine sr<|ag hF rfl rfl fun a hF=>nt<|sq<|sr<|ag hF rfl rfl fun a hF=>nt<|wp_block ?_;change Mem w _ [] [] at hM;refine c_loop (fun (kk:Nat) a w'=>kk≤0∧(True)∧Fr 29 a [(0,.slice none 0 0),(5,.int .i64 (kk:Int)),(1,.int .i64 (k:Int))]∧Mem w w' [] []) (fun kk=>0 - kk) 0 ?_ ?_
  · refine ⟨by omega,trivial,hF.sub _ (by repeat' constructor),?_⟩
    exact hM
  clear hF hM;rintro gi a w' ⟨hgi,hinv1,hF,hM⟩;refine sq<|sr<|mv hF rfl rfl fun a hF=>mv hF rfl rfl fun a hF=>st hF (g_len0 ty_us_27 hF rfl) rfl fun a hF=>st hF (g_lss hF rfl rfl) rfl fun a hF=>nt<|c_cond hF rfl (fun h1=>?_) (fun h1=>?_)
  · exfalso;omega
  obtain rfl:0=gi:=by omega
  refine wp_exit<|tX<|tX<|ib_same<|tN<|sr<|mv hF rfl rfl fun a hF=>ag hF rfl rfl fun a hF=>nt<|wp_ret<|fin1 rfl hF.defers (res_tmp hF rfl) ⟨_,rfl,hM.below,?_⟩
  show _=_
  rfl
end Go.Proofs.YtmlnjicajdbjlaaGreatDoor
namespace Go.Proofs.YtmlnjicajdbjlaaGreatDoor
open Go Go.RowKit Go.Sw Go.Ech
open Classical
end Go.Proofs.YtmlnjicajdbjlaaGreatDoor
