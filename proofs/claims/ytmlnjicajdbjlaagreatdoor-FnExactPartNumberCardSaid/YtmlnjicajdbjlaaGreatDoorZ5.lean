import Derived.Test.YtmlnjicajdbjlaaGreatDoorZ4
set_option linter.unusedVariables false
set_option linter.unusedSimpArgs false
namespace Go.Proofs.YtmlnjicajdbjlaaGreatDoor
open Go Go.RowKit Go.Sw Go.Ech
open Classical
def cmpB (x y:Nat):Int:=if x<y then -1 else if y<x then 1 else 0
def ltV (x y:Nat→Nat):Prop:=∃ i,i<6∧(∀ j,j<i→x j=y j)∧x i<y i
instance (x y:Nat→Nat):Decidable (ltV x y):=inferInstanceAs (Decidable (∃ i,i<6∧(∀ j,j<i→x j=y j)∧x i<y i))
def cmpV (x y:Nat→Nat):Int:=if ltV x y then -1 else if ltV y x then 1 else 0
theorem ltV_at {x y:Nat→Nat}{i:Nat}(hi:i<6)(h:∀ j,j<i→x j=y j)(hne:x i≠y i):ltV x y↔x i<y i:=by
  constructor
  · rintro ⟨k,hk,h1,h2⟩
    rcases Nat.lt_trichotomy k i with e | e | e
    · have:=h k e;omega
    · rw [← e];exact h2
    · exact absurd (h1 i e) hne
  · intro h2;exact ⟨i,hi,h,h2⟩
theorem ltV_no {x y:Nat→Nat}(h:∀ j,j<6→x j=y j):¬ ltV x y:=fun ⟨k,hk,_,h2⟩=>by have:=h k hk;omega
theorem cmpV_at {x y:Nat→Nat}{i:Nat}(hi:i<6)(h:∀ j,j<i→x j=y j)(hne:x i≠y i):cmpV x y=cmpB (x i) (y i):=by
  have h1:=ltV_at hi h hne;have h2:=ltV_at hi (fun j hj=>(h j hj).symm) hne.symm
  unfold cmpV cmpB
  by_cases e:x i<y i
  · rw [if_pos (h1.2 e),if_pos e]
  · rw [if_neg (fun q=>e (h1.1 q)),if_neg e,if_pos (h2.2 (by omega)),if_pos (by omega)]
theorem cmpV_eq {x y:Nat→Nat}(h:∀ j,j<6→x j=y j):cmpV x y=0:=by
  unfold cmpV;rw [if_neg (ltV_no h),if_neg (ltV_no fun j hj=>(h j hj).symm)]
theorem cmpB_zero {x y:Nat}:cmpB x y=0↔x=y:=by
  unfold cmpB;repeat' split
  all_goals (constructor<;>intro h<;>omega)
theorem cmpB_lt {x y:Nat}:-2<cmpB x y∧cmpB x y<2:=by unfold cmpB;repeat' split<;>omega
theorem cmpV_neg {x y:Nat→Nat}:cmpV x y<0↔ltV x y:=by
  unfold cmpV;repeat' split
  all_goals (constructor<;>intro h<;>first | assumption | omega | exact absurd h (by assumption))
theorem next_eq {x y:Nat→Nat}{g:Nat}(h:∀ j,j<g→x j=y j)(e:x g=y g):∀ j,j<g+1→x j=y j:=fun j hj=>by
  by_cases e2:j=g
  · rw [e2];exact e
  · exact h j (by omega)
theorem isNaN_ok (x:Nat)(w:World)(hx:x<256) :
    CallsR Tryz.prog 144 #[.int .u8 (x:Int)] w (fun res _=>res = .bool false):=by
  refine calls_fr [.int .u8 (x:Int)] Tryz.func144 rfl Tryz.ntmps144 rfl fun a hF=>?_;have hM:Mem w w [] []:=MemX.start w 0;change Fr 6 a [(0,.int .u8 (x:Int))] at hF;refine sr<|ag hF rfl rfl fun a hF=>ns<|mv hF rfl rfl fun a hF=>mv hF rfl rfl fun a hF=>st hF (g_neq hF rfl rfl) rfl fun a hF=>ag hF rfl rfl fun a hF=>nt<|wp_ret<|fin1 rfl hF.defers (res_tmp hF rfl) ⟨_,rfl,hM.below,?_⟩
  show _=_
  first | rfl | simp
theorem cmpB_ok (x y:Nat)(w:World)(hx:x<256)(hy:y<256) :
    CallsR Tryz.prog 138 #[.int .u8 (x:Int),.int .u8 (y:Int)] w (fun res _=>res = .int .i64 (cmpB x y)):=by
  refine calls_fr [.int .u8 (x:Int),.int .u8 (y:Int)] Tryz.func138 rfl Tryz.ntmps138 rfl fun a hF=>?_;have hM:Mem w w [] []:=MemX.start w 0;change Fr 20 a [(0,.int .u8 (x:Int)),(1,.int .u8 (y:Int))] at hF;refine sr<|ag hF rfl rfl fun a hF=>ns<|mv hF rfl rfl fun a hF=>stR hF (d_call Tryz.call144 hF (.cons rfl .nil) (isNaN_ok (x) _ (by omega))) rfl ?_;rintro _ w' a ⟨hx,rfl⟩ hF;have hM:=hM.ext hx;refine ag hF rfl rfl fun a hF=>ns<|mv hF rfl rfl fun a hF=>stR hF (d_call Tryz.call144 hF (.cons rfl .nil) (isNaN_ok (y) _ (by omega))) rfl ?_;rintro _ w' a ⟨hx,rfl⟩ hF;have hM:=hM.ext hx;refine ag hF rfl rfl fun a hF=>nt<|sq<|sr<|mv hF rfl rfl fun a hF=>nt<|c_Fl hF rfl<|wp_skip<|tN<|sq<|sr<|mv hF rfl rfl fun a hF=>nt<|c_Fl hF rfl<|wp_skip<|tN<|sq<|sr<|mv hF rfl rfl fun a hF=>mv hF rfl rfl fun a hF=>st hF (g_lss hF rfl rfl) rfl fun a hF=>nt<|c_cond hF rfl (fun h3=>?_) (fun h3=>?_)
  · refine sq ?_
    refine wp_region_lit<|ag hF rfl rfl fun a hF=>nt<|wp_ret<|tR<|fin1 rfl hF.defers (res_tmp hF rfl) ⟨_,rfl,hM.below,?_⟩
    show _=_
    unfold cmpB
    first | rfl | (repeat' split)<;>first | rfl | (exfalso;omega)
  refine wp_skip<|tN<|sq<|sr<|mv hF rfl rfl fun a hF=>mv hF rfl rfl fun a hF=>st hF (g_gtr hF rfl rfl) rfl fun a hF=>nt<|c_cond hF rfl (fun h4=>?_) (fun h4=>?_)
  · refine sq ?_
    refine wp_region_lit<|ag hF rfl rfl fun a hF=>nt<|wp_ret<|tR<|fin1 rfl hF.defers (res_tmp hF rfl) ⟨_,rfl,hM.below,?_⟩
    show _=_
    unfold cmpB
    first | rfl | (repeat' split)<;>first | rfl | (exfalso;omega)
  refine wp_skip<|tN<|sr<|ag hF rfl rfl fun a hF=>nt<|wp_ret<|fin1 rfl hF.defers (res_tmp hF rfl) ⟨_,rfl,hM.below,?_⟩
  show _=_
  unfold cmpB
  first | rfl | (repeat' split)<;>first | rfl | (exfalso;omega)
theorem sliceCompare_ok (b1 b2:Nat)(x y:Nat→Nat)(w:World)(hb1:Blk w b1 (vecC x))(hb2:Blk w b2 (vecC y))(hx:∀ i,x i≤255)(hy:∀ i,y i≤255) :
    CallsR Tryz.prog 121 #[.slice (some ⟨b1,0,none⟩) 6 6,.slice (some ⟨b2,0,none⟩) 6 6] w (fun res _=>res = .int .i64 (cmpV x y)):=by
  refine calls_fr [.slice (some ⟨b1,0,none⟩) 6 6,.slice (some ⟨b2,0,none⟩) 6 6] Tryz.func121 rfl Tryz.ntmps121 rfl fun a hF=>?_;have hM:Mem w w [] [(b1,vecC x),(b2,vecC y)]:=MemX.startD w 0 _ (startD2 hb1 hb2);change Fr 36 a [(0,.slice (some ⟨b1,0,none⟩) 6 6),(1,.slice (some ⟨b2,0,none⟩) 6 6)] at hF;refine sr<|ag hF rfl rfl fun a hF=>nt<|sq<|sr<|mv hF rfl rfl fun a hF=>st hF (g_len ty_us_116 hF rfl) rfl fun a hF=>mv hF rfl rfl fun a hF=>nt<|wp_block ?_;change Mem w _ [] [(b1,vecC x),(b2,vecC y)] at hM;refine c_loop (fun (kk:Nat) a w'=>kk≤6∧(∀ j,j<kk→x j=y j)∧Fr 36 a [(0,.slice (some ⟨b1,0,none⟩) 6 6),(1,.slice (some ⟨b2,0,none⟩) 6 6),(9,.slice (some ⟨b1,0,none⟩) 6 6),(10,.int .i64 (6)),(11,.int .i64 (kk:Int))]∧Mem w w' [] [(b1,vecC x),(b2,vecC y)]) (fun kk=>6 - kk) 0 ?_ ?_
  · refine ⟨by omega,fun j hj=>absurd hj (by omega),hF.sub _ (by repeat' constructor),?_⟩
    exact hM
  clear hF hM;rintro gi a w' ⟨hgi,hinv1,hF,hM⟩;have hxg:=hx gi;have hyg:=hy gi;have hcb:=cmpB_lt (x:=x gi) (y:=y gi);refine sr<|st hF (g_lss hF rfl rfl) rfl fun a hF=>nt<|sq<|c_cond hF rfl (fun h1=>?_) (fun h1=>?_)
  · refine wp_skip ?_
    refine tN<|sq<|wp_block<|sr<|mv hF rfl rfl fun a hF=>st hF (g_indexSl (i:=gi) ty_sl_116 hF rfl rfl rfl (by omega)) rfl fun a hF=>st hF (g_load ty_on_5 hF rfl (hM.fz 0 rfl) (vecC_get (gi) (by omega) (by omega))) rfl fun a hF=>ag hF rfl rfl fun a hF=>ag hF rfl rfl fun a hF=>nt<|sq<|sr<|mv hF rfl rfl fun a hF=>mv hF rfl rfl fun a hF=>st hF (g_len ty_us_116 hF rfl) rfl fun a hF=>st hF (g_geq hF rfl rfl) rfl fun a hF=>nt<|c_cond hF rfl (fun h2=>?_) (fun h2=>?_)
    · refine sq ?_
      refine wp_region_lit<|ag hF rfl rfl fun a hF=>nt<|wp_ret<|tR<|iR<|tR<|tR<|iR<|tR<|fin1 rfl hF.defers (res_tmp hF rfl) ⟨_,rfl,hM.below,?_⟩
      show _=_
      first | exact congrArg (Value.int .i64) (cmpV_at (by omega) hinv1 (fun e=>(by assumption:¬ cmpB (x gi) (y gi)=0) (cmpB_zero.2 e))).symm | exact congrArg (Value.int .i64) (cmpV_eq hinv1).symm | (exfalso;omega)
    refine wp_skip<|tN<|sr<|mv hF rfl rfl fun a hF=>mv hF rfl rfl fun a hF=>st hF (g_indexSl (i:=gi) ty_sl_116 hF rfl rfl rfl (by omega)) rfl fun a hF=>st hF (g_load ty_on_5 hF rfl (hM.fz 1 rfl) (vecC_get (gi) (by omega) (by omega))) rfl fun a hF=>ag hF rfl rfl fun a hF=>ns<|mv hF rfl rfl fun a hF=>mv hF rfl rfl fun a hF=>stR hF (d_call Tryz.call138 hF (.cons rfl (.cons rfl .nil)) (cmpB_ok (x (gi)) (y (gi)) _ (by first | omega | exact Nat.lt_of_le_of_lt (hx _) (by decide)) (by first | omega | exact Nat.lt_of_le_of_lt (hy _) (by decide)))) rfl ?_;rintro _ w' a ⟨hx,rfl⟩ hF;have hM:=hM.ext hx;refine ag hF rfl rfl fun a hF=>ns<|mv hF rfl rfl fun a hF=>st hF (g_neq hF rfl rfl) rfl fun a hF=>nt<|c_cond hF rfl (fun h3=>?_) (fun h3=>?_)
    · refine sq ?_
      refine wp_region_lit<|mv hF rfl rfl fun a hF=>ag hF rfl rfl fun a hF=>nt<|wp_ret<|iR<|tR<|tR<|iR<|tR<|fin1 rfl hF.defers (res_tmp hF rfl) ⟨_,rfl,hM.below,?_⟩
      show _=_
      first | exact congrArg (Value.int .i64) (cmpV_at (by omega) hinv1 (fun e=>(by assumption:¬ cmpB (x gi) (y gi)=0) (cmpB_zero.2 e))).symm | exact congrArg (Value.int .i64) (cmpV_eq hinv1).symm | (exfalso;omega)
    refine wp_skip<|iN<|tN<|wp_region_lit<|st hF (g_add hF rfl rfl (add_nat (gi) (1) (by omega))) rfl fun a hF=>mv hF rfl rfl fun a hF=>nt<|⟨gi+1,⟨by omega,next_eq hinv1 (cmpB_zero.1 (by first | assumption | exact Decidable.not_not.1 (by assumption))),hF.sub _ (by repeat' constructor),?_⟩,by omega⟩;exact hM
  obtain rfl:6=gi:=by omega
  refine wp_exit<|tX<|tX<|ib_same<|tN<|sq<|sr<|mv hF rfl rfl fun a hF=>st hF (g_len ty_us_116 hF rfl) rfl fun a hF=>mv hF rfl rfl fun a hF=>st hF (g_len ty_us_116 hF rfl) rfl fun a hF=>st hF (g_lss hF rfl rfl) rfl fun a hF=>nt<|c_cond hF rfl (fun h4=>?_) (fun h4=>?_)
  · refine sq ?_
    refine wp_region_lit<|ag hF rfl rfl fun a hF=>nt<|wp_ret<|tR<|fin1 rfl hF.defers (res_tmp hF rfl) ⟨_,rfl,hM.below,?_⟩
    show _=_
    first | exact congrArg (Value.int .i64) (cmpV_at (by omega) hinv1 (fun e=>(by assumption:¬ cmpB (x gi) (y gi)=0) (cmpB_zero.2 e))).symm | exact congrArg (Value.int .i64) (cmpV_eq hinv1).symm | (exfalso;omega)
  refine wp_skip<|tN<|sr<|ag hF rfl rfl fun a hF=>nt<|wp_ret<|fin1 rfl hF.defers (res_tmp hF rfl) ⟨_,rfl,hM.below,?_⟩
  show _=_
  first | exact congrArg (Value.int .i64) (cmpV_at (by omega) hinv1 (fun e=>(by assumption:¬ cmpB (x gi) (y gi)=0) (cmpB_zero.2 e))).symm | exact congrArg (Value.int .i64) (cmpV_eq hinv1).symm | (exfalso;omega)
theorem compareVectors_ok (x y:Nat→Nat)(w:World)(hx:∀ i,x i≤255)(hy:∀ i,y i≤255) :
    CallsR Tryz.prog 99 #[.agg (vecC x),.agg (vecC y)] w (fun res _=>res = .int .i64 (cmpV x y)):=by
  refine calls_fr [.agg (vecC x),.agg (vecC y)] Tryz.func99 rfl Tryz.ntmps99 rfl fun a hF=>?_;have hM:Mem w w [none,none] []:=MemX.start w 2;change Fr 8 a [(0,.agg (vecC x)),(1,.agg (vecC y))] at hF;refine sr<|stR hF (d_box 0 hM hF rfl) rfl ?_;rintro _ w' a ⟨b1,rfl,hM,-⟩ hF;refine stR hF (d_box 1 hM hF rfl) rfl ?_;rintro _ w' a ⟨b2,rfl,hM,-⟩ hF;change Mem w w' [some (b1,vecC x),some (b2,vecC y)] [] at hM;refine ag hF rfl rfl fun a hF=>nt<|sq<|c_par 2 [] [.val (.slice (some ⟨b1,0,none⟩) 6 6),.val (.slice (some ⟨b2,0,none⟩) 6 6)] hmix rfl hF rfl hM ⟨fun a w gG hF hS hd=>by exact par_val hS rfl (g_sliceArr ty_ua_30 ty_sz_5 (by decide) hF rfl),fun a w gG hF hS hd=>by exact par_val hS rfl (g_sliceArr ty_ua_30 ty_sz_5 (by decide) hF rfl),trivial⟩ ?_;intro a w' L hF hS hq;have hF:=hF.ext1 5 (hq 0 rfl rfl);have hF:=hF.ext1 6 (hq 1 rfl rfl);have hM:=hS.mem rfl;change wpList Tryz.prog _ _ [_,_] _ _;refine stR hF (d_call Tryz.call121 hF (.cons rfl (.cons rfl .nil)) (sliceCompare_ok _ _ (x) (y) _ (hM.row 0 rfl) (hM.row 1 rfl) hx hy)) rfl ?_;rintro _ w' a ⟨hx,rfl⟩ hF;have hM:=hM.ext hx;refine ag hF rfl rfl fun a hF=>nt<|wp_ret<|fin1 rfl hF.defers (res_tmp hF rfl) ⟨_,rfl,hM.below,?_⟩
  show _=_
  rfl
theorem l05Before_ok (x y:Nat→Nat)(w:World)(hx:∀ i,x i≤255)(hy:∀ i,y i≤255) :
    CallsR Tryz.prog 76 #[.agg (vecC x),.agg (vecC y)] w (fun res _=>res = .bool (decide (ltV x y))):=by
  refine calls_fr [.agg (vecC x),.agg (vecC y)] Tryz.func76 rfl Tryz.ntmps76 rfl fun a hF=>?_;have hM:Mem w w [none,none] []:=MemX.start w 2;change Fr 24 a [(0,.agg (vecC x)),(1,.agg (vecC y))] at hF;refine sr<|stR hF (d_box 0 hM hF rfl) rfl ?_;rintro _ w' a ⟨b1,rfl,hM,-⟩ hF;refine stR hF (d_box 1 hM hF rfl) rfl ?_;rintro _ w' a ⟨b2,rfl,hM,-⟩ hF;refine ag hF rfl rfl fun a hF=>nt<|sq<|sr<|ag hF rfl rfl fun a hF=>nt<|wp_block ?_;change Mem w _ [some (b1,vecC x),some (b2,vecC y)] [] at hM;refine c_loop (fun (kk:Nat) a w'=>kk≤6∧(∀ j,j<kk→x j=y j)∧Fr 24 a [(2,ptr b1 (0)),(3,ptr b2 (0)),(5,.int .i64 (kk:Int))]∧Mem w w' [some (b1,vecC x),some (b2,vecC y)] []) (fun kk=>6 - kk) 0 ?_ ?_
  · refine ⟨by omega,fun j hj=>absurd hj (by omega),hF.sub _ (by repeat' constructor),?_⟩
    exact hM
  clear hF hM;rintro gi a w' ⟨hgi,hinv1,hF,hM⟩;have hxg:=hx gi;have hyg:=hy gi;refine sq<|sr<|mv hF rfl rfl fun a hF=>st hF (g_lss hF rfl rfl) rfl fun a hF=>nt<|c_cond hF rfl (fun h3=>?_) (fun h3=>?_)
  · refine wp_skip ?_
    refine tN<|sq<|wp_block<|sq<|c_par 6 [] [.val (.int .i64 (gi:Int)),.val (ptr b1 (0+(gi)*1)),.val (.int .u8 ((x (gi):Int))),.val (.int .i64 (gi:Int)),.val (ptr b2 (0+(gi)*1)),.val (.int .u8 ((y (gi):Int)))] hmix rfl hF rfl hM ⟨fun a w gG hF hS hd=>by exact pmv hS rfl hF rfl,fun a w gG hF hS hd=>by have hF:=hF.ext1 10 (hd 0 rfl rfl);exact par_val hS rfl (g_indexAddr ty_ar_30 hF rfl rfl rfl (by omega)),fun a w gG hF hS hd=>by have hF:=hF.ext1 11 (hd 1 rfl rfl);have hM:=hS.mem rfl;exact par_val hS rfl (g_load ty_on_5 hF rfl (hM.row 0 rfl) (vecC_get (gi) (by omega) (by omega))),fun a w gG hF hS hd=>by exact pmv hS rfl hF rfl,fun a w gG hF hS hd=>by have hF:=hF.ext1 13 (hd 3 rfl rfl);exact par_val hS rfl (g_indexAddr ty_ar_30 hF rfl rfl rfl (by omega)),fun a w gG hF hS hd=>by have hF:=hF.ext1 14 (hd 4 rfl rfl);have hM:=hS.mem rfl;exact par_val hS rfl (g_load ty_on_5 hF rfl (hM.row 1 rfl) (vecC_get (gi) (by omega) (by omega))),trivial⟩ ?_;intro a w' L hF hS hq;have hF:=hF.ext1 10 (hq 0 rfl rfl);have hF:=hF.ext1 11 (hq 1 rfl rfl);have hF:=hF.ext1 12 (hq 2 rfl rfl);have hF:=hF.ext1 13 (hq 3 rfl rfl);have hF:=hF.ext1 14 (hq 4 rfl rfl);have hF:=hF.ext1 15 (hq 5 rfl rfl);have hM:=hS.mem rfl;change wpList Tryz.prog _ _ [_] _ _;refine st hF (g_neq hF rfl rfl) rfl fun a hF=>nt<|c_cond hF rfl (fun h4=>?_) (fun h4=>?_)
    · refine sq ?_
      refine c_par 6 [] [.val (.int .i64 (gi:Int)),.val (ptr b1 (0+(gi)*1)),.val (.int .u8 ((x (gi):Int))),.val (.int .i64 (gi:Int)),.val (ptr b2 (0+(gi)*1)),.val (.int .u8 ((y (gi):Int)))] hmix rfl hF rfl hM ⟨fun a w gG hF hS hd=>by exact pmv hS rfl hF rfl,fun a w gG hF hS hd=>by have hF:=hF.ext1 17 (hd 0 rfl rfl);exact par_val hS rfl (g_indexAddr ty_ar_30 hF rfl rfl rfl (by omega)),fun a w gG hF hS hd=>by have hF:=hF.ext1 18 (hd 1 rfl rfl);have hM:=hS.mem rfl;exact par_val hS rfl (g_load ty_on_5 hF rfl (hM.row 0 rfl) (vecC_get (gi) (by omega) (by omega))),fun a w gG hF hS hd=>by exact pmv hS rfl hF rfl,fun a w gG hF hS hd=>by have hF:=hF.ext1 20 (hd 3 rfl rfl);exact par_val hS rfl (g_indexAddr ty_ar_30 hF rfl rfl rfl (by omega)),fun a w gG hF hS hd=>by have hF:=hF.ext1 21 (hd 4 rfl rfl);have hM:=hS.mem rfl;exact par_val hS rfl (g_load ty_on_5 hF rfl (hM.row 1 rfl) (vecC_get (gi) (by omega) (by omega))),trivial⟩ ?_;intro a w' L hF hS hq;have hF:=hF.ext1 17 (hq 0 rfl rfl);have hF:=hF.ext1 18 (hq 1 rfl rfl);have hF:=hF.ext1 19 (hq 2 rfl rfl);have hF:=hF.ext1 20 (hq 3 rfl rfl);have hF:=hF.ext1 21 (hq 4 rfl rfl);have hF:=hF.ext1 22 (hq 5 rfl rfl);have hM:=hS.mem rfl;change wpList Tryz.prog _ _ [_,_] _ _;refine st hF (g_lss hF rfl rfl) rfl fun a hF=>ag hF rfl rfl fun a hF=>nt<|wp_ret<|iR<|tR<|tR<|iR<|tR<|fin1 rfl hF.defers (res_tmp hF rfl) ⟨_,rfl,hM.below,?_⟩
      show _=_
      first | exact congrArg Value.bool (decide_eq_decide.2 (Int.ofNat_lt.trans (ltV_at (by omega) hinv1 (by omega)).symm)) | exact congrArg Value.bool (decide_eq_false (ltV_no hinv1)).symm
    refine wp_skip<|iN<|tN<|wp_region_lit<|mv hF rfl rfl fun a hF=>st hF (g_add hF rfl rfl (add_nat (gi) (1) (by omega))) rfl fun a hF=>ag hF rfl rfl fun a hF=>nt<|⟨gi+1,⟨by omega,next_eq hinv1 (by omega),hF.sub _ (by repeat' constructor),?_⟩,by omega⟩;exact hM
  obtain rfl:6=gi:=by omega
  refine wp_exit<|tX<|tX<|ib_same<|tN<|sr<|ag hF rfl rfl fun a hF=>nt<|wp_ret<|fin1 rfl hF.defers (res_tmp hF rfl) ⟨_,rfl,hM.below,?_⟩
  show _=_
  first | exact congrArg Value.bool (decide_eq_decide.2 (Int.ofNat_lt.trans (ltV_at (by omega) hinv1 (by omega)).symm)) | exact congrArg Value.bool (decide_eq_false (ltV_no hinv1)).symm
end Go.Proofs.YtmlnjicajdbjlaaGreatDoor
