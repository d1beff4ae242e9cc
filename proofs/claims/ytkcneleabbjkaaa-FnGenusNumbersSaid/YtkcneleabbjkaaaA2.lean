import Derived.Test.YtkcneleabbjkaaaA1
set_option linter.unusedVariables false
set_option linter.unusedSimpArgs false
namespace Go.Proofs.Ytkcneleabbjkaaa
open Go Go.RowKit Go.Sw Go.Ech
open Classical
def VB (p n:Int) (v:Nat->Nat):Prop:=∀ c,v c<=255/\(1<=p->(v c:Int)<p)/\(v c≠0->((c:Nat):Int)<n)
theorem VB.zero (p n:Int):VB p n (fun _=>0):=fun c=>⟨by show (0:Nat)<=255;omega,fun h=>by show ((0:Nat):Int)<p;omega,fun h=>absurd rfl h⟩
theorem VB.set {p n:Int}{v:Nat->Nat}{x k:Nat}(h:VB p n v)(hx:FH (x:Int) p)(hp:p<=256)(hk:(k:Int)<n):VB p n (fun c=>if c=k then x else v c):=fun c=>by
  dsimp only
  by_cases e:c=k
  . rw [if_pos e]
    obtain ⟨h1,h2,h3⟩:=hx
    refine ⟨?_,fun hp1=>h2 (by omega),fun _=>by omega⟩
    by_cases q:1<=p
    . have:=h2 (by omega);omega
    . have:=h3 (by omega);omega
  . rw [if_neg e];exact h c
theorem DA (b m ha hh:Nat)(sl:Value)(p n:Int)(T:Nat->Nat->Nat->Nat)(f:Nat->Nat)(w:World)(hb:Blk w b (BI sl ha hh))(hc:CodeB w [b] sl m)(hha:ha<=m)(hhh:hh<18446744073709551616)(hH:p<=256) :
    CallsX Try.prog [b] 85 #[ptr b (0),.agg (AB p n T f)] w (fun u w'=>∃ (v:Nat->Nat) (ha' hh':Nat),u = .agg (AG v)/\VB p n v/\Blk w' b (BI sl ha' hh')/\ha'<=m/\hh'<18446744073709551616):=by
  refine Bn [ptr b (0),.agg (AB p n T f)] Try.func85 rfl Try.ntmps85 rfl fun a O=>?_;have J:MemX [b] w w [some (b,BI sl ha hh),none,none,none] []:=MemX.startX1 3 hb;change Fr 36 a [(0,ptr b (0)),(1,.agg (AB p n T f))] at O;refine sr<|Ab O (Aj 1 J O rfl) rfl ?_;rintro _ w' a ⟨b1,rfl,J,-⟩ O;refine Ab O (AV 2 J Ae) rfl ?_;rintro _ w' a ⟨b2,rfl,J,-⟩ O;change MemX _ _ _ [_,some (b1,AB p n T f),some (b2,Al 6 (fun _=>.int .u8 (0))),_] [] at J;refine ns<|st O (Bi B8) rfl fun a O=>mv O rfl rfl fun a O=>Ab O (A1 Try.call120 O (.cons rfl (.cons rfl .nil)) (BA b m ha hh sl (3) (by omega) _ (J.row 0 rfl) (J.code hc (k:=0) rfl) (by omega) (by omega))) rfl ?_;rintro _ w' a ⟨hx,x3,ha4,hh5,rfl,hdx3,hZ,hlha4,hlhh5⟩ O;have J:=J.upd 0 rfl hx hZ;refine Ab O (AV 3 J Ae) rfl ?_;rintro _ w' a ⟨b6,rfl,J,-⟩ O;change MemX _ _ _ [_,_,_,some (b6,Al 6 (fun _=>.int .u8 (0)))] [] at J;refine A7 O (AI 3 J rfl Aa O rfl rfl (by first | exact AX | exact cells_one | (refine BT fun _ _=>?_;first | rfl | (split<;>rfl))) (by simp only [AM,AK]) (by simp only [AM,AK]<;>omega) (AF _ _ (by simp only [AM,AK]))) ?_;intro _ w' a J O;refine ag O rfl rfl fun a O=>nt<|sq<|sr<|ag O rfl rfl fun a O=>nt<|wp_block ?_;change MemX _ _ _ [_,_,_,some (b6,Al 6 (fun _=>.int .u8 (0)))] [] at J;refine Ai (fun (kk:Nat) a w'=>kk<=6/\∃ (vv:Nat->Nat),∃ (hax:Nat),∃ (hhx:Nat),(VB p n vv/\hax<=m/\hhx<18446744073709551616)/\Fr 36 a [(0,ptr b (0)),(3,ptr b1 (0)),(4,ptr b2 (0)),(5,ptr b6 (0)),(6,.int .i64 (x3:Int)),(7,.int .i64 (kk:Int))]/\MemX [b] w w' [some (b,BI sl hax hhx),some (b1,AB p n T f),some (b2,Al 6 (fun _=>.int .u8 (0))),some (b6,Al 6 (fun c=>.int .u8 (vv c:Int)))] []) (fun kk=>6 - kk) 0 ?_ ?_
  . refine ⟨by omega,(fun _=>0),ha4,hh5,⟨VB.zero p n,by omega,by omega⟩,O.sub _ (by repeat' constructor),?_⟩
    exact J
  clear O J;rintro gi a w' ⟨hgi,vv,hax,hhx,⟨hVB,hlax,hlhx⟩,O,J⟩;refine sq<|sr<|mv O rfl rfl fun a O=>st O (AD AY O rfl) rfl fun a O=>st O (AP AU O rfl (J.row 1 rfl) (Aq (by omega))) rfl fun a O=>st O (Am O rfl rfl) rfl fun a O=>mv O rfl rfl fun a O=>?_
  by_cases g7:((gi:Int):Int)<n
  . first | rw [decide_eq_true g7] at O | simp only [decide_eq_true g7] at O
    refine BN O rfl rfl rfl (Ak O rfl) rfl fun a O=>BN O rfl rfl rfl (Am O rfl rfl) rfl fun a O=>st O (A2 O rfl rfl) rfl fun a O=>nt<|AR O rfl (fun h8=>?_) (fun h8=>?_)
    . refine wp_skip ?_
      refine tN<|sq<|wp_block<|sr<|mv O rfl rfl fun a O=>st O (Bb O rfl rfl) rfl fun a O=>mv O rfl rfl fun a O=>?_
      by_cases g9:((x3:Int):Int)=0
      . first | rw [decide_eq_true g9] at O | simp only [decide_eq_true g9] at O
        refine BZ O rfl rfl rfl rfl rfl fun a O=>BZ O rfl rfl rfl rfl rfl fun a O=>BZ O rfl rfl rfl rfl rfl fun a O=>st O (A2 O rfl rfl) rfl fun a O=>nt<|FJ O rfl<|wp_region_lit<|mv O rfl rfl fun a O=>mv O rfl rfl fun a O=>st O (AD Au O rfl) rfl fun a O=>st O (AP AU O rfl (J.row 1 rfl) (BM (by omega))) rfl fun a O=>Ab O (A1 Try.call120 O (.cons rfl (.cons rfl .nil)) (GE b m hax hhx sl (p) _ (J.row 0 rfl) (J.code hc (k:=0) rfl) (by omega) (by omega))) rfl ?_;rintro _ w' a ⟨hx,x11,ha12,hh13,rfl,hJ,hZ,hlha12,hlhh13⟩ O;have J:=J.upd 0 rfl hx hZ;change MemX _ _ _ [_,_,_,_] [] at J;have hdux11:=hJ
        unfold FH at hdux11
        have hp1x11:0<=x11/\x11<=255:=by by_cases q:1<=p<;>omega
        obtain ⟨x11n,rfl⟩:∃ y:Nat,x11=(y:Int):=⟨x11.toNat,by omega⟩;refine st O (Az Bw Bx O rfl (wrap_u8 (by omega) (by omega))) rfl fun a O=>st O (AJ Av O rfl rfl rfl (by omega)) rfl fun a O=>A7 O (Ar 3 J rfl Ad O rfl rfl rfl (by first | omega | (simp only [AM,AK]<;>omega) | (simp only [Array.size_setIfInBounds];omega) | simp)) ?_;intro _ w' a J O;rw [show (Al 6 (fun c=>.int .u8 (vv c:Int))).setIfInBounds (0+(gi)*1) (.int .u8 (x11n:Int))=Al 6 (fun c=>.int .u8 (((if c=gi then x11n else vv c):Nat):Int)) from Bq (fun c _=>by rw [show 0+(gi)*1=gi by omega];by_cases hh:c=gi<;>simp [hh])] at J;change MemX _ _ _ [_,_,_,_] [] at J;refine wpList_nil<|iN<|tN<|wp_region_lit<|mv O rfl rfl fun a O=>st O (Af O rfl rfl (AW (gi) (1) (by omega))) rfl fun a O=>ag O rfl rfl fun a O=>nt<|⟨gi+1,⟨by omega,(fun c=>if c=gi then x11n else vv c),ha12,hh13,⟨hVB.set hJ hH (by omega),by omega,by omega⟩,O.sub _ (by repeat' constructor),?_⟩,by omega⟩;exact J
      first | rw [decide_eq_false g9] at O | simp only [decide_eq_false g9] at O
      refine BN O rfl rfl rfl (Ak O rfl) rfl fun a O=>Ey O rfl rfl rfl (A1 Try.call120 O (.cons rfl (.cons rfl .nil)) (BA b m hax hhx sl (2) (by omega) _ (J.row 0 rfl) (J.code hc (k:=0) rfl) (by omega) (by omega))) rfl ?_;rintro _ w' a ⟨hx,x14,ha15,hh16,rfl,hdx14,hZ,hlha15,hlhh16⟩ O;have J:=J.upd 0 rfl hx hZ;change MemX _ _ _ [_,_,_,_] [] at J;refine BN O rfl rfl rfl (Bb O rfl rfl) rfl fun a O=>st O (At O rfl rfl) rfl fun a O=>nt<|AR O rfl (fun h17=>?_) (fun h17=>?_)
      . refine wp_region_lit ?_
        refine mv O rfl rfl fun a O=>mv O rfl rfl fun a O=>st O (AD Au O rfl) rfl fun a O=>st O (AP AU O rfl (J.row 1 rfl) (BM (by omega))) rfl fun a O=>Ab O (A1 Try.call120 O (.cons rfl (.cons rfl .nil)) (GE b m ha15 hh16 sl (p) _ (J.row 0 rfl) (J.code hc (k:=0) rfl) (by omega) (by omega))) rfl ?_;rintro _ w' a ⟨hx,x18,ha19,hh20,rfl,hO,hZ,hlha19,hlhh20⟩ O;have J:=J.upd 0 rfl hx hZ;change MemX _ _ _ [_,_,_,_] [] at J;have hdux18:=hO
        unfold FH at hdux18
        have hp1x18:0<=x18/\x18<=255:=by by_cases q:1<=p<;>omega
        obtain ⟨x18n,rfl⟩:∃ y:Nat,x18=(y:Int):=⟨x18.toNat,by omega⟩;refine st O (Az Bw Bx O rfl (wrap_u8 (by omega) (by omega))) rfl fun a O=>st O (AJ Av O rfl rfl rfl (by omega)) rfl fun a O=>A7 O (Ar 3 J rfl Ad O rfl rfl rfl (by first | omega | (simp only [AM,AK]<;>omega) | (simp only [Array.size_setIfInBounds];omega) | simp)) ?_;intro _ w' a J O;rw [show (Al 6 (fun c=>.int .u8 (vv c:Int))).setIfInBounds (0+(gi)*1) (.int .u8 (x18n:Int))=Al 6 (fun c=>.int .u8 (((if c=gi then x18n else vv c):Nat):Int)) from Bq (fun c _=>by rw [show 0+(gi)*1=gi by omega];by_cases hh:c=gi<;>simp [hh])] at J;change MemX _ _ _ [_,_,_,_] [] at J;refine wpList_nil<|iN<|tN<|wp_region_lit<|mv O rfl rfl fun a O=>st O (Af O rfl rfl (AW (gi) (1) (by omega))) rfl fun a O=>ag O rfl rfl fun a O=>nt<|⟨gi+1,⟨by omega,(fun c=>if c=gi then x18n else vv c),ha19,hh20,⟨hVB.set hO hH (by omega),by omega,by omega⟩,O.sub _ (by repeat' constructor),?_⟩,by omega⟩;exact J
      refine wp_skip<|iN<|tN<|wp_region_lit<|mv O rfl rfl fun a O=>st O (Af O rfl rfl (AW (gi) (1) (by omega))) rfl fun a O=>ag O rfl rfl fun a O=>nt<|⟨gi+1,⟨by omega,vv,ha15,hh16,⟨hVB,by omega,by omega⟩,O.sub _ (by repeat' constructor),?_⟩,by omega⟩;exact J
    obtain rfl:6=gi:=by omega
    refine wp_exit<|tX<|tX<|Ac<|tN<|sr<|st O (AA AQ O rfl (J.row 3 rfl) (by simp only [AM,AK]<;>omega) (whole (by simp only [AM,AK]))) rfl fun a O=>A7 O (AI 2 J rfl Aa O rfl rfl (by first | exact AX | exact cells_one | (refine BT fun _ _=>?_;first | rfl | (split<;>rfl))) (by simp only [AM,AK]) (by simp only [AM,AK]<;>omega) (AF _ _ (by simp only [AM,AK]))) ?_;intro _ w' a J O;change MemX _ _ _ [_,_,some (b2,Al 6 (fun c=>.int .u8 (vv c:Int))),_] [] at J;refine nt<|wp_ret<|A0 rfl O.defers (As AQ O rfl (J.row 2 rfl) (by simp only [AM,AK])) ⟨_,rfl,J.bel,?_⟩;exact ⟨vv,hax,hhx,rfl,hVB,J.row 0 rfl,by omega,by omega⟩
  first | rw [decide_eq_false g7] at O | simp only [decide_eq_false g7] at O
  refine BZ O rfl rfl rfl rfl rfl fun a O=>BZ O rfl rfl rfl rfl rfl fun a O=>st O (At O rfl rfl) rfl fun a O=>nt<|Cm O rfl<|wp_exit<|tX<|tX<|Ac<|tN<|sr<|st O (AA AQ O rfl (J.row 3 rfl) (by simp only [AM,AK]<;>omega) (whole (by simp only [AM,AK]))) rfl fun a O=>A7 O (AI 2 J rfl Aa O rfl rfl (by first | exact AX | exact cells_one | (refine BT fun _ _=>?_;first | rfl | (split<;>rfl))) (by simp only [AM,AK]) (by simp only [AM,AK]<;>omega) (AF _ _ (by simp only [AM,AK]))) ?_;intro _ w' a J O;change MemX _ _ _ [_,_,some (b2,Al 6 (fun c=>.int .u8 (vv c:Int))),_] [] at J;refine nt<|wp_ret<|A0 rfl O.defers (As AQ O rfl (J.row 2 rfl) (by simp only [AM,AK])) ⟨_,rfl,J.bel,?_⟩;exact ⟨vv,hax,hhx,rfl,hVB,J.row 0 rfl,by omega,by omega⟩
end Go.Proofs.Ytkcneleabbjkaaa
