import Derived.Test.YtkcneleabbjkaaaA20
import Derived.Test.YtkcneleabbjkaaaSw10
set_option linter.unusedVariables false
set_option linter.unusedSimpArgs false
namespace Go.Proofs.Ytkcneleabbjkaaa
open Go Go.RowKit Go.Sw Go.Ech
open Classical
theorem Nu {u:Value}{e:Option (Nat×Array Value)}{N:Nat}{VL:Nat->Nat->Nat}{v:Nat->Nat}(h:Sl 6 u e (N+1) (fun i=>if i<N*6 then (fun q=>.int .u8 (VL (q / 6) (q%6):Int)) i else (fun q=>.int .u8 (v q:Int)) (i - N*6))):Sl 6 u e (N+1) (fun q=>.int .u8 (((fun i c=>if i=N then v c else VL i c) (q / 6) (q%6):Nat):Int)):=h.congr fun q hq=>by
  by_cases e:q<N*6
  . rw [if_pos e]
    have e1:q / 6≠N:=by omega
    simp only [if_neg e1]
  . rw [if_neg e]
    have e1:q / 6=N:=by omega
    have e2:q - N*6=q%6:=by omega
    simp only [if_pos e1,e2]
theorem QP {b:Nat}{F:Nat->Value}:SlAt 6 (.slice (some ⟨b,0,none⟩) 0 0) (some (b,#[])) 0 b 0 #[] F:=⟨rfl,rfl,Nat.le_refl _,by unfold maxLen;omega,rfl,fun i hi=>absurd hi (by omega)⟩
theorem Ha (m:Nat)(sl:Value)(w:World)(hc:CodeB w [] sl m) :
    CallsR Try.prog 71 #[sl] w (fun u w'=>∃ (P N:Int) (T:Nat->Nat->Nat->Nat) (f:Nat->Nat) (x:Int) (bq cq k:Nat) (csq:Array Value) (VL:Nat->Nat->Nat),u = .tuple #[.agg (AB P N T f),.int .i64 x,.slice (some ⟨bq,0,none⟩) k cq]/\BB P T f/\k<=8/\SlAt 6 (.slice (some ⟨bq,0,none⟩) k cq) (some (bq,csq)) k bq cq csq (fun q=>.int .u8 (VL (q / 6) (q%6):Int))/\(∀ i c,VL i c<=255)/\w.heap.size<=bq/\Blk w' bq csq):=by
  refine AS [sl] Try.func71 rfl Try.ntmps71 rfl fun a O=>?_;have J:AT w w [none,none,none,none,none,none] []:=MemX.start w 6;change Fr 38 a [(0,sl)] at O;refine sr<|Ab O (AV 0 J Ax) rfl ?_;rintro _ w' a ⟨b1,rfl,J,-⟩ O;change AT _ _ [some (b1,AB 0 0 (fun _ _ _=>0) (fun _=>0)),_,_,_,_,_] [] at J;refine ag O rfl rfl fun a O=>ag O rfl rfl fun a O=>ns<|mv O rfl rfl fun a O=>Ab O (AN Try.call83 O (.cons rfl .nil) (GG m sl _ (hc.carry J.bel (fun y hy=>by cases hy)))) rfl ?_;rintro _ w' a ⟨hx,b2,ha3,hh4,rfl,hge,hZ,hlha3,hlhh4⟩ O;have J:=J.fill hx 5 hZ hge;change AT _ _ [_,_,_,_,_,_] [] at J;refine ag O rfl rfl fun a O=>ns<|mv O rfl rfl fun a O=>Ab O (A1 Try.call105 O (.cons rfl .nil) (FT b2 m ha3 hh4 sl _ (J.row 5 rfl) (J.code hc (k:=5) rfl) (by omega) (by omega))) rfl ?_;rintro _ w' a ⟨hx,Ps5,Ns6,Ts7,fs8,ha9,hh10,rfl,hbbTs7,hZ,hlha9,hlhh10⟩ O;have J:=J.upd 5 rfl hx hZ;refine Ab O (AV 1 J Ax) rfl ?_;rintro _ w' a ⟨b11,rfl,J,-⟩ O;change AT _ _ [_,some (b11,AB 0 0 (fun _ _ _=>0) (fun _=>0)),_,_,_,_] [] at J;refine A7 O (AI 1 J rfl An O rfl rfl cells_one (by simp only [AM,AK]) (by simp only [AM,AK]<;>omega) (AF _ _ (by simp only [AM,AK]))) ?_;intro _ w' a J O;refine ns<|Ab O (Ag 2 J O rfl EC) rfl ?_;rintro _ w' a ⟨b12,rfl,J,-⟩ O;change AT _ _ [_,some (b11,AB Ps5 Ns6 Ts7 fs8),some (b12,#[]),_,_,_] [] at J;refine ag O rfl rfl fun a O=>nt<|sq<|sr<|mv O rfl rfl fun a O=>Ab O (A1 Try.call120 O (.cons rfl (.cons rfl .nil)) (BA b2 m ha9 hh10 sl (5) (by omega) _ (J.row 5 rfl) (J.code hc (k:=5) rfl) (by omega) (by omega))) rfl ?_;rintro _ w' a ⟨hx,x13,ha14,hh15,rfl,hdx13,hZ,hlha14,hlhh15⟩ O;have J:=J.upd 5 rfl hx hZ;change AT _ _ [_,_,_,_,_,_] [] at J;refine mv O rfl rfl fun a O=>Ab O (A1 Try.call120 O (.cons rfl (.cons rfl .nil)) (BA b2 m ha14 hh15 sl (16) (by omega) _ (J.row 5 rfl) (J.code hc (k:=5) rfl) (by omega) (by omega))) rfl ?_;rintro _ w' a ⟨hx,x16,ha17,hh18,rfl,hdx16,hZ,hlha17,hlhh18⟩ O;have J:=J.upd 5 rfl hx hZ;change AT _ _ [_,_,_,_,_,_] [] at J;refine st O (IW O rfl rfl (by omega) (E0 (x16) (15) (by omega))) rfl fun a O=>st O (B9 O rfl rfl (Bm _ 4 (by omega))) rfl fun a O=>st O (Af O rfl rfl (AW _ _ (by omega))) rfl fun a O=>ag O rfl rfl fun a O=>nt<|wp_block ?_;obtain ⟨kq,hkq,hkq9⟩:∃ kq:Nat,(((x13+((x16) / (15))*(4):Nat):Int):Int)=(kq:Int)/\kq<=8:=⟨(((x13+((x16) / (15))*(4):Nat):Int):Int).toNat,by omega,by omega⟩;rw [hkq] at O;change AT w _ [some (b1,AB 0 0 (fun _ _ _=>0) (fun _=>0)),some (b11,AB Ps5 Ns6 Ts7 fs8),some (b12,#[]),none,none,some (b2,BI sl ha17 hh18)] [] at J;refine Ai (fun (kk:Nat) a w'=>kk<=kq/\∃ (bq:Nat),∃ (cq:Nat),∃ (csq:Array Value),∃ (VL:Nat->Nat->Nat),∃ (haz:Nat),∃ (hhz:Nat),(SlAt 6 (.slice (some ⟨bq,0,none⟩) kk cq) (some (bq,csq)) kk bq cq csq (fun q=>.int .u8 (VL (q / 6) (q%6):Int))/\(∀ i c,VL i c<=255)/\haz<=m/\hhz<18446744073709551616)/\Fr 38 a [(2,ptr b1 (0)),(3,.int .i64 (0)),(4,.slice none 0 0),(5,ptr b2 (0)),(6,ptr b11 (0)),(8,.int .i64 (((kq - kk:Nat):Int))),(7,(.slice (some ⟨bq,0,none⟩) kk cq))]/\AT w w' [some (b1,AB 0 0 (fun _ _ _=>0) (fun _=>0)),some (b11,AB Ps5 Ns6 Ts7 fs8),some (bq,csq),none,none,some (b2,BI sl haz hhz)] []) (fun kk=>kq - kk) 0 ?_ ?_
  . refine ⟨by omega,b12,0,#[],(fun _ _=>0),ha17,hh18,⟨QP,fun _ _=>Nat.zero_le _,by omega,by omega⟩,O.sub _ (by repeat' constructor),?_⟩
    exact J
  clear O J;rintro gi a w' ⟨hgi,bq,cq,csq,VL,haz,hhz,⟨hsl,hVL,hlaz,hlhz⟩,O,J⟩;refine sq<|sr<|mv O rfl rfl fun a O=>st O (CV O rfl rfl) rfl fun a O=>nt<|AR O rfl (fun h19=>?_) (fun h19=>?_)
  . refine wp_skip ?_
    refine tN<|sq<|wp_block<|wp_region_lit<|mv O rfl rfl fun a O=>mv O rfl rfl fun a O=>st O (AA AH O rfl (J.row 1 rfl) (by simp only [AM,AK]<;>omega) (whole AE)) rfl fun a O=>?_;have hp256:=hbbTs7.1;refine Ab O (A1 Try.call85 O (.cons rfl (.cons rfl .nil)) (DA b2 m haz hhz sl Ps5 Ns6 Ts7 fs8 _ (J.row 5 rfl) (J.code hc (k:=5) rfl) (by omega) (by omega) (by omega))) rfl ?_;rintro _ w' a ⟨hx,vd20,ha21,hh22,rfl,hVBvd20,hZ,hlha21,hlhh22⟩ O;have hv5vd20:∀ c,vd20 c<=255:=fun c=>(hVBvd20 c).1;have J:=J.upd 5 rfl hx hZ;refine Ab O (Ag (vs:=[(0,.agg (AG vd20))]) 3 J O (BJ O rfl) (fun w=>BD vd20 w)) rfl ?_;rintro _ w' a ⟨b23,rfl,J,-⟩ O;change AT _ _ [_,_,_,some (b23,BE 1 (Aw [vd20])),_,_] [] at J;refine Ab O (BS (k:=2) (N:=gi) (m:=1) (f:=(fun q=>.int .u8 (VL (q / 6) (q%6):Int))) (g:=fun q=>.int .u8 ((((vd20) q:Nat)):Int)) IB rfl (by decide) J rfl O rfl rfl (.inr ⟨_,_,_,hsl⟩) (fun q hq=>((J.row 3 rfl).cell _).trans (HB q hq)) (fun _ _=>rfl) (by decide) (by unfold maxLen;omega) (by omega)) rfl ?_;rintro uq w' a ⟨eq_,J,hsq⟩ O;have hsq:=Nu (N:=gi) (VL:=VL) (v:=vd20) hsq;obtain ⟨bq2,cq2,csq2,rfl,rfl,hs2⟩:=hsq.pos (by omega);change AT w w' [some (b1,AB 0 0 (fun _ _ _=>0) (fun _=>0)),some (b11,AB Ps5 Ns6 Ts7 fs8),some (bq2,csq2),some (b23,BE 1 (Aw [vd20])),none,some (b2,BI sl ha21 hh22)] [] at J;refine ag O rfl rfl fun a O=>wpList_nil<|iN<|tN<|wp_region_lit<|mv O rfl rfl fun a O=>st O (Ea O rfl rfl (show _=((kq - (gi+1):Nat):Int) from (by rw [wrap_i64]<;>omega))) rfl fun a O=>ag O rfl rfl fun a O=>wpList_nil<|tN ?_;have J:=J.drop 3;refine ⟨gi+1,⟨by omega,bq2,cq2,csq2,(fun i c=>if i=gi then vd20 c else VL i c),ha21,hh22,⟨hs2,fun i c=>by dsimp only;split;exact hv5vd20 c;exact hVL i c,by omega,by omega⟩,O.sub _ (by repeat' constructor),?_⟩,by omega⟩;exact J
  obtain rfl:kq=gi:=by omega
  refine wp_exit<|tX<|tX<|Ac<|tN<|sq ?_;have O:=O.sub [(2,ptr b1 (0)),(4,.slice none 0 0),(5,ptr b2 (0)),(6,ptr b11 (0)),(8,.int .i64 (((kq - kq:Nat):Int))),(7,(.slice (some ⟨bq,0,none⟩) kq cq)),(21,.int .i64 (((kq - kq:Nat):Int))),(22,.bool (decide (0<(((kq - kq:Nat):Int):Int))))] (by repeat' constructor);refine Mq (G:=(Option (Nat×Array Value))) (S:=(fun (bb:Bool) (g:(Option (Nat×Array Value))) w2=>∃ h1 h2:Nat,h1<=m/\h2<18446744073709551616/\AT w w2 [some (b1,if bb then AB Ps5 Ns6 Ts7 fs8 else AB 0 0 (fun _ _ _=>0) (fun _=>0)),some (b11,AB Ps5 Ns6 Ts7 fs8),some (bq,csq),none,g,some (b2,BI sl h1 h2)] [])) 9 7 BV rfl rfl rfl O rfl (fun j o hj hne=>C5 (s:=7) (i:=0) rfl j o hj (by omega)) none ⟨haz,hhz,by omega,by omega,J⟩ (fun b g w ⟨h1,h2,l1,l2,h⟩=>⟨h1,h2,l1,l2,h.ext (Below.drew (Below.refl _ _))⟩) (QJ [(fun (g:(Option (Nat×Array Value))) (v:Value)=>v = .agg (AB Ps5 Ns6 Ts7 fs8)),(fun (g:(Option (Nat×Array Value))) (v:Value)=>v=ptr b2 (0)),(fun (g:(Option (Nat×Array Value))) (v:Value)=>v=ptr b2 (0)),(fun (g:(Option (Nat×Array Value))) (v:Value)=>∃ x24:Int,v = .int .i64 (x24)),(fun (g:(Option (Nat×Array Value))) (v:Value)=>∃ bl25:Nat,∃ x24:Int,g=some (bl25,#[.int .i64 (0),.int .i64 (0),.int .i64 (1),.int .i64 (2),.int .i64 (x24)])/\v = .slice (some ⟨bl25,0,none⟩) 5 5),(fun (g:(Option (Nat×Array Value))) (v:Value)=>∃ x26:Int,v = .int .i64 (x26)),(fun (g:(Option (Nat×Array Value))) (v:Value)=>v=(.slice (some ⟨bq,0,none⟩) kq cq)),(fun _ _=>True),(fun (g:(Option (Nat×Array Value))) (v:Value)=>∃ x26:Int,v = .int .i64 (x26))]) ⟨fun a w2 bb g O hS hb hd=>by obtain ⟨h1,h2,l1,l2,J⟩:=id hS;exact Ci hS (show QJ _ 0 g _ w2 from rfl) (AA AH O rfl (J.row 1 rfl) (by simp only [AM,AK]<;>omega) (whole AE)),fun a w2 bb g O hS hb hd=>by obtain ⟨h1,h2,l1,l2,J⟩:=id hS;exact Ci hS (show QJ _ 1 g _ w2 from rfl) (Ak O rfl),fun a w2 bb g O hS hb hd=>by obtain ⟨h1,h2,l1,l2,J⟩:=id hS;exact Ci hS (show QJ _ 2 g _ w2 from rfl) (Ak O rfl),fun a w2 bb g O hS hb hd=>by have O:=O.ext1 33 (v:=ptr b2 (0)) (hd 2 rfl rfl rfl);obtain ⟨h1,h2,l1,l2,J⟩:=hS;exact Does.mono (A1 Try.call100 O (.cons rfl (.cons rfl .nil)) (IS b2 m h1 h2 sl (30) _ (J.row 5 rfl) (J.code hc (k:=5) rfl) l1 l2 (by omega))) (fun u w' ⟨hx,x24,h1',h2',e,hZ,m1,m2⟩=>⟨_,⟨h1',h2',m1,m2,J.upd (cs':=BI sl h1' h2') 5 rfl hx hZ⟩,⟨x24,e⟩,(fun _ _ _ h=>h)⟩),fun a w2 bb g O hS hb hd=>by obtain ⟨x24,hv3⟩:=hd 3 rfl rfl rfl;have O:=O.ext1 34 hv3;obtain ⟨h1,h2,l1,l2,J⟩:=hS;exact Does.mono (Ag (vs:=[(0,.int .i64 (0)),(1,.int .i64 (0)),(2,.int .i64 (1)),(3,.int .i64 (2)),(4,.int .i64 (x24))]) 4 J O (Oj O rfl rfl rfl rfl rfl) (fun w=>Hc _ _ _ _ _ w)) (fun u w' ⟨bl25,e,hMn,hx⟩=>⟨some (bl25,#[.int .i64 (0),.int .i64 (0),.int .i64 (1),.int .i64 (2),.int .i64 (x24)]),⟨h1,h2,l1,l2,hMn⟩,⟨bl25,x24,rfl,e⟩,(fun j u hne h=>by
    match j,hne,h with
    | 0,_,h=>exact h
    | 1,_,h=>exact h
    | 2,_,h=>exact h
    | 3,_,h=>exact h
    | 4,hne,_=>exact absurd rfl hne
    | 5,_,h=>exact h
    | 6,_,h=>exact h
    | 7,_,h=>exact h
    | 8,_,h=>exact h
    | (j+9),_,h=>exact trivial)⟩),fun a w2 bb g O hS hb hd=>by have O:=O.ext1 32 (v:=ptr b2 (0)) (hd 1 rfl rfl rfl);obtain ⟨bl25,x24,hg5,hv4⟩:=hd 4 rfl rfl rfl;have O:=O.ext1 35 hv4;subst hg5;obtain ⟨h1,h2,l1,l2,J⟩:=hS;exact Does.mono (A1 Try.call99 O (.cons rfl (.cons rfl .nil)) (Cz b2 m h1 h2 sl bl25 5 5 (#[.int .i64 (0),.int .i64 (0),.int .i64 (1),.int .i64 (2),.int .i64 (x24)]) (fun i=>([0,0,1,2,x24]:List Int).getD i 0) (fun _=>True) _ (J.row 5 rfl) (J.code hc (k:=5) rfl) l1 l2 (by omega) (J.row 4 rfl) (fun e=>absurd (J.apart 4 5 _ _ _ rfl (by rw [e];rfl)) (by decide)) (fun i hi=>by rcases (show i=0\/i=1\/i=2\/i=3\/i=4 from by omega) with rfl | rfl | rfl | rfl | rfl<;>rfl) (fun _ _=>trivial))) (fun u w' ⟨hx,x26,h1',h2',e,_,hZ,m1,m2⟩=>⟨_,⟨h1',h2',m1,m2,J.upd (cs':=BI sl h1' h2') 5 rfl hx hZ⟩,⟨x26,e⟩,(fun _ _ _ h=>h)⟩),fun a w2 bb g O hS hb hd=>by obtain ⟨h1,h2,l1,l2,J⟩:=id hS;exact Ci hS (show QJ _ 6 g _ w2 from rfl) (Ak O rfl),fun a w2 g O hS hd=>by have O:=O.ext1 31 (v:=.agg (AB Ps5 Ns6 Ts7 fs8)) (hd 0 rfl rfl rfl);obtain ⟨h1,h2,l1,l2,J⟩:=hS;have J:AT w w2 [some (b1,AB 0 0 (fun _ _ _=>0) (fun _=>0)),some (b11,AB Ps5 Ns6 Ts7 fs8),some (bq,csq),none,g,some (b2,BI sl h1 h2)] []:=J;refine Does.mono (?_:Does _ _ _ _ (fun _ w'=>AT w w' [some (b1,AB Ps5 Ns6 Ts7 fs8),some (b11,AB Ps5 Ns6 Ts7 fs8),some (bq,csq),none,g,some (b2,BI sl h1 h2)] [])) (fun u w' hMn=>⟨g,⟨h1,h2,l1,l2,hMn⟩,(fun _ _ h=>h)⟩);exact AI 0 J rfl An O rfl rfl cells_one (by simp only [AM,AK]) (by simp only [AM,AK]<;>omega) (AF _ _ (by simp only [AM,AK])),fun a w2 bb g O hS hb hd=>by obtain ⟨h1,h2,l1,l2,J⟩:=id hS;obtain ⟨x26,hv5⟩:=hd 5 rfl rfl rfl;have O:=O.ext1 36 hv5;exact Ci hS (show QJ _ 8 g _ w2 from ⟨x26,rfl⟩) (IZ O rfl),trivial⟩ ?_
  rintro a w' g9 O ⟨ha27,hh28,hlha27,hlhh28,J⟩ hq;obtain ⟨bl25,x24,hg9,hv9⟩:=hq 4 rfl rfl rfl;subst hg9;clear hv9;have J:AT w w' [some (b1,AB Ps5 Ns6 Ts7 fs8),some (b11,AB Ps5 Ns6 Ts7 fs8),some (bq,csq),none,some (bl25,#[.int .i64 (0),.int .i64 (0),.int .i64 (1),.int .i64 (2),.int .i64 (x24)]),some (b2,BI sl ha27 hh28)] []:=J;have O:=O.ext1 37 (v:=(.slice (some ⟨bq,0,none⟩) kq cq)) (hq 6 rfl rfl rfl);obtain ⟨x26,hv8⟩:=hq 8 rfl rfl rfl;have O:=O.ext1 3 hv8;change wpList Try.prog _ _ [_] _ _;refine ag O rfl rfl fun a O=>nt<|wp_ret<|Qv rfl O.defers (As AH O rfl (J.row 0 rfl) (by simp only [AM,AK])) (AL O rfl) (AL O rfl) ⟨_,rfl,J.below,?_⟩;exact ⟨_,_,_,_,_,_,_,_,_,_,rfl,by assumption,hkq9,hsl,hVL,J.ge 2 rfl,J.row 2 rfl⟩
theorem J9 (a p:Int):p∣a%p - a:=⟨-(a / p),by rw [Int.emod_def,Int.mul_neg];omega⟩
theorem J7 {p a b:Nat}(h:(p:Int)∣(a:Int) - (b:Int))(ha:a<p)(hb:b<p):a=b:=by
  have h6:=(Int.emod_eq_emod_iff_emod_sub_eq_zero).2 (Int.emod_eq_zero_of_dvd h);rw [Int.emod_eq_of_lt (by omega) (by omega),Int.emod_eq_of_lt (by omega) (by omega)] at h6
  omega
def fV (p:Nat) (f x:Nat->Nat):Nat:=sumTo (fun i=>x i*f i) 6%p
theorem Je {p:Nat}{f x:Nat->Nat}(hp:0<p):fV p f x<p:=Nat.mod_lt _ hp
theorem Jf {p n:Nat}{f x:Nat->Nat}(hn:n<=6)(hx:∀ c,n<=c->c<6->x c=0):(p:Int)∣(fV p f x:Int) - fI n f (ci x):=by
  unfold fV
  rw [Int.natCast_emod];refine BY (J9 _ _) (Gw ?_);rw [CT,HN hn (fun c h1 h2=>by rw [hx c h1 h2];simp)];exact Ao fun c _=>by unfold ci;rw [Int.natCast_mul,Int.mul_comm]
theorem Qe {p n:Nat}{f x y:Nat->Nat}(hp:0<p)(hn:n<=6)(hx:∀ c,n<=c->c<6->x c=0)(hy:∀ c,n<=c->c<6->y c=0)(h:EqP p n (ci x) (ci y)):fV p f x=fV p f y:=
  J7 (BY (Jf hn hx) (BY (Ib h) (Gv (Jf hn hy)))) (Je hp) (Je hp)
theorem LS {p n:Nat}{T:Nat->Nat->Nat->Nat}{f:Nat->Nat}(hn:n<=6)(hT0:∀ i j k,n<=k->T i j k=0){i k:Nat}(hk:k<n):(p:Int)∣(formM p n T f i k:Int) - fI n f (fun c=>(T i k c:Int)):=by
  have e:formM p n T f i k=fV p f (T i k):=by unfold formM fV;rw [if_pos hk]
  rw [e];exact Jf hn (fun c h _=>hT0 i k c h)
theorem PL {n:Nat}{T:Nat->Nat->Nat->Nat}(hn:n<=6)(h:EV T):Nl n T:=fun i hi j hj k hk=>by
  rcases Nat.lt_trichotomy i j with e | e | e
  . exact (h j (by omega) i e k (by omega)).symm
  . rw [e]
  . exact h i (by omega) j e k (by omega)
theorem Py {p n:Nat}{T:Nat->Nat->Nat->Nat}{G:Nat->Nat->Nat}:EqP p n (ci (CO p n T G n 0)) (fun c=>sI (fun a=>sI (fun b=>(G a b:Int)*(T a b c:Int)) n) n):=fun c _=>by
  unfold ci CO
  rw [Int.natCast_emod]
  refine BY (J9 _ _) (Gw ?_)
  rw [Int.natCast_add,CT,show sumTo (fun b=>G n b*T n b c) 0=0 from rfl]
  rw [show ((0:Nat):Int)=0 from rfl,Int.add_zero]
  exact Ao fun a _=>by rw [CT];exact Ao fun b _=>by rw [Int.natCast_mul]
theorem Og (i:Nat):ci (fun c=>if c=i then 1 else 0)=fun c=>(dl i c:Int):=funext fun c=>by unfold ci;exact congrArg (fun q:Nat=>(q:Int)) Mn
section
variable {P N : Int} {T U : Nat -> Nat -> Nat -> Nat} {f uu : Nat -> Nat} {p n : Nat}
theorem Good.p0 (G:Good P N T f p n U uu):0<p:=by have:=G.hp.two;omega
theorem Good.tr_cg (G:Good P N T f p n U uu)(v:Nat->Nat):(p:Int)∣((sumTo (fun i=>timesV p n U v (fun c=>if c=i then 1 else 0) i) n%p:Nat):Int) - sI (fun b=>Pr n U (ci v) (fun c=>(dl b c:Int)) b) n:=by
  rw [Int.natCast_emod];refine BY (J9 _ _) ?_;rw [CT];refine FE fun i hi=>?_;rw [G.tEq,← Og];exact ES v _ i hi
theorem QS {x:Nat->Nat}(h:OV p n x):∀ c,n<=c->c<6->x c=0:=fun c h1 h2=>h.out h2 h1
theorem Good.trH (G:Good P N T f p n U uu){Gc:Nat->Nat->Nat}(hH:EV U)(hG:IsCop p n (formM p n U f) Gc)(v x:Nat->Nat)(hx:OV p n x)(e:EqP p n (ci x) (Pr n U (ci (CO p n U Gc n 0)) (ci v))):fV p f x=sumTo (fun i=>timesV p n U v (fun c=>if c=i then 1 else 0) i) n%p:=by
  refine J7 (BY (Jf G.hn (QS hx)) (BY (Ib e) (BY (Jz (Di G.hn G.ass) (PL G.hn hH) (fun i k _ hk=>LS G.hn G.out hk) hG.sol Py (ci v)) (Gv (G.tr_cg v))))) (Je G.p0) (Nat.mod_lt _ G.p0)
theorem Good.pw1 (G:Good P N T f p n U uu)(h:Nat->Nat):EqP p n (ci (CA (timesS p n U) uu h 1)) (ci h):=(ES _ _).trans (fun _ hd=>CY G.unit _ hd)
theorem Of (G:Good P N T f p n U uu)(x:Nat->Int):EqP p n (Pr n U x (ci uu)) x:=fun _ hd=>Dp G.unit _ hd
theorem Good.trU (G:Good P N T f p n U uu):sumTo (fun i=>timesV p n U uu (fun c=>if c=i then 1 else 0) i) n%p=n%p:=by
  refine J7 (BY (G.tr_cg uu) ?_) (Nat.mod_lt _ G.p0) (Nat.mod_lt _ G.p0);refine BY (b:=(n:Int)) ?_ (by rw [Int.natCast_emod];exact Gv (J9 _ _));have h1:(p:Int)∣sI (fun b=>Pr n U (ci uu) (fun c=>(dl b c:Int)) b) n - sI (fun b=>(dl b b:Int)) n:=FE fun b hb=>CY G.unit _ hb;refine BY h1 (Gw ?_);have:∀ m:Nat,sI (fun b=>(dl b b:Int)) m=(m:Int):=fun m=>by
    induction m with
    | zero=>rfl
    | succ m ih=>show sI (fun b=>(dl b b:Int)) m+(dl m m:Int)=_;rw [ih];simp [dl]
  exact this n
theorem Good.gnI (G:Good P N T f p n U uu)(hf:∀ i,f i<=255)(hJ:Bl p n U f)(hH:EV U){Gc:Nat->Nat->Nat}(hG:IsCop p n (formM p n U f) Gc){x:Nat}(hx:x<=30):(∀ w,CallsR Try.prog 69 #[.agg (AB P N T f),.int .i64 (x:Int)] w (fun u _=>u = .tuple #[.int .i64 (fV p f (CA (timesS p n U) uu (CO p n U Gc n 0) x):Int),.int .i64 0])):=fun w=>by
  rw [G.cells]
  have h:=Iz p n U f x w G.hp G.hn0 G.hn G.lt G.out hf (by omega) hJ hH Gc hG uu G.unit (G.code EA)
  rw [(show timesV p n U=timesS p n U from funext fun a=>funext fun b=>G.tEq a b)] at h
  exact h
theorem Good.gnS (G:Good P N T f p n U uu)(hf:∀ i,f i<=255)(hJ:Bl p n U f)(hH:EV U){Gc:Nat->Nat->Nat}(hG:IsCop p n (formM p n U f) Gc){x:Nat}(hx:x<=30):(∀ w,CallsR Try.prog 70 #[.agg (AB P N T f),.int .i64 (x:Int)] w (fun u _=>u = .tuple #[.int .i64 (fV p f (CA (timesS p n U) uu (CO p n U Gc n 0) x):Int),.int .i64 0])):=fun w=>by
  rw [G.cells]
  have h:=Iu p n U f x w G.hp G.hn0 G.hn G.lt G.out hf (by omega) hJ hH Gc hG uu G.unit (G.code EA)
  rw [(show timesV p n U=timesS p n U from funext fun a=>funext fun b=>G.tEq a b)] at h
  exact h
theorem Good.lgI (G:Good P N T f p n U uu)(hf:∀ i,f i<=255)(hJ:Bl p n U f)(hH:EV U){Gc:Nat->Nat->Nat}(hG:IsCop p n (formM p n U f) Gc){x:Nat}(hx:x<=30){b c m:Nat}{V:Nat->Nat->Nat}{csV:Array Value}(hV:∀ i c,V i c<=255)(hm:m<=8)(hsV:m*6<=csV.size)(hrV:∀ i o e:Nat,o=i*6->e=o+6->i<m->csV.extract o e=AG (V i))(hm6:m<=6)(hov:∀ i,i<m->okV (p:Int) (n:Int) (V i)):∀ w,Blk w b csV->CallsR Try.prog 72 #[.agg (AB P N T f),.int .i64 (x:Int),.slice (some ⟨b,0,none⟩) m c] w (fun u _=>u = .tuple #[.int .i64 ((fV p f (Ce (timesS p n U) (CA (timesS p n U) uu (CO p n U Gc n 0) x) V m):Nat):Int),.int .i64 0]):=fun w hb=>by
  rw [G.cells]
  have h:=G3 p n U f b c m V csV x w G.hp G.hn0 G.hn G.lt G.out hf hV (by omega) hsV hrV hb ⟨hx,hm6⟩ hJ hH Gc hG uu G.unit (G.code hov)
  rw [(show timesV p n U=timesS p n U from funext fun a=>funext fun b=>G.tEq a b)] at h
  exact h
theorem GX {l:List (Nat->Nat)}:∀ i o e:Nat,o=i*6->e=o+6->i<l.length->(BE l.length (Aw l)).extract o e=AG (Aw l i):=fun i o e h1 h2 h3=>HA i h1 h2 h3
end
def OkG (P N:Int) (T:Nat->Nat->Nat->Nat) (f:Nat->Nat) (x r e:Int):Prop:=(e≠0->r=0)/\(e=0->∃ uu:Nat->Nat,(∀ w,CallsR Try.prog 14 #[.agg (AB P N T f)] w (fun u _=>u = .tuple #[.agg (AG uu),.int .i64 0]))/\(∀ c,uu c<=255)/\(∀ w b,Blk w b (BE 2 (Aw [uu,uu]))->CallsR Try.prog 72 #[.agg (AB P N T f),.int .i64 x,.slice (some ⟨b,0,none⟩) 2 2] w (fun u _=>u = .tuple #[.int .i64 r,.int .i64 0]))/\(∀ w,CallsR Try.prog 69 #[.agg (AB P N T f),.int .i64 1] w (fun u _=>u = .tuple #[.int .i64 (N%P),.int .i64 0]))/\(2<=P/\P<=13)/\1<=N/\N<=6)
theorem PF (P N:Int)(T:Nat->Nat->Nat->Nat)(f:Nat->Nat)(x:Int)(hT:∀ i j k,T i j k<=255)(hf:∀ i,f i<=255):∃ r e:Int,(∀ w,CallsR Try.prog 69 #[.agg (AB P N T f),.int .i64 x] w (fun u _=>u = .tuple #[.int .i64 r,.int .i64 e]))/\(∀ w,CallsR Try.prog 70 #[.agg (AB P N T f),.int .i64 x] w (fun u _=>u = .tuple #[.int .i64 r,.int .i64 e]))/\OkG P N T f x r e:=by
  by_cases hc:BO P N T f 0 (Aw [])
  . obtain ⟨p,n,U,uu,G⟩:=Gq hc.1
    by_cases hk:0<=x/\x<=30
    . have hx0:(x.toNat:Int)=x:=by omega
      by_cases hJ:Bl p n U f
      . by_cases hH:EV U
        . obtain ⟨Gc,hG⟩:=GP (F:=formM p n U f) G.hp G.hn0 G.hn (fun i c h=>DU h) (Dz G.p0) hJ
          have h1:=G.gnI hf hJ hH hG (x:=x.toNat) (by omega);have h2:=G.gnS hf hJ hH hG (x:=x.toNat) (by omega);have ou:=MX G.hp G.unit;have h3:=fun b=>G.lgI hf hJ hH hG (x:=x.toNat) (by omega) (b:=b) (c:=2) (m:=2) (V:=Aw [uu,uu]) (csV:=BE 2 (Aw [uu,uu])) (B5 (fun v hv=>by simp at hv;subst hv;exact ou.2)) (by omega) (Nat.le_of_eq vecsC_size.symm) (GX (l:=[uu,uu])) (by omega) (Pi ou ou);rw [hx0] at h1 h2 h3;refine ⟨_,0,h1,h2,fun e=>absurd rfl e,fun _=>⟨uu,G.unI hf,ou.2,fun w b hb=>?_,?_,by rw [← G.eP];have:=G.hp.two;have:=G.hp.le;omega,by rw [← G.eN];have:=G.hn0;have:=G.hn;omega⟩⟩
          . have e:fV p f (Ce (timesS p n U) (CA (timesS p n U) uu (CO p n U Gc n 0) x.toNat) (Aw [uu,uu]) 2)=fV p f (CA (timesS p n U) uu (CO p n U Gc n 0) x.toNat):=by
              refine Qe G.p0 G.hn (QS (FR G.hp _ _)) (QS (N8 G.hp G.unit _ _))<|(ES _ _).trans ((Of G _).trans ((ES _ _).trans (Of G _)))
            have:=h3 b w hb;rw [e] at this;exact this
          . have h4:=G.gnI hf hJ hH hG (x:=1) (by omega)
            have e:fV p f (CA (timesS p n U) uu (CO p n U Gc n 0) 1)=n%p:=by
              rw [← G.trU];exact G.trH hH hG uu _ (N8 G.hp G.unit _ 1) ((G.pw1 _).trans (Of G _).symm)
            rw [e] at h4;rw [show N%P=((n%p:Nat):Int) by rw [← G.eN,← G.eP,Int.natCast_emod]];exact h4
        . refine ⟨0,5,fun w=>?_,fun w=>?_,fun _=>rfl,fun e=>absurd e (by decide)⟩
          . have h:=I1 p n U f x.toNat w G.hp G.hn0 G.hn G.lt G.out hf (by omega) hJ hH (G.code EA)
            rw [hx0,← G.cells] at h;exact h
          . have h:=Iw p n U f x.toNat w G.hp G.hn0 G.hn G.lt G.out hf (by omega) hJ hH (G.code EA)
            rw [hx0,← G.cells] at h;exact h
      . refine ⟨0,5,fun w=>?_,fun w=>?_,fun _=>rfl,fun e=>absurd e (by decide)⟩
        . have h:=I2 p n U f x.toNat w G.hp G.hn0 G.hn G.lt G.out hf (by omega) hJ (G.code EA)
          rw [hx0,← G.cells] at h;exact h
        . have h:=Ix p n U f x.toNat w G.hp G.hn0 G.hn G.lt G.out hf (by omega) hJ (G.code EA)
          rw [hx0,← G.cells] at h;exact h
    . refine ⟨0,2,fun w=>?_,fun w=>?_,fun _=>rfl,fun e=>absurd e (by decide)⟩
      . rw [G.cells];exact I0 p n U f x w G.hp G.hn0 G.hn G.lt G.out hf (by omega) (G.code EA)
      . rw [G.cells];exact Iv p n U f x w G.hp G.hn0 G.hn G.lt G.out hf (by omega) (G.code EA)
  . exact ⟨0,1,fun w=>I3 P N T f x w hT hf hc,fun w=>Iy P N T f x w hT hf hc,fun _=>rfl,fun e=>absurd e (by decide)⟩
theorem O6 (P N:Int)(T:Nat->Nat->Nat->Nat)(f:Nat->Nat)(b c m:Nat)(V:Nat->Nat->Nat)(csV:Array Value)(x:Int)(hT:∀ i j k,T i j k<=255)(hf:∀ i,f i<=255)(hV:∀ i c,V i c<=255)(hm:m<=8)(hsV:m*6<=csV.size)(hrV:∀ i o e:Nat,o=i*6->e=o+6->i<m->csV.extract o e=AG (V i)):∃ r e:Int,(∀ w,Blk w b csV->CallsR Try.prog 72 #[.agg (AB P N T f),.int .i64 x,.slice (some ⟨b,0,none⟩) m c] w (fun u _=>u = .tuple #[.int .i64 r,.int .i64 e]))/\(∀ w,Blk w b csV->CallsR Try.prog 73 #[.agg (AB P N T f),.int .i64 x,.slice (some ⟨b,0,none⟩) m c] w (fun u _=>u = .tuple #[.int .i64 r,.int .i64 e])):=by
  by_cases hc:BO P N T f m V
  . obtain ⟨p,n,U,uu,G⟩:=Gq hc.1
    have hov:∀ i,i<m->okV (p:Int) (n:Int) (V i):=by rw [G.eP,G.eN];exact hc.2
    by_cases hk:(0<=x/\x<=30)/\m<=6
    . have hx0:(x.toNat:Int)=x:=by omega
      by_cases hJ:Bl p n U f
      . by_cases hH:EV U
        . obtain ⟨Gc,hG⟩:=GP (F:=formM p n U f) G.hp G.hn0 G.hn (fun i c h=>DU h) (Dz G.p0) hJ
          refine ⟨((sumTo (fun i=>(Ce (timesV p n U) (CA (timesV p n U) uu (CO p n U Gc n 0) x.toNat) V m) i*f i) 6%p:Nat):Int),0,fun w hb=>?_,fun w hb=>?_⟩
          . have h:=G3 p n U f b c m V csV x.toNat w G.hp G.hn0 G.hn G.lt G.out hf hV (by omega) hsV hrV hb (by omega) hJ hH Gc hG uu G.unit (G.code hov)
            rw [hx0,← G.cells] at h;exact h
          . have h:=KV p n U f b c m V csV x.toNat w G.hp G.hn0 G.hn G.lt G.out hf hV (by omega) hsV hrV hb (by omega) hJ hH Gc hG uu G.unit (G.code hov)
            rw [hx0,← G.cells] at h;exact h
        . refine ⟨0,5,fun w hb=>?_,fun w hb=>?_⟩
          . have h:=G4 p n U f b c m V csV x.toNat w G.hp G.hn0 G.hn G.lt G.out hf hV (by omega) hsV hrV hb (by omega) hJ hH (G.code hov)
            rw [hx0,← G.cells] at h;exact h
          . have h:=KX p n U f b c m V csV x.toNat w G.hp G.hn0 G.hn G.lt G.out hf hV (by omega) hsV hrV hb (by omega) hJ hH (G.code hov)
            rw [hx0,← G.cells] at h;exact h
      . refine ⟨0,5,fun w hb=>?_,fun w hb=>?_⟩
        . have h:=G5 p n U f b c m V csV x.toNat w G.hp G.hn0 G.hn G.lt G.out hf hV (by omega) hsV hrV hb (by omega) hJ (G.code hov)
          rw [hx0,← G.cells] at h;exact h
        . have h:=KY p n U f b c m V csV x.toNat w G.hp G.hn0 G.hn G.lt G.out hf hV (by omega) hsV hrV hb (by omega) hJ (G.code hov)
          rw [hx0,← G.cells] at h;exact h
    . refine ⟨0,2,fun w hb=>?_,fun w hb=>?_⟩
      . have h:=Ka p n U f b c m V csV x w G.hp G.hn0 G.hn G.lt G.out hf hV (by omega) hsV hrV hb (by omega) (G.code hov)
        rw [← G.cells] at h;exact h
      . have h:=KW p n U f b c m V csV x w G.hp G.hn0 G.hn G.lt G.out hf hV (by omega) hsV hrV hb (by omega) (G.code hov)
        rw [← G.cells] at h;exact h
  . exact ⟨0,1,fun w hb=>Kb P N T f b c m V csV x w hT hf hV (by omega) hsV hrV hb hc,fun w hb=>KZ P N T f b c m V csV x w hT hf hV (by omega) hsV hrV hb hc⟩
def Rq (P N:Int) (T:Nat->Nat->Nat->Nat) (f:Nat->Nat) (v:Nat->Nat) (r e:Int):Prop:=e=0->∃ y e2:Int,(∀ w b,Blk w b (BE 1 (Aw [v]))->CallsR Try.prog 72 #[.agg (AB P N T f),.int .i64 1,.slice (some ⟨b,0,none⟩) 1 1] w (fun u _=>u = .tuple #[.int .i64 y,.int .i64 e2]))/\(e2=0->y=r)
theorem Ot (P N:Int)(T:Nat->Nat->Nat->Nat)(f:Nat->Nat)(v:Nat->Nat)(hT:∀ i j k,T i j k<=255)(hf:∀ i,f i<=255)(hv:∀ i,v i<=255):∃ r e:Int,(∀ w,CallsR Try.prog 75 #[.agg (AB P N T f),.agg (AG v)] w (fun u _=>u = .tuple #[.int .i64 r,.int .i64 e]))/\(∀ w,CallsR Try.prog 76 #[.agg (AB P N T f),.agg (AG v)] w (fun u _=>u = .tuple #[.int .i64 r,.int .i64 e]))/\Rq P N T f v r e:=by
  by_cases hc:BO P N T f 1 (Aw [v])
  . obtain ⟨p,n,U,uu,G⟩:=Gq hc.1
    have ov:=G.okv (Q3 hc.2) hv;have h1:=fun w=>Nj p n U f v w G.hp G.hn0 G.hn G.lt G.out hf hv (G.code (Ck ov));have h2:=fun w=>Nh p n U f v w G.hp G.hn0 G.hn G.lt G.out hf hv (G.code (Ck ov));have hV1:∀ i c,Aw [v] i c<=255:=B5 (fun x hx=>by simp at hx;subst hx;exact hv);refine ⟨((sumTo (fun i=>timesV p n U v (fun c=>if c=i then 1 else 0) i) n%p:Nat):Int),0,fun w=>by rw [G.cells];exact h1 w,fun w=>by rw [G.cells];have h:=h2 w;simp only [← G.tEq] at h;exact h,fun _=>?_⟩
    by_cases hJ:Bl p n U f
    . by_cases hH:EV U
      . obtain ⟨Gc,hG⟩:=GP (F:=formM p n U f) G.hp G.hn0 G.hn (fun i c h=>DU h) (Dz G.p0) hJ
        refine ⟨_,0,fun w b=>G.lgI hf hJ hH hG (x:=1) (by omega) (b:=b) (c:=1) (m:=1) (V:=Aw [v]) (csV:=BE 1 (Aw [v])) hV1 (by omega) (Nat.le_of_eq vecsC_size.symm) (GX (l:=[v])) (by omega) (Ck ov) w,fun _=>?_⟩;exact congrArg (fun q:Nat=>(q:Int)) (G.trH hH hG v _ (FR G.hp _ _) ((ES _ _).trans ((G.pw1 _).mul (EqP.refl _))))
      . refine ⟨0,5,fun w b hb=>?_,fun e=>absurd e (by decide)⟩
        have h:=G4 p n U f b 1 1 (Aw [v]) (BE 1 (Aw [v])) 1 w G.hp G.hn0 G.hn G.lt G.out hf hV1 (by omega) (Nat.le_of_eq vecsC_size.symm) (GX (l:=[v])) hb (by omega) hJ hH (G.code (Ck ov));rw [← G.cells] at h;exact h
    . refine ⟨0,5,fun w b hb=>?_,fun e=>absurd e (by decide)⟩
      have h:=G5 p n U f b 1 1 (Aw [v]) (BE 1 (Aw [v])) 1 w G.hp G.hn0 G.hn G.lt G.out hf hV1 (by omega) (Nat.le_of_eq vecsC_size.symm) (GX (l:=[v])) hb (by omega) hJ (G.code (Ck ov));rw [← G.cells] at h;exact h
  . exact ⟨0,1,fun w=>Nk P N T f v w hT hf hv hc,fun w=>Ni P N T f v w hT hf hv hc,fun e=>absurd e (by decide)⟩
def Rp (P N:Int) (T:Nat->Nat->Nat->Nat) (f:Nat->Nat) (v:Nat->Nat) (bb:Bool) (e:Int):Prop:=e=0->∃ (r:Nat->Nat) (e2:Int),(∀ w,CallsR Try.prog 17 #[.agg (AB P N T f),.agg (AG v)] w (fun u _=>u = .tuple #[.agg (AG r),.int .i64 e2]))/\bb=decide (e2=0)
theorem PB (P N:Int)(T:Nat->Nat->Nat->Nat)(f:Nat->Nat)(v:Nat->Nat)(hT:∀ i j k,T i j k<=255)(hf:∀ i,f i<=255)(hv:∀ i,v i<=255):∃ (bb:Bool) (e:Int),(∀ w,CallsR Try.prog 81 #[.agg (AB P N T f),.agg (AG v)] w (fun u _=>u = .tuple #[.bool bb,.int .i64 e]))/\(∀ w,CallsR Try.prog 82 #[.agg (AB P N T f),.agg (AG v)] w (fun u _=>u = .tuple #[.bool bb,.int .i64 e]))/\Rp P N T f v bb e:=by
  by_cases hc:BO P N T f 1 (Aw [v])
  . obtain ⟨p,n,U,uu,G⟩:=Gq hc.1
    have ov:=G.okv (Q3 hc.2) hv
    by_cases hi:∃ iv,InvI p n U uu v iv
    . obtain ⟨iv,hO⟩:=hi
      refine ⟨true,0,fun w=>?_,fun w=>?_,fun _=>⟨iv,0,fun w=>?_,by simp⟩⟩
      . rw [G.cells];exact Ir p n U f v w G.hp G.hn0 G.hn G.lt G.out hf hv uu G.unit G.ass iv hO (G.code (Ck ov))
      . rw [G.cells];exact Io p n U f v w G.hp G.hn0 G.hn G.lt G.out hf hv uu G.unit G.ass iv hO (G.code (Ck ov))
      . rw [G.cells];exact FG p n U f v w G.hp G.hn0 G.hn G.lt G.out hf hv uu G.unit G.ass iv hO (G.code (Ck ov))
    . have hno:∀ q,¬ InvI p n U uu v q:=fun q hq=>hi ⟨q,hq⟩
      refine ⟨false,0,fun w=>?_,fun w=>?_,fun _=>⟨fun _=>0,4,fun w=>?_,by simp⟩⟩
      . rw [G.cells];exact Is p n U f v w G.hp G.hn0 G.hn G.lt G.out hf hv uu G.unit G.ass hno (G.code (Ck ov))
      . rw [G.cells];exact Ip p n U f v w G.hp G.hn0 G.hn G.lt G.out hf hv uu G.unit G.ass hno (G.code (Ck ov))
      . rw [G.cells];exact Hx p n U f v w G.hp G.hn0 G.hn G.lt G.out hf hv uu G.unit G.ass hno (G.code (Ck ov))
  . exact ⟨false,1,fun w=>It P N T f v w hT hf hv hc,fun w=>Iq P N T f v w hT hf hv hc,fun e=>absurd e (by decide)⟩
def chF (p n:Nat) (U:Nat->Nat->Nat->Nat) (f v:Nat->Nat) (i:Nat):Nat:=if i<n then fV p f (timesS p n U v (fun c=>if c=i then 1 else 0)) else f i
theorem Nw {p n:Nat}{U:Nat->Nat->Nat->Nat}{f v:Nat->Nat}(hp:0<p)(h:I7 (p:Int) (n:Int) U f):I7 (p:Int) (n:Int) U (chF p n U f v):=by
  obtain ⟨⟨h1,h2,h3,h4⟩,h5⟩:=h;refine ⟨⟨h1,h2,fun i hi=>?_,h4⟩,h5⟩;have h6:=h3 i hi
  unfold G8 at h6 ⊢
  unfold chF
  split
  . have:=Je (p:=p) (f:=f) (x:=timesS p n U v (fun c=>if c=i then 1 else 0)) hp
    omega
  . exact h6
section
variable {P N : Int} {T U : Nat -> Nat -> Nat -> Nat} {f uu : Nat -> Nat} {p n : Nat}
theorem Good.chI (G:Good P N T f p n U uu)(v:Nat->Nat)(x:Nat->Int):(p:Int)∣fI n (chF p n U f v) x - fI n f (Pr n U (ci v) x):=by
  have h1:(p:Int)∣fI n (chF p n U f v) x - sI (fun i=>x i*fI n f (Pr n U (ci v) (fun c=>(dl i c:Int)))) n:=by
    refine FE fun i hi=>?_
    show (p:Int)∣(chF p n U f v i:Int)*x i - _
    rw [Int.mul_comm];refine HY _ ?_;rw [show chF p n U f v i=fV p f (timesS p n U v (fun c=>if c=i then 1 else 0)) from if_pos hi,← Og];exact BY (Jf G.hn (QS (FR G.hp _ _))) (Ib (ES _ _))
  refine BY h1 (Gw ?_);rw [← Fp];refine congrArg (fI n f) (funext fun c=>?_);have h2:=Ff (n:=n) (T:=U) (x:=x) (v:=ci v) (c:=c);rw [h2];exact Ao fun i hi=>by rw [Ff];rw [J1 hi]
theorem Good.chBack (G:Good P N T f p n U uu){v iv:Nat->Nat}(hO:InvI p n U uu v iv)(hfp:okV (p:Int) (n:Int) f):∀ i,i<6->chF p n U (chF p n U f v) iv i=f i:=fun i hi=>by
  unfold chF
  by_cases h:i<n
  . rw [if_pos h]
    have hfi:=hfp i hi
    unfold G8 at hfi
    refine J7 (BY (Jf G.hn (QS (FR G.hp _ _))) (BY (Ib (ES _ _)) ?_)) (Je G.p0) (by omega)
    refine BY (G.chI v _) ?_
    have e:EqP p n (Pr n U (ci v) (Pr n U (ci iv) (ci (fun c=>if c=i then 1 else 0)))) (ci (fun c=>if c=i then 1 else 0)):=by
      have e1:EqP p n (Pr n U (ci v) (ci iv)) (ci uu):=fun c hc=>hO.left c hc;refine EqP.trans (EqP.symm (fun _ hd=>EU (Di G.hn G.ass) _ _ _ hd)) ((e1.mul (EqP.refl _)).trans (fun _ hd=>CY G.unit _ hd))
    refine BY (Ib e) (Gw ?_);rw [Og];exact (Ao fun c _=>Int.mul_comm _ _).trans (J1 h)
  . rw [if_neg h,if_neg h]
theorem Good.chFrob (G:Good P N T f p n U uu){v iv:Nat->Nat}(hO:InvI p n U uu v iv)(hJ:Bl p n U f):Bl p n U (chF p n U f v):=by
  refine OP G.hp G.hn0 G.hn (fun i c h=>DU h) (Dz G.p0) fun x hx h0=>?_;have hass:=Di G.hn G.ass;have key:∀ (g:Nat->Nat) (y:Nat->Int) (i:Nat),i<n->(∀ d,n<=d->d<6->y d=0)->(p:Int)∣dot 6 (ci (formM p n U g i)) y - fI n g (Pr n U (fun c=>(dl i c:Int)) y):=fun g y i hi hy=>by
    unfold dot
    rw [HN G.hn (fun c h1 h2=>by rw [hy c h1 h2];simp)];have h1:fI n g (Pr n U (fun c=>(dl i c:Int)) y)=sI (fun k=>y k*fI n g (fun c=>(U i k c:Int))) n:=by
      rw [← Fp];exact congrArg (fI n g) (funext fun c=>Mu i hi y c)
    rw [h1];refine FE fun k hk=>?_;rw [Int.mul_comm];exact HY _ (LS G.hn G.out hk)
  have hy:Ker p 6 (formM p n U f) n x:=by
    intro i hi
    have e1:EqP p n (Pr n U (fun c=>(dl i c:Int)) x) (Pr n U (ci v) (Pr n U (Pr n U (ci iv) (fun c=>(dl i c:Int))) x)):=by
      have a1:EqP p n (Pr n U (ci v) (ci iv)) (ci uu):=fun c hc=>hO.left c hc;have a2:EqP p n (Pr n U (ci v) (Pr n U (ci iv) (fun c=>(dl i c:Int)))) (fun c=>(dl i c:Int)):=EqP.trans (EqP.symm (fun _ hd=>EU hass _ _ _ hd)) ((a1.mul (EqP.refl _)).trans (fun _ hd=>CY G.unit _ hd));exact EqP.trans (a2.symm.mul (EqP.refl x)) (fun _ hd=>EU hass _ _ _ hd)
    have h1:=key f x i hi h0;have h2:(p:Int)∣fI n (chF p n U f v) (Pr n U (Pr n U (ci iv) (fun c=>(dl i c:Int))) x):=by
      have b1:fI n (chF p n U f v) (Pr n U (Pr n U (ci iv) (fun c=>(dl i c:Int))) x)=sI (fun a=>Pr n U (ci iv) (fun c=>(dl i c:Int)) a*fI n (chF p n U f v) (Pr n U (fun c=>(dl a c:Int)) x)) n:=by
        rw [← Fp];refine congrArg (fI n (chF p n U f v)) (funext fun c=>?_);rw [H9];exact Ao fun a ha=>by rw [Mu a ha]
      rw [b1];refine Da fun a ha=>Int.dvd_mul_of_dvd_right ?_;have h3:=hx a ha;have h4:=key (chF p n U f v) x a ha h0;have:=Int.dvd_sub h3 h4
      rwa [show ∀ s t:Int,s - (s - t)=t from fun s t=>by omega] at this
    have h5:=BY h1 (BY (Ib e1) (Gv (G.chI v _)));have:=Int.dvd_add h5 h2
    rwa [Int.sub_add_cancel] at this
  exact fun c hc=>FullK.zero G.hp.two G.hn (fun i c h=>DU h) hJ hy h0 hc
end
def Rr (P N:Int) (T:Nat->Nat->Nat->Nat) (f:Nat->Nat) (v:Nat->Nat) (D:Array Value) (e:Int):Prop:=e=0->∃ r:Nat->Nat,(∀ w,CallsR Try.prog 17 #[.agg (AB P N T f),.agg (AG v)] w (fun u _=>u = .tuple #[.agg (AG r),.int .i64 0]))/\(∀ w,CallsR Try.prog 78 #[.agg D,.agg (AG r)] w (fun u _=>u = .tuple #[.agg (AB P N T f),.int .i64 0]))
theorem PO (P N:Int)(T:Nat->Nat->Nat->Nat)(f:Nat->Nat)(v:Nat->Nat)(hT:∀ i j k,T i j k<=255)(hf:∀ i,f i<=255)(hv:∀ i,v i<=255):∃ (P2 N2:Int) (T2:Nat->Nat->Nat->Nat) (f2:Nat->Nat) (e:Int),(∀ w,CallsR Try.prog 78 #[.agg (AB P N T f),.agg (AG v)] w (fun u _=>u = .tuple #[.agg (AB P2 N2 T2 f2),.int .i64 e]))/\(∀ w,CallsR Try.prog 79 #[.agg (AB P N T f),.agg (AG v)] w (fun u _=>u = .tuple #[.agg (AB P2 N2 T2 f2),.int .i64 e]))/\Rr P N T f v (AB P2 N2 T2 f2) e:=by
  by_cases hc:BO P N T f 1 (Aw [v])
  . obtain ⟨p,n,U,uu,G⟩:=Gq hc.1
    have ov:=G.okv (Q3 hc.2) hv
    by_cases hJ:Bl p n U f
    . by_cases hi:∃ iv,InvI p n U uu v iv
      . obtain ⟨iv,hO⟩:=hi
        have oi:OV p n iv:=OV.mk G.hp hO.small hO.out;have algC_congrF:∀ {P N:Int} {T:Nat->Nat->Nat->Nat} {f g:Nat->Nat},(∀ i,i<6->f i=g i)->AB P N T f=AB P N T g:=fun h=>by
          unfold AB;refine A5 fun j hj=>?_
          by_cases h2:j<218
          . simp only [if_pos h2]
          . simp only [if_neg h2,h (j - 218) (by omega)]
        have hch:∀ (g x:Nat->Nat),(fun i=>if i<n then sumTo (fun c=>timesV p n U x (fun c=>if c=i then 1 else 0) c*g c) 6%p else g i)=chF p n U g x:=fun g x=>funext fun i=>by unfold chF fV;rw [G.tEq]
        have hchS:∀ (g x:Nat->Nat),(fun i=>if i<n then sumTo (fun c=>g c*timesS p n U x (fun c=>if c=i then 1 else 0) c) 6%p else g i)=chF p n U g x:=fun g x=>funext fun i=>by unfold chF fV;simp only [Nat.mul_comm]
        have hfp:okV (p:Int) (n:Int) f:=G.alg.1.2.2.1;have hv6:∀ c,(if c<n then v c else 0)<p:=fun c=>by
          by_cases h:c<n
          . rw [if_pos h];exact ov.lt (by have:=G.hn;omega)
          . rw [if_neg h];exact G.p0
        have hEv:EqP p n (ci (fun c=>if c<n then v c else 0)) (ci v):=fun c hc=>Gw (by unfold ci;simp only [if_pos hc]);have hivv:InvI p n U uu iv (fun c=>if c<n then v c else 0):=⟨hv6,fun c h=>if_neg (by omega),fun c hc=>BY (hEv.mul (EqP.refl _) c hc) (hO.left c hc),fun c hc=>BY ((EqP.refl _).mul hEv c hc) (hO.right c hc)⟩;have hcf:∀ i,chF p n U f v i<=255:=fun i=>by
          unfold chF;split
          . have:=Je (p:=p) (f:=f) (x:=timesS p n U v (fun c=>if c=i then 1 else 0)) G.p0
            have:=G.hp.le;omega
          . exact hf i
        refine ⟨(p:Int),(n:Int),U,chF p n U f v,0,fun w=>?_,fun w=>?_,fun _=>⟨iv,fun w=>?_,fun w=>?_⟩⟩
        . have h:=G7 p n U f v w G.hp G.hn0 G.hn G.lt G.out hf hv hJ uu G.unit G.ass iv hO (G.code (Ck ov))
          rw [hch] at h;rw [G.cells];exact h
        . have h:=Kc p n U f v w G.hp G.hn0 G.hn G.lt G.out hf hv hJ uu G.unit G.ass iv hO (G.code (Ck ov))
          rw [hchS] at h;rw [G.cells];exact h
        . rw [G.cells];exact FG p n U f v w G.hp G.hn0 G.hn G.lt G.out hf hv uu G.unit G.ass iv hO (G.code (Ck ov))
        . have h:=G7 p n U (chF p n U f v) iv w G.hp G.hn0 G.hn G.lt G.out hcf oi.2 (G.chFrob hO hJ) uu G.unit G.ass _ hivv ⟨Nw G.p0 G.alg,Ck oi⟩
          rw [hch,show AB (p:Int) (n:Int) U (chF p n U (chF p n U f v) iv)=AB (p:Int) (n:Int) U f from algC_congrF (G.chBack hO hfp)] at h;rw [G.cells];exact h
      . have hno:∀ q,¬ InvI p n U uu v q:=fun q hq=>hi ⟨q,hq⟩
        refine ⟨0,0,fun _ _ _=>0,fun _=>0,5,fun w=>?_,fun w=>?_,fun e=>absurd e (by decide)⟩
        . rw [G.cells];exact Kg p n U f v w G.hp G.hn0 G.hn G.lt G.out hf hv hJ uu G.unit G.ass hno (G.code (Ck ov))
        . rw [G.cells];exact Kd p n U f v w G.hp G.hn0 G.hn G.lt G.out hf hv hJ uu G.unit G.ass hno (G.code (Ck ov))
    . refine ⟨0,0,fun _ _ _=>0,fun _=>0,5,fun w=>?_,fun w=>?_,fun e=>absurd e (by decide)⟩
      . rw [G.cells];exact Kh p n U f v w G.hp G.hn0 G.hn G.lt G.out hf hv hJ (G.code (Ck ov))
      . rw [G.cells];exact Ke p n U f v w G.hp G.hn0 G.hn G.lt G.out hf hv hJ (G.code (Ck ov))
  . exact ⟨0,0,fun _ _ _=>0,fun _=>0,1,fun w=>Ki P N T f v w hT hf hv hc,fun w=>Kf P N T f v w hT hf hv hc,fun e=>absurd e (by decide)⟩
def OQ (fs:List Field) (t u v:TypeId):Bool:=match fs with
  | [f, g, h, k] => f.name != "_" && g.name != "_" && h.name != "_" && k.name != "_" && Nat.beq f.type t && Nat.beq g.type t && Nat.beq h.type u && Nat.beq k.type v && Nat.beq f.offset 0 && Nat.beq g.offset 1 && Nat.beq h.offset 2 && Nat.beq k.offset 218
  | _=>false
theorem Jh {P:Program}{d:Nat}{T t u v:TypeId}{p n:Int}{A:Nat->Nat->Nat->Nat}{f:Nat->Nat}(hu:P.underlying T=some (.struct (P.fieldsOf T)))(hp:P.stoodInHeld T=false)(hf:OQ (P.fieldsOf T).toList t u v=true)(hi:LQ P t=true)(ho:FI P t=true)
    (hga:FK P u=some 216) (hT:Go.Sw.EqAt P (d+5) u (.agg (Cx A)) (.agg (Cx A)) (Pb A A)) (hva:FK P v=some 6) (hv:Go.Sw.EqAt P (d+5) v (.agg (AG f)) (.agg (AG f)) (H4 6 f f)) :
    Go.Sw.EqAt P (d+6) T (.agg (AB p n A f)) (.agg (AB p n A f)) True:=by
  intro w;rw [run_equalIn_agg w (d+5) T _ _ hu hp]
  generalize (P.fieldsOf T).toList=fs at hf
  match fs,hf with
  | [f1, f2, f3, f4], hf =>
    simp only [OQ,Bool.and_eq_true,bne_iff_ne,ne_eq,Nat.beq_eq_true_eq] at hf;obtain ⟨⟨⟨⟨⟨⟨⟨⟨⟨⟨⟨h1,h2⟩,h3⟩,h4⟩,t1⟩,t2⟩,t3⟩,t4⟩,o1⟩,o2⟩,o3⟩,o4⟩:=hf;have t1:=Nat.eq_of_beq_eq_true t1;have t2:=Nat.eq_of_beq_eq_true t2;have t3:=Nat.eq_of_beq_eq_true t3;have t4:=Nat.eq_of_beq_eq_true t4;have o1:=Nat.eq_of_beq_eq_true o1;have o2:=Nat.eq_of_beq_eq_true o2;have o3:=Nat.eq_of_beq_eq_true o3;have o4:=Nat.eq_of_beq_eq_true o4;have hq:=(CZ ho w);have hg:=(DI hga w);have hg2:=(DI hva w);have e1:(part f1.type (AB p n A f) f1.offset).run P w = .ok (.int .i64 p) w:=by rw [t1,o1];simp [part,hq.1,BM (p:=p) (n:=n) (T:=A) (f:=f) rfl]
    have e2:(part f2.type (AB p n A f) f2.offset).run P w = .ok (.int .i64 n) w:=by rw [t2,o2];simp [part,hq.1,Aq (p:=p) (n:=n) (T:=A) (f:=f) rfl]
    have e3:(part f3.type (AB p n A f) f3.offset).run P w = .ok (.agg (Cx A)) w:=by rw [t3,o3];simp [part,hg.1,hg.2,Il (p:=p) (n:=n) (T:=A) (f:=f) (o:=2) (e:=218) rfl rfl]
    have e4:(part f4.type (AB p n A f) f4.offset).run P w = .ok (.agg (AG f)) w:=by rw [t4,o4];simp [part,hg2.1,hg2.2,Fu (p:=p) (n:=n) (T:=A) (f:=f) (o:=218) (e:=224) rfl rfl]
    have k1:=Ic (P:=P) (d:=d+4) (T:=t) (k:=.i64) (A:=p) (B:=p) hi w;have k2:=Ic (P:=P) (d:=d+4) (T:=t) (k:=.i64) (A:=n) (B:=n) hi w;have k3:=hT w;have k4:=hv w;rw [decide_eq_true (show Pb A A from fun _ _ _ _ _ _=>rfl)] at k3;rw [decide_eq_true (show H4 6 f f from fun _ _=>rfl)] at k4;rw [← t1] at k1;rw [← t2] at k2;rw [← t3] at k3;rw [← t4] at k4
    simp [Op.eqFields,h1,h2,h3,h4,Sem.run_bind,e1,e2,e3,e4,Result.andThen_ok,k1,k2,k3,k4]
end Go.Proofs.Ytkcneleabbjkaaa
