import Derived.Test.YtkcneleabbjkaaaQ9
set_option linter.unusedVariables false
set_option linter.unusedSimpArgs false
namespace Go.Proofs.Ytkcneleabbjkaaa
open Go Go.RowKit Go.Sw Go.Ech
open Classical
theorem Me:Fa Try.prog 126=some (.agg (A1 6 (fun _=>.bool (false)))):=by kernel_rfl
theorem JF:GO Try.prog 126=some (6,1):=by kernel_rfl
theorem MA:FB Try.prog 4=true:=by kernel_rfl
theorem JD:∀ (x:Option Addr) (n c:Nat) (w:World),(Instr.buildSlice 98 1 #[(0,.slice x n c)]).run Try.prog w = .ok (.slice (some ⟨w.heap.size,0,none⟩) 1 1) (w.alloc (.cells #[.slice x n c] 22)):=by intros;kernel_rfl
theorem isLd_succ {q c:Nat}{ld:Nat->Nat}:CI (q+1) ld c↔CI q ld c\/ld q=c:=by
  constructor
  . rintro ⟨i,hi,e⟩
    by_cases h:i=q
    . subst h;exact .inr e
    . exact .inl ⟨i,by omega,e⟩
  . rintro (⟨i,hi,e⟩ | e)
    . exact ⟨i,by omega,e⟩
    . exact ⟨q,by omega,e⟩
def HV (q:Nat) (ld:Nat->Nat):Array Value:=A1 6 (fun c=>.bool (decide (CI q ld c)))
theorem AY {q:Nat}{ld:Nat->Nat}:(HV q ld).size=6:=BM _ _
theorem Nw {ld:Nat->Nat}:A1 6 (fun _=>.bool false)=HV 0 ld:=BS fun c hc=>congrArg Value.bool (decide_eq_false (fun ⟨i,hi,_⟩=>absurd hi (by omega))).symm
theorem O4 {q o:Nat}{ld:Nat->Nat}(ho:o=ld q):(HV q ld).setIfInBounds o (.bool true)=HV (q+1) ld:=by
  subst ho;refine Bv fun c hc=>?_
  by_cases e:c=ld q
  . rw [if_pos e];exact congrArg Value.bool (decide_eq_true (isLd_succ.2 (.inr e.symm)))
  . rw [if_neg e];exact congrArg Value.bool (decide_eq_decide.2 (isLd_succ.trans ⟨fun h=>h.elim id (fun h2=>absurd h2.symm e),.inl⟩))
theorem O5 {q o c:Nat}{ld:Nat->Nat}(h:o=c)(hc:c<6):(HV q ld)[o]? = some (.bool (decide (CI q ld c))):=by subst h;exact CA hc
theorem KY {p c d:Nat}{E:Nat->Nat->Nat}{ld:Nat->Nat}:sol p E 0 ld c d=if d=c then 1 else 0:=by
  unfold sol;split
  . rfl
  . rfl
theorem Nf {p N k q c:Nat}{E:Nat->Nat->Nat}{ld:Nat->Nat}(h:Rref p N E k ld)(hq:q<k)(hf:¬ CI k ld c)(d:Nat)(hd:d≠ld q):sol p E (q+1) ld c d=sol p E q ld c d:=by
  have e:Cf (q+1) ld d=Cf q ld d:=by rw [HW,if_neg (fun e=>hd e.symm)];simp
  unfold sol
  rw [e]
theorem Px {p N k q c:Nat}{E:Nat->Nat->Nat}{ld:Nat->Nat}(h:Rref p N E k ld)(hq:q<k)(hf:¬ CI k ld c):sol p E (q+1) ld c (ld q)=(p - E q c)%p:=by
  have hJ:ld q≠c:=fun e=>hf ⟨q,hq,e⟩
  unfold sol
  rw [if_neg hJ,HW];have:Cf q ld (ld q)=none:=by
    cases h2:Cf q ld (ld q) with
    | none=>rfl
    | some j=>have:=CC h2;have:=h.mono j q this.1 hq;omega
  rw [this];simp
theorem Ni {p n k:Nat}{E S:Nat->Nat->Nat}{ld:Nat->Nat}(h:Rref p n E k ld)(hS:Ir p n E k ld S):∀ i,i<nf k ld n->∀ c,n<=c->c<6->S i c=0:=fun i hi c hc _=>by
  obtain ⟨d,hd,hf,rfl⟩:=Kf n i hi
  rw [hS d hd hf c]
  unfold sol
  rw [if_neg (by omega)]
  cases h2:Cf k ld c with
  | none=>rfl
  | some j=>have:=CC h2;have:=h.lt j this.1;omega
theorem GA {Q:Nat->Prop}{b0 m:Nat}{γ:Nat->Nat}(h0:Q b0)(hr:∀ i,i<m->Q (γ i)):∀ y∈BW b0 m γ,Q y:=fun y hy=>by
  rcases List.mem_cons.1 hy with rfl | hy
  . exact h0
  . obtain ⟨i,hi,rfl⟩:=List.mem_map.1 hy
    exact hr i (List.mem_range.1 hi)
theorem IQ {w0 w w':World}{size m:Nat}{f:Nat->Value}{u:Value}(hs:w0.heap.size<=w.heap.size)(h:OwnSl size w m f u w'):OwnSl size w0 m f u w':=by
  obtain ⟨b,cap,cs,h1,h2,h3⟩:=h;exact ⟨b,cap,cs,h1,Nat.le_trans hs h2,h3⟩
theorem ND {M:Nat->Nat}:(A1 6 (fun c=>.int .u8 (M c:Int))).extract 0 (0+6)=AQ M:=Ch rfl (by rw [BM];decide) fun q hq=>by rw [Nat.zero_add];exact CA hq
theorem Iv (n b0 c0:Nat)(cs0:Array Value)(D0:A7)(β:Nat->Nat)(M:Nat->Nat->Nat)(w:World)(hn0:0<n)(hn:n<=6)(hD0:∀ b cs,(b,cs)∈D0->Blk w b cs)(hb0:(b0,cs0)∈D0)(hg0:∀ i,i<n->cs0[0+i*1]? = some (.slice (some ⟨β i,0,none⟩) 6 6))(hB:∀ i,i<n->(β i,A1 6 (fun c=>.int .u8 (M i c:Int)))∈D0) :
    CallsR Try.prog 129 #[.slice (some ⟨b0,0,none⟩) n c0] w (fun u w'=>OwnSl 6 w n (fun c=>.int .u8 (M (c / 6) (c%6):Int)) u w'):=by
  refine Al [.slice (some ⟨b0,0,none⟩) n c0] Try.func129 rfl Try.ntmps129 rfl fun a O=>?_;have J:Ag w w [none,none] D0:=MemX.startD w 2 _ hD0;change Fr 20 a [(0,.slice (some ⟨b0,0,none⟩) n c0)] at O;refine sr<|ag O rfl rfl fun a O=>ns<|ag O rfl rfl fun a O=>nt<|sq<|sr<|mv O rfl rfl fun a O=>st O (B2 Cm O rfl) rfl fun a O=>mv O rfl rfl fun a O=>nt<|wp_block ?_;change Ag w _ [none,none] D0 at J;refine Av (fun (kk:Nat) a w'=>kk<=n/\(True)/\∃ (u3_1:Value) (e3_1:Option (Nat×Array Value)),Sl 6 u3_1 e3_1 (kk) (fun c=>.int .u8 (M (c / 6) (c%6):Int))/\Fr 20 a [(2,.slice none 0 0),(6,.slice (some ⟨b0,0,none⟩) n c0),(7,.int .i64 (n:Int)),(8,.int .i64 (kk:Int)),(3,u3_1)]/\Ag w w' [none,e3_1] D0) (fun kk=>n - kk) 0 ?_ ?_
  . refine ⟨by omega,trivial,(.slice none 0 0),(none),(Sl.nil 6 _),O.sub _ (by repeat' constructor),?_⟩
    exact J
  clear O J;rintro gj a w' ⟨hgj,hinv1,u3_1,e3_1,hslj,O,J⟩;refine sr<|st O (A0 O rfl rfl) rfl fun a O=>nt<|sq<|Ab O rfl (fun h1=>?_) (fun h1=>?_)
  . refine wp_skip ?_
    refine tN<|sq<|wp_block<|sr<|st O (Ak (i:=gj) CB O rfl rfl rfl (by omega)) rfl fun a O=>st O (AP Bj O rfl (J.fzm hb0) (hg0 (gj) (by omega))) rfl fun a O=>ag O rfl rfl fun a O=>nt<|wp_region_lit<|mv O rfl rfl fun a O=>mv O rfl rfl fun a O=>st O (MP EL O rfl (by omega)) rfl fun a O=>st O (AE Aq O rfl (J.fzm (hB (gj) (by omega))) (by rw [BM];decide) ND) rfl fun a O=>Ar O (BH (vs:=[(0,.agg (AQ (M (gj))))]) 0 J O (CD O rfl) (fun w=>Hl (M (gj)) w)) rfl ?_;rintro _ w' a ⟨b2,rfl,J,-⟩ O;change Ag w w' [some (b2,Gj 1 (Cj [(M (gj))])),e3_1] D0 at J;refine Ar O (Bg (k:=1) (N:=gj) (m:=1) (f:=(fun c=>.int .u8 (M (c / 6) (c%6):Int))) (g:=fun q=>.int .u8 (((((M (gj))) q:Nat)):Int)) KT rfl (by decide) J rfl O rfl rfl hslj (fun q hq=>((J.row 0 rfl).cell _).trans (JB q hq)) (fun _ _=>rfl) (by decide) (by unfold maxLen;omega) (by omega)) rfl ?_;rintro u3 w' a ⟨e4,J,hs5⟩ O;change Ag w w' [some (b2,Gj 1 (Cj [(M (gj))])),e4] D0 at J;refine ag O rfl rfl fun a O=>wpList_nil<|iN<|tN<|wp_region_lit<|st O (Ap O rfl rfl (Af (gj) (1) (by omega))) rfl fun a O=>mv O rfl rfl fun a O=>wpList_nil<|tN ?_;have J:=J.drop 0;refine ⟨gj+1,⟨by omega,trivial,(u3),(e4),(Sl.snoc6 (N:=gj) (F:=(fun c=>.int .u8 (M (c / 6) (c%6):Int))) (G:=fun q=>.int .u8 (M gj q:Int)) hs5 (fun q hq=>by rw [show (gj*6+q) / 6=gj by omega,show (gj*6+q)%6=q by omega])),O.sub _ (by repeat' constructor),?_⟩,by omega⟩;exact J
  obtain rfl:n=gj:=by omega
  refine wp_exit<|tX<|tX<|Am<|tN<|sr<|mv O rfl rfl fun a O=>ag O rfl rfl fun a O=>nt<|wp_ret<|BC rfl O.defers (Ad O rfl) ⟨_,rfl,J.below,?_⟩;exact OwnSl.pos J (k:=1) rfl (hslj) hn0
theorem Kp (p n m b0 c0:Nat)(cs0:Array Value)(γ:Nat->Nat)(M:Nat->Nat->Nat)(w:World)(hp:primeN p)(hn0:0<n)(hn:n<=6)(hm2:m<1000)(hmc:m<=c0)(hM1:∀ i c,M i c<p)(hM0:∀ i,i<m->∀ c,n<=c->c<6->M i c=0)(hb0:Blk w b0 cs0)(hsz0:m<=cs0.size)(hg0:∀ i,i<m->cs0[0+i*1]? = some (.slice (some ⟨γ i,0,none⟩) 6 6))(hbr:∀ i,i<m->Blk w (γ i) (A1 6 (fun c=>.int .u8 (M i c:Int))))(hinj:∀ i j,i<m->j<m->γ i=γ j->i=j)(hne0:∀ i,i<m->γ i≠b0)(hJ:∀ k E ld,Rref p n E k ld->(∀ x,Ker p n E k x↔Ker p n M m x)->0<nf k ld n)(hH:∀ r V,IsKer p n M m r V->0<r) :
    CallsX Try.prog (BW b0 m γ) 116 #[.slice (some ⟨b0,0,none⟩) m c0,.int .i64 (n:Int),.int .i64 (p:Int)] w (fun u w'=>∃ r V,IsKer p n M m r V/\(∀ i,i<r->∀ c,n<=c->c<6->V i c=0)/\r<=n/\OwnSl 6 w r (fun c=>.int .u8 (V (c / 6) (c%6):Int)) u w'):=by
  refine B3 [.slice (some ⟨b0,0,none⟩) m c0,.int .i64 (n:Int),.int .i64 (p:Int)] Try.func116 rfl Try.ntmps116 rfl fun a O=>?_;have hp2:=hp.two;have hp13:=hp.le;have J:MemX (BW b0 m γ) w w [none,none,none,none] (Ck b0 cs0 6 m γ M):=MemX.startXD _ w 4 _ (EN hb0 hbr);change Fr 68 a [(0,.slice (some ⟨b0,0,none⟩) m c0),(1,.int .i64 (n:Int)),(2,.int .i64 (p:Int))] at O;refine sr<|ag O rfl rfl fun a O=>ns<|mv O rfl rfl fun a O=>mv O rfl rfl fun a O=>Ar O (BA Try.call156 O (.cons rfl (.cons rfl .nil)) (Do p 6 m b0 c0 cs0 γ M _ hp (by omega) (by omega) (by omega) hmc hM1 (J.fzm EO) hsz0 hg0 (fun i hi=>J.fzm (Da hi)) hinj hne0)) rfl ?_;rintro _ w' a ⟨hx,k,E,γ',ld,cs',rfl,hkm,hE,hKer,hE1,hb0',hg0',hbr',hgX'⟩ O;have J:=J.swapD (D':=(Ck b0 cs' 6 m γ' E)) hx Ka (fun y hy=>.inr hy) (EN ⟨hb0',.inr (List.mem_cons_self ..)⟩ (fun i hi=>⟨hbr' i hi,hgX' i hi⟩));refine ag O rfl rfl fun a O=>nt<|sq ?_;obtain ⟨hEn,hKn,hEz⟩:=KZ hp hn hM1 hM0 hE hKer;have hRm:∀ x∈(Ck b0 cs' 6 m γ' E),x∈(Ck b0 cs' 6 m γ' E):=fun _ h=>h;have hnf:=hJ k E ld hEn hKn;have hnfn:=JQ (k:=k) (ld:=ld) n;refine wp_region_lit<|Ar O (Ah 0 J Me) rfl ?_;rintro _ w' a ⟨b1,rfl,J,-⟩ O;refine nt<|sq<|sr<|mv O rfl rfl fun a O=>st O (B2 Cm O rfl) rfl fun a O=>mv O rfl rfl fun a O=>nt<|wp_block ?_;change MemX (BW b0 m γ) w _ [some (b1,A1 6 (fun _=>.bool (false))),none,none,none] (Ck b0 cs' 6 m γ' E) at J;refine Av (fun (kk:Nat) a w'=>kk<=k/\(True)/\Fr 68 a [(1,.int .i64 (n:Int)),(2,.int .i64 (p:Int)),(6,.slice none 0 0),(7,.slice (some ⟨b0,0,none⟩) k c0),(8,ptr b1 (0)),(19,.slice (some ⟨b0,0,none⟩) k c0),(20,.int .i64 (k:Int)),(21,.int .i64 (kk:Int))]/\MemX (BW b0 m γ) w w' [some (b1,HV kk ld),none,none,none] (Ck b0 cs' 6 m γ' E)) (fun kk=>k - kk) 0 ?_ ?_
  . refine ⟨by omega,trivial,O.sub _ (by repeat' constructor),?_⟩
    exact J.rowc 0 rfl Nw
  clear O J;rintro gi a w' ⟨hgi,hinv1,O,J⟩;have hlg:gi<k->ld gi<n:=fun h=>hEn.lt gi h;refine sr<|st O (A0 O rfl rfl) rfl fun a O=>nt<|sq<|Ab O rfl (fun h2=>?_) (fun h2=>?_)
  . refine wp_skip ?_
    refine tN<|sq<|wp_block<|sr<|st O (Ak (i:=gi) CB O rfl rfl rfl (by omega)) rfl fun a O=>st O (AP Bj O rfl (J.fzm (hRm _ EO)) (hg0' (gi) (by omega))) rfl fun a O=>ag O rfl rfl fun a O=>nt<|wp_region_lit<|mv O rfl rfl fun a O=>Ar O (Ae Try.call157 O (.cons rfl .nil) ((Dj (γ' (gi)) (6) (J.fzm (hRm _ (Da (show gi<m by omega)))) (fun i hi=>CP i (by omega) hi rfl) (by omega) hE (i:=gi) (by omega)))) rfl ?_;rintro _ w' a ⟨hx,rfl⟩ O;have J:=J.ext hx;refine st O (AF JF O rfl rfl rfl (by omega)) rfl fun a O=>BQ O (Az 0 J rfl MA O rfl rfl rfl (by first | omega | (simp only [Aa,AO,AU,AN,AT,AM,AR,AK,AC,AV,AL,AW,AS,Ac,AY]<;>omega) | (simp only [Array.size_setIfInBounds];omega) | simp)) ?_;intro _ w' a J O;change MemX _ _ _ [some (b1,(HV gi ld).setIfInBounds (0+(ld (gi))*1) (.bool (true))),_,_,_] _ at J;refine wpList_nil<|iN<|tN<|wp_region_lit<|st O (Ap O rfl rfl (Af (gi) (1) (by omega))) rfl fun a O=>mv O rfl rfl fun a O=>nt<|⟨gi+1,⟨by omega,trivial,O.sub _ (by repeat' constructor),?_⟩,by omega⟩;exact J.rowc 0 rfl (O4 (by omega))
  obtain rfl:k=gi:=by omega
  refine wp_exit<|tX<|tX<|Am<|tN<|sr<|ag O rfl rfl fun a O=>nt<|sq<|sr<|mv O rfl rfl fun a O=>mv O rfl rfl fun a O=>nt<|wp_block ?_;change MemX _ _ _ [_,_,_,_] _ at J;refine Av (fun (kk:Nat) a w'=>kk<=n/\∃ (D2:A7),∃ (β2:Nat->Nat),∃ (S:Nat->Nat->Nat),(RowsB D2 6 (nf k ld kk) β2 S/\Ir p kk E k ld S/\(∀ i c,S i c<p)/\(∀ x∈(Ck b0 cs' 6 m γ' E),x∈D2)/\∀ i,i<nf k ld kk->w.heap.size<=β2 i\/β2 i∈(BW b0 m γ))/\∃ (u11_2:Value) (e11_2:Option (Nat×Array Value)),Sl 1 u11_2 e11_2 (nf k ld kk) (fun i=>.slice (some ⟨β2 i,0,none⟩) 6 6)/\Fr 68 a [(1,.int .i64 (n:Int)),(2,.int .i64 (p:Int)),(6,.slice none 0 0),(7,.slice (some ⟨b0,0,none⟩) k c0),(8,ptr b1 (0)),(19,.slice (some ⟨b0,0,none⟩) k c0),(20,.int .i64 (k:Int)),(21,.int .i64 (k:Int)),(22,.bool (decide (((k:Int):Int)<(k:Int)))),(29,.int .i64 (n:Int)),(30,.int .i64 (kk:Int)),(11,u11_2)]/\MemX (BW b0 m γ) w w' [some (b1,HV k ld),none,none,e11_2] D2) (fun kk=>n - kk) 0 ?_ ?_
  . refine ⟨by omega,(Ck b0 cs' 6 m γ' E),(fun _=>0),(fun _ _=>0),⟨RowsB.none,JO,fun _ _=>(by show 0<p;omega),fun _ h=>h,fun i hi=>absurd hi (by rw [nf];omega)⟩,(.slice none 0 0),(none),Sl.nil 1 _,O.sub _ (by repeat' constructor),?_⟩
    exact J
  clear O J;rintro gc a w' ⟨hgc,D2,β2,S,⟨hB2,hS,hSp,hRm2,hZ⟩,u11_2,e11_2,hsl,O,J⟩;have hRm:=hRm2;have hncf:=JQ (k:=k) (ld:=ld) gc;refine sr<|st O (A0 O rfl rfl) rfl fun a O=>nt<|sq<|Ab O rfl (fun h3=>?_) (fun h3=>?_)
  . refine wp_skip ?_
    refine tN<|sq<|wp_block<|sr<|mv O rfl rfl fun a O=>ag O rfl rfl fun a O=>nt<|sq<|sr<|mv O rfl rfl fun a O=>st O (AF JF O rfl rfl rfl (by omega)) rfl fun a O=>st O (AP MA O rfl (J.row 0 rfl) (O5 (c:=gc) (by omega) (by omega))) rfl fun a O=>nt<|Ab O rfl (fun h4=>?_) (fun h4=>?_)
    . have hl:CI k ld gc:=h4
      refine wp_exit<|tX<|Am<|tN<|wp_region_lit<|st O (Ap O rfl rfl (Af (gc) (1) (by omega))) rfl fun a O=>mv O rfl rfl fun a O=>nt<|⟨gc+1,⟨by omega,D2,β2,S,(by first | exact ⟨by rw [DM hl];exact hB2,F8 hS hl,hSp,hRm2,by rw [DM hl];exact hZ⟩ | exact ⟨by rw [DN hl];exact hB3,F9 hS,Fz hSp (fun _=>IK hp2),fun x hx=>List.mem_cons_of_mem _ (hRm2 x hx),fun i hi=>by rw [DN hl] at hi;unfold up;split;exact hgN;exact hZ i (by omega)⟩),(u11_2),(e11_2),(by first | (rw [DN hl];exact hsl) | (rw [DM hl];exact hsl)),O.sub _ (by repeat' constructor),?_⟩,by omega⟩;exact J
    have hl:¬ CI k ld gc:=h4;refine wp_skip<|tN<|sr<|Ar O (G7 (len:=6) 1 J O rfl rfl E6) rfl ?_;rintro _ w' a ⟨b5,rfl,J,-⟩ O;change MemX _ _ _ [_,some (b5,A1 6 (fun _=>.int .u8 (0))),_,_] _ at J;refine ag O rfl rfl fun a O=>ns<|mv O rfl rfl fun a O=>mv O rfl rfl fun a O=>st O (Ak (i:=gc) Bt O rfl rfl rfl (by omega)) rfl fun a O=>BQ O (Az 1 J rfl Ai O rfl rfl rfl (by first | omega | (simp only [Aa,AO,AU,AN,AT,AM,AR,AK,AC,AV,AL,AW,AS,Ac,AY]<;>omega) | (simp only [Array.size_setIfInBounds];omega) | simp)) ?_;intro _ w' a J O;refine nt<|sq<|sr<|mv O rfl rfl fun a O=>st O (B2 Cm O rfl) rfl fun a O=>mv O rfl rfl fun a O=>nt<|wp_block ?_;change MemX _ _ _ [_,some (b5,(A1 6 (fun _=>.int .u8 (0))).setIfInBounds (0+(gc)*1) (.int .u8 (1))),_,_] _ at J;refine Av (fun (kk:Nat) a w'=>kk<=k/\(True)/\Fr 68 a [(1,.int .i64 (n:Int)),(2,.int .i64 (p:Int)),(6,.slice none 0 0),(7,.slice (some ⟨b0,0,none⟩) k c0),(8,ptr b1 (0)),(19,.slice (some ⟨b0,0,none⟩) k c0),(20,.int .i64 (k:Int)),(21,.int .i64 (k:Int)),(22,.bool (decide (((k:Int):Int)<(k:Int)))),(29,.int .i64 (n:Int)),(30,.int .i64 (gc:Int)),(11,u11_2),(31,.bool (decide (((gc:Int):Int)<(n:Int)))),(32,.int .i64 (gc:Int)),(12,.int .i64 (gc:Int)),(33,.int .i64 (gc:Int)),(34,ptr b1 (0+(gc)*1)),(35,.bool (decide (CI k ld (gc)))),(36,.slice (some ⟨b5,0,none⟩) 6 6),(13,.slice (some ⟨b5,0,none⟩) 6 6),(37,.slice (some ⟨b5,0,none⟩) 6 6),(38,.int .i64 (gc:Int)),(39,ptr b5 (0+(gc)*1)),(40,.slice (some ⟨b0,0,none⟩) k c0),(41,.int .i64 (k:Int)),(42,.int .i64 (kk:Int))]/\MemX (BW b0 m γ) w w' [some (b1,HV k ld),some (b5,EW 6 (sol p E kk ld gc)),none,e11_2] D2) (fun kk=>k - kk) 0 ?_ ?_
    . refine ⟨by omega,trivial,O.sub _ (by repeat' constructor),?_⟩
      exact J.rowc 1 rfl (IB (m:=6) (k:=gc) (f:=fun _=>0) (g:=sol p E 0 ld gc) (by omega) (by rw [KY,if_pos rfl];rfl) (fun c hc he=>by rw [KY,if_neg he]))
    clear O J;rintro gq a w' ⟨hgq,hinv3,O,J⟩;have hlg2:gq<k->ld gq<n:=fun h=>hEn.lt gq h;have hEb:=hE1 gq gc;refine sr<|st O (A0 O rfl rfl) rfl fun a O=>nt<|sq<|Ab O rfl (fun h6=>?_) (fun h6=>?_)
    . refine wp_skip ?_
      refine tN<|sq<|wp_block<|sr<|st O (Ak (i:=gq) CB O rfl rfl rfl (by omega)) rfl fun a O=>st O (AP Bj O rfl (J.fzm (hRm _ EO)) (hg0' (gq) (by omega))) rfl fun a O=>ag O rfl rfl fun a O=>wpList_nil<|tN ?_;refine GK (S:=fun (b:Bool) w2=>MemX (BW b0 m γ) w w2 [some (b1,HV k ld),some (b5,if b then (EW 6 (sol p E gq ld gc)).setIfInBounds (0+(ld gq)*1) (.int .u8 ((((p - E (gq) (gc))%p:Nat):Int))) else EW 6 (sol p E gq ld gc)),none,e11_2] D2) 13 12 Bf rfl rfl rfl O rfl (fun j o hj hJ=>Ci (s:=12) (i:=0) rfl j o hj (by omega)) J (fun b w h=>h.ext (Below.drew (Below.refl _ _))) (QJ [.slice (some ⟨b5,0,none⟩) 6 6,.slice (some ⟨γ' (gq),0,none⟩) 6 6,.int .i64 ((ld (gq):Int)),.slice (some ⟨γ' (gq),0,none⟩) 6 6,.int .i64 (gc:Int),ptr (γ' (gq)) (0+(gc)*1),.int .u8 ((E (gq) (gc):Int)),.int .i64 ((E (gq) (gc):Int)),.int .i64 (-((E (gq) (gc):Int))),.int .i64 (p:Int),.int .u8 ((((p - E (gq) (gc))%p:Nat):Int)),ptr b5 (0+(ld (gq))*1),undef]) ⟨fun a w2 b O hS hb hd=>by exact A6 (S:=fun (b:Bool) w2=>MemX (BW b0 m γ) w w2 [some (b1,HV k ld),some (b5,if b then (EW 6 (sol p E gq ld gc)).setIfInBounds (0+(ld gq)*1) (.int .u8 ((((p - E (gq) (gc))%p:Nat):Int))) else EW 6 (sol p E gq ld gc)),none,e11_2] D2) hS (Ay O rfl),fun a w2 b O hS hb hd=>by exact A6 (S:=fun (b:Bool) w2=>MemX (BW b0 m γ) w w2 [some (b1,HV k ld),some (b5,if b then (EW 6 (sol p E gq ld gc)).setIfInBounds (0+(ld gq)*1) (.int .u8 ((((p - E (gq) (gc))%p:Nat):Int))) else EW 6 (sol p E gq ld gc)),none,e11_2] D2) hS (Ay O rfl),fun a w2 b O hS hb hd=>by have O:=O.ext1 47 (hd 1 rfl rfl rfl);have J:=hS;exact HU (S:=fun (b:Bool) w2=>MemX (BW b0 m γ) w w2 [some (b1,HV k ld),some (b5,if b then (EW 6 (sol p E gq ld gc)).setIfInBounds (0+(ld gq)*1) (.int .u8 ((((p - E (gq) (gc))%p:Nat):Int))) else EW 6 (sol p E gq ld gc)),none,e11_2] D2) (fun _ hx=>hS.ext hx) (Ae Try.call157 O (.cons rfl .nil) ((Dj (γ' (gq)) (6) (J.fzm (hRm _ (Da (show gq<m by omega)))) (fun i hi=>CP i (by omega) hi rfl) (by omega) hE (i:=gq) (by omega)))),fun a w2 b O hS hb hd=>by exact A6 (S:=fun (b:Bool) w2=>MemX (BW b0 m γ) w w2 [some (b1,HV k ld),some (b5,if b then (EW 6 (sol p E gq ld gc)).setIfInBounds (0+(ld gq)*1) (.int .u8 ((((p - E (gq) (gc))%p:Nat):Int))) else EW 6 (sol p E gq ld gc)),none,e11_2] D2) hS (Ay O rfl),fun a w2 b O hS hb hd=>by exact A6 (S:=fun (b:Bool) w2=>MemX (BW b0 m γ) w w2 [some (b1,HV k ld),some (b5,if b then (EW 6 (sol p E gq ld gc)).setIfInBounds (0+(ld gq)*1) (.int .u8 ((((p - E (gq) (gc))%p:Nat):Int))) else EW 6 (sol p E gq ld gc)),none,e11_2] D2) hS (Ay O rfl),fun a w2 b O hS hb hd=>by have O:=O.ext1 49 (hd 3 rfl rfl rfl);have O:=O.ext1 50 (hd 4 rfl rfl rfl);exact A6 (S:=fun (b:Bool) w2=>MemX (BW b0 m γ) w w2 [some (b1,HV k ld),some (b5,if b then (EW 6 (sol p E gq ld gc)).setIfInBounds (0+(ld gq)*1) (.int .u8 ((((p - E (gq) (gc))%p:Nat):Int))) else EW 6 (sol p E gq ld gc)),none,e11_2] D2) hS (Ak (i:=gc) Bt O rfl rfl rfl (by omega)),fun a w2 b O hS hb hd=>by have O:=O.ext1 51 (hd 5 rfl rfl rfl);obtain rfl:=hb rfl;have J:MemX (BW b0 m γ) w w2 [some (b1,HV k ld),some (b5,EW 6 (sol p E gq ld gc)),none,e11_2] D2:=hS;exact A6 (S:=fun (b:Bool) w2=>MemX (BW b0 m γ) w w2 [some (b1,HV k ld),some (b5,if b then (EW 6 (sol p E gq ld gc)).setIfInBounds (0+(ld gq)*1) (.int .u8 ((((p - E (gq) (gc))%p:Nat):Int))) else EW 6 (sol p E gq ld gc)),none,e11_2] D2) (b:=false) hS (AP Ai O rfl (J.fzm (hRm _ (Da (show gq<m by omega)))) (CP (gc) (by omega) (by omega) rfl)),fun a w2 b O hS hb hd=>by have O:=O.ext1 52 (hd 6 rfl rfl rfl);exact A6 (S:=fun (b:Bool) w2=>MemX (BW b0 m γ) w w2 [some (b1,HV k ld),some (b5,if b then (EW 6 (sol p E gq ld gc)).setIfInBounds (0+(ld gq)*1) (.int .u8 ((((p - E (gq) (gc))%p:Nat):Int))) else EW 6 (sol p E gq ld gc)),none,e11_2] D2) hS (A9 BJ BN O rfl (wrap_i64 (by omega) (by omega))),fun a w2 b O hS hb hd=>by have O:=O.ext1 53 (hd 7 rfl rfl rfl);exact A6 (S:=fun (b:Bool) w2=>MemX (BW b0 m γ) w w2 [some (b1,HV k ld),some (b5,if b then (EW 6 (sol p E gq ld gc)).setIfInBounds (0+(ld gq)*1) (.int .u8 ((((p - E (gq) (gc))%p:Nat):Int))) else EW 6 (sol p E gq ld gc)),none,e11_2] D2) hS (OE O rfl (wrap_i64 (by omega) (by omega))),fun a w2 b O hS hb hd=>by exact A6 (S:=fun (b:Bool) w2=>MemX (BW b0 m γ) w w2 [some (b1,HV k ld),some (b5,if b then (EW 6 (sol p E gq ld gc)).setIfInBounds (0+(ld gq)*1) (.int .u8 ((((p - E (gq) (gc))%p:Nat):Int))) else EW 6 (sol p E gq ld gc)),none,e11_2] D2) hS (Ay O rfl),fun a w2 b O hS hb hd=>by have O:=O.ext1 54 (hd 8 rfl rfl rfl);have O:=O.ext1 55 (hd 9 rfl rfl rfl);exact HU (S:=fun (b:Bool) w2=>MemX (BW b0 m γ) w w2 [some (b1,HV k ld),some (b5,if b then (EW 6 (sol p E gq ld gc)).setIfInBounds (0+(ld gq)*1) (.int .u8 ((((p - E (gq) (gc))%p:Nat):Int))) else EW 6 (sol p E gq ld gc)),none,e11_2] D2) (fun _ hx=>hS.ext hx) (Ae Try.call115 O (.cons rfl (.cons rfl .nil)) ((CallsR.val (EP (-((E (gq) (gc):Int))) (p) _ (by omega) (by omega) (by omega) (by omega)) (congrArg (Value.int .u8) (MH (by omega) (by omega)))))),fun a w2 b O hS hb hd=>by have O:=O.ext1 46 (hd 0 rfl rfl rfl);have O:=O.ext1 48 (hd 2 rfl rfl rfl);exact A6 (S:=fun (b:Bool) w2=>MemX (BW b0 m γ) w w2 [some (b1,HV k ld),some (b5,if b then (EW 6 (sol p E gq ld gc)).setIfInBounds (0+(ld gq)*1) (.int .u8 ((((p - E (gq) (gc))%p:Nat):Int))) else EW 6 (sol p E gq ld gc)),none,e11_2] D2) hS (Ak (i:=ld (gq)) Bt O rfl rfl rfl (by omega)),fun a w2 O hS hd=>by have O:=O.ext1 56 (hd 10 rfl rfl rfl);have O:=O.ext1 57 (hd 11 rfl rfl rfl);have J:MemX (BW b0 m γ) w w2 [some (b1,HV k ld),some (b5,EW 6 (sol p E gq ld gc)),none,e11_2] D2:=hS;exact Az 1 J rfl Ai O rfl rfl rfl (by simp only [Aa,AO,AU,AN,AT,AM,AR,AK,AC,AV,AL,AW,AS,Ac,AY]<;>omega),trivial⟩ ?_
      intro a w' O hS hq;have J:MemX (BW b0 m γ) w w' [some (b1,HV k ld),some (b5,(EW 6 (sol p E gq ld gc)).setIfInBounds (0+(ld gq)*1) (.int .u8 ((((p - E (gq) (gc))%p:Nat):Int)))),none,e11_2] D2:=hS;refine wpList_nil<|iN<|tN<|wp_region_lit<|st O (Ap O rfl rfl (Af (gq) (1) (by omega))) rfl fun a O=>mv O rfl rfl fun a O=>nt<|⟨gq+1,⟨by omega,trivial,O.sub _ (by repeat' constructor),?_⟩,by omega⟩;exact J.rowc 1 rfl (IB (m:=6) (k:=ld gq) (f:=(sol p E gq ld gc)) (g:=sol p E (gq+1) ld gc) (by omega) (congrArg Nat.cast (Px hE (by omega) hl).symm) (fun c hc he=>Nf hE (by omega) hl c he))
    obtain rfl:k=gq:=by omega
    refine wp_exit<|tX<|tX<|Am<|tN ?_;have hgN:=(J.blk 1 _ _ rfl).1;have hnb:=fun i hi=>(J.froz _ _ (hB2.mem i hi)).2 1 b5 _ rfl;have J:=J.freeze 1 rfl;have hB3:=(hB2.more (D':=(b5,EW 6 (sol p E k ld gc))::D2) (fun x hx=>List.mem_cons_of_mem _ hx)).snoc (r:=sol p E k ld gc) rfl (List.mem_cons_self ..) hnb;refine wp_region_lit<|mv O rfl rfl fun a O=>mv O rfl rfl fun a O=>Ar O (BH 2 J O (CD O rfl) (JD _ _ _)) rfl ?_;rintro _ w' a ⟨b7,rfl,J,-⟩ O;change MemX (BW b0 m γ) w w' [some (b1,HV k ld),none,some (b7,#[.slice (some ⟨b5,0,none⟩) 6 6]),e11_2] ((b5,EW 6 (sol p E k ld gc))::D2) at J;refine Ar O (Bg (k:=3) (m:=1) (g:=fun _=>.slice (some ⟨b5,0,none⟩) 6 6) Fc rfl (by decide) J rfl O rfl rfl hsl (fun i hi=>by rw [show i=0 by omega];exact (J.row 2 rfl).cell 0) (fun _ _=>rfl) (by decide) (by unfold maxLen;omega) (by omega)) rfl ?_;rintro u8 w' a ⟨e9,J,hs10⟩ O;change MemX (BW b0 m γ) w w' [some (b1,HV k ld),none,some (b7,#[.slice (some ⟨b5,0,none⟩) 6 6]),e9] ((b5,EW 6 (sol p E k ld gc))::D2) at J;refine ag O rfl rfl fun a O=>wpList_nil<|iN<|tN<|wp_region_lit<|st O (Ap O rfl rfl (Af (gc) (1) (by omega))) rfl fun a O=>mv O rfl rfl fun a O=>wpList_nil<|tN ?_;have hsl:=(hs10).congr (g:=fun i=>.slice (some ⟨up β2 (nf k ld gc) b5 i,0,none⟩) 6 6) (fun i hi=>by
      by_cases e:i<nf k ld gc
      . rw [if_pos (by omega)];simp only [Bi (show i≠nf k ld gc by omega)]
      . rw [if_neg (by omega),show i=nf k ld gc by omega];simp only [CF])
    have J:=J.drop 2;refine ⟨gc+1,⟨by omega,((b5,EW 6 (sol p E k ld gc))::D2),(up β2 (nf k ld gc) b5),(upE S (nf k ld gc) (sol p E k ld gc)),(by first | exact ⟨by rw [DM hl];exact hB2,F8 hS hl,hSp,hRm2,by rw [DM hl];exact hZ⟩ | exact ⟨by rw [DN hl];exact hB3,F9 hS,Fz hSp (fun _=>IK hp2),fun x hx=>List.mem_cons_of_mem _ (hRm2 x hx),fun i hi=>by rw [DN hl] at hi;unfold up;split;exact hgN;exact hZ i (by omega)⟩),(u8),(e9),(by first | (rw [DN hl];exact hsl) | (rw [DM hl];exact hsl)),O.sub _ (by repeat' constructor),?_⟩,by omega⟩;exact J
  obtain rfl:n=gc:=by omega
  obtain ⟨bk,ck,csk,rfl,rfl,hsk⟩:=hsl.pos hnf;have hgek:=(J.blk 3 _ _ rfl).1;have hnbk:∀ i,i<nf k ld n->β2 i≠bk:=fun i hi e=>(J.froz _ _ (hB2.mem i hi)).2 3 bk _ rfl e.symm;have J:=J.freeze 3 rfl;have hSo:=hS;have hS0:=Ni hEn hS
  generalize hN2:nf k ld n=N2 at *
  have J:=J.drop 0;change MemX (BW b0 m γ) w _ [none,none,none,none] ((bk,csk)::D2) at J;refine wp_exit<|tX<|tX<|Am<|tN<|sr<|mv O rfl rfl fun a O=>mv O rfl rfl fun a O=>Ar O (BA Try.call156 O (.cons rfl (.cons rfl .nil)) (Do p 6 N2 bk ck csk β2 S _ hp (by omega) (by omega) (by omega) hsk.le hSp (J.fzm (List.mem_cons_self ..)) (by have:=hsk.sz;have:=hsk.le;omega) (fun i hi=>hsk.get1 i hi) (fun i hi=>J.fzm (List.mem_cons_of_mem _ (hB2.mem i hi))) hB2.inj hnbk)) rfl ?_;rintro _ w' a ⟨hx,k,E,γ',ld,cs',rfl,hkm,hE,hKer,hE1,hb0',hg0',hbr',hgX'⟩ O;have J:=J.swapD (D':=(Ck bk cs' 6 N2 γ' E)) hx (GA (Q:=fun y=>∃ cs,(y,cs)∈(bk,csk)::D2) ⟨_,List.mem_cons_self ..⟩ (fun i hi=>⟨_,List.mem_cons_of_mem _ (hB2.mem i hi)⟩)) (fun y hy=>GA (Q:=fun y=>w.heap.size<=y\/y∈(BW b0 m γ)) hgek hZ y hy) (EN ⟨hb0',.inr (List.mem_cons_self ..)⟩ (fun i hi=>⟨hbr' i hi,hgX' i hi⟩));change MemX (BW b0 m γ) w w' [none,none,none,none] (Ck bk cs' 6 N2 γ' E) at J;obtain ⟨hE2n,hK2n,hEz2⟩:=KZ hp hn hSp hS0 hE hKer;have hIK:=IZ hEn hKn hSo hE2n (by rw [hN2];exact hK2n);have hr0:=hH _ _ hIK;have hszc:=J.bel.size;refine Ar O (Ae Try.call129 O (.cons rfl .nil) (Iv k bk ck cs' (Ck bk cs' 6 N2 γ' E) γ' E _ hr0 (by omega) (fun _ _ hm=>J.fzm hm) EO (fun i hi=>hg0' i (by omega)) (fun i hi=>Da (by omega)))) rfl ?_;rintro u w' a ⟨hx,hO⟩ O;have hown2:=IQ hszc hO;have J:=J.ext hx;refine ag O rfl rfl fun a O=>nt<|wp_ret<|BC rfl O.defers (Ad O rfl) ⟨_,rfl,J.bel,?_⟩;exact ⟨_,_,hIK,hEz2,by omega,hown2⟩
theorem Kq {p n m:Nat}{M M':Nat->Nat->Nat}{x:Nat->Int}(e:∀ i,i<m->∀ c,c<n->M i c=M' i c):Ker p n M m x↔Ker p n M' m x:=
  ⟨fun q i hi=>by rw [← Ex (e i hi)];exact q i hi,fun q i hi=>by rw [Ex (e i hi)];exact q i hi⟩
theorem IY {p n m r:Nat}{M M' V:Nat->Nat->Nat}(e:∀ i,i<m->∀ c,c<n->M i c=M' i c)(h:IsKer p n M m r V):IsKer p n M' m r V:=by
  obtain ⟨k,E,ld,ld2,h1,h2,h3⟩:=h;exact ⟨k,E,ld,ld2,h1,fun x=>(h2 x).trans (Kq e),h3⟩
theorem LI (p n:Int)(T:Nat->Nat->Nat->Nat)(f:Nat->Nat)(w:World)(hT:∀ i j k,T i j k<=255)(hf:∀ i,f i<=255)(hc:¬ Cx p n T f 0 (Cj [])) :
    CallsR Try.prog 36 #[.agg (AD p n T f)] w (fun res _=>res = .tuple #[.slice none 0 0,.int .i64 1]):=by
  refine Al [.agg (AD p n T f)] Try.func36 rfl Try.ntmps36 rfl fun a O=>?_;have J:Ag w w [none,none,none] []:=MemX.start w 3;change Fr 68 a [(0,.agg (AD p n T f))] at O;refine sr<|Ar O (BI 0 J O rfl) rfl ?_;rintro _ w' a ⟨b1,rfl,J,-⟩ O;change Ag _ _ [some (b1,AD p n T f),_,_] [] at J;refine ag O rfl rfl fun a O=>ag O rfl rfl fun a O=>nt<|sq<|sr<|st O (AE AI O rfl (J.row 0 rfl) (by simp only [Aa,AO,AU,AN,AT,AM,AR,AK,AC,AV,AL,AW,AS,Ac,AY]<;>omega) (whole AG)) rfl fun a O=>Ar O (Ae Try.call12 O (.cons rfl .nil) ((CallsR.val (Br p n T f _ (fun _ _ _=>hT _ _ _) (fun _=>hf _)) (congrArg Value.bool (decide_eq_false (fun h=>hc ⟨h,fun i hi=>absurd hi (by omega)⟩)))))) rfl ?_;rintro _ w' a ⟨hx,rfl⟩ O;have J:=J.ext hx;refine st O (Cw (b:=false) O rfl) rfl fun a O=>nt<|It O rfl<|sr<|ag O rfl rfl fun a O=>ag O rfl rfl fun a O=>nt<|wp_ret<|tR<|CN rfl O.defers (Ad O rfl) (Ad O rfl) ⟨_,rfl,J.below,?_⟩
  show _=_
  rfl
theorem LH (p n:Nat)(T:Nat->Nat->Nat->Nat)(f:Nat->Nat)(w:World)(hp:primeN p)(hn0:0<n)(hn:n<=6)(hTp:∀ i j k,T i j k<p)(hT0:∀ i j k,n<=k->T i j k=0)(hf:∀ i,f i<=255)(hc:Cx (p:Int) (n:Int) T f 0 (Cj []))(hJ:∀ k E ld,Rref p n E k ld->(∀ x,Ker p n E k x↔Ker p n (eqC p n T) (n*n) x)->0<nf k ld n)(hH:∀ r V,IsKer p n (eqC p n T) (n*n) r V->0<r) :
    CallsR Try.prog 36 #[.agg (AD (p:Int) (n:Int) T f)] w (fun v w'=>∃ r V u,IsKer p n (eqC p n T) (n*n) r V/\(∀ i,i<r->∀ c,n<=c->c<6->V i c=0)/\OwnSl 6 w r (fun c=>.int .u8 (V (c / 6) (c%6):Int)) u w'/\v = .tuple #[u,.int .i64 0]):=by
  refine Al [.agg (AD (p:Int) (n:Int) T f)] Try.func36 rfl Try.ntmps36 rfl fun a O=>?_;have J:Ag w w [none,none,none,none] []:=MemX.start w 4;change Fr 68 a [(0,.agg (AD (p:Int) (n:Int) T f))] at O;have hp2:=hp.two;have hp13:=hp.le;have hT:∀ i j k,T i j k<=255:=fun i j k=>by have:=hTp i j k;omega
  refine sr<|Ar O (BI 0 J O rfl) rfl ?_;rintro _ w' a ⟨b1,rfl,J,-⟩ O;change Ag _ _ [some (b1,AD (p:Int) (n:Int) T f),_,_,_] [] at J;refine ag O rfl rfl fun a O=>ag O rfl rfl fun a O=>nt<|sq<|sr<|st O (AE AI O rfl (J.row 0 rfl) (by simp only [Aa,AO,AU,AN,AT,AM,AR,AK,AC,AV,AL,AW,AS,Ac,AY]<;>omega) (whole AG)) rfl fun a O=>Ar O (Ae Try.call12 O (.cons rfl .nil) ((CallsR.val (Br (p:Int) (n:Int) T f _ (fun _ _ _=>hT _ _ _) (fun _=>hf _)) (congrArg Value.bool (decide_eq_true hc.1))))) rfl ?_;rintro _ w' a ⟨hx,rfl⟩ O;have J:=J.ext hx;refine st O (Cw (b:=true) O rfl) rfl fun a O=>nt<|EE O rfl<|wp_skip<|tN<|sr<|ag O rfl rfl fun a O=>nt<|sq<|sr<|st O (AB AZ O rfl) rfl fun a O=>st O (AP AX O rfl (J.row 0 rfl) (Ao (by omega))) rfl fun a O=>mv O rfl rfl fun a O=>nt<|wp_block ?_;change Ag w _ [some (b1,AD (p:Int) (n:Int) T f),none,none,none] [] at J;refine Av (fun (kk:Nat) a w'=>kk<=n/\∃ (D1:A7),∃ (β:Nat->Nat),(RowsB D1 6 (kk*n) β (C5 n (eqC p n T))/\∀ i,i<kk*n->w.heap.size<=β i)/\∃ (u4_1:Value) (e4_1:Option (Nat×Array Value)),Sl 1 u4_1 e4_1 (kk*n) (fun i=>.slice (some ⟨β i,0,none⟩) 6 6)/\Fr 68 a [(1,ptr b1 (0)),(2,.slice none 0 0),(3,.int .i64 (0)),(12,.bool (false)),(14,.int .i64 (n:Int)),(15,.int .i64 (kk:Int)),(4,u4_1)]/\Ag w w' [some (b1,AD (p:Int) (n:Int) T f),none,none,e4_1] D1) (fun kk=>n - kk) 0 ?_ ?_
  . refine ⟨by omega,[],(fun _=>0),⟨by rw [Nat.zero_mul];exact RowsB.none,fun i hi=>absurd hi (by omega)⟩,(.slice none 0 0),(none),(by rw [Nat.zero_mul];exact Sl.nil 1 _),O.sub _ (by repeat' constructor),?_⟩
    exact J
  clear O J;rintro gi a w' ⟨hgi,D1,β,⟨hB,hge1⟩,u4_1,e4_1,hsl,O,J⟩;have hgin:=Nat.le_trans (Nat.mul_le_mul_right n hgi) (Nat.mul_le_mul hn hn);refine sr<|st O (A0 O rfl rfl) rfl fun a O=>nt<|sq<|Ab O rfl (fun h3=>?_) (fun h3=>?_)
  . refine wp_skip ?_
    refine tN<|sq<|wp_block<|sr<|mv O rfl rfl fun a O=>ag O rfl rfl fun a O=>ns<|st O (AB AZ O rfl) rfl fun a O=>st O (AP AX O rfl (J.row 0 rfl) (Ao (by omega))) rfl fun a O=>mv O rfl rfl fun a O=>nt<|wp_block ?_;change Ag w _ [some (b1,AD (p:Int) (n:Int) T f),none,none,e4_1] D1 at J;refine Av (fun (kk:Nat) a w'=>kk<=n/\∃ (D2:A7),∃ (β2:Nat->Nat),(RowsB D2 6 (gi*n+kk) β2 (C5 n (eqC p n T))/\∀ i,i<gi*n+kk->w.heap.size<=β2 i)/\∃ (u4_2:Value) (e4_2:Option (Nat×Array Value)),Sl 1 u4_2 e4_2 (gi*n+kk) (fun i=>.slice (some ⟨β2 i,0,none⟩) 6 6)/\Fr 68 a [(1,ptr b1 (0)),(2,.slice none 0 0),(3,.int .i64 (0)),(12,.bool (false)),(14,.int .i64 (n:Int)),(15,.int .i64 (gi:Int)),(16,.bool (decide (((gi:Int):Int)<(n:Int)))),(17,.int .i64 (gi:Int)),(5,.int .i64 (gi:Int)),(18,ptr b1 (0+1)),(19,.int .i64 (n:Int)),(20,.int .i64 (kk:Int)),(4,u4_2)]/\Ag w w' [some (b1,AD (p:Int) (n:Int) T f),none,none,e4_2] D2) (fun kk=>n - kk) 0 ?_ ?_
    . refine ⟨by omega,D1,β,⟨hB,hge1⟩,(u4_1),(e4_1),hsl,O.sub _ (by repeat' constructor),?_⟩
      exact J
    clear O J;rintro gk a w' ⟨hgk,D2,β2,⟨hB2,hZ⟩,u4_2,e4_2,hsl,O,J⟩;refine sr<|st O (A0 O rfl rfl) rfl fun a O=>nt<|sq<|Ab O rfl (fun h4=>?_) (fun h4=>?_)
    . refine wp_skip ?_
      refine tN<|sq<|wp_block<|sr<|mv O rfl rfl fun a O=>ag O rfl rfl fun a O=>ns<|Ar O (G7 (len:=6) 1 J O rfl rfl E6) rfl ?_;rintro _ w' a ⟨b5,rfl,J,-⟩ O;change Ag _ _ [_,some (b5,A1 6 (fun _=>.int .u8 (0))),_,_] _ at J;refine ag O rfl rfl fun a O=>nt<|sq<|sr<|st O (AB AZ O rfl) rfl fun a O=>st O (AP AX O rfl (J.row 0 rfl) (Ao (by omega))) rfl fun a O=>mv O rfl rfl fun a O=>nt<|wp_block ?_;change Ag _ _ [_,_,_,_] _ at J;refine Av (fun (kk:Nat) a w'=>kk<=n/\(True)/\Fr 68 a [(1,ptr b1 (0)),(2,.slice none 0 0),(3,.int .i64 (0)),(12,.bool (false)),(14,.int .i64 (n:Int)),(15,.int .i64 (gi:Int)),(16,.bool (decide (((gi:Int):Int)<(n:Int)))),(17,.int .i64 (gi:Int)),(5,.int .i64 (gi:Int)),(18,ptr b1 (0+1)),(19,.int .i64 (n:Int)),(20,.int .i64 (gk:Int)),(4,u4_2),(21,.bool (decide (((gk:Int):Int)<(n:Int)))),(22,.int .i64 (gk:Int)),(6,.int .i64 (gk:Int)),(23,.slice (some ⟨b5,0,none⟩) 6 6),(7,.slice (some ⟨b5,0,none⟩) 6 6),(24,ptr b1 (0+1)),(25,.int .i64 (n:Int)),(26,.int .i64 (kk:Int))]/\Ag w w' [some (b1,AD (p:Int) (n:Int) T f),some (b5,EW 6 (fun c=>if c<kk then eqC p n T (gi*n+gk) c else 0)),none,e4_2] D2) (fun kk=>n - kk) 0 ?_ ?_
      . refine ⟨by omega,trivial,O.sub _ (by repeat' constructor),?_⟩
        exact J.rowc 1 rfl (GH (m:=6) (f:=fun _=>0) fun c hc=>by simp)
      clear O J;rintro gj a w' ⟨hgj,hinv3,O,J⟩;have htb:=hT gj gi gk;have htb2:=hT gi gj gk;refine sr<|st O (A0 O rfl rfl) rfl fun a O=>nt<|sq<|Ab O rfl (fun h6=>?_) (fun h6=>?_)
      . refine wp_skip ?_
        refine tN<|sq<|wp_block<|sr<|mv O rfl rfl fun a O=>ag O rfl rfl fun a O=>nt<|sq<|BV 18 [] [.val (.int .i64 (gj:Int)),.val (.int .i64 (gi:Int)),.val (.int .i64 (gk:Int)),.val (ptr b1 (0+2)),.val (ptr b1 (0+2+(gj)*36)),.val (ptr b1 (0+2+(gj)*36+(gi)*6)),.val (ptr b1 (0+2+(gj)*36+(gi)*6+(gk)*1)),.val (.int .u8 ((T (gj) (gi) (gk):Int))),.val (.int .i64 ((T (gj) (gi) (gk):Int))),.val (.int .i64 (gi:Int)),.val (.int .i64 (gj:Int)),.val (.int .i64 (gk:Int)),.val (ptr b1 (0+2)),.val (ptr b1 (0+2+(gi)*36)),.val (ptr b1 (0+2+(gi)*36+(gj)*6)),.val (ptr b1 (0+2+(gi)*36+(gj)*6+(gk)*1)),.val (.int .u8 ((T (gi) (gj) (gk):Int))),.val (.int .i64 ((T (gi) (gj) (gk):Int)))] Bf rfl O rfl J ⟨fun a w gG O hS hd=>by exact BP hS rfl O rfl,fun a w gG O hS hd=>by exact BP hS rfl O rfl,fun a w gG O hS hd=>by exact BP hS rfl O rfl,fun a w gG O hS hd=>by exact AA hS rfl (AB Ax O rfl),fun a w gG O hS hd=>by have O:=O.ext1 29 (hd 0 rfl rfl);have O:=O.ext1 32 (hd 3 rfl rfl);exact AA hS rfl (AF BF O rfl rfl rfl (by omega)),fun a w gG O hS hd=>by have O:=O.ext1 30 (hd 1 rfl rfl);have O:=O.ext1 33 (hd 4 rfl rfl);exact AA hS rfl (AF BG O rfl rfl rfl (by omega)),fun a w gG O hS hd=>by have O:=O.ext1 31 (hd 2 rfl rfl);have O:=O.ext1 34 (hd 5 rfl rfl);exact AA hS rfl (AF Bx O rfl rfl rfl (by omega)),fun a w gG O hS hd=>by have O:=O.ext1 35 (hd 6 rfl rfl);have J:=hS.mem rfl;exact AA hS rfl (AP Ai O rfl (J.row 0 rfl) (CR (gj) (gi) (gk) (by omega) (by omega) (by omega) (by omega))),fun a w gG O hS hd=>by have O:=O.ext1 36 (hd 7 rfl rfl);exact AA hS rfl (A9 BJ BN O rfl (wrap_i64 (by omega) (by omega))),fun a w gG O hS hd=>by exact BP hS rfl O rfl,fun a w gG O hS hd=>by exact BP hS rfl O rfl,fun a w gG O hS hd=>by exact BP hS rfl O rfl,fun a w gG O hS hd=>by exact AA hS rfl (AB Ax O rfl),fun a w gG O hS hd=>by have O:=O.ext1 38 (hd 9 rfl rfl);have O:=O.ext1 41 (hd 12 rfl rfl);exact AA hS rfl (AF BF O rfl rfl rfl (by omega)),fun a w gG O hS hd=>by have O:=O.ext1 39 (hd 10 rfl rfl);have O:=O.ext1 42 (hd 13 rfl rfl);exact AA hS rfl (AF BG O rfl rfl rfl (by omega)),fun a w gG O hS hd=>by have O:=O.ext1 40 (hd 11 rfl rfl);have O:=O.ext1 43 (hd 14 rfl rfl);exact AA hS rfl (AF Bx O rfl rfl rfl (by omega)),fun a w gG O hS hd=>by have O:=O.ext1 44 (hd 15 rfl rfl);have J:=hS.mem rfl;exact AA hS rfl (AP Ai O rfl (J.row 0 rfl) (CR (gi) (gj) (gk) (by omega) (by omega) (by omega) (by omega))),fun a w gG O hS hd=>by have O:=O.ext1 45 (hd 16 rfl rfl);exact AA hS rfl (A9 BJ BN O rfl (wrap_i64 (by omega) (by omega))),trivial⟩ ?_;intro a w' L O hS hq;have O:=O.ext1 29 (hq 0 rfl rfl);have O:=O.ext1 30 (hq 1 rfl rfl);have O:=O.ext1 31 (hq 2 rfl rfl);have O:=O.ext1 32 (hq 3 rfl rfl);have O:=O.ext1 33 (hq 4 rfl rfl);have O:=O.ext1 34 (hq 5 rfl rfl);have O:=O.ext1 35 (hq 6 rfl rfl);have O:=O.ext1 36 (hq 7 rfl rfl);have O:=O.ext1 37 (hq 8 rfl rfl);have O:=O.ext1 38 (hq 9 rfl rfl);have O:=O.ext1 39 (hq 10 rfl rfl);have O:=O.ext1 40 (hq 11 rfl rfl);have O:=O.ext1 41 (hq 12 rfl rfl);have O:=O.ext1 42 (hq 13 rfl rfl);have O:=O.ext1 43 (hq 14 rfl rfl);have O:=O.ext1 44 (hq 15 rfl rfl);have O:=O.ext1 45 (hq 16 rfl rfl);have O:=O.ext1 46 (hq 17 rfl rfl);have J:=hS.mem rfl;change wpList Try.prog _ _ [_,_] _ _;refine st O (Et O rfl rfl (wrap_i64 (by omega) (by omega))) rfl fun a O=>ag O rfl rfl fun a O=>nt<|wp_region_lit<|mv O rfl rfl fun a O=>mv O rfl rfl fun a O=>mv O rfl rfl fun a O=>st O (AB A2 O rfl) rfl fun a O=>st O (AP AX O rfl (J.row 0 rfl) (BU (by omega))) rfl fun a O=>Ar O (Ae Try.call115 O (.cons rfl (.cons rfl .nil)) (EP ((T (gj) (gi) (gk):Int) - (T (gi) (gj) (gk):Int)) (p) _ (by omega) (by omega) (by omega) (by omega))) rfl ?_
        rintro _ w' a ⟨hx,rfl⟩ O;have J:=J.ext hx;refine st O (Ak (i:=gj) Bt O rfl rfl rfl (by omega)) rfl fun a O=>BQ O (Az 1 J rfl Ai O rfl rfl rfl (by first | omega | (simp only [Aa,AO,AU,AN,AT,AM,AR,AK,AC,AV,AL,AW,AS,Ac,AY]<;>omega) | (simp only [Array.size_setIfInBounds];omega) | simp)) ?_;intro _ w' a J O;change Ag _ _ [_,some (b5,(EW 6 (fun c=>if c<gj then eqC p n T (gi*n+gk) c else 0)).setIfInBounds (0+(gj)*1) (.int .u8 (((T (gj) (gi) (gk):Int) - (T (gi) (gj) (gk):Int))%(p:Int)))),_,_] _ at J;refine wpList_nil<|iN<|tN<|wp_region_lit<|st O (Ap O rfl rfl (Af (gj) (1) (by omega))) rfl fun a O=>mv O rfl rfl fun a O=>nt<|⟨gj+1,⟨by omega,trivial,O.sub _ (by repeat' constructor),?_⟩,by omega⟩;refine J.rowc 1 rfl (IB (m:=6) (k:=gj) (f:=fun c=>if c<gj then eqC p n T (gi*n+gk) c else 0) (g:=fun c=>if c<gj+1 then eqC p n T (gi*n+gk) c else 0) (by omega) ((MU hp2 (by omega)).symm.trans (congrArg Nat.cast (if_pos (Nat.lt_succ_self gj)).symm)) (fun c hc he=>?_));have e0:(c<gj+1)=(c<gj):=by apply propext;omega
        simp only [e0]
      obtain rfl:n=gj:=by omega
      have J:=J.rowc (cs':=EW 6 ((C5 n (eqC p n T)) (gi*n+gk))) 1 rfl (GH (m:=6) (f:=fun c=>if c<n then eqC p n T (gi*n+gk) c else 0) (g:=(C5 n (eqC p n T)) (gi*n+gk)) fun c hc=>rfl);refine wp_exit<|tX<|tX<|Am<|tN ?_;have hgN:=J.ge 1 rfl;have hnb:=fun i hi=>(J.froz _ _ (hB2.mem i hi)).2 1 b5 _ rfl;have J:=J.freeze 1 rfl;have hB3:=((hB2.more (D':=(b5,EW 6 ((C5 n (eqC p n T)) (gi*n+gk)))::D2) (fun x hx=>List.mem_cons_of_mem _ hx)).snoc (r:=(C5 n (eqC p n T)) (gi*n+gk)) rfl (List.mem_cons_self ..) hnb).congr (M':=(C5 n (eqC p n T))) (fun i hi c hc=>by by_cases e:i=gi*n+gk<;>simp [upE,e]);refine wp_region_lit<|mv O rfl rfl fun a O=>mv O rfl rfl fun a O=>Ar O (BH 2 J O (CD O rfl) (JD _ _ _)) rfl ?_;rintro _ w' a ⟨b7,rfl,J,-⟩ O;change Ag w w' [some (b1,AD (p:Int) (n:Int) T f),none,some (b7,#[.slice (some ⟨b5,0,none⟩) 6 6]),e4_2] ((b5,EW 6 ((C5 n (eqC p n T)) (gi*n+gk)))::D2) at J;refine Ar O (Bg (k:=3) (m:=1) (g:=fun _=>.slice (some ⟨b5,0,none⟩) 6 6) Fc rfl (by decide) J rfl O rfl rfl hsl (fun i hi=>by rw [show i=0 by omega];exact (J.row 2 rfl).cell 0) (fun _ _=>rfl) (by decide) (by unfold maxLen;omega) (by omega)) rfl ?_;rintro u8 w' a ⟨e9,J,hs10⟩ O;change Ag w w' [some (b1,AD (p:Int) (n:Int) T f),none,some (b7,#[.slice (some ⟨b5,0,none⟩) 6 6]),e9] ((b5,EW 6 ((C5 n (eqC p n T)) (gi*n+gk)))::D2) at J;refine ag O rfl rfl fun a O=>wpList_nil<|iN<|tN<|wp_region_lit<|st O (Ap O rfl rfl (Af (gk) (1) (by omega))) rfl fun a O=>mv O rfl rfl fun a O=>wpList_nil<|tN ?_;have hsl:=(hs10).congr (g:=fun i=>.slice (some ⟨up β2 (gi*n+gk) b5 i,0,none⟩) 6 6) (fun i hi=>by
        by_cases e:i<gi*n+gk
        . rw [if_pos (by omega)];simp only [Bi (show i≠gi*n+gk by omega)]
        . rw [if_neg (by omega),show i=gi*n+gk by omega];simp only [CF])
      have J:=J.drop 2;refine ⟨gk+1,⟨by omega,((b5,EW 6 ((C5 n (eqC p n T)) (gi*n+gk)))::D2),(up β2 (gi*n+gk) b5),⟨hB3,fun i hi=>by unfold up;split;exact hgN;exact hZ i (by omega)⟩,(u8),(e9),hsl,O.sub _ (by repeat' constructor),?_⟩,by omega⟩;exact J
    obtain rfl:n=gk:=by omega
    refine wp_exit<|tX<|tX<|Am<|iN<|tN<|wp_region_lit<|st O (Ap O rfl rfl (Af (gi) (1) (by omega))) rfl fun a O=>mv O rfl rfl fun a O=>nt<|⟨gi+1,⟨by omega,D2,β2,⟨by rw [Nat.succ_mul];exact hB2,by rw [Nat.succ_mul];exact hZ⟩,(u4_2),(e4_2),(by rw [Nat.succ_mul];exact hsl),O.sub _ (by repeat' constructor),?_⟩,by omega⟩;exact J
  obtain rfl:n=gi:=by omega
  have hnn:0<n*n:=Nat.mul_pos (by omega) (by omega);obtain ⟨bq,cq,csq,rfl,rfl,hsq⟩:=hsl.pos hnn;have hgeq:=J.ge 3 rfl;have hnbq:∀ i,i<n*n->β i≠bq:=fun i hi e=>(J.froz _ _ (hB.mem i hi)).2 3 bq _ rfl e.symm;have J:=J.freeze 3 rfl;have hnn2:=Nat.mul_le_mul hn hn;change Ag w _ [some (b1,AD (p:Int) (n:Int) T f),none,none,none] ((bq,csq)::D1) at J;refine wp_exit<|tX<|tX<|Am<|tN<|sr<|mv O rfl rfl fun a O=>st O (AB AZ O rfl) rfl fun a O=>st O (AP AX O rfl (J.row 0 rfl) (Ao (by omega))) rfl fun a O=>st O (AB A2 O rfl) rfl fun a O=>st O (AP AX O rfl (J.row 0 rfl) (BU (by omega))) rfl fun a O=>?_;have hszc:=J.bel.size;refine Ar O (BA Try.call116 O (.cons rfl (.cons rfl (.cons rfl .nil))) (Kp p n (n*n) bq cq csq β (C5 n (eqC p n T)) _ hp hn0 hn (by omega) hsq.le (fun i c=>by unfold C5;split;exact Lu hp2 _ _;omega) (fun i _ c hc _=>H7 hc) (J.fzm (List.mem_cons_self ..)) (by have:=hsq.sz;have:=hsq.le;omega) (fun i hi=>hsq.get1 i hi) (fun i hi=>J.fzm (List.mem_cons_of_mem _ (hB.mem i hi))) hB.inj hnbq (fun k E ld h1 h2=>hJ k E ld h1 (fun x=>(h2 x).trans (Kq (fun i _ c hc=>(EA hc))))) (fun r V h1=>hH r V (IY (fun i _ c hc=>(EA hc)) h1)))) rfl ?_;rintro u w' a ⟨hx,r,V,hIK,hVz,hrn,hO⟩ O;have hown2:=IQ hszc hO;have J:=J.swapD (D':=[]) hx (GA (Q:=fun y=>∃ cs,(y,cs)∈(bq,csq)::D1) ⟨_,List.mem_cons_self ..⟩ (fun i hi=>⟨_,List.mem_cons_of_mem _ (hB.mem i hi)⟩)) (GA (Q:=fun y=>w.heap.size<=y\/y∈[]) (.inl hgeq) (fun i hi=>.inl (hge1 i hi))) (fun _ _ h=>by cases h);change Ag w w' [some (b1,AD (p:Int) (n:Int) T f),none,none,none] [] at J;refine ag O rfl rfl fun a O=>ag O rfl rfl fun a O=>nt<|wp_ret<|CN rfl O.defers (Ad O rfl) (Ad O rfl) ⟨_,rfl,J.below,?_⟩;exact ⟨r,V,u,IY (fun i _ c hc=>EA hc) hIK,hVz,hown2,rfl⟩
theorem QE {w0 w w':World}{L:Own}{D:A7}{p n:Nat}{M:Nat->Nat->Nat}{u:Value}(J:Ag w0 w L D)(h:∃ r V,IsKer p n M (n*n) r V/\OwnSl 6 w r (fun c=>.int .u8 (((C5 n V) (c / 6) (c%6):Nat):Int)) u w'):∃ r V,IsKer p n M (n*n) r V/\OwnSl 6 w0 r (fun c=>.int .u8 (((C5 n V) (c / 6) (c%6):Nat):Int)) u w':=by
  obtain ⟨r,V,h1,h2⟩:=h;exact ⟨r,V,h1,IQ J.bel.size h2⟩
theorem LG (p n:Int)(T:Nat->Nat->Nat->Nat)(f:Nat->Nat)(w:World)(hT:∀ i j k,T i j k<=255)(hf:∀ i,f i<=255)(hc:¬ Cx p n T f 0 (Cj [])) :
    CallsR Try.prog 37 #[.agg (AD p n T f)] w (fun res _=>res = .tuple #[.slice none 0 0,.int .i64 1]):=by
  refine Al [.agg (AD p n T f)] Try.func37 rfl Try.ntmps37 rfl fun a O=>?_;have J:Ag w w [none] []:=MemX.start w 1;change Fr 12 a [(0,.agg (AD p n T f))] at O;refine sr<|Ar O (BI 0 J O rfl) rfl ?_;rintro _ w' a ⟨b1,rfl,J,-⟩ O;change Ag _ _ [some (b1,AD p n T f)] [] at J;refine ag O rfl rfl fun a O=>ag O rfl rfl fun a O=>nt<|sq<|sr<|st O (AE AI O rfl (J.row 0 rfl) (by simp only [Aa,AO,AU,AN,AT,AM,AR,AK,AC,AV,AL,AW,AS,Ac,AY]<;>omega) (whole AG)) rfl fun a O=>Ar O (Ae Try.call88 O (.cons rfl (.cons rfl .nil)) ((CallsR.val (DW p n T f (Cj []) _ (fun _ _ _=>hT _ _ _) (fun _=>hf _)) (congrArg (Value.int .i64) (if_neg hc))))) rfl ?_;rintro _ w' a ⟨hx,rfl⟩ O;have J:=J.ext hx;refine ag O rfl rfl fun a O=>ns<|mv O rfl rfl fun a O=>st O (By O rfl rfl) rfl fun a O=>nt<|I2 O rfl (by decide)<|sr<|mv O rfl rfl fun a O=>ag O rfl rfl fun a O=>ag O rfl rfl fun a O=>nt<|wp_ret<|tR<|CN rfl O.defers (Ad O rfl) (Ad O rfl) ⟨_,rfl,J.below,?_⟩
  show _=_
  rfl
theorem LD (p n:Nat)(T:Nat->Nat->Nat->Nat)(f:Nat->Nat)(w:World)(hp:primeN p)(hn0:0<n)(hn:n<=6)(hTp:∀ i j k,T i j k<p)(hT0:∀ i j k,n<=k->T i j k=0)(hf:∀ i,f i<=255)(hc:Cx (p:Int) (n:Int) T f 0 (Cj []))(hJ:∀ k E ld,Rref p n E k ld->(∀ x,Ker p n E k x↔Ker p n (eqC p n T) (n*n) x)->0<nf k ld n)(hH:∀ r V,IsKer p n (eqC p n T) (n*n) r V->0<r) :
    CallsR Try.prog 37 #[.agg (AD (p:Int) (n:Int) T f)] w (fun v w'=>∃ r V u,IsKer p n (eqC p n T) (n*n) r V/\OwnSl 6 w r (fun c=>.int .u8 (((C5 n V) (c / 6) (c%6):Nat):Int)) u w'/\v = .tuple #[u,.int .i64 0]):=by
  refine Al [.agg (AD (p:Int) (n:Int) T f)] Try.func37 rfl Try.ntmps37 rfl fun a O=>?_;have J:Ag w w [none] []:=MemX.start w 1;change Fr 12 a [(0,.agg (AD (p:Int) (n:Int) T f))] at O;have hp2:=hp.two;have hp13:=hp.le;have hT:∀ i j k,T i j k<=255:=fun i j k=>by have:=hTp i j k;omega
  refine sr<|Ar O (BI 0 J O rfl) rfl ?_;rintro _ w' a ⟨b1,rfl,J,-⟩ O;change Ag _ _ [some (b1,AD (p:Int) (n:Int) T f)] [] at J;refine ag O rfl rfl fun a O=>ag O rfl rfl fun a O=>nt<|sq<|sr<|st O (AE AI O rfl (J.row 0 rfl) (by simp only [Aa,AO,AU,AN,AT,AM,AR,AK,AC,AV,AL,AW,AS,Ac,AY]<;>omega) (whole AG)) rfl fun a O=>Ar O (Ae Try.call88 O (.cons rfl (.cons rfl .nil)) ((CallsR.val (DW (p:Int) (n:Int) T f (Cj []) _ (fun _ _ _=>hT _ _ _) (fun _=>hf _)) (congrArg (Value.int .i64) (if_pos hc))))) rfl ?_;rintro _ w' a ⟨hx,rfl⟩ O;have J:=J.ext hx;refine ag O rfl rfl fun a O=>ns<|mv O rfl rfl fun a O=>st O (By O rfl rfl) rfl fun a O=>nt<|Im O rfl (by decide)<|wp_skip<|tN<|sr<|st O (AE AI O rfl (J.row 0 rfl) (by simp only [Aa,AO,AU,AN,AT,AM,AR,AK,AC,AV,AL,AW,AS,Ac,AY]<;>omega) (whole AG)) rfl fun a O=>Ar O (Ae Try.call117 O (.cons rfl .nil) (J4 p n T f _ hp hn0 hn hT hJ hH)) rfl ?_;rintro u w' a ⟨hx,hr⟩ O;have hr:=(QE) J hr;have J:=J.ext hx;obtain ⟨r,V,hIK,hO⟩:=hr;refine ag O rfl rfl fun a O=>ag O rfl rfl fun a O=>nt<|wp_ret<|CN rfl O.defers (Ad O rfl) (Ad O rfl) ⟨_,rfl,J.below,?_⟩;exact ⟨r,V,u,hIK,hO,rfl⟩
theorem Q5 {p x y A B d:Int}(h1:p∣x - y)(e:y=A - B)(hA:p∣A - d)(hB:p∣B - d):p∣x:=by
  have e2:x=(x - y)+((A - d) - (B - d)):=by omega
  rw [e2];exact Int.dvd_add h1 (Int.dvd_sub hA hB)
theorem NO {p n:Nat}{T:Nat->Nat->Nat->Nat}{u:Nat->Nat}(hp:2<=p)(h:UnitI p n T u):Ker p n (eqC p n T) (n*n) (fun c=>(u c:Int)):=by
  intro r hr;have hn0:0<n:=by rcases Nat.eq_zero_or_pos n with e | e;(rw [e] at hr;omega);exact e
  have hj:r / n<n:=Nat.div_lt_of_lt_mul hr;have hk:r%n<n:=Nat.mod_lt _ hn0;have e1:dot n (ci (eqC p n T r)) (fun c=>(u c:Int))=sI (fun c=>(u c:Int)*(eqC p n T r c:Int)) n:=Aw fun c _=>by unfold ci;exact Int.mul_comm _ _
  rw [e1];refine Q5 (Nl (f:=fun c=>(u c:Int)) (g:=fun c=>(eqC p n T r c:Int)) (h:=fun c=>(T c (r / n) (r%n):Int) - (T (r / n) c (r%n):Int)) fun c _=>?_) ?_ (h.right _ hj _ hk) (h.left _ hj _ hk)
  . unfold eqC
    rw [Int.toNat_of_nonneg (Int.emod_nonneg _ (by omega))];exact D4 _ _
  . rw [← Jq]
    exact Aw fun c _=>by rw [Int.mul_sub]
theorem Oz {k n:Nat}{ld:Nat->Nat}(h:nf k ld n=0):∀ c,c<n->CI k ld c:=fun c hc=>Decidable.byContradiction fun hf=>by have:=Ke hc hf;omega
theorem Hd {p x:Nat}(h:(p:Int)∣(x:Int))(hx:x<p):x=0:=Nat.eq_zero_of_dvd_of_lt (Int.natCast_dvd_natCast.1 h) hx
theorem OD {p n:Nat}{T:Nat->Nat->Nat->Nat}{u:Nat->Nat}(hp:2<=p)(hn0:0<n)(h:UnitI p n T u):∀ k E ld,Rref p n E k ld->(∀ x,Ker p n E k x↔Ker p n (eqC p n T) (n*n) x)->0<nf k ld n:=fun k E ld hR hK=>by
  refine Decidable.byContradiction fun h0=>?_
  have hl:=Kh hR (Oz (show nf k ld n=0 by omega))
  have hx:=(hK _).2 (NO hp h)
  have hz:∀ i,i<n->u i=0:=fun i hi=>by
    have hi':=hl i hi
    have h1:=hx i hi'.1
    have e:dot n (ci (E i)) (fun c=>(u c:Int))=(u i:Int):=by
      unfold dot
      rw [Cc hi]
      . have:=hR.one i hi'.1;rw [hi'.2] at this;unfold ci;rw [this];simp
      . intro j hj hJ
        have hj':=hl j hj;have:=hR.zero j i hj'.1 hi'.1 hJ;rw [hj'.2] at this;unfold ci;rw [this];simp
    rw [e] at h1;exact Hd h1 (h.small i)
  have h2:=h.right 0 hn0 0 hn0;rw [Bn (fun a ha=>by rw [hz a ha];simp)] at h2;have h3:(p:Int)∣((1:Nat):Int):=by
    have e:(0:Int) - (dl 0 0:Int) = -((1:Nat):Int):=rfl;rw [e] at h2;exact (Int.dvd_neg).1 h2
  have:=Hd h3 (by omega)
  omega
theorem MN {p n m:Nat}{M:Nat->Nat->Nat}(hp:2<=p)(hJ:∀ k E ld,Rref p n E k ld->(∀ x,Ker p n E k x↔Ker p n M m x)->0<nf k ld n):∀ r V,IsKer p n M m r V->0<r:=fun r V h=>by
  obtain ⟨k,E,ld,ld2,h1,h2,h3,h4⟩:=h
  obtain ⟨c,hc,hf,_⟩:=Kf n 0 (hJ k E ld h1 h2)
  refine Decidable.byContradiction fun h0=>?_
  have h5:=(h4 (fun d=>if d=c then 1 else 0)).1 (fun i hi=>absurd hi (by omega)) c hc hf
  have e:dot n (ci (sol p E k ld c)) (fun d=>if d=c then 1 else 0)=((1:Nat):Int):=by
    unfold dot
    rw [Cc hc]
    . unfold ci sol;simp
    . intro j _ hne2;simp [hne2]
  rw [e] at h5;have:=Hd h5 (by omega)
  omega
theorem OB {p n m r:Nat}{M V:Nat->Nat->Nat}(h:IsKer p n M m r V):r<=n:=by
  obtain ⟨k,E,ld,ld2,_,_,h3,_⟩:=h;have:∀ i,i<r->i<=ld2 i:=by
    intro i
    induction i with
    | zero=>intro _;exact Nat.zero_le _
    | succ i ih=>intro hi;have:=ih (by omega);have:=h3.mono i (i+1) (by omega) hi;omega
  rcases Nat.eq_zero_or_pos r with e | e
  . omega
  . have h1:=this (r - 1) (by omega);have h2:=h3.lt (r - 1) (by omega);omega
theorem Ht {p n m r:Nat}{M V:Nat->Nat->Nat}(h:IsKer p n M m r V):∀ i,i<r->∀ c,c<n->V i c<p:=by
  obtain ⟨k,E,ld,ld2,_,_,h3,_⟩:=h;exact h3.small
def Lx (n R:Nat) (W:Nat->Nat->Nat) (i c:Nat):Nat:=if i<R/\c<n then W i c else 0
theorem Kc {p n m r R:Nat}{M V V' W:Nat->Nat->Nat}{w w':World}{u:Value}(hp:2<=p)(hW:IsKer p n M m R W)(hV:IsKer p n M m r V)(e:∀ i,i<r->∀ c,c<6->V' i c=if c<n then V i c else 0)(h:OwnSl 6 w r (fun c=>.int .u8 (V' (c / 6) (c%6):Int)) u w'):OwnSl 6 w R (fun c=>.int .u8 (Lx n R W (c / 6) (c%6):Int)) u w':=by
  obtain ⟨rfl,hu⟩:=IsKer.unique hp hW hV;obtain ⟨b,cap,cs,h1,h2,h3⟩:=h;refine ⟨b,cap,cs,h1.congr (fun c hc=>?_),h2,h3⟩
  congr 2
  rw [e (c / 6) (by omega) (c%6) (by omega)]
  unfold Lx
  by_cases hcn:c%6<n
  . rw [if_pos hcn,if_pos ⟨by omega,hcn⟩,hu (c / 6) (by omega) (c%6) hcn]
  . rw [if_neg hcn,if_neg (fun q=>hcn q.2)]
theorem Hw (p n:Nat)(T:Nat->Nat->Nat->Nat)(f:Nat->Nat)(R0:Nat)(W:Nat->Nat->Nat)(w:World)(hp:primeN p)(hn0:0<n)(hn:n<=6)(hTp:∀ i j k,T i j k<p)(hT0:∀ i j k,n<=k->T i j k=0)(hf:∀ i,f i<=255)(hc:Cx (p:Int) (n:Int) T f 0 (Cj []))(hJ:∀ k E ld,Rref p n E k ld->(∀ x,Ker p n E k x↔Ker p n (eqC p n T) (n*n) x)->0<nf k ld n)(hH:∀ r V,IsKer p n (eqC p n T) (n*n) r V->0<r)(hW:IsKer p n (eqC p n T) (n*n) R0 W):CallsR Try.prog 36 #[.agg (AD (p:Int) (n:Int) T f)] w (fun v w'=>∃ u,v = .tuple #[u,.int .i64 0]/\OwnSl 6 w R0 (fun c=>.int .u8 (((Lx n R0 W) (c / 6) (c%6):Nat):Int)) u w'):=
  (LH p n T f w hp hn0 hn hTp hT0 hf hc hJ hH).mono fun v w' _ h2=>by
    obtain ⟨r,V,u,hIK,hVz,hO,e⟩:=h2
    exact ⟨u,e,Kc hp.two hW hIK (fun i hi c hc=>by split;rfl;exact hVz i hi c (by omega) hc) hO⟩
theorem LF (p n:Nat)(T:Nat->Nat->Nat->Nat)(f:Nat->Nat)(R0:Nat)(W:Nat->Nat->Nat)(w:World)(hp:primeN p)(hn0:0<n)(hn:n<=6)(hTp:∀ i j k,T i j k<p)(hT0:∀ i j k,n<=k->T i j k=0)(hf:∀ i,f i<=255)(hc:Cx (p:Int) (n:Int) T f 0 (Cj []))(hJ:∀ k E ld,Rref p n E k ld->(∀ x,Ker p n E k x↔Ker p n (eqC p n T) (n*n) x)->0<nf k ld n)(hH:∀ r V,IsKer p n (eqC p n T) (n*n) r V->0<r)(hW:IsKer p n (eqC p n T) (n*n) R0 W):CallsR Try.prog 37 #[.agg (AD (p:Int) (n:Int) T f)] w (fun v w'=>∃ u,v = .tuple #[u,.int .i64 0]/\OwnSl 6 w R0 (fun c=>.int .u8 (((Lx n R0 W) (c / 6) (c%6):Nat):Int)) u w'):=
  (LD p n T f w hp hn0 hn hTp hT0 hf hc hJ hH).mono fun v w' _ h2=>by
    obtain ⟨r,V,u,hIK,hO,e⟩:=h2
    exact ⟨u,e,Kc hp.two hW hIK (fun i hi c hc=>rfl) hO⟩
theorem KC {p n r c:Nat}{T:Nat->Nat->Nat->Nat}(hp:0<p):(p:Int)∣(eqC p n T r c:Int) - ((T c (r / n) (r%n):Int) - (T (r / n) c (r%n):Int)):=by
  unfold eqC
  rw [Int.toNat_of_nonneg (Int.emod_nonneg _ (by omega))];exact Nu _ _
theorem O6 {p n:Nat}{T:Nat->Nat->Nat->Nat}(hp:0<p)(x:Nat->Int):Ker p n (eqC p n (trT T)) (n*n) x↔Ker p n (eqC p n T) (n*n) x:=by
  have key:∀ (A B:Nat->Nat->Nat->Nat),(∀ i j k,A i j k=B j i k)->Ker p n (eqC p n A) (n*n) x->Ker p n (eqC p n B) (n*n) x:=fun A B e h r hr=>by
    have h1:=h r hr;have h2:(p:Int)∣dot n (ci (eqC p n B r)) x+dot n (ci (eqC p n A r)) x:=by
      unfold dot
      rw [← EM];refine Cs fun c _=>?_;rw [← Int.add_mul];refine Int.dvd_trans ?_ (Int.dvd_mul_right ..);have a1:=KC (n:=n) (r:=r) (c:=c) (T:=A) hp;have a2:=KC (n:=n) (r:=r) (c:=c) (T:=B) hp;rw [e,e] at a1;have:=Int.dvd_add a2 a1
      unfold ci
      rwa [show ∀ s t u v:Int,s - (u - v)+(t - (v - u))=s+t from fun s t u v=>by omega] at this
    have:=Int.dvd_sub h2 h1
    rwa [show ∀ s t:Int,s+t - t=s from fun s t=>by omega] at this
  exact ⟨key _ _ (fun _ _ _=>rfl),key _ _ (fun _ _ _=>rfl)⟩
theorem O8 {p n:Nat}{T:Nat->Nat->Nat->Nat}(hp:0<p)(hn:n<=6)(hT:∀ i j k,T i j k<p)(hz:∀ i j k,n<=i\/n<=j\/n<=k->T i j k=0):KD T↔∀ x,Ker p n (eqC p n T) (n*n) x:=by
  constructor
  . intro h x r hr
    unfold dot
    obtain ⟨r1,r2⟩:=D6 hr;refine Cs fun c hc=>Int.dvd_trans ?_ (Int.dvd_mul_right ..);have a1:=KC (n:=n) (r:=r) (c:=c) (T:=T) hp;rw [PK hn h c hc (r / n) r1 (r%n) r2,Int.sub_self,Int.sub_zero] at a1;exact a1
  . intro h i hi j hj k hk
    by_cases q:i<n/\k<n
    . have hn0:0<n:=by omega
      have hr:i*n+k<n*n:=by have:=Nat.mul_le_mul_right n (show i+1<=n from q.1);rw [Nat.succ_mul] at this;omega
      have dv:(i*n+k) / n=i:=by rw [Nat.add_comm,Nat.add_mul_div_right _ _ hn0,Nat.div_eq_of_lt q.2,Nat.zero_add]
      have md:(i*n+k)%n=k:=by rw [Nat.add_comm,Nat.add_mul_mod_self_right,Nat.mod_eq_of_lt q.2]
      have h1:=h (fun c=>(dl j c:Int)) (i*n+k) hr
      unfold dot at h1
      rw [Cc (show j<n by omega) (fun d _ hJ=>by simp [dl,Ne.symm hJ])] at h1;rw [show ci (eqC p n T (i*n+k)) j*(dl j j:Int)=(eqC p n T (i*n+k) j:Int) by simp [ci,dl]] at h1;have a1:=KC (n:=n) (r:=i*n+k) (c:=j) (T:=T) hp;rw [dv,md] at a1;have:=Int.dvd_sub h1 a1;rw [show ∀ s t:Int,s - (s - t)=t from fun s t=>by omega] at this;exact (Nt this (hT _ _ _) (hT _ _ _)).symm
    . rw [hz i j k (by omega),hz j i k (by omega)]
section
variable {P N : Int} {T U : Nat -> Nat -> Nat -> Nat} {f uu : Nat -> Nat} {p n : Nat}
theorem Good.opp (G:Good P N T f p n U uu)(hz:∀ i j k,n<=i\/n<=j\/n<=k->U i j k=0):B4 (p:Int) (n:Int) (trT U) f:=by
  have ha:=HF G.hn G.ass;refine Lc (u:=uu) G.prP G.hp G.hn0 G.hn (fun i j k=>G.lt j i k) (fun i j k q=>hz j i k (by omega)) G.okf (fun i hi j hj k hk d hd=>?_) ⟨G.unit.small,G.unit.out,fun i hi c hc=>G.unit.left i hi c hc,fun i hi c hc=>G.unit.right i hi c hc⟩;have h:=GI (ha k hk j hj i hi d hd);have e1:sI (fun a=>(trT U i j a:Int)*(trT U a k d:Int)) n=sI (fun b=>(U j i b:Int)*(U k b d:Int)) n:=rfl;have e2:sI (fun b=>(trT U j k b:Int)*(trT U i b d:Int)) n=sI (fun a=>(U k j a:Int)*(U a i d:Int)) n:=rfl;rw [e1,e2];exact h
end
def Rn (P N:Int) (T:Nat->Nat->Nat->Nat) (f:Nat->Nat) (m1:Nat) (W:Nat->Nat->Nat) (P3 N3:Int) (T3:Nat->Nat->Nat->Nat) (f3:Nat->Nat) (e:Int):Prop:=e=0->0<m1/\∃ bb:Bool,(∀ w,CallsR Try.prog 38 #[.agg (AD P3 N3 T3 f3)] w (fun u _=>u = .tuple #[.agg (AD P N T f),.int .i64 0]))/\(∀ w,CallsR Try.prog 36 #[.agg (AD P3 N3 T3 f3)] w (fun u w'=>∃ l,u = .tuple #[l,.int .i64 0]/\NewX (fun D u=>VsX D m1 W u) w w' l))/\(∀ w,CallsR Try.prog 41 #[.agg (AD P N T f)] w (fun u _=>u = .tuple #[.bool bb,.int .i64 0]))/\bb=decide ((m1:Int)=N)
theorem PO (P N:Int)(T:Nat->Nat->Nat->Nat)(f:Nat->Nat)(hT:∀ i j k,T i j k<=255)(hf:∀ i,f i<=255):∃ (m1:Nat) (W:Nat->Nat->Nat) (P3 N3:Int) (T3:Nat->Nat->Nat->Nat) (f3:Nat->Nat) (e:Int),(∀ w,CallsR Try.prog 36 #[.agg (AD P N T f)] w (fun u w'=>∃ l,u = .tuple #[l,.int .i64 e]/\NewX (fun D u=>VsX D m1 W u) w w' l))/\(∀ w,CallsR Try.prog 37 #[.agg (AD P N T f)] w (fun u w'=>∃ l,u = .tuple #[l,.int .i64 e]/\NewX (fun D u=>VsX D m1 W u) w w' l))/\(∀ w,CallsR Try.prog 38 #[.agg (AD P N T f)] w (fun u _=>u = .tuple #[.agg (AD P3 N3 T3 f3),.int .i64 e]))/\(∀ w,CallsR Try.prog 39 #[.agg (AD P N T f)] w (fun u _=>u = .tuple #[.agg (AD P3 N3 T3 f3),.int .i64 e]))/\m1<=6/\(∀ i c,W i c<=255)/\Rn P N T f m1 W P3 N3 T3 f3 e:=by
  by_cases hc:Cx P N T f 0 (Cj [])
  . obtain ⟨p,n,U,uu,G,hz⟩:=Ic hc.1
    have hp2:=G.hp.two;obtain ⟨R0,W,hW⟩:=J6 (n:=n) (m:=n*n) (M:=eqC p n U) G.hp (Lu hp2);have hJ:=OD hp2 G.hn0 G.unit;have hH:=MN hp2 hJ;have hR:=OB hW;have hR0:=hH _ _ hW;have hW5:∀ i c,Lx n R0 W i c<=255:=fun i c=>by
      unfold Lx;split
      . rename_i q;have:=Ht hW i q.1 c q.2;have:=G.hp.le;omega
      . omega
    have hcO:Cx (p:Int) (n:Int) (trT U) f 0 (Cj []):=⟨G.opp hz,Cv⟩;have uO:UnitI p n (trT U) uu:=⟨G.unit.small,G.unit.out,fun i hi c hc=>G.unit.left i hi c hc,fun i hi c hc=>G.unit.right i hi c hc⟩;have hneO:=OD hp2 G.hn0 uO;have hn:=G.hn;refine ⟨R0,Lx n R0 W,(p:Int),(n:Int),trT U,f,0,fun w=>?_,fun w=>?_,fun w=>?_,fun w=>?_,by omega,hW5,fun _=>⟨hR0,decide (KD U),fun w=>?_,fun w=>?_,fun w=>?_,?_⟩⟩
    . rw [G.cells];exact (Hw p n U f R0 W w G.hp G.hn0 G.hn G.lt G.out hf (G.code Cv) hJ hH hW).mono fun u w' _ ⟨l,e,h⟩=>⟨l,e,OwnSl.newX hR0 h⟩
    . rw [G.cells];exact (LF p n U f R0 W w G.hp G.hn0 G.hn G.lt G.out hf (G.code Cv) hJ hH hW).mono fun u w' _ ⟨l,e,h⟩=>⟨l,e,OwnSl.newX hR0 h⟩
    . rw [G.cells];exact Ef p n U f w G.hp G.hn0 G.hn G.lt G.out hf (G.code Cv)
    . rw [G.cells];exact HB p n U f w G.hp G.hn0 G.hn G.lt G.out hf (G.code Cv)
    . rw [G.cells]
      exact Ef p n (trT U) f w G.hp G.hn0 G.hn (fun i j k=>G.lt j i k) (fun i j k q=>hz j i k (by omega)) hf hcO
    . exact (Hw p n (trT U) f R0 W w G.hp G.hn0 G.hn (fun i j k=>G.lt j i k) (fun i j k q=>hz j i k (by omega)) hf hcO hneO (MN hp2 hneO) (NB (fun x=>(O6 G.p0 x).symm) hW)).mono fun u w' _ ⟨l,e,h⟩=>⟨l,e,OwnSl.newX hR0 h⟩
    . have h:=FX p n U f w G.hp G.hn0 G.hn G.lt G.out hf (G.code Cv)
      rw [show decide (Pf U (trT U))=decide (KD U) from decide_eq_decide.2 K4] at h;rw [G.cells];exact h
    . rw [← G.eN]
      exact decide_eq_decide.2 (by rw [O8 G.p0 G.hn G.lt hz,OA G.hp hW hR (Ht hW)];omega)
  . exact ⟨0,fun _ _=>0,0,0,fun _ _ _=>0,fun _=>0,1,fun w=>(LI P N T f w hT hf hc).mono fun u w' _ e=>⟨_,e,NewX.nilV⟩,fun w=>(LG P N T f w hT hf hc).mono fun u w' _ e=>⟨_,e,NewX.nilV⟩,fun w=>HD P N T f w hT hf hc,fun w=>HC P N T f w hT hf hc,by omega,fun _ _=>Nat.zero_le _,fun e=>absurd e (by decide)⟩
theorem PB (P N:Int)(T:Nat->Nat->Nat->Nat)(f:Nat->Nat)(hT:∀ i j k,T i j k<=255)(hf:∀ i,f i<=255):∃ (bb:Bool) (e:Int),(∀ w,CallsR Try.prog 34 #[.agg (AD P N T f)] w (fun u _=>u = .tuple #[.bool bb,.int .i64 e]))/\(∀ w,CallsR Try.prog 43 #[.agg (AD P N T f)] w (fun u _=>u = .tuple #[.bool bb,.int .i64 e])):=by
  by_cases hc:Cx P N T f 0 (Cj [])
  . obtain ⟨p,n,U,uu,G⟩:=FN hc.1
    exact ⟨decide (D5 p n U f),0,fun w=>by rw [G.cells];exact DK p n U f w G.hp G.hn0 G.hn G.lt G.out hf (G.code Cv),fun w=>by rw [G.cells];exact I6 p n U f w G.hp G.hn0 G.hn G.lt G.out hf (G.code Cv)⟩
  . exact ⟨false,1,fun w=>I8 P N T f w hT hf hc,fun w=>I7 P N T f w hT hf hc⟩
theorem PL (P N:Int)(T:Nat->Nat->Nat->Nat)(f:Nat->Nat)(hT:∀ i j k,T i j k<=255)(hf:∀ i,f i<=255):∃ (bb:Bool) (e:Int),(∀ w,CallsR Try.prog 41 #[.agg (AD P N T f)] w (fun u _=>u = .tuple #[.bool bb,.int .i64 e]))/\(∀ w,CallsR Try.prog 45 #[.agg (AD P N T f)] w (fun u _=>u = .tuple #[.bool bb,.int .i64 e])):=by
  by_cases hc:Cx P N T f 0 (Cj [])
  . obtain ⟨p,n,U,uu,G⟩:=FN hc.1
    refine ⟨decide (KD U),0,fun w=>?_,fun w=>by rw [G.cells];exact H1 p n U f w G.hp G.hn0 G.hn G.lt G.out hf (G.code Cv)⟩;have h:=FX p n U f w G.hp G.hn0 G.hn G.lt G.out hf (G.code Cv);rw [show decide (Pf U (trT U))=decide (KD U) from decide_eq_decide.2 K4] at h;rw [G.cells];exact h
  . exact ⟨false,1,fun w=>H3 P N T f w hT hf hc,fun w=>H2 P N T f w hT hf hc⟩
def Ro (P N Q M:Int) (T V:Nat->Nat->Nat->Nat) (f h:Nat->Nat) (P3 N3:Int) (T3:Nat->Nat->Nat->Nat) (f3:Nat->Nat) (P4 N4:Int) (T4:Nat->Nat->Nat->Nat) (f4:Nat->Nat) (ea eb:Int):Prop:=ea=0->∃ b1 b2 b3:Bool,(∀ w,CallsR Try.prog 34 #[.agg (AD P N T f)] w (fun u _=>u = .tuple #[.bool b1,.int .i64 0]))/\(∀ w,CallsR Try.prog 34 #[.agg (AD Q M V h)] w (fun u _=>u = .tuple #[.bool b2,.int .i64 0]))/\(∀ w,CallsR Try.prog 34 #[.agg (AD P3 N3 T3 f3)] w (fun u _=>u = .tuple #[.bool b3,.int .i64 0]))/\b3=(b1 && b2)/\(∀ w,CallsR Try.prog 12 #[.agg (AD P3 N3 T3 f3)] w (fun u _=>u = .bool true))/\(eb=0->∃ b4:Bool,(∀ w,CallsR Try.prog 34 #[.agg (AD P4 N4 T4 f4)] w (fun u _=>u = .tuple #[.bool b4,.int .i64 0]))/\b4=(b1 && b2)/\(∀ w,CallsR Try.prog 12 #[.agg (AD P4 N4 T4 f4)] w (fun u _=>u = .bool true)))
theorem G9 {p n:Int}{T U:Nat->Nat->Nat->Nat}{f g:Nat->Nat}(h:AD p n T f=AD p n U g):∀ i,i<6->∀ j,j<6->∀ k,k<6->T i j k=U i j k:=fun i hi j hj k hk=>by
  have h1:(AD p n T f)[2+i*36+j*6+k]? = (AD p n U g)[2+i*36+j*6+k]?:=by rw [h]
  rw [CR i j k rfl hi hj hk,CR i j k rfl hi hj hk] at h1
  have h2:=Option.some.inj h1
  injection h2 with _ h3
  exact Int.ofNat.inj h3
theorem Oc (P N Q M:Int)(T V:Nat->Nat->Nat->Nat)(f h:Nat->Nat)(hT:∀ i j k,T i j k<=255)(hf:∀ i,f i<=255)(hV:∀ i j k,V i j k<=255)(hh:∀ i,h i<=255):∃ (P3 N3:Int) (T3:Nat->Nat->Nat->Nat) (f3:Nat->Nat) (ea:Int),(∀ w,CallsR Try.prog 30 #[.agg (AD P N T f),.agg (AD Q M V h)] w (fun u _=>u = .tuple #[.agg (AD P3 N3 T3 f3),.int .i64 ea]))/\(∀ w,CallsR Try.prog 31 #[.agg (AD P N T f),.agg (AD Q M V h)] w (fun u _=>u = .tuple #[.agg (AD P3 N3 T3 f3),.int .i64 ea]))/\(ea=0->B4 P N T f/\B4 Q M V h/\P=Q/\(∀ (p n m:Nat) (U1 U2:Nat->Nat->Nat->Nat) (u1 u2:Nat->Nat),Good P N T f p n U1 u1->Good Q M V h p m U2 u2->n+m<=6/\AD P3 N3 T3 f3=AD (p:Int) ((n+m:Nat):Int) (sumT n m U1 U2 m 0 0) (sumF n f h m))):=by
  by_cases h1:B4 P N T f/\B4 Q M V h
  . obtain ⟨p,n,U1,u1,G1⟩:=FN h1.1
    obtain ⟨q,m,U2,u2,G2⟩:=FN h1.2;have b1:=G1.hn0;have b2:=G2.hn0;have b3:=G1.hn;have b4:=G2.hn;have eN:=G1.eN;have eM:=G2.eN;have hw:IntKind.i64.wrap (N+M)=N+M:=wrap_i64 (by omega) (by omega)
    by_cases h2:P=Q
    . by_cases h3:N+M<=6
      . have hq:q=p:=by have:=G1.eP;have:=G2.eP;omega
        subst hq;have c5:∀ i j k,U1 i j k<=255:=fun i j k=>by have:=G1.lt i j k;have:=G1.hp.le;omega
        have c6:∀ i j k,U2 i j k<=255:=fun i j k=>by have:=G2.lt i j k;have:=G2.hp.le;omega
        refine ⟨(q:Int),((n+m:Nat):Int),sumT n m U1 U2 m 0 0,sumF n f h m,0,fun w=>?_,fun w=>?_,fun _=>⟨h1.1,h1.2,h2,fun p' n' m' V1 V2 v1 v2 g1 g2=>?_⟩⟩
        . rw [G1.cells,G2.cells];exact JA q n m U1 U2 f h w c5 hf c6 hh b1 b2 (by omega) G1.alg G2.alg
        . rw [G1.cells,G2.cells];exact I9 q n m U1 U2 f h w c5 hf c6 hh b1 b2 (by omega) G1.alg G2.alg
        . have e1:p'=q:=by have:=g1.eP;have:=G1.eP;omega
          have e2:n'=n:=by have:=g1.eN;omega
          have e3:m'=m:=by have:=g2.eN;omega
          subst e1;subst e2;subst e3;have c1:∀ i,i<6->∀ j,j<6->∀ k,k<6->U1 i j k=V1 i j k:=G9 (G1.cells.symm.trans g1.cells);have c2:∀ i,i<6->∀ j,j<6->∀ k,k<6->U2 i j k=V2 i j k:=G9 (G2.cells.symm.trans g2.cells);exact ⟨by omega,Bc fun i hi j hj k hk=>by
            unfold sumT
            by_cases s:n'<=i/\n'<=j/\n'<=k/\i<n'+m'/\j<n'+m'/\k<n'+m'/\(i<n'+m'\/i=n'+m'/\(j<n'+0\/j=n'+0/\k<n'+0))
            . rw [if_pos s,if_pos s,c2 _ (by omega) _ (by omega) _ (by omega)]
            . rw [if_neg s,if_neg s,c1 i hi j hj k hk]⟩
      . refine ⟨0,0,fun _ _ _=>0,fun _=>0,3,fun w=>?_,fun w=>?_,fun e=>absurd e (by decide)⟩
        . have:=El P N Q M T V f h w hT hf hV hh (by rw [if_pos h1,if_pos h2,hw,if_neg h3];decide)
          rw [if_pos h1,if_pos h2,hw,if_neg h3] at this;exact this
        . have:=Ek P N Q M T V f h w hT hf hV hh (by rw [if_pos h1,if_pos h2,hw,if_neg h3];decide)
          rw [if_pos h1,if_pos h2,hw,if_neg h3] at this;exact this
    . refine ⟨0,0,fun _ _ _=>0,fun _=>0,2,fun w=>?_,fun w=>?_,fun e=>absurd e (by decide)⟩
      . have:=El P N Q M T V f h w hT hf hV hh (by rw [if_pos h1,if_neg h2];decide)
        rw [if_pos h1,if_neg h2] at this;exact this
      . have:=Ek P N Q M T V f h w hT hf hV hh (by rw [if_pos h1,if_neg h2];decide)
        rw [if_pos h1,if_neg h2] at this;exact this
  . refine ⟨0,0,fun _ _ _=>0,fun _=>0,1,fun w=>?_,fun w=>?_,fun e=>absurd e (by decide)⟩
    . have:=El P N Q M T V f h w hT hf hV hh (by rw [if_neg h1];decide)
      rw [if_neg h1] at this;exact this
    . have:=Ek P N Q M T V f h w hT hf hV hh (by rw [if_neg h1];decide)
      rw [if_neg h1] at this;exact this
theorem MB (P N Q M:Int)(T V:Nat->Nat->Nat->Nat)(f h:Nat->Nat)(hT:∀ i j k,T i j k<=255)(hf:∀ i,f i<=255)(hV:∀ i j k,V i j k<=255)(hh:∀ i,h i<=255):∃ (P4 N4:Int) (T4:Nat->Nat->Nat->Nat) (f4:Nat->Nat) (eb:Int),(∀ w,CallsR Try.prog 32 #[.agg (AD P N T f),.agg (AD Q M V h)] w (fun u _=>u = .tuple #[.agg (AD P4 N4 T4 f4),.int .i64 eb]))/\(∀ w,CallsR Try.prog 33 #[.agg (AD P N T f),.agg (AD Q M V h)] w (fun u _=>u = .tuple #[.agg (AD P4 N4 T4 f4),.int .i64 eb]))/\(eb=0->B4 P N T f/\B4 Q M V h/\P=Q/\(∀ (p n m:Nat) (U1 U2:Nat->Nat->Nat->Nat) (u1 u2:Nat->Nat),Good P N T f p n U1 u1->Good Q M V h p m U2 u2->n*m<=6/\AD P4 N4 T4 f4=AD (p:Int) ((n*m:Nat):Int) (B6 p m (n*m) U1 U2 (n*m) 0 0) (CE p m (n*m) f h))):=by
  by_cases h1:B4 P N T f/\B4 Q M V h
  . obtain ⟨p,n,U1,u1,G1⟩:=FN h1.1
    obtain ⟨q,m,U2,u2,G2⟩:=FN h1.2;have b1:=G1.hn0;have b2:=G2.hn0;have b3:=G1.hn;have b4:=G2.hn;have eN:=G1.eN;have eM:=G2.eN;have h36:=P6 b3 b4;have hNM:N*M=((n*m:Nat):Int):=by rw [← eN,← eM,Int.natCast_mul]
    have hw:IntKind.i64.wrap ((N)*(M))=((n*m:Nat):Int):=by rw [hNM];exact wrap_i64 (by omega) (by omega)
    by_cases h2:P=Q
    . by_cases h3:n*m<=6
      . have hq:q=p:=by have:=G1.eP;have:=G2.eP;omega
        subst hq;have c5:∀ i j k,U1 i j k<=255:=fun i j k=>by have:=G1.lt i j k;have:=G1.hp.le;omega
        have c6:∀ i j k,U2 i j k<=255:=fun i j k=>by have:=G2.lt i j k;have:=G2.hp.le;omega
        have hp1:=G1.p0;have hp2:=G1.hp.le;refine ⟨(q:Int),((n*m:Nat):Int),B6 q m (n*m) U1 U2 (n*m) 0 0,CE q m (n*m) f h,0,fun w=>?_,fun w=>?_,fun _=>⟨h1.1,h1.2,h2,fun p' n' m' V1 V2 v1 v2 g1 g2=>?_⟩⟩
        . rw [G1.cells,G2.cells];exact Hj q n m U1 U2 f h w c5 hf c6 hh hp1 (by omega) b1 b2 b3 b4 h3 G1.alg G2.alg
        . rw [G1.cells,G2.cells];exact Hi q n m U1 U2 f h w c5 hf c6 hh hp1 (by omega) b1 b2 b3 b4 h3 G1.alg G2.alg
        . have e1:p'=q:=by have:=g1.eP;have:=G1.eP;omega
          have e2:n'=n:=by have:=g1.eN;omega
          have e3:m'=m:=by have:=g2.eN;omega
          subst e1;subst e2;subst e3;have c1:∀ i,i<6->∀ j,j<6->∀ k,k<6->U1 i j k=V1 i j k:=G9 (G1.cells.symm.trans g1.cells);have c2:∀ i,i<6->∀ j,j<6->∀ k,k<6->U2 i j k=V2 i j k:=G9 (G2.cells.symm.trans g2.cells);refine ⟨h3,Bc fun i hi j hj k hk=>?_⟩
          unfold B6
          by_cases s:i<n'*m'/\j<n'*m'/\k<n'*m'/\(i<n'*m'\/i=n'*m'/\(j<0\/j=0/\k<0))
          . obtain ⟨i1,i2⟩:=D6 s.1
            obtain ⟨j1,j2⟩:=D6 s.2.1;obtain ⟨k1,k2⟩:=D6 s.2.2.1;rw [if_pos s,if_pos s,c1 _ (by omega) _ (by omega) _ (by omega),c2 _ (by omega) _ (by omega) _ (by omega)]
          . rw [if_neg s,if_neg s]
      . have h3':¬ (((n*m:Nat):Int)<=6):=by omega
        refine ⟨0,0,fun _ _ _=>0,fun _=>0,3,fun w=>?_,fun w=>?_,fun e=>absurd e (by decide)⟩
        . have:=Dl P N Q M T V f h w hT hf hV hh (by rw [if_pos h1,if_pos h2,hw,if_neg h3'];decide)
          rw [if_pos h1,if_pos h2,hw,if_neg h3'] at this;exact this
        . have:=Dk P N Q M T V f h w hT hf hV hh (by rw [if_pos h1,if_pos h2,hw,if_neg h3'];decide)
          rw [if_pos h1,if_pos h2,hw,if_neg h3'] at this;exact this
    . refine ⟨0,0,fun _ _ _=>0,fun _=>0,2,fun w=>?_,fun w=>?_,fun e=>absurd e (by decide)⟩
      . have:=Dl P N Q M T V f h w hT hf hV hh (by rw [if_pos h1,if_neg h2];decide)
        rw [if_pos h1,if_neg h2] at this;exact this
      . have:=Dk P N Q M T V f h w hT hf hV hh (by rw [if_pos h1,if_neg h2];decide)
        rw [if_pos h1,if_neg h2] at this;exact this
  . refine ⟨0,0,fun _ _ _=>0,fun _=>0,1,fun w=>?_,fun w=>?_,fun e=>absurd e (by decide)⟩
    . have:=Dl P N Q M T V f h w hT hf hV hh (by rw [if_neg h1];decide)
      rw [if_neg h1] at this;exact this
    . have:=Dk P N Q M T V f h w hT hf hV hh (by rw [if_neg h1];decide)
      rw [if_neg h1] at this;exact this
theorem Oi (P N Q M:Int)(T V:Nat->Nat->Nat->Nat)(f h:Nat->Nat)(hT:∀ i j k,T i j k<=255)(hf:∀ i,f i<=255)(hV:∀ i j k,V i j k<=255)(hh:∀ i,h i<=255):∃ (P3 N3:Int) (T3:Nat->Nat->Nat->Nat) (f3:Nat->Nat) (P4 N4:Int) (T4:Nat->Nat->Nat->Nat) (f4:Nat->Nat) (ea eb:Int),(∀ w,CallsR Try.prog 30 #[.agg (AD P N T f),.agg (AD Q M V h)] w (fun u _=>u = .tuple #[.agg (AD P3 N3 T3 f3),.int .i64 ea]))/\(∀ w,CallsR Try.prog 31 #[.agg (AD P N T f),.agg (AD Q M V h)] w (fun u _=>u = .tuple #[.agg (AD P3 N3 T3 f3),.int .i64 ea]))/\(∀ w,CallsR Try.prog 32 #[.agg (AD P N T f),.agg (AD Q M V h)] w (fun u _=>u = .tuple #[.agg (AD P4 N4 T4 f4),.int .i64 eb]))/\(∀ w,CallsR Try.prog 33 #[.agg (AD P N T f),.agg (AD Q M V h)] w (fun u _=>u = .tuple #[.agg (AD P4 N4 T4 f4),.int .i64 eb]))/\Ro P N Q M T V f h P3 N3 T3 f3 P4 N4 T4 f4 ea eb:=by
  obtain ⟨P3,N3,T3,f3,ea,a1,a2,a3⟩:=Oc P N Q M T V f h hT hf hV hh;obtain ⟨P4,N4,T4,f4,eb,t1,t2,t3⟩:=MB P N Q M T V f h hT hf hV hh;refine ⟨P3,N3,T3,f3,P4,N4,T4,f4,ea,eb,a1,a2,t1,t2,fun he=>?_⟩;obtain ⟨g1,g2,hPQ,k⟩:=a3 he;obtain ⟨p,n,U1,u1,G1,z1⟩:=Ic g1;obtain ⟨q,m,U2,u2,G2,z2⟩:=Ic g2;have hq:q=p:=by have:=G1.eP;have:=G2.eP;omega
  subst hq;obtain ⟨hnm,e3⟩:=k q n m U1 U2 u1 u2 G1 G2;have alg3:=Om G1 z1 G2 hnm;obtain ⟨p3,n3,W3,w3,S3⟩:=FN alg3;have ep:p3=q:=by have:=S3.eP;omega
  have en:n3=n+m:=by have:=S3.eN;omega
  subst ep;subst en;have hlt3:∀ i j k,sumT n m U1 U2 m 0 0 i j k<p3:=fun i j k=>by
    unfold sumT;split
    . exact G2.lt _ _ _
    . exact G1.lt _ _ _
  have ho3:∀ i j k,n+m<=k->sumT n m U1 U2 m 0 0 i j k=0:=fun i j k q=>by unfold sumT;rw [if_neg (by omega)];exact z1 i j k (by omega)
  have hf3:∀ i,sumF n f h m i<=255:=fun i=>by unfold sumF;split;exact hh _;exact hf i
  have hn0:=G1.hn0;have hle:=G1.hp.le;refine ⟨decide (D5 p3 n U1 f),decide (D5 p3 m U2 h),decide (D5 p3 (n+m) (sumT n m U1 U2 m 0 0) (sumF n f h m)),fun w=>?_,fun w=>?_,fun w=>?_,?_,fun w=>?_,fun hb=>?_⟩
  . rw [G1.cells];exact DK p3 n U1 f w G1.hp G1.hn0 G1.hn G1.lt G1.out hf (G1.code Cv)
  . rw [G2.cells];exact DK p3 m U2 h w G2.hp G2.hn0 G2.hn G2.lt G2.out hh (G2.code Cv)
  . rw [e3];exact DK p3 (n+m) _ _ w G1.hp (by omega) hnm hlt3 ho3 hf3 ⟨alg3,Cv⟩
  . rw [← Bool.decide_and];exact decide_eq_decide.2 (NZ G1 z1 G2 hnm)
  . rw [e3]
    have:=Br (p3:Int) ((n+m:Nat):Int) (sumT n m U1 U2 m 0 0) (sumF n f h m) w (fun i j k=>by have:=hlt3 i j k;omega) hf3;rw [decide_eq_true alg3] at this;exact this
  . obtain ⟨-,-,-,k4⟩:=t3 hb
    obtain ⟨hm6,e4⟩:=k4 p3 n m U1 U2 u1 u2 G1 G2;have alg4:=Ok G1 G2 hm6;have hlt4:∀ i j k,B6 p3 m (n*m) U1 U2 (n*m) 0 0 i j k<p3:=fun i j k=>by
      unfold B6;split
      . exact Nat.mod_lt _ G1.p0
      . exact G1.p0
    have ho4:∀ i j k,n*m<=k->B6 p3 m (n*m) U1 U2 (n*m) 0 0 i j k=0:=fun i j k q=>by unfold B6;rw [if_neg (by omega)]
    have hf4:∀ i,CE p3 m (n*m) f h i<=255:=fun i=>by
      unfold CE;split
      . have:=Nat.mod_lt (f (i / m)*h (i%m)) G1.p0;omega
      . omega
    refine ⟨decide (D5 p3 (n*m) (B6 p3 m (n*m) U1 U2 (n*m) 0 0) (CE p3 m (n*m) f h)),fun w=>?_,?_,fun w=>?_⟩
    . rw [e4];exact DK p3 (n*m) _ _ w G1.hp (Nat.mul_pos G1.hn0 G2.hn0) hm6 hlt4 ho4 hf4 ⟨alg4,Cv⟩
    . rw [← Bool.decide_and];exact decide_eq_decide.2 (NU G1 G2 hm6)
    . rw [e4]
      have:=Br (p3:Int) ((n*m:Nat):Int) (B6 p3 m (n*m) U1 U2 (n*m) 0 0) (CE p3 m (n*m) f h) w (fun i j k=>by have:=hlt4 i j k;omega) hf4;rw [decide_eq_true alg4] at this;exact this
end Go.Proofs.Ytkcneleabbjkaaa
