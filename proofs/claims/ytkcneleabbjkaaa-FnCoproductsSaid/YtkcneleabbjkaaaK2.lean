import Derived.Test.YtkcneleabbjkaaaH8
set_option linter.unusedVariables false
set_option linter.unusedSimpArgs false
namespace Go.Proofs.Ytkcneleabbjkaaa
open Go Go.RowKit Go.Sw Go.Ech
open Classical
theorem Dd:Try.prog.underlying 54=some (.slice 27):=by kernel_rfl
theorem Dv:sliceOf Try.prog 54=some 6:=by kernel_rfl
theorem CQ:∀ (v0:Nat->Nat) (w:World),(Instr.buildSlice 54 1 #[(0,.agg (AE v0))]).run Try.prog w = .ok (.slice (some ⟨w.heap.size,0,none⟩) 1 1) (w.alloc (.cells (Bh 1 (Bb [v0])) 27)):=by intros;kernel_rfl
theorem G5:∀ (v0 v1:Nat->Nat) (w:World),(Instr.buildSlice 54 2 #[(0,.agg (AE v0)),(1,.agg (AE v1))]).run Try.prog w = .ok (.slice (some ⟨w.heap.size,0,none⟩) 2 2) (w.alloc (.cells (Bh 2 (Bb [v0,v1])) 27)):=by intros;kernel_rfl
def B1 (p n:Int) (T:Nat->Nat->Nat->Nat) (f:Nat->Nat) (m:Nat) (V:Nat->Nat->Nat):Prop:=JS p n T f/\∀ i,i<m->okV p n (V i)
theorem Dm {l:List (Nat->Nat)}(h:∀ v∈l,∀ c,v c<=255):∀ i c,Bb l i c<=255:=fun i c=>by
  unfold Bb
  rw [List.getD_eq_getElem?_getD]
  cases e:l[i]? with
  | none=>simp
  | some v=>exact h v (List.mem_of_getElem? e) c
theorem I6 (p n:Int)(T:Nat->Nat->Nat->Nat)(f v:Nat->Nat)(w:World)(hv:∀ i,v i<=255) :
    CallsR Try.prog 148 #[.agg (AD p n T f),.agg (AE v)] w (fun res _=>res = .bool (decide (okV p n v))):=by
  refine AX [.agg (AD p n T f),.agg (AE v)] Try.func148 rfl Try.ntmps148 rfl fun a O=>?_;have J:AW w w [none,none] []:=MemX.start w 2;change Fr 11 a [(0,.agg (AD p n T f)),(1,.agg (AE v))] at O;refine sr<|Ag O (Aw 0 J O rfl) rfl ?_;rintro _ w' a ⟨b1,rfl,J,-⟩ O;refine Ag O (Aw 1 J O rfl) rfl ?_;rintro _ w' a ⟨b2,rfl,J,-⟩ O;change AW _ _ [some (b1,AD p n T f),some (b2,AE v)] [] at J;refine ag O rfl rfl fun a O=>ns<|st O (AB Ap O rfl) rfl fun a O=>st O (AK AQ O rfl (J.row 0 rfl) (BI (by omega))) rfl fun a O=>st O (AB AV O rfl) rfl fun a O=>st O (AK AQ O rfl (J.row 0 rfl) (Ao (by omega))) rfl fun a O=>st O (AC AT O rfl (J.row 1 rfl) (by simp only [AN]<;>omega) (whole (by simp only [AN]))) rfl fun a O=>Ag O (AP Try.call165 O (.cons rfl (.cons rfl (.cons rfl .nil))) (Di (p) (n) (v) _ (fun _=>by first | exact hv _ | exact hu _ | exact hT _ _ _ | exact hf _ | omega | (split<;>omega) | (dsimp only;split<;>omega) | assumption))) rfl ?_;rintro _ w' a ⟨hx,rfl⟩ O;have J:=J.ext hx;refine ag O rfl rfl fun a O=>nt<|wp_ret<|Av rfl O.defers (AR O rfl) ⟨_,rfl,J.below,?_⟩
  show _=_
  rfl
theorem Fl (p n:Int)(T:Nat->Nat->Nat->Nat)(f:Nat->Nat)(b c m:Nat)(V:Nat->Nat->Nat)(w:World)(hT:∀ i j k,T i j k<=255)(hf:∀ i,f i<=255)(hV:∀ i c,V i c<=255)(hm:m<1000)(hb:Blk w b (Bh m V)) :
    CallsR Try.prog 88 #[.agg (AD p n T f),.slice (some ⟨b,0,none⟩) m c] w (fun res _=>res = .int .i64 (if B1 p n T f m V then 0 else 1)):=by
  refine AX [.agg (AD p n T f),.slice (some ⟨b,0,none⟩) m c] Try.func88 rfl Try.ntmps88 rfl fun a O=>?_;have J:AW w w [none] [(b,Bh m V)]:=MemX.startD w 1 _ (Ct hb);change Fr 22 a [(0,.agg (AD p n T f)),(1,.slice (some ⟨b,0,none⟩) m c)] at O;refine sr<|Ag O (Aw 0 J O rfl) rfl ?_;rintro _ w' a ⟨b1,rfl,J,-⟩ O;change AW _ _ [some (b1,AD p n T f)] _ at J;refine ag O rfl rfl fun a O=>nt<|sq<|sr<|st O (AC AM O rfl (J.row 0 rfl) (by simp only [AN]<;>omega) (whole AH)) rfl fun a O=>Ag O (AP Try.call95 O (.cons rfl .nil) (FS p n T f _ (fun _ _ _=>hT _ _ _) (fun _=>hf _))) rfl ?_;rintro _ w' a ⟨hx,rfl⟩ O;have J:=J.ext hx;refine st O (Cd O rfl) rfl fun a O=>nt<|AO O rfl (fun h2=>?_) (fun h2=>?_)
  . refine sq ?_
    refine wp_region_lit<|ag O rfl rfl fun a O=>nt<|wp_ret<|tR<|Av rfl O.defers (AR O rfl) ⟨_,rfl,J.below,?_⟩
    show _=_
    rw [if_neg (fun hq=>(by assumption:¬ JS _ _ _ _) hq.1)]
  refine wp_skip<|tN<|sq<|sr<|ag O rfl rfl fun a O=>nt<|wp_block ?_;change AW w _ [some (b1,AD p n T f)] [(b,Bh m V)] at J;refine Ai (fun (kk:Nat) a w'=>kk<=m/\(∀ i,i<kk->okV p n (V i))/\Fr 22 a [(1,.slice (some ⟨b,0,none⟩) m c),(2,ptr b1 (0)),(8,.bool (decide (¬ (JS p n T f)))),(5,.int .i64 (kk:Int))]/\AW w w' [some (b1,AD p n T f)] [(b,Bh m V)]) (fun kk=>m - kk) 0 ?_ ?_
  . refine ⟨by omega,fun i hi=>absurd hi (by omega),O.sub _ (by repeat' constructor),?_⟩
    exact J
  clear O J;rintro gi a w' ⟨hJ,hH,O,J⟩;have hv:∀ c,V gi c<=255:=hV gi;refine sq<|sr<|mv O rfl rfl fun a O=>mv O rfl rfl fun a O=>st O (Ba Dd O rfl) rfl fun a O=>st O (Am O rfl rfl) rfl fun a O=>nt<|AO O rfl (fun h3=>?_) (fun h3=>?_)
  . refine wp_skip ?_
    refine tN<|sq<|wp_block<|sq<|BD 5 [] [.val (.agg (AD p n T f)),.val (.slice (some ⟨b,0,none⟩) m c),.val (.int .i64 (gi:Int)),.val (ptr b (0+(gi)*6)),.val (.agg (AE (V (gi))))] BS rfl O rfl J ⟨fun a w gG O hS hd=>by have J:=hS.mem rfl;exact AA hS rfl (AC AM O rfl (J.row 0 rfl) (by simp only [AN]<;>omega) (whole AH)),fun a w gG O hS hd=>by exact A7 hS rfl O rfl,fun a w gG O hS hd=>by exact A7 hS rfl O rfl,fun a w gG O hS hd=>by have O:=O.ext1 16 (hd 1 rfl rfl);have O:=O.ext1 17 (hd 2 rfl rfl);exact AA hS rfl (AS (i:=gi) Dv O rfl rfl rfl (by omega)),fun a w gG O hS hd=>by have O:=O.ext1 18 (hd 3 rfl rfl);have J:=hS.mem rfl;exact AA hS rfl (AC AT O rfl (J.fz 0 rfl) (by rw [HY];omega) (IF (gi) (by omega) (by omega) (by omega))),trivial⟩ ?_;intro a w' L O hS hq;have O:=O.ext1 15 (hq 0 rfl rfl);have O:=O.ext1 16 (hq 1 rfl rfl);have O:=O.ext1 17 (hq 2 rfl rfl);have O:=O.ext1 18 (hq 3 rfl rfl);have O:=O.ext1 19 (hq 4 rfl rfl);have J:=hS.mem rfl;change wpList Try.prog _ _ [_,_] _ _;refine Ag O (AP Try.call148 O (.cons rfl (.cons rfl .nil)) (I6 p n T f (V (gi)) _ (fun _=>by first | exact hv _ | exact hu _ | exact hT _ _ _ | exact hf _ | omega | (split<;>omega) | (dsimp only;split<;>omega) | assumption))) rfl ?_;rintro _ w' a ⟨hx,rfl⟩ O;have J:=J.ext hx;refine st O (Cd O rfl) rfl fun a O=>nt<|AO O rfl (fun h4=>?_) (fun h4=>?_)
    . refine sq ?_
      refine wp_region_lit<|ag O rfl rfl fun a O=>nt<|wp_ret<|iR<|tR<|tR<|iR<|tR<|Av rfl O.defers (AR O rfl) ⟨_,rfl,J.below,?_⟩
      show _=_
      rw [if_neg (fun hq=>(by assumption:¬ okV _ _ _) (hq.2 gi (by omega)))]
    refine wp_skip<|iN<|tN<|wp_region_lit<|mv O rfl rfl fun a O=>st O (Ad O rfl rfl (AU (gi) (1) (by omega))) rfl fun a O=>ag O rfl rfl fun a O=>nt<|⟨gi+1,⟨by omega,EJ hH (Decidable.not_not.1 (by assumption)),O.sub _ (by repeat' constructor),?_⟩,by omega⟩;exact J
  obtain rfl:m=gi:=by omega
  refine wp_exit<|tX<|tX<|AZ<|tN<|sr<|ag O rfl rfl fun a O=>nt<|wp_ret<|Av rfl O.defers (AR O rfl) ⟨_,rfl,J.below,?_⟩
  show _=_
  rw [if_pos ⟨Decidable.not_not.1 (by assumption),hH⟩]
theorem Gu (p n:Int)(T:Nat->Nat->Nat->Nat)(f:Nat->Nat)(V:Nat->Nat->Nat)(w:World)(hT:∀ i j k,T i j k<=255)(hf:∀ i,f i<=255) :
    CallsR Try.prog 88 #[.agg (AD p n T f),.slice none 0 0] w (fun res _=>res = .int .i64 (if B1 p n T f 0 V then 0 else 1)):=by
  refine AX [.agg (AD p n T f),.slice none 0 0] Try.func88 rfl Try.ntmps88 rfl fun a O=>?_;have J:AW w w [none] []:=MemX.start w 1;change Fr 22 a [(0,.agg (AD p n T f)),(1,.slice none 0 0)] at O;refine sr<|Ag O (Aw 0 J O rfl) rfl ?_;rintro _ w' a ⟨b1,rfl,J,-⟩ O;change AW _ _ [some (b1,AD p n T f)] [] at J;refine ag O rfl rfl fun a O=>nt<|sq<|sr<|st O (AC AM O rfl (J.row 0 rfl) (by simp only [AN]<;>omega) (whole AH)) rfl fun a O=>Ag O (AP Try.call95 O (.cons rfl .nil) (FS p n T f _ (fun _ _ _=>hT _ _ _) (fun _=>hf _))) rfl ?_;rintro _ w' a ⟨hx,rfl⟩ O;have J:=J.ext hx;refine st O (Cd O rfl) rfl fun a O=>nt<|AO O rfl (fun h2=>?_) (fun h2=>?_)
  . refine sq ?_
    refine wp_region_lit<|ag O rfl rfl fun a O=>nt<|wp_ret<|tR<|Av rfl O.defers (AR O rfl) ⟨_,rfl,J.below,?_⟩
    show _=_
    rw [if_neg (fun hq=>(by assumption:¬ JS _ _ _ _) hq.1)]
  refine wp_skip<|tN<|sq<|sr<|ag O rfl rfl fun a O=>nt<|wp_block ?_;change AW w _ [some (b1,AD p n T f)] [] at J;refine Ai (fun (kk:Nat) a w'=>kk<=0/\(True)/\Fr 22 a [(1,.slice none 0 0),(2,ptr b1 (0)),(8,.bool (decide (¬ (JS p n T f)))),(5,.int .i64 (kk:Int))]/\AW w w' [some (b1,AD p n T f)] []) (fun kk=>0 - kk) 0 ?_ ?_
  . refine ⟨by omega,trivial,O.sub _ (by repeat' constructor),?_⟩
    exact J
  clear O J;rintro gi a w' ⟨hJ,hH,O,J⟩;refine sq<|sr<|mv O rfl rfl fun a O=>mv O rfl rfl fun a O=>st O (Gw Dd O rfl) rfl fun a O=>st O (Am O rfl rfl) rfl fun a O=>nt<|AO O rfl (fun h3=>?_) (fun h3=>?_)
  . exfalso;omega
  obtain rfl:0=gi:=by omega
  refine wp_exit<|tX<|tX<|AZ<|tN<|sr<|ag O rfl rfl fun a O=>nt<|wp_ret<|Av rfl O.defers (AR O rfl) ⟨_,rfl,J.below,?_⟩
  show _=_
  rw [if_pos ⟨Decidable.not_not.1 (by assumption),fun i hi=>absurd hi (by omega)⟩]
theorem Ck (p n:Int)(T:Nat->Nat->Nat->Nat)(f:Nat->Nat)(b c m:Nat)(V:Nat->Nat->Nat)(w:World)(hT:∀ i j k,T i j k<=255)(hf:∀ i,f i<=255)(hV:∀ i c,V i c<=255)(hm:m<1000)(hb:Blk w b (Bh m V)) :
    CallsR Try.prog 86 #[.agg (AD p n T f),.slice (some ⟨b,0,none⟩) m c] w (fun res _=>res = .bool (decide (B1 p n T f m V))):=by
  refine AX [.agg (AD p n T f),.slice (some ⟨b,0,none⟩) m c] Try.func86 rfl Try.ntmps86 rfl fun a O=>?_;have J:AW w w [none,none] [(b,Bh m V)]:=MemX.startD w 2 _ (Ct hb);change Fr 20 a [(0,.agg (AD p n T f)),(1,.slice (some ⟨b,0,none⟩) m c)] at O;refine sr<|Ag O (Aw 0 J O rfl) rfl ?_;rintro _ w' a ⟨b1,rfl,J,-⟩ O;refine ag O rfl rfl fun a O=>nt<|sq<|sr<|mv O rfl rfl fun a O=>st O (Ba Dd O rfl) rfl fun a O=>mv O rfl rfl fun a O=>nt<|wp_block ?_;change AW _ _ [some (b1,AD p n T f),_] _ at J;refine Ai (fun (kk:Nat) a w'=>kk<=m/\(∀ i,i<kk->okV p n (V i))/\Fr 20 a [(2,ptr b1 (0)),(7,.slice (some ⟨b,0,none⟩) m c),(8,.int .i64 (m:Int)),(9,.int .i64 (kk:Int))]/\AW w w' [some (b1,AD p n T f),none] [(b,Bh m V)]) (fun kk=>m - kk) 0 ?_ ?_
  . refine ⟨by omega,fun i hi=>absurd hi (by omega),O.sub _ (by repeat' constructor),?_⟩
    exact J
  clear O J;rintro gi a w' ⟨hJ,hH,O,J⟩;have hv:∀ c,V gi c<=255:=hV gi;refine sr<|st O (Am O rfl rfl) rfl fun a O=>nt<|sq<|AO O rfl (fun h2=>?_) (fun h2=>?_)
  . refine wp_skip ?_
    refine tN<|sq<|wp_block<|sr<|st O (AS (i:=gi) Dv O rfl rfl rfl (by omega)) rfl fun a O=>st O (AC AT O rfl (J.fz 0 rfl) (by rw [HY];omega) (IF (gi) (by omega) (by omega) (by omega))) rfl fun a O=>Ag O (Aa 1 J Ae) rfl ?_;rintro _ w' a ⟨b3,rfl,J,-⟩ O;change AW _ _ [_,some (b3,Ak 6 (fun _=>.int .u8 (0)))] _ at J;refine BC O (AI 1 J rfl Ab O rfl rfl AY (by simp only [AN]) (by simp only [AN]<;>omega) (AF _ _ (by simp only [AN]))) ?_;intro _ w' a J O;change AW _ _ [_,some (b3,AE (V (gi)))] _ at J;refine ns<|st O (AC AM O rfl (J.row 0 rfl) (by simp only [AN]<;>omega) (whole AH)) rfl fun a O=>st O (AC AT O rfl (J.row 1 rfl) (by simp only [AN]<;>omega) (whole (by simp only [AN]))) rfl fun a O=>Ag O (AP Try.call91 O (.cons rfl (.cons rfl .nil)) (DD p n T f ((V (gi))) _ (fun _=>by first | exact hv _ | exact hu _ | exact hT _ _ _ | exact hf _ | omega | (split<;>omega) | (dsimp only;split<;>omega) | assumption))) rfl ?_;rintro _ w' a ⟨hx,rfl⟩ O;have J:=J.ext hx;refine st O (Cd O rfl) rfl fun a O=>nt<|AO O rfl (fun h4=>?_) (fun h4=>?_)
    . refine sq ?_
      refine wp_region_lit<|ag O rfl rfl fun a O=>nt<|wp_ret<|iR<|tR<|tR<|iR<|tR<|Av rfl O.defers (AR O rfl) ⟨_,rfl,J.below,?_⟩
      show _=_
      exact Cf (fun hq=>(by assumption:¬ okV _ _ _) (hq.2 gi (by omega)))
    refine wp_skip<|iN<|tN<|wp_region_lit<|st O (Ad O rfl rfl (AU (gi) (1) (by omega))) rfl fun a O=>mv O rfl rfl fun a O=>wpList_nil<|tN ?_;have J:=J.drop 1;refine ⟨gi+1,⟨by omega,EJ hH (Decidable.not_not.1 (by assumption)),O.sub _ (by repeat' constructor),?_⟩,by omega⟩;exact J
  obtain rfl:m=gi:=by omega
  refine wp_exit<|tX<|tX<|AZ<|tN<|sr<|st O (AC AM O rfl (J.row 0 rfl) (by simp only [AN]<;>omega) (whole AH)) rfl fun a O=>Ag O (AP Try.call12 O (.cons rfl .nil) (EK p n T f _ (fun _ _ _=>hT _ _ _) (fun _=>hf _))) rfl ?_;rintro _ w' a ⟨hx,rfl⟩ O;have J:=J.ext hx;refine ag O rfl rfl fun a O=>nt<|wp_ret<|Av rfl O.defers (AR O rfl) ⟨_,rfl,J.below,?_⟩
  show _=_
  exact congrArg Value.bool (decide_eq_decide.2 ⟨fun h=>⟨h,hH⟩,fun h=>h.1⟩)
theorem Eg (p n:Int)(T:Nat->Nat->Nat->Nat)(f:Nat->Nat)(V:Nat->Nat->Nat)(w:World)(hT:∀ i j k,T i j k<=255)(hf:∀ i,f i<=255) :
    CallsR Try.prog 86 #[.agg (AD p n T f),.slice none 0 0] w (fun res _=>res = .bool (decide (B1 p n T f 0 V))):=by
  refine AX [.agg (AD p n T f),.slice none 0 0] Try.func86 rfl Try.ntmps86 rfl fun a O=>?_;have J:AW w w [none,none] []:=MemX.start w 2;change Fr 20 a [(0,.agg (AD p n T f)),(1,.slice none 0 0)] at O;refine sr<|Ag O (Aw 0 J O rfl) rfl ?_;rintro _ w' a ⟨b1,rfl,J,-⟩ O;refine ag O rfl rfl fun a O=>nt<|sq<|sr<|mv O rfl rfl fun a O=>st O (Gw Dd O rfl) rfl fun a O=>mv O rfl rfl fun a O=>nt<|wp_block ?_;change AW _ _ [some (b1,AD p n T f),_] [] at J;refine Ai (fun (kk:Nat) a w'=>kk<=0/\(True)/\Fr 20 a [(2,ptr b1 (0)),(7,.slice none 0 0),(8,.int .i64 (0)),(9,.int .i64 (kk:Int))]/\AW w w' [some (b1,AD p n T f),none] []) (fun kk=>0 - kk) 0 ?_ ?_
  . refine ⟨by omega,trivial,O.sub _ (by repeat' constructor),?_⟩
    exact J
  clear O J;rintro gi a w' ⟨hJ,hH,O,J⟩;refine sr<|st O (Am O rfl rfl) rfl fun a O=>nt<|sq<|AO O rfl (fun h2=>?_) (fun h2=>?_)
  . exfalso;omega
  obtain rfl:0=gi:=by omega
  refine wp_exit<|tX<|tX<|AZ<|tN<|sr<|st O (AC AM O rfl (J.row 0 rfl) (by simp only [AN]<;>omega) (whole AH)) rfl fun a O=>Ag O (AP Try.call12 O (.cons rfl .nil) (EK p n T f _ (fun _ _ _=>hT _ _ _) (fun _=>hf _))) rfl ?_;rintro _ w' a ⟨hx,rfl⟩ O;have J:=J.ext hx;refine ag O rfl rfl fun a O=>nt<|wp_ret<|Av rfl O.defers (AR O rfl) ⟨_,rfl,J.below,?_⟩
  show _=_
  exact congrArg Value.bool (decide_eq_decide.2 ⟨fun h=>⟨h,fun i hi=>absurd hi (by omega)⟩,fun h=>h.1⟩)
theorem NO (p n:Nat)(T:Nat->Nat->Nat->Nat)(f:Nat->Nat)(v:Nat->Nat)(w:World)(hp:primeN p)(hn0:0<n)(hn:n<=6)(hO:∀ i j k,T i j k<p)(hT0:∀ i j k,n<=k->T i j k=0)(hf:∀ i,f i<=255)(hv:∀ i,v i<=255)(hc:B1 (p:Int) (n:Int) T f 1 (Bb [v])) :
    CallsR Try.prog 27 #[.agg (AD (p:Int) (n:Int) T f),.agg (AE v)] w (fun res _=>res = .tuple #[.int .i64 ((sumTo (fun i=>v i*f i) 6%p:Nat):Int),.int .i64 0]):=by
  refine AX [.agg (AD (p:Int) (n:Int) T f),.agg (AE v)] Try.func27 rfl Try.ntmps27 rfl fun a O=>?_;have J:AW w w [none,none,none] []:=MemX.start w 3;change Fr 14 a [(0,.agg (AD (p:Int) (n:Int) T f)),(1,.agg (AE v))] at O;have hp2:=hp.two;have hp13:=hp.le;have hT:∀ i j k,T i j k<=255:=fun i j k=>by have:=hO i j k;omega
  have hVb:∀ i c,Bb [v] i c<=255:=Dm (fun x hx=>by simp at hx;subst hx<;>assumption);refine sr<|Ag O (Aw 0 J O rfl) rfl ?_;rintro _ w' a ⟨b1,rfl,J,-⟩ O;refine Ag O (Aw 1 J O rfl) rfl ?_;rintro _ w' a ⟨b2,rfl,J,-⟩ O;change AW _ _ [some (b1,AD (p:Int) (n:Int) T f),some (b2,AE v),_] [] at J;refine ag O rfl rfl fun a O=>ag O rfl rfl fun a O=>nt<|sq<|sr<|st O (AC AM O rfl (J.row 0 rfl) (by simp only [AN]<;>omega) (whole AH)) rfl fun a O=>st O (AC AT O rfl (J.row 1 rfl) (by simp only [AN]<;>omega) (whole (by simp only [AN]))) rfl fun a O=>Ag O (At (vs:=[(0,.agg (AE v))]) 2 J O (Bf O rfl) (fun w=>CQ v w)) rfl ?_;rintro _ w' a ⟨b3,rfl,J,-⟩ O;change AW _ _ [_,_,some (b3,Bh 1 (Bb [v]))] [] at J;refine Ag O (AP Try.call86 O (.cons rfl (.cons rfl .nil)) ((CallsR.val (Ck (p:Int) (n:Int) T f b3 1 1 (Bb [v]) _ (fun _ _ _=>hT _ _ _) (fun _=>hf _) hVb (by omega) (J.row 2 rfl)) (congrArg Value.bool (decide_eq_true hc))))) rfl ?_;rintro _ w' a ⟨hx,rfl⟩ O;have J:=J.ext hx;refine st O (CN (b:=true) O rfl) rfl fun a O=>nt<|DS O rfl<|wp_skip<|tN<|sr<|st O (AC AM O rfl (J.row 0 rfl) (by simp only [AN]<;>omega) (whole AH)) rfl fun a O=>st O (AC AT O rfl (J.row 1 rfl) (by simp only [AN]<;>omega) (whole (by simp only [AN]))) rfl fun a O=>Ag O (AP Try.call106 O (.cons rfl (.cons rfl .nil)) (LR p n T f (v) _ (by omega) (fun _=>by first | exact hv _ | exact hu _ | exact hT _ _ _ | exact hf _ | omega | (split<;>omega) | (dsimp only;split<;>omega) | assumption) (fun _=>by first | exact hv _ | exact hu _ | exact hT _ _ _ | exact hf _ | omega | (split<;>omega) | (dsimp only;split<;>omega) | assumption))) rfl ?_;rintro _ w' a ⟨hx,rfl⟩ O;have J:=J.ext hx;refine ag O rfl rfl fun a O=>ag O rfl rfl fun a O=>nt<|wp_ret<|Cp rfl O.defers (AR O rfl) (AR O rfl) ⟨_,rfl,J.below,?_⟩
  show _=_
  rfl
theorem GW (p n:Nat)(T:Nat->Nat->Nat->Nat)(f:Nat->Nat)(v:Nat->Nat)(u:Nat->Nat)(w:World)(hp:primeN p)(hn0:0<n)(hn:n<=6)(hO:∀ i j k,T i j k<p)(hT0:∀ i j k,n<=k->T i j k=0)(hf:∀ i,f i<=255)(hv:∀ i,v i<=255)(hu:∀ i,u i<=255)(hc:B1 (p:Int) (n:Int) T f 2 (Bb [v,u])) :
    CallsR Try.prog 10 #[.agg (AD (p:Int) (n:Int) T f),.agg (AE v),.agg (AE u)] w (fun res _=>res = .tuple #[.agg (AE (timesV p n T v u)),.int .i64 0]):=by
  refine AX [.agg (AD (p:Int) (n:Int) T f),.agg (AE v),.agg (AE u)] Try.func10 rfl Try.ntmps10 rfl fun a O=>?_;have J:AW w w [none,none,none,none,none] []:=MemX.start w 5;change Fr 19 a [(0,.agg (AD (p:Int) (n:Int) T f)),(1,.agg (AE v)),(2,.agg (AE u))] at O;have hp2:=hp.two;have hp13:=hp.le;have hT:∀ i j k,T i j k<=255:=fun i j k=>by have:=hO i j k;omega
  have hVb:∀ i c,Bb [v,u] i c<=255:=Dm (fun x hx=>by simp at hx;rcases hx with rfl | rfl<;>assumption);refine sr<|Ag O (Aw 0 J O rfl) rfl ?_;rintro _ w' a ⟨b1,rfl,J,-⟩ O;refine Ag O (Aw 1 J O rfl) rfl ?_;rintro _ w' a ⟨b2,rfl,J,-⟩ O;refine Ag O (Aw 2 J O rfl) rfl ?_;rintro _ w' a ⟨b3,rfl,J,-⟩ O;refine Ag O (Aa 3 J Ae) rfl ?_;rintro _ w' a ⟨b4,rfl,J,-⟩ O;change AW _ _ [some (b1,AD (p:Int) (n:Int) T f),some (b2,AE v),some (b3,AE u),some (b4,Ak 6 (fun _=>.int .u8 (0))),_] [] at J;refine ag O rfl rfl fun a O=>nt<|sq<|sr<|st O (AC AM O rfl (J.row 0 rfl) (by simp only [AN]<;>omega) (whole AH)) rfl fun a O=>st O (AC AT O rfl (J.row 1 rfl) (by simp only [AN]<;>omega) (whole (by simp only [AN]))) rfl fun a O=>st O (AC AT O rfl (J.row 2 rfl) (by simp only [AN]<;>omega) (whole (by simp only [AN]))) rfl fun a O=>Ag O (At (vs:=[(0,.agg (AE v)),(1,.agg (AE u))]) 4 J O (JN O rfl rfl) (fun w=>G5 v u w)) rfl ?_;rintro _ w' a ⟨b5,rfl,J,-⟩ O;change AW _ _ [_,_,_,_,some (b5,Bh 2 (Bb [v,u]))] [] at J;refine Ag O (AP Try.call86 O (.cons rfl (.cons rfl .nil)) ((CallsR.val (Ck (p:Int) (n:Int) T f b5 2 2 (Bb [v,u]) _ (fun _ _ _=>hT _ _ _) (fun _=>hf _) hVb (by omega) (J.row 4 rfl)) (congrArg Value.bool (decide_eq_true hc))))) rfl ?_;rintro _ w' a ⟨hx,rfl⟩ O;have J:=J.ext hx;refine st O (CN (b:=true) O rfl) rfl fun a O=>nt<|DS O rfl<|wp_skip<|tN<|sr<|st O (AC AM O rfl (J.row 0 rfl) (by simp only [AN]<;>omega) (whole AH)) rfl fun a O=>st O (AC AT O rfl (J.row 1 rfl) (by simp only [AN]<;>omega) (whole (by simp only [AN]))) rfl fun a O=>st O (AC AT O rfl (J.row 2 rfl) (by simp only [AN]<;>omega) (whole (by simp only [AN]))) rfl fun a O=>Ag O (AP Try.call87 O (.cons rfl (.cons rfl (.cons rfl .nil))) (C7 p n T f (v) (u) _ (by omega) (by omega) (by omega) (fun _ _ _=>hT _ _ _) (fun _=>by first | exact hv _ | exact hu _ | exact hT _ _ _ | exact hf _ | omega | (split<;>omega) | (dsimp only;split<;>omega) | assumption) (fun _=>by first | exact hv _ | exact hu _ | exact hT _ _ _ | exact hf _ | omega | (split<;>omega) | (dsimp only;split<;>omega) | assumption))) rfl ?_;rintro _ w' a ⟨hx,rfl⟩ O;have J:=J.ext hx;refine BC O (AI 3 J rfl Ab O rfl rfl AY (by simp only [AN]) (by simp only [AN]<;>omega) (AF _ _ (by simp only [AN]))) ?_;intro _ w' a J O;change AW _ _ [_,_,_,some (b4,AE (timesV p n T (v) (u))),_] [] at J;refine ag O rfl rfl fun a O=>nt<|wp_ret<|Cp rfl O.defers (Ay AT O rfl (J.row 3 rfl) (by simp only [AN])) (AR O rfl) ⟨_,rfl,J.below,?_⟩
  show _=_
  rfl
theorem KL {n:Nat}{T:Nat->Nat->Nat->Nat}:trunc n (trunc n T)=trunc n T:=by
  funext i j k
  unfold trunc
  by_cases h:i<n/\j<n/\k<n
  . rw [if_pos h,if_pos h]
  . rw [if_neg h,if_neg h]
end Go.Proofs.Ytkcneleabbjkaaa
