import Derived.Test.YtkcneleabbjkaaaH6
set_option linter.unusedVariables false
set_option linter.unusedSimpArgs false
namespace Go.Proofs.Ytkcneleabbjkaaa
open Go Go.RowKit Go.Sw Go.Ech
def bE (i:Nat):Nat->Nat:=fun x=>if x=i then 1 else 0
def JE (p n:Nat) (T:Nat->Nat->Nat->Nat) (r:Nat):Nat->Nat:=Fa p n T (bE (r / (2*n))) (bE (r / (2*n))) n (r%(2*n))
theorem Ms {p n i k:Nat}{T:Nat->Nat->Nat->Nat}(hk:k<2*n):JE p n T (i*(2*n)+k)=Fa p n T (bE i) (bE i) n k:=by
  have e1:(i*(2*n)+k) / (2*n)=i:=by rw [Nat.mul_comm,Nat.mul_add_div (by omega),Nat.div_eq_of_lt hk];omega
  have e2:(i*(2*n)+k)%(2*n)=k:=by rw [Nat.mul_comm,Nat.mul_add_mod,Nat.mod_eq_of_lt hk]
  unfold JE;rw [e1,e2]
theorem OZ {p n g:Nat}{T:Nat->Nat->Nat->Nat}{bb cc:Nat->Nat}(hp:0<p)(hcc:∀ i,cc i<p):∀ r c,Fa p n T bb cc g r c<p:=fun r c=>by
  unfold Fa timesV
  split
  . split<;>exact Nat.mod_lt _ hp
  . split
    . exact hcc _
    . exact hp
theorem Qk {p i:Nat}(hp:2<=p):∀ c,bE i c<p:=fun c=>by unfold bE;split<;>omega
theorem JP {p n a i k:Nat}{T:Nat->Nat->Nat->Nat}(ha:a<n)(hi:i<n)(hT:T a i k<p):timesV p n T (fun x=>if x=a then 1 else 0) (bE i) k=T a i k:=by
  unfold timesV
  have e:(prodI T (fun x=>if x=a then 1 else 0) (bE i) n n k:Int)=(T a i k:Int):=by
    rw [E1 ha,Cs hi]
    . simp [bE]
    . intro j _ hne;simp [bE,hne]
  rw [show prodI T (fun x=>if x=a then 1 else 0) (bE i) n n k=T a i k by omega];exact Nat.mod_eq_of_lt hT
theorem KN {p n r:Nat}{T:Nat->Nat->Nat->Nat}{bb cc x:Nat->Nat}(hn:n<=6) :
    dot 7 (ci (Fa p n T bb cc n r)) (Fv 6 x)=sI (fun a=>(x a:Int)*((if r<n then timesV p n T (fun x=>if x=a then 1 else 0) bb r else timesV p n T bb (fun x=>if x=a then 1 else 0) (r - n):Nat):Int)) n - (cc (r%n):Int):=by
  have e:dot 7 (ci (Fa p n T bb cc n r)) (Fv 6 x)=sI (fun c=>ci (Fa p n T bb cc n r) c*Fv 6 x c) 6+ci (Fa p n T bb cc n r) 6*Fv 6 x 6:=rfl;rw [e,HN hn (fun c h1 h2=>by simp only [ci,Fa];rw [if_neg (by omega),if_neg (by omega)];simp)];have e1:sI (fun c=>ci (Fa p n T bb cc n r) c*Fv 6 x c) n=sI (fun a=>(x a:Int)*((if r<n then timesV p n T (fun x=>if x=a then 1 else 0) bb r else timesV p n T bb (fun x=>if x=a then 1 else 0) (r - n):Nat):Int)) n:=Ao fun c hc=>by
    rw [GU (by omega)];simp only [ci,Fa,if_pos hc];exact Int.mul_comm _ _
  have e2:ci (Fa p n T bb cc n r) 6=(cc (r%n):Int):=by simp only [ci,Fa];rw [if_neg (by omega)];simp
  rw [e1,e2,Gz];omega
theorem KM {p n:Nat}{T:Nat->Nat->Nat->Nat}{bb cc x:Nat->Nat}(hn0:0<n)(hn:n<=6):Ker p 7 (Fa p n T bb cc n) (2*n) (Fv 6 x) ↔
    (∀ k,k<n->(p:Int)∣sI (fun a=>(x a:Int)*(timesV p n T (fun x=>if x=a then 1 else 0) bb k:Int)) n - (cc k:Int))/\(∀ k,k<n->(p:Int)∣sI (fun a=>(x a:Int)*(timesV p n T bb (fun x=>if x=a then 1 else 0) k:Int)) n - (cc k:Int)):=by
  constructor
  . intro h
    refine ⟨fun k hk=>?_,fun k hk=>?_⟩
    . have:=h k (by omega);rw [KN hn,Nat.mod_eq_of_lt hk] at this;simpa only [if_pos hk] using this
    . have:=h (n+k) (by omega);rw [KN hn,Nat.add_mod_left,Nat.mod_eq_of_lt hk] at this;simpa only [if_neg (show ¬ n+k<n by omega),Nat.add_sub_cancel_left] using this
  . intro h r hr
    rw [KN hn]
    by_cases e:r<n
    . rw [Nat.mod_eq_of_lt e];simp only [if_pos e];exact h.1 r e
    . have em:r%n=r - n:=by rw [Nat.mod_eq_sub_mod (by omega),Nat.mod_eq_of_lt (by omega)]
      rw [em];simp only [if_neg e];exact h.2 (r - n) (by omega)
theorem Ld {p n:Nat}{T:Nat->Nat->Nat->Nat}{x:Nat->Nat}(hp:2<=p)(hn0:0<n)(hn:n<=6)(hT:∀ i j k,T i j k<p):Ker p 7 (JE p n T) (n*(2*n)) (Fv 6 x) ↔
    (∀ i,i<n->∀ c,c<n->(p:Int)∣sI (fun a=>(x a:Int)*(T a i c:Int)) n - (dl i c:Int))/\(∀ i,i<n->∀ c,c<n->(p:Int)∣sI (fun b=>(x b:Int)*(T i b c:Int)) n - (dl i c:Int)):=by
  have key:∀ i,i<n->(Ker p 7 (Fa p n T (bE i) (bE i) n) (2*n) (Fv 6 x)↔(∀ c,c<n->(p:Int)∣sI (fun a=>(x a:Int)*(T a i c:Int)) n - (dl i c:Int))/\(∀ c,c<n->(p:Int)∣sI (fun b=>(x b:Int)*(T i b c:Int)) n - (dl i c:Int))):=by
    intro i hi;rw [KM hn0 hn];have eb:∀ c,bE i c=dl i c:=fun c=>Mn;refine and_congr (forall_congr' fun c=>imp_congr_right fun hc=>?_) (forall_congr' fun c=>imp_congr_right fun hc=>?_)
    . rw [eb,Ao (g:=fun a=>(x a:Int)*(T a i c:Int)) (fun a ha=>by rw [JP ha hi (hT _ _ _)])]
    . rw [eb,Ao (g:=fun b=>(x b:Int)*(T i b c:Int)) (fun b hb=>by rw [show timesV p n T (bE i) (fun x=>if x=b then 1 else 0) c=T i b c from JP (i:=b) hi hb (hT _ _ _)])]
  constructor
  . intro h
    have hh:∀ i,i<n->Ker p 7 (Fa p n T (bE i) (bE i) n) (2*n) (Fv 6 x):=fun i hi k hk=>by
      have hlt:i*(2*n)+k<n*(2*n):=by
        have h1:(i+1)*(2*n)<=n*(2*n):=Nat.mul_le_mul_right _ hi;have h2:(i+1)*(2*n)=i*(2*n)+2*n:=Nat.succ_mul i _
        omega
      have:=h (i*(2*n)+k) hlt
      rwa [Ms hk] at this
    exact ⟨fun i hi=>((key i hi).1 (hh i hi)).1,fun i hi=>((key i hi).1 (hh i hi)).2⟩
  . intro h r hr
    have hi:r / (2*n)<n:=(Nat.div_lt_iff_lt_mul (by omega)).2 hr;exact (key _ hi).2 ⟨h.1 _ hi,h.2 _ hi⟩ _ (Nat.mod_lt _ (by omega))
theorem Nb {p n r c:Nat}{T:Nat->Nat->Nat->Nat}(h1:n<=c)(h2:c<6):JE p n T r c=0:=by
  unfold JE Fa;rw [if_neg (by omega),if_neg (by omega)]
theorem NZ {p n k:Nat}{E:Nat->Nat->Nat}{ld:Nat->Nat}{T:Nat->Nat->Nat->Nat}(hp:2<=p)(hn0:0<n)(hn:n<=6)(hT:∀ i j k,T i j k<p)(hE1:∀ i c,E i c<p)(h:Rref p 7 E k ld)(hK:∀ x,Ker p 7 E k x↔Ker p 7 (JE p n T) (n*(2*n)) x)(hl:¬ DW k ld 6) :
    UnitI p n T (fun c=>solK E ld 6 k c):=by
  have h1:=(Ld hp hn0 hn hT).1 ((hK _).1 (MU h hl));refine ⟨fun c=>MV (k:=k) (by omega) hE1 (p:=p) (N:=7),fun c hc=>?_,h1.1,h1.2⟩;refine K4 fun hlc=>?_;obtain ⟨j,hj,e⟩:=hlc;have h3:=h.lt j hj
  by_cases e6:c=6
  . exact hl ⟨j,hj,by omega⟩
  . exact Gh hp h hK (c:=c) (by omega) (fun i _=>Nb hc (by omega)) ⟨j,hj,e⟩
theorem OU {p n k:Nat}{E:Nat->Nat->Nat}{ld:Nat->Nat}{T:Nat->Nat->Nat->Nat}(hp:2<=p)(hn0:0<n)(hn:n<=6)(hT:∀ i j k,T i j k<p)(h:Rref p 7 E k ld)(hK:∀ x,Ker p 7 E k x↔Ker p 7 (JE p n T) (n*(2*n)) x)(hl:DW k ld 6)(u:Nat->Nat):¬ UnitI p n T u:=
  fun hu=>OA hp h hl ((hK _).2 ((Ld hp hn0 hn hT).2 ⟨hu.right,hu.left⟩))
theorem Hu (p n:Nat)(T:Nat->Nat->Nat->Nat)(f:Nat->Nat)(w:World)(hp:primeN p)(hn0:0<n)(hn:n<=6)(hJ:∀ i j k,T i j k<p) :
    CallsR Try.prog 94 #[.agg (AB (p:Int) (n:Int) T f)] w (fun res _=>(∃ u,UnitI p n T u/\res = .tuple #[.agg (AG u),.bool true])\/((∀ u,¬ UnitI p n T u)/\res = .tuple #[.agg (AG (fun _=>0)),.bool false])):=by
  refine AS [.agg (AB (p:Int) (n:Int) T f)] Try.func94 rfl Try.ntmps94 rfl fun a O=>?_;have J:AT w w [none,none,none,none] []:=MemX.start w 4;change Fr 27 a [(0,.agg (AB (p:Int) (n:Int) T f))] at O;have hp2:=hp.two;have hp13:=hp.le;have hT:∀ i j k,T i j k<=255:=fun i j k=>by have:=hJ i j k;omega
  refine sr<|Ab O (Aj 0 J O rfl) rfl ?_;rintro _ w' a ⟨b1,rfl,J,-⟩ O;refine Ab O (AV 1 J Ae) rfl ?_;rintro _ w' a ⟨b2,rfl,J,-⟩ O;change AT _ _ [some (b1,AB (p:Int) (n:Int) T f),some (b2,Al 6 (fun _=>.int .u8 (0))),_,_] [] at J;refine ag O rfl rfl fun a O=>ns<|ag O rfl rfl fun a O=>nt<|sq<|sr<|st O (AD AY O rfl) rfl fun a O=>st O (AP AU O rfl (J.row 0 rfl) (Aq (by omega))) rfl fun a O=>mv O rfl rfl fun a O=>nt<|wp_block ?_;change AT _ _ [_,_,_,_] [] at J;refine Ai (fun (kk:Nat) a w'=>kk<=n/\∃ (D1:A4),∃ (β:Nat->Nat),(RowsB D1 7 (kk*(2*n)) β (JE p n T)/\(∀ i,i<kk*(2*n)->w.heap.size<=β i))/\∃ (u4_1:Value) (e4_1:Option (Nat×Array Value)),Sl 1 u4_1 e4_1 (kk*(2*n)) (fun i=>.slice (some ⟨β i,0,none⟩) 7 7)/\Fr 27 a [(1,ptr b1 (0)),(2,ptr b2 (0)),(3,.bool (false)),(8,.int .i64 (n:Int)),(9,.int .i64 (kk:Int)),(4,u4_1)]/\AT w w' [some (b1,AB (p:Int) (n:Int) T f),some (b2,Al 6 (fun _=>.int .u8 (0))),none,e4_1] D1) (fun kk=>n - kk) 0 ?_ ?_
  . refine ⟨by omega,[],(fun _=>0),⟨by rw [Nat.zero_mul];exact RowsB.none,fun i hi=>by rw [Nat.zero_mul] at hi;omega⟩,(.slice none 0 0),(none),(by rw [Nat.zero_mul];exact Sl.nil _ _),O.sub _ (by repeat' constructor),?_⟩
    exact J
  clear O J;rintro gi a w' ⟨hgi,D1,β,⟨hB,hbg⟩,u4_1,e4_1,hsl,O,J⟩;have hgin:=Nat.le_trans (Nat.mul_le_mul_right (2*n) hgi) (Nat.mul_le_mul hn (Nat.mul_le_mul_left 2 hn));refine sr<|st O (Am O rfl rfl) rfl fun a O=>nt<|sq<|AR O rfl (fun h3=>?_) (fun h3=>?_)
  . refine wp_skip ?_
    refine tN<|sq<|wp_block<|sr<|mv O rfl rfl fun a O=>ag O rfl rfl fun a O=>ns<|mv O rfl rfl fun a O=>Ab O (AN Try.call142 O (.cons rfl .nil) (B2 (gi) _ (by omega))) rfl ?_;rintro _ w' a ⟨hx,rfl⟩ O;have J:=J.ext hx;refine Ab O (AV 2 J Ae) rfl ?_;rintro _ w' a ⟨b4,rfl,J,-⟩ O;change AT _ _ [_,_,some (b4,Al 6 (fun _=>.int .u8 (0))),_] _ at J;refine A7 O (AI 2 J rfl Aa O rfl rfl AX (by simp only [AM]) (by simp only [AM]<;>omega) (AF _ _ (by simp only [AM]))) ?_;intro _ w' a J O;change AT _ _ [_,_,some (b4,AG (fun c=>if c=gi then 1 else 0)),_] _ at J;refine nt<|wp_region_lit<|mv O rfl rfl fun a O=>st O (AA AH O rfl (J.row 0 rfl) (by simp only [AM]<;>omega) (whole AE)) rfl fun a O=>st O (AA AQ O rfl (J.row 2 rfl) (by simp only [AM]<;>omega) (whole (by simp only [AM]))) rfl fun a O=>st O (AA AQ O rfl (J.row 2 rfl) (by simp only [AM]<;>omega) (whole (by simp only [AM]))) rfl fun a O=>Ab O (AN Try.call149 O (.cons rfl (.cons rfl (.cons rfl .nil))) (FF p n T f ((fun c=>if c=gi then 1 else 0)) ((fun c=>if c=gi then 1 else 0)) _ (by omega) (by omega) (by omega) (by omega) (fun _ _ _=>hT _ _ _) (fun i=>by first | (dsimp only;split<;>omega) | (split<;>omega)) (fun i=>by first | (dsimp only;split<;>omega) | (split<;>omega)))) rfl ?_;rintro u w' a ⟨hx,hr⟩ O;obtain ⟨DQ,βq,bq,csq,hBq,rfl,hsq,hgq,hqm,hqb,hqg,hbqg,J,hqn⟩:=J.addBo hx hr;change AT w w' [some (b1,AB (p:Int) (n:Int) T f),some (b2,Al 6 (fun _=>.int .u8 (0))),some (b4,AG (fun c=>if c=gi then 1 else 0)),e4_1] (DQ++D1) at J;refine Ab O (BS (k:=3) (N:=gi*(2*n)) (m:=(2*n)) (g:=fun i=>.slice (some ⟨βq (i),0,none⟩) 7 7) IA rfl (by decide) J rfl O rfl rfl hsl (fun i hi=>((J.fzm hqm).cell _).trans (by have:=(hgq (i) (by omega));rwa [show 0+i*1=0+i by omega] at this)) (fun _ _=>rfl) (by omega) (by unfold maxLen;omega) (by omega)) rfl ?_;rintro u5 w' a ⟨e6,J,hs7⟩ O;change AT w w' [some (b1,AB (p:Int) (n:Int) T f),some (b2,Al 6 (fun _=>.int .u8 (0))),some (b4,AG (fun c=>if c=gi then 1 else 0)),e6] (DQ++D1) at J;refine ag O rfl rfl fun a O=>wpList_nil<|iN<|tN<|wp_region_lit<|st O (Af O rfl rfl (AW (gi) (1) (by omega))) rfl fun a O=>mv O rfl rfl fun a O=>wpList_nil<|tN ?_;have hsl:=hs7.congr (g:=fun i=>.slice (some ⟨(fun i=>if i<gi*(2*n) then β i else βq (i - gi*(2*n))) i,0,none⟩) 7 7) (fun i hi=>by
      by_cases e:i<gi*(2*n)
      . rw [if_pos (by omega)];simp only [if_pos e]
      . rw [if_neg (by omega)];simp only [if_neg e,Nat.mul_one])
    have hB:=((hB.more (D':=(DQ++D1)) (fun x hx=>List.mem_append_right _ hx)).append hBq (fun i j hi hj=>hqn _ _ (hB.mem i hi) j hj)).congr (M':=JE p n T) (fun r hr c _=>by
      by_cases e:r<gi*(2*n)
      . simp only [if_pos e]
      . simp only [if_neg e];have e2:=Ms (p:=p) (T:=T) (i:=gi) (show r - gi*(2*n)<2*n by omega);rw [show gi*(2*n)+(r - gi*(2*n))=r by omega] at e2;rw [e2];rfl)
    have hbg:∀ i,i<gi*(2*n)+2*n->w.heap.size<=(fun i=>if i<gi*(2*n) then β i else βq (i - gi*(2*n))) i:=fun i hi=>by
      dsimp only;split
      . exact hbg i (by omega)
      . exact hqg _ (by omega)
    have J:=J.drop 2;refine ⟨gi+1,⟨by omega,(DQ++D1),(fun i=>if i<gi*(2*n) then β i else βq (i - gi*(2*n))),⟨by rw [Nat.succ_mul];exact hB,by rw [Nat.succ_mul];exact hbg⟩,(u5),(e6),(by rw [Nat.succ_mul];exact hsl),O.sub _ (by repeat' constructor),?_⟩,by omega⟩;exact J
  obtain rfl:n=gi:=by omega
  have hmm:=Nat.mul_le_mul hn (Nat.mul_le_mul_left 2 hn);have hm0:0<n*(2*n):=Nat.mul_pos (by omega) (by omega);obtain ⟨b0,c0,cs0,rfl,rfl,hs0⟩:=hsl.pos hm0;have hne0:∀ i,i<n*(2*n)->β i≠b0:=fun i hi e=>(J.froz _ _ (hB.mem i hi)).2 3 b0 cs0 rfl e.symm;have hgb0:=J.ge 3 rfl;have J:=J.freeze 3 rfl;change AT w _ [some (b1,AB (p:Int) (n:Int) T f),some (b2,Al 6 (fun _=>.int .u8 (0))),none,none] ((b0,cs0)::D1) at J;refine wp_exit<|tX<|tX<|Ac<|tN<|sr<|mv O rfl rfl fun a O=>st O (AD Au O rfl) rfl fun a O=>st O (AP AU O rfl (J.row 0 rfl) (BM (by omega))) rfl fun a O=>Ab O (A1 Try.call150 O (.cons rfl (.cons rfl .nil)) (Ga p (n*(2*n)) b0 c0 cs0 β (JE p n T) _ hp (by omega) hs0.le (fun r c=>OZ (by omega) (Qk hp2) _ _) (J.fzm (List.mem_cons_self ..)) (by have:=hs0.sz;have:=hs0.le;omega) (fun i hi=>hs0.get1 i hi) (fun i hi=>J.fzm (List.mem_cons_of_mem _ (hB.mem i hi))) hB.inj hne0)) rfl ?_;rintro _ w' a ⟨hx,k,E,ld,hE,hKer,hE1,⟨hl,rfl⟩ | ⟨hl,rfl⟩⟩ O
  . have J:=J.swapD (D':=[]) hx (fun y hy=>by
     rcases List.mem_cons.1 hy with e | hy
     . exact ⟨cs0,by rw [e];exact List.mem_cons_self ..⟩
     . obtain ⟨i,hi,rfl⟩:=List.mem_map.1 hy
       exact ⟨_,List.mem_cons_of_mem _ (hB.mem i (by simpa using hi))⟩) (fun y hy=>by
     rcases List.mem_cons.1 hy with e | hy
     . exact .inl (by rw [e];exact hgb0)
     . obtain ⟨i,hi,rfl⟩:=List.mem_map.1 hy
       exact .inl (hbg i (by simpa using hi))) (fun _ _ h=>by cases h)
    change AT w w' [some (b1,AB (p:Int) (n:Int) T f),some (b2,Al 6 (fun _=>.int .u8 (0))),none,none] [] at J;refine st O (AO O rfl rfl) rfl fun a O=>st O (AO O rfl rfl) rfl fun a O=>A7 O (AI 1 J rfl Aa O rfl rfl AX (by simp only [AM]) (by simp only [AM]<;>omega) (AF _ _ (by simp only [AM]))) ?_;intro _ w' a J O;change AT _ _ [_,some (b2,AG (fun c=>solK E ld 6 k c)),_,_] [] at J;refine ag O rfl rfl fun a O=>nt<|wp_ret<|Ba rfl O.defers (As AQ O rfl (J.row 1 rfl) (by simp only [AM])) (AL O rfl) ⟨_,rfl,J.below,?_⟩;exact .inl ⟨_,NZ hp2 hn0 hn hJ hE1 hE hKer hl,rfl⟩
  have J:=J.swapD (D':=[]) hx (fun y hy=>by
   rcases List.mem_cons.1 hy with e | hy
   . exact ⟨cs0,by rw [e];exact List.mem_cons_self ..⟩
   . obtain ⟨i,hi,rfl⟩:=List.mem_map.1 hy
     exact ⟨_,List.mem_cons_of_mem _ (hB.mem i (by simpa using hi))⟩) (fun y hy=>by
   rcases List.mem_cons.1 hy with e | hy
   . exact .inl (by rw [e];exact hgb0)
   . obtain ⟨i,hi,rfl⟩:=List.mem_map.1 hy
     exact .inl (hbg i (by simpa using hi))) (fun _ _ h=>by cases h)
  change AT w w' [some (b1,AB (p:Int) (n:Int) T f),some (b2,Al 6 (fun _=>.int .u8 (0))),none,none] [] at J;refine st O (AO O rfl rfl) rfl fun a O=>st O (AO O rfl rfl) rfl fun a O=>A7 O (AI 1 J rfl Aa O rfl rfl AX (by simp only [AM]) (by simp only [AM]<;>omega) (AF _ _ (by simp only [AM]))) ?_;intro _ w' a J O;change AT _ _ [_,some (b2,AG (fun _=>0)),_,_] [] at J;refine ag O rfl rfl fun a O=>nt<|wp_ret<|Ba rfl O.defers (As AQ O rfl (J.row 1 rfl) (by simp only [AM])) (AL O rfl) ⟨_,rfl,J.below,?_⟩;exact .inr ⟨fun u=>OU hp2 hn0 hn hJ hE hKer hl u,rfl⟩
open Classical
theorem CallsR.val {P:Program}{f:FuncId}{args:Array Value}{w:World}{v v':Value}(h:CallsR P f args w (fun u _=>u=v))(e:v=v'):CallsR P f args w (fun u _=>u=v'):=e ▸ h
def Lk (p n:Nat) (T:Nat->Nat->Nat->Nat):Prop:=∀ i,i<n->∀ j,j<n->∀ k,k<n->H4 6 (timesS p n T (T i j) (fun c=>if c=k then 1 else 0)) (timesS p n T (fun c=>if c=i then 1 else 0) (T j k))
def QC (p n:Nat) (T:Nat->Nat->Nat->Nat):Prop:=Lk p n T/\∃ u,UnitI p n T u
def trunc (n:Nat) (T:Nat->Nat->Nat->Nat) (i j k:Nat):Nat:=if i<n/\j<n/\k<n then T i j k else 0
def I7 (p n:Int) (T:Nat->Nat->Nat->Nat) (f:Nat->Nat):Prop:=DN p n T f/\QC p.toNat n.toNat (trunc n.toNat T)
theorem IH {f:Nat->Nat}{n:Nat}(h:∀ i,i<n->f i=0):sumTo f n=0:=by
  induction n with
  | zero=>rfl
  | succ n ih=>simp only [sumTo];rw [ih (fun i hi=>h i (by omega)),h n (by omega)]
theorem IF {p n c:Nat}{T:Nat->Nat->Nat->Nat}{v u:Nat->Nat}(hO:∀ i j k,n<=k->T i j k=0)(hc:n<=c):timesV p n T v u c=0:=by
  unfold timesV prodI
  rw [IH (fun i _=>IH fun j _=>by rw [hO i j c hc];simp)]
  simp
theorem FO {p n:Nat}{T:Nat->Nat->Nat->Nat}(hO:∀ i j k,n<=k->T i j k=0)(v u:Nat->Nat):timesV p n T v u=timesS p n T v u:=by
  funext c
  unfold timesS
  by_cases h:c<n
  . rw [if_pos h]
  . rw [if_neg h,IF hO (by omega)]
theorem Mt {p n:Nat}{T:Nat->Nat->Nat->Nat}(hO:∀ i j k,n<=k->T i j k=0):P7 p n T↔Lk p n T:=by
  unfold P7 Pd P6 Lk
  simp only [FO hO];exact ⟨fun h i hi j hj k hk=>h j hj i hi k hk,fun h j hj i hi k hk=>h i hi j hj k hk⟩
theorem O2 {p n:Int}{T:Nat->Nat->Nat->Nat}{i j:Nat}(hp:0<p):K8 p n T i j↔Gg p n T i j:=by
  unfold K8 Gg
  by_cases h:(i:Int)≥n\/(j:Int)≥n
  . rw [if_pos h]
    constructor
    . intro h1 c hc
      have h2:H4 6 (T i j) (fun _=>0):=Classical.byContradiction fun h3=>h1 (.inl ⟨by omega,h3⟩);have h4:=h2 c hc
      dsimp only at h4
      unfold G8;omega
    . intro h1 h2
      have h0:∀ c,c<6->T i j c=0:=fun c hc=>by have:=h1 c hc;unfold G8 at this;omega
      rcases h2 with ⟨_,h3⟩ | h3
      . exact h3 h0
      . exact h3 fun c hc=>by have:=h0 c hc;unfold G8;omega
  . rw [if_neg h]
    constructor
    . intro h1;exact Classical.byContradiction fun h3=>h1 (.inr h3)
    . rintro h1 (⟨h2,_⟩ | h2)
      . exact h2 ⟨by omega,by omega⟩
      . exact h2 h1
theorem JQ {p n:Int}{T:Nat->Nat->Nat->Nat}(hp:0<p):KT 6 (K8 p n T)↔KT 6 (Gg p n T):=by
  unfold KT
  simp only [O2 hp]
theorem DO {p:Int}(h:BP p):0<p:=by unfold BP at h;omega
theorem GV {p n:Int}{T:Nat->Nat->Nat->Nat}{f:Nat->Nat}(h:DN p n T f):AB p n T f=AB p n (trunc n.toNat T) f:=by
  obtain ⟨_,hn,_,hT⟩:=h
  unfold AB
  refine A5 fun c hc=>?_
  by_cases h0:c=0
  . rw [if_pos h0,if_pos h0]
  . rw [if_neg h0,if_neg h0]
    by_cases h1:c=1
    . rw [if_pos h1,if_pos h1]
    . rw [if_neg h1,if_neg h1]
      by_cases h2:c<218
      . rw [if_pos h2,if_pos h2]
        have:=hT ((c - 2) / 36) (by omega) ((c - 2) / 6%6) (by omega) ((c - 2)%6) (by omega);have e:trunc n.toNat T ((c - 2) / 36) ((c - 2) / 6%6) ((c - 2)%6)=T ((c - 2) / 36) ((c - 2) / 6%6) ((c - 2)%6):=by
          unfold trunc;split
          . rfl
          . rename_i hno
            unfold G8 at this
            split at this<;>omega
        rw [e]
      . rw [if_neg h2,if_neg h2]
theorem IE {p n:Int}{T:Nat->Nat->Nat->Nat}{f:Nat->Nat}(h:DN p n T f)(i j k:Nat):trunc n.toNat T i j k<p.toNat:=by
  obtain ⟨hp,hn,_,hT⟩:=h;have hp0:=DO hp
  unfold trunc;split
  . rename_i hh
    have:=hT i (by omega) j (by omega) k (by omega)
    unfold G8 at this
    omega
  . omega
theorem HJ {n:Nat}{T:Nat->Nat->Nat->Nat}(i j k:Nat)(h:n<=k):trunc n T i j k=0:=by unfold trunc;rw [if_neg (by omega)]
theorem FP {p n:Int}{T:Nat->Nat->Nat->Nat}{f:Nat->Nat}(h:DN p n T f):DN p n (trunc n.toNat T) f:=by
  refine ⟨h.1,h.2.1,h.2.2.1,fun i hi j hj c hc=>?_⟩;have h1:=h.2.2.2 i hi j hj c hc;have hp:=DO h.1
  by_cases e:i<n.toNat/\j<n.toNat/\c<n.toNat
  . have e2:trunc n.toNat T i j c=T i j c:=by unfold trunc;rw [if_pos e]
    rw [e2];exact h1
  . have e2:trunc n.toNat T i j c=0:=by unfold trunc;rw [if_neg e]
    rw [e2];unfold G8;omega
theorem HO {p:Int}(h:BP p):primeN p.toNat:=by unfold BP at h;unfold primeN;omega
theorem LM (p n:Int)(T:Nat->Nat->Nat->Nat)(f:Nat->Nat)(w:World)(hT:∀ i j k,T i j k<=255)(hf:∀ i,f i<=255)(hH:¬ DN p n T f) :
    CallsR Try.prog 95 #[.agg (AB p n T f)] w (fun res _=>res = .bool false):=by
  refine AS [.agg (AB p n T f)] Try.func95 rfl Try.ntmps95 rfl fun a O=>?_;have J:AT w w [none,none] []:=MemX.start w 2;change Fr 56 a [(0,.agg (AB p n T f))] at O;refine sr<|Ab O (Aj 0 J O rfl) rfl ?_;rintro _ w' a ⟨b1,rfl,J,-⟩ O;change AT _ _ [some (b1,AB p n T f),_] [] at J;refine ag O rfl rfl fun a O=>nt<|sq<|sr<|st O (AA AH O rfl (J.row 0 rfl) (by simp only [AM]<;>omega) (whole AE)) rfl fun a O=>Ab O (AN Try.call151 O (.cons rfl .nil) ((CallsR.val (Hq p n T f _ (fun _ _ _=>hT _ _ _) (fun _=>hf _)) (congrArg Value.bool (decide_eq_false hH))))) rfl ?_;rintro _ w' a ⟨hx,rfl⟩ O;have J:=J.ext hx;refine st O (BW (b:=false) O rfl) rfl fun a O=>nt<|FJ O rfl<|sr<|ag O rfl rfl fun a O=>nt<|wp_ret<|tR<|A0 rfl O.defers (AL O rfl) ⟨_,rfl,J.below,?_⟩
  show _=_
  rfl
theorem LL (p n:Nat)(T:Nat->Nat->Nat->Nat)(f:Nat->Nat)(w:World)(hp:primeN p)(hn0:0<n)(hn:n<=6)(hJ:∀ i j k,T i j k<p)(hO:∀ i j k,n<=k->T i j k=0)(hf:∀ i,f i<=255)(hH:DN (p:Int) (n:Int) T f) :
    CallsR Try.prog 95 #[.agg (AB (p:Int) (n:Int) T f)] w (fun res _=>res = .bool (decide (QC p n T))):=by
  refine AS [.agg (AB (p:Int) (n:Int) T f)] Try.func95 rfl Try.ntmps95 rfl fun a O=>?_;have J:AT w w [none,none] []:=MemX.start w 2;change Fr 56 a [(0,.agg (AB (p:Int) (n:Int) T f))] at O;have hp2:=hp.two;have hp13:=hp.le;have hT:∀ i j k,T i j k<=255:=fun i j k=>by have:=hJ i j k;omega
  refine sr<|Ab O (Aj 0 J O rfl) rfl ?_;rintro _ w' a ⟨b1,rfl,J,-⟩ O;change AT _ _ [some (b1,AB (p:Int) (n:Int) T f),_] [] at J;refine ag O rfl rfl fun a O=>nt<|sq<|sr<|st O (AA AH O rfl (J.row 0 rfl) (by simp only [AM]<;>omega) (whole AE)) rfl fun a O=>Ab O (AN Try.call151 O (.cons rfl .nil) ((CallsR.val (Hq (p:Int) (n:Int) T f _ (fun _ _ _=>hT _ _ _) (fun _=>hf _)) (congrArg Value.bool (decide_eq_true hH))))) rfl ?_;rintro _ w' a ⟨hx,rfl⟩ O;have J:=J.ext hx;refine st O (BW (b:=true) O rfl) rfl fun a O=>nt<|Cm O rfl<|wp_skip<|tN<|sq<|sr<|ag O rfl rfl fun a O=>nt<|wp_block ?_;change AT w _ [some (b1,AB (p:Int) (n:Int) T f),none] [] at J;refine Ai (fun (kk:Nat) a w'=>kk<=n/\(∀ i,i<kk->∀ j,j<n->∀ k,k<n->H4 6 (timesS p n T (T i j) (fun c=>if c=k then 1 else 0)) (timesS p n T (fun c=>if c=i then 1 else 0) (T j k)))/\Fr 56 a [(1,ptr b1 (0)),(10,.bool (false)),(3,.int .i64 (kk:Int))]/\AT w w' [some (b1,AB (p:Int) (n:Int) T f),none] []) (fun kk=>n - kk) 0 ?_ ?_
  . refine ⟨by omega,fun i hi=>absurd hi (by omega),O.sub _ (by repeat' constructor),?_⟩
    exact J
  clear O J;rintro gi a w' ⟨hgi,hZ,O,J⟩;refine sq<|sr<|mv O rfl rfl fun a O=>st O (AD AY O rfl) rfl fun a O=>st O (AP AU O rfl (J.row 0 rfl) (Aq (by omega))) rfl fun a O=>st O (Am O rfl rfl) rfl fun a O=>nt<|AR O rfl (fun h3=>?_) (fun h3=>?_)
  . refine wp_skip ?_
    refine tN<|sq<|wp_block<|sr<|ag O rfl rfl fun a O=>nt<|wp_block ?_;change AT w _ [some (b1,AB (p:Int) (n:Int) T f),none] [] at J;refine Ai (fun (kk:Nat) a w'=>kk<=n/\(∀ j,j<kk->∀ k,k<n->H4 6 (timesS p n T (T gi j) (fun c=>if c=k then 1 else 0)) (timesS p n T (fun c=>if c=gi then 1 else 0) (T j k)))/\Fr 56 a [(1,ptr b1 (0)),(10,.bool (false)),(3,.int .i64 (gi:Int)),(11,.int .i64 (gi:Int)),(12,ptr b1 (0+1)),(13,.int .i64 (n:Int)),(14,.bool (decide (((gi:Int):Int)<(n:Int)))),(4,.int .i64 (kk:Int))]/\AT w w' [some (b1,AB (p:Int) (n:Int) T f),none] []) (fun kk=>n - kk) 0 ?_ ?_
    . refine ⟨by omega,fun i hi=>absurd hi (by omega),O.sub _ (by repeat' constructor),?_⟩
      exact J
    clear O J;rintro gj a w' ⟨hgj,hinv2,O,J⟩;refine sq<|sr<|mv O rfl rfl fun a O=>st O (AD AY O rfl) rfl fun a O=>st O (AP AU O rfl (J.row 0 rfl) (Aq (by omega))) rfl fun a O=>st O (Am O rfl rfl) rfl fun a O=>nt<|AR O rfl (fun h4=>?_) (fun h4=>?_)
    . refine wp_skip ?_
      refine tN<|sq<|wp_block<|sr<|ag O rfl rfl fun a O=>nt<|wp_block ?_;change AT w _ [some (b1,AB (p:Int) (n:Int) T f),none] [] at J;refine Ai (fun (kk:Nat) a w'=>kk<=n/\(∀ k,k<kk->H4 6 (timesS p n T (T gi gj) (fun c=>if c=k then 1 else 0)) (timesS p n T (fun c=>if c=gi then 1 else 0) (T gj k)))/\Fr 56 a [(1,ptr b1 (0)),(10,.bool (false)),(3,.int .i64 (gi:Int)),(11,.int .i64 (gi:Int)),(12,ptr b1 (0+1)),(13,.int .i64 (n:Int)),(14,.bool (decide (((gi:Int):Int)<(n:Int)))),(4,.int .i64 (gj:Int)),(17,.int .i64 (gj:Int)),(18,ptr b1 (0+1)),(19,.int .i64 (n:Int)),(20,.bool (decide (((gj:Int):Int)<(n:Int)))),(5,.int .i64 (kk:Int))]/\AT w w' [some (b1,AB (p:Int) (n:Int) T f),none] []) (fun kk=>n - kk) 0 ?_ ?_
      . refine ⟨by omega,fun i hi=>absurd hi (by omega),O.sub _ (by repeat' constructor),?_⟩
        exact J
      clear O J;rintro gk a w' ⟨hgk,hinv3,O,J⟩;refine sq<|sr<|mv O rfl rfl fun a O=>st O (AD AY O rfl) rfl fun a O=>st O (AP AU O rfl (J.row 0 rfl) (Aq (by omega))) rfl fun a O=>st O (Am O rfl rfl) rfl fun a O=>nt<|AR O rfl (fun h5=>?_) (fun h5=>?_)
      . refine wp_skip ?_
        refine tN<|sq<|wp_block<|sq<|BG 19 [] [.val (.agg (AB (p:Int) (n:Int) T f)),.val (.int .i64 (gi:Int)),.val (.int .i64 (gj:Int)),.val (ptr b1 (0+2)),.val (ptr b1 (0+2+(gi)*36)),.val (ptr b1 (0+2+(gi)*36+(gj)*6)),.val (.agg (AG (T (gi) (gj)))),.val (.int .i64 (gk:Int)),.val (.agg (AG (fun c=>if c=gk then 1 else 0))),.val (.agg (AG (timesS p n T ((T (gi) (gj))) ((fun c=>if c=gk then 1 else 0))))),.val (.agg (AB (p:Int) (n:Int) T f)),.val (.int .i64 (gi:Int)),.val (.agg (AG (fun c=>if c=gi then 1 else 0))),.val (.int .i64 (gj:Int)),.val (.int .i64 (gk:Int)),.val (ptr b1 (0+2)),.val (ptr b1 (0+2+(gj)*36)),.val (ptr b1 (0+2+(gj)*36+(gk)*6)),.val (.agg (AG (T (gj) (gk))))] BV rfl O rfl J ⟨fun a w gG O hS hd=>by have J:=hS.mem rfl;exact AC hS rfl (AA AH O rfl (J.row 0 rfl) (by simp only [AM]<;>omega) (whole AE)),fun a w gG O hS hd=>by exact BC hS rfl O rfl,fun a w gG O hS hd=>by exact BC hS rfl O rfl,fun a w gG O hS hd=>by exact AC hS rfl (AD A3 O rfl),fun a w gG O hS hd=>by have O:=O.ext1 30 (hd 1 rfl rfl);have O:=O.ext1 32 (hd 3 rfl rfl);exact AC hS rfl (AJ BK O rfl rfl rfl (by omega)),fun a w gG O hS hd=>by have O:=O.ext1 31 (hd 2 rfl rfl);have O:=O.ext1 33 (hd 4 rfl rfl);exact AC hS rfl (AJ BL O rfl rfl rfl (by omega)),fun a w gG O hS hd=>by have O:=O.ext1 34 (hd 5 rfl rfl);have J:=hS.mem rfl;exact AC hS rfl (AA Bo O rfl (J.row 0 rfl) (by simp only [AM]<;>omega) (Cq (gi) (gj) (by omega) (by omega) (by omega) (by omega))),fun a w gG O hS hd=>by exact BC hS rfl O rfl,fun a w gG O hS hd=>by have O:=O.ext1 36 (hd 7 rfl rfl);exact Ap (by repeat constructor) hS rfl (AN Try.call143 O (.cons rfl .nil) (BU (gk) _ (by omega))),fun a w gG O hS hd=>by have O:=O.ext1 29 (hd 0 rfl rfl);have O:=O.ext1 35 (hd 6 rfl rfl);have O:=O.ext1 37 (hd 8 rfl rfl);exact Ap (by repeat constructor) hS rfl (AN Try.call89 O (.cons rfl (.cons rfl (.cons rfl .nil))) (Bj p n T f ((T (gi) (gj))) ((fun c=>if c=gk then 1 else 0)) _ (by omega) (by omega) (by omega) (fun _ _ _=>hT _ _ _) (fun _=>by first | exact hv _ | exact hu _ | exact hT _ _ _ | exact hf _ | omega | (split<;>omega) | (dsimp only;split<;>omega) | assumption) (fun _=>by first | exact hv _ | exact hu _ | exact hT _ _ _ | exact hf _ | omega | (split<;>omega) | (dsimp only;split<;>omega) | assumption))),fun a w gG O hS hd=>by have J:=hS.mem rfl;exact AC hS rfl (AA AH O rfl (J.row 0 rfl) (by simp only [AM]<;>omega) (whole AE)),fun a w gG O hS hd=>by exact BC hS rfl O rfl,fun a w gG O hS hd=>by have O:=O.ext1 40 (hd 11 rfl rfl);exact Ap (by repeat constructor) hS rfl (AN Try.call143 O (.cons rfl .nil) (BU (gi) _ (by omega))),fun a w gG O hS hd=>by exact BC hS rfl O rfl,fun a w gG O hS hd=>by exact BC hS rfl O rfl,fun a w gG O hS hd=>by exact AC hS rfl (AD A3 O rfl),fun a w gG O hS hd=>by have O:=O.ext1 42 (hd 13 rfl rfl);have O:=O.ext1 44 (hd 15 rfl rfl);exact AC hS rfl (AJ BK O rfl rfl rfl (by omega)),fun a w gG O hS hd=>by have O:=O.ext1 43 (hd 14 rfl rfl);have O:=O.ext1 45 (hd 16 rfl rfl);exact AC hS rfl (AJ BL O rfl rfl rfl (by omega)),fun a w gG O hS hd=>by have O:=O.ext1 46 (hd 17 rfl rfl);have J:=hS.mem rfl;exact AC hS rfl (AA Bo O rfl (J.row 0 rfl) (by simp only [AM]<;>omega) (Cq (gj) (gk) (by omega) (by omega) (by omega) (by omega))),trivial⟩ ?_;intro a w' L O hS hq;have O:=O.ext1 29 (hq 0 rfl rfl);have O:=O.ext1 30 (hq 1 rfl rfl)
        have O:=O.ext1 31 (hq 2 rfl rfl);have O:=O.ext1 32 (hq 3 rfl rfl);have O:=O.ext1 33 (hq 4 rfl rfl);have O:=O.ext1 34 (hq 5 rfl rfl);have O:=O.ext1 35 (hq 6 rfl rfl);have O:=O.ext1 36 (hq 7 rfl rfl);have O:=O.ext1 37 (hq 8 rfl rfl);have O:=O.ext1 38 (hq 9 rfl rfl);have O:=O.ext1 39 (hq 10 rfl rfl);have O:=O.ext1 40 (hq 11 rfl rfl);have O:=O.ext1 41 (hq 12 rfl rfl);have O:=O.ext1 42 (hq 13 rfl rfl);have O:=O.ext1 43 (hq 14 rfl rfl);have O:=O.ext1 44 (hq 15 rfl rfl);have O:=O.ext1 45 (hq 16 rfl rfl);have O:=O.ext1 46 (hq 17 rfl rfl);have O:=O.ext1 47 (hq 18 rfl rfl);have J:=hS.mem rfl;change wpList Try.prog _ _ [_,_] _ _;refine Ab O (AN Try.call89 O (.cons rfl (.cons rfl (.cons rfl .nil))) (Bj p n T f ((fun c=>if c=gi then 1 else 0)) ((T (gj) (gk))) _ (by omega) (by omega) (by omega) (fun _ _ _=>hT _ _ _) (fun _=>by first | exact hv _ | exact hu _ | exact hT _ _ _ | exact hf _ | omega | (split<;>omega) | (dsimp only;split<;>omega) | assumption) (fun _=>by first | exact hv _ | exact hu _ | exact hT _ _ _ | exact hf _ | omega | (split<;>omega) | (dsimp only;split<;>omega) | assumption))) rfl ?_;rintro _ w' a ⟨hx,rfl⟩ O;have J:=J.ext hx;refine st O (FX GZ O rfl rfl (DJ En DY Ad)) rfl fun a O=>nt<|AR O rfl (fun h6=>?_) (fun h6=>?_)
        . refine sq ?_
          refine wp_region_lit<|ag O rfl rfl fun a O=>nt<|wp_ret<|iR<|tR<|tR<|iR<|iR<|tR<|tR<|iR<|iR<|tR<|tR<|iR<|tR<|A0 rfl O.defers (AL O rfl) ⟨_,rfl,J.below,?_⟩
          show _=_
          exact CP (fun hq=>(by assumption:¬ H4 6 _ _) (hq.1 gi (by omega) gj (by omega) gk (by omega)))
        refine wp_skip<|iN<|tN<|wp_region_lit<|mv O rfl rfl fun a O=>st O (Af O rfl rfl (AW (gk) (1) (by omega))) rfl fun a O=>ag O rfl rfl fun a O=>nt<|⟨gk+1,⟨by omega,D8 hinv3 (Decidable.not_not.1 (by assumption)),O.sub _ (by repeat' constructor),?_⟩,by omega⟩;exact J
      obtain rfl:n=gk:=by omega
      refine wp_exit<|tX<|tX<|Ac<|iN<|tN<|wp_region_lit<|mv O rfl rfl fun a O=>st O (Af O rfl rfl (AW (gj) (1) (by omega))) rfl fun a O=>ag O rfl rfl fun a O=>nt<|⟨gj+1,⟨by omega,D8 hinv2 hinv3,O.sub _ (by repeat' constructor),?_⟩,by omega⟩;exact J
    obtain rfl:n=gj:=by omega
    refine wp_exit<|tX<|tX<|Ac<|iN<|tN<|wp_region_lit<|mv O rfl rfl fun a O=>st O (Af O rfl rfl (AW (gi) (1) (by omega))) rfl fun a O=>ag O rfl rfl fun a O=>nt<|⟨gi+1,⟨by omega,D8 hZ hinv2,O.sub _ (by repeat' constructor),?_⟩,by omega⟩;exact J
  obtain rfl:n=gi:=by omega
  refine wp_exit<|tX<|tX<|Ac<|tN<|sr<|st O (AA AH O rfl (J.row 0 rfl) (by simp only [AM]<;>omega) (whole AE)) rfl fun a O=>Ab O (AN Try.call152 O (.cons rfl .nil) (GH p n T f _ hp hn0 hn hJ)) rfl ?_;rintro _ w' a ⟨hx,⟨uu,huu,rfl⟩ | ⟨huu,rfl⟩⟩ O
  . have J:=J.ext hx
    refine mv O rfl rfl fun a O=>st O (AO O rfl rfl) rfl fun a O=>st O (AO O rfl rfl) rfl fun a O=>Ab O (AV 1 J Ae) rfl ?_;rintro _ w' a ⟨b7,rfl,J,-⟩ O;change AT _ _ [_,some (b7,Al 6 (fun _=>.int .u8 (0)))] [] at J;refine A7 O (AI 1 J rfl Aa O rfl rfl AX (by simp only [AM]) (by simp only [AM]<;>omega) (AF _ _ (by simp only [AM]))) ?_;intro _ w' a J O;change AT _ _ [_,some (b7,AG uu)] [] at J;refine ag O rfl rfl fun a O=>ns<|mv O rfl rfl fun a O=>ag O rfl rfl fun a O=>nt<|wp_ret<|A0 rfl O.defers (AL O rfl) ⟨_,rfl,J.below,?_⟩
    show _=_
    exact GT ⟨hZ,_,huu⟩
  have J:=J.ext hx;refine mv O rfl rfl fun a O=>st O (AO O rfl rfl) rfl fun a O=>st O (AO O rfl rfl) rfl fun a O=>Ab O (AV 1 J Ae) rfl ?_;rintro _ w' a ⟨b8,rfl,J,-⟩ O;change AT _ _ [_,some (b8,Al 6 (fun _=>.int .u8 (0)))] [] at J;refine A7 O (AI 1 J rfl Aa O rfl rfl AX (by simp only [AM]) (by simp only [AM]<;>omega) (AF _ _ (by simp only [AM]))) ?_;intro _ w' a J O;change AT _ _ [_,some (b8,AG (fun _=>0))] [] at J;refine ag O rfl rfl fun a O=>ns<|mv O rfl rfl fun a O=>ag O rfl rfl fun a O=>nt<|wp_ret<|A0 rfl O.defers (AL O rfl) ⟨_,rfl,J.below,?_⟩
  show _=_
  exact CP (fun hq=>by obtain ⟨u,hu⟩:=hq.2;exact huu u hu)
theorem MP (p n:Int)(T:Nat->Nat->Nat->Nat)(f:Nat->Nat)(w:World)(hT:∀ i j k,T i j k<=255)(hf:∀ i,f i<=255)(hH:¬ DN p n T f) :
    CallsR Try.prog 12 #[.agg (AB p n T f)] w (fun res _=>res = .bool false):=by
  refine AS [.agg (AB p n T f)] Try.func12 rfl Try.ntmps12 rfl fun a O=>?_;have J:AT w w [none,none] []:=MemX.start w 2;change Fr 40 a [(0,.agg (AB p n T f))] at O;refine sr<|Ab O (Aj 0 J O rfl) rfl ?_;rintro _ w' a ⟨b1,rfl,J,-⟩ O;change AT _ _ [some (b1,AB p n T f),_] [] at J;refine ag O rfl rfl fun a O=>nt<|sq<|sr<|st O (AD Au O rfl) rfl fun a O=>st O (AP AU O rfl (J.row 0 rfl) (BM (by omega))) rfl fun a O=>Ab O (AN Try.call90 O (.cons rfl .nil) (IU (p) _)) rfl ?_;rintro _ w' a ⟨hx,rfl⟩ O;have J:=J.ext hx;refine st O (CD O rfl) rfl fun a O=>mv O rfl rfl fun a O=>?_
  by_cases g2:¬ (BP (p))
  . first | rw [decide_eq_true g2] at O | simp only [decide_eq_true g2] at O
    refine BZ O rfl rfl rfl rfl rfl fun a O=>BZ O rfl rfl rfl rfl rfl fun a O=>BZ O rfl rfl rfl rfl rfl fun a O=>st O (A2 O rfl rfl) rfl fun a O=>mv O rfl rfl fun a O=>BZ O rfl rfl rfl rfl rfl fun a O=>BZ O rfl rfl rfl rfl rfl fun a O=>BZ O rfl rfl rfl rfl rfl fun a O=>st O (A2 O rfl rfl) rfl fun a O=>nt<|FJ O rfl<|sr<|ag O rfl rfl fun a O=>nt<|wp_ret<|tR<|A0 rfl O.defers (AL O rfl) ⟨_,rfl,J.below,?_⟩
    show _=_
    rfl
  first | rw [decide_eq_false g2] at O | simp only [decide_eq_false g2] at O
  refine BN O rfl rfl rfl (AD AY O rfl) rfl fun a O=>BN O rfl rfl rfl (AP AU O rfl (J.row 0 rfl) (Aq (by omega))) rfl fun a O=>BN O rfl rfl rfl (Am O rfl rfl) rfl fun a O=>st O (At O rfl rfl) rfl fun a O=>mv O rfl rfl fun a O=>?_
  by_cases g4:(n:Int)<1
  . first | rw [decide_eq_true g4] at O | simp only [decide_eq_true g4] at O
    refine BZ O rfl rfl rfl rfl rfl fun a O=>BZ O rfl rfl rfl rfl rfl fun a O=>BZ O rfl rfl rfl rfl rfl fun a O=>st O (A2 O rfl rfl) rfl fun a O=>nt<|FJ O rfl<|sr<|ag O rfl rfl fun a O=>nt<|wp_ret<|tR<|A0 rfl O.defers (AL O rfl) ⟨_,rfl,J.below,?_⟩
    show _=_
    rfl
  first | rw [decide_eq_false g4] at O | simp only [decide_eq_false g4] at O
  refine BN O rfl rfl rfl (AD AY O rfl) rfl fun a O=>BN O rfl rfl rfl (AP AU O rfl (J.row 0 rfl) (Aq (by omega))) rfl fun a O=>BN O rfl rfl rfl (CV O rfl rfl) rfl fun a O=>st O (At O rfl rfl) rfl fun a O=>nt<|AR O rfl (fun h6=>?_) (fun h6=>?_)
  . refine sq ?_
    refine wp_region_lit<|ag O rfl rfl fun a O=>nt<|wp_ret<|tR<|A0 rfl O.defers (AL O rfl) ⟨_,rfl,J.below,?_⟩
    show _=_
    rfl
  refine wp_skip<|tN<|sq<|sr<|st O (AA AH O rfl (J.row 0 rfl) (by simp only [AM]<;>omega) (whole AE)) rfl fun a O=>st O (AD BH O rfl) rfl fun a O=>st O (AA AQ O rfl (J.row 0 rfl) (by simp only [AM]<;>omega) (Fu (by omega) (by omega))) rfl fun a O=>Ab O (AN Try.call91 O (.cons rfl (.cons rfl .nil)) (C4 p n T f (f) _ (fun _=>by first | exact hv _ | exact hu _ | exact hT _ _ _ | exact hf _ | omega | (split<;>omega) | (dsimp only;split<;>omega) | assumption))) rfl ?_;rintro _ w' a ⟨hx,rfl⟩ O;have J:=J.ext hx;refine st O (CD O rfl) rfl fun a O=>mv O rfl rfl fun a O=>?_
  by_cases g7:¬ (okV p n (f))
  . first | rw [decide_eq_true g7] at O | simp only [decide_eq_true g7] at O
    refine BZ O rfl rfl rfl rfl rfl fun a O=>BZ O rfl rfl rfl rfl rfl fun a O=>BZ O rfl rfl rfl rfl rfl fun a O=>st O (A2 O rfl rfl) rfl fun a O=>mv O rfl rfl fun a O=>BZ O rfl rfl rfl rfl rfl fun a O=>BZ O rfl rfl rfl rfl rfl fun a O=>BZ O rfl rfl rfl rfl rfl fun a O=>st O (A2 O rfl rfl) rfl fun a O=>nt<|FJ O rfl<|sr<|ag O rfl rfl fun a O=>nt<|wp_ret<|tR<|A0 rfl O.defers (AL O rfl) ⟨_,rfl,J.below,?_⟩
    show _=_
    rfl
  first | rw [decide_eq_false g7] at O | simp only [decide_eq_false g7] at O
  refine BN O rfl rfl rfl (AA AH O rfl (J.row 0 rfl) (by simp only [AM]<;>omega) (whole AE)) rfl fun a O=>Ey O rfl rfl rfl (AN Try.call92 O (.cons rfl .nil) (Hs p n T f _ (fun _ _ _=>hT _ _ _) (fun _=>hf _))) rfl ?_;rintro _ w' a ⟨hx,rfl⟩ O;have J:=J.ext hx;refine BN O rfl rfl rfl (CD O rfl) rfl fun a O=>st O (At O rfl rfl) rfl fun a O=>mv O rfl rfl fun a O=>?_
  by_cases g9:¬ (KT 6 (K8 p n T))
  . first | rw [decide_eq_true g9] at O | simp only [decide_eq_true g9] at O
    refine BZ O rfl rfl rfl rfl rfl fun a O=>BZ O rfl rfl rfl rfl rfl fun a O=>BZ O rfl rfl rfl rfl rfl fun a O=>st O (A2 O rfl rfl) rfl fun a O=>nt<|FJ O rfl<|sr<|ag O rfl rfl fun a O=>nt<|wp_ret<|tR<|A0 rfl O.defers (AL O rfl) ⟨_,rfl,J.below,?_⟩
    show _=_
    rfl
  first | rw [decide_eq_false g9] at O | simp only [decide_eq_false g9] at O
  exact absurd (show DN p n T f from ⟨Decidable.not_not.1 (by assumption),⟨by omega,by omega⟩,Decidable.not_not.1 (by assumption),(JQ (DO (Decidable.not_not.1 (by assumption)))).1 (Decidable.not_not.1 (by assumption))⟩) hH
theorem MO (p n:Nat)(T:Nat->Nat->Nat->Nat)(f:Nat->Nat)(w:World)(hp:primeN p)(hn0:0<n)(hn:n<=6)(hJ:∀ i j k,T i j k<p)(hO:∀ i j k,n<=k->T i j k=0)(hf:∀ i,f i<=255)(hH:DN (p:Int) (n:Int) T f) :
    CallsR Try.prog 12 #[.agg (AB (p:Int) (n:Int) T f)] w (fun res _=>res = .bool (decide (QC p n T))):=by
  refine AS [.agg (AB (p:Int) (n:Int) T f)] Try.func12 rfl Try.ntmps12 rfl fun a O=>?_;have J:AT w w [none,none] []:=MemX.start w 2;change Fr 40 a [(0,.agg (AB (p:Int) (n:Int) T f))] at O;have hp2:=hp.two;have hp13:=hp.le;have hT:∀ i j k,T i j k<=255:=fun i j k=>by have:=hJ i j k;omega
  refine sr<|Ab O (Aj 0 J O rfl) rfl ?_;rintro _ w' a ⟨b1,rfl,J,-⟩ O;change AT _ _ [some (b1,AB (p:Int) (n:Int) T f),_] [] at J;refine ag O rfl rfl fun a O=>nt<|sq<|sr<|st O (AD Au O rfl) rfl fun a O=>st O (AP AU O rfl (J.row 0 rfl) (BM (by omega))) rfl fun a O=>Ab O (AN Try.call90 O (.cons rfl .nil) ((CallsR.val (IU (p:Int) _) (congrArg Value.bool (decide_eq_true (hH.1)))))) rfl ?_;rintro _ w' a ⟨hx,rfl⟩ O;have J:=J.ext hx;refine st O (BW (b:=true) O rfl) rfl fun a O=>mv O rfl rfl fun a O=>BN O rfl rfl rfl (AD AY O rfl) rfl fun a O=>BN O rfl rfl rfl (AP AU O rfl (J.row 0 rfl) (Aq (by omega))) rfl fun a O=>BN O rfl rfl rfl (Am O rfl rfl) rfl fun a O=>st O (At O rfl rfl) rfl fun a O=>mv O rfl rfl fun a O=>?_
  by_cases g2:((n:Int):Int)<1
  . first | rw [decide_eq_true g2] at O | simp only [decide_eq_true g2] at O
    exfalso;omega
  first | rw [decide_eq_false g2] at O | simp only [decide_eq_false g2] at O
  refine BN O rfl rfl rfl (AD AY O rfl) rfl fun a O=>BN O rfl rfl rfl (AP AU O rfl (J.row 0 rfl) (Aq (by omega))) rfl fun a O=>BN O rfl rfl rfl (CV O rfl rfl) rfl fun a O=>st O (At O rfl rfl) rfl fun a O=>nt<|AR O rfl (fun h3=>?_) (fun h3=>?_)
  . exfalso;omega
  refine wp_skip<|tN<|sq<|sr<|st O (AA AH O rfl (J.row 0 rfl) (by simp only [AM]<;>omega) (whole AE)) rfl fun a O=>st O (AD BH O rfl) rfl fun a O=>st O (AA AQ O rfl (J.row 0 rfl) (by simp only [AM]<;>omega) (Fu (by omega) (by omega))) rfl fun a O=>Ab O (AN Try.call91 O (.cons rfl (.cons rfl .nil)) ((CallsR.val (C4 (p:Int) (n:Int) T f (f) _ (fun _=>by first | exact hv _ | exact hu _ | exact hT _ _ _ | exact hf _ | omega | (split<;>omega) | (dsimp only;split<;>omega) | assumption)) (congrArg Value.bool (decide_eq_true (hH.2.2.1)))))) rfl ?_;rintro _ w' a ⟨hx,rfl⟩ O;have J:=J.ext hx;refine st O (BW (b:=true) O rfl) rfl fun a O=>mv O rfl rfl fun a O=>BN O rfl rfl rfl (AA AH O rfl (J.row 0 rfl) (by simp only [AM]<;>omega) (whole AE)) rfl fun a O=>Ey O rfl rfl rfl (AN Try.call92 O (.cons rfl .nil) ((CallsR.val (Hs (p:Int) (n:Int) T f _ (fun _ _ _=>hT _ _ _) (fun _=>hf _)) (congrArg Value.bool (decide_eq_true ((JQ (DO hH.1)).2 hH.2.2.2)))))) rfl ?_;rintro _ w' a ⟨hx,rfl⟩ O;have J:=J.ext hx;refine BN O rfl rfl rfl (BW (b:=true) O rfl) rfl fun a O=>st O (At O rfl rfl) rfl fun a O=>mv O rfl rfl fun a O=>BN O rfl rfl rfl (AA AH O rfl (J.row 0 rfl) (by simp only [AM]<;>omega) (whole AE)) rfl fun a O=>Ey O rfl rfl rfl (AN Try.call93 O (.cons rfl .nil) (HU p n T f _ (by omega) (by omega) (by omega) (fun _ _ _=>hT _ _ _) (fun _=>hf _))) rfl ?_;rintro _ w' a ⟨hx,rfl⟩ O;have J:=J.ext hx;refine BN O rfl rfl rfl (CD O rfl) rfl fun a O=>st O (At O rfl rfl) rfl fun a O=>nt<|AR O rfl (fun h4=>?_) (fun h4=>?_)
  . refine sq ?_
    refine wp_region_lit<|ag O rfl rfl fun a O=>nt<|wp_ret<|tR<|A0 rfl O.defers (AL O rfl) ⟨_,rfl,J.below,?_⟩
    show _=_
    exact CP (fun hq=>(by assumption:¬ P7 p n T) ((Mt hO).2 hq.1))
  refine wp_skip<|tN<|sr<|st O (AA AH O rfl (J.row 0 rfl) (by simp only [AM]<;>omega) (whole AE)) rfl fun a O=>Ab O (AN Try.call94 O (.cons rfl .nil) (Hu p n T f _ hp hn0 hn hJ)) rfl ?_;rintro _ w' a ⟨hx,⟨uu,huu,rfl⟩ | ⟨huu,rfl⟩⟩ O
  . have J:=J.ext hx
    refine mv O rfl rfl fun a O=>st O (AO O rfl rfl) rfl fun a O=>st O (AO O rfl rfl) rfl fun a O=>Ab O (AV 1 J Ae) rfl ?_;rintro _ w' a ⟨b5,rfl,J,-⟩ O;change AT _ _ [_,some (b5,Al 6 (fun _=>.int .u8 (0)))] [] at J;refine A7 O (AI 1 J rfl Aa O rfl rfl AX (by simp only [AM]) (by simp only [AM]<;>omega) (AF _ _ (by simp only [AM]))) ?_;intro _ w' a J O;change AT _ _ [_,some (b5,AG uu)] [] at J;refine ag O rfl rfl fun a O=>ns<|mv O rfl rfl fun a O=>ag O rfl rfl fun a O=>nt<|wp_ret<|A0 rfl O.defers (AL O rfl) ⟨_,rfl,J.below,?_⟩
    show _=_
    exact GT ⟨(Mt hO).1 (Decidable.not_not.1 (by assumption)),_,huu⟩
  have J:=J.ext hx;refine mv O rfl rfl fun a O=>st O (AO O rfl rfl) rfl fun a O=>st O (AO O rfl rfl) rfl fun a O=>Ab O (AV 1 J Ae) rfl ?_;rintro _ w' a ⟨b6,rfl,J,-⟩ O;change AT _ _ [_,some (b6,Al 6 (fun _=>.int .u8 (0)))] [] at J;refine A7 O (AI 1 J rfl Aa O rfl rfl AX (by simp only [AM]) (by simp only [AM]<;>omega) (AF _ _ (by simp only [AM]))) ?_;intro _ w' a J O;change AT _ _ [_,some (b6,AG (fun _=>0))] [] at J;refine ag O rfl rfl fun a O=>ns<|mv O rfl rfl fun a O=>ag O rfl rfl fun a O=>nt<|wp_ret<|A0 rfl O.defers (AL O rfl) ⟨_,rfl,J.below,?_⟩
  show _=_
  exact CP (fun hq=>by obtain ⟨u,hu⟩:=hq.2;exact huu u hu)
theorem Dq (p n:Int)(T:Nat->Nat->Nat->Nat)(f:Nat->Nat)(w:World)(hT:∀ i j k,T i j k<=255)(hf:∀ i,f i<=255):I5 Try.prog 12 #[.agg (AB p n T f)] w (.bool (decide (I7 p n T f))):=by
  by_cases hs:DN p n T f
  . have hp0:=DO hs.1
    have hn:=hs.2.1;have h:=MO p.toNat n.toNat (trunc n.toNat T) f w (HO hs.1) (by omega) (by omega) (IE hs) HJ hf;rw [show (p.toNat:Int)=p by omega,show (n.toNat:Int)=n by omega,← GV hs] at h;exact CallsR.val (h (FP hs)) (congrArg Value.bool (decide_eq_decide.2 ⟨fun h=>⟨hs,h⟩,fun h=>h.2⟩))
  . exact CallsR.val (MP p n T f w hT hf hs) (congrArg Value.bool (decide_eq_false (fun h=>hs h.1)).symm)
theorem F2 (p n:Int)(T:Nat->Nat->Nat->Nat)(f:Nat->Nat)(w:World)(hT:∀ i j k,T i j k<=255)(hf:∀ i,f i<=255):I5 Try.prog 95 #[.agg (AB p n T f)] w (.bool (decide (I7 p n T f))):=by
  by_cases hs:DN p n T f
  . have hp0:=DO hs.1
    have hn:=hs.2.1;have h:=LL p.toNat n.toNat (trunc n.toNat T) f w (HO hs.1) (by omega) (by omega) (IE hs) HJ hf;rw [show (p.toNat:Int)=p by omega,show (n.toNat:Int)=n by omega,← GV hs] at h;exact CallsR.val (h (FP hs)) (congrArg Value.bool (decide_eq_decide.2 ⟨fun h=>⟨hs,h⟩,fun h=>h.2⟩))
  . exact CallsR.val (LM p n T f w hT hf hs) (congrArg Value.bool (decide_eq_false (fun h=>hs h.1)).symm)
end Go.Proofs.Ytkcneleabbjkaaa
