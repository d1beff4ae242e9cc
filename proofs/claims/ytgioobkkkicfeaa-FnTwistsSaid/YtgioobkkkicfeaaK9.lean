import Derived.Test.YtgioobkkkicfeaaH6
set_option linter.unusedVariables false
set_option linter.unusedSimpArgs false
namespace Go.Proofs.Ytgioobkkkicfeaa
open Go Go.RowKit Go.Sw Go.Ech
def bE (i:Nat):Nat->Nat:=fun x=>if x=i then 1 else 0
def Io (p n:Nat) (T:Nat->Nat->Nat->Nat) (r:Nat):Nat->Nat:=F6 p n T (bE (r / (2*n))) (bE (r / (2*n))) n (r%(2*n))
theorem Mu {p n i k:Nat}{T:Nat->Nat->Nat->Nat}(hk:k<2*n):Io p n T (i*(2*n)+k)=F6 p n T (bE i) (bE i) n k:=by
  have e1:(i*(2*n)+k) / (2*n)=i:=by rw [Nat.mul_comm,Nat.mul_add_div (by omega),Nat.div_eq_of_lt hk];omega
  have e2:(i*(2*n)+k)%(2*n)=k:=by rw [Nat.mul_comm,Nat.mul_add_mod,Nat.mod_eq_of_lt hk]
  unfold Io;rw [e1,e2]
theorem Qy {p n g:Nat}{T:Nat->Nat->Nat->Nat}{bb cc:Nat->Nat}(hp:0<p)(hcc:∀ i,cc i<p):∀ r c,F6 p n T bb cc g r c<p:=fun r c=>by
  unfold F6 timesV
  split
  . split<;>exact Nat.mod_lt _ hp
  . split
    . exact hcc _
    . exact hp
theorem Ra {p i:Nat}(hp:2<=p):∀ c,bE i c<p:=fun c=>by unfold bE;split<;>omega
theorem I3 {p n a i k:Nat}{T:Nat->Nat->Nat->Nat}(ha:a<n)(hi:i<n)(hT:T a i k<p):timesV p n T (fun x=>if x=a then 1 else 0) (bE i) k=T a i k:=by
  unfold timesV
  have e:(prodI T (fun x=>if x=a then 1 else 0) (bE i) n n k:Int)=(T a i k:Int):=by
    rw [Lm ha,Bl hi]
    . simp [bE]
    . intro j _ hne;simp [bE,hne]
  rw [show prodI T (fun x=>if x=a then 1 else 0) (bE i) n n k=T a i k by omega];exact Nat.mod_eq_of_lt hT
theorem J1 {p n r:Nat}{T:Nat->Nat->Nat->Nat}{bb cc x:Nat->Nat}(hn:n<=6) :
    dot 7 (ci (F6 p n T bb cc n r)) (KO 6 x)=sI (fun a=>(x a:Int)*((if r<n then timesV p n T (fun x=>if x=a then 1 else 0) bb r else timesV p n T bb (fun x=>if x=a then 1 else 0) (r - n):Nat):Int)) n - (cc (r%n):Int):=by
  have e:dot 7 (ci (F6 p n T bb cc n r)) (KO 6 x)=sI (fun c=>ci (F6 p n T bb cc n r) c*KO 6 x c) 6+ci (F6 p n T bb cc n r) 6*KO 6 x 6:=rfl;rw [e,Gm hn (fun c h1 h2=>by simp only [ci,F6];rw [if_neg (by omega),if_neg (by omega)];simp)];have e1:sI (fun c=>ci (F6 p n T bb cc n r) c*KO 6 x c) n=sI (fun a=>(x a:Int)*((if r<n then timesV p n T (fun x=>if x=a then 1 else 0) bb r else timesV p n T bb (fun x=>if x=a then 1 else 0) (r - n):Nat):Int)) n:=Ar fun c hc=>by
    rw [Q7 (by omega)];simp only [ci,F6,if_pos hc];exact Int.mul_comm _ _
  have e2:ci (F6 p n T bb cc n r) 6=(cc (r%n):Int):=by simp only [ci,F6];rw [if_neg (by omega)];simp
  rw [e1,e2,Qc];omega
theorem P6 {p n:Nat}{T:Nat->Nat->Nat->Nat}{bb cc x:Nat->Nat}(hn0:0<n)(hn:n<=6):Ker p 7 (F6 p n T bb cc n) (2*n) (KO 6 x) ↔
    (∀ k,k<n->(p:Int)∣sI (fun a=>(x a:Int)*(timesV p n T (fun x=>if x=a then 1 else 0) bb k:Int)) n - (cc k:Int))/\(∀ k,k<n->(p:Int)∣sI (fun a=>(x a:Int)*(timesV p n T bb (fun x=>if x=a then 1 else 0) k:Int)) n - (cc k:Int)):=by
  constructor
  . intro h
    refine ⟨fun k hk=>?_,fun k hk=>?_⟩
    . have:=h k (by omega);rw [J1 hn,Nat.mod_eq_of_lt hk] at this;simpa only [if_pos hk] using this
    . have:=h (n+k) (by omega);rw [J1 hn,Nat.add_mod_left,Nat.mod_eq_of_lt hk] at this;simpa only [if_neg (show ¬ n+k<n by omega),Nat.add_sub_cancel_left] using this
  . intro h r hr
    rw [J1 hn]
    by_cases e:r<n
    . rw [Nat.mod_eq_of_lt e];simp only [if_pos e];exact h.1 r e
    . have em:r%n=r - n:=by rw [Nat.mod_eq_sub_mod (by omega),Nat.mod_eq_of_lt (by omega)]
      rw [em];simp only [if_neg e];exact h.2 (r - n) (by omega)
theorem LC {p n:Nat}{T:Nat->Nat->Nat->Nat}{x:Nat->Nat}(hp:2<=p)(hn0:0<n)(hn:n<=6)(hT:∀ i j k,T i j k<p):Ker p 7 (Io p n T) (n*(2*n)) (KO 6 x) ↔
    (∀ i,i<n->∀ c,c<n->(p:Int)∣sI (fun a=>(x a:Int)*(T a i c:Int)) n - (dl i c:Int))/\(∀ i,i<n->∀ c,c<n->(p:Int)∣sI (fun b=>(x b:Int)*(T i b c:Int)) n - (dl i c:Int)):=by
  have key:∀ i,i<n->(Ker p 7 (F6 p n T (bE i) (bE i) n) (2*n) (KO 6 x)↔(∀ c,c<n->(p:Int)∣sI (fun a=>(x a:Int)*(T a i c:Int)) n - (dl i c:Int))/\(∀ c,c<n->(p:Int)∣sI (fun b=>(x b:Int)*(T i b c:Int)) n - (dl i c:Int))):=by
    intro i hi;rw [P6 hn0 hn];have eb:∀ c,bE i c=dl i c:=fun c=>QY;refine and_congr (forall_congr' fun c=>imp_congr_right fun hc=>?_) (forall_congr' fun c=>imp_congr_right fun hc=>?_)
    . rw [eb,Ar (g:=fun a=>(x a:Int)*(T a i c:Int)) (fun a ha=>by rw [I3 ha hi (hT _ _ _)])]
    . rw [eb,Ar (g:=fun b=>(x b:Int)*(T i b c:Int)) (fun b hb=>by rw [show timesV p n T (bE i) (fun x=>if x=b then 1 else 0) c=T i b c from I3 (i:=b) hi hb (hT _ _ _)])]
  constructor
  . intro h
    have hh:∀ i,i<n->Ker p 7 (F6 p n T (bE i) (bE i) n) (2*n) (KO 6 x):=fun i hi k hk=>by
      have hlt:i*(2*n)+k<n*(2*n):=by
        have h1:(i+1)*(2*n)<=n*(2*n):=Nat.mul_le_mul_right _ hi;have h2:(i+1)*(2*n)=i*(2*n)+2*n:=Nat.succ_mul i _
        omega
      have:=h (i*(2*n)+k) hlt
      rwa [Mu hk] at this
    exact ⟨fun i hi=>((key i hi).1 (hh i hi)).1,fun i hi=>((key i hi).1 (hh i hi)).2⟩
  . intro h r hr
    have hi:r / (2*n)<n:=(Nat.div_lt_iff_lt_mul (by omega)).2 hr;exact (key _ hi).2 ⟨h.1 _ hi,h.2 _ hi⟩ _ (Nat.mod_lt _ (by omega))
theorem Ni {p n r c:Nat}{T:Nat->Nat->Nat->Nat}(h1:n<=c)(h2:c<6):Io p n T r c=0:=by
  unfold Io F6;rw [if_neg (by omega),if_neg (by omega)]
theorem Nb {p n k:Nat}{E:Nat->Nat->Nat}{ld:Nat->Nat}{T:Nat->Nat->Nat->Nat}(hp:2<=p)(hn0:0<n)(hn:n<=6)(hT:∀ i j k,T i j k<p)(hE1:∀ i c,E i c<p)(h:Rref p 7 E k ld)(hK:∀ x,Ker p 7 E k x↔Ker p 7 (Io p n T) (n*(2*n)) x)(hl:¬ Bx k ld 6) :
    UnitI p n T (fun c=>solK E ld 6 k c):=by
  have h1:=(LC hp hn0 hn hT).1 ((hK _).1 (Pb h hl));refine ⟨fun c=>Pd (k:=k) (by omega) hE1 (p:=p) (N:=7),fun c hc=>?_,h1.1,h1.2⟩;refine OE fun hlc=>?_;obtain ⟨j,hj,e⟩:=hlc;have h3:=h.lt j hj
  by_cases e6:c=6
  . exact hl ⟨j,hj,by omega⟩
  . exact MW hp h hK (c:=c) (by omega) (fun i _=>Ni hc (by omega)) ⟨j,hj,e⟩
theorem O3 {p n k:Nat}{E:Nat->Nat->Nat}{ld:Nat->Nat}{T:Nat->Nat->Nat->Nat}(hp:2<=p)(hn0:0<n)(hn:n<=6)(hT:∀ i j k,T i j k<p)(h:Rref p 7 E k ld)(hK:∀ x,Ker p 7 E k x↔Ker p 7 (Io p n T) (n*(2*n)) x)(hl:Bx k ld 6)(u:Nat->Nat):¬ UnitI p n T u:=
  fun hu=>Qp hp h hl ((hK _).2 ((LC hp hn0 hn hT).2 ⟨hu.right,hu.left⟩))
theorem K4 (p n:Nat)(T:Nat->Nat->Nat->Nat)(f:Nat->Nat)(w:World)(hp:primeN p)(hn0:0<n)(hn:n<=6)(hU:∀ i j k,T i j k<p) :
    CallsR Try.prog 61 #[.agg (AY (p:Int) (n:Int) T f)] w (fun res _=>(∃ u,UnitI p n T u/\res = .tuple #[.agg (Af u),.bool true])\/((∀ u,¬ UnitI p n T u)/\res = .tuple #[.agg (Af (fun _=>0)),.bool false])):=by
  refine AQ [.agg (AY (p:Int) (n:Int) T f)] Try.func61 rfl Try.ntmps61 rfl fun a O=>?_;have J:AR w w [none,none,none,none] []:=MemX.start w 4;change Fr 27 a [(0,.agg (AY (p:Int) (n:Int) T f))] at O;have hp2:=hp.two;have hp13:=hp.le;have hT:∀ i j k,T i j k<=255:=fun i j k=>by have:=hU i j k;omega
  refine sr<|Aj O (Aw 0 J O rfl) rfl ?_;rintro _ w' a ⟨b1,rfl,J,-⟩ O;refine Aj O (Ax 1 J CU) rfl ?_;rintro _ w' a ⟨b2,rfl,J,-⟩ O;change AR _ _ [some (b1,AY (p:Int) (n:Int) T f),some (b2,BH 6 (fun _=>.int .u8 (0))),_,_] [] at J;refine ag O rfl rfl fun a O=>ns<|ag O rfl rfl fun a O=>nt<|sq<|sr<|st O (AC BG O rfl) rfl fun a O=>st O (AM AL O rfl (J.row 0 rfl) (Bn (by omega))) rfl fun a O=>mv O rfl rfl fun a O=>nt<|wp_block ?_;change AR _ _ [_,_,_,_] [] at J;refine Ag (fun (kk:Nat) a w'=>kk<=n/\∃ (D1:Al),∃ (β:Nat->Nat),(RowsB D1 7 (kk*(2*n)) β (Io p n T)/\(∀ i,i<kk*(2*n)->w.heap.size<=β i))/\∃ (u4_1:Value) (e4_1:Option (Nat×Array Value)),Sl 1 u4_1 e4_1 (kk*(2*n)) (fun i=>.slice (some ⟨β i,0,none⟩) 7 7)/\Fr 27 a [(1,ptr b1 (0)),(2,ptr b2 (0)),(3,.bool (false)),(8,.int .i64 (n:Int)),(9,.int .i64 (kk:Int)),(4,u4_1)]/\AR w w' [some (b1,AY (p:Int) (n:Int) T f),some (b2,BH 6 (fun _=>.int .u8 (0))),none,e4_1] D1) (fun kk=>n - kk) 0 ?_ ?_
  . refine ⟨by omega,[],(fun _=>0),⟨by rw [Nat.zero_mul];exact RowsB.none,fun i hi=>by rw [Nat.zero_mul] at hi;omega⟩,(.slice none 0 0),(none),(by rw [Nat.zero_mul];exact Sl.nil _ _),O.sub _ (by repeat' constructor),?_⟩
    exact J
  clear O J;rintro gi a w' ⟨hgi,D1,β,⟨hB,hJ⟩,u4_1,e4_1,hsl,O,J⟩;have hgin:=Nat.le_trans (Nat.mul_le_mul_right (2*n) hgi) (Nat.mul_le_mul hn (Nat.mul_le_mul_left 2 hn));refine sr<|st O (Ak O rfl rfl) rfl fun a O=>nt<|sq<|AI O rfl (fun h3=>?_) (fun h3=>?_)
  . refine wp_skip ?_
    refine tN<|sq<|wp_block<|sr<|mv O rfl rfl fun a O=>ag O rfl rfl fun a O=>ns<|mv O rfl rfl fun a O=>Aj O (AO Try.call70 O (.cons rfl .nil) (CZ (gi) _ (by omega))) rfl ?_;rintro _ w' a ⟨hx,rfl⟩ O;have J:=J.ext hx;refine Aj O (Ax 2 J CU) rfl ?_;rintro _ w' a ⟨b4,rfl,J,-⟩ O;change AR _ _ [_,_,some (b4,BH 6 (fun _=>.int .u8 (0))),_] _ at J;refine Bu O (AX 2 J rfl CV O rfl rfl Bp (by simp only [AT]) (by simp only [AT]<;>omega) (AP _ _ (by simp only [AT]))) ?_;intro _ w' a J O;change AR _ _ [_,_,some (b4,Af (fun c=>if c=gi then 1 else 0)),_] _ at J;refine nt<|wp_region_lit<|mv O rfl rfl fun a O=>st O (AF A3 O rfl (J.row 0 rfl) (by simp only [AT]<;>omega) (whole Aq)) rfl fun a O=>st O (AF Bc O rfl (J.row 2 rfl) (by simp only [AT]<;>omega) (whole (by simp only [AT]))) rfl fun a O=>st O (AF Bc O rfl (J.row 2 rfl) (by simp only [AT]<;>omega) (whole (by simp only [AT]))) rfl fun a O=>Aj O (AO Try.call79 O (.cons rfl (.cons rfl (.cons rfl .nil))) (Hi p n T f ((fun c=>if c=gi then 1 else 0)) ((fun c=>if c=gi then 1 else 0)) _ (by omega) (by omega) (by omega) (by omega) (fun _ _ _=>hT _ _ _) (fun i=>by first | (dsimp only;split<;>omega) | (split<;>omega)) (fun i=>by first | (dsimp only;split<;>omega) | (split<;>omega)))) rfl ?_;rintro u w' a ⟨hx,hr⟩ O;obtain ⟨DQ,βq,bq,csq,hBq,rfl,hsq,hgq,hqm,hqb,hqg,hbqg,J,hqn⟩:=J.addBo hx hr;change AR w w' [some (b1,AY (p:Int) (n:Int) T f),some (b2,BH 6 (fun _=>.int .u8 (0))),some (b4,Af (fun c=>if c=gi then 1 else 0)),e4_1] (DQ++D1) at J;refine Aj O (B5 (k:=3) (N:=gi*(2*n)) (m:=(2*n)) (g:=fun i=>.slice (some ⟨βq (i),0,none⟩) 7 7) E5 rfl (by decide) J rfl O rfl rfl hsl (fun i hi=>((J.fzm hqm).cell _).trans (by have:=(hgq (i) (by omega));rwa [show 0+i*1=0+i by omega] at this)) (fun _ _=>rfl) (by omega) (by unfold maxLen;omega) (by omega)) rfl ?_;rintro u5 w' a ⟨e6,J,hs7⟩ O;change AR w w' [some (b1,AY (p:Int) (n:Int) T f),some (b2,BH 6 (fun _=>.int .u8 (0))),some (b4,Af (fun c=>if c=gi then 1 else 0)),e6] (DQ++D1) at J;refine ag O rfl rfl fun a O=>wpList_nil<|iN<|tN<|wp_region_lit<|st O (Ac O rfl rfl (AN (gi) (1) (by omega))) rfl fun a O=>mv O rfl rfl fun a O=>wpList_nil<|tN ?_;have hsl:=hs7.congr (g:=fun i=>.slice (some ⟨(fun i=>if i<gi*(2*n) then β i else βq (i - gi*(2*n))) i,0,none⟩) 7 7) (fun i hi=>by
      by_cases e:i<gi*(2*n)
      . rw [if_pos (by omega)];simp only [if_pos e]
      . rw [if_neg (by omega)];simp only [if_neg e,Nat.mul_one])
    have hB:=((hB.more (D':=(DQ++D1)) (fun x hx=>List.mem_append_right _ hx)).append hBq (fun i j hi hj=>hqn _ _ (hB.mem i hi) j hj)).congr (M':=Io p n T) (fun r hr c _=>by
      by_cases e:r<gi*(2*n)
      . simp only [if_pos e]
      . simp only [if_neg e];have e2:=Mu (p:=p) (T:=T) (i:=gi) (show r - gi*(2*n)<2*n by omega);rw [show gi*(2*n)+(r - gi*(2*n))=r by omega] at e2;rw [e2];rfl)
    have hJ:∀ i,i<gi*(2*n)+2*n->w.heap.size<=(fun i=>if i<gi*(2*n) then β i else βq (i - gi*(2*n))) i:=fun i hi=>by
      dsimp only;split
      . exact hJ i (by omega)
      . exact hqg _ (by omega)
    have J:=J.drop 2;refine ⟨gi+1,⟨by omega,(DQ++D1),(fun i=>if i<gi*(2*n) then β i else βq (i - gi*(2*n))),⟨by rw [Nat.succ_mul];exact hB,by rw [Nat.succ_mul];exact hJ⟩,(u5),(e6),(by rw [Nat.succ_mul];exact hsl),O.sub _ (by repeat' constructor),?_⟩,by omega⟩;exact J
  obtain rfl:n=gi:=by omega
  have hmm:=Nat.mul_le_mul hn (Nat.mul_le_mul_left 2 hn);have hm0:0<n*(2*n):=Nat.mul_pos (by omega) (by omega);obtain ⟨b0,c0,cs0,rfl,rfl,hs0⟩:=hsl.pos hm0;have hne0:∀ i,i<n*(2*n)->β i≠b0:=fun i hi e=>(J.froz _ _ (hB.mem i hi)).2 3 b0 cs0 rfl e.symm;have hgb0:=J.ge 3 rfl;have J:=J.freeze 3 rfl;change AR w _ [some (b1,AY (p:Int) (n:Int) T f),some (b2,BH 6 (fun _=>.int .u8 (0))),none,none] ((b0,cs0)::D1) at J;refine wp_exit<|tX<|tX<|AW<|tN<|sr<|mv O rfl rfl fun a O=>st O (AC Ca O rfl) rfl fun a O=>st O (AM AL O rfl (J.row 0 rfl) (DV (by omega))) rfl fun a O=>Aj O (Am Try.call80 O (.cons rfl (.cons rfl .nil)) (Jd p (n*(2*n)) b0 c0 cs0 β (Io p n T) _ hp (by omega) hs0.le (fun r c=>Qy (by omega) (Ra hp2) _ _) (J.fzm (List.mem_cons_self ..)) (by have:=hs0.sz;have:=hs0.le;omega) (fun i hi=>hs0.get1 i hi) (fun i hi=>J.fzm (List.mem_cons_of_mem _ (hB.mem i hi))) hB.inj hne0)) rfl ?_;rintro _ w' a ⟨hx,k,E,ld,hE,hH,hE1,⟨hl,rfl⟩ | ⟨hl,rfl⟩⟩ O
  . have J:=J.swapD (D':=[]) hx (fun y hy=>by
     rcases List.mem_cons.1 hy with e | hy
     . exact ⟨cs0,by rw [e];exact List.mem_cons_self ..⟩
     . obtain ⟨i,hi,rfl⟩:=List.mem_map.1 hy
       exact ⟨_,List.mem_cons_of_mem _ (hB.mem i (by simpa using hi))⟩) (fun y hy=>by
     rcases List.mem_cons.1 hy with e | hy
     . exact .inl (by rw [e];exact hgb0)
     . obtain ⟨i,hi,rfl⟩:=List.mem_map.1 hy
       exact .inl (hJ i (by simpa using hi))) (fun _ _ h=>by cases h)
    change AR w w' [some (b1,AY (p:Int) (n:Int) T f),some (b2,BH 6 (fun _=>.int .u8 (0))),none,none] [] at J;refine st O (AZ O rfl rfl) rfl fun a O=>st O (AZ O rfl rfl) rfl fun a O=>Bu O (AX 1 J rfl CV O rfl rfl Bp (by simp only [AT]) (by simp only [AT]<;>omega) (AP _ _ (by simp only [AT]))) ?_;intro _ w' a J O;change AR _ _ [_,some (b2,Af (fun c=>solK E ld 6 k c)),_,_] [] at J;refine ag O rfl rfl fun a O=>nt<|wp_ret<|By rfl O.defers (BD Bc O rfl (J.row 1 rfl) (by simp only [AT])) (AE O rfl) ⟨_,rfl,J.below,?_⟩;exact .inl ⟨_,Nb hp2 hn0 hn hU hE1 hE hH hl,rfl⟩
  have J:=J.swapD (D':=[]) hx (fun y hy=>by
   rcases List.mem_cons.1 hy with e | hy
   . exact ⟨cs0,by rw [e];exact List.mem_cons_self ..⟩
   . obtain ⟨i,hi,rfl⟩:=List.mem_map.1 hy
     exact ⟨_,List.mem_cons_of_mem _ (hB.mem i (by simpa using hi))⟩) (fun y hy=>by
   rcases List.mem_cons.1 hy with e | hy
   . exact .inl (by rw [e];exact hgb0)
   . obtain ⟨i,hi,rfl⟩:=List.mem_map.1 hy
     exact .inl (hJ i (by simpa using hi))) (fun _ _ h=>by cases h)
  change AR w w' [some (b1,AY (p:Int) (n:Int) T f),some (b2,BH 6 (fun _=>.int .u8 (0))),none,none] [] at J;refine st O (AZ O rfl rfl) rfl fun a O=>st O (AZ O rfl rfl) rfl fun a O=>Bu O (AX 1 J rfl CV O rfl rfl Bp (by simp only [AT]) (by simp only [AT]<;>omega) (AP _ _ (by simp only [AT]))) ?_;intro _ w' a J O;change AR _ _ [_,some (b2,Af (fun _=>0)),_,_] [] at J;refine ag O rfl rfl fun a O=>nt<|wp_ret<|By rfl O.defers (BD Bc O rfl (J.row 1 rfl) (by simp only [AT])) (AE O rfl) ⟨_,rfl,J.below,?_⟩;exact .inr ⟨fun u=>O3 hp2 hn0 hn hU hE hH hl u,rfl⟩
open Classical
theorem CallsR.val {P:Program}{f:FuncId}{args:Array Value}{w:World}{v v':Value}(h:CallsR P f args w (fun u _=>u=v))(e:v=v'):CallsR P f args w (fun u _=>u=v'):=e ▸ h
def Rk (p n:Nat) (T:Nat->Nat->Nat->Nat):Prop:=∀ i,i<n->∀ j,j<n->∀ k,k<n->LP 6 (timesS p n T (T i j) (fun c=>if c=k then 1 else 0)) (timesS p n T (fun c=>if c=i then 1 else 0) (T j k))
def RC (p n:Nat) (T:Nat->Nat->Nat->Nat):Prop:=Rk p n T/\∃ u,UnitI p n T u
def trunc (n:Nat) (T:Nat->Nat->Nat->Nat) (i j k:Nat):Nat:=if i<n/\j<n/\k<n then T i j k else 0
def QJ (p n:Int) (T:Nat->Nat->Nat->Nat) (f:Nat->Nat):Prop:=D7 p n T f/\RC p.toNat n.toNat (trunc n.toNat T)
theorem H4 {f:Nat->Nat}{n:Nat}(h:∀ i,i<n->f i=0):sumTo f n=0:=by
  induction n with
  | zero=>rfl
  | succ n ih=>simp only [sumTo];rw [ih (fun i hi=>h i (by omega)),h n (by omega)]
theorem LW {p n c:Nat}{T:Nat->Nat->Nat->Nat}{v u:Nat->Nat}(hO:∀ i j k,n<=k->T i j k=0)(hc:n<=c):timesV p n T v u c=0:=by
  unfold timesV prodI
  rw [H4 (fun i _=>H4 fun j _=>by rw [hO i j c hc];simp)]
  simp
theorem N7 {p n:Nat}{T:Nat->Nat->Nat->Nat}(hO:∀ i j k,n<=k->T i j k=0)(v u:Nat->Nat):timesV p n T v u=timesS p n T v u:=by
  funext c
  unfold timesS
  by_cases h:c<n
  . rw [if_pos h]
  . rw [if_neg h,LW hO (by omega)]
theorem Mv {p n:Nat}{T:Nat->Nat->Nat->Nat}(hO:∀ i j k,n<=k->T i j k=0):RA p n T↔Rk p n T:=by
  unfold RA Qd Q8 Rk
  simp only [N7 hO];exact ⟨fun h i hi j hj k hk=>h j hj i hi k hk,fun h j hj i hi k hk=>h i hi j hj k hk⟩
theorem Pm {p n:Int}{T:Nat->Nat->Nat->Nat}{i j:Nat}(hp:0<p):Kp p n T i j↔NK p n T i j:=by
  unfold Kp NK
  by_cases h:(i:Int)≥n\/(j:Int)≥n
  . rw [if_pos h]
    constructor
    . intro h1 c hc
      have h2:LP 6 (T i j) (fun _=>0):=Classical.byContradiction fun h3=>h1 (.inl ⟨by omega,h3⟩);have h4:=h2 c hc
      dsimp only at h4
      unfold JE;omega
    . intro h1 h2
      have h0:∀ c,c<6->T i j c=0:=fun c hc=>by have:=h1 c hc;unfold JE at this;omega
      rcases h2 with ⟨_,h3⟩ | h3
      . exact h3 h0
      . exact h3 fun c hc=>by have:=h0 c hc;unfold JE;omega
  . rw [if_neg h]
    constructor
    . intro h1;exact Classical.byContradiction fun h3=>h1 (.inr h3)
    . rintro h1 (⟨h2,_⟩ | h2)
      . exact h2 ⟨by omega,by omega⟩
      . exact h2 h1
theorem I4 {p n:Int}{T:Nat->Nat->Nat->Nat}(hp:0<p):KA 6 (Kp p n T)↔KA 6 (NK p n T):=by
  unfold KA
  simp only [Pm hp]
theorem EC {p:Int}(h:Ae p):0<p:=by unfold Ae at h;omega
theorem MG {p n:Int}{T:Nat->Nat->Nat->Nat}{f:Nat->Nat}(h:D7 p n T f):AY p n T f=AY p n (trunc n.toNat T) f:=by
  obtain ⟨_,hn,_,hT⟩:=h
  unfold AY
  refine BL fun c hc=>?_
  by_cases h0:c=0
  . rw [if_pos h0,if_pos h0]
  . rw [if_neg h0,if_neg h0]
    by_cases h1:c=1
    . rw [if_pos h1,if_pos h1]
    . rw [if_neg h1,if_neg h1]
      by_cases h2:c<218
      . rw [if_pos h2,if_pos h2]
        have:=hT ((c - 2) / 36) (by omega) ((c - 2) / 6%6) (by omega) ((c - 2)%6) (by omega);have e:trunc n.toNat T ((c - 2) / 36) ((c - 2) / 6%6) ((c - 2)%6)=T ((c - 2) / 36) ((c - 2) / 6%6) ((c - 2)%6):=by
          unfold trunc;split
          . rfl
          . rename_i hno
            unfold JE at this
            split at this<;>omega
        rw [e]
      . rw [if_neg h2,if_neg h2]
theorem N5 {p n:Int}{T:Nat->Nat->Nat->Nat}{f:Nat->Nat}(h:D7 p n T f)(i j k:Nat):trunc n.toNat T i j k<p.toNat:=by
  obtain ⟨hp,hn,_,hT⟩:=h;have hp0:=EC hp
  unfold trunc;split
  . rename_i hh
    have:=hT i (by omega) j (by omega) k (by omega)
    unfold JE at this
    omega
  . omega
theorem ND {n:Nat}{T:Nat->Nat->Nat->Nat}(i j k:Nat)(h:n<=k):trunc n T i j k=0:=by unfold trunc;rw [if_neg (by omega)]
theorem Kk {p n:Int}{T:Nat->Nat->Nat->Nat}{f:Nat->Nat}(h:D7 p n T f):D7 p n (trunc n.toNat T) f:=by
  refine ⟨h.1,h.2.1,h.2.2.1,fun i hi j hj c hc=>?_⟩;have h1:=h.2.2.2 i hi j hj c hc;have hp:=EC h.1
  by_cases e:i<n.toNat/\j<n.toNat/\c<n.toNat
  . have e2:trunc n.toNat T i j c=T i j c:=by unfold trunc;rw [if_pos e]
    rw [e2];exact h1
  . have e2:trunc n.toNat T i j c=0:=by unfold trunc;rw [if_neg e]
    rw [e2];unfold JE;omega
theorem Gp {p:Int}(h:Ae p):primeN p.toNat:=by unfold Ae at h;unfold primeN;omega
theorem MK (p n:Int)(T:Nat->Nat->Nat->Nat)(f:Nat->Nat)(w:World)(hT:∀ i j k,T i j k<=255)(hf:∀ i,f i<=255)(hsh:¬ D7 p n T f) :
    CallsR Try.prog 40 #[.agg (AY p n T f)] w (fun res _=>res = .bool false):=by
  refine AQ [.agg (AY p n T f)] Try.func40 rfl Try.ntmps40 rfl fun a O=>?_;have J:AR w w [none,none] []:=MemX.start w 2;change Fr 40 a [(0,.agg (AY p n T f))] at O;refine sr<|Aj O (Aw 0 J O rfl) rfl ?_;rintro _ w' a ⟨b1,rfl,J,-⟩ O;change AR _ _ [some (b1,AY p n T f),_] [] at J;refine ag O rfl rfl fun a O=>nt<|sq<|sr<|st O (AC Ca O rfl) rfl fun a O=>st O (AM AL O rfl (J.row 0 rfl) (DV (by omega))) rfl fun a O=>Aj O (AO Try.call49 O (.cons rfl .nil) (Et (p) _)) rfl ?_;rintro _ w' a ⟨hx,rfl⟩ O;have J:=J.ext hx;refine st O (CP O rfl) rfl fun a O=>mv O rfl rfl fun a O=>?_
  by_cases g2:¬ (Ae (p))
  . first | rw [decide_eq_true g2] at O | simp only [decide_eq_true g2] at O
    refine A4 O rfl rfl rfl rfl rfl fun a O=>A4 O rfl rfl rfl rfl rfl fun a O=>A4 O rfl rfl rfl rfl rfl fun a O=>st O (Aa O rfl rfl) rfl fun a O=>mv O rfl rfl fun a O=>A4 O rfl rfl rfl rfl rfl fun a O=>A4 O rfl rfl rfl rfl rfl fun a O=>A4 O rfl rfl rfl rfl rfl fun a O=>st O (Aa O rfl rfl) rfl fun a O=>nt<|Hk O rfl<|sr<|ag O rfl rfl fun a O=>nt<|wp_ret<|tR<|Ap rfl O.defers (AE O rfl) ⟨_,rfl,J.below,?_⟩
    show _=_
    rfl
  first | rw [decide_eq_false g2] at O | simp only [decide_eq_false g2] at O
  refine Ay O rfl rfl rfl (AC BG O rfl) rfl fun a O=>Ay O rfl rfl rfl (AM AL O rfl (J.row 0 rfl) (Bn (by omega))) rfl fun a O=>Ay O rfl rfl rfl (Ak O rfl rfl) rfl fun a O=>st O (Ai O rfl rfl) rfl fun a O=>mv O rfl rfl fun a O=>?_
  by_cases g4:(n:Int)<1
  . first | rw [decide_eq_true g4] at O | simp only [decide_eq_true g4] at O
    refine A4 O rfl rfl rfl rfl rfl fun a O=>A4 O rfl rfl rfl rfl rfl fun a O=>A4 O rfl rfl rfl rfl rfl fun a O=>st O (Aa O rfl rfl) rfl fun a O=>nt<|Hk O rfl<|sr<|ag O rfl rfl fun a O=>nt<|wp_ret<|tR<|Ap rfl O.defers (AE O rfl) ⟨_,rfl,J.below,?_⟩
    show _=_
    rfl
  first | rw [decide_eq_false g4] at O | simp only [decide_eq_false g4] at O
  refine Ay O rfl rfl rfl (AC BG O rfl) rfl fun a O=>Ay O rfl rfl rfl (AM AL O rfl (J.row 0 rfl) (Bn (by omega))) rfl fun a O=>Ay O rfl rfl rfl (Cq O rfl rfl) rfl fun a O=>st O (Ai O rfl rfl) rfl fun a O=>nt<|AI O rfl (fun h6=>?_) (fun h6=>?_)
  . refine sq ?_
    refine wp_region_lit<|ag O rfl rfl fun a O=>nt<|wp_ret<|tR<|Ap rfl O.defers (AE O rfl) ⟨_,rfl,J.below,?_⟩
    show _=_
    rfl
  refine wp_skip<|tN<|sq<|sr<|st O (AF A3 O rfl (J.row 0 rfl) (by simp only [AT]<;>omega) (whole Aq)) rfl fun a O=>st O (AC Em O rfl) rfl fun a O=>st O (AF Bc O rfl (J.row 0 rfl) (by simp only [AT]<;>omega) (G8 (by omega) (by omega))) rfl fun a O=>Aj O (AO Try.call58 O (.cons rfl (.cons rfl .nil)) (Dp p n T f (f) _ (fun _=>by first | exact hv _ | exact hu _ | exact hT _ _ _ | exact hf _ | omega | (split<;>omega) | (dsimp only;split<;>omega) | assumption))) rfl ?_;rintro _ w' a ⟨hx,rfl⟩ O;have J:=J.ext hx;refine st O (CP O rfl) rfl fun a O=>mv O rfl rfl fun a O=>?_
  by_cases g7:¬ (okV p n (f))
  . first | rw [decide_eq_true g7] at O | simp only [decide_eq_true g7] at O
    refine A4 O rfl rfl rfl rfl rfl fun a O=>A4 O rfl rfl rfl rfl rfl fun a O=>A4 O rfl rfl rfl rfl rfl fun a O=>st O (Aa O rfl rfl) rfl fun a O=>mv O rfl rfl fun a O=>A4 O rfl rfl rfl rfl rfl fun a O=>A4 O rfl rfl rfl rfl rfl fun a O=>A4 O rfl rfl rfl rfl rfl fun a O=>st O (Aa O rfl rfl) rfl fun a O=>nt<|Hk O rfl<|sr<|ag O rfl rfl fun a O=>nt<|wp_ret<|tR<|Ap rfl O.defers (AE O rfl) ⟨_,rfl,J.below,?_⟩
    show _=_
    rfl
  first | rw [decide_eq_false g7] at O | simp only [decide_eq_false g7] at O
  refine Ay O rfl rfl rfl (AF A3 O rfl (J.row 0 rfl) (by simp only [AT]<;>omega) (whole Aq)) rfl fun a O=>EX O rfl rfl rfl (AO Try.call59 O (.cons rfl .nil) (Ha p n T f _ (fun _ _ _=>hT _ _ _) (fun _=>hf _))) rfl ?_;rintro _ w' a ⟨hx,rfl⟩ O;have J:=J.ext hx;refine Ay O rfl rfl rfl (CP O rfl) rfl fun a O=>st O (Ai O rfl rfl) rfl fun a O=>mv O rfl rfl fun a O=>?_
  by_cases g9:¬ (KA 6 (Kp p n T))
  . first | rw [decide_eq_true g9] at O | simp only [decide_eq_true g9] at O
    refine A4 O rfl rfl rfl rfl rfl fun a O=>A4 O rfl rfl rfl rfl rfl fun a O=>A4 O rfl rfl rfl rfl rfl fun a O=>st O (Aa O rfl rfl) rfl fun a O=>nt<|Hk O rfl<|sr<|ag O rfl rfl fun a O=>nt<|wp_ret<|tR<|Ap rfl O.defers (AE O rfl) ⟨_,rfl,J.below,?_⟩
    show _=_
    rfl
  first | rw [decide_eq_false g9] at O | simp only [decide_eq_false g9] at O
  exact absurd (show D7 p n T f from ⟨Decidable.not_not.1 (by assumption),⟨by omega,by omega⟩,Decidable.not_not.1 (by assumption),(I4 (EC (Decidable.not_not.1 (by assumption)))).1 (Decidable.not_not.1 (by assumption))⟩) hsh
theorem MJ (p n:Nat)(T:Nat->Nat->Nat->Nat)(f:Nat->Nat)(w:World)(hp:primeN p)(hn0:0<n)(hn:n<=6)(hU:∀ i j k,T i j k<p)(hO:∀ i j k,n<=k->T i j k=0)(hf:∀ i,f i<=255)(hsh:D7 (p:Int) (n:Int) T f) :
    CallsR Try.prog 40 #[.agg (AY (p:Int) (n:Int) T f)] w (fun res _=>res = .bool (decide (RC p n T))):=by
  refine AQ [.agg (AY (p:Int) (n:Int) T f)] Try.func40 rfl Try.ntmps40 rfl fun a O=>?_;have J:AR w w [none,none] []:=MemX.start w 2;change Fr 40 a [(0,.agg (AY (p:Int) (n:Int) T f))] at O;have hp2:=hp.two;have hp13:=hp.le;have hT:∀ i j k,T i j k<=255:=fun i j k=>by have:=hU i j k;omega
  refine sr<|Aj O (Aw 0 J O rfl) rfl ?_;rintro _ w' a ⟨b1,rfl,J,-⟩ O;change AR _ _ [some (b1,AY (p:Int) (n:Int) T f),_] [] at J;refine ag O rfl rfl fun a O=>nt<|sq<|sr<|st O (AC Ca O rfl) rfl fun a O=>st O (AM AL O rfl (J.row 0 rfl) (DV (by omega))) rfl fun a O=>Aj O (AO Try.call49 O (.cons rfl .nil) ((CallsR.val (Et (p:Int) _) (congrArg Value.bool (decide_eq_true (hsh.1)))))) rfl ?_;rintro _ w' a ⟨hx,rfl⟩ O;have J:=J.ext hx;refine st O (Co (b:=true) O rfl) rfl fun a O=>mv O rfl rfl fun a O=>Ay O rfl rfl rfl (AC BG O rfl) rfl fun a O=>Ay O rfl rfl rfl (AM AL O rfl (J.row 0 rfl) (Bn (by omega))) rfl fun a O=>Ay O rfl rfl rfl (Ak O rfl rfl) rfl fun a O=>st O (Ai O rfl rfl) rfl fun a O=>mv O rfl rfl fun a O=>?_
  by_cases g2:((n:Int):Int)<1
  . first | rw [decide_eq_true g2] at O | simp only [decide_eq_true g2] at O
    exfalso;omega
  first | rw [decide_eq_false g2] at O | simp only [decide_eq_false g2] at O
  refine Ay O rfl rfl rfl (AC BG O rfl) rfl fun a O=>Ay O rfl rfl rfl (AM AL O rfl (J.row 0 rfl) (Bn (by omega))) rfl fun a O=>Ay O rfl rfl rfl (Cq O rfl rfl) rfl fun a O=>st O (Ai O rfl rfl) rfl fun a O=>nt<|AI O rfl (fun h3=>?_) (fun h3=>?_)
  . exfalso;omega
  refine wp_skip<|tN<|sq<|sr<|st O (AF A3 O rfl (J.row 0 rfl) (by simp only [AT]<;>omega) (whole Aq)) rfl fun a O=>st O (AC Em O rfl) rfl fun a O=>st O (AF Bc O rfl (J.row 0 rfl) (by simp only [AT]<;>omega) (G8 (by omega) (by omega))) rfl fun a O=>Aj O (AO Try.call58 O (.cons rfl (.cons rfl .nil)) ((CallsR.val (Dp (p:Int) (n:Int) T f (f) _ (fun _=>by first | exact hv _ | exact hu _ | exact hT _ _ _ | exact hf _ | omega | (split<;>omega) | (dsimp only;split<;>omega) | assumption)) (congrArg Value.bool (decide_eq_true (hsh.2.2.1)))))) rfl ?_;rintro _ w' a ⟨hx,rfl⟩ O;have J:=J.ext hx;refine st O (Co (b:=true) O rfl) rfl fun a O=>mv O rfl rfl fun a O=>Ay O rfl rfl rfl (AF A3 O rfl (J.row 0 rfl) (by simp only [AT]<;>omega) (whole Aq)) rfl fun a O=>EX O rfl rfl rfl (AO Try.call59 O (.cons rfl .nil) ((CallsR.val (Ha (p:Int) (n:Int) T f _ (fun _ _ _=>hT _ _ _) (fun _=>hf _)) (congrArg Value.bool (decide_eq_true ((I4 (EC hsh.1)).2 hsh.2.2.2)))))) rfl ?_;rintro _ w' a ⟨hx,rfl⟩ O;have J:=J.ext hx;refine Ay O rfl rfl rfl (Co (b:=true) O rfl) rfl fun a O=>st O (Ai O rfl rfl) rfl fun a O=>mv O rfl rfl fun a O=>Ay O rfl rfl rfl (AF A3 O rfl (J.row 0 rfl) (by simp only [AT]<;>omega) (whole Aq)) rfl fun a O=>EX O rfl rfl rfl (AO Try.call60 O (.cons rfl .nil) (Gu p n T f _ (by omega) (by omega) (by omega) (fun _ _ _=>hT _ _ _) (fun _=>hf _))) rfl ?_;rintro _ w' a ⟨hx,rfl⟩ O;have J:=J.ext hx;refine Ay O rfl rfl rfl (CP O rfl) rfl fun a O=>st O (Ai O rfl rfl) rfl fun a O=>nt<|AI O rfl (fun h4=>?_) (fun h4=>?_)
  . refine sq ?_
    refine wp_region_lit<|ag O rfl rfl fun a O=>nt<|wp_ret<|tR<|Ap rfl O.defers (AE O rfl) ⟨_,rfl,J.below,?_⟩
    show _=_
    exact BP (fun hq=>(by assumption:¬ RA p n T) ((Mv hO).2 hq.1))
  refine wp_skip<|tN<|sr<|st O (AF A3 O rfl (J.row 0 rfl) (by simp only [AT]<;>omega) (whole Aq)) rfl fun a O=>Aj O (AO Try.call61 O (.cons rfl .nil) (K4 p n T f _ hp hn0 hn hU)) rfl ?_;rintro _ w' a ⟨hx,⟨uu,huu,rfl⟩ | ⟨huu,rfl⟩⟩ O
  . have J:=J.ext hx
    refine mv O rfl rfl fun a O=>st O (AZ O rfl rfl) rfl fun a O=>st O (AZ O rfl rfl) rfl fun a O=>Aj O (Ax 1 J CU) rfl ?_;rintro _ w' a ⟨b5,rfl,J,-⟩ O;change AR _ _ [_,some (b5,BH 6 (fun _=>.int .u8 (0)))] [] at J;refine Bu O (AX 1 J rfl CV O rfl rfl Bp (by simp only [AT]) (by simp only [AT]<;>omega) (AP _ _ (by simp only [AT]))) ?_;intro _ w' a J O;change AR _ _ [_,some (b5,Af uu)] [] at J;refine ag O rfl rfl fun a O=>ns<|mv O rfl rfl fun a O=>ag O rfl rfl fun a O=>nt<|wp_ret<|Ap rfl O.defers (AE O rfl) ⟨_,rfl,J.below,?_⟩
    show _=_
    exact Ds ⟨(Mv hO).1 (Decidable.not_not.1 (by assumption)),_,huu⟩
  have J:=J.ext hx;refine mv O rfl rfl fun a O=>st O (AZ O rfl rfl) rfl fun a O=>st O (AZ O rfl rfl) rfl fun a O=>Aj O (Ax 1 J CU) rfl ?_;rintro _ w' a ⟨b6,rfl,J,-⟩ O;change AR _ _ [_,some (b6,BH 6 (fun _=>.int .u8 (0)))] [] at J;refine Bu O (AX 1 J rfl CV O rfl rfl Bp (by simp only [AT]) (by simp only [AT]<;>omega) (AP _ _ (by simp only [AT]))) ?_;intro _ w' a J O;change AR _ _ [_,some (b6,Af (fun _=>0))] [] at J;refine ag O rfl rfl fun a O=>ns<|mv O rfl rfl fun a O=>ag O rfl rfl fun a O=>nt<|wp_ret<|Ap rfl O.defers (AE O rfl) ⟨_,rfl,J.below,?_⟩
  show _=_
  exact BP (fun hq=>by obtain ⟨u,hu⟩:=hq.2;exact huu u hu)
theorem Fq (p n:Int)(T:Nat->Nat->Nat->Nat)(f:Nat->Nat)(w:World)(hT:∀ i j k,T i j k<=255)(hf:∀ i,f i<=255):RB Try.prog 40 #[.agg (AY p n T f)] w (.bool (decide (QJ p n T f))):=by
  by_cases hs:D7 p n T f
  . have hp0:=EC hs.1
    have hn:=hs.2.1;have h:=MJ p.toNat n.toNat (trunc n.toNat T) f w (Gp hs.1) (by omega) (by omega) (N5 hs) ND hf;rw [show (p.toNat:Int)=p by omega,show (n.toNat:Int)=n by omega,← MG hs] at h;exact CallsR.val (h (Kk hs)) (congrArg Value.bool (decide_eq_decide.2 ⟨fun h=>⟨hs,h⟩,fun h=>h.2⟩))
  . exact CallsR.val (MK p n T f w hT hf hs) (congrArg Value.bool (decide_eq_false (fun h=>hs h.1)).symm)
def M4 (p n:Int) (T:Nat->Nat->Nat->Nat) (f:Nat->Nat) (m:Nat) (V:Nat->Nat->Nat):Prop:=QJ p n T f/\∀ i,i<m->okV p n (V i)
theorem LF {p n:Int}{T:Nat->Nat->Nat->Nat}{f v:Nat->Nat}{o:Nat}(a b:Nat)(h:o=2+a*36+b*6)(ha:a<6)(hb:b<6):splice (AY p n T f) o (Af v)=AY p n (fun i j k=>if i=a/\j=b then v k else T i j k) f:=by
  subst h;have hz:2+a*36+b*6+(Af v).size<=(AY p n T f).size:=by rw [FW,Aq];omega
  refine KB (by rw [E8 _ _ _ hz,Aq]) ?_ ?_ ?_ ?_
  . rw [DX _ _ _ _ hz,if_neg (by omega)];exact DV rfl
  . rw [DX _ _ _ _ hz,if_neg (by omega)];exact Bn rfl
  . intro i j k hi hj hk
    rw [DX _ _ _ _ hz,FW]
    by_cases e:i=a/\j=b
    . rw [if_pos (by omega),if_pos e];exact C7 k (by omega) hk
    . rw [if_neg (by omega),if_neg e];exact FU i j k rfl hi hj hk
  . intro i hi;rw [DX _ _ _ _ hz,FW,if_neg (by omega)];exact G9 i rfl hi
theorem Be {p n:Int}{T U:Nat->Nat->Nat->Nat}{f:Nat->Nat}(h:∀ i,i<6->∀ j,j<6->∀ k,k<6->T i j k=U i j k):AY p n T f=AY p n U f:=by
  unfold AY
  refine BL fun c hc=>?_
  by_cases h0:c=0
  . rw [if_pos h0,if_pos h0]
  . rw [if_neg h0,if_neg h0]
    by_cases h1:c=1
    . rw [if_pos h1,if_pos h1]
    . rw [if_neg h1,if_neg h1]
      by_cases h2:c<218
      . rw [if_pos h2,if_pos h2,h _ (by omega) _ (by omega) _ (by omega)]
      . rw [if_neg h2,if_neg h2]
def TE (T:Nat->Nat->Nat->Nat) (i j k:Nat):Nat:=T j i k
theorem O6 {P:Program}{d:Nat}{t1 t2 t3 e:TypeId}{T U:Nat->Nat->Nat->Nat}(h1:GT P t1=some (6,t2,36))(a1:Ek P t2=some 36)(h2:GT P t2=some (6,t3,6))(a2:Ek P t3=some 6)(h3:GT P t3=some (6,e,1))(he:Im P e=true)(ho:ED P e=true) :
    Go.Sw.EqAt P (d+4) t1 (.agg (Gl T)) (.agg (Gl U)) (Rj T U):=
  (G0 (q:=fun i=>Ry (T i) (U i)) h1 a1 fun i hi=>by
    rw [Ft i rfl rfl hi,Ft i rfl rfl hi]
    exact (G0 (q:=fun j=>LP 6 (T i j) (U i j)) h2 a2 fun j hj=>by
      rw [DY j rfl rfl hj,DY j rfl rfl hj]
      exact Eh h3 he ho).congr Iff.rfl).congr Iff.rfl
def Sx (T:Nat->Nat->Nat->Nat):Prop:=∀ i,i<6->∀ j,j<i->LP 6 (T i j) (T j i)
def Rq (mul:(Nat->Nat)->(Nat->Nat)->Nat->Nat) (u v:Nat->Nat):Nat->Nat->Nat
  | 0=>u
  | k+1=>mul (Rq mul u v k) v
def ER (p n:Nat) (T:Nat->Nat->Nat->Nat) (f:Nat->Nat) (i c:Nat):Nat:=if c<n then sumTo (fun k=>T i c k*f k) 6%p else 0
theorem O1 {p n:Nat}{T:Nat->Nat->Nat->Nat}{f:Nat->Nat}(hp:0<p):∀ i c,ER p n T f i c<p:=fun i c=>by
  unfold ER;split
  . exact Nat.mod_lt _ hp
  . exact hp
def Mx (p n:Nat) (T:Nat->Nat->Nat->Nat) (f:Nat->Nat):Prop:=∃ E ld,Rref p 6 E n ld/\∀ x,Ker p 6 E n x↔Ker p 6 (ER p n T f) n x
theorem Oz {p n k:Nat}{T:Nat->Nat->Nat->Nat}{f:Nat->Nat}{E:Nat->Nat->Nat}{ld:Nat->Nat}(hp:2<=p)(h:Rref p 6 E k ld)(hK:∀ x,Ker p 6 E k x↔Ker p 6 (ER p n T f) n x):(k:Int)=(n:Int)↔Mx p n T f:=by
  constructor
  . intro e
    have e:k=n:=by omega
    subst e;exact ⟨E,ld,h,hK⟩
  . rintro ⟨E',ld',h',hK'⟩
    have:=(Dn hp h h' (fun x=>(hK x).trans (hK' x).symm)).1
    omega
theorem K2 (p n:Nat)(T:Nat->Nat->Nat->Nat)(f:Nat->Nat)(w:World)(hp:0<p)(hp2:p<100)(hn0:0<n)(hn:n<=6)(hT:∀ i j k,T i j k<=255)(hf:∀ i,f i<=255) :
    CallsR Try.prog 63 #[.agg (AY (p:Int) (n:Int) T f)] w (fun u w'=>BytesOut w w' 6 n (ER p n T f) u):=by
  refine AQ [.agg (AY (p:Int) (n:Int) T f)] Try.func63 rfl Try.ntmps63 rfl fun a O=>?_;have J:AR w w [none,none,none] []:=MemX.start w 3;change Fr 41 a [(0,.agg (AY (p:Int) (n:Int) T f))] at O;have hT:∀ i j k,T i j k<=255:=hT;refine sr<|Aj O (Aw 0 J O rfl) rfl ?_;rintro _ w' a ⟨b1,rfl,J,-⟩ O;change AR _ _ [some (b1,AY (p:Int) (n:Int) T f),_,_] [] at J;refine ag O rfl rfl fun a O=>ns<|st O (AC BG O rfl) rfl fun a O=>st O (AM AL O rfl (J.row 0 rfl) (Bn (by omega))) rfl fun a O=>Aj O (Mq (len:=n) 1 J O E5 rfl rfl rfl (by omega) (by decide)) rfl ?_;rintro _ w' a ⟨bo,rfl,J,-⟩ O;refine ag O rfl rfl fun a O=>nt<|sq<|sr<|mv O rfl rfl fun a O=>st O (BY Cg O rfl) rfl fun a O=>mv O rfl rfl fun a O=>nt<|wp_block ?_;change AR _ _ [_,some (bo,BH n (fun _=>.slice none 0 0)),_] [] at J;refine Ag (fun (kk:Nat) a w'=>kk<=n/\∃ (D1:Al),∃ (β:Nat->Nat),∃ (cso:Array Value),(cso.size=n/\(∀ i,i<kk->cso[0+i*1]? = some (.slice (some ⟨β i,0,none⟩) 6 6))/\RowsB D1 6 kk β (ER p n T f)/\(∀ i,i<kk->w.heap.size<=β i))/\Fr 41 a [(1,ptr b1 (0)),(2,.slice none 0 0),(3,.slice (some ⟨bo,0,none⟩) n n),(10,.int .i64 (n:Int)),(11,.int .i64 (kk:Int))]/\AR w w' [some (b1,AY (p:Int) (n:Int) T f),some (bo,cso),none] D1) (fun kk=>n - kk) 0 ?_ ?_
  . refine ⟨by omega,[],(fun _=>0),(BH n (fun _=>.slice none 0 0)),⟨BZ _ _,fun i hi=>absurd hi (by omega),RowsB.none,fun i hi=>absurd hi (by omega)⟩,O.sub _ (by repeat' constructor),?_⟩
    exact J
  clear O J;rintro gk a w' ⟨hgk,D1,β,cso,⟨hso,hgo,hB,hJ⟩,O,J⟩;refine sr<|st O (Ak O rfl rfl) rfl fun a O=>nt<|sq<|AI O rfl (fun h3=>?_) (fun h3=>?_)
  . refine wp_skip ?_
    refine tN<|sq<|wp_block<|sr<|mv O rfl rfl fun a O=>ag O rfl rfl fun a O=>ns<|mv O rfl rfl fun a O=>mv O rfl rfl fun a O=>Aj O (GR (len:=6) 2 J O rfl rfl El) rfl ?_;rintro _ w' a ⟨b4,rfl,J,-⟩ O;change AR _ _ [_,_,some (b4,BH 6 (fun _=>.int .u8 (0)))] _ at J;refine st O (AJ (i:=gk) Bv O rfl rfl rfl (by omega)) rfl fun a O=>Bu O (BE 1 J rfl Bk O rfl rfl rfl (by first | omega | (simp only [AT]<;>omega) | (simp only [Array.size_setIfInBounds];omega) | simp)) ?_;intro _ w' a J O;change AR _ _ [_,some (bo,(cso).setIfInBounds (0+(gk)*1) (.slice (some ⟨b4,0,none⟩) 6 6)),_] _ at J;refine nt<|sq ?_;have hself:((cso).setIfInBounds (0+(gk)*1) (.slice (some ⟨b4,0,none⟩) 6 6))[0+gk*1]? = some (.slice (some ⟨b4,0,none⟩) 6 6):=Array.getElem?_setIfInBounds_self_of_lt (by omega);refine wp_region_lit<|st O (AC BG O rfl) rfl fun a O=>st O (AM AL O rfl (J.row 0 rfl) (Bn (by omega))) rfl fun a O=>mv O rfl rfl fun a O=>nt<|wp_block ?_;change AR _ _ [_,_,_] _ at J;refine Ag (fun (kk:Nat) a w'=>kk<=n/\(True)/\Fr 41 a [(1,ptr b1 (0)),(2,.slice none 0 0),(3,.slice (some ⟨bo,0,none⟩) n n),(10,.int .i64 (n:Int)),(11,.int .i64 (gk:Int)),(12,.bool (decide (((gk:Int):Int)<(n:Int)))),(13,.int .i64 (gk:Int)),(4,.int .i64 (gk:Int)),(14,.slice (some ⟨bo,0,none⟩) n n),(15,.int .i64 (gk:Int)),(16,.slice (some ⟨b4,0,none⟩) 6 6),(17,ptr bo (0+(gk)*1)),(18,ptr b1 (0+1)),(19,.int .i64 (n:Int)),(20,.int .i64 (kk:Int))]/\AR w w' [some (b1,AY (p:Int) (n:Int) T f),some (bo,(cso).setIfInBounds (0+(gk)*1) (.slice (some ⟨b4,0,none⟩) 6 6)),some (b4,BH 6 (fun c=>.int .u8 ((if c<kk then sumTo (fun k=>T gk c k*f k) 6%p else 0:Nat):Int)))] D1) (fun kk=>n - kk) 0 ?_ ?_
    . refine ⟨by omega,trivial,O.sub _ (by repeat' constructor),?_⟩
      exact J.rowc 2 rfl (BL fun c hc=>by rw [if_neg (by omega)];rfl)
    clear O J;rintro gj a w' ⟨hgj,hinv2,O,J⟩;refine sr<|st O (Ak O rfl rfl) rfl fun a O=>nt<|sq<|AI O rfl (fun h5=>?_) (fun h5=>?_)
    . refine wp_skip ?_
      refine tN<|sq<|wp_block<|sr<|mv O rfl rfl fun a O=>ag O rfl rfl fun a O=>nt<|Bt 14 [] [.val (.slice (some ⟨bo,0,none⟩) n n),.val (.int .i64 (gk:Int)),.val (ptr bo (0+(gk)*1)),.val (.slice (some ⟨b4,0,none⟩) 6 6),.val (.int .i64 (gj:Int)),.val (.agg (AY (p:Int) (n:Int) T f)),.val (.int .i64 (gk:Int)),.val (.int .i64 (gj:Int)),.val (ptr b1 (0+2)),.val (ptr b1 (0+2+(gk)*36)),.val (ptr b1 (0+2+(gk)*36+(gj)*6)),.val (.agg (Af (T (gk) (gj)))),.val (.int .i64 (((sumTo (fun i=>((T (gk) (gj))) i*f i) 6%p:Nat):Int))),.val (.int .u8 (((sumTo (fun i=>((T (gk) (gj))) i*f i) 6%p:Nat):Int)))] Bb rfl O rfl J ⟨fun a w gG O hS hd=>by exact BF hS rfl O rfl,fun a w gG O hS hd=>by exact BF hS rfl O rfl,fun a w gG O hS hd=>by have O:=O.ext1 23 (hd 0 rfl rfl);have O:=O.ext1 24 (hd 1 rfl rfl);exact AD hS rfl (AJ (i:=gk) Bv O rfl rfl rfl (by omega)),fun a w gG O hS hd=>by have O:=O.ext1 25 (hd 2 rfl rfl);have J:=hS.mem rfl;exact AD hS rfl (AM Bk O rfl (J.row 1 rfl) hself),fun a w gG O hS hd=>by exact BF hS rfl O rfl,fun a w gG O hS hd=>by have J:=hS.mem rfl;exact AD hS rfl (AF A3 O rfl (J.row 0 rfl) (by simp only [AT]<;>omega) (whole Aq)),fun a w gG O hS hd=>by exact BF hS rfl O rfl,fun a w gG O hS hd=>by exact BF hS rfl O rfl,fun a w gG O hS hd=>by exact AD hS rfl (AC CH O rfl),fun a w gG O hS hd=>by have O:=O.ext1 29 (hd 6 rfl rfl);have O:=O.ext1 31 (hd 8 rfl rfl);exact AD hS rfl (AH C8 O rfl rfl rfl (by omega)),fun a w gG O hS hd=>by have O:=O.ext1 30 (hd 7 rfl rfl);have O:=O.ext1 32 (hd 9 rfl rfl);exact AD hS rfl (AH Av O rfl rfl rfl (by omega)),fun a w gG O hS hd=>by have O:=O.ext1 33 (hd 10 rfl rfl);have J:=hS.mem rfl;exact AD hS rfl (AF B9 O rfl (J.row 0 rfl) (by simp only [AT]<;>omega) (GV (gk) (gj) (by omega) (by omega) (by omega) (by omega))),fun a w gG O hS hd=>by have O:=O.ext1 28 (hd 5 rfl rfl);have O:=O.ext1 34 (hd 11 rfl rfl);exact BT (by repeat constructor) hS rfl (AO Try.call82 O (.cons rfl (.cons rfl .nil)) (P4 p n T f ((T (gk) (gj))) _ (by omega) (fun _=>by first | exact hv _ | exact hvt _ | exact hvs _ | exact hu _ | exact hT _ _ _ | exact hf _ | omega | (split<;>omega) | (dsimp only;split<;>omega) | assumption) (fun _=>by first | exact hv _ | exact hvt _ | exact hvs _ | exact hu _ | exact hT _ _ _ | exact hf _ | omega | (split<;>omega) | (dsimp only;split<;>omega) | assumption))),fun a w gG O hS hd=>by have O:=O.ext1 35 (hd 12 rfl rfl);exact AD hS rfl (BO DL DM O rfl (wrap_u8 (by omega) (by have:=Nat.mod_lt (sumTo (fun k=>T gk gj k*f k) 6) hp;omega))),trivial⟩ ?_;intro a w' L O hS hq;have O:=O.ext1 23 (hq 0 rfl rfl);have O:=O.ext1 24 (hq 1 rfl rfl);have O:=O.ext1 25 (hq 2 rfl rfl);have O:=O.ext1 26 (hq 3 rfl rfl);have O:=O.ext1 27 (hq 4 rfl rfl);have O:=O.ext1 28 (hq 5 rfl rfl);have O:=O.ext1 29 (hq 6 rfl rfl);have O:=O.ext1 30 (hq 7 rfl rfl);have O:=O.ext1 31 (hq 8 rfl rfl);have O:=O.ext1 32 (hq 9 rfl rfl);have O:=O.ext1 33 (hq 10 rfl rfl);have O:=O.ext1 34 (hq 11 rfl rfl);have O:=O.ext1 35 (hq 12 rfl rfl);have O:=O.ext1 36 (hq 13 rfl rfl);have J:=hS.mem rfl;change wpList Try.prog _ _ [_,_] _ _;refine st O (AJ (i:=gj) Bj O rfl rfl rfl (by omega)) rfl fun a O=>Bu O (BE 2 J rfl Ah O rfl rfl rfl (by first | omega | (simp only [AT]<;>omega) | (simp only [Array.size_setIfInBounds];omega) | simp)) ?_;intro _ w' a J O;rw [show (BH 6 (fun c=>.int .u8 ((if c<gj then sumTo (fun k=>T gk c k*f k) 6%p else 0:Nat):Int))).setIfInBounds (0+(gj)*1) (.int .u8 (((sumTo (fun i=>((T (gk) (gj))) i*f i) 6%p:Nat):Int)))=BH 6 (fun c=>.int .u8 (((if c=gj then sumTo (fun i=>((T (gk) (gj))) i*f i) 6%p else if c<gj then sumTo (fun k=>T gk c k*f k) 6%p else 0):Nat):Int)) from Ce (fun c _=>by rw [show 0+(gj)*1=gj by omega];by_cases hh:c=gj<;>simp [hh])] at J
      change AR _ _ [_,_,_] _ at J;refine wpList_nil<|iN<|tN<|wp_region_lit<|st O (Ac O rfl rfl (AN (gj) (1) (by omega))) rfl fun a O=>mv O rfl rfl fun a O=>nt<|⟨gj+1,⟨by omega,trivial,O.sub _ (by repeat' constructor),?_⟩,by omega⟩;refine J.rowc 2 rfl (BL fun c hc=>congrArg (Value.int .u8) (congrArg Nat.cast ?_))
      by_cases e1:c=gj
      . simp [e1]
      . have e0:(c<gj+1)=(c<gj):=by apply propext;omega
        simp [e0,e1]
    obtain rfl:n=gj:=by omega
    refine wp_exit<|tX<|tX<|AW<|iN<|tN<|wp_region_lit<|st O (Ac O rfl rfl (AN (gk) (1) (by omega))) rfl fun a O=>mv O rfl rfl fun a O=>wpList_nil<|tN ?_;have hgb:=J.ge 2 rfl;have hnb:=fun i hi=>(J.froz _ _ (hB.mem i hi)).2 2 b4 _ rfl;have J:=J.freeze 2 rfl;have hB:=((hB.more (D':=(b4,BH 6 (fun c=>.int .u8 ((if c<n then sumTo (fun k=>T gk c k*f k) 6%p else 0:Nat):Int)))::D1) (fun x hx=>List.mem_cons_of_mem _ hx)).snoc (r:=ER p n T f gk) rfl (List.mem_cons_self ..) hnb).congr (M':=ER p n T f) (fun i hi c hc=>by
      by_cases e:i=gk<;>simp [upE,e])
    have hgo:∀ i,i<gk+1->((cso).setIfInBounds (0+(gk)*1) (.slice (some ⟨b4,0,none⟩) 6 6))[0+i*1]? = some (.slice (some ⟨up β gk b4 i,0,none⟩) 6 6):=fun i hi=>by
      unfold up
      by_cases e:i=gk
      . rw [if_pos e,e];exact hself
      . rw [if_neg e,Array.getElem?_setIfInBounds_ne (by omega)];exact hgo i (by omega)
    have hJ:∀ i,i<gk+1->w.heap.size<=up β gk b4 i:=fun i hi=>by
      unfold up;split
      . exact hgb
      . exact hJ i (by omega)
    skip
    have J:=J.drop 2;refine ⟨gk+1,⟨by omega,((b4,BH 6 (fun c=>.int .u8 ((if c<n then sumTo (fun k=>T gk c k*f k) 6%p else 0:Nat):Int)))::D1),(up β gk b4),((cso).setIfInBounds (0+(gk)*1) (.slice (some ⟨b4,0,none⟩) 6 6)),⟨by rw [Array.size_setIfInBounds];exact hso,hgo,hB,hJ⟩,O.sub _ (by repeat' constructor),?_⟩,by omega⟩;exact J
  obtain rfl:n=gk:=by omega
  refine wp_exit<|tX<|tX<|AW<|tN<|sr<|mv O rfl rfl fun a O=>ag O rfl rfl fun a O=>nt<|wp_ret<|Ap rfl O.defers (AE O rfl) ⟨_,rfl,J.below,?_⟩;exact BytesOut.of J (k:=1) rfl hB hJ (by omega) hgo
theorem IP (p n:Nat)(T:Nat->Nat->Nat->Nat)(f:Nat->Nat)(w:World)(hp:primeN p)(hn0:0<n)(hn:n<=6)(hT:∀ i j k,T i j k<=255)(hf:∀ i,f i<=255) :
    CallsR Try.prog 41 #[.agg (AY (p:Int) (n:Int) T f)] w (fun res _=>res = .bool (decide (Mx p n T f))):=by
  refine AQ [.agg (AY (p:Int) (n:Int) T f)] Try.func41 rfl Try.ntmps41 rfl fun a O=>?_;have J:AR w w [none] []:=MemX.start w 1;change Fr 12 a [(0,.agg (AY (p:Int) (n:Int) T f))] at O;have hp2:=hp.two;have hp13:=hp.le;refine sr<|Aj O (Aw 0 J O rfl) rfl ?_;rintro _ w' a ⟨b1,rfl,J,-⟩ O;change AR _ _ [some (b1,AY (p:Int) (n:Int) T f)] [] at J;refine ag O rfl rfl fun a O=>nt<|sq ?_;refine Ms (S:=fun (bb:Bool) (g:Option Nat) w2=>bb=g.isSome/\MemX [] w w2 [some (b1,AY (p:Int) (n:Int) T f)] []/\∀ k,g=some k->∃ E ld,Rref p 6 E k ld/\(∀ x,Ker p 6 E k x↔Ker p 6 (ER p n T f) n x)) 9 4 Bb rfl rfl rfl O rfl (Fp rfl) none ⟨rfl,J,fun k e=>by cases e⟩ (fun bb g w h=>⟨h.1,h.2.1.ext (Below.drew (Below.refl _ _)),h.2.2⟩) (fun i (g:Option Nat) u w2=>match i with | 0=>u = .agg (AY (p:Int) (n:Int) T f) | 1=>g=none->M6 w [some (b1,AY (p:Int) (n:Int) T f)] 6 n (ER p n T f) u w2 | 2=>u=ptr b1 (0+0) | 3=>u = .int .i64 (p:Int) | 4=>∃ k b cap,g=some k/\u = .slice (some ⟨b,0,none⟩) k cap | 5=>∃ k,g=some k/\u = .int .i64 ((k:Nat):Int) | 6=>u=ptr b1 (0+1) | 7=>u = .int .i64 (n:Int) | 8=>∃ k,g=some k/\u = .bool (decide (((k:Nat):Int)=(n:Int))) | _=>True) ⟨fun a w2 bb g O hS hb hd=>by have J:=hS.2.1;exact Fv hS rfl (AF A3 O rfl (J.row 0 rfl) (by simp only [AT]<;>omega) (whole Aq)),fun a w2 bb g O hS hb hd=>by have O:=O.ext1 3 (hd 0 rfl rfl);exact (AO Try.call63 O (.cons rfl .nil) (K2 p n T f _ (by omega) (by omega) (by omega) (by omega) hT hf)).mono fun u w3 ⟨hx,hr⟩=>⟨g,⟨hS.1,hS.2.1.ext hx,hS.2.2⟩,fun _=>hr.fresh hS.2.1,fun j u hj h=>by rcases j with _ | _ | _ | _ | _ | _ | _ | _ | _ | j<;>first | exact h | exact absurd rfl hj⟩,fun a w2 bb g O hS hb hd=>by have J:=hS.2.1;exact Fv hS rfl (AC Ca O rfl),fun a w2 bb g O hS hb hd=>by have O:=O.ext1 5 (hd 2 rfl rfl);have J:=hS.2.1;exact Fv hS rfl (AM AL O rfl (J.row 0 rfl) (DV (by omega))),fun a w2 g O hS hd=>by
    obtain rfl:g=none:=by (cases g;rfl;exact absurd hS.1 (by simp))
    obtain ⟨D,β,br,cs,h1,hB,hu,hsz,hgc,hbm,hne⟩:=hd 1 rfl rfl rfl;have O:=O.ext1 4 hu;have O:=O.ext1 6 (hd 3 rfl rfl);exact (Am Try.call62 O (.cons rfl (.cons rfl .nil)) (Dh p 6 n br n cs β (ER p n T f) _ hp (by omega) (by omega) (by omega) (Nat.le_refl _) (O1 (by omega)) (h1 _ _ hbm).2.1 (by omega) hgc (fun i hi=>(h1 _ _ (hB.mem i hi)).2.1) hB.inj hne)).mono fun u w3 ⟨hx,k,E,γ',ld,cs',hu3,hkm,hE,hH,_⟩=>⟨some k,⟨rfl,hS.2.1.extY hx (fun y hy=>by
      rcases List.mem_cons.1 hy with e | hy
      . rw [e];exact ⟨(h1 _ _ hbm).1,(h1 _ _ hbm).2.2,fun _ _ h=>by cases h⟩
      . obtain ⟨i,hi,rfl⟩:=List.mem_map.1 hy
        have hm:=hB.mem i (by simpa using hi);exact ⟨(h1 _ _ hm).1,(h1 _ _ hm).2.2,fun _ _ h=>by cases h⟩),fun k' e=>by cases e;exact ⟨E,ld,hE,hH⟩⟩,⟨k,br,n,rfl,hu3⟩,fun j u hj h=>by
      rcases j with _ | _ | _ | _ | _ | _ | _ | _ | _ | j<;>first | exact h | exact absurd rfl hj | exact (fun e=>by cases e) | (obtain ⟨k',e,_⟩:=h;cases e)⟩,fun a w2 bb g O hS hb hd=>by obtain ⟨k,b,cap,rfl,hu⟩:=hd 4 rfl rfl;have O:=O.ext1 7 hu;exact Fv hS ⟨k,rfl,rfl⟩ (BY Cg O rfl),fun a w2 bb g O hS hb hd=>by have J:=hS.2.1;exact Fv hS rfl (AC BG O rfl),fun a w2 bb g O hS hb hd=>by have O:=O.ext1 9 (hd 6 rfl rfl);have J:=hS.2.1;exact Fv hS rfl (AM AL O rfl (J.row 0 rfl) (Bn (by omega))),fun a w2 bb g O hS hb hd=>by obtain ⟨k,rfl,hu⟩:=hd 5 rfl rfl;have O:=O.ext1 8 hu;have O:=O.ext1 10 (hd 7 rfl rfl);exact Fv hS ⟨k,rfl,rfl⟩ (Ao O rfl rfl),trivial⟩ ?_
  intro a w' g O hS hq;obtain ⟨k,rfl,hu8⟩:=hq 8 rfl rfl;obtain ⟨-,J,hE0⟩:=hS;obtain ⟨E,ld,hE,hH⟩:=hE0 k rfl;have O:=O.ext1 11 hu8;change AR w w' [some (b1,AY (p:Int) (n:Int) T f)] [] at J;change wpList Try.prog _ _ [_] _ _;refine ag O rfl rfl fun a O=>nt<|wp_ret<|Ap rfl O.defers (AE O rfl) ⟨_,rfl,J.below,?_⟩
  show _=_
  exact congrArg Value.bool (decide_eq_decide.2 (Oz hp2 hE hH))
theorem Is (p n:Nat)(T:Nat->Nat->Nat->Nat)(f:Nat->Nat)(w:World)(hp:primeN p)(hn0:0<n)(hn:n<=6)(hU:∀ i j k,T i j k<p)(hO:∀ i j k,n<=k->T i j k=0)(hf:∀ i,f i<=255)(hc:M4 (p:Int) (n:Int) T f 0 (KR [])) :
    CallsR Try.prog 17 #[.agg (AY (p:Int) (n:Int) T f)] w (fun res _=>res = .tuple #[.bool (decide (Mx p n T f)),.int .i64 0]):=by
  refine AQ [.agg (AY (p:Int) (n:Int) T f)] Try.func17 rfl Try.ntmps17 rfl fun a O=>?_;have J:AR w w [none] []:=MemX.start w 1;change Fr 9 a [(0,.agg (AY (p:Int) (n:Int) T f))] at O;have hp2:=hp.two;have hp13:=hp.le;have hT:∀ i j k,T i j k<=255:=fun i j k=>by have:=hU i j k;omega
  refine sr<|Aj O (Aw 0 J O rfl) rfl ?_;rintro _ w' a ⟨b1,rfl,J,-⟩ O;change AR _ _ [some (b1,AY (p:Int) (n:Int) T f)] [] at J;refine ag O rfl rfl fun a O=>ag O rfl rfl fun a O=>nt<|sq<|sr<|st O (AF A3 O rfl (J.row 0 rfl) (by simp only [AT]<;>omega) (whole Aq)) rfl fun a O=>Aj O (AO Try.call40 O (.cons rfl .nil) ((CallsR.val (Fq (p:Int) (n:Int) T f _ (fun _ _ _=>hT _ _ _) (fun _=>hf _)) (congrArg Value.bool (decide_eq_true hc.1))))) rfl ?_;rintro _ w' a ⟨hx,rfl⟩ O;have J:=J.ext hx;refine st O (Co (b:=true) O rfl) rfl fun a O=>nt<|CN O rfl<|wp_skip<|tN<|sr<|st O (AF A3 O rfl (J.row 0 rfl) (by simp only [AT]<;>omega) (whole Aq)) rfl fun a O=>Aj O (AO Try.call41 O (.cons rfl .nil) (IP p n T f _ hp hn0 hn (fun _ _ _=>hT _ _ _) (fun _=>hf _))) rfl ?_;rintro _ w' a ⟨hx,rfl⟩ O;have J:=J.ext hx;refine ag O rfl rfl fun a O=>ag O rfl rfl fun a O=>nt<|wp_ret<|By rfl O.defers (AE O rfl) (AE O rfl) ⟨_,rfl,J.below,?_⟩
  show _=_
  rfl
end Go.Proofs.Ytgioobkkkicfeaa
