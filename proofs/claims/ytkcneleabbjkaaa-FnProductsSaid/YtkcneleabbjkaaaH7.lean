import Derived.Test.YtkcneleabbjkaaaH6
import Derived.Test.YtkcneleabbjkaaaEch5
set_option linter.unusedVariables false
set_option linter.unusedSimpArgs false
namespace Go.Proofs.Ytkcneleabbjkaaa
open Go Go.RowKit Go.Sw Go.Ech
def bE (i:Nat):Nat→Nat:=fun x=>if x=i then 1 else 0
def HY (p n:Nat) (T:Nat→Nat→Nat→Nat) (r:Nat):Nat→Nat:=En p n T (bE (r / (2*n))) (bE (r / (2*n))) n (r%(2*n))
theorem KI {p n i k:Nat}{T:Nat→Nat→Nat→Nat}(hk:k<2*n):HY p n T (i*(2*n)+k)=En p n T (bE i) (bE i) n k:=by
  have e1:(i*(2*n)+k) / (2*n)=i:=by rw [Nat.mul_comm,Nat.mul_add_div (by omega),Nat.div_eq_of_lt hk];omega
  have e2:(i*(2*n)+k)%(2*n)=k:=by rw [Nat.mul_comm,Nat.mul_add_mod,Nat.mod_eq_of_lt hk]
  unfold HY;rw [e1,e2]
theorem LU {p n g:Nat}{T:Nat→Nat→Nat→Nat}{bb cc:Nat→Nat}(hp:0<p)(hcc:∀ i,cc i<p):∀ r c,En p n T bb cc g r c<p:=fun r c=>by
  unfold En timesV
  split
  · split<;>exact Nat.mod_lt _ hp
  · split
    · exact hcc _
    · exact hp
theorem Na {p i:Nat}(hp:2≤p):∀ c,bE i c<p:=fun c=>by unfold bE;split<;>omega
theorem Ho {p n a i k:Nat}{T:Nat→Nat→Nat→Nat}(ha:a<n)(hi:i<n)(hT:T a i k<p):timesV p n T (fun x=>if x=a then 1 else 0) (bE i) k=T a i k:=by
  unfold timesV
  have e:(prodI T (fun x=>if x=a then 1 else 0) (bE i) n n k:Int)=(T a i k:Int):=by
    rw [EE ha,Dx hi]
    · simp [bE]
    · intro j _ hne;simp [bE,hne]
  rw [show prodI T (fun x=>if x=a then 1 else 0) (bE i) n n k=T a i k by omega];exact Nat.mod_eq_of_lt hT
theorem Ig {p n r:Nat}{T:Nat→Nat→Nat→Nat}{bb cc x:Nat→Nat}(hn:n≤6) :
    dot 7 (ci (En p n T bb cc n r)) (Fl 6 x)=sI (fun a=>(x a:Int)*((if r<n then timesV p n T (fun x=>if x=a then 1 else 0) bb r else timesV p n T bb (fun x=>if x=a then 1 else 0) (r - n):Nat):Int)) n - (cc (r%n):Int):=by
  have e:dot 7 (ci (En p n T bb cc n r)) (Fl 6 x)=sI (fun c=>ci (En p n T bb cc n r) c*Fl 6 x c) 6+ci (En p n T bb cc n r) 6*Fl 6 x 6:=rfl;rw [e,Mu hn (fun c h1 h2=>by simp only [ci,En];rw [if_neg (by omega),if_neg (by omega)];simp)];have e1:sI (fun c=>ci (En p n T bb cc n r) c*Fl 6 x c) n=sI (fun a=>(x a:Int)*((if r<n then timesV p n T (fun x=>if x=a then 1 else 0) bb r else timesV p n T bb (fun x=>if x=a then 1 else 0) (r - n):Nat):Int)) n:=BG fun c hc=>by
    rw [GQ (by omega)];simp only [ci,En,if_pos hc];exact Int.mul_comm _ _
  have e2:ci (En p n T bb cc n r) 6=(cc (r%n):Int):=by simp only [ci,En];rw [if_neg (by omega)];simp
  rw [e1,e2,Gg];omega
theorem If {p n:Nat}{T:Nat→Nat→Nat→Nat}{bb cc x:Nat→Nat}(hn0:0<n)(hn:n≤6):Ker p 7 (En p n T bb cc n) (2*n) (Fl 6 x) ↔
    (∀ k,k<n→(p:Int)∣sI (fun a=>(x a:Int)*(timesV p n T (fun x=>if x=a then 1 else 0) bb k:Int)) n - (cc k:Int))∧(∀ k,k<n→(p:Int)∣sI (fun a=>(x a:Int)*(timesV p n T bb (fun x=>if x=a then 1 else 0) k:Int)) n - (cc k:Int)):=by
  constructor
  · intro h
    refine ⟨fun k hk=>?_,fun k hk=>?_⟩
    · have:=h k (by omega);rw [Ig hn,Nat.mod_eq_of_lt hk] at this;simpa only [if_pos hk] using this
    · have:=h (n+k) (by omega);rw [Ig hn,Nat.add_mod_left,Nat.mod_eq_of_lt hk] at this;simpa only [if_neg (show ¬ n+k<n by omega),Nat.add_sub_cancel_left] using this
  · intro h r hr
    rw [Ig hn]
    by_cases e:r<n
    · rw [Nat.mod_eq_of_lt e];simp only [if_pos e];exact h.1 r e
    · have em:r%n=r - n:=by rw [Nat.mod_eq_sub_mod (by omega),Nat.mod_eq_of_lt (by omega)]
      rw [em];simp only [if_neg e];exact h.2 (r - n) (by omega)
theorem JM {p n:Nat}{T:Nat→Nat→Nat→Nat}{x:Nat→Nat}(hp:2≤p)(hn0:0<n)(hn:n≤6)(hT:∀ i j k,T i j k<p):Ker p 7 (HY p n T) (n*(2*n)) (Fl 6 x) ↔
    (∀ i,i<n→∀ c,c<n→(p:Int)∣sI (fun a=>(x a:Int)*(T a i c:Int)) n - (dl i c:Int))∧(∀ i,i<n→∀ c,c<n→(p:Int)∣sI (fun b=>(x b:Int)*(T i b c:Int)) n - (dl i c:Int)):=by
  have key:∀ i,i<n→(Ker p 7 (En p n T (bE i) (bE i) n) (2*n) (Fl 6 x)↔(∀ c,c<n→(p:Int)∣sI (fun a=>(x a:Int)*(T a i c:Int)) n - (dl i c:Int))∧(∀ c,c<n→(p:Int)∣sI (fun b=>(x b:Int)*(T i b c:Int)) n - (dl i c:Int))):=by
    intro i hi;rw [If hn0 hn];have eb:∀ c,bE i c=dl i c:=fun c=>LY;refine and_congr (forall_congr' fun c=>imp_congr_right fun hc=>?_) (forall_congr' fun c=>imp_congr_right fun hc=>?_)
    · rw [eb,BG (g:=fun a=>(x a:Int)*(T a i c:Int)) (fun a ha=>by rw [Ho ha hi (hT _ _ _)])]
    · rw [eb,BG (g:=fun b=>(x b:Int)*(T i b c:Int)) (fun b hb=>by rw [show timesV p n T (bE i) (fun x=>if x=b then 1 else 0) c=T i b c from Ho (i:=b) hi hb (hT _ _ _)])]
  constructor
  · intro h
    have hh:∀ i,i<n→Ker p 7 (En p n T (bE i) (bE i) n) (2*n) (Fl 6 x):=fun i hi k hk=>by
      have hlt:i*(2*n)+k<n*(2*n):=by
        have h1:(i+1)*(2*n)≤n*(2*n):=Nat.mul_le_mul_right _ hi;have h2:(i+1)*(2*n)=i*(2*n)+2*n:=Nat.succ_mul i _
        omega
      have:=h (i*(2*n)+k) hlt
      rwa [KI hk] at this
    exact ⟨fun i hi=>((key i hi).1 (hh i hi)).1,fun i hi=>((key i hi).1 (hh i hi)).2⟩
  · intro h r hr
    have hi:r / (2*n)<n:=(Nat.div_lt_iff_lt_mul (by omega)).2 hr;exact (key _ hi).2 ⟨h.1 _ hi,h.2 _ hi⟩ _ (Nat.mod_lt _ (by omega))
theorem Kr {p n r c:Nat}{T:Nat→Nat→Nat→Nat}(h1:n≤c)(h2:c<6):HY p n T r c=0:=by
  unfold HY En;rw [if_neg (by omega),if_neg (by omega)]
theorem Kq {p n k:Nat}{E:Nat→Nat→Nat}{ld:Nat→Nat}{T:Nat→Nat→Nat→Nat}(hp:2≤p)(hn0:0<n)(hn:n≤6)(hT:∀ i j k,T i j k<p)(hE1:∀ i c,E i c<p)(h:Rref p 7 E k ld)(hK:∀ x,Ker p 7 E k x↔Ker p 7 (HY p n T) (n*(2*n)) x)(hl:¬ D5 k ld 6) :
    UnitI p n T (fun c=>solK E ld 6 k c):=by
  have h1:=(JM hp hn0 hn hT).1 ((hK _).1 (J1 h hl));refine ⟨fun c=>J2 (k:=k) (by omega) hE1 (p:=p) (N:=7),fun c hc=>?_,h1.1,h1.2⟩;refine I1 fun hlc=>?_;obtain ⟨j,hj,e⟩:=hlc;have h3:=h.lt j hj
  by_cases e6:c=6
  · exact hl ⟨j,hj,by omega⟩
  · exact J6 hp h hK (c:=c) (by omega) (fun i _=>Kr hc (by omega)) ⟨j,hj,e⟩
theorem LQ {p n k:Nat}{E:Nat→Nat→Nat}{ld:Nat→Nat}{T:Nat→Nat→Nat→Nat}(hp:2≤p)(hn0:0<n)(hn:n≤6)(hT:∀ i j k,T i j k<p)(h:Rref p 7 E k ld)(hK:∀ x,Ker p 7 E k x↔Ker p 7 (HY p n T) (n*(2*n)) x)(hl:D5 k ld 6)(u:Nat→Nat):¬ UnitI p n T u:=
  fun hu=>LH hp h hl ((hK _).2 ((JM hp hn0 hn hT).2 ⟨hu.right,hu.left⟩))
theorem Ge (p n:Nat)(T:Nat→Nat→Nat→Nat)(f:Nat→Nat)(w:World)(hp:primeN p)(hn0:0<n)(hn:n≤6)(hTp:∀ i j k,T i j k<p) :
    CallsR Try.prog 94 #[.agg (AJ (p:Int) (n:Int) T f)] w (fun res _=>(∃ u,UnitI p n T u∧res = .tuple #[.agg (AI u),.bool true])∨((∀ u,¬ UnitI p n T u)∧res = .tuple #[.agg (AI (fun _=>0)),.bool false])):=by
  refine Ak [.agg (AJ (p:Int) (n:Int) T f)] Try.func94 rfl Try.ntmps94 rfl fun a hF=>?_;have hM:Af w w [none,none,none,none] []:=MemX.start w 4;change Fr 27 a [(0,.agg (AJ (p:Int) (n:Int) T f))] at hF;have hp2:=hp.two;have hp13:=hp.le;have hT:∀ i j k,T i j k≤255:=fun i j k=>by have:=hTp i j k;omega
  refine sr<|Am hF (Au 0 hM hF rfl) rfl ?_;rintro _ w' a ⟨b1,rfl,hM,-⟩ hF;refine Am hF (AW 1 hM Ac) rfl ?_;rintro _ w' a ⟨b2,rfl,hM,-⟩ hF;change Af w w' [some (b1,AJ (p:Int) (n:Int) T f),some (b2,Ag 6 (fun _=>.int .u8 (0))),none,none] [] at hM;refine ag hF rfl rfl fun a hF=>ns<|ag hF rfl rfl fun a hF=>nt<|sq<|sr<|st hF (AN Ai hF rfl) rfl fun a hF=>st hF (AZ Ae hF rfl (hM.row 0 rfl) (A5 (by omega))) rfl fun a hF=>mv hF rfl rfl fun a hF=>nt<|wp_block ?_;change Af w _ [some (b1,AJ (p:Int) (n:Int) T f),some (b2,Ag 6 (fun _=>.int .u8 (0))),none,none] [] at hM;refine Az (fun (kk:Nat) a w'=>kk≤n∧∃ (D1:BI),∃ (β:Nat→Nat),(RowsB D1 7 (kk*(2*n)) β (HY p n T)∧(∀ i,i<kk*(2*n)→w.heap.size≤β i))∧∃ (u4_1:Value) (e4_1:Option (Nat×Array Value)),Sl 1 u4_1 e4_1 (kk*(2*n)) (fun i=>.slice (some ⟨β i,0,none⟩) 7 7)∧Fr 27 a [(1,ptr b1 (0)),(2,ptr b2 (0)),(3,.bool (false)),(8,.int .i64 (n:Int)),(9,.int .i64 (kk:Int)),(4,u4_1)]∧Af w w' [some (b1,AJ (p:Int) (n:Int) T f),some (b2,Ag 6 (fun _=>.int .u8 (0))),none,e4_1] D1) (fun kk=>n - kk) 0 ?_ ?_
  · refine ⟨by omega,[],(fun _=>0),⟨by rw [Nat.zero_mul];exact RowsB.none,fun i hi=>by rw [Nat.zero_mul] at hi;omega⟩,(.slice none 0 0),(none),(by rw [Nat.zero_mul];exact Sl.nil _ _),hF.sub _ (by repeat' constructor),?_⟩
    exact hM
  clear hF hM;rintro gi a w' ⟨hgi,D1,β,⟨hB,hbg⟩,u4_1,e4_1,hsl,hF,hM⟩;have hgin:=Nat.le_trans (Nat.mul_le_mul_right (2*n) hgi) (Nat.mul_le_mul hn (Nat.mul_le_mul_left 2 hn));refine sr<|st hF (A4 hF rfl rfl) rfl fun a hF=>nt<|sq<|Ad hF rfl (fun h3=>?_) (fun h3=>?_)
  · refine wp_skip ?_
    refine tN<|sq<|wp_block<|sr<|mv hF rfl rfl fun a hF=>ag hF rfl rfl fun a hF=>ns<|mv hF rfl rfl fun a hF=>Am hF (Aa Try.call142 hF (.cons rfl .nil) (Ch (gi) _ (by omega))) rfl ?_;rintro _ w' a ⟨hx,rfl⟩ hF;have hM:=hM.ext hx;refine Am hF (AW 2 hM Ac) rfl ?_;rintro _ w' a ⟨b4,rfl,hM,-⟩ hF;change Af w w' [some (b1,AJ (p:Int) (n:Int) T f),some (b2,Ag 6 (fun _=>.int .u8 (0))),some (b4,Ag 6 (fun _=>.int .u8 (0))),e4_1] D1 at hM;refine A8 hF (AO 2 hM rfl AY hF rfl rfl (by first | exact AT | exact cells_one | (refine AV fun _ _=>?_;first | rfl | (split<;>rfl))) (by simp only [AR]) (by simp only [AR]<;>omega) (AL _ _ (by simp only [AR]))) ?_;intro _ w' a hM hF;change Af w w' [some (b1,AJ (p:Int) (n:Int) T f),some (b2,Ag 6 (fun _=>.int .u8 (0))),some (b4,AI (fun c=>if c=gi then 1 else 0)),e4_1] D1 at hM;refine nt<|wp_region_lit<|mv hF rfl rfl fun a hF=>st hF (AK AU hF rfl (hM.row 0 rfl) (by simp only [AR]<;>omega) (whole AQ)) rfl fun a hF=>st hF (AK AP hF rfl (hM.row 2 rfl) (by simp only [AR]<;>omega) (whole (by simp only [AR]))) rfl fun a hF=>st hF (AK AP hF rfl (hM.row 2 rfl) (by simp only [AR]<;>omega) (whole (by simp only [AR]))) rfl fun a hF=>Am hF (Aa Try.call149 hF (.cons rfl (.cons rfl (.cons rfl .nil))) (EV p n T f ((fun c=>if c=gi then 1 else 0)) ((fun c=>if c=gi then 1 else 0)) _ (by omega) (by omega) (by omega) (by omega) (fun _ _ _=>hT _ _ _) (fun i=>by first | (dsimp only;split<;>omega) | (split<;>omega)) (fun i=>by first | (dsimp only;split<;>omega) | (split<;>omega)))) rfl ?_;rintro u w' a ⟨hx,hr⟩ hF;obtain ⟨DQ,βq,bq,csq,hBq,rfl,hsq,hgq,hqm,hqb,hqg,hbqg,hM,hqn⟩:=hM.addBo hx hr;change Af w w' [some (b1,AJ (p:Int) (n:Int) T f),some (b2,Ag 6 (fun _=>.int .u8 (0))),some (b4,AI (fun c=>if c=gi then 1 else 0)),e4_1] (DQ++D1) at hM;refine Am hF (Br (k:=3) (N:=gi*(2*n)) (m:=(2*n)) (g:=fun i=>.slice (some ⟨βq (i),0,none⟩) 7 7) It rfl (by decide) hM rfl hF rfl rfl hsl (fun i hi=>((hM.fzm hqm).cell _).trans (by have:=(hgq (i) (by omega));rwa [show 0+i*1=0+i by omega] at this)) (fun _ _=>rfl) (by omega) (by unfold maxLen;omega) (by omega)) rfl ?_;rintro u5 w' a ⟨e6,hM,hs7⟩ hF;change Af w w' [some (b1,AJ (p:Int) (n:Int) T f),some (b2,Ag 6 (fun _=>.int .u8 (0))),some (b4,AI (fun c=>if c=gi then 1 else 0)),e6] (DQ++D1) at hM;refine ag hF rfl rfl fun a hF=>wpList_nil<|iN<|tN<|wp_region_lit<|st hF (Ar hF rfl rfl (Aj (gi) (1) (by omega))) rfl fun a hF=>mv hF rfl rfl fun a hF=>wpList_nil<|tN ?_;have hsl:=hs7.congr (g:=fun i=>.slice (some ⟨(fun i=>if i<gi*(2*n) then β i else βq (i - gi*(2*n))) i,0,none⟩) 7 7) (fun i hi=>by
      by_cases e:i<gi*(2*n)
      · rw [if_pos (by omega)];simp only [if_pos e]
      · rw [if_neg (by omega)];simp only [if_neg e,Nat.mul_one])
    have hB:=((hB.more (D':=(DQ++D1)) (fun x hx=>List.mem_append_right _ hx)).append hBq (fun i j hi hj=>hqn _ _ (hB.mem i hi) j hj)).congr (M':=HY p n T) (fun r hr c _=>by
      by_cases e:r<gi*(2*n)
      · simp only [if_pos e]
      · simp only [if_neg e];have e2:=KI (p:=p) (T:=T) (i:=gi) (show r - gi*(2*n)<2*n by omega);rw [show gi*(2*n)+(r - gi*(2*n))=r by omega] at e2;rw [e2];rfl)
    have hbg:∀ i,i<gi*(2*n)+2*n→w.heap.size≤(fun i=>if i<gi*(2*n) then β i else βq (i - gi*(2*n))) i:=fun i hi=>by
      dsimp only;split
      · exact hbg i (by omega)
      · exact hqg _ (by omega)
    have hM:=hM.drop 2;refine ⟨gi+1,⟨by omega,(DQ++D1),(fun i=>if i<gi*(2*n) then β i else βq (i - gi*(2*n))),⟨by rw [Nat.succ_mul];exact hB,by rw [Nat.succ_mul];exact hbg⟩,(u5),(e6),(by rw [Nat.succ_mul];exact hsl),hF.sub _ (by repeat' constructor),?_⟩,by omega⟩;exact hM
  obtain rfl:n=gi:=by omega
  have hmm:=Nat.mul_le_mul hn (Nat.mul_le_mul_left 2 hn);have hm0:0<n*(2*n):=Nat.mul_pos (by omega) (by omega);obtain ⟨b0,c0,cs0,rfl,rfl,hs0⟩:=hsl.pos hm0;have hne0:∀ i,i<n*(2*n)→β i≠b0:=fun i hi e=>(hM.froz _ _ (hB.mem i hi)).2 3 b0 cs0 rfl e.symm;have hgb0:=hM.ge 3 rfl;have hM:=hM.freeze 3 rfl;change Af w _ [some (b1,AJ (p:Int) (n:Int) T f),some (b2,Ag 6 (fun _=>.int .u8 (0))),none,none] ((b0,cs0)::D1) at hM;refine wp_exit<|tX<|tX<|Aq<|tN<|sr<|mv hF rfl rfl fun a hF=>st hF (AN Aw hF rfl) rfl fun a hF=>st hF (AZ Ae hF rfl (hM.row 0 rfl) (BQ (by omega))) rfl fun a hF=>Am hF (A1 Try.call150 hF (.cons rfl (.cons rfl .nil)) (FV p (n*(2*n)) b0 c0 cs0 β (HY p n T) _ hp (by omega) hs0.le (fun r c=>LU (by omega) (Na hp2) _ _) (hM.fzm (List.mem_cons_self ..)) (by have:=hs0.sz;have:=hs0.le;omega) (fun i hi=>hs0.get1 i hi) (fun i hi=>hM.fzm (List.mem_cons_of_mem _ (hB.mem i hi))) hB.inj hne0)) rfl ?_;rintro _ w' a ⟨hx,k,E,ld,hE,hKer,hE1,⟨hl,rfl⟩ | ⟨hl,rfl⟩⟩ hF
  · have hM:=hM.swapD (D':=[]) hx (fun y hy=>by
     rcases List.mem_cons.1 hy with e | hy
     · exact ⟨cs0,by rw [e];exact List.mem_cons_self ..⟩
     · obtain ⟨i,hi,rfl⟩:=List.mem_map.1 hy
       exact ⟨_,List.mem_cons_of_mem _ (hB.mem i (by simpa using hi))⟩) (fun y hy=>by
     rcases List.mem_cons.1 hy with e | hy
     · exact .inl (by rw [e];exact hgb0)
     · obtain ⟨i,hi,rfl⟩:=List.mem_map.1 hy
       exact .inl (hbg i (by simpa using hi))) (fun _ _ h=>by cases h)
    change Af w w' [some (b1,AJ (p:Int) (n:Int) T f),some (b2,Ag 6 (fun _=>.int .u8 (0))),none,none] [] at hM;refine st hF (AX hF rfl rfl) rfl fun a hF=>st hF (AX hF rfl rfl) rfl fun a hF=>A8 hF (AO 1 hM rfl AY hF rfl rfl (by first | exact AT | exact cells_one | (refine AV fun _ _=>?_;first | rfl | (split<;>rfl))) (by simp only [AR]) (by simp only [AR]<;>omega) (AL _ _ (by simp only [AR]))) ?_;intro _ w' a hM hF;change Af w w' [some (b1,AJ (p:Int) (n:Int) T f),some (b2,AI (fun c=>solK E ld 6 k c)),none,none] [] at hM;refine ag hF rfl rfl fun a hF=>nt<|wp_ret<|Bw rfl hF.defers (Ao AP hF rfl (hM.row 1 rfl) (by simp only [AR])) (Ab hF rfl) ⟨_,rfl,hM.below,?_⟩;exact .inl ⟨_,Kq hp2 hn0 hn hTp hE1 hE hKer hl,rfl⟩
  have hM:=hM.swapD (D':=[]) hx (fun y hy=>by
   rcases List.mem_cons.1 hy with e | hy
   · exact ⟨cs0,by rw [e];exact List.mem_cons_self ..⟩
   · obtain ⟨i,hi,rfl⟩:=List.mem_map.1 hy
     exact ⟨_,List.mem_cons_of_mem _ (hB.mem i (by simpa using hi))⟩) (fun y hy=>by
   rcases List.mem_cons.1 hy with e | hy
   · exact .inl (by rw [e];exact hgb0)
   · obtain ⟨i,hi,rfl⟩:=List.mem_map.1 hy
     exact .inl (hbg i (by simpa using hi))) (fun _ _ h=>by cases h)
  change Af w w' [some (b1,AJ (p:Int) (n:Int) T f),some (b2,Ag 6 (fun _=>.int .u8 (0))),none,none] [] at hM;refine st hF (AX hF rfl rfl) rfl fun a hF=>st hF (AX hF rfl rfl) rfl fun a hF=>A8 hF (AO 1 hM rfl AY hF rfl rfl (by first | exact AT | exact cells_one | (refine AV fun _ _=>?_;first | rfl | (split<;>rfl))) (by simp only [AR]) (by simp only [AR]<;>omega) (AL _ _ (by simp only [AR]))) ?_;intro _ w' a hM hF;change Af w w' [some (b1,AJ (p:Int) (n:Int) T f),some (b2,AI (fun _=>0)),none,none] [] at hM;refine ag hF rfl rfl fun a hF=>nt<|wp_ret<|Bw rfl hF.defers (Ao AP hF rfl (hM.row 1 rfl) (by simp only [AR])) (Ab hF rfl) ⟨_,rfl,hM.below,?_⟩;exact .inr ⟨fun u=>LQ hp2 hn0 hn hTp hE hKer hl u,rfl⟩
end Go.Proofs.Ytkcneleabbjkaaa
