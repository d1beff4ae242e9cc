import Derived.Test.YtmlnjicajdbjlaaGreatDoorZ5
import Derived.Test.YtmlnjicajdbjlaaGreatDoorH5
import Derived.Test.YtmlnjicajdbjlaaGreatDoorSw10
import Derived.Shelf.Small.Bits
import Derived.Shelf.Strconv.Itoa0
import Derived.Test.YtmlnjicajdbjlaaGreatDoorProg
set_option linter.unusedVariables false
set_option linter.unusedSimpArgs false
namespace Go.Proofs.YtmlnjicajdbjlaaGreatDoor
open Go Go.RowKit Go.Sw Go.Ech
open Classical
theorem ltV_trans {x y z:Nat→Nat}(h:ltV x y)(k:ltV y z):ltV x z:=by
  obtain ⟨i,hi,h1,h2⟩:=h;obtain ⟨j,hj,k1,k2⟩:=k
  rcases Nat.lt_trichotomy i j with e | e | e
  · exact ⟨i,hi,fun q hq=>(h1 q hq).trans (k1 q (by omega)),by have:=k1 i e;omega⟩
  · subst e;exact ⟨i,hi,fun q hq=>(h1 q hq).trans (k1 q hq),by omega⟩
  · exact ⟨j,hj,fun q hq=>(h1 q (by omega)).trans (k1 q hq),by have:=h1 j e;omega⟩
theorem ltV_asymm {x y:Nat→Nat}(h:ltV x y)(k:ltV y x):False:=by
  obtain ⟨i,hi,h1,h2⟩:=ltV_trans h k;omega
theorem ltV_tri {x y:Nat→Nat}(h1:¬ ltV x y)(h2:¬ ltV y x):∀ c,c<6→x c=y c:=by
  intro c
  induction c using Nat.strongRecOn with
  | ind c ih =>
    intro hc
    rcases Nat.lt_trichotomy (x c) (y c) with e | e | e
    · exact absurd ⟨c,hc,fun j hj=>ih j hj (by omega),e⟩ h1
    · exact e
    · exact absurd ⟨c,hc,fun j hj=>(ih j hj (by omega)).symm,e⟩ h2
def ps (S:Nat→Nat→Nat) (x:Nat→Nat):Nat→Nat
  | 0=>0
  | i+1=>if ltV (S i) x then i+1 else ps S x i
theorem ps_le {S:Nat→Nat→Nat}{x:Nat→Nat}:∀ i,ps S x i≤i
  | 0=>Nat.le_refl _
  | i+1=>by have:=ps_le (S:=S) (x:=x) i;unfold ps;split<;>omega
theorem ps_eq {S:Nat→Nat→Nat}{x:Nat→Nat}{j:Nat}:∀ i,j≤i→(j=0∨ltV (S (j - 1)) x)→(∀ k,j≤k→k<i→¬ ltV (S k) x)→ps S x i=j
  | 0,h,_,_=>by unfold ps;omega
  | i + 1, h, h1, h2 => by
    unfold ps
    by_cases e:j=i+1
    · subst e
      rw [if_pos]
      rcases h1 with h1 | h1
      · omega
      · exact h1
    · rw [if_neg (h2 i (by omega) (by omega))];exact ps_eq i (by omega) h1 (fun k h3 h4=>h2 k h3 (by omega))
theorem ps_above {S:Nat→Nat→Nat}{x:Nat→Nat}:∀ i k,ps S x i≤k→k<i→¬ ltV (S k) x
  | 0,k,_,h=>absurd h (by omega)
  | i + 1, k, h, hk => by
    unfold ps at h
    by_cases e:ltV (S i) x
    · rw [if_pos e] at h;omega
    · rw [if_neg e] at h
      by_cases e2:k=i
      · rw [e2];exact e
      · exact ps_above i k h (by omega)
theorem ps_at {S:Nat→Nat→Nat}{x:Nat→Nat}:∀ i,ps S x i=0∨ltV (S (ps S x i - 1)) x
  | 0=>.inl rfl
  | i + 1 => by
    unfold ps
    by_cases e:ltV (S i) x
    · rw [if_pos e];exact .inr e
    · rw [if_neg e];exact ps_at i
def insF (S:Nat→Nat→Nat) (x:Nat→Nat) (i:Nat):Nat→Nat→Nat:=fun k=>if k<ps S x i then S k else if k=ps S x i then x else S (k - 1)
def srt (L:Nat→Nat→Nat):Nat→Nat→Nat→Nat
  | 0=>fun _=>zv
  | i+1=>insF (srt L i) (L i) i
def Dst (L:Nat→Nat→Nat) (N:Nat):Prop:=∀ a,a<N→∀ b,b<N→a≠b→¬ ∀ c,c<6→L a c=L b c
theorem srt_mem {L:Nat→Nat→Nat}:∀ i a,a<i→∃ b,b<i∧srt L i a=L b
  | 0,a,h=>absurd h (by omega)
  | i + 1, a, ha => by
    show ∃ b,b<i+1∧insF (srt L i) (L i) i a=L b
    unfold insF
    have hp:=ps_le (S:=srt L i) (x:=L i) i
    split
    · obtain ⟨b,hb,e⟩:=srt_mem (L:=L) i a (by omega);exact ⟨b,by omega,e⟩
    · split
      · exact ⟨i,by omega,rfl⟩
      · obtain ⟨b,hb,e⟩:=srt_mem (L:=L) i (a - 1) (by omega);exact ⟨b,by omega,e⟩
theorem srt_tri {L:Nat→Nat→Nat}{N i k:Nat}(hD:Dst L N)(hi:i<N)(hk:k<i):ltV (srt L i k) (L i)∨ltV (L i) (srt L i k):=by
  obtain ⟨b,hb,e⟩:=srt_mem (L:=L) i k hk
  by_cases h1:ltV (srt L i k) (L i)
  · exact .inl h1
  · by_cases h2:ltV (L i) (srt L i k)
    · exact .inr h2
    · rw [e] at h1 h2
      exact absurd (ltV_tri h1 h2) (hD b (by omega) i hi (by omega))
theorem srt_sorted {L:Nat→Nat→Nat}{N:Nat}(hD:Dst L N):∀ i,i≤N→∀ a b,a<b→b<i→ltV (srt L i a) (srt L i b)
  | 0,_,a,b,_,hb=>absurd hb (by omega)
  | i + 1, h, a, b, hab, hb => by
    have ih:=srt_sorted hD i (by omega)
    have hp:=ps_le (S:=srt L i) (x:=L i) i
    have hlo:∀ k,k<ps (srt L i) (L i) i→ltV (srt L i k) (L i):=fun k hk=>by
      rcases ps_at (S:=srt L i) (x:=L i) i with e | e
      · omega
      · by_cases e2:k=ps (srt L i) (L i) i - 1
        · rw [e2];exact e
        · exact ltV_trans (ih k _ (by omega) (by omega)) e
    have hhi:∀ k,ps (srt L i) (L i) i≤k→k<i→ltV (L i) (srt L i k):=fun k h1 h2=>(srt_tri hD (by omega) h2).resolve_left (ps_above i k h1 h2)
    show ltV (insF (srt L i) (L i) i a) (insF (srt L i) (L i) i b)
    unfold insF
    by_cases ha:a<ps (srt L i) (L i) i
    · rw [if_pos ha]
      by_cases h1:b<ps (srt L i) (L i) i
      · rw [if_pos h1];exact ih a b hab (by omega)
      · rw [if_neg h1]
        by_cases h2:b=ps (srt L i) (L i) i
        · rw [if_pos h2];exact hlo a ha
        · rw [if_neg h2];exact ih a (b - 1) (by omega) (by omega)
    · rw [if_neg ha,if_neg (show ¬ b<ps (srt L i) (L i) i by omega),if_neg (show ¬ b=ps (srt L i) (L i) i by omega)]
      by_cases h2:a=ps (srt L i) (L i) i
      · rw [if_pos h2];exact hhi (b - 1) (by omega) (by omega)
      · rw [if_neg h2];exact ih (a - 1) (b - 1) (by omega) (by omega)
theorem srt_le {L:Nat→Nat→Nat}(hL:∀ k c,L k c≤255):∀ i k c,srt L i k c≤255
  | 0,k,c=>Nat.zero_le _
  | i + 1, k, c => by
    show insF (srt L i) (L i) i k c≤255
    unfold insF;split
    · exact srt_le hL i _ c
    · split
      · exact hL _ _
      · exact srt_le hL i _ c
def stD (S L:Nat→Nat→Nat) (i:Nat):Nat→Nat→Nat:=fun k=>if k<i then S k else L k
def mvD (S L:Nat→Nat→Nat) (i j:Nat):Nat→Nat→Nat:=fun k=>if k<j then S k else if k=j then L i else if k≤i then S (k - 1) else L k
theorem mvD_start {S L:Nat→Nat→Nat}{i:Nat}:stD S L i=mvD S L i i:=funext fun k=>by
  unfold mvD stD
  by_cases h:k<i
  · rw [if_pos h,if_pos h]
  · rw [if_neg h,if_neg h]
    by_cases e:k=i
    · rw [if_pos e,e]
    · rw [if_neg e,if_neg (by omega)]
theorem mvD_at {S L:Nat→Nat→Nat}{i j:Nat}:mvD S L i j j=L i:=by unfold mvD;rw [if_neg (by omega),if_pos rfl]
theorem mvD_pre {S L:Nat→Nat→Nat}{i j:Nat}(h:0<j):mvD S L i j (j - 1)=S (j - 1):=by unfold mvD;rw [if_pos (by omega)]
theorem mvD_swap {S L:Nat→Nat→Nat}{i j:Nat}(h:0<j)(hji:j≤i):upE (upE (mvD S L i j) j (mvD S L i j (j - 1))) (j - 1) (mvD S L i j j)=mvD S L i (j - 1):=funext fun k=>by
  rw [mvD_at,mvD_pre h]
  unfold upE
  by_cases e1:k=j - 1
  · rw [if_pos e1,e1,mvD_at]
  · rw [if_neg e1]
    by_cases e2:k=j
    · rw [if_pos e2];unfold mvD;rw [if_neg (by omega),if_neg (by omega),if_pos (by omega),e2]
    · rw [if_neg e2];unfold mvD
      by_cases e3:k<j
      · rw [if_pos e3,if_pos (by omega)]
      · rw [if_neg e3,if_neg e2,if_neg (show ¬ k<j - 1 by omega),if_neg e1]
theorem mvD_end {S L:Nat→Nat→Nat}{i j:Nat}(h:ps S (L i) i=j):mvD S L i j=stD (insF S (L i) i) L (i+1):=funext fun k=>by
  have hp:=ps_le (S:=S) (x:=L i) i
  unfold mvD stD insF
  rw [h]
  by_cases e1:k<j
  · rw [if_pos e1,if_pos (by omega),if_pos e1]
  · rw [if_neg e1]
    by_cases e2:k=j
    · rw [if_pos e2,if_pos (by omega),if_neg e1,if_pos e2]
    · rw [if_neg e2]
      by_cases e3:k≤i
      · rw [if_pos e3,if_pos (by omega),if_neg e1,if_neg e2]
      · rw [if_neg e3,if_neg (by omega)]
theorem mvD_le {S L:Nat→Nat→Nat}{i j:Nat}(hS:∀ k c,S k c≤255)(hL:∀ k c,L k c≤255):∀ k c,mvD S L i j k c≤255:=fun k c=>by
  unfold mvD;repeat' split
  all_goals first | exact hS _ _ | exact hL _ _
def rowV (cs:Array Value) (N:Nat) (D:Nat→Nat→Nat):Array Value:=fnC cs.size (fun c=>if c<N*6 then .int .u8 (D (c / 6) (c%6):Int) else (cs[c]?).getD undef)
theorem rowV_size {cs:Array Value}{N:Nat}{D:Nat→Nat→Nat}:(rowV cs N D).size=cs.size:=fnC_size _ _
theorem rowV_of {u:Value}{e:Option (Nat×Array Value)}{N b cap:Nat}{cs:Array Value}{D:Nat→Nat→Nat}(h:SlAt 6 u e N b cap cs (fun c=>.int .u8 (D (c / 6) (c%6):Int))):cs=rowV cs N D:=
  fnC_ext rfl fun i hi=>by
    by_cases e:i<N*6
    · rw [if_pos e];exact h.get i e
    · rw [if_neg e,Array.getElem?_eq_getElem hi];rfl
theorem rowV_congr {cs:Array Value}{N:Nat}{D D':Nat→Nat→Nat}(h:∀ k,k<N→∀ c,c<6→D k c=D' k c):rowV cs N D=rowV cs N D':=
  fnC_congr fun c hc=>by
    by_cases e:c<N*6
    · rw [if_pos e,if_pos e,h (c / 6) (by omega) (c%6) (by omega)]
    · rw [if_neg e,if_neg e]
theorem rowV_get {cs:Array Value}{N:Nat}{D:Nat→Nat→Nat}(hN:N*6≤cs.size){c:Nat}(hc:c<N*6):(rowV cs N D)[c]? = some (.int .u8 (D (c / 6) (c%6):Int)):=by
  unfold rowV;rw [fnC_get (by omega),if_pos hc]
theorem rowV_vec {cs:Array Value}{N:Nat}{D:Nat→Nat→Nat}(hN:N*6≤cs.size)(i:Nat)(hi:i<N):(rowV cs N D).extract (0+i*6) (0+i*6+6)=vecC (D i):=
  extract_ext rfl (by rw [rowV_size];omega) fun q hq=>by
    rw [rowV_get hN (by omega),show (0+i*6+q) / 6=i by omega,show (0+i*6+q)%6=q by omega]
theorem rowV_room {cs:Array Value}{N:Nat}{D:Nat→Nat→Nat}(hN:N*6≤cs.size)(i:Nat)(hi:i<N):0+i*6+6≤(rowV cs N D).size:=by rw [rowV_size];omega
theorem rowV_put {cs:Array Value}{N:Nat}{D:Nat→Nat→Nat}{y:Nat→Nat}(hN:N*6≤cs.size)(j:Nat)(hj:j<N):splice (rowV cs N D) (0+j*6) (vecC y)=rowV cs N (upE D j y):=by
  have h6:(vecC y).size=6:=fnC_size _ _;have hle:0+j*6+(vecC y).size≤(rowV cs N D).size:=by rw [h6,rowV_size];omega
  refine fnC_ext (by rw [splice_size _ _ _ hle,rowV_size]) fun i hi=>?_;rw [splice_get _ _ _ _ hle,h6]
  by_cases e:0+j*6≤i∧i<0+j*6+6
  · rw [if_pos e,if_pos (by omega)]
    unfold vecC upE
    rw [fnC_get (by omega),if_pos (by omega),show i - (0+j*6)=i%6 by omega]
  · rw [if_neg e]
    unfold rowV
    rw [fnC_get hi]
    by_cases e2:i<N*6
    · rw [if_pos e2,if_pos e2];unfold upE;rw [if_neg (by omega)]
    · rw [if_neg e2,if_neg e2]
theorem insertionSort_ok (b1 c1 nn:Nat)(cs1:Array Value)(ls:Nat→Nat→Nat)(w:World)(hnn:0<nn)(hnn2:nn≤12)(hsz1:nn*6≤cs1.size)(hb:Blk w b1 (rowV cs1 nn ls))(hL:∀ k c,ls k c≤255)(hD:Dst ls nn) :
    CallsX Tryz.prog [b1] 128 #[.slice (some ⟨b1,0,none⟩) nn c1,.int .i64 (0),.int .i64 (nn:Int),.func (.func 99) #[] #[]] w (fun v w'=>v = .tuple #[]∧Blk w' b1 (rowV cs1 nn (srt ls nn))):=by
  refine calls_frX [.slice (some ⟨b1,0,none⟩) nn c1,.int .i64 (0),.int .i64 (nn:Int),.func (.func 99) #[] #[]] Tryz.func128 rfl Tryz.ntmps128 rfl fun a hF=>?_;have hM:MemX [b1] w w [some (b1,rowV cs1 nn ls)] []:=MemX.startX1 0 hb;change Fr 53 a [(0,.slice (some ⟨b1,0,none⟩) nn c1),(1,.int .i64 (0)),(2,.int .i64 (nn:Int)),(3,.func (.func 99) #[] #[])] at hF;refine sr<|mv hF rfl rfl fun a hF=>st hF (g_add hF rfl rfl (add_nat (0) (1) (by omega))) rfl fun a hF=>ag hF rfl rfl fun a hF=>nt<|wp_block ?_;change MemX [b1] w _ [some (b1,rowV cs1 nn ls)] [] at hM;refine c_loop (fun (kk:Nat) a w'=>kk≤(nn - 1)∧(True)∧Fr 53 a [(0,.slice (some ⟨b1,0,none⟩) nn c1),(1,.int .i64 (0)),(2,.int .i64 (nn:Int)),(3,.func (.func 99) #[] #[]),(8,.int .i64 (((kk+1:Nat):Int)))]∧MemX [b1] w w' [some (b1,rowV cs1 nn (stD (srt ls (kk+1)) ls (kk+1)))] []) (fun kk=>(nn - 1) - kk) 0 ?_ ?_
  · refine ⟨by omega,trivial,hF.sub _ (by repeat' constructor),?_⟩
    have e0:stD (srt ls (0+1)) ls (0+1)=ls:=funext fun k=>by
      unfold stD;by_cases e:k<0+1
      · rw [if_pos e,show k=0 by omega];rfl
      · rw [if_neg e]
    rw [e0];exact hM
  clear hF hM;rintro gi a w' ⟨hgi,hinv1,hF,hM⟩;refine sq<|sr<|mv hF rfl rfl fun a hF=>mv hF rfl rfl fun a hF=>st hF (g_lss hF rfl rfl) rfl fun a hF=>nt<|c_cond hF rfl (fun h1=>?_) (fun h1=>?_)
  · refine wp_skip ?_
    refine tN<|sq<|wp_block<|sr<|mv hF rfl rfl fun a hF=>ag hF rfl rfl fun a hF=>nt<|wp_block ?_;change MemX [b1] w _ [some (b1,rowV cs1 nn (stD (srt ls (gi+1)) ls (gi+1)))] [] at hM;refine c_loop (fun (kk:Nat) a w'=>kk≤(gi+1)∧(∀ k,(gi+1 - kk)≤k→k<gi+1→¬ ltV ((srt ls (gi+1)) k) (ls (gi+1)))∧Fr 53 a [(0,.slice (some ⟨b1,0,none⟩) nn c1),(1,.int .i64 (0)),(2,.int .i64 (nn:Int)),(3,.func (.func 99) #[] #[]),(8,.int .i64 (((gi+1:Nat):Int))),(12,.int .i64 (((gi+1:Nat):Int))),(13,.int .i64 (nn:Int)),(14,.bool (decide ((((gi+1:Nat):Int):Int)<(nn:Int)))),(17,.int .i64 (((gi+1:Nat):Int))),(9,.int .i64 ((((gi+1 - kk):Nat):Int)))]∧MemX [b1] w w' [some (b1,rowV cs1 nn (mvD (srt ls (gi+1)) ls (gi+1) (gi+1 - kk)))] []) (fun kk=>(gi+1) - kk) 0 ?_ ?_
    · refine ⟨by omega,fun k h1 h2=>absurd h2 (by omega),hF.sub _ (by repeat' constructor),?_⟩
      rw [show gi+1 - 0=gi+1 by omega,← mvD_start];exact hM
    clear hF hM;rintro gk a w' ⟨hgk,hinv2,hF,hM⟩;have hDb:∀ k c,(mvD (srt ls (gi+1)) ls (gi+1) (gi+1 - gk)) k c≤255:=mvD_le (srt_le hL _) hL;refine sq<|sq ?_
    by_cases hj0:0<(gi+1 - gk)
    · refine c_parQ 14 [] [.val (.int .i64 ((((gi+1 - gk):Nat):Int))),.val (.int .i64 (0)),.val (.bool (true)),.val (.bool (true)),.val (.func (.func 99) #[] #[]),.val (.slice (some ⟨b1,0,none⟩) nn c1),.val (.int .i64 ((((gi+1 - gk):Nat):Int))),.val (ptr b1 (0+((gi+1 - gk))*6)),.val (.agg (vecC ((mvD (srt ls (gi+1)) ls (gi+1) (gi+1 - gk)) ((gi+1 - gk))))),.val (.slice (some ⟨b1,0,none⟩) nn c1),.val (.int .i64 ((((gi+1 - gk):Nat):Int))),.val (.int .i64 ((((gi+1 - gk) - 1:Nat):Int))),.val (ptr b1 (0+((gi+1 - gk) - 1)*6)),.val (.agg (vecC ((mvD (srt ls (gi+1)) ls (gi+1) (gi+1 - gk)) ((gi+1 - gk) - 1))))] hmix rfl hF rfl hM ⟨fun a w gG hF hS hd=>q_none rfl (by exact pmv hS rfl hF rfl),fun a w gG hF hS hd=>q_none rfl (by exact pmv hS rfl hF rfl),fun a w gG hF hS hd=>q_none rfl (by have hF:=hF.ext1 18 (hd 0 rfl rfl);have hF:=hF.ext1 19 (hd 1 rfl rfl);exact par_val hS rfl (gives_eq (g_gtr hF rfl rfl) (congrArg Value.bool (decide_eq_true (by omega))))),fun a w gG hF hS hd=>q_none rfl (by have hF:=hF.ext1 20 (hd 2 rfl rfl);exact pmv hS rfl hF rfl),fun a w gG hF hS hd=>q_yes rfl (hF.ext1 21 (hd 3 rfl rfl)) rfl rfl rfl (by exact pmv hS rfl hF rfl),fun a w gG hF hS hd=>q_yes rfl (hF.ext1 21 (hd 3 rfl rfl)) rfl rfl rfl (by exact pmv hS rfl hF rfl),fun a w gG hF hS hd=>q_yes rfl (hF.ext1 21 (hd 3 rfl rfl)) rfl rfl rfl (by exact pmv hS rfl hF rfl),fun a w gG hF hS hd=>q_yes rfl (hF.ext1 21 (hd 3 rfl rfl)) rfl rfl rfl (by have hF:=hF.ext1 23 (hd 5 rfl rfl);have hF:=hF.ext1 24 (hd 6 rfl rfl);exact par_val hS rfl (g_indexSl (i:=(gi+1 - gk)) ty_sl_27 hF rfl rfl rfl (by omega))),fun a w gG hF hS hd=>q_yes rfl (hF.ext1 21 (hd 3 rfl rfl)) rfl rfl rfl (by have hF:=hF.ext1 25 (hd 7 rfl rfl);have hM:=hS.mem rfl;exact par_val hS rfl (g_loadAgg ty_ag_30 hF rfl (hM.row 0 rfl) (rowV_room hsz1 ((gi+1 - gk)) (by omega)) (rowV_vec hsz1 ((gi+1 - gk)) (by omega)))),fun a w gG hF hS hd=>q_yes rfl (hF.ext1 21 (hd 3 rfl rfl)) rfl rfl rfl (by exact pmv hS rfl hF rfl),fun a w gG hF hS hd=>q_yes rfl (hF.ext1 21 (hd 3 rfl rfl)) rfl rfl rfl (by exact pmv hS rfl hF rfl),fun a w gG hF hS hd=>q_yes rfl (hF.ext1 21 (hd 3 rfl rfl)) rfl rfl rfl (by have hF:=hF.ext1 28 (hd 10 rfl rfl);exact par_val hS rfl (g_sub hF rfl rfl (show _=(((gi+1 - gk) - 1:Nat):Int) from (by rw [wrap_i64]<;>omega)))),fun a w gG hF hS hd=>q_yes rfl (hF.ext1 21 (hd 3 rfl rfl)) rfl rfl rfl (by have hF:=hF.ext1 27 (hd 9 rfl rfl);have hF:=hF.ext1 29 (hd 11 rfl rfl);exact par_val hS rfl (g_indexSl (i:=(gi+1 - gk) - 1) ty_sl_27 hF rfl rfl rfl (by omega))),fun a w gG hF hS hd=>q_yes rfl (hF.ext1 21 (hd 3 rfl rfl)) rfl rfl rfl (by have hF:=hF.ext1 30 (hd 12 rfl rfl);have hM:=hS.mem rfl;exact par_val hS rfl (g_loadAgg ty_ag_30 hF rfl (hM.row 0 rfl) (rowV_room hsz1 ((gi+1 - gk) - 1) (by omega)) (rowV_vec hsz1 ((gi+1 - gk) - 1) (by omega)))),trivial⟩ ?_
      intro a w' L hF hS hq;have hM:=hS.mem rfl;have hF:=hF.ext1 18 (hq 0 rfl rfl);have hF:=hF.ext1 19 (hq 1 rfl rfl);have hF:=hF.ext1 20 (hq 2 rfl rfl);have hF:=hF.ext1 21 (hq 3 rfl rfl);have hF:=hF.ext1 22 (hq 4 rfl rfl);have hF:=hF.ext1 23 (hq 5 rfl rfl);have hF:=hF.ext1 24 (hq 6 rfl rfl);have hF:=hF.ext1 25 (hq 7 rfl rfl);have hF:=hF.ext1 26 (hq 8 rfl rfl);have hF:=hF.ext1 27 (hq 9 rfl rfl);have hF:=hF.ext1 28 (hq 10 rfl rfl);have hF:=hF.ext1 29 (hq 11 rfl rfl);have hF:=hF.ext1 30 (hq 12 rfl rfl);have hF:=hF.ext1 31 (hq 13 rfl rfl);change MemX [b1] w w' [some (b1,rowV cs1 nn (mvD (srt ls (gi+1)) ls (gi+1) (gi+1 - gk)))] [] at hM;change wpList Tryz.prog _ _ [_,_,_] _ _;refine stYR hF rfl rfl rfl (d_callV Tryz.call99 hF (cap:=[]) rfl (.cons rfl (.cons rfl .nil)) (compareVectors_ok (((mvD (srt ls (gi+1)) ls (gi+1) (gi+1 - gk)) ((gi+1 - gk)))) (((mvD (srt ls (gi+1)) ls (gi+1) (gi+1 - gk)) ((gi+1 - gk) - 1))) _ (hDb _) (hDb _))) rfl ?_;rintro _ w' a ⟨hx,rfl⟩ hF;have hM:=hM.ext hx;refine stY hF rfl rfl rfl (g_lss hF rfl rfl) rfl fun a hF=>st hF (g_pickT hF rfl rfl) rfl fun a hF=>nt<|c_cond hF rfl (fun h2=>?_) (fun h2=>?_)
      · refine wp_skip ?_
        refine tN<|sq<|wp_block ?_;refine c_drawS (S:=fun (b:Bool) w2=>MemX [b1] w w2 [some (b1,if b then rowV cs1 nn (upE (mvD (srt ls (gi+1)) ls (gi+1) (gi+1 - gk)) (gi+1 - gk) (((mvD (srt ls (gi+1)) ls (gi+1) (gi+1 - gk)) ((gi+1 - gk) - 1)))) else rowV cs1 nn (mvD (srt ls (gi+1)) ls (gi+1) (gi+1 - gk)))] []) 16 15 hmix rfl rfl rfl hF rfl (fun j o hj hne=>dstAll_spec (s:=15) (i:=0) rfl j o hj (by omega)) hM (fun b w h=>h.ext (Below.drew (Below.refl _ _))) (vAt [.slice (some ⟨b1,0,none⟩) nn c1,.int .i64 ((((gi+1 - gk):Nat):Int)),.slice (some ⟨b1,0,none⟩) nn c1,.int .i64 ((((gi+1 - gk):Nat):Int)),.int .i64 ((((gi+1 - gk) - 1:Nat):Int)),.slice (some ⟨b1,0,none⟩) nn c1,.int .i64 ((((gi+1 - gk):Nat):Int)),.int .i64 ((((gi+1 - gk) - 1:Nat):Int)),ptr b1 (0+((gi+1 - gk) - 1)*6),.agg (vecC ((mvD (srt ls (gi+1)) ls (gi+1) (gi+1 - gk)) ((gi+1 - gk) - 1))),.slice (some ⟨b1,0,none⟩) nn c1,.int .i64 ((((gi+1 - gk):Nat):Int)),ptr b1 (0+((gi+1 - gk))*6),.agg (vecC ((mvD (srt ls (gi+1)) ls (gi+1) (gi+1 - gk)) ((gi+1 - gk)))),ptr b1 (0+((gi+1 - gk))*6),undef]) ⟨fun a w2 b hF hS hb hd=>by exact parS_val (S:=fun (b:Bool) w2=>MemX [b1] w w2 [some (b1,if b then rowV cs1 nn (upE (mvD (srt ls (gi+1)) ls (gi+1) (gi+1 - gk)) (gi+1 - gk) (((mvD (srt ls (gi+1)) ls (gi+1) (gi+1 - gk)) ((gi+1 - gk) - 1)))) else rowV cs1 nn (mvD (srt ls (gi+1)) ls (gi+1) (gi+1 - gk)))] []) hS (g_move hF rfl),fun a w2 b hF hS hb hd=>by exact parS_val (S:=fun (b:Bool) w2=>MemX [b1] w w2 [some (b1,if b then rowV cs1 nn (upE (mvD (srt ls (gi+1)) ls (gi+1) (gi+1 - gk)) (gi+1 - gk) (((mvD (srt ls (gi+1)) ls (gi+1) (gi+1 - gk)) ((gi+1 - gk) - 1)))) else rowV cs1 nn (mvD (srt ls (gi+1)) ls (gi+1) (gi+1 - gk)))] []) hS (g_move hF rfl),fun a w2 b hF hS hb hd=>by exact parS_val (S:=fun (b:Bool) w2=>MemX [b1] w w2 [some (b1,if b then rowV cs1 nn (upE (mvD (srt ls (gi+1)) ls (gi+1) (gi+1 - gk)) (gi+1 - gk) (((mvD (srt ls (gi+1)) ls (gi+1) (gi+1 - gk)) ((gi+1 - gk) - 1)))) else rowV cs1 nn (mvD (srt ls (gi+1)) ls (gi+1) (gi+1 - gk)))] []) hS (g_move hF rfl),fun a w2 b hF hS hb hd=>by exact parS_val (S:=fun (b:Bool) w2=>MemX [b1] w w2 [some (b1,if b then rowV cs1 nn (upE (mvD (srt ls (gi+1)) ls (gi+1) (gi+1 - gk)) (gi+1 - gk) (((mvD (srt ls (gi+1)) ls (gi+1) (gi+1 - gk)) ((gi+1 - gk) - 1)))) else rowV cs1 nn (mvD (srt ls (gi+1)) ls (gi+1) (gi+1 - gk)))] []) hS (g_move hF rfl),fun a w2 b hF hS hb hd=>by have hF:=hF.ext1 40 (hd 3 rfl rfl rfl);exact parS_val (S:=fun (b:Bool) w2=>MemX [b1] w w2 [some (b1,if b then rowV cs1 nn (upE (mvD (srt ls (gi+1)) ls (gi+1) (gi+1 - gk)) (gi+1 - gk) (((mvD (srt ls (gi+1)) ls (gi+1) (gi+1 - gk)) ((gi+1 - gk) - 1)))) else rowV cs1 nn (mvD (srt ls (gi+1)) ls (gi+1) (gi+1 - gk)))] []) hS (g_sub hF rfl rfl (show _=(((gi+1 - gk) - 1:Nat):Int) from (by rw [wrap_i64]<;>omega))),fun a w2 b hF hS hb hd=>by exact parS_val (S:=fun (b:Bool) w2=>MemX [b1] w w2 [some (b1,if b then rowV cs1 nn (upE (mvD (srt ls (gi+1)) ls (gi+1) (gi+1 - gk)) (gi+1 - gk) (((mvD (srt ls (gi+1)) ls (gi+1) (gi+1 - gk)) ((gi+1 - gk) - 1)))) else rowV cs1 nn (mvD (srt ls (gi+1)) ls (gi+1) (gi+1 - gk)))] []) hS (g_move hF rfl),fun a w2 b hF hS hb hd=>by exact parS_val (S:=fun (b:Bool) w2=>MemX [b1] w w2 [some (b1,if b then rowV cs1 nn (upE (mvD (srt ls (gi+1)) ls (gi+1) (gi+1 - gk)) (gi+1 - gk) (((mvD (srt ls (gi+1)) ls (gi+1) (gi+1 - gk)) ((gi+1 - gk) - 1)))) else rowV cs1 nn (mvD (srt ls (gi+1)) ls (gi+1) (gi+1 - gk)))] []) hS (g_move hF rfl),fun a w2 b hF hS hb hd=>by have hF:=hF.ext1 43 (hd 6 rfl rfl rfl);exact parS_val (S:=fun (b:Bool) w2=>MemX [b1] w w2 [some (b1,if b then rowV cs1 nn (upE (mvD (srt ls (gi+1)) ls (gi+1) (gi+1 - gk)) (gi+1 - gk) (((mvD (srt ls (gi+1)) ls (gi+1) (gi+1 - gk)) ((gi+1 - gk) - 1)))) else rowV cs1 nn (mvD (srt ls (gi+1)) ls (gi+1) (gi+1 - gk)))] []) hS (g_sub hF rfl rfl (show _=(((gi+1 - gk) - 1:Nat):Int) from (by rw [wrap_i64]<;>omega))),fun a w2 b hF hS hb hd=>by have hF:=hF.ext1 42 (hd 5 rfl rfl rfl);have hF:=hF.ext1 44 (hd 7 rfl rfl rfl);exact parS_val (S:=fun (b:Bool) w2=>MemX [b1] w w2 [some (b1,if b then rowV cs1 nn (upE (mvD (srt ls (gi+1)) ls (gi+1) (gi+1 - gk)) (gi+1 - gk) (((mvD (srt ls (gi+1)) ls (gi+1) (gi+1 - gk)) ((gi+1 - gk) - 1)))) else rowV cs1 nn (mvD (srt ls (gi+1)) ls (gi+1) (gi+1 - gk)))] []) hS (g_indexSl (i:=(gi+1 - gk) - 1) ty_sl_27 hF rfl rfl rfl (by omega)),fun a w2 b hF hS hb hd=>by have hF:=hF.ext1 45 (hd 8 rfl rfl rfl);obtain rfl:=hb rfl;have hM:MemX [b1] w w2 [some (b1,rowV cs1 nn (mvD (srt ls (gi+1)) ls (gi+1) (gi+1 - gk)))] []:=hS;exact parS_val (S:=fun (b:Bool) w2=>MemX [b1] w w2 [some (b1,if b then rowV cs1 nn (upE (mvD (srt ls (gi+1)) ls (gi+1) (gi+1 - gk)) (gi+1 - gk) (((mvD (srt ls (gi+1)) ls (gi+1) (gi+1 - gk)) ((gi+1 - gk) - 1)))) else rowV cs1 nn (mvD (srt ls (gi+1)) ls (gi+1) (gi+1 - gk)))] []) (b:=false) hS (g_loadAgg ty_ag_30 hF rfl (hM.row 0 rfl) (rowV_room hsz1 ((gi+1 - gk) - 1) (by omega)) (rowV_vec hsz1 ((gi+1 - gk) - 1) (by omega))),fun a w2 b hF hS hb hd=>by exact parS_val (S:=fun (b:Bool) w2=>MemX [b1] w w2 [some (b1,if b then rowV cs1 nn (upE (mvD (srt ls (gi+1)) ls (gi+1) (gi+1 - gk)) (gi+1 - gk) (((mvD (srt ls (gi+1)) ls (gi+1) (gi+1 - gk)) ((gi+1 - gk) - 1)))) else rowV cs1 nn (mvD (srt ls (gi+1)) ls (gi+1) (gi+1 - gk)))] []) hS (g_move hF rfl),fun a w2 b hF hS hb hd=>by exact parS_val (S:=fun (b:Bool) w2=>MemX [b1] w w2 [some (b1,if b then rowV cs1 nn (upE (mvD (srt ls (gi+1)) ls (gi+1) (gi+1 - gk)) (gi+1 - gk) (((mvD (srt ls (gi+1)) ls (gi+1) (gi+1 - gk)) ((gi+1 - gk) - 1)))) else rowV cs1 nn (mvD (srt ls (gi+1)) ls (gi+1) (gi+1 - gk)))] []) hS (g_move hF rfl),fun a w2 b hF hS hb hd=>by have hF:=hF.ext1 47 (hd 10 rfl rfl rfl);have hF:=hF.ext1 48 (hd 11 rfl rfl rfl);exact parS_val (S:=fun (b:Bool) w2=>MemX [b1] w w2 [some (b1,if b then rowV cs1 nn (upE (mvD (srt ls (gi+1)) ls (gi+1) (gi+1 - gk)) (gi+1 - gk) (((mvD (srt ls (gi+1)) ls (gi+1) (gi+1 - gk)) ((gi+1 - gk) - 1)))) else rowV cs1 nn (mvD (srt ls (gi+1)) ls (gi+1) (gi+1 - gk)))] []) hS (g_indexSl (i:=(gi+1 - gk)) ty_sl_27 hF rfl rfl rfl (by omega)),fun a w2 b hF hS hb hd=>by have hF:=hF.ext1 49 (hd 12 rfl rfl rfl);obtain rfl:=hb rfl;have hM:MemX [b1] w w2 [some (b1,rowV cs1 nn (mvD (srt ls (gi+1)) ls (gi+1) (gi+1 - gk)))] []:=hS;exact parS_val (S:=fun (b:Bool) w2=>MemX [b1] w w2 [some (b1,if b then rowV cs1 nn (upE (mvD (srt ls (gi+1)) ls (gi+1) (gi+1 - gk)) (gi+1 - gk) (((mvD (srt ls (gi+1)) ls (gi+1) (gi+1 - gk)) ((gi+1 - gk) - 1)))) else rowV cs1 nn (mvD (srt ls (gi+1)) ls (gi+1) (gi+1 - gk)))] []) (b:=false) hS (g_loadAgg ty_ag_30 hF rfl (hM.row 0 rfl) (rowV_room hsz1 ((gi+1 - gk)) (by omega)) (rowV_vec hsz1 ((gi+1 - gk)) (by omega))),fun a w2 b hF hS hb hd=>by have hF:=hF.ext1 37 (hd 0 rfl rfl rfl);have hF:=hF.ext1 38 (hd 1 rfl rfl rfl);exact parS_val (S:=fun (b:Bool) w2=>MemX [b1] w w2 [some (b1,if b then rowV cs1 nn (upE (mvD (srt ls (gi+1)) ls (gi+1) (gi+1 - gk)) (gi+1 - gk) (((mvD (srt ls (gi+1)) ls (gi+1) (gi+1 - gk)) ((gi+1 - gk) - 1)))) else rowV cs1 nn (mvD (srt ls (gi+1)) ls (gi+1) (gi+1 - gk)))] []) hS (g_indexSl (i:=(gi+1 - gk)) ty_sl_27 hF rfl rfl rfl (by omega)),fun a w2 hF hS hd=>by have hF:=hF.ext1 46 (hd 9 rfl rfl rfl);have hF:=hF.ext1 51 (hd 14 rfl rfl rfl);have hM:MemX [b1] w w2 [some (b1,rowV cs1 nn (mvD (srt ls (gi+1)) ls (gi+1) (gi+1 - gk)))] []:=hS;exact d_storeAgg 0 hM rfl ty_sz_30 hF rfl rfl (by first | exact vecC_one | exact cells_one | (refine fnC_one fun _ _=>?_;first | rfl | (split<;>rfl))) (by simp only [sz0,dgC_size,numC_sz,ldB_size,rowV_size]) (by simp only [sz0,dgC_size,numC_sz,ldB_size,rowV_size]<;>omega) (rowV_put hsz1 (gi+1 - gk) (by omega)),trivial⟩ ?_
        intro a w' hF hS hq;have hM:MemX [b1] w w' [some (b1,rowV cs1 nn (upE (mvD (srt ls (gi+1)) ls (gi+1) (gi+1 - gk)) (gi+1 - gk) (((mvD (srt ls (gi+1)) ls (gi+1) (gi+1 - gk)) ((gi+1 - gk) - 1)))))] []:=hS;have hF:=hF.ext1 39 (hq 2 rfl rfl rfl);have hF:=hF.ext1 41 (hq 4 rfl rfl rfl);have hF:=hF.ext1 50 (hq 13 rfl rfl rfl);change wpList Tryz.prog _ _ [_,_] _ _;refine st hF (g_indexSl (i:=(gi+1 - gk) - 1) ty_sl_27 hF rfl rfl rfl (by omega)) rfl fun a hF=>stN hF (d_storeAgg 0 hM rfl ty_sz_30 hF rfl rfl (by first | exact vecC_one | exact cells_one | (refine fnC_one fun _ _=>?_;first | rfl | (split<;>rfl))) (by simp only [sz0,dgC_size,numC_sz,ldB_size,rowV_size]) (by simp only [sz0,dgC_size,numC_sz,ldB_size,rowV_size]<;>omega) (rowV_put hsz1 ((gi+1 - gk) - 1) (by omega))) ?_;intro _ w' a hM hF;change MemX [b1] w w' [some (b1,rowV cs1 nn (upE (upE (mvD (srt ls (gi+1)) ls (gi+1) (gi+1 - gk)) (gi+1 - gk) (((mvD (srt ls (gi+1)) ls (gi+1) (gi+1 - gk)) ((gi+1 - gk) - 1)))) ((gi+1 - gk) - 1) (((mvD (srt ls (gi+1)) ls (gi+1) (gi+1 - gk)) ((gi+1 - gk))))))] [] at hM;refine wpList_nil<|iN<|tN<|wp_region_lit<|mv hF rfl rfl fun a hF=>st hF (g_sub hF rfl rfl (show _=(((gi+1 - gk) - 1:Nat):Int) from (by rw [wrap_i64]<;>omega))) rfl fun a hF=>ag hF rfl rfl fun a hF=>wpList_nil<|tN ?_;refine ⟨gk+1,⟨by omega,fun k h1 h2=>by
                              by_cases e:k=(gi+1 - gk) - 1
                              · rw [e];intro hlt;have hc9:=cmpV_neg.1 (by assumption:cmpV _ _<0);rw [mvD_at,mvD_pre (by omega)] at hc9;exact ltV_asymm hlt hc9
                              · exact hinv2 k (by omega) h2,hF.sub _ (by repeat' constructor),?_⟩,by omega⟩
        rw [mvD_swap (by omega) (by omega)] at hM;rw [show gi+1 - (gk+1)=(gi+1 - gk) - 1 by omega];exact hM
      refine wp_exit<|tX<|tX<|ib_same<|iN<|tN<|wp_region_lit<|mv hF rfl rfl fun a hF=>st hF (g_add hF rfl rfl (add_nat (gi+1) (1) (by omega))) rfl fun a hF=>ag hF rfl rfl fun a hF=>wpList_nil<|tN ?_;have hps:ps (srt ls (gi+1)) (ls (gi+1)) (gi+1)=gi+1 - gk:=ps_eq _ (by omega) (by first | exact .inl (by omega) | (refine .inr ((srt_tri hD (by omega) (by omega)).resolve_right fun hlt=>?_);exact absurd (show cmpV ((mvD (srt ls (gi+1)) ls (gi+1) (gi+1 - gk)) (gi+1 - gk)) ((mvD (srt ls (gi+1)) ls (gi+1) (gi+1 - gk)) ((gi+1 - gk) - 1))<0 from by rw [mvD_at,mvD_pre (by omega)];exact cmpV_neg.2 hlt) (by assumption))) hinv2;refine ⟨gi+1,⟨by omega,trivial,hF.sub _ (by repeat' constructor),?_⟩,by omega⟩;rw [mvD_end hps] at hM;exact hM
    refine c_parQ 14 [] [.val (.int .i64 ((((gi+1 - gk):Nat):Int))),.val (.int .i64 (0)),.val (.bool (false)),.val (.bool (false)),.val undef,.val undef,.val undef,.val undef,.val undef,.val undef,.val undef,.val undef,.val undef,.val undef] hmix rfl hF rfl hM ⟨fun a w gG hF hS hd=>q_none rfl (by exact pmv hS rfl hF rfl),fun a w gG hF hS hd=>q_none rfl (by exact pmv hS rfl hF rfl),fun a w gG hF hS hd=>q_none rfl (by have hF:=hF.ext1 18 (hd 0 rfl rfl);have hF:=hF.ext1 19 (hd 1 rfl rfl);exact par_val hS rfl (gives_eq (g_gtr hF rfl rfl) (congrArg Value.bool (decide_eq_false (by omega))))),fun a w gG hF hS hd=>q_none rfl (by have hF:=hF.ext1 20 (hd 2 rfl rfl);exact pmv hS rfl hF rfl),fun a w gG hF hS hd=>q_no rfl (hF.ext1 21 (hd 3 rfl rfl)) rfl rfl rfl rfl ⟨gG,hS,fact_get rfl rfl,fun _ _ _ h=>h⟩,fun a w gG hF hS hd=>q_no rfl (hF.ext1 21 (hd 3 rfl rfl)) rfl rfl rfl rfl ⟨gG,hS,fact_get rfl rfl,fun _ _ _ h=>h⟩,fun a w gG hF hS hd=>q_no rfl (hF.ext1 21 (hd 3 rfl rfl)) rfl rfl rfl rfl ⟨gG,hS,fact_get rfl rfl,fun _ _ _ h=>h⟩,fun a w gG hF hS hd=>q_no rfl (hF.ext1 21 (hd 3 rfl rfl)) rfl rfl rfl rfl ⟨gG,hS,fact_get rfl rfl,fun _ _ _ h=>h⟩,fun a w gG hF hS hd=>q_no rfl (hF.ext1 21 (hd 3 rfl rfl)) rfl rfl rfl rfl ⟨gG,hS,fact_get rfl rfl,fun _ _ _ h=>h⟩,fun a w gG hF hS hd=>q_no rfl (hF.ext1 21 (hd 3 rfl rfl)) rfl rfl rfl rfl ⟨gG,hS,fact_get rfl rfl,fun _ _ _ h=>h⟩,fun a w gG hF hS hd=>q_no rfl (hF.ext1 21 (hd 3 rfl rfl)) rfl rfl rfl rfl ⟨gG,hS,fact_get rfl rfl,fun _ _ _ h=>h⟩,fun a w gG hF hS hd=>q_no rfl (hF.ext1 21 (hd 3 rfl rfl)) rfl rfl rfl rfl ⟨gG,hS,fact_get rfl rfl,fun _ _ _ h=>h⟩,fun a w gG hF hS hd=>q_no rfl (hF.ext1 21 (hd 3 rfl rfl)) rfl rfl rfl rfl ⟨gG,hS,fact_get rfl rfl,fun _ _ _ h=>h⟩,fun a w gG hF hS hd=>q_no rfl (hF.ext1 21 (hd 3 rfl rfl)) rfl rfl rfl rfl ⟨gG,hS,fact_get rfl rfl,fun _ _ _ h=>h⟩,trivial⟩ ?_;intro a w' L hF hS hq;have hM:=hS.mem rfl;have hF:=hF.ext1 18 (hq 0 rfl rfl);have hF:=hF.ext1 19 (hq 1 rfl rfl);have hF:=hF.ext1 20 (hq 2 rfl rfl);have hF:=hF.ext1 21 (hq 3 rfl rfl);have hF:=hF.ext1 22 (hq 4 rfl rfl);have hF:=hF.ext1 23 (hq 5 rfl rfl);have hF:=hF.ext1 24 (hq 6 rfl rfl);have hF:=hF.ext1 25 (hq 7 rfl rfl);have hF:=hF.ext1 26 (hq 8 rfl rfl);have hF:=hF.ext1 27 (hq 9 rfl rfl);have hF:=hF.ext1 28 (hq 10 rfl rfl);have hF:=hF.ext1 29 (hq 11 rfl rfl);have hF:=hF.ext1 30 (hq 12 rfl rfl);have hF:=hF.ext1 31 (hq 13 rfl rfl);change MemX [b1] w w' [some (b1,rowV cs1 nn (mvD (srt ls (gi+1)) ls (gi+1) (gi+1 - gk)))] [] at hM;change wpList Tryz.prog _ _ [_,_,_] _ _;refine stS hF rfl rfl rfl rfl rfl fun a hF=>stS hF rfl rfl rfl rfl rfl fun a hF=>st hF (g_pickF hF rfl rfl) rfl fun a hF=>nt<|c_Fl hF rfl<|wp_exit<|tX<|tX<|ib_same<|iN<|tN<|wp_region_lit<|mv hF rfl rfl fun a hF=>st hF (g_add hF rfl rfl (add_nat (gi+1) (1) (by omega))) rfl fun a hF=>ag hF rfl rfl fun a hF=>wpList_nil<|tN ?_;have hps:ps (srt ls (gi+1)) (ls (gi+1)) (gi+1)=gi+1 - gk:=ps_eq _ (by omega) (by first | exact .inl (by omega) | (refine .inr ((srt_tri hD (by omega) (by omega)).resolve_right fun hlt=>?_);exact absurd (show cmpV ((mvD (srt ls (gi+1)) ls (gi+1) (gi+1 - gk)) (gi+1 - gk)) ((mvD (srt ls (gi+1)) ls (gi+1) (gi+1 - gk)) ((gi+1 - gk) - 1))<0 from by rw [mvD_at,mvD_pre (by omega)];exact cmpV_neg.2 hlt) (by assumption))) hinv2;refine ⟨gi+1,⟨by omega,trivial,hF.sub _ (by repeat' constructor),?_⟩,by omega⟩;rw [mvD_end hps] at hM;exact hM
  obtain rfl:(nn - 1)=gi:=by omega
  refine wp_exit<|tX<|tX<|ib_same<|fin0n rfl hF.defers ⟨_,rfl,hM.bel,?_⟩;exact ⟨rfl,by have h9:=hM.row 0 rfl;rwa [show nn - 1+1=nn by omega,rowV_congr (D':=srt ls nn) (fun k hk c _=>by unfold stD;rw [if_pos hk])] at h9⟩
end Go.Proofs.YtmlnjicajdbjlaaGreatDoor
namespace Go.Proofs
open Go.Shelf
def Tryz.lays128_ren:Go.Shelf.Ren:=⟨fun | 128=>136 | n=>n,fun | 51=>137 | 3=>3 | 4=>4 | 46=>119 | 5=>5 | 9=>9 | n=>n,fun | n=>n⟩
def Tryz.lays125_ren:Go.Shelf.Ren:=⟨fun | 125=>120 | 128=>136 | 129=>137 | n=>n,fun | 46=>119 | 3=>3 | 51=>137 | 53=>139 | 4=>4 | 5=>5 | 9=>9 | n=>n,fun | n=>n⟩
theorem Tryz.lays125:Go.Proofs.Lays.n125 Tryz.prog Tryz.lays125_ren:={
  mixed:=by kernel_rfl
  f125:=Tryz.func120.trans (congrArg some (by kernel_rfl))
  f128:=Tryz.func136.trans (congrArg some (by kernel_rfl))
  f129:=Tryz.func137.trans (congrArg some (by kernel_rfl))
  t3:=Tryz.underlying3
  a3:=Tryz.isAgg3
  z3:=Tryz.sizeOf3
  v3:=Tryz.zeroValue3
  t4:=Tryz.underlying4
  a4:=Tryz.isAgg4
  z4:=Tryz.sizeOf4
  v4:=Tryz.zeroValue4
  t5:=Tryz.underlying5
  a5:=Tryz.isAgg5
  z5:=Tryz.sizeOf5
  v5:=Tryz.zeroValue5
  t9:=Tryz.underlying9
  a9:=Tryz.isAgg9
  z9:=Tryz.sizeOf9
  v9:=Tryz.zeroValue9
  t46:=Tryz.underlying119
  a46:=Tryz.isAgg119
  z46:=Tryz.sizeOf119
  v46:=Tryz.zeroValue119
  t51:=Tryz.underlying137
  a51:=Tryz.isAgg137
  z51:=Tryz.sizeOf137
  v51:=Tryz.zeroValue137
  t53:=Tryz.underlying139
  a53:=Tryz.isAgg139
  z53:=Tryz.sizeOf139
  v53:=Tryz.zeroValue139 }
theorem Tryz.bits_Len (x:Int)(w:World)(h0:0≤x)(h1:x≤18446744073709551615) :
    Calls Tryz.prog 120 #[.int .u64 x] w fun e w'=>e = .returned (.int .i64 (Lib.bitLen x.toNat))∧w'=w:=Any.bits_Len Tryz.lays125 x w h0 h1
def Tryz.lays129_ren:Go.Shelf.Ren:=⟨fun | 129=>137 | n=>n,fun | 53=>139 | 3=>3 | 4=>4 | 46=>119 | 5=>5 | 9=>9 | n=>n,fun | n=>n⟩
end Go.Proofs
namespace Go.Proofs.YtmlnjicajdbjlaaGreatDoor
open Go Go.RowKit Go.Sw Go.Ech
open Classical
theorem ty_ud_3:Tryz.prog.underlying 3=some (.int .i64):=by kernel_rfl
theorem ty_un_119:Tryz.prog.underlying 119=some (.int .u64):=by kernel_rfl
theorem wrap_u64 {x:Int}(h1:0≤x)(h2:x<18446744073709551616):IntKind.u64.wrap x=x:=by
  unfold IntKind.wrap IntKind.bits IntKind.signed
  simp
  omega
theorem bitsLen_ok (n:Nat)(w:World)(h:n≤1000):CallsR Tryz.prog 120 #[.int .u64 (n:Int)] w (fun v _=>∃ l:Int,v = .int .i64 l):=
  (Tryz.bits_Len (n:Int) w (by omega) (by omega)).mono fun e w' ⟨he,hw⟩=>⟨_,he,hw ▸ Ext.refl _,_,rfl⟩
theorem pdqsort_ok (b1 c1 nn:Nat)(cs1:Array Value)(ls:Nat→Nat→Nat)(lim:Int)(w:World)(hnn:0<nn)(hnn2:nn≤12)(hsz1:nn*6≤cs1.size)(hb:Blk w b1 (rowV cs1 nn ls))(hL:∀ k c,ls k c≤255)(hD:Dst ls nn) :
    CallsX Tryz.prog [b1] 119 #[.slice (some ⟨b1,0,none⟩) nn c1,.int .i64 (0),.int .i64 (nn:Int),.int .i64 (lim),.func (.func 99) #[] #[]] w (fun v w'=>v = .tuple #[]∧Blk w' b1 (rowV cs1 nn (srt ls nn))):=by
  refine calls_frX [.slice (some ⟨b1,0,none⟩) nn c1,.int .i64 (0),.int .i64 (nn:Int),.int .i64 (lim),.func (.func 99) #[] #[]] Tryz.func119 rfl Tryz.ntmps119 rfl fun a hF=>?_;have hM:MemX [b1] w w [some (b1,rowV cs1 nn ls)] []:=MemX.startX1 0 hb;change Fr 148 a [(0,.slice (some ⟨b1,0,none⟩) nn c1),(1,.int .i64 (0)),(2,.int .i64 (nn:Int)),(3,.int .i64 (lim)),(4,.func (.func 99) #[] #[])] at hF;refine sr<|ag hF rfl rfl fun a hF=>ns<|ag hF rfl rfl fun a hF=>nt<|wp_block<|wp_loop_rounds 1<|rnd<|wp_block<|sr<|mv hF rfl rfl fun a hF=>mv hF rfl rfl fun a hF=>st hF (g_sub hF rfl rfl (show _=(nn:Int) from (by rw [wrap_i64]<;>omega))) rfl fun a hF=>ag hF rfl rfl fun a hF=>nt<|sq<|sr<|mv hF rfl rfl fun a hF=>st hF (g_leq hF rfl rfl) rfl fun a hF=>nt<|c_cond hF rfl (fun h1=>?_) (fun h1=>?_)
  · refine sq ?_
    refine wp_region_lit<|mv hF rfl rfl fun a hF=>mv hF rfl rfl fun a hF=>mv hF rfl rfl fun a hF=>mv hF rfl rfl fun a hF=>stR hF (d_callX Tryz.call128 hF (.cons rfl (.cons rfl (.cons rfl (.cons rfl .nil)))) (insertionSort_ok b1 c1 nn cs1 ls _ hnn hnn2 hsz1 (hM.row 0 rfl) hL hD)) rfl ?_;rintro _ w' a ⟨hx,rfl,hbk⟩ hF;have hM:=hM.upd (cs':=rowV cs1 nn (srt ls nn)) 0 rfl hx hbk;change MemX [b1] w w' [some (b1,rowV cs1 nn (srt ls nn))] [] at hM;refine nt<|wp_ret<|tR<|iR<|tR<|iR<|fin0 rfl hF.defers ⟨_,rfl,hM.bel,?_⟩;exact ⟨rfl,hM.row 0 rfl⟩
  exfalso;omega
theorem sortFunc_ok (b1 c1 nn:Nat)(cs1:Array Value)(ls:Nat→Nat→Nat)(w:World)(hnn:0<nn)(hnn2:nn≤12)(hsz1:nn*6≤cs1.size)(hb:Blk w b1 (rowV cs1 nn ls))(hL:∀ k c,ls k c≤255)(hD:Dst ls nn) :
    CallsX Tryz.prog [b1] 98 #[.slice (some ⟨b1,0,none⟩) nn c1,.func (.func 99) #[] #[]] w (fun v w'=>v = .tuple #[]∧Blk w' b1 (rowV cs1 nn (srt ls nn))):=by
  refine calls_frX [.slice (some ⟨b1,0,none⟩) nn c1,.func (.func 99) #[] #[]] Tryz.func98 rfl Tryz.ntmps98 rfl fun a hF=>?_;have hM:MemX [b1] w w [some (b1,rowV cs1 nn ls)] []:=MemX.startX1 0 hb;change Fr 14 a [(0,.slice (some ⟨b1,0,none⟩) nn c1),(1,.func (.func 99) #[] #[])] at hF;refine sr<|mv hF rfl rfl fun a hF=>st hF (g_len ty_us_27 hF rfl) rfl fun a hF=>ag hF rfl rfl fun a hF=>nt<|wp_region_lit<|mv hF rfl rfl fun a hF=>mv hF rfl rfl fun a hF=>mv hF rfl rfl fun a hF=>st hF (g_conv ty_un_119 ty_ud_3 hF rfl (wrap_u64 (by omega) (by omega))) rfl fun a hF=>stR hF (d_call Tryz.call120 hF (.cons rfl .nil) (bitsLen_ok (nn) _ (by omega))) rfl ?_;rintro _ w' a ⟨hx,lim,rfl⟩ hF;have hM:=hM.ext hx;refine mv hF rfl rfl fun a hF=>stR hF (d_callX Tryz.call119 hF (.cons rfl (.cons rfl (.cons rfl (.cons rfl (.cons rfl .nil))))) (pdqsort_ok b1 c1 nn cs1 ls lim _ hnn hnn2 hsz1 (hM.row 0 rfl) hL hD)) rfl ?_;rintro _ w' a ⟨hx,rfl,hbk⟩ hF;have hM:=hM.upd (cs':=rowV cs1 nn (srt ls nn)) 0 rfl hx hbk;change MemX [b1] w w' [some (b1,rowV cs1 nn (srt ls nn))] [] at hM;refine wpList_nil<|fin0n rfl hF.defers ⟨_,rfl,hM.bel,?_⟩;exact ⟨rfl,hM.row 0 rfl⟩
end Go.Proofs.YtmlnjicajdbjlaaGreatDoor
