import Derived.Test.YtdeinnaeicmlfaaGreatJ4
import Derived.Test.YtdeinnaeicmlfaaGreatSw29
import Derived.Shelf.Small.Bits
import Derived.Shelf.Strconv.Itoa0
import Derived.Test.YtdeinnaeicmlfaaGreatProg
import Derived.Test.YtdeinnaeicmlfaaGreatSw38
set_option linter.unusedVariables false
set_option linter.unusedSimpArgs false
namespace Go.Proofs.YtdeinnaeicmlfaaGreat
open Go Go.RowKit Go.Sw Go.Ech
open Classical
def szV (k l:Nat):Int:=if l≤k then ((k - l:Nat):Int) else -1
end Go.Proofs.YtdeinnaeicmlfaaGreat
namespace Go.Proofs.YtdeinnaeicmlfaaGreat
open Go Go.RowKit Go.Sw Go.Ech
open Classical
def NumP (len lo hi:Int) (l:Nat) (f:Nat→Int):Prop:=(l:Int)=len∧∀ j,j<l→lo≤f j∧f j≤hi
def ShP (p:Int) (n m:Nat) (Ln:Nat→Nat) (R:Nat→Nat→Int):Prop:=m=n∧∀ i,i<m→Ln i=n∧∀ j,j<n→0≤R i j∧R i j≤p - 1
def rOf (R:Nat→Nat→Int) (i j:Nat):Nat:=(R i j).toNat
structure ShT (w:World) (b o n p:Nat) (ca be ob:Nat→Nat) (r:Nat→Nat→Nat):Prop where
  cell:∀ i,i<n→w.cell? ⟨b,o+i*1,none⟩=some (.slice (some ⟨be i,ob i,none⟩) n (ca i))
  num:∀ i,i<n→∀ j,j<n→w.cell? ⟨be i,ob i+j*1,none⟩=some (.int .i64 (r i j:Int))
  lt:∀ i,i<n→∀ j,j<n→r i j<p
def cocT (p:Nat) (M r:Nat→Nat→Nat) (i j k:Nat):Prop:=(r i j*r (M i j) k)%p=(r j k*r i (M j k))%p
def CocP (p n:Nat) (M r:Nat→Nat→Nat):Prop:=(∀ i,i<n→∀ j,j<n→r i j≠0∧∀ k,k<n→cocT p M r i j k)∧r 0 0=1
theorem primeP_pos2 {p:Int}(h:primeP p):2≤p∧p≤13:=by unfold primeP at h;omega
end Go.Proofs.YtdeinnaeicmlfaaGreat
namespace Go.Proofs.YtdeinnaeicmlfaaGreat
open Go Go.RowKit Go.Sw Go.Ech
open Classical
end Go.Proofs.YtdeinnaeicmlfaaGreat
namespace Go.Proofs.YtdeinnaeicmlfaaGreat
open Go Go.RowKit Go.Sw Go.Ech
open Classical
section
variable {n : Nat} {M : Nat → Nat → Nat}
theorem TabP.c (hn:n≤6)(h:TabP n M){a b:Nat}(ha:a<n)(hb:b<n):M a b<n:=h.lt (by omega) (by omega)
theorem TabP.ir (h:TabP n M){a:Nat}(ha:a<n):M a (lead (M a) n)=0:=(lead_spec (M a) n).2.2 (h.inv ha)
theorem TabP.il (hn0:0<n)(hn:n≤6)(h:TabP n M){a:Nat}(ha:a<n):M (lead (M a) n) a=0:=by
  obtain ⟨j,hj,h1,h2⟩:=h.two hn0 hn ha;have hi:=h.inv ha;have e:M (M j a) (lead (M a) n)=M j (M a (lead (M a) n)):=h.2.2.2 j hj a ha _ hi;rw [h2,h.ir ha,(h.2.1 _ hi).1,(h.2.1 j hj).2] at e;rw [e];exact h2
theorem TabP.iu (hn0:0<n)(hn:n≤6)(h:TabP n M){a b:Nat}(ha:a<n)(hb:b<n)(he:M a b=0):b=lead (M a) n:=by
  have hi:=h.inv ha;have e:=h.2.2.2 _ hi a ha b hb;rw [h.il hn0 hn ha,he,(h.2.1 b hb).1,(h.2.1 _ hi).2] at e;exact e
theorem TabP.ii (hn0:0<n)(hn:n≤6)(h:TabP n M){a:Nat}(ha:a<n):lead (M (lead (M a) n)) n=a:=(h.iu hn0 hn (h.inv ha) ha (h.il hn0 hn ha)).symm
theorem TabP.im (hn0:0<n)(hn:n≤6)(h:TabP n M){a b:Nat}(ha:a<n)(hb:b<n):lead (M (M a b)) n=M (lead (M b) n) (lead (M a) n):=by
  have h1:=h.inv ha;have h2:=h.inv hb;refine (h.iu hn0 hn (h.c hn ha hb) (h.c hn h2 h1) ?_).symm;rw [h.2.2.2 a ha b hb _ (h.c hn h2 h1),← h.2.2.2 b hb _ h2 _ h1,h.ir hb,(h.2.1 _ h1).1,h.ir ha]
def cj (M:Nat→Nat→Nat) (n x y:Nat):Nat:=M (M y x) (lead (M y) n)
def inC (M:Nat→Nat→Nat) (n x j:Nat):Bool:=(List.range n).any fun y=>decide (cj M n x y=j)
theorem inC_iff {x j:Nat}:inC M n x j=true↔∃ y,y<n∧cj M n x y=j:=by
  unfold inC
  rw [List.any_eq_true]
  constructor
  · rintro ⟨y,h1,h2⟩;exact ⟨y,by simpa using h1,by simpa using h2⟩
  · rintro ⟨y,h1,h2⟩;exact ⟨y,by simpa using h1,by simpa using h2⟩
theorem cj_lt (hn:n≤6)(h:TabP n M){x y:Nat}(hx:x<n)(hy:y<n):cj M n x y<n:=h.c hn (h.c hn hy hx) (h.inv hy)
theorem inC_refl (hn0:0<n)(h:TabP n M){x:Nat}(hx:x<n):inC M n x x=true:=inC_iff.2 ⟨0,hn0,by
  have e:lead (M 0) n=0:=lead_eq hn0 (h.2.1 0 hn0).1 (fun i hi=>absurd hi (by omega))
  unfold cj
  rw [e,(h.2.1 x hx).1,(h.2.1 x hx).2]⟩
theorem inC_symm (hn0:0<n)(hn:n≤6)(h:TabP n M){x j:Nat}(hx:x<n)(hj:inC M n x j=true):inC M n j x=true:=by
  obtain ⟨y,hy,rfl⟩:=inC_iff.1 hj;have hi:=h.inv hy;have hyx:=h.c hn hy hx;refine inC_iff.2 ⟨lead (M y) n,hi,?_⟩
  unfold cj
  rw [h.ii hn0 hn hy,← h.2.2.2 _ hi _ hyx _ hi,← h.2.2.2 _ hi y hy x hx,h.il hn0 hn hy,(h.2.1 x hx).1,h.2.2.2 x hx _ hi y hy,h.il hn0 hn hy,(h.2.1 x hx).2]
theorem inC_trans (hn0:0<n)(hn:n≤6)(h:TabP n M){x j k:Nat}(hx:x<n)(h1:inC M n x j=true)(h2:inC M n j k=true):inC M n x k=true:=by
  obtain ⟨y,hy,rfl⟩:=inC_iff.1 h1;obtain ⟨z,hz,rfl⟩:=inC_iff.1 h2;refine inC_iff.2 ⟨M z y,h.c hn hz hy,?_⟩;have hiy:=h.inv hy;have hiz:=h.inv hz;have hyx:=h.c hn hy hx
  unfold cj
  rw [h.im hn0 hn hz hy,h.2.2.2 z hz y hy x hx,← h.2.2.2 _ (h.c hn hz hyx) _ hiy _ hiz,h.2.2.2 z hz _ hyx _ hiy]
def isRep (M:Nat→Nat→Nat) (n x:Nat):Bool:=(List.range x).all fun i=>!(inC M n i x)
theorem isRep_iff {x:Nat}:isRep M n x=true↔∀ i,i<x→¬ inC M n i x=true:=by
  unfold isRep
  rw [List.all_eq_true]
  constructor
  · intro h i hi hq;have:=h i (by simpa using hi);rw [hq] at this;cases this
  · intro h i hi;have:=h i (by simpa using hi);simpa using this
theorem rep_met (hn0:0<n)(hn:n≤6)(h:TabP n M){x:Nat}(hx:x<n):isRep M n x=true↔¬ ∃ i,i<x∧isRep M n i=true∧inC M n i x=true:=by
  rw [isRep_iff]
  constructor
  · rintro h1 ⟨i,hi,_,h2⟩;exact h1 i hi h2
  · intro h1 i hi h2
    have key:∀ m i,i≤m→i<x→inC M n i x=true→∃ i,i<x∧isRep M n i=true∧inC M n i x=true:=by
      intro m
      induction m with
      | zero =>
        intro i h3 h4 h5;obtain rfl:i=0:=by omega
        exact ⟨0,h4,isRep_iff.2 (fun j hj=>absurd hj (by omega)),h5⟩
      | succ m ih =>
        intro i h3 h4 h5
        by_cases e:isRep M n i=true
        · exact ⟨i,h4,e,h5⟩
        · have e2:∃ q,q<i∧inC M n q i=true:=Decidable.by_contra fun hq=>e (isRep_iff.2 fun q h6 h7=>hq ⟨q,h6,h7⟩)
          obtain ⟨q,h6,h7⟩:=e2;exact ih q (by omega) (by omega) (inC_trans hn0 hn h (by omega) h7 h5)
    exact h1 (key i i (Nat.le_refl _) hi h2)
theorem rep_first (hn0:0<n)(hn:n≤6)(h:TabP n M){x:Nat}(hx:x<n):asc (inC M n x) n 0=x↔isRep M n x=true:=by
  have hr:=inC_refl hn0 h hx;rw [isRep_iff]
  constructor
  · intro e i hi hq
    have h1:=inC_symm hn0 hn h (by omega) hq;have h0:0<cnt (inC M n x) n:=Nat.lt_of_le_of_lt (Nat.zero_le _) (cnt_lt hr hx);have h2:=asc_of h0;rw [e] at h2;have:=cnt_lt h1 hi
    omega
  · intro h1
    have e:cnt (inC M n x) x=0:=by
      by_cases e0:cnt (inC M n x) x=0
      · exact e0
      · obtain ⟨j,hj,hs,_⟩:=cnt_ex (S:=inC M n x) (n:=x) (k:=0) (by omega)
        exact absurd (inC_symm hn0 hn h hx hs) (h1 j hj)
    have:=asc_at hr hx
    rwa [e] at this
theorem cls_pos (hn0:0<n)(h:TabP n M){x:Nat}(hx:x<n):0<cnt (inC M n x) n:=Nat.lt_of_le_of_lt (Nat.zero_le _) (cnt_lt (inC_refl hn0 h hx) hx)
def nC (M:Nat→Nat→Nat) (n:Nat):Nat:=cnt (isRep M n) n
def rC (M:Nat→Nat→Nat) (n k:Nat):Nat:=asc (isRep M n) n k
def sC (M:Nat→Nat→Nat) (n k:Nat):Nat:=cnt (inC M n (rC M n k)) n
def eC (M:Nat→Nat→Nat) (n k c:Nat):Nat:=asc (inC M n (rC M n k)) n c
theorem nC_le (hn:n≤6):nC M n≤6:=Nat.le_trans (cnt_le n) hn
theorem rC_lt {k:Nat}(h:k<nC M n):rC M n k<n:=(asc_of h).1
theorem rC_rep {k:Nat}(h:k<nC M n):isRep M n (rC M n k)=true:=(asc_of h).2.1
theorem sC_pos (hn0:0<n)(hG:TabP n M){k:Nat}(h:k<nC M n):0<sC M n k:=cls_pos hn0 hG (rC_lt h)
theorem eC_0 (hn0:0<n)(hn:n≤6)(hG:TabP n M){k:Nat}(h:k<nC M n):eC M n k 0=rC M n k:=(rep_first hn0 hn hG (rC_lt h)).2 (rC_rep h)
theorem sC_le (hn:n≤6)(k:Nat):sC M n k≤6:=Nat.le_trans (cnt_le n) hn
theorem eC_lt {k c:Nat}(h:c<sC M n k):eC M n k c<n:=(asc_of h).1
end
end Go.Proofs.YtdeinnaeicmlfaaGreat
namespace Go.Proofs
open Go.Shelf
def Tryz.lays128_ren:Go.Shelf.Ren:=⟨fun | 128=>97 | n=>n,fun | 51=>120 | 3=>3 | 4=>4 | 46=>87 | 5=>5 | 9=>9 | n=>n,fun | n=>n⟩
def Tryz.lays125_ren:Go.Shelf.Ren:=⟨fun | 125=>86 | 128=>97 | 129=>98 | n=>n,fun | 46=>87 | 3=>3 | 51=>120 | 53=>77 | 4=>4 | 5=>5 | 9=>9 | n=>n,fun | n=>n⟩
theorem Tryz.lays125:Go.Proofs.Lays.n125 Tryz.prog Tryz.lays125_ren:={
  mixed:=by kernel_rfl
  f125:=Tryz.func86.trans (congrArg some (by kernel_rfl))
  f128:=Tryz.func97.trans (congrArg some (by kernel_rfl))
  f129:=Tryz.func98.trans (congrArg some (by kernel_rfl))
  t3:=Tryz.underlying3
  a3:=Tryz.isAgg3
  z3:=Tryz.sizeOf3
  v3:=Tryz.zeroValue3
  t4:=Tryz.underlying4
  a4:=Tryz.isAgg4
  z4:=Tryz.sizeOf4
  v4:=Tryz.zeroValue4
  t5:=Tryz.underlying5
  a5:=Tryz.isAgg5
  z5:=Tryz.sizeOf5
  v5:=Tryz.zeroValue5
  t9:=Tryz.underlying9
  a9:=Tryz.isAgg9
  z9:=Tryz.sizeOf9
  v9:=Tryz.zeroValue9
  t46:=Tryz.underlying87
  a46:=Tryz.isAgg87
  z46:=Tryz.sizeOf87
  v46:=Tryz.zeroValue87
  t51:=Tryz.underlying120
  a51:=Tryz.isAgg120
  z51:=Tryz.sizeOf120
  v51:=Tryz.zeroValue120
  t53:=Tryz.underlying77
  a53:=Tryz.isAgg77
  z53:=Tryz.sizeOf77
  v53:=Tryz.zeroValue77 }
theorem Tryz.bits_Len (x:Int)(w:World)(h0:0≤x)(h1:x≤18446744073709551615) :
    Calls Tryz.prog 86 #[.int .u64 x] w fun e w'=>e = .returned (.int .i64 (Lib.bitLen x.toNat))∧w'=w:=Any.bits_Len Tryz.lays125 x w h0 h1
def Tryz.lays129_ren:Go.Shelf.Ren:=⟨fun | 129=>98 | n=>n,fun | 53=>77 | 3=>3 | 4=>4 | 46=>87 | 5=>5 | 9=>9 | n=>n,fun | n=>n⟩
end Go.Proofs
namespace Go.Proofs.YtdeinnaeicmlfaaGreat
open Go Go.RowKit Go.Sw Go.Ech
open Classical
theorem ty_ud_3:Tryz.prog.underlying 3=some (.int .i64):=by kernel_rfl
theorem ty_un_87:Tryz.prog.underlying 87=some (.int .u64):=by kernel_rfl
theorem isNaN_ok (x:Nat)(w:World) :
    CallsR Tryz.prog 104 #[.int .i64 (x:Int)] w (fun res _=>res = .bool false):=by
  refine calls_fr [.int .i64 (x:Int)] Tryz.func104 rfl Tryz.ntmps104 rfl fun a hF=>?_;have hM:Mem w w [] []:=MemX.start w 0;change Fr 6 a [(0,.int .i64 (x:Int))] at hF;refine sr<|ag hF rfl rfl fun a hF=>ns<|mv hF rfl rfl fun a hF=>mv hF rfl rfl fun a hF=>st hF (g_neq hF rfl rfl) rfl fun a hF=>ag hF rfl rfl fun a hF=>nt<|wp_ret<|fin1 rfl hF.defers (res_tmp hF rfl) ⟨_,rfl,hM.below,?_⟩
  show _=_
  exact congrArg Value.bool (decide_eq_false (fun h=>h rfl))
theorem less_ok (x y:Nat)(w:World) :
    CallsR Tryz.prog 94 #[.int .i64 (x:Int),.int .i64 (y:Int)] w (fun res _=>res = .bool (decide ((x:Int)<(y:Int)))):=by
  refine calls_fr [.int .i64 (x:Int),.int .i64 (y:Int)] Tryz.func94 rfl Tryz.ntmps94 rfl fun a hF=>?_;have hM:Mem w w [] []:=MemX.start w 0;change Fr 17 a [(0,.int .i64 (x:Int)),(1,.int .i64 (y:Int))] at hF;refine sr<|ag hF rfl rfl fun a hF=>ns<|mv hF rfl rfl fun a hF=>stR hF (d_call Tryz.call104 hF (.cons rfl .nil) (isNaN_ok (x) _)) rfl ?_;rintro _ w' a ⟨hx,rfl⟩ hF;have hM:=hM.ext hx;refine mv hF rfl rfl fun a hF=>stS hF rfl rfl rfl rfl rfl fun a hF=>stS hF rfl rfl rfl rfl rfl fun a hF=>stS hF rfl rfl rfl rfl rfl fun a hF=>st hF (g_pickF hF rfl rfl) rfl fun a hF=>mv hF rfl rfl fun a hF=>stY hF rfl rfl rfl (g_move hF rfl) rfl fun a hF=>stY hF rfl rfl rfl (g_move hF rfl) rfl fun a hF=>stY hF rfl rfl rfl (g_lss hF rfl rfl) rfl fun a hF=>st hF (g_pickF hF rfl rfl) rfl fun a hF=>ag hF rfl rfl fun a hF=>nt<|wp_ret<|fin1 rfl hF.defers (res_tmp hF rfl) ⟨_,rfl,hM.below,?_⟩
  show _=_
  rfl
theorem insertionSort_ok (b1 c1 nn:Nat)(cs1:Array Value)(ls:Nat→Nat)(w:World)(hnn:0<nn)(hnn2:nn≤12)(hsz1:nn≤cs1.size)(hb:Blk w b1 (rowW cs1 nn ls)) :
    CallsX Tryz.prog [b1] 88 #[.slice (some ⟨b1,0,none⟩) nn c1,.int .i64 (0),.int .i64 (nn:Int)] w (fun v w'=>v = .tuple #[]∧∃ D,Blk w' b1 (rowW cs1 nn D)∧Asc nn D∧SameSet nn D ls):=by
  refine calls_frX [.slice (some ⟨b1,0,none⟩) nn c1,.int .i64 (0),.int .i64 (nn:Int)] Tryz.func88 rfl Tryz.ntmps88 rfl fun a hF=>?_;have hM:MemX [b1] w w [some (b1,rowW cs1 nn ls)] []:=MemX.startX1 0 hb;change Fr 49 a [(0,.slice (some ⟨b1,0,none⟩) nn c1),(1,.int .i64 (0)),(2,.int .i64 (nn:Int))] at hF;refine sr<|mv hF rfl rfl fun a hF=>st hF (g_add hF rfl rfl (add_nat (0) (1) (by omega))) rfl fun a hF=>ag hF rfl rfl fun a hF=>nt<|wp_block ?_;change MemX [b1] w _ [some (b1,rowW cs1 nn ls)] [] at hM;refine c_loop (fun (kk:Nat) a w'=>kk≤(nn - 1)∧∃ (D1:Nat→Nat),(Asc (kk+1) D1∧SameSet nn D1 ls)∧Fr 49 a [(0,.slice (some ⟨b1,0,none⟩) nn c1),(1,.int .i64 (0)),(2,.int .i64 (nn:Int)),(6,.int .i64 (((kk+1:Nat):Int)))]∧MemX [b1] w w' [some (b1,rowW cs1 nn D1)] []) (fun kk=>(nn - 1) - kk) 0 ?_ ?_
  · refine ⟨by omega,ls,⟨fun a b h1 h2=>absurd h2 (by omega),SameSet.rfl'⟩,hF.sub _ (by repeat' constructor),?_⟩
    exact hM
  clear hF hM;rintro gi a w' ⟨hgi,D1,hinv1,hF,hM⟩;refine sq<|sr<|mv hF rfl rfl fun a hF=>mv hF rfl rfl fun a hF=>st hF (g_lss hF rfl rfl) rfl fun a hF=>nt<|c_cond hF rfl (fun h1=>?_) (fun h1=>?_)
  · refine wp_skip ?_
    refine tN<|sq<|wp_block<|sr<|mv hF rfl rfl fun a hF=>ag hF rfl rfl fun a hF=>nt<|wp_block ?_;change MemX [b1] w _ [some (b1,rowW cs1 nn D1)] [] at hM;refine c_loop (fun (kk:Nat) a w'=>kk≤(gi+1)∧∃ (D2:Nat→Nat),(AscBut (gi+1+1) (gi+1 - kk) D2∧SameSet nn D2 ls)∧Fr 49 a [(0,.slice (some ⟨b1,0,none⟩) nn c1),(1,.int .i64 (0)),(2,.int .i64 (nn:Int)),(6,.int .i64 (((gi+1:Nat):Int))),(10,.int .i64 (((gi+1:Nat):Int))),(11,.int .i64 (nn:Int)),(12,.bool (decide ((((gi+1:Nat):Int):Int)<(nn:Int)))),(15,.int .i64 (((gi+1:Nat):Int))),(7,.int .i64 ((((gi+1 - kk):Nat):Int)))]∧MemX [b1] w w' [some (b1,rowW cs1 nn D2)] []) (fun kk=>(gi+1) - kk) 0 ?_ ?_
    · refine ⟨by omega,D1,⟨AscBut.start hinv1.1,hinv1.2⟩,hF.sub _ (by repeat' constructor),?_⟩
      exact hM
    clear hF hM;rintro gk a w' ⟨hgk,D2,hinv2,hF,hM⟩;refine sq<|sq ?_
    by_cases hj0:0<(gi+1 - gk)
    · refine c_parQ 13 [] [.val (.int .i64 ((((gi+1 - gk):Nat):Int))),.val (.int .i64 (0)),.val (.bool (true)),.val (.bool (true)),.val (.slice (some ⟨b1,0,none⟩) nn c1),.val (.int .i64 ((((gi+1 - gk):Nat):Int))),.val (ptr b1 (0+((gi+1 - gk))*1)),.val (.int .i64 ((D2 ((gi+1 - gk)):Int))),.val (.slice (some ⟨b1,0,none⟩) nn c1),.val (.int .i64 ((((gi+1 - gk):Nat):Int))),.val (.int .i64 ((((gi+1 - gk) - 1:Nat):Int))),.val (ptr b1 (0+((gi+1 - gk) - 1)*1)),.val (.int .i64 ((D2 ((gi+1 - gk) - 1):Int)))] hmix rfl hF rfl hM ⟨fun a w gG hF hS hd=>q_none rfl (by exact pmv hS rfl hF rfl),fun a w gG hF hS hd=>q_none rfl (by exact pmv hS rfl hF rfl),fun a w gG hF hS hd=>q_none rfl (by have hF:=hF.ext1 16 (hd 0 rfl rfl);have hF:=hF.ext1 17 (hd 1 rfl rfl);exact par_val hS rfl (gives_eq (g_gtr hF rfl rfl) (congrArg Value.bool (decide_eq_true (by omega))))),fun a w gG hF hS hd=>q_none rfl (by have hF:=hF.ext1 18 (hd 2 rfl rfl);exact pmv hS rfl hF rfl),fun a w gG hF hS hd=>q_yes rfl (hF.ext1 19 (hd 3 rfl rfl)) rfl rfl rfl (by exact pmv hS rfl hF rfl),fun a w gG hF hS hd=>q_yes rfl (hF.ext1 19 (hd 3 rfl rfl)) rfl rfl rfl (by exact pmv hS rfl hF rfl),fun a w gG hF hS hd=>q_yes rfl (hF.ext1 19 (hd 3 rfl rfl)) rfl rfl rfl (by have hF:=hF.ext1 20 (hd 4 rfl rfl);have hF:=hF.ext1 21 (hd 5 rfl rfl);exact par_val hS rfl (g_indexSl (i:=(gi+1 - gk)) ty_sl_49 hF rfl rfl rfl (by omega))),fun a w gG hF hS hd=>q_yes rfl (hF.ext1 19 (hd 3 rfl rfl)) rfl rfl rfl (by have hF:=hF.ext1 22 (hd 6 rfl rfl);have hM:=hS.mem rfl;exact par_val hS rfl (g_load ty_on_2 hF rfl (hM.row 0 rfl) (rowW_get hsz1 ((gi+1 - gk)) (by omega) (by omega)))),fun a w gG hF hS hd=>q_yes rfl (hF.ext1 19 (hd 3 rfl rfl)) rfl rfl rfl (by exact pmv hS rfl hF rfl),fun a w gG hF hS hd=>q_yes rfl (hF.ext1 19 (hd 3 rfl rfl)) rfl rfl rfl (by exact pmv hS rfl hF rfl),fun a w gG hF hS hd=>q_yes rfl (hF.ext1 19 (hd 3 rfl rfl)) rfl rfl rfl (by have hF:=hF.ext1 25 (hd 9 rfl rfl);exact par_val hS rfl (g_sub hF rfl rfl (show _=(((gi+1 - gk) - 1:Nat):Int) from (by rw [wrap_i64]<;>omega)))),fun a w gG hF hS hd=>q_yes rfl (hF.ext1 19 (hd 3 rfl rfl)) rfl rfl rfl (by have hF:=hF.ext1 24 (hd 8 rfl rfl);have hF:=hF.ext1 26 (hd 10 rfl rfl);exact par_val hS rfl (g_indexSl (i:=(gi+1 - gk) - 1) ty_sl_49 hF rfl rfl rfl (by omega))),fun a w gG hF hS hd=>q_yes rfl (hF.ext1 19 (hd 3 rfl rfl)) rfl rfl rfl (by have hF:=hF.ext1 27 (hd 11 rfl rfl);have hM:=hS.mem rfl;exact par_val hS rfl (g_load ty_on_2 hF rfl (hM.row 0 rfl) (rowW_get hsz1 ((gi+1 - gk) - 1) (by omega) (by omega)))),trivial⟩ ?_
      intro a w' L hF hS hq;have hM:=hS.mem rfl;have hF:=hF.ext1 16 (hq 0 rfl rfl);have hF:=hF.ext1 17 (hq 1 rfl rfl);have hF:=hF.ext1 18 (hq 2 rfl rfl);have hF:=hF.ext1 19 (hq 3 rfl rfl);have hF:=hF.ext1 20 (hq 4 rfl rfl);have hF:=hF.ext1 21 (hq 5 rfl rfl);have hF:=hF.ext1 22 (hq 6 rfl rfl);have hF:=hF.ext1 23 (hq 7 rfl rfl);have hF:=hF.ext1 24 (hq 8 rfl rfl);have hF:=hF.ext1 25 (hq 9 rfl rfl);have hF:=hF.ext1 26 (hq 10 rfl rfl);have hF:=hF.ext1 27 (hq 11 rfl rfl);have hF:=hF.ext1 28 (hq 12 rfl rfl);change MemX [b1] w w' [some (b1,rowW cs1 nn D2)] [] at hM;change wpList Tryz.prog _ _ [_,_] _ _;refine stYR hF rfl rfl rfl (d_call Tryz.call94 hF (.cons rfl (.cons rfl .nil)) (less_ok (D2 ((gi+1 - gk))) (D2 ((gi+1 - gk) - 1)) _)) rfl ?_;rintro _ w' a ⟨hx,rfl⟩ hF;have hM:=hM.ext hx;refine st hF (g_pickT hF rfl rfl) rfl fun a hF=>nt<|c_cond hF rfl (fun h2=>?_) (fun h2=>?_)
      · refine wp_skip ?_
        refine tN<|sq<|wp_block<|c_drawS (S:=fun (b:Bool) w2=>MemX [b1] w w2 [some (b1,if b then rowW cs1 nn (put1 D2 (gi+1 - gk) (D2 ((gi+1 - gk) - 1))) else rowW cs1 nn D2)] []) 16 15 hmix rfl rfl rfl hF rfl (fun j o hj hne=>dstAll_spec (s:=15) (i:=0) rfl j o hj (by omega)) hM (fun b w h=>h.ext (Below.drew (Below.refl _ _))) (vAt [.slice (some ⟨b1,0,none⟩) nn c1,.int .i64 ((((gi+1 - gk):Nat):Int)),.slice (some ⟨b1,0,none⟩) nn c1,.int .i64 ((((gi+1 - gk):Nat):Int)),.int .i64 ((((gi+1 - gk) - 1:Nat):Int)),.slice (some ⟨b1,0,none⟩) nn c1,.int .i64 ((((gi+1 - gk):Nat):Int)),.int .i64 ((((gi+1 - gk) - 1:Nat):Int)),ptr b1 (0+((gi+1 - gk) - 1)*1),.int .i64 ((D2 ((gi+1 - gk) - 1):Int)),.slice (some ⟨b1,0,none⟩) nn c1,.int .i64 ((((gi+1 - gk):Nat):Int)),ptr b1 (0+((gi+1 - gk))*1),.int .i64 ((D2 ((gi+1 - gk)):Int)),ptr b1 (0+((gi+1 - gk))*1),undef]) ⟨fun a w2 b hF hS hb hd=>by exact parS_val (S:=fun (b:Bool) w2=>MemX [b1] w w2 [some (b1,if b then rowW cs1 nn (put1 D2 (gi+1 - gk) (D2 ((gi+1 - gk) - 1))) else rowW cs1 nn D2)] []) hS (g_move hF rfl),fun a w2 b hF hS hb hd=>by exact parS_val (S:=fun (b:Bool) w2=>MemX [b1] w w2 [some (b1,if b then rowW cs1 nn (put1 D2 (gi+1 - gk) (D2 ((gi+1 - gk) - 1))) else rowW cs1 nn D2)] []) hS (g_move hF rfl),fun a w2 b hF hS hb hd=>by exact parS_val (S:=fun (b:Bool) w2=>MemX [b1] w w2 [some (b1,if b then rowW cs1 nn (put1 D2 (gi+1 - gk) (D2 ((gi+1 - gk) - 1))) else rowW cs1 nn D2)] []) hS (g_move hF rfl),fun a w2 b hF hS hb hd=>by exact parS_val (S:=fun (b:Bool) w2=>MemX [b1] w w2 [some (b1,if b then rowW cs1 nn (put1 D2 (gi+1 - gk) (D2 ((gi+1 - gk) - 1))) else rowW cs1 nn D2)] []) hS (g_move hF rfl),fun a w2 b hF hS hb hd=>by have hF:=hF.ext1 36 (hd 3 rfl rfl rfl);exact parS_val (S:=fun (b:Bool) w2=>MemX [b1] w w2 [some (b1,if b then rowW cs1 nn (put1 D2 (gi+1 - gk) (D2 ((gi+1 - gk) - 1))) else rowW cs1 nn D2)] []) hS (g_sub hF rfl rfl (show _=(((gi+1 - gk) - 1:Nat):Int) from (by rw [wrap_i64]<;>omega))),fun a w2 b hF hS hb hd=>by exact parS_val (S:=fun (b:Bool) w2=>MemX [b1] w w2 [some (b1,if b then rowW cs1 nn (put1 D2 (gi+1 - gk) (D2 ((gi+1 - gk) - 1))) else rowW cs1 nn D2)] []) hS (g_move hF rfl),fun a w2 b hF hS hb hd=>by exact parS_val (S:=fun (b:Bool) w2=>MemX [b1] w w2 [some (b1,if b then rowW cs1 nn (put1 D2 (gi+1 - gk) (D2 ((gi+1 - gk) - 1))) else rowW cs1 nn D2)] []) hS (g_move hF rfl),fun a w2 b hF hS hb hd=>by have hF:=hF.ext1 39 (hd 6 rfl rfl rfl);exact parS_val (S:=fun (b:Bool) w2=>MemX [b1] w w2 [some (b1,if b then rowW cs1 nn (put1 D2 (gi+1 - gk) (D2 ((gi+1 - gk) - 1))) else rowW cs1 nn D2)] []) hS (g_sub hF rfl rfl (show _=(((gi+1 - gk) - 1:Nat):Int) from (by rw [wrap_i64]<;>omega))),fun a w2 b hF hS hb hd=>by have hF:=hF.ext1 38 (hd 5 rfl rfl rfl);have hF:=hF.ext1 40 (hd 7 rfl rfl rfl);exact parS_val (S:=fun (b:Bool) w2=>MemX [b1] w w2 [some (b1,if b then rowW cs1 nn (put1 D2 (gi+1 - gk) (D2 ((gi+1 - gk) - 1))) else rowW cs1 nn D2)] []) hS (g_indexSl (i:=(gi+1 - gk) - 1) ty_sl_49 hF rfl rfl rfl (by omega)),fun a w2 b hF hS hb hd=>by have hF:=hF.ext1 41 (hd 8 rfl rfl rfl);obtain rfl:=hb rfl;have hM:MemX [b1] w w2 [some (b1,rowW cs1 nn D2)] []:=hS;exact parS_val (S:=fun (b:Bool) w2=>MemX [b1] w w2 [some (b1,if b then rowW cs1 nn (put1 D2 (gi+1 - gk) (D2 ((gi+1 - gk) - 1))) else rowW cs1 nn D2)] []) (b:=false) hS (g_load ty_on_2 hF rfl (hM.row 0 rfl) (rowW_get hsz1 ((gi+1 - gk) - 1) (by omega) (by omega))),fun a w2 b hF hS hb hd=>by exact parS_val (S:=fun (b:Bool) w2=>MemX [b1] w w2 [some (b1,if b then rowW cs1 nn (put1 D2 (gi+1 - gk) (D2 ((gi+1 - gk) - 1))) else rowW cs1 nn D2)] []) hS (g_move hF rfl),fun a w2 b hF hS hb hd=>by exact parS_val (S:=fun (b:Bool) w2=>MemX [b1] w w2 [some (b1,if b then rowW cs1 nn (put1 D2 (gi+1 - gk) (D2 ((gi+1 - gk) - 1))) else rowW cs1 nn D2)] []) hS (g_move hF rfl),fun a w2 b hF hS hb hd=>by have hF:=hF.ext1 43 (hd 10 rfl rfl rfl);have hF:=hF.ext1 44 (hd 11 rfl rfl rfl);exact parS_val (S:=fun (b:Bool) w2=>MemX [b1] w w2 [some (b1,if b then rowW cs1 nn (put1 D2 (gi+1 - gk) (D2 ((gi+1 - gk) - 1))) else rowW cs1 nn D2)] []) hS (g_indexSl (i:=(gi+1 - gk)) ty_sl_49 hF rfl rfl rfl (by omega)),fun a w2 b hF hS hb hd=>by have hF:=hF.ext1 45 (hd 12 rfl rfl rfl);obtain rfl:=hb rfl;have hM:MemX [b1] w w2 [some (b1,rowW cs1 nn D2)] []:=hS;exact parS_val (S:=fun (b:Bool) w2=>MemX [b1] w w2 [some (b1,if b then rowW cs1 nn (put1 D2 (gi+1 - gk) (D2 ((gi+1 - gk) - 1))) else rowW cs1 nn D2)] []) (b:=false) hS (g_load ty_on_2 hF rfl (hM.row 0 rfl) (rowW_get hsz1 ((gi+1 - gk)) (by omega) (by omega))),fun a w2 b hF hS hb hd=>by have hF:=hF.ext1 33 (hd 0 rfl rfl rfl);have hF:=hF.ext1 34 (hd 1 rfl rfl rfl);exact parS_val (S:=fun (b:Bool) w2=>MemX [b1] w w2 [some (b1,if b then rowW cs1 nn (put1 D2 (gi+1 - gk) (D2 ((gi+1 - gk) - 1))) else rowW cs1 nn D2)] []) hS (g_indexSl (i:=(gi+1 - gk)) ty_sl_49 hF rfl rfl rfl (by omega)),fun a w2 hF hS hd=>by have hF:=hF.ext1 42 (hd 9 rfl rfl rfl);have hF:=hF.ext1 47 (hd 14 rfl rfl rfl);have hM:MemX [b1] w w2 [some (b1,rowW cs1 nn D2)] []:=hS;exact d_storeQ 0 hM rfl ty_on_2 hF rfl rfl rfl (by simp only [sz0,grpC_size,numI_size,rowW_size]<;>omega) (rowW_put hsz1 (gi+1 - gk) (by omega) (by omega)),trivial⟩ ?_
        intro a w' hF hS hq;have hM:MemX [b1] w w' [some (b1,rowW cs1 nn (put1 D2 (gi+1 - gk) (D2 ((gi+1 - gk) - 1))))] []:=hS;have hF:=hF.ext1 35 (show _=(.slice (some ⟨b1,0,none⟩) nn c1:Value) from hq 2 rfl rfl rfl);have hF:=hF.ext1 37 (show _=(.int .i64 ((((gi+1 - gk) - 1:Nat):Int)):Value) from hq 4 rfl rfl rfl);have hF:=hF.ext1 46 (show _=(.int .i64 ((D2 ((gi+1 - gk)):Int)):Value) from hq 13 rfl rfl rfl);change wpList Tryz.prog _ _ [_,_] _ _;refine st hF (g_indexSl (i:=(gi+1 - gk) - 1) ty_sl_49 hF rfl rfl rfl (by omega)) rfl fun a hF=>stN hF (d_store 0 hM rfl ty_on_2 hF rfl rfl rfl (by first | omega | (simp only [sz0,grpC_size,numI_size,rowW_size]<;>omega) | (simp only [Array.size_setIfInBounds];omega) | simp)) ?_;intro _ w' a hM hF;rw [show (rowW cs1 nn (put1 D2 (gi+1 - gk) (D2 ((gi+1 - gk) - 1)))).setIfInBounds (0+((gi+1 - gk) - 1)*1) (.int .i64 ((D2 ((gi+1 - gk)):Int)))=rowW cs1 nn (put1 (put1 D2 (gi+1 - gk) (D2 ((gi+1 - gk) - 1))) ((gi+1 - gk) - 1) (D2 ((gi+1 - gk)))) from rowW_put hsz1 ((gi+1 - gk) - 1) (by omega) (by omega)] at hM;change MemX [b1] w w' [some (b1,rowW cs1 nn (put1 (put1 D2 (gi+1 - gk) (D2 ((gi+1 - gk) - 1))) ((gi+1 - gk) - 1) (D2 ((gi+1 - gk)))))] [] at hM;refine wpList_nil<|iN<|tN<|wp_region_lit<|mv hF rfl rfl fun a hF=>st hF (g_sub hF rfl rfl (show _=(((gi+1 - gk) - 1:Nat):Int) from (by rw [wrap_i64]<;>omega))) rfl fun a hF=>ag hF rfl rfl fun a hF=>nt<|⟨gk+1,⟨by omega,(put1 (put1 D2 (gi+1 - gk) (D2 ((gi+1 - gk) - 1))) ((gi+1 - gk) - 1) (D2 ((gi+1 - gk)))),⟨AscBut.step (j:=gi+1 - gk) hinv2.1 (by omega) (by omega) (by omega),SameSet.swap hinv2.2 (i:=gi+1 - gk - 1) (j:=gi+1 - gk) (by omega) (by omega)⟩,hF.sub _ (by repeat' constructor),?_⟩,by omega⟩;exact hM
      refine wp_exit<|tX<|tX<|ib_same<|iN<|tN<|wp_region_lit<|mv hF rfl rfl fun a hF=>st hF (g_add hF rfl rfl (add_nat (gi+1) (1) (by omega))) rfl fun a hF=>ag hF rfl rfl fun a hF=>nt<|⟨gi+1,⟨by omega,D2,⟨AscBut.done hinv2.1 (by first | exact .inl (by omega) | exact .inr (by omega)),hinv2.2⟩,hF.sub _ (by repeat' constructor),?_⟩,by omega⟩;exact hM
    refine c_parQ 13 [] [.val (.int .i64 ((((gi+1 - gk):Nat):Int))),.val (.int .i64 (0)),.val (.bool (false)),.val (.bool (false)),.val undef,.val undef,.val undef,.val undef,.val undef,.val undef,.val undef,.val undef,.val undef] hmix rfl hF rfl hM ⟨fun a w gG hF hS hd=>q_none rfl (by exact pmv hS rfl hF rfl),fun a w gG hF hS hd=>q_none rfl (by exact pmv hS rfl hF rfl),fun a w gG hF hS hd=>q_none rfl (by have hF:=hF.ext1 16 (hd 0 rfl rfl);have hF:=hF.ext1 17 (hd 1 rfl rfl);exact par_val hS rfl (gives_eq (g_gtr hF rfl rfl) (congrArg Value.bool (decide_eq_false (by omega))))),fun a w gG hF hS hd=>q_none rfl (by have hF:=hF.ext1 18 (hd 2 rfl rfl);exact pmv hS rfl hF rfl),fun a w gG hF hS hd=>q_no rfl (hF.ext1 19 (hd 3 rfl rfl)) rfl rfl rfl rfl ⟨gG,hS,fact_get rfl rfl,fun _ _ _ h=>h⟩,fun a w gG hF hS hd=>q_no rfl (hF.ext1 19 (hd 3 rfl rfl)) rfl rfl rfl rfl ⟨gG,hS,fact_get rfl rfl,fun _ _ _ h=>h⟩,fun a w gG hF hS hd=>q_no rfl (hF.ext1 19 (hd 3 rfl rfl)) rfl rfl rfl rfl ⟨gG,hS,fact_get rfl rfl,fun _ _ _ h=>h⟩,fun a w gG hF hS hd=>q_no rfl (hF.ext1 19 (hd 3 rfl rfl)) rfl rfl rfl rfl ⟨gG,hS,fact_get rfl rfl,fun _ _ _ h=>h⟩,fun a w gG hF hS hd=>q_no rfl (hF.ext1 19 (hd 3 rfl rfl)) rfl rfl rfl rfl ⟨gG,hS,fact_get rfl rfl,fun _ _ _ h=>h⟩,fun a w gG hF hS hd=>q_no rfl (hF.ext1 19 (hd 3 rfl rfl)) rfl rfl rfl rfl ⟨gG,hS,fact_get rfl rfl,fun _ _ _ h=>h⟩,fun a w gG hF hS hd=>q_no rfl (hF.ext1 19 (hd 3 rfl rfl)) rfl rfl rfl rfl ⟨gG,hS,fact_get rfl rfl,fun _ _ _ h=>h⟩,fun a w gG hF hS hd=>q_no rfl (hF.ext1 19 (hd 3 rfl rfl)) rfl rfl rfl rfl ⟨gG,hS,fact_get rfl rfl,fun _ _ _ h=>h⟩,fun a w gG hF hS hd=>q_no rfl (hF.ext1 19 (hd 3 rfl rfl)) rfl rfl rfl rfl ⟨gG,hS,fact_get rfl rfl,fun _ _ _ h=>h⟩,trivial⟩ ?_;intro a w' L hF hS hq;have hM:=hS.mem rfl;have hF:=hF.ext1 16 (hq 0 rfl rfl);have hF:=hF.ext1 17 (hq 1 rfl rfl);have hF:=hF.ext1 18 (hq 2 rfl rfl);have hF:=hF.ext1 19 (hq 3 rfl rfl);have hF:=hF.ext1 20 (hq 4 rfl rfl);have hF:=hF.ext1 21 (hq 5 rfl rfl);have hF:=hF.ext1 22 (hq 6 rfl rfl);have hF:=hF.ext1 23 (hq 7 rfl rfl);have hF:=hF.ext1 24 (hq 8 rfl rfl);have hF:=hF.ext1 25 (hq 9 rfl rfl);have hF:=hF.ext1 26 (hq 10 rfl rfl);have hF:=hF.ext1 27 (hq 11 rfl rfl);have hF:=hF.ext1 28 (hq 12 rfl rfl);change MemX [b1] w w' [some (b1,rowW cs1 nn D2)] [] at hM;change wpList Tryz.prog _ _ [_,_] _ _;refine stS hF rfl rfl rfl rfl rfl fun a hF=>st hF (g_pickF hF rfl rfl) rfl fun a hF=>nt<|c_Fl hF rfl<|wp_exit<|tX<|tX<|ib_same<|iN<|tN<|wp_region_lit<|mv hF rfl rfl fun a hF=>st hF (g_add hF rfl rfl (add_nat (gi+1) (1) (by omega))) rfl fun a hF=>ag hF rfl rfl fun a hF=>nt<|⟨gi+1,⟨by omega,D2,⟨AscBut.done hinv2.1 (by first | exact .inl (by omega) | exact .inr (by omega)),hinv2.2⟩,hF.sub _ (by repeat' constructor),?_⟩,by omega⟩;exact hM
  obtain rfl:(nn - 1)=gi:=by omega
  refine wp_exit<|tX<|tX<|ib_same<|fin0n rfl hF.defers ⟨_,rfl,hM.bel,?_⟩;exact ⟨rfl,D1,hM.row 0 rfl,by have h9:=hinv1.1;rwa [show nn - 1+1=nn by omega] at h9,hinv1.2⟩
theorem wrap_u64 {x:Int}(h1:0≤x)(h2:x<18446744073709551616):IntKind.u64.wrap x=x:=by
  unfold IntKind.wrap IntKind.bits IntKind.signed
  simp
  omega
theorem bitsLen_ok (n:Nat)(w:World)(h:n≤1000):CallsR Tryz.prog 86 #[.int .u64 (n:Int)] w (fun v _=>∃ l:Int,v = .int .i64 l):=
  (Tryz.bits_Len (n:Int) w (by omega) (by omega)).mono fun e w' ⟨he,hw⟩=>⟨_,he,hw ▸ Ext.refl _,_,rfl⟩
theorem pdqsort_ok (b1 c1 nn:Nat)(cs1:Array Value)(ls:Nat→Nat)(lim:Int)(w:World)(hnn:0<nn)(hnn2:nn≤12)(hsz1:nn≤cs1.size)(hb:Blk w b1 (rowW cs1 nn ls)) :
    CallsX Tryz.prog [b1] 85 #[.slice (some ⟨b1,0,none⟩) nn c1,.int .i64 (0),.int .i64 (nn:Int),.int .i64 (lim)] w (fun v w'=>v = .tuple #[]∧∃ D,Blk w' b1 (rowW cs1 nn D)∧Asc nn D∧SameSet nn D ls):=by
  refine calls_frX [.slice (some ⟨b1,0,none⟩) nn c1,.int .i64 (0),.int .i64 (nn:Int),.int .i64 (lim)] Tryz.func85 rfl Tryz.ntmps85 rfl fun a hF=>?_;have hM:MemX [b1] w w [some (b1,rowW cs1 nn ls)] []:=MemX.startX1 0 hb;change Fr 134 a [(0,.slice (some ⟨b1,0,none⟩) nn c1),(1,.int .i64 (0)),(2,.int .i64 (nn:Int)),(3,.int .i64 (lim))] at hF;refine sr<|ag hF rfl rfl fun a hF=>ns<|ag hF rfl rfl fun a hF=>nt<|wp_block<|wp_loop_rounds 1<|rnd<|wp_block<|sr<|mv hF rfl rfl fun a hF=>mv hF rfl rfl fun a hF=>st hF (g_sub hF rfl rfl (show _=(nn:Int) from (by rw [wrap_i64]<;>omega))) rfl fun a hF=>ag hF rfl rfl fun a hF=>nt<|sq<|sr<|mv hF rfl rfl fun a hF=>st hF (g_leq hF rfl rfl) rfl fun a hF=>nt<|c_cond hF rfl (fun h1=>?_) (fun h1=>?_)
  · refine sq ?_
    refine wp_region_lit<|mv hF rfl rfl fun a hF=>mv hF rfl rfl fun a hF=>mv hF rfl rfl fun a hF=>stR hF (d_callX Tryz.call88 hF (.cons rfl (.cons rfl (.cons rfl .nil))) (insertionSort_ok b1 c1 nn cs1 ls _ hnn hnn2 hsz1 (hM.row 0 rfl))) rfl ?_;rintro _ w' a ⟨hx,rfl,D4,hbk,hA4,hS4⟩ hF;have hM:=hM.upd (cs':=rowW cs1 nn D4) 0 rfl hx hbk;change MemX [b1] w w' [some (b1,rowW cs1 nn D4)] [] at hM;refine nt<|wp_ret<|tR<|iR<|tR<|iR<|fin0 rfl hF.defers ⟨_,rfl,hM.bel,?_⟩;exact ⟨rfl,D4,hM.row 0 rfl,hA4,hS4⟩
  exfalso;omega
theorem sort_ok (b1 c1 nn:Nat)(cs1:Array Value)(ls:Nat→Nat)(w:World)(hnn:0<nn)(hnn2:nn≤12)(hsz1:nn≤cs1.size)(hb:Blk w b1 (rowW cs1 nn ls)) :
    CallsX Tryz.prog [b1] 74 #[.slice (some ⟨b1,0,none⟩) nn c1] w (fun v w'=>v = .tuple #[]∧∃ D,Blk w' b1 (rowW cs1 nn D)∧Asc nn D∧SameSet nn D ls):=by
  refine calls_frX [.slice (some ⟨b1,0,none⟩) nn c1] Tryz.func74 rfl Tryz.ntmps74 rfl fun a hF=>?_;have hM:MemX [b1] w w [some (b1,rowW cs1 nn ls)] []:=MemX.startX1 0 hb;change Fr 11 a [(0,.slice (some ⟨b1,0,none⟩) nn c1)] at hF;refine sr<|mv hF rfl rfl fun a hF=>st hF (g_len ty_us_49 hF rfl) rfl fun a hF=>ag hF rfl rfl fun a hF=>nt<|wp_region_lit<|mv hF rfl rfl fun a hF=>mv hF rfl rfl fun a hF=>mv hF rfl rfl fun a hF=>st hF (g_conv ty_un_87 ty_ud_3 hF rfl (wrap_u64 (by omega) (by omega))) rfl fun a hF=>stR hF (d_call Tryz.call86 hF (.cons rfl .nil) (bitsLen_ok (nn) _ (by omega))) rfl ?_;rintro _ w' a ⟨hx,lim,rfl⟩ hF;have hM:=hM.ext hx;refine stR hF (d_callX Tryz.call85 hF (.cons rfl (.cons rfl (.cons rfl (.cons rfl .nil)))) (pdqsort_ok b1 c1 nn cs1 ls lim _ hnn hnn2 hsz1 (hM.row 0 rfl))) rfl ?_;rintro _ w' a ⟨hx,rfl,D4,hbk,hA4,hS4⟩ hF;have hM:=hM.upd (cs':=rowW cs1 nn D4) 0 rfl hx hbk;change MemX [b1] w w' [some (b1,rowW cs1 nn D4)] [] at hM;refine wpList_nil<|fin0n rfl hF.defers ⟨_,rfl,hM.bel,?_⟩;exact ⟨rfl,D4,hM.row 0 rfl,hA4,hS4⟩
end Go.Proofs.YtdeinnaeicmlfaaGreat
