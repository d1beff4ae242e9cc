import Derived.Test.YtgioobkkkicfeaaJ6
import Derived.Shelf.Small.Bits
import Derived.Shelf.Strconv.Itoa0
import Derived.Ground.SlgnProg
import Derived.Shelf.SlicesG.CompactI
import Derived.Shelf.SlicesG.SearchI
import Derived.Shelf.SlicesG.Cells
import Derived.Test.YtgioobkkkicfeaaProg
import Derived.Test.YtgioobkkkicfeaaSw39
set_option linter.unusedVariables false
set_option linter.unusedSimpArgs false
namespace Go.Proofs.Ytgioobkkkicfeaa
open Go Go.RowKit Go.Sw Go.Ech
open Classical
theorem QZ (p n:Nat)(M:Nat->Nat->Nat)(sl:Value)(m:Nat)(Ln:Nat->Nat)(R:Nat->Nat->Int)(xs:Nat->Option Addr)(ca be ob:Nat->Nat)(w:World)(hn0:0<n)(hn:n<=6)(hB:∀ i j,M i j<=255)(hG:TabP n M)(hP:Ae (p:Int))(hJ:ArgSS w sl m Ln R xs ca be ob)(hS:E3 (p:Int) n m Ln R):CallsR Try.prog 26 #[.int .i64 (p:Int),.agg (AB (n:Int) M),sl] w (fun res _=>res = .bool (decide (Cs p n M (CR R)))):=by
  have hp2:=At hP;obtain ⟨b,o,c,rfl,hT⟩:=ArgSS.shape hJ hn0 (by omega) hS;exact Js p n M b o c ca be ob (CR R) w hn0 hn hB hG (by omega) hT
theorem PC (p n:Nat)(M:Nat->Nat->Nat)(sl:Value)(m:Nat)(Ln:Nat->Nat)(R:Nat->Nat->Int)(xs:Nat->Option Addr)(ca be ob:Nat->Nat)(w:World)(hn0:0<n)(hn:n<=6)(hB:∀ i j,M i j<=255)(hG:TabP n M)(hP:Ae (p:Int))(hJ:ArgSS w sl m Ln R xs ca be ob)(hS:E3 (p:Int) n m Ln R):CallsR Try.prog 28 #[.int .i64 (p:Int),.agg (AB (n:Int) M),sl] w (fun res _=>res = .bool (decide (Cs p n M (CR R)))):=by
  have hp2:=At hP;obtain ⟨b,o,c,rfl,hT⟩:=ArgSS.shape hJ hn0 (by omega) hS;exact Ii p n M b o c ca be ob (CR R) w hn0 hn hB hG (by omega) hT
theorem Gd (p:Int)(n:Int)(M:Nat->Nat->Nat)(sl:Value)(w:World)(hB:∀ i j,M i j<=255)(hc:¬ GrpP n M) :
    CallsR Try.prog 8 #[.int .i64 (p),.agg (AB n M),sl] w (fun res _=>res = .tuple #[.bool false,.int .i64 1]):=by
  refine AQ [.int .i64 (p),.agg (AB n M),sl] Try.func8 rfl Try.ntmps8 rfl fun a O=>?_;have J:AR w w [none] []:=MemX.start w 1;change Fr 40 a [(0,.int .i64 (p)),(1,.agg (AB n M)),(2,sl)] at O;refine sr<|Aj O (Aw 0 J O rfl) rfl ?_;rintro _ w' a ⟨b1,rfl,J,-⟩ O;change AR _ _ [some (b1,AB n M)] [] at J;refine ag O rfl rfl fun a O=>ag O rfl rfl fun a O=>ns<|mv O rfl rfl fun a O=>st O (AF AK O rfl (J.row 0 rfl) (by simp only [AT,AA]<;>omega) (whole (by simp only [AT,AA]))) rfl fun a O=>Aj O (AO Try.call24 O (.cons rfl (.cons rfl .nil)) (GK (p) n M _ hB hc)) rfl ?_;rintro _ w' a ⟨hx,rfl⟩ O;have J:=J.ext hx;refine ag O rfl rfl fun a O=>nt<|sq<|sr<|mv O rfl rfl fun a O=>st O (A0 O rfl rfl) rfl fun a O=>nt<|Cm O rfl (by decide)<|sr<|mv O rfl rfl fun a O=>ag O rfl rfl fun a O=>ag O rfl rfl fun a O=>nt<|wp_ret<|tR<|By rfl O.defers (AE O rfl) (AE O rfl) ⟨_,rfl,J.below,?_⟩
  show _=_
  rfl
theorem Gc (p:Int)(n:Nat)(M:Nat->Nat->Nat)(sl:Value)(w:World)(hn0:0<n)(hn:n<=6)(hB:∀ i j,M i j<=255)(hG:TabP n M)(hP:¬ Ae p) :
    CallsR Try.prog 8 #[.int .i64 (p),.agg (AB (n:Int) M),sl] w (fun res _=>res = .tuple #[.bool false,.int .i64 2]):=by
  refine AQ [.int .i64 (p),.agg (AB (n:Int) M),sl] Try.func8 rfl Try.ntmps8 rfl fun a O=>?_;have J:AR w w [none] []:=MemX.start w 1;change Fr 40 a [(0,.int .i64 (p)),(1,.agg (AB (n:Int) M)),(2,sl)] at O;refine sr<|Aj O (Aw 0 J O rfl) rfl ?_;rintro _ w' a ⟨b1,rfl,J,-⟩ O;change AR _ _ [some (b1,AB (n:Int) M)] [] at J;refine ag O rfl rfl fun a O=>ag O rfl rfl fun a O=>ns<|mv O rfl rfl fun a O=>st O (AF AK O rfl (J.row 0 rfl) (by simp only [AT,AA]<;>omega) (whole (by simp only [AT,AA]))) rfl fun a O=>Aj O (AO Try.call24 O (.cons rfl (.cons rfl .nil)) (GJ (p) n M _ hn0 hn hB hG hP)) rfl ?_;rintro _ w' a ⟨hx,rfl⟩ O;have J:=J.ext hx;refine ag O rfl rfl fun a O=>nt<|sq<|sr<|mv O rfl rfl fun a O=>st O (A0 O rfl rfl) rfl fun a O=>nt<|Cm O rfl (by decide)<|sr<|mv O rfl rfl fun a O=>ag O rfl rfl fun a O=>ag O rfl rfl fun a O=>nt<|wp_ret<|tR<|By rfl O.defers (AE O rfl) (AE O rfl) ⟨_,rfl,J.below,?_⟩
  show _=_
  rfl
theorem MQ {p n l:Nat}{f:Nat->Int}(h:Ib (n:Int) 0 ((p:Int) - 1) l f):l=n/\∀ j,j<n->0<=f j/\f j<=(p:Int) - 1:=by
  have h1:=h.1;obtain rfl:l=n:=by omega
  exact ⟨rfl,fun j hj=>h.2 j hj⟩
theorem MR {p n l:Nat}{f:Nat->Int}(h:l=n/\∀ j,j<n->0<=f j/\f j<=(p:Int) - 1):Ib (n:Int) 0 ((p:Int) - 1) l f:=by
  obtain ⟨rfl,h⟩:=h;exact ⟨rfl,h⟩
theorem Iu (p n:Nat)(M:Nat->Nat->Nat)(b o c:Nat)(Ln:Nat->Nat)(R:Nat->Nat->Int)(xs:Nat->Option Addr)(ca be ob:Nat->Nat)(w:World)(hn0:0<n)(hn:n<=6)(hB:∀ i j,M i j<=255)(hG:TabP n M)(hP:Ae (p:Int))(hS:¬ E3 (p:Int) n n Ln R)(hJ:ArgSS w (.slice (some ⟨b,o,none⟩) n c) n Ln R xs ca be ob)(hO:∀ i,i<n->w.cell? ⟨b,o+i*1,none⟩=some (.slice (xs i) (Ln i) (ca i)))(hl:∀ i,i<n->Ln i<10000000) :
    CallsR Try.prog 8 #[.int .i64 (p:Int),.agg (AB (n:Int) M),.slice (some ⟨b,o,none⟩) n c] w (fun res _=>res = .tuple #[.bool false,.int .i64 2]):=by
  refine AQ [.int .i64 (p:Int),.agg (AB (n:Int) M),.slice (some ⟨b,o,none⟩) n c] Try.func8 rfl Try.ntmps8 rfl fun a O=>?_;have J:AR w w [none] []:=MemX.start w 1;change Fr 40 a [(0,.int .i64 (p:Int)),(1,.agg (AB (n:Int) M)),(2,.slice (some ⟨b,o,none⟩) n c)] at O;have hp2:=At hP;refine sr<|Aj O (Aw 0 J O rfl) rfl ?_;rintro _ w' a ⟨b1,rfl,J,-⟩ O;change AR _ _ [some (b1,AB (n:Int) M)] [] at J;refine ag O rfl rfl fun a O=>ag O rfl rfl fun a O=>ns<|mv O rfl rfl fun a O=>st O (AF AK O rfl (J.row 0 rfl) (by simp only [AT,AA]<;>omega) (whole (by simp only [AT,AA]))) rfl fun a O=>Aj O (AO Try.call24 O (.cons rfl (.cons rfl .nil)) (DU (p:Int) n M _ hn0 hn hB hG hP)) rfl ?_;rintro _ w' a ⟨hx,rfl⟩ O;have J:=J.ext hx;refine ag O rfl rfl fun a O=>nt<|sq<|sr<|mv O rfl rfl fun a O=>st O (A0 O rfl rfl) rfl fun a O=>nt<|Ez O rfl (by decide)<|wp_skip<|tN<|sq<|sr<|mv O rfl rfl fun a O=>st O (BY BS O rfl) rfl fun a O=>st O (AC AV O rfl) rfl fun a O=>st O (AM AL O rfl (J.row 0 rfl) (Au (by omega))) rfl fun a O=>st O (A0 O rfl rfl) rfl fun a O=>nt<|AI O rfl (fun h3=>?_) (fun h3=>?_)
  . refine sq ?_
    refine wp_region_lit<|ag O rfl rfl fun a O=>ag O rfl rfl fun a O=>nt<|wp_ret<|tR<|By rfl O.defers (AE O rfl) (AE O rfl) ⟨_,rfl,J.below,?_⟩
    show _=_
    first | rfl | exact absurd ⟨rfl,hH⟩ hS
  refine wp_skip<|tN<|sq<|sr<|mv O rfl rfl fun a O=>st O (BY BS O rfl) rfl fun a O=>mv O rfl rfl fun a O=>nt<|wp_block ?_;change AR w _ [some (b1,AB (n:Int) M)] [] at J;refine Ag (fun (kk:Nat) a w'=>kk<=n/\(∀ i,i<kk->Ln i=n/\∀ j,j<n->0<=R i j/\R i j<=(p:Int) - 1)/\Fr 40 a [(0,.int .i64 (p:Int)),(2,.slice (some ⟨b,o,none⟩) n c),(4,ptr b1 (0)),(15,.bool (decide ((0:Int)≠0))),(21,.bool (decide (((n:Int):Int)≠(n:Int)))),(22,.slice (some ⟨b,o,none⟩) n c),(23,.int .i64 (n:Int)),(24,.int .i64 (kk:Int))]/\AR w w' [some (b1,AB (n:Int) M)] []) (fun kk=>n - kk) 0 ?_ ?_
  . refine ⟨by omega,fun i hq=>absurd hq (by omega),O.sub _ (by repeat' constructor),?_⟩
    exact J
  clear O J;rintro gi a w' ⟨hgi,hH,O,J⟩;refine sr<|st O (Ak O rfl rfl) rfl fun a O=>nt<|sq<|AI O rfl (fun h4=>?_) (fun h4=>?_)
  . refine wp_skip ?_
    refine tN<|sq<|wp_block<|sr<|st O (AJ (i:=gi) BA O rfl rfl rfl (by omega)) rfl fun a O=>st O (A5 BC O rfl (Bm (hO (gi) (by omega)) J.below)) rfl fun a O=>ag O rfl rfl fun a O=>ns<|mv O rfl rfl fun a O=>st O (AC AV O rfl) rfl fun a O=>st O (AM AL O rfl (J.row 0 rfl) (Au (by omega))) rfl fun a O=>mv O rfl rfl fun a O=>st O (CY O rfl rfl (wrap_i64 (by omega) (by omega))) rfl fun a O=>Aj O (AO Try.call25 O (.cons rfl (.cons rfl (.cons rfl (.cons rfl .nil)))) (Di _ (Ln (gi)) (R (gi)) (n:Int) (0) ((p:Int) - 1) _ ((hJ.row (i:=gi) (by omega)).ext J.below) (hl (gi) (by omega)))) rfl ?_;rintro _ w' a ⟨hx,rfl⟩ O;have J:=J.ext hx;refine st O (CP O rfl) rfl fun a O=>nt<|AI O rfl (fun h5=>?_) (fun h5=>?_)
    . refine sq ?_
      refine wp_region_lit<|ag O rfl rfl fun a O=>ag O rfl rfl fun a O=>nt<|wp_ret<|iR<|tR<|tR<|iR<|tR<|By rfl O.defers (AE O rfl) (AE O rfl) ⟨_,rfl,J.below,?_⟩
      show _=_
      first | rfl | exact absurd ⟨rfl,hH⟩ hS
    refine wp_skip<|iN<|tN<|wp_region_lit<|st O (Ac O rfl rfl (AN (gi) (1) (by omega))) rfl fun a O=>mv O rfl rfl fun a O=>nt<|⟨gi+1,⟨by omega,CO hH (MQ (by first | assumption | exact Decidable.not_not.1 (by assumption))),O.sub _ (by repeat' constructor),?_⟩,by omega⟩;exact J
  obtain rfl:n=gi:=by omega
  refine wp_exit<|tX<|tX<|AW<|tN<|sr<|mv O rfl rfl fun a O=>st O (AF AK O rfl (J.row 0 rfl) (by simp only [AT,AA]<;>omega) (whole (by simp only [AT,AA]))) rfl fun a O=>mv O rfl rfl fun a O=>Aj O (AO Try.call26 O (.cons rfl (.cons rfl (.cons rfl .nil))) (QZ p n M (.slice (some ⟨b,o,none⟩) n c) n Ln R xs ca be ob _ hn0 hn hB hG hP (hJ.ext J.below) ⟨rfl,hH⟩)) rfl ?_;rintro _ w' a ⟨hx,rfl⟩ O;have J:=J.ext hx;refine ag O rfl rfl fun a O=>ag O rfl rfl fun a O=>nt<|wp_ret<|By rfl O.defers (AE O rfl) (AE O rfl) ⟨_,rfl,J.below,?_⟩
  show _=_
  first | rfl | exact absurd ⟨rfl,hH⟩ hS
theorem It (p n:Nat)(M:Nat->Nat->Nat)(b o c:Nat)(Ln:Nat->Nat)(R:Nat->Nat->Int)(xs:Nat->Option Addr)(ca be ob:Nat->Nat)(w:World)(hn0:0<n)(hn:n<=6)(hB:∀ i j,M i j<=255)(hG:TabP n M)(hP:Ae (p:Int))(hS:E3 (p:Int) n n Ln R)(hJ:ArgSS w (.slice (some ⟨b,o,none⟩) n c) n Ln R xs ca be ob)(hO:∀ i,i<n->w.cell? ⟨b,o+i*1,none⟩=some (.slice (xs i) (Ln i) (ca i)))(hl:∀ i,i<n->Ln i<10000000) :
    CallsR Try.prog 8 #[.int .i64 (p:Int),.agg (AB (n:Int) M),.slice (some ⟨b,o,none⟩) n c] w (fun res _=>res = .tuple #[.bool (decide (Cs p n M (CR R))),.int .i64 0]):=by
  refine AQ [.int .i64 (p:Int),.agg (AB (n:Int) M),.slice (some ⟨b,o,none⟩) n c] Try.func8 rfl Try.ntmps8 rfl fun a O=>?_;have J:AR w w [none] []:=MemX.start w 1;change Fr 40 a [(0,.int .i64 (p:Int)),(1,.agg (AB (n:Int) M)),(2,.slice (some ⟨b,o,none⟩) n c)] at O;have hp2:=At hP;refine sr<|Aj O (Aw 0 J O rfl) rfl ?_;rintro _ w' a ⟨b1,rfl,J,-⟩ O;change AR _ _ [some (b1,AB (n:Int) M)] [] at J;refine ag O rfl rfl fun a O=>ag O rfl rfl fun a O=>ns<|mv O rfl rfl fun a O=>st O (AF AK O rfl (J.row 0 rfl) (by simp only [AT,AA]<;>omega) (whole (by simp only [AT,AA]))) rfl fun a O=>Aj O (AO Try.call24 O (.cons rfl (.cons rfl .nil)) (DU (p:Int) n M _ hn0 hn hB hG hP)) rfl ?_;rintro _ w' a ⟨hx,rfl⟩ O;have J:=J.ext hx;refine ag O rfl rfl fun a O=>nt<|sq<|sr<|mv O rfl rfl fun a O=>st O (A0 O rfl rfl) rfl fun a O=>nt<|Ez O rfl (by decide)<|wp_skip<|tN<|sq<|sr<|mv O rfl rfl fun a O=>st O (BY BS O rfl) rfl fun a O=>st O (AC AV O rfl) rfl fun a O=>st O (AM AL O rfl (J.row 0 rfl) (Au (by omega))) rfl fun a O=>st O (A0 O rfl rfl) rfl fun a O=>nt<|AI O rfl (fun h3=>?_) (fun h3=>?_)
  . refine sq ?_
    refine wp_region_lit<|ag O rfl rfl fun a O=>ag O rfl rfl fun a O=>nt<|wp_ret<|tR<|By rfl O.defers (AE O rfl) (AE O rfl) ⟨_,rfl,J.below,?_⟩
    show _=_
    exfalso;first | omega | exact absurd (MR (hS.2 gi (by omega))) (by assumption)
  refine wp_skip<|tN<|sq<|sr<|mv O rfl rfl fun a O=>st O (BY BS O rfl) rfl fun a O=>mv O rfl rfl fun a O=>nt<|wp_block ?_;change AR w _ [some (b1,AB (n:Int) M)] [] at J;refine Ag (fun (kk:Nat) a w'=>kk<=n/\(∀ i,i<kk->Ln i=n/\∀ j,j<n->0<=R i j/\R i j<=(p:Int) - 1)/\Fr 40 a [(0,.int .i64 (p:Int)),(2,.slice (some ⟨b,o,none⟩) n c),(4,ptr b1 (0)),(15,.bool (decide ((0:Int)≠0))),(21,.bool (decide (((n:Int):Int)≠(n:Int)))),(22,.slice (some ⟨b,o,none⟩) n c),(23,.int .i64 (n:Int)),(24,.int .i64 (kk:Int))]/\AR w w' [some (b1,AB (n:Int) M)] []) (fun kk=>n - kk) 0 ?_ ?_
  . refine ⟨by omega,fun i hq=>absurd hq (by omega),O.sub _ (by repeat' constructor),?_⟩
    exact J
  clear O J;rintro gi a w' ⟨hgi,hH,O,J⟩;refine sr<|st O (Ak O rfl rfl) rfl fun a O=>nt<|sq<|AI O rfl (fun h4=>?_) (fun h4=>?_)
  . refine wp_skip ?_
    refine tN<|sq<|wp_block<|sr<|st O (AJ (i:=gi) BA O rfl rfl rfl (by omega)) rfl fun a O=>st O (A5 BC O rfl (Bm (hO (gi) (by omega)) J.below)) rfl fun a O=>ag O rfl rfl fun a O=>ns<|mv O rfl rfl fun a O=>st O (AC AV O rfl) rfl fun a O=>st O (AM AL O rfl (J.row 0 rfl) (Au (by omega))) rfl fun a O=>mv O rfl rfl fun a O=>st O (CY O rfl rfl (wrap_i64 (by omega) (by omega))) rfl fun a O=>Aj O (AO Try.call25 O (.cons rfl (.cons rfl (.cons rfl (.cons rfl .nil)))) (Di _ (Ln (gi)) (R (gi)) (n:Int) (0) ((p:Int) - 1) _ ((hJ.row (i:=gi) (by omega)).ext J.below) (hl (gi) (by omega)))) rfl ?_;rintro _ w' a ⟨hx,rfl⟩ O;have J:=J.ext hx;refine st O (CP O rfl) rfl fun a O=>nt<|AI O rfl (fun h5=>?_) (fun h5=>?_)
    . refine sq ?_
      refine wp_region_lit<|ag O rfl rfl fun a O=>ag O rfl rfl fun a O=>nt<|wp_ret<|iR<|tR<|tR<|iR<|tR<|By rfl O.defers (AE O rfl) (AE O rfl) ⟨_,rfl,J.below,?_⟩
      show _=_
      exfalso;first | omega | exact absurd (MR (hS.2 gi (by omega))) (by assumption)
    refine wp_skip<|iN<|tN<|wp_region_lit<|st O (Ac O rfl rfl (AN (gi) (1) (by omega))) rfl fun a O=>mv O rfl rfl fun a O=>nt<|⟨gi+1,⟨by omega,CO hH (MQ (by first | assumption | exact Decidable.not_not.1 (by assumption))),O.sub _ (by repeat' constructor),?_⟩,by omega⟩;exact J
  obtain rfl:n=gi:=by omega
  refine wp_exit<|tX<|tX<|AW<|tN<|sr<|mv O rfl rfl fun a O=>st O (AF AK O rfl (J.row 0 rfl) (by simp only [AT,AA]<;>omega) (whole (by simp only [AT,AA]))) rfl fun a O=>mv O rfl rfl fun a O=>Aj O (AO Try.call26 O (.cons rfl (.cons rfl (.cons rfl .nil))) (QZ p n M (.slice (some ⟨b,o,none⟩) n c) n Ln R xs ca be ob _ hn0 hn hB hG hP (hJ.ext J.below) hS)) rfl ?_;rintro _ w' a ⟨hx,rfl⟩ O;have J:=J.ext hx;refine ag O rfl rfl fun a O=>ag O rfl rfl fun a O=>nt<|wp_ret<|By rfl O.defers (AE O rfl) (AE O rfl) ⟨_,rfl,J.below,?_⟩
  show _=_
  rfl
theorem KH (p n:Nat)(M:Nat->Nat->Nat)(x:Option Addr)(m c:Nat)(w:World)(hn0:0<n)(hn:n<=6)(hB:∀ i j,M i j<=255)(hG:TabP n M)(hP:Ae (p:Int))(hm:m≠n) :
    CallsR Try.prog 8 #[.int .i64 (p:Int),.agg (AB (n:Int) M),.slice x m c] w (fun res _=>res = .tuple #[.bool false,.int .i64 2]):=by
  refine AQ [.int .i64 (p:Int),.agg (AB (n:Int) M),.slice x m c] Try.func8 rfl Try.ntmps8 rfl fun a O=>?_;have J:AR w w [none] []:=MemX.start w 1;change Fr 40 a [(0,.int .i64 (p:Int)),(1,.agg (AB (n:Int) M)),(2,.slice x m c)] at O;refine sr<|Aj O (Aw 0 J O rfl) rfl ?_;rintro _ w' a ⟨b1,rfl,J,-⟩ O;change AR _ _ [some (b1,AB (n:Int) M)] [] at J;refine ag O rfl rfl fun a O=>ag O rfl rfl fun a O=>ns<|mv O rfl rfl fun a O=>st O (AF AK O rfl (J.row 0 rfl) (by simp only [AT,AA]<;>omega) (whole (by simp only [AT,AA]))) rfl fun a O=>Aj O (AO Try.call24 O (.cons rfl (.cons rfl .nil)) (DU (p:Int) n M _ hn0 hn hB hG hP)) rfl ?_;rintro _ w' a ⟨hx,rfl⟩ O;have J:=J.ext hx;refine ag O rfl rfl fun a O=>nt<|sq<|sr<|mv O rfl rfl fun a O=>st O (A0 O rfl rfl) rfl fun a O=>nt<|Ez O rfl (by decide)<|wp_skip<|tN<|sq<|sr<|mv O rfl rfl fun a O=>st O (B7 BS O rfl) rfl fun a O=>st O (AC AV O rfl) rfl fun a O=>st O (AM AL O rfl (J.row 0 rfl) (Au (by omega))) rfl fun a O=>st O (A0 O rfl rfl) rfl fun a O=>nt<|AI O rfl (fun h3=>?_) (fun h3=>?_)
  . refine sq ?_
    refine wp_region_lit<|ag O rfl rfl fun a O=>ag O rfl rfl fun a O=>nt<|wp_ret<|tR<|By rfl O.defers (AE O rfl) (AE O rfl) ⟨_,rfl,J.below,?_⟩
    show _=_
    rfl
  exfalso;omega
theorem Gb (p n:Nat)(M:Nat->Nat->Nat)(sl:Value)(m:Nat)(Ln:Nat->Nat)(R:Nat->Nat->Int)(xs:Nat->Option Addr)(ca be ob:Nat->Nat)(w:World)(hn0:0<n)(hn:n<=6)(hB:∀ i j,M i j<=255)(hG:TabP n M)(hP:Ae (p:Int))(hS:¬ E3 (p:Int) n m Ln R)(hJ:ArgSS w sl m Ln R xs ca be ob)(hl:∀ i,i<m->Ln i<10000000):CallsR Try.prog 8 #[.int .i64 (p:Int),.agg (AB (n:Int) M),sl] w (fun res _=>res = .tuple #[.bool false,.int .i64 2]):=by
  by_cases hm:m=n
  . subst hm
    obtain ⟨b,o,c,rfl,hO⟩:=hJ.cell hn0;exact Iu p m M b o c Ln R xs ca be ob w hn0 hn hB hG hP hS hJ hO hl
  . obtain ⟨x,c,rfl⟩:=hJ.out
    exact KH p n M x m c w hn0 hn hB hG hP hm
theorem DW (p n:Nat)(M:Nat->Nat->Nat)(sl:Value)(m:Nat)(Ln:Nat->Nat)(R:Nat->Nat->Int)(xs:Nat->Option Addr)(ca be ob:Nat->Nat)(w:World)(hn0:0<n)(hn:n<=6)(hB:∀ i j,M i j<=255)(hG:TabP n M)(hP:Ae (p:Int))(hS:E3 (p:Int) n m Ln R)(hJ:ArgSS w sl m Ln R xs ca be ob)(hl:∀ i,i<m->Ln i<10000000):CallsR Try.prog 8 #[.int .i64 (p:Int),.agg (AB (n:Int) M),sl] w (fun res _=>res = .tuple #[.bool (decide (Cs p n M (CR R))),.int .i64 0]):=by
  have hm:=hS.1;subst hm;obtain ⟨b,o,c,rfl,hO⟩:=hJ.cell hn0;exact It p m M b o c Ln R xs ca be ob w hn0 hn hB hG hP hS hJ hO hl
theorem KG (p:Int)(n:Int)(M:Nat->Nat->Nat)(sl:Value)(w:World)(hB:∀ i j,M i j<=255)(hc:¬ GrpP n M) :
    CallsR Try.prog 9 #[.int .i64 (p),.agg (AB n M),sl] w (fun res _=>res = .tuple #[.bool false,.int .i64 1]):=by
  refine AQ [.int .i64 (p),.agg (AB n M),sl] Try.func9 rfl Try.ntmps9 rfl fun a O=>?_;have J:AR w w [none] []:=MemX.start w 1;change Fr 20 a [(0,.int .i64 (p)),(1,.agg (AB n M)),(2,sl)] at O;refine sr<|Aj O (Aw 0 J O rfl) rfl ?_;rintro _ w' a ⟨b1,rfl,J,-⟩ O;change AR _ _ [some (b1,AB n M)] [] at J;refine ag O rfl rfl fun a O=>ag O rfl rfl fun a O=>nt<|sq<|sr<|mv O rfl rfl fun a O=>st O (AF AK O rfl (J.row 0 rfl) (by simp only [AT,AA]<;>omega) (whole (by simp only [AT,AA]))) rfl fun a O=>mv O rfl rfl fun a O=>Aj O (AO Try.call27 O (.cons rfl (.cons rfl (.cons rfl .nil))) (IG (p) n M sl _ hB hc)) rfl ?_;rintro _ w' a ⟨hx,rfl⟩ O;have J:=J.ext hx;refine ag O rfl rfl fun a O=>ns<|mv O rfl rfl fun a O=>st O (A0 O rfl rfl) rfl fun a O=>nt<|Cm O rfl (by decide)<|sr<|mv O rfl rfl fun a O=>ag O rfl rfl fun a O=>ag O rfl rfl fun a O=>nt<|wp_ret<|tR<|By rfl O.defers (AE O rfl) (AE O rfl) ⟨_,rfl,J.below,?_⟩
  show _=_
  rfl
theorem KF (p:Int)(n:Nat)(M:Nat->Nat->Nat)(sl:Value)(w:World)(hn0:0<n)(hn:n<=6)(hB:∀ i j,M i j<=255)(hG:TabP n M)(hP:¬ Ae p) :
    CallsR Try.prog 9 #[.int .i64 (p),.agg (AB (n:Int) M),sl] w (fun res _=>res = .tuple #[.bool false,.int .i64 2]):=by
  refine AQ [.int .i64 (p),.agg (AB (n:Int) M),sl] Try.func9 rfl Try.ntmps9 rfl fun a O=>?_;have J:AR w w [none] []:=MemX.start w 1;change Fr 20 a [(0,.int .i64 (p)),(1,.agg (AB (n:Int) M)),(2,sl)] at O;refine sr<|Aj O (Aw 0 J O rfl) rfl ?_;rintro _ w' a ⟨b1,rfl,J,-⟩ O;change AR _ _ [some (b1,AB (n:Int) M)] [] at J;refine ag O rfl rfl fun a O=>ag O rfl rfl fun a O=>nt<|sq<|sr<|mv O rfl rfl fun a O=>st O (AF AK O rfl (J.row 0 rfl) (by simp only [AT,AA]<;>omega) (whole (by simp only [AT,AA]))) rfl fun a O=>mv O rfl rfl fun a O=>Aj O (AO Try.call27 O (.cons rfl (.cons rfl (.cons rfl .nil))) (IF (p) n M sl _ hn0 hn hB hG hP)) rfl ?_;rintro _ w' a ⟨hx,rfl⟩ O;have J:=J.ext hx;refine ag O rfl rfl fun a O=>ns<|mv O rfl rfl fun a O=>st O (A0 O rfl rfl) rfl fun a O=>nt<|Cm O rfl (by decide)<|sr<|mv O rfl rfl fun a O=>ag O rfl rfl fun a O=>ag O rfl rfl fun a O=>nt<|wp_ret<|tR<|By rfl O.defers (AE O rfl) (AE O rfl) ⟨_,rfl,J.below,?_⟩
  show _=_
  rfl
theorem KE (p n:Nat)(M:Nat->Nat->Nat)(sl:Value)(m:Nat)(Ln:Nat->Nat)(R:Nat->Nat->Int)(xs:Nat->Option Addr)(ca be ob:Nat->Nat)(w:World)(hn0:0<n)(hn:n<=6)(hB:∀ i j,M i j<=255)(hG:TabP n M)(hP:Ae (p:Int))(hS:¬ E3 (p:Int) n m Ln R)(hJ:ArgSS w sl m Ln R xs ca be ob)(hl:∀ i,i<m->Ln i<10000000) :
    CallsR Try.prog 9 #[.int .i64 (p:Int),.agg (AB (n:Int) M),sl] w (fun res _=>res = .tuple #[.bool false,.int .i64 2]):=by
  refine AQ [.int .i64 (p:Int),.agg (AB (n:Int) M),sl] Try.func9 rfl Try.ntmps9 rfl fun a O=>?_;have J:AR w w [none] []:=MemX.start w 1;change Fr 20 a [(0,.int .i64 (p:Int)),(1,.agg (AB (n:Int) M)),(2,sl)] at O;have hp2:=At hP;refine sr<|Aj O (Aw 0 J O rfl) rfl ?_;rintro _ w' a ⟨b1,rfl,J,-⟩ O;change AR _ _ [some (b1,AB (n:Int) M)] [] at J;refine ag O rfl rfl fun a O=>ag O rfl rfl fun a O=>nt<|sq<|sr<|mv O rfl rfl fun a O=>st O (AF AK O rfl (J.row 0 rfl) (by simp only [AT,AA]<;>omega) (whole (by simp only [AT,AA]))) rfl fun a O=>mv O rfl rfl fun a O=>Aj O (AO Try.call27 O (.cons rfl (.cons rfl (.cons rfl .nil))) ((CallsR.val (Do (p:Int) n M sl m Ln R xs ca be ob _ hn0 hn hB hG hP (hJ.ext J.below) hl) (congrArg (Value.int .i64) (if_neg hS))))) rfl ?_;rintro _ w' a ⟨hx,rfl⟩ O;have J:=J.ext hx;refine ag O rfl rfl fun a O=>ns<|mv O rfl rfl fun a O=>st O (A0 O rfl rfl) rfl fun a O=>nt<|Cm O rfl (by decide)<|sr<|mv O rfl rfl fun a O=>ag O rfl rfl fun a O=>ag O rfl rfl fun a O=>nt<|wp_ret<|tR<|By rfl O.defers (AE O rfl) (AE O rfl) ⟨_,rfl,J.below,?_⟩
  show _=_
  rfl
theorem Ga (p n:Nat)(M:Nat->Nat->Nat)(sl:Value)(m:Nat)(Ln:Nat->Nat)(R:Nat->Nat->Int)(xs:Nat->Option Addr)(ca be ob:Nat->Nat)(w:World)(hn0:0<n)(hn:n<=6)(hB:∀ i j,M i j<=255)(hG:TabP n M)(hP:Ae (p:Int))(hS:E3 (p:Int) n m Ln R)(hJ:ArgSS w sl m Ln R xs ca be ob)(hl:∀ i,i<m->Ln i<10000000) :
    CallsR Try.prog 9 #[.int .i64 (p:Int),.agg (AB (n:Int) M),sl] w (fun res _=>res = .tuple #[.bool (decide (Cs p n M (CR R))),.int .i64 0]):=by
  refine AQ [.int .i64 (p:Int),.agg (AB (n:Int) M),sl] Try.func9 rfl Try.ntmps9 rfl fun a O=>?_;have J:AR w w [none] []:=MemX.start w 1;change Fr 20 a [(0,.int .i64 (p:Int)),(1,.agg (AB (n:Int) M)),(2,sl)] at O;have hp2:=At hP;refine sr<|Aj O (Aw 0 J O rfl) rfl ?_;rintro _ w' a ⟨b1,rfl,J,-⟩ O;change AR _ _ [some (b1,AB (n:Int) M)] [] at J;refine ag O rfl rfl fun a O=>ag O rfl rfl fun a O=>nt<|sq<|sr<|mv O rfl rfl fun a O=>st O (AF AK O rfl (J.row 0 rfl) (by simp only [AT,AA]<;>omega) (whole (by simp only [AT,AA]))) rfl fun a O=>mv O rfl rfl fun a O=>Aj O (AO Try.call27 O (.cons rfl (.cons rfl (.cons rfl .nil))) ((CallsR.val (Do (p:Int) n M sl m Ln R xs ca be ob _ hn0 hn hB hG hP (hJ.ext J.below) hl) (congrArg (Value.int .i64) (if_pos hS))))) rfl ?_;rintro _ w' a ⟨hx,rfl⟩ O;have J:=J.ext hx;refine ag O rfl rfl fun a O=>ns<|mv O rfl rfl fun a O=>st O (A0 O rfl rfl) rfl fun a O=>nt<|Ez O rfl (by decide)<|wp_skip<|tN<|sr<|mv O rfl rfl fun a O=>st O (AF AK O rfl (J.row 0 rfl) (by simp only [AT,AA]<;>omega) (whole (by simp only [AT,AA]))) rfl fun a O=>mv O rfl rfl fun a O=>Aj O (AO Try.call28 O (.cons rfl (.cons rfl (.cons rfl .nil))) (PC p n M sl m Ln R xs ca be ob _ hn0 hn hB hG hP (hJ.ext J.below) hS)) rfl ?_;rintro _ w' a ⟨hx,rfl⟩ O;have J:=J.ext hx;refine ag O rfl rfl fun a O=>ag O rfl rfl fun a O=>nt<|wp_ret<|By rfl O.defers (AE O rfl) (AE O rfl) ⟨_,rfl,J.below,?_⟩
  show _=_
  rfl
theorem FR (p:Int)(n:Int)(M:Nat->Nat->Nat)(sl:Value)(w:World)(hB:∀ i j,M i j<=255)(hc:¬ GrpP n M) :
    CallsR Try.prog 20 #[.int .i64 (p),.agg (AB n M),sl] w (fun res _=>res = .int .i64 1):=by
  refine AQ [.int .i64 (p),.agg (AB n M),sl] Try.func20 rfl Try.ntmps20 rfl fun a O=>?_;have J:AR w w [none] []:=MemX.start w 1;change Fr 23 a [(0,.int .i64 (p)),(1,.agg (AB n M)),(2,sl)] at O;refine sr<|Aj O (Aw 0 J O rfl) rfl ?_;rintro _ w' a ⟨b1,rfl,J,-⟩ O;change AR _ _ [some (b1,AB n M)] [] at J;refine ag O rfl rfl fun a O=>ns<|mv O rfl rfl fun a O=>st O (AF AK O rfl (J.row 0 rfl) (by simp only [AT,AA]<;>omega) (whole (by simp only [AT,AA]))) rfl fun a O=>mv O rfl rfl fun a O=>Aj O (AO Try.call8 O (.cons rfl (.cons rfl (.cons rfl .nil))) (Gd (p) n M sl _ hB hc)) rfl ?_;rintro _ w' a ⟨hx,rfl⟩ O;have J:=J.ext hx;refine mv O rfl rfl fun a O=>st O (AZ O rfl rfl) rfl fun a O=>st O (AZ O rfl rfl) rfl fun a O=>ag O rfl rfl fun a O=>ag O rfl rfl fun a O=>nt<|sq<|sr<|mv O rfl rfl fun a O=>st O (Ao O rfl rfl) rfl fun a O=>mv O rfl rfl fun a O=>?_;rw [show decide ((1:Int)=0)=false from by decide] at O;refine A4 O rfl rfl rfl rfl rfl fun a O=>A4 O rfl rfl rfl rfl rfl fun a O=>st O (Ai O rfl rfl) rfl fun a O=>nt<|CN O rfl<|wp_skip<|tN<|sr<|mv O rfl rfl fun a O=>ag O rfl rfl fun a O=>nt<|wp_ret<|Ap rfl O.defers (AE O rfl) ⟨_,rfl,J.below,?_⟩
  show _=_
  rfl
theorem FP (p:Int)(n:Nat)(M:Nat->Nat->Nat)(sl:Value)(w:World)(hn0:0<n)(hn:n<=6)(hB:∀ i j,M i j<=255)(hG:TabP n M)(hP:¬ Ae p) :
    CallsR Try.prog 20 #[.int .i64 (p),.agg (AB (n:Int) M),sl] w (fun res _=>res = .int .i64 2):=by
  refine AQ [.int .i64 (p),.agg (AB (n:Int) M),sl] Try.func20 rfl Try.ntmps20 rfl fun a O=>?_;have J:AR w w [none] []:=MemX.start w 1;change Fr 23 a [(0,.int .i64 (p)),(1,.agg (AB (n:Int) M)),(2,sl)] at O;refine sr<|Aj O (Aw 0 J O rfl) rfl ?_;rintro _ w' a ⟨b1,rfl,J,-⟩ O;change AR _ _ [some (b1,AB (n:Int) M)] [] at J;refine ag O rfl rfl fun a O=>ns<|mv O rfl rfl fun a O=>st O (AF AK O rfl (J.row 0 rfl) (by simp only [AT,AA]<;>omega) (whole (by simp only [AT,AA]))) rfl fun a O=>mv O rfl rfl fun a O=>Aj O (AO Try.call8 O (.cons rfl (.cons rfl (.cons rfl .nil))) (Gc (p) n M sl _ hn0 hn hB hG hP)) rfl ?_;rintro _ w' a ⟨hx,rfl⟩ O;have J:=J.ext hx;refine mv O rfl rfl fun a O=>st O (AZ O rfl rfl) rfl fun a O=>st O (AZ O rfl rfl) rfl fun a O=>ag O rfl rfl fun a O=>ag O rfl rfl fun a O=>nt<|sq<|sr<|mv O rfl rfl fun a O=>st O (Ao O rfl rfl) rfl fun a O=>mv O rfl rfl fun a O=>?_;rw [show decide ((2:Int)=0)=false from by decide] at O;refine A4 O rfl rfl rfl rfl rfl fun a O=>A4 O rfl rfl rfl rfl rfl fun a O=>st O (Ai O rfl rfl) rfl fun a O=>nt<|CN O rfl<|wp_skip<|tN<|sr<|mv O rfl rfl fun a O=>ag O rfl rfl fun a O=>nt<|wp_ret<|Ap rfl O.defers (AE O rfl) ⟨_,rfl,J.below,?_⟩
  show _=_
  rfl
theorem FO (p n:Nat)(M:Nat->Nat->Nat)(sl:Value)(m:Nat)(Ln:Nat->Nat)(R:Nat->Nat->Int)(xs:Nat->Option Addr)(ca be ob:Nat->Nat)(w:World)(hn0:0<n)(hn:n<=6)(hB:∀ i j,M i j<=255)(hG:TabP n M)(hP:Ae (p:Int))(hS:¬ E3 (p:Int) n m Ln R)(hJ:ArgSS w sl m Ln R xs ca be ob)(hl:∀ i,i<m->Ln i<10000000) :
    CallsR Try.prog 20 #[.int .i64 (p:Int),.agg (AB (n:Int) M),sl] w (fun res _=>res = .int .i64 2):=by
  refine AQ [.int .i64 (p:Int),.agg (AB (n:Int) M),sl] Try.func20 rfl Try.ntmps20 rfl fun a O=>?_;have J:AR w w [none] []:=MemX.start w 1;change Fr 23 a [(0,.int .i64 (p:Int)),(1,.agg (AB (n:Int) M)),(2,sl)] at O;have hp2:=At hP;refine sr<|Aj O (Aw 0 J O rfl) rfl ?_;rintro _ w' a ⟨b1,rfl,J,-⟩ O;change AR _ _ [some (b1,AB (n:Int) M)] [] at J;refine ag O rfl rfl fun a O=>ns<|mv O rfl rfl fun a O=>st O (AF AK O rfl (J.row 0 rfl) (by simp only [AT,AA]<;>omega) (whole (by simp only [AT,AA]))) rfl fun a O=>mv O rfl rfl fun a O=>Aj O (AO Try.call8 O (.cons rfl (.cons rfl (.cons rfl .nil))) (Gb p n M sl m Ln R xs ca be ob _ hn0 hn hB hG hP hS (hJ.ext J.below) hl)) rfl ?_;rintro _ w' a ⟨hx,rfl⟩ O;have J:=J.ext hx;refine mv O rfl rfl fun a O=>st O (AZ O rfl rfl) rfl fun a O=>st O (AZ O rfl rfl) rfl fun a O=>ag O rfl rfl fun a O=>ag O rfl rfl fun a O=>nt<|sq<|sr<|mv O rfl rfl fun a O=>st O (Ao O rfl rfl) rfl fun a O=>mv O rfl rfl fun a O=>?_;rw [show decide ((2:Int)=0)=false from by decide] at O;refine A4 O rfl rfl rfl rfl rfl fun a O=>A4 O rfl rfl rfl rfl rfl fun a O=>st O (Ai O rfl rfl) rfl fun a O=>nt<|CN O rfl<|wp_skip<|tN<|sr<|mv O rfl rfl fun a O=>ag O rfl rfl fun a O=>nt<|wp_ret<|Ap rfl O.defers (AE O rfl) ⟨_,rfl,J.below,?_⟩
  show _=_
  rfl
theorem FQ (p n:Nat)(M:Nat->Nat->Nat)(sl:Value)(m:Nat)(Ln:Nat->Nat)(R:Nat->Nat->Int)(xs:Nat->Option Addr)(ca be ob:Nat->Nat)(w:World)(hn0:0<n)(hn:n<=6)(hB:∀ i j,M i j<=255)(hG:TabP n M)(hP:Ae (p:Int))(hS:E3 (p:Int) n m Ln R)(hC:¬ Cs p n M (CR R))(hJ:ArgSS w sl m Ln R xs ca be ob)(hl:∀ i,i<m->Ln i<10000000) :
    CallsR Try.prog 20 #[.int .i64 (p:Int),.agg (AB (n:Int) M),sl] w (fun res _=>res = .int .i64 2):=by
  refine AQ [.int .i64 (p:Int),.agg (AB (n:Int) M),sl] Try.func20 rfl Try.ntmps20 rfl fun a O=>?_;have J:AR w w [none] []:=MemX.start w 1;change Fr 23 a [(0,.int .i64 (p:Int)),(1,.agg (AB (n:Int) M)),(2,sl)] at O;have hp2:=At hP;refine sr<|Aj O (Aw 0 J O rfl) rfl ?_;rintro _ w' a ⟨b1,rfl,J,-⟩ O;change AR _ _ [some (b1,AB (n:Int) M)] [] at J;refine ag O rfl rfl fun a O=>ns<|mv O rfl rfl fun a O=>st O (AF AK O rfl (J.row 0 rfl) (by simp only [AT,AA]<;>omega) (whole (by simp only [AT,AA]))) rfl fun a O=>mv O rfl rfl fun a O=>Aj O (AO Try.call8 O (.cons rfl (.cons rfl (.cons rfl .nil))) ((CallsR.val (DW p n M sl m Ln R xs ca be ob _ hn0 hn hB hG hP hS (hJ.ext J.below) hl) (congrArg (fun q=>Value.tuple #[.bool q,.int .i64 0]) (decide_eq_false hC))))) rfl ?_;rintro _ w' a ⟨hx,rfl⟩ O;have J:=J.ext hx;refine mv O rfl rfl fun a O=>st O (AZ O rfl rfl) rfl fun a O=>st O (AZ O rfl rfl) rfl fun a O=>ag O rfl rfl fun a O=>ag O rfl rfl fun a O=>nt<|sq<|sr<|mv O rfl rfl fun a O=>st O (Ao O rfl rfl) rfl fun a O=>mv O rfl rfl fun a O=>?_;rw [show decide ((0:Int)=0)=true from by decide] at O;refine Ay O rfl rfl rfl (AS O rfl) rfl fun a O=>Ay O rfl rfl rfl (Co (b:=false) O rfl) rfl fun a O=>st O (Aa O rfl rfl) rfl fun a O=>nt<|Hk O rfl<|sr<|ag O rfl rfl fun a O=>nt<|wp_ret<|tR<|Ap rfl O.defers (AE O rfl) ⟨_,rfl,J.below,?_⟩
  show _=_
  rfl
theorem FN (p n:Nat)(M:Nat->Nat->Nat)(sl:Value)(m:Nat)(Ln:Nat->Nat)(R:Nat->Nat->Int)(xs:Nat->Option Addr)(ca be ob:Nat->Nat)(w:World)(hn0:0<n)(hn:n<=6)(hB:∀ i j,M i j<=255)(hG:TabP n M)(hP:Ae (p:Int))(hS:E3 (p:Int) n m Ln R)(hC:Cs p n M (CR R))(hJ:ArgSS w sl m Ln R xs ca be ob)(hl:∀ i,i<m->Ln i<10000000) :
    CallsR Try.prog 20 #[.int .i64 (p:Int),.agg (AB (n:Int) M),sl] w (fun res _=>res = .int .i64 0):=by
  refine AQ [.int .i64 (p:Int),.agg (AB (n:Int) M),sl] Try.func20 rfl Try.ntmps20 rfl fun a O=>?_;have J:AR w w [none] []:=MemX.start w 1;change Fr 23 a [(0,.int .i64 (p:Int)),(1,.agg (AB (n:Int) M)),(2,sl)] at O;have hp2:=At hP;refine sr<|Aj O (Aw 0 J O rfl) rfl ?_;rintro _ w' a ⟨b1,rfl,J,-⟩ O;change AR _ _ [some (b1,AB (n:Int) M)] [] at J;refine ag O rfl rfl fun a O=>ns<|mv O rfl rfl fun a O=>st O (AF AK O rfl (J.row 0 rfl) (by simp only [AT,AA]<;>omega) (whole (by simp only [AT,AA]))) rfl fun a O=>mv O rfl rfl fun a O=>Aj O (AO Try.call8 O (.cons rfl (.cons rfl (.cons rfl .nil))) ((CallsR.val (DW p n M sl m Ln R xs ca be ob _ hn0 hn hB hG hP hS (hJ.ext J.below) hl) (congrArg (fun q=>Value.tuple #[.bool q,.int .i64 0]) (decide_eq_true hC))))) rfl ?_;rintro _ w' a ⟨hx,rfl⟩ O;have J:=J.ext hx;refine mv O rfl rfl fun a O=>st O (AZ O rfl rfl) rfl fun a O=>st O (AZ O rfl rfl) rfl fun a O=>ag O rfl rfl fun a O=>ag O rfl rfl fun a O=>nt<|sq<|sr<|mv O rfl rfl fun a O=>st O (Ao O rfl rfl) rfl fun a O=>mv O rfl rfl fun a O=>?_;rw [show decide ((0:Int)=0)=true from by decide] at O;refine Ay O rfl rfl rfl (AS O rfl) rfl fun a O=>Ay O rfl rfl rfl (Co (b:=true) O rfl) rfl fun a O=>st O (Aa O rfl rfl) rfl fun a O=>nt<|CN O rfl<|wp_skip<|tN<|sr<|mv O rfl rfl fun a O=>ag O rfl rfl fun a O=>nt<|wp_ret<|Ap rfl O.defers (AE O rfl) ⟨_,rfl,J.below,?_⟩
  show _=_
  rfl
theorem IE (p:Int)(n:Int)(M:Nat->Nat->Nat)(sl:Value)(w:World)(hB:∀ i j,M i j<=255)(hc:¬ GrpP n M) :
    CallsR Try.prog 22 #[.int .i64 (p),.agg (AB n M),sl] w (fun res _=>res = .int .i64 1):=by
  refine AQ [.int .i64 (p),.agg (AB n M),sl] Try.func22 rfl Try.ntmps22 rfl fun a O=>?_;have J:AR w w [none] []:=MemX.start w 1;change Fr 22 a [(0,.int .i64 (p)),(1,.agg (AB n M)),(2,sl)] at O;refine sr<|Aj O (Aw 0 J O rfl) rfl ?_;rintro _ w' a ⟨b1,rfl,J,-⟩ O;change AR _ _ [some (b1,AB n M)] [] at J;refine ag O rfl rfl fun a O=>ns<|mv O rfl rfl fun a O=>st O (AF AK O rfl (J.row 0 rfl) (by simp only [AT,AA]<;>omega) (whole (by simp only [AT,AA]))) rfl fun a O=>mv O rfl rfl fun a O=>Aj O (AO Try.call27 O (.cons rfl (.cons rfl (.cons rfl .nil))) (IG (p) n M sl _ hB hc)) rfl ?_;rintro _ w' a ⟨hx,rfl⟩ O;have J:=J.ext hx;refine ag O rfl rfl fun a O=>nt<|sq<|sr<|mv O rfl rfl fun a O=>st O (Ao O rfl rfl) rfl fun a O=>mv O rfl rfl fun a O=>?_;rw [show decide ((1:Int)=0)=false from by decide] at O;refine A4 O rfl rfl rfl rfl rfl fun a O=>A4 O rfl rfl rfl rfl rfl fun a O=>A4 O rfl rfl rfl rfl rfl fun a O=>A4 O rfl rfl rfl rfl rfl fun a O=>A4 O rfl rfl rfl rfl rfl fun a O=>st O (Ai O rfl rfl) rfl fun a O=>nt<|CN O rfl<|wp_skip<|tN<|sr<|mv O rfl rfl fun a O=>ag O rfl rfl fun a O=>nt<|wp_ret<|Ap rfl O.defers (AE O rfl) ⟨_,rfl,J.below,?_⟩
  show _=_
  rfl
theorem IC (p:Int)(n:Nat)(M:Nat->Nat->Nat)(sl:Value)(w:World)(hn0:0<n)(hn:n<=6)(hB:∀ i j,M i j<=255)(hG:TabP n M)(hP:¬ Ae p) :
    CallsR Try.prog 22 #[.int .i64 (p),.agg (AB (n:Int) M),sl] w (fun res _=>res = .int .i64 2):=by
  refine AQ [.int .i64 (p),.agg (AB (n:Int) M),sl] Try.func22 rfl Try.ntmps22 rfl fun a O=>?_;have J:AR w w [none] []:=MemX.start w 1;change Fr 22 a [(0,.int .i64 (p)),(1,.agg (AB (n:Int) M)),(2,sl)] at O;refine sr<|Aj O (Aw 0 J O rfl) rfl ?_;rintro _ w' a ⟨b1,rfl,J,-⟩ O;change AR _ _ [some (b1,AB (n:Int) M)] [] at J;refine ag O rfl rfl fun a O=>ns<|mv O rfl rfl fun a O=>st O (AF AK O rfl (J.row 0 rfl) (by simp only [AT,AA]<;>omega) (whole (by simp only [AT,AA]))) rfl fun a O=>mv O rfl rfl fun a O=>Aj O (AO Try.call27 O (.cons rfl (.cons rfl (.cons rfl .nil))) (IF (p) n M sl _ hn0 hn hB hG hP)) rfl ?_;rintro _ w' a ⟨hx,rfl⟩ O;have J:=J.ext hx;refine ag O rfl rfl fun a O=>nt<|sq<|sr<|mv O rfl rfl fun a O=>st O (Ao O rfl rfl) rfl fun a O=>mv O rfl rfl fun a O=>?_;rw [show decide ((2:Int)=0)=false from by decide] at O;refine A4 O rfl rfl rfl rfl rfl fun a O=>A4 O rfl rfl rfl rfl rfl fun a O=>A4 O rfl rfl rfl rfl rfl fun a O=>A4 O rfl rfl rfl rfl rfl fun a O=>A4 O rfl rfl rfl rfl rfl fun a O=>st O (Ai O rfl rfl) rfl fun a O=>nt<|CN O rfl<|wp_skip<|tN<|sr<|mv O rfl rfl fun a O=>ag O rfl rfl fun a O=>nt<|wp_ret<|Ap rfl O.defers (AE O rfl) ⟨_,rfl,J.below,?_⟩
  show _=_
  rfl
theorem IB (p n:Nat)(M:Nat->Nat->Nat)(sl:Value)(m:Nat)(Ln:Nat->Nat)(R:Nat->Nat->Int)(xs:Nat->Option Addr)(ca be ob:Nat->Nat)(w:World)(hn0:0<n)(hn:n<=6)(hB:∀ i j,M i j<=255)(hG:TabP n M)(hP:Ae (p:Int))(hS:¬ E3 (p:Int) n m Ln R)(hJ:ArgSS w sl m Ln R xs ca be ob)(hl:∀ i,i<m->Ln i<10000000) :
    CallsR Try.prog 22 #[.int .i64 (p:Int),.agg (AB (n:Int) M),sl] w (fun res _=>res = .int .i64 2):=by
  refine AQ [.int .i64 (p:Int),.agg (AB (n:Int) M),sl] Try.func22 rfl Try.ntmps22 rfl fun a O=>?_;have J:AR w w [none] []:=MemX.start w 1;change Fr 22 a [(0,.int .i64 (p:Int)),(1,.agg (AB (n:Int) M)),(2,sl)] at O;have hp2:=At hP;refine sr<|Aj O (Aw 0 J O rfl) rfl ?_;rintro _ w' a ⟨b1,rfl,J,-⟩ O;change AR _ _ [some (b1,AB (n:Int) M)] [] at J;refine ag O rfl rfl fun a O=>ns<|mv O rfl rfl fun a O=>st O (AF AK O rfl (J.row 0 rfl) (by simp only [AT,AA]<;>omega) (whole (by simp only [AT,AA]))) rfl fun a O=>mv O rfl rfl fun a O=>Aj O (AO Try.call27 O (.cons rfl (.cons rfl (.cons rfl .nil))) ((CallsR.val (Do (p:Int) n M sl m Ln R xs ca be ob _ hn0 hn hB hG hP (hJ.ext J.below) hl) (congrArg (Value.int .i64) (if_neg hS))))) rfl ?_;rintro _ w' a ⟨hx,rfl⟩ O;have J:=J.ext hx;refine ag O rfl rfl fun a O=>nt<|sq<|sr<|mv O rfl rfl fun a O=>st O (Ao O rfl rfl) rfl fun a O=>mv O rfl rfl fun a O=>?_;rw [show decide ((2:Int)=0)=false from by decide] at O;refine A4 O rfl rfl rfl rfl rfl fun a O=>A4 O rfl rfl rfl rfl rfl fun a O=>A4 O rfl rfl rfl rfl rfl fun a O=>A4 O rfl rfl rfl rfl rfl fun a O=>A4 O rfl rfl rfl rfl rfl fun a O=>st O (Ai O rfl rfl) rfl fun a O=>nt<|CN O rfl<|wp_skip<|tN<|sr<|mv O rfl rfl fun a O=>ag O rfl rfl fun a O=>nt<|wp_ret<|Ap rfl O.defers (AE O rfl) ⟨_,rfl,J.below,?_⟩
  show _=_
  rfl
theorem ID (p n:Nat)(M:Nat->Nat->Nat)(sl:Value)(m:Nat)(Ln:Nat->Nat)(R:Nat->Nat->Int)(xs:Nat->Option Addr)(ca be ob:Nat->Nat)(w:World)(hn0:0<n)(hn:n<=6)(hB:∀ i j,M i j<=255)(hG:TabP n M)(hP:Ae (p:Int))(hS:E3 (p:Int) n m Ln R)(hC:¬ Cs p n M (CR R))(hJ:ArgSS w sl m Ln R xs ca be ob)(hl:∀ i,i<m->Ln i<10000000) :
    CallsR Try.prog 22 #[.int .i64 (p:Int),.agg (AB (n:Int) M),sl] w (fun res _=>res = .int .i64 2):=by
  refine AQ [.int .i64 (p:Int),.agg (AB (n:Int) M),sl] Try.func22 rfl Try.ntmps22 rfl fun a O=>?_;have J:AR w w [none] []:=MemX.start w 1;change Fr 22 a [(0,.int .i64 (p:Int)),(1,.agg (AB (n:Int) M)),(2,sl)] at O;have hp2:=At hP;refine sr<|Aj O (Aw 0 J O rfl) rfl ?_;rintro _ w' a ⟨b1,rfl,J,-⟩ O;change AR _ _ [some (b1,AB (n:Int) M)] [] at J;refine ag O rfl rfl fun a O=>ns<|mv O rfl rfl fun a O=>st O (AF AK O rfl (J.row 0 rfl) (by simp only [AT,AA]<;>omega) (whole (by simp only [AT,AA]))) rfl fun a O=>mv O rfl rfl fun a O=>Aj O (AO Try.call27 O (.cons rfl (.cons rfl (.cons rfl .nil))) ((CallsR.val (Do (p:Int) n M sl m Ln R xs ca be ob _ hn0 hn hB hG hP (hJ.ext J.below) hl) (congrArg (Value.int .i64) (if_pos hS))))) rfl ?_;rintro _ w' a ⟨hx,rfl⟩ O;have J:=J.ext hx;refine ag O rfl rfl fun a O=>nt<|sq<|sr<|mv O rfl rfl fun a O=>st O (Ao O rfl rfl) rfl fun a O=>mv O rfl rfl fun a O=>?_;rw [show decide ((0:Int)=0)=true from by decide] at O;refine Ay O rfl rfl rfl (AS O rfl) rfl fun a O=>Ay O rfl rfl rfl (AF AK O rfl (J.row 0 rfl) (by simp only [AT,AA]<;>omega) (whole (by simp only [AT,AA]))) rfl fun a O=>Ay O rfl rfl rfl (AS O rfl) rfl fun a O=>EX O rfl rfl rfl (AO Try.call28 O (.cons rfl (.cons rfl (.cons rfl .nil))) ((CallsR.val (PC p n M sl m Ln R xs ca be ob _ hn0 hn hB hG hP (hJ.ext J.below) hS) (congrArg Value.bool (decide_eq_false hC))))) rfl ?_;rintro _ w' a ⟨hx,rfl⟩ O;have J:=J.ext hx;refine Ay O rfl rfl rfl (Co (b:=false) O rfl) rfl fun a O=>st O (Aa O rfl rfl) rfl fun a O=>nt<|Hk O rfl<|sr<|ag O rfl rfl fun a O=>nt<|wp_ret<|tR<|Ap rfl O.defers (AE O rfl) ⟨_,rfl,J.below,?_⟩
  show _=_
  rfl
theorem IA (p n:Nat)(M:Nat->Nat->Nat)(sl:Value)(m:Nat)(Ln:Nat->Nat)(R:Nat->Nat->Int)(xs:Nat->Option Addr)(ca be ob:Nat->Nat)(w:World)(hn0:0<n)(hn:n<=6)(hB:∀ i j,M i j<=255)(hG:TabP n M)(hP:Ae (p:Int))(hS:E3 (p:Int) n m Ln R)(hC:Cs p n M (CR R))(hJ:ArgSS w sl m Ln R xs ca be ob)(hl:∀ i,i<m->Ln i<10000000) :
    CallsR Try.prog 22 #[.int .i64 (p:Int),.agg (AB (n:Int) M),sl] w (fun res _=>res = .int .i64 0):=by
  refine AQ [.int .i64 (p:Int),.agg (AB (n:Int) M),sl] Try.func22 rfl Try.ntmps22 rfl fun a O=>?_;have J:AR w w [none] []:=MemX.start w 1;change Fr 22 a [(0,.int .i64 (p:Int)),(1,.agg (AB (n:Int) M)),(2,sl)] at O;have hp2:=At hP;refine sr<|Aj O (Aw 0 J O rfl) rfl ?_;rintro _ w' a ⟨b1,rfl,J,-⟩ O;change AR _ _ [some (b1,AB (n:Int) M)] [] at J;refine ag O rfl rfl fun a O=>ns<|mv O rfl rfl fun a O=>st O (AF AK O rfl (J.row 0 rfl) (by simp only [AT,AA]<;>omega) (whole (by simp only [AT,AA]))) rfl fun a O=>mv O rfl rfl fun a O=>Aj O (AO Try.call27 O (.cons rfl (.cons rfl (.cons rfl .nil))) ((CallsR.val (Do (p:Int) n M sl m Ln R xs ca be ob _ hn0 hn hB hG hP (hJ.ext J.below) hl) (congrArg (Value.int .i64) (if_pos hS))))) rfl ?_;rintro _ w' a ⟨hx,rfl⟩ O;have J:=J.ext hx;refine ag O rfl rfl fun a O=>nt<|sq<|sr<|mv O rfl rfl fun a O=>st O (Ao O rfl rfl) rfl fun a O=>mv O rfl rfl fun a O=>?_;rw [show decide ((0:Int)=0)=true from by decide] at O;refine Ay O rfl rfl rfl (AS O rfl) rfl fun a O=>Ay O rfl rfl rfl (AF AK O rfl (J.row 0 rfl) (by simp only [AT,AA]<;>omega) (whole (by simp only [AT,AA]))) rfl fun a O=>Ay O rfl rfl rfl (AS O rfl) rfl fun a O=>EX O rfl rfl rfl (AO Try.call28 O (.cons rfl (.cons rfl (.cons rfl .nil))) ((CallsR.val (PC p n M sl m Ln R xs ca be ob _ hn0 hn hB hG hP (hJ.ext J.below) hS) (congrArg Value.bool (decide_eq_true hC))))) rfl ?_;rintro _ w' a ⟨hx,rfl⟩ O;have J:=J.ext hx;refine Ay O rfl rfl rfl (Co (b:=true) O rfl) rfl fun a O=>st O (Aa O rfl rfl) rfl fun a O=>nt<|CN O rfl<|wp_skip<|tN<|sr<|mv O rfl rfl fun a O=>ag O rfl rfl fun a O=>nt<|wp_ret<|Ap rfl O.defers (AE O rfl) ⟨_,rfl,J.below,?_⟩
  show _=_
  rfl
section
variable {n : Nat} {M : Nat -> Nat -> Nat}
theorem TabP.c (hn:n<=6)(h:TabP n M){a b:Nat}(ha:a<n)(hb:b<n):M a b<n:=h.lt (by omega) (by omega)
theorem TabP.ir (h:TabP n M){a:Nat}(ha:a<n):M a (lead (M a) n)=0:=(Dx (M a) n).2.2 (h.inv ha)
theorem TabP.il (hn0:0<n)(hn:n<=6)(h:TabP n M){a:Nat}(ha:a<n):M (lead (M a) n) a=0:=by
  obtain ⟨j,hj,h1,h2⟩:=h.two hn0 hn ha;have hi:=h.inv ha;have e:M (M j a) (lead (M a) n)=M j (M a (lead (M a) n)):=h.2.2.2 j hj a ha _ hi;rw [h2,h.ir ha,(h.2.1 _ hi).1,(h.2.1 j hj).2] at e;rw [e];exact h2
theorem TabP.iu (hn0:0<n)(hn:n<=6)(h:TabP n M){a b:Nat}(ha:a<n)(hb:b<n)(he:M a b=0):b=lead (M a) n:=by
  have hi:=h.inv ha;have e:=h.2.2.2 _ hi a ha b hb;rw [h.il hn0 hn ha,he,(h.2.1 b hb).1,(h.2.1 _ hi).2] at e;exact e
theorem TabP.ii (hn0:0<n)(hn:n<=6)(h:TabP n M){a:Nat}(ha:a<n):lead (M (lead (M a) n)) n=a:=(h.iu hn0 hn (h.inv ha) ha (h.il hn0 hn ha)).symm
theorem TabP.im (hn0:0<n)(hn:n<=6)(h:TabP n M){a b:Nat}(ha:a<n)(hb:b<n):lead (M (M a b)) n=M (lead (M b) n) (lead (M a) n):=by
  have h1:=h.inv ha;have h2:=h.inv hb;refine (h.iu hn0 hn (h.c hn ha hb) (h.c hn h2 h1) ?_).symm;rw [h.2.2.2 a ha b hb _ (h.c hn h2 h1),← h.2.2.2 b hb _ h2 _ h1,h.ir hb,(h.2.1 _ h1).1,h.ir ha]
def cj (M:Nat->Nat->Nat) (n x y:Nat):Nat:=M (M y x) (lead (M y) n)
def DG (M:Nat->Nat->Nat) (n x j:Nat):Bool:=(List.range n).any fun y=>decide (cj M n x y=j)
theorem inC_iff {x j:Nat}:DG M n x j=true↔∃ y,y<n/\cj M n x y=j:=by
  unfold DG
  rw [List.any_eq_true]
  constructor
  . rintro ⟨y,h1,h2⟩;exact ⟨y,by simpa using h1,by simpa using h2⟩
  . rintro ⟨y,h1,h2⟩;exact ⟨y,by simpa using h1,by simpa using h2⟩
theorem Qa (hn:n<=6)(h:TabP n M){x y:Nat}(hx:x<n)(hy:y<n):cj M n x y<n:=h.c hn (h.c hn hy hx) (h.inv hy)
theorem GI (hn0:0<n)(h:TabP n M){x:Nat}(hx:x<n):DG M n x x=true:=inC_iff.2 ⟨0,hn0,by
  have e:lead (M 0) n=0:=Jm hn0 (h.2.1 0 hn0).1 (fun i hi=>absurd hi (by omega))
  unfold cj
  rw [e,(h.2.1 x hx).1,(h.2.1 x hx).2]⟩
theorem GH (hn0:0<n)(hn:n<=6)(h:TabP n M){x j:Nat}(hx:x<n)(hj:DG M n x j=true):DG M n j x=true:=by
  obtain ⟨y,hy,rfl⟩:=inC_iff.1 hj;have hi:=h.inv hy;have hyx:=h.c hn hy hx;refine inC_iff.2 ⟨lead (M y) n,hi,?_⟩
  unfold cj
  rw [h.ii hn0 hn hy,← h.2.2.2 _ hi _ hyx _ hi,← h.2.2.2 _ hi y hy x hx,h.il hn0 hn hy,(h.2.1 x hx).1,h.2.2.2 x hx _ hi y hy,h.il hn0 hn hy,(h.2.1 x hx).2]
theorem JM (hn0:0<n)(hn:n<=6)(h:TabP n M){x j k:Nat}(hx:x<n)(h1:DG M n x j=true)(h2:DG M n j k=true):DG M n x k=true:=by
  obtain ⟨y,hy,rfl⟩:=inC_iff.1 h1;obtain ⟨z,hz,rfl⟩:=inC_iff.1 h2;refine inC_iff.2 ⟨M z y,h.c hn hz hy,?_⟩;have hiy:=h.inv hy;have hiz:=h.inv hz;have hyx:=h.c hn hy hx
  unfold cj
  rw [h.im hn0 hn hz hy,h.2.2.2 z hz y hy x hx,← h.2.2.2 _ (h.c hn hz hyx) _ hiy _ hiz,h.2.2.2 z hz _ hyx _ hiy]
def BW (M:Nat->Nat->Nat) (n x:Nat):Bool:=(List.range x).all fun i=>!(DG M n i x)
theorem isRep_iff {x:Nat}:BW M n x=true↔∀ i,i<x->¬ DG M n i x=true:=by
  unfold BW
  rw [List.all_eq_true]
  constructor
  . intro h i hi hq;have:=h i (by simpa using hi);rw [hq] at this;cases this
  . intro h i hi;have:=h i (by simpa using hi);simpa using this
theorem MS (hn0:0<n)(hn:n<=6)(h:TabP n M){x:Nat}(hx:x<n):BW M n x=true↔¬ ∃ i,i<x/\BW M n i=true/\DG M n i x=true:=by
  rw [isRep_iff]
  constructor
  . rintro h1 ⟨i,hi,_,h2⟩;exact h1 i hi h2
  . intro h1 i hi h2
    have key:∀ m i,i<=m->i<x->DG M n i x=true->∃ i,i<x/\BW M n i=true/\DG M n i x=true:=by
      intro m
      induction m with
      | zero =>
        intro i h3 h4 h5;obtain rfl:i=0:=by omega
        exact ⟨0,h4,isRep_iff.2 (fun j hj=>absurd hj (by omega)),h5⟩
      | succ m ih =>
        intro i h3 h4 h5
        by_cases e:BW M n i=true
        . exact ⟨i,h4,e,h5⟩
        . have e2:∃ q,q<i/\DG M n q i=true:=Decidable.by_contra fun hq=>e (isRep_iff.2 fun q h6 h7=>hq ⟨q,h6,h7⟩)
          obtain ⟨q,h6,h7⟩:=e2;exact ih q (by omega) (by omega) (JM hn0 hn h (by omega) h7 h5)
    exact h1 (key i i (Nat.le_refl _) hi h2)
theorem Gn (hn0:0<n)(hn:n<=6)(h:TabP n M){x:Nat}(hx:x<n):asc (DG M n x) n 0=x↔BW M n x=true:=by
  have hr:=GI hn0 h hx;rw [isRep_iff]
  constructor
  . intro e i hi hq
    have h1:=GH hn0 hn h (by omega) hq;have h0:0<cnt (DG M n x) n:=Nat.lt_of_le_of_lt (Nat.zero_le _) (cnt_lt hr hx);have h2:=Dg h0;rw [e] at h2;have:=cnt_lt h1 hi
    omega
  . intro h1
    have e:cnt (DG M n x) x=0:=by
      by_cases e0:cnt (DG M n x) x=0
      . exact e0
      . obtain ⟨j,hj,hs,_⟩:=IX (S:=DG M n x) (n:=x) (k:=0) (by omega)
        exact absurd (GH hn0 hn h hx hs) (h1 j hj)
    have:=EU hr hx
    rwa [e] at this
theorem J4 (hn0:0<n)(h:TabP n M){x:Nat}(hx:x<n):0<cnt (DG M n x) n:=Nat.lt_of_le_of_lt (Nat.zero_le _) (cnt_lt (GI hn0 h hx) hx)
def nC (M:Nat->Nat->Nat) (n:Nat):Nat:=cnt (BW M n) n
def rC (M:Nat->Nat->Nat) (n k:Nat):Nat:=asc (BW M n) n k
def sC (M:Nat->Nat->Nat) (n k:Nat):Nat:=cnt (DG M n (rC M n k)) n
def eC (M:Nat->Nat->Nat) (n k c:Nat):Nat:=asc (DG M n (rC M n k)) n c
theorem OW (hn:n<=6):nC M n<=6:=Nat.le_trans (cnt_le n) hn
theorem HX {k:Nat}(h:k<nC M n):rC M n k<n:=(Dg h).1
theorem Ll {k:Nat}(h:k<nC M n):BW M n (rC M n k)=true:=(Dg h).2.1
theorem OJ (hn0:0<n)(hG:TabP n M){k:Nat}(h:k<nC M n):0<sC M n k:=J4 hn0 hG (HX h)
theorem RW (hn0:0<n)(hn:n<=6)(hG:TabP n M){k:Nat}(h:k<nC M n):eC M n k 0=rC M n k:=(Gn hn0 hn hG (HX h)).2 (Ll h)
theorem QX {k c:Nat}(h:c<sC M n k):eC M n k c<n:=(Dg h).1
end
end Go.Proofs.Ytgioobkkkicfeaa
namespace Go.Proofs
open Go.Shelf
def Try.lays128_ren:Go.Shelf.Ren:=⟨fun | 128=>94 | n=>n,fun | 51=>117 | 3=>3 | 4=>4 | 46=>81 | 5=>5 | 9=>9 | n=>n,fun | n=>n⟩
def Try.lays125_ren:Go.Shelf.Ren:=⟨fun | 125=>84 | 128=>94 | 129=>95 | n=>n,fun | 46=>81 | 3=>3 | 51=>117 | 53=>78 | 4=>4 | 5=>5 | 9=>9 | n=>n,fun | n=>n⟩
theorem Try.lays125:Go.Proofs.Lays.n125 Try.prog Try.lays125_ren:={
  mixed:=by kernel_rfl
  f125:=Try.func84.trans (congrArg some (by kernel_rfl))
  f128:=Try.func94.trans (congrArg some (by kernel_rfl))
  f129:=Try.func95.trans (congrArg some (by kernel_rfl))
  t3:=Try.underlying3
  a3:=Try.isAgg3
  z3:=Try.sizeOf3
  v3:=Try.zeroValue3
  t4:=Try.underlying4
  a4:=Try.isAgg4
  z4:=Try.sizeOf4
  v4:=Try.zeroValue4
  t5:=Try.underlying5
  a5:=Try.isAgg5
  z5:=Try.sizeOf5
  v5:=Try.zeroValue5
  t9:=Try.underlying9
  a9:=Try.isAgg9
  z9:=Try.sizeOf9
  v9:=Try.zeroValue9
  t46:=Try.underlying81
  a46:=Try.isAgg81
  z46:=Try.sizeOf81
  v46:=Try.zeroValue81
  t51:=Try.underlying117
  a51:=Try.isAgg117
  z51:=Try.sizeOf117
  v51:=Try.zeroValue117
  t53:=Try.underlying78
  a53:=Try.isAgg78
  z53:=Try.sizeOf78
  v53:=Try.zeroValue78 }
theorem Try.bits_Len (x:Int)(w:World)(h0:0<=x)(h1:x<=18446744073709551615) :
    Calls Try.prog 84 #[.int .u64 x] w fun e w'=>e = .returned (.int .i64 (Lib.bitLen x.toNat))/\w'=w:=Any.bits_Len Try.lays125 x w h0 h1
def Try.lays129_ren:Go.Shelf.Ren:=⟨fun | 129=>95 | n=>n,fun | 53=>78 | 3=>3 | 4=>4 | 46=>81 | 5=>5 | 9=>9 | n=>n,fun | n=>n⟩
def Try.laysSlN43_f77_ren:Go.Shelf.Ren:=⟨fun | 43=>77 | n=>n,fun | 22=>39 | 23=>2 | 3=>3 | 4=>4 | 0=>0 | n=>n,fun | n=>n⟩
open Go.RowKit Go.Lib Go.Sort in
open Go.RowKit Go.Lib Go.Sort in
open Go.RowKit Go.Lib Go.Sort in
def Try.laysSlN68_f101_ren:Go.Shelf.Ren:=⟨fun | 68=>101 | n=>n,fun | 23=>2 | 4=>4 | n=>n,fun | n=>n⟩
open Go.RowKit Go.Lib in
def Try.laysSlN59_f91_ren:Go.Shelf.Ren:=⟨fun | 59=>91 | 68=>101 | n=>n,fun | 23=>2 | 4=>4 | n=>n,fun | n=>n⟩
open Go.RowKit Go.Lib in
open Go.RowKit Go.Lib Go.Sort in
end Go.Proofs
namespace Go.Proofs.Ytgioobkkkicfeaa
open Go Go.RowKit Go.Sw Go.Ech
open Classical
theorem JU:Try.prog.underlying 3=some (.int .i64):=by kernel_rfl
theorem Ns:Try.prog.underlying 81=some (.int .u64):=by kernel_rfl
theorem Om (x:Nat)(w:World) :
    CallsR Try.prog 101 #[.int .i64 (x:Int)] w (fun res _=>res = .bool false):=by
  refine AQ [.int .i64 (x:Int)] Try.func101 rfl Try.ntmps101 rfl fun a O=>?_;have J:AR w w [] []:=MemX.start w 0;change Fr 6 a [(0,.int .i64 (x:Int))] at O;refine sr<|ag O rfl rfl fun a O=>ns<|mv O rfl rfl fun a O=>mv O rfl rfl fun a O=>st O (A0 O rfl rfl) rfl fun a O=>ag O rfl rfl fun a O=>nt<|wp_ret<|Ap rfl O.defers (AE O rfl) ⟨_,rfl,J.below,?_⟩
  show _=_
  exact congrArg Value.bool (decide_eq_false (fun h=>h rfl))
theorem Px (x y:Nat)(w:World) :
    CallsR Try.prog 91 #[.int .i64 (x:Int),.int .i64 (y:Int)] w (fun res _=>res = .bool (decide ((x:Int)<(y:Int)))):=by
  refine AQ [.int .i64 (x:Int),.int .i64 (y:Int)] Try.func91 rfl Try.ntmps91 rfl fun a O=>?_;have J:AR w w [] []:=MemX.start w 0;change Fr 17 a [(0,.int .i64 (x:Int)),(1,.int .i64 (y:Int))] at O;refine sr<|ag O rfl rfl fun a O=>ns<|mv O rfl rfl fun a O=>Aj O (AO Try.call101 O (.cons rfl .nil) (Om (x) _)) rfl ?_;rintro _ w' a ⟨hx,rfl⟩ O;have J:=J.ext hx;refine mv O rfl rfl fun a O=>A4 O rfl rfl rfl rfl rfl fun a O=>A4 O rfl rfl rfl rfl rfl fun a O=>A4 O rfl rfl rfl rfl rfl fun a O=>st O (Ai O rfl rfl) rfl fun a O=>mv O rfl rfl fun a O=>Ay O rfl rfl rfl (AS O rfl) rfl fun a O=>Ay O rfl rfl rfl (AS O rfl) rfl fun a O=>Ay O rfl rfl rfl (Ak O rfl rfl) rfl fun a O=>st O (Ai O rfl rfl) rfl fun a O=>ag O rfl rfl fun a O=>nt<|wp_ret<|Ap rfl O.defers (AE O rfl) ⟨_,rfl,J.below,?_⟩
  show _=_
  rfl
theorem Gv (b1 c1 nn:Nat)(cs1:Array Value)(ls:Nat->Nat)(w:World)(hnn:0<nn)(hnn2:nn<=12)(hU:nn<=cs1.size)(hb:Blk w b1 (BV cs1 nn ls)) :
    CallsX Try.prog [b1] 85 #[.slice (some ⟨b1,0,none⟩) nn c1,.int .i64 (0),.int .i64 (nn:Int)] w (fun v w'=>v = .tuple #[]/\∃ D,Blk w' b1 (BV cs1 nn D)/\Asc nn D/\SameSet nn D ls):=by
  refine B0 [.slice (some ⟨b1,0,none⟩) nn c1,.int .i64 (0),.int .i64 (nn:Int)] Try.func85 rfl Try.ntmps85 rfl fun a O=>?_;have J:MemX [b1] w w [some (b1,BV cs1 nn ls)] []:=MemX.startX1 0 hb;change Fr 49 a [(0,.slice (some ⟨b1,0,none⟩) nn c1),(1,.int .i64 (0)),(2,.int .i64 (nn:Int))] at O;refine sr<|mv O rfl rfl fun a O=>st O (Ac O rfl rfl (AN (0) (1) (by omega))) rfl fun a O=>ag O rfl rfl fun a O=>nt<|wp_block ?_;change MemX [b1] w _ [some (b1,BV cs1 nn ls)] [] at J;refine Ag (fun (kk:Nat) a w'=>kk<=(nn - 1)/\∃ (D1:Nat->Nat),(Asc (kk+1) D1/\SameSet nn D1 ls)/\Fr 49 a [(0,.slice (some ⟨b1,0,none⟩) nn c1),(1,.int .i64 (0)),(2,.int .i64 (nn:Int)),(6,.int .i64 (((kk+1:Nat):Int)))]/\MemX [b1] w w' [some (b1,BV cs1 nn D1)] []) (fun kk=>(nn - 1) - kk) 0 ?_ ?_
  . refine ⟨by omega,ls,⟨fun a b h1 h2=>absurd h2 (by omega),SameSet.rfl'⟩,O.sub _ (by repeat' constructor),?_⟩
    exact J
  clear O J;rintro gi a w' ⟨hgi,D1,hH,O,J⟩;refine sq<|sr<|mv O rfl rfl fun a O=>mv O rfl rfl fun a O=>st O (Ak O rfl rfl) rfl fun a O=>nt<|AI O rfl (fun h1=>?_) (fun h1=>?_)
  . refine wp_skip ?_
    refine tN<|sq<|wp_block<|sr<|mv O rfl rfl fun a O=>ag O rfl rfl fun a O=>nt<|wp_block ?_;change MemX [b1] w _ [some (b1,BV cs1 nn D1)] [] at J;refine Ag (fun (kk:Nat) a w'=>kk<=(gi+1)/\∃ (D2:Nat->Nat),(AscBut (gi+1+1) (gi+1 - kk) D2/\SameSet nn D2 ls)/\Fr 49 a [(0,.slice (some ⟨b1,0,none⟩) nn c1),(1,.int .i64 (0)),(2,.int .i64 (nn:Int)),(6,.int .i64 (((gi+1:Nat):Int))),(10,.int .i64 (((gi+1:Nat):Int))),(11,.int .i64 (nn:Int)),(12,.bool (decide ((((gi+1:Nat):Int):Int)<(nn:Int)))),(15,.int .i64 (((gi+1:Nat):Int))),(7,.int .i64 ((((gi+1 - kk):Nat):Int)))]/\MemX [b1] w w' [some (b1,BV cs1 nn D2)] []) (fun kk=>(gi+1) - kk) 0 ?_ ?_
    . refine ⟨by omega,D1,⟨AscBut.start hH.1,hH.2⟩,O.sub _ (by repeat' constructor),?_⟩
      exact J
    clear O J;rintro gk a w' ⟨hgk,D2,hinv2,O,J⟩;refine sq<|sq ?_
    by_cases hj0:0<(gi+1 - gk)
    . refine G4 13 [] [.val (.int .i64 ((((gi+1 - gk):Nat):Int))),.val (.int .i64 (0)),.val (.bool (true)),.val (.bool (true)),.val (.slice (some ⟨b1,0,none⟩) nn c1),.val (.int .i64 ((((gi+1 - gk):Nat):Int))),.val (ptr b1 (0+((gi+1 - gk))*1)),.val (.int .i64 ((D2 ((gi+1 - gk)):Int))),.val (.slice (some ⟨b1,0,none⟩) nn c1),.val (.int .i64 ((((gi+1 - gk):Nat):Int))),.val (.int .i64 ((((gi+1 - gk) - 1:Nat):Int))),.val (ptr b1 (0+((gi+1 - gk) - 1)*1)),.val (.int .i64 ((D2 ((gi+1 - gk) - 1):Int)))] Bb rfl O rfl J ⟨fun a w gG O hS hd=>BM rfl (by exact BF hS rfl O rfl),fun a w gG O hS hd=>BM rfl (by exact BF hS rfl O rfl),fun a w gG O hS hd=>BM rfl (by have O:=O.ext1 16 (hd 0 rfl rfl);have O:=O.ext1 17 (hd 1 rfl rfl);exact AD hS rfl (GL (Cq O rfl rfl) (congrArg Value.bool (decide_eq_true (by omega))))),fun a w gG O hS hd=>BM rfl (by have O:=O.ext1 18 (hd 2 rfl rfl);exact BF hS rfl O rfl),fun a w gG O hS hd=>Bw rfl (O.ext1 19 (hd 3 rfl rfl)) rfl rfl rfl (by exact BF hS rfl O rfl),fun a w gG O hS hd=>Bw rfl (O.ext1 19 (hd 3 rfl rfl)) rfl rfl rfl (by exact BF hS rfl O rfl),fun a w gG O hS hd=>Bw rfl (O.ext1 19 (hd 3 rfl rfl)) rfl rfl rfl (by have O:=O.ext1 20 (hd 4 rfl rfl);have O:=O.ext1 21 (hd 5 rfl rfl);exact AD hS rfl (AJ (i:=(gi+1 - gk)) An O rfl rfl rfl (by omega))),fun a w gG O hS hd=>Bw rfl (O.ext1 19 (hd 3 rfl rfl)) rfl rfl rfl (by have O:=O.ext1 22 (hd 6 rfl rfl);have J:=hS.mem rfl;exact AD hS rfl (AM AL O rfl (J.row 0 rfl) (C9 hU ((gi+1 - gk)) (by omega) (by omega)))),fun a w gG O hS hd=>Bw rfl (O.ext1 19 (hd 3 rfl rfl)) rfl rfl rfl (by exact BF hS rfl O rfl),fun a w gG O hS hd=>Bw rfl (O.ext1 19 (hd 3 rfl rfl)) rfl rfl rfl (by exact BF hS rfl O rfl),fun a w gG O hS hd=>Bw rfl (O.ext1 19 (hd 3 rfl rfl)) rfl rfl rfl (by have O:=O.ext1 25 (hd 9 rfl rfl);exact AD hS rfl (CY O rfl rfl (show _=(((gi+1 - gk) - 1:Nat):Int) from (by rw [wrap_i64]<;>omega)))),fun a w gG O hS hd=>Bw rfl (O.ext1 19 (hd 3 rfl rfl)) rfl rfl rfl (by have O:=O.ext1 24 (hd 8 rfl rfl);have O:=O.ext1 26 (hd 10 rfl rfl);exact AD hS rfl (AJ (i:=(gi+1 - gk) - 1) An O rfl rfl rfl (by omega))),fun a w gG O hS hd=>Bw rfl (O.ext1 19 (hd 3 rfl rfl)) rfl rfl rfl (by have O:=O.ext1 27 (hd 11 rfl rfl);have J:=hS.mem rfl;exact AD hS rfl (AM AL O rfl (J.row 0 rfl) (C9 hU ((gi+1 - gk) - 1) (by omega) (by omega)))),trivial⟩ ?_
      intro a w' L O hS hq;have J:=hS.mem rfl;have O:=O.ext1 16 (hq 0 rfl rfl);have O:=O.ext1 17 (hq 1 rfl rfl);have O:=O.ext1 18 (hq 2 rfl rfl);have O:=O.ext1 19 (hq 3 rfl rfl);have O:=O.ext1 20 (hq 4 rfl rfl);have O:=O.ext1 21 (hq 5 rfl rfl);have O:=O.ext1 22 (hq 6 rfl rfl);have O:=O.ext1 23 (hq 7 rfl rfl);have O:=O.ext1 24 (hq 8 rfl rfl);have O:=O.ext1 25 (hq 9 rfl rfl);have O:=O.ext1 26 (hq 10 rfl rfl);have O:=O.ext1 27 (hq 11 rfl rfl);have O:=O.ext1 28 (hq 12 rfl rfl);change MemX [b1] w w' [some (b1,BV cs1 nn D2)] [] at J;change wpList Try.prog _ _ [_,_] _ _;refine EX O rfl rfl rfl (AO Try.call91 O (.cons rfl (.cons rfl .nil)) (Px (D2 ((gi+1 - gk))) (D2 ((gi+1 - gk) - 1)) _)) rfl ?_;rintro _ w' a ⟨hx,rfl⟩ O;have J:=J.ext hx;refine st O (Aa O rfl rfl) rfl fun a O=>nt<|AI O rfl (fun h2=>?_) (fun h2=>?_)
      . refine wp_skip ?_
        refine tN<|sq<|wp_block<|CQ (S:=fun (b:Bool) w2=>MemX [b1] w w2 [some (b1,if b then BV cs1 nn (Cl D2 (gi+1 - gk) (D2 ((gi+1 - gk) - 1))) else BV cs1 nn D2)] []) 16 15 Bb rfl rfl rfl O rfl (fun j o hj hne=>BQ (s:=15) (i:=0) rfl j o hj (by omega)) J (fun b w h=>h.ext (Below.drew (Below.refl _ _))) (KS [.slice (some ⟨b1,0,none⟩) nn c1,.int .i64 ((((gi+1 - gk):Nat):Int)),.slice (some ⟨b1,0,none⟩) nn c1,.int .i64 ((((gi+1 - gk):Nat):Int)),.int .i64 ((((gi+1 - gk) - 1:Nat):Int)),.slice (some ⟨b1,0,none⟩) nn c1,.int .i64 ((((gi+1 - gk):Nat):Int)),.int .i64 ((((gi+1 - gk) - 1:Nat):Int)),ptr b1 (0+((gi+1 - gk) - 1)*1),.int .i64 ((D2 ((gi+1 - gk) - 1):Int)),.slice (some ⟨b1,0,none⟩) nn c1,.int .i64 ((((gi+1 - gk):Nat):Int)),ptr b1 (0+((gi+1 - gk))*1),.int .i64 ((D2 ((gi+1 - gk)):Int)),ptr b1 (0+((gi+1 - gk))*1),undef]) ⟨fun a w2 b O hS hb hd=>by exact AU (S:=fun (b:Bool) w2=>MemX [b1] w w2 [some (b1,if b then BV cs1 nn (Cl D2 (gi+1 - gk) (D2 ((gi+1 - gk) - 1))) else BV cs1 nn D2)] []) hS (AS O rfl),fun a w2 b O hS hb hd=>by exact AU (S:=fun (b:Bool) w2=>MemX [b1] w w2 [some (b1,if b then BV cs1 nn (Cl D2 (gi+1 - gk) (D2 ((gi+1 - gk) - 1))) else BV cs1 nn D2)] []) hS (AS O rfl),fun a w2 b O hS hb hd=>by exact AU (S:=fun (b:Bool) w2=>MemX [b1] w w2 [some (b1,if b then BV cs1 nn (Cl D2 (gi+1 - gk) (D2 ((gi+1 - gk) - 1))) else BV cs1 nn D2)] []) hS (AS O rfl),fun a w2 b O hS hb hd=>by exact AU (S:=fun (b:Bool) w2=>MemX [b1] w w2 [some (b1,if b then BV cs1 nn (Cl D2 (gi+1 - gk) (D2 ((gi+1 - gk) - 1))) else BV cs1 nn D2)] []) hS (AS O rfl),fun a w2 b O hS hb hd=>by have O:=O.ext1 36 (hd 3 rfl rfl rfl);exact AU (S:=fun (b:Bool) w2=>MemX [b1] w w2 [some (b1,if b then BV cs1 nn (Cl D2 (gi+1 - gk) (D2 ((gi+1 - gk) - 1))) else BV cs1 nn D2)] []) hS (CY O rfl rfl (show _=(((gi+1 - gk) - 1:Nat):Int) from (by rw [wrap_i64]<;>omega))),fun a w2 b O hS hb hd=>by exact AU (S:=fun (b:Bool) w2=>MemX [b1] w w2 [some (b1,if b then BV cs1 nn (Cl D2 (gi+1 - gk) (D2 ((gi+1 - gk) - 1))) else BV cs1 nn D2)] []) hS (AS O rfl),fun a w2 b O hS hb hd=>by exact AU (S:=fun (b:Bool) w2=>MemX [b1] w w2 [some (b1,if b then BV cs1 nn (Cl D2 (gi+1 - gk) (D2 ((gi+1 - gk) - 1))) else BV cs1 nn D2)] []) hS (AS O rfl),fun a w2 b O hS hb hd=>by have O:=O.ext1 39 (hd 6 rfl rfl rfl);exact AU (S:=fun (b:Bool) w2=>MemX [b1] w w2 [some (b1,if b then BV cs1 nn (Cl D2 (gi+1 - gk) (D2 ((gi+1 - gk) - 1))) else BV cs1 nn D2)] []) hS (CY O rfl rfl (show _=(((gi+1 - gk) - 1:Nat):Int) from (by rw [wrap_i64]<;>omega))),fun a w2 b O hS hb hd=>by have O:=O.ext1 38 (hd 5 rfl rfl rfl);have O:=O.ext1 40 (hd 7 rfl rfl rfl);exact AU (S:=fun (b:Bool) w2=>MemX [b1] w w2 [some (b1,if b then BV cs1 nn (Cl D2 (gi+1 - gk) (D2 ((gi+1 - gk) - 1))) else BV cs1 nn D2)] []) hS (AJ (i:=(gi+1 - gk) - 1) An O rfl rfl rfl (by omega)),fun a w2 b O hS hb hd=>by have O:=O.ext1 41 (hd 8 rfl rfl rfl);obtain rfl:=hb rfl;have J:MemX [b1] w w2 [some (b1,BV cs1 nn D2)] []:=hS;exact AU (S:=fun (b:Bool) w2=>MemX [b1] w w2 [some (b1,if b then BV cs1 nn (Cl D2 (gi+1 - gk) (D2 ((gi+1 - gk) - 1))) else BV cs1 nn D2)] []) (b:=false) hS (AM AL O rfl (J.row 0 rfl) (C9 hU ((gi+1 - gk) - 1) (by omega) (by omega))),fun a w2 b O hS hb hd=>by exact AU (S:=fun (b:Bool) w2=>MemX [b1] w w2 [some (b1,if b then BV cs1 nn (Cl D2 (gi+1 - gk) (D2 ((gi+1 - gk) - 1))) else BV cs1 nn D2)] []) hS (AS O rfl),fun a w2 b O hS hb hd=>by exact AU (S:=fun (b:Bool) w2=>MemX [b1] w w2 [some (b1,if b then BV cs1 nn (Cl D2 (gi+1 - gk) (D2 ((gi+1 - gk) - 1))) else BV cs1 nn D2)] []) hS (AS O rfl),fun a w2 b O hS hb hd=>by have O:=O.ext1 43 (hd 10 rfl rfl rfl);have O:=O.ext1 44 (hd 11 rfl rfl rfl);exact AU (S:=fun (b:Bool) w2=>MemX [b1] w w2 [some (b1,if b then BV cs1 nn (Cl D2 (gi+1 - gk) (D2 ((gi+1 - gk) - 1))) else BV cs1 nn D2)] []) hS (AJ (i:=(gi+1 - gk)) An O rfl rfl rfl (by omega)),fun a w2 b O hS hb hd=>by have O:=O.ext1 45 (hd 12 rfl rfl rfl);obtain rfl:=hb rfl;have J:MemX [b1] w w2 [some (b1,BV cs1 nn D2)] []:=hS;exact AU (S:=fun (b:Bool) w2=>MemX [b1] w w2 [some (b1,if b then BV cs1 nn (Cl D2 (gi+1 - gk) (D2 ((gi+1 - gk) - 1))) else BV cs1 nn D2)] []) (b:=false) hS (AM AL O rfl (J.row 0 rfl) (C9 hU ((gi+1 - gk)) (by omega) (by omega))),fun a w2 b O hS hb hd=>by have O:=O.ext1 33 (hd 0 rfl rfl rfl);have O:=O.ext1 34 (hd 1 rfl rfl rfl);exact AU (S:=fun (b:Bool) w2=>MemX [b1] w w2 [some (b1,if b then BV cs1 nn (Cl D2 (gi+1 - gk) (D2 ((gi+1 - gk) - 1))) else BV cs1 nn D2)] []) hS (AJ (i:=(gi+1 - gk)) An O rfl rfl rfl (by omega)),fun a w2 O hS hd=>by have O:=O.ext1 42 (hd 9 rfl rfl rfl);have O:=O.ext1 47 (hd 14 rfl rfl rfl);have J:MemX [b1] w w2 [some (b1,BV cs1 nn D2)] []:=hS;exact O9 0 J rfl AL O rfl rfl rfl (by simp only [AT,Bi]<;>omega) (H6 hU (gi+1 - gk) (by omega) (by omega)),trivial⟩ ?_
        intro a w' O hS hq;have J:MemX [b1] w w' [some (b1,BV cs1 nn (Cl D2 (gi+1 - gk) (D2 ((gi+1 - gk) - 1))))] []:=hS;have O:=O.ext1 35 (v:=.slice (some ⟨b1,0,none⟩) nn c1) (hq 2 rfl rfl rfl);have O:=O.ext1 37 (v:=.int .i64 ((((gi+1 - gk) - 1:Nat):Int))) (hq 4 rfl rfl rfl);have O:=O.ext1 46 (v:=.int .i64 ((D2 ((gi+1 - gk)):Int))) (hq 13 rfl rfl rfl);change wpList Try.prog _ _ [_,_] _ _;refine st O (AJ (i:=(gi+1 - gk) - 1) An O rfl rfl rfl (by omega)) rfl fun a O=>Bu O (BE 0 J rfl AL O rfl rfl rfl (by first | omega | (simp only [AT,Bi]<;>omega) | (simp only [Array.size_setIfInBounds];omega) | simp)) ?_;intro _ w' a J O;rw [show (BV cs1 nn (Cl D2 (gi+1 - gk) (D2 ((gi+1 - gk) - 1)))).setIfInBounds (0+((gi+1 - gk) - 1)*1) (.int .i64 ((D2 ((gi+1 - gk)):Int)))=BV cs1 nn (Cl (Cl D2 (gi+1 - gk) (D2 ((gi+1 - gk) - 1))) ((gi+1 - gk) - 1) (D2 ((gi+1 - gk)))) from H6 hU ((gi+1 - gk) - 1) (by omega) (by omega)] at J;change MemX _ _ _ [_] [] at J;refine wpList_nil<|iN<|tN<|wp_region_lit<|mv O rfl rfl fun a O=>st O (CY O rfl rfl (show _=(((gi+1 - gk) - 1:Nat):Int) from (by rw [wrap_i64]<;>omega))) rfl fun a O=>ag O rfl rfl fun a O=>nt<|⟨gk+1,⟨by omega,(Cl (Cl D2 (gi+1 - gk) (D2 ((gi+1 - gk) - 1))) ((gi+1 - gk) - 1) (D2 ((gi+1 - gk)))),⟨AscBut.step (j:=gi+1 - gk) hinv2.1 (by omega) (by omega) (by omega),SameSet.swap hinv2.2 (i:=gi+1 - gk - 1) (j:=gi+1 - gk) (by omega) (by omega)⟩,O.sub _ (by repeat' constructor),?_⟩,by omega⟩;exact J
      refine wp_exit<|tX<|tX<|AW<|iN<|tN<|wp_region_lit<|mv O rfl rfl fun a O=>st O (Ac O rfl rfl (AN (gi+1) (1) (by omega))) rfl fun a O=>ag O rfl rfl fun a O=>nt<|⟨gi+1,⟨by omega,D2,⟨AscBut.done hinv2.1 (by first | exact .inl (by omega) | exact .inr (by omega)),hinv2.2⟩,O.sub _ (by repeat' constructor),?_⟩,by omega⟩;exact J
    refine G4 13 [] [.val (.int .i64 ((((gi+1 - gk):Nat):Int))),.val (.int .i64 (0)),.val (.bool (false)),.val (.bool (false)),.val undef,.val undef,.val undef,.val undef,.val undef,.val undef,.val undef,.val undef,.val undef] Bb rfl O rfl J ⟨fun a w gG O hS hd=>BM rfl (by exact BF hS rfl O rfl),fun a w gG O hS hd=>BM rfl (by exact BF hS rfl O rfl),fun a w gG O hS hd=>BM rfl (by have O:=O.ext1 16 (hd 0 rfl rfl);have O:=O.ext1 17 (hd 1 rfl rfl);exact AD hS rfl (GL (Cq O rfl rfl) (congrArg Value.bool (decide_eq_false (by omega))))),fun a w gG O hS hd=>BM rfl (by have O:=O.ext1 18 (hd 2 rfl rfl);exact BF hS rfl O rfl),fun a w gG O hS hd=>Ck rfl (O.ext1 19 (hd 3 rfl rfl)) rfl rfl rfl rfl ⟨gG,hS,A6 rfl rfl,fun _ _ _ h=>h⟩,fun a w gG O hS hd=>Ck rfl (O.ext1 19 (hd 3 rfl rfl)) rfl rfl rfl rfl ⟨gG,hS,A6 rfl rfl,fun _ _ _ h=>h⟩,fun a w gG O hS hd=>Ck rfl (O.ext1 19 (hd 3 rfl rfl)) rfl rfl rfl rfl ⟨gG,hS,A6 rfl rfl,fun _ _ _ h=>h⟩,fun a w gG O hS hd=>Ck rfl (O.ext1 19 (hd 3 rfl rfl)) rfl rfl rfl rfl ⟨gG,hS,A6 rfl rfl,fun _ _ _ h=>h⟩,fun a w gG O hS hd=>Ck rfl (O.ext1 19 (hd 3 rfl rfl)) rfl rfl rfl rfl ⟨gG,hS,A6 rfl rfl,fun _ _ _ h=>h⟩,fun a w gG O hS hd=>Ck rfl (O.ext1 19 (hd 3 rfl rfl)) rfl rfl rfl rfl ⟨gG,hS,A6 rfl rfl,fun _ _ _ h=>h⟩,fun a w gG O hS hd=>Ck rfl (O.ext1 19 (hd 3 rfl rfl)) rfl rfl rfl rfl ⟨gG,hS,A6 rfl rfl,fun _ _ _ h=>h⟩,fun a w gG O hS hd=>Ck rfl (O.ext1 19 (hd 3 rfl rfl)) rfl rfl rfl rfl ⟨gG,hS,A6 rfl rfl,fun _ _ _ h=>h⟩,fun a w gG O hS hd=>Ck rfl (O.ext1 19 (hd 3 rfl rfl)) rfl rfl rfl rfl ⟨gG,hS,A6 rfl rfl,fun _ _ _ h=>h⟩,trivial⟩ ?_;intro a w' L O hS hq;have J:=hS.mem rfl;have O:=O.ext1 16 (hq 0 rfl rfl);have O:=O.ext1 17 (hq 1 rfl rfl);have O:=O.ext1 18 (hq 2 rfl rfl);have O:=O.ext1 19 (hq 3 rfl rfl);have O:=O.ext1 20 (hq 4 rfl rfl);have O:=O.ext1 21 (hq 5 rfl rfl);have O:=O.ext1 22 (hq 6 rfl rfl);have O:=O.ext1 23 (hq 7 rfl rfl);have O:=O.ext1 24 (hq 8 rfl rfl);have O:=O.ext1 25 (hq 9 rfl rfl);have O:=O.ext1 26 (hq 10 rfl rfl);have O:=O.ext1 27 (hq 11 rfl rfl);have O:=O.ext1 28 (hq 12 rfl rfl);change MemX [b1] w w' [some (b1,BV cs1 nn D2)] [] at J;change wpList Try.prog _ _ [_,_] _ _;refine A4 O rfl rfl rfl rfl rfl fun a O=>st O (Ai O rfl rfl) rfl fun a O=>nt<|CN O rfl<|wp_exit<|tX<|tX<|AW<|iN<|tN<|wp_region_lit<|mv O rfl rfl fun a O=>st O (Ac O rfl rfl (AN (gi+1) (1) (by omega))) rfl fun a O=>ag O rfl rfl fun a O=>nt<|⟨gi+1,⟨by omega,D2,⟨AscBut.done hinv2.1 (by first | exact .inl (by omega) | exact .inr (by omega)),hinv2.2⟩,O.sub _ (by repeat' constructor),?_⟩,by omega⟩;exact J
  obtain rfl:(nn - 1)=gi:=by omega
  refine wp_exit<|tX<|tX<|AW<|Mj rfl O.defers ⟨_,rfl,J.bel,?_⟩;exact ⟨rfl,D1,J.row 0 rfl,by have h9:=hH.1;rwa [show nn - 1+1=nn by omega] at h9,hH.2⟩
theorem wrap_u64 {x:Int}(h1:0<=x)(h2:x<18446744073709551616):IntKind.u64.wrap x=x:=by
  unfold IntKind.wrap IntKind.bits IntKind.signed
  simp
  omega
theorem MD (n:Nat)(w:World)(h:n<=1000):CallsR Try.prog 84 #[.int .u64 (n:Int)] w (fun v _=>∃ l:Int,v = .int .i64 l):=
  (Try.bits_Len (n:Int) w (by omega) (by omega)).mono fun e w' ⟨he,hw⟩=>⟨_,he,hw ▸ Ext.refl _,_,rfl⟩
theorem Lp (b1 c1 nn:Nat)(cs1:Array Value)(ls:Nat->Nat)(lim:Int)(w:World)(hnn:0<nn)(hnn2:nn<=12)(hU:nn<=cs1.size)(hb:Blk w b1 (BV cs1 nn ls)) :
    CallsX Try.prog [b1] 83 #[.slice (some ⟨b1,0,none⟩) nn c1,.int .i64 (0),.int .i64 (nn:Int),.int .i64 (lim)] w (fun v w'=>v = .tuple #[]/\∃ D,Blk w' b1 (BV cs1 nn D)/\Asc nn D/\SameSet nn D ls):=by
  refine B0 [.slice (some ⟨b1,0,none⟩) nn c1,.int .i64 (0),.int .i64 (nn:Int),.int .i64 (lim)] Try.func83 rfl Try.ntmps83 rfl fun a O=>?_;have J:MemX [b1] w w [some (b1,BV cs1 nn ls)] []:=MemX.startX1 0 hb;change Fr 134 a [(0,.slice (some ⟨b1,0,none⟩) nn c1),(1,.int .i64 (0)),(2,.int .i64 (nn:Int)),(3,.int .i64 (lim))] at O;refine sr<|ag O rfl rfl fun a O=>ns<|ag O rfl rfl fun a O=>nt<|wp_block<|wp_loop_rounds 1<|Sj<|wp_block<|sr<|mv O rfl rfl fun a O=>mv O rfl rfl fun a O=>st O (CY O rfl rfl (show _=(nn:Int) from (by rw [wrap_i64]<;>omega))) rfl fun a O=>ag O rfl rfl fun a O=>nt<|sq<|sr<|mv O rfl rfl fun a O=>st O (Ow O rfl rfl) rfl fun a O=>nt<|AI O rfl (fun h1=>?_) (fun h1=>?_)
  . refine sq ?_
    refine wp_region_lit<|mv O rfl rfl fun a O=>mv O rfl rfl fun a O=>mv O rfl rfl fun a O=>Aj O (Am Try.call85 O (.cons rfl (.cons rfl (.cons rfl .nil))) (Gv b1 c1 nn cs1 ls _ hnn hnn2 hU (J.row 0 rfl))) rfl ?_;rintro _ w' a ⟨hx,rfl,D4,hbk,hA4,hS4⟩ O;have J:=J.upd 0 rfl hx hbk;change MemX _ _ _ [_] [] at J;refine nt<|wp_ret<|tR<|iR<|tR<|iR<|RU rfl O.defers ⟨_,rfl,J.bel,?_⟩;exact ⟨rfl,D4,J.row 0 rfl,hA4,hS4⟩
  exfalso;omega
theorem Pa (b1 c1 nn:Nat)(cs1:Array Value)(ls:Nat->Nat)(w:World)(hnn:0<nn)(hnn2:nn<=12)(hU:nn<=cs1.size)(hb:Blk w b1 (BV cs1 nn ls)) :
    CallsX Try.prog [b1] 76 #[.slice (some ⟨b1,0,none⟩) nn c1] w (fun v w'=>v = .tuple #[]/\∃ D,Blk w' b1 (BV cs1 nn D)/\Asc nn D/\SameSet nn D ls):=by
  refine B0 [.slice (some ⟨b1,0,none⟩) nn c1] Try.func76 rfl Try.ntmps76 rfl fun a O=>?_;have J:MemX [b1] w w [some (b1,BV cs1 nn ls)] []:=MemX.startX1 0 hb;change Fr 11 a [(0,.slice (some ⟨b1,0,none⟩) nn c1)] at O;refine sr<|mv O rfl rfl fun a O=>st O (BY A7 O rfl) rfl fun a O=>ag O rfl rfl fun a O=>nt<|wp_region_lit<|mv O rfl rfl fun a O=>mv O rfl rfl fun a O=>mv O rfl rfl fun a O=>st O (BO Ns JU O rfl (wrap_u64 (by omega) (by omega))) rfl fun a O=>Aj O (AO Try.call84 O (.cons rfl .nil) (MD (nn) _ (by omega))) rfl ?_;rintro _ w' a ⟨hx,lim,rfl⟩ O;have J:=J.ext hx;refine Aj O (Am Try.call83 O (.cons rfl (.cons rfl (.cons rfl (.cons rfl .nil)))) (Lp b1 c1 nn cs1 ls lim _ hnn hnn2 hU (J.row 0 rfl))) rfl ?_;rintro _ w' a ⟨hx,rfl,D4,hbk,hA4,hS4⟩ O;have J:=J.upd 0 rfl hx hbk;change MemX _ _ _ [_] [] at J;refine wpList_nil<|Mj rfl O.defers ⟨_,rfl,J.bel,?_⟩;exact ⟨rfl,D4,J.row 0 rfl,hA4,hS4⟩
end Go.Proofs.Ytgioobkkkicfeaa
