import Derived.Test.YtkcneleabbjkaaaK16
set_option linter.unusedVariables false
set_option linter.unusedSimpArgs false
namespace Go.Proofs.Ytkcneleabbjkaaa
open Go Go.RowKit Go.Sw Go.Ech
open Classical
theorem Ib {p n:Int}{T:Nat->Nat->Nat->Nat}{f g:Nat->Nat}{i o x:Nat}(ho:o=218+i)(hi:i<6)(hg:∀ j,j<6->g j=if j=i then x else f j):(AD p n T f).setIfInBounds o (.int .u8 (x:Int))=AD p n T g:=by
  subst ho
  unfold AD
  refine Bc fun j hj=>?_
  by_cases e:j=218+i
  . rw [if_pos e,if_neg (by omega),if_neg (by omega),if_neg (by omega),hg _ (by omega),if_pos (by omega)]
  . rw [if_neg e]
    by_cases h2:j<218
    . simp only [if_pos h2]
    . rw [if_neg (by omega),if_neg (by omega),if_neg h2,if_neg (by omega),if_neg (by omega),if_neg h2,hg _ (by omega),if_neg (by omega)]
theorem DH (p n:Int)(T:Nat->Nat->Nat->Nat)(f:Nat->Nat)(w:World)(hT:∀ i j k,T i j k<=255)(hf:∀ i,f i<=255)(hc:¬ Bn p n T f 0 (BU [])) :
    CallsR Try.prog 123 #[.agg (AD p n T f),.slice none 0 0] w (fun res _=>res = .int .i64 1):=by
  refine AV [.agg (AD p n T f),.slice none 0 0] Try.func123 rfl Try.ntmps123 rfl fun a O=>?_;have J:AX w w [none] []:=MemX.start w 1;change Fr 12 a [(0,.agg (AD p n T f)),(1,.slice none 0 0)] at O;refine sr<|Ae O (At 0 J O rfl) rfl ?_;rintro _ w' a ⟨b1,rfl,J,-⟩ O;change AX _ _ [some (b1,AD p n T f)] [] at J;refine ag O rfl rfl fun a O=>nt<|sq<|sr<|st O (AC AJ O rfl (J.row 0 rfl) (by simp only [AP]<;>omega) (whole AE)) rfl fun a O=>mv O rfl rfl fun a O=>Ae O (AN Try.call86 O (.cons rfl (.cons rfl .nil)) ((CallsR.val (Ek p n T f (BU []) _ (fun _ _ _=>hT _ _ _) (fun _=>hf _)) (congrArg Value.bool (decide_eq_false hc))))) rfl ?_;rintro _ w' a ⟨hx,rfl⟩ O;have J:=J.ext hx;refine st O (CI (b:=false) O rfl) rfl fun a O=>nt<|Hs O rfl<|sr<|ag O rfl rfl fun a O=>nt<|wp_ret<|tR<|Ax rfl O.defers (AM O rfl) ⟨_,rfl,J.below,?_⟩
  show _=_
  rfl
theorem DF (p n:Nat)(T:Nat->Nat->Nat->Nat)(f:Nat->Nat)(w:World)(hp:primeN p)(hn0:0<n)(hn:n<=6)(hH:∀ i j k,T i j k<p)(hf:∀ i,f i<=255)(hJ:¬ Ck p n T f)(hc:Bn (p:Int) (n:Int) T f 0 (BU [])) :
    CallsR Try.prog 123 #[.agg (AD (p:Int) (n:Int) T f),.slice none 0 0] w (fun res _=>res = .int .i64 5):=by
  refine AV [.agg (AD (p:Int) (n:Int) T f),.slice none 0 0] Try.func123 rfl Try.ntmps123 rfl fun a O=>?_;have J:AX w w [none] []:=MemX.start w 1;change Fr 12 a [(0,.agg (AD (p:Int) (n:Int) T f)),(1,.slice none 0 0)] at O;have hZ:=hp.two;have hO:=hp.le;have hT:∀ i j k,T i j k<=255:=fun i j k=>by have:=hH i j k;omega
  refine sr<|Ae O (At 0 J O rfl) rfl ?_;rintro _ w' a ⟨b1,rfl,J,-⟩ O;change AX _ _ [some (b1,AD (p:Int) (n:Int) T f)] [] at J;refine ag O rfl rfl fun a O=>nt<|sq<|sr<|st O (AC AJ O rfl (J.row 0 rfl) (by simp only [AP]<;>omega) (whole AE)) rfl fun a O=>mv O rfl rfl fun a O=>Ae O (AN Try.call86 O (.cons rfl (.cons rfl .nil)) ((CallsR.val (Ek (p:Int) (n:Int) T f (BU []) _ (fun _ _ _=>hT _ _ _) (fun _=>hf _)) (congrArg Value.bool (decide_eq_true hc))))) rfl ?_;rintro _ w' a ⟨hx,rfl⟩ O;have J:=J.ext hx;refine st O (CI (b:=true) O rfl) rfl fun a O=>nt<|DN O rfl<|wp_skip<|tN<|sq<|sr<|st O (AC AJ O rfl (J.row 0 rfl) (by simp only [AP]<;>omega) (whole AE)) rfl fun a O=>Ae O (AN Try.call114 O (.cons rfl .nil) ((CallsR.val (E3 p n T f _ hp hn0 hn (fun _ _ _=>hT _ _ _) (fun _=>hf _)) (congrArg Value.bool (decide_eq_false hJ))))) rfl ?_;rintro _ w' a ⟨hx,rfl⟩ O;have J:=J.ext hx;refine st O (CI (b:=false) O rfl) rfl fun a O=>nt<|Hs O rfl<|sr<|ag O rfl rfl fun a O=>nt<|wp_ret<|tR<|Ax rfl O.defers (AM O rfl) ⟨_,rfl,J.below,?_⟩
  show _=_
  rfl
theorem DD (p n:Nat)(T:Nat->Nat->Nat->Nat)(f:Nat->Nat)(w:World)(hp:primeN p)(hn0:0<n)(hn:n<=6)(hH:∀ i j k,T i j k<p)(hf:∀ i,f i<=255)(hJ:Ck p n T f)(hc:Bn (p:Int) (n:Int) T f 0 (BU [])) :
    CallsR Try.prog 123 #[.agg (AD (p:Int) (n:Int) T f),.slice none 0 0] w (fun res _=>res = .int .i64 0):=by
  refine AV [.agg (AD (p:Int) (n:Int) T f),.slice none 0 0] Try.func123 rfl Try.ntmps123 rfl fun a O=>?_;have J:AX w w [none] []:=MemX.start w 1;change Fr 12 a [(0,.agg (AD (p:Int) (n:Int) T f)),(1,.slice none 0 0)] at O;have hZ:=hp.two;have hO:=hp.le;have hT:∀ i j k,T i j k<=255:=fun i j k=>by have:=hH i j k;omega
  refine sr<|Ae O (At 0 J O rfl) rfl ?_;rintro _ w' a ⟨b1,rfl,J,-⟩ O;change AX _ _ [some (b1,AD (p:Int) (n:Int) T f)] [] at J;refine ag O rfl rfl fun a O=>nt<|sq<|sr<|st O (AC AJ O rfl (J.row 0 rfl) (by simp only [AP]<;>omega) (whole AE)) rfl fun a O=>mv O rfl rfl fun a O=>Ae O (AN Try.call86 O (.cons rfl (.cons rfl .nil)) ((CallsR.val (Ek (p:Int) (n:Int) T f (BU []) _ (fun _ _ _=>hT _ _ _) (fun _=>hf _)) (congrArg Value.bool (decide_eq_true hc))))) rfl ?_;rintro _ w' a ⟨hx,rfl⟩ O;have J:=J.ext hx;refine st O (CI (b:=true) O rfl) rfl fun a O=>nt<|DN O rfl<|wp_skip<|tN<|sq<|sr<|st O (AC AJ O rfl (J.row 0 rfl) (by simp only [AP]<;>omega) (whole AE)) rfl fun a O=>Ae O (AN Try.call114 O (.cons rfl .nil) ((CallsR.val (E3 p n T f _ hp hn0 hn (fun _ _ _=>hT _ _ _) (fun _=>hf _)) (congrArg Value.bool (decide_eq_true hJ))))) rfl ?_;rintro _ w' a ⟨hx,rfl⟩ O;have J:=J.ext hx;refine st O (CI (b:=true) O rfl) rfl fun a O=>nt<|DN O rfl<|wp_skip<|tN<|sr<|ag O rfl rfl fun a O=>nt<|wp_ret<|Ax rfl O.defers (AM O rfl) ⟨_,rfl,J.below,?_⟩
  show _=_
  rfl
theorem Fi (p n:Int)(T:Nat->Nat->Nat->Nat)(f:Nat->Nat)(w:World)(hT:∀ i j k,T i j k<=255)(hf:∀ i,f i<=255)(hc:¬ Bn p n T f 0 (BU [])) :
    CallsR Try.prog 126 #[.agg (AD p n T f),.slice none 0 0] w (fun res _=>res = .int .i64 1):=by
  refine AV [.agg (AD p n T f),.slice none 0 0] Try.func126 rfl Try.ntmps126 rfl fun a O=>?_;have J:AX w w [none] []:=MemX.start w 1;change Fr 14 a [(0,.agg (AD p n T f)),(1,.slice none 0 0)] at O;refine sr<|Ae O (At 0 J O rfl) rfl ?_;rintro _ w' a ⟨b1,rfl,J,-⟩ O;change AX _ _ [some (b1,AD p n T f)] [] at J;refine ag O rfl rfl fun a O=>nt<|sq<|wp_block<|sr<|st O (AC AJ O rfl (J.row 0 rfl) (by simp only [AP]<;>omega) (whole AE)) rfl fun a O=>mv O rfl rfl fun a O=>Ae O (AN Try.call88 O (.cons rfl (.cons rfl .nil)) ((CallsR.val (Gk p n T f (BU []) _ (fun _ _ _=>hT _ _ _) (fun _=>hf _)) (congrArg (Value.int .i64) (if_neg hc))))) rfl ?_;rintro _ w' a ⟨hx,rfl⟩ O;have J:=J.ext hx;refine st O (BY O rfl rfl) rfl fun a O=>ag O rfl rfl fun a O=>nt<|EU O rfl (by decide)<|sr<|ag O rfl rfl fun a O=>nt<|wp_ret<|iR<|tR<|Ax rfl O.defers (AM O rfl) ⟨_,rfl,J.below,?_⟩
  show _=_
  rfl
theorem Fh (p n:Nat)(T:Nat->Nat->Nat->Nat)(f:Nat->Nat)(w:World)(hp:primeN p)(hn0:0<n)(hn:n<=6)(hH:∀ i j k,T i j k<p)(hf:∀ i,f i<=255)(hJ:¬ Ck p n T f)(hc:Bn (p:Int) (n:Int) T f 0 (BU [])) :
    CallsR Try.prog 126 #[.agg (AD (p:Int) (n:Int) T f),.slice none 0 0] w (fun res _=>res = .int .i64 5):=by
  refine AV [.agg (AD (p:Int) (n:Int) T f),.slice none 0 0] Try.func126 rfl Try.ntmps126 rfl fun a O=>?_;have J:AX w w [none] []:=MemX.start w 1;change Fr 14 a [(0,.agg (AD (p:Int) (n:Int) T f)),(1,.slice none 0 0)] at O;have hZ:=hp.two;have hO:=hp.le;have hT:∀ i j k,T i j k<=255:=fun i j k=>by have:=hH i j k;omega
  refine sr<|Ae O (At 0 J O rfl) rfl ?_;rintro _ w' a ⟨b1,rfl,J,-⟩ O;change AX _ _ [some (b1,AD (p:Int) (n:Int) T f)] [] at J;refine ag O rfl rfl fun a O=>nt<|sq<|wp_block<|sr<|st O (AC AJ O rfl (J.row 0 rfl) (by simp only [AP]<;>omega) (whole AE)) rfl fun a O=>mv O rfl rfl fun a O=>Ae O (AN Try.call88 O (.cons rfl (.cons rfl .nil)) ((CallsR.val (Gk (p:Int) (n:Int) T f (BU []) _ (fun _ _ _=>hT _ _ _) (fun _=>hf _)) (congrArg (Value.int .i64) (if_pos hc))))) rfl ?_;rintro _ w' a ⟨hx,rfl⟩ O;have J:=J.ext hx;refine st O (BY O rfl rfl) rfl fun a O=>ag O rfl rfl fun a O=>nt<|HC O rfl (by decide)<|sr<|st O (AC AJ O rfl (J.row 0 rfl) (by simp only [AP]<;>omega) (whole AE)) rfl fun a O=>Ae O (AN Try.call121 O (.cons rfl .nil) ((CallsR.val (En p n T f _ hp hn0 hn (fun _ _ _=>hT _ _ _) (fun _=>hf _)) (congrArg Value.bool (decide_eq_false hJ))))) rfl ?_;rintro _ w' a ⟨hx,rfl⟩ O;have J:=J.ext hx;refine st O (CI (b:=false) O rfl) rfl fun a O=>ag O rfl rfl fun a O=>nt<|Hs O rfl<|sr<|ag O rfl rfl fun a O=>nt<|wp_ret<|iR<|tR<|Ax rfl O.defers (AM O rfl) ⟨_,rfl,J.below,?_⟩
  show _=_
  rfl
theorem Fg (p n:Nat)(T:Nat->Nat->Nat->Nat)(f:Nat->Nat)(w:World)(hp:primeN p)(hn0:0<n)(hn:n<=6)(hH:∀ i j k,T i j k<p)(hf:∀ i,f i<=255)(hJ:Ck p n T f)(hc:Bn (p:Int) (n:Int) T f 0 (BU [])) :
    CallsR Try.prog 126 #[.agg (AD (p:Int) (n:Int) T f),.slice none 0 0] w (fun res _=>res = .int .i64 0):=by
  refine AV [.agg (AD (p:Int) (n:Int) T f),.slice none 0 0] Try.func126 rfl Try.ntmps126 rfl fun a O=>?_;have J:AX w w [none] []:=MemX.start w 1;change Fr 14 a [(0,.agg (AD (p:Int) (n:Int) T f)),(1,.slice none 0 0)] at O;have hZ:=hp.two;have hO:=hp.le;have hT:∀ i j k,T i j k<=255:=fun i j k=>by have:=hH i j k;omega
  refine sr<|Ae O (At 0 J O rfl) rfl ?_;rintro _ w' a ⟨b1,rfl,J,-⟩ O;change AX _ _ [some (b1,AD (p:Int) (n:Int) T f)] [] at J;refine ag O rfl rfl fun a O=>nt<|sq<|wp_block<|sr<|st O (AC AJ O rfl (J.row 0 rfl) (by simp only [AP]<;>omega) (whole AE)) rfl fun a O=>mv O rfl rfl fun a O=>Ae O (AN Try.call88 O (.cons rfl (.cons rfl .nil)) ((CallsR.val (Gk (p:Int) (n:Int) T f (BU []) _ (fun _ _ _=>hT _ _ _) (fun _=>hf _)) (congrArg (Value.int .i64) (if_pos hc))))) rfl ?_;rintro _ w' a ⟨hx,rfl⟩ O;have J:=J.ext hx;refine st O (BY O rfl rfl) rfl fun a O=>ag O rfl rfl fun a O=>nt<|HC O rfl (by decide)<|sr<|st O (AC AJ O rfl (J.row 0 rfl) (by simp only [AP]<;>omega) (whole AE)) rfl fun a O=>Ae O (AN Try.call121 O (.cons rfl .nil) ((CallsR.val (En p n T f _ hp hn0 hn (fun _ _ _=>hT _ _ _) (fun _=>hf _)) (congrArg Value.bool (decide_eq_true hJ))))) rfl ?_;rintro _ w' a ⟨hx,rfl⟩ O;have J:=J.ext hx;refine st O (CI (b:=true) O rfl) rfl fun a O=>ag O rfl rfl fun a O=>nt<|DN O rfl<|wp_skip<|iN<|tN<|sr<|ag O rfl rfl fun a O=>nt<|wp_ret<|Ax rfl O.defers (AM O rfl) ⟨_,rfl,J.below,?_⟩
  show _=_
  rfl
end Go.Proofs.Ytkcneleabbjkaaa
