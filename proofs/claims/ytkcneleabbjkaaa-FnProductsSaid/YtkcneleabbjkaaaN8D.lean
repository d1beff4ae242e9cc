import Derived.Test.YtkcneleabbjkaaaN2
import Derived.Test.YtkcneleabbjkaaaSw75
set_option linter.unusedVariables false
set_option linter.unusedSimpArgs false
namespace Go.Proofs.Ytkcneleabbjkaaa
open Go Go.RowKit Go.Sw Go.Ech
open Classical
def pmVT:List (List Nat):=[[0,1,2,3,4,5],[1,0,4,5,2,3],[2,3,0,1,5,4],[3,2,5,4,0,1],[4,5,1,0,3,2],[5,4,3,2,1,0]]
def pmV (i j:Nat):Nat:=(pmVT.getD i []).getD j 0
theorem Jc {i j:Nat}(hi:i<6)(hj:j<6):pmV i j<6:=by
  have h:∀ i,i<6→∀ j,j<6→pmV i j<6:=by decide
  exact h i hi j hj
theorem IP {i j:Nat}(hi:i<6)(hj:j<6):∀ d,d<3→pmL i (pmL j d)=pmL (pmV i j) d:=by
  have h:∀ i,i<6→∀ j,j<6→∀ d,d<3→pmL i (pmL j d)=pmL (pmV i j) d:=by decide
  exact h i hi j hj
theorem IQ {i d:Nat}(hi:i<6)(hd:d<3):pmL i d<3:=by
  have h:∀ i,i<6→∀ d,d<3→pmL i d<3:=by decide
  exact h i hi d hd
theorem Mv {k q:Nat}(hk:k<6)(hq:q<6)(h:∀ c,c<3→pmL k c=pmL q c):k=q:=by
  have h2:∀ k,k<6→∀ q,q<6→(∀ c,c<3→pmL k c=pmL q c)→k=q:=by decide
  exact h2 k hk q hq h
end Go.Proofs.Ytkcneleabbjkaaa
namespace Go.Proofs.Ytkcneleabbjkaaa
open Go Go.RowKit Go.Sw Go.Ech
open Classical
def sqT:List (List Nat):=[[1,0,0,0],[0,1,0,0],[0,0,1,0],[0,0,0,1]]
def OA (i k:Nat):Nat:=(sqT.getD i []).getD k 0
def NA (v:Nat→Nat):Array Value:=Ag 4 (fun c=>.int .u8 (v c:Int))
def sq4C:Array Value:=Ag 16 (fun c=>.int .u8 (OA (c / 4) (c%4):Int))
def NE (q c:Nat):Nat:=if q=0 then 0 else OA (q - 1) c
theorem AG (v:Nat→Nat):(NA v).size=4:=Bp _ _
theorem AB:sq4C.size=16:=Bp _ _
def NK (f g:Nat→Nat) (c:Nat):Nat:=f (c / 2*2)*g (c%2)+f (c / 2*2+1)*g (2+c%2)
def sqQT:List (List Nat):=[[1,2,0,0],[0,0,1,2],[3,4,0,0],[0,0,3,4]]
def sqQ (i j:Nat):Nat:=(sqQT.getD i []).getD j 0
def Ky (i j:Nat):Int:=(sqQ i j:Int) - 1
theorem Mt {i j:Nat}(hi:i<4)(hj:j<4):sqQ i j<5:=by
  have h:∀ i,i<4→∀ j,j<4→sqQ i j<5:=by decide
  exact h i hi j hj
def OU:Array MapEntry:=#[{ key:=.agg (NA (NE 0)),val:=.int .i64 (((0:Nat):Int) - 1),born:=0 },{ key:=.agg (NA (NE 1)),val:=.int .i64 (((1:Nat):Int) - 1),born:=1 },{ key:=.agg (NA (NE 2)),val:=.int .i64 (((2:Nat):Int) - 1),born:=2 },{ key:=.agg (NA (NE 3)),val:=.int .i64 (((3:Nat):Int) - 1),born:=3 },{ key:=.agg (NA (NE 4)),val:=.int .i64 (((4:Nat):Int) - 1),born:=4 }]
end Go.Proofs.Ytkcneleabbjkaaa
namespace Go.Proofs.Ytkcneleabbjkaaa
open Go Go.RowKit Go.Sw Go.Ech
open Classical
end Go.Proofs.Ytkcneleabbjkaaa
namespace Go.Proofs.Ytkcneleabbjkaaa
open Go Go.RowKit Go.Sw Go.Ech
open Classical
def O8 (f g:Nat→Nat) (r c d:Nat):Nat:=if d<r*2+c then NK f g d else 0
end Go.Proofs.Ytkcneleabbjkaaa
namespace Go.Proofs.Ytkcneleabbjkaaa
open Go Go.RowKit Go.Sw Go.Ech
open Classical
def Lp (i j:Nat):Int:=(pmV i j:Int)
end Go.Proofs.Ytkcneleabbjkaaa
namespace Go.Proofs.Ytkcneleabbjkaaa
open Go Go.RowKit Go.Sw Go.Ech
open Classical
def Et (v:Nat→Nat):Array Value:=Ag 3 (fun c=>.int .i64 (v c:Int))
def pm6I:Array Value:=Ag 18 (fun c=>.int .i64 (pmL (c / 3) (c%3):Int))
theorem AF (v:Nat→Nat):(Et v).size=3:=Bp _ _
theorem AA:pm6I.size=18:=Bp _ _
theorem G6 {o e:Nat}(k:Nat)(ho:o=k*3)(he:e=o+3)(hk:k<6):pm6I.extract o e=Et (pmL k):=by
  subst ho;exact Cg he (by rw [AA];omega) fun c hc=>by
    unfold pm6I
    rw [CW (by omega),show (k*3+c) / 3=k by omega,show (k*3+c)%3=c by omega]
theorem EY {v:Nat→Nat}{o:Nat}(c:Nat)(ho:o=c)(hc:c<3):(Et v)[o]? = some (.int .i64 (v c:Int)):=by
  subst ho;exact CW hc
theorem Mh {a b c:Nat}{v:Nat→Nat}(h0:a=v 0)(h1:b=v 1)(h2:c=v 2):#[Value.int .i64 (a:Int),.int .i64 (b:Int),.int .i64 (c:Int)]=Et v:=by
  subst h0 h1 h2;rfl
theorem NC {k q:Nat}(hk:k<6)(hq:q<6)(h:∀ i,i<3→(pmL k i:Int)=(pmL q i:Int)):k=q:=Mv hk hq fun c hc=>Int.ofNat.inj (h c hc)
end Go.Proofs.Ytkcneleabbjkaaa
namespace Go.Proofs.Ytkcneleabbjkaaa
open Go Go.RowKit Go.Sw Go.Ech
open Classical
theorem IL:∀ w,(Instr.build 145 #[(0,.int .i64 (0)),(1,.int .i64 (1)),(2,.int .i64 (2))]).run Try.prog w = .ok (.agg (Et (pmL 0))) w:=by intros;kernel_rfl
theorem IK:∀ w,(Instr.build 145 #[(0,.int .i64 (0)),(1,.int .i64 (2)),(2,.int .i64 (1))]).run Try.prog w = .ok (.agg (Et (pmL 1))) w:=by intros;kernel_rfl
theorem IJ:∀ w,(Instr.build 145 #[(0,.int .i64 (1)),(1,.int .i64 (0)),(2,.int .i64 (2))]).run Try.prog w = .ok (.agg (Et (pmL 2))) w:=by intros;kernel_rfl
theorem II:∀ w,(Instr.build 145 #[(0,.int .i64 (1)),(1,.int .i64 (2)),(2,.int .i64 (0))]).run Try.prog w = .ok (.agg (Et (pmL 3))) w:=by intros;kernel_rfl
theorem IH:∀ w,(Instr.build 145 #[(0,.int .i64 (2)),(1,.int .i64 (0)),(2,.int .i64 (1))]).run Try.prog w = .ok (.agg (Et (pmL 4))) w:=by intros;kernel_rfl
theorem IG:∀ w,(Instr.build 145 #[(0,.int .i64 (2)),(1,.int .i64 (1)),(2,.int .i64 (0))]).run Try.prog w = .ok (.agg (Et (pmL 5))) w:=by intros;kernel_rfl
theorem JW:∀ w,(Instr.build 146 #[(0,.agg (Et (pmL 0))),(1,.agg (Et (pmL 1))),(2,.agg (Et (pmL 2))),(3,.agg (Et (pmL 3))),(4,.agg (Et (pmL 4))),(5,.agg (Et (pmL 5)))]).run Try.prog w = .ok (.agg (pm6I)) w:=by intros;kernel_rfl
theorem KM:FS Try.prog 146=some (.agg (Ag 18 (fun _=>.int .i64 (0)))):=by kernel_rfl
theorem KP:DO Try.prog 146=some 18:=by kernel_rfl
theorem Fy:FS Try.prog 145=some (.agg (Ag 3 (fun _=>.int .i64 (0)))):=by kernel_rfl
theorem F4:Fm Try.prog 146=some (6,3):=by kernel_rfl
theorem Ev:GS Try.prog 145=some 3:=by kernel_rfl
theorem F0:DO Try.prog 145=some 3:=by kernel_rfl
theorem Dc:Fm Try.prog 145=some (3,1):=by kernel_rfl
theorem IF:∀ (x y z:Int) w,(Instr.build 145 #[(0,.int .i64 x),(1,.int .i64 y),(2,.int .i64 z)]).run Try.prog w = .ok (.agg #[.int .i64 x,.int .i64 y,.int .i64 z]) w:=by intros;kernel_rfl
theorem KS:Ks Try.prog 145=some (3,2,1):=by kernel_rfl
theorem Lu:Ko Try.prog 2=true:=by kernel_rfl
theorem KQ:Try.prog.eqGuardType Try.prog.depth 145=false:=by kernel_rfl
theorem G9 (i j:Nat)(w:World)(hi:i<6)(hj:j<6) :
    CallsR Try.prog 174 #[.int .i64 (i:Int),.int .i64 (j:Int)] w (fun res _=>res = .int .i64 (pmV i j:Int)):=by
  refine Ak [.int .i64 (i:Int),.int .i64 (j:Int)] Try.func174 rfl Try.ntmps174 rfl fun a hF=>?_;have hM:Af w w [none,none,none,none] []:=MemX.start w 4;change Fr 46 a [(0,.int .i64 (i:Int)),(1,.int .i64 (j:Int))] at hF;have hpl:=@IQ;have hq6:=Jc hi hj;have l0:=IQ hj (show 0<3 by omega);have l1:=IQ hj (show 1<3 by omega);have l2:=IQ hj (show 2<3 by omega);refine sr<|ag hF rfl rfl fun a hF=>ns<|st hF (Bv hF (FO hF rfl rfl rfl) IL) rfl fun a hF=>st hF (Bv hF (FO hF rfl rfl rfl) IK) rfl fun a hF=>st hF (Bv hF (FO hF rfl rfl rfl) IJ) rfl fun a hF=>st hF (Bv hF (FO hF rfl rfl rfl) II) rfl fun a hF=>st hF (Bv hF (FO hF rfl rfl rfl) IH) rfl fun a hF=>st hF (Bv hF (FO hF rfl rfl rfl) IG) rfl fun a hF=>st hF (Bv hF (Ju hF rfl rfl rfl rfl rfl rfl) JW) rfl fun a hF=>Am hF (AW 0 hM KM) rfl ?_;rintro _ w' a ⟨b1,rfl,hM,-⟩ hF;change Af w w' [some (b1,Ag 18 (fun _=>.int .i64 (0))),none,none,none] [] at hM;refine A8 hF (AO 0 hM rfl KP hF rfl rfl (AV fun _ _=>rfl) (by simp only [AR,AD,AH,AC,AG,AB,AF,AA]) (by simp only [AR,AD,AH,AC,AG,AB,AF,AA]<;>omega) (AL _ _ rfl)) ?_;intro _ w' a hM hF;change Af w w' [some (b1,pm6I),none,none,none] [] at hM;refine nt<|sq<|ER (S:=Ij [] w [] [1,2] [some (b1,pm6I),none,none,none] 1 (Ag 3 (fun _=>.int .i64 (0))) (Et (pmL (i)))) 9 8 Bc rfl rfl rfl hF rfl (fun j o hj hne=>Bk (s:=8) (i:=0) rfl j o hj (by omega)) [some (b1,pm6I),none,none,none] ⟨⟨hM,Same.refl _ _⟩,fun b cs h=>by simp at h⟩ (fun b g w h=>⟨⟨h.1.1.ext (Below.drew (Below.refl _ _)),h.1.2⟩,h.2⟩) (C1 1 [.val (.int .i64 (i:Int)),.val (ptr b1 (0+(i)*3)),.val (.agg (Et (pmL (i)))),.val (.int .i64 (j:Int)),.val (ptr b1 (0+(j)*3)),.val (.agg (Et (pmL (j)))),.own 1 (Ag 3 (fun _=>.int .i64 (0))) (fun b=>ptr b 0),.own 2 (Ag 3 (fun _=>.int .i64 (0))) (fun b=>ptr b 0),.val undef]) ⟨fun a w2 fB gE hF hS hb hd=>by exact GC hS rfl (At hF rfl),fun a w2 fB gE hF hS hb hd=>by have hF:=hF.ext1 17 (hd 0 rfl rfl rfl);exact GC hS rfl (AS F4 hF rfl rfl rfl (by omega)),fun a w2 fB gE hF hS hb hd=>by have hF:=hF.ext1 18 (hd 1 rfl rfl rfl);have hM:=hS.1.mem rfl;exact GC hS rfl (AK Ev hF rfl (hM.row 0 rfl) (by simp only [AR,AD,AH,AC,AG,AB,AF,AA]<;>omega) (G6 (i) (by omega) (by omega) (by omega))),fun a w2 fB gE hF hS hb hd=>by exact GC hS rfl (At hF rfl),fun a w2 fB gE hF hS hb hd=>by have hF:=hF.ext1 20 (hd 3 rfl rfl rfl);exact GC hS rfl (AS F4 hF rfl rfl rfl (by omega)),fun a w2 fB gE hF hS hb hd=>by have hF:=hF.ext1 21 (hd 4 rfl rfl rfl);have hM:=hS.1.mem rfl;exact GC hS rfl (AK Ev hF rfl (hM.row 0 rfl) (by simp only [AR,AD,AH,AC,AG,AB,AF,AA]<;>omega) (G6 (j) (by omega) (by omega) (by omega))),fun a w2 fB gE hF hS hb hd=>by obtain rfl:=hb rfl;exact Mw hS rfl rfl rfl rfl (AW 1 hS.1.1 Fy),fun a w2 fB gE hF hS hb hd=>by exact Lz hS rfl rfl rfl rfl rfl (AW 2 hS.1.1 Fy),fun a w2 gE hF hS hd=>by have hF:=hF.ext1 19 (hd 2 rfl rfl rfl);exact LE (ia:=6) hS rfl rfl rfl (hd 6 rfl rfl rfl) (fun b hptr hM hL=>by have hF:=hF.ext1 6 hptr;exact AO 1 hM hL F0 hF rfl rfl (AV fun _ _=>rfl) (by simp only [AR,AD,AH,AC,AG,AB,AF,AA]) (by simp only [AR,AD,AH,AC,AG,AB,AF,AA]<;>omega) (AL _ _ rfl)),trivial⟩ ?_
  intro a w' L hF hS hq;have hF:=hF.ext1 17 (hq 0 rfl rfl rfl);have hF:=hF.ext1 18 (hq 1 rfl rfl rfl);have hF:=hF.ext1 19 (hq 2 rfl rfl rfl);have hF:=hF.ext1 20 (hq 3 rfl rfl rfl);have hF:=hF.ext1 21 (hq 4 rfl rfl rfl);have hF:=hF.ext1 22 (hq 5 rfl rfl rfl);obtain ⟨b2,cs3,hptr,hkk⟩:=hq 6 rfl rfl rfl;obtain rfl:cs3=Et (pmL (i)):=hS.2 _ _ hkk;have hF:=hF.ext1 6 hptr;obtain ⟨⟨hM,hL⟩,-⟩:=hS;have hL:=hL.take hkk;obtain ⟨b4,hptr2,hkk2⟩:=hq 7 rfl rfl rfl;have hF:=hF.ext1 7 hptr2;have hL:=hL.take hkk2;obtain rfl:=hL.eq;change Af w w' [some (b1,pm6I),some (b2,Et (pmL (i))),some (b4,Ag 3 (fun _=>.int .i64 (0))),none] [] at hM;change wpList Try.prog _ _ [_] _ _;refine A8 hF (AO 2 hM rfl F0 hF rfl rfl (AV fun _ _=>rfl) (by simp only [AR,AD,AH,AC,AG,AB,AF,AA]) (by simp only [AR,AD,AH,AC,AG,AB,AF,AA]<;>omega) (AL _ _ rfl)) ?_;intro _ w' a hM hF;change Af w w' [some (b1,pm6I),some (b2,Et (pmL (i))),some (b4,Et (pmL (j))),none] [] at hM;refine nt<|sq<|BY 14 [3] [.val (ptr b4 (0+(0)*1)),.val (.int .i64 ((((pmL (j)) (0):Nat):Int))),.val (ptr b2 (0+((pmL (j)) (0))*1)),.val (.int .i64 ((((pmL (i)) ((pmL (j)) (0)):Nat):Int))),.val (ptr b4 (0+(1)*1)),.val (.int .i64 ((((pmL (j)) (1):Nat):Int))),.val (ptr b2 (0+((pmL (j)) (1))*1)),.val (.int .i64 ((((pmL (i)) ((pmL (j)) (1)):Nat):Int))),.val (ptr b4 (0+(2)*1)),.val (.int .i64 ((((pmL (j)) (2):Nat):Int))),.val (ptr b2 (0+((pmL (j)) (2))*1)),.val (.int .i64 ((((pmL (i)) ((pmL (j)) (2)):Nat):Int))),.val (.agg (Et (pmL (pmV i j)))),.own 3 (Ag 3 (fun _=>.int .i64 (0))) (fun b=>ptr b 0)] Bc rfl hF rfl hM ⟨fun a w gG hF hS hd=>by exact AM hS rfl (AS (i:=0) Dc hF rfl rfl rfl (by omega)),fun a w gG hF hS hd=>by have hF:=hF.ext1 23 (hd 0 rfl rfl);have hM:=hS.mem rfl;exact AM hS rfl (AZ Ae hF rfl (hM.row 2 rfl) (EY (0) (by omega) (by omega))),fun a w gG hF hS hd=>by have hF:=hF.ext1 24 (hd 1 rfl rfl);exact AM hS rfl (AS Dc hF rfl rfl rfl (by omega)),fun a w gG hF hS hd=>by have hF:=hF.ext1 25 (hd 2 rfl rfl);have hM:=hS.mem rfl;exact AM hS rfl (AZ Ae hF rfl (hM.row 1 rfl) (EY ((pmL (j)) (0)) (by omega) (by omega))),fun a w gG hF hS hd=>by exact AM hS rfl (AS (i:=1) Dc hF rfl rfl rfl (by omega)),fun a w gG hF hS hd=>by have hF:=hF.ext1 27 (hd 4 rfl rfl);have hM:=hS.mem rfl;exact AM hS rfl (AZ Ae hF rfl (hM.row 2 rfl) (EY (1) (by omega) (by omega))),fun a w gG hF hS hd=>by have hF:=hF.ext1 28 (hd 5 rfl rfl);exact AM hS rfl (AS Dc hF rfl rfl rfl (by omega)),fun a w gG hF hS hd=>by have hF:=hF.ext1 29 (hd 6 rfl rfl);have hM:=hS.mem rfl;exact AM hS rfl (AZ Ae hF rfl (hM.row 1 rfl) (EY ((pmL (j)) (1)) (by omega) (by omega))),fun a w gG hF hS hd=>by exact AM hS rfl (AS (i:=2) Dc hF rfl rfl rfl (by omega)),fun a w gG hF hS hd=>by have hF:=hF.ext1 31 (hd 8 rfl rfl);have hM:=hS.mem rfl;exact AM hS rfl (AZ Ae hF rfl (hM.row 2 rfl) (EY (2) (by omega) (by omega))),fun a w gG hF hS hd=>by have hF:=hF.ext1 32 (hd 9 rfl rfl);exact AM hS rfl (AS Dc hF rfl rfl rfl (by omega)),fun a w gG hF hS hd=>by have hF:=hF.ext1 33 (hd 10 rfl rfl);have hM:=hS.mem rfl;exact AM hS rfl (AZ Ae hF rfl (hM.row 1 rfl) (EY ((pmL (j)) (2)) (by omega) (by omega))),fun a w gG hF hS hd=>by have hF:=hF.ext1 26 (hd 3 rfl rfl);have hF:=hF.ext1 30 (hd 7 rfl rfl);have hF:=hF.ext1 34 (hd 11 rfl rfl);exact AM hS rfl (Bv hF (FO hF rfl rfl rfl) (fun w=>(IF _ _ _ w).trans (congrArg (fun c=>Result.ok (Value.agg c) w) (Mh (v:=pmL (pmV i j)) (IP hi hj 0 (by omega)) (IP hi hj 1 (by omega)) (IP hi hj 2 (by omega)))))),fun a w gG hF hS hd=>by exact Ds (by repeat constructor) hS rfl rfl rfl rfl (AW 3 hS.1 Fy),trivial⟩ ?_
  intro a w' L hF hS hq;have hF:=hF.ext1 23 (hq 0 rfl rfl);have hF:=hF.ext1 24 (hq 1 rfl rfl);have hF:=hF.ext1 25 (hq 2 rfl rfl);have hF:=hF.ext1 26 (hq 3 rfl rfl);have hF:=hF.ext1 27 (hq 4 rfl rfl);have hF:=hF.ext1 28 (hq 5 rfl rfl);have hF:=hF.ext1 29 (hq 6 rfl rfl);have hF:=hF.ext1 30 (hq 7 rfl rfl);have hF:=hF.ext1 31 (hq 8 rfl rfl);have hF:=hF.ext1 32 (hq 9 rfl rfl);have hF:=hF.ext1 33 (hq 10 rfl rfl);have hF:=hF.ext1 34 (hq 11 rfl rfl);have hF:=hF.ext1 35 (hq 12 rfl rfl);obtain ⟨hM,hL⟩:=hS;obtain ⟨b5,hptr,hkk⟩:=hq 13 rfl rfl;have hF:=hF.ext1 8 hptr;have hL:=hL.take hkk;obtain rfl:=hL.eq;change Af w w' [some (b1,pm6I),some (b2,Et (pmL (i))),some (b4,Et (pmL (j))),some (b5,Ag 3 (fun _=>.int .i64 (0)))] [] at hM;change wpList Try.prog _ _ [_] _ _;refine A8 hF (AO 3 hM rfl F0 hF rfl rfl (AV fun _ _=>rfl) (by simp only [AR,AD,AH,AC,AG,AB,AF,AA]) (by simp only [AR,AD,AH,AC,AG,AB,AF,AA]<;>omega) (AL _ _ rfl)) ?_;intro _ w' a hM hF;refine nt<|sq<|sr<|ag hF rfl rfl fun a hF=>nt<|wp_block ?_;change Af w _ [some (b1,pm6I),some (b2,Et (pmL (i))),some (b4,Et (pmL (j))),some (b5,Et (pmL (pmV i j)))] [] at hM;refine Az (fun (kk:Nat) a w'=>kk≤6∧(∀ k,k<kk→k≠pmV i j)∧Fr 46 a [(8,ptr b5 (0)),(5,ptr b1 (0)),(9,.int .i64 (kk:Int))]∧Af w w' [some (b1,pm6I),some (b2,Et (pmL (i))),some (b4,Et (pmL (j))),some (b5,Et (pmL (pmV i j)))] []) (fun kk=>6 - kk) 0 ?_ ?_
  · refine ⟨by omega,fun k hk=>absurd hk (by omega),hF.sub _ (by repeat' constructor),?_⟩
    exact hM
  clear hF hM;rintro gk a w' ⟨hgk,hinv1,hF,hM⟩;refine sq<|sr<|mv hF rfl rfl fun a hF=>st hF (A4 hF rfl rfl) rfl fun a hF=>nt<|Ad hF rfl (fun h6=>?_) (fun h6=>?_)
  · refine wp_skip ?_
    refine tN<|sq<|wp_block<|sq<|BY 4 [] [.val (.int .i64 (gk:Int)),.val (ptr b1 (0+(gk)*3)),.val (.agg (Et (pmL (gk)))),.val (.agg (Et (pmL (pmV i j))))] Bc rfl hF rfl hM ⟨fun a w gG hF hS hd=>by exact BP hS rfl hF rfl,fun a w gG hF hS hd=>by have hF:=hF.ext1 40 (hd 0 rfl rfl);exact AM hS rfl (AS F4 hF rfl rfl rfl (by omega)),fun a w gG hF hS hd=>by have hF:=hF.ext1 41 (hd 1 rfl rfl);have hM:=hS.mem rfl;exact AM hS rfl (AK Ev hF rfl (hM.row 0 rfl) (by simp only [AR,AD,AH,AC,AG,AB,AF,AA]<;>omega) (G6 (gk) (by omega) (by omega) (by omega))),fun a w gG hF hS hd=>by have hM:=hS.mem rfl;exact AM hS rfl (AK Ev hF rfl (hM.row 3 rfl) (by simp only [AR,AD,AH,AC,AG,AB,AF,AA]<;>omega) (HU _ _ rfl)),trivial⟩ ?_;intro a w' L hF hS hq;have hF:=hF.ext1 40 (hq 0 rfl rfl);have hF:=hF.ext1 41 (hq 1 rfl rfl);have hF:=hF.ext1 42 (hq 2 rfl rfl);have hF:=hF.ext1 43 (hq 3 rfl rfl);have hM:=hS.mem rfl;change wpList Try.prog _ _ [_] _ _;refine st hF (GJ KQ hF rfl rfl (H5 KS rfl Lu Ae (fun i hi=>EY i rfl hi) (fun i hi=>EY i rfl hi))) rfl fun a hF=>nt<|Ad hF rfl (fun h7=>?_) (fun h7=>?_)
    · refine sq ?_
      refine wp_region_lit<|mv hF rfl rfl fun a hF=>ag hF rfl rfl fun a hF=>nt<|wp_ret<|iR<|tR<|tR<|iR<|tR<|BC rfl hF.defers (Ab hF rfl) ⟨_,rfl,hM.below,?_⟩
      show _=_
      exact congrArg (fun q:Nat=>Value.int .i64 (q:Int)) (NC (by omega) hq6 (by assumption))
    refine wp_skip<|iN<|tN<|wp_region_lit<|mv hF rfl rfl fun a hF=>st hF (Ar hF rfl rfl (Aj (gk) (1) (by omega))) rfl fun a hF=>ag hF rfl rfl fun a hF=>nt<|⟨gk+1,⟨by omega,D6 hinv1 (fun e=>absurd (fun c _=>by rw [e]) (by assumption)),hF.sub _ (by repeat' constructor),?_⟩,by omega⟩;exact hM
  obtain rfl:6=gk:=by omega
  refine wp_exit<|tX<|tX<|Aq<|tN<|sr<|ag hF rfl rfl fun a hF=>nt<|wp_ret<|BC rfl hF.defers (Ab hF rfl) ⟨_,rfl,hM.below,?_⟩
  show _=_
  exact absurd rfl (hinv1 (pmV i j) hq6)
end Go.Proofs.Ytkcneleabbjkaaa
namespace Go.Proofs.Ytkcneleabbjkaaa
open Go Go.RowKit Go.Sw Go.Ech
open Classical
theorem FY {pl:Nat→Nat→Int}{n a b i j k q:Nat}(hb:b<n)(h:pl a b=(q:Int)):(if i=a∧j=b∧k=q then 1 else DB pl n a b i j k)=DB pl n a (b+1) i j k:=by
  rw [← L6 hb h]
  by_cases e:i=a∧j=b
  · rw [if_pos e]
    by_cases h2:k=q
    · rw [if_pos ⟨e.1,e.2,h2⟩,if_pos h2]
    · rw [if_neg (fun z=>h2 z.2.2),if_neg h2]
      obtain ⟨rfl,rfl⟩:=e
      unfold DB;rw [if_neg (by omega)]
  · rw [if_neg e,if_neg (fun z=>e ⟨z.1,z.2.1⟩)]
theorem LA {i j:Nat}(hi:i<4)(hj:j<4):Ky i j=if i%2=j / 2 then ((i / 2*2+j%2:Nat):Int) else -1:=by
  have h:∀ i,i<4→∀ j,j<4→Ky i j=if i%2=j / 2 then ((i / 2*2+j%2:Nat):Int) else -1:=by decide
  exact h i hi j hj
theorem EB {p n:Int}{T U:Nat→Nat→Nat→Nat}{f g:Nat→Nat}(h:∀ i,i<6→∀ j,j<6→∀ k,k<6→T i j k=U i j k)(hf:f=g):AJ p n T f=AJ p n U g:=by
  rw [hf];exact B2 h
end Go.Proofs.Ytkcneleabbjkaaa
