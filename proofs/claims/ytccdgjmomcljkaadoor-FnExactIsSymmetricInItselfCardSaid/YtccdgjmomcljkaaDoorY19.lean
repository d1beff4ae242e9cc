import Derived.Test.YtccdgjmomcljkaaDoorY18
import Derived.Test.YtccdgjmomcljkaaDoorSw47
import Derived.Test.YtccdgjmomcljkaaDoorSw56
set_option linter.unusedVariables false
set_option linter.unusedSimpArgs false
namespace Go.Proofs.YtccdgjmomcljkaaDoor
open Go Go.RowKit Go.Sw Go.Ech
open Classical
theorem l05Row_ok (n:Nat)(v:Nat→Nat)(w:World)(hn0:0<n)(hn:n≤6)(hv:∀ c,v c≤255) :
    CallsR Tryd.prog 46 #[.agg (vecC v),.int .i64 (n:Int)] w (fun u w'=>OwnSl 1 w n (fun c=>.int .i64 (v c:Int)) u w'):=by
  refine calls_fr [.agg (vecC v),.int .i64 (n:Int)] Tryd.func46 rfl Tryd.ntmps46 rfl fun a hF=>?_;have hM:Mem w w [none,none,none] []:=MemX.start w 3;change Fr 21 a [(0,.agg (vecC v)),(1,.int .i64 (n:Int))] at hF;refine sr<|stR hF (d_box 0 hM hF rfl) rfl ?_;rintro _ w' a ⟨b1,rfl,hM,-⟩ hF;refine ag hF rfl rfl fun a hF=>ns<|stR hF (d_buildC 1 hM hF rfl ty_bs0_44) rfl ?_;rintro _ w' a ⟨b2,rfl,hM,-⟩ hF;refine ag hF rfl rfl fun a hF=>nt<|sq<|sr<|ag hF rfl rfl fun a hF=>nt<|wp_block ?_;change Mem w _ [some (b1,vecC v),some (b2,#[]),none] [] at hM;refine c_loop (fun (kk:Nat) a w'=>kk≤n∧(True)∧∃ (u5_1:Value) (e5_1:Option (Nat×Array Value)),Sl 1 u5_1 e5_1 (kk) (fun c=>.int .i64 (v c:Int))∧Fr 21 a [(1,.int .i64 (n:Int)),(2,ptr b1 (0)),(4,.slice none 0 0),(6,.int .i64 (kk:Int)),(5,u5_1)]∧Mem w w' [some (b1,vecC v),e5_1,none] []) (fun kk=>n - kk) 0 ?_ ?_
  · refine ⟨by omega,trivial,(.slice (some ⟨b2,0,none⟩) 0 0),(some (b2,#[])),(Sl.empty 1 _ _),hF.sub _ (by repeat' constructor),?_⟩
    exact hM
  clear hF hM;rintro gi a w' ⟨hgi,hinv1,u5_1,e5_1,hsl,hF,hM⟩;have hvt:=hv gi;refine sq<|sr<|mv hF rfl rfl fun a hF=>mv hF rfl rfl fun a hF=>st hF (g_lss hF rfl rfl) rfl fun a hF=>nt<|c_cond hF rfl (fun h3=>?_) (fun h3=>?_)
  · refine wp_skip ?_
    refine tN<|sq<|wp_block<|wp_region_lit<|mv hF rfl rfl fun a hF=>mv hF rfl rfl fun a hF=>st hF (g_indexAddr ty_ar_30 hF rfl rfl rfl (by omega)) rfl fun a hF=>st hF (g_load ty_on_5 hF rfl (hM.row 0 rfl) (vecC_get (gi) (by omega) (by omega))) rfl fun a hF=>st hF (g_conv ty_un_2 ty_ud_5 hF rfl (wrap_i64 (by omega) (by omega))) rfl fun a hF=>stR hF (d_buildC 2 hM hF (build1 hF rfl) (ty_bs1_44 _)) rfl ?_;rintro _ w' a ⟨b4,rfl,hM,-⟩ hF;change Mem w w' [some (b1,vecC v),e5_1,some (b4,#[.int .i64 ((v (gi):Int))])] [] at hM;refine stR hF (d_append (k:=1) (m:=1) (g:=fun _=>.int .i64 ((v (gi):Int))) ty_si_44 rfl (by decide) hM rfl hF rfl rfl hsl (fun i hi=>by rw [show i=0 by omega];exact (hM.row 2 rfl).cell 0) (fun _ _=>rfl) (by decide) (by unfold maxLen;omega) (by omega)) rfl ?_;rintro u5 w' a ⟨e6,hM,hs7⟩ hF;change Mem w w' [some (b1,vecC v),e6,some (b4,#[.int .i64 ((v (gi):Int))])] [] at hM;refine ag hF rfl rfl fun a hF=>wpList_nil<|iN<|tN<|wp_region_lit<|mv hF rfl rfl fun a hF=>st hF (g_add hF rfl rfl (add_nat (gi) (1) (by omega))) rfl fun a hF=>ag hF rfl rfl fun a hF=>wpList_nil<|tN ?_;have hM:=hM.drop 2;refine ⟨gi+1,⟨by omega,trivial,(u5),(e6),(hs7.snoc rfl),hF.sub _ (by repeat' constructor),?_⟩,by omega⟩;exact hM
  obtain rfl:n=gi:=by omega
  refine wp_exit<|tX<|tX<|ib_same<|tN<|sr<|mv hF rfl rfl fun a hF=>ag hF rfl rfl fun a hF=>nt<|wp_ret<|fin1 rfl hF.defers (res_tmp hF rfl) ⟨_,rfl,hM.below,?_⟩;exact OwnSl.pos hM (k:=1) rfl (hsl) hn0
theorem l01Vectors_E (b0 c0:Nat)(w:World) :
    CallsR Tryd.prog 48 #[.slice (some ⟨b0,0,none⟩) 0 c0] w (fun u w'=>∃ b,u = .slice (some ⟨b,0,none⟩) 0 0∧w.heap.size≤b∧Blk w' b #[]):=by
  refine calls_fr [.slice (some ⟨b0,0,none⟩) 0 c0] Tryd.func48 rfl Tryd.ntmps48 rfl fun a hF=>?_;have hM:Mem w w [none,none,none] []:=MemX.start w 3;change Fr 39 a [(0,.slice (some ⟨b0,0,none⟩) 0 c0)] at hF;refine sr<|ag hF rfl rfl fun a hF=>ns<|stR hF (d_buildC 0 hM hF rfl ty_bs0_27) rfl ?_;rintro _ w' a ⟨b1,rfl,hM,-⟩ hF;refine ag hF rfl rfl fun a hF=>nt<|sq<|sr<|ag hF rfl rfl fun a hF=>nt<|wp_block ?_;change Mem w _ [some (b1,#[]),none,none] [] at hM;refine c_loop (fun (kk:Nat) a w'=>kk≤0∧(True)∧Fr 39 a [(0,.slice (some ⟨b0,0,none⟩) 0 c0),(2,.slice none 0 0),(4,.int .i64 (kk:Int)),(3,.slice (some ⟨b1,0,none⟩) 0 0)]∧Mem w w' [some (b1,#[]),none,none] []) (fun kk=>0 - kk) 0 ?_ ?_
  · refine ⟨by omega,trivial,hF.sub _ (by repeat' constructor),?_⟩
    exact hM
  clear hF hM;rintro gi a w' ⟨hgi,hinv1,hF,hM⟩;refine sq<|sr<|mv hF rfl rfl fun a hF=>mv hF rfl rfl fun a hF=>st hF (g_len ty_us_59 hF rfl) rfl fun a hF=>st hF (g_lss hF rfl rfl) rfl fun a hF=>nt<|c_cond hF rfl (fun h2=>?_) (fun h2=>?_)
  · exfalso;omega
  obtain rfl:0=gi:=by omega
  refine wp_exit<|tX<|tX<|ib_same<|tN<|sr<|mv hF rfl rfl fun a hF=>ag hF rfl rfl fun a hF=>nt<|wp_ret<|fin1 rfl hF.defers (res_tmp hF rfl) ⟨_,rfl,hM.below,?_⟩;exact ⟨_,rfl,hM.ge 0 rfl,hM.row 0 rfl⟩
theorem l01Vectors_any (p n m b0 c0:Nat)(cs0:Array Value)(D0:Froz)(β0 κ0:Nat→Nat)(C0:Nat→Array Value)(M:Nat→Nat→Nat)(w:World)(hp13:p≤13)(hn0:0<n)(hn:n≤6)(hm2:m<1000)(hM1:∀ i c,M i c<p)(hD0:∀ b cs,(b,cs)∈D0→Blk w b cs)(hb0:(b0,cs0)∈D0)(hg0:∀ i,i<m→cs0[0+i*1]? = some (.slice (some ⟨β0 i,0,none⟩) n (κ0 i)))(hR0:RowsD D0 n m β0 κ0 C0 (fun i c=>.int .i64 (M i c:Int))) :
    CallsR Tryd.prog 48 #[.slice (some ⟨b0,0,none⟩) m c0] w (fun u w'=>(∃ x c,u = .slice x m c)∧(0<m→OwnSl 6 w m (fun c=>.int .u8 (((padN n M) (c / 6) (c%6):Nat):Int)) u w')):=by
  by_cases h:m=0
  · subst h
    exact (l01Vectors_E b0 c0 w).mono fun u w' _ h=>by
      obtain ⟨b,e,_⟩:=h;exact ⟨⟨_,_,e⟩,fun h=>absurd h (by omega)⟩
  · exact (l01Vectors_ok p n m b0 c0 cs0 D0 β0 κ0 C0 M w hp13 hn0 hn (by omega) hm2 hM1 hD0 hb0 hg0 hR0).mono fun u w' _ h=>by
      obtain ⟨b,cap,cs,h1,h2,h3⟩:=h;exact ⟨⟨_,_,h1.val⟩,fun _=>⟨b,cap,cs,h1,h2,h3⟩⟩
end Go.Proofs.YtccdgjmomcljkaaDoor
