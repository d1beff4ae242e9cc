/- What functions of the program return, as walks over their operations; no statement of the seat is proved here. -/
import Derived.Test.YtockjnhdllcfpaaB2
import Derived.Test.YtockjnhdllcfpaaSw27
import Derived.Test.YtockjnhdllcfpaaSw10
import Derived.Test.YtockjnhdllcfpaaSw29
import Derived.Test.YtockjnhdllcfpaaSw74
import Derived.Test.YtockjnhdllcfpaaSw33
import Derived.Test.YtockjnhdllcfpaaSw83
set_option linter.unusedVariables false
set_option linter.unusedSimpArgs false
namespace Go.Proofs.Ytockjnhdllcfpaa
open Go Go.RowKit Go.Sw Go.Ech
open Classical
def tlN (p m : Nat) (c V : Nat → Nat) (k : Nat) : Nat := if k < m then ((((if k = 0 then 0 else V (k - 1) : Nat) : Int) - ((V (m - 1) * c k : Nat) : Int)) % (p : Int)).toNat else 0
def reN (p m : Nat) (c : Nat → Nat) : Nat → Nat → Nat
  | 0 => fun k => if k = 0 then 1 else 0
  | i + 1 => tlN p m c (reN p m c i)
def tl0 (m : Nat) (V : Nat → Nat) (k : Nat) : Nat := if 1 ≤ k ∧ k < m then V (k - 1) else 0
def tlG (p m : Nat) (c V : Nat → Nat) (g k : Nat) : Nat := if k < g then tlN p m c V k else tl0 m V k
end Go.Proofs.Ytockjnhdllcfpaa

namespace Go.Proofs.Ytockjnhdllcfpaa
open Go Go.RowKit Go.Sw Go.Ech
open Classical
end Go.Proofs.Ytockjnhdllcfpaa

namespace Go.Proofs.Ytockjnhdllcfpaa
open Go Go.RowKit Go.Sw Go.Ech
open Classical
theorem ty_ze_28 : zeroP Try.prog 28 = some (.agg (algC 0 0 (fun _ _ _ => 0) (fun _ => 0))) := by kernel_rfl
theorem ty_bp_28_3 : ∀ (p n : Int) (f : Nat → Nat) w, (Instr.build 28 #[(0, .int .i64 p), (1, .int .i64 n), (3, .agg (vecC f))]).run Try.prog w = .ok (.agg (algC p n (fun _ _ _ => 0) f)) w := by intros; kernel_rfl
theorem ty_sz_28 : sizeP Try.prog 28 = some 224 := by kernel_rfl
theorem ty_sz_23 : sizeP Try.prog 23 = some 6 := by kernel_rfl
theorem ty_ag_28 : aggP Try.prog 28 = some 224 := by kernel_rfl
def tWp (W : Nat → Nat → Nat → Nat) (n a b i j k : Nat) : Nat := if (i < a ∨ (i = a ∧ j < b)) ∧ j < n then W i j k else 0
theorem tWp_0 {W : Nat → Nat → Nat → Nat} {n i j k : Nat} : tWp W n 0 0 i j k = 0 := by unfold tWp; rw [if_neg (by omega)]
theorem tWp_row {W : Nat → Nat → Nat → Nat} {n a i j k : Nat} : tWp W n a n i j k = tWp W n (a + 1) 0 i j k := by
  unfold tWp
  have e : ((i < a ∨ (i = a ∧ j < n)) ∧ j < n) = ((i < a + 1 ∨ (i = a + 1 ∧ j < 0)) ∧ j < n) := by apply propext; omega
  simp only [e]
theorem tWp_step {W : Nat → Nat → Nat → Nat} {n a b i j k : Nat} (hb : b < n) : (if i = a ∧ j = b then W a b k else tWp W n a b i j k) = tWp W n a (b + 1) i j k := by
  unfold tWp
  by_cases e : i = a ∧ j = b
  · obtain ⟨rfl, rfl⟩ := e
    rw [if_pos ⟨rfl, rfl⟩, if_pos (by omega)]
  · rw [if_neg e]
    have e : ((i < a ∨ (i = a ∧ j < b)) ∧ j < n) = ((i < a ∨ (i = a ∧ j < b + 1)) ∧ j < n) := by apply propext; omega
    simp only [e]
theorem algebraOf_ok (p : Int) (n : Nat) (TI : TypeId) (v : Value) (FS FP FC : FuncId) (KC : List Value → Froz → Prop) (W : Nat → Nat → Nat → Nat) (w : World) (hn0 : 0 < n) (hn : n ≤ 6) (hiS : ∀ w, (invoke (.fn (.method "loop.example/g01267/impl.size") #[]) #[.iface TI v]).run Try.prog w = .ok (.enter FS #[v]) w) (hiP : ∀ w, (invoke (.fn (.method "loop.example/g01267/impl.products") #[]) #[.iface TI v]).run Try.prog w = .ok (.enter FP #[v]) w) (hS : ∀ w2, Ext w w2 → CallsR Try.prog FS #[v] w2 (fun u _ => u = .int .i64 (n : Int))) (hPr : ∀ w2, Ext w w2 → CallsR Try.prog FP #[v] w2 (fun u w' => ∃ cap DK, u = .func (.func FC) #[] cap.toArray ∧ KC cap DK ∧ ∀ b cs, (b, cs) ∈ DK → w2.heap.size ≤ b ∧ Blk w' b cs)) (hcf : ∀ args w, (callFunc FC args).run Try.prog w = .ok (.enter FC args) w) (hcl : ∀ cap DK w2, Ext w w2 → KC cap DK → (∀ b cs, (b, cs) ∈ DK → Blk w2 b cs) → ∀ i j, i < n → j < n → CallsR Try.prog FC ([Value.int .i64 (i : Int), Value.int .i64 (j : Int)] ++ cap).toArray w2 (fun u _ => u = .agg (vecC (W i j)))) :
    CallsR Try.prog 35 #[.int .i64 (p), .iface TI v] w (fun res _ => res = .agg (algC p (n : Int) (tWp W n n 0) (fun c => if c = n - 1 then 1 else 0))) := by
  refine calls_fr [.int .i64 (p), .iface TI v] Try.func35 rfl Try.ntmps35 rfl fun a hF => ?_;have hM : Mem w w [none, none] [] := MemX.start w 2;change Fr 40 a [(0, .int .i64 (p)), (1, .iface TI v)] at hF;refine sr <| stR hF (d_alloc 0 hM ty_ze_28) rfl ?_;rintro _ w' a ⟨b1, rfl, hM, -⟩ hF;change Mem w w' [some (b1, algC 0 0 (fun _ _ _ => 0) (fun _ => 0)), none] [] at hM;refine ns <| mv hF rfl rfl fun a hF => stR hF (d_callI (f := FS) hiS hF rfl (hS _ hM.below)) rfl ?_;rintro _ w' a ⟨hx, rfl⟩ hF;have hM := hM.ext hx;refine ag hF rfl rfl fun a hF => ns <| mv hF rfl rfl fun a hF => mv hF rfl rfl fun a hF => mv hF rfl rfl fun a hF => st hF (g_sub hF rfl rfl (show _ = ((n - 1 : Nat) : Int) from (by rw [show ((n : Int) - 1) = ((n - 1 : Nat) : Int) by omega]; exact wrap_i64 (by omega) (by omega)))) rfl fun a hF => stR hF (d_call Try.call57 hF (.cons rfl .nil) (basisVector_ok (n - 1) _ (by omega))) rfl ?_;rintro _ w' a ⟨hx, rfl⟩ hF;have hM := hM.ext hx;refine st hF (g_buildP hF (build013 hF rfl rfl rfl) (fun w => ty_bp_28_3 _ _ _ w)) rfl fun a hF => stR hF (d_alloc 1 hM ty_ze_28) rfl ?_;rintro _ w' a ⟨b2, rfl, hM, -⟩ hF;change Mem w w' [some (b1, algC 0 0 (fun _ _ _ => 0) (fun _ => 0)), some (b2, algC 0 0 (fun _ _ _ => 0) (fun _ => 0))] [] at hM;refine stN hF (d_storeAgg 1 hM rfl ty_sz_28 hF rfl rfl (by first | exact vecC_one | exact cells_one | (refine fnC_one fun _ _ => ?_; first | rfl | (split <;> rfl))) (by simp only [sz0, grpC_size, numI_size, smC_size, numC_size, mri_size, rowJ_size, monC_size]) (by simp only [sz0, grpC_size, numI_size, smC_size, numC_size, mri_size, rowJ_size, monC_size] <;> omega) (splice_whole _ _ (by simp only [sz0, grpC_size, numI_size, smC_size, numC_size, mri_size, rowJ_size, monC_size]))) ?_;intro _ w' a hM hF;change Mem w w' [some (b1, algC 0 0 (fun _ _ _ => 0) (fun _ => 0)), some (b2, algC (p) (n : Int) (fun _ _ _ => 0) (fun c => if c = n - 1 then 1 else 0))] [] at hM;refine ns <| mv hF rfl rfl fun a hF => stR hF (d_callI (f := FP) hiP hF rfl (hPr _ hM.below)) rfl ?_;rintro _ w' a ⟨hx, cap, DK, rfl, hKC, hDK⟩ hF;have hM := hM.addD (D' := DK) hx hDK;refine ag hF rfl rfl fun a hF => nt <| sq <| sr <| mv hF rfl rfl fun a hF => mv hF rfl rfl fun a hF => nt <| wp_block ?_;change Mem w _ [some (b1, algC 0 0 (fun _ _ _ => 0) (fun _ => 0)), some (b2, algC (p) (n : Int) (fun _ _ _ => 0) (fun c => if c = n - 1 then 1 else 0))] (DK ++ []) at hM;refine c_loop (fun (kk : Nat) a w' => kk ≤ n ∧ (True) ∧ Fr 40 a [(4, ptr b1 (0)), (5, .int .i64 (n : Int)), (6, ptr b2 (0)), (7, .func (.func FC) #[] cap.toArray), (20, .int .i64 (n : Int)), (21, .int .i64 (kk : Int))] ∧ Mem w w' [some (b1, algC 0 0 (fun _ _ _ => 0) (fun _ => 0)), some (b2, algC p (n : Int) (tWp W n (kk) (0)) (fun c => if c = n - 1 then 1 else 0))] (DK ++ [])) (fun kk => n - kk) 0 ?_ ?_
  · refine ⟨by omega, trivial, hF.sub _ (by repeat' constructor), ?_⟩
    exact hM.rowc 1 rfl (algC_congr fun i hi j hj k hk => tWp_0.symm)
  clear hF hM;rintro gi a w' ⟨hgi, hinv1, hF, hM⟩;refine sr <| st hF (g_lss hF rfl rfl) rfl fun a hF => nt <| sq <| c_cond hF rfl (fun h3 => ?_) (fun h3 => ?_)
  · refine wp_skip ?_
    refine tN <| sq <| wp_block <| sr <| mv hF rfl rfl fun a hF => ag hF rfl rfl fun a hF => ns <| mv hF rfl rfl fun a hF => mv hF rfl rfl fun a hF => nt <| wp_block ?_;change Mem w _ [some (b1, algC 0 0 (fun _ _ _ => 0) (fun _ => 0)), some (b2, algC p (n : Int) (tWp W n (gi) (0)) (fun c => if c = n - 1 then 1 else 0))] (DK ++ []) at hM;refine c_loop (fun (kk : Nat) a w' => kk ≤ n ∧ (True) ∧ Fr 40 a [(4, ptr b1 (0)), (5, .int .i64 (n : Int)), (6, ptr b2 (0)), (7, .func (.func FC) #[] cap.toArray), (20, .int .i64 (n : Int)), (21, .int .i64 (gi : Int)), (22, .bool (decide (((gi : Int) : Int) < (n : Int)))), (23, .int .i64 (gi : Int)), (8, .int .i64 (gi : Int)), (24, .int .i64 (n : Int)), (25, .int .i64 (kk : Int))] ∧ Mem w w' [some (b1, algC 0 0 (fun _ _ _ => 0) (fun _ => 0)), some (b2, algC p (n : Int) (tWp W n (gi) (kk)) (fun c => if c = n - 1 then 1 else 0))] (DK ++ [])) (fun kk => n - kk) 0 ?_ ?_
    · refine ⟨by omega, trivial, hF.sub _ (by repeat' constructor), ?_⟩
      exact hM
    clear hF hM;rintro gj a w' ⟨hgj, hinv2, hF, hM⟩;refine sr <| st hF (g_lss hF rfl rfl) rfl fun a hF => nt <| sq <| c_cond hF rfl (fun h4 => ?_) (fun h4 => ?_)
    · refine wp_skip ?_
      refine tN <| sq <| wp_block <| sr <| mv hF rfl rfl fun a hF => ag hF rfl rfl fun a hF => nt <| c_par 8 [] [.val (.int .i64 (gi : Int)), .val (.int .i64 (gj : Int)), .val (.func (.func FC) #[] cap.toArray), .val (.int .i64 (gi : Int)), .val (.int .i64 (gj : Int)), .val (.agg (vecC (W gi gj))), .val (ptr b2 (0 + 2)), .val (ptr b2 (0 + 2 + (gi) * 36))] hmix rfl hF rfl hM ⟨fun a w gG hF hS hd => by exact pmv hS rfl hF rfl, fun a w gG hF hS hd => by exact pmv hS rfl hF rfl, fun a w gG hF hS hd => by exact pmv hS rfl hF rfl, fun a w gG hF hS hd => by exact pmv hS rfl hF rfl, fun a w gG hF hS hd => by exact pmv hS rfl hF rfl, fun a w gG hF hS hd => by have hF := hF.ext1 30 (hd 2 rfl rfl); have hF := hF.ext1 31 (hd 3 rfl rfl); have hF := hF.ext1 32 (hd 4 rfl rfl); have hM := hS.mem rfl; exact par_call (by repeat constructor) hS rfl (d_callV (f := FC) (cap := cap) hcf hF rfl (.cons rfl (.cons rfl .nil)) (hcl cap DK _ hM.below hKC (fun b cs hm => hM.fzm (List.mem_append_left _ hm)) gi gj (by omega) (by omega))), fun a w gG hF hS hd => by exact par_val hS rfl (g_fieldAddr ty_fo_28_2 hF rfl), fun a w gG hF hS hd => by have hF := hF.ext1 28 (hd 0 rfl rfl); have hF := hF.ext1 34 (hd 6 rfl rfl); exact par_val hS rfl (g_indexAddr ty_ar_25 hF rfl rfl rfl (by omega)), trivial⟩ ?_;intro a w' L hF hS hq;have hF := hF.ext1 28 (hq 0 rfl rfl);have hF := hF.ext1 29 (hq 1 rfl rfl);have hF := hF.ext1 30 (hq 2 rfl rfl);have hF := hF.ext1 31 (hq 3 rfl rfl);have hF := hF.ext1 32 (hq 4 rfl rfl);have hF := hF.ext1 33 (hq 5 rfl rfl);have hF := hF.ext1 34 (hq 6 rfl rfl);have hF := hF.ext1 35 (hq 7 rfl rfl);have hM := hS.mem rfl;change wpList Try.prog _ _ [_, _] _ _;refine st hF (g_indexAddr ty_ar_24 hF rfl rfl rfl (by omega)) rfl fun a hF => stN hF (d_storeAgg 1 hM rfl ty_sz_23 hF rfl rfl (by first | exact vecC_one | exact cells_one | (refine fnC_one fun _ _ => ?_; first | rfl | (split <;> rfl))) (by simp only [sz0, grpC_size, numI_size, smC_size, numC_size, mri_size, rowJ_size, monC_size]) (by simp only [sz0, grpC_size, numI_size, smC_size, numC_size, mri_size, rowJ_size, monC_size] <;> omega) (algC_putRow (gi) (gj) (by omega) (by omega) (by omega))) ?_;intro _ w' a hM hF;change Mem w w' [some (b1, algC 0 0 (fun _ _ _ => 0) (fun _ => 0)), some (b2, algC p (n : Int) (fun i j k => if i = gi ∧ j = gj then ((W gi gj)) k else ((tWp W n (gi) (gj))) i j k) (fun c => if c = n - 1 then 1 else 0))] (DK ++ []) at hM;refine wpList_nil <| iN <| tN <| wp_region_lit <| st hF (g_add hF rfl rfl (add_nat (gj) (1) (by omega))) rfl fun a hF => mv hF rfl rfl fun a hF => nt <| ⟨gj + 1, ⟨by omega, trivial, hF.sub _ (by repeat' constructor), ?_⟩, by omega⟩;exact hM.rowc 1 rfl (algC_congr fun i hi j hj k hk => tWp_step (by omega))
    obtain rfl : n = gj := by omega
    refine wp_exit <| tX <| tX <| ib_same <| iN <| tN <| wp_region_lit <| st hF (g_add hF rfl rfl (add_nat (gi) (1) (by omega))) rfl fun a hF => mv hF rfl rfl fun a hF => nt <| ⟨gi + 1, ⟨by omega, trivial, hF.sub _ (by repeat' constructor), ?_⟩, by omega⟩;exact hM.rowc 1 rfl (algC_congr fun i hi j hj k hk => tWp_row)
  obtain rfl : n = gi := by omega
  refine wp_exit <| tX <| tX <| ib_same <| tN <| sr <| st hF (g_loadAgg ty_ag_28 hF rfl (hM.row 1 rfl) (by simp only [sz0, grpC_size, numI_size, smC_size, numC_size, mri_size, rowJ_size, monC_size] <;> omega) (whole cells_size)) rfl fun a hF => stN hF (d_storeAgg 0 hM rfl ty_sz_28 hF rfl rfl (by first | exact vecC_one | exact cells_one | (refine fnC_one fun _ _ => ?_; first | rfl | (split <;> rfl))) (by simp only [sz0, grpC_size, numI_size, smC_size, numC_size, mri_size, rowJ_size, monC_size]) (by simp only [sz0, grpC_size, numI_size, smC_size, numC_size, mri_size, rowJ_size, monC_size] <;> omega) (splice_whole _ _ (by simp only [sz0, grpC_size, numI_size, smC_size, numC_size, mri_size, rowJ_size, monC_size]))) ?_;intro _ w' a hM hF;change Mem w w' [some (b1, algC p (n : Int) (tWp W n (n) (0)) (fun c => if c = n - 1 then 1 else 0)), some (b2, algC p (n : Int) (tWp W n (n) (0)) (fun c => if c = n - 1 then 1 else 0))] (DK ++ []) at hM;refine nt <| wp_ret <| fin1 rfl hF.defers (res_agg ty_ag_28 hF rfl (hM.row 0 rfl) (by simp only [sz0, grpC_size, numI_size, smC_size, numC_size, mri_size, rowJ_size, monC_size])) ⟨_, rfl, hM.below, ?_⟩
  show _ = _
  rfl
end Go.Proofs.Ytockjnhdllcfpaa
