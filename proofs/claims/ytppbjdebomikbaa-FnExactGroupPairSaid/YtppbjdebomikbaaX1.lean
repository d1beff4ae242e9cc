/- What functions of the program return, as walks over their operations; no statement of the seat is proved here. -/
import Derived.Test.YtppbjdebomikbaaC11
import Derived.Test.YtppbjdebomikbaaSw10
set_option linter.unusedVariables false
set_option linter.unusedSimpArgs false
namespace Go.Proofs.Ytppbjdebomikbaa
open Go Go.RowKit Go.Sw Go.Ech
open Classical
theorem ty_ua_27 : Try.prog.underlying 27 = some (.array 6 5) := by kernel_rfl
theorem ty_sz_5 : sizeP Try.prog 5 = some 1 := by kernel_rfl
theorem alg_full {p n : Int} {T U : Nat → Nat → Nat → Nat} {f g : Nat → Nat} (h : ∀ i, i < 6 → ∀ j, j < 6 → ∀ k, k < 6 → T i j k = U i j k) (hf : f = g) : algC p n T f = algC p n U g := by
  rw [hf]; exact algC_congr h
theorem form_step {q n : Int} {T : Nat → Nat → Nat → Nat} {f : Nat → Nat} {p : Nat} {x : Int} {k o : Nat} {v : Int} (hv : v = (addN p f f x k : Int)) (ho : o = 218 + k) (hk : k < 6) : (algC q n T (fun i => if i < k then addN p f f x i else f i)).setIfInBounds o (.int .u8 v) = algC q n T (fun i => if i < k + 1 then addN p f f x i else f i) := by
  subst hv ho;rw [algC_setF k rfl hk];refine alg_full (fun _ _ _ _ _ _ => rfl) (funext fun i => ?_)
  by_cases e : i = k
  · subst e; rw [if_pos rfl, if_pos (by omega)]
  · rw [if_neg e]
    by_cases e2 : i < k
    · rw [if_pos e2, if_pos (by omega)]
    · rw [if_neg e2, if_neg (by omega)]
theorem mulBm {x : Int} {y : Nat} (h1 : -1000 < x) (h2 : x < 1000) (hy : y ≤ 255) : -255000 ≤ x * (y : Int) ∧ x * (y : Int) ≤ 255000 := by
  have a1 := Int.mul_le_mul_of_nonneg_right (show x ≤ 999 by omega) (Int.natCast_nonneg y);have a2 := Int.mul_le_mul_of_nonneg_right (show -999 ≤ x by omega) (Int.natCast_nonneg y)
  omega
theorem algC_fcongr {p n : Int} {T : Nat → Nat → Nat → Nat} {f g : Nat → Nat} (h : ∀ i, i < 6 → f i = g i) : algC p n T f = algC p n T g := by
  unfold algC
  refine fnC_congr fun c hc => ?_
  split
  · rfl
  · split
    · rfl
    · split
      · rfl
      · rw [h _ (by omega)]
theorem addRowForm_ok (p b : Nat) (n : Int) (T : Nat → Nat → Nat → Nat) (f : Nat → Nat) (x : Int) (w : World) (hp : 0 < p) (hp2 : p < 100) (hx : -1000 < x) (hx2 : x < 1000) (hf : ∀ i, f i ≤ 255) (hb : Blk w b (algC (p : Int) n T f)) :
    CallsX Try.prog [b] 29 #[.slice (some ⟨b, 218, none⟩) 6 6, .slice (some ⟨b, 218, none⟩) 6 6, .int .i64 (x), .int .i64 (p : Int)] w (fun v w' => v = .tuple #[] ∧ Blk w' b (algC (p : Int) n T (fun i => addN p f f x i))) := by
  refine calls_frX [.slice (some ⟨b, 218, none⟩) 6 6, .slice (some ⟨b, 218, none⟩) 6 6, .int .i64 (x), .int .i64 (p : Int)] Try.func29 rfl Try.ntmps29 rfl fun a hF => ?_;have hM : MemX [b] w w [some (b, algC (p : Int) n T f)] [] := MemX.startX1 0 hb;change Fr 33 a [(0, .slice (some ⟨b, 218, none⟩) 6 6), (1, .slice (some ⟨b, 218, none⟩) 6 6), (2, .int .i64 (x)), (3, .int .i64 (p : Int))] at hF;refine sr <| mv hF rfl rfl fun a hF => st hF (g_len ty_us_60 hF rfl) rfl fun a hF => mv hF rfl rfl fun a hF => nt <| wp_block ?_;change MemX [b] w _ [some (b, algC (p : Int) n T f)] [] at hM;refine c_loop (fun (kk : Nat) a w' => kk ≤ 6 ∧ (True) ∧ Fr 33 a [(0, .slice (some ⟨b, 218, none⟩) 6 6), (2, .int .i64 (x)), (3, .int .i64 (p : Int)), (10, .slice (some ⟨b, 218, none⟩) 6 6), (11, .int .i64 (6)), (12, .int .i64 (kk : Int))] ∧ MemX [b] w w' [some (b, algC (p : Int) n T (fun i => if i < kk then addN p f f x i else f i))] []) (fun kk => 6 - kk) 0 ?_ ?_
  · refine ⟨by omega, trivial, hF.sub _ (by repeat' constructor), ?_⟩
    refine hM.rowc 0 rfl (alg_full (fun _ _ _ _ _ _ => rfl) (funext fun i => by simp))
  clear hF hM;rintro gk a w' ⟨hgk, hinv1, hF, hM⟩;have hfk := hf gk;have hxh := mulBm hx hx2 (hf gk);refine sr <| st hF (g_lss hF rfl rfl) rfl fun a hF => nt <| sq <| c_cond hF rfl (fun h1 => ?_) (fun h1 => ?_)
  · refine wp_skip ?_
    refine tN <| sq <| wp_block <| sr <| mv hF rfl rfl fun a hF => st hF (g_indexSl (i := gk) ty_sl_60 hF rfl rfl rfl (by omega)) rfl fun a hF => st hF (g_load ty_on_5 hF rfl (hM.row 0 rfl) (show _ = some (Value.int .u8 (f gk : Int)) from (algC_f gk (by omega) (by omega)).trans (by simp))) rfl fun a hF => ag hF rfl rfl fun a hF => ag hF rfl rfl fun a hF => nt <| wp_region_lit <| mv hF rfl rfl fun a hF => mv hF rfl rfl fun a hF => mv hF rfl rfl fun a hF => mv hF rfl rfl fun a hF => st hF (g_indexSl (i := gk) ty_sl_60 hF rfl rfl rfl (by omega)) rfl fun a hF => st hF (g_load ty_on_5 hF rfl (hM.row 0 rfl) (show _ = some (Value.int .u8 (f gk : Int)) from (algC_f gk (by omega) (by omega)).trans (by simp))) rfl fun a hF => st hF (g_conv ty_un_2 ty_ud_5 hF rfl (wrap_i64 (by omega) (by omega))) rfl fun a hF => mv hF rfl rfl fun a hF => mv hF rfl rfl fun a hF => st hF (g_conv ty_un_2 ty_ud_5 hF rfl (wrap_i64 (by omega) (by omega))) rfl fun a hF => st hF (g_mul hF rfl rfl (wrap_i64 (by omega) (by omega))) rfl fun a hF => st hF (g_add hF rfl rfl (wrap_i64 (by omega) (by omega))) rfl fun a hF => mv hF rfl rfl fun a hF => stR hF (d_call Try.call12 hF (.cons rfl (.cons rfl .nil)) (residue_ok ((f (gk) : Int) + (x) * ((f (gk) : Int))) (p) _ (by omega) (by omega) (by omega) (by omega))) rfl ?_;rintro _ w' a ⟨hx, rfl⟩ hF;have hM := hM.ext hx;refine st hF (g_indexSl (i := gk) ty_sl_60 hF rfl rfl rfl (by omega)) rfl fun a hF => stN hF (d_store 0 hM rfl ty_on_5 hF rfl rfl rfl (by first | omega | (simp only [sz0, grpC_size, numI_size, rowW_size, bolC_size, mri_size, pairC_size] <;> omega) | (simp only [Array.size_setIfInBounds]; omega) | simp)) ?_;intro _ w' a hM hF;change MemX [b] w w' [some (b, (algC (p : Int) n T (fun i => if i < gk then addN p f f x i else f i)).setIfInBounds (218 + (gk) * 1) (.int .u8 (((f (gk) : Int) + (x) * ((f (gk) : Int))) % (p : Int))))] [] at hM;refine wpList_nil <| iN <| tN <| wp_region_lit <| st hF (g_add hF rfl rfl (add_nat (gk) (1) (by omega))) rfl fun a hF => mv hF rfl rfl fun a hF => nt <| ⟨gk + 1, ⟨by omega, trivial, hF.sub _ (by repeat' constructor), ?_⟩, by omega⟩;exact hM.rowc 0 rfl (form_step (addN_int hp).symm (by omega) (by omega))
  obtain rfl : 6 = gk := by omega
  refine wp_exit <| tX <| tX <| ib_same <| fin0n rfl hF.defers  ⟨_, rfl, hM.bel, ?_⟩;exact ⟨rfl, (hM.rowc (cs' := algC (p : Int) n T (fun i => addN p f f x i)) 0 rfl (algC_fcongr fun i hi => by rw [if_pos hi])).row 0 rfl⟩
theorem timesForm_ok (p n : Nat) (T : Nat → Nat → Nat → Nat) (f : Nat → Nat) (x : Int) (w : World) (hp : 0 < p) (hp2 : p < 100) (hx1 : -900 < x) (hx2 : x < 900) (hf : ∀ i, f i ≤ 255) :
    CallsR Try.prog 13 #[.agg (algC (p : Int) (n : Int) T f), .int .i64 (x)] w (fun res _ => res = .agg (algC (p : Int) (n : Int) T (fun i => addN p f f (x - 1) i))) := by
  refine calls_fr [.agg (algC (p : Int) (n : Int) T f), .int .i64 (x)] Try.func13 rfl Try.ntmps13 rfl fun a hF => ?_;have hM : Mem w w [none, none] [] := MemX.start w 2;change Fr 15 a [(0, .agg (algC (p : Int) (n : Int) T f)), (1, .int .i64 (x))] at hF;refine sr <| stR hF (d_box 0 hM hF rfl) rfl ?_;rintro _ w' a ⟨b1, rfl, hM, -⟩ hF;refine stR hF (d_alloc 1 hM ty_ze_29) rfl ?_;rintro _ w' a ⟨b2, rfl, hM, -⟩ hF;change Mem w w' [some (b1, algC (p : Int) (n : Int) T f), some (b2, algC 0 0 (fun _ _ _ => 0) (fun _ => 0))] [] at hM;refine nt <| sq <| c_par 8 [] [.val (ptr b1 (0 + 218)), .val (.slice (some ⟨b1, 0 + 218, none⟩) 6 6), .val (ptr b1 (0 + 218)), .val (.slice (some ⟨b1, 0 + 218, none⟩) 6 6), .val (.int .i64 (x)), .val (.int .i64 (x - 1)), .val (ptr b1 (0 + 0)), .val (.int .i64 (p : Int))] hmix rfl hF rfl hM ⟨fun a w gG hF hS hd => by exact par_val hS rfl (g_fieldAddr ty_fo_29_3 hF rfl), fun a w gG hF hS hd => by have hF := hF.ext1 5 (hd 0 rfl rfl); exact par_val hS rfl (g_sliceArr ty_ua_27 ty_sz_5 (by decide) hF rfl), fun a w gG hF hS hd => by exact par_val hS rfl (g_fieldAddr ty_fo_29_3 hF rfl), fun a w gG hF hS hd => by have hF := hF.ext1 7 (hd 2 rfl rfl); exact par_val hS rfl (g_sliceArr ty_ua_27 ty_sz_5 (by decide) hF rfl), fun a w gG hF hS hd => by exact pmv hS rfl hF rfl, fun a w gG hF hS hd => by have hF := hF.ext1 9 (hd 4 rfl rfl); exact par_val hS rfl (g_sub hF rfl rfl (wrap_i64 (by omega) (by omega))), fun a w gG hF hS hd => by exact par_val hS rfl (g_fieldAddr ty_fo_29_0 hF rfl), fun a w gG hF hS hd => by have hF := hF.ext1 11 (hd 6 rfl rfl); have hM := hS.mem rfl; exact par_val hS rfl (g_load ty_on_2 hF rfl (hM.row 0 rfl) (algC_p (by omega))), trivial⟩ ?_;intro a w' L hF hS hq;have hF := hF.ext1 5 (hq 0 rfl rfl);have hF := hF.ext1 6 (hq 1 rfl rfl);have hF := hF.ext1 7 (hq 2 rfl rfl);have hF := hF.ext1 8 (hq 3 rfl rfl);have hF := hF.ext1 9 (hq 4 rfl rfl);have hF := hF.ext1 10 (hq 5 rfl rfl);have hF := hF.ext1 11 (hq 6 rfl rfl);have hF := hF.ext1 12 (hq 7 rfl rfl);have hM := hS.mem rfl;change wpList Try.prog _ _ [_] _ _;refine stR hF (d_callX Try.call29 hF (.cons rfl (.cons rfl (.cons rfl (.cons rfl .nil)))) (addRowForm_ok p b1 (n : Int) T f (x - 1) _ (by omega) (by omega) (by omega) (by omega) hf (hM.row 0 rfl))) rfl ?_;rintro _ w' a ⟨hx, rfl, hbk⟩ hF;have hM := hM.upd 0 rfl hx hbk;change Mem w w' [some (b1, algC (p : Int) (n : Int) T (fun i => addN p f f (x - 1) i)), some (b2, algC 0 0 (fun _ _ _ => 0) (fun _ => 0))] [] at hM;refine ns <| st hF (g_loadAgg ty_ag_29 hF rfl (hM.row 0 rfl) (by simp only [sz0, grpC_size, numI_size, rowW_size, bolC_size, mri_size, pairC_size] <;> omega) (whole cells_size)) rfl fun a hF => stN hF (d_storeAgg 1 hM rfl ty_sz_29 hF rfl rfl (by first | exact vecC_one | exact cells_one | (refine fnC_one fun _ _ => ?_; first | rfl | (split <;> rfl))) (by simp only [sz0, grpC_size, numI_size, rowW_size, bolC_size, mri_size, pairC_size]) (by simp only [sz0, grpC_size, numI_size, rowW_size, bolC_size, mri_size, pairC_size] <;> omega) (splice_whole _ _ (by simp only [sz0, grpC_size, numI_size, rowW_size, bolC_size, mri_size, pairC_size]))) ?_;intro _ w' a hM hF;change Mem w w' [some (b1, algC (p : Int) (n : Int) T (fun i => addN p f f (x - 1) i)), some (b2, algC (p : Int) (n : Int) T (fun i => addN p f f (x - 1) i))] [] at hM;refine nt <| wp_ret <| fin1 rfl hF.defers (res_agg ty_ag_29 hF rfl (hM.row 1 rfl) (by simp only [sz0, grpC_size, numI_size, rowW_size, bolC_size, mri_size, pairC_size])) ⟨_, rfl, hM.below, ?_⟩
  show _ = _
  rfl
theorem addN_E0 {p k : Nat} (hk : k < p) : (fun i => addN p (fun c => if c = 0 then 1 else 0) (fun c => if c = 0 then 1 else 0) ((k : Int) - 1) i) = fun c => if c = 0 then k else 0 := by
  funext c
  unfold addN
  dsimp only
  by_cases e : c = 0
  · rw [if_pos e, if_pos e]
    rw [show ((1 : Nat) : Int) + ((k : Int) - 1) * ((1 : Nat) : Int) = (k : Int) by omega, ← Int.natCast_emod, Nat.mod_eq_of_lt hk]; rfl
  · rw [if_neg e, if_neg e]; simp
theorem pairC_eqs {p n q m p' n' q' m' : Int} {T U T' U' : Nat → Nat → Nat → Nat} {f fu f' fu' : Nat → Nat} {Z Z' : Nat → Nat → Nat} (e1 : algC p n T f = algC p' n' T' f') (e2 : algC q m U fu = algC q' m' U' fu') (e3 : ∀ i j, i < 6 → j < 6 → Z i j = Z' i j) : pairC p n T f q m U fu Z = pairC p' n' T' f' q' m' U' fu' Z' :=
  pairC_eq pairC_size (fun i h => by rw [pairC_A h, e1]) (fun i h => by rw [pairC_B i rfl h, e2]) (fun i j hi hj => by rw [pairC_Z i j rfl hi hj, e3 i j hi hj])
theorem pairC_setA {p n q m p' n' : Int} {T U T' : Nat → Nat → Nat → Nat} {f fu f' : Nat → Nat} {Z : Nat → Nat → Nat} {o : Nat} {v : Value} (h : o < 224) (e : (algC p n T f).setIfInBounds o v = algC p' n' T' f') : (pairC p n T f q m U fu Z).setIfInBounds o v = pairC p' n' T' f' q m U fu Z := by
  refine pairC_eq (by rw [Array.size_setIfInBounds, pairC_size]) ?_ ?_ ?_
  · intro i hi
    rw [← e]
    by_cases e1 : o = i
    · subst e1
      rw [Array.getElem?_setIfInBounds_self_of_lt (by rw [pairC_size]; omega), Array.getElem?_setIfInBounds_self_of_lt (by rw [cells_size]; omega)]
    · rw [Array.getElem?_setIfInBounds_ne e1, Array.getElem?_setIfInBounds_ne e1]; exact pairC_A hi
  · intro i hi; rw [Array.getElem?_setIfInBounds_ne (by omega)]; exact pairC_B i rfl hi
  · intro i j hi hj; rw [Array.getElem?_setIfInBounds_ne (by omega)]; exact pairC_Z i j rfl hi hj
def ziP (M : Nat → Nat → Nat) (n k a c : Nat) : Nat := if a < k then chiP (eC M n a) (sC M n a) c else 0
theorem ziP_s {M : Nat → Nat → Nat} {n k a c : Nat} : (if a = k then chiP (eC M n k) (sC M n k) c else ziP M n k a c) = ziP M n (k + 1) a c := by
  unfold ziP
  by_cases e : a = k
  · subst e; rw [if_pos rfl, if_pos (by omega)]
  · rw [if_neg e]
    by_cases e2 : a < k
    · rw [if_pos e2, if_pos (by omega)]
    · rw [if_neg e2, if_neg (by omega)]
theorem invN_ltP {x p : Nat} (hp : 0 < p) : invN x p < p := by
  by_cases h : ∃ k, k < p ∧ k * x % p = 1
  · obtain ⟨k, hk, h1⟩ := h
    obtain ⟨k0, h2, h3, h4⟩ : ∃ k0, k0 < p ∧ k0 * x % p = 1 ∧ ∀ c, c < k0 → ¬ c * x % p = 1 := by
      induction k using Nat.strongRecOn with
      | _ k ih =>
        by_cases q : ∃ c, c < k ∧ c * x % p = 1
        · obtain ⟨c, hc, h5⟩ := q; exact ih c hc (by omega) h5
        · exact ⟨k, hk, h1, fun c hc h5 => q ⟨c, hc, h5⟩⟩
    rw [invN_some h2 h4 h3]; exact h2
  · rw [invN_none fun c hc h1 => h ⟨c, hc, h1⟩]; exact hp
end Go.Proofs.Ytppbjdebomikbaa
