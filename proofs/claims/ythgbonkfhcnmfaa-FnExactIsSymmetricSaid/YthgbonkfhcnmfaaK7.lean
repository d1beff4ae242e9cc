/- What functions of the program return, as walks over their operations; no statement of the seat is proved here. -/
import Derived.Test.YthgbonkfhcnmfaaK2
import Derived.Test.YthgbonkfhcnmfaaEch5
import Derived.Test.YthgbonkfhcnmfaaSw9
set_option linter.unusedVariables false
set_option linter.unusedSimpArgs false
namespace Go.Proofs.Ythgbonkfhcnmfaa
open Go Go.RowKit Go.Sw Go.Ech
open Classical
def trT (T : Nat → Nat → Nat → Nat) (i j k : Nat) : Nat := T j i k
def comP (T : Nat → Nat → Nat → Nat) : Prop := ∀ i, i < 6 → ∀ j, j < i → eqV 6 (T i j) (T j i)
end Go.Proofs.Ythgbonkfhcnmfaa

namespace Go.Proofs.Ythgbonkfhcnmfaa
open Go Go.RowKit Go.Sw Go.Ech
open Classical

end Go.Proofs.Ythgbonkfhcnmfaa

namespace Go.Proofs.Ythgbonkfhcnmfaa
open Go Go.RowKit Go.Sw Go.Ech
open Classical
def powW (mul : (Nat → Nat) → (Nat → Nat) → Nat → Nat) (u v : Nat → Nat) : Nat → Nat → Nat
  | 0 => u
  | k + 1 => mul (powW mul u v k) v
end Go.Proofs.Ythgbonkfhcnmfaa

namespace Go.Proofs.Ythgbonkfhcnmfaa
open Go Go.RowKit Go.Sw Go.Ech
open Classical

end Go.Proofs.Ythgbonkfhcnmfaa

namespace Go.Proofs.Ythgbonkfhcnmfaa
open Go Go.RowKit Go.Sw Go.Ech
open Classical
def formM (p n : Nat) (T : Nat → Nat → Nat → Nat) (f : Nat → Nat) (i c : Nat) : Nat := if c < n then sumTo (fun k => T i c k * f k) 6 % p else 0
theorem formM_lt {p n : Nat} {T : Nat → Nat → Nat → Nat} {f : Nat → Nat} (hp : 0 < p) : ∀ i c, formM p n T f i c < p := fun i c => by
  unfold formM; split
  · exact Nat.mod_lt _ hp
  · exact hp
def FrobN (p n : Nat) (T : Nat → Nat → Nat → Nat) (f : Nat → Nat) : Prop := ∃ E ld, Rref p 6 E n ld ∧ ∀ x, Ker p 6 E n x ↔ Ker p 6 (formM p n T f) n x
theorem formRows_ok (p n : Nat) (T : Nat → Nat → Nat → Nat) (f : Nat → Nat) (w : World) (hp : 0 < p) (hp2 : p < 100) (hn0 : 0 < n) (hn : n ≤ 6) (hT : ∀ i j k, T i j k ≤ 255) (hf : ∀ i, f i ≤ 255) :
    CallsR Try.prog 52 #[.agg (algC (p : Int) (n : Int) T f)] w (fun u w' => BytesOut w w' 6 n (formM p n T f) u) := by
  refine calls_fr [.agg (algC (p : Int) (n : Int) T f)] Try.func52 rfl Try.ntmps52 rfl fun a hF => ?_;have hM : Mem w w [none, none, none] [] := MemX.start w 3;change Fr 41 a [(0, .agg (algC (p : Int) (n : Int) T f))] at hF;have hT : ∀ i j k, T i j k ≤ 255 := hT;refine sr <| stR hF (d_box 0 hM hF rfl) rfl ?_;rintro _ w' a ⟨b1, rfl, hM, -⟩ hF;change Mem w w' [some (b1, algC (p : Int) (n : Int) T f), none, none] [] at hM;refine ag hF rfl rfl fun a hF => ns <| st hF (g_fieldAddr ty_fo_41_1 hF rfl) rfl fun a hF => st hF (g_load ty_on_2 hF rfl (hM.row 0 rfl) (algC_n (by omega))) rfl fun a hF => stR hF (d_make1 (len := n) 1 hM hF ty_si_69 rfl rfl rfl (by omega) (by decide)) rfl ?_;rintro _ w' a ⟨bo, rfl, hM, -⟩ hF;refine ag hF rfl rfl fun a hF => nt <| sq <| sr <| mv hF rfl rfl fun a hF => st hF (g_len ty_us_69 hF rfl) rfl fun a hF => mv hF rfl rfl fun a hF => nt <| wp_block ?_;change Mem w _ [some (b1, algC (p : Int) (n : Int) T f), some (bo, fnC n (fun _ => .slice none 0 0)), none] [] at hM;refine c_loop (fun (kk : Nat) a w' => kk ≤ n ∧ ∃ (D1 : Froz), ∃ (β : Nat → Nat), ∃ (cso : Array Value), (cso.size = n ∧ (∀ i, i < kk → cso[0 + i * 1]? = some (.slice (some ⟨β i, 0, none⟩) 6 6)) ∧ RowsB D1 6 kk β (formM p n T f) ∧ (∀ i, i < kk → w.heap.size ≤ β i)) ∧ Fr 41 a [(1, ptr b1 (0)), (2, .slice none 0 0), (3, .slice (some ⟨bo, 0, none⟩) n n), (10, .int .i64 (n : Int)), (11, .int .i64 (kk : Int))] ∧ Mem w w' [some (b1, algC (p : Int) (n : Int) T f), some (bo, cso), none] D1) (fun kk => n - kk) 0 ?_ ?_
  · refine ⟨by omega, [], (fun _ => 0), (fnC n (fun _ => .slice none 0 0)), ⟨fnC_size _ _, fun i hi => absurd hi (by omega), RowsB.none, fun i hi => absurd hi (by omega)⟩, hF.sub _ (by repeat' constructor), ?_⟩
    exact hM
  clear hF hM;rintro gk a w' ⟨hgk, D1, β, cso, ⟨hso, hgo, hB, hbg⟩, hF, hM⟩;refine sr <| st hF (g_lss hF rfl rfl) rfl fun a hF => nt <| sq <| c_cond hF rfl (fun h3 => ?_) (fun h3 => ?_)
  · refine wp_skip ?_
    refine tN <| sq <| wp_block <| sr <| mv hF rfl rfl fun a hF => ag hF rfl rfl fun a hF => ns <| mv hF rfl rfl fun a hF => mv hF rfl rfl fun a hF => stR hF (d_makeC (len := 6) 2 hM hF rfl rfl ty_mk_71_6) rfl ?_;rintro _ w' a ⟨b4, rfl, hM, -⟩ hF;change Mem w w' [some (b1, algC (p : Int) (n : Int) T f), some (bo, cso), some (b4, fnC 6 (fun _ => .int .u8 (0)))] D1 at hM;refine st hF (g_indexSl (i := gk) ty_sl_69 hF rfl rfl rfl (by omega)) rfl fun a hF => stN hF (d_store 1 hM rfl ty_on_71 hF rfl rfl rfl (by first | omega | (simp only [sz0] <;> omega) | simp)) ?_;intro _ w' a hM hF;change Mem w w' [some (b1, algC (p : Int) (n : Int) T f), some (bo, (cso).setIfInBounds (0 + (gk) * 1) (.slice (some ⟨b4, 0, none⟩) 6 6)), some (b4, fnC 6 (fun _ => .int .u8 (0)))] D1 at hM;refine nt <| sq ?_;have hself : ((cso).setIfInBounds (0 + (gk) * 1) (.slice (some ⟨b4, 0, none⟩) 6 6))[0 + gk * 1]? = some (.slice (some ⟨b4, 0, none⟩) 6 6) := Array.getElem?_setIfInBounds_self_of_lt (by omega);refine wp_region_lit <| st hF (g_fieldAddr ty_fo_41_1 hF rfl) rfl fun a hF => st hF (g_load ty_on_2 hF rfl (hM.row 0 rfl) (algC_n (by omega))) rfl fun a hF => mv hF rfl rfl fun a hF => nt <| wp_block ?_;change Mem w _ [some (b1, algC (p : Int) (n : Int) T f), some (bo, (cso).setIfInBounds (0 + (gk) * 1) (.slice (some ⟨b4, 0, none⟩) 6 6)), some (b4, fnC 6 (fun _ => .int .u8 (0)))] D1 at hM;refine c_loop (fun (kk : Nat) a w' => kk ≤ n ∧ (True) ∧ Fr 41 a [(1, ptr b1 (0)), (2, .slice none 0 0), (3, .slice (some ⟨bo, 0, none⟩) n n), (10, .int .i64 (n : Int)), (11, .int .i64 (gk : Int)), (12, .bool (decide (((gk : Int) : Int) < (n : Int)))), (13, .int .i64 (gk : Int)), (4, .int .i64 (gk : Int)), (14, .slice (some ⟨bo, 0, none⟩) n n), (15, .int .i64 (gk : Int)), (16, .slice (some ⟨b4, 0, none⟩) 6 6), (17, ptr bo (0 + (gk) * 1)), (18, ptr b1 (0 + 1)), (19, .int .i64 (n : Int)), (20, .int .i64 (kk : Int))] ∧ Mem w w' [some (b1, algC (p : Int) (n : Int) T f), some (bo, (cso).setIfInBounds (0 + (gk) * 1) (.slice (some ⟨b4, 0, none⟩) 6 6)), some (b4, fnC 6 (fun c => .int .u8 ((if c < kk then sumTo (fun k => T gk c k * f k) 6 % p else 0 : Nat) : Int)))] D1) (fun kk => n - kk) 0 ?_ ?_
    · refine ⟨by omega, trivial, hF.sub _ (by repeat' constructor), ?_⟩
      exact hM.rowc 2 rfl (fnC_congr fun c hc => by rw [if_neg (by omega)]; rfl)
    clear hF hM;rintro gj a w' ⟨hgj, hinv2, hF, hM⟩;refine sr <| st hF (g_lss hF rfl rfl) rfl fun a hF => nt <| sq <| c_cond hF rfl (fun h5 => ?_) (fun h5 => ?_)
    · refine wp_skip ?_
      refine tN <| sq <| wp_block <| sr <| mv hF rfl rfl fun a hF => ag hF rfl rfl fun a hF => nt <| c_par 14 [] [.val (.slice (some ⟨bo, 0, none⟩) n n), .val (.int .i64 (gk : Int)), .val (ptr bo (0 + (gk) * 1)), .val (.slice (some ⟨b4, 0, none⟩) 6 6), .val (.int .i64 (gj : Int)), .val (.agg (algC (p : Int) (n : Int) T f)), .val (.int .i64 (gk : Int)), .val (.int .i64 (gj : Int)), .val (ptr b1 (0 + 2)), .val (ptr b1 (0 + 2 + (gk) * 36)), .val (ptr b1 (0 + 2 + (gk) * 36 + (gj) * 6)), .val (.agg (vecC (T (gk) (gj)))), .val (.int .i64 (((sumTo (fun i => ((T (gk) (gj))) i * f i) 6 % p : Nat) : Int))), .val (.int .u8 (((sumTo (fun i => ((T (gk) (gj))) i * f i) 6 % p : Nat) : Int)))] hmix rfl hF rfl hM ⟨fun a w gG hF hS hd => by exact pmv hS rfl hF rfl, fun a w gG hF hS hd => by exact pmv hS rfl hF rfl, fun a w gG hF hS hd => by have hF := hF.ext1 23 (hd 0 rfl rfl); have hF := hF.ext1 24 (hd 1 rfl rfl); exact par_val hS rfl (g_indexSl (i := gk) ty_sl_69 hF rfl rfl rfl (by omega)), fun a w gG hF hS hd => by have hF := hF.ext1 25 (hd 2 rfl rfl); have hM := hS.mem rfl; exact par_val hS rfl (g_load ty_on_71 hF rfl (hM.row 1 rfl) hself), fun a w gG hF hS hd => by exact pmv hS rfl hF rfl, fun a w gG hF hS hd => by have hM := hS.mem rfl; exact par_val hS rfl (g_loadAgg ty_ag_41 hF rfl (hM.row 0 rfl) (by simp only [sz0] <;> omega) (whole cells_size)), fun a w gG hF hS hd => by exact pmv hS rfl hF rfl, fun a w gG hF hS hd => by exact pmv hS rfl hF rfl, fun a w gG hF hS hd => by exact par_val hS rfl (g_fieldAddr ty_fo_41_2 hF rfl), fun a w gG hF hS hd => by have hF := hF.ext1 29 (hd 6 rfl rfl); have hF := hF.ext1 31 (hd 8 rfl rfl); exact par_val hS rfl (g_indexAddr ty_ar_34 hF rfl rfl rfl (by omega)), fun a w gG hF hS hd => by have hF := hF.ext1 30 (hd 7 rfl rfl); have hF := hF.ext1 32 (hd 9 rfl rfl); exact par_val hS rfl (g_indexAddr ty_ar_33 hF rfl rfl rfl (by omega)), fun a w gG hF hS hd => by have hF := hF.ext1 33 (hd 10 rfl rfl); have hM := hS.mem rfl; exact par_val hS rfl (g_loadAgg ty_ag_32 hF rfl (hM.row 0 rfl) (by simp only [sz0] <;> omega) (algC_row (gk) (gj) (by omega) (by omega) (by omega) (by omega))), fun a w gG hF hS hd => by have hF := hF.ext1 28 (hd 5 rfl rfl); have hF := hF.ext1 34 (hd 11 rfl rfl); exact par_call (by repeat constructor) hS rfl (d_call Try.call64 hF (.cons rfl (.cons rfl .nil)) (form_ok p n T f ((T (gk) (gj))) _ (by omega) (fun _ => by first | exact hv _ | exact hvt _ | exact hvs _ | exact hu _ | exact hT _ _ _ | exact hf _ | omega | (split <;> omega) | (dsimp only; split <;> omega) | assumption) (fun _ => by first | exact hv _ | exact hvt _ | exact hvs _ | exact hu _ | exact hT _ _ _ | exact hf _ | omega | (split <;> omega) | (dsimp only; split <;> omega) | assumption))), fun a w gG hF hS hd => by have hF := hF.ext1 35 (hd 12 rfl rfl); exact par_val hS rfl (g_conv ty_un_5 ty_ud_2 hF rfl (wrap_u8 (by omega) (by have := Nat.mod_lt (sumTo (fun k => T gk gj k * f k) 6) hp; omega))), trivial⟩ ?_;intro a w' L hF hS hq;have hF := hF.ext1 23 (hq 0 rfl rfl);have hF := hF.ext1 24 (hq 1 rfl rfl);have hF := hF.ext1 25 (hq 2 rfl rfl);have hF := hF.ext1 26 (hq 3 rfl rfl);have hF := hF.ext1 27 (hq 4 rfl rfl);have hF := hF.ext1 28 (hq 5 rfl rfl);have hF := hF.ext1 29 (hq 6 rfl rfl);have hF := hF.ext1 30 (hq 7 rfl rfl);have hF := hF.ext1 31 (hq 8 rfl rfl);have hF := hF.ext1 32 (hq 9 rfl rfl);have hF := hF.ext1 33 (hq 10 rfl rfl);have hF := hF.ext1 34 (hq 11 rfl rfl);have hF := hF.ext1 35 (hq 12 rfl rfl);have hF := hF.ext1 36 (hq 13 rfl rfl);have hM := hS.mem rfl;change wpList Try.prog _ _ [_, _] _ _;refine st hF (g_indexSl (i := gj) ty_sl_71 hF rfl rfl rfl (by omega)) rfl fun a hF => stN hF (d_store 2 hM rfl ty_on_5 hF rfl rfl rfl (by first | omega | (simp only [sz0] <;> omega) | simp)) ?_;intro _ w' a hM hF;rw [show (fnC 6 (fun c => .int .u8 ((if c < gj then sumTo (fun k => T gk c k * f k) 6 % p else 0 : Nat) : Int))).setIfInBounds (0 + (gj) * 1) (.int .u8 (((sumTo (fun i => ((T (gk) (gj))) i * f i) 6 % p : Nat) : Int))) = fnC 6 (fun c => .int .u8 (((if c = gj then sumTo (fun i => ((T (gk) (gj))) i * f i) 6 % p else if c < gj then sumTo (fun k => T gk c k * f k) 6 % p else 0) : Nat) : Int)) from fnC_set (fun c _ => by rw [show 0 + (gj) * 1 = gj by omega]; by_cases hh : c = gj <;> simp [hh])] at hM
      change Mem w w' [some (b1, algC (p : Int) (n : Int) T f), some (bo, (cso).setIfInBounds (0 + (gk) * 1) (.slice (some ⟨b4, 0, none⟩) 6 6)), some (b4, fnC 6 (fun c => .int .u8 (((if c = gj then sumTo (fun i => ((T (gk) (gj))) i * f i) 6 % p else if c < gj then sumTo (fun k => T gk c k * f k) 6 % p else 0) : Nat) : Int)))] D1 at hM;refine wpList_nil <| iN <| tN <| wp_region_lit <| st hF (g_add hF rfl rfl (add_nat (gj) (1) (by omega))) rfl fun a hF => mv hF rfl rfl fun a hF => nt <| ⟨gj + 1, ⟨by omega, trivial, hF.sub _ (by repeat' constructor), ?_⟩, by omega⟩;refine hM.rowc 2 rfl (fnC_congr fun c hc => congrArg (Value.int .u8) (congrArg Nat.cast ?_))
      by_cases e1 : c = gj
      · simp [e1]
      · have e0 : (c < gj + 1) = (c < gj) := by apply propext; omega
        simp [e0, e1]
    obtain rfl : n = gj := by omega
    refine wp_exit <| tX <| tX <| ib_same <| iN <| tN <| wp_region_lit <| st hF (g_add hF rfl rfl (add_nat (gk) (1) (by omega))) rfl fun a hF => mv hF rfl rfl fun a hF => wpList_nil <| tN ?_;have hgb := hM.ge 2 rfl;have hnb := fun i hi => (hM.froz _ _ (hB.mem i hi)).2 2 b4 _ rfl;have hM := hM.freeze 2 rfl;have hB := ((hB.more (D' := (b4, fnC 6 (fun c => .int .u8 ((if c < n then sumTo (fun k => T gk c k * f k) 6 % p else 0 : Nat) : Int))) :: D1) (fun x hx => List.mem_cons_of_mem _ hx)).snoc (r := formM p n T f gk) rfl (List.mem_cons_self ..) hnb).congr (M' := formM p n T f) (fun i hi c hc => by
      by_cases e : i = gk <;> simp [upE, e])
    have hgo : ∀ i, i < gk + 1 → ((cso).setIfInBounds (0 + (gk) * 1) (.slice (some ⟨b4, 0, none⟩) 6 6))[0 + i * 1]? = some (.slice (some ⟨up β gk b4 i, 0, none⟩) 6 6) := fun i hi => by
      unfold up
      by_cases e : i = gk
      · rw [if_pos e, e]; exact hself
      · rw [if_neg e, Array.getElem?_setIfInBounds_ne (by omega)]; exact hgo i (by omega)
    have hbg : ∀ i, i < gk + 1 → w.heap.size ≤ up β gk b4 i := fun i hi => by
      unfold up; split
      · exact hgb
      · exact hbg i (by omega)
    skip
    have hM := hM.drop 2;refine ⟨gk + 1, ⟨by omega, ((b4, fnC 6 (fun c => .int .u8 ((if c < n then sumTo (fun k => T gk c k * f k) 6 % p else 0 : Nat) : Int))) :: D1), (up β gk b4), ((cso).setIfInBounds (0 + (gk) * 1) (.slice (some ⟨b4, 0, none⟩) 6 6)), ⟨by rw [Array.size_setIfInBounds]; exact hso, hgo, hB, hbg⟩, hF.sub _ (by repeat' constructor), ?_⟩, by omega⟩;exact hM
  obtain rfl : n = gk := by omega
  refine wp_exit <| tX <| tX <| ib_same <| tN <| sr <| mv hF rfl rfl fun a hF => ag hF rfl rfl fun a hF => nt <| wp_ret <| fin1 rfl hF.defers (res_tmp hF rfl) ⟨_, rfl, hM.below, ?_⟩;exact BytesOut.of hM (k := 1) rfl hB hbg (by omega) hgo
end Go.Proofs.Ythgbonkfhcnmfaa
