/- What functions of the program return, as walks over their operations; no statement of the seat is proved here. -/
import Derived.Test.YtbmgeapfninlkaaR2
set_option linter.unusedVariables false
set_option linter.unusedSimpArgs false
namespace Go.Proofs.Ytbmgeapfninlkaa
open Go Go.RowKit Go.Sw
open Classical
theorem l04Strands_ok (m : Nat) (w : World) (hm : m ≤ 1000) :
    CallsR Try.prog 13 #[.int .i64 (m : Int)] w (fun res _ => res = .string (repI m)) := by
  refine calls_fr [.int .i64 (m : Int)] Try.func13 rfl Try.ntmps13 rfl fun a hF => ?_;have hM : Mem w w [] [] := MemX.start w 0;change Fr 11 a [(0, .int .i64 (m : Int))] at hF;refine sr <| ag hF rfl rfl fun a hF => ns <| ag hF rfl rfl fun a hF => nt <| sq <| wp_block ?_;change Mem w _ [] [] at hM;refine c_loop (fun (kk : Nat) a w' => kk ≤ m ∧ (True) ∧ Fr 11 a [(2, .string (⟨#[]⟩)), (0, .int .i64 (((m - kk : Nat) : Int))), (3, .string ((repI kk)))] ∧ Mem w w' [] []) (fun kk => m - kk) 0 ?_ ?_
  · refine ⟨by omega, trivial, hF.sub _ (by repeat' constructor), ?_⟩
    exact hM
  clear hF hM;rintro gk a w' ⟨hgk, hinv1, hF, hM⟩;refine sq <| sr <| mv hF rfl rfl fun a hF => st hF (g_gtr hF rfl rfl) rfl fun a hF => nt <| c_cond hF rfl (fun h1 => ?_) (fun h1 => ?_)
  · refine wp_skip ?_
    refine tN <| sq <| wp_block <| wp_region_lit <| mv hF rfl rfl fun a hF => st hF (g_addS hF rfl rfl (by rw [repI_size]; have e1 : (⟨#[105]⟩ : ByteArray).size = 1 := rfl; omega)) rfl fun a hF => ag hF rfl rfl fun a hF => wpList_nil <| iN <| tN <| wp_region_lit <| mv hF rfl rfl fun a hF => st hF (g_sub hF rfl rfl (show _ = ((m - (gk + 1) : Nat) : Int) from (by rw [wrap_i64] <;> omega))) rfl fun a hF => ag hF rfl rfl fun a hF => wpList_nil <| tN ?_;rw [show repI gk ++ (⟨#[105]⟩ : ByteArray) = repI (gk + 1) from rfl] at hF;refine ⟨gk + 1, ⟨by omega, trivial, hF.sub _ (by repeat' constructor), ?_⟩, by omega⟩;exact hM
  refine wp_exit <| tX <| tX <| ib_same <| tN <| sr <| mv hF rfl rfl fun a hF => ag hF rfl rfl fun a hF => nt <| wp_ret <| fin1 rfl hF.defers (res_tmp hF rfl) ⟨_, rfl, hM.below, ?_⟩
  show _ = _
  rw [show gk = m by omega]
theorem l04Joined_S (bl cl k : Nat) (cs : Array Value) (v : Value) (e : Option (Nat × Array Value)) (F : Nat → ByteArray) (w : World) (hk : k < 100000) (hFz : ∀ i, (F i).size ≤ 1000) (hs : SlAt 1 v e k bl cl cs (strF F)) (hb : Blk w bl cs) :
    CallsR Try.prog 14 #[.slice (some ⟨bl, 0, none⟩) k cl] w (fun res _ => res = .string (jw F k)) := by
  refine calls_fr [.slice (some ⟨bl, 0, none⟩) k cl] Try.func14 rfl Try.ntmps14 rfl fun a hF => ?_;have hM : Mem w w [] [(bl, cs)] := MemX.startD w 0 _ (startD1 hb);change Fr 22 a [(0, .slice (some ⟨bl, 0, none⟩) k cl)] at hF;refine sr <| ag hF rfl rfl fun a hF => ns <| ag hF rfl rfl fun a hF => nt <| sq <| sr <| ag hF rfl rfl fun a hF => nt <| wp_block ?_;change Mem w _ [] [(bl, cs)] at hM;refine c_loop (fun (kk : Nat) a w' => kk ≤ k ∧ (True) ∧ Fr 22 a [(0, .slice (some ⟨bl, 0, none⟩) k cl), (2, .string (⟨#[]⟩)), (4, .int .i64 (kk : Int)), (3, .string ((jw F kk)))] ∧ Mem w w' [] [(bl, cs)]) (fun kk => k - kk) 0 ?_ ?_
  · refine ⟨by omega, trivial, hF.sub _ (by repeat' constructor), ?_⟩
    exact hM
  clear hF hM;rintro gk a w' ⟨hgk, hinv1, hF, hM⟩;refine sq <| sr <| mv hF rfl rfl fun a hF => mv hF rfl rfl fun a hF => st hF (g_len ty_us_27 hF rfl) rfl fun a hF => st hF (g_lss hF rfl rfl) rfl fun a hF => nt <| c_cond hF rfl (fun h1 => ?_) (fun h1 => ?_)
  · refine wp_skip ?_
    refine tN <| sq <| wp_block <| sq <| sr <| mv hF rfl rfl fun a hF => st hF (g_gtr hF rfl rfl) rfl fun a hF => nt <| c_cond hF rfl (fun h2 => ?_) (fun h2 => ?_)
    · refine wp_region_lit ?_
      refine mv hF rfl rfl fun a hF => st hF (g_addS hF rfl rfl (by have hj1 := jw_size hFz gk; have hj2 := hFz gk; have hj3 : gk * (1000 + 1) ≤ 100000 * (1000 + 1) := Nat.mul_le_mul_right _ (by omega); have e1 : (⟨#[47]⟩ : ByteArray).size = 1 := rfl; omega)) rfl fun a hF => ag hF rfl rfl fun a hF => nt <| wp_region_lit <| mv hF rfl rfl fun a hF => mv hF rfl rfl fun a hF => mv hF rfl rfl fun a hF => st hF (g_indexSl (i := gk) ty_sl_27 hF rfl rfl rfl (by omega)) rfl fun a hF => st hF (g_load ty_on_9 hF rfl (hM.fz 0 rfl) (hs.get1 (gk) (by omega))) rfl fun a hF => st hF (g_addS hF rfl rfl (by have hj1 := jw_size hFz gk; have hj2 := hFz gk; have hj3 : gk * (1000 + 1) ≤ 100000 * (1000 + 1) := Nat.mul_le_mul_right _ (by omega); have e1 : (⟨#[47]⟩ : ByteArray).size = 1 := rfl; first | omega | (rw [ByteArray.size_append]; omega))) rfl fun a hF => ag hF rfl rfl fun a hF => wpList_nil <| iN <| tN <| wp_region_lit <| mv hF rfl rfl fun a hF => st hF (g_add hF rfl rfl (add_nat (gk) (1) (by omega))) rfl fun a hF => ag hF rfl rfl fun a hF => wpList_nil <| tN ?_;rw [show (jw F gk ++ (⟨#[47]⟩ : ByteArray)) ++ F gk = jw F (gk + 1) from (jw_next (by omega)).symm] at hF;refine ⟨gk + 1, ⟨by omega, trivial, hF.sub _ (by repeat' constructor), ?_⟩, by omega⟩;exact hM
    refine wp_skip <| tN <| wp_region_lit <| mv hF rfl rfl fun a hF => mv hF rfl rfl fun a hF => mv hF rfl rfl fun a hF => st hF (g_indexSl (i := gk) ty_sl_27 hF rfl rfl rfl (by omega)) rfl fun a hF => st hF (g_load ty_on_9 hF rfl (hM.fz 0 rfl) (hs.get1 (gk) (by omega))) rfl fun a hF => st hF (g_addS hF rfl rfl (by have hj1 := jw_size hFz gk; have hj2 := hFz gk; have hj3 : gk * (1000 + 1) ≤ 100000 * (1000 + 1) := Nat.mul_le_mul_right _ (by omega); have e1 : (⟨#[47]⟩ : ByteArray).size = 1 := rfl; first | omega | (rw [ByteArray.size_append]; omega))) rfl fun a hF => ag hF rfl rfl fun a hF => wpList_nil <| iN <| tN <| wp_region_lit <| mv hF rfl rfl fun a hF => st hF (g_add hF rfl rfl (add_nat (gk) (1) (by omega))) rfl fun a hF => ag hF rfl rfl fun a hF => wpList_nil <| tN ?_;rw [show jw F gk ++ F gk = jw F (gk + 1) from by rw [show gk = 0 by omega, jw_one]; exact emp_app] at hF;refine ⟨gk + 1, ⟨by omega, trivial, hF.sub _ (by repeat' constructor), ?_⟩, by omega⟩;exact hM
  obtain rfl : k = gk := by omega
  refine wp_exit <| tX <| tX <| ib_same <| tN <| sr <| mv hF rfl rfl fun a hF => ag hF rfl rfl fun a hF => nt <| wp_ret <| fin1 rfl hF.defers (res_tmp hF rfl) ⟨_, rfl, hM.below, ?_⟩
  show _ = _
  rfl
theorem l04Joined_nil  (w : World)  :
    CallsR Try.prog 14 #[.slice none 0 0] w (fun res _ => res = .string (⟨#[]⟩ : ByteArray)) := by
  refine calls_fr [.slice none 0 0] Try.func14 rfl Try.ntmps14 rfl fun a hF => ?_;have hM : Mem w w [] [] := MemX.start w 0;change Fr 22 a [(0, .slice none 0 0)] at hF;refine sr <| ag hF rfl rfl fun a hF => ns <| ag hF rfl rfl fun a hF => nt <| sq <| sr <| ag hF rfl rfl fun a hF => nt <| wp_block ?_;change Mem w _ [] [] at hM;refine c_loop (fun (kk : Nat) a w' => kk ≤ 0 ∧ (True) ∧ Fr 22 a [(0, .slice none 0 0), (2, .string (⟨#[]⟩)), (4, .int .i64 (kk : Int)), (3, .string (⟨#[]⟩))] ∧ Mem w w' [] []) (fun kk => 0 - kk) 0 ?_ ?_
  · refine ⟨by omega, trivial, hF.sub _ (by repeat' constructor), ?_⟩
    exact hM
  clear hF hM;rintro gk a w' ⟨hgk, hinv1, hF, hM⟩;refine sq <| sr <| mv hF rfl rfl fun a hF => mv hF rfl rfl fun a hF => st hF (g_len0 ty_us_27 hF rfl) rfl fun a hF => st hF (g_lss hF rfl rfl) rfl fun a hF => nt <| c_cond hF rfl (fun h1 => ?_) (fun h1 => ?_)
  · exfalso; omega
  obtain rfl : 0 = gk := by omega
  refine wp_exit <| tX <| tX <| ib_same <| tN <| sr <| mv hF rfl rfl fun a hF => ag hF rfl rfl fun a hF => nt <| wp_ret <| fin1 rfl hF.defers (res_tmp hF rfl) ⟨_, rfl, hM.below, ?_⟩
  show _ = _
  rfl
theorem l04Joined_ok (u : Value) (e : Option (Nat × Array Value)) (k : Nat) (F : Nat → ByteArray) (w : World) (hk : k < 100000) (hFz : ∀ i, (F i).size ≤ 1000) (hs : Sl 1 u e k (strF F)) (hb : ∀ b cs, e = some (b, cs) → Blk w b cs) : CallsR Try.prog 14 #[u] w (fun r _ => r = .string (jw F k)) := by
  rcases hs with ⟨rfl, rfl, h0⟩ | ⟨b, cap, cs, hat⟩
  · exact CallsR.val (l04Joined_nil w) (by rw [h0]; rfl)
  · obtain rfl := hat.val
    exact l04Joined_S b cap k cs _ _ F w hk hFz hat (hb _ _ hat.ent)
end Go.Proofs.Ytbmgeapfninlkaa
