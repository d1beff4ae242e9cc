/- What functions of the program return, as walks over their operations; no statement of the seat is proved here. -/
import Derived.Test.YtbmgeapfninlkaaV1
import Derived.Test.YtbmgeapfninlkaaSw10
set_option linter.unusedVariables false
set_option linter.unusedSimpArgs false
namespace Go.Proofs.Ytbmgeapfninlkaa
open Go Go.RowKit Go.Sw
open Classical
theorem IsWordI_all (s : ByteArray) (w : World) : CallsR Try.prog 27 #[.string s] w (fun r _ => r = .bool (decide (WD s))) := by
  by_cases h0 : s.size = 0
  · obtain rfl := str_e0 h0
    exact CallsR.val (IsWordI_E w) (congrArg Value.bool (decide_eq_true (show WD (⟨#[]⟩ : ByteArray) from Or.inl rfl)).symm)
  · by_cases hp : WordP s
    · exact CallsR.val (IsWordI_Y s w hp (by omega)) (congrArg Value.bool (decide_eq_true (show WD s from Or.inr hp)).symm)
    · have hW : ¬ WD s := fun h => h.elim h0 hp
      by_cases h3 : s.size ≤ 300
      · exact CallsR.val (IsWordI_N s w hp (by omega) h3) (congrArg Value.bool (decide_eq_false hW).symm)
      · exact CallsR.val (IsWordI_L s w (by omega)) (congrArg Value.bool (decide_eq_false hW).symm)
def layG (F : Nat → ByteArray) (gx gy : Nat → Int) (q : Nat) : Value := if q % 3 = 0 then .string (F (q / 3)) else if q % 3 = 1 then .int .i64 (gx (q / 3)) else .int .i64 (gy (q / 3))
def strF (F : Nat → ByteArray) (i : Nat) : Value := .string (F i)

theorem join_ok (u : Value) (e : Option (Nat × Array Value)) (k : Nat) (F : Nat → ByteArray) (w : World) (hk : k < 100000) (hF : ∀ i, (F i).size ≤ 1000) (hs : Sl 1 u e k (strF F)) (hb : ∀ b cs, e = some (b, cs) → Blk w b cs) : CallsR Try.prog 26 #[u, .string (⟨#[47]⟩ : ByteArray)] w (fun r _ => r = .string (jw F k)) := by
  have none_ : ∀ a c, k = 0 → CallsR Try.prog 26 #[.slice a 0 c, .string (⟨#[47]⟩ : ByteArray)] w (fun r _ => r = .string (jw F k)) := fun a c h0 =>
    (Try.strings_Join_none a c ⟨#[47]⟩ w).mono fun e w' ⟨h1, h2⟩ => ⟨_, h1, h2 ▸ Ext.refl _, by rw [h0]; rfl⟩
  rcases hs with ⟨rfl, rfl, h0⟩ | ⟨b, cap, cs, hat⟩
  · exact none_ _ _ h0
  · obtain rfl := hat.val
    by_cases h0 : k = 0
    · have := none_ (some ⟨b, 0, none⟩) cap h0
      rwa [show (Value.slice (some ⟨b, 0, none⟩) k cap) = .slice (some ⟨b, 0, none⟩) 0 cap from by rw [h0]]
    · have hblk := hb _ _ hat.ent
      have hlen : ((List.range k).map F).length = k := by simp
      have hmap : ((List.range k).map F).map (·.data.toList) = (List.range k).map fun i => (F i).data.toList := by rw [List.map_map]; rfl
      have hsz := jw_size hF k;have hj : (Go.Lib.join (((List.range k).map F).map (·.data.toList)) (⟨#[47]⟩ : ByteArray).data.toList) = (jw F k).data.toList := by rw [hmap]; exact join_jw k
      have h := Try.strings_Join b 0 cap ((List.range k).map F) ⟨#[47]⟩ w (fun j x hj => by
        rw [List.getElem?_map] at hj
        cases hr : (List.range k)[j]? with
        | none => rw [hr] at hj; cases hj
        | some q =>
          rw [hr] at hj;obtain rfl := Option.some.inj hj;have hq := List.getElem?_eq_some_iff.1 hr;obtain ⟨h1, h2⟩ := hq
          simp at h1 h2
          subst h2;rw [Nat.zero_add, hblk.cell j];exact hat.get j (by omega)) (hblk.lt) (by rw [hlen]; omega) (by rw [hlen]; exact hat.le) (by
        rw [hj, Array.length_toList]
        show (jw F k).size ≤ _
        have : k * (1000 + 1) ≤ 100000 * (1000 + 1) := Nat.mul_le_mul_right _ (by omega)
        omega)
      rw [hlen] at h;exact h.mono fun e w' ⟨h1, h2⟩ => ⟨_, h1, h2, by rw [hj]⟩
theorem wordOfLayers_ok (u : Value) (e : Option (Nat × Array Value)) (k : Nat) (F : Nat → ByteArray) (w : World) (hk : k < 100000) (hFz : ∀ i, (F i).size ≤ 1000) (hs : Sl 1 u e k (strF F)) (hb : ∀ b cs, e = some (b, cs) → Blk w b cs) :
    CallsR Try.prog 16 #[u] w (fun res _ => res = .tuple #[.string (toldT (jw F k)), .int .i64 (toldC (jw F k) : Int)]) := by
  refine calls_fr [u] Try.func16 rfl Try.ntmps16 rfl fun a hF => ?_;have hM : Mem w w [] [] := MemX.start w 0;change Fr 11 a [(0, u)] at hF;refine sr <| ag hF rfl rfl fun a hF => ag hF rfl rfl fun a hF => ns <| mv hF rfl rfl fun a hF => stR hF (d_call Try.call26 hF (.cons rfl (.cons rfl .nil)) (join_ok u e k F _ hk hFz hs (fun b cs he => (hb b cs he).ext hM.below))) rfl ?_;rintro _ w' a ⟨hx, rfl⟩ hF;have hM := hM.ext hx;refine ag hF rfl rfl fun a hF => nt <| sq <| sr <| mv hF rfl rfl fun a hF => stR hF (d_call Try.call27 hF (.cons rfl .nil) (IsWordI_all (jw F k) _)) rfl ?_;rintro _ w' a ⟨hx, rfl⟩ hF;have hM := hM.ext hx;refine st hF (g_notP hF rfl) rfl fun a hF => nt <| c_cond hF rfl (fun h1 => ?_) (fun h1 => ?_)
  · refine sq ?_
    refine wp_region_lit <| ag hF rfl rfl fun a hF => ag hF rfl rfl fun a hF => nt <| wp_ret <| tR <| fin2 rfl hF.defers (res_tmp hF rfl) (res_tmp hF rfl) ⟨_, rfl, hM.below, ?_⟩
    show _ = _
    first | rw [toldT_y (show WD (jw F k) from by first | assumption | exact Decidable.not_not.1 (by assumption)), toldC_y (show WD (jw F k) from by first | assumption | exact Decidable.not_not.1 (by assumption))]; rfl | rw [toldT_n (show ¬ WD (jw F k) from by assumption), toldC_n (show ¬ WD (jw F k) from by assumption)]; rfl
  refine wp_skip <| tN <| sr <| mv hF rfl rfl fun a hF => ag hF rfl rfl fun a hF => ag hF rfl rfl fun a hF => nt <| wp_ret <| fin2 rfl hF.defers (res_tmp hF rfl) (res_tmp hF rfl) ⟨_, rfl, hM.below, ?_⟩
  show _ = _
  first | rw [toldT_y (show WD (jw F k) from by first | assumption | exact Decidable.not_not.1 (by assumption)), toldC_y (show WD (jw F k) from by first | assumption | exact Decidable.not_not.1 (by assumption))]; rfl | rw [toldT_n (show ¬ WD (jw F k) from by assumption), toldC_n (show ¬ WD (jw F k) from by assumption)]; rfl
theorem repeatI : ∀ n, Go.Lib.repeatL [105] n = (repI n).data.toList
  | 0 => rfl
  | n + 1 => by
    rw [Go.Lib.repeatL, repeatI n, repI_list, repI_list]
    rfl
theorem repeat_ok (m : Nat) (w : World) (hm : m ≤ 1000) : CallsR Try.prog 25 #[.string (⟨#[105]⟩ : ByteArray), .int .i64 (m : Int)] w (fun r _ => r = .string (repI m)) :=
  (Try.strings_Repeat ⟨#[105]⟩ m w (by omega) (by rw [show (⟨#[105]⟩ : ByteArray).size = 1 from rfl, Nat.one_mul]; omega)).mono fun e w' ⟨h1, h2⟩ => ⟨_, h1, h2, by
    rw [show (⟨#[105]⟩ : ByteArray).data.toList = [105] from rfl, repeatI]⟩
def txA (s : ByteArray) (h : Nat) : ByteArray := if h < nL s then seg s 47 h else repI (legO s)

theorem strands_ok (m : Nat) (w : World) (hm : m ≤ 1000) :
    CallsR Try.prog 15 #[.int .i64 (m : Int)] w (fun res _ => res = .string (repI m)) := by
  refine calls_fr [.int .i64 (m : Int)] Try.func15 rfl Try.ntmps15 rfl fun a hF => ?_;have hM : Mem w w [] [] := MemX.start w 0;change Fr 5 a [(0, .int .i64 (m : Int))] at hF;refine sr <| ag hF rfl rfl fun a hF => ns <| mv hF rfl rfl fun a hF => stR hF (d_call Try.call25 hF (.cons rfl (.cons rfl .nil)) (repeat_ok (m) _ (by omega))) rfl ?_;rintro _ w' a ⟨hx, rfl⟩ hF;have hM := hM.ext hx;refine ag hF rfl rfl fun a hF => nt <| wp_ret <| fin1 rfl hF.defers (res_tmp hF rfl) ⟨_, rfl, hM.below, ?_⟩
  show _ = _
  rfl
end Go.Proofs.Ytbmgeapfninlkaa

namespace Go.Proofs.Ytbmgeapfninlkaa
open Go Go.RowKit Go.Sw
open Classical
def mxL (v w : ByteArray) : Nat := max (nL v) (nL w)
end Go.Proofs.Ytbmgeapfninlkaa
