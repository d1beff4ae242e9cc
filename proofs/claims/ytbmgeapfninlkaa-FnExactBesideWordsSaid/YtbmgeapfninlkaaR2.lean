/- What functions of the program return, as walks over their operations; no statement of the seat is proved here. -/
import Derived.Test.YtbmgeapfninlkaaV1
import Derived.Test.YtbmgeapfninlkaaSw10
set_option linter.unusedVariables false
set_option linter.unusedSimpArgs false
namespace Go.Proofs.Ytbmgeapfninlkaa
open Go Go.RowKit Go.Sw
open Classical
theorem layersOf_W (s : ByteArray) (w : World) (hW : WD s) : CallsR Try.prog 20 #[.string s] w (fun u w' => ∃ l, u = .tuple #[l, .bool true] ∧ LstOut 3 w (nL s) (layF s) l w') := by
  by_cases h0 : s.size = 0
  · obtain rfl := str_e0 h0
    exact (layersOf_E w).mono fun v w' _ h3 => ⟨_, h3, .inl ⟨rfl, nL_0 rfl⟩⟩
  · have hp := hW.resolve_left h0
    exact (layersOf_Y s w hp (by omega)).mono fun v w' _ ⟨l, h3, h4⟩ => ⟨l, h3, .inr ⟨by rw [nL_y (by omega)]; unfold nSg; omega, by rw [nL_y (by omega)]; exact h4⟩⟩
theorem layersOf_any (s : ByteArray) (w : World) : CallsR Try.prog 20 #[.string s] w (fun u w' => ∃ l, u = .tuple #[l, .bool (decide (WD s))]) := by
  by_cases hW : WD s
  · exact (layersOf_W s w hW).mono fun v w' _ ⟨l, h3, _⟩ => ⟨l, by rw [decide_eq_true hW]; exact h3⟩
  · have h0 : ¬ s.size = 0 := fun h => hW (.inl h)
    have hp : ¬ WordP s := fun h => hW (.inr h)
    by_cases h3 : s.size ≤ 300
    · exact (layersOf_N s w hp (by omega) h3).mono fun v w' _ h3 => ⟨_, by rw [decide_eq_false hW]; exact h3⟩
    · exact (layersOf_L s w (by omega)).mono fun v w' _ h3 => ⟨_, by rw [decide_eq_false hW]; exact h3⟩
theorem IsWordI_all (s : ByteArray) (w : World) : CallsR Try.prog 27 #[.string s] w (fun r _ => r = .bool (decide (WD s))) := by
  by_cases h0 : s.size = 0
  · obtain rfl := str_e0 h0
    exact CallsR.val (IsWordI_E w) (congrArg Value.bool (decide_eq_true (show WD (⟨#[]⟩ : ByteArray) from Or.inl rfl)).symm)
  · by_cases hp : WordP s
    · exact CallsR.val (IsWordI_Y s w hp (by omega)) (congrArg Value.bool (decide_eq_true (show WD s from Or.inr hp)).symm)
    · have hW : ¬ WD s := fun h => h.elim h0 hp
      by_cases h3 : s.size ≤ 300
      · exact CallsR.val (IsWordI_N s w hp (by omega) h3) (congrArg Value.bool (decide_eq_false hW).symm)
      · exact CallsR.val (IsWordI_L s w (by omega)) (congrArg Value.bool (decide_eq_false hW).symm)
theorem l04Is_all (s : ByteArray) (w : World) (hz : s.size < 10000000) : CallsR Try.prog 17 #[.string s] w (fun r _ => r = .bool (decide (WD s))) := by
  by_cases h0 : s.size = 0
  · obtain rfl := str_e0 h0
    exact CallsR.val (l04Is_E w) (congrArg Value.bool (decide_eq_true (show WD (⟨#[]⟩ : ByteArray) from Or.inl rfl)).symm)
  · by_cases hp : WordP s
    · exact CallsR.val (l04Is_Y s w hp (by omega)) (congrArg Value.bool (decide_eq_true (show WD s from Or.inr hp)).symm)
    · have hW : ¬ WD s := fun h => h.elim h0 hp
      exact CallsR.val (l04Is_N s w hp (by omega) hz) (congrArg Value.bool (decide_eq_false hW).symm)
theorem endsOf_W (s : ByteArray) (u : Value) (e : Option (Nat × Array Value)) (w : World) (hW : WD s) (hs : SlN 3 u e (nL s) (layF s)) (hb : ∀ b cs, e = some (b, cs) → Blk w b cs) : CallsR Try.prog 21 #[u] w (fun r _ => r = .tuple #[.int .i64 (legI s : Int), .int .i64 (legO s : Int)]) := by
  have hsz := hW.size
  by_cases h0 : s.size = 0
  · rcases hs with ⟨rfl, _, _⟩ | ⟨h, _⟩
    · exact CallsR.val (endsOf_nil w) (by unfold legI legO; rw [if_pos h0, if_pos h0]; rfl)
    · rw [nL_0 h0] at h; omega
  · rcases hs with ⟨_, _, h⟩ | ⟨_, b, cap, cs, hat⟩
    · rw [nL_y (by omega)] at h; unfold nSg at h; omega
    · rw [nL_y (by omega)] at hat
      obtain rfl := hat.val;exact CallsR.val (endsOf_S s b cap cs _ _ w hat (hb _ _ hat.ent) (by omega)) (by unfold legI legO; rw [if_neg h0, if_neg h0])
theorem l04Ends_W (s : ByteArray) (w : World) (hW : WD s) : CallsR Try.prog 18 #[.string s] w (fun r _ => r = .tuple #[.int .i64 (legI s : Int), .int .i64 (legO s : Int)]) := by
  by_cases h0 : s.size = 0
  · obtain rfl := str_e0 h0
    exact CallsR.val (l04Ends_E w) (by unfold legI legO; rw [if_pos h0, if_pos h0]; rfl)
  · exact CallsR.val (l04Ends_Y s w (hW.resolve_left h0) (by omega)) (by unfold legI legO; rw [if_neg h0, if_neg h0])
def layG (F : Nat → ByteArray) (gx gy : Nat → Int) (q : Nat) : Value := if q % 3 = 0 then .string (F (q / 3)) else if q % 3 = 1 then .int .i64 (gx (q / 3)) else .int .i64 (gy (q / 3))
def strF (F : Nat → ByteArray) (i : Nat) : Value := .string (F i)

theorem join_ok (u : Value) (e : Option (Nat × Array Value)) (k : Nat) (F : Nat → ByteArray) (w : World) (hk : k < 100000) (hF : ∀ i, (F i).size ≤ 1000) (hs : Sl 1 u e k (strF F)) (hb : ∀ b cs, e = some (b, cs) → Blk w b cs) : CallsR Try.prog 26 #[u, .string (⟨#[47]⟩ : ByteArray)] w (fun r _ => r = .string (jw F k)) := by
  have none_ : ∀ a c, k = 0 → CallsR Try.prog 26 #[.slice a 0 c, .string (⟨#[47]⟩ : ByteArray)] w (fun r _ => r = .string (jw F k)) := fun a c h0 =>
    (Try.strings_Join_none a c ⟨#[47]⟩ w).mono fun e w' ⟨h1, h2⟩ => ⟨_, h1, h2 ▸ Ext.refl _, by rw [h0]; rfl⟩
  rcases hs with ⟨rfl, rfl, h0⟩ | ⟨b, cap, cs, hat⟩
  · exact none_ _ _ h0
  · obtain rfl := hat.val
    by_cases h0 : k = 0
    · have := none_ (some ⟨b, 0, none⟩) cap h0
      rwa [show (Value.slice (some ⟨b, 0, none⟩) k cap) = .slice (some ⟨b, 0, none⟩) 0 cap from by rw [h0]]
    · have hblk := hb _ _ hat.ent
      have hlen : ((List.range k).map F).length = k := by simp
      have hmap : ((List.range k).map F).map (·.data.toList) = (List.range k).map fun i => (F i).data.toList := by rw [List.map_map]; rfl
      have hsz := jw_size hF k;have hj : (Go.Lib.join (((List.range k).map F).map (·.data.toList)) (⟨#[47]⟩ : ByteArray).data.toList) = (jw F k).data.toList := by rw [hmap]; exact join_jw k
      have h := Try.strings_Join b 0 cap ((List.range k).map F) ⟨#[47]⟩ w (fun j x hj => by
        rw [List.getElem?_map] at hj
        cases hr : (List.range k)[j]? with
        | none => rw [hr] at hj; cases hj
        | some q =>
          rw [hr] at hj;obtain rfl := Option.some.inj hj;have hq := List.getElem?_eq_some_iff.1 hr;obtain ⟨h1, h2⟩ := hq
          simp at h1 h2
          subst h2;rw [Nat.zero_add, hblk.cell j];exact hat.get j (by omega)) (hblk.lt) (by rw [hlen]; omega) (by rw [hlen]; exact hat.le) (by
        rw [hj, Array.length_toList]
        show (jw F k).size ≤ _
        have : k * (1000 + 1) ≤ 100000 * (1000 + 1) := Nat.mul_le_mul_right _ (by omega)
        omega)
      rw [hlen] at h;exact h.mono fun e w' ⟨h1, h2⟩ => ⟨_, h1, h2, by rw [hj]⟩
theorem wordOfLayers_ok (u : Value) (e : Option (Nat × Array Value)) (k : Nat) (F : Nat → ByteArray) (w : World) (hk : k < 100000) (hFz : ∀ i, (F i).size ≤ 1000) (hs : Sl 1 u e k (strF F)) (hb : ∀ b cs, e = some (b, cs) → Blk w b cs) :
    CallsR Try.prog 16 #[u] w (fun res _ => res = .tuple #[.string (toldT (jw F k)), .int .i64 (toldC (jw F k) : Int)]) := by
  refine calls_fr [u] Try.func16 rfl Try.ntmps16 rfl fun a hF => ?_;have hM : Mem w w [] [] := MemX.start w 0;change Fr 11 a [(0, u)] at hF;refine sr <| ag hF rfl rfl fun a hF => ag hF rfl rfl fun a hF => ns <| mv hF rfl rfl fun a hF => stR hF (d_call Try.call26 hF (.cons rfl (.cons rfl .nil)) (join_ok u e k F _ hk hFz hs (fun b cs he => (hb b cs he).ext hM.below))) rfl ?_;rintro _ w' a ⟨hx, rfl⟩ hF;have hM := hM.ext hx;refine ag hF rfl rfl fun a hF => nt <| sq <| sr <| mv hF rfl rfl fun a hF => stR hF (d_call Try.call27 hF (.cons rfl .nil) (IsWordI_all (jw F k) _)) rfl ?_;rintro _ w' a ⟨hx, rfl⟩ hF;have hM := hM.ext hx;refine st hF (g_notP hF rfl) rfl fun a hF => nt <| c_cond hF rfl (fun h1 => ?_) (fun h1 => ?_)
  · refine sq ?_
    refine wp_region_lit <| ag hF rfl rfl fun a hF => ag hF rfl rfl fun a hF => nt <| wp_ret <| tR <| fin2 rfl hF.defers (res_tmp hF rfl) (res_tmp hF rfl) ⟨_, rfl, hM.below, ?_⟩
    show _ = _
    first | rw [toldT_y (show WD (jw F k) from by first | assumption | exact Decidable.not_not.1 (by assumption)), toldC_y (show WD (jw F k) from by first | assumption | exact Decidable.not_not.1 (by assumption))]; rfl | rw [toldT_n (show ¬ WD (jw F k) from by assumption), toldC_n (show ¬ WD (jw F k) from by assumption)]; rfl
  refine wp_skip <| tN <| sr <| mv hF rfl rfl fun a hF => ag hF rfl rfl fun a hF => ag hF rfl rfl fun a hF => nt <| wp_ret <| fin2 rfl hF.defers (res_tmp hF rfl) (res_tmp hF rfl) ⟨_, rfl, hM.below, ?_⟩
  show _ = _
  first | rw [toldT_y (show WD (jw F k) from by first | assumption | exact Decidable.not_not.1 (by assumption)), toldC_y (show WD (jw F k) from by first | assumption | exact Decidable.not_not.1 (by assumption))]; rfl | rw [toldT_n (show ¬ WD (jw F k) from by assumption), toldC_n (show ¬ WD (jw F k) from by assumption)]; rfl
theorem repeatI : ∀ n, Go.Lib.repeatL [105] n = (repI n).data.toList
  | 0 => rfl
  | n + 1 => by
    rw [Go.Lib.repeatL, repeatI n, repI_list, repI_list]
    rfl
theorem repeat_ok (m : Nat) (w : World) (hm : m ≤ 1000) : CallsR Try.prog 25 #[.string (⟨#[105]⟩ : ByteArray), .int .i64 (m : Int)] w (fun r _ => r = .string (repI m)) :=
  (Try.strings_Repeat ⟨#[105]⟩ m w (by omega) (by rw [show (⟨#[105]⟩ : ByteArray).size = 1 from rfl, Nat.one_mul]; omega)).mono fun e w' ⟨h1, h2⟩ => ⟨_, h1, h2, by
    rw [show (⟨#[105]⟩ : ByteArray).data.toList = [105] from rfl, repeatI]⟩
def txA (s : ByteArray) (h : Nat) : ByteArray := if h < nL s then seg s 47 h else repI (legO s)

theorem strands_ok (m : Nat) (w : World) (hm : m ≤ 1000) :
    CallsR Try.prog 15 #[.int .i64 (m : Int)] w (fun res _ => res = .string (repI m)) := by
  refine calls_fr [.int .i64 (m : Int)] Try.func15 rfl Try.ntmps15 rfl fun a hF => ?_;have hM : Mem w w [] [] := MemX.start w 0;change Fr 5 a [(0, .int .i64 (m : Int))] at hF;refine sr <| ag hF rfl rfl fun a hF => ns <| mv hF rfl rfl fun a hF => stR hF (d_call Try.call25 hF (.cons rfl (.cons rfl .nil)) (repeat_ok (m) _ (by omega))) rfl ?_;rintro _ w' a ⟨hx, rfl⟩ hF;have hM := hM.ext hx;refine ag hF rfl rfl fun a hF => nt <| wp_ret <| fin1 rfl hF.defers (res_tmp hF rfl) ⟨_, rfl, hM.below, ?_⟩
  show _ = _
  rfl
theorem textAt_lo (s : ByteArray) (bl cl h : Nat) (cs : Array Value) (v : Value) (e : Option (Nat × Array Value)) (w : World) (hh : h < nL s) (hs : SlAt 3 v e (nL s) bl cl cs (layF s)) (hb : Blk w bl cs) :
    CallsR Try.prog 24 #[.slice (some ⟨bl, 0, none⟩) (nL s) (cl), .int .i64 (h : Int)] w (fun res _ => res = .string (seg s 47 h)) := by
  refine calls_fr [.slice (some ⟨bl, 0, none⟩) (nL s) (cl), .int .i64 (h : Int)] Try.func24 rfl Try.ntmps24 rfl fun a hF => ?_;have hM : Mem w w [] [(bl, cs)] := MemX.startD w 0 _ (startD1 hb);change Fr 23 a [(0, .slice (some ⟨bl, 0, none⟩) (nL s) (cl)), (1, .int .i64 (h : Int))] at hF;refine sr <| ag hF rfl rfl fun a hF => nt <| sq <| sr <| mv hF rfl rfl fun a hF => mv hF rfl rfl fun a hF => st hF (g_len ty_us_35 hF rfl) rfl fun a hF => st hF (g_lss hF rfl rfl) rfl fun a hF => nt <| c_cond hF rfl (fun h1 => ?_) (fun h1 => ?_)
  · refine sq ?_
    refine wp_region_lit <| mv hF rfl rfl fun a hF => mv hF rfl rfl fun a hF => st hF (g_indexSl (i := h) ty_sl_35 hF rfl rfl rfl (by omega)) rfl fun a hF => st hF (g_fieldAddr ty_fo_48_0 hF rfl) rfl fun a hF => st hF (g_load ty_on_9 hF rfl (hM.fz 0 rfl) ((hs.get3 (h) 0 (by omega) (by omega) (by omega)).trans (congrArg some (layF_0 (h) rfl)))) rfl fun a hF => ag hF rfl rfl fun a hF => nt <| wp_ret <| tR <| fin1 rfl hF.defers (res_tmp hF rfl) ⟨_, rfl, hM.below, ?_⟩
    show _ = _
    rfl
  exfalso; omega
theorem textAt_hi (s : ByteArray) (u : Value) (e : Option (Nat × Array Value)) (h : Nat) (w : World) (hW : WD s) (hh : ¬ h < nL s) (hs : SlN 3 u e (nL s) (layF s)) (hb : ∀ b cs, e = some (b, cs) → Blk w b cs) :
    CallsR Try.prog 24 #[u, .int .i64 (h : Int)] w (fun res _ => res = .string (repI (legO s))) := by
  refine calls_fr [u, .int .i64 (h : Int)] Try.func24 rfl Try.ntmps24 rfl fun a hF => ?_;have hM : Mem w w [] [] := MemX.start w 0;change Fr 23 a [(0, u), (1, .int .i64 (h : Int))] at hF;refine sr <| ag hF rfl rfl fun a hF => nt <| sq <| sr <| mv hF rfl rfl fun a hF => mv hF rfl rfl fun a hF => st hF (g_lenSl hs.sl ty_us_35 hF rfl) rfl fun a hF => st hF (g_lss hF rfl rfl) rfl fun a hF => nt <| c_cond hF rfl (fun h1 => ?_) (fun h1 => ?_)
  · exfalso; omega
  refine wp_skip <| tN <| sr <| mv hF rfl rfl fun a hF => stR hF (d_call Try.call21 hF (.cons rfl .nil) (endsOf_W s u e _ hW hs (fun b cs he => (hb b cs he).ext hM.below))) rfl ?_;rintro _ w' a ⟨hx, rfl⟩ hF;have hM := hM.ext hx;refine mv hF rfl rfl fun a hF => st hF (g_extract hF rfl rfl) rfl fun a hF => st hF (g_extract hF rfl rfl) rfl fun a hF => ag hF rfl rfl fun a hF => ag hF rfl rfl fun a hF => ns <| mv hF rfl rfl fun a hF => stR hF (d_call Try.call15 hF (.cons rfl .nil) (strands_ok (legO s) _ (by have := legO_le hW; omega))) rfl ?_;rintro _ w' a ⟨hx, rfl⟩ hF;have hM := hM.ext hx;refine ag hF rfl rfl fun a hF => nt <| wp_ret <| fin1 rfl hF.defers (res_tmp hF rfl) ⟨_, rfl, hM.below, ?_⟩
  show _ = _
  rfl
theorem textAt_W (s : ByteArray) (u : Value) (e : Option (Nat × Array Value)) (h : Nat) (w : World) (hW : WD s) (hs : SlN 3 u e (nL s) (layF s)) (hb : ∀ b cs, e = some (b, cs) → Blk w b cs) : CallsR Try.prog 24 #[u, .int .i64 (h : Int)] w (fun r _ => r = .string (txA s h)) := by
  by_cases hh : h < nL s
  · obtain ⟨b, cap, cs, rfl, rfl, hat⟩ := hs.sl.pos (by omega)
    exact CallsR.val (textAt_lo s b cap h cs _ _ w hh hat (hb _ _ rfl)) (congrArg Value.string (if_pos hh).symm)
  · exact CallsR.val (textAt_hi s u e h w hW hh hs hb) (congrArg Value.string (if_neg hh).symm)
end Go.Proofs.Ytbmgeapfninlkaa

namespace Go.Proofs.Ytbmgeapfninlkaa
open Go Go.RowKit Go.Sw
open Classical
def mxN (a b : Nat) : Nat := max a b
def mxL (v w : ByteArray) : Nat := mxN (nL v) (nL w)
theorem max_nat (a b : Nat) : (if (a : Int) < (b : Int) then (b : Int) else (a : Int)) = (mxN a b : Int) := by
  unfold mxN
  by_cases h : (a : Int) < (b : Int)
  · rw [if_pos h]; omega
  · rw [if_neg h]; omega
theorem txA_size {s : ByteArray} (h : WD s) (i : Nat) : (txA s i).size ≤ 300 := by
  unfold txA
  split
  · have := seg_le (s := s) (k := i); have := h.size; omega
  · rw [repI_size]; have := legO_le h; omega
theorem BesideI_F (v w0 : ByteArray) (w : World) (hF0 : ¬ (WD v ∧ WD w0)) :
    CallsR Try.prog 11 #[.string (v), .string (w0)] w (fun res _ => res = .tuple #[.string (⟨#[]⟩), .int .i64 (1)]) := by
  refine calls_fr [.string (v), .string (w0)] Try.func11 rfl Try.ntmps11 rfl fun a hF => ?_;have hM : Mem w w [none] [] := MemX.start w 1;change Fr 51 a [(0, .string (v)), (1, .string (w0))] at hF;refine sr <| ag hF rfl rfl fun a hF => ag hF rfl rfl fun a hF => ns <| mv hF rfl rfl fun a hF => stR hF (d_call Try.call20 hF (.cons rfl .nil) (layersOf_any v _)) rfl ?_;rintro _ w' a ⟨hx, lv, rfl⟩ hF;have hM := hM.ext hx;refine mv hF rfl rfl fun a hF => st hF (g_extract hF rfl rfl) rfl fun a hF => st hF (g_extract hF rfl rfl) rfl fun a hF => ag hF rfl rfl fun a hF => ag hF rfl rfl fun a hF => ns <| mv hF rfl rfl fun a hF => stR hF (d_call Try.call20 hF (.cons rfl .nil) (layersOf_any w0 _)) rfl ?_;rintro _ w' a ⟨hx, lw0, rfl⟩ hF;have hM := hM.ext hx;refine mv hF rfl rfl fun a hF => st hF (g_extract hF rfl rfl) rfl fun a hF => st hF (g_extract hF rfl rfl) rfl fun a hF => ag hF rfl rfl fun a hF => ag hF rfl rfl fun a hF => nt <| sq <| sr <| mv hF rfl rfl fun a hF => st hF (g_notP hF rfl) rfl fun a hF => mv hF rfl rfl fun a hF => ?_
  by_cases g1 : ¬ (WD v)
  · first | rw [decide_eq_true g1] at hF | simp only [decide_eq_true g1] at hF
    refine stS hF rfl rfl rfl rfl rfl fun a hF => stS hF rfl rfl rfl rfl rfl fun a hF => st hF (g_pickT hF rfl rfl) rfl fun a hF => nt <| c_T hF rfl <| sr <| ag hF rfl rfl fun a hF => ag hF rfl rfl fun a hF => nt <| wp_ret <| tR <| fin2 rfl hF.defers (res_tmp hF rfl) (res_tmp hF rfl) ⟨_, rfl, hM.below, ?_⟩
    show _ = _
    rfl
  first | rw [decide_eq_false g1] at hF | simp only [decide_eq_false g1] at hF
  refine stY hF rfl rfl rfl (g_move hF rfl) rfl fun a hF => stY hF rfl rfl rfl (g_notP hF rfl) rfl fun a hF => st hF (g_pickF hF rfl rfl) rfl fun a hF => nt <| c_cond hF rfl (fun h3 => ?_) (fun h3 => ?_)
  · refine sq ?_
    refine wp_region_lit <| ag hF rfl rfl fun a hF => ag hF rfl rfl fun a hF => nt <| wp_ret <| tR <| fin2 rfl hF.defers (res_tmp hF rfl) (res_tmp hF rfl) ⟨_, rfl, hM.below, ?_⟩
    show _ = _
    rfl
  exact absurd ⟨by first | assumption | exact Decidable.not_not.1 (by assumption), by first | assumption | exact Decidable.not_not.1 (by assumption)⟩ hF0
set_option maxRecDepth 100000 in
theorem BesideI_T (v w0 : ByteArray) (w : World) (hV : WD v) (hW : WD w0) :
    CallsR Try.prog 11 #[.string (v), .string (w0)] w (fun res _ => res = .tuple #[.string (toldT (jw (fun h => txA v h ++ txA w0 h) (mxL v w0))), .int .i64 (toldC (jw (fun h => txA v h ++ txA w0 h) (mxL v w0)) : Int)]) := by
  refine calls_fr [.string (v), .string (w0)] Try.func11 rfl Try.ntmps11 rfl fun a hF => ?_;have hM : Mem w w [none, none, none, none] [] := MemX.start w 4;change Fr 51 a [(0, .string (v)), (1, .string (w0))] at hF;have hvz := hV.size;have hwz := hW.size;have hnv := nL_le (s := v);have hnw := nL_le (s := w0);have hmx : mxL v w0 = max (nL v) (nL w0) := rfl;refine sr <| ag hF rfl rfl fun a hF => ag hF rfl rfl fun a hF => ns <| mv hF rfl rfl fun a hF => stR hF (d_call Try.call20 hF (.cons rfl .nil) (layersOf_W v _ hV)) rfl ?_;rintro _ w' a ⟨hx, lv, rfl, ho⟩ hF;obtain ⟨ev, hsv, hM⟩ := ho.fill hM (k := 1) rfl hx;refine mv hF rfl rfl fun a hF => st hF (g_extract hF rfl rfl) rfl fun a hF => st hF (g_extract hF rfl rfl) rfl fun a hF => ag hF rfl rfl fun a hF => ag hF rfl rfl fun a hF => ns <| mv hF rfl rfl fun a hF => stR hF (d_call Try.call20 hF (.cons rfl .nil) (layersOf_W w0 _ hW)) rfl ?_;rintro _ w' a ⟨hx, lw0, rfl, ho⟩ hF;obtain ⟨ew0, hsw0, hM⟩ := ho.fill hM (k := 2) rfl hx;refine mv hF rfl rfl fun a hF => st hF (g_extract hF rfl rfl) rfl fun a hF => st hF (g_extract hF rfl rfl) rfl fun a hF => ag hF rfl rfl fun a hF => ag hF rfl rfl fun a hF => nt <| sq <| sr <| mv hF rfl rfl fun a hF => st hF (g_not hF rfl) rfl fun a hF => mv hF rfl rfl fun a hF => stY hF rfl rfl rfl (g_move hF rfl) rfl fun a hF => stY hF rfl rfl rfl (g_not hF rfl) rfl fun a hF => st hF (g_pickF hF rfl rfl) rfl fun a hF => nt <| c_Fl hF rfl <| wp_skip <| tN <| sr <| ag hF rfl rfl fun a hF => nt <| sq <| sr <| mv hF rfl rfl fun a hF => st hF (g_lenSl hsv.sl ty_us_35 hF rfl) rfl fun a hF => mv hF rfl rfl fun a hF => st hF (g_lenSl hsw0.sl ty_us_35 hF rfl) rfl fun a hF => st hF (g_max hF rfl rfl (max_nat (nL v) (nL w0))) rfl fun a hF => mv hF rfl rfl fun a hF => nt <| wp_block ?_;change Mem w _ [none, ev, ew0, none] [] at hM;refine c_loop (fun (kk : Nat) a w' => kk ≤ (mxL v w0) ∧ (True) ∧ ∃ (u10_1 : Value) (e10_1 : Option (Nat × Array Value)), Sl 1 u10_1 e10_1 (kk) (strF (fun h => txA v h ++ txA w0 h)) ∧ Fr 51 a [(4, .string (⟨#[]⟩)), (5, .int .i64 (0)), (6, lv), (8, lw0), (27, .bool (false)), (32, .int .i64 ((((mxL v w0) : Nat) : Int))), (33, .int .i64 (kk : Int)), (10, u10_1)] ∧ Mem w w' [none, ev, ew0, e10_1] []) (fun kk => (mxL v w0) - kk) 0 ?_ ?_
  · refine ⟨by omega, trivial, (.slice none 0 0), (none), (Sl.nil 1 _), hF.sub _ (by repeat' constructor), ?_⟩
    exact hM
  clear hF hM;rintro gh a w' ⟨hgh, hinv1, u10_1, e10_1, hsl, hF, hM⟩;refine sr <| st hF (g_lss hF rfl rfl) rfl fun a hF => nt <| sq <| c_cond hF rfl (fun h2 => ?_) (fun h2 => ?_)
  · refine wp_skip ?_
    refine tN <| sq <| wp_block <| sr <| mv hF rfl rfl fun a hF => ag hF rfl rfl fun a hF => nt <| wp_region_lit <| mv hF rfl rfl fun a hF => mv hF rfl rfl fun a hF => mv hF rfl rfl fun a hF => stR hF (d_call Try.call24 hF (.cons rfl (.cons rfl .nil)) (textAt_W v lv ev (gh) _ hV hsv (fun b cs he => hM.row 1 (by rw [← he]; rfl)))) rfl ?_;rintro _ w' a ⟨hx, rfl⟩ hF;have hM := hM.ext hx;refine mv hF rfl rfl fun a hF => mv hF rfl rfl fun a hF => stR hF (d_call Try.call24 hF (.cons rfl (.cons rfl .nil)) (textAt_W w0 lw0 ew0 (gh) _ hW hsw0 (fun b cs he => hM.row 2 (by rw [← he]; rfl)))) rfl ?_;rintro _ w' a ⟨hx, rfl⟩ hF;have hM := hM.ext hx;refine st hF (g_addS hF rfl rfl (by have h1 := txA_size hV gh; have h2 := txA_size hW gh; omega)) rfl fun a hF => stR hF (d_buildC 0 hM hF (build1 hF rfl) (ty_bst_27 _)) rfl ?_;rintro _ w' a ⟨b3, rfl, hM, -⟩ hF;change Mem w w' [some (b3, #[.string (((txA v (gh)) : ByteArray) ++ ((txA w0 (gh)) : ByteArray))]), ev, ew0, e10_1] [] at hM;refine stR hF (d_append (k := 3) (m := 1) (g := fun _ => .string (((txA v (gh)) : ByteArray) ++ ((txA w0 (gh)) : ByteArray))) ty_si_27 rfl (by decide) hM rfl hF rfl rfl hsl (fun i hi => by rw [show i = 0 by omega]; exact (hM.row 0 rfl).cell 0) (fun _ _ => rfl) (by decide) (by unfold maxLen; omega) (by omega)) rfl ?_;rintro u4 w' a ⟨e5, hM, hs6⟩ hF;change Mem w w' [some (b3, #[.string (((txA v (gh)) : ByteArray) ++ ((txA w0 (gh)) : ByteArray))]), ev, ew0, e5] [] at hM;refine ag hF rfl rfl fun a hF => wpList_nil <| iN <| tN <| wp_region_lit <| st hF (g_add hF rfl rfl (add_nat (gh) (1) (by omega))) rfl fun a hF => mv hF rfl rfl fun a hF => wpList_nil <| tN ?_;have hM := hM.drop 0;refine ⟨gh + 1, ⟨by omega, trivial, (u4), (e5), (hs6.snoc rfl), hF.sub _ (by repeat' constructor), ?_⟩, by omega⟩;exact hM
  obtain rfl : (mxL v w0) = gh := by omega
  refine wp_exit <| tX <| tX <| ib_same <| tN <| sr <| mv hF rfl rfl fun a hF => stR hF (d_call Try.call16 hF (.cons rfl .nil) ((CallsR.val (wordOfLayers_ok u10_1 _ ((mxL v w0)) _ _ (by omega) (fun i => by have h1 := txA_size hV i; have h2 := txA_size hW i; show (txA v i ++ txA w0 i).size ≤ 1000; rw [ByteArray.size_append]; omega) hsl (fun b cs he => hM.row 3 (by rw [← he]; rfl))) rfl))) rfl ?_;rintro _ w' a ⟨hx, rfl⟩ hF;have hM := hM.ext hx;refine st hF (g_extract hF rfl rfl) rfl fun a hF => st hF (g_extract hF rfl rfl) rfl fun a hF => ag hF rfl rfl fun a hF => ag hF rfl rfl fun a hF => nt <| wp_ret <| fin2 rfl hF.defers (res_tmp hF rfl) (res_tmp hF rfl) ⟨_, rfl, hM.below, ?_⟩
  show _ = _
  rfl
end Go.Proofs.Ytbmgeapfninlkaa
