/- What functions of the program return, as walks over their operations; no statement of the seat is proved here. -/
import Derived.Test.YtbmgeapfninlkaaV1
import Derived.Test.YtbmgeapfninlkaaSw10
set_option linter.unusedVariables false
set_option linter.unusedSimpArgs false
namespace Go.Proofs.Ytbmgeapfninlkaa
open Go Go.RowKit Go.Sw
open Classical
theorem layersOf_W (s : ByteArray) (w : World) (hW : WD s) : CallsR Try.prog 20 #[.string s] w (fun u w' => ∃ l, u = .tuple #[l, .bool true] ∧ LstOut 3 w (nL s) (layF s) l w') := by
  by_cases h0 : s.size = 0
  · obtain rfl := str_e0 h0
    exact (layersOf_E w).mono fun v w' _ h3 => ⟨_, h3, .inl ⟨rfl, nL_0 rfl⟩⟩
  · have hp := hW.resolve_left h0
    exact (layersOf_Y s w hp (by omega)).mono fun v w' _ ⟨l, h3, h4⟩ => ⟨l, h3, .inr ⟨by rw [nL_y (by omega)]; unfold nSg; omega, by rw [nL_y (by omega)]; exact h4⟩⟩
theorem layersOf_any (s : ByteArray) (w : World) : CallsR Try.prog 20 #[.string s] w (fun u w' => ∃ l, u = .tuple #[l, .bool (decide (WD s))]) := by
  by_cases hW : WD s
  · exact (layersOf_W s w hW).mono fun v w' _ ⟨l, h3, _⟩ => ⟨l, by rw [decide_eq_true hW]; exact h3⟩
  · have h0 : ¬ s.size = 0 := fun h => hW (.inl h)
    have hp : ¬ WordP s := fun h => hW (.inr h)
    by_cases h3 : s.size ≤ 300
    · exact (layersOf_N s w hp (by omega) h3).mono fun v w' _ h3 => ⟨_, by rw [decide_eq_false hW]; exact h3⟩
    · exact (layersOf_L s w (by omega)).mono fun v w' _ h3 => ⟨_, by rw [decide_eq_false hW]; exact h3⟩
theorem IsWordI_all (s : ByteArray) (w : World) : CallsR Try.prog 27 #[.string s] w (fun r _ => r = .bool (decide (WD s))) := by
  by_cases h0 : s.size = 0
  · obtain rfl := str_e0 h0
    exact CallsR.val (IsWordI_E w) (congrArg Value.bool (decide_eq_true (show WD (⟨#[]⟩ : ByteArray) from Or.inl rfl)).symm)
  · by_cases hp : WordP s
    · exact CallsR.val (IsWordI_Y s w hp (by omega)) (congrArg Value.bool (decide_eq_true (show WD s from Or.inr hp)).symm)
    · have hW : ¬ WD s := fun h => h.elim h0 hp
      by_cases h3 : s.size ≤ 300
      · exact CallsR.val (IsWordI_N s w hp (by omega) h3) (congrArg Value.bool (decide_eq_false hW).symm)
      · exact CallsR.val (IsWordI_L s w (by omega)) (congrArg Value.bool (decide_eq_false hW).symm)
theorem l04Is_all (s : ByteArray) (w : World) (hz : s.size < 10000000) : CallsR Try.prog 17 #[.string s] w (fun r _ => r = .bool (decide (WD s))) := by
  by_cases h0 : s.size = 0
  · obtain rfl := str_e0 h0
    exact CallsR.val (l04Is_E w) (congrArg Value.bool (decide_eq_true (show WD (⟨#[]⟩ : ByteArray) from Or.inl rfl)).symm)
  · by_cases hp : WordP s
    · exact CallsR.val (l04Is_Y s w hp (by omega)) (congrArg Value.bool (decide_eq_true (show WD s from Or.inr hp)).symm)
    · have hW : ¬ WD s := fun h => h.elim h0 hp
      exact CallsR.val (l04Is_N s w hp (by omega) hz) (congrArg Value.bool (decide_eq_false hW).symm)
theorem endsOf_W (s : ByteArray) (u : Value) (e : Option (Nat × Array Value)) (w : World) (hW : WD s) (hs : SlN 3 u e (nL s) (layF s)) (hb : ∀ b cs, e = some (b, cs) → Blk w b cs) : CallsR Try.prog 21 #[u] w (fun r _ => r = .tuple #[.int .i64 (legI s : Int), .int .i64 (legO s : Int)]) := by
  have hsz := hW.size
  by_cases h0 : s.size = 0
  · rcases hs with ⟨rfl, _, _⟩ | ⟨h, _⟩
    · exact CallsR.val (endsOf_nil w) (by unfold legI legO; rw [if_pos h0, if_pos h0]; rfl)
    · rw [nL_0 h0] at h; omega
  · rcases hs with ⟨_, _, h⟩ | ⟨_, b, cap, cs, hat⟩
    · rw [nL_y (by omega)] at h; unfold nSg at h; omega
    · rw [nL_y (by omega)] at hat
      obtain rfl := hat.val;exact CallsR.val (endsOf_S s b cap cs _ _ w hat (hb _ _ hat.ent) (by omega)) (by unfold legI legO; rw [if_neg h0, if_neg h0])
theorem l04Ends_W (s : ByteArray) (w : World) (hW : WD s) : CallsR Try.prog 18 #[.string s] w (fun r _ => r = .tuple #[.int .i64 (legI s : Int), .int .i64 (legO s : Int)]) := by
  by_cases h0 : s.size = 0
  · obtain rfl := str_e0 h0
    exact CallsR.val (l04Ends_E w) (by unfold legI legO; rw [if_pos h0, if_pos h0]; rfl)
  · exact CallsR.val (l04Ends_Y s w (hW.resolve_left h0) (by omega)) (by unfold legI legO; rw [if_neg h0, if_neg h0])
def layG (F : Nat → ByteArray) (gx gy : Nat → Int) (q : Nat) : Value := if q % 3 = 0 then .string (F (q / 3)) else if q % 3 = 1 then .int .i64 (gx (q / 3)) else .int .i64 (gy (q / 3))
theorem layG_row {v : Value} {e : Option (Nat × Array Value)} {k b cap : Nat} {cs : Array Value} {F : Nat → ByteArray} {gx gy : Nat → Int} (hs : SlAt 3 v e k b cap cs (layG F gx gy)) (i : Nat) {o : Nat} (ho : o = 0 + i * 3) (hi : i < k) : cs.extract o (o + 3) = layC (F i) (gx i) (gy i) := by
  subst ho;have hsz := hs.sz;have hle := hs.le;have h0 := hs.get3 i 0 (o := 0 + i * 3) rfl hi (by omega);have h1 := hs.get3 i 1 (o := 0 + i * 3 + 1) rfl hi (by omega);have h2 := hs.get3 i 2 (o := 0 + i * 3 + 2) rfl hi (by omega);have e0 : layG F gx gy (i * 3 + 0) = .string (F i) := by unfold layG; rw [if_pos (by omega), show (i * 3 + 0) / 3 = i by omega]
  have e1 : layG F gx gy (i * 3 + 1) = .int .i64 (gx i) := by unfold layG; rw [if_neg (by omega), if_pos (by omega), show (i * 3 + 1) / 3 = i by omega]
  have e2 : layG F gx gy (i * 3 + 2) = .int .i64 (gy i) := by unfold layG; rw [if_neg (by omega), if_neg (by omega), show (i * 3 + 2) / 3 = i by omega]
  rw [e0] at h0; rw [e1] at h1; rw [e2] at h2;refine Array.ext_getElem? fun q => ?_;rw [Array.getElem?_extract]
  by_cases hq : q < 3
  · rw [if_pos (by omega)]
    obtain rfl | rfl | rfl : q = 0 ∨ q = 1 ∨ q = 2 := by omega
    · rw [Nat.add_zero, h0]; rfl
    · rw [h1]; rfl
    · rw [h2]; rfl
  · rw [if_neg (by omega), Array.getElem?_eq_none (by show 3 ≤ q; omega)]
theorem layF_G (s : ByteArray) : layF s = layG (seg s 47) (fun i => (inR s (sgB s 47 i) : Int)) (fun i => (outR s (sgB s 47 i) : Int)) := rfl
theorem layG_app {m : Nat} {F G : Nat → ByteArray} {gx gy hx hy : Nat → Int} : (fun i => if i < m * 3 then layG F gx gy i else layG G hx hy (i - m * 3)) = layG (apT m F G) (fun i => if i < m then gx i else hx (i - m)) (fun i => if i < m then gy i else hy (i - m)) := by
  funext i
  by_cases h : i < m * 3
  · rw [if_pos h]
    unfold layG apT
    rw [if_pos (show i / 3 < m by omega)];simp only [if_pos (show i / 3 < m by omega)]
  · rw [if_neg h]
    unfold layG apT
    rw [if_neg (show ¬ i / 3 < m by omega)];simp only [if_neg (show ¬ i / 3 < m by omega), show (i - m * 3) % 3 = i % 3 by omega, show (i - m * 3) / 3 = i / 3 - m by omega]
def strF (F : Nat → ByteArray) (i : Nat) : Value := .string (F i)

theorem textsOf_nil  (w : World)  :
    CallsR Try.prog 22 #[.slice none 0 0] w (fun res _ => res = .slice none 0 0) := by
  refine calls_fr [.slice none 0 0] Try.func22 rfl Try.ntmps22 rfl fun a hF => ?_;have hM : Mem w w [none, none] [] := MemX.start w 2;change Fr 19 a [(0, .slice none 0 0)] at hF;refine sr <| ag hF rfl rfl fun a hF => ns <| ag hF rfl rfl fun a hF => nt <| sq <| sr <| mv hF rfl rfl fun a hF => st hF (g_len0 ty_us_35 hF rfl) rfl fun a hF => mv hF rfl rfl fun a hF => nt <| wp_block ?_;change Mem w _ [none, none] [] at hM;refine c_loop (fun (kk : Nat) a w' => kk ≤ 0 ∧ (True) ∧ Fr 19 a [(2, .slice none 0 0), (6, .slice none 0 0), (7, .int .i64 (0)), (8, .int .i64 (kk : Int)), (3, .slice none 0 0)] ∧ Mem w w' [none, none] []) (fun kk => 0 - kk) 0 ?_ ?_
  · refine ⟨by omega, trivial, hF.sub _ (by repeat' constructor), ?_⟩
    exact hM
  clear hF hM;rintro gk a w' ⟨hgk, hinv1, hF, hM⟩;refine sr <| st hF (g_lss hF rfl rfl) rfl fun a hF => nt <| sq <| c_cond hF rfl (fun h1 => ?_) (fun h1 => ?_)
  · exfalso; omega
  obtain rfl : 0 = gk := by omega
  refine wp_exit <| tX <| tX <| ib_same <| tN <| sr <| mv hF rfl rfl fun a hF => ag hF rfl rfl fun a hF => nt <| wp_ret <| fin1 rfl hF.defers (res_tmp hF rfl) ⟨_, rfl, hM.below, ?_⟩
  show _ = _
  rfl
theorem textsOf_S (bl cl k : Nat) (cs : Array Value) (v : Value) (e : Option (Nat × Array Value)) (F : Nat → ByteArray) (gx gy : Nat → Int) (w : World) (hk0 : 0 < k) (hk : k < 100000) (hs : SlAt 3 v e k bl cl cs (layG F gx gy)) (hb : Blk w bl cs) :
    CallsR Try.prog 22 #[.slice (some ⟨bl, 0, none⟩) k cl] w (fun u w' => OwnSl 1 w k (strF F) u w') := by
  refine calls_fr [.slice (some ⟨bl, 0, none⟩) k cl] Try.func22 rfl Try.ntmps22 rfl fun a hF => ?_;have hM : Mem w w [none, none, none] [(bl, cs)] := MemX.startD w 3 _ (startD1 hb);change Fr 19 a [(0, .slice (some ⟨bl, 0, none⟩) k cl)] at hF;refine sr <| ag hF rfl rfl fun a hF => ns <| ag hF rfl rfl fun a hF => nt <| sq <| sr <| mv hF rfl rfl fun a hF => st hF (g_len ty_us_35 hF rfl) rfl fun a hF => mv hF rfl rfl fun a hF => nt <| wp_block ?_;change Mem w _ [none, none, none] [(bl, cs)] at hM;refine c_loop (fun (kk : Nat) a w' => kk ≤ k ∧ (True) ∧ ∃ (u3_1 : Value) (e3_1 : Option (Nat × Array Value)), Sl 1 u3_1 e3_1 (kk) (strF F) ∧ Fr 19 a [(2, .slice none 0 0), (6, .slice (some ⟨bl, 0, none⟩) k cl), (7, .int .i64 (k : Int)), (8, .int .i64 (kk : Int)), (3, u3_1)] ∧ Mem w w' [none, none, e3_1] [(bl, cs)]) (fun kk => k - kk) 0 ?_ ?_
  · refine ⟨by omega, trivial, (.slice none 0 0), (none), (Sl.nil 1 _), hF.sub _ (by repeat' constructor), ?_⟩
    exact hM
  clear hF hM;rintro gk a w' ⟨hgk, hinv1, u3_1, e3_1, hsl, hF, hM⟩;refine sr <| st hF (g_lss hF rfl rfl) rfl fun a hF => nt <| sq <| c_cond hF rfl (fun h1 => ?_) (fun h1 => ?_)
  · refine wp_skip ?_
    refine tN <| sq <| wp_block <| sr <| st hF (g_indexSl (i := gk) ty_sl_35 hF rfl rfl rfl (by omega)) rfl fun a hF => st hF (g_loadAgg ty_ag_48 hF rfl (hM.fz 0 rfl) (by rw [hs.sz]; have := hs.le; omega) (layG_row hs (gk) (by omega) (by omega))) rfl fun a hF => stR hF (d_alloc 0 hM ty_ze_48) rfl ?_;rintro _ w' a ⟨b2, rfl, hM, -⟩ hF;change Mem w w' [some (b2, layC ⟨#[]⟩ 0 0), none, e3_1] [(bl, cs)] at hM;refine stN hF (d_storeAgg 0 hM rfl ty_sz_48 hF rfl rfl (layC_one) (by simp only [sz0, layC_size]) (by simp only [sz0, layC_size] <;> omega) (splice_whole _ _ (by simp only [sz0, layC_size]))) ?_;intro _ w' a hM hF;change Mem w w' [some (b2, layC (F (gk)) (gx (gk)) (gy (gk))), none, e3_1] [(bl, cs)] at hM;refine nt <| wp_region_lit <| mv hF rfl rfl fun a hF => st hF (g_fieldAddr ty_fo_48_0 hF rfl) rfl fun a hF => st hF (g_load ty_on_9 hF rfl (hM.row 0 rfl) (layC_0 rfl)) rfl fun a hF => stR hF (d_buildC 1 hM hF (build1 hF rfl) (ty_bst_27 _)) rfl ?_;rintro _ w' a ⟨b3, rfl, hM, -⟩ hF;change Mem w w' [some (b2, layC (F (gk)) (gx (gk)) (gy (gk))), some (b3, #[.string ((F (gk)))]), e3_1] [(bl, cs)] at hM;refine stR hF (d_append (k := 2) (m := 1) (g := fun _ => .string ((F (gk)))) ty_si_27 rfl (by decide) hM rfl hF rfl rfl hsl (fun i hi => by rw [show i = 0 by omega]; exact (hM.row 1 rfl).cell 0) (fun _ _ => rfl) (by decide) (by unfold maxLen; omega) (by omega)) rfl ?_;rintro u4 w' a ⟨e5, hM, hs6⟩ hF;change Mem w w' [some (b2, layC (F (gk)) (gx (gk)) (gy (gk))), some (b3, #[.string ((F (gk)))]), e5] [(bl, cs)] at hM;refine ag hF rfl rfl fun a hF => wpList_nil <| iN <| tN <| wp_region_lit <| st hF (g_add hF rfl rfl (add_nat (gk) (1) (by omega))) rfl fun a hF => mv hF rfl rfl fun a hF => wpList_nil <| tN ?_;have hM := hM.drop 0;have hM := hM.drop 1;refine ⟨gk + 1, ⟨by omega, trivial, (u4), (e5), (hs6.snoc rfl), hF.sub _ (by repeat' constructor), ?_⟩, by omega⟩;exact hM
  obtain rfl : k = gk := by omega
  refine wp_exit <| tX <| tX <| ib_same <| tN <| sr <| mv hF rfl rfl fun a hF => ag hF rfl rfl fun a hF => nt <| wp_ret <| fin1 rfl hF.defers (res_tmp hF rfl) ⟨_, rfl, hM.below, ?_⟩;exact OwnSl.pos hM (k := 2) rfl hsl hk0
theorem textsOf_W (u : Value) (e : Option (Nat × Array Value)) (k : Nat) (F : Nat → ByteArray) (gx gy : Nat → Int) (w : World) (hk : k < 100000) (hs : SlN 3 u e k (layG F gx gy)) (hb : ∀ b cs, e = some (b, cs) → Blk w b cs) : CallsR Try.prog 22 #[u] w (fun r w' => LstOut 1 w k (strF F) r w') := by
  by_cases hk0 : k = 0
  · obtain rfl := hs.nil hk0
    exact (textsOf_nil w).mono fun v w' _ h3 => .inl ⟨h3, hk0⟩
  · obtain ⟨b, cap, cs, rfl, rfl, hat⟩ := hs.sl.pos (by omega)
    exact (textsOf_S b cap k cs _ _ F gx gy w (by omega) hk hat (hb _ _ rfl)).mono fun v w' _ h3 => .inr ⟨by omega, h3⟩
theorem join_ok (u : Value) (e : Option (Nat × Array Value)) (k : Nat) (F : Nat → ByteArray) (w : World) (hk : k < 100000) (hF : ∀ i, (F i).size ≤ 1000) (hs : Sl 1 u e k (strF F)) (hb : ∀ b cs, e = some (b, cs) → Blk w b cs) : CallsR Try.prog 26 #[u, .string (⟨#[47]⟩ : ByteArray)] w (fun r _ => r = .string (jw F k)) := by
  have none_ : ∀ a c, k = 0 → CallsR Try.prog 26 #[.slice a 0 c, .string (⟨#[47]⟩ : ByteArray)] w (fun r _ => r = .string (jw F k)) := fun a c h0 =>
    (Try.strings_Join_none a c ⟨#[47]⟩ w).mono fun e w' ⟨h1, h2⟩ => ⟨_, h1, h2 ▸ Ext.refl _, by rw [h0]; rfl⟩
  rcases hs with ⟨rfl, rfl, h0⟩ | ⟨b, cap, cs, hat⟩
  · exact none_ _ _ h0
  · obtain rfl := hat.val
    by_cases h0 : k = 0
    · have := none_ (some ⟨b, 0, none⟩) cap h0
      rwa [show (Value.slice (some ⟨b, 0, none⟩) k cap) = .slice (some ⟨b, 0, none⟩) 0 cap from by rw [h0]]
    · have hblk := hb _ _ hat.ent
      have hlen : ((List.range k).map F).length = k := by simp
      have hmap : ((List.range k).map F).map (·.data.toList) = (List.range k).map fun i => (F i).data.toList := by rw [List.map_map]; rfl
      have hsz := jw_size hF k;have hj : (Go.Lib.join (((List.range k).map F).map (·.data.toList)) (⟨#[47]⟩ : ByteArray).data.toList) = (jw F k).data.toList := by rw [hmap]; exact join_jw k
      have h := Try.strings_Join b 0 cap ((List.range k).map F) ⟨#[47]⟩ w (fun j x hj => by
        rw [List.getElem?_map] at hj
        cases hr : (List.range k)[j]? with
        | none => rw [hr] at hj; cases hj
        | some q =>
          rw [hr] at hj;obtain rfl := Option.some.inj hj;have hq := List.getElem?_eq_some_iff.1 hr;obtain ⟨h1, h2⟩ := hq
          simp at h1 h2
          subst h2;rw [Nat.zero_add, hblk.cell j];exact hat.get j (by omega)) (hblk.lt) (by rw [hlen]; omega) (by rw [hlen]; exact hat.le) (by
        rw [hj, Array.length_toList]
        show (jw F k).size ≤ _
        have : k * (1000 + 1) ≤ 100000 * (1000 + 1) := Nat.mul_le_mul_right _ (by omega)
        omega)
      rw [hlen] at h;exact h.mono fun e w' ⟨h1, h2⟩ => ⟨_, h1, h2, by rw [hj]⟩
theorem wordOfLayers_ok (u : Value) (e : Option (Nat × Array Value)) (k : Nat) (F : Nat → ByteArray) (w : World) (hk : k < 100000) (hFz : ∀ i, (F i).size ≤ 1000) (hs : Sl 1 u e k (strF F)) (hb : ∀ b cs, e = some (b, cs) → Blk w b cs) :
    CallsR Try.prog 16 #[u] w (fun res _ => res = .tuple #[.string (toldT (jw F k)), .int .i64 (toldC (jw F k) : Int)]) := by
  refine calls_fr [u] Try.func16 rfl Try.ntmps16 rfl fun a hF => ?_;have hM : Mem w w [] [] := MemX.start w 0;change Fr 11 a [(0, u)] at hF;refine sr <| ag hF rfl rfl fun a hF => ag hF rfl rfl fun a hF => ns <| mv hF rfl rfl fun a hF => stR hF (d_call Try.call26 hF (.cons rfl (.cons rfl .nil)) (join_ok u e k F _ hk hFz hs (fun b cs he => (hb b cs he).ext hM.below))) rfl ?_;rintro _ w' a ⟨hx, rfl⟩ hF;have hM := hM.ext hx;refine ag hF rfl rfl fun a hF => nt <| sq <| sr <| mv hF rfl rfl fun a hF => stR hF (d_call Try.call27 hF (.cons rfl .nil) (IsWordI_all (jw F k) _)) rfl ?_;rintro _ w' a ⟨hx, rfl⟩ hF;have hM := hM.ext hx;refine st hF (g_notP hF rfl) rfl fun a hF => nt <| c_cond hF rfl (fun h1 => ?_) (fun h1 => ?_)
  · refine sq ?_
    refine wp_region_lit <| ag hF rfl rfl fun a hF => ag hF rfl rfl fun a hF => nt <| wp_ret <| tR <| fin2 rfl hF.defers (res_tmp hF rfl) (res_tmp hF rfl) ⟨_, rfl, hM.below, ?_⟩
    show _ = _
    first | rw [toldT_y (show WD (jw F k) from by first | assumption | exact Decidable.not_not.1 (by assumption)), toldC_y (show WD (jw F k) from by first | assumption | exact Decidable.not_not.1 (by assumption))]; rfl | rw [toldT_n (show ¬ WD (jw F k) from by assumption), toldC_n (show ¬ WD (jw F k) from by assumption)]; rfl
  refine wp_skip <| tN <| sr <| mv hF rfl rfl fun a hF => ag hF rfl rfl fun a hF => ag hF rfl rfl fun a hF => nt <| wp_ret <| fin2 rfl hF.defers (res_tmp hF rfl) (res_tmp hF rfl) ⟨_, rfl, hM.below, ?_⟩
  show _ = _
  first | rw [toldT_y (show WD (jw F k) from by first | assumption | exact Decidable.not_not.1 (by assumption)), toldC_y (show WD (jw F k) from by first | assumption | exact Decidable.not_not.1 (by assumption))]; rfl | rw [toldT_n (show ¬ WD (jw F k) from by assumption), toldC_n (show ¬ WD (jw F k) from by assumption)]; rfl
def txA (s : ByteArray) (h : Nat) : ByteArray := if h < nL s then seg s 47 h else repI (legO s)

end Go.Proofs.Ytbmgeapfninlkaa

namespace Go.Proofs.Ytbmgeapfninlkaa
open Go Go.RowKit Go.Sw
open Classical
theorem ComposeI_F (v w0 : ByteArray) (w : World) (hF0 : ¬ (WD v ∧ WD w0)) :
    CallsR Try.prog 9 #[.string (v), .string (w0)] w (fun res _ => res = .tuple #[.string (⟨#[]⟩), .int .i64 (1)]) := by
  refine calls_fr [.string (v), .string (w0)] Try.func9 rfl Try.ntmps9 rfl fun a hF => ?_;have hM : Mem w w [] [] := MemX.start w 0;change Fr 50 a [(0, .string (v)), (1, .string (w0))] at hF;refine sr <| ag hF rfl rfl fun a hF => ag hF rfl rfl fun a hF => ns <| mv hF rfl rfl fun a hF => stR hF (d_call Try.call20 hF (.cons rfl .nil) (layersOf_any v _)) rfl ?_;rintro _ w' a ⟨hx, lv, rfl⟩ hF;have hM := hM.ext hx;refine mv hF rfl rfl fun a hF => st hF (g_extract hF rfl rfl) rfl fun a hF => st hF (g_extract hF rfl rfl) rfl fun a hF => ag hF rfl rfl fun a hF => ag hF rfl rfl fun a hF => ns <| mv hF rfl rfl fun a hF => stR hF (d_call Try.call20 hF (.cons rfl .nil) (layersOf_any w0 _)) rfl ?_;rintro _ w' a ⟨hx, lw0, rfl⟩ hF;have hM := hM.ext hx;refine mv hF rfl rfl fun a hF => st hF (g_extract hF rfl rfl) rfl fun a hF => st hF (g_extract hF rfl rfl) rfl fun a hF => ag hF rfl rfl fun a hF => ag hF rfl rfl fun a hF => nt <| sq <| sr <| mv hF rfl rfl fun a hF => st hF (g_notP hF rfl) rfl fun a hF => mv hF rfl rfl fun a hF => ?_
  by_cases g1 : ¬ (WD v)
  · first | rw [decide_eq_true g1] at hF | simp only [decide_eq_true g1] at hF
    refine stS hF rfl rfl rfl rfl rfl fun a hF => stS hF rfl rfl rfl rfl rfl fun a hF => st hF (g_pickT hF rfl rfl) rfl fun a hF => nt <| c_T hF rfl <| sr <| ag hF rfl rfl fun a hF => ag hF rfl rfl fun a hF => nt <| wp_ret <| tR <| fin2 rfl hF.defers (res_tmp hF rfl) (res_tmp hF rfl) ⟨_, rfl, hM.below, ?_⟩
    show _ = _
    rfl
  first | rw [decide_eq_false g1] at hF | simp only [decide_eq_false g1] at hF
  refine stY hF rfl rfl rfl (g_move hF rfl) rfl fun a hF => stY hF rfl rfl rfl (g_notP hF rfl) rfl fun a hF => st hF (g_pickF hF rfl rfl) rfl fun a hF => nt <| c_cond hF rfl (fun h3 => ?_) (fun h3 => ?_)
  · refine sq ?_
    refine wp_region_lit <| ag hF rfl rfl fun a hF => ag hF rfl rfl fun a hF => nt <| wp_ret <| tR <| fin2 rfl hF.defers (res_tmp hF rfl) (res_tmp hF rfl) ⟨_, rfl, hM.below, ?_⟩
    show _ = _
    rfl
  exact absurd ⟨by first | assumption | exact Decidable.not_not.1 (by assumption), by first | assumption | exact Decidable.not_not.1 (by assumption)⟩ hF0
theorem apT_size {v w : ByteArray} (hv : v.size ≤ 300) (hw : w.size ≤ 300) (i : Nat) : (apT (nL v) (seg v 47) (seg w 47) i).size ≤ 1000 := by
  unfold apT
  split
  · have := seg_le (s := v) (k := i); omega
  · have := seg_le (s := w) (k := i - nL v); omega
set_option maxRecDepth 100000 in
theorem ComposeI_T (v w0 : ByteArray) (w : World) (hV : WD v) (hW : WD w0) :
    CallsR Try.prog 9 #[.string (v), .string (w0)] w (fun res _ => res = .tuple #[.string (if legO v ≠ legI w0 then (⟨#[]⟩ : ByteArray) else toldT (cmpX v w0)), .int .i64 (((if legO v ≠ legI w0 then 5 else toldC (cmpX v w0)) : Nat) : Int)]) := by
  refine calls_fr [.string (v), .string (w0)] Try.func9 rfl Try.ntmps9 rfl fun a hF => ?_;have hM : Mem w w [none, none, none, none] [] := MemX.start w 4;change Fr 50 a [(0, .string (v)), (1, .string (w0))] at hF;have hvz := hV.size;have hwz := hW.size;have hnv := nL_le (s := v);have hnw := nL_le (s := w0);refine sr <| ag hF rfl rfl fun a hF => ag hF rfl rfl fun a hF => ns <| mv hF rfl rfl fun a hF => stR hF (d_call Try.call20 hF (.cons rfl .nil) (layersOf_W v _ hV)) rfl ?_;rintro _ w' a ⟨hx, lv, rfl, ho⟩ hF;obtain ⟨ev, hsv, hM⟩ := ho.fill hM (k := 0) rfl hx;refine mv hF rfl rfl fun a hF => st hF (g_extract hF rfl rfl) rfl fun a hF => st hF (g_extract hF rfl rfl) rfl fun a hF => ag hF rfl rfl fun a hF => ag hF rfl rfl fun a hF => ns <| mv hF rfl rfl fun a hF => stR hF (d_call Try.call20 hF (.cons rfl .nil) (layersOf_W w0 _ hW)) rfl ?_;rintro _ w' a ⟨hx, lw0, rfl, ho⟩ hF;obtain ⟨ew0, hsw0, hM⟩ := ho.fill hM (k := 1) rfl hx;change Mem w w' [ev, ew0, none, none] [] at hM;refine mv hF rfl rfl fun a hF => st hF (g_extract hF rfl rfl) rfl fun a hF => st hF (g_extract hF rfl rfl) rfl fun a hF => ag hF rfl rfl fun a hF => ag hF rfl rfl fun a hF => nt <| sq <| sr <| mv hF rfl rfl fun a hF => st hF (g_not hF rfl) rfl fun a hF => mv hF rfl rfl fun a hF => stY hF rfl rfl rfl (g_move hF rfl) rfl fun a hF => stY hF rfl rfl rfl (g_not hF rfl) rfl fun a hF => st hF (g_pickF hF rfl rfl) rfl fun a hF => nt <| c_Fl hF rfl <| wp_skip <| tN <| sr <| mv hF rfl rfl fun a hF => stR hF (d_call Try.call21 hF (.cons rfl .nil) (endsOf_W v lv ev _ hV hsv (fun b cs he => hM.row 0 (by rw [← he]; rfl)))) rfl ?_;rintro _ w' a ⟨hx, rfl⟩ hF;have hM := hM.ext hx;refine mv hF rfl rfl fun a hF => st hF (g_extract hF rfl rfl) rfl fun a hF => st hF (g_extract hF rfl rfl) rfl fun a hF => ag hF rfl rfl fun a hF => ag hF rfl rfl fun a hF => ns <| mv hF rfl rfl fun a hF => stR hF (d_call Try.call21 hF (.cons rfl .nil) (endsOf_W w0 lw0 ew0 _ hW hsw0 (fun b cs he => hM.row 1 (by rw [← he]; rfl)))) rfl ?_;rintro _ w' a ⟨hx, rfl⟩ hF;have hM := hM.ext hx;refine mv hF rfl rfl fun a hF => st hF (g_extract hF rfl rfl) rfl fun a hF => st hF (g_extract hF rfl rfl) rfl fun a hF => ag hF rfl rfl fun a hF => ag hF rfl rfl fun a hF => nt <| sq <| sr <| mv hF rfl rfl fun a hF => mv hF rfl rfl fun a hF => st hF (g_neq hF rfl rfl) rfl fun a hF => nt <| c_cond hF rfl (fun h2 => ?_) (fun h2 => ?_)
  · refine sq ?_
    refine wp_region_lit <| ag hF rfl rfl fun a hF => ag hF rfl rfl fun a hF => nt <| wp_ret <| tR <| fin2 rfl hF.defers (res_tmp hF rfl) (res_tmp hF rfl) ⟨_, rfl, hM.below, ?_⟩
    show _ = _
    rw [if_pos (by omega), if_pos (by omega)]; rfl
  refine wp_skip <| tN <| sr <| mv hF rfl rfl fun a hF => mv hF rfl rfl fun a hF => stR hF (d_appendL (k := 0) ty_si_35 rfl (by decide) hM rfl hF rfl rfl hsv hsw0 (fun b cs he => hM.row 1 (by rw [← he]; rfl)) (fun i hi => layF_one i) (by unfold maxLen; omega) (by omega)) rfl ?_;rintro ua w' a ⟨ea, hM, hsa⟩ hF;rw [show layF v = _ from layF_G v, show layF w0 = _ from layF_G w0, layG_app] at hsa;change Mem w w' [ea, ew0, none, none] [] at hM;refine stR hF (d_call Try.call22 hF (.cons rfl .nil) (textsOf_W ua _ (nL v + nL w0) _ _ _ _ (by omega) hsa (fun b cs he => hM.row 0 (by rw [← he]; rfl)))) rfl ?_;rintro ut w' a ⟨hx, ho⟩ hF;obtain ⟨et, hst, hM⟩ := ho.fill hM (k := 2) rfl hx;change Mem w w' [ea, ew0, et, none] [] at hM;refine stR hF (d_call Try.call16 hF (.cons rfl .nil) ((CallsR.val (wordOfLayers_ok ut _ (nL v + nL w0) _ _ (by omega) (apT_size hvz hwz) hst.sl (fun b cs he => hM.row 2 (by rw [← he]; rfl))) (by rw [cmp_jw])))) rfl ?_;rintro _ w' a ⟨hx, rfl⟩ hF;have hM := hM.ext hx;refine st hF (g_extract hF rfl rfl) rfl fun a hF => st hF (g_extract hF rfl rfl) rfl fun a hF => ag hF rfl rfl fun a hF => ag hF rfl rfl fun a hF => nt <| wp_ret <| fin2 rfl hF.defers (res_tmp hF rfl) (res_tmp hF rfl) ⟨_, rfl, hM.below, ?_⟩
  show _ = _
  rw [if_neg (by omega), if_neg (by omega)]; rfl
def mxN (a b : Nat) : Nat := max a b
def mxL (v w : ByteArray) : Nat := mxN (nL v) (nL w)
end Go.Proofs.Ytbmgeapfninlkaa
