/- What functions of the program return, as walks over their operations; no statement of the seat is proved here. -/
import Derived.Shelf.Strings.Builder1
import Derived.Shelf.Strings.Builder2
import Derived.Shelf.Strings.OnBuilder
import Derived.Test.YtmhibfghnnpefaaProg
import Derived.Test.YtmhibfghnnpefaaW7
import Derived.Test.YtmhibfghnnpefaaSw62
import Derived.Tactics
import Derived.Tactics2
import Derived.Defers
import Derived.Laws.Pointers
import Derived.Laws.LoneSync
import Derived.RegionTactic
import Derived.RegionCalls
import Derived.ChangeAlike
import Derived.Test.YtmhibfghnnpefaaSw53
import Derived.Laws.Rows
import Derived.Test.YtmhibfghnnpefaaSw109
set_option linter.unusedVariables false
set_option linter.unusedSimpArgs false
namespace Go.Proofs
open Go.Shelf
def Try.lays156_ren : Go.Shelf.Ren := ⟨fun | 156 => 13 | 165 => 20 | 166 => 21 | 169 => 22 | 240 => 28 | 241 => 29 | 276 => 37 | 277 => 38 | n => n, fun | 31 => 25 | 9 => 9 | 3 => 3 | 4 => 4 | 0 => 0 | 20 => 20 | 72 => 63 | 76 => 67 | 70 => 61 | 37 => 27 | 75 => 66 | 127 => 77 | 164 => 93 | 5 => 5 | 80 => 69 | n => n, fun | n => n⟩
theorem Try.lays156 : Go.Proofs.Lays.n156 Try.prog Try.lays156_ren := {
  mixed := by kernel_rfl
  f156 := Try.func13.trans (congrArg some (by kernel_rfl))
  f165 := Try.func20.trans (congrArg some (by kernel_rfl))
  f166 := Try.func21.trans (congrArg some (by kernel_rfl))
  f169 := Try.func22.trans (congrArg some (by kernel_rfl))
  f240 := Try.func28.trans (congrArg some (by kernel_rfl))
  f241 := Try.func29.trans (congrArg some (by kernel_rfl))
  f276 := Try.func37.trans (congrArg some (by kernel_rfl))
  f277 := Try.func38.trans (congrArg some (by kernel_rfl))
  t0 := Try.underlying0
  a0 := Try.isAgg0
  z0 := Try.sizeOf0
  v0 := Try.zeroValue0
  t3 := Try.underlying3
  a3 := Try.isAgg3
  z3 := Try.sizeOf3
  v3 := Try.zeroValue3
  t4 := Try.underlying4
  a4 := Try.isAgg4
  z4 := Try.sizeOf4
  v4 := Try.zeroValue4
  t9 := Try.underlying9
  a9 := Try.isAgg9
  z9 := Try.sizeOf9
  v9 := Try.zeroValue9
  t20 := Try.underlying20
  a20 := Try.isAgg20
  z20 := Try.sizeOf20
  v20 := Try.zeroValue20
  t31 := Try.underlying25
  a31 := Try.isAgg25
  z31 := Try.sizeOf25
  v31 := Try.zeroValue25
  t37 := Try.underlying27
  a37 := Try.isAgg27
  z37 := Try.sizeOf27
  v37 := Try.zeroValue27
  t70 := Try.underlying61
  a70 := Try.isAgg61
  z70 := Try.sizeOf61
  v70 := Try.zeroValue61
  t72 := Try.underlying63
  a72 := Try.isAgg63
  z72 := Try.sizeOf63
  v72 := Try.zeroValue63
  t75 := Try.underlying66
  a75 := Try.isAgg66
  z75 := Try.sizeOf66
  v75 := Try.zeroValue66
  t76 := Try.underlying67
  a76 := Try.isAgg67
  z76 := Try.sizeOf67
  v76 := Try.zeroValue67
  t127 := Try.underlying77
  a127 := Try.isAgg77
  z127 := Try.sizeOf77
  v127 := Try.zeroValue77
  t164 := Try.underlying93
  a164 := Try.isAgg93
  z164 := Try.sizeOf93
  v164 := Try.zeroValue93 }
theorem Try.Builder_Extra_156 : Builder.Extra Try.prog Try.lays156_ren := {
  sizeBuilder := by kernel_rfl
  liesBuilder := by kernel_rfl
  t5 := Try.underlying5
  a5 := Try.isAgg5
  z5 := Try.sizeOf5
  v5 := Try.zeroValue5
  infoByte := by kernel_rfl
  cellsByte := by kernel_rfl
  sizeByte := by kernel_rfl
  neB5 := by decide }
open Go.RowKit in
theorem Try.strings_Join_none (a : Option Addr) (c : Nat) (sep : ByteArray) (w : World) :
    Calls Try.prog 13 #[.slice a 0 c, .string sep] w fun e w' => e = .returned (.string ⟨#[]⟩) ∧ w' = w := Any.strings_Join_none Try.lays156 Try.Builder_Extra_156 a c sep w
open Go.RowKit in
theorem Try.strings_Join (bk o c : Nat) (xs : List ByteArray) (sep : ByteArray) (w : World) (hcells : ∀ (j : Nat) x, xs[j]? = some x → w.cell? ⟨bk, o + j, none⟩ = some (.string x)) (hbk : bk < w.heap.size) (hN : xs.length ≤ 140737488355328) (hcap : xs.length ≤ c) (hlen : (Lib.join (xs.map (·.data.toList)) sep.data.toList).length ≤ 140737488355328) :
    Calls Try.prog 13 #[.slice (some ⟨bk, o, none⟩) xs.length c, .string sep] w fun e w' => e = .returned (.string ⟨(Lib.join (xs.map (·.data.toList)) sep.data.toList).toArray⟩) ∧ Below w.heap.size w w' := Any.strings_Join Try.lays156 Try.Builder_Extra_156 bk o c xs sep w hcells hbk hN hcap hlen
end Go.Proofs

namespace Go.Proofs.Ytmhibfghnnpefaa
open Go Go.RowKit Go.Sw
open Classical
theorem layersOf_W (s : ByteArray) (w : World) (hW : WD s) : CallsR Try.prog 9 #[.string s] w (fun u w' => ∃ l, u = .tuple #[l, .bool true] ∧ LstOut 3 w (nL s) (layF s) l w') := by
  by_cases h0 : s.size = 0
  · obtain rfl := str_e0 h0
    exact (layersOf_E w).mono fun v w' _ h3 => ⟨_, h3, .inl ⟨rfl, nL_0 rfl⟩⟩
  · have hp := hW.resolve_left h0
    exact (layersOf_Y s w hp (by omega)).mono fun v w' _ ⟨l, h3, h4⟩ => ⟨l, h3, .inr ⟨by rw [nL_y (by omega)]; unfold nSg; omega, by rw [nL_y (by omega)]; exact h4⟩⟩
theorem layersOf_any (s : ByteArray) (w : World) : CallsR Try.prog 9 #[.string s] w (fun u w' => ∃ l, u = .tuple #[l, .bool (decide (WD s))]) := by
  by_cases hW : WD s
  · exact (layersOf_W s w hW).mono fun v w' _ ⟨l, h3, _⟩ => ⟨l, by rw [decide_eq_true hW]; exact h3⟩
  · have h0 : ¬ s.size = 0 := fun h => hW (.inl h)
    have hp : ¬ WordP s := fun h => hW (.inr h)
    by_cases h3 : s.size ≤ 300
    · exact (layersOf_N s w hp (by omega) h3).mono fun v w' _ h3 => ⟨_, by rw [decide_eq_false hW]; exact h3⟩
    · exact (layersOf_L s w (by omega)).mono fun v w' _ h3 => ⟨_, by rw [decide_eq_false hW]; exact h3⟩
theorem l04Is_all (s : ByteArray) (w : World) (hz : s.size < 10000000) : CallsR Try.prog 6 #[.string s] w (fun r _ => r = .bool (decide (WD s))) := by
  by_cases h0 : s.size = 0
  · obtain rfl := str_e0 h0
    exact CallsR.val (l04Is_E w) (congrArg Value.bool (decide_eq_true (show WD (⟨#[]⟩ : ByteArray) from Or.inl rfl)).symm)
  · by_cases hp : WordP s
    · exact CallsR.val (l04Is_Y s w hp (by omega)) (congrArg Value.bool (decide_eq_true (show WD s from Or.inr hp)).symm)
    · have hW : ¬ WD s := fun h => h.elim h0 hp
      exact CallsR.val (l04Is_N s w hp (by omega) hz) (congrArg Value.bool (decide_eq_false hW).symm)
def layG (F : Nat → ByteArray) (gx gy : Nat → Int) (q : Nat) : Value := if q % 3 = 0 then .string (F (q / 3)) else if q % 3 = 1 then .int .i64 (gx (q / 3)) else .int .i64 (gy (q / 3))
theorem layG_row {v : Value} {e : Option (Nat × Array Value)} {k b cap : Nat} {cs : Array Value} {F : Nat → ByteArray} {gx gy : Nat → Int} (hs : SlAt 3 v e k b cap cs (layG F gx gy)) (i : Nat) {o : Nat} (ho : o = 0 + i * 3) (hi : i < k) : cs.extract o (o + 3) = layC (F i) (gx i) (gy i) := by
  subst ho;have hsz := hs.sz;have hle := hs.le;have h0 := hs.get3 i 0 (o := 0 + i * 3) rfl hi (by omega);have h1 := hs.get3 i 1 (o := 0 + i * 3 + 1) rfl hi (by omega);have h2 := hs.get3 i 2 (o := 0 + i * 3 + 2) rfl hi (by omega);have e0 : layG F gx gy (i * 3 + 0) = .string (F i) := by unfold layG; rw [if_pos (by omega), show (i * 3 + 0) / 3 = i by omega]
  have e1 : layG F gx gy (i * 3 + 1) = .int .i64 (gx i) := by unfold layG; rw [if_neg (by omega), if_pos (by omega), show (i * 3 + 1) / 3 = i by omega]
  have e2 : layG F gx gy (i * 3 + 2) = .int .i64 (gy i) := by unfold layG; rw [if_neg (by omega), if_neg (by omega), show (i * 3 + 2) / 3 = i by omega]
  rw [e0] at h0; rw [e1] at h1; rw [e2] at h2;refine Array.ext_getElem? fun q => ?_;rw [Array.getElem?_extract]
  by_cases hq : q < 3
  · rw [if_pos (by omega)]
    obtain rfl | rfl | rfl : q = 0 ∨ q = 1 ∨ q = 2 := by omega
    · rw [Nat.add_zero, h0]; rfl
    · rw [h1]; rfl
    · rw [h2]; rfl
  · rw [if_neg (by omega), Array.getElem?_eq_none (by show 3 ≤ q; omega)]
theorem layF_G (s : ByteArray) : layF s = layG (seg s 47) (fun i => (inR s (sgB s 47 i) : Int)) (fun i => (outR s (sgB s 47 i) : Int)) := rfl
theorem layG_one {F : Nat → ByteArray} {gx gy : Nat → Int} (q : Nat) : (layG F gx gy q).oneCell' = true := by unfold layG; split; rfl; split <;> rfl
def strF (F : Nat → ByteArray) (i : Nat) : Value := .string (F i)

theorem textsOf_nil  (w : World)  :
    CallsR Try.prog 14 #[.slice none 0 0] w (fun res _ => res = .slice none 0 0) := by
  refine calls_fr [.slice none 0 0] Try.func14 rfl Try.ntmps14 rfl fun a hF => ?_;have hM : Mem w w [none, none] [] := MemX.start w 2;change Fr 19 a [(0, .slice none 0 0)] at hF;refine sr <| ag hF rfl rfl fun a hF => ns <| ag hF rfl rfl fun a hF => nt <| sq <| sr <| mv hF rfl rfl fun a hF => st hF (g_len0 ty_us_29 hF rfl) rfl fun a hF => mv hF rfl rfl fun a hF => nt <| wp_block ?_;change Mem w _ [none, none] [] at hM;refine c_loop (fun (kk : Nat) a w' => kk ≤ 0 ∧ (True) ∧ Fr 19 a [(2, .slice none 0 0), (6, .slice none 0 0), (7, .int .i64 (0)), (8, .int .i64 (kk : Int)), (3, .slice none 0 0)] ∧ Mem w w' [none, none] []) (fun kk => 0 - kk) 0 ?_ ?_
  · refine ⟨by omega, trivial, hF.sub _ (by repeat' constructor), ?_⟩
    exact hM
  clear hF hM;rintro gk a w' ⟨hgk, hinv1, hF, hM⟩;refine sr <| st hF (g_lss hF rfl rfl) rfl fun a hF => nt <| sq <| c_cond hF rfl (fun h1 => ?_) (fun h1 => ?_)
  · exfalso; omega
  obtain rfl : 0 = gk := by omega
  refine wp_exit <| tX <| tX <| ib_same <| tN <| sr <| mv hF rfl rfl fun a hF => ag hF rfl rfl fun a hF => nt <| wp_ret <| fin1 rfl hF.defers (res_tmp hF rfl) ⟨_, rfl, hM.below, ?_⟩
  show _ = _
  rfl
theorem textsOf_S (bl cl k : Nat) (cs : Array Value) (v : Value) (e : Option (Nat × Array Value)) (F : Nat → ByteArray) (gx gy : Nat → Int) (w : World) (hk0 : 0 < k) (hk : k < 100000) (hs : SlAt 3 v e k bl cl cs (layG F gx gy)) (hb : Blk w bl cs) :
    CallsR Try.prog 14 #[.slice (some ⟨bl, 0, none⟩) k cl] w (fun u w' => OwnSl 1 w k (strF F) u w') := by
  refine calls_fr [.slice (some ⟨bl, 0, none⟩) k cl] Try.func14 rfl Try.ntmps14 rfl fun a hF => ?_;have hM : Mem w w [none, none, none] [(bl, cs)] := MemX.startD w 3 _ (startD1 hb);change Fr 19 a [(0, .slice (some ⟨bl, 0, none⟩) k cl)] at hF;refine sr <| ag hF rfl rfl fun a hF => ns <| ag hF rfl rfl fun a hF => nt <| sq <| sr <| mv hF rfl rfl fun a hF => st hF (g_len ty_us_29 hF rfl) rfl fun a hF => mv hF rfl rfl fun a hF => nt <| wp_block ?_;change Mem w _ [none, none, none] [(bl, cs)] at hM;refine c_loop (fun (kk : Nat) a w' => kk ≤ k ∧ (True) ∧ ∃ (u3_1 : Value) (e3_1 : Option (Nat × Array Value)), Sl 1 u3_1 e3_1 (kk) (strF F) ∧ Fr 19 a [(2, .slice none 0 0), (6, .slice (some ⟨bl, 0, none⟩) k cl), (7, .int .i64 (k : Int)), (8, .int .i64 (kk : Int)), (3, u3_1)] ∧ Mem w w' [none, none, e3_1] [(bl, cs)]) (fun kk => k - kk) 0 ?_ ?_
  · refine ⟨by omega, trivial, (.slice none 0 0), (none), (Sl.nil 1 _), hF.sub _ (by repeat' constructor), ?_⟩
    exact hM
  clear hF hM;rintro gk a w' ⟨hgk, hinv1, u3_1, e3_1, hsl, hF, hM⟩;refine sr <| st hF (g_lss hF rfl rfl) rfl fun a hF => nt <| sq <| c_cond hF rfl (fun h1 => ?_) (fun h1 => ?_)
  · refine wp_skip ?_
    refine tN <| sq <| wp_block <| sr <| st hF (g_indexSl (i := gk) ty_sl_29 hF rfl rfl rfl (by omega)) rfl fun a hF => st hF (g_loadAgg ty_ag_34 hF rfl (hM.fz 0 rfl) (by rw [hs.sz]; have := hs.le; omega) (layG_row hs (gk) (by omega) (by omega))) rfl fun a hF => stR hF (d_alloc 0 hM ty_ze_34) rfl ?_;rintro _ w' a ⟨b2, rfl, hM, -⟩ hF;change Mem w w' [some (b2, layC ⟨#[]⟩ 0 0), none, e3_1] [(bl, cs)] at hM;refine stN hF (d_storeAgg 0 hM rfl ty_sz_34 hF rfl rfl (layC_one) (by simp only [sz0, layC_size]) (by simp only [sz0, layC_size] <;> omega) (splice_whole _ _ (by simp only [sz0, layC_size]))) ?_;intro _ w' a hM hF;change Mem w w' [some (b2, layC (F (gk)) (gx (gk)) (gy (gk))), none, e3_1] [(bl, cs)] at hM;refine nt <| wp_region_lit <| mv hF rfl rfl fun a hF => st hF (g_fieldAddr ty_fo_34_0 hF rfl) rfl fun a hF => st hF (g_load ty_on_9 hF rfl (hM.row 0 rfl) (layC_0 rfl)) rfl fun a hF => stR hF (d_buildC 1 hM hF (build1 hF rfl) (ty_bst_25 _)) rfl ?_;rintro _ w' a ⟨b3, rfl, hM, -⟩ hF;change Mem w w' [some (b2, layC (F (gk)) (gx (gk)) (gy (gk))), some (b3, #[.string ((F (gk)))]), e3_1] [(bl, cs)] at hM;refine stR hF (d_append (k := 2) (m := 1) (g := fun _ => .string ((F (gk)))) ty_si_25 rfl (by decide) hM rfl hF rfl rfl hsl (fun i hi => by rw [show i = 0 by omega]; exact (hM.row 1 rfl).cell 0) (fun _ _ => rfl) (by decide) (by unfold maxLen; omega) (by omega)) rfl ?_;rintro u4 w' a ⟨e5, hM, hs6⟩ hF;change Mem w w' [some (b2, layC (F (gk)) (gx (gk)) (gy (gk))), some (b3, #[.string ((F (gk)))]), e5] [(bl, cs)] at hM;refine ag hF rfl rfl fun a hF => wpList_nil <| iN <| tN <| wp_region_lit <| st hF (g_add hF rfl rfl (add_nat (gk) (1) (by omega))) rfl fun a hF => mv hF rfl rfl fun a hF => wpList_nil <| tN ?_;have hM := hM.drop 0;have hM := hM.drop 1;refine ⟨gk + 1, ⟨by omega, trivial, (u4), (e5), (hs6.snoc rfl), hF.sub _ (by repeat' constructor), ?_⟩, by omega⟩;exact hM
  obtain rfl : k = gk := by omega
  refine wp_exit <| tX <| tX <| ib_same <| tN <| sr <| mv hF rfl rfl fun a hF => ag hF rfl rfl fun a hF => nt <| wp_ret <| fin1 rfl hF.defers (res_tmp hF rfl) ⟨_, rfl, hM.below, ?_⟩;exact OwnSl.pos hM (k := 2) rfl hsl hk0
theorem join_ok (u : Value) (e : Option (Nat × Array Value)) (k : Nat) (F : Nat → ByteArray) (w : World) (hk : k < 100000) (hF : ∀ i, (F i).size ≤ 1000) (hs : Sl 1 u e k (strF F)) (hb : ∀ b cs, e = some (b, cs) → Blk w b cs) : CallsR Try.prog 13 #[u, .string (⟨#[47]⟩ : ByteArray)] w (fun r _ => r = .string (jw F k)) := by
  have none_ : ∀ a c, k = 0 → CallsR Try.prog 13 #[.slice a 0 c, .string (⟨#[47]⟩ : ByteArray)] w (fun r _ => r = .string (jw F k)) := fun a c h0 =>
    (Try.strings_Join_none a c ⟨#[47]⟩ w).mono fun e w' ⟨h1, h2⟩ => ⟨_, h1, h2 ▸ Ext.refl _, by rw [h0]; rfl⟩
  rcases hs with ⟨rfl, rfl, h0⟩ | ⟨b, cap, cs, hat⟩
  · exact none_ _ _ h0
  · obtain rfl := hat.val
    by_cases h0 : k = 0
    · have := none_ (some ⟨b, 0, none⟩) cap h0
      rwa [show (Value.slice (some ⟨b, 0, none⟩) k cap) = .slice (some ⟨b, 0, none⟩) 0 cap from by rw [h0]]
    · have hblk := hb _ _ hat.ent
      have hlen : ((List.range k).map F).length = k := by simp
      have hmap : ((List.range k).map F).map (·.data.toList) = (List.range k).map fun i => (F i).data.toList := by rw [List.map_map]; rfl
      have hsz := jw_size hF k;have hj : (Go.Lib.join (((List.range k).map F).map (·.data.toList)) (⟨#[47]⟩ : ByteArray).data.toList) = (jw F k).data.toList := by rw [hmap]; exact join_jw k
      have h := Try.strings_Join b 0 cap ((List.range k).map F) ⟨#[47]⟩ w (fun j x hj => by
        rw [List.getElem?_map] at hj
        cases hr : (List.range k)[j]? with
        | none => rw [hr] at hj; cases hj
        | some q =>
          rw [hr] at hj;obtain rfl := Option.some.inj hj;have hq := List.getElem?_eq_some_iff.1 hr;obtain ⟨h1, h2⟩ := hq
          simp at h1 h2
          subst h2;rw [Nat.zero_add, hblk.cell j];exact hat.get j (by omega)) (hblk.lt) (by rw [hlen]; omega) (by rw [hlen]; exact hat.le) (by
        rw [hj, Array.length_toList]
        show (jw F k).size ≤ _
        have : k * (1000 + 1) ≤ 100000 * (1000 + 1) := Nat.mul_le_mul_right _ (by omega)
        omega)
      rw [hlen] at h;exact h.mono fun e w' ⟨h1, h2⟩ => ⟨_, h1, h2, by rw [hj]⟩
end Go.Proofs.Ytmhibfghnnpefaa

namespace Go.Proofs.Ytmhibfghnnpefaa
/-! One goroutine's sync.Once. -/
theorem raceOff (w : World) : (callFunc 45 #[]).run Try.prog w = .ok (.value (.tuple #[])) w := run_call_mark0 Try.func45 (by kernel_rfl) (by kernel_rfl) (by kernel_rfl) .disable (by kernel_rfl) w
theorem raceOn (w : World) : (callFunc 47 #[]).run Try.prog w = .ok (.value (.tuple #[])) w := run_call_mark0 Try.func47 (by kernel_rfl) (by kernel_rfl) (by kernel_rfl) .enable (by kernel_rfl) w
theorem raceAcq (p : Addr) (w : World) : (callFunc 48 #[.pointer (some p)]).run Try.prog w = .ok (.value (.tuple #[])) w := run_call_marked Try.func48 (by kernel_rfl) (by kernel_rfl) (by kernel_rfl) .acquire (by kernel_rfl) p w
theorem raceRel (p : Addr) (w : World) : (callFunc 50 #[.pointer (some p)]).run Try.prog w = .ok (.value (.tuple #[])) w := run_call_marked Try.func50 (by kernel_rfl) (by kernel_rfl) (by kernel_rfl) .releaseMerge (by kernel_rfl) p w
set_option maxRecDepth 100000 in
theorem lock_ok (p : Addr) (w : World) (h : w.cell? p = some (.int .i32 0)) (hf : w.frozen? p = false) :
    Calls Try.prog 32 #[.pointer (some p)] w fun e w' => e = .returned (.tuple #[]) ∧ w' = w.setCell p (.int .i32 1) := by
  have k1 := raceOff;have k2 := raceOn;have k3 := raceAcq;have k4 := run_call_cas_hit (P := Try.prog) Try.func46 (by kernel_rfl) (by kernel_rfl) (by kernel_rfl) .i32 (by kernel_rfl) (y := 1) h hf;have h2 : (w.setCell p (.int .i32 1)).cell? p = some (.int .i32 1) := World.cell?_setCell_same w p _ h;have k5 := run_convert_to_unsafe (P := Try.prog) (src := 110) (dst := 93) Try.underlying110 Try.underlying93 (by kernel_rfl) h2
  go_enter Try.func32, Try.ntmps32
  go_wp2
  first | go_end0 | (simp only [Exit.inBlock, Exit.then]; refine bodyPost_ret (results_none rfl _ _ _) rfl ?_) | refine bodyPost_ret (results_none rfl _ _ _) rfl ?_
  go_wp2
  go_end0
  exact ⟨rfl, rfl⟩
set_option maxRecDepth 100000 in
theorem unlock_ok (p : Addr) (u : FrameMode) (w : World) (h : w.cell? p = some (.int .i32 1)) (hf : w.frozen? p = false) :
    CallsD Try.prog 33 #[.pointer (some p)] u w fun e u' w' => u' = u ∧ (e = .returned (.tuple #[]) ∧ w' = w.setCell p (.int .i32 0)) := by
  have k1 := raceOff;have k2 := raceOn;have k3 := raceRel;have k4 := run_call_add (P := Try.prog) Try.func51 (by kernel_rfl) (by kernel_rfl) (by kernel_rfl) .i32 (by kernel_rfl) (y := -1) (s := 0) h hf (by simp [go_sem]; rfl);have k5 := run_convert_to_unsafe (P := Try.prog) (src := 110) (dst := 93) Try.underlying110 Try.underlying93 (by kernel_rfl) h
  go_enter_d Try.func33, Try.ntmps33
  go_wp2
  go_end0
  go_wp2
  go_end0
  exact ⟨rfl, rfl⟩
theorem store_ok (p : Addr) (x : Value) (u : FrameMode) (w : World) (h : w.cell? p = some x) (hf : w.frozen? p = false) :
    CallsD Try.prog 34 #[.pointer (some p), .bool true] u w fun e u' w' => u' = u ∧ (e = .returned (.tuple #[]) ∧ w' = w.drew.setCell p (.int .u32 1)) := by
  have h1 : w.drew.cell? p = some x := by go_simp
  have h2 : w.drew.frozen? p = false := by go_simp
  have k1 := run_call_store (P := Try.prog) Try.func41 (by kernel_rfl) (by kernel_rfl) (by kernel_rfl) (by kernel_rfl) (k := .u32) (y := 1) h1 h2
  go_enter_d Try.func34, Try.ntmps34
  go_wp2
  go_region_calls
  all_goals (go_end0; exact ⟨rfl, rfl⟩)
end Go.Proofs.Ytmhibfghnnpefaa

namespace Go.Proofs.Ytmhibfghnnpefaa
open Go.RowKit Go.Sw
abbrev repC (d s : Int) (u l : Value) : Array Value := #[.int .u32 d, .int .i32 s, .int .u32 0, u, l]
def BuiltR (RB : TypeId → Value → World → Prop) (u : Value) (w : World) : Prop := ∃ tt pp, u = .iface tt pp ∧ RB tt pp w
theorem buildOnce_ok (b : Nat) (l : Value) (w : World) (RB : TypeId → Value → World → Prop) (hB : Blk w b (repC 0 1 .nilIface l))
    (hb : CallsR Try.prog 27 #[.pointer (some ⟨b, 0, none⟩)] w (BuiltR RB)) :
    Calls Try.prog 19 #[.pointer (some ⟨b, 0, none⟩)] w fun e w' => e = .returned (.tuple #[]) ∧ ∃ tt pp w2, Ext w w2 ∧ RB tt pp w2 ∧ w' = (w2.setCell ⟨b, 3, none⟩ (.iface tt pp)).setCell ⟨b, 4, none⟩ (.slice none 0 0) := by
  go_enter Try.func19, Try.ntmps19
  go_wp2_with (first | (go_at_call 27; refine Calls.mono hb ?_; rintro e w2 ⟨u, rfl, hx, tt, pp, rfl, hr⟩; have c3' : w2.cell? ⟨b, 3, none⟩ = some .nilIface := (hB.ext hx).cell 3; have f3 := (hB.ext hx).frozen 3; have c4' : (w2.setCell ⟨b, 3, none⟩ (.iface tt pp)).cell? ⟨b, 4, none⟩ = some l := (World.cell?_setCell_other _ ⟨b, 3, none⟩ ⟨b, 4, none⟩ _ (by simp)).trans ((hB.ext hx).cell 4); have f4 := (hB.ext hx).frozen 4) | go_in)
  go_end0
  exact ⟨rfl, _, _, w2, hx, hr, rfl⟩
theorem blk_set {w : World} {b : Nat} {cs : Array Value} (h : Blk w b cs) (i : Nat) (v : Value) : Blk (w.setCell ⟨b, i, none⟩ v) b (cs.setIfInBounds i v) := by
  obtain ⟨t, h⟩ := h; exact ⟨t, heap_setCell_same w b i cs t v h⟩
theorem extX_set (w : World) (b i : Nat) (v : Value) : ExtX [b] w (w.setCell ⟨b, i, none⟩ v) :=
  ⟨rfl, rfl, rfl, by simp [World.setCell], fun k _ hn => heap_setCell_other w _ k v (by simpa using hn)⟩
theorem extX_trans {X : List Nat} {w1 w2 w3 : World} (h : ExtX X w1 w2) (k : ExtX X w2 w3) : ExtX X w1 w3 :=
  ⟨k.os.trans h.os, k.tape.trans h.tape, k.output.trans h.output, Nat.le_trans h.size k.size, fun i hi hx => (k.block i (Nat.lt_of_lt_of_le hi h.size) hx).trans (h.block i hi hx)⟩
theorem extX_of {X : List Nat} {w1 w2 : World} (h : Ext w1 w2) : ExtX X w1 w2 := ⟨h.os, h.tape, h.output, h.size, fun k hk _ => h.block k hk⟩
set_option maxRecDepth 100000 in
theorem slow_ok (b : Nat) (l : Value) (w : World) (RB : TypeId → Value → World → Prop) (hB : Blk w b (repC 0 0 .nilIface l))
    (hb : ∀ w1, ExtX [b] w w1 → Blk w1 b (repC 0 1 .nilIface l) → CallsR Try.prog 27 #[.pointer (some ⟨b, 0, none⟩)] w1 (BuiltR RB)) :
    Calls Try.prog 26 #[.pointer (some ⟨b, 0, none⟩), .func (.func 19) #[.pointer (some ⟨b, 0, none⟩)] #[]] w fun e w' => e = .returned (.tuple #[]) ∧ ∃ tt pp w2, ExtX [b] w w2 ∧ RB tt pp w2 ∧ ExtX [b] w2 w' ∧ Blk w' b (repC 1 0 (.iface tt pp) (.slice none 0 0)) := by
  have hL : Blk (w.setCell ⟨b, 1, none⟩ (.int .i32 1)) b (repC 0 1 .nilIface l) := blk_set hB 1 (.int .i32 1);have kl := run_call_load (P := Try.prog) Try.func31 (by kernel_rfl) (by kernel_rfl) (by kernel_rfl) .u32 (by kernel_rfl) (w := w.setCell ⟨b, 1, none⟩ (.int .i32 1)) (a := ⟨b, 0, none⟩) (x := 0) (hL.cell 0);have hnot : ∀ (x : Bool) (w : World), (Op.unary .not (.bool x)).run Try.prog w = .ok (.bool (!x)) w := fun _ _ => rfl
  go_enter_defers Try.func26, Try.ntmps26
  go_wp2_with (first | (go_at_call 32; refine (lock_ok ⟨b, 1, none⟩ _ (hB.cell 1) (hB.frozen 1)).mono ?_; rintro e w' ⟨rfl, rfl⟩) | (go_at_call 19; refine (buildOnce_ok b l _ RB hL (hb _ (extX_set _ _ _ _) hL)).mono ?_; rintro e w' ⟨rfl, tt, pp, w2, hx2, hr, rfl⟩) | go_in)
  have hA : Blk ((w2.setCell ⟨b, 3, none⟩ (.iface tt pp)).setCell ⟨b, 4, none⟩ (.slice none 0 0)) b (repC 0 1 (.iface tt pp) (.slice none 0 0)) := blk_set (blk_set (hL.ext hx2) 3 (.iface tt pp)) 4 (.slice none 0 0);have hD : Blk (((w2.setCell ⟨b, 3, none⟩ (.iface tt pp)).setCell ⟨b, 4, none⟩ (.slice none 0 0)).drew.setCell ⟨b, 0, none⟩ (.int .u32 1)) b (repC 1 1 (.iface tt pp) (.slice none 0 0)) := blk_set (w := ((w2.setCell ⟨b, 3, none⟩ (.iface tt pp)).setCell ⟨b, 4, none⟩ (.slice none 0 0)).drew) (show Blk _ b _ from hA) 0 (.int .u32 1);have hE : Blk ((((w2.setCell ⟨b, 3, none⟩ (.iface tt pp)).setCell ⟨b, 4, none⟩ (.slice none 0 0)).drew.setCell ⟨b, 0, none⟩ (.int .u32 1)).setCell ⟨b, 1, none⟩ (.int .i32 0)) b (repC 1 0 (.iface tt pp) (.slice none 0 0)) := blk_set hD 1 (.int .i32 0);have hX : ExtX [b] w2 ((((w2.setCell ⟨b, 3, none⟩ (.iface tt pp)).setCell ⟨b, 4, none⟩ (.slice none 0 0)).drew.setCell ⟨b, 0, none⟩ (.int .u32 1)).setCell ⟨b, 1, none⟩ (.int .i32 0)) :=
    extX_trans (extX_trans (extX_trans (extX_set _ _ _ _) (extX_set _ _ _ _)) (extX_of (Below.drew (Below.refl _ _)))) (extX_trans (extX_set _ _ _ _) (extX_set _ _ _ _))
  refine leaves_cons (f := 34) (args := #[.pointer (some ⟨b, 0, none⟩), .bool true]) (by simp) (by simp [go_sem]) <| (store_ok ⟨b, 0, none⟩ (.int .u32 0) .returning _ (hA.cell 0) (hA.frozen 0)).mono ?_;rintro e u' w'' ⟨rfl, rfl, rfl⟩;refine leaves_cons (f := 33) (args := #[.pointer (some ⟨b, 1, none⟩)]) (by simp [settle]) (by simp [go_sem]) <| (unlock_ok ⟨b, 1, none⟩ _ _ (hD.cell 1) (hD.frozen 1)).mono ?_;rintro e u' w'' ⟨rfl, rfl, rfl⟩;have hfin : ∃ tt pp w2', ExtX [b] w w2' ∧ RB tt pp w2' ∧ ExtX [b] w2' _ ∧ Blk _ b (repC 1 0 (.iface tt pp) (.slice none 0 0)) := ⟨tt, pp, w2, extX_trans (extX_set w b 1 (.int .i32 1)) (extX_of hx2), hr, hX, hE⟩
  simp [Leaves, settle, results, Try.results26]
  exact hfin
set_option maxRecDepth 100000 in
theorem do_ok (b : Nat) (l : Value) (w : World) (RB : TypeId → Value → World → Prop) (hB : Blk w b (repC 0 0 .nilIface l))
    (hb : ∀ w1, ExtX [b] w w1 → Blk w1 b (repC 0 1 .nilIface l) → CallsR Try.prog 27 #[.pointer (some ⟨b, 0, none⟩)] w1 (BuiltR RB)) :
    Calls Try.prog 18 #[.pointer (some ⟨b, 0, none⟩), .func (.func 19) #[.pointer (some ⟨b, 0, none⟩)] #[]] w fun e w' => e = .returned (.tuple #[]) ∧ ∃ tt pp w2, ExtX [b] w w2 ∧ RB tt pp w2 ∧ ExtX [b] w2 w' ∧ Blk w' b (repC 1 0 (.iface tt pp) (.slice none 0 0)) := by
  have kl := run_call_load (P := Try.prog) Try.func31 (by kernel_rfl) (by kernel_rfl) (by kernel_rfl) .u32 (by kernel_rfl) (w := w) (a := ⟨b, 0, none⟩) (x := 0) (hB.cell 0);have hnot : ∀ (x : Bool) (w : World), (Op.unary .not (.bool x)).run Try.prog w = .ok (.bool (!x)) w := fun _ _ => rfl
  go_enter Try.func18, Try.ntmps18
  go_wp2_with (first | (go_at_call 26; refine (slow_ok b l _ RB hB hb).mono ?_; rintro e w' ⟨rfl, hres⟩) | (go_at_call 25; go_in))
  go_end0
  exact ⟨rfl, hres⟩
end Go.Proofs.Ytmhibfghnnpefaa

namespace Go.Proofs.Ytmhibfghnnpefaa
open Go.RowKit Go.Sw
def tabY (tb : Nat → Nat) : Array Value := dgC 256 tb
def mpT (tb : Nat → Nat) (s : ByteArray) : ByteArray := txt s.size (fun i => tb (byt s i))
def TabR (b : Nat) (tb : Nat → Nat) (tt : TypeId) (pp : Value) (w : World) : Prop := tt = 88 ∧ ∃ N, pp = .pointer (some ⟨N, 0, none⟩) ∧ N ≠ b ∧ Blk w N (tabY tb)
theorem blk_extX {b N : Nat} {w w' : World} {cs : Array Value} (h : Blk w N cs) (hx : ExtX [b] w w') (hn : N ≠ b) : Blk w' N cs := by
  have hl := h.lt;obtain ⟨t, h⟩ := h;exact ⟨t, (hx.block N hl (by simpa using hn)).trans h⟩
set_option maxRecDepth 100000 in
theorem replace_ok (b : Nat) (l : Value) (s : ByteArray) (tb : Nat → Nat) (w : World) (hB : Blk w b (repC 0 0 .nilIface l))
    (hb : ∀ w1, ExtX [b] w w1 → Blk w1 b (repC 0 1 .nilIface l) → CallsR Try.prog 27 #[.pointer (some ⟨b, 0, none⟩)] w1 (BuiltR (TabR b tb)))
    (hr : ∀ N w1, Blk w1 N (tabY tb) → CallsV Try.prog 86 #[.pointer (some ⟨N, 0, none⟩), .string s] w1 (.string (mpT tb s))) :
    Calls Try.prog 12 #[.pointer (some ⟨b, 0, none⟩), .string s] w fun e w' => e = .returned (.string (mpT tb s)) ∧ ExtX [b] w w' ∧ ∃ cs, Blk w' b cs := by
  have km : ∀ (p : Option Addr) (w : World), (method 259 88 (.pointer p) "Replace").run Try.prog w = .ok (86, .pointer p) w := by intros; kernel_rfl
  go_enter Try.func12, Try.ntmps12
  go_wp2_with (first | (go_at_call 18; refine (do_ok b l _ (TabR b tb) hB hb).mono ?_; rintro e w' ⟨rfl, tt, pp, w2, hx1, ⟨rfl, N, rfl, hn, hN⟩, hx2, hB2⟩; have c3 : w'.cell? ⟨b, 3, none⟩ = some (.iface 88 (.pointer (some ⟨N, 0, none⟩))) := hB2.cell 3) | (go_at_call 86; refine Calls.mono (hr N _ (blk_extX hN hx2 hn)) ?_; rintro e w5 ⟨u, rfl, hx5, rfl⟩))
  go_ret
  exact ⟨rfl, extX_trans hx1 (extX_trans hx2 (extX_of hx5)), _, hB2.ext hx5⟩
end Go.Proofs.Ytmhibfghnnpefaa

namespace Go.Proofs.Ytmhibfghnnpefaa
open Go Go.RowKit Go.Sw
open Classical
theorem ty_ar_87 : arrOf Try.prog 87 = some (256, 1) := by kernel_rfl
theorem ty_on_5 : oneP Try.prog 5 = true := by kernel_rfl
theorem ty_us_27 : Try.prog.underlying 27 = some (.slice 5) := by kernel_rfl
theorem ty_un_5 : Try.prog.underlying 5 = some (.int .u8) := by kernel_rfl
theorem ty_sl_27 : sliceOf Try.prog 27 = some 1 := by kernel_rfl
theorem mpT_same {tb : Nat → Nat} {s : ByteArray} (h : ∀ i, i < s.size → tb (byt s i) = byt s i) : s = mpT tb s := by
  unfold mpT
  rw [txt_congr h]; exact txt_byt.symm
def BI (tb : Nat → Nat) (s : ByteArray) (r9 k : Nat) (u : Value) (w0 w : World) : Prop := (k ≤ r9 ∧ u = .slice none 0 0) ∨ (r9 < k ∧ ∃ b c, u = .slice (some ⟨b, 0, none⟩) s.size c ∧ BufY w0 w b s.size (fun j => if j < k then tb (byt s j) else byt s j))
theorem BI.nil {tb : Nat → Nat} {s : ByteArray} {r9 k : Nat} {u : Value} {w0 w : World} (h : BI tb s r9 k u w0 w) : (u = .slice none 0 0 ∧ k ≤ r9) ∨ (∃ ad l c, u = .slice (some ad) l c) ∧ ¬ k ≤ r9 := by
  rcases h with ⟨h1, h2⟩ | ⟨h1, b, c, h2, _⟩
  · exact .inl ⟨h2, h1⟩
  · exact .inr ⟨⟨_, _, _, h2⟩, by omega⟩
theorem BI.buf {tb : Nat → Nat} {s : ByteArray} {r9 k : Nat} {u : Value} {w0 w : World} (h : BI tb s r9 k u w0 w) (hk : ¬ k ≤ r9) : ∃ b c, u = .slice (some ⟨b, 0, none⟩) s.size c ∧ BufY w0 w b s.size (fun j => if j < k then tb (byt s j) else byt s j) := by
  rcases h with ⟨h1, h2⟩ | ⟨_, h⟩
  · exact absurd h1 hk
  · exact h
theorem BI.step {tb : Nat → Nat} {s : ByteArray} {r9 k : Nat} {u : Value} {w0 w : World} (h : BI tb s r9 k u w0 w) (he : tb (byt s k) = byt s k) (hn : ¬ tb (byt s r9) = byt s r9) : BI tb s r9 (k + 1) u w0 w := by
  rcases h with ⟨h1, h2⟩ | ⟨h1, b, c, h2, h3⟩
  · refine .inl ⟨?_, h2⟩
    by_cases e : k = r9
    · rw [e] at he; exact absurd he hn
    · omega
  · refine .inr ⟨by omega, b, c, h2, h3.congr fun j _ => ?_⟩
    by_cases e : j = k
    · subst e; rw [if_neg (by omega), if_pos (by omega), he]
    · by_cases e2 : j < k
      · rw [if_pos e2, if_pos (by omega)]
      · rw [if_neg e2, if_neg (by omega)]
theorem fD {N b : Nat} {w0 : World} {cs : Array Value} (h : Blk w0 N cs) (hb : w0.heap.size ≤ b) : ∀ c ds, (c, ds) ∈ [(N, cs)] → c ≠ b := fun c ds hm => by
  simp at hm; have := h.lt; omega

theorem byteRep_A (tb : Nat → Nat) (N : Nat) (s : ByteArray) (w : World) (hz : s.size < 10000000) (htb : ∀ c, tb c < 256) (hg : Blk w N (dgC 256 tb)) (hA : ∀ i, i < s.size → tb (byt s i) = byt s i) :
    CallsR Try.prog 86 #[ptr N (0), .string (s)] w (fun res _ => res = .string (mpT tb s)) := by
  refine calls_fr [ptr N (0), .string (s)] Try.func86 rfl Try.ntmps86 rfl fun a hF => ?_;have hM : Mem w w [] [(N, dgC 256 tb)] := MemX.startD w 0 _ (startD1 hg);change Fr 41 a [(0, ptr N (0)), (1, .string (s))] at hF;refine sr <| ag hF rfl rfl fun a hF => ns <| ag hF rfl rfl fun a hF => nt <| sq <| sr <| ag hF rfl rfl fun a hF => nt <| wp_block ?_;change Mem w _ [] [(N, dgC 256 tb)] at hM;refine c_loop (fun (kk : Nat) a w' => kk ≤ s.size ∧ (True) ∧ Fr 41 a [(0, ptr N (0)), (1, .string (s)), (4, .string (⟨#[]⟩)), (6, .int .i64 (kk : Int)), (5, .slice none 0 0)] ∧ Mem w w' [] [(N, dgC 256 tb)]) (fun kk => s.size - kk) 0 ?_ ?_
  · refine ⟨by omega, trivial, hF.sub _ (by repeat' constructor), ?_⟩
    exact hM
  clear hF hM;rintro gi a w' ⟨hgi, hinv1, hF, hM⟩;have hl8 := byt_lt (s := s) (i := gi);refine sq <| sr <| mv hF rfl rfl fun a hF => mv hF rfl rfl fun a hF => st hF (g_lenS ty_ut_9 hF rfl) rfl fun a hF => st hF (g_lss hF rfl rfl) rfl fun a hF => nt <| c_cond hF rfl (fun h1 => ?_) (fun h1 => ?_)
  · refine wp_skip ?_
    refine tN <| sq <| wp_block <| sr <| mv hF rfl rfl fun a hF => mv hF rfl rfl fun a hF => st hF (g_indexS (i := gi) ty_ut_9 hF rfl rfl rfl (by omega)) rfl fun a hF => ag hF rfl rfl fun a hF => ns <| mv hF rfl rfl fun a hF => mv hF rfl rfl fun a hF => st hF (g_nilCheck hF rfl) rfl fun a hF => st hF (g_indexAddr ty_ar_87 hF rfl rfl rfl (by omega)) rfl fun a hF => st hF (g_load ty_on_5 hF rfl (hM.fz 0 rfl) (dgC_get (k := byt s (gi)) (by omega) (by omega))) rfl fun a hF => mv hF rfl rfl fun a hF => st hF (g_neq hF rfl rfl) rfl fun a hF => nt <| c_cond hF rfl (fun h2 => ?_) (fun h2 => ?_)
    · exact absurd (congrArg Nat.cast (hA gi (by omega))) h2
    refine wp_skip <| iN <| tN <| wp_region_lit <| mv hF rfl rfl fun a hF => st hF (g_add hF rfl rfl (add_nat (gi) (1) (by omega))) rfl fun a hF => ag hF rfl rfl fun a hF => nt <| ⟨gi + 1, ⟨by omega, trivial, hF.sub _ (by repeat' constructor), ?_⟩, by omega⟩;exact hM
  obtain rfl : s.size = gi := by omega
  refine wp_exit <| tX <| tX <| ib_same <| tN <| sq <| sr <| mv hF rfl rfl fun a hF => st hF (g_eqlNil0 ty_us_27 hF rfl rfl) rfl fun a hF => nt <| c_T hF rfl <| sr <| mv hF rfl rfl fun a hF => ag hF rfl rfl fun a hF => nt <| wp_ret <| tR <| fin1 rfl hF.defers (res_tmp hF rfl) ⟨_, rfl, hM.below, ?_⟩
  show _ = _
  exact congrArg Value.string (mpT_same hA)
theorem byteRep_B (tb : Nat → Nat) (N : Nat) (s : ByteArray) (r9 : Nat) (w : World) (hz : s.size < 10000000) (htb : ∀ c, tb c < 256) (hg : Blk w N (dgC 256 tb)) (h9 : r9 < s.size) (hne9 : ¬ tb (byt s r9) = byt s r9) (hlow : ∀ i, i < r9 → tb (byt s i) = byt s i) :
    CallsR Try.prog 86 #[ptr N (0), .string (s)] w (fun res _ => res = .string (mpT tb s)) := by
  refine calls_fr [ptr N (0), .string (s)] Try.func86 rfl Try.ntmps86 rfl fun a hF => ?_;have hM : Mem w w [] [(N, dgC 256 tb)] := MemX.startD w 0 _ (startD1 hg);change Fr 41 a [(0, ptr N (0)), (1, .string (s))] at hF;refine sr <| ag hF rfl rfl fun a hF => ns <| ag hF rfl rfl fun a hF => nt <| sq <| sr <| ag hF rfl rfl fun a hF => nt <| wp_block ?_;change Mem w _ [] [(N, dgC 256 tb)] at hM;refine c_loop (fun (kk : Nat) a w' => kk ≤ s.size ∧ ∃ (u5 : Value), (BI tb s r9 (kk) u5 w w') ∧ Fr 41 a [(0, ptr N (0)), (1, .string (s)), (4, .string (⟨#[]⟩)), (6, .int .i64 (kk : Int)), (5, u5)] ∧ Mem w w' [] [(N, dgC 256 tb)]) (fun kk => s.size - kk) 0 ?_ ?_
  · refine ⟨by omega, .slice none 0 0, .inl ⟨by omega, rfl⟩, hF.sub _ (by repeat' constructor), ?_⟩
    exact hM
  clear hF hM;rintro gi a w' ⟨hgi, u5, hinv1, hF, hM⟩;have hl8 := byt_lt (s := s) (i := gi);have htg := htb (byt s gi);refine sq <| sr <| mv hF rfl rfl fun a hF => mv hF rfl rfl fun a hF => st hF (g_lenS ty_ut_9 hF rfl) rfl fun a hF => st hF (g_lss hF rfl rfl) rfl fun a hF => nt <| c_cond hF rfl (fun h1 => ?_) (fun h1 => ?_)
  · refine wp_skip ?_
    refine tN <| sq <| wp_block <| sr <| mv hF rfl rfl fun a hF => mv hF rfl rfl fun a hF => st hF (g_indexS (i := gi) ty_ut_9 hF rfl rfl rfl (by omega)) rfl fun a hF => ag hF rfl rfl fun a hF => ns <| mv hF rfl rfl fun a hF => mv hF rfl rfl fun a hF => st hF (g_nilCheck hF rfl) rfl fun a hF => st hF (g_indexAddr ty_ar_87 hF rfl rfl rfl (by omega)) rfl fun a hF => st hF (g_load ty_on_5 hF rfl (hM.fz 0 rfl) (dgC_get (k := byt s (gi)) (by omega) (by omega))) rfl fun a hF => mv hF rfl rfl fun a hF => st hF (g_neq hF rfl rfl) rfl fun a hF => nt <| c_cond hF rfl (fun h2 => ?_) (fun h2 => ?_)
    · have hnq9 : ¬ tb (byt s gi) = byt s gi := by omega
      refine sq <| sr <| mv hF rfl rfl fun a hF => st hF (g_eqlNilU ty_us_27 hinv1.nil hF rfl rfl) rfl fun a hF => nt <| c_cond hF rfl (fun h3 => ?_) (fun h3 => ?_)
      · have hgr : gi = r9 := by first | omega | (apply Decidable.by_contra; intro q; exact hnq9 (hlow gi (by omega)))
        refine wp_region_lit <| mv hF rfl rfl fun a hF => stR hF (d_convY hM.below ty_ut_9 ty_us_27 ty_un_5 hF rfl) rfl ?_;rintro _ w' a ⟨bY, cY, rfl, hxY, hY⟩ hF;have hM := hM.ext hxY;refine ag hF rfl rfl fun a hF => nt <| wp_region_lit <| mv hF rfl rfl fun a hF => mv hF rfl rfl fun a hF => mv hF rfl rfl fun a hF => mv hF rfl rfl fun a hF => st hF (g_nilCheck hF rfl) rfl fun a hF => st hF (g_indexAddr ty_ar_87 hF rfl rfl rfl (by omega)) rfl fun a hF => st hF (g_load ty_on_5 hF rfl (hM.fz 0 rfl) (dgC_get (k := byt s (gi)) (by omega) (by omega))) rfl fun a hF => st hF (g_indexSl (i := gi) ty_sl_27 hF rfl rfl rfl (by omega)) rfl fun a hF => stN hF (d_storeY (o := 0 + (gi) * 1) hY (by omega) ty_on_5 hF rfl rfl rfl) ?_;rintro _ w' a rfl hF;have hM := mem_setFar (o := 0 + (gi) * 1) (v := .int .u8 ((tb (byt s (gi)) : Int))) hM hY.new (fun k c cs hk => by simp at hk) (fD hg hY.new);have hY := hY.put (o := 0 + (gi) * 1) (v := tb (byt s (gi))) (by omega);refine wpList_nil <| iN <| tN <| wp_region_lit <| mv hF rfl rfl fun a hF => st hF (g_add hF rfl rfl (add_nat (gi) (1) (by omega))) rfl fun a hF => ag hF rfl rfl fun a hF => nt <| ⟨gi + 1, ⟨by omega, .slice (some ⟨bY, 0, none⟩) s.size cY, .inr ⟨by omega, bY, cY, rfl, hY.congr (fun j hj => by by_cases e : j = gi; (rw [if_pos (by omega), if_pos (by omega), e]); (rw [if_neg (by omega)]; by_cases e2 : j < gi; (rw [if_pos (by omega)]; exact (hlow j (by omega)).symm); (rw [if_neg (by omega)])))⟩, hF.sub _ (by repeat' constructor), ?_⟩, by omega⟩;exact hM
      obtain ⟨bY, cY, rfl, hY⟩ := hinv1.buf h3;refine wp_skip <| tN <| wp_region_lit <| mv hF rfl rfl fun a hF => mv hF rfl rfl fun a hF => mv hF rfl rfl fun a hF => mv hF rfl rfl fun a hF => st hF (g_nilCheck hF rfl) rfl fun a hF => st hF (g_indexAddr ty_ar_87 hF rfl rfl rfl (by omega)) rfl fun a hF => st hF (g_load ty_on_5 hF rfl (hM.fz 0 rfl) (dgC_get (k := byt s (gi)) (by omega) (by omega))) rfl fun a hF => st hF (g_indexSl (i := gi) ty_sl_27 hF rfl rfl rfl (by omega)) rfl fun a hF => stN hF (d_storeY (o := 0 + (gi) * 1) hY (by omega) ty_on_5 hF rfl rfl rfl) ?_;rintro _ w' a rfl hF;have hM := mem_setFar (o := 0 + (gi) * 1) (v := .int .u8 ((tb (byt s (gi)) : Int))) hM hY.new (fun k c cs hk => by simp at hk) (fD hg hY.new);have hY := hY.put (o := 0 + (gi) * 1) (v := tb (byt s (gi))) (by omega);refine wpList_nil <| iN <| tN <| wp_region_lit <| mv hF rfl rfl fun a hF => st hF (g_add hF rfl rfl (add_nat (gi) (1) (by omega))) rfl fun a hF => ag hF rfl rfl fun a hF => nt <| ⟨gi + 1, ⟨by omega, .slice (some ⟨bY, 0, none⟩) s.size cY, .inr ⟨by omega, bY, cY, rfl, hY.congr (fun j hj => by by_cases e : j = gi; (rw [if_pos (by omega), if_pos (by omega), e]); (rw [if_neg (by omega)]; by_cases e2 : j < gi; (rw [if_pos e2, if_pos (by omega)]); (rw [if_neg e2, if_neg (by omega)])))⟩, hF.sub _ (by repeat' constructor), ?_⟩, by omega⟩;exact hM
    have heq9 : tb (byt s gi) = byt s gi := by omega
    refine wp_skip <| iN <| tN <| wp_region_lit <| mv hF rfl rfl fun a hF => st hF (g_add hF rfl rfl (add_nat (gi) (1) (by omega))) rfl fun a hF => ag hF rfl rfl fun a hF => nt <| ⟨gi + 1, ⟨by omega, u5, hinv1.step heq9 hne9, hF.sub _ (by repeat' constructor), ?_⟩, by omega⟩;exact hM
  obtain rfl : s.size = gi := by omega
  refine wp_exit <| tX <| tX <| ib_same <| tN <| sq <| sr <| mv hF rfl rfl fun a hF => st hF (g_eqlNilU ty_us_27 hinv1.nil hF rfl rfl) rfl fun a hF => nt <| c_cond hF rfl (fun h4 => ?_) (fun h4 => ?_)
  · exfalso; omega
  obtain ⟨bY, cY, rfl, hY⟩ := hinv1.buf h4;refine wp_skip <| tN <| sr <| mv hF rfl rfl fun a hF => st hF (g_b2sY hY ty_us_27 ty_ut_9 ty_un_5 hF rfl) rfl fun a hF => ag hF rfl rfl fun a hF => nt <| wp_ret <| fin1 rfl hF.defers (res_tmp hF rfl) ⟨_, rfl, hM.below, ?_⟩
  show _ = _
  exact congrArg Value.string (txt_congr fun j hj => if_pos hj)
end Go.Proofs.Ytmhibfghnnpefaa
