/- Plain lemmas of a small calculus for walks over frames and own memory; no statement of the seat is proved here. -/
import Derived.Test.YtjfmachfdpmdcaaSw14
import Derived.Test.YtjfmachfdpmdcaaSw21
import Derived.Test.YtjfmachfdpmdcaaSw9
import Derived.Test.YtjfmachfdpmdcaaSw46
set_option linter.unusedVariables false
set_option linter.unusedSimpArgs false
namespace Go.Sw
open Go Go.RowKit Go.ChangeShapes Go.WideShapes Go.ChangeAt
def grpC (n : Int) (M : Nat → Nat → Nat) : Array Value := fnC 37 fun c => if c = 0 then .int .i64 n else .int .u8 (M ((c - 1) / 6) ((c - 1) % 6))
section
variable {n q : Int} {M N : Nat → Nat → Nat}
end
def grpKs : List IntKind := .i64 :: List.replicate 36 .u8
section
variable {H : Type} {enc : TypeId × Value → H} {P : Program} {w : World} {base : Nat} {spare : Nat → Bool} {held : Bool} {t : TypeId} {v : Value} {d : DataW H} {p : List MemPlace}
end
end Go.Sw

namespace Go.Sw
open Go Go.RowKit
def l4 (a b c d : Nat) (i : Nat) : Nat := match i with
  | 0 => a
  | 1 => b
  | 2 => c
  | _ => d
theorem tabC_putRow {T : Nat → Nat → Nat → Nat} {v : Nat → Nat} {o : Nat} (a b : Nat) (h : o = a * 36 + b * 6) (ha : a < 6) (hb : b < 6) : splice (tabC T) o (vecC v) = tabC (fun i j k => if i = a ∧ j = b then v k else T i j k) := by
  subst h;have hz : a * 36 + b * 6 + (vecC v).size ≤ (tabC T).size := by rw [vecC_size, tabC_size]; omega
  apply fnC_ext (by rw [splice_size _ _ _ hz, tabC_size])
  intro i hi;rw [splice_get _ _ _ _ hz, vecC_size]
  by_cases e : a * 36 + b * 6 ≤ i ∧ i < a * 36 + b * 6 + 6
  · rw [if_pos e, vecC_get (i - (a * 36 + b * 6)) rfl (by omega)]; dsimp only; rw [if_pos ⟨by omega, by omega⟩, show i - (a * 36 + b * 6) = i % 6 by omega]
  · rw [if_neg e, tabC_get (i / 36) (i / 6 % 6) (i % 6) (by omega) (by omega) (by omega) (by omega)]; dsimp only; rw [if_neg (by omega)]
theorem tabC_congr {T U : Nat → Nat → Nat → Nat} (h : ∀ i, i < 6 → ∀ j, j < 6 → ∀ k, k < 6 → T i j k = U i j k) : tabC T = tabC U := by
  unfold tabC
  exact fnC_congr fun c hc => by rw [h _ (by omega) _ (by omega) _ (by omega)]
theorem algC_congr {p n : Int} {T U : Nat → Nat → Nat → Nat} {f : Nat → Nat} (h : ∀ i, i < 6 → ∀ j, j < 6 → ∀ k, k < 6 → T i j k = U i j k) : algC p n T f = algC p n U f := by
  unfold algC
  refine fnC_congr fun c hc => ?_
  by_cases h0 : c = 0
  · rw [if_pos h0, if_pos h0]
  · rw [if_neg h0, if_neg h0]
    by_cases h1 : c = 1
    · rw [if_pos h1, if_pos h1]
    · rw [if_neg h1, if_neg h1]
      by_cases h2 : c < 218
      · rw [if_pos h2, if_pos h2, h _ (by omega) _ (by omega) _ (by omega)]
      · rw [if_neg h2, if_neg h2]
section
variable {P : Program} {n : Nat} {F : List (Nat × Value)} {a : Act} {w : World} {d : Option Tmp} {t : TypeId} {pos : String} {af : Array Edge} {gd : Option (Nat × Bool)}
end
end Go.Sw

namespace Go.Sw
open Go Go.RowKit Go.ChangeShapes Go.WideShapes Go.ChangeAt
structure ArgSS (w : World) (sl : Value) (m : Nat) (L : Nat → Nat) (R : Nat → Nat → Int) (xs : Nat → Option Addr) (ca be ob : Nat → Nat) : Prop where
  out : ∃ x c, sl = .slice x m c
  cell : 0 < m → ∃ b o c, sl = .slice (some ⟨b, o, none⟩) m c ∧ ∀ i, i < m → w.cell? ⟨b, o + i * 1, none⟩ = some (.slice (xs i) (L i) (ca i))
  adr : ∀ i, i < m → 0 < L i → xs i = some ⟨be i, ob i, none⟩
  num : ∀ i, i < m → ∀ j, j < L i → w.cell? ⟨be i, ob i + j * 1, none⟩ = some (.int .i64 (R i j))
namespace ArgSS
variable {w w' : World} {sl : Value} {m : Nat} {L : Nat → Nat} {R : Nat → Nat → Int} {xs : Nat → Option Addr} {ca be ob : Nat → Nat}
theorem ext (h : ArgSS w sl m L R xs ca be ob) (hx : Ext w w') : ArgSS w' sl m L R xs ca be ob :=
  ⟨h.out, fun hm => by obtain ⟨b, o, c, h1, h2⟩ := h.cell hm; exact ⟨b, o, c, h1, fun i hi => cell_ext (h2 i hi) hx⟩, h.adr, fun i hi j hj => cell_ext (h.num i hi j hj) hx⟩
theorem one (h : ArgSS w sl m L R xs ca be ob) : sl.oneCell' = true := by
  obtain ⟨x, c, rfl⟩ := h.out; rfl
theorem row (h : ArgSS w sl m L R xs ca be ob) {i : Nat} (hi : i < m) : ArgSl w (.slice (xs i) (L i) (ca i)) (L i) (R i) :=
  ⟨⟨_, _, rfl⟩, fun hl => ⟨be i, ob i, ca i, by rw [h.adr i hi hl], h.num i hi⟩⟩
theorem congr {R' : Nat → Nat → Int} (h : ArgSS w sl m L R xs ca be ob) (e : ∀ i, i < m → ∀ j, j < L i → R i j = R' i j) : ArgSS w sl m L R' xs ca be ob :=
  ⟨h.out, h.cell, h.adr, fun i hi j hj => by rw [← e i hi j hj]; exact h.num i hi j hj⟩
end ArgSS
section
variable {H : Type} {enc : TypeId × Value → H} {P : Program} {w : World} {base : Nat} {spare : Nat → Bool} {held : Bool}
end
def rowsC (m : Nat) (L : Nat → Nat) (β : Nat → Nat) : Array Value := fnC m fun i => .slice (some ⟨β i, 0, none⟩) (L i) (L i)
structure SSD (D : Froz) (u : Value) (m : Nat) (L : Nat → Nat) (R : Nat → Nat → Int) (b : Nat) (β : Nat → Nat) : Prop where
  val : u = .slice (some ⟨b, 0, none⟩) m m
  out : (b, rowsC m L β) ∈ D
  row : ∀ i, i < m → (β i, numI (L i) (R i)) ∈ D
  inj : ∀ i j, i < m → j < m → β i = β j → i = j
  ne : ∀ i, i < m → β i ≠ b
theorem SSD.more {D D' : Froz} {u : Value} {m b : Nat} {L β : Nat → Nat} {R : Nat → Nat → Int} (h : SSD D u m L R b β) (hs : ∀ x, x ∈ D → x ∈ D') : SSD D' u m L R b β := ⟨h.val, hs _ h.out, fun i hi => hs _ (h.row i hi), h.inj, h.ne⟩
def SSOut (w w' : World) (m : Nat) (L : Nat → Nat) (R : Nat → Nat → Int) (u : Value) : Prop := ∃ (D : Froz) (b : Nat) (β : Nat → Nat), (∀ x ds, (x, ds) ∈ D → w.heap.size ≤ x ∧ Blk w' x ds) ∧ SSD D u m L R b β
end Go.Sw

namespace Go.Sw
open Go Go.RowKit
/-! ### Ascending lists of the numbers that have a property -/
def cnt (S : Nat → Bool) : Nat → Nat
  | 0 => 0
  | i + 1 => cnt S i + if S i = true then 1 else 0
def asc (S : Nat → Bool) : Nat → Nat → Nat
  | 0, _ => 0
  | n + 1, k => if S n = true ∧ cnt S n = k then n else asc S n k
end Go.Sw

namespace Go.Sw
open Go Go.RowKit Go.ChangeShapes Go.WideShapes Go.ChangeAt
def algE (p n : Int) (T : Nat → Nat → Nat → Nat) (f : Nat → Nat) (c : Nat) : Value :=
  if c = 0 then .int .i64 p else if c = 1 then .int .i64 n else if c < 218 then .int .u8 (T ((c - 2) / 36) ((c - 2) / 6 % 6) ((c - 2) % 6)) else .int .u8 (f (c - 218))
def pairC (p n : Int) (T : Nat → Nat → Nat → Nat) (f : Nat → Nat) (q m : Int) (U : Nat → Nat → Nat → Nat) (g : Nat → Nat) (Z : Nat → Nat → Nat) : Array Value :=
  fnC 484 fun c => if c < 224 then algE p n T f c else if c < 448 then algE q m U g (c - 224) else .int .u8 (Z ((c - 448) / 6) ((c - 448) % 6))
section
variable {p n q m p' n' : Int} {T U T' : Nat → Nat → Nat → Nat} {f g f' : Nat → Nat} {Z Z' : Nat → Nat → Nat}
theorem algC_algE {c : Nat} (h : c < 224) : (algC p n T f)[c]? = some (algE p n T f c) := fnC_get h
theorem pairC_size : (pairC p n T f q m U g Z).size = 484 := fnC_size _ _
theorem pairC_A {o : Nat} (h : o < 224) : (pairC p n T f q m U g Z)[o]? = (algC p n T f)[o]? := by
  unfold pairC
  rw [fnC_get (by omega), if_pos h, algC_algE h]
theorem pairC_B {o : Nat} (r : Nat) (h : o = 224 + r) (hr : r < 224) : (pairC p n T f q m U g Z)[o]? = (algC q m U g)[r]? := by
  subst h
  unfold pairC
  rw [fnC_get (by omega), if_neg (by omega), if_pos (by omega), algC_algE hr, show 224 + r - 224 = r by omega]
theorem pairC_Z {o : Nat} (i j : Nat) (h : o = 448 + i * 6 + j) (hi : i < 6) (hj : j < 6) : (pairC p n T f q m U g Z)[o]? = some (.int .u8 (Z i j : Int)) := by
  subst h
  unfold pairC
  rw [fnC_get (by omega), if_neg (by omega), if_neg (by omega), show (448 + i * 6 + j - 448) / 6 = i by omega, show (448 + i * 6 + j - 448) % 6 = j by omega]
theorem pairC_exA {o e : Nat} (h : e ≤ 224) : (pairC p n T f q m U g Z).extract o e = (algC p n T f).extract o e := by
  apply Array.ext_getElem?
  intro i;rw [Array.getElem?_extract, Array.getElem?_extract, pairC_size, cells_size]
  by_cases hi : i < e - o
  · rw [if_pos (by omega), if_pos (by omega)]; exact pairC_A (by omega)
  · rw [if_neg (by omega), if_neg (by omega)]
theorem pairC_exB {o e : Nat} (r s : Nat) (h : o = 224 + r) (h2 : e = 224 + s) (hs : s ≤ 224) : (pairC p n T f q m U g Z).extract o e = (algC q m U g).extract r s := by
  subst h h2
  apply Array.ext_getElem?
  intro i;rw [Array.getElem?_extract, Array.getElem?_extract, pairC_size, cells_size]
  by_cases hi : i < s - r
  · rw [if_pos (by omega), if_pos (by omega)]; exact pairC_B (r + i) (by omega) (by omega)
  · rw [if_neg (by omega), if_neg (by omega)]
theorem algC_whole : (algC p n T f).extract 0 224 = algC p n T f := by
  apply Array.ext_getElem?
  intro i;rw [Array.getElem?_extract, cells_size]
  by_cases hi : i < 224
  · rw [if_pos (by omega), Nat.zero_add]
  · rw [if_neg (by omega), Array.getElem?_eq_none (by rw [cells_size]; omega)]
theorem pairC_closed {o e : Nat} (h : o = 0) (he : e = o + 224) : (pairC p n T f q m U g Z).extract o e = algC p n T f := by
  subst h he;rw [pairC_exA (by omega)]; exact algC_whole
theorem pairC_open {o e : Nat} (h : o = 224) (he : e = o + 224) : (pairC p n T f q m U g Z).extract o e = algC q m U g := by
  subst h he;rw [pairC_exB 0 224 rfl rfl (Nat.le_refl _)]; exact algC_whole
theorem pairC_zip {o e : Nat} (h : o = 448) (he : e = o + 36) : (pairC p n T f q m U g Z).extract o e = planeC Z := by
  subst h;exact extract_ext he (by rw [pairC_size]; omega) fun c hc => pairC_Z (c / 6) (c % 6) (by omega) (by omega) (by omega)
theorem pairC_row {o e : Nat} (i : Nat) (h : o = 448 + i * 6) (he : e = o + 6) (hi : i < 6) : (pairC p n T f q m U g Z).extract o e = vecC (Z i) := by
  subst h;exact extract_ext he (by rw [pairC_size]; omega) fun c hc => pairC_Z i c (by omega) hi hc
theorem algE_one (c : Nat) : (algE p n T f c).oneCell' = true := by
  unfold algE
  split
  · rfl
  · split
    · rfl
    · split <;> rfl
theorem pairC_one : ∀ u ∈ (pairC p n T f q m U g Z).toList, u.oneCell' = true := fnC_one fun i _ => by
  split
  · exact algE_one _
  · split
    · exact algE_one _
    · rfl
theorem pairC_eq {c : Array Value} (hs : c.size = 484) (hA : ∀ i, i < 224 → c[i]? = (algC p n T f)[i]?) (hB : ∀ i, i < 224 → c[224 + i]? = (algC q m U g)[i]?) (hZ : ∀ i j, i < 6 → j < 6 → c[448 + i * 6 + j]? = some (.int .u8 (Z i j : Int))) : c = pairC p n T f q m U g Z := by
  apply Array.ext_getElem?
  intro i
  by_cases h1 : i < 224
  · rw [hA i h1, pairC_A h1]
  · by_cases h2 : i < 448
    · have e : i = 224 + (i - 224) := by omega
      rw [e, hB _ (by omega), pairC_B (i - 224) rfl (by omega)]
    · by_cases h3 : i < 484
      · have e : i = 448 + ((i - 448) / 6) * 6 + (i - 448) % 6 := by omega
        rw [e, hZ _ _ (by omega) (by omega), pairC_Z _ _ rfl (by omega) (by omega)]
      · rw [Array.getElem?_eq_none (by omega), Array.getElem?_eq_none (by rw [pairC_size]; omega)]
theorem pairC_putA {o : Nat} (h : o = 0) : splice (pairC p n T f q m U g Z) o (algC p' n' T' f') = pairC p' n' T' f' q m U g Z := by
  subst h;have hz : 0 + (algC p' n' T' f').size ≤ (pairC p n T f q m U g Z).size := by rw [cells_size, pairC_size]; omega
  refine pairC_eq (by rw [splice_size _ _ _ hz, pairC_size]) ?_ ?_ ?_
  · intro i hi; rw [splice_get _ _ _ _ hz, cells_size, if_pos (by omega)]; rfl
  · intro i hi; rw [splice_get _ _ _ _ hz, cells_size, if_neg (by omega)]; exact pairC_B i rfl hi
  · intro i j hi hj; rw [splice_get _ _ _ _ hz, cells_size, if_neg (by omega)]; exact pairC_Z i j rfl hi hj
theorem pairC_putB {o : Nat} (h : o = 224) : splice (pairC p n T f q m U g Z) o (algC p' n' T' f') = pairC p n T f p' n' T' f' Z := by
  subst h;have hz : 224 + (algC p' n' T' f').size ≤ (pairC p n T f q m U g Z).size := by rw [cells_size, pairC_size]; omega
  refine pairC_eq (by rw [splice_size _ _ _ hz, pairC_size]) ?_ ?_ ?_
  · intro i hi; rw [splice_get _ _ _ _ hz, cells_size, if_neg (by omega)]; exact pairC_A hi
  · intro i hi; rw [splice_get _ _ _ _ hz, cells_size, if_pos (by omega), show 224 + i - 224 = i by omega]
  · intro i j hi hj; rw [splice_get _ _ _ _ hz, cells_size, if_neg (by omega)]; exact pairC_Z i j rfl hi hj
theorem pairC_putZ {o : Nat} (h : o = 448) : splice (pairC p n T f q m U g Z) o (planeC Z') = pairC p n T f q m U g Z' := by
  subst h;have hz : 448 + (planeC Z').size ≤ (pairC p n T f q m U g Z).size := by rw [planeC_size, pairC_size]; omega
  refine pairC_eq (by rw [splice_size _ _ _ hz, pairC_size]) ?_ ?_ ?_
  · intro i hi; rw [splice_get _ _ _ _ hz, planeC_size, if_neg (by omega)]; exact pairC_A hi
  · intro i hi; rw [splice_get _ _ _ _ hz, planeC_size, if_neg (by omega)]; exact pairC_B i rfl hi
  · intro i j hi hj; rw [splice_get _ _ _ _ hz, planeC_size, if_pos (by omega)]; exact planeC_get i j (by omega) hi hj
end
def pairKs : List IntKind := algKs ++ (algKs ++ List.replicate 36 .u8)
theorem algKs_len : algKs.length = 224 := by unfold algKs; rw [List.length_cons, List.length_cons, List.length_replicate]
theorem pairKs_A {i : Nat} (h : i < 224) : pairKs[i]? = algKs[i]? := by
  unfold pairKs
  exact List.getElem?_append_left (by rw [algKs_len]; exact h)
theorem pairKs_B {i : Nat} (h : i < 224) : pairKs[224 + i]? = algKs[i]? := by
  have e := algKs_len
  unfold pairKs
  rw [List.getElem?_append_right (by omega), e, show 224 + i - 224 = i by omega];exact List.getElem?_append_left (by omega)
theorem pairKs_Z {i : Nat} (h : i < 36) : pairKs[448 + i]? = some .u8 := by
  have e := algKs_len
  unfold pairKs
  rw [List.getElem?_append_right (by omega), e, List.getElem?_append_right (by omega), e, List.getElem?_replicate, if_pos (by omega)]
theorem cells_pair {cs : Array Value} (hs : cs.size = 484) (h : KindsAt pairKs cs.toList) : ∃ (p n : Int) (T : Nat → Nat → Nat → Nat) (f : Nat → Nat) (q m : Int) (U : Nat → Nat → Nat → Nat) (g : Nat → Nat) (Z : Nat → Nat → Nat), cs = pairC p n T f q m U g Z ∧ (∀ i j k, T i j k ≤ 255) ∧ (∀ i, f i ≤ 255) ∧ (∀ i j k, U i j k ≤ 255) ∧ (∀ i, g i ≤ 255) ∧ (∀ i j, Z i j ≤ 255) := by
  have g0 := kind_get h (i := 0) (k := .i64) ((pairKs_A (by omega)).trans rfl);have g1 := kind_get h (i := 1) (k := .i64) ((pairKs_A (by omega)).trans rfl);have g2 := kind_get h (i := 224) (k := .i64) ((pairKs_B (i := 0) (by omega)).trans rfl);have g3 := kind_get h (i := 225) (k := .i64) ((pairKs_B (i := 1) (by omega)).trans rfl);have gu : ∀ i, 2 ≤ i → i < 484 → i ≠ 224 → i ≠ 225 → pairKs[i]? = some .u8 := fun i h1 h2 h3 h4 => by
    by_cases a : i < 224
    · rw [pairKs_A a]; exact algKs_u8 h1 a
    · by_cases b : i < 448
      · obtain ⟨j, rfl⟩ : ∃ j, i = 224 + j := ⟨i - 224, by omega⟩
        rw [pairKs_B (by omega)]; exact algKs_u8 (by omega) (by omega)
      · obtain ⟨j, rfl⟩ : ∃ j, i = 448 + j := ⟨i - 448, by omega⟩
        exact pairKs_Z (by omega)
  have gk := fun i h1 h2 h3 h4 => kind_get h (i := i) (k := .u8) (gu i h1 h2 h3 h4);have bd : ∀ i, 2 ≤ i → i < 484 → i ≠ 224 → i ≠ 225 → 0 ≤ getI cs.toList[i]? ∧ getI cs.toList[i]? ≤ 255 := fun i h1 h2 h3 h4 => wf_u8 (gk i h1 h2 h3 h4).2
  let v : Nat → Nat := fun i => if 2 ≤ i ∧ i < 484 ∧ i ≠ 224 ∧ i ≠ 225 then (getI cs.toList[i]?).toNat else 0
  have hv : ∀ i, v i ≤ 255 := fun i => by
    dsimp only [v]; split
    · rename_i e; have := bd i e.1 e.2.1 e.2.2.1 e.2.2.2; omega
    · omega
  have hc : ∀ i, 2 ≤ i → i < 484 → i ≠ 224 → i ≠ 225 → cs[i]? = some (.int .u8 (v i : Int)) := fun i h1 h2 h3 h4 => by
    have hb := bd i h1 h2 h3 h4;have e0 : cs[i]? = cs.toList[i]? := by simp
    dsimp only [v]
    rw [if_pos ⟨h1, h2, h3, h4⟩, Int.toNat_of_nonneg hb.1, e0];exact (gk i h1 h2 h3 h4).1
  have hi : ∀ i, i < 484 → cs[i]? = cs.toList[i]? := fun i _ => by simp
  refine ⟨getI cs.toList[0]?, getI cs.toList[1]?, fun i j k => v (2 + i * 36 + j * 6 + k), fun i => v (218 + i), getI cs.toList[224]?, getI cs.toList[225]?, fun i j k => v (226 + i * 36 + j * 6 + k), fun i => v (442 + i), fun i j => v (448 + i * 6 + j), ?_, fun _ _ _ => hv _, fun _ => hv _, fun _ _ _ => hv _, fun _ => hv _, fun _ _ => hv _⟩;refine pairC_eq hs ?_ ?_ ?_
  · intro i hi2
    by_cases h0 : i = 0
    · subst h0; rw [algC_p rfl, hi 0 (by omega)]; exact g0.1
    · by_cases h1 : i = 1
      · subst h1; rw [algC_n rfl, hi 1 (by omega)]; exact g1.1
      · rw [hc i (by omega) (by omega) (by omega) (by omega)]
        by_cases h2 : i < 218
        · rw [algC_T ((i - 2) / 36) ((i - 2) / 6 % 6) ((i - 2) % 6) (by omega) (by omega) (by omega) (by omega)]
          rw [show 2 + (i - 2) / 36 * 36 + (i - 2) / 6 % 6 * 6 + (i - 2) % 6 = i by omega]
        · rw [algC_f (i - 218) (by omega) (by omega), show 218 + (i - 218) = i by omega]
  · intro i hi2
    by_cases h0 : i = 0
    · subst h0; rw [algC_p rfl]; exact (hi 224 (by omega)).trans g2.1
    · by_cases h1 : i = 1
      · subst h1; rw [algC_n rfl]; exact (hi 225 (by omega)).trans g3.1
      · rw [hc (224 + i) (by omega) (by omega) (by omega) (by omega)]
        by_cases h2 : i < 218
        · rw [algC_T ((i - 2) / 36) ((i - 2) / 6 % 6) ((i - 2) % 6) (by omega) (by omega) (by omega) (by omega)]
          rw [show 226 + (i - 2) / 36 * 36 + (i - 2) / 6 % 6 * 6 + (i - 2) % 6 = 224 + i by omega]
        · rw [algC_f (i - 218) (by omega) (by omega), show 442 + (i - 218) = 224 + i by omega]
  · intro i j h1 h2
    exact hc _ (by omega) (by omega) (by omega) (by omega)
section
variable {H : Type} {enc : TypeId × Value → H} {P : Program} {w : World} {base : Nat} {spare : Nat → Bool} {held : Bool} {t : TypeId} {v : Value} {d : DataW H} {p : List MemPlace}
theorem open_pair {r : Go.Reach} {b0 : Nat} {fs : Array Field} {m0 : Nat} (ht : P.underlying t = some (.struct fs)) (hc : P.cellsOf t = 484) (hk : kindsT P m0 t = some pairKs) (hv : Value.okWide P w r b0 t v) (h : DataW.Trod enc P w base spare held t v d p) :
    ∃ (p n : Int) (T : Nat → Nat → Nat → Nat) (f : Nat → Nat) (q m : Int) (U : Nat → Nat → Nat → Nat) (g : Nat → Nat) (Z : Nat → Nat → Nat), v = .agg (pairC p n T f q m U g Z) ∧ (∀ i j k, T i j k ≤ 255) ∧ (∀ i, f i ≤ 255) ∧ (∀ i j k, U i j k ≤ 255) ∧ (∀ i, g i ≤ 255) ∧ (∀ i j, Z i j ≤ 255) := by
  obtain ⟨cs, rfl, hs⟩ := okWide_struct ht hv;obtain ⟨fuel, h⟩ := h;obtain ⟨p, n, T, f, q, m, U, g, Z, rfl, h1⟩ := cells_pair (hs.trans hc) (trod_kinds m0 t _ hk fuel _ _ h);exact ⟨p, n, T, f, q, m, U, g, Z, rfl, h1⟩
end
end Go.Sw

namespace Go.Sw
open Go Go.RowKit
/-! ### A region that draws its order, with one append among its operations -/
def factsA (l : List Fact) (s : Nat) : Facts (Own × Value) := fun i g u w => match Nat.beq i s with
  | true => u = g.2
  | false => factsOf l i g.1 u w
def ParA (X : List Nat) (w0 : World) (D : Froz) (W : List Nat) (L0 : Own) (kr N : Nat) (e0 : Option (Nat × Array Value)) (f : Nat → Value) (b : Bool) (g : Own × Value) (w : World) : Prop :=
  Par X w0 D (kr :: W) L0 g.1 w ∧ (b = false → g.1[kr]? = some e0) ∧ (b = true → ∃ e', g.1[kr]? = some e' ∧ Sl 1 g.2 e' N f)
section
variable {P : Program} {X : List Nat} {w0 w : World} {D : Froz} {W : List Nat} {L0 : Own} {kr N s i : Nat} {e0 : Option (Nat × Array Value)} {f : Nat → Value} {b : Bool} {g : Own × Value} {l : List Fact} {o : Oper} {a : Act}
theorem ParA.drew (h : ParA X w0 D W L0 kr N e0 f b g w) : ParA X w0 D W L0 kr N e0 f b g w.drew := ⟨⟨h.1.1.ext (Below.drew (Below.refl _ _)), h.1.2⟩, h.2⟩
theorem ParA.mem (h : ParA X w0 D W L0 kr N e0 f b g w) (hW : holes (kr :: W) L0 = true) : MemX X w0 w L0 D := Par.mem h.1 hW
def noPlace (k : Nat) : List Fact → Bool
  | [] => true
  | fq :: r => (match fq.place with | some q => !(Nat.beq q k) | none => true) && noPlace k r
def noRel : List Fact → Bool
  | [] => true
  | .rel _ :: _ => false
  | .val _ :: r => noRel r
  | .own _ _ _ :: r => noRel r
end
end Go.Sw

namespace Go.Sw
open Go Go.RowKit
/-! ### A region that draws its order, with one call among its operations that gives new blocks to read -/
def factsD (l : List Fact) (s : Nat) : Facts (Own × Value × Froz) := fun i g u w => match Nat.beq i s with
  | true => u = g.2.1
  | false => factsOf l i g.1 u w
def ParD (X : List Nat) (w0 : World) (D : Froz) (W : List Nat) (L0 : Own) (Q : Froz → Value → Prop) (b : Bool) (g : Own × Value × Froz) (w : World) : Prop :=
  Par X w0 (g.2.2 ++ D) W L0 g.1 w ∧ (b = false → g.2.2 = []) ∧ (b = true → Q g.2.2 g.2.1)
section
variable {P : Program} {X : List Nat} {w0 w : World} {D : Froz} {W : List Nat} {L0 : Own} {Q : Froz → Value → Prop} {s i : Nat} {b : Bool} {g : Own × Value × Froz} {l : List Fact} {o : Oper} {a : Act}
theorem ParD.drew (h : ParD X w0 D W L0 Q b g w) : ParD X w0 D W L0 Q b g w.drew := ⟨⟨h.1.1.ext (Below.drew (Below.refl _ _)), h.1.2⟩, h.2⟩
theorem ParD.mem (h : ParD X w0 D W L0 Q b g w) (hW : holes W L0 = true) : MemX X w0 w L0 D := (Par.mem h.1 hW).sub D (fun _ hx => List.mem_append_right _ hx)
end
end Go.Sw
