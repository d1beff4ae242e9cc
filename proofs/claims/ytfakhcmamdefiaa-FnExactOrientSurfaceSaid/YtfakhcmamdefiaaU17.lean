/- What functions of the program return, as walks over their operations; no statement of the seat is proved here. -/
import Derived.Test.YtfakhcmamdefiaaU16
set_option linter.unusedVariables false
set_option linter.unusedSimpArgs false
namespace Go.Proofs.Ytfakhcmamdefiaa
open Go Go.RowKit Go.Sw Go.Ech
open Classical
def oM (M : Nat → Option Bool) (j : Nat) : Bool := decide (M j = some true)
def tchB (f g : Nat → Int) : Nat → Bool
  | 0 => false
  | q + 1 => tchB f g q || decide ((f (q / 3)).natAbs = (g (q % 3)).natAbs)
def samB (f g : Nat → Int) : Nat → Bool
  | 0 => false
  | q + 1 => samB f g q || decide (f (q / 3) = g (q % 3))
theorem tch_step {f g : Nat → Int} {i j : Nat} (h : j < 3) : tchB f g (i * 3 + (j + 1)) = (tchB f g (i * 3 + j) || decide ((f i).natAbs = (g j).natAbs)) := by
  show (tchB f g (i * 3 + j) || decide ((f ((i * 3 + j) / 3)).natAbs = (g ((i * 3 + j) % 3)).natAbs)) = _
  rw [show (i * 3 + j) / 3 = i by omega, show (i * 3 + j) % 3 = j by omega]
theorem sam_step {f g : Nat → Int} {i j : Nat} (h : j < 3) : samB f g (i * 3 + (j + 1)) = (samB f g (i * 3 + j) || decide (f i = g j)) := by
  show (samB f g (i * 3 + j) || decide (f ((i * 3 + j) / 3) = g ((i * 3 + j) % 3))) = _
  rw [show (i * 3 + j) / 3 = i by omega, show (i * 3 + j) % 3 = j by omega]
theorem tch_iff {f g : Nat → Int} : ∀ n, tchB f g n = true ↔ ∃ q, q < n ∧ (f (q / 3)).natAbs = (g (q % 3)).natAbs
  | 0 => ⟨fun h => (by cases h), fun ⟨_, h, _⟩ => absurd h (Nat.not_lt_zero _)⟩
  | n + 1 => by
    unfold tchB
    rw [Bool.or_eq_true, tch_iff n, decide_eq_true_iff]
    constructor
    · rintro (⟨q, h1, h2⟩ | h)
      · exact ⟨q, by omega, h2⟩
      · exact ⟨n, by omega, h⟩
    · rintro ⟨q, h1, h2⟩
      by_cases e : q = n
      · subst e; exact .inr h2
      · exact .inl ⟨q, by omega, h2⟩
theorem sam_iff {f g : Nat → Int} : ∀ n, samB f g n = true ↔ ∃ q, q < n ∧ f (q / 3) = g (q % 3)
  | 0 => ⟨fun h => (by cases h), fun ⟨_, h, _⟩ => absurd h (Nat.not_lt_zero _)⟩
  | n + 1 => by
    unfold samB
    rw [Bool.or_eq_true, sam_iff n, decide_eq_true_iff]
    constructor
    · rintro (⟨q, h1, h2⟩ | h)
      · exact ⟨q, by omega, h2⟩
      · exact ⟨n, by omega, h⟩
    · rintro ⟨q, h1, h2⟩
      by_cases e : q = n
      · subst e; exact .inr h2
      · exact .inl ⟨q, by omega, h2⟩
def tix (b : Bool) (s : Nat) : Nat := if b then 2 - s else s
def sgn (b : Bool) (x : Int) : Int := if b then -x else x
theorem tix_lt {b : Bool} {s : Nat} (h : s < 3) : tix b s < 3 := by unfold tix; split <;> omega
theorem tix_tix {b : Bool} {s : Nat} (h : s < 3) : tix b (tix b s) = s := by unfold tix; split <;> omega
theorem sgn_abs {b : Bool} {x : Int} : (sgn b x).natAbs = x.natAbs := by unfold sgn; split <;> omega
theorem orB_at {R : Nat → Nat → Int} {o : Nat → Bool} {i s : Nat} (h : s < 3) : orB R o i s = sgn (o i) (R i (tix (o i) s)) := by
  unfold orB sgn tix
  by_cases e : o i = true
  · rw [if_pos e, if_pos e, if_pos e]
    unfold ovr tri3
    rcases (by omega : s = 0 ∨ s = 1 ∨ s = 2) with rfl | rfl | rfl <;> rfl
  · rw [if_neg e, if_neg e, if_neg e]
theorem orB_abs {R : Nat → Nat → Int} {o : Nat → Bool} {m : Nat} (h : ∀ i, i < m → ∀ j, j < 3 → (R i j).natAbs ≤ 18) : ∀ i, i < m → ∀ j, j < 3 → (orB R o i j).natAbs ≤ 18 := fun i hi j hj => by
  rw [orB_at hj, sgn_abs]; exact h i hi _ (tix_lt hj)
theorem tch_nb {m : Nat} {R : Nat → Nat → Int} {tw : Nat → Nat} {o : Nat → Bool} {i k : Nat} (hT : TwP (m * 3) (plK R) tw) (hi : i < m) (hk : k < m) (hne : i ≠ k) : tchB (orB R o i) (orB R o k) 9 = true ↔ ∃ s, s < 3 ∧ nb tw i s = k := by
  rw [tch_iff]
  constructor
  · rintro ⟨q, h1, h2⟩
    have hs : q / 3 < 3 := by omega
    have ht : q % 3 < 3 := by omega
    rw [orB_at hs, orB_at ht, sgn_abs, sgn_abs, ← plK_at (R := R) (i := i) (tix_lt hs), ← plK_at (R := R) (i := k) (tix_lt ht)] at h2;have hls := tix_lt (b := o i) hs;have hlt := tix_lt (b := o k) ht;refine ⟨tix (o i) (q / 3), hls, ?_⟩
    unfold nb
    rcases hT.only _ _ (by omega) (by omega) h2.symm with e | e
    · omega
    · rw [← e]; omega
  · rintro ⟨s, hs, h⟩
    have hx : i * 3 + s < m * 3 := by omega
    have ha := hT.abs _ hx
    unfold nb at h
    have ey : tw (i * 3 + s) = k * 3 + tw (i * 3 + s) % 3 := by omega
    have ht : tw (i * 3 + s) % 3 < 3 := Nat.mod_lt _ (by decide);rw [ey, plK_at ht, plK_at hs] at ha;have hls := tix_lt (b := o i) hs;have hlt := tix_lt (b := o k) ht;refine ⟨tix (o i) s * 3 + tix (o k) (tw (i * 3 + s) % 3), by omega, ?_⟩;rw [show (tix (o i) s * 3 + tix (o k) (tw (i * 3 + s) % 3)) / 3 = tix (o i) s by omega, show (tix (o i) s * 3 + tix (o k) (tw (i * 3 + s) % 3)) % 3 = tix (o k) (tw (i * 3 + s) % 3) by omega, orB_at hls, orB_at hlt, sgn_abs, sgn_abs, tix_tix hs, tix_tix ht];exact ha.symm
theorem sam_val {m : Nat} {R : Nat → Nat → Int} {tw : Nat → Nat} {o o' : Nat → Bool} {i k s0 : Nat} (hT : TwP (m * 3) (plK R) tw) (hz : ∀ i, i < m → ∀ j, j < 3 → R i j ≠ 0) (hi : i < m) (hk : k < m) (hne : i ≠ k) (ho : o k = false) (hs0 : s0 < 3) (hn : nb tw i s0 = k) (hV : VO m (plK R) tw o') (he : o' i = o i) : o' k = samB (orB R o i) (orB R o k) 9 := by
  have key : ∀ s, s < 3 → nb tw i s = k → o' k = decide (o i ≠ decide (R i s = plK R (tw (i * 3 + s)))) := fun s hs h => by
    have := hV i hi s hs;rw [h, he] at this;rw [this]
    unfold alk
    rw [plK_at hs]
  cases hb : samB (orB R o i) (orB R o k) 9 with
  | true =>
    obtain ⟨q, h1, h2⟩ := (sam_iff _).1 hb;have hs : q / 3 < 3 := by omega
    have ht : q % 3 < 3 := by omega
    have hls := tix_lt (b := o i) hs;rw [orB_at hs, orB_at ht, ho] at h2;change sgn (o i) (R i (tix (o i) (q / 3))) = R k (q % 3) at h2;have h3 : (plK R (k * 3 + q % 3)).natAbs = (plK R (i * 3 + tix (o i) (q / 3))).natAbs := by rw [plK_at ht, plK_at hls, ← h2, sgn_abs]
    rcases hT.only _ _ (by omega) (by omega) h3 with e | e
    · omega
    · have h4 := key _ hls (by unfold nb; rw [← e]; omega)
      rw [← e, plK_at ht, ← h2] at h4;rw [h4];have h5 := hz i hi _ hls
      cases hoi : o i with
      | true =>
        rw [hoi] at h5;rw [decide_eq_false (p := R i (tix true (q / 3)) = sgn true (R i (tix true (q / 3)))) (by unfold sgn; simp only [if_true]; omega)]; rfl
      | false =>
        rw [decide_eq_true (p := R i (tix false (q / 3)) = sgn false (R i (tix false (q / 3)))) rfl]; rfl
  | false =>
    have h4 := key s0 hs0 hn;have hx : i * 3 + s0 < m * 3 := by omega
    have ha := hT.abs _ hx
    unfold nb at hn
    have ey : tw (i * 3 + s0) = k * 3 + tw (i * 3 + s0) % 3 := by omega
    have ht : tw (i * 3 + s0) % 3 < 3 := Nat.mod_lt _ (by decide);have hls := tix_lt (b := o i) hs0
    cases hc : o' k with
    | false => rfl
    | true =>
      exfalso
      rw [hc] at h4;have h5 := of_decide_eq_true h4.symm;have : samB (orB R o i) (orB R o k) 9 = true := (sam_iff _).2 ⟨tix (o i) s0 * 3 + tw (i * 3 + s0) % 3, by omega, by
        rw [show (tix (o i) s0 * 3 + tw (i * 3 + s0) % 3) / 3 = tix (o i) s0 by omega, show (tix (o i) s0 * 3 + tw (i * 3 + s0) % 3) % 3 = tw (i * 3 + s0) % 3 by omega, orB_at hls, orB_at ht, ho, tix_tix hs0]
        show sgn (o i) (R i s0) = R k (tw (i * 3 + s0) % 3)
        rw [plK_at hs0, ey, plK_at ht] at ha;rw [ey, plK_at ht] at h5
        cases hoi : o i with
        | true =>
          rw [hoi] at h5;have : ¬ R i s0 = R k (tw (i * 3 + s0) % 3) := fun e => h5 (decide_eq_true e).symm
          show -(R i s0) = _
          omega
        | false =>
          rw [hoi] at h5
          show R i s0 = _
          exact Decidable.byContradiction fun e => h5 (decide_eq_false e).symm⟩
      rw [hb] at this; cases this
structure MJ (m : Nat) (K : Nat → Int) (tw : Nat → Nat) (g : Nat) (M : Nat → Option Bool) : Prop where
  told : ∀ k, k < g → M k ≠ none
  conn : ∀ j, M j ≠ none → ∃ k, k < g ∧ Cn m tw k j
  nf : ∀ j, j < m → (∀ k, k < j → ¬ Cn m tw k j) → ∀ b, M j = some b → b = false
  ag : ∀ o, VO m K tw o → NF m tw o → AgM m o M
def ClN (m : Nat) (tw : Nat → Nat) (M : Nat → Option Bool) : Prop := ∀ j, j < m → M j ≠ none → ∀ s, s < 3 → M (nb tw j s) ≠ none
section
variable {m g i j k s u0 : Nat} {K : Nat → Int} {tw : Nat → Nat} {M : Nat → Option Bool} {b mo : Bool}
theorem MJ.start : MJ m K tw 0 (fun _ => none) := ⟨fun k h => absurd h (Nat.not_lt_zero _), fun _ h => absurd rfl h, fun _ _ _ _ h => (by cases h), fun _ _ _ _ _ _ h => (by cases h)⟩
theorem ClN.start : ClN m tw (fun _ => none) := fun _ _ h => absurd rfl h
theorem MJ.same (h : MJ m K tw g M) (hg : M g ≠ none) : MJ m K tw (g + 1) M :=
  ⟨fun k hk => by
    by_cases e : k = g
    · rw [e]; exact hg
    · exact h.told k (by omega), fun j hj => by obtain ⟨k, h1, h2⟩ := h.conn j hj; exact ⟨k, by omega, h2⟩, h.nf, h.ag⟩
theorem ClN.cn (h : ClN m tw M) (hk : M k ≠ none) (hc : Cn m tw k j) : M j ≠ none := by
  induction hc with
  | refl => exact hk
  | step hc hj s hs ih => exact h _ hj ih s hs
theorem MJ.begin (h : MJ m K tw g M) (hc : ClN m tw M) (hg : M g = none) (hgm : g < m) : MJ m K tw (g + 1) (upM M g false) := by
  have hf : ∀ k, k < g → ¬ Cn m tw k g := fun k hk q => hc.cn (h.told k hk) q hg;refine ⟨fun k hk => ?_, fun j hj => ?_, fun j hj hfj b hb => ?_, fun o ho hn j hj b hb => ?_⟩
  · by_cases e : k = g
    · rw [e, upM_eq]; exact fun q => (by cases q)
    · rw [upM_ne e]; exact h.told k (by omega)
  · by_cases e : j = g
    · rw [e]; exact ⟨g, by omega, .refl⟩
    · rw [upM_ne e] at hj
      obtain ⟨k, h1, h2⟩ := h.conn j hj; exact ⟨k, by omega, h2⟩
  · by_cases e : j = g
    · rw [e, upM_eq] at hb; exact (Option.some.inj hb).symm
    · rw [upM_ne e] at hb; exact h.nf j hj hfj b hb
  · by_cases e : j = g
    · rw [e, upM_eq] at hb; rw [e, ← Option.some.inj hb]; exact hn g hgm hf
    · rw [upM_ne e] at hb; exact h.ag o ho hn j hj b hb
theorem MJ.step (h : MJ m K tw g M) (hi : i < m) (hk : k < m) (hMi : M i ≠ none) (hMk : M k = none) (hs : s < 3) (hn : nb tw i s = k) (hv : ∀ o, VO m K tw o → AgM m o M → o k = b) : MJ m K tw g (upM M k b) := by
  refine ⟨fun j hj => ?_, fun j hj => ?_, fun j hj hfj c hb => ?_, fun o ho hno j hj c hb => ?_⟩
  · by_cases e : j = k
    · rw [e, upM_eq]; exact fun q => (by cases q)
    · rw [upM_ne e]; exact h.told j hj
  · by_cases e : j = k
    · obtain ⟨k', h1, h2⟩ := h.conn i hMi
      rw [e, ← hn]; exact ⟨k', h1, .step h2 hi s hs⟩
    · rw [upM_ne e] at hj; exact h.conn j hj
  · by_cases e : j = k
    · obtain ⟨k', h1, h2⟩ := h.conn i hMi
      have h3 : ¬ k < g := fun q => h.told k q hMk;exact absurd (by rw [e, ← hn]; exact .step h2 hi s hs) (hfj k' (by omega))
    · rw [upM_ne e] at hb; exact h.nf j hj hfj c hb
  · by_cases e : j = k
    · rw [e, upM_eq] at hb; rw [e, ← Option.some.inj hb]; exact hv o ho (h.ag o ho hno)
    · rw [upM_ne e] at hb; exact h.ag o ho hno j hj c hb
structure I4 (m : Nat) (K : Nat → Int) (tw : Nat → Nat) (g : Nat) (M : Nat → Option Bool) (mo : Bool) (u0 i k : Nat) : Prop where
  mj : MJ m K tw g M
  row : mo = false → ∀ j, j < i → M j ≠ none → ∀ s, s < 3 → M (nb tw j s) ≠ none
  cur : mo = false → M i ≠ none → ∀ s, s < 3 → nb tw i s < k → M (nb tw i s) ≠ none
  un : unv m M ≤ u0
  mun : mo = true → unv m M < u0
theorem I4.start (h : MJ m K tw g M) : I4 m K tw g M false (unv m M) 0 0 := ⟨h, fun _ j hj => absurd hj (Nat.not_lt_zero _), fun _ _ _ _ h => absurd h (Nat.not_lt_zero _), Nat.le_refl _, fun h => (by cases h)⟩
theorem I4.skip1 (h : I4 m K tw g M mo u0 i k) (hk : M k ≠ none) : I4 m K tw g M mo u0 i (k + 1) := ⟨h.mj, h.row, fun h1 h2 s hs h3 => by
  by_cases e : nb tw i s = k
  · rw [e]; exact hk
  · exact h.cur h1 h2 s hs (by omega), h.un, h.mun⟩
theorem I4.skip2 (h : I4 m K tw g M mo u0 i k) (hk : ¬ ∃ s, s < 3 ∧ nb tw i s = k) : I4 m K tw g M mo u0 i (k + 1) := ⟨h.mj, h.row, fun h1 h2 s hs h3 => by
  by_cases e : nb tw i s = k
  · exact absurd ⟨s, hs, e⟩ hk
  · exact h.cur h1 h2 s hs (by omega), h.un, h.mun⟩
theorem I4.put (h : I4 m K tw g M mo u0 i k) (hk : k < m) (hMk : M k = none) (hj : MJ m K tw g (upM M k b)) : I4 m K tw g (upM M k b) true u0 i (k + 1) := by
  have hu := unv_up (M2 := upM M k b) hk hMk (fun _ _ h => h);have := h.un;exact ⟨hj, fun h => (by cases h), fun h => (by cases h), by omega, fun _ => by omega⟩
theorem I4.next (h : I4 m K tw g M mo u0 i k) (hlt : ∀ s, s < 3 → nb tw i s < m) (he : k = m ∨ M i = none) : I4 m K tw g M mo u0 (i + 1) 0 :=
  ⟨h.mj, fun h1 j hj h2 s hs => by
    by_cases e : j = i
    · rcases he with q | q
      · rw [e] at h2 ⊢; exact h.cur h1 h2 s hs (by rw [q]; exact hlt s hs)
      · rw [e] at h2; exact absurd q h2
    · exact h.row h1 j (by omega) h2 s hs, fun _ _ _ _ h => absurd h (Nat.not_lt_zero _), h.un, h.mun⟩
theorem I4.fin (h : I4 m K tw g M false u0 m k) : ClN m tw M := fun j hj h2 s hs => h.row rfl j hj h2 s hs
end
theorem orB_upT {R : Nat → Nat → Int} {M : Nat → Option Bool} {k : Nat} (hM : M k = none) : ∀ i, (if i = k then ovr (orB R (oM M) k) else orB R (oM M) i) = orB R (oM (upM M k true)) i := fun i => by
  have h0 : oM M k = false := by unfold oM; rw [hM]; rfl
  by_cases e : i = k
  · rw [if_pos e, e]
    unfold orB
    rw [h0, show oM (upM M k true) k = true from by unfold oM; rw [upM_eq]; rfl]; rfl
  · rw [if_neg e]
    unfold orB
    rw [show oM (upM M k true) i = oM M i from by unfold oM; rw [upM_ne e]]
theorem orB_upF {R : Nat → Nat → Int} {M : Nat → Option Bool} {k : Nat} (hM : M k = none) : ∀ i, orB R (oM M) i = orB R (oM (upM M k false)) i := fun i => by
  unfold orB
  rw [show oM (upM M k false) i = oM M i from by
    unfold oM
    by_cases e : i = k
    · rw [e, upM_eq, hM]; rfl
    · rw [upM_ne e]]
/-! The surface turned over: its sides, its twins. -/
def tpl (o : Nat → Bool) (x : Nat) : Nat := x / 3 * 3 + tix (o (x / 3)) (x % 3)
theorem tpl_div {o : Nat → Bool} {x : Nat} : tpl o x / 3 = x / 3 := by
  unfold tpl
  have := tix_lt (b := o (x / 3)) (Nat.mod_lt x (show 0 < 3 by decide))
  omega
theorem tpl_tpl {o : Nat → Bool} {x : Nat} : tpl o (tpl o x) = x := by
  have h := tix_lt (b := o (x / 3)) (Nat.mod_lt x (show 0 < 3 by decide));have e : tpl o x % 3 = tix (o (x / 3)) (x % 3) := by unfold tpl; omega
  have e2 : tpl o (tpl o x) = tpl o x / 3 * 3 + tix (o (tpl o x / 3)) (tpl o x % 3) := rfl;rw [e2, tpl_div, e, tix_tix (Nat.mod_lt _ (by decide))]; omega
theorem tpl_lt {o : Nat → Bool} {x m : Nat} (h : x < m * 3) : tpl o x < m * 3 := by
  have := tpl_div (o := o) (x := x); omega
theorem plK_or {R : Nat → Nat → Int} {o : Nat → Bool} {x : Nat} : plK (orB R o) x = sgn (o (x / 3)) (plK R (tpl o x)) := by
  have h := Nat.mod_lt x (show 0 < 3 by decide)
  unfold tpl
  rw [plK_at (tix_lt h)];exact orB_at h
def twO (o : Nat → Bool) (tw : Nat → Nat) (x : Nat) : Nat := tpl o (tw (tpl o x))
theorem twP_or {m : Nat} {R : Nat → Nat → Int} {tw : Nat → Nat} {o : Nat → Bool} (h : TwP (m * 3) (plK R) tw) : TwP (m * 3) (plK (orB R o)) (twO o tw) := by
  refine ⟨fun x hx => tpl_lt (h.lt _ (tpl_lt hx)), fun x hx e => ?_, fun x hx => ?_, fun x y hx hy e => ?_⟩
  · have e2 : tw (tpl o x) = tpl o x := by
      have := congrArg (tpl o) e
      unfold twO at this
      rwa [tpl_tpl] at this
    exact h.ne _ (tpl_lt hx) e2
  · rw [plK_or, plK_or, sgn_abs, sgn_abs]
    unfold twO
    rw [tpl_tpl];exact h.abs _ (tpl_lt hx)
  · rw [plK_or, plK_or, sgn_abs, sgn_abs] at e
    rcases h.only _ _ (tpl_lt hx) (tpl_lt hy) e with q | q
    · left
      have := congrArg (tpl o) q
      rwa [tpl_tpl, tpl_tpl] at this
    · right
      have := congrArg (tpl o) q
      rwa [tpl_tpl] at this
theorem usP_or {R : Nat → Nat → Int} {o : Nat → Bool} {k x : Nat} : usP (orB R o) k x = usP R k (tpl o x) := by
  unfold usP
  have h := plK_or (R := R) (o := o) (x := x)
  unfold plK at h
  rw [h, sgn_abs]
theorem us_or {R : Nat → Nat → Int} {o : Nat → Bool} {k : Nat} : ∀ i, us (orB R o) k (i * 3) = us R k (i * 3)
  | 0 => rfl
  | i + 1 => by
    have ih := us_or (R := R) (o := o) (k := k) i
    unfold us at *
    rw [show (i + 1) * 3 = i * 3 + 1 + 1 + 1 by omega]
    simp only [cnt]
    rw [ih, usP_or, usP_or, usP_or]
    have h0 : tpl o (i * 3) = i * 3 + tix (o i) 0 := by unfold tpl; rw [show i * 3 / 3 = i by omega, show i * 3 % 3 = 0 by omega]
    have h1 : tpl o (i * 3 + 1) = i * 3 + tix (o i) 1 := by unfold tpl; rw [show (i * 3 + 1) / 3 = i by omega, show (i * 3 + 1) % 3 = 1 by omega]
    have h2 : tpl o (i * 3 + 1 + 1) = i * 3 + tix (o i) 2 := by unfold tpl; rw [show (i * 3 + 1 + 1) / 3 = i by omega, show (i * 3 + 1 + 1) % 3 = 2 by omega]
    rw [h0, h1, h2]
    cases o i
    · rfl
    · show cnt (usP R k) (i * 3) + (if usP R k (i * 3 + 2) = true then 1 else 0) + (if usP R k (i * 3 + 1) = true then 1 else 0) + (if usP R k (i * 3) = true then 1 else 0) = _
      omega
theorem surf_or {m : Nat} {Ln : Nat → Nat} {R : Nat → Nat → Int} {o : Nat → Bool} (h : SurfP m Ln R) : SurfP m Ln (orB R o) := by
  refine ⟨h.1, fun i hi => ⟨(h.2.1 i hi).1, fun j hj => ?_⟩, fun k h1 h2 => by rw [us_or]; exact h.2.2 k h1 h2⟩;have := (h.2.1 i hi).2 _ (tix_lt (b := o i) hj);rw [orB_at hj]
  unfold goodP at *
  unfold sgn
  split <;> omega
theorem orP_or {m : Nat} {Ln : Nat → Nat} {R : Nat → Nat → Int} {tw : Nat → Nat} {o : Nat → Bool} (hS : SurfP m Ln R) (h : TwP (m * 3) (plK R) tw) : OrP m (orB R o) (twO o tw) ↔ VO m (plK R) tw o := by
  have key : ∀ y, y < m * 3 → (sgn (o (y / 3)) (plK R y) ≠ sgn (o (tw y / 3)) (plK R (tw y)) ↔ o (tw y / 3) = decide (o (y / 3) ≠ alk (plK R) tw y)) := fun y hy => by
    have ha := h.abs y hy;have hz := rowsG_abs hS.2.1 y hy;have hz2 : 1 ≤ (plK R y).natAbs := hz.1
    unfold alk sgn
    cases o (y / 3) <;> cases o (tw y / 3) <;> by_cases e : plK R y = plK R (tw y) <;> simp [e] <;> omega
  constructor
  · intro hO i hi s hs
    have hx : i * 3 + s < m * 3 := by omega
    have hd := tpl_div (o := o) (x := i * 3 + s);have hl := tpl_lt (o := o) hx;have h1 := hO (tpl o (i * 3 + s) / 3) (by omega) (tpl o (i * 3 + s) % 3) (Nat.mod_lt _ (by decide));rw [show tpl o (i * 3 + s) / 3 * 3 + tpl o (i * 3 + s) % 3 = tpl o (i * 3 + s) by omega, plK_or, plK_or] at h1
    unfold twO at h1
    rw [tpl_tpl, tpl_tpl, tpl_div, tpl_div] at h1;have h2 := (key _ hx).1 h1;rw [show (i * 3 + s) / 3 = i by omega] at h2;exact h2
  · intro hV i hi s hs
    have hx : i * 3 + s < m * 3 := by omega
    have hd := tpl_div (o := o) (x := i * 3 + s);have hl := tpl_lt (o := o) hx;rw [plK_or, plK_or]
    unfold twO
    rw [tpl_tpl, tpl_div];have h1 := hV (tpl o (i * 3 + s) / 3) (by omega) (tpl o (i * 3 + s) % 3) (Nat.mod_lt _ (by decide))
    unfold nb at h1
    rw [show tpl o (i * 3 + s) / 3 * 3 + tpl o (i * 3 + s) % 3 = tpl o (i * 3 + s) by omega] at h1;have h2 := (key _ hl).2 h1;rw [hd] at h2;exact h2
end Go.Proofs.Ytfakhcmamdefiaa
