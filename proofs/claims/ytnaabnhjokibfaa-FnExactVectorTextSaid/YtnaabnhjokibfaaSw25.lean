/- Plain lemmas of a small calculus for walks over frames and own memory; no statement of the seat is proved here. -/
import Derived.Test.YtnaabnhjokibfaaSw24
import Derived.Laws.CopyRow
set_option linter.unusedVariables false
set_option linter.unusedSimpArgs false
/-! The copy builtin, and slices of arrays with a bound: plain lemmas. -/
namespace Go.Sw
open Go Go.RowKit
section
variable {P : Program} {n : Nat} {a : Act} {w0 w : World} {X : List Nat} {F : List (Nat × Value)} {L : Own} {D : Froz} {d : Option Tmp} {T : TypeId} {x y : Operand} {t : TypeId} {pos : String} {af : Array Edge} {gd : Option (Nat × Bool)}
theorem fnC_list {N : Nat} {g : Nat → Value} {j : Nat} {v : Value} (h : (fnC N g).toList[j]? = some v) : j < N ∧ v = g j := by
  rw [Array.getElem?_toList] at h
  by_cases hj : j < N
  · rw [fnC_get hj] at h; exact ⟨hj, (Option.some.inj h).symm⟩
  · rw [Array.getElem?_eq_none (by rw [fnC_size]; omega)] at h; cases h
theorem d_copy {e : TypeId} {b o dl dc b2 o2 sl sc N : Nat} {cs cs' : Array Value} {g : Nat → Value} (k : Nat) (hT : P.underlying T = some (.slice e)) (he : sizeP P e = some 1) (hM : MemX X w0 w L D) (hk : L[k]? = some (some (b, cs))) (hF : Fr n a F)
    (hx : look F x = some (.slice (some ⟨b, o, none⟩) dl dc)) (hy : look F y = some (.slice (some ⟨b2, o2, none⟩) sl sc)) (hN : N = Nat.min sl dl) (hsrc : ∀ j, j < N → w.cell? ⟨b2, o2 + j, none⟩ = some (g j)) (hfit : o + N ≤ cs.size) (h1 : ∀ j, j < N → (g j).oneCell' = true) (hC : splice cs o (fnC N g) = cs') :
    Does P ⟨d, .call { callee := .builtin .copy, args := #[x, y], argTypes := #[T, T] }, t, pos, af, gd⟩ a w (fun u w' => u = .int .i64 ((N : Nat) : Int) ∧ MemX X w0 w' (L.set k (some (b, cs'))) D) := by
  have hb := hM.row k hk
  obtain ⟨tt, hg⟩ := hb
  have hM' := hM.setRow k hk cs'
  have hl : (fnC N g).toList.length = N := by simp [fnC_size]
  have hs : (P.info? e).map (·.size) = some 1 := by
    unfold sizeP at he
    exact he
  have hr := fun ty => run_copy_row (P := P) w T T ty e b o dl dc ⟨b2, o2, none⟩ sl sc cs tt (fnC N g).toList hT hs hg (by rw [hl, hN]) (fun j v hj => by
    obtain ⟨h2, rfl⟩ := fnC_list hj
    rw [Addr.add_lit]; exact hsrc j h2) (by rw [hl]; exact hfit) (fun v hv => by
    obtain ⟨j, hj⟩ := List.getElem?_of_mem hv
    obtain ⟨h2, rfl⟩ := fnC_list hj
    exact h1 j h2)
  have e1 : (cs.toList.take o ++ (fnC N g).toList ++ cs.toList.drop (o + (fnC N g).toList.length)).toArray = cs' := by
    rw [← hC]; simp [splice]
  refine ⟨fun K Q hq => ?_⟩
  unfold Oper.wp execOp
  simp only [resolve, invoke, builtin, Sem.run_bind, Sem.run_pure, Result.andThen_ok, List.map_toArray, List.map_cons, List.map_nil, hF.eval hx, hF.eval hy]
  rw [hr, e1, hl]
  exact hq _ _ ⟨rfl, hM'⟩
theorem g_sliceArrHi {k b o s i : Nat} {e : TypeId} {κ : IntKind} {X : Int} (hT : P.underlying T = some (.array k e)) (he : sizeP P e = some s) (hk : 0 < k) (hF : Fr n a F) (hx : look F x = some (ptr b o)) (hy : look F y = some (.int κ X)) (hX : X = (i : Int)) (hi : i ≤ k) : Gives P ⟨d, .slice T x none (some y) none, t, pos, af, gd⟩ a w (.slice (some ⟨b, o, none⟩) i k) := by
  subst hX
  refine gives_of_run ?_
  have h1 : (0 : Int) ≤ (i : Int) ∧ (i : Int) ≤ (k : Int) := by omega
  have h2 := run_sizeOf he w
  have h3 : ¬ k = 0 := by omega
  simp [execOp, Instr.sliceAt, Instr.slice, run_underlying hT, hF.eval hx, hF.eval hy, Instr.sureAddr, Instr.sliceBounds, Instr.sliceBound, asIntOf, h1, h2, h3, Addr.add_lit, goInt]
  intro h; omega
theorem g_sliceArrLo {k b o s i : Nat} {e : TypeId} {κ : IntKind} {X : Int} (hT : P.underlying T = some (.array k e)) (he : sizeP P e = some s) (hF : Fr n a F) (hx : look F x = some (ptr b o)) (hy : look F y = some (.int κ X)) (hX : X = (i : Int)) (hi : i < k) : Gives P ⟨d, .slice T x (some y) none none, t, pos, af, gd⟩ a w (.slice (some ⟨b, o + i * s, none⟩) (k - i) (k - i)) := by
  subst hX
  refine gives_of_run ?_
  have h1 : (0 : Int) ≤ (i : Int) ∧ (i : Int) ≤ (k : Int) := by omega
  have h2 := run_sizeOf he w
  have h3 : ¬ k - i = 0 := by omega
  simp [execOp, Instr.sliceAt, Instr.slice, run_underlying hT, hF.eval hx, hF.eval hy, Instr.sureAddr, Instr.sliceBounds, Instr.sliceBound, asIntOf, h1, h2, h3, Addr.add_lit, goInt]
  rw [if_pos (by omega), if_neg (by omega)]
theorem build013 {x0 x1 x2 : Operand} {v0 v1 v2 : Value} (hF : Fr n a F) (h0 : look F x0 = some v0) (h1 : look F x1 = some v1) (h2 : look F x2 = some v2) : (#[(0, x0), (1, x1), (3, x2)] : Array (Nat × Operand)).toList.map (fun p => (p.1, a.eval p.2)) = [(0, v0), (1, v1), (3, v2)] := by simp [hF.eval h0, hF.eval h1, hF.eval h2]
theorem g_buildP {parts : Array (Nat × Operand)} {vs : List (Nat × Value)} {z : Value} (_hF : Fr n a F) (hp : parts.toList.map (fun p => (p.1, a.eval p.2)) = vs) (hrun : ∀ w, (Instr.build T vs.toArray).run P w = .ok z w) : Gives P ⟨d, .build T parts, t, pos, af, gd⟩ a w z := by
  refine gives_of_run ?_
  have e1 : (parts.map fun (i, x) => (i, a.eval x)) = vs.toArray := by rw [← hp]; apply Array.toList_inj.1; simp
  simp only [execOp, e1, Sem.run_bind, hrun, Result.andThen_ok, Sem.run_pure]
end
end Go.Sw
