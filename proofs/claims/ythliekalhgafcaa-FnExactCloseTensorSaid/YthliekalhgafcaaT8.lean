/- What functions of the program return, as walks over their operations; no statement of the seat is proved here. -/
import Derived.Test.YthliekalhgafcaaT7
set_option linter.unusedVariables false
set_option linter.unusedSimpArgs false
namespace Go.Proofs.Ythliekalhgafcaa
open Go Go.RowKit Go.Sw Go.Ech
open Classical
theorem ty_bs_74 : ∀ (p : Int) (b : Option Addr) (l c : Nat) w, (Instr.build 74 #[(0, .int .i64 p), (1, .slice b l c)]).run Try.prog w = .ok (.agg (smC p (.slice b l c))) w := by intros; kernel_rfl
theorem ty_ze_74 : zeroP Try.prog 74 = some (.agg (smC 0 (.slice none 0 0))) := by kernel_rfl
theorem ty_sz_74 : sizeP Try.prog 74 = some 2 := by kernel_rfl
theorem ty_ag_74 : aggP Try.prog 74 = some 2 := by kernel_rfl
theorem TenP.nat {p n i o : Int} {m : Nat} {g : Nat → Int} (h : TenP p n i o m g) : ∃ (p' n' i' o' : Nat) (f : Nat → Nat), p = p' ∧ n = n' ∧ i = i' ∧ o = o' ∧ primeP (p' : Int) ∧ 0 < n' ∧ n' ≤ 6 ∧ wl n' i' o' ∧ m = n' ^ (i' + o') ∧ (∀ c, f c < p') ∧ ∀ c, c < m → g c = ((f c : Nat) : Int) := by
  obtain ⟨⟨hp, ⟨h1, h2⟩, ⟨h3, h4⟩, h5, h6⟩, h7, h8, h9⟩ := h
  have hp0 := primeP_pos hp
  have ep : ((p.toNat : Nat) : Int) = p := by omega
  refine ⟨p.toNat, n.toNat, i.toNat, o.toNat, fun c => if c < m then (g c).toNat else 0, by omega, by omega, by omega, by omega, by rw [ep]; exact hp, by omega, by omega, ⟨by omega, by omega, h7⟩, h8, fun c => ?_, fun c hc => ?_⟩
  · dsimp only; split
    · rename_i hc; have := h9 c hc; omega
    · omega
  · dsimp only; rw [if_pos hc]; have := h9 c hc; omega
theorem TenP.of_nat {p n i o m : Nat} {f : Nat → Nat} (hpP : primeP (p : Int)) (hn0 : 0 < n) (hn : n ≤ 6) (hw : wl n i o) (hm : m = n ^ (i + o)) (hf : ∀ c, f c < p) : TenP (p : Int) (n : Int) (i : Int) (o : Int) m (fun c => ((f c : Nat) : Int)) :=
  ⟨⟨hpP, ⟨by omega, by omega⟩, ⟨by omega, by have := hw.1; omega⟩, ⟨by omega, by have := hw.2.1; omega⟩⟩, by simp only [Int.toNat_natCast]; exact hw.2.2, by simp only [Int.toNat_natCast]; exact hm, fun c _ => ⟨by show (0 : Int) ≤ ((f c : Nat) : Int); omega, by have := hf c; show ((f c : Nat) : Int) < (p : Int); omega⟩⟩

/-- Numbers and k times other numbers together. -/
def adF (p k : Nat) (f h : Nat → Nat) (c : Nat) : Nat := (f c + k * h c) % p

end Go.Proofs.Ythliekalhgafcaa
