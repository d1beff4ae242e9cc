/- What functions of the program return, as walks over their operations; no statement of the seat is proved here. -/
import Derived.Test.YtockjnhdllcfpaaB2
set_option linter.unusedVariables false
set_option linter.unusedSimpArgs false
namespace Go.Proofs.Ytockjnhdllcfpaa
open Go Go.RowKit Go.Sw Go.Ech
open Classical
theorem ty_bpl_52 : ∀ (x : Int) (u : Option Addr) (m c : Nat) w, (Instr.build 52 #[(0, .int .i64 x), (1, .slice u m c)]).run Try.prog w = .ok (.agg (smC x (.slice u m c))) w := by intros; kernel_rfl
def polC (p : Int) (m : Nat) (F : Nat → Int) : Int := if PolP p m F then 0 else 2
theorem l09PolyI_ok (p : Int) (b m : Nat) (F : Nat → Int) (w : World) (hm : m < 10000000) (hb : Blk w b (numI m F)) : CallsR Try.prog 32 #[.int .i64 p, .slice (some ⟨b, 0, none⟩) m m] w (fun u _ => u = .int .i64 (polC p m F)) := by
  unfold polC
  by_cases h : PolP p m F
  · rw [if_pos h]; exact l09Poly_V p b m F w hm hb (fun _ => trivial) h
  · rw [if_neg h]; exact l09Poly_R p b m F w hm hb (fun _ => trivial) h
theorem polC_yes {p : Int} {m : Nat} {F : Nat → Int} (h : ¬ polC p m F ≠ 0) : PolP p m F := by
  unfold polC at h
  by_cases q : PolP p m F
  · exact q
  · rw [if_neg q] at h; omega
end Go.Proofs.Ytockjnhdllcfpaa
