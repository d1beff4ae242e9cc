/- What functions of the program return, as walks over their operations; no statement of the seat is proved here. -/
import Derived.Test.YtnedojhanlhjkaaX3
import Derived.Test.YtnedojhanlhjkaaSw10
set_option linter.unusedVariables false
set_option linter.unusedSimpArgs false
namespace Go.Proofs.Ytnedojhanlhjkaa
open Go Go.RowKit Go.Sw Go.Ech
open Classical
theorem ty_ag_36 : aggP Try.prog 36 = some 237 := by kernel_rfl
theorem ty_ub_4 : Try.prog.underlying 4 = some .bool := by kernel_rfl
theorem szDesk_ok (p n : Int) (T : Nat → Nat → Nat → Nat) (f u v : Nat → Nat) (s : ByteArray) (w : World) (hz : s.size ≤ 1048576) :
    CallsR Try.prog 8 #[.agg (deskC p n T f u v s), .int .i64 (1048576)] w (fun res _ => res = .int .i64 (1048576 - (s.size : Int))) := by
  refine calls_fr [.agg (deskC p n T f u v s), .int .i64 (1048576)] Try.func8 rfl Try.ntmps8 rfl fun a hF => ?_;have hM : Mem w w [none] [] := MemX.start w 1;change Fr 13 a [(0, .agg (deskC p n T f u v s)), (1, .int .i64 (1048576))] at hF;refine sr <| stR hF (d_box 0 hM hF rfl) rfl ?_;rintro _ w' a ⟨b1, rfl, hM, -⟩ hF;change Mem w w' [some (b1, deskC p n T f u v s)] [] at hM;refine ag hF rfl rfl fun a hF => ns <| mv hF rfl rfl fun a hF => st hF (g_fieldAddr ty_fo_36_3 hF rfl) rfl fun a hF => st hF (g_load ty_on_9 hF rfl (hM.row 0 rfl) (deskC_s (by omega))) rfl fun a hF => st hF (g_lenS ty_ut_9 hF rfl) rfl fun a hF => st hF (g_sub hF rfl rfl (wrap_i64 (by omega) (by omega))) rfl fun a hF => ag hF rfl rfl fun a hF => nt <| sq <| sr <| mv hF rfl rfl fun a hF => st hF (g_lss hF rfl rfl) rfl fun a hF => nt <| c_cond hF rfl (fun h2 => ?_) (fun h2 => ?_)
  · exfalso; omega
  refine wp_skip <| tN <| sr <| mv hF rfl rfl fun a hF => ag hF rfl rfl fun a hF => nt <| wp_ret <| fin1 rfl hF.defers (res_tmp hF rfl) ⟨_, rfl, hM.below, ?_⟩
  show _ = _
  exact congrArg (Value.int .i64) (by omega)
theorem szDesk_B (p n : Int) (T : Nat → Nat → Nat → Nat) (f u v : Nat → Nat) (s : ByteArray) (w : World) (hz : ¬ s.size ≤ 1048576) (hml : s.size ≤ maxLen) :
    CallsR Try.prog 8 #[.agg (deskC p n T f u v s), .int .i64 (1048576)] w (fun res _ => res = .int .i64 (-1)) := by
  refine calls_fr [.agg (deskC p n T f u v s), .int .i64 (1048576)] Try.func8 rfl Try.ntmps8 rfl fun a hF => ?_;have hM : Mem w w [none] [] := MemX.start w 1;change Fr 13 a [(0, .agg (deskC p n T f u v s)), (1, .int .i64 (1048576))] at hF;have hm2 : maxLen ≤ 9223372036854775807 := by decide +kernel
  refine sr <| stR hF (d_box 0 hM hF rfl) rfl ?_;rintro _ w' a ⟨b1, rfl, hM, -⟩ hF;change Mem w w' [some (b1, deskC p n T f u v s)] [] at hM;refine ag hF rfl rfl fun a hF => ns <| mv hF rfl rfl fun a hF => st hF (g_fieldAddr ty_fo_36_3 hF rfl) rfl fun a hF => st hF (g_load ty_on_9 hF rfl (hM.row 0 rfl) (deskC_s (by omega))) rfl fun a hF => st hF (g_lenS ty_ut_9 hF rfl) rfl fun a hF => st hF (g_sub hF rfl rfl (wrap_i64 (by omega) (by omega))) rfl fun a hF => ag hF rfl rfl fun a hF => nt <| sq <| sr <| mv hF rfl rfl fun a hF => st hF (g_lss hF rfl rfl) rfl fun a hF => nt <| c_cond hF rfl (fun h2 => ?_) (fun h2 => ?_)
  · refine sq ?_
    refine wp_region_lit <| ag hF rfl rfl fun a hF => nt <| wp_ret <| tR <| fin1 rfl hF.defers (res_tmp hF rfl) ⟨_, rfl, hM.below, ?_⟩
    show _ = _
    rfl
  exfalso; omega
theorem law_IsDeskW (p n : Int) (T : Nat → Nat → Nat → Nat) (f u v : Nat → Nat) (s : ByteArray) (q : Bool) (w : World) (hz : s.size ≤ 1048576) (hSS : ∀ w1, CallsV Try.prog 9 #[.agg (deskC p n T f u v s)] w1 (.bool q)) (hII : ∀ w1, CallsV Try.prog 11 #[.agg (deskC p n T f u v s)] w1 (.bool q)) :
    CallsR Try.prog 4 #[.agg (deskC p n T f u v s)] w (fun res _ => res = .bool true) := by
  refine calls_fr [.agg (deskC p n T f u v s)] Try.func4 rfl Try.ntmps4 rfl fun a hF => ?_;have hM : Mem w w [none] [] := MemX.start w 1;change Fr 20 a [(0, .agg (deskC p n T f u v s))] at hF;refine sr <| stR hF (d_box 0 hM hF rfl) rfl ?_;rintro _ w' a ⟨b1, rfl, hM, -⟩ hF;change Mem w w' [some (b1, deskC p n T f u v s)] [] at hM;refine ag hF rfl rfl fun a hF => ns <| ag hF rfl rfl fun a hF => ns <| st hF (g_loadAgg ty_ag_36 hF rfl (hM.row 0 rfl) (by simp only [sz0, grpC_size, v3C_size, pm6C_size, v4C_size, sq4C_size, w3C_size, pm6I_size, layC_size, deskC_size] <;> omega) (whole (by simp only [sz0, grpC_size, v3C_size, pm6C_size, v4C_size, sq4C_size, w3C_size, pm6I_size, layC_size, deskC_size]))) rfl fun a hF => mv hF rfl rfl fun a hF => stR hF (d_call Try.call8 hF (.cons rfl (.cons rfl .nil)) (szDesk_ok p n T f u v s _ hz)) rfl ?_;rintro _ w' a ⟨hx, rfl⟩ hF;have hM := hM.ext hx;refine ag hF rfl rfl fun a hF => nt <| sq <| sr <| mv hF rfl rfl fun a hF => st hF (g_lss hF rfl rfl) rfl fun a hF => nt <| c_cond hF rfl (fun h2 => ?_) (fun h2 => ?_)
  · exfalso; omega
  refine wp_skip <| tN <| sr <| st hF (g_loadAgg ty_ag_36 hF rfl (hM.row 0 rfl) (by simp only [sz0, grpC_size, v3C_size, pm6C_size, v4C_size, sq4C_size, w3C_size, pm6I_size, layC_size, deskC_size] <;> omega) (whole (by simp only [sz0, grpC_size, v3C_size, pm6C_size, v4C_size, sq4C_size, w3C_size, pm6I_size, layC_size, deskC_size]))) rfl fun a hF => stR hF (d_call Try.call10 hF (.cons rfl .nil) (toDesk_ok p n T f u v s _)) rfl ?_;rintro _ w' a ⟨hx, rfl⟩ hF;have hM := hM.ext hx;refine stR hF (d_call Try.call9 hF (.cons rfl .nil) (hSS _)) rfl ?_;rintro _ w' a ⟨hx, rfl⟩ hF;have hM := hM.ext hx;refine ag hF rfl rfl fun a hF => ns <| st hF (g_loadAgg ty_ag_36 hF rfl (hM.row 0 rfl) (by simp only [sz0, grpC_size, v3C_size, pm6C_size, v4C_size, sq4C_size, w3C_size, pm6I_size, layC_size, deskC_size] <;> omega) (whole (by simp only [sz0, grpC_size, v3C_size, pm6C_size, v4C_size, sq4C_size, w3C_size, pm6I_size, layC_size, deskC_size]))) rfl fun a hF => stR hF (d_call Try.call10 hF (.cons rfl .nil) (toDesk_ok p n T f u v s _)) rfl ?_;rintro _ w' a ⟨hx, rfl⟩ hF;have hM := hM.ext hx;refine stR hF (d_call Try.call11 hF (.cons rfl .nil) (hII _)) rfl ?_;rintro _ w' a ⟨hx, rfl⟩ hF;have hM := hM.ext hx;refine ag hF rfl rfl fun a hF => nt <| sq <| sr <| mv hF rfl rfl fun a hF => mv hF rfl rfl fun a hF => st hF (g_neqBo ty_ub_4 hF rfl rfl) rfl fun a hF => nt <| c_cond hF rfl (fun h3 => ?_) (fun h3 => ?_)
  · first | exact absurd rfl h3 | exact absurd (fun _ _ => rfl) h3 | (exfalso; omega)
  refine wp_skip <| tN <| sr <| ag hF rfl rfl fun a hF => nt <| wp_ret <| fin1 rfl hF.defers (res_tmp hF rfl) ⟨_, rfl, hM.below, ?_⟩
  show _ = _
  rfl
theorem law_IsDeskB (p n : Int) (T : Nat → Nat → Nat → Nat) (f u v : Nat → Nat) (s : ByteArray) (w : World) (hz : ¬ s.size ≤ 1048576) (hml : s.size ≤ maxLen) :
    CallsR Try.prog 4 #[.agg (deskC p n T f u v s)] w (fun res _ => res = .bool true) := by
  refine calls_fr [.agg (deskC p n T f u v s)] Try.func4 rfl Try.ntmps4 rfl fun a hF => ?_;have hM : Mem w w [none] [] := MemX.start w 1;change Fr 20 a [(0, .agg (deskC p n T f u v s))] at hF;refine sr <| stR hF (d_box 0 hM hF rfl) rfl ?_;rintro _ w' a ⟨b1, rfl, hM, -⟩ hF;change Mem w w' [some (b1, deskC p n T f u v s)] [] at hM;refine ag hF rfl rfl fun a hF => ns <| ag hF rfl rfl fun a hF => ns <| st hF (g_loadAgg ty_ag_36 hF rfl (hM.row 0 rfl) (by simp only [sz0, grpC_size, v3C_size, pm6C_size, v4C_size, sq4C_size, w3C_size, pm6I_size, layC_size, deskC_size] <;> omega) (whole (by simp only [sz0, grpC_size, v3C_size, pm6C_size, v4C_size, sq4C_size, w3C_size, pm6I_size, layC_size, deskC_size]))) rfl fun a hF => mv hF rfl rfl fun a hF => stR hF (d_call Try.call8 hF (.cons rfl (.cons rfl .nil)) (szDesk_B p n T f u v s _ hz hml)) rfl ?_;rintro _ w' a ⟨hx, rfl⟩ hF;have hM := hM.ext hx;refine ag hF rfl rfl fun a hF => nt <| sq <| sr <| mv hF rfl rfl fun a hF => st hF (g_lss hF rfl rfl) rfl fun a hF => nt <| c_cond hF rfl (fun h2 => ?_) (fun h2 => ?_)
  · refine sq ?_
    refine wp_region_lit <| ag hF rfl rfl fun a hF => nt <| wp_ret <| tR <| fin1 rfl hF.defers (res_tmp hF rfl) ⟨_, rfl, hM.below, ?_⟩
    show _ = _
    rfl
  exfalso; omega
theorem law_IsDesk (p n : Int) (T : Nat → Nat → Nat → Nat) (f u v : Nat → Nat) (s : ByteArray) (w : World) (hT : ∀ i j k, T i j k ≤ 255) (hf : ∀ i, f i ≤ 255) (hu : ∀ i, u i ≤ 255) (hv : ∀ i, v i ≤ 255) (hml : s.size ≤ maxLen) : CallsV Try.prog 4 #[.agg (deskC p n T f u v s)] w (.bool true) := by
  by_cases hz : s.size ≤ 1048576
  · by_cases hc : CodeP p n T f 2 (vAtL [u, v])
    · by_cases h0 : s.size = 0
      · rw [str_e0 h0]
        exact law_IsDeskW p n T f u v ⟨#[]⟩ true w (by show (0 : Nat) ≤ 1048576; omega) (fun w1 => IsDeskS_E p n T f u v w1 hT hf hu hv hc) (fun w1 => IsDeskI_E p n T f u v w1 hT hf hu hv hc)
      · by_cases hW : WordP s
        · exact law_IsDeskW p n T f u v s true w hz (fun w1 => IsDeskS_Y p n T f u v s w1 hT hf hu hv hc hW (by omega)) (fun w1 => IsDeskI_Y p n T f u v s w1 hT hf hu hv hc hW (by omega))
        · by_cases h3 : s.size ≤ 300
          · exact law_IsDeskW p n T f u v s false w hz (fun w1 => IsDeskS_N p n T f u v s w1 hT hf hu hv hc hW (by omega) (by omega)) (fun w1 => IsDeskI_N p n T f u v s w1 hT hf hu hv hc hW (by omega) h3)
          · exact law_IsDeskW p n T f u v s false w hz (fun w1 => IsDeskS_N p n T f u v s w1 hT hf hu hv hc hW (by omega) (by omega)) (fun w1 => IsDeskI_L p n T f u v s w1 hT hf hu hv hc (by omega))
    · exact law_IsDeskW p n T f u v s false w hz (fun w1 => IsDeskS_A p n T f u v s w1 hT hf hu hv hc) (fun w1 => IsDeskI_A p n T f u v s w1 hT hf hu hv hc)
  · exact law_IsDeskB p n T f u v s w hz hml
end Go.Proofs.Ytnedojhanlhjkaa
